/- ReadNumber, the code's: what it returns, by a function on lists of bytes. -/
import Derived.Test.YthhpnlobhffimaaCPure
namespace Go.Proofs.Ythhpnlobhffimaa
set_option maxRecDepth 100000
open Go.RowKit

/-- whether a number can end with group g behind i others -/
def lastB (g i : Nat) : Bool := decide ((i : Int) = 0 ∨ (g : Int) ≠ 0 ∧ ((i : Int) < 9 ∨ (g : Int) ≤ 1))
/-- what ReadNumber returns, i bytes of at least 128 having been read, which give acc -/
def rdFrom : List UInt8 → Nat → Nat → Nat × Nat × Nat
  | [], i, _ => if 10 ≤ i then (0, 0, 22) else (0, 0, 20)
  | b :: t, i, acc => if 10 ≤ i then (0, 0, 22) else
    if 128 ≤ b.toNat then rdFrom t (i + 1) (acc + (b.toNat - 128) * 128 ^ i)
    else if lastB b.toNat i = true then (acc + b.toNat * 128 ^ i, i + 1, 0) else (0, 0, 22)
def rd (l : List UInt8) : Nat × Nat × Nat := rdFrom l 0 0

def ret3 (r : Nat × Nat × Nat) : Ending := .returned (.tuple #[.int .u64 (r.1 : Int), .int .i64 (r.2.1 : Int), .int .i64 (r.2.2 : Int)])

theorem pow_grow {A c k : Nat} (hA : A < 128 ^ k) (hc : c ≤ 127) : A + c * 128 ^ k < 128 ^ (k + 1) := by
  have h := Nat.mul_le_mul_right (128 ^ k) hc
  rw [Nat.pow_succ]
  generalize 128 ^ k = P at *
  generalize c * P = Q at *
  omega
/-- The or of the code is a sum. -/
theorem or_code {A c k : Nat} (hA : A < 128 ^ k) (hk : k ≤ 9) (hc : c * 128 ^ k < 18446744073709551616) :
    bits .or .u64 (A : Int) (IntKind.u64.wrap ((c : Int) * 2 ^ (7 * k))) = ((A + c * 128 ^ k : Nat) : Int) := by
  have hp : (128 : Nat) ^ k = 2 ^ (7 * k) := by rw [show (128 : Nat) = 2 ^ 7 from rfl, ← Nat.pow_mul]
  have hle : 128 ^ k ≤ 128 ^ 9 := Nat.pow_le_pow_right (by omega) hk
  have hA' : A < 18446744073709551616 := by
    have : (128 : Nat) ^ 9 = 9223372036854775808 := rfl
    omega
  have he : ((c : Int) * 2 ^ (7 * k)) = ((c * 128 ^ k : Nat) : Int) := by rw [hp]; simp
  have hw : IntKind.u64.wrap ((c * 128 ^ k : Nat) : Int) = ((c * 128 ^ k : Nat) : Int) := by
    simp only [IntKind.wrap, IntKind.bits, IntKind.signed]
    generalize c * 128 ^ k = Q at *
    simp; omega
  rw [he, hw, u64_or_nat _ _ hA' hc, Nat.or_comm, nat_join (7 * k) _ _ (by rw [hp]; exact Nat.mul_mod_left _ _) (by rw [← hp]; exact hA), Nat.add_comm]

theorem rdFrom_more {b : UInt8} {t : List UInt8} {i acc : Nat} (hi : i < 10) (hb : 128 ≤ b.toNat) : rdFrom (b :: t) i acc = rdFrom t (i + 1) (acc + (b.toNat - 128) * 128 ^ i) := by
  rw [rdFrom, if_neg (by omega), if_pos hb]
theorem rdFrom_last {b : UInt8} {t : List UInt8} {i acc : Nat} (hi : i < 10) (hb : ¬ 128 ≤ b.toNat) (hl : lastB b.toNat i = true) : rdFrom (b :: t) i acc = (acc + b.toNat * 128 ^ i, i + 1, 0) := by
  rw [rdFrom, if_neg (by omega), if_neg hb, if_pos hl]
theorem rdFrom_bad {b : UInt8} {t : List UInt8} {i acc : Nat} (hi : i < 10) (hb : ¬ 128 ≤ b.toNat) (hl : lastB b.toNat i = false) : rdFrom (b :: t) i acc = (0, 0, 22) := by
  rw [rdFrom, if_neg (by omega), if_neg hb, if_neg (by simp [hl])]
theorem rdFrom_ten {l : List UInt8} {acc : Nat} : rdFrom l 10 acc = (0, 0, 22) := by
  cases l with
  | nil => rfl
  | cons b t => rw [rdFrom, if_pos (by omega)]
theorem rdFrom_nil {i acc : Nat} (hi : i < 10) : rdFrom [] i acc = (0, 0, 20) := by rw [rdFrom, if_neg (by omega)]

theorem last_yes (g i : Int) (w : World) (hg1 : 0 ≤ g) (hg2 : g < 256) (hi1 : 0 ≤ i) (hi2 : i < 10) (h : lastB g.toNat i.toNat = true) :
    Calls Try.prog 66 #[.int .u8 g, .int .i64 i] w fun e w' => e = .returned (.bool true) ∧ w = w' := by
  have := canBeLast_any g i w hg1 hg2 hi1 hi2
  unfold lastB at h
  rw [show ((i.toNat : Nat) : Int) = i by omega, show ((g.toNat : Nat) : Int) = g by omega] at h
  rwa [h] at this
theorem last_no (g i : Int) (w : World) (hg1 : 0 ≤ g) (hg2 : g < 256) (hi1 : 0 ≤ i) (hi2 : i < 10) (h : lastB g.toNat i.toNat = false) :
    Calls Try.prog 66 #[.int .u8 g, .int .i64 i] w fun e w' => e = .returned (.bool false) ∧ w = w' := by
  have := canBeLast_any g i w hg1 hg2 hi1 hi2
  unfold lastB at h
  rw [show ((i.toNat : Nat) : Int) = i by omega, show ((g.toNat : Nat) : Int) = g by omega] at h
  rwa [h] at this

set_option maxRecDepth 100000 in
set_option maxHeartbeats 1000000 in
theorem readNum_any (s : ByteArray) (w : World) (hs : s.size ≤ maxLen) :
    Calls Try.prog 64 #[.string s] w fun e w' => e = ret3 (rd s.data.toList) ∧ w = w' := by
  unfold maxLen at hs
  obtain ⟨R, HR⟩ : ∃ R, Hid (rd s.data.toList = R) := ⟨_, Lib.hid rfl⟩
  rw [HR.out]
  by_cases h10 : s.size ≤ 10
  all_goals
    go_enter Try.func64, Try.ntmps64
    go_wp2
    go_loop [5, 6, 10] (fun a _ j => ∃ (k A : Nat) (x : Int), k ≤ s.size ∧ k ≤ 10 ∧ j = .int .i64 k ∧ a = .int .u64 x ∧ Hid (k ≤ 9 → x = A) ∧ A < 128 ^ k ∧ Hid (rdFrom (s.data.toList.drop k) k A = R)) (fun _ _ j => s.size - (intOf j).toNat)
    case atStart => exact ⟨0, 0, 0, Nat.zero_le _, Nat.zero_le _, rfl, rfl, Lib.hid (fun _ => rfl), by omega, Lib.hid HR.out⟩
    case round =>
      obtain ⟨k, A, x, hk, hk10, rfl, rfl, HX, hA, HK⟩ := hrel
      by_cases hlt : k < s.size ∧ k < 10
      · obtain ⟨hlt, hlt10⟩ := hlt
        have hb := s[k].toNat_lt
        have HD := Lib.hid (drop_at s k hlt)
        obtain rfl : x = A := HX.out (by omega)
        clear HX
        by_cases h128 : 128 ≤ s[k].toNat
        · go_wp2
          go_roundw
          case rel =>
            refine ⟨k + 1, _, _, by omega, by omega, by go_num, rfl, Lib.hid (fun h9 => ?_), pow_grow hA (c := s[k].toNat - 128) (by omega), Lib.hid (by rw [← HK.out, HD.out, rdFrom_more (by omega) h128])⟩
            have hc : (s[k].toNat - 128) * 128 ^ k < 18446744073709551616 := by
              have h1 : (s[k].toNat - 128) * 128 ^ k ≤ 127 * 128 ^ 8 := Nat.mul_le_mul (by omega) (Nat.pow_le_pow_right (by omega) (by omega))
              have h2 : (127 : Nat) * 128 ^ 8 = 9151314442816847872 := rfl
              omega
            have := or_code hA (by omega) hc
            rw [show ((s[k].toNat - 128 : Nat) : Int) = (s[k].toNat : Int) - 128 from by omega] at this
            exact this
          case measure => simp [intOf]; omega
        · by_cases hl : lastB s[k].toNat k = true
          · have hlast := fun W => last_yes (s[k].toNat : Int) (k : Int) W (by omega) (by omega) (by omega) (by omega) (by simpa using hl)
            have HL := Lib.hid hl; clear hl
            go_wp2_with (go_at_call 66; refine (hlast _).mono ?_; rintro e w' ⟨rfl, rfl⟩)
            have hc : s[k].toNat * 128 ^ k < 18446744073709551616 := by
              have hl := HL.out
              unfold lastB at hl
              rw [decide_eq_true_iff] at hl
              rcases Nat.lt_or_ge k 9 with h9 | h9
              · have h1 : s[k].toNat * 128 ^ k ≤ 127 * 128 ^ 8 := Nat.mul_le_mul (by omega) (Nat.pow_le_pow_right (by omega) (by omega))
                have h2 : (127 : Nat) * 128 ^ 8 = 9151314442816847872 := rfl
                omega
              · obtain rfl : k = 9 := by omega
                have h1 : s[9].toNat * 128 ^ 9 ≤ 1 * 128 ^ 9 := Nat.mul_le_mul_right _ (by omega)
                have h2 : (1 : Nat) * 128 ^ 9 = 9223372036854775808 := rfl
                omega
            have hor := or_code hA (by omega) hc
            go_ret3
            refine ⟨?_, rfl⟩
            rw [← HK.out, HD.out, rdFrom_last (by omega) h128 HL.out]
            unfold ret3
            rw [← hor]
            rfl
          · have hl' : lastB s[k].toNat k = false := by simpa using hl
            have hlast := fun W => last_no (s[k].toNat : Int) (k : Int) W (by omega) (by omega) (by omega) (by omega) (by simpa using hl')
            have HL := Lib.hid hl'; clear hl hl'
            go_wp2_with (go_at_call 66; refine (hlast _).mono ?_; rintro e w' ⟨rfl, rfl⟩)
            go_ret3
            refine ⟨?_, rfl⟩
            rw [← HK.out, HD.out, rdFrom_bad (by omega) h128 HL.out]
            rfl
      · by_cases hl10 : s.size < 10
        · first
            | (exfalso; omega)
            | (obtain rfl : k = s.size := by omega
               have hR : R = (0, 0, 20) := by
                 rw [← HK.out, List.drop_of_length_le (by simp), rdFrom_nil (by omega)]
               have HR' := Lib.hid hR
               clear hR
               go_wp2
               go_ret3
               exact ⟨by rw [HR'.out]; rfl, rfl⟩)
        · obtain rfl : k = 10 := by omega
          have hR : R = (0, 0, 22) := by
            rw [← HK.out, rdFrom_ten]
          have HR' := Lib.hid hR
          clear hR
          go_wp2
          go_ret3
          exact ⟨by rw [HR'.out]; rfl, rfl⟩

end Go.Proofs.Ythhpnlobhffimaa
