/- ReadNumber, the reference's: the walk. -/
import Derived.Lib.IndexBytes
import Derived.Test.YthhpnlobhffimaaCRead2
namespace Go.Proofs.Ythhpnlobhffimaa
set_option maxRecDepth 100000
open Go.RowKit

theorem u64_sum {A b k : Nat} : IntKind.u64.wrap ((A : Int) + IntKind.u64.wrap ((b : Int) * ((128 ^ k : Nat) : Int))) = (((A + b * 128 ^ k) % 18446744073709551616 : Nat) : Int) := by
  simp only [IntKind.wrap, IntKind.bits, IntKind.signed]
  generalize hP : 128 ^ k = P
  have : ((b : Int) * (P : Int)) = ((b * P : Nat) : Int) := by simp
  rw [this]
  generalize b * P = Q
  simp

set_option maxRecDepth 100000 in
set_option maxHeartbeats 1000000 in
theorem refRead_any (s : ByteArray) (w : World) (hs : s.size ≤ maxLen) :
    Calls Try.prog 62 #[.string s] w fun e w' => e = ret3 (rd s.data.toList) ∧ Below w.heap.size w w' := by
  unfold maxLen at hs
  obtain ⟨R, HR⟩ : ∃ R, Hid (rd s.data.toList = R) := ⟨_, Lib.hid rfl⟩
  rw [HR.out]
  go_enter Try.func62, Try.ntmps62
  go_wp2
  go_loop [5, 6, 7] (fun a f j => ∃ (k A F : Nat) (x y : Int), k ≤ s.size ∧ k ≤ 10 ∧ j = .int .i64 k ∧ a = .int .u64 x ∧ f = .int .u64 y ∧ Hid (k ≤ 9 → x = A) ∧ Hid (k ≤ 9 → y = F) ∧ Hid (F = 128 ^ k) ∧ Hid (A = hv (s.data.toList.take k)) ∧ Hid (High (s.data.toList.take k)) ∧ Hid (rdFrom (s.data.toList.drop k) k A = R)) (fun _ _ j => s.size - (intOf j).toNat)
  case atStart => exact ⟨0, 0, 1, 0, 1, Nat.zero_le _, Nat.zero_le _, rfl, rfl, rfl, Lib.hid (fun _ => rfl), Lib.hid (fun _ => rfl), Lib.hid rfl, Lib.hid rfl, Lib.hid (fun x hx => by simp at hx), Lib.hid HR.out⟩
  case round =>
    obtain ⟨k, A, F, x, y, hk, hk10, rfl, rfl, rfl, HX, HY, HF, HA, HH, HK⟩ := hrel
    by_cases hlt : k < s.size ∧ k < 10
    · obtain ⟨hlt, hlt10⟩ := hlt
      have hb := s[k].toNat_lt
      have HD := Lib.hid (drop_at s k hlt)
      have HT := Lib.hid (take_snoc s k hlt)
      obtain rfl : x = A := HX.out (by omega)
      obtain rfl : y = F := HY.out (by omega)
      clear HX HY
      by_cases h128 : 128 ≤ s[k].toNat
      · go_wp2_with fail
        go_roundw
        case rel =>
          have hl := hv_lt (s.data.toList.take k)
          rw [← HA.out] at hl
          have hlen : (s.data.toList.take k).length = k := by simp; omega
          rw [hlen] at hl
          refine ⟨k + 1, A + (s[k].toNat - 128) * 128 ^ k, 128 ^ (k + 1), _, _, by omega, by omega, by go_num, rfl, rfl, Lib.hid (fun h9 => ?_), Lib.hid (fun h9 => ?_), Lib.hid rfl, Lib.hid ?_, Lib.hid ?_, Lib.hid (by rw [← HK.out, HD.out, rdFrom_more (by omega) h128])⟩
          · have h1 := pow_grow hl (c := s[k].toNat - 128) (by omega)
            have h2 : 128 ^ (k + 1) ≤ 128 ^ 9 := Nat.pow_le_pow_right (by omega) (by omega)
            have h3 : (128 : Nat) ^ 9 = 9223372036854775808 := rfl
            have := u64_sum (A := A) (b := s[k].toNat - 128) (k := k)
            rw [Nat.mod_eq_of_lt (by omega)] at this
            rw [HF.out, show (s[k].toNat : Int) % 128 = ((s[k].toNat - 128 : Nat) : Int) by omega]
            exact this
          · have h2 : 128 ^ (k + 1) ≤ 128 ^ 9 := Nat.pow_le_pow_right (by omega) (by omega)
            have h3 : (128 : Nat) ^ 9 = 9223372036854775808 := rfl
            rw [HF.out, Nat.pow_succ] at *
            generalize 128 ^ k = P at *
            simp only [IntKind.wrap, IntKind.bits, IntKind.signed]
            simp; omega
          · rw [HT.out, hv_snoc, hlen, ← HA.out]
          · rw [HT.out]; exact HH.out.snoc h128
        case measure => simp [intOf]; omega
      · obtain ⟨V, HV⟩ : ∃ V : Nat, Hid (V = (A + s[k].toNat * 128 ^ k) % 18446744073709551616) := ⟨_, Lib.hid rfl⟩
        have hVlt : V < 18446744073709551616 := by rw [HV.out]; exact Nat.mod_lt _ (by omega)
        have hwr : IntKind.u64.wrap ((A : Int) + IntKind.u64.wrap ((s[k].toNat : Int) % 128 * (F : Int))) = (V : Int) := by
          rw [HV.out, HF.out, show (s[k].toNat : Int) % 128 = (s[k].toNat : Int) by omega]
          exact u64_sum
        have HW := Lib.hid hwr
        clear hwr
        have hlen : (s.data.toList.take k).length = k := by simp; omega
        have hAlt := hv_lt (s.data.toList.take k)
        have hiff := numL_last (b := s[k]) HH.out (by omega) hAlt (by omega)
        rw [hlen, ← HA.out, ← HV.out, ← HT.out] at hiff
        rw [hlen, ← HA.out] at hAlt
        have hext : (s.extract 0 (k + 1)).toList = s.data.toList.take (k + 1) := by
          rw [ByteArray.toList_eq, Lib.extract_data]; simp
        have hstr : (str (numL V)).toList = numL V := by rw [ByteArray.toList_eq]; rfl
        by_cases hl : lastB s[k].toNat k = true
        · have hcmp : ((str (numL V)).toList == (s.extract 0 (k + 1)).toList) = true := by
            rw [hext, hstr, hiff.2 hl]; simp
          have HL := Lib.hid hl
          have HIFF := Lib.hid hiff
          clear hl hiff hext hstr hlen
          go_wp2_with (go_at_call 47; rw [HW.out]; refine (refNumber V hVlt _).mono ?_; rintro e w1 ⟨rfl, hb1⟩)
          go_ret3
          refine ⟨?_, hb1⟩
          rw [← HK.out, HD.out, rdFrom_last (by omega) h128 HL.out]
          have hf := last_fits hAlt (by omega) (by omega) HL.out
          rw [← Nat.mod_eq_of_lt hf, ← HV.out]
          rfl
        · have hl' : lastB s[k].toNat k = false := by simpa using hl
          have hcmp : ((str (numL V)).toList == (s.extract 0 (k + 1)).toList) = false := by
            rw [hext, hstr, beq_eq_false_iff_ne]
            exact fun h => hl (hiff.1 h)
          have HL := Lib.hid hl'
          have HIFF := Lib.hid hiff
          clear hl hl' hiff hext hstr hlen
          go_wp2_with (go_at_call 47; rw [HW.out]; refine (refNumber V hVlt _).mono ?_; rintro e w1 ⟨rfl, hb1⟩)
          go_ret3
          refine ⟨?_, hb1⟩
          rw [← HK.out, HD.out, rdFrom_bad (by omega) h128 HL.out]
          rfl
    · by_cases hl10 : s.size < 10
      · obtain rfl : k = s.size := by omega
        have hR : R = (0, 0, 20) := by
          rw [← HK.out, List.drop_of_length_le (by simp), rdFrom_nil (by omega)]
        have HR' := Lib.hid hR
        clear hR
        go_wp2
        go_ret3
        exact ⟨by rw [HR'.out]; rfl, Below.refl _ _⟩
      · obtain rfl : k = 10 := by omega
        have hR : R = (0, 0, 22) := by
          rw [← HK.out, rdFrom_ten]
        have HR' := Lib.hid hR
        clear hR
        by_cases h10 : 10 < s.size
        · go_wp2
          go_ret3
          exact ⟨by rw [HR'.out]; rfl, Below.refl _ _⟩
        · have h10' : s.size = 10 := by omega
          have H10 := Lib.hid h10'
          clear h10'
          go_wp2
          go_ret3
          exact ⟨by rw [HR'.out]; rfl, Below.refl _ _⟩

end Go.Proofs.Ythhpnlobhffimaa
