/- lastSlash, Dir, Base, equalAtStart, Less, Under. -/
import Derived.Test.YthnlldojidocoaaDoorCut
namespace Go.Proofs.YthnlldojidocoaaDoor
open Go.RowKit

/-- how many bytes there are up to the last slash -/
def lastP : List UInt8 → Nat
  | [] => 0
  | c :: t => if 0 < lastP t then lastP t + 1 else if c = 47 then 1 else 0
theorem lastP_le (l : List UInt8) : lastP l ≤ l.length := by
  induction l with
  | nil => exact Nat.le_refl _
  | cons c t ih => rw [lastP, List.length_cons]; split <;> (try split) <;> omega
theorem lastP_free {l : List UInt8} (h : 47 ∉ l) : lastP l = 0 := by
  induction l with
  | nil => rfl
  | cons c t ih =>
    have h1 : ¬ c = 47 := fun e => h (by simp [e])
    have h2 : 47 ∉ t := fun e => h (by simp [e])
    rw [lastP, ih h2, if_neg (by omega), if_neg h1]
theorem lastP_cut {a b : List UInt8} (h : 47 ∉ b) : lastP (a ++ 47 :: b) = a.length + 1 := by
  induction a with
  | nil => rw [List.nil_append, lastP, lastP_free h]; rfl
  | cons c t ih => rw [List.cons_append, lastP, ih, if_pos (by omega), List.length_cons]
theorem lastP_of (s : ByteArray) (n : Nat) (hn : n ≤ s.size) (h1 : ∀ j (h : j < s.size), n ≤ j → s[j] ≠ 47) (h2 : 0 < n → ∀ h : n - 1 < s.size, s[n - 1] = 47) : lastP s.data.toList = n := by
  have hfree : 47 ∉ s.data.toList.drop n := by
    intro hm
    obtain ⟨j, hj, he⟩ := List.getElem_of_mem hm
    rw [List.getElem_drop] at he
    rw [List.length_drop, data_len] at hj
    exact h1 (n + j) (by omega) (by omega) he
  rcases Nat.eq_zero_or_pos n with h0 | h0
  · subst h0
    exact lastP_free hfree
  · have hd := drop_at s (n - 1) (by omega)
    rw [h2 h0 (by omega), show n - 1 + 1 = n by omega] at hd
    have he := List.take_append_drop (n - 1) s.data.toList
    rw [hd] at he
    rw [← he, lastP_cut hfree, List.length_take, data_len]
    omega

set_option maxRecDepth 100000 in
set_option maxHeartbeats 1000000 in
theorem lastSlash_any (s : ByteArray) (w : World) (hs : s.size ≤ maxLen) : Calls Tryd.prog 50 #[.string s] w fun e w' => e = .returned (.int .i64 ((lastP s.data.toList : Int) - 1)) ∧ w = w' := by
  unfold maxLen at hs
  obtain ⟨R, HR⟩ : ∃ R, Hid (lastP s.data.toList = R) := ⟨_, Lib.hid rfl⟩
  rw [HR.out]
  have e0 : IntKind.i64.wrap ((s.size : Int) - 1) = (s.size : Int) - 1 := by simp [IntKind.wrap, IntKind.bits, IntKind.signed]; omega
  go_enter Tryd.func50, Tryd.ntmps50
  go_wp2
  go_loop [3] (fun v3 => ∃ n : Nat, n ≤ s.size ∧ v3 = .int .i64 ((n : Int) - 1) ∧ Hid (∀ j (h : j < s.size), n ≤ j → s[j] ≠ 47)) (fun v3 => (intOf v3 + 1).toNat)
  case atStart => exact ⟨s.size, by omega, rfl, Lib.hid (fun j _ hj => by omega)⟩
  case round =>
    obtain ⟨n, hn, rfl, HK⟩ := hrel
    rcases Nat.eq_zero_or_pos n with h0 | h0
    · subst h0
      have hR : R = 0 := by rw [← HR.out]; exact lastP_of s 0 (by omega) HK.out (fun h => by omega)
      subst hR
      go_wp2
      go_ret
      exact ⟨rfl, rfl⟩
    · obtain ⟨k, rfl⟩ : ∃ k, n = k + 1 := ⟨n - 1, by omega⟩
      have hlt : k < s.size := by omega
      have e1 : ((k + 1 : Nat) : Int) - 1 = (k : Int) := by omega
      rw [e1]
      have hi0 : (0 : Int) ≤ (k : Int) := Int.natCast_nonneg _
      have hi1 : (k : Int) < (s.size : Int) := by omega
      have ew : IntKind.i64.wrap ((k : Int) - 1) = (k : Int) - 1 := by simp [IntKind.wrap, IntKind.bits, IntKind.signed]; omega
      by_cases h47 : s[k] = 47
      · have hcb : ((s[k].toNat : Int) == 47) = true := by rw [h47]; rfl
        have hcn : s[k].toNat = 47 := by rw [h47]; rfl
        have hR : R = k + 1 := by rw [← HR.out]; exact lastP_of s (k + 1) (by omega) HK.out (fun _ _ => h47)
        subst hR
        clear h47
        go_wp2
        go_ret
        exact ⟨rfl, rfl⟩
      · have hcn : ¬ s[k].toNat = 47 := fun e => h47 (UInt8.toNat_inj.1 e)
        have hcb : ((s[k].toNat : Int) == 47) = false := by rw [beq_eq_false_iff_ne]; omega
        have H := Lib.hid h47
        clear h47
        go_wp2
        go_round
        case rel =>
          refine ⟨k, by omega, by go_num, Lib.hid (fun j h hj => ?_)⟩
          rcases Nat.lt_or_ge k j with h' | h'
          · exact HK.out j h h'
          · obtain rfl : j = k := by omega
            exact H.out
        case measure => simp [intOf]

def baseOf (s : ByteArray) : ByteArray := s.extract (lastP s.data.toList) s.size

set_option maxRecDepth 100000 in
theorem base_any (s : ByteArray) (w : World) (hs : s.size ≤ maxLen) : Calls Tryd.prog 45 #[.string s] w fun e w' => e = .returned (.string (baseOf s)) ∧ w = w' := by
  have hl := lastP_le s.data.toList
  rw [data_len] at hl
  have C := lastSlash_any s w hs
  unfold maxLen at hs
  unfold baseOf
  obtain ⟨n, hn⟩ : ∃ n, lastP s.data.toList = n := ⟨_, rfl⟩
  rw [hn] at hl C ⊢
  have HC := Lib.hid C
  clear hn C
  have hi0 : (0 : Int) ≤ (n : Int) := Int.natCast_nonneg _
  have hi1 : (n : Int) ≤ (s.size : Int) := by omega
  have e1 : IntKind.i64.wrap ((n : Int) - 1 + 1) = (n : Int) := by simp [IntKind.wrap, IntKind.bits, IntKind.signed]; omega
  go_enter Tryd.func45, Tryd.ntmps45
  go_wp2_with (go_at_call 50; ((with_reducible refine HC.out.mono ?_); rintro e w1 ⟨rfl, rfl⟩))
  go_ret
  exact ⟨rfl, rfl⟩

end Go.Proofs.YthnlldojidocoaaDoor
