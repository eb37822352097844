/- isName, hasNeighbouringStars, isPatternComponent, Valid, ValidPattern, Parts. -/
import Derived.Test.YthnlldojidocoaaDoorCut
namespace Go.Proofs.YthnlldojidocoaaDoor
open Go.RowKit

set_option maxRecDepth 100000 in
theorem isName_any (s : ByteArray) (w : World) (hT : Tab w) (hs : s.size ≤ 200) : Calls Tryd.prog 49 #[.string s] w fun e w' => e = .returned (.bool (isName s)) ∧ w = w' := by
  have C := Lib.hid (show Calls Tryd.prog 53 #[.string s, .int .u8 2] w fun e w' => e = .returned (.bool (consists s 2)) ∧ w = w' from consistsOf_any s 2 w hT (by omega) (by unfold maxLen; omega))
  unfold isName
  go_enter Tryd.func49, Tryd.ntmps49
  go_wp2_with (go_at_call 53; ((with_reducible refine C.out.mono ?_); rintro e w1 ⟨rfl, rfl⟩))
  go_ret
  exact ⟨rfl, rfl⟩

theorem neigh_of (l : List UInt8) : neigh l = true ↔ ∃ k, ∃ h : k + 1 < l.length, l[k] = 42 ∧ l[k + 1] = 42 := by
  induction l with
  | nil => simp [neigh]
  | cons a t ih =>
    cases t with
    | nil => simp [neigh]
    | cons b t =>
      rw [neigh, Bool.or_eq_true, ih]
      constructor
      · rintro (h | ⟨k, hk, h1, h2⟩)
        · rw [Bool.and_eq_true, beq_iff_eq, beq_iff_eq] at h
          exact ⟨0, by simp, h.1, h.2⟩
        · exact ⟨k + 1, by simpa using hk, by simpa using h1, by simpa using h2⟩
      · rintro ⟨k, hk, h1, h2⟩
        cases k with
        | zero => left; rw [Bool.and_eq_true, beq_iff_eq, beq_iff_eq]; exact ⟨h1, h2⟩
        | succ k => right; exact ⟨k, by simpa using hk, by simpa using h1, by simpa using h2⟩

def validS (s : ByteArray) : Bool := within isName s
set_option maxRecDepth 100000 in
theorem valid_any (s : ByteArray) (w : World) (hT : Tab w) (hs : s.size ≤ maxLen) : Calls Tryd.prog 44 #[.string s] w fun e w' => e = .returned (.bool (validS s)) ∧ ∃ q, w' = w.drewN q := by
  have C := Lib.hid (within40 isName s w hT hs isName_any)
  unfold validS
  go_enter Tryd.func44, Tryd.ntmps44
  go_wp2_with (go_at_call 48; ((with_reducible refine C.out.mono ?_); rintro e w1 ⟨rfl, q, rfl⟩))
  go_ret
  exact ⟨rfl, q, rfl⟩

end Go.Proofs.YthnlldojidocoaaDoor
