/- Unpack, the code's. -/
import Derived.Test.YtdbhmoadngclgaaUnp2
namespace Go.Proofs.Ytdbhmoadngclgaa
open Go.RowKit

def UnpackPost (w : World) (U : Nat × List (List UInt8)) (en : Ending) (w' : World) : Prop :=
  ∃ A n c, en = .returned (.tuple #[.slice A n c, .int .i64 (U.1 : Int)]) ∧ w'.ownsRow w.heap.size 9 1 (.slice A n c) n (U.2.map strV) ∧ Below w.heap.size w w'

theorem Two.new (w : World) (a b : Value) : Two (w.alloc (.cells #[a, b] 60)) w.heap.size a b := World.alloc_heap_new w _

def ListPost2 (w : World) (g n₀ : Nat) (er : Nat) (rest : List UInt8) (l : List (List UInt8)) (en : Ending) (w' : World) : Prop :=
  en = .returned (.int .i64 (er : Int)) ∧ ∃ s' A n c, s'.data.toList = rest ∧ Two w' g (.string s') (.slice A n c) ∧ w'.ownsRow n₀ 9 1 (.slice A n c) n (l.map strV) ∧ Below n₀ w w'
theorem readList2 (g n₀ : Nat) (s : ByteArray) (w : World) (hT : Two w g (.string s) (.slice none 0 0)) (hg : n₀ ≤ g) (hs : s.size ≤ 4398046511104) (er : Nat) (rest : List UInt8) (l : List (List UInt8)) (H : Hid (rl s.data.toList = (er, rest, l))) :
    Calls Try.prog 35 #[.pointer (some ⟨g, 0, none⟩)] w (ListPost2 w g n₀ er rest l) := by
  have := readList_any g n₀ s w hT hg hs
  rw [H.out] at this
  exact this

set_option maxRecDepth 100000 in
set_option maxHeartbeats 1000000 in
theorem unpack_any (s : ByteArray) (w : World) (hs : s.size ≤ 4398046511104) :
    Calls Try.prog 28 #[.string s] w (UnpackPost w (unpack s.data.toList)) := by
  obtain ⟨U, HU⟩ : ∃ U, Hid (unpack s.data.toList = U) := ⟨_, Lib.hid rfl⟩
  rw [HU.out]
  obtain ⟨er, rest, l, H⟩ : ∃ er rest l, Hid (rl s.data.toList = (er, rest, l)) := ⟨_, _, _, Lib.hid rfl⟩
  have hU := unpack_rl s.data.toList
  rw [HU.out, H.out] at hU
  dsimp only at hU
  have hB0 : Below w.heap.size w (w.alloc (.cells #[.string s, .slice none 0 0] 60)) := (Below.refl _ w).alloc (Nat.le_refl _) _
  by_cases he : er = 0
  · subst he
    rw [if_neg (by omega)] at hU
    by_cases hr : rest = []
    · rw [if_neg (by simpa using hr)] at hU
      have HU2 := Lib.hid hU
      clear hU
      have HR := Lib.hid hr
      clear hr
      go_enter Try.func28, Try.ntmps28
      go_wp2_with (go_at_call 35; refine (readList2 w.heap.size w.heap.size s _ (Two.new _ _ _) (Nat.le_refl _) hs 0 rest l H).mono ?_; rintro e w1 ⟨rfl, s', A, n, c, hs', hT, hown, hB⟩; rw [HR.out] at hs'; have he1 : s'.toList = [] := (by rw [ByteArray.toList_eq]; exact hs'); have he2 : (!s'.toList.isEmpty) = false := (by rw [he1]; rfl); have HS := Lib.hid hs'; clear hs'; have hc0 := hT.cell0; have hc1 := hT.cell1)
      go_ret2
      rw [HU2.out]
      exact ⟨A, n, c, rfl, hown, hB0.trans hB⟩
    · rw [if_pos (by simpa using hr)] at hU
      have HU2 := Lib.hid hU
      clear hU
      have HR := Lib.hid hr
      clear hr
      go_enter Try.func28, Try.ntmps28
      go_wp2_with (go_at_call 35; refine (readList2 w.heap.size w.heap.size s _ (Two.new _ _ _) (Nat.le_refl _) hs 0 rest l H).mono ?_; rintro e w1 ⟨rfl, s', A, n, c, hs', hT, hown, hB⟩; have he1 : ¬ s'.toList = [] := (by rw [ByteArray.toList_eq, hs']; exact HR.out); have he2 : (!s'.toList.isEmpty) = true := (by simpa using he1); have HS := Lib.hid hs'; clear hs'; have hc0 := hT.cell0; have hc1 := hT.cell1)
      go_ret2
      rw [HU2.out]
      exact ⟨none, 0, 0, rfl, World.ownsRow_nil _ _ _ _, hB0.trans hB⟩
  · rw [if_pos he] at hU
    have HU2 := Lib.hid hU
    clear hU
    go_enter Try.func28, Try.ntmps28
    go_wp2_with (go_at_call 35; refine (readList2 w.heap.size w.heap.size s _ (Two.new _ _ _) (Nat.le_refl _) hs er rest l H).mono ?_; rintro e w1 ⟨rfl, s', A, n, c, hs', hT, hown, hB⟩; have HS := Lib.hid hs'; clear hs'; have hc0 := hT.cell0; have hc1 := hT.cell1)
    go_ret2
    rw [HU2.out]
    exact ⟨none, 0, 0, rfl, World.ownsRow_nil _ _ _ _, hB0.trans hB⟩

end Go.Proofs.Ytdbhmoadngclgaa
