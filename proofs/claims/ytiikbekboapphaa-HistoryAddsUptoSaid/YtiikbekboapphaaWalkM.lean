/- A walk in memory. -/
import Derived.Test.YtiikbekboapphaaHeapOps
import Derived.Test.YtiikbekboapphaaBasic
namespace Go.Proofs.Ytiikbekboapphaa
set_option maxRecDepth 100000
open Go.RowKit
/-- the blocks of a walk -/
def WF (k g : Nat) (v : Value) (x : Nat) : Prop := x = k ∨ HF g v x
structure Wk (w : World) (k g : Nat) (v fv : Value) (lead : Nat → List Nat) (head B lt : Nat) (l : List Nat) : Prop where
  full : Full w k 80 [fv, .iface 73 (.pointer (some ⟨g, 0, none⟩)), .int .i64 (lt : Int)]
  last : lt = B ∨ lt = 0 ∧ B = head + 1
  hp : Hp w g v l
  wl : WalkL lead head B l
section
variable {w w' : World} {k g : Nat} {v fv : Value} {lead : Nat → List Nat} {head B lt : Nat} {l : List Nat}
theorem Wk.lt_ (h : Wk w k g v fv lead head B lt l) : ∀ x, WF k g v x → x < w.heap.size := by
  rintro x (rfl | e)
  · exact h.full.lt
  · exact h.hp.lt x e
theorem Wk.keep (h : Wk w k g v fv lead head B lt l) (hk : ∀ x, WF k g v x → w'.heap[x]? = w.heap[x]?) : Wk w' k g v fv lead head B lt l :=
  ⟨(hk k (.inl rfl)).trans h.full, h.last, h.hp.keep fun x e => hk x (.inr e), h.wl⟩
theorem Wk.on (h : Wk w k g v fv lead head B lt l) (hb : Below w.heap.size w w') : Wk w' k g v fv lead head B lt l := h.keep fun x e => hb.block x (h.lt_ x e)
theorem Wk.drewN (h : Wk w k g v fv lead head B lt l) (q : Nat) : Wk (w.drewN q) k g v fv lead head B lt l := h.keep fun _ _ => rfl
theorem Wk.ne (h : Wk w k g v fv lead head B lt l) : ¬ HF g v k := by
  rintro (e | e)
  · exact h.full.ne_ h.hp.full (by decide) e
  · exact h.full.not_row h.hp.row (by decide) e.symm
end
/-- a walk at block k that has visited all from B on -/
def IsWk (w : World) (k : Nat) (fv : Value) (lead : Nat → List Nat) (head B : Nat) (S : Nat → Prop) : Prop := ∃ g v lt l, S = WF k g v ∧ Wk w k g v fv lead head B lt l
section
variable {w w' : World} {k : Nat} {fv : Value} {lead : Nat → List Nat} {head B : Nat} {S : Nat → Prop}
theorem IsWk.lt_ (h : IsWk w k fv lead head B S) : ∀ x, S x → x < w.heap.size := by
  obtain ⟨g, v, lt, l, rfl, h⟩ := h
  exact h.lt_
theorem IsWk.keep (h : IsWk w k fv lead head B S) (hk : ∀ x, S x → w'.heap[x]? = w.heap[x]?) : IsWk w' k fv lead head B S := by
  obtain ⟨g, v, lt, l, rfl, h⟩ := h
  exact ⟨g, v, lt, l, rfl, h.keep hk⟩
theorem IsWk.on (h : IsWk w k fv lead head B S) (hb : Below w.heap.size w w') : IsWk w' k fv lead head B S := h.keep fun x e => hb.block x (h.lt_ x e)
theorem IsWk.apart {G : Nat → Prop} (h : IsWk w k fv lead head B S) (ht : Turn G w w') (hG : ∀ x, S x → ¬ G x) : IsWk w' k fv lead head B S := h.keep fun x e => ht.block x (h.lt_ x e) (hG x e)
end
def FromOut (w : World) (fv : Value) (lead : Nat → List Nat) (head : Nat) (e : Ending) (w' : World) : Prop :=
  ∃ k S, e = .returned (.pointer (some ⟨k, 0, none⟩)) ∧ IsWk w' k fv lead head (head + 1) S ∧ (∀ x, S x → w.heap.size ≤ x) ∧ Below w.heap.size w w'
/-- a method of the history at p, as a value -/
abbrev fnV (c p : Nat) : Value := .func (.func c) #[.pointer (some ⟨p, 0, none⟩)] #[]
set_option maxHeartbeats 4000000 in
theorem from_any (w : World) (c p : Nat) (lead : Nat → List Nat) (head : Nat) (h1 : 1 ≤ head) :
    Calls Try.prog 42 #[.int .i64 (head : Int), .func (.func c) #[.pointer (some ⟨p, 0, none⟩)] #[]] w (FromOut w (fnV c p) lead head) := by
  have HW := Lib.hid (WalkL.new lead h1)
  unfold FromOut
  clear h1
  go_enter Try.func42, Try.ntmps42
  go_wp2
  go_ret
  have hb : Below w.heap.size w (w.alloc (.cells #[.int .i64 (head : Int)] 3)) := (Below.refl _ w).alloc (Nat.le_refl _) _
  have hb2 := hb.alloc (by simp) (.cells #[.slice (some ⟨w.heap.size, 0, none⟩) 1 1] 76)
  have hb3 := hb2.alloc (by simp; omega) (.cells #[.func (.func c) #[.pointer (some ⟨p, 0, none⟩)] #[], .iface 73 (.pointer (some ⟨w.heap.size + 1, 0, none⟩)), .int .i64 0] 80)
  have f1 : Full (w.alloc (.cells #[.int .i64 (head : Int)] 3)) w.heap.size 3 [.int .i64 (head : Int)] := Full.new w 3 [.int .i64 (head : Int)]
  have f2 : Full ((w.alloc (.cells #[.int .i64 (head : Int)] 3)).alloc (.cells #[.slice (some ⟨w.heap.size, 0, none⟩) 1 1] 76)) (w.heap.size + 1) 76 [.slice (some ⟨w.heap.size, 0, none⟩) 1 1] := by
    have := Full.new (w.alloc (.cells #[.int .i64 (head : Int)] 3)) 76 [.slice (some ⟨w.heap.size, 0, none⟩) 1 1]
    rwa [World.size_alloc] at this
  have f3 : Full (((w.alloc (.cells #[.int .i64 (head : Int)] 3)).alloc (.cells #[.slice (some ⟨w.heap.size, 0, none⟩) 1 1] 76)).alloc (.cells #[.func (.func c) #[.pointer (some ⟨p, 0, none⟩)] #[], .iface 73 (.pointer (some ⟨w.heap.size + 1, 0, none⟩)), .int .i64 0] 80)) (w.heap.size + 1 + 1) 80 [.func (.func c) #[.pointer (some ⟨p, 0, none⟩)] #[], .iface 73 (.pointer (some ⟨w.heap.size + 1, 0, none⟩)), .int .i64 0] := by
    have := Full.new ((w.alloc (.cells #[.int .i64 (head : Int)] 3)).alloc (.cells #[.slice (some ⟨w.heap.size, 0, none⟩) 1 1] 76)) 80 [.func (.func c) #[.pointer (some ⟨p, 0, none⟩)] #[], .iface 73 (.pointer (some ⟨w.heap.size + 1, 0, none⟩)), .int .i64 0]
    rwa [World.size_alloc, World.size_alloc] at this
  refine ⟨_, WF (w.heap.size + 1 + 1) (w.heap.size + 1) (.slice (some ⟨w.heap.size, 0, none⟩) 1 1), rfl, ⟨w.heap.size + 1, .slice (some ⟨w.heap.size, 0, none⟩) 1 1, 0, [head], rfl, f3, .inr ⟨rfl, rfl⟩, ⟨f2.alloc _, ?_⟩, HW.out⟩, ?_, hb3⟩
  · exact own_full ((f1.alloc _).alloc _) rfl (by simp [maxLen]) (Nat.zero_le _)
  · rintro x (rfl | rfl | e)
    · omega
    · omega
    · obtain rfl : w.heap.size = x := by simpa [Value.ownBlock] using e
      exact Nat.le_refl _
end Go.Proofs.Ytiikbekboapphaa
