/- A law's own slice beside its store. -/
import Derived.Test.YthnlldojidocoaaDoorLaws2
namespace Go.Proofs.YthnlldojidocoaaDoor
open Go.RowKit Go.Maps

/-- a slice of the law's own, apart from the store -/
structure Mine (w W : World) (v : Value) (T : TypeId) (size n : Nat) (xs : List Value) (F : Nat → Prop) : Prop where
  own : W.ownsRow w.heap.size T size v n xs
  free : ∀ j, v.ownBlock = some j → ¬ F j
section
variable {w W W' : World} {v v' : Value} {T : TypeId} {size n : Nat} {xs : List Value} {F F' : Nat → Prop} {p : Nat} {os : List Ob}
theorem Mine.goes (h : Mine w W v T size n xs F) (hg : Goes F W W' F') : Mine w W' v T size n xs F' :=
  ⟨owns_keep h.own fun g e => hg.turn.block g (owns_lt h.own g e) (h.free g e), fun j e hF => (hg.back j hF).elim (h.free j e) fun hl => by have := owns_lt h.own j e; omega⟩
theorem Mine.on (h : Mine w W v T size n xs F) (hb : Below W.heap.size W W') : Mine w W' v T size n xs F :=
  ⟨owns_keep h.own fun g e => hb.block g (owns_lt h.own g e), h.free⟩
theorem Mine.nil (w W : World) (T : TypeId) (size : Nat) (F : Nat → Prop) : Mine w W (.slice none 0 0) T size 0 [] F := ⟨World.ownsRow_nil _ _ _ _, fun j e => by simp [Value.ownBlock] at e⟩
theorem Mine.lt (h : Mine w W v T size n xs F) : ∀ j, v.ownBlock = some j → w.heap.size ≤ j ∧ j < W.heap.size ∧ ¬ F j := fun j e => ⟨row_ge h.own j e, owns_lt h.own j e, h.free j e⟩
/-- an append onto it -/
theorem Mine.app {n' : Nat} {xs' : List Value} {ob : Obj} (h : Mine w W v T size n xs F) (hst : StW w W p os F) (hgrow : (W.alloc ob).grownBy W' v.ownBlock) (hown : W'.ownsRow w.heap.size T size v' n' xs') (hloc : v'.ownBlock = v.ownBlock ∨ v'.ownBlock = some (W.alloc ob).heap.size) :
    StW w W' p os F ∧ Mine w W' v' T size n' xs' F := by
  refine ⟨(hst.alloc ob).grown hgrow (fun j e => ⟨(h.lt j e).1, (h.lt j e).2.2⟩), hown, fun j e hF => ?_⟩
  rcases hloc with hl | hl
  · exact h.free j (hl ▸ e) hF
  · rw [hl] at e
    injection e with e
    have h1 := (hst.st.in_ j hF).2
    have h2 : (W.alloc ob).heap.size = W.heap.size + 1 := by simp
    omega
theorem Mine.form (h : Mine w W v T size n xs F) (hn : 0 < n) : ∃ g cap, v = .slice (some ⟨g, 0, none⟩) n cap ∧ ∀ j u, xs[j]? = some u → W.cell? ⟨g, j, none⟩ = some u := by
  obtain ⟨g, cap, rfl, _, _⟩ := h.own.form hn
  refine ⟨g, cap, rfl, fun j u hj => ?_⟩
  have := h.own.cells (g := g) rfl j u hj
  rwa [show (⟨g, 0, none⟩ : Addr).add j = ⟨g, j, none⟩ by unfold Addr.add; split <;> simp_all] at this
end
/-- the number of a text that was stored -/
def idOf (os : List Ob) (s : ByteArray) : Nat := if s.size ≤ 65536 then num os (blobO s) else 0
theorem idOf_le (os : List Ob) (s : ByteArray) (h : s.size ≤ 65536 → blobO s ∈ os) : idOf os s ≤ os.length := by
  unfold idOf
  split
  · next hs =>
    have := num_le os (blobO s)
    unfold put at this
    rw [if_pos (h hs)] at this
    exact this
  · omega
theorem idOf_put {os : List Ob} {s : ByteArray} (o : Ob) (h : s.size ≤ 65536 → blobO s ∈ os) : idOf (put os o) s = idOf os s := by
  unfold idOf
  split
  · next hs => exact num_put (h hs)
  · rfl
theorem blobO_inj {a b : ByteArray} (h : blobO a = blobO b) : a = b := congrArg (fun o : Ob => o.2.1) h
/-- texts and numbers -/
theorem idOf_cases {os : List Ob} {a b : ByteArray} (ha : a.size ≤ 65536 → blobO a ∈ os) (hb : b.size ≤ 65536 → blobO b ∈ os) :
    (idOf os a = idOf os b ∧ a = b) ∨ (¬ idOf os a = idOf os b ∧ ¬ a = b) ∨ (idOf os a = idOf os b ∧ ¬ a = b ∧ 65536 < a.size ∧ 65536 < b.size) := by
  by_cases he : a = b
  · subst he; exact .inl ⟨rfl, rfl⟩
  · right
    unfold idOf
    by_cases h1 : a.size ≤ 65536
    · left
      rw [if_pos h1]
      refine ⟨fun e => ?_, he⟩
      by_cases h2 : b.size ≤ 65536
      · rw [if_pos h2] at e
        exact he (blobO_inj (num_inj (ha h1) e))
      · rw [if_neg h2] at e
        have := num_pos os (blobO a)
        omega
    · rw [if_neg h1]
      by_cases h2 : b.size ≤ 65536
      · left
        rw [if_pos h2]
        exact ⟨fun e => by have := num_pos os (blobO b); omega, he⟩
      · right
        rw [if_neg h2]
        exact ⟨rfl, he, by omega, by omega⟩
theorem put_self {os : List Ob} (o : Ob) : o ∈ put os o := put_mem.2 (.inr rfl)
theorem put_more {os : List Ob} {o x : Ob} (h : x ∈ os) : x ∈ put os o := put_mem.2 (.inl h)
theorem num_self (os : List Ob) (o : Ob) : num (put os o) o = num os o := by
  unfold put
  split
  · rfl
  · next h =>
    rw [num_new h]
    have h3 : o ∈ os ++ [o] := by simp
    obtain ⟨i, hi, hn⟩ := num_at h3
    rw [hn]
    have hil := (List.getElem?_eq_some_iff.1 hi).1
    rcases Nat.lt_or_ge i os.length with hl | hl
    · rw [List.getElem?_append_left hl] at hi
      exact absurd (List.mem_of_getElem? hi) h
    · simp at hil; omega
end Go.Proofs.YthnlldojidocoaaDoor
