/- What a Crash holds, and how it stays. -/
import Derived.Test.YthhpnlobhffimaaMarks
namespace Go.Proofs.Ythhpnlobhffimaa
set_option maxRecDepth 100000
open Go.RowKit Go.Shelf
/-- What a Crash holds: the boxes of its argument, of the contents and of the number of parts. -/
structure CrS (w W : World) (QB CB NB : Nat) (qv v : Value) (L : List UInt8) (num : Nat) : Prop where
  qb : Full W QB 56 [qv]
  cb : Full W CB 66 [v]
  nb : Full W NB 3 [.int .i64 (num : Int)]
  own : W.ownsRow w.heap.size 5 1 v L.length (bytC L)
  bel : Below w.heap.size w W
section
variable {w W W' : World} {QB CB NB num : Nat} {qv v : Value} {L : List UInt8}
theorem CrS.keep (h : CrS w W QB CB NB qv v L num) (hk : ∀ g, (g = QB ∨ g = CB ∨ g = NB ∨ v.ownBlock = some g) → W'.heap[g]? = W.heap[g]?) (hb : Below w.heap.size w W') : CrS w W' QB CB NB qv v L num where
  qb := (hk QB (.inl rfl)).trans h.qb
  cb := (hk CB (.inr (.inl rfl))).trans h.cb
  nb := (hk NB (.inr (.inr (.inl rfl)))).trans h.nb
  own := owns_keep h.own fun g hg => hk g (.inr (.inr (.inr hg)))
  bel := hb
theorem CrS.alloc (h : CrS w W QB CB NB qv v L num) (o : Obj) : CrS w (W.alloc o) QB CB NB qv v L num :=
  h.keep (fun g hg => Below.heap_alloc _ _ _ (by
    rcases hg with rfl | rfl | rfl | hg
    · exact h.qb.lt
    · exact h.cb.lt
    · exact h.nb.lt
    · exact owns_lt h.own g hg)) (h.bel.alloc h.bel.size _)
theorem CrS.blocks (h : CrS w W QB CB NB qv v L num) : ∀ g, (g = QB ∨ g = CB ∨ g = NB ∨ v.ownBlock = some g) → ∃ o, W.heap[g]? = some o ∧ o.isCells = true := by
  rintro g (rfl | rfl | rfl | hg)
  · exact ⟨_, h.qb, rfl⟩
  · exact ⟨_, h.cb, rfl⟩
  · exact ⟨_, h.nb, rfl⟩
  · rcases h.own.2 with ⟨rfl, _⟩ | ⟨g', cap, cur, rfl, _, hh, _⟩
    · simp [Value.ownBlock] at hg
    · obtain rfl : g' = g := by simpa [Value.ownBlock] using hg
      exact ⟨_, hh, rfl⟩
theorem CrS.ne (h : CrS w W QB CB NB qv v L num) : v.ownBlock ≠ some QB ∧ v.ownBlock ≠ some CB ∧ v.ownBlock ≠ some NB :=
  ⟨fun e => h.qb.not_row h.own (by decide) e.symm, fun e => h.cb.not_row h.own (by decide) e.symm, fun e => h.nb.not_row h.own (by decide) e.symm⟩
theorem CrS.put (h : CrS w W QB CB NB qv v L num) (hne : QB ≠ CB ∧ NB ≠ CB) (hCB : w.heap.size ≤ CB) (ht : Turn (fun g => v.ownBlock = some g) W W') {v2 : Value} {L2 : List UInt8} (hv : W'.ownsRow 0 5 1 v2 L2.length (bytC L2))
    (hat : v2.ownBlock = v.ownBlock ∨ ∃ g, v2.ownBlock = some g ∧ W.heap.size ≤ g) : CrS w (W'.setCell ⟨CB, 0, none⟩ v2) QB CB NB qv v2 L2 num := by
  have hn := h.ne
  have q2 := ht.far h.qb hn.1
  have c2 := ht.far h.cb hn.2.1
  have n2 := ht.far h.nb hn.2.2
  have hbase : ∀ g, v2.ownBlock = some g → w.heap.size ≤ g := fun g hg => by
    rcases hat with e | ⟨g', e, hl⟩
    · exact row_ge h.own g (e ▸ hg)
    · rw [e] at hg; injection hg with hg; subst hg; have := h.bel.size; omega
  exact {
    qb := q2.far (p := ⟨CB, 0, none⟩) hne.1 _
    cb := c2.set_ 0 v2
    nb := n2.far (p := ⟨CB, 0, none⟩) hne.2 _
    own := owns_base (owns_keep hv fun g hg => Below.heap_setCell _ _ _ _ (by
      rintro rfl
      exact c2.not_row hv (by decide) hg.symm)) hbase
    bel := (h.bel.trans (ht.below (fun g hg => row_ge h.own g hg) h.bel.size)).setCell hCB _ }
theorem CrS.num_ (h : CrS w W QB CB NB qv v L num) (hne : QB ≠ NB ∧ CB ≠ NB) (hNB : w.heap.size ≤ NB) : CrS w (W.setCell ⟨NB, 0, none⟩ (.int .i64 ((num : Int) + 1))) QB CB NB qv v L (num + 1) where
  qb := h.qb.far (p := ⟨NB, 0, none⟩) hne.1 _
  cb := h.cb.far (p := ⟨NB, 0, none⟩) hne.2 _
  nb := h.nb.set_ 0 _
  own := owns_keep h.own fun g hg => Below.heap_setCell _ _ _ _ (by rintro rfl; exact h.ne.2.2 hg)
  bel := h.bel.setCell hNB _
/-- what is no cells lies as it lay, where only cells turn -/
theorem turn_others {F : Nat → Prop} (ht : Turn F W W') (hF : ∀ g, F g → ∃ o, W.heap[g]? = some o ∧ o.isCells = true) : KeepsOthers W W' :=
  ⟨ht.size, fun k o hk ho => (ht.block k (Array.getElem?_eq_some_iff.1 hk).1 (fun e => by
    obtain ⟨o', h1, h2⟩ := hF k e
    rw [hk] at h1
    injection h1 with h1
    subst h1
    rw [ho] at h2; cases h2)).trans hk⟩
end
/-- The state between two rounds of Crash's inner loop: j parts of T have come; r: the iterator's block. -/
def RI (w : World) (QB CB NB : Nat) (qv : Value) (q : List Int) (num0 : Nat) (L0 : List UInt8) (T : List Pc) (Ds : List Nat) (j r : Nat) (W : World) : Prop :=
  ∃ v, CrS w W QB CB NB qv v (lay q num0 L0 (T.take j)) (num0 + j) ∧ v.ownBlock ≠ some r ∧ Marks w.heap.size Ds W
section
variable {w : World} {QB CB NB num0 R0 : Nat} {qv : Value} {q : List Int} {L0 : List UInt8} {T : List Pc} {Ds : List Nat}
theorem RI.grow (r : Nat) (hR : w.heap.size ≤ R0) (hD : ∀ D ∈ Ds, D < R0) : OwnFrom R0 (fun j => RI w QB CB NB qv q num0 L0 T Ds j r) := by
  rintro j W W' row ⟨v, hS, hv, hM⟩ hg hr
  refine ⟨v, hS.keep (fun g hgg => ?_) ?_, hv, hM.keep fun D hDD => ?_⟩
  · obtain ⟨o, ho, hc⟩ := hS.blocks g hgg
    exact grownBy_keeps_cells hg (fun r e => (hr r e).2) ho hc
  · exact hS.bel.grown hg hS.bel.size (fun k e => Nat.le_trans hR (hr k e).1)
  · refine hg.block D (hM.lt D hDD) (fun e => ?_)
    have := (hr D e.symm).1
    have := hD D hDD
    omega
theorem RI.set_ (j r : Nat) (W : World) (i : Nat) (u : Value) (h : RI w QB CB NB qv q num0 L0 T Ds j r W) (hr : R0 + 2 ≤ r) (hR : w.heap.size ≤ R0) (hQ : QB < R0 ∧ CB < R0 ∧ NB < R0) (hD : ∀ D ∈ Ds, D < R0) : RI w QB CB NB qv q num0 L0 T Ds j r (W.setCell ⟨r, i, none⟩ u) := by
  obtain ⟨v, hS, hv, hM⟩ := h
  refine ⟨v, hS.keep (fun g hgg => Below.heap_setCell _ _ _ _ ?_) (hS.bel.setCell (by show _ ≤ r; omega) _), hv, hM.keep fun D hDD => Below.heap_setCell _ _ _ _ (by have := hD D hDD; show D ≠ r; omega)⟩
  rcases hgg with rfl | rfl | rfl | hgg
  · show g ≠ r; omega
  · show g ≠ r; omega
  · show g ≠ r; omega
  · rintro rfl; exact hv hgg
theorem RI.alloc (j r : Nat) (W : World) (ob : Obj) (h : RI w QB CB NB qv q num0 L0 T Ds j r W) : RI w QB CB NB qv q num0 L0 T Ds j W.heap.size (W.alloc ob) := by
  obtain ⟨v, hS, hv, hM⟩ := h
  exact ⟨v, hS.alloc ob, fun e => by have := owns_lt hS.own _ e; omega, hM.keep fun D hDD => Below.heap_alloc _ _ _ (hM.lt D hDD)⟩
theorem RI.alloc_same (j r : Nat) (W : World) (ob : Obj) (h : RI w QB CB NB qv q num0 L0 T Ds j r W) : RI w QB CB NB qv q num0 L0 T Ds j r (W.alloc ob) := by
  obtain ⟨v, hS, hv, hM⟩ := h
  exact ⟨v, hS.alloc ob, hv, hM.keep fun D hDD => Below.heap_alloc _ _ _ (hM.lt D hDD)⟩
end
end Go.Proofs.Ythhpnlobhffimaa
