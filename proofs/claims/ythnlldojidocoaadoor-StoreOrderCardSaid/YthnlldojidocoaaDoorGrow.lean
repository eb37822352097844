/- A store with one more object. -/
import Derived.Test.YthnlldojidocoaaDoorCopy
import Derived.Deep.RegionLaw
namespace Go.Proofs.YthnlldojidocoaaDoor
open Go.RowKit Go.Maps

/-- the blocks of a store that a call writes -/
def Own (p : Nat) (v : Value) (m : Option Nat) (g : Nat) : Prop := g = p ∨ v.ownBlock = some g ∨ m = some g
theorem Turn.mono {F G : Nat → Prop} {w w' : World} (h : Turn F w w') (hg : ∀ g, F g → G g) : Turn G w w' := ⟨h.os, h.tape, h.output, h.size, fun g hl hn => h.block g hl fun e => hn (hg g e)⟩
theorem Turn.trans_ {F : Nat → Prop} {w w1 w2 : World} (h : Turn F w w1) (k : Turn F w1 w2) : Turn F w w2 :=
  ⟨k.os.trans h.os, k.tape.trans h.tape, k.output.trans h.output, Nat.le_trans h.size k.size, fun g hl hn => (k.block g (Nat.lt_of_lt_of_le hl h.size) hn).trans (h.block g hl hn)⟩
theorem Turn.grown {F : Nat → Prop} {w w' : World} {row : Option Nat} (h : w.grownBy w' row) (hr : ∀ g, row = some g → F g ∨ w.heap.size ≤ g) : Turn F w w' :=
  ⟨h.os, h.tape, h.output, h.size, fun g hl hn => h.block g hl fun e => (hr g e.symm).elim hn fun h => by omega⟩
theorem Turn.set_ {F : Nat → Prop} {w : World} {a : Addr} (hF : F a.block) (u : Value) : Turn F w (w.setCell a u) :=
  ⟨rfl, rfl, rfl, by simp [World.setCell], fun g _ hn => Below.heap_setCell w a u g fun e => hn (by rw [e]; exact hF)⟩
/-- blocks that are new ahead count as new -/
theorem Turn.late {F G : Nat → Prop} {w w1 w2 : World} (h : Turn F w w1) (k : Turn G w1 w2) (hG : ∀ g, G g → F g ∨ w.heap.size ≤ g) : Turn F w w2 :=
  ⟨k.os.trans h.os, k.tape.trans h.tape, k.output.trans h.output, Nat.le_trans h.size k.size, fun g hl hn => (k.block g (Nat.lt_of_lt_of_le hl h.size) (fun e => (hG g e).elim hn fun h => by omega)).trans (h.block g hl hn)⟩

theorem EntsF.keep {w w' : World} {F G : Nat → Prop} {u : Value} {es : List Ent} (h : EntsF w F u es) (hk : ∀ g, F g → G g ∧ w'.heap[g]? = w.heap[g]?) : EntsF w' G u es := by
  obtain ⟨A, c, e, hr⟩ := h
  exact ⟨A, c, e, hr.keep hk⟩

theorem obs_grow {w w' : World} {T : TypeId} {In G : Nat → Prop} {os : List Ob} {o : Ob} {u v' : Value} {vs : List Value} (hvl : vs.length = os.length)
    (hents : ∀ (i : Nat) (o : Ob) (u : Value), os[i]? = some o → vs[i]? = some u → EntsF w In u o.2.2) (hu : EntsF w G u o.2.2)
    (hown' : w'.ownsRow 0 T 3 v' (os.length + 1) (obsC os vs ++ obC (o, u))) (hk : ∀ g, In g ∨ G g → w'.heap[g]? = w.heap[g]?) : Obs w' T (fun g => In g ∨ G g) v' (os ++ [o]) := by
  refine ⟨vs ++ [u], by simp [hvl], ?_, fun i x y hx hy => ?_⟩
  · rw [obsC_snoc hvl, List.length_append]; exact hown'
  · rcases Nat.lt_or_ge i os.length with hi | hi
    · rw [List.getElem?_append_left hi] at hx
      rw [List.getElem?_append_left (by omega)] at hy
      exact (hents i x y hx hy).keep fun g hg => ⟨.inl hg, hk g (.inl hg)⟩
    · have hi0 : i = os.length := by
        have := (List.getElem?_eq_some_iff.1 hx).1
        simp at this; omega
      subst hi0
      rw [List.getElem?_append_right (Nat.le_refl _), Nat.sub_self] at hx
      rw [List.getElem?_append_right (by omega), hvl, Nat.sub_self] at hy
      obtain rfl : o = x := by simpa using hx
      obtain rfl : u = y := by simpa using hy
      exact hu.keep fun g hg => ⟨.inr hg, hk g (.inr hg)⟩

theorem StoreH.grow {B : Nat} {w w' : World} {p : Nat} {os : List Ob} {F G : Nat → Prop} {v v' u : Value} {m : Option Nat} {In : Nat → Prop} {o : Ob} {vs : List Value} {mb : Nat} {D' : DataW Unit}
    (h : StoreH B w p os F v m In) (ht : Turn (Own p v m) w w') (hG : ∀ g, G g → ¬ F g ∧ B ≤ g ∧ g < w.heap.size) (hvl : vs.length = os.length)
    (hents : ∀ (i : Nat) (o : Ob) (u : Value), os[i]? = some o → vs[i]? = some u → EntsF w In u o.2.2) (hu : EntsF w G u o.2.2)
    (hfull : Full w' p 36 [v', .map (some mb)]) (hown' : w'.ownsRow 0 72 3 v' (os.length + 1) (obsC os vs ++ obC (o, u)))
    (hv' : v.ownBlock = v'.ownBlock ∨ ∃ g, v'.ownBlock = some g ∧ w.heap.size ≤ g) (hmb : m = some mb ∨ w.heap.size ≤ mb)
    (hmap : w'.ownsMap Tryd.prog 68 (plainElem Tryd.prog 3) mb (os.length + 1) D') (hD : MapIs D' (os ++ [o])) (hf : Fine (os ++ [o])) :
    ∃ F', IsStore B w' p (os ++ [o]) F' ∧ Turn F w w' ∧ ∀ g, F' g → F g ∨ G g ∨ w.heap.size ≤ g := by
  have hOF : ∀ g, Own p v m g → F g := by
    rintro g (rfl | hg | hg)
    · exact h.self
    · exact (h.row g hg).1
    · rcases h.map with ⟨e, _⟩ | ⟨b, D, e, hb, _⟩
      · rw [e] at hg; cases hg
      · rw [e] at hg; injection hg with hg; subst hg; exact hb
  have hpB := h.in_ p h.self
  have hlt' := hmap.lt
  have hsz := ht.size
  have hvn : ∀ g, v'.ownBlock = some g → (F g ∧ g ≠ p) ∨ w.heap.size ≤ g := fun g hg => by
    rcases hv' with e | ⟨g', e, hl⟩
    · exact .inl (h.row g (e.trans hg))
    · rw [e] at hg; injection hg with hg; subst hg; exact .inr hl
  refine ⟨fun g => F g ∨ G g ∨ (w.heap.size ≤ g ∧ g < w'.heap.size), ⟨v', some mb, fun g => In g ∨ G g, ?_⟩, ht.mono hOF, fun g hg => hg.imp id (Or.imp id And.left)⟩
  have hkeep : ∀ g, In g ∨ G g → w'.heap[g]? = w.heap[g]? := by
    rintro g (hg | hg)
    · obtain ⟨h1, h2, h3, h4⟩ := h.inn g hg
      exact ht.block g (h.in_ g h1).2 (fun e => e.elim h2 fun e => e.elim h3 h4)
    · obtain ⟨h1, _, h3⟩ := hG g hg
      exact ht.block g h3 fun e => h1 (hOF g e)
  exact {
    full := hfull
    obs := obs_grow hvl hents hu hown' hkeep
    inn := by
      rintro g (hg | hg)
      · obtain ⟨h1, h2, h3, h4⟩ := h.inn g hg
        have hgl := (h.in_ g h1).2
        refine ⟨.inl h1, h2, fun e => ?_, fun e => ?_⟩
        · rcases hv' with e' | ⟨g', e', hl⟩
          · exact h3 (e'.trans e)
          · rw [e'] at e; injection e with e; omega
        · injection e with e
          subst e
          rcases hmb with e' | e'
          · exact h4 e'
          · omega
      · obtain ⟨h1, h2, h3⟩ := hG g hg
        refine ⟨.inr (.inl hg), fun e => h1 (e ▸ h.self), fun e => ?_, fun e => ?_⟩
        · rcases hvn g e with e' | e'
          · exact h1 e'.1
          · omega
        · injection e with e
          subst e
          rcases hmb with e' | e'
          · exact h1 (hOF _ (.inr (.inr e')))
          · omega
    self := .inl h.self
    row := fun g hg => by
      rcases hvn g hg with ⟨h1, h2⟩ | h1
      · exact ⟨.inl h1, h2⟩
      · exact ⟨.inr (.inr ⟨h1, owns_lt hown' g hg⟩), by omega⟩
    map := .inr ⟨mb, D', rfl, by
      rcases hmb with e' | e'
      · exact .inl (hOF _ (.inr (.inr e')))
      · exact .inr (.inr ⟨e', hlt'⟩), by simpa using hmap, hD⟩
    fine := hf
    in_ := by
      rintro g (hg | hg | hg)
      · exact ⟨(h.in_ g hg).1, by have := (h.in_ g hg).2; omega⟩
      · exact ⟨(hG g hg).2.1, by have := (hG g hg).2.2; omega⟩
      · exact ⟨by omega, hg.2⟩ }
end Go.Proofs.YthnlldojidocoaaDoor
