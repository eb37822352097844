/- How a history and the reference's history lie in the heap. -/
import Derived.Test.YtiikbekboapphaaFrame
import Derived.Test.YtiikbekboapphaaHistMath
namespace Go.Proofs.Ytiikbekboapphaa
open Go.RowKit

/-- the value is a slice of these ints -/
def IntsF (w : World) (F : Nat → Prop) (v : Value) (l : List Int) : Prop := ∃ A c, v = .slice A l.length c ∧ RowF w F 1 A l.length c (intC l)
theorem IntsF.keep {w w' : World} {F G : Nat → Prop} {u : Value} {l : List Int} (h : IntsF w F u l) (hk : ∀ g, F g → G g ∧ w'.heap[g]? = w.heap[g]?) : IntsF w' G u l := by
  obtain ⟨A, c, e, hr⟩ := h
  exact ⟨A, c, e, hr.keep hk⟩
theorem IntsF.nil (w : World) (F : Nat → Prop) : IntsF w F (.slice none 0 0) [] := ⟨none, 0, rfl, RowF.nil w F 1⟩
theorem IntsF.own {w : World} {base : Nat} {l : List Int} {A : Option Addr} {c : Nat} {F : Nat → Prop} (h : w.ownsRow base 3 1 (.slice A l.length c) l.length (intC l)) (hF : ∀ g, (Value.slice A l.length c).ownBlock = some g → F g) : IntsF w F (.slice A l.length c) l :=
  ⟨A, c, rfl, owns_row h hF⟩
/-- the value is a slice of these bools -/
def BoolsF (w : World) (F : Nat → Prop) (v : Value) (l : List Bool) : Prop := ∃ A c, v = .slice A l.length c ∧ RowF w F 1 A l.length c (boolC l)
theorem BoolsF.keep {w w' : World} {F G : Nat → Prop} {u : Value} {l : List Bool} (h : BoolsF w F u l) (hk : ∀ g, F g → G g ∧ w'.heap[g]? = w.heap[g]?) : BoolsF w' G u l := by
  obtain ⟨A, c, e, hr⟩ := h
  exact ⟨A, c, e, hr.keep hk⟩

/-- a commit's cells; a and b: its slices of parents and changes -/
def cmC (c : Cm) (a b : Value) : List Value := [a, .int .i64 c.tree, .string c.au, b, .bool c.em]
def cmP (p : Cm × Value × Value) : List Value := cmC p.1 p.2.1 p.2.2
def cmsC (cs : List Cm) (vs : List (Value × Value)) : List Value := (cs.zip vs).flatMap cmP
theorem cmsC_len {cs : List Cm} {vs : List (Value × Value)} (h : vs.length = cs.length) : (cmsC cs vs).length = cs.length * 5 := by
  unfold cmsC
  rw [flat_len cmP 5 (fun _ => rfl), List.length_zip, h, Nat.min_self]
theorem cmsC_at {cs : List Cm} {vs : List (Value × Value)} (h : vs.length = cs.length) {k j : Nat} (hk : k < cs.length) (hj : j < 5) : (cmsC cs vs)[k * 5 + j]? = (cmC cs[k] (vs[k]'(by omega)).1 (vs[k]'(by omega)).2)[j]? := by
  unfold cmsC
  rw [flat_at cmP 5 (fun _ => rfl) _ k j (by rw [List.length_zip]; omega) hj, List.getElem_zip]
  rfl
theorem cmsC_snoc {cs : List Cm} {vs : List (Value × Value)} (h : vs.length = cs.length) (c : Cm) (u : Value × Value) : cmsC (cs ++ [c]) (vs ++ [u]) = cmsC cs vs ++ cmC c u.1 u.2 := by
  unfold cmsC
  rw [List.zip_append h.symm, List.flatMap_append]
  simp [cmP]

/-- The slice v holds the commits cs; their lists lie in the blocks of In. -/
def Obs (w : World) (In : Nat → Prop) (v : Value) (cs : List Cm) : Prop :=
  ∃ vs : List (Value × Value), vs.length = cs.length ∧ w.ownsRow 0 25 5 v cs.length (cmsC cs vs) ∧ ∀ (i : Nat) (c : Cm) (u : Value × Value), cs[i]? = some c → vs[i]? = some u → IntsF w In u.1 c.ps ∧ IntsF w In u.2 c.ch
theorem Obs.keep {w w' : World} {In In' : Nat → Prop} {v : Value} {cs : List Cm} (h : Obs w In v cs) (hv : ∀ g, v.ownBlock = some g → w'.heap[g]? = w.heap[g]?) (hk : ∀ g, In g → In' g ∧ w'.heap[g]? = w.heap[g]?) : Obs w' In' v cs := by
  obtain ⟨vs, h1, h2, h3⟩ := h
  exact ⟨vs, h1, owns_keep h2 hv, fun i c u hc hu => ⟨(h3 i c u hc hu).1.keep hk, (h3 i c u hc hu).2.keep hk⟩⟩
theorem obs_grow {w w' : World} {In G : Nat → Prop} {cs : List Cm} {c : Cm} {u : Value × Value} {v' : Value} {vs : List (Value × Value)} (hvl : vs.length = cs.length)
    (hints : ∀ (i : Nat) (c : Cm) (u : Value × Value), cs[i]? = some c → vs[i]? = some u → IntsF w In u.1 c.ps ∧ IntsF w In u.2 c.ch) (hu : IntsF w G u.1 c.ps ∧ IntsF w G u.2 c.ch)
    (hown' : w'.ownsRow 0 25 5 v' (cs.length + 1) (cmsC cs vs ++ cmC c u.1 u.2)) (hk : ∀ g, In g ∨ G g → w'.heap[g]? = w.heap[g]?) : Obs w' (fun g => In g ∨ G g) v' (cs ++ [c]) := by
  refine ⟨vs ++ [u], by simp [hvl], ?_, fun i x y hx hy => ?_⟩
  · rw [cmsC_snoc hvl, List.length_append]; exact hown'
  · rcases Nat.lt_or_ge i cs.length with hi | hi
    · rw [List.getElem?_append_left hi] at hx
      rw [List.getElem?_append_left (by omega)] at hy
      have := hints i x y hx hy
      exact ⟨this.1.keep fun g hg => ⟨.inl hg, hk g (.inl hg)⟩, this.2.keep fun g hg => ⟨.inl hg, hk g (.inl hg)⟩⟩
    · have hi0 : i = cs.length := by
        have := (List.getElem?_eq_some_iff.1 hx).1
        simp at this; omega
      subst hi0
      rw [List.getElem?_append_right (Nat.le_refl _), Nat.sub_self] at hx
      rw [List.getElem?_append_right (by omega), hvl, Nat.sub_self] at hy
      obtain rfl : c = x := by simpa using hx
      obtain rfl : u = y := by simpa using hy
      exact ⟨hu.1.keep fun g hg => ⟨.inr hg, hk g (.inr hg)⟩, hu.2.keep fun g hg => ⟨.inr hg, hk g (.inr hg)⟩⟩

/-- A history at block p holds the commits cs, in blocks of F, from B on. -/
structure HistH (B : Nat) (w : World) (p : Nat) (cs : List Cm) (F : Nat → Prop) (v : Value) (In : Nat → Prop) : Prop where
  full : Full w p 62 [v]
  obs : Obs w In v cs
  inn : ∀ g, In g → F g ∧ g ≠ p ∧ v.ownBlock ≠ some g
  self : F p
  row : ∀ g, v.ownBlock = some g → F g ∧ g ≠ p
  good : Good cs
  pos : 0 < cs.length
  in_ : ∀ g, F g → B ≤ g ∧ g < w.heap.size
def IsH (B : Nat) (w : World) (p : Nat) (cs : List Cm) (F : Nat → Prop) : Prop := ∃ v In, HistH B w p cs F v In
section
variable {B : Nat} {w w' : World} {p : Nat} {cs : List Cm} {F : Nat → Prop}
theorem HistH.keep {v : Value} {In : Nat → Prop} (h : HistH B w p cs F v In) (hk : ∀ g, F g → w'.heap[g]? = w.heap[g]?) (hs : w.heap.size ≤ w'.heap.size) : HistH B w' p cs F v In where
  full := (hk p h.self).trans h.full
  obs := h.obs.keep (fun g hg => hk g (h.row g hg).1) fun g hg => ⟨hg, hk g (h.inn g hg).1⟩
  inn := h.inn
  self := h.self
  row := h.row
  good := h.good
  pos := h.pos
  in_ := fun g hg => ⟨(h.in_ g hg).1, Nat.lt_of_lt_of_le (h.in_ g hg).2 hs⟩
theorem IsH.keep (h : IsH B w p cs F) (hk : ∀ g, F g → w'.heap[g]? = w.heap[g]?) (hs : w.heap.size ≤ w'.heap.size) : IsH B w' p cs F := by
  obtain ⟨v, In, h⟩ := h
  exact ⟨v, In, h.keep hk hs⟩
theorem IsH.in_ (h : IsH B w p cs F) : ∀ g, F g → B ≤ g ∧ g < w.heap.size := by
  obtain ⟨v, In, h⟩ := h
  exact h.in_
theorem IsH.good (h : IsH B w p cs F) : Good cs := by
  obtain ⟨v, In, h⟩ := h
  exact h.good
theorem IsH.pos (h : IsH B w p cs F) : 0 < cs.length := by
  obtain ⟨v, In, h⟩ := h
  exact h.pos
theorem IsH.self (h : IsH B w p cs F) : F p := by
  obtain ⟨v, In, h⟩ := h
  exact h.self
theorem IsH.on (h : IsH B w p cs F) (hb : Below w.heap.size w w') : IsH B w' p cs F := h.keep (fun g hg => hb.block g (h.in_ g hg).2) hb.size
/-- another's call on blocks that are not this history's -/
theorem IsH.apart {G : Nat → Prop} (h : IsH B w p cs F) (ht : Turn G w w') (hG : ∀ g, F g → ¬ G g) : IsH B w' p cs F :=
  h.keep (fun g hg => ht.block g (h.in_ g hg).2 (hG g hg)) ht.size
theorem HistH.grow {G : Nat → Prop} {v v' : Value} {u : Value × Value} {In : Nat → Prop} {c : Cm} {vs : List (Value × Value)}
    (h : HistH B w p cs F v In) (ht : Turn (fun g => g = p ∨ v.ownBlock = some g) w w') (hG : ∀ g, G g → ¬ F g ∧ B ≤ g ∧ g < w.heap.size) (hvl : vs.length = cs.length)
    (hints : ∀ (i : Nat) (c : Cm) (u : Value × Value), cs[i]? = some c → vs[i]? = some u → IntsF w In u.1 c.ps ∧ IntsF w In u.2 c.ch) (hu : IntsF w G u.1 c.ps ∧ IntsF w G u.2 c.ch)
    (hfull : Full w' p 62 [v']) (hown' : w'.ownsRow 0 25 5 v' (cs.length + 1) (cmsC cs vs ++ cmC c u.1 u.2))
    (hv' : v.ownBlock = v'.ownBlock ∨ ∃ g, v'.ownBlock = some g ∧ w.heap.size ≤ g) (hc : canBe cs.length c.ps = true) :
    ∃ F', IsH B w' p (cs ++ [c]) F' ∧ Turn F w w' ∧ ∀ g, F' g → F g ∨ G g ∨ w.heap.size ≤ g := by
  have hOF : ∀ g, (g = p ∨ v.ownBlock = some g) → F g := by
    rintro g (rfl | hg)
    · exact h.self
    · exact (h.row g hg).1
  have hpB := h.in_ p h.self
  have hsz := ht.size
  have hvn : ∀ g, v'.ownBlock = some g → (F g ∧ g ≠ p) ∨ w.heap.size ≤ g := fun g hg => by
    rcases hv' with e | ⟨g', e, hl⟩
    · exact .inl (h.row g (e.trans hg))
    · rw [e] at hg; injection hg with hg; subst hg; exact .inr hl
  refine ⟨fun g => F g ∨ G g ∨ (w.heap.size ≤ g ∧ g < w'.heap.size), ⟨v', fun g => In g ∨ G g, ?_⟩, ht.mono hOF, fun g hg => hg.imp id (Or.imp id And.left)⟩
  have hkeep : ∀ g, In g ∨ G g → w'.heap[g]? = w.heap[g]? := by
    rintro g (hg | hg)
    · obtain ⟨h1, h2, h3⟩ := h.inn g hg
      exact ht.block g (h.in_ g h1).2 (fun e => e.elim h2 h3)
    · obtain ⟨h1, _, h3⟩ := hG g hg
      exact ht.block g h3 fun e => h1 (hOF g e)
  exact {
    full := hfull
    obs := obs_grow hvl hints hu hown' hkeep
    inn := by
      rintro g (hg | hg)
      · obtain ⟨h1, h2, h3⟩ := h.inn g hg
        have hgl := (h.in_ g h1).2
        refine ⟨.inl h1, h2, fun e => ?_⟩
        rcases hv' with e' | ⟨g', e', hl⟩
        · exact h3 (e'.trans e)
        · rw [e'] at e; injection e with e; omega
      · obtain ⟨h1, h2, h3⟩ := hG g hg
        refine ⟨.inr (.inl hg), fun e => h1 (e ▸ h.self), fun e => ?_⟩
        rcases hvn g e with e' | e'
        · exact h1 e'.1
        · omega
    self := .inl h.self
    row := fun g hg => by
      rcases hvn g hg with ⟨h1, h2⟩ | h1
      · exact ⟨.inl h1, h2⟩
      · exact ⟨.inr (.inr ⟨h1, owns_lt hown' g hg⟩), by omega⟩
    good := h.good.add h.pos hc
    pos := by simp
    in_ := by
      rintro g (hg | hg | hg)
      · exact ⟨(h.in_ g hg).1, by have := (h.in_ g hg).2; omega⟩
      · exact ⟨(hG g hg).2.1, by have := (hG g hg).2.2; omega⟩
      · exact ⟨by omega, hg.2⟩ }
end

/-- what the reference's set of a commit tells -/
def setL (cs : List Cm) (id : Nat) : List Bool := (List.range id).map fun j => rch (leads cs) id (j + 1)
theorem setL_len (cs : List Cm) (id : Nat) : (setL cs id).length = id := by simp [setL]
theorem setL_at (cs : List Cm) {id j : Nat} (h : j < id) : (setL cs id)[j]? = some (rch (leads cs) id (j + 1)) := by simp [setL, h]
def SetsR (w : World) (In : Nat → Prop) (s : Value) (cs : List Cm) : Prop :=
  ∃ ss : List Value, ss.length = cs.length ∧ w.ownsRow 0 64 1 s cs.length ss ∧ ∀ (i : Nat) (u : Value), ss[i]? = some u → BoolsF w In u (setL cs (i + 1))
theorem SetsR.keep {w w' : World} {In In' : Nat → Prop} {v : Value} {cs : List Cm} (h : SetsR w In v cs) (hv : ∀ g, v.ownBlock = some g → w'.heap[g]? = w.heap[g]?) (hk : ∀ g, In g → In' g ∧ w'.heap[g]? = w.heap[g]?) : SetsR w' In' v cs := by
  obtain ⟨vs, h1, h2, h3⟩ := h
  exact ⟨vs, h1, owns_keep h2 hv, fun i u hu => (h3 i u hu).keep hk⟩
theorem setL_app {cs ds : List Cm} (h1 : Good cs) (h2 : Good (cs ++ ds)) (h0 : 0 < cs.length) {id : Nat} (hid : id ≤ cs.length) : setL (cs ++ ds) id = setL cs id := by
  unfold setL
  refine List.map_congr_left fun j _ => ?_
  exact rch_app h1 h2 h0 hid (j + 1)

/-- The reference's history at block q. -/
structure RefH (B : Nat) (w : World) (q : Nat) (cs : List Cm) (F : Nat → Prop) (v s : Value) (In : Nat → Prop) : Prop where
  full : Full w q 67 [v, s]
  obs : Obs w In v cs
  sets : SetsR w In s cs
  inn : ∀ g, In g → F g ∧ g ≠ q ∧ v.ownBlock ≠ some g ∧ s.ownBlock ≠ some g
  self : F q
  row : ∀ g, v.ownBlock = some g ∨ s.ownBlock = some g → F g ∧ g ≠ q
  good : Good cs
  pos : 0 < cs.length
  in_ : ∀ g, F g → B ≤ g ∧ g < w.heap.size
def IsR (B : Nat) (w : World) (q : Nat) (cs : List Cm) (F : Nat → Prop) : Prop := ∃ v s In, RefH B w q cs F v s In
section
variable {B : Nat} {w w' : World} {q : Nat} {cs : List Cm} {F : Nat → Prop}
theorem RefH.keep {v s : Value} {In : Nat → Prop} (h : RefH B w q cs F v s In) (hk : ∀ g, F g → w'.heap[g]? = w.heap[g]?) (hs : w.heap.size ≤ w'.heap.size) : RefH B w' q cs F v s In where
  full := (hk q h.self).trans h.full
  obs := h.obs.keep (fun g hg => hk g (h.row g (.inl hg)).1) fun g hg => ⟨hg, hk g (h.inn g hg).1⟩
  sets := h.sets.keep (fun g hg => hk g (h.row g (.inr hg)).1) fun g hg => ⟨hg, hk g (h.inn g hg).1⟩
  inn := h.inn
  self := h.self
  row := h.row
  good := h.good
  pos := h.pos
  in_ := fun g hg => ⟨(h.in_ g hg).1, Nat.lt_of_lt_of_le (h.in_ g hg).2 hs⟩
theorem IsR.keep (h : IsR B w q cs F) (hk : ∀ g, F g → w'.heap[g]? = w.heap[g]?) (hs : w.heap.size ≤ w'.heap.size) : IsR B w' q cs F := by
  obtain ⟨v, s, In, h⟩ := h
  exact ⟨v, s, In, h.keep hk hs⟩
theorem IsR.in_ (h : IsR B w q cs F) : ∀ g, F g → B ≤ g ∧ g < w.heap.size := by
  obtain ⟨v, s, In, h⟩ := h
  exact h.in_
theorem IsR.good (h : IsR B w q cs F) : Good cs := by
  obtain ⟨v, s, In, h⟩ := h
  exact h.good
theorem IsR.pos (h : IsR B w q cs F) : 0 < cs.length := by
  obtain ⟨v, s, In, h⟩ := h
  exact h.pos
theorem IsR.on (h : IsR B w q cs F) (hb : Below w.heap.size w w') : IsR B w' q cs F := h.keep (fun g hg => hb.block g (h.in_ g hg).2) hb.size
theorem IsR.apart {G : Nat → Prop} (h : IsR B w q cs F) (ht : Turn G w w') (hG : ∀ g, F g → ¬ G g) : IsR B w' q cs F :=
  h.keep (fun g hg => ht.block g (h.in_ g hg).2 (hG g hg)) ht.size
end
end Go.Proofs.Ytiikbekboapphaa
