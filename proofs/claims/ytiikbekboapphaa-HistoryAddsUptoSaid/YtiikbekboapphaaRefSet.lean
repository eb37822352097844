/- The reference's history with one more commit; the set of a new commit. -/
import Derived.Test.YtiikbekboapphaaHk
import Derived.Shelf.Abstract
namespace Go.Proofs.Ytiikbekboapphaa
set_option maxRecDepth 100000
open Go.RowKit
/-- the set of a new commit, with the first k parents taken up -/
def setK (cs : List Cm) (ps : List Int) (k : Nat) : List Bool := (List.range (cs.length + 1)).map fun j => j == cs.length || (ps.take k).any fun p => rch (leads cs) p.toNat (j + 1)
/-- .. and the next one down to place j -/
def midK (cs : List Cm) (ps : List Int) (k j : Nat) : List Bool := (List.range (cs.length + 1)).map fun i => (setK cs ps (if i < j then k + 1 else k)).getD i false
theorem setK_len (cs : List Cm) (ps : List Int) (k : Nat) : (setK cs ps k).length = cs.length + 1 := by simp [setK]
theorem midK_len (cs : List Cm) (ps : List Int) (k j : Nat) : (midK cs ps k j).length = cs.length + 1 := by simp [midK]
theorem setK_at {cs : List Cm} {ps : List Int} {k j : Nat} (h : j < cs.length + 1) : (setK cs ps k).getD j false = (j == cs.length || (ps.take k).any fun p => rch (leads cs) p.toNat (j + 1)) := by
  simp [setK, h]
theorem midK_at {cs : List Cm} {ps : List Int} {k j i : Nat} (h : i < cs.length + 1) : (midK cs ps k j).getD i false = (setK cs ps (if i < j then k + 1 else k)).getD i false := by
  simp [midK, h]
theorem getD_ext {l r : List Bool} (h : l.length = r.length) (h2 : ∀ i, i < l.length → l.getD i false = r.getD i false) : l = r := by
  refine List.ext_getElem h fun i h1 h3 => ?_
  have := h2 i h1
  simpa [h1, h3] using this
theorem midK_zero (cs : List Cm) (ps : List Int) (k : Nat) : midK cs ps k 0 = setK cs ps k := by
  refine getD_ext (by rw [midK_len, setK_len]) fun i hi => ?_
  rw [midK_len] at hi
  rw [midK_at hi, if_neg (by omega)]
theorem setK_succ {cs : List Cm} {ps : List Int} {k j : Nat} (h : j < cs.length + 1) (hk : k < ps.length) : (setK cs ps (k + 1)).getD j false = ((setK cs ps k).getD j false || rch (leads cs) (ps.getD k 0).toNat (j + 1)) := by
  rw [setK_at h, setK_at h, List.take_succ_eq_append_getElem hk, List.any_append]
  simp [hk, Bool.or_assoc]
theorem midK_end {cs : List Cm} (hg : Good cs) {ps : List Int} {k p : Nat} (hk : k < ps.length) (hp : ps.getD k 0 = (p : Int)) : midK cs ps k p = setK cs ps (k + 1) := by
  refine getD_ext (by rw [midK_len, setK_len]) fun i hi => ?_
  rw [midK_len] at hi
  rw [midK_at hi]
  by_cases h : i < p
  · rw [if_pos h]
  · rw [if_neg h, setK_succ hi hk, hp, Int.toNat_natCast]
    have : rch (leads cs) p (i + 1) = false := by
      cases e : rch (leads cs) p (i + 1) with
      | false => rfl
      | true => have := rch_le (leads_down hg) _ _ e; omega
    rw [this, Bool.or_false]
theorem midK_step {cs : List Cm} {ps : List Int} {k j : Nat} (hj : j < cs.length + 1) (hk : k < ps.length) : midK cs ps k (j + 1) = (midK cs ps k j).set j ((midK cs ps k j).getD j false || rch (leads cs) (ps.getD k 0).toNat (j + 1)) := by
  refine getD_ext (by rw [List.length_set, midK_len, midK_len]) fun i hi => ?_
  rw [midK_len] at hi
  rw [midK_at hi, midK_at hj, if_neg (show ¬ j < j by omega)]
  by_cases h : i = j
  · subst h
    rw [if_pos (by omega), setK_succ hi hk]
    simp [midK_len, hi]
  · have e : ((midK cs ps k j).set j ((setK cs ps k).getD j false || rch (leads cs) (ps.getD k 0).toNat (j + 1))).getD i false = (midK cs ps k j).getD i false := by
      simp [List.getD_eq_getElem?_getD, List.getElem?_set_ne (Ne.symm h)]
    rw [e, midK_at hi]
    by_cases h2 : i < j
    · rw [if_pos (by omega), if_pos h2]
    · rw [if_neg (by omega), if_neg h2]
theorem setK_zero (cs : List Cm) (ps : List Int) : setK cs ps 0 = (List.replicate (cs.length + 1) false).set cs.length true := by
  refine getD_ext (by simp [setK_len]) fun i hi => ?_
  rw [setK_len] at hi
  rw [setK_at hi]
  by_cases h : i = cs.length
  · subst h; simp
  · rw [List.getD_eq_getElem?_getD, List.getElem?_set_ne (Ne.symm h)]
    simp [h, hi]
/-- the whole set of the new commit -/
theorem setK_full {cs : List Cm} {c : Cm} (hg : Good cs) (h0 : 0 < cs.length) (hc : canBe cs.length c.ps = true) : setK cs c.ps c.ps.length = setL (cs ++ [c]) (cs.length + 1) := by
  have hg' := hg.add h0 hc
  have hl : leads (cs ++ [c]) (cs.length + 1) = c.ps.map Int.toNat := leads_at (by simp)
  refine getD_ext (by rw [setK_len, setL_len]) fun i hi => ?_
  rw [setK_len] at hi
  rw [setK_at hi, List.take_length]
  have e : (setL (cs ++ [c]) (cs.length + 1)).getD i false = rch (leads (cs ++ [c])) (cs.length + 1) (i + 1) := by
    rw [List.getD_eq_getElem?_getD, setL_at _ hi]; rfl
  rw [e, rch_step (leads_down hg'), hl, List.any_map]
  congr 1
  · rw [Bool.eq_iff_iff]; simp; omega
  · rw [Bool.eq_iff_iff, List.any_eq_true, List.any_eq_true]
    have key : ∀ p ∈ c.ps, rch (leads (cs ++ [c])) p.toNat (i + 1) = rch (leads cs) p.toNat (i + 1) := fun p hp => by
      have := canBe_in hc p hp
      exact rch_app hg hg' h0 (by omega) _
    exact ⟨fun ⟨p, hp, q⟩ => ⟨p, hp, by show rch _ _ _ = true; rw [key p hp]; exact q⟩, fun ⟨p, hp, q⟩ => ⟨p, hp, by rw [← key p hp]; exact q⟩⟩
theorem boolC_len (l : List Bool) : (boolC l).length = l.length := by simp [boolC]
theorem boolC_at (l : List Bool) (k : Nat) (hk : k < l.length) : (boolC l)[k]? = some (.bool (l.getD k false)) := by simp [boolC, hk]
theorem boolC_set (l : List Bool) (k : Nat) (b : Bool) : boolC (l.set k b) = (boolC l).set k (.bool b) := by simp [boolC, List.map_set]

theorem RefH.grow {B : Nat} {wx w8 : World} {q : Nat} {cs : List Cm} {F G : Nat → Prop} {v s v' s' sl : Value} {u : Value × Value} {In : Nat → Prop} {c : Cm} {vs : List (Value × Value)} {ss : List Value}
    (h : RefH B wx q cs F v s In) (ht : Turn (fun g => g = q ∨ v.ownBlock = some g ∨ s.ownBlock = some g) wx w8) (hG : ∀ g, G g → ¬ F g ∧ B ≤ g ∧ g < wx.heap.size) (hvl : vs.length = cs.length)
    (hints : ∀ (i : Nat) (c : Cm) (u : Value × Value), cs[i]? = some c → vs[i]? = some u → IntsF wx In u.1 c.ps ∧ IntsF wx In u.2 c.ch) (hu : IntsF wx G u.1 c.ps ∧ IntsF wx G u.2 c.ch)
    (hsl : ss.length = cs.length) (hbits : ∀ (i : Nat) (u : Value), ss[i]? = some u → BoolsF wx In u (setL cs (i + 1))) (hb : BoolsF wx G sl (setL (cs ++ [c]) (cs.length + 1)))
    (hfull : Full w8 q 67 [v', s']) (hown' : w8.ownsRow 0 25 5 v' (cs.length + 1) (cmsC cs vs ++ cmC c u.1 u.2)) (hsets' : w8.ownsRow 0 64 1 s' (cs.length + 1) (ss ++ [sl]))
    (hv' : v.ownBlock = v'.ownBlock ∨ ∃ g, v'.ownBlock = some g ∧ wx.heap.size ≤ g) (hs' : s.ownBlock = s'.ownBlock ∨ ∃ g, s'.ownBlock = some g ∧ wx.heap.size ≤ g) (hc : canBe cs.length c.ps = true) :
    ∃ F', IsR B w8 q (cs ++ [c]) F' ∧ Turn F wx w8 ∧ ∀ g, F' g → F g ∨ G g ∨ wx.heap.size ≤ g := by
  have hOF : ∀ g, (g = q ∨ v.ownBlock = some g ∨ s.ownBlock = some g) → F g := by
    rintro g (rfl | hg | hg)
    · exact h.self
    · exact (h.row g (.inl hg)).1
    · exact (h.row g (.inr hg)).1
  have hqB := h.in_ q h.self
  have hsz := ht.size
  have hvn : ∀ g, v'.ownBlock = some g → (F g ∧ g ≠ q) ∨ wx.heap.size ≤ g := fun g hg => by
    rcases hv' with e | ⟨g', e, hl⟩
    · exact .inl (h.row g (.inl (e.trans hg)))
    · rw [e] at hg; injection hg with hg; subst hg; exact .inr hl
  have hsn : ∀ g, s'.ownBlock = some g → (F g ∧ g ≠ q) ∨ wx.heap.size ≤ g := fun g hg => by
    rcases hs' with e | ⟨g', e, hl⟩
    · exact .inl (h.row g (.inr (e.trans hg)))
    · rw [e] at hg; injection hg with hg; subst hg; exact .inr hl
  refine ⟨fun g => F g ∨ G g ∨ (wx.heap.size ≤ g ∧ g < w8.heap.size), ⟨v', s', fun g => In g ∨ G g, ?_⟩, ht.mono hOF, fun g hg => hg.imp id (Or.imp id And.left)⟩
  have hkeep : ∀ g, In g ∨ G g → w8.heap[g]? = wx.heap[g]? := by
    rintro g (hg | hg)
    · obtain ⟨h1, h2, h3, h4⟩ := h.inn g hg
      exact ht.block g (h.in_ g h1).2 (fun e => e.elim h2 fun e => e.elim h3 h4)
    · obtain ⟨h1, _, h3⟩ := hG g hg
      exact ht.block g h3 fun e => h1 (hOF g e)
  have hg' := h.good.add h.pos hc
  exact {
    full := hfull
    obs := obs_grow hvl hints hu hown' hkeep
    sets := by
      refine ⟨ss ++ [sl], by simp [hsl], by rw [List.length_append]; exact hsets', fun i x hx => ?_⟩
      rcases Nat.lt_or_ge i ss.length with hi | hi
      · rw [List.getElem?_append_left hi] at hx
        rw [setL_app h.good hg' h.pos (by omega)]
        exact (hbits i x hx).keep fun g hg => ⟨.inl hg, hkeep g (.inl hg)⟩
      · have hi0 : i = ss.length := by
          have := (List.getElem?_eq_some_iff.1 hx).1
          simp at this; omega
        subst hi0
        rw [List.getElem?_append_right (Nat.le_refl _), Nat.sub_self] at hx
        obtain rfl : sl = x := by simpa using hx
        rw [hsl]
        exact hb.keep fun g hg => ⟨.inr hg, hkeep g (.inr hg)⟩
    inn := by
      rintro g (hg | hg)
      · obtain ⟨h1, h2, h3, h4⟩ := h.inn g hg
        have hgl := (h.in_ g h1).2
        refine ⟨.inl h1, h2, fun e => ?_, fun e => ?_⟩
        · rcases hv' with e' | ⟨g', e', hl⟩
          · exact h3 (e'.trans e)
          · rw [e'] at e; injection e with e; omega
        · rcases hs' with e' | ⟨g', e', hl⟩
          · exact h4 (e'.trans e)
          · rw [e'] at e; injection e with e; omega
      · obtain ⟨h1, h2, h3⟩ := hG g hg
        refine ⟨.inr (.inl hg), fun e => h1 (e ▸ h.self), fun e => ?_, fun e => ?_⟩
        · rcases hvn g e with e' | e'
          · exact h1 e'.1
          · omega
        · rcases hsn g e with e' | e'
          · exact h1 e'.1
          · omega
    self := .inl h.self
    row := fun g hg => by
      rcases hg with hg | hg
      · rcases hvn g hg with ⟨h1, h2⟩ | h1
        · exact ⟨.inl h1, h2⟩
        · exact ⟨.inr (.inr ⟨h1, owns_lt hown' g hg⟩), by omega⟩
      · rcases hsn g hg with ⟨h1, h2⟩ | h1
        · exact ⟨.inl h1, h2⟩
        · exact ⟨.inr (.inr ⟨h1, owns_lt hsets' g hg⟩), by omega⟩
    good := hg'
    pos := by simp
    in_ := by
      rintro g (hg | hg | hg)
      · exact ⟨(h.in_ g hg).1, by have := (h.in_ g hg).2; omega⟩
      · exact ⟨(hG g hg).2.1, by have := (hG g hg).2.2; omega⟩
      · exact ⟨by omega, hg.2⟩ }
end Go.Proofs.Ytiikbekboapphaa
