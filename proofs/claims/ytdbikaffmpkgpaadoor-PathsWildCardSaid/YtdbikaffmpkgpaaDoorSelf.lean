/- A path as a pattern matches itself. -/
import Derived.Test.YtdbikaffmpkgpaaDoorMade
import Derived.Test.YtdbikaffmpkgpaaDoorMatch
namespace Go.Proofs.YtdbikaffmpkgpaaDoor
open Go.RowKit

theorem wm_self : ∀ {l : List UInt8}, 42 ∉ l → wm l l = true
  | [], _ => rfl
  | c :: t, h => by
    have h1 : ¬ c = 42 := fun e => h (by simp [e])
    have h2 : 42 ∉ t := fun e => h (by simp [e])
    rw [wm, if_neg h1]
    simp [wm_self h2]
theorem mt_cons_one {c : ByteArray} {p : List ByteArray} (h : ¬ c.data.toList = [42, 42]) (x : ByteArray) (s : List ByteArray) : mt (c :: p) (x :: s) = (oneS c x && mt p s) := by
  rw [mt, if_neg h]
theorem mt_cons_nil {c : ByteArray} {p : List ByteArray} (h : ¬ c.data.toList = [42, 42]) : mt (c :: p) [] = false := by
  rw [mt, if_neg h]
theorem free_star {c : ByteArray} (h : 42 ∉ c.data.toList) : ¬ c.data.toList = [42, 42] := fun e => h (by rw [e]; simp)
theorem mt_self : ∀ {L : List ByteArray}, (∀ x ∈ L, 42 ∉ x.data.toList) → mt L L = true
  | [], _ => rfl
  | c :: t, h => by
    have h1 := h c (by simp)
    rw [mt_cons_one (free_star h1), mt_self (fun x hx => h x (by simp [hx]))]
    unfold oneS
    rw [wm_self h1]; rfl
theorem neigh_free {l : List UInt8} (h : 42 ∉ l) : neigh l = false := by
  rw [Bool.eq_false_iff]
  intro hn
  obtain ⟨k, hk, h1, _⟩ := (neigh_of l).1 hn
  exact h (by rw [← h1]; exact List.getElem_mem _)
/-- names have no stars, and are components of patterns -/
theorem name_free {x : ByteArray} (h : isName x = true) : 42 ∉ x.data.toList ∧ 47 ∉ x.data.toList ∧ isComp x = true := by
  unfold isName consists at h
  rw [Bool.and_eq_true, List.all_eq_true] at h
  obtain ⟨h1, h2⟩ := h
  have hs : 42 ∉ x.data.toList := fun hm => absurd (h1 42 hm) (by decide +kernel)
  have hl : 47 ∉ x.data.toList := fun hm => absurd (h1 47 hm) (by decide +kernel)
  refine ⟨hs, hl, ?_⟩
  unfold isComp consists
  rw [neigh_free hs, h2]
  have : x.data.toList.all (fun b => decide (1 ≤ cls b)) = true := by
    rw [List.all_eq_true]
    intro b hb
    have := h1 b hb
    rw [decide_eq_true_eq] at this ⊢
    omega
  rw [this]
  simp
theorem comps_all {s : ByteArray} (h : validS s = true) : s.size ≤ 200 ∧ (comps s).length ≤ 20 ∧ ∀ x ∈ comps s, isName x = true := by
  unfold validS within at h
  rw [Bool.and_eq_true, Bool.and_eq_true, decide_eq_true_eq, decide_eq_true_eq, List.all_eq_true] at h
  exact ⟨h.1, h.2.1, h.2.2⟩
theorem valid_ne {s : ByteArray} (h : validS s = true) : partsL s = comps s := by
  unfold partsL
  rw [if_neg]
  intro e
  have hs : s = ByteArray.empty := Go.WideShapes.bytes_inj e
  subst hs
  exact absurd h (by decide +kernel)
theorem valid_pat {s : ByteArray} (h : validS s = true) : patS s = true := by
  obtain ⟨h1, h2, h3⟩ := comps_all h
  unfold patS within
  rw [decide_eq_true h1, decide_eq_true h2]
  rw [Bool.true_and, Bool.true_and, List.all_eq_true]
  exact fun x hx => (name_free (h3 x hx)).2.2
theorem match_self {s : ByteArray} (h : validS s = true) : matchS s s = true := by
  obtain ⟨h1, h2, h3⟩ := comps_all h
  unfold matchS
  rw [valid_pat h, h, valid_ne h, mt_self (fun x hx => (name_free (h3 x hx)).1)]
  rfl

end Go.Proofs.YtdbikaffmpkgpaaDoor
