/- A path as a pattern, one component replaced; a cell of a row of one's own is written. -/
import Derived.Test.YtdbikaffmpkgpaaDoorGlue
import Derived.Test.YtdbikaffmpkgpaaDoorLaws
namespace Go.Proofs.YtdbikaffmpkgpaaDoor
open Go.RowKit

theorem one_self {c : ByteArray} (h : isName c = true) : oneS c c = true := wm_self (name_free h).1
theorem mt_set : ∀ {X : List ByteArray} {k : Nat} {c : ByteArray} (_ : ∀ x ∈ X, isName x = true) (_ : cStar c = false) (hk : k < X.length), mt (X.set k c) X = oneS c X[k]
  | x :: t, 0, c, hX, hc, _ => by
    rw [List.set_cons_zero, mt_cons_one (of_decide_eq_false hc), mt_self (fun y hy => (name_free (hX y (by simp [hy]))).1), Bool.and_true]
    rfl
  | x :: t, k + 1, c, hX, hc, hk => by
    have hx := hX x (by simp)
    rw [List.set_cons_succ, mt_cons_one (free_star (name_free hx).1), one_self hx, Bool.true_and, mt_set (fun y hy => hX y (by simp [hy])) hc (by simpa using hk)]
    rfl
theorem match_set {x : ByteArray} (hx : validS x = true) {k : Nat} (hk : k < (comps x).length) {c : ByteArray} (hc : isComp c = true) (h47 : 47 ∉ c.data.toList) (hcs : cStar c = false) (hz : (joinL ((comps x).set k c)).length ≤ 200) : matchS (str (joinL ((comps x).set k c))) x = oneS c (comps x)[k] := by
  obtain ⟨h1, h2, h3⟩ := comps_all hx
  have hne : (comps x).set k c ≠ [] := fun e => by
    have := congrArg List.length e
    rw [List.length_set, List.length_nil] at this; omega
  have hcj : comps (str (joinL ((comps x).set k c))) = (comps x).set k c := comps_join hne (fun y hy => by
    rcases List.mem_or_eq_of_mem_set hy with h | rfl
    · exact (name_free (h3 y h)).2.1
    · exact h47)
  have hp : patS (str (joinL ((comps x).set k c))) = true := by
    unfold patS within
    rw [hcj, List.length_set, str_size, decide_eq_true hz, decide_eq_true h2]
    rw [Bool.true_and, Bool.true_and, List.all_eq_true]
    intro y hy
    rcases List.mem_or_eq_of_mem_set hy with h | rfl
    · exact (name_free (h3 y h)).2.2
    · exact hc
  unfold matchS
  rw [hp, hx, pat_ne hp, hcj, valid_ne hx, mt_set h3 hcs hk]
  rfl
theorem match_eq {x y : ByteArray} (hx : validS x = true) (hy : validS y = true) : matchS x y = decide (x.data.toList = y.data.toList) := by
  rw [Bool.eq_iff_iff, decide_eq_true_eq]
  constructor
  · intro h
    unfold matchS at h
    rw [valid_pat hx, hy, Bool.true_and, Bool.true_and, valid_ne hx, valid_ne hy] at h
    have := mt_literal (comps_all hx).2.2 h
    rw [← join_comps x, ← join_comps y, this]
  · intro h
    have : x = y := Go.WideShapes.bytes_inj h
    subst this
    exact match_self hx
def marksS (n : Nat) : ByteArray := str (List.replicate n 63)
theorem wm_marks : ∀ (n : Nat) (s : List UInt8), wm (List.replicate n 63) s = decide (s.length = n)
  | 0, s => by
    cases s <;> rfl
  | n + 1, s => by
    rw [List.replicate_succ, wm, if_neg (by decide)]
    cases s with
    | nil => rfl
    | cons x s => simp [wm_marks n s]
theorem one_marks (n : Nat) (s : ByteArray) : oneS (marksS n) s = decide (s.size = n) := by
  unfold oneS marksS
  rw [str_data, wm_marks, data_len]
theorem marks_comp {n : Nat} (h : 0 < n) : isComp (marksS n) = true ∧ 47 ∉ (marksS n).data.toList ∧ cStar (marksS n) = false := by
  have h42 : 42 ∉ (marksS n).data.toList := fun hm => by
    unfold marksS at hm
    rw [str_data] at hm
    exact absurd (List.eq_of_mem_replicate hm) (by decide)
  refine ⟨?_, fun hm => ?_, ?_⟩
  · unfold isComp consists
    rw [neigh_free h42]
    unfold marksS
    rw [str_data]
    have h1 : (List.replicate n (63 : UInt8)).all (fun b => decide (1 ≤ cls b)) = true := by
      rw [List.all_eq_true]
      intro x hx
      rw [List.eq_of_mem_replicate hx]
      decide +kernel
    rw [h1, decide_eq_false (p := List.replicate n (63 : UInt8) = []) (by simp; omega), decide_eq_false (p := List.replicate n (63 : UInt8) = [46]), decide_eq_false (p := List.replicate n (63 : UInt8) = [46, 46])]
    · simp
    · intro e
      have : (46 : UInt8) ∈ List.replicate n (63 : UInt8) := by rw [e]; simp
      exact absurd (List.eq_of_mem_replicate this) (by decide)
    · intro e
      have : (46 : UInt8) ∈ List.replicate n (63 : UInt8) := by rw [e]; simp
      exact absurd (List.eq_of_mem_replicate this) (by decide)
  · unfold marksS at hm
    rw [str_data] at hm
    exact absurd (List.eq_of_mem_replicate hm) (by decide)
  · unfold cStar
    rw [decide_eq_false_iff_not]
    intro e
    exact h42 (by rw [e]; simp)
theorem star_comp : isComp ⟨#[42]⟩ = true ∧ 47 ∉ (⟨#[42]⟩ : ByteArray).data.toList ∧ cStar ⟨#[42]⟩ = false := by decide +kernel
theorem one_star (s : ByteArray) : oneS ⟨#[42]⟩ s = true := by
  unfold oneS
  rw [wm_g]
  exact gm_anything (by decide) _
theorem marks_succ (n : Nat) : marksS n ++ (⟨#[63]⟩ : ByteArray) = marksS (n + 1) := by
  refine Go.WideShapes.bytes_inj ?_
  rw [app_data]
  unfold marksS
  rw [str_data, str_data, List.replicate_succ']

/-- a cell of a row of one's own is written -/
theorem own_set {w : World} {base g c n : Nat} {L : List ByteArray} (h : w.ownsRow base 9 1 (.slice (some ⟨g, 0, none⟩) n c) n (strC L)) (k : Nat) (s : ByteArray) :
    (w.setCell ⟨g, k, none⟩ (.string s)).ownsRow base 9 1 (.slice (some ⟨g, 0, none⟩) n c) n (strC (L.set k s)) := by
  have hl := h.1
  rcases h.2 with ⟨hv, _⟩ | ⟨g', cap, cur, hv, hb, hg, hle, hcm, hsz, htk⟩
  · cases hv
  · injection hv with e1 e2 e3
    injection e1 with e1
    injection e1 with e1
    subst e1 e3
    refine ⟨by rw [← hl]; simp [strC], .inr ⟨g, c, cur.set! k (.string s), rfl, hb, ?_, hle, hcm, by simpa using hsz, ?_⟩⟩
    · simp [World.setCell, Array.getElem?_modify, hg]
    · rw [Nat.mul_one] at htk ⊢
      have : (cur.set! k (Value.string s)).toList = cur.toList.set k (.string s) := by simp
      rw [this, List.take_set, htk]
      unfold strC
      rw [List.map_set]
theorem own_cell {w : World} {base g c n : Nat} {L : List ByteArray} (h : w.ownsRow base 9 1 (.slice (some ⟨g, 0, none⟩) n c) n (strC L)) {k : Nat} (hk : k < L.length) : w.cell? ⟨g, k, none⟩ = some (.string L[k]) ∧ w.frozen? ⟨g, k, none⟩ = false ∧ base ≤ g ∧ n ≤ c := by
  obtain ⟨hn, hS⟩ := Strs.own h
  obtain ⟨ad, e, _, hc⟩ := hS.at_ hk
  injection e with e
  subst e
  rw [Addr.add_lit, Nat.zero_add] at hc
  rcases h.2 with ⟨hv, _⟩ | ⟨g', cap, cur, hv, hb, hg, hle, _⟩
  · cases hv
  · injection hv with e1 e2 e3
    injection e1 with e1
    injection e1 with e1
    subst e1 e3
    exact ⟨hc, by simp [World.frozen?, hg], hb, hle⟩

end Go.Proofs.YtdbikaffmpkgpaaDoor
