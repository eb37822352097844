/- A first line as a chain: what HistoryLines asks of it. -/
import Derived.Test.YtiikbekboapphaaLawKit
namespace Go.Proofs.Ytiikbekboapphaa
set_option maxRecDepth 100000
open Go.RowKit
theorem desc_at {R : Nat → Bool} {t : Nat} (h1 : 1 ≤ t) (h : R t = true) : desc R t = t :: desc R (t - 1) := by
  have := desc_top R t (by rw [top_self h]; omega)
  rwa [top_self h] at this
/-- the line up to t, from commit 1 on -/
def upL (cs : List Cm) (b t : Nat) : List Nat := (desc (rch (firsts cs) b) t).reverse
theorem up_one {cs : List Cm} {b : Nat} (h : rch (firsts cs) b 1 = true) : upL cs b 1 = [1] := by
  unfold upL
  rw [desc_at (Nat.le_refl _) h]
  rfl
theorem up_step {cs : List Cm} (hg : Good cs) {b t p : Nat} (h1 : 1 < t) (hR : rch (firsts cs) b t = true) (hp : firsts cs t = [p]) : upL cs b t = upL cs b p ++ [t] ∧ rch (firsts cs) b p = true ∧ 1 ≤ p ∧ p < t := by
  obtain ⟨k1, k2, k3, k4⟩ := first_next hg hR hp
  refine ⟨?_, k1, k2, k3⟩
  unfold upL
  rw [desc_at (by omega) hR, k4, List.reverse_cons, ← desc_at k2 k1]
theorem first_of {cs : List Cm} (hg : Good cs) {t : Nat} (h1 : 1 < t) (h2 : t ≤ cs.length) : ∃ p, firsts cs t = [p] := by
  obtain ⟨p, r, e⟩ := leads_some hg h1 h2
  exact ⟨p, by unfold firsts; rw [e]; rfl⟩
/-- it begins with 1, ends with t, and each number behind the first has the one ahead as its first parent -/
theorem up_chain {cs : List Cm} (hg : Good cs) {b : Nat} (hb : b ≤ cs.length) : ∀ t, 1 ≤ t → rch (firsts cs) b t = true → ∃ L, upL cs b t = 1 :: L ∧ (1 :: L).getD L.length 0 = t ∧ ∀ k, k < L.length → firsts cs (L.getD k 0) = [(1 :: L).getD k 0] ∧ 1 < L.getD k 0 ∧ L.getD k 0 ≤ cs.length := by
  intro t
  induction t using Nat.strongRecOn with
  | ind t ih =>
    intro h1 hR
    by_cases ht : t = 1
    · subst ht
      exact ⟨[], up_one hR, rfl, fun k hk => by simp at hk⟩
    · have htb := rch_le (firsts_down hg) _ _ hR
      obtain ⟨p, hp⟩ := first_of hg (show 1 < t by omega) (by omega)
      obtain ⟨e1, e2, e3, e4⟩ := up_step hg (by omega) hR hp
      obtain ⟨L, l1, l2, l3⟩ := ih p e4 e3 e2
      refine ⟨L ++ [t], by rw [e1, l1]; rfl, ?_, fun k hk => ?_⟩
      · rw [List.length_append]
        show (1 :: (L ++ [t])).getD (L.length + 1) 0 = t
        simp
      · rw [List.length_append, List.length_singleton] at hk
        by_cases hkl : k < L.length
        · obtain ⟨m1, m2, m3⟩ := l3 k hkl
          have a1 : (L ++ [t]).getD k 0 = L.getD k 0 := by simp [List.getD_eq_getElem?_getD, List.getElem?_append_left hkl]
          have a2 : (1 :: (L ++ [t])).getD k 0 = (1 :: L).getD k 0 := by
            have : (1 :: (L ++ [t])) = (1 :: L) ++ [t] := rfl
            rw [this]
            simp only [List.getD_eq_getElem?_getD]
            rw [List.getElem?_append_left (by simp; omega)]
          rw [a1, a2]
          exact ⟨m1, m2, m3⟩
        · obtain rfl : k = L.length := by omega
          have a1 : (L ++ [t]).getD L.length 0 = t := by simp
          have a2 : (1 :: (L ++ [t])).getD L.length 0 = p := by
            have : (1 :: (L ++ [t])) = (1 :: L) ++ [t] := rfl
            rw [this, ← l2]
            simp only [List.getD_eq_getElem?_getD]
            rw [List.getElem?_append_left (by simp)]
          rw [a1, a2]
          exact ⟨hp, by omega, by omega⟩
theorem filter_drop {E : List Nat} (hp : E.Pairwise (· < ·)) {k : Nat} (hk : k < E.length) : E.filter (fun x => decide (E.getD k 0 < x)) = E.drop (k + 1) := by
  have e : E.getD k 0 = E[k] := by simp [hk]
  rw [e]
  obtain ⟨z, hz⟩ : ∃ z, E[k] = z := ⟨_, rfl⟩
  rw [hz]
  have h1 : (E.take (k + 1)).filter (fun x => decide (z < x)) = [] := by
    rw [← hz]
    refine List.filter_eq_nil_iff.2 fun x hx => ?_
    obtain ⟨i, hi, rfl⟩ := List.mem_iff_getElem.1 hx
    rw [List.getElem_take]
    rw [List.length_take] at hi
    rcases Nat.lt_or_ge i k with h | h
    · have := List.pairwise_iff_getElem.1 hp i k (by omega) hk h
      simp; omega
    · obtain rfl : i = k := by omega
      simp
  have h2 : (E.drop (k + 1)).filter (fun x => decide (z < x)) = E.drop (k + 1) := by
    rw [← hz]
    refine List.filter_eq_self.2 fun x hx => ?_
    obtain ⟨i, hi, rfl⟩ := List.mem_iff_getElem.1 hx
    rw [List.getElem_drop]
    rw [List.length_drop] at hi
    have := List.pairwise_iff_getElem.1 hp k (k + 1 + i) hk (by omega) (by omega)
    simpa using this
  have h3 : E.filter (fun x => decide (z < x)) = (E.take (k + 1) ++ E.drop (k + 1)).filter (fun x => decide (z < x)) := by rw [List.take_append_drop]
  rw [h3, List.filter_append, h1, h2, List.nil_append]
/-- the line from its k-th number on -/
theorem line_from {cs : List Cm} (hg : Good cs) {b : Nat} (h1 : 1 ≤ b) (h2 : b ≤ cs.length) {L : List Nat} (hL : upL cs b b = 1 :: L) {k : Nat} (hk : k < (1 :: L).length) :
    lineOk cs (((1 :: L).getD k 0 : Nat) : Int) (b : Int) = true ∧ lineP cs (((1 :: L).getD k 0 : Nat) : Int) (b : Int) = L.drop k := by
  have hmem : (1 :: L).getD k 0 ∈ desc (rch (firsts cs) b) b := by
    have : (1 :: L).getD k 0 ∈ upL cs b b := by rw [hL]; exact getD_mem hk
    unfold upL at this
    exact List.mem_reverse.1 this
  have hm := desc_mem.1 hmem
  have hok : lineOk cs (((1 :: L).getD k 0 : Nat) : Int) (b : Int) = true := by
    unfold lineOk
    rw [inR_nat.2 ⟨hm.1, by omega⟩, inR_nat.2 ⟨h1, h2⟩, Int.toNat_natCast, Int.toNat_natCast, hm.2.2]
    rfl
  refine ⟨hok, ?_⟩
  unfold lineP
  rw [if_pos hok, Int.toNat_natCast, Int.toNat_natCast]
  unfold lineR
  have hp : (upL cs b b).Pairwise (· < ·) := by
    unfold upL
    rw [List.pairwise_reverse]
    exact desc_pair _ _
  rw [← List.filter_reverse]
  show (upL cs b b).filter _ = _
  rw [hL] at hp ⊢
  rw [filter_drop hp hk]
  rfl
/-- a commit behind the first one: its first parent -/
theorem get_first {cs : List Cm} (hg : Good cs) {t p : Nat} (h1 : 1 < t) (h2 : t ≤ cs.length) (hp : firsts cs t = [p]) : inR cs.length (t : Int) = true ∧ 0 < (getC cs (t : Int)).ps.length ∧ (getC cs (t : Int)).ps.getD 0 0 = (p : Int) := by
  have hin : inR cs.length (t : Int) = true := inR_nat.2 ⟨by omega, h2⟩
  have hc : cs[t - 1]? = some cs[t - 1] := List.getElem?_eq_getElem (by omega)
  have e : getC cs (t : Int) = cs[t - 1] := by
    unfold getC
    rw [if_pos hin, Int.toNat_natCast, List.getD_eq_getElem?_getD, hc]
    rfl
  have hcan := hg.rest (t - 1) _ hc (by omega)
  have hl := canBe_len hcan
  have hpos := canBe_in hcan
  rw [e]
  refine ⟨hin, by omega, ?_⟩
  unfold firsts at hp
  rw [leads_at hc] at hp
  cases hps : cs[t - 1].ps with
  | nil => rw [hps] at hl; simp at hl
  | cons z r =>
    rw [hps] at hp
    have h3 := hpos z (by rw [hps]; simp)
    simp at hp
    simp
    omega
end Go.Proofs.Ytiikbekboapphaa
