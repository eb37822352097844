/- All pairs of an alignment, also those of the equal beginnings and ends. -/
import Derived.Test.YtmeoannheomdoaaSidesMath
namespace Go.Proofs.Ytmeoannheomdoaa

/-- k pairs in a row -/
def diag (i j k : Nat) : List (Nat × Nat) := (List.range k).map fun t => (i + t, j + t)
theorem diag_succ (i j k : Nat) : diag i j (k + 1) = (i, j) :: diag (i + 1) (j + 1) k := by
  unfold diag
  rw [List.range_succ_eq_map, List.map_cons, List.map_map]
  simp only [Nat.add_zero]
  congr 1
  apply List.map_congr_left
  intro t _
  simp only [Function.comp]
  rw [show i + Nat.succ t = i + 1 + t by omega, show j + Nat.succ t = j + 1 + t by omega]
theorem gap_none (i j : Nat) : gap i j i j = [] := by unfold gap; rw [if_neg (by omega)]
theorem gaps_one (i j : Nat) : gaps i j [(i, j)] = [] := by simp [gaps, gap]
theorem gaps_diag (T : List (Nat × Nat)) : ∀ (k i j : Nat), gaps i j (diag i j k ++ T) = gaps (i + k) (j + k) T
  | 0, i, j => by simp [diag]
  | k + 1, i, j => by
    rw [diag_succ, List.cons_append, gaps, gap_none, List.nil_append, gaps_diag T k, show i + 1 + k = i + (k + 1) by omega, show j + 1 + k = j + (k + 1) by omega]
theorem gaps_app : ∀ (P : List (Nat × Nat)) (i j x y s : Nat), gaps i j (P ++ (diag x y s ++ [(x + s, y + s)])) = gaps i j (P ++ [(x, y)])
  | [], i, j, x, y, 0 => by simp [diag]
  | [], i, j, x, y, s + 1 => by
    rw [List.nil_append, diag_succ, List.cons_append, gaps, List.nil_append, gaps, show x + (s + 1) = x + 1 + s by omega, show y + (s + 1) = y + 1 + s by omega, gaps_diag]
    show _ ++ gaps (x + 1 + s) (y + 1 + s) [(x + 1 + s, y + 1 + s)] = _
    rw [gaps_one]
    rfl
  | q :: P, i, j, x, y, s => by rw [List.cons_append, List.cons_append, gaps, gaps, gaps_app P]

section
variable {α : Type} [DecidableEq α]
/-- the pairs of the alignment -/
def allP (a b : List α) : List (Nat × Nat) :=
  diag 0 0 (pre a b) ++ (shift (pre a b) (midPairs (mid a (pre a b) (suf (a.drop (pre a b)) (b.drop (pre a b)))) (mid b (pre a b) (suf (a.drop (pre a b)) (b.drop (pre a b)))))
    ++ diag (a.length - suf (a.drop (pre a b)) (b.drop (pre a b))) (b.length - suf (a.drop (pre a b)) (b.drop (pre a b))) (suf (a.drop (pre a b)) (b.drop (pre a b))))
theorem diff_all (a b : List α) : diff a b = gaps 0 0 (allP a b ++ [(a.length, b.length)]) := by
  obtain ⟨p1, p2⟩ := pre_le a b
  obtain ⟨s1, s2⟩ := suf_le (a.drop (pre a b)) (b.drop (pre a b))
  unfold diff allP
  obtain ⟨p, hp⟩ : ∃ p, pre a b = p := ⟨_, rfl⟩
  rw [hp] at p1 p2 s1 s2 ⊢
  obtain ⟨s, hs⟩ : ∃ s, suf (a.drop p) (b.drop p) = s := ⟨_, rfl⟩
  rw [hs] at s1 s2 ⊢
  rw [List.length_drop] at s1 s2
  rw [List.append_assoc, gaps_diag, Nat.zero_add, List.append_assoc]
  have := gaps_app (shift p (midPairs (mid a p s) (mid b p s))) p p (a.length - s) (b.length - s) s
  rw [show a.length - s + s = a.length by omega, show b.length - s + s = b.length by omega] at this
  exact this.symm
theorem inc_app : ∀ {P : List (Nat × Nat)} {i j x y : Nat} {T : List (Nat × Nat)}, Inc i j P → (∀ q ∈ P, q.1 < x ∧ q.2 < y) → i ≤ x → j ≤ y → Inc x y T → Inc i j (P ++ T)
  | [], _, _, _, _, _, _, _, hi, hj, hT => hT.more hi hj
  | q :: P, i, j, x, y, T, h, hq, hi, hj, hT => by
    have h0 := hq q (by simp)
    exact ⟨h.1, h.2.1, inc_app h.2.2 (fun z hz => hq z (by simp [hz])) (by omega) (by omega) hT⟩
theorem diag_inc : ∀ (k i j : Nat), Inc i j (diag i j k)
  | 0, _, _ => trivial
  | k + 1, i, j => by rw [diag_succ]; exact ⟨Nat.le_refl _, Nat.le_refl _, diag_inc k _ _⟩
theorem diag_mem {i j k : Nat} {q : Nat × Nat} (h : q ∈ diag i j k) : i ≤ q.1 ∧ q.1 < i + k ∧ q.2 + i = q.1 + j := by
  unfold diag at h
  obtain ⟨t, ht, rfl⟩ := List.mem_map.1 h
  have := List.mem_range.1 ht
  refine ⟨?_, ?_, ?_⟩ <;> dsimp only <;> omega
theorem all_inc (a b : List α) : Inc 0 0 (allP a b) ∧ ∀ q ∈ allP a b, q.1 < a.length ∧ q.2 < b.length := by
  obtain ⟨p1, p2⟩ := pre_le a b
  obtain ⟨s1, s2⟩ := suf_le (a.drop (pre a b)) (b.drop (pre a b))
  unfold allP
  obtain ⟨p, hp⟩ : ∃ p, pre a b = p := ⟨_, rfl⟩
  rw [hp] at p1 p2 s1 s2 ⊢
  obtain ⟨s, hs⟩ : ∃ s, suf (a.drop p) (b.drop p) = s := ⟨_, rfl⟩
  rw [hs] at s1 s2 ⊢
  rw [List.length_drop] at s1 s2
  have hmid : ∀ q ∈ shift p (midPairs (mid a p s) (mid b p s)), q.1 < a.length - s ∧ q.2 < b.length - s := by
    intro q hq
    unfold shift at hq
    obtain ⟨x, hx, rfl⟩ := List.mem_map.1 hq
    have := mid_mem hx
    rw [mid_len, mid_len] at this
    dsimp only
    omega
  have hin := shift_inc p (mid_inc (mid a p s) (mid b p s))
  refine ⟨?_, fun q hq => ?_⟩
  · refine inc_app (x := p) (y := p) (diag_inc p 0 0) (fun q hq => by have := diag_mem hq; omega) (Nat.zero_le _) (Nat.zero_le _) ?_
    exact inc_app hin hmid (by omega) (by omega) (diag_inc _ _ _)
  · rcases List.mem_append.1 hq with h | h
    · have := diag_mem h; omega
    · rcases List.mem_append.1 h with h | h
      · have := hmid q h; omega
      · have := diag_mem h; omega
end
end Go.Proofs.Ytmeoannheomdoaa
