/- A list of numbers as a heap whose first number is the greatest: what container/heap's steps do to it, as plain mathematics. -/
namespace Go.Proofs.Ytiikbekboapphaa

def swapL (l : List Nat) (i j : Nat) : List Nat := (l.set i (l.getD j 0)).set j (l.getD i 0)
theorem swapL_len (l : List Nat) (i j : Nat) : (swapL l i j).length = l.length := by simp [swapL]
theorem swapL_at (l : List Nat) (i j k : Nat) (hi : i < l.length) (hj : j < l.length) :
    (swapL l i j).getD k 0 = if k = j then l.getD i 0 else if k = i then l.getD j 0 else l.getD k 0 := by
  unfold swapL
  simp only [List.getD_eq_getElem?_getD, List.getElem?_set, List.length_set]
  by_cases h1 : j = k
  · subst h1; simp [hj]
  · by_cases h2 : i = k
    · subst h2; simp [h1, hi, Ne.symm h1]
    · simp [h1, h2, Ne.symm h1, Ne.symm h2]
theorem swapL_perm (l : List Nat) (i j : Nat) (hi : i < l.length) (hj : j < l.length) : (swapL l i j).Perm l := by
  have h1 : l.getD j 0 = l[j] := by simp [hj]
  have h2 : l.getD i 0 = l[i] := by simp [hi]
  unfold swapL
  rw [h1, h2]
  exact List.set_set_perm hi hj

/-- the first n numbers are a heap -/
def HeapN (l : List Nat) (n : Nat) : Prop := ∀ k, 0 < k → k < n → l.getD k 0 ≤ l.getD ((k - 1) / 2) 0
theorem HeapN.max {l : List Nat} {n : Nat} (h : HeapN l n) : ∀ k, k < n → l.getD k 0 ≤ l.getD 0 0 := by
  intro k
  induction k using Nat.strongRecOn with
  | ind k ih =>
    intro hk
    by_cases h0 : k = 0
    · subst h0; exact Nat.le_refl _
    · exact Nat.le_trans (h k (by omega) hk) (ih _ (by omega) (by omega))
theorem HeapN.less {l : List Nat} {n m : Nat} (h : HeapN l n) (hm : m ≤ n) : HeapN l m := fun k h0 hk => h k h0 (by omega)

/-- a heap but for j, which may be greater than its parent -/
def UpN (l : List Nat) (n j : Nat) : Prop :=
  (∀ k, 0 < k → k < n → k ≠ j → l.getD k 0 ≤ l.getD ((k - 1) / 2) 0) ∧ ∀ k, 0 < k → k < n → (k - 1) / 2 = j → 0 < j → l.getD k 0 ≤ l.getD ((j - 1) / 2) 0
theorem UpN.done {l : List Nat} {n j : Nat} (h : UpN l n j) (hj : j = 0 ∨ l.getD j 0 ≤ l.getD ((j - 1) / 2) 0) : HeapN l n := fun k h0 hk => by
  by_cases e : k = j
  · subst e
    rcases hj with hj | hj
    · omega
    · exact hj
  · exact h.1 k h0 hk e
theorem UpN.step {l : List Nat} {n j : Nat} (h : UpN l n j) (hn : n ≤ l.length) (h0 : 0 < j) (hj : j < n) (hlt : l.getD ((j - 1) / 2) 0 < l.getD j 0) : UpN (swapL l ((j - 1) / 2) j) n ((j - 1) / 2) := by
  have hi : (j - 1) / 2 < l.length := by omega
  have hj' : j < l.length := by omega
  refine ⟨fun k k0 kn ke => ?_, fun k k0 kn ke i0 => ?_⟩
  · rw [swapL_at _ _ _ _ hi hj', swapL_at _ _ _ _ hi hj']
    by_cases e1 : k = j
    · subst e1
      have e : (k - 1) / 2 ≠ k := by omega
      rw [if_pos rfl, if_neg e, if_pos rfl]
      omega
    · rw [if_neg e1, if_neg ke]
      by_cases e2 : (k - 1) / 2 = j
      · rw [if_pos e2]
        have := h.2 k k0 kn e2 h0
        omega
      · rw [if_neg e2]
        have hk := h.1 k k0 kn e1
        by_cases e3 : (k - 1) / 2 = (j - 1) / 2
        · rw [if_pos e3]; rw [e3] at hk; omega
        · rw [if_neg e3]; exact hk
  · rw [swapL_at _ _ _ _ hi hj', swapL_at _ _ _ _ hi hj']
    have a1 : ((j - 1) / 2 - 1) / 2 ≠ j := by omega
    have a2 : ((j - 1) / 2 - 1) / 2 ≠ (j - 1) / 2 := by omega
    rw [if_neg a1, if_neg a2]
    have hp : l.getD ((j - 1) / 2) 0 ≤ l.getD (((j - 1) / 2 - 1) / 2) 0 := h.1 _ i0 (by omega) (by omega)
    by_cases e1 : k = j
    · subst e1; rw [if_pos rfl]; exact hp
    · rw [if_neg e1]
      have e2 : k ≠ (j - 1) / 2 := by omega
      rw [if_neg e2]
      have hk := h.1 k k0 kn e1
      rw [ke] at hk
      omega
/-- a number is put behind a heap -/
theorem HeapN.push {l : List Nat} (h : HeapN l l.length) (x : Nat) : UpN (l ++ [x]) (l.length + 1) l.length := by
  refine ⟨fun k k0 kn ke => ?_, fun k k0 kn ke j0 => ?_⟩
  · have a : k < l.length := by omega
    have b : (k - 1) / 2 < l.length := by omega
    have := h k k0 a
    simp only [List.getD_eq_getElem?_getD] at this ⊢
    rw [List.getElem?_append_left a, List.getElem?_append_left b]
    exact this
  · omega

/-- a heap but for i, which may be less than its children -/
def DownN (l : List Nat) (n i : Nat) : Prop :=
  (∀ k, 0 < k → k < n → (k - 1) / 2 ≠ i → l.getD k 0 ≤ l.getD ((k - 1) / 2) 0) ∧ ∀ k, 0 < k → k < n → (k - 1) / 2 = i → 0 < i → l.getD k 0 ≤ l.getD ((i - 1) / 2) 0
theorem DownN.done {l : List Nat} {n i : Nat} (h : DownN l n i) (h1 : 2 * i + 1 < n → l.getD (2 * i + 1) 0 ≤ l.getD i 0) (h2 : 2 * i + 2 < n → l.getD (2 * i + 2) 0 ≤ l.getD i 0) : HeapN l n := fun k k0 kn => by
  by_cases e : (k - 1) / 2 = i
  · have : k = 2 * i + 1 ∨ k = 2 * i + 2 := by omega
    rcases this with rfl | rfl
    · rw [e]; exact h1 kn
    · rw [e]; exact h2 kn
  · exact h.1 k k0 kn e
/-- i is exchanged with j, the greater one of its children -/
theorem DownN.step {l : List Nat} {n i j : Nat} (h : DownN l n i) (hn : n ≤ l.length) (hj : j < n) (hc : j = 2 * i + 1 ∨ j = 2 * i + 2) (hlt : l.getD i 0 < l.getD j 0)
    (h1 : 2 * i + 1 < n → l.getD (2 * i + 1) 0 ≤ l.getD j 0) (h2 : 2 * i + 2 < n → l.getD (2 * i + 2) 0 ≤ l.getD j 0) : DownN (swapL l i j) n j := by
  have hi' : i < l.length := by omega
  have hj' : j < l.length := by omega
  refine ⟨fun k k0 kn ke => ?_, fun k k0 kn ke j0 => ?_⟩
  · rw [swapL_at _ _ _ _ hi' hj', swapL_at _ _ _ _ hi' hj']
    by_cases e1 : k = j
    · subst e1
      have a : (k - 1) / 2 = i := by omega
      have b : i ≠ k := by omega
      rw [a, if_pos rfl, if_neg b, if_pos rfl]; omega
    · rw [if_neg e1, if_neg ke]
      by_cases e2 : k = i
      · subst e2
        rw [if_pos rfl]
        have e3 : (k - 1) / 2 ≠ k := by omega
        rw [if_neg e3]
        exact h.2 j (by omega) hj (by omega) k0
      · rw [if_neg e2]
        by_cases e3 : (k - 1) / 2 = i
        · rw [if_pos e3]
          have : k = 2 * i + 1 ∨ k = 2 * i + 2 := by omega
          rcases this with rfl | rfl
          · exact h1 kn
          · exact h2 kn
        · rw [if_neg e3]; exact h.1 k k0 kn e3
  · rw [swapL_at _ _ _ _ hi' hj', swapL_at _ _ _ _ hi' hj']
    have a : (j - 1) / 2 = i := by omega
    have b : i ≠ j := by omega
    rw [a, if_neg b, if_pos rfl]
    have e1 : k ≠ j := by omega
    have e2 : k ≠ i := by omega
    rw [if_neg e1, if_neg e2]
    have := h.1 k k0 kn (by omega)
    rw [ke] at this
    exact this
/-- the first number and the last one are exchanged -/
theorem HeapN.pop {l : List Nat} {n : Nat} (h : HeapN l (n + 1)) (hn : n + 1 ≤ l.length) : DownN (swapL l 0 n) n 0 := by
  refine ⟨fun k k0 kn ke => ?_, fun k k0 kn ke i0 => by omega⟩
  rw [swapL_at _ _ _ _ (by omega) (by omega), swapL_at _ _ _ _ (by omega) (by omega)]
  have e1 : k ≠ n := by omega
  have e2 : k ≠ 0 := by omega
  have e3 : (k - 1) / 2 ≠ n := by omega
  rw [if_neg e1, if_neg e2, if_neg e3, if_neg ke]
  exact h k k0 (by omega)
end Go.Proofs.Ytiikbekboapphaa
