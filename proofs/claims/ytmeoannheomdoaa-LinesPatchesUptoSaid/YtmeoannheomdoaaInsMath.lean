/- Merges of texts into which single lines are inserted. -/
import Derived.Test.YtmeoannheomdoaaApartMath
namespace Go.Proofs.Ytmeoannheomdoaa

def insL (l : List ByteArray) (i : Nat) (x : ByteArray) : List ByteArray := l.take i ++ x :: l.drop i
theorem insL_len (l : List ByteArray) (i : Nat) (x : ByteArray) : (insL l i x).length = l.length + 1 := by unfold insL; simp; omega
theorem insL_range (l : List ByteArray) (k : Nat) (z : ByteArray) (hk : k ≤ l.length) : rangeOf (insL l k z) k k [⟨k, k, k, k + 1⟩] = [z] := by
  unfold rangeOf insL
  dsimp only [List.getLast_singleton]
  rw [show k + k - k = k by omega, show k + 1 + k - k - k = 1 by omega, List.drop_append, List.length_take, Nat.min_eq_left hk, List.drop_eq_nil_of_le (by simp; omega), Nat.sub_self]
  rfl
set_option maxHeartbeats 4000000 in
theorem merge_ins (l : List ByteArray) (i j : Nat) (x y : ByteArray) (hi : i ≤ l.length) (hj : j ≤ l.length) (hx : x ∉ l) (hy : y ∉ l) :
    mergeL l (insL l i x) (insL l j y) = if i < j then (cat (insL (insL l i x) (j + 1) y), []) else if j < i then (cat (insL (insL l i x) j y), []) else if x = y then (cat (insL l i x), []) else ([], [(i, i)]) := by
  have d1 := diff_ins l i x hi hx
  have d2 := diff_ins l j y hj hy
  have q1 := insL_range l i x hi
  have q2 := insL_range l j y hj
  by_cases h1 : i < j
  · rw [if_pos h1]
    have hg := gps_apart (a := ⟨i, i, i, i + 1⟩) (b := ⟨j, j, j, j + 1⟩) h1 (Nat.le_refl _) (Nat.le_refl _)
    have hm : mergeM l (insL l i x) (insL l j y) = ⟨l.take i ++ [x] ++ (l.drop i).take (j - i) ++ [y], j, []⟩ := by
      unfold mergeM
      rw [show diff l (insL l i x) = _ from d1, show diff l (insL l j y) = _ from d2, show ([(⟨i, i, i, i + 1⟩ : Hk)].length + [(⟨j, j, j, j + 1⟩ : Hk)].length) = 2 from rfl, hg]
      simp only [mergeG, addG, changed, List.length_nil, List.length_singleton, if_true, if_neg (show ¬ (1 = 0) by omega), q1, q2]
      simp
    unfold mergeL
    rw [hm, if_pos (show ([] : List (Nat × Nat)).length = 0 from rfl)]
    dsimp only
    congr 2
    unfold insL
    have hl : (l.take i).length = i := by rw [List.length_take]; omega
    rw [tk_mid _ _ _ _ (by rw [hl]; omega), dr_mid _ _ _ _ (by rw [hl]; omega), hl, List.drop_drop, show i + (j - i) = j by omega, show j + 1 - i - 1 = j - i by omega, List.append_assoc _ [y]]
    rfl
  · rw [if_neg h1]
    by_cases h2 : j < i
    · rw [if_pos h2]
      have hg := gps_apart' (a := ⟨i, i, i, i + 1⟩) (b := ⟨j, j, j, j + 1⟩) h2 (Nat.le_refl _) (Nat.le_refl _)
      have hm : mergeM l (insL l i x) (insL l j y) = ⟨l.take j ++ [y] ++ (l.drop j).take (i - j) ++ [x], i, []⟩ := by
        unfold mergeM
        rw [show diff l (insL l i x) = _ from d1, show diff l (insL l j y) = _ from d2, show ([(⟨i, i, i, i + 1⟩ : Hk)].length + [(⟨j, j, j, j + 1⟩ : Hk)].length) = 2 from rfl, hg]
        simp only [mergeG, addG, changed, List.length_nil, List.length_singleton, if_true, if_neg (show ¬ (1 = 0) by omega), q1, q2]
        simp
      unfold mergeL
      rw [hm, if_pos (show ([] : List (Nat × Nat)).length = 0 from rfl)]
      dsimp only
      congr 2
      unfold insL
      have hl : (l.take i).length = i := by rw [List.length_take]; omega
      have e1 : (l.take i ++ x :: l.drop i).take j = l.take j := by
        rw [List.take_append, List.take_take, Nat.min_eq_left (by omega), hl, show j - i = 0 by omega, List.take_zero, List.append_nil]
      have e2 : (l.take i ++ x :: l.drop i).drop j = (l.drop j).take (i - j) ++ x :: l.drop i := by
        rw [List.drop_append, hl, List.drop_take, show j - i = 0 by omega, List.drop_zero]
      rw [e1, e2]
      simp only [List.append_assoc, List.singleton_append, List.cons_append, List.nil_append]
    · rw [if_neg h2]
      obtain rfl : i = j := by omega
      have hg := gps_touch (a := ⟨i, i, i, i + 1⟩) (b := ⟨i, i, i, i + 1⟩) (Nat.le_refl _) (Nat.le_refl _) (Nat.le_refl _) (Nat.le_refl _)
      simp only [Nat.min_self, Nat.max_self] at hg
      by_cases h3 : x = y
      · rw [if_pos h3]
        subst h3
        have hm : mergeM l (insL l i x) (insL l i x) = ⟨l.take i ++ [x], i, []⟩ := by
          unfold mergeM
          rw [show diff l (insL l i x) = _ from d1, show ([(⟨i, i, i, i + 1⟩ : Hk)].length + [(⟨i, i, i, i + 1⟩ : Hk)].length) = 2 from rfl, hg]
          simp only [mergeG, addG, changed, List.length_singleton, if_true, if_neg (show ¬ (1 = 0) by omega), q1]
          simp
        unfold mergeL
        rw [hm, if_pos (show ([] : List (Nat × Nat)).length = 0 from rfl)]
        dsimp only
        congr 2
        unfold insL
        simp
      · rw [if_neg h3]
        have hne : ¬ ([x] : List ByteArray) = [y] := fun e => h3 (by simpa using e)
        have hm : mergeM l (insL l i x) (insL l i y) = ⟨[], 0, [(i, i)]⟩ := by
          unfold mergeM
          rw [show diff l (insL l i x) = _ from d1, show diff l (insL l i y) = _ from d2, show ([(⟨i, i, i, i + 1⟩ : Hk)].length + [(⟨i, i, i, i + 1⟩ : Hk)].length) = 2 from rfl, hg]
          simp only [mergeG, addG, changed, List.length_singleton, if_neg (show ¬ (1 = 0) by omega), q1, q2, if_neg hne]
          simp
        unfold mergeL
        rw [hm]
        rfl
end Go.Proofs.Ytmeoannheomdoaa
