/- What lies between the hunks of a difference is equal; merging with an unchanged side, with equal sides, with exchanged sides. -/
import Derived.Test.YtmeoannheomdoaaDiffMath
import Derived.Test.YtmeoannheomdoaaText
namespace Go.Proofs.Ytmeoannheomdoaa

theorem mid_at {α : Type} (a : List α) (p s k : Nat) (h : k < (mid a p s).length) : (mid a p s)[k] = a[p + k]'(by rw [mid_len] at h; omega) := by simp [mid]
/-- From the places i and j on: the lines between the hunks are equal. -/
def Fits {α : Type} (a b : List α) : Nat → Nat → List Hk → Prop
  | i, j, [] => a.drop i = b.drop j
  | i, j, h :: t => i ≤ h.a0 ∧ j ≤ h.b0 ∧ (a.drop i).take (h.a0 - i) = (b.drop j).take (h.b0 - j) ∧ h.a0 ≤ h.a1 ∧ h.b0 ≤ h.b1 ∧ h.a1 ≤ a.length ∧ h.b1 ≤ b.length ∧ Fits a b h.a1 h.b1 t
theorem Fits.cons {α : Type} {a b : List α} {i j : Nat} {H : List Hk} (h : Fits a b (i + 1) (j + 1) H) (hi : i < a.length) (hj : j < b.length) (he : a[i] = b[j]) : Fits a b i j H := by
  cases H with
  | nil =>
    show a.drop i = b.drop j
    rw [List.drop_eq_getElem_cons hi, List.drop_eq_getElem_cons hj, he, show a.drop (i + 1) = b.drop (j + 1) from h]
  | cons x t =>
    obtain ⟨h1, h2, h3, h4⟩ := h
    refine ⟨by omega, by omega, ?_, h4⟩
    rw [List.drop_eq_getElem_cons hi, List.drop_eq_getElem_cons hj, he, show x.a0 - i = (x.a0 - (i + 1)) + 1 by omega, show x.b0 - j = (x.b0 - (j + 1)) + 1 by omega, List.take_succ_cons, List.take_succ_cons, h3]
section
variable {α : Type} [DecidableEq α]
/-- pairs of equal lines -/
def Even {α : Type} (a b : List α) (q : Nat × Nat) : Prop := ∃ (h1 : q.1 < a.length) (h2 : q.2 < b.length), a[q.1] = b[q.2]
theorem gaps_fits {α : Type} (a b : List α) (x y : Nat) (hx : x ≤ a.length) (hy : y ≤ b.length) (hend : a.drop x = b.drop y) : ∀ (l : List (Nat × Nat)) (i j : Nat), Inc i j l → (∀ q ∈ l, Even a b q ∧ q.1 < x ∧ q.2 < y) → i ≤ x → j ≤ y → Fits a b i j (gaps i j (l ++ [(x, y)]))
  | [], i, j, _, _, hi, hj => by
    rw [List.nil_append, gaps, gaps, List.append_nil]
    unfold gap
    split
    · exact ⟨Nat.le_refl _, Nat.le_refl _, by simp, hi, hj, hx, hy, hend⟩
    · obtain rfl : i = x := by omega
      obtain rfl : j = y := by omega
      exact hend
  | q :: t, i, j, hI, hq, hi, hj => by
    obtain ⟨⟨e1, e2, e3⟩, q1, q2⟩ := hq q (by simp)
    obtain ⟨k1, k2, k3⟩ := hI
    have ih := gaps_fits a b x y hx hy hend t (q.1 + 1) (q.2 + 1) k3 (fun z hz => hq z (by simp [hz])) (by omega) (by omega)
    have ih := ih.cons e1 e2 e3
    rw [List.cons_append, gaps]
    unfold gap
    split
    · exact ⟨Nat.le_refl _, Nat.le_refl _, by simp, k1, k2, Nat.le_of_lt e1, Nat.le_of_lt e2, ih⟩
    · obtain rfl : i = q.1 := by omega
      obtain rfl : j = q.2 := by omega
      exact ih
theorem walk_even : ∀ (a : List α) (i : Nat) (b : List α) (j : Nat), ∀ q ∈ walk a i b j, ∃ (h1 : q.1 - i < a.length) (h2 : q.2 - j < b.length), i ≤ q.1 ∧ j ≤ q.2 ∧ a[q.1 - i] = b[q.2 - j] := by
  intro a
  induction a with
  | nil => intro i b j q hq; rw [walk_nil] at hq; cases hq
  | cons x xs ih =>
    intro i b
    induction b with
    | nil => intro j q hq; rw [walk_nil'] at hq; cases hq
    | cons y ys ihb =>
      intro j q hq
      rw [walk_cons] at hq
      have stepA : ∀ {q : Nat × Nat} {b : List α} {j : Nat}, (∃ (h1 : q.1 - (i + 1) < xs.length) (h2 : q.2 - j < b.length), i + 1 ≤ q.1 ∧ j ≤ q.2 ∧ xs[q.1 - (i + 1)] = b[q.2 - j]) →
          ∃ (h1 : q.1 - i < (x :: xs).length) (h2 : q.2 - j < b.length), i ≤ q.1 ∧ j ≤ q.2 ∧ (x :: xs)[q.1 - i] = b[q.2 - j] := by
        rintro q b j ⟨h1, h2, h3, h4, h5⟩
        refine ⟨by simp; omega, h2, by omega, h4, ?_⟩
        rw [← h5]
        have : q.1 - i = (q.1 - (i + 1)) + 1 := by omega
        simp [this]
      have stepB : ∀ {q : Nat × Nat} {a : List α} {i : Nat}, (∃ (h1 : q.1 - i < a.length) (h2 : q.2 - (j + 1) < ys.length), i ≤ q.1 ∧ j + 1 ≤ q.2 ∧ a[q.1 - i] = ys[q.2 - (j + 1)]) →
          ∃ (h1 : q.1 - i < a.length) (h2 : q.2 - j < (y :: ys).length), i ≤ q.1 ∧ j ≤ q.2 ∧ a[q.1 - i] = (y :: ys)[q.2 - j] := by
        rintro q a i ⟨h1, h2, h3, h4, h5⟩
        refine ⟨h1, by simp; omega, h3, by omega, ?_⟩
        rw [h5]
        have : q.2 - j = (q.2 - (j + 1)) + 1 := by omega
        simp [this]
      split at hq
      · rename_i e
        rcases List.mem_cons.1 hq with rfl | hq
        · exact ⟨by simp, by simp, Nat.le_refl _, Nat.le_refl _, by simpa using e⟩
        · exact stepB (stepA (ih (i + 1) ys (j + 1) q hq))
      · split at hq
        · exact stepA (ih (i + 1) (y :: ys) j q hq)
        · exact stepB (ihb (j + 1) q hq)
theorem suf_drop (a b : List α) : a.drop (a.length - suf a b) = b.drop (b.length - suf a b) := by
  obtain ⟨h1, h2⟩ := suf_le a b
  apply List.ext_getElem
  · simp; omega
  · intro k k1 k2
    rw [List.getElem_drop, List.getElem_drop]
    have hk : k < suf a b := by simp at k1; omega
    have := pre_at (a := a.reverse) (b := b.reverse) (k := suf a b - 1 - k) (by show _ < suf a b; omega) (by simp; omega) (by simp; omega)
    rw [List.getElem_reverse, List.getElem_reverse] at this
    have e1 : a.length - 1 - (suf a b - 1 - k) = a.length - suf a b + k := by omega
    have e2 : b.length - 1 - (suf a b - 1 - k) = b.length - suf a b + k := by omega
    simp only [e1, e2] at this
    exact this
theorem pre_take (a b : List α) : a.take (pre a b) = b.take (pre a b) := by
  obtain ⟨h1, h2⟩ := pre_le a b
  apply List.ext_getElem
  · simp; omega
  · intro k k1 k2
    rw [List.getElem_take, List.getElem_take]
    exact pre_at (by simp at k1; omega) _ _
theorem diff_fits (a b : List α) : Fits a b (pre a b) (pre a b) (diff a b) := by
  obtain ⟨p1, p2⟩ := pre_le a b
  obtain ⟨p, hp⟩ : ∃ p, pre a b = p := ⟨_, rfl⟩
  have hd := suf_drop (a.drop p) (b.drop p)
  obtain ⟨s1, s2⟩ := suf_le (a.drop p) (b.drop p)
  unfold diff
  rw [hp] at p1 p2 ⊢
  obtain ⟨s, hs⟩ : ∃ s, suf (a.drop p) (b.drop p) = s := ⟨_, rfl⟩
  rw [hs] at hd s1 s2 ⊢
  rw [List.length_drop] at s1 s2
  rw [List.length_drop, List.length_drop, List.drop_drop, List.drop_drop, show p + (a.length - p - s) = a.length - s by omega, show p + (b.length - p - s) = b.length - s by omega] at hd
  have hin := shift_inc p (mid_inc (mid a p s) (mid b p s))
  refine gaps_fits a b _ _ (by omega) (by omega) hd _ p p hin ?_ (by omega) (by omega)
  intro q hq
  unfold shift at hq
  obtain ⟨x, hx, rfl⟩ := List.mem_map.1 hq
  unfold midPairs at hx
  split at hx
  · cases hx
  · obtain ⟨h1, h2, _, _, h5⟩ := walk_even _ _ _ _ x hx
    simp only [Nat.sub_zero] at h1 h2 h5
    have l1 := h1
    have l2 := h2
    rw [mid_len] at l1 l2
    refine ⟨⟨by show p + x.1 < _; omega, by show p + x.2 < _; omega, ?_⟩, by show p + x.1 < _; omega, by show p + x.2 < _; omega⟩
    rw [mid_at a p s x.1 h1, mid_at b p s x.2 h2] at h5
    exact h5
theorem Fits.back {α : Type} {a b : List α} {p : Nat} (h : a.take p = b.take p) (h1 : p ≤ a.length) (h2 : p ≤ b.length) : ∀ {k : Nat} {H : List Hk}, k ≤ p → Fits a b p p H → Fits a b (p - k) (p - k) H
  | 0, _, _, hF => hF
  | k + 1, H, hk, hF => by
    have ih := Fits.back h h1 h2 (k := k) (by omega) hF
    have e : p - k = (p - (k + 1)) + 1 := by omega
    rw [e] at ih
    refine ih.cons (by omega) (by omega) ?_
    have := congrArg (fun L => L[p - (k + 1)]?) h
    rw [List.getElem?_take_of_lt (by omega), List.getElem?_take_of_lt (by omega), List.getElem?_eq_getElem (by omega), List.getElem?_eq_getElem (by omega)] at this
    exact Option.some.inj this
theorem diff_fits0 (a b : List α) : Fits a b 0 0 (diff a b) := by
  obtain ⟨p1, p2⟩ := pre_le a b
  have := Fits.back (pre_take a b) p1 p2 (Nat.le_refl _) (diff_fits a b)
  rwa [Nat.sub_self] at this
theorem diff_self (a : List α) : diff a a = [] := by
  have h := diff_parts a ([] : List α) [] [] rfl rfl
  simp only [List.append_nil] at h
  rw [h]
  have : midPairs ([] : List α) [] = [] := by unfold midPairs; split <;> rfl
  rw [this]
  simp [shift, gaps, gap]

/- groups of one hunk -/
/-- The hunks stand apart. -/
def Far : List Hk → Prop
  | [] => True
  | h :: t => h.a0 ≤ h.a1 ∧ (∀ x, t.head? = some x → h.a1 < x.a0) ∧ Far t
theorem Ok.far : ∀ {H : List Hk} {n m i j : Nat}, Ok n m i j H → Far H
  | [], _, _, _, _, _ => trivial
  | _ :: _, _, _, _, _, h => ⟨h.2.2.1, h.2.2.2.2.2.2.2.1, Ok.far h.2.2.2.2.2.2.2.2⟩
theorem head_far {u : Nat} {t : List Hk} (h : ∀ x, t.head? = some x → u < x.a0) : headIn u t = none := by
  cases t with
  | nil => rfl
  | cons y t => rw [headIn_cons, if_neg (by have := h y rfl; omega)]
theorem grown_right {h : Hk} {t : List Hk} (hF : Far (h :: t)) : grown [] (h :: t) = (h.a1, 0, 1) := by
  obtain ⟨h1, h2, _⟩ := hF
  unfold grown
  rw [show least [] (h :: t) = h.a0 from rfl]
  simp only [List.length_cons, List.length_nil, Nat.zero_add]
  rw [grow, show headIn h.a0 [] = none from rfl, show headIn h.a0 (h :: t) = some h by rw [headIn_cons, if_pos (Nat.le_refl _)]]
  dsimp only
  rw [List.tail_cons, Nat.max_eq_right h1]
  cases hl : t.length with
  | zero => rfl
  | succ n => rw [grow, show headIn h.a1 [] = none from rfl, head_far h2]
theorem grown_left {h : Hk} {t : List Hk} (hF : Far (h :: t)) : grown (h :: t) [] = (h.a1, 1, 0) := by
  obtain ⟨h1, h2, _⟩ := hF
  unfold grown
  rw [show least (h :: t) [] = h.a0 from rfl]
  simp only [List.length_cons, List.length_nil, Nat.add_zero]
  rw [grow, show headIn h.a0 (h :: t) = some h by rw [headIn_cons, if_pos (Nat.le_refl _)]]
  dsimp only
  rw [List.tail_cons, Nat.max_eq_right h1]
  cases hl : t.length with
  | zero => rfl
  | succ n => rw [grow, head_far h2]; dsimp only; rw [show headIn h.a1 [] = none from rfl]
theorem grown_both {h : Hk} {t : List Hk} (hF : Far (h :: t)) : grown (h :: t) (h :: t) = (h.a1, 1, 1) := by
  obtain ⟨h1, h2, _⟩ := hF
  unfold grown
  rw [show least (h :: t) (h :: t) = h.a0 from Nat.min_self _]
  simp only [List.length_cons]
  rw [show t.length + 1 + (t.length + 1) = (t.length + t.length + 1) + 1 by omega, grow, show headIn h.a0 (h :: t) = some h by rw [headIn_cons, if_pos (Nat.le_refl _)]]
  dsimp only
  rw [List.tail_cons, Nat.max_eq_right h1, grow, head_far h2]
  dsimp only
  rw [headIn_cons, if_pos h1]
  dsimp only
  rw [List.tail_cons, Nat.max_self]
  cases hl : t.length + t.length with
  | zero => rfl
  | succ n => rw [grow, head_far h2]

/-- The merger went on as the side b goes: done is a place in the base, and merged holds all of the side before the place that belongs to it. -/
theorem right_all (base left right : List α) : ∀ (H : List Hk) (f i j : Nat), H.length ≤ f → Fits base right i j H → Far H →
    ∃ i' j', mergeG base left right (gps f [] H) ⟨right.take j, i, []⟩ = ⟨right.take j', i', []⟩ ∧ base.drop i' = right.drop j'
  | [], f, i, j, _, hF, _ => ⟨i, j, by cases f <;> simp [gps, mergeG], hF⟩
  | h :: t, 0, _, _, hl, _, _ => by simp at hl
  | h :: t, f + 1, i, j, hl, hF, hA => by
    obtain ⟨h1, h2, h3, h4, h5, h6, h7, h8⟩ := hF
    obtain ⟨i', j', ih, he⟩ := right_all base left right t f h.a1 h.b1 (by simpa using hl) h8 hA.2.2
    refine ⟨i', j', ?_, he⟩
    have hr : rangeOf right h.a0 h.a1 [h] = (right.drop h.b0).take (h.b1 - h.b0) := by
      unfold rangeOf
      dsimp only [List.getLast_singleton]
      rw [show h.b0 + h.a0 - h.a0 = h.b0 by omega, show h.b1 + h.a1 - h.a1 = h.b1 by omega]
    have hs : addG base left right ⟨right.take j, i, []⟩ ⟨h.a0, h.a1, [], [h]⟩ = ⟨right.take h.b1, h.a1, []⟩ := by
      unfold addG changed
      simp only [List.length_singleton, List.length_nil, if_neg (show ¬ (1 = 0) by omega), if_true, hr, h3]
      congr 1
      rw [List.append_assoc, ← List.take_append_drop j (right.take h.b1), List.take_take, Nat.min_eq_left (by omega), List.drop_take]
      congr 1
      rw [← List.take_append_drop (h.b0 - j) ((right.drop j).take (h.b1 - j)), List.take_take, Nat.min_eq_left (by omega), List.drop_take, List.drop_drop, show j + (h.b0 - j) = h.b0 by omega, show h.b1 - j - (h.b0 - j) = h.b1 - h.b0 by omega]
    rw [gps, if_neg (by simp)]
    unfold firstGp
    rw [grown_right hA]
    dsimp only
    rw [show least [] (h :: t) = h.a0 from rfl]
    simp only [List.drop_succ_cons, List.drop_zero, List.take_succ_cons, List.take_zero, mergeG]
    rw [hs]
    exact ih
theorem left_all (base left right : List α) : ∀ (H : List Hk) (f i j : Nat), H.length ≤ f → Fits base left i j H → Far H →
    ∃ i' j', mergeG base left right (gps f H []) ⟨left.take j, i, []⟩ = ⟨left.take j', i', []⟩ ∧ base.drop i' = left.drop j'
  | [], f, i, j, _, hF, _ => ⟨i, j, by cases f <;> simp [gps, mergeG], hF⟩
  | h :: t, 0, _, _, hl, _, _ => by simp at hl
  | h :: t, f + 1, i, j, hl, hF, hA => by
    obtain ⟨h1, h2, h3, h4, h5, h6, h7, h8⟩ := hF
    obtain ⟨i', j', ih, he⟩ := left_all base left right t f h.a1 h.b1 (by simpa using hl) h8 hA.2.2
    refine ⟨i', j', ?_, he⟩
    have hr : rangeOf left h.a0 h.a1 [h] = (left.drop h.b0).take (h.b1 - h.b0) := by
      unfold rangeOf
      dsimp only [List.getLast_singleton]
      rw [show h.b0 + h.a0 - h.a0 = h.b0 by omega, show h.b1 + h.a1 - h.a1 = h.b1 by omega]
    have hs : addG base left right ⟨left.take j, i, []⟩ ⟨h.a0, h.a1, [h], []⟩ = ⟨left.take h.b1, h.a1, []⟩ := by
      unfold addG changed
      simp only [List.length_nil, if_true, hr, h3]
      congr 1
      rw [List.append_assoc, ← List.take_append_drop j (left.take h.b1), List.take_take, Nat.min_eq_left (by omega), List.drop_take]
      congr 1
      rw [← List.take_append_drop (h.b0 - j) ((left.drop j).take (h.b1 - j)), List.take_take, Nat.min_eq_left (by omega), List.drop_take, List.drop_drop, show j + (h.b0 - j) = h.b0 by omega, show h.b1 - j - (h.b0 - j) = h.b1 - h.b0 by omega]
    rw [gps, if_neg (by simp)]
    unfold firstGp
    rw [grown_left hA]
    dsimp only
    rw [show least (h :: t) [] = h.a0 from rfl]
    simp only [List.drop_succ_cons, List.drop_zero, List.take_succ_cons, List.take_zero, mergeG]
    rw [hs]
    exact ih
theorem both_all (base left : List α) : ∀ (H : List Hk) (f i j : Nat), H.length ≤ f → Fits base left i j H → Far H →
    ∃ i' j', mergeG base left left (gps f H H) ⟨left.take j, i, []⟩ = ⟨left.take j', i', []⟩ ∧ base.drop i' = left.drop j'
  | [], f, i, j, _, hF, _ => ⟨i, j, by cases f <;> simp [gps, mergeG], hF⟩
  | h :: t, 0, _, _, hl, _, _ => by simp at hl
  | h :: t, f + 1, i, j, hl, hF, hA => by
    obtain ⟨h1, h2, h3, h4, h5, h6, h7, h8⟩ := hF
    obtain ⟨i', j', ih, he⟩ := both_all base left t f h.a1 h.b1 (by simpa using hl) h8 hA.2.2
    refine ⟨i', j', ?_, he⟩
    have hr : rangeOf left h.a0 h.a1 [h] = (left.drop h.b0).take (h.b1 - h.b0) := by
      unfold rangeOf
      dsimp only [List.getLast_singleton]
      rw [show h.b0 + h.a0 - h.a0 = h.b0 by omega, show h.b1 + h.a1 - h.a1 = h.b1 by omega]
    have hs : addG base left left ⟨left.take j, i, []⟩ ⟨h.a0, h.a1, [h], [h]⟩ = ⟨left.take h.b1, h.a1, []⟩ := by
      unfold addG changed
      simp only [List.length_singleton, if_neg (show ¬ (1 = 0) by omega), if_true, hr, h3]
      congr 1
      rw [List.append_assoc, ← List.take_append_drop j (left.take h.b1), List.take_take, Nat.min_eq_left (by omega), List.drop_take]
      congr 1
      rw [← List.take_append_drop (h.b0 - j) ((left.drop j).take (h.b1 - j)), List.take_take, Nat.min_eq_left (by omega), List.drop_take, List.drop_drop, show j + (h.b0 - j) = h.b0 by omega, show h.b1 - j - (h.b0 - j) = h.b1 - h.b0 by omega]
    rw [gps, if_neg (by simp)]
    unfold firstGp
    rw [grown_both hA]
    dsimp only
    rw [show least (h :: t) (h :: t) = h.a0 from Nat.min_self _]
    simp only [List.drop_succ_cons, List.drop_zero, List.take_succ_cons, List.take_zero, mergeG]
    rw [hs]
    exact ih

/- the sides exchanged -/
/-- A group's end N with i and k hunks is closed: what is taken ends in it, what is left begins behind it. -/
def Closed (u N i k : Nat) (l r : List Hk) : Prop :=
  u ≤ N ∧ i ≤ l.length ∧ k ≤ r.length ∧ (∀ x ∈ l.take i, x.a1 ≤ N) ∧ (∀ x ∈ r.take k, x.a1 ≤ N) ∧ headIn N (l.drop i) = none ∧ headIn N (r.drop k) = none
theorem closed_left {u N i k : Nat} {h : Hk} {l r : List Hk} (hc : Closed u N i k (h :: l) r) (hh : h.a0 ≤ u) : ∃ i', i = i' + 1 ∧ Closed (max u h.a1) N i' k l r := by
  obtain ⟨c1, c2, c3, c4, c5, c6, c7⟩ := hc
  cases i with
  | zero =>
    rw [List.drop_zero] at c6
    have := headIn_none c6
    omega
  | succ i =>
    have := c4 h (by simp)
    exact ⟨i, rfl, by omega, by simpa using c2, c3, fun x hx => c4 x (by simp [hx]), c5, by simpa using c6, c7⟩
theorem grow_least : ∀ (n u : Nat) (l r : List Hk) (N i k : Nat), Closed u N i k l r → (grow n u l r).1 ≤ N ∧ (grow n u l r).2.1 ≤ i ∧ (grow n u l r).2.2 ≤ k
  | 0, u, l, r, N, i, k, h => by rw [grow]; exact ⟨h.1, Nat.zero_le _, Nat.zero_le _⟩
  | n + 1, u, l, r, N, i, k, h => by
    rw [grow]
    split
    · rename_i x e
      obtain ⟨t, rfl, hx⟩ := headIn_some e
      obtain ⟨i', rfl, h'⟩ := closed_left h hx
      obtain ⟨k1, k2, k3⟩ := grow_least n (max u x.a1) t r N i' k h'
      exact ⟨k1, by show _ + 1 ≤ _; rw [List.tail_cons]; omega, k3⟩
    · split
      · rename_i x e
        obtain ⟨t, rfl, hx⟩ := headIn_some e
        obtain ⟨c1, c2, c3, c4, c5, c6, c7⟩ := h
        obtain ⟨k', rfl, h'⟩ := closed_left (l := t) (r := l) (i := k) (k := i) ⟨c1, c3, c2, c5, c4, c7, c6⟩ hx
        obtain ⟨d1, d2, d3, d4, d5, d6, d7⟩ := h'
        obtain ⟨k1, k2, k3⟩ := grow_least n (max u x.a1) l t N i k' ⟨d1, d3, d2, d5, d4, d7, d6⟩
        exact ⟨k1, k2, by show _ + 1 ≤ _; rw [List.tail_cons]; omega⟩
      · exact ⟨h.1, Nat.zero_le _, Nat.zero_le _⟩
theorem grow_closed (n u : Nat) (l r : List Hk) (h : l.length + r.length ≤ n) : Closed u (grow n u l r).1 (grow n u l r).2.1 (grow n u l r).2.2 l r := by
  obtain ⟨k1, k2, k3, k4, _⟩ := grow_spec n u l r h
  obtain ⟨e1, e2, e3⟩ := grow_le n u l r
  exact ⟨e3, e1, e2, k1, k2, k3, k4⟩
theorem least_swap (l r : List Hk) : least l r = least r l := by
  cases l <;> cases r <;> simp [least, Nat.min_comm]
theorem grown_swap (l r : List Hk) : grown r l = ((grown l r).1, (grown l r).2.2, (grown l r).2.1) := by
  unfold grown
  rw [least_swap r l, Nat.add_comm r.length]
  obtain ⟨c1, c2, c3, c4, c5, c6, c7⟩ := grow_closed (l.length + r.length) (least l r) l r (Nat.le_refl _)
  obtain ⟨d1, d2, d3, d4, d5, d6, d7⟩ := grow_closed (l.length + r.length) (least l r) r l (by omega)
  obtain ⟨a1, a2, a3⟩ := grow_least (l.length + r.length) (least l r) r l _ _ _ ⟨c1, c3, c2, c5, c4, c7, c6⟩
  obtain ⟨b1, b2, b3⟩ := grow_least (l.length + r.length) (least l r) l r _ _ _ ⟨d1, d3, d2, d5, d4, d7, d6⟩
  exact Prod.ext (by dsimp only; omega) (Prod.ext (by dsimp only; omega) (by dsimp only; omega))
def swapG (g : Gp) : Gp := ⟨g.lo, g.hi, g.right, g.left⟩
theorem gps_swap : ∀ (f : Nat) (l r : List Hk), gps f r l = (gps f l r).map swapG
  | 0, _, _ => rfl
  | f + 1, l, r => by
    rw [gps, gps, Nat.add_comm r.length]
    split
    · rfl
    · rw [List.map_cons, grown_swap l r, gps_swap f]
      congr 1
      unfold firstGp swapG
      rw [grown_swap l r, least_swap r l]
theorem changed_swap (left right : List α) (g : Gp) : changed right left (swapG g) = changed left right g := by
  unfold changed swapG
  dsimp only
  by_cases h1 : g.left.length = 0
  · by_cases h2 : g.right.length = 0
    · rw [if_pos h1, if_pos h2]
      rw [List.eq_nil_of_length_eq_zero h1, List.eq_nil_of_length_eq_zero h2]
      rfl
    · rw [if_pos h1, if_neg h2, if_pos h1]
  · by_cases h2 : g.right.length = 0
    · rw [if_neg h1, if_pos h2, if_pos h2]
    · rw [if_neg h1, if_neg h2, if_neg h2, if_neg h1]
      by_cases h3 : rangeOf left g.lo g.hi g.left = rangeOf right g.lo g.hi g.right
      · rw [if_pos h3, if_pos h3.symm, h3]
      · rw [if_neg h3, if_neg (fun e => h3 e.symm)]
theorem mergeG_swap (base left right : List α) : ∀ (T : List Gp) (m : Ms α), mergeG base right left (T.map swapG) m = mergeG base left right T m
  | [], m => rfl
  | g :: T, m => by
    rw [List.map_cons, mergeG, mergeG, mergeG_swap base left right T]
    congr 1
    unfold addG
    rw [changed_swap]
    rfl
end

theorem mergeL_swap (base left right : List ByteArray) : mergeL base right left = mergeL base left right := by
  have : mergeM base right left = mergeM base left right := by
    unfold mergeM
    rw [Nat.add_comm, gps_swap, mergeG_swap]
  unfold mergeL
  rw [this]
theorem mergeL_right (base right : List ByteArray) : mergeL base base right = (cat right, []) := by
  obtain ⟨i', j', h1, h2⟩ := right_all base base right (diff base right) ((diff base base).length + (diff base right).length) 0 0 (by omega) (diff_fits0 base right) (diff_ok base right).far
  have hm : mergeM base base right = ⟨right.take j', i', []⟩ := by
    unfold mergeM
    rw [diff_self] at h1 ⊢
    exact h1
  unfold mergeL
  rw [hm, if_pos (show ([] : List (Nat × Nat)).length = 0 from rfl)]
  dsimp only
  rw [h2, List.take_append_drop]
theorem mergeL_left (base left : List ByteArray) : mergeL base left base = (cat left, []) := by rw [mergeL_swap, mergeL_right]
theorem mergeL_both (base left : List ByteArray) : mergeL base left left = (cat left, []) := by
  obtain ⟨i', j', h1, h2⟩ := both_all base left (diff base left) ((diff base left).length + (diff base left).length) 0 0 (by omega) (diff_fits0 base left) (diff_ok base left).far
  have hm : mergeM base left left = ⟨left.take j', i', []⟩ := by
    unfold mergeM
    exact h1
  unfold mergeL
  rw [hm, if_pos (show ([] : List (Nat × Nat)).length = 0 from rfl)]
  dsimp only
  rw [h2, List.take_append_drop]
theorem mergeL_conf (base left right : List ByteArray) : (mergeL base left right).2 = [] ∨ (mergeL base left right).1 = [] := by
  unfold mergeL
  split
  · exact .inl rfl
  · exact .inr rfl
end Go.Proofs.Ytmeoannheomdoaa
