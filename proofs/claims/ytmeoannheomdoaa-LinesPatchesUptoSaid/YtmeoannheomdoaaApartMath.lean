/- Merges of texts in which single lines are changed or inserted. -/
import Derived.Test.YtmeoannheomdoaaDiffMath
import Derived.Test.YtmeoannheomdoaaText
namespace Go.Proofs.Ytmeoannheomdoaa

/- lines of a text are its lines again -/
def IsLine (x : ByteArray) : Prop := ∃ y : List UInt8, x.data.toList = y ++ [10] ∧ (10 : UInt8) ∉ y
theorem splitAcc_line : ∀ (y cur t : List UInt8), (10 : UInt8) ∉ y → splitAcc cur (y ++ 10 :: t) = (cur ++ y ++ [10]) :: splitAcc [] t
  | [], cur, t, _ => by rw [List.nil_append, splitAcc, if_pos rfl, List.append_nil]
  | c :: y, cur, t, h => by
    have hc : c ≠ 10 := fun e => h (by simp [e])
    rw [List.cons_append, splitAcc, if_neg hc, splitAcc_line y (cur ++ [c]) t (fun h' => h (by simp [h']))]
    simp
theorem split_cat : ∀ (L : List ByteArray), (∀ x ∈ L, IsLine x) → splitL (cat L) = L.map (·.data.toList)
  | [], _ => by simp [cat, splitL, splitAcc]
  | x :: L, h => by
    obtain ⟨y, hy, hn⟩ := h x (by simp)
    have ih := split_cat L fun z hz => h z (by simp [hz])
    unfold splitL at ih ⊢
    rw [show cat (x :: L) = y ++ 10 :: cat L from by show x.data.toList ++ cat L = _; rw [hy]; simp, splitAcc_line y [] _ hn, ih, List.map_cons, hy]
    rfl
theorem splitS_text (L : List ByteArray) (h : ∀ x ∈ L, IsLine x) : splitS (textS L false) = L := by
  unfold splitS textS
  rw [if_neg (by simp), show (str (cat L)).data.toList = cat L from rfl, split_cat L h, List.map_map]
  have : (str ∘ fun x : ByteArray => x.data.toList) = id := by funext x; exact (str_eq rfl).symm
  rw [this, List.map_id]

section
variable {α : Type} [DecidableEq α]
/-- one line is changed -/
theorem diff_set (l : List α) (i : Nat) (x : α) (hi : i < l.length) (hx : l[i] ≠ x) : diff l (l.set i x) = [⟨i, i + 1, i, i + 1⟩] := by
  have h1 : l = l.take i ++ ([l[i]] ++ l.drop (i + 1)) := by
    rw [List.singleton_append, ← List.drop_eq_getElem_cons hi, List.take_append_drop]
  have h2 : l.set i x = l.take i ++ ([x] ++ l.drop (i + 1)) := by
    rw [List.set_eq_take_append_cons_drop, if_pos hi]; rfl
  have hd := diff_parts (l.take i) [l[i]] [x] (l.drop (i + 1)) (pre_ne hx) (suf_ne (x := []) (y := []) hx)
  rw [← h1, ← h2] at hd
  rw [hd]
  have hm : midPairs [l[i]] [x] = [] := by
    unfold midPairs
    rw [if_neg (by simp), walk_none]
    intro s hs t ht
    rw [List.mem_singleton.1 hs, List.mem_singleton.1 ht]; exact hx
  rw [hm, List.length_take, Nat.min_eq_left (Nat.le_of_lt hi)]
  simp [shift, gaps, gap]
/-- one line is inserted -/
theorem diff_ins (l : List α) (i : Nat) (x : α) (hi : i ≤ l.length) (hx : x ∉ l) : diff l (l.take i ++ (x :: l.drop i)) = [⟨i, i, i, i + 1⟩] := by
  have h1 : l = l.take i ++ ([] ++ l.drop i) := by rw [List.nil_append, List.take_append_drop]
  have hp : pre ([] ++ l.drop i) ([x] ++ l.drop i) = 0 := by
    cases hd : l.drop i with
    | nil => exact pre_nil _
    | cons y t =>
      refine pre_ne ?_
      rintro rfl
      exact hx (List.mem_of_mem_drop (hd ▸ List.mem_cons_self : _ ∈ l.drop i))
  have hd := diff_parts (l.take i) [] [x] (l.drop i) hp (suf_nil _)
  rw [← h1] at hd
  refine hd.trans ?_
  have hm : midPairs ([] : List α) [x] = [] := by
    unfold midPairs
    rw [if_neg (by simp)]
    rfl
  rw [hm, List.length_take, Nat.min_eq_left hi]
  simp [shift, gaps, gap]
end

theorem gps_apart {a b : Hk} (h : a.a1 < b.a0) (ha : a.a0 ≤ a.a1) (hb : b.a0 ≤ b.a1) : gps 2 [a] [b] = [⟨a.a0, a.a1, [a], []⟩, ⟨b.a0, b.a1, [], [b]⟩] := by
  have h1 : least [a] [b] = a.a0 := Nat.min_eq_left (by omega)
  have h2 : headIn a.a0 [a] = some a := by rw [headIn_cons, if_pos (Nat.le_refl _)]
  have h3 : headIn (max a.a0 a.a1) [b] = none := by rw [headIn_cons, if_neg (by omega)]
  have h4 : headIn b.a0 [b] = some b := by rw [headIn_cons, if_pos (Nat.le_refl _)]
  have g1 : grown [a] [b] = (a.a1, 1, 0) := by
    unfold grown
    rw [h1]
    simp only [List.length_cons, List.length_nil]
    rw [grow, h2]
    dsimp only
    rw [List.tail_cons, grow]
    rw [show headIn (max a.a0 a.a1) [] = none from rfl, h3]
    dsimp only
    rw [Nat.max_eq_right ha]
  have g2 : grown [] [b] = (b.a1, 0, 1) := by
    unfold grown
    rw [show least [] [b] = b.a0 from rfl]
    simp only [List.length_cons, List.length_nil]
    rw [grow, show headIn b.a0 [] = none from rfl, h4]
    dsimp only
    rw [List.tail_cons, grow]
    rw [Nat.max_eq_right hb]
  rw [gps, if_neg (by simp), gps]
  unfold firstGp
  rw [g1]
  dsimp only
  rw [h1]
  simp only [List.drop_succ_cons, List.drop_zero, List.take_succ_cons, List.take_zero]
  rw [if_neg (by simp), g2]
  rfl
theorem gps_apart' {a b : Hk} (h : b.a1 < a.a0) (ha : a.a0 ≤ a.a1) (hb : b.a0 ≤ b.a1) : gps 2 [a] [b] = [⟨b.a0, b.a1, [], [b]⟩, ⟨a.a0, a.a1, [a], []⟩] := by
  have h1 : least [a] [b] = b.a0 := Nat.min_eq_right (by omega)
  have h2 : headIn b.a0 [a] = none := by rw [headIn_cons, if_neg (by omega)]
  have h3 : headIn (max b.a0 b.a1) [a] = none := by rw [headIn_cons, if_neg (by omega)]
  have h4 : headIn b.a0 [b] = some b := by rw [headIn_cons, if_pos (Nat.le_refl _)]
  have h5 : headIn a.a0 [a] = some a := by rw [headIn_cons, if_pos (Nat.le_refl _)]
  have g1 : grown [a] [b] = (b.a1, 0, 1) := by
    unfold grown
    rw [h1]
    simp only [List.length_cons, List.length_nil]
    rw [grow, h2]
    dsimp only
    rw [h4]
    dsimp only
    rw [List.tail_cons, grow, h3]
    dsimp only
    rw [show headIn (max b.a0 b.a1) [] = none from rfl]
    dsimp only
    rw [Nat.max_eq_right hb]
  have g2 : grown [a] [] = (a.a1, 1, 0) := by
    unfold grown
    rw [show least [a] [] = a.a0 from rfl]
    simp only [List.length_cons, List.length_nil]
    rw [grow, h5]
    dsimp only
    rw [List.tail_cons, grow]
    rw [Nat.max_eq_right ha]
  rw [gps, if_neg (by simp), gps]
  unfold firstGp
  rw [g1]
  dsimp only
  rw [h1]
  simp only [List.drop_succ_cons, List.drop_zero, List.take_succ_cons, List.take_zero]
  rw [if_neg (by simp), g2]
  rfl
/-- the hunks touch: one group -/
theorem gps_touch {a b : Hk} (h1 : a.a0 ≤ b.a1) (h2 : b.a0 ≤ a.a1) (ha : a.a0 ≤ a.a1) (hb : b.a0 ≤ b.a1) : gps 2 [a] [b] = [⟨min a.a0 b.a0, max a.a1 b.a1, [a], [b]⟩] := by
  have g1 : grown [a] [b] = (max a.a1 b.a1, 1, 1) := by
    unfold grown
    rw [show least [a] [b] = min a.a0 b.a0 from rfl]
    simp only [List.length_cons, List.length_nil]
    rw [grow]
    rcases Nat.le_total a.a0 b.a0 with hle | hle
    · rw [show headIn (min a.a0 b.a0) [a] = some a by rw [headIn_cons, if_pos (by omega)]]
      dsimp only
      rw [List.tail_cons, grow]
      rw [show headIn (max (min a.a0 b.a0) a.a1) [] = none from rfl, show headIn (max (min a.a0 b.a0) a.a1) [b] = some b by rw [headIn_cons, if_pos (by omega)]]
      dsimp only
      rw [List.tail_cons, grow]
      rw [show max (max (min a.a0 b.a0) a.a1) b.a1 = max a.a1 b.a1 by omega]
    · by_cases he : a.a0 ≤ min a.a0 b.a0
      · rw [show headIn (min a.a0 b.a0) [a] = some a by rw [headIn_cons, if_pos he]]
        dsimp only
        rw [List.tail_cons, grow]
        rw [show headIn (max (min a.a0 b.a0) a.a1) [] = none from rfl, show headIn (max (min a.a0 b.a0) a.a1) [b] = some b by rw [headIn_cons, if_pos (by omega)]]
        dsimp only
        rw [List.tail_cons, grow]
        rw [show max (max (min a.a0 b.a0) a.a1) b.a1 = max a.a1 b.a1 by omega]
      · rw [show headIn (min a.a0 b.a0) [a] = none by rw [headIn_cons, if_neg he], show headIn (min a.a0 b.a0) [b] = some b by rw [headIn_cons, if_pos (by omega)]]
        dsimp only
        rw [List.tail_cons, grow]
        rw [show headIn (max (min a.a0 b.a0) b.a1) [a] = some a by rw [headIn_cons, if_pos (by omega)]]
        dsimp only
        rw [List.tail_cons, grow]
        rw [show max (max (min a.a0 b.a0) b.a1) a.a1 = max a.a1 b.a1 by omega]
  rw [gps, if_neg (by simp), gps]
  unfold firstGp
  rw [g1]
  dsimp only
  simp only [List.drop_succ_cons, List.drop_zero, List.take_succ_cons, List.take_zero]
  rw [if_pos (by simp)]
  rfl

theorem tk_mid {α : Type} (p t : List α) (x : α) (j : Nat) (h : p.length < j) : (p ++ x :: t).take j = p ++ [x] ++ t.take (j - p.length - 1) := by
  obtain ⟨m, hm⟩ : ∃ m, j - p.length = m + 1 := ⟨j - p.length - 1, by omega⟩
  rw [List.take_append, List.take_of_length_le (by omega), hm, List.take_succ_cons, Nat.add_sub_cancel, List.append_assoc]
  rfl
theorem dr_mid {α : Type} (p t : List α) (x : α) (j : Nat) (h : p.length ≤ j) : (p ++ x :: t).drop (j + 1) = t.drop (j - p.length) := by
  rw [List.drop_append, List.drop_eq_nil_of_le (by omega), show j + 1 - p.length = (j - p.length) + 1 by omega, List.drop_succ_cons, List.nil_append]
theorem set_twice {α : Type} (l : List α) (i j : Nat) (x y : α) (hj : j < l.length) (h : i + 1 < j) :
    l.take i ++ [x] ++ (l.drop (i + 1)).take (j - (i + 1)) ++ [y] ++ l.drop (j + 1) = (l.set i x).set j y := by
  have hl : (l.take i).length = i := by rw [List.length_take]; omega
  rw [List.set_eq_take_append_cons_drop, if_pos (by simpa using hj), List.set_eq_take_append_cons_drop, if_pos (by omega),
    tk_mid _ _ _ _ (by rw [hl]; omega), dr_mid _ _ _ _ (by rw [hl]; omega), hl, List.drop_drop, show i + 1 + (j - i) = j + 1 by omega, show j - i - 1 = j - (i + 1) by omega, List.append_assoc _ [y]]
  rfl

set_option maxHeartbeats 2000000 in
/-- the base with line i changed on one side and line j on the other -/
theorem merge_apart (l : List ByteArray) (i j : Nat) (x y : ByteArray) (hi : i < l.length) (hj : j < l.length) (hx : x ∉ l) (hy : y ∉ l) (h : i + 1 < j ∨ j + 1 < i) :
    mergeL l (l.set i x) (l.set j y) = (cat ((l.set i x).set j y), []) := by
  have d1 := diff_set l i x hi (fun e => hx (e ▸ List.getElem_mem hi))
  have d2 := diff_set l j y hj (fun e => hy (e ▸ List.getElem_mem hj))
  have r1 : ∀ (l : List ByteArray) (k : Nat) (z : ByteArray), k < l.length → ((l.set k z).drop k).take 1 = [z] := by
    intro l k z hk
    rw [List.drop_eq_getElem_cons (by simpa using hk)]
    simp
  have q1 : rangeOf (l.set i x) i (i + 1) [⟨i, i + 1, i, i + 1⟩] = [x] := by
    unfold rangeOf
    dsimp only [List.getLast_singleton]
    rw [show i + i - i = i by omega, show i + 1 + (i + 1) - (i + 1) - i = 1 by omega]
    exact r1 l i x hi
  have q2 : rangeOf (l.set j y) j (j + 1) [⟨j, j + 1, j, j + 1⟩] = [y] := by
    unfold rangeOf
    dsimp only [List.getLast_singleton]
    rw [show j + j - j = j by omega, show j + 1 + (j + 1) - (j + 1) - j = 1 by omega]
    exact r1 l j y hj
  rcases h with h | h
  · have hg := gps_apart (a := ⟨i, i + 1, i, i + 1⟩) (b := ⟨j, j + 1, j, j + 1⟩) h (Nat.le_succ _) (Nat.le_succ _)
    have hm : mergeM l (l.set i x) (l.set j y) = ⟨l.take i ++ [x] ++ (l.drop (i + 1)).take (j - (i + 1)) ++ [y], j + 1, []⟩ := by
      unfold mergeM
      rw [d1, d2, show ([(⟨i, i + 1, i, i + 1⟩ : Hk)].length + [(⟨j, j + 1, j, j + 1⟩ : Hk)].length) = 2 from rfl, hg]
      simp only [mergeG, addG, changed, List.length_nil, List.length_singleton, if_true, if_neg (show ¬ (1 = 0) by omega), q1, q2]
      simp
    unfold mergeL
    rw [hm, if_pos (show ([] : List (Nat × Nat)).length = 0 from rfl)]
    dsimp only
    congr 2
    exact set_twice l i j x y hj h
  · have hg := gps_apart' (a := ⟨i, i + 1, i, i + 1⟩) (b := ⟨j, j + 1, j, j + 1⟩) h (Nat.le_succ _) (Nat.le_succ _)
    have hm : mergeM l (l.set i x) (l.set j y) = ⟨l.take j ++ [y] ++ (l.drop (j + 1)).take (i - (j + 1)) ++ [x], i + 1, []⟩ := by
      unfold mergeM
      rw [d1, d2, show ([(⟨i, i + 1, i, i + 1⟩ : Hk)].length + [(⟨j, j + 1, j, j + 1⟩ : Hk)].length) = 2 from rfl, hg]
      simp only [mergeG, addG, changed, List.length_nil, List.length_singleton, if_true, if_neg (show ¬ (1 = 0) by omega), q1, q2]
      simp
    unfold mergeL
    rw [hm, if_pos (show ([] : List (Nat × Nat)).length = 0 from rfl)]
    dsimp only
    congr 2
    rw [List.set_comm _ _ (by omega)]
    exact set_twice l j i y x hi h
set_option maxHeartbeats 2000000 in
theorem merge_touch (l : List ByteArray) (i j : Nat) (x y : ByteArray) (hi : i < l.length) (hj : j < l.length) (hx : x ∉ l) (hy : y ∉ l) (hxy : x ≠ y) (h1 : i ≤ j + 1) (h2 : j ≤ i + 1) :
    mergeL l (l.set i x) (l.set j y) = ([], [(min i j, max i j + 1)]) := by
  have d1 := diff_set l i x hi (fun e => hx (e ▸ List.getElem_mem hi))
  have d2 := diff_set l j y hj (fun e => hy (e ▸ List.getElem_mem hj))
  have hg := gps_touch (a := ⟨i, i + 1, i, i + 1⟩) (b := ⟨j, j + 1, j, j + 1⟩) h1 h2 (Nat.le_succ _) (Nat.le_succ _)
  have q1 : rangeOf (l.set i x) (min i j) (max (i + 1) (j + 1)) [⟨i, i + 1, i, i + 1⟩] = ((l.set i x).drop (min i j)).take (max i j + 1 - min i j) := by
    unfold rangeOf
    dsimp only [List.getLast_singleton]
    rw [show i + min i j - i = min i j by omega, show i + 1 + max (i + 1) (j + 1) - (i + 1) = max i j + 1 by omega]
  have q2 : rangeOf (l.set j y) (min i j) (max (i + 1) (j + 1)) [⟨j, j + 1, j, j + 1⟩] = ((l.set j y).drop (min i j)).take (max i j + 1 - min i j) := by
    unfold rangeOf
    dsimp only [List.getLast_singleton]
    rw [show j + min i j - j = min i j by omega, show j + 1 + max (i + 1) (j + 1) - (j + 1) = max i j + 1 by omega]
  have hne : ((l.set i x).drop (min i j)).take (max i j + 1 - min i j) ≠ ((l.set j y).drop (min i j)).take (max i j + 1 - min i j) := by
    intro e
    have e := congrArg (fun L => L[i - min i j]?) e
    rw [List.getElem?_take_of_lt (by omega), List.getElem?_take_of_lt (by omega), List.getElem?_drop, List.getElem?_drop, show min i j + (i - min i j) = i by omega, List.getElem?_set_self hi] at e
    by_cases hij : j = i
    · subst hij
      rw [List.getElem?_set_self hi] at e
      exact hxy (Option.some.inj e)
    · rw [List.getElem?_set_ne hij, List.getElem?_eq_getElem hi] at e
      exact hx (Option.some.inj e ▸ List.getElem_mem hi)
  have hm : mergeM l (l.set i x) (l.set j y) = ⟨[], 0, [(min i j, max i j + 1)]⟩ := by
    unfold mergeM
    rw [d1, d2, show ([(⟨i, i + 1, i, i + 1⟩ : Hk)].length + [(⟨j, j + 1, j, j + 1⟩ : Hk)].length) = 2 from rfl, hg]
    simp only [mergeG, addG, changed, List.length_singleton, if_neg (show ¬ (1 = 0) by omega), q1, q2, if_neg hne]
    simp
  unfold mergeL
  rw [hm]
  rfl
end Go.Proofs.Ytmeoannheomdoaa
