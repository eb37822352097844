/- The partners of the lines, as a list of numbers, and the hunks between them. -/
import Derived.Test.YtmeoannheomdoaaPairsMath
namespace Go.Proofs.Ytmeoannheomdoaa

/-- the partner of line i in a list of pairs, or -1 -/
def ptr : List (Nat × Nat) → Nat → Int
  | [], _ => -1
  | q :: t, i => if q.1 = i then (q.2 : Int) else ptr t i
theorem ptr_ins : ∀ (A B : List (Nat × Nat)) (q : Nat × Nat), (∀ z ∈ A, z.1 ≠ q.1) → ∀ i, ptr (A ++ q :: B) i = if q.1 = i then (q.2 : Int) else ptr (A ++ B) i
  | [], B, q, _, i => rfl
  | z :: A, B, q, h, i => by
    rw [List.cons_append, ptr, List.cons_append, ptr, ptr_ins A B q (fun y hy => h y (by simp [hy])) i]
    have h0 := h z (by simp)
    by_cases e : z.1 = i
    · rw [if_pos e, if_neg (by omega), if_pos e]
    · rw [if_neg e, if_neg e]
/-- the list of all partners -/
def PtrOk (out : List Int) (n : Nat) (D : List (Nat × Nat)) : Prop := out.length = n ∧ ∀ i, i < n → out[i]? = some (ptr D i)
theorem PtrOk.ins {out : List Int} {n x y : Nat} {A B : List (Nat × Nat)} (h : PtrOk out n (A ++ B)) (hA : ∀ z ∈ A, z.1 ≠ x) (hx : x < n) : PtrOk (out.set x (y : Int)) n (A ++ (x, y) :: B) := by
  refine ⟨by rw [List.length_set]; exact h.1, fun i hi => ?_⟩
  rw [ptr_ins A B (x, y) hA i]
  by_cases e : x = i
  · subst e
    rw [if_pos rfl, List.getElem?_set_self (by rw [h.1]; exact hx)]
  · rw [if_neg e, List.getElem?_set_ne e]
    exact h.2 i hi
theorem ptr_low : ∀ {R : List (Nat × Nat)} {i j : Nat}, Inc i j R → ∀ k, k < i → ptr R k = -1
  | [], _, _, _, _, _ => rfl
  | q :: R, i, j, h, k, hk => by
    have := h.1
    rw [ptr, if_neg (by omega)]
    exact ptr_low h.2.2 k (by omega)
theorem ptr_ge : ∀ (R : List (Nat × Nat)) (k : Nat), ptr R k = -1 ∨ ∃ y : Nat, ptr R k = (y : Int)
  | [], _ => .inl rfl
  | q :: R, k => by
    rw [ptr]
    split
    · exact .inr ⟨_, rfl⟩
    · exact ptr_ge R k
/-- the pairs R are those from the places i and j on -/
def Rest (out : List Int) (n m i j : Nat) (R : List (Nat × Nat)) : Prop := Inc i j R ∧ (∀ q ∈ R, q.1 < n ∧ q.2 < m) ∧ i ≤ n ∧ j ≤ m ∧ out.length = n ∧ ∀ k, i ≤ k → k < n → out[k]? = some (ptr R k)
theorem Rest.pair {out : List Int} {n m i j : Nat} {R : List (Nat × Nat)} (h : Rest out n m i j R) (hi : i < n) (ho : out[i]? = some (j : Int)) : ∃ R', R = (i, j) :: R' ∧ Rest out n m (i + 1) (j + 1) R' := by
  obtain ⟨h1, h2, h3, h4, h5, h6⟩ := h
  have hp := h6 i (Nat.le_refl _) hi
  rw [ho] at hp
  have hp := Option.some.inj hp
  cases R with
  | nil => simp [ptr] at hp
  | cons q R =>
    obtain ⟨k1, k2, k3⟩ := h1
    by_cases e : q.1 = i
    · rw [ptr, if_pos e] at hp
      have e2 : q.2 = j := by omega
      obtain ⟨x, y⟩ := q
      dsimp only at e e2 k3
      subst e e2
      have hq := h2 (x, y) (by simp)
      refine ⟨R, rfl, k3, fun z hz => h2 z (by simp [hz]), hi, hq.2, h5, fun k hk hkn => ?_⟩
      rw [h6 k (by omega) hkn, ptr, if_neg (by show ¬ x = k; omega)]
    · rw [ptr, if_neg e, ptr_low k3 i (by omega)] at hp
      omega
theorem gaps_pair (i j n m : Nat) (R : List (Nat × Nat)) : gaps i j ((i, j) :: R ++ [(n, m)]) = gaps (i + 1) (j + 1) (R ++ [(n, m)]) := by
  rw [List.cons_append, gaps, gap_none, List.nil_append]
theorem gaps_two (i j u y n m : Nat) (R : List (Nat × Nat)) (h : i < u ∨ j < y) : gaps i j ((u, y) :: R ++ [(n, m)]) = ⟨i, u, j, y⟩ :: gaps u y ((u, y) :: R ++ [(n, m)]) := by
  rw [gaps_pair, List.cons_append, gaps]
  unfold gap
  rw [if_pos h]
  rfl
theorem gaps_last (i j n m : Nat) (h : i < n ∨ j < m) : gaps i j ([] ++ [(n, m)]) = ⟨i, n, j, m⟩ :: gaps n m ([] ++ [(n, m)]) := by
  show gap i j n m ++ [] = _ :: (gap n m n m ++ [])
  rw [gap_none]
  unfold gap
  rw [if_pos h]
  rfl
/-- lines without a partner up to u -/
def Free (out : List Int) (i u : Nat) : Prop := ∀ k, i ≤ k → k < u → out[k]? = some (-1)
/-- a hunk ends at a pair -/
theorem Rest.hunk {out : List Int} {n m i j u y : Nat} {R : List (Nat × Nat)} (h : Rest out n m i j R) (hu : i ≤ u) (hun : u < n) (hf : Free out i u) (ho : out[u]? = some (y : Int)) (hne : ¬ (u = i ∧ y = j)) :
    Rest out n m u y R ∧ gaps i j (R ++ [(n, m)]) = ⟨i, u, j, y⟩ :: gaps u y (R ++ [(n, m)]) ∧ j ≤ y ∧ y < m := by
  obtain ⟨h1, h2, h3, h4, h5, h6⟩ := h
  have hp := h6 u hu hun
  rw [ho] at hp
  have hp := Option.some.inj hp
  cases R with
  | nil => simp [ptr] at hp
  | cons q R =>
    obtain ⟨k1, k2, k3⟩ := h1
    obtain ⟨x, z⟩ := q
    dsimp only at k1 k2 k3
    have hxu : u ≤ x := by
      refine Nat.le_of_not_lt fun hlt => ?_
      have := hf x k1 hlt
      rw [h6 x k1 (by omega), ptr, if_pos rfl] at this
      have := Option.some.inj this
      dsimp only at this
      omega
    by_cases e : x = u
    · subst e
      rw [ptr, if_pos rfl] at hp
      have e2 : z = y := by dsimp only at hp; omega
      subst e2
      have hq := h2 (x, z) (by simp)
      dsimp only at hq
      refine ⟨⟨⟨Nat.le_refl _, Nat.le_refl _, k3⟩, h2, by omega, by omega, h5, fun k hk hkn => h6 k (by omega) hkn⟩, gaps_two _ _ _ _ _ _ _ ?_, k2, hq.2⟩
      omega
    · rw [ptr, if_neg (by show ¬ x = u; exact e), ptr_low k3 u (by omega)] at hp
      omega
/-- a hunk ends at the ends -/
theorem Rest.last {out : List Int} {n m i j : Nat} {R : List (Nat × Nat)} (h : Rest out n m i j R) (hf : Free out i n) (hne : i < n ∨ j < m) : Rest out n m n m [] ∧ gaps i j (R ++ [(n, m)]) = ⟨i, n, j, m⟩ :: gaps n m ([] ++ [(n, m)]) := by
  obtain ⟨h1, h2, h3, h4, h5, h6⟩ := h
  cases R with
  | nil => exact ⟨⟨trivial, fun q hq => by simp at hq, Nat.le_refl _, Nat.le_refl _, h5, fun k hk hkn => by omega⟩, gaps_last i j n m hne⟩
  | cons q R =>
    have hq := h2 q (by simp)
    have := hf q.1 h1.1 hq.1
    rw [h6 q.1 h1.1 hq.1, ptr, if_pos rfl] at this
    have := Option.some.inj this
    omega
theorem Rest.done {out : List Int} {n m : Nat} {R : List (Nat × Nat)} (h : Rest out n m n m R) : gaps n m (R ++ [(n, m)]) = [] := by
  obtain ⟨h1, h2, _⟩ := h
  cases R with
  | nil => show gap n m n m ++ [] = []; rw [gap_none]; rfl
  | cons q R =>
    have := h1.1
    have := (h2 q (by simp)).1
    omega
section
variable {α : Type} [DecidableEq α]
theorem rest_start (a b : List α) {out : List Int} {n m : Nat} (hn : a.length = n) (hm : b.length = m) (h : PtrOk out n (allP a b)) : Rest out n m 0 0 (allP a b) := by
  subst hn hm
  obtain ⟨h1, h2⟩ := all_inc a b
  exact ⟨h1, h2, Nat.zero_le _, Nat.zero_le _, h.1, fun k _ hk => h.2 k hk⟩
theorem pre_stop : ∀ (a b : List α) (h1 : pre a b < a.length) (h2 : pre a b < b.length), a[pre a b] ≠ b[pre a b]
  | x :: xs, y :: ys, h1, h2 => by
    by_cases e : x = y
    · have hp : pre (x :: xs) (y :: ys) = pre xs ys + 1 := by rw [pre, if_pos e]
      have := pre_stop xs ys (by rw [hp] at h1; simpa using h1) (by rw [hp] at h2; simpa using h2)
      simp only [hp, List.getElem_cons_succ]
      exact this
    · have hp : pre (x :: xs) (y :: ys) = 0 := by rw [pre, if_neg e]
      simp only [hp, List.getElem_cons_zero]
      exact e
  | [], _, h1, _ => by simp [pre] at h1
  | _ :: _, [], _, h2 => by simp [pre] at h2
/-- the lines of the equal ends, from the ends on -/
theorem suf_at {a b : List α} {p t x y : Nat} (ht : t < suf (a.drop p) (b.drop p)) (hx : x + 1 + t = a.length) (hy : y + 1 + t = b.length) : p ≤ x ∧ p ≤ y ∧ ∃ (h1 : x < a.length) (h2 : y < b.length), a[x] = b[y] := by
  obtain ⟨s1, s2⟩ := suf_le (a.drop p) (b.drop p)
  rw [List.length_drop] at s1 s2
  refine ⟨by omega, by omega, by omega, by omega, ?_⟩
  unfold suf at ht
  have h := pre_at ht (by rw [List.length_reverse, List.length_drop]; unfold suf at s1; omega) (by rw [List.length_reverse, List.length_drop]; unfold suf at s2; omega)
  rw [List.getElem_reverse, List.getElem_reverse, List.getElem_drop, List.getElem_drop] at h
  have e1 : p + ((a.drop p).length - 1 - t) = x := by rw [List.length_drop]; unfold suf at s1; omega
  have e2 : p + ((b.drop p).length - 1 - t) = y := by rw [List.length_drop]; unfold suf at s2; omega
  simp only [e1, e2] at h
  exact h
theorem suf_stop {a b : List α} {p t x y : Nat} (ht : t = suf (a.drop p) (b.drop p)) (hx : x + 1 + t = a.length) (hy : y + 1 + t = b.length) (h3 : p ≤ x) (h4 : p ≤ y) (h1 : x < a.length) (h2 : y < b.length) : a[x] ≠ b[y] := by
  subst ht
  unfold suf at hx hy
  have h := pre_stop (a.drop p).reverse (b.drop p).reverse (by rw [List.length_reverse, List.length_drop]; omega) (by rw [List.length_reverse, List.length_drop]; omega)
  rw [List.getElem_reverse, List.getElem_reverse, List.getElem_drop, List.getElem_drop] at h
  have e1 : p + ((a.drop p).length - 1 - pre (a.drop p).reverse (b.drop p).reverse) = x := by rw [List.length_drop]; omega
  have e2 : p + ((b.drop p).length - 1 - pre (a.drop p).reverse (b.drop p).reverse) = y := by rw [List.length_drop]; omega
  simp only [e1, e2] at h
  exact h
theorem diag_snoc (i j k : Nat) : diag i j (k + 1) = diag i j k ++ [(i + k, j + k)] := by
  unfold diag
  rw [List.range_succ, List.map_append]
  rfl
end
end Go.Proofs.Ytmeoannheomdoaa
