/- The alignment of two lists and its hunks, as functions on lists. -/
namespace Go.Proofs.Ytmeoannheomdoaa

section
variable {α : Type}
/-- the part of a list without p lines at its beginning and e at its end -/
def mid (a : List α) (p e : Nat) : List α := (a.drop p).take (a.length - p - e)
theorem mid_len (a : List α) (p e : Nat) : (mid a p e).length = a.length - p - e := by unfold mid; simp
end

section
variable {α : Type} [DecidableEq α]

def lcsGo (f : List α → Nat) (x : α) : List α → Nat
  | [] => 0
  | y :: ys => if x = y then f ys + 1 else max (f (y :: ys)) (lcsGo f x ys)
/-- the length of the longest common subsequence -/
def lcs : List α → List α → Nat
  | [] => fun _ => 0
  | x :: xs => lcsGo (lcs xs) x
theorem lcs_nil (b : List α) : lcs [] b = 0 := rfl
theorem lcs_nil' (a : List α) : lcs a [] = 0 := by cases a <;> rfl
theorem lcs_cons (x : α) (xs : List α) (y : α) (ys : List α) : lcs (x :: xs) (y :: ys) = if x = y then lcs xs ys + 1 else max (lcs xs (y :: ys)) (lcs (x :: xs) ys) := rfl

def walkGo (f : List α → Nat → List (Nat × Nat)) (x : α) (xs : List α) (i : Nat) : List α → Nat → List (Nat × Nat)
  | [], _ => []
  | y :: ys, j => if x = y then (i, j) :: f ys (j + 1) else if lcs (x :: xs) ys ≤ lcs xs (y :: ys) then f (y :: ys) j else walkGo f x xs i ys (j + 1)
/-- the pairs of the alignment's last part: i and j are the positions of the lists' heads -/
def walk : List α → Nat → List α → Nat → List (Nat × Nat)
  | [], _ => fun _ _ => []
  | x :: xs, i => walkGo (walk xs (i + 1)) x xs i
theorem walk_nil (i : Nat) (b : List α) (j : Nat) : walk [] i b j = [] := rfl
theorem walk_nil' (a : List α) (i j : Nat) : walk a i [] j = [] := by cases a <;> rfl
theorem walk_cons (x : α) (xs : List α) (i : Nat) (y : α) (ys : List α) (j : Nat) : walk (x :: xs) i (y :: ys) j =
    if x = y then (i, j) :: walk xs (i + 1) ys (j + 1) else if lcs (x :: xs) ys ≤ lcs xs (y :: ys) then walk xs (i + 1) (y :: ys) j else walk (x :: xs) i ys (j + 1) := rfl

/-- L(i, j) -/
def LL (x y : List α) (i j : Nat) : Nat := lcs (x.drop i) (y.drop j)
theorem LL_end (x y : List α) {i : Nat} (j : Nat) (h : x.length ≤ i) : LL x y i j = 0 := by unfold LL; rw [List.drop_eq_nil_of_le h]; rfl
theorem LL_end' (x y : List α) (i : Nat) {j : Nat} (h : y.length ≤ j) : LL x y i j = 0 := by unfold LL; rw [List.drop_eq_nil_of_le h, lcs_nil']
theorem LL_step (x y : List α) {i j : Nat} (hi : i < x.length) (hj : j < y.length) : LL x y i j = if x[i] = y[j] then LL x y (i + 1) (j + 1) + 1 else max (LL x y (i + 1) j) (LL x y i (j + 1)) := by
  unfold LL
  rw [List.drop_eq_getElem_cons hi, List.drop_eq_getElem_cons hj, lcs_cons, ← List.drop_eq_getElem_cons hi, ← List.drop_eq_getElem_cons hj]
/-- the pairs from the positions i and j on -/
def WW (x y : List α) (i j : Nat) : List (Nat × Nat) := walk (x.drop i) i (y.drop j) j
theorem WW_end (x y : List α) {i : Nat} (j : Nat) (h : x.length ≤ i) : WW x y i j = [] := by unfold WW; rw [List.drop_eq_nil_of_le h]; rfl
theorem WW_end' (x y : List α) (i : Nat) {j : Nat} (h : y.length ≤ j) : WW x y i j = [] := by unfold WW; rw [List.drop_eq_nil_of_le h, walk_nil']
theorem WW_step (x y : List α) {i j : Nat} (hi : i < x.length) (hj : j < y.length) : WW x y i j =
    if x[i] = y[j] then (i, j) :: WW x y (i + 1) (j + 1) else if LL x y i (j + 1) ≤ LL x y (i + 1) j then WW x y (i + 1) j else WW x y i (j + 1) := by
  unfold WW LL
  rw [List.drop_eq_getElem_cons hi, List.drop_eq_getElem_cons hj, walk_cons, ← List.drop_eq_getElem_cons hi, ← List.drop_eq_getElem_cons hj]
theorem LL_le (x y : List α) (i j : Nat) : LL x y i j ≤ x.length := by
  unfold LL
  have h : ∀ (a b : List α), lcs a b ≤ a.length := by
    intro a
    induction a with
    | nil => intro b; simp [lcs_nil]
    | cons x xs ih =>
      intro b
      induction b with
      | nil => simp [lcs_nil']
      | cons y ys ihb =>
        rw [lcs_cons]
        split
        · have := ih ys; simp; omega
        · have := ih (y :: ys); simp at ihb ⊢; omega
  have := h (x.drop i) (y.drop j)
  simp at this
  omega
end

section
variable {α β : Type} [DecidableEq α] [DecidableEq β]
/-- Numbers in the place of lines: equal if and only if the lines are. -/
theorem lcs_map (f : α → β) : ∀ (a b : List α), (∀ s ∈ a, ∀ t ∈ b, f s = f t → s = t) → lcs (a.map f) (b.map f) = lcs a b := by
  intro a
  induction a with
  | nil => intro b _; rfl
  | cons x xs ih =>
    intro b
    induction b with
    | nil => intro _; rfl
    | cons y ys ihb =>
      intro h
      have h1 := ih ys fun s hs t ht => h s (List.mem_cons_of_mem _ hs) t (List.mem_cons_of_mem _ ht)
      have h2 := ih (y :: ys) fun s hs t ht => h s (List.mem_cons_of_mem _ hs) t ht
      have h3 := ihb fun s hs t ht => h s hs t (List.mem_cons_of_mem _ ht)
      rw [List.map_cons, List.map_cons] at *
      rw [lcs_cons, lcs_cons, h1, h2, h3]
      by_cases e : x = y
      · rw [if_pos (by rw [e]), if_pos e]
      · rw [if_neg (fun e' => e (h x (List.mem_cons_self) y (List.mem_cons_self) e')), if_neg e]
theorem walk_map (f : α → β) : ∀ (a b : List α) (i j : Nat), (∀ s ∈ a, ∀ t ∈ b, f s = f t → s = t) → walk (a.map f) i (b.map f) j = walk a i b j := by
  intro a
  induction a with
  | nil => intro b i j _; rfl
  | cons x xs ih =>
    intro b
    induction b with
    | nil => intro i j _; rfl
    | cons y ys ihb =>
      intro i j h
      have h1 := ih ys (i + 1) (j + 1) fun s hs t ht => h s (List.mem_cons_of_mem _ hs) t (List.mem_cons_of_mem _ ht)
      have h2 := ih (y :: ys) (i + 1) j fun s hs t ht => h s (List.mem_cons_of_mem _ hs) t ht
      have h3 := ihb i (j + 1) fun s hs t ht => h s hs t (List.mem_cons_of_mem _ ht)
      have h4 := lcs_map f (x :: xs) ys fun s hs t ht => h s hs t (List.mem_cons_of_mem _ ht)
      have h5 := lcs_map f xs (y :: ys) fun s hs t ht => h s (List.mem_cons_of_mem _ hs) t ht
      rw [List.map_cons, List.map_cons] at *
      rw [walk_cons, walk_cons, h1, h2, h3, h4, h5]
      by_cases e : x = y
      · rw [if_pos (by rw [e]), if_pos e]
      · rw [if_neg (fun e' => e (h x (List.mem_cons_self) y (List.mem_cons_self) e')), if_neg e]

/-- the number of a line: its first place in the list and one, or 0 -/
def numOf (a : List α) (s : α) : Nat := if s ∈ a then a.idxOf s + 1 else 0
theorem numOf_inj {a b : List α} : ∀ s ∈ a, ∀ t ∈ b, numOf a s = numOf a t → s = t := by
  intro s hs t _ h
  unfold numOf at h
  rw [if_pos hs] at h
  by_cases ht : t ∈ a
  · rw [if_pos ht] at h
    have e : a.idxOf s = a.idxOf t := by omega
    have h1 := List.getElem_idxOf (List.idxOf_lt_length_of_mem hs)
    have h2 := List.getElem_idxOf (List.idxOf_lt_length_of_mem ht)
    rw [← h1, ← h2]
    congr 1
  · rw [if_neg ht] at h; omega
theorem numOf_inj' {a b : List α} : ∀ s ∈ b, ∀ t ∈ a, numOf a s = numOf a t → s = t := fun s hs t ht h => (numOf_inj (b := b) t ht s hs h.symm).symm
end

section
variable {α : Type} [DecidableEq α]
/-- how many lines at the beginnings are equal -/
def pre : List α → List α → Nat
  | x :: xs, y :: ys => if x = y then pre xs ys + 1 else 0
  | _, _ => 0
/-- how many lines at the ends are equal -/
def suf (a b : List α) : Nat := pre a.reverse b.reverse
theorem pre_le : ∀ (a b : List α), pre a b ≤ a.length ∧ pre a b ≤ b.length
  | x :: xs, y :: ys => by
    have := pre_le xs ys
    unfold pre
    split <;> simp <;> omega
  | [], _ => by simp [pre]
  | _ :: _, [] => by simp [pre]
theorem suf_le (a b : List α) : suf a b ≤ a.length ∧ suf a b ≤ b.length := by
  have := pre_le a.reverse b.reverse
  simpa [suf] using this
/-- pre is the first place at which the lists part. -/
theorem pre_of : ∀ (a b : List α) (n : Nat), n ≤ a.length → n ≤ b.length → (∀ k (h1 : k < a.length) (h2 : k < b.length), k < n → a[k] = b[k]) → (∀ (h1 : n < a.length) (h2 : n < b.length), a[n] ≠ b[n]) → pre a b = n
  | x :: xs, y :: ys, 0, _, _, _, h => by
    have := h (by simp) (by simp)
    simp at this
    simp [pre, this]
  | x :: xs, y :: ys, n + 1, ha, hb, he, h => by
    have h0 := he 0 (by simp) (by simp) (by omega)
    have ih := pre_of xs ys n (by simpa using ha) (by simpa using hb) (fun k h1 h2 hk => he (k + 1) (by simpa using h1) (by simpa using h2) (by omega)) (fun h1 h2 => h (by simpa using h1) (by simpa using h2))
    simp at h0
    simp [pre, h0, ih]
  | [], _, n, ha, _, _, _ => by simp at ha; simp [pre, ha]
  | _ :: _, [], n, _, hb, _, _ => by simp at hb; simp [pre, hb]
theorem pre_at {a b : List α} {k : Nat} (hk : k < pre a b) (h1 : k < a.length) (h2 : k < b.length) : a[k] = b[k] := by
  induction a generalizing b k with
  | nil => simp at h1
  | cons x xs ih =>
    cases b with
    | nil => simp at h2
    | cons y ys =>
      unfold pre at hk
      split at hk
      · rename_i e
        cases k with
        | zero => simpa using e
        | succ k => simpa using ih (b := ys) (k := k) (by omega) (by simpa using h1) (by simpa using h2)
      · omega
theorem suf_of (a b : List α) (n : Nat) (ha : n ≤ a.length) (hb : n ≤ b.length) (he : ∀ k (_ : k < a.length) (_ : k < b.length), k < n → a[a.length - 1 - k] = b[b.length - 1 - k]) (h : ∀ (_ : n < a.length) (_ : n < b.length), a[a.length - 1 - n] ≠ b[b.length - 1 - n]) : suf a b = n := by
  refine pre_of _ _ n (by simpa using ha) (by simpa using hb) (fun k h1 h2 hk => ?_) fun h1 h2 => ?_
  · rw [List.getElem_reverse, List.getElem_reverse]
    exact he k (by simpa using h1) (by simpa using h2) hk
  · rw [List.getElem_reverse, List.getElem_reverse]
    exact h (by simpa using h1) (by simpa using h2)

/-- a hunk: the lines a0 to a1 become b0 to b1 -/
structure Hk where
  a0 : Nat
  a1 : Nat
  b0 : Nat
  b1 : Nat
/-- the hunk between two places, if there is something between them -/
def gap (i j i' j' : Nat) : List Hk := if i < i' ∨ j < j' then [⟨i, i', j, j'⟩] else []
/-- the hunks between the pairs; i and j are the places behind the last one -/
def gaps : Nat → Nat → List (Nat × Nat) → List Hk
  | _, _, [] => []
  | i, j, p :: t => gap i j p.1 p.2 ++ gaps (p.1 + 1) (p.2 + 1) t
/-- the pairs of lists that share no lines at the beginnings and ends; of long ones, none -/
def midPairs (x y : List α) : List (Nat × Nat) := if 4000000 < x.length * y.length then [] else walk x 0 y 0
def shift (p : Nat) (l : List (Nat × Nat)) : List (Nat × Nat) := l.map fun q => (p + q.1, p + q.2)
/-- the hunks of the alignment -/
def diff (a b : List α) : List Hk :=
  gaps (pre a b) (pre a b) (shift (pre a b) (midPairs (mid a (pre a b) (suf (a.drop (pre a b)) (b.drop (pre a b)))) (mid b (pre a b) (suf (a.drop (pre a b)) (b.drop (pre a b)))))
    ++ [(a.length - suf (a.drop (pre a b)) (b.drop (pre a b)), b.length - suf (a.drop (pre a b)) (b.drop (pre a b)))])
end

end Go.Proofs.Ytmeoannheomdoaa
