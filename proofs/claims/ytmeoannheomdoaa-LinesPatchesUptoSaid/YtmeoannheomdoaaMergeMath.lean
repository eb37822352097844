/- Merging, as functions on lists; what holds of the hunks of a difference. -/
import Derived.Test.YtmeoannheomdoaaRange
namespace Go.Proofs.Ytmeoannheomdoaa

section
variable {α : Type} [DecidableEq α]
/-- what the hunks of a group make of its range: a part of the side -/
def rangeOf (side : List α) (lo hi : Nat) (H : List Hk) : List α :=
  match H with
  | [] => []
  | x :: t => (side.drop (x.b0 + lo - x.a0)).take ((((x :: t).getLast (by simp)).b1 + hi - ((x :: t).getLast (by simp)).a1) - (x.b0 + lo - x.a0))
/-- what becomes of a group's range, or none if the sides part -/
def changed (left right : List α) (g : Gp) : Option (List α) :=
  if g.right.length = 0 then some (rangeOf left g.lo g.hi g.left)
  else if g.left.length = 0 then some (rangeOf right g.lo g.hi g.right)
  else if rangeOf left g.lo g.hi g.left = rangeOf right g.lo g.hi g.right then some (rangeOf left g.lo g.hi g.left) else none
structure Ms (α : Type) where
  merged : List α
  done : Nat
  conf : List (Nat × Nat)
def addG (base left right : List α) (m : Ms α) (g : Gp) : Ms α :=
  match changed left right g with
  | none => ⟨m.merged, m.done, m.conf ++ [(g.lo, g.hi)]⟩
  | some l => ⟨m.merged ++ (base.drop m.done).take (g.lo - m.done) ++ l, g.hi, m.conf⟩
def mergeG (base left right : List α) : List Gp → Ms α → Ms α
  | [], m => m
  | g :: t, m => mergeG base left right t (addG base left right m g)

/-- The hunks from the places i and j on: they increase, are not empty, and have as many lines of a as of b between them. -/
def Ok (n m : Nat) : Nat → Nat → List Hk → Prop
  | i, j, [] => i ≤ n ∧ j ≤ m ∧ n + j = m + i
  | i, j, h :: t => i ≤ h.a0 ∧ h.a0 + j = h.b0 + i ∧ h.a0 ≤ h.a1 ∧ h.b0 ≤ h.b1 ∧ (h.a0 < h.a1 ∨ h.b0 < h.b1) ∧ h.a1 ≤ n ∧ h.b1 ≤ m ∧ (∀ x, t.head? = some x → h.a1 < x.a0) ∧ Ok n m h.a1 h.b1 t
/-- the pairs from the places i and j on: they increase -/
def Inc : Nat → Nat → List (Nat × Nat) → Prop
  | _, _, [] => True
  | i, j, q :: t => i ≤ q.1 ∧ j ≤ q.2 ∧ Inc (q.1 + 1) (q.2 + 1) t
theorem Inc.more : ∀ {l : List (Nat × Nat)} {i j i' j' : Nat}, Inc i j l → i' ≤ i → j' ≤ j → Inc i' j' l
  | [], _, _, _, _, _, _, _ => trivial
  | q :: t, _, _, _, _, h, h1, h2 => ⟨Nat.le_trans h1 h.1, Nat.le_trans h2 h.2.1, h.2.2⟩
theorem walk_inc : ∀ (a : List α) (i : Nat) (b : List α) (j : Nat), Inc i j (walk a i b j) := by
  intro a
  induction a with
  | nil => intro i b j; trivial
  | cons x xs ih =>
    intro i b
    induction b with
    | nil => intro j; trivial
    | cons y ys ihb =>
      intro j
      rw [walk_cons]
      split
      · exact ⟨Nat.le_refl _, Nat.le_refl _, ih _ _ _⟩
      · split
        · exact (ih (i + 1) (y :: ys) j).more (by omega) (Nat.le_refl _)
        · exact (ihb (j + 1)).more (Nat.le_refl _) (by omega)
theorem mid_inc (a b : List α) : Inc 0 0 (midPairs a b) := by
  unfold midPairs
  split
  · trivial
  · exact walk_inc _ _ _ _
theorem shift_inc (p : Nat) : ∀ {l : List (Nat × Nat)} {i j : Nat}, Inc i j l → Inc (p + i) (p + j) (shift p l)
  | [], _, _, _ => trivial
  | q :: t, _, _, h => ⟨by show _ ≤ p + q.1; have := h.1; omega, by show _ ≤ p + q.2; have := h.2.1; omega, shift_inc p h.2.2⟩
/-- Increasing pairs give hunks that are in order. -/
theorem gaps_ok (n m s : Nat) (hs1 : s ≤ n) (hs2 : s ≤ m) : ∀ (l : List (Nat × Nat)) (i j i0 j0 : Nat), Inc i j l → (∀ q ∈ l, q.1 < n - s ∧ q.2 < m - s) → i ≤ n - s → j ≤ m - s → i0 ≤ i → i + j0 = j + i0 →
    Ok n m i0 j0 (gaps i j (l ++ [(n - s, m - s)])) ∧ ∀ x, (gaps i j (l ++ [(n - s, m - s)])).head? = some x → i ≤ x.a0
  | [], i, j, i0, j0, _, _, hi, hj, h0, he => by
    simp only [List.nil_append, gaps, List.append_nil]
    unfold gap
    split
    · refine ⟨⟨h0, by show i + j0 = j + i0; exact he, hi, hj, by assumption, by show n - s ≤ n; omega, by show m - s ≤ m; omega, fun x hx => by simp at hx, by show n - s ≤ n; omega, by show m - s ≤ m; omega, by show n + (m - s) = m + (n - s); omega⟩, fun x hx => ?_⟩
      simp at hx
      subst hx
      exact Nat.le_refl _
    · exact ⟨⟨by omega, by omega, by omega⟩, fun x hx => by simp at hx⟩
  | q :: t, i, j, i0, j0, hI, hq, hi, hj, h0, he => by
    have hq0 := hq q (List.mem_cons_self)
    obtain ⟨h1, h2, h3⟩ := hI
    rw [List.cons_append, gaps]
    unfold gap
    split
    · obtain ⟨k1, k2⟩ := gaps_ok n m s hs1 hs2 t (q.1 + 1) (q.2 + 1) q.1 q.2 h3 (fun x hx => hq x (List.mem_cons_of_mem _ hx)) (by omega) (by omega) (by omega) (by omega)
      refine ⟨⟨h0, by show i + j0 = j + i0; exact he, h1, h2, by assumption, by show q.1 ≤ n; omega, by show q.2 ≤ m; omega, fun x hx => ?_, k1⟩, fun x hx => ?_⟩
      · have := k2 x hx
        show q.1 < x.a0
        omega
      · simp at hx
        subst hx
        exact Nat.le_refl _
    · obtain ⟨k1, k2⟩ := gaps_ok n m s hs1 hs2 t (q.1 + 1) (q.2 + 1) i0 j0 h3 (fun x hx => hq x (List.mem_cons_of_mem _ hx)) (by omega) (by omega) (by omega) (by omega)
      exact ⟨k1, fun x hx => by have := k2 x hx; omega⟩
theorem diff_ok (a b : List α) : Ok a.length b.length 0 0 (diff a b) := by
  unfold diff
  obtain ⟨p, hp⟩ : ∃ p, pre a b = p := ⟨_, rfl⟩
  obtain ⟨hpa, hpb⟩ := pre_le a b
  rw [hp] at hpa hpb ⊢
  obtain ⟨s, hs⟩ : ∃ s, suf (a.drop p) (b.drop p) = s := ⟨_, rfl⟩
  obtain ⟨hsa, hsb⟩ := suf_le (a.drop p) (b.drop p)
  rw [hs] at hsa hsb ⊢
  rw [List.length_drop] at hsa hsb
  refine (gaps_ok a.length b.length s (by omega) (by omega) _ p p 0 0 ?_ ?_ (by omega) (by omega) (by omega) rfl).1
  · have := shift_inc p (mid_inc (mid a p s) (mid b p s))
    exact this
  · intro q hq
    unfold shift at hq
    obtain ⟨x, hx, rfl⟩ := List.mem_map.1 hq
    have := mid_mem hx
    rw [mid_len, mid_len] at this
    dsimp only
    omega
end

end Go.Proofs.Ytmeoannheomdoaa
