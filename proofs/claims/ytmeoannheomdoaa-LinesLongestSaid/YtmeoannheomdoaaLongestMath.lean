/- The number of pairs of an alignment is the length of the longest common subsequence. -/
import Derived.Test.YtmeoannheomdoaaPairsMath
namespace Go.Proofs.Ytmeoannheomdoaa
/-- how many lines of the first list hunks name -/
def cutN : List Hk → Nat
  | [] => 0
  | h :: t => (h.a1 - h.a0) + cutN t
theorem cutN_app : ∀ (P Q : List Hk), cutN (P ++ Q) = cutN P + cutN Q
  | [], Q => by simp [cutN]
  | h :: t, Q => by rw [List.cons_append, cutN, cutN, cutN_app t Q]; omega
theorem gaps_cut (n m : Nat) : ∀ (P : List (Nat × Nat)) (i j : Nat), Inc i j P → (∀ q ∈ P, q.1 < n ∧ q.2 < m) → i ≤ n → cutN (gaps i j (P ++ [(n, m)])) + P.length = n - i
  | [], i, j, _, _, hi => by
    simp only [List.nil_append, gaps, List.append_nil]
    unfold gap
    split
    · simp [cutN]
    · simp [cutN]; omega
  | q :: P, i, j, h, hq, hi => by
    have h0 := hq q (by simp)
    have := gaps_cut n m P (q.1 + 1) (q.2 + 1) h.2.2 (fun z hz => hq z (by simp [hz])) (by omega)
    have h1 := h.1
    have h2 := h.2.1
    rw [List.cons_append, gaps, cutN_app, List.length_cons]
    have hg : cutN (gap i j q.1 q.2) = q.1 - i := by
      unfold gap
      split
      · simp [cutN]
      · simp [cutN]; omega
    omega
theorem cutN_take (H : List Hk) (k : Nat) (hk : k < H.length) : cutN (H.take (k + 1)) = cutN (H.take k) + (H[k].a1 - H[k].a0) := by
  rw [List.take_succ_eq_append_getElem hk, cutN_app]
  simp [cutN]
theorem cutN_le (H : List Hk) (k : Nat) : cutN (H.take k) ≤ cutN H := by
  have := cutN_app (H.take k) (H.drop k)
  rw [List.take_append_drop] at this
  omega
theorem drop_last_sub {α : Type} {c x : List α} {z : α} (h : c.Sublist (x ++ [z])) : c.dropLast.Sublist x := by
  obtain ⟨c1, c2, rfl, h1, h2⟩ := List.sublist_append_iff.1 h
  cases c2 with
  | nil => rw [List.append_nil]; exact (List.dropLast_sublist _).trans h1
  | cons u t =>
    have ht : t = [] := by
      have := h2.length_le
      simp at this
      exact this
    subst ht
    rw [List.dropLast_concat]
    exact h1
section
variable {α : Type} [DecidableEq α]
theorem walk_len : ∀ (a b : List α) (i j : Nat), (walk a i b j).length = lcs a b := by
  intro a
  induction a with
  | nil => intro b i j; rfl
  | cons x xs ih =>
    intro b
    induction b with
    | nil => intro i j; rfl
    | cons y ys ihb =>
      intro i j
      rw [walk_cons, lcs_cons]
      split
      · rw [List.length_cons, ih]
      · split
        · rw [ih, Nat.max_eq_left (by assumption)]
        · rw [ihb, Nat.max_eq_right (by omega)]
theorem lcs_sub : ∀ (a b c : List α), c.Sublist a → c.Sublist b → c.length ≤ lcs a b := by
  intro a
  induction a with
  | nil => intro b c h _; rw [List.sublist_nil.1 h]; exact Nat.zero_le _
  | cons x xs ih =>
    intro b
    induction b with
    | nil => intro c _ h; rw [List.sublist_nil.1 h]; exact Nat.zero_le _
    | cons y ys ihb =>
      intro c h1 h2
      rw [lcs_cons]
      split
      · have := ih ys c.tail (by simpa using h1.tail) (by simpa using h2.tail)
        rw [List.length_tail] at this
        omega
      · rename_i hne
        rcases List.sublist_cons_iff.1 h1 with h | ⟨r, rfl, h⟩
        · exact Nat.le_trans (ih _ _ h h2) (Nat.le_max_left _ _)
        · rcases List.sublist_cons_iff.1 h2 with h' | ⟨r', e, h'⟩
          · exact Nat.le_trans (ihb _ h1 h') (Nat.le_max_right _ _)
          · exact absurd (List.cons.inj e).1 hne
theorem lcs_is : ∀ (a b : List α), ∃ c : List α, c.Sublist a ∧ c.Sublist b ∧ c.length = lcs a b := by
  intro a
  induction a with
  | nil => intro b; exact ⟨[], List.nil_sublist _, List.nil_sublist _, rfl⟩
  | cons x xs ih =>
    intro b
    induction b with
    | nil => exact ⟨[], List.nil_sublist _, List.nil_sublist _, rfl⟩
    | cons y ys ihb =>
      rw [lcs_cons]
      split
      · rename_i he
        subst he
        obtain ⟨c, h1, h2, h3⟩ := ih ys
        exact ⟨x :: c, h1.cons_cons x, h2.cons_cons x, by rw [List.length_cons, h3]⟩
      · rcases Nat.le_total (lcs xs (y :: ys)) (lcs (x :: xs) ys) with h | h
        · obtain ⟨c, h1, h2, h3⟩ := ihb
          exact ⟨c, h1, h2.cons y, by rw [Nat.max_eq_right h]; exact h3⟩
        · obtain ⟨c, h1, h2, h3⟩ := ih (y :: ys)
          exact ⟨c, h1.cons x, h2, by rw [Nat.max_eq_left h]; exact h3⟩
theorem lcs_pre : ∀ (p a b : List α), lcs (p ++ a) (p ++ b) = p.length + lcs a b
  | [], a, b => by simp
  | x :: p, a, b => by
    rw [List.cons_append, List.cons_append, lcs_cons, if_pos rfl, lcs_pre p, List.length_cons]
    omega
theorem lcs_snoc (x y : List α) (z : α) : lcs (x ++ [z]) (y ++ [z]) = lcs x y + 1 := by
  refine Nat.le_antisymm ?_ ?_
  · obtain ⟨c, h1, h2, h3⟩ := lcs_is (x ++ [z]) (y ++ [z])
    have := lcs_sub x y c.dropLast (drop_last_sub h1) (drop_last_sub h2)
    rw [List.length_dropLast] at this
    omega
  · obtain ⟨c, h1, h2, h3⟩ := lcs_is x y
    have := lcs_sub (x ++ [z]) (y ++ [z]) (c ++ [z]) (h1.append (List.Sublist.refl _)) (h2.append (List.Sublist.refl _))
    rw [List.length_append, h3] at this
    exact this
theorem lcs_suf : ∀ (s x y : List α), lcs (x ++ s) (y ++ s) = lcs x y + s.length
  | [], x, y => by simp
  | z :: s, x, y => by
    rw [List.append_cons x z s, List.append_cons y z s, lcs_suf s, lcs_snoc, List.length_cons]
    omega
theorem all_len (a b : List α) (h : a.length * b.length ≤ 4000000) : (allP a b).length = lcs a b := by
  obtain ⟨p1, p2⟩ := pre_le a b
  have hp := pre_take a b
  obtain ⟨s1, s2⟩ := suf_le (a.drop (pre a b)) (b.drop (pre a b))
  have hs := suf_drop (a.drop (pre a b)) (b.drop (pre a b))
  unfold allP
  obtain ⟨p, hpe⟩ : ∃ p, pre a b = p := ⟨_, rfl⟩
  rw [hpe] at p1 p2 hp s1 s2 hs ⊢
  obtain ⟨s, hse⟩ : ∃ s, suf (a.drop p) (b.drop p) = s := ⟨_, rfl⟩
  rw [hse] at s1 s2 hs ⊢
  have ea : a = a.take p ++ (mid a p s ++ (a.drop p).drop ((a.drop p).length - s)) := by
    unfold mid
    rw [show a.length - p - s = (a.drop p).length - s by rw [List.length_drop], List.take_append_drop, List.take_append_drop]
  have eb : b = a.take p ++ (mid b p s ++ (a.drop p).drop ((a.drop p).length - s)) := by
    rw [hp, hs]
    unfold mid
    rw [show b.length - p - s = (b.drop p).length - s by rw [List.length_drop], List.take_append_drop, List.take_append_drop]
  have hl : lcs a b = p + (lcs (mid a p s) (mid b p s) + s) := by
    have : lcs a b = lcs (a.take p ++ (mid a p s ++ (a.drop p).drop ((a.drop p).length - s))) (a.take p ++ (mid b p s ++ (a.drop p).drop ((a.drop p).length - s))) := by
      rw [← ea, ← eb]
    rw [this, lcs_pre, lcs_suf, List.length_take, List.length_drop, List.length_drop]
    rw [List.length_drop] at s1
    omega
  have hm : ¬ 4000000 < (mid a p s).length * (mid b p s).length := by
    rw [mid_len, mid_len]
    have := Nat.mul_le_mul (show a.length - p - s ≤ a.length by omega) (show b.length - p - s ≤ b.length by omega)
    omega
  rw [hl, List.length_append, List.length_append]
  unfold midPairs diag shift
  rw [if_neg hm, List.length_map, List.length_map, List.length_map, walk_len, List.length_range, List.length_range]
theorem longest (a b : List α) (h : a.length * b.length ≤ 4000000) : cutN (diff a b) + lcs a b = a.length := by
  rw [diff_all, ← all_len a b h]
  obtain ⟨h1, h2⟩ := all_inc a b
  exact gaps_cut a.length b.length _ 0 0 h1 h2 (Nat.zero_le _)
end
end Go.Proofs.Ytmeoannheomdoaa
