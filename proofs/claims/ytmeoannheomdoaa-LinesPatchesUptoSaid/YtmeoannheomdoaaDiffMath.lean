/- The difference of two lists with known beginnings and ends. -/
import Derived.Test.YtmeoannheomdoaaMergeMath
namespace Go.Proofs.Ytmeoannheomdoaa

theorem mid_app {α : Type} (p x s : List α) : mid (p ++ (x ++ s)) p.length s.length = x := by
  unfold mid
  rw [List.drop_left, List.length_append, List.length_append, show p.length + (x.length + s.length) - p.length - s.length = x.length by omega, List.take_left]
section
variable {α : Type} [DecidableEq α]
theorem pre_app : ∀ (p x y : List α), pre (p ++ x) (p ++ y) = p.length + pre x y
  | [], x, y => by simp
  | c :: p, x, y => by
    show pre (c :: (p ++ x)) (c :: (p ++ y)) = _
    rw [pre, if_pos rfl, pre_app p x y, List.length_cons]
    omega
theorem suf_app (s x y : List α) : suf (x ++ s) (y ++ s) = s.length + suf x y := by
  unfold suf
  rw [List.reverse_append, List.reverse_append, pre_app, List.length_reverse]
/-- lists that begin with p and end with s, and have no more equal lines there -/
theorem diff_parts (p x y s : List α) (h1 : pre (x ++ s) (y ++ s) = 0) (h2 : suf x y = 0) :
    diff (p ++ (x ++ s)) (p ++ (y ++ s)) = gaps p.length p.length (shift p.length (midPairs x y) ++ [(p.length + x.length, p.length + y.length)]) := by
  unfold diff
  have e1 : pre (p ++ (x ++ s)) (p ++ (y ++ s)) = p.length := by rw [pre_app, h1]; rfl
  rw [e1, List.drop_left, List.drop_left, suf_app, h2, Nat.add_zero, mid_app, mid_app]
  simp only [List.length_append]
  rw [show p.length + (x.length + s.length) - s.length = p.length + x.length by omega, show p.length + (y.length + s.length) - s.length = p.length + y.length by omega]
theorem pre_ne {a b : α} {x y : List α} (h : a ≠ b) : pre (a :: x) (b :: y) = 0 := by rw [pre, if_neg h]
theorem pre_nil (x : List α) : pre [] x = 0 := by cases x <;> rfl
theorem pre_nil' (x : List α) : pre x [] = 0 := by cases x <;> rfl
theorem suf_ne {a b : α} {x y : List α} (h : a ≠ b) : suf (x ++ [a]) (y ++ [b]) = 0 := by
  unfold suf
  rw [List.reverse_append, List.reverse_append]
  exact pre_ne h
theorem suf_nil (x : List α) : suf [] x = 0 := by unfold suf; rw [List.reverse_nil, pre_nil]
theorem suf_nil' (x : List α) : suf x [] = 0 := by unfold suf; rw [List.reverse_nil, pre_nil']

theorem lcs_none : ∀ (a b : List α), (∀ s ∈ a, ∀ t ∈ b, s ≠ t) → lcs a b = 0 := by
  intro a
  induction a with
  | nil => intro b _; rfl
  | cons x xs ih =>
    intro b
    induction b with
    | nil => intro _; rfl
    | cons y ys ihb =>
      intro h
      rw [lcs_cons, if_neg (h x (by simp) y (by simp)), ih (y :: ys) fun s hs t ht => h s (by simp [hs]) t ht, ihb fun s hs t ht => h s hs t (by simp [ht])]
      rfl
theorem walk_none : ∀ (a b : List α) (i j : Nat), (∀ s ∈ a, ∀ t ∈ b, s ≠ t) → walk a i b j = [] := by
  intro a
  induction a with
  | nil => intro b i j _; rfl
  | cons x xs ih =>
    intro b
    induction b with
    | nil => intro i j _; rfl
    | cons y ys ihb =>
      intro i j h
      rw [walk_cons, if_neg (h x (by simp) y (by simp)), ih (y :: ys) _ _ fun s hs t ht => h s (by simp [hs]) t ht, ihb _ _ fun s hs t ht => h s hs t (by simp [ht])]
      split <;> rfl

/- n lines a, the line m, more lines a; lines b, m, lines b -/
theorem lcs_mid0 {a b m : α} (hab : a ≠ b) (ham : a ≠ m) (hbm : b ≠ m) (n' : Nat) : ∀ (k k' : Nat), lcs (m :: List.replicate n' a) (List.replicate k b ++ m :: List.replicate k' b) = 1
  | 0, k' => by
    rw [List.replicate_zero, List.nil_append, lcs_cons, if_pos rfl, lcs_none]
    intro s hs t ht
    rw [List.eq_of_mem_replicate hs, List.eq_of_mem_replicate ht]; exact hab
  | k + 1, k' => by
    rw [List.replicate_succ, List.cons_append, lcs_cons, if_neg (fun e => hbm e.symm), lcs_mid0 hab ham hbm n' k k', lcs_none]
    · rfl
    · intro s hs t ht
      rw [List.eq_of_mem_replicate hs]
      rcases List.mem_cons.1 ht with rfl | ht
      · exact hab
      · rcases List.mem_append.1 ht with ht | ht
        · rw [List.eq_of_mem_replicate ht]; exact hab
        · rcases List.mem_cons.1 ht with rfl | ht
          · exact ham
          · rw [List.eq_of_mem_replicate ht]; exact hab
theorem lcs_mid {a b m : α} (hab : a ≠ b) (ham : a ≠ m) (hbm : b ≠ m) (n' k' : Nat) : ∀ (n k : Nat), lcs (List.replicate n a ++ m :: List.replicate n' a) (List.replicate k b ++ m :: List.replicate k' b) = 1 := by
  intro n
  induction n with
  | zero => intro k; rw [List.replicate_zero, List.nil_append]; exact lcs_mid0 hab ham hbm n' k k'
  | succ n ih =>
    intro k
    induction k with
    | zero =>
      have h0 := ih 0
      rw [List.replicate_zero, List.nil_append] at h0 ⊢
      rw [List.replicate_succ, List.cons_append, lcs_cons, if_neg ham, h0, lcs_none]
      · rfl
      · intro s hs t ht
        rw [List.eq_of_mem_replicate ht]
        rcases List.mem_cons.1 hs with rfl | hs
        · exact hab
        · rcases List.mem_append.1 hs with hs | hs
          · rw [List.eq_of_mem_replicate hs]; exact hab
          · rcases List.mem_cons.1 hs with rfl | hs
            · exact fun e => hbm e.symm
            · rw [List.eq_of_mem_replicate hs]; exact hab
    | succ k ihk =>
      have h1 := ih (k + 1)
      rw [List.replicate_succ, List.cons_append] at ihk
      rw [List.replicate_succ (n := k), List.cons_append] at h1 ⊢
      rw [List.replicate_succ (n := n), List.cons_append, lcs_cons, if_neg hab, h1, ihk]
      rfl
theorem walk_mid1 {a b m : α} (hab : a ≠ b) (ham : a ≠ m) (hbm : b ≠ m) (n' k' k : Nat) : ∀ (n i j : Nat), walk (List.replicate n a ++ m :: List.replicate n' a) i (List.replicate (k + 1) b ++ m :: List.replicate k' b) j = walk (m :: List.replicate n' a) (i + n) (List.replicate (k + 1) b ++ m :: List.replicate k' b) j
  | 0, i, j => by rw [List.replicate_zero, List.nil_append]; rfl
  | n + 1, i, j => by
    have ih := walk_mid1 hab ham hbm n' k' k n (i + 1) j
    have h1 := lcs_mid hab ham hbm n' k' n (k + 1)
    have h2 := lcs_mid hab ham hbm n' k' (n + 1) k
    rw [List.replicate_succ, List.cons_append] at h2
    rw [List.replicate_succ (n := k), List.cons_append] at h1 ih ⊢
    rw [List.replicate_succ (n := n), List.cons_append, walk_cons, if_neg hab, if_pos (by rw [h1, h2]; exact Nat.le_refl _), ih, show i + 1 + n = i + (n + 1) by omega]
theorem walk_mid2 {a b m : α} (hab : a ≠ b) (ham : a ≠ m) (hbm : b ≠ m) (n' k' : Nat) : ∀ (k i j : Nat), walk (m :: List.replicate n' a) i (List.replicate k b ++ m :: List.replicate k' b) j = [(i, j + k)]
  | 0, i, j => by
    rw [List.replicate_zero, List.nil_append, walk_cons, if_pos rfl, walk_none]
    · rfl
    · intro s hs t ht
      rw [List.eq_of_mem_replicate hs, List.eq_of_mem_replicate ht]; exact hab
  | k + 1, i, j => by
    have ih := walk_mid2 hab ham hbm n' k' k i (j + 1)
    have h1 := lcs_mid0 hab ham hbm n' k k'
    have h2 : lcs (List.replicate n' a) (b :: (List.replicate k b ++ m :: List.replicate k' b)) = 0 := by
      apply lcs_none
      intro s hs t ht
      rw [List.eq_of_mem_replicate hs]
      rcases List.mem_cons.1 ht with rfl | ht
      · exact hab
      · rcases List.mem_append.1 ht with ht | ht
        · rw [List.eq_of_mem_replicate ht]; exact hab
        · rcases List.mem_cons.1 ht with rfl | ht
          · exact ham
          · rw [List.eq_of_mem_replicate ht]; exact hab
    rw [List.replicate_succ, List.cons_append, walk_cons, if_neg (fun e => hbm e.symm), if_neg (by rw [h1, h2]; omega), ih, show j + 1 + k = j + (k + 1) by omega]
theorem walk_mid {a b m : α} (hab : a ≠ b) (ham : a ≠ m) (hbm : b ≠ m) (n' k' n k : Nat) : walk (List.replicate n a ++ m :: List.replicate n' a) 0 (List.replicate (k + 1) b ++ m :: List.replicate k' b) 0 = [(n, k + 1)] := by
  rw [walk_mid1 hab ham hbm, walk_mid2 hab ham hbm, Nat.zero_add, Nat.zero_add]
end
end Go.Proofs.Ytmeoannheomdoaa
