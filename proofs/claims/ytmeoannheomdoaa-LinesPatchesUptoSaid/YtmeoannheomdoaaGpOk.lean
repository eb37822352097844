/- The groups of two differences lie in order, and their ranges in the sides. -/
import Derived.Test.YtmeoannheomdoaaMergeMath
namespace Go.Proofs.Ytmeoannheomdoaa

theorem Ok.bounds : ∀ {H : List Hk} {n m i j : Nat}, Ok n m i j H → i ≤ n ∧ j ≤ m
  | [], _, _, _, _, h => ⟨h.1, h.2.1⟩
  | x :: t, n, m, i, j, h => by
    obtain ⟨h1, h2, h3, h4, h5, h6, h7, _⟩ := h
    exact ⟨by omega, by omega⟩
theorem Ok.mem : ∀ {H : List Hk} {n m i j : Nat}, Ok n m i j H → ∀ x ∈ H, x.a1 ≤ n ∧ x.b1 ≤ m ∧ i ≤ x.a0 ∧ x.a0 ≤ x.a1 ∧ x.b0 ≤ x.b1
  | [], _, _, _, _, _ => fun x hx => by simp at hx
  | y :: t, n, m, i, j, h => fun x hx => by
    obtain ⟨h1, h2, h3, h4, h5, h6, h7, _, h9⟩ := h
    rcases List.mem_cons.1 hx with rfl | hx
    · exact ⟨h6, h7, h1, h3, h4⟩
    · obtain ⟨k1, k2, k3, k4⟩ := h9.mem x hx
      exact ⟨k1, k2, by omega, k4⟩
theorem headIn_lt {u : Nat} {H : List Hk} (h : headIn u H = none) : ∀ x, H.head? = some x → u < x.a0 := fun x hx => by
  cases H with
  | nil => simp at hx
  | cons y t =>
    simp at hx
    subst hx
    exact headIn_none h
/-- On along lines that are paired. -/
theorem Ok.on {H : List Hk} {n m i j k : Nat} (h : Ok n m i j H) (hk : i ≤ k) (hn : k ≤ n) (hH : ∀ x, H.head? = some x → k ≤ x.a0) : Ok n m k (j + (k - i)) H ∧ j + (k - i) ≤ m := by
  cases H with
  | nil =>
    obtain ⟨h1, h2, h3⟩ := h
    exact ⟨⟨hn, by omega, by omega⟩, by omega⟩
  | cons x t =>
    have := hH x rfl
    obtain ⟨h1, h2, h3, h4, h5, h6, h7, h8⟩ := h
    exact ⟨⟨this, by omega, h3, h4, h5, h6, h7, h8⟩, by omega⟩
/-- The hunks of one side in a group: where its range begins and ends in the side. -/
theorem side_ok : ∀ {H : List Hk} {n m i j lo hi I : Nat}, Ok n m i j H → i ≤ lo → lo ≤ hi → hi ≤ n → I ≤ H.length → (∀ x, H.head? = some x → 0 < I → lo ≤ x.a0) → (∀ x ∈ H.take I, x.a1 ≤ hi) → headIn hi (H.drop I) = none →
    ∃ t, Ok n m hi t (H.drop I) ∧ j + (lo - i) ≤ t ∧ t ≤ m ∧ (I = 0 → t = j + (hi - i)) ∧
      (0 < I → ∃ x y, (H.take I)[0]? = some x ∧ (H.take I).getLast? = some y ∧ (j + (lo - i)) + x.a0 = x.b0 + lo ∧ t + y.a1 = y.b1 + hi)
  | H, n, m, i, j, lo, hi, 0, h, h1, h2, h3, _, _, _, hN => by
    obtain ⟨k1, k2⟩ := h.on (k := hi) (by omega) h3 (fun x hx => by have := headIn_lt (H := H) (by simpa using hN) x hx; omega)
    exact ⟨j + (hi - i), by simpa using k1, by omega, k2, fun _ => rfl, fun h => by omega⟩
  | [], _, _, _, _, _, _, I + 1, _, _, _, _, hI, _, _, _ => by simp at hI
  | x :: t, n, m, i, j, lo, hi, I + 1, h, h1, h2, h3, hI, hx, hall, hN => by
    obtain ⟨g1, g2, g3, g4, g5, g6, g7, g8, g9⟩ := h
    have hx0 := hx x rfl (by omega)
    have hxa := hall x (by simp)
    rw [List.drop_succ_cons] at hN ⊢
    obtain ⟨t', k1, k2, k3, k4, k5⟩ := side_ok (lo := x.a1) (hi := hi) (I := I) g9 (Nat.le_refl _) hxa h3 (by simpa using hI) (fun y hy _ => by have := g8 y hy; omega) (fun y hy => hall y (by simp [hy])) hN
    rw [Nat.sub_self, Nat.add_zero] at k2
    refine ⟨t', k1, by omega, k3, fun e => by omega, fun _ => ?_⟩
    rcases Nat.eq_zero_or_pos I with h0 | h0
    · subst h0
      have := k4 rfl
      exact ⟨x, x, by simp, by simp, by omega, by omega⟩
    · obtain ⟨_, y, _, q2, _, q4⟩ := k5 h0
      refine ⟨x, y, by simp, ?_, by omega, q4⟩
      rw [List.take_succ_cons]
      cases htk : t.take I with
      | nil => rw [htk] at q2; simp at q2
      | cons z u => rw [htk] at q2; rw [List.getLast?_cons_cons]; exact q2

theorem grow_spec : ∀ (n u : Nat) (l r : List Hk), l.length + r.length ≤ n →
    (∀ x ∈ l.take (grow n u l r).2.1, x.a1 ≤ (grow n u l r).1) ∧ (∀ x ∈ r.take (grow n u l r).2.2, x.a1 ≤ (grow n u l r).1) ∧ headIn (grow n u l r).1 (l.drop (grow n u l r).2.1) = none ∧ headIn (grow n u l r).1 (r.drop (grow n u l r).2.2) = none ∧
      ∀ N, u ≤ N → (∀ x ∈ l, x.a1 ≤ N) → (∀ x ∈ r, x.a1 ≤ N) → (grow n u l r).1 ≤ N
  | 0, u, l, r, h => by
    have h1 : l = [] := List.eq_nil_of_length_eq_zero (by omega)
    have h2 : r = [] := List.eq_nil_of_length_eq_zero (by omega)
    subst h1 h2
    exact ⟨fun x hx => by simp at hx, fun x hx => by simp at hx, rfl, rfl, fun N hu _ _ => hu⟩
  | n + 1, u, l, r, h => by
    cases hl : headIn u l with
    | some x =>
      obtain ⟨t, rfl, hx⟩ := headIn_some hl
      obtain ⟨k1, k2, k3, k4, k5⟩ := grow_spec n (max u x.a1) t r (by simp at h; omega)
      obtain ⟨_, _, hle⟩ := grow_le n (max u x.a1) t r
      rw [grow_left n u x t r hx]
      refine ⟨fun y hy => ?_, k2, by rw [List.drop_succ_cons]; exact k3, k4, fun N hu hl hr => k5 N (by have := hl x (by simp); omega) (fun y hy => hl y (by simp [hy])) hr⟩
      rw [List.take_succ_cons] at hy
      rcases List.mem_cons.1 hy with rfl | hy
      · show y.a1 ≤ _; dsimp only; omega
      · exact k1 y hy
    | none =>
      cases hr : headIn u r with
      | some x =>
        obtain ⟨t, rfl, hx⟩ := headIn_some hr
        obtain ⟨k1, k2, k3, k4, k5⟩ := grow_spec n (max u x.a1) l t (by simp at h; omega)
        obtain ⟨_, _, hle⟩ := grow_le n (max u x.a1) l t
        rw [grow_right n u l x t hl hx]
        refine ⟨k1, fun y hy => ?_, k3, by rw [List.drop_succ_cons]; exact k4, fun N hu hl hr => k5 N (by have := hr x (by simp); omega) hl (fun y hy => hr y (by simp [hy]))⟩
        rw [List.take_succ_cons] at hy
        rcases List.mem_cons.1 hy with rfl | hy
        · show y.a1 ≤ _; dsimp only; omega
        · exact k2 y hy
      | none =>
        rw [grow_stop (n + 1) u l r hl hr]
        exact ⟨fun x hx => by simp at hx, fun x hx => by simp at hx, by simpa using hl, by simpa using hr, fun N hu _ _ => hu⟩

def SideOk (m lo hi s t : Nat) (H : List Hk) : Prop :=
  s ≤ t ∧ t ≤ m ∧ (0 < H.length → ∃ x y, H[0]? = some x ∧ H.getLast? = some y ∧ s + x.a0 = x.b0 + lo ∧ t + y.a1 = y.b1 + hi)
/-- The groups from the places i, jl, jr on. -/
def GpsOk (n ml mr : Nat) : Nat → Nat → Nat → List Gp → Prop
  | i, jl, jr, [] => i ≤ n ∧ n + jl = ml + i ∧ n + jr = mr + i
  | i, jl, jr, g :: t => i ≤ g.lo ∧ g.lo ≤ g.hi ∧ g.hi ≤ n ∧ 0 < g.left.length + g.right.length ∧ (∀ x ∈ g.left, x.a1 ≤ n ∧ x.b1 ≤ ml ∧ x.a0 ≤ x.a1 ∧ x.b0 ≤ x.b1) ∧ (∀ x ∈ g.right, x.a1 ≤ n ∧ x.b1 ≤ mr ∧ x.a0 ≤ x.a1 ∧ x.b0 ≤ x.b1) ∧
      ∃ tl tr, SideOk ml g.lo g.hi (jl + (g.lo - i)) tl g.left ∧ SideOk mr g.lo g.hi (jr + (g.lo - i)) tr g.right ∧ (g.left.length = 0 → tl = jl + (g.hi - i)) ∧ (g.right.length = 0 → tr = jr + (g.hi - i)) ∧ GpsOk n ml mr g.hi tl tr t
theorem least_le (l r : List Hk) (h : 0 < l.length + r.length) : (∀ x, l.head? = some x → least l r ≤ x.a0) ∧ (∀ x, r.head? = some x → least l r ≤ x.a0) ∧ ((∃ x, l.head? = some x ∧ least l r = x.a0) ∨ (∃ x, r.head? = some x ∧ least l r = x.a0)) := by
  match l, r, h with
  | [], [], h => simp at h
  | [], y :: t, _ => exact ⟨fun x hx => by simp at hx, fun x hx => by simp at hx; subst hx; exact Nat.le_refl _, .inr ⟨y, rfl, rfl⟩⟩
  | x :: t, [], _ => exact ⟨fun y hy => by simp at hy; subst hy; exact Nat.le_refl _, fun x hx => by simp at hx, .inl ⟨x, rfl, rfl⟩⟩
  | x :: t, y :: u, _ =>
    refine ⟨fun z hz => by simp at hz; subst hz; exact Nat.min_le_left _ _, fun z hz => by simp at hz; subst hz; exact Nat.min_le_right _ _, ?_⟩
    rcases Nat.le_total x.a0 y.a0 with hh | hh
    · exact .inl ⟨x, rfl, Nat.min_eq_left hh⟩
    · exact .inr ⟨y, rfl, Nat.min_eq_right hh⟩
theorem gps_ok (n ml mr : Nat) : ∀ (f i jl jr : Nat) (l r : List Hk), l.length + r.length ≤ f → Ok n ml i jl l → Ok n mr i jr r → GpsOk n ml mr i jl jr (gps f l r)
  | 0, i, jl, jr, l, r, hf, hl, hr => by
    have h1 : l = [] := List.eq_nil_of_length_eq_zero (by omega)
    have h2 : r = [] := List.eq_nil_of_length_eq_zero (by omega)
    subst h1 h2
    exact ⟨hl.1, hl.2.2, hr.2.2⟩
  | f + 1, i, jl, jr, l, r, hf, hl, hr => by
    rw [gps]
    split
    · have h1 : l = [] := List.eq_nil_of_length_eq_zero (by omega)
      have h2 : r = [] := List.eq_nil_of_length_eq_zero (by omega)
      subst h1 h2
      exact ⟨hl.1, hl.2.2, hr.2.2⟩
    · rename_i hz
      obtain ⟨q1, q2, q3⟩ := least_le l r (by omega)
      obtain ⟨k1, k2, k3, k4, k5⟩ := grow_spec (l.length + r.length) (least l r) l r (Nat.le_refl _)
      obtain ⟨e1, e2, e3⟩ := grow_le (l.length + r.length) (least l r) l r
      have hpos := grown_pos (l := l) (r := r) (by omega)
      have hil : i ≤ least l r := by
        rcases q3 with ⟨x, hx, e⟩ | ⟨x, hx, e⟩
        · have := (hl.mem x (List.mem_of_mem_head? hx)).2.2.1; omega
        · have := (hr.mem x (List.mem_of_mem_head? hx)).2.2.1; omega
      have hln : least l r ≤ n := by
        rcases q3 with ⟨x, hx, e⟩ | ⟨x, hx, e⟩
        · have := hl.mem x (List.mem_of_mem_head? hx); omega
        · have := hr.mem x (List.mem_of_mem_head? hx); omega
      have hTn := k5 n hln (fun x hx => (hl.mem x hx).1) (fun x hx => (hr.mem x hx).1)
      change (grown l r).1 ≤ n at hTn
      change (∀ x ∈ l.take (grown l r).2.1, x.a1 ≤ (grown l r).1) at k1
      change (∀ x ∈ r.take (grown l r).2.2, x.a1 ≤ (grown l r).1) at k2
      change headIn (grown l r).1 (l.drop (grown l r).2.1) = none at k3
      change headIn (grown l r).1 (r.drop (grown l r).2.2) = none at k4
      change (grown l r).2.1 ≤ l.length at e1
      change (grown l r).2.2 ≤ r.length at e2
      change least l r ≤ (grown l r).1 at e3
      obtain ⟨tl, a1, a2, a3, a4, a5⟩ := side_ok hl hil e3 hTn e1 (fun x hx _ => q1 x hx) k1 k3
      obtain ⟨tr, b1, b2, b3, b4, b5⟩ := side_ok hr hil e3 hTn e2 (fun x hx _ => q2 x hx) k2 k4
      have hlL : (firstGp l r).left.length = (grown l r).2.1 := by unfold firstGp; simp; omega
      have hlR : (firstGp l r).right.length = (grown l r).2.2 := by unfold firstGp; simp; omega
      refine ⟨hil, e3, hTn, by rw [hlL, hlR]; exact hpos, fun x hx => ?_, fun x hx => ?_, tl, tr, ⟨a2, a3, fun h => a5 (by rw [hlL] at h; exact h)⟩, ⟨b2, b3, fun h => b5 (by rw [hlR] at h; exact h)⟩, fun h => a4 (by rw [hlL] at h; exact h), fun h => b4 (by rw [hlR] at h; exact h), ?_⟩
      · have := hl.mem x (List.mem_of_mem_take hx); exact ⟨this.1, this.2.1, this.2.2.2⟩
      · have := hr.mem x (List.mem_of_mem_take hx); exact ⟨this.1, this.2.1, this.2.2.2⟩
      · exact gps_ok n ml mr f _ _ _ _ _ (by simp; omega) a1 b1

end Go.Proofs.Ytmeoannheomdoaa
