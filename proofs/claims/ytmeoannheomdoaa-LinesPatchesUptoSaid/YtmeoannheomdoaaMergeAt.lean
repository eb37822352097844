/- The merger's state, group by group. -/
import Derived.Test.YtmeoannheomdoaaGpOk
namespace Go.Proofs.Ytmeoannheomdoaa

theorem range_len {α : Type} (side : List α) {lo hi s t : Nat} {H : List Hk} (hO : SideOk side.length lo hi s t H) (hp : 0 < H.length) : (rangeOf side lo hi H).length = t - s := by
  obtain ⟨hst, htm, hxy⟩ := hO
  obtain ⟨x, y, hx, hy, h1, h2⟩ := hxy hp
  cases H with
  | nil => simp at hp
  | cons z u =>
    simp at hx
    subst hx
    rw [List.getLast?_eq_some_getLast (by simp)] at hy
    injection hy with hy
    unfold rangeOf
    dsimp only
    rw [hy, show z.b0 + lo - z.a0 = s by omega, show y.b1 + hi - y.a1 = t by omega]
    simp
    omega
theorem gps_len : ∀ (f : Nat) (l r : List Hk), (gps f l r).length ≤ f
  | 0, _, _ => by simp [gps]
  | f + 1, l, r => by
    rw [gps]
    split
    · simp
    · have := gps_len f (l.drop (grown l r).2.1) (r.drop (grown l r).2.2)
      simp
      exact this
theorem gps_mem : ∀ (f : Nat) (l r : List Hk) (g : Gp), g ∈ gps f l r → g.left.length ≤ l.length ∧ g.right.length ≤ r.length
  | 0, _, _, g, h => by simp [gps] at h
  | f + 1, l, r, g, h => by
    rw [gps] at h
    split at h
    · simp at h
    · rcases List.mem_cons.1 h with rfl | h
      · unfold firstGp
        simp
        omega
      · have := gps_mem f _ _ g h
        simp at this
        omega
theorem diff_len {α : Type} [DecidableEq α] (a b : List α) : (diff a b).length ≤ a.length + 1 := by
  unfold diff
  refine Nat.le_trans (gaps_len _ _ _) ?_
  have := midPairs_len (mid a (pre a b) (suf (a.drop (pre a b)) (b.drop (pre a b)))) (mid b (pre a b) (suf (a.drop (pre a b)) (b.drop (pre a b))))
  rw [mid_len] at this
  rw [List.length_append]
  unfold shift
  simp
  omega

section
variable {α : Type} [DecidableEq α] {base left right : List α}
/-- what holds of the merger at the places i, jl, jr -/
def MsOk (i jl jr : Nat) (m : Ms α) : Prop := m.done ≤ i ∧ m.merged.length ≤ m.done + jl + jr
theorem changed_len {i jl jr tl tr : Nat} {g : Gp} {l : List α} (hpos : 0 < g.left.length + g.right.length) (h1 : SideOk left.length g.lo g.hi (jl + (g.lo - i)) tl g.left) (h2 : SideOk right.length g.lo g.hi (jr + (g.lo - i)) tr g.right) (h : changed left right g = some l) :
    l.length + jl + jr ≤ tl + tr := by
  have hs1 := h1.1
  have hs2 := h2.1
  unfold changed at h
  split at h
  · injection h with h
    subst h
    rw [range_len left h1 (by omega)]
    omega
  · split at h
    · injection h with h
      subst h
      rw [range_len right h2 (by omega)]
      omega
    · split at h
      · injection h with h
        subst h
        rw [range_len left h1 (by omega)]
        omega
      · cases h
theorem msOk_step {i jl jr tl tr : Nat} {g : Gp} {m : Ms α} (hm : MsOk i jl jr m) (hi : i ≤ g.lo) (hlh : g.lo ≤ g.hi) (hpos : 0 < g.left.length + g.right.length) (h1 : SideOk left.length g.lo g.hi (jl + (g.lo - i)) tl g.left) (h2 : SideOk right.length g.lo g.hi (jr + (g.lo - i)) tr g.right) :
    MsOk g.hi tl tr (addG base left right m g) ∧ (addG base left right m g).conf.length ≤ m.conf.length + 1 := by
  obtain ⟨d1, d2⟩ := hm
  have hs1 := h1.1
  have hs2 := h2.1
  unfold addG
  cases hc : changed left right g with
  | none => exact ⟨⟨by show m.done ≤ g.hi; omega, by show m.merged.length ≤ m.done + tl + tr; omega⟩, by simp⟩
  | some l =>
    have hl := changed_len hpos h1 h2 hc
    refine ⟨⟨Nat.le_refl _, ?_⟩, by simp⟩
    show (m.merged ++ (base.drop m.done).take (g.lo - m.done) ++ l).length ≤ g.hi + tl + tr
    rw [List.length_append, List.length_append, List.length_take]
    omega
theorem merge_at : ∀ (T : List Gp) (i jl jr : Nat) (m : Ms α), GpsOk base.length left.length right.length i jl jr T → MsOk i jl jr m → ∀ k, k ≤ T.length →
    ∃ i' jl' jr', GpsOk base.length left.length right.length i' jl' jr' (T.drop k) ∧ MsOk i' jl' jr' (mergeG base left right (T.take k) m) ∧ (mergeG base left right (T.take k) m).conf.length ≤ m.conf.length + k
  | T, i, jl, jr, m, h, hm, 0, _ => ⟨i, jl, jr, by simpa using h, hm, by simp [mergeG]⟩
  | [], _, _, _, _, _, _, k + 1, hk => by simp at hk
  | g :: T, i, jl, jr, m, h, hm, k + 1, hk => by
    obtain ⟨h1, h2, h3, h4, h5, h6, tl, tr, h7, h8, h9, h10, h11⟩ := h
    obtain ⟨q1, q2⟩ := msOk_step (base := base) hm h1 h2 h4 h7 h8
    obtain ⟨i', jl', jr', k1, k2, k3⟩ := merge_at T g.hi tl tr _ h11 q1 k (by simpa using hk)
    exact ⟨i', jl', jr', by simpa using k1, by simpa [mergeG] using k2, by rw [List.take_succ_cons]; show (mergeG base left right (T.take k) (addG base left right m g)).conf.length ≤ _; omega⟩
end

end Go.Proofs.Ytmeoannheomdoaa
