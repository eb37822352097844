/- The reference's merge: the groups that begin at a place, their parts, and what the merger makes of them. -/
import Derived.Test.YtmeoannheomdoaaSidesMath
import Derived.Test.YtmeoannheomdoaaMergeAt
import Derived.Test.YtmeoannheomdoaaMerge
namespace Go.Proofs.Ytmeoannheomdoaa
section
variable {α : Type}
/-- a part of a list, by its places -/
def seg (L : List α) (i j : Nat) : List α := (L.drop i).take (j - i)
theorem seg_add (L : List α) {i j k : Nat} (h1 : i ≤ j) (h2 : j ≤ k) : seg L i j ++ seg L j k = seg L i k := by
  unfold seg
  rw [show k - i = (j - i) + (k - j) by omega, List.take_add, List.drop_drop, show i + (j - i) = j by omega]
theorem seg_len (L : List α) (i j : Nat) : (seg L i j).length ≤ L.length := by unfold seg; rw [List.length_take, List.length_drop]; omega
theorem seg_self (L : List α) (i : Nat) : seg L i i = [] := by simp [seg]
theorem seg_one (L : List α) {i : Nat} (h : i < L.length) : seg L i (i + 1) = [L[i]] := by
  unfold seg
  rw [List.drop_eq_getElem_cons h, show i + 1 - i = 1 by omega]
  rfl
theorem seg_over (L : List α) {i : Nat} (k : Nat) (h : L.length ≤ i) : seg L i k = [] := by
  unfold seg
  rw [List.drop_eq_nil_of_le h, List.take_nil]
theorem seg_end (L : List α) {d k : Nat} (h : L.length ≤ k) : seg L d k = L.drop d := by
  unfold seg
  exact List.take_of_length_le (by rw [List.length_drop]; omega)
/-- a range of base with the hunks in it replaced -/
def partF (base side : List α) (tt : Nat) : List Hk → Nat → List α
  | [], f => seg base f tt
  | h :: t, f => if f ≤ h.a0 ∧ h.a1 ≤ tt then seg base f h.a0 ++ seg side h.b0 h.b1 ++ partF base side tt t h.a1 else partF base side tt t f
theorem part_skip (base side : List α) (tt : Nat) : ∀ (H T : List Hk) (f : Nat), (∀ h ∈ H, ¬ (f ≤ h.a0 ∧ h.a1 ≤ tt)) → partF base side tt (H ++ T) f = partF base side tt T f
  | [], _, _, _ => rfl
  | h :: H, T, f, hs => by
    rw [List.cons_append, partF, if_neg (hs h (by simp))]
    exact part_skip base side tt H T f fun x hx => hs x (by simp [hx])
theorem seg_mem {L : List α} {i j : Nat} {x : α} (h : x ∈ seg L i j) : x ∈ L := List.mem_of_mem_drop (List.mem_of_mem_take h)
theorem part_mem (base side : List α) (tt : Nat) : ∀ (H : List Hk) (f : Nat) (x : α), x ∈ partF base side tt H f → x ∈ base ∨ x ∈ side
  | [], _, _, h => .inl (seg_mem h)
  | h :: H, f, x, hx => by
    rw [partF] at hx
    split at hx
    · rcases List.mem_append.1 hx with hx | hx
      · rcases List.mem_append.1 hx with hx | hx
        · exact .inl (seg_mem hx)
        · exact .inr (seg_mem hx)
      · exact part_mem base side tt H _ x hx
    · exact part_mem base side tt H _ x hx
/-- On along equal lines. -/
theorem fits_on {base side : List α} {f j tt n m : Nat} {T : List Hk} (hO : Ok n m f j T) (hF : Fits base side f j T) (h1 : f ≤ tt) (h2 : ∀ h ∈ T, tt ≤ h.a0) : seg base f tt = seg side j (j + (tt - f)) ∧ Fits base side tt (j + (tt - f)) T := by
  cases T with
  | nil =>
    have e : base.drop f = side.drop j := hF
    refine ⟨?_, ?_⟩
    · unfold seg; rw [e, show j + (tt - f) - j = tt - f by omega]
    · show base.drop tt = side.drop (j + (tt - f))
      rw [← List.drop_drop, ← e, List.drop_drop, show f + (tt - f) = tt by omega]
  | cons x t =>
    obtain ⟨e1, e2, e3, e4⟩ := hF
    have hx := h2 x (by simp)
    have ho := hO.2.1
    have k1 : seg base f tt = ((base.drop f).take (x.a0 - f)).take (tt - f) := by unfold seg; rw [List.take_take, Nat.min_eq_left (by omega)]
    have k2 : seg side j (j + (tt - f)) = ((side.drop j).take (x.b0 - j)).take (tt - f) := by unfold seg; rw [List.take_take, Nat.min_eq_left (by omega), show j + (tt - f) - j = tt - f by omega]
    refine ⟨by rw [k1, k2, e3], hx, by omega, ?_, e4⟩
    have k3 : (base.drop tt).take (x.a0 - tt) = ((base.drop f).take (x.a0 - f)).drop (tt - f) := by rw [List.drop_take, List.drop_drop, show f + (tt - f) = tt by omega, show x.a0 - f - (tt - f) = x.a0 - tt by omega]
    have k4 : (side.drop (j + (tt - f))).take (x.b0 - (j + (tt - f))) = ((side.drop j).take (x.b0 - j)).drop (tt - f) := by rw [List.drop_take, List.drop_drop, show x.b0 - j - (tt - f) = x.b0 - (j + (tt - f)) by omega]
    rw [k3, k4, e3]
theorem ok_on {n m i j k : Nat} {H : List Hk} (h : Ok n m i j H) (hk : i ≤ k) (hn : k ≤ n) (hH : ∀ x ∈ H, k ≤ x.a0) : Ok n m k (j + (k - i)) H :=
  (h.on hk hn (fun x hx => hH x (List.mem_of_mem_head? (by rw [hx]; rfl)))).1
theorem part_fit (base side : List α) (n m tt : Nat) (hn : tt ≤ n) : ∀ (H T : List Hk) (f j : Nat), Ok n m f j (H ++ T) → Fits base side f j (H ++ T) → f ≤ tt → (∀ h ∈ H, h.a1 ≤ tt) → (∀ h ∈ T, tt < h.a0) →
    ∃ t, partF base side tt (H ++ T) f = seg side j t ∧ j ≤ t ∧ Ok n m tt t T ∧ Fits base side tt t T ∧ (H ≠ [] → ∃ x y, H[0]? = some x ∧ H.getLast? = some y ∧ j + x.a0 = x.b0 + f ∧ t + y.a1 = y.b1 + tt)
  | [], T, f, j, hO, hF, hf, _, hT => by
    obtain ⟨k1, k2⟩ := fits_on hO hF hf (fun h hh => by have := hT h hh; omega)
    refine ⟨j + (tt - f), ?_, by omega, ok_on hO hf hn (fun h hh => by have := hT h hh; omega), k2, fun h => absurd rfl h⟩
    have := part_skip base side tt T [] f (fun h hh hc => by
      have h1 := hT h hh
      have h2 := (Ok.mem hO h hh).2.2.2.1
      omega)
    rw [List.append_nil] at this
    rw [List.nil_append, this, partF, k1]
  | h :: H, T, f, j, hO, hF, hf, hH, hT => by
    rw [List.cons_append] at hO hF
    obtain ⟨o1, o2, o3, o4, o5, o6, o7, o8, o9⟩ := hO
    obtain ⟨e1, e2, e3, e4, e5, e6, e7, e8⟩ := hF
    have ha := hH h (by simp)
    obtain ⟨t, k1, k2, k3, k4, k5⟩ := part_fit base side n m tt hn H T h.a1 h.b1 o9 e8 ha (fun x hx => hH x (by simp [hx])) hT
    refine ⟨t, ?_, by omega, k3, k4, fun _ => ?_⟩
    · rw [List.cons_append, partF, if_pos ⟨o1, ha⟩, k1]
      rw [show seg base f h.a0 = seg side j h.b0 from e3, seg_add side e2 e5, seg_add side (by omega) k2]
    · cases H with
      | nil =>
        refine ⟨h, h, rfl, rfl, by omega, ?_⟩
        have hb := (ok_on (k := tt) (j := h.b1) o9 ha hn (fun x hx => by have := hT x (by simpa using hx); omega))
        -- both t and this place belong tt the same place of base
        obtain ⟨_, u1⟩ := fits_on (tt := tt) o9 e8 ha (fun x hx => by have := hT x (by simpa using hx); omega)
        have : t = h.b1 + (tt - h.a1) := by
          have q1 := k3
          have q2 := hb
          cases T with
          | nil => have := q1.2.2; have := q2.2.2; omega
          | cons z T => have := q1.2.1; have := q2.2.1; omega
        omega
      | cons z H =>
        obtain ⟨x, y, q1, q2, q3, q4⟩ := k5 (by simp)
        exact ⟨h, y, rfl, by rw [List.getLast?_cons_cons]; exact q2, by omega, q4⟩
theorem range_seg {side : List α} {H : List Hk} {j t f tt : Nat} (h : ∃ x y, H[0]? = some x ∧ H.getLast? = some y ∧ j + x.a0 = x.b0 + f ∧ t + y.a1 = y.b1 + tt) : rangeOf side f tt H = seg side j t := by
  obtain ⟨x, y, h1, h2, h3, h4⟩ := h
  cases H with
  | nil => simp at h1
  | cons z u =>
    simp at h1
    subst h1
    rw [List.getLast?_eq_some_getLast (by simp)] at h2
    injection h2 with h2
    unfold rangeOf seg
    dsimp only
    rw [h2, show z.b0 + f - z.a0 = j by omega, show y.b1 + tt - y.a1 = t by omega]
end
theorem Ok.lt_mem : ∀ {H : List Hk} {n m i j u : Nat}, Ok n m i j H → headIn u H = none → ∀ x ∈ H, u < x.a0
  | [], _, _, _, _, _, _, _ => fun x hx => by simp at hx
  | y :: t, n, m, i, j, u, h, hN => fun x hx => by
    have h0 := headIn_none hN
    rcases List.mem_cons.1 hx with rfl | hx
    · exact h0
    · have h1 := h.2.2.1
      have h9 := h.2.2.2.2.2.2.2.2
      have := (Ok.mem h9 x hx).2.2.1
      omega
/-- no hunk that begins in the range ends behind it -/
def Shut (X Y : List Hk) (i N : Nat) : Prop := ∀ h, h ∈ X ∨ h ∈ Y → i ≤ h.a0 → h.a0 ≤ N → h.a1 ≤ N
theorem heads_upto (N : Nat) : ∀ (l : List Hk), ∃ I, I ≤ l.length ∧ (∀ x ∈ l.take I, x.a0 ≤ N) ∧ headIn N (l.drop I) = none
  | [] => ⟨0, Nat.le_refl _, fun x hx => by simp at hx, rfl⟩
  | h :: t => by
    by_cases hh : h.a0 ≤ N
    · obtain ⟨I, h1, h2, h3⟩ := heads_upto N t
      refine ⟨I + 1, by simpa using h1, fun x hx => ?_, by rw [List.drop_succ_cons]; exact h3⟩
      rw [List.take_succ_cons] at hx
      rcases List.mem_cons.1 hx with rfl | hx
      · exact hh
      · exact h2 x hx
    · exact ⟨0, Nat.zero_le _, fun x hx => by simp at hx, by rw [List.drop_zero, headIn_cons, if_neg hh]⟩
theorem ok_drop : ∀ (I : Nat) {L : List Hk} {n m i j : Nat}, Ok n m i j L → ∃ i' j', Ok n m i' j' (L.drop I)
  | 0, L, n, m, i, j, h => ⟨i, j, by rw [List.drop_zero]; exact h⟩
  | I + 1, [], n, m, i, j, h => ⟨i, j, by simpa using h⟩
  | I + 1, x :: t, n, m, i, j, h => by
    rw [List.drop_succ_cons]
    exact ok_drop I h.2.2.2.2.2.2.2.2
section
variable {α : Type} [DecidableEq α] {base left right : List α}
/-- the merger stands at place i of base: l and r are the hunks that are left -/
structure RM (base left right : List α) (F : Ms α) (X Y : List Hk) (i : Nat) (m : Ms α) (l r : List Hk) (jl jr : Nat) : Prop where
  hx : ∃ X0, X = X0 ++ l ∧ ∀ h ∈ X0, h.a0 < i
  hy : ∃ Y0, Y = Y0 ++ r ∧ ∀ h ∈ Y0, h.a0 < i
  okl : Ok base.length left.length i jl l
  fl : Fits base left i jl l
  okr : Ok base.length right.length i jr r
  fr : Fits base right i jr r
  rest : ∃ f, l.length + r.length ≤ f ∧ F = mergeG base left right (gps f l r) m
  done : m.done ≤ i
theorem nil_of_high {n m i j : Nat} {l : List Hk} (h : Ok n m i j l) (hh : ∀ x ∈ l, n < x.a0) : l = [] := by
  cases l with
  | nil => rfl
  | cons x t =>
    have := hh x (by simp)
    have := h.2.2.1
    have := h.2.2.2.2.2.1
    omega
theorem RM.later {F : Ms α} {X Y l r : List Hk} {i jl jr : Nat} {m : Ms α} (h : RM base left right F X Y i m l r jl jr) (hX : ∀ x ∈ X, x.a0 ≠ i) (hY : ∀ x ∈ Y, x.a0 ≠ i) : (∀ x ∈ l, i < x.a0) ∧ (∀ x ∈ r, i < x.a0) := by
  obtain ⟨X0, rfl, _⟩ := h.hx
  obtain ⟨Y0, rfl, _⟩ := h.hy
  refine ⟨fun x hx => ?_, fun x hx => ?_⟩
  · have h1 := (Ok.mem h.okl x hx).2.2.1
    have h2 := hX x (by simp [hx])
    omega
  · have h1 := (Ok.mem h.okr x hx).2.2.1
    have h2 := hY x (by simp [hx])
    omega
theorem RM.none_ {F : Ms α} {X Y l r : List Hk} {i jl jr : Nat} {m : Ms α} (h : RM base left right F X Y i m l r jl jr) (hX : ∀ x ∈ X, x.a0 ≠ i) (hY : ∀ x ∈ Y, x.a0 ≠ i) (hi : i < base.length) : RM base left right F X Y (i + 1) m l r (jl + 1) (jr + 1) := by
  obtain ⟨kl, kr⟩ := h.later hX hY
  obtain ⟨X0, hx, hx0⟩ := h.hx
  obtain ⟨Y0, hy, hy0⟩ := h.hy
  have e1 : jl + (i + 1 - i) = jl + 1 := by omega
  have e2 : jr + (i + 1 - i) = jr + 1 := by omega
  refine ⟨⟨X0, hx, fun x hx => by have := hx0 x hx; omega⟩, ⟨Y0, hy, fun x hx => by have := hy0 x hx; omega⟩, ?_, ?_, ?_, ?_, h.rest, by have := h.done; omega⟩
  · rw [← e1]; exact ok_on h.okl (Nat.le_succ _) hi kl
  · rw [← e1]; exact (fits_on h.okl h.fl (Nat.le_succ _) kl).2
  · rw [← e2]; exact ok_on h.okr (Nat.le_succ _) hi kr
  · rw [← e2]; exact (fits_on h.okr h.fr (Nat.le_succ _) kr).2
theorem gps_nil (f : Nat) : gps f [] [] = [] := by cases f <;> simp [gps]
theorem RM.end_ {F : Ms α} {X Y l r : List Hk} {i jl jr : Nat} {m : Ms α} (h : RM base left right F X Y i m l r jl jr) (hX : ∀ x ∈ l, base.length < x.a0) (hY : ∀ x ∈ r, base.length < x.a0) : F = m := by
  have e1 := nil_of_high h.okl hX
  have e2 := nil_of_high h.okr hY
  obtain ⟨f, _, hf⟩ := h.rest
  rw [hf, e1, e2, gps_nil]
  rfl
/-- a group: what the parts are, and where the merger stands behind it -/
theorem RM.group {F : Ms α} {X Y l r : List Hk} {i jl jr T : Nat} {m : Ms α} (h : RM base left right F X Y i m l r jl jr) (hs : (∃ x ∈ X, x.a0 = i) ∨ ∃ x ∈ Y, x.a0 = i) (hi : i ≤ base.length) (h1 : i ≤ T) (h2 : Shut X Y i T) (h3 : ∀ N, i ≤ N → Shut X Y i N → T ≤ N) :
    ∃ m', ((∃ x ∈ X, i ≤ x.a0 ∧ x.a1 ≤ T) → (∃ x ∈ Y, i ≤ x.a0 ∧ x.a1 ≤ T) → partF base left T X i ≠ partF base right T Y i → m' = ⟨m.merged, m.done, m.conf ++ [(i, T)]⟩) ∧
      ((∃ x ∈ X, i ≤ x.a0 ∧ x.a1 ≤ T) → ((∃ x ∈ Y, i ≤ x.a0 ∧ x.a1 ≤ T) → partF base left T X i = partF base right T Y i) → m' = ⟨m.merged ++ seg base m.done i ++ partF base left T X i, T, m.conf⟩) ∧
      (¬ (∃ x ∈ X, i ≤ x.a0 ∧ x.a1 ≤ T) → m' = ⟨m.merged ++ seg base m.done i ++ partF base right T Y i, T, m.conf⟩) ∧
      T ≤ base.length ∧ (partF base left T X i).length ≤ left.length ∧ (partF base right T Y i).length ≤ right.length ∧ (T < base.length → ∃ l' r' jl' jr', RM base left right F X Y (T + 1) m' l' r' jl' jr') ∧ (T = base.length → F = m') := by
  obtain ⟨X0, hx, hx0⟩ := h.hx
  obtain ⟨Y0, hy, hy0⟩ := h.hy
  obtain ⟨f, hf, hF⟩ := h.rest
  have okl := h.okl
  have okr := h.okr
  have hpos : 0 < l.length + r.length := by
    rcases hs with ⟨x, hxm, hxi⟩ | ⟨x, hxm, hxi⟩
    · rw [hx] at hxm
      rcases List.mem_append.1 hxm with hm | hm
      · have := hx0 x hm; omega
      · have := List.length_pos_of_mem hm; omega
    · rw [hy] at hxm
      rcases List.mem_append.1 hxm with hm | hm
      · have := hy0 x hm; omega
      · have := List.length_pos_of_mem hm; omega
  have hleast : least l r = i := by
    obtain ⟨q1, q2, q3⟩ := least_le l r hpos
    have hge : i ≤ least l r := by
      rcases q3 with ⟨x, e1, e2⟩ | ⟨x, e1, e2⟩
      · rw [e2]; exact (Ok.mem okl x (List.mem_of_mem_head? (by rw [e1]; rfl))).2.2.1
      · rw [e2]; exact (Ok.mem okr x (List.mem_of_mem_head? (by rw [e1]; rfl))).2.2.1
    have hle : least l r ≤ i := by
      have hmem : ∀ {L : List Hk} {n m j : Nat} {x : Hk}, Ok n m i j L → x ∈ L → x.a0 = i → ∃ y, L.head? = some y ∧ y.a0 = i := by
        intro L n m j x hO hm he
        cases L with
        | nil => simp at hm
        | cons y t =>
          rcases List.mem_cons.1 hm with rfl | hm
          · exact ⟨_, rfl, he⟩
          · have g1 := (Ok.mem hO.2.2.2.2.2.2.2.2 x hm).2.2.1
            have g2 := hO.1
            have g3 := hO.2.2.1
            exact ⟨y, rfl, by omega⟩
      rcases hs with ⟨x, hxm, hxi⟩ | ⟨x, hxm, hxi⟩
      · rw [hx] at hxm
        rcases List.mem_append.1 hxm with hm | hm
        · have := hx0 x hm; omega
        · obtain ⟨y, e1, e2⟩ := hmem okl hm hxi
          have := q1 y e1; omega
      · rw [hy] at hxm
        rcases List.mem_append.1 hxm with hm | hm
        · have := hy0 x hm; omega
        · obtain ⟨y, e1, e2⟩ := hmem okr hm hxi
          have := q2 y e1; omega
    omega
  have hcl := grow_closed (l.length + r.length) i l r (Nat.le_refl _)
  obtain ⟨_, _, _, _, hspec⟩ := grow_spec (l.length + r.length) i l r (Nat.le_refl _)
  have hgr : grown l r = grow (l.length + r.length) i l r := by unfold grown; rw [hleast]
  rw [← hgr] at hcl hspec
  obtain ⟨c1, c2, c3, c4, c5, c6, c7⟩ := hcl
  have hshutU : Shut X Y i (grown l r).1 := by
    have side : ∀ {L : List Hk} {n m j I : Nat} {x : Hk}, Ok n m i j L → (∀ x ∈ L.take I, x.a1 ≤ (grown l r).1) → headIn (grown l r).1 (L.drop I) = none → x ∈ L → x.a0 ≤ (grown l r).1 → x.a1 ≤ (grown l r).1 := by
      intro L n m j I x hO h4 h6 hm hle
      rw [← List.take_append_drop I L] at hm
      rcases List.mem_append.1 hm with hm | hm
      · exact h4 x hm
      · obtain ⟨i', j', hO'⟩ := ok_drop I hO
        have := Ok.lt_mem hO' h6 x hm; omega
    rintro x (hxm | hxm) hlo hhi
    · rw [hx] at hxm
      rcases List.mem_append.1 hxm with hm | hm
      · have := hx0 x hm; omega
      · exact side okl c4 c6 hm hhi
    · rw [hy] at hxm
      rcases List.mem_append.1 hxm with hm | hm
      · have := hy0 x hm; omega
      · exact side okr c5 c7 hm hhi
  have hTU := h3 _ c1 hshutU
  have hUT : (grown l r).1 ≤ T := by
    obtain ⟨I', i1, i2, i3⟩ := heads_upto T l
    obtain ⟨K', k1, k2, k3⟩ := heads_upto T r
    rw [hgr]
    refine (grow_least (l.length + r.length) i l r T I' K' ⟨h1, i1, k1, fun x hxm => ?_, fun x hxm => ?_, i3, k3⟩).1
    · have hm := List.mem_of_mem_take hxm
      exact h2 x (.inl (by rw [hx]; simp [hm])) (Ok.mem okl x hm).2.2.1 (i2 x hxm)
    · have hm := List.mem_of_mem_take hxm
      exact h2 x (.inr (by rw [hy]; simp [hm])) (Ok.mem okr x hm).2.2.1 (k2 x hxm)
  have hU : (grown l r).1 = T := Nat.le_antisymm hUT hTU
  have hTn : T ≤ base.length := by
    rw [← hU]
    exact hspec _ hi (fun x hxm => (Ok.mem okl x hxm).1) (fun x hxm => (Ok.mem okr x hxm).1)
  have hfirst : firstGp l r = ⟨i, T, l.take (grown l r).2.1, r.take (grown l r).2.2⟩ := by unfold firstGp; rw [hleast, hU]
  have hgps : ∀ f', gps (f' + 1) l r = firstGp l r :: gps f' (l.drop (grown l r).2.1) (r.drop (grown l r).2.2) := fun f' => by rw [gps, if_neg (by omega)]
  rw [hU] at c4 c5 c6 c7
  obtain ⟨I, hI⟩ : ∃ I, (grown l r).2.1 = I := ⟨_, rfl⟩
  obtain ⟨K, hK⟩ : ∃ K, (grown l r).2.2 = K := ⟨_, rfl⟩
  rw [hI] at c2 c4 c6 hfirst hgps
  rw [hK] at c3 c5 c7 hfirst hgps
  have dl : ∀ x ∈ l.drop I, T < x.a0 := by obtain ⟨_, _, hO'⟩ := ok_drop I okl; exact Ok.lt_mem hO' c6
  have dr : ∀ x ∈ r.drop K, T < x.a0 := by obtain ⟨_, _, hO'⟩ := ok_drop K okr; exact Ok.lt_mem hO' c7
  obtain ⟨t1, p1, p2, p3, p4, p5⟩ := part_fit base left base.length left.length T hTn (l.take I) (l.drop I) i jl (by rw [List.take_append_drop]; exact okl) (by rw [List.take_append_drop]; exact h.fl) h1 c4 dl
  obtain ⟨t2, q1, q2, q3, q4, q5⟩ := part_fit base right base.length right.length T hTn (r.take K) (r.drop K) i jr (by rw [List.take_append_drop]; exact okr) (by rw [List.take_append_drop]; exact h.fr) h1 c5 dr
  rw [List.take_append_drop] at p1 q1
  have pl : partF base left T X i = seg left jl t1 := by rw [hx, part_skip base left T X0 l i (fun x hxm hc => by have := hx0 x hxm; omega), p1]
  have pr : partF base right T Y i = seg right jr t2 := by rw [hy, part_skip base right T Y0 r i (fun x hxm hc => by have := hy0 x hxm; omega), q1]
  have inl : (∃ x ∈ X, i ≤ x.a0 ∧ x.a1 ≤ T) ↔ l.take I ≠ [] := by
    constructor
    · rintro ⟨x, hxm, g1, g2⟩ hnil
      rw [hx, ← List.take_append_drop I l, hnil, List.nil_append] at hxm
      rcases List.mem_append.1 hxm with hm | hm
      · have := hx0 x hm; omega
      · have := dl x hm
        have := (Ok.mem okl x (List.mem_of_mem_drop hm)).2.2.2.1
        omega
    · intro hne
      obtain ⟨x, hxm⟩ := List.exists_mem_of_ne_nil _ hne
      exact ⟨x, by rw [hx]; simp [List.mem_of_mem_take hxm], (Ok.mem okl x (List.mem_of_mem_take hxm)).2.2.1, c4 x hxm⟩
  have inr : (∃ x ∈ Y, i ≤ x.a0 ∧ x.a1 ≤ T) ↔ r.take K ≠ [] := by
    constructor
    · rintro ⟨x, hxm, g1, g2⟩ hnil
      rw [hy, ← List.take_append_drop K r, hnil, List.nil_append] at hxm
      rcases List.mem_append.1 hxm with hm | hm
      · have := hy0 x hm; omega
      · have := dr x hm
        have := (Ok.mem okr x (List.mem_of_mem_drop hm)).2.2.2.1
        omega
    · intro hne
      obtain ⟨x, hxm⟩ := List.exists_mem_of_ne_nil _ hne
      exact ⟨x, by rw [hy]; simp [List.mem_of_mem_take hxm], (Ok.mem okr x (List.mem_of_mem_take hxm)).2.2.1, c5 x hxm⟩
  have hsome : l.take I ≠ [] ∨ r.take K ≠ [] := by
    rcases hs with ⟨x, hxm, hxi⟩ | ⟨x, hxm, hxi⟩
    · left
      refine inl.1 ⟨x, hxm, by omega, h2 x (.inl hxm) (by omega) (by omega)⟩
    · right
      refine inr.1 ⟨x, hxm, by omega, h2 x (.inr hxm) (by omega) (by omega)⟩
  have len_ne : ∀ {L : List Hk}, L ≠ [] → ¬ L.length = 0 := fun h e => h (List.eq_nil_of_length_eq_zero e)
  have rl := fun hne => range_seg (side := left) (p5 hne)
  have rr := fun hne => range_seg (side := right) (q5 hne)
  rw [inl, inr, pl, pr]
  refine ⟨addG base left right m ⟨i, T, l.take I, r.take K⟩, fun hl hr hne => ?_, fun hl hr => ?_, fun hl => ?_, hTn, seg_len _ _ _, seg_len _ _ _, fun hlt => ?_, fun he => ?_⟩
  · unfold addG changed
    rw [if_neg (len_ne hr), if_neg (len_ne hl), if_neg (by rw [rl hl, rr hr]; exact hne)]
  · unfold addG changed
    by_cases hr0 : r.take K = []
    · rw [if_pos (by rw [hr0]; rfl), rl hl]
      rfl
    · rw [if_neg (len_ne hr0), if_neg (len_ne hl), if_pos (by rw [rl hl, rr hr0]; exact hr hr0), rl hl]
      rfl
  · have hr0 : r.take K ≠ [] := hsome.resolve_left hl
    have hl0 : l.take I = [] := Classical.not_not.1 hl
    unfold addG changed
    rw [if_neg (len_ne hr0), if_pos (by rw [hl0]; rfl), rr hr0]
    rfl
  · refine ⟨l.drop I, r.drop K, t1 + (T + 1 - T), t2 + (T + 1 - T), ⟨X0 ++ l.take I, by rw [List.append_assoc, List.take_append_drop]; exact hx, fun x hxm => ?_⟩, ⟨Y0 ++ r.take K, by rw [List.append_assoc, List.take_append_drop]; exact hy, fun x hxm => ?_⟩, ok_on p3 (Nat.le_succ _) hlt dl, (fits_on p3 p4 (Nat.le_succ _) dl).2, ok_on q3 (Nat.le_succ _) hlt dr, (fits_on q3 q4 (Nat.le_succ _) dr).2, ?_, ?_⟩
    · rcases List.mem_append.1 hxm with hm | hm
      · have := hx0 x hm; omega
      · have := c4 x hm
        have := (Ok.mem okl x (List.mem_of_mem_take hm)).2.2.2.1
        omega
    · rcases List.mem_append.1 hxm with hm | hm
      · have := hy0 x hm; omega
      · have := c5 x hm
        have := (Ok.mem okr x (List.mem_of_mem_take hm)).2.2.2.1
        omega
    · obtain ⟨f', rfl⟩ : ∃ f', f = f' + 1 := ⟨f - 1, by omega⟩
      refine ⟨f', ?_, by rw [hF, hgps, hfirst]; rfl⟩
      have : 0 < I ∨ 0 < K := by
        rcases hsome with h | h
        · left; refine Nat.pos_of_ne_zero fun e => h ?_; rw [e]; rfl
        · right; refine Nat.pos_of_ne_zero fun e => h ?_; rw [e]; rfl
      rw [List.length_drop, List.length_drop]
      omega
    · have := h.done
      unfold addG
      split
      · show m.done ≤ T + 1; omega
      · show T ≤ T + 1; omega
  · obtain ⟨f', rfl⟩ : ∃ f', f = f' + 1 := ⟨f - 1, by omega⟩
    rw [hF, hgps, hfirst, nil_of_high p3 (by rw [← he]; exact dl), nil_of_high q3 (by rw [← he]; exact dr)]
    show mergeG base left right (gps f' [] []) _ = _
    rw [gps_nil]
    rfl
end
theorem rm_start (base left right : List ByteArray) : RM base left right (mergeM base left right) (diff base left) (diff base right) 0 ⟨[], 0, []⟩ (diff base left) (diff base right) 0 0 :=
  ⟨⟨[], rfl, fun h hh => by simp at hh⟩, ⟨[], rfl, fun h hh => by simp at hh⟩, diff_ok _ _, diff_fits0 _ _, diff_ok _ _, diff_fits0 _ _, ⟨_, Nat.le_refl _, rfl⟩, Nat.le_refl _⟩
end Go.Proofs.Ytmeoannheomdoaa
