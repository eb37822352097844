/- matchName: a component of a pattern and a name. -/
import Derived.Test.YtdbikaffmpkgpaaDoorNames
namespace Go.Proofs.YtdbikaffmpkgpaaDoor
open Go.RowKit

def wmStar (f : List UInt8 → Bool) : List UInt8 → Bool
  | [] => f []
  | x :: s => f (x :: s) || wmStar f s
/-- the bytes of a name are divided among those of a component of a pattern -/
def wm : List UInt8 → List UInt8 → Bool
  | [] => List.isEmpty
  | c :: p => if c = 42 then wmStar (wm p) else fun s => match s with
    | [] => false
    | x :: s => (decide (c = 63) || decide (c = x)) && wm p s
theorem wmStar_iff (f : List UInt8 → Bool) (s : List UInt8) : wmStar f s = true ↔ ∃ k, k ≤ s.length ∧ f (s.drop k) = true := by
  induction s with
  | nil => rw [wmStar]; exact ⟨fun h => ⟨0, Nat.le_refl _, h⟩, fun ⟨k, _, h⟩ => by simpa using h⟩
  | cons x s ih =>
    rw [wmStar, Bool.or_eq_true, ih]
    constructor
    · rintro (h | ⟨k, hk, h⟩)
      · exact ⟨0, by omega, h⟩
      · exact ⟨k + 1, by simpa using hk, by simpa using h⟩
    · rintro ⟨k, hk, h⟩
      cases k with
      | zero => exact .inl h
      | succ k => exact .inr ⟨k, by simpa using hk, by simpa using h⟩

section
variable (P S : List UInt8)
/-- the last star may get one byte more -/
def Alt (a e : Nat) : Prop := ∃ k, e < k ∧ k ≤ S.length ∧ wm (P.drop a) (S.drop k) = true
/-- the loop's invariant -/
structure OneInv (i j a e : Nat) : Prop where
  hi : i ≤ P.length
  hj : j ≤ S.length
  ha : a ≤ i
  he : e ≤ S.length
  seg : e < S.length → e ≤ j ∧ j - e = i - a ∧ ∀ k (h : k < P.length), a ≤ k → k < i → P[k] ≠ 42
  iff : wm P S = true ↔ (wm (P.drop i) (S.drop j) = true ∨ Alt P S a e)
variable {P S}

/-- what a part of a pattern without stars matches -/
theorem wm_plain : ∀ (n : Nat) (a : Nat) (s : List UInt8), a + n ≤ P.length → (∀ k (h : k < P.length), a ≤ k → k < a + n → P[k] ≠ 42) → wm (P.drop a) s = true → n ≤ s.length ∧ wm (P.drop (a + n)) (s.drop n) = true
  | 0, a, s, _, _, h => ⟨Nat.zero_le _, h⟩
  | n + 1, a, s, hn, hp, h => by
    have hlt : a < P.length := by omega
    have h1 : P[a] ≠ 42 := hp a hlt (Nat.le_refl _) (by omega)
    rw [List.drop_eq_getElem_cons hlt, wm, if_neg h1] at h
    match s, h with
    | x :: s, h =>
      rw [Bool.and_eq_true] at h
      have := wm_plain n (a + 1) s (by omega) (fun k hk h2 h3 => hp k hk (by omega) (by omega)) h.2
      refine ⟨by simp; exact this.1, ?_⟩
      rw [show a + (n + 1) = a + 1 + n by omega]
      exact this.2

theorem OneInv.start : OneInv P S 0 0 0 S.length :=
  ⟨Nat.zero_le _, Nat.zero_le _, Nat.le_refl _, Nat.le_refl _, fun h => absurd h (by omega), ⟨fun h => .inl h, fun h => h.elim id fun ⟨k, h1, h2, _⟩ => by omega⟩⟩
theorem OneInv.star {i j a e : Nat} (h : OneInv P S i j a e) (hi : i < P.length) (h42 : P[i] = 42) : OneInv P S (i + 1) j (i + 1) j := by
  refine ⟨hi, h.hj, Nat.le_refl _, h.hj, fun _ => ⟨Nat.le_refl _, by omega, fun k _ h1 h2 => by omega⟩, ?_⟩
  have hst : wm (P.drop i) (S.drop j) = true ↔ (wm (P.drop (i + 1)) (S.drop j) = true ∨ Alt P S (i + 1) j) := by
    rw [List.drop_eq_getElem_cons hi, wm, if_pos h42, wmStar_iff]
    constructor
    · rintro ⟨k, hk, hw⟩
      rw [List.drop_drop] at hw
      rw [List.length_drop] at hk
      have := h.hj
      cases k with
      | zero => exact .inl hw
      | succ k => exact .inr ⟨j + (k + 1), by omega, by omega, hw⟩
    · rintro (hw | ⟨k, h1, h2, hw⟩)
      · exact ⟨0, Nat.zero_le _, hw⟩
      · refine ⟨k - j, by rw [List.length_drop]; omega, ?_⟩
        rw [List.drop_drop, show j + (k - j) = k by omega]
        exact hw
  rw [h.iff, hst]
  constructor
  · rintro (hw | ⟨k, h1, h2, hw⟩)
    · exact hw
    · obtain ⟨g1, g2, g3⟩ := h.seg (by omega)
      have ha := h.ha
      obtain ⟨m1, m2⟩ := wm_plain (i - a) a _ (by omega) (fun k hk hk1 hk2 => g3 k hk hk1 (by omega)) hw
      rw [show a + (i - a) = i by omega, List.drop_drop, List.drop_eq_getElem_cons hi, wm, if_pos h42, wmStar_iff] at m2
      obtain ⟨t, ht, hw2⟩ := m2
      rw [List.drop_drop] at hw2
      rw [List.length_drop] at ht m1
      exact .inr ⟨k + (i - a) + t, by omega, by omega, hw2⟩
  · exact .inl
theorem OneInv.byte {i j a e : Nat} (h : OneInv P S i j a e) (hi : i < P.length) (hj : j < S.length) (h42 : P[i] ≠ 42) (hm : P[i] = 63 ∨ P[i] = S[j]) : OneInv P S (i + 1) (j + 1) a e := by
  have ha := h.ha
  refine ⟨hi, hj, by omega, h.he, fun he => ?_, ?_⟩
  · obtain ⟨g1, g2, g3⟩ := h.seg he
    refine ⟨by omega, by omega, fun k hk h1 h2 => ?_⟩
    rcases Nat.lt_or_ge k i with hlt | hge
    · exact g3 k hk h1 hlt
    · obtain rfl : k = i := by omega
      exact h42
  · rw [h.iff]
    have : wm (P.drop i) (S.drop j) = wm (P.drop (i + 1)) (S.drop (j + 1)) := by
      rw [List.drop_eq_getElem_cons hi, List.drop_eq_getElem_cons hj, wm, if_neg h42]
      have hd : (decide (P[i] = 63) || decide (P[i] = S[j])) = true := by
        rw [Bool.or_eq_true, decide_eq_true_eq, decide_eq_true_eq]
        exact hm
      simp only [hd, Bool.true_and]
    rw [this]
theorem OneInv.dead {i j : Nat} (hc : i < P.length ∨ j < S.length) (hi : i ≤ P.length) (h42 : ∀ h : i < P.length, P[i] ≠ 42) (hm : ∀ (h1 : i < P.length) (h2 : j < S.length), ¬ (P[i] = 63 ∨ P[i] = S[j])) (hj : j ≤ S.length) : wm (P.drop i) (S.drop j) = false := by
  rcases Nat.lt_or_ge i P.length with h1 | h1
  · rw [List.drop_eq_getElem_cons h1, wm, if_neg (h42 h1)]
    rcases Nat.lt_or_ge j S.length with h2 | h2
    · rw [List.drop_eq_getElem_cons h2]
      have hd : (decide (P[i] = 63) || decide (P[i] = S[j])) = false := by
        rw [Bool.or_eq_false_iff, decide_eq_false_iff_not, decide_eq_false_iff_not]
        exact ⟨fun e => hm h1 h2 (.inl e), fun e => hm h1 h2 (.inr e)⟩
      simp only [hd, Bool.false_and]
    · rw [List.drop_eq_nil_of_le h2]
  · rw [List.drop_eq_nil_of_le h1, wm]
    have h2 : j < S.length := by omega
    rw [List.drop_eq_getElem_cons h2]
    rfl
theorem OneInv.back {i j a e : Nat} (h : OneInv P S i j a e) (hd : wm (P.drop i) (S.drop j) = false) (he : e < S.length) : OneInv P S a (e + 1) a (e + 1) := by
  have ha := h.ha
  have hi := h.hi
  refine ⟨by omega, by omega, Nat.le_refl _, by omega, fun _ => ⟨Nat.le_refl _, by omega, fun k _ h1 h2 => by omega⟩, ?_⟩
  rw [h.iff, hd]
  constructor
  · rintro (hw | ⟨k, h1, h2, hw⟩)
    · cases hw
    · rcases Nat.lt_or_ge (e + 1) k with hlt | hge
      · exact .inr ⟨k, hlt, h2, hw⟩
      · obtain rfl : k = e + 1 := by omega
        exact .inl hw
  · rintro (hw | ⟨k, h1, h2, hw⟩)
    · exact .inr ⟨e + 1, by omega, by omega, hw⟩
    · exact .inr ⟨k, by omega, h2, hw⟩
theorem OneInv.fail {i j a e : Nat} (h : OneInv P S i j a e) (hd : wm (P.drop i) (S.drop j) = false) (he : ¬ e < S.length) : wm P S = false := by
  rw [Bool.eq_false_iff]
  intro hw
  rcases h.iff.1 hw with hw | ⟨k, h1, h2, _⟩
  · rw [hd] at hw; cases hw
  · omega
theorem OneInv.done {i j a e : Nat} (h : OneInv P S i j a e) (h1 : ¬ i < P.length) (h2 : ¬ j < S.length) : wm P S = true := by
  rw [h.iff, List.drop_eq_nil_of_le (by omega), List.drop_eq_nil_of_le (by omega)]
  exact .inl rfl
end

def oneS (c s : ByteArray) : Bool := wm c.data.toList s.data.toList
def measureOne (p s : Nat) (i a e : Int) : Nat := 40401 * (p - a.toNat) + 201 * (s - e.toNat) + (p - i.toNat)

end Go.Proofs.YtdbikaffmpkgpaaDoor
