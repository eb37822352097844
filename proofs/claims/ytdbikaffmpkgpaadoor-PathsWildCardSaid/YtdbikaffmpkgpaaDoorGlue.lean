/- Matching, of bytes and of components alike: joined patterns. -/
import Derived.Test.YtdbikaffmpkgpaaDoorSelf
import Derived.Test.YtdbikaffmpkgpaaDoorUnder
namespace Go.Proofs.YtdbikaffmpkgpaaDoor
open Go.RowKit

section
variable {α β : Type} (star : α → Bool) (one : α → β → Bool)
def gstar (f : List β → Bool) : List β → Bool
  | [] => f []
  | x :: s => f (x :: s) || gstar f s
/-- elements are divided among those of a pattern -/
def gm : List α → List β → Bool
  | [] => List.isEmpty
  | c :: p => if star c then gstar (gm p) else fun s => match s with
    | [] => false
    | x :: s => one c x && gm p s
variable {star one}
theorem gstar_iff (f : List β → Bool) (s : List β) : gstar f s = true ↔ ∃ k, k ≤ s.length ∧ f (s.drop k) = true := by
  induction s with
  | nil => rw [gstar]; exact ⟨fun h => ⟨0, Nat.le_refl _, h⟩, fun ⟨k, _, h⟩ => by simpa using h⟩
  | cons x s ih =>
    rw [gstar, Bool.or_eq_true, ih]
    constructor
    · rintro (h | ⟨k, hk, h⟩)
      · exact ⟨0, by omega, h⟩
      · exact ⟨k + 1, by simpa using hk, by simpa using h⟩
    · rintro ⟨k, hk, h⟩
      cases k with
      | zero => exact .inl h
      | succ k => exact .inr ⟨k, by simpa using hk, by simpa using h⟩
theorem gm_nil (s : List β) : gm star one [] s = s.isEmpty := rfl
theorem gm_star {c : α} {p : List α} (h : star c = true) (s : List β) : gm star one (c :: p) s = gstar (gm star one p) s := by rw [gm, if_pos h]
theorem gm_one {c : α} {p : List α} (h : star c = false) (x : β) (s : List β) : gm star one (c :: p) (x :: s) = (one c x && gm star one p s) := by rw [gm, if_neg (by rw [h]; simp)]
theorem gm_none {c : α} {p : List α} (h : star c = false) : gm star one (c :: p) [] = false := by rw [gm, if_neg (by rw [h]; simp)]
theorem gm_append (q : List α) : ∀ (p : List α) (s : List β), gm star one (p ++ q) s = true ↔ ∃ k, k ≤ s.length ∧ gm star one p (s.take k) = true ∧ gm star one q (s.drop k) = true
  | [], s => by
    rw [List.nil_append]
    constructor
    · intro h
      exact ⟨0, Nat.zero_le _, rfl, h⟩
    · rintro ⟨k, hk, h1, h2⟩
      rw [gm_nil, List.isEmpty_iff] at h1
      have e : k = 0 ∨ s = [] := by
        rcases List.take_eq_nil_iff.1 h1 with h | h
        · exact .inl h
        · exact .inr h
      rcases e with rfl | rfl
      · exact h2
      · simpa using h2
  | c :: p, s => by
    rw [List.cons_append]
    by_cases hc : star c = true
    · rw [gm_star hc, gstar_iff]
      constructor
      · rintro ⟨j, hj, h⟩
        obtain ⟨k, hk, h1, h2⟩ := (gm_append q p _).1 h
        rw [List.length_drop] at hk
        refine ⟨j + k, by omega, ?_, by rw [List.drop_drop] at h2; exact h2⟩
        rw [gm_star hc, gstar_iff]
        refine ⟨j, by rw [List.length_take]; omega, ?_⟩
        rw [List.drop_take, show j + k - j = k by omega]
        exact h1
      · rintro ⟨m, hm, h1, h2⟩
        rw [gm_star hc, gstar_iff] at h1
        obtain ⟨j, hj, h3⟩ := h1
        rw [List.length_take] at hj
        refine ⟨j, by omega, (gm_append q p _).2 ⟨m - j, by rw [List.length_drop]; omega, ?_, ?_⟩⟩
        · rw [List.drop_take] at h3; exact h3
        · rw [List.drop_drop, show j + (m - j) = m by omega]; exact h2
    · have hc' : star c = false := by simpa using hc
      cases s with
      | nil =>
        rw [gm_none hc']
        constructor
        · intro h; cases h
        · rintro ⟨k, hk, h1, _⟩
          rw [List.take_nil, gm_none hc'] at h1
          cases h1
      | cons x s =>
        rw [gm_one hc', Bool.and_eq_true]
        constructor
        · rintro ⟨h0, h⟩
          obtain ⟨k, hk, h1, h2⟩ := (gm_append q p _).1 h
          exact ⟨k + 1, by simpa using hk, by rw [List.take_succ_cons, gm_one hc', h0, h1]; rfl, h2⟩
        · rintro ⟨k, hk, h1, h2⟩
          cases k with
          | zero => rw [List.take_zero, gm_none hc'] at h1; cases h1
          | succ k =>
            rw [List.take_succ_cons, gm_one hc', Bool.and_eq_true] at h1
            exact ⟨h1.1, (gm_append q p _).2 ⟨k, by simpa using hk, h1.2, h2⟩⟩
theorem gm_anything {c : α} (h : star c = true) (s : List β) : gm star one [c] s = true := by
  rw [gm_star h, gstar_iff]
  exact ⟨s.length, Nat.le_refl _, by rw [List.drop_length]; rfl⟩
theorem gm_single {c : α} (h : star c = false) (s : List β) : gm star one [c] s = true ↔ ∃ x, s = [x] ∧ one c x = true := by
  cases s with
  | nil => rw [gm_none h]; simp
  | cons x s =>
    rw [gm_one h, Bool.and_eq_true, gm_nil, List.isEmpty_iff]
    constructor
    · rintro ⟨h1, rfl⟩; exact ⟨x, rfl, h1⟩
    · rintro ⟨y, e, h1⟩
      injection e with e1 e2
      subst e1 e2
      exact ⟨h1, rfl⟩
end

def bStar (c : UInt8) : Bool := decide (c = 42)
def bOne (c x : UInt8) : Bool := decide (c = 63) || decide (c = x)
def cStar (c : ByteArray) : Bool := decide (c.data.toList = [42, 42])
theorem wmStar_g (f : List UInt8 → Bool) : ∀ s, wmStar f s = gstar f s
  | [] => rfl
  | x :: s => by rw [wmStar, gstar, wmStar_g f s]
theorem wm_g : ∀ p : List UInt8, wm p = gm bStar bOne p
  | [] => rfl
  | c :: p => by
    have ih := wm_g p
    funext s
    rw [wm, gm]
    unfold bStar
    by_cases h : c = 42
    · rw [if_pos h, if_pos (decide_eq_true h), wmStar_g, ih]
      rfl
    · rw [if_neg h, if_neg (by rw [decide_eq_false h]; simp)]
      cases s with
      | nil => rfl
      | cons x s => simp only [ih]; rfl
theorem mtStar_g (f : List ByteArray → Bool) : ∀ s, mtStar f s = gstar f s
  | [] => rfl
  | x :: s => by rw [mtStar, gstar, mtStar_g f s]
theorem mt_g : ∀ p : List ByteArray, mt p = gm cStar oneS p
  | [] => rfl
  | c :: p => by
    have ih := mt_g p
    funext s
    rw [mt, gm]
    unfold cStar
    by_cases h : c.data.toList = [42, 42]
    · rw [if_pos h, if_pos (decide_eq_true h), mtStar_g, ih]
      rfl
    · rw [if_neg h, if_neg (by rw [decide_eq_false h]; simp)]
      cases s with
      | nil => rfl
      | cons x s => simp only [ih]; rfl

theorem mt_append {P Q X Y : List ByteArray} (h1 : mt P X = true) (h2 : mt Q Y = true) : mt (P ++ Q) (X ++ Y) = true := by
  rw [mt_g] at h1 h2 ⊢
  rw [gm_append]
  exact ⟨X.length, by simp, by rw [List.take_left' rfl]; exact h1, by rw [List.drop_left' rfl]; exact h2⟩
theorem mt_any (N : List ByteArray) : mt [⟨#[42, 42]⟩] N = true := by
  rw [mt_g]
  exact gm_anything (by kernel_rfl) N
/-- a name as a component matches itself only -/
theorem wm_literal : ∀ {c x : List UInt8}, 42 ∉ c → 63 ∉ c → wm c x = true → x = c
  | [], x, _, _, h => List.isEmpty_iff.1 h
  | c :: p, x, h1, h2, h => by
    have a1 : ¬ c = 42 := fun e => h1 (by simp [e])
    have a2 : ¬ c = 63 := fun e => h2 (by simp [e])
    rw [wm, if_neg a1] at h
    match x, h with
    | y :: x, h =>
      rw [Bool.and_eq_true, Bool.or_eq_true, decide_eq_true_eq, decide_eq_true_eq] at h
      rw [wm_literal (fun e => h1 (by simp [e])) (fun e => h2 (by simp [e])) h.2, h.1.elim (fun e => absurd e a2) Eq.symm]
theorem name_free63 {x : ByteArray} (h : isName x = true) : 63 ∉ x.data.toList := by
  unfold isName consists at h
  rw [Bool.and_eq_true, List.all_eq_true] at h
  exact fun hm => absurd (h.1 63 hm) (by decide +kernel)
theorem mt_literal : ∀ {P X : List ByteArray}, (∀ x ∈ P, isName x = true) → mt P X = true → X = P
  | [], X, _, h => List.isEmpty_iff.1 h
  | c :: p, X, hp, h => by
    have hc := hp c (by simp)
    have hs := (name_free hc).1
    match X, h with
    | [], h => rw [mt_cons_nil (free_star hs)] at h; cases h
    | y :: X, h =>
      rw [mt_cons_one (free_star hs), Bool.and_eq_true] at h
      have e : y = c := Go.WideShapes.bytes_inj (wm_literal hs (name_free63 hc) h.1)
      rw [mt_literal (fun x hx => hp x (by simp [hx])) h.2, e]

/-- joined strings -/
def jn (a b : ByteArray) : ByteArray := a ++ (⟨#[47]⟩ : ByteArray) ++ b
theorem jn_data (a b : ByteArray) : (jn a b).data.toList = a.data.toList ++ 47 :: b.data.toList := by unfold jn; rw [app_data, app_data]; simp
theorem jn_size (a b : ByteArray) : (jn a b).size = a.size + 1 + b.size := by
  unfold jn
  rw [ByteArray.size_append, ByteArray.size_append]; rfl
theorem jn_comps (a b : ByteArray) : comps (jn a b) = comps a ++ comps b := comps_append (jn_data a b)
theorem within_jn {perm : ByteArray → Bool} {a b : ByteArray} (ha : (comps a).all perm = true) (hb : (comps b).all perm = true) (hs : a.size + 1 + b.size ≤ 200) (hl : (comps a).length + (comps b).length ≤ 20) : within perm (jn a b) = true := by
  unfold within
  rw [jn_size, jn_comps, List.length_append, List.all_append, ha, hb, decide_eq_true hs, decide_eq_true hl]; rfl
theorem within_all {perm : ByteArray → Bool} {s : ByteArray} (h : within perm s = true) : (comps s).all perm = true := by
  unfold within at h
  rw [Bool.and_eq_true, Bool.and_eq_true] at h
  exact h.2.2
theorem jn_ne (a b : ByteArray) : partsL (jn a b) = comps (jn a b) := by
  unfold partsL
  rw [if_neg]
  rw [jn_data]
  simp
theorem pat_ne {s : ByteArray} (h : patS s = true) : partsL s = comps s := by
  unfold partsL
  rw [if_neg]
  intro e
  have hs : s = ByteArray.empty := Go.WideShapes.bytes_inj e
  subst hs
  exact absurd h (by decide +kernel)
def stars : ByteArray := ⟨#[42, 42]⟩
theorem stars_comps : comps stars = [stars] := comps_last (by decide)
theorem stars_all : (comps stars).all isComp = true := by rw [stars_comps]; decide +kernel
theorem stars_parts : partsL stars = [stars] := by rw [← stars_comps]; exact pat_ne (by decide +kernel)
theorem match_stars {x : ByteArray} (h : validS x = true) : matchS stars x = true := by
  unfold matchS
  rw [h, stars_parts, show patS stars = true by decide +kernel, show stars = ⟨#[42, 42]⟩ from rfl, mt_any]
  rfl
/-- y/** matches what lies under y -/
theorem match_under {x y : ByteArray} (hx : validS x = true) (hy : validS y = true) (hs : y.size + 1 + 2 ≤ 200) (hl : (comps y).length + 1 ≤ 20) : matchS (jn y stars) x = underS x y := by
  have hp : patS (jn y stars) = true := within_jn (within_all (valid_pat hy)) stars_all (by rw [show stars.size = 2 from rfl]; exact hs) (by rw [stars_comps]; exact hl)
  unfold matchS
  rw [hp, hx, Bool.true_and, Bool.true_and, jn_ne, jn_comps, stars_comps, ← prefB_under, valid_ne hx, valid_ne hy, Bool.eq_iff_iff, mt_g, gm_append]
  unfold prefB
  rw [decide_eq_true_eq]
  constructor
  · rintro ⟨k, hk, h1, _⟩
    rw [← mt_g] at h1
    have := mt_literal (comps_all hy).2.2 h1
    rw [← this, List.length_take, Nat.min_eq_left hk]
  · intro h
    refine ⟨(comps y).length, ?_, ?_, gm_anything (by kernel_rfl) _⟩
    · have := congrArg List.length h
      rw [List.length_take] at this
      omega
    · rw [h, ← mt_g]
      exact mt_self (fun z hz => (name_free ((comps_all hy).2.2 z hz)).1)
theorem match_jn {a b x y : ByteArray} (h1 : matchS a x = true) (h2 : matchS b y = true) (hs : a.size + 1 + b.size ≤ 200) (hl : (comps a).length + (comps b).length ≤ 20) (hs2 : x.size + 1 + y.size ≤ 200) (hl2 : (comps x).length + (comps y).length ≤ 20) : matchS (jn a b) (jn x y) = true := by
  unfold matchS at h1 h2 ⊢
  rw [Bool.and_eq_true, Bool.and_eq_true] at h1 h2
  obtain ⟨a1, a2, a3⟩ := h1
  obtain ⟨b1, b2, b3⟩ := h2
  rw [pat_ne a1, valid_ne a2] at a3
  rw [pat_ne b1, valid_ne b2] at b3
  have e1 : patS (jn a b) = true := within_jn (within_all a1) (within_all b1) hs hl
  have e2 : validS (jn x y) = true := within_jn (within_all a2) (within_all b2) hs2 hl2
  rw [e1, e2, jn_ne, jn_ne, jn_comps, jn_comps, mt_append a3 b3]
  rfl

end Go.Proofs.YtdbikaffmpkgpaaDoor
