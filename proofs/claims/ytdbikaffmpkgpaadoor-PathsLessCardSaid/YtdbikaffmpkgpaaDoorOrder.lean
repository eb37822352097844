/- lastSlash, Dir, Base, equalAtStart, Less, Under. -/
import Derived.Test.YtdbikaffmpkgpaaDoorCut
namespace Go.Proofs.YtdbikaffmpkgpaaDoor
open Go.RowKit

/-- how many bytes there are up to the last slash -/
def lastP : List UInt8 → Nat
  | [] => 0
  | c :: t => if 0 < lastP t then lastP t + 1 else if c = 47 then 1 else 0
theorem lastP_le (l : List UInt8) : lastP l ≤ l.length := by
  induction l with
  | nil => exact Nat.le_refl _
  | cons c t ih => rw [lastP, List.length_cons]; split <;> (try split) <;> omega
theorem lastP_free {l : List UInt8} (h : 47 ∉ l) : lastP l = 0 := by
  induction l with
  | nil => rfl
  | cons c t ih =>
    have h1 : ¬ c = 47 := fun e => h (by simp [e])
    have h2 : 47 ∉ t := fun e => h (by simp [e])
    rw [lastP, ih h2, if_neg (by omega), if_neg h1]
theorem lastP_cut {a b : List UInt8} (h : 47 ∉ b) : lastP (a ++ 47 :: b) = a.length + 1 := by
  induction a with
  | nil => rw [List.nil_append, lastP, lastP_free h]; rfl
  | cons c t ih => rw [List.cons_append, lastP, ih, if_pos (by omega), List.length_cons]
theorem lastP_of (s : ByteArray) (n : Nat) (hn : n ≤ s.size) (h1 : ∀ j (h : j < s.size), n ≤ j → s[j] ≠ 47) (h2 : 0 < n → ∀ h : n - 1 < s.size, s[n - 1] = 47) : lastP s.data.toList = n := by
  have hfree : 47 ∉ s.data.toList.drop n := by
    intro hm
    obtain ⟨j, hj, he⟩ := List.getElem_of_mem hm
    rw [List.getElem_drop] at he
    rw [List.length_drop, data_len] at hj
    exact h1 (n + j) (by omega) (by omega) he
  rcases Nat.eq_zero_or_pos n with h0 | h0
  · subst h0
    exact lastP_free hfree
  · have hd := drop_at s (n - 1) (by omega)
    rw [h2 h0 (by omega), show n - 1 + 1 = n by omega] at hd
    have he := List.take_append_drop (n - 1) s.data.toList
    rw [hd] at he
    rw [← he, lastP_cut hfree, List.length_take, data_len]
    omega

set_option maxRecDepth 100000 in
set_option maxHeartbeats 1000000 in
theorem lastSlash_any (s : ByteArray) (w : World) (hs : s.size ≤ maxLen) : Calls Tryd.prog 47 #[.string s] w fun e w' => e = .returned (.int .i64 ((lastP s.data.toList : Int) - 1)) ∧ w = w' := by
  unfold maxLen at hs
  obtain ⟨R, HR⟩ : ∃ R, Hid (lastP s.data.toList = R) := ⟨_, Lib.hid rfl⟩
  rw [HR.out]
  have e0 : IntKind.i64.wrap ((s.size : Int) - 1) = (s.size : Int) - 1 := by simp [IntKind.wrap, IntKind.bits, IntKind.signed]; omega
  go_enter Tryd.func47, Tryd.ntmps47
  go_wp2
  go_loop [3] (fun v3 => ∃ n : Nat, n ≤ s.size ∧ v3 = .int .i64 ((n : Int) - 1) ∧ Hid (∀ j (h : j < s.size), n ≤ j → s[j] ≠ 47)) (fun v3 => (intOf v3 + 1).toNat)
  case atStart => exact ⟨s.size, by omega, rfl, Lib.hid (fun j _ hj => by omega)⟩
  case round =>
    obtain ⟨n, hn, rfl, HK⟩ := hrel
    rcases Nat.eq_zero_or_pos n with h0 | h0
    · subst h0
      have hR : R = 0 := by rw [← HR.out]; exact lastP_of s 0 (by omega) HK.out (fun h => by omega)
      subst hR
      go_wp2
      go_ret
      exact ⟨rfl, rfl⟩
    · obtain ⟨k, rfl⟩ : ∃ k, n = k + 1 := ⟨n - 1, by omega⟩
      have hlt : k < s.size := by omega
      have e1 : ((k + 1 : Nat) : Int) - 1 = (k : Int) := by omega
      rw [e1]
      have hi0 : (0 : Int) ≤ (k : Int) := Int.natCast_nonneg _
      have hi1 : (k : Int) < (s.size : Int) := by omega
      have ew : IntKind.i64.wrap ((k : Int) - 1) = (k : Int) - 1 := by simp [IntKind.wrap, IntKind.bits, IntKind.signed]; omega
      by_cases h47 : s[k] = 47
      · have hcb : ((s[k].toNat : Int) == 47) = true := by rw [h47]; rfl
        have hcn : s[k].toNat = 47 := by rw [h47]; rfl
        have hR : R = k + 1 := by rw [← HR.out]; exact lastP_of s (k + 1) (by omega) HK.out (fun _ _ => h47)
        subst hR
        clear h47
        go_wp2
        go_ret
        exact ⟨rfl, rfl⟩
      · have hcn : ¬ s[k].toNat = 47 := fun e => h47 (UInt8.toNat_inj.1 e)
        have hcb : ((s[k].toNat : Int) == 47) = false := by rw [beq_eq_false_iff_ne]; omega
        have H := Lib.hid h47
        clear h47
        go_wp2
        go_round
        case rel =>
          refine ⟨k, by omega, by go_num, Lib.hid (fun j h hj => ?_)⟩
          rcases Nat.lt_or_ge k j with h' | h'
          · exact HK.out j h h'
          · obtain rfl : j = k := by omega
            exact H.out
        case measure => simp [intOf]

def dirOf (s : ByteArray) : ByteArray := s.extract 0 (lastP s.data.toList - 1)
def baseOf (s : ByteArray) : ByteArray := s.extract (lastP s.data.toList) s.size

set_option maxRecDepth 100000 in
theorem dir_any (s : ByteArray) (w : World) (hs : s.size ≤ maxLen) : Calls Tryd.prog 26 #[.string s] w fun e w' => e = .returned (.string (dirOf s)) ∧ w = w' := by
  have hl := lastP_le s.data.toList
  rw [data_len] at hl
  have C := lastSlash_any s w hs
  unfold maxLen at hs
  unfold dirOf
  obtain ⟨n, hn⟩ : ∃ n, lastP s.data.toList = n := ⟨_, rfl⟩
  rw [hn] at hl C ⊢
  have HC := Lib.hid C
  clear hn C
  rcases Nat.eq_zero_or_pos n with h0 | h0
  · subst h0
    have hx : s.extract 0 (0 - 1) = ByteArray.empty := Go.WideShapes.bytes_inj (by rw [Lib.extract_data]; rfl)
    rw [hx]
    go_enter Tryd.func26, Tryd.ntmps26
    go_wp2_with (go_at_call 47; ((with_reducible refine HC.out.mono ?_); rintro e w1 ⟨rfl, rfl⟩))
    go_ret
    exact ⟨rfl, rfl⟩
  · obtain ⟨k, rfl⟩ : ∃ k, n = k + 1 := ⟨n - 1, by omega⟩
    have e1 : ((k + 1 : Nat) : Int) - 1 = (k : Int) := by omega
    have e2 : k + 1 - 1 = k := by omega
    rw [e1] at HC
    rw [e2]
    have hi0 : (0 : Int) ≤ (k : Int) := Int.natCast_nonneg _
    have hi1 : (k : Int) ≤ (s.size : Int) := by omega
    have em : max (k : Int) 0 = (k : Int) := by omega
    go_enter Tryd.func26, Tryd.ntmps26
    go_wp2_with (go_at_call 47; ((with_reducible refine HC.out.mono ?_); rintro e w1 ⟨rfl, rfl⟩))
    go_ret
    exact ⟨rfl, rfl⟩

set_option maxRecDepth 100000 in
theorem base_any (s : ByteArray) (w : World) (hs : s.size ≤ maxLen) : Calls Tryd.prog 28 #[.string s] w fun e w' => e = .returned (.string (baseOf s)) ∧ w = w' := by
  have hl := lastP_le s.data.toList
  rw [data_len] at hl
  have C := lastSlash_any s w hs
  unfold maxLen at hs
  unfold baseOf
  obtain ⟨n, hn⟩ : ∃ n, lastP s.data.toList = n := ⟨_, rfl⟩
  rw [hn] at hl C ⊢
  have HC := Lib.hid C
  clear hn C
  have hi0 : (0 : Int) ≤ (n : Int) := Int.natCast_nonneg _
  have hi1 : (n : Int) ≤ (s.size : Int) := by omega
  have e1 : IntKind.i64.wrap ((n : Int) - 1 + 1) = (n : Int) := by simp [IntKind.wrap, IntKind.bits, IntKind.signed]; omega
  go_enter Tryd.func28, Tryd.ntmps28
  go_wp2_with (go_at_call 47; ((with_reducible refine HC.out.mono ?_); rintro e w1 ⟨rfl, rfl⟩))
  go_ret
  exact ⟨rfl, rfl⟩

/-- how many bytes at the beginnings are equal -/
def eqP : List UInt8 → List UInt8 → Nat
  | x :: a, y :: b => if x = y then eqP a b + 1 else 0
  | _, _ => 0
theorem eqP_of (a b : ByteArray) (n : Nat) (h1 : n ≤ a.size) (h2 : n ≤ b.size) (h3 : ∀ j (ha : j < a.size) (hb : j < b.size), j < n → a[j] = b[j]) (h4 : ∀ (ha : n < a.size) (hb : n < b.size), a[n] ≠ b[n]) : eqP a.data.toList b.data.toList = n := by
  suffices ∀ (n : Nat) (x y : List UInt8), n ≤ x.length → n ≤ y.length → (∀ j (ha : j < x.length) (hb : j < y.length), j < n → x[j] = y[j]) → (∀ (ha : n < x.length) (hb : n < y.length), x[n] ≠ y[n]) → eqP x y = n from
    this n _ _ (by rw [data_len]; exact h1) (by rw [data_len]; exact h2) (fun j ha hb hj => h3 j (by simpa using ha) (by simpa using hb) hj) (fun ha hb => h4 (by simpa using ha) (by simpa using hb))
  intro n
  induction n with
  | zero =>
    intro x y _ _ _ h4
    match x, y, h4 with
    | [], _, _ => rw [eqP]; simp
    | _ :: _, [], _ => rw [eqP]; simp
    | a :: x, b :: y, h4 => rw [eqP, if_neg (show ¬ a = b from h4 (by simp) (by simp))]
  | succ n ih =>
    intro x y h1 h2 h3 h4
    match x, y, h1, h2, h3, h4 with
    | a :: x, b :: y, h1, h2, h3, h4 =>
      have e : a = b := h3 0 (by simp) (by simp) (by omega)
      rw [eqP, if_pos e, ih x y (by simpa using h1) (by simpa using h2) (fun j ha hb hj => h3 (j + 1) (by simpa using ha) (by simpa using hb) (by omega)) (fun ha hb => h4 (by simpa using ha) (by simpa using hb))]
theorem eqP_le : ∀ a b : List UInt8, eqP a b ≤ a.length ∧ eqP a b ≤ b.length
  | [], _ => by simp [eqP]
  | _ :: _, [] => by simp [eqP]
  | x :: a, y :: b => by
    have := eqP_le a b
    rw [eqP, List.length_cons, List.length_cons]
    split <;> omega

set_option maxRecDepth 100000 in
set_option maxHeartbeats 1000000 in
theorem equalAt_any (a b : ByteArray) (w : World) (ha : a.size ≤ maxLen) (hb : b.size ≤ maxLen) : Calls Tryd.prog 48 #[.string a, .string b] w fun e w' => e = .returned (.int .i64 (eqP a.data.toList b.data.toList : Int)) ∧ ∃ q, w' = w.drewN q := by
  unfold maxLen at ha hb
  obtain ⟨R, HR⟩ : ∃ R, Hid (eqP a.data.toList b.data.toList = R) := ⟨_, Lib.hid rfl⟩
  rw [HR.out]
  obtain ⟨m, hm⟩ : ∃ m, min a.size b.size = m := ⟨_, rfl⟩
  have hma : m ≤ a.size := by omega
  have hmb : m ≤ b.size := by omega
  have hmi : (if (b.size : Int) < (a.size : Int) then (b.size : Int) else (a.size : Int)) = (m : Int) := by split <;> omega
  have hmi2 : (if b.size < a.size then (b.size : Int) else (a.size : Int)) = (m : Int) := by split <;> omega
  have hmi3 : (if a.size ≤ b.size then (a.size : Int) else (b.size : Int)) = (m : Int) := by split <;> omega
  have hmn : min (a.size : Int) (b.size : Int) = (m : Int) := by omega
  have HM : Hid (m = a.size ∨ m = b.size) := Lib.hid (by omega)
  clear hm
  go_enter Tryd.func48, Tryd.ntmps48
  go_wp2
  go_loopw [5] (fun v5 wr => ∃ k q : Nat, k ≤ m ∧ v5 = .int .i64 k ∧ wr = w.drewN q ∧ Hid (∀ j (h1 : j < a.size) (h2 : j < b.size), j < k → a[j] = b[j])) (fun v5 _ => m - (intOf v5).toNat)
  case atStart => exact ⟨0, 0, by omega, rfl, rfl, Lib.hid (fun j _ _ hj => by omega)⟩
  case round =>
    obtain ⟨k, q, hk, rfl, rfl, HE⟩ := hrel
    have hi0 : (0 : Int) ≤ (k : Int) := Int.natCast_nonneg _
    by_cases hlt : k < m
    · have hi1 : (k : Int) < (m : Int) := by omega
      have hi2 : (k : Int) < (a.size : Int) := by omega
      have hi3 : (k : Int) < (b.size : Int) := by omega
      have hka : k < a.size := by omega
      have hkb : k < b.size := by omega
      by_cases hst : a[k] = b[k]
      · have hbb : ((a[k].toNat : Int) == (b[k].toNat : Int)) = true := by rw [hst]; simp
        have hbn : a[k].toNat = b[k].toNat := by rw [hst]
        have HST := Lib.hid hst
        clear hst
        go_wp2_with fail
        go_quiet (fail)
        go_wp2
        go_roundw
        case rel =>
          refine ⟨k + 1, _, by omega, by go_num, rfl, Lib.hid (fun j h1 h2 hj => ?_)⟩
          rcases Nat.lt_or_ge j k with h | h
          · exact HE.out j h1 h2 h
          · obtain rfl : j = k := by omega
            exact HST.out
        case measure => simp [intOf]; omega
      · have hbn : ¬ a[k].toNat = b[k].toNat := fun e => hst (UInt8.toNat_inj.1 e)
        have hbb : ((a[k].toNat : Int) == (b[k].toNat : Int)) = false := by rw [beq_eq_false_iff_ne]; omega
        have hR : R = k := by
          rw [← HR.out]
          exact eqP_of a b k (by omega) (by omega) (fun j h1 h2 hj => HE.out j h1 h2 hj) (fun h1 h2 => hst)
        have HR2 := Lib.hid hR
        clear hst hR
        go_wp2_with fail
        go_quiet (fail)
        go_wp2
        go_ret
        refine ⟨by rw [HR2.out]; rfl, ?_⟩
        rw [World.drewN_drewN]
        exact ⟨_, rfl⟩
    · obtain rfl : k = m := by omega
      have hR : R = k := by
        rw [← HR.out]
        have := HM.out
        exact eqP_of a b k (by omega) (by omega) (fun j h1 h2 hj => HE.out j h1 h2 hj) (fun h1 h2 => by omega)
      have HR2 := Lib.hid hR
      clear hR
      go_wp2_with fail
      go_quiet (fail)
      go_wp2
      go_ret
      refine ⟨by rw [HR2.out]; rfl, ?_⟩
      rw [World.drewN_drewN]
      exact ⟨_, rfl⟩

/-- the order of paths on bytes: a slash comes before every byte -/
def lessB : List UInt8 → List UInt8 → Bool
  | [], [] => false
  | [], _ :: _ => true
  | _ :: _, [] => false
  | x :: a, y :: b => if x = y then lessB a b else if x = 47 ∨ y = 47 then decide (x = 47) else decide (x < y)
theorem lessB_short : ∀ a b : List UInt8, eqP a b = a.length ∨ eqP a b = b.length → lessB a b = decide (a.length < b.length)
  | [], [], _ => rfl
  | [], _ :: _, _ => by simp [lessB]
  | _ :: _, [], _ => by simp [lessB]
  | x :: a, y :: b, h => by
    rw [lessB]
    rw [eqP, List.length_cons, List.length_cons] at h
    by_cases e : x = y
    · rw [if_pos e] at h ⊢
      rw [lessB_short a b (by omega)]
      simp
    · rw [if_neg e] at h
      omega
theorem lessB_at : ∀ (a b : List UInt8) (n : Nat), eqP a b = n → ∀ (ha : n < a.length) (hb : n < b.length), a[n] ≠ b[n] ∧ lessB a b = if a[n] = 47 ∨ b[n] = 47 then decide (a[n] = 47) else decide (a[n] < b[n])
  | [], _, n, _, ha, _ => by simp at ha
  | _ :: _, [], n, _, _, hb => by simp at hb
  | x :: a, y :: b, n, h, ha, hb => by
    rw [eqP] at h
    by_cases e : x = y
    · rw [if_pos e] at h
      subst h
      have := lessB_at a b _ rfl (by simpa using ha) (by simpa using hb)
      rw [lessB, if_pos e]
      exact this
    · rw [if_neg e] at h
      subst h
      rw [lessB, if_neg e]
      exact ⟨e, rfl⟩
def lessS (a b : ByteArray) : Bool := lessB a.data.toList b.data.toList

set_option maxRecDepth 100000 in
set_option maxHeartbeats 1000000 in
theorem less_any (a b : ByteArray) (w : World) (ha : a.size ≤ maxLen) (hb : b.size ≤ maxLen) : Calls Tryd.prog 32 #[.string a, .string b] w fun e w' => e = .returned (.bool (lessS a b)) ∧ ∃ q, w' = w.drewN q := by
  have C := equalAt_any a b w ha hb
  have hl := eqP_le a.data.toList b.data.toList
  have hs := lessB_short a.data.toList b.data.toList
  unfold maxLen at ha hb
  obtain ⟨R, HR⟩ : ∃ R, Hid (lessS a b = R) := ⟨_, Lib.hid rfl⟩
  rw [HR.out]
  have hR := HR.out
  unfold lessS at hR
  obtain ⟨n, hn⟩ : ∃ n, eqP a.data.toList b.data.toList = n := ⟨_, rfl⟩
  have ht := lessB_at a.data.toList b.data.toList n hn
  rw [hR] at hs ht
  simp only [data_len] at hs ht hl
  simp only [hn] at C hl hs
  clear hn hR
  have HC := Lib.hid C
  have hi0 : (0 : Int) ≤ (n : Int) := Int.natCast_nonneg _
  clear C
  by_cases he : n = a.size ∨ n = b.size
  · have h1 := hs he
    clear hs ht
    have hlen : decide ((a.size : Int) < (b.size : Int)) = R := by rw [h1]; simp
    have hlen2 : decide (a.size < b.size) = R := h1.symm
    by_cases hna : n = a.size
    · have he := hna
      have e1 : ((n : Int) == (a.size : Int)) = true := by rw [he]; simp
      have e2 : (n : Int) = (a.size : Int) := by omega
      have H := Lib.hid hlen2
      clear h1 hlen hlen2
      go_enter Tryd.func32, Tryd.ntmps32
      go_wp2_with (go_at_call 48; ((with_reducible refine HC.out.mono ?_); rintro e w1 ⟨rfl, q, rfl⟩))
      go_ret
      exact ⟨by rw [← H.out]; simp, q, rfl⟩
    · have he : n = b.size := by omega
      have e1 : ((n : Int) == (b.size : Int)) = true := by rw [he]; simp
      have e3 : ((b.size : Int) == (a.size : Int)) = false := by rw [beq_eq_false_iff_ne]; omega
      have e4 : ((n : Int) == (a.size : Int)) = false := by rw [beq_eq_false_iff_ne]; omega
      have e5 : ¬ b.size = a.size := by omega
      have e2 : (n : Int) = (b.size : Int) := by omega
      have H := Lib.hid hlen2
      clear h1 hlen hlen2
      go_enter Tryd.func32, Tryd.ntmps32
      go_wp2_with (go_at_call 48; ((with_reducible refine HC.out.mono ?_); rintro e w1 ⟨rfl, q, rfl⟩))
      go_ret
      exact ⟨by rw [← H.out]; simp, q, rfl⟩
  · have h1 : n < a.size := by omega
    have h2 : n < b.size := by omega
    obtain ⟨hne, hv⟩ := ht h1 h2
    rw [data_at a n h1, data_at b n h2] at hne hv
    have i1 : (n : Int) < (a.size : Int) := by omega
    have i2 : (n : Int) < (b.size : Int) := by omega
    have i3 : ((n : Int) == (a.size : Int)) = false := by rw [beq_eq_false_iff_ne]; omega
    have i4 : ((n : Int) == (b.size : Int)) = false := by rw [beq_eq_false_iff_ne]; omega
    have i5 : ¬ (n : Int) = (a.size : Int) := by omega
    have i6 : ¬ (n : Int) = (b.size : Int) := by omega
    have i7 : ¬ n = a.size := by omega
    have i8 : ¬ n = b.size := by omega
    clear hs ht he hl
    by_cases ha47 : a[n] = 47
    · have k1 : a[n].toNat = 47 := by rw [ha47]; rfl
      have k2 : ((a[n].toNat : Int) == 47) = true := by rw [k1]; rfl
      have hR : R = true := by rw [hv, if_pos (.inl ha47), decide_eq_true ha47]
      subst hR
      clear hv ha47 hne
      go_enter Tryd.func32, Tryd.ntmps32
      go_wp2_with (go_at_call 48; ((with_reducible refine HC.out.mono ?_); rintro e w1 ⟨rfl, q, rfl⟩))
      go_ret
      exact ⟨rfl, q, rfl⟩
    · have k1 : ¬ a[n].toNat = 47 := fun e => ha47 (UInt8.toNat_inj.1 e)
      have k2 : ((a[n].toNat : Int) == 47) = false := by rw [beq_eq_false_iff_ne]; omega
      by_cases hb47 : b[n] = 47
      · have k3 : b[n].toNat = 47 := by rw [hb47]; rfl
        have k4 : ((b[n].toNat : Int) == 47) = true := by rw [k3]; rfl
        have hR : R = false := by rw [hv, if_pos (.inr hb47), decide_eq_false ha47]
        subst hR
        clear hv ha47 hb47 hne
        go_enter Tryd.func32, Tryd.ntmps32
        go_wp2_with (go_at_call 48; ((with_reducible refine HC.out.mono ?_); rintro e w1 ⟨rfl, q, rfl⟩))
        go_ret
        exact ⟨rfl, q, rfl⟩
      · have k3 : ¬ b[n].toNat = 47 := fun e => hb47 (UInt8.toNat_inj.1 e)
        have k4 : ((b[n].toNat : Int) == 47) = false := by rw [beq_eq_false_iff_ne]; omega
        rw [if_neg (by rintro (h | h); exact ha47 h; exact hb47 h)] at hv
        have hv2 : decide (a[n].toNat < b[n].toNat) = R := hv.symm
        have H := Lib.hid hv2
        clear hv ha47 hb47 hne hv2
        go_enter Tryd.func32, Tryd.ntmps32
        go_wp2_with (go_at_call 48; ((with_reducible refine HC.out.mono ?_); rintro e w1 ⟨rfl, q, rfl⟩))
        go_quiet (fail)
        go_wp2
        go_ret
        refine ⟨by rw [← H.out]; simp, ?_⟩
        rw [World.drewN_drewN]
        exact ⟨_, rfl⟩

/-- p lies under d -/
def underB (p d : List UInt8) : Bool := decide (d = []) || decide (p = d) || (d ++ [47]).isPrefixOf p
def underS (p d : ByteArray) : Bool := underB p.data.toList d.data.toList

end Go.Proofs.YtdbikaffmpkgpaaDoor
