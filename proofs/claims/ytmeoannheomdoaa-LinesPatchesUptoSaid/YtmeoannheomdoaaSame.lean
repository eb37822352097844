/- Same, SameHunks, SameSpans. -/
import Derived.Test.YtmeoannheomdoaaEqual
namespace Go.Proofs.Ytmeoannheomdoaa
open Go.RowKit
instance hkEq : DecidableEq Hk := fun a b => decidable_of_iff (a.a0 = b.a0 ∧ a.a1 = b.a1 ∧ a.b0 = b.b0 ∧ a.b1 = b.b1) ⟨fun ⟨h0, h1, h2, h3⟩ => by cases a; cases b; simp_all, fun h => by subst h; exact ⟨rfl, rfl, rfl, rfl⟩⟩

set_option maxRecDepth 100000 in
set_option maxHeartbeats 1000000 in
theorem same_any (M : Nat) (A B : Option Addr) (a b : List ByteArray) (c d : Nat) (w : World) (hA : Strs w M A c a) (hB : Strs w M B d b) (ha : a.length ≤ 1152921504606846975) (hb : b.length ≤ 1152921504606846975) :
    Calls Try.prog 17 #[.slice A a.length c, .slice B b.length d] w (QBool w (decide (a = b))) := by
  by_cases hlen : a.length = b.length
  · obtain ⟨m, hm⟩ : ∃ m, b.length = m := ⟨_, rfl⟩
    have hma : a.length = m := hlen.trans hm
    obtain ⟨R, HR⟩ : ∃ R, Hid (decide (a = b) = R) := ⟨_, Lib.hid rfl⟩
    rw [HR.out]
    have hcapa := hA.cap
    have hcapb := hB.cap
    have HMA := Lib.hid hma
    have HMB := Lib.hid hm
    rw [hm] at hcapb hb ⊢
    rw [hma] at hcapa ha ⊢
    clear hlen hm hma hb
    go_enter Try.func17, Try.ntmps17
    go_wp2
    go_loopw [5] (fun i wr => ∃ k q : Nat, k ≤ m ∧ i = .int .i64 k ∧ wr = w.drewN q ∧ Hid (∀ j (h1 : j < a.length) (h2 : j < b.length), j < k → a[j] = b[j])) (fun i _ => m - (intOf i).toNat)
    case atStart => exact ⟨0, 0, by omega, rfl, rfl, Lib.hid (fun j _ _ hj => by omega)⟩
    case round =>
      obtain ⟨k, q, hk, rfl, rfl, HE⟩ := hrel
      have hi0 : (0 : Int) ≤ (k : Int) := Int.natCast_nonneg _
      by_cases hlt : k < m
      · have hka : k < a.length := by rw [HMA.out]; exact hlt
        have hkb : k < b.length := by rw [HMB.out]; exact hlt
        obtain ⟨ad, rfl, _, hca⟩ := hA.at_ (k := k) hka
        obtain ⟨bd, rfl, _, hcb⟩ := hB.at_ (k := k) hkb
        obtain ⟨s, HS⟩ : ∃ s, Hid (a[k]'hka = s) := ⟨_, Lib.hid rfl⟩
        obtain ⟨t, HT⟩ : ∃ t, Hid (b[k]'hkb = t) := ⟨_, Lib.hid rfl⟩
        rw [HS.out] at hca
        rw [HT.out] at hcb
        have hi1 : (k : Int) < (m : Int) := by omega

        by_cases hst : s.toList = t.toList
        · have hbb : (s.toList == t.toList) = true := by simpa using hst
          have HST := Lib.hid hst
          clear hst
          go_wp2_with fail
          go_quiet (fail)
          go_wp2
          go_roundw
          case rel =>
            refine ⟨k + 1, _, by omega, by go_num, rfl, Lib.hid (fun j h1 h2 hj => ?_)⟩
            rcases Nat.lt_or_ge j k with h | h
            · exact HE.out j h1 h2 h
            · obtain rfl : j = k := by omega
              rw [HS.out, HT.out]
              rw [eq_of_data HST.out]
          case measure => simp [intOf]; omega
        · have hbb : (s.toList == t.toList) = false := by simpa using hst
          have hR : R = false := by
            rw [← HR.out, decide_eq_false_iff_not]
            rintro rfl
            apply hst
            have := HS.out.symm.trans HT.out
            rw [this]
          have HR2 := Lib.hid hR
          clear hst hR
          go_wp2_with fail
          go_quiet (fail)
          go_wp2
          go_ret
          refine ⟨by rw [HR2.out]; rfl, ?_⟩
          rw [World.drewN_drewN]
          exact ⟨_, rfl⟩
      · obtain rfl : k = m := by omega
        have hR : R = true := by
          rw [← HR.out, decide_eq_true_eq]
          refine List.ext_getElem (HMA.out.trans HMB.out.symm) fun j h1 h2 => HE.out j h1 h2 (by rw [← HMA.out]; exact h1)
        have HR2 := Lib.hid hR
        clear hR
        go_wp2_with fail
        go_ret
        refine ⟨by rw [HR2.out]; rfl, _, rfl⟩
  · have hR : decide (a = b) = false := by rw [decide_eq_false_iff_not]; rintro rfl; exact hlen rfl
    rw [hR]
    have hl : ¬ (a.length : Int) = (b.length : Int) := by omega
    have hl2 : ((a.length : Int) == (b.length : Int)) = false := by rw [beq_eq_false_iff_ne]; omega
    go_enter Try.func17, Try.ntmps17
    go_wp2
    go_ret
    exact ⟨rfl, 0, rfl⟩

theorem beq_int {x y : Nat} (h : ¬ x = y) : ((x : Int) == (y : Int)) = false := by rw [beq_eq_false_iff_ne]; omega
/-- the fields of a hunk in a slice -/
theorem hks_at {w : World} {B : Nat} {A : Option Addr} {c : Nat} {L : List Hk} (h : Hks w B A c L) {k : Nat} (hk : k < L.length) : ∃ ad, A = some ad ∧ w.cell? (ad.add (k * 4)) = some (.int .i64 (L[k].a0 : Int)) ∧ w.cell? ⟨(ad.add (k * 4)).block, (ad.add (k * 4)).off + 1, none⟩ = some (.int .i64 (L[k].a1 : Int)) ∧
    w.cell? ⟨(ad.add (k * 4)).block, (ad.add (k * 4)).off + 2, none⟩ = some (.int .i64 (L[k].b0 : Int)) ∧ w.cell? ⟨(ad.add (k * 4)).block, (ad.add (k * 4)).off + 3, none⟩ = some (.int .i64 (L[k].b1 : Int)) := by
  have hf := fun j hj => flat_at hkC 4 hkC_len L k j hk hj
  obtain ⟨ad, e, _, h0⟩ := h.2.2.2 (k * 4 + 0) _ (hf 0 (by omega))
  obtain ⟨ad1, e1, _, h1⟩ := h.2.2.2 (k * 4 + 1) _ (hf 1 (by omega))
  obtain ⟨ad2, e2, _, h2⟩ := h.2.2.2 (k * 4 + 2) _ (hf 2 (by omega))
  obtain ⟨ad3, e3, _, h3⟩ := h.2.2.2 (k * 4 + 3) _ (hf 3 (by omega))
  rw [e] at e1 e2 e3
  injection e1 with e1
  injection e2 with e2
  injection e3 with e3
  subst e1 e2 e3
  rw [← add_twice] at h1 h2 h3
  exact ⟨ad, e, h0, h1, h2, h3⟩
theorem sps_at {w : World} {B : Nat} {A : Option Addr} {c : Nat} {L : List (Nat × Nat)} (h : Sps w B A c L) {k : Nat} (hk : k < L.length) : ∃ ad, A = some ad ∧ w.cell? (ad.add (k * 2)) = some (.int .i64 (L[k].1 : Int)) ∧ w.cell? ⟨(ad.add (k * 2)).block, (ad.add (k * 2)).off + 1, none⟩ = some (.int .i64 (L[k].2 : Int)) := by
  have hf := fun j hj => flat_at spC 2 (fun _ => rfl) L k j hk hj
  obtain ⟨ad, e, _, h0⟩ := h.2.2.2 (k * 2 + 0) _ (hf 0 (by omega))
  obtain ⟨ad1, e1, _, h1⟩ := h.2.2.2 (k * 2 + 1) _ (hf 1 (by omega))
  rw [e] at e1
  injection e1 with e1
  subst e1
  rw [← add_twice] at h1
  exact ⟨ad, e, h0, h1⟩
theorem Hks.cap {w : World} {B : Nat} {A : Option Addr} {c : Nat} {L : List Hk} (h : Hks w B A c L) : L.length ≤ c := h.2.1
theorem Sps.cap {w : World} {B : Nat} {A : Option Addr} {c : Nat} {L : List (Nat × Nat)} (h : Sps w B A c L) : L.length ≤ c := h.2.1

set_option maxRecDepth 100000 in
set_option maxHeartbeats 1000000 in
theorem same_hunks (M : Nat) (A B : Option Addr) (a b : List Hk) (c d : Nat) (w : World) (hA : Hks w M A c a) (hB : Hks w M B d b) (ha : a.length ≤ 1152921504606846975) (hb : b.length ≤ 1152921504606846975) :
    Calls Try.prog 22 #[.slice A a.length c, .slice B b.length d] w (QBool w (decide (a = b))) := by
  by_cases hlen : a.length = b.length
  · obtain ⟨m, hm⟩ : ∃ m, b.length = m := ⟨_, rfl⟩
    have hma : a.length = m := hlen.trans hm
    obtain ⟨R, HR⟩ : ∃ R, Hid (decide (a = b) = R) := ⟨_, Lib.hid rfl⟩
    rw [HR.out]
    have hcapa := hA.cap
    have hcapb := hB.cap
    have HMA := Lib.hid hma
    have HMB := Lib.hid hm
    rw [hm] at hcapb hb ⊢
    rw [hma] at hcapa ha ⊢
    clear hlen hm hma hb
    go_enter Try.func22, Try.ntmps22
    go_wp2
    go_loopw [5] (fun i wr => ∃ k q : Nat, k ≤ m ∧ i = .int .i64 k ∧ wr = w.drewN q ∧ Hid (∀ j (h1 : j < a.length) (h2 : j < b.length), j < k → a[j] = b[j])) (fun i _ => m - (intOf i).toNat)
    case atStart => exact ⟨0, 0, by omega, rfl, rfl, Lib.hid (fun j _ _ hj => by omega)⟩
    case round =>
      obtain ⟨k, q, hk, rfl, rfl, HE⟩ := hrel
      have hi0 : (0 : Int) ≤ (k : Int) := Int.natCast_nonneg _
      by_cases hlt : k < m
      · have hka : k < a.length := by rw [HMA.out]; exact hlt
        have hkb : k < b.length := by rw [HMB.out]; exact hlt
        obtain ⟨ad, rfl, ha0, ha1, ha2, ha3⟩ := hks_at hA (k := k) hka
        obtain ⟨bd, rfl, hb0, hb1, hb2, hb3⟩ := hks_at hB (k := k) hkb
        obtain ⟨s, HS⟩ : ∃ s, Hid (a[k]'hka = s) := ⟨_, Lib.hid rfl⟩
        obtain ⟨t, HT⟩ : ∃ t, Hid (b[k]'hkb = t) := ⟨_, Lib.hid rfl⟩
        rw [HS.out] at ha0 ha1 ha2 ha3
        rw [HT.out] at hb0 hb1 hb2 hb3
        obtain ⟨s0, s1, s2, s3⟩ := s
        obtain ⟨t0, t1, t2, t3⟩ := t
        dsimp only at ha0 ha1 ha2 ha3 hb0 hb1 hb2 hb3
        have hi1 : (k : Int) < (m : Int) := by omega

        by_cases hst : s0 = t0 ∧ s1 = t1 ∧ s2 = t2 ∧ s3 = t3
        · obtain ⟨rfl, rfl, rfl, rfl⟩ := hst
          have hst : True := trivial
          have HST := Lib.hid hst
          clear hst
          go_wp2_with fail
          go_quiet (fail)
          go_wp2
          go_roundw
          case rel =>
            refine ⟨k + 1, _, by omega, by go_num, rfl, Lib.hid (fun j h1 h2 hj => ?_)⟩
            rcases Nat.lt_or_ge j k with h | h
            · exact HE.out j h1 h2 h
            · obtain rfl : j = k := by omega
              rw [HS.out, HT.out]
              skip
          case measure => simp [intOf]; omega
        · skip
          have hR : R = false := by
            rw [← HR.out, decide_eq_false_iff_not]
            rintro rfl
            apply hst
            have := HS.out.symm.trans HT.out
            injection this with q0 q1 q2 q3; exact ⟨q0, q1, q2, q3⟩
          have HR2 := Lib.hid hR
          have hcs : ¬ s0 = t0 ∨ (s0 = t0 ∧ ¬ s1 = t1) ∨ (s0 = t0 ∧ s1 = t1 ∧ ¬ s2 = t2) ∨ (s0 = t0 ∧ s1 = t1 ∧ s2 = t2 ∧ ¬ s3 = t3) := by omega
          clear hst hR
          rcases hcs with hq | ⟨rfl, hq⟩ | ⟨rfl, rfl, hq⟩ | ⟨rfl, rfl, rfl, hq⟩
          all_goals
            have hq2 := beq_int hq
            go_wp2_with fail
            go_quiet (fail)
            go_wp2
            go_ret
            refine ⟨by rw [HR2.out]; rfl, ?_⟩
            rw [World.drewN_drewN]
            exact ⟨_, rfl⟩
      · obtain rfl : k = m := by omega
        have hR : R = true := by
          rw [← HR.out, decide_eq_true_eq]
          refine List.ext_getElem (HMA.out.trans HMB.out.symm) fun j h1 h2 => HE.out j h1 h2 (by rw [← HMA.out]; exact h1)
        have HR2 := Lib.hid hR
        clear hR
        go_wp2_with fail
        go_ret
        refine ⟨by rw [HR2.out]; rfl, _, rfl⟩
  · have hR : decide (a = b) = false := by rw [decide_eq_false_iff_not]; rintro rfl; exact hlen rfl
    rw [hR]
    have hl : ¬ (a.length : Int) = (b.length : Int) := by omega
    have hl2 : ((a.length : Int) == (b.length : Int)) = false := by rw [beq_eq_false_iff_ne]; omega
    go_enter Try.func22, Try.ntmps22
    go_wp2
    go_ret
    exact ⟨rfl, 0, rfl⟩

set_option maxRecDepth 100000 in
set_option maxHeartbeats 1000000 in
theorem same_spans (M : Nat) (A B : Option Addr) (a b : List (Nat × Nat)) (c d : Nat) (w : World) (hA : Sps w M A c a) (hB : Sps w M B d b) (ha : a.length ≤ 1152921504606846975) (hb : b.length ≤ 1152921504606846975) :
    Calls Try.prog 31 #[.slice A a.length c, .slice B b.length d] w (QBool w (decide (a = b))) := by
  by_cases hlen : a.length = b.length
  · obtain ⟨m, hm⟩ : ∃ m, b.length = m := ⟨_, rfl⟩
    have hma : a.length = m := hlen.trans hm
    obtain ⟨R, HR⟩ : ∃ R, Hid (decide (a = b) = R) := ⟨_, Lib.hid rfl⟩
    rw [HR.out]
    have hcapa := hA.cap
    have hcapb := hB.cap
    have HMA := Lib.hid hma
    have HMB := Lib.hid hm
    rw [hm] at hcapb hb ⊢
    rw [hma] at hcapa ha ⊢
    clear hlen hm hma hb
    go_enter Try.func31, Try.ntmps31
    go_wp2
    go_loopw [5] (fun i wr => ∃ k q : Nat, k ≤ m ∧ i = .int .i64 k ∧ wr = w.drewN q ∧ Hid (∀ j (h1 : j < a.length) (h2 : j < b.length), j < k → a[j] = b[j])) (fun i _ => m - (intOf i).toNat)
    case atStart => exact ⟨0, 0, by omega, rfl, rfl, Lib.hid (fun j _ _ hj => by omega)⟩
    case round =>
      obtain ⟨k, q, hk, rfl, rfl, HE⟩ := hrel
      have hi0 : (0 : Int) ≤ (k : Int) := Int.natCast_nonneg _
      by_cases hlt : k < m
      · have hka : k < a.length := by rw [HMA.out]; exact hlt
        have hkb : k < b.length := by rw [HMB.out]; exact hlt
        obtain ⟨ad, rfl, ha0, ha1⟩ := sps_at hA (k := k) hka
        obtain ⟨bd, rfl, hb0, hb1⟩ := sps_at hB (k := k) hkb
        obtain ⟨s, HS⟩ : ∃ s, Hid (a[k]'hka = s) := ⟨_, Lib.hid rfl⟩
        obtain ⟨t, HT⟩ : ∃ t, Hid (b[k]'hkb = t) := ⟨_, Lib.hid rfl⟩
        rw [HS.out] at ha0 ha1
        rw [HT.out] at hb0 hb1
        obtain ⟨s0, s1⟩ := s
        obtain ⟨t0, t1⟩ := t
        dsimp only at ha0 ha1 hb0 hb1
        have hi1 : (k : Int) < (m : Int) := by omega

        by_cases hst : s0 = t0 ∧ s1 = t1
        · obtain ⟨rfl, rfl⟩ := hst
          have hst : True := trivial
          have HST := Lib.hid hst
          clear hst
          go_wp2_with fail
          go_quiet (fail)
          go_wp2
          go_roundw
          case rel =>
            refine ⟨k + 1, _, by omega, by go_num, rfl, Lib.hid (fun j h1 h2 hj => ?_)⟩
            rcases Nat.lt_or_ge j k with h | h
            · exact HE.out j h1 h2 h
            · obtain rfl : j = k := by omega
              rw [HS.out, HT.out]
              skip
          case measure => simp [intOf]; omega
        · skip
          have hR : R = false := by
            rw [← HR.out, decide_eq_false_iff_not]
            rintro rfl
            apply hst
            have := HS.out.symm.trans HT.out
            injection this with q0 q1; exact ⟨q0, q1⟩
          have HR2 := Lib.hid hR
          have hcs : ¬ s0 = t0 ∨ (s0 = t0 ∧ ¬ s1 = t1) := by omega
          clear hst hR
          rcases hcs with hq | ⟨rfl, hq⟩
          all_goals
            have hq2 := beq_int hq
            go_wp2_with fail
            go_quiet (fail)
            go_wp2
            go_ret
            refine ⟨by rw [HR2.out]; rfl, ?_⟩
            rw [World.drewN_drewN]
            exact ⟨_, rfl⟩
      · obtain rfl : k = m := by omega
        have hR : R = true := by
          rw [← HR.out, decide_eq_true_eq]
          refine List.ext_getElem (HMA.out.trans HMB.out.symm) fun j h1 h2 => HE.out j h1 h2 (by rw [← HMA.out]; exact h1)
        have HR2 := Lib.hid hR
        clear hR
        go_wp2_with fail
        go_ret
        refine ⟨by rw [HR2.out]; rfl, _, rfl⟩
  · have hR : decide (a = b) = false := by rw [decide_eq_false_iff_not]; rintro rfl; exact hlen rfl
    rw [hR]
    have hl : ¬ (a.length : Int) = (b.length : Int) := by omega
    have hl2 : ((a.length : Int) == (b.length : Int)) = false := by rw [beq_eq_false_iff_ne]; omega
    go_enter Try.func31, Try.ntmps31
    go_wp2
    go_ret
    exact ⟨rfl, 0, rfl⟩

end Go.Proofs.Ytmeoannheomdoaa
