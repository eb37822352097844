/- The reference's Same. -/
import Derived.Test.YthnlldojidocoaaDoorCopy
namespace Go.Proofs.YthnlldojidocoaaDoor
open Go.RowKit Go.Maps

set_option maxRecDepth 100000 in
set_option maxHeartbeats 1000000 in
theorem same_any (M N : Nat) (A B : Option Addr) (a b : List Ent) (c d : Nat) (w : World) (hA : Ents w M A c a) (hB : Ents w N B d b) (ha : a.length ≤ 1048576) (hb : b.length ≤ 1048576) :
    Calls Tryd.prog 25 #[.slice A a.length c, .slice B b.length d] w fun e w' => e = .returned (.bool (decide (a = b))) ∧ ∃ q, w' = w.drewN q := by
  by_cases hlen : a.length = b.length
  · obtain ⟨m, hm⟩ : ∃ m, b.length = m := ⟨_, rfl⟩
    have hma : a.length = m := hlen.trans hm
    obtain ⟨R, HR⟩ : ∃ R, Hid (decide (a = b) = R) := ⟨_, Lib.hid rfl⟩
    rw [HR.out]
    have hcapa := hA.2.1
    have hcapb := hB.2.1
    have HMA := Lib.hid hma
    have HMB := Lib.hid hm
    rw [hm] at hcapb hb ⊢
    rw [hma] at hcapa ha ⊢
    clear hlen hm hma hb
    go_enter Tryd.func25, Tryd.ntmps25
    go_wp2
    go_loopw [5] (fun i wr => ∃ k q : Nat, k ≤ m ∧ i = .int .i64 k ∧ wr = w.drewN q ∧ Hid (∀ j (h1 : j < a.length) (h2 : j < b.length), j < k → a[j] = b[j])) (fun i _ => m - (intOf i).toNat)
    case atStart => exact ⟨0, 0, by omega, rfl, rfl, Lib.hid (fun j _ _ hj => by omega)⟩
    case round =>
      obtain ⟨k, q, hk, rfl, rfl, HE⟩ := hrel
      have hi0 : (0 : Int) ≤ (k : Int) := Int.natCast_nonneg _
      by_cases hlt : k < m
      · have hka : k < a.length := by rw [HMA.out]; exact hlt
        have hkb : k < b.length := by rw [HMB.out]; exact hlt
        obtain ⟨ad, rfl, _, ha0, ha1, ha2⟩ := hA.at_ (k := k) hka
        obtain ⟨bd, rfl, _, hb0, hb1, hb2⟩ := hB.at_ (k := k) hkb
        obtain ⟨s, HS⟩ : ∃ s, Hid (a[k]'hka = s) := ⟨_, Lib.hid rfl⟩
        obtain ⟨t, HT⟩ : ∃ t, Hid (b[k]'hkb = t) := ⟨_, Lib.hid rfl⟩
        rw [HS.out] at ha0 ha1 ha2
        rw [HT.out] at hb0 hb1 hb2
        obtain ⟨s0, s1, s2⟩ := s
        obtain ⟨t0, t1, t2⟩ := t
        dsimp only at ha0 ha1 ha2 hb0 hb1 hb2
        have hi1 : (k : Int) < (m : Int) := by omega
        by_cases hst : s0 = t0 ∧ s1 = t1 ∧ s2 = t2
        · obtain ⟨rfl, rfl, rfl⟩ := hst
          have hbb : (s0.toList == s0.toList) = true := by simp
          go_wp2_with fail
          go_quiet (fail)
          go_wp2
          go_roundw
          case rel =>
            refine ⟨k + 1, _, by omega, by go_num, rfl, Lib.hid (fun j h1 h2 hj => ?_)⟩
            rcases Nat.lt_or_ge j k with h | h
            · exact HE.out j h1 h2 h
            · obtain rfl : j = k := by omega
              rw [HS.out, HT.out]
          case measure => simp [intOf]; omega
        · have hR : R = false := by
            rw [← HR.out, decide_eq_false_iff_not]
            rintro rfl
            apply hst
            have h := HS.out.symm.trans HT.out
            injection h with h0 h
            injection h with h1 h2
            exact ⟨h0, h1, h2⟩
          have HR2 := Lib.hid hR
          have hcs : ¬ s0 = t0 ∨ (s0 = t0 ∧ ¬ s1 = t1) ∨ (s0 = t0 ∧ s1 = t1 ∧ ¬ s2 = t2) := by
            by_cases c0 : s0 = t0
            · by_cases c1 : s1 = t1
              · exact .inr (.inr ⟨c0, c1, fun c2 => hst ⟨c0, c1, c2⟩⟩)
              · exact .inr (.inl ⟨c0, c1⟩)
            · exact .inl c0
          clear hst hR
          rcases hcs with hq | ⟨rfl, hq⟩ | ⟨rfl, rfl, hq⟩
          · have hq1 : ¬ s0.toList = t0.toList := fun e => hq (eq_of_data e)
            have hq2 : (s0.toList == t0.toList) = false := by rw [beq_eq_false_iff_ne]; exact hq1
            clear hq
            go_wp2_with fail
            go_quiet (fail)
            go_wp2
            go_ret
            refine ⟨by rw [HR2.out]; rfl, ?_⟩
            rw [World.drewN_drewN]
            exact ⟨_, rfl⟩
          · have hbb : (s0.toList == s0.toList) = true := by simp
            cases s1 <;> cases t1
            case false.false => exact absurd rfl hq
            case true.true => exact absurd rfl hq
            all_goals
              clear hq
              go_wp2_with fail
              go_quiet (fail)
              go_wp2
              go_ret
              refine ⟨by rw [HR2.out]; rfl, ?_⟩
              rw [World.drewN_drewN]
              exact ⟨_, rfl⟩
          · have hbb : (s0.toList == s0.toList) = true := by simp
            have hq2 : (s2 == t2) = false := by rw [beq_eq_false_iff_ne]; exact hq
            go_wp2_with fail
            go_quiet (fail)
            go_wp2
            go_ret
            refine ⟨by rw [HR2.out]; rfl, ?_⟩
            rw [World.drewN_drewN]
            exact ⟨_, rfl⟩
      · obtain rfl : k = m := by omega
        have hR : R = true := by
          rw [← HR.out, decide_eq_true_eq]
          refine List.ext_getElem (HMA.out.trans HMB.out.symm) fun j h1 h2 => HE.out j h1 h2 (by rw [← HMA.out]; exact h1)
        have HR2 := Lib.hid hR
        clear hR
        go_wp2_with fail
        go_ret
        refine ⟨by rw [HR2.out]; rfl, _, rfl⟩
  · have hR : decide (a = b) = false := by rw [decide_eq_false_iff_not]; rintro rfl; exact hlen rfl
    rw [hR]
    have hl : ¬ (a.length : Int) = (b.length : Int) := by omega
    have hl2 : ((a.length : Int) == (b.length : Int)) = false := by rw [beq_eq_false_iff_ne]; omega
    go_enter Tryd.func25, Tryd.ntmps25
    go_wp2
    go_ret
    exact ⟨rfl, 0, rfl⟩
end Go.Proofs.YthnlldojidocoaaDoor
