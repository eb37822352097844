/- The reference's component and ValidPattern. -/
import Derived.Test.YtdbikaffmpkgpaaDoorRefP
namespace Go.Proofs.YtdbikaffmpkgpaaDoor
open Go.RowKit

theorem cls_wild : ∀ n, n < 256 → (decide (1 ≤ cls (UInt8.ofNat n)) = (decide (2 ≤ cls (UInt8.ofNat n)) || decide (n = 42) || decide (n = 63))) := by decide +kernel
theorem cls_wild' (b : UInt8) : decide (1 ≤ cls b) = (decide (2 ≤ cls b) || decide (b.toNat = 42) || decide (b.toNat = 63)) := by
  have := cls_wild b.toNat b.toNat_lt
  rwa [show UInt8.ofNat b.toNat = b from UInt8.ofNat_toNat] at this
theorem cls_star : cls 42 = 1 := by kernel_rfl

set_option maxRecDepth 100000 in
set_option maxHeartbeats 4000000 in
theorem refComp_any (s : ByteArray) (w : World) (hs : s.size ≤ maxLen) : Calls Tryd.prog 49 #[.string s] w fun e w' => e = .returned (.bool (isComp s)) ∧ w = w' := by
  unfold maxLen at hs
  obtain ⟨R, HR⟩ : ∃ R, Hid (isComp s = R) := ⟨_, Lib.hid rfl⟩
  rw [HR.out]
  have b0 := beq_lit s [42, 42]
  by_cases hss : s.data.toList = [42, 42]
  · have HR2 := Lib.hid (show R = true by rw [← HR.out]; unfold isComp; rw [decide_eq_true hss]; rfl)
    rw [decide_eq_true hss] at b0
    clear hss
    go_enter Tryd.func49, Tryd.ntmps49
    go_wp2_with fail
    go_ret
    exact ⟨by rw [HR2.out]; rfl, rfl⟩
  · rw [decide_eq_false hss] at b0
    have HC0 := Lib.hid (show R = (consists s 1 && !neigh s.data.toList) by rw [← HR.out]; unfold isComp; rw [decide_eq_false hss]; rfl)
    have C := Lib.hid (fun b => nameByte_any b w)
    clear hss
    go_enter Tryd.func49, Tryd.ntmps49
    go_wp2_with fail
    go_loop [3] (fun v3 => ∃ k : Nat, k ≤ s.size ∧ v3 = .int .i64 k ∧ Hid (∀ j (h : j < s.size), j < k → 1 ≤ cls s[j]) ∧ Hid (∀ j (h : j + 1 < s.size), j + 1 < k → ¬ (s[j] = 42 ∧ s[j + 1] = 42))) (fun v3 => s.size - (intOf v3).toNat)
    case atStart => exact ⟨0, by omega, rfl, Lib.hid (fun j _ hj => by omega), Lib.hid (fun j _ hj => by omega)⟩
    case round =>
      obtain ⟨k, hk, rfl, HK, HN⟩ := hrel
      have hi0 : (0 : Int) ≤ (k : Int) := Int.natCast_nonneg _
      by_cases hlt : k < s.size
      · have hi1 : (k : Int) < (s.size : Int) := by omega
        have hc := C.out s[k]
        have hcw := cls_wild' s[k]
        obtain ⟨d, hd⟩ : ∃ d, decide (2 ≤ cls s[k]) = d := ⟨_, rfl⟩
        rw [hd] at hc hcw
        have hC := Lib.hid hc
        clear hc
        have HNX := Lib.hid (fun (h1 : 1 ≤ cls s[k]) (h2 : ∀ h : 0 < k, ¬ (s[k - 1]'(by omega) = 42 ∧ s[k] = 42)) => (show (∀ j (h : j < s.size), j < k + 1 → 1 ≤ cls s[j]) ∧ (∀ j (h : j + 1 < s.size), j + 1 < k + 1 → ¬ (s[j] = 42 ∧ s[j + 1] = 42)) from
          ⟨fun j h hj => by
            rcases Nat.lt_or_ge j k with h' | h'
            · exact HK.out j h h'
            · obtain rfl : j = k := by omega
              exact h1, fun j h hj => by
            rcases Nat.lt_or_ge (j + 1) k with h' | h'
            · exact HN.out j h h'
            · obtain rfl : j + 1 = k := by omega
              exact h2 (by omega)⟩))
        have HBAD := Lib.hid (fun (h : ¬ 1 ≤ cls s[k]) => (show R = false by
          rw [HC0.out, Bool.and_eq_false_iff]
          left
          unfold consists
          rw [Bool.and_eq_false_iff]
          left
          rw [List.all_eq_false]
          refine ⟨s[k], by rw [← data_at s k hlt]; exact List.getElem_mem _, ?_⟩
          rw [decide_eq_true_eq]; exact h))
        cases d with
        | true =>
          have hne : s[k] ≠ 42 := fun e => by
            have := of_decide_eq_true hd
            rw [e, cls_star] at this
            omega
          have k1 : ¬ s[k].toNat = 42 := fun e => hne (UInt8.toNat_inj.1 e)
          have k2 : ((s[k].toNat : Int) == 42) = false := by rw [beq_eq_false_iff_ne]; omega
          have H := Lib.hid (HNX.out (by have := of_decide_eq_true hd; omega) (fun _ h => hne h.2))
          clear hd hne hcw
          by_cases hk0 : 0 < k
          · have k3 : (0 : Int) < (k : Int) := by omega
            go_wp2_with (go_at_call 52; ((with_reducible refine hC.out.mono ?_); rintro e w1 ⟨rfl, rfl⟩))
            go_round
            case rel => exact ⟨k + 1, by omega, by go_num, Lib.hid H.out.1, Lib.hid H.out.2⟩
            case measure => simp [intOf]; omega
          · have k3 : ¬ (0 : Int) < (k : Int) := by omega
            go_wp2_with (go_at_call 52; ((with_reducible refine hC.out.mono ?_); rintro e w1 ⟨rfl, rfl⟩))
            go_round
            case rel => exact ⟨k + 1, by omega, by go_num, Lib.hid H.out.1, Lib.hid H.out.2⟩
            case measure => simp [intOf]; omega
        | false =>
          by_cases h42 : s[k] = 42
          · have k2 : ((s[k].toNat : Int) == 42) = true := by rw [h42]; rfl
            have k2' : ((s[k].toNat : Int) != 42) = false := by rw [h42]; rfl
            have hc1 : 1 ≤ cls s[k] := by rw [h42, cls_star]; exact Nat.le_refl _
            by_cases hk0 : 0 < k
            · have k3 : (0 : Int) < (k : Int) := by omega
              have hk1 : k - 1 < s.size := by omega
              have ew : IntKind.i64.wrap ((k : Int) - 1) = ((k - 1 : Nat) : Int) := by simp [IntKind.wrap, IntKind.bits, IntKind.signed]; omega
              have k4 : (0 : Int) ≤ ((k - 1 : Nat) : Int) := Int.natCast_nonneg _
              have k5 : ((k - 1 : Nat) : Int) < (s.size : Int) := by omega
              by_cases hp : s[k - 1] = 42
              · have p1 : s[k - 1].toNat = 42 := by rw [hp]; rfl
                have p2 : ((s[k - 1].toNat : Int) == 42) = true := by rw [p1]; rfl
                have hR : R = false := by
                  rw [HC0.out, Bool.and_eq_false_iff]
                  right
                  rw [Bool.not_eq_false', neigh_of]
                  refine ⟨k - 1, by rw [data_len]; omega, hp, ?_⟩
                  have e : k - 1 + 1 = k := by omega
                  simp only [e]
                  exact h42
                have HR2 := Lib.hid hR
                clear hd hcw h42 hp hR hc1
                go_wp2_with (go_at_call 52; ((with_reducible refine hC.out.mono ?_); rintro e w1 ⟨rfl, rfl⟩))
                go_ret
                exact ⟨by rw [HR2.out]; rfl, rfl⟩
              · have p1 : ¬ s[k - 1].toNat = 42 := fun e => hp (UInt8.toNat_inj.1 e)
                have p2 : ((s[k - 1].toNat : Int) == 42) = false := by rw [beq_eq_false_iff_ne]; omega
                have H := Lib.hid (HNX.out hc1 (fun _ h => hp h.1))
                clear hd hcw h42 hp hc1
                go_wp2_with (go_at_call 52; ((with_reducible refine hC.out.mono ?_); rintro e w1 ⟨rfl, rfl⟩))
                go_round
                case rel => exact ⟨k + 1, by omega, by go_num, Lib.hid H.out.1, Lib.hid H.out.2⟩
                case measure => simp [intOf]; omega
            · have k3 : ¬ (0 : Int) < (k : Int) := by omega
              have H := Lib.hid (HNX.out hc1 (fun h => absurd h hk0))
              clear hd hcw h42 hc1
              go_wp2_with (go_at_call 52; ((with_reducible refine hC.out.mono ?_); rintro e w1 ⟨rfl, rfl⟩))
              go_round
              case rel => exact ⟨k + 1, by omega, by go_num, Lib.hid H.out.1, Lib.hid H.out.2⟩
              case measure => simp [intOf]; omega
          · have k1 : ¬ s[k].toNat = 42 := fun e => h42 (UInt8.toNat_inj.1 e)
            have k2 : ((s[k].toNat : Int) == 42) = false := by rw [beq_eq_false_iff_ne]; omega
            by_cases h63 : s[k] = 63
            · have k3 : s[k].toNat = 63 := by rw [h63]; rfl
              have k4 : ((s[k].toNat : Int) == 63) = true := by rw [k3]; rfl
              have k4' : ((s[k].toNat : Int) != 63) = false := by rw [k3]; rfl
              have H := Lib.hid (HNX.out (of_decide_eq_true (by rw [hcw, k3]; rfl)) (fun _ h => h42 h.2))
              clear hd hcw h42 h63 k3
              by_cases hk0 : 0 < k
              · have k5 : (0 : Int) < (k : Int) := by omega
                go_wp2_with (go_at_call 52; ((with_reducible refine hC.out.mono ?_); rintro e w1 ⟨rfl, rfl⟩))
                go_round
                case rel => exact ⟨k + 1, by omega, by go_num, Lib.hid H.out.1, Lib.hid H.out.2⟩
                case measure => simp [intOf]; omega
              · have k5 : ¬ (0 : Int) < (k : Int) := by omega
                go_wp2_with (go_at_call 52; ((with_reducible refine hC.out.mono ?_); rintro e w1 ⟨rfl, rfl⟩))
                go_round
                case rel => exact ⟨k + 1, by omega, by go_num, Lib.hid H.out.1, Lib.hid H.out.2⟩
                case measure => simp [intOf]; omega
            · have k3 : ¬ s[k].toNat = 63 := fun e => h63 (UInt8.toNat_inj.1 e)
              have k4 : ((s[k].toNat : Int) == 63) = false := by rw [beq_eq_false_iff_ne]; omega
              have HR2 := Lib.hid (HBAD.out (of_decide_eq_false (by rw [hcw, decide_eq_false k1, decide_eq_false k3]; rfl)))
              clear hd hcw h42 h63
              go_wp2_with (go_at_call 52; ((with_reducible refine hC.out.mono ?_); rintro e w1 ⟨rfl, rfl⟩))
              go_ret
              exact ⟨by rw [HR2.out]; rfl, rfl⟩
      · obtain rfl : k = s.size := by omega
        have hall : s.data.toList.all (fun b => decide (1 ≤ cls b)) = true := by
          rw [List.all_eq_true]
          intro x hx
          obtain ⟨j, hj, rfl⟩ := List.getElem_of_mem hx
          rw [decide_eq_true_eq]
          exact HK.out j (by simpa using hj) (by simpa using hj)
        have hnn : neigh s.data.toList = false := by
          rw [Bool.eq_false_iff]
          intro h
          obtain ⟨j, hj, q1, q2⟩ := (neigh_of _).1 h
          rw [data_len] at hj
          exact HN.out j hj hj ⟨q1, q2⟩
        have hR := HC0.out.symm
        unfold consists at hR
        rw [hall, hnn, Bool.true_and] at hR
        have b1 := beq_lit s [46]
        have b2 := beq_lit s [46, 46]
        have f0 : s = ByteArray.empty ↔ s.data.toList = [] := ⟨fun e => by rw [e]; rfl, fun e => Go.WideShapes.bytes_inj e⟩
        clear hall hnn
        by_cases h0 : s.data.toList = []
        · have hR2 : R = false := by rw [← hR, decide_eq_true h0]; rfl
          have HR2 := Lib.hid hR2
          have h3 : s = ByteArray.empty := f0.2 h0
          subst h3
          clear hR hR2 b1 b2 f0 h0
          go_wp2_with fail
          go_ret
          exact ⟨by rw [HR2.out]; rfl, rfl⟩
        · have h3 : ¬ s = ByteArray.empty := fun e => h0 (f0.1 e)
          have h4 : ¬ s.toList = [] := by rw [ByteArray.toList_eq]; exact h0
          have h5 : s.toList.isEmpty = false := by rw [Bool.eq_false_iff]; intro e; exact h4 (List.isEmpty_iff.1 e)
          rw [decide_eq_false h0] at hR
          by_cases h1 : s.data.toList = [46]
          · have hR2 : R = false := by rw [← hR, decide_eq_true h1]; rfl
            have HR2 := Lib.hid hR2
            rw [decide_eq_true h1] at b1
            clear hR f0 h0 h1 b2 hR2
            go_wp2_with fail
            go_ret
            exact ⟨by rw [HR2.out]; rfl, rfl⟩
          · rw [decide_eq_false h1] at hR b1
            by_cases h2 : s.data.toList = [46, 46]
            · rw [decide_eq_true h2] at hR b2
              have HR2 := Lib.hid hR
              clear hR f0 h0 h1 h2
              go_wp2_with fail
              go_ret
              exact ⟨by rw [← HR2.out]; rfl, rfl⟩
            · rw [decide_eq_false h2] at hR b2
              have HR2 := Lib.hid hR
              clear hR f0 h0 h1 h2
              go_wp2_with fail
              go_ret
              exact ⟨by rw [← HR2.out]; rfl, rfl⟩

set_option maxRecDepth 100000 in
set_option maxHeartbeats 2000000 in
theorem refPat_any (s : ByteArray) (w : World) (hs : s.size ≤ 4398046511104) : Calls Tryd.prog 35 #[.string s] w (BoolB w (patS s)) := by
  have hv := within_ref s isComp (by decide +kernel)
  change patS s = _ at hv
  obtain ⟨R, HR⟩ : ∃ R, Hid (patS s = R) := ⟨_, Lib.hid rfl⟩
  rw [HR.out] at hv ⊢
  have hmem := partsL_mem s
  have hnl := partsL_len s
  have P := refParts_any s w hs
  obtain ⟨N, HN⟩ : ∃ N, Hid (partsL s = N) := ⟨_, Lib.hid rfl⟩
  rw [HN.out] at hv hmem P hnl
  have HP := Lib.hid P
  have HV := Lib.hid hv
  have HI := Lib.hid (fun (x : ByteArray) (hx : x ∈ N) (W : World) => refComp_any x W (by have := hmem x hx; unfold maxLen; omega))
  clear hv P hmem
  go_enter Tryd.func35, Tryd.ntmps35
  go_wp2_with (go_at_call 25; ((with_reducible refine HP.out.mono ?_); rintro e w1 ⟨A, c, rfl, ho, hb⟩))
  have hS := (Strs.own ho).2
  have hcap := hS.cap
  clear ho
  go_loop [4] (fun v4 => ∃ k : Nat, k ≤ N.length ∧ v4 = .int .i64 k ∧ Hid (∀ j (h : j < N.length), j < k → isComp N[j] = true)) (fun v4 => N.length - (intOf v4).toNat)
  case atStart => exact ⟨0, by omega, rfl, Lib.hid (fun j _ hj => by omega)⟩
  case round =>
    obtain ⟨k, hk, rfl, HK⟩ := hrel
    have hi0 : (0 : Int) ≤ (k : Int) := Int.natCast_nonneg _
    by_cases hlt : k < N.length
    · obtain ⟨ad, rfl, hadB, hca⟩ := hS.at_ hlt
      have hi1 : (k : Int) < (N.length : Int) := by omega
      have hC := HI.out N[k] (List.getElem_mem hlt) w1
      obtain ⟨x, HX⟩ : ∃ x, Hid (N[k] = x) := ⟨_, Lib.hid rfl⟩
      rw [HX.out] at hca hC
      obtain ⟨d, hd⟩ : ∃ d, isComp x = d := ⟨_, rfl⟩
      rw [hd] at hC
      have HC := Lib.hid hC
      clear hC
      cases d with
      | false =>
        have hR : R = false := by
          rw [HV.out]
          have : N.all isComp = false := by
            rw [List.all_eq_false]
            exact ⟨N[k], List.getElem_mem hlt, by rw [HX.out, hd]; simp⟩
          rw [this]; rfl
        have HR2 := Lib.hid hR
        clear hR hd
        go_wp2_with (go_at_call 49; ((with_reducible refine HC.out.mono ?_); rintro e w2 ⟨rfl, rfl⟩))
        go_ret
        exact ⟨by rw [HR2.out]; rfl, hb⟩
      | true =>
        have HD := Lib.hid hd
        clear hd
        go_wp2_with (go_at_call 49; ((with_reducible refine HC.out.mono ?_); rintro e w2 ⟨rfl, rfl⟩))
        go_round
        case rel =>
          refine ⟨k + 1, by omega, by go_num, Lib.hid (fun j h hj => ?_)⟩
          rcases Nat.lt_or_ge j k with h' | h'
          · exact HK.out j h h'
          · obtain rfl : j = k := by omega
            rw [HX.out]; exact HD.out
        case measure => simp [intOf]; omega
    · obtain rfl : k = N.length := by omega
      have hall : N.all isComp = true := by
        rw [List.all_eq_true]
        intro x hx
        obtain ⟨j, hj, rfl⟩ := List.getElem_of_mem hx
        exact HK.out j hj hj
      have hR : R = (decide (1 ≤ N.length) && (decide (N.length ≤ 20) && decide (s.size ≤ 200))) := by rw [HV.out, hall]; rfl
      clear hall
      by_cases a1 : 1 ≤ N.length
      · by_cases a2 : N.length ≤ 20
        · by_cases a3 : s.size ≤ 200
          · rw [decide_eq_true a1, decide_eq_true a2, decide_eq_true a3] at hR
            have HR2 := Lib.hid hR
            have b1 : (1 : Int) ≤ (N.length : Int) := by omega
            have b2 : (N.length : Int) ≤ 20 := by omega
            have b3 : (s.size : Int) ≤ 200 := by omega
            clear hR
            go_wp2
            go_ret
            exact ⟨by rw [HR2.out]; rfl, hb⟩
          · rw [decide_eq_true a1, decide_eq_true a2, decide_eq_false a3] at hR
            have HR2 := Lib.hid hR
            have b1 : (1 : Int) ≤ (N.length : Int) := by omega
            have b2 : (N.length : Int) ≤ 20 := by omega
            have b3 : ¬ (s.size : Int) ≤ 200 := by omega
            clear hR
            go_wp2
            go_ret
            exact ⟨by rw [HR2.out]; rfl, hb⟩
        · rw [decide_eq_true a1, decide_eq_false a2] at hR
          have HR2 := Lib.hid hR
          have b1 : (1 : Int) ≤ (N.length : Int) := by omega
          have b2 : ¬ (N.length : Int) ≤ 20 := by omega
          clear hR
          go_wp2
          go_ret
          exact ⟨by rw [HR2.out]; rfl, hb⟩
      · rw [decide_eq_false a1] at hR
        have HR2 := Lib.hid hR
        have b1 : ¬ (1 : Int) ≤ (N.length : Int) := by omega
        clear hR
        go_wp2
        go_ret
        exact ⟨by rw [HR2.out]; rfl, hb⟩

end Go.Proofs.YtdbikaffmpkgpaaDoor
