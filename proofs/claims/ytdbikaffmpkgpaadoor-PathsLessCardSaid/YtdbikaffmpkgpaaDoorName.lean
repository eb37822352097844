/- matchName: its contract. -/
import Derived.WalkMore
import Derived.Test.YtdbikaffmpkgpaaDoorOne
namespace Go.Proofs.YtdbikaffmpkgpaaDoor
open Go.RowKit

set_option maxRecDepth 100000 in
set_option maxHeartbeats 4000000 in
theorem matchName_any (c s : ByteArray) (w : World) (hc : c.size ≤ 200) (hs : s.size ≤ 200) : Calls Tryd.prog 45 #[.string c, .string s] w fun e w' => e = .returned (.bool (oneS c s)) ∧ ∃ q, w' = w.drewN q := by
  obtain ⟨R, HR⟩ : ∃ R, Hid (oneS c s = R) := ⟨_, Lib.hid rfl⟩
  rw [HR.out]
  have H0 := Lib.hid (OneInv.start (P := c.data.toList) (S := s.data.toList))
  go_enter Tryd.func45, Tryd.ntmps45
  go_wp2
  go_step3
  go_wp2
  go_step3
  go_wp2
  go_loopw [5, 6, 7, 8] (fun v5 v6 v7 v8 wr => ∃ i j a e q : Nat, v5 = .int .i64 i ∧ v6 = .int .i64 j ∧ v7 = .int .i64 a ∧ v8 = .int .i64 e ∧ wr = w.drewN q ∧ i ≤ c.size ∧ j ≤ s.size ∧ a ≤ i ∧ e ≤ s.size ∧ Hid (OneInv c.data.toList s.data.toList i j a e)) (fun v5 _ v7 v8 _ => measureOne c.size s.size (intOf v5) (intOf v7) (intOf v8))
  case atStart => exact ⟨0, 0, 0, s.size, 0, rfl, rfl, rfl, rfl, rfl, by omega, by omega, by omega, by omega, by have := H0.out; rw [data_len] at this; exact Lib.hid this⟩
  case round =>
    obtain ⟨i, j, a, e, q, rfl, rfl, rfl, rfl, rfl, hi, hj, ha, he, HI⟩ := hrel
    have i0 : (0 : Int) ≤ (i : Int) := Int.natCast_nonneg _
    have j0 : (0 : Int) ≤ (j : Int) := Int.natCast_nonneg _
    have a0 : (0 : Int) ≤ (a : Int) := Int.natCast_nonneg _
    have e0 : (0 : Int) ≤ (e : Int) := Int.natCast_nonneg _

    by_cases hil : i < c.size
    · have i1 : (i : Int) < (c.size : Int) := by omega
      have ieq : ((i : Int) == (c.size : Int)) = false := by rw [beq_eq_false_iff_ne]; omega
      have ieq2 : ¬ (i : Int) = (c.size : Int) := by omega
      have hcl : i < c.data.toList.length := by rw [data_len]; exact hil
      by_cases h42 : c[i] = 42
      · have k1 : c[i].toNat = 42 := by rw [h42]; rfl
        have k2 : ((c[i].toNat : Int) == 42) = true := by rw [k1]; rfl
        have HN := Lib.hid (OneInv.star HI.out hcl h42)
        clear h42
        go_wp2_with fail
        go_roundw
        case rel => exact ⟨i + 1, j, i + 1, j, q, by go_num, rfl, by go_num, rfl, rfl, by omega, by omega, by omega, by omega, HN⟩
        case measure => simp only [intOf, measureOne]; omega
      · have k1 : ¬ c[i].toNat = 42 := fun e => h42 (UInt8.toNat_inj.1 e)
        have k2 : ((c[i].toNat : Int) == 42) = false := by rw [beq_eq_false_iff_ne]; omega
        have H42 := Lib.hid h42
        clear h42
        by_cases hjl : j < s.size
        · have j1 : (j : Int) < (s.size : Int) := by omega
          have jeq : ((j : Int) == (s.size : Int)) = false := by rw [beq_eq_false_iff_ne]; omega
          have hsl : j < s.data.toList.length := by rw [data_len]; exact hjl
          by_cases h63 : c[i] = 63
          · have k3 : c[i].toNat = 63 := by rw [h63]; rfl
            have k4 : ((c[i].toNat : Int) == 63) = true := by rw [k3]; rfl
            have HN := Lib.hid (OneInv.byte HI.out hcl hsl H42.out (.inl h63))
            clear h63
            go_wp2_with fail
            go_quiet (fail)
            go_wp2_with fail
            go_roundw
            case rel => exact ⟨i + 1, j + 1, a, e, _, by go_num, by go_num, rfl, rfl, rfl, by omega, by omega, by omega, by omega, HN⟩
            case measure => simp only [intOf, measureOne]; omega
          · have k3 : ¬ c[i].toNat = 63 := fun e => h63 (UInt8.toNat_inj.1 e)
            have k4 : ((c[i].toNat : Int) == 63) = false := by rw [beq_eq_false_iff_ne]; omega
            by_cases hcs : c[i] = s[j]
            · have k5 : c[i].toNat = s[j].toNat := by rw [hcs]
              have k6 : ((c[i].toNat : Int) == (s[j].toNat : Int)) = true := by rw [k5]; simp
              have HN := Lib.hid (OneInv.byte HI.out hcl hsl H42.out (.inr hcs))
              rw [k5] at k1 k2 k3 k4
              clear h63 hcs
              go_wp2_with fail
              go_quiet (fail)
              go_wp2_with fail
              go_roundw
              case rel => exact ⟨i + 1, j + 1, a, e, _, by go_num, by go_num, rfl, rfl, rfl, by omega, by omega, by omega, by omega, HN⟩
              case measure => simp only [intOf, measureOne]; omega
            · have k5 : ¬ c[i].toNat = s[j].toNat := fun e => hcs (UInt8.toNat_inj.1 e)
              have k6 : ((c[i].toNat : Int) == (s[j].toNat : Int)) = false := by rw [beq_eq_false_iff_ne]; omega
              have HD := Lib.hid (OneInv.dead (P := c.data.toList) (S := s.data.toList) (.inl hcl) (Nat.le_of_lt hcl) (fun _ => H42.out) (fun _ _ h => h.elim h63 hcs) (Nat.le_of_lt hsl))
              clear h63 hcs
              by_cases hel : e < s.size
              · have e1 : (e : Int) < (s.size : Int) := by omega
                have HN := Lib.hid (OneInv.back HI.out HD.out (by rw [data_len]; exact hel))
                go_wp2_with fail
                go_quiet (fail)
                go_wp2_with fail
                go_roundw
                case rel => exact ⟨a, e + 1, a, e + 1, _, rfl, by go_num, rfl, by go_num, rfl, by omega, by omega, by omega, by omega, HN⟩
                case measure => simp only [intOf, measureOne]; omega
              · have e1 : ¬ (e : Int) < (s.size : Int) := by omega
                have hR : R = false := HR.out.symm.trans (OneInv.fail HI.out HD.out (by rw [data_len]; exact hel))
                have HR2 := Lib.hid hR
                clear hR
                go_wp2_with fail
                go_quiet (fail)
                go_wp2_with fail
                dsimp only [Exit.noGoto]
                go_ret
                exact ⟨by rw [HR2.out]; rfl, _, rfl⟩
        · have j1 : ¬ (j : Int) < (s.size : Int) := by omega
          have HD := Lib.hid (OneInv.dead (P := c.data.toList) (S := s.data.toList) (j := j) (.inl hcl) (Nat.le_of_lt hcl) (fun _ => H42.out) (fun _ h => absurd h (by rw [data_len]; exact hjl)) (by rw [data_len]; exact hj))
          by_cases hel : e < s.size
          · have e1 : (e : Int) < (s.size : Int) := by omega
            have HN := Lib.hid (OneInv.back HI.out HD.out (by rw [data_len]; exact hel))
            go_wp2_with fail
            go_quiet (fail)
            go_wp2_with fail
            go_roundw
            case rel => exact ⟨a, e + 1, a, e + 1, _, rfl, by go_num, rfl, by go_num, rfl, by omega, by omega, by omega, by omega, HN⟩
            case measure => simp only [intOf, measureOne]; omega
          · have e1 : ¬ (e : Int) < (s.size : Int) := by omega
            have hR : R = false := HR.out.symm.trans (OneInv.fail HI.out HD.out (by rw [data_len]; exact hel))
            have HR2 := Lib.hid hR
            clear hR
            go_wp2_with fail
            go_quiet (fail)
            go_wp2_with fail
            dsimp only [Exit.noGoto]
            go_ret
            exact ⟨by rw [HR2.out]; rfl, _, rfl⟩
    · have i1 : ¬ (i : Int) < (c.size : Int) := by omega
      have ieq2 : (i : Int) = (c.size : Int) := by omega
      have ieq : ((i : Int) == (c.size : Int)) = true := by rw [beq_iff_eq]; exact ieq2
      have hcl : ¬ i < c.data.toList.length := by rw [data_len]; exact hil
      by_cases hjl : j < s.size
      · have j1 : (j : Int) < (s.size : Int) := by omega
        have jeq : ((j : Int) == (s.size : Int)) = false := by rw [beq_eq_false_iff_ne]; omega
        have jeq2 : ¬ (j : Int) = (s.size : Int) := by omega
        have hsl : j < s.data.toList.length := by rw [data_len]; exact hjl
        have HD := Lib.hid (OneInv.dead (P := c.data.toList) (S := s.data.toList) (i := i) (.inr hsl) (by rw [data_len]; exact hi) (fun h => absurd h hcl) (fun h => absurd h hcl) (Nat.le_of_lt hsl))
        by_cases hel : e < s.size
        · have e1 : (e : Int) < (s.size : Int) := by omega
          have HN := Lib.hid (OneInv.back HI.out HD.out (by rw [data_len]; exact hel))
          go_wp2_with fail
          go_quiet (fail)
          go_wp2_with fail
          go_roundw
          case rel => exact ⟨a, e + 1, a, e + 1, _, rfl, by go_num, rfl, by go_num, rfl, by omega, by omega, by omega, by omega, HN⟩
          case measure => simp only [intOf, measureOne]; omega
        · have e1 : ¬ (e : Int) < (s.size : Int) := by omega
          have hR : R = false := HR.out.symm.trans (OneInv.fail HI.out HD.out (by rw [data_len]; exact hel))
          have HR2 := Lib.hid hR
          clear hR
          go_wp2_with fail
          go_quiet (fail)
          go_wp2_with fail
          dsimp only [Exit.noGoto]
          go_ret
          exact ⟨by rw [HR2.out]; rfl, _, rfl⟩
      · have j1 : ¬ (j : Int) < (s.size : Int) := by omega
        have jeq2 : (j : Int) = (s.size : Int) := by omega
        have jeq : ((j : Int) == (s.size : Int)) = true := by rw [beq_iff_eq]; exact jeq2
        have hR : R = true := HR.out.symm.trans (OneInv.done HI.out hcl (by rw [data_len]; exact hjl))
        have HR2 := Lib.hid hR
        clear hR
        go_wp2_with fail
        try dsimp only [Exit.noGoto]
        go_ret
        exact ⟨by rw [HR2.out]; rfl, q, rfl⟩

    end Go.Proofs.YtdbikaffmpkgpaaDoor
