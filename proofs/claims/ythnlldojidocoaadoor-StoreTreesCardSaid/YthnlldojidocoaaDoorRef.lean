/- The reference's nameByte, IsName, Parts, Valid. -/
import Derived.Test.YthnlldojidocoaaDoorParts
import Derived.Test.YthnlldojidocoaaDoorValid
namespace Go.Proofs.YthnlldojidocoaaDoor
open Go.RowKit

theorem cls_name : ∀ n, n < 256 → (decide (2 ≤ cls (UInt8.ofNat n)) = (decide (97 ≤ n ∧ n ≤ 122) || decide (65 ≤ n ∧ n ≤ 90) || decide (48 ≤ n ∧ n ≤ 57) || decide (n = 95) || decide (n = 46) || decide (n = 45))) := by decide +kernel
theorem cls_name' (b : UInt8) : decide (2 ≤ cls b) = (decide (97 ≤ b.toNat ∧ b.toNat ≤ 122) || decide (65 ≤ b.toNat ∧ b.toNat ≤ 90) || decide (48 ≤ b.toNat ∧ b.toNat ≤ 57) || decide (b.toNat = 95) || decide (b.toNat = 46) || decide (b.toNat = 45)) := by
  have := cls_name b.toNat b.toNat_lt
  rwa [show UInt8.ofNat b.toNat = b from UInt8.ofNat_toNat] at this

set_option maxRecDepth 100000 in
set_option maxHeartbeats 2000000 in
theorem nameByte_any (b : UInt8) (w : World) : Calls Tryd.prog 51 #[.int .u8 (b.toNat : Int)] w fun e w' => e = .returned (.bool (decide (2 ≤ cls b))) ∧ w = w' := by
  have hR := cls_name' b
  have hb := b.toNat_lt
  obtain ⟨R, HR⟩ : ∃ R, decide (2 ≤ cls b) = R := ⟨_, rfl⟩
  rw [HR] at hR ⊢
  obtain ⟨n, hn⟩ : ∃ n, b.toNat = n := ⟨_, rfl⟩
  rw [hn] at hR hb ⊢
  clear HR hn

  by_cases c0 : 97 ≤ n
  · by_cases c1 : n ≤ 122
    · have hR2 : R = true := by rw [hR]; simp; omega
      have HR2 := Lib.hid hR2
      have f0 : (97 : Int) ≤ (n : Int) := by omega
      have f1 : (n : Int) ≤ 122 := by omega
      clear hR hR2
      go_enter Tryd.func51, Tryd.ntmps51
      go_wp2
      go_ret
      exact ⟨by rw [HR2.out]; rfl, rfl⟩
    · have hR2 : R = false := by rw [hR]; simp; omega
      have HR2 := Lib.hid hR2
      have f0 : (97 : Int) ≤ (n : Int) := by omega
      have f1 : ¬ (n : Int) ≤ 122 := by omega
      have f2 : (65 : Int) ≤ (n : Int) := by omega
      have f3 : ¬ (n : Int) ≤ 90 := by omega
      have f4 : (48 : Int) ≤ (n : Int) := by omega
      have f5 : ¬ (n : Int) ≤ 57 := by omega
      have f6 : ((n : Int) == 95) = false := by rw [beq_eq_false_iff_ne]; omega
      have f7 : ((n : Int) == 46) = false := by rw [beq_eq_false_iff_ne]; omega
      have f8 : ((n : Int) == 45) = false := by rw [beq_eq_false_iff_ne]; omega
      clear hR hR2
      go_enter Tryd.func51, Tryd.ntmps51
      go_wp2
      go_ret
      exact ⟨by rw [HR2.out]; rfl, rfl⟩
  · by_cases c1 : 65 ≤ n
    · by_cases c2 : n ≤ 90
      · have hR2 : R = true := by rw [hR]; simp; omega
        have HR2 := Lib.hid hR2
        have f0 : ¬ (97 : Int) ≤ (n : Int) := by omega
        have f1 : (65 : Int) ≤ (n : Int) := by omega
        have f2 : (n : Int) ≤ 90 := by omega
        clear hR hR2
        go_enter Tryd.func51, Tryd.ntmps51
        go_wp2
        go_ret
        exact ⟨by rw [HR2.out]; rfl, rfl⟩
      · by_cases c3 : n = 95
        · have hR2 : R = true := by rw [hR]; simp; omega
          have HR2 := Lib.hid hR2
          have f0 : ¬ (97 : Int) ≤ (n : Int) := by omega
          have f1 : (65 : Int) ≤ (n : Int) := by omega
          have f2 : ¬ (n : Int) ≤ 90 := by omega
          have f3 : (48 : Int) ≤ (n : Int) := by omega
          have f4 : ¬ (n : Int) ≤ 57 := by omega
          have f5 : ((n : Int) == 95) = true := by rw [beq_iff_eq]; omega
          clear hR hR2
          go_enter Tryd.func51, Tryd.ntmps51
          go_wp2
          go_ret
          exact ⟨by rw [HR2.out]; rfl, rfl⟩
        · have hR2 : R = false := by rw [hR]; simp; omega
          have HR2 := Lib.hid hR2
          have f0 : ¬ (97 : Int) ≤ (n : Int) := by omega
          have f1 : (65 : Int) ≤ (n : Int) := by omega
          have f2 : ¬ (n : Int) ≤ 90 := by omega
          have f3 : (48 : Int) ≤ (n : Int) := by omega
          have f4 : ¬ (n : Int) ≤ 57 := by omega
          have f5 : ((n : Int) == 95) = false := by rw [beq_eq_false_iff_ne]; omega
          have f6 : ((n : Int) == 46) = false := by rw [beq_eq_false_iff_ne]; omega
          have f7 : ((n : Int) == 45) = false := by rw [beq_eq_false_iff_ne]; omega
          clear hR hR2
          go_enter Tryd.func51, Tryd.ntmps51
          go_wp2
          go_ret
          exact ⟨by rw [HR2.out]; rfl, rfl⟩
    · by_cases c2 : 48 ≤ n
      · by_cases c3 : n ≤ 57
        · have hR2 : R = true := by rw [hR]; simp; omega
          have HR2 := Lib.hid hR2
          have f0 : ¬ (97 : Int) ≤ (n : Int) := by omega
          have f1 : ¬ (65 : Int) ≤ (n : Int) := by omega
          have f2 : (48 : Int) ≤ (n : Int) := by omega
          have f3 : (n : Int) ≤ 57 := by omega
          clear hR hR2
          go_enter Tryd.func51, Tryd.ntmps51
          go_wp2
          go_ret
          exact ⟨by rw [HR2.out]; rfl, rfl⟩
        · have hR2 : R = false := by rw [hR]; simp; omega
          have HR2 := Lib.hid hR2
          have f0 : ¬ (97 : Int) ≤ (n : Int) := by omega
          have f1 : ¬ (65 : Int) ≤ (n : Int) := by omega
          have f2 : (48 : Int) ≤ (n : Int) := by omega
          have f3 : ¬ (n : Int) ≤ 57 := by omega
          have f4 : ((n : Int) == 95) = false := by rw [beq_eq_false_iff_ne]; omega
          have f5 : ((n : Int) == 46) = false := by rw [beq_eq_false_iff_ne]; omega
          have f6 : ((n : Int) == 45) = false := by rw [beq_eq_false_iff_ne]; omega
          clear hR hR2
          go_enter Tryd.func51, Tryd.ntmps51
          go_wp2
          go_ret
          exact ⟨by rw [HR2.out]; rfl, rfl⟩
      · by_cases c3 : n = 46
        · have hR2 : R = true := by rw [hR]; simp; omega
          have HR2 := Lib.hid hR2
          have f0 : ¬ (97 : Int) ≤ (n : Int) := by omega
          have f1 : ¬ (65 : Int) ≤ (n : Int) := by omega
          have f2 : ¬ (48 : Int) ≤ (n : Int) := by omega
          have f3 : ((n : Int) == 95) = false := by rw [beq_eq_false_iff_ne]; omega
          have f4 : ((n : Int) == 46) = true := by rw [beq_iff_eq]; omega
          clear hR hR2
          go_enter Tryd.func51, Tryd.ntmps51
          go_wp2
          go_ret
          exact ⟨by rw [HR2.out]; rfl, rfl⟩
        · by_cases c4 : n = 45
          · have hR2 : R = true := by rw [hR]; simp; omega
            have HR2 := Lib.hid hR2
            have f0 : ¬ (97 : Int) ≤ (n : Int) := by omega
            have f1 : ¬ (65 : Int) ≤ (n : Int) := by omega
            have f2 : ¬ (48 : Int) ≤ (n : Int) := by omega
            have f3 : ((n : Int) == 95) = false := by rw [beq_eq_false_iff_ne]; omega
            have f4 : ((n : Int) == 46) = false := by rw [beq_eq_false_iff_ne]; omega
            have f5 : ((n : Int) == 45) = true := by rw [beq_iff_eq]; omega
            clear hR hR2
            go_enter Tryd.func51, Tryd.ntmps51
            go_wp2
            go_ret
            exact ⟨by rw [HR2.out]; rfl, rfl⟩
          · have hR2 : R = false := by rw [hR]; simp; omega
            have HR2 := Lib.hid hR2
            have f0 : ¬ (97 : Int) ≤ (n : Int) := by omega
            have f1 : ¬ (65 : Int) ≤ (n : Int) := by omega
            have f2 : ¬ (48 : Int) ≤ (n : Int) := by omega
            have f3 : ((n : Int) == 95) = false := by rw [beq_eq_false_iff_ne]; omega
            have f4 : ((n : Int) == 46) = false := by rw [beq_eq_false_iff_ne]; omega
            have f5 : ((n : Int) == 45) = false := by rw [beq_eq_false_iff_ne]; omega
            clear hR hR2
            go_enter Tryd.func51, Tryd.ntmps51
            go_wp2
            go_ret
            exact ⟨by rw [HR2.out]; rfl, rfl⟩

set_option maxRecDepth 100000 in
set_option maxHeartbeats 1000000 in
theorem refIsName_any (s : ByteArray) (w : World) (hs : s.size ≤ maxLen) : Calls Tryd.prog 47 #[.string s] w fun e w' => e = .returned (.bool (isName s)) ∧ w = w' := by
  unfold maxLen at hs
  obtain ⟨R, HR⟩ : ∃ R, Hid (isName s = R) := ⟨_, Lib.hid rfl⟩
  rw [HR.out]
  have C := Lib.hid (fun b => nameByte_any b w)
  go_enter Tryd.func47, Tryd.ntmps47
  go_wp2
  go_loop [3] (fun v3 => ∃ k : Nat, k ≤ s.size ∧ v3 = .int .i64 k ∧ Hid (∀ j (h : j < s.size), j < k → 2 ≤ cls s[j])) (fun v3 => s.size - (intOf v3).toNat)
  case atStart => exact ⟨0, by omega, rfl, Lib.hid (fun j _ hj => by omega)⟩
  case round =>
    obtain ⟨k, hk, rfl, HK⟩ := hrel
    have hi0 : (0 : Int) ≤ (k : Int) := Int.natCast_nonneg _
    by_cases hlt : k < s.size
    · have hi1 : (k : Int) < (s.size : Int) := by omega
      have hc := C.out s[k]
      obtain ⟨d, hd⟩ : ∃ d, decide (2 ≤ cls s[k]) = d := ⟨_, rfl⟩
      rw [hd] at hc
      have hC := Lib.hid hc
      clear hc
      cases d with
      | false =>
        have hR : R = false := by
          rw [← HR.out]
          unfold isName consists
          rw [Bool.and_eq_false_iff]
          left
          rw [List.all_eq_false]
          refine ⟨s[k], by rw [← data_at s k hlt]; exact List.getElem_mem _, ?_⟩
          rw [hd]; simp
        have HR2 := Lib.hid hR
        clear hR hd
        go_wp2_with (go_at_call 51; ((with_reducible refine hC.out.mono ?_); rintro e w1 ⟨rfl, rfl⟩))
        go_ret
        exact ⟨by rw [HR2.out]; rfl, rfl⟩
      | true =>
        have H := Lib.hid (of_decide_eq_true hd)
        clear hd
        go_wp2_with (go_at_call 51; ((with_reducible refine hC.out.mono ?_); rintro e w1 ⟨rfl, rfl⟩))
        go_round
        case rel =>
          refine ⟨k + 1, by omega, by go_num, Lib.hid (fun j h hj => ?_)⟩
          rcases Nat.lt_or_ge j k with h' | h'
          · exact HK.out j h h'
          · obtain rfl : j = k := by omega
            exact H.out
        case measure => simp [intOf]; omega
    · obtain rfl : k = s.size := by omega
      have hall : s.data.toList.all (fun b => decide (2 ≤ cls b)) = true := by
        rw [List.all_eq_true]
        intro x hx
        obtain ⟨j, hj, rfl⟩ := List.getElem_of_mem hx
        rw [decide_eq_true_eq]
        exact HK.out j (by simpa using hj) (by simpa using hj)
      have hR := HR.out
      unfold isName consists at hR
      rw [hall, Bool.true_and] at hR
      have b1 := beq_lit s [46]
      have b2 := beq_lit s [46, 46]
      have f0 : s = ByteArray.empty ↔ s.data.toList = [] := ⟨fun e => by rw [e]; rfl, fun e => Go.WideShapes.bytes_inj e⟩
      clear hall
      by_cases h0 : s.data.toList = []
      · have hR2 : R = false := by rw [← hR, decide_eq_true h0]; rfl
        have HR2 := Lib.hid hR2
        have h3 : s = ByteArray.empty := f0.2 h0
        subst h3
        clear hR hR2 b1 b2 f0 h0
        go_wp2
        go_ret
        exact ⟨by rw [HR2.out]; rfl, rfl⟩
      · have h3 : ¬ s = ByteArray.empty := fun e => h0 (f0.1 e)
        have h4 : ¬ s.toList = [] := by rw [ByteArray.toList_eq]; exact h0
        have h5 : s.toList.isEmpty = false := by rw [Bool.eq_false_iff]; intro e; exact h4 (List.isEmpty_iff.1 e)
        rw [decide_eq_false h0] at hR
        by_cases h1 : s.data.toList = [46]
        · have hR2 : R = false := by rw [← hR, decide_eq_true h1]; rfl
          have HR2 := Lib.hid hR2
          rw [decide_eq_true h1] at b1
          clear hR f0 h0 h1 b2 hR2
          go_wp2
          go_ret
          exact ⟨by rw [HR2.out]; rfl, rfl⟩
        · rw [decide_eq_false h1] at hR b1
          by_cases h2 : s.data.toList = [46, 46]
          · rw [decide_eq_true h2] at hR b2
            have HR2 := Lib.hid hR
            clear hR f0 h0 h1 h2
            go_wp2
            go_ret
            exact ⟨by rw [← HR2.out]; rfl, rfl⟩
          · rw [decide_eq_false h2] at hR b2
            have HR2 := Lib.hid hR
            clear hR f0 h0 h1 h2
            go_wp2
            go_ret
            exact ⟨by rw [← HR2.out]; rfl, rfl⟩

end Go.Proofs.YthnlldojidocoaaDoor
