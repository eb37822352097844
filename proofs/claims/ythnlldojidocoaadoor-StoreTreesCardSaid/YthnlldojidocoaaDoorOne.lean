/- The reference's one, and Right. -/
import Derived.Test.YthnlldojidocoaaDoorRefW
import Derived.Test.YthnlldojidocoaaDoorHold
namespace Go.Proofs.YthnlldojidocoaaDoor
open Go.RowKit Go.Maps

set_option maxRecDepth 100000 in
set_option maxHeartbeats 1000000 in
theorem one_any (s : ByteArray) (w : World) (hs : s.size ≤ 140737488355328) : Calls Tryd.prog 38 #[.string s] w (BoolB w (nameOk s)) := by
  have hr := nameOk_ref s
  obtain ⟨R, HR⟩ : ∃ R, Hid (nameOk s = R) := ⟨_, Lib.hid rfl⟩
  rw [HR.out] at hr ⊢
  have HRR := Lib.hid hr
  clear hr
  go_enter Tryd.func38, Tryd.ntmps38
  go_wp2
  go_loop [3] (fun v3 => ∃ k : Nat, k ≤ s.size ∧ v3 = .int .i64 (k : Int) ∧ Hid (∀ j (h : j < s.size), j < k → s[j] ≠ 47)) (fun v3 => s.size - (intOf v3).toNat)
  case atStart => exact ⟨0, by omega, rfl, Lib.hid (fun j _ hj => by omega)⟩
  case round =>
    obtain ⟨k, hk, rfl, HK⟩ := hrel
    have hi0 : (0 : Int) ≤ (k : Int) := Int.natCast_nonneg _
    by_cases hlt : k < s.size
    · have hi1 : (k : Int) < (s.size : Int) := by omega
      by_cases h47 : s[k] = 47
      · have hcb : ((s[k].toNat : Int) == 47) = true := by rw [h47]; rfl
        have hcn : s[k].toNat = 47 := by rw [h47]; rfl
        have hR : R = false := by
          rw [← HRR.out]
          have hm : 47 ∈ s.data.toList := by
            rw [← h47]
            exact List.getElem_mem (by simpa using hlt)
          simp [hm]
        have HR2 := Lib.hid hR
        clear h47 hR
        go_wp2
        go_ret
        exact ⟨by rw [HR2.out]; rfl, Below.refl _ _⟩
      · have hcn : ¬ s[k].toNat = 47 := fun e => h47 (UInt8.toNat_inj.1 e)
        have hcb : ((s[k].toNat : Int) == 47) = false := by rw [beq_eq_false_iff_ne]; omega
        have H := Lib.hid h47
        clear h47
        go_wp2
        go_round
        case rel =>
          refine ⟨k + 1, by omega, by go_num, Lib.hid (fun j h hj => ?_)⟩
          rcases Nat.lt_or_ge j k with h' | h'
          · exact HK.out j h h'
          · obtain rfl : j = k := by omega
            exact H.out
        case measure => simp [intOf]; omega
    · obtain rfl : k = s.size := by omega
      have hf : 47 ∉ s.data.toList := by
        intro hm
        obtain ⟨j, hj, he⟩ := List.getElem_of_mem hm
        have hj' : j < s.size := by simpa using hj
        exact HK.out j hj' hj' he
      have V := Lib.hid (refValid_few s w hs (by rw [comps_last hf]; simp))
      have hR : validS s = R := by
        rw [← HRR.out]
        simp [hf]
      rw [hR] at V
      clear hf hR
      go_wp2_with (go_at_call 43; ((with_reducible refine V.out.mono ?_); rintro e w1 ⟨rfl, hb⟩))
      go_ret
      exact ⟨rfl, hb⟩
end Go.Proofs.YthnlldojidocoaaDoor
