/- The reference's Parts and Valid for long texts with few components. -/
import Derived.Test.YthnlldojidocoaaDoorRefP
namespace Go.Proofs.YthnlldojidocoaaDoor
open Go.RowKit

theorem segsAcc_pos : ∀ (l cur : List UInt8), 1 ≤ (segsAcc cur l).length
  | [], cur => by simp [segsAcc]
  | c :: t, cur => by rw [segsAcc]; split <;> simp [segsAcc_pos t]
set_option maxRecDepth 100000 in
set_option maxHeartbeats 2000000 in
theorem refParts_few (s : ByteArray) (w : World) (hs : s.size ≤ 140737488355328) (hp : (comps s).length ≤ 4398046511104) : Calls Tryd.prog 46 #[.string s] w (StrsOut w (partsL s)) := by
  obtain ⟨i9, hi, hz0, hz1, hz2⟩ := info_parts info9
  have f0 : s = ByteArray.empty ↔ s.data.toList = [] := ⟨fun e => by rw [e]; rfl, fun e => Go.WideShapes.bytes_inj e⟩
  by_cases h0 : s.data.toList = []
  · have hR : partsL s = [] := by unfold partsL; rw [if_pos h0]
    rw [hR]
    have h3 : s = ByteArray.empty := f0.2 h0
    subst h3
    clear hR f0 h0
    go_enter Tryd.func46, Tryd.ntmps46
    go_wp2
    go_ret
    exact ⟨none, 0, rfl, World.ownsRow_nil _ _ _ _, Below.refl _ _⟩
  · have hR : partsL s = comps s := by unfold partsL; rw [if_neg h0]
    rw [hR]
    have h3 : ¬ s = ByteArray.empty := fun e => h0 (f0.1 e)
    have h4 : ¬ s.toList = [] := by rw [ByteArray.toList_eq]; exact h0
    have h5 : s.toList.isEmpty = false := by rw [Bool.eq_false_iff]; intro e; exact h4 (List.isEmpty_iff.1 e)
    obtain ⟨R, HR⟩ : ∃ R, Hid (comps s = R) := ⟨_, Lib.hid rfl⟩
    rw [HR.out]
    have hpR : R.length ≤ 4398046511104 := by rw [← HR.out]; exact hp
    clear hR f0 h0 hp
    go_enter Tryd.func46, Tryd.ntmps46
    go_wp2
    go_loopw [3, 4, 5] (fun v3 v4 v5 wr => ∃ (k st : Nat) (L : List ByteArray) (A : Option Addr) (c : Nat), k ≤ s.size + 1 ∧ st ≤ s.size + 1 ∧ (k ≤ s.size → st ≤ k) ∧ L.length ≤ k ∧ v5 = .int .i64 k ∧ v4 = .int .i64 st ∧ v3 = .slice A L.length c ∧ wr.ownsRow w.heap.size 9 1 (.slice A L.length c) L.length (strC L) ∧
        Hid (k ≤ s.size → L ++ (segsAcc (cutL s.data.toList st k) (s.data.toList.drop k)).map str = R) ∧ Hid (¬ k ≤ s.size → L = R) ∧ Below w.heap.size w wr) (fun _ _ v5 _ => s.size + 1 - (intOf v5).toNat)
    case atStart => exact ⟨0, 0, [], none, 0, by omega, by omega, fun _ => by omega, by simp, rfl, rfl, rfl, World.ownsRow_nil _ _ _ _, Lib.hid (fun _ => by rw [cutL_self, List.nil_append, List.drop_zero, ← HR.out]; rfl), Lib.hid (fun h => absurd (Nat.zero_le _) h), Below.refl _ _⟩
    case round =>
      obtain ⟨k, st, L, A, c, hk, hst1, hst, hLk, rfl, rfl, rfl, hown, HQ, HE, hB⟩ := hrel
      have hi0 : (0 : Int) ≤ (k : Int) := Int.natCast_nonneg _
      have hs0 : (0 : Int) ≤ (st : Int) := Int.natCast_nonneg _
      by_cases hle : k ≤ s.size
      · have hst := hst hle
        have hq := HQ.out hle
        have hLR : L.length + 1 ≤ R.length := by
          have h1 := congrArg List.length hq
          rw [List.length_append, List.length_map] at h1
          have h2 := segsAcc_pos (s.data.toList.drop k) (cutL s.data.toList st k)
          omega
        have hi4 : (k : Int) ≤ (s.size : Int) := by omega
        have hi5 : (st : Int) ≤ (k : Int) := by omega
        by_cases hlt : k < s.size
        · have hi1 : (k : Int) < (s.size : Int) := by omega
          have hi6 : ((k : Int) == (s.size : Int)) = false := by rw [beq_eq_false_iff_ne]; omega
          have hi7 : ¬ (k : Int) = (s.size : Int) := by omega
          have hi8 : ¬ k = s.size := by omega
          have hd := drop_at s k hlt
          rw [hd, segsAcc] at hq
          have hsn := cutL_snoc (l := s.data.toList) hst (by simpa using hlt)
          have hge : s.data.toList[k]'(by simpa using hlt) = s[k] := rfl
          rw [hge] at hsn
          by_cases h47 : s[k] = 47
          · have hcb : ((s[k].toNat : Int) == 47) = true := by rw [h47]; rfl
            have hcn : s[k].toNat = 47 := by rw [h47]; rfl
            have hx := ext_cut s st k
            rw [if_pos h47, List.map_cons, ← hx] at hq
            have HQ2 := Lib.hid hq
            clear hq hd hsn hge hx h47 hst1 HQ HE
            go_wp2_with (at_builtin; refine wpList_append_own _ rfl _ _ 37 rfl w.heap.size 9 i9 (.string ⟨#[]⟩) 1 16 Tryd.underlying37 hi hz0 hz1 hz2 rfl (by decide) (.slice A L.length c) _ _ rfl (hown.alloc _) ⟨wr.heap.size, 0, none⟩ 1 1 [.string (s.extract st k)] rfl rfl (cell_one_new _ _ _) (by simp [Value.oneCell']) (by unfold maxLen; omega) (by omega) (by have := hB.size; simp; omega) ?_; intro v' w3 hown3 hgrow3 _; obtain ⟨g', cap', rfl⟩ := own_succ hown3)
            go_roundw
            case rel =>
              refine ⟨k + 1, k + 1, L ++ [s.extract st k], _, cap', by omega, by omega, fun _ => by omega, by simp; omega, by go_num, by go_num, by rw [List.length_append]; rfl, ?_, Lib.hid (fun _ => ?_), Lib.hid (fun h => absurd (show k + 1 ≤ s.size by omega) h), (hB.alloc hB.size _).grown hgrow3 (by have := hB.size; simp; omega) (row_ge hown)⟩
              · rw [strC_snoc, List.length_append]; exact hown3
              · rw [cutL_self, List.append_assoc]; exact HQ2.out
            case measure => simp [intOf]; omega
          · have hcn : ¬ s[k].toNat = 47 := fun e => h47 (UInt8.toNat_inj.1 e)
            have hcb : ((s[k].toNat : Int) == 47) = false := by rw [beq_eq_false_iff_ne]; omega
            rw [if_neg h47, ← hsn] at hq
            have HQ2 := Lib.hid hq
            clear hq hd hsn hge h47 HQ HE
            go_wp2
            go_roundw
            case rel =>
              exact ⟨k + 1, st, L, A, c, by omega, by omega, fun _ => by omega, by omega, by go_num, rfl, rfl, hown, Lib.hid (fun _ => HQ2.out), Lib.hid (fun h => absurd (show k + 1 ≤ s.size by omega) h), hB⟩
            case measure => simp [intOf]; omega
        · obtain rfl : k = s.size := by omega
          have hnil : s.data.toList.drop s.size = [] := List.drop_eq_nil_of_le (by simp)
          rw [hnil, segsAcc, List.map_singleton, ← ext_cut] at hq
          have HQ2 := Lib.hid hq
          clear hnil hq HQ HE hlt
          go_wp2_with (at_builtin; refine wpList_append_own _ rfl _ _ 37 rfl w.heap.size 9 i9 (.string ⟨#[]⟩) 1 16 Tryd.underlying37 hi hz0 hz1 hz2 rfl (by decide) (.slice A L.length c) _ _ rfl (hown.alloc _) ⟨wr.heap.size, 0, none⟩ 1 1 [.string (s.extract st s.size)] rfl rfl (cell_one_new _ _ _) (by simp [Value.oneCell']) (by unfold maxLen; omega) (by omega) (by have := hB.size; simp; omega) ?_; intro v' w3 hown3 hgrow3 _; obtain ⟨g', cap', rfl⟩ := own_succ hown3)
          go_roundw
          case rel =>
            refine ⟨s.size + 1, s.size + 1, L ++ [s.extract st s.size], _, cap', by omega, by omega, fun h => by omega, by simp; omega, by go_num, by go_num, by rw [List.length_append]; rfl, ?_, Lib.hid (fun h => by omega), Lib.hid (fun _ => HQ2.out), (hB.alloc hB.size _).grown hgrow3 (by have := hB.size; simp; omega) (row_ge hown)⟩
            rw [strC_snoc, List.length_append]; exact hown3
          case measure => simp [intOf]
      · have hi1 : ¬ (k : Int) ≤ (s.size : Int) := by omega
        have HE2 := Lib.hid (HE.out hle)
        clear hst
        go_wp2
        go_ret
        rw [← HE2.out]
        exact ⟨A, c, rfl, hown, hB⟩

set_option maxRecDepth 100000 in
set_option maxHeartbeats 2000000 in
theorem refValid_few (s : ByteArray) (w : World) (hs : s.size ≤ 140737488355328) (hp : (comps s).length ≤ 4398046511104) : Calls Tryd.prog 43 #[.string s] w (BoolB w (validS s)) := by
  have hv := within_ref s isName (by decide +kernel)
  change validS s = _ at hv
  obtain ⟨R, HR⟩ : ∃ R, Hid (validS s = R) := ⟨_, Lib.hid rfl⟩
  rw [HR.out] at hv ⊢
  have hmem := partsL_mem s
  have hnl := partsL_len s
  have P := refParts_few s w hs hp
  obtain ⟨N, HN⟩ : ∃ N, Hid (partsL s = N) := ⟨_, Lib.hid rfl⟩
  rw [HN.out] at hv hmem P hnl
  have HP := Lib.hid P
  have HV := Lib.hid hv
  have HI := Lib.hid (fun (x : ByteArray) (hx : x ∈ N) (W : World) => refIsName_any x W (by have := hmem x hx; unfold maxLen; omega))
  clear hv P hmem
  go_enter Tryd.func43, Tryd.ntmps43
  go_wp2_with (go_at_call 46; ((with_reducible refine HP.out.mono ?_); rintro e w1 ⟨A, c, rfl, ho, hb⟩))
  have hS := (Strs.own ho).2
  have hcap := hS.cap
  clear ho
  go_loop [4] (fun v4 => ∃ k : Nat, k ≤ N.length ∧ v4 = .int .i64 k ∧ Hid (∀ j (h : j < N.length), j < k → isName N[j] = true)) (fun v4 => N.length - (intOf v4).toNat)
  case atStart => exact ⟨0, by omega, rfl, Lib.hid (fun j _ hj => by omega)⟩
  case round =>
    obtain ⟨k, hk, rfl, HK⟩ := hrel
    have hi0 : (0 : Int) ≤ (k : Int) := Int.natCast_nonneg _
    by_cases hlt : k < N.length
    · obtain ⟨ad, rfl, hadB, hca⟩ := hS.at_ hlt
      have hi1 : (k : Int) < (N.length : Int) := by omega
      have hC := HI.out N[k] (List.getElem_mem hlt) w1
      obtain ⟨x, HX⟩ : ∃ x, Hid (N[k] = x) := ⟨_, Lib.hid rfl⟩
      rw [HX.out] at hca hC
      obtain ⟨d, hd⟩ : ∃ d, isName x = d := ⟨_, rfl⟩
      rw [hd] at hC
      have HC := Lib.hid hC
      clear hC
      cases d with
      | false =>
        have hR : R = false := by
          rw [HV.out]
          have : N.all isName = false := by
            rw [List.all_eq_false]
            exact ⟨N[k], List.getElem_mem hlt, by rw [HX.out, hd]; simp⟩
          rw [this]; rfl
        have HR2 := Lib.hid hR
        clear hR hd
        go_wp2_with (go_at_call 47; ((with_reducible refine HC.out.mono ?_); rintro e w2 ⟨rfl, rfl⟩))
        go_ret
        exact ⟨by rw [HR2.out]; rfl, hb⟩
      | true =>
        have HD := Lib.hid hd
        clear hd
        go_wp2_with (go_at_call 47; ((with_reducible refine HC.out.mono ?_); rintro e w2 ⟨rfl, rfl⟩))
        go_round
        case rel =>
          refine ⟨k + 1, by omega, by go_num, Lib.hid (fun j h hj => ?_)⟩
          rcases Nat.lt_or_ge j k with h' | h'
          · exact HK.out j h h'
          · obtain rfl : j = k := by omega
            rw [HX.out]; exact HD.out
        case measure => simp [intOf]; omega
    · obtain rfl : k = N.length := by omega
      have hall : N.all isName = true := by
        rw [List.all_eq_true]
        intro x hx
        obtain ⟨j, hj, rfl⟩ := List.getElem_of_mem hx
        exact HK.out j hj hj
      have hR : R = (decide (1 ≤ N.length) && (decide (N.length ≤ 20) && decide (s.size ≤ 200))) := by rw [HV.out, hall]; rfl
      clear hall
      by_cases a1 : 1 ≤ N.length
      · by_cases a2 : N.length ≤ 20
        · by_cases a3 : s.size ≤ 200
          · rw [decide_eq_true a1, decide_eq_true a2, decide_eq_true a3] at hR
            have HR2 := Lib.hid hR
            have b1 : (1 : Int) ≤ (N.length : Int) := by omega
            have b2 : (N.length : Int) ≤ 20 := by omega
            have b3 : (s.size : Int) ≤ 200 := by omega
            clear hR
            go_wp2
            go_ret
            exact ⟨by rw [HR2.out]; rfl, hb⟩
          · rw [decide_eq_true a1, decide_eq_true a2, decide_eq_false a3] at hR
            have HR2 := Lib.hid hR
            have b1 : (1 : Int) ≤ (N.length : Int) := by omega
            have b2 : (N.length : Int) ≤ 20 := by omega
            have b3 : ¬ (s.size : Int) ≤ 200 := by omega
            clear hR
            go_wp2
            go_ret
            exact ⟨by rw [HR2.out]; rfl, hb⟩
        · rw [decide_eq_true a1, decide_eq_false a2] at hR
          have HR2 := Lib.hid hR
          have b1 : (1 : Int) ≤ (N.length : Int) := by omega
          have b2 : ¬ (N.length : Int) ≤ 20 := by omega
          clear hR
          go_wp2
          go_ret
          exact ⟨by rw [HR2.out]; rfl, hb⟩
      · rw [decide_eq_false a1] at hR
        have HR2 := Lib.hid hR
        have b1 : ¬ (1 : Int) ≤ (N.length : Int) := by omega
        clear hR
        go_wp2
        go_ret
        exact ⟨by rw [HR2.out]; rfl, hb⟩

end Go.Proofs.YthnlldojidocoaaDoor
