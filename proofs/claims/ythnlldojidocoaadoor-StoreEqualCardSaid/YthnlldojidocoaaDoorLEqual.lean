/- StoreEqual: for all lists of texts: texts have the same number exactly if they are equal. -/
import Derived.Test.YthnlldojidocoaaDoorLaws3
namespace Go.Proofs.YthnlldojidocoaaDoor.lequal
open Go.ChangeShapes Go.WideShapes Go.ChangeAt Go.RowKit Go.Maps

set_option maxRecDepth 100000 in
set_option maxHeartbeats 8000000 in
theorem walk (A : Option Addr) (l : List ByteArray) (c : Nat) (w : World) (hT : Tab w) (hA : Strs w w.heap.size A c l) (hn : l.length ≤ maxLen) (hz : ∀ s ∈ l, s.size ≤ maxLen) : Calls Tryd.prog 5 #[.slice A l.length c] w (BoolB w true) := by
  unfold maxLen at hn hz
  obtain ⟨i3, hi, hz0, hz1, hz2⟩ := info_parts info3
  have S := Lib.hid (sane_any w hT)
  have NW := Lib.hid (newW hT)
  have BL := Lib.hid (fun (W : World) (p : Nat) (os : List Ob) (F : Nat → Prop) (h : StW w W p os F) (hn : os.length ≤ 1000) (s : ByteArray) (hs : s.size ≤ 65536) => blobW h (by omega) s hs)
  have hcap := hA.cap
  have HZ := Lib.hid hz
  obtain ⟨n, HN⟩ : ∃ n, Hid (l.length = n) := ⟨_, Lib.hid rfl⟩
  rw [HN.out] at hn hcap ⊢
  clear hz
  go_enter Tryd.func5, Tryd.ntmps5
  go_wp2_with (first
    | (go_at_call 14; (with_reducible refine S.out.mono ?_); rintro e w1 ⟨rfl, hb1⟩)
    | (go_at_call 15; (with_reducible refine (NW.out _ hb1).mono ?_); rintro e w2 ⟨rfl, h2⟩; (obtain ⟨p, hp⟩ : ∃ p, w1.heap.size = p := ⟨_, rfl⟩); rw [hp] at h2))
  obtain ⟨F2, hF2⟩ : ∃ F : Nat → Prop, (fun g => g = p) = F := ⟨_, rfl⟩
  rw [hF2] at h2
  clear hF2
  go_loopw [5, 6] (fun v5 v6 wr => ∃ (k : Nat) (os : List Ob) (F : Nat → Prop) (D : Option Addr) (d : Nat), k ≤ n ∧ k ≤ 30 ∧ v6 = .int .i64 (k : Int) ∧ v5 = .slice D k d ∧ os.length ≤ k ∧ StW w wr p os F ∧ Mine w wr (.slice D k d) 3 1 k (natC ((l.take k).map (idOf os))) F ∧ Hid (∀ j (h : j < l.length), j < k → l[j].size ≤ 65536 → blobO l[j] ∈ os)) (fun _ v6 _ => n - (intOf v6).toNat)
  case atStart => exact ⟨0, [], F2, none, 0, by omega, by omega, rfl, rfl, by simp, h2, Mine.nil _ _ _ _ _, Lib.hid (fun j _ hj => by omega)⟩
  case round =>
    obtain ⟨k, os, F, D, d, hk, hk30, rfl, rfl, hos, hst, hM, HB⟩ := hrel
    have hi0 : (0 : Int) ≤ (k : Int) := Int.natCast_nonneg _
    by_cases hlt : k < n
    · have hi1 : (k : Int) < (n : Int) := by omega
      by_cases h30 : k < 30
      · have hi30 : (k : Int) < 30 := by omega
        have hkl : k < l.length := by have := HN.out; omega
        obtain ⟨ad, rfl, hadB, hca0⟩ := hA.at_ hkl
        have hca := (hst.below.cell (p := ad.add k) (by rw [add_block]; exact hadB)).trans hca0
        have hsz := HZ.out _ (List.getElem_mem hkl)
        have hmem := fun (h : k < l.length) => HB.out
        obtain ⟨s, hs⟩ : ∃ s, l[k] = s := ⟨_, rfl⟩
        rw [hs] at hca hca0 hsz
        have HSK := Lib.hid hs
        -- what the call leaves, whatever its answer
        by_cases hsm : s.size ≤ 65536
        · have hsi : ¬ 65536 < (s.size : Int) := by omega
          have C := Lib.hid (BL.out _ p os F hst (by omega) s hsm)
          have HB2 : Hid (∀ j (h : j < l.length), j < k + 1 → l[j].size ≤ 65536 → blobO l[j] ∈ put os (blobO s)) := Lib.hid (fun j h hj hz => by
            rcases Nat.lt_or_ge j k with h' | h'
            · exact put_more (HB.out j h h' hz)
            · obtain rfl : j = k := by omega
              rw [HSK.out]; exact put_self _)
          have hid : num os (blobO s) = idOf (put os (blobO s)) s := by unfold idOf; rw [if_pos hsm, num_self]
          have hmap : (l.take k).map (idOf os) = (l.take k).map (idOf (put os (blobO s))) := by
            apply List.map_congr_left
            intro x hx
            obtain ⟨j, hj, rfl⟩ := List.getElem_of_mem hx
            rw [List.length_take] at hj
            rw [List.getElem_take]
            exact (idOf_put _ (HB.out j (by omega) (by omega))).symm
          have hos2 : (put os (blobO s)).length ≤ k + 1 := Nat.le_trans (put_len _ _) (by omega)
          rw [hid] at C
          obtain ⟨os2, hos2e⟩ : ∃ o, put os (blobO s) = o := ⟨_, rfl⟩
          rw [hos2e] at C HB2 hmap hos2 hid
          rw [hmap] at hM
          clear hid hmap hos2e
          obtain ⟨v, hv⟩ : ∃ v, idOf os2 s = v := ⟨_, rfl⟩
          rw [hv] at C
          have HV := Lib.hid hv
          clear hv
          have HSM := Lib.hid hsm
          clear hsm hos HB hs
          go_wp2_with (go_at_call 18; (with_reducible refine C.out.mono ?_); rintro e w3 ⟨rfl, F3, h3, hg3⟩; (have hM3 := hM.goes hg3); (have hca3 : w3.cell? (ad.add k) = some (.string s) := (h3.below.cell (p := ad.add k) (by rw [add_block]; exact hadB)).trans hca0))
          have hvl : v ≤ k + 1 := by
            rw [← HV.out]
            exact Nat.le_trans (idOf_le os2 s (fun h => by have := HB2.out k hkl (by omega); rw [HSK.out] at this; exact this h)) hos2
          go_loopw [9] (fun v9 wi => ∃ j q : Nat, j ≤ k ∧ v9 = .int .i64 (j : Int) ∧ wi = w3.drewN q) (fun v9 _ => k - (intOf v9).toNat)
          case atStart => exact ⟨0, 0, by omega, rfl, rfl⟩
          case round =>
            obtain ⟨j, q, hj, rfl, rfl⟩ := hrel
            have hj0 : (0 : Int) ≤ (j : Int) := Int.natCast_nonneg _
            by_cases hjk : j < k
            · have hj1 : (j : Int) < (k : Int) := by omega
              have hj2 : (j : Int) < (n : Int) := by omega
              obtain ⟨g, cap, hv', hcell⟩ := hM3.form (by omega)
              injection hv' with hD _ hd
              subst hD hd
              have hjl : j < l.length := by omega
              obtain ⟨ad', he', hadB', hcj0⟩ := hA.at_ hjl
              injection he' with he'
              subst he'
              have hcj := (h3.below.cell (p := ad.add j) (by rw [add_block]; exact hadB')).trans hcj0
              have hcu := hcell j (.int .i64 (idOf os2 l[j] : Int)) (by unfold natC; rw [List.getElem?_map, List.getElem?_map, List.getElem?_take_of_lt hjk, List.getElem?_eq_getElem hjl]; rfl)
              have hcs := idOf_cases (os := os2) (a := l[j]) (b := s) (fun h => HB2.out j hjl (by omega) h) (fun h => by have := HB2.out k hkl (by omega); rw [HSK.out] at this; exact this h)
              have hul := idOf_le os2 l[j] (fun h => HB2.out j hjl (by omega) h)
              have hzj := HZ.out _ (List.getElem_mem hjl)
              rw [HV.out] at hcs
              obtain ⟨t, ht⟩ : ∃ t, l[j] = t := ⟨_, rfl⟩
              rw [ht] at hcj hcu hcs hul hzj
              obtain ⟨u, hu⟩ : ∃ u, idOf os2 t = u := ⟨_, rfl⟩
              rw [hu] at hcu hcs hul
              clear ht hu hcj0 hcell
              have hcap2 : k ≤ d := by have := (Row.own hM3.own).2.1; omega
              rcases hcs with ⟨e1, e2⟩ | ⟨e1, e2⟩ | ⟨e1, e2, e3, e4⟩
              · subst e1 e2
                have b2 : (t.toList == t.toList) = true := by simp
                go_wp2_with fail
                go_quiet (fail)
                go_wp2
                go_roundw
                case rel => exact ⟨j + 1, _, by omega, by go_num, rfl⟩
                case measure => simp [intOf]; omega
              · have b1 : ((u : Int) == (v : Int)) = false := by rw [beq_eq_false_iff_ne]; omega
                have b1' : ¬ (u : Int) = (v : Int) := by omega
                have b2' : ¬ t.toList = s.toList := fun e => e2 (eq_of_data e)
                have b2 : (t.toList == s.toList) = false := by rw [beq_eq_false_iff_ne]; exact b2'
                clear e1 e2
                go_wp2_with fail
                go_quiet (fail)
                go_wp2
                go_roundw
                case rel => exact ⟨j + 1, _, by omega, by go_num, rfl⟩
                case measure => simp [intOf]; omega
              · exact absurd HSM.out (by omega)
            · obtain rfl : j = k := by omega
              have h3d := h3.drewN q
              have hM4 : Mine w (w3.drewN q) (.slice D j d) 3 1 j (natC ((l.take j).map (idOf os2))) F3 := hM3.on (Below.drewN_ (Below.refl _ _) q)
              have HF : Hid (natC ((l.take (j + 1)).map (idOf os2)) = natC ((l.take j).map (idOf os2)) ++ [.int .i64 (v : Int)]) := Lib.hid (by
                rw [List.take_succ_eq_append_getElem hkl, HSK.out, List.map_append, List.map_singleton, HV.out]
                simp [natC])
              clear hM3
              obtain ⟨w4, hw4⟩ : ∃ w4, w3.drewN q = w4 := ⟨_, rfl⟩
              rw [hw4] at h3d hM4 ⊢
              clear hw4
              go_wp2_with (at_builtin; refine wpList_append_own_at _ rfl _ _ 38 rfl w.heap.size 3 i3 (.int .i64 0) 1 8 Tryd.underlying38 hi hz0 hz1 hz2 rfl (by decide) (.slice D j d) _ _ rfl (hM4.own.alloc _) ⟨w4.heap.size, 0, none⟩ 1 1 [.int .i64 (v : Int)] rfl rfl (cell_one_new _ _ _) (by simp [Value.oneCell']) (by unfold maxLen; omega) (by omega) (by have := h3d.below.size; simp; omega) ?_; intro v' w5 hown5 hgrow5 _ hloc; obtain ⟨g', cap', rfl, _, _⟩ := hown5.form (by omega))
              go_roundw
              case rel =>
                obtain ⟨a1, a2⟩ := hM4.app h3d hgrow5 hown5 hloc
                rw [← HF.out] at a2
                exact ⟨j + 1, os2, F3, _, cap', by omega, by omega, by go_num, rfl, hos2, a1, a2, HB2⟩
              case measure => simp [intOf]; omega
        · have hsi : 65536 < (s.size : Int) := by omega
          have b3 : ¬ (s.size : Int) ≤ 65536 := by omega
          have b4 : decide ((s.size : Int) ≤ 65536) = false := by rw [decide_eq_false_iff_not]; exact b3
          have C := Lib.hid (fun (W : World) => blob_big p W s (by omega))
          have HB2 : Hid (∀ j (h : j < l.length), j < k + 1 → l[j].size ≤ 65536 → blobO l[j] ∈ os) := Lib.hid (fun j h hj hz => by
            rcases Nat.lt_or_ge j k with h' | h'
            · exact HB.out j h h' hz
            · obtain rfl : j = k := by omega
              rw [HSK.out] at hz; exact absurd hz hsm)
          have hos2 : os.length ≤ k + 1 := by omega
          obtain ⟨os2, hos2e⟩ : ∃ o, os = o := ⟨_, rfl⟩
          rw [hos2e] at HB2 hos2 hM hst
          clear hos2e
          obtain ⟨v, hv⟩ : ∃ v : Nat, 0 = v := ⟨_, rfl⟩
          have HV : Hid (idOf os2 s = v) := Lib.hid (by rw [← hv]; unfold idOf; rw [if_neg hsm])
          have C2 : Hid (Calls Tryd.prog 18 #[.pointer (some ⟨p, 0, none⟩), .string s] wr fun e w' => e = .returned (.tuple #[.int .i64 (v : Int), .int .i64 2]) ∧ StW w w' p os2 F ∧ Mine w w' (.slice D k d) 3 1 k (natC ((l.take k).map (idOf os2))) F ∧ w'.cell? (ad.add k) = some (.string s)) := Lib.hid ((C.out wr).mono (fun e w' ⟨he, hw⟩ => ⟨by rw [he, ← hv]; rfl, by rw [← hw]; exact ⟨hst, hM, hca⟩⟩))
          clear hv
          have HSM := Lib.hid hsm
          clear hsm hos HB hs
          go_wp2_with (go_at_call 18; (with_reducible refine C2.out.mono ?_); rintro e w3 ⟨rfl, h3, hM3, hca3⟩)
          have hvl : v ≤ k + 1 := by
            rw [← HV.out]
            exact Nat.le_trans (idOf_le os2 s (fun h => by have := HB2.out k hkl (by omega); rw [HSK.out] at this; exact this h)) hos2
          go_loopw [9] (fun v9 wi => ∃ j q : Nat, j ≤ k ∧ v9 = .int .i64 (j : Int) ∧ wi = w3.drewN q) (fun v9 _ => k - (intOf v9).toNat)
          case atStart => exact ⟨0, 0, by omega, rfl, rfl⟩
          case round =>
            obtain ⟨j, q, hj, rfl, rfl⟩ := hrel
            have hj0 : (0 : Int) ≤ (j : Int) := Int.natCast_nonneg _
            by_cases hjk : j < k
            · have hj1 : (j : Int) < (k : Int) := by omega
              have hj2 : (j : Int) < (n : Int) := by omega
              obtain ⟨g, cap, hv', hcell⟩ := hM3.form (by omega)
              injection hv' with hD _ hd
              subst hD hd
              have hjl : j < l.length := by omega
              obtain ⟨ad', he', hadB', hcj0⟩ := hA.at_ hjl
              injection he' with he'
              subst he'
              have hcj := (h3.below.cell (p := ad.add j) (by rw [add_block]; exact hadB')).trans hcj0
              have hcu := hcell j (.int .i64 (idOf os2 l[j] : Int)) (by unfold natC; rw [List.getElem?_map, List.getElem?_map, List.getElem?_take_of_lt hjk, List.getElem?_eq_getElem hjl]; rfl)
              have hcs := idOf_cases (os := os2) (a := l[j]) (b := s) (fun h => HB2.out j hjl (by omega) h) (fun h => by have := HB2.out k hkl (by omega); rw [HSK.out] at this; exact this h)
              have hul := idOf_le os2 l[j] (fun h => HB2.out j hjl (by omega) h)
              have hzj := HZ.out _ (List.getElem_mem hjl)
              rw [HV.out] at hcs
              obtain ⟨t, ht⟩ : ∃ t, l[j] = t := ⟨_, rfl⟩
              rw [ht] at hcj hcu hcs hul hzj
              obtain ⟨u, hu⟩ : ∃ u, idOf os2 t = u := ⟨_, rfl⟩
              rw [hu] at hcu hcs hul
              clear ht hu hcj0 hcell
              have hcap2 : k ≤ d := by have := (Row.own hM3.own).2.1; omega
              rcases hcs with ⟨e1, e2⟩ | ⟨e1, e2⟩ | ⟨e1, e2, e3, e4⟩
              · subst e1 e2
                have b2 : (t.toList == t.toList) = true := by simp
                go_wp2_with fail
                go_quiet (fail)
                go_wp2
                go_roundw
                case rel => exact ⟨j + 1, _, by omega, by go_num, rfl⟩
                case measure => simp [intOf]; omega
              · have b1 : ((u : Int) == (v : Int)) = false := by rw [beq_eq_false_iff_ne]; omega
                have b1' : ¬ (u : Int) = (v : Int) := by omega
                have b2' : ¬ t.toList = s.toList := fun e => e2 (eq_of_data e)
                have b2 : (t.toList == s.toList) = false := by rw [beq_eq_false_iff_ne]; exact b2'
                clear e1 e2
                go_wp2_with fail
                go_quiet (fail)
                go_wp2
                go_roundw
                case rel => exact ⟨j + 1, _, by omega, by go_num, rfl⟩
                case measure => simp [intOf]; omega
              · subst e1
                have b2' : ¬ t.toList = s.toList := fun e => e2 (eq_of_data e)
                have b2 : (t.toList == s.toList) = false := by rw [beq_eq_false_iff_ne]; exact b2'
                clear e2
                go_wp2_with fail
                go_quiet (fail)
                go_wp2
                go_roundw
                case rel => exact ⟨j + 1, _, by omega, by go_num, rfl⟩
                case measure => simp [intOf]; omega
            · obtain rfl : j = k := by omega
              have h3d := h3.drewN q
              have hM4 : Mine w (w3.drewN q) (.slice D j d) 3 1 j (natC ((l.take j).map (idOf os2))) F := hM3.on (Below.drewN_ (Below.refl _ _) q)
              have HF : Hid (natC ((l.take (j + 1)).map (idOf os2)) = natC ((l.take j).map (idOf os2)) ++ [.int .i64 (v : Int)]) := Lib.hid (by
                rw [List.take_succ_eq_append_getElem hkl, HSK.out, List.map_append, List.map_singleton, HV.out]
                simp [natC])
              clear hM3
              obtain ⟨w4, hw4⟩ : ∃ w4, w3.drewN q = w4 := ⟨_, rfl⟩
              rw [hw4] at h3d hM4 ⊢
              clear hw4
              go_wp2_with (at_builtin; refine wpList_append_own_at _ rfl _ _ 38 rfl w.heap.size 3 i3 (.int .i64 0) 1 8 Tryd.underlying38 hi hz0 hz1 hz2 rfl (by decide) (.slice D j d) _ _ rfl (hM4.own.alloc _) ⟨w4.heap.size, 0, none⟩ 1 1 [.int .i64 (v : Int)] rfl rfl (cell_one_new _ _ _) (by simp [Value.oneCell']) (by unfold maxLen; omega) (by omega) (by have := h3d.below.size; simp; omega) ?_; intro v' w5 hown5 hgrow5 _ hloc; obtain ⟨g', cap', rfl, _, _⟩ := hown5.form (by omega))
              go_roundw
              case rel =>
                obtain ⟨a1, a2⟩ := hM4.app h3d hgrow5 hown5 hloc
                rw [← HF.out] at a2
                exact ⟨j + 1, os2, F, _, cap', by omega, by omega, by go_num, rfl, hos2, a1, a2, HB2⟩
              case measure => simp [intOf]; omega
      · obtain rfl : k = 30 := by omega
        go_wp2
        go_ret
        exact ⟨rfl, hst.below⟩
    · obtain rfl : k = n := by omega
      go_wp2
      go_ret
      exact ⟨rfl, hst.below⟩

theorem contract (H : Type) (enc : TypeId × Value → H) (W : World) (base : Nat) (args : Array Value) (ds gs : List (DataW H)) (before : List MemPlace)
    (hval : ∀ (j : Nat) t v, Tryd.f5.params[j]? = some t → args[j]? = some v → Value.okWide Tryd.prog W .any base t v)
    (hW : DataW.Whole enc Tryd.prog Tryd.f5.params.toList Rows.storeEqualSpec.vars false W args.toList ds gs before) (hT : Tab W) :
    Calls Tryd.prog 5 args W fun e W' => ∃ v, e = .returned v ∧ Rows.storeEqualSpec.post enc Tryd.prog Tryd.f5 false true false false W args v W' := by
  have hW' := hW
  obtain ⟨p, q, hA0, hV, rfl, hfz, hnd⟩ := hW
  have hA : DataW.TrodAll enc Tryd.prog W 0 (fun _ => true) true Tryd.f5.params.toList args.toList ds p := hA0
  rw [Tryd.params5] at hA hval
  obtain ⟨v0, vs0, d0, ds0, p0, q0, e0, rfl, rfl, h0, r0⟩ := trodAll_cons hA
  obtain ⟨rfl, rfl, rfl⟩ := trodAll_nil r0
  obtain rfl : args = #[v0] := by cases args; simp_all
  obtain ⟨rfl, rfl⟩ := trodVars_none hV
  obtain ⟨A, l, c, rfl, hI, hn, hz⟩ := open_strl h0 (hval 0 37 v0 rfl rfl)
  refine (walk A l c W hT hI hn hz).mono fun e W' ⟨he, hb⟩ => ⟨_, he, law_post rfl rfl ?_ rfl rfl rfl hW' hb⟩
  rw [Tryd.params5]
  intro t ht
  obtain rfl : t = 37 := by simpa using ht
  exact ⟨by kernel_rfl, of_decide_eq_true (by kernel_rfl)⟩

theorem laid_met (os : Os) : laidMet Tryd.prog Rows.storeEqualRow.laid ((laidWorld os).forCall (fun _ _ => 0) ⟨#[], #[.slice none 0 0], []⟩).memory :=
  laidMet_of_run' 8 (by kernel_rfl) (by kernel_rfl)
theorem reads (os : Os) {H : Type} (enc : TypeId × Value → H) : ∃ ds places, DataW.whole enc Tryd.prog ((laidWorld os).forCall (fun _ _ => 0) ⟨#[], #[.slice none 0 0], []⟩).memory Tryd.f5.params.toList Rows.storeEqualSpec.vars false (#[.slice none 0 0] : Array Value).toList 8 = some (ds, [], places) ∧ Rows.uptoSmall H (ds ++ []) = true :=
  ⟨[.nil], [], by kernel_rfl, by kernel_rfl⟩

set_option maxRecDepth 100000 in
theorem lifted (os : Os) (started : os.Started) (H : Type) (enc : TypeId × Value → H) (F : Stop.Interp) :
    ReturnsInHanded {} Tryd.checked os 5 .any ((OpenSpec.ofChange Rows.storeEqualSpec).preRow enc Tryd.prog Tryd.f5 Rows.storeEqualRow.domain false Rows.storeEqualRow.laid) (((OpenSpec.ofChange Rows.storeEqualSpec).at F).post enc Tryd.prog Tryd.f5 false true false false) := by
  obtain ⟨ds, places, hx, hsm⟩ := reads os enc
  refine returnsInHanded_of_row (C := Tryd.checked) (s := (OpenSpec.ofChange Rows.storeEqualSpec)) ownKnob_none started (by kernel_rfl) Tryd.func5
    (witness_row_at (enc := enc) (C := Tryd.checked) false (laidWorld os) #[.slice none 0 0] rfl (by kernel_rfl) (by kernel_rfl) (by kernel_rfl)
      (OpenSpec.preRow_of_cond 8 hx (by kernel_rfl) (fun k hk => by cases hk) (by kernel_rfl) (laid_met os))) ?_
  intro W base args ds gs before hval hW _ _ _ hL _ _
  exact contract H enc W base args ds gs before hval hW (tab_of_laid hL)

theorem said : Rows.StoreEqualSaid :=
  OpenClaim.holds_of_cond 5 Tryd.f5 rfl rfl rfl rfl rfl rfl rfl ⟨rfl, rfl, rfl, rfl, rfl⟩ rfl rfl rfl rfl rfl (by kernel_rfl) Tryd.func5 (by kernel_rfl)
    (of_decide_eq_true (by kernel_rfl)) (by unfold Func.isWrapper; first | (rw [if_pos (by decide +kernel)]; kernel_rfl) | (rw [if_neg (by decide +kernel)]; exact ⟨rfl, rfl⟩))
    (fun os started H enc _ F => by rw [OpenClaim.pre_eq_preRow]; exact lifted os started H enc F)

theorem plain (f : FuncId) (fn : Func) (hf : Tryd.pinned.checked.prog.funcNamed "mainline/mainlinelaw04.StoreEqual" = some f) (hfn : Tryd.pinned.checked.prog.funcs[f]? = some fn) :
    false = Tryd.pinned.checked.prog.looks [] ∧ ∀ (j : Nat) t, fn.params[j]? = some t → Tryd.pinned.checked.prog.wantsStandIn t = false := by
  obtain rfl : f = 5 := Option.some.inj ((show Tryd.prog.funcNamed "mainline/mainlinelaw04.StoreEqual" = some 5 by kernel_rfl).symm.trans hf) |>.symm
  obtain rfl : fn = Tryd.f5 := (Option.some.inj (Tryd.func5.symm.trans hfn)).symm
  refine ⟨by kernel_rfl, fun j t ht => ?_⟩
  rw [Tryd.params5] at ht
  have hm : t ∈ [37] := by have := Array.mem_of_getElem? ht; simpa using this
  have hall : ([37].all fun u => !Tryd.prog.wantsStandIn u) = true := by kernel_rfl
  exact (show Tryd.prog.wantsStandIn t = false by simpa using List.all_eq_true.1 hall t hm)

theorem card : Rows.StoreEqualCardSaid :=
  Claim7.holds_tied_plain_at .later [] _ _ _ _ said (fun _ h => by cases h) (by kernel_rfl) (fun _ h => by cases h) storeEqual_row_tie rfl ⟨rfl, rfl⟩ (by kernel_rfl) rfl plain (by kernel_rfl)

end Go.Proofs.YthnlldojidocoaaDoor.lequal
