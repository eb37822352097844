/- StoreNumbers: for all lists of texts: new objects have the next number, and known ones their old number; the text of a number never changes. -/
import Derived.Test.YthnlldojidocoaaDoorLaws3
namespace Go.Proofs.YthnlldojidocoaaDoor.lnumbers
open Go.ChangeShapes Go.WideShapes Go.ChangeAt Go.RowKit Go.Maps

theorem text_of {fs : List ByteArray} {j : Nat} (h : j < fs.length) : textR (fs.map blobO) ((j : Int) + 1) = some fs[j] := by
  unfold textR getO
  rw [if_pos (by omega), show ((j : Int) + 1 - 1).toNat = j by omega, List.getElem?_map, List.getElem?_eq_getElem h]
  rfl

set_option maxRecDepth 100000 in
set_option maxHeartbeats 8000000 in
theorem walk (A : Option Addr) (l : List ByteArray) (c : Nat) (w : World) (hT : Tab w) (hA : Strs w w.heap.size A c l) (hn : l.length ≤ maxLen) (hz : ∀ s ∈ l, s.size ≤ maxLen) : Calls Tryd.prog 6 #[.slice A l.length c] w (BoolB w true) := by
  unfold maxLen at hn hz
  obtain ⟨i9, hi, hz0, hz1, hz2⟩ := info_parts info9
  have S := Lib.hid (sane_any w hT)
  have NW := Lib.hid (newW hT)
  have BL := Lib.hid (fun (W : World) (p : Nat) (os : List Ob) (F : Nat → Prop) (h : StW w W p os F) (hn : os.length ≤ 1000) (s : ByteArray) (hs : s.size ≤ 65536) => blobW h (by omega) s hs)
  have MN := Lib.hid (fun (W : World) (p : Nat) (os : List Ob) (F : Nat → Prop) (h : StW w W p os F) (M : Nat) (hM : os.length = M) => (show Calls Tryd.prog 19 #[.pointer (some ⟨p, 0, none⟩)] W fun e w' => e = .returned (.int .i64 (M : Int)) ∧ W = w' from hM ▸ many_some h.st))
  have TX := Lib.hid (fun (W : World) (p : Nat) (fs : List ByteArray) (F : Nat → Prop) (h : StW w W p (fs.map blobO) F) (hn : fs.length ≤ 1000) (j : Nat) (hj : j < fs.length) => (show Calls Tryd.prog 20 #[.pointer (some ⟨p, 0, none⟩), .int .i64 ((j : Int) + 1)] W (TextOut W fs[j] true) from by
    have := text_some h.st (by rw [List.length_map]; omega) ((j : Int) + 1) (WalkArith.wf_i64 (by omega))
    rw [text_of hj] at this
    exact this))
  have hcap := hA.cap
  have HZ := Lib.hid hz
  obtain ⟨n, HN⟩ : ∃ n, Hid (l.length = n) := ⟨_, Lib.hid rfl⟩
  rw [HN.out] at hn hcap ⊢
  clear hz
  go_enter Tryd.func6, Tryd.ntmps6
  go_wp2_with (first
    | (go_at_call 14; (with_reducible refine S.out.mono ?_); rintro e w1 ⟨rfl, hb1⟩)
    | (go_at_call 15; (with_reducible refine (NW.out _ hb1).mono ?_); rintro e w2 ⟨rfl, h2⟩; (obtain ⟨p, hp⟩ : ∃ p, w1.heap.size = p := ⟨_, rfl⟩); rw [hp] at h2))
  obtain ⟨F2, hF2⟩ : ∃ F : Nat → Prop, (fun g => g = p) = F := ⟨_, rfl⟩
  rw [hF2] at h2
  clear hF2
  go_loopw [5, 6] (fun v5 v6 wr => ∃ (k M : Nat) (fs : List ByteArray) (F : Nat → Prop) (D : Option Addr) (d : Nat), k ≤ n ∧ k ≤ 30 ∧ v6 = .int .i64 (k : Int) ∧ v5 = .slice D M d ∧ M ≤ k ∧ Hid (fs.length = M) ∧ StW w wr p (fs.map blobO) F ∧ Mine w wr (.slice D M d) 9 1 M (strC fs) F) (fun _ v6 _ => n - (intOf v6).toNat)
  case atStart => exact ⟨0, 0, [], F2, none, 0, by omega, by omega, rfl, rfl, by omega, Lib.hid rfl, h2, Mine.nil _ _ _ _ _⟩
  case round =>
    obtain ⟨k, M, fs, F, D, d, hk, hk30, rfl, rfl, hMk, HM, hst, hM⟩ := hrel
    have hi0 : (0 : Int) ≤ (k : Int) := Int.natCast_nonneg _
    by_cases hlt : k < n
    · have hi1 : (k : Int) < (n : Int) := by omega
      by_cases h30 : k < 30
      · have hi30 : (k : Int) < 30 := by omega
        have hkl : k < l.length := by have := HN.out; omega
        obtain ⟨ad, rfl, hadB, hca0⟩ := hA.at_ hkl
        have hca := (hst.below.cell (p := ad.add k) (by rw [add_block]; exact hadB)).trans hca0
        have hsz := HZ.out _ (List.getElem_mem hkl)
        obtain ⟨s, hs⟩ : ∃ s, l[k] = s := ⟨_, rfl⟩
        rw [hs] at hca hca0 hsz
        obtain ⟨m, hm, hm1, hm2⟩ : ∃ m : Nat, min (s.size : Int) 1000 = (m : Int) ∧ m ≤ s.size ∧ m ≤ 1000 := ⟨min s.size 1000, by omega, by omega, by omega⟩
        have hm3 : (if 1000 < (s.size : Int) then 1000 else (s.size : Int)) = (m : Int) := by split <;> omega
        obtain ⟨t, ht⟩ : ∃ t, s.extract 0 m = t := ⟨_, rfl⟩
        have hts : t.size ≤ 65536 := by rw [← ht, ByteArray.size_extract]; omega
        have hi2 : (0 : Int) ≤ (m : Int) := Int.natCast_nonneg _
        have hi3 : (m : Int) ≤ (s.size : Int) := by omega
        have hlen : (fs.map blobO).length = M := by rw [List.length_map]; exact HM.out
        have HLEN := Lib.hid hlen
        have C := BL.out
        go_wp2_with fail
        go_quiet (fail)
        obtain ⟨w3, hw3⟩ : ∃ w3, wr.drewN nq = w3 := ⟨_, rfl⟩
        have h3 := hst.drewN nq
        have hM3 : Mine w (wr.drewN nq) (.slice D M d) 9 1 M (strC fs) F := hM.on (Below.drewN_ (Below.refl _ _) nq)
        rw [hw3] at h3 hM3 ⊢
        have CM := Lib.hid (MN.out w3 p _ F h3 M hlen)
        have CB := BL.out w3 p _ F h3 (by omega) t hts
        clear hst hM hca hca0 hs hm hm3 ht C hw3 hlen
        by_cases ho : blobO t ∈ fs.map blobO
        · have hput : put (fs.map blobO) (blobO t) = fs.map blobO := by unfold put; rw [if_pos ho]
          have hle := num_le (fs.map blobO) (blobO t)
          have hpos := num_pos (fs.map blobO) (blobO t)
          rw [hput, HLEN.out] at hle
          rw [hput] at CB
          obtain ⟨v, hv⟩ : ∃ v, num (fs.map blobO) (blobO t) = v := ⟨_, rfl⟩
          rw [hv] at CB hle hpos
          have HCB := Lib.hid CB
          have b1 : ((v : Int) == (M : Int) + 1) = false := by rw [beq_eq_false_iff_ne]; omega
          have b1' : ¬ (v : Int) = (M : Int) + 1 := by omega
          have b2 : ¬ (v : Int) < 1 := by omega
          have b3 : ¬ (M : Int) + 1 < (v : Int) := by omega
          have b4 : max (M : Int) (v : Int) = (M : Int) := by omega
          have b5 : (if (v : Int) < (M : Int) then (M : Int) else (v : Int)) = (M : Int) := by split <;> omega
          have b6 : (if (M : Int) < (v : Int) then (v : Int) else (M : Int)) = (M : Int) := by split <;> omega
          clear CB hput hv ho
          go_wp2_with (first
            | (go_at_call 19; (with_reducible refine CM.out.mono ?_); rintro e w4 ⟨rfl, rfl⟩)
            | (go_at_call 18; (with_reducible refine HCB.out.mono ?_); rintro e w5 ⟨rfl, F5, h5, hg5⟩; (have hM5 := hM3.goes hg5); (have CM5 := Lib.hid (MN.out w5 p _ F5 h5 M HLEN.out)))
            | (go_at_call 19; (with_reducible refine CM5.out.mono ?_); rintro e w6 ⟨rfl, rfl⟩))
          (have hS4 := h5)
          (have hM4 := hM5)
          (have HM4 := HM)
          clear h5 hM5 CM5 hg5
          go_loopw [11] (fun v11 wi => ∃ (j : Nat), j ≤ M ∧ v11 = .int .i64 (j : Int) ∧ StW w wi p (fs.map blobO) F5 ∧ Mine w wi (.slice D M d) 9 1 M (strC fs) F5) (fun v11 _ => M - (intOf v11).toNat)
          case atStart => exact ⟨0, by omega, rfl, hS4, hM4⟩
          case round =>
            obtain ⟨j, hj, rfl, hS5, hM5⟩ := hrel
            have hj0 : (0 : Int) ≤ (j : Int) := Int.natCast_nonneg _
            by_cases hjm : j < M
            · have hj1 : (j : Int) < (M : Int) := by omega
              have hjl : j < fs.length := by rw [HM4.out]; exact hjm
              obtain ⟨g, cap, hv', hcell⟩ := hM5.form (by omega)
              have hcj := hcell j (.string fs[j]) (by unfold strC; rw [List.getElem?_map, List.getElem?_eq_getElem hjl]; rfl)
              have CT := TX.out _ p fs F5 hS5 (by rw [HM4.out]; omega) j hjl
              obtain ⟨u, hu⟩ : ∃ u, fs[j] = u := ⟨_, rfl⟩
              rw [hu] at hcj CT
              have HCT := Lib.hid CT
              have HCJ := Lib.hid hcj
              have hcap2 : M ≤ d := by have := (Row.own hM5.own).2.1; omega
              injection hv' with hD _ hd
              subst hD hd
              have hbu : (u.toList == u.toList) = true := by simp
              have hgl : g < wr.heap.size := owns_lt hM5.own g rfl
              clear hu CT hcell hcj
              go_wp2_with (go_at_call 20; (with_reducible refine HCT.out.mono ?_); rintro e w6 ⟨rfl, hb6⟩; (have hcj6 : w6.cell? ⟨g, j, none⟩ = some (.string u) := (hb6.cell (p := ⟨g, j, none⟩) hgl).trans HCJ.out))
              go_roundw
              case rel => exact ⟨j + 1, by omega, by go_num, hS5.on hb6, hM5.on hb6⟩
              case measure => simp [intOf]; omega
            · obtain rfl : j = M := by omega
              go_wp2
              go_roundw
              case rel => exact ⟨k + 1, _, fs, F5, _, _, by omega, by omega, by go_num, rfl, by omega, HM4, hS5, hM5⟩
              case measure => simp [intOf]; omega
        · have hput : put (fs.map blobO) (blobO t) = (fs ++ [t]).map blobO := by unfold put; rw [if_neg ho, List.map_append]; rfl
          have hnum := num_new ho
          rw [HLEN.out] at hnum
          rw [hput, hnum] at CB
          have HCB := Lib.hid (show Calls Tryd.prog 18 #[.pointer (some ⟨p, 0, none⟩), .string t] w3 (PutW w w3 p (fs.map blobO) F ((M : Int) + 1) ((fs ++ [t]).map blobO)) from CB)
          have hlen' : ((fs ++ [t]).map blobO).length = M + 1 := by rw [List.length_map, List.length_append, HM.out]; rfl
          have HLEN' := Lib.hid hlen'
          have HM4 : Hid ((fs ++ [t]).length = M + 1) := Lib.hid (by rw [List.length_append, HM.out]; rfl)
          have HSC : Hid (strC fs ++ [.string t] = strC (fs ++ [t])) := Lib.hid (strC_snoc _ _).symm
          have b2 : ¬ (M : Int) + 1 < 1 := by omega
          have b3 : ¬ (M : Int) + 1 < (M : Int) + 1 := by omega
          have b4 : max (M : Int) ((M : Int) + 1) = (M : Int) + 1 := by omega
          have b5 : (if (M : Int) + 1 < (M : Int) then (M : Int) else (M : Int) + 1) = (M : Int) + 1 := by split <;> omega
          have b6 : (if (M : Int) < (M : Int) + 1 then (M : Int) + 1 else (M : Int)) = (M : Int) + 1 := by split <;> omega
          obtain ⟨fs2, hfs2⟩ : ∃ f, fs ++ [t] = f := ⟨_, rfl⟩
          rw [hfs2] at HCB HLEN' HM4 HSC
          have hwb := h3.below.size
          clear CB hput hnum hlen' hfs2 ho
          go_wp2_with (first
            | (go_at_call 19; (with_reducible refine CM.out.mono ?_); rintro e w4 ⟨rfl, rfl⟩)
            | (go_at_call 18; (with_reducible refine HCB.out.mono ?_); rintro e w5 ⟨rfl, F5, h5, hg5⟩; (have hM5 := hM3.goes hg5))
            | (at_builtin; refine wpList_append_own_at _ rfl _ _ 37 rfl w.heap.size 9 i9 (.string ⟨#[]⟩) 1 16 Tryd.underlying37 hi hz0 hz1 hz2 rfl (by decide) (.slice D M d) _ _ rfl (hM5.own.alloc _) ⟨w5.heap.size, 0, none⟩ 1 1 [.string t] rfl rfl (cell_one_new _ _ _) (by simp [Value.oneCell']) (by unfold maxLen; omega) (by omega) (by have := h5.below.size; simp; omega) ?_; intro v' w7 hown7 hgrow7 _ hloc; (have happ := hM5.app h5 hgrow7 hown7 hloc); rw [HSC.out] at happ; obtain ⟨g7, cap7, rfl, _, _⟩ := hown7.form (by omega); obtain ⟨hS4, hM4⟩ := happ; (have CM7 := Lib.hid (show Calls Tryd.prog 19 #[.pointer (some ⟨p, 0, none⟩)] w7 fun e w' => e = .returned (.int .i64 ((M : Int) + 1)) ∧ w7 = w' from MN.out w7 p _ F5 hS4 (M + 1) HLEN'.out)))
            | (go_at_call 19; (with_reducible refine CM7.out.mono ?_); rintro e w8 ⟨rfl, rfl⟩))
          clear h5 hM5 CM7 hg5 hown7 hgrow7 hloc
          go_loopw [11] (fun v11 wi => ∃ (j : Nat), j ≤ (M + 1) ∧ v11 = .int .i64 (j : Int) ∧ StW w wi p (fs2.map blobO) F5 ∧ Mine w wi (.slice (some ⟨g7, 0, none⟩) (M + 1) cap7) 9 1 (M + 1) (strC fs2) F5) (fun v11 _ => (M + 1) - (intOf v11).toNat)
          case atStart => exact ⟨0, by omega, rfl, hS4, hM4⟩
          case round =>
            obtain ⟨j, hj, rfl, hS5, hM5⟩ := hrel
            have hj0 : (0 : Int) ≤ (j : Int) := Int.natCast_nonneg _
            by_cases hjm : j < (M + 1)
            · have hj1 : (j : Int) < (M : Int) + 1 := by omega
              have hjl : j < fs2.length := by rw [HM4.out]; exact hjm
              obtain ⟨g, cap, hv', hcell⟩ := hM5.form (by omega)
              have hcj := hcell j (.string fs2[j]) (by unfold strC; rw [List.getElem?_map, List.getElem?_eq_getElem hjl]; rfl)
              have CT := TX.out _ p fs2 F5 hS5 (by rw [HM4.out]; omega) j hjl
              obtain ⟨u, hu⟩ : ∃ u, fs2[j] = u := ⟨_, rfl⟩
              rw [hu] at hcj CT
              have HCT := Lib.hid CT
              have HCJ := Lib.hid hcj
              have hcap2 : (M + 1) ≤ cap7 := by have := (Row.own hM5.own).2.1; omega
              injection hv' with hD _ hd
              injection hD with hD
              injection hD with hD
              subst hD hd
              have hbu : (u.toList == u.toList) = true := by simp
              have hgl : g7 < wr.heap.size := owns_lt hM5.own g7 rfl
              clear hu CT hcell hcj
              go_wp2_with (go_at_call 20; (with_reducible refine HCT.out.mono ?_); rintro e w6 ⟨rfl, hb6⟩; (have hcj6 : w6.cell? ⟨g7, j, none⟩ = some (.string u) := (hb6.cell (p := ⟨g7, j, none⟩) hgl).trans HCJ.out))
              go_roundw
              case rel => exact ⟨j + 1, by omega, by go_num, hS5.on hb6, hM5.on hb6⟩
              case measure => simp [intOf]; omega
            · obtain rfl : j = (M + 1) := by omega
              go_wp2
              go_roundw
              case rel => exact ⟨k + 1, _, fs2, F5, _, _, by omega, by omega, by go_num, rfl, by omega, HM4, hS5, hM5⟩
              case measure => simp [intOf]; omega
      · obtain rfl : k = 30 := by omega
        go_wp2
        go_ret
        exact ⟨rfl, hst.below⟩
    · obtain rfl : k = n := by omega
      go_wp2
      go_ret
      exact ⟨rfl, hst.below⟩

theorem contract (H : Type) (enc : TypeId × Value → H) (W : World) (base : Nat) (args : Array Value) (ds gs : List (DataW H)) (before : List MemPlace)
    (hval : ∀ (j : Nat) t v, Tryd.f6.params[j]? = some t → args[j]? = some v → Value.okWide Tryd.prog W .any base t v)
    (hW : DataW.Whole enc Tryd.prog Tryd.f6.params.toList Rows.storeNumbersSpec.vars false W args.toList ds gs before) (hT : Tab W) :
    Calls Tryd.prog 6 args W fun e W' => ∃ v, e = .returned v ∧ Rows.storeNumbersSpec.post enc Tryd.prog Tryd.f6 false true false false W args v W' := by
  have hW' := hW
  obtain ⟨p, q, hA0, hV, rfl, hfz, hnd⟩ := hW
  have hA : DataW.TrodAll enc Tryd.prog W 0 (fun _ => true) true Tryd.f6.params.toList args.toList ds p := hA0
  rw [Tryd.params6] at hA hval
  obtain ⟨v0, vs0, d0, ds0, p0, q0, e0, rfl, rfl, h0, r0⟩ := trodAll_cons hA
  obtain ⟨rfl, rfl, rfl⟩ := trodAll_nil r0
  obtain rfl : args = #[v0] := by cases args; simp_all
  obtain ⟨rfl, rfl⟩ := trodVars_none hV
  obtain ⟨A, l, c, rfl, hI, hn, hz⟩ := open_strl h0 (hval 0 37 v0 rfl rfl)
  refine (walk A l c W hT hI hn hz).mono fun e W' ⟨he, hb⟩ => ⟨_, he, law_post rfl rfl ?_ rfl rfl rfl hW' hb⟩
  rw [Tryd.params6]
  intro t ht
  obtain rfl : t = 37 := by simpa using ht
  exact ⟨by kernel_rfl, of_decide_eq_true (by kernel_rfl)⟩

theorem laid_met (os : Os) : laidMet Tryd.prog Rows.storeNumbersRow.laid ((laidWorld os).forCall (fun _ _ => 0) ⟨#[], #[.slice none 0 0], []⟩).memory :=
  laidMet_of_run' 8 (by kernel_rfl) (by kernel_rfl)
theorem reads (os : Os) {H : Type} (enc : TypeId × Value → H) : ∃ ds places, DataW.whole enc Tryd.prog ((laidWorld os).forCall (fun _ _ => 0) ⟨#[], #[.slice none 0 0], []⟩).memory Tryd.f6.params.toList Rows.storeNumbersSpec.vars false (#[.slice none 0 0] : Array Value).toList 8 = some (ds, [], places) ∧ Rows.uptoSmall H (ds ++ []) = true :=
  ⟨[.nil], [], by kernel_rfl, by kernel_rfl⟩

set_option maxRecDepth 100000 in
theorem lifted (os : Os) (started : os.Started) (H : Type) (enc : TypeId × Value → H) (F : Stop.Interp) :
    ReturnsInHanded {} Tryd.checked os 6 .any ((OpenSpec.ofChange Rows.storeNumbersSpec).preRow enc Tryd.prog Tryd.f6 Rows.storeNumbersRow.domain false Rows.storeNumbersRow.laid) (((OpenSpec.ofChange Rows.storeNumbersSpec).at F).post enc Tryd.prog Tryd.f6 false true false false) := by
  obtain ⟨ds, places, hx, hsm⟩ := reads os enc
  refine returnsInHanded_of_row (C := Tryd.checked) (s := (OpenSpec.ofChange Rows.storeNumbersSpec)) ownKnob_none started (by kernel_rfl) Tryd.func6
    (witness_row_at (enc := enc) (C := Tryd.checked) false (laidWorld os) #[.slice none 0 0] rfl (by kernel_rfl) (by kernel_rfl) (by kernel_rfl)
      (OpenSpec.preRow_of_cond 8 hx (by kernel_rfl) (fun k hk => by cases hk) (by kernel_rfl) (laid_met os))) ?_
  intro W base args ds gs before hval hW _ _ _ hL _ _
  exact contract H enc W base args ds gs before hval hW (tab_of_laid hL)

theorem said : Rows.StoreNumbersSaid :=
  OpenClaim.holds_of_cond 6 Tryd.f6 rfl rfl rfl rfl rfl rfl rfl ⟨rfl, rfl, rfl, rfl, rfl⟩ rfl rfl rfl rfl rfl (by kernel_rfl) Tryd.func6 (by kernel_rfl)
    (of_decide_eq_true (by kernel_rfl)) (by unfold Func.isWrapper; first | (rw [if_pos (by decide +kernel)]; kernel_rfl) | (rw [if_neg (by decide +kernel)]; exact ⟨rfl, rfl⟩))
    (fun os started H enc _ F => by rw [OpenClaim.pre_eq_preRow]; exact lifted os started H enc F)

theorem plain (f : FuncId) (fn : Func) (hf : Tryd.pinned.checked.prog.funcNamed "mainline/mainlinelaw04.StoreNumbers" = some f) (hfn : Tryd.pinned.checked.prog.funcs[f]? = some fn) :
    false = Tryd.pinned.checked.prog.looks [] ∧ ∀ (j : Nat) t, fn.params[j]? = some t → Tryd.pinned.checked.prog.wantsStandIn t = false := by
  obtain rfl : f = 6 := Option.some.inj ((show Tryd.prog.funcNamed "mainline/mainlinelaw04.StoreNumbers" = some 6 by kernel_rfl).symm.trans hf) |>.symm
  obtain rfl : fn = Tryd.f6 := (Option.some.inj (Tryd.func6.symm.trans hfn)).symm
  refine ⟨by kernel_rfl, fun j t ht => ?_⟩
  rw [Tryd.params6] at ht
  have hm : t ∈ [37] := by have := Array.mem_of_getElem? ht; simpa using this
  have hall : ([37].all fun u => !Tryd.prog.wantsStandIn u) = true := by kernel_rfl
  exact (show Tryd.prog.wantsStandIn t = false by simpa using List.all_eq_true.1 hall t hm)

theorem card : Rows.StoreNumbersCardSaid :=
  Claim7.holds_tied_plain_at .later [] _ _ _ _ said (fun _ h => by cases h) (by kernel_rfl) (fun _ h => by cases h) storeNumbers_row_tie rfl ⟨rfl, rfl⟩ (by kernel_rfl) rfl plain (by kernel_rfl)

end Go.Proofs.YthnlldojidocoaaDoor.lnumbers
