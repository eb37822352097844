/- StoreLong: for all numbers: texts of up to MaxText bytes are accepted, longer ones are ErrMany. -/
import Derived.Test.YthnlldojidocoaaDoorLaws2
namespace Go.Proofs.YthnlldojidocoaaDoor.llong
open Go.ChangeShapes Go.WideShapes Go.ChangeAt Go.RowKit Go.Maps

theorem conv_zero (W : World) (N : Nat) : (convert 54 9 (.slice (some ⟨W.heap.size, 0, none⟩) N N)).run Tryd.prog (W.alloc (.cells (List.replicate N (Value.int .u8 0)).toArray 5)) = .ok (.string (str (List.replicate N 0))) (W.alloc (.cells (List.replicate N (Value.int .u8 0)).toArray 5)) := by
  have hF := Full.new W 5 (List.replicate N (Value.int .u8 0))
  have := run_convert_bytes_back (P := Tryd.prog) (W.alloc (.cells (List.replicate N (Value.int .u8 0)).toArray 5)) 54 9 5 ⟨W.heap.size, 0, none⟩ N (List.replicate N 0) Tryd.underlying54 Tryd.underlying5 Tryd.underlying9 (fun j hj => by
    rw [List.length_replicate] at hj
    rw [show (⟨W.heap.size, 0, none⟩ : Addr).add j = ⟨W.heap.size, j, none⟩ by unfold Addr.add; split <;> simp_all]
    rw [hF.cell]
    simp [List.getElem?_replicate, hj])
  rwa [List.length_replicate] at this

set_option maxRecDepth 100000 in
set_option maxHeartbeats 4000000 in
theorem walk (n : Int) (hn : 0 ≤ n ∧ n ≤ 255) (w : World) (hT : Tab w) : Calls Tryd.prog 10 #[.int .u8 n] w (BoolB w true) := by
  have S := Lib.hid (sane_any w hT)
  have NW := Lib.hid (newW hT)
  obtain ⟨r, hr, hr6⟩ : ∃ r : Nat, n % 6 = (r : Int) ∧ r < 6 := ⟨(n % 6).toNat, by omega, by omega⟩
  obtain ⟨N, hN⟩ : ∃ N : Nat, 65533 + r = N := ⟨_, rfl⟩
  have hmk := made_one 54 5 (.int .u8 0) 1 Tryd.underlying54 info5 rfl N (by omega) (by omega)
  have hcv := fun (W : World) => conv_zero W N
  obtain ⟨s, hs⟩ : ∃ s, str (List.replicate N 0) = s := ⟨_, rfl⟩
  have hsz : s.size = N := by rw [← hs, str_size, List.length_replicate]
  rw [hs] at hcv
  obtain ⟨Z, hZ⟩ : ∃ Z, List.replicate N (Value.int .u8 0) = Z := ⟨_, rfl⟩
  rw [hZ] at hmk
  simp only [hZ] at hcv
  have tm : n.tmod 6 = (r : Int) := by rw [Int.tmod_eq_emod_of_nonneg (by omega), hr]
  have a1 : (65533 : Int) + (r : Int) = (N : Int) := by omega
  clear hs hZ
  by_cases hbig : 65536 < N
  · have B1 := Lib.hid (fun (W : World) (p : Nat) => blob_big p W s (by omega))
    have T1 := Lib.hid (fun (W : World) (p : Nat) (F : Nat → Prop) (h : StW w W p [] F) => (show Calls Tryd.prog 20 #[.pointer (some ⟨p, 0, none⟩), .int .i64 1] W (TextOut W ⟨#[]⟩ false) from text_some h.st (by simp) 1 (by decide)))
    have M1 := Lib.hid (fun (W : World) (p : Nat) (F : Nat → Prop) (h : StW w W p [] F) => (show Calls Tryd.prog 19 #[.pointer (some ⟨p, 0, none⟩)] W fun e w' => e = .returned (.int .i64 0) ∧ W = w' from many_some h.st))
    have hbi : (65536 : Int) < (N : Int) := by omega
    go_enter Tryd.func10, Tryd.ntmps10
    go_wp2_with (first
      | (go_at_call 14; (with_reducible refine S.out.mono ?_); rintro e w1 ⟨rfl, hb1⟩)
      | (go_at_call 15; (with_reducible refine (NW.out _ hb1).mono ?_); rintro e w2 ⟨rfl, h2⟩; (obtain ⟨p, hp⟩ : ∃ p, w1.heap.size = p := ⟨_, rfl⟩); rw [hp] at h2; (have h3 := h2.alloc (.cells Z.toArray 5)))
      | (go_at_call 18; (with_reducible refine (B1.out _ _).mono ?_); rintro e w3 ⟨rfl, rfl⟩)
      | (go_at_call 20; (with_reducible refine (T1.out _ _ _ h3).mono ?_); rintro e w4 ⟨rfl, hb4⟩; have h4 := h3.on hb4)
      | (go_at_call 19; (with_reducible refine (M1.out _ _ _ h4).mono ?_); rintro e w5 ⟨rfl, rfl⟩))
    go_ret
    exact ⟨rfl, h4.below⟩
  · have B1 := Lib.hid (fun (W : World) (p : Nat) (F : Nat → Prop) (h : StW w W p [] F) => (show Calls Tryd.prog 18 #[.pointer (some ⟨p, 0, none⟩), .string s] W (PutW w W p [] F 1 [blobO s]) from blobW h (by simp) s (by omega)))
    have T1 := Lib.hid (fun (W : World) (p : Nat) (F : Nat → Prop) (h : StW w W p [blobO s] F) => (show Calls Tryd.prog 20 #[.pointer (some ⟨p, 0, none⟩), .int .i64 1] W (TextOut W s true) from text_some h.st (by simp) 1 (by decide)))
    have hbi : ¬ (65536 : Int) < (N : Int) := by omega
    go_enter Tryd.func10, Tryd.ntmps10
    go_wp2_with (first
      | (go_at_call 14; (with_reducible refine S.out.mono ?_); rintro e w1 ⟨rfl, hb1⟩)
      | (go_at_call 15; (with_reducible refine (NW.out _ hb1).mono ?_); rintro e w2 ⟨rfl, h2⟩; (obtain ⟨p, hp⟩ : ∃ p, w1.heap.size = p := ⟨_, rfl⟩); rw [hp] at h2; (have h3 := h2.alloc (.cells Z.toArray 5)))
      | (go_at_call 18; (with_reducible refine (B1.out _ _ _ h3).mono ?_); rintro e w3 ⟨rfl, F3, h4, -⟩)
      | (go_at_call 20; (with_reducible refine (T1.out _ _ _ h4).mono ?_); rintro e w4 ⟨rfl, hb4⟩; have h5 := h4.on hb4))
    go_ret
    exact ⟨rfl, h5.below⟩

theorem contract (H : Type) (enc : TypeId × Value → H) (W : World) (base : Nat) (args : Array Value) (ds gs : List (DataW H)) (before : List MemPlace)
    (hval : ∀ (j : Nat) t v, Tryd.f10.params[j]? = some t → args[j]? = some v → Value.okWide Tryd.prog W .any base t v)
    (hW : DataW.Whole enc Tryd.prog Tryd.f10.params.toList Rows.storeLongSpec.vars false W args.toList ds gs before) (hT : Tab W) :
    Calls Tryd.prog 10 args W fun e W' => ∃ v, e = .returned v ∧ Rows.storeLongSpec.post enc Tryd.prog Tryd.f10 false true false false W args v W' := by
  have hW' := hW
  obtain ⟨p, q, hA0, hV, rfl, hfz, hnd⟩ := hW
  have hA : DataW.TrodAll enc Tryd.prog W 0 (fun _ => true) true Tryd.f10.params.toList args.toList ds p := hA0
  rw [Tryd.params10] at hA hval
  obtain ⟨v0, vs0, d0, ds0, p0, q0, e0, rfl, rfl, h0, r0⟩ := trodAll_cons hA
  obtain ⟨rfl, rfl, rfl⟩ := trodAll_nil r0
  obtain rfl : args = #[v0] := by cases args; simp_all
  obtain ⟨rfl, rfl⟩ := trodVars_none hV
  obtain ⟨n, rfl, _, _, hn⟩ := open_int Tryd.underlying5 (hval 0 5 v0 rfl rfl) h0
  refine (walk n (bd_u8 hn) W hT).mono fun e W' ⟨he, hb⟩ => ⟨_, he, law_post rfl rfl ?_ rfl rfl rfl hW' hb⟩
  rw [Tryd.params10]
  intro t ht
  obtain rfl : t = 5 := by simpa using ht
  exact ⟨by kernel_rfl, of_decide_eq_true (by kernel_rfl)⟩

theorem laid_met (os : Os) : laidMet Tryd.prog Rows.storeLongRow.laid ((laidWorld os).forCall (fun _ _ => 0) ⟨#[], #[.int .u8 0], []⟩).memory :=
  laidMet_of_run' 8 (by kernel_rfl) (by kernel_rfl)
theorem reads (os : Os) {H : Type} (enc : TypeId × Value → H) : ∃ ds places, DataW.whole enc Tryd.prog ((laidWorld os).forCall (fun _ _ => 0) ⟨#[], #[.int .u8 0], []⟩).memory Tryd.f10.params.toList Rows.storeLongSpec.vars false (#[.int .u8 0] : Array Value).toList 8 = some (ds, [], places) ∧ Rows.uptoSmall H (ds ++ []) = true :=
  ⟨[.lit (.int .u8 0)], [], by kernel_rfl, by kernel_rfl⟩

set_option maxRecDepth 100000 in
theorem lifted (os : Os) (started : os.Started) (H : Type) (enc : TypeId × Value → H) (F : Stop.Interp) :
    ReturnsInHanded {} Tryd.checked os 10 .any ((OpenSpec.ofChange Rows.storeLongSpec).preRow enc Tryd.prog Tryd.f10 Rows.storeLongRow.domain false Rows.storeLongRow.laid) (((OpenSpec.ofChange Rows.storeLongSpec).at F).post enc Tryd.prog Tryd.f10 false true false false) := by
  obtain ⟨ds, places, hx, hsm⟩ := reads os enc
  refine returnsInHanded_of_row (C := Tryd.checked) (s := (OpenSpec.ofChange Rows.storeLongSpec)) ownKnob_none started (by kernel_rfl) Tryd.func10
    (witness_row_at (enc := enc) (C := Tryd.checked) false (laidWorld os) #[.int .u8 0] rfl (by kernel_rfl) (by kernel_rfl) (by kernel_rfl)
      (OpenSpec.preRow_of_cond 8 hx (by kernel_rfl) (fun k hk => by cases hk) (by kernel_rfl) (laid_met os))) ?_
  intro W base args ds gs before hval hW _ _ _ hL _ _
  exact contract H enc W base args ds gs before hval hW (tab_of_laid hL)

theorem said : Rows.StoreLongSaid :=
  OpenClaim.holds_of_cond 10 Tryd.f10 rfl rfl rfl rfl rfl rfl rfl ⟨rfl, rfl, rfl, rfl, rfl⟩ rfl rfl rfl rfl rfl (by kernel_rfl) Tryd.func10 (by kernel_rfl)
    (of_decide_eq_true (by kernel_rfl)) (by unfold Func.isWrapper; first | (rw [if_pos (by decide +kernel)]; kernel_rfl) | (rw [if_neg (by decide +kernel)]; exact ⟨rfl, rfl⟩))
    (fun os started H enc _ F => by rw [OpenClaim.pre_eq_preRow]; exact lifted os started H enc F)

theorem plain (f : FuncId) (fn : Func) (hf : Tryd.pinned.checked.prog.funcNamed "mainline/mainlinelaw04.StoreLong" = some f) (hfn : Tryd.pinned.checked.prog.funcs[f]? = some fn) :
    false = Tryd.pinned.checked.prog.looks [] ∧ ∀ (j : Nat) t, fn.params[j]? = some t → Tryd.pinned.checked.prog.wantsStandIn t = false := by
  obtain rfl : f = 10 := Option.some.inj ((show Tryd.prog.funcNamed "mainline/mainlinelaw04.StoreLong" = some 10 by kernel_rfl).symm.trans hf) |>.symm
  obtain rfl : fn = Tryd.f10 := (Option.some.inj (Tryd.func10.symm.trans hfn)).symm
  refine ⟨by kernel_rfl, fun j t ht => ?_⟩
  rw [Tryd.params10] at ht
  have hm : t ∈ [5] := by have := Array.mem_of_getElem? ht; simpa using this
  have hall : ([5].all fun u => !Tryd.prog.wantsStandIn u) = true := by kernel_rfl
  exact (show Tryd.prog.wantsStandIn t = false by simpa using List.all_eq_true.1 hall t hm)

theorem card : Rows.StoreLongCardSaid :=
  Claim7.holds_tied_plain_at .later [] _ _ _ _ said (fun _ h => by cases h) (by kernel_rfl) (fun _ h => by cases h) storeLong_row_tie rfl ⟨rfl, rfl⟩ (by kernel_rfl) rfl plain (by kernel_rfl)

end Go.Proofs.YthnlldojidocoaaDoor.llong
