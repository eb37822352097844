/- StoreKinds: for all numbers and kinds: an entry must have the number of an object of its kind; a directory must not be empty. -/
import Derived.Test.YthnlldojidocoaaDoorLaws2
namespace Go.Proofs.YthnlldojidocoaaDoor.lkinds
open Go.ChangeShapes Go.WideShapes Go.ChangeAt Go.RowKit Go.Maps

def oT : Ob := blobO ⟨#[116, 101, 120, 116]⟩
def O3 : List Ob := [oT, treeO [], treeO [(⟨#[120]⟩, false, 1)]]
theorem ok_other (id : Int) (dir : Bool) (h1 : ¬ (id = 1 ∧ dir = false)) (h3 : ¬ (id = 3 ∧ dir = true)) : treeOk O3 [(⟨#[121]⟩, dir, id)] = false := by
  have hc : canHold O3 (⟨#[121]⟩, dir, id) = false := by
    unfold canHold getO
    dsimp only
    by_cases hp : 1 ≤ id
    · rw [if_pos hp]
      obtain ⟨k, rfl⟩ : ∃ k : Nat, id = (k : Int) + 1 := ⟨(id - 1).toNat, by omega⟩
      rw [show ((k : Int) + 1 - 1).toNat = k by omega]
      match k with
      | 0 => cases dir with
        | false => exact absurd ⟨rfl, rfl⟩ h1
        | true => rfl
      | 1 => cases dir <;> rfl
      | 2 => cases dir with
        | false => rfl
        | true => exact absurd ⟨rfl, rfl⟩ h3
      | k + 3 => rfl
    · rw [if_neg hp]
  unfold treeOk entOk
  simp [hc]

set_option maxRecDepth 100000 in
set_option maxHeartbeats 4000000 in
theorem walk (id : Int) (dir : Bool) (hid : (Lit.int .i64 id).wf = true) (w : World) (hT : Tab w) : Calls Tryd.prog 9 #[.int .i64 id, .bool dir] w (BoolB w true) := by
  have S := Lib.hid (sane_any w hT)
  have NW := Lib.hid (newW hT)
  have C0 := Lib.hid (fun (W : World) (p : Nat) (F : Nat → Prop) (h : StW w W p [] F) => (show Calls Tryd.prog 18 #[.pointer (some ⟨p, 0, none⟩), .string ⟨#[116, 101, 120, 116]⟩] W (PutW w W p [] F 1 [oT]) from blobW h (by simp) ⟨#[116, 101, 120, 116]⟩ (by decide)))
  have C1 := Lib.hid (fun (W : World) (p : Nat) (F : Nat → Prop) (h : StW w W p [oT] F) => (show Calls Tryd.prog 21 #[.pointer (some ⟨p, 0, none⟩), .slice none 0 0] W (PutW w W p [oT] F 2 [oT, treeO []]) from treeW h (by simp) none [] 0 (ents_nil0 W) (by simp) (by kernel_rfl)))
  have C2 := Lib.hid (fun (W : World) (p : Nat) (F : Nat → Prop) (h : StW w W p [oT, treeO []] F) => (show Calls Tryd.prog 21 #[.pointer (some ⟨p, 0, none⟩), .slice (some ⟨W.heap.size, 0, none⟩) 1 1] (W.alloc (.cells #[.string ⟨#[120]⟩, .bool false, .int .i64 1] 48)) (PutW w (W.alloc (.cells #[.string ⟨#[120]⟩, .bool false, .int .i64 1] 48)) p [oT, treeO []] F 3 O3) from treeL h (by simp) [(⟨#[120]⟩, false, 1)] 1 rfl (by omega) (by kernel_rfl)))
  have MB := Lib.hid (fun (W : World) (p : Nat) (F : Nat → Prop) (h : StW w W p O3 F) => (show Calls Tryd.prog 19 #[.pointer (some ⟨p, 0, none⟩)] W fun e w' => e = .returned (.int .i64 3) ∧ W = w' from many_some h.st))
  by_cases e1 : id = 1
  · subst e1
    cases dir with
    | false =>
      have C3 := Lib.hid (fun (W : World) (p : Nat) (F : Nat → Prop) (h : StW w W p O3 F) => (show Calls Tryd.prog 21 #[.pointer (some ⟨p, 0, none⟩), .slice (some ⟨W.heap.size, 0, none⟩) 1 1] (W.alloc (.cells #[.string ⟨#[121]⟩, .bool false, .int .i64 1] 48)) (PutW w (W.alloc (.cells #[.string ⟨#[121]⟩, .bool false, .int .i64 1] 48)) p O3 F 4 (O3 ++ [treeO [(⟨#[121]⟩, false, 1)]])) from treeL h (by decide) [(⟨#[121]⟩, false, 1)] 1 rfl (by omega) (by kernel_rfl)))
      clear hid
      go_enter Tryd.func9, Tryd.ntmps9
      go_wp2_with (first
        | (go_at_call 14; (with_reducible refine S.out.mono ?_); rintro e w1 ⟨rfl, hb1⟩)
        | (go_at_call 15; (with_reducible refine (NW.out _ hb1).mono ?_); rintro e w2 ⟨rfl, h2⟩; (obtain ⟨p, hp⟩ : ∃ p, w1.heap.size = p := ⟨_, rfl⟩); rw [hp] at h2)
        | (go_at_call 18; (with_reducible refine (C0.out _ _ _ h2).mono ?_); rintro e w3 ⟨rfl, F3, h3, -⟩)
        | (go_at_call 21; (with_reducible refine (C1.out _ _ _ h3).mono ?_); rintro e w4 ⟨rfl, F4, h4, -⟩)
        | (go_at_call 21; (with_reducible refine (C2.out _ _ _ h4).mono ?_); rintro e w5 ⟨rfl, F5, h5, -⟩)
        | (go_at_call 21; (with_reducible refine (C3.out _ _ _ h5).mono ?_); rintro e w6 ⟨rfl, F6, h6, -⟩))
      go_ret
      exact ⟨rfl, h6.below⟩
    | true =>
      have C3 := Lib.hid (fun (W : World) (p : Nat) (F : Nat → Prop) (h : StW w W p O3 F) => (show Calls Tryd.prog 21 #[.pointer (some ⟨p, 0, none⟩), .slice (some ⟨W.heap.size, 0, none⟩) 1 1] (W.alloc (.cells #[.string ⟨#[121]⟩, .bool true, .int .i64 1] 48)) (BadW w (W.alloc (.cells #[.string ⟨#[121]⟩, .bool true, .int .i64 1] 48)) p O3 F) from treeL_bad h (by decide) [(⟨#[121]⟩, true, 1)] 1 rfl (fun e he => by
        obtain rfl : e = (⟨#[121]⟩, true, 1) := by simpa using he
        exact ⟨small1 _, hid⟩) (by omega) (by kernel_rfl)))
      clear hid
      go_enter Tryd.func9, Tryd.ntmps9
      go_wp2_with (first
        | (go_at_call 14; (with_reducible refine S.out.mono ?_); rintro e w1 ⟨rfl, hb1⟩)
        | (go_at_call 15; (with_reducible refine (NW.out _ hb1).mono ?_); rintro e w2 ⟨rfl, h2⟩; (obtain ⟨p, hp⟩ : ∃ p, w1.heap.size = p := ⟨_, rfl⟩); rw [hp] at h2)
        | (go_at_call 18; (with_reducible refine (C0.out _ _ _ h2).mono ?_); rintro e w3 ⟨rfl, F3, h3, -⟩)
        | (go_at_call 21; (with_reducible refine (C1.out _ _ _ h3).mono ?_); rintro e w4 ⟨rfl, F4, h4, -⟩)
        | (go_at_call 21; (with_reducible refine (C2.out _ _ _ h4).mono ?_); rintro e w5 ⟨rfl, F5, h5, -⟩)
        | (go_at_call 21; (with_reducible refine (C3.out _ _ _ h5).mono ?_); rintro e w6 ⟨rfl, h6, -⟩)
        | (go_at_call 19; (with_reducible refine (MB.out _ _ _ h6).mono ?_); rintro e w7 ⟨rfl, rfl⟩))
      go_ret
      exact ⟨rfl, h6.below⟩
  · by_cases e3 : id = 3
    · subst e3
      cases dir with
      | true =>
        have C3 := Lib.hid (fun (W : World) (p : Nat) (F : Nat → Prop) (h : StW w W p O3 F) => (show Calls Tryd.prog 21 #[.pointer (some ⟨p, 0, none⟩), .slice (some ⟨W.heap.size, 0, none⟩) 1 1] (W.alloc (.cells #[.string ⟨#[121]⟩, .bool true, .int .i64 3] 48)) (PutW w (W.alloc (.cells #[.string ⟨#[121]⟩, .bool true, .int .i64 3] 48)) p O3 F 4 (O3 ++ [treeO [(⟨#[121]⟩, true, 3)]])) from treeL h (by decide) [(⟨#[121]⟩, true, 3)] 1 rfl (by omega) (by kernel_rfl)))
        clear hid
        go_enter Tryd.func9, Tryd.ntmps9
        go_wp2_with (first
          | (go_at_call 14; (with_reducible refine S.out.mono ?_); rintro e w1 ⟨rfl, hb1⟩)
          | (go_at_call 15; (with_reducible refine (NW.out _ hb1).mono ?_); rintro e w2 ⟨rfl, h2⟩; (obtain ⟨p, hp⟩ : ∃ p, w1.heap.size = p := ⟨_, rfl⟩); rw [hp] at h2)
          | (go_at_call 18; (with_reducible refine (C0.out _ _ _ h2).mono ?_); rintro e w3 ⟨rfl, F3, h3, -⟩)
          | (go_at_call 21; (with_reducible refine (C1.out _ _ _ h3).mono ?_); rintro e w4 ⟨rfl, F4, h4, -⟩)
          | (go_at_call 21; (with_reducible refine (C2.out _ _ _ h4).mono ?_); rintro e w5 ⟨rfl, F5, h5, -⟩)
          | (go_at_call 21; (with_reducible refine (C3.out _ _ _ h5).mono ?_); rintro e w6 ⟨rfl, F6, h6, -⟩))
        go_ret
        exact ⟨rfl, h6.below⟩
      | false =>
        have C3 := Lib.hid (fun (W : World) (p : Nat) (F : Nat → Prop) (h : StW w W p O3 F) => (show Calls Tryd.prog 21 #[.pointer (some ⟨p, 0, none⟩), .slice (some ⟨W.heap.size, 0, none⟩) 1 1] (W.alloc (.cells #[.string ⟨#[121]⟩, .bool false, .int .i64 3] 48)) (BadW w (W.alloc (.cells #[.string ⟨#[121]⟩, .bool false, .int .i64 3] 48)) p O3 F) from treeL_bad h (by decide) [(⟨#[121]⟩, false, 3)] 1 rfl (fun e he => by
          obtain rfl : e = (⟨#[121]⟩, false, 3) := by simpa using he
          exact ⟨small1 _, hid⟩) (by omega) (by kernel_rfl)))
        clear hid
        go_enter Tryd.func9, Tryd.ntmps9
        go_wp2_with (first
          | (go_at_call 14; (with_reducible refine S.out.mono ?_); rintro e w1 ⟨rfl, hb1⟩)
          | (go_at_call 15; (with_reducible refine (NW.out _ hb1).mono ?_); rintro e w2 ⟨rfl, h2⟩; (obtain ⟨p, hp⟩ : ∃ p, w1.heap.size = p := ⟨_, rfl⟩); rw [hp] at h2)
          | (go_at_call 18; (with_reducible refine (C0.out _ _ _ h2).mono ?_); rintro e w3 ⟨rfl, F3, h3, -⟩)
          | (go_at_call 21; (with_reducible refine (C1.out _ _ _ h3).mono ?_); rintro e w4 ⟨rfl, F4, h4, -⟩)
          | (go_at_call 21; (with_reducible refine (C2.out _ _ _ h4).mono ?_); rintro e w5 ⟨rfl, F5, h5, -⟩)
          | (go_at_call 21; (with_reducible refine (C3.out _ _ _ h5).mono ?_); rintro e w6 ⟨rfl, h6, -⟩)
          | (go_at_call 19; (with_reducible refine (MB.out _ _ _ h6).mono ?_); rintro e w7 ⟨rfl, rfl⟩))
        go_ret
        exact ⟨rfl, h6.below⟩
    · have f1 : (id == 1) = false := by rw [beq_eq_false_iff_ne]; exact e1
      have f3 : (id == 3) = false := by rw [beq_eq_false_iff_ne]; exact e3
      have hok := ok_other id dir (fun h => e1 h.1) (fun h => e3 h.1)
      have C3 := Lib.hid (fun (W : World) (p : Nat) (F : Nat → Prop) (h : StW w W p O3 F) => (show Calls Tryd.prog 21 #[.pointer (some ⟨p, 0, none⟩), .slice (some ⟨W.heap.size, 0, none⟩) 1 1] (W.alloc (.cells #[.string ⟨#[121]⟩, .bool dir, .int .i64 id] 48)) (BadW w (W.alloc (.cells #[.string ⟨#[121]⟩, .bool dir, .int .i64 id] 48)) p O3 F) from treeL_bad h (by decide) [(⟨#[121]⟩, dir, id)] 1 rfl (fun e he => by
        obtain rfl : e = (⟨#[121]⟩, dir, id) := by simpa using he
        exact ⟨small1 _, hid⟩) (by omega) hok))
      clear hid
      go_enter Tryd.func9, Tryd.ntmps9
      go_wp2_with (first
        | (go_at_call 14; (with_reducible refine S.out.mono ?_); rintro e w1 ⟨rfl, hb1⟩)
        | (go_at_call 15; (with_reducible refine (NW.out _ hb1).mono ?_); rintro e w2 ⟨rfl, h2⟩; (obtain ⟨p, hp⟩ : ∃ p, w1.heap.size = p := ⟨_, rfl⟩); rw [hp] at h2)
        | (go_at_call 18; (with_reducible refine (C0.out _ _ _ h2).mono ?_); rintro e w3 ⟨rfl, F3, h3, -⟩)
        | (go_at_call 21; (with_reducible refine (C1.out _ _ _ h3).mono ?_); rintro e w4 ⟨rfl, F4, h4, -⟩)
        | (go_at_call 21; (with_reducible refine (C2.out _ _ _ h4).mono ?_); rintro e w5 ⟨rfl, F5, h5, -⟩)
        | (go_at_call 21; (with_reducible refine (C3.out _ _ _ h5).mono ?_); rintro e w6 ⟨rfl, h6, -⟩)
        | (go_at_call 19; (with_reducible refine (MB.out _ _ _ h6).mono ?_); rintro e w7 ⟨rfl, rfl⟩))
      go_ret
      exact ⟨rfl, h6.below⟩

theorem contract (H : Type) (enc : TypeId × Value → H) (W : World) (base : Nat) (args : Array Value) (ds gs : List (DataW H)) (before : List MemPlace)
    (hval : ∀ (j : Nat) t v, Tryd.f9.params[j]? = some t → args[j]? = some v → Value.okWide Tryd.prog W .any base t v)
    (hW : DataW.Whole enc Tryd.prog Tryd.f9.params.toList Rows.storeKindsSpec.vars false W args.toList ds gs before) (hT : Tab W) :
    Calls Tryd.prog 9 args W fun e W' => ∃ v, e = .returned v ∧ Rows.storeKindsSpec.post enc Tryd.prog Tryd.f9 false true false false W args v W' := by
  have hW' := hW
  obtain ⟨p, q, hA0, hV, rfl, hfz, hnd⟩ := hW
  have hA : DataW.TrodAll enc Tryd.prog W 0 (fun _ => true) true Tryd.f9.params.toList args.toList ds p := hA0
  rw [Tryd.params9] at hA hval
  obtain ⟨v0, vs0, d0, ds0, p0, q0, e0, rfl, rfl, h0, r0⟩ := trodAll_cons hA
  obtain ⟨v1, vs1, d1, ds1, p1, q1, e1, rfl, rfl, h1, r1⟩ := trodAll_cons r0
  obtain ⟨rfl, rfl, rfl⟩ := trodAll_nil r1
  obtain rfl : args = #[v0, v1] := by cases args; simp_all
  obtain ⟨rfl, rfl⟩ := trodVars_none hV
  obtain ⟨id, rfl, _, _, hid⟩ := open_int Tryd.underlying3 (hval 0 3 v0 rfl rfl) h0
  obtain ⟨dir, rfl, _, _⟩ := open_bool Tryd.underlying4 (hval 1 4 v1 rfl rfl) h1
  refine (walk id dir hid W hT).mono fun e W' ⟨he, hb⟩ => ⟨_, he, law_post rfl rfl ?_ rfl rfl rfl hW' hb⟩
  rw [Tryd.params9]
  intro t ht
  have ht' : t = 3 ∨ t = 4 := by simpa using ht
  rcases ht' with rfl | rfl <;> exact ⟨by kernel_rfl, of_decide_eq_true (by kernel_rfl)⟩

theorem laid_met (os : Os) : laidMet Tryd.prog Rows.storeKindsRow.laid ((laidWorld os).forCall (fun _ _ => 0) ⟨#[], #[.int .i64 0, .bool false], []⟩).memory :=
  laidMet_of_run' 8 (by kernel_rfl) (by kernel_rfl)
theorem reads (os : Os) {H : Type} (enc : TypeId × Value → H) : ∃ ds places, DataW.whole enc Tryd.prog ((laidWorld os).forCall (fun _ _ => 0) ⟨#[], #[.int .i64 0, .bool false], []⟩).memory Tryd.f9.params.toList Rows.storeKindsSpec.vars false (#[.int .i64 0, .bool false] : Array Value).toList 8 = some (ds, [], places) ∧ Rows.uptoSmall H (ds ++ []) = true :=
  ⟨[.lit (.int .i64 0), .lit (.bool false)], [], by kernel_rfl, by kernel_rfl⟩

set_option maxRecDepth 100000 in
theorem lifted (os : Os) (started : os.Started) (H : Type) (enc : TypeId × Value → H) (F : Stop.Interp) :
    ReturnsInHanded {} Tryd.checked os 9 .any ((OpenSpec.ofChange Rows.storeKindsSpec).preRow enc Tryd.prog Tryd.f9 Rows.storeKindsRow.domain false Rows.storeKindsRow.laid) (((OpenSpec.ofChange Rows.storeKindsSpec).at F).post enc Tryd.prog Tryd.f9 false true false false) := by
  obtain ⟨ds, places, hx, hsm⟩ := reads os enc
  refine returnsInHanded_of_row (C := Tryd.checked) (s := (OpenSpec.ofChange Rows.storeKindsSpec)) ownKnob_none started (by kernel_rfl) Tryd.func9
    (witness_row_at (enc := enc) (C := Tryd.checked) false (laidWorld os) #[.int .i64 0, .bool false] rfl (by kernel_rfl) (by kernel_rfl) (by kernel_rfl)
      (OpenSpec.preRow_of_cond 8 hx (by kernel_rfl) (fun k hk => by cases hk) (by kernel_rfl) (laid_met os))) ?_
  intro W base args ds gs before hval hW _ _ _ hL _ _
  exact contract H enc W base args ds gs before hval hW (tab_of_laid hL)

theorem said : Rows.StoreKindsSaid :=
  OpenClaim.holds_of_cond 9 Tryd.f9 rfl rfl rfl rfl rfl rfl rfl ⟨rfl, rfl, rfl, rfl, rfl⟩ rfl rfl rfl rfl rfl (by kernel_rfl) Tryd.func9 (by kernel_rfl)
    (of_decide_eq_true (by kernel_rfl)) (by unfold Func.isWrapper; first | (rw [if_pos (by decide +kernel)]; kernel_rfl) | (rw [if_neg (by decide +kernel)]; exact ⟨rfl, rfl⟩))
    (fun os started H enc _ F => by rw [OpenClaim.pre_eq_preRow]; exact lifted os started H enc F)

theorem plain (f : FuncId) (fn : Func) (hf : Tryd.pinned.checked.prog.funcNamed "mainline/mainlinelaw04.StoreKinds" = some f) (hfn : Tryd.pinned.checked.prog.funcs[f]? = some fn) :
    false = Tryd.pinned.checked.prog.looks [] ∧ ∀ (j : Nat) t, fn.params[j]? = some t → Tryd.pinned.checked.prog.wantsStandIn t = false := by
  obtain rfl : f = 9 := Option.some.inj ((show Tryd.prog.funcNamed "mainline/mainlinelaw04.StoreKinds" = some 9 by kernel_rfl).symm.trans hf) |>.symm
  obtain rfl : fn = Tryd.f9 := (Option.some.inj (Tryd.func9.symm.trans hfn)).symm
  refine ⟨by kernel_rfl, fun j t ht => ?_⟩
  rw [Tryd.params9] at ht
  have hm : t ∈ [3, 4] := by have := Array.mem_of_getElem? ht; simpa using this
  have hall : ([3, 4].all fun u => !Tryd.prog.wantsStandIn u) = true := by kernel_rfl
  exact (show Tryd.prog.wantsStandIn t = false by simpa using List.all_eq_true.1 hall t hm)

theorem card : Rows.StoreKindsCardSaid :=
  Claim7.holds_tied_plain_at .later [] _ _ _ _ said (fun _ h => by cases h) (by kernel_rfl) (fun _ h => by cases h) storeKinds_row_tie rfl ⟨rfl, rfl⟩ (by kernel_rfl) rfl plain (by kernel_rfl)

end Go.Proofs.YthnlldojidocoaaDoor.lkinds
