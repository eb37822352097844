/- StoreNames: for all names: a name is accepted exactly if it is a valid path of one component. -/
import Derived.Test.YthnlldojidocoaaDoorLaws2
import Derived.Test.YthnlldojidocoaaDoorRight
import Derived.Test.YthnlldojidocoaaDoorRefBlob
namespace Go.Proofs.YthnlldojidocoaaDoor.lnames
open Go.ChangeShapes Go.WideShapes Go.ChangeAt Go.RowKit Go.Maps

def oT : Ob := blobO ⟨#[116, 101, 120, 116]⟩
theorem stw_apart {w W W' : World} {p : Nat} {os : List Ob} {F G : Nat → Prop} (h : StW w W p os F) (ht : Turn G W W') (hap : ∀ g, F g → ¬ G g) (hG : ∀ g, G g → w.heap.size ≤ g) : StW w W' p os F := by
  have hb : Below w.heap.size W W' := ht.below hG h.below.size
  exact ⟨h.below.trans hb, h.tab0, h.tab.below hb h.tab0, h.st.apart ht hap⟩
theorem right_one (s : ByteArray) : treeOk [oT] [(s, false, 1)] = nameOk s := by
  have hc : canHold [oT] (s, false, 1) = true := rfl
  unfold treeOk entOk rising
  simp [hc]

set_option maxRecDepth 100000 in
set_option maxHeartbeats 4000000 in
theorem walk (s : ByteArray) (hs : s.size ≤ 140737488355328) (w : World) (hT : Tab w) : Calls Tryd.prog 8 #[.string s] w (BoolB w true) := by
  have S := Lib.hid (sane_any w hT)
  have NW := Lib.hid (newW hT)
  have C0 := Lib.hid (fun (W : World) (p : Nat) (F : Nat → Prop) (h : StW w W p [] F) => (show Calls Tryd.prog 18 #[.pointer (some ⟨p, 0, none⟩), .string ⟨#[116, 101, 120, 116]⟩] W (PutW w W p [] F 1 [oT]) from blobW h (by simp) ⟨#[116, 101, 120, 116]⟩ (by decide)))
  have R0 := Lib.hid (fun (W : World) (q : Nat) (G : Nat → Prop) (h : IsRef w.heap.size W q [] G) => (show Calls Tryd.prog 22 #[.pointer (some ⟨q, 0, none⟩), .string ⟨#[116, 101, 120, 116]⟩] W fun e w' => e = .returned (.tuple #[.int .i64 1, .int .i64 0]) ∧ ∃ G', IsRef w.heap.size w' q [oT] G' ∧ Goes G W w' G' from refBlob_any h (by simp) Fine.nil ⟨#[116, 101, 120, 116]⟩ (by decide)))
  have RR := Lib.hid (fun (W : World) (q : Nat) (G : Nat → Prop) (h : IsRef w.heap.size W q [oT] G) => (show Calls Tryd.prog 23 #[.pointer (some ⟨q, 0, none⟩), .slice (some ⟨W.heap.size, 0, none⟩) 1 1] (W.alloc (.cells #[.string s, .bool false, .int .i64 1] 48)) (BoolB (W.alloc (.cells #[.string s, .bool false, .int .i64 1] 48)) (nameOk s)) from by
    obtain ⟨v, In, h⟩ := h
    have h2 := h.on ((Below.refl _ W).alloc (Nat.le_refl _) (.cells #[.string s, .bool false, .int .i64 1] 48))
    have := right_any h2 (by simp) _ _ [(s, false, 1)] _ (ents_new W [(s, false, 1)] rfl) (Nat.le_refl _) (fun e he => by
      obtain rfl : e = (s, false, 1) := by simpa using he
      exact ⟨by show s.size ≤ 140737488355328; omega, by show (Lit.int .i64 1).wf = true; decide⟩) (by simp [maxLen])
    rw [right_one] at this
    exact this))
  have MB := Lib.hid (fun (W : World) (p : Nat) (F : Nat → Prop) (h : StW w W p [oT] F) => (show Calls Tryd.prog 19 #[.pointer (some ⟨p, 0, none⟩)] W fun e w' => e = .returned (.int .i64 1) ∧ W = w' from many_some h.st))
  have RNEW := Lib.hid (fun (W : World) (h : w.heap.size ≤ W.heap.size) => IsRef.new W h)
  have hro := right_one s
  obtain ⟨b, hb⟩ : ∃ b, nameOk s = b := ⟨_, rfl⟩
  rw [hb] at RR hro
  cases b with
  | true => 
    have C3 := Lib.hid (fun (W : World) (p : Nat) (F : Nat → Prop) (h : StW w W p [oT] F) => (show Calls Tryd.prog 21 #[.pointer (some ⟨p, 0, none⟩), .slice (some ⟨W.heap.size, 0, none⟩) 1 1] (W.alloc (.cells #[.string s, .bool false, .int .i64 1] 48)) (PutW w (W.alloc (.cells #[.string s, .bool false, .int .i64 1] 48)) p [oT] F (num [oT] (treeO [(s, false, 1)]) : Int) (put [oT] (treeO [(s, false, 1)]))) from treeL h (by simp) [(s, false, 1)] 1 rfl (by omega) hro))
    obtain ⟨k, hk⟩ : ∃ k, num [oT] (treeO [(s, false, 1)]) = k := ⟨_, rfl⟩
    rw [hk] at C3
    clear hk
    clear hro hb
    go_enter Tryd.func8, Tryd.ntmps8
    go_wp2_with (first
      | (go_at_call 14; (with_reducible refine S.out.mono ?_); rintro e w1 ⟨rfl, hb1⟩)
      | (go_at_call 15; (with_reducible refine (NW.out _ hb1).mono ?_); rintro e w2 ⟨rfl, h2⟩; (obtain ⟨p, hp⟩ : ∃ p, w1.heap.size = p := ⟨_, rfl⟩); rw [hp] at h2)
      | (go_at_call 18; (with_reducible refine (C0.out _ _ _ h2).mono ?_); rintro e w3 ⟨rfl, F3, h3, -⟩; (have hr3 := RNEW.out w3 h3.below.size); (have h4 := h3.alloc (.cells #[.slice none 0 0] 29)); (have hF3 := h3.st.in_); (obtain ⟨q, hq⟩ : ∃ q, w3.heap.size = q := ⟨_, rfl⟩); rw [hq] at hr3 hF3; (have hap : ∀ g, F3 g → ¬ g = q := fun g hg e => (by have := (hF3 g hg).2; omega)))
      | (go_at_call 22; (with_reducible refine (R0.out _ _ _ hr3).mono ?_); rintro e w5 ⟨rfl, G5, hr5, hg5⟩; (have h5 : StW w w5 p [oT] F3 := stw_apart h4 hg5.turn (fun g hg e => hap g hg e) (fun g e => (by have := (hr3.in_ g e).1; omega))); (have hr5F : ∀ g, G5 g → ¬ F3 g := fun g hg hF => (hg5.back g hg).elim (fun e => hap g hF e) (fun e => (by have := (h4.st.in_ g hF).2; omega))))
      | (go_at_call 21; (with_reducible refine (C3.out _ _ _ h5).mono ?_); rintro e w6 ⟨rfl, F6, h6, hg6⟩; (have hr6 : IsRef w.heap.size w6 q [oT] G5 := (hr5.on ((Below.refl _ w5).alloc (Nat.le_refl _) (.cells #[.string s, .bool false, .int .i64 1] 48))).apart hg6.turn hr5F))
      | (go_at_call 23; (with_reducible refine (RR.out _ _ _ hr6).mono ?_); rintro e w7 ⟨rfl, hb7⟩; (have h7 := (h6.alloc (.cells #[.string s, .bool false, .int .i64 1] 48)).on hb7)))
    go_ret
    exact ⟨rfl, h7.below⟩
  | false => 
    have C3 := Lib.hid (fun (W : World) (p : Nat) (F : Nat → Prop) (h : StW w W p [oT] F) => (show Calls Tryd.prog 21 #[.pointer (some ⟨p, 0, none⟩), .slice (some ⟨W.heap.size, 0, none⟩) 1 1] (W.alloc (.cells #[.string s, .bool false, .int .i64 1] 48)) (BadW w (W.alloc (.cells #[.string s, .bool false, .int .i64 1] 48)) p [oT] F) from treeL_bad h (by simp) [(s, false, 1)] 1 rfl (fun e he => by
      obtain rfl : e = (s, false, 1) := by simpa using he
      exact ⟨by show s.size ≤ maxLen; unfold maxLen; omega, by show (Lit.int .i64 1).wf = true; decide⟩) (by omega) hro))
    clear hro hb
    go_enter Tryd.func8, Tryd.ntmps8
    go_wp2_with (first
      | (go_at_call 14; (with_reducible refine S.out.mono ?_); rintro e w1 ⟨rfl, hb1⟩)
      | (go_at_call 15; (with_reducible refine (NW.out _ hb1).mono ?_); rintro e w2 ⟨rfl, h2⟩; (obtain ⟨p, hp⟩ : ∃ p, w1.heap.size = p := ⟨_, rfl⟩); rw [hp] at h2)
      | (go_at_call 18; (with_reducible refine (C0.out _ _ _ h2).mono ?_); rintro e w3 ⟨rfl, F3, h3, -⟩; (have hr3 := RNEW.out w3 h3.below.size); (have h4 := h3.alloc (.cells #[.slice none 0 0] 29)); (have hF3 := h3.st.in_); (obtain ⟨q, hq⟩ : ∃ q, w3.heap.size = q := ⟨_, rfl⟩); rw [hq] at hr3 hF3; (have hap : ∀ g, F3 g → ¬ g = q := fun g hg e => (by have := (hF3 g hg).2; omega)))
      | (go_at_call 22; (with_reducible refine (R0.out _ _ _ hr3).mono ?_); rintro e w5 ⟨rfl, G5, hr5, hg5⟩; (have h5 : StW w w5 p [oT] F3 := stw_apart h4 hg5.turn (fun g hg e => hap g hg e) (fun g e => (by have := (hr3.in_ g e).1; omega))); (have hr5F : ∀ g, G5 g → ¬ F3 g := fun g hg hF => (hg5.back g hg).elim (fun e => hap g hF e) (fun e => (by have := (h4.st.in_ g hF).2; omega))))
      | (go_at_call 21; (with_reducible refine (C3.out _ _ _ h5).mono ?_); rintro e w6 ⟨rfl, h6, hb6⟩; (have hr6 : IsRef w.heap.size w6 q [oT] G5 := (hr5.on ((Below.refl _ w5).alloc (Nat.le_refl _) (.cells #[.string s, .bool false, .int .i64 1] 48))).on hb6))
      | (go_at_call 23; (with_reducible refine (RR.out _ _ _ hr6).mono ?_); rintro e w7 ⟨rfl, hb7⟩; (have h7 := (h6.alloc (.cells #[.string s, .bool false, .int .i64 1] 48)).on hb7))
      | (go_at_call 19; (with_reducible refine (MB.out _ _ _ h7).mono ?_); rintro e w8 ⟨rfl, rfl⟩))
    go_ret
    exact ⟨rfl, h7.below⟩

theorem long {H : Type} {s : ByteArray} {gs : List (DataW H)} (h : (DataW.weightsEach Tryd.prog Tryd.f8.params.toList ([.lit (.string s.data.toList)] ++ gs)).all (· ≤ reachBytes) = true) : s.size ≤ 140737488355328 := by
  have h1 := List.all_eq_true.1 h s.data.toList.length (by rw [Tryd.params8]; simp [DataW.weightsEach, DataW.weights])
  have h2 : s.data.toList.length ≤ reachBytes := of_decide_eq_true h1
  have h3 : reachBytes = 140737488351232 := by kernel_rfl
  rw [Array.length_toList] at h2
  have h4 : s.data.size = s.size := rfl
  omega

theorem contract (H : Type) (enc : TypeId × Value → H) (W : World) (base : Nat) (args : Array Value) (ds gs : List (DataW H)) (before : List MemPlace)
    (hval : ∀ (j : Nat) t v, Tryd.f8.params[j]? = some t → args[j]? = some v → Value.okWide Tryd.prog W .any base t v)
    (hW : DataW.Whole enc Tryd.prog Tryd.f8.params.toList Rows.storeNamesSpec.vars false W args.toList ds gs before) (hT : Tab W) (hsz : (DataW.weightsEach Tryd.prog Tryd.f8.params.toList (ds ++ gs)).all (· ≤ reachBytes) = true) :
    Calls Tryd.prog 8 args W fun e W' => ∃ v, e = .returned v ∧ Rows.storeNamesSpec.post enc Tryd.prog Tryd.f8 false true false false W args v W' := by
  have hW' := hW
  obtain ⟨p, q, hA0, hV, rfl, hfz, hnd⟩ := hW
  have hA : DataW.TrodAll enc Tryd.prog W 0 (fun _ => true) true Tryd.f8.params.toList args.toList ds p := hA0
  rw [Tryd.params8] at hA hval
  obtain ⟨v0, vs0, d0, ds0, p0, q0, e0, rfl, rfl, h0, r0⟩ := trodAll_cons hA
  obtain ⟨rfl, rfl, rfl⟩ := trodAll_nil r0
  obtain rfl : args = #[v0] := by cases args; simp_all
  obtain ⟨rfl, rfl⟩ := trodVars_none hV
  obtain ⟨s, rfl, rfl, rfl, hs⟩ := Go.ChangeMaps.open_string Tryd.underlying9 (hval 0 9 v0 rfl rfl) h0
  have hs2 := long hsz
  refine (walk s hs2 W hT).mono fun e W' ⟨he, hb⟩ => ⟨_, he, law_post rfl rfl ?_ rfl rfl rfl hW' hb⟩
  rw [Tryd.params8]
  intro t ht
  obtain rfl : t = 9 := by simpa using ht
  exact ⟨by kernel_rfl, of_decide_eq_true (by kernel_rfl)⟩

theorem laid_met (os : Os) : laidMet Tryd.prog Rows.storeNamesRow.laid ((laidWorld os).forCall (fun _ _ => 0) ⟨#[], #[.string ⟨#[]⟩], []⟩).memory :=
  laidMet_of_run' 8 (by kernel_rfl) (by kernel_rfl)
theorem reads (os : Os) {H : Type} (enc : TypeId × Value → H) : ∃ ds places, DataW.whole enc Tryd.prog ((laidWorld os).forCall (fun _ _ => 0) ⟨#[], #[.string ⟨#[]⟩], []⟩).memory Tryd.f8.params.toList Rows.storeNamesSpec.vars false (#[.string ⟨#[]⟩] : Array Value).toList 8 = some (ds, [], places) ∧ Rows.uptoSmall H (ds ++ []) = true :=
  ⟨[.lit (.string [])], [], by kernel_rfl, by kernel_rfl⟩

set_option maxRecDepth 100000 in
theorem lifted (os : Os) (started : os.Started) (H : Type) (enc : TypeId × Value → H) (F : Stop.Interp) :
    ReturnsInHanded {} Tryd.checked os 8 .any ((OpenSpec.ofChange Rows.storeNamesSpec).preRow enc Tryd.prog Tryd.f8 Rows.storeNamesRow.domain false Rows.storeNamesRow.laid) (((OpenSpec.ofChange Rows.storeNamesSpec).at F).post enc Tryd.prog Tryd.f8 false true false false) := by
  obtain ⟨ds, places, hx, hsm⟩ := reads os enc
  refine returnsInHanded_of_row (C := Tryd.checked) (s := (OpenSpec.ofChange Rows.storeNamesSpec)) ownKnob_none started (by kernel_rfl) Tryd.func8
    (witness_row_at (enc := enc) (C := Tryd.checked) false (laidWorld os) #[.string ⟨#[]⟩] rfl (by kernel_rfl) (by kernel_rfl) (by kernel_rfl)
      (OpenSpec.preRow_of_cond 8 hx (by kernel_rfl) (fun k hk => by cases hk) (by kernel_rfl) (laid_met os))) ?_
  intro W base args ds gs before hval hW _ _ hsz hL _ _
  exact contract H enc W base args ds gs before hval hW (tab_of_laid hL) (by
    have e0 : DataSpec.varTypes Tryd.checked.prog (OpenSpec.ofChange Rows.storeNamesSpec).bare.plain = [] := by kernel_rfl
    rw [e0, List.append_nil] at hsz
    exact hsz)

theorem said : Rows.StoreNamesSaid :=
  OpenClaim.holds_of_cond 8 Tryd.f8 rfl rfl rfl rfl rfl rfl rfl ⟨rfl, rfl, rfl, rfl, rfl⟩ rfl rfl rfl rfl rfl (by kernel_rfl) Tryd.func8 (by kernel_rfl)
    (of_decide_eq_true (by kernel_rfl)) (by unfold Func.isWrapper; first | (rw [if_pos (by decide +kernel)]; kernel_rfl) | (rw [if_neg (by decide +kernel)]; exact ⟨rfl, rfl⟩))
    (fun os started H enc _ F => by rw [OpenClaim.pre_eq_preRow]; exact lifted os started H enc F)

theorem plain (f : FuncId) (fn : Func) (hf : Tryd.pinned.checked.prog.funcNamed "mainline/mainlinelaw04.StoreNames" = some f) (hfn : Tryd.pinned.checked.prog.funcs[f]? = some fn) :
    false = Tryd.pinned.checked.prog.looks [] ∧ ∀ (j : Nat) t, fn.params[j]? = some t → Tryd.pinned.checked.prog.wantsStandIn t = false := by
  obtain rfl : f = 8 := Option.some.inj ((show Tryd.prog.funcNamed "mainline/mainlinelaw04.StoreNames" = some 8 by kernel_rfl).symm.trans hf) |>.symm
  obtain rfl : fn = Tryd.f8 := (Option.some.inj (Tryd.func8.symm.trans hfn)).symm
  refine ⟨by kernel_rfl, fun j t ht => ?_⟩
  rw [Tryd.params8] at ht
  have hm : t ∈ [9] := by have := Array.mem_of_getElem? ht; simpa using this
  have hall : ([9].all fun u => !Tryd.prog.wantsStandIn u) = true := by kernel_rfl
  exact (show Tryd.prog.wantsStandIn t = false by simpa using List.all_eq_true.1 hall t hm)

theorem card : Rows.StoreNamesCardSaid :=
  Claim7.holds_tied_plain_at .later [] _ _ _ _ said (fun _ h => by cases h) (by kernel_rfl) (fun _ h => by cases h) storeNames_row_tie rfl ⟨rfl, rfl⟩ (by kernel_rfl) rfl plain (by kernel_rfl)

end Go.Proofs.YthnlldojidocoaaDoor.lnames
