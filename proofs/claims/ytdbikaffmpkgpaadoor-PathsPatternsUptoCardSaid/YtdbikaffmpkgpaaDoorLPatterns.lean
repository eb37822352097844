/- PathsPatterns: for all strings (numbers that make a pattern, a change of it, and an arbitrary string of at most 2^20 bytes), ValidPattern is the reference's; made patterns and made paths are patterns. -/
import Derived.Test.YtdbikaffmpkgpaaDoorLaws
import Derived.Test.YtdbikaffmpkgpaaDoorRefPat
import Derived.Test.YtdbikaffmpkgpaaDoorSpoilt
import Derived.Test.YtdbikaffmpkgpaaDoorSelf
import Derived.Deep.CutRange
namespace Go.Proofs.YtdbikaffmpkgpaaDoor.lpatterns
open Go.ChangeShapes Go.WideShapes Go.ChangeAt Go.RowKit

theorem beq_self (b : Bool) : (b == b) = true := by cases b <;> rfl
theorem patternS_valid (zs : List Int) : patS (patternS zs) = true := by
  by_cases h : zs = []
  · subst h
    kernel_rfl
  · have hc : comps (patternS zs) = patLL zs := by
      unfold patternS
      rw [if_neg h]
      exact comps_join (patLL_ne h) (fun x hx => patsL_free x (patLL_mem hx))
    have h1 := patternS_size zs
    have h2 := patLL_len zs
    have h3 : (patLL zs).all isComp = true := by
      rw [List.all_eq_true]
      intro x hx
      have : ∀ y ∈ patsL, isComp y = true := by decide +kernel
      exact this x (patLL_mem hx)
    unfold patS within
    rw [hc, h3, decide_eq_true (by omega), decide_eq_true (by omega)]
    rfl

set_option maxRecDepth 100000 in
set_option maxHeartbeats 4000000 in
theorem walk (A : Option Addr) (zs : List Int) (c : Nat) (q0 q1 q2 : Int) (s : ByteArray) (w : World) (hT : Tab w) (hA : Ints w w.heap.size A c zs) (hn : zs.length ≤ maxLen) (hs : s.size ≤ 1048576) :
    Calls Tryd.prog 9 #[.slice A zs.length c, .agg #[.int .i64 q0, .int .i64 q1, .int .i64 q2], .string s] w (BoolB w true) := by
  have OD := Lib.hid (fun (W : World) (h : Way w W) => spoilt_any w.heap.size A zs c q0 q1 q2 W (Row.below hA h.below (Nat.le_refl _)) h.below.size hn)
  have MD := fun (W : World) (h : Way w W) => made_any w.heap.size A zs c W (Row.below hA h.below (Nat.le_refl _)) h.below.size hn
  have MPT := fun (W : World) (h : Way w W) => pattern_any w.heap.size A zs c W (Row.below hA h.below (Nat.le_refl _)) h.below.size hn
  have VS := fun (W : World) (h : Tab W) => pat_any s W h (by unfold maxLen; omega)
  have RS := fun (W : World) => refPat_any s W (by omega)
  obtain ⟨vs, hvs⟩ : ∃ b, patS s = b := ⟨_, rfl⟩
  rw [hvs] at VS RS
  have HVS := Lib.hid VS
  have HRS := Lib.hid RS
  have VM := fun (W : World) (h : Tab W) => (show Calls Tryd.prog 21 #[.string (madeS zs)] W fun e w' => e = .returned (.bool true) ∧ ∃ q, w' = W.drewN q by
    have := pat_any (madeS zs) W h (by have := (madeS_size zs).2; unfold maxLen; omega)
    rwa [valid_pat (madeS_valid zs)] at this)
  have VP := fun (W : World) (h : Tab W) => (show Calls Tryd.prog 21 #[.string (patternS zs)] W fun e w' => e = .returned (.bool true) ∧ ∃ q, w' = W.drewN q by
    have := pat_any (patternS zs) W h (by have := (patternS_size zs).2; unfold maxLen; omega)
    rwa [patternS_valid] at this)
  obtain ⟨ms, hms⟩ : ∃ m, madeS zs = m := ⟨_, rfl⟩
  rw [hms] at MD VM
  obtain ⟨ps, hps⟩ : ∃ m, patternS zs = m := ⟨_, rfl⟩
  rw [hps] at MPT VP
  have HMD := Lib.hid MD
  have HVM := Lib.hid VM
  have HMP := Lib.hid MPT
  have HVP := Lib.hid VP
  have hsd := beq_self vs
  have hw := Way.start hT
  clear hvs VS RS MD VM MPT VP hms hps
  go_enter Tryd.func9, Tryd.ntmps9
  go_wp2_with (first
    | (go_at_call 14; (with_reducible refine (sane_any _ ?_).mono ?_); exact (hw.alloc _).tab; rintro e w1 ⟨rfl, hb⟩; (have hF := (Full.new w 23 [.int .i64 q0, .int .i64 q1, .int .i64 q2]).on hb); (have t0 : w1.cell? ⟨w.heap.size, 0, none⟩ = some (.int .i64 q0) := hF.cell 0); (have t1 : w1.cell? ⟨w.heap.size, 1, none⟩ = some (.int .i64 q1) := hF.cell 1); (have t2 : w1.cell? ⟨w.heap.size, 2, none⟩ = some (.int .i64 q2) := hF.cell 2); have hw := (hw.alloc _).on hb; clear hF)
    | (go_at_call 34; (with_reducible refine (OD.out _ hw).mono ?_); rintro e w2 ⟨x, rfl, hx, hb⟩; have hw := hw.on hb; clear t0 t1 t2; (have VX := fun (W : World) (h : Tab W) => pat_any x W h (by unfold maxLen; omega)); (have RX := fun (W : World) => refPat_any x W (by omega)); (obtain ⟨vx, hvx⟩ : ∃ b, patS x = b := ⟨_, rfl⟩); rw [hvx] at VX RX; (have HVX := Lib.hid VX); (have HRX := Lib.hid RX); (have hxd := beq_self vx); clear VX RX hvx)
    | (go_at_call 21; (with_reducible refine (HVX.out _ hw.tab).mono ?_); rintro e w3 ⟨rfl, hq⟩; have hw := hw.on (below_drawn hq))
    | (go_at_call 35; (with_reducible refine (HRX.out _).mono ?_); rintro e w4 ⟨rfl, hb⟩; have hw := hw.on hb)
    | (go_at_call 21; (with_reducible refine (HVS.out _ hw.tab).mono ?_); rintro e w5 ⟨rfl, hq⟩; have hw := hw.on (below_drawn hq))
    | (go_at_call 35; (with_reducible refine (HRS.out _).mono ?_); rintro e w6 ⟨rfl, hb⟩; have hw := hw.on hb)
    | (go_at_call 36; (with_reducible refine (HMP.out _ hw).mono ?_); rintro e w7 ⟨rfl, hb⟩; have hw := hw.on hb)
    | (go_at_call 21; (with_reducible refine (HVP.out _ hw.tab).mono ?_); rintro e w8 ⟨rfl, hq⟩; have hw := hw.on (below_drawn hq))
    | (go_at_call 18; (with_reducible refine (HMD.out _ hw).mono ?_); rintro e w7 ⟨rfl, hb⟩; have hw := hw.on hb)
    | (go_at_call 21; (with_reducible refine (HVM.out _ hw.tab).mono ?_); rintro e w8 ⟨rfl, hq⟩; have hw := hw.on (below_drawn hq)))
  go_ret
  exact ⟨rfl, hw.below⟩

theorem short {H : Type} {d0 d1 : DataW H} {s : ByteArray} (hk : Rows.uptoSmall H [d0, d1, .lit (.string s.data.toList)] = true) : s.size ≤ 1048576 := by
  have h : Rows.uptoBulkAll [d0, d1, DataW.lit (H := H) (.string s.data.toList)] ≤ 1048576 := of_decide_eq_true hk
  simp only [Rows.uptoBulkAll, Rows.uptoBulk] at h
  have e : s.data.toList.length = s.size := by rw [Array.length_toList]; rfl
  omega

theorem contract (H : Type) (enc : TypeId × Value → H) (W : World) (base : Nat) (args : Array Value) (ds gs : List (DataW H)) (before : List MemPlace)
    (hval : ∀ (j : Nat) t v, Tryd.f9.params[j]? = some t → args[j]? = some v → Value.okWide Tryd.prog W .any base t v)
    (hW : DataW.Whole enc Tryd.prog Tryd.f9.params.toList Rows.pathsPatternsSpec.vars false W args.toList ds gs before) (hT : Tab W) (hk : Rows.uptoSmall H (ds ++ gs) = true) :
    Calls Tryd.prog 9 args W fun e W' => ∃ v, e = .returned v ∧ Rows.pathsPatternsSpec.post enc Tryd.prog Tryd.f9 false true false false W args v W' := by
  have hW' := hW
  obtain ⟨p, q, hA0, hV, rfl, hfz, hnd⟩ := hW
  have hA : DataW.TrodAll enc Tryd.prog W 0 (fun _ => true) true Tryd.f9.params.toList args.toList ds p := hA0
  rw [Tryd.params9] at hA hval
  obtain ⟨v0, vs0, d0, ds0, p0, q0, e0, rfl, rfl, h0, r0⟩ := trodAll_cons hA
  obtain ⟨v1, vs1, d1, ds1, p1, q1, e1, rfl, rfl, h1, r1⟩ := trodAll_cons r0
  obtain ⟨v2, vs2, d2, ds2, p2, q2, e2, rfl, rfl, h2, r2⟩ := trodAll_cons r1
  obtain ⟨rfl, rfl, rfl⟩ := trodAll_nil r2
  obtain rfl : args = #[v0, v1, v2] := by cases args; simp_all
  obtain ⟨rfl, rfl⟩ := trodVars_none hV
  obtain ⟨A, zs, c, rfl, hI, hn⟩ := open_intl h0 (hval 0 22 v0 rfl rfl)
  obtain ⟨q0, q1, q2, rfl⟩ := open_triple (hval 1 23 v1 rfl rfl) h1
  obtain ⟨s, rfl, rfl, rfl, hs⟩ := Go.ChangeMaps.open_string Tryd.underlying9 (hval 2 9 v2 rfl rfl) h2
  have hk' : Rows.uptoSmall H [d0, d1, .lit (.string s.data.toList)] = true := by simpa only [List.append_nil] using hk
  refine (walk A zs c q0 q1 q2 s W hT hI hn (short hk')).mono fun e W' ⟨he, hb⟩ => ⟨_, he, law_post rfl rfl ?_ rfl rfl rfl hW' hb⟩
  rw [Tryd.params9]
  intro t ht
  have ht' : t = 22 ∨ t = 23 ∨ t = 9 := by simpa using ht
  rcases ht' with rfl | rfl | rfl <;> exact ⟨by kernel_rfl, of_decide_eq_true (by kernel_rfl)⟩

theorem laid_met (os : Os) : laidMet Tryd.prog Rows.pathsPatternsRow.laid ((laidWorld os).forCall (fun _ _ => 0) ⟨#[], #[.slice none 0 0, .agg #[.int .i64 0, .int .i64 0, .int .i64 0], .string ⟨#[]⟩], []⟩).memory :=
  laidMet_of_run' 8 (by kernel_rfl) (by kernel_rfl)
theorem reads (os : Os) {H : Type} (enc : TypeId × Value → H) : ∃ ds places, DataW.whole enc Tryd.prog ((laidWorld os).forCall (fun _ _ => 0) ⟨#[], #[.slice none 0 0, .agg #[.int .i64 0, .int .i64 0, .int .i64 0], .string ⟨#[]⟩], []⟩).memory Tryd.f9.params.toList Rows.pathsPatternsSpec.vars false (#[.slice none 0 0, .agg #[.int .i64 0, .int .i64 0, .int .i64 0], .string ⟨#[]⟩] : Array Value).toList 8 = some (ds, [], places) ∧ Rows.uptoSmall H (ds ++ []) = true :=
  ⟨[.nil, .agg [.lit (.int .i64 0), .lit (.int .i64 0), .lit (.int .i64 0)], .lit (.string [])], [], by kernel_rfl, by kernel_rfl⟩

set_option maxRecDepth 100000 in
theorem lifted (os : Os) (started : os.Started) (H : Type) (enc : TypeId × Value → H) (F : Stop.Interp) :
    ReturnsInHanded {} Tryd.checked os 9 .any ((Rows.OpenSpec.upto Rows.pathsPatternsSpec).preRow enc Tryd.prog Tryd.f9 Rows.pathsPatternsUptoRow.domain false Rows.pathsPatternsUptoRow.laid) (((Rows.OpenSpec.upto Rows.pathsPatternsSpec).at F).post enc Tryd.prog Tryd.f9 false true false false) := by
  obtain ⟨ds, places, hx, hsm⟩ := reads os enc
  refine returnsInHanded_of_row (C := Tryd.checked) (s := (Rows.OpenSpec.upto Rows.pathsPatternsSpec)) ownKnob_none started (by kernel_rfl) Tryd.func9
    (witness_row_at (enc := enc) (C := Tryd.checked) false (laidWorld os) #[.slice none 0 0, .agg #[.int .i64 0, .int .i64 0, .int .i64 0], .string ⟨#[]⟩] rfl (by kernel_rfl) (by kernel_rfl) (by kernel_rfl)
      (OpenSpec.preRow_of_cond 8 hx (by kernel_rfl) (fun k hk => by cases hk; exact hsm) (by kernel_rfl) (laid_met os))) ?_
  intro W base args ds gs before hval hW _ hk _ hL _ _
  exact contract H enc W base args ds gs before hval hW (tab_of_laid hL) (hk _ rfl)

theorem said : Rows.PathsPatternsUptoSaid :=
  OpenClaim.holds_of_cond 9 Tryd.f9 rfl rfl rfl rfl rfl rfl rfl ⟨rfl, rfl, rfl, rfl, rfl⟩ rfl rfl rfl rfl rfl (by kernel_rfl) Tryd.func9 (by kernel_rfl)
    (of_decide_eq_true (by kernel_rfl)) (by unfold Func.isWrapper; first | (rw [if_pos (by decide +kernel)]; kernel_rfl) | (rw [if_neg (by decide +kernel)]; exact ⟨rfl, rfl⟩))
    (fun os started H enc _ F => by rw [OpenClaim.pre_eq_preRow]; exact lifted os started H enc F)

theorem plain (f : FuncId) (fn : Func) (hf : Tryd.pinned.checked.prog.funcNamed "mainline/mainlinelaw03.PathsPatterns" = some f) (hfn : Tryd.pinned.checked.prog.funcs[f]? = some fn) :
    false = Tryd.pinned.checked.prog.looks [] ∧ ∀ (j : Nat) t, fn.params[j]? = some t → Tryd.pinned.checked.prog.wantsStandIn t = false := by
  obtain rfl : f = 9 := Option.some.inj ((show Tryd.prog.funcNamed "mainline/mainlinelaw03.PathsPatterns" = some 9 by kernel_rfl).symm.trans hf) |>.symm
  obtain rfl : fn = Tryd.f9 := (Option.some.inj (Tryd.func9.symm.trans hfn)).symm
  refine ⟨by kernel_rfl, fun j t ht => ?_⟩
  rw [Tryd.params9] at ht
  have hm : t ∈ [22, 23, 9] := by have := Array.mem_of_getElem? ht; simpa using this
  have hall : ([22, 23, 9].all fun u => !Tryd.prog.wantsStandIn u) = true := by kernel_rfl
  exact (show Tryd.prog.wantsStandIn t = false by simpa using List.all_eq_true.1 hall t hm)

theorem card : Rows.PathsPatternsUptoCardSaid :=
  Claim7.holds_tied_plain_at .later [] _ _ _ _ said (fun _ h => by cases h) (by kernel_rfl) (fun _ h => by cases h) pathsPatternsUpto_row_tie rfl ⟨rfl, rfl⟩ (by kernel_rfl) rfl plain (by kernel_rfl)

end Go.Proofs.YtdbikaffmpkgpaaDoor.lpatterns
