/- PathsMatches: for all patterns and paths (numbers that make them, and changes of them), Match is the reference's. -/
import Derived.Test.YtdbikaffmpkgpaaDoorLaws
import Derived.Test.YtdbikaffmpkgpaaDoorRefMatch
import Derived.Test.YtdbikaffmpkgpaaDoorSpoilt
namespace Go.Proofs.YtdbikaffmpkgpaaDoor.lmatches
open Go.ChangeShapes Go.WideShapes Go.ChangeAt Go.RowKit

/-- both Matches at one pattern and one path -/
theorem both (p s : ByteArray) (hp : p.size ≤ 300) (hs : s.size ≤ 300) : ∃ r, (r == r) = true ∧ (∀ W, Tab W → Calls Tryd.prog 22 #[.string p, .string s] W (BoolB W r)) ∧ (∀ W, Calls Tryd.prog 37 #[.string p, .string s] W (BoolB W r)) :=
  ⟨matchS p s, by cases matchS p s <;> rfl, fun W h => match_any p s W h (by unfold maxLen; omega) (by unfold maxLen; omega), fun W => refMatch_any p s W (by omega) (by omega)⟩

set_option maxRecDepth 100000 in
set_option maxHeartbeats 8000000 in
theorem walk (A : Option Addr) (zs : List Int) (c : Nat) (A2 : Option Addr) (ms : List Int) (c2 : Nat) (q0 q1 q2 : Int) (w : World) (hT : Tab w) (hA : Ints w w.heap.size A c zs) (hn : zs.length ≤ maxLen) (hA2 : Ints w w.heap.size A2 c2 ms) (hn2 : ms.length ≤ maxLen) :
    Calls Tryd.prog 10 #[.slice A zs.length c, .slice A2 ms.length c2, .agg #[.int .i64 q0, .int .i64 q1, .int .i64 q2]] w (BoolB w true) := by
  have PA := fun (W : World) (h : Way w W) => pattern_any w.heap.size A zs c W (Row.below hA h.below (Nat.le_refl _)) h.below.size hn
  have SB := Lib.hid (fun (W : World) (h : Way w W) => spoilt_any w.heap.size A zs c q0 q1 q2 W (Row.below hA h.below (Nat.le_refl _)) h.below.size hn)
  have MX := fun (W : World) (h : Way w W) => made_any w.heap.size A2 ms c2 W (Row.below hA2 h.below (Nat.le_refl _)) h.below.size hn2
  have OY := Lib.hid (fun (W : World) (h : Way w W) => odd_any w.heap.size A2 ms c2 q0 q1 q2 W (Row.below hA2 h.below (Nat.le_refl _)) h.below.size hn2)
  have za := (patternS_size zs).2
  have zx := (madeS_size ms).2
  obtain ⟨a, ea⟩ : ∃ p, patternS zs = p := ⟨_, rfl⟩
  obtain ⟨x, ex⟩ : ∃ p, madeS ms = p := ⟨_, rfl⟩
  rw [ea] at PA za
  rw [ex] at MX zx
  have HPA := Lib.hid PA
  have HMX := Lib.hid MX
  obtain ⟨r1, d1, m1, n1⟩ := both a x (by omega) (by omega)
  have M1 := Lib.hid m1
  have N1 := Lib.hid n1
  have hw := Way.start hT
  clear PA MX ea ex m1 n1 hA hA2
  go_enter Tryd.func10, Tryd.ntmps10
  go_wp2_with (first
    | (go_at_call 14; (with_reducible refine (sane_any _ ?_).mono ?_); exact (hw.alloc _).tab; rintro e w1 ⟨rfl, hb⟩; (have hF := (Full.new w 23 [.int .i64 q0, .int .i64 q1, .int .i64 q2]).on hb); (have t0 : w1.cell? ⟨w.heap.size, 0, none⟩ = some (.int .i64 q0) := hF.cell 0); (have t1 : w1.cell? ⟨w.heap.size, 1, none⟩ = some (.int .i64 q1) := hF.cell 1); (have t2 : w1.cell? ⟨w.heap.size, 2, none⟩ = some (.int .i64 q2) := hF.cell 2); have hw := (hw.alloc _).on hb)
    | (go_at_call 36; (with_reducible refine (HPA.out _ hw).mono ?_); rintro e w2 ⟨rfl, hb⟩; have hw := hw.on hb; have hF := hF.on hb; (have t0 : w2.cell? ⟨w.heap.size, 0, none⟩ = some (.int .i64 q0) := hF.cell 0); (have t1 : w2.cell? ⟨w.heap.size, 1, none⟩ = some (.int .i64 q1) := hF.cell 1); (have t2 : w2.cell? ⟨w.heap.size, 2, none⟩ = some (.int .i64 q2) := hF.cell 2))
    | (go_at_call 34; (with_reducible refine (SB.out _ hw).mono ?_); rintro e w3 ⟨b, rfl, hbz, hb⟩; have hw := hw.on hb; have hF := hF.on hb; (obtain ⟨r2, d2, m2, n2⟩ := both b x (by omega) (by omega)); (have M2 := Lib.hid m2); (have N2 := Lib.hid n2); clear m2 n2)
    | (go_at_call 18; (with_reducible refine (HMX.out _ hw).mono ?_); rintro e w4 ⟨rfl, hb⟩; have hw := hw.on hb; have hF := hF.on hb; (have t0 : w4.cell? ⟨w.heap.size, 0, none⟩ = some (.int .i64 q0) := hF.cell 0); (have t1 : w4.cell? ⟨w.heap.size, 1, none⟩ = some (.int .i64 q1) := hF.cell 1); (have t2 : w4.cell? ⟨w.heap.size, 2, none⟩ = some (.int .i64 q2) := hF.cell 2))
    | (go_at_call 15; (with_reducible refine (OY.out _ hw).mono ?_); rintro e w5 ⟨y, rfl, hyz, hb⟩; have hw := hw.on hb; clear hF; (obtain ⟨r3, d3, m3, n3⟩ := both a y (by omega) (by omega)); (have M3 := Lib.hid m3); (have N3 := Lib.hid n3); (obtain ⟨r4, d4, m4, n4⟩ := both b y (by omega) (by omega)); (have M4 := Lib.hid m4); (have N4 := Lib.hid n4); clear m3 n3 m4 n4)
    | (go_at_call 22; (with_reducible refine (M1.out _ hw.tab).mono ?_); rintro e w6 ⟨rfl, hb⟩; have hw := hw.on hb)
    | (go_at_call 37; (with_reducible refine (N1.out _).mono ?_); rintro e w6 ⟨rfl, hb⟩; have hw := hw.on hb)
    | (go_at_call 22; (with_reducible refine (M2.out _ hw.tab).mono ?_); rintro e w6 ⟨rfl, hb⟩; have hw := hw.on hb)
    | (go_at_call 37; (with_reducible refine (N2.out _).mono ?_); rintro e w6 ⟨rfl, hb⟩; have hw := hw.on hb)
    | (go_at_call 22; (with_reducible refine (M3.out _ hw.tab).mono ?_); rintro e w6 ⟨rfl, hb⟩; have hw := hw.on hb)
    | (go_at_call 37; (with_reducible refine (N3.out _).mono ?_); rintro e w6 ⟨rfl, hb⟩; have hw := hw.on hb)
    | (go_at_call 22; (with_reducible refine (M4.out _ hw.tab).mono ?_); rintro e w6 ⟨rfl, hb⟩; have hw := hw.on hb)
    | (go_at_call 37; (with_reducible refine (N4.out _).mono ?_); rintro e w6 ⟨rfl, hb⟩; have hw := hw.on hb))
  go_ret
  exact ⟨rfl, hw.below⟩

theorem contract (H : Type) (enc : TypeId × Value → H) (W : World) (base : Nat) (args : Array Value) (ds gs : List (DataW H)) (before : List MemPlace)
    (hval : ∀ (j : Nat) t v, Tryd.f10.params[j]? = some t → args[j]? = some v → Value.okWide Tryd.prog W .any base t v)
    (hW : DataW.Whole enc Tryd.prog Tryd.f10.params.toList Rows.pathsMatchesSpec.vars false W args.toList ds gs before) (hT : Tab W) :
    Calls Tryd.prog 10 args W fun e W' => ∃ v, e = .returned v ∧ Rows.pathsMatchesSpec.post enc Tryd.prog Tryd.f10 false true false false W args v W' := by
  have hW' := hW
  obtain ⟨p, q, hA0, hV, rfl, hfz, hnd⟩ := hW
  have hA : DataW.TrodAll enc Tryd.prog W 0 (fun _ => true) true Tryd.f10.params.toList args.toList ds p := hA0
  rw [Tryd.params10] at hA hval
  obtain ⟨v0, vs0, d0, ds0, p0, q0, e0, rfl, rfl, h0, r0⟩ := trodAll_cons hA
  obtain ⟨v1, vs1, d1, ds1, p1, q1, e1, rfl, rfl, h1, r1⟩ := trodAll_cons r0
  obtain ⟨v2, vs2, d2, ds2, p2, q2, e2, rfl, rfl, h2, r2⟩ := trodAll_cons r1
  obtain ⟨rfl, rfl, rfl⟩ := trodAll_nil r2
  obtain rfl : args = #[v0, v1, v2] := by cases args; simp_all
  obtain ⟨rfl, rfl⟩ := trodVars_none hV
  obtain ⟨A, zs, c, rfl, hI, hn⟩ := open_intl h0 (hval 0 22 v0 rfl rfl)
  obtain ⟨A2, ms, c2, rfl, hI2, hn2⟩ := open_intl h1 (hval 1 22 v1 rfl rfl)
  obtain ⟨q0, q1, q2, rfl⟩ := open_triple (hval 2 23 v2 rfl rfl) h2
  refine (walk A zs c A2 ms c2 q0 q1 q2 W hT hI hn hI2 hn2).mono fun e W' ⟨he, hb⟩ => ⟨_, he, law_post rfl rfl ?_ rfl rfl rfl hW' hb⟩
  rw [Tryd.params10]
  intro t ht
  have ht' : t = 22 ∨ t = 23 := by simpa using ht
  rcases ht' with rfl | rfl <;> exact ⟨by kernel_rfl, of_decide_eq_true (by kernel_rfl)⟩

theorem laid_met (os : Os) : laidMet Tryd.prog Rows.pathsMatchesRow.laid ((laidWorld os).forCall (fun _ _ => 0) ⟨#[], #[.slice none 0 0, .slice none 0 0, .agg #[.int .i64 0, .int .i64 0, .int .i64 0]], []⟩).memory :=
  laidMet_of_run' 8 (by kernel_rfl) (by kernel_rfl)
theorem reads (os : Os) {H : Type} (enc : TypeId × Value → H) : ∃ ds places, DataW.whole enc Tryd.prog ((laidWorld os).forCall (fun _ _ => 0) ⟨#[], #[.slice none 0 0, .slice none 0 0, .agg #[.int .i64 0, .int .i64 0, .int .i64 0]], []⟩).memory Tryd.f10.params.toList Rows.pathsMatchesSpec.vars false (#[.slice none 0 0, .slice none 0 0, .agg #[.int .i64 0, .int .i64 0, .int .i64 0]] : Array Value).toList 8 = some (ds, [], places) ∧ Rows.uptoSmall H (ds ++ []) = true :=
  ⟨[.nil, .nil, .agg [.lit (.int .i64 0), .lit (.int .i64 0), .lit (.int .i64 0)]], [], by kernel_rfl, by kernel_rfl⟩

set_option maxRecDepth 100000 in
theorem lifted (os : Os) (started : os.Started) (H : Type) (enc : TypeId × Value → H) (F : Stop.Interp) :
    ReturnsInHanded {} Tryd.checked os 10 .any ((OpenSpec.ofChange Rows.pathsMatchesSpec).preRow enc Tryd.prog Tryd.f10 Rows.pathsMatchesRow.domain false Rows.pathsMatchesRow.laid) (((OpenSpec.ofChange Rows.pathsMatchesSpec).at F).post enc Tryd.prog Tryd.f10 false true false false) := by
  obtain ⟨ds, places, hx, hsm⟩ := reads os enc
  refine returnsInHanded_of_row (C := Tryd.checked) (s := (OpenSpec.ofChange Rows.pathsMatchesSpec)) ownKnob_none started (by kernel_rfl) Tryd.func10
    (witness_row_at (enc := enc) (C := Tryd.checked) false (laidWorld os) #[.slice none 0 0, .slice none 0 0, .agg #[.int .i64 0, .int .i64 0, .int .i64 0]] rfl (by kernel_rfl) (by kernel_rfl) (by kernel_rfl)
      (OpenSpec.preRow_of_cond 8 hx (by kernel_rfl) (fun k hk => by cases hk) (by kernel_rfl) (laid_met os))) ?_
  intro W base args ds gs before hval hW _ _ _ hL _ _
  exact contract H enc W base args ds gs before hval hW (tab_of_laid hL)

theorem said : Rows.PathsMatchesSaid :=
  OpenClaim.holds_of_cond 10 Tryd.f10 rfl rfl rfl rfl rfl rfl rfl ⟨rfl, rfl, rfl, rfl, rfl⟩ rfl rfl rfl rfl rfl (by kernel_rfl) Tryd.func10 (by kernel_rfl)
    (of_decide_eq_true (by kernel_rfl)) (by unfold Func.isWrapper; first | (rw [if_pos (by decide +kernel)]; kernel_rfl) | (rw [if_neg (by decide +kernel)]; exact ⟨rfl, rfl⟩))
    (fun os started H enc _ F => by rw [OpenClaim.pre_eq_preRow]; exact lifted os started H enc F)

theorem plain (f : FuncId) (fn : Func) (hf : Tryd.pinned.checked.prog.funcNamed "mainline/mainlinelaw03.PathsMatches" = some f) (hfn : Tryd.pinned.checked.prog.funcs[f]? = some fn) :
    false = Tryd.pinned.checked.prog.looks [] ∧ ∀ (j : Nat) t, fn.params[j]? = some t → Tryd.pinned.checked.prog.wantsStandIn t = false := by
  obtain rfl : f = 10 := Option.some.inj ((show Tryd.prog.funcNamed "mainline/mainlinelaw03.PathsMatches" = some 10 by kernel_rfl).symm.trans hf) |>.symm
  obtain rfl : fn = Tryd.f10 := (Option.some.inj (Tryd.func10.symm.trans hfn)).symm
  refine ⟨by kernel_rfl, fun j t ht => ?_⟩
  rw [Tryd.params10] at ht
  have hm : t ∈ [22, 23] := by have := Array.mem_of_getElem? ht; simpa using this
  have hall : ([22, 23].all fun u => !Tryd.prog.wantsStandIn u) = true := by kernel_rfl
  exact (show Tryd.prog.wantsStandIn t = false by simpa using List.all_eq_true.1 hall t hm)

theorem card : Rows.PathsMatchesCardSaid :=
  Claim7.holds_tied_plain_at .later [] _ _ _ _ said (fun _ h => by cases h) (by kernel_rfl) (fun _ h => by cases h) pathsMatches_row_tie rfl ⟨rfl, rfl⟩ (by kernel_rfl) rfl plain (by kernel_rfl)

end Go.Proofs.YtdbikaffmpkgpaaDoor.lmatches
