/- PathsUnder: for all strings (numbers that make two paths, and a change of the first one), Under is the reference's; every path lies under itself, its directory, and the root. -/
import Derived.Test.YtdbikaffmpkgpaaDoorLaws
import Derived.Test.YtdbikaffmpkgpaaDoorUnder
import Derived.Deep.CutRange
namespace Go.Proofs.YtdbikaffmpkgpaaDoor.lunder
open Go.ChangeShapes Go.WideShapes Go.ChangeAt Go.RowKit

theorem beq_self (b : Bool) : (b == b) = true := by cases b <;> rfl
theorem Ints.take {w : World} {B : Nat} {A : Option Addr} {c : Nat} {zs : List Int} (k : Nat) (hk : k ≤ zs.length) (h : Ints w B A c zs) : ∃ A', (∀ W, (Instr.slice 22 (.slice A zs.length c) none (some (.int .i64 (k : Int))) none).run Tryd.prog W = .ok (.slice A' k c) W) ∧ Ints w B A' c (zs.take k) ∧ (zs.take k).length = k := by
  obtain ⟨A', h1, h2⟩ := cut_h 22 3 1 Tryd.underlying22 (fun _ => by kernel_rfl) A zs.length c k hk h.2.1
  refine ⟨A', h1, ?_, by rw [List.length_take]; omega⟩
  have := h2 w B _ h
  unfold Ints intC
  rw [List.length_take, Nat.min_eq_left hk, List.map_take, ← Nat.mul_one k]
  simpa [intC] using this
theorem under_self (p : ByteArray) : underS p p = true := by unfold underS; rw [under_prefix]; exact .inr (.inl rfl)
theorem under_empty (p : ByteArray) : underS p ⟨#[]⟩ = true := by unfold underS; rw [under_prefix]; exact .inl rfl
theorem under_dir (p : ByteArray) : underS p (dirOf p) = true := by
  unfold underS
  rw [under_prefix]
  rcases dir_base p with ⟨_, h, _⟩ | ⟨_, h⟩
  · rw [h]; exact .inl rfl
  · exact .inr (.inr ⟨_, h⟩)
theorem dir_under {p : ByteArray} (h0 : 0 < p.size) : underS (dirOf p) p = false := by
  unfold underS
  rw [Bool.eq_false_iff]
  intro h
  have hlt : (dirOf p).size < p.size := by
    rcases dir_base p with ⟨_, h, _⟩ | ⟨_, h⟩
    · rw [h]; exact h0
    · have := congrArg List.length h
      rw [data_len, List.length_append, data_len, List.length_cons] at this
      omega
  rcases (under_prefix _ _).1 h with h | h | ⟨t, h⟩
  · have := congrArg List.length h
    rw [data_len, List.length_nil] at this; omega
  · have := congrArg List.length h
    rw [data_len, data_len] at this; omega
  · have := congrArg List.length h
    rw [data_len, List.length_append, data_len, List.length_cons] at this; omega
theorem cat_under (y p : ByteArray) : underS (y ++ (⟨#[47]⟩ : ByteArray) ++ p) y = true := by
  unfold underS
  rw [under_prefix]
  exact .inr (.inr ⟨p.data.toList, by rw [app_data, app_data]; simp⟩)

set_option maxRecDepth 100000 in
set_option maxHeartbeats 8000000 in
theorem walk (A : Option Addr) (zs : List Int) (c : Nat) (A2 : Option Addr) (ms : List Int) (c2 : Nat) (q0 q1 q2 : Int) (w : World) (hT : Tab w) (hA : Ints w w.heap.size A c zs) (hn : zs.length ≤ maxLen) (hA2 : Ints w w.heap.size A2 c2 ms) (hn2 : ms.length ≤ maxLen) :
    Calls Tryd.prog 6 #[.slice A zs.length c, .slice A2 ms.length c2, .agg #[.int .i64 q0, .int .i64 q1, .int .i64 q2]] w (BoolB w true) := by
  have OD := Lib.hid (fun (W : World) (h : Way w W) => odd_any w.heap.size A zs c q0 q1 q2 W (Row.below hA h.below (Nat.le_refl _)) h.below.size hn)
  have MP := fun (W : World) (h : Way w W) => made_any w.heap.size A zs c W (Row.below hA h.below (Nat.le_refl _)) h.below.size hn
  have MY := fun (W : World) (h : Way w W) => made_any w.heap.size A2 ms c2 W (Row.below hA2 h.below (Nat.le_refl _)) h.below.size hn2
  obtain ⟨hf, ehf⟩ : ∃ k, zs.length / 2 = k := ⟨_, rfl⟩
  obtain ⟨A', hcut, hA', htl⟩ := Ints.take hf (by rw [← ehf]; exact Nat.div_le_self _ _) hA
  have MZ := fun (W : World) (h : Way w W) => made_any w.heap.size A' (zs.take hf) c W (Row.below hA' h.below (Nat.le_refl _)) h.below.size (by rw [htl]; omega)
  rw [htl] at MZ
  obtain ⟨hp0, hp⟩ := madeS_size zs
  have hy := (madeS_size ms).2
  have hz := (madeS_size (zs.take hf)).2
  obtain ⟨p, ep⟩ : ∃ p, madeS zs = p := ⟨_, rfl⟩
  obtain ⟨y, ey⟩ : ∃ y, madeS ms = y := ⟨_, rfl⟩
  obtain ⟨z, ez⟩ : ∃ z, madeS (zs.take hf) = z := ⟨_, rfl⟩
  rw [ep] at MP hp hp0
  rw [ey] at MY hy
  rw [ez] at MZ hz
  have UPP := fun W => under_any p p W (by unfold maxLen; omega) (by unfold maxLen; omega)
  rw [under_self] at UPP
  have hdp : (dirOf p).size ≤ 48 := by
    unfold dirOf
    rw [ByteArray.size_extract]; omega
  have UPD := fun W => under_any p (dirOf p) W (by unfold maxLen; omega) (by unfold maxLen; omega)
  rw [under_dir] at UPD
  have UDP := fun W => under_any (dirOf p) p W (by unfold maxLen; omega) (by unfold maxLen; omega)
  rw [dir_under hp0] at UDP
  have UPE := fun W => under_any p ⟨#[]⟩ W (by unfold maxLen; omega) (by decide)
  rw [under_empty] at UPE
  have UCY := fun W => under_any (y ++ (⟨#[47]⟩ : ByteArray) ++ p) y W (by
    rw [ByteArray.size_append, ByteArray.size_append]
    have e : (⟨#[47]⟩ : ByteArray).size = 1 := rfl
    unfold maxLen; omega) (by unfold maxLen; omega)
  rw [cat_under] at UCY
  have RD := fun W => refDir_any p W (by omega)
  obtain ⟨dp, ed⟩ : ∃ dp, dirOf p = dp := ⟨_, rfl⟩
  rw [ed] at UPD UDP RD
  have HMP := Lib.hid MP
  have HMY := Lib.hid MY
  have HMZ := Lib.hid MZ
  have HPP := Lib.hid UPP
  have HPD := Lib.hid UPD
  have HDP := Lib.hid UDP
  have HPE := Lib.hid UPE
  have HCY := Lib.hid UCY
  have HRD := Lib.hid RD
  have eqw : wrap64 ((zs.length : Int) / 2) = (hf : Int) := by
    unfold maxLen at hn
    unfold wrap64
    omega
  have hf0 : (0 : Int) ≤ (hf : Int) := Int.natCast_nonneg _
  have hf1 : (hf : Int) ≤ (zs.length : Int) := Int.ofNat_le.2 (by rw [← ehf]; exact Nat.div_le_self _ _)
  have hw := Way.start hT
  clear MP MY MZ UPP UPD UDP UPE UCY RD ed ep ey ez hA hA2 hA' htl hdp hp0 ehf
  go_enter Tryd.func6, Tryd.ntmps6
  go_upto_region 6 with (first
    | (go_at_call 14; (with_reducible refine (sane_any _ ?_).mono ?_); exact (hw.alloc _).tab; rintro e w1 ⟨rfl, hb⟩; (have hF := (Full.new w 23 [.int .i64 q0, .int .i64 q1, .int .i64 q2]).on hb); (have t0 : w1.cell? ⟨w.heap.size, 0, none⟩ = some (.int .i64 q0) := hF.cell 0); (have t1 : w1.cell? ⟨w.heap.size, 1, none⟩ = some (.int .i64 q1) := hF.cell 1); (have t2 : w1.cell? ⟨w.heap.size, 2, none⟩ = some (.int .i64 q2) := hF.cell 2); have hw := (hw.alloc _).on hb; clear hF)
    | (go_at_call 15; (with_reducible refine (OD.out _ hw).mono ?_); rintro e w2 ⟨x, rfl, hx, hb⟩; have hw := hw.on hb; clear t0 t1 t2;
        (have U1 := fun W => under_any x y W (by unfold maxLen; omega) (by unfold maxLen; omega)); (have U2 := fun W => under_any x z W (by unfold maxLen; omega) (by unfold maxLen; omega)); (have U3 := fun W => under_any z x W (by unfold maxLen; omega) (by unfold maxLen; omega));
        (have R1 := fun W => refUnder_any x y W (by omega) (by omega)); (have R2 := fun W => refUnder_any x z W (by omega) (by omega)); (have R3 := fun W => refUnder_any z x W (by omega) (by omega));
        (obtain ⟨b1, hb1⟩ : ∃ b, underS x y = b := ⟨_, rfl⟩); (obtain ⟨b2, hb2⟩ : ∃ b, underS x z = b := ⟨_, rfl⟩); (obtain ⟨b3, hb3⟩ : ∃ b, underS z x = b := ⟨_, rfl⟩);
        rw [hb1] at U1 R1; rw [hb2] at U2 R2; rw [hb3] at U3 R3; (have HU1 := Lib.hid U1); (have HU2 := Lib.hid U2); (have HU3 := Lib.hid U3); (have HR1 := Lib.hid R1); (have HR2 := Lib.hid R2); (have HR3 := Lib.hid R3);
        (have d1 := beq_self b1); (have d2 := beq_self b2); (have d3 := beq_self b3); clear U1 U2 U3 R1 R2 R3 hb1 hb2 hb3)
    | (go_at_call 18; (with_reducible refine (HMY.out _ hw).mono ?_); rintro e w3 ⟨rfl, hb⟩; have hw := hw.on hb)
    | (go_at_call 18; (with_reducible refine (HMZ.out _ hw).mono ?_); rintro e w3 ⟨rfl, hb⟩; have hw := hw.on hb)
    | (go_at_call 18; (with_reducible refine (HMP.out _ hw).mono ?_); rintro e w3 ⟨rfl, hb⟩; have hw := hw.on hb))
  go_cut [12] from 27 to 51 (fun s12 wx => s12 = .bool true ∧ Way w wx)
  case first =>
    go_wp2_with (first
      | (go_at_call 30; (with_reducible refine (HU1.out _).mono ?_); rintro e w4 ⟨rfl, rfl⟩)
      | (go_at_call 30; (with_reducible refine (HU2.out _).mono ?_); rintro e w4 ⟨rfl, rfl⟩)
      | (go_at_call 30; (with_reducible refine (HU3.out _).mono ?_); rintro e w4 ⟨rfl, rfl⟩)
      | (go_at_call 31; (with_reducible refine (HR1.out _).mono ?_); rintro e w5 ⟨rfl, hb⟩; have hw := hw.on hb)
      | (go_at_call 31; (with_reducible refine (HR2.out _).mono ?_); rintro e w5 ⟨rfl, hb⟩; have hw := hw.on hb)
      | (go_at_call 31; (with_reducible refine (HR3.out _).mono ?_); rintro e w5 ⟨rfl, hb⟩; have hw := hw.on hb))
    go_meet
    case rel => exact ⟨rfl, hw⟩
  case rest =>
    obtain ⟨rfl, hw⟩ := hcut
    go_wp2_with (first
      | (go_at_call 30; (with_reducible refine (HPP.out _).mono ?_); rintro e w4 ⟨rfl, rfl⟩)
      | (go_at_call 30; (with_reducible refine (HPD.out _).mono ?_); rintro e w4 ⟨rfl, rfl⟩)
      | (go_at_call 30; (with_reducible refine (HPE.out _).mono ?_); rintro e w4 ⟨rfl, rfl⟩)
      | (go_at_call 30; (with_reducible refine (HDP.out _).mono ?_); rintro e w4 ⟨rfl, rfl⟩)
      | (go_at_call 30; (with_reducible refine (HCY.out _).mono ?_); rintro e w4 ⟨rfl, rfl⟩)
      | (go_at_call 27; (with_reducible refine (HRD.out _).mono ?_); rintro e w6 ⟨rfl, hb⟩; have hw := hw.on hb))
    go_ret
    exact ⟨rfl, hw.below⟩


theorem contract (H : Type) (enc : TypeId × Value → H) (W : World) (base : Nat) (args : Array Value) (ds gs : List (DataW H)) (before : List MemPlace)
    (hval : ∀ (j : Nat) t v, Tryd.f6.params[j]? = some t → args[j]? = some v → Value.okWide Tryd.prog W .any base t v)
    (hW : DataW.Whole enc Tryd.prog Tryd.f6.params.toList Rows.pathsUnderSpec.vars false W args.toList ds gs before) (hT : Tab W) :
    Calls Tryd.prog 6 args W fun e W' => ∃ v, e = .returned v ∧ Rows.pathsUnderSpec.post enc Tryd.prog Tryd.f6 false true false false W args v W' := by
  have hW' := hW
  obtain ⟨p, q, hA0, hV, rfl, hfz, hnd⟩ := hW
  have hA : DataW.TrodAll enc Tryd.prog W 0 (fun _ => true) true Tryd.f6.params.toList args.toList ds p := hA0
  rw [Tryd.params6] at hA hval
  obtain ⟨v0, vs0, d0, ds0, p0, q0, e0, rfl, rfl, h0, r0⟩ := trodAll_cons hA
  obtain ⟨v1, vs1, d1, ds1, p1, q1, e1, rfl, rfl, h1, r1⟩ := trodAll_cons r0
  obtain ⟨v2, vs2, d2, ds2, p2, q2, e2, rfl, rfl, h2, r2⟩ := trodAll_cons r1
  obtain ⟨rfl, rfl, rfl⟩ := trodAll_nil r2
  obtain rfl : args = #[v0, v1, v2] := by cases args; simp_all
  obtain ⟨rfl, rfl⟩ := trodVars_none hV
  obtain ⟨A, zs, c, rfl, hI, hn⟩ := open_intl h0 (hval 0 22 v0 rfl rfl)
  obtain ⟨A2, ms, c2, rfl, hI2, hn2⟩ := open_intl h1 (hval 1 22 v1 rfl rfl)
  obtain ⟨q0, q1, q2, rfl⟩ := open_triple (hval 2 23 v2 rfl rfl) h2
  refine (walk A zs c A2 ms c2 q0 q1 q2 W hT hI hn hI2 hn2).mono fun e W' ⟨he, hb⟩ => ⟨_, he, law_post rfl rfl ?_ rfl rfl rfl hW' hb⟩
  rw [Tryd.params6]
  intro t ht
  have ht' : t = 22 ∨ t = 23 := by simpa using ht
  rcases ht' with rfl | rfl <;> exact ⟨by kernel_rfl, of_decide_eq_true (by kernel_rfl)⟩

theorem laid_met (os : Os) : laidMet Tryd.prog Rows.pathsUnderRow.laid ((laidWorld os).forCall (fun _ _ => 0) ⟨#[], #[.slice none 0 0, .slice none 0 0, .agg #[.int .i64 0, .int .i64 0, .int .i64 0]], []⟩).memory :=
  laidMet_of_run' 8 (by kernel_rfl) (by kernel_rfl)
theorem reads (os : Os) {H : Type} (enc : TypeId × Value → H) : ∃ ds places, DataW.whole enc Tryd.prog ((laidWorld os).forCall (fun _ _ => 0) ⟨#[], #[.slice none 0 0, .slice none 0 0, .agg #[.int .i64 0, .int .i64 0, .int .i64 0]], []⟩).memory Tryd.f6.params.toList Rows.pathsUnderSpec.vars false (#[.slice none 0 0, .slice none 0 0, .agg #[.int .i64 0, .int .i64 0, .int .i64 0]] : Array Value).toList 8 = some (ds, [], places) ∧ Rows.uptoSmall H (ds ++ []) = true :=
  ⟨[.nil, .nil, .agg [.lit (.int .i64 0), .lit (.int .i64 0), .lit (.int .i64 0)]], [], by kernel_rfl, by kernel_rfl⟩

set_option maxRecDepth 100000 in
theorem lifted (os : Os) (started : os.Started) (H : Type) (enc : TypeId × Value → H) (F : Stop.Interp) :
    ReturnsInHanded {} Tryd.checked os 6 .any ((OpenSpec.ofChange Rows.pathsUnderSpec).preRow enc Tryd.prog Tryd.f6 Rows.pathsUnderRow.domain false Rows.pathsUnderRow.laid) (((OpenSpec.ofChange Rows.pathsUnderSpec).at F).post enc Tryd.prog Tryd.f6 false true false false) := by
  obtain ⟨ds, places, hx, hsm⟩ := reads os enc
  refine returnsInHanded_of_row (C := Tryd.checked) (s := (OpenSpec.ofChange Rows.pathsUnderSpec)) ownKnob_none started (by kernel_rfl) Tryd.func6
    (witness_row_at (enc := enc) (C := Tryd.checked) false (laidWorld os) #[.slice none 0 0, .slice none 0 0, .agg #[.int .i64 0, .int .i64 0, .int .i64 0]] rfl (by kernel_rfl) (by kernel_rfl) (by kernel_rfl)
      (OpenSpec.preRow_of_cond 8 hx (by kernel_rfl) (fun k hk => by cases hk) (by kernel_rfl) (laid_met os))) ?_
  intro W base args ds gs before hval hW _ _ _ hL _ _
  exact contract H enc W base args ds gs before hval hW (tab_of_laid hL)

theorem said : Rows.PathsUnderSaid :=
  OpenClaim.holds_of_cond 6 Tryd.f6 rfl rfl rfl rfl rfl rfl rfl ⟨rfl, rfl, rfl, rfl, rfl⟩ rfl rfl rfl rfl rfl (by kernel_rfl) Tryd.func6 (by kernel_rfl)
    (of_decide_eq_true (by kernel_rfl)) (by unfold Func.isWrapper; first | (rw [if_pos (by decide +kernel)]; kernel_rfl) | (rw [if_neg (by decide +kernel)]; exact ⟨rfl, rfl⟩))
    (fun os started H enc _ F => by rw [OpenClaim.pre_eq_preRow]; exact lifted os started H enc F)

theorem plain (f : FuncId) (fn : Func) (hf : Tryd.pinned.checked.prog.funcNamed "mainline/mainlinelaw03.PathsUnder" = some f) (hfn : Tryd.pinned.checked.prog.funcs[f]? = some fn) :
    false = Tryd.pinned.checked.prog.looks [] ∧ ∀ (j : Nat) t, fn.params[j]? = some t → Tryd.pinned.checked.prog.wantsStandIn t = false := by
  obtain rfl : f = 6 := Option.some.inj ((show Tryd.prog.funcNamed "mainline/mainlinelaw03.PathsUnder" = some 6 by kernel_rfl).symm.trans hf) |>.symm
  obtain rfl : fn = Tryd.f6 := (Option.some.inj (Tryd.func6.symm.trans hfn)).symm
  refine ⟨by kernel_rfl, fun j t ht => ?_⟩
  rw [Tryd.params6] at ht
  have hm : t ∈ [22, 23] := by have := Array.mem_of_getElem? ht; simpa using this
  have hall : ([22, 23].all fun u => !Tryd.prog.wantsStandIn u) = true := by kernel_rfl
  exact (show Tryd.prog.wantsStandIn t = false by simpa using List.all_eq_true.1 hall t hm)

theorem card : Rows.PathsUnderCardSaid :=
  Claim7.holds_tied_plain_at .later [] _ _ _ _ said (fun _ h => by cases h) (by kernel_rfl) (fun _ h => by cases h) pathsUnder_row_tie rfl ⟨rfl, rfl⟩ (by kernel_rfl) rfl plain (by kernel_rfl)

end Go.Proofs.YtdbikaffmpkgpaaDoor.lunder
