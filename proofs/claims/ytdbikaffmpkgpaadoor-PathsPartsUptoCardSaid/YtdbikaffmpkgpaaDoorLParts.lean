/- PathsParts: for all strings (numbers that make a path, a change of it, and an arbitrary string of at most 2^20 bytes), Parts, Dir and Base are the reference's; Dir and Base, joined, give back a string of two components or more. -/
import Derived.Test.YtdbikaffmpkgpaaDoorLaws
import Derived.Test.YtdbikaffmpkgpaaDoorRefD
namespace Go.Proofs.YtdbikaffmpkgpaaDoor.lparts
open Go.ChangeShapes Go.WideShapes Go.ChangeAt Go.RowKit

theorem str_refl (s : ByteArray) : (s.toList == s.toList) = true := by simp
theorem cat_back {s : ByteArray} (h : 1 < (partsL s).length) : dirOf s ++ (⟨#[47]⟩ : ByteArray) ++ baseOf s = s := by
  rcases parts_cases s with q | q | q
  · rw [q.1] at h; exact absurd h (by simp)
  · rw [q.1] at h; exact absurd h (by simp)
  · refine Go.WideShapes.bytes_inj ?_
    rw [app_data, app_data, q.2.2.2]
    simp

set_option maxRecDepth 100000 in
set_option maxHeartbeats 8000000 in
theorem walk (A0 : Option Addr) (zs : List Int) (c0 : Nat) (q0 q1 q2 : Int) (s : ByteArray) (w : World) (hT : Tab w) (hA : Ints w w.heap.size A0 c0 zs) (hn : zs.length ≤ maxLen) (hs : s.size ≤ 1048576) :
    Calls Tryd.prog 5 #[.slice A0 zs.length c0, .agg #[.int .i64 q0, .int .i64 q1, .int .i64 q2], .string s] w (BoolB w true) := by
  have OD := Lib.hid (fun (W : World) (h : Way w W) => odd_any w.heap.size A0 zs c0 q0 q1 q2 W (Row.below hA h.below (Nat.le_refl _)) h.below.size hn)
  have hw := Way.start hT
  go_enter Tryd.func5, Tryd.ntmps5
  go_wp2_with (first
    | (go_at_call 14; (with_reducible refine (sane_any _ ?_).mono ?_); exact (hw.alloc _).tab; rintro e w1 ⟨rfl, hb⟩; (have hF := (Full.new w 23 [.int .i64 q0, .int .i64 q1, .int .i64 q2]).on hb); (have t0 : w1.cell? ⟨w.heap.size, 0, none⟩ = some (.int .i64 q0) := hF.cell 0); (have t1 : w1.cell? ⟨w.heap.size, 1, none⟩ = some (.int .i64 q1) := hF.cell 1); (have t2 : w1.cell? ⟨w.heap.size, 2, none⟩ = some (.int .i64 q2) := hF.cell 2); have hw := (hw.alloc _).on hb; clear hF)
    | (go_at_call 15; (with_reducible refine (OD.out _ hw).mono ?_); rintro e w2 ⟨x, rfl, hx, hb⟩; have hw := hw.on hb))
  obtain ⟨g, hg⟩ : ∃ g, w2.heap.size = g := ⟨_, rfl⟩
  have hF0 := Full.new w2 33 [.string x, .string s]
  rw [hg] at hF0
  have hw0 := hw.alloc (.cells #[.string x, .string s] 33)
  rw [hg]
  clear t0 t1 t2 hA OD
  go_loopw [9] (fun v9 wr => ∃ i : Nat, i ≤ 2 ∧ v9 = .int .i64 i ∧ Way w wr ∧ Full wr g 33 [.string x, .string s]) (fun v9 _ => 2 - (intOf v9).toNat)
  case atStart => exact ⟨0, by omega, rfl, hw0, hF0⟩
  case round =>
    obtain ⟨i, hi, rfl, hw, hF⟩ := hrel
    have hi3 : i = 0 ∨ i = 1 ∨ i = 2 := by omega
    have f0 : wr.cell? ⟨g, 0, none⟩ = some (.string x) := hF.cell 0
    have f1 : wr.cell? ⟨g, 1, none⟩ = some (.string s) := hF.cell 1
    rcases hi3 with rfl | rfl | rfl
    · have P := fun W => parts_any x W (by omega)
      have RP := fun W => refParts_any x W (by omega)
      have hlen := partsL_len x
      have hcat := cat_back (s := x)
      have SS := fun (M : Nat) (A B : Option Addr) (c d : Nat) (W : World) (h1 : Strs W M A c (partsL x)) (h2 : Strs W M B d (partsL x)) => strings_same M A B (partsL x) c d W h1 h2 (by omega)
      have D := fun W => dir_any x W (by unfold maxLen; omega)
      have RD := fun W => refDir_any x W (by omega)
      have B := fun W => base_any x W (by unfold maxLen; omega)
      have RB := fun W => refBase_any x W (by omega)
      obtain ⟨N, hN⟩ : ∃ z9, partsL x = z9 := ⟨_, rfl⟩
      rw [hN] at P RP hlen hcat SS
      obtain ⟨dd, hd⟩ : ∃ z9, dirOf x = z9 := ⟨_, rfl⟩
      rw [hd] at D RD hcat
      obtain ⟨bb, hb⟩ : ∃ z9, baseOf x = z9 := ⟨_, rfl⟩
      rw [hb] at B RB hcat
      have HP := Lib.hid P
      have HRP := Lib.hid RP
      have HSS := Lib.hid SS
      have HD := Lib.hid D
      have HRD := Lib.hid RD
      have HB := Lib.hid B
      have HRB := Lib.hid RB
      have s1 := str_refl dd
      have s2 := str_refl bb
      have s3 := str_refl x
      clear hN hd hb P RP SS D RD B RB
      by_cases h1 : 1 < N.length
      · have hc := hcat h1
        have i1 : (1 : Int) < (N.length : Int) := by omega
        have hz : dd.size + 1 + bb.size ≤ 2097152 := by
          have := congrArg ByteArray.size hc
          rw [ByteArray.size_append, ByteArray.size_append] at this
          have e : (⟨#[47]⟩ : ByteArray).size = 1 := rfl
          omega
        clear hcat h1
        go_wp2_with (first
          | (go_at_call 23; (with_reducible refine (HP.out _).mono ?_); rintro e w3 ⟨A, c, rfl, ho, hb⟩; (have hS := (Strs.own ho).2); have hw := hw.on hb; have hF := hF.on hb; clear ho)
          | (go_at_call 25; (with_reducible refine (HRP.out _).mono ?_); rintro e w4 ⟨B, d, rfl, ho, hb⟩; (have hS := strs_on hS hb); (have hS2 := (Strs.own ho).2); have hw := hw.on hb; have hF := hF.on hb; clear ho)
          | (go_at_call 24; (with_reducible refine (HSS.out _ _ _ _ _ _ hS hS2).mono ?_); rintro e w5 ⟨rfl, hq⟩; (have hb := below_drawn hq); have hw := hw.on hb; have hF := hF.on hb)
          | (go_at_call 26; (with_reducible refine (HD.out _).mono ?_); rintro e w6 ⟨rfl, rfl⟩)
          | (go_at_call 27; (with_reducible refine (HRD.out _).mono ?_); rintro e w7 ⟨rfl, hb⟩; have hw := hw.on hb; have hF := hF.on hb)
          | (go_at_call 28; (with_reducible refine (HB.out _).mono ?_); rintro e w8 ⟨rfl, rfl⟩)
          | (go_at_call 29; (with_reducible refine (HRB.out _).mono ?_); rintro e w9 ⟨rfl, hb⟩; have hw := hw.on hb; have hF := hF.on hb))
        go_roundw
        case rel => exact ⟨1, by omega, rfl, hw, hF⟩
        case measure => simp [intOf]
      · have i1 : ¬ (1 : Int) < (N.length : Int) := by omega
        clear hcat h1
        go_wp2_with (first
          | (go_at_call 23; (with_reducible refine (HP.out _).mono ?_); rintro e w3 ⟨A, c, rfl, ho, hb⟩; (have hS := (Strs.own ho).2); have hw := hw.on hb; have hF := hF.on hb; clear ho)
          | (go_at_call 25; (with_reducible refine (HRP.out _).mono ?_); rintro e w4 ⟨B, d, rfl, ho, hb⟩; (have hS := strs_on hS hb); (have hS2 := (Strs.own ho).2); have hw := hw.on hb; have hF := hF.on hb; clear ho)
          | (go_at_call 24; (with_reducible refine (HSS.out _ _ _ _ _ _ hS hS2).mono ?_); rintro e w5 ⟨rfl, hq⟩; (have hb := below_drawn hq); have hw := hw.on hb; have hF := hF.on hb)
          | (go_at_call 26; (with_reducible refine (HD.out _).mono ?_); rintro e w6 ⟨rfl, rfl⟩)
          | (go_at_call 27; (with_reducible refine (HRD.out _).mono ?_); rintro e w7 ⟨rfl, hb⟩; have hw := hw.on hb; have hF := hF.on hb)
          | (go_at_call 28; (with_reducible refine (HB.out _).mono ?_); rintro e w8 ⟨rfl, rfl⟩)
          | (go_at_call 29; (with_reducible refine (HRB.out _).mono ?_); rintro e w9 ⟨rfl, hb⟩; have hw := hw.on hb; have hF := hF.on hb))
        go_roundw
        case rel => exact ⟨1, by omega, rfl, hw, hF⟩
        case measure => simp [intOf]
    · have P := fun W => parts_any s W (by omega)
      have RP := fun W => refParts_any s W (by omega)
      have hlen := partsL_len s
      have hcat := cat_back (s := s)
      have SS := fun (M : Nat) (A B : Option Addr) (c d : Nat) (W : World) (h1 : Strs W M A c (partsL s)) (h2 : Strs W M B d (partsL s)) => strings_same M A B (partsL s) c d W h1 h2 (by omega)
      have D := fun W => dir_any s W (by unfold maxLen; omega)
      have RD := fun W => refDir_any s W (by omega)
      have B := fun W => base_any s W (by unfold maxLen; omega)
      have RB := fun W => refBase_any s W (by omega)
      obtain ⟨N, hN⟩ : ∃ z9, partsL s = z9 := ⟨_, rfl⟩
      rw [hN] at P RP hlen hcat SS
      obtain ⟨dd, hd⟩ : ∃ z9, dirOf s = z9 := ⟨_, rfl⟩
      rw [hd] at D RD hcat
      obtain ⟨bb, hb⟩ : ∃ z9, baseOf s = z9 := ⟨_, rfl⟩
      rw [hb] at B RB hcat
      have HP := Lib.hid P
      have HRP := Lib.hid RP
      have HSS := Lib.hid SS
      have HD := Lib.hid D
      have HRD := Lib.hid RD
      have HB := Lib.hid B
      have HRB := Lib.hid RB
      have s1 := str_refl dd
      have s2 := str_refl bb
      have s3 := str_refl s
      clear hN hd hb P RP SS D RD B RB
      by_cases h1 : 1 < N.length
      · have hc := hcat h1
        have i1 : (1 : Int) < (N.length : Int) := by omega
        have hz : dd.size + 1 + bb.size ≤ 2097152 := by
          have := congrArg ByteArray.size hc
          rw [ByteArray.size_append, ByteArray.size_append] at this
          have e : (⟨#[47]⟩ : ByteArray).size = 1 := rfl
          omega
        clear hcat h1
        go_wp2_with (first
          | (go_at_call 23; (with_reducible refine (HP.out _).mono ?_); rintro e w3 ⟨A, c, rfl, ho, hb⟩; (have hS := (Strs.own ho).2); have hw := hw.on hb; have hF := hF.on hb; clear ho)
          | (go_at_call 25; (with_reducible refine (HRP.out _).mono ?_); rintro e w4 ⟨B, d, rfl, ho, hb⟩; (have hS := strs_on hS hb); (have hS2 := (Strs.own ho).2); have hw := hw.on hb; have hF := hF.on hb; clear ho)
          | (go_at_call 24; (with_reducible refine (HSS.out _ _ _ _ _ _ hS hS2).mono ?_); rintro e w5 ⟨rfl, hq⟩; (have hb := below_drawn hq); have hw := hw.on hb; have hF := hF.on hb)
          | (go_at_call 26; (with_reducible refine (HD.out _).mono ?_); rintro e w6 ⟨rfl, rfl⟩)
          | (go_at_call 27; (with_reducible refine (HRD.out _).mono ?_); rintro e w7 ⟨rfl, hb⟩; have hw := hw.on hb; have hF := hF.on hb)
          | (go_at_call 28; (with_reducible refine (HB.out _).mono ?_); rintro e w8 ⟨rfl, rfl⟩)
          | (go_at_call 29; (with_reducible refine (HRB.out _).mono ?_); rintro e w9 ⟨rfl, hb⟩; have hw := hw.on hb; have hF := hF.on hb))
        go_roundw
        case rel => exact ⟨2, by omega, rfl, hw, hF⟩
        case measure => simp [intOf]
      · have i1 : ¬ (1 : Int) < (N.length : Int) := by omega
        clear hcat h1
        go_wp2_with (first
          | (go_at_call 23; (with_reducible refine (HP.out _).mono ?_); rintro e w3 ⟨A, c, rfl, ho, hb⟩; (have hS := (Strs.own ho).2); have hw := hw.on hb; have hF := hF.on hb; clear ho)
          | (go_at_call 25; (with_reducible refine (HRP.out _).mono ?_); rintro e w4 ⟨B, d, rfl, ho, hb⟩; (have hS := strs_on hS hb); (have hS2 := (Strs.own ho).2); have hw := hw.on hb; have hF := hF.on hb; clear ho)
          | (go_at_call 24; (with_reducible refine (HSS.out _ _ _ _ _ _ hS hS2).mono ?_); rintro e w5 ⟨rfl, hq⟩; (have hb := below_drawn hq); have hw := hw.on hb; have hF := hF.on hb)
          | (go_at_call 26; (with_reducible refine (HD.out _).mono ?_); rintro e w6 ⟨rfl, rfl⟩)
          | (go_at_call 27; (with_reducible refine (HRD.out _).mono ?_); rintro e w7 ⟨rfl, hb⟩; have hw := hw.on hb; have hF := hF.on hb)
          | (go_at_call 28; (with_reducible refine (HB.out _).mono ?_); rintro e w8 ⟨rfl, rfl⟩)
          | (go_at_call 29; (with_reducible refine (HRB.out _).mono ?_); rintro e w9 ⟨rfl, hb⟩; have hw := hw.on hb; have hF := hF.on hb))
        go_roundw
        case rel => exact ⟨2, by omega, rfl, hw, hF⟩
        case measure => simp [intOf]
    · go_wp2_with fail
      go_ret
      exact ⟨rfl, hw.below⟩

theorem short {H : Type} {d0 d1 : DataW H} {s : ByteArray} (hk : Rows.uptoSmall H [d0, d1, .lit (.string s.data.toList)] = true) : s.size ≤ 1048576 := by
  have h : Rows.uptoBulkAll [d0, d1, DataW.lit (H := H) (.string s.data.toList)] ≤ 1048576 := of_decide_eq_true hk
  simp only [Rows.uptoBulkAll, Rows.uptoBulk] at h
  have e : s.data.toList.length = s.size := by rw [Array.length_toList]; rfl
  omega

theorem contract (H : Type) (enc : TypeId × Value → H) (W : World) (base : Nat) (args : Array Value) (ds gs : List (DataW H)) (before : List MemPlace)
    (hval : ∀ (j : Nat) t v, Tryd.f5.params[j]? = some t → args[j]? = some v → Value.okWide Tryd.prog W .any base t v)
    (hW : DataW.Whole enc Tryd.prog Tryd.f5.params.toList Rows.pathsPartsSpec.vars false W args.toList ds gs before) (hT : Tab W) (hk : Rows.uptoSmall H (ds ++ gs) = true) :
    Calls Tryd.prog 5 args W fun e W' => ∃ v, e = .returned v ∧ Rows.pathsPartsSpec.post enc Tryd.prog Tryd.f5 false true false false W args v W' := by
  have hW' := hW
  obtain ⟨p, q, hA0, hV, rfl, hfz, hnd⟩ := hW
  have hA : DataW.TrodAll enc Tryd.prog W 0 (fun _ => true) true Tryd.f5.params.toList args.toList ds p := hA0
  rw [Tryd.params5] at hA hval
  obtain ⟨v0, vs0, d0, ds0, p0, q0, e0, rfl, rfl, h0, r0⟩ := trodAll_cons hA
  obtain ⟨v1, vs1, d1, ds1, p1, q1, e1, rfl, rfl, h1, r1⟩ := trodAll_cons r0
  obtain ⟨v2, vs2, d2, ds2, p2, q2, e2, rfl, rfl, h2, r2⟩ := trodAll_cons r1
  obtain ⟨rfl, rfl, rfl⟩ := trodAll_nil r2
  obtain rfl : args = #[v0, v1, v2] := by cases args; simp_all
  obtain ⟨rfl, rfl⟩ := trodVars_none hV
  obtain ⟨A, zs, c, rfl, hI, hn⟩ := open_intl h0 (hval 0 22 v0 rfl rfl)
  obtain ⟨q0, q1, q2, rfl⟩ := open_triple (hval 1 23 v1 rfl rfl) h1
  obtain ⟨s, rfl, rfl, rfl, hs⟩ := Go.ChangeMaps.open_string Tryd.underlying9 (hval 2 9 v2 rfl rfl) h2
  have hk' : Rows.uptoSmall H [d0, d1, .lit (.string s.data.toList)] = true := by simpa only [List.append_nil] using hk
  refine (walk A zs c q0 q1 q2 s W hT hI hn (short hk')).mono fun e W' ⟨he, hb⟩ => ⟨_, he, law_post rfl rfl ?_ rfl rfl rfl hW' hb⟩
  rw [Tryd.params5]
  intro t ht
  have ht' : t = 22 ∨ t = 23 ∨ t = 9 := by simpa using ht
  rcases ht' with rfl | rfl | rfl <;> exact ⟨by kernel_rfl, of_decide_eq_true (by kernel_rfl)⟩

theorem laid_met (os : Os) : laidMet Tryd.prog Rows.pathsPartsRow.laid ((laidWorld os).forCall (fun _ _ => 0) ⟨#[], #[.slice none 0 0, .agg #[.int .i64 0, .int .i64 0, .int .i64 0], .string ⟨#[]⟩], []⟩).memory :=
  laidMet_of_run' 8 (by kernel_rfl) (by kernel_rfl)
theorem reads (os : Os) {H : Type} (enc : TypeId × Value → H) : ∃ ds places, DataW.whole enc Tryd.prog ((laidWorld os).forCall (fun _ _ => 0) ⟨#[], #[.slice none 0 0, .agg #[.int .i64 0, .int .i64 0, .int .i64 0], .string ⟨#[]⟩], []⟩).memory Tryd.f5.params.toList Rows.pathsPartsSpec.vars false (#[.slice none 0 0, .agg #[.int .i64 0, .int .i64 0, .int .i64 0], .string ⟨#[]⟩] : Array Value).toList 8 = some (ds, [], places) ∧ Rows.uptoSmall H (ds ++ []) = true :=
  ⟨[.nil, .agg [.lit (.int .i64 0), .lit (.int .i64 0), .lit (.int .i64 0)], .lit (.string [])], [], by kernel_rfl, by kernel_rfl⟩

set_option maxRecDepth 100000 in
theorem lifted (os : Os) (started : os.Started) (H : Type) (enc : TypeId × Value → H) (F : Stop.Interp) :
    ReturnsInHanded {} Tryd.checked os 5 .any ((Rows.OpenSpec.upto Rows.pathsPartsSpec).preRow enc Tryd.prog Tryd.f5 Rows.pathsPartsUptoRow.domain false Rows.pathsPartsUptoRow.laid) (((Rows.OpenSpec.upto Rows.pathsPartsSpec).at F).post enc Tryd.prog Tryd.f5 false true false false) := by
  obtain ⟨ds, places, hx, hsm⟩ := reads os enc
  refine returnsInHanded_of_row (C := Tryd.checked) (s := (Rows.OpenSpec.upto Rows.pathsPartsSpec)) ownKnob_none started (by kernel_rfl) Tryd.func5
    (witness_row_at (enc := enc) (C := Tryd.checked) false (laidWorld os) #[.slice none 0 0, .agg #[.int .i64 0, .int .i64 0, .int .i64 0], .string ⟨#[]⟩] rfl (by kernel_rfl) (by kernel_rfl) (by kernel_rfl)
      (OpenSpec.preRow_of_cond 8 hx (by kernel_rfl) (fun k hk => by cases hk; exact hsm) (by kernel_rfl) (laid_met os))) ?_
  intro W base args ds gs before hval hW _ hk _ hL _ _
  exact contract H enc W base args ds gs before hval hW (tab_of_laid hL) (hk _ rfl)

theorem said : Rows.PathsPartsUptoSaid :=
  OpenClaim.holds_of_cond 5 Tryd.f5 rfl rfl rfl rfl rfl rfl rfl ⟨rfl, rfl, rfl, rfl, rfl⟩ rfl rfl rfl rfl rfl (by kernel_rfl) Tryd.func5 (by kernel_rfl)
    (of_decide_eq_true (by kernel_rfl)) (by unfold Func.isWrapper; first | (rw [if_pos (by decide +kernel)]; kernel_rfl) | (rw [if_neg (by decide +kernel)]; exact ⟨rfl, rfl⟩))
    (fun os started H enc _ F => by rw [OpenClaim.pre_eq_preRow]; exact lifted os started H enc F)

theorem plain (f : FuncId) (fn : Func) (hf : Tryd.pinned.checked.prog.funcNamed "mainline/mainlinelaw03.PathsParts" = some f) (hfn : Tryd.pinned.checked.prog.funcs[f]? = some fn) :
    false = Tryd.pinned.checked.prog.looks [] ∧ ∀ (j : Nat) t, fn.params[j]? = some t → Tryd.pinned.checked.prog.wantsStandIn t = false := by
  obtain rfl : f = 5 := Option.some.inj ((show Tryd.prog.funcNamed "mainline/mainlinelaw03.PathsParts" = some 5 by kernel_rfl).symm.trans hf) |>.symm
  obtain rfl : fn = Tryd.f5 := (Option.some.inj (Tryd.func5.symm.trans hfn)).symm
  refine ⟨by kernel_rfl, fun j t ht => ?_⟩
  rw [Tryd.params5] at ht
  have hm : t ∈ [22, 23, 9] := by have := Array.mem_of_getElem? ht; simpa using this
  have hall : ([22, 23, 9].all fun u => !Tryd.prog.wantsStandIn u) = true := by kernel_rfl
  exact (show Tryd.prog.wantsStandIn t = false by simpa using List.all_eq_true.1 hall t hm)

theorem card : Rows.PathsPartsUptoCardSaid :=
  Claim7.holds_tied_plain_at .later [] _ _ _ _ said (fun _ h => by cases h) (by kernel_rfl) (fun _ h => by cases h) pathsPartsUpto_row_tie rfl ⟨rfl, rfl⟩ (by kernel_rfl) rfl plain (by kernel_rfl)

end Go.Proofs.YtdbikaffmpkgpaaDoor.lparts
