/- PathsLess: for all strings (numbers that make two paths, and changes of them), Less is the reference's; exactly one of two different ones comes first. -/
import Derived.Test.YtdbikaffmpkgpaaDoorLaws
import Derived.Test.YtdbikaffmpkgpaaDoorRefLess
import Derived.Lib.QuietBelow
import Derived.Deep.CutRange
namespace Go.Proofs.YtdbikaffmpkgpaaDoor.lless
open Go.ChangeShapes Go.WideShapes Go.ChangeAt Go.RowKit

theorem Ints.take {w : World} {B : Nat} {A : Option Addr} {c : Nat} {zs : List Int} (k : Nat) (hk : k ≤ zs.length) (h : Ints w B A c zs) : ∃ A', (∀ W, (Instr.slice 22 (.slice A zs.length c) none (some (.int .i64 (k : Int))) none).run Tryd.prog W = .ok (.slice A' k c) W) ∧ Ints w B A' c (zs.take k) ∧ (zs.take k).length = k := by
  obtain ⟨A', h1, h2⟩ := cut_h 22 3 1 Tryd.underlying22 (fun _ => by kernel_rfl) A zs.length c k hk h.2.1
  refine ⟨A', h1, ?_, by rw [List.length_take]; omega⟩
  have := h2 w B _ h
  unfold Ints intC
  rw [List.length_take, Nat.min_eq_left hk, List.map_take, ← Nat.mul_one k]
  simpa [intC] using this
theorem less_irrefl : ∀ a : List UInt8, lessB a a = false
  | [] => rfl
  | c :: a => by rw [lessB, if_pos rfl]; exact less_irrefl a
theorem less_total : ∀ a b : List UInt8, a ≠ b → lessB b a = !lessB a b
  | [], [], h => absurd rfl h
  | [], _ :: _, _ => rfl
  | _ :: _, [], _ => rfl
  | c :: a, d :: b, h => by
    rw [lessB, lessB]
    by_cases hcd : c = d
    · subst hcd
      rw [if_pos rfl, if_pos rfl]
      exact less_total a b (fun e => h (by rw [e]))
    · rw [if_neg hcd, if_neg (fun e => hcd e.symm)]
      by_cases h47 : c = 47 ∨ d = 47
      · rw [if_pos h47, if_pos h47.symm]
        rcases h47 with rfl | rfl
        · rw [decide_eq_true rfl, decide_eq_false (fun e => hcd e.symm)]; rfl
        · rw [decide_eq_true rfl, decide_eq_false hcd]; rfl
      · rw [if_neg h47, if_neg (fun e => h47 e.symm)]
        have h1 : c.toNat ≠ d.toNat := fun e => hcd (UInt8.toNat_inj.1 e)
        by_cases hlt : c < d
        · rw [decide_eq_true hlt, decide_eq_false (UInt8.not_lt.2 (UInt8.le_of_lt hlt))]; rfl
        · have : d < c := by
            rw [UInt8.lt_iff_toNat_lt] at hlt ⊢
            omega
          rw [decide_eq_false hlt, decide_eq_true this]; rfl

set_option maxRecDepth 100000 in
set_option maxHeartbeats 8000000 in
theorem walk (A : Option Addr) (zs : List Int) (c : Nat) (A2 : Option Addr) (ms : List Int) (c2 : Nat) (q0 q1 q2 : Int) (w : World) (hT : Tab w) (hA : Ints w w.heap.size A c zs) (hn : zs.length ≤ maxLen) (hA2 : Ints w w.heap.size A2 c2 ms) (hn2 : ms.length ≤ maxLen) :
    Calls Tryd.prog 7 #[.slice A zs.length c, .slice A2 ms.length c2, .agg #[.int .i64 q0, .int .i64 q1, .int .i64 q2]] w (BoolB w true) := by
  have OX := Lib.hid (fun (W : World) (h : Way w W) => odd_any w.heap.size A zs c q0 q1 q2 W (Row.below hA h.below (Nat.le_refl _)) h.below.size hn)
  have MY := fun (W : World) (h : Way w W) => made_any w.heap.size A2 ms c2 W (Row.below hA2 h.below (Nat.le_refl _)) h.below.size hn2
  obtain ⟨hf, ehf⟩ : ∃ k, zs.length / 2 = k := ⟨_, rfl⟩
  obtain ⟨A', hcut, hA', htl⟩ := Ints.take hf (by rw [← ehf]; exact Nat.div_le_self _ _) hA
  have OZ := fun (W : World) (h : Way w W) => odd_any w.heap.size A' (zs.take hf) c q2 q0 q1 W (Row.below hA' h.below (Nat.le_refl _)) h.below.size (by rw [htl]; unfold maxLen at hn ⊢; omega)
  rw [htl] at OZ
  have HOZ := Lib.hid OZ
  have zy := (madeS_size ms).2
  obtain ⟨y, ey⟩ : ∃ p, madeS ms = p := ⟨_, rfl⟩
  rw [ey] at MY zy
  have HMY := Lib.hid MY
  have eqw : wrap64 ((zs.length : Int) / 2) = (hf : Int) := by
    unfold maxLen at hn
    unfold wrap64
    omega
  have eqw2 : IntKind.i64.wrap ((zs.length : Int) / 2) = (hf : Int) := by
    unfold maxLen at hn
    simp [IntKind.wrap, IntKind.bits, IntKind.signed]; omega
  have hf0 : (0 : Int) ≤ (hf : Int) := Int.natCast_nonneg _
  have hf1 : (hf : Int) ≤ (zs.length : Int) := Int.ofNat_le.2 (by rw [← ehf]; exact Nat.div_le_self _ _)
  have hcapz : zs.length ≤ c := hA.2.1
  have hw := Way.start hT
  clear OZ MY ey hA hA2 hA' htl ehf
  go_enter Tryd.func7, Tryd.ntmps7
  go_upto_region 4 with (first
    | (go_at_call 14; (with_reducible refine (sane_any _ ?_).mono ?_); exact (hw.alloc _).tab; rintro e w1 ⟨rfl, hb⟩; (have hF := (Full.new w 23 [.int .i64 q0, .int .i64 q1, .int .i64 q2]).on hb); (have t0 : w1.cell? ⟨w.heap.size, 0, none⟩ = some (.int .i64 q0) := hF.cell 0); (have t1 : w1.cell? ⟨w.heap.size, 1, none⟩ = some (.int .i64 q1) := hF.cell 1); (have t2 : w1.cell? ⟨w.heap.size, 2, none⟩ = some (.int .i64 q2) := hF.cell 2); have hw := (hw.alloc _).on hb)
    | (go_at_call 15; (with_reducible refine (OX.out _ hw).mono ?_); rintro e w2 ⟨x, rfl, hxs, hb⟩; have hw := hw.on hb; have hF := hF.on hb)
    | (go_at_call 18; (with_reducible refine (HMY.out _ hw).mono ?_); rintro e w3 ⟨rfl, hb⟩; have hw := hw.on hb; have hF := hF.on hb))
  have v0 : w3.drew.cell? ⟨w.heap.size, 0, none⟩ = some (.int .i64 q0) := hF.cell 0
  have v1 : w3.drew.cell? ⟨w.heap.size, 1, none⟩ = some (.int .i64 q1) := hF.cell 1
  have v2 : w3.drew.cell? ⟨w.heap.size, 2, none⟩ = some (.int .i64 q2) := hF.cell 2
  have hwd : Way w w3.drew := hw.drewN 1
  have HFD := Lib.hid (show Full w3.drew w.heap.size 23 [.int .i64 q0, .int .i64 q1, .int .i64 q2] from hF)
  clear t0 t1 t2 hF
  go_region_held3 (fun w' => w'.cell? ⟨w.heap.size, 0, none⟩ = some (.int .i64 q0) ∧ w'.cell? ⟨w.heap.size, 1, none⟩ = some (.int .i64 q1) ∧ w'.cell? ⟨w.heap.size, 2, none⟩ = some (.int .i64 q2))
    (first | (with_reducible exact ⟨v0, v1, v2⟩) | (with_reducible exact ⟨n0, n1, n2⟩))
    (first
      | (go_at_call 15; (with_reducible refine (HOZ.out _ hwd).mono ?_); rintro e w4 ⟨z, rfl, hzs, hb⟩; have hw4 := hwd.on hb; have hF4 := HFD.out.on hb; (have n0 : w4.cell? ⟨w.heap.size, 0, none⟩ = some (.int .i64 q0) := hF4.cell 0); (have n1 : w4.cell? ⟨w.heap.size, 1, none⟩ = some (.int .i64 q1) := hF4.cell 1); (have n2 : w4.cell? ⟨w.heap.size, 2, none⟩ = some (.int .i64 q2) := hF4.cell 2)))
  go_wp2_with fail
  obtain ⟨g, hg⟩ : ∃ g, w4.heap.size = g := ⟨_, rfl⟩
  have hF0 := Full.new w4 39 [.string x, .string y, .string z]
  have hw0 := hw4.alloc (.cells #[.string x, .string y, .string z] 39)
  rw [hg] at hF0 ⊢
  have HX := Lib.hid (fun (a b : ByteArray) (ha : a.size ≤ 120) (hb : b.size ≤ 120) => (And.intro (fun W => less_any a b W (by unfold maxLen; omega) (by unfold maxLen; omega)) (fun W => refLess_any a b W (by omega) (by omega))))
  have hall : ∀ i, i < 3 → ∃ s : ByteArray, ([Value.string x, .string y, .string z] : List Value)[i]? = some (.string s) ∧ s.size ≤ 120 := fun i hi => by
    rcases (show i = 0 ∨ i = 1 ∨ i = 2 by omega) with rfl | rfl | rfl
    · exact ⟨x, rfl, by omega⟩
    · exact ⟨y, rfl, by omega⟩
    · exact ⟨z, rfl, by omega⟩
  have HALL := Lib.hid hall
  clear hall v0 v1 v2 n0 n1 n2 hF4 hw4 hwd hg hw
  go_loopw [12] (fun v12 wr => ∃ i : Nat, i ≤ 3 ∧ v12 = .int .i64 i ∧ Way w wr ∧ Full wr g 39 [.string x, .string y, .string z]) (fun v12 _ => 3 - (intOf v12).toNat)
  case atStart => exact ⟨0, by omega, rfl, hw0, hF0⟩
  case round =>
    clear hw0 hF0
    obtain ⟨i, hi, rfl, hw, hF⟩ := hrel
    have i0 : (0 : Int) ≤ (i : Int) := Int.natCast_nonneg _
    by_cases hlt : i < 3
    · have i1 : (i : Int) < 3 := by omega
      obtain ⟨a, ha, has⟩ := HALL.out i hlt
      go_wp2_with fail
      go_loopw [13] (fun v13 wx => ∃ k : Nat, k ≤ 3 ∧ v13 = .int .i64 k ∧ Way w wx ∧ Full wx g 39 [.string x, .string y, .string z]) (fun v13 _ => 3 - (intOf v13).toNat)
      case atStart => exact ⟨0, by omega, rfl, hw, hF⟩
      case round =>
        clear hw hF
        obtain ⟨k, hk, rfl, hw, hF⟩ := hrel
        have k0 : (0 : Int) ≤ (k : Int) := Int.natCast_nonneg _
        by_cases hlt2 : k < 3
        · have k1 : (k : Int) < 3 := by omega
          obtain ⟨b, hb, hbs⟩ := HALL.out k hlt2
          have ca : wr.cell? ⟨g, i, none⟩ = some (.string a) := (hF.cell i).trans ha
          have cb : wr.cell? ⟨g, k, none⟩ = some (.string b) := (hF.cell k).trans hb
          obtain ⟨L1, R1⟩ := HX.out a b has hbs
          obtain ⟨L2, _⟩ := HX.out b a hbs has
          have hirr : a.data.toList = b.data.toList → lessS a b = false := fun e => by unfold lessS; rw [e]; exact less_irrefl _
          have htot : ¬ a.data.toList = b.data.toList → lessS b a = !lessS a b := fun e => less_total _ _ e
          obtain ⟨v, ev⟩ : ∃ v, lessS a b = v := ⟨_, rfl⟩
          obtain ⟨u, eu⟩ : ∃ u, lessS b a = u := ⟨_, rfl⟩
          rw [ev] at L1 R1 hirr htot
          rw [eu] at L2 htot
          have hab := beq_str a b
          have H1 := Lib.hid L1
          have HB2 := Lib.hid (fun (W : World) => (show Calls Tryd.prog 32 #[.string b, .string a] W (BoolB W u) from (L2 W).mono fun e W' ⟨h1, h2⟩ => ⟨h1, below_drawn h2⟩))
          have HR1 := Lib.hid R1
          have HF := Lib.hid hF
          clear L1 R1 L2 ev eu ha hb
          go_wp2_with fail
          go_quiet ((go_at_call 32; exact Calls.quiet_of (H1.out _)))
          obtain ⟨W, hW⟩ : ∃ W, wr.drewN nq = W := ⟨_, rfl⟩
          have hwW : Way w W := by rw [← hW]; exact hw.drewN nq
          have hFW : Full W g 39 [.string x, .string y, .string z] := by rw [← hW]; exact HF.out
          have caW : W.cell? ⟨g, i, none⟩ = some (.string a) := by rw [← hW]; exact ca
          have cbW : W.cell? ⟨g, k, none⟩ = some (.string b) := by rw [← hW]; exact cb
          have ga := fun d os => cell_regrown caW d os
          have gb := fun d os => cell_regrown cbW d os
          rw [hW]
          have HFW := Lib.hid (And.intro hwW hFW)
          clear hW hwW hFW ca cb caW cbW hF hw
          go_wp2_with fail
          by_cases he : a.data.toList = b.data.toList
          · rw [decide_eq_true he] at hab
            obtain rfl : v = false := hirr he
            clear he hirr htot
            refine wp_region_quiet_below (by kernel_rfl) (by kernel_rfl) ?_
            repeat (go_big_quiet_step (first | (go_at_call 33; exact Calls.regrown_of (HR1.out _)) | (go_at_call 32; exact Calls.regrown_of (HB2.out _))))
            refine wpQuiet_nil ?_
            intro w5 hp
            have hb5 : Below W.heap.size W w5 := by
              obtain ⟨p, rfl⟩ := hp
              exact below_regrown _ _ _
            obtain ⟨hwW, hFW⟩ := HFW.out
            have hw5 := hwW.on hb5
            have hF5 := hFW.on hb5
            clear hp hb5 hwW hFW ga gb
            go_wp2_with fail
            go_roundw
            case rel => exact ⟨k + 1, by omega, by go_num, hw5, hF5⟩
            case measure => simp [intOf]; omega
          · rw [decide_eq_false he] at hab
            have hu := htot he
            clear he hirr htot
            cases v with
            | false =>
              obtain rfl : u = true := hu
              refine wp_region_quiet_below (by kernel_rfl) (by kernel_rfl) ?_
              repeat (go_big_quiet_step (first | (go_at_call 33; exact Calls.regrown_of (HR1.out _)) | (go_at_call 32; exact Calls.regrown_of (HB2.out _))))
              refine wpQuiet_nil ?_
              intro w5 hp
              have hb5 : Below W.heap.size W w5 := by
                obtain ⟨p, rfl⟩ := hp
                exact below_regrown _ _ _
              obtain ⟨hwW, hFW⟩ := HFW.out
              have hw5 := hwW.on hb5
              have hF5 := hFW.on hb5
              clear hp hb5 hwW hFW ga gb
              go_wp2_with fail
              go_roundw
              case rel => exact ⟨k + 1, by omega, by go_num, hw5, hF5⟩
              case measure => simp [intOf]; omega
            | true =>
              obtain rfl : u = false := hu
              refine wp_region_quiet_below (by kernel_rfl) (by kernel_rfl) ?_
              repeat (go_big_quiet_step (first | (go_at_call 33; exact Calls.regrown_of (HR1.out _)) | (go_at_call 32; exact Calls.regrown_of (HB2.out _))))
              refine wpQuiet_nil ?_
              intro w5 hp
              have hb5 : Below W.heap.size W w5 := by
                obtain ⟨p, rfl⟩ := hp
                exact below_regrown _ _ _
              obtain ⟨hwW, hFW⟩ := HFW.out
              have hw5 := hwW.on hb5
              have hF5 := hFW.on hb5
              clear hp hb5 hwW hFW ga gb
              go_wp2_with fail
              go_roundw
              case rel => exact ⟨k + 1, by omega, by go_num, hw5, hF5⟩
              case measure => simp [intOf]; omega
        · obtain rfl : k = 3 := by omega
          go_wp2_with fail
          go_roundw
          case rel => exact ⟨i + 1, by omega, by go_num, hw, hF⟩
          case measure => simp [intOf]; omega
    · obtain rfl : i = 3 := by omega
      go_wp2_with fail
      go_ret
      exact ⟨rfl, hw.below⟩

theorem contract (H : Type) (enc : TypeId × Value → H) (W : World) (base : Nat) (args : Array Value) (ds gs : List (DataW H)) (before : List MemPlace)
    (hval : ∀ (j : Nat) t v, Tryd.f7.params[j]? = some t → args[j]? = some v → Value.okWide Tryd.prog W .any base t v)
    (hW : DataW.Whole enc Tryd.prog Tryd.f7.params.toList Rows.pathsLessSpec.vars false W args.toList ds gs before) (hT : Tab W) :
    Calls Tryd.prog 7 args W fun e W' => ∃ v, e = .returned v ∧ Rows.pathsLessSpec.post enc Tryd.prog Tryd.f7 false true false false W args v W' := by
  have hW' := hW
  obtain ⟨p, q, hA0, hV, rfl, hfz, hnd⟩ := hW
  have hA : DataW.TrodAll enc Tryd.prog W 0 (fun _ => true) true Tryd.f7.params.toList args.toList ds p := hA0
  rw [Tryd.params7] at hA hval
  obtain ⟨v0, vs0, d0, ds0, p0, q0, e0, rfl, rfl, h0, r0⟩ := trodAll_cons hA
  obtain ⟨v1, vs1, d1, ds1, p1, q1, e1, rfl, rfl, h1, r1⟩ := trodAll_cons r0
  obtain ⟨v2, vs2, d2, ds2, p2, q2, e2, rfl, rfl, h2, r2⟩ := trodAll_cons r1
  obtain ⟨rfl, rfl, rfl⟩ := trodAll_nil r2
  obtain rfl : args = #[v0, v1, v2] := by cases args; simp_all
  obtain ⟨rfl, rfl⟩ := trodVars_none hV
  obtain ⟨A, zs, c, rfl, hI, hn⟩ := open_intl h0 (hval 0 22 v0 rfl rfl)
  obtain ⟨A2, ms, c2, rfl, hI2, hn2⟩ := open_intl h1 (hval 1 22 v1 rfl rfl)
  obtain ⟨q0, q1, q2, rfl⟩ := open_triple (hval 2 23 v2 rfl rfl) h2
  refine (walk A zs c A2 ms c2 q0 q1 q2 W hT hI hn hI2 hn2).mono fun e W' ⟨he, hb⟩ => ⟨_, he, law_post rfl rfl ?_ rfl rfl rfl hW' hb⟩
  rw [Tryd.params7]
  intro t ht
  have ht' : t = 22 ∨ t = 23 := by simpa using ht
  rcases ht' with rfl | rfl <;> exact ⟨by kernel_rfl, of_decide_eq_true (by kernel_rfl)⟩

theorem laid_met (os : Os) : laidMet Tryd.prog Rows.pathsLessRow.laid ((laidWorld os).forCall (fun _ _ => 0) ⟨#[], #[.slice none 0 0, .slice none 0 0, .agg #[.int .i64 0, .int .i64 0, .int .i64 0]], []⟩).memory :=
  laidMet_of_run' 8 (by kernel_rfl) (by kernel_rfl)
theorem reads (os : Os) {H : Type} (enc : TypeId × Value → H) : ∃ ds places, DataW.whole enc Tryd.prog ((laidWorld os).forCall (fun _ _ => 0) ⟨#[], #[.slice none 0 0, .slice none 0 0, .agg #[.int .i64 0, .int .i64 0, .int .i64 0]], []⟩).memory Tryd.f7.params.toList Rows.pathsLessSpec.vars false (#[.slice none 0 0, .slice none 0 0, .agg #[.int .i64 0, .int .i64 0, .int .i64 0]] : Array Value).toList 8 = some (ds, [], places) ∧ Rows.uptoSmall H (ds ++ []) = true :=
  ⟨[.nil, .nil, .agg [.lit (.int .i64 0), .lit (.int .i64 0), .lit (.int .i64 0)]], [], by kernel_rfl, by kernel_rfl⟩

set_option maxRecDepth 100000 in
theorem lifted (os : Os) (started : os.Started) (H : Type) (enc : TypeId × Value → H) (F : Stop.Interp) :
    ReturnsInHanded {} Tryd.checked os 7 .any ((OpenSpec.ofChange Rows.pathsLessSpec).preRow enc Tryd.prog Tryd.f7 Rows.pathsLessRow.domain false Rows.pathsLessRow.laid) (((OpenSpec.ofChange Rows.pathsLessSpec).at F).post enc Tryd.prog Tryd.f7 false true false false) := by
  obtain ⟨ds, places, hx, hsm⟩ := reads os enc
  refine returnsInHanded_of_row (C := Tryd.checked) (s := (OpenSpec.ofChange Rows.pathsLessSpec)) ownKnob_none started (by kernel_rfl) Tryd.func7
    (witness_row_at (enc := enc) (C := Tryd.checked) false (laidWorld os) #[.slice none 0 0, .slice none 0 0, .agg #[.int .i64 0, .int .i64 0, .int .i64 0]] rfl (by kernel_rfl) (by kernel_rfl) (by kernel_rfl)
      (OpenSpec.preRow_of_cond 8 hx (by kernel_rfl) (fun k hk => by cases hk) (by kernel_rfl) (laid_met os))) ?_
  intro W base args ds gs before hval hW _ _ _ hL _ _
  exact contract H enc W base args ds gs before hval hW (tab_of_laid hL)

theorem said : Rows.PathsLessSaid :=
  OpenClaim.holds_of_cond 7 Tryd.f7 rfl rfl rfl rfl rfl rfl rfl ⟨rfl, rfl, rfl, rfl, rfl⟩ rfl rfl rfl rfl rfl (by kernel_rfl) Tryd.func7 (by kernel_rfl)
    (of_decide_eq_true (by kernel_rfl)) (by unfold Func.isWrapper; first | (rw [if_pos (by decide +kernel)]; kernel_rfl) | (rw [if_neg (by decide +kernel)]; exact ⟨rfl, rfl⟩))
    (fun os started H enc _ F => by rw [OpenClaim.pre_eq_preRow]; exact lifted os started H enc F)

theorem plain (f : FuncId) (fn : Func) (hf : Tryd.pinned.checked.prog.funcNamed "mainline/mainlinelaw03.PathsLess" = some f) (hfn : Tryd.pinned.checked.prog.funcs[f]? = some fn) :
    false = Tryd.pinned.checked.prog.looks [] ∧ ∀ (j : Nat) t, fn.params[j]? = some t → Tryd.pinned.checked.prog.wantsStandIn t = false := by
  obtain rfl : f = 7 := Option.some.inj ((show Tryd.prog.funcNamed "mainline/mainlinelaw03.PathsLess" = some 7 by kernel_rfl).symm.trans hf) |>.symm
  obtain rfl : fn = Tryd.f7 := (Option.some.inj (Tryd.func7.symm.trans hfn)).symm
  refine ⟨by kernel_rfl, fun j t ht => ?_⟩
  rw [Tryd.params7] at ht
  have hm : t ∈ [22, 23] := by have := Array.mem_of_getElem? ht; simpa using this
  have hall : ([22, 23].all fun u => !Tryd.prog.wantsStandIn u) = true := by kernel_rfl
  exact (show Tryd.prog.wantsStandIn t = false by simpa using List.all_eq_true.1 hall t hm)

theorem card : Rows.PathsLessCardSaid :=
  Claim7.holds_tied_plain_at .later [] _ _ _ _ said (fun _ h => by cases h) (by kernel_rfl) (fun _ h => by cases h) pathsLess_row_tie rfl ⟨rfl, rfl⟩ (by kernel_rfl) rfl plain (by kernel_rfl)

end Go.Proofs.YtdbikaffmpkgpaaDoor.lless
