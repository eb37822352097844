/- PathsFollow: in the order of paths, everything under a directory follows each other, the directory first. -/
import Derived.Test.YtdbikaffmpkgpaaDoorLaws
import Derived.Test.YtdbikaffmpkgpaaDoorUnder
import Derived.Deep.CutRange
namespace Go.Proofs.YtdbikaffmpkgpaaDoor.lfollow
open Go.ChangeShapes Go.WideShapes Go.ChangeAt Go.RowKit

theorem less_dir (t : List UInt8) : ∀ d : List UInt8, lessB d (d ++ 47 :: t) = true
  | [] => rfl
  | c :: d => by rw [List.cons_append, lessB, if_pos rfl]; exact less_dir t d
theorem between (s t : List UInt8) : ∀ (d x : List UInt8), lessB (d ++ 47 :: s) x = true → lessB x (d ++ 47 :: t) = true → ∃ r, x = d ++ 47 :: r
  | [], [], h1, _ => by simp [lessB] at h1
  | [], y :: x, _, h2 => by
    rw [List.nil_append, lessB] at h2
    by_cases h : y = 47
    · exact ⟨x, by rw [h]; rfl⟩
    · rw [if_neg h, if_pos (.inr rfl), decide_eq_false h] at h2
      cases h2
  | c :: d, [], h1, _ => by simp [lessB] at h1
  | c :: d, y :: x, h1, h2 => by
    rw [List.cons_append, lessB] at h1
    rw [List.cons_append, lessB] at h2
    by_cases h : c = y
    · subst h
      rw [if_pos rfl] at h1 h2
      obtain ⟨r, hr⟩ := between s t d x h1 h2
      exact ⟨r, by rw [hr]; rfl⟩
    · rw [if_neg h] at h1
      rw [if_neg (fun e => h e.symm)] at h2
      by_cases h47 : c = 47 ∨ y = 47
      · rw [if_pos h47, decide_eq_true_eq] at h1
        rw [if_pos h47.symm, decide_eq_true_eq] at h2
        exact absurd (h1.trans h2.symm) h
      · rw [if_neg h47, decide_eq_true_eq] at h1
        rw [if_neg (fun e => h47 e.symm), decide_eq_true_eq] at h2
        exact absurd h1 (UInt8.not_lt.2 (UInt8.le_of_lt h2))

set_option maxRecDepth 100000 in
set_option maxHeartbeats 8000000 in
theorem walk (A : Option Addr) (zs : List Int) (c : Nat) (A2 : Option Addr) (ms : List Int) (c2 : Nat) (A3 : Option Addr) (ns : List Int) (c3 : Nat) (w : World) (hT : Tab w) (hA : Ints w w.heap.size A c zs) (hn : zs.length ≤ maxLen) (hA2 : Ints w w.heap.size A2 c2 ms) (hn2 : ms.length ≤ maxLen) (hA3 : Ints w w.heap.size A3 c3 ns) (hn3 : ns.length ≤ maxLen) :
    Calls Tryd.prog 8 #[.slice A zs.length c, .slice A2 ms.length c2, .slice A3 ns.length c3] w (BoolB w true) := by
  have MD := fun (W : World) (h : Way w W) => made_any w.heap.size A zs c W (Row.below hA h.below (Nat.le_refl _)) h.below.size hn
  have ML := fun (W : World) (h : Way w W) => made_any w.heap.size A2 ms c2 W (Row.below hA2 h.below (Nat.le_refl _)) h.below.size hn2
  have MM := fun (W : World) (h : Way w W) => made_any w.heap.size A3 ns c3 W (Row.below hA3 h.below (Nat.le_refl _)) h.below.size hn3
  have hd := (madeS_size zs).2
  have hl := (madeS_size ms).2
  have hm := (madeS_size ns).2
  obtain ⟨d, ed⟩ : ∃ p, madeS zs = p := ⟨_, rfl⟩
  obtain ⟨l, el⟩ : ∃ p, madeS ms = p := ⟨_, rfl⟩
  obtain ⟨m, em⟩ : ∃ p, madeS ns = p := ⟨_, rfl⟩
  rw [ed] at MD hd
  rw [el] at ML hl
  rw [em] at MM hm
  obtain ⟨a, ha⟩ : ∃ a, d ++ (⟨#[47]⟩ : ByteArray) ++ l = a := ⟨_, rfl⟩
  obtain ⟨b, hb⟩ : ∃ b, d ++ (⟨#[47]⟩ : ByteArray) ++ m = b := ⟨_, rfl⟩
  obtain ⟨x2, h2⟩ : ∃ x, d ++ (⟨#[45]⟩ : ByteArray) = x := ⟨_, rfl⟩
  obtain ⟨x3, h3⟩ : ∃ x, d ++ (⟨#[97, 47, 98]⟩ : ByteArray) = x := ⟨_, rfl⟩
  have da : a.data.toList = d.data.toList ++ 47 :: l.data.toList := by rw [← ha, app_data, app_data]; simp
  have db : b.data.toList = d.data.toList ++ 47 :: m.data.toList := by rw [← hb, app_data, app_data]; simp
  have za : a.size ≤ 100 := by rw [← ha, ByteArray.size_append, ByteArray.size_append]; have e : (⟨#[47]⟩ : ByteArray).size = 1 := rfl; omega
  have zb : b.size ≤ 100 := by rw [← hb, ByteArray.size_append, ByteArray.size_append]; have e : (⟨#[47]⟩ : ByteArray).size = 1 := rfl; omega
  have z2 : x2.size ≤ 100 := by rw [← h2, ByteArray.size_append]; have e : (⟨#[45]⟩ : ByteArray).size = 1 := rfl; omega
  have z3 : x3.size ≤ 100 := by rw [← h3, ByteArray.size_append]; have e : (⟨#[97, 47, 98]⟩ : ByteArray).size = 3 := rfl; omega
  have k1 : d.size + 1 + l.size ≤ 200 := by omega
  have k2 : d.size + 1 + m.size ≤ 200 := by omega
  have LA := fun W => less_any d a W (by unfold maxLen; omega) (by unfold maxLen; omega)
  rw [show lessS d a = true by unfold lessS; rw [da]; exact less_dir _ _] at LA
  have LB := fun W => less_any d b W (by unfold maxLen; omega) (by unfold maxLen; omega)
  rw [show lessS d b = true by unfold lessS; rw [db]; exact less_dir _ _] at LB
  have HMD := Lib.hid MD
  have HML := Lib.hid ML
  have HMM := Lib.hid MM
  have HLA := Lib.hid LA
  have HLB := Lib.hid LB
  have HX := Lib.hid (fun (x : ByteArray) (hx : x.size ≤ 100) => (And.intro (fun W => less_any a x W (by unfold maxLen; omega) (by unfold maxLen; omega)) (And.intro (fun W => less_any x b W (by unfold maxLen; omega) (by unfold maxLen; omega)) (fun W => under_any x d W (by unfold maxLen; omega) (by unfold maxLen; omega)))))
  have HU := Lib.hid (fun (x : ByteArray) (q1 : lessS a x = true) (q2 : lessS x b = true) => (show underS x d = true by
    unfold lessS at q1 q2
    rw [da] at q1
    rw [db] at q2
    unfold underS
    rw [under_prefix]
    exact .inr (.inr (between _ _ _ _ q1 q2))))
  have hall : ∀ i, i < 4 → ∃ x : ByteArray, ([Value.string l, .string m, .string x2, .string x3] : List Value)[i]? = some (.string x) ∧ x.size ≤ 100 := fun i hi => by
    rcases (show i = 0 ∨ i = 1 ∨ i = 2 ∨ i = 3 by omega) with rfl | rfl | rfl | rfl
    · exact ⟨l, rfl, by omega⟩
    · exact ⟨m, rfl, by omega⟩
    · exact ⟨x2, rfl, z2⟩
    · exact ⟨x3, rfl, z3⟩
  have HALL := Lib.hid hall
  have hw := Way.start hT
  clear MD ML MM LA LB ed el em hA hA2 hA3 da db za zb z2 z3 hall
  go_enter Tryd.func8, Tryd.ntmps8
  go_upto_region 7 with (first
    | (go_at_call 14; (with_reducible refine (sane_any _ hw.tab).mono ?_); rintro e w1 ⟨rfl, hb⟩; have hw := hw.on hb)
    | (go_at_call 18; (with_reducible refine (HMD.out _ hw).mono ?_); rintro e w3 ⟨rfl, hb⟩; have hw := hw.on hb)
    | (go_at_call 18; (with_reducible refine (HML.out _ hw).mono ?_); rintro e w3 ⟨rfl, hb⟩; have hw := hw.on hb)
    | (go_at_call 18; (with_reducible refine (HMM.out _ hw).mono ?_); rintro e w3 ⟨rfl, hb⟩; have hw := hw.on hb)
    | (go_at_call 32; (with_reducible refine (HLA.out _).mono ?_); rintro e w4 ⟨rfl, hq⟩; have hw := hw.on (below_drawn hq))
    | (go_at_call 32; (with_reducible refine (HLB.out _).mono ?_); rintro e w4 ⟨rfl, hq⟩; have hw := hw.on (below_drawn hq)))
  go_wp2_with (first
    | (go_at_call 18; (with_reducible refine (HML.out _ hw).mono ?_); rintro e w5 ⟨rfl, hb⟩; have hw := hw.on hb)
    | (go_at_call 18; (with_reducible refine (HMM.out _ hw).mono ?_); rintro e w6 ⟨rfl, hb⟩; have hw := hw.on hb))
  obtain ⟨g, hg⟩ : ∃ g, w6.heap.size = g := ⟨_, rfl⟩
  have hF0 := Full.new w6 40 [.string l, .string m, .string x2, .string x3]
  rw [hg] at hF0
  have hw0 := hw.alloc (.cells #[.string l, .string m, .string x2, .string x3] 40)
  rw [hg]
  go_loopw [12] (fun v12 wr => ∃ i : Nat, i ≤ 4 ∧ v12 = .int .i64 i ∧ Way w wr ∧ Full wr g 40 [.string l, .string m, .string x2, .string x3]) (fun v12 _ => 4 - (intOf v12).toNat)
  case atStart => exact ⟨0, by omega, rfl, hw0, hF0⟩
  case round =>
    obtain ⟨i, hi, rfl, hw, hF⟩ := hrel
    have hi0 : (0 : Int) ≤ (i : Int) := Int.natCast_nonneg _
    by_cases hlt : i < 4
    · have hi1 : (i : Int) < 4 := by omega
      obtain ⟨x, hx, hxs⟩ := HALL.out i hlt
      have hc : wr.cell? ⟨g, i, none⟩ = some (.string x) := (hF.cell i).trans hx
      obtain ⟨L1, L2, U⟩ := HX.out x hxs
      have hu := HU.out x
      obtain ⟨u, eu⟩ : ∃ u, lessS a x = u := ⟨_, rfl⟩
      obtain ⟨v, ev⟩ : ∃ v, lessS x b = v := ⟨_, rfl⟩
      rw [eu] at L1 hu
      rw [ev] at L2 hu
      have H1 := Lib.hid L1
      have H2 := Lib.hid L2
      clear L1 L2 eu ev hx
      cases u with
      | false =>
        clear hu U
        go_wp2_with (go_at_call 32; (with_reducible refine (H1.out _).mono ?_); rintro e w7 ⟨rfl, hq⟩; (have hb := below_drawn hq); have hw := hw.on hb; have hF := hF.on hb)
        go_roundw
        case rel => exact ⟨i + 1, by omega, by go_num, hw, hF⟩
        case measure => simp [intOf]; omega
      | true =>
        cases v with
        | false =>
          clear hu U
          go_wp2_with (first
            | (go_at_call 32; (with_reducible refine (H1.out _).mono ?_); rintro e w7 ⟨rfl, hq⟩; (have hb := below_drawn hq); have hw := hw.on hb; have hF := hF.on hb)
            | (go_at_call 32; (with_reducible refine (H2.out _).mono ?_); rintro e w8 ⟨rfl, hq⟩; (have hb := below_drawn hq); have hw := hw.on hb; have hF := hF.on hb))
          go_roundw
          case rel => exact ⟨i + 1, by omega, by go_num, hw, hF⟩
          case measure => simp [intOf]; omega
        | true =>
          rw [hu rfl rfl] at U
          have H3 := Lib.hid U
          clear hu U
          go_wp2_with (first
            | (go_at_call 32; (with_reducible refine (H1.out _).mono ?_); rintro e w7 ⟨rfl, hq⟩; (have hb := below_drawn hq); have hw := hw.on hb; have hF := hF.on hb)
            | (go_at_call 32; (with_reducible refine (H2.out _).mono ?_); rintro e w8 ⟨rfl, hq⟩; (have hb := below_drawn hq); have hw := hw.on hb; have hF := hF.on hb)
            | (go_at_call 30; (with_reducible refine (H3.out _).mono ?_); rintro e w9 ⟨rfl, rfl⟩))
          go_roundw
          case rel => exact ⟨i + 1, by omega, by go_num, hw, hF⟩
          case measure => simp [intOf]; omega
    · obtain rfl : i = 4 := by omega
      go_wp2_with fail
      go_ret
      exact ⟨rfl, hw.below⟩

theorem contract (H : Type) (enc : TypeId × Value → H) (W : World) (base : Nat) (args : Array Value) (ds gs : List (DataW H)) (before : List MemPlace)
    (hval : ∀ (j : Nat) t v, Tryd.f8.params[j]? = some t → args[j]? = some v → Value.okWide Tryd.prog W .any base t v)
    (hW : DataW.Whole enc Tryd.prog Tryd.f8.params.toList Rows.pathsFollowSpec.vars false W args.toList ds gs before) (hT : Tab W) :
    Calls Tryd.prog 8 args W fun e W' => ∃ v, e = .returned v ∧ Rows.pathsFollowSpec.post enc Tryd.prog Tryd.f8 false true false false W args v W' := by
  have hW' := hW
  obtain ⟨p, q, hA0, hV, rfl, hfz, hnd⟩ := hW
  have hA : DataW.TrodAll enc Tryd.prog W 0 (fun _ => true) true Tryd.f8.params.toList args.toList ds p := hA0
  rw [Tryd.params8] at hA hval
  obtain ⟨v0, vs0, d0, ds0, p0, q0, e0, rfl, rfl, h0, r0⟩ := trodAll_cons hA
  obtain ⟨v1, vs1, d1, ds1, p1, q1, e1, rfl, rfl, h1, r1⟩ := trodAll_cons r0
  obtain ⟨v2, vs2, d2, ds2, p2, q2, e2, rfl, rfl, h2, r2⟩ := trodAll_cons r1
  obtain ⟨rfl, rfl, rfl⟩ := trodAll_nil r2
  obtain rfl : args = #[v0, v1, v2] := by cases args; simp_all
  obtain ⟨rfl, rfl⟩ := trodVars_none hV
  obtain ⟨A, zs, c, rfl, hI, hn⟩ := open_intl h0 (hval 0 22 v0 rfl rfl)
  obtain ⟨A2, ms, c2, rfl, hI2, hn2⟩ := open_intl h1 (hval 1 22 v1 rfl rfl)
  obtain ⟨A3, ns, c3, rfl, hI3, hn3⟩ := open_intl h2 (hval 2 22 v2 rfl rfl)
  refine (walk A zs c A2 ms c2 A3 ns c3 W hT hI hn hI2 hn2 hI3 hn3).mono fun e W' ⟨he, hb⟩ => ⟨_, he, law_post rfl rfl ?_ rfl rfl rfl hW' hb⟩
  rw [Tryd.params8]
  intro t ht
  have ht' : t = 22 := by simpa using ht
  obtain rfl := ht'
  exact ⟨by kernel_rfl, of_decide_eq_true (by kernel_rfl)⟩

theorem laid_met (os : Os) : laidMet Tryd.prog Rows.pathsFollowRow.laid ((laidWorld os).forCall (fun _ _ => 0) ⟨#[], #[.slice none 0 0, .slice none 0 0, .slice none 0 0], []⟩).memory :=
  laidMet_of_run' 8 (by kernel_rfl) (by kernel_rfl)
theorem reads (os : Os) {H : Type} (enc : TypeId × Value → H) : ∃ ds places, DataW.whole enc Tryd.prog ((laidWorld os).forCall (fun _ _ => 0) ⟨#[], #[.slice none 0 0, .slice none 0 0, .slice none 0 0], []⟩).memory Tryd.f8.params.toList Rows.pathsFollowSpec.vars false (#[.slice none 0 0, .slice none 0 0, .slice none 0 0] : Array Value).toList 8 = some (ds, [], places) ∧ Rows.uptoSmall H (ds ++ []) = true :=
  ⟨[.nil, .nil, .nil], [], by kernel_rfl, by kernel_rfl⟩

set_option maxRecDepth 100000 in
theorem lifted (os : Os) (started : os.Started) (H : Type) (enc : TypeId × Value → H) (F : Stop.Interp) :
    ReturnsInHanded {} Tryd.checked os 8 .any ((OpenSpec.ofChange Rows.pathsFollowSpec).preRow enc Tryd.prog Tryd.f8 Rows.pathsFollowRow.domain false Rows.pathsFollowRow.laid) (((OpenSpec.ofChange Rows.pathsFollowSpec).at F).post enc Tryd.prog Tryd.f8 false true false false) := by
  obtain ⟨ds, places, hx, hsm⟩ := reads os enc
  refine returnsInHanded_of_row (C := Tryd.checked) (s := (OpenSpec.ofChange Rows.pathsFollowSpec)) ownKnob_none started (by kernel_rfl) Tryd.func8
    (witness_row_at (enc := enc) (C := Tryd.checked) false (laidWorld os) #[.slice none 0 0, .slice none 0 0, .slice none 0 0] rfl (by kernel_rfl) (by kernel_rfl) (by kernel_rfl)
      (OpenSpec.preRow_of_cond 8 hx (by kernel_rfl) (fun k hk => by cases hk) (by kernel_rfl) (laid_met os))) ?_
  intro W base args ds gs before hval hW _ _ _ hL _ _
  exact contract H enc W base args ds gs before hval hW (tab_of_laid hL)

theorem said : Rows.PathsFollowSaid :=
  OpenClaim.holds_of_cond 8 Tryd.f8 rfl rfl rfl rfl rfl rfl rfl ⟨rfl, rfl, rfl, rfl, rfl⟩ rfl rfl rfl rfl rfl (by kernel_rfl) Tryd.func8 (by kernel_rfl)
    (of_decide_eq_true (by kernel_rfl)) (by unfold Func.isWrapper; first | (rw [if_pos (by decide +kernel)]; kernel_rfl) | (rw [if_neg (by decide +kernel)]; exact ⟨rfl, rfl⟩))
    (fun os started H enc _ F => by rw [OpenClaim.pre_eq_preRow]; exact lifted os started H enc F)

theorem plain (f : FuncId) (fn : Func) (hf : Tryd.pinned.checked.prog.funcNamed "mainline/mainlinelaw03.PathsFollow" = some f) (hfn : Tryd.pinned.checked.prog.funcs[f]? = some fn) :
    false = Tryd.pinned.checked.prog.looks [] ∧ ∀ (j : Nat) t, fn.params[j]? = some t → Tryd.pinned.checked.prog.wantsStandIn t = false := by
  obtain rfl : f = 8 := Option.some.inj ((show Tryd.prog.funcNamed "mainline/mainlinelaw03.PathsFollow" = some 8 by kernel_rfl).symm.trans hf) |>.symm
  obtain rfl : fn = Tryd.f8 := (Option.some.inj (Tryd.func8.symm.trans hfn)).symm
  refine ⟨by kernel_rfl, fun j t ht => ?_⟩
  rw [Tryd.params8] at ht
  have hm : t ∈ [22] := by have := Array.mem_of_getElem? ht; simpa using this
  have hall : ([22].all fun u => !Tryd.prog.wantsStandIn u) = true := by kernel_rfl
  exact (show Tryd.prog.wantsStandIn t = false by simpa using List.all_eq_true.1 hall t hm)

theorem card : Rows.PathsFollowCardSaid :=
  Claim7.holds_tied_plain_at .later [] _ _ _ _ said (fun _ h => by cases h) (by kernel_rfl) (fun _ h => by cases h) pathsFollow_row_tie rfl ⟨rfl, rfl⟩ (by kernel_rfl) rfl plain (by kernel_rfl)

end Go.Proofs.YtdbikaffmpkgpaaDoor.lfollow
