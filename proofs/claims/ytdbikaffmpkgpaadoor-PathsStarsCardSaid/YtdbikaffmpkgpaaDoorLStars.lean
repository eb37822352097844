/- PathsStars: the pattern ** matches all valid paths; a directory with ** behind it matches what lies under it; what two patterns match, joined, the joined patterns match. -/
import Derived.Test.YtdbikaffmpkgpaaDoorLaws
import Derived.Test.YtdbikaffmpkgpaaDoorGlue
import Derived.Test.YtdbikaffmpkgpaaDoorPattern
import Derived.Deep.CutRange
namespace Go.Proofs.YtdbikaffmpkgpaaDoor.lstars
open Go.ChangeShapes Go.WideShapes Go.ChangeAt Go.RowKit

theorem beq_self (b : Bool) : (b == b) = true := by cases b <;> rfl
theorem Ints.take {w : World} {B : Nat} {A : Option Addr} {c : Nat} {zs : List Int} (k : Nat) (hk : k ≤ zs.length) (h : Ints w B A c zs) : ∃ A', (∀ W, (Instr.slice 22 (.slice A zs.length c) none (some (.int .i64 (k : Int))) none).run Tryd.prog W = .ok (.slice A' k c) W) ∧ Ints w B A' c (zs.take k) ∧ (zs.take k).length = k := by
  obtain ⟨A', h1, h2⟩ := cut_h 22 3 1 Tryd.underlying22 (fun _ => by kernel_rfl) A zs.length c k hk h.2.1
  refine ⟨A', h1, ?_, by rw [List.length_take]; omega⟩
  have := h2 w B _ h
  unfold Ints intC
  rw [List.length_take, Nat.min_eq_left hk, List.map_take, ← Nat.mul_one k]
  simpa [intC] using this
theorem made_comps (zs : List Int) : (comps (madeS zs)).length ≤ 6 := by
  by_cases h : zs = []
  · subst h; decide +kernel
  · have hc : comps (madeS zs) = madeL zs := by
      unfold madeS
      rw [if_neg h]
      exact comps_join (madeL_ne h) (fun x hx => namesL_free x (madeL_mem hx))
    rw [hc]; exact madeL_len zs
theorem pattern_comps (zs : List Int) : (comps (patternS zs)).length ≤ 6 := by
  by_cases h : zs = []
  · subst h; decide +kernel
  · have hc : comps (patternS zs) = patLL zs := by
      unfold patternS
      rw [if_neg h]
      exact comps_join (patLL_ne h) (fun x hx => patsL_free x (patLL_mem hx))
    rw [hc]; exact patLL_len zs
theorem cat_stars (y : ByteArray) : y ++ (⟨#[47, 42, 42]⟩ : ByteArray) = jn y stars := by
  refine Go.WideShapes.bytes_inj ?_
  rw [app_data, jn_data]; rfl
theorem stars_cat (x : ByteArray) : (⟨#[42, 42, 47]⟩ : ByteArray) ++ x = jn stars x := by
  refine Go.WideShapes.bytes_inj ?_
  rw [app_data, jn_data]; rfl

set_option maxRecDepth 100000 in
set_option maxHeartbeats 8000000 in
theorem walk (A : Option Addr) (zs : List Int) (c : Nat) (A2 : Option Addr) (ms : List Int) (c2 : Nat) (A3 : Option Addr) (ns : List Int) (c3 : Nat) (w : World) (hT : Tab w) (hA : Ints w w.heap.size A c zs) (hn : zs.length ≤ maxLen) (hA2 : Ints w w.heap.size A2 c2 ms) (hn2 : ms.length ≤ maxLen) (hA3 : Ints w w.heap.size A3 c3 ns) (hn3 : ns.length ≤ maxLen) :
    Calls Tryd.prog 13 #[.slice A zs.length c, .slice A2 ms.length c2, .slice A3 ns.length c3] w (BoolB w true) := by
  have MX := fun (W : World) (h : Way w W) => made_any w.heap.size A zs c W (Row.below hA h.below (Nat.le_refl _)) h.below.size hn
  have MY := fun (W : World) (h : Way w W) => made_any w.heap.size A2 ms c2 W (Row.below hA2 h.below (Nat.le_refl _)) h.below.size hn2
  have PA := fun (W : World) (h : Way w W) => pattern_any w.heap.size A3 ns c3 W (Row.below hA3 h.below (Nat.le_refl _)) h.below.size hn3
  obtain ⟨hf, ehf⟩ : ∃ k, ns.length / 2 = k := ⟨_, rfl⟩
  obtain ⟨A', hcut, hA', htl⟩ := Ints.take hf (by rw [← ehf]; exact Nat.div_le_self _ _) hA3
  have PB := fun (W : World) (h : Way w W) => pattern_any w.heap.size A' (ns.take hf) c3 W (Row.below hA' h.below (Nat.le_refl _)) h.below.size (by rw [htl]; unfold maxLen at hn3 ⊢; omega)
  rw [htl] at PB
  have vx := madeS_valid zs
  have vy := madeS_valid ms
  have zx := (madeS_size zs).2
  have zy := (madeS_size ms).2
  have za := (patternS_size ns).2
  have zb := (patternS_size (ns.take hf)).2
  have cx := made_comps zs
  have cy := made_comps ms
  have ca := pattern_comps ns
  have cb := pattern_comps (ns.take hf)
  obtain ⟨x, ex⟩ : ∃ p, madeS zs = p := ⟨_, rfl⟩
  obtain ⟨y, ey⟩ : ∃ p, madeS ms = p := ⟨_, rfl⟩
  obtain ⟨a, ea⟩ : ∃ p, patternS ns = p := ⟨_, rfl⟩
  obtain ⟨b, eb⟩ : ∃ p, patternS (ns.take hf) = p := ⟨_, rfl⟩
  rw [ex] at MX vx zx cx
  rw [ey] at MY vy zy cy
  rw [ea] at PA za ca
  rw [eb] at PB zb cb
  have hsz2 : stars.size = 2 := rfl
  have hc1 : (comps stars).length = 1 := by rw [stars_comps]; rfl
  have vyx : validS (jn y x) = true := within_jn (within_all vy) (within_all vx) (by omega) (by omega)
  have m1 := match_stars vx
  have m2 := match_under vx vy (by omega) (by omega)
  have m3 := match_under vyx vy (by omega) (by omega)
  have m3' : underS (jn y x) y = true := by
    unfold underS
    rw [under_prefix]
    exact .inr (.inr ⟨_, jn_data y x⟩)
  rw [m3'] at m3
  have m4 := match_jn (match_stars vy) (match_self vx) (by omega) (by omega) (by omega) (by omega)
  have m5 := match_jn m4 (match_stars vy) (by rw [jn_size]; omega) (by rw [jn_comps, List.length_append]; omega) (by rw [jn_size]; omega) (by rw [jn_comps, List.length_append]; omega)
  have m6 := fun (h1 : matchS a x = true) (h2 : matchS b y = true) => match_jn h1 h2 (by omega) (by omega) (by omega) (by omega)
  have MT := fun (p s : ByteArray) (v : Bool) (hv : matchS p s = v) (h1 : p.size ≤ 300) (h2 : s.size ≤ 300) (W : World) (h : Tab W) => (show Calls Tryd.prog 22 #[.string p, .string s] W (BoolB W v) by
    rw [← hv]
    exact match_any p s W h (by unfold maxLen; omega) (by unfold maxLen; omega))
  have q1 : y ++ (⟨#[47, 42, 42]⟩ : ByteArray) = jn y stars := cat_stars y
  have q2 : y ++ (⟨#[47]⟩ : ByteArray) ++ x = jn y x := rfl
  have q3 : (⟨#[42, 42, 47]⟩ : ByteArray) ++ x = jn stars x := stars_cat x
  have q4 : jn stars x ++ (⟨#[47, 42, 42]⟩ : ByteArray) = jn (jn stars x) stars := cat_stars _
  have q5 : jn y x ++ (⟨#[47]⟩ : ByteArray) ++ y = jn (jn y x) y := rfl
  have q6 : a ++ (⟨#[47]⟩ : ByteArray) ++ b = jn a b := rfl
  have q7 : x ++ (⟨#[47]⟩ : ByteArray) ++ y = jn x y := rfl
  have j1 := jn_size y stars
  have j2 := jn_size y x
  have j3 := jn_size stars x
  have j4 := jn_size (jn stars x) stars
  have j5 := jn_size (jn y x) y
  have j6 := jn_size a b
  have j7 := jn_size x y
  obtain ⟨ys, e1⟩ : ∃ z, jn y stars = z := ⟨_, rfl⟩
  obtain ⟨yx, e2⟩ : ∃ z, jn y x = z := ⟨_, rfl⟩
  obtain ⟨sx, e3⟩ : ∃ z, jn stars x = z := ⟨_, rfl⟩
  rw [e3] at q3 q4 j3 j4 m4 m5
  obtain ⟨sxs, e4⟩ : ∃ z, jn sx stars = z := ⟨_, rfl⟩
  rw [e2] at q2 q5 j2 j5 m3 m4 m5
  obtain ⟨yxy, e5⟩ : ∃ z, jn yx y = z := ⟨_, rfl⟩
  obtain ⟨ab, e6⟩ : ∃ z, jn a b = z := ⟨_, rfl⟩
  obtain ⟨xy, e7⟩ : ∃ z, jn x y = z := ⟨_, rfl⟩
  rw [e1] at q1 j1 m2 m3
  rw [e4] at q4 j4 m5
  rw [e5] at q5 j5 m5
  rw [e6] at q6 j6 m6
  rw [e7] at q7 j7 m6
  have RU := fun W => refUnder_any x y W (by omega) (by omega)
  obtain ⟨u, eu⟩ : ∃ u, underS x y = u := ⟨_, rfl⟩
  rw [eu] at m2 RU
  have hu := beq_self u
  have H1 := Lib.hid (show ∀ W, Tab W → Calls Tryd.prog 22 #[.string ⟨#[42, 42]⟩, .string x] W (BoolB W true) from fun W h => MT _ _ _ m1 (by omega) (by omega) W h)
  have H2 := Lib.hid (fun W h => MT _ _ _ m2 (by omega) (by omega) W h)
  have H3 := Lib.hid (fun W h => MT _ _ _ m3 (by omega) (by omega) W h)
  have H4 := Lib.hid (fun W h => MT _ _ _ m4 (by omega) (by omega) W h)
  have H5 := Lib.hid (fun W h => MT _ _ _ m5 (by omega) (by omega) W h)
  obtain ⟨r1, er1⟩ : ∃ r, matchS a x = r := ⟨_, rfl⟩
  obtain ⟨r2, er2⟩ : ∃ r, matchS b y = r := ⟨_, rfl⟩
  have HAX := Lib.hid (fun W h => MT _ _ _ er1 (by omega) (by omega) W h)
  have HBY := Lib.hid (fun W h => MT _ _ _ er2 (by omega) (by omega) W h)
  have HAB := Lib.hid (fun (h1 : r1 = true) (h2 : r2 = true) W h => MT _ _ _ (m6 (er1.trans h1) (er2.trans h2)) (by omega) (by omega) W h)
  have HRU := Lib.hid RU
  have HMX := Lib.hid MX
  have HMY := Lib.hid MY
  have HPA := Lib.hid PA
  have HPB := Lib.hid PB
  have z1 : y.size + 3 ≤ 100 := by omega
  have z2 : y.size + 1 + x.size ≤ 200 := by omega
  have z3 : 3 + x.size ≤ 100 := by omega
  have z4 : sx.size + 3 ≤ 200 := by omega
  have z5 : yx.size + 1 + y.size ≤ 300 := by omega
  have z6 : a.size + 1 + b.size ≤ 200 := by omega
  have z7 : x.size + 1 + y.size ≤ 200 := by omega
  have eqw : wrap64 ((ns.length : Int) / 2) = (hf : Int) := by
    unfold maxLen at hn3
    unfold wrap64
    omega
  have hf0 : (0 : Int) ≤ (hf : Int) := Int.natCast_nonneg _
  have hf1 : (hf : Int) ≤ (ns.length : Int) := Int.ofNat_le.2 (by rw [← ehf]; exact Nat.div_le_self _ _)
  have hw := Way.start hT
  clear MX MY PA PB MT m1 m2 m3 m4 m5 m6 m3' e1 e2 e3 e4 e5 e6 e7 eu er1 er2 ex ey ea eb vx vy vyx ca cb cx cy j1 j2 j3 j4 j5 j6 j7 hsz2 hc1 RU hA hA2 hA3 hA' htl ehf za zb zx zy
  go_enter Tryd.func13, Tryd.ntmps13
  go_upto_region 6 with (first
    | (go_at_call 14; (with_reducible refine (sane_any _ hw.tab).mono ?_); rintro e w1 ⟨rfl, hb⟩; have hw := hw.on hb)
    | (go_at_call 18; (with_reducible refine (HMX.out _ hw).mono ?_); rintro e w2 ⟨rfl, hb⟩; have hw := hw.on hb)
    | (go_at_call 18; (with_reducible refine (HMY.out _ hw).mono ?_); rintro e w2 ⟨rfl, hb⟩; have hw := hw.on hb)
    | (go_at_call 36; (with_reducible refine (HPA.out _ hw).mono ?_); rintro e w2 ⟨rfl, hb⟩; have hw := hw.on hb)
    | (go_at_call 36; (with_reducible refine (HPB.out _ hw).mono ?_); rintro e w2 ⟨rfl, hb⟩; have hw := hw.on hb))
  go_cut [12] from 26 to 46 (fun s12 wx => s12 = .bool true ∧ Way w wx)
  case first =>
    cases r1 with
    | false =>
      go_wp2_with (go_at_call 22; (with_reducible refine (HAX.out _ hw.tab).mono ?_); rintro e w4 ⟨rfl, hb⟩; have hw := hw.on hb)
      go_meet
      case rel => exact ⟨rfl, hw⟩
    | true =>
      cases r2 with
      | false =>
        go_wp2_with (first
          | (go_at_call 22; (with_reducible refine (HAX.out _ hw.tab).mono ?_); rintro e w4 ⟨rfl, hb⟩; have hw := hw.on hb)
          | (go_at_call 22; (with_reducible refine (HBY.out _ hw.tab).mono ?_); rintro e w4 ⟨rfl, hb⟩; have hw := hw.on hb))
        go_meet
        case rel => exact ⟨rfl, hw⟩
      | true =>
        have HAB2 := Lib.hid (HAB.out rfl rfl)
        go_wp2_with (first
          | (go_at_call 22; (with_reducible refine (HAX.out _ hw.tab).mono ?_); rintro e w4 ⟨rfl, hb⟩; have hw := hw.on hb)
          | (go_at_call 22; (with_reducible refine (HBY.out _ hw.tab).mono ?_); rintro e w4 ⟨rfl, hb⟩; have hw := hw.on hb)
          | (go_at_call 22; (with_reducible refine (HAB2.out _ hw.tab).mono ?_); rintro e w4 ⟨rfl, hb⟩; have hw := hw.on hb))
        go_meet
        case rel => exact ⟨rfl, hw⟩
  case rest =>
    obtain ⟨rfl, hw⟩ := hcut
    go_wp2_with (first
      | (go_at_call 22; (with_reducible refine (H1.out _ hw.tab).mono ?_); rintro e w4 ⟨rfl, hb⟩; have hw := hw.on hb)
      | (go_at_call 22; (with_reducible refine (H2.out _ hw.tab).mono ?_); rintro e w4 ⟨rfl, hb⟩; have hw := hw.on hb)
      | (go_at_call 31; (with_reducible refine (HRU.out _).mono ?_); rintro e w4 ⟨rfl, hb⟩; have hw := hw.on hb)
      | (go_at_call 22; (with_reducible refine (H3.out _ hw.tab).mono ?_); rintro e w4 ⟨rfl, hb⟩; have hw := hw.on hb)
      | (go_at_call 22; (with_reducible refine (H4.out _ hw.tab).mono ?_); rintro e w4 ⟨rfl, hb⟩; have hw := hw.on hb)
      | (go_at_call 22; (with_reducible refine (H5.out _ hw.tab).mono ?_); rintro e w4 ⟨rfl, hb⟩; have hw := hw.on hb))
    go_ret
    exact ⟨rfl, hw.below⟩

theorem contract (H : Type) (enc : TypeId × Value → H) (W : World) (base : Nat) (args : Array Value) (ds gs : List (DataW H)) (before : List MemPlace)
    (hval : ∀ (j : Nat) t v, Tryd.f13.params[j]? = some t → args[j]? = some v → Value.okWide Tryd.prog W .any base t v)
    (hW : DataW.Whole enc Tryd.prog Tryd.f13.params.toList Rows.pathsStarsSpec.vars false W args.toList ds gs before) (hT : Tab W) :
    Calls Tryd.prog 13 args W fun e W' => ∃ v, e = .returned v ∧ Rows.pathsStarsSpec.post enc Tryd.prog Tryd.f13 false true false false W args v W' := by
  have hW' := hW
  obtain ⟨p, q, hA0, hV, rfl, hfz, hnd⟩ := hW
  have hA : DataW.TrodAll enc Tryd.prog W 0 (fun _ => true) true Tryd.f13.params.toList args.toList ds p := hA0
  rw [Tryd.params13] at hA hval
  obtain ⟨v0, vs0, d0, ds0, p0, q0, e0, rfl, rfl, h0, r0⟩ := trodAll_cons hA
  obtain ⟨v1, vs1, d1, ds1, p1, q1, e1, rfl, rfl, h1, r1⟩ := trodAll_cons r0
  obtain ⟨v2, vs2, d2, ds2, p2, q2, e2, rfl, rfl, h2, r2⟩ := trodAll_cons r1
  obtain ⟨rfl, rfl, rfl⟩ := trodAll_nil r2
  obtain rfl : args = #[v0, v1, v2] := by cases args; simp_all
  obtain ⟨rfl, rfl⟩ := trodVars_none hV
  obtain ⟨A, zs, c, rfl, hI, hn⟩ := open_intl h0 (hval 0 22 v0 rfl rfl)
  obtain ⟨A2, ms, c2, rfl, hI2, hn2⟩ := open_intl h1 (hval 1 22 v1 rfl rfl)
  obtain ⟨A3, ns, c3, rfl, hI3, hn3⟩ := open_intl h2 (hval 2 22 v2 rfl rfl)
  refine (walk A zs c A2 ms c2 A3 ns c3 W hT hI hn hI2 hn2 hI3 hn3).mono fun e W' ⟨he, hb⟩ => ⟨_, he, law_post rfl rfl ?_ rfl rfl rfl hW' hb⟩
  rw [Tryd.params13]
  intro t ht
  have ht' : t = 22 := by simpa using ht
  obtain rfl := ht'
  exact ⟨by kernel_rfl, of_decide_eq_true (by kernel_rfl)⟩

theorem laid_met (os : Os) : laidMet Tryd.prog Rows.pathsStarsRow.laid ((laidWorld os).forCall (fun _ _ => 0) ⟨#[], #[.slice none 0 0, .slice none 0 0, .slice none 0 0], []⟩).memory :=
  laidMet_of_run' 8 (by kernel_rfl) (by kernel_rfl)
theorem reads (os : Os) {H : Type} (enc : TypeId × Value → H) : ∃ ds places, DataW.whole enc Tryd.prog ((laidWorld os).forCall (fun _ _ => 0) ⟨#[], #[.slice none 0 0, .slice none 0 0, .slice none 0 0], []⟩).memory Tryd.f13.params.toList Rows.pathsStarsSpec.vars false (#[.slice none 0 0, .slice none 0 0, .slice none 0 0] : Array Value).toList 8 = some (ds, [], places) ∧ Rows.uptoSmall H (ds ++ []) = true :=
  ⟨[.nil, .nil, .nil], [], by kernel_rfl, by kernel_rfl⟩

set_option maxRecDepth 100000 in
theorem lifted (os : Os) (started : os.Started) (H : Type) (enc : TypeId × Value → H) (F : Stop.Interp) :
    ReturnsInHanded {} Tryd.checked os 13 .any ((OpenSpec.ofChange Rows.pathsStarsSpec).preRow enc Tryd.prog Tryd.f13 Rows.pathsStarsRow.domain false Rows.pathsStarsRow.laid) (((OpenSpec.ofChange Rows.pathsStarsSpec).at F).post enc Tryd.prog Tryd.f13 false true false false) := by
  obtain ⟨ds, places, hx, hsm⟩ := reads os enc
  refine returnsInHanded_of_row (C := Tryd.checked) (s := (OpenSpec.ofChange Rows.pathsStarsSpec)) ownKnob_none started (by kernel_rfl) Tryd.func13
    (witness_row_at (enc := enc) (C := Tryd.checked) false (laidWorld os) #[.slice none 0 0, .slice none 0 0, .slice none 0 0] rfl (by kernel_rfl) (by kernel_rfl) (by kernel_rfl)
      (OpenSpec.preRow_of_cond 8 hx (by kernel_rfl) (fun k hk => by cases hk) (by kernel_rfl) (laid_met os))) ?_
  intro W base args ds gs before hval hW _ _ _ hL _ _
  exact contract H enc W base args ds gs before hval hW (tab_of_laid hL)

theorem said : Rows.PathsStarsSaid :=
  OpenClaim.holds_of_cond 13 Tryd.f13 rfl rfl rfl rfl rfl rfl rfl ⟨rfl, rfl, rfl, rfl, rfl⟩ rfl rfl rfl rfl rfl (by kernel_rfl) Tryd.func13 (by kernel_rfl)
    (of_decide_eq_true (by kernel_rfl)) (by unfold Func.isWrapper; first | (rw [if_pos (by decide +kernel)]; kernel_rfl) | (rw [if_neg (by decide +kernel)]; exact ⟨rfl, rfl⟩))
    (fun os started H enc _ F => by rw [OpenClaim.pre_eq_preRow]; exact lifted os started H enc F)

theorem plain (f : FuncId) (fn : Func) (hf : Tryd.pinned.checked.prog.funcNamed "mainline/mainlinelaw03.PathsStars" = some f) (hfn : Tryd.pinned.checked.prog.funcs[f]? = some fn) :
    false = Tryd.pinned.checked.prog.looks [] ∧ ∀ (j : Nat) t, fn.params[j]? = some t → Tryd.pinned.checked.prog.wantsStandIn t = false := by
  obtain rfl : f = 13 := Option.some.inj ((show Tryd.prog.funcNamed "mainline/mainlinelaw03.PathsStars" = some 13 by kernel_rfl).symm.trans hf) |>.symm
  obtain rfl : fn = Tryd.f13 := (Option.some.inj (Tryd.func13.symm.trans hfn)).symm
  refine ⟨by kernel_rfl, fun j t ht => ?_⟩
  rw [Tryd.params13] at ht
  have hm : t ∈ [22] := by have := Array.mem_of_getElem? ht; simpa using this
  have hall : ([22].all fun u => !Tryd.prog.wantsStandIn u) = true := by kernel_rfl
  exact (show Tryd.prog.wantsStandIn t = false by simpa using List.all_eq_true.1 hall t hm)

theorem card : Rows.PathsStarsCardSaid :=
  Claim7.holds_tied_plain_at .later [] _ _ _ _ said (fun _ h => by cases h) (by kernel_rfl) (fun _ h => by cases h) pathsStars_row_tie rfl ⟨rfl, rfl⟩ (by kernel_rfl) rfl plain (by kernel_rfl)

end Go.Proofs.YtdbikaffmpkgpaaDoor.lstars
