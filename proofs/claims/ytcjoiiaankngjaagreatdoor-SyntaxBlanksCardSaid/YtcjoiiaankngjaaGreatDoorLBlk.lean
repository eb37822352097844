import Derived.Test.YtcjoiiaankngjaaGreatDoorB7
import Derived.Test.YtcjoiiaankngjaaGreatDoorTie
namespace Go.Proofs.YtcjoiiaankngjaaGreatDoor.lblk
set_option maxRecDepth 100000
open Go.RowKit Go.ChangeShapes Go.WideShapes
set_option maxHeartbeats 64000000 in
theorem walk (A : Option Addr) (l : List Int) (c : Nat) (A2 : Option Addr) (g : List Int) (c2 : Nat) {w : World} (hL : Laid w) (hI : Ito w) (hP : Row w w.heap.size 1 A l.length c (intsC l)) (hl : l.length ≤ 9223372036854775807) (hP2 : Row w w.heap.size 1 A2 g.length c2 (intsC g)) (hl2 : g.length ≤ 9223372036854775807) :
   Calls Tryz.prog 7 #[.slice A l.length c, .slice A2 g.length c2] w (BoolB w true) := by
 unfold BoolB
 have HSN := Lib.hid (sanity_any hL hI)
 unfold BoolB at HSN
 obtain ⟨X, hX, xa, xl, p1, p2, p3, p4, p5, p6⟩ := blanks l g
 have hsm := mMade_sml l
 obtain ⟨_, zT⟩ := mMade_zero l
 obtain ⟨⟨PL, LT⟩, hMM⟩ : ∃ z, mMade l = z := ⟨_, rfl⟩
 have MD := fun (W : World) (h : Below w.heap.size w W) => made_any (Row.below hP h (Nat.le_refl _)) h.size hl
 rw [hMM] at MD hsm hX p3 zT
 dsimp only at MD hsm hX p3 zT
 obtain ⟨S, hS⟩ : ∃ z, fFile PL LT = z := ⟨_, rfl⟩
 rw [hS] at hsm hX
 have SC := fun (W : World) (base : Nat) (v : Value) (h : BuildAt W base v PL LT) => (show Calls Tryz.prog 14 #[v] W (StrB W (str S)) from by
   obtain ⟨Ap, cp, A', n', c', tl, rfl, hR, hm⟩ := h.rb
   have := rsource_any hR (Nat.le_refl _) (by rw [hm]; exact hsm.2.2)
   rw [hm, hS] at this
   exact this)
 have PC := fun W => pieces_any (str S) (by rw [str_size]; have := hsm.2.1; omega) W
 rw [str_data] at PC
 have hps := pcs_sub hsm.1
 have hpn := pcs_len (rToks S 1)
 have htn := (rToks_len S 1).2
 obtain ⟨T, hT⟩ : ∃ z, pcs (rToks S 1) = z := ⟨_, rfl⟩
 rw [hT] at PC hps hpn hX
 have JN := fun (W : World) (hw : Below w.heap.size w W) (At : Option Addr) (ct base : Nat) (ho : W.ownsRow base 9 1 (.slice At T.length ct) T.length (txC T)) => joined20_any (Row.own ho) (Nat.le_refl _) (Row.below hP2 hw (Nat.le_refl _)) hw.size hl2 (by have := hsm.2.1; omega) (fun p hp => by have := (hps p hp).1; have := hsm.2.1; omega)
 rw [hX] at JN
 have PA := fun (W : World) (hw : Below w.heap.size w W) => parsed_any (hL.on hw) (str X) (by rw [str_data]; exact xa) (by rw [str_size]; omega)
 have PB := fun (W : World) => rparsed_any (w := W) (str X) (by rw [str_size]; omega)
 rw [str_data] at PA PB
 have hxl : X.length ≤ 4294967000 := by omega
 have hag := (agree_same (s := X) hxl).2
 obtain ⟨b1, b2, b3⟩ := parse_bounds (s := X) hxl
 obtain ⟨d1, d2, d3⟩ := rparse_bounds (s := X) hxl
 unfold ParsedOut at PA PB
 rw [p1] at PA
 rw [p2] at PB
 obtain ⟨⟨P1, P2⟩, hP12⟩ : ∃ z, (pParse X).1 = z := ⟨_, rfl⟩
 obtain ⟨⟨Q1, Q2⟩, hQ12⟩ : ∃ z, (rParse (rToks X 1)).1 = z := ⟨_, rfl⟩
 rw [hP12] at PA hag b1 b2 b3 p3 p4 p5 p6
 rw [hQ12] at PB hag d1 d2 d3
 dsimp only at PA PB hag b1 b2 b3 d1 d2 d3 p3 p4 p5 p6
 unfold StrB at SC JN
 obtain ⟨Sx, hSx⟩ : ∃ z, str S = z := ⟨_, rfl⟩
 obtain ⟨Xx, hXx⟩ : ∃ z, str X = z := ⟨_, rfl⟩
 rw [hSx] at SC PC
 rw [hXx] at JN PA PB
 have MD := Lib.hid MD
 have SC := Lib.hid SC
 have PC := Lib.hid PC
 have JN := Lib.hid JN
 have PA := Lib.hid PA
 have PB := Lib.hid PB
 have HBD := Lib.hid (And.intro hag (And.intro b1 (And.intro b2 (And.intro b3 (And.intro d1 (And.intro d2 d3))))))
 have HPP := Lib.hid (And.intro p3 (And.intro p4 (And.intro p5 p6)))
 have HZT := Lib.hid (And.intro zT hsm.2.2)
 have HW0 := Lib.hid (Below.refl w.heap.size w)
 clear hL hI hP hP2 hl hl2 hMM hS hsm hps hpn htn hT hSx hXx xa xl p1 p2 p3 p4 p5 p6 hX hxl hag b1 b2 b3 d1 d2 d3 hP12 hQ12 zT
 go_enter Tryz.func7, Tryz.ntmps7
 go_upto_region 4 with (first
   | (go_at_call 13; ((with_reducible refine HSN.out.mono ?_); rintro en wa ⟨rfl, hba⟩; (have HA := Lib.hid hba); clear hba))
   | (go_at_call 15; ((with_reducible refine (MD.out _ HA.out).mono ?_); rintro en wb ⟨bv, rfl, hbv, hbt⟩; (have HB := Lib.hid (show BuildAt wb wa.heap.size bv PL LT ∧ Below w.heap.size w wb from ⟨hbv, Below.then_ HA.out (toBelow hbt)⟩)); clear hbv hbt))
   | (go_at_call 14; ((with_reducible refine (SC.out _ _ _ HB.out.1).mono ?_); rintro en wc ⟨rfl, hbc⟩; (have HC := Lib.hid (show Below w.heap.size w wc from Below.then_ HB.out.2 hbc)); clear hbc))
   | (go_at_call 18; ((with_reducible refine (PC.out _).mono ?_); rintro en wd ⟨At, ct, rfl, hod, hbd⟩; (have HD := Lib.hid (show wd.ownsRow wc.heap.size 9 1 (.slice At T.length ct) T.length (txC T) ∧ Below w.heap.size w wd from ⟨hod, Below.then_ HC.out hbd⟩)); clear hod hbd))
   | (go_at_call 20; ((with_reducible refine (JN.out _ HD.out.2 _ _ _ HD.out.1).mono ?_); rintro en we ⟨rfl, hbe⟩; (have HE := Lib.hid (show Below w.heap.size w we from Below.then_ HD.out.2 hbe)); clear hbe))
   | (fail "arm"))
 go_upto_region 5 with (first
   | (go_at_call 26; ((with_reducible refine (PA.out _ HE.out).mono ?_); rintro en wf ⟨Ap, np, cp, A', n, c', tl, rfl, hR, hm, hb⟩; (have HF := Lib.hid (show RB wf wf.heap.size Ap np cp A' n c' P1 tl ∧ tl.map Prod.fst = P2 ∧ Below w.heap.size w wf from ⟨hR, hm, Below.then_ HE.out hb⟩)); clear hR hm hb))
   | (fail "arm"))
 obtain ⟨w1, hw1⟩ : ∃ v, wf.alloc (.cells #[.slice Ap np cp, .slice A' n c'] 28) = v := ⟨_, rfl⟩
 have kb1 : Below wf.heap.size wf w1 := by rw [← hw1]; exact (Below.refl _ wf).alloc (Nat.le_refl _) _
 have F1 : Full w1 wf.heap.size 28 [.slice Ap np cp, .slice A' n c'] := by rw [← hw1]; exact Full.new wf 28 _
 obtain ⟨t1, ht1⟩ : ∃ t, wf.heap.size = t := ⟨_, rfl⟩
 have H1 := Lib.hid (show Full w1 t1 28 [.slice Ap np cp, .slice A' n c'] ∧ Below wf.heap.size wf w1 from ⟨by rw [← ht1]; exact F1, kb1⟩)
 rw [hw1, ht1]
 clear hw1 ht1 kb1 F1
 go_upto_region 6 with (first
   | (go_at_call 29; ((with_reducible refine (PB.out _).mono ?_); rintro en wg ⟨Aq, nq, cq, A3, n3, c3, tm, rfl, hR, hm, hb⟩; (have HG := Lib.hid (And.intro hR (And.intro hm hb))); clear hR hm hb))
   | (fail "arm"))
 obtain ⟨w2, hw2⟩ : ∃ v, wg.alloc (.cells #[.slice Aq nq cq, .slice A3 n3 c3] 28) = v := ⟨_, rfl⟩
 have kb2 : Below wg.heap.size wg w2 := by rw [← hw2]; exact (Below.refl _ wg).alloc (Nat.le_refl _) _
 have F2 : Full w2 wg.heap.size 28 [.slice Aq nq cq, .slice A3 n3 c3] := by rw [← hw2]; exact Full.new wg 28 _
 obtain ⟨t2, ht2⟩ : ∃ t, wg.heap.size = t := ⟨_, rfl⟩
 rw [ht2] at F2
 have F12 := (H1.out.1.on HG.out.2.2).on kb2
 have k1b : Below wf.heap.size wf w2 := (H1.out.2.trans (HG.out.2.2.mono H1.out.2.size)).trans (kb2.mono (Nat.le_trans H1.out.2.size HG.out.2.2.size))
 have RA : RB w2 w2.heap.size Ap np cp A' n c' P1 tl := (HF.out.1.below k1b (Nat.le_refl _)).more k1b.size
 have RM : RB w2 w2.heap.size Aq nq cq A3 n3 c3 Q1 tm := (HG.out.1.below kb2 (Nat.le_refl _)).more kb2.size
 obtain ⟨g2, b1, b2, b3, d1, d2, d3⟩ := HBD.out
 obtain ⟨p3, p4, p5, p6⟩ := HPP.out
 have ml := congrArg List.length HF.out.2.1
 have mm := congrArg List.length HG.out.2.1
 rw [List.length_map] at ml mm
 have hmem : ∀ q ∈ tl, q.1 ∈ P2 := fun q hq => by rw [← HF.out.2.1]; exact List.mem_map_of_mem hq
 have SM := Same_any (Nat.le_refl _) RA RM b1 d1 (by omega) (by omega) (fun p hp => b3 p.1 (hmem p hp)) (fun p hp => d3 p.1 (by rw [← HG.out.2.1]; exact List.mem_map_of_mem hp))
 rw [HF.out.2.1, HG.out.2.1, g2] at SM
 unfold BoolB at SM
 have PLN := fun (W : World) (hW : Below w2.heap.size w2 W) => plain_any ((RA.below hW (Nat.le_refl _)).more hW.size) (Nat.le_refl _) (by have := RA.hn; omega) (fun q hq i hi => by have := p6 q.1 (hmem q hq) i hi; omega) (by have := RA.hnp; omega)
 have eT : (tl.map fun q => unT q.1) = P2.map unT := by rw [← HF.out.2.1, List.map_map]; rfl
 rw [eT] at PLN
 have SM2 := fun (W : World) (base1 base2 : Nat) (v1 v2 : Value) (h1 : BuildAt W base1 v1 (unl P1) (P2.map unT)) (h2 : BuildAt W base2 v2 PL LT) => (show Calls Tryz.prog 27 #[v1, v2] W (fun e w' => e = .returned (.bool true) ∧ Below W.heap.size W w') from by
   obtain ⟨Ap1, cp1, A1, n1, c1, tl1, rfl, hR1, hm1⟩ := h1.rb
   obtain ⟨Ap2, cp2, A2, n2, c2, tl2, rfl, hR2, hm2⟩ := h2.rb
   have l1 := congrArg List.length hm1
   have l2 := congrArg List.length hm2
   rw [List.length_map, List.length_map] at l1
   rw [List.length_map] at l2
   have hz := HZT.out
   have := Same_any (Nat.le_refl _) hR1 hR2 (by rw [unl_len]; omega) (by have := hz.2.npl; omega) (by omega) (by have := hz.2.nl; omega) (fun p hp i hi => by
     have hm : p.1 ∈ P2.map unT := by rw [← hm1]; exact List.mem_map_of_mem hp
     obtain ⟨U, hU, e⟩ := List.mem_map.1 hm
     rw [← e]
     show (if i < 4 then unl (U.rows i) else []).length ≤ _
     rw [if_pos hi, unl_len]
     have := p6 U hU i hi
     omega) (fun p hp i hi => by
     have hm : p.1 ∈ LT := by rw [← hm2]; exact List.mem_map_of_mem hp
     have := ((hz.1 p.1 hm).2 i hi).1
     omega)
   rw [hm1, hm2, p3] at this
   exact this)
 have HSM := Lib.hid SM
 have HPL := Lib.hid PLN
 have HS2 := Lib.hid SM2
 have HWW := Lib.hid (show Below w.heap.size w w2 from HF.out.2.2.trans (k1b.mono HF.out.2.2.size))
 have x0 : w2.cell? ⟨t1, 0, none⟩ = some (.slice Ap np cp) := F12.cell 0
 have x1 : w2.cell? ⟨t1, 1, none⟩ = some (.slice A' n c') := F12.cell 1
 have y0 : w2.cell? ⟨t2, 0, none⟩ = some (.slice Aq nq cq) := F2.cell 0
 have y1 : w2.cell? ⟨t2, 1, none⟩ = some (.slice A3 n3 c3) := F2.cell 1
 have HF12 := Lib.hid F12
 rw [hw2, ht2]
 clear hw2 ht2 kb2 F2 F12 k1b RA RM g2 b1 b2 b3 d1 d2 d3 p3 p4 p5 p6 ml mm SM PLN SM2 hmem eT HF HG H1 HBD HPP HZT
 go_upto_region 7 with (first
   | (go_at_call 27; ((with_reducible refine HSM.out.mono ?_); rintro en w3 ⟨rfl, hb3⟩; (have HB3 := Lib.hid hb3); (have z0 : w3.cell? ⟨t1, 0, none⟩ = some (.slice Ap np cp) := (HF12.out.on hb3).cell 0); (have z1 : w3.cell? ⟨t1, 1, none⟩ = some (.slice A' n c') := (HF12.out.on hb3).cell 1); clear hb3))
   | (fail "arm"))
 clear x0 x1 y0 y1
 go_upto_region 8 with (first
   | (go_at_call 28; ((with_reducible refine (HPL.out _ HB3.out).mono ?_); rintro en w4 ⟨v4, rfl, hv4, hb4⟩; (have HB4 := Lib.hid (And.intro hv4 (Below.then_ (Below.then_ HWW.out HB3.out) hb4))); clear hv4 hb4))
   | (go_at_call 15; ((with_reducible refine (MD.out _ HB4.out.2).mono ?_); rintro en w5 ⟨v5, rfl, hv5, ht5⟩; (have HB5 := Lib.hid (And.intro (HB4.out.1.off ht5 (fun g e => e.elim)) (And.intro hv5 (Below.then_ HB4.out.2 (toBelow ht5))))); clear hv5 ht5))
   | (go_at_call 27; ((with_reducible refine (HS2.out _ _ _ _ _ HB5.out.1 HB5.out.2.1).mono ?_); rintro en w6 ⟨rfl, hb6⟩; (have HB6 := Lib.hid (Below.then_ HB5.out.2.2 hb6)); clear hb6))
   | (fail "arm"))
 go_wp2
 go_ret
 exact ⟨rfl, HB6.out⟩
theorem contract (H : Type) (enc : TypeId × Value → H) (W : World) (base : Nat) (args : Array Value) (ds gs : List (DataW H)) (before : List MemPlace)
   (hval : ∀ (j : Nat) t v, Tryz.f7.params[j]? = some t → args[j]? = some v → Value.okWide Tryz.prog W .any base t v)
   (hW : DataW.Whole enc Tryz.prog Tryz.f7.params.toList Rows.syntaxBlanksSpec.vars false W args.toList ds gs before) (hT : Laid W ∧ Ito W) :
   Calls Tryz.prog 7 args W fun e W' => ∃ v, e = .returned v ∧ Rows.syntaxBlanksSpec.post enc Tryz.prog Tryz.f7 false true false false W args v W' := by
 have hW' := hW
 obtain ⟨p, q, hA0, hV, rfl, hfz, hnd⟩ := hW
 have hA : DataW.TrodAll enc Tryz.prog W 0 (fun _ => true) true Tryz.f7.params.toList args.toList ds p := hA0
 rw [Tryz.params7] at hA hval
 obtain ⟨v0, vs0, d0, ds0, p0, q0, e0, rfl, rfl, h0, r0⟩ := trodAll_cons hA
 obtain ⟨v1, vs1, d1, ds1, p1, q1, e1, rfl, rfl, h1, r1⟩ := trodAll_cons r0
 obtain ⟨rfl, rfl, rfl⟩ := trodAll_nil r1
 obtain rfl : args = #[v0, v1] := by cases args; simp_all
 obtain ⟨rfl, rfl⟩ := trodVars_none hV
 obtain ⟨A, l, c, rfl, hP, hl⟩ := open_ints h0 (hval 0 22 v0 rfl rfl)
 obtain ⟨A2, g, c2, rfl, hP2, hl2⟩ := open_ints h1 (hval 1 22 v1 rfl rfl)
 refine (walk A l c A2 g c2 hT.1 hT.2 hP hl hP2 hl2).mono fun e W' ⟨he, hb⟩ => ⟨_, he, law_post rfl rfl ?_ rfl rfl rfl hW' hb⟩
 rw [Tryz.params7]
 intro t ht
 have ht' : t = 22 := by
   have h3 : t = 22 ∨ t = 22 := by simpa using ht
   exact h3.elim id id
 obtain rfl := ht'
 exact ⟨by kernel_rfl, of_decide_eq_true (by kernel_rfl)⟩
theorem laid_met (os : Os) : laidMet Tryz.prog Rows.syntaxBlanksRow.laid ((laidWorld os).forCall (fun _ _ => 0) ⟨#[], #[.slice none 0 0, .slice none 0 0], []⟩).memory := laid_run os #[.slice none 0 0, .slice none 0 0]
theorem reads (os : Os) {H : Type} (enc : TypeId × Value → H) : ∃ ds places, DataW.whole enc Tryz.prog ((laidWorld os).forCall (fun _ _ => 0) ⟨#[], #[.slice none 0 0, .slice none 0 0], []⟩).memory Tryz.f7.params.toList Rows.syntaxBlanksSpec.vars false (#[.slice none 0 0, .slice none 0 0] : Array Value).toList 8 = some (ds, [], places) ∧ Rows.uptoSmall H (ds ++ []) = true :=
 ⟨[.nil, .nil], [], by kernel_rfl, by kernel_rfl⟩
set_option maxRecDepth 100000 in
theorem lifted (os : Os) (started : os.Started) (H : Type) (enc : TypeId × Value → H) (F : Stop.Interp) :
   ReturnsInHanded {} Tryz.checked os 7 .any ((OpenSpec.ofChange Rows.syntaxBlanksSpec).preRow enc Tryz.prog Tryz.f7 Rows.syntaxBlanksRow.domain false Rows.syntaxBlanksRow.laid) (((OpenSpec.ofChange Rows.syntaxBlanksSpec).at F).post enc Tryz.prog Tryz.f7 false true false false) := by
 obtain ⟨ds, places, hx, hsm⟩ := reads os enc
 refine returnsInHanded_of_row (C := Tryz.checked) (s := (OpenSpec.ofChange Rows.syntaxBlanksSpec)) ownKnob_none started (by kernel_rfl) Tryz.func7
   (witness_row_at (enc := enc) (C := Tryz.checked) false (laidWorld os) #[.slice none 0 0, .slice none 0 0] rfl (by kernel_rfl) (by kernel_rfl) (by kernel_rfl)
     (OpenSpec.preRow_of_cond 8 hx (by kernel_rfl) (fun k hk => by cases hk) (by kernel_rfl) (laid_met os))) ?_
 intro W base args ds gs before hval hW _ _ _ hL _ _
 exact contract H enc W base args ds gs before hval hW (laid_both (show laidMet Tryz.prog theLaid W from hL))
theorem said : Rows.SyntaxBlanksSaid :=
 OpenClaim.holds_of_cond 7 Tryz.f7 rfl rfl rfl rfl rfl rfl rfl ⟨rfl, rfl, rfl, rfl, rfl⟩ rfl rfl rfl rfl rfl (by kernel_rfl) Tryz.func7 (by kernel_rfl)
   (of_decide_eq_true (by kernel_rfl)) (by unfold Func.isWrapper; first | (rw [if_pos (by decide +kernel)]; kernel_rfl) | (rw [if_neg (by decide +kernel)]; exact ⟨rfl, rfl⟩))
   (fun os started H enc _ F => by rw [OpenClaim.pre_eq_preRow]; exact lifted os started H enc F)
theorem plain (f : FuncId) (fn : Func) (hf : Tryz.pinned.checked.prog.funcNamed "mainline/mainlinelaw11.SyntaxBlanks" = some f) (hfn : Tryz.pinned.checked.prog.funcs[f]? = some fn) :
   true = Tryz.pinned.checked.prog.looks [] ∧ ∀ (j : Nat) t, fn.params[j]? = some t → Tryz.pinned.checked.prog.wantsStandIn t = false := by
 obtain rfl : f = 7 := Option.some.inj ((show Tryz.prog.funcNamed "mainline/mainlinelaw11.SyntaxBlanks" = some 7 by kernel_rfl).symm.trans hf) |>.symm
 obtain rfl : fn = Tryz.f7 := (Option.some.inj (Tryz.func7.symm.trans hfn)).symm
 refine ⟨by kernel_rfl, fun j t ht => ?_⟩
 rw [Tryz.params7] at ht
 have hm : t ∈ [22] := by
   have h2 := Array.mem_of_getElem? ht
   have h3 : t = 22 ∨ t = 22 := by simpa using h2
   rcases h3 with rfl | rfl <;> simp
 have hall : ([22].all fun u => !Tryz.prog.wantsStandIn u) = true := by kernel_rfl
 exact (show Tryz.prog.wantsStandIn t = false by simpa using List.all_eq_true.1 hall t hm)
theorem card : Rows.SyntaxBlanksCardSaid :=
 Claim7.holds_tied_plain_at .later [] _ _ _ _ said (fun _ h => by cases h) (by kernel_rfl) (fun _ h => by cases h) syntaxBlanks_row_tie rfl ⟨rfl, rfl⟩ (by kernel_rfl) rfl plain (by kernel_rfl)
end Go.Proofs.YtcjoiiaankngjaaGreatDoor.lblk
