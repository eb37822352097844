import Derived.Test.YtcjoiiaankngjaaGreatDoorC7
import Derived.Test.YtcjoiiaankngjaaGreatDoorTie
namespace Go.Proofs.YtcjoiiaankngjaaGreatDoor.lcut
set_option maxRecDepth 100000
open Go.RowKit Go.ChangeShapes Go.WideShapes
theorem row_take {w : World} {B m n c : Nat} {A : Option Addr} {T : List (List UInt8)} (h : Row w B 1 A m c (txC T)) (hn : n ≤ m) (hm : m = T.length) : Row w B 1 A n c (txC (T.take n)) := by
 refine ⟨by unfold txC; rw [List.length_map, List.length_take]; omega, Nat.le_trans hn h.2.1, h.2.2.1, fun j u hj => h.2.2.2 j u ?_⟩
 unfold txC at hj ⊢
 rw [List.map_take, List.getElem?_take] at hj
 split at hj
 · exact hj
 · cases hj
theorem slice_h (At : Option Addr) (m ct n : Nat) (h : n ≤ ct) (W : World) : (Instr.slice 34 (.slice At m ct) none (some (.int .i64 (n : Int))) none).run Tryz.prog W = .ok (.slice At n ct) W := by
 have ht : Tryz.prog.underlying 34 = some (.slice 9) := Tryz.underlying34
 have hz : ∀ W, (Go.sizeOf 9).run Tryz.prog W = .ok 1 W := fun _ => by kernel_rfl
 have he : Tryz.prog.elem 34 = 9 := by simp [Program.elem, ht]
 have e : (if ct = 0 then At else At.map (·.add (0 * 1))) = At := by
   split
   · rfl
   · cases At <;> simp [Addr.add]
 rw [run_slice_h W 34 At m ct (by rw [he]; exact ht) _ _ (by omega) (by omega), he, hz]
 show Result.ok (Value.slice (if ct = 0 then At else At.map (·.add (0 * 1))) n ct) W = _
 rw [e]
theorem cnt_step (s : ByteArray) (k : Nat) (h : k < s.size) : (s.data.toList.take (k + 1)).count 10 = (s.data.toList.take k).count 10 + (if s[k] = 10 then 1 else 0) := by
 have hl : k < s.data.toList.length := by rw [data_len]; exact h
 have e : s.data.toList[k] = s[k] := by simp; rfl
 rw [List.take_add_one, List.getElem?_eq_getElem hl, e, List.count_append]
 simp only [Option.toList_some, List.count_cons, List.count_nil, Nat.zero_add, beq_iff_eq]
set_option maxHeartbeats 64000000 in
theorem walk (A : Option Addr) (l : List Int) (c : Nat) (x : Int) (A2 : Option Addr) (g : List Int) (c2 : Nat) {w : World} (hL : Laid w) (hI : Ito w) (hP : Row w w.heap.size 1 A l.length c (intsC l)) (hl : l.length ≤ 9223372036854775807) (hP2 : Row w w.heap.size 1 A2 g.length c2 (intsC g)) (hl2 : g.length ≤ 9223372036854775807) :
   Calls Tryz.prog 9 #[.slice A l.length c, .int .i64 x, .slice A2 g.length c2] w (BoolB w true) := by
 unfold BoolB
 have HSN := Lib.hid (sanity_any hL hI)
 unfold BoolB at HSN
 have CT := fun (n : Nat) => cuts l g (n := n)
 have hsm := mMade_sml l
 obtain ⟨⟨PL, LT⟩, hMM⟩ : ∃ z, mMade l = z := ⟨_, rfl⟩
 have MD := fun (W : World) (h : Below w.heap.size w W) => made_any (Row.below hP h (Nat.le_refl _)) h.size hl
 rw [hMM] at MD hsm CT
 dsimp only at MD hsm CT
 obtain ⟨S, hS⟩ : ∃ z, fFile PL LT = z := ⟨_, rfl⟩
 rw [hS] at hsm CT
 have SC := fun (W : World) (base : Nat) (v : Value) (h : BuildAt W base v PL LT) => (show Calls Tryz.prog 14 #[v] W (StrB W (str S)) from by
   obtain ⟨Ap, cp, A', n', c', tl, rfl, hR, hm⟩ := h.rb
   have := rsource_any hR (Nat.le_refl _) (by rw [hm]; exact hsm.2.2)
   rw [hm, hS] at this
   exact this)
 have PC := fun W => pieces_any (str S) (by rw [str_size]; have := hsm.2.1; omega) W
 rw [str_data] at PC
 have hps := pcs_sub hsm.1
 have hpn := pcs_len (rToks S 1)
 have htn := (rToks_len S 1).2
 obtain ⟨T, hT⟩ : ∃ z, pcs (rToks S 1) = z := ⟨_, rfl⟩
 rw [hT] at PC hps hpn CT
 obtain ⟨m, hm⟩ : ∃ z, T.length = z := ⟨_, rfl⟩
 have hm5 : m ≤ 5001 := by have := hsm.2.1; omega
 have MK := fun W => mod_any x (m + 1) W (by omega) (by omega)
 have hn := modN_lt (x := x) (m := m + 1) (by omega)
 obtain ⟨n, hnn⟩ : ∃ z, modN x (m + 1) = z := ⟨_, rfl⟩
 rw [hnn, show ((m + 1 : Nat) : Int) = (m : Int) + 1 from rfl] at MK
 rw [hnn] at hn
 obtain ⟨X, hX, xa, xl, p1, p2⟩ := CT n (by omega)
 have JN := fun (W : World) (hw : Below w.heap.size w W) (At : Option Addr) (ct : Nat) (ho : Row W W.heap.size 1 At n ct (txC (T.take n))) => (by
   have hlen : (T.take n).length = n := by rw [List.length_take]; omega
   have := joined20_any (L := T.take n) (A := At) (c := ct) (by rw [hlen]; exact ho) (Nat.le_refl _) (Row.below hP2 hw (Nat.le_refl _)) hw.size hl2 (by omega) (fun p hp => by have := (hps p (List.mem_of_mem_take hp)).1; have := hsm.2.1; omega)
   rw [hlen, hX] at this
   exact this : Calls Tryz.prog 20 #[.slice At n ct, .slice A2 g.length c2] W (StrB W (str X)))
 have PA := fun (W : World) (hw : Below w.heap.size w W) => parsed_any (hL.on hw) (str X) (by rw [str_data]; exact xa) (by rw [str_size]; omega)
 have PB := fun (W : World) => rparsed_any (w := W) (str X) (by rw [str_size]; omega)
 rw [str_data] at PA PB
 have pe := (parse_same (toks_ok X.length X 1 (Nat.le_refl _) (by omega))).1
 unfold ParsedOut at PA PB
 rw [pe] at PB p1 p2
 obtain ⟨⟨ln, ec⟩, hq⟩ : ∃ z, (pParse X).2 = z := ⟨_, rfl⟩
 rw [hq] at PA PB p1 p2
 dsimp only at PA PB p1 p2
 unfold StrB at SC JN
 obtain ⟨Sx, hSx⟩ : ∃ z, str S = z := ⟨_, rfl⟩
 rw [hSx] at SC PC
 have HXS0 : (str X).size ≤ 30000000 := by rw [str_size]; exact xl
 have hXd : (str X).data.toList = X := str_data X
 rw [← hXd] at p2
 obtain ⟨Xx, hXx⟩ : ∃ z, str X = z := ⟨_, rfl⟩
 rw [hXx] at JN PA PB HXS0 p2
 obtain ⟨N, hN⟩ : ∃ z, Xx.data.toList.count 10 = z := ⟨_, rfl⟩
 rw [hN] at p2
 have HN := Lib.hid hN
 have MD := Lib.hid MD
 have SC := Lib.hid SC
 have PC := Lib.hid PC
 have JN := Lib.hid JN
 have PA := Lib.hid PA
 have PB := Lib.hid PB
 have MK := Lib.hid MK
 have HXS := Lib.hid HXS0
 have HEA := Lib.hid (show Wh T n ec → ln = 0 ∧ ec = 0 from fun q => by have := p1 q; injection this with a b; exact ⟨a, b⟩)
 have HEB := Lib.hid (show ¬ Wh T n ec → ec = 40 ∧ ln = ((1 + N : Nat) : Int) from fun q => by have := p2 q; injection this with a b; exact ⟨b, a⟩)
 have HM := Lib.hid hm
 have HW0 := Lib.hid (Below.refl w.heap.size w)
 have k0 : (0 : Int) ≤ (n : Int) := Int.natCast_nonneg _
 have k1 : (n : Int) ≤ (m : Int) := by omega
 have m0 : (0 : Int) ≤ (m : Int) := Int.natCast_nonneg _
 have m1 : (m : Int) ≤ 5001 := by omega
 rw [hm] at PC
 clear hL hI hP hP2 hl hl2 hMM hS hsm hps hpn htn hT hSx xa xl p1 p2 hX pe hq HXS0 hXd hXx CT hnn hm hN
 go_enter Tryz.func9, Tryz.ntmps9
 go_upto_region 3 with (first
   | (go_at_call 13; ((with_reducible refine HSN.out.mono ?_); rintro en wa ⟨rfl, hba⟩; (have HA := Lib.hid hba); clear hba))
   | (go_at_call 15; ((with_reducible refine (MD.out _ HA.out).mono ?_); rintro en wb ⟨bv, rfl, hbv, hbt⟩; (have HB := Lib.hid (show BuildAt wb wa.heap.size bv PL LT ∧ Below w.heap.size w wb from ⟨hbv, Below.then_ HA.out (toBelow hbt)⟩)); clear hbv hbt))
   | (go_at_call 14; ((with_reducible refine (SC.out _ _ _ HB.out.1).mono ?_); rintro en wc ⟨rfl, hbc⟩; (have HC := Lib.hid (show Below w.heap.size w wc from Below.then_ HB.out.2 hbc)); clear hbc))
   | (go_at_call 18; ((with_reducible refine (PC.out _).mono ?_); rintro en wd ⟨At, ct, rfl, hod, hbd⟩; (have HD := Lib.hid (show wd.ownsRow wc.heap.size 9 1 (.slice At m ct) m (txC T) ∧ Below w.heap.size w wd from ⟨hod, Below.then_ HC.out hbd⟩)); clear hod hbd))
   | (fail "arm"))
 go_upto_region 4 with (first
   | (go_at_call 19; ((with_reducible refine (MK.out _).mono ?_); rintro en w4 ⟨rfl, rfl⟩))
   | (fail "arm"))
 have hcap : m ≤ ct := (Row.own HD.out.1).2.1
 have hnm : n ≤ m := by omega
 have HTK := Lib.hid (row_take (Row.own HD.out.1) hnm HM.out.symm)
 have hsl := slice_h At m ct n (by omega)
 go_upto_region 5 with (first
   | (go_at_call 20; ((with_reducible refine (JN.out _ HD.out.2 _ _ HTK.out).mono ?_); rintro en we ⟨rfl, hbe⟩; (have HE := Lib.hid (show Below w.heap.size w we ∧ Row we we.heap.size 1 At m ct (txC T) from ⟨Below.then_ HD.out.2 hbe, Row.on (Row.own HD.out.1) hbe⟩)); clear hbe))
   | (fail "arm"))
 go_upto_region 6 with (first
   | (go_at_call 26; ((with_reducible refine (PA.out _ HE.out.1).mono ?_); rintro en wf ⟨Ap, np, cp, A', n', c', tl, rfl, hR, hmm, hb⟩; (have HF := Lib.hid (show Below w.heap.size w wf ∧ Row wf wf.heap.size 1 At m ct (txC T) from ⟨Below.then_ HE.out.1 hb, Row.on HE.out.2 hb⟩)); clear hR hmm hb))
   | (fail "arm"))
 obtain ⟨w1, hw1⟩ : ∃ v, wf.alloc (.cells #[.slice Ap np cp, .slice A' n' c'] 28) = v := ⟨_, rfl⟩
 have H1 := Lib.hid (show Below w.heap.size w w1 ∧ Row w1 w1.heap.size 1 At m ct (txC T) from by
   have kb1 : Below wf.heap.size wf w1 := by rw [← hw1]; exact (Below.refl _ wf).alloc (Nat.le_refl _) _
   exact ⟨Below.then_ HF.out.1 kb1, Row.on HF.out.2 kb1⟩)
 rw [hw1]
 clear hw1
 by_cases hn0 : n = 0
 · subst hn0
   obtain ⟨e1, e2⟩ := HEA.out (.inl rfl)
   subst e1
   subst e2
   go_wp2
   go_ret
   exact ⟨rfl, H1.out.1⟩
 have kp : (0 : Int) < (n : Int) := by omega
 have q0 : ((n : Int) == 0) = false := by rw [beq_eq_false_iff_ne]; omega
 have hlm := HM.out
 obtain ⟨a1, e1, _, hc1⟩ := Row.cell_at H1.out.2 (k := n - 1) (u := .string (str (T[n - 1]'(by omega)))) (by unfold txC; rw [List.getElem?_map, List.getElem?_eq_getElem (by omega)]; rfl)
 obtain ⟨a0, e0, _, hc0⟩ := Row.cell_at H1.out.2 (k := 0) (u := .string (str (T[0]'(by omega)))) (by unfold txC; rw [List.getElem?_map, List.getElem?_eq_getElem (by omega)]; rfl)
 rw [e1] at e0
 injection e0 with e0
 subst e0
 subst e1
 have HTX := Lib.hid (show Wh T n ec ↔ (T[n - 1]'(by omega) = [125] ∨ (T[0]'(by omega) = wPlats ∧ ec = 0)) from ⟨fun q => by
   rcases q with q | ⟨_, q⟩ | ⟨⟨_, q⟩, e⟩
   · exact absurd q hn0
   · exact .inl q
   · exact .inr ⟨q, e⟩, fun q => by
   rcases q with q | ⟨q, e⟩
   · exact .inr (.inl ⟨by omega, q⟩)
   · exact .inr (.inr ⟨⟨by omega, q⟩, e⟩)⟩)
 obtain ⟨t1, ht1⟩ : ∃ z, T[n - 1]'(by omega) = z := ⟨_, rfl⟩
 obtain ⟨t0, ht0⟩ : ∃ z, T[0]'(by omega) = z := ⟨_, rfl⟩
 rw [ht1] at hc1 HTX
 rw [ht0] at hc0 HTX
 have hl1 : (str t1).toList = t1 := by rw [Lib.toList_data, str_data]
 have hl0 : (str t0).toList = t0 := by rw [Lib.toList_data, str_data]
 obtain ⟨s1, hs1⟩ : ∃ z, str t1 = z := ⟨_, rfl⟩
 obtain ⟨s0, hs0⟩ : ∃ z, str t0 = z := ⟨_, rfl⟩
 rw [hs1] at hc1 hl1
 rw [hs0] at hc0 hl0
 rw [show a1.add 0 = a1 by simp [Addr.add]] at hc0
 have x1 : w1.cell? (a1.add (n - 1)) = some (.string s1) := hc1
 have x0 : w1.cell? a1 = some (.string s0) := hc0
 clear ht1 ht0 hs1 hs0 hc1 hc0 hlm
 by_cases hW : Wh T n ec
 · obtain ⟨u1, u2⟩ := HEA.out hW
   subst u1
   subst u2
   by_cases b1 : t1 = [125]
   · have y1 : (s1.toList == [125]) = true := by rw [hl1, b1]; rfl
     by_cases b0 : t0 = wPlats
     · have y0 : (s0.toList == [112, 108, 97, 116, 102, 111, 114, 109, 115]) = true := by rw [hl0, b0]; rfl
       clear hl1 hl0 b1 b0 hW
       go_wp2
       go_ret
       exact ⟨rfl, H1.out.1⟩
     · have y0 : (s0.toList == [112, 108, 97, 116, 102, 111, 114, 109, 115]) = false := by rw [hl0, beq_eq_false_iff_ne]; exact b0
       clear hl1 hl0 b1 b0 hW
       go_wp2
       go_ret
       exact ⟨rfl, H1.out.1⟩
   · have y1 : (s1.toList == [125]) = false := by rw [hl1, beq_eq_false_iff_ne]; exact b1
     have b0 : t0 = wPlats := (((HTX.out.1 hW).resolve_left b1)).1
     have y0 : (s0.toList == [112, 108, 97, 116, 102, 111, 114, 109, 115]) = true := by rw [hl0, b0]; rfl
     clear hl1 hl0 b1 b0 hW
     go_upto_region 9 with (first
       | (go_at_call 29; ((with_reducible refine (PB.out _).mono ?_); rintro en wg ⟨Aq, nq, cq, A3, n3, c3, tm, rfl, hR, hmm, hb⟩; (have HG := Lib.hid (Below.then_ H1.out.1 hb)); clear hR hmm hb))
       | (fail "arm"))
     obtain ⟨w2, hw2⟩ : ∃ v, wg.alloc (.cells #[.slice Aq nq cq, .slice A3 n3 c3] 28) = v := ⟨_, rfl⟩
     have H2 := Lib.hid (show Below w.heap.size w w2 from by
       have kb1 : Below wg.heap.size wg w2 := by rw [← hw2]; exact (Below.refl _ wg).alloc (Nat.le_refl _) _
       exact Below.then_ HG.out kb1)
     rw [hw2]
     clear hw2
     go_wp2
     go_ret
     exact ⟨rfl, H2.out⟩
 · obtain ⟨u2, u1⟩ := HEB.out hW
   subst u2
   subst u1
   have b1 : t1 ≠ [125] := fun b => hW (HTX.out.2 (.inl b))
   have y1 : (s1.toList == [125]) = false := by rw [hl1, beq_eq_false_iff_ne]; exact b1
   by_cases b0 : t0 = wPlats
   case' pos =>
     have y0 : (s0.toList == [112, 108, 97, 116, 102, 111, 114, 109, 115]) = true := by rw [hl0, b0]; rfl
     clear hl1 hl0 b1 b0 hW
     go_upto_region 9 with (first
       | (go_at_call 29; ((with_reducible refine (PB.out _).mono ?_); rintro en wg ⟨Aq, nq, cq, A3, n3, c3, tm, rfl, hR, hmm, hb⟩; (have HG := Lib.hid (Below.then_ H1.out.1 hb)); clear hR hmm hb))
       | (fail "arm"))
     obtain ⟨w2, hw2⟩ : ∃ v, wg.alloc (.cells #[.slice Aq nq cq, .slice A3 n3 c3] 28) = v := ⟨_, rfl⟩
     have H2 := Lib.hid (show Below w.heap.size w w2 from by
       have kb1 : Below wg.heap.size wg w2 := by rw [← hw2]; exact (Below.refl _ wg).alloc (Nat.le_refl _) _
       exact Below.then_ HG.out kb1)
     rw [hw2]
     clear hw2
   case' neg =>
     have y0 : (s0.toList == [112, 108, 97, 116, 102, 111, 114, 109, 115]) = false := by rw [hl0, beq_eq_false_iff_ne]; exact b0
     clear hl1 hl0 b1 b0 hW
     have H2 := Lib.hid H1.out.1
   all_goals
     go_upto_region 14 with fail
     go_loopw [18, 19] (fun v18 v19 wr => ∃ k : Nat, v18 = .int .i64 ((1 + (Xx.data.toList.take k).count 10 : Nat) : Int) ∧ v19 = .int .i64 (k : Int) ∧ k ≤ Xx.size ∧ Hid (Below w.heap.size w wr)) (fun _ v19 _ => Xx.size - (intOf v19).toNat)
     case atStart => exact ⟨0, by simp, rfl, Nat.zero_le _, H2⟩
     case round =>
       obtain ⟨k, rfl, rfl, hk, HBW⟩ := hrel
       have k0 : (0 : Int) ≤ (k : Int) := Int.natCast_nonneg _
       have hxs := HXS.out
       by_cases hlt : k < Xx.size
       · have k1 : (k : Int) < (Xx.size : Int) := by omega
         have HC := Lib.hid (cnt_step Xx k hlt)
         have hcl : (Xx.data.toList.take k).count 10 ≤ k := Nat.le_trans List.count_le_length (by rw [List.length_take]; exact Nat.min_le_left _ _)
         obtain ⟨cn, hcn⟩ : ∃ z, (Xx.data.toList.take k).count 10 = z := ⟨_, rfl⟩
         rw [hcn] at HC hcl ⊢
         clear hcn
         have cn0 : (0 : Int) ≤ ((1 + cn : Nat) : Int) := Int.natCast_nonneg _
         have cn1 : ((1 + cn : Nat) : Int) ≤ 40000000 := by omega
         by_cases hb : Xx[k] = 10
         · have q10 : ((Xx[k].toNat : Int) == 10) = true := by rw [hb]; rfl
           have HC2 := Lib.hid (show (Xx.data.toList.take (k + 1)).count 10 = cn + 1 from by rw [HC.out, if_pos hb])
           clear hb HC
           go_wp2
           go_roundw
           case rel => exact ⟨k + 1, by rw [HC2.out]; go_num, by go_num, by omega, HBW⟩
           case measure => simp [intOf]; omega
         · have q10 : ((Xx[k].toNat : Int) == 10) = false := by
             rw [beq_eq_false_iff_ne]
             intro e
             apply hb
             apply UInt8.toNat_inj.1
             have : (10 : UInt8).toNat = 10 := rfl
             omega
           have HC2 := Lib.hid (show (Xx.data.toList.take (k + 1)).count 10 = cn from by rw [HC.out, if_neg hb, Nat.add_zero])
           clear hb HC
           go_wp2
           go_roundw
           case rel => exact ⟨k + 1, by rw [HC2.out], by go_num, by omega, HBW⟩
           case measure => simp [intOf]; omega
       · obtain rfl : k = Xx.size := by omega
         have k1 : ¬ (Xx.size : Int) < (Xx.size : Int) := by omega
         have qe : (Xx.data.toList.take Xx.size).count 10 = N := by rw [List.take_of_length_le (by rw [data_len]; exact Nat.le_refl _)]; exact HN.out
         rw [qe]
         clear qe hxs
         go_wp2
         go_ret
         exact ⟨by simp, HBW.out⟩
theorem contract (H : Type) (enc : TypeId × Value → H) (W : World) (base : Nat) (args : Array Value) (ds gs : List (DataW H)) (before : List MemPlace)
   (hval : ∀ (j : Nat) t v, Tryz.f9.params[j]? = some t → args[j]? = some v → Value.okWide Tryz.prog W .any base t v)
   (hW : DataW.Whole enc Tryz.prog Tryz.f9.params.toList Rows.syntaxCutsSpec.vars false W args.toList ds gs before) (hT : Laid W ∧ Ito W) :
   Calls Tryz.prog 9 args W fun e W' => ∃ v, e = .returned v ∧ Rows.syntaxCutsSpec.post enc Tryz.prog Tryz.f9 false true false false W args v W' := by
 have hW' := hW
 obtain ⟨p, q, hA0, hV, rfl, hfz, hnd⟩ := hW
 have hA : DataW.TrodAll enc Tryz.prog W 0 (fun _ => true) true Tryz.f9.params.toList args.toList ds p := hA0
 rw [Tryz.params9] at hA hval
 obtain ⟨v0, vs0, d0, ds0, p0, q0, e0, rfl, rfl, h0, r0⟩ := trodAll_cons hA
 obtain ⟨v1, vs1, d1, ds1, p1, q1, e1, rfl, rfl, h1, r1⟩ := trodAll_cons r0
 obtain ⟨v2, vs2, d2, ds2, p2, q2, e2, rfl, rfl, h2, r2⟩ := trodAll_cons r1
 obtain ⟨rfl, rfl, rfl⟩ := trodAll_nil r2
 obtain rfl : args = #[v0, v1, v2] := by cases args; simp_all
 obtain ⟨rfl, rfl⟩ := trodVars_none hV
 obtain ⟨A, l, c, rfl, hP, hl⟩ := open_ints h0 (hval 0 22 v0 rfl rfl)
 obtain ⟨x, rfl, _, _, _⟩ := open_int Tryz.underlying3 (hval 1 3 v1 rfl rfl) h1
 obtain ⟨A2, g, c2, rfl, hP2, hl2⟩ := open_ints h2 (hval 2 22 v2 rfl rfl)
 refine (walk A l c x A2 g c2 hT.1 hT.2 hP hl hP2 hl2).mono fun e W' ⟨he, hb⟩ => ⟨_, he, law_post rfl rfl ?_ rfl rfl rfl hW' hb⟩
 rw [Tryz.params9]
 intro t ht
 have ht' : t = 22 ∨ t = 3 := by
   have h3 : t = 22 ∨ t = 3 ∨ t = 22 := by simpa using ht
   rcases h3 with e | e | e
   · exact .inl e
   · exact .inr e
   · exact .inl e
 rcases ht' with rfl | rfl <;> exact ⟨by kernel_rfl, of_decide_eq_true (by kernel_rfl)⟩
theorem laid_met (os : Os) : laidMet Tryz.prog Rows.syntaxCutsRow.laid ((laidWorld os).forCall (fun _ _ => 0) ⟨#[], #[.slice none 0 0, .int .i64 0, .slice none 0 0], []⟩).memory := laid_run os #[.slice none 0 0, .int .i64 0, .slice none 0 0]
theorem reads (os : Os) {H : Type} (enc : TypeId × Value → H) : ∃ ds places, DataW.whole enc Tryz.prog ((laidWorld os).forCall (fun _ _ => 0) ⟨#[], #[.slice none 0 0, .int .i64 0, .slice none 0 0], []⟩).memory Tryz.f9.params.toList Rows.syntaxCutsSpec.vars false (#[.slice none 0 0, .int .i64 0, .slice none 0 0] : Array Value).toList 8 = some (ds, [], places) ∧ Rows.uptoSmall H (ds ++ []) = true :=
 ⟨[.nil, .lit (.int .i64 0), .nil], [], by kernel_rfl, by kernel_rfl⟩
set_option maxRecDepth 100000 in
theorem lifted (os : Os) (started : os.Started) (H : Type) (enc : TypeId × Value → H) (F : Stop.Interp) :
   ReturnsInHanded {} Tryz.checked os 9 .any ((OpenSpec.ofChange Rows.syntaxCutsSpec).preRow enc Tryz.prog Tryz.f9 Rows.syntaxCutsRow.domain false Rows.syntaxCutsRow.laid) (((OpenSpec.ofChange Rows.syntaxCutsSpec).at F).post enc Tryz.prog Tryz.f9 false true false false) := by
 obtain ⟨ds, places, hx, hsm⟩ := reads os enc
 refine returnsInHanded_of_row (C := Tryz.checked) (s := (OpenSpec.ofChange Rows.syntaxCutsSpec)) ownKnob_none started (by kernel_rfl) Tryz.func9
   (witness_row_at (enc := enc) (C := Tryz.checked) false (laidWorld os) #[.slice none 0 0, .int .i64 0, .slice none 0 0] rfl (by kernel_rfl) (by kernel_rfl) (by kernel_rfl)
     (OpenSpec.preRow_of_cond 8 hx (by kernel_rfl) (fun k hk => by cases hk) (by kernel_rfl) (laid_met os))) ?_
 intro W base args ds gs before hval hW _ _ _ hL _ _
 exact contract H enc W base args ds gs before hval hW (laid_both (show laidMet Tryz.prog theLaid W from hL))
theorem said : Rows.SyntaxCutsSaid :=
 OpenClaim.holds_of_cond 9 Tryz.f9 rfl rfl rfl rfl rfl rfl rfl ⟨rfl, rfl, rfl, rfl, rfl⟩ rfl rfl rfl rfl rfl (by kernel_rfl) Tryz.func9 (by kernel_rfl)
   (of_decide_eq_true (by kernel_rfl)) (by unfold Func.isWrapper; first | (rw [if_pos (by decide +kernel)]; kernel_rfl) | (rw [if_neg (by decide +kernel)]; exact ⟨rfl, rfl⟩))
   (fun os started H enc _ F => by rw [OpenClaim.pre_eq_preRow]; exact lifted os started H enc F)
theorem plain (f : FuncId) (fn : Func) (hf : Tryz.pinned.checked.prog.funcNamed "mainline/mainlinelaw11.SyntaxCuts" = some f) (hfn : Tryz.pinned.checked.prog.funcs[f]? = some fn) :
   true = Tryz.pinned.checked.prog.looks [] ∧ ∀ (j : Nat) t, fn.params[j]? = some t → Tryz.pinned.checked.prog.wantsStandIn t = false := by
 obtain rfl : f = 9 := Option.some.inj ((show Tryz.prog.funcNamed "mainline/mainlinelaw11.SyntaxCuts" = some 9 by kernel_rfl).symm.trans hf) |>.symm
 obtain rfl : fn = Tryz.f9 := (Option.some.inj (Tryz.func9.symm.trans hfn)).symm
 refine ⟨by kernel_rfl, fun j t ht => ?_⟩
 rw [Tryz.params9] at ht
 have hm : t ∈ [22, 3] := by
   have h2 := Array.mem_of_getElem? ht
   have h3 : t = 22 ∨ t = 3 ∨ t = 22 := by simpa using h2
   rcases h3 with rfl | rfl | rfl <;> simp
 have hall : ([22, 3].all fun u => !Tryz.prog.wantsStandIn u) = true := by kernel_rfl
 exact (show Tryz.prog.wantsStandIn t = false by simpa using List.all_eq_true.1 hall t hm)
theorem card : Rows.SyntaxCutsCardSaid :=
 Claim7.holds_tied_plain_at .later [] _ _ _ _ said (fun _ h => by cases h) (by kernel_rfl) (fun _ h => by cases h) syntaxCuts_row_tie rfl ⟨rfl, rfl⟩ (by kernel_rfl) rfl plain (by kernel_rfl)
end Go.Proofs.YtcjoiiaankngjaaGreatDoor.lcut
