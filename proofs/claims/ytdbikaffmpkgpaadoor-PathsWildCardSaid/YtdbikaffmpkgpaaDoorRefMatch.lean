/- The reference's Match. -/
import Derived.Test.YtdbikaffmpkgpaaDoorRefOne
import Derived.Test.YtdbikaffmpkgpaaDoorRefPat
namespace Go.Proofs.YtdbikaffmpkgpaaDoor
open Go.RowKit

def cRow (P N : List ByteArray) (i k : Nat) : Bool := gRow cStar oneS P N i k
theorem cRow_all (P N : List ByteArray) : cRow P N P.length N.length = mt P N := by
  unfold cRow
  rw [mt_g, ← gRow_all]

set_option maxRecDepth 100000 in
set_option maxHeartbeats 8000000 in
theorem refMatch_any (p s : ByteArray) (w : World) (hp : p.size ≤ 1048576) (hs : s.size ≤ 1048576) : Calls Tryd.prog 37 #[.string p, .string s] w (BoolB w (matchS p s)) := by
  have CP := Lib.hid (fun W => refPat_any p W (by omega))
  have CV := Lib.hid (fun W => refValid_any s W (by omega))
  obtain ⟨R, HR⟩ : ∃ R, Hid (matchS p s = R) := ⟨_, Lib.hid rfl⟩
  rw [HR.out]
  have hR := HR.out
  unfold matchS at hR
  obtain ⟨a, ha⟩ : ∃ a, patS p = a := ⟨_, rfl⟩
  obtain ⟨b, hb⟩ : ∃ b, validS s = b := ⟨_, rfl⟩
  have hwa := fun h => within_parts (s := p) (perm := isComp) h
  have hwb := fun h => within_parts (s := s) (perm := isName) h
  change (patS p = true → _) at hwa
  change (validS s = true → _) at hwb
  rw [ha] at hR CP hwa
  rw [hb] at hR CV hwb
  cases a with
  | false =>
    have HR2 := Lib.hid (show R = false from hR.symm)
    clear hR ha hb hwa hwb
    go_enter Tryd.func37, Tryd.ntmps37
    go_wp2_with (first
      | (go_at_call 35; ((with_reducible refine (CP.out _).mono ?_); rintro e w1 ⟨rfl, hb1⟩))
      | (go_at_call 17; ((with_reducible refine (CV.out _).mono ?_); rintro e w2 ⟨rfl, hb2⟩)))
    go_ret
    exact ⟨by rw [HR2.out]; rfl, Below.then_ hb1 hb2⟩
  | true =>
    cases b with
    | false =>
      have HR2 := Lib.hid (show R = false from hR.symm)
      clear hR ha hb hwa hwb
      go_enter Tryd.func37, Tryd.ntmps37
      go_wp2_with (first
        | (go_at_call 35; ((with_reducible refine (CP.out _).mono ?_); rintro e w1 ⟨rfl, hb1⟩))
        | (go_at_call 17; ((with_reducible refine (CV.out _).mono ?_); rintro e w2 ⟨rfl, hb2⟩)))
      go_ret
      exact ⟨by rw [HR2.out]; rfl, Below.then_ hb1 hb2⟩
    | true =>
      obtain ⟨p1, p2, p3⟩ := hwa rfl
      obtain ⟨s1, s2, s3⟩ := hwb rfl
      have PP := fun W => refParts_any p W (by omega)
      have PS := fun W => refParts_any s W (by omega)
      obtain ⟨P, HP⟩ : ∃ P, Hid (partsL p = P) := ⟨_, Lib.hid rfl⟩
      obtain ⟨N, HN⟩ : ∃ N, Hid (partsL s = N) := ⟨_, Lib.hid rfl⟩
      rw [HP.out] at PP hR
      rw [HN.out] at PS hR
      have p2' : P.length ≤ 20 := by rw [← HP.out]; exact p2
      have s2' : N.length ≤ 20 := by rw [← HN.out]; exact s2
      have p3' : ∀ k (h : k < P.length), P[k].size ≤ 200 := by have := HP.out; subst this; exact p3
      have s3' : ∀ k (h : k < N.length), N[k].size ≤ 200 := by have := HN.out; subst this; exact s3
      have HR2 := Lib.hid (show R = mt P N from hR.symm)
      have HPP := Lib.hid PP
      have HPS := Lib.hid PS
      have H3 := Lib.hid (And.intro p3' s3')
      have hmk := made_one 54 4 (.bool false) 1 Tryd.underlying54 info4 rfl (N.length + 1) (by omega) (by omega)
      obtain ⟨Z, hZ⟩ : ∃ Z, List.replicate (N.length + 1) (Value.bool false) = Z := ⟨_, rfl⟩
      rw [hZ] at hmk
      have hmk2 : ∀ W : World, (Instr.makeSlice 54 (.int .i64 ((N.length : Int) + 1)) (.int .i64 ((N.length : Int) + 1))).run Tryd.prog W = .ok (.slice (some ⟨W.heap.size, 0, none⟩) (N.length + 1) (N.length + 1)) (W.alloc (.cells Z.toArray 4)) := hmk
      have HZ := Lib.hid hZ
      clear hZ hmk hR ha hb hwa hwb PP PS p3' s3' p2 p3 s2 s3
      go_enter Tryd.func37, Tryd.ntmps37
      go_upto_region 7 with (first
        | (go_at_call 35; ((with_reducible refine (CP.out _).mono ?_); rintro e w1 ⟨rfl, hb1⟩))
        | (go_at_call 17; ((with_reducible refine (CV.out _).mono ?_); rintro e w2 ⟨rfl, hb2⟩))
        | (go_at_call 25; ((with_reducible refine (HPP.out _).mono ?_); rintro e w3 ⟨A1, c1, rfl, ho1, hb3⟩))
        | (go_at_call 25; ((with_reducible refine (HPS.out _).mono ?_); rintro e w4 ⟨A2, c2, rfl, ho2, hb4⟩)))
      have hS1 := strs_on (Strs.own ho1).2 hb4
      have hS2 := (Strs.own ho2).2
      have hcap1 := hS1.cap
      have hcap2 := hS2.cap
      have hB4 : Below w.heap.size w w4 := Below.then_ (Below.then_ (Below.then_ hb1 hb2) hb3) hb4
      have HB4 := Lib.hid hB4
      clear ho1 ho2 hb1 hb2 hb3 hb4 hB4
      go_upto_region 8 with fail
      have hr0 := RowTo.new w4 (N.length + 1) (cRow P N 0) HZ.out
      have hb0 : Below w4.heap.size w4 (w4.alloc (.cells Z.toArray 4)) := (Below.refl _ w4).alloc (Nat.le_refl _) _
      have hrow : RowTo ((w4.alloc (.cells Z.toArray 4)).setCell ⟨w4.heap.size, 0, none⟩ (.bool true)) w4.heap.size (N.length + 1) (N.length + 1) (cRow P N 0) := by
        have h1 := (Full.new w4 4 Z).set_ 0 (.bool true)
        refine ⟨(List.replicate (N.length + 1) false).set 0 true, ?_, by rw [List.length_set, List.length_replicate], fun k hk => ?_⟩
        · have e : boolC ((List.replicate (N.length + 1) false).set 0 true) = Z.set 0 (.bool true) := by
            rw [← HZ.out]; unfold boolC; rw [List.map_set, List.map_replicate]
          rw [e]; exact h1
        · unfold cRow
          rw [gRow_zero _ _ (by omega)]
          rcases Nat.eq_zero_or_pos k with rfl | h0
          · rw [List.getElem?_set_self (by simp)]; rfl
          · rw [List.getElem?_set_ne (by omega), List.getElem?_replicate, if_pos hk, decide_eq_false (by omega)]
      obtain ⟨w5, hw5⟩ : ∃ W, w4.alloc (.cells Z.toArray 4) = W := ⟨_, rfl⟩
      rw [hw5] at hr0 hb0 hrow ⊢
      obtain ⟨g, hg⟩ : ∃ g, w4.heap.size = g := ⟨_, rfl⟩
      have hgB : w4.heap.size ≤ g := by omega
      rw [hg] at hr0 hrow ⊢
      obtain ⟨b0, t0, z0⟩ := hr0.there (k := 0) (by omega)
      have hb1 := hb0.setCell (p := ⟨g, 0, none⟩) hgB (.bool true)
      clear hr0 hb0 hw5
      go_upto_region 9 with fail
      clear t0 z0
      obtain ⟨w6, hw6⟩ : ∃ W, w5.setCell ⟨g, 0, none⟩ (.bool true) = W := ⟨_, rfl⟩
      rw [hw6] at hrow hb1 ⊢
      clear hw6
      go_wp2_with fail
      go_loopw [9, 10] (fun v9 v10 wr => ∃ (i g : Nat), i ≤ P.length ∧ w4.heap.size ≤ g ∧ v10 = .int .i64 i ∧ v9 = .slice (some ⟨g, 0, none⟩) (N.length + 1) (N.length + 1) ∧ RowTo wr g (N.length + 1) (N.length + 1) (cRow P N i) ∧ Below w4.heap.size w4 wr) (fun _ v10 _ => P.length - (intOf v10).toNat)
      case atStart => exact ⟨0, g, by omega, hgB, rfl, rfl, hrow, hb1⟩
      case round =>
        clear hrow hb1 hg hgB
        obtain ⟨i, g, hi, hgB, rfl, rfl, hrow, hB⟩ := hrel
        have i0 : (0 : Int) ≤ (i : Int) := Int.natCast_nonneg _
        by_cases hlt : i < P.length
        · have i1 : (i : Int) < (P.length : Int) := by omega
          have hn0 := RowTo.new wr (N.length + 1) (cRow P N (i + 1)) HZ.out
          have hbA : Below wr.heap.size wr (wr.alloc (.cells Z.toArray 4)) := (Below.refl _ wr).alloc (Nat.le_refl _) _
          have hrowA := hrow.on hbA
          have hBA := hB.trans (hbA.mono hB.size)
          go_upto_region 13 with fail
          obtain ⟨g2, hg2⟩ : ∃ g2, wr.heap.size = g2 := ⟨_, rfl⟩
          have hgg : g ≠ g2 := by have := hrow.lt; omega
          have hg2B : w4.heap.size ≤ g2 := by have := hB.size; omega
          rw [hg2] at hn0 ⊢
          obtain ⟨w7, hw7⟩ : ∃ W, wr.alloc (.cells Z.toArray 4) = W := ⟨_, rfl⟩
          rw [hw7] at hn0 hrowA hBA ⊢
          clear hbA hrow hB hg2 hw7
          go_wp2_with fail
          go_loopw [12] (fun v12 wx => ∃ k : Nat, k ≤ N.length + 1 ∧ v12 = .int .i64 k ∧ RowTo wx g2 (N.length + 1) k (cRow P N (i + 1)) ∧ RowTo wx g (N.length + 1) (N.length + 1) (cRow P N i) ∧ Below w4.heap.size w4 wx) (fun v12 _ => N.length + 1 - (intOf v12).toNat)
          case atStart => exact ⟨0, by omega, rfl, hn0, hrowA, hBA⟩
          case round =>
            clear hn0 hrowA hBA
            obtain ⟨k, hk, rfl, hn, hr, hB⟩ := hrel
            have k0 : (0 : Int) ≤ (k : Int) := Int.natCast_nonneg _
            by_cases hle : k ≤ N.length
            · have k1 : (k : Int) ≤ (N.length : Int) := by omega
              have k2 : (k : Int) < (N.length : Int) + 1 := by omega
              have HST := Lib.hid (fun (W : World) (b : Bool) (hn' : RowTo W g2 (N.length + 1) k (cRow P N (i + 1))) (hr' : RowTo W g (N.length + 1) (N.length + 1) (cRow P N i)) (hB' : Below w4.heap.size w4 W) (hv : cRow P N (i + 1) k = b) =>
                (⟨hn'.set_ (by omega) hv, hr'.far hgg _, hB'.setCell hg2B _⟩ : RowTo (W.setCell ⟨g2, k, none⟩ (.bool b)) g2 (N.length + 1) (k + 1) (cRow P N (i + 1)) ∧ RowTo (W.setCell ⟨g2, k, none⟩ (.bool b)) g (N.length + 1) (N.length + 1) (cRow P N i) ∧ Below w4.heap.size w4 (W.setCell ⟨g2, k, none⟩ (.bool b))))
              obtain ⟨b1, t1, z1⟩ := hn.there (k := k) (by omega)
              have hcb := hr.cell (k := k) (by omega)
              have HN := Lib.hid (And.intro hn (And.intro hr hB))
              obtain ⟨pd, ePd, hpdB, hpc⟩ := (show Strs wr w4.heap.size A1 c1 P from Row.below hS1 hB (Nat.le_refl _)).at_ hlt
              obtain ⟨x, hx⟩ : ∃ x, P[i] = x := ⟨_, rfl⟩
              rw [hx] at hpc
              have hb42 := beq_lit x [42, 42]
              have hxs : x.size ≤ 200 := by rw [← hx]; exact H3.out.1 i hlt
              by_cases h42 : x.data.toList = [42, 42]
              · rw [decide_eq_true h42] at hb42
                have hstar : cStar P[i] = true := by rw [hx]; exact decide_eq_true h42
                cases k with
                | zero =>
                  have hv := gRow_star_zero (one := oneS) (S := N) hlt hstar
                  change cRow P N (i + 1) 0 = cRow P N i 0 at hv
                  obtain ⟨v, ev⟩ : ∃ v, cRow P N i 0 = v := ⟨_, rfl⟩
                  rw [ev] at hcb hv
                  have HV := Lib.hid hv
                  clear hv ev hstar h42 hn hr hB hx
                  subst ePd
                  cases v <;>
                  (go_wp2_with fail
                   go_roundw
                   case rel => exact ⟨1, by omega, rfl, HST.out _ _ HN.out.1 HN.out.2.1 HN.out.2.2 HV.out⟩
                   case measure => simp [intOf])
                | succ m =>
                  have hv := gRow_star_succ (one := oneS) (m := m) hlt hle hstar
                  change cRow P N (i + 1) (m + 1) = (cRow P N i (m + 1) || cRow P N (i + 1) m) at hv
                  have hcn := hn.cell (k := m) (by omega)
                  obtain ⟨v, ev⟩ : ∃ v, cRow P N i (m + 1) = v := ⟨_, rfl⟩
                  obtain ⟨u, eu⟩ : ∃ u, cRow P N (i + 1) m = u := ⟨_, rfl⟩
                  rw [ev] at hcb hv
                  rw [eu] at hcn hv
                  have m0 : (0 : Int) ≤ (m : Int) := Int.natCast_nonneg _
                  have m1 : (0 : Int) < (m : Int) + 1 := by omega
                  have ew : IntKind.i64.wrap ((m : Int) + 1 - 1) = (m : Int) := by simp [IntKind.wrap, IntKind.bits, IntKind.signed]; omega
                  have et : ((m : Int) + 1).toNat = m + 1 := by omega
                  have m2 : (m : Int) + 1 ≤ (N.length : Int) := by omega
                  have m3 : (m : Int) < (N.length : Int) + 1 := by omega
                  have m4 : (m : Int) + 1 < (N.length : Int) + 1 := by omega
                  have HV := Lib.hid hv
                  clear hv ev eu hstar h42 hn hr hB k0 k1 k2 hx
                  subst ePd
                  cases v <;> cases u <;>
                  (go_wp2_with fail
                   go_roundw
                   case rel => exact ⟨m + 1 + 1, by omega, by go_num, HST.out _ _ HN.out.1 HN.out.2.1 HN.out.2.2 HV.out⟩
                   case measure => simp [intOf]; omega)
              · rw [decide_eq_false h42] at hb42
                have hstar : cStar P[i] = false := by rw [hx]; exact decide_eq_false h42
                cases k with
                | zero =>
                  have hv := gRow_one_zero (one := oneS) (S := N) hlt hstar
                  change cRow P N (i + 1) 0 = false at hv
                  have HV := Lib.hid hv
                  clear hv hstar h42 hn hr hB hcb hx
                  subst ePd
                  go_wp2_with fail
                  go_region
                  go_wp2_with fail
                  go_roundw
                  case rel =>
                    obtain ⟨r1, r2, r3⟩ := HST.out _ false HN.out.1 HN.out.2.1 HN.out.2.2 HV.out
                    exact ⟨1, by omega, rfl, r1, r2, r3.drew⟩
                  case measure => simp [intOf]
                | succ m =>
                  have hms : m < N.length := by omega
                  have hv := gRow_one_succ (one := oneS) (m := m) hlt hms hstar
                  change cRow P N (i + 1) (m + 1) = (cRow P N i m && oneS P[i] N[m]) at hv
                  have hcm := hr.cell (k := m) (by omega)
                  obtain ⟨v, ev⟩ : ∃ v, cRow P N i m = v := ⟨_, rfl⟩
                  rw [ev] at hcm hv
                  have m0 : (0 : Int) ≤ (m : Int) := Int.natCast_nonneg _
                  have m1 : (0 : Int) < (m : Int) + 1 := by omega
                  have ew : IntKind.i64.wrap ((m : Int) + 1 - 1) = (m : Int) := by simp [IntKind.wrap, IntKind.bits, IntKind.signed]; omega
                  have et : ((m : Int) + 1).toNat = m + 1 := by omega
                  have m2 : (m : Int) + 1 ≤ (N.length : Int) := by omega
                  have m3 : (m : Int) < (N.length : Int) + 1 := by omega
                  have m4 : (m : Int) + 1 < (N.length : Int) + 1 := by omega
                  have m5 : (m : Int) < (N.length : Int) := by omega
                  obtain ⟨nd, eNd, hndB, hnc⟩ := (show Strs wr w4.heap.size A2 c2 N from Row.below hS2 hB (Nat.le_refl _)).at_ hms
                  obtain ⟨y, hy⟩ : ∃ y, N[m] = y := ⟨_, rfl⟩
                  rw [hy] at hnc
                  have hys : y.size ≤ 200 := by rw [← hy]; exact H3.out.2 m hms
                  rw [hx, hy] at hv
                  clear ev hstar h42 hn hr hB k0 k1 k2 hcb hx hy
                  subst ePd eNd
                  cases v with
                  | false =>
                    have HV := Lib.hid (show cRow P N (i + 1) (m + 1) = false from hv)
                    clear hv
                    go_wp2_with fail
                    go_region
                    go_wp2_with fail
                    go_roundw
                    case rel =>
                      obtain ⟨r1, r2, r3⟩ := HST.out _ false HN.out.1 HN.out.2.1 HN.out.2.2 HV.out
                      exact ⟨m + 1 + 1, by omega, by go_num, r1, r2, r3.drew⟩
                    case measure => simp [intOf]; omega
                  | true =>
                    rw [Bool.true_and] at hv
                    have HO := fun W => one_any x y W (by omega) (by omega)
                    obtain ⟨r, er⟩ : ∃ r, oneS x y = r := ⟨_, rfl⟩
                    rw [er] at hv HO
                    have HV := Lib.hid hv
                    have HO2 := Lib.hid HO
                    clear hv HO er
                    have v1 : wr.drew.cell? ⟨g, m, none⟩ = some (.bool true) := hcm
                    have v2 : wr.drew.cell? (pd.add i) = some (.string x) := hpc
                    have v3 : wr.drew.cell? (nd.add m) = some (.string y) := hnc
                    have ew2 : IntKind.i64.wrap (m : Int) = (m : Int) := by simp [IntKind.wrap, IntKind.bits, IntKind.signed]; omega
                    have m6 : (m : Int) < ((N.length + 1 : Nat) : Int) := by omega
                    have m7 : (m : Int) + 1 < ((N.length + 1 : Nat) : Int) := by omega
                    have m8 : (0 : Int) ≤ (m : Int) + 1 := by omega
                    have hgl : g < wr.heap.size := HN.out.2.1.lt
                    have hwl : w4.heap.size ≤ wr.heap.size := HN.out.2.2.size
                    have KM := Lib.hid (fun (W : World) (hb : Below wr.drew.heap.size wr.drew W) => (by
                      obtain ⟨q1, q2, q3⟩ := HN.out
                      have hbb : Below wr.heap.size wr W := ⟨hb.os, hb.tape, hb.output, hb.size, hb.block⟩
                      obtain ⟨b2, t2, z2⟩ := (q1.on hbb).there (k := m + 1) (by omega)
                      exact ⟨b2, (hbb.cell (p := ⟨g, m, none⟩) hgl).trans hcm, (hbb.cell (p := pd.add i) (by rw [add_block]; omega)).trans hpc, (hbb.cell (p := nd.add m) (by rw [add_block]; omega)).trans hnc, t2, z2, fun _ => q1.on hbb, fun _ => q2.on hbb, fun _ => q3.trans (hbb.mono q3.size)⟩ :
                      ∃ b2, W.cell? ⟨g, m, none⟩ = some (.bool true) ∧ W.cell? (pd.add i) = some (.string x) ∧ W.cell? (nd.add m) = some (.string y) ∧ W.cell? ⟨g2, m + 1, none⟩ = some (.bool b2) ∧ W.frozen? ⟨g2, m + 1, none⟩ = false ∧ (Unit → RowTo W g2 (N.length + 1) (m + 1) (cRow P N (i + 1))) ∧ (Unit → RowTo W g (N.length + 1) (N.length + 1) (cRow P N i)) ∧ (Unit → Below w4.heap.size w4 W)))
                    have KS := Lib.hid (fun (W : World) (c1 : W.cell? ⟨g, m, none⟩ = some (.bool true)) (c2 : W.cell? (pd.add i) = some (.string x)) (c3 : W.cell? (nd.add m) = some (.string y)) =>
                      (⟨(World.cell?_setCell_other W _ _ _ (fun e => by have := congrArg Addr.block e; simp at this; omega)).trans c1, (World.cell?_setCell_other W _ _ _ (fun e => by have := congrArg Addr.block e; rw [add_block] at this; simp at this; omega)).trans c2, (World.cell?_setCell_other W _ _ _ (fun e => by have := congrArg Addr.block e; rw [add_block] at this; simp at this; omega)).trans c3⟩ :
                        (W.setCell ⟨g2, m + 1, none⟩ (.bool r)).cell? ⟨g, m, none⟩ = some (.bool true) ∧ (W.setCell ⟨g2, m + 1, none⟩ (.bool r)).cell? (pd.add i) = some (.string x) ∧ (W.setCell ⟨g2, m + 1, none⟩ (.bool r)).cell? (nd.add m) = some (.string y)))
                    go_wp2_with fail
                    go_region_held3 (fun w' => w'.cell? ⟨g, m, none⟩ = some (.bool true) ∧ w'.cell? (pd.add i) = some (.string x) ∧ w'.cell? (nd.add m) = some (.string y))
                      (first | (with_reducible exact ⟨v1, v2, v3⟩) | (with_reducible exact ⟨n1, n2, n3⟩) | (with_reducible exact ⟨o1, o2, o3⟩))
                      (first
                        | (go_at_call 50; (with_reducible refine (HO2.out _).mono ?_); rintro e wm ⟨rfl, hbm⟩; obtain ⟨b2, n1, n2, n3, t2, z2, u1, u2, u3⟩ := KM.out wm hbm; obtain ⟨o1, o2, o3⟩ := KS.out wm n1 n2 n3))
                    go_wp2_with fail
                    go_roundw
                    case rel =>
                      obtain ⟨r1, r2, r3⟩ := HST.out wm _ (u1 ()) (u2 ()) (u3 ()) HV.out
                      exact ⟨m + 1 + 1, by omega, by go_num, r1, r2, r3⟩
                    case measure => simp [intOf]; omega
            · obtain rfl : k = N.length + 1 := by omega
              have k1 : ¬ (N.length : Int) + 1 ≤ (N.length : Int) := by omega
              have HN := Lib.hid (And.intro hn hB)
              clear hn hr hB
              go_wp2_with fail
              go_roundw
              case rel => exact ⟨i + 1, g2, by omega, hg2B, by go_num, rfl, HN.out.1, HN.out.2⟩
              case measure => simp [intOf]; omega
        · obtain rfl : i = P.length := by omega
          have hv := cRow_all P N
          rw [← HR2.out] at hv
          have hce := hrow.cell (k := N.length) (by omega)
          rw [hv] at hce
          have s1 : (0 : Int) ≤ (N.length : Int) := Int.natCast_nonneg _
          have s2 : (N.length : Int) < (N.length : Int) + 1 := by omega
          have HB := Lib.hid (HB4.out.trans (hB.mono HB4.out.size))
          clear hv hrow hB
          go_wp2_with fail
          go_ret
          exact ⟨rfl, HB.out⟩

end Go.Proofs.YtdbikaffmpkgpaaDoor
