/- The Syntax seat, part 4: contracts of the program and of the reference. -/
import Derived.Test.YtcjoiiaankngjaaGreatDoorC3
import Derived.Deep.AppendLies
namespace Go.Proofs.YtcjoiiaankngjaaGreatDoor
set_option maxRecDepth 100000
open Go.RowKit
def tgtEq (T U : Tgt) : Bool := sameI (T.rows 0) (U.rows 0) && sameI (T.rows 1) (U.rows 1) && sameI (T.rows 2) (U.rows 2) && sameI (T.rows 3) (U.rows 3) && (T.name == U.name) && (T.kind == U.kind) && ((T.line : Int) == (U.line : Int)) && (T.cost == U.cost) && (T.retry == U.retry)
def sameT : List Tgt → List Tgt → Bool
 | [], [] => true
 | x :: t, y :: s => tgtEq x y && sameT t s
 | _, _ => false
theorem sameT_len : ∀ (l m : List Tgt), l.length ≠ m.length → sameT l m = false
 | [], [], h => absurd rfl h
 | [], y :: s, _ => rfl
 | x :: t, [], _ => rfl
 | x :: t, y :: s, h => by rw [sameT, sameT_len t s (by simpa using h), Bool.and_false]
def sameB (pl : List Itm) (L : List Tgt) (pm : List Itm) (M : List Tgt) : Bool := sameI pl pm && sameT L M
def SOk (T : Tgt) : Prop := ∀ i, i < 4 → (T.rows i).length ≤ 17179869184
set_option maxHeartbeats 16000000 in
theorem Same_any {w : World} {B : Nat} (hB : B ≤ w.heap.size) {Ap Aq A A' : Option Addr} {np cp nq cq n c n' c' : Nat} {pl pm : List Itm} {tl tm : List (Tgt × (Nat → Value))} (h1 : RB w B Ap np cp A n c pl tl) (h2 : RB w B Aq nq cq A' n' c' pm tm)
   (hp1 : pl.length ≤ 17179869184) (hp2 : pm.length ≤ 17179869184) (ht1 : tl.length ≤ 17179869184) (ht2 : tm.length ≤ 17179869184) (hs1 : ∀ p ∈ tl, SOk p.1) (hs2 : ∀ p ∈ tm, SOk p.1) :
   Calls Tryz.prog 27 #[.agg #[.slice Ap np cp, .slice A n c], .agg #[.slice Aq nq cq, .slice A' n' c']] w (BoolB w (sameB pl (tl.map Prod.fst) pm (tm.map Prod.fst))) := by
 unfold BoolB sameB
 obtain ⟨w1, hw1⟩ : ∃ w1, w.alloc (.cells #[.slice Ap np cp, .slice A n c] 28) = w1 := ⟨_, rfl⟩
 have hb1 : Below w.heap.size w w1 := by rw [← hw1]; exact (Below.refl _ w).alloc (Nat.le_refl _) _
 have F1 : Full w1 w.heap.size 28 [.slice Ap np cp, .slice A n c] := by rw [← hw1]; exact Full.new w 28 _
 have s1 : w1.heap.size = w.heap.size + 1 := by rw [← hw1]; exact World.size_alloc _ _
 obtain ⟨w2, hw2⟩ : ∃ w2, w1.alloc (.cells #[.slice Aq nq cq, .slice A' n' c'] 28) = w2 := ⟨_, rfl⟩
 have hb2 : Below w1.heap.size w1 w2 := by rw [← hw2]; exact (Below.refl _ w1).alloc (Nat.le_refl _) _
 have F2 : Full w2 w1.heap.size 28 [.slice Aq nq cq, .slice A' n' c'] := by rw [← hw2]; exact Full.new w1 28 _
 have F12 := F1.on hb2
 obtain ⟨r, hr⟩ : ∃ r, w.heap.size = r := ⟨_, rfl⟩
 obtain ⟨q, hq⟩ : ∃ q, w1.heap.size = q := ⟨_, rfl⟩
 rw [hr] at F12
 rw [hq] at F2
 have hbw : Below w.heap.size w w2 := hb1.trans (hb2.mono hb1.size)
 have z0 : w2.cell? ⟨r, 0, none⟩ = some (.slice Ap np cp) := F12.cell 0
 have z1 : w2.cell? ⟨r, 1, none⟩ = some (.slice A n c) := F12.cell 1
 have z2 : w2.cell? ⟨q, 0, none⟩ = some (.slice Aq nq cq) := F2.cell 0
 have z3 : w2.cell? ⟨q, 1, none⟩ = some (.slice A' n' c') := F2.cell 1
 have SM := sameItems_any (w := w2) (Row.below h1.hpl hbw hB : Itms w2 B Ap cp pl) (Row.below h2.hpl hbw hB : Itms w2 B Aq cq pm) (Nat.le_trans hB hbw.size) (by unfold maxLen; omega) (by unfold maxLen; omega)
 rw [h1.hnp, h2.hnp] at SM
 unfold BoolB at SM
 have HF := Lib.hid (And.intro F12 F2)
 have HB := Lib.hid hbw
 have HR1 := Lib.hid h1
 have HR2 := Lib.hid h2
 have HOK := Lib.hid (And.intro hs1 hs2)
 have hcap := h1.htl.2.1
 have hcap' := h2.htl.2.1
 rw [h1.hn] at hcap ht1
 rw [h2.hn] at hcap' ht2
 obtain ⟨P, hP⟩ : ∃ x, sameI pl pm = x := ⟨_, rfl⟩
 obtain ⟨R, hR⟩ : ∃ x, sameT (tl.map Prod.fst) (tm.map Prod.fst) = x := ⟨_, rfl⟩
 rw [hP] at SM
 rw [hP, hR]
 have SM := Lib.hid SM
 have HT := Lib.hid hR
 have hTS : n ≠ n' → R = false := fun h => by rw [← hR]; exact sameT_len _ _ (by rw [List.length_map, List.length_map, h1.hn, h2.hn]; exact h)
 have HTS := Lib.hid hTS
 clear F1 F2 F12 hb1 hb2 hbw s1 h1 h2 hs1 hs2 hP hR hp1 hp2 hTS
 cases P with
 | false =>
  go_enter Tryz.func27, Tryz.ntmps27
  go_wp2_with (first
    | (go_at_call 44; ((with_reducible refine SM.out.mono ?_); rintro en w3 ⟨rfl, hb3⟩; (have HB3 := Lib.hid (HB.out.trans (hb3.mono HB.out.size)))))
    | (fail "arm"))
  go_ret
  exact ⟨rfl, HB3.out⟩
 | true =>
  by_cases hnn : n = n'
  · subst hnn
    have hne : ((n : Int) != (n : Int)) = false := by simp
    have HS := Lib.hid (show sameT ((tl.drop 0).map Prod.fst) ((tm.drop 0).map Prod.fst) = R from HT.out)
    clear HTS
    go_enter Tryz.func27, Tryz.ntmps27
    go_upto_region 5 with (first
      | (go_at_call 44; ((with_reducible refine SM.out.mono ?_); rintro en w3 ⟨rfl, hb3⟩; (have HB3 := Lib.hid (show Below w.heap.size w w3 ∧ Full w3 r 28 [.slice Ap np cp, .slice A n c] ∧ Full w3 q 28 [.slice Aq nq cq, .slice A' n c'] from ⟨HB.out.trans (hb3.mono HB.out.size), HF.out.1.on hb3, HF.out.2.on hb3⟩)); (have y1 : w3.cell? ⟨r, 1, none⟩ = some (.slice A n c) := HB3.out.2.1.cell 1); (have y3 : w3.cell? ⟨q, 1, none⟩ = some (.slice A' n c') := HB3.out.2.2.cell 1); clear hb3))
      | (fail "arm"))
    clear y1 y3
    go_loopw [6] (fun i wr => ∃ k : Nat, i = .int .i64 (k : Int) ∧ k ≤ n ∧ Hid (sameT ((tl.drop k).map Prod.fst) ((tm.drop k).map Prod.fst) = R) ∧ Hid (Below w.heap.size w wr ∧ Full wr r 28 [.slice Ap np cp, .slice A n c] ∧ Full wr q 28 [.slice Aq nq cq, .slice A' n c'])) (fun i _ => n - (intOf i).toNat)
    case atStart => exact ⟨0, rfl, Nat.zero_le _, HS, HB3⟩
    case round =>
     obtain ⟨k, rfl, hk, HR, HW⟩ := hrel
     have hi0 : (0 : Int) ≤ (k : Int) := Int.natCast_nonneg _
     have f1 : wr.cell? ⟨r, 1, none⟩ = some (.slice A n c) := HW.out.2.1.cell 1
     by_cases hlt : k < n
     · have hi1 : (k : Int) < (n : Int) := by omega
       have hdd : decide ((k : Int) < (n : Int)) = true := by simp; omega
       have hkl : k < tl.length := by have := HR1.out.hn; omega
       have hkm : k < tm.length := by have := HR2.out.hn; omega
       obtain ⟨ad, rfl, _, x0, x1, x2, x3, x4, x5, x6, x7, x8⟩ := Tgts.at_ (show Tgts wr B A c tl from Row.below HR1.out.htl HW.out.1 hB) hkl
       obtain ⟨A0, c0, v0, vq0⟩ := (HR1.out.rows tl[k] (List.getElem_mem hkl)) 0 (by decide)
       obtain ⟨A1, c1, v1, vq1⟩ := (HR1.out.rows tl[k] (List.getElem_mem hkl)) 1 (by decide)
       obtain ⟨A2, c2, v2, vq2⟩ := (HR1.out.rows tl[k] (List.getElem_mem hkl)) 2 (by decide)
       obtain ⟨A3, c3, v3, vq3⟩ := (HR1.out.rows tl[k] (List.getElem_mem hkl)) 3 (by decide)
       obtain ⟨y0, hy0⟩ : ∃ y, str tl[k].1.name = y := ⟨_, rfl⟩
       obtain ⟨y1, hy1⟩ : ∃ y, tl[k].1.kind = y := ⟨_, rfl⟩
       obtain ⟨y2, hy2⟩ : ∃ y : Nat, tl[k].1.line = y := ⟨_, rfl⟩
       obtain ⟨y7, hy7⟩ : ∃ y, tl[k].1.cost = y := ⟨_, rfl⟩
       obtain ⟨y8, hy8⟩ : ∃ y, tl[k].1.retry = y := ⟨_, rfl⟩
       obtain ⟨n0, hn0⟩ : ∃ y, (tl[k].1.rows 0).length = y := ⟨_, rfl⟩
       rw [hn0] at v0
       obtain ⟨n1, hn1⟩ : ∃ y, (tl[k].1.rows 1).length = y := ⟨_, rfl⟩
       rw [hn1] at v1
       obtain ⟨n2, hn2⟩ : ∃ y, (tl[k].1.rows 2).length = y := ⟨_, rfl⟩
       rw [hn2] at v2
       obtain ⟨n3, hn3⟩ : ∃ y, (tl[k].1.rows 3).length = y := ⟨_, rfl⟩
       rw [hn3] at v3
       rw [hy0] at x0
       rw [hy1] at x1
       rw [hy2] at x2
       rw [v0] at x3
       rw [v1] at x4
       rw [v2] at x5
       rw [v3] at x6
       rw [hy7] at x7
       rw [hy8] at x8
       obtain ⟨w4, hw4⟩ : ∃ w4, wr.alloc (.cells #[.string y0, .int .i64 y1, .int .i64 (y2 : Int), .slice A0 n0 c0, .slice A1 n1 c1, .slice A2 n2 c2, .slice A3 n3 c3, .int .i64 y7, .int .i64 y8] 50) = w4 := ⟨_, rfl⟩
       have hb4 : Below wr.heap.size wr w4 := by rw [← hw4]; exact (Below.refl _ wr).alloc (Nat.le_refl _) _
       have F4 : Full w4 wr.heap.size 50 [.string y0, .int .i64 y1, .int .i64 (y2 : Int), .slice A0 n0 c0, .slice A1 n1 c1, .slice A2 n2 c2, .slice A3 n3 c3, .int .i64 y7, .int .i64 y8] := by rw [← hw4]; exact Full.new wr 50 _
       obtain ⟨ea, hea⟩ : ∃ u, wr.heap.size = u := ⟨_, rfl⟩
       rw [hea] at F4
       obtain ⟨ae, rfl, _, o0, o1, o2, o3, o4, o5, o6, o7, o8⟩ := Tgts.at_ (show Tgts w4 B A' c' tm from Row.below HR2.out.htl (HW.out.1.trans (hb4.mono HW.out.1.size)) hB) hkm
       obtain ⟨D0, d0, t0, tq0⟩ := (HR2.out.rows tm[k] (List.getElem_mem hkm)) 0 (by decide)
       obtain ⟨D1, d1, t1, tq1⟩ := (HR2.out.rows tm[k] (List.getElem_mem hkm)) 1 (by decide)
       obtain ⟨D2, d2, t2, tq2⟩ := (HR2.out.rows tm[k] (List.getElem_mem hkm)) 2 (by decide)
       obtain ⟨D3, d3, t3, tq3⟩ := (HR2.out.rows tm[k] (List.getElem_mem hkm)) 3 (by decide)
       obtain ⟨u0, hu0⟩ : ∃ y, str tm[k].1.name = y := ⟨_, rfl⟩
       obtain ⟨u1, hu1⟩ : ∃ y, tm[k].1.kind = y := ⟨_, rfl⟩
       obtain ⟨u2, hu2⟩ : ∃ y : Nat, tm[k].1.line = y := ⟨_, rfl⟩
       obtain ⟨u7, hu7⟩ : ∃ y, tm[k].1.cost = y := ⟨_, rfl⟩
       obtain ⟨u8, hu8⟩ : ∃ y, tm[k].1.retry = y := ⟨_, rfl⟩
       obtain ⟨m0, hm0⟩ : ∃ y, (tm[k].1.rows 0).length = y := ⟨_, rfl⟩
       rw [hm0] at t0
       obtain ⟨m1, hm1⟩ : ∃ y, (tm[k].1.rows 1).length = y := ⟨_, rfl⟩
       rw [hm1] at t1
       obtain ⟨m2, hm2⟩ : ∃ y, (tm[k].1.rows 2).length = y := ⟨_, rfl⟩
       rw [hm2] at t2
       obtain ⟨m3, hm3⟩ : ∃ y, (tm[k].1.rows 3).length = y := ⟨_, rfl⟩
       rw [hm3] at t3
       rw [hu0] at o0
       rw [hu1] at o1
       rw [hu2] at o2
       rw [t0] at o3
       rw [t1] at o4
       rw [t2] at o5
       rw [t3] at o6
       rw [hu7] at o7
       rw [hu8] at o8
       have g3 : w4.cell? ⟨q, 1, none⟩ = some (.slice (some ae) n c') := (HW.out.2.2.on hb4).cell 1
       obtain ⟨w5, hw5⟩ : ∃ w5, w4.alloc (.cells #[.string u0, .int .i64 u1, .int .i64 (u2 : Int), .slice D0 m0 d0, .slice D1 m1 d1, .slice D2 m2 d2, .slice D3 m3 d3, .int .i64 u7, .int .i64 u8] 50) = w5 := ⟨_, rfl⟩
       have hb5 : Below w4.heap.size w4 w5 := by rw [← hw5]; exact (Below.refl _ w4).alloc (Nat.le_refl _) _
       have F5 : Full w5 w4.heap.size 50 [.string u0, .int .i64 u1, .int .i64 (u2 : Int), .slice D0 m0 d0, .slice D1 m1 d1, .slice D2 m2 d2, .slice D3 m3 d3, .int .i64 u7, .int .i64 u8] := by rw [← hw5]; exact Full.new w4 50 _
       obtain ⟨eb, heb⟩ : ∃ u, w4.heap.size = u := ⟨_, rfl⟩
       rw [heb] at F5
       have F45 := F4.on hb5
       have hbr := HW.out.1.trans ((hb4.mono HW.out.1.size).trans (hb5.mono (Nat.le_trans HW.out.1.size hb4.size)))
       have hRR := HR.out
       rw [List.drop_eq_getElem_cons hkl, List.drop_eq_getElem_cons hkm, List.map_cons, List.map_cons, sameT] at hRR
       have HSA := Lib.hid (fun (i : Nat) (hi : i < 4) => And.intro (HOK.out.1 tl[k] (List.getElem_mem hkl) i hi) (HOK.out.2 tm[k] (List.getElem_mem hkm) i hi))
       obtain ⟨b0, hb0⟩ : ∃ x, sameI (tl[k].1.rows 0) (tm[k].1.rows 0) = x := ⟨_, rfl⟩
       have HC0 := Lib.hid (fun (W : World) (hW : Below w.heap.size w W) => (by
        have z := sameItems_any (w := W) (Row.below vq0 hW hB : Itms W B A0 c0 (tl[k].1.rows 0)) (Row.below tq0 hW hB : Itms W B D0 d0 (tm[k].1.rows 0)) (Nat.le_trans hB hW.size) (by have := (HSA.out 0 (by decide)).1; unfold maxLen; omega) (by have := (HSA.out 0 (by decide)).2; unfold maxLen; omega)
        rw [hn0, hm0, hb0] at z
        exact z : Calls Tryz.prog 44 #[.slice A0 n0 c0, .slice D0 m0 d0] W (BoolB W b0)))
       unfold BoolB at HC0
       obtain ⟨b1, hbb1⟩ : ∃ x, sameI (tl[k].1.rows 1) (tm[k].1.rows 1) = x := ⟨_, rfl⟩
       have HC1 := Lib.hid (fun (W : World) (hW : Below w.heap.size w W) => (by
        have z := sameItems_any (w := W) (Row.below vq1 hW hB : Itms W B A1 c1 (tl[k].1.rows 1)) (Row.below tq1 hW hB : Itms W B D1 d1 (tm[k].1.rows 1)) (Nat.le_trans hB hW.size) (by have := (HSA.out 1 (by decide)).1; unfold maxLen; omega) (by have := (HSA.out 1 (by decide)).2; unfold maxLen; omega)
        rw [hn1, hm1, hbb1] at z
        exact z : Calls Tryz.prog 44 #[.slice A1 n1 c1, .slice D1 m1 d1] W (BoolB W b1)))
       unfold BoolB at HC1
       obtain ⟨b2, hbb2⟩ : ∃ x, sameI (tl[k].1.rows 2) (tm[k].1.rows 2) = x := ⟨_, rfl⟩
       have HC2 := Lib.hid (fun (W : World) (hW : Below w.heap.size w W) => (by
        have z := sameItems_any (w := W) (Row.below vq2 hW hB : Itms W B A2 c2 (tl[k].1.rows 2)) (Row.below tq2 hW hB : Itms W B D2 d2 (tm[k].1.rows 2)) (Nat.le_trans hB hW.size) (by have := (HSA.out 2 (by decide)).1; unfold maxLen; omega) (by have := (HSA.out 2 (by decide)).2; unfold maxLen; omega)
        rw [hn2, hm2, hbb2] at z
        exact z : Calls Tryz.prog 44 #[.slice A2 n2 c2, .slice D2 m2 d2] W (BoolB W b2)))
       unfold BoolB at HC2
       obtain ⟨b3, hbb3⟩ : ∃ x, sameI (tl[k].1.rows 3) (tm[k].1.rows 3) = x := ⟨_, rfl⟩
       have HC3 := Lib.hid (fun (W : World) (hW : Below w.heap.size w W) => (by
        have z := sameItems_any (w := W) (Row.below vq3 hW hB : Itms W B A3 c3 (tl[k].1.rows 3)) (Row.below tq3 hW hB : Itms W B D3 d3 (tm[k].1.rows 3)) (Nat.le_trans hB hW.size) (by have := (HSA.out 3 (by decide)).1; unfold maxLen; omega) (by have := (HSA.out 3 (by decide)).2; unfold maxLen; omega)
        rw [hn3, hm3, hbb3] at z
        exact z : Calls Tryz.prog 44 #[.slice A3 n3 c3, .slice D3 m3 d3] W (BoolB W b3)))
       unfold BoolB at HC3
       have eT : tgtEq tl[k].1 tm[k].1 = (b0 && b1 && b2 && b3 && (y0.toList == u0.toList) && (y1 == u1) && ((y2 : Int) == (u2 : Int)) && (y7 == u7) && (y8 == u8)) := by
        unfold tgtEq
        rw [hb0, hbb1, hbb2, hbb3, hy1, hy2, hy7, hy8, hu1, hu2, hu7, hu8, ← hy0, ← hu0, Lib.toList_data, Lib.toList_data, str_data, str_data]
       rw [eT] at hRR
       have HRR := Lib.hid hRR
       have HW5 := Lib.hid (show Below w.heap.size w w5 ∧ Full w5 r 28 [.slice Ap np cp, .slice (some ad) n c] ∧ Full w5 q 28 [.slice Aq nq cq, .slice (some ae) n c'] from ⟨hbr, (HW.out.2.1.on hb4).on hb5, (HW.out.2.2.on hb4).on hb5⟩)
       have HFB := Lib.hid (And.intro F45 F5)
       obtain ⟨zn, hzn⟩ : ∃ z, (y0.toList == u0.toList) = z := ⟨_, rfl⟩
       obtain ⟨zk, hzk⟩ : ∃ z, (y1 == u1) = z := ⟨_, rfl⟩
       obtain ⟨zl, hzl⟩ : ∃ z, ((y2 : Int) == (u2 : Int)) = z := ⟨_, rfl⟩
       obtain ⟨zc, hzc⟩ : ∃ z, (y7 == u7) = z := ⟨_, rfl⟩
       obtain ⟨zr, hzr⟩ : ∃ z, (y8 == u8) = z := ⟨_, rfl⟩
       rw [hzn, hzk, hzl, hzc, hzr] at HRR
       have p5_0 : w5.cell? ⟨ea, 0, none⟩ = some (.string y0) := F45.cell 0
       have p5_1 : w5.cell? ⟨ea, 1, none⟩ = some (.int .i64 y1) := F45.cell 1
       have p5_2 : w5.cell? ⟨ea, 2, none⟩ = some (.int .i64 (y2 : Int)) := F45.cell 2
       have p5_3 : w5.cell? ⟨ea, 3, none⟩ = some (.slice A0 n0 c0) := F45.cell 3
       have p5_4 : w5.cell? ⟨ea, 4, none⟩ = some (.slice A1 n1 c1) := F45.cell 4
       have p5_5 : w5.cell? ⟨ea, 5, none⟩ = some (.slice A2 n2 c2) := F45.cell 5
       have p5_6 : w5.cell? ⟨ea, 6, none⟩ = some (.slice A3 n3 c3) := F45.cell 6
       have p5_7 : w5.cell? ⟨ea, 7, none⟩ = some (.int .i64 y7) := F45.cell 7
       have p5_8 : w5.cell? ⟨ea, 8, none⟩ = some (.int .i64 y8) := F45.cell 8
       have q5_0 : w5.cell? ⟨eb, 0, none⟩ = some (.string u0) := F5.cell 0
       have q5_1 : w5.cell? ⟨eb, 1, none⟩ = some (.int .i64 u1) := F5.cell 1
       have q5_2 : w5.cell? ⟨eb, 2, none⟩ = some (.int .i64 (u2 : Int)) := F5.cell 2
       have q5_3 : w5.cell? ⟨eb, 3, none⟩ = some (.slice D0 m0 d0) := F5.cell 3
       have q5_4 : w5.cell? ⟨eb, 4, none⟩ = some (.slice D1 m1 d1) := F5.cell 4
       have q5_5 : w5.cell? ⟨eb, 5, none⟩ = some (.slice D2 m2 d2) := F5.cell 5
       have q5_6 : w5.cell? ⟨eb, 6, none⟩ = some (.slice D3 m3 d3) := F5.cell 6
       have q5_7 : w5.cell? ⟨eb, 7, none⟩ = some (.int .i64 u7) := F5.cell 7
       have q5_8 : w5.cell? ⟨eb, 8, none⟩ = some (.int .i64 u8) := F5.cell 8
       clear hy0 hy1 hy2 hy7 hy8 hu0 hu1 hu2 hu7 hu8 hn0 hn1 hn2 hn3 hm0 hm1 hm2 hm3 v0 v1 v2 v3 t0 t1 t2 t3 vq0 vq1 vq2 vq3 tq0 tq1 tq2 tq3 hb0 hbb1 hbb2 hbb3 eT hRR hbr hb4 hb5 F4 F5 F45 HR HW
       have hc1 : n ≤ c := hcap
       have hc2 : n ≤ c' := hcap'
       go_upto_region 13 with (first
         | (go_at_call 44; ((with_reducible refine (HC0.out w5 HW5.out.1).mono ?_); rintro en w6 ⟨rfl, hb6x⟩; (have HB6 := Lib.hid (HW5.out.1.trans (hb6x.mono (HW5.out.1).size))); (have HBx6 := Lib.hid hb6x); (have Fp6 := HFB.out.1.on hb6x); (have Fq6 := HFB.out.2.on hb6x); (have p6_0 : w6.cell? ⟨ea, 0, none⟩ = some (.string y0) := Fp6.cell 0); (have p6_1 : w6.cell? ⟨ea, 1, none⟩ = some (.int .i64 y1) := Fp6.cell 1); (have p6_2 : w6.cell? ⟨ea, 2, none⟩ = some (.int .i64 (y2 : Int)) := Fp6.cell 2); (have p6_3 : w6.cell? ⟨ea, 3, none⟩ = some (.slice A0 n0 c0) := Fp6.cell 3); (have p6_4 : w6.cell? ⟨ea, 4, none⟩ = some (.slice A1 n1 c1) := Fp6.cell 4); (have p6_5 : w6.cell? ⟨ea, 5, none⟩ = some (.slice A2 n2 c2) := Fp6.cell 5); (have p6_6 : w6.cell? ⟨ea, 6, none⟩ = some (.slice A3 n3 c3) := Fp6.cell 6); (have p6_7 : w6.cell? ⟨ea, 7, none⟩ = some (.int .i64 y7) := Fp6.cell 7); (have p6_8 : w6.cell? ⟨ea, 8, none⟩ = some (.int .i64 y8) := Fp6.cell 8); (have q6_0 : w6.cell? ⟨eb, 0, none⟩ = some (.string u0) := Fq6.cell 0); (have q6_1 : w6.cell? ⟨eb, 1, none⟩ = some (.int .i64 u1) := Fq6.cell 1); (have q6_2 : w6.cell? ⟨eb, 2, none⟩ = some (.int .i64 (u2 : Int)) := Fq6.cell 2); (have q6_3 : w6.cell? ⟨eb, 3, none⟩ = some (.slice D0 m0 d0) := Fq6.cell 3); (have q6_4 : w6.cell? ⟨eb, 4, none⟩ = some (.slice D1 m1 d1) := Fq6.cell 4); (have q6_5 : w6.cell? ⟨eb, 5, none⟩ = some (.slice D2 m2 d2) := Fq6.cell 5); (have q6_6 : w6.cell? ⟨eb, 6, none⟩ = some (.slice D3 m3 d3) := Fq6.cell 6); (have q6_7 : w6.cell? ⟨eb, 7, none⟩ = some (.int .i64 u7) := Fq6.cell 7); (have q6_8 : w6.cell? ⟨eb, 8, none⟩ = some (.int .i64 u8) := Fq6.cell 8)))
         | (go_at_call 44; ((with_reducible refine (HC1.out w6 HB6.out).mono ?_); rintro en w7 ⟨rfl, hb7x⟩; (have HB7 := Lib.hid (HB6.out.trans (hb7x.mono (HB6.out).size))); (have HBx7 := Lib.hid hb7x); (have Fp7 := Fp6.on hb7x); (have Fq7 := Fq6.on hb7x); (have p7_0 : w7.cell? ⟨ea, 0, none⟩ = some (.string y0) := Fp7.cell 0); (have p7_1 : w7.cell? ⟨ea, 1, none⟩ = some (.int .i64 y1) := Fp7.cell 1); (have p7_2 : w7.cell? ⟨ea, 2, none⟩ = some (.int .i64 (y2 : Int)) := Fp7.cell 2); (have p7_3 : w7.cell? ⟨ea, 3, none⟩ = some (.slice A0 n0 c0) := Fp7.cell 3); (have p7_4 : w7.cell? ⟨ea, 4, none⟩ = some (.slice A1 n1 c1) := Fp7.cell 4); (have p7_5 : w7.cell? ⟨ea, 5, none⟩ = some (.slice A2 n2 c2) := Fp7.cell 5); (have p7_6 : w7.cell? ⟨ea, 6, none⟩ = some (.slice A3 n3 c3) := Fp7.cell 6); (have p7_7 : w7.cell? ⟨ea, 7, none⟩ = some (.int .i64 y7) := Fp7.cell 7); (have p7_8 : w7.cell? ⟨ea, 8, none⟩ = some (.int .i64 y8) := Fp7.cell 8); (have q7_0 : w7.cell? ⟨eb, 0, none⟩ = some (.string u0) := Fq7.cell 0); (have q7_1 : w7.cell? ⟨eb, 1, none⟩ = some (.int .i64 u1) := Fq7.cell 1); (have q7_2 : w7.cell? ⟨eb, 2, none⟩ = some (.int .i64 (u2 : Int)) := Fq7.cell 2); (have q7_3 : w7.cell? ⟨eb, 3, none⟩ = some (.slice D0 m0 d0) := Fq7.cell 3); (have q7_4 : w7.cell? ⟨eb, 4, none⟩ = some (.slice D1 m1 d1) := Fq7.cell 4); (have q7_5 : w7.cell? ⟨eb, 5, none⟩ = some (.slice D2 m2 d2) := Fq7.cell 5); (have q7_6 : w7.cell? ⟨eb, 6, none⟩ = some (.slice D3 m3 d3) := Fq7.cell 6); (have q7_7 : w7.cell? ⟨eb, 7, none⟩ = some (.int .i64 u7) := Fq7.cell 7); (have q7_8 : w7.cell? ⟨eb, 8, none⟩ = some (.int .i64 u8) := Fq7.cell 8)))
         | (go_at_call 44; ((with_reducible refine (HC2.out w7 HB7.out).mono ?_); rintro en w8 ⟨rfl, hb8x⟩; (have HB8 := Lib.hid (HB7.out.trans (hb8x.mono (HB7.out).size))); (have HBx8 := Lib.hid hb8x); (have Fp8 := Fp7.on hb8x); (have Fq8 := Fq7.on hb8x); (have p8_0 : w8.cell? ⟨ea, 0, none⟩ = some (.string y0) := Fp8.cell 0); (have p8_1 : w8.cell? ⟨ea, 1, none⟩ = some (.int .i64 y1) := Fp8.cell 1); (have p8_2 : w8.cell? ⟨ea, 2, none⟩ = some (.int .i64 (y2 : Int)) := Fp8.cell 2); (have p8_3 : w8.cell? ⟨ea, 3, none⟩ = some (.slice A0 n0 c0) := Fp8.cell 3); (have p8_4 : w8.cell? ⟨ea, 4, none⟩ = some (.slice A1 n1 c1) := Fp8.cell 4); (have p8_5 : w8.cell? ⟨ea, 5, none⟩ = some (.slice A2 n2 c2) := Fp8.cell 5); (have p8_6 : w8.cell? ⟨ea, 6, none⟩ = some (.slice A3 n3 c3) := Fp8.cell 6); (have p8_7 : w8.cell? ⟨ea, 7, none⟩ = some (.int .i64 y7) := Fp8.cell 7); (have p8_8 : w8.cell? ⟨ea, 8, none⟩ = some (.int .i64 y8) := Fp8.cell 8); (have q8_0 : w8.cell? ⟨eb, 0, none⟩ = some (.string u0) := Fq8.cell 0); (have q8_1 : w8.cell? ⟨eb, 1, none⟩ = some (.int .i64 u1) := Fq8.cell 1); (have q8_2 : w8.cell? ⟨eb, 2, none⟩ = some (.int .i64 (u2 : Int)) := Fq8.cell 2); (have q8_3 : w8.cell? ⟨eb, 3, none⟩ = some (.slice D0 m0 d0) := Fq8.cell 3); (have q8_4 : w8.cell? ⟨eb, 4, none⟩ = some (.slice D1 m1 d1) := Fq8.cell 4); (have q8_5 : w8.cell? ⟨eb, 5, none⟩ = some (.slice D2 m2 d2) := Fq8.cell 5); (have q8_6 : w8.cell? ⟨eb, 6, none⟩ = some (.slice D3 m3 d3) := Fq8.cell 6); (have q8_7 : w8.cell? ⟨eb, 7, none⟩ = some (.int .i64 u7) := Fq8.cell 7); (have q8_8 : w8.cell? ⟨eb, 8, none⟩ = some (.int .i64 u8) := Fq8.cell 8)))
         | (go_at_call 44; ((with_reducible refine (HC3.out w8 HB8.out).mono ?_); rintro en w9 ⟨rfl, hb9x⟩; (have HB9 := Lib.hid (HB8.out.trans (hb9x.mono (HB8.out).size))); (have HBx9 := Lib.hid hb9x); (have Fp9 := Fp8.on hb9x); (have Fq9 := Fq8.on hb9x); (have p9_0 : w9.cell? ⟨ea, 0, none⟩ = some (.string y0) := Fp9.cell 0); (have p9_1 : w9.cell? ⟨ea, 1, none⟩ = some (.int .i64 y1) := Fp9.cell 1); (have p9_2 : w9.cell? ⟨ea, 2, none⟩ = some (.int .i64 (y2 : Int)) := Fp9.cell 2); (have p9_3 : w9.cell? ⟨ea, 3, none⟩ = some (.slice A0 n0 c0) := Fp9.cell 3); (have p9_4 : w9.cell? ⟨ea, 4, none⟩ = some (.slice A1 n1 c1) := Fp9.cell 4); (have p9_5 : w9.cell? ⟨ea, 5, none⟩ = some (.slice A2 n2 c2) := Fp9.cell 5); (have p9_6 : w9.cell? ⟨ea, 6, none⟩ = some (.slice A3 n3 c3) := Fp9.cell 6); (have p9_7 : w9.cell? ⟨ea, 7, none⟩ = some (.int .i64 y7) := Fp9.cell 7); (have p9_8 : w9.cell? ⟨ea, 8, none⟩ = some (.int .i64 y8) := Fp9.cell 8); (have q9_0 : w9.cell? ⟨eb, 0, none⟩ = some (.string u0) := Fq9.cell 0); (have q9_1 : w9.cell? ⟨eb, 1, none⟩ = some (.int .i64 u1) := Fq9.cell 1); (have q9_2 : w9.cell? ⟨eb, 2, none⟩ = some (.int .i64 (u2 : Int)) := Fq9.cell 2); (have q9_3 : w9.cell? ⟨eb, 3, none⟩ = some (.slice D0 m0 d0) := Fq9.cell 3); (have q9_4 : w9.cell? ⟨eb, 4, none⟩ = some (.slice D1 m1 d1) := Fq9.cell 4); (have q9_5 : w9.cell? ⟨eb, 5, none⟩ = some (.slice D2 m2 d2) := Fq9.cell 5); (have q9_6 : w9.cell? ⟨eb, 6, none⟩ = some (.slice D3 m3 d3) := Fq9.cell 6); (have q9_7 : w9.cell? ⟨eb, 7, none⟩ = some (.int .i64 u7) := Fq9.cell 7); (have q9_8 : w9.cell? ⟨eb, 8, none⟩ = some (.int .i64 u8) := Fq9.cell 8)))
         | (fail "arm"))
       have HW9 := Lib.hid (show Below w.heap.size w w9 ∧ Full w9 r 28 [.slice Ap np cp, .slice (some ad) n c] ∧ Full w9 q 28 [.slice Aq nq cq, .slice (some ae) n c'] from ⟨HB9.out, (((HW5.out.2.1.on HBx6.out).on HBx7.out).on HBx8.out).on HBx9.out, (((HW5.out.2.2.on HBx6.out).on HBx7.out).on HBx8.out).on HBx9.out⟩)
       clear p5_0 q5_0 p5_1 q5_1 p5_2 q5_2 p5_3 q5_3 p5_4 q5_4 p5_5 q5_5 p5_6 q5_6 p5_7 q5_7 p5_8 q5_8 p6_0 q6_0 p6_1 q6_1 p6_2 q6_2 p6_3 q6_3 p6_4 q6_4 p6_5 q6_5 p6_6 q6_6 p6_7 q6_7 p6_8 q6_8 p7_0 q7_0 p7_1 q7_1 p7_2 q7_2 p7_3 q7_3 p7_4 q7_4 p7_5 q7_5 p7_6 q7_6 p7_7 q7_7 p7_8 q7_8 p8_0 q8_0 p8_1 q8_1 p8_2 q8_2 p8_3 q8_3 p8_4 q8_4 p8_5 q8_5 p8_6 q8_6 p8_7 q8_7 p8_8 q8_8
       cases b0 with
       | false => ((go_wp2; go_ret; (have e := HRR.out); simp at e; subst e; exact ⟨rfl, HW9.out.1⟩))
       | true =>
        cases b1 with
        | false => ((go_wp2; go_ret; (have e := HRR.out); simp at e; subst e; exact ⟨rfl, HW9.out.1⟩))
        | true =>
         cases b2 with
         | false => ((go_wp2; go_ret; (have e := HRR.out); simp at e; subst e; exact ⟨rfl, HW9.out.1⟩))
         | true =>
          cases b3 with
          | false => ((go_wp2; go_ret; (have e := HRR.out); simp at e; subst e; exact ⟨rfl, HW9.out.1⟩))
          | true =>
           cases zn with
           | false => ((have fa : ¬ y0.toList = u0.toList := by simpa using hzn); (have fb : (y0.toList != u0.toList) = true := by simpa using fa); (go_wp2; go_ret; (have e := HRR.out); simp at e; subst e; exact ⟨rfl, HW9.out.1⟩))
           | true =>
            have fazn : y0.toList = u0.toList := by simpa using hzn
            have fbzn : (y0.toList != u0.toList) = false := by simpa using fazn
            cases zk with
            | false => ((have fa : ¬ y1 = u1 := by simpa using hzk); (have fb : (y1 != u1) = true := by simpa using fa); (go_wp2; go_ret; (have e := HRR.out); simp at e; subst e; exact ⟨rfl, HW9.out.1⟩))
            | true =>
             have fazk : y1 = u1 := by simpa using hzk
             have fbzk : (y1 != u1) = false := by simpa using fazk
             cases zl with
             | false => ((have fa : ¬ (y2 : Int) = (u2 : Int) := by simpa using hzl); (have fb : ((y2 : Int) != (u2 : Int)) = true := by simpa using fa); (go_wp2; go_ret; (have e := HRR.out); simp at e; subst e; exact ⟨rfl, HW9.out.1⟩))
             | true =>
              have fazl : (y2 : Int) = (u2 : Int) := by simpa using hzl
              have fbzl : ((y2 : Int) != (u2 : Int)) = false := by simpa using fazl
              cases zc with
              | false => ((have fa : ¬ y7 = u7 := by simpa using hzc); (have fb : (y7 != u7) = true := by simpa using fa); (go_wp2; go_ret; (have e := HRR.out); simp at e; subst e; exact ⟨rfl, HW9.out.1⟩))
              | true =>
               have fazc : y7 = u7 := by simpa using hzc
               have fbzc : (y7 != u7) = false := by simpa using fazc
               cases zr with
               | false => ((have fa : ¬ y8 = u8 := by simpa using hzr); (have fb : (y8 != u8) = true := by simpa using fa); (go_wp2; go_ret; (have e := HRR.out); simp at e; subst e; exact ⟨rfl, HW9.out.1⟩))
               | true =>
                have fazr : y8 = u8 := by simpa using hzr
                have fbzr : (y8 != u8) = false := by simpa using fazr
                (go_wp2; go_roundw; (case rel => exact ⟨k + 1, by simp, hlt, Lib.hid (by have e := HRR.out; simpa using e), HW9⟩); (case measure => show n - ((k : Int) + 1).toNat < n - (k : Int).toNat; omega))
     · obtain rfl : k = n := by omega
       have hdd : decide ((k : Int) < (k : Int)) = false := by simp
       have e : R = true := by
        have q := HR.out
        rw [List.drop_eq_nil_of_le (by rw [HR1.out.hn]; exact Nat.le_refl _), List.drop_eq_nil_of_le (by rw [HR2.out.hn]; exact Nat.le_refl _)] at q
        exact q.symm
       subst e
       have HB := Lib.hid HW.out.1
       go_wp2
       go_ret
       exact ⟨rfl, HB.out⟩
  · have hne : ((n : Int) != (n' : Int)) = true := by simp; omega
    have hR0 := HTS.out hnn
    subst hR0
    clear HTS HT
    go_enter Tryz.func27, Tryz.ntmps27
    go_wp2_with (first
      | (go_at_call 44; ((with_reducible refine SM.out.mono ?_); rintro en w3 ⟨rfl, hb3⟩; (have HB3 := Lib.hid (HB.out.trans (hb3.mono HB.out.size))); (have y1 : w3.cell? ⟨r, 1, none⟩ = some (.slice A n c) := (HF.out.1.on hb3).cell 1); (have y3 : w3.cell? ⟨q, 1, none⟩ = some (.slice A' n' c') := (HF.out.2.on hb3).cell 1)))
      | (fail "arm"))
    go_ret
    exact ⟨rfl, HB3.out⟩
def x1 : ByteArray := ⟨#[116, 97, 114, 103, 101, 116, 32, 97, 32, 123, 32, 115, 114, 99, 115, 32, 34, 120, 46, 103, 111, 34, 44, 32, 103, 108, 111, 98, 40, 34, 42, 46, 99, 34, 41, 59, 32, 100, 101, 112, 115, 32, 108, 105, 110, 117, 120, 32, 34, 47, 47, 98, 58, 99, 34, 59, 32, 125]⟩
def x2 : ByteArray := ⟨#[116, 97, 114, 103, 101, 116, 32, 97, 32, 123, 32, 107, 105, 110, 100, 32, 108, 105, 98, 59, 32, 107, 105, 110, 100, 32, 108, 105, 98, 59, 32, 125]⟩
def x3 : ByteArray := ⟨#[116, 97, 114, 103, 101, 116, 32, 97, 32, 123, 32, 99, 111, 115, 116, 32, 48, 59, 32, 125]⟩
def x4 : ByteArray := ⟨#[116, 97, 114, 103, 101, 116, 32, 97, 32, 123, 10, 100, 101, 112, 115, 32, 103, 108, 111, 98, 40, 34, 120, 34, 41, 59, 32, 125]⟩
theorem px3 : (pParse x3.data.toList).2 = (1, 41) := by kernel_rfl
theorem px2 : (pParse x2.data.toList).2 = (1, 42) := by kernel_rfl
theorem px4 : (pParse x4.data.toList).2 = (2, 40) := by kernel_rfl
theorem px1 : (pParse x1.data.toList).2 = (0, 0) := by kernel_rfl
def wantT : Tgt := ⟨[97], 1, 1, fun i => if i = 0 then [⟨[120, 46, 103, 111], false, [], 1⟩, ⟨[42, 46, 99], true, [], 1⟩] else if i = 1 then [⟨[47, 47, 98, 58, 99], false, [108, 105, 110, 117, 120], 1⟩] else [], 1, 0, 0, fun _ => false⟩
def wantS : List UInt8 := [116, 97, 114, 103, 101, 116, 32, 97, 32, 123, 10, 32, 32, 107, 105, 110, 100, 32, 108, 105, 98, 59, 10, 32, 32, 115, 114, 99, 115, 32, 34, 120, 46, 103, 111, 34, 44, 32, 103, 108, 111, 98, 40, 34, 42, 46, 99, 34, 41, 59, 10, 32, 32, 100, 101, 112, 115, 32, 108, 105, 110, 117, 120, 32, 34, 47, 47, 98, 58, 99, 34, 59, 10, 125, 10]
theorem same1 : sameB (pParse x1.data.toList).1.1 (pParse x1.data.toList).1.2 [] [wantT] = true := by kernel_rfl
theorem print1 : pPrint (pParse x1.data.toList).1.1 (pParse x1.data.toList).1.2 = wantS := by kernel_rfl
def strOkB (s : List UInt8) : Bool := s.all (fun b => decide (b.toNat < 128)) && decide (s.length ≤ 4294967000)
theorem strOkB_ok {s : List UInt8} (h : strOkB s = true) : StrOk s := by
 unfold strOkB at h
 simp only [Bool.and_eq_true, List.all_eq_true, decide_eq_true_eq] at h
 exact ⟨fun b hb => h.1 b hb, h.2⟩
def itmsOkB (l : List Itm) : Bool := l.all (fun i => strOkB i.tx && strOkB i.pl) && decide (l.length ≤ 17179869184)
theorem itmsOkB_ok {l : List Itm} (h : itmsOkB l = true) : l.length ≤ 17179869184 ∧ ∀ i ∈ l, ItmOk i := by
 unfold itmsOkB at h
 simp only [Bool.and_eq_true, List.all_eq_true, decide_eq_true_eq] at h
 exact ⟨h.2, fun i hi => ⟨strOkB_ok (h.1 i hi).1, strOkB_ok (h.1 i hi).2⟩⟩
def tOkB (T : Tgt) : Bool := strOkB T.name && itmsOkB (T.rows 0) && itmsOkB (T.rows 1) && itmsOkB (T.rows 2) && itmsOkB (T.rows 3)
theorem tOkB_ok {T : Tgt} (h : tOkB T = true) : TOk T := by
 unfold tOkB at h
 simp only [Bool.and_eq_true] at h
 obtain ⟨⟨⟨⟨h0, h1⟩, h2⟩, h3⟩, h4⟩ := h
 refine ⟨strOkB_ok h0, fun i hi => ?_⟩
 obtain rfl | rfl | rfl | rfl : i = 0 ∨ i = 1 ∨ i = 2 ∨ i = 3 := by omega
 · exact itmsOkB_ok h1
 · exact itmsOkB_ok h2
 · exact itmsOkB_ok h3
 · exact itmsOkB_ok h4
def bOkB (pl : List Itm) (L : List Tgt) : Bool := itmsOkB pl && L.all tOkB && decide (L.length ≤ 17179869184)
theorem bOkB_ok {pl : List Itm} {tl : List (Tgt × (Nat → Value))} (h : bOkB pl (tl.map Prod.fst) = true) : BOk pl tl := by
 unfold bOkB at h
 simp only [Bool.and_eq_true, List.all_eq_true, decide_eq_true_eq] at h
 obtain ⟨⟨h0, h1⟩, h2⟩ := h
 exact ⟨(itmsOkB_ok h0).1, (itmsOkB_ok h0).2, by simpa using h2, fun p hp => tOkB_ok (h1 p.1 (List.mem_map_of_mem hp))⟩
theorem ok1 : bOkB (pParse x1.data.toList).1.1 (pParse x1.data.toList).1.2 = true := by kernel_rfl
theorem ascB {s : ByteArray} (h : strOkB s.data.toList = true) : Asc s.data.toList ∧ s.size ≤ 4294967000 := ⟨(strOkB_ok h).1, by rw [← data_len]; exact (strOkB_ok h).2⟩
theorem ax1 : strOkB x1.data.toList = true := by kernel_rfl
theorem ax2 : strOkB x2.data.toList = true := by kernel_rfl
theorem ax3 : strOkB x3.data.toList = true := by kernel_rfl
theorem ax4 : strOkB x4.data.toList = true := by kernel_rfl
theorem toBelow {w w' : World} (h : Turn (fun _ => False) w w') : Below w.heap.size w w' := ⟨h.os, h.tape, h.output, h.size, fun g hg => h.block g hg id⟩
theorem BuildAt.rb {w : World} {base : Nat} {v : Value} {pl : List Itm} {L : List Tgt} (h : BuildAt w base v pl L) : ∃ Ap cp A n c tl, v = .agg #[.slice Ap pl.length cp, .slice A n c] ∧ RB w w.heap.size Ap pl.length cp A n c pl tl ∧ tl.map Prod.fst = L := by
 obtain ⟨Vp, A, n, c, tl, e, h1, h2, h3, h4, h5⟩ := h
 obtain ⟨Ap, cp, rfl⟩ := own_form h5
 subst h2
 refine ⟨Ap, cp, A, tl.length, c, tl, e, ⟨Row.own h5, rfl, Row.own h1, rfl, fun p hp i hi => ?_⟩, h3⟩
 have z := h4 p hp i hi
 obtain ⟨A', c', e'⟩ := own_form z
 rw [e'] at z
 exact ⟨A', c', e', Row.own z⟩
theorem parse_x {w : World} (hL : Laid w) (s : ByteArray) (hs : strOkB s.data.toList = true) {l e : Int} (hr : (pParse s.data.toList).2 = (l, e)) :
   Calls Tryz.prog 26 #[.string s] w (fun en w' => ∃ Ap np cp A n c tl, en = .returned (.tuple #[.agg #[.slice Ap np cp, .slice A n c], .int .i64 l, .int .i64 e]) ∧ RB w' w'.heap.size Ap np cp A n c (pParse s.data.toList).1.1 tl ∧ tl.map Prod.fst = (pParse s.data.toList).1.2 ∧ Below w.heap.size w w') := by
 refine (parse_any s hL hL.size (ascB hs).1 (ascB hs).2).mono ?_
 rintro en w' ⟨v, he, hB, hT⟩
 obtain ⟨Ap, cp, A, n, c, tl, rfl, hR, hm⟩ := hB.rb
 rw [hr] at he
 exact ⟨Ap, _, cp, A, n, c, tl, he, hR, hm, toBelow hT⟩
set_option maxHeartbeats 16000000 in
theorem sanity_any {w : World} (hL : Laid w) (hI : Ito w) : Calls Tryz.prog 13 #[] w (BoolB w true) := by
 unfold BoolB
 have HI := Lib.hid hI
 have HL0 := Lib.hid hL
 have H1 := Lib.hid (show Calls Tryz.prog 26 #[.string ⟨#[116, 97, 114, 103, 101, 116, 32, 97, 32, 123, 32, 115, 114, 99, 115, 32, 34, 120, 46, 103, 111, 34, 44, 32, 103, 108, 111, 98, 40, 34, 42, 46, 99, 34, 41, 59, 32, 100, 101, 112, 115, 32, 108, 105, 110, 117, 120, 32, 34, 47, 47, 98, 58, 99, 34, 59, 32, 125]⟩] w _ from parse_x hL x1 ax1 px1)
 clear hL hI
 go_enter Tryz.func13, Tryz.ntmps13
 go_upto_region 2 with (first
   | (go_at_call 26; ((with_reducible refine H1.out.mono ?_); rintro en wa ⟨Ap1, np1, cp1, A1, n1, c1, tl1, rfl, hR1, hm1, hb1⟩; (have HR1 := Lib.hid hR1); (have HM1 := Lib.hid hm1); (have HB1 := Lib.hid hb1); clear hR1 hm1 hb1))
   | (fail "arm"))
 obtain ⟨w1, hw1⟩ : ∃ v, wa.alloc (.cells #[.slice Ap1 np1 cp1, .slice A1 n1 c1] 28) = v := ⟨_, rfl⟩
 have kb1 : Below wa.heap.size wa w1 := by rw [← hw1]; exact (Below.refl _ wa).alloc (Nat.le_refl _) _
 have hF1 : Full w1 wa.heap.size 28 [.slice Ap1 np1 cp1, .slice A1 n1 c1] := by rw [← hw1]; exact Full.new wa 28 _
 obtain ⟨t1, ht1⟩ : ∃ t, wa.heap.size = t := ⟨_, rfl⟩
 rw [ht1] at hF1
 have HFF1 := Lib.hid hF1
 rw [hw1, ht1]
 have HW1 := Lib.hid (show Below w.heap.size w w1 ∧ Laid w1 ∧ Below wa.heap.size wa w1 ∧ Full w1 t1 28 [.slice Ap1 np1 cp1, .slice A1 n1 c1] from by
   have z : Below w.heap.size w w1 := HB1.out.trans (kb1.mono HB1.out.size)
   exact ⟨z, HL0.out.on z, kb1, HFF1.out⟩)
 clear hw1 kb1 hF1
 have H2 := Lib.hid (show Calls Tryz.prog 26 #[.string ⟨#[116, 97, 114, 103, 101, 116, 32, 97, 32, 123, 32, 107, 105, 110, 100, 32, 108, 105, 98, 59, 32, 107, 105, 110, 100, 32, 108, 105, 98, 59, 32, 125]⟩] w1 _ from parse_x HW1.out.2.1 x2 ax2 px2)
 go_upto_region 3 with (first
   | (go_at_call 26; ((with_reducible refine H2.out.mono ?_); rintro en wx2 ⟨Ap2, np2, cp2, A2, n2, c2, tl2, rfl, hR, hm, hb⟩; (have HB2 := Lib.hid hb); clear hR hm hb))
   | (fail "arm"))
 obtain ⟨w2, hw2⟩ : ∃ v, wx2.alloc (.cells #[.slice Ap2 np2 cp2, .slice A2 n2 c2] 28) = v := ⟨_, rfl⟩
 have kb2 : Below wx2.heap.size wx2 w2 := by rw [← hw2]; exact (Below.refl _ wx2).alloc (Nat.le_refl _) _
 rw [hw2]
 have HW2 := Lib.hid (show Below w.heap.size w w2 ∧ Laid w2 ∧ Below wa.heap.size wa w2 ∧ Full w2 t1 28 [.slice Ap1 np1 cp1, .slice A1 n1 c1] from by
   have z : Below w.heap.size w w2 := (HW1.out.1.trans (HB2.out.mono HW1.out.1.size)).trans (kb2.mono (Nat.le_trans HW1.out.1.size HB2.out.size))
   exact ⟨z, HL0.out.on z, (HW1.out.2.2.1.trans (HB2.out.mono HW1.out.2.2.1.size)).trans (kb2.mono (Nat.le_trans HW1.out.2.2.1.size HB2.out.size)), (HW1.out.2.2.2.on HB2.out).on kb2⟩)
 clear hw2 kb2
 have H3 := Lib.hid (show Calls Tryz.prog 26 #[.string ⟨#[116, 97, 114, 103, 101, 116, 32, 97, 32, 123, 32, 99, 111, 115, 116, 32, 48, 59, 32, 125]⟩] w2 _ from parse_x HW2.out.2.1 x3 ax3 px3)
 go_upto_region 4 with (first
   | (go_at_call 26; ((with_reducible refine H3.out.mono ?_); rintro en wx3 ⟨Ap3, np3, cp3, A3, n3, c3, tl3, rfl, hR, hm, hb⟩; (have HB3 := Lib.hid hb); clear hR hm hb))
   | (fail "arm"))
 obtain ⟨w3, hw3⟩ : ∃ v, wx3.alloc (.cells #[.slice Ap3 np3 cp3, .slice A3 n3 c3] 28) = v := ⟨_, rfl⟩
 have kb3 : Below wx3.heap.size wx3 w3 := by rw [← hw3]; exact (Below.refl _ wx3).alloc (Nat.le_refl _) _
 rw [hw3]
 have HW3 := Lib.hid (show Below w.heap.size w w3 ∧ Laid w3 ∧ Below wa.heap.size wa w3 ∧ Full w3 t1 28 [.slice Ap1 np1 cp1, .slice A1 n1 c1] from by
   have z : Below w.heap.size w w3 := (HW2.out.1.trans (HB3.out.mono HW2.out.1.size)).trans (kb3.mono (Nat.le_trans HW2.out.1.size HB3.out.size))
   exact ⟨z, HL0.out.on z, (HW2.out.2.2.1.trans (HB3.out.mono HW2.out.2.2.1.size)).trans (kb3.mono (Nat.le_trans HW2.out.2.2.1.size HB3.out.size)), (HW2.out.2.2.2.on HB3.out).on kb3⟩)
 clear hw3 kb3
 have H4 := Lib.hid (show Calls Tryz.prog 26 #[.string ⟨#[116, 97, 114, 103, 101, 116, 32, 97, 32, 123, 10, 100, 101, 112, 115, 32, 103, 108, 111, 98, 40, 34, 120, 34, 41, 59, 32, 125]⟩] w3 _ from parse_x HW3.out.2.1 x4 ax4 px4)
 go_upto_region 5 with (first
   | (go_at_call 26; ((with_reducible refine H4.out.mono ?_); rintro en wx4 ⟨Ap4, np4, cp4, A4, n4, c4, tl4, rfl, hR, hm, hb⟩; (have HB4 := Lib.hid hb); clear hR hm hb))
   | (fail "arm"))
 obtain ⟨w4, hw4⟩ : ∃ v, wx4.alloc (.cells #[.slice Ap4 np4 cp4, .slice A4 n4 c4] 28) = v := ⟨_, rfl⟩
 have kb4 : Below wx4.heap.size wx4 w4 := by rw [← hw4]; exact (Below.refl _ wx4).alloc (Nat.le_refl _) _
 rw [hw4]
 have HW4 := Lib.hid (show Below w.heap.size w w4 ∧ Laid w4 ∧ Below wa.heap.size wa w4 ∧ Full w4 t1 28 [.slice Ap1 np1 cp1, .slice A1 n1 c1] from by
   have z : Below w.heap.size w w4 := (HW3.out.1.trans (HB4.out.mono HW3.out.1.size)).trans (kb4.mono (Nat.le_trans HW3.out.1.size HB4.out.size))
   exact ⟨z, HL0.out.on z, (HW3.out.2.2.1.trans (HB4.out.mono HW3.out.2.2.1.size)).trans (kb4.mono (Nat.le_trans HW3.out.2.2.1.size HB4.out.size)), (HW3.out.2.2.2.on HB4.out).on kb4⟩)
 clear hw4 kb4
 have HF1 := Lib.hid (show Full w4 t1 28 [.slice Ap1 np1 cp1, .slice A1 n1 c1] from HW4.out.2.2.2)
 have hbA : Below w.heap.size w w4 := HW4.out.1
 have HL5 := Lib.hid (HW4.out.2.1)
 obtain ⟨v1, hv1⟩ : ∃ v, w4.alloc (.cells #[.string ⟨#[120, 46, 103, 111]⟩, .bool false, .string ⟨#[]⟩, .int .i64 1, .string ⟨#[42, 46, 99]⟩, .bool true, .string ⟨#[]⟩, .int .i64 1] 52) = v := ⟨_, rfl⟩
 have k1 : Below w4.heap.size w4 v1 := by rw [← hv1]; exact (Below.refl _ w4).alloc (Nat.le_refl _) _
 have F1 : Full v1 w4.heap.size 52 [.string ⟨#[120, 46, 103, 111]⟩, .bool false, .string ⟨#[]⟩, .int .i64 1, .string ⟨#[42, 46, 99]⟩, .bool true, .string ⟨#[]⟩, .int .i64 1] := by rw [← hv1]; exact Full.new w4 52 _
 obtain ⟨g1, hg1⟩ : ∃ g, w4.heap.size = g := ⟨_, rfl⟩
 obtain ⟨v2, hv2⟩ : ∃ v, v1.alloc (.cells #[.string ⟨#[47, 47, 98, 58, 99]⟩, .bool false, .string ⟨#[108, 105, 110, 117, 120]⟩, .int .i64 1] 52) = v := ⟨_, rfl⟩
 have k2 : Below v1.heap.size v1 v2 := by rw [← hv2]; exact (Below.refl _ v1).alloc (Nat.le_refl _) _
 have F2 : Full v2 v1.heap.size 52 [.string ⟨#[47, 47, 98, 58, 99]⟩, .bool false, .string ⟨#[108, 105, 110, 117, 120]⟩, .int .i64 1] := by rw [← hv2]; exact Full.new v1 52 _
 obtain ⟨g2, hg2⟩ : ∃ g, v1.heap.size = g := ⟨_, rfl⟩
 rw [hg1] at F1
 rw [hg2] at F2
 obtain ⟨v3, hv3⟩ : ∃ v, v2.alloc (.cells #[.string ⟨#[97]⟩, .int .i64 1, .int .i64 1, .slice (some ⟨g1, 0, none⟩) 2 2, .slice (some ⟨g2, 0, none⟩) 1 1, .slice none 0 0, .slice none 0 0, .int .i64 1, .int .i64 0] 50) = v := ⟨_, rfl⟩
 have k3 : Below v2.heap.size v2 v3 := by rw [← hv3]; exact (Below.refl _ v2).alloc (Nat.le_refl _) _
 have F3 : Full v3 v2.heap.size 50 [.string ⟨#[97]⟩, .int .i64 1, .int .i64 1, .slice (some ⟨g1, 0, none⟩) 2 2, .slice (some ⟨g2, 0, none⟩) 1 1, .slice none 0 0, .slice none 0 0, .int .i64 1, .int .i64 0] := by rw [← hv3]; exact Full.new v2 50 _
 obtain ⟨g3, hg3⟩ : ∃ g, v2.heap.size = g := ⟨_, rfl⟩
 rw [hg3] at F3
 obtain ⟨v4, hv4⟩ : ∃ v, v3.alloc (.cells #[.slice none 0 0, .slice (some ⟨g3, 0, none⟩) 1 1] 28) = v := ⟨_, rfl⟩
 have k4 : Below v3.heap.size v3 v4 := by rw [← hv4]; exact (Below.refl _ v3).alloc (Nat.le_refl _) _
 have F4 : Full v4 v3.heap.size 28 [.slice none 0 0, .slice (some ⟨g3, 0, none⟩) 1 1] := by rw [← hv4]; exact Full.new v3 28 _
 obtain ⟨g4, hg4⟩ : ∃ g, v3.heap.size = g := ⟨_, rfl⟩
 rw [hg4] at F4
 have kk : Below w4.heap.size w4 v4 := ((k1.trans (k2.mono k1.size)).trans (k3.mono (Nat.le_trans k1.size k2.size))).trans (k4.mono (Nat.le_trans k1.size (Nat.le_trans k2.size k3.size)))
 have FB := HF1.out.on kk
 have G1 := ((F1.on k2).on k3).on k4
 have G2 := (F2.on k3).on k4
 have G3 := F3.on k4
 have i1 : Itms v4 v4.heap.size (some ⟨g1, 0, none⟩) 2 (wantT.rows 0) := Full.row G1 4 2 rfl 2 (Nat.le_refl _)
 have i2 : Itms v4 v4.heap.size (some ⟨g2, 0, none⟩) 1 (wantT.rows 1) := Full.row G2 4 1 rfl 1 (Nat.le_refl _)
 have i3 : Itms v4 v4.heap.size none 0 [] := Row.empty _ _ _
 have RW : RB v4 v4.heap.size none 0 0 (some ⟨g3, 0, none⟩) 1 1 [] [(wantT, fun i => if i = 0 then .slice (some ⟨g1, 0, none⟩) 2 2 else if i = 1 then .slice (some ⟨g2, 0, none⟩) 1 1 else .slice none 0 0)] := by
   refine ⟨i3, rfl, Full.row G3 9 1 rfl 1 (Nat.le_refl _), rfl, fun p hp i hi => ?_⟩
   obtain rfl : p = _ := by simpa using hp
   obtain rfl | rfl | rfl | rfl : i = 0 ∨ i = 1 ∨ i = 2 ∨ i = 3 := by omega
   · exact ⟨some ⟨g1, 0, none⟩, 2, rfl, i1⟩
   · exact ⟨some ⟨g2, 0, none⟩, 1, rfl, i2⟩
   · exact ⟨none, 0, rfl, i3⟩
   · exact ⟨none, 0, rfl, i3⟩
 have RA : RB v4 v4.heap.size Ap1 np1 cp1 A1 n1 c1 (pParse x1.data.toList).1.1 tl1 := by
   have z := HW4.out.2.2.1
   have q := (HR1.out.below (z.trans (kk.mono z.size)) (Nat.le_refl _))
   have hsz : wa.heap.size ≤ v4.heap.size := Nat.le_trans z.size kk.size
   exact ⟨Row.more q.hpl hsz, q.hnp, Row.more q.htl hsz, q.hn, fun p hp i hi => (by
     obtain ⟨A, c, e, r⟩ := q.rows p hp i hi
     exact ⟨A, c, e, Row.more r hsz⟩)⟩
 have hok : BOk (pParse x1.data.toList).1.1 tl1 := bOkB_ok (by rw [HM1.out]; exact ok1)
 have SM := Same_any (Nat.le_refl _) RA RW hok.npl (by simp) hok.ntl (by simp) (fun p hp i hi => ((hok.htl p hp).rows i hi).1) (fun p hp i hi => (by
   obtain rfl : p = _ := by simpa using hp
   obtain rfl | rfl | rfl | rfl : i = 0 ∨ i = 1 ∨ i = 2 ∨ i = 3 := by omega
   all_goals (show (wantT.rows _).length ≤ 17179869184; decide)))
 rw [HM1.out, show ([(wantT, fun i => if i = 0 then Value.slice (some ⟨g1, 0, none⟩) 2 2 else if i = 1 then .slice (some ⟨g2, 0, none⟩) 1 1 else .slice none 0 0)] : List (Tgt × (Nat → Value))).map Prod.fst = [wantT] from rfl, same1] at SM
 unfold BoolB at SM
 have hwv : Below w.heap.size w v4 := hbA.trans (kk.mono hbA.size)
 have HPR := Lib.hid (fun (W : World) (hW : Below v4.heap.size v4 W) => (by
   have hz := hwv.trans (hW.mono hwv.size)
   have z := print_any (Nat.le_trans (Nat.le_refl _) hW.size) (Nat.le_trans HL0.out.size hz.size) (HL0.out.on hz) (HI.out.below hz HL0.out.size) (RA.below hW (Nat.le_refl _)) hok (by rw [HM1.out, print1]; decide)
   rw [HM1.out, print1] at z
   unfold StrB at z
   exact z : Calls Tryz.prog 22 #[.agg #[.slice Ap1 np1 cp1, .slice A1 n1 c1]] W (fun e w' => e = .returned (.string (str wantS)) ∧ Below W.heap.size W w')))
 have SM := Lib.hid SM
 have HV := Lib.hid hwv
 have HFB := Lib.hid FB
 have e1 := FB.cell 0
 have e2 := FB.cell 1
 have e3 := F4.cell 0
 have e4 := F4.cell 1
 dsimp only [List.getElem?_cons_zero, List.getElem?_cons_succ] at e1 e2 e3 e4
 clear F1 F2 F3 F4 k1 k2 k3 k4 kk FB G1 G2 G3 i1 i2 i3 RW RA hok hwv hbA
 go_upto_region 6 with fail
 clear hv1 hv2 hv3 hv4 hg1 hg2 hg3 hg4
 go_upto_region 7 with (first
   | (go_at_call 27; ((with_reducible refine SM.out.mono ?_); rintro en w5 ⟨rfl, hb5⟩; (have HP5 := Lib.hid (HPR.out w5 hb5)); (have HB5 := Lib.hid (HV.out.trans (hb5.mono HV.out.size))); (have F5 := HFB.out.on hb5); (have e5 := F5.cell 0); (have e6 := F5.cell 1); (dsimp only [List.getElem?_cons_zero, List.getElem?_cons_succ] at e5 e6); clear F5 hb5))
   | (fail "arm"))
 obtain ⟨S, hS⟩ : ∃ S, str wantS = S := ⟨_, rfl⟩
 rw [hS] at HP5
 have HS := Lib.hid hS
 have hq : S.toList = [116, 97, 114, 103, 101, 116, 32, 97, 32, 123, 10, 32, 32, 107, 105, 110, 100, 32, 108, 105, 98, 59, 10, 32, 32, 115, 114, 99, 115, 32, 34, 120, 46, 103, 111, 34, 44, 32, 103, 108, 111, 98, 40, 34, 42, 46, 99, 34, 41, 59, 10, 32, 32, 100, 101, 112, 115, 32, 108, 105, 110, 117, 120, 32, 34, 47, 47, 98, 58, 99, 34, 59, 10, 125, 10] := by rw [← hS, Lib.toList_data, str_data]; rfl
 clear hS
 go_wp2_with (first
   | (go_at_call 22; ((with_reducible refine HP5.out.mono ?_); rintro en w6 ⟨rfl, hb6⟩; (have HB6 := Lib.hid (HB5.out.trans (hb6.mono HB5.out.size))); clear hb6))
   | (fail "arm"))
 go_ret
 exact ⟨rfl, HB6.out⟩
theorem letter_any (c : UInt8) (w : World) : Calls Tryz.prog 63 #[.int .u8 (c.toNat : Int)] w (BoolE w (isLet c)) := by
 unfold BoolE
 have hc := c.toNat_lt
 obtain ⟨z, hz, h0, h1⟩ : ∃ z : Int, (c.toNat : Int) = z ∧ 0 ≤ z ∧ z ≤ 255 := ⟨_, rfl, by omega, by omega⟩
 have e : isLet c = ((decide (97 ≤ z) && decide (z ≤ 122)) || (decide (65 ≤ z) && decide (z ≤ 90)) || decide (z = 95)) := by
   unfold isLet
   rw [← hz]
   congr 1
   · congr 1
     · congr 1 <;> (apply decide_eq_decide.2; omega)
     · congr 1 <;> (apply decide_eq_decide.2; omega)
   · apply decide_eq_decide.2; omega
 rw [e, hz]
 clear e hz hc
 go_enter Tryz.func63, Tryz.ntmps63
 go_wp2
 all_goals (go_ret; refine ⟨ret_bool ?_, rfl⟩; first | rfl | (simp_all; done) | (simp; omega) | (rw [Bool.eq_iff_iff]; simp; omega))
theorem rdigit_any (c : UInt8) (w : World) : Calls Tryz.prog 64 #[.int .u8 (c.toNat : Int)] w (BoolE w (isDig c)) := by
 unfold BoolE
 have hc := c.toNat_lt
 obtain ⟨z, hz, h0, h1⟩ : ∃ z : Int, (c.toNat : Int) = z ∧ 0 ≤ z ∧ z ≤ 255 := ⟨_, rfl, by omega, by omega⟩
 have e : isDig c = (decide (48 ≤ z) && decide (z ≤ 57)) := by
   unfold isDig
   rw [← hz]
   congr 1 <;> (apply decide_eq_decide.2; omega)
 rw [e, hz]
 clear e hz hc
 go_enter Tryz.func64, Tryz.ntmps64
 go_wp2
 all_goals (go_ret; refine ⟨ret_bool ?_, rfl⟩; first | rfl | (simp_all; done) | (simp; omega) | (rw [Bool.eq_iff_iff]; simp; omega))
def wordAt (s : List UInt8) (i : Nat) : Bool := match s[i]? with
 | none => false
 | some c => if i = 0 then isLet c else isCont c
theorem run_all (f : UInt8 → Bool) : ∀ s : List UInt8, decide (run f s = s.length) = s.all f
 | [] => rfl
 | c :: t => by
   rw [run, List.all_cons, ← run_all f t]
   by_cases h : f c = true
   · rw [if_pos h, h]; simp
   · rw [if_neg h, show f c = false by simpa using h]; simp
theorem isWordB_iff (s : List UInt8) : isWordB s = true ↔ s ≠ [] ∧ ∀ i, i < s.length → wordAt s i = true := by
 unfold isWordB
 cases s with
 | nil => simp [first]
 | cons c t =>
   by_cases h1 : isLet c = true
   · have e : first (c :: t) = (2, run isCont (c :: t)) := by rw [first, if_pos h1]
     rw [e]
     dsimp only
     rw [run_all]
     simp only [decide_true, Bool.true_and, List.all_eq_true]
     constructor
     · intro h
       refine ⟨by simp, fun i hi => ?_⟩
       unfold wordAt
       rw [List.getElem?_eq_getElem hi]
       dsimp only
       split
       · rename_i h0; subst h0; exact h1
       · exact h _ (List.getElem_mem hi)
     · intro h b hb
       obtain ⟨i, hi, rfl⟩ := List.getElem_of_mem hb
       have := h.2 i hi
       unfold wordAt at this
       rw [List.getElem?_eq_getElem hi] at this
       dsimp only at this
       split at this
       · unfold isCont; rw [this]; rfl
       · exact this
   · have hne : (first (c :: t)).1 ≠ 2 := by
       rw [first, if_neg h1]
       split
       · simp
       · split
         · simp
         · split <;> simp
     constructor
     · intro h
       simp only [Bool.and_eq_true, decide_eq_true_eq] at h
       exact absurd h.1 hne
     · intro h
       have := h.2 0 (by simp)
       unfold wordAt at this
       simp at this
       exact absurd this h1
set_option maxHeartbeats 4000000 in
theorem rWord_any (s : ByteArray) (hs : s.size ≤ 281474976710656) (w : World) : Calls Tryz.prog 39 #[.string s] w (BoolE w (isWordB s.data.toList)) := by
 unfold BoolE
 have hl0 := data_len s
 obtain ⟨R, hR⟩ : ∃ R, isWordB s.data.toList = R := ⟨_, rfl⟩
 rw [hR]
 have HIFF := Lib.hid (isWordB_iff s.data.toList)
 rw [hR, hl0] at HIFF
 have HL := Lib.hid letter_any
 have HD := Lib.hid rdigit_any
 unfold BoolE at HL HD
 clear hR
 have hsi : (s.size : Int) ≤ 281474976710656 := by omega
 go_enter Tryz.func39, Tryz.ntmps39
 go_upto_region 2 with fail
 go_loopw [3] (fun v wr => ∃ k : Nat, v = .int .i64 (k : Int) ∧ k ≤ s.size ∧ Hid (∀ i, i < k → wordAt s.data.toList i = true) ∧ wr = w) (fun v _ => s.size - (intOf v).toNat)
 case atStart => exact ⟨0, rfl, Nat.zero_le _, Lib.hid (fun i hi => absurd hi (Nat.not_lt_zero _)), rfl⟩
 case round =>
   obtain ⟨k, rfl, hk, HA, hww⟩ := hrel
   rw [hww]
   clear hww
   have k0 : (0 : Int) ≤ (k : Int) := Int.natCast_nonneg _
   by_cases hks : k < s.size
   · have k1 : (k : Int) < (s.size : Int) := by omega
     have HW := Lib.hid (show wordAt s.data.toList k = if k = 0 then isLet s[k] else isCont s[k] from by
       unfold wordAt
       rw [List.getElem?_eq_getElem (by rw [hl0]; exact hks)]
       rfl)
     have HNX := Lib.hid (show wordAt s.data.toList k = true → ∀ i, i < k + 1 → wordAt s.data.toList i = true from fun h i hi => by
       rcases Nat.lt_or_ge i k with h' | h'
       · exact HA.out i h'
       · obtain rfl : i = k := by omega
         exact h)
     have HNO := Lib.hid (show wordAt s.data.toList k = false → R = false from fun h => by
       cases R with
       | false => rfl
       | true =>
         have := (HIFF.out.1 rfl).2 k hks
         rw [h] at this
         cases this)
     have L := Lib.hid (HL.out s[k] w)
     have D := Lib.hid (HD.out s[k] w)
     cases hl : isLet s[k] with
     | true =>
       have HWA := Lib.hid (show wordAt s.data.toList k = true from by rw [HW.out]; unfold isCont; rw [hl]; simp)
       rw [hl] at L
       cases hd : isDig s[k]
       all_goals
         rw [hd] at D
         clear hl hd
         go_wp2_with (first
           | (go_at_call 63; ((with_reducible refine L.out.mono ?_); rintro e w1 ⟨rfl, rfl⟩))
           | (go_at_call 64; ((with_reducible refine D.out.mono ?_); rintro e w1 ⟨rfl, rfl⟩))
           | (fail "arm"))
         go_roundw
         case rel => exact ⟨k + 1, by go_num, by omega, Lib.hid (HNX.out HWA.out), by simp⟩
         case measure => simp [intOf]; omega
     | false =>
       rw [hl] at L
       by_cases hk00 : k = 0
       · have HWA := Lib.hid (show wordAt s.data.toList k = false from by rw [HW.out, if_pos hk00, hl])
         have e0 : ((k : Int) == 0) = true := by rw [hk00]; rfl
         clear hk00
         cases hd : isDig s[k]
         all_goals
           rw [hd] at D
           clear hl hd
           go_wp2_with (first
             | (go_at_call 63; ((with_reducible refine L.out.mono ?_); rintro e w1 ⟨rfl, rfl⟩))
             | (go_at_call 64; ((with_reducible refine D.out.mono ?_); rintro e w1 ⟨rfl, rfl⟩))
             | (fail "arm"))
           go_ret
           have e := HNO.out HWA.out
           subst e
           exact ⟨rfl, rfl⟩
       · have e0 : ((k : Int) == 0) = false := by simp; omega
         cases hd : isDig s[k] with
         | true =>
           have HWA := Lib.hid (show wordAt s.data.toList k = true from by rw [HW.out, if_neg hk00]; unfold isCont; rw [hd]; simp)
           rw [hd] at D
           clear hl hd
           go_wp2_with (first
             | (go_at_call 63; ((with_reducible refine L.out.mono ?_); rintro e w1 ⟨rfl, rfl⟩))
             | (go_at_call 64; ((with_reducible refine D.out.mono ?_); rintro e w1 ⟨rfl, rfl⟩))
             | (fail "arm"))
           go_roundw
           case rel => exact ⟨k + 1, by go_num, by omega, Lib.hid (HNX.out HWA.out), by simp⟩
           case measure => simp [intOf]; omega
         | false =>
           rw [hd] at D
           by_cases hx : s[k].toNat = 45
           · have HWA := Lib.hid (show wordAt s.data.toList k = true from by rw [HW.out, if_neg hk00]; unfold isCont; rw [hx]; simp)
             have ex : ((s[k].toNat : Int) != 45) = false := by rw [hx]; rfl
             clear hl hd hx
             go_wp2_with (first
               | (go_at_call 63; ((with_reducible refine L.out.mono ?_); rintro e w1 ⟨rfl, rfl⟩))
               | (go_at_call 64; ((with_reducible refine D.out.mono ?_); rintro e w1 ⟨rfl, rfl⟩))
               | (fail "arm"))
             go_roundw
             case rel => exact ⟨k + 1, by go_num, by omega, Lib.hid (HNX.out HWA.out), by simp⟩
             case measure => simp [intOf]; omega
           · have ex : ((s[k].toNat : Int) != 45) = true := by simp; omega
             by_cases hy : s[k].toNat = 46
             · have HWA := Lib.hid (show wordAt s.data.toList k = true from by rw [HW.out, if_neg hk00]; unfold isCont; rw [hy]; simp)
               have ey : ((s[k].toNat : Int) != 46) = false := by rw [hy]; rfl
               clear hl hd hx hy
               go_wp2_with (first
                 | (go_at_call 63; ((with_reducible refine L.out.mono ?_); rintro e w1 ⟨rfl, rfl⟩))
                 | (go_at_call 64; ((with_reducible refine D.out.mono ?_); rintro e w1 ⟨rfl, rfl⟩))
                 | (fail "arm"))
               go_roundw
               case rel => exact ⟨k + 1, by go_num, by omega, Lib.hid (HNX.out HWA.out), by simp⟩
               case measure => simp [intOf]; omega
             · have HWA := Lib.hid (show wordAt s.data.toList k = false from by rw [HW.out, if_neg hk00]; unfold isCont; rw [hl, hd]; simp [hx, hy])
               have ey : ((s[k].toNat : Int) != 46) = true := by simp; omega
               clear hl hd hx hy
               go_wp2_with (first
                 | (go_at_call 63; ((with_reducible refine L.out.mono ?_); rintro e w1 ⟨rfl, rfl⟩))
                 | (go_at_call 64; ((with_reducible refine D.out.mono ?_); rintro e w1 ⟨rfl, rfl⟩))
                 | (fail "arm"))
               go_ret
               have e := HNO.out HWA.out
               subst e
               exact ⟨rfl, rfl⟩
   · obtain rfl : k = s.size := by omega
     have k1 : ¬ ((s.size : Nat) : Int) < (s.size : Int) := by omega
     by_cases h0 : s.size = 0
     · have e : R = false := by
         cases R with
         | false => rfl
         | true =>
           have := (HIFF.out.1 rfl).1
           exact absurd (List.eq_nil_of_length_eq_zero (by rw [hl0]; exact h0)) this
       subst e
       have en : (s.toList == []) = true := by rw [Lib.toList_data]; rw [show s.data.toList = [] from List.eq_nil_of_length_eq_zero (by rw [hl0]; exact h0)]; rfl
       clear h0
       go_wp2
       go_ret
       exact ⟨rfl, rfl⟩
     · have hne : s.data.toList ≠ [] := fun e => h0 (by rw [← hl0, e]; rfl)
       have e : R = true := HIFF.out.2 ⟨hne, HA.out⟩
       subst e
       have en : (s.toList == []) = false := by rw [Lib.toList_data]; exact beq_eq_false_iff_ne.2 hne
       clear h0 hne
       go_wp2
       go_ret
       exact ⟨rfl, rfl⟩
def kindOf : Nat → Int
 | 1 => 0
 | 2 => 1
 | 3 => 2
 | 4 => 3
 | 5 => 4
 | _ => 5
def SizeOut (w : World) (r : Nat × Nat) (e : Ending) (w' : World) : Prop := e = .returned (.tuple #[.int .i64 (r.2 : Int), .int .i64 (kindOf r.1)]) ∧ w' = w
theorem word_take (s : List UInt8) (h : ∃ c t, s = c :: t ∧ isLet c = true) (k : Nat) (h1 : 1 ≤ k) (hk : k ≤ s.length) : isWordB (s.take k) = decide (k ≤ run isCont s) := by
 obtain ⟨c, t, rfl, hc⟩ := h
 have hcc : isCont c = true := by unfold isCont; rw [hc]; rfl
 rw [Bool.eq_iff_iff, isWordB_iff, decide_eq_true_eq]
 have hlen : ((c :: t).take k).length = k := by rw [List.length_take]; exact Nat.min_eq_left hk
 rw [hlen]
 constructor
 · intro h
   by_cases hle : k ≤ run isCont (c :: t)
   · exact hle
   · have hlt : run isCont (c :: t) < (c :: t).length := by omega
     have h2 := run_stop isCont (c :: t) hlt
     have h3 := h.2 (run isCont (c :: t)) (by omega)
     unfold wordAt at h3
     rw [List.getElem?_take_of_lt (by omega), List.getElem?_eq_getElem hlt] at h3
     dsimp only at h3
     have h0 : run isCont (c :: t) ≠ 0 := by rw [run, if_pos hcc]; omega
     rw [if_neg h0, h2] at h3
     cases h3
 · intro h
   refine ⟨fun e => by rw [e] at hlen; simp at hlen; omega, fun i hi => ?_⟩
   obtain ⟨hil, hi2⟩ := run_at isCont (c :: t) i (by omega)
   unfold wordAt
   rw [List.getElem?_take_of_lt hi, List.getElem?_eq_getElem hil]
   dsimp only
   split
   · rename_i h0; subst h0; exact hc
   · exact hi2
set_option maxHeartbeats 8000000 in
theorem size_word (s : ByteArray) (hs : s.size ≤ 281474976710655) (hp : 0 < s.size) (hl : isLet s[0] = true) (w : World) : Calls Tryz.prog 51 #[.string s] w (SizeOut w (2, run isCont s.data.toList)) := by
 unfold SizeOut
 have hl0 := data_len s
 have hcons : s.data.toList = s[0] :: s.data.toList.drop 1 := by have := drop_at s 0 hp; rwa [List.drop_zero] at this
 have hR1 : 1 ≤ run isCont s.data.toList := by
   rw [hcons, run, if_pos (by unfold isCont; rw [hl]; rfl)]
   omega
 have hR2 := run_le isCont s.data.toList
 rw [hl0] at hR2
 have HW := Lib.hid (fun (k : Nat) (h1 : k < s.size) => (by
   have z := rWord_any (s.extract 0 (k + 1)) (by rw [ByteArray.size_extract]; omega) w
   rw [show (s.extract 0 (k + 1)).data.toList = s.data.toList.take (k + 1) by rw [ext_cut, str_data]; simp [cutL], word_take s.data.toList ⟨_, _, hcons, hl⟩ (k + 1) (by omega) (by rw [hl0]; omega)] at z
   unfold BoolE at z
   exact z : Calls Tryz.prog 39 #[.string (s.extract 0 (k + 1))] w (fun e w' => e = .returned (.bool (decide (k + 1 ≤ run isCont s.data.toList))) ∧ w' = w)))
 obtain ⟨R, hR⟩ : ∃ R, run isCont s.data.toList = R := ⟨_, rfl⟩
 rw [hR] at hR1 hR2 HW ⊢
 have L := Lib.hid (letter_any s[0] w)
 have D := Lib.hid (rdigit_any s[0] w)
 unfold BoolE at L D
 rw [hl] at L
 have i0 : (0 : Int) < (s.size : Int) := by omega
 have hsi : (s.size : Int) ≤ 281474976710655 := by omega
 clear hR hcons hl
 cases hd : isDig s[0]
 all_goals
   rw [hd] at D
   clear hd
   go_enter Tryz.func51, Tryz.ntmps51
   go_upto_region 5 with (first
     | (go_at_call 63; ((with_reducible refine L.out.mono ?_); rintro e w1 ⟨rfl, rfl⟩))
     | (go_at_call 64; ((with_reducible refine D.out.mono ?_); rintro e w1 ⟨rfl, rfl⟩))
     | (fail "arm"))
   go_loopw [6] (fun v wr => ∃ k : Nat, v = .int .i64 (k : Int) ∧ 1 ≤ k ∧ k ≤ R ∧ wr = w1) (fun v _ => R - (intOf v).toNat)
   case atStart => exact ⟨1, rfl, Nat.le_refl _, hR1, rfl⟩
   case round =>
     obtain ⟨k, rfl, hk1, hk, hww⟩ := hrel
     rw [hww]
     clear hww
     have k0 : (0 : Int) ≤ (k : Int) := Int.natCast_nonneg _
     by_cases hks : k < s.size
     · have k1 : (k : Int) < (s.size : Int) := by omega
       have WK := HW.out k hks
       by_cases hkR : k < R
       · rw [decide_eq_true (by omega)] at WK
         have WK := Lib.hid WK
         go_wp2_with (first
           | (go_at_call 39; ((with_reducible refine WK.out.mono ?_); rintro e w1 ⟨rfl, rfl⟩))
           | (fail "arm"))
         go_roundw
         case rel => exact ⟨k + 1, by go_num, by omega, by omega, trivial⟩
         case measure => simp [intOf]; omega
       · rw [decide_eq_false (by omega)] at WK
         have WK := Lib.hid WK
         obtain rfl : k = R := by omega
         go_wp2_with (first
           | (go_at_call 39; ((with_reducible refine WK.out.mono ?_); rintro e w1 ⟨rfl, rfl⟩))
           | (fail "arm"))
         go_ret2
         exact ⟨rfl, rfl⟩
     · obtain rfl : k = R := by omega
       have k1 : ¬ (k : Int) < (s.size : Int) := by omega
       go_wp2
       go_ret2
       exact ⟨rfl, rfl⟩
set_option maxHeartbeats 8000000 in
theorem size_num (s : ByteArray) (hs : s.size ≤ 281474976710655) (hp : 0 < s.size) (hl : isLet s[0] = false) (hd : isDig s[0] = true) (w : World) : Calls Tryz.prog 51 #[.string s] w (SizeOut w (3, run isDig s.data.toList)) := by
 unfold SizeOut
 have hl0 := data_len s
 have hcons : s.data.toList = s[0] :: s.data.toList.drop 1 := by have := drop_at s 0 hp; rwa [List.drop_zero] at this
 have hR1 : 1 ≤ run isDig s.data.toList := by
   rw [hcons, run, if_pos hd]
   omega
 have hR2 := run_le isDig s.data.toList
 rw [hl0] at hR2
 obtain ⟨R, hR⟩ : ∃ R, run isDig s.data.toList = R := ⟨_, rfl⟩
 have HA := Lib.hid (fun (k : Nat) (h : k < R) (hs : k < s.size) => (show isDig s[k] = true from by
   obtain ⟨_, h2⟩ := run_at isDig s.data.toList k (by rw [hR]; exact h)
   show isDig s.data[k] = true
   simpa using h2))
 have HZ := Lib.hid (fun (h : R < s.size) => (show isDig s[R] = false from by
   have := run_stop isDig s.data.toList (by rw [hR, hl0]; exact h)
   simp only [hR] at this
   show isDig s.data[R] = false
   simpa using this))
 rw [hR] at hR1 hR2 ⊢
 have L := Lib.hid (letter_any s[0] w)
 have D := Lib.hid (rdigit_any s[0] w)
 have HD := Lib.hid rdigit_any
 unfold BoolE at L D HD
 rw [hl] at L
 rw [hd] at D
 have i0 : (0 : Int) < (s.size : Int) := by omega
 have hsi : (s.size : Int) ≤ 281474976710655 := by omega
 clear hR hcons hl hd
 go_enter Tryz.func51, Tryz.ntmps51
 go_upto_region 9 with (first
   | (go_at_call 63; ((with_reducible refine L.out.mono ?_); rintro e w1 ⟨rfl, rfl⟩))
   | (go_at_call 64; ((with_reducible refine D.out.mono ?_); rintro e w1 ⟨rfl, rfl⟩))
   | (fail "arm"))
 go_loopw [6] (fun v wr => ∃ k : Nat, v = .int .i64 (k : Int) ∧ 1 ≤ k ∧ k ≤ R ∧ wr = w1) (fun v _ => R - (intOf v).toNat)
 case atStart => exact ⟨1, rfl, Nat.le_refl _, hR1, rfl⟩
 case round =>
   obtain ⟨k, rfl, hk1, hk, hww⟩ := hrel
   rw [hww]
   clear hww
   have k0 : (0 : Int) ≤ (k : Int) := Int.natCast_nonneg _
   by_cases hks : k < s.size
   · have k1 : (k : Int) < (s.size : Int) := by omega
     have WK := HD.out s[k] w1
     by_cases hkR : k < R
     · rw [HA.out k hkR hks] at WK
       have WK := Lib.hid WK
       go_wp2_with (first
         | (go_at_call 64; ((with_reducible refine WK.out.mono ?_); rintro e w1 ⟨rfl, rfl⟩))
         | (fail "arm"))
       go_roundw
       case rel => exact ⟨k + 1, by go_num, by omega, by omega, trivial⟩
       case measure => simp [intOf]; omega
     · obtain rfl : k = R := by omega
       rw [HZ.out hks] at WK
       have WK := Lib.hid WK
       go_wp2_with (first
         | (go_at_call 64; ((with_reducible refine WK.out.mono ?_); rintro e w1 ⟨rfl, rfl⟩))
         | (fail "arm"))
       go_ret2
       exact ⟨rfl, rfl⟩
   · obtain rfl : k = R := by omega
     have k1 : ¬ (k : Int) < (s.size : Int) := by omega
     go_wp2
     go_ret2
     exact ⟨rfl, rfl⟩
set_option maxHeartbeats 8000000 in
theorem size_str (s : ByteArray) (hs : s.size ≤ 281474976710655) (hp : 0 < s.size) (hl : isLet s[0] = false) (hd : isDig s[0] = false) (hq : s[0] = 34) (w : World) :
   Calls Tryz.prog 51 #[.string s] w (SizeOut w (if strLen (s.data.toList.drop 1) ≠ 0 then (4, strLen (s.data.toList.drop 1)) else (0, 1))) := by
 unfold SizeOut
 have hl0 := data_len s
 have hdl : (s.data.toList.drop 1).length = s.size - 1 := by rw [List.length_drop, hl0]
 obtain ⟨q, hqq⟩ : ∃ q, run (fun c => !notStr c) (s.data.toList.drop 1) = q := ⟨_, rfl⟩
 have hq1 := run_le (fun c => !notStr c) (s.data.toList.drop 1)
 rw [hqq, hdl] at hq1
 have hget : ∀ i (h : i < s.size - 1), (s.data.toList.drop 1)[i]'(by rw [hdl]; exact h) = s[i + 1]'(by omega) := fun i h => by
   rw [List.getElem_drop]
   show s.data.toList[1 + i]'(by rw [hl0]; omega) = s.data[i + 1]'_
   simp [Nat.add_comm]
 have HA := Lib.hid (fun (k : Nat) (h1 : 1 ≤ k) (h : k < q + 1) (hks : k < s.size) => (show notStr s[k] = false from by
   obtain ⟨_, h2⟩ := run_at (fun c => !notStr c) (s.data.toList.drop 1) (k - 1) (by rw [hqq]; omega)
   have h3 := hget (k - 1) (by omega)
   rw [h3] at h2
   have e : s[k - 1 + 1]'(by omega) = s[k] := by congr 1; omega
   rw [e] at h2
   simpa using h2))
 have HZ := Lib.hid (fun (h : q + 1 < s.size) => (show notStr s[q + 1] = true from by
   have h2 := run_stop (fun c => !notStr c) (s.data.toList.drop 1) (by rw [hqq, hdl]; omega)
   simp only [hqq] at h2
   rw [hget q (by omega)] at h2
   simpa using h2))
 have hsl : strLen (s.data.toList.drop 1) = if (s.data.toList.drop 1)[q]? = some 34 then q + 2 else 0 := by unfold strLen; dsimp only; rw [hqq]
 have HE := Lib.hid (show ∀ h : q + 1 < s.size, (s.data.toList.drop 1)[q]? = some s[q + 1] from fun h => by
   rw [List.getElem?_eq_getElem (by rw [hdl]; omega), hget q (by omega)])
 have HN := Lib.hid (show ¬ q + 1 < s.size → (s.data.toList.drop 1)[q]? = none from fun h => List.getElem?_eq_none (by rw [hdl]; omega))
 rw [hsl]
 obtain ⟨res, hres⟩ : ∃ r : Nat × Nat, (if (if (s.data.toList.drop 1)[q]? = some 34 then q + 2 else 0) ≠ 0 then (4, (if (s.data.toList.drop 1)[q]? = some 34 then q + 2 else 0)) else (0, 1)) = r := ⟨_, rfl⟩
 rw [hres]
 have HRES := Lib.hid hres
 clear hres
 have L := Lib.hid (letter_any s[0] w)
 have D := Lib.hid (rdigit_any s[0] w)
 unfold BoolE at L D
 rw [hl] at L
 rw [hd] at D
 have i0 : (0 : Int) < (s.size : Int) := by omega
 have hsi : (s.size : Int) ≤ 281474976710655 := by omega
 have e34 : ((s[0].toNat : Int) == 34) = true := by rw [hq]; rfl
 clear hl hd hq hqq hget hsl
 go_enter Tryz.func51, Tryz.ntmps51
 go_upto_region 13 with (first
   | (go_at_call 63; ((with_reducible refine L.out.mono ?_); rintro e w1 ⟨rfl, rfl⟩))
   | (go_at_call 64; ((with_reducible refine D.out.mono ?_); rintro e w1 ⟨rfl, rfl⟩))
   | (fail "arm"))
 go_loopw [6] (fun v wr => ∃ k : Nat, v = .int .i64 (k : Int) ∧ 1 ≤ k ∧ k ≤ q + 1 ∧ wr = w1) (fun v _ => q + 1 - (intOf v).toNat)
 case atStart => exact ⟨1, rfl, Nat.le_refl _, by omega, rfl⟩
 case round =>
   obtain ⟨k, rfl, hk1, hk, hww⟩ := hrel
   rw [hww]
   clear hww
   have k0 : (0 : Int) ≤ (k : Int) := Int.natCast_nonneg _
   by_cases hkR : k < q + 1
   · have hks : k < s.size := by omega
     have k1 : (k : Int) < (s.size : Int) := by omega
     have hn := HA.out k hk1 hkR hks
     have n34 : ((s[k].toNat : Int) != 34) = true := by
       unfold notStr at hn
       simp only [Bool.or_eq_false_iff, beq_eq_false_iff_ne] at hn
       have h1 := hn.1
       have : s[k].toNat ≠ 34 := fun e => h1 (UInt8.toNat.inj (by rw [e]; rfl))
       simp; omega
     have n10 : ((s[k].toNat : Int) != 10) = true := by
       unfold notStr at hn
       simp only [Bool.or_eq_false_iff, beq_eq_false_iff_ne] at hn
       have h1 := hn.2
       have : s[k].toNat ≠ 10 := fun e => h1 (UInt8.toNat.inj (by rw [e]; rfl))
       simp; omega
     clear hn
     go_wp2
     go_roundw
     case rel => exact ⟨k + 1, by go_num, by omega, by omega, trivial⟩
     case measure => simp [intOf]; omega
   · obtain rfl : k = q + 1 := by omega
     by_cases hks : q + 1 < s.size
     · have k1 : ((q + 1 : Nat) : Int) < (s.size : Int) := by omega
       have hz := HZ.out hks
       have he := HE.out hks
       have hr := HRES.out
       rw [he] at hr
       unfold notStr at hz
       simp only [Bool.or_eq_true, beq_iff_eq] at hz
       by_cases h34 : s[q + 1] = 34
       · have n34 : ((s[q + 1].toNat : Int) != 34) = false := by rw [h34]; rfl
         have m34 : ((s[q + 1].toNat : Int) == 34) = true := by rw [h34]; rfl
         rw [if_pos (by rw [if_pos (by rw [h34])]; omega), if_pos (by rw [h34])] at hr
         have HR := Lib.hid hr
         clear he hz h34 hr HRES
         go_wp2
         go_ret2
         have e := HR.out
         subst e
         exact ⟨rfl, rfl⟩
       · have h10 : s[q + 1] = 10 := hz.resolve_left h34
         have n34 : ((s[q + 1].toNat : Int) != 34) = true := by rw [h10]; rfl
         have n10 : ((s[q + 1].toNat : Int) != 10) = false := by rw [h10]; rfl
         have m34 : ((s[q + 1].toNat : Int) == 34) = false := by rw [h10]; rfl
         rw [if_neg (by rw [if_neg (by rw [h10]; decide)]; simp)] at hr
         have HR := Lib.hid hr
         clear he hz h34 h10 hr HRES
         go_wp2
         go_ret2
         have e := HR.out
         subst e
         exact ⟨rfl, rfl⟩
     · have k1 : ¬ ((q + 1 : Nat) : Int) < (s.size : Int) := by omega
       have hr := HRES.out
       rw [HN.out hks, if_neg (by simp)] at hr
       have HR := Lib.hid hr
       clear hr HRES
       go_wp2
       go_ret2
       have e := HR.out
       subst e
       exact ⟨rfl, rfl⟩
set_option maxHeartbeats 8000000 in
theorem size_sym (s : ByteArray) (hs : s.size ≤ 281474976710655) (hp : 0 < s.size) (hl : isLet s[0] = false) (hd : isDig s[0] = false) (hq : s[0] ≠ 34) (w : World) :
   Calls Tryz.prog 51 #[.string s] w (SizeOut w (if isSym s[0] then (5, 1) else (0, 1))) := by
 unfold SizeOut
 have L := Lib.hid (letter_any s[0] w)
 have D := Lib.hid (rdigit_any s[0] w)
 unfold BoolE at L D
 rw [hl] at L
 rw [hd] at D
 have i0 : (0 : Int) < (s.size : Int) := by omega
 have hsi : (s.size : Int) ≤ 281474976710655 := by omega
 have e34 : ((s[0].toNat : Int) == 34) = false := by
   have : s[0].toNat ≠ 34 := fun e => hq (UInt8.toNat.inj (by rw [e]; rfl))
   simp; omega
 have eqb : ∀ (k : UInt8), ((s[0].toNat : Int) == (k.toNat : Int)) = (s[0] == k) := fun k => by
   rw [Bool.eq_iff_iff]
   simp only [beq_iff_eq]
   constructor
   · intro h; exact UInt8.toNat.inj (by exact_mod_cast h)
   · intro h; rw [h]
 have e1 : ((s[0].toNat : Int) == 123) = (s[0] == 123) := eqb 123
 have e2 : ((s[0].toNat : Int) == 125) = (s[0] == 125) := eqb 125
 have e3 : ((s[0].toNat : Int) == 40) = (s[0] == 40) := eqb 40
 have e4 : ((s[0].toNat : Int) == 41) = (s[0] == 41) := eqb 41
 have e5 : ((s[0].toNat : Int) == 44) = (s[0] == 44) := eqb 44
 have e6 : ((s[0].toNat : Int) == 59) = (s[0] == 59) := eqb 59
 unfold isSym
 obtain ⟨x1, h1⟩ : ∃ x, (s[0] == 123) = x := ⟨_, rfl⟩
 obtain ⟨x2, h2⟩ : ∃ x, (s[0] == 125) = x := ⟨_, rfl⟩
 obtain ⟨x3, h3⟩ : ∃ x, (s[0] == 40) = x := ⟨_, rfl⟩
 obtain ⟨x4, h4⟩ : ∃ x, (s[0] == 41) = x := ⟨_, rfl⟩
 obtain ⟨x5, h5⟩ : ∃ x, (s[0] == 44) = x := ⟨_, rfl⟩
 obtain ⟨x6, h6⟩ : ∃ x, (s[0] == 59) = x := ⟨_, rfl⟩
 rw [h1] at e1 ⊢
 rw [h2] at e2 ⊢
 rw [h3] at e3 ⊢
 rw [h4] at e4 ⊢
 rw [h5] at e5 ⊢
 rw [h6] at e6 ⊢
 clear h1 h2 h3 h4 h5 h6 eqb hl hd hq
 cases x1 with
 | true => (go_enter Tryz.func51, Tryz.ntmps51; go_wp2_with (first | (go_at_call 63; ((with_reducible refine L.out.mono ?_); rintro e w1 ⟨rfl, rfl⟩)) | (go_at_call 64; ((with_reducible refine D.out.mono ?_); rintro e w1 ⟨rfl, rfl⟩)) | (fail "arm")); go_ret2; exact ⟨rfl, rfl⟩)
 | false =>
   cases x2 with
   | true => (go_enter Tryz.func51, Tryz.ntmps51; go_wp2_with (first | (go_at_call 63; ((with_reducible refine L.out.mono ?_); rintro e w1 ⟨rfl, rfl⟩)) | (go_at_call 64; ((with_reducible refine D.out.mono ?_); rintro e w1 ⟨rfl, rfl⟩)) | (fail "arm")); go_ret2; exact ⟨rfl, rfl⟩)
   | false =>
     cases x3 with
     | true => (go_enter Tryz.func51, Tryz.ntmps51; go_wp2_with (first | (go_at_call 63; ((with_reducible refine L.out.mono ?_); rintro e w1 ⟨rfl, rfl⟩)) | (go_at_call 64; ((with_reducible refine D.out.mono ?_); rintro e w1 ⟨rfl, rfl⟩)) | (fail "arm")); go_ret2; exact ⟨rfl, rfl⟩)
     | false =>
       cases x4 with
       | true => (go_enter Tryz.func51, Tryz.ntmps51; go_wp2_with (first | (go_at_call 63; ((with_reducible refine L.out.mono ?_); rintro e w1 ⟨rfl, rfl⟩)) | (go_at_call 64; ((with_reducible refine D.out.mono ?_); rintro e w1 ⟨rfl, rfl⟩)) | (fail "arm")); go_ret2; exact ⟨rfl, rfl⟩)
       | false =>
         cases x5 with
         | true => (go_enter Tryz.func51, Tryz.ntmps51; go_wp2_with (first | (go_at_call 63; ((with_reducible refine L.out.mono ?_); rintro e w1 ⟨rfl, rfl⟩)) | (go_at_call 64; ((with_reducible refine D.out.mono ?_); rintro e w1 ⟨rfl, rfl⟩)) | (fail "arm")); go_ret2; exact ⟨rfl, rfl⟩)
         | false =>
           cases x6 with
           | true => (go_enter Tryz.func51, Tryz.ntmps51; go_wp2_with (first | (go_at_call 63; ((with_reducible refine L.out.mono ?_); rintro e w1 ⟨rfl, rfl⟩)) | (go_at_call 64; ((with_reducible refine D.out.mono ?_); rintro e w1 ⟨rfl, rfl⟩)) | (fail "arm")); go_ret2; exact ⟨rfl, rfl⟩)
           | false =>
             (go_enter Tryz.func51, Tryz.ntmps51; go_wp2_with (first | (go_at_call 63; ((with_reducible refine L.out.mono ?_); rintro e w1 ⟨rfl, rfl⟩)) | (go_at_call 64; ((with_reducible refine D.out.mono ?_); rintro e w1 ⟨rfl, rfl⟩)) | (fail "arm")); go_ret2; exact ⟨rfl, rfl⟩)
theorem size_any (s : ByteArray) (hs : s.size ≤ 281474976710655) (hp : 0 < s.size) (w : World) : Calls Tryz.prog 51 #[.string s] w (SizeOut w (first s.data.toList)) := by
 have hcons : s.data.toList = s[0] :: s.data.toList.drop 1 := by have := drop_at s 0 hp; rwa [List.drop_zero] at this
 by_cases h1 : isLet s[0] = true
 · have e : first s.data.toList = (2, run isCont s.data.toList) := by
     rw [hcons, first, if_pos h1]
   rw [e]
   exact size_word s hs hp h1 w
 · have h1' : isLet s[0] = false := by simpa using h1
   by_cases h2 : isDig s[0] = true
   · have e : first s.data.toList = (3, run isDig s.data.toList) := by
       rw [hcons, first, if_neg h1, if_pos h2]
     rw [e]
     exact size_num s hs hp h1' h2 w
   · have h2' : isDig s[0] = false := by simpa using h2
     by_cases h4 : s[0] = 34
     · have e : first s.data.toList = if strLen (s.data.toList.drop 1) ≠ 0 then (4, strLen (s.data.toList.drop 1)) else (0, 1) := by
         conv => lhs; rw [hcons]
         rw [first, if_neg h1, if_neg h2, if_neg (by rw [h4]; decide)]
         by_cases hz : strLen (s.data.toList.drop 1) ≠ 0
         · rw [if_pos ⟨h4, hz⟩, if_pos hz]
         · rw [if_neg (fun h => hz h.2), if_neg hz]
       rw [e]
       exact size_str s hs hp h1' h2' h4 w
     · have e : first s.data.toList = if isSym s[0] then (5, 1) else (0, 1) := by
         conv => lhs; rw [hcons]
         rw [first, if_neg h1, if_neg h2]
         by_cases h3 : isSym s[0] = true
         · rw [if_pos h3, if_pos h3]
         · rw [if_neg h3, if_neg h3, if_neg (fun h => h4 h.1)]
       rw [e]
       exact size_sym s hs hp h1' h2' h4 w
structure RTok where
 kd : Int
 tx : List UInt8
 ln : Nat
def convT (t : Tok) : RTok := ⟨kindOf t.cls, if t.cls = 4 then (t.txt.drop 1).take (t.txt.length - 2) else t.txt, t.ln⟩
def rtC (t : RTok) : List Value := [.int .i64 t.kd, .string (str t.tx), .int .i64 (t.ln : Int)]
def rtsC (l : List RTok) : List Value := l.flatMap rtC
theorem rtsC_snoc (l : List RTok) (t : RTok) : rtsC (l ++ [t]) = rtsC l ++ rtC t := by unfold rtsC; rw [List.flatMap_append]; simp
def rToks (s : List UInt8) (n : Nat) : List RTok := (toks s n).map convT
theorem toks_skip {s t : List UInt8} {n m : Nat} (h : skip false s n = skip false t m) : toks s n = toks t m := by
 rw [toks_eq s n, toks_eq t m]
 have e : next s n = next t m := by unfold next; rw [h]
 rw [e]
theorem rToks_skip {s t : List UInt8} {n m : Nat} (h : skip false s n = skip false t m) : rToks s n = rToks t m := by unfold rToks; rw [toks_skip h]
theorem rToks_end (n : Nat) : rToks [] n = [⟨0, [], n⟩] := by
 unfold rToks
 rw [toks_eq]
 rfl
theorem rToks_tok {c : UInt8} {t : List UInt8} {n : Nat} (h1 : c ≠ 10) (h2 : ¬ (c = 32 ∨ c = 9 ∨ c = 13)) (h3 : c ≠ 35) :
   rToks (c :: t) n = if (first (c :: t)).1 = 0 then [convT ⟨(first (c :: t)).1, (c :: t).take (first (c :: t)).2, n⟩] else convT ⟨(first (c :: t)).1, (c :: t).take (first (c :: t)).2, n⟩ :: rToks ((c :: t).drop (first (c :: t)).2) n := by
 have e : skip false (c :: t) n = (c :: t, n) := by rw [skip, if_neg h1, if_neg h2, if_neg h3]
 have hn : next (c :: t) n = (⟨(first (c :: t)).1, (c :: t).take (first (c :: t)).2, n⟩, (c :: t).drop (first (c :: t)).2, n) := by
   unfold next
   rw [e]
 have h11 : (first (c :: t)).1 ≠ 1 := by
   rw [first]
   repeat' split
   all_goals simp
 unfold rToks
 rw [toks_eq, hn]
 dsimp only
 by_cases h0 : (first (c :: t)).1 = 0
 · rw [if_pos (by omega), if_pos h0]
   rfl
 · rw [if_neg (by omega), if_neg h0]
   rfl
theorem first_pos1 {c : UInt8} {t : List UInt8} : 1 ≤ (first (c :: t)).2 := by
 rw [first]
 split
 · rename_i h
   dsimp only
   rw [run, if_pos (by unfold isCont; rw [h]; rfl)]
   omega
 · split
   · rename_i h
     dsimp only
     rw [run, if_pos h]
     omega
   · split
     · exact Nat.le_refl _
     · split
       · rename_i h
         have := h.2
         dsimp only
         omega
       · exact Nat.le_refl _
theorem info70 : (Tryz.prog.info? 70).map (fun i => (i.zero, i.size, i.bytes)) = some (some (.agg #[.int .i64 0, .string ⟨#[]⟩, .int .i64 0]), 3, 32) := by kernel_rfl
theorem first_ne1 {c : UInt8} {t : List UInt8} : (first (c :: t)).1 ≠ 1 := by
 rw [first]
 repeat' split
 all_goals simp
theorem first_le5 {c : UInt8} {t : List UInt8} : (first (c :: t)).1 ≤ 5 := by
 rw [first]
 repeat' split
 all_goals simp
theorem first_four {c : UInt8} {t : List UInt8} : (first (c :: t)).1 = 4 → 2 ≤ (first (c :: t)).2 := by
 rw [first]
 split
 · simp
 · split
   · simp
   · split
     · simp
     · split
       · rename_i h
         intro _
         have h2 := h.2
         dsimp only
         unfold strLen at h2 ⊢
         dsimp only at h2 ⊢
         split at h2
         · rename_i h3; rw [if_pos h3]; omega
         · exact absurd rfl h2
       · simp
theorem kind_ne3 {c : Nat} (h : c ≠ 4) : (kindOf c == 3) = false := by
 unfold kindOf
 split <;> first | rfl | exact absurd rfl h
theorem kind_ne5 {c : Nat} (h0 : c ≠ 0) (h1 : c ≠ 1) (h5 : c ≤ 5) : (kindOf c == 5) = false := by
 obtain rfl | rfl | rfl | rfl : c = 2 ∨ c = 3 ∨ c = 4 ∨ c = 5 := by omega
 all_goals rfl
def TokensOut (w : World) (l : List RTok) (en : Ending) (w' : World) : Prop :=
 ∃ A c, en = .returned (.slice A l.length c) ∧ w'.ownsRow w.heap.size 70 3 (.slice A l.length c) l.length (rtsC l) ∧ Below w.heap.size w w'
set_option maxHeartbeats 16000000 in
theorem tokens_any (s : ByteArray) (hs : s.size ≤ 4294967000) (w : World) : Calls Tryz.prog 34 #[.string s] w (TokensOut w (rToks s.data.toList 1)) := by
 unfold TokensOut
 have hl0 := data_len s
 obtain ⟨i0, hi, hz0, hz1, hz2⟩ := info_parts info70
 obtain ⟨L, hL⟩ : ∃ L, rToks s.data.toList 1 = L := ⟨_, rfl⟩
 rw [hL]
 have HS := Lib.hid (show [] ++ rToks (s.data.toList.drop 0) 1 = L from hL)
 have HDR := Lib.hid (fun (k : Nat) (h : k < s.size) => drop_at s k h)
 have hsi : (s.size : Int) ≤ 4294967000 := by omega
 have h0W : w.ownsRow w.heap.size 70 3 (.slice none 0 0) 0 (rtsC []) := ⟨rfl, .inl ⟨rfl, rfl⟩⟩
 have HO0 := Lib.hid h0W
 clear hL h0W
 go_enter Tryz.func34, Tryz.ntmps34
 go_upto_region 4 with fail
 go_loopw [3, 4, 5] (fun v3 v4 v5 wr => ∃ (A : Option Addr) (m c k n : Nat) (acc : List RTok), v3 = .slice A m c ∧ v4 = .int .i64 (n : Int) ∧ v5 = .int .i64 (k : Int) ∧ k ≤ s.size ∧ n ≤ k + 1 ∧ m ≤ k ∧ Hid (m = acc.length) ∧ Hid (wr.ownsRow w.heap.size 70 3 (.slice A m c) m (rtsC acc)) ∧ Hid (acc ++ rToks (s.data.toList.drop k) n = L) ∧ Hid (Below w.heap.size w wr)) (fun _ _ v5 _ => s.size - (intOf v5).toNat)
 case atStart => exact ⟨none, 0, 0, 0, 1, [], rfl, rfl, rfl, Nat.zero_le _, Nat.le_refl _, Nat.le_refl _, Lib.hid rfl, HO0, HS, Lib.hid (Below.refl _ _)⟩
 case round =>
   obtain ⟨A, m, c, k, n, acc, rfl, rfl, rfl, hk, hn, hm, HM, HOW, HT, HB⟩ := hrel
   have k0 : (0 : Int) ≤ (k : Int) := Int.natCast_nonneg _
   have hsz := HB.out.size
   by_cases hks : k < s.size
   · have k1 : (k : Int) < (s.size : Int) := by omega
     have hdr := HDR.out k hks
     by_cases h10 : s[k] = 10
     · have e10 : ((s[k].toNat : Int) == 10) = true := by rw [h10]; rfl
       have HT2 := Lib.hid (show acc ++ rToks (s.data.toList.drop (k + 1)) (n + 1) = L from by
         have q := HT.out
         rw [hdr, rToks_skip (s := s[k] :: s.data.toList.drop (k + 1)) (t := s.data.toList.drop (k + 1)) (m := n + 1) (by rw [skip, if_pos h10])] at q
         exact q)
       clear h10 hdr
       go_wp2
       go_roundw
       case rel => exact ⟨A, m, c, k + 1, n + 1, acc, rfl, by go_num, by go_num, by omega, by omega, by omega, HM, HOW, HT2, HB⟩
       case measure => simp [intOf]; omega
     · have e10 : ((s[k].toNat : Int) == 10) = false := by
         have : s[k].toNat ≠ 10 := fun e => h10 (UInt8.toNat.inj (by rw [e]; rfl))
         simp; omega
       by_cases hbl : s[k] = 32 ∨ s[k] = 9 ∨ s[k] = 13
       · have HT2 := Lib.hid (show acc ++ rToks (s.data.toList.drop (k + 1)) n = L from by
           have q := HT.out
           rw [hdr, rToks_skip (s := s[k] :: s.data.toList.drop (k + 1)) (t := s.data.toList.drop (k + 1)) (m := n) (by rw [skip, if_neg h10, if_pos hbl])] at q
           exact q)
         obtain ⟨y1, e32⟩ : ∃ y, ((s[k].toNat : Int) == 32) = y := ⟨_, rfl⟩
         obtain ⟨y2, e9⟩ : ∃ y, ((s[k].toNat : Int) == 9) = y := ⟨_, rfl⟩
         obtain ⟨y3, e13⟩ : ∃ y, ((s[k].toNat : Int) == 13) = y := ⟨_, rfl⟩
         have hy : (y1 || (y2 || y3)) = true := by
           rcases hbl with h | h | h
           · rw [← e32, h]; rfl
           · rw [← e9, h]; simp
           · rw [← e13, h]; simp
         clear h10 hbl hdr
         cases y1 with
         | true => (go_wp2; go_roundw; (case rel => exact ⟨A, m, c, k + 1, n, acc, rfl, rfl, by go_num, by omega, by omega, by omega, HM, HOW, HT2, HB⟩); (case measure => simp [intOf]; omega))
         | false =>
           cases y2 with
           | true => (go_wp2; go_roundw; (case rel => exact ⟨A, m, c, k + 1, n, acc, rfl, rfl, by go_num, by omega, by omega, by omega, HM, HOW, HT2, HB⟩); (case measure => simp [intOf]; omega))
           | false =>
             cases y3 with
             | false => simp at hy
             | true => (go_wp2; go_roundw; (case rel => exact ⟨A, m, c, k + 1, n, acc, rfl, rfl, by go_num, by omega, by omega, by omega, HM, HOW, HT2, HB⟩); (case measure => simp [intOf]; omega))
       · have e32 : ((s[k].toNat : Int) == 32) = false := by
           have : s[k].toNat ≠ 32 := fun e => hbl (.inl (UInt8.toNat.inj (by rw [e]; rfl)))
           simp; omega
         have e9 : ((s[k].toNat : Int) == 9) = false := by
           have : s[k].toNat ≠ 9 := fun e => hbl (.inr (.inl (UInt8.toNat.inj (by rw [e]; rfl))))
           simp; omega
         have e13 : ((s[k].toNat : Int) == 13) = false := by
           have : s[k].toNat ≠ 13 := fun e => hbl (.inr (.inr (UInt8.toNat.inj (by rw [e]; rfl))))
           simp; omega
         by_cases h35 : s[k] = 35
         · have e35 : ((s[k].toNat : Int) == 35) = true := by rw [h35]; rfl
           have HSK := Lib.hid (show skip false (s.data.toList.drop k) n = skip true (s.data.toList.drop (k + 1)) n from by rw [hdr, skip, if_neg h10, if_neg hbl, if_pos h35])
           have e10n : ((s[k].toNat : Int) != 10) = true := by rw [bne, e10]; rfl
           clear h10 hbl h35 hdr
           go_upto_region 19 with fail
           go_loopw [5] (fun v5 wq => ∃ j : Nat, v5 = .int .i64 (j : Int) ∧ k ≤ j ∧ j ≤ s.size ∧ Hid (j = k ∨ skip false (s.data.toList.drop k) n = skip true (s.data.toList.drop j) n) ∧ wq = wr) (fun v5 _ => s.size - (intOf v5).toNat)
           case atStart => exact ⟨k, rfl, Nat.le_refl _, hk, Lib.hid (.inl rfl), rfl⟩
           case round =>
             obtain ⟨j, rfl, hj1, hj2, HJ, hww⟩ := hrel
             rw [hww]
             clear hww
             have j0 : (0 : Int) ≤ (j : Int) := Int.natCast_nonneg _
             by_cases hjs : j < s.size
             · have j1 : (j : Int) < (s.size : Int) := by omega
               have hdj := HDR.out j hjs
               by_cases hj10 : s[j] = 10
               · have ej : ((s[j].toNat : Int) != 10) = false := by rw [hj10]; rfl
                 have hjk : j ≠ k := fun e => by
                   subst e
                   rw [hj10] at e10n
                   exact absurd e10n (by decide)
                 have HT2 := Lib.hid (show acc ++ rToks (s.data.toList.drop j) n = L from by
                   have q := HT.out
                   have z := HJ.out.resolve_left hjk
                   rw [rToks_skip (t := s.data.toList.drop j) (m := n) (z.trans (by rw [hdj, skip, if_pos hj10, skip, if_pos hj10]))] at q
                   exact q)
                 clear hj10 hdj
                 go_wp2
                 go_roundw
                 case rel => exact ⟨A, m, c, j, n, acc, rfl, rfl, rfl, hj2, by omega, by omega, HM, HOW, HT2, HB⟩
                 case measure => simp [intOf]; omega
               · have ej : ((s[j].toNat : Int) != 10) = true := by
                   have : s[j].toNat ≠ 10 := fun e => hj10 (UInt8.toNat.inj (by rw [e]; rfl))
                   simp; omega
                 have HJ2 := Lib.hid (show j + 1 = k ∨ skip false (s.data.toList.drop k) n = skip true (s.data.toList.drop (j + 1)) n from by
                   right
                   rcases HJ.out with e | e
                   · subst e; exact HSK.out
                   · rw [e, hdj, skip, if_neg hj10])
                 clear hj10 hdj
                 go_wp2
                 go_roundw
                 case rel => exact ⟨j + 1, by go_num, by omega, by omega, HJ2, by simp⟩
                 case measure => simp [intOf]; omega
             · obtain rfl : j = s.size := by omega
               have j1 : ¬ ((s.size : Nat) : Int) < (s.size : Int) := by omega
               have hjk : s.size ≠ k := by omega
               have HT2 := Lib.hid (show acc ++ rToks (s.data.toList.drop s.size) n = L from by
                 have q := HT.out
                 have z := HJ.out.resolve_left hjk
                 rw [rToks_skip (t := s.data.toList.drop s.size) (m := n) (z.trans (by rw [List.drop_eq_nil_of_le (by rw [hl0]; exact Nat.le_refl _)]; rfl))] at q
                 exact q)
               go_wp2
               go_roundw
               case rel => exact ⟨A, m, c, s.size, n, acc, rfl, rfl, rfl, Nat.le_refl _, by omega, by omega, HM, HOW, HT2, HB⟩
               case measure => simp [intOf]; omega
         · have e35 : ((s[k].toNat : Int) == 35) = false := by
             have : s[k].toNat ≠ 35 := fun e => h35 (UInt8.toNat.inj (by rw [e]; rfl))
             simp; omega
           have hXd : (s.extract k s.size).data.toList = s.data.toList.drop k := by rw [ext_cut, str_data, cut_end]
           have hXs : (s.extract k s.size).size = s.size - k := by rw [ByteArray.size_extract]; omega
           have SZ := size_any (s.extract k s.size) (by rw [hXs]; omega) (by rw [hXs]; omega) wr
           unfold SizeOut at SZ
           rw [hXd] at SZ
           have hq := HT.out
           have hfp := first_pos1 (c := s[k]) (t := s.data.toList.drop (k + 1))
           have hfl := first_le (s[k] :: s.data.toList.drop (k + 1))
           have hf4 : (first (s[k] :: s.data.toList.drop (k + 1))).1 = 4 → 2 ≤ (first (s[k] :: s.data.toList.drop (k + 1))).2 := first_four
           rw [← hdr] at hfp hfl hf4
           rw [List.length_drop, hl0] at hfl
           rw [hdr, rToks_tok h10 hbl h35, ← hdr] at hq
           obtain ⟨cl, hcl⟩ : ∃ x, (first (s.data.toList.drop k)).1 = x := ⟨_, rfl⟩
           obtain ⟨z, hz⟩ : ∃ x, (first (s.data.toList.drop k)).2 = x := ⟨_, rfl⟩
           have hcl1 : cl ≠ 1 := by rw [← hcl, hdr]; exact first_ne1
           have hcl5 : cl ≤ 5 := by rw [← hcl, hdr]; exact first_le5
           rw [hcl, hz] at SZ hq
           rw [hz] at hfp hfl
           rw [hcl, hz] at hf4
           have hdd : (s.data.toList.drop k).drop z = s.data.toList.drop (k + z) := by rw [List.drop_drop]
           rw [hdd] at hq
           have kz : (k : Int) + (z : Int) ≤ (s.size : Int) := by omega
           have z1 : (1 : Int) ≤ (z : Int) := by omega
           have hTX : s.extract k (k + z) = str ((s.data.toList.drop k).take z) := by
             rw [ext_cut]
             congr 1
             unfold cutL
             rw [Nat.add_sub_cancel_left]
           have htl : ((s.data.toList.drop k).take z).length = z := by rw [List.length_take, List.length_drop, hl0]; omega
           obtain ⟨X, hX⟩ : ∃ X, s.extract k s.size = X := ⟨_, rfl⟩
           rw [hX] at SZ
           clear hdr hXd hXs hcl hz hdd h10 hbl h35
           obtain ⟨w2, hw2⟩ : ∃ w2, wr.alloc (.cells #[.int .i64 (kindOf cl), .string (s.extract k (k + z)), .int .i64 (n : Int)] 70) = w2 := ⟨_, rfl⟩
           have hb2 : Below wr.heap.size wr w2 := by rw [← hw2]; exact (Below.refl _ wr).alloc (Nat.le_refl _) _
           have F2 : Full w2 wr.heap.size 70 [.int .i64 (kindOf cl), .string (s.extract k (k + z)), .int .i64 (n : Int)] := by rw [← hw2]; exact Full.new wr 70 _
           obtain ⟨u, hu⟩ : ∃ u, wr.heap.size = u := ⟨_, rfl⟩
           rw [hu] at F2
           have hs2 : w2.heap.size = u + 1 := by rw [← hw2, ← hu]; exact World.size_alloc _ _
           have hO2 := own_keep HOW.out hb2
           have hB2 := HB.out.trans (hb2.mono hsz)
           obtain ⟨TX, hTT⟩ : ∃ T, s.extract k (k + z) = T := ⟨_, rfl⟩
           rw [hTT] at F2 hTX hw2
           by_cases h4 : cl = 4
           · subst h4
             have hzz2 := hf4 rfl
             rw [if_neg (by decide)] at hq
             have HL := Lib.hid (show (acc ++ [convT ⟨4, (s.data.toList.drop k).take z, n⟩]) ++ rToks (s.data.toList.drop (k + z)) n = L from by rw [List.append_assoc]; exact hq)
             have hT2 : s.extract (k + 1) (k + z - 1) = str (convT ⟨4, (s.data.toList.drop k).take z, n⟩).tx := by
               rw [ext_cut]
               congr 1
               unfold convT
               rw [if_pos rfl]
               dsimp only
               rw [htl]
               unfold cutL
               rw [List.drop_take, List.take_take, List.drop_drop]
               congr 1
               omega
             obtain ⟨T2, hTT2⟩ : ∃ T, s.extract (k + 1) (k + z - 1) = T := ⟨_, rfl⟩
             rw [hTT2] at hT2
             have F3 := F2.set_ 1 (.string T2)
             have b1 := F2.cell 1
             have b2 := F2.frozen 1
             dsimp only [List.set_cons_succ, List.set_cons_zero, List.getElem?_cons_zero, List.getElem?_cons_succ] at F3 b1
             have hTs : Turn (fun g => g = u) w2 (w2.setCell ⟨u, 1, none⟩ (.string T2)) := Turn.set_ (F := fun g => g = u) (a := ⟨u, 1, none⟩) rfl _
             have hO3 := own_off hO2 hTs (fun g hg => (by have := (HOW.out.lt g hg).2; omega))
             have hB3 : Below w.heap.size w (w2.setCell ⟨u, 1, none⟩ (.string T2)) := hB2.setCell (p := ⟨u, 1, none⟩) (by show w.heap.size ≤ u; omega) _
             obtain ⟨w3, hw3⟩ : ∃ w3, w2.setCell ⟨u, 1, none⟩ (.string T2) = w3 := ⟨_, rfl⟩
             rw [hw3] at F3 hO3 hB3
             have q0 := F3.cell 0
             have q1 := F3.cell 1
             have q2 := F3.cell 2
             dsimp only [List.getElem?_cons_zero, List.getElem?_cons_succ] at q0 q1 q2
             have hs3 : w3.heap.size = u + 1 := by
               rw [← hw3, ← hs2]
               simp [World.setCell]
             have kz1 : (k : Int) + 1 ≤ (k : Int) + (z : Int) - 1 := by omega
             have kz2 : (k : Int) + (z : Int) - 1 ≤ (s.size : Int) := by omega
             have e3 : (kindOf 4 == 3) = true := by decide
             have e5 : (kindOf 4 == 5) = false := by decide
             obtain ⟨kd, hkd⟩ : ∃ x, kindOf 4 = x := ⟨_, rfl⟩
             have HTOK := Lib.hid (show rtC (convT ⟨4, (s.data.toList.drop k).take z, n⟩) = [.int .i64 kd, .string T2, .int .i64 (n : Int)] from by unfold rtC; rw [← hT2, ← hkd]; rfl)
             rw [hkd] at SZ e3 e5 q0 hw2
             have HCN := Lib.hid (show ∀ j u', [Value.int .i64 kd, .string T2, .int .i64 (n : Int)][j]? = some u' → (w3.alloc (.cells #[.int .i64 kd, .string T2, .int .i64 (n : Int)] 70)).cell? ((⟨u + 1, 0, none⟩ : Addr).add j) = some u' from fun j u' hj => by
               obtain ⟨ad, e, _, hc⟩ := ((Full.new w3 70 [.int .i64 kd, .string T2, .int .i64 (n : Int)]).row 3 1 rfl 1 (Nat.le_refl _)).2.2.2 j u' hj
               injection e with e
               subst e
               rw [hs3] at hc
               exact hc)
             have hba : Below w3.heap.size w3 (w3.alloc (.cells #[.int .i64 kd, .string T2, .int .i64 (n : Int)] 70)) := (Below.refl _ w3).alloc (Nat.le_refl _) _
             have HOA := Lib.hid (own_keep hO3 hba)
             have HBA := Lib.hid (hB3.trans (hba.mono (by rw [hs3]; omega)))
             have hsa := hba.size
             rw [hs3] at hsa
             have HTL := Lib.hid (And.intro htl hTX)
             have SZ := Lib.hid SZ
             clear hba hO3 hB3 hO2 hB2 hb2 F2 hq hkd hT2 htl hTX hf4
             go_wp2_with (first
               | (go_at_call 51; ((with_reducible refine SZ.out.mono ?_); rintro en w5 ⟨rfl, rfl⟩))
               | (at_builtin; go_loud (refine wpList_append_own _ rfl _ _ 67 rfl w.heap.size 70 i0 (.agg #[.int .i64 0, .string ⟨#[]⟩, .int .i64 0]) 3 32 Tryz.underlying67 hi hz0 hz1 hz2 rfl (by decide) (.slice A m c) _ _ rfl HOA.out ⟨u + 1, 0, none⟩ 1 1 [.int .i64 kd, .string T2, .int .i64 (n : Int)] (by simp [Act.eval]) rfl HCN.out (by intro u hu; simp at hu; rcases hu with rfl | rfl | rfl <;> rfl) (by unfold maxLen; omega) (by omega) (by omega) ?_; intro v' w9 hown9 hgrow9 _; (have HO9 := Lib.hid hown9); (have HG9 := Lib.hid hgrow9); (obtain ⟨A9, c9, rfl⟩ := own_form hown9); (have HR1 := Lib.hid (show w9.ownsRow w.heap.size 70 3 (.slice A9 (m + 1) c9) (m + 1) (rtsC (acc ++ [convT ⟨4, (s.data.toList.drop k).take z, n⟩])) from by rw [rtsC_snoc, HTOK.out]; exact hown9)); (have HR2 := Lib.hid (HBA.out.grown hgrow9 (by omega) (row_ge HOA.out))); clear hown9 hgrow9))
               | (fail "arm"))
             go_roundw
             case rel => exact ⟨A9, m + 1, c9, k + z, n, acc ++ [convT ⟨4, (s.data.toList.drop k).take z, n⟩], rfl, rfl, by go_num, by omega, by omega, by omega, Lib.hid (by rw [List.length_append, ← HM.out]; rfl), HR1, HL, HR2⟩
             case measure => simp [intOf]; omega
           · have hcv : (convT ⟨cl, (s.data.toList.drop k).take z, n⟩).tx = (s.data.toList.drop k).take z := by unfold convT; rw [if_neg h4]
             have q0 := F2.cell 0
             have q1 := F2.cell 1
             have q2 := F2.cell 2
             dsimp only [List.getElem?_cons_zero, List.getElem?_cons_succ] at q0 q1 q2
             have hs3 := hs2
             have hO3 := hO2
             have hB3 := hB2
             obtain ⟨w3, hw3⟩ : ∃ w3, w2 = w3 := ⟨_, rfl⟩
             subst hw3
             by_cases h0 : cl = 0
             · subst h0
               rw [if_pos rfl] at hq
               have HL := Lib.hid hq
               have e3 : (kindOf 0 == 3) = false := by decide
               have e5 : (kindOf 0 == 5) = true := by decide
               have hT2 : TX = str (convT ⟨0, (s.data.toList.drop k).take z, n⟩).tx := by rw [hcv]; exact hTX
               obtain ⟨kd, hkd⟩ : ∃ x, kindOf 0 = x := ⟨_, rfl⟩
               have HTOK := Lib.hid (show rtC (convT ⟨0, (s.data.toList.drop k).take z, n⟩) = [.int .i64 kd, .string TX, .int .i64 (n : Int)] from by unfold rtC; rw [← hT2, ← hkd]; rfl)
               rw [hkd] at SZ e3 e5 q0 hw2
               have HCN := Lib.hid (show ∀ j u', [Value.int .i64 kd, .string TX, .int .i64 (n : Int)][j]? = some u' → (w2.alloc (.cells #[.int .i64 kd, .string TX, .int .i64 (n : Int)] 70)).cell? ((⟨u + 1, 0, none⟩ : Addr).add j) = some u' from fun j u' hj => by
                 obtain ⟨ad, e, _, hc⟩ := ((Full.new w2 70 [.int .i64 kd, .string TX, .int .i64 (n : Int)]).row 3 1 rfl 1 (Nat.le_refl _)).2.2.2 j u' hj
                 injection e with e
                 subst e
                 rw [hs3] at hc
                 exact hc)
               have hba : Below w2.heap.size w2 (w2.alloc (.cells #[.int .i64 kd, .string TX, .int .i64 (n : Int)] 70)) := (Below.refl _ w2).alloc (Nat.le_refl _) _
               have HOA := Lib.hid (own_keep hO3 hba)
               have HBA := Lib.hid (hB3.trans (hba.mono (by rw [hs3]; omega)))
               have hsa := hba.size
               rw [hs3] at hsa
               have HTL := Lib.hid (And.intro htl hTX)
               have SZ := Lib.hid SZ
               clear hba hO3 hB3 hO2 hB2 hb2 F2 hq hkd hT2 htl hTX hf4
               go_wp2_with (first
                 | (go_at_call 51; ((with_reducible refine SZ.out.mono ?_); rintro en w5 ⟨rfl, rfl⟩))
                 | (at_builtin; go_loud (refine wpList_append_own _ rfl _ _ 67 rfl w.heap.size 70 i0 (.agg #[.int .i64 0, .string ⟨#[]⟩, .int .i64 0]) 3 32 Tryz.underlying67 hi hz0 hz1 hz2 rfl (by decide) (.slice A m c) _ _ rfl HOA.out ⟨u + 1, 0, none⟩ 1 1 [.int .i64 kd, .string TX, .int .i64 (n : Int)] (by simp [Act.eval]) rfl HCN.out (by intro u hu; simp at hu; rcases hu with rfl | rfl | rfl <;> rfl) (by unfold maxLen; omega) (by omega) (by omega) ?_; intro v' w9 hown9 hgrow9 _; (have HO9 := Lib.hid hown9); (have HG9 := Lib.hid hgrow9); (obtain ⟨A9, c9, rfl⟩ := own_form hown9); (have HR1 := Lib.hid (show w9.ownsRow w.heap.size 70 3 (.slice A9 (m + 1) c9) (m + 1) (rtsC (acc ++ [convT ⟨0, (s.data.toList.drop k).take z, n⟩])) from by rw [rtsC_snoc, HTOK.out]; exact hown9)); (have HR2 := Lib.hid (HBA.out.grown hgrow9 (by omega) (row_ge HOA.out))); clear hown9 hgrow9))
                 | (fail "arm"))
               go_ret
               have hle : L.length = m + 1 := by rw [← HL.out, List.length_append, ← HM.out]; rfl
               rw [hle]
               exact ⟨A9, c9, rfl, by rw [← HL.out]; exact HR1.out, HR2.out⟩
             · rw [if_neg h0] at hq
               have HL := Lib.hid (show (acc ++ [convT ⟨cl, (s.data.toList.drop k).take z, n⟩]) ++ rToks (s.data.toList.drop (k + z)) n = L from by rw [List.append_assoc]; exact hq)
               have e3 : (kindOf cl == 3) = false := kind_ne3 h4
               have e5 : (kindOf cl == 5) = false := kind_ne5 h0 hcl1 hcl5
               have hT2 : TX = str (convT ⟨cl, (s.data.toList.drop k).take z, n⟩).tx := by rw [hcv]; exact hTX
               obtain ⟨kd, hkd⟩ : ∃ x, kindOf cl = x := ⟨_, rfl⟩
               have HTOK := Lib.hid (show rtC (convT ⟨cl, (s.data.toList.drop k).take z, n⟩) = [.int .i64 kd, .string TX, .int .i64 (n : Int)] from by unfold rtC; rw [← hT2, ← hkd]; rfl)
               rw [hkd] at SZ e3 e5 q0 hw2
               have HCN := Lib.hid (show ∀ j u', [Value.int .i64 kd, .string TX, .int .i64 (n : Int)][j]? = some u' → (w2.alloc (.cells #[.int .i64 kd, .string TX, .int .i64 (n : Int)] 70)).cell? ((⟨u + 1, 0, none⟩ : Addr).add j) = some u' from fun j u' hj => by
                 obtain ⟨ad, e, _, hc⟩ := ((Full.new w2 70 [.int .i64 kd, .string TX, .int .i64 (n : Int)]).row 3 1 rfl 1 (Nat.le_refl _)).2.2.2 j u' hj
                 injection e with e
                 subst e
                 rw [hs3] at hc
                 exact hc)
               have hba : Below w2.heap.size w2 (w2.alloc (.cells #[.int .i64 kd, .string TX, .int .i64 (n : Int)] 70)) := (Below.refl _ w2).alloc (Nat.le_refl _) _
               have HOA := Lib.hid (own_keep hO3 hba)
               have HBA := Lib.hid (hB3.trans (hba.mono (by rw [hs3]; omega)))
               have hsa := hba.size
               rw [hs3] at hsa
               have HTL := Lib.hid (And.intro htl hTX)
               have SZ := Lib.hid SZ
               clear hba hO3 hB3 hO2 hB2 hb2 F2 hq hkd hT2 htl hTX hf4
               go_wp2_with (first
                 | (go_at_call 51; ((with_reducible refine SZ.out.mono ?_); rintro en w5 ⟨rfl, rfl⟩))
                 | (at_builtin; go_loud (refine wpList_append_own _ rfl _ _ 67 rfl w.heap.size 70 i0 (.agg #[.int .i64 0, .string ⟨#[]⟩, .int .i64 0]) 3 32 Tryz.underlying67 hi hz0 hz1 hz2 rfl (by decide) (.slice A m c) _ _ rfl HOA.out ⟨u + 1, 0, none⟩ 1 1 [.int .i64 kd, .string TX, .int .i64 (n : Int)] (by simp [Act.eval]) rfl HCN.out (by intro u hu; simp at hu; rcases hu with rfl | rfl | rfl <;> rfl) (by unfold maxLen; omega) (by omega) (by omega) ?_; intro v' w9 hown9 hgrow9 _; (have HO9 := Lib.hid hown9); (have HG9 := Lib.hid hgrow9); (obtain ⟨A9, c9, rfl⟩ := own_form hown9); (have HR1 := Lib.hid (show w9.ownsRow w.heap.size 70 3 (.slice A9 (m + 1) c9) (m + 1) (rtsC (acc ++ [convT ⟨cl, (s.data.toList.drop k).take z, n⟩])) from by rw [rtsC_snoc, HTOK.out]; exact hown9)); (have HR2 := Lib.hid (HBA.out.grown hgrow9 (by omega) (row_ge HOA.out))); clear hown9 hgrow9))
                 | (fail "arm"))
               go_roundw
               case rel => exact ⟨A9, m + 1, c9, k + z, n, acc ++ [convT ⟨cl, (s.data.toList.drop k).take z, n⟩], rfl, rfl, by go_num, by omega, by omega, by omega, Lib.hid (by rw [List.length_append, ← HM.out]; rfl), HR1, HL, HR2⟩
               case measure => simp [intOf]; omega
   · obtain rfl : k = s.size := by omega
     have k1 : ¬ ((s.size : Nat) : Int) < (s.size : Int) := by omega
     have HL := Lib.hid (show acc ++ [⟨0, [], n⟩] = L from by
       have q := HT.out
       rw [List.drop_eq_nil_of_le (by rw [hl0]; exact Nat.le_refl _), rToks_end] at q
       exact q)
     have HCN := Lib.hid (show ∀ j u, [Value.int .i64 0, .string ⟨#[]⟩, .int .i64 (n : Int)][j]? = some u → (wr.alloc (.cells #[.int .i64 0, .string ⟨#[]⟩, .int .i64 (n : Int)] 70)).cell? ((⟨wr.heap.size, 0, none⟩ : Addr).add j) = some u from fun j u hj => by
       obtain ⟨ad, e, _, hc⟩ := ((Full.new wr 70 [.int .i64 0, .string ⟨#[]⟩, .int .i64 (n : Int)]).row 3 1 rfl 1 (Nat.le_refl _)).2.2.2 j u hj
       injection e with e
       subst e
       exact hc)
     have hba : Below wr.heap.size wr (wr.alloc (.cells #[.int .i64 0, .string ⟨#[]⟩, .int .i64 (n : Int)] 70)) := (Below.refl _ wr).alloc (Nat.le_refl _) _
     have HOA := Lib.hid (own_keep HOW.out hba)
     have HBA := Lib.hid (HB.out.trans (hba.mono hsz))
     have hsa := hba.size
     clear hba
     go_wp2_with (first
       | (at_builtin; go_loud (refine wpList_append_own _ rfl _ _ 67 rfl w.heap.size 70 i0 (.agg #[.int .i64 0, .string ⟨#[]⟩, .int .i64 0]) 3 32 Tryz.underlying67 hi hz0 hz1 hz2 rfl (by decide) (.slice A m c) _ _ rfl HOA.out ⟨wr.heap.size, 0, none⟩ 1 1 [.int .i64 0, .string ⟨#[]⟩, .int .i64 (n : Int)] rfl rfl HCN.out (by intro u hu; simp at hu; rcases hu with rfl | rfl | rfl <;> rfl) (by unfold maxLen; omega) (by omega) (by simp; omega) ?_; intro v' w9 hown9 hgrow9 _; (have HO9 := Lib.hid hown9); (have HG9 := Lib.hid hgrow9); clear hown9 hgrow9))
       | (fail "arm"))
     obtain ⟨A9, c9, rfl⟩ := own_form HO9.out
     have HR := Lib.hid (show L.length = m + 1 ∧ w9.ownsRow w.heap.size 70 3 (.slice A9 (m + 1) c9) (m + 1) (rtsC L) ∧ Below w.heap.size w w9 from ⟨by rw [← HL.out, List.length_append, ← HM.out]; rfl, by rw [← HL.out, rtsC_snoc]; exact HO9.out, HBA.out.grown HG9.out (Nat.le_trans hsz hsa) (row_ge HOA.out)⟩)
     go_wp2
     go_ret
     rw [HR.out.1]
     exact ⟨A9, c9, rfl, HR.out.2.1, HR.out.2.2⟩
structure RSt where
 at_ : Nat
 e : Int
 ln : Int
structure RS (w : World) (bs b : Nat) (A : Option Addr) (c : Nat) (l : List RTok) (x : RSt) : Prop where
 fu : Full w b 100 [.slice A l.length c, .int .i64 (x.at_ : Int), .int .i64 x.e, .int .i64 x.ln]
 ow : w.ownsRow bs 70 3 (.slice A l.length c) l.length (rtsC l)
 lt : x.at_ < l.length
 le : l.length ≤ 4294967002
theorem RS.keep {F : Nat → Prop} {w w' : World} {bs b : Nat} {A : Option Addr} {c : Nat} {l : List RTok} {x : RSt} (h : RS w bs b A c l x) (ht : Turn F w w') (hb : ¬ F b) (ho : ∀ g, (Value.slice A l.length c).ownBlock = some g → ¬ F g) : RS w' bs b A c l x :=
 ⟨ht.far h.fu hb, own_off h.ow ht ho, h.lt, h.le⟩
theorem RS.on {w w' : World} {bs b : Nat} {A : Option Addr} {c : Nat} {l : List RTok} {x : RSt} (h : RS w bs b A c l x) (hb : Below w.heap.size w w') : RS w' bs b A c l x :=
 ⟨h.fu.on hb, own_keep h.ow hb, h.lt, h.le⟩
theorem RS.drew {w : World} {bs b : Nat} {A : Option Addr} {c : Nat} {l : List RTok} {x : RSt} (h : RS w bs b A c l x) : RS w.drew bs b A c l x := h.on (Below.drew (Below.refl _ w))
theorem RS.set {w : World} {bs b : Nat} {A : Option Addr} {c : Nat} {l : List RTok} {x x' : RSt} (h : RS w bs b A c l x) (i : Nat) (u : Value) (hx : [.slice A l.length c, .int .i64 (x.at_ : Int), .int .i64 x.e, .int .i64 x.ln].set i u = [.slice A l.length c, .int .i64 (x'.at_ : Int), .int .i64 x'.e, .int .i64 x'.ln]) (hl : x'.at_ < l.length) : RS (w.setCell ⟨b, i, none⟩ u) bs b A c l x' := by
 have hTs : Turn (fun g => g = b) w (w.setCell ⟨b, i, none⟩ u) := Turn.set_ (F := fun g => g = b) (a := ⟨b, i, none⟩) rfl _
 refine ⟨?_, own_off h.ow hTs (own_full_ne h.ow h.fu (by decide)), hl, h.le⟩
 rw [← hx]
 exact h.fu.set_ i u
theorem RS.tok {w : World} {bs b : Nat} {A : Option Addr} {c : Nat} {l : List RTok} {x : RSt} (h : RS w bs b A c l x) : ∃ ad, A = some ad ∧ w.cell? (ad.add (x.at_ * 3)) = some (.int .i64 (l[x.at_]'h.lt).kd) ∧
   w.cell? ⟨(ad.add (x.at_ * 3)).block, (ad.add (x.at_ * 3)).off + 1, none⟩ = some (.string (str (l[x.at_]'h.lt).tx)) ∧ w.cell? ⟨(ad.add (x.at_ * 3)).block, (ad.add (x.at_ * 3)).off + 2, none⟩ = some (.int .i64 ((l[x.at_]'h.lt).ln : Int)) := by
 have hr : Row w w.heap.size 3 A l.length c (rtsC l) := Row.own h.ow
 have e := fun j hj => flat_at rtC 3 (fun i => rfl) l x.at_ j h.lt hj
 obtain ⟨ad, rfl, hb, h0⟩ := Row.cell_at hr (e 0 (by decide))
 obtain ⟨_, e1, _, h1⟩ := Row.cell_at hr (e 1 (by decide))
 obtain ⟨_, e2, _, h2⟩ := Row.cell_at hr (e 2 (by decide))
 injection e1 with e1
 injection e2 with e2
 subst e1 e2
 rw [add_off _ _ _ (by decide)] at h1 h2
 exact ⟨ad, rfl, h0, h1, h2⟩
theorem RS.cap {w : World} {bs b : Nat} {A : Option Addr} {c : Nat} {l : List RTok} {x : RSt} (h : RS w bs b A c l x) : l.length ≤ c := (Row.own h.ow).2.1
def rFail (code line : Int) (x : RSt) : RSt := if x.e = 0 then ⟨x.at_, code, line⟩ else x
def RdOut (w : World) (bs b : Nat) (A : Option Addr) (c : Nat) (l : List RTok) (x : RSt) (v : Value) (en : Ending) (w' : World) : Prop := en = .returned v ∧ RS w' bs b A c l x ∧ Turn (fun g => g = b) w w'
theorem rfail_any {w : World} {bs b : Nat} {A : Option Addr} {c : Nat} {l : List RTok} {x : RSt} (h : RS w bs b A c l x) (code line : Int) : Calls Tryz.prog 80 #[.pointer (some ⟨b, 0, none⟩), .int .i64 code, .int .i64 line] w (RdOut w bs b A c l (rFail code line x) (.tuple #[])) := by
 unfold RdOut rFail
 obtain ⟨a, e, ln⟩ := x
 dsimp only
 have c2 : w.cell? ⟨b, 2, none⟩ = some (.int .i64 e) := h.fu.cell 2
 have hf2 := h.fu.frozen 2
 by_cases he : e = 0
 · rw [if_pos he]
   subst he
   have h1 : RS (w.setCell ⟨b, 2, none⟩ (.int .i64 code)) bs b A c l ⟨a, code, ln⟩ := h.set 2 _ rfl h.lt
   have c3 := h1.fu.cell 3
   dsimp only [List.getElem?_cons_zero, List.getElem?_cons_succ] at c3
   have hf3 := h1.fu.frozen 3
   have HO := Lib.hid (show RS ((w.setCell ⟨b, 2, none⟩ (.int .i64 code)).setCell ⟨b, 3, none⟩ (.int .i64 line)) bs b A c l ⟨a, code, line⟩ ∧ Turn (fun g => g = b) w ((w.setCell ⟨b, 2, none⟩ (.int .i64 code)).setCell ⟨b, 3, none⟩ (.int .i64 line)) from
     ⟨h1.set 3 _ rfl h.lt, ((Turn.refl (fun g => g = b) w).setb rfl 2 _).setb rfl 3 _⟩)
   clear h h1
   go_enter Tryz.func80, Tryz.ntmps80
   go_wp2
   go_end0
   exact ⟨rfl, HO.out⟩
 · rw [if_neg he]
   have hq : (e == 0) = false := by simpa using he
   have HO := Lib.hid (And.intro h (Turn.refl (fun g => g = b) w))
   clear h he
   go_enter Tryz.func80, Tryz.ntmps80
   go_wp2
   go_end0
   exact ⟨rfl, HO.out⟩
def rIs (kd : Int) (tx : List UInt8) (t : RTok) (e : Int) : Bool := decide (e = 0) && (t.kd == kd) && (t.tx == tx)
set_option maxHeartbeats 2000000 in
theorem ris_any {w : World} {bs b : Nat} {A : Option Addr} {c : Nat} {l : List RTok} {x : RSt} (h : RS w bs b A c l x) (kd : Int) (tx : List UInt8) :
   Calls Tryz.prog 78 #[.pointer (some ⟨b, 0, none⟩), .int .i64 kd, .string (str tx)] w (BoolB w (rIs kd tx (l[x.at_]'h.lt) x.e)) := by
 unfold BoolB rIs
 obtain ⟨ad, rfl, t0, t1, t2⟩ := h.drew.tok
 have hcap := h.cap
 have hlt := h.lt
 have hle := h.le
 have c0 : w.drew.cell? ⟨b, 0, none⟩ = some (.slice (some ad) l.length c) := h.fu.cell 0
 have c1 : w.drew.cell? ⟨b, 1, none⟩ = some (.int .i64 (x.at_ : Int)) := h.fu.cell 1
 obtain ⟨tk, htk⟩ : ∃ t, l[x.at_]'h.lt = t := ⟨_, rfl⟩
 rw [htk] at t0 t1 t2
 rw [htk]
 obtain ⟨X, hX⟩ : ∃ X, str tx = X := ⟨_, rfl⟩
 obtain ⟨Y, hY⟩ : ∃ X, str tk.tx = X := ⟨_, rfl⟩
 obtain ⟨kt, hkt⟩ : ∃ X, tk.kd = X := ⟨_, rfl⟩
 obtain ⟨lt, hlt'⟩ : ∃ X : Nat, tk.ln = X := ⟨_, rfl⟩
 rw [hkt] at t0
 rw [hY] at t1
 rw [hlt'] at t2
 rw [hX]
 have q3 : (Y.toList == X.toList) = (tk.tx == tx) := by rw [← hY, ← hX, Lib.toList_data, Lib.toList_data, str_data, str_data]
 rw [← q3, hkt]
 obtain ⟨w1, hw1⟩ : ∃ w1, w.alloc (.cells #[.int .i64 0, .string ⟨#[]⟩, .int .i64 0] 70) = w1 := ⟨_, rfl⟩
 have hb1 : Below w.heap.size w w1 := by rw [← hw1]; exact (Below.refl _ w).alloc (Nat.le_refl _) _
 have F1 : Full w1 w.heap.size 70 [.int .i64 0, .string ⟨#[]⟩, .int .i64 0] := by rw [← hw1]; exact Full.new w 70 _
 obtain ⟨u, hu⟩ : ∃ u, w.heap.size = u := ⟨_, rfl⟩
 rw [hu] at F1
 have hub : u ≠ b := by have := h.fu.lt; omega
 obtain ⟨ad', e', t0', t1', t2'⟩ := (h.on hb1).drew.tok
 injection e' with e'
 subst e'
 have c0' : w1.drew.cell? ⟨b, 0, none⟩ = some (.slice (some ad) l.length c) := (h.fu.on hb1).cell 0
 have c1' : w1.drew.cell? ⟨b, 1, none⟩ = some (.int .i64 (x.at_ : Int)) := (h.fu.on hb1).cell 1
 rw [htk] at t0' t1' t2'
 rw [hkt] at t0'
 rw [hY] at t1'
 rw [hlt'] at t2'
 have F1d : Full w1.drew u 70 [.int .i64 0, .string ⟨#[]⟩, .int .i64 0] := F1
 obtain ⟨_, _, _, F2⟩ := store3 F1 (.int .i64 kt) (.string Y) (.int .i64 (lt : Int))
 have a0 := F1.cell 0
 have a1 := F1.cell 1
 have a2 := F1.cell 2
 have a0f := F1.frozen 0
 have a1f := F1.frozen 1
 have a2f := F1.frozen 2
 have b0 := F1d.cell 0
 have b1 := F1d.cell 1
 have b2 := F1d.cell 2
 have b0f := F1d.frozen 0
 have b1f := F1d.frozen 1
 have b2f := F1d.frozen 2
 dsimp only [List.getElem?_cons_zero, List.getElem?_cons_succ] at a0 a1 a2 b0 b1 b2
 have hRb : Full (((w1.setCell ⟨u, 0, none⟩ (.int .i64 kt)).setCell ⟨u, 1, none⟩ (.string Y)).setCell ⟨u, 2, none⟩ (.int .i64 (lt : Int))).drew b 100 _ := (((h.fu.on hb1).far (p := ⟨u, 0, none⟩) hub.symm _).far (p := ⟨u, 1, none⟩) hub.symm _).far (p := ⟨u, 2, none⟩) hub.symm _
 have hb2 : Below w.heap.size w (((w1.setCell ⟨u, 0, none⟩ (.int .i64 kt)).setCell ⟨u, 1, none⟩ (.string Y)).setCell ⟨u, 2, none⟩ (.int .i64 (lt : Int))).drew := Below.drew (((hb1.setCell (p := ⟨u, 0, none⟩) (by show _ ≤ u; omega) _).setCell (p := ⟨u, 1, none⟩) (by show _ ≤ u; omega) _).setCell (p := ⟨u, 2, none⟩) (by show _ ≤ u; omega) _)
 have d2 := hRb.cell 2
 have F2d : Full (((w1.setCell ⟨u, 0, none⟩ (.int .i64 kt)).setCell ⟨u, 1, none⟩ (.string Y)).setCell ⟨u, 2, none⟩ (.int .i64 (lt : Int))).drew u 70 _ := F2
 have u0 := F2d.cell 0
 have u1 := F2d.cell 1
 dsimp only [List.getElem?_cons_zero, List.getElem?_cons_succ] at d2 u0 u1
 obtain ⟨e, he⟩ : ∃ e, x.e = e := ⟨_, rfl⟩
 rw [he] at d2 ⊢
 obtain ⟨n, hn⟩ : ∃ n, l.length = n := ⟨_, rfl⟩
 obtain ⟨k, hk⟩ : ∃ k, x.at_ = k := ⟨_, rfl⟩
 rw [hn] at c0 c0' hcap hlt hle
 rw [hk] at c1 c1' t0 t1 t2 t0' t1' t2' hlt
 have i0 : (0 : Int) ≤ (k : Int) := Int.natCast_nonneg _
 have i1 : (k : Int) < (n : Int) := by omega
 have eq1 : decide (e = 0) = (e == 0) := by rw [Bool.eq_iff_iff]; simp
 rw [eq1]
 obtain ⟨z1, hz1⟩ : ∃ z, (e == 0) = z := ⟨_, rfl⟩
 obtain ⟨z2, hz2⟩ : ∃ z, (kt == kd) = z := ⟨_, rfl⟩
 obtain ⟨z3, hz3⟩ : ∃ z, (Y.toList == X.toList) = z := ⟨_, rfl⟩
 rw [hz1, hz2, hz3]
 have HB := Lib.hid hb2
 clear F1 F1d F2 F2d hRb hb1 hb2 h q3 eq1 htk hkt hlt' hX hY he hn hk
 have WALK : True := trivial
 cases z1 with
 | false => (go_enter Tryz.func78, Tryz.ntmps78; go_upto_region 1 with fail; go_region; all_goals (go_wp2; all_goals go_ret; all_goals exact ⟨rfl, HB.out⟩))
 | true =>
   cases z2 with
   | false => (go_enter Tryz.func78, Tryz.ntmps78; go_upto_region 1 with fail; go_region; all_goals (go_wp2; all_goals go_ret; all_goals exact ⟨rfl, HB.out⟩))
   | true =>
     cases z3 with
     | false => (go_enter Tryz.func78, Tryz.ntmps78; go_upto_region 1 with fail; go_region; all_goals (go_wp2; all_goals go_ret; all_goals exact ⟨rfl, HB.out⟩))
     | true => (go_enter Tryz.func78, Tryz.ntmps78; go_upto_region 1 with fail; go_region; all_goals (go_wp2; all_goals go_ret; all_goals exact ⟨rfl, HB.out⟩))
def hdT (l : List RTok) (i : Nat) : RTok := (l[i]?).getD ⟨0, [], 0⟩
theorem hdT_eq {l : List RTok} {i : Nat} (h : i < l.length) : hdT l i = l[i] := by unfold hdT; rw [List.getElem?_eq_getElem h]; rfl
def LOk (l : List RTok) : Prop := ∀ i, i < l.length → (hdT l i).kd ≠ 0 → (hdT l i).kd ≠ 5 → i + 1 < l.length
def rTake (kd : Int) (tx : List UInt8) (l : List RTok) (x : RSt) : Bool × RSt := if rIs kd tx (hdT l x.at_) x.e then (true, ⟨x.at_ + 1, x.e, x.ln⟩) else (false, x)
def rNeed (kd : Int) (tx : List UInt8) (l : List RTok) (x : RSt) : RSt := if (rTake kd tx l x).1 then (rTake kd tx l x).2 else rFail 40 ((hdT l x.at_).ln : Int) x
theorem rtake_any {w : World} {bs b : Nat} {A : Option Addr} {c : Nat} {l : List RTok} {x : RSt} (h : RS w bs b A c l x) (hl : LOk l) (kd : Int) (h0 : kd ≠ 0) (h5 : kd ≠ 5) (tx : List UInt8) :
   Calls Tryz.prog 46 #[.pointer (some ⟨b, 0, none⟩), .int .i64 kd, .string (str tx)] w (RdOut w bs b A c l (rTake kd tx l x).2 (.bool (rTake kd tx l x).1)) := by
 unfold RdOut rTake
 have IS := ris_any h kd tx
 rw [← hdT_eq h.lt] at IS
 unfold BoolB at IS
 obtain ⟨X, hX⟩ : ∃ X, str tx = X := ⟨_, rfl⟩
 rw [hX] at IS ⊢
 cases hr : rIs kd tx (hdT l x.at_) x.e with
 | false =>
   rw [hr] at IS
   rw [if_neg (by decide)]
   have IS := Lib.hid IS
   have H := Lib.hid h
   clear h hr hX
   go_enter Tryz.func46, Tryz.ntmps46
   go_wp2_with (first
     | (go_at_call 78; ((with_reducible refine IS.out.mono ?_); rintro en w2 ⟨rfl, hb2⟩; (have HO := Lib.hid (And.intro (H.out.on hb2) (Turn.of (F := fun g => g = b) hb2)))))
     | (fail "arm"))
   go_ret
   exact ⟨rfl, HO.out⟩
 | true =>
   rw [hr] at IS
   rw [if_pos rfl]
   have hnx : x.at_ + 1 < l.length := by
     unfold rIs at hr
     simp only [Bool.and_eq_true, beq_iff_eq] at hr
     exact hl x.at_ h.lt (by rw [hr.1.2]; exact h0) (by rw [hr.1.2]; exact h5)
   obtain ⟨a, e, ln⟩ := x
   dsimp only at *
   have hle := h.le
   have IS := Lib.hid IS
   have H := Lib.hid h
   clear h hr hX
   go_enter Tryz.func46, Tryz.ntmps46
   go_wp2_with (first
     | (go_at_call 78; ((with_reducible refine IS.out.mono ?_); rintro en w2 ⟨rfl, hb2⟩; (have H2 := H.out.on hb2); (have z1 : w2.cell? ⟨b, 1, none⟩ = some (.int .i64 (a : Int)) := H2.fu.cell 1); (have z2 := H2.fu.frozen 1); (have HO := Lib.hid (And.intro (show RS (w2.setCell ⟨b, 1, none⟩ (.int .i64 ((a : Int) + 1))) bs b A c l ⟨a + 1, e, ln⟩ from H2.set 1 _ rfl hnx) ((Turn.of (F := fun g => g = b) hb2).setb rfl 1 (.int .i64 ((a : Int) + 1))))); clear H2))
     | (fail "arm"))
   go_ret
   exact ⟨rfl, HO.out⟩
set_option maxHeartbeats 2000000 in
theorem rneed_any {w : World} {bs b : Nat} {A : Option Addr} {c : Nat} {l : List RTok} {x : RSt} (h : RS w bs b A c l x) (hl : LOk l) (kd : Int) (h0 : kd ≠ 0) (h5 : kd ≠ 5) (tx : List UInt8) :
   Calls Tryz.prog 48 #[.pointer (some ⟨b, 0, none⟩), .int .i64 kd, .string (str tx)] w (RdOut w bs b A c l (rNeed kd tx l x) (.tuple #[])) := by
 have TK := rtake_any h hl kd h0 h5 tx
 unfold RdOut at TK ⊢
 unfold rNeed
 obtain ⟨X, hX⟩ : ∃ X, str tx = X := ⟨_, rfl⟩
 rw [hX] at TK ⊢
 cases hr : (rTake kd tx l x).1 with
 | true =>
   rw [hr] at TK
   rw [if_pos rfl]
   have TK := Lib.hid TK
   clear hr hX h
   go_enter Tryz.func48, Tryz.ntmps48
   go_wp2_with (first
     | (go_at_call 46; ((with_reducible refine TK.out.mono ?_); rintro en w2 ⟨rfl, hr2, ht2⟩; (have HO := Lib.hid (And.intro hr2 ht2)); clear hr2 ht2))
     | (fail "arm"))
   go_end0
   exact ⟨rfl, HO.out⟩
 | false =>
   have hx : (rTake kd tx l x).2 = x := by
     unfold rTake at hr ⊢
     split at hr
     · cases hr
     · rename_i hq; rw [if_neg hq]
   rw [hr, hx] at TK
   rw [if_neg (by decide)]
   have hlt := h.lt
   have hle := h.le
   have hcap := h.cap
   have i0 : (0 : Int) ≤ (x.at_ : Int) := Int.natCast_nonneg _
   have i1 : (x.at_ : Int) < (l.length : Int) := by omega
   have TK := Lib.hid TK
   have HF := Lib.hid (fun (W : World) (H : RS W bs b A c l x) => rfail_any H 40 ((hdT l x.at_).ln : Int))
   unfold RdOut at HF
   obtain ⟨n, hn⟩ : ∃ n : Nat, (hdT l x.at_).ln = n := ⟨_, rfl⟩
   rw [hn] at HF ⊢
   have HN := Lib.hid (show ∀ W, RS W bs b A c l x → ∃ ad, A = some ad ∧ W.cell? ⟨(ad.add (x.at_ * 3)).block, (ad.add (x.at_ * 3)).off + 2, none⟩ = some (.int .i64 (n : Int)) from fun W H => by
     obtain ⟨ad, e, _, _, q⟩ := H.tok
     rw [← hdT_eq H.lt, hn] at q
     exact ⟨ad, e, q⟩)
   clear hr hX h hx hn
   go_enter Tryz.func48, Tryz.ntmps48
   go_upto_region 2 with (first
     | (go_at_call 46; ((with_reducible refine TK.out.mono ?_); rintro en w2 ⟨rfl, hr2, ht2⟩; (have HR2 := Lib.hid hr2); (have HT2 := Lib.hid ht2); clear hr2 ht2))
     | (fail "arm"))
   have HRd := HR2.out.drew
   obtain ⟨ad, rfl, t2⟩ := HN.out w2.drew HRd
   have c0 : w2.drew.cell? ⟨b, 0, none⟩ = some (.slice (some ad) l.length c) := HRd.fu.cell 0
   have c1 : w2.drew.cell? ⟨b, 1, none⟩ = some (.int .i64 (x.at_ : Int)) := HRd.fu.cell 1
   have FL := Lib.hid (HF.out w2.drew HRd)
   have HTd := Lib.hid (HT2.out.drew)
   clear HRd
   go_region_with (first
     | (go_at_call 80; ((with_reducible refine FL.out.mono ?_); rintro en w3 ⟨rfl, hr3, ht3⟩; (have HO := Lib.hid (And.intro hr3 (HTd.out.trans_ ht3))); clear hr3 ht3))
     | (fail "arm"))
   all_goals (go_wp2; go_end0; exact ⟨rfl, HO.out⟩)
def rt0 : RTok := ⟨0, [], 0⟩
def rAny (kd : Int) (l : List RTok) (x : RSt) : RTok × RSt := if x.e = 0 ∧ (hdT l x.at_).kd = kd then (hdT l x.at_, ⟨x.at_ + 1, x.e, x.ln⟩) else (rt0, rFail 40 ((hdT l x.at_).ln : Int) x)
def rtV (t : RTok) : Value := .agg #[.int .i64 t.kd, .string (str t.tx), .int .i64 (t.ln : Int)]
set_option maxHeartbeats 8000000 in
theorem rany_any {w : World} {bs b : Nat} {A : Option Addr} {c : Nat} {l : List RTok} {x : RSt} (h : RS w bs b A c l x) (hl : LOk l) (kd : Int) (h0 : kd ≠ 0) (h5 : kd ≠ 5) :
   Calls Tryz.prog 81 #[.pointer (some ⟨b, 0, none⟩), .int .i64 kd] w (RdOut w bs b A c l (rAny kd l x).2 (rtV (rAny kd l x).1)) := by
 unfold RdOut rtV
 obtain ⟨w0, hw0⟩ : ∃ w0, w.alloc (.cells #[.int .i64 0, .string ⟨#[]⟩, .int .i64 0] 70) = w0 := ⟨_, rfl⟩
 have hb0 : Below w.heap.size w w0 := by rw [← hw0]; exact (Below.refl _ w).alloc (Nat.le_refl _) _
 have F0 : Full w0 w.heap.size 70 [.int .i64 0, .string ⟨#[]⟩, .int .i64 0] := by rw [← hw0]; exact Full.new w 70 _
 obtain ⟨r, hr⟩ : ∃ r, w.heap.size = r := ⟨_, rfl⟩
 rw [hr] at F0
 have hrb : r ≠ b := by have := h.fu.lt; omega
 have hO := h.on hb0
 obtain ⟨ad, rfl, t0, t1, t2⟩ := hO.drew.tok
 have HGL := Lib.hid (show ∀ g, (Value.slice (some ad) l.length c).ownBlock = some g → g < r from fun g hg => by rw [← hr]; exact (h.ow.lt g hg).2)
 have hcap := h.cap
 have hlt := h.lt
 have hle := h.le
 have c0 : w0.drew.cell? ⟨b, 0, none⟩ = some (.slice (some ad) l.length c) := hO.fu.cell 0
 have c1 : w0.drew.cell? ⟨b, 1, none⟩ = some (.int .i64 (x.at_ : Int)) := hO.fu.cell 1
 have hh := hdT_eq hlt
 unfold rAny
 have hlk := hl x.at_ hlt
 obtain ⟨tk, htk⟩ : ∃ t, l[x.at_]'h.lt = t := ⟨_, rfl⟩
 rw [htk] at t0 t1 t2 hh
 rw [hh] at hlk ⊢
 obtain ⟨Y, hY⟩ : ∃ X, str tk.tx = X := ⟨_, rfl⟩
 obtain ⟨kt, hkt⟩ : ∃ X, tk.kd = X := ⟨_, rfl⟩
 obtain ⟨lt, hlt'⟩ : ∃ X : Nat, tk.ln = X := ⟨_, rfl⟩
 rw [hkt] at t0 hlk
 rw [hY] at t1
 rw [hlt'] at t2
 rw [hkt, hlt']
 obtain ⟨w1, hw1⟩ : ∃ w1, w0.alloc (.cells #[.int .i64 0, .string ⟨#[]⟩, .int .i64 0] 70) = w1 := ⟨_, rfl⟩
 have hb1 : Below w0.heap.size w0 w1 := by rw [← hw1]; exact (Below.refl _ w0).alloc (Nat.le_refl _) _
 have F1 : Full w1 w0.heap.size 70 [.int .i64 0, .string ⟨#[]⟩, .int .i64 0] := by rw [← hw1]; exact Full.new w0 70 _
 have F01 := F0.on hb1
 obtain ⟨u, hu⟩ : ∃ u, w0.heap.size = u := ⟨_, rfl⟩
 rw [hu] at F1
 have hub : u ≠ b := by have := hO.fu.lt; omega
 have hur : u ≠ r := by have := F0.lt; omega
 have h1 := hO.on hb1
 obtain ⟨ad', e', t0', t1', t2'⟩ := h1.drew.tok
 injection e' with e'
 subst e'
 have c0' : w1.drew.cell? ⟨b, 0, none⟩ = some (.slice (some ad) l.length c) := h1.fu.cell 0
 have c1' : w1.drew.cell? ⟨b, 1, none⟩ = some (.int .i64 (x.at_ : Int)) := h1.fu.cell 1
 rw [htk] at t0' t1' t2'
 rw [hkt] at t0'
 rw [hY] at t1'
 rw [hlt'] at t2'
 have F1d : Full w1.drew u 70 [.int .i64 0, .string ⟨#[]⟩, .int .i64 0] := F1
 obtain ⟨_, _, _, F2⟩ := store3 F1 (.int .i64 kt) (.string Y) (.int .i64 (lt : Int))
 have a0 := F1.cell 0
 have a1 := F1.cell 1
 have a2 := F1.cell 2
 have a0f := F1.frozen 0
 have a1f := F1.frozen 1
 have a2f := F1.frozen 2
 have b0 := F1d.cell 0
 have b1 := F1d.cell 1
 have b2 := F1d.cell 2
 have b0f := F1d.frozen 0
 have b1f := F1d.frozen 1
 have b2f := F1d.frozen 2
 dsimp only [List.getElem?_cons_zero, List.getElem?_cons_succ] at a0 a1 a2 b0 b1 b2
 obtain ⟨w2, hw2⟩ : ∃ w2, (((w1.setCell ⟨u, 0, none⟩ (.int .i64 kt)).setCell ⟨u, 1, none⟩ (.string Y)).setCell ⟨u, 2, none⟩ (.int .i64 (lt : Int))).drew = w2 := ⟨_, rfl⟩
 have hTu : Turn (fun g => g = u) w1 w2 := by
   rw [← hw2]
   exact ((((Turn.refl (fun g => g = u) w1).setb rfl 0 _).setb rfl 1 _).setb rfl 2 _).drew
 have H2 : RS w2 bs b (some ad) c l x := h1.keep hTu (by omega) (fun g hg => (by have := (hO.ow.lt g hg).2; omega))
 have FR2 : Full w2 r 70 [.int .i64 0, .string ⟨#[]⟩, .int .i64 0] := hTu.far F01 (by omega)
 have FU2 : Full w2 u 70 [.int .i64 kt, .string Y, .int .i64 (lt : Int)] := by rw [← hw2]; exact F2
 have hsz0 := hb0.size
 have hT2 : Turn (fun g => g = b) w w2 := ((Turn.of (F := fun g => g = b) hb0).trans_ (Turn.of hb1)).late hTu fun g e => .inr (by omega)
 obtain ⟨k, hk⟩ : ∃ k, x.at_ = k := ⟨_, rfl⟩
 have i0 : (0 : Int) ≤ (k : Int) := Int.natCast_nonneg _
 have i1 : (k : Int) < (l.length : Int) := by omega
 rw [hk] at c1 c1' t0 t1 t2 t0' t1' t2'
 have HH := Lib.hid (And.intro H2 (And.intro FR2 (And.intro FU2 hT2)))
 have d2 : w2.cell? ⟨b, 2, none⟩ = some (.int .i64 x.e) := H2.fu.cell 2
 have u0 : w2.cell? ⟨u, 0, none⟩ = some (.int .i64 kt) := FU2.cell 0
 have u2 : w2.cell? ⟨u, 2, none⟩ = some (.int .i64 (lt : Int)) := FU2.cell 2
 have HTK := Lib.hid (And.intro hY (And.intro hkt hlt'))
 clear H2 FR2 FU2 hT2 F0 F1 F01 F1d F2 hb0 hb1 hO h1 h hTu hh htk hY hkt hlt'
 by_cases hc : x.e = 0 ∧ kt = kd
 · rw [if_pos hc]
   have q1 : (x.e != 0) = false := by rw [hc.1]; rfl
   have q2 : (kt != kd) = false := by rw [hc.2]; simp
   have hnx : k + 1 < l.length := by
     have := hlk (by rw [hc.2]; exact h0) (by rw [hc.2]; exact h5)
     omega
   have d1 : w2.cell? ⟨b, 1, none⟩ = some (.int .i64 (k : Int)) := by rw [← hk]; exact HH.out.1.fu.cell 1
   have d1f := HH.out.1.fu.frozen 1
   have H3 : RS (w2.setCell ⟨b, 1, none⟩ (.int .i64 ((k : Int) + 1))) bs b (some ad) c l ⟨k + 1, x.e, x.ln⟩ := HH.out.1.set 1 _ rfl hnx
   have FU3 := HH.out.2.2.1.far (p := ⟨b, 1, none⟩) (by omega) (.int .i64 ((k : Int) + 1))
   have FR3 := HH.out.2.1.far (p := ⟨b, 1, none⟩) (by omega) (.int .i64 ((k : Int) + 1))
   have hT3 := HH.out.2.2.2.setb rfl 1 (.int .i64 ((k : Int) + 1))
   obtain ⟨w3, hw3⟩ : ∃ w3, w2.setCell ⟨b, 1, none⟩ (.int .i64 ((k : Int) + 1)) = w3 := ⟨_, rfl⟩
   rw [hw3] at H3 FU3 FR3 hT3
   have v0 := FU3.cell 0
   have v1 := FU3.cell 1
   have v2 := FU3.cell 2
   dsimp only [List.getElem?_cons_zero, List.getElem?_cons_succ] at v0 v1 v2
   obtain ⟨⟨p0, p0f⟩, ⟨p1, p1f⟩, ⟨p2, p2f⟩, F4⟩ := store3 FR3 (.int .i64 kt) (.string Y) (.int .i64 (lt : Int))
   have hTr : Turn (fun g => g = r) w3 (((w3.setCell ⟨r, 0, none⟩ (.int .i64 kt)).setCell ⟨r, 1, none⟩ (.string Y)).setCell ⟨r, 2, none⟩ (.int .i64 (lt : Int))) := (((Turn.refl (fun g => g = r) w3).setb rfl 0 _).setb rfl 1 _).setb rfl 2 _
   have HO := Lib.hid (show Full (((w3.setCell ⟨r, 0, none⟩ (.int .i64 kt)).setCell ⟨r, 1, none⟩ (.string Y)).setCell ⟨r, 2, none⟩ (.int .i64 (lt : Int))) r 70 [.int .i64 kt, .string Y, .int .i64 (lt : Int)] ∧ RS (((w3.setCell ⟨r, 0, none⟩ (.int .i64 kt)).setCell ⟨r, 1, none⟩ (.string Y)).setCell ⟨r, 2, none⟩ (.int .i64 (lt : Int))) bs b (some ad) c l ⟨k + 1, x.e, x.ln⟩ ∧ Turn (fun g => g = b) w (((w3.setCell ⟨r, 0, none⟩ (.int .i64 kt)).setCell ⟨r, 1, none⟩ (.string Y)).setCell ⟨r, 2, none⟩ (.int .i64 (lt : Int))) from
     ⟨F4, H3.keep hTr (by omega) (fun g hg e => by have := HGL.out g hg; omega), hT3.late hTr fun g e => .inr (by omega)⟩)
   clear F4 hTr H3 FU3 FR3 hT3 hc HH
   go_enter Tryz.func81, Tryz.ntmps81
   go_upto_region 1 with fail
   go_region
   all_goals
     go_wp2
     obtain ⟨w9, hw9⟩ : ∃ w9, ((w3.setCell ⟨r, 0, none⟩ (.int .i64 kt)).setCell ⟨r, 1, none⟩ (.string Y)).setCell ⟨r, 2, none⟩ (.int .i64 (lt : Int)) = w9 := ⟨_, rfl⟩
     have ho := HO.out
     rw [hw9] at ho ⊢
     have q0 := ho.1.cell 0
     have q1 := ho.1.cell 1
     have q2 := ho.1.cell 2
     dsimp only [List.getElem?_cons_zero, List.getElem?_cons_succ] at q0 q1 q2
     refine bodyPost_ret (v := .agg #[.int .i64 kt, .string Y, .int .i64 (lt : Int)]) (by simp [results, Tryz.results81, go_sem, q0, q1, q2]) rfl ?_
     refine ⟨by rw [HTK.out.1, HTK.out.2.1, HTK.out.2.2], ?_, ho.2.2⟩
     rw [hk]
     exact ho.2.1
 · rw [if_neg hc]
   dsimp only
   have FL := rfail_any HH.out.1 40 (lt : Int)
   unfold RdOut at FL
   have FL := Lib.hid FL
   have HN := Lib.hid hc
   obtain ⟨e, he⟩ : ∃ e, x.e = e := ⟨_, rfl⟩
   rw [he] at hc d2
   by_cases he0 : e = 0
   · have hkk : ¬ kt = kd := fun z => hc ⟨he0, z⟩
     have q1 : (e != 0) = false := by rw [he0]; rfl
     have q2 : (kt != kd) = true := by simpa using hkk
     clear hc he0 hkk he
     go_enter Tryz.func81, Tryz.ntmps81
     go_upto_region 1 with fail
     go_region
     all_goals
       go_upto_region 4 with (first
         | (go_at_call 80; ((with_reducible refine FL.out.mono ?_); rintro en w3 ⟨rfl, H3, hT3⟩; (have HR3 := Lib.hid H3); (have HT3 := Lib.hid (HH.out.2.2.2.trans_ hT3)); (have HFR := Lib.hid (hT3.far HH.out.2.1 (by omega))); clear H3 hT3))
         | (fail "arm"))
       obtain ⟨⟨p0, p0f⟩, ⟨p1, p1f⟩, ⟨p2, p2f⟩, F4⟩ := store3 HFR.out (.int .i64 0) (.string ⟨#[]⟩) (.int .i64 0)
       have hTr : Turn (fun g => g = r) w3 (((w3.setCell ⟨r, 0, none⟩ (.int .i64 0)).setCell ⟨r, 1, none⟩ (.string ⟨#[]⟩)).setCell ⟨r, 2, none⟩ (.int .i64 0)) := (((Turn.refl (fun g => g = r) w3).setb rfl 0 _).setb rfl 1 _).setb rfl 2 _
       have HO := Lib.hid (And.intro F4 (And.intro (HR3.out.keep hTr (by omega) (fun g hg e => by have := HGL.out g hg; omega)) (HT3.out.late hTr fun g e => .inr (by omega))))
       clear F4 hTr
       go_wp2
       obtain ⟨w9, hw9⟩ : ∃ w9, ((w3.setCell ⟨r, 0, none⟩ (.int .i64 0)).setCell ⟨r, 1, none⟩ (.string ⟨#[]⟩)).setCell ⟨r, 2, none⟩ (.int .i64 0) = w9 := ⟨_, rfl⟩
       have ho := HO.out
       rw [hw9] at ho ⊢
       have q0 := ho.1.cell 0
       have q1 := ho.1.cell 1
       have q2 := ho.1.cell 2
       dsimp only [List.getElem?_cons_zero, List.getElem?_cons_succ] at q0 q1 q2
       exact bodyPost_ret (v := .agg #[.int .i64 0, .string ⟨#[]⟩, .int .i64 0]) (by simp [results, Tryz.results81, go_sem, q0, q1, q2]) rfl ⟨rfl, ho.2.1, ho.2.2⟩
   · have q1 : (e != 0) = true := by simpa using he0
     clear hc he0 he
     go_enter Tryz.func81, Tryz.ntmps81
     go_upto_region 1 with fail
     go_region
     all_goals
       go_upto_region 4 with (first
         | (go_at_call 80; ((with_reducible refine FL.out.mono ?_); rintro en w3 ⟨rfl, H3, hT3⟩; (have HR3 := Lib.hid H3); (have HT3 := Lib.hid (HH.out.2.2.2.trans_ hT3)); (have HFR := Lib.hid (hT3.far HH.out.2.1 (by omega))); clear H3 hT3))
         | (fail "arm"))
       obtain ⟨⟨p0, p0f⟩, ⟨p1, p1f⟩, ⟨p2, p2f⟩, F4⟩ := store3 HFR.out (.int .i64 0) (.string ⟨#[]⟩) (.int .i64 0)
       have hTr : Turn (fun g => g = r) w3 (((w3.setCell ⟨r, 0, none⟩ (.int .i64 0)).setCell ⟨r, 1, none⟩ (.string ⟨#[]⟩)).setCell ⟨r, 2, none⟩ (.int .i64 0)) := (((Turn.refl (fun g => g = r) w3).setb rfl 0 _).setb rfl 1 _).setb rfl 2 _
       have HO := Lib.hid (And.intro F4 (And.intro (HR3.out.keep hTr (by omega) (fun g hg e => by have := HGL.out g hg; omega)) (HT3.out.late hTr fun g e => .inr (by omega))))
       clear F4 hTr
       go_wp2
       obtain ⟨w9, hw9⟩ : ∃ w9, ((w3.setCell ⟨r, 0, none⟩ (.int .i64 0)).setCell ⟨r, 1, none⟩ (.string ⟨#[]⟩)).setCell ⟨r, 2, none⟩ (.int .i64 0) = w9 := ⟨_, rfl⟩
       have ho := HO.out
       rw [hw9] at ho ⊢
       have q0 := ho.1.cell 0
       have q1 := ho.1.cell 1
       have q2 := ho.1.cell 2
       dsimp only [List.getElem?_cons_zero, List.getElem?_cons_succ] at q0 q1 q2
       exact bodyPost_ret (v := .agg #[.int .i64 0, .string ⟨#[]⟩, .int .i64 0]) (by simp [results, Tryz.results81, go_sem, q0, q1, q2]) rfl ⟨rfl, ho.2.1, ho.2.2⟩
def rPlGate (l : List RTok) (x : RSt) : RSt := if rIs 1 globS (hdT l x.at_) x.e then rFail 40 ((hdT l x.at_).ln : Int) x else x
def rPlatform (l : List RTok) (x : RSt) : RTok × RSt := rAny 1 l (rPlGate l x)
set_option maxHeartbeats 4000000 in
theorem rplatform_any {w : World} {bs b : Nat} {A : Option Addr} {c : Nat} {l : List RTok} {x : RSt} (h : RS w bs b A c l x) (hl : LOk l) :
   Calls Tryz.prog 79 #[.pointer (some ⟨b, 0, none⟩)] w (RdOut w bs b A c l (rPlatform l x).2 (rtV (rPlatform l x).1)) := by
 unfold RdOut rPlatform
 obtain ⟨w0, hw0⟩ : ∃ w0, w.alloc (.cells #[.int .i64 0, .string ⟨#[]⟩, .int .i64 0] 70) = w0 := ⟨_, rfl⟩
 have hb0 : Below w.heap.size w w0 := by rw [← hw0]; exact (Below.refl _ w).alloc (Nat.le_refl _) _
 have F0 : Full w0 w.heap.size 70 [.int .i64 0, .string ⟨#[]⟩, .int .i64 0] := by rw [← hw0]; exact Full.new w 70 _
 obtain ⟨r, hr⟩ : ∃ r, w.heap.size = r := ⟨_, rfl⟩
 rw [hr] at F0
 have hrb : r ≠ b := by have := h.fu.lt; omega
 have HGL := Lib.hid (show ∀ g, (Value.slice A l.length c).ownBlock = some g → g < r from fun g hg => by rw [← hr]; exact (h.ow.lt g hg).2)
 have hO := h.on hb0
 have IS := ris_any hO 1 globS
 rw [← hdT_eq hO.lt] at IS
 unfold BoolB at IS
 obtain ⟨x1, hx1⟩ : ∃ y, rPlGate l x = y := ⟨_, rfl⟩
 rw [hx1]
 have HAN := Lib.hid (fun (W : World) (H : RS W bs b A c l x1) => rany_any H hl 1 (by decide) (by decide))
 obtain ⟨⟨tk, x2⟩, hx2⟩ : ∃ y, rAny 1 l x1 = y := ⟨_, rfl⟩
 rw [hx2] at HAN ⊢
 unfold RdOut rtV at HAN
 unfold rtV
 dsimp only at HAN ⊢
 obtain ⟨y0, hy0⟩ : ∃ y, tk.kd = y := ⟨_, rfl⟩
 obtain ⟨y1, hy1⟩ : ∃ y, str tk.tx = y := ⟨_, rfl⟩
 obtain ⟨y2, hy2⟩ : ∃ y : Nat, tk.ln = y := ⟨_, rfl⟩
 rw [hy0, hy1, hy2] at HAN ⊢
 clear hy0 hy1 hy2 hx2
 have hT0 : Turn (fun g => g = b) w w0 := Turn.of hb0
 have HF0 := Lib.hid (And.intro F0 hT0)
 unfold rPlGate at hx1
 have TAIL : True := trivial
 cases hg : rIs 1 globS (hdT l x.at_) x.e with
 | false =>
   rw [hg] at IS hx1
   rw [if_neg (by decide)] at hx1
   subst hx1
   have IS := Lib.hid (show Calls Tryz.prog 78 #[.pointer (some ⟨b, 0, none⟩), .int .i64 1, .string ⟨#[103, 108, 111, 98]⟩] w0 _ from IS)
   have HO := Lib.hid hO
   clear hg h hO F0 hT0 hb0 TAIL
   go_enter Tryz.func79, Tryz.ntmps79
   go_upto_region 4 with (first
     | (go_at_call 78; ((with_reducible refine IS.out.mono ?_); rintro en w2 ⟨rfl, hb2⟩; (have H2 := Lib.hid (show RS w2 bs b A c l x ∧ Full w2 r 70 [.int .i64 0, .string ⟨#[]⟩, .int .i64 0] ∧ Turn (fun g => g = b) w w2 from ⟨HO.out.on hb2, HF0.out.1.on hb2, HF0.out.2.trans_ (Turn.of hb2)⟩)); clear hb2))
     | (fail "arm"))
   have AN := Lib.hid (HAN.out _ H2.out.1)
   go_wp2_with (first
     | (go_at_call 81; ((with_reducible refine AN.out.mono ?_); rintro en w4 ⟨rfl, h4, ht4⟩; (have F4 := ht4.far H2.out.2.1 (by omega)); (obtain ⟨⟨p0, p0f⟩, ⟨p1, p1f⟩, ⟨p2, p2f⟩, F5⟩ := store3 F4 (.int .i64 y0) (.string y1) (.int .i64 (y2 : Int))); (have HR4 := Lib.hid h4); (have HT4 := Lib.hid (H2.out.2.2.trans_ ht4)); (have HF5 := Lib.hid F5); clear h4 ht4 F4 F5))
     | (fail "arm"))
   have hTr : Turn (fun g => g = r) w4 (((w4.setCell ⟨r, 0, none⟩ (.int .i64 y0)).setCell ⟨r, 1, none⟩ (.string y1)).setCell ⟨r, 2, none⟩ (.int .i64 (y2 : Int))) := (((Turn.refl (fun g => g = r) w4).setb rfl 0 _).setb rfl 1 _).setb rfl 2 _
   have hRS := HR4.out.keep hTr (by omega) (fun g hg e => by have := HGL.out g hg; omega)
   have hTT := HT4.out.late hTr fun g e => .inr (by omega)
   have hF := HF5.out
   obtain ⟨w9, hw9⟩ : ∃ w9, ((w4.setCell ⟨r, 0, none⟩ (.int .i64 y0)).setCell ⟨r, 1, none⟩ (.string y1)).setCell ⟨r, 2, none⟩ (.int .i64 (y2 : Int)) = w9 := ⟨_, rfl⟩
   rw [hw9] at hRS hTT hF ⊢
   have q0 := hF.cell 0
   have q1 := hF.cell 1
   have q2 := hF.cell 2
   dsimp only [List.getElem?_cons_zero, List.getElem?_cons_succ] at q0 q1 q2
   exact bodyPost_ret (v := .agg #[.int .i64 y0, .string y1, .int .i64 (y2 : Int)]) (by simp [results, Tryz.results79, go_sem, q0, q1, q2]) rfl ⟨rfl, hRS, hTT⟩
 | true =>
   rw [hg] at IS hx1
   rw [if_pos rfl] at hx1
   have IS := Lib.hid (show Calls Tryz.prog 78 #[.pointer (some ⟨b, 0, none⟩), .int .i64 1, .string ⟨#[103, 108, 111, 98]⟩] w0 _ from IS)
   have HO := Lib.hid hO
   have hlt := h.lt
   have hle := h.le
   have hcap := h.cap
   have i0 : (0 : Int) ≤ (x.at_ : Int) := Int.natCast_nonneg _
   have i1 : (x.at_ : Int) < (l.length : Int) := by omega
   have HF := Lib.hid (fun (W : World) (H : RS W bs b A c l x) => rfail_any H 40 ((hdT l x.at_).ln : Int))
   unfold RdOut at HF
   rw [hx1] at HF
   obtain ⟨n, hn⟩ : ∃ n : Nat, (hdT l x.at_).ln = n := ⟨_, rfl⟩
   rw [hn] at HF
   have HN := Lib.hid (show ∀ W, RS W bs b A c l x → ∃ ad, A = some ad ∧ W.cell? ⟨(ad.add (x.at_ * 3)).block, (ad.add (x.at_ * 3)).off + 2, none⟩ = some (.int .i64 (n : Int)) from fun W H => by
     obtain ⟨ad, e, _, _, q⟩ := H.tok
     rw [← hdT_eq H.lt, hn] at q
     exact ⟨ad, e, q⟩)
   clear hg h hO F0 hT0 hb0 hn hx1 TAIL
   go_enter Tryz.func79, Tryz.ntmps79
   go_upto_region 3 with (first
     | (go_at_call 78; ((with_reducible refine IS.out.mono ?_); rintro en w2 ⟨rfl, hb2⟩; (have H2 := Lib.hid (show RS w2 bs b A c l x ∧ Full w2 r 70 [.int .i64 0, .string ⟨#[]⟩, .int .i64 0] ∧ Turn (fun g => g = b) w w2 from ⟨HO.out.on hb2, HF0.out.1.on hb2, HF0.out.2.trans_ (Turn.of hb2)⟩)); clear hb2))
     | (fail "arm"))
   have HRd := H2.out.1.drew
   obtain ⟨ad, rfl, t2⟩ := HN.out w2.drew HRd
   have c0 : w2.drew.cell? ⟨b, 0, none⟩ = some (.slice (some ad) l.length c) := HRd.fu.cell 0
   have c1 : w2.drew.cell? ⟨b, 1, none⟩ = some (.int .i64 (x.at_ : Int)) := HRd.fu.cell 1
   have FL := Lib.hid (HF.out w2.drew HRd)
   have HTd := Lib.hid (And.intro (H2.out.2.2.drew) (show Full w2.drew r 70 [.int .i64 0, .string ⟨#[]⟩, .int .i64 0] from H2.out.2.1))
   clear HRd H2
   go_region_with (first
     | (go_at_call 80; ((with_reducible refine FL.out.mono ?_); rintro en w2 ⟨rfl, hr3, ht3⟩; (have H2 := Lib.hid (show RS w2 bs b (some ad) c l x1 ∧ Full w2 r 70 [.int .i64 0, .string ⟨#[]⟩, .int .i64 0] ∧ Turn (fun g => g = b) w w2 from ⟨hr3, ht3.far HTd.out.2 (by omega), HTd.out.1.trans_ ht3⟩)); clear hr3 ht3))
     | (fail "arm"))
   all_goals
     have AN := Lib.hid (HAN.out _ H2.out.1)
     go_wp2_with (first
       | (go_at_call 81; ((with_reducible refine AN.out.mono ?_); rintro en w4 ⟨rfl, h4, ht4⟩; (have F4 := ht4.far H2.out.2.1 (by omega)); (obtain ⟨⟨p0, p0f⟩, ⟨p1, p1f⟩, ⟨p2, p2f⟩, F5⟩ := store3 F4 (.int .i64 y0) (.string y1) (.int .i64 (y2 : Int))); (have HR4 := Lib.hid h4); (have HT4 := Lib.hid (H2.out.2.2.trans_ ht4)); (have HF5 := Lib.hid F5); clear h4 ht4 F4 F5))
       | (fail "arm"))
     have hTr : Turn (fun g => g = r) w4 (((w4.setCell ⟨r, 0, none⟩ (.int .i64 y0)).setCell ⟨r, 1, none⟩ (.string y1)).setCell ⟨r, 2, none⟩ (.int .i64 (y2 : Int))) := (((Turn.refl (fun g => g = r) w4).setb rfl 0 _).setb rfl 1 _).setb rfl 2 _
     have hRS := HR4.out.keep hTr (by omega) (fun g hg e => by have := HGL.out g hg; omega)
     have hTT := HT4.out.late hTr fun g e => .inr (by omega)
     have hF := HF5.out
     obtain ⟨w9, hw9⟩ : ∃ w9, ((w4.setCell ⟨r, 0, none⟩ (.int .i64 y0)).setCell ⟨r, 1, none⟩ (.string y1)).setCell ⟨r, 2, none⟩ (.int .i64 (y2 : Int)) = w9 := ⟨_, rfl⟩
     rw [hw9] at hRS hTT hF ⊢
     have q0 := hF.cell 0
     have q1 := hF.cell 1
     have q2 := hF.cell 2
     dsimp only [List.getElem?_cons_zero, List.getElem?_cons_succ] at q0 q1 q2
     exact bodyPost_ret (v := .agg #[.int .i64 y0, .string y1, .int .i64 (y2 : Int)]) (by simp [results, Tryz.results79, go_sem, q0, q1, q2]) rfl ⟨rfl, hRS, hTT⟩
def rValF : Int → List UInt8 → Int
 | a, [] => a
 | a, c :: t => rValF (min (10 * a + ((c.toNat : Int) - 48)) 1000000) t
def rVal (s : List UInt8) : Int := rValF 0 s
set_option maxHeartbeats 2000000 in
theorem value_any (s : ByteArray) (hs : s.size ≤ 281474976710655) (hd : ∀ b ∈ s.data.toList, isDig b = true) (w : World) : Calls Tryz.prog 117 #[.string s] w (fun e w' => e = .returned (.int .i64 (rVal s.data.toList)) ∧ w' = w) := by
 have hl0 := data_len s
 obtain ⟨R, hR⟩ : ∃ R, rVal s.data.toList = R := ⟨_, rfl⟩
 rw [hR]
 have HS := Lib.hid (show rValF 0 (s.data.toList.drop 0) = R from hR)
 have HD := Lib.hid (fun (k : Nat) (h : k < s.size) => (show 48 ≤ s[k].toNat ∧ s[k].toNat ≤ 57 from by
   have q := hd s[k] (by
     have : s[k] = s.data.toList[k]'(by rw [hl0]; exact h) := by simp; rfl
     rw [this]
     exact List.getElem_mem _)
   unfold isDig at q
   simp only [Bool.and_eq_true, decide_eq_true_eq] at q
   exact q))
 have HDR := Lib.hid (fun (k : Nat) (h : k < s.size) => drop_at s k h)
 have hsi : (s.size : Int) ≤ 281474976710655 := by omega
 clear hR hd
 go_enter Tryz.func117, Tryz.ntmps117
 go_upto_region 3 with fail
 go_loopw [3, 4] (fun v3 v4 wr => ∃ (a : Int) (k : Nat), v3 = .int .i64 a ∧ v4 = .int .i64 (k : Int) ∧ k ≤ s.size ∧ 0 ≤ a ∧ a ≤ 1000000 ∧ Hid (rValF a (s.data.toList.drop k) = R) ∧ wr = w) (fun _ v4 _ => s.size - (intOf v4).toNat)
 case atStart => exact ⟨0, 0, rfl, rfl, Nat.zero_le _, by omega, by omega, HS, rfl⟩
 case round =>
   obtain ⟨a, k, rfl, rfl, hk, ha0, ha1, HR, hww⟩ := hrel
   rw [hww]
   clear hww
   have k0 : (0 : Int) ≤ (k : Int) := Int.natCast_nonneg _
   by_cases hks : k < s.size
   · have k1 : (k : Int) < (s.size : Int) := by omega
     obtain ⟨d1, d2⟩ := HD.out k hks
     have HR2 := Lib.hid (show rValF (min (10 * a + ((s[k].toNat : Int) - 48)) 1000000) (s.data.toList.drop (k + 1)) = R from by
       have q := HR.out
       rw [HDR.out k hks, rValF] at q
       exact q)
     have d3 : (48 : Int) ≤ (s[k].toNat : Int) := by omega
     have d4 : (s[k].toNat : Int) ≤ 57 := by omega
     go_wp2
     go_roundw
     case rel => exact ⟨_, k + 1, rfl, by go_num, by omega, by omega, by omega, HR2, by simp⟩
     case measure => simp [intOf]; omega
   · obtain rfl : k = s.size := by omega
     have k1 : ¬ ((s.size : Nat) : Int) < (s.size : Int) := by omega
     have e : a = R := by
       have q := HR.out
       rw [List.drop_eq_nil_of_le (by rw [hl0]; exact Nat.le_refl _)] at q
       exact q
     subst e
     go_wp2
     go_ret
     exact ⟨rfl, rfl⟩
def LDig (l : List RTok) : Prop := ∀ i, i < l.length → (hdT l i).kd = 2 → (hdT l i).tx.length ≤ 4294967000 ∧ ∀ b ∈ (hdT l i).tx, isDig b = true
def rNum1 (low high : Int) (l : List RTok) (x : RSt) : RSt :=
 if (rAny 2 l x).2.e = 0 ∧ (rVal (rAny 2 l x).1.tx < low ∨ high < rVal (rAny 2 l x).1.tx) then rFail 41 ((rAny 2 l x).1.ln : Int) (rAny 2 l x).2 else (rAny 2 l x).2
def rNumber (low high : Int) (l : List RTok) (x : RSt) : (Int × Nat) × RSt := ((rVal (rAny 2 l x).1.tx, (rAny 2 l x).1.ln), rNeed 4 [59] l (rNum1 low high l x))
set_option maxHeartbeats 8000000 in
theorem rnumber_any {w : World} {bs b : Nat} {A : Option Addr} {c : Nat} {l : List RTok} {x : RSt} (h : RS w bs b A c l x) (hl : LOk l) (hd : LDig l) (low high : Int) :
   Calls Tryz.prog 83 #[.pointer (some ⟨b, 0, none⟩), .int .i64 low, .int .i64 high] w (RdOut w bs b A c l (rNumber low high l x).2 (.tuple #[.int .i64 (rNumber low high l x).1.1, .int .i64 ((rNumber low high l x).1.2 : Int)])) := by
 unfold RdOut rNumber rNum1
 have AN := rany_any h hl 2 (by decide) (by decide)
 unfold RdOut rtV at AN
 have hdg : (rAny 2 l x).1.tx.length ≤ 4294967000 ∧ ∀ b ∈ (rAny 2 l x).1.tx, isDig b = true := by
   unfold rAny
   split
   · rename_i hq
     exact hd x.at_ h.lt hq.2
   · exact ⟨Nat.zero_le _, fun b hb => by cases hb⟩
 obtain ⟨⟨tk, x1⟩, hx1⟩ : ∃ y, rAny 2 l x = y := ⟨_, rfl⟩
 rw [hx1] at AN hdg ⊢
 dsimp only at AN hdg ⊢
 have VA := fun W => value_any (str tk.tx) (by rw [str_size]; omega) (by rw [str_data]; exact hdg.2) W
 rw [str_data] at VA
 obtain ⟨y0, hy0⟩ : ∃ y, tk.kd = y := ⟨_, rfl⟩
 obtain ⟨y1, hy1⟩ : ∃ y, str tk.tx = y := ⟨_, rfl⟩
 obtain ⟨y2, hy2⟩ : ∃ y : Nat, tk.ln = y := ⟨_, rfl⟩
 obtain ⟨n, hn⟩ : ∃ y, rVal tk.tx = y := ⟨_, rfl⟩
 rw [hy0, hy1, hy2] at AN
 rw [hy1, hn] at VA
 rw [hy2, hn]
 have AN := Lib.hid AN
 have VA := Lib.hid VA
 obtain ⟨x2, hx2⟩ : ∃ y, (if x1.e = 0 ∧ (n < low ∨ high < n) then rFail 41 (y2 : Int) x1 else x1) = y := ⟨_, rfl⟩
 rw [hx2]
 obtain ⟨x3, hx3⟩ : ∃ y, rNeed 4 [59] l x2 = y := ⟨_, rfl⟩
 rw [hx3]
 have HNE := Lib.hid (fun (W : World) (H : RS W bs b A c l x2) => (by
   have z := rneed_any H hl 4 (by decide) (by decide) [59]
   unfold RdOut at z
   rw [hx3] at z
   exact z : Calls Tryz.prog 48 #[.pointer (some ⟨b, 0, none⟩), .int .i64 4, .string ⟨#[59]⟩] W (fun en w' => en = .returned (.tuple #[]) ∧ RS w' bs b A c l x3 ∧ Turn (fun g => g = b) W w')))
 have HFL := Lib.hid (fun (W : World) (H : RS W bs b A c l x1) => rfail_any H 41 (y2 : Int))
 unfold RdOut at HFL
 clear hx1 hdg hy0 hy1 hy2 hn hx3 h
 obtain ⟨e, he⟩ : ∃ e, x1.e = e := ⟨_, rfl⟩
 rw [he] at hx2
 have HEX := Lib.hid he
 have WALKS : ∀ (q : Bool), True := fun _ => trivial
 clear WALKS he
 by_cases hc : e = 0 ∧ (n < low ∨ high < n)
 · rw [if_pos hc] at hx2
   rw [hx2] at HFL
   have q1 : (e == 0) = true := by rw [hc.1]; rfl
   by_cases hlow : n < low
   · have p1 : decide (n < low) = true := decide_eq_true hlow
     clear hc hx2
     go_enter Tryz.func83, Tryz.ntmps83
     go_upto_region 2 with (first
       | (go_at_call 81; ((with_reducible refine AN.out.mono ?_); rintro en w2 ⟨rfl, h2, ht2⟩; (have H2 := Lib.hid (And.intro h2 ht2)); clear h2 ht2))
       | (fail "arm"))
     obtain ⟨w3, hw3⟩ : ∃ w3, w2.alloc (.cells #[.int .i64 y0, .string y1, .int .i64 (y2 : Int)] 70) = w3 := ⟨_, rfl⟩
     have hb3 : Below w2.heap.size w2 w3 := by rw [← hw3]; exact (Below.refl _ w2).alloc (Nat.le_refl _) _
     have F3 : Full w3 w2.heap.size 70 [.int .i64 y0, .string y1, .int .i64 (y2 : Int)] := by rw [← hw3]; exact Full.new w2 70 _
     obtain ⟨u, hu⟩ : ∃ u, w2.heap.size = u := ⟨_, rfl⟩
     rw [hu] at F3
     have hub : u ≠ b := by have := H2.out.1.fu.lt; omega
     have R3 := H2.out.1.on hb3
     have v1 : w3.cell? ⟨u, 1, none⟩ = some (.string y1) := F3.cell 1
     have v2 : w3.cell? ⟨u, 2, none⟩ = some (.int .i64 (y2 : Int)) := F3.cell 2
     have v3 : w3.cell? ⟨b, 2, none⟩ = some (.int .i64 e) := by rw [← HEX.out]; exact R3.fu.cell 2
     have HR3 := Lib.hid (And.intro R3 (And.intro F3 (H2.out.2.trans_ (Turn.of hb3))))
     rw [hw3, hu]
     clear F3 R3 hb3 hw3 hu
     go_upto_region 6 with (first
       | (go_at_call 117; ((with_reducible refine (VA.out _).mono ?_); rintro en w4 ⟨rfl, rfl⟩))
       | (go_at_call 80; ((with_reducible refine (HFL.out _ HR3.out.1).mono ?_); rintro en w5 ⟨rfl, h5, ht5⟩; (have H5 := Lib.hid (And.intro h5 (And.intro (ht5.far HR3.out.2.1 hub) (HR3.out.2.2.trans_ ht5)))); clear h5 ht5))
       | (go_at_call 48; ((with_reducible refine (HNE.out _ H5.out.1).mono ?_); rintro en w6 ⟨rfl, h6, ht6⟩; (have H6 := Lib.hid (And.intro h6 (And.intro (ht6.far H5.out.2.1 hub) (H5.out.2.2.trans_ ht6)))); clear h6 ht6))
       | (fail "arm"))
     have z2 : w6.drew.cell? ⟨u, 2, none⟩ = some (.int .i64 (y2 : Int)) := H6.out.2.1.cell 2
     go_region
     all_goals (go_wp2; go_ret2; exact ⟨rfl, H6.out.1.drew, H6.out.2.2.drew⟩)
   · have p2 : high < n := hc.2.resolve_left hlow
     have p1 : decide (n < low) = false := decide_eq_false hlow
     have p3 : decide (n > high) = true := decide_eq_true p2
     clear hc hx2
     go_enter Tryz.func83, Tryz.ntmps83
     go_upto_region 2 with (first
       | (go_at_call 81; ((with_reducible refine AN.out.mono ?_); rintro en w2 ⟨rfl, h2, ht2⟩; (have H2 := Lib.hid (And.intro h2 ht2)); clear h2 ht2))
       | (fail "arm"))
     obtain ⟨w3, hw3⟩ : ∃ w3, w2.alloc (.cells #[.int .i64 y0, .string y1, .int .i64 (y2 : Int)] 70) = w3 := ⟨_, rfl⟩
     have hb3 : Below w2.heap.size w2 w3 := by rw [← hw3]; exact (Below.refl _ w2).alloc (Nat.le_refl _) _
     have F3 : Full w3 w2.heap.size 70 [.int .i64 y0, .string y1, .int .i64 (y2 : Int)] := by rw [← hw3]; exact Full.new w2 70 _
     obtain ⟨u, hu⟩ : ∃ u, w2.heap.size = u := ⟨_, rfl⟩
     rw [hu] at F3
     have hub : u ≠ b := by have := H2.out.1.fu.lt; omega
     have R3 := H2.out.1.on hb3
     have v1 : w3.cell? ⟨u, 1, none⟩ = some (.string y1) := F3.cell 1
     have v2 : w3.cell? ⟨u, 2, none⟩ = some (.int .i64 (y2 : Int)) := F3.cell 2
     have v3 : w3.cell? ⟨b, 2, none⟩ = some (.int .i64 e) := by rw [← HEX.out]; exact R3.fu.cell 2
     have HR3 := Lib.hid (And.intro R3 (And.intro F3 (H2.out.2.trans_ (Turn.of hb3))))
     rw [hw3, hu]
     clear F3 R3 hb3 hw3 hu
     go_upto_region 6 with (first
       | (go_at_call 117; ((with_reducible refine (VA.out _).mono ?_); rintro en w4 ⟨rfl, rfl⟩))
       | (go_at_call 80; ((with_reducible refine (HFL.out _ HR3.out.1).mono ?_); rintro en w5 ⟨rfl, h5, ht5⟩; (have H5 := Lib.hid (And.intro h5 (And.intro (ht5.far HR3.out.2.1 hub) (HR3.out.2.2.trans_ ht5)))); clear h5 ht5))
       | (go_at_call 48; ((with_reducible refine (HNE.out _ H5.out.1).mono ?_); rintro en w6 ⟨rfl, h6, ht6⟩; (have H6 := Lib.hid (And.intro h6 (And.intro (ht6.far H5.out.2.1 hub) (H5.out.2.2.trans_ ht6)))); clear h6 ht6))
       | (fail "arm"))
     have z2 : w6.drew.cell? ⟨u, 2, none⟩ = some (.int .i64 (y2 : Int)) := H6.out.2.1.cell 2
     go_region
     all_goals (go_wp2; go_ret2; exact ⟨rfl, H6.out.1.drew, H6.out.2.2.drew⟩)
 · rw [if_neg hc] at hx2
   subst hx2
   by_cases he0 : e = 0
   · have q1 : (e == 0) = true := by rw [he0]; rfl
     have hlow : ¬ n < low := fun z => hc ⟨he0, .inl z⟩
     have hhi : ¬ high < n := fun z => hc ⟨he0, .inr z⟩
     have p1 : decide (n < low) = false := decide_eq_false hlow
     have p3 : decide (n > high) = false := decide_eq_false hhi
     clear hc he0
     go_enter Tryz.func83, Tryz.ntmps83
     go_upto_region 2 with (first
       | (go_at_call 81; ((with_reducible refine AN.out.mono ?_); rintro en w2 ⟨rfl, h2, ht2⟩; (have H2 := Lib.hid (And.intro h2 ht2)); clear h2 ht2))
       | (fail "arm"))
     obtain ⟨w3, hw3⟩ : ∃ w3, w2.alloc (.cells #[.int .i64 y0, .string y1, .int .i64 (y2 : Int)] 70) = w3 := ⟨_, rfl⟩
     have hb3 : Below w2.heap.size w2 w3 := by rw [← hw3]; exact (Below.refl _ w2).alloc (Nat.le_refl _) _
     have F3 : Full w3 w2.heap.size 70 [.int .i64 y0, .string y1, .int .i64 (y2 : Int)] := by rw [← hw3]; exact Full.new w2 70 _
     obtain ⟨u, hu⟩ : ∃ u, w2.heap.size = u := ⟨_, rfl⟩
     rw [hu] at F3
     have hub : u ≠ b := by have := H2.out.1.fu.lt; omega
     have R3 := H2.out.1.on hb3
     have v1 : w3.cell? ⟨u, 1, none⟩ = some (.string y1) := F3.cell 1
     have v2 : w3.cell? ⟨u, 2, none⟩ = some (.int .i64 (y2 : Int)) := F3.cell 2
     have v3 : w3.cell? ⟨b, 2, none⟩ = some (.int .i64 e) := by rw [← HEX.out]; exact R3.fu.cell 2
     have HR3 := Lib.hid (And.intro R3 (And.intro F3 (H2.out.2.trans_ (Turn.of hb3))))
     rw [hw3, hu]
     clear F3 R3 hb3 hw3 hu
     go_upto_region 6 with (first
       | (go_at_call 117; ((with_reducible refine (VA.out _).mono ?_); rintro en w4 ⟨rfl, rfl⟩))
       | (go_at_call 48; ((with_reducible refine (HNE.out _ HR3.out.1).mono ?_); rintro en w6 ⟨rfl, h6, ht6⟩; (have H6 := Lib.hid (And.intro h6 (And.intro (ht6.far HR3.out.2.1 hub) (HR3.out.2.2.trans_ ht6)))); clear h6 ht6))
       | (fail "arm"))
     have z2 : w6.drew.cell? ⟨u, 2, none⟩ = some (.int .i64 (y2 : Int)) := H6.out.2.1.cell 2
     go_region
     all_goals (go_wp2; go_ret2; exact ⟨rfl, H6.out.1.drew, H6.out.2.2.drew⟩)
   · have q1 : (e == 0) = false := by simpa using he0
     clear hc he0
     go_enter Tryz.func83, Tryz.ntmps83
     go_upto_region 2 with (first
       | (go_at_call 81; ((with_reducible refine AN.out.mono ?_); rintro en w2 ⟨rfl, h2, ht2⟩; (have H2 := Lib.hid (And.intro h2 ht2)); clear h2 ht2))
       | (fail "arm"))
     obtain ⟨w3, hw3⟩ : ∃ w3, w2.alloc (.cells #[.int .i64 y0, .string y1, .int .i64 (y2 : Int)] 70) = w3 := ⟨_, rfl⟩
     have hb3 : Below w2.heap.size w2 w3 := by rw [← hw3]; exact (Below.refl _ w2).alloc (Nat.le_refl _) _
     have F3 : Full w3 w2.heap.size 70 [.int .i64 y0, .string y1, .int .i64 (y2 : Int)] := by rw [← hw3]; exact Full.new w2 70 _
     obtain ⟨u, hu⟩ : ∃ u, w2.heap.size = u := ⟨_, rfl⟩
     rw [hu] at F3
     have hub : u ≠ b := by have := H2.out.1.fu.lt; omega
     have R3 := H2.out.1.on hb3
     have v1 : w3.cell? ⟨u, 1, none⟩ = some (.string y1) := F3.cell 1
     have v2 : w3.cell? ⟨u, 2, none⟩ = some (.int .i64 (y2 : Int)) := F3.cell 2
     have v3 : w3.cell? ⟨b, 2, none⟩ = some (.int .i64 e) := by rw [← HEX.out]; exact R3.fu.cell 2
     have HR3 := Lib.hid (And.intro R3 (And.intro F3 (H2.out.2.trans_ (Turn.of hb3))))
     rw [hw3, hu]
     clear F3 R3 hb3 hw3 hu
     go_upto_region 6 with (first
       | (go_at_call 117; ((with_reducible refine (VA.out _).mono ?_); rintro en w4 ⟨rfl, rfl⟩))
       | (go_at_call 48; ((with_reducible refine (HNE.out _ HR3.out.1).mono ?_); rintro en w6 ⟨rfl, h6, ht6⟩; (have H6 := Lib.hid (And.intro h6 (And.intro (ht6.far HR3.out.2.1 hub) (HR3.out.2.2.trans_ ht6)))); clear h6 ht6))
       | (fail "arm"))
     have z2 : w6.drew.cell? ⟨u, 2, none⟩ = some (.int .i64 (y2 : Int)) := H6.out.2.1.cell 2
     go_region
     all_goals (go_wp2; go_ret2; exact ⟨rfl, H6.out.1.drew, H6.out.2.2.drew⟩)
def rKinds : Nat → List RTok → RSt → Int × RSt
 | 0, l, x => (0, rFail 40 ((hdT l x.at_).ln : Int) x)
 | f + 1, l, x => if (rTake 1 (kw (4 - f)) l x).1 then (((4 - f : Nat) : Int), rNeed 4 [59] l (rTake 1 (kw (4 - f)) l x).2) else rKinds f l x
def kwC : List Value := [.string ⟨#[108, 105, 98]⟩, .string ⟨#[98, 105, 110]⟩, .string ⟨#[116, 101, 115, 116]⟩, .string ⟨#[103, 101, 110]⟩]
theorem kwC_at {w : World} {u : Nat} (F : Full w u 9 kwC) (k : Nat) (hk : k < 4) : w.cell? ⟨u, k, none⟩ = some (.string (str (kw (k + 1)))) := by
 rw [F.cell k]
 obtain rfl | rfl | rfl | rfl : k = 0 ∨ k = 1 ∨ k = 2 ∨ k = 3 := by omega
 all_goals rfl
theorem rTake_no {kd : Int} {tx : List UInt8} {l : List RTok} {x : RSt} (h : (rTake kd tx l x).1 = false) : (rTake kd tx l x).2 = x := by
 unfold rTake at h ⊢
 split at h
 · cases h
 · rename_i hq; rw [if_neg hq]
set_option maxHeartbeats 8000000 in
theorem rkind_any {w : World} {bs b : Nat} {A : Option Addr} {c : Nat} {l : List RTok} {x : RSt} (h : RS w bs b A c l x) (hl : LOk l) :
   Calls Tryz.prog 82 #[.pointer (some ⟨b, 0, none⟩)] w (RdOut w bs b A c l (rKinds 4 l x).2 (.int .i64 (rKinds 4 l x).1)) := by
 unfold RdOut
 obtain ⟨⟨v, y⟩, hr⟩ : ∃ r, rKinds 4 l x = r := ⟨_, rfl⟩
 rw [hr]
 dsimp only
 obtain ⟨w1, hw1⟩ : ∃ w1, w.alloc (.cells #[.string ⟨#[108, 105, 98]⟩, .string ⟨#[98, 105, 110]⟩, .string ⟨#[116, 101, 115, 116]⟩, .string ⟨#[103, 101, 110]⟩] 9) = w1 := ⟨_, rfl⟩
 have hb1 : Below w.heap.size w w1 := by rw [← hw1]; exact (Below.refl _ w).alloc (Nat.le_refl _) _
 have F1 : Full w1 w.heap.size 9 kwC := by rw [← hw1]; exact Full.new w 9 _
 obtain ⟨u, hu⟩ : ∃ u, w.heap.size = u := ⟨_, rfl⟩
 rw [hu] at F1
 have hub : u ≠ b := by have := h.fu.lt; omega
 have HS := Lib.hid (show RS w1 bs b A c l x ∧ Full w1 u 9 kwC ∧ Turn (fun g => g = b) w w1 from ⟨h.on hb1, F1, Turn.of hb1⟩)
 have HTK := Lib.hid (fun (k : Nat) (W : World) (H : RS W bs b A c l x) => rtake_any H hl 1 (by decide) (by decide) (kw (k + 1)))
 have HND := Lib.hid (fun (z : RSt) (W : World) (H : RS W bs b A c l z) => (by
   have q := rneed_any H hl 4 (by decide) (by decide) [59]
   unfold RdOut at q
   exact q : Calls Tryz.prog 48 #[.pointer (some ⟨b, 0, none⟩), .int .i64 4, .string ⟨#[59]⟩] W (fun en w' => en = .returned (.tuple #[]) ∧ RS w' bs b A c l (rNeed 4 [59] l z) ∧ Turn (fun g => g = b) W w')))
 have HFL := Lib.hid (fun (W : World) (H : RS W bs b A c l x) => rfail_any H 40 ((hdT l x.at_).ln : Int))
 unfold RdOut at HFL HTK
 have hlt := h.lt
 have hle := h.le
 have hcap := h.cap
 have i0 : (0 : Int) ≤ (x.at_ : Int) := Int.natCast_nonneg _
 have i1 : (x.at_ : Int) < (l.length : Int) := by omega
 obtain ⟨n, hn⟩ : ∃ n : Nat, (hdT l x.at_).ln = n := ⟨_, rfl⟩
 rw [hn] at HFL
 have HN := Lib.hid (show ∀ W, RS W bs b A c l x → ∃ ad, A = some ad ∧ W.cell? ⟨(ad.add (x.at_ * 3)).block, (ad.add (x.at_ * 3)).off + 2, none⟩ = some (.int .i64 (n : Int)) from fun W H => by
   obtain ⟨ad, e, _, _, q⟩ := H.tok
   rw [← hdT_eq H.lt, hn] at q
   exact ⟨ad, e, q⟩)
 have HNN := Lib.hid hn
 have HR := Lib.hid hr
 clear h hb1 F1 hr hn
 go_enter Tryz.func82, Tryz.ntmps82
 go_upto_region 3 with fail
 go_loopw [4] (fun i wr => ∃ k : Nat, i = .int .i64 (k : Int) ∧ k ≤ 4 ∧ Hid (rKinds (4 - k) l x = (v, y)) ∧ Hid (RS wr bs b A c l x ∧ Full wr u 9 kwC ∧ Turn (fun g => g = b) w wr)) (fun i _ => 4 - (intOf i).toNat)
 case atStart => exact ⟨0, rfl, by omega, HR, HS⟩
 case round =>
   obtain ⟨k, rfl, hk, HK, HW⟩ := hrel
   have k0 : (0 : Int) ≤ (k : Int) := Int.natCast_nonneg _
   by_cases hlt4 : k < 4
   · have k1 : (k : Int) < 4 := by omega
     have hd4 : decide ((k : Int) < 4) = true := by simp; omega
     have z0 := kwC_at HW.out.2.1 k hlt4
     have TK := HTK.out k wr HW.out.1
     obtain ⟨X, hX⟩ : ∃ X, str (kw (k + 1)) = X := ⟨_, rfl⟩
     rw [hX] at z0 TK
     have hkk := HK.out
     obtain ⟨f, hf⟩ : ∃ f, 4 - k = f + 1 := ⟨3 - k, by omega⟩
     rw [hf, rKinds, show 4 - f = k + 1 by omega] at hkk
     cases htk : (rTake 1 (kw (k + 1)) l x).1 with
     | true =>
       rw [htk] at TK hkk
       rw [if_pos rfl] at hkk
       obtain ⟨x2, hx2⟩ : ∃ y, (rTake 1 (kw (k + 1)) l x).2 = y := ⟨_, rfl⟩
       rw [hx2] at TK hkk
       have TK := Lib.hid TK
       have HKK := Lib.hid hkk
       have ND := Lib.hid (HND.out x2)
       clear hX htk hx2 hkk
       go_wp2_with (first
         | (go_at_call 46; ((with_reducible refine TK.out.mono ?_); rintro en w2 ⟨rfl, h2, ht2⟩; (have H2 := Lib.hid (And.intro h2 (HW.out.2.2.trans_ ht2))); clear h2 ht2))
         | (go_at_call 48; ((with_reducible refine (ND.out _ H2.out.1).mono ?_); rintro en w3 ⟨rfl, h3, ht3⟩; (have H3 := Lib.hid (And.intro h3 (H2.out.2.trans_ ht3))); clear h3 ht3))
         | (fail "arm"))
       go_ret
       have e := HKK.out
       injection e with e1 e2
       subst e1 e2
       refine ⟨?_, H3.out.1, H3.out.2⟩
       show Ending.returned (Value.int .i64 (1 + (k : Int))) = _
       congr 2
       omega
     | false =>
       rw [htk, rTake_no htk] at TK
       rw [htk, if_neg (by decide)] at hkk
       have TK := Lib.hid TK
       have HK2 := Lib.hid (show rKinds (4 - (k + 1)) l x = (v, y) from by rw [show 4 - (k + 1) = f by omega]; exact hkk)
       clear hX htk hkk
       go_wp2_with (first
         | (go_at_call 46; ((with_reducible refine TK.out.mono ?_); rintro en w2 ⟨rfl, h2, ht2⟩; (have H2 := Lib.hid (And.intro h2 (And.intro (ht2.far HW.out.2.1 hub) (HW.out.2.2.trans_ ht2)))); clear h2 ht2))
         | (fail "arm"))
       go_roundw
       case rel => exact ⟨k + 1, by simp, hlt4, HK2, H2⟩
       case measure => show 4 - ((k : Int) + 1).toNat < 4 - (k : Int).toNat; omega
   · obtain rfl : k = 4 := by omega
     have hd4 : decide (((4 : Nat) : Int) < 4) = false := by decide
     have e := HK.out
     rw [show 4 - 4 = 0 from rfl, rKinds, HNN.out] at e
     injection e with e1 e2
     have HRd := HW.out.1.drew
     obtain ⟨ad, rfl, t2⟩ := HN.out wr.drew HRd
     have c0 : wr.drew.cell? ⟨b, 0, none⟩ = some (.slice (some ad) l.length c) := HRd.fu.cell 0
     have c1 : wr.drew.cell? ⟨b, 1, none⟩ = some (.int .i64 (x.at_ : Int)) := HRd.fu.cell 1
     have FL := HFL.out wr.drew HRd
     rw [e2] at FL
     have FL := Lib.hid FL
     have HTd := Lib.hid (HW.out.2.2.drew)
     have HE1 := Lib.hid e1
     clear HRd e1 e2
     go_upto_region 9 with fail
     go_region_with (first
       | (go_at_call 80; ((with_reducible refine FL.out.mono ?_); rintro en w3 ⟨rfl, hr3, ht3⟩; (have HO := Lib.hid (And.intro hr3 (HTd.out.trans_ ht3))); clear hr3 ht3))
       | (fail "arm"))
     all_goals (go_wp2; go_ret; exact ⟨by rw [← HE1.out]; rfl, HO.out⟩)
theorem toks_ne (s : List UInt8) (n : Nat) : 0 < (toks s n).length := by
 rw [toks_eq]
 split <;> simp
theorem toks_last : ∀ (f : Nat) (s : List UInt8) (n : Nat), s.length ≤ f → ∀ i, i < (toks s n).length → 2 ≤ ((toks s n)[i]?.getD tok0).cls → i + 1 < (toks s n).length
 | f, s, n, hf, i, hi, hc => by
   rw [toks_eq] at hi hc ⊢
   by_cases h : (next s n).1.cls ≤ 1
   · rw [if_pos h] at hi hc ⊢
     have hi0 : i = 0 := by simpa using hi
     subst hi0
     simp at hc
     omega
   · rw [if_neg h] at hi hc ⊢
     have hlen := next_len s n (by omega)
     cases i with
     | zero =>
       have := toks_ne (next s n).2.1 (next s n).2.2
       simp only [List.length_cons]
       omega
     | succ i =>
       simp only [List.length_cons, List.getElem?_cons_succ] at hi hc ⊢
       cases f with
       | zero => omega
       | succ f =>
         have := toks_last f (next s n).2.1 (next s n).2.2 (by omega) i (by omega) hc
         omega
theorem kd_cls {c : Nat} (h0 : kindOf c ≠ 0) (h5 : kindOf c ≠ 5) : 2 ≤ c := by
 rcases Nat.lt_or_ge c 2 with h | h
 · obtain rfl | rfl : c = 0 ∨ c = 1 := by omega
   · exact absurd rfl h5
   · exact absurd rfl h0
 · exact h
theorem hdT_toks (s : List UInt8) (n i : Nat) (hi : i < (rToks s n).length) : hdT (rToks s n) i = convT ((toks s n)[i]?.getD tok0) := by
 have h2 : i < (toks s n).length := by simpa [rToks] using hi
 unfold hdT rToks
 rw [List.getElem?_map, List.getElem?_eq_getElem h2]
 rfl
theorem rToks_lok (s : List UInt8) (n : Nat) : LOk (rToks s n) := fun i hi h0 h5 => by
 rw [hdT_toks s n i hi] at h0 h5
 have h2 : i < (toks s n).length := by simpa [rToks] using hi
 have := toks_last s.length s n (Nat.le_refl _) i h2 (kd_cls h0 h5)
 simpa [rToks] using this
theorem toks_num : ∀ (f : Nat) (s : List UInt8) (n : Nat), s.length ≤ f → s.length ≤ 4294967000 → ∀ i, i < (toks s n).length → ((toks s n)[i]?.getD tok0).cls = 3 → ((toks s n)[i]?.getD tok0).txt.length ≤ 4294967000 ∧ ∀ b ∈ ((toks s n)[i]?.getD tok0).txt, isDig b = true
 | f, s, n, hf, hs, i, hi, hc => by
   rw [toks_eq] at hi hc ⊢
   have head : (next s n).1.cls = 3 → (next s n).1.txt.length ≤ 4294967000 ∧ ∀ b ∈ (next s n).1.txt, isDig b = true := fun h3 => by
     have hsl := (skip_len false s n).1
     refine ⟨?_, ?_⟩
     · show ((skip false s n).1.take _).length ≤ _
       rw [List.length_take]
       omega
     · show ∀ b ∈ (skip false s n).1.take (first (skip false s n).1).2, _
       have h3 : (first (skip false s n).1).1 = 3 := h3
       obtain ⟨l, hl⟩ : ∃ l, (skip false s n).1 = l := ⟨_, rfl⟩
       rw [hl] at h3 ⊢
       cases l with
       | nil => simp [first] at h3
       | cons c t =>
         by_cases h1 : isLet c = true
         · rw [first, if_pos h1] at h3; simp at h3
         · by_cases h2 : isDig c = true
           · have e : first (c :: t) = (3, run isDig (c :: t)) := by rw [first, if_neg h1, if_pos h2]
             rw [e]
             intro b hb
             obtain ⟨j, hj, rfl⟩ := List.getElem_of_mem hb
             rw [List.length_take] at hj
             obtain ⟨_, q⟩ := run_at isDig (c :: t) j (by omega)
             rw [List.getElem_take]
             exact q
           · rw [first, if_neg h1, if_neg h2] at h3
             split at h3
             · simp at h3
             · split at h3 <;> simp at h3
   by_cases h : (next s n).1.cls ≤ 1
   · rw [if_pos h] at hi hc ⊢
     have hi0 : i = 0 := by simpa using hi
     subst hi0
     simp at hc
     omega
   · rw [if_neg h] at hi hc ⊢
     have hlen := next_len s n (by omega)
     cases i with
     | zero =>
       simp only [List.getElem?_cons_zero, Option.getD_some] at hc ⊢
       exact head hc
     | succ i =>
       simp only [List.length_cons, List.getElem?_cons_succ] at hi hc ⊢
       cases f with
       | zero => omega
       | succ f => exact toks_num f (next s n).2.1 (next s n).2.2 (by omega) (by omega) i (by omega) hc
theorem rToks_dig (s : List UInt8) (n : Nat) (hs : s.length ≤ 4294967000) : LDig (rToks s n) := fun i hi h => by
 have h2 : i < (toks s n).length := by simpa [rToks] using hi
 rw [hdT_toks s n i hi] at h ⊢
 have hc : ((toks s n)[i]?.getD tok0).cls = 3 := by
   have h : kindOf ((toks s n)[i]?.getD tok0).cls = 2 := h
   unfold kindOf at h
   split at h <;> first | (rename_i e; exact e) | (simp at h)
 have := toks_num s.length s n (Nat.le_refl _) hs i h2 hc
 unfold convT
 rw [if_neg (by rw [hc]; decide)]
 exact this
theorem rToks_len (s : List UInt8) (n : Nat) : 0 < (rToks s n).length ∧ (rToks s n).length ≤ s.length + 1 := by
 unfold rToks
 rw [List.length_map]
 exact ⟨toks_ne s n, toks_len (s.length + 1) s n⟩
def rHas (l : List Itm) (tx : List UInt8) : Bool := l.any fun i => i.tx == tx
set_option maxHeartbeats 4000000 in
theorem rhas_any {w : World} {B c : Nat} {A : Option Addr} {l : List Itm} (hA : Itms w B A c l) (hB : B ≤ w.heap.size) (hl : l.length ≤ maxLen) (tx : List UInt8) :
   Calls Tryz.prog 40 #[.slice A l.length c, .string (str tx)] w (BoolB w (rHas l tx)) := by
 unfold BoolB
 unfold maxLen at hl
 have hcap := hA.2.1
 obtain ⟨n, hn⟩ : ∃ n, l.length = n := ⟨_, rfl⟩
 rw [hn] at hcap hl ⊢
 obtain ⟨R, hR⟩ : ∃ R, rHas l tx = R := ⟨_, rfl⟩
 rw [hR]
 obtain ⟨X, hX⟩ : ∃ X, str tx = X := ⟨_, rfl⟩
 rw [hX]
 have HN := Lib.hid hn
 have HX := Lib.hid hX
 have HS := Lib.hid (show rHas (l.drop 0) tx = R from hR)
 clear hn hR hX
 go_enter Tryz.func40, Tryz.ntmps40
 go_upto_region 2 with fail
 go_loopw [5] (fun i wr => ∃ k : Nat, i = .int .i64 (k : Int) ∧ k ≤ n ∧ Hid (rHas (l.drop k) tx = R) ∧ Below w.heap.size w wr) (fun i _ => n - (intOf i).toNat)
 case atStart => exact ⟨0, rfl, Nat.zero_le _, HS, Below.refl _ _⟩
 case round =>
   obtain ⟨k, rfl, hk, HR, hBw⟩ := hrel
   have hi0 : (0 : Int) ≤ (k : Int) := Int.natCast_nonneg _
   by_cases hlt : k < n
   · have hi1 : (k : Int) < (n : Int) := by omega
     have hdd : decide ((k : Int) < (n : Int)) = true := by simp; omega
     have hkl : k < l.length := by have := HN.out; omega
     obtain ⟨ad, rfl, _, x0, x1, x2, x3⟩ := (show Itms wr B A c l from Row.below hA hBw hB).at_ hkl
     have hRR := HR.out
     rw [List.drop_eq_getElem_cons hkl, rHas, List.any_cons] at hRR
     have q3 : ((str l[k].tx).toList == X.toList) = (l[k].tx == tx) := by rw [← HX.out, Lib.toList_data, Lib.toList_data, str_data, str_data]
     rw [← q3] at hRR
     obtain ⟨a0, ha0⟩ : ∃ y, str l[k].tx = y := ⟨_, rfl⟩
     rw [ha0] at x0 hRR
     obtain ⟨q, hq⟩ : ∃ q, (a0.toList == X.toList) = q := ⟨_, rfl⟩
     rw [hq] at hRR
     clear q3 x1 x2 x3 ha0
     cases q with
     | true =>
       rw [Bool.true_or] at hRR
       subst hRR
       go_wp2
       go_ret
       exact ⟨rfl, hBw⟩
     | false =>
       rw [Bool.false_or] at hRR
       have HR2 := Lib.hid (show rHas (l.drop (k + 1)) tx = R from hRR)
       clear hRR
       go_wp2
       go_roundw
       case rel => exact ⟨k + 1, by simp, by omega, HR2, hBw⟩
       case measure => simp [intOf]; omega
   · obtain rfl : k = n := by omega
     have hdd : decide (((k : Nat) : Int) < (k : Int)) = false := by simp
     have hRR := HR.out
     rw [List.drop_eq_nil_of_le (by have := HN.out; omega)] at hRR
     subst hRR
     go_wp2
     go_ret
     exact ⟨rfl, hBw⟩
def rLim (lim gl : Bool) (l : List RTok) (x : RSt) : List UInt8 × RSt :=
 if lim = true ∧ (hdT l x.at_).kd = 1 ∧ (gl = false ∨ (hdT l x.at_).tx ≠ globS) then ((rPlatform l x).1.tx, (rPlatform l x).2) else ([], x)
def rGate (gl : Bool) (l : List RTok) (x : RSt) : Bool × RSt := if gl then rTake 1 globS l x else (false, x)
def rSh (g : Bool) (tx : List UInt8) (l : List RTok) (x : RSt) : RSt := if g then rNeed 4 tx l x else x
def rOne (gl : Bool) (pl : List UInt8) (l : List RTok) (x : RSt) : Itm × RSt :=
 (⟨(rAny 3 l (rSh (rGate gl l x).1 [40] l (rGate gl l x).2)).1.tx, (rGate gl l x).1, pl, (rAny 3 l (rSh (rGate gl l x).1 [40] l (rGate gl l x).2)).1.ln⟩,
   rSh (rGate gl l x).1 [41] l (rAny 3 l (rSh (rGate gl l x).1 [40] l (rGate gl l x).2)).2)
def rMore (gl : Bool) (pl : List UInt8) (l : List RTok) : Nat → List Itm → RSt → List Itm × RSt
 | 0, a, x => (a, x)
 | f + 1, a, x => if x.e = 0 then
     (if (rTake 4 [44] l (rOne gl pl l x).2).1 then rMore gl pl l f (a ++ [(rOne gl pl l x).1]) (rTake 4 [44] l (rOne gl pl l x).2).2 else (a ++ [(rOne gl pl l x).1], (rTake 4 [44] l (rOne gl pl l x).2).2))
   else (a, x)
def rItems (lim gl : Bool) (l : List RTok) (a : List Itm) (x : RSt) : List Itm × RSt :=
 ((rMore gl (rLim lim gl l x).1 l (l.length + 1) a (rLim lim gl l x).2).1, rNeed 4 [59] l (rMore gl (rLim lim gl l x).1 l (l.length + 1) a (rLim lim gl l x).2).2)
def rPlOne (l : List RTok) (a : List Itm) (x : RSt) : RSt := if rHas a (rPlatform l x).1.tx then rFail 42 ((rPlatform l x).1.ln : Int) (rPlatform l x).2 else (rPlatform l x).2
def rPls (l : List RTok) : Nat → List Itm → RSt → List Itm × RSt
 | 0, a, x => (a, x)
 | f + 1, a, x => if x.e = 0 then
     (if (rTake 4 [44] l (rPlOne l a x)).1 then rPls l f (a ++ [⟨(rPlatform l x).1.tx, false, [], (rPlatform l x).1.ln⟩]) (rTake 4 [44] l (rPlOne l a x)).2 else (a ++ [⟨(rPlatform l x).1.tx, false, [], (rPlatform l x).1.ln⟩], (rTake 4 [44] l (rPlOne l a x)).2))
   else (a, x)
def rPlats (l : List RTok) (x : RSt) : List Itm × RSt := ((rPls l (l.length + 1) [] x).1, rNeed 4 [59] l (rPls l (l.length + 1) [] x).2)
structure RTg where
 x : RSt
 T : Tgt
 sn : Nat → Bool
def wOnce (t : List UInt8) : Option Nat := if t = wKind then some 0 else if t = wCost then some 1 else if t = wRetry then some 2 else none
def rSeen (a : RTok) (y : RTg) : RTg := match wOnce a.tx with
 | some i => ⟨if y.sn i then rFail 42 (a.ln : Int) y.x else y.x, y.T, upd y.sn i true⟩
 | none => y
def rSet (l : List RTok) (a : RTok) (y : RTg) : RTg :=
 if a.tx = wKind then ⟨(rKinds 4 l y.x).2, { y.T with kind := (rKinds 4 l y.x).1 }, y.sn⟩
 else if a.tx = wCost then ⟨(rNumber 1 1000 l y.x).2, { y.T with cost := (rNumber 1 1000 l y.x).1.1 }, y.sn⟩
 else if a.tx = wRetry then ⟨(rNumber 0 5 l y.x).2, { y.T with retry := (rNumber 0 5 l y.x).1.1, rl := (rNumber 0 5 l y.x).1.2 }, y.sn⟩
 else if a.tx = wSrcs then ⟨(rItems true true l (y.T.rows 0) y.x).2, { y.T with rows := upd y.T.rows 0 (rItems true true l (y.T.rows 0) y.x).1 }, y.sn⟩
 else if a.tx = wDeps then ⟨(rItems true false l (y.T.rows 1) y.x).2, { y.T with rows := upd y.T.rows 1 (rItems true false l (y.T.rows 1) y.x).1 }, y.sn⟩
 else if a.tx = wOut then ⟨(rItems false false l (y.T.rows 2) y.x).2, { y.T with rows := upd y.T.rows 2 (rItems false false l (y.T.rows 2) y.x).1 }, y.sn⟩
 else if a.tx = wVis then ⟨(rItems false false l (y.T.rows 3) y.x).2, { y.T with rows := upd y.T.rows 3 (rItems false false l (y.T.rows 3) y.x).1 }, y.sn⟩
 else ⟨rFail 40 (a.ln : Int) y.x, y.T, y.sn⟩
def rRound (l : List RTok) (y : RTg) : RTg := rSet l (rAny 1 l y.x).1 (rSeen (rAny 1 l y.x).1 { y with x := (rAny 1 l y.x).2 })
def rLoop (l : List RTok) : Nat → RTg → RTg
 | 0, y => y
 | f + 1, y => if y.x.e = 0 then (if (rTake 4 [125] l y.x).1 then { y with x := (rTake 4 [125] l y.x).2 } else rLoop l f (rRound l { y with x := (rTake 4 [125] l y.x).2 })) else y
def rDup (bf : List (List UInt8)) (t : RTok) (x : RSt) : RSt := if bf.any (fun n => n == t.tx) then rFail 42 (t.ln : Int) x else x
def rT0 (name : List UInt8) (line : Nat) : Tgt := ⟨name, 1, line, fun _ => [], 1, 0, 0, fun _ => false⟩
def rBody (l : List RTok) (line : Nat) (bf : List (List UInt8)) (x : RSt) : RTg :=
 rLoop l (l.length + 1) ⟨rNeed 4 [123] l (rDup bf (rAny 1 l x).1 (rAny 1 l x).2), rT0 (rAny 1 l x).1.tx line, fun _ => false⟩
def rCheck (y : RTg) : RSt := if 0 < y.T.retry ∧ y.T.kind ≠ 3 then rFail 41 (y.T.rl : Int) y.x else y.x
def rTgtF (l : List RTok) (line : Nat) (bf : List (List UInt8)) (x : RSt) : Tgt × RSt := ((rBody l line bf x).T, rCheck (rBody l line bf x))
def rTgts (l : List RTok) : Nat → List Tgt → RSt → List Tgt × RSt
 | 0, a, x => (a, x)
 | f + 1, a, x => if x.e = 0 ∧ (hdT l x.at_).kd ≠ 0 then
     (if (rNeed 1 wTarget l x).e = 0 then rTgts l f (a ++ [(rTgtF l (hdT l x.at_).ln (a.map (·.name)) (rNeed 1 wTarget l x)).1]) (rTgtF l (hdT l x.at_).ln (a.map (·.name)) (rNeed 1 wTarget l x)).2
     else rTgts l f a (rNeed 1 wTarget l x))
   else (a, x)
def rHead (l : List RTok) : List Itm × RSt := if (rTake 1 wPlats l ⟨0, 0, 0⟩).1 then rPlats l (rTake 1 wPlats l ⟨0, 0, 0⟩).2 else ([], (rTake 1 wPlats l ⟨0, 0, 0⟩).2)
def rAll (l : List RTok) : List Tgt × RSt := rTgts l (l.length + 1) [] (rHead l).2
def rParse (l : List RTok) : (List Itm × List Tgt) × (Int × Int) :=
 if (rAll l).2.e = 0 then (((rHead l).1, (rAll l).1), (0, 0)) else (([], []), ((rAll l).2.ln, (rAll l).2.e))
def TsOk : List Tok → Prop
 | [] => False
 | t :: r => TokOk t ∧ (if t.cls ≤ 1 then r = [] else TsOk r)
def Sim (l : List RTok) (x : RSt) : Pst → Prop
 | .ok ts => x.e = 0 ∧ TsOk ts ∧ l.drop x.at_ = ts.map convT
 | .bad e ln => e ≠ 0 ∧ x.e = e ∧ x.ln = ln
def isOk : Pst → Bool
 | .ok _ => true
 | .bad _ _ => false
theorem Sim.okE {l : List RTok} {x : RSt} {σ : Pst} (h : Sim l x σ) : x.e = 0 ↔ isOk σ = true := by
 cases σ with
 | ok ts => exact ⟨fun _ => rfl, fun _ => h.1⟩
 | bad e ln => exact ⟨fun z => absurd (h.2.1.symm.trans z) h.1, fun z => by cases z⟩
theorem Sim.hd {l : List RTok} {x : RSt} {t : Tok} {r : List Tok} (h : Sim l x (.ok (t :: r))) : hdT l x.at_ = convT t := by
 have q := h.2.2
 have e : l[x.at_]? = some (convT t) := by
   have := congrArg (fun z => z[0]?) q
   simpa using this
 unfold hdT
 rw [e]
 rfl
theorem Sim.ne {l : List RTok} {x : RSt} (h : Sim l x (.ok [])) : False := h.2.1
theorem Sim.nx {l : List RTok} {x : RSt} {t : Tok} {r : List Tok} (h : Sim l x (.ok (t :: r))) (hc : 2 ≤ t.cls) : Sim l ⟨x.at_ + 1, x.e, x.ln⟩ (.ok r) := by
 obtain ⟨h1, h2, h3⟩ := h
 refine ⟨h1, ?_, ?_⟩
 · have := h2.2
   rwa [if_neg (by omega)] at this
 · have := congrArg (List.drop 1) h3
   rw [List.drop_drop] at this
   simpa using this
theorem Sim.tok {l : List RTok} {x : RSt} {t : Tok} {r : List Tok} (h : Sim l x (.ok (t :: r))) : TokOk t := h.2.1.1
theorem first_cls (s : List UInt8) : (first s).1 ≤ 5 := by
 cases s with
 | nil => simp [first]
 | cons c t =>
   rw [first]
   repeat' split
   all_goals simp
theorem TokOk.cls {t : Tok} (h : TokOk t) : t.cls ≤ 5 := by
 have := first_cls t.txt
 rw [h.1] at this
 exact this
theorem kindOf_inj {a b : Nat} (ha : a ≤ 5) (hb : b ≤ 5) (h : kindOf a = kindOf b) : a = b := by
 have ha' : a = 0 ∨ a = 1 ∨ a = 2 ∨ a = 3 ∨ a = 4 ∨ a = 5 := by omega
 have hb' : b = 0 ∨ b = 1 ∨ b = 2 ∨ b = 3 ∨ b = 4 ∨ b = 5 := by omega
 rcases ha' with rfl | rfl | rfl | rfl | rfl | rfl <;> rcases hb' with rfl | rfl | rfl | rfl | rfl | rfl <;> first | rfl | (exact absurd h (by decide))
theorem sim_fail {l : List RTok} {x : RSt} {σ : Pst} (h : Sim l x σ) (c : Int) (hc : c ≠ 0) (n : Int) : Sim l (rFail c n x) (pFail n c σ) := by
 unfold rFail
 cases σ with
 | ok ts => rw [if_pos h.1]; exact ⟨hc, rfl, rfl⟩
 | bad e ln => rw [if_neg (by rw [h.2.1]; exact h.1)]; exact h
theorem pFail_ok {n c : Int} {σ : Pst} : isOk (pFail n c σ) = false := by cases σ <;> rfl
theorem sim_take {l : List RTok} {x : RSt} {σ : Pst} (h : Sim l x σ) (c : Nat) (w : List UInt8) (hc : c = 2 ∨ c = 5) (hw : first w = (c, w.length)) :
   (rTake (kindOf c) w l x).1 = (pTake w σ).1 ∧ Sim l (rTake (kindOf c) w l x).2 (pTake w σ).2 := by
 unfold rTake rIs
 cases σ with
 | bad e ln =>
   have : x.e ≠ 0 := by rw [h.2.1]; exact h.1
   rw [if_neg (by simp [this])]
   exact ⟨rfl, h⟩
 | ok ts =>
   cases ts with
   | nil => exact h.ne.elim
   | cons t r =>
     rw [h.hd]
     have hk := h.tok
     by_cases ht : t.txt = w
     · have hcl : t.cls = c := by
         have := hk.1
         rw [ht, hw] at this
         exact (congrArg Prod.fst this).symm
       have h4 : t.cls ≠ 4 := by omega
       rw [if_pos (by simp [h.1, convT, hcl, ht, show ¬ c = 4 by omega]), show pTake w (.ok (t :: r)) = (true, .ok r) by rw [pTake, if_pos ht]]
       exact ⟨rfl, h.nx (by omega)⟩
     · rw [show pTake w (.ok (t :: r)) = (false, .ok (t :: r)) by rw [pTake, if_neg ht], if_neg]
       · exact ⟨rfl, h⟩
       · intro z
         simp only [Bool.and_eq_true, beq_iff_eq, convT] at z
         have := kindOf_inj hk.cls (by omega) z.1.2
         rw [if_neg (by omega)] at z
         exact ht z.2
theorem sim_refuse {l : List RTok} {x : RSt} {σ : Pst} (h : Sim l x σ) : Sim l (rFail 40 ((hdT l x.at_).ln : Int) x) (pRefuse σ) := by
 cases σ with
 | bad e ln => exact sim_fail h 40 (by decide) _
 | ok ts =>
   cases ts with
   | nil => exact h.ne.elim
   | cons t r =>
     have := sim_fail h 40 (by decide) ((hdT l x.at_).ln : Int)
     rw [h.hd] at this ⊢
     exact this
theorem pRefuse_ok {σ : Pst} : isOk (pRefuse σ) = false := by
 cases σ with
 | bad e ln => rfl
 | ok ts => cases ts <;> rfl
theorem pTake_false {w : List UInt8} {σ : Pst} (h : (pTake w σ).1 = false) : (pTake w σ).2 = σ := by
 cases σ with
 | bad e ln => rfl
 | ok ts =>
   cases ts with
   | nil => rfl
   | cons t r =>
     rw [pTake] at h ⊢
     split at h
     · cases h
     · rename_i q
       rw [if_neg q]
theorem rTake_false {kd : Int} {w : List UInt8} {l : List RTok} {x : RSt} (h : (rTake kd w l x).1 = false) : (rTake kd w l x).2 = x := by
 unfold rTake at h ⊢
 split at h
 · cases h
 · rename_i q
   rw [if_neg q]
theorem sim_need {l : List RTok} {x : RSt} {σ : Pst} (h : Sim l x σ) (c : Nat) (w : List UInt8) (hc : c = 2 ∨ c = 5) (hw : first w = (c, w.length)) : Sim l (rNeed (kindOf c) w l x) (pExpect w σ) := by
 obtain ⟨h1, h2⟩ := sim_take h c w hc hw
 unfold rNeed pExpect
 rw [h1]
 cases hb : (pTake w σ).1 with
 | true => exact h2
 | false =>
   rw [pTake_false hb]
   exact sim_refuse h
theorem pExpect_ok {w : List UInt8} {σ : Pst} (h : isOk (pExpect w σ) = true) : isOk σ = true := by
 cases σ with
 | ok ts => rfl
 | bad e ln => cases h
theorem pTake_ok {w : List UInt8} {σ : Pst} (h : isOk (pTake w σ).2 = true) : isOk σ = true := by
 cases σ with
 | ok ts => rfl
 | bad e ln => cases h
theorem sim_any {l : List RTok} {x : RSt} {σ : Pst} (h : Sim l x σ) (c : Nat) (hc : 2 ≤ c) (hc5 : c ≤ 5) :
   (rAny (kindOf c) l x).1.tx = (convT (pAny c σ).1).tx ∧ (rAny (kindOf c) l x).1.ln = (pAny c σ).1.ln ∧ Sim l (rAny (kindOf c) l x).2 (pAny c σ).2 ∧ (isOk (pAny c σ).2 = true → (pAny c σ).1.cls = c ∧ TokOk (pAny c σ).1) := by
 unfold rAny
 cases σ with
 | bad e ln =>
   rw [if_neg (by rw [h.2.1]; exact fun z => h.1 z.1)]
   exact ⟨rfl, rfl, sim_fail h 40 (by decide) _, fun z => by cases z⟩
 | ok ts =>
   cases ts with
   | nil => exact h.ne.elim
   | cons t r =>
     rw [h.hd, pAny]
     have hk := h.tok
     by_cases ht : t.cls = c
     · rw [if_pos ht, if_pos ⟨h.1, by rw [← ht]; rfl⟩]
       exact ⟨rfl, rfl, h.nx (by omega), fun _ => ⟨ht, hk⟩⟩
     · rw [if_neg ht, if_neg (fun z => ht (kindOf_inj hk.cls hc5 z.2))]
       have := sim_fail h 40 (by decide) ((convT t).ln : Int)
       exact ⟨rfl, rfl, this, fun z => by cases z⟩
theorem run_not {t : List UInt8} : ∀ k, k < run (fun c => !notStr c) t → ∃ c, t[k]? = some c ∧ notStr c = false := by
 induction t with
 | nil => intro k hk; simp [run] at hk
 | cons c t ih =>
   intro k hk
   rw [run] at hk
   split at hk
   · rename_i hc
     cases k with
     | zero => exact ⟨c, rfl, by simpa using hc⟩
     | succ k =>
       obtain ⟨d, h1, h2⟩ := ih k (by omega)
       exact ⟨d, by simpa using h1, h2⟩
   · omega
theorem quoted {s : List UInt8} (h : first s = (4, s.length)) : ∃ b : List UInt8, s = 34 :: (b ++ [34]) ∧ ∀ c ∈ b, c ≠ 34 := by
 cases s with
 | nil => cases h
 | cons c t =>
   rw [first] at h
   split at h
   · cases h
   · split at h
     · cases h
     · split at h
       · cases h
       · split at h
         · rename_i hq
           obtain ⟨rfl, hn⟩ := hq
           have hl : strLen t = t.length + 1 := congrArg Prod.snd h
           unfold strLen at hl hn
           dsimp only at hl hn
           split at hl
           · rename_i h34
             have hk : run (fun c => !notStr c) t + 1 = t.length := by omega
             refine ⟨t.take (run (fun c => !notStr c) t), ?_, ?_⟩
             · congr 1
               have e1 : t.drop (run (fun c => !notStr c) t) = [34] := by
                 have hlt : run (fun c => !notStr c) t < t.length := by omega
                 rw [List.drop_eq_getElem_cons hlt, List.drop_eq_nil_of_le (by omega)]
                 rw [List.getElem?_eq_getElem hlt] at h34
                 injection h34 with h34
                 rw [h34]
               conv => lhs; rw [← List.take_append_drop (run (fun c => !notStr c) t) t, e1]
             · intro c hc
               obtain ⟨i, hi, e⟩ := List.mem_iff_getElem.mp hc
               rw [List.length_take] at hi
               obtain ⟨d, d1, d2⟩ := run_not i (by omega : i < run (fun c => !notStr c) t)
               rw [List.getElem_take] at e
               rw [List.getElem?_eq_getElem (by omega : i < t.length)] at d1
               injection d1 with d1
               rw [← e, d1]
               intro z
               rw [z] at d2
               exact absurd d2 (by decide)
           · omega
         · cases h
theorem dropWhile_ne {b : List UInt8} (h : ∀ c ∈ b, c ≠ 34) (hb : b ≠ []) (r : List UInt8) : (b ++ r).dropWhile (· == 34) = b ++ r := by
 cases b with
 | nil => exact absurd rfl hb
 | cons c t => simp [h c (by simp)]
theorem trim_quoted {b : List UInt8} (h : ∀ c ∈ b, c ≠ 34) : Lib.trimB (34 :: (b ++ [34])) 34 = b := by
 unfold Lib.trimB Lib.trimLeftB Lib.trimRightB
 by_cases hb : b = []
 · subst hb
   decide
 · have hr : ∀ c ∈ b.reverse, c ≠ 34 := fun c hc => h c (by simpa using hc)
   have hr0 : b.reverse ≠ [] := by simpa using hb
   have e : (34 :: (b ++ [34]) : List UInt8).reverse = 34 :: (b.reverse ++ [34]) := by simp
   rw [e, List.dropWhile_cons_of_pos (by decide), dropWhile_ne hr hr0]
   rw [show (b.reverse ++ [34] : List UInt8).reverse = 34 :: b by simp, List.dropWhile_cons_of_pos (by decide)]
   have := dropWhile_ne h hb []
   rwa [List.append_nil] at this
theorem text_tok {t : Tok} (hk : TokOk t) (hc : t.cls = 4) : Lib.trimB t.txt 34 = (convT t).tx := by
 have h1 := hk.1
 rw [hc] at h1
 obtain ⟨b, hb, hn⟩ := quoted h1
 unfold convT
 dsimp only
 rw [if_pos hc, hb, trim_quoted hn]
 simp
def dstep (a : Nat) (c : UInt8) : Nat := 10 * a + (c.toNat - 48)
def dval (a : Nat) (s : List UInt8) : Nat := s.foldl dstep a
theorem dval_nil (a : Nat) : dval a [] = a := rfl
theorem dval_cons (a : Nat) (c : UInt8) (t : List UInt8) : dval a (c :: t) = dval (10 * a + (c.toNat - 48)) t := by
 unfold dval
 rw [List.foldl_cons, dstep]
theorem dval_le (s : List UInt8) : ∀ (a : Nat), a ≤ dval a s := by
 induction s with
 | nil => intro a; rw [dval_nil]; exact Nat.le_refl _
 | cons c t ih =>
   intro a
   rw [dval_cons]
   have := ih (10 * a + (c.toNat - 48))
   omega
theorem rValF_eq (s : List UInt8) : ∀ (a : Nat) (v : Int), (∀ b ∈ s, isDig b = true) → v = min (a : Int) 1000000 → rValF v s = min (dval a s : Int) 1000000 := by
 induction s with
 | nil => intro a v _ hv; rw [dval_nil, rValF]; exact hv
 | cons c t ih =>
   intro a v h hv
   have hc := h c (by simp)
   unfold isDig at hc
   simp only [Bool.and_eq_true, decide_eq_true_eq] at hc
   rw [rValF, dval_cons]
   exact ih _ _ (fun b hb => h b (by simp [hb])) (by omega)
theorem rVal_eq {s : List UInt8} (h : ∀ b ∈ s, isDig b = true) : rVal s = min (dval 0 s : Int) 1000000 := rValF_eq s 0 0 h (by omega)
theorem parse10 (s : List UInt8) : ∀ (a : Nat), (∀ b ∈ s, isDig b = true) → a < 18446744073709551616 → Lib.parseUint10 a s = if dval a s < 18446744073709551616 then .ok (dval a s) else .range := by
 induction s with
 | nil => intro a _ ha; rw [Lib.parseUint10, dval_nil, if_pos ha]
 | cons c t ih =>
   intro a h ha
   have hc := h c (by simp)
   unfold isDig at hc
   simp only [Bool.and_eq_true, decide_eq_true_eq] at hc
   rw [Lib.parseUint10, if_pos hc, dval_cons]
   have hle := dval_le t (10 * a + (c.toNat - 48))
   by_cases h1 : 1844674407370955162 ≤ a
   · rw [if_pos h1, if_neg (by omega)]
   · rw [if_neg h1]
     by_cases h2 : 18446744073709551616 ≤ a * 10 + (c.toNat - 48)
     · rw [if_pos h2, if_neg (by omega)]
     · rw [if_neg h2, ih _ (fun b hb => h b (by simp [hb])) (by omega)]
       rw [show a * 10 + (c.toNat - 48) = 10 * a + (c.toNat - 48) by omega]
theorem atoi_dig {s : List UInt8} (h : ∀ b ∈ s, isDig b = true) (h0 : s ≠ []) : Lib.atoiAll s = if dval 0 s < 9223372036854775808 then .ok (dval 0 s : Int) else .range := by
 cases s with
 | nil => exact absurd rfl h0
 | cons c t =>
   have hc := h c (by simp)
   unfold isDig at hc
   simp only [Bool.and_eq_true, decide_eq_true_eq] at hc
   unfold Lib.atoiAll
   dsimp only
   rw [if_neg (by omega)]
   unfold Lib.parseMag
   rw [if_neg (by simp), parse10 _ _ h (by decide)]
   by_cases h1 : dval 0 (c :: t) < 18446744073709551616
   · rw [if_pos h1]
     dsimp only
     by_cases h2 : dval 0 (c :: t) < 9223372036854775808
     · rw [if_pos h2, if_neg (by omega), if_neg (by omega), if_neg (by omega)]
     · rw [if_neg h2, if_pos (by omega)]
   · rw [if_neg h1, if_neg (by omega)]
theorem digits_tok {t : Tok} (hk : TokOk t) (hc : t.cls = 3) : t.txt ≠ [] ∧ ∀ b ∈ t.txt, isDig b = true := by
 have h := hk.1
 rw [hc] at h
 obtain ⟨c, tx, ln⟩ := t
 dsimp only at *
 cases tx with
 | nil => cases h
 | cons c s =>
   rw [first] at h
   split at h
   · cases h
   · split at h
     · have hr : run isDig (c :: s) = (c :: s).length := congrArg Prod.snd h
       refine ⟨by simp, ?_⟩
       have gen : ∀ u : List UInt8, run isDig u = u.length → ∀ b ∈ u, isDig b = true := by
         intro u
         induction u with
         | nil => intro _ b hb; cases hb
         | cons d u ih =>
           intro hu b hb
           rw [run] at hu
           split at hu
           · rename_i hd
             simp only [List.length_cons] at hu
             rcases List.mem_cons.mp hb with rfl | hb
             · exact hd
             · exact ih (by omega) b hb
           · simp at hu
       exact gen _ hr
     · split at h
       · cases h
       · split at h <;> cases h
theorem atoi_num {t : Tok} (hk : TokOk t) (hc : t.cls = 3) {lo hi : Int} (hh : hi < 1000000) :
   ((atoiR t.txt).2 && decide (lo ≤ (atoiR t.txt).1) && decide ((atoiR t.txt).1 ≤ hi)) = !(decide (rVal t.txt < lo) || decide (hi < rVal t.txt)) ∧
   (((atoiR t.txt).2 && decide (lo ≤ (atoiR t.txt).1) && decide ((atoiR t.txt).1 ≤ hi)) = true → (atoiR t.txt).1 = rVal t.txt) := by
 obtain ⟨hn, hd⟩ := digits_tok hk hc
 have e := atoi_dig hd hn
 have v := rVal_eq hd
 unfold atoiR
 rw [e, v]
 generalize dval 0 t.txt = n at *
 by_cases h1 : n < 9223372036854775808
 · rw [if_pos h1]
   dsimp only
   refine ⟨?_, fun z => ?_⟩
   · rw [Bool.eq_iff_iff]
     simp only [Bool.and_eq_true, Bool.not_eq_true', Bool.or_eq_false_iff, decide_eq_true_eq, decide_eq_false_iff_not, true_and]
     omega
   · simp only [Bool.and_eq_true, decide_eq_true_eq] at z
     omega
 · rw [if_neg h1]
   dsimp only
   rw [Bool.false_and, Bool.false_and]
   refine ⟨?_, fun z => by cases z⟩
   have : hi < min (n : Int) 1000000 := by omega
   rw [decide_eq_true this, Bool.or_true]
   rfl
theorem own_types_ne {w : World} {b1 b2 s1 s2 n1 n2 : Nat} {e1 e2 : TypeId} {v1 v2 : Value} {x1 x2 : List Value} (h1 : w.ownsRow b1 e1 s1 v1 n1 x1) (h2 : w.ownsRow b2 e2 s2 v2 n2 x2) (he : e1 ≠ e2) : ∀ g, v1.ownBlock = some g → v2.ownBlock ≠ some g := by
 intro g hg hg2
 rcases h1.2 with ⟨rfl, _⟩ | ⟨g1, c1, u1, rfl, _, p1, _⟩
 · simp [Value.ownBlock] at hg
 · rcases h2.2 with ⟨rfl, _⟩ | ⟨g2, c2, u2, rfl, _, p2, _⟩
   · simp [Value.ownBlock] at hg2
   · have a1 : g1 = g := by simpa [Value.ownBlock] using hg
     have a2 : g2 = g := by simpa [Value.ownBlock] using hg2
     subst a1
     subst a2
     rw [p1] at p2
     injection p2 with p2
     injection p2 with _ p2
     exact he p2
structure RI (w0 : World) (bs b base : Nat) (A : Option Addr) (c : Nat) (l : List RTok) (V : Value) (w : World) (x : RSt) (A' : Option Addr) (n c' : Nat) (acc : List Itm) : Prop where
 rs : RS w bs b A c l x
 row : w.ownsRow base 52 4 (.slice A' n c') n (itmsC acc)
 len : n = acc.length
 at_ : ∀ g, (Value.slice A' n c').ownBlock = some g → V.ownBlock = some g ∨ w0.heap.size ≤ g
 tn : Turn (fun g => g = b ∨ V.ownBlock = some g) w0 w
 bb : b < w0.heap.size
section
variable {w0 w w' : World} {bs b base : Nat} {A : Option Addr} {c : Nat} {l : List RTok} {V : Value} {x x' : RSt} {A' : Option Addr} {n c' : Nat} {acc : List Itm}
theorem RI.call (h : RI w0 bs b base A c l V w x A' n c' acc) (r : RS w' bs b A c l x') (t : Turn (fun g => g = b) w w') : RI w0 bs b base A c l V w' x' A' n c' acc :=
 ⟨r, own_off h.row t (own_full_ne h.row h.rs.fu (by decide)), h.len, h.at_, h.tn.trans_ (t.mono fun _ e => .inl e), h.bb⟩
theorem RI.on (h : RI w0 bs b base A c l V w x A' n c' acc) (hb : Below w.heap.size w w') : RI w0 bs b base A c l V w' x A' n c' acc := h.call (h.rs.on hb) (Turn.of hb)
theorem RI.grow (h : RI w0 bs b base A c l V w x A' n c' acc) {it : Itm} {g9 c9 : Nat} (ho : w'.ownsRow base 52 4 (.slice (some ⟨g9, 0, none⟩) (n + 1) c9) (n + 1) (itmsC acc ++ itmC it)) (hg : w.grownBy w' (Value.slice A' n c').ownBlock)
   (hat : (Value.slice A' n c').ownBlock = some g9 ∨ g9 = w.heap.size) : RI w0 bs b base A c l V w' x (some ⟨g9, 0, none⟩) (n + 1) c9 (acc ++ [it]) := by
 have t : Turn (fun g => (Value.slice A' n c').ownBlock = some g) w w' := Turn.grown hg fun g e => .inl e
 refine ⟨h.rs.keep t (fun e => own_full_ne h.row h.rs.fu (by decide) b e rfl) (fun g e => own_types_ne h.rs.ow h.row (by decide) g e), ?_, by simp [h.len], ?_, h.tn.late t fun g e => ?_, h.bb⟩
 · have : itmsC (acc ++ [it]) = itmsC acc ++ itmC it := by unfold itmsC; rw [List.flatMap_append]; simp
   rw [this]
   exact ho
 · intro g e
   have e : g9 = g := by simpa [Value.ownBlock] using e
   subst e
   rcases hat with e | e
   · exact h.at_ _ e
   · right
     rw [e]
     exact h.tn.size
 · rcases h.at_ g e with q | q
   · exact .inl (.inr q)
   · exact .inr q
end
theorem rFail_at (cd ln : Int) (x : RSt) : (rFail cd ln x).at_ = x.at_ := by unfold rFail; split <;> rfl
theorem rTake_at (kd : Int) (tx : List UInt8) (l : List RTok) (x : RSt) : (rTake kd tx l x).2.at_ = if (rTake kd tx l x).1 then x.at_ + 1 else x.at_ := by
 unfold rTake
 split <;> rfl
theorem rTake_le (kd : Int) (tx : List UInt8) (l : List RTok) (x : RSt) : x.at_ ≤ (rTake kd tx l x).2.at_ := by
 rw [rTake_at]; split <;> omega
theorem rNeed_le (kd : Int) (tx : List UInt8) (l : List RTok) (x : RSt) : x.at_ ≤ (rNeed kd tx l x).at_ := by
 unfold rNeed
 split
 · exact rTake_le kd tx l x
 · rw [rFail_at]; exact Nat.le_refl _
theorem rAny_le (kd : Int) (l : List RTok) (x : RSt) : x.at_ ≤ (rAny kd l x).2.at_ := by
 unfold rAny
 split
 · show x.at_ ≤ x.at_ + 1; omega
 · rw [rFail_at]; exact Nat.le_refl _
theorem rGate_le (gl : Bool) (l : List RTok) (x : RSt) : x.at_ ≤ (rGate gl l x).2.at_ := by
 unfold rGate
 split
 · exact rTake_le _ _ _ _
 · exact Nat.le_refl _
theorem rSh_le (g : Bool) (tx : List UInt8) (l : List RTok) (x : RSt) : x.at_ ≤ (rSh g tx l x).at_ := by
 unfold rSh
 split
 · exact rNeed_le _ _ _ _
 · exact Nat.le_refl _
theorem rOne_le (gl : Bool) (pl : List UInt8) (l : List RTok) (x : RSt) : x.at_ ≤ (rOne gl pl l x).2.at_ := by
 unfold rOne
 have h1 := rGate_le gl l x
 have h2 := rSh_le (rGate gl l x).1 [40] l (rGate gl l x).2
 have h3 := rAny_le 3 l (rSh (rGate gl l x).1 [40] l (rGate gl l x).2)
 have h4 := rSh_le (rGate gl l x).1 [41] l (rAny 3 l (rSh (rGate gl l x).1 [40] l (rGate gl l x).2)).2
 dsimp only
 omega
set_option maxHeartbeats 32000000 in
theorem ritems_any {w : World} {bs b base : Nat} {A : Option Addr} {c : Nat} {l : List RTok} {x : RSt} (h : RS w bs b A c l x) (hl : LOk l) (lim gl : Bool) {V : Value} {A0 : Option Addr} {n0 c0 : Nat} {L : List Itm} (hV : V = .slice A0 n0 c0) (hn0 : n0 = L.length) (hO : w.ownsRow base 52 4 (.slice A0 n0 c0) n0 (itmsC L))
   (hB : base ≤ w.heap.size) (hn : n0 + l.length ≤ 8589934590) :
   Calls Tryz.prog 84 #[.pointer (some ⟨b, 0, none⟩), .slice A0 n0 c0, .bool lim, .bool gl] w (fun en w' => ∃ A' n' c', en = .returned (.slice A' n' c') ∧ RI w bs b base A c l V w' (rItems lim gl l L x).2 A' n' c' (rItems lim gl l L x).1) := by
 obtain ⟨i0, hi, hz0, hz1, hz2⟩ := info_parts info52
 have h0 : RI w bs b base A c l V w x A0 n0 c0 L := ⟨h, hO, hn0, fun g e => .inl (by rw [hV]; exact e), Turn.refl _ _, h.fu.lt⟩
 unfold rItems
 dsimp only
 obtain ⟨⟨pl, x1⟩, hp⟩ : ∃ p, rLim lim gl l x = p := ⟨_, rfl⟩
 rw [hp]
 dsimp only
 obtain ⟨⟨RA, RX⟩, hr⟩ : ∃ p, rMore gl pl l (l.length + 1) L x1 = p := ⟨_, rfl⟩
 rw [hr]
 dsimp only
 obtain ⟨P, hP⟩ : ∃ P, str pl = P := ⟨_, rfl⟩
 obtain ⟨x9, hx9⟩ : ∃ y, rNeed 4 [59] l RX = y := ⟨_, rfl⟩
 rw [hx9]
 have HNE := Lib.hid (fun (W : World) (H : RS W bs b A c l RX) => (by
  have z := rneed_any H hl 4 (by decide) (by decide) [59]
  unfold RdOut at z
  rw [hx9] at z
  exact z : Calls Tryz.prog 48 #[.pointer (some ⟨b, 0, none⟩), .int .i64 4, .string ⟨#[59]⟩] W (fun en w' => en = .returned (.tuple #[]) ∧ RS w' bs b A c l x9 ∧ Turn (fun g => g = b) W w')))
 have HPL := Lib.hid (fun (W : World) (H : RS W bs b A c l x) => (by
  have z := rplatform_any H hl
  unfold RdOut rtV at z
  exact z : Calls Tryz.prog 79 #[.pointer (some ⟨b, 0, none⟩)] W (fun en w' => en = .returned (.agg #[.int .i64 (rPlatform l x).1.kd, .string (str (rPlatform l x).1.tx), .int .i64 ((rPlatform l x).1.ln : Int)]) ∧ RS w' bs b A c l (rPlatform l x).2 ∧ Turn (fun g => g = b) W w')))
 obtain ⟨ad, rfl, t0, t1, t2⟩ := h.tok
 have hdT' := hdT_eq h.lt
 have hlt := h.lt
 have hle := h.le
 have hcap := h.cap
 have k0 : w.cell? ⟨b, 0, none⟩ = some (.slice (some ad) l.length c) := h.fu.cell 0
 have k1 : w.cell? ⟨b, 1, none⟩ = some (.int .i64 (x.at_ : Int)) := h.fu.cell 1
 obtain ⟨tk, htk⟩ : ∃ t, l[x.at_]'h.lt = t := ⟨_, rfl⟩
 rw [htk] at t0 t1 t2 hdT'
 obtain ⟨kt, hkt⟩ : ∃ X, tk.kd = X := ⟨_, rfl⟩
 obtain ⟨Y, hY⟩ : ∃ X, str tk.tx = X := ⟨_, rfl⟩
 rw [hkt] at t0
 rw [hY] at t1
 obtain ⟨q, hq⟩ : ∃ q, (!(Y.toList == [103, 108, 111, 98])) = q := ⟨_, rfl⟩
 have HQ := Lib.hid (show q = true ↔ tk.tx ≠ globS by
  rw [← hq, ← hY, Lib.toList_data, str_data]
  simp [globS])
 have i0' : (0 : Int) ≤ (x.at_ : Int) := Int.natCast_nonneg _
 have i1 : (x.at_ : Int) < (l.length : Int) := by omega
 obtain ⟨kb, hkb⟩ : ∃ q, (kt == 1) = q := ⟨_, rfl⟩
 have HK := Lib.hid (show kb = true ↔ (hdT l x.at_).kd = 1 by rw [← hkb, hdT', hkt]; simp)
 have HQ2 := Lib.hid (show q = true ↔ (hdT l x.at_).tx ≠ globS by rw [hdT']; exact HQ.out)
 have HP := Lib.hid hp
 have HR := Lib.hid hr
 have HPP := Lib.hid hP
 have H0 := Lib.hid h0
 have HL := Lib.hid hl
 have HN0 := Lib.hid hn0
 obtain ⟨ka, hka⟩ : ∃ k : Nat, x.at_ = k := ⟨_, rfl⟩
 rw [hka] at k1 t0 t1 i0' i1
 clear hp hr hP h0 hdT' hkt t2 hO hx9 h hY hV htk hlt hka HQ hl hn0
 go_enter Tryz.func84, Tryz.ntmps84
 go_upto_region 2 with fail
 obtain ⟨B, hB'⟩ : ∃ B : Bool, (lim && (kb && (!gl || q))) = B := ⟨_, rfl⟩
 go_cut [45] from 13 to 45 (fun v45 wx => v45 = .bool B ∧ ∃ q', wx = w.drewN q')
 case first =>
  subst hB'
  cases lim with
  | false => (go_quiet (fail); try go_wp2; go_meet; exact ⟨rfl, _, rfl⟩)
  | true =>
   cases kb with
   | false => (go_quiet (fail); try go_wp2; go_meet; exact ⟨rfl, _, rfl⟩)
   | true =>
    cases gl with
    | false => (go_quiet (fail); try go_wp2; go_meet; exact ⟨rfl, _, rfl⟩)
    | true =>
     cases q with
     | false => (go_quiet (fail); try go_wp2; go_meet; exact ⟨rfl, _, rfl⟩)
     | true => (go_quiet (fail); try go_wp2; go_meet; exact ⟨rfl, _, rfl⟩)
 case rest =>
  obtain ⟨rfl, q', rfl⟩ := hcut
  obtain ⟨wd, hwd⟩ : ∃ x, w.drewN q' = x := ⟨_, rfl⟩
  have HD := Lib.hid (show RI w bs b base (some ad) c l V wd x A0 n0 c0 L by rw [← hwd]; exact H0.out.on (Below.drewN_ (Below.refl _ _) _))
  rw [hwd]
  have HBB := Lib.hid hB'
  clear hwd hB'
  go_upto_if 45 with fail
  go_cut [9] from 9 to 48 (fun v9 wx => v9 = .string P ∧ Hid (RI w bs b base (some ad) c l V wx x1 A0 n0 c0 L))
  case first =>
   have HNO := Lib.hid (show B = false → (Value.string ⟨#[]⟩ = .string P ∧ Hid (RI w bs b base (some ad) c l V wd x1 A0 n0 c0 L)) from fun hb => by
    have z := HP.out
    unfold rLim at z
    rw [if_neg (fun y => by
     have y2 := HK.out.mpr y.2.1
     have y3 : gl = false ∨ q = true := y.2.2.imp id HQ2.out.mpr
     have := HBB.out
     rw [hb, y.1, y2] at this
     rcases y3 with y3 | y3 <;> (rw [y3] at this; simp at this))] at z
    injection z with z1 z2
    subst z1
    subst z2
    exact ⟨by rw [← HPP.out]; rfl, Lib.hid HD.out⟩)
   have HYES := Lib.hid (show ∀ wx, B = true → RI w bs b base (some ad) c l V wx (rPlatform l x).2 A0 n0 c0 L → (Value.string (str (rPlatform l x).1.tx) = .string P ∧ Hid (RI w bs b base (some ad) c l V wx x1 A0 n0 c0 L)) from fun wx hb H => by
    have z := HP.out
    unfold rLim at z
    have hb2 := HBB.out
    rw [hb] at hb2
    simp only [Bool.and_eq_true, Bool.or_eq_true, Bool.not_eq_true'] at hb2
    rw [if_pos ⟨hb2.1, HK.out.mp hb2.2.1, hb2.2.2.imp id HQ2.out.mp⟩] at z
    injection z with z1 z2
    subst z1
    rw [← z2]
    exact ⟨by rw [← HPP.out], Lib.hid H⟩)
   obtain ⟨yk, hyk⟩ : ∃ y, (rPlatform l x).1.kd = y := ⟨_, rfl⟩
   obtain ⟨yt, hyt⟩ : ∃ y, str (rPlatform l x).1.tx = y := ⟨_, rfl⟩
   obtain ⟨yl, hyl⟩ : ∃ y : Nat, (rPlatform l x).1.ln = y := ⟨_, rfl⟩
   rw [hyk, hyt, hyl] at HPL
   rw [hyt] at HYES
   have HFD := Lib.hid (fun W => (by kernel_rfl : (Instr.field 70 (.agg #[.int .i64 yk, .string yt, .int .i64 (yl : Int)]) 1).run Tryz.prog W = .ok (.string yt) W))
   clear hyk hyt hyl
   cases B with
   | false => (go_wp2; go_meet; exact HNO.out (by trivial))
   | true =>
    go_wp2_with (first
      | (go_at_call 79; ((with_reducible refine (HPL.out _ HD.out.rs).mono ?_); rintro en w3 ⟨rfl, h3, ht3⟩; (have H3 := Lib.hid (HD.out.call h3 ht3)); (have hfd := HFD.out w3); clear h3 ht3))
      | (fail "arm"))
    go_meet
    exact HYES.out _ (by trivial) H3.out
  case rest =>
   obtain ⟨rfl, HR0⟩ := hcut
   clear HPL HK HQ2 HP k0 k1 t0 t1 hkb hq
   go_upto_region 4 with fail
   have hcl : l.length < 8589934591 := by omega
   go_loopw [1] (fun v1 wr => ∃ (A' : Option Addr) (n c' f : Nat) (acc : List Itm) (x' : RSt), v1 = .slice A' n c' ∧ n ≤ n0 + l.length ∧ Hid (RI w bs b base (some ad) c l V wr x' A' n c' acc) ∧ Hid (acc.length ≤ L.length + x'.at_) ∧ Hid (l.length < f + x'.at_) ∧ Hid (rMore gl pl l f acc x' = (RA, RX))) (fun v1 _ => match v1 with | .slice _ n _ => n0 + l.length + 1 - n | _ => 0)
   case atStart => exact ⟨A0, n0, c0, l.length + 1, L, x1, rfl, by omega, HR0, Lib.hid (Nat.le_add_right _ _), Lib.hid (by omega), HR⟩
   case round =>
    obtain ⟨A', n, c', f, acc, x', rfl, hnb, HI, HA1, HA2, HM⟩ := hrel
    obtain ⟨e, he⟩ : ∃ e, x'.e = e := ⟨_, rfl⟩
    have c2 : wr.cell? ⟨b, 2, none⟩ = some (.int .i64 e) := by rw [← he]; exact HI.out.rs.fu.cell 2
    obtain ⟨f, rfl⟩ : ∃ k, f = k + 1 := ⟨f - 1, by have := HA2.out; have := HI.out.rs.lt; omega⟩
    have hm := HM.out
    rw [rMore] at hm
    have hnl : n + 1 ≤ n0 + l.length := by
     have := HA1.out
     have := HI.out.len
     have := HI.out.rs.lt
     have := HN0.out
     omega
    by_cases e0 : e = 0
    · rw [if_pos (he.trans e0)] at hm
      have q1 : (e == 0) = true := by rw [e0]; rfl
      have hone := rOne_le gl pl l x'
      obtain ⟨it, hit⟩ : ∃ z, (rOne gl pl l x').1 = z := ⟨_, rfl⟩
      obtain ⟨x4, h4⟩ : ∃ z, (rOne gl pl l x').2 = z := ⟨_, rfl⟩
      rw [h4] at hone
      rw [hit, h4] at hm
      have htat := rTake_at 4 [44] l x4
      have HTC := Lib.hid (fun (W : World) (H : RS W bs b (some ad) c l x4) => (by
       have z := rtake_any H HL.out 4 (by decide) (by decide) [44]
       unfold RdOut at z
       exact z : Calls Tryz.prog 46 #[.pointer (some ⟨b, 0, none⟩), .int .i64 4, .string ⟨#[44]⟩] W (fun en w' => en = .returned (.bool (rTake 4 [44] l x4).1) ∧ RS w' bs b (some ad) c l (rTake 4 [44] l x4).2 ∧ Turn (fun g => g = b) W w')))
      obtain ⟨m, hmm⟩ : ∃ z, (rTake 4 [44] l x4).1 = z := ⟨_, rfl⟩
      obtain ⟨x5, h5⟩ : ∃ z, (rTake 4 [44] l x4).2 = z := ⟨_, rfl⟩
      rw [hmm, h5] at HTC htat hm
      have HAT := Lib.hid htat
      have HONE := Lib.hid hone
      have HM2 := Lib.hid hm
      clear htat hone hm hmm h5
      have HIT := Lib.hid hit
      have H4 := Lib.hid h4
      clear hit h4 HM
      cases gl with
      | false =>
       have HAN := Lib.hid (fun (W : World) (H : RS W bs b (some ad) c l x') => (by
        have z := rany_any H HL.out 3 (by decide) (by decide)
        unfold RdOut rtV at z
        exact z : Calls Tryz.prog 81 #[.pointer (some ⟨b, 0, none⟩), .int .i64 3] W (fun en w' => en = .returned (.agg #[.int .i64 (rAny 3 l x').1.kd, .string (str (rAny 3 l x').1.tx), .int .i64 ((rAny 3 l x').1.ln : Int)]) ∧ RS w' bs b (some ad) c l (rAny 3 l x').2 ∧ Turn (fun g => g = b) W w')))
       obtain ⟨y0, hy0⟩ : ∃ y, (rAny 3 l x').1.kd = y := ⟨_, rfl⟩
       obtain ⟨y1, hy1⟩ : ∃ y, str (rAny 3 l x').1.tx = y := ⟨_, rfl⟩
       obtain ⟨y2, hy2⟩ : ∃ y : Nat, (rAny 3 l x').1.ln = y := ⟨_, rfl⟩
       have HC := Lib.hid (show itmC it = [.string y1, .bool false, .string P, .int .i64 (y2 : Int)] by rw [← HIT.out, ← hy1, ← hy2, ← HPP.out]; rfl)
       rw [hy0, hy1, hy2] at HAN
       obtain ⟨x3, hx3⟩ : ∃ z, (rAny 3 l x').2 = z := ⟨_, rfl⟩
       rw [hx3] at HAN
       have h43 : x3 = x4 := by rw [← hx3, ← H4.out]; rfl
       subst h43
       have HCN := Lib.hid (fun (W : World) (g : Nat) (hg : W.heap.size = g) => show ∀ j u, [Value.string y1, .bool false, .string P, .int .i64 (y2 : Int)][j]? = some u → (W.alloc (.cells #[.string y1, .bool false, .string P, .int .i64 (y2 : Int)] 52)).cell? ((⟨g, 0, none⟩ : Addr).add j) = some u from fun j u hj => by
        subst hg
        obtain ⟨ad, e, _, hc⟩ := ((Full.new W 52 [.string y1, .bool false, .string P, .int .i64 (y2 : Int)]).row 4 1 rfl 1 (Nat.le_refl _)).2.2.2 j u hj
        injection e with e
        subst e
        exact hc)
       have HC1 := Lib.hid (show ∀ u ∈ [Value.string y1, .bool false, .string P, .int .i64 (y2 : Int)], u.oneCell' = true from by
        intro u hu
        simp at hu
        rcases hu with rfl | rfl | rfl | rfl <;> rfl)
       clear hy0 hy1 hy2 hx3 he
       go_upto_region 9 with (first
         | (go_at_call 81; ((with_reducible refine (HAN.out _ HI.out.rs).mono ?_); rintro en w3 ⟨rfl, h3, ht3⟩; (have H3 := Lib.hid (HI.out.call h3 ht3)); clear h3 ht3))
         | (fail "arm"))
       obtain ⟨w4, hw4⟩ : ∃ w4, w3.alloc (.cells #[.int .i64 y0, .string y1, .int .i64 (y2 : Int)] 70) = w4 := ⟨_, rfl⟩
       have hb4 : Below w3.heap.size w3 w4 := by rw [← hw4]; exact (Below.refl _ w3).alloc (Nat.le_refl _) _
       have F4 : Full w4 w3.heap.size 70 [.int .i64 y0, .string y1, .int .i64 (y2 : Int)] := by rw [← hw4]; exact Full.new w3 70 _
       obtain ⟨u, hu⟩ : ∃ u, w3.heap.size = u := ⟨_, rfl⟩
       rw [hu] at F4
       have hub : u ≠ b := by have := H3.out.rs.fu.lt; omega
       have HW4 := Lib.hid (And.intro (H3.out.on hb4) F4)
       have z1 : w4.cell? ⟨u, 1, none⟩ = some (.string y1) := F4.cell 1
       have z2 : w4.cell? ⟨u, 2, none⟩ = some (.int .i64 (y2 : Int)) := F4.cell 2
       rw [hw4, hu]
       clear hw4 hu hb4 F4 H3
       have HNEm := HNE
       cases m with
       | true =>
        have hm2 := HM2.out
        rw [if_pos rfl] at hm2
        have hat5 := HAT.out
        rw [if_pos rfl] at hat5
        have HMM := Lib.hid hm2
        clear hm2
        go_wp2_with (first
          | (at_builtin; go_loud (refine wpList_append_lies _ rfl _ _ 25 rfl base 52 i0 (.agg #[.string ⟨#[]⟩, .bool false, .string ⟨#[]⟩, .int .i64 0]) 4 48 Tryz.underlying25 hi hz0 hz1 hz2 rfl (by decide) (.slice A' n c') n (itmsC acc) rfl (HW4.out.1.row.alloc _) ⟨w4.heap.size, 0, none⟩ 1 1 [.string y1, .bool false, .string P, .int .i64 (y2 : Int)] rfl rfl (HCN.out w4 w4.heap.size rfl) HC1.out (by decide) (by unfold maxLen; omega) (by omega) (by have := HW4.out.1.tn.size; simp; omega) _ rfl ?_; intro g9 c9 w9 hown9 hgrow9 hat9 hlt9; (rw [← HC.out] at hown9); (have H9 := Lib.hid ((HW4.out.1.on ((Below.refl _ w4).alloc (Nat.le_refl _) _)).grow hown9 hgrow9 hat9)); clear hown9 hgrow9 hat9 hlt9))
          | (go_at_call 46; ((with_reducible refine (HTC.out _ H9.out.rs).mono ?_); rintro en w10 ⟨rfl, h10, ht10⟩; (have H10 := Lib.hid (H9.out.call h10 ht10)); clear h10 ht10))
          | (fail "arm"))
        go_roundw
        case rel => exact ⟨some ⟨g9, 0, none⟩, n + 1, c9, f, acc ++ [it], x5, rfl, hnl, H10, Lib.hid (by have := HA1.out; have := HONE.out; simp only [List.length_append, List.length_cons, List.length_nil]; omega), Lib.hid (by have := HA2.out; have := HONE.out; omega), HMM⟩
        case measure => show n0 + l.length + 1 - (n + 1) < n0 + l.length + 1 - n; omega
       | false =>
        have hm2 := HM2.out
        rw [if_neg Bool.false_ne_true] at hm2
        injection hm2 with e1 e2
        subst e1
        subst e2
        go_wp2_with (first
          | (at_builtin; go_loud (refine wpList_append_lies _ rfl _ _ 25 rfl base 52 i0 (.agg #[.string ⟨#[]⟩, .bool false, .string ⟨#[]⟩, .int .i64 0]) 4 48 Tryz.underlying25 hi hz0 hz1 hz2 rfl (by decide) (.slice A' n c') n (itmsC acc) rfl (HW4.out.1.row.alloc _) ⟨w4.heap.size, 0, none⟩ 1 1 [.string y1, .bool false, .string P, .int .i64 (y2 : Int)] rfl rfl (HCN.out w4 w4.heap.size rfl) HC1.out (by decide) (by unfold maxLen; omega) (by omega) (by have := HW4.out.1.tn.size; simp; omega) _ rfl ?_; intro g9 c9 w9 hown9 hgrow9 hat9 hlt9; (rw [← HC.out] at hown9); (have H9 := Lib.hid ((HW4.out.1.on ((Below.refl _ w4).alloc (Nat.le_refl _) _)).grow hown9 hgrow9 hat9)); clear hown9 hgrow9 hat9 hlt9))
          | (go_at_call 46; ((with_reducible refine (HTC.out _ H9.out.rs).mono ?_); rintro en w10 ⟨rfl, h10, ht10⟩; (have H10 := Lib.hid (H9.out.call h10 ht10)); clear h10 ht10))
          | (go_at_call 48; ((with_reducible refine (HNE.out _ H10.out.rs).mono ?_); rintro en w11 ⟨rfl, h11, ht11⟩; (have H11 := Lib.hid (H10.out.call h11 ht11)); clear h11 ht11))
          | (fail "arm"))
        go_ret
        exact ⟨some ⟨g9, 0, none⟩, n + 1, c9, rfl, H11.out⟩
      | true =>
       have HTG := Lib.hid (fun (W : World) (H : RS W bs b (some ad) c l x') => (by
        have z := rtake_any H HL.out 1 (by decide) (by decide) globS
        unfold RdOut at z
        exact z : Calls Tryz.prog 46 #[.pointer (some ⟨b, 0, none⟩), .int .i64 1, .string ⟨#[103, 108, 111, 98]⟩] W (fun en w' => en = .returned (.bool (rTake 1 globS l x').1) ∧ RS w' bs b (some ad) c l (rTake 1 globS l x').2 ∧ Turn (fun g => g = b) W w')))
       cases hgt : (rTake 1 globS l x').1 with
       | false =>
        rw [hgt, rTake_false hgt] at HTG
        have HAN := Lib.hid (fun (W : World) (H : RS W bs b (some ad) c l x') => (by
         have z := rany_any H HL.out 3 (by decide) (by decide)
         unfold RdOut rtV at z
         exact z : Calls Tryz.prog 81 #[.pointer (some ⟨b, 0, none⟩), .int .i64 3] W (fun en w' => en = .returned (.agg #[.int .i64 (rAny 3 l x').1.kd, .string (str (rAny 3 l x').1.tx), .int .i64 ((rAny 3 l x').1.ln : Int)]) ∧ RS w' bs b (some ad) c l (rAny 3 l x').2 ∧ Turn (fun g => g = b) W w')))
        obtain ⟨y0, hy0⟩ : ∃ y, (rAny 3 l x').1.kd = y := ⟨_, rfl⟩
        obtain ⟨y1, hy1⟩ : ∃ y, str (rAny 3 l x').1.tx = y := ⟨_, rfl⟩
        obtain ⟨y2, hy2⟩ : ∃ y : Nat, (rAny 3 l x').1.ln = y := ⟨_, rfl⟩
        have HC := Lib.hid (show itmC it = [.string y1, .bool false, .string P, .int .i64 (y2 : Int)] by rw [← HIT.out, ← hy1, ← hy2, ← HPP.out]; (unfold rOne rGate; rw [if_pos rfl, hgt, rTake_false hgt]; rfl))
        rw [hy0, hy1, hy2] at HAN
        obtain ⟨x3, hx3⟩ : ∃ z, (rAny 3 l x').2 = z := ⟨_, rfl⟩
        rw [hx3] at HAN
        have h43 : x3 = x4 := by rw [← hx3, ← H4.out]; unfold rOne rGate; rw [if_pos rfl, hgt, rTake_false hgt]; rfl
        subst h43
        clear hgt
        have HCN := Lib.hid (fun (W : World) (g : Nat) (hg : W.heap.size = g) => show ∀ j u, [Value.string y1, .bool false, .string P, .int .i64 (y2 : Int)][j]? = some u → (W.alloc (.cells #[.string y1, .bool false, .string P, .int .i64 (y2 : Int)] 52)).cell? ((⟨g, 0, none⟩ : Addr).add j) = some u from fun j u hj => by
         subst hg
         obtain ⟨ad, e, _, hc⟩ := ((Full.new W 52 [.string y1, .bool false, .string P, .int .i64 (y2 : Int)]).row 4 1 rfl 1 (Nat.le_refl _)).2.2.2 j u hj
         injection e with e
         subst e
         exact hc)
        have HC1 := Lib.hid (show ∀ u ∈ [Value.string y1, .bool false, .string P, .int .i64 (y2 : Int)], u.oneCell' = true from by
         intro u hu
         simp at hu
         rcases hu with rfl | rfl | rfl | rfl <;> rfl)
        clear hy0 hy1 hy2 hx3 he
        go_upto_region 9 with (first
          | (go_at_call 46; ((with_reducible refine (HTG.out _ HI.out.rs).mono ?_); rintro en w1 ⟨rfl, h1, ht1⟩; (have H1 := Lib.hid (HI.out.call h1 ht1)); clear h1 ht1))
          | (go_at_call 81; ((with_reducible refine (HAN.out _ H1.out.rs).mono ?_); rintro en w3 ⟨rfl, h3, ht3⟩; (have H3 := Lib.hid (H1.out.call h3 ht3)); clear h3 ht3))
          | (fail "arm"))
        obtain ⟨w4, hw4⟩ : ∃ w4, w3.alloc (.cells #[.int .i64 y0, .string y1, .int .i64 (y2 : Int)] 70) = w4 := ⟨_, rfl⟩
        have hb4 : Below w3.heap.size w3 w4 := by rw [← hw4]; exact (Below.refl _ w3).alloc (Nat.le_refl _) _
        have F4 : Full w4 w3.heap.size 70 [.int .i64 y0, .string y1, .int .i64 (y2 : Int)] := by rw [← hw4]; exact Full.new w3 70 _
        obtain ⟨u, hu⟩ : ∃ u, w3.heap.size = u := ⟨_, rfl⟩
        rw [hu] at F4
        have hub : u ≠ b := by have := H3.out.rs.fu.lt; omega
        have HW4 := Lib.hid (And.intro (H3.out.on hb4) F4)
        have z1 : w4.cell? ⟨u, 1, none⟩ = some (.string y1) := F4.cell 1
        have z2 : w4.cell? ⟨u, 2, none⟩ = some (.int .i64 (y2 : Int)) := F4.cell 2
        rw [hw4, hu]
        clear hw4 hu hb4 F4 H3
        have HNEm := HNE
        cases m with
        | true =>
         have hm2 := HM2.out
         rw [if_pos rfl] at hm2
         have hat5 := HAT.out
         rw [if_pos rfl] at hat5
         have HMM := Lib.hid hm2
         clear hm2
         go_wp2_with (first
           | (at_builtin; go_loud (refine wpList_append_lies _ rfl _ _ 25 rfl base 52 i0 (.agg #[.string ⟨#[]⟩, .bool false, .string ⟨#[]⟩, .int .i64 0]) 4 48 Tryz.underlying25 hi hz0 hz1 hz2 rfl (by decide) (.slice A' n c') n (itmsC acc) rfl (HW4.out.1.row.alloc _) ⟨w4.heap.size, 0, none⟩ 1 1 [.string y1, .bool false, .string P, .int .i64 (y2 : Int)] rfl rfl (HCN.out w4 w4.heap.size rfl) HC1.out (by decide) (by unfold maxLen; omega) (by omega) (by have := HW4.out.1.tn.size; simp; omega) _ rfl ?_; intro g9 c9 w9 hown9 hgrow9 hat9 hlt9; (rw [← HC.out] at hown9); (have H9 := Lib.hid ((HW4.out.1.on ((Below.refl _ w4).alloc (Nat.le_refl _) _)).grow hown9 hgrow9 hat9)); clear hown9 hgrow9 hat9 hlt9))
           | (go_at_call 46; ((with_reducible refine (HTC.out _ H9.out.rs).mono ?_); rintro en w10 ⟨rfl, h10, ht10⟩; (have H10 := Lib.hid (H9.out.call h10 ht10)); clear h10 ht10))
           | (fail "arm"))
         go_roundw
         case rel => exact ⟨some ⟨g9, 0, none⟩, n + 1, c9, f, acc ++ [it], x5, rfl, hnl, H10, Lib.hid (by have := HA1.out; have := HONE.out; simp only [List.length_append, List.length_cons, List.length_nil]; omega), Lib.hid (by have := HA2.out; have := HONE.out; omega), HMM⟩
         case measure => show n0 + l.length + 1 - (n + 1) < n0 + l.length + 1 - n; omega
        | false =>
         have hm2 := HM2.out
         rw [if_neg Bool.false_ne_true] at hm2
         injection hm2 with e1 e2
         subst e1
         subst e2
         go_wp2_with (first
           | (at_builtin; go_loud (refine wpList_append_lies _ rfl _ _ 25 rfl base 52 i0 (.agg #[.string ⟨#[]⟩, .bool false, .string ⟨#[]⟩, .int .i64 0]) 4 48 Tryz.underlying25 hi hz0 hz1 hz2 rfl (by decide) (.slice A' n c') n (itmsC acc) rfl (HW4.out.1.row.alloc _) ⟨w4.heap.size, 0, none⟩ 1 1 [.string y1, .bool false, .string P, .int .i64 (y2 : Int)] rfl rfl (HCN.out w4 w4.heap.size rfl) HC1.out (by decide) (by unfold maxLen; omega) (by omega) (by have := HW4.out.1.tn.size; simp; omega) _ rfl ?_; intro g9 c9 w9 hown9 hgrow9 hat9 hlt9; (rw [← HC.out] at hown9); (have H9 := Lib.hid ((HW4.out.1.on ((Below.refl _ w4).alloc (Nat.le_refl _) _)).grow hown9 hgrow9 hat9)); clear hown9 hgrow9 hat9 hlt9))
           | (go_at_call 46; ((with_reducible refine (HTC.out _ H9.out.rs).mono ?_); rintro en w10 ⟨rfl, h10, ht10⟩; (have H10 := Lib.hid (H9.out.call h10 ht10)); clear h10 ht10))
           | (go_at_call 48; ((with_reducible refine (HNE.out _ H10.out.rs).mono ?_); rintro en w11 ⟨rfl, h11, ht11⟩; (have H11 := Lib.hid (H10.out.call h11 ht11)); clear h11 ht11))
           | (fail "arm"))
         go_ret
         exact ⟨some ⟨g9, 0, none⟩, n + 1, c9, rfl, H11.out⟩
       | true =>
        rw [hgt] at HTG
        obtain ⟨x1', hx1'⟩ : ∃ z, (rTake 1 globS l x').2 = z := ⟨_, rfl⟩
        rw [hx1'] at HTG
        have HN40 := Lib.hid (fun (W : World) (H : RS W bs b (some ad) c l x1') => (by
         have z := rneed_any H HL.out 4 (by decide) (by decide) [40]
         unfold RdOut at z
         exact z : Calls Tryz.prog 48 #[.pointer (some ⟨b, 0, none⟩), .int .i64 4, .string ⟨#[40]⟩] W (fun en w' => en = .returned (.tuple #[]) ∧ RS w' bs b (some ad) c l (rNeed 4 [40] l x1') ∧ Turn (fun g => g = b) W w')))
        obtain ⟨x2', hx2'⟩ : ∃ z, rNeed 4 [40] l x1' = z := ⟨_, rfl⟩
        rw [hx2'] at HN40
        have HAN := Lib.hid (fun (W : World) (H : RS W bs b (some ad) c l x2') => (by
         have z := rany_any H HL.out 3 (by decide) (by decide)
         unfold RdOut rtV at z
         exact z : Calls Tryz.prog 81 #[.pointer (some ⟨b, 0, none⟩), .int .i64 3] W (fun en w' => en = .returned (.agg #[.int .i64 (rAny 3 l x2').1.kd, .string (str (rAny 3 l x2').1.tx), .int .i64 ((rAny 3 l x2').1.ln : Int)]) ∧ RS w' bs b (some ad) c l (rAny 3 l x2').2 ∧ Turn (fun g => g = b) W w')))
        obtain ⟨y0, hy0⟩ : ∃ y, (rAny 3 l x2').1.kd = y := ⟨_, rfl⟩
        obtain ⟨y1, hy1⟩ : ∃ y, str (rAny 3 l x2').1.tx = y := ⟨_, rfl⟩
        obtain ⟨y2, hy2⟩ : ∃ y : Nat, (rAny 3 l x2').1.ln = y := ⟨_, rfl⟩
        have HC := Lib.hid (show itmC it = [.string y1, .bool true, .string P, .int .i64 (y2 : Int)] by rw [← HIT.out, ← hy1, ← hy2, ← HPP.out]; (unfold rOne rGate rSh; rw [if_pos rfl, hgt, if_pos rfl, hx1', hx2']; rfl))
        rw [hy0, hy1, hy2] at HAN
        obtain ⟨x3, hx3⟩ : ∃ z, (rAny 3 l x2').2 = z := ⟨_, rfl⟩
        rw [hx3] at HAN
        have HN41 := Lib.hid (fun (W : World) (H : RS W bs b (some ad) c l x3) => (by
         have z := rneed_any H HL.out 4 (by decide) (by decide) [41]
         unfold RdOut at z
         exact z : Calls Tryz.prog 48 #[.pointer (some ⟨b, 0, none⟩), .int .i64 4, .string ⟨#[41]⟩] W (fun en w' => en = .returned (.tuple #[]) ∧ RS w' bs b (some ad) c l (rNeed 4 [41] l x3) ∧ Turn (fun g => g = b) W w')))
        have h43 : rNeed 4 [41] l x3 = x4 := by rw [← hx3, ← H4.out]; unfold rOne rGate rSh; rw [if_pos rfl, hgt, if_pos rfl, if_pos rfl, hx1', hx2']
        rw [h43] at HN41
        clear hgt hx1' hx2'
        have HCN := Lib.hid (fun (W : World) (g : Nat) (hg : W.heap.size = g) => show ∀ j u, [Value.string y1, .bool true, .string P, .int .i64 (y2 : Int)][j]? = some u → (W.alloc (.cells #[.string y1, .bool true, .string P, .int .i64 (y2 : Int)] 52)).cell? ((⟨g, 0, none⟩ : Addr).add j) = some u from fun j u hj => by
         subst hg
         obtain ⟨ad, e, _, hc⟩ := ((Full.new W 52 [.string y1, .bool true, .string P, .int .i64 (y2 : Int)]).row 4 1 rfl 1 (Nat.le_refl _)).2.2.2 j u hj
         injection e with e
         subst e
         exact hc)
        have HC1 := Lib.hid (show ∀ u ∈ [Value.string y1, .bool true, .string P, .int .i64 (y2 : Int)], u.oneCell' = true from by
         intro u hu
         simp at hu
         rcases hu with rfl | rfl | rfl | rfl <;> rfl)
        clear hy0 hy1 hy2 hx3 he
        go_upto_region 9 with (first
          | (go_at_call 46; ((with_reducible refine (HTG.out _ HI.out.rs).mono ?_); rintro en w1 ⟨rfl, h1, ht1⟩; (have H1 := Lib.hid (HI.out.call h1 ht1)); clear h1 ht1))
          | (go_at_call 48; ((with_reducible refine (HN40.out _ H1.out.rs).mono ?_); rintro en w2 ⟨rfl, h2, ht2⟩; (have H2 := Lib.hid (H1.out.call h2 ht2)); clear h2 ht2))
          | (go_at_call 81; ((with_reducible refine (HAN.out _ H2.out.rs).mono ?_); rintro en w3 ⟨rfl, h3, ht3⟩; (have H3 := Lib.hid (H2.out.call h3 ht3)); clear h3 ht3))
          | (fail "arm"))
        obtain ⟨w4, hw4⟩ : ∃ w4, w3.alloc (.cells #[.int .i64 y0, .string y1, .int .i64 (y2 : Int)] 70) = w4 := ⟨_, rfl⟩
        have hb4 : Below w3.heap.size w3 w4 := by rw [← hw4]; exact (Below.refl _ w3).alloc (Nat.le_refl _) _
        have F4 : Full w4 w3.heap.size 70 [.int .i64 y0, .string y1, .int .i64 (y2 : Int)] := by rw [← hw4]; exact Full.new w3 70 _
        obtain ⟨u, hu⟩ : ∃ u, w3.heap.size = u := ⟨_, rfl⟩
        rw [hu] at F4
        have hub : u ≠ b := by have := H3.out.rs.fu.lt; omega
        have HW4 := Lib.hid (And.intro (H3.out.on hb4) F4)
        have z1 : w4.cell? ⟨u, 1, none⟩ = some (.string y1) := F4.cell 1
        have z2 : w4.cell? ⟨u, 2, none⟩ = some (.int .i64 (y2 : Int)) := F4.cell 2
        rw [hw4, hu]
        clear hw4 hu hb4 F4 H3
        have HNEm := HNE
        cases m with
        | true =>
         have hm2 := HM2.out
         rw [if_pos rfl] at hm2
         have hat5 := HAT.out
         rw [if_pos rfl] at hat5
         have HMM := Lib.hid hm2
         clear hm2
         go_wp2_with (first
           | (go_at_call 48; ((with_reducible refine (HN41.out _ HW4.out.1.rs).mono ?_); rintro en w5 ⟨rfl, h5, ht5⟩; (have H5 := Lib.hid (HW4.out.1.call h5 ht5)); (have F5 := ht5.far HW4.out.2 hub); (have z1 : w5.cell? ⟨u, 1, none⟩ = some (.string y1) := F5.cell 1); (have z2 : w5.cell? ⟨u, 2, none⟩ = some (.int .i64 (y2 : Int)) := F5.cell 2); clear h5 ht5 F5))
           | (at_builtin; go_loud (refine wpList_append_lies _ rfl _ _ 25 rfl base 52 i0 (.agg #[.string ⟨#[]⟩, .bool false, .string ⟨#[]⟩, .int .i64 0]) 4 48 Tryz.underlying25 hi hz0 hz1 hz2 rfl (by decide) (.slice A' n c') n (itmsC acc) rfl (H5.out.row.alloc _) ⟨w5.heap.size, 0, none⟩ 1 1 [.string y1, .bool true, .string P, .int .i64 (y2 : Int)] rfl rfl (HCN.out w5 w5.heap.size rfl) HC1.out (by decide) (by unfold maxLen; omega) (by omega) (by have := H5.out.tn.size; simp; omega) _ rfl ?_; intro g9 c9 w9 hown9 hgrow9 hat9 hlt9; (rw [← HC.out] at hown9); (have H9 := Lib.hid ((H5.out.on ((Below.refl _ w5).alloc (Nat.le_refl _) _)).grow hown9 hgrow9 hat9)); clear hown9 hgrow9 hat9 hlt9))
           | (go_at_call 46; ((with_reducible refine (HTC.out _ H9.out.rs).mono ?_); rintro en w10 ⟨rfl, h10, ht10⟩; (have H10 := Lib.hid (H9.out.call h10 ht10)); clear h10 ht10))
           | (fail "arm"))
         go_roundw
         case rel => exact ⟨some ⟨g9, 0, none⟩, n + 1, c9, f, acc ++ [it], x5, rfl, hnl, H10, Lib.hid (by have := HA1.out; have := HONE.out; simp only [List.length_append, List.length_cons, List.length_nil]; omega), Lib.hid (by have := HA2.out; have := HONE.out; omega), HMM⟩
         case measure => show n0 + l.length + 1 - (n + 1) < n0 + l.length + 1 - n; omega
        | false =>
         have hm2 := HM2.out
         rw [if_neg Bool.false_ne_true] at hm2
         injection hm2 with e1 e2
         subst e1
         subst e2
         go_wp2_with (first
           | (go_at_call 48; ((with_reducible refine (HN41.out _ HW4.out.1.rs).mono ?_); rintro en w5 ⟨rfl, h5, ht5⟩; (have H5 := Lib.hid (HW4.out.1.call h5 ht5)); (have F5 := ht5.far HW4.out.2 hub); (have z1 : w5.cell? ⟨u, 1, none⟩ = some (.string y1) := F5.cell 1); (have z2 : w5.cell? ⟨u, 2, none⟩ = some (.int .i64 (y2 : Int)) := F5.cell 2); clear h5 ht5 F5))
           | (at_builtin; go_loud (refine wpList_append_lies _ rfl _ _ 25 rfl base 52 i0 (.agg #[.string ⟨#[]⟩, .bool false, .string ⟨#[]⟩, .int .i64 0]) 4 48 Tryz.underlying25 hi hz0 hz1 hz2 rfl (by decide) (.slice A' n c') n (itmsC acc) rfl (H5.out.row.alloc _) ⟨w5.heap.size, 0, none⟩ 1 1 [.string y1, .bool true, .string P, .int .i64 (y2 : Int)] rfl rfl (HCN.out w5 w5.heap.size rfl) HC1.out (by decide) (by unfold maxLen; omega) (by omega) (by have := H5.out.tn.size; simp; omega) _ rfl ?_; intro g9 c9 w9 hown9 hgrow9 hat9 hlt9; (rw [← HC.out] at hown9); (have H9 := Lib.hid ((H5.out.on ((Below.refl _ w5).alloc (Nat.le_refl _) _)).grow hown9 hgrow9 hat9)); clear hown9 hgrow9 hat9 hlt9))
           | (go_at_call 46; ((with_reducible refine (HTC.out _ H9.out.rs).mono ?_); rintro en w10 ⟨rfl, h10, ht10⟩; (have H10 := Lib.hid (H9.out.call h10 ht10)); clear h10 ht10))
           | (go_at_call 48; ((with_reducible refine (HNE.out _ H10.out.rs).mono ?_); rintro en w11 ⟨rfl, h11, ht11⟩; (have H11 := Lib.hid (H10.out.call h11 ht11)); clear h11 ht11))
           | (fail "arm"))
         go_ret
         exact ⟨some ⟨g9, 0, none⟩, n + 1, c9, rfl, H11.out⟩
    · rw [if_neg (fun z => e0 (he.symm.trans z))] at hm
      injection hm with h1 h2
      subst h1
      subst h2
      have q1 : (e == 0) = false := by simpa using e0
      clear e0 he HM
      go_wp2_with (first
        | (go_at_call 48; ((with_reducible refine (HNE.out _ HI.out.rs).mono ?_); rintro en w3 ⟨rfl, h3, ht3⟩; (have H3 := Lib.hid (HI.out.call h3 ht3)); clear h3 ht3))
        | (fail "arm"))
      go_ret
      exact ⟨A', n, c', rfl, H3.out⟩
end Go.Proofs.YtcjoiiaankngjaaGreatDoor
