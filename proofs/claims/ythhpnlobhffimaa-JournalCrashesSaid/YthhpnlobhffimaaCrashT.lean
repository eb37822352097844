/- Crash. -/
import Derived.Test.YthhpnlobhffimaaCrashKit
namespace Go.Proofs.Ythhpnlobhffimaa
set_option maxRecDepth 100000
open Go.RowKit Go.Shelf
attribute [local go_sem] Oper.semAt_some
def CrashOut (w : World) (d : Dk) (q : List Int) (e : Ending) (w' : World) : Prop :=
  ∃ p' F', e = .returned (.pointer (some ⟨p', 0, none⟩)) ∧ IsD w.heap.size w' p' (d.crash q) F' ∧ Below w.heap.size w w'
theorem crash_nil (w : World) (A : Option Addr) (m c : Nat) : Calls Try.prog 18 #[.pointer none, .slice A m c] w fun e w' => ∃ p', e = .returned (.pointer (some ⟨p', 0, none⟩)) ∧ IsD w.heap.size w' p' Dk.new (fun g => g = p') ∧ Below w.heap.size w w' := by
  have NE := Lib.hid (new_any (w.alloc (.cells #[.slice A m c] 56)))
  have hb := Lib.hid (show Below w.heap.size w (w.alloc (.cells #[.slice A m c] 56)) from (Below.refl _ w).alloc (Nat.le_refl _) _)
  go_enter Try.func18, Try.ntmps18
  go_wp2_with (go_at_call 13; ((with_reducible refine NE.out.mono ?_); rintro e w1 ⟨p', rfl, hI, hb1⟩))
  go_ret
  exact ⟨p', rfl, hI.less (by simp), Below.then_ hb.out hb1⟩
set_option maxHeartbeats 8000000 in
theorem crash_any {B : Nat} {w : World} {p : Nat} {d : Dk} {F : Nat → Prop} (hd : IsD B w p d F) (hc : d.calls ≤ 100000) {B1 m c : Nat} {A : Option Addr} {q : List Int} (hq : Row w B1 1 A m c (intC q)) (hB1 : B1 ≤ w.heap.size) (hm : m ≤ maxLen) :
    Calls Try.prog 18 #[.pointer (some ⟨p, 0, none⟩), .slice A m c] w (CrashOut w d q) := by
  unfold CrashOut
  obtain ⟨a, b, cv, lf, h⟩ := hd
  refine (callsIn_wide (n := 3)).1 (callsIn_of_wp_marks Try.func18 rfl trivial ?_ rfl)
  refine wpIn_wide.2 ?_
  simp only [Try.ntmps18, List.size_toArray, List.length_cons, List.length_nil, Nat.reduceAdd, Nat.reduceSub, Array.replicate_succ, Array.replicate_zero, List.push_toArray, List.append_toArray, List.nil_append, List.cons_append]
  obtain ⟨w1, hw1⟩ : ∃ w1, w.alloc (.cells #[.slice A m c] 56) = w1 := ⟨_, rfl⟩
  have hb1 : Below w.heap.size w w1 := by rw [← hw1]; exact (Below.refl _ w).alloc (Nat.le_refl _) _
  have h1 := h.keep (w' := w1) (fun g hg => hb1.block g (h.in_ g hg).2) hb1.size
  have K1 : Full w1 w.heap.size 56 [.slice A m c] := by rw [← hw1]; exact Full.new w 56 _
  have CP := Lib.hid (copy_any h1.syn h1.good.syn)
  unfold BytesOut at CP
  have f1 : w1.cell? ⟨p, 1, none⟩ = some b := h1.full.cell 1
  have HB1 := Lib.hid hb1
  have HK1 := Lib.hid K1
  have H := Lib.hid h
  have H1 := Lib.hid h1
  have HSZ := Lib.hid (show w1.heap.size = w.heap.size + 1 by rw [← hw1]; simp)
  clear h h1 hb1 K1
  go_upto_region 3 with fail
  clear hw1
  go_upto_region 5 with (first
    | (go_at_call 41; ((with_reducible refine CP.out.mono ?_); rintro e w2 ⟨v2, rfl, own2, hb2⟩; (obtain ⟨A2, c2, rfl⟩ := own_form own2)))
    | (fail "arm"))
  obtain ⟨CB, hCB⟩ : ∃ CB, w2.heap.size = CB := ⟨_, rfl⟩
  obtain ⟨qv, hqv⟩ : ∃ qv, Value.slice A m c = qv := ⟨_, rfl⟩
  obtain ⟨sl, hsl⟩ : ∃ sl, d.syn.length = sl := ⟨_, rfl⟩
  rw [hsl] at own2 ⊢
  rw [hCB]
  obtain ⟨w4, hw4⟩ : ∃ w4, (w2.alloc (.cells #[.slice A2 sl c2] 66)).alloc (.cells #[.int .i64 0] 3) = w4 := ⟨_, rfl⟩
  have S0 : CrS w w4 w.heap.size CB (CB + 1) (.slice A m c) (.slice A2 sl c2) d.syn 0 := by
    have e1 := Full.new w2 66 [.slice A2 sl c2]
    have e2 := Full.new (w2.alloc (.cells #[.slice A2 sl c2] 66)) 3 [.int .i64 0]
    rw [World.size_alloc, hCB] at e2
    rw [hCB] at e1
    have hb4 : Below w2.heap.size w2 w4 := by rw [← hw4]; exact ((Below.refl _ w2).alloc (Nat.le_refl _) _).alloc (by simp) _
    exact {
      qb := ((HK1.out.on hb2).on hb4)
      cb := by rw [← hw4]; exact e1.alloc _
      nb := by rw [← hw4]; exact e2
      own := by
        rw [hsl]
        exact owns_base (own_keep own2 hb4) (fun g e => Nat.le_trans HB1.out.size (row_ge own2 g e))
      bel := Below.then_ (Below.then_ HB1.out hb2) hb4 }
  have HS0 := Lib.hid S0
  have h4 := H.out.keep (w' := w4) (fun g hg => S0.bel.block g (H.out.in_ g hg).2) S0.bel.size
  obtain ⟨mm, hmm⟩ : ∃ mm, d.ps.length = mm := ⟨_, rfl⟩
  have HMM := Lib.hid hmm
  obtain ⟨C, cc, rfl⟩ := own_form h4.ps
  rw [hmm] at h4
  have HPS := Lib.hid h4.ps
  have f2 : w4.cell? ⟨p, 2, none⟩ = some (.slice C mm cc) := h4.full.cell 2
  have HH4 := Lib.hid h4
  have HC4 := Lib.hid (show w.heap.size < CB ∧ CB + 1 < w4.heap.size from by
    have a1 := HSZ.out
    have a2 := hb2.size
    rw [← hw4]
    simp
    omega)
  clear own2 hb2 S0 h4 hmm CP H1 hsl hCB hqv
  rw [hw4]
  clear hw4
  have RQ := Lib.hid (fun (W : World) (hb : Below w.heap.size w W) => Row.below hq hb hB1)
  clear hq f1
  go_wp2
  refine wp_loop (fun a' W => ∃ (k : Nat) (Ds : List Nat) (v u7 u8 u9 u12 u24 u25 u26 u27 u28 u29 u30 u31 u32 u33 u34 u35 u36 u37 u38 u39 u40 u41 u42 u43 : Value), a' = ({ tmps := #[.pointer (some ⟨p, 0, none⟩), .slice A m c, undef, .pointer (some ⟨w.heap.size, 0, none⟩), .pointer none, .pointer (some ⟨CB, 0, none⟩), .pointer (some ⟨CB + 1, 0, none⟩), u7, u8, u9, .pointer (some ⟨p, 0, none⟩), .bool false, u12, .pointer (some ⟨p, 0, none⟩), .pointer (some ⟨p, 0, none⟩), .pointer (some ⟨p, 1, none⟩), b, .slice A2 sl c2, .pointer (some ⟨p, 0, none⟩), .pointer (some ⟨p, 0, none⟩), .pointer (some ⟨p, 2, none⟩), .slice C mm cc, .int .i64 (mm : Int), .int .i64 (k : Int), u24, u25, u26, u27, u28, u29, u30, u31, u32, u33, u34, u35, u36, u37, u38, u39, u40, u41, u42, u43], defers := markL Ds } : Act) ∧ k ≤ mm ∧ Hid (CrS w W w.heap.size CB (CB + 1) (.slice A m c) v (lay q 0 d.syn (allParts (d.ps.take k))) (allParts (d.ps.take k)).length) ∧ Hid (Marks w.heap.size Ds W) ∧ Hid Ds.Nodup ∧ Hid (CB + 1 < W.heap.size)) (fun a' _ => mm - (intOf (a'.tmps.getD 23 undef)).toNat) ?_ ?_
  · exact ⟨0, [], .slice A2 sl c2, _, _, _, _, _, _, _, _, _, _, _, _, _, _, _, _, _, _, _, _, _, _, _, _, rfl, Nat.zero_le _, HS0, Lib.hid (fun D hD => by cases hD), Lib.hid List.nodup_nil, Lib.hid HC4.out.2⟩
  · rintro a' W ⟨k, Ds, v, u7, u8, u9, u12, u24, u25, u26, u27, u28, u29, u30, u31, u32, u33, u34, u35, u36, u37, u38, u39, u40, u41, u42, u43, rfl, hk, HS, HM, HN, HCW⟩
    have k0 : (0 : Int) ≤ (k : Int) := Int.natCast_nonneg _
    by_cases hkm : k < mm
    · have k1 : (k : Int) < (mm : Int) := by omega
      have hkl : k < d.ps.length := by have := HMM.out; omega
      obtain ⟨ad, hC, hadl, a0, a1⟩ := pc_at (w := w) (Row.own (HMM.out ▸ H.out.ps)) hkl
      have hbW : Below w.heap.size w W := HS.out.bel
      have hpl := H.out.good.ps _ (List.getElem_mem hkl)
      have hall : allParts (d.ps.take (k + 1)) = allParts (d.ps.take k) ++ partsOf (d.ps[k].1, d.ps[k].2) := by rw [List.take_succ_eq_append_getElem hkl, allParts_snoc]
      obtain ⟨o, ho⟩ : ∃ o, d.ps[k].1 = o := ⟨_, rfl⟩
      obtain ⟨sl', hsl⟩ : ∃ sl, d.ps[k].2 = sl := ⟨_, rfl⟩
      rw [ho, hsl] at hpl hall
      rw [ho] at a0
      rw [hsl] at a1
      subst hC
      have a0' : W.cell? (ad.add (k * 2)) = some (.int .i64 (o : Int)) := (hbW.cell (by rw [add_block]; exact hadl)).trans a0
      have a1' : W.cell? ⟨(ad.add (k * 2)).block, (ad.add (k * 2)).off + 1, none⟩ = some (.string (str sl')) := (hbW.cell (by show (ad.add (k * 2)).block < _; rw [add_block]; exact hadl)).trans a1
      have PN := Lib.hid (fun W' => parts_new (o : Int) (str sl') W')
      have HALL := Lib.hid hall
      clear a0 a1 ho hsl hall hbW
      go_wp2_with (first
        | (go_at_call 42; ((with_reducible refine (PN.out _).mono ?_); rintro e wx ⟨rfl, rfl⟩))
        | (fail "arm"))
      obtain ⟨R, hR⟩ : ∃ R, (W.alloc (.cells #[.int .i64 (o : Int), .string (str sl')] 86)).alloc (.cells #[.int .i64 (o : Int), .string (str sl')] 86) = R := ⟨_, rfl⟩
      have hRs : R.heap.size = W.heap.size + 2 := by rw [← hR]; simp
      have KR : Full R (W.heap.size + 1) 86 [.int .i64 (o : Int), .string (str sl')] := by
        have := Full.new (W.alloc (.cells #[.int .i64 (o : Int), .string (str sl')] 86)) 86 [.int .i64 (o : Int), .string (str sl')]
        rw [World.size_alloc, hR] at this
        exact this
      have SR : CrS w R w.heap.size CB (CB + 1) (.slice A m c) v (lay q 0 d.syn (allParts (d.ps.take k))) (allParts (d.ps.take k)).length := by rw [← hR]; exact (HS.out.alloc _).alloc _
      have MR : Marks w.heap.size Ds R := HM.out.keep fun D hD => by
        have := HM.out.lt D hD
        rw [← hR]
        exact (Below.heap_alloc _ _ _ (by simp; omega)).trans (Below.heap_alloc _ _ _ this)
      have hDs : ∀ D ∈ Ds, D < R.heap.size := MR.lt
      have hown := parts_own 2 (by omega) (W.heap.size + 1) o sl' R (KR.cell 0) (KR.cell 1) KR.lt hpl
      have hL0 : (lay q 0 d.syn (allParts (d.ps.take k))).length ≤ lim := (lay_len q lim _ 0 _ (fun x hx => allParts_in H.out.good.ps x (by
        unfold allParts at hx ⊢
        obtain ⟨y, hy, hx⟩ := List.mem_flatMap.1 hx
        exact List.mem_flatMap.2 ⟨y, List.mem_of_mem_take hy, hx⟩)) H.out.good.syn).1
      have hnum : (allParts (d.ps.take k)).length ≤ 100000 * lim := Nat.le_trans (allParts_few lim _ fun x hx => H.out.good.ps x (List.mem_of_mem_take hx)) (Nat.mul_le_mul_right _ (by rw [List.length_take]; have := H.out.good.few; omega))
      have hTin : ∀ x ∈ partsOf (o, sl'), x.1 + x.2.length ≤ lim := fun x hx => by have := (partsOf_in hx).2.1; dsimp only at this; omega
      have hTf := partsOf_few (o, sl')
      dsimp only at hTf
      obtain ⟨T, HT⟩ : ∃ T, Hid (partsOf (o, sl') = T) := ⟨_, Lib.hid rfl⟩
      rw [HT.out] at hown hTin hTf
      obtain ⟨L0, HL0⟩ : ∃ L0, Hid (lay q 0 d.syn (allParts (d.ps.take k)) = L0) := ⟨_, Lib.hid rfl⟩
      obtain ⟨num0, HNUM⟩ : ∃ num0, Hid ((allParts (d.ps.take k)).length = num0) := ⟨_, Lib.hid rfl⟩
      rw [HL0.out, HNUM.out] at SR
      rw [HL0.out] at hL0
      rw [HNUM.out] at hnum
      have hcw := HCW.out
      have hwR : w.heap.size ≤ R.heap.size := SR.bel.size
      have hCBw := HC4.out.1
      have HSR := Lib.hid SR
      have HMR := Lib.hid MR
      have HTIN := Lib.hid hTin
      have HDS := Lib.hid hDs
      rw [hR]
      clear hR SR MR KR hTin hDs
      refine wpIn_wide.1 (range_own (n := 3) rfl (by omega) (gf := 61) (lb := #[.pointer (some ⟨W.heap.size + 1, 0, none⟩)]) rfl trivial (enters_of Try.func61 (by kernel_rfl) rfl)
        hown (fun _ => rfl) (fun j r W2 => RI w w.heap.size CB (CB + 1) (.slice A m c) q num0 L0 T Ds j r W2)
        (fun r => RI.grow r hwR HDS.out) (fun j r W2 i u h hr => RI.set_ j r W2 i u h hr hwR ⟨by omega, by omega, by omega⟩ HDS.out) (fun j r W2 ob h _ => RI.alloc j r W2 ob h)
        (fun W2 ob hb _ => RI.alloc 0 W2.heap.size W2 ob ⟨v, HSR.out.keep (fun g hg => hb.block g (by
          obtain ⟨o', ho', _⟩ := HSR.out.blocks g hg
          exact (Array.getElem?_eq_some_iff.1 ho').1)) (HSR.out.bel.trans (hb.mono hwR)), fun e => by have := owns_lt HSR.out.own _ e; have := hb.size; omega, HMR.out.keep fun D hD => hb.block D (HDS.out D hD)⟩)
        (fun j x a' W2 => ∃ gB : Nat, a' = ({ tmps := #[.pointer (some ⟨p, 0, none⟩), .slice A m c, undef, .pointer (some ⟨w.heap.size, 0, none⟩), .pointer none, .pointer (some ⟨CB, 0, none⟩), .pointer (some ⟨CB + 1, 0, none⟩), u7, .pointer (some ⟨W.heap.size, 0, none⟩), .pointer (some ⟨gB, 0, none⟩), .pointer (some ⟨p, 0, none⟩), .bool false, u12, .pointer (some ⟨p, 0, none⟩), .pointer (some ⟨p, 0, none⟩), .pointer (some ⟨p, 1, none⟩), b, .slice A2 sl c2, .pointer (some ⟨p, 0, none⟩), .pointer (some ⟨p, 0, none⟩), .pointer (some ⟨p, 2, none⟩), .slice (some ad) mm cc, .int .i64 (mm : Int), .int .i64 (k : Int), .bool true, .pointer (some (ad.add (k * 2))), .agg #[.int .i64 (o : Int), .string (str sl')], .agg #[.int .i64 (o : Int), .string (str sl')], .func (.func 61) #[] #[.pointer (some ⟨W.heap.size + 1, 0, none⟩)], .agg #[.int .i64 (x.1 : Int), .string (str x.2)], u30, u31, u32, u33, u34, u35, u36, u37, u38, u39, u40, u41, u42, u43], defers := [] } : Act) ∧ Full W2 gB 86 [.int .i64 (x.1 : Int), .string (str x.2)]) ?hAx ?assign ?body ?done)
      case hAx =>
        rintro j x a' s W2 W3 row ⟨gB, e, hf⟩ hg hr
        exact ⟨gB, e, (grownBy_keeps_cells hg (fun r e => (hr r e).2) hf rfl).trans hf⟩
      case assign =>
        rintro l j r x W2 K hI hr hK
        unfold PV pcV
        gi_wp2
        refine hK _ _ ((KeepsOthers.alloc W2 _).from _) ⟨Below.heap_alloc _ _ _ hr, by simp⟩ (RI.alloc_same j r W2 _ hI) ⟨W2.heap.size, rfl, Full.new W2 86 _⟩
      case body =>
        rintro l j r x a' W2 hTj ⟨gB, rfl, hFg⟩ ⟨v3, hS3, hv3, hM3⟩ hrW hr2
        have hfn : ∀ k, (Fence.wide.inRound l).fn k := fun _ => trivial
        have hjT : j < T.length := (List.getElem?_eq_some_iff.1 hTj).1
        have hxT : x ∈ T := List.mem_of_getElem? hTj
        have hxl := HTIN.out x hxT
        have hstep : lay q num0 L0 (T.take (j + 1)) = if surv q (num0 + j) then put (lay q num0 L0 (T.take j)) x.1 x.2 else lay q num0 L0 (T.take j) := by
          have e : T.take (j + 1) = T.take j ++ [x] := by
            rw [List.take_succ_eq_append_getElem hjT]
            congr 2
            exact (List.getElem?_eq_some_iff.1 hTj).2
          rw [e, lay_snoc, List.length_take, Nat.min_eq_left (Nat.le_of_lt hjT)]
        have hlj : (lay q num0 L0 (T.take j)).length ≤ lim := (lay_len q lim _ num0 L0 (fun y hy => HTIN.out y (List.mem_of_mem_take hy)) hL0).1
        obtain ⟨Lj, hLj⟩ : ∃ Lj, lay q num0 L0 (T.take j) = Lj := ⟨_, rfl⟩
        rw [hLj] at hS3 hstep hlj
        have SV := Lib.hid (survives_any (num0 + j) (RQ.out W2 hS3.bel) hm)
        have e0 : W2.cell? ⟨w.heap.size, 0, none⟩ = some (.slice A m c) := hS3.qb.cell 0
        have e1 : W2.cell? ⟨CB, 0, none⟩ = some v3 := hS3.cb.cell 0
        have e2 : W2.cell? ⟨CB + 1, 0, none⟩ = some (.int .i64 ((num0 + j : Nat) : Int)) := hS3.nb.cell 0
        have e3 : W2.frozen? ⟨CB + 1, 0, none⟩ = false := hS3.nb.frozen 0
        have e4 : W2.cell? ⟨gB, 0, none⟩ = some (.int .i64 (x.1 : Int)) := hFg.cell 0
        have e5 : W2.cell? ⟨gB, 1, none⟩ = some (.string (str x.2)) := hFg.cell 1
        obtain ⟨nj, hnj⟩ : ∃ nj, num0 + j = nj := ⟨_, rfl⟩
        rw [hnj] at SV e2 hstep hS3
        have hnj1 : nj ≤ 100000 * lim + lim := by omega
        have nj0 : (0 : Int) ≤ (nj : Int) := Int.natCast_nonneg _
        have nj1 : (nj : Int) ≤ 2000000000000 := by unfold lim at hnj1; omega
        have HNJ := Lib.hid hnj
        have HS3 := Lib.hid hS3
        have HM3 := Lib.hid hM3
        cases hsv : surv q nj with
        | false =>
          rw [hsv] at SV hstep
          have HST := Lib.hid hstep
          clear hstep hLj hnj hS3 hM3 hFg hTj hsv hown
          gi_wp2_with (first
            | (gi_at_call 43; refine (((callsIn_wide (n := 0)).2 SV.out).inRound l).mono ?_; rintro e W3 ⟨rfl, rfl⟩)
            | (fail "arm"))
          refine ⟨(KeepsOthers.setCell _ _ _).from _, ⟨Below.heap_setCell _ _ _ _ (by show r ≠ CB + 1; omega), by simp [World.setCell]⟩, v3, ?_, hv3, HM3.out.keep fun D hD => Below.heap_setCell _ _ _ _ (by have h1 := HDS.out D hD; show D ≠ CB + 1; rintro rfl; have h2 := (HM3.out _ hD).2; rw [HS3.out.nb] at h2; cases h2)⟩
          rw [HST.out]
          have := HS3.out.num_ (by omega) (by omega)
          rw [← HNJ.out] at this ⊢
          exact this
        | true =>
          rw [hsv] at SV hstep
          have HST := Lib.hid hstep
          have ON := Lib.hid (onto_any (w := W2) (v := v3) (l := Lj) (off := x.1) (s := str x.2) (owns_base HS3.out.own (fun g e => Nat.zero_le _)) (by rw [str_size]; exact hxl) hlj)
          unfold OntoOut at ON
          clear hstep hLj hnj hS3 hM3 hFg hTj hsv hown
          gi_wp2_with (first
            | (gi_at_call 43; refine (((callsIn_wide (n := 0)).2 SV.out).inRound l).mono ?_; rintro e W3 ⟨rfl, rfl⟩)
            | (gi_at_call 44; refine (((callsIn_wide (n := 0)).2 ON.out).inRound l).mono ?_; rintro e W4 ⟨v4, rfl, own4, turn4, at4⟩; (obtain ⟨A4, c4, rfl⟩ := own_form own4); (have C4 := turn4.far HS3.out.cb HS3.out.ne.2.1); (have g1 : W4.cell? ⟨CB, 0, none⟩ = some v3 := C4.cell 0); (have g2 : W4.frozen? ⟨CB, 0, none⟩ = false := C4.frozen 0); (have HS4 := Lib.hid (HS3.out.put ⟨by omega, by omega⟩ (by omega) turn4 own4 at4)); (have g3 : (W4.setCell ⟨CB, 0, none⟩ (.slice A4 (put Lj x.1 (str x.2).data.toList).length c4)).cell? ⟨CB + 1, 0, none⟩ = some (.int .i64 (nj : Int)) := HS4.out.nb.cell 0); (have g4 : (W4.setCell ⟨CB, 0, none⟩ (.slice A4 (put Lj x.1 (str x.2).data.toList).length c4)).frozen? ⟨CB + 1, 0, none⟩ = false := HS4.out.nb.frozen 0))
            | (fail "arm"))
          have hko := ((turn_others turn4 (fun g hg => HS3.out.blocks g (.inr (.inr (.inr hg))))).trans (KeepsOthers.setCell W4 ⟨CB, 0, none⟩ (.slice A4 (put Lj x.1 (str x.2).data.toList).length c4))).trans (KeepsOthers.setCell _ ⟨CB + 1, 0, none⟩ (.int .i64 ((nj : Int) + 1)))
          refine ⟨hko.from _, ⟨(Below.heap_setCell _ _ _ _ (by show r ≠ CB + 1; omega)).trans ((Below.heap_setCell _ _ _ _ (by show r ≠ CB; omega)).trans (turn4.block r hrW hv3)), by have := turn4.size; simpa [World.setCell] using this⟩, .slice A4 (put Lj x.1 (str x.2).data.toList).length c4, ?_, ?_, HM3.out.others hko⟩
          · rw [HST.out]
            have := HS4.out.num_ (by omega) (by omega)
            rw [← HNJ.out] at this ⊢
            exact this
          · rcases at4 with e | ⟨g, e, hl⟩
            · rw [e]; exact hv3
            · rw [e]; intro e'; injection e' with e'; omega
      case done =>
        rintro D r W2 hD ⟨v5, hS5, hv5, hM5⟩ hK
        rw [List.take_length] at hS5
        have HFIN := Lib.hid (show CrS w W2 w.heap.size CB (CB + 1) (.slice A m c) v5 (lay q 0 d.syn (allParts (d.ps.take (k + 1)))) (allParts (d.ps.take (k + 1))).length from by
          rw [HALL.out, lay_app, List.length_append, Nat.zero_add, HL0.out, HNUM.out, HT.out]
          exact hS5)
        have HMK := Lib.hid (show Marks w.heap.size (D :: Ds) W2 from fun D' hD' => by
          rcases List.mem_cons.1 hD' with rfl | hD'
          · exact ⟨by omega, hK⟩
          · exact hM5 D' hD')
        have HND := Lib.hid (show (D :: Ds).Nodup from List.nodup_cons.2 ⟨fun hm => by have := HDS.out D hm; omega, HN.out⟩)
        have HCC := Lib.hid (show CB + 1 < W2.heap.size from hS5.nb.lt)
        have hko1 : IntKind.i64.wrap ((k : Int) + 1) = (k : Int) + 1 := by simp [IntKind.wrap, IntKind.bits, IntKind.signed]; have := H.out.good.few; omega
        clear hS5 hM5 hown hv5 hK
        dsimp only [Exit.inBlock, Exit.then]
        go_wp2
        refine ⟨⟨k + 1, D :: Ds, v5, _, _, _, _, _, _, _, _, _, _, _, _, _, _, _, _, _, _, _, _, _, _, _, _, rfl, by omega, HFIN, HMK, HND, HCC⟩, ?_⟩
        simp [intOf]
        omega
    · obtain rfl : k = mm := by omega
      have hS := HS.out
      rw [← HMM.out, List.take_length] at hS
      have HL := Lib.hid (show CrS w W w.heap.size CB (CB + 1) (.slice A m c) v (d.left q) (allParts d.ps).length from hS)
      have hll := Dk.left_len H.out.good q
      have CPL := Lib.hid (show Calls Try.prog 41 #[v] W.drew (BytesOut W.drew (d.left q)) from copy_any (w := W.drew) HL.out.own hll.1)
      unfold BytesOut at CPL
      obtain ⟨A6, c6, rfl⟩ := own_form HL.out.own
      have g1 : W.cell? ⟨CB, 0, none⟩ = some (.slice A6 (d.left q).length c6) := HL.out.cb.cell 0
      clear hS hll
      go_upto_region 14 with fail
      have g1d : W.drew.cell? ⟨CB, 0, none⟩ = some (.slice A6 (d.left q).length c6) := g1
      go_region_held3 (fun w' => w'.cell? ⟨CB, 0, none⟩ = some (.slice A6 (d.left q).length c6))
        (first | (with_reducible exact g1d) | (with_reducible exact x1) | (with_reducible exact x2) | (fail "keep"))
        (first
          | (go_at_call 41; ((with_reducible refine CPL.out.mono ?_); rintro e W5 ⟨v5, rfl, own5, hb5⟩; (obtain ⟨A7, c7, rfl⟩ := own_form own5); (have X1 := HL.out.cb.below (B := W.heap.size) ⟨hb5.os, hb5.tape, hb5.output, hb5.size, hb5.block⟩ HL.out.cb.lt); (have x1 : W5.cell? ⟨CB, 0, none⟩ = some (.slice A6 (d.left q).length c6) := X1.cell 0); (have x2 : (W5.alloc (.cells #[.slice A6 (d.left q).length c6, .slice A7 (d.left q).length c7, .slice none 0 0, .int .i64 0, .int .i64 0, .int .i64 0] 71)).cell? ⟨CB, 0, none⟩ = some (.slice A6 (d.left q).length c6) := (X1.alloc _).cell 0)))
          | (fail "arm"))
      all_goals
        obtain ⟨W6, hW6⟩ : ∃ W6, W5.alloc (.cells #[.slice A6 (d.left q).length c6, .slice A7 (d.left q).length c7, .slice none 0 0, .int .i64 0, .int .i64 0, .int .i64 0] 71) = W6 := ⟨_, rfl⟩
        have hb56 : Below W5.heap.size W5 W6 := by rw [← hW6]; exact (Below.refl _ W5).alloc (Nat.le_refl _) _
        have hbW5 : Below W.heap.size W W5 := ⟨hb5.os, hb5.tape, hb5.output, hb5.size, hb5.block⟩
        have hbW6 : Below W.heap.size W W6 := Below.then_ hbW5 hb56
        have hS6 := HL.out.keep (W' := W6) (fun g hg => hbW6.block g (by
          obtain ⟨o', ho', _⟩ := HL.out.blocks g hg
          exact (Array.getElem?_eq_some_iff.1 ho').1)) (Below.then_ HL.out.bel hbW6)
        have hFp : Full W6 W5.heap.size 71 [.slice A6 (d.left q).length c6, .slice A7 (d.left q).length c7, .slice none 0 0, .int .i64 0, .int .i64 0, .int .i64 0] := by rw [← hW6]; exact Full.new W5 71 _
        have own6 := own_keep own5 hb56
        have hM6 : Marks w.heap.size Ds W6 := HM.out.keep fun D hD => hbW6.block D (HM.out.lt D hD)
        have hwW := HL.out.bel.size
        have hW5s := hbW5.size
        have ge7 : ∀ g, (Value.slice A7 (d.left q).length c7).ownBlock = some g → W.heap.size ≤ g := fun g hg => row_ge own6 g hg
        have hD6 : IsD w.heap.size W6 W5.heap.size (d.crash q) (fun g => g = W5.heap.size ∨ (Value.slice A6 (d.left q).length c6).ownBlock = some g ∨ (Value.slice A7 (d.left q).length c7).ownBlock = some g) :=
          ⟨_, _, _, 0, {
            full := hFp
            lok := trivial
            now := owns_base hS6.own (fun g _ => Nat.zero_le _)
            syn := owns_base own6 (fun g _ => Nat.zero_le _)
            ps := World.ownsRow_nil _ _ _ _
            apart := fun g hg hg2 => by have := owns_lt HL.out.own g hg; have := ge7 g hg2; omega
            self := .inl rfl
            row := fun g hg => by
              rcases hg with hg | hg | hg
              · exact .inr (.inl hg)
              · exact .inr (.inr hg)
              · simp [Value.ownBlock] at hg
            good := Dk.crash_good H.out.good q
            in_ := by
              rintro g (rfl | hg | hg)
              · exact ⟨by omega, hFp.lt⟩
              · exact ⟨row_ge hS6.own g hg, owns_lt hS6.own g hg⟩
              · exact ⟨by have := ge7 g hg; omega, owns_lt own6 g hg⟩ }⟩
        have hcells : ∀ g, (g = W5.heap.size ∨ (Value.slice A6 (d.left q).length c6).ownBlock = some g ∨ (Value.slice A7 (d.left q).length c7).ownBlock = some g) → ∃ o, W6.heap[g]? = some o ∧ o.isCells = true := by
          rintro g (rfl | hg | hg)
          · exact ⟨_, hFp, rfl⟩
          · exact hS6.blocks g (.inr (.inr (.inr hg)))
          · rcases own6.2 with ⟨e, _⟩ | ⟨g', cap, cur, e, _, hh, _⟩
            · rw [e] at hg; simp [Value.ownBlock] at hg
            · rw [e] at hg
              obtain rfl : g' = g := by simpa [Value.ownBlock] using hg
              exact ⟨_, hh, rfl⟩
        have FIN := Lib.hid (fun (W' : World) (hS : Shut w.heap.size W6 W') => (show ∃ p' F', Ending.returned (.pointer (some ⟨W5.heap.size, 0, none⟩)) = .returned (.pointer (some ⟨p', 0, none⟩)) ∧ IsD w.heap.size W' p' (d.crash q) F' ∧ Below w.heap.size w W' from
          ⟨_, _, rfl, hD6.keep (fun g hg => by
            obtain ⟨o', ho', hc'⟩ := hcells g hg
            exact (hS.cells g o' ho' hc').trans ho'.symm) (by rw [hS.size]; exact Nat.le_refl _), hS.below hS6.bel⟩))
        have HM6 := Lib.hid hM6
        rw [hW6]
        clear hW6 hb56 hbW5 hbW6 hS6 hFp own6 hM6 ge7 hD6 hcells x1 x2 X1 own5 hb5 g1 g1d
        go_wp2
        refine leaves_marks w.heap.size Ds W6 HN.out HM6.out fun W' hS => ?_
        exact ⟨.pointer (some ⟨W5.heap.size, 0, none⟩), by simp [results, Try.results18, go_sem], FIN.out W' hS⟩
end Go.Proofs.Ythhpnlobhffimaa
