/- The reference's Add: the walk. -/
import Derived.Test.YtiikbekboapphaaRefMid
namespace Go.Proofs.Ytiikbekboapphaa
set_option maxRecDepth 100000
open Go.RowKit
set_option maxHeartbeats 16000000 in
theorem refAdd_any {B : Nat} {w : World} {q : Nat} {cs : List Cm} {F : Nat → Prop} (hh : IsR B w q cs F) (hs : cs.length ≤ 1000) {B1 m1 d1 m2 d2 : Nat} {A1 A2 : Option Addr} {ps ch : List Int} {t : Int} {au : ByteArray} {em : Bool}
    (r1 : Row w B1 1 A1 m1 d1 (intC ps)) (r2 : Row w B1 1 A2 m2 d2 (intC ch)) (hB1 : B1 ≤ w.heap.size) (hm1 : m1 ≤ 1099511627776) (hm2 : m2 ≤ 1099511627776) :
    Calls Try.prog 17 #[.pointer (some ⟨q, 0, none⟩), .agg #[.slice A1 m1 d1, .int .i64 t, .string au, .slice A2 m2 d2, .bool em]] w (RAddOut B w q cs F ⟨ps, t, au, ch, em⟩) := by
  unfold RAddOut
  dsimp only
  have e1 : ps.length = m1 := len_of r1
  have e2 : ch.length = m2 := len_of r2
  have HPL := Lib.hid e1
  have hb1 : Below w.heap.size w (w.alloc (.cells #[.slice A1 m1 d1, .int .i64 t, .string au, .slice A2 m2 d2, .bool em] 25)) := (Below.refl _ w).alloc (Nat.le_refl _) _
  have K1 : Full (w.alloc (.cells #[.slice A1 m1 d1, .int .i64 t, .string au, .slice A2 m2 d2, .bool em] 25)) w.heap.size 25 [.slice A1 m1 d1, .int .i64 t, .string au, .slice A2 m2 d2, .bool em] := Full.new w 25 [.slice A1 m1 d1, .int .i64 t, .string au, .slice A2 m2 d2, .bool em]
  have k0 : (w.alloc (.cells #[.slice A1 m1 d1, .int .i64 t, .string au, .slice A2 m2 d2, .bool em] 25)).cell? ⟨w.heap.size, 0, none⟩ = some (.slice A1 m1 d1) := K1.cell 0
  have HB1 := Lib.hid hb1
  have HK1 := Lib.hid K1
  obtain ⟨r, hr⟩ : ∃ r, canBe cs.length ps = r := ⟨_, rfl⟩
  have HR := Lib.hid hr
  rw [hr]
  by_cases hm0 : m1 = 0 ∨ 2 < m1
  · have hrf : r = false := hr.symm.trans (canBe_zero (by omega))
    subst hrf
    clear hr e1 e2 r1 r2 hb1 K1 hh
    rcases hm0 with h0 | h0
    · subst h0
      go_enter Try.func17, Try.ntmps17
      go_wp2
      refine bodyPost_ret (v := .tuple #[.int .i64 0, .int .i64 1]) (by simp [results, Try.results17, go_sem]) rfl ?_
      exact .inr ⟨by first | rfl | trivial, rfl, HB1.out⟩
    · have i0 : (1 : Int) ≤ (m1 : Int) := by omega
      have i1 : (2 : Int) < (m1 : Int) := by omega
      go_enter Try.func17, Try.ntmps17
      go_wp2
      refine bodyPost_ret (v := .tuple #[.int .i64 0, .int .i64 1]) (by simp [results, Try.results17, go_sem]) rfl ?_
      exact .inr ⟨by first | rfl | trivial, rfl, HB1.out⟩
  · have i0 : (1 : Int) ≤ (m1 : Int) := by omega
    have i1 : (m1 : Int) ≤ (2 : Int) := by omega
    have hm12 : m1 = 1 ∨ m1 = 2 := by omega
    clear hm0
    obtain ⟨N, hN⟩ : ∃ N, cs.length = N := ⟨_, rfl⟩
    have HCN := Lib.hid hN
    have HGO := Lib.hid hh.good
    have HHAS := Lib.hid (fun (W : World) (hb : Below w.heap.size w W) (a : Int) => refHas_any (hh.on hb) a)
    have CELLS := Lib.hid (fun (W : World) (hb : Below w.heap.size w W) => (hh.on hb).set_cells)
    have LEN := Lib.hid (fun (W : World) (hb : Below w.heap.size w W) => (hh.on hb).len_cell)
    rw [hN] at HHAS CELLS LEN hs
    have R1 := Lib.hid (fun (W : World) (hb : Below w.heap.size w W) => Row.below r1 hb hB1)
    have hmk : ∀ W, (Instr.makeSlice 64 (.int .i64 ((N : Int) + 1)) (.int .i64 ((N : Int) + 1))).run Try.prog W = .ok (.slice (some ⟨W.heap.size, 0, none⟩) (N + 1) (N + 1)) (W.alloc (.cells (List.replicate (N + 1) (.bool false)).toArray 4)) := made_one 64 4 (.bool false) 1 Try.underlying64 info4 rfl (N + 1) (by omega) (by omega)
    obtain ⟨LA, lc, l0⟩ := LEN.out _ hb1
    -- the new set
    have hb2 : Below w.heap.size w ((w.alloc (.cells #[.slice A1 m1 d1, .int .i64 t, .string au, .slice A2 m2 d2, .bool em] 25)).alloc (.cells (Array.replicate (N + 1) (Value.bool false)) 4)) := hb1.alloc (by simp) _
    obtain ⟨LA2, lc2, l2⟩ := LEN.out _ hb2
    have HR2 := Lib.hid (show RS w ((w.alloc (.cells #[.slice A1 m1 d1, .int .i64 t, .string au, .slice A2 m2 d2, .bool em] 25)).alloc (.cells (Array.replicate (N + 1) (Value.bool false)) 4)) N [.slice A1 m1 d1, .int .i64 t, .string au, .slice A2 m2 d2, .bool em] (List.replicate (N + 1) false) from by
      have f := Full.new (w.alloc (.cells #[.slice A1 m1 d1, .int .i64 t, .string au, .slice A2 m2 d2, .bool em] 25)) 4 (List.replicate (N + 1) (Value.bool false))
      rw [show (List.replicate (N + 1) (Value.bool false)).toArray = Array.replicate (N + 1) (Value.bool false) by simp] at f
      rw [World.size_alloc] at f
      refine ⟨hb2, ?_, K1.alloc _⟩
      have := own_full (n := N + 1) (size := 1) (base := w.heap.size) f (by simp) (by unfold maxLen; omega) (by omega)
      simpa [boolC] using this)
    have g1 : ((w.alloc (.cells #[.slice A1 m1 d1, .int .i64 t, .string au, .slice A2 m2 d2, .bool em] 25)).alloc (.cells (Array.replicate (N + 1) (Value.bool false)) 4)).cell? ⟨w.heap.size + 1, N, none⟩ = some (.bool false) := (own_cell HR2.out.row (by omega)).1.trans (by rw [boolC_at _ _ (by simp)]; simp)
    have g2 : ((w.alloc (.cells #[.slice A1 m1 d1, .int .i64 t, .string au, .slice A2 m2 d2, .bool em] 25)).alloc (.cells (Array.replicate (N + 1) (Value.bool false)) 4)).frozen? ⟨w.heap.size + 1, N, none⟩ = false := (own_cell HR2.out.row (by omega)).2
    have HRS0 := Lib.hid (show RS w ((w.alloc (.cells #[.slice A1 m1 d1, .int .i64 t, .string au, .slice A2 m2 d2, .bool em] 25)).alloc (.cells ((Array.replicate (N + 1) (Value.bool false)).setIfInBounds N (.bool true)) 4)) N [.slice A1 m1 d1, .int .i64 t, .string au, .slice A2 m2 d2, .bool em] (setK cs ps 0) from by
      have f := Full.new (w.alloc (.cells #[.slice A1 m1 d1, .int .i64 t, .string au, .slice A2 m2 d2, .bool em] 25)) 4 ((List.replicate (N + 1) (Value.bool false)).set N (.bool true))
      rw [show ((List.replicate (N + 1) (Value.bool false)).set N (.bool true)).toArray = (Array.replicate (N + 1) (Value.bool false)).setIfInBounds N (.bool true) from Array.toList_inj.1 (by simp)] at f
      rw [World.size_alloc] at f
      refine ⟨hb1.alloc (by simp) _, ?_, K1.alloc _⟩
      have := own_full (n := N + 1) (size := 1) (base := w.heap.size) f (by simp) (by unfold maxLen; omega) (by omega)
      rw [setK_zero, hN, boolC_set]
      simpa [boolC] using this)
    have n0 : (0 : Int) ≤ (N : Int) := Int.natCast_nonneg _
    have n1 : (N : Int) < (N : Int) + 1 := by omega
    obtain ⟨v, s, In, h⟩ := hh
    obtain ⟨vs, hvl, hown, hints⟩ := h.obs
    obtain ⟨ss, hsl, hss, hbits⟩ := h.sets
    obtain ⟨A0, c0', rfl⟩ := own_form hown
    obtain ⟨S0, d0, rfl⟩ := own_form hss
    have hqB := h.in_ q h.self
    have hqne : ∀ g, (Value.slice A0 cs.length c0').ownBlock = some g → g < w.heap.size ∧ g ≠ q := fun g e => ⟨(h.in_ g (h.row g (.inl e)).1).2, (h.row g (.inl e)).2⟩
    rw [hN] at hqne
    have HX := Lib.hid (fun (wx : World) (hb : Below w.heap.size w wx) => (show RefH B wx q cs F (.slice A0 N c0') (.slice S0 N d0) In from hN ▸ h.keep (fun g hg => hb.block g (h.in_ g hg).2) hb.size))
    have HOX := Lib.hid (fun (wx : World) (hb : Below w.heap.size w wx) => (show wx.ownsRow 0 25 5 (.slice A0 N c0') N (cmsC cs vs) from hN ▸ own_keep hown hb))
    have HSX := Lib.hid (fun (wx : World) (hb : Below w.heap.size w wx) => (show wx.ownsRow 0 64 1 (.slice S0 N d0) N ss from hN ▸ own_keep hss hb))
    have HIX := Lib.hid (fun (wx : World) (hb : Below w.heap.size w wx) => (show (∀ (i : Nat) (c : Cm) (u : Value × Value), cs[i]? = some c → vs[i]? = some u → IntsF wx In u.1 c.ps ∧ IntsF wx In u.2 c.ch) ∧ (∀ (i : Nat) (u : Value), ss[i]? = some u → BoolsF wx In u (setL cs (i + 1))) from
      ⟨fun i c u hc hu => ⟨(hints i c u hc hu).1.keep fun g hg => ⟨hg, hb.block g (h.in_ g (h.inn g hg).1).2⟩, (hints i c u hc hu).2.keep fun g hg => ⟨hg, hb.block g (h.in_ g (h.inn g hg).1).2⟩⟩, fun i u hu => (hbits i u hu).keep fun g hg => ⟨hg, hb.block g (h.in_ g (h.inn g hg).1).2⟩⟩))
    have HFW := Lib.hid (fun g hg => (h.in_ g hg).2)
    have HVL := Lib.hid hvl
    have HSL := Lib.hid hsl
    have HE1 := Lib.hid e1
    have HE2 := Lib.hid e2
    have OW := Lib.hid (fun (W : World) (hW : Below w.heap.size w W) => own_any (t := t) (au := au) (em := em) (Row.below r1 hW hB1) (Row.below r2 hW hB1) (Nat.le_trans hB1 hW.size) hm1 hm2)
    unfold CopyOut at OW
    rw [e1, e2] at OW
    obtain ⟨i25, hi25, hz0, hz1, hz2⟩ := info_parts info25
    obtain ⟨i64, hi64, hy0, hy1, hy2⟩ := info_parts info64
    clear h hown hints hvl hss hbits hsl
    clear hr r1 r2 hb1 K1 hb2 hN e1 e2
    go_enter Try.func17, Try.ntmps17
    go_wp2_with fail
    go_loopw [8] (fun v8 wr => ∃ k : Nat, v8 = .int .i64 (k : Int) ∧ k ≤ m1 ∧ Hid (RS w wr N [.slice A1 m1 d1, .int .i64 t, .string au, .slice A2 m2 d2, .bool em] (setK cs ps k)) ∧ Hid (∀ j, j < k → inR N (ps.getD j 0) = true ∧ (0 < j → ps.getD j 0 ≠ ps.getD 0 0))) (fun v8 _ => m1 - (intOf v8).toNat)
    case atStart => exact ⟨0, rfl, by omega, HRS0, Lib.hid fun j hj => by omega⟩
    case round =>
      obtain ⟨k, rfl, hk, H, HIN⟩ := hrel
      have kk0 : (0 : Int) ≤ (k : Int) := Int.natCast_nonneg _
      have c0 : wr.cell? ⟨w.heap.size, 0, none⟩ = some (.slice A1 m1 d1) := H.out.box.cell 0
      by_cases hkm : k < m1
      · have kk1 : (k : Int) < (m1 : Int) := by omega
        obtain ⟨ad1, hA1, _, c1⟩ := (R1.out wr H.out.below).2.2.2 k _ (intC_at ps k (by have := HPL.out; omega))
        rw [hA1] at c0
        have HA1 := Lib.hid hA1
        clear hA1
        obtain ⟨x, hx⟩ : ∃ x, ps.getD k 0 = x := ⟨_, rfl⟩
        rw [hx] at c1
        have HPX := Lib.hid hx
        have HH := Lib.hid (HHAS.out wr H.out.below x)
        cases hin : inR N x with
        | false =>
          rw [hin] at HH
          have hrf : r = false := HR.out.symm.trans (canBe_not (k := k) (by have := HPL.out; omega) (by rw [hx, HCN.out]; exact hin))
          subst hrf
          clear hx hin
          go_wp2_with (go_at_call 39; ((with_reducible refine HH.out.mono ?_); rintro e v1 ⟨rfl, rfl⟩))
          refine bodyPost_ret (v := .tuple #[.int .i64 0, .int .i64 1]) (by simp [results, Try.results17, go_sem]) rfl ?_
          first | exact .inr ⟨by first | rfl | trivial, rfl, H.out.below⟩ | exact ⟨rfl, H.out.below⟩
        | true =>
          rw [hin] at HH
          have hin' := inR_iff.1 hin
          obtain ⟨p, rfl⟩ : ∃ p : Nat, x = p := ⟨x.toNat, by omega⟩
          have HPK := Lib.hid hx
          have hp1 : 1 ≤ p := by omega
          have hpN : p ≤ N := by omega
          by_cases hk0 : k = 0
          · subst hk0
            have HNX := Lib.hid (show ∀ j, j < 0 + 1 → inR N (ps.getD j 0) = true ∧ (0 < j → ps.getD j 0 ≠ ps.getD 0 0) from fun j hj => by
              obtain rfl : j = 0 := by omega
              exact ⟨by rw [hx]; exact hin, fun h => by omega⟩)
            have c1' : wr.cell? ad1 = some (.int .i64 (p : Int)) := c1
            clear hx hin hin'
            go_wp2_with (first
              | (go_at_call 39; ((with_reducible refine HH.out.mono ?_); rintro e v1 ⟨rfl, rfl⟩))
              | (fail "arm"))
            go_loopw [11] (fun v11 wr => ∃ (j : Nat), v11 = .int .i64 (j : Int) ∧ j ≤ p ∧ Hid (RS w wr N [.slice A1 m1 d1, .int .i64 t, .string au, .slice A2 m2 d2, .bool em] (midK cs ps 0 j))) (fun v11 _ => p - (intOf v11).toNat)
            case atStart => exact ⟨0, rfl, by omega, Lib.hid (by rw [midK_zero]; exact H.out)⟩
            case round =>
              obtain ⟨j, rfl, hj, J⟩ := hrel
              obtain ⟨sg, sc, q1, hset⟩ := CELLS.out wr J.out.below
              obtain ⟨SA, sd, q2, hbits⟩ := hset p (by omega) (by omega)
              have j0 : (0 : Int) ≤ (j : Int) := Int.natCast_nonneg _
              have p0 : (0 : Int) ≤ (p : Int) - 1 := by omega
              have p1 : (p : Int) - 1 < (N : Int) := by omega
              by_cases hjp : j < p
              · have j1 : (j : Int) < (p : Int) := by omega
                have j2 : (j : Int) < (N : Int) + 1 := by omega
                obtain ⟨ad, rfl, _, q3⟩ := hbits j hjp
                have hml := midK_len cs ps 0 j
                have hcN := HCN.out
                have f1 : wr.cell? ⟨w.heap.size + 1, j, none⟩ = some (.bool ((midK cs ps 0 j).getD j false)) := (own_cell J.out.row (by omega)).1.trans (boolC_at _ j (by omega))
                have f2 : wr.frozen? ⟨w.heap.size + 1, j, none⟩ = false := (own_cell J.out.row (by omega)).2
                have ST := Lib.hid (midK_step (cs := cs) (ps := ps) (k := 0) (j := j) (by omega) (by have := HPL.out; omega))
                rw [HPK.out, Int.toNat_natCast] at ST
                obtain ⟨x1, hx1⟩ : ∃ x1, (midK cs ps 0 j).getD j false = x1 := ⟨_, rfl⟩
                obtain ⟨x2, hx2⟩ : ∃ x2, rch (leads cs) p (j + 1) = x2 := ⟨_, rfl⟩
                rw [hx1] at f1 ST
                rw [hx2] at q3 ST
                clear hset hbits hx1 hx2 hml hcN
                cases x1 with
                | true =>
                  go_wp2_with fail
                  go_roundw
                  case rel => exact ⟨j + 1, by go_num, by omega, Lib.hid (by rw [ST.out, Bool.true_or]; exact J.out.set_ j true)⟩
                  case measure => first | (simp [intOf]; done) | (simp [intOf]; omega)
                | false =>
                  go_wp2_with fail
                  go_roundw
                  case rel => exact ⟨j + 1, by go_num, by omega, Lib.hid (by rw [ST.out, Bool.false_or]; exact J.out.set_ j x2)⟩
                  case measure => first | (simp [intOf]; done) | (simp [intOf]; omega)
              · obtain rfl : j = p := by omega
                clear hset hbits
                have HE := Lib.hid (show RS w wr N [.slice A1 m1 d1, .int .i64 t, .string au, .slice A2 m2 d2, .bool em] (setK cs ps (0 + 1)) from by
                  have := J.out
                  rwa [midK_end HGO.out (by have := HPL.out; omega) HPK.out] at this)
                go_wp2_with fail
                go_roundw
                case rel => exact ⟨0 + 1, by go_num, by omega, HE, HNX⟩
                case measure => first | (simp [intOf]; done) | (simp [intOf]; omega)
          · obtain rfl : k = 1 := by omega
            obtain ⟨ad2, e3, _, c2⟩ := (R1.out wr H.out.below).2.2.2 0 _ (intC_at ps 0 (by have := HPL.out; omega))
            obtain rfl : ad1 = ad2 := by have h := HA1.out.symm.trans e3; injection h
            obtain ⟨y, hy⟩ : ∃ y, ps.getD 0 0 = y := ⟨_, rfl⟩
            rw [hy] at c2
            have c2' : wr.cell? ad1 = some (.int .i64 y) := c2
            have c1' : wr.cell? ⟨ad1.block, ad1.off + 1, none⟩ = some (.int .i64 (p : Int)) := c1
            by_cases hpy : (p : Int) = y
            · have hrf : r = false := by
                have h2 : m1 = 2 := by omega
                have := canBe_two (N := cs.length) (ids := ps) (by rw [HPL.out, h2]) (fun j hj => by
                  rw [HCN.out]
                  rcases (show j = 0 ∨ j = 1 by omega) with rfl | rfl
                  · exact (HIN.out 0 (by omega)).1
                  · rw [hx]; exact hin)
                rw [hx, hy, hpy] at this
                exact HR.out.symm.trans (this.trans (by simp))
              subst hrf
              have hqq : ((p : Int) == y) = true := by simp [hpy]
              clear hx hin hin' hy e3 hpy
              go_wp2_with (go_at_call 39; ((with_reducible refine HH.out.mono ?_); rintro e v1 ⟨rfl, rfl⟩))
              refine bodyPost_ret (v := .tuple #[.int .i64 0, .int .i64 1]) (by simp [results, Try.results17, go_sem]) rfl ?_
              first | exact .inr ⟨by first | rfl | trivial, rfl, H.out.below⟩ | exact ⟨rfl, H.out.below⟩
            · have HNX := Lib.hid (show ∀ j, j < 1 + 1 → inR N (ps.getD j 0) = true ∧ (0 < j → ps.getD j 0 ≠ ps.getD 0 0) from fun j hj => by
                rcases (show j = 0 ∨ j = 1 by omega) with rfl | rfl
                · exact ⟨(HIN.out 0 (by omega)).1, fun h => by omega⟩
                · exact ⟨by rw [hx]; exact hin, fun _ => by rw [hx, hy]; exact hpy⟩)
              have hqq : ((p : Int) == y) = false := by simpa using hpy
              clear hx hin hin' hy e3 hpy
              go_wp2_with (first
                | (go_at_call 39; ((with_reducible refine HH.out.mono ?_); rintro e v1 ⟨rfl, rfl⟩))
                | (fail "arm"))
              go_loopw [11] (fun v11 wr => ∃ (j : Nat), v11 = .int .i64 (j : Int) ∧ j ≤ p ∧ Hid (RS w wr N [.slice A1 m1 d1, .int .i64 t, .string au, .slice A2 m2 d2, .bool em] (midK cs ps 1 j))) (fun v11 _ => p - (intOf v11).toNat)
              case atStart => exact ⟨0, rfl, by omega, Lib.hid (by rw [midK_zero]; exact H.out)⟩
              case round =>
                obtain ⟨j, rfl, hj, J⟩ := hrel
                obtain ⟨sg, sc, q1, hset⟩ := CELLS.out wr J.out.below
                obtain ⟨SA, sd, q2, hbits⟩ := hset p (by omega) (by omega)
                have j0 : (0 : Int) ≤ (j : Int) := Int.natCast_nonneg _
                have p0 : (0 : Int) ≤ (p : Int) - 1 := by omega
                have p1 : (p : Int) - 1 < (N : Int) := by omega
                by_cases hjp : j < p
                · have j1 : (j : Int) < (p : Int) := by omega
                  have j2 : (j : Int) < (N : Int) + 1 := by omega
                  obtain ⟨ad, rfl, _, q3⟩ := hbits j hjp
                  have hml := midK_len cs ps 1 j
                  have hcN := HCN.out
                  have f1 : wr.cell? ⟨w.heap.size + 1, j, none⟩ = some (.bool ((midK cs ps 1 j).getD j false)) := (own_cell J.out.row (by omega)).1.trans (boolC_at _ j (by omega))
                  have f2 : wr.frozen? ⟨w.heap.size + 1, j, none⟩ = false := (own_cell J.out.row (by omega)).2
                  have ST := Lib.hid (midK_step (cs := cs) (ps := ps) (k := 1) (j := j) (by omega) (by have := HPL.out; omega))
                  rw [HPK.out, Int.toNat_natCast] at ST
                  obtain ⟨x1, hx1⟩ : ∃ x1, (midK cs ps 1 j).getD j false = x1 := ⟨_, rfl⟩
                  obtain ⟨x2, hx2⟩ : ∃ x2, rch (leads cs) p (j + 1) = x2 := ⟨_, rfl⟩
                  rw [hx1] at f1 ST
                  rw [hx2] at q3 ST
                  clear hset hbits hx1 hx2 hml hcN
                  cases x1 with
                  | true =>
                    go_wp2_with fail
                    go_roundw
                    case rel => exact ⟨j + 1, by go_num, by omega, Lib.hid (by rw [ST.out, Bool.true_or]; exact J.out.set_ j true)⟩
                    case measure => first | (simp [intOf]; done) | (simp [intOf]; omega)
                  | false =>
                    go_wp2_with fail
                    go_roundw
                    case rel => exact ⟨j + 1, by go_num, by omega, Lib.hid (by rw [ST.out, Bool.false_or]; exact J.out.set_ j x2)⟩
                    case measure => first | (simp [intOf]; done) | (simp [intOf]; omega)
                · obtain rfl : j = p := by omega
                  clear hset hbits
                  have HE := Lib.hid (show RS w wr N [.slice A1 m1 d1, .int .i64 t, .string au, .slice A2 m2 d2, .bool em] (setK cs ps (1 + 1)) from by
                    have := J.out
                    rwa [midK_end HGO.out (by have := HPL.out; omega) HPK.out] at this)
                  go_wp2_with fail
                  go_roundw
                  case rel => exact ⟨1 + 1, by go_num, by omega, HE, HNX⟩
                  case measure => first | (simp [intOf]; done) | (simp [intOf]; omega)
      · obtain rfl : k = m1 := by omega
        have hct : canBe cs.length ps = true := by
          rcases hm12 with h1 | h1
          · exact canBe_one (by rw [HPL.out, h1]) fun j hj => by rw [HCN.out]; exact (HIN.out j (by omega)).1
          · have h2 := canBe_two (N := cs.length) (ids := ps) (by rw [HPL.out, h1]) fun j hj => by rw [HCN.out]; exact (HIN.out j (by omega)).1
            have h3 := (HIN.out 1 (by omega)).2 (by omega)
            rw [h2]
            simpa using fun e => h3 (e.symm)
        have hrt : r = true := HR.out.symm.trans hct
        subst hrt
        have HCT := Lib.hid hct
        clear hct
        go_upto_region 17 with fail
        have HFD := Lib.hid ((HX.out wr H.out.below).full)
        have HKD := Lib.hid (H.out.box)
        have HBD := Lib.hid (show Below w.heap.size w wr.drew from H.out.below.drew)
        have s0 : wr.cell? ⟨q, 0, none⟩ = some (.slice A0 N c0') := Full.cell HFD.out 0
        have s1 : wr.cell? ⟨w.heap.size, 0, none⟩ = some (.slice A1 k d1) := Full.cell HKD.out 0
        have s2 : wr.cell? ⟨w.heap.size, 1, none⟩ = some (.int .i64 t) := Full.cell HKD.out 1
        have s3 : wr.cell? ⟨w.heap.size, 2, none⟩ = some (.string au) := Full.cell HKD.out 2
        have s4 : wr.cell? ⟨w.heap.size, 3, none⟩ = some (.slice A2 m2 d2) := Full.cell HKD.out 3
        have s5 : wr.cell? ⟨w.heap.size, 4, none⟩ = some (.bool em) := Full.cell HKD.out 4
        have t0 : wr.drew.cell? ⟨q, 0, none⟩ = some (.slice A0 N c0') := Full.cell HFD.out 0
        have t1 : wr.drew.cell? ⟨w.heap.size, 0, none⟩ = some (.slice A1 k d1) := Full.cell HKD.out 0
        have t2 : wr.drew.cell? ⟨w.heap.size, 1, none⟩ = some (.int .i64 t) := Full.cell HKD.out 1
        have t3 : wr.drew.cell? ⟨w.heap.size, 2, none⟩ = some (.string au) := Full.cell HKD.out 2
        have t4 : wr.drew.cell? ⟨w.heap.size, 3, none⟩ = some (.slice A2 m2 d2) := Full.cell HKD.out 3
        have t5 : wr.drew.cell? ⟨w.heap.size, 4, none⟩ = some (.bool em) := Full.cell HKD.out 4
        have f0 : wr.drew.frozen? ⟨q, 0, none⟩ = false := HFD.out.frozen 0
        go_region_law
          (first
            | (refine step_call_fn rfl 40 _ _ rfl #[.agg #[.slice A1 k d1, .int .i64 t, .string au, .slice A2 m2 d2, .bool em]] (by rfl) (enters_of Try.func40 (by kernel_rfl) rfl) (OW.out _ HBD.out) ?_; rintro e wx ⟨a5, a6, rfl, ho5, ho6, hap5, hbx⟩; refine ⟨_, rfl, ?_⟩; (obtain ⟨A5, c5, rfl⟩ := own_form ho5); (obtain ⟨A6, c6, rfl⟩ := own_form ho6); (have HFX := (show Full wr.drew q 67 _ from HFD.out).on hbx); (have HKX := (show Full wr.drew w.heap.size 25 _ from HKD.out).on hbx); (have x0 : wx.cell? ⟨q, 0, none⟩ = some (.slice A0 N c0') := Full.cell HFX 0); (have x1 : wx.cell? ⟨w.heap.size, 0, none⟩ = some (.slice A1 k d1) := Full.cell HKX 0); (have x2 : wx.cell? ⟨w.heap.size, 1, none⟩ = some (.int .i64 t) := Full.cell HKX 1); (have x3 : wx.cell? ⟨w.heap.size, 2, none⟩ = some (.string au) := Full.cell HKX 2); (have x4 : wx.cell? ⟨w.heap.size, 3, none⟩ = some (.slice A2 m2 d2) := Full.cell HKX 3); (have x5 : wx.cell? ⟨w.heap.size, 4, none⟩ = some (.bool em) := Full.cell HKX 4); (have HFY := HFX.alloc (.cells #[.slice A5 k c5, .int .i64 t, .string au, .slice A6 m2 c6, .bool em] 25)); (have HKY := HKX.alloc (.cells #[.slice A5 k c5, .int .i64 t, .string au, .slice A6 m2 c6, .bool em] 25)); (have y0 : (wx.alloc (.cells #[.slice A5 k c5, .int .i64 t, .string au, .slice A6 m2 c6, .bool em] 25)).cell? ⟨q, 0, none⟩ = some (.slice A0 N c0') := Full.cell HFY 0); (have y1 : (wx.alloc (.cells #[.slice A5 k c5, .int .i64 t, .string au, .slice A6 m2 c6, .bool em] 25)).cell? ⟨w.heap.size, 0, none⟩ = some (.slice A1 k d1) := Full.cell HKY 0); (have y2 : (wx.alloc (.cells #[.slice A5 k c5, .int .i64 t, .string au, .slice A6 m2 c6, .bool em] 25)).cell? ⟨w.heap.size, 1, none⟩ = some (.int .i64 t) := Full.cell HKY 1); (have y3 : (wx.alloc (.cells #[.slice A5 k c5, .int .i64 t, .string au, .slice A6 m2 c6, .bool em] 25)).cell? ⟨w.heap.size, 2, none⟩ = some (.string au) := Full.cell HKY 2); (have y4 : (wx.alloc (.cells #[.slice A5 k c5, .int .i64 t, .string au, .slice A6 m2 c6, .bool em] 25)).cell? ⟨w.heap.size, 3, none⟩ = some (.slice A2 m2 d2) := Full.cell HKY 3); (have y5 : (wx.alloc (.cells #[.slice A5 k c5, .int .i64 t, .string au, .slice A6 m2 c6, .bool em] 25)).cell? ⟨w.heap.size, 4, none⟩ = some (.bool em) := Full.cell HKY 4))
            | (refine step_append_lies _ (by rfl) _ _ _ (by rfl) 0 25 i25 _ 5 80 Try.underlying58 hi25 hz0 hz1 hz2 rfl (by omega) (.slice A0 N c0') N _ (by rfl) ((HOX.out wx (Below.then_ HBD.out hbx)).alloc _) ⟨wx.heap.size, 0, none⟩ 1 1 [.slice A5 k c5, .int .i64 t, .string au, .slice A6 m2 c6, .bool em] (by rfl) (by rfl) (World.news_of_block (cs := #[.slice A5 k c5, .int .i64 t, .string au, .slice A6 m2 c6, .bool em]) (t := 25) (fr := (0, 0)) (heap_alloc_new wx _)) (by simp [Value.oneCell']) (by omega) (by unfold maxLen; omega) (by omega) (by simp) (wx.heap.size + 1) (by simp) ?_; intro gg cap w5 hown5 hgrow5 hat5 hlt5; (have HFZ := HFY.grown hgrow5 (fun e => (hqne _ e.symm).2 rfl)); (have z0 : w5.cell? ⟨q, 0, none⟩ = some (.slice A0 N c0') := Full.cell HFZ 0); (have zf := HFZ.frozen 0))
            | (fail "arm"))
        all_goals
          have hBx := Below.then_ HBD.out hbx
          obtain ⟨n1', n2', n3', n4', n5'⟩ := ref_mid (HX.out wx hBx) (HSX.out wx hBx) hown5 hgrow5 hat5
          obtain ⟨w6, hw6⟩ : ∃ w6, w5.setCell ⟨q, 0, none⟩ (.slice (some ⟨gg, 0, none⟩) (N + 1) cap) = w6 := ⟨_, rfl⟩
          rw [hw6] at n1' n2' n3' n4' ⊢
          clear hw6
          have hat6 : (Value.slice A0 N c0').ownBlock = some gg ∨ wx.heap.size ≤ gg := hat5.imp id fun e => by omega
          have hsetx : wx.ownsRow w.heap.size 4 1 (.slice (some ⟨w.heap.size + 1, 0, none⟩) (N + 1) (N + 1)) (N + 1) (boolC (setK cs ps ps.length)) := by
            have := own_keep (show wr.drew.ownsRow _ _ _ _ _ _ from H.out.row) hbx
            rw [HPL.out]
            exact this
          have h5x := owns_base ho5 (base' := w.heap.size) (fun g e => Nat.le_trans HBD.out.size (row_ge ho5 g e))
          have h6x := owns_base ho6 (base' := w.heap.size) (fun g e => Nat.le_trans HBD.out.size (row_ge ho6 g e))
          have EN := Lib.hid (fun (w7 : World) (g3 c3 : Nat) (ob : Obj) hown7 hgrow7 hat7 => ref_end (w := w) (w7 := w7) (g3 := g3) (c3 := c3) (ob := ob) (c := ⟨ps, t, au, ch, em⟩) (A5 := A5) (A6 := A6) (c5 := c5) (c6 := c6) (sb := w.heap.size + 1) (HX.out wx hBx) HCN.out HCT.out (Nat.le_trans hqB.1 (Nat.le_of_lt hqB.2)) HFW.out hBx HVL.out (HIX.out wx hBx).1 HSL.out (HIX.out wx hBx).2
            (by dsimp only; rw [HE1.out]; exact h5x) (by dsimp only; rw [HE2.out]; exact h6x) hsetx n1' (by dsimp only; rw [HE1.out, HE2.out]; exact n2') n4' hat6 n3' hown7 hgrow7 hat7)
          have u1 : w6.cell? ⟨q, 1, none⟩ = some (.slice S0 N d0) := n1'.cell 1
          have N3 := Lib.hid n3'
          clear n1' n2' n3' n4' n5' hat6 hsetx h5x h6x
          go_wp2_with (first
            | (at_builtin; refine wpList_append_lies _ rfl _ _ 65 rfl 0 64 i64 _ 1 24 Try.underlying65 hi64 hy0 hy1 hy2 rfl (by decide) (.slice S0 N d0) N _ rfl (N3.out.alloc _) ⟨w6.heap.size, 0, none⟩ 1 1 [.slice (some ⟨w.heap.size + 1, 0, none⟩) (N + 1) (N + 1)] rfl rfl (cell_one_new _ _ _) (by simp [Value.oneCell']) (by omega) (by unfold maxLen; omega) (by omega) (by simp) (w6.heap.size + 1) (by simp) ?_; intro g3 c3 w7 hown7 hgrow7 hat7 hlt7; (obtain ⟨⟨z1, z2, z3⟩, F', k1, k2⟩ := EN.out w7 g3 c3 _ hown7 hgrow7 hat7))
            | (fail "arm"))
          refine bodyPost_ret (v := .tuple #[.int .i64 ((N : Int) + 1), .int .i64 0]) (by simp [results, Try.results17, go_sem]) rfl ?_
          first | exact ⟨by rw [HCN.out], F', k1, k2⟩ | exact .inl ⟨by first | rfl | trivial, by rw [HCN.out], F', k1, k2⟩
end Go.Proofs.Ytiikbekboapphaa
