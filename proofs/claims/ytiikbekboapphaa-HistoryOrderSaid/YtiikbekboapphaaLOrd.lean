/- HistoryOrder: being an ancestor is transitive and antisymmetric; the base is the greatest common one. For all arguments. -/
import Derived.Test.YtiikbekboapphaaLawKit
import Derived.BigQuiet
namespace Go.Proofs.Ytiikbekboapphaa.lord
open Go.ChangeShapes Go.WideShapes Go.ChangeAt Go.RowKit

/-- an array of three integers, by value -/
theorem open_three {H : Type} {enc : TypeId × Value → H} {W : World} {b1 b2 : Nat} {sp : Nat → Bool} {held : Bool} {v : Value} {d : DataW H} {p : List MemPlace}
    (hval : Value.okWide Try.prog W .any b1 50 v) (h : DataW.Trod enc Try.prog W b2 sp held 50 v d p) :
    ∃ a b c : Int, v = .agg #[.int .i64 a, .int .i64 b, .int .i64 c] ∧ (Lit.int .i64 a).wf = true ∧ (Lit.int .i64 b).wf = true ∧ (Lit.int .i64 c).wf = true := by
  have hc50 : Try.prog.cellsOf 50 = 3 := by kernel_rfl
  have hc3 : Try.prog.cellsOf 3 = 1 := by kernel_rfl
  simp only [Value.okWide, Try.underlying50] at hval
  obtain ⟨cs, rfl, hsz, _⟩ := hval
  obtain ⟨c0, c1, c2, rfl⟩ : ∃ c0 c1 c2, cs = #[c0, c1, c2] := by
    have h3 := hsz.trans hc50
    match cs, h3 with
    | ⟨[a, b, c]⟩, _ => exact ⟨a, b, c, rfl⟩
  obtain ⟨fuel, hf⟩ := h
  obtain ⟨xs, m, rfl, _, _, hxl, hat⟩ := DataW.trod_array Try.underlying50 hf
  rw [hc3] at hat
  have h0 := hat 0 (by omega)
  have h1 := hat 1 (by omega)
  have h2 := hat 2 (by omega)
  rw [List.getElem?_eq_getElem (by omega)] at h0 h1 h2
  obtain ⟨a, ea, _, wa⟩ := DataW.trod_int (k := .i64) Try.underlying3 h0
  obtain ⟨b, eb, _, wb⟩ := DataW.trod_int (k := .i64) Try.underlying3 h1
  obtain ⟨c, ec, _, wc⟩ := DataW.trod_int (k := .i64) Try.underlying3 h2
  have ea' : c0 = .int .i64 a := by simpa [Value.cells] using ea
  have eb' : c1 = .int .i64 b := by simpa [Value.cells] using eb
  have ec' : c2 = .int .i64 c := by simpa [Value.cells] using ec
  subst ea' eb' ec'
  exact ⟨a, b, c, rfl, wa, wb, wc⟩

theorem anc_in {cs : List Cm} {a b : Int} (h : anc cs a b = true) : inR cs.length a = true ∧ inR cs.length b = true ∧ rch (leads cs) b.toNat a.toNat = true := by
  unfold anc at h
  simp only [Bool.and_eq_true] at h
  exact ⟨h.1.1, h.1.2, h.2⟩
theorem anc_trans {cs : List Cm} (hg : Good cs) {a b c : Int} (h1 : anc cs a b = true) (h2 : anc cs b c = true) : anc cs a c = true := by
  obtain ⟨x1, x2, x3⟩ := anc_in h1
  obtain ⟨y1, y2, y3⟩ := anc_in h2
  unfold anc
  rw [x1, y2, rch_trans (leads_down hg) _ _ _ y3 x3]; rfl
theorem anc_anti {cs : List Cm} (hg : Good cs) {a b : Int} (h1 : anc cs a b = true) (h2 : anc cs b a = true) : a = b := by
  obtain ⟨x1, x2, x3⟩ := anc_in h1
  obtain ⟨y1, y2, y3⟩ := anc_in h2
  have := rch_le (leads_down hg) _ _ x3
  have := rch_le (leads_down hg) _ _ y3
  rw [inR_iff] at x1 x2
  omega
theorem base_is {cs : List Cm} (hg : Good cs) {a b : Int} (h : baseP cs a b ≠ 0) : anc cs (baseP cs a b : Int) a = true ∧ anc cs (baseP cs a b : Int) b = true := by
  have hle := baseP_le cs a b
  unfold baseP at h hle ⊢
  split at h
  · next hin =>
    rw [if_pos hin] at hle ⊢
    simp only [Bool.and_eq_true] at hin
    have ht := top_holds _ _ (Nat.pos_of_ne_zero h)
    unfold both at ht
    rw [Bool.and_eq_true] at ht
    unfold anc
    rw [Int.toNat_natCast, hin.1, hin.2, inR_nat.2 ⟨Nat.pos_of_ne_zero h, hle⟩]
    unfold both
    exact ⟨by rw [ht.1]; rfl, by rw [ht.2]; rfl⟩
  · exact absurd rfl h
theorem base_max {cs : List Cm} (hg : Good cs) {a b c : Int} (h1 : anc cs c a = true) (h2 : anc cs c b = true) : c ≤ (baseP cs a b : Int) := by
  obtain ⟨x1, x2, x3⟩ := anc_in h1
  obtain ⟨y1, y2, y3⟩ := anc_in h2
  unfold baseP
  rw [x2, y2]
  simp only [Bool.and_self, if_true]
  have k1 := rch_le (leads_down hg) _ _ x3
  have k2 := rch_le (leads_down hg) _ _ y3
  have := top_max (both cs a.toNat b.toNat) (min a.toNat b.toNat) c.toNat (by omega) (by unfold both; rw [x3, y3]; rfl)
  rw [inR_iff] at x1
  omega

set_option maxRecDepth 100000 in
set_option maxHeartbeats 8000000 in
theorem walk (A : Option Addr) (l : List (Int × Int)) (c : Nat) (a b g : Int) (w : World) (hA : Prs w w.heap.size A c l) (hl : l.length ≤ maxLen) (ha : (Lit.int .i64 a).wf = true) (hb : (Lit.int .i64 b).wf = true) (hg : (Lit.int .i64 g).wf = true) :
    Calls Try.prog 9 #[.slice A l.length c, .agg #[.int .i64 a, .int .i64 b, .int .i64 g]] w (BoolB w true) := by
  have S := Lib.hid (fun W => sane_any W)
  have MD := Lib.hid (fun (W : World) (h : Below w.heap.size w W) => made_any W A l c ⟨(Row.below hA.1 h (Nat.le_refl _)).more h.size, hA.2⟩ hl)
  have NA := Lib.hid (fun (W : World) (n : Nat) (hn : n ≤ 1000) => number_any W n hn a ha)
  have NB := Lib.hid (fun (W : World) (n : Nat) (hn : n ≤ 1000) => number_any W n hn b hb)
  have NG := Lib.hid (fun (W : World) (n : Nat) (hn : n ≤ 1000) => number_any W n hn g hg)
  have b0 : Below w.heap.size w (w.alloc (.cells #[.int .i64 a, .int .i64 b, .int .i64 g] 50)) := (Below.refl _ w).alloc (Nat.le_refl _) _
  have K0 := Lib.hid (Full.new w 50 [.int .i64 a, .int .i64 b, .int .i64 g])
  unfold BoolB at S ⊢
  unfold MadeOut at MD
  obtain ⟨m, hm⟩ : ∃ m, l.length = m := ⟨_, rfl⟩
  rw [hm] at MD ⊢
  clear hA hl ha hb hg hm
  go_enter Try.func9, Try.ntmps9
  go_upto_region 3 with (first
    | (go_at_call 14; ((with_reducible refine (S.out _).mono ?_); rintro e w1 ⟨rfl, hb1⟩; (have hb1' := Below.then_ b0 hb1)))
    | (go_at_call 15; ((with_reducible refine (MD.out _ hb1').mono ?_); rintro e w2 ⟨p, q, cs, rfl, hcs, hT⟩; (have KF := (K0.out.on hb1).on hT.below); (have k0 : w2.cell? ⟨w.heap.size, 0, none⟩ = some (.int .i64 a) := KF.cell 0); (have k1 : w2.cell? ⟨w.heap.size, 1, none⟩ = some (.int .i64 b) := KF.cell 1); (have k2 : w2.cell? ⟨w.heap.size, 2, none⟩ = some (.int .i64 g) := KF.cell 2)))
    | (fail "arm"))
  have Q19 := Lib.hid (fun n : Nat => (show Calls Try.prog 19 #[.pointer (some ⟨q, 0, none⟩)] (w2.drewN n) fun e w' => e = .returned (.int .i64 (cs.length : Int)) ∧ w' = w2.drewN n from ((hT.on (Below.drewN_ (Below.refl _ w2) n)).rmany_).mono fun _ _ h => ⟨h.1, h.2.symm⟩))
  have QA := Lib.hid (fun n : Nat => (show Calls Try.prog 18 #[.int .i64 (cs.length : Int), .int .i64 a] (w2.drewN n) fun e w' => e = .returned (.int .i64 (numP cs.length a)) ∧ w' = w2.drewN n from (NA.out (w2.drewN n) cs.length (by omega)).mono fun _ _ h => ⟨h.1, h.2.symm⟩))
  have QB := Lib.hid (fun n : Nat => (show Calls Try.prog 18 #[.int .i64 (cs.length : Int), .int .i64 b] (w2.drewN n) fun e w' => e = .returned (.int .i64 (numP cs.length b)) ∧ w' = w2.drewN n from (NB.out (w2.drewN n) cs.length (by omega)).mono fun _ _ h => ⟨h.1, h.2.symm⟩))
  have QG := Lib.hid (fun n : Nat => (show Calls Try.prog 18 #[.int .i64 (cs.length : Int), .int .i64 g] (w2.drewN n) fun e w' => e = .returned (.int .i64 (numP cs.length g)) ∧ w' = w2.drewN n from (NG.out (w2.drewN n) cs.length (by omega)).mono fun _ _ h => ⟨h.1, h.2.symm⟩))
  go_quiet (first | (go_at_call 19; with_reducible exact Calls.quiet_of_same (Q19.out _)) | (go_at_call 18; with_reducible exact Calls.quiet_of_same (QA.out _)) | (go_at_call 18; with_reducible exact Calls.quiet_of_same (QB.out _)) | (go_at_call 18; with_reducible exact Calls.quiet_of_same (QG.out _)) | (fail "arm"))
  obtain ⟨w3, hw3⟩ : ∃ w3, w2.drewN nq = w3 := ⟨_, rfl⟩
  have hb3 : Below w2.heap.size w2 w3 := by rw [← hw3]; exact Below.drewN_ (Below.refl _ _) _
  rw [hw3]
  have hT := hT.on hb3
  clear hw3 hb3
  clear Q19 QA QB QG
  go_upto_region 4 with fail
  obtain ⟨X, hX⟩ : ∃ X, numP cs.length a = X := ⟨_, rfl⟩
  obtain ⟨Y, hY⟩ : ∃ Y, numP cs.length b = Y := ⟨_, rfl⟩
  obtain ⟨Z, hZ⟩ : ∃ Z, numP cs.length g = Z := ⟨_, rfl⟩
  rw [hX, hY, hZ]
  have hgd := hT.good.1
  have HT := Lib.hid hT
  have C24 := Lib.hid (fun (W : World) (h : Two w1 W p q cs) (x y : Int) (v : Bool) (hv : anc cs x y = v) => (show Calls Try.prog 24 #[.pointer (some ⟨p, 0, none⟩), .int .i64 x, .int .i64 y] W fun e w' => e = .returned (.bool v) ∧ Below W.heap.size W w' from hv ▸ h.anc_ (by omega) x y))
  obtain ⟨R, hR⟩ : ∃ R, baseP cs X Y = R := ⟨_, rfl⟩
  have D26 := Lib.hid (fun (W : World) (h : Two w1 W p q cs) => (show Calls Try.prog 26 #[.pointer (some ⟨p, 0, none⟩), .int .i64 X, .int .i64 Y] W fun e w' => e = .returned (.int .i64 (R : Int)) ∧ Below W.heap.size W w' from hR ▸ h.base_ (by omega) X Y))
  obtain ⟨v1, hv1⟩ : ∃ v, anc cs X Y = v := ⟨_, rfl⟩
  obtain ⟨v2, hv2⟩ : ∃ v, anc cs Y Z = v := ⟨_, rfl⟩
  obtain ⟨v3, hv3⟩ : ∃ v, anc cs X Z = v := ⟨_, rfl⟩
  obtain ⟨v4, hv4⟩ : ∃ v, anc cs Y X = v := ⟨_, rfl⟩
  obtain ⟨u1, hu1⟩ : ∃ v, anc cs Z X = v := ⟨_, rfl⟩
  obtain ⟨u2, hu2⟩ : ∃ v, anc cs Z Y = v := ⟨_, rfl⟩
  have D1 := Lib.hid (fun (W : World) (h : Two w1 W p q cs) => C24.out W h X Y v1 hv1)
  have D2 := Lib.hid (fun (W : World) (h : Two w1 W p q cs) => C24.out W h Y Z v2 hv2)
  have D3 := Lib.hid (fun (W : World) (h : Two w1 W p q cs) => C24.out W h X Z v3 hv3)
  have D4 := Lib.hid (fun (W : World) (h : Two w1 W p q cs) => C24.out W h Y X v4 hv4)
  have E1 := Lib.hid (fun (W : World) (h : Two w1 W p q cs) => C24.out W h Z X u1 hu1)
  have E2 := Lib.hid (fun (W : World) (h : Two w1 W p q cs) => C24.out W h Z Y u2 hu2)
  have B1 := Lib.hid (fun (W : World) (h : Two w1 W p q cs) (hr : R ≠ 0) => C24.out W h (R : Int) X true (by have := base_is hgd (a := X) (b := Y) (by rw [hR]; exact hr); rw [hR] at this; exact this.1))
  have B2 := Lib.hid (fun (W : World) (h : Two w1 W p q cs) (hr : R ≠ 0) => C24.out W h (R : Int) Y true (by have := base_is hgd (a := X) (b := Y) (by rw [hR]; exact hr); rw [hR] at this; exact this.2))
  have Q1 := Lib.hid (show v1 = true → v2 = true → v3 = true from fun h1 h2 => hv3.symm.trans (anc_trans hgd (hv1.trans h1) (hv2.trans h2)))
  have Q2 := Lib.hid (show v1 = true → v4 = true → X = Y from fun h1 h2 => anc_anti hgd (hv1.trans h1) (hv4.trans h2))
  have Q3 := Lib.hid (show u1 = true → u2 = true → Z ≤ (R : Int) from fun h1 h2 => by have := base_max hgd (hu1.trans h1) (hu2.trans h2); rwa [hR] at this)
  have HB1 := Lib.hid hb1'
  clear hX hY hZ hT hgd hR hv1 hv2 hv3 hv4 hu1 hu2 hb1 hb1' b0 KF k0 k1 k2
  go_cut [68] from 35 to 68 (fun v68 wx => v68 = .bool false ∧ Hid (Two w1 wx p q cs))
  case first =>
    cases v1 with
    | false =>
      go_wp2_with (first
        | (go_at_call 24; ((with_reducible refine (D1.out _ HT.out).mono ?_); rintro e x1 ⟨rfl, g1⟩; (have T1 := HT.out.on g1)))
        | (go_at_call 24; ((with_reducible refine (D1.out _ T1).mono ?_); rintro e x2 ⟨rfl, g2⟩; (have T2 := T1.on g2)))
        | (fail "arm"))
      go_meet
      case rel => exact ⟨rfl, Lib.hid T2⟩
    | true =>
      cases v2 with
      | true =>
        obtain rfl : v3 = true := Q1.out rfl rfl
        cases v4 with
        | true =>
          obtain rfl : X = Y := Q2.out rfl rfl
          have hxx : (X != X) = false := by simp
          go_wp2_with (first
            | (go_at_call 24; ((with_reducible refine (D1.out _ HT.out).mono ?_); rintro e x1 ⟨rfl, g1⟩; (have T1 := HT.out.on g1)))
            | (go_at_call 24; ((with_reducible refine (D2.out _ T1).mono ?_); rintro e x2 ⟨rfl, g2⟩; (have T2 := T1.on g2)))
            | (go_at_call 24; ((with_reducible refine (D3.out _ T2).mono ?_); rintro e x3 ⟨rfl, g3⟩; (have T3 := T2.on g3)))
            | (go_at_call 24; ((with_reducible refine (D1.out _ T3).mono ?_); rintro e x4 ⟨rfl, g4⟩; (have T4 := T3.on g4)))
            | (go_at_call 24; ((with_reducible refine (D4.out _ T4).mono ?_); rintro e x5 ⟨rfl, g5⟩; (have T5 := T4.on g5)))
            | (fail "arm"))
          go_meet
          case rel => exact ⟨by first | rfl | simp, Lib.hid T5⟩
        | false =>
          go_wp2_with (first
            | (go_at_call 24; ((with_reducible refine (D1.out _ HT.out).mono ?_); rintro e x1 ⟨rfl, g1⟩; (have T1 := HT.out.on g1)))
            | (go_at_call 24; ((with_reducible refine (D2.out _ T1).mono ?_); rintro e x2 ⟨rfl, g2⟩; (have T2 := T1.on g2)))
            | (go_at_call 24; ((with_reducible refine (D3.out _ T2).mono ?_); rintro e x3 ⟨rfl, g3⟩; (have T3 := T2.on g3)))
            | (go_at_call 24; ((with_reducible refine (D1.out _ T3).mono ?_); rintro e x4 ⟨rfl, g4⟩; (have T4 := T3.on g4)))
            | (go_at_call 24; ((with_reducible refine (D4.out _ T4).mono ?_); rintro e x5 ⟨rfl, g5⟩; (have T5 := T4.on g5)))
            | (fail "arm"))
          go_meet
          case rel => exact ⟨by first | rfl | simp, Lib.hid T5⟩
      | false =>
        cases v4 with
        | true =>
          obtain rfl : X = Y := Q2.out rfl rfl
          have hxx : (X != X) = false := by simp
          go_wp2_with (first
            | (go_at_call 24; ((with_reducible refine (D1.out _ HT.out).mono ?_); rintro e x1 ⟨rfl, g1⟩; (have T1 := HT.out.on g1)))
            | (go_at_call 24; ((with_reducible refine (D2.out _ T1).mono ?_); rintro e x2 ⟨rfl, g2⟩; (have T2 := T1.on g2)))
            | (go_at_call 24; ((with_reducible refine (D1.out _ T2).mono ?_); rintro e x4 ⟨rfl, g4⟩; (have T4 := T2.on g4)))
            | (go_at_call 24; ((with_reducible refine (D4.out _ T4).mono ?_); rintro e x5 ⟨rfl, g5⟩; (have T5 := T4.on g5)))
            | (fail "arm"))
          go_meet
          case rel => exact ⟨by first | rfl | simp, Lib.hid T5⟩
        | false =>
          go_wp2_with (first
            | (go_at_call 24; ((with_reducible refine (D1.out _ HT.out).mono ?_); rintro e x1 ⟨rfl, g1⟩; (have T1 := HT.out.on g1)))
            | (go_at_call 24; ((with_reducible refine (D2.out _ T1).mono ?_); rintro e x2 ⟨rfl, g2⟩; (have T2 := T1.on g2)))
            | (go_at_call 24; ((with_reducible refine (D1.out _ T2).mono ?_); rintro e x4 ⟨rfl, g4⟩; (have T4 := T2.on g4)))
            | (go_at_call 24; ((with_reducible refine (D4.out _ T4).mono ?_); rintro e x5 ⟨rfl, g5⟩; (have T5 := T4.on g5)))
            | (fail "arm"))
          go_meet
          case rel => exact ⟨by first | rfl | simp, Lib.hid T5⟩
  case rest =>
    obtain ⟨rfl, HT2⟩ := hcut
    have hRR : R ≠ 0 ∨ R = 0 := by omega
    go_upto_region 7 with (first
      | (go_at_call 26; ((with_reducible refine (D26.out _ HT2.out).mono ?_); rintro e y1 ⟨rfl, g1⟩; (have T1 := HT2.out.on g1)))
      | (fail "arm"))
    have HT3 := Lib.hid T1
    clear T1
    by_cases hr0 : R = 0
    · subst hr0
      cases u1 with
      | false =>
        go_wp2_with (first
          | (go_at_call 24; ((with_reducible refine (E1.out _ HT3.out).mono ?_); rintro e y4 ⟨rfl, g4⟩; (have T4 := HT3.out.on g4)))
          | (fail "arm"))
        go_ret
        exact ⟨rfl, Below.then_ HB1.out T4.below⟩
      | true =>
        cases u2 with
        | false =>
          go_wp2_with (first
            | (go_at_call 24; ((with_reducible refine (E1.out _ HT3.out).mono ?_); rintro e y4 ⟨rfl, g4⟩; (have T4 := HT3.out.on g4)))
            | (go_at_call 24; ((with_reducible refine (E2.out _ T4).mono ?_); rintro e y5 ⟨rfl, g5⟩; (have T5 := T4.on g5)))
            | (fail "arm"))
          go_ret
          exact ⟨rfl, Below.then_ HB1.out T5.below⟩
        | true =>
          have hz : Z ≤ 0 := Q3.out rfl rfl
          go_wp2_with (first
            | (go_at_call 24; ((with_reducible refine (E1.out _ HT3.out).mono ?_); rintro e y4 ⟨rfl, g4⟩; (have T4 := HT3.out.on g4)))
            | (go_at_call 24; ((with_reducible refine (E2.out _ T4).mono ?_); rintro e y5 ⟨rfl, g5⟩; (have T5 := T4.on g5)))
            | (fail "arm"))
          go_ret
          exact ⟨rfl, Below.then_ HB1.out T5.below⟩
    · have hne : ((R : Int) == 0) = false := by simp; omega
      cases u1 with
      | false =>
        go_wp2_with (first
          | (go_at_call 24; ((with_reducible refine (B1.out _ HT3.out hr0).mono ?_); rintro e y2 ⟨rfl, g2⟩; (have T2 := HT3.out.on g2)))
          | (go_at_call 24; ((with_reducible refine (B2.out _ T2 hr0).mono ?_); rintro e y3 ⟨rfl, g3⟩; (have T3 := T2.on g3)))
          | (go_at_call 24; ((with_reducible refine (E1.out _ T3).mono ?_); rintro e y4 ⟨rfl, g4⟩; (have T4 := T3.on g4)))
          | (fail "arm"))
        go_ret
        exact ⟨rfl, Below.then_ HB1.out T4.below⟩
      | true =>
        cases u2 with
        | false =>
          go_wp2_with (first
            | (go_at_call 24; ((with_reducible refine (B1.out _ HT3.out hr0).mono ?_); rintro e y2 ⟨rfl, g2⟩; (have T2 := HT3.out.on g2)))
            | (go_at_call 24; ((with_reducible refine (B2.out _ T2 hr0).mono ?_); rintro e y3 ⟨rfl, g3⟩; (have T3 := T2.on g3)))
            | (go_at_call 24; ((with_reducible refine (E1.out _ T3).mono ?_); rintro e y4 ⟨rfl, g4⟩; (have T4 := T3.on g4)))
            | (go_at_call 24; ((with_reducible refine (E2.out _ T4).mono ?_); rintro e y5 ⟨rfl, g5⟩; (have T5 := T4.on g5)))
            | (fail "arm"))
          go_ret
          exact ⟨rfl, Below.then_ HB1.out T5.below⟩
        | true =>
          have hz : Z ≤ (R : Int) := Q3.out rfl rfl
          go_wp2_with (first
            | (go_at_call 24; ((with_reducible refine (B1.out _ HT3.out hr0).mono ?_); rintro e y2 ⟨rfl, g2⟩; (have T2 := HT3.out.on g2)))
            | (go_at_call 24; ((with_reducible refine (B2.out _ T2 hr0).mono ?_); rintro e y3 ⟨rfl, g3⟩; (have T3 := T2.on g3)))
            | (go_at_call 24; ((with_reducible refine (E1.out _ T3).mono ?_); rintro e y4 ⟨rfl, g4⟩; (have T4 := T3.on g4)))
            | (go_at_call 24; ((with_reducible refine (E2.out _ T4).mono ?_); rintro e y5 ⟨rfl, g5⟩; (have T5 := T4.on g5)))
            | (fail "arm"))
          go_ret
          exact ⟨rfl, Below.then_ HB1.out T5.below⟩

theorem contract (H : Type) (enc : TypeId × Value → H) (W : World) (base : Nat) (args : Array Value) (ds gs : List (DataW H)) (before : List MemPlace)
    (hval : ∀ (j : Nat) t v, Try.f9.params[j]? = some t → args[j]? = some v → Value.okWide Try.prog W .any base t v)
    (hW : DataW.Whole enc Try.prog Try.f9.params.toList Rows.historyOrderSpec.vars false W args.toList ds gs before) :
    Calls Try.prog 9 args W fun e W' => ∃ v, e = .returned v ∧ Rows.historyOrderSpec.post enc Try.prog Try.f9 false true false false W args v W' := by
  have hW' := hW
  obtain ⟨p, q, hA0, hV, rfl, hfz, hnd⟩ := hW
  have hA : DataW.TrodAll enc Try.prog W 0 (fun _ => true) true Try.f9.params.toList args.toList ds p := hA0
  rw [Try.params9] at hA hval
  obtain ⟨v0, vs0, d0, ds0, p0, q0, e0, rfl, rfl, h0, r0⟩ := trodAll_cons hA
  obtain ⟨v1, vs1, d1, ds1, p1, q1, e1, rfl, rfl, h1, r1⟩ := trodAll_cons r0
  obtain ⟨rfl, rfl, rfl⟩ := trodAll_nil r1
  obtain rfl : args = #[v0, v1] := by cases args; simp_all
  obtain ⟨rfl, rfl⟩ := trodVars_none hV
  obtain ⟨A, l, c, rfl, hP, hl⟩ := open_prs h0 (hval 0 22 v0 rfl rfl)
  obtain ⟨a, b, g, rfl, ha, hb, hg⟩ := open_three (hval 1 50 v1 rfl rfl) h1
  refine (walk A l c a b g W hP hl ha hb hg).mono fun e W' ⟨he, hb⟩ => ⟨_, he, law_post rfl rfl ?_ rfl rfl rfl hW' hb⟩
  rw [Try.params9]
  intro t ht
  have ht' : t = 22 ∨ t = 50 := by simpa using ht
  rcases ht' with rfl | rfl <;> exact ⟨by kernel_rfl, of_decide_eq_true (by kernel_rfl)⟩

set_option maxRecDepth 100000 in
theorem lifted (os : Os) (started : os.Started) (H : Type) (enc : TypeId × Value → H) :
    ReturnsInHanded {} Try.checked os 9 .any (Rows.historyOrderSpec.pre6 enc Try.prog Try.f9 Rows.historyOrderRow.domain false) (Rows.historyOrderSpec.post enc Try.prog Try.f9 false true false false) := by
  refine returnsInHanded_of_change (C := Try.checked) ownKnob_none started (by kernel_rfl) Try.func9
    (ChangeSpec.witness6 (enc := enc) (C := Try.checked) false ⟨#[], #[.slice none 0 0, .agg #[.int .i64 0, .int .i64 0, .int .i64 0]], []⟩ 8 (by kernel_rfl) (by kernel_rfl) (by kernel_rfl) (by kernel_rfl)) ?_
  intro W base args ds gs before hval hW _ _
  exact contract H enc W base args ds gs before hval hW

theorem proved : Rows.HistoryOrderSaid :=
  OpenClaim.holds_of_wide 9 Try.f9 rfl rfl rfl rfl rfl rfl rfl ⟨rfl, rfl, rfl, rfl, rfl⟩ rfl rfl rfl rfl rfl (by kernel_rfl) Try.func9 (by kernel_rfl)
    (of_decide_eq_true (by kernel_rfl)) (by unfold Func.isWrapper; first | (rw [if_pos (by decide +kernel)]; kernel_rfl) | (rw [if_neg (by decide +kernel)]; exact ⟨rfl, rfl⟩))
    (fun os started H enc _ => lifted os started H enc)

end Go.Proofs.Ytiikbekboapphaa.lord
