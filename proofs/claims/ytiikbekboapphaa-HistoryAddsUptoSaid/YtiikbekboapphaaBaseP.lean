/- Base. -/
import Derived.Test.YtiikbekboapphaaAnc
namespace Go.Proofs.Ytiikbekboapphaa
set_option maxRecDepth 100000
open Go.RowKit
/-- both walks of Base: they have come down to c and d; the answer lies below both -/
structure BI (w W : World) (p ka kb : Nat) (cs : List Cm) (a b T c d : Nat) (S R : Nat → Prop) : Prop where
  wa : 0 < c → IsWk W ka (fnV 43 p) (leads cs) a c S
  wb : 0 < d → IsWk W kb (fnV 43 p) (leads cs) b d R
  ap : ∀ x, S x → ¬ R x
  sa : ∀ x, S x → w.heap.size ≤ x ∧ x < W.heap.size
  sb : ∀ x, R x → w.heap.size ≤ x ∧ x < W.heap.size
  below : Below w.heap.size w W
  ca : rch (leads cs) a c = true
  cb : rch (leads cs) b d = true
  low : T ≤ c ∧ T ≤ d
  top : 1 ≤ T
theorem rch_top {R : Nat → Bool} {n T : Nat} (h1 : 1 ≤ T) (h2 : T ≤ n) (h : R T = true) : T ≤ top R n ∧ R (top R n) = true := by
  have := top_max R n T h2 h
  exact ⟨this, top_holds R n (by omega)⟩
theorem goes_lt {S S' : Nat → Prop} {w w1 w2 : World} {k : Nat} {fv : Value} {lead : Nat → List Nat} {head B : Nat} (hw : IsWk w2 k fv lead head B S') : ∀ x, S' x → x < w2.heap.size := hw.lt_
set_option maxHeartbeats 8000000 in
theorem base_any {B : Nat} {w : World} {p : Nat} {cs : List Cm} {F : Nat → Prop} (h : IsH B w p cs F) (hs : cs.length ≤ 1000) (a b : Int) :
    Calls Try.prog 26 #[.pointer (some ⟨p, 0, none⟩), .int .i64 a, .int .i64 b] w fun e w' => e = .returned (.int .i64 ((baseP cs a b : Nat) : Int)) ∧ Below w.heap.size w w' := by
  have hmf : ∀ fn first cap w, (Instr.makeFunc fn first cap).run Try.prog w = .ok (.func fn first cap) w := fun _ _ _ _ => rfl
  have HA := Lib.hid (has_any h a)
  have HB := Lib.hid (has_any h b)
  cases ha : inR cs.length a with
  | false =>
    rw [ha] at HA
    rw [show baseP cs a b = 0 by unfold baseP; rw [ha]; rfl]
    clear h ha
    go_enter Try.func26, Try.ntmps26
    go_wp2_with (go_at_call 41; ((with_reducible refine HA.out.mono ?_); rintro e w1 ⟨rfl, rfl⟩))
    go_ret
    exact ⟨rfl, Below.refl _ _⟩
  | true =>
    cases hb : inR cs.length b with
    | false =>
      rw [ha] at HA
      rw [hb] at HB
      rw [show baseP cs a b = 0 by unfold baseP; rw [ha, hb]; rfl]
      clear h ha hb
      go_enter Try.func26, Try.ntmps26
      go_wp2_with (first
        | (go_at_call 41; ((with_reducible refine HA.out.mono ?_); rintro e w1 ⟨rfl, rfl⟩))
        | (go_at_call 41; ((with_reducible refine HB.out.mono ?_); rintro e w2 ⟨rfl, rfl⟩)))
      go_ret
      exact ⟨rfl, Below.refl _ _⟩
    | true =>
      have ha' := inR_iff.1 ha
      have hb' := inR_iff.1 hb
      obtain ⟨x, rfl⟩ : ∃ x : Nat, a = x := ⟨a.toNat, by omega⟩
      obtain ⟨y, rfl⟩ : ∃ y : Nat, b = y := ⟨b.toNat, by omega⟩
      obtain ⟨T, hT⟩ : ∃ T, top (both cs x y) (min x y) = T := ⟨_, rfl⟩
      have hbase : baseP cs (x : Int) (y : Int) = T := by
        unfold baseP
        rw [ha, hb]
        simp only [Bool.and_self, if_true, Int.toNat_natCast]
        exact hT
      rw [ha] at HA
      rw [hb] at HB
      rw [hbase]
      have hdn := leads_down h.good
      have h1x := leads_one h.good (b := x) (by omega) (by omega)
      have h1y := leads_one h.good (b := y) (by omega) (by omega)
      have hT1 : 1 ≤ T ∧ both cs x y T = true := by
        have := rch_top (R := both cs x y) (n := min x y) (T := 1) (Nat.le_refl _) (by omega) (by unfold both; rw [h1x, h1y]; rfl)
        rwa [hT] at this
      have hTx : rch (leads cs) x T = true ∧ rch (leads cs) y T = true := by
        have := hT1.2
        unfold both at this
        rwa [Bool.and_eq_true] at this
      have hTm : ∀ c, rch (leads cs) x c = true → rch (leads cs) y c = true → c ≤ T := fun c h1 h2 => by
        rw [← hT]
        refine top_max _ _ c ?_ (by unfold both; rw [h1, h2]; rfl)
        have := rch_le hdn _ _ h1
        have := rch_le hdn _ _ h2
        omega
      have HTM := Lib.hid hTm
      have HTX := Lib.hid hTx
      have WA := Lib.hid (fun (W : World) => from_any W 43 p (leads cs) x (by omega))
      have WB := Lib.hid (fun (W : World) => from_any W 43 p (leads cs) y (by omega))
      unfold FromOut at WA WB
      have NA := Lib.hid (fun (k : Nat) (S : Nat → Prop) (w1 : World) (hk : IsWk w1 k (fnV 43 p) (leads cs) x (x + 1) S) (hS : ∀ x, S x → w.heap.size ≤ x) (hb : Below w.heap.size w w1) => next_any hk (h.on hb) (fun z h1 h2 => by have := (h.in_ z h1).2; have := hS z h2; omega) hs (by omega))
      have NB := Lib.hid (fun (k : Nat) (S : Nat → Prop) (w1 : World) (hk : IsWk w1 k (fnV 43 p) (leads cs) y (y + 1) S) (hS : ∀ x, S x → w.heap.size ≤ x) (hb : Below w.heap.size w w1) => next_any hk (h.on hb) (fun z h1 h2 => by have := (h.in_ z h1).2; have := hS z h2; omega) hs (by omega))
      unfold nextOut at NA NB
      have ex : top (rch (leads cs) x) (x + 1 - 1) = x := top_self (rch_self _ _)
      have ey : top (rch (leads cs) y) (y + 1 - 1) = y := top_self (rch_self _ _)
      rw [ex] at NA
      rw [ey] at NB
      have DA := Lib.hid (fun (k c : Nat) (S : Nat → Prop) (w1 : World) (hk : IsWk w1 k (fnV 43 p) (leads cs) x c S) (hS : ∀ x, S x → w.heap.size ≤ x ∧ x < w1.heap.size) (hb : Below w.heap.size w w1) (bound : Nat) (hbc : bound < c) => (show Calls Try.prog 44 #[.pointer (some ⟨k, 0, none⟩), .int .i64 (bound : Int)] w1 (DownToOut w1 k p cs x (top (rch (leads cs) x) bound) S) from by
        have := downTo_any hk (h.on hb) (fun z h1 h2 => by have := (h.in_ z h1).2; have := (hS z h2).1; omega) hs (by omega) bound
        rwa [Nat.min_eq_right (by omega)] at this))
      have DB := Lib.hid (fun (k c : Nat) (S : Nat → Prop) (w1 : World) (hk : IsWk w1 k (fnV 43 p) (leads cs) y c S) (hS : ∀ x, S x → w.heap.size ≤ x ∧ x < w1.heap.size) (hb : Below w.heap.size w w1) (bound : Nat) (hbc : bound < c) => (show Calls Try.prog 44 #[.pointer (some ⟨k, 0, none⟩), .int .i64 (bound : Int)] w1 (DownToOut w1 k p cs y (top (rch (leads cs) y) bound) S) from by
        have := downTo_any hk (h.on hb) (fun z h1 h2 => by have := (h.in_ z h1).2; have := (hS z h2).1; omega) hs (by omega) bound
        rwa [Nat.min_eq_right (by omega)] at this))
      unfold DownToOut at DA DB
      have hx0 : 1 ≤ x := by omega
      have hy0 : 1 ≤ y := by omega
      have HSX := Lib.hid (rch_self (leads cs) x)
      have HSY := Lib.hid (rch_self (leads cs) y)
      have HDN := Lib.hid hdn
      have hT0 := hT1.1
      clear h ha hb hT ha' hb' hbase hdn h1x h1y hT1 hTx hTm ex ey
      go_enter Try.func26, Try.ntmps26
      go_wp2_with (first
        | (go_at_call 41; ((with_reducible refine HA.out.mono ?_); rintro e w1 ⟨rfl, rfl⟩))
        | (go_at_call 41; ((with_reducible refine HB.out.mono ?_); rintro e w2 ⟨rfl, rfl⟩))
        | (go_at_call 42; ((with_reducible refine (WA.out _).mono ?_); rintro e w3 ⟨ka, S, rfl, hk, hS, hb3⟩))
        | (go_at_call 42; ((with_reducible refine (WB.out _).mono ?_); rintro e w4 ⟨kb, R, rfl, hk4, hR, hb4⟩; (have hb34 := Below.then_ hb3 hb4); (have hka4 := hk.on hb4)))
        | (go_at_call 45; ((with_reducible refine (NA.out _ _ _ hka4 hS hb34).mono ?_); rintro e w5 ⟨rfl, S5, hg5, hk5⟩; (have hap4 : ∀ z, R z → ¬ S z := fun z h1 h2 => by have := hk.lt_ z h2; have := hR z h1; omega); (have hkb5 := hk4.apart hg5.turn hap4); (have hR5 : ∀ z, R z → w.heap.size ≤ z := fun z h => Nat.le_trans hb3.size (hR z h)); (have hb5 := goes_below hb34 hS hg5)))
        | (go_at_call 45; ((with_reducible refine (NB.out _ _ _ hkb5 hR5 hb5).mono ?_); rintro e w6 ⟨rfl, R6, hg6, hk6⟩)))
      have HBI := Lib.hid (show BI w w6 p ka kb cs x y T x y S5 R6 from by
        have hka5 := hk5 (by omega)
        have hkb6 := hk6 (by omega)
        have hap5 : ∀ z, S5 z → ¬ R z := fun z h1 h2 => (hg5.back z h1).elim (fun h => hap4 z h2 h) (fun h => by have := hk4.lt_ z h2; omega)
        have hap6 : ∀ z, S5 z → ¬ R6 z := fun z h1 h2 => (hg6.back z h2).elim (fun h => hap5 z h1 h) (fun h => by have := hka5.lt_ z h1; omega)
        refine ⟨fun _ => hka5.apart hg6.turn hap5, fun _ => hkb6, hap6, fun z hz => ⟨goes_ge hb34 hS hg5 z hz, Nat.lt_of_lt_of_le (hka5.lt_ z hz) hg6.turn.size⟩, fun z hz => ⟨goes_ge hb5 hR5 hg6 z hz, hkb6.lt_ z hz⟩, goes_below hb5 hR5 hg6, HSX.out, HSY.out, ⟨rch_le HDN.out _ _ HTX.out.1, rch_le HDN.out _ _ HTX.out.2⟩, hT0⟩)
      clear hk hS hb3 hk4 hR hb4 hb34 hka4 hg5 hk5 hap4 hkb5 hR5 hb5 hg6 hk6
      go_loopw [9, 10] (fun v9 v10 wr => ∃ (c d : Nat) (S R : Nat → Prop), v9 = .int .i64 (c : Int) ∧ v10 = .int .i64 (d : Int) ∧ Hid (BI w wr p ka kb cs x y T c d S R)) (fun v9 v10 _ => (intOf v9).toNat + (intOf v10).toNat)
      case atStart => exact ⟨x, y, S5, R6, rfl, rfl, HBI⟩
      case round =>
        obtain ⟨c, d, S', R', rfl, rfl, H⟩ := hrel
        have hlow := H.out.low
        by_cases he : c = d
        · subst he
          go_wp2
          go_ret
          have e1 := HTM.out c H.out.ca H.out.cb
          have e2 : c = T := by omega
          subst e2
          exact ⟨rfl, H.out.below⟩
        · have hne : ((c : Int) == (d : Int)) = false := by simp; omega
          by_cases hgt : d < c
          · have hgi : (d : Int) < (c : Int) := by omega
            have DD := Lib.hid (DA.out ka c S' wr (H.out.wa (by omega)) H.out.sa H.out.below d hgt)
            have hrt := rch_top (R := rch (leads cs) x) (n := d) hT0 hlow.2 HTX.out.1
            have htl := top_le (rch (leads cs) x) d
            obtain ⟨c', hc'⟩ : ∃ c', top (rch (leads cs) x) d = c' := ⟨_, rfl⟩
            rw [hc'] at DD hrt htl
            have HRT := Lib.hid hrt
            clear hc' hrt
            go_wp2_with (go_at_call 44; ((with_reducible refine DD.out.mono ?_); rintro e w7 ⟨rfl, S7, hg7, hk7⟩))
            go_roundw
            case rel =>
              have hk7' := hk7 (by have := HRT.out.1; omega)
              refine ⟨c', d, S7, R', rfl, rfl, Lib.hid ⟨hk7, fun h => (H.out.wb h).apart hg7.turn (fun z h1 h2 => H.out.ap z h2 h1), fun z h1 h2 => (hg7.back z h1).elim (fun h => H.out.ap z h h2) (fun h => by have := (H.out.sb z h2).2; omega),
                fun z hz => ⟨goes_ge H.out.below (fun z h => (H.out.sa z h).1) hg7 z hz, hk7'.lt_ z hz⟩, fun z hz => ⟨(H.out.sb z hz).1, Nat.lt_of_lt_of_le (H.out.sb z hz).2 hg7.turn.size⟩, goes_below H.out.below (fun z h => (H.out.sa z h).1) hg7, HRT.out.2, H.out.cb, ⟨HRT.out.1, hlow.2⟩, hT0⟩⟩
            case measure => simp [intOf]; omega
          · have hgi : (c : Int) ≤ (d : Int) := by omega
            have DD := Lib.hid (DB.out kb d R' wr (H.out.wb (by omega)) H.out.sb H.out.below c (by omega))
            have hrt := rch_top (R := rch (leads cs) y) (n := c) hT0 hlow.1 HTX.out.2
            have htl := top_le (rch (leads cs) y) c
            obtain ⟨d', hd'⟩ : ∃ d', top (rch (leads cs) y) c = d' := ⟨_, rfl⟩
            rw [hd'] at DD hrt htl
            have HRT := Lib.hid hrt
            clear hd' hrt
            go_wp2_with (go_at_call 44; ((with_reducible refine DD.out.mono ?_); rintro e w7 ⟨rfl, R7, hg7, hk7⟩))
            go_roundw
            case rel =>
              have hk7' := hk7 (by have := HRT.out.1; omega)
              refine ⟨c, d', S', R7, rfl, rfl, Lib.hid ⟨fun h => (H.out.wa h).apart hg7.turn H.out.ap, hk7, fun z h1 h2 => (hg7.back z h2).elim (fun h => H.out.ap z h1 h) (fun h => by have := (H.out.sa z h1).2; omega),
                fun z hz => ⟨(H.out.sa z hz).1, Nat.lt_of_lt_of_le (H.out.sa z hz).2 hg7.turn.size⟩, fun z hz => ⟨goes_ge H.out.below (fun z h => (H.out.sb z h).1) hg7 z hz, hk7'.lt_ z hz⟩, goes_below H.out.below (fun z h => (H.out.sb z h).1) hg7, H.out.ca, HRT.out.2, ⟨hlow.1, HRT.out.1⟩, hT0⟩⟩
            case measure => simp [intOf]; omega
end Go.Proofs.Ytiikbekboapphaa
