/- Write. -/
import Derived.Test.YthhpnlobhffimaaOnto
import Derived.Test.YthhpnlobhffimaaFit
import Derived.Deep.AppendLies
namespace Go.Proofs.Ythhpnlobhffimaa
set_option maxRecDepth 100000
open Go.RowKit
theorem step_call_fn {P : Program} {ops : Array Oper} {o : Oper} {a : Act} {w : World} {K : Act → World → Prop} {Q : Exit → Act → World → Prop} {E : Prop}
    (hg : o.guard = none) (f : FuncId) (xs : Array Operand) (ats : Array TypeId) (hop : o.op = Op.call { callee := Callee.value (Operand.func f), args := xs, argTypes := ats })
    (vs : Array Value) (hx : xs.toList.map a.eval = vs.toList) (he : ∀ args w, (callFunc f args).run P w = .ok (.enter f args) w) {R : Ending → World → Prop} (C : Calls P f vs w R) (hR : ∀ e w', R e w' → ∃ v, e = .returned v ∧ K (a.put o.dst v) w') :
    if Region.wanted o (yielded ops a.tmps) = true then Oper.wp P o a w K Q else E := by
  have hw : Region.wanted o (yielded ops a.tmps) = true := by simp [Region.wanted, hg]
  rw [if_pos hw]
  obtain ⟨dst, op, ty, pos, after, guard⟩ := o
  dsimp only at hop
  subst hop
  have e1 : execOp a.eval { dst, op := .call { callee := .value (.func f), args := xs, argTypes := ats }, type := ty, pos, after, guard } = callFunc f (#[] ++ xs.map a.eval ++ #[]) := rfl
  unfold Oper.wp
  have hx' : xs.map a.eval = vs := Array.toList_inj.1 (by rw [Array.toList_map]; exact hx)
  rw [e1, hx', show #[] ++ vs ++ #[] = vs by simp, he]
  refine C.mono fun e w' h => ?_
  obtain ⟨v, rfl, hk⟩ := hR e w' h
  exact hk
def WriteOut (B : Nat) (w : World) (p : Nat) (d : Dk) (F : Nat → Prop) (off : Int) (s : List UInt8) (e : Ending) (w' : World) : Prop :=
  e = .returned (.int .i64 (d.wErr off s)) ∧ ∃ F', IsD B w' p (d.write off s) F' ∧ Goes F w w' F'
theorem write_nil (w : World) (off : Int) (s : ByteArray) : Calls Try.prog 31 #[.pointer none, .int .i64 off, .string s] w fun e w' => e = .returned (.int .i64 1) ∧ w = w' := by
  go_enter Try.func31, Try.ntmps31
  go_wp2
  go_ret
  exact ⟨rfl, rfl⟩
set_option maxHeartbeats 8000000 in
theorem write_any {B : Nat} {w : World} {p : Nat} {d : Dk} {F : Nat → Prop} (hd : IsD B w p d F) (hc : d.calls ≤ 100000) (off : Int) (s : ByteArray) (ho : off ≤ 9223372036854775807) (hs : s.size ≤ maxLen) :
    Calls Try.prog 31 #[.pointer (some ⟨p, 0, none⟩), .int .i64 off, .string s] w (WriteOut B w p d F off s.data.toList) := by
  unfold WriteOut
  have HD := Lib.hid hd
  obtain ⟨a, b, c, lf, h⟩ := hd
  have OF := Lib.hid (off_any h.full)
  have e0 : d.wErr off s.data.toList = if Dk.canW off s.size = false then 1 else if offO d.pw then 30 else 0 := by unfold Dk.wErr Dk.isOff; rw [data_len]
  unfold maxLen at hs
  have z0 : (0 : Int) ≤ (s.size : Int) := Int.natCast_nonneg _
  by_cases h1 : off < 0
  · have e1 : d.wErr off s.data.toList = 1 := by rw [e0, if_pos]; simp [Dk.canW]; omega
    have e2 : d.write off s.data.toList = d := by unfold Dk.write; rw [if_neg]; rw [e1]; decide
    rw [e1, e2]
    clear h OF e0 e1 e2
    go_enter Try.func31, Try.ntmps31
    go_wp2
    go_ret
    exact ⟨rfl, F, HD.out, Goes.refl _ _⟩
  · have h1' : 0 ≤ off := by omega
    by_cases h2 : (16777216 : Int) - off < (s.size : Int)
    · have e1 : d.wErr off s.data.toList = 1 := by rw [e0, if_pos]; simp [Dk.canW]; omega
      have e2 : d.write off s.data.toList = d := by unfold Dk.write; rw [if_neg]; rw [e1]; decide
      rw [e1, e2]
      clear h OF e0 e1 e2
      go_enter Try.func31, Try.ntmps31
      go_wp2
      go_ret
      exact ⟨rfl, F, HD.out, Goes.refl _ _⟩
    · have hcw : Dk.canW off s.size = true := by simp [Dk.canW]; omega
      rw [if_neg (by rw [hcw]; decide)] at e0
      cases hof : offO d.pw with
      | true =>
        have e1 : d.wErr off s.data.toList = 30 := by rw [e0, if_pos hof]
        have e2 : d.write off s.data.toList = d := by unfold Dk.write; rw [if_neg]; rw [e1]; decide
        rw [hof] at OF
        rw [e1, e2]
        clear h e0 e1 e2 hcw hof
        go_enter Try.func31, Try.ntmps31
        go_wp2_with (go_at_call 49; ((with_reducible refine OF.out.mono ?_); rintro e w1 ⟨rfl, rfl⟩))
        go_ret
        exact ⟨rfl, F, HD.out, Goes.refl _ _⟩
      | false =>
        have e1 : d.wErr off s.data.toList = 0 := by rw [e0, if_neg (by simp [hof])]
        have e2 : d.write off s.data.toList = d.wrote off.toNat s.data.toList := by unfold Dk.write; rw [if_pos e1]
        rw [hof] at OF
        rw [e1, e2]
        obtain ⟨o, rfl⟩ : ∃ o : Nat, off = (o : Int) := ⟨off.toNat, by omega⟩
        rw [Int.toNat_natCast]
        have hso : o + s.size ≤ lim := by unfold lim; omega
        have hbw : Below w.heap.size w (w.alloc (.cells #[.int .i64 (o : Int), .string s] 86)) := (Below.refl _ w).alloc (Nat.le_refl _) _
        have KB0 := Full.new w 86 [.int .i64 (o : Int), .string s]
        have M1 := h.mid.below hbw
        obtain ⟨w1, hw1⟩ : ∃ w1, w.alloc (.cells #[.int .i64 (o : Int), .string s] 86) = w1 := ⟨_, rfl⟩
        rw [hw1] at M1 hbw
        have KB1 : Full w1 w.heap.size 86 [.int .i64 (o : Int), .string s] := by rw [← hw1]; exact KB0
        have ON := Lib.hid (show Calls Try.prog 44 #[.agg #[.int .i64 (o : Int), .string s], a] w1.drew (OntoOut w1.drew a d.now o s) from onto_any (w := w1.drew) M1.now hso h.good.now)
        unfold OntoOut at ON
        have EN := Lib.hid (fun (W : World) (F' : Nat → Prop) => (show IsD B W p (d.wrote o s.data.toList) F' → IsD B W p (d.wrote o s.data.toList) F' from id))
        have HN := Lib.hid (Dk.wrote_now d o s.data.toList)
        have HP := Lib.hid (show pcC (d.ps ++ [(o, s.data.toList)]) = pcC d.ps ++ [.int .i64 (o : Int), .string s] from by rw [pcC_snoc]; rfl)
        have HL := Lib.hid (show (d.ps ++ [(o, s.data.toList)]).length = d.ps.length + 1 from by simp)
        have HGd := Lib.hid (Dk.wrote_good h.good (off := o) (s := s.data.toList) (by rw [data_len]; exact hso))
        have HG := Lib.hid h.good
        have HLO := Lib.hid h.lok
        have HI := Lib.hid h.in_
        have HSF := Lib.hid h.self
        have HOF := Lib.hid hof
        have HM1 := Lib.hid M1
        have hnp := h.good.few
        obtain ⟨m, hm⟩ : ∃ m, d.ps.length = m := ⟨_, rfl⟩
        obtain ⟨C, cc, rfl⟩ := own_form M1.ps
        rw [hm] at HM1 HL hnp
        have f0 : w1.cell? ⟨p, 0, none⟩ = some a := M1.full.cell 0
        have b0 : w1.cell? ⟨w.heap.size, 0, none⟩ = some (.int .i64 (o : Int)) := KB1.cell 0
        have b1 : w1.cell? ⟨w.heap.size, 1, none⟩ = some (.string s) := KB1.cell 1
        have HKB := Lib.hid KB1
        obtain ⟨i69, hi, hz0', hz1, hz2⟩ := info_parts info69
        have hpl : p < w.heap.size := (h.in_ p h.self).2
        clear h e0 e1 e2 hcw h1 M1 KB0 KB1 hof hbw hso
        go_enter Try.func31, Try.ntmps31
        go_upto_region 6 with (go_at_call 49; ((with_reducible refine OF.out.mono ?_); rintro e wz ⟨rfl, rfl⟩))
        clear hw1
        go_region_law
          (first
            | (refine step_call_fn rfl 44 _ _ rfl #[.agg #[.int .i64 (o : Int), .string s], a] (by rfl) (enters_of Try.func44 (by kernel_rfl) rfl) ON.out ?_; rintro e w2 ⟨v2, rfl, own2, turn2, at2⟩; refine ⟨_, rfl, ?_⟩; (obtain ⟨A2, c2, rfl⟩ := own_form own2); (have turn2' := Turn.from_drew (k := 1) turn2); (have FW := HM1.out.wrote_full turn2'); (have x0 : w2.cell? ⟨p, 0, none⟩ = some a := FW.cell 0); (have x1 : w2.frozen? ⟨p, 0, none⟩ = false := FW.frozen 0))
            | (fail "arm"))
        all_goals
          have HM2 := Lib.hid (HM1.out.wrote turn2' own2 at2)
          obtain ⟨N2, hN2⟩ : ∃ N2, (put d.now o s.data.toList).length = N2 := ⟨_, rfl⟩
          rw [hN2] at HM2
          obtain ⟨w3, hw3⟩ : ∃ w3, w2.setCell ⟨p, 0, none⟩ (.slice A2 N2 c2) = w3 := ⟨_, rfl⟩
          rw [hw3] at HM2
          rw [hN2, hw3]
          have KB3 : Full w3 w.heap.size 86 [.int .i64 (o : Int), .string s] := by
            have k2 := turn2'.far HKB.out (fun e => by have := owns_lt HM1.out.now _ e; exact (HM1.out.row _ (.inl e)).elim (fun hf => by have := (HI.out _ hf).2; omega) fun hl => HKB.out.not_row HM1.out.now (by decide) e.symm)
            rw [← hw3]
            exact k2.far (p := ⟨p, 0, none⟩) (by show w.heap.size ≠ p; omega) _
          have g0 : w3.cell? ⟨w.heap.size, 0, none⟩ = some (.int .i64 (o : Int)) := KB3.cell 0
          have g1 : w3.cell? ⟨w.heap.size, 1, none⟩ = some (.string s) := KB3.cell 1
          have g2 : w3.cell? ⟨p, 2, none⟩ = some (.slice C m cc) := HM2.out.full.cell 2
          have g3 : (w3.alloc (.cells #[.int .i64 (o : Int), .string s] 86)).cell? ⟨p, 2, none⟩ = some (.slice C m cc) := (HM2.out.full.alloc _).cell 2
          have HPS := Lib.hid HM2.out.ps
          rw [hm] at HPS
          clear hw3 hN2 x0 x1 FW own2 turn2 turn2' at2 KB3
          go_upto_region 7 with fail
          go_region_law
            (first
              | (refine step_append_lies _ (by rfl) _ _ _ (by rfl) 0 86 i69 _ 2 24 Try.underlying68 hi hz0' hz1 hz2 rfl (by omega) (.slice C m cc) m _ (by rfl) (HPS.out.alloc (.cells #[.int .i64 (o : Int), .string s] 86)) ⟨w3.heap.size, 0, none⟩ 1 1 [.int .i64 (o : Int), .string s] (by rfl) (by rfl) (World.news_of_block (cs := #[.int .i64 (o : Int), .string s]) (t := 86) (fr := (0, 0)) (heap_alloc_new w3 _)) (by simp [Value.oneCell']) (by omega) (by unfold maxLen; omega) (by omega) (by omega) (w3.heap.size + 1) (by simp) ?_; intro gg cap w5 hown5 hgrow5 hat5 hlt5; (have hgrow5' : (w3.alloc (.cells #[.int .i64 (o : Int), .string s] 86)).grownBy w5 (Value.slice C m cc).ownBlock := ⟨hgrow5.os, hgrow5.tape, hgrow5.output, hgrow5.size, hgrow5.block⟩); (have FY := HM2.out.added_full hgrow5'); (have y2 : w5.cell? ⟨p, 2, none⟩ = some (.slice C m cc) := FY.cell 2); (have z2 : w5.frozen? ⟨p, 2, none⟩ = false := FY.frozen 2))
              | (fail "arm"))
          all_goals
            have HM3 := HM2.out.added hgrow5' (v := .slice (some ⟨gg, 0, none⟩) (m + 1) cap) (l := d.ps ++ [(o, s.data.toList)]) (by rw [HL.out, HP.out]; exact hown5) (hat5.imp (fun e => e.symm) fun e => ⟨gg, rfl, by omega⟩)
            have CN := Lib.hid (count_any HM3.full HLO.out HOF.out (by omega) fun m' e => by have := HG.out.pw _ e; omega)
            unfold CountOut at CN
            have FIN := Lib.hid (fun (w6 : World) (lf' : Int) (hl' : leftOk (Dk.less d.pw) lf') (hF6 : Full w6 p 71 [.slice A2 N2 c2, b, .slice (some ⟨gg, 0, none⟩) (m + 1) cap, .int .i64 (pwN (Dk.less d.pw)), .int .i64 lf', .int .i64 ((d.calls : Int) + 1)]) (ht6 : Turn (fun g => g = p) (w5.setCell ⟨p, 2, none⟩ (.slice (some ⟨gg, 0, none⟩) (m + 1) cap)) w6) => (show ∃ F', IsD B w6 p (d.wrote o s.data.toList) F' ∧ Goes F w w6 F' from by
              refine Mid.end_ (d' := d.wrote o s.data.toList) (a := .slice A2 N2 c2) (b := b) (c := .slice (some ⟨gg, 0, none⟩) (m + 1) cap) (lf := lf') ?_ hl' HGd.out (fun g hg => (HI.out g hg).1) (Nat.le_trans (HI.out p HSF.out).1 (Nat.le_of_lt hpl))
              rw [HN.out]
              exact HM3.nums ht6 hF6))
            clear hown5 hgrow5 hgrow5' hat5 hlt5 FY y2 z2 HM3
            go_wp2_with (go_at_call 50; ((with_reducible refine CN.out.mono ?_); rintro e w6 ⟨rfl, lf', hl', hF6, ht6⟩))
            go_ret
            exact ⟨rfl, FIN.out w6 lf' hl' hF6 ht6⟩
end Go.Proofs.Ythhpnlobhffimaa
