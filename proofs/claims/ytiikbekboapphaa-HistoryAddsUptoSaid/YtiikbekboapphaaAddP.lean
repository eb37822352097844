/- Add. -/
import Derived.Shelf.Abstract
import Derived.Test.YtiikbekboapphaaCan
namespace Go.Proofs.Ytiikbekboapphaa
set_option maxRecDepth 100000
open Go.RowKit
theorem info25 : (Try.prog.info? 25).map (fun i => (i.zero, i.size, i.bytes)) = some (some (.agg #[.slice none 0 0, .int .i64 0, .string ⟨#[]⟩, .slice none 0 0, .bool false]), 5, 80) := by kernel_rfl
theorem step_call_fn {P : Program} {ops : Array Oper} {o : Oper} {a : Act} {w : World} {K : Act → World → Prop} {Q : Exit → Act → World → Prop} {E : Prop}
    (hg : o.guard = none) (f : FuncId) (xs : Array Operand) (ats : Array TypeId) (hop : o.op = Op.call { callee := Callee.value (Operand.func f), args := xs, argTypes := ats })
    (vs : Array Value) (hx : xs.toList.map a.eval = vs.toList) (he : ∀ args w, (callFunc f args).run P w = .ok (.enter f args) w) {R : Ending → World → Prop} (C : Calls P f vs w R) (hR : ∀ e w', R e w' → ∃ v, e = .returned v ∧ K (a.put o.dst v) w') :
    if Region.wanted o (yielded ops a.tmps) = true then Oper.wp P o a w K Q else E := by
  have hw : Region.wanted o (yielded ops a.tmps) = true := by simp [Region.wanted, hg]
  rw [if_pos hw]
  obtain ⟨dst, op, ty, pos, after, guard⟩ := o
  dsimp only at hop
  subst hop
  have e1 : execOp a.eval { dst, op := .call { callee := .value (.func f), args := xs, argTypes := ats }, type := ty, pos, after, guard } = callFunc f (#[] ++ xs.map a.eval ++ #[]) := rfl
  unfold Oper.wp
  have hx' : xs.map a.eval = vs := Array.toList_inj.1 (by rw [Array.toList_map]; exact hx)
  rw [e1, hx', show #[] ++ vs ++ #[] = vs by simp, he]
  refine C.mono fun e w' h => ?_
  obtain ⟨v, rfl, hk⟩ := hR e w' h
  exact hk
def AddOut (B : Nat) (w : World) (p : Nat) (cs : List Cm) (F : Nat → Prop) (c : Cm) (e : Ending) (w' : World) : Prop :=
  (canBe cs.length c.ps = true ∧ e = .returned (.tuple #[.int .i64 ((cs.length : Int) + 1), .int .i64 0]) ∧ ∃ F', IsH B w' p (cs ++ [c]) F' ∧ Goes F w w' F') ∨
  (canBe cs.length c.ps = false ∧ e = .returned (.tuple #[.int .i64 0, .int .i64 1]) ∧ Below w.heap.size w w')
/-- what Add's last region leaves -/
theorem add_fin {B : Nat} {w wx w2 : World} {p n c0 g2 c2 c5 c6 : Nat} {cs : List Cm} {F : Nat → Prop} {A0 A5 A6 : Option Addr} {In : Nat → Prop} {c : Cm} {vs : List (Value × Value)} {ob : Obj}
    (h : HistH B w p cs F (.slice A0 n c0) In) (hn : cs.length = n) (hc : canBe cs.length c.ps = true) (hb : Below w.heap.size w wx)
    (hvl : vs.length = cs.length) (hints : ∀ (i : Nat) (c : Cm) (u : Value × Value), cs[i]? = some c → vs[i]? = some u → IntsF w In u.1 c.ps ∧ IntsF w In u.2 c.ch)
    (h5 : wx.ownsRow w.heap.size 3 1 (.slice A5 c.ps.length c5) c.ps.length (intC c.ps)) (h6 : wx.ownsRow w.heap.size 3 1 (.slice A6 c.ch.length c6) c.ch.length (intC c.ch))
    (hown2 : w2.ownsRow 0 25 5 (.slice (some ⟨g2, 0, none⟩) (n + 1) c2) (n + 1) (cmsC cs vs ++ cmC c (.slice A5 c.ps.length c5) (.slice A6 c.ch.length c6)))
    (hgrow : (wx.alloc ob).grownBy w2 (Value.slice A0 n c0).ownBlock) (hat : (Value.slice A0 n c0).ownBlock = some g2 ∨ g2 = wx.heap.size + 1) :
    ∃ F', IsH B (w2.setCell ⟨p, 0, none⟩ (.slice (some ⟨g2, 0, none⟩) (n + 1) c2)) p (cs ++ [c]) F' ∧ Goes F w (w2.setCell ⟨p, 0, none⟩ (.slice (some ⟨g2, 0, none⟩) (n + 1) c2)) F' := by
  have hx : HistH B wx p cs F (.slice A0 n c0) In := h.keep (fun g hg => hb.block g (h.in_ g hg).2) hb.size
  have hFx := hx.full
  have hrow0 := hx.row
  obtain ⟨vs', _, hownx, _⟩ := hx.obs
  have hpne : (Value.slice A0 n c0).ownBlock ≠ some p := fun e => (hrow0 p e).2 rfl
  have hF2 : Full w2 p 62 [.slice A0 n c0] := (hFx.alloc ob).grown hgrow (fun e => hpne e.symm)
  have hpg : p ≠ g2 := fun e => hF2.not_row hown2 (by decide) (by rw [e]; rfl)
  have ht : Turn (fun g => g = p ∨ (Value.slice A0 n c0).ownBlock = some g) wx (w2.setCell ⟨p, 0, none⟩ (.slice (some ⟨g2, 0, none⟩) (n + 1) c2)) := by
    have h1 : Turn (fun g => g = p ∨ (Value.slice A0 n c0).ownBlock = some g) wx (wx.alloc ob) := Turn.of ((Below.refl _ wx).alloc (Nat.le_refl _) _)
    have h2 := h1.late (Turn.grown (F := fun g => (Value.slice A0 n c0).ownBlock = some g) hgrow (fun g e => .inl e)) (fun g e => .inl (.inr e))
    exact h2.late (Turn.set_ (F := fun g => g = p) (a := ⟨p, 0, none⟩) rfl _) (fun g e => .inl (.inl e))
  have hBw : B ≤ w.heap.size := Nat.le_trans (h.in_ p h.self).1 (Nat.le_of_lt (h.in_ p h.self).2)
  have hG : ∀ g, ((Value.slice A5 c.ps.length c5).ownBlock = some g ∨ (Value.slice A6 c.ch.length c6).ownBlock = some g) → w.heap.size ≤ g ∧ g < wx.heap.size := fun g hg => by
    rcases hg with hg | hg
    · exact ⟨row_ge h5 g hg, owns_lt h5 g hg⟩
    · exact ⟨row_ge h6 g hg, owns_lt h6 g hg⟩
  obtain ⟨F', k1, k2, k3⟩ := hx.grow (G := fun g => (Value.slice A5 c.ps.length c5).ownBlock = some g ∨ (Value.slice A6 c.ch.length c6).ownBlock = some g) (u := (.slice A5 c.ps.length c5, .slice A6 c.ch.length c6)) (c := c) (vs := vs) ht
    (fun g hg => ⟨fun hf => by have := (h.in_ g hf).2; have := (hG g hg).1; omega, Nat.le_trans hBw (hG g hg).1, (hG g hg).2⟩) hvl
    (fun i c u hc hu => ⟨(hints i c u hc hu).1.keep fun g hg => ⟨hg, hb.block g (h.in_ g (h.inn g hg).1).2⟩, (hints i c u hc hu).2.keep fun g hg => ⟨hg, hb.block g (h.in_ g (h.inn g hg).1).2⟩⟩)
    ⟨IntsF.own h5 (fun g e => .inl e), IntsF.own h6 (fun g e => .inr e)⟩ (hF2.set_ 0 _)
    (by rw [hn]; exact owns_keep hown2 fun g e => Below.heap_setCell _ _ _ g (fun e' => hpg (by
      obtain rfl : g2 = g := by simpa [Value.ownBlock] using e
      exact e'.symm))) (hat.imp id fun e => ⟨g2, rfl, by omega⟩) hc
  refine ⟨F', k1, (Turn.of hb).late k2 (fun g hg => .inl hg), fun g hg => ?_⟩
  rcases k3 g hg with e | e | e
  · exact .inl e
  · exact .inr (hG g e).1
  · exact .inr (Nat.le_trans hb.size e)
set_option maxHeartbeats 8000000 in
theorem add_any {B : Nat} {w : World} {p : Nat} {cs : List Cm} {F : Nat → Prop} (hh : IsH B w p cs F) (hs : cs.length ≤ 1000) {B1 m1 d1 m2 d2 : Nat} {A1 A2 : Option Addr} {ps ch : List Int} {t : Int} {au : ByteArray} {em : Bool}
    (r1 : Row w B1 1 A1 m1 d1 (intC ps)) (r2 : Row w B1 1 A2 m2 d2 (intC ch)) (hB1 : B1 ≤ w.heap.size) (hm1 : m1 ≤ 1099511627776) (hm2 : m2 ≤ 1099511627776) :
    Calls Try.prog 16 #[.pointer (some ⟨p, 0, none⟩), .agg #[.slice A1 m1 d1, .int .i64 t, .string au, .slice A2 m2 d2, .bool em]] w (AddOut B w p cs F ⟨ps, t, au, ch, em⟩) := by
  unfold AddOut
  dsimp only
  obtain ⟨w1, hw1⟩ : ∃ w1, w.alloc (.cells #[.slice A1 m1 d1, .int .i64 t, .string au, .slice A2 m2 d2, .bool em] 25) = w1 := ⟨_, rfl⟩
  have hb1 : Below w.heap.size w w1 := by rw [← hw1]; exact (Below.refl _ w).alloc (Nat.le_refl _) _
  have K1 : Full w1 w.heap.size 25 [.slice A1 m1 d1, .int .i64 t, .string au, .slice A2 m2 d2, .bool em] := by rw [← hw1]; exact Full.new w 25 [.slice A1 m1 d1, .int .i64 t, .string au, .slice A2 m2 d2, .bool em]
  have k0 : w1.cell? ⟨w.heap.size, 0, none⟩ = some (.slice A1 m1 d1) := K1.cell 0
  have CN := Lib.hid (can_any (some ⟨p, 0, none⟩) (Row.below r1 hb1 hB1) (by unfold maxLen; omega) (fun a => has_any (hh.on hb1) a))
  unfold CanOut at CN
  have CP := Lib.hid (fun (W : World) (hW : Below w.heap.size w W) => copy_any (t := t) (au := au) (em := em) (Row.below r1 hW hB1) (Row.below r2 hW hB1) (Nat.le_trans hB1 hW.size) hm1 hm2)
  unfold CopyOut at CP
  obtain ⟨r, hr⟩ : ∃ r, canBe cs.length ps = r := ⟨_, rfl⟩
  have HR := Lib.hid hr
  rw [hr] at CN ⊢
  have HB1 := Lib.hid hb1
  have HK1 := Lib.hid K1
  cases r with
  | false =>
    clear r1 r2 hh hr hb1 K1
    go_enter Try.func16, Try.ntmps16
    go_upto_region 1 with fail
    clear hw1
    go_wp2_with (go_at_call 37; ((with_reducible refine CN.out.mono ?_); rintro e w2 ⟨rfl, q, rfl⟩))
    refine bodyPost_ret (v := .tuple #[.int .i64 0, .int .i64 1]) (by simp [results, Try.results16, go_sem]) rfl ?_
    exact .inr ⟨by first | rfl | trivial, rfl, Below.drewN_ HB1.out q⟩
  | true =>
    obtain ⟨v, In, h⟩ := hh
    obtain ⟨vs, hvl, hown, hints⟩ := h.obs
    obtain ⟨A0, c0, rfl⟩ := own_form hown
    have hp := h.in_ p h.self
    have hpne : ∀ g, (Value.slice A0 cs.length c0).ownBlock = some g → g < w.heap.size ∧ g ≠ p := fun g e => ⟨(h.in_ g (h.row g e).1).2, (h.row g e).2⟩
    have e1 : ps.length = m1 := by have := r1.1; rw [intC_len] at this; omega
    have e2 : ch.length = m2 := by have := r2.1; rw [intC_len] at this; omega
    obtain ⟨n, hn⟩ : ∃ n, cs.length = n := ⟨_, rfl⟩
    rw [hn] at hs hpne
    have hF := h.full
    rw [hn] at hF
    have HF := Lib.hid hF
    have hownn := hown
    rw [hn] at hownn
    have HO := Lib.hid (fun (W : World) (hW : Below w.heap.size w W) => own_keep hownn hW)
    have HFIN := Lib.hid (fun (wx w2 : World) (A5 A6 : Option Addr) (c5 c6 g2 c2 : Nat) (ob : Obj) (hb : Below w.heap.size w wx) h5 h6 hown2 hgrow hat => add_fin (w2 := w2) (g2 := g2) (c2 := c2) (c5 := c5) (c6 := c6) (A5 := A5) (A6 := A6) (ob := ob) (c := ⟨ps, t, au, ch, em⟩) (hn ▸ h) hn hr hb hvl hints h5 h6 hown2 hgrow hat)
    dsimp only at HFIN
    rw [e1, e2] at HFIN CP
    obtain ⟨xs, hxs⟩ : ∃ xs, cmsC cs vs = xs := ⟨_, rfl⟩
    rw [hxs] at HFIN HO
    have MN := Lib.hid (fun (W : World) (F' : Nat → Prop) (hW : IsH B W p (cs ++ [⟨ps, t, au, ch, em⟩]) F') => (show Calls Try.prog 23 #[.pointer (some ⟨p, 0, none⟩)] W fun e w' => e = .returned (.int .i64 ((n : Int) + 1)) ∧ W = w' from by
      have := many_any hW
      rw [List.length_append, hn] at this
      exact this))
    obtain ⟨i25, hi, hz0, hz1, hz2⟩ := info_parts info25
    rw [hn]
    obtain ⟨cs', hcs'⟩ : ∃ cs', cs ++ [(⟨ps, t, au, ch, em⟩ : Cm)] = cs' := ⟨_, rfl⟩
    rw [hcs'] at HFIN MN ⊢
    clear r1 r2 hr hb1 K1 h hown hints hvl hF hownn hn hxs e1 e2 hcs'
    go_enter Try.func16, Try.ntmps16
    go_upto_region 1 with fail
    clear hw1
    go_upto_region 3 with (go_at_call 37; ((with_reducible refine CN.out.mono ?_); rintro e w2 ⟨rfl, q, rfl⟩))
    have HBD := Lib.hid (show Below w.heap.size w (w1.drewN (q + 1)) from Below.drewN_ HB1.out (q + 1))
    have HFD := Lib.hid (HF.out.on HBD.out)
    have HKD := Lib.hid (show Full (w1.drewN (q + 1)) w.heap.size 25 _ from HK1.out.drewN (q + 1))
    have s0 : (w1.drewN (q + 1)).cell? ⟨p, 0, none⟩ = some (.slice A0 n c0) := HFD.out.cell 0
    have s1 : (w1.drewN (q + 1)).cell? ⟨w.heap.size, 0, none⟩ = some (.slice A1 m1 d1) := HKD.out.cell 0
    have s2 : (w1.drewN (q + 1)).cell? ⟨w.heap.size, 1, none⟩ = some (.int .i64 t) := HKD.out.cell 1
    have s3 : (w1.drewN (q + 1)).cell? ⟨w.heap.size, 2, none⟩ = some (.string au) := HKD.out.cell 2
    have s4 : (w1.drewN (q + 1)).cell? ⟨w.heap.size, 3, none⟩ = some (.slice A2 m2 d2) := HKD.out.cell 3
    have s5 : (w1.drewN (q + 1)).cell? ⟨w.heap.size, 4, none⟩ = some (.bool em) := HKD.out.cell 4
    have t0 : (w1.drewN (q + 1)).cell? ⟨p, 0, none⟩ = some (.slice A0 n c0) := HFD.out.cell 0
    go_region_law
      (first
        | (refine step_call_fn rfl 38 _ _ rfl #[.agg #[.slice A1 m1 d1, .int .i64 t, .string au, .slice A2 m2 d2, .bool em]] (by rfl) (enters_of Try.func38 (by kernel_rfl) rfl) (CP.out _ HBD.out) ?_; rintro e wx ⟨a5, a6, rfl, ho5, ho6, hap5, hbx⟩; refine ⟨_, rfl, ?_⟩; (obtain ⟨A5, c5, rfl⟩ := own_form ho5); (obtain ⟨A6, c6, rfl⟩ := own_form ho6); (have HFX := HFD.out.on hbx); (have HKX := HKD.out.on hbx); (have x0 : wx.cell? ⟨p, 0, none⟩ = some (.slice A0 n c0) := Full.cell HFX 0); (have x1 : wx.cell? ⟨w.heap.size, 0, none⟩ = some (.slice A1 m1 d1) := Full.cell HKX 0); (have x2 : wx.cell? ⟨w.heap.size, 1, none⟩ = some (.int .i64 t) := Full.cell HKX 1); (have x3 : wx.cell? ⟨w.heap.size, 2, none⟩ = some (.string au) := Full.cell HKX 2); (have x4 : wx.cell? ⟨w.heap.size, 3, none⟩ = some (.slice A2 m2 d2) := Full.cell HKX 3); (have x5 : wx.cell? ⟨w.heap.size, 4, none⟩ = some (.bool em) := Full.cell HKX 4); (have HFY := HFX.alloc (.cells #[.slice A5 m1 c5, .int .i64 t, .string au, .slice A6 m2 c6, .bool em] 25)); (have HKY := HKX.alloc (.cells #[.slice A5 m1 c5, .int .i64 t, .string au, .slice A6 m2 c6, .bool em] 25)); (have y0 : (wx.alloc (.cells #[.slice A5 m1 c5, .int .i64 t, .string au, .slice A6 m2 c6, .bool em] 25)).cell? ⟨p, 0, none⟩ = some (.slice A0 n c0) := Full.cell HFY 0); (have y1 : (wx.alloc (.cells #[.slice A5 m1 c5, .int .i64 t, .string au, .slice A6 m2 c6, .bool em] 25)).cell? ⟨w.heap.size, 0, none⟩ = some (.slice A1 m1 d1) := Full.cell HKY 0); (have y2 : (wx.alloc (.cells #[.slice A5 m1 c5, .int .i64 t, .string au, .slice A6 m2 c6, .bool em] 25)).cell? ⟨w.heap.size, 1, none⟩ = some (.int .i64 t) := Full.cell HKY 1); (have y3 : (wx.alloc (.cells #[.slice A5 m1 c5, .int .i64 t, .string au, .slice A6 m2 c6, .bool em] 25)).cell? ⟨w.heap.size, 2, none⟩ = some (.string au) := Full.cell HKY 2); (have y4 : (wx.alloc (.cells #[.slice A5 m1 c5, .int .i64 t, .string au, .slice A6 m2 c6, .bool em] 25)).cell? ⟨w.heap.size, 3, none⟩ = some (.slice A2 m2 d2) := Full.cell HKY 3); (have y5 : (wx.alloc (.cells #[.slice A5 m1 c5, .int .i64 t, .string au, .slice A6 m2 c6, .bool em] 25)).cell? ⟨w.heap.size, 4, none⟩ = some (.bool em) := Full.cell HKY 4))
        | (refine step_append_lies _ (by rfl) _ _ _ (by rfl) 0 25 i25 _ 5 80 Try.underlying58 hi hz0 hz1 hz2 rfl (by omega) (.slice A0 n c0) n _ (by rfl) ((HO.out wx (Below.then_ HBD.out hbx)).alloc _) ⟨wx.heap.size, 0, none⟩ 1 1 [.slice A5 m1 c5, .int .i64 t, .string au, .slice A6 m2 c6, .bool em] (by rfl) (by rfl) (World.news_of_block (cs := #[.slice A5 m1 c5, .int .i64 t, .string au, .slice A6 m2 c6, .bool em]) (t := 25) (fr := (0, 0)) (heap_alloc_new wx _)) (by simp [Value.oneCell']) (by omega) (by unfold maxLen; omega) (by omega) (by simp) (wx.heap.size + 1) (by simp) ?_; intro gg cap w5 hown5 hgrow5 hat5 hlt5; (have HFZ := HFY.grown hgrow5 (fun e => (hpne _ e.symm).2 rfl)); (have HKZ := HKY.grown hgrow5 (fun e => by have := (hpne _ e.symm).1; omega)); (have z0 : w5.cell? ⟨p, 0, none⟩ = some (.slice A0 n c0) := Full.cell HFZ 0); (have z1 : w5.cell? ⟨w.heap.size, 0, none⟩ = some (.slice A1 m1 d1) := Full.cell HKZ 0); (have z2 : w5.cell? ⟨w.heap.size, 1, none⟩ = some (.int .i64 t) := Full.cell HKZ 1); (have z3 : w5.cell? ⟨w.heap.size, 2, none⟩ = some (.string au) := Full.cell HKZ 2); (have z4 : w5.cell? ⟨w.heap.size, 3, none⟩ = some (.slice A2 m2 d2) := Full.cell HKZ 3); (have z5 : w5.cell? ⟨w.heap.size, 4, none⟩ = some (.bool em) := Full.cell HKZ 4); (have zf := HFZ.frozen 0))
        | (fail "arm"))
    all_goals
      have hfin := HFIN.out wx w5 A5 A6 c5 c6 gg cap _ (Below.then_ HBD.out hbx) (owns_base ho5 (fun g e => Nat.le_trans HB1.out.size (row_ge ho5 g e))) (owns_base ho6 (fun g e => Nat.le_trans HB1.out.size (row_ge ho6 g e))) hown5 hgrow5 hat5
      obtain ⟨F', k1, k2⟩ := hfin
      go_wp2_with (go_at_call 23; ((with_reducible refine (MN.out _ F' k1).mono ?_); rintro e w6 ⟨rfl, rfl⟩))
      refine bodyPost_ret (v := .tuple #[.int .i64 ((n : Int) + 1), .int .i64 0]) (by simp [results, Try.results16, go_sem]) rfl ?_
      exact .inl ⟨by first | rfl | trivial, rfl, F', k1, k2⟩
end Go.Proofs.Ytiikbekboapphaa
