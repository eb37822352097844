/- The Syntax seat, part 3: contracts of the program and of the reference. -/
import Derived.Test.YtcjoiiaankngjaaGreatDoorM2
/- wholeTarget. -/
namespace Go.Proofs.YtcjoiiaankngjaaGreatDoor
set_option maxRecDepth 100000
open Go.RowKit
theorem ps_store9y {w : World} {b a m hh : Nat} {σ : Pst} {T : Tgt} {vs : Nat → Value} (h : PS w b σ (tR a m hh T vs)) (y0 y1 y2 y3 y4 y5 y6 y7 y8 : Value) :
    (w.cell? ⟨b, 9, none⟩ = some (.string (str T.name)) ∧ w.frozen? ⟨b, 9, none⟩ = false) ∧ ((w.setCell ⟨b, 9, none⟩ y0).cell? ⟨b, 10, none⟩ = some (.int .i64 T.kind) ∧ (w.setCell ⟨b, 9, none⟩ y0).frozen? ⟨b, 10, none⟩ = false) ∧ (((w.setCell ⟨b, 9, none⟩ y0).setCell ⟨b, 10, none⟩ y1).cell? ⟨b, 11, none⟩ = some (.int .i64 (T.line : Int)) ∧ ((w.setCell ⟨b, 9, none⟩ y0).setCell ⟨b, 10, none⟩ y1).frozen? ⟨b, 11, none⟩ = false) ∧ ((((w.setCell ⟨b, 9, none⟩ y0).setCell ⟨b, 10, none⟩ y1).setCell ⟨b, 11, none⟩ y2).cell? ⟨b, 12, none⟩ = some (vs 0) ∧ (((w.setCell ⟨b, 9, none⟩ y0).setCell ⟨b, 10, none⟩ y1).setCell ⟨b, 11, none⟩ y2).frozen? ⟨b, 12, none⟩ = false) ∧ (((((w.setCell ⟨b, 9, none⟩ y0).setCell ⟨b, 10, none⟩ y1).setCell ⟨b, 11, none⟩ y2).setCell ⟨b, 12, none⟩ y3).cell? ⟨b, 13, none⟩ = some (vs 1) ∧ ((((w.setCell ⟨b, 9, none⟩ y0).setCell ⟨b, 10, none⟩ y1).setCell ⟨b, 11, none⟩ y2).setCell ⟨b, 12, none⟩ y3).frozen? ⟨b, 13, none⟩ = false) ∧ ((((((w.setCell ⟨b, 9, none⟩ y0).setCell ⟨b, 10, none⟩ y1).setCell ⟨b, 11, none⟩ y2).setCell ⟨b, 12, none⟩ y3).setCell ⟨b, 13, none⟩ y4).cell? ⟨b, 14, none⟩ = some (vs 2) ∧ (((((w.setCell ⟨b, 9, none⟩ y0).setCell ⟨b, 10, none⟩ y1).setCell ⟨b, 11, none⟩ y2).setCell ⟨b, 12, none⟩ y3).setCell ⟨b, 13, none⟩ y4).frozen? ⟨b, 14, none⟩ = false) ∧ (((((((w.setCell ⟨b, 9, none⟩ y0).setCell ⟨b, 10, none⟩ y1).setCell ⟨b, 11, none⟩ y2).setCell ⟨b, 12, none⟩ y3).setCell ⟨b, 13, none⟩ y4).setCell ⟨b, 14, none⟩ y5).cell? ⟨b, 15, none⟩ = some (vs 3) ∧ ((((((w.setCell ⟨b, 9, none⟩ y0).setCell ⟨b, 10, none⟩ y1).setCell ⟨b, 11, none⟩ y2).setCell ⟨b, 12, none⟩ y3).setCell ⟨b, 13, none⟩ y4).setCell ⟨b, 14, none⟩ y5).frozen? ⟨b, 15, none⟩ = false) ∧ ((((((((w.setCell ⟨b, 9, none⟩ y0).setCell ⟨b, 10, none⟩ y1).setCell ⟨b, 11, none⟩ y2).setCell ⟨b, 12, none⟩ y3).setCell ⟨b, 13, none⟩ y4).setCell ⟨b, 14, none⟩ y5).setCell ⟨b, 15, none⟩ y6).cell? ⟨b, 16, none⟩ = some (.int .i64 T.cost) ∧ (((((((w.setCell ⟨b, 9, none⟩ y0).setCell ⟨b, 10, none⟩ y1).setCell ⟨b, 11, none⟩ y2).setCell ⟨b, 12, none⟩ y3).setCell ⟨b, 13, none⟩ y4).setCell ⟨b, 14, none⟩ y5).setCell ⟨b, 15, none⟩ y6).frozen? ⟨b, 16, none⟩ = false) ∧ (((((((((w.setCell ⟨b, 9, none⟩ y0).setCell ⟨b, 10, none⟩ y1).setCell ⟨b, 11, none⟩ y2).setCell ⟨b, 12, none⟩ y3).setCell ⟨b, 13, none⟩ y4).setCell ⟨b, 14, none⟩ y5).setCell ⟨b, 15, none⟩ y6).setCell ⟨b, 16, none⟩ y7).cell? ⟨b, 17, none⟩ = some (.int .i64 T.retry) ∧ ((((((((w.setCell ⟨b, 9, none⟩ y0).setCell ⟨b, 10, none⟩ y1).setCell ⟨b, 11, none⟩ y2).setCell ⟨b, 12, none⟩ y3).setCell ⟨b, 13, none⟩ y4).setCell ⟨b, 14, none⟩ y5).setCell ⟨b, 15, none⟩ y6).setCell ⟨b, 16, none⟩ y7).frozen? ⟨b, 17, none⟩ = false) ∧ PS (((((((((w.setCell ⟨b, 9, none⟩ y0).setCell ⟨b, 10, none⟩ y1).setCell ⟨b, 11, none⟩ y2).setCell ⟨b, 12, none⟩ y3).setCell ⟨b, 13, none⟩ y4).setCell ⟨b, 14, none⟩ y5).setCell ⟨b, 15, none⟩ y6).setCell ⟨b, 16, none⟩ y7).setCell ⟨b, 17, none⟩ y8) b σ [.map (some a), .map (some m), y0, y1, y2, y3, y4, y5, y6, y7, y8, .map (some hh), .int .i64 (T.rl : Int)] :=
  ⟨⟨(ts_cell h 2).1, (ts_cell h 2).2⟩, ⟨(ts_cell (ps_set h 2 y0) 3).1, (ts_cell (ps_set h 2 y0) 3).2⟩, ⟨(ts_cell (ps_set (ps_set h 2 y0) 3 y1) 4).1, (ts_cell (ps_set (ps_set h 2 y0) 3 y1) 4).2⟩, ⟨(ts_cell (ps_set (ps_set (ps_set h 2 y0) 3 y1) 4 y2) 5).1, (ts_cell (ps_set (ps_set (ps_set h 2 y0) 3 y1) 4 y2) 5).2⟩, ⟨(ts_cell (ps_set (ps_set (ps_set (ps_set h 2 y0) 3 y1) 4 y2) 5 y3) 6).1, (ts_cell (ps_set (ps_set (ps_set (ps_set h 2 y0) 3 y1) 4 y2) 5 y3) 6).2⟩, ⟨(ts_cell (ps_set (ps_set (ps_set (ps_set (ps_set h 2 y0) 3 y1) 4 y2) 5 y3) 6 y4) 7).1, (ts_cell (ps_set (ps_set (ps_set (ps_set (ps_set h 2 y0) 3 y1) 4 y2) 5 y3) 6 y4) 7).2⟩, ⟨(ts_cell (ps_set (ps_set (ps_set (ps_set (ps_set (ps_set h 2 y0) 3 y1) 4 y2) 5 y3) 6 y4) 7 y5) 8).1, (ts_cell (ps_set (ps_set (ps_set (ps_set (ps_set (ps_set h 2 y0) 3 y1) 4 y2) 5 y3) 6 y4) 7 y5) 8).2⟩, ⟨(ts_cell (ps_set (ps_set (ps_set (ps_set (ps_set (ps_set (ps_set h 2 y0) 3 y1) 4 y2) 5 y3) 6 y4) 7 y5) 8 y6) 9).1, (ts_cell (ps_set (ps_set (ps_set (ps_set (ps_set (ps_set (ps_set h 2 y0) 3 y1) 4 y2) 5 y3) 6 y4) 7 y5) 8 y6) 9).2⟩, ⟨(ts_cell (ps_set (ps_set (ps_set (ps_set (ps_set (ps_set (ps_set (ps_set h 2 y0) 3 y1) 4 y2) 5 y3) 6 y4) 7 y5) 8 y6) 9 y7) 10).1, (ts_cell (ps_set (ps_set (ps_set (ps_set (ps_set (ps_set (ps_set (ps_set h 2 y0) 3 y1) 4 y2) 5 y3) 6 y4) 7 y5) 8 y6) 9 y7) 10).2⟩, (ps_set (ps_set (ps_set (ps_set (ps_set (ps_set (ps_set (ps_set (ps_set h 2 y0) 3 y1) 4 y2) 5 y3) 6 y4) 7 y5) 8 y6) 9 y7) 10 y8)⟩
theorem Turn.set9r (w' : World) (r : Nat) (y0 y1 y2 y3 y4 y5 y6 y7 y8 : Value) : Turn (fun g => g = r) w' (((((((((w'.setCell ⟨r, 0, none⟩ y0).setCell ⟨r, 1, none⟩ y1).setCell ⟨r, 2, none⟩ y2).setCell ⟨r, 3, none⟩ y3).setCell ⟨r, 4, none⟩ y4).setCell ⟨r, 5, none⟩ y5).setCell ⟨r, 6, none⟩ y6).setCell ⟨r, 7, none⟩ y7).setCell ⟨r, 8, none⟩ y8) := ((((((((((Turn.refl (fun g => g = r) w').setb rfl 0 y0).setb rfl 1 y1).setb rfl 2 y2).setb rfl 3 y3).setb rfl 4 y4).setb rfl 5 y5).setb rfl 6 y6).setb rfl 7 y7).setb rfl 8 y8)
def tgtV (T : Tgt) (vs : Nat → Value) : Value := .agg #[.string (str T.name), .int .i64 T.kind, .int .i64 (T.line : Int), vs 0, vs 1, vs 2, vs 3, .int .i64 T.cost, .int .i64 T.retry]
def GB (b m hh : Nat) : Nat → Prop := fun g => g = b ∨ g = hh ∨ g = m
def WholeOut (w : World) (b a m hh n : Nat) (r : Pst × Tgt × Kn) (en : Ending) (w' : World) : Prop :=
  ∃ vs, en = .returned (tgtV r.2.1 vs) ∧ PS w' b r.1 (tR a m hh r.2.1 vs) ∧ Rows4 w' w.heap.size r.2.1.rows vs ∧ Names w' m (n + 1) r.2.2 ∧ (∃ nh, Names w' hh nh r.2.1.had) ∧ Turn (GB b m hh) w w'
theorem tgt_cells {W : World} {b a m hh : Nat} {σ : Pst} {T : Tgt} {vs : Nat → Value} {sn : ByteArray} {kd co rt : Int} {ln : Nat} (hP : PS W b σ (tR a m hh T vs)) (e0 : str T.name = sn) (e1 : T.kind = kd) (e2 : T.line = ln) (e7 : T.cost = co) (e8 : T.retry = rt) :
    W.cell? ⟨b, 9, none⟩ = some (.string sn) ∧ W.cell? ⟨b, 10, none⟩ = some (.int .i64 kd) ∧ W.cell? ⟨b, 11, none⟩ = some (.int .i64 (ln : Int)) ∧ W.cell? ⟨b, 12, none⟩ = some (vs 0) ∧ W.cell? ⟨b, 13, none⟩ = some (vs 1) ∧ W.cell? ⟨b, 14, none⟩ = some (vs 2) ∧ W.cell? ⟨b, 15, none⟩ = some (vs 3) ∧
    W.cell? ⟨b, 16, none⟩ = some (.int .i64 co) ∧ W.cell? ⟨b, 17, none⟩ = some (.int .i64 rt) := by
  subst e0 e1 e2 e7 e8
  exact ⟨(ts_cell hP 2).1, (ts_cell hP 3).1, (ts_cell hP 4).1, (ts_cell hP 5).1, (ts_cell hP 6).1, (ts_cell hP 7).1, (ts_cell hP 8).1, (ts_cell hP 9).1, (ts_cell hP 10).1⟩
theorem gb_ft {w w1 w2 : World} {b m hh base : Nat} (t : Turn (GB b m hh) w w1) (k : Turn (FT b hh base) w1 w2) (hb : w.heap.size ≤ base) : Turn (GB b m hh) w w2 :=
  t.late k fun g e => by
    rcases e with e | e | e
    · exact .inl (.inl e)
    · exact .inl (.inr (.inl e))
    · exact .inr (by omega)
theorem gb_b {w w1 w2 : World} {b m hh : Nat} (t : Turn (GB b m hh) w w1) (k : Turn (fun g => g = b) w1 w2) : Turn (GB b m hh) w w2 := t.trans_ (k.mono fun _ e => .inl e)
/-- how a target ends: its cells are read and laid into the result's block -/
theorem whole_end {w w2 : World} {b a m hh n base r : Nat} {σ : Pst} {T9 : Tgt} {K : Kn} {vs9 : Nat → Value} (hP : PS w2 b σ (tR a m hh T9 vs9)) (hR : Rows4 w2 base T9.rows vs9) (hH : ∃ nh, Names w2 hh nh T9.had) (hN : Names w2 m n K) (hT : Turn (GB b m hh) w w2)
    (hr : w.heap.size ≤ r) (hrb : b < r) (hrm : m < r) (hrh : hh < r) (hrB : r < base) (hB : w.heap.size ≤ base) (y0 y1 y2 y3 y4 y5 y6 y7 y8 : Value) :
    PS (((((((((w2.setCell ⟨r, 0, none⟩ y0).setCell ⟨r, 1, none⟩ y1).setCell ⟨r, 2, none⟩ y2).setCell ⟨r, 3, none⟩ y3).setCell ⟨r, 4, none⟩ y4).setCell ⟨r, 5, none⟩ y5).setCell ⟨r, 6, none⟩ y6).setCell ⟨r, 7, none⟩ y7).setCell ⟨r, 8, none⟩ y8) b σ (tR a m hh T9 vs9) ∧ Rows4 (((((((((w2.setCell ⟨r, 0, none⟩ y0).setCell ⟨r, 1, none⟩ y1).setCell ⟨r, 2, none⟩ y2).setCell ⟨r, 3, none⟩ y3).setCell ⟨r, 4, none⟩ y4).setCell ⟨r, 5, none⟩ y5).setCell ⟨r, 6, none⟩ y6).setCell ⟨r, 7, none⟩ y7).setCell ⟨r, 8, none⟩ y8) w.heap.size T9.rows vs9 ∧ Names (((((((((w2.setCell ⟨r, 0, none⟩ y0).setCell ⟨r, 1, none⟩ y1).setCell ⟨r, 2, none⟩ y2).setCell ⟨r, 3, none⟩ y3).setCell ⟨r, 4, none⟩ y4).setCell ⟨r, 5, none⟩ y5).setCell ⟨r, 6, none⟩ y6).setCell ⟨r, 7, none⟩ y7).setCell ⟨r, 8, none⟩ y8) m n K ∧ (∃ nh, Names (((((((((w2.setCell ⟨r, 0, none⟩ y0).setCell ⟨r, 1, none⟩ y1).setCell ⟨r, 2, none⟩ y2).setCell ⟨r, 3, none⟩ y3).setCell ⟨r, 4, none⟩ y4).setCell ⟨r, 5, none⟩ y5).setCell ⟨r, 6, none⟩ y6).setCell ⟨r, 7, none⟩ y7).setCell ⟨r, 8, none⟩ y8) hh nh T9.had) ∧ Turn (GB b m hh) w (((((((((w2.setCell ⟨r, 0, none⟩ y0).setCell ⟨r, 1, none⟩ y1).setCell ⟨r, 2, none⟩ y2).setCell ⟨r, 3, none⟩ y3).setCell ⟨r, 4, none⟩ y4).setCell ⟨r, 5, none⟩ y5).setCell ⟨r, 6, none⟩ y6).setCell ⟨r, 7, none⟩ y7).setCell ⟨r, 8, none⟩ y8) := by
  have t := Turn.set9r w2 r y0 y1 y2 y3 y4 y5 y6 y7 y8
  refine ⟨hP.farT t (by omega), ?_, hN.far t (by omega), hH.imp fun nh q => q.far t (by omega), hT.late t fun g e => .inr (by omega)⟩
  have q := hR.turn t (fun g e => by omega)
  exact ⟨fun i hi => own_base (q.own i hi) hB, q.apart⟩
theorem rt0_no {rt : Int} (z : rt = 0) (b : (rt == 0) = false) : False := by rw [z] at b; exact absurd b (by decide)
theorem bne_no {rt kd : Int} (z : (rt != 0) = false ∨ (kd != 3) = false) (b1 : (rt == 0) = false) (b2 : (kd == 3) = false) : False := by rcases z with z | z <;> simp_all [bne]
set_option maxHeartbeats 8000000 in
theorem whole_any {w : World} {b a m hh n nh : Nat} {t : Tok} {r : List Tok} {T0 : Tgt} {vs0 : Nat → Value} {Km K0 : Kn} (h : PS w b (.ok (t :: r)) (tR a m hh T0 vs0)) (hN : Names w m n Km) (hH : Names w hh nh K0) (hA : Attrs w a b) (hL : Laid w)
    (hb9 : 9 ≤ b) (hh9 : 9 ≤ hh) (hm9 : 9 ≤ m) (hmb : m ≠ b) (hmh : m ≠ hh) (hne : hh ≠ b) (hab : a ≠ b) (hah : a ≠ hh) (ham : a ≠ m) (hn : n < maxLen) (ht : 2 ≤ t.cls) :
    Calls Tryz.prog 76 #[.pointer (some ⟨b, 0, none⟩)] w (WholeOut w b a m hh n (pWhole t.ln T0.rl Km (.ok r))) := by
  unfold WholeOut pWhole pBody
  obtain ⟨l, hl⟩ : ∃ l, t.ln = l := ⟨_, rfl⟩
  obtain ⟨rl, hrl⟩ : ∃ l, T0.rl = l := ⟨_, rfl⟩
  obtain ⟨nm, hnm⟩ : ∃ x, (pAny 2 (.ok r)).1 = x := ⟨_, rfl⟩
  obtain ⟨σ2, h2⟩ : ∃ x, (pAny 2 (.ok r)).2 = x := ⟨_, rfl⟩
  rw [hl, hrl, hnm, h2]
  obtain ⟨σ3, h3⟩ : ∃ x, pOnce Km nm σ2 = x := ⟨_, rfl⟩
  obtain ⟨σ4, h4⟩ : ∃ x, pExpect [123] σ3 = x := ⟨_, rfl⟩
  obtain ⟨T2, hT2⟩ : ∃ x, ({ tgt0 l rl with name := nm.txt } : Tgt) = x := ⟨_, rfl⟩
  rw [h3, h4, hT2]
  obtain ⟨r9, h9⟩ : ∃ x, pAttrs (plen σ4 + 1) (σ4, T2) = x := ⟨_, rfl⟩
  obtain ⟨σ5, T9⟩ := r9
  rw [h9]
  dsimp only
  obtain ⟨σ6, h6⟩ : ∃ x, pExpect [125] σ5 = x := ⟨_, rfl⟩
  obtain ⟨K9, hK9⟩ : ∃ x, kPut Km nm.txt = x := ⟨_, rfl⟩
  rw [h6, hK9]
  obtain ⟨tx, htx⟩ : ∃ l, str t.txt = l := ⟨_, rfl⟩
  obtain ⟨tc, htc⟩ : ∃ l : Nat, t.cls = l := ⟨_, rfl⟩
  obtain ⟨nx, hnx⟩ : ∃ l, str nm.txt = l := ⟨_, rfl⟩
  obtain ⟨nl, hnl⟩ : ∃ l : Nat, nm.ln = l := ⟨_, rfl⟩
  obtain ⟨nc, hnc⟩ : ∃ l : Nat, nm.cls = l := ⟨_, rfl⟩
  obtain ⟨w1, hw1⟩ : ∃ w1, w.alloc (.cells #[.string ⟨#[]⟩, .int .i64 0, .int .i64 0, .slice none 0 0, .slice none 0 0, .slice none 0 0, .slice none 0 0, .int .i64 0, .int .i64 0] 50) = w1 := ⟨_, rfl⟩
  have hb1 : Below w.heap.size w w1 := by rw [← hw1]; exact (Below.refl _ w).alloc (Nat.le_refl _) _
  have F1 : Full w1 w.heap.size 50 [.string ⟨#[]⟩, .int .i64 0, .int .i64 0, .slice none 0 0, .slice none 0 0, .slice none 0 0, .slice none 0 0, .int .i64 0, .int .i64 0] := by rw [← hw1]; exact Full.new w 50 _
  have AD := adv_any (h.on hb1) ht
  unfold tokV at AD
  rw [htx, htc, hl] at AD
  obtain ⟨q, hq⟩ : ∃ q, w.heap.size = q := ⟨_, rfl⟩
  have hbq : b < q := by rw [← hq]; exact h.lt
  have hmq : m < q := by rw [← hq]; exact hN.lt
  have hhq : hh < q := by rw [← hq]; exact hH.lt
  have haq : a < q := by rw [← hq]; exact hA.lt
  rw [hq] at F1
  have FD := Lib.hid (fun W => (by kernel_rfl : (Instr.field 91 (.agg #[.int .i64 (tc : Int), .string tx, .int .i64 (l : Int)]) 2).run Tryz.prog W = .ok (.int .i64 (l : Int)) W))
  have HAD := Lib.hid AD
  have hwq : w.heap.size ≤ q := by omega
  have HF1 := Lib.hid F1
  have HB1 := Lib.hid hb1
  have HN := Lib.hid hN
  have HH := Lib.hid hH
  have HA := Lib.hid (fun (W : World) (g : Turn (GB b m hh) w W) => hA.far g (fun e => by rcases e with e | e | e; exact hab e; exact hah e; exact ham e))
  have HL := Lib.hid (fun (W : World) (g : Turn (GB b m hh) w W) => hL.turn g (fun g e => by rcases e with e | e | e <;> omega))
  have HE := Lib.hid (And.intro hnm (And.intro h2 (And.intro h3 (And.intro h4 (And.intro hT2 (And.intro h9 (And.intro h6 (And.intro hK9 (And.intro hrl (And.intro hnx (And.intro hnl (And.intro hnc hq))))))))))))
  clear hnm h2 h3 h4 hT2 h9 h6 hK9 htx htc hnx hnl hnc hl hrl AD F1 hb1 hN hH hA hL h ht
  go_enter Tryz.func76, Tryz.ntmps76
  go_upto_region 2 with (first
    | (go_at_call 112; ((with_reducible refine HAD.out.mono ?_); rintro en w2 ⟨rfl, hP2, hT2⟩; (have hfd := FD.out w2); (obtain ⟨⟨z0, zf0⟩, ⟨z1, zf1⟩, ⟨z2, zf2⟩, ⟨z3, zf3⟩, ⟨z4, zf4⟩, ⟨z5, zf5⟩, ⟨z6, zf6⟩, ⟨z7, zf7⟩, ⟨z8, zf8⟩, hP3⟩ := ps_store9y hP2 (.string ⟨#[]⟩) (.int .i64 1) (.int .i64 (l : Int)) (.slice none 0 0) (.slice none 0 0) (.slice none 0 0) (.slice none 0 0) (.int .i64 1) (.int .i64 0))))
    | (fail "arm"))
  clear hq
  obtain ⟨w3, hw3⟩ : ∃ w3, (((((((((w2.setCell ⟨b, 9, none⟩ (.string ⟨#[]⟩)).setCell ⟨b, 10, none⟩ (.int .i64 1)).setCell ⟨b, 11, none⟩ (.int .i64 (l : Int))).setCell ⟨b, 12, none⟩ (.slice none 0 0)).setCell ⟨b, 13, none⟩ (.slice none 0 0)).setCell ⟨b, 14, none⟩ (.slice none 0 0)).setCell ⟨b, 15, none⟩ (.slice none 0 0)).setCell ⟨b, 16, none⟩ (.int .i64 1)).setCell ⟨b, 17, none⟩ (.int .i64 0)) = w3 := ⟨_, rfl⟩
  have hT13 : Turn (fun g => g = b) w1 w3 := by
    rw [← hw3]
    exact Turn.set9b hT2 rfl (.string ⟨#[]⟩) (.int .i64 1) (.int .i64 (l : Int)) (.slice none 0 0) (.slice none 0 0) (.slice none 0 0) (.slice none 0 0) (.int .i64 1) (.int .i64 0)
  have hT3 : Turn (fun g => g = b) w w3 := (Turn.of HB1.out).trans_ hT13
  have F3 := hT13.far HF1.out (by omega)
  rw [hw3] at hP3 ⊢
  have hP3 : PS w3 b (.ok r) (tR a m hh (tgt0 l rl) (fun _ => .slice none 0 0)) := by
    have e := HE.out.2.2.2.2.2.2.2.2.1
    rw [e] at hP3
    exact hP3
  have z18 : w3.cell? ⟨b, 18, none⟩ = some (.map (some hh)) := (ts_cell hP3 11).1
  obtain ⟨w4, hcl, hH4, hT4⟩ := (HH.out.far hT3 (fun e => hne e)).clear
  have hP4 := hP3.farT hT4 (fun e => hne e.symm)
  have F4 := hT4.far F3 (by omega)
  have hg4 : Turn (GB b m hh) w w4 := (hT3.mono fun _ e => .inl e).trans_ (hT4.mono fun _ e => .inr (.inl e))
  have hN4 := (HN.out.far hT3 hmb).far hT4 hmh
  have HQ4 := Lib.hid (And.intro hP4 (And.intro F4 (And.intro hg4 (And.intro hH4 hN4))))
  have AN := any_any hP4 2 (by decide)
  rw [show ((2 : Nat) : Int) = 2 from rfl] at AN
  unfold AnyOut tokV at AN
  rw [HE.out.1, HE.out.2.1, HE.out.2.2.2.2.2.2.2.2.2.1, HE.out.2.2.2.2.2.2.2.2.2.2.1, HE.out.2.2.2.2.2.2.2.2.2.2.2.1] at AN
  have HAN := Lib.hid AN
  clear hP2 hT2 z0 zf0 z1 zf1 z2 zf2 z3 zf3 z4 zf4 z5 zf5 z6 zf6 z7 zf7 z8 zf8 hw1 hw3 hP3 F3 hT3 hT13 hN4 hH4 hT4 hP4 F4 hg4 AN hfd
  go_upto_region 3 with fail
  clear hcl z18
  go_upto_region 4 with (first
    | (go_at_call 77; ((with_reducible refine HAN.out.mono ?_); rintro en w5 ⟨rfl, hP5, hT5, htl, _⟩))
    | (fail "arm"))
  obtain ⟨w6, hw6⟩ : ∃ w6, w5.alloc (.cells #[.int .i64 (nc : Int), .string nx, .int .i64 (nl : Int)] 91) = w6 := ⟨_, rfl⟩
  have hb6 : Below w5.heap.size w5 w6 := by rw [← hw6]; exact (Below.refl _ w5).alloc (Nat.le_refl _) _
  have F6 : Full w6 w5.heap.size 91 [.int .i64 (nc : Int), .string nx, .int .i64 (nl : Int)] := by rw [← hw6]; exact Full.new w5 91 _
  obtain ⟨u, hu⟩ : ∃ u, w5.heap.size = u := ⟨_, rfl⟩
  have hs6 : w6.heap.size = u + 1 := by rw [← hw6, ← hu]; exact World.size_alloc _ _
  have hq5 : q < w5.heap.size := (hT5.far HQ4.out.2.1 (by omega)).lt
  have hqu : q < u := by omega
  have Fq6 := (hT5.far HQ4.out.2.1 (by omega)).on hb6
  have hP6 := hP5.on hb6
  have hg6 : Turn (GB b m hh) w w6 := (gb_b HQ4.out.2.2.1 hT5).trans_ (Turn.of hb6)
  have hN6 := (HQ4.out.2.2.2.2.far hT5 hmb).on hb6
  have S6 : TS w6 b a m hh (u + 1) 0 σ2 (tgt0 l rl) := TS.fresh hP6 ((HQ4.out.2.2.2.1.far hT5 (fun e => hne e)).on hb6) (by omega) (by omega) hne (by omega)
  rw [hu] at F6
  rw [hw6, hu]
  have NA := names_any S6.drew (hN6.keep rfl : Names w6.drew m n Km) hmb hmh (by omega) hn nm htl
  unfold tokV at NA
  rw [HE.out.2.2.1, HE.out.2.2.2.2.2.2.2.1, HE.out.2.2.2.2.2.2.2.2.2.1, HE.out.2.2.2.2.2.2.2.2.2.2.1, HE.out.2.2.2.2.2.2.2.2.2.2.2.1] at NA
  have HNA := Lib.hid NA
  have k8 : w6.drew.cell? ⟨b, 8, none⟩ = some (.map (some m)) := (ts_cell hP6 1).1
  have u0 : w6.drew.cell? ⟨u, 0, none⟩ = some (.int .i64 (nc : Int)) := F6.cell 0
  have u1 : w6.drew.cell? ⟨u, 1, none⟩ = some (.string nx) := F6.cell 1
  have u2 : w6.drew.cell? ⟨u, 2, none⟩ = some (.int .i64 (nl : Int)) := F6.cell 2
  have HQ6 := Lib.hid (And.intro F6 (And.intro Fq6 hg6))
  clear hw6 hb6 hs6 hq5 Fq6 hP6 hg6 hN6 S6 F6 hP5 hT5 htl NA HAN HQ4 hu
  go_region_with (first
    | (go_at_call 102; ((with_reducible refine HNA.out.mono ?_); rintro en w7 ⟨rfl, hS7, hN7, hT7⟩))
    | (fail "arm"))
  all_goals
    have F7 := hT7.far (show Full w6.drew u 91 _ from HQ6.out.1) (fun e => by rcases e with e | e <;> omega)
    have Fq7 := hT7.far (show Full w6.drew q 50 _ from HQ6.out.2.1) (fun e => by rcases e with e | e <;> omega)
    have hg7 : Turn (GB b m hh) w w7 := (HQ6.out.2.2.drew).trans_ (hT7.mono fun g e => e.imp id .inr)
    have v1 : w7.cell? ⟨u, 1, none⟩ = some (.string nx) := F7.cell 1
    obtain ⟨vs7, hP7, _⟩ := hS7.ps
    have v9 : w7.cell? ⟨b, 9, none⟩ = some (.string ⟨#[]⟩) := (ts_cell hP7 2).1
    have f9 : w7.frozen? ⟨b, 9, none⟩ = false := (ts_cell hP7 2).2
    have hT8 : Turn (fun g => g = b) w7 (w7.setCell ⟨b, 9, none⟩ (.string nx)) := Turn.set_ (F := fun g => g = b) (a := ⟨b, 9, none⟩) rfl _
    have hS8 : TS (w7.setCell ⟨b, 9, none⟩ (.string nx)) b a m hh (u + 1) 0 σ3 T2 := by
      rw [← HE.out.2.2.2.2.1]
      refine hS7.put hT8 (fun vs z => ?_) rfl rfl
      rw [← HE.out.2.2.2.2.2.2.2.2.2.1]
      exact ps_set z 2 _
    obtain ⟨w8, hw8⟩ : ∃ w8, w7.setCell ⟨b, 9, none⟩ (.string nx) = w8 := ⟨_, rfl⟩
    rw [hw8] at hS8 hT8
    have hq8 := hT8.far Fq7 (by omega)
    have hg8 := gb_b hg7 hT8
    have hN8 := hN7.far hT8 hmb
    have HX4 := Lib.hid (TS.call (σ' := σ4) (by rw [← HE.out.2.2.2.1]; exact pExpect_le _ _) hS8 (v := .tuple #[]) (fun R hP => (by
      have z := expect_any hP [123] (by decide)
      unfold StOut at z
      rw [HE.out.2.2.2.1] at z
      exact z)) : Calls Tryz.prog 103 #[.pointer (some ⟨b, 0, none⟩), .string ⟨#[123]⟩] w8 fun en w' => en = .returned (.tuple #[]) ∧ TS w' b a m hh (u + 1) 0 σ4 T2 ∧ Turn (fun g => g = b) w8 w')
    have HQ8 := Lib.hid (And.intro hq8 (And.intro hg8 hN8))
    clear hP7 hS7 hN7 hT7 F7 Fq7 hg7 hT8 hS8 hq8 hg8 hN8
    go_upto_region 7 with (first
      | (go_at_call 103; ((with_reducible refine HX4.out.mono ?_); rintro en w9 ⟨rfl, hS9, hT9⟩))
      | (fail "arm"))
    have Hs9 := Lib.hid hS9
    have Hq9 := Lib.hid (hT9.far HQ8.out.1 (by omega))
    have Hg9 := Lib.hid (gb_b HQ8.out.2.1 hT9)
    have Hn9 := Lib.hid (HQ8.out.2.2.far hT9 hmb)
    clear hS9 hT9 HX4 HQ8 hw8 v1 v9 f9
    go_loopw [33] (fun _ wr => ∃ (f : Nat) (σ' : Pst) (T' : Tgt), Hid (plen σ' < f) ∧ Hid (pAttrs f (σ', T') = (σ5, T9)) ∧ Hid (TS wr b a m hh (u + 1) 0 σ' T') ∧ Hid (Full wr q 50 [.string ⟨#[]⟩, .int .i64 0, .int .i64 0, .slice none 0 0, .slice none 0 0, .slice none 0 0, .slice none 0 0, .int .i64 0, .int .i64 0]) ∧ Hid (Turn (GB b m hh) w wr) ∧ Hid (Names wr m (n + 1) K9)) (fun _ wr => wlen b wr)
    case atStart => exact ⟨plen σ4 + 1, σ4, T2, Lib.hid (Nat.lt_succ_self _), Lib.hid HE.out.2.2.2.2.2.1, Hs9, Hq9, Hg9, Hn9⟩
    case round =>
      obtain ⟨f, σ', T', Hf, HP, HS, HF, HG, HNm⟩ := hrel
      obtain ⟨f, rfl⟩ : ∃ k, f = k + 1 := ⟨f - 1, by have := Hf.out; omega⟩
      have AT := attribute_any HS.out (HA.out wr HG.out) (HL.out wr HG.out) hb9 hh9
      unfold AttrOut at AT
      have hP := HP.out
      rw [pAttrs] at hP
      cases hat : (pAttr (σ', T')).1 with
      | true =>
        have hless := pAttr_less hat
        rw [if_pos hat] at hP
        rw [hat] at AT
        obtain ⟨⟨σ7, T7⟩, e7⟩ : ∃ x, (pAttr (σ', T')).2 = x := ⟨_, rfl⟩
        rw [e7] at hP hless AT
        have HAT := Lib.hid AT
        have HP' := Lib.hid hP
        have Hl := Lib.hid hless
        clear hP hless AT hat e7
        go_wp2_with (first
          | (go_at_call 115; ((with_reducible refine HAT.out.mono ?_); rintro en w10 ⟨rfl, hS10, hT10⟩; (have HS10 := Lib.hid hS10); (have HT10 := Lib.hid hT10); clear hS10 hT10))
          | (fail "arm"))
        go_roundw
        case rel => exact ⟨f, σ7, T7, Lib.hid (by have := Hf.out; have := Hl.out; omega), HP', HS10, Lib.hid (HT10.out.far HF.out (fun e => by rcases e with e | e | e <;> omega)), Lib.hid (gb_ft HG.out HT10.out (by omega)), Lib.hid (HNm.out.far HT10.out (fun e => by rcases e with e | e | e; exact hmb e; exact hmh e; omega))⟩
        case measure =>
          obtain ⟨va, hPa, _⟩ := HS10.out.ps
          obtain ⟨vb, hPb, _⟩ := HS.out.ps
          show wlen b w10 < wlen b wr
          rw [wlen_eq hPa, wlen_eq hPb]
          exact Hl.out
      | false =>
        rw [if_neg (by rw [hat]; decide)] at hP
        rw [hat, hP] at AT
        have HAT := Lib.hid AT
        clear hP AT hat
        have HX6 := Lib.hid (fun (W : World) (S : TS W b a m hh (u + 1) 0 σ5 T9) => (TS.call (σ' := σ6) (by rw [← HE.out.2.2.2.2.2.2.1]; exact pExpect_le _ _) S (v := .tuple #[]) (fun R hP => (by
          have z := expect_any hP [125] (by decide)
          unfold StOut at z
          rw [HE.out.2.2.2.2.2.2.1] at z
          exact z)) : Calls Tryz.prog 103 #[.pointer (some ⟨b, 0, none⟩), .string ⟨#[125]⟩] W fun en w' => en = .returned (.tuple #[]) ∧ TS w' b a m hh (u + 1) 0 σ6 T9 ∧ Turn (fun g => g = b) W w'))
        obtain ⟨sn, e0⟩ : ∃ x, str T9.name = x := ⟨_, rfl⟩
        obtain ⟨kd, e1⟩ : ∃ x, T9.kind = x := ⟨_, rfl⟩
        obtain ⟨ln, e2⟩ : ∃ x, T9.line = x := ⟨_, rfl⟩
        obtain ⟨co, e7⟩ : ∃ x, T9.cost = x := ⟨_, rfl⟩
        obtain ⟨rt, e8⟩ : ∃ x, T9.retry = x := ⟨_, rfl⟩
        obtain ⟨rl9, e9⟩ : ∃ x, T9.rl = x := ⟨_, rfl⟩
        have HV := Lib.hid (And.intro e0 (And.intro e1 (And.intro e2 (And.intro e7 e8))))
        by_cases hck : rt ≠ 0 ∧ kd ≠ 3
        · obtain ⟨σ7, h7⟩ : ∃ x, pFail (rl9 : Int) 41 σ6 = x := ⟨_, rfl⟩
          have hchk : pCheck T9 σ6 = σ7 := by unfold pCheck; rw [if_pos (by rw [e8, e1]; exact hck), e9, h7]
          have HCK := Lib.hid hchk
          have HX7 := Lib.hid (fun (W : World) (S : TS W b a m hh (u + 1) 0 σ6 T9) => (TS.call (σ' := σ7) (by rw [← h7]; exact pFail_le _ _ _) S (v := .tuple #[]) (fun R hP => (by
            have z := fail_any hP (rl9 : Int) 41 (by decide)
            unfold StOut at z
            rw [h7] at z
            exact z)) : Calls Tryz.prog 116 #[.pointer (some ⟨b, 0, none⟩), .int .i64 (rl9 : Int), .int .i64 41] W fun en w' => en = .returned (.tuple #[]) ∧ TS w' b a m hh (u + 1) 0 σ7 T9 ∧ Turn (fun g => g = b) W w'))
          have HRL := Lib.hid e9
          have b1 : (rt == 0) = false := by simpa using hck.1
          have b2 : (kd == 3) = false := by simpa using hck.2
          clear hchk h7 e0 e1 e2 e7 e8 e9 hck
          go_upto_region 11 with (first
            | (go_at_call 115; ((with_reducible refine HAT.out.mono ?_); rintro en w10 ⟨rfl, hS10, hT10⟩; (have HS10 := Lib.hid hS10); (have HT10 := Lib.hid hT10); clear hS10 hT10))
            | (go_at_call 103; ((with_reducible refine (HX6.out w10 HS10.out).mono ?_); rintro en w11 ⟨rfl, hS11, hT11⟩; (obtain ⟨vs11, hP11, _⟩ := hS11.ps); (have y17 : w11.cell? ⟨b, 17, none⟩ = some (.int .i64 rt) := (tgt_cells hP11 HV.out.1 HV.out.2.1 HV.out.2.2.1 HV.out.2.2.2.1 HV.out.2.2.2.2).2.2.2.2.2.2.2.2); (have y10 : w11.cell? ⟨b, 10, none⟩ = some (.int .i64 kd) := (tgt_cells hP11 HV.out.1 HV.out.2.1 HV.out.2.2.1 HV.out.2.2.2.1 HV.out.2.2.2.2).2.1); (have y19 : w11.cell? ⟨b, 19, none⟩ = some (.int .i64 (rl9 : Int)) := (by rw [← HRL.out]; exact (ts_cell hP11 12).1)); (have HS11 := Lib.hid hS11); (have HT11 := Lib.hid hT11); clear hP11 hS11 hT11))
            | (go_at_call 116; ((with_reducible refine (HX7.out w11 HS11.out).mono ?_); rintro en w12 ⟨rfl, hS12, hT12⟩; (have HSX := Lib.hid hS12); (have HFX := Lib.hid (hT12.far (HT11.out.far (HT10.out.far HF.out (fun e => by rcases e with e | e | e <;> omega)) (by omega)) (by omega))); (have HGX := Lib.hid (gb_b (gb_b (gb_ft HG.out HT10.out (by omega)) HT11.out) hT12)); (have HNX := Lib.hid (((HNm.out.far HT10.out (fun e => by rcases e with e | e | e; exact hmb e; exact hmh e; omega)).far HT11.out hmb).far hT12 hmb)); clear hS12 hT12 y17 y10 y19))
            | (fail "arm"))
          all_goals (first | (have hxx := HSX.out; clear hxx) | (exfalso; first | (rename_i zz; exact rt0_no zz b1) | (rename_i zz _; exact rt0_no zz b1) | (rename_i zz _ _; exact rt0_no zz b1) | (rename_i zz _ _ _; exact rt0_no zz b1) | (rename_i zz _ _ _ _; exact rt0_no zz b1) | (rename_i zz _ _ _ _ _; exact rt0_no zz b1) | (rename_i zz _ _ _ _ _ _; exact rt0_no zz b1) | (rename_i zz _ _ _ _ _ _ _; exact rt0_no zz b1) | (rename_i zz _ _ _ _ _ _ _ _; exact rt0_no zz b1) | (rename_i zz _ _ _ _ _ _ _ _ _; exact rt0_no zz b1) | (rename_i zz _ _ _ _ _ _ _ _ _ _; exact rt0_no zz b1) | (rename_i zz _ _ _ _ _ _ _ _ _ _ _; exact rt0_no zz b1) | (rename_i zz _ _ _ _ _ _ _ _ _ _ _ _; exact rt0_no zz b1) | (rename_i zz _ _ _ _ _ _ _ _ _ _ _ _ _; exact rt0_no zz b1) | (rename_i zz; exact bne_no zz b1 b2) | (rename_i zz _; exact bne_no zz b1 b2) | (rename_i zz _ _; exact bne_no zz b1 b2) | (rename_i zz _ _ _; exact bne_no zz b1 b2) | (rename_i zz _ _ _ _; exact bne_no zz b1 b2) | (rename_i zz _ _ _ _ _; exact bne_no zz b1 b2) | (rename_i zz _ _ _ _ _ _; exact bne_no zz b1 b2) | (rename_i zz _ _ _ _ _ _ _; exact bne_no zz b1 b2) | (rename_i zz _ _ _ _ _ _ _ _; exact bne_no zz b1 b2) | (rename_i zz _ _ _ _ _ _ _ _ _; exact bne_no zz b1 b2) | (rename_i zz _ _ _ _ _ _ _ _ _ _; exact bne_no zz b1 b2) | (rename_i zz _ _ _ _ _ _ _ _ _ _ _; exact bne_no zz b1 b2) | (rename_i zz _ _ _ _ _ _ _ _ _ _ _ _; exact bne_no zz b1 b2) | (rename_i zz _ _ _ _ _ _ _ _ _ _ _ _ _; exact bne_no zz b1 b2)))
          all_goals
            obtain ⟨vs9, hP9, hR9⟩ := HSX.out.ps
            obtain ⟨x0, x1, x2, x3, x4, x5, x6, x7, x8⟩ := tgt_cells hP9 HV.out.1 HV.out.2.1 HV.out.2.2.1 HV.out.2.2.2.1 HV.out.2.2.2.2
            obtain ⟨A0, k0, g0⟩ := own_form (hR9.own 0 (by decide))
            obtain ⟨A1, k1, g1⟩ := own_form (hR9.own 1 (by decide))
            obtain ⟨A2, k2, g2⟩ := own_form (hR9.own 2 (by decide))
            obtain ⟨A3, k3, g3⟩ := own_form (hR9.own 3 (by decide))
            rw [g0] at x3
            rw [g1] at x4
            rw [g2] at x5
            rw [g3] at x6
            obtain ⟨⟨c0, cf0⟩, ⟨c1, cf1⟩, ⟨c2, cf2⟩, ⟨c3, cf3⟩, ⟨c4, cf4⟩, ⟨c5, cf5⟩, ⟨c6, cf6⟩, ⟨c7, cf7⟩, ⟨c8, cf8⟩, FE⟩ := store9 HFX.out (.string sn) (.int .i64 kd) (.int .i64 (ln : Int)) (.slice A0 (T9.rows 0).length k0) (.slice A1 (T9.rows 1).length k1) (.slice A2 (T9.rows 2).length k2) (.slice A3 (T9.rows 3).length k3) (.int .i64 co) (.int .i64 rt)
            have HP9 := Lib.hid (And.intro hP9 hR9)
            have HFE := Lib.hid FE
            have HGG := Lib.hid (And.intro g0 (And.intro g1 (And.intro g2 g3)))
            clear hP9 hR9 FE g0 g1 g2 g3
            go_wp2
            obtain ⟨wz, hwz⟩ : ∃ wz, (((((((((w12.setCell ⟨q, 0, none⟩ (.string sn)).setCell ⟨q, 1, none⟩ (.int .i64 kd)).setCell ⟨q, 2, none⟩ (.int .i64 (ln : Int))).setCell ⟨q, 3, none⟩ (.slice A0 (T9.rows 0).length k0)).setCell ⟨q, 4, none⟩ (.slice A1 (T9.rows 1).length k1)).setCell ⟨q, 5, none⟩ (.slice A2 (T9.rows 2).length k2)).setCell ⟨q, 6, none⟩ (.slice A3 (T9.rows 3).length k3)).setCell ⟨q, 7, none⟩ (.int .i64 co)).setCell ⟨q, 8, none⟩ (.int .i64 rt)) = wz := ⟨_, rfl⟩
            have hend := whole_end HP9.out.1 HP9.out.2 (HSX.out.had.imp fun nh z => z.1) HNX.out HGX.out (r := q) (base := u + 1) (by omega) hbq hmq hhq (by omega) (by omega) (.string sn) (.int .i64 kd) (.int .i64 (ln : Int)) (.slice A0 (T9.rows 0).length k0) (.slice A1 (T9.rows 1).length k1) (.slice A2 (T9.rows 2).length k2) (.slice A3 (T9.rows 3).length k3) (.int .i64 co) (.int .i64 rt)
            have FE := HFE.out
            rw [hwz] at hend FE ⊢
            have q0 := FE.cell 0
            have q1 := FE.cell 1
            have q2 := FE.cell 2
            have q3 := FE.cell 3
            have q4 := FE.cell 4
            have q5 := FE.cell 5
            have q6 := FE.cell 6
            have q7 := FE.cell 7
            have q8 := FE.cell 8
            dsimp only [List.getElem?_cons_zero, List.getElem?_cons_succ] at q0 q1 q2 q3 q4 q5 q6 q7 q8
            refine bodyPost_ret (v := .agg #[.string sn, .int .i64 kd, .int .i64 (ln : Int), .slice A0 (T9.rows 0).length k0, .slice A1 (T9.rows 1).length k1, .slice A2 (T9.rows 2).length k2, .slice A3 (T9.rows 3).length k3, .int .i64 co, .int .i64 rt]) (by simp [results, Tryz.results76, go_sem, q0, q1, q2, q3, q4, q5, q6, q7, q8]) rfl ?_
            refine ⟨vs9, ?_, (by rw [HCK.out]; exact hend.1), hend.2.1, hend.2.2.1, hend.2.2.2.1, hend.2.2.2.2⟩
            unfold tgtV
            rw [HV.out.1, HV.out.2.1, HV.out.2.2.1, HV.out.2.2.2.1, HV.out.2.2.2.2, HGG.out.1, HGG.out.2.1, HGG.out.2.2.1, HGG.out.2.2.2]
        · have hchk : pCheck T9 σ6 = σ6 := by unfold pCheck; rw [if_neg (by rw [e8, e1]; exact hck)]
          have HCK := Lib.hid hchk
          have b9 : (rt = 0) ∨ (rt ≠ 0 ∧ kd = 3) := by
            by_cases z : rt = 0
            · exact .inl z
            · exact .inr ⟨z, Decidable.byContradiction fun e => hck ⟨z, e⟩⟩
          clear hchk e0 e1 e2 e7 e8 e9 hck
          have HB9 : ((rt == 0) = true ∧ decide (rt = 0) = true) ∨ (((rt == 0) = false ∧ decide (rt = 0) = false) ∧ ((kd == 3) = true ∧ decide (kd = 3) = true)) := by
            rcases b9 with z | ⟨z1, z2⟩
            · exact .inl ⟨by simpa using z, by simpa using z⟩
            · exact .inr ⟨⟨by simpa using z1, by simpa using z1⟩, by simpa using z2, by simpa using z2⟩
          clear b9
          rcases HB9 with ⟨b1, b3⟩ | ⟨⟨b1, b3⟩, b2, b4⟩
          · obtain rfl : rt = 0 := of_decide_eq_true b3
            clear b1 b3
            all_goals
              go_upto_region 11 with (first
                | (go_at_call 115; ((with_reducible refine HAT.out.mono ?_); rintro en w10 ⟨rfl, hS10, hT10⟩; (have HS10 := Lib.hid hS10); (have HT10 := Lib.hid hT10); clear hS10 hT10))
                | (go_at_call 103; ((with_reducible refine (HX6.out w10 HS10.out).mono ?_); rintro en w12 ⟨rfl, hS12, hT12⟩; (have HSX := Lib.hid hS12); (have HFX := Lib.hid (hT12.far (HT10.out.far HF.out (fun e => by rcases e with e | e | e <;> omega)) (by omega))); (have HGX := Lib.hid (gb_b (gb_ft HG.out HT10.out (by omega)) hT12)); (have HNX := Lib.hid ((HNm.out.far HT10.out (fun e => by rcases e with e | e | e; exact hmb e; exact hmh e; omega)).far hT12 hmb)); (obtain ⟨vs12, hP12, _⟩ := hS12.ps); (have y17 : w12.cell? ⟨b, 17, none⟩ = some (.int .i64 0) := (tgt_cells hP12 HV.out.1 HV.out.2.1 HV.out.2.2.1 HV.out.2.2.2.1 HV.out.2.2.2.2).2.2.2.2.2.2.2.2); (have y10 : w12.cell? ⟨b, 10, none⟩ = some (.int .i64 kd) := (tgt_cells hP12 HV.out.1 HV.out.2.1 HV.out.2.2.1 HV.out.2.2.2.1 HV.out.2.2.2.2).2.1); clear hS12 hT12 hP12))
                | (fail "arm"))
            all_goals (have hxx := HSX.out; clear hxx)
            all_goals
              obtain ⟨vs9, hP9, hR9⟩ := HSX.out.ps
              obtain ⟨x0, x1, x2, x3, x4, x5, x6, x7, x8⟩ := tgt_cells hP9 HV.out.1 HV.out.2.1 HV.out.2.2.1 HV.out.2.2.2.1 HV.out.2.2.2.2
              obtain ⟨A0, k0, g0⟩ := own_form (hR9.own 0 (by decide))
              obtain ⟨A1, k1, g1⟩ := own_form (hR9.own 1 (by decide))
              obtain ⟨A2, k2, g2⟩ := own_form (hR9.own 2 (by decide))
              obtain ⟨A3, k3, g3⟩ := own_form (hR9.own 3 (by decide))
              rw [g0] at x3
              rw [g1] at x4
              rw [g2] at x5
              rw [g3] at x6
              obtain ⟨⟨c0, cf0⟩, ⟨c1, cf1⟩, ⟨c2, cf2⟩, ⟨c3, cf3⟩, ⟨c4, cf4⟩, ⟨c5, cf5⟩, ⟨c6, cf6⟩, ⟨c7, cf7⟩, ⟨c8, cf8⟩, FE⟩ := store9 HFX.out (.string sn) (.int .i64 kd) (.int .i64 (ln : Int)) (.slice A0 (T9.rows 0).length k0) (.slice A1 (T9.rows 1).length k1) (.slice A2 (T9.rows 2).length k2) (.slice A3 (T9.rows 3).length k3) (.int .i64 co) (.int .i64 0)
              have HP9 := Lib.hid (And.intro hP9 hR9)
              have HFE := Lib.hid FE
              have HGG := Lib.hid (And.intro g0 (And.intro g1 (And.intro g2 g3)))
              clear hP9 hR9 FE g0 g1 g2 g3
              go_wp2
              obtain ⟨wz, hwz⟩ : ∃ wz, (((((((((w12.setCell ⟨q, 0, none⟩ (.string sn)).setCell ⟨q, 1, none⟩ (.int .i64 kd)).setCell ⟨q, 2, none⟩ (.int .i64 (ln : Int))).setCell ⟨q, 3, none⟩ (.slice A0 (T9.rows 0).length k0)).setCell ⟨q, 4, none⟩ (.slice A1 (T9.rows 1).length k1)).setCell ⟨q, 5, none⟩ (.slice A2 (T9.rows 2).length k2)).setCell ⟨q, 6, none⟩ (.slice A3 (T9.rows 3).length k3)).setCell ⟨q, 7, none⟩ (.int .i64 co)).setCell ⟨q, 8, none⟩ (.int .i64 0)) = wz := ⟨_, rfl⟩
              have hend := whole_end HP9.out.1 HP9.out.2 (HSX.out.had.imp fun nh z => z.1) HNX.out HGX.out (r := q) (base := u + 1) (by omega) hbq hmq hhq (by omega) (by omega) (.string sn) (.int .i64 kd) (.int .i64 (ln : Int)) (.slice A0 (T9.rows 0).length k0) (.slice A1 (T9.rows 1).length k1) (.slice A2 (T9.rows 2).length k2) (.slice A3 (T9.rows 3).length k3) (.int .i64 co) (.int .i64 0)
              have FE := HFE.out
              rw [hwz] at hend FE ⊢
              have q0 := FE.cell 0
              have q1 := FE.cell 1
              have q2 := FE.cell 2
              have q3 := FE.cell 3
              have q4 := FE.cell 4
              have q5 := FE.cell 5
              have q6 := FE.cell 6
              have q7 := FE.cell 7
              have q8 := FE.cell 8
              dsimp only [List.getElem?_cons_zero, List.getElem?_cons_succ] at q0 q1 q2 q3 q4 q5 q6 q7 q8
              refine bodyPost_ret (v := .agg #[.string sn, .int .i64 kd, .int .i64 (ln : Int), .slice A0 (T9.rows 0).length k0, .slice A1 (T9.rows 1).length k1, .slice A2 (T9.rows 2).length k2, .slice A3 (T9.rows 3).length k3, .int .i64 co, .int .i64 0]) (by simp [results, Tryz.results76, go_sem, q0, q1, q2, q3, q4, q5, q6, q7, q8]) rfl ?_
              refine ⟨vs9, ?_, (by rw [HCK.out]; exact hend.1), hend.2.1, hend.2.2.1, hend.2.2.2.1, hend.2.2.2.2⟩
              unfold tgtV
              rw [HV.out.1, HV.out.2.1, HV.out.2.2.1, HV.out.2.2.2.1, HV.out.2.2.2.2, HGG.out.1, HGG.out.2.1, HGG.out.2.2.1, HGG.out.2.2.2]
          · obtain rfl : kd = 3 := of_decide_eq_true b4
            clear b2 b4 b3
            all_goals
              go_upto_region 11 with (first
                | (go_at_call 115; ((with_reducible refine HAT.out.mono ?_); rintro en w10 ⟨rfl, hS10, hT10⟩; (have HS10 := Lib.hid hS10); (have HT10 := Lib.hid hT10); clear hS10 hT10))
                | (go_at_call 103; ((with_reducible refine (HX6.out w10 HS10.out).mono ?_); rintro en w12 ⟨rfl, hS12, hT12⟩; (have HSX := Lib.hid hS12); (have HFX := Lib.hid (hT12.far (HT10.out.far HF.out (fun e => by rcases e with e | e | e <;> omega)) (by omega))); (have HGX := Lib.hid (gb_b (gb_ft HG.out HT10.out (by omega)) hT12)); (have HNX := Lib.hid ((HNm.out.far HT10.out (fun e => by rcases e with e | e | e; exact hmb e; exact hmh e; omega)).far hT12 hmb)); (obtain ⟨vs12, hP12, _⟩ := hS12.ps); (have y17 : w12.cell? ⟨b, 17, none⟩ = some (.int .i64 rt) := (tgt_cells hP12 HV.out.1 HV.out.2.1 HV.out.2.2.1 HV.out.2.2.2.1 HV.out.2.2.2.2).2.2.2.2.2.2.2.2); (have y10 : w12.cell? ⟨b, 10, none⟩ = some (.int .i64 3) := (tgt_cells hP12 HV.out.1 HV.out.2.1 HV.out.2.2.1 HV.out.2.2.2.1 HV.out.2.2.2.2).2.1); clear hS12 hT12 hP12))
                | (fail "arm"))
            all_goals (first | (exfalso; first | (rename_i zz; exact rt0_no zz b1) | (rename_i zz _; exact rt0_no zz b1) | (rename_i zz _ _; exact rt0_no zz b1) | (rename_i zz _ _ _; exact rt0_no zz b1) | (rename_i zz _ _ _ _; exact rt0_no zz b1) | (rename_i zz _ _ _ _ _; exact rt0_no zz b1) | (rename_i zz _ _ _ _ _ _; exact rt0_no zz b1) | (rename_i zz _ _ _ _ _ _ _; exact rt0_no zz b1) | (rename_i zz _ _ _ _ _ _ _ _; exact rt0_no zz b1) | (rename_i zz _ _ _ _ _ _ _ _ _; exact rt0_no zz b1) | (rename_i zz _ _ _ _ _ _ _ _ _ _; exact rt0_no zz b1) | (rename_i zz _ _ _ _ _ _ _ _ _ _ _; exact rt0_no zz b1) | (rename_i zz _ _ _ _ _ _ _ _ _ _ _ _; exact rt0_no zz b1) | (rename_i zz _ _ _ _ _ _ _ _ _ _ _ _ _; exact rt0_no zz b1)) | (have hxx := HSX.out; clear hxx))
            all_goals
              obtain ⟨vs9, hP9, hR9⟩ := HSX.out.ps
              obtain ⟨x0, x1, x2, x3, x4, x5, x6, x7, x8⟩ := tgt_cells hP9 HV.out.1 HV.out.2.1 HV.out.2.2.1 HV.out.2.2.2.1 HV.out.2.2.2.2
              obtain ⟨A0, k0, g0⟩ := own_form (hR9.own 0 (by decide))
              obtain ⟨A1, k1, g1⟩ := own_form (hR9.own 1 (by decide))
              obtain ⟨A2, k2, g2⟩ := own_form (hR9.own 2 (by decide))
              obtain ⟨A3, k3, g3⟩ := own_form (hR9.own 3 (by decide))
              rw [g0] at x3
              rw [g1] at x4
              rw [g2] at x5
              rw [g3] at x6
              obtain ⟨⟨c0, cf0⟩, ⟨c1, cf1⟩, ⟨c2, cf2⟩, ⟨c3, cf3⟩, ⟨c4, cf4⟩, ⟨c5, cf5⟩, ⟨c6, cf6⟩, ⟨c7, cf7⟩, ⟨c8, cf8⟩, FE⟩ := store9 HFX.out (.string sn) (.int .i64 3) (.int .i64 (ln : Int)) (.slice A0 (T9.rows 0).length k0) (.slice A1 (T9.rows 1).length k1) (.slice A2 (T9.rows 2).length k2) (.slice A3 (T9.rows 3).length k3) (.int .i64 co) (.int .i64 rt)
              have HP9 := Lib.hid (And.intro hP9 hR9)
              have HFE := Lib.hid FE
              have HGG := Lib.hid (And.intro g0 (And.intro g1 (And.intro g2 g3)))
              clear hP9 hR9 FE g0 g1 g2 g3
              go_wp2
              obtain ⟨wz, hwz⟩ : ∃ wz, (((((((((w12.setCell ⟨q, 0, none⟩ (.string sn)).setCell ⟨q, 1, none⟩ (.int .i64 3)).setCell ⟨q, 2, none⟩ (.int .i64 (ln : Int))).setCell ⟨q, 3, none⟩ (.slice A0 (T9.rows 0).length k0)).setCell ⟨q, 4, none⟩ (.slice A1 (T9.rows 1).length k1)).setCell ⟨q, 5, none⟩ (.slice A2 (T9.rows 2).length k2)).setCell ⟨q, 6, none⟩ (.slice A3 (T9.rows 3).length k3)).setCell ⟨q, 7, none⟩ (.int .i64 co)).setCell ⟨q, 8, none⟩ (.int .i64 rt)) = wz := ⟨_, rfl⟩
              have hend := whole_end HP9.out.1 HP9.out.2 (HSX.out.had.imp fun nh z => z.1) HNX.out HGX.out (r := q) (base := u + 1) (by omega) hbq hmq hhq (by omega) (by omega) (.string sn) (.int .i64 3) (.int .i64 (ln : Int)) (.slice A0 (T9.rows 0).length k0) (.slice A1 (T9.rows 1).length k1) (.slice A2 (T9.rows 2).length k2) (.slice A3 (T9.rows 3).length k3) (.int .i64 co) (.int .i64 rt)
              have FE := HFE.out
              rw [hwz] at hend FE ⊢
              have q0 := FE.cell 0
              have q1 := FE.cell 1
              have q2 := FE.cell 2
              have q3 := FE.cell 3
              have q4 := FE.cell 4
              have q5 := FE.cell 5
              have q6 := FE.cell 6
              have q7 := FE.cell 7
              have q8 := FE.cell 8
              dsimp only [List.getElem?_cons_zero, List.getElem?_cons_succ] at q0 q1 q2 q3 q4 q5 q6 q7 q8
              refine bodyPost_ret (v := .agg #[.string sn, .int .i64 3, .int .i64 (ln : Int), .slice A0 (T9.rows 0).length k0, .slice A1 (T9.rows 1).length k1, .slice A2 (T9.rows 2).length k2, .slice A3 (T9.rows 3).length k3, .int .i64 co, .int .i64 rt]) (by simp [results, Tryz.results76, go_sem, q0, q1, q2, q3, q4, q5, q6, q7, q8]) rfl ?_
              refine ⟨vs9, ?_, (by rw [HCK.out]; exact hend.1), hend.2.1, hend.2.2.1, hend.2.2.2.1, hend.2.2.2.2⟩
              unfold tgtV
              rw [HV.out.1, HV.out.2.1, HV.out.2.2.1, HV.out.2.2.2.1, HV.out.2.2.2.2, HGG.out.1, HGG.out.2.1, HGG.out.2.2.1, HGG.out.2.2.2]
end Go.Proofs.YtcjoiiaankngjaaGreatDoor
/- The platforms that a source declares: the closure 113, platforms 75. -/
namespace Go.Proofs.YtcjoiiaankngjaaGreatDoor
set_option maxRecDepth 100000
open Go.RowKit
/-- the parser and the platforms so far, with the boxes of both -/
structure PI (b d bp bd : Nat) (R : List Value) (W : World) (x : Pst × Kn) : Prop where
  ps : PS W b x.1 R
  nm : ∃ n, Names W d n x.2 ∧ n + plen x.1 ≤ XL
  vp : Full W bp 84 [.pointer (some ⟨b, 0, none⟩)]
  vd : Full W bd 93 [.map (some d)]
def FPl (b d : Nat) : Nat → Prop := fun g => g = b ∨ g = d
theorem PI.keep {b d bp bd : Nat} {R : List Value} {W W' : World} {x : Pst × Kn} {F : Nat → Prop} (h : PI b d bp bd R W x) (ht : Turn F W W') (h1 : ¬ F b) (h2 : ¬ F d) (h3 : ¬ F bp) (h4 : ¬ F bd) : PI b d bp bd R W' x :=
  ⟨h.ps.farT ht h1, h.nm.imp fun _n z => ⟨z.1.far ht h2, z.2⟩, ht.far h.vp h3, ht.far h.vd h4⟩
theorem PI.on {b d bp bd : Nat} {R : List Value} {W W' : World} {x : Pst × Kn} (h : PI b d bp bd R W x) (hb : Below W.heap.size W W') : PI b d bp bd R W' x :=
  ⟨h.ps.on hb, h.nm.imp fun _n z => ⟨z.1.on hb, z.2⟩, h.vp.on hb, h.vd.on hb⟩
def itm0 : Itm := ⟨[], false, [], 0⟩
def pPlatI (x : Pst × Kn) : Itm × (Pst × Kn) :=
  if pAheadP x.1 then (match x.1 with
    | .ok (t :: r) => (⟨t.txt, false, [], t.ln⟩, (pOnce x.2 t (.ok r), kPut x.2 t.txt))
    | s => (itm0, (s, x.2)))
  else (itm0, (pRefuse x.1, x.2))
theorem pAheadP_yes {σ : Pst} (h : pAheadP σ = true) : ∃ t r, σ = .ok (t :: r) ∧ t.cls = 2 := by
  cases σ with
  | bad e l => simp [pAheadP] at h
  | ok ts =>
    cases ts with
    | nil => simp [pAheadP] at h
    | cons t r => exact ⟨t, r, rfl, by unfold pAheadP at h; simp at h; exact h.1⟩
theorem pPlatI_le (x : Pst × Kn) : plen (pPlatI x).2.1 ≤ plen x.1 := by
  unfold pPlatI
  split
  · rename_i h
    obtain ⟨t, r, e, _⟩ := pAheadP_yes h
    rw [e]
    have := pOnce_le x.2 t (.ok r)
    show plen (pOnce x.2 t (.ok r)) ≤ _
    simp [plen] at this ⊢
    omega
  · exact pRefuse_le _
def PlOut (b d bp bd : Nat) (R : List Value) (w : World) (r : Itm × (Pst × Kn)) (en : Ending) (w' : World) : Prop :=
  en = .returned (itmV r.1) ∧ PI b d bp bd R w' r.2 ∧ Turn (FPl b d) w w'
set_option maxHeartbeats 4000000 in
theorem plat_no {w : World} {b d bp bd : Nat} {R : List Value} {x : Pst × Kn} (h : PI b d bp bd R w x) (hdb : d ≠ b) (hpb : bp ≠ b) (hqb : bd ≠ b) (_hpd : bp ≠ d) (_hqd : bd ≠ d) (ha : pAheadP x.1 = false) :
    Calls Tryz.prog 113 #[.pointer (some ⟨bp, 0, none⟩), .pointer (some ⟨bd, 0, none⟩)] w (PlOut b d bp bd R w (itm0, (pRefuse x.1, x.2))) := by
  unfold PlOut
  obtain ⟨w1, hw1⟩ : ∃ w1, w.alloc (.cells #[.string ⟨#[]⟩, .bool false, .string ⟨#[]⟩, .int .i64 0] 52) = w1 := ⟨_, rfl⟩
  have hb1 : Below w.heap.size w w1 := by rw [← hw1]; exact (Below.refl _ w).alloc (Nat.le_refl _) _
  have F1 : Full w1 w.heap.size 52 [.string ⟨#[]⟩, .bool false, .string ⟨#[]⟩, .int .i64 0] := by rw [← hw1]; exact Full.new w 52 _
  have h1 := h.on hb1
  have AH := ahead_any h1.ps
  rw [ha] at AH
  have AH := Lib.hid AH
  have RF := Lib.hid (refuse_any h1.ps)
  unfold StOut at RF
  obtain ⟨r, hr⟩ : ∃ r, w.heap.size = r := ⟨_, rfl⟩
  have hbr : b < r := by rw [← hr]; exact h.ps.lt
  have hdr : d < r := by rw [← hr]; obtain ⟨n, z, _⟩ := h.nm; exact z.lt
  have hpr : bp < r := by rw [← hr]; exact h.vp.lt
  have hqr : bd < r := by rw [← hr]; exact h.vd.lt
  rw [hr] at F1
  have u1 : w1.cell? ⟨bp, 0, none⟩ = some (.pointer (some ⟨b, 0, none⟩)) := h1.vp.cell 0
  obtain ⟨σ', hσ⟩ : ∃ s, pRefuse x.1 = s := ⟨_, rfl⟩
  have hle : plen σ' ≤ plen x.1 := by rw [← hσ]; exact pRefuse_le _
  rw [hσ] at RF ⊢
  have HQ := Lib.hid (And.intro F1 (And.intro h1 (And.intro hb1 hle)))
  clear hσ h1 F1 hb1 h ha
  unfold itmV itm0
  dsimp only
  go_enter Tryz.func113, Tryz.ntmps113
  go_upto_region 3 with (first
    | (go_at_call 114; ((with_reducible refine AH.out.mono ?_); rintro en w2 ⟨rfl, rfl⟩))
    | (go_at_call 104; ((with_reducible refine RF.out.mono ?_); rintro en w3 ⟨rfl, hP3, hT3⟩; (have HP3 := Lib.hid hP3); (have HT3 := Lib.hid hT3); clear hP3 hT3))
    | (fail "arm"))
  have F3 := HT3.out.far HQ.out.1 (by omega)
  obtain ⟨⟨v0, v0f⟩, ⟨v1, v1f⟩, ⟨v2, v2f⟩, ⟨v3, v3f⟩, F6⟩ := store4 F3 (.string ⟨#[]⟩) (.bool false) (.string ⟨#[]⟩) (.int .i64 0)
  have hT6 : Turn (FPl b d) w ((((w3.setCell ⟨r, 0, none⟩ (.string ⟨#[]⟩)).setCell ⟨r, 1, none⟩ (.bool false)).setCell ⟨r, 2, none⟩ (.string ⟨#[]⟩)).setCell ⟨r, 3, none⟩ (.int .i64 0)) :=
    (Turn.trans_ (Turn.of HQ.out.2.2.1) (HT3.out.mono fun _ e => .inl e)).set4 (by omega) _ _ _ _
  have hT36 : Turn (fun g => g = r) w3 ((((w3.setCell ⟨r, 0, none⟩ (.string ⟨#[]⟩)).setCell ⟨r, 1, none⟩ (.bool false)).setCell ⟨r, 2, none⟩ (.string ⟨#[]⟩)).setCell ⟨r, 3, none⟩ (.int .i64 0)) :=
    ((((Turn.refl (fun g => g = r) w3).setb rfl 0 _).setb rfl 1 _).setb rfl 2 _).setb rfl 3 _
  have HF6 := Lib.hid F6
  have HT6 := Lib.hid hT6
  have HT36 := Lib.hid hT36
  clear hT6 hT36 F3
  go_wp2
  obtain ⟨w8, hw8⟩ : ∃ w8, (((w3.setCell ⟨r, 0, none⟩ (.string ⟨#[]⟩)).setCell ⟨r, 1, none⟩ (.bool false)).setCell ⟨r, 2, none⟩ (.string ⟨#[]⟩)).setCell ⟨r, 3, none⟩ (.int .i64 0) = w8 := ⟨_, rfl⟩
  have f6 := HF6.out
  have t6 := HT6.out
  have t36 := HT36.out
  rw [hw8] at f6 t6 t36 ⊢
  have q0 : w8.cell? ⟨r, 0, none⟩ = some (.string ⟨#[]⟩) := f6.cell 0
  have q1 : w8.cell? ⟨r, 1, none⟩ = some (.bool false) := f6.cell 1
  have q2 : w8.cell? ⟨r, 2, none⟩ = some (.string ⟨#[]⟩) := f6.cell 2
  have q3 : w8.cell? ⟨r, 3, none⟩ = some (.int .i64 0) := f6.cell 3
  refine bodyPost_ret (v := .agg #[.string ⟨#[]⟩, .bool false, .string ⟨#[]⟩, .int .i64 0]) (by simp [results, Tryz.results113, go_sem, q0, q1, q2, q3]) rfl ?_
  obtain ⟨n, hn1, hn2⟩ := HQ.out.2.1.nm
  have hq3 : PI b d bp bd R w3 (σ', x.2) := ⟨HP3.out, ⟨n, hn1.far HT3.out hdb, (by have := HQ.out.2.2.2; show n + plen σ' ≤ XL; omega)⟩, HT3.out.far HQ.out.2.1.vp hpb, HT3.out.far HQ.out.2.1.vd hqb⟩
  exact ⟨rfl, hq3.keep t36 (by omega) (by omega) (by omega) (by omega), t6⟩
set_option maxHeartbeats 4000000 in
theorem plat_yes {w : World} {b d bp bd : Nat} {R : List Value} {t : Tok} {ts : List Tok} {K : Kn} (h : PI b d bp bd R w (.ok (t :: ts), K)) (hdb : d ≠ b) (hpb : bp ≠ b) (hqb : bd ≠ b) (hpd : bp ≠ d) (hqd : bd ≠ d) (ha : pAheadP (.ok (t :: ts)) = true) (ht : t.cls = 2) :
    Calls Tryz.prog 113 #[.pointer (some ⟨bp, 0, none⟩), .pointer (some ⟨bd, 0, none⟩)] w (PlOut b d bp bd R w (⟨t.txt, false, [], t.ln⟩, (pOnce K t (.ok ts), kPut K t.txt))) := by
  unfold PlOut
  obtain ⟨w1, hw1⟩ : ∃ w1, w.alloc (.cells #[.string ⟨#[]⟩, .bool false, .string ⟨#[]⟩, .int .i64 0] 52) = w1 := ⟨_, rfl⟩
  have hb1 : Below w.heap.size w w1 := by rw [← hw1]; exact (Below.refl _ w).alloc (Nat.le_refl _) _
  have F1 : Full w1 w.heap.size 52 [.string ⟨#[]⟩, .bool false, .string ⟨#[]⟩, .int .i64 0] := by rw [← hw1]; exact Full.new w 52 _
  have h1 := h.on hb1
  have AH := ahead_any h1.ps
  rw [ha] at AH
  have AH := Lib.hid AH
  have AD := adv_any h1.ps (t := t) (r := ts) (by omega)
  have htl : t.txt.length ≤ 4294967000 := ((ps_tx h1.ps).2.2 t ts rfl).2
  obtain ⟨tx, htx⟩ : ∃ l, str t.txt = l := ⟨_, rfl⟩
  obtain ⟨tc, htc⟩ : ∃ l : Nat, t.cls = l := ⟨_, rfl⟩
  obtain ⟨l, hl⟩ : ∃ l : Nat, t.ln = l := ⟨_, rfl⟩
  unfold tokV at AD
  rw [htx, htc, hl] at AD
  have AD := Lib.hid AD
  obtain ⟨r, hr⟩ : ∃ r, w.heap.size = r := ⟨_, rfl⟩
  have hbr : b < r := by rw [← hr]; exact h.ps.lt
  have hdr : d < r := by rw [← hr]; obtain ⟨n, z, _⟩ := h.nm; exact z.lt
  have hpr : bp < r := by rw [← hr]; exact h.vp.lt
  have hqr : bd < r := by rw [← hr]; exact h.vd.lt
  rw [hr] at F1
  have u1 : w1.cell? ⟨bp, 0, none⟩ = some (.pointer (some ⟨b, 0, none⟩)) := h1.vp.cell 0
  obtain ⟨σ', hσ⟩ : ∃ s, pOnce K t (.ok ts) = s := ⟨_, rfl⟩
  have hle : plen σ' ≤ plen (.ok ts) := by rw [← hσ]; exact pOnce_le _ _ _
  have OC := Lib.hid (fun (W : World) (n : Nat) (hP : PS W b (.ok ts) R) (hN : Names W d n K) (hn : n < maxLen) => (by
    have z := once_any hP hN hdb hn t htl
    unfold OnceOut tokV at z
    rw [htx, htc, hl, hσ] at z
    exact z : Calls Tryz.prog 102 #[.pointer (some ⟨b, 0, none⟩), .map (some d), .agg #[.int .i64 (tc : Int), .string tx, .int .i64 (l : Int)]] W fun en w' => en = .returned (.tuple #[]) ∧ PS w' b σ' R ∧ Names w' d (n + 1) (kPut K t.txt) ∧ Turn (fun g => g = b ∨ g = d) W w'))
  rw [hσ]
  obtain ⟨K', hK⟩ : ∃ K', kPut K t.txt = K' := ⟨_, rfl⟩
  rw [hK] at OC ⊢
  unfold itmV
  dsimp only
  rw [htx, hl, show str [] = ⟨#[]⟩ from rfl]
  have HQ := Lib.hid (And.intro F1 (And.intro h1 (And.intro hb1 hle)))
  clear hσ h1 F1 hb1 h ha ht htl htx htc hl hK
  go_enter Tryz.func113, Tryz.ntmps113
  go_upto_region 5 with (first
    | (go_at_call 114; ((with_reducible refine AH.out.mono ?_); rintro en w2 ⟨rfl, rfl⟩))
    | (go_at_call 112; ((with_reducible refine AD.out.mono ?_); rintro en w3 ⟨rfl, hP3, hT3⟩; (have HP3 := Lib.hid hP3); (have HT3 := Lib.hid hT3); clear hP3 hT3))
    | (fail "arm"))
  obtain ⟨w4, hw4⟩ : ∃ w4, w3.alloc (.cells #[.int .i64 (tc : Int), .string tx, .int .i64 (l : Int)] 91) = w4 := ⟨_, rfl⟩
  have hb4 : Below w3.heap.size w3 w4 := by rw [← hw4]; exact (Below.refl _ w3).alloc (Nat.le_refl _) _
  have F4 : Full w4 w3.heap.size 91 [.int .i64 (tc : Int), .string tx, .int .i64 (l : Int)] := by rw [← hw4]; exact Full.new w3 91 _
  obtain ⟨u, hu⟩ : ∃ u, w3.heap.size = u := ⟨_, rfl⟩
  have Fr3 := HT3.out.far HQ.out.1 (by omega)
  have hru : r < u := by rw [← hu]; exact Fr3.lt
  have Fr4 := Fr3.on hb4
  have hP4 := HP3.out.on hb4
  rw [hu] at F4
  rw [hw4, hu]
  obtain ⟨n, hn1, hn2⟩ := HQ.out.2.1.nm
  have hN4 := (hn1.far HT3.out hdb).on hb4
  have V4 := (HT3.out.far HQ.out.2.1.vp hpb).on hb4
  have D4 := (HT3.out.far HQ.out.2.1.vd hqb).on hb4
  have hT4 : Turn (FPl b d) w w4 := (Turn.trans_ (Turn.of HQ.out.2.2.1) (HT3.out.mono fun _ e => .inl e)).trans_ (Turn.of hb4)
  have hn3 : n + 1 + plen (.ok ts) ≤ XL := by
    simp [plen] at hn2 ⊢
    omega
  have OC4 := Lib.hid (OC.out w4 n hP4 hN4 (by unfold XL at hn3; unfold maxLen; omega))
  have v1 : w4.cell? ⟨bp, 0, none⟩ = some (.pointer (some ⟨b, 0, none⟩)) := V4.cell 0
  have v2 : w4.cell? ⟨bd, 0, none⟩ = some (.map (some d)) := D4.cell 0
  have v3 : w4.cell? ⟨u, 0, none⟩ = some (.int .i64 (tc : Int)) := F4.cell 0
  have v4 : w4.cell? ⟨u, 1, none⟩ = some (.string tx) := F4.cell 1
  have v5 : w4.cell? ⟨u, 2, none⟩ = some (.int .i64 (l : Int)) := F4.cell 2
  have HQ4 := Lib.hid (And.intro F4 (And.intro Fr4 (And.intro V4 (And.intro D4 (And.intro hT4 hn3)))))
  clear hw4 hb4 F4 Fr3 Fr4 V4 D4 hT4 hN4 hP4 hn1 hn2 hn3 hw1 hu u1
  go_upto_region 6 with (first
    | (go_at_call 102; ((with_reducible refine OC4.out.mono ?_); rintro en w5 ⟨rfl, hP5, hN5, hT5⟩; (have HP5 := Lib.hid hP5); (have HN5 := Lib.hid hN5); (have HT5 := Lib.hid hT5); clear hP5 hN5 hT5))
    | (fail "arm"))
  have F5 := HT5.out.far HQ4.out.1 (by omega)
  have p1 : w5.cell? ⟨u, 1, none⟩ = some (.string tx) := F5.cell 1
  have p2 : w5.cell? ⟨u, 2, none⟩ = some (.int .i64 (l : Int)) := F5.cell 2
  have Fr5 := HT5.out.far HQ4.out.2.1 (by omega)
  obtain ⟨⟨y0, y0f⟩, ⟨y1, y1f⟩, ⟨y2, y2f⟩, ⟨y3, y3f⟩, F6⟩ := store4 Fr5 (.string tx) (.bool false) (.string ⟨#[]⟩) (.int .i64 (l : Int))
  have HF6 := Lib.hid F6
  have HT6 := Lib.hid ((HQ4.out.2.2.2.2.1.trans_ HT5.out).set4 (r := r) (by omega) (.string tx) (.bool false) (.string ⟨#[]⟩) (.int .i64 (l : Int)))
  have HT36 := Lib.hid (((((Turn.refl (fun g => g = r) w5).setb rfl 0 (.string tx)).setb rfl 1 (.bool false)).setb rfl 2 (.string ⟨#[]⟩)).setb rfl 3 (.int .i64 (l : Int)))
  have HV5 := Lib.hid (HT5.out.far HQ4.out.2.2.1 (by rintro (e | e); exact hpb e; exact hpd e))
  have HD5 := Lib.hid (HT5.out.far HQ4.out.2.2.2.1 (by rintro (e | e); exact hqb e; exact hqd e))
  clear F6 F5 Fr5
  go_wp2
  obtain ⟨w8, hw8⟩ : ∃ w8, (((w5.setCell ⟨r, 0, none⟩ (.string tx)).setCell ⟨r, 1, none⟩ (.bool false)).setCell ⟨r, 2, none⟩ (.string ⟨#[]⟩)).setCell ⟨r, 3, none⟩ (.int .i64 (l : Int)) = w8 := ⟨_, rfl⟩
  have f6 := HF6.out
  have t6 := HT6.out
  have t36 := HT36.out
  rw [hw8] at f6 t6 t36 ⊢
  have q0 : w8.cell? ⟨r, 0, none⟩ = some (.string tx) := f6.cell 0
  have q1 : w8.cell? ⟨r, 1, none⟩ = some (.bool false) := f6.cell 1
  have q2 : w8.cell? ⟨r, 2, none⟩ = some (.string ⟨#[]⟩) := f6.cell 2
  have q3 : w8.cell? ⟨r, 3, none⟩ = some (.int .i64 (l : Int)) := f6.cell 3
  refine bodyPost_ret (v := .agg #[.string tx, .bool false, .string ⟨#[]⟩, .int .i64 (l : Int)]) (by simp [results, Tryz.results113, go_sem, q0, q1, q2, q3]) rfl ?_
  have hq5 : PI b d bp bd R w5 (σ', K') := ⟨HP5.out, ⟨n + 1, HN5.out, (by have := HQ.out.2.2.2; have := HQ4.out.2.2.2.2.2; show n + 1 + plen σ' ≤ XL; omega)⟩, HV5.out, HD5.out⟩
  exact ⟨rfl, hq5.keep t36 (by omega) (by omega) (by omega) (by omega), t6⟩
theorem plat_any {w : World} {b d bp bd : Nat} {R : List Value} {x : Pst × Kn} (h : PI b d bp bd R w x) (hdb : d ≠ b) (hpb : bp ≠ b) (hqb : bd ≠ b) (hpd : bp ≠ d) (hqd : bd ≠ d) :
    Calls Tryz.prog 113 #[.pointer (some ⟨bp, 0, none⟩), .pointer (some ⟨bd, 0, none⟩)] w (PlOut b d bp bd R w (pPlatI x)) := by
  obtain ⟨σ, K⟩ := x
  cases ha : pAheadP σ with
  | false =>
    have := plat_no h hdb hpb hqb hpd hqd ha
    unfold pPlatI
    rw [if_neg (by rw [ha]; decide)]
    exact this
  | true =>
    obtain ⟨t, ts, rfl, ht⟩ := pAheadP_yes ha
    have := plat_yes h hdb hpb hqb hpd hqd ha ht
    unfold pPlatI
    rw [if_pos ha]
    exact this
end Go.Proofs.YtcjoiiaankngjaaGreatDoor
/- platforms. -/
namespace Go.Proofs.YtcjoiiaankngjaaGreatDoor
set_option maxRecDepth 100000
open Go.RowKit
def pPlats (σ : Pst) : List Itm × (Pst × Kn) :=
  pList pPlatI (fun x => ((pTake [44] x.1).1, ((pTake [44] x.1).2, x.2))) (fun x => (pExpect [59] x.1, x.2)) (fun x => plen x.1) (σ, fun _ => false)
theorem env_pl {b d bp bd B : Nat} (R : List Value) (hb : b < B) (hd : d < B) (hp : bp < B) (hq : bd < B) (hdb : d ≠ b) (hpb : bp ≠ b) (hqb : bd ≠ b) :
    LEnv (Pst × Kn) (PI b d bp bd R) (FPl b d) B b pPlatI (fun x => ((pTake [44] x.1).1, ((pTake [44] x.1).2, x.2))) (fun x => (pExpect [59] x.1, x.2)) (fun x => plen x.1) where
  lt := fun g e => by rcases e with e | e <;> omega
  on := fun W W' σ h ht => h.keep ht (by omega) (by omega) (by omega) (by omega)
  cT := fun W σ h => (take_any h.ps [44] (by decide)).mono fun en W' k => by
    obtain ⟨he, hP, hT⟩ := k
    have hl := pTake_le [44] σ.1
    exact ⟨he, ⟨hP, h.nm.imp fun n z => ⟨z.1.far hT hdb, by show n + plen (pTake [44] σ.1).2 ≤ XL; have := z.2; omega⟩, hT.far h.vp hpb, hT.far h.vd hqb⟩, hT.mono fun _ e => .inl e⟩
  cE := fun W σ h => (expect_any h.ps [59] (by decide)).mono fun en W' k => by
    obtain ⟨he, hP, hT⟩ := k
    have hl := pExpect_le [59] σ.1
    exact ⟨he, ⟨hP, h.nm.imp fun n z => ⟨z.1.far hT hdb, by show n + plen (pExpect [59] σ.1) ≤ XL; have := z.2; omega⟩, hT.far h.vp hpb, hT.far h.vd hqb⟩, hT.mono fun _ e => .inl e⟩
  bound := fun W σ h => by have := h.ps.plen_le; show plen σ.1 ≤ _; omega
  less := fun σ h => pTake_less [44] σ.1 h
  le := pPlatI_le
def PlsOut (w : World) (b : Nat) (r : List Itm × Pst) (R : List Value) (en : Ending) (w' : World) : Prop :=
  ∃ A c, en = .returned (.slice A r.1.length c) ∧ OwnI w' w.heap.size A c r.1 ∧ PS w' b r.2 R ∧ Turn (fun g => g = b) w w'
theorem plats_call {W : World} {b d bp bd : Nat} {σ : Pst} {R : List Value} {w : World} (h : PI b d bp bd R W (σ, fun _ => false)) (hdb : d ≠ b) (hpb : bp ≠ b) (hqb : bd ≠ b) (hpd : bp ≠ d) (hqd : bd ≠ d)
    (hw : Turn (fun g => g = b) w W) (hd : w.heap.size ≤ d) :
    Calls Tryz.prog 108 #[.pointer (some ⟨b, 0, none⟩), .func (.func 113) #[] #[.pointer (some ⟨bp, 0, none⟩), .pointer (some ⟨bd, 0, none⟩)]] W (PlsOut w b ((pPlats σ).1, (pPlats σ).2.1) R) := by
  obtain ⟨n, hn, _⟩ := h.nm
  refine (list_P (env_pl R h.ps.lt hn.lt h.vp.lt h.vd.lt hdb hpb hqb) (fun W σ h => plat_any h hdb hpb hqb hpd hqd) (Nat.le_refl _) h).mono ?_
  rintro en w' ⟨A, c, he, hO, hI, hT⟩
  exact ⟨A, c, he, own_base hO hw.size, hI.ps, hw.late hT fun g e => by rcases e with e | e; exact .inl e; exact .inr (by omega)⟩
set_option maxHeartbeats 4000000 in
theorem platforms_any {w : World} {b : Nat} {σ : Pst} {R : List Value} (h : PS w b σ R) : Calls Tryz.prog 75 #[.pointer (some ⟨b, 0, none⟩)] w (PlsOut w b ((pPlats σ).1, (pPlats σ).2.1) R) := by
  obtain ⟨w1, hw1⟩ : ∃ w1, w.alloc (.cells #[.pointer (some ⟨b, 0, none⟩)] 84) = w1 := ⟨_, rfl⟩
  have hb1 : Below w.heap.size w w1 := by rw [← hw1]; exact (Below.refl _ w).alloc (Nat.le_refl _) _
  have F1 : Full w1 w.heap.size 84 [.pointer (some ⟨b, 0, none⟩)] := by rw [← hw1]; exact Full.new w 84 _
  have s1 : w1.heap.size = w.heap.size + 1 := by rw [← hw1]; exact World.size_alloc _ _
  obtain ⟨w2, hw2⟩ : ∃ w2, w1.alloc (.map #[] 0) = w2 := ⟨_, rfl⟩
  have hb2 : Below w1.heap.size w1 w2 := by rw [← hw2]; exact (Below.refl _ w1).alloc (Nat.le_refl _) _
  have N2 : Names w2 w1.heap.size 0 (fun _ => false) := by rw [← hw2]; exact Names.made w1
  have s2 : w2.heap.size = w1.heap.size + 1 := by rw [← hw2]; exact World.size_alloc _ _
  obtain ⟨w3, hw3⟩ : ∃ w3, w2.alloc (.cells #[.map none] 93) = w3 := ⟨_, rfl⟩
  have hb3 : Below w2.heap.size w2 w3 := by rw [← hw3]; exact (Below.refl _ w2).alloc (Nat.le_refl _) _
  have F3 : Full w3 w2.heap.size 93 [.map none] := by rw [← hw3]; exact Full.new w2 93 _
  have hbw : b < w.heap.size := h.lt
  obtain ⟨p, hp⟩ : ∃ p, w.heap.size = p := ⟨_, rfl⟩
  obtain ⟨d, hd⟩ : ∃ d, w1.heap.size = d := ⟨_, rfl⟩
  obtain ⟨e, he⟩ : ∃ e, w2.heap.size = e := ⟨_, rfl⟩
  have P3 := ((h.on hb1).on hb2).on hb3
  have V3 := (F1.on hb2).on hb3
  have D3 := N2.on hb3
  rw [hp] at V3
  rw [hd] at D3
  rw [he] at F3
  have e1 := F3.cell 0
  have e2 := F3.frozen 0
  have hT4 : Turn (fun g => g = b) w (w3.setCell ⟨e, 0, none⟩ (.map (some d))) :=
    (((Turn.of (F := fun g => g = b) hb1).trans_ (Turn.of hb2)).trans_ (Turn.of hb3)).late (Turn.set_ (F := fun g => g = e) (a := ⟨e, 0, none⟩) rfl _) fun g q => .inr (by omega)
  have I4 : PI b d p e R (w3.setCell ⟨e, 0, none⟩ (.map (some d))) (σ, fun _ => false) := by
    have t := Turn.set_ (w := w3) (F := fun g => g = e) (a := ⟨e, 0, none⟩) rfl (.map (some d))
    refine ⟨P3.farT t (by omega), ⟨0, D3.far t (by omega), ?_⟩, t.far V3 (by omega), F3.set_ 0 _⟩
    have := h.plen_le
    show 0 + plen σ ≤ XL
    unfold XL
    omega
  have PC := Lib.hid (plats_call I4 (by omega) (by omega) (by omega) (by omega) (by omega) hT4 (by omega))
  have v4 := I4.vp.cell 0
  have v5 := I4.vd.cell 0
  dsimp only [List.getElem?_cons_zero] at v4 v5 e1
  obtain ⟨Q, hQ⟩ : ∃ Q, PlsOut w b ((pPlats σ).1, (pPlats σ).2.1) R = Q := ⟨_, rfl⟩
  rw [hQ] at PC ⊢
  have HQ := Lib.hid hQ
  clear s1 s2 P3 V3 D3 F3 hT4 I4 F1 N2 h hQ hb1 hb2 hb3
  have hmk : (Instr.makeMap 93 none).run Tryz.prog w1 = .ok (.map (some d)) w2 := by rw [run_makeMap, hd, hw2]
  go_enter Tryz.func75, Tryz.ntmps75
  go_upto_region 2 with fail
  go_wp2_with (first
    | (go_at_call 108; ((with_reducible refine PC.out.mono ?_); intro en w5 hq; rw [← HQ.out] at hq; obtain ⟨A, c, rfl, h5⟩ := hq; (have H5 := Lib.hid h5); clear h5))
    | (fail "arm"))
  rw [← HQ.out]
  exact ⟨A, c, rfl, H5.out⟩
end Go.Proofs.YtcjoiiaankngjaaGreatDoor
/- All of a source: the pure side, the rows of targets. -/
namespace Go.Proofs.YtcjoiiaankngjaaGreatDoor
set_option maxRecDepth 100000
open Go.RowKit
def wTarget : List UInt8 := [116, 97, 114, 103, 101, 116]
def wPlats : List UInt8 := [112, 108, 97, 116, 102, 111, 114, 109, 115]
theorem info50 : (Tryz.prog.info? 50).map (fun i => (i.zero, i.size, i.bytes)) = some (some (.agg #[.string ⟨#[]⟩, .int .i64 0, .int .i64 0, .slice none 0 0, .slice none 0 0, .slice none 0 0, .slice none 0 0, .int .i64 0, .int .i64 0]), 9, 144) := by kernel_rfl
/-- the targets from here on -/
def pTgts : Nat → Nat → Kn → Pst → List Tgt × Pst
  | 0, _, _, σ => ([], σ)
  | f + 1, rl, K, .ok (t :: r) =>
    if t.txt = wTarget then
      ((pWhole t.ln rl K (.ok r)).2.1 :: (pTgts f (pWhole t.ln rl K (.ok r)).2.1.rl (pWhole t.ln rl K (.ok r)).2.2 (pWhole t.ln rl K (.ok r)).1).1,
        (pTgts f (pWhole t.ln rl K (.ok r)).2.1.rl (pWhole t.ln rl K (.ok r)).2.2 (pWhole t.ln rl K (.ok r)).1).2)
    else ([], .ok (t :: r))
  | _ + 1, _, _, σ => ([], σ)
def pHead (σ : Pst) : List Itm × Pst := if (pTake wPlats σ).1 then ((pPlats (pTake wPlats σ).2).1, (pPlats (pTake wPlats σ).2).2.1) else ([], (pTake wPlats σ).2)
theorem pAttrs_le : ∀ (f : Nat) (r : Pst × Tgt), plen (pAttrs f r).1 ≤ plen r.1
  | 0, r => Nat.le_refl _
  | f + 1, (σ, T) => by
    rw [pAttrs]
    split
    · rename_i h
      have := pAttr_less h
      exact Nat.le_trans (pAttrs_le f _) (Nat.le_of_lt this)
    · rename_i h
      cases hf : fnOf (pTx σ) with
      | none => rw [pAttr_no hf]; exact Nat.le_refl _
      | some n =>
        obtain ⟨t, r, rfl, _, e⟩ := pAttr_yes (T := T) hf
        rw [e] at h
        exact absurd rfl h
theorem pWhole_le (l rl : Nat) (K : Kn) (σ : Pst) : plen (pWhole l rl K σ).1 ≤ plen σ := by
  have h1 : plen (pBody l rl K σ).1 ≤ plen σ := by
    unfold pBody
    refine Nat.le_trans (pAttrs_le _ _) ?_
    exact Nat.le_trans (pExpect_le _ _) (Nat.le_trans (pOnce_le _ _ _) (pAny_le _ _))
  have h2 : plen (pCheck (pBody l rl K σ).2 (pExpect [125] (pBody l rl K σ).1)) ≤ plen (pExpect [125] (pBody l rl K σ).1) := by
    unfold pCheck
    split
    · exact pFail_le _ _ _
    · exact Nat.le_refl _
  exact Nat.le_trans h2 (Nat.le_trans (pExpect_le _ _) h1)
theorem pList_len_le {S : Type} (el : S → Itm × S) (tk : S → Bool × S) (ex : S → S) (len : S → Nat) (less : ∀ σ, (tk σ).1 = true → len (tk σ).2 < len σ) (le : ∀ σ, len (el σ).2 ≤ len σ) (tke : ∀ σ, len (tk σ).2 ≤ len σ) (exe : ∀ σ, len (ex σ) ≤ len σ) (σ : S) :
    (pList el tk ex len σ).1.length + len (pList el tk ex len σ).2 ≤ 1 + len σ := by
  have more : ∀ (f : Nat) (σ : S), (pMore el tk f σ).1.length + len (pMore el tk f σ).2 ≤ len σ := by
    intro f
    induction f with
    | zero => intro σ; simp [pMore]
    | succ f ih =>
      intro σ
      rw [pMore]
      split
      · rename_i h
        have h1 := less σ h
        have h2 := le (tk σ).2
        have h3 := ih (el (tk σ).2).2
        simp only [List.length_cons]
        omega
      · have := tke σ
        simp only [List.length_nil]
        omega
  unfold pList
  have h1 := more (len (el σ).2 + 1) (el σ).2
  have h2 := le σ
  have h3 := exe (pMore el tk (len (el σ).2 + 1) (el σ).2).2
  simp only [List.length_cons]
  omega
theorem pPlats_sum (σ : Pst) : (pPlats σ).1.length + plen (pPlats σ).2.1 ≤ 1 + plen σ :=
  pList_len_le pPlatI (fun x => ((pTake [44] x.1).1, ((pTake [44] x.1).2, x.2))) (fun x => (pExpect [59] x.1, x.2)) (fun x => plen x.1) (fun x h => pTake_less [44] x.1 h) pPlatI_le (fun x => pTake_le [44] x.1) (fun x => pExpect_le [59] x.1) (σ, fun _ => false)
theorem pHead_le (σ : Pst) : plen (pHead σ).2 ≤ plen σ := by
  unfold pHead
  have h1 := pTake_le wPlats σ
  split
  · rename_i h
    have h0 := pTake_less wPlats σ h
    have h2 := pPlats_sum (pTake wPlats σ).2
    show plen (pPlats (pTake wPlats σ).2).2.1 ≤ plen σ
    omega
  · exact h1
/-- a target's cells -/
def tgtC (p : Tgt × (Nat → Value)) : List Value := [.string (str p.1.name), .int .i64 p.1.kind, .int .i64 (p.1.line : Int), p.2 0, p.2 1, p.2 2, p.2 3, .int .i64 p.1.cost, .int .i64 p.1.retry]
def tgtsC (l : List (Tgt × (Nat → Value))) : List Value := l.flatMap tgtC
theorem tgtsC_snoc (l : List (Tgt × (Nat → Value))) (p : Tgt × (Nat → Value)) : tgtsC (l ++ [p]) = tgtsC l ++ tgtC p := by unfold tgtsC; rw [List.flatMap_append]; simp
/-- a target's rows -/
def TG (w : World) (base : Nat) (p : Tgt × (Nat → Value)) : Prop := ∀ i, i < 4 → w.ownsRow base 52 4 (p.2 i) (p.1.rows i).length (itmsC (p.1.rows i))
theorem own_ty_ne {w : World} {b1 b2 e1 e2 s1 s2 n1 n2 : Nat} {v1 v2 : Value} {x1 x2 : List Value} (h1 : w.ownsRow b1 e1 s1 v1 n1 x1) (h2 : w.ownsRow b2 e2 s2 v2 n2 x2) (hne : e1 ≠ e2) : ∀ g, v1.ownBlock = some g → v2.ownBlock ≠ some g := by
  intro g q1 q2
  rcases h1.2 with ⟨rfl, _⟩ | ⟨g1, c1, cur1, rfl, _, k1, _⟩
  · cases q1
  · rcases h2.2 with ⟨rfl, _⟩ | ⟨g2, c2, cur2, rfl, _, k2, _⟩
    · cases q2
    · injection q1 with q1
      injection q2 with q2
      subst q1
      subst q2
      rw [k1] at k2
      injection k2 with k2
      injection k2 with _ k2
      exact hne k2
theorem TG.turn {F : Nat → Prop} {w w' : World} {base : Nat} {p : Tgt × (Nat → Value)} (h : TG w base p) (ht : Turn F w w') (hF : ∀ g, F g → g < base) : TG w' base p := fun i hi => own_turn (h i hi) ht hF
theorem TG.grown {w w' : World} {base b2 s2 n2 : Nat} {p : Tgt × (Nat → Value)} {v : Value} {xs : List Value} (h : TG w base p) (ho : w.ownsRow b2 50 s2 v n2 xs) (hg : w.grownBy w' v.ownBlock) : TG w' base p := fun i hi => own_far (h i hi) hg (own_ty_ne (h i hi) ho (by decide))
/-- a turn of blocks that no row of these is -/
theorem own_off {w w' : World} {F : Nat → Prop} {base : Nat} {e : TypeId} {size n : Nat} {v : Value} {xs : List Value} (h : w.ownsRow base e size v n xs) (ht : Turn F w w') (hF : ∀ g, v.ownBlock = some g → ¬ F g) : w'.ownsRow base e size v n xs := by
  obtain ⟨h1, h2⟩ := h
  refine ⟨h1, h2.imp id ?_⟩
  rintro ⟨g, cap, cur, rfl, hb, hg', r⟩
  exact ⟨g, cap, cur, rfl, hb, (ht.block g (Array.getElem?_eq_some_iff.1 hg').1 (hF g rfl)).trans hg', r⟩
theorem own_full_ne {w : World} {g : Nat} {t : TypeId} {cs : List Value} {base : Nat} {e : TypeId} {size n : Nat} {v : Value} {xs : List Value} (h : w.ownsRow base e size v n xs) (f : Full w g t cs) (hne : t ≠ e) : ∀ k, v.ownBlock = some k → k ≠ g := fun k hk e' => by
  subst e'
  exact f.not_row h hne hk.symm
theorem tgt_append {w2 : World} {base n c : Nat} {A : Option Addr} {xs : List Value} (hO : w2.ownsRow base 50 9 (.slice A n c) n xs) (hn : n ≤ 8589934592) (hb : base ≤ w2.heap.size) (y0 y1 y2 y3 y4 y5 y6 y7 y8 : Value) (h1 : ∀ u ∈ [y0, y1, y2, y3, y4, y5, y6, y7, y8], u.oneCell' = true) :
    ∃ g3 c3 w3, (Builtin.append_ #[26, 26] 26 #[.slice A n c, .slice (some ⟨w2.heap.size, 0, none⟩) 1 1]).run Tryz.prog (w2.alloc (.cells #[y0, y1, y2, y3, y4, y5, y6, y7, y8] 50)) = .ok (.slice (some ⟨g3, 0, none⟩) (n + 1) c3) w3 ∧
      w3.ownsRow base 50 9 (.slice (some ⟨g3, 0, none⟩) (n + 1) c3) (n + 1) (xs ++ [y0, y1, y2, y3, y4, y5, y6, y7, y8]) ∧ (w2.alloc (.cells #[y0, y1, y2, y3, y4, y5, y6, y7, y8] 50)).grownBy w3 (Value.slice A n c).ownBlock := by
  obtain ⟨i0, hi, hz0, hz1, hz2⟩ := info_parts info50
  have hba : Below w2.heap.size w2 (w2.alloc (.cells #[y0, y1, y2, y3, y4, y5, y6, y7, y8] 50)) := (Below.refl _ w2).alloc (Nat.le_refl _) _
  obtain ⟨g3, c3, w3, hap, hown3, hgrow3, _, _⟩ := run_append_lies (P := Tryz.prog) (w2.alloc (.cells #[y0, y1, y2, y3, y4, y5, y6, y7, y8] 50)) 26 26 base 50 i0 _ 9 144 Tryz.underlying26 hi hz0 hz1 hz2 rfl (by decide) (.slice A n c) n xs (own_keep hO hba) ⟨w2.heap.size, 0, none⟩ 1 1 [y0, y1, y2, y3, y4, y5, y6, y7, y8] rfl (fun j u hj => by
    obtain ⟨ad, e, _, hc⟩ := ((Full.new w2 50 [y0, y1, y2, y3, y4, y5, y6, y7, y8]).row 9 1 rfl 1 (Nat.le_refl _)).2.2.2 j u hj
    injection e with e
    subst e
    exact hc) h1 (by decide) (by unfold maxLen; omega) (by omega) (Nat.le_trans hb hba.size) _ rfl
  exact ⟨g3, c3, w3, hap, hown3, hgrow3⟩
end Go.Proofs.YtcjoiiaankngjaaGreatDoor
/- file: all of a source. -/
namespace Go.Proofs.YtcjoiiaankngjaaGreatDoor
set_option maxRecDepth 100000
open Go.RowKit
/-- while a source is parsed: the build at q, the result at r -/
structure FS (w0 : World) (b a m hh q r : Nat) (Vp : Value) (pl : List Itm) (w : World) (σ : Pst) (K : Kn) (T : Tgt) (vs : Nat → Value) (l : List (Tgt × (Nat → Value))) (A : Option Addr) (n c : Nat) : Prop where
  ps : PS w b σ (tR a m hh T vs)
  nm : ∃ k, Names w m k K ∧ k + plen σ ≤ XL
  hd : ∃ k, Names w hh k T.had
  fq : Full w q 28 [Vp, .slice A n c]
  fr : Full w r 28 [.slice none 0 0, .slice none 0 0]
  tg : w.ownsRow w0.heap.size 50 9 (.slice A n c) n (tgtsC l)
  ln : n = l.length ∧ n + plen σ ≤ XL
  rows : ∀ p ∈ l, TG w w0.heap.size p
  pl : w.ownsRow w0.heap.size 52 4 Vp pl.length (itmsC pl)
  tn : Turn (GB b m hh) w0 w
structure FB (w0 : World) (b m hh q r : Nat) : Prop where
  lb : b < w0.heap.size
  lm : m < w0.heap.size
  lh : hh < w0.heap.size
  lq : w0.heap.size ≤ q
  lr : w0.heap.size ≤ r
  qr : q ≠ r
theorem FS.drew {w0 w : World} {b a m hh q r n c : Nat} {Vp : Value} {pl : List Itm} {σ : Pst} {K : Kn} {T : Tgt} {vs : Nat → Value} {l : List (Tgt × (Nat → Value))} {A : Option Addr} (h : FS w0 b a m hh q r Vp pl w σ K T vs l A n c) : FS w0 b a m hh q r Vp pl w.drew σ K T vs l A n c :=
  ⟨h.ps.drew, h.nm.imp fun _k z => ⟨z.1.keep rfl, z.2⟩, h.hd.imp fun _k z => z.keep rfl, h.fq, h.fr, own_turn h.tg (Turn.refl (fun _ => False) w).drew (fun _ e => e.elim), h.ln, fun p hp => (h.rows p hp).turn (Turn.refl (fun _ => False) w).drew (fun _ e => e.elim), own_turn h.pl (Turn.refl (fun _ => False) w).drew (fun _ e => e.elim), h.tn.drew⟩
/-- a target more -/
theorem FS.grow {w0 w w2 : World} {b a m hh q r n c k : Nat} {Vp : Value} {pl : List Itm} {t : Tok} {ts : List Tok} {σ' : Pst} {K K' : Kn} {T T' : Tgt} {vs vs' : Nat → Value} {l : List (Tgt × (Nat → Value))} {A : Option Addr} (D : FB w0 b m hh q r)
    (h : FS w0 b a m hh q r Vp pl w (.ok (t :: ts)) K T vs l A n c) (hP : PS w2 b σ' (tR a m hh T' vs')) (hR : Rows4 w2 w.heap.size T'.rows vs') (hk : k + plen (.ok (t :: ts)) ≤ XL) (hN : Names w2 m (k + 1) K') (hH : ∃ nh, Names w2 hh nh T'.had) (hT : Turn (GB b m hh) w w2) (hle : plen σ' ≤ plen (.ok ts))
    (y0 y1 y2 y3 y4 y5 y6 y7 y8 : Value) (hy : tgtC (T', vs') = [y0, y1, y2, y3, y4, y5, y6, y7, y8]) :
    ∃ g3 c3 w3, (Builtin.append_ #[26, 26] 26 #[.slice A n c, .slice (some ⟨w2.heap.size, 0, none⟩) 1 1]).run Tryz.prog (w2.alloc (.cells #[y0, y1, y2, y3, y4, y5, y6, y7, y8] 50)) = .ok (.slice (some ⟨g3, 0, none⟩) (n + 1) c3) w3 ∧
      (w3.cell? ⟨q, 1, none⟩ = some (.slice A n c) ∧ w3.frozen? ⟨q, 1, none⟩ = false) ∧
      FS w0 b a m hh q r Vp pl (w3.setCell ⟨q, 1, none⟩ (.slice (some ⟨g3, 0, none⟩) (n + 1) c3)) σ' K' T' vs' (l ++ [(T', vs')]) (some ⟨g3, 0, none⟩) (n + 1) c3 := by
  have hB := h.tn.size
  have hB2 : w0.heap.size ≤ w2.heap.size := Nat.le_trans hB hT.size
  have hfar : ∀ g, GB b m hh g → g < w0.heap.size := fun g e => by
    rcases e with e | e | e
    · rw [e]; exact D.lb
    · rw [e]; exact D.lh
    · rw [e]; exact D.lm
  have hlen : plen (.ok (t :: ts)) = plen (.ok ts) + 1 := by simp [plen]
  have hO2 := own_turn h.tg hT hfar
  have hln := h.ln
  obtain ⟨g3, c3, w3, hap, hO3, hG⟩ := tgt_append hO2 (by have := hln.2; unfold XL at this; omega) hB2 y0 y1 y2 y3 y4 y5 y6 y7 y8 (by
    rw [← hy]
    intro u hu
    simp [tgtC] at hu
    rcases hu with rfl | rfl | rfl | rfl | rfl | rfl | rfl | rfl | rfl
    · rfl
    · rfl
    · rfl
    · obtain ⟨_, _, e⟩ := own_form (hR.own 0 (by decide)); rw [e]; rfl
    · obtain ⟨_, _, e⟩ := own_form (hR.own 1 (by decide)); rw [e]; rfl
    · obtain ⟨_, _, e⟩ := own_form (hR.own 2 (by decide)); rw [e]; rfl
    · obtain ⟨_, _, e⟩ := own_form (hR.own 3 (by decide)); rw [e]; rfl
    · rfl
    · rfl)
  refine ⟨g3, c3, w3, hap, ?_⟩
  have hba : Below w2.heap.size w2 (w2.alloc (.cells #[y0, y1, y2, y3, y4, y5, y6, y7, y8] 50)) := (Below.refl _ w2).alloc (Nat.le_refl _) _
  obtain ⟨wa, hwa⟩ : ∃ wa, w2.alloc (.cells #[y0, y1, y2, y3, y4, y5, y6, y7, y8] 50) = wa := ⟨_, rfl⟩
  rw [hwa] at hba hG
  have hOa := own_keep hO2 hba
  have hrow : ∀ g, (Value.slice A n c).ownBlock = some g → w0.heap.size ≤ g := row_ge hOa
  have fq2 := ((hT.far h.fq (fun e => by have := hfar _ e; have := D.lq; omega)).on hba)
  have fr2 := ((hT.far h.fr (fun e => by have := hfar _ e; have := D.lr; omega)).on hba)
  have fq3 := fq2.grown hG (fq2.not_row hOa (by decide))
  have fr3 := fr2.grown hG (fr2.not_row hOa (by decide))
  have hTg : Turn (fun g => w0.heap.size ≤ g) wa w3 := Turn.grown hG fun g e => .inl (hrow g e)
  have hTs : Turn (fun g => g = q) w3 (w3.setCell ⟨q, 1, none⟩ (.slice (some ⟨g3, 0, none⟩) (n + 1) c3)) := Turn.set_ (F := fun g => g = q) (a := ⟨q, 1, none⟩) rfl _
  have hrow2 : ∀ p, TG wa w0.heap.size p → TG (w3.setCell ⟨q, 1, none⟩ (.slice (some ⟨g3, 0, none⟩) (n + 1) c3)) w0.heap.size p := fun p hp i hi => by
    have z := hp.grown hOa hG
    exact own_off (z i hi) hTs (own_full_ne (z i hi) fq3 (by decide))
  refine ⟨⟨fq3.cell 1, fq3.frozen 1⟩, ⟨?_, ?_, ?_, fq3.set_ 1 _, fr3.far (p := ⟨q, 1, none⟩) (fun e => D.qr e.symm) _, ?_, ?_, ?_, ?_, ?_⟩⟩
  · exact ((hP.on hba).farT hTg (by have := D.lb; omega)).farT hTs (by have := D.lb; have := D.lq; omega)
  · exact ⟨k + 1, ((hN.on hba).far hTg (by have := D.lm; omega)).far hTs (by have := D.lm; have := D.lq; omega), by omega⟩
  · exact hH.imp fun nh z => ((z.on hba).far hTg (by have := D.lh; omega)).far hTs (by have := D.lh; have := D.lq; omega)
  · rw [tgtsC_snoc, hy]
    exact own_off hO3 hTs (own_full_ne hO3 fq3 (by decide))
  · rw [List.length_append]
    exact ⟨by rw [hln.1]; rfl, by have := hln.2; omega⟩
  · intro p hp
    rcases List.mem_append.1 hp with hp | hp
    · exact hrow2 p (fun i hi => own_keep (own_turn (h.rows p hp i hi) hT hfar) hba)
    · obtain rfl : p = (T', vs') := by simpa using hp
      exact hrow2 _ (fun i hi => own_keep (own_base (hR.own i hi) hB) hba)
  · have z := own_far (own_keep (own_turn h.pl hT hfar) hba) hG (own_ty_ne (own_keep (own_turn h.pl hT hfar) hba) hOa (by decide))
    exact own_off z hTs (own_full_ne z fq3 (by decide))
  · exact (((h.tn.trans_ hT).trans_ (Turn.of hba)).late hTg (fun g e => .inr e)).late hTs fun g e => .inr (by rw [e]; exact D.lq)
end Go.Proofs.YtcjoiiaankngjaaGreatDoor
/- file: all of a source. -/
namespace Go.Proofs.YtcjoiiaankngjaaGreatDoor
set_option maxRecDepth 100000
open Go.RowKit
theorem tgts_yes {f rl : Nat} {K : Kn} {t : Tok} {ts : List Tok} (h : t.txt = wTarget) : pTgts (f + 1) rl K (.ok (t :: ts)) =
    ((pWhole t.ln rl K (.ok ts)).2.1 :: (pTgts f (pWhole t.ln rl K (.ok ts)).2.1.rl (pWhole t.ln rl K (.ok ts)).2.2 (pWhole t.ln rl K (.ok ts)).1).1,
        (pTgts f (pWhole t.ln rl K (.ok ts)).2.1.rl (pWhole t.ln rl K (.ok ts)).2.2 (pWhole t.ln rl K (.ok ts)).1).2) := by
  rw [pTgts, if_pos h]
theorem tgts_no {f rl : Nat} {K : Kn} {σ : Pst} (h : pTx σ ≠ wTarget) : pTgts (f + 1) rl K σ = ([], σ) := by
  cases σ with
  | bad e l => rfl
  | ok ts =>
    cases ts with
    | nil => rfl
    | cons t r => rw [pTgts, if_neg (show ¬ t.txt = wTarget from h)]
theorem ok_of_tx {σ : Pst} (h : pTx σ = wTarget) : ∃ t ts, σ = .ok (t :: ts) ∧ t.txt = wTarget := by
  cases σ with
  | bad e l => exact absurd (show ([] : List UInt8) = wTarget from h) (by decide)
  | ok ts =>
    cases ts with
    | nil => exact absurd (show ([] : List UInt8) = wTarget from h) (by decide)
    | cons t r => exact ⟨t, r, rfl, h⟩
/-- a build in memory -/
def BuildAt (w : World) (base : Nat) (v : Value) (pl : List Itm) (L : List Tgt) : Prop :=
  ∃ Vp A n c tl, v = .agg #[Vp, .slice A n c] ∧ w.ownsRow base 50 9 (.slice A n c) n (tgtsC tl) ∧ n = tl.length ∧ tl.map Prod.fst = L ∧ (∀ p ∈ tl, TG w base p) ∧ w.ownsRow base 52 4 Vp pl.length (itmsC pl)
def FileOut (w : World) (b m hh : Nat) (pl : List Itm) (L : List Tgt) (σ2 : Pst) (en : Ending) (w' : World) : Prop :=
  ∃ v σe R, en = .returned v ∧ BuildAt w' w.heap.size v pl L ∧ pEnd σ2 σe ∧ PS w' b σe R ∧ Turn (GB b m hh) w w'
theorem FS.start {w w2 : World} {b a m hh q r k : Nat} {σ : Pst} {K : Kn} {T : Tgt} {vs : Nat → Value} (hP : PS w2 b σ (tR a m hh T vs)) (hN : Names w2 m k K) (hk : k + plen σ ≤ XL) (hH : ∃ kh, Names w2 hh kh T.had)
    (hq : Full w2 q 28 [.slice none 0 0, .slice none 0 0]) (hr : Full w2 r 28 [.slice none 0 0, .slice none 0 0]) (ht : Turn (GB b m hh) w w2) (hl : plen σ ≤ XL) : FS w b a m hh q r (.slice none 0 0) [] w2 σ K T vs [] none 0 0 :=
  ⟨hP, ⟨k, hN, hk⟩, hH, hq, hr, ⟨rfl, .inl ⟨rfl, rfl⟩⟩, ⟨rfl, by omega⟩, fun p hp => (by cases hp), ⟨rfl, .inl ⟨rfl, rfl⟩⟩, ht⟩
/-- the platforms are laid -/
theorem FS.plats {w0 w w2 : World} {b a m hh q r : Nat} {σ σ' : Pst} {K : Kn} {T : Tgt} {vs : Nat → Value} (D : FB w0 b m hh q r) (hmb : m ≠ b) (hhb : hh ≠ b) (h : FS w0 b a m hh q r (.slice none 0 0) [] w σ K T vs [] none 0 0) {A : Option Addr} {n c : Nat} {pl : List Itm} (hO : w2.ownsRow w0.heap.size 52 4 (.slice A n c) pl.length (itmsC pl)) (hP : PS w2 b σ' (tR a m hh T vs)) (hT : Turn (fun g => g = b) w w2) (hle : plen σ' ≤ plen σ) :
    (w2.cell? ⟨q, 0, none⟩ = some (.slice none 0 0) ∧ w2.frozen? ⟨q, 0, none⟩ = false) ∧ FS w0 b a m hh q r (.slice A n c) pl (w2.setCell ⟨q, 0, none⟩ (.slice A n c)) σ' K T vs [] none 0 0 := by
  have fq2 := hT.far h.fq (by have := D.lb; have := D.lq; omega)
  have fr2 := hT.far h.fr (by have := D.lb; have := D.lr; omega)
  have hTs : Turn (fun g => g = q) w2 (w2.setCell ⟨q, 0, none⟩ (.slice A n c)) := Turn.set_ (F := fun g => g = q) (a := ⟨q, 0, none⟩) rfl _
  refine ⟨⟨fq2.cell 0, fq2.frozen 0⟩, ⟨hP.farT hTs (by have := D.lb; have := D.lq; omega), ?_, ?_, fq2.set_ 0 _, fr2.far (p := ⟨q, 0, none⟩) (fun e => D.qr e.symm) _, ⟨rfl, .inl ⟨rfl, rfl⟩⟩, ⟨rfl, by have := h.ln.2; omega⟩, fun p hp => (by cases hp), own_off hO hTs (own_full_ne hO fq2 (by decide)), ?_⟩⟩
  · exact h.nm.imp fun k z => ⟨(z.1.far hT (fun e => hmb e)).far hTs (by have := D.lm; have := D.lq; omega), by have := z.2; omega⟩
  · exact h.hd.imp fun k z => (z.far hT (fun e => hhb e)).far hTs (by have := D.lh; have := D.lq; omega)
  · exact (h.tn.trans_ (hT.mono fun _ e => .inl e)).late hTs fun g e => .inr (by rw [e]; exact D.lq)
/-- the end of the source -/
theorem FS.end_ {w0 w w2 : World} {b a m hh q r n c : Nat} {Vp : Value} {pl : List Itm} {σ σe : Pst} {K : Kn} {T : Tgt} {vs : Nat → Value} {l : List (Tgt × (Nat → Value))} {A : Option Addr} {L : List Tgt} (D : FB w0 b m hh q r) (h : FS w0 b a m hh q r Vp pl w σ K T vs l A n c)
    (hP : PS w2 b σe (tR a m hh T vs)) (hE : pEnd σ σe) (hT : Turn (fun g => g = b) w w2) (hL : l.map Prod.fst = L) :
    (w2.cell? ⟨q, 0, none⟩ = some Vp ∧ w2.cell? ⟨q, 1, none⟩ = some (.slice A n c)) ∧ (w2.cell? ⟨r, 0, none⟩ = some (.slice none 0 0) ∧ w2.frozen? ⟨r, 0, none⟩ = false) ∧
    ((w2.setCell ⟨r, 0, none⟩ Vp).cell? ⟨r, 1, none⟩ = some (.slice none 0 0) ∧ (w2.setCell ⟨r, 0, none⟩ Vp).frozen? ⟨r, 1, none⟩ = false) ∧
    Full ((w2.setCell ⟨r, 0, none⟩ Vp).setCell ⟨r, 1, none⟩ (.slice A n c)) r 28 [Vp, .slice A n c] ∧
    FileOut w0 b m hh pl L σ (.returned (.agg #[Vp, .slice A n c])) ((w2.setCell ⟨r, 0, none⟩ Vp).setCell ⟨r, 1, none⟩ (.slice A n c)) := by
  have fq2 := hT.far h.fq (by have := D.lb; have := D.lq; omega)
  have fr2 := hT.far h.fr (by have := D.lb; have := D.lr; omega)
  have hTs : Turn (fun g => g = r) w2 ((w2.setCell ⟨r, 0, none⟩ Vp).setCell ⟨r, 1, none⟩ (.slice A n c)) := ((Turn.refl (fun g => g = r) w2).setb rfl 0 Vp).setb rfl 1 (.slice A n c)
  have hlt : ∀ g, (fun g => g = b) g → g < w0.heap.size := fun g e => by rw [e]; exact D.lb
  refine ⟨⟨fq2.cell 0, fq2.cell 1⟩, ⟨fr2.cell 0, fr2.frozen 0⟩, ⟨(fr2.set_ 0 Vp).cell 1, (fr2.set_ 0 Vp).frozen 1⟩, (fr2.set_ 0 Vp).set_ 1 _, ⟨_, σe, _, rfl, ⟨Vp, A, n, c, l, rfl, ?_, h.ln.1, hL, ?_, ?_⟩, hE, hP.farT hTs (by have := D.lb; have := D.lr; omega), ?_⟩⟩
  · have z := own_turn h.tg hT hlt
    exact own_off z hTs (own_full_ne z fr2 (by decide))
  · intro p hp i hi
    have z := own_turn (h.rows p hp i hi) hT hlt
    exact own_off z hTs (own_full_ne z fr2 (by decide))
  · have z := own_turn h.pl hT hlt
    exact own_off z hTs (own_full_ne z fr2 (by decide))
  · exact (h.tn.trans_ (hT.mono fun _ e => .inl e)).late hTs fun g e => .inr (by rw [e]; exact D.lr)
set_option maxHeartbeats 8000000 in
theorem file_any {w : World} {b a m hh kh : Nat} {σ : Pst} {T0 : Tgt} {vs0 : Nat → Value} (h : PS w b σ (tR a m hh T0 vs0)) (hN : Names w m 0 (fun _ => false)) (hH : Names w hh kh T0.had) (hA : Attrs w a b) (hL : Laid w)
    (hb9 : 9 ≤ b) (hh9 : 9 ≤ hh) (hm9 : 9 ≤ m) (hmb : m ≠ b) (hmh : m ≠ hh) (hne : hh ≠ b) (hab : a ≠ b) (hah : a ≠ hh) (ham : a ≠ m) :
    Calls Tryz.prog 43 #[.pointer (some ⟨b, 0, none⟩)] w (FileOut w b m hh (pHead σ).1 (pTgts (plen (pHead σ).2 + 1) T0.rl (fun _ => false) (pHead σ).2).1 (pTgts (plen (pHead σ).2 + 1) T0.rl (fun _ => false) (pHead σ).2).2) := by
  obtain ⟨σ1, h1⟩ : ∃ x, (pHead σ).2 = x := ⟨_, rfl⟩
  obtain ⟨pl, hpl⟩ : ∃ x, (pHead σ).1 = x := ⟨_, rfl⟩
  rw [h1, hpl]
  obtain ⟨L, hLL⟩ : ∃ x, (pTgts (plen σ1 + 1) T0.rl (fun _ => false) σ1).1 = x := ⟨_, rfl⟩
  obtain ⟨σ2, h2⟩ : ∃ x, (pTgts (plen σ1 + 1) T0.rl (fun _ => false) σ1).2 = x := ⟨_, rfl⟩
  rw [hLL, h2]
  obtain ⟨w1, hw1⟩ : ∃ w1, w.alloc (.cells #[.slice none 0 0, .slice none 0 0] 28) = w1 := ⟨_, rfl⟩
  have hb1 : Below w.heap.size w w1 := by rw [← hw1]; exact (Below.refl _ w).alloc (Nat.le_refl _) _
  have F1 : Full w1 w.heap.size 28 [.slice none 0 0, .slice none 0 0] := by rw [← hw1]; exact Full.new w 28 _
  have s1 : w1.heap.size = w.heap.size + 1 := by rw [← hw1]; exact World.size_alloc _ _
  obtain ⟨w2, hw2⟩ : ∃ w2, w1.alloc (.cells #[.slice none 0 0, .slice none 0 0] 28) = w2 := ⟨_, rfl⟩
  have hb2 : Below w1.heap.size w1 w2 := by rw [← hw2]; exact (Below.refl _ w1).alloc (Nat.le_refl _) _
  have F2 : Full w2 w1.heap.size 28 [.slice none 0 0, .slice none 0 0] := by rw [← hw2]; exact Full.new w1 28 _
  have F12 := F1.on hb2
  obtain ⟨r, hr⟩ : ∃ r, w.heap.size = r := ⟨_, rfl⟩
  obtain ⟨q, hq⟩ : ∃ q, w1.heap.size = q := ⟨_, rfl⟩
  rw [hq] at F2
  have D : FB w b m hh q r := ⟨h.lt, hN.lt, hH.lt, by omega, by omega, by omega⟩
  rw [hr] at F12
  have hpl0 : plen σ ≤ XL := by have := h.plen_le; unfold XL; omega
  have S2 : FS w b a m hh q r (.slice none 0 0) [] w2 σ (fun _ => false) T0 vs0 [] none 0 0 :=
    FS.start ((h.on hb1).on hb2) ((hN.on hb1).on hb2) (by omega) ⟨kh, (hH.on hb1).on hb2⟩ F2 F12 ((Turn.of hb1).trans_ (Turn.of hb2)) hpl0
  have HA := Lib.hid (fun (W : World) (g : Turn (GB b m hh) w W) => hA.far g (fun e => by rcases e with e | e | e; exact hab e; exact hah e; exact ham e))
  have HLa := Lib.hid (fun (W : World) (g : Turn (GB b m hh) w W) => hL.turn g (fun g e => by rcases e with e | e | e <;> omega))
  have TK := take_any S2.ps wPlats (by decide)
  unfold TakeOut at TK
  have HE := Lib.hid (And.intro hLL h2)
  have HD := Lib.hid D
  have HS2 := Lib.hid S2
  have LOOP : ∀ (x6 x7 x8 : Value) (W : World) (Vp : Value), True := fun _ _ _ _ _ => trivial
  clear LOOP
  have hle1 : plen (pTake wPlats σ).2 ≤ plen σ := pTake_le _ _
  cases htk : (pTake wPlats σ).1 with
  | true =>
    rw [htk] at TK
    have e1 : pHead σ = ((pPlats (pTake wPlats σ).2).1, (pPlats (pTake wPlats σ).2).2.1) := by unfold pHead; rw [if_pos htk]
    rw [e1] at h1 hpl
    obtain ⟨σ0, h0⟩ : ∃ x, (pTake wPlats σ).2 = x := ⟨_, rfl⟩
    rw [h0] at TK h1 hpl hle1
    dsimp only at h1 hpl
    have hs0 := pPlats_sum σ0
    rw [hpl, h1] at hs0
    have PL := Lib.hid (fun (W : World) (hP : PS W b σ0 (tR a m hh T0 vs0)) => (by
      have z := platforms_any hP
      unfold PlsOut at z
      rw [hpl, h1] at z
      exact z : Calls Tryz.prog 75 #[.pointer (some ⟨b, 0, none⟩)] W fun en w' => ∃ A c, en = .returned (.slice A pl.length c) ∧ OwnI w' W.heap.size A c pl ∧ PS w' b σ1 (tR a m hh T0 vs0) ∧ Turn (fun g => g = b) W w'))
    have TK := Lib.hid (show Calls Tryz.prog 74 #[.pointer (some ⟨b, 0, none⟩), .string ⟨#[112, 108, 97, 116, 102, 111, 114, 109, 115]⟩] w2 _ from TK)
    have hle2 := Lib.hid (show plen σ1 ≤ plen σ by
      have z := pPlats_sum σ0
      have z2 := pTake_less wPlats σ htk
      rw [h0] at z2
      rw [h1, hpl] at z
      omega)
    obtain ⟨np, hnp⟩ : ∃ k, pl.length = k := ⟨_, rfl⟩
    rw [hnp] at PL
    have HNP := Lib.hid hnp
    clear hnp e1 h1 hpl h0 htk hs0 hle1 S2 D h hN hH hA hL hLL h2 F1 F2 F12 hb1 hb2 s1 hpl0
    go_enter Tryz.func43, Tryz.ntmps43
    go_upto_region 3 with (first
      | (go_at_call 74; ((with_reducible refine TK.out.mono ?_); rintro en w5 ⟨rfl, hP5, hT5⟩; (have HP5 := Lib.hid hP5); (have HT5 := Lib.hid hT5); clear hP5 hT5))
      | (fail "arm"))
    go_upto_region 4 with (first
      | (go_at_call 75; ((with_reducible refine (PL.out w5 HP5.out).mono ?_); rintro en w6 ⟨Ap, cp, rfl, hO6, hP6, hT6⟩; (obtain ⟨⟨z1, z2⟩, hFS⟩ := FS.plats HD.out hmb hne HS2.out (A := Ap) (n := np) (c := cp) (pl := pl) (by have q1 := own_base hO6 (Nat.le_trans HS2.out.tn.size HT5.out.size); rw [HNP.out] at q1 ⊢; exact q1) hP6 (HT5.out.trans_ hT6) hle2.out); (have HFS := Lib.hid hFS); clear hFS hO6 hP6 hT6))
      | (fail "arm"))
    go_loopw [14] (fun _ wr => ∃ (f : Nat) (σ' : Pst) (K' : Kn) (T : Tgt) (vs : Nat → Value) (l : List (Tgt × (Nat → Value))) (A : Option Addr) (n c : Nat), Hid (plen σ' < f) ∧ Hid (l.map Prod.fst ++ (pTgts f T.rl K' σ').1 = L) ∧ Hid ((pTgts f T.rl K' σ').2 = σ2) ∧ Hid (FS w b a m hh q r (.slice Ap np cp) pl wr σ' K' T vs l A n c)) (fun _ wr => wlen b wr)
    case atStart => exact ⟨plen σ1 + 1, σ1, fun _ => false, T0, vs0, [], none, 0, 0, Lib.hid (Nat.lt_succ_self _), Lib.hid HE.out.1, Lib.hid HE.out.2, HFS⟩
    case round =>
      obtain ⟨f, σ', K', T, vs, l, A, n, c, Hf, HL, HS, HF⟩ := hrel
      obtain ⟨f, rfl⟩ : ∃ k, f = k + 1 := ⟨f - 1, by have := Hf.out; omega⟩
      clear HFS
      have k3 := (ps_tx HF.out.ps).1
      by_cases htx : pTx σ' = wTarget
      · obtain ⟨t, ts, rfl, ht⟩ := ok_of_tx htx
        have hL := HL.out
        have h2 := HS.out
        rw [tgts_yes ht] at hL h2
        have tok := (ps_tx HF.out.ps).2.2 t ts rfl
        have hcls : 2 ≤ t.cls := by
          have e0 := tok.1
          rw [ht] at e0
          have e : first wTarget = (2, 6) := by decide
          rw [e] at e0
          injection e0 with e1 _
          omega
        obtain ⟨k, hk1, hk2⟩ := HF.out.nm
        obtain ⟨kh, hkh⟩ := HF.out.hd
        have WH := whole_any HF.out.drew.ps (n := k) (nh := kh) (hk1.keep rfl : Names wr.drew m k K') (hkh.keep rfl : Names wr.drew hh kh T.had) (HA.out wr.drew HF.out.tn.drew) (HLa.out wr.drew HF.out.tn.drew) hb9 hh9 hm9 hmb hmh hne hab hah ham (by unfold XL at hk2; unfold maxLen; omega) hcls
        have hle7 := pWhole_le t.ln T.rl K' (.ok ts)
        obtain ⟨⟨σ7, T7, K7⟩, e7⟩ : ∃ x, pWhole t.ln T.rl K' (.ok ts) = x := ⟨_, rfl⟩
        rw [e7] at WH hL h2 hle7
        dsimp only at hL h2 hle7
        unfold WholeOut tgtV at WH
        dsimp only at WH
        have heq : ((str (pTx (.ok (t :: ts)))).toList == [116, 97, 114, 103, 101, 116]) = true := by rw [htx, Lib.toList_data, str_data]; decide
        obtain ⟨X, hX⟩ : ∃ X, str (pTx (.ok (t :: ts))) = X := ⟨_, rfl⟩
        rw [hX] at heq k3
        have u1 : wr.drew.cell? ⟨q, 1, none⟩ = some (.slice A n c) := HF.out.fq.cell 1
        have HWH := Lib.hid WH
        have HL2 := Lib.hid (And.intro hL (And.intro h2 (And.intro hle7 hk2)))
        obtain ⟨x0, hx0⟩ : ∃ x, str T7.name = x := ⟨_, rfl⟩
        rw [hx0] at HWH
        have HX0 := Lib.hid hx0
        have HGR := Lib.hid (fun (w2 : World) (vs' : Nat → Value) (hP : PS w2 b σ7 (tR a m hh T7 vs')) (hR : Rows4 w2 wr.drew.heap.size T7.rows vs') (hN : Names w2 m (k + 1) K7) (hH : ∃ nh, Names w2 hh nh T7.had) (hT : Turn (GB b m hh) wr.drew w2) => FS.grow (t := t) (ts := ts) HD.out HF.out.drew hP hR hk2 hN hH hT hle7)
        have HFQ := Lib.hid (fun (w2 : World) (hT : Turn (GB b m hh) wr.drew w2) => hT.far HF.out.drew.fq (fun e => by have := HD.out.lb; have := HD.out.lm; have := HD.out.lh; have := HD.out.lq; rcases e with e | e | e <;> omega))
        clear hX htx ht hL h2 tok hcls hk1 hk2 hkh WH hle7 e7 hx0 HL HS
        go_upto_region 5 with fail
        go_region_law (first
          | (refine step_call_fn rfl 76 _ _ rfl #[.pointer (some ⟨b, 0, none⟩)] (by rfl) (enters_of Tryz.func76 (by kernel_rfl) rfl) HWH.out ?_; rintro en w8 ⟨vs7, rfl, hP8, hR8, hN8, hH8, hT8⟩; refine ⟨_, rfl, ?_⟩; (obtain ⟨A0, k0, g0⟩ := own_form (hR8.own 0 (by decide))); (obtain ⟨A1, k1, g1⟩ := own_form (hR8.own 1 (by decide))); (obtain ⟨A2, k2, g2⟩ := own_form (hR8.own 2 (by decide))); (obtain ⟨A3, k4, g3⟩ := own_form (hR8.own 3 (by decide))); (have F8 := HFQ.out w8 hT8); (obtain ⟨g9, c9, w9, hap, ⟨z1, z2⟩, hFS9⟩ := HGR.out w8 vs7 hP8 hR8 hN8 hH8 hT8 (.string x0) (.int .i64 T7.kind) (.int .i64 (T7.line : Int)) (.slice A0 (T7.rows 0).length k0) (.slice A1 (T7.rows 1).length k1) (.slice A2 (T7.rows 2).length k2) (.slice A3 (T7.rows 3).length k4) (.int .i64 T7.cost) (.int .i64 T7.retry) (by unfold tgtC; rw [HX0.out]; dsimp only; rw [g0, g1, g2, g3])); (rw [g0, g1, g2, g3]); (have k8 : w8.cell? ⟨q, 1, none⟩ = some (.slice A n c) := F8.cell 1); (have k9 := ((F8.alloc (.cells #[.string x0, .int .i64 T7.kind, .int .i64 (T7.line : Int), .slice A0 (T7.rows 0).length k0, .slice A1 (T7.rows 1).length k1, .slice A2 (T7.rows 2).length k2, .slice A3 (T7.rows 3).length k4, .int .i64 T7.cost, .int .i64 T7.retry] 50)).cell 1)); (dsimp only [List.getElem?_cons_zero, List.getElem?_cons_succ] at k9); (have HFS9 := Lib.hid hFS9); clear g0 g1 g2 g3 hP8 hR8 hN8 hH8 hT8 F8 hFS9)
          | (refine step_append_run rfl _ _ 26 26 rfl (.slice A n c) (.slice (some ⟨w8.heap.size, 0, none⟩) 1 1) (by simp [Act.eval]) (by simp [Act.eval]) hap ?_))
        all_goals
          go_wp2
          go_roundw
          case rel => exact ⟨f, σ7, K7, T7, vs7, l ++ [(T7, vs7)], some ⟨g9, 0, none⟩, n + 1, c9, Lib.hid (by have := Hf.out; have := HL2.out.2.2.1; simp [plen] at *; omega), Lib.hid (by have := HL2.out.1; rw [List.map_append, List.append_assoc]; exact this), Lib.hid HL2.out.2.1, HFS9⟩
          case measure =>
            show wlen b _ < wlen b wr
            rw [wlen_eq HFS9.out.ps, wlen_eq HF.out.ps]
            have := HL2.out.2.2.1
            simp [plen] at this ⊢
            omega
      · have hL := HL.out
        have h2 := HS.out
        rw [tgts_no htx] at hL h2
        rw [List.append_nil] at hL
        dsimp only at h2
        subst h2
        have heq : ((str (pTx σ')).toList == [116, 97, 114, 103, 101, 116]) = false := by
          rw [Lib.toList_data, str_data]
          rw [beq_eq_false_iff_ne]
          exact htx
        obtain ⟨X, hX⟩ : ∃ X, str (pTx σ') = X := ⟨_, rfl⟩
        rw [hX] at heq k3
        have HEN := Lib.hid (any_end HF.out.ps)
        have HEE := Lib.hid (fun (w2 : World) (σe : Pst) (hP : PS w2 b σe (tR a m hh T vs)) (hE : pEnd σ' σe) (hT : Turn (fun g => g = b) wr w2) => FS.end_ HD.out HF.out hP hE hT hL)
        clear hX htx hL HL HS
        go_upto_region 7 with (first
          | (go_at_call 77; ((with_reducible refine HEN.out.mono ?_); rintro en w8 ⟨v8, σe, rfl, hP8, hE8, hT8⟩; (obtain ⟨⟨y1, y2⟩, ⟨y3, y4⟩, ⟨y5, y6⟩, hF8, hO8⟩ := HEE.out w8 σe hP8 hE8 hT8); (have HF8 := Lib.hid hF8); (have HO8 := Lib.hid hO8); clear hF8 hO8 hP8 hE8 hT8))
          | (fail "arm"))
        go_wp2
        have f8 := HF8.out
        have o8 := HO8.out
        obtain ⟨w10, hw10⟩ : ∃ w10, (w8.setCell ⟨r, 0, none⟩ (.slice Ap np cp)).setCell ⟨r, 1, none⟩ (.slice A n c) = w10 := ⟨_, rfl⟩
        rw [hw10] at f8 o8 ⊢
        have q0 := f8.cell 0
        have q1 := f8.cell 1
        dsimp only [List.getElem?_cons_zero, List.getElem?_cons_succ] at q0 q1
        exact bodyPost_ret (v := .agg #[.slice Ap np cp, .slice A n c]) (by simp [results, Tryz.results43, go_sem, q0, q1]) rfl o8
  | false =>
    rw [htk] at TK
    have e1 : pHead σ = ([], (pTake wPlats σ).2) := by unfold pHead; rw [if_neg (by rw [htk]; decide)]
    rw [e1] at h1 hpl
    dsimp only at h1 hpl
    subst hpl
    rw [h1] at TK hle1
    have TK := Lib.hid (show Calls Tryz.prog 74 #[.pointer (some ⟨b, 0, none⟩), .string ⟨#[112, 108, 97, 116, 102, 111, 114, 109, 115]⟩] w2 _ from TK)
    have HLE := Lib.hid hle1
    clear e1 h1 htk S2 D h hN hH hA hL hLL h2 F1 F2 F12 hb1 hb2 s1 hpl0 hle1
    obtain ⟨Ap, hAp⟩ : ∃ x : Option Addr, (none : Option Addr) = x := ⟨_, rfl⟩
    obtain ⟨np, hnp⟩ : ∃ x : Nat, 0 = x := ⟨_, rfl⟩
    obtain ⟨cp, hcp⟩ : ∃ x : Nat, 0 = x := ⟨_, rfl⟩
    obtain ⟨pl, hpl⟩ : ∃ x : List Itm, [] = x := ⟨_, rfl⟩
    have HPL := Lib.hid (And.intro hAp (And.intro hnp (And.intro hcp hpl)))
    rw [hpl]
    clear hAp hnp hcp hpl
    go_enter Tryz.func43, Tryz.ntmps43
    go_upto_region 4 with (first
      | (go_at_call 74; ((with_reducible refine TK.out.mono ?_); rintro en w5 ⟨rfl, hP5, hT5⟩; (have HFS := Lib.hid (show FS w b a m hh q r (.slice Ap np cp) pl w5 σ1 (fun _ => false) T0 vs0 [] none 0 0 from by
          rw [← HPL.out.1, ← HPL.out.2.1, ← HPL.out.2.2.1, ← HPL.out.2.2.2]
          have S := HS2.out
          exact ⟨hP5, S.nm.imp fun k z => ⟨z.1.far hT5 (fun e => hmb e), by have := z.2; have := HLE.out; omega⟩, S.hd.imp fun k z => z.far hT5 (fun e => hne e), hT5.far S.fq (by have := HD.out.lb; have := HD.out.lq; omega), hT5.far S.fr (by have := HD.out.lb; have := HD.out.lr; omega), ⟨rfl, .inl ⟨rfl, rfl⟩⟩, ⟨rfl, by have := S.ln.2; have := HLE.out; omega⟩, fun p hp => (by cases hp), ⟨rfl, .inl ⟨rfl, rfl⟩⟩, S.tn.trans_ (hT5.mono fun _ e => .inl e)⟩)); clear hP5 hT5))
      | (fail "arm"))
    go_loopw [14] (fun _ wr => ∃ (f : Nat) (σ' : Pst) (K' : Kn) (T : Tgt) (vs : Nat → Value) (l : List (Tgt × (Nat → Value))) (A : Option Addr) (n c : Nat), Hid (plen σ' < f) ∧ Hid (l.map Prod.fst ++ (pTgts f T.rl K' σ').1 = L) ∧ Hid ((pTgts f T.rl K' σ').2 = σ2) ∧ Hid (FS w b a m hh q r (.slice Ap np cp) pl wr σ' K' T vs l A n c)) (fun _ wr => wlen b wr)
    case atStart => exact ⟨plen σ1 + 1, σ1, fun _ => false, T0, vs0, [], none, 0, 0, Lib.hid (Nat.lt_succ_self _), Lib.hid HE.out.1, Lib.hid HE.out.2, HFS⟩
    case round =>
      obtain ⟨f, σ', K', T, vs, l, A, n, c, Hf, HL, HS, HF⟩ := hrel
      obtain ⟨f, rfl⟩ : ∃ k, f = k + 1 := ⟨f - 1, by have := Hf.out; omega⟩
      clear HFS
      have k3 := (ps_tx HF.out.ps).1
      by_cases htx : pTx σ' = wTarget
      · obtain ⟨t, ts, rfl, ht⟩ := ok_of_tx htx
        have hL := HL.out
        have h2 := HS.out
        rw [tgts_yes ht] at hL h2
        have tok := (ps_tx HF.out.ps).2.2 t ts rfl
        have hcls : 2 ≤ t.cls := by
          have e0 := tok.1
          rw [ht] at e0
          have e : first wTarget = (2, 6) := by decide
          rw [e] at e0
          injection e0 with e1 _
          omega
        obtain ⟨k, hk1, hk2⟩ := HF.out.nm
        obtain ⟨kh, hkh⟩ := HF.out.hd
        have WH := whole_any HF.out.drew.ps (n := k) (nh := kh) (hk1.keep rfl : Names wr.drew m k K') (hkh.keep rfl : Names wr.drew hh kh T.had) (HA.out wr.drew HF.out.tn.drew) (HLa.out wr.drew HF.out.tn.drew) hb9 hh9 hm9 hmb hmh hne hab hah ham (by unfold XL at hk2; unfold maxLen; omega) hcls
        have hle7 := pWhole_le t.ln T.rl K' (.ok ts)
        obtain ⟨⟨σ7, T7, K7⟩, e7⟩ : ∃ x, pWhole t.ln T.rl K' (.ok ts) = x := ⟨_, rfl⟩
        rw [e7] at WH hL h2 hle7
        dsimp only at hL h2 hle7
        unfold WholeOut tgtV at WH
        dsimp only at WH
        have heq : ((str (pTx (.ok (t :: ts)))).toList == [116, 97, 114, 103, 101, 116]) = true := by rw [htx, Lib.toList_data, str_data]; decide
        obtain ⟨X, hX⟩ : ∃ X, str (pTx (.ok (t :: ts))) = X := ⟨_, rfl⟩
        rw [hX] at heq k3
        have u1 : wr.drew.cell? ⟨q, 1, none⟩ = some (.slice A n c) := HF.out.fq.cell 1
        have HWH := Lib.hid WH
        have HL2 := Lib.hid (And.intro hL (And.intro h2 (And.intro hle7 hk2)))
        obtain ⟨x0, hx0⟩ : ∃ x, str T7.name = x := ⟨_, rfl⟩
        rw [hx0] at HWH
        have HX0 := Lib.hid hx0
        have HGR := Lib.hid (fun (w2 : World) (vs' : Nat → Value) (hP : PS w2 b σ7 (tR a m hh T7 vs')) (hR : Rows4 w2 wr.drew.heap.size T7.rows vs') (hN : Names w2 m (k + 1) K7) (hH : ∃ nh, Names w2 hh nh T7.had) (hT : Turn (GB b m hh) wr.drew w2) => FS.grow (t := t) (ts := ts) HD.out HF.out.drew hP hR hk2 hN hH hT hle7)
        have HFQ := Lib.hid (fun (w2 : World) (hT : Turn (GB b m hh) wr.drew w2) => hT.far HF.out.drew.fq (fun e => by have := HD.out.lb; have := HD.out.lm; have := HD.out.lh; have := HD.out.lq; rcases e with e | e | e <;> omega))
        clear hX htx ht hL h2 tok hcls hk1 hk2 hkh WH hle7 e7 hx0 HL HS
        go_upto_region 5 with fail
        go_region_law (first
          | (refine step_call_fn rfl 76 _ _ rfl #[.pointer (some ⟨b, 0, none⟩)] (by rfl) (enters_of Tryz.func76 (by kernel_rfl) rfl) HWH.out ?_; rintro en w8 ⟨vs7, rfl, hP8, hR8, hN8, hH8, hT8⟩; refine ⟨_, rfl, ?_⟩; (obtain ⟨A0, k0, g0⟩ := own_form (hR8.own 0 (by decide))); (obtain ⟨A1, k1, g1⟩ := own_form (hR8.own 1 (by decide))); (obtain ⟨A2, k2, g2⟩ := own_form (hR8.own 2 (by decide))); (obtain ⟨A3, k4, g3⟩ := own_form (hR8.own 3 (by decide))); (have F8 := HFQ.out w8 hT8); (obtain ⟨g9, c9, w9, hap, ⟨z1, z2⟩, hFS9⟩ := HGR.out w8 vs7 hP8 hR8 hN8 hH8 hT8 (.string x0) (.int .i64 T7.kind) (.int .i64 (T7.line : Int)) (.slice A0 (T7.rows 0).length k0) (.slice A1 (T7.rows 1).length k1) (.slice A2 (T7.rows 2).length k2) (.slice A3 (T7.rows 3).length k4) (.int .i64 T7.cost) (.int .i64 T7.retry) (by unfold tgtC; rw [HX0.out]; dsimp only; rw [g0, g1, g2, g3])); (rw [g0, g1, g2, g3]); (have k8 : w8.cell? ⟨q, 1, none⟩ = some (.slice A n c) := F8.cell 1); (have k9 := ((F8.alloc (.cells #[.string x0, .int .i64 T7.kind, .int .i64 (T7.line : Int), .slice A0 (T7.rows 0).length k0, .slice A1 (T7.rows 1).length k1, .slice A2 (T7.rows 2).length k2, .slice A3 (T7.rows 3).length k4, .int .i64 T7.cost, .int .i64 T7.retry] 50)).cell 1)); (dsimp only [List.getElem?_cons_zero, List.getElem?_cons_succ] at k9); (have HFS9 := Lib.hid hFS9); clear g0 g1 g2 g3 hP8 hR8 hN8 hH8 hT8 F8 hFS9)
          | (refine step_append_run rfl _ _ 26 26 rfl (.slice A n c) (.slice (some ⟨w8.heap.size, 0, none⟩) 1 1) (by simp [Act.eval]) (by simp [Act.eval]) hap ?_))
        all_goals
          go_wp2
          go_roundw
          case rel => exact ⟨f, σ7, K7, T7, vs7, l ++ [(T7, vs7)], some ⟨g9, 0, none⟩, n + 1, c9, Lib.hid (by have := Hf.out; have := HL2.out.2.2.1; simp [plen] at *; omega), Lib.hid (by have := HL2.out.1; rw [List.map_append, List.append_assoc]; exact this), Lib.hid HL2.out.2.1, HFS9⟩
          case measure =>
            show wlen b _ < wlen b wr
            rw [wlen_eq HFS9.out.ps, wlen_eq HF.out.ps]
            have := HL2.out.2.2.1
            simp [plen] at this ⊢
            omega
      · have hL := HL.out
        have h2 := HS.out
        rw [tgts_no htx] at hL h2
        rw [List.append_nil] at hL
        dsimp only at h2
        subst h2
        have heq : ((str (pTx σ')).toList == [116, 97, 114, 103, 101, 116]) = false := by
          rw [Lib.toList_data, str_data]
          rw [beq_eq_false_iff_ne]
          exact htx
        obtain ⟨X, hX⟩ : ∃ X, str (pTx σ') = X := ⟨_, rfl⟩
        rw [hX] at heq k3
        have HEN := Lib.hid (any_end HF.out.ps)
        have HEE := Lib.hid (fun (w2 : World) (σe : Pst) (hP : PS w2 b σe (tR a m hh T vs)) (hE : pEnd σ' σe) (hT : Turn (fun g => g = b) wr w2) => FS.end_ HD.out HF.out hP hE hT hL)
        clear hX htx hL HL HS
        go_upto_region 7 with (first
          | (go_at_call 77; ((with_reducible refine HEN.out.mono ?_); rintro en w8 ⟨v8, σe, rfl, hP8, hE8, hT8⟩; (obtain ⟨⟨y1, y2⟩, ⟨y3, y4⟩, ⟨y5, y6⟩, hF8, hO8⟩ := HEE.out w8 σe hP8 hE8 hT8); (have HF8 := Lib.hid hF8); (have HO8 := Lib.hid hO8); clear hF8 hO8 hP8 hE8 hT8))
          | (fail "arm"))
        go_wp2
        have f8 := HF8.out
        have o8 := HO8.out
        obtain ⟨w10, hw10⟩ : ∃ w10, (w8.setCell ⟨r, 0, none⟩ (.slice Ap np cp)).setCell ⟨r, 1, none⟩ (.slice A n c) = w10 := ⟨_, rfl⟩
        rw [hw10] at f8 o8 ⊢
        have q0 := f8.cell 0
        have q1 := f8.cell 1
        dsimp only [List.getElem?_cons_zero, List.getElem?_cons_succ] at q0 q1
        exact bodyPost_ret (v := .agg #[.slice Ap np cp, .slice A n c]) (by simp [results, Tryz.results43, go_sem, q0, q1]) rfl o8
end Go.Proofs.YtcjoiiaankngjaaGreatDoor
/- newParser. -/
namespace Go.Proofs.YtcjoiiaankngjaaGreatDoor
set_option maxRecDepth 100000
open Go.RowKit Go.Maps Go.ChangeMaps Go.MapKept Go.WideShapes
/-- a map of functions, with these words -/
def AttrsP (w : World) (a b n : Nat) (f : List UInt8 → Option Nat) : Prop := ∃ D : DataW Unit, w.ownsMap Tryz.prog 9 (fnElem b) a n D ∧ IsMap D ∧ ∀ s : ByteArray, has D (klS s) = (f s.data.toList).isSome ∧ ∀ n, f s.data.toList = some n → ∀ z, D.atKey (klS s) z = .lit (.int .i64 (n : Int))
theorem AttrsP.made (w : World) (b : Nat) : AttrsP (w.alloc (.map #[] 0)) w.heap.size b 0 (fun _ => none) :=
  ⟨.map [], ⟨#[], 0, (MapKept.heap_alloc w _).1, ⟨by simp, stamped_empty 0, by simp⟩, Nat.le_refl _, rfl⟩, isMap_empty, fun _ => ⟨rfl, fun n h => by cases h⟩⟩
def fPut (f : List UInt8 → Option Nat) (s : List UInt8) (n : Nat) : List UInt8 → Option Nat := fun x => if x = s then some n else f x
theorem AttrsP.put {w : World} {a b n : Nat} {f : List UInt8 → Option Nat} (h : AttrsP w a b n f) (s : ByteArray) (hs : s.size ≤ maxLen) (hn : n < maxLen) (k : Nat) :
    ∃ w', (Instr.mapUpdate 92 (.map (some a)) (.string s) (fnV b k)).run Tryz.prog w = .ok () w' ∧ AttrsP w' a b (n + 1) (fPut f s.data.toList k) ∧ Turn (fun g => g = a) w w' := by
  obtain ⟨D, hm, hi, hD⟩ := h
  have hk : keyOf Tryz.prog 9 (.string s) = some (klS s) := WideMaps.keyOf_string_mk (P := Tryz.prog) Tryz.underlying9 hs
  obtain ⟨w', hr, h1, h2⟩ := hm.update law9 Tryz.underlying92 hn hk (fnElem_fn b k)
  refine ⟨w', hr, ⟨_, h1, hi.put _ _, fun x => ?_⟩, ⟨h2.os, h2.tape, h2.output, h2.size, fun g hg hne => h2.block g hg (fun e => hne (by injection e))⟩⟩
  unfold fPut
  by_cases hx : x = s
  · subst hx
    rw [if_pos rfl]
    exact ⟨by rw [has_put_same hi (klS_key x)]; rfl, fun m hm z => by injection hm with hm; subst hm; exact atKey_put_same hi (klS_key x) _ _⟩
  · have hne : klS x ≠ klS s := fun e => hx (klS_inj e)
    rw [if_neg (fun e => hx (Go.WideShapes.bytes_inj e))]
    obtain ⟨q1, q2⟩ := hD x
    exact ⟨by rw [has_put_other hne]; exact q1, fun m hm z => by rw [atKey_put_other hne]; exact q2 m hm z⟩
theorem AttrsP.done {w : World} {a b n : Nat} {f : List UInt8 → Option Nat} (h : AttrsP w a b n f) (hf : ∀ s, f s = fnOf s) : Attrs w a b := by
  obtain ⟨D, hm, hi, hD⟩ := h
  exact ⟨D, n, hm, hi, fun s => by rw [← hf]; exact hD s⟩
theorem AttrsP.lt {w : World} {a b n : Nat} {f : List UInt8 → Option Nat} (h : AttrsP w a b n f) : a < w.heap.size := h.choose_spec.1.lt
/-- the seven words are laid -/
theorem attrs_made (w : World) (b : Nat) : ∃ W1 W2 W3 W4 W5 W6 W7,
    (Instr.mapUpdate 92 (.map (some w.heap.size)) (.string ⟨#[107, 105, 110, 100]⟩) (fnV b 66)).run Tryz.prog (w.alloc (.map #[] 0)) = .ok () W1 ∧
    (Instr.mapUpdate 92 (.map (some w.heap.size)) (.string ⟨#[115, 114, 99, 115]⟩) (fnV b 67)).run Tryz.prog W1 = .ok () W2 ∧
    (Instr.mapUpdate 92 (.map (some w.heap.size)) (.string ⟨#[100, 101, 112, 115]⟩) (fnV b 68)).run Tryz.prog W2 = .ok () W3 ∧
    (Instr.mapUpdate 92 (.map (some w.heap.size)) (.string ⟨#[111, 117, 116]⟩) (fnV b 69)).run Tryz.prog W3 = .ok () W4 ∧
    (Instr.mapUpdate 92 (.map (some w.heap.size)) (.string ⟨#[118, 105, 115, 105, 98, 108, 101]⟩) (fnV b 70)).run Tryz.prog W4 = .ok () W5 ∧
    (Instr.mapUpdate 92 (.map (some w.heap.size)) (.string ⟨#[99, 111, 115, 116]⟩) (fnV b 71)).run Tryz.prog W5 = .ok () W6 ∧
    (Instr.mapUpdate 92 (.map (some w.heap.size)) (.string ⟨#[114, 101, 116, 114, 121]⟩) (fnV b 72)).run Tryz.prog W6 = .ok () W7 ∧
    Attrs W7 w.heap.size b ∧ Turn (fun g => g = w.heap.size) (w.alloc (.map #[] 0)) W7 := by
  have h0 := AttrsP.made w b
  obtain ⟨W1, r1, h1, t1⟩ := h0.put ⟨#[107, 105, 110, 100]⟩ (by decide) (by decide) 66
  obtain ⟨W2, r2, h2, t2⟩ := h1.put ⟨#[115, 114, 99, 115]⟩ (by decide) (by decide) 67
  obtain ⟨W3, r3, h3, t3⟩ := h2.put ⟨#[100, 101, 112, 115]⟩ (by decide) (by decide) 68
  obtain ⟨W4, r4, h4, t4⟩ := h3.put ⟨#[111, 117, 116]⟩ (by decide) (by decide) 69
  obtain ⟨W5, r5, h5, t5⟩ := h4.put ⟨#[118, 105, 115, 105, 98, 108, 101]⟩ (by decide) (by decide) 70
  obtain ⟨W6, r6, h6, t6⟩ := h5.put ⟨#[99, 111, 115, 116]⟩ (by decide) (by decide) 71
  obtain ⟨W7, r7, h7, t7⟩ := h6.put ⟨#[114, 101, 116, 114, 121]⟩ (by decide) (by decide) 72
  refine ⟨W1, W2, W3, W4, W5, W6, W7, r1, r2, r3, r4, r5, r6, r7, h7.done fun s => ?_, t1.trans_ (t2.trans_ (t3.trans_ (t4.trans_ (t5.trans_ (t6.trans_ t7)))))⟩
  unfold fPut fnOf
  have e1 : (⟨#[107, 105, 110, 100]⟩ : ByteArray).data.toList = wKind := rfl
  have e2 : (⟨#[115, 114, 99, 115]⟩ : ByteArray).data.toList = wSrcs := rfl
  have e3 : (⟨#[100, 101, 112, 115]⟩ : ByteArray).data.toList = wDeps := rfl
  have e4 : (⟨#[111, 117, 116]⟩ : ByteArray).data.toList = wOut := rfl
  have e5 : (⟨#[118, 105, 115, 105, 98, 108, 101]⟩ : ByteArray).data.toList = wVis := rfl
  have e6 : (⟨#[99, 111, 115, 116]⟩ : ByteArray).data.toList = wCost := rfl
  have e7 : (⟨#[114, 101, 116, 114, 121]⟩ : ByteArray).data.toList = wRetry := rfl
  rw [e1, e2, e3, e4, e5, e6, e7]
  by_cases h1 : s = wKind
  · rw [h1]; decide
  by_cases h2 : s = wSrcs
  · rw [h2]; decide
  by_cases h3 : s = wDeps
  · rw [h3]; decide
  by_cases h4 : s = wOut
  · rw [h4]; decide
  by_cases h5 : s = wVis
  · rw [h5]; decide
  by_cases h6 : s = wCost
  · rw [h6]; decide
  by_cases h7 : s = wRetry
  · rw [h7]; decide
  rw [if_neg h7, if_neg h6, if_neg h5, if_neg h4, if_neg h3, if_neg h2, if_neg h1]
  rw [if_neg h1, if_neg h2, if_neg h3, if_neg h4, if_neg h5, if_neg h6, if_neg h7]
def tgtZ : Tgt := ⟨[], 0, 0, fun _ => [], 0, 0, 0, fun _ => false⟩
def NewOut (w : World) (s : ByteArray) (en : Ending) (w' : World) : Prop :=
  ∃ b a m hh, en = .returned (.pointer (some ⟨b, 0, none⟩)) ∧ w.heap.size ≤ b ∧ w.heap.size ≤ m ∧ w.heap.size ≤ hh ∧ m ≠ b ∧ m ≠ hh ∧ hh ≠ b ∧ a ≠ b ∧ a ≠ hh ∧ a ≠ m ∧
    PS w' b (.ok (toks s.data.toList 1)) (tR a m hh tgtZ (fun _ => .slice none 0 0)) ∧ Names w' m 0 (fun _ => false) ∧ Names w' hh 0 (fun _ => false) ∧ Attrs w' a b ∧ Turn (fun _ => False) w w'
set_option maxHeartbeats 4000000 in
theorem newParser_any (w : World) (s : ByteArray) (ha : Asc s.data.toList) (hs : s.size ≤ 4294967000) : Calls Tryz.prog 42 #[.string s] w (NewOut w s) := by
  obtain ⟨w1, hw1⟩ : ∃ w1, w.alloc (.map #[] 0) = w1 := ⟨_, rfl⟩
  have hb1 : Below w.heap.size w w1 := by rw [← hw1]; exact (Below.refl _ w).alloc (Nat.le_refl _) _
  have N1 : Names w1 w.heap.size 0 (fun _ => false) := by rw [← hw1]; exact Names.made w
  have s1 : w1.heap.size = w.heap.size + 1 := by rw [← hw1]; exact World.size_alloc _ _
  obtain ⟨w2, hw2⟩ : ∃ w2, w1.alloc (.map #[] 0) = w2 := ⟨_, rfl⟩
  have hb2 : Below w1.heap.size w1 w2 := by rw [← hw2]; exact (Below.refl _ w1).alloc (Nat.le_refl _) _
  have N2 : Names w2 w1.heap.size 0 (fun _ => false) := by rw [← hw2]; exact Names.made w1
  have s2 : w2.heap.size = w1.heap.size + 1 := by rw [← hw2]; exact World.size_alloc _ _
  obtain ⟨m, hm⟩ : ∃ x, w.heap.size = x := ⟨_, rfl⟩
  obtain ⟨hh, hhh⟩ : ∃ x, w1.heap.size = x := ⟨_, rfl⟩
  obtain ⟨b, hb⟩ : ∃ x, w2.heap.size = x := ⟨_, rfl⟩
  obtain ⟨w3, hw3⟩ : ∃ w3, w2.alloc (.cells #[.string s, .int .i64 1, .int .i64 0, .string ⟨#[]⟩, .int .i64 0, .int .i64 0, .int .i64 0, .map none, .map (some m), .string ⟨#[]⟩, .int .i64 0, .int .i64 0, .slice none 0 0, .slice none 0 0, .slice none 0 0, .slice none 0 0, .int .i64 0, .int .i64 0, .map (some hh), .int .i64 0] 95) = w3 := ⟨_, rfl⟩
  have hb3 : Below w2.heap.size w2 w3 := by rw [← hw3]; exact (Below.refl _ w2).alloc (Nat.le_refl _) _
  have F3 : Full w3 b 95 [.string s, .int .i64 1, .int .i64 0, .string ⟨#[]⟩, .int .i64 0, .int .i64 0, .int .i64 0, .map none, .map (some m), .string ⟨#[]⟩, .int .i64 0, .int .i64 0, .slice none 0 0, .slice none 0 0, .slice none 0 0, .slice none 0 0, .int .i64 0, .int .i64 0, .map (some hh), .int .i64 0] := by rw [← hw3, ← hb]; exact Full.new w2 95 _
  have s3 : w3.heap.size = w2.heap.size + 1 := by rw [← hw3]; exact World.size_alloc _ _
  obtain ⟨a, hha⟩ : ∃ x, w3.heap.size = x := ⟨_, rfl⟩
  obtain ⟨w4, hw4⟩ : ∃ w4, w3.alloc (.map #[] 0) = w4 := ⟨_, rfl⟩
  have hb4 : Below w3.heap.size w3 w4 := by rw [← hw4]; exact (Below.refl _ w3).alloc (Nat.le_refl _) _
  obtain ⟨W1, W2, W3, W4, W5, W6, W7, r1, r2, r3, r4, r5, r6, r7, hA7, hT7⟩ := attrs_made w3 b
  rw [hw4, hha] at r1
  rw [hha] at r2 r3 r4 r5 r6 r7 hA7 hT7
  rw [hw4] at hT7
  unfold fnV at r1 r2 r3 r4 r5 r6 r7
  have M1 := ((N1.on hb2).on hb3).on hb4
  have M2 := (N2.on hb3).on hb4
  rw [hm] at M1
  rw [hhh] at M2
  have F7 := hT7.far (F3.on hb4) (by omega)
  have hm1 := M1.far hT7 (by omega)
  have hm2 := M2.far hT7 (by omega)
  have z1 : W7.cell? ⟨b, 7, none⟩ = some (.map none) := F7.cell 7
  have z2 := F7.frozen 7
  have hTs : Turn (fun g => g = b) W7 (W7.setCell ⟨b, 7, none⟩ (.map (some a))) := Turn.set_ (F := fun g => g = b) (a := ⟨b, 7, none⟩) rfl _
  have F8 := F7.set_ 7 (.map (some a))
  have hP8 : Pm (W7.setCell ⟨b, 7, none⟩ (.map (some a))) b s 1 0 ⟨#[]⟩ 0 0 0 (tR a m hh tgtZ (fun _ => .slice none 0 0)) := F8
  have NX := next_any hP8.sc ha hs (by omega)
  unfold NextOut at NX
  have hT8 : Turn (fun _ => False) w (W7.setCell ⟨b, 7, none⟩ (.map (some a))) :=
    ((((Turn.of hb1).trans_ (Turn.of hb2)).trans_ (Turn.of hb3)).trans_ (Turn.of hb4)).late (hT7.mono (G := fun g => g = a ∨ g = b) fun g e => .inl e) (fun g e => .inr (by omega)) |>.late hTs fun g e => .inr (by omega)
  have HQ := Lib.hid (And.intro (hm1.far hTs (by omega)) (And.intro (hm2.far hTs (by omega)) (And.intro (hA7.far hTs (by omega)) (And.intro hT8 (And.intro ha hs)))))
  have HNE := Lib.hid (show w.heap.size ≤ b ∧ w.heap.size ≤ m ∧ w.heap.size ≤ hh ∧ m ≠ b ∧ m ≠ hh ∧ hh ≠ b ∧ a ≠ b ∧ a ≠ hh ∧ a ≠ m from ⟨by omega, by omega, by omega, by omega, by omega, by omega, by omega, by omega, by omega⟩)
  obtain ⟨t', rest', n', hnx⟩ : ∃ t' rest' n', next s.data.toList 1 = (t', rest', n') := ⟨_, _, _, rfl⟩
  have HNX := Lib.hid hnx
  rw [hnx] at NX
  dsimp only at NX
  obtain ⟨c', hc'⟩ : ∃ c' : Nat, t'.cls = c' := ⟨_, rfl⟩
  obtain ⟨l', hl'⟩ : ∃ c' : Nat, t'.ln = c' := ⟨_, rfl⟩
  obtain ⟨x', hx'⟩ : ∃ c', str t'.txt = c' := ⟨_, rfl⟩
  unfold tokV at NX
  rw [hc', hl', hx'] at NX
  have HTK := Lib.hid (And.intro hc' (And.intro hl' hx'))
  have NX := Lib.hid NX
  have hmk1 : (Instr.makeMap 93 none).run Tryz.prog w = .ok (.map (some m)) w1 := by rw [run_makeMap, hm, hw1]
  have hmk2 : (Instr.makeMap 93 none).run Tryz.prog w1 = .ok (.map (some hh)) w2 := by rw [run_makeMap, hhh, hw2]
  have hmk3 : (Instr.makeMap 92 none).run Tryz.prog w3 = .ok (.map (some a)) w4 := by rw [run_makeMap, hha, hw4]
  clear hb1 N1 s1 hb2 N2 s2 hb3 F3 s3 hb4 M1 M2 hm1 hm2 hA7 hT7 hTs F7 F8 hP8 hT8 hnx hc' hl' hx' ha hs hm hhh hha
  go_enter Tryz.func42, Tryz.ntmps42
  go_upto_region 2 with fail
  go_upto_region 3 with fail
  clear r1 r2 r3 r4 r5 r6 r7 z1 z2 hmk1 hmk2 hmk3 hw1 hw2 hw3 hw4 hb
  go_upto_region 4 with (first
    | (go_at_call 73; ((with_reducible refine NX.out.mono ?_); rintro en w9 ⟨rfl, hS9, hT9⟩; (obtain ⟨⟨v0, v0f⟩, ⟨v1, v1f⟩, ⟨v2, v2f⟩, hP⟩ := Pm.ahead (w := w9) (b := b) (s := str rest') (n := n') (c := 0) (tx := ⟨#[]⟩) (tl := 0) (e := 0) (el := 0) (R := tR a m hh tgtZ (fun _ => .slice none 0 0)) hS9 (c' : Int) x' (l' : Int)); (have HP := Lib.hid hP); (have HT9 := Lib.hid hT9); clear hP hT9 hS9))
    | (fail "arm"))
  have hTs : Turn (fun g => g = b) w9 (((w9.setCell ⟨b, 2, none⟩ (.int .i64 (c' : Int))).setCell ⟨b, 3, none⟩ (.string x')).setCell ⟨b, 4, none⟩ (.int .i64 (l' : Int))) := (((Turn.refl (fun g => g = b) w9).setb rfl 2 _).setb rfl 3 _).setb rfl 4 _
  obtain ⟨w10, hw10⟩ : ∃ w10, ((w9.setCell ⟨b, 2, none⟩ (.int .i64 (c' : Int))).setCell ⟨b, 3, none⟩ (.string x')).setCell ⟨b, 4, none⟩ (.int .i64 (l' : Int)) = w10 := ⟨_, rfl⟩
  have hp := HP.out
  rw [hw10] at hp hTs ⊢
  clear HP
  have hT := HT9.out.trans_ hTs
  have HOUT := Lib.hid (show NewOut w s (.returned (.pointer (some ⟨b, 0, none⟩))) w10 from by
    refine ⟨b, a, m, hh, rfl, HNE.out.1, HNE.out.2.1, HNE.out.2.2.1, HNE.out.2.2.2.1, HNE.out.2.2.2.2.1, HNE.out.2.2.2.2.2.1, HNE.out.2.2.2.2.2.2.1, HNE.out.2.2.2.2.2.2.2.1, HNE.out.2.2.2.2.2.2.2.2, ?_, HQ.out.1.far hT HNE.out.2.2.2.1, HQ.out.2.1.far hT HNE.out.2.2.2.2.2.1, HQ.out.2.2.1.far hT HNE.out.2.2.2.2.2.2.1, HQ.out.2.2.2.1.late hT fun g e => .inr (by rw [e]; exact HNE.out.1)⟩
    have e := HNX.out
    refine ps_next (el := 0) ⟨HQ.out.2.2.2.2.1, HQ.out.2.2.2.2.2, by have := HQ.out.2.2.2.2.2; omega⟩ ?_
    rw [e]
    dsimp only
    rw [HTK.out.1, HTK.out.2.1, HTK.out.2.2]
    exact hp)
  clear hp hTs hT hw10
  go_wp2
  go_ret
  exact HOUT.out
end Go.Proofs.YtcjoiiaankngjaaGreatDoor
/- Parse of an ASCII source. -/
namespace Go.Proofs.YtcjoiiaankngjaaGreatDoor
set_option maxRecDepth 100000
open Go.RowKit
def pEndF : Pst → Option (Int × Int)
  | .ok (t :: _) => if t.cls = 1 then none else some (40, (t.ln : Int))
  | .ok [] => none
  | .bad e l => some (e, l)
def pFile (s : List UInt8) : (List Itm × List Tgt) × Pst :=
  (((pHead (.ok (toks s 1))).1, (pTgts (plen (pHead (.ok (toks s 1))).2 + 1) 0 (fun _ => false) (pHead (.ok (toks s 1))).2).1), (pTgts (plen (pHead (.ok (toks s 1))).2 + 1) 0 (fun _ => false) (pHead (.ok (toks s 1))).2).2)
def pParse (s : List UInt8) : (List Itm × List Tgt) × (Int × Int) :=
  match pEndF (pFile s).2 with
  | none => ((pFile s).1, (0, 0))
  | some (e, l) => (([], []), (l, e))
theorem ps_fault {w : World} {b : Nat} {σ : Pst} {R : List Value} (h : PS w b σ R) : ∃ e el, w.cell? ⟨b, 5, none⟩ = some (.int .i64 e) ∧ w.cell? ⟨b, 6, none⟩ = some (.int .i64 el) ∧ (∀ ts, σ = .ok ts → e = 0) ∧ (∀ e' l', σ = .bad e' l' → e = e' ∧ el = l' ∧ e ≠ 0) := by
  obtain ⟨s, n, c, tx, tl, e, el, hP, hs, hC⟩ := h
  refine ⟨e, el, Full.cell hP 5, Full.cell hP 6, fun ts h => ?_, fun e' l' h => ?_⟩
  · subst h; exact hC.1
  · subst h; exact ⟨hC.1, hC.2.1, by rw [hC.1]; exact hC.2.2.1⟩
def ParseOut (w : World) (r : (List Itm × List Tgt) × (Int × Int)) (en : Ending) (w' : World) : Prop :=
  ∃ v, en = .returned (.tuple #[v, .int .i64 r.2.1, .int .i64 r.2.2]) ∧ BuildAt w' w.heap.size v r.1.1 r.1.2 ∧ Turn (fun _ => False) w w'
theorem BuildAt.base {w : World} {b b' : Nat} {v : Value} {pl : List Itm} {L : List Tgt} (h : BuildAt w b v pl L) (hb : b' ≤ b) : BuildAt w b' v pl L := by
  obtain ⟨Vp, A, n, c, tl, e, h1, h2, h3, h4, h5⟩ := h
  exact ⟨Vp, A, n, c, tl, e, own_base h1 hb, h2, h3, fun p hp i hi => own_base (h4 p hp i hi) hb, own_base h5 hb⟩
theorem BuildAt.zero (w : World) (base : Nat) : BuildAt w base (.agg #[.slice none 0 0, .slice none 0 0]) [] [] :=
  ⟨_, none, 0, 0, [], rfl, ⟨rfl, .inl ⟨rfl, rfl⟩⟩, rfl, rfl, fun p hp => (by cases hp), ⟨rfl, .inl ⟨rfl, rfl⟩⟩⟩
/-- a turn of blocks that are none of its rows -/
theorem BuildAt.off {F : Nat → Prop} {w w' : World} {base : Nat} {v : Value} {pl : List Itm} {L : List Tgt} (h : BuildAt w base v pl L) (ht : Turn F w w') (hF : ∀ g, F g → g < base ∨ ∃ t cs, Full w g t cs ∧ t ≠ 50 ∧ t ≠ 52) : BuildAt w' base v pl L := by
  obtain ⟨Vp, A, n, c, tl, e, h1, h2, h3, h4, h5⟩ := h
  have off : ∀ {e' : TypeId} {size n : Nat} {v : Value} {xs : List Value}, w.ownsRow base e' size v n xs → (e' = 50 ∨ e' = 52) → w'.ownsRow base e' size v n xs := fun {e' size n v xs} h he => own_off h ht fun g hg f => by
    rcases hF g f with z | ⟨t, cs, z, z1, z2⟩
    · have := row_ge h g hg
      omega
    · exact own_full_ne h z (by rcases he with rfl | rfl <;> assumption) g hg rfl
  exact ⟨Vp, A, n, c, tl, e, off h1 (.inl rfl), h2, h3, fun p hp i hi => off (h4 p hp i hi) (.inr rfl), off h5 (.inr rfl)⟩
theorem pEndF_ok {σ : Pst} {ts : List Tok} (h : pEnd σ (.ok ts)) : pEndF σ = none := by
  cases σ with
  | bad e l => exact absurd (show Pst.ok ts = .bad e l from h) (by simp)
  | ok us =>
    cases us with
    | nil => exact (show False from h).elim
    | cons t r =>
      have h : (if t.cls = 1 then ∃ x, Pst.ok ts = .ok x else Pst.ok ts = .bad 40 (t.ln : Int)) := h
      by_cases e : t.cls = 1
      · show (if t.cls = 1 then none else some (40, (t.ln : Int))) = none
        rw [if_pos e]
      · rw [if_neg e] at h; cases h
theorem pEndF_bad {σ : Pst} {e l : Int} (h : pEnd σ (.bad e l)) : pEndF σ = some (e, l) := by
  cases σ with
  | bad e' l' =>
    have h : Pst.bad e l = .bad e' l' := h
    injection h with h1 h2
    subst h1 h2
    rfl
  | ok us =>
    cases us with
    | nil => exact (show False from h).elim
    | cons t r =>
      have h : (if t.cls = 1 then ∃ x, Pst.bad e l = .ok x else Pst.bad e l = .bad 40 (t.ln : Int)) := h
      by_cases e' : t.cls = 1
      · rw [if_pos e'] at h; obtain ⟨x, h⟩ := h; cases h
      · rw [if_neg e'] at h
        injection h with h1 h2
        subst h1 h2
        show (if t.cls = 1 then none else some (40, (t.ln : Int))) = _
        rw [if_neg e']
set_option maxHeartbeats 8000000 in
theorem parse_any {w : World} (s : ByteArray) (hL : Laid w) (h9 : 9 ≤ w.heap.size) (ha : Asc s.data.toList) (hs : s.size ≤ 4294967000) : Calls Tryz.prog 26 #[.string s] w (ParseOut w (pParse s.data.toList)) := by
  unfold ParseOut
  obtain ⟨res, hres⟩ : ∃ x, pParse s.data.toList = x := ⟨_, rfl⟩
  obtain ⟨⟨⟨pl, L⟩, σ2⟩, hfl⟩ : ∃ x, pFile s.data.toList = x := ⟨_, rfl⟩
  have hpr : res = (match pEndF σ2 with
    | none => ((pl, L), (0, 0))
    | some (e, l) => (([], []), (l, e))) := by rw [← hres, pParse, hfl]
  rw [hres]
  obtain ⟨w1, hw1⟩ : ∃ w1, w.alloc (.cells #[.slice none 0 0, .slice none 0 0] 28) = w1 := ⟨_, rfl⟩
  have hb1 : Below w.heap.size w w1 := by rw [← hw1]; exact (Below.refl _ w).alloc (Nat.le_refl _) _
  have F1 : Full w1 w.heap.size 28 [.slice none 0 0, .slice none 0 0] := by rw [← hw1]; exact Full.new w 28 _
  have NP := Lib.hid (newParser_any w1 s ha hs)
  unfold NewOut at NP
  obtain ⟨r, hr⟩ : ∃ r, w.heap.size = r := ⟨_, rfl⟩
  rw [hr] at F1
  have HF1 := Lib.hid F1
  have HB1 := Lib.hid hb1
  have HLa := Lib.hid hL
  have HFL := Lib.hid (And.intro hfl hpr)
  clear hres hfl hpr F1 hb1 hL ha hs
  go_enter Tryz.func26, Tryz.ntmps26
  go_upto_region 2 with (first
    | (go_at_call 42; ((with_reducible refine NP.out.mono ?_); rintro en w2 ⟨b, a, m, hh, rfl, n1, n2, n3, n4, n5, n6, n7, n8, n9, hP2, hN2, hH2, hA2, hT2⟩))
    | (fail "arm"))
  have hs1 : r < w1.heap.size := HF1.out.lt
  have F2 := hT2.far HF1.out (fun e => e)
  have FA := file_any hP2 hN2 hH2 hA2 ((HLa.out.turn (Turn.of (F := fun _ => False) HB1.out) (fun g e => e.elim)).turn hT2 (fun g e => e.elim)) (by omega) (by omega) (by omega) n4 n5 n6 n7 n8 n9
  have hfl := HFL.out.1
  unfold pFile at hfl
  injection hfl with hf1 hf2
  injection hf1 with hf0 hf1
  rw [show tgtZ.rl = 0 from rfl, hf0, hf1, hf2] at FA
  unfold FileOut at FA
  have HFA := Lib.hid FA
  have HQ := Lib.hid (And.intro F2 (And.intro hP2.lt (And.intro ((Turn.of (F := fun _ => False) HB1.out).trans_ hT2) (And.intro hN2.lt hH2.lt))))
  clear F2 FA hf0 hf1 hf2 hP2 hN2 hH2 hA2 hT2 NP hw1
  go_upto_region 3 with (first
    | (go_at_call 43; ((with_reducible refine HFA.out.mono ?_); rintro en w5 ⟨v, σe, R, rfl, hB5, hE5, hP5, hT5⟩; (obtain ⟨Vp, A, n, c, tl, rfl, k1, k2, k3, k4, k5⟩ := hB5); (obtain ⟨Ap, cp, rfl⟩ := own_form k5); (have HB5 := Lib.hid (show BuildAt w5 w2.heap.size (.agg #[.slice Ap pl.length cp, .slice A n c]) pl L from ⟨_, A, n, c, tl, rfl, k1, k2, k3, k4, k5⟩)); (have HE5 := Lib.hid (And.intro hE5 (And.intro hP5 hT5))); clear k1 k2 k3 k4 k5 hE5 hP5 hT5))
    | (fail "arm"))
  obtain ⟨w6, hw6⟩ : ∃ w6, w5.alloc (.cells #[.slice Ap pl.length cp, .slice A n c] 28) = w6 := ⟨_, rfl⟩
  have hb6 : Below w5.heap.size w5 w6 := by rw [← hw6]; exact (Below.refl _ w5).alloc (Nat.le_refl _) _
  have F6 : Full w6 w5.heap.size 28 [.slice Ap pl.length cp, .slice A n c] := by rw [← hw6]; exact Full.new w5 28 _
  obtain ⟨hE, hP5, hT5⟩ := HE5.out
  have hP6 := hP5.on hb6
  have hlt := HQ.out.2.2.2
  have hlb := HQ.out.2.1
  have F5r := hT5.far HQ.out.1 (fun e => by rcases e with e | e | e <;> omega)
  have F6r := F5r.on hb6
  obtain ⟨u, hu⟩ : ∃ u, w5.heap.size = u := ⟨_, rfl⟩
  have hru : r < u := by rw [← hu]; exact F5r.lt
  rw [hu] at F6
  have hT6 : Turn (fun _ => False) w w6 := (HQ.out.2.2.1.late hT5 (fun g e => by rcases e with e | e | e <;> (right; omega))).trans_ (Turn.of hb6)
  have hB6 : BuildAt w6 w2.heap.size (.agg #[.slice Ap pl.length cp, .slice A n c]) pl L := HB5.out.off (Turn.of (F := fun _ => False) hb6) (fun g e => e.elim)
  have hsz2 : w.heap.size ≤ w2.heap.size := HQ.out.2.2.1.size
  rw [hw6, hu]
  obtain ⟨e, el, e5, e6, eok, ebad⟩ := ps_fault hP6
  have x0 := F6.cell 0
  have x1 := F6.cell 1
  have y0 := F6r.cell 0
  have y1 := F6r.cell 1
  dsimp only [List.getElem?_cons_zero, List.getElem?_cons_succ] at x0 x1 y0 y1
  have yf := F6r.frozen 0
  cases hσ : σe with
  | ok ts =>
    have he0 := eok ts hσ
    subst he0
    rw [hσ] at hE
    have hpr := HFL.out.2
    rw [pEndF_ok hE] at hpr
    dsimp only at hpr
    have z1 := (F6r.set_ 0 (.slice Ap pl.length cp)).cell 1
    dsimp only [List.set_cons_zero, List.getElem?_cons_zero, List.getElem?_cons_succ] at z1
    have z2 := (F6r.set_ 0 (.slice Ap pl.length cp)).frozen 1
    have F7 := (F6r.set_ 0 (.slice Ap pl.length cp)).set_ 1 (.slice A n c)
    have hTs : Turn (fun g => g = r) w6 ((w6.setCell ⟨r, 0, none⟩ (.slice Ap pl.length cp)).setCell ⟨r, 1, none⟩ (.slice A n c)) := ((Turn.refl (fun g => g = r) w6).setb rfl 0 _).setb rfl 1 _
    have HO := Lib.hid (show Full ((w6.setCell ⟨r, 0, none⟩ (.slice Ap pl.length cp)).setCell ⟨r, 1, none⟩ (.slice A n c)) r 28 [.slice Ap pl.length cp, .slice A n c] ∧ BuildAt ((w6.setCell ⟨r, 0, none⟩ (.slice Ap pl.length cp)).setCell ⟨r, 1, none⟩ (.slice A n c)) w.heap.size (.agg #[.slice Ap pl.length cp, .slice A n c]) pl L ∧ Turn (fun _ => False) w ((w6.setCell ⟨r, 0, none⟩ (.slice Ap pl.length cp)).setCell ⟨r, 1, none⟩ (.slice A n c)) from
      ⟨F7, (hB6.off hTs (fun g e => .inr ⟨28, [.slice none 0 0, .slice none 0 0], (by rw [e]; exact F6r), by decide, by decide⟩)).base hsz2, hT6.late hTs fun g e => .inr (by omega)⟩)
    have HR := Lib.hid hpr
    clear hB6 hT6 hTs F7 F6 F6r F5r hP5 hP6 hT5 hE hpr hb6 HB5 HE5 HQ HFL hw6 hu eok ebad hσ hlt HFA
    go_wp2
    obtain ⟨w8, hw8⟩ : ∃ w8, (w6.setCell ⟨r, 0, none⟩ (.slice Ap pl.length cp)).setCell ⟨r, 1, none⟩ (.slice A n c) = w8 := ⟨_, rfl⟩
    have ho := HO.out
    rw [hw8] at ho ⊢
    have q0 := ho.1.cell 0
    have q1 := ho.1.cell 1
    dsimp only [List.getElem?_cons_zero, List.getElem?_cons_succ] at q0 q1
    refine bodyPost_ret (v := .tuple #[.agg #[.slice Ap pl.length cp, .slice A n c], .int .i64 0, .int .i64 0]) (by simp [results, Tryz.results26, go_sem, q0, q1]) rfl ?_
    rw [HR.out]
    exact ⟨_, rfl, ho.2.1, ho.2.2⟩
  | bad e' l' =>
    obtain ⟨he1, he2, he0⟩ := ebad e' l' hσ
    subst he1 he2
    rw [hσ] at hE
    have hpr := HFL.out.2
    rw [pEndF_bad hE] at hpr
    dsimp only at hpr
    have hne : (e != 0) = true := by simpa using he0
    have z1 := (F6r.set_ 0 (.slice none 0 0)).cell 1
    dsimp only [List.set_cons_zero, List.getElem?_cons_zero, List.getElem?_cons_succ] at z1
    have z2 := (F6r.set_ 0 (.slice none 0 0)).frozen 1
    have HR := Lib.hid hpr
    have HF6r := Lib.hid F6r
    have HT6 := Lib.hid hT6
    clear hB6 hT6 F6 F6r F5r hP5 hP6 hT5 hE hpr hb6 HB5 HE5 HQ HFL hw6 hu eok ebad hσ hlt HFA he0
    go_upto_region 4 with fail
    have HO := Lib.hid (show Full ((w6.setCell ⟨r, 0, none⟩ (.slice none 0 0)).setCell ⟨r, 1, none⟩ (.slice none 0 0)) r 28 [.slice none 0 0, .slice none 0 0] ∧ Turn (fun _ => False) w ((w6.setCell ⟨r, 0, none⟩ (.slice none 0 0)).setCell ⟨r, 1, none⟩ (.slice none 0 0)) from
      ⟨(HF6r.out.set_ 0 _).set_ 1 _, HT6.out.late (((Turn.refl (fun g => g = r) w6).setb rfl 0 (.slice none 0 0)).setb rfl 1 (.slice none 0 0)) fun g e => .inr (by omega)⟩)
    go_region
    go_wp2
    all_goals
      obtain ⟨w8, hw8⟩ : ∃ w8, ((w6.setCell ⟨r, 0, none⟩ (.slice none 0 0)).setCell ⟨r, 1, none⟩ (.slice none 0 0)).drew = w8 := ⟨_, rfl⟩
      have ho : Full w8 r 28 [.slice none 0 0, .slice none 0 0] ∧ Turn (fun _ => False) w w8 := by
        rw [← hw8]
        exact ⟨HO.out.1, HO.out.2.drew⟩
      rw [hw8]
      have q0 := ho.1.cell 0
      have q1 := ho.1.cell 1
      dsimp only [List.getElem?_cons_zero, List.getElem?_cons_succ] at q0 q1
      refine bodyPost_ret (v := .tuple #[.agg #[.slice none 0 0, .slice none 0 0], .int .i64 el, .int .i64 e]) (by simp [results, Tryz.results26, go_sem, q0, q1]) rfl ?_
      rw [HR.out]
      exact ⟨_, rfl, BuildAt.zero w8 _, ho.2⟩
end Go.Proofs.YtcjoiiaankngjaaGreatDoor
/- Right: words, platforms, texts, items. -/
namespace Go.Proofs.YtcjoiiaankngjaaGreatDoor
set_option maxRecDepth 100000
open Go.RowKit
def isWordB (s : List UInt8) : Bool := decide ((first s).1 = 2) && decide ((first s).2 = s.length)
def isPlatB (s : List UInt8) : Bool := isWordB s && !(s == globS)
def isTextB (s : List UInt8) : Bool := decide (run (fun c => !notStr c) s = s.length)
def StrOk (s : List UInt8) : Prop := Asc s ∧ s.length ≤ 4294967000
theorem isWord_any (s : ByteArray) (hs : StrOk s.data.toList) (w : World) : Calls Tryz.prog 95 #[.string s] w (BoolB w (isWordB s.data.toList)) := by
  unfold BoolB isWordB
  have hl := data_len s
  have FA := first_any s (by rw [← hl]; exact hs.2) hs.1 w
  unfold FirstOut at FA
  obtain ⟨c, hc⟩ : ∃ c, (first s.data.toList).1 = c := ⟨_, rfl⟩
  obtain ⟨n, hn⟩ : ∃ c, (first s.data.toList).2 = c := ⟨_, rfl⟩
  rw [hc, hn] at FA
  rw [hc, hn, hl]
  have FA := Lib.hid FA
  have ext : ∀ W, (Instr.extract (.tuple #[.int .i64 (c : Int), .int .i64 (n : Int)]) 0).run Tryz.prog W = .ok (.int .i64 (c : Int)) W := fun W => by kernel_rfl
  by_cases h2 : c = 2
  · by_cases h3 : n = s.size
    · have e1 : ((c : Int) == 2) = true := by rw [h2]; rfl
      have e2 : ((n : Int) == (s.size : Int)) = true := by rw [h3]; simp
      have er : (decide (c = 2) && decide (n = s.size)) = true := by rw [h2, h3]; simp
      rw [er]
      clear ext hc hn h2 h3
      go_enter Tryz.func95, Tryz.ntmps95
      go_wp2_with (first
        | (go_at_call 111; ((with_reducible refine FA.out.mono ?_); rintro en w2 ⟨rfl, hb⟩))
        | (fail "arm"))
      go_ret
      exact ⟨rfl, hb⟩
    · have e1 : ((c : Int) == 2) = true := by rw [h2]; rfl
      have e2 : ((n : Int) == (s.size : Int)) = false := by simp; omega
      have er : (decide (c = 2) && decide (n = s.size)) = false := by simp [h3]
      rw [er]
      clear ext hc hn h2 h3
      go_enter Tryz.func95, Tryz.ntmps95
      go_wp2_with (first
        | (go_at_call 111; ((with_reducible refine FA.out.mono ?_); rintro en w2 ⟨rfl, hb⟩))
        | (fail "arm"))
      go_ret
      exact ⟨rfl, hb⟩
  · have e1 : ((c : Int) == 2) = false := by simp; omega
    have er : (decide (c = 2) && decide (n = s.size)) = false := by simp [h2]
    rw [er]
    clear ext hc hn h2
    go_enter Tryz.func95, Tryz.ntmps95
    go_wp2_with (first
      | (go_at_call 111; ((with_reducible refine FA.out.mono ?_); rintro en w2 ⟨rfl, hb⟩))
      | (fail "arm"))
    go_ret
    exact ⟨rfl, hb⟩
theorem isPlatform_any (s : ByteArray) (hs : StrOk s.data.toList) (w : World) : Calls Tryz.prog 92 #[.string s] w (BoolB w (isPlatB s.data.toList)) := by
  unfold isPlatB
  have WA := isWord_any s hs w
  unfold BoolB at WA ⊢
  obtain ⟨x, hx⟩ : ∃ x, isWordB s.data.toList = x := ⟨_, rfl⟩
  obtain ⟨y, hy⟩ : ∃ y, (s.data.toList == globS) = y := ⟨_, rfl⟩
  rw [hx] at WA
  rw [hx, hy]
  have hy2 : (s.toList == [103, 108, 111, 98]) = y := by rw [Lib.toList_data]; exact hy
  have WA := Lib.hid WA
  clear hx hy hs
  cases x <;> cases y
  all_goals
    go_enter Tryz.func92, Tryz.ntmps92
    go_wp2_with (first
      | (go_at_call 95; ((with_reducible refine WA.out.mono ?_); rintro en w2 ⟨rfl, hb⟩))
      | (fail "arm"))
    all_goals (go_ret; exact ⟨rfl, hb⟩)
theorem isText_any (s : ByteArray) (hs : StrOk s.data.toList) (w : World) : Calls Tryz.prog 126 #[.string s] w (BoolB w (isTextB s.data.toList)) := by
  unfold BoolB isTextB
  have hl := data_len s
  have hq := hs.2
  have IA := Tryz.strings_ContainsAny_laid s ⟨#[34, 10]⟩ w (by omega) (by decide) (fun j b hj => hs.1 b (List.mem_of_getElem? hj)) (fun j b hj => by
    have := List.mem_of_getElem? hj
    simp at this
    rcases this with rfl | rfl <;> decide)
  have e : Lib.containsAny s.data.toList (⟨#[34, 10]⟩ : ByteArray).data.toList = !(decide (run (fun c => !notStr c) s.data.toList = s.data.toList.length)) := by
    show decide (0 ≤ Lib.indexAny s.data.toList [34, 10]) = _
    rw [str_idx]
    have hr := run_le (fun c => !notStr c) s.data.toList
    split
    · rename_i h
      rw [decide_eq_false (p := _ = _) (by omega)]
      simp
    · rename_i h
      rw [decide_eq_true (p := run _ _ = _) (by omega)]
      rfl
  rw [e] at IA
  obtain ⟨x, hx⟩ : ∃ x, decide (run (fun c => !notStr c) s.data.toList = s.data.toList.length) = x := ⟨_, rfl⟩
  rw [hx] at IA
  rw [hx]
  have IA := Lib.hid IA
  clear hx e hs
  cases x
  all_goals
    go_enter Tryz.func126, Tryz.ntmps126
    go_wp2_with (first
      | (go_at_call 140; ((with_reducible refine IA.out.mono ?_); rintro en w2 ⟨rfl, hb⟩))
      | (fail "arm"))
    all_goals (go_ret; exact ⟨rfl, hb⟩)
end Go.Proofs.YtcjoiiaankngjaaGreatDoor
/- Right: items. -/
namespace Go.Proofs.YtcjoiiaankngjaaGreatDoor
set_option maxRecDepth 100000
open Go.RowKit
def ItmOk (i : Itm) : Prop := StrOk i.tx ∧ StrOk i.pl
theorem strOk_str {s : List UInt8} (h : StrOk s) : StrOk (str s).data.toList := by rw [str_data]; exact h
def rPlat (i : Itm) : Bool := isPlatB i.tx && !i.gl && (i.pl == [])
def rSource (i : Itm) : Bool := isTextB i.tx && ((i.pl == []) || isPlatB i.pl)
def rDep (i : Itm) : Bool := rSource i && !i.gl
def rText (i : Itm) : Bool := rDep i && (i.pl == [])
theorem empty_eq (s : List UInt8) : ((str s).toList == []) = (s == []) := by rw [Lib.toList_data, str_data]
theorem bare_any (i : Itm) (w : World) : Calls Tryz.prog 54 #[itmV i] w (StrB w (str i.tx)) := by
  unfold StrB itmV
  obtain ⟨x0, hx0⟩ : ∃ x, str i.tx = x := ⟨_, rfl⟩
  obtain ⟨x2, hx2⟩ : ∃ x, str i.pl = x := ⟨_, rfl⟩
  obtain ⟨g, hg⟩ : ∃ x, i.gl = x := ⟨_, rfl⟩
  obtain ⟨l, hl⟩ : ∃ x : Nat, i.ln = x := ⟨_, rfl⟩
  rw [hx0, hx2, hg, hl]
  clear hx0 hx2 hg hl
  obtain ⟨w1, hw1⟩ : ∃ w1, w.alloc (.cells #[.string x0, .bool g, .string x2, .int .i64 (l : Int)] 52) = w1 := ⟨_, rfl⟩
  have hb1 : Below w.heap.size w w1 := by rw [← hw1]; exact (Below.refl _ w).alloc (Nat.le_refl _) _
  have F1 : Full w1 w.heap.size 52 [.string x0, .bool g, .string x2, .int .i64 (l : Int)] := by rw [← hw1]; exact Full.new w 52 _
  have c0 : w1.cell? ⟨w.heap.size, 0, none⟩ = some (.string x0) := F1.cell 0
  have HB := Lib.hid hb1
  clear F1 hb1
  go_enter Tryz.func54, Tryz.ntmps54
  go_wp2
  go_ret
  exact ⟨rfl, HB.out⟩
theorem rightPlatform_any (i : Itm) (hi : ItmOk i) (w : World) : Calls Tryz.prog 57 #[itmV i] w (BoolB w (rPlat i)) := by
  unfold BoolB itmV
  obtain ⟨x0, hx0⟩ : ∃ x, str i.tx = x := ⟨_, rfl⟩
  obtain ⟨x2, hx2⟩ : ∃ x, str i.pl = x := ⟨_, rfl⟩
  obtain ⟨g, hg⟩ : ∃ x, i.gl = x := ⟨_, rfl⟩
  obtain ⟨l, hl⟩ : ∃ x : Nat, i.ln = x := ⟨_, rfl⟩
  have e2 := empty_eq i.pl
  rw [hx2] at e2
  obtain ⟨z, hz⟩ : ∃ z, (i.pl == []) = z := ⟨_, rfl⟩
  rw [hz] at e2
  obtain ⟨w1, hw1⟩ : ∃ w1, w.alloc (.cells #[.string x0, .bool g, .string x2, .int .i64 (l : Int)] 52) = w1 := ⟨_, rfl⟩
  have hb1 : Below w.heap.size w w1 := by rw [← hw1]; exact (Below.refl _ w).alloc (Nat.le_refl _) _
  have F1 : Full w1 w.heap.size 52 [.string x0, .bool g, .string x2, .int .i64 (l : Int)] := by rw [← hw1]; exact Full.new w 52 _
  obtain ⟨r, hr⟩ : ∃ r, w.heap.size = r := ⟨_, rfl⟩
  rw [hr] at F1
  have c0 : w1.cell? ⟨r, 0, none⟩ = some (.string x0) := F1.cell 0
  have c1 : w1.cell? ⟨r, 1, none⟩ = some (.bool g) := F1.cell 1
  have c2 : w1.cell? ⟨r, 2, none⟩ = some (.string x2) := F1.cell 2
  have c3 : w1.cell? ⟨r, 3, none⟩ = some (.int .i64 (l : Int)) := F1.cell 3
  have PA := isPlatform_any (str i.tx) (strOk_str hi.1) w1
  rw [str_data, hx0] at PA
  unfold BoolB at PA
  unfold rPlat
  rw [hx0, hx2, hg, hl, hz]
  obtain ⟨y, hy⟩ : ∃ y, isPlatB i.tx = y := ⟨_, rfl⟩
  rw [hy] at PA
  rw [hy]
  have PA := Lib.hid PA
  have F1H := Lib.hid F1
  have HB1 := Lib.hid hb1
  clear hx0 hx2 hg hl hz hy F1 hb1 hi
  cases y <;> cases g <;> cases z
  all_goals
    go_enter Tryz.func57, Tryz.ntmps57
    go_wp2_with (first
      | (go_at_call 92; ((with_reducible refine PA.out.mono ?_); rintro en w2 ⟨rfl, hb2⟩; (have F2 := F1H.out.on hb2); (have d1 := F2.cell 1); (have d2 := F2.cell 2); (dsimp only [List.getElem?_cons_zero, List.getElem?_cons_succ] at d1 d2); (have HB2 := Lib.hid (HB1.out.trans (hb2.mono HB1.out.size)))))
      | (fail "arm"))
    all_goals (go_ret; exact ⟨rfl, HB2.out⟩)
set_option maxHeartbeats 1000000 in
theorem rightSource_any (i : Itm) (hi : ItmOk i) (w : World) : Calls Tryz.prog 98 #[itmV i] w (BoolB w (rSource i)) := by
  unfold BoolB itmV
  obtain ⟨x0, hx0⟩ : ∃ x, str i.tx = x := ⟨_, rfl⟩
  obtain ⟨x2, hx2⟩ : ∃ x, str i.pl = x := ⟨_, rfl⟩
  obtain ⟨g, hg⟩ : ∃ x, i.gl = x := ⟨_, rfl⟩
  obtain ⟨l, hl⟩ : ∃ x : Nat, i.ln = x := ⟨_, rfl⟩
  have e2 := empty_eq i.pl
  rw [hx2] at e2
  obtain ⟨z, hz⟩ : ∃ z, (i.pl == []) = z := ⟨_, rfl⟩
  rw [hz] at e2
  obtain ⟨w1, hw1⟩ : ∃ w1, w.alloc (.cells #[.string x0, .bool g, .string x2, .int .i64 (l : Int)] 52) = w1 := ⟨_, rfl⟩
  have hb1 : Below w.heap.size w w1 := by rw [← hw1]; exact (Below.refl _ w).alloc (Nat.le_refl _) _
  have F1 : Full w1 w.heap.size 52 [.string x0, .bool g, .string x2, .int .i64 (l : Int)] := by rw [← hw1]; exact Full.new w 52 _
  obtain ⟨r, hr⟩ : ∃ r, w.heap.size = r := ⟨_, rfl⟩
  rw [hr] at F1
  have c0 : w1.cell? ⟨r, 0, none⟩ = some (.string x0) := F1.cell 0
  have c1 : w1.cell? ⟨r, 1, none⟩ = some (.bool g) := F1.cell 1
  have c2 : w1.cell? ⟨r, 2, none⟩ = some (.string x2) := F1.cell 2
  have c3 : w1.cell? ⟨r, 3, none⟩ = some (.int .i64 (l : Int)) := F1.cell 3
  have TA := isText_any (str i.tx) (strOk_str hi.1) w1
  rw [str_data, hx0] at TA
  have PA := fun W => isPlatform_any (str i.pl) (strOk_str hi.2) W
  rw [str_data, hx2] at PA
  unfold BoolB at PA TA
  unfold rSource
  rw [hx0, hx2, hg, hl, hz]
  obtain ⟨y, hy⟩ : ∃ y, isTextB i.tx = y := ⟨_, rfl⟩
  obtain ⟨u, hu⟩ : ∃ y, isPlatB i.pl = y := ⟨_, rfl⟩
  rw [hy] at TA
  rw [hu] at PA
  rw [hy, hu]
  have PA := Lib.hid PA
  have TA := Lib.hid TA
  have F1H := Lib.hid F1
  have HB1 := Lib.hid hb1
  clear hx0 hx2 hg hl hz hy hu F1 hb1 hi
  cases y <;> cases z <;> cases u
  all_goals
    go_enter Tryz.func98, Tryz.ntmps98
    go_wp2_with (first
      | (go_at_call 126; ((with_reducible refine TA.out.mono ?_); rintro en w2 ⟨rfl, hb2⟩; (have F2 := F1H.out.on hb2); (have d1 := F2.cell 1); (have d2 := F2.cell 2); (dsimp only [List.getElem?_cons_zero, List.getElem?_cons_succ] at d1 d2); (have HB2 := Lib.hid (HB1.out.trans (hb2.mono HB1.out.size)))))
      | (go_at_call 92; ((with_reducible refine (PA.out _).mono ?_); rintro en w3 ⟨rfl, hb3⟩; (have HB3 := Lib.hid (HB2.out.trans (hb3.mono (HB2.out.size))))))
      | (fail "arm"))
    all_goals (go_ret; first | exact ⟨rfl, HB3.out⟩ | exact ⟨rfl, HB2.out⟩)
theorem rightDep_any (i : Itm) (hi : ItmOk i) (w : World) : Calls Tryz.prog 99 #[itmV i] w (BoolB w (rDep i)) := by
  unfold BoolB itmV
  obtain ⟨x0, hx0⟩ : ∃ x, str i.tx = x := ⟨_, rfl⟩
  obtain ⟨x2, hx2⟩ : ∃ x, str i.pl = x := ⟨_, rfl⟩
  obtain ⟨g, hg⟩ : ∃ x, i.gl = x := ⟨_, rfl⟩
  obtain ⟨l, hl⟩ : ∃ x : Nat, i.ln = x := ⟨_, rfl⟩
  have e2 := empty_eq i.pl
  rw [hx2] at e2
  obtain ⟨z, hz⟩ : ∃ z, (i.pl == []) = z := ⟨_, rfl⟩
  rw [hz] at e2
  obtain ⟨w1, hw1⟩ : ∃ w1, w.alloc (.cells #[.string x0, .bool g, .string x2, .int .i64 (l : Int)] 52) = w1 := ⟨_, rfl⟩
  have hb1 : Below w.heap.size w w1 := by rw [← hw1]; exact (Below.refl _ w).alloc (Nat.le_refl _) _
  have F1 : Full w1 w.heap.size 52 [.string x0, .bool g, .string x2, .int .i64 (l : Int)] := by rw [← hw1]; exact Full.new w 52 _
  obtain ⟨r, hr⟩ : ∃ r, w.heap.size = r := ⟨_, rfl⟩
  rw [hr] at F1
  have c0 : w1.cell? ⟨r, 0, none⟩ = some (.string x0) := F1.cell 0
  have c1 : w1.cell? ⟨r, 1, none⟩ = some (.bool g) := F1.cell 1
  have c2 : w1.cell? ⟨r, 2, none⟩ = some (.string x2) := F1.cell 2
  have c3 : w1.cell? ⟨r, 3, none⟩ = some (.int .i64 (l : Int)) := F1.cell 3
  have PA := rightSource_any i hi w1
  unfold itmV at PA
  rw [hx0, hx2, hg, hl] at PA
  unfold BoolB at PA
  unfold rDep
  rw [hx0, hx2, hg, hl]
  first | rw [hg] | rw [hz] | skip
  obtain ⟨y, hy⟩ : ∃ y, rSource i = y := ⟨_, rfl⟩
  rw [hy] at PA
  rw [hy]
  have PA := Lib.hid PA
  have F1H := Lib.hid F1
  have HB1 := Lib.hid hb1
  clear hx0 hx2 hg hl hz hy F1 hb1 hi
  cases y <;> cases g <;> cases z
  all_goals
    go_enter Tryz.func99, Tryz.ntmps99
    go_wp2_with (first
      | (go_at_call 98; ((with_reducible refine PA.out.mono ?_); rintro en w2 ⟨rfl, hb2⟩; (have F2 := F1H.out.on hb2); (have d1 := F2.cell 1); (have d2 := F2.cell 2); (dsimp only [List.getElem?_cons_zero, List.getElem?_cons_succ] at d1 d2); (have HB2 := Lib.hid (HB1.out.trans (hb2.mono HB1.out.size)))))
      | (fail "arm"))
    all_goals (go_ret; exact ⟨rfl, HB2.out⟩)
theorem rightText_any (i : Itm) (hi : ItmOk i) (w : World) : Calls Tryz.prog 100 #[itmV i] w (BoolB w (rText i)) := by
  unfold BoolB itmV
  obtain ⟨x0, hx0⟩ : ∃ x, str i.tx = x := ⟨_, rfl⟩
  obtain ⟨x2, hx2⟩ : ∃ x, str i.pl = x := ⟨_, rfl⟩
  obtain ⟨g, hg⟩ : ∃ x, i.gl = x := ⟨_, rfl⟩
  obtain ⟨l, hl⟩ : ∃ x : Nat, i.ln = x := ⟨_, rfl⟩
  have e2 := empty_eq i.pl
  rw [hx2] at e2
  obtain ⟨z, hz⟩ : ∃ z, (i.pl == []) = z := ⟨_, rfl⟩
  rw [hz] at e2
  obtain ⟨w1, hw1⟩ : ∃ w1, w.alloc (.cells #[.string x0, .bool g, .string x2, .int .i64 (l : Int)] 52) = w1 := ⟨_, rfl⟩
  have hb1 : Below w.heap.size w w1 := by rw [← hw1]; exact (Below.refl _ w).alloc (Nat.le_refl _) _
  have F1 : Full w1 w.heap.size 52 [.string x0, .bool g, .string x2, .int .i64 (l : Int)] := by rw [← hw1]; exact Full.new w 52 _
  obtain ⟨r, hr⟩ : ∃ r, w.heap.size = r := ⟨_, rfl⟩
  rw [hr] at F1
  have c0 : w1.cell? ⟨r, 0, none⟩ = some (.string x0) := F1.cell 0
  have c1 : w1.cell? ⟨r, 1, none⟩ = some (.bool g) := F1.cell 1
  have c2 : w1.cell? ⟨r, 2, none⟩ = some (.string x2) := F1.cell 2
  have c3 : w1.cell? ⟨r, 3, none⟩ = some (.int .i64 (l : Int)) := F1.cell 3
  have PA := rightDep_any i hi w1
  unfold itmV at PA
  rw [hx0, hx2, hg, hl] at PA
  unfold BoolB at PA
  unfold rText
  rw [hx0, hx2, hg, hl]
  first | rw [hg] | rw [hz] | skip
  obtain ⟨y, hy⟩ : ∃ y, rDep i = y := ⟨_, rfl⟩
  rw [hy] at PA
  rw [hy]
  have PA := Lib.hid PA
  have F1H := Lib.hid F1
  have HB1 := Lib.hid hb1
  clear hx0 hx2 hg hl hz hy F1 hb1 hi
  cases y <;> cases g <;> cases z
  all_goals
    go_enter Tryz.func100, Tryz.ntmps100
    go_wp2_with (first
      | (go_at_call 99; ((with_reducible refine PA.out.mono ?_); rintro en w2 ⟨rfl, hb2⟩; (have F2 := F1H.out.on hb2); (have d1 := F2.cell 1); (have d2 := F2.cell 2); (dsimp only [List.getElem?_cons_zero, List.getElem?_cons_succ] at d1 d2); (have HB2 := Lib.hid (HB1.out.trans (hb2.mono HB1.out.size)))))
      | (fail "arm"))
    all_goals (go_ret; exact ⟨rfl, HB2.out⟩)
end Go.Proofs.YtcjoiiaankngjaaGreatDoor
/- Right: rows that are read; IndexFunc. -/
namespace Go.Proofs.YtcjoiiaankngjaaGreatDoor
set_option maxRecDepth 100000
open Go.RowKit
/-- items in a slice that is read -/
def Itms (w : World) (B : Nat) (A : Option Addr) (c : Nat) (l : List Itm) : Prop := Row w B 4 A l.length c (itmsC l)
theorem Row.cell_at {w : World} {B size n c : Nat} {A : Option Addr} {xs : List Value} (h : Row w B size A n c xs) {k : Nat} {u : Value} (hu : xs[k]? = some u) : ∃ ad, A = some ad ∧ ad.block < B ∧ w.cell? (ad.add k) = some u := h.2.2.2 k u hu
theorem add_off (ad : Addr) (k j : Nat) (hj : 0 < j) : ad.add (k + j) = ⟨(ad.add k).block, (ad.add k).off + j, none⟩ := by
  rw [← add_twice]
  unfold Addr.add
  by_cases hk : k = 0 <;> simp [hk] <;> omega
theorem Itms.at_ {w : World} {B : Nat} {A : Option Addr} {c : Nat} {l : List Itm} (h : Itms w B A c l) {k : Nat} (hk : k < l.length) : ∃ ad, A = some ad ∧ ad.block < B ∧ w.cell? (ad.add (k * 4)) = some (.string (str l[k].tx)) ∧
    w.cell? ⟨(ad.add (k * 4)).block, (ad.add (k * 4)).off + 1, none⟩ = some (.bool l[k].gl) ∧ w.cell? ⟨(ad.add (k * 4)).block, (ad.add (k * 4)).off + 2, none⟩ = some (.string (str l[k].pl)) ∧ w.cell? ⟨(ad.add (k * 4)).block, (ad.add (k * 4)).off + 3, none⟩ = some (.int .i64 (l[k].ln : Int)) := by
  have e := fun j hj => flat_at itmC 4 (fun i => rfl) l k j hk hj
  obtain ⟨ad, rfl, hb, h0⟩ := Row.cell_at h (e 0 (by decide))
  obtain ⟨_, e1, _, h1⟩ := Row.cell_at h (e 1 (by decide))
  obtain ⟨_, e2, _, h2⟩ := Row.cell_at h (e 2 (by decide))
  obtain ⟨_, e3, _, h3⟩ := Row.cell_at h (e 3 (by decide))
  injection e1 with e1
  injection e2 with e2
  injection e3 with e3
  subst e1 e2 e3
  rw [add_off _ _ _ (by decide)] at h1 h2 h3
  exact ⟨ad, rfl, hb, h0, h1, h2, h3⟩
/-- targets in a slice that is read -/
def Tgts (w : World) (B : Nat) (A : Option Addr) (c : Nat) (l : List (Tgt × (Nat → Value))) : Prop := Row w B 9 A l.length c (tgtsC l)
theorem Tgts.at_ {w : World} {B : Nat} {A : Option Addr} {c : Nat} {l : List (Tgt × (Nat → Value))} (h : Tgts w B A c l) {k : Nat} (hk : k < l.length) : ∃ ad, A = some ad ∧ ad.block < B ∧ w.cell? (ad.add (k * 9)) = some (.string (str l[k].1.name)) ∧
    w.cell? ⟨(ad.add (k * 9)).block, (ad.add (k * 9)).off + 1, none⟩ = some (.int .i64 l[k].1.kind) ∧ w.cell? ⟨(ad.add (k * 9)).block, (ad.add (k * 9)).off + 2, none⟩ = some (.int .i64 (l[k].1.line : Int)) ∧ w.cell? ⟨(ad.add (k * 9)).block, (ad.add (k * 9)).off + 3, none⟩ = some (l[k].2 0) ∧ w.cell? ⟨(ad.add (k * 9)).block, (ad.add (k * 9)).off + 4, none⟩ = some (l[k].2 1) ∧ w.cell? ⟨(ad.add (k * 9)).block, (ad.add (k * 9)).off + 5, none⟩ = some (l[k].2 2) ∧ w.cell? ⟨(ad.add (k * 9)).block, (ad.add (k * 9)).off + 6, none⟩ = some (l[k].2 3) ∧ w.cell? ⟨(ad.add (k * 9)).block, (ad.add (k * 9)).off + 7, none⟩ = some (.int .i64 l[k].1.cost) ∧ w.cell? ⟨(ad.add (k * 9)).block, (ad.add (k * 9)).off + 8, none⟩ = some (.int .i64 l[k].1.retry) := by
  have e := fun j hj => flat_at tgtC 9 (fun i => rfl) l k j hk hj
  obtain ⟨ad, rfl, hb, h0⟩ := Row.cell_at h (e 0 (by decide))
  obtain ⟨_, e1, _, h1⟩ := Row.cell_at h (e 1 (by decide))
  obtain ⟨_, e2, _, h2⟩ := Row.cell_at h (e 2 (by decide))
  obtain ⟨_, e3, _, h3⟩ := Row.cell_at h (e 3 (by decide))
  obtain ⟨_, e4, _, h4⟩ := Row.cell_at h (e 4 (by decide))
  obtain ⟨_, e5, _, h5⟩ := Row.cell_at h (e 5 (by decide))
  obtain ⟨_, e6, _, h6⟩ := Row.cell_at h (e 6 (by decide))
  obtain ⟨_, e7, _, h7⟩ := Row.cell_at h (e 7 (by decide))
  obtain ⟨_, e8, _, h8⟩ := Row.cell_at h (e 8 (by decide))
  injection e1 with e1
  injection e2 with e2
  injection e3 with e3
  injection e4 with e4
  injection e5 with e5
  injection e6 with e6
  injection e7 with e7
  injection e8 with e8
  subst e1 e2 e3 e4 e5 e6 e7 e8
  rw [add_off _ _ _ (by decide)] at h1 h2 h3 h4 h5 h6 h7 h8
  exact ⟨ad, rfl, hb, h0, h1, h2, h3, h4, h5, h6, h7, h8⟩
/-- how many come before the first -/
def lead {α : Type} (P : α → Bool) : List α → Nat
  | [] => 0
  | x :: t => if P x then 0 else lead P t + 1
theorem lead_le {α : Type} (P : α → Bool) : ∀ l : List α, lead P l ≤ l.length
  | [] => Nat.le_refl _
  | x :: t => by
    rw [lead]
    have := lead_le P t
    split
    · simp
    · simp; omega
theorem lead_hit {α : Type} (P : α → Bool) : ∀ (l : List α) (k : Nat) (hk : k < l.length), k ≤ lead P l → P l[k] = true → lead P l = k
  | [], k, hk, _, _ => by simp at hk
  | x :: t, 0, _, _, h => by rw [lead, if_pos (show P x = true from h)]
  | x :: t, k + 1, hk, hl, h => by
    rw [lead] at hl ⊢
    by_cases hx : P x = true
    · rw [if_pos hx] at hl; omega
    · rw [if_neg hx] at hl ⊢
      rw [lead_hit P t k (by simpa using hk) (by omega) h]
theorem lead_miss {α : Type} (P : α → Bool) : ∀ (l : List α) (k : Nat) (hk : k < l.length), k ≤ lead P l → P l[k] = false → k + 1 ≤ lead P l
  | [], k, hk, _, _ => by simp at hk
  | x :: t, 0, _, _, h => by rw [lead, if_neg (show ¬ P x = true by rw [show P x = false from h]; decide)]; omega
  | x :: t, k + 1, hk, hl, h => by
    rw [lead] at hl ⊢
    by_cases hx : P x = true
    · rw [if_pos hx] at hl; omega
    · rw [if_neg hx] at hl ⊢
      have := lead_miss P t k (by simpa using hk) (by omega) h
      omega
theorem lead_all {α : Type} (P : α → Bool) : ∀ l : List α, decide (lead P l < l.length) = l.any P
  | [] => rfl
  | x :: t => by
    rw [lead, List.any_cons]
    by_cases hx : P x = true
    · rw [if_pos hx, hx]; simp
    · rw [if_neg hx]
      have := lead_all P t
      rw [show P x = false by simpa using hx, Bool.false_or, ← this]
      simp
def idxV (k n : Nat) : Int := if k < n then (k : Int) else -1
def IdxOut (w : World) (r : Int) (en : Ending) (w' : World) : Prop := en = .returned (.int .i64 r) ∧ Below w.heap.size w w'
set_option maxHeartbeats 2000000 in
theorem index_91 {w : World} {B c : Nat} {A : Option Addr} {l : List Itm} (hA : Itms w B A c l) (hB : B ≤ w.heap.size) (hl : l.length ≤ maxLen) (xp : Addr) (P : Itm → Bool)
    (EL : ∀ W, Below w.heap.size w W → ∀ i ∈ l, Calls Tryz.prog 91 #[itmV i, .pointer (some xp)] W (BoolB W (P i))) :
    Calls Tryz.prog 124 #[.slice A l.length c, .func (.func 91) #[] #[.pointer (some xp)]] w (IdxOut w (idxV (lead P l) l.length)) := by
  unfold maxLen at hl
  unfold IdxOut
  obtain ⟨n, hn⟩ : ∃ n, l.length = n := ⟨_, rfl⟩
  obtain ⟨m, hm⟩ : ∃ n, lead P l = n := ⟨_, rfl⟩
  have hmn := lead_le P l
  have hcap := hA.2.1
  rw [hn] at hl hcap hmn ⊢
  rw [hm] at hmn ⊢
  have HNM := Lib.hid (And.intro hn hm)
  have HEL := Lib.hid EL
  clear EL hn hm
  go_enter Tryz.func124, Tryz.ntmps124
  go_upto_region 2 with fail
  go_loopw [8] (fun i wr => ∃ k : Nat, i = .int .i64 (k : Int) ∧ k ≤ n ∧ k ≤ m ∧ Below w.heap.size w wr) (fun i _ => n - (intOf i).toNat)
  case atStart => exact ⟨0, rfl, Nat.zero_le _, Nat.zero_le _, Below.refl _ _⟩
  case round =>
    obtain ⟨k, rfl, hk, hkm, hBw⟩ := hrel
    have hi0 : (0 : Int) ≤ (k : Int) := Int.natCast_nonneg _
    by_cases hlt : k < n
    · have hi1 : (k : Int) < (n : Int) := by omega
      have hd : decide ((k : Int) < (n : Int)) = true := by simp; omega
      have hkl : k < l.length := by have := HNM.out.1; omega
      obtain ⟨ad, rfl, hadB, x0, x1, x2, x3⟩ := (show Itms wr B A c l from Row.below hA hBw hB).at_ hkl
      have EL1 := HEL.out wr hBw l[k] (List.getElem_mem hkl)
      unfold itmV BoolB at EL1
      obtain ⟨y0, hy0⟩ : ∃ y, str l[k].tx = y := ⟨_, rfl⟩
      obtain ⟨y1, hy1⟩ : ∃ y, l[k].gl = y := ⟨_, rfl⟩
      obtain ⟨y2, hy2⟩ : ∃ y, str l[k].pl = y := ⟨_, rfl⟩
      obtain ⟨y3, hy3⟩ : ∃ y : Nat, l[k].ln = y := ⟨_, rfl⟩
      obtain ⟨p, hp⟩ : ∃ p, P l[k] = p := ⟨_, rfl⟩
      rw [hy0] at x0 EL1
      rw [hy1] at x1 EL1
      rw [hy2] at x2 EL1
      rw [hy3] at x3 EL1
      rw [hp] at EL1
      have EL1 := Lib.hid EL1
      have hcap' : n ≤ c := hcap
      cases p with
      | true =>
        have HM := Lib.hid (lead_hit P l k hkl (by rw [HNM.out.2]; exact hkm) hp)
        clear hy0 hy1 hy2 hy3 hp
        go_wp2_with (first
          | (go_at_call 91; ((with_reducible refine EL1.out.mono ?_); rintro en w2 ⟨rfl, hb⟩; (have HB2 := Lib.hid (hBw.trans (hb.mono hBw.size)))))
          | (fail "arm"))
        go_ret
        have e := HM.out
        rw [HNM.out.2] at e
        subst e
        refine ⟨?_, HB2.out⟩
        unfold idxV
        rw [if_pos hlt]
        rfl
      | false =>
        have HM := Lib.hid (lead_miss P l k hkl (by rw [HNM.out.2]; exact hkm) hp)
        rw [HNM.out.2] at HM
        clear hy0 hy1 hy2 hy3 hp
        go_wp2_with (first
          | (go_at_call 91; ((with_reducible refine EL1.out.mono ?_); rintro en w2 ⟨rfl, hb⟩; (have HB2 := Lib.hid (hBw.trans (hb.mono hBw.size)))))
          | (fail "arm"))
        go_roundw
        case rel => exact ⟨k + 1, by simp, hlt, HM.out, HB2.out⟩
        case measure => show n - ((k : Int) + 1).toNat < n - (k : Int).toNat; omega
    · obtain rfl : k = n := by omega
      have hd : decide ((k : Int) < (k : Int)) = false := by simp
      have hm2 : m = k := by omega
      subst hm2
      have HB2 := Lib.hid hBw
      go_wp2
      go_ret
      refine ⟨?_, HB2.out⟩
      unfold idxV
      rw [if_neg (by omega)]
      rfl
end Go.Proofs.YtcjoiiaankngjaaGreatDoor
/- Right: every, of items. -/
namespace Go.Proofs.YtcjoiiaankngjaaGreatDoor
set_option maxRecDepth 100000
open Go.RowKit
theorem all_not_any {α : Type} (P : α → Bool) : ∀ l : List α, l.all P = !(l.any fun i => !P i)
  | [] => rfl
  | x :: t => by
    rw [List.all_cons, List.any_cons, all_not_any P t]
    cases P x <;> cases (t.any fun i => !P i) <;> rfl
theorem contains_91 {w : World} {B c : Nat} {A : Option Addr} {l : List Itm} (hA : Itms w B A c l) (hB : B ≤ w.heap.size) (hl : l.length ≤ maxLen) (xp : Addr) (P : Itm → Bool)
    (EL : ∀ W, Below w.heap.size w W → ∀ i ∈ l, Calls Tryz.prog 91 #[itmV i, .pointer (some xp)] W (BoolB W (P i))) :
    Calls Tryz.prog 90 #[.slice A l.length c, .func (.func 91) #[] #[.pointer (some xp)]] w (BoolB w (l.any P)) := by
  have IX := index_91 hA hB hl xp P EL
  unfold IdxOut at IX
  unfold BoolB
  obtain ⟨r, hr⟩ : ∃ r, idxV (lead P l) l.length = r := ⟨_, rfl⟩
  have hd : decide (r ≥ 0) = l.any P := by
    rw [← lead_all, ← hr]
    unfold idxV
    have := lead_le P l
    by_cases h : lead P l < l.length
    · rw [if_pos h]; simp [h]
    · rw [if_neg h]; simp [h]
  obtain ⟨b, hb⟩ : ∃ b, l.any P = b := ⟨_, rfl⟩
  rw [hr] at IX
  rw [hb] at hd ⊢
  obtain ⟨n, hn⟩ : ∃ n, l.length = n := ⟨_, rfl⟩
  rw [hn] at IX ⊢
  have IX := Lib.hid IX
  clear hr hb hA EL hn hl
  have hd2 : decide (0 ≤ r) = b := hd
  go_enter Tryz.func90, Tryz.ntmps90
  go_wp2_with (first
    | (go_at_call 124; ((with_reducible refine IX.out.mono ?_); rintro en w2 ⟨rfl, hb2⟩; (have HB2 := Lib.hid hb2)))
    | (fail "arm"))
  go_ret
  exact ⟨by rw [← hd2]; rfl, HB2.out⟩
theorem each_57 {w : World} {bx : Nat} (F : Full w bx 114 [.func (.func 57) #[] #[]]) (i : Itm) (hi : ItmOk i) : Calls Tryz.prog 91 #[itmV i, .pointer (some ⟨bx, 0, none⟩)] w (BoolB w (!rPlat i)) := by
  unfold BoolB
  obtain ⟨x0, hx0⟩ : ∃ x, str i.tx = x := ⟨_, rfl⟩
  obtain ⟨x2, hx2⟩ : ∃ x, str i.pl = x := ⟨_, rfl⟩
  obtain ⟨g, hg⟩ : ∃ x, i.gl = x := ⟨_, rfl⟩
  obtain ⟨l, hl⟩ : ∃ x : Nat, i.ln = x := ⟨_, rfl⟩
  have RA := fun W => rightPlatform_any i hi W
  unfold itmV BoolB at RA
  unfold itmV
  rw [hx0, hx2, hg, hl] at RA
  rw [hx0, hx2, hg, hl]
  obtain ⟨y, hy⟩ : ∃ y, rPlat i = y := ⟨_, rfl⟩
  rw [hy] at RA
  rw [hy]
  obtain ⟨w1, hw1⟩ : ∃ w1, w.alloc (.cells #[.string x0, .bool g, .string x2, .int .i64 (l : Int)] 52) = w1 := ⟨_, rfl⟩
  have hb1 : Below w.heap.size w w1 := by rw [← hw1]; exact (Below.refl _ w).alloc (Nat.le_refl _) _
  have F1 : Full w1 w.heap.size 52 [.string x0, .bool g, .string x2, .int .i64 (l : Int)] := by rw [← hw1]; exact Full.new w 52 _
  have FB := F.on hb1
  have k0 : w1.cell? ⟨bx, 0, none⟩ = some (.func (.func 57) #[] #[]) := FB.cell 0
  obtain ⟨r, hr⟩ : ∃ r, w.heap.size = r := ⟨_, rfl⟩
  rw [hr] at F1
  have c0 : w1.cell? ⟨r, 0, none⟩ = some (.string x0) := F1.cell 0
  have c1 : w1.cell? ⟨r, 1, none⟩ = some (.bool g) := F1.cell 1
  have c2 : w1.cell? ⟨r, 2, none⟩ = some (.string x2) := F1.cell 2
  have c3 : w1.cell? ⟨r, 3, none⟩ = some (.int .i64 (l : Int)) := F1.cell 3
  have RA := Lib.hid RA
  have HB1 := Lib.hid hb1
  clear F F1 FB hb1 hi hy hx0 hx2 hg hl
  go_enter Tryz.func91, Tryz.ntmps91
  go_wp2_with (first
    | (go_at_call 57; ((with_reducible refine (RA.out _).mono ?_); rintro en w2 ⟨rfl, hb2⟩; (have HB2 := Lib.hid (HB1.out.trans (hb2.mono HB1.out.size)))))
    | (fail "arm"))
  go_ret
  exact ⟨rfl, HB2.out⟩
theorem every_57 {w : World} {B c : Nat} {A : Option Addr} {l : List Itm} (hA : Itms w B A c l) (hB : B ≤ w.heap.size) (hl : l.length ≤ maxLen) (hok : ∀ i ∈ l, ItmOk i) :
    Calls Tryz.prog 56 #[.slice A l.length c, .func (.func 57) #[] #[]] w (BoolB w (l.all rPlat)) := by
  obtain ⟨w1, hw1⟩ : ∃ w1, w.alloc (.cells #[.func (.func 57) #[] #[]] 114) = w1 := ⟨_, rfl⟩
  have hb1 : Below w.heap.size w w1 := by rw [← hw1]; exact (Below.refl _ w).alloc (Nat.le_refl _) _
  have F1 : Full w1 w.heap.size 114 [.func (.func 57) #[] #[]] := by rw [← hw1]; exact Full.new w 114 _
  have CF := contains_91 (show Itms w1 B A c l from Row.below hA hb1 hB) (Nat.le_trans hB hb1.size) hl ⟨w.heap.size, 0, none⟩ (fun i => !rPlat i) (fun W hW i hi => each_57 (F1.on hW) i (hok i hi))
  unfold BoolB at CF ⊢
  have e := all_not_any rPlat l
  rw [e]
  obtain ⟨b, hb⟩ : ∃ b, (l.any fun i => !rPlat i) = b := ⟨_, rfl⟩
  rw [hb] at CF ⊢
  obtain ⟨n, hn⟩ : ∃ n, l.length = n := ⟨_, rfl⟩
  rw [hn] at CF ⊢
  have CF := Lib.hid CF
  have HB1 := Lib.hid hb1
  clear hb hn e hA hB hl hok F1 hb1
  go_enter Tryz.func56, Tryz.ntmps56
  go_wp2_with (first
    | (go_at_call 90; ((with_reducible refine CF.out.mono ?_); rintro en w2 ⟨rfl, hb2⟩; (have HB2 := Lib.hid (HB1.out.trans (hb2.mono HB1.out.size)))))
    | (fail "arm"))
  go_ret
  exact ⟨rfl, HB2.out⟩
theorem each_98 {w : World} {bx : Nat} (F : Full w bx 114 [.func (.func 98) #[] #[]]) (i : Itm) (hi : ItmOk i) : Calls Tryz.prog 91 #[itmV i, .pointer (some ⟨bx, 0, none⟩)] w (BoolB w (!rSource i)) := by
  unfold BoolB
  obtain ⟨x0, hx0⟩ : ∃ x, str i.tx = x := ⟨_, rfl⟩
  obtain ⟨x2, hx2⟩ : ∃ x, str i.pl = x := ⟨_, rfl⟩
  obtain ⟨g, hg⟩ : ∃ x, i.gl = x := ⟨_, rfl⟩
  obtain ⟨l, hl⟩ : ∃ x : Nat, i.ln = x := ⟨_, rfl⟩
  have RA := fun W => rightSource_any i hi W
  unfold itmV BoolB at RA
  unfold itmV
  rw [hx0, hx2, hg, hl] at RA
  rw [hx0, hx2, hg, hl]
  obtain ⟨y, hy⟩ : ∃ y, rSource i = y := ⟨_, rfl⟩
  rw [hy] at RA
  rw [hy]
  obtain ⟨w1, hw1⟩ : ∃ w1, w.alloc (.cells #[.string x0, .bool g, .string x2, .int .i64 (l : Int)] 52) = w1 := ⟨_, rfl⟩
  have hb1 : Below w.heap.size w w1 := by rw [← hw1]; exact (Below.refl _ w).alloc (Nat.le_refl _) _
  have F1 : Full w1 w.heap.size 52 [.string x0, .bool g, .string x2, .int .i64 (l : Int)] := by rw [← hw1]; exact Full.new w 52 _
  have FB := F.on hb1
  have k0 : w1.cell? ⟨bx, 0, none⟩ = some (.func (.func 98) #[] #[]) := FB.cell 0
  obtain ⟨r, hr⟩ : ∃ r, w.heap.size = r := ⟨_, rfl⟩
  rw [hr] at F1
  have c0 : w1.cell? ⟨r, 0, none⟩ = some (.string x0) := F1.cell 0
  have c1 : w1.cell? ⟨r, 1, none⟩ = some (.bool g) := F1.cell 1
  have c2 : w1.cell? ⟨r, 2, none⟩ = some (.string x2) := F1.cell 2
  have c3 : w1.cell? ⟨r, 3, none⟩ = some (.int .i64 (l : Int)) := F1.cell 3
  have RA := Lib.hid RA
  have HB1 := Lib.hid hb1
  clear F F1 FB hb1 hi hy hx0 hx2 hg hl
  go_enter Tryz.func91, Tryz.ntmps91
  go_wp2_with (first
    | (go_at_call 98; ((with_reducible refine (RA.out _).mono ?_); rintro en w2 ⟨rfl, hb2⟩; (have HB2 := Lib.hid (HB1.out.trans (hb2.mono HB1.out.size)))))
    | (fail "arm"))
  go_ret
  exact ⟨rfl, HB2.out⟩
theorem every_98 {w : World} {B c : Nat} {A : Option Addr} {l : List Itm} (hA : Itms w B A c l) (hB : B ≤ w.heap.size) (hl : l.length ≤ maxLen) (hok : ∀ i ∈ l, ItmOk i) :
    Calls Tryz.prog 56 #[.slice A l.length c, .func (.func 98) #[] #[]] w (BoolB w (l.all rSource)) := by
  obtain ⟨w1, hw1⟩ : ∃ w1, w.alloc (.cells #[.func (.func 98) #[] #[]] 114) = w1 := ⟨_, rfl⟩
  have hb1 : Below w.heap.size w w1 := by rw [← hw1]; exact (Below.refl _ w).alloc (Nat.le_refl _) _
  have F1 : Full w1 w.heap.size 114 [.func (.func 98) #[] #[]] := by rw [← hw1]; exact Full.new w 114 _
  have CF := contains_91 (show Itms w1 B A c l from Row.below hA hb1 hB) (Nat.le_trans hB hb1.size) hl ⟨w.heap.size, 0, none⟩ (fun i => !rSource i) (fun W hW i hi => each_98 (F1.on hW) i (hok i hi))
  unfold BoolB at CF ⊢
  have e := all_not_any rSource l
  rw [e]
  obtain ⟨b, hb⟩ : ∃ b, (l.any fun i => !rSource i) = b := ⟨_, rfl⟩
  rw [hb] at CF ⊢
  obtain ⟨n, hn⟩ : ∃ n, l.length = n := ⟨_, rfl⟩
  rw [hn] at CF ⊢
  have CF := Lib.hid CF
  have HB1 := Lib.hid hb1
  clear hb hn e hA hB hl hok F1 hb1
  go_enter Tryz.func56, Tryz.ntmps56
  go_wp2_with (first
    | (go_at_call 90; ((with_reducible refine CF.out.mono ?_); rintro en w2 ⟨rfl, hb2⟩; (have HB2 := Lib.hid (HB1.out.trans (hb2.mono HB1.out.size)))))
    | (fail "arm"))
  go_ret
  exact ⟨rfl, HB2.out⟩
theorem each_99 {w : World} {bx : Nat} (F : Full w bx 114 [.func (.func 99) #[] #[]]) (i : Itm) (hi : ItmOk i) : Calls Tryz.prog 91 #[itmV i, .pointer (some ⟨bx, 0, none⟩)] w (BoolB w (!rDep i)) := by
  unfold BoolB
  obtain ⟨x0, hx0⟩ : ∃ x, str i.tx = x := ⟨_, rfl⟩
  obtain ⟨x2, hx2⟩ : ∃ x, str i.pl = x := ⟨_, rfl⟩
  obtain ⟨g, hg⟩ : ∃ x, i.gl = x := ⟨_, rfl⟩
  obtain ⟨l, hl⟩ : ∃ x : Nat, i.ln = x := ⟨_, rfl⟩
  have RA := fun W => rightDep_any i hi W
  unfold itmV BoolB at RA
  unfold itmV
  rw [hx0, hx2, hg, hl] at RA
  rw [hx0, hx2, hg, hl]
  obtain ⟨y, hy⟩ : ∃ y, rDep i = y := ⟨_, rfl⟩
  rw [hy] at RA
  rw [hy]
  obtain ⟨w1, hw1⟩ : ∃ w1, w.alloc (.cells #[.string x0, .bool g, .string x2, .int .i64 (l : Int)] 52) = w1 := ⟨_, rfl⟩
  have hb1 : Below w.heap.size w w1 := by rw [← hw1]; exact (Below.refl _ w).alloc (Nat.le_refl _) _
  have F1 : Full w1 w.heap.size 52 [.string x0, .bool g, .string x2, .int .i64 (l : Int)] := by rw [← hw1]; exact Full.new w 52 _
  have FB := F.on hb1
  have k0 : w1.cell? ⟨bx, 0, none⟩ = some (.func (.func 99) #[] #[]) := FB.cell 0
  obtain ⟨r, hr⟩ : ∃ r, w.heap.size = r := ⟨_, rfl⟩
  rw [hr] at F1
  have c0 : w1.cell? ⟨r, 0, none⟩ = some (.string x0) := F1.cell 0
  have c1 : w1.cell? ⟨r, 1, none⟩ = some (.bool g) := F1.cell 1
  have c2 : w1.cell? ⟨r, 2, none⟩ = some (.string x2) := F1.cell 2
  have c3 : w1.cell? ⟨r, 3, none⟩ = some (.int .i64 (l : Int)) := F1.cell 3
  have RA := Lib.hid RA
  have HB1 := Lib.hid hb1
  clear F F1 FB hb1 hi hy hx0 hx2 hg hl
  go_enter Tryz.func91, Tryz.ntmps91
  go_wp2_with (first
    | (go_at_call 99; ((with_reducible refine (RA.out _).mono ?_); rintro en w2 ⟨rfl, hb2⟩; (have HB2 := Lib.hid (HB1.out.trans (hb2.mono HB1.out.size)))))
    | (fail "arm"))
  go_ret
  exact ⟨rfl, HB2.out⟩
theorem every_99 {w : World} {B c : Nat} {A : Option Addr} {l : List Itm} (hA : Itms w B A c l) (hB : B ≤ w.heap.size) (hl : l.length ≤ maxLen) (hok : ∀ i ∈ l, ItmOk i) :
    Calls Tryz.prog 56 #[.slice A l.length c, .func (.func 99) #[] #[]] w (BoolB w (l.all rDep)) := by
  obtain ⟨w1, hw1⟩ : ∃ w1, w.alloc (.cells #[.func (.func 99) #[] #[]] 114) = w1 := ⟨_, rfl⟩
  have hb1 : Below w.heap.size w w1 := by rw [← hw1]; exact (Below.refl _ w).alloc (Nat.le_refl _) _
  have F1 : Full w1 w.heap.size 114 [.func (.func 99) #[] #[]] := by rw [← hw1]; exact Full.new w 114 _
  have CF := contains_91 (show Itms w1 B A c l from Row.below hA hb1 hB) (Nat.le_trans hB hb1.size) hl ⟨w.heap.size, 0, none⟩ (fun i => !rDep i) (fun W hW i hi => each_99 (F1.on hW) i (hok i hi))
  unfold BoolB at CF ⊢
  have e := all_not_any rDep l
  rw [e]
  obtain ⟨b, hb⟩ : ∃ b, (l.any fun i => !rDep i) = b := ⟨_, rfl⟩
  rw [hb] at CF ⊢
  obtain ⟨n, hn⟩ : ∃ n, l.length = n := ⟨_, rfl⟩
  rw [hn] at CF ⊢
  have CF := Lib.hid CF
  have HB1 := Lib.hid hb1
  clear hb hn e hA hB hl hok F1 hb1
  go_enter Tryz.func56, Tryz.ntmps56
  go_wp2_with (first
    | (go_at_call 90; ((with_reducible refine CF.out.mono ?_); rintro en w2 ⟨rfl, hb2⟩; (have HB2 := Lib.hid (HB1.out.trans (hb2.mono HB1.out.size)))))
    | (fail "arm"))
  go_ret
  exact ⟨rfl, HB2.out⟩
theorem each_100 {w : World} {bx : Nat} (F : Full w bx 114 [.func (.func 100) #[] #[]]) (i : Itm) (hi : ItmOk i) : Calls Tryz.prog 91 #[itmV i, .pointer (some ⟨bx, 0, none⟩)] w (BoolB w (!rText i)) := by
  unfold BoolB
  obtain ⟨x0, hx0⟩ : ∃ x, str i.tx = x := ⟨_, rfl⟩
  obtain ⟨x2, hx2⟩ : ∃ x, str i.pl = x := ⟨_, rfl⟩
  obtain ⟨g, hg⟩ : ∃ x, i.gl = x := ⟨_, rfl⟩
  obtain ⟨l, hl⟩ : ∃ x : Nat, i.ln = x := ⟨_, rfl⟩
  have RA := fun W => rightText_any i hi W
  unfold itmV BoolB at RA
  unfold itmV
  rw [hx0, hx2, hg, hl] at RA
  rw [hx0, hx2, hg, hl]
  obtain ⟨y, hy⟩ : ∃ y, rText i = y := ⟨_, rfl⟩
  rw [hy] at RA
  rw [hy]
  obtain ⟨w1, hw1⟩ : ∃ w1, w.alloc (.cells #[.string x0, .bool g, .string x2, .int .i64 (l : Int)] 52) = w1 := ⟨_, rfl⟩
  have hb1 : Below w.heap.size w w1 := by rw [← hw1]; exact (Below.refl _ w).alloc (Nat.le_refl _) _
  have F1 : Full w1 w.heap.size 52 [.string x0, .bool g, .string x2, .int .i64 (l : Int)] := by rw [← hw1]; exact Full.new w 52 _
  have FB := F.on hb1
  have k0 : w1.cell? ⟨bx, 0, none⟩ = some (.func (.func 100) #[] #[]) := FB.cell 0
  obtain ⟨r, hr⟩ : ∃ r, w.heap.size = r := ⟨_, rfl⟩
  rw [hr] at F1
  have c0 : w1.cell? ⟨r, 0, none⟩ = some (.string x0) := F1.cell 0
  have c1 : w1.cell? ⟨r, 1, none⟩ = some (.bool g) := F1.cell 1
  have c2 : w1.cell? ⟨r, 2, none⟩ = some (.string x2) := F1.cell 2
  have c3 : w1.cell? ⟨r, 3, none⟩ = some (.int .i64 (l : Int)) := F1.cell 3
  have RA := Lib.hid RA
  have HB1 := Lib.hid hb1
  clear F F1 FB hb1 hi hy hx0 hx2 hg hl
  go_enter Tryz.func91, Tryz.ntmps91
  go_wp2_with (first
    | (go_at_call 100; ((with_reducible refine (RA.out _).mono ?_); rintro en w2 ⟨rfl, hb2⟩; (have HB2 := Lib.hid (HB1.out.trans (hb2.mono HB1.out.size)))))
    | (fail "arm"))
  go_ret
  exact ⟨rfl, HB2.out⟩
theorem every_100 {w : World} {B c : Nat} {A : Option Addr} {l : List Itm} (hA : Itms w B A c l) (hB : B ≤ w.heap.size) (hl : l.length ≤ maxLen) (hok : ∀ i ∈ l, ItmOk i) :
    Calls Tryz.prog 56 #[.slice A l.length c, .func (.func 100) #[] #[]] w (BoolB w (l.all rText)) := by
  obtain ⟨w1, hw1⟩ : ∃ w1, w.alloc (.cells #[.func (.func 100) #[] #[]] 114) = w1 := ⟨_, rfl⟩
  have hb1 : Below w.heap.size w w1 := by rw [← hw1]; exact (Below.refl _ w).alloc (Nat.le_refl _) _
  have F1 : Full w1 w.heap.size 114 [.func (.func 100) #[] #[]] := by rw [← hw1]; exact Full.new w 114 _
  have CF := contains_91 (show Itms w1 B A c l from Row.below hA hb1 hB) (Nat.le_trans hB hb1.size) hl ⟨w.heap.size, 0, none⟩ (fun i => !rText i) (fun W hW i hi => each_100 (F1.on hW) i (hok i hi))
  unfold BoolB at CF ⊢
  have e := all_not_any rText l
  rw [e]
  obtain ⟨b, hb⟩ : ∃ b, (l.any fun i => !rText i) = b := ⟨_, rfl⟩
  rw [hb] at CF ⊢
  obtain ⟨n, hn⟩ : ∃ n, l.length = n := ⟨_, rfl⟩
  rw [hn] at CF ⊢
  have CF := Lib.hid CF
  have HB1 := Lib.hid hb1
  clear hb hn e hA hB hl hok F1 hb1
  go_enter Tryz.func56, Tryz.ntmps56
  go_wp2_with (first
    | (go_at_call 90; ((with_reducible refine CF.out.mono ?_); rintro en w2 ⟨rfl, hb2⟩; (have HB2 := Lib.hid (HB1.out.trans (hb2.mono HB1.out.size)))))
    | (fail "arm"))
  go_ret
  exact ⟨rfl, HB2.out⟩
end Go.Proofs.YtcjoiiaankngjaaGreatDoor
/- Right: distinct, of items. -/
namespace Go.Proofs.YtcjoiiaankngjaaGreatDoor
set_option maxRecDepth 100000
open Go.RowKit Go.Maps Go.ChangeMaps Go.MapKept Go.WideShapes
/-- as Names, with the number of the names -/
def NamesZ (w : World) (b n : Nat) (K : Kn) (z : Nat) : Prop := ∃ D : DataW Unit, w.ownsMap Tryz.prog 9 (plainElem Tryz.prog 4) b n D ∧ Tidy D ∧ Maps.size D = z ∧ ∀ s : ByteArray, has D (klS s) = K s.data.toList
theorem NamesZ.made (w : World) : NamesZ (w.alloc (.map #[] 0)) w.heap.size 0 (fun _ => false) 0 :=
  ⟨.map [], ⟨#[], 0, (MapKept.heap_alloc w _).1, ⟨by simp, stamped_empty 0, by simp⟩, Nat.le_refl _, rfl⟩, tidy_empty, rfl, fun _ => rfl⟩
theorem NamesZ.put {w : World} {b n z : Nat} {K : Kn} (h : NamesZ w b n K z) (s : ByteArray) (hs : s.size ≤ maxLen) (hn : n < maxLen) :
    ∃ w', (Instr.mapUpdate 93 (.map (some b)) (.string s) (.bool true)).run Tryz.prog w = .ok () w' ∧ NamesZ w' b (n + 1) (kPut K s.data.toList) (z + if K s.data.toList then 0 else 1) ∧ Turn (fun g => g = b) w w' := by
  obtain ⟨D, hm, hi, hz, hD⟩ := h
  have hk : keyOf Tryz.prog 9 (.string s) = some (klS s) := WideMaps.keyOf_string_mk (P := Tryz.prog) Tryz.underlying9 hs
  obtain ⟨w', hr, h1, h2⟩ := hm.update law9 Tryz.underlying93 hn hk (plainElem_bool (x := true) Tryz.underlying4)
  refine ⟨w', hr, ⟨_, h1, hi.put (klS_key s) _, ?_, fun x => ?_⟩, ⟨h2.os, h2.tape, h2.output, h2.size, fun g hg hne => h2.block g hg (fun e => hne (by injection e))⟩⟩
  · rw [size_put hi, hz, hD s]
    split <;> rfl
  · unfold kPut
    by_cases hx : x = s
    · subst hx
      rw [has_put_same hi.isMap (klS_key x)]; simp
    · have hne : klS x ≠ klS s := fun e => hx (klS_inj e)
      have hd : decide (x.data.toList = s.data.toList) = false := by
        rw [decide_eq_false_iff_not]
        exact fun e => hx (Go.WideShapes.bytes_inj e)
      rw [hd, Bool.false_or, has_put_other hne]
      exact hD x
theorem NamesZ.lt {w : World} {b n z : Nat} {K : Kn} (h : NamesZ w b n K z) : b < w.heap.size := h.choose_spec.1.lt
theorem NamesZ.keep {w w' : World} {b n z : Nat} {K : Kn} (h : NamesZ w b n K z) (hb : w'.heap[b]? = w.heap[b]?) : NamesZ w' b n K z := by
  obtain ⟨D, hm, hD⟩ := h
  exact ⟨D, ownsMap_keep hm hb, hD⟩
theorem NamesZ.on {w w' : World} {b n z : Nat} {K : Kn} (h : NamesZ w b n K z) (hb : Below w.heap.size w w') : NamesZ w' b n K z := h.keep (hb.block b h.lt)
theorem NamesZ.len {w : World} {b n z : Nat} {K : Kn} (h : NamesZ w b n K z) (ty : TypeId) : (Builtin.len_ #[93] ty #[.map (some b)]).run Tryz.prog w = .ok (.int .i64 (z : Int)) w := by
  obtain ⟨D, hm, _, hz, _⟩ := h
  rw [hm.len Tryz.underlying93, hz]
/-- how many of them are new -/
def nNew : Kn → List (List UInt8) → Nat
  | _, [] => 0
  | K, x :: t => (if K x then 0 else 1) + nNew (kPut K x) t
/-- all are new -/
def pDis : Kn → List (List UInt8) → Bool
  | _, [] => true
  | K, x :: t => !K x && pDis (kPut K x) t
theorem nNew_le : ∀ (K : Kn) (l : List (List UInt8)), nNew K l ≤ l.length
  | _, [] => Nat.le_refl _
  | K, x :: t => by
    rw [nNew]
    have := nNew_le (kPut K x) t
    simp only [List.length_cons]
    split <;> omega
theorem nNew_dis : ∀ (K : Kn) (l : List (List UInt8)), decide (nNew K l = l.length) = pDis K l
  | _, [] => rfl
  | K, x :: t => by
    rw [nNew, pDis, ← nNew_dis (kPut K x) t]
    have := nNew_le (kPut K x) t
    cases hK : K x with
    | true =>
      rw [if_pos rfl, decide_eq_false (by simp only [List.length_cons]; omega)]
      rfl
    | false =>
      rw [if_neg (by decide)]
      simp only [List.length_cons, Bool.not_false, Bool.true_and]
      rw [Bool.eq_iff_iff]
      simp
      omega
def kAll (K : Kn) : List (List UInt8) → Kn
  | [] => K
  | x :: t => kAll (kPut K x) t
set_option maxHeartbeats 4000000 in
theorem distinct_items {w : World} {B c : Nat} {A : Option Addr} {l : List Itm} (hA : Itms w B A c l) (hB : B ≤ w.heap.size) (hl : l.length ≤ 17179869184) (hok : ∀ i ∈ l, (Itm.tx i).length ≤ 4294967000) :
    Calls Tryz.prog 58 #[.slice A l.length c, .func (.func 54) #[] #[]] w (BoolB w (pDis (fun _ => false) (l.map Itm.tx))) := by
  unfold BoolB
  obtain ⟨n, hn⟩ : ∃ n, l.length = n := ⟨_, rfl⟩
  obtain ⟨T, hT⟩ : ∃ n, nNew (fun _ => false) (l.map Itm.tx) = n := ⟨_, rfl⟩
  have hTn := nNew_le (fun _ => false) (l.map Itm.tx)
  have hcap := hA.2.1
  rw [← nNew_dis, List.length_map]
  rw [List.length_map] at hTn
  rw [hT] at hTn ⊢
  rw [hn] at hl hcap hTn ⊢
  have HN := Lib.hid (And.intro hn hT)
  have HOK := Lib.hid hok
  obtain ⟨w1, hw1⟩ : ∃ w1, w.alloc (.map #[] 0) = w1 := ⟨_, rfl⟩
  have hb1 : Below w.heap.size w w1 := by rw [← hw1]; exact (Below.refl _ w).alloc (Nat.le_refl _) _
  have N1 : NamesZ w1 w.heap.size 0 (fun _ => false) 0 := by rw [← hw1]; exact NamesZ.made w
  have s1 : w1.heap.size = w.heap.size + 1 := by rw [← hw1]; exact World.size_alloc _ _
  obtain ⟨d, hd⟩ : ∃ d, w.heap.size = d := ⟨_, rfl⟩
  rw [hd] at N1
  have hmk : (Instr.makeMap 93 none).run Tryz.prog w = .ok (.map (some d)) w1 := by rw [run_makeMap, hd, hw1]
  have HS := Lib.hid (show Hid (NamesZ w1 d 0 (fun _ => false) 0) ∧ 0 + nNew (fun _ => false) ((l.drop 0).map Itm.tx) = T ∧ Below w.heap.size w w1 from ⟨Lib.hid N1, by rw [List.drop_zero, hT, Nat.zero_add], hb1⟩)
  clear hn hT hok hb1 N1 s1
  go_enter Tryz.func58, Tryz.ntmps58
  go_upto_region 3 with fail
  clear hmk
  go_loopw [11] (fun i wr => ∃ (k : Nat) (K : Kn) (z : Nat), i = .int .i64 (k : Int) ∧ k ≤ n ∧ Hid (NamesZ wr d k K z) ∧ Hid (z + nNew K ((l.drop k).map Itm.tx) = T) ∧ Below w.heap.size w wr) (fun i _ => n - (intOf i).toNat)
  case atStart => exact ⟨0, fun _ => false, 0, rfl, Nat.zero_le _, HS.out.1, Lib.hid HS.out.2.1, HS.out.2.2⟩
  case round =>
    obtain ⟨k, K, z, rfl, hk, HM, HZ, hBw⟩ := hrel
    have hi0 : (0 : Int) ≤ (k : Int) := Int.natCast_nonneg _
    by_cases hlt : k < n
    · have hi1 : (k : Int) < (n : Int) := by omega
      have hdd : decide ((k : Int) < (n : Int)) = true := by simp; omega
      have hkl : k < l.length := by have := HN.out.1; omega
      obtain ⟨ad, rfl, hadB, x0, x1, x2, x3⟩ := (show Itms wr B A c l from Row.below hA hBw hB).at_ hkl
      have hmem := List.getElem_mem hkl
      have hszk := HOK.out l[k] hmem
      obtain ⟨y0, hy0⟩ : ∃ y, str l[k].tx = y := ⟨_, rfl⟩
      rw [hy0] at x0
      obtain ⟨y1, hy1⟩ : ∃ y, l[k].gl = y := ⟨_, rfl⟩
      rw [hy1] at x1
      obtain ⟨y2, hy2⟩ : ∃ y, str l[k].pl = y := ⟨_, rfl⟩
      rw [hy2] at x2
      obtain ⟨y3, hy3⟩ : ∃ y : Nat, l[k].ln = y := ⟨_, rfl⟩
      rw [hy3] at x3
      have hcap' : n ≤ c := hcap
      obtain ⟨w2, hw2⟩ : ∃ w2, wr.alloc (.cells #[.string y0, .bool y1, .string y2, .int .i64 (y3 : Int)] 52) = w2 := ⟨_, rfl⟩
      have hb2 : Below wr.heap.size wr w2 := by rw [← hw2]; exact (Below.refl _ wr).alloc (Nat.le_refl _) _
      have F2 : Full w2 wr.heap.size 52 [.string y0, .bool y1, .string y2, .int .i64 (y3 : Int)] := by rw [← hw2]; exact Full.new wr 52 _
      obtain ⟨u, hu⟩ : ∃ u, wr.heap.size = u := ⟨_, rfl⟩
      rw [hu] at F2
      have u0 : w2.cell? ⟨u, 0, none⟩ = some (.string y0) := F2.cell 0
      have u1 : w2.cell? ⟨u, 1, none⟩ = some (.bool y1) := F2.cell 1
      have u2 : w2.cell? ⟨u, 2, none⟩ = some (.string y2) := F2.cell 2
      have u3 : w2.cell? ⟨u, 3, none⟩ = some (.int .i64 (y3 : Int)) := F2.cell 3
      obtain ⟨S, hS⟩ : ∃ S, (Itm.tx l[k]) = S := ⟨_, rfl⟩
      have hys : y0.size ≤ maxLen := by
        rw [← hy0, str_size]
        unfold maxLen
        have q := hszk
        first | omega | (change (l[k].1.name).length ≤ _ at q; omega) | (change (l[k].tx).length ≤ _ at q; omega)
      rw [hS] at hszk
      have HYtcjoiiaankngjaaGreatDoor := Lib.hid (fun W => (by
        have z := bare_any l[k] W
        unfold itmV StrB at z
        rw [hy0, hy1, hy2, hy3] at z
        exact z : Calls Tryz.prog 54 #[.agg #[.string y0, .bool y1, .string y2, .int .i64 (y3 : Int)]] W (fun e w' => e = .returned (.string y0) ∧ Below W.heap.size W w')))
      have HUP := Lib.hid (fun (W : World) (hW : Below w2.heap.size w2 W) => (by
        have q := (((HM.out.on hb2).on hW).put y0 hys (by unfold maxLen; omega) : _)
        exact q))
      have hdk : l.drop k = l[k] :: l.drop (k + 1) := List.drop_eq_getElem_cons hkl
      have hZ := HZ.out
      rw [hdk, List.map_cons, nNew] at hZ
      have ey : y0.data.toList = Itm.tx l[k] := by rw [← hy0, str_data]
      have HZ2 := Lib.hid (show (z + if K y0.data.toList then 0 else 1) + nNew (kPut K y0.data.toList) ((l.drop (k + 1)).map Itm.tx) = T by rw [ey]; omega)
      have HB2 := Lib.hid (hBw.trans (hb2.mono hBw.size))
      clear hy0 hy1 hy2 hy3 hS hZ hdk ey hb2 F2 hmem
      go_wp2_with (first
        | (go_at_call 54; ((with_reducible refine (HYtcjoiiaankngjaaGreatDoor.out _).mono ?_); rintro en w3 ⟨rfl, hb3⟩; (obtain ⟨w4, hr4, hm4, hT4⟩ := HUP.out w3 hb3); (have HM4 := Lib.hid hm4); (have HB4 := Lib.hid (show Below w.heap.size w w4 from (HB2.out.trans (hb3.mono HB2.out.size)).trans ⟨hT4.os, hT4.tape, hT4.output, hT4.size, fun g hg => hT4.block g (Nat.lt_of_lt_of_le hg (Nat.le_trans HB2.out.size hb3.size)) (by omega)⟩)); clear hm4 hT4 hb3))
        | (fail "arm"))
      go_roundw
      case rel => exact ⟨k + 1, _, _, by simp, hlt, HM4, HZ2, HB4.out⟩
      case measure => show n - ((k : Int) + 1).toNat < n - (k : Int).toNat; omega
    · obtain rfl : k = n := by omega
      have hdd : decide ((k : Int) < (k : Int)) = false := by simp
      have e : z = T := by
        have q := HZ.out
        rw [List.drop_eq_nil_of_le (by rw [HN.out.1]; exact Nat.le_refl _)] at q
        simpa [nNew] using q
      subst e
      have HB2 := Lib.hid hBw
      have hlen := HM.out.len 3
      have hfin : ((z : Int) == (k : Int)) = decide (z = k) := by rw [Bool.eq_iff_iff]; simp; omega
      go_wp2
      go_ret
      refine ⟨?_, HB2.out⟩
      rw [← hfin]
      rfl
end Go.Proofs.YtcjoiiaankngjaaGreatDoor
/- Right: targets. -/
namespace Go.Proofs.YtcjoiiaankngjaaGreatDoor
set_option maxRecDepth 100000
open Go.RowKit
/-- a target's rows, that are read -/
def TR (w : World) (B : Nat) (p : Tgt × (Nat → Value)) : Prop := ∀ i, i < 4 → ∃ A c, p.2 i = .slice A (p.1.rows i).length c ∧ Itms w B A c (p.1.rows i)
theorem TR.below {w w' : World} {B B' : Nat} {p : Tgt × (Nat → Value)} (h : TR w B p) (hb : Below B' w w') (hB : B ≤ B') : TR w' B p := fun i hi => by
  obtain ⟨A, c, e, q⟩ := h i hi
  exact ⟨A, c, e, Row.below q hb hB⟩
structure TOk (T : Tgt) : Prop where
  name : StrOk T.name
  rows : ∀ i, i < 4 → (T.rows i).length ≤ 17179869184 ∧ ∀ x ∈ T.rows i, ItmOk x
def rKind (T : Tgt) : Bool := decide (1 ≤ T.kind) && decide (T.kind ≤ 4)
def rNums (T : Tgt) : Bool := decide (1 ≤ T.cost) && decide (T.cost ≤ 1000) && decide (0 ≤ T.retry) && decide (T.retry ≤ 5) && (decide (T.retry = 0) || decide (T.kind = 3))
def rTarget (T : Tgt) : Bool := isWordB T.name && rKind T && rNums T && (T.rows 0).all rSource && (T.rows 1).all rDep && (T.rows 2).all rText && (T.rows 3).all rText
theorem name_any62 (y0 : ByteArray) (y1 : Int) (y2 : Nat) (A0 A1 A2 A3 : Option Addr) (n0 c0 n1 c1 n2 c2 n3 c3 : Nat) (y7 y8 : Int) (w : World) : Calls Tryz.prog 62 #[.agg #[.string y0, .int .i64 y1, .int .i64 (y2 : Int), .slice A0 n0 c0, .slice A1 n1 c1, .slice A2 n2 c2, .slice A3 n3 c3, .int .i64 y7, .int .i64 y8]] w (fun e w' => e = .returned (.string y0) ∧ Below w.heap.size w w') := by
  obtain ⟨w1, hw1⟩ : ∃ w1, w.alloc (.cells #[.string y0, .int .i64 y1, .int .i64 (y2 : Int), .slice A0 n0 c0, .slice A1 n1 c1, .slice A2 n2 c2, .slice A3 n3 c3, .int .i64 y7, .int .i64 y8] 50) = w1 := ⟨_, rfl⟩
  have hb1 : Below w.heap.size w w1 := by rw [← hw1]; exact (Below.refl _ w).alloc (Nat.le_refl _) _
  have F1 : Full w1 w.heap.size 50 [.string y0, .int .i64 y1, .int .i64 (y2 : Int), .slice A0 n0 c0, .slice A1 n1 c1, .slice A2 n2 c2, .slice A3 n3 c3, .int .i64 y7, .int .i64 y8] := by rw [← hw1]; exact Full.new w 50 _
  obtain ⟨r, hr⟩ : ∃ r, w.heap.size = r := ⟨_, rfl⟩
  rw [hr] at F1
  have c_0 : w1.cell? ⟨r, 0, none⟩ = some (.string y0) := F1.cell 0
  have c_1 : w1.cell? ⟨r, 1, none⟩ = some (.int .i64 y1) := F1.cell 1
  have c_2 : w1.cell? ⟨r, 2, none⟩ = some (.int .i64 (y2 : Int)) := F1.cell 2
  have c_3 : w1.cell? ⟨r, 3, none⟩ = some (.slice A0 n0 c0) := F1.cell 3
  have c_4 : w1.cell? ⟨r, 4, none⟩ = some (.slice A1 n1 c1) := F1.cell 4
  have c_5 : w1.cell? ⟨r, 5, none⟩ = some (.slice A2 n2 c2) := F1.cell 5
  have c_6 : w1.cell? ⟨r, 6, none⟩ = some (.slice A3 n3 c3) := F1.cell 6
  have c_7 : w1.cell? ⟨r, 7, none⟩ = some (.int .i64 y7) := F1.cell 7
  have c_8 : w1.cell? ⟨r, 8, none⟩ = some (.int .i64 y8) := F1.cell 8
  have HB := Lib.hid hb1
  clear F1 hb1
  go_enter Tryz.func62, Tryz.ntmps62
  go_wp2
  go_ret
  exact ⟨rfl, HB.out⟩
theorem kind_any96 (y0 : ByteArray) (y1 : Int) (y2 : Nat) (A0 A1 A2 A3 : Option Addr) (n0 c0 n1 c1 n2 c2 n3 c3 : Nat) (y7 y8 : Int) (w : World) : Calls Tryz.prog 96 #[.agg #[.string y0, .int .i64 y1, .int .i64 (y2 : Int), .slice A0 n0 c0, .slice A1 n1 c1, .slice A2 n2 c2, .slice A3 n3 c3, .int .i64 y7, .int .i64 y8]] w (BoolB w (decide (1 ≤ y1) && decide (y1 ≤ 4))) := by
  unfold BoolB
  obtain ⟨w1, hw1⟩ : ∃ w1, w.alloc (.cells #[.string y0, .int .i64 y1, .int .i64 (y2 : Int), .slice A0 n0 c0, .slice A1 n1 c1, .slice A2 n2 c2, .slice A3 n3 c3, .int .i64 y7, .int .i64 y8] 50) = w1 := ⟨_, rfl⟩
  have hb1 : Below w.heap.size w w1 := by rw [← hw1]; exact (Below.refl _ w).alloc (Nat.le_refl _) _
  have F1 : Full w1 w.heap.size 50 [.string y0, .int .i64 y1, .int .i64 (y2 : Int), .slice A0 n0 c0, .slice A1 n1 c1, .slice A2 n2 c2, .slice A3 n3 c3, .int .i64 y7, .int .i64 y8] := by rw [← hw1]; exact Full.new w 50 _
  obtain ⟨r, hr⟩ : ∃ r, w.heap.size = r := ⟨_, rfl⟩
  rw [hr] at F1
  have c_0 : w1.cell? ⟨r, 0, none⟩ = some (.string y0) := F1.cell 0
  have c_1 : w1.cell? ⟨r, 1, none⟩ = some (.int .i64 y1) := F1.cell 1
  have c_2 : w1.cell? ⟨r, 2, none⟩ = some (.int .i64 (y2 : Int)) := F1.cell 2
  have c_3 : w1.cell? ⟨r, 3, none⟩ = some (.slice A0 n0 c0) := F1.cell 3
  have c_4 : w1.cell? ⟨r, 4, none⟩ = some (.slice A1 n1 c1) := F1.cell 4
  have c_5 : w1.cell? ⟨r, 5, none⟩ = some (.slice A2 n2 c2) := F1.cell 5
  have c_6 : w1.cell? ⟨r, 6, none⟩ = some (.slice A3 n3 c3) := F1.cell 6
  have c_7 : w1.cell? ⟨r, 7, none⟩ = some (.int .i64 y7) := F1.cell 7
  have c_8 : w1.cell? ⟨r, 8, none⟩ = some (.int .i64 y8) := F1.cell 8
  have HB := Lib.hid hb1
  obtain ⟨a, ha⟩ : ∃ a, decide ((1 : Int) ≤ y1) = a := ⟨_, rfl⟩
  obtain ⟨b, hb⟩ : ∃ a, decide (y1 ≤ (4 : Int)) = a := ⟨_, rfl⟩
  rw [ha, hb]
  clear F1 hb1
  cases a <;> cases b
  all_goals
    go_enter Tryz.func96, Tryz.ntmps96
    go_wp2
    all_goals (go_ret; exact ⟨rfl, HB.out⟩)
set_option maxHeartbeats 1000000 in
theorem nums_any97 (y0 : ByteArray) (y1 : Int) (y2 : Nat) (A0 A1 A2 A3 : Option Addr) (n0 c0 n1 c1 n2 c2 n3 c3 : Nat) (y7 y8 : Int) (w : World) : Calls Tryz.prog 97 #[.agg #[.string y0, .int .i64 y1, .int .i64 (y2 : Int), .slice A0 n0 c0, .slice A1 n1 c1, .slice A2 n2 c2, .slice A3 n3 c3, .int .i64 y7, .int .i64 y8]] w (BoolB w (decide (1 ≤ y7) && decide (y7 ≤ 1000) && decide (0 ≤ y8) && decide (y8 ≤ 5) && (decide (y8 = 0) || decide (y1 = 3)))) := by
  unfold BoolB
  obtain ⟨w1, hw1⟩ : ∃ w1, w.alloc (.cells #[.string y0, .int .i64 y1, .int .i64 (y2 : Int), .slice A0 n0 c0, .slice A1 n1 c1, .slice A2 n2 c2, .slice A3 n3 c3, .int .i64 y7, .int .i64 y8] 50) = w1 := ⟨_, rfl⟩
  have hb1 : Below w.heap.size w w1 := by rw [← hw1]; exact (Below.refl _ w).alloc (Nat.le_refl _) _
  have F1 : Full w1 w.heap.size 50 [.string y0, .int .i64 y1, .int .i64 (y2 : Int), .slice A0 n0 c0, .slice A1 n1 c1, .slice A2 n2 c2, .slice A3 n3 c3, .int .i64 y7, .int .i64 y8] := by rw [← hw1]; exact Full.new w 50 _
  obtain ⟨r, hr⟩ : ∃ r, w.heap.size = r := ⟨_, rfl⟩
  rw [hr] at F1
  have c_0 : w1.cell? ⟨r, 0, none⟩ = some (.string y0) := F1.cell 0
  have c_1 : w1.cell? ⟨r, 1, none⟩ = some (.int .i64 y1) := F1.cell 1
  have c_2 : w1.cell? ⟨r, 2, none⟩ = some (.int .i64 (y2 : Int)) := F1.cell 2
  have c_3 : w1.cell? ⟨r, 3, none⟩ = some (.slice A0 n0 c0) := F1.cell 3
  have c_4 : w1.cell? ⟨r, 4, none⟩ = some (.slice A1 n1 c1) := F1.cell 4
  have c_5 : w1.cell? ⟨r, 5, none⟩ = some (.slice A2 n2 c2) := F1.cell 5
  have c_6 : w1.cell? ⟨r, 6, none⟩ = some (.slice A3 n3 c3) := F1.cell 6
  have c_7 : w1.cell? ⟨r, 7, none⟩ = some (.int .i64 y7) := F1.cell 7
  have c_8 : w1.cell? ⟨r, 8, none⟩ = some (.int .i64 y8) := F1.cell 8
  have HB := Lib.hid hb1
  obtain ⟨b1, h1⟩ : ∃ a, decide ((1 : Int) ≤ y7) = a := ⟨_, rfl⟩
  obtain ⟨b2, h2⟩ : ∃ a, decide (y7 ≤ (1000 : Int)) = a := ⟨_, rfl⟩
  obtain ⟨b3, h3⟩ : ∃ a, decide ((0 : Int) ≤ y8) = a := ⟨_, rfl⟩
  obtain ⟨b4, h4⟩ : ∃ a, decide (y8 ≤ (5 : Int)) = a := ⟨_, rfl⟩
  obtain ⟨b5, h5⟩ : ∃ a, decide (y8 = (0 : Int)) = a := ⟨_, rfl⟩
  obtain ⟨b6, h6⟩ : ∃ a, decide (y1 = (3 : Int)) = a := ⟨_, rfl⟩
  have e5 : (y8 == 0) = b5 := by rw [← h5]; rw [Bool.eq_iff_iff]; simp
  have e6 : (y1 == 3) = b6 := by rw [← h6]; rw [Bool.eq_iff_iff]; simp
  rw [h1, h2, h3, h4, h5, h6]
  clear F1 hb1 h5 h6
  have WALK : ∀ v, v = (b1 && b2 && b3 && b4 && (b5 || b6)) → True := fun _ _ => trivial
  clear WALK
  cases b1 with
  | false => (go_enter Tryz.func97, Tryz.ntmps97; go_wp2; go_ret; exact ⟨by simp, HB.out⟩)
  | true =>
    cases b2 with
    | false => (go_enter Tryz.func97, Tryz.ntmps97; go_wp2; go_ret; exact ⟨by simp, HB.out⟩)
    | true =>
      cases b3 with
      | false => (go_enter Tryz.func97, Tryz.ntmps97; go_wp2; go_ret; exact ⟨by simp, HB.out⟩)
      | true =>
        cases b4 with
        | false => (go_enter Tryz.func97, Tryz.ntmps97; go_wp2; go_ret; exact ⟨by simp, HB.out⟩)
        | true =>
          cases b5 with
          | true => (go_enter Tryz.func97, Tryz.ntmps97; go_wp2; go_ret; exact ⟨by simp, HB.out⟩)
          | false =>
            cases b6 with
            | false => (go_enter Tryz.func97, Tryz.ntmps97; go_wp2; go_ret; exact ⟨by simp, HB.out⟩)
            | true => (go_enter Tryz.func97, Tryz.ntmps97; go_wp2; go_ret; exact ⟨by simp, HB.out⟩)
end Go.Proofs.YtcjoiiaankngjaaGreatDoor
/- Right: rightTarget. -/
namespace Go.Proofs.YtcjoiiaankngjaaGreatDoor
set_option maxRecDepth 100000
open Go.RowKit
set_option maxHeartbeats 8000000 in
theorem target_any60 (y0 : ByteArray) (y1 : Int) (y2 : Nat) (A0 A1 A2 A3 : Option Addr) (n0 c0 n1 c1 n2 c2 n3 c3 : Nat) (y7 y8 : Int) (w : World) (b1 b2 b3 b4 b5 b6 b7 : Bool)
    (g1 : ∀ W, Calls Tryz.prog 95 #[.string y0] W (BoolB W b1)) (g2 : ∀ W, Calls Tryz.prog 96 #[.agg #[.string y0, .int .i64 y1, .int .i64 (y2 : Int), .slice A0 n0 c0, .slice A1 n1 c1, .slice A2 n2 c2, .slice A3 n3 c3, .int .i64 y7, .int .i64 y8]] W (BoolB W b2)) (g3 : ∀ W, Calls Tryz.prog 97 #[.agg #[.string y0, .int .i64 y1, .int .i64 (y2 : Int), .slice A0 n0 c0, .slice A1 n1 c1, .slice A2 n2 c2, .slice A3 n3 c3, .int .i64 y7, .int .i64 y8]] W (BoolB W b3))
    (g4 : ∀ W, Below w.heap.size w W → Calls Tryz.prog 56 #[.slice A0 n0 c0, .func (.func 98) #[] #[]] W (BoolB W b4)) (g5 : ∀ W, Below w.heap.size w W → Calls Tryz.prog 56 #[.slice A1 n1 c1, .func (.func 99) #[] #[]] W (BoolB W b5))
    (g6 : ∀ W, Below w.heap.size w W → Calls Tryz.prog 56 #[.slice A2 n2 c2, .func (.func 100) #[] #[]] W (BoolB W b6)) (g7 : ∀ W, Below w.heap.size w W → Calls Tryz.prog 56 #[.slice A3 n3 c3, .func (.func 100) #[] #[]] W (BoolB W b7)) :
    Calls Tryz.prog 60 #[.agg #[.string y0, .int .i64 y1, .int .i64 (y2 : Int), .slice A0 n0 c0, .slice A1 n1 c1, .slice A2 n2 c2, .slice A3 n3 c3, .int .i64 y7, .int .i64 y8]] w (BoolB w (b1 && b2 && b3 && b4 && b5 && b6 && b7)) := by
  unfold BoolB at g1 g2 g3 g4 g5 g6 g7 ⊢
  obtain ⟨w1, hw1⟩ : ∃ w1, w.alloc (.cells #[.string y0, .int .i64 y1, .int .i64 (y2 : Int), .slice A0 n0 c0, .slice A1 n1 c1, .slice A2 n2 c2, .slice A3 n3 c3, .int .i64 y7, .int .i64 y8] 50) = w1 := ⟨_, rfl⟩
  have hb1 : Below w.heap.size w w1 := by rw [← hw1]; exact (Below.refl _ w).alloc (Nat.le_refl _) _
  have F1 : Full w1 w.heap.size 50 [.string y0, .int .i64 y1, .int .i64 (y2 : Int), .slice A0 n0 c0, .slice A1 n1 c1, .slice A2 n2 c2, .slice A3 n3 c3, .int .i64 y7, .int .i64 y8] := by rw [← hw1]; exact Full.new w 50 _
  obtain ⟨r, hr⟩ : ∃ r, w.heap.size = r := ⟨_, rfl⟩
  rw [hr] at F1
  have c1_0 : w1.cell? ⟨r, 0, none⟩ = some (.string y0) := F1.cell 0
  have c1_1 : w1.cell? ⟨r, 1, none⟩ = some (.int .i64 y1) := F1.cell 1
  have c1_2 : w1.cell? ⟨r, 2, none⟩ = some (.int .i64 (y2 : Int)) := F1.cell 2
  have c1_3 : w1.cell? ⟨r, 3, none⟩ = some (.slice A0 n0 c0) := F1.cell 3
  have c1_4 : w1.cell? ⟨r, 4, none⟩ = some (.slice A1 n1 c1) := F1.cell 4
  have c1_5 : w1.cell? ⟨r, 5, none⟩ = some (.slice A2 n2 c2) := F1.cell 5
  have c1_6 : w1.cell? ⟨r, 6, none⟩ = some (.slice A3 n3 c3) := F1.cell 6
  have c1_7 : w1.cell? ⟨r, 7, none⟩ = some (.int .i64 y7) := F1.cell 7
  have c1_8 : w1.cell? ⟨r, 8, none⟩ = some (.int .i64 y8) := F1.cell 8
  have HB1 := Lib.hid hb1
  have H1 := Lib.hid g1
  have H2 := Lib.hid g2
  have H3 := Lib.hid g3
  have H4 := Lib.hid g4
  have H5 := Lib.hid g5
  have H6 := Lib.hid g6
  have H7 := Lib.hid g7
  clear hb1 g1 g2 g3 g4 g5 g6 g7
  cases b1 with
  | false => (go_enter Tryz.func60, Tryz.ntmps60; go_wp2_with (first | (go_at_call 95; ((with_reducible refine (H1.out w1).mono ?_); rintro en w2 ⟨rfl, hb2⟩; (have F2 := F1.on hb2); (have HB2 := Lib.hid (HB1.out.trans (hb2.mono HB1.out.size))); (have c2_0 : w2.cell? ⟨r, 0, none⟩ = some (.string y0) := F2.cell 0); (have c2_1 : w2.cell? ⟨r, 1, none⟩ = some (.int .i64 y1) := F2.cell 1); (have c2_2 : w2.cell? ⟨r, 2, none⟩ = some (.int .i64 (y2 : Int)) := F2.cell 2); (have c2_3 : w2.cell? ⟨r, 3, none⟩ = some (.slice A0 n0 c0) := F2.cell 3); (have c2_4 : w2.cell? ⟨r, 4, none⟩ = some (.slice A1 n1 c1) := F2.cell 4); (have c2_5 : w2.cell? ⟨r, 5, none⟩ = some (.slice A2 n2 c2) := F2.cell 5); (have c2_6 : w2.cell? ⟨r, 6, none⟩ = some (.slice A3 n3 c3) := F2.cell 6); (have c2_7 : w2.cell? ⟨r, 7, none⟩ = some (.int .i64 y7) := F2.cell 7); (have c2_8 : w2.cell? ⟨r, 8, none⟩ = some (.int .i64 y8) := F2.cell 8))) | (fail "arm")); go_ret; exact ⟨rfl, HB2.out⟩)
  | true =>
    cases b2 with
    | false => (go_enter Tryz.func60, Tryz.ntmps60; go_wp2_with (first | (go_at_call 95; ((with_reducible refine (H1.out w1).mono ?_); rintro en w2 ⟨rfl, hb2⟩; (have F2 := F1.on hb2); (have HB2 := Lib.hid (HB1.out.trans (hb2.mono HB1.out.size))); (have c2_0 : w2.cell? ⟨r, 0, none⟩ = some (.string y0) := F2.cell 0); (have c2_1 : w2.cell? ⟨r, 1, none⟩ = some (.int .i64 y1) := F2.cell 1); (have c2_2 : w2.cell? ⟨r, 2, none⟩ = some (.int .i64 (y2 : Int)) := F2.cell 2); (have c2_3 : w2.cell? ⟨r, 3, none⟩ = some (.slice A0 n0 c0) := F2.cell 3); (have c2_4 : w2.cell? ⟨r, 4, none⟩ = some (.slice A1 n1 c1) := F2.cell 4); (have c2_5 : w2.cell? ⟨r, 5, none⟩ = some (.slice A2 n2 c2) := F2.cell 5); (have c2_6 : w2.cell? ⟨r, 6, none⟩ = some (.slice A3 n3 c3) := F2.cell 6); (have c2_7 : w2.cell? ⟨r, 7, none⟩ = some (.int .i64 y7) := F2.cell 7); (have c2_8 : w2.cell? ⟨r, 8, none⟩ = some (.int .i64 y8) := F2.cell 8))) | (go_at_call 96; ((with_reducible refine (H2.out w2).mono ?_); rintro en w3 ⟨rfl, hb3⟩; (have F3 := F2.on hb3); (have HB3 := Lib.hid (HB2.out.trans (hb3.mono HB2.out.size))); (have c3_0 : w3.cell? ⟨r, 0, none⟩ = some (.string y0) := F3.cell 0); (have c3_1 : w3.cell? ⟨r, 1, none⟩ = some (.int .i64 y1) := F3.cell 1); (have c3_2 : w3.cell? ⟨r, 2, none⟩ = some (.int .i64 (y2 : Int)) := F3.cell 2); (have c3_3 : w3.cell? ⟨r, 3, none⟩ = some (.slice A0 n0 c0) := F3.cell 3); (have c3_4 : w3.cell? ⟨r, 4, none⟩ = some (.slice A1 n1 c1) := F3.cell 4); (have c3_5 : w3.cell? ⟨r, 5, none⟩ = some (.slice A2 n2 c2) := F3.cell 5); (have c3_6 : w3.cell? ⟨r, 6, none⟩ = some (.slice A3 n3 c3) := F3.cell 6); (have c3_7 : w3.cell? ⟨r, 7, none⟩ = some (.int .i64 y7) := F3.cell 7); (have c3_8 : w3.cell? ⟨r, 8, none⟩ = some (.int .i64 y8) := F3.cell 8))) | (fail "arm")); go_ret; exact ⟨rfl, HB3.out⟩)
    | true =>
      cases b3 with
      | false => (go_enter Tryz.func60, Tryz.ntmps60; go_wp2_with (first | (go_at_call 95; ((with_reducible refine (H1.out w1).mono ?_); rintro en w2 ⟨rfl, hb2⟩; (have F2 := F1.on hb2); (have HB2 := Lib.hid (HB1.out.trans (hb2.mono HB1.out.size))); (have c2_0 : w2.cell? ⟨r, 0, none⟩ = some (.string y0) := F2.cell 0); (have c2_1 : w2.cell? ⟨r, 1, none⟩ = some (.int .i64 y1) := F2.cell 1); (have c2_2 : w2.cell? ⟨r, 2, none⟩ = some (.int .i64 (y2 : Int)) := F2.cell 2); (have c2_3 : w2.cell? ⟨r, 3, none⟩ = some (.slice A0 n0 c0) := F2.cell 3); (have c2_4 : w2.cell? ⟨r, 4, none⟩ = some (.slice A1 n1 c1) := F2.cell 4); (have c2_5 : w2.cell? ⟨r, 5, none⟩ = some (.slice A2 n2 c2) := F2.cell 5); (have c2_6 : w2.cell? ⟨r, 6, none⟩ = some (.slice A3 n3 c3) := F2.cell 6); (have c2_7 : w2.cell? ⟨r, 7, none⟩ = some (.int .i64 y7) := F2.cell 7); (have c2_8 : w2.cell? ⟨r, 8, none⟩ = some (.int .i64 y8) := F2.cell 8))) | (go_at_call 96; ((with_reducible refine (H2.out w2).mono ?_); rintro en w3 ⟨rfl, hb3⟩; (have F3 := F2.on hb3); (have HB3 := Lib.hid (HB2.out.trans (hb3.mono HB2.out.size))); (have c3_0 : w3.cell? ⟨r, 0, none⟩ = some (.string y0) := F3.cell 0); (have c3_1 : w3.cell? ⟨r, 1, none⟩ = some (.int .i64 y1) := F3.cell 1); (have c3_2 : w3.cell? ⟨r, 2, none⟩ = some (.int .i64 (y2 : Int)) := F3.cell 2); (have c3_3 : w3.cell? ⟨r, 3, none⟩ = some (.slice A0 n0 c0) := F3.cell 3); (have c3_4 : w3.cell? ⟨r, 4, none⟩ = some (.slice A1 n1 c1) := F3.cell 4); (have c3_5 : w3.cell? ⟨r, 5, none⟩ = some (.slice A2 n2 c2) := F3.cell 5); (have c3_6 : w3.cell? ⟨r, 6, none⟩ = some (.slice A3 n3 c3) := F3.cell 6); (have c3_7 : w3.cell? ⟨r, 7, none⟩ = some (.int .i64 y7) := F3.cell 7); (have c3_8 : w3.cell? ⟨r, 8, none⟩ = some (.int .i64 y8) := F3.cell 8))) | (go_at_call 97; ((with_reducible refine (H3.out w3).mono ?_); rintro en w4 ⟨rfl, hb4⟩; (have F4 := F3.on hb4); (have HB4 := Lib.hid (HB3.out.trans (hb4.mono HB3.out.size))); (have c4_0 : w4.cell? ⟨r, 0, none⟩ = some (.string y0) := F4.cell 0); (have c4_1 : w4.cell? ⟨r, 1, none⟩ = some (.int .i64 y1) := F4.cell 1); (have c4_2 : w4.cell? ⟨r, 2, none⟩ = some (.int .i64 (y2 : Int)) := F4.cell 2); (have c4_3 : w4.cell? ⟨r, 3, none⟩ = some (.slice A0 n0 c0) := F4.cell 3); (have c4_4 : w4.cell? ⟨r, 4, none⟩ = some (.slice A1 n1 c1) := F4.cell 4); (have c4_5 : w4.cell? ⟨r, 5, none⟩ = some (.slice A2 n2 c2) := F4.cell 5); (have c4_6 : w4.cell? ⟨r, 6, none⟩ = some (.slice A3 n3 c3) := F4.cell 6); (have c4_7 : w4.cell? ⟨r, 7, none⟩ = some (.int .i64 y7) := F4.cell 7); (have c4_8 : w4.cell? ⟨r, 8, none⟩ = some (.int .i64 y8) := F4.cell 8))) | (fail "arm")); go_ret; exact ⟨rfl, HB4.out⟩)
      | true =>
        cases b4 with
        | false => (go_enter Tryz.func60, Tryz.ntmps60; go_wp2_with (first | (go_at_call 95; ((with_reducible refine (H1.out w1).mono ?_); rintro en w2 ⟨rfl, hb2⟩; (have F2 := F1.on hb2); (have HB2 := Lib.hid (HB1.out.trans (hb2.mono HB1.out.size))); (have c2_0 : w2.cell? ⟨r, 0, none⟩ = some (.string y0) := F2.cell 0); (have c2_1 : w2.cell? ⟨r, 1, none⟩ = some (.int .i64 y1) := F2.cell 1); (have c2_2 : w2.cell? ⟨r, 2, none⟩ = some (.int .i64 (y2 : Int)) := F2.cell 2); (have c2_3 : w2.cell? ⟨r, 3, none⟩ = some (.slice A0 n0 c0) := F2.cell 3); (have c2_4 : w2.cell? ⟨r, 4, none⟩ = some (.slice A1 n1 c1) := F2.cell 4); (have c2_5 : w2.cell? ⟨r, 5, none⟩ = some (.slice A2 n2 c2) := F2.cell 5); (have c2_6 : w2.cell? ⟨r, 6, none⟩ = some (.slice A3 n3 c3) := F2.cell 6); (have c2_7 : w2.cell? ⟨r, 7, none⟩ = some (.int .i64 y7) := F2.cell 7); (have c2_8 : w2.cell? ⟨r, 8, none⟩ = some (.int .i64 y8) := F2.cell 8))) | (go_at_call 96; ((with_reducible refine (H2.out w2).mono ?_); rintro en w3 ⟨rfl, hb3⟩; (have F3 := F2.on hb3); (have HB3 := Lib.hid (HB2.out.trans (hb3.mono HB2.out.size))); (have c3_0 : w3.cell? ⟨r, 0, none⟩ = some (.string y0) := F3.cell 0); (have c3_1 : w3.cell? ⟨r, 1, none⟩ = some (.int .i64 y1) := F3.cell 1); (have c3_2 : w3.cell? ⟨r, 2, none⟩ = some (.int .i64 (y2 : Int)) := F3.cell 2); (have c3_3 : w3.cell? ⟨r, 3, none⟩ = some (.slice A0 n0 c0) := F3.cell 3); (have c3_4 : w3.cell? ⟨r, 4, none⟩ = some (.slice A1 n1 c1) := F3.cell 4); (have c3_5 : w3.cell? ⟨r, 5, none⟩ = some (.slice A2 n2 c2) := F3.cell 5); (have c3_6 : w3.cell? ⟨r, 6, none⟩ = some (.slice A3 n3 c3) := F3.cell 6); (have c3_7 : w3.cell? ⟨r, 7, none⟩ = some (.int .i64 y7) := F3.cell 7); (have c3_8 : w3.cell? ⟨r, 8, none⟩ = some (.int .i64 y8) := F3.cell 8))) | (go_at_call 97; ((with_reducible refine (H3.out w3).mono ?_); rintro en w4 ⟨rfl, hb4⟩; (have F4 := F3.on hb4); (have HB4 := Lib.hid (HB3.out.trans (hb4.mono HB3.out.size))); (have c4_0 : w4.cell? ⟨r, 0, none⟩ = some (.string y0) := F4.cell 0); (have c4_1 : w4.cell? ⟨r, 1, none⟩ = some (.int .i64 y1) := F4.cell 1); (have c4_2 : w4.cell? ⟨r, 2, none⟩ = some (.int .i64 (y2 : Int)) := F4.cell 2); (have c4_3 : w4.cell? ⟨r, 3, none⟩ = some (.slice A0 n0 c0) := F4.cell 3); (have c4_4 : w4.cell? ⟨r, 4, none⟩ = some (.slice A1 n1 c1) := F4.cell 4); (have c4_5 : w4.cell? ⟨r, 5, none⟩ = some (.slice A2 n2 c2) := F4.cell 5); (have c4_6 : w4.cell? ⟨r, 6, none⟩ = some (.slice A3 n3 c3) := F4.cell 6); (have c4_7 : w4.cell? ⟨r, 7, none⟩ = some (.int .i64 y7) := F4.cell 7); (have c4_8 : w4.cell? ⟨r, 8, none⟩ = some (.int .i64 y8) := F4.cell 8))) | (go_at_call 56; ((with_reducible refine (H4.out w4 HB4.out).mono ?_); rintro en w5 ⟨rfl, hb5⟩; (have F5 := F4.on hb5); (have HB5 := Lib.hid (HB4.out.trans (hb5.mono HB4.out.size))); (have c5_0 : w5.cell? ⟨r, 0, none⟩ = some (.string y0) := F5.cell 0); (have c5_1 : w5.cell? ⟨r, 1, none⟩ = some (.int .i64 y1) := F5.cell 1); (have c5_2 : w5.cell? ⟨r, 2, none⟩ = some (.int .i64 (y2 : Int)) := F5.cell 2); (have c5_3 : w5.cell? ⟨r, 3, none⟩ = some (.slice A0 n0 c0) := F5.cell 3); (have c5_4 : w5.cell? ⟨r, 4, none⟩ = some (.slice A1 n1 c1) := F5.cell 4); (have c5_5 : w5.cell? ⟨r, 5, none⟩ = some (.slice A2 n2 c2) := F5.cell 5); (have c5_6 : w5.cell? ⟨r, 6, none⟩ = some (.slice A3 n3 c3) := F5.cell 6); (have c5_7 : w5.cell? ⟨r, 7, none⟩ = some (.int .i64 y7) := F5.cell 7); (have c5_8 : w5.cell? ⟨r, 8, none⟩ = some (.int .i64 y8) := F5.cell 8))) | (fail "arm")); go_ret; exact ⟨rfl, HB5.out⟩)
        | true =>
          cases b5 with
          | false => (go_enter Tryz.func60, Tryz.ntmps60; go_wp2_with (first | (go_at_call 95; ((with_reducible refine (H1.out w1).mono ?_); rintro en w2 ⟨rfl, hb2⟩; (have F2 := F1.on hb2); (have HB2 := Lib.hid (HB1.out.trans (hb2.mono HB1.out.size))); (have c2_0 : w2.cell? ⟨r, 0, none⟩ = some (.string y0) := F2.cell 0); (have c2_1 : w2.cell? ⟨r, 1, none⟩ = some (.int .i64 y1) := F2.cell 1); (have c2_2 : w2.cell? ⟨r, 2, none⟩ = some (.int .i64 (y2 : Int)) := F2.cell 2); (have c2_3 : w2.cell? ⟨r, 3, none⟩ = some (.slice A0 n0 c0) := F2.cell 3); (have c2_4 : w2.cell? ⟨r, 4, none⟩ = some (.slice A1 n1 c1) := F2.cell 4); (have c2_5 : w2.cell? ⟨r, 5, none⟩ = some (.slice A2 n2 c2) := F2.cell 5); (have c2_6 : w2.cell? ⟨r, 6, none⟩ = some (.slice A3 n3 c3) := F2.cell 6); (have c2_7 : w2.cell? ⟨r, 7, none⟩ = some (.int .i64 y7) := F2.cell 7); (have c2_8 : w2.cell? ⟨r, 8, none⟩ = some (.int .i64 y8) := F2.cell 8))) | (go_at_call 96; ((with_reducible refine (H2.out w2).mono ?_); rintro en w3 ⟨rfl, hb3⟩; (have F3 := F2.on hb3); (have HB3 := Lib.hid (HB2.out.trans (hb3.mono HB2.out.size))); (have c3_0 : w3.cell? ⟨r, 0, none⟩ = some (.string y0) := F3.cell 0); (have c3_1 : w3.cell? ⟨r, 1, none⟩ = some (.int .i64 y1) := F3.cell 1); (have c3_2 : w3.cell? ⟨r, 2, none⟩ = some (.int .i64 (y2 : Int)) := F3.cell 2); (have c3_3 : w3.cell? ⟨r, 3, none⟩ = some (.slice A0 n0 c0) := F3.cell 3); (have c3_4 : w3.cell? ⟨r, 4, none⟩ = some (.slice A1 n1 c1) := F3.cell 4); (have c3_5 : w3.cell? ⟨r, 5, none⟩ = some (.slice A2 n2 c2) := F3.cell 5); (have c3_6 : w3.cell? ⟨r, 6, none⟩ = some (.slice A3 n3 c3) := F3.cell 6); (have c3_7 : w3.cell? ⟨r, 7, none⟩ = some (.int .i64 y7) := F3.cell 7); (have c3_8 : w3.cell? ⟨r, 8, none⟩ = some (.int .i64 y8) := F3.cell 8))) | (go_at_call 97; ((with_reducible refine (H3.out w3).mono ?_); rintro en w4 ⟨rfl, hb4⟩; (have F4 := F3.on hb4); (have HB4 := Lib.hid (HB3.out.trans (hb4.mono HB3.out.size))); (have c4_0 : w4.cell? ⟨r, 0, none⟩ = some (.string y0) := F4.cell 0); (have c4_1 : w4.cell? ⟨r, 1, none⟩ = some (.int .i64 y1) := F4.cell 1); (have c4_2 : w4.cell? ⟨r, 2, none⟩ = some (.int .i64 (y2 : Int)) := F4.cell 2); (have c4_3 : w4.cell? ⟨r, 3, none⟩ = some (.slice A0 n0 c0) := F4.cell 3); (have c4_4 : w4.cell? ⟨r, 4, none⟩ = some (.slice A1 n1 c1) := F4.cell 4); (have c4_5 : w4.cell? ⟨r, 5, none⟩ = some (.slice A2 n2 c2) := F4.cell 5); (have c4_6 : w4.cell? ⟨r, 6, none⟩ = some (.slice A3 n3 c3) := F4.cell 6); (have c4_7 : w4.cell? ⟨r, 7, none⟩ = some (.int .i64 y7) := F4.cell 7); (have c4_8 : w4.cell? ⟨r, 8, none⟩ = some (.int .i64 y8) := F4.cell 8))) | (go_at_call 56; ((with_reducible refine (H4.out w4 HB4.out).mono ?_); rintro en w5 ⟨rfl, hb5⟩; (have F5 := F4.on hb5); (have HB5 := Lib.hid (HB4.out.trans (hb5.mono HB4.out.size))); (have c5_0 : w5.cell? ⟨r, 0, none⟩ = some (.string y0) := F5.cell 0); (have c5_1 : w5.cell? ⟨r, 1, none⟩ = some (.int .i64 y1) := F5.cell 1); (have c5_2 : w5.cell? ⟨r, 2, none⟩ = some (.int .i64 (y2 : Int)) := F5.cell 2); (have c5_3 : w5.cell? ⟨r, 3, none⟩ = some (.slice A0 n0 c0) := F5.cell 3); (have c5_4 : w5.cell? ⟨r, 4, none⟩ = some (.slice A1 n1 c1) := F5.cell 4); (have c5_5 : w5.cell? ⟨r, 5, none⟩ = some (.slice A2 n2 c2) := F5.cell 5); (have c5_6 : w5.cell? ⟨r, 6, none⟩ = some (.slice A3 n3 c3) := F5.cell 6); (have c5_7 : w5.cell? ⟨r, 7, none⟩ = some (.int .i64 y7) := F5.cell 7); (have c5_8 : w5.cell? ⟨r, 8, none⟩ = some (.int .i64 y8) := F5.cell 8))) | (go_at_call 56; ((with_reducible refine (H5.out w5 HB5.out).mono ?_); rintro en w6 ⟨rfl, hb6⟩; (have F6 := F5.on hb6); (have HB6 := Lib.hid (HB5.out.trans (hb6.mono HB5.out.size))); (have c6_0 : w6.cell? ⟨r, 0, none⟩ = some (.string y0) := F6.cell 0); (have c6_1 : w6.cell? ⟨r, 1, none⟩ = some (.int .i64 y1) := F6.cell 1); (have c6_2 : w6.cell? ⟨r, 2, none⟩ = some (.int .i64 (y2 : Int)) := F6.cell 2); (have c6_3 : w6.cell? ⟨r, 3, none⟩ = some (.slice A0 n0 c0) := F6.cell 3); (have c6_4 : w6.cell? ⟨r, 4, none⟩ = some (.slice A1 n1 c1) := F6.cell 4); (have c6_5 : w6.cell? ⟨r, 5, none⟩ = some (.slice A2 n2 c2) := F6.cell 5); (have c6_6 : w6.cell? ⟨r, 6, none⟩ = some (.slice A3 n3 c3) := F6.cell 6); (have c6_7 : w6.cell? ⟨r, 7, none⟩ = some (.int .i64 y7) := F6.cell 7); (have c6_8 : w6.cell? ⟨r, 8, none⟩ = some (.int .i64 y8) := F6.cell 8))) | (fail "arm")); go_ret; exact ⟨rfl, HB6.out⟩)
          | true =>
            cases b6 with
            | false => (go_enter Tryz.func60, Tryz.ntmps60; go_wp2_with (first | (go_at_call 95; ((with_reducible refine (H1.out w1).mono ?_); rintro en w2 ⟨rfl, hb2⟩; (have F2 := F1.on hb2); (have HB2 := Lib.hid (HB1.out.trans (hb2.mono HB1.out.size))); (have c2_0 : w2.cell? ⟨r, 0, none⟩ = some (.string y0) := F2.cell 0); (have c2_1 : w2.cell? ⟨r, 1, none⟩ = some (.int .i64 y1) := F2.cell 1); (have c2_2 : w2.cell? ⟨r, 2, none⟩ = some (.int .i64 (y2 : Int)) := F2.cell 2); (have c2_3 : w2.cell? ⟨r, 3, none⟩ = some (.slice A0 n0 c0) := F2.cell 3); (have c2_4 : w2.cell? ⟨r, 4, none⟩ = some (.slice A1 n1 c1) := F2.cell 4); (have c2_5 : w2.cell? ⟨r, 5, none⟩ = some (.slice A2 n2 c2) := F2.cell 5); (have c2_6 : w2.cell? ⟨r, 6, none⟩ = some (.slice A3 n3 c3) := F2.cell 6); (have c2_7 : w2.cell? ⟨r, 7, none⟩ = some (.int .i64 y7) := F2.cell 7); (have c2_8 : w2.cell? ⟨r, 8, none⟩ = some (.int .i64 y8) := F2.cell 8))) | (go_at_call 96; ((with_reducible refine (H2.out w2).mono ?_); rintro en w3 ⟨rfl, hb3⟩; (have F3 := F2.on hb3); (have HB3 := Lib.hid (HB2.out.trans (hb3.mono HB2.out.size))); (have c3_0 : w3.cell? ⟨r, 0, none⟩ = some (.string y0) := F3.cell 0); (have c3_1 : w3.cell? ⟨r, 1, none⟩ = some (.int .i64 y1) := F3.cell 1); (have c3_2 : w3.cell? ⟨r, 2, none⟩ = some (.int .i64 (y2 : Int)) := F3.cell 2); (have c3_3 : w3.cell? ⟨r, 3, none⟩ = some (.slice A0 n0 c0) := F3.cell 3); (have c3_4 : w3.cell? ⟨r, 4, none⟩ = some (.slice A1 n1 c1) := F3.cell 4); (have c3_5 : w3.cell? ⟨r, 5, none⟩ = some (.slice A2 n2 c2) := F3.cell 5); (have c3_6 : w3.cell? ⟨r, 6, none⟩ = some (.slice A3 n3 c3) := F3.cell 6); (have c3_7 : w3.cell? ⟨r, 7, none⟩ = some (.int .i64 y7) := F3.cell 7); (have c3_8 : w3.cell? ⟨r, 8, none⟩ = some (.int .i64 y8) := F3.cell 8))) | (go_at_call 97; ((with_reducible refine (H3.out w3).mono ?_); rintro en w4 ⟨rfl, hb4⟩; (have F4 := F3.on hb4); (have HB4 := Lib.hid (HB3.out.trans (hb4.mono HB3.out.size))); (have c4_0 : w4.cell? ⟨r, 0, none⟩ = some (.string y0) := F4.cell 0); (have c4_1 : w4.cell? ⟨r, 1, none⟩ = some (.int .i64 y1) := F4.cell 1); (have c4_2 : w4.cell? ⟨r, 2, none⟩ = some (.int .i64 (y2 : Int)) := F4.cell 2); (have c4_3 : w4.cell? ⟨r, 3, none⟩ = some (.slice A0 n0 c0) := F4.cell 3); (have c4_4 : w4.cell? ⟨r, 4, none⟩ = some (.slice A1 n1 c1) := F4.cell 4); (have c4_5 : w4.cell? ⟨r, 5, none⟩ = some (.slice A2 n2 c2) := F4.cell 5); (have c4_6 : w4.cell? ⟨r, 6, none⟩ = some (.slice A3 n3 c3) := F4.cell 6); (have c4_7 : w4.cell? ⟨r, 7, none⟩ = some (.int .i64 y7) := F4.cell 7); (have c4_8 : w4.cell? ⟨r, 8, none⟩ = some (.int .i64 y8) := F4.cell 8))) | (go_at_call 56; ((with_reducible refine (H4.out w4 HB4.out).mono ?_); rintro en w5 ⟨rfl, hb5⟩; (have F5 := F4.on hb5); (have HB5 := Lib.hid (HB4.out.trans (hb5.mono HB4.out.size))); (have c5_0 : w5.cell? ⟨r, 0, none⟩ = some (.string y0) := F5.cell 0); (have c5_1 : w5.cell? ⟨r, 1, none⟩ = some (.int .i64 y1) := F5.cell 1); (have c5_2 : w5.cell? ⟨r, 2, none⟩ = some (.int .i64 (y2 : Int)) := F5.cell 2); (have c5_3 : w5.cell? ⟨r, 3, none⟩ = some (.slice A0 n0 c0) := F5.cell 3); (have c5_4 : w5.cell? ⟨r, 4, none⟩ = some (.slice A1 n1 c1) := F5.cell 4); (have c5_5 : w5.cell? ⟨r, 5, none⟩ = some (.slice A2 n2 c2) := F5.cell 5); (have c5_6 : w5.cell? ⟨r, 6, none⟩ = some (.slice A3 n3 c3) := F5.cell 6); (have c5_7 : w5.cell? ⟨r, 7, none⟩ = some (.int .i64 y7) := F5.cell 7); (have c5_8 : w5.cell? ⟨r, 8, none⟩ = some (.int .i64 y8) := F5.cell 8))) | (go_at_call 56; ((with_reducible refine (H5.out w5 HB5.out).mono ?_); rintro en w6 ⟨rfl, hb6⟩; (have F6 := F5.on hb6); (have HB6 := Lib.hid (HB5.out.trans (hb6.mono HB5.out.size))); (have c6_0 : w6.cell? ⟨r, 0, none⟩ = some (.string y0) := F6.cell 0); (have c6_1 : w6.cell? ⟨r, 1, none⟩ = some (.int .i64 y1) := F6.cell 1); (have c6_2 : w6.cell? ⟨r, 2, none⟩ = some (.int .i64 (y2 : Int)) := F6.cell 2); (have c6_3 : w6.cell? ⟨r, 3, none⟩ = some (.slice A0 n0 c0) := F6.cell 3); (have c6_4 : w6.cell? ⟨r, 4, none⟩ = some (.slice A1 n1 c1) := F6.cell 4); (have c6_5 : w6.cell? ⟨r, 5, none⟩ = some (.slice A2 n2 c2) := F6.cell 5); (have c6_6 : w6.cell? ⟨r, 6, none⟩ = some (.slice A3 n3 c3) := F6.cell 6); (have c6_7 : w6.cell? ⟨r, 7, none⟩ = some (.int .i64 y7) := F6.cell 7); (have c6_8 : w6.cell? ⟨r, 8, none⟩ = some (.int .i64 y8) := F6.cell 8))) | (go_at_call 56; ((with_reducible refine (H6.out w6 HB6.out).mono ?_); rintro en w7 ⟨rfl, hb7⟩; (have F7 := F6.on hb7); (have HB7 := Lib.hid (HB6.out.trans (hb7.mono HB6.out.size))); (have c7_0 : w7.cell? ⟨r, 0, none⟩ = some (.string y0) := F7.cell 0); (have c7_1 : w7.cell? ⟨r, 1, none⟩ = some (.int .i64 y1) := F7.cell 1); (have c7_2 : w7.cell? ⟨r, 2, none⟩ = some (.int .i64 (y2 : Int)) := F7.cell 2); (have c7_3 : w7.cell? ⟨r, 3, none⟩ = some (.slice A0 n0 c0) := F7.cell 3); (have c7_4 : w7.cell? ⟨r, 4, none⟩ = some (.slice A1 n1 c1) := F7.cell 4); (have c7_5 : w7.cell? ⟨r, 5, none⟩ = some (.slice A2 n2 c2) := F7.cell 5); (have c7_6 : w7.cell? ⟨r, 6, none⟩ = some (.slice A3 n3 c3) := F7.cell 6); (have c7_7 : w7.cell? ⟨r, 7, none⟩ = some (.int .i64 y7) := F7.cell 7); (have c7_8 : w7.cell? ⟨r, 8, none⟩ = some (.int .i64 y8) := F7.cell 8))) | (fail "arm")); go_ret; exact ⟨rfl, HB7.out⟩)
            | true =>
              cases b7 with
              | false => (go_enter Tryz.func60, Tryz.ntmps60; go_wp2_with (first | (go_at_call 95; ((with_reducible refine (H1.out w1).mono ?_); rintro en w2 ⟨rfl, hb2⟩; (have F2 := F1.on hb2); (have HB2 := Lib.hid (HB1.out.trans (hb2.mono HB1.out.size))); (have c2_0 : w2.cell? ⟨r, 0, none⟩ = some (.string y0) := F2.cell 0); (have c2_1 : w2.cell? ⟨r, 1, none⟩ = some (.int .i64 y1) := F2.cell 1); (have c2_2 : w2.cell? ⟨r, 2, none⟩ = some (.int .i64 (y2 : Int)) := F2.cell 2); (have c2_3 : w2.cell? ⟨r, 3, none⟩ = some (.slice A0 n0 c0) := F2.cell 3); (have c2_4 : w2.cell? ⟨r, 4, none⟩ = some (.slice A1 n1 c1) := F2.cell 4); (have c2_5 : w2.cell? ⟨r, 5, none⟩ = some (.slice A2 n2 c2) := F2.cell 5); (have c2_6 : w2.cell? ⟨r, 6, none⟩ = some (.slice A3 n3 c3) := F2.cell 6); (have c2_7 : w2.cell? ⟨r, 7, none⟩ = some (.int .i64 y7) := F2.cell 7); (have c2_8 : w2.cell? ⟨r, 8, none⟩ = some (.int .i64 y8) := F2.cell 8))) | (go_at_call 96; ((with_reducible refine (H2.out w2).mono ?_); rintro en w3 ⟨rfl, hb3⟩; (have F3 := F2.on hb3); (have HB3 := Lib.hid (HB2.out.trans (hb3.mono HB2.out.size))); (have c3_0 : w3.cell? ⟨r, 0, none⟩ = some (.string y0) := F3.cell 0); (have c3_1 : w3.cell? ⟨r, 1, none⟩ = some (.int .i64 y1) := F3.cell 1); (have c3_2 : w3.cell? ⟨r, 2, none⟩ = some (.int .i64 (y2 : Int)) := F3.cell 2); (have c3_3 : w3.cell? ⟨r, 3, none⟩ = some (.slice A0 n0 c0) := F3.cell 3); (have c3_4 : w3.cell? ⟨r, 4, none⟩ = some (.slice A1 n1 c1) := F3.cell 4); (have c3_5 : w3.cell? ⟨r, 5, none⟩ = some (.slice A2 n2 c2) := F3.cell 5); (have c3_6 : w3.cell? ⟨r, 6, none⟩ = some (.slice A3 n3 c3) := F3.cell 6); (have c3_7 : w3.cell? ⟨r, 7, none⟩ = some (.int .i64 y7) := F3.cell 7); (have c3_8 : w3.cell? ⟨r, 8, none⟩ = some (.int .i64 y8) := F3.cell 8))) | (go_at_call 97; ((with_reducible refine (H3.out w3).mono ?_); rintro en w4 ⟨rfl, hb4⟩; (have F4 := F3.on hb4); (have HB4 := Lib.hid (HB3.out.trans (hb4.mono HB3.out.size))); (have c4_0 : w4.cell? ⟨r, 0, none⟩ = some (.string y0) := F4.cell 0); (have c4_1 : w4.cell? ⟨r, 1, none⟩ = some (.int .i64 y1) := F4.cell 1); (have c4_2 : w4.cell? ⟨r, 2, none⟩ = some (.int .i64 (y2 : Int)) := F4.cell 2); (have c4_3 : w4.cell? ⟨r, 3, none⟩ = some (.slice A0 n0 c0) := F4.cell 3); (have c4_4 : w4.cell? ⟨r, 4, none⟩ = some (.slice A1 n1 c1) := F4.cell 4); (have c4_5 : w4.cell? ⟨r, 5, none⟩ = some (.slice A2 n2 c2) := F4.cell 5); (have c4_6 : w4.cell? ⟨r, 6, none⟩ = some (.slice A3 n3 c3) := F4.cell 6); (have c4_7 : w4.cell? ⟨r, 7, none⟩ = some (.int .i64 y7) := F4.cell 7); (have c4_8 : w4.cell? ⟨r, 8, none⟩ = some (.int .i64 y8) := F4.cell 8))) | (go_at_call 56; ((with_reducible refine (H4.out w4 HB4.out).mono ?_); rintro en w5 ⟨rfl, hb5⟩; (have F5 := F4.on hb5); (have HB5 := Lib.hid (HB4.out.trans (hb5.mono HB4.out.size))); (have c5_0 : w5.cell? ⟨r, 0, none⟩ = some (.string y0) := F5.cell 0); (have c5_1 : w5.cell? ⟨r, 1, none⟩ = some (.int .i64 y1) := F5.cell 1); (have c5_2 : w5.cell? ⟨r, 2, none⟩ = some (.int .i64 (y2 : Int)) := F5.cell 2); (have c5_3 : w5.cell? ⟨r, 3, none⟩ = some (.slice A0 n0 c0) := F5.cell 3); (have c5_4 : w5.cell? ⟨r, 4, none⟩ = some (.slice A1 n1 c1) := F5.cell 4); (have c5_5 : w5.cell? ⟨r, 5, none⟩ = some (.slice A2 n2 c2) := F5.cell 5); (have c5_6 : w5.cell? ⟨r, 6, none⟩ = some (.slice A3 n3 c3) := F5.cell 6); (have c5_7 : w5.cell? ⟨r, 7, none⟩ = some (.int .i64 y7) := F5.cell 7); (have c5_8 : w5.cell? ⟨r, 8, none⟩ = some (.int .i64 y8) := F5.cell 8))) | (go_at_call 56; ((with_reducible refine (H5.out w5 HB5.out).mono ?_); rintro en w6 ⟨rfl, hb6⟩; (have F6 := F5.on hb6); (have HB6 := Lib.hid (HB5.out.trans (hb6.mono HB5.out.size))); (have c6_0 : w6.cell? ⟨r, 0, none⟩ = some (.string y0) := F6.cell 0); (have c6_1 : w6.cell? ⟨r, 1, none⟩ = some (.int .i64 y1) := F6.cell 1); (have c6_2 : w6.cell? ⟨r, 2, none⟩ = some (.int .i64 (y2 : Int)) := F6.cell 2); (have c6_3 : w6.cell? ⟨r, 3, none⟩ = some (.slice A0 n0 c0) := F6.cell 3); (have c6_4 : w6.cell? ⟨r, 4, none⟩ = some (.slice A1 n1 c1) := F6.cell 4); (have c6_5 : w6.cell? ⟨r, 5, none⟩ = some (.slice A2 n2 c2) := F6.cell 5); (have c6_6 : w6.cell? ⟨r, 6, none⟩ = some (.slice A3 n3 c3) := F6.cell 6); (have c6_7 : w6.cell? ⟨r, 7, none⟩ = some (.int .i64 y7) := F6.cell 7); (have c6_8 : w6.cell? ⟨r, 8, none⟩ = some (.int .i64 y8) := F6.cell 8))) | (go_at_call 56; ((with_reducible refine (H6.out w6 HB6.out).mono ?_); rintro en w7 ⟨rfl, hb7⟩; (have F7 := F6.on hb7); (have HB7 := Lib.hid (HB6.out.trans (hb7.mono HB6.out.size))); (have c7_0 : w7.cell? ⟨r, 0, none⟩ = some (.string y0) := F7.cell 0); (have c7_1 : w7.cell? ⟨r, 1, none⟩ = some (.int .i64 y1) := F7.cell 1); (have c7_2 : w7.cell? ⟨r, 2, none⟩ = some (.int .i64 (y2 : Int)) := F7.cell 2); (have c7_3 : w7.cell? ⟨r, 3, none⟩ = some (.slice A0 n0 c0) := F7.cell 3); (have c7_4 : w7.cell? ⟨r, 4, none⟩ = some (.slice A1 n1 c1) := F7.cell 4); (have c7_5 : w7.cell? ⟨r, 5, none⟩ = some (.slice A2 n2 c2) := F7.cell 5); (have c7_6 : w7.cell? ⟨r, 6, none⟩ = some (.slice A3 n3 c3) := F7.cell 6); (have c7_7 : w7.cell? ⟨r, 7, none⟩ = some (.int .i64 y7) := F7.cell 7); (have c7_8 : w7.cell? ⟨r, 8, none⟩ = some (.int .i64 y8) := F7.cell 8))) | (go_at_call 56; ((with_reducible refine (H7.out w7 HB7.out).mono ?_); rintro en w8 ⟨rfl, hb8⟩; (have F8 := F7.on hb8); (have HB8 := Lib.hid (HB7.out.trans (hb8.mono HB7.out.size))); (have c8_0 : w8.cell? ⟨r, 0, none⟩ = some (.string y0) := F8.cell 0); (have c8_1 : w8.cell? ⟨r, 1, none⟩ = some (.int .i64 y1) := F8.cell 1); (have c8_2 : w8.cell? ⟨r, 2, none⟩ = some (.int .i64 (y2 : Int)) := F8.cell 2); (have c8_3 : w8.cell? ⟨r, 3, none⟩ = some (.slice A0 n0 c0) := F8.cell 3); (have c8_4 : w8.cell? ⟨r, 4, none⟩ = some (.slice A1 n1 c1) := F8.cell 4); (have c8_5 : w8.cell? ⟨r, 5, none⟩ = some (.slice A2 n2 c2) := F8.cell 5); (have c8_6 : w8.cell? ⟨r, 6, none⟩ = some (.slice A3 n3 c3) := F8.cell 6); (have c8_7 : w8.cell? ⟨r, 7, none⟩ = some (.int .i64 y7) := F8.cell 7); (have c8_8 : w8.cell? ⟨r, 8, none⟩ = some (.int .i64 y8) := F8.cell 8))) | (fail "arm")); go_ret; exact ⟨rfl, HB8.out⟩)
              | true =>
                (go_enter Tryz.func60, Tryz.ntmps60; go_wp2_with (first | (go_at_call 95; ((with_reducible refine (H1.out w1).mono ?_); rintro en w2 ⟨rfl, hb2⟩; (have F2 := F1.on hb2); (have HB2 := Lib.hid (HB1.out.trans (hb2.mono HB1.out.size))); (have c2_0 : w2.cell? ⟨r, 0, none⟩ = some (.string y0) := F2.cell 0); (have c2_1 : w2.cell? ⟨r, 1, none⟩ = some (.int .i64 y1) := F2.cell 1); (have c2_2 : w2.cell? ⟨r, 2, none⟩ = some (.int .i64 (y2 : Int)) := F2.cell 2); (have c2_3 : w2.cell? ⟨r, 3, none⟩ = some (.slice A0 n0 c0) := F2.cell 3); (have c2_4 : w2.cell? ⟨r, 4, none⟩ = some (.slice A1 n1 c1) := F2.cell 4); (have c2_5 : w2.cell? ⟨r, 5, none⟩ = some (.slice A2 n2 c2) := F2.cell 5); (have c2_6 : w2.cell? ⟨r, 6, none⟩ = some (.slice A3 n3 c3) := F2.cell 6); (have c2_7 : w2.cell? ⟨r, 7, none⟩ = some (.int .i64 y7) := F2.cell 7); (have c2_8 : w2.cell? ⟨r, 8, none⟩ = some (.int .i64 y8) := F2.cell 8))) | (go_at_call 96; ((with_reducible refine (H2.out w2).mono ?_); rintro en w3 ⟨rfl, hb3⟩; (have F3 := F2.on hb3); (have HB3 := Lib.hid (HB2.out.trans (hb3.mono HB2.out.size))); (have c3_0 : w3.cell? ⟨r, 0, none⟩ = some (.string y0) := F3.cell 0); (have c3_1 : w3.cell? ⟨r, 1, none⟩ = some (.int .i64 y1) := F3.cell 1); (have c3_2 : w3.cell? ⟨r, 2, none⟩ = some (.int .i64 (y2 : Int)) := F3.cell 2); (have c3_3 : w3.cell? ⟨r, 3, none⟩ = some (.slice A0 n0 c0) := F3.cell 3); (have c3_4 : w3.cell? ⟨r, 4, none⟩ = some (.slice A1 n1 c1) := F3.cell 4); (have c3_5 : w3.cell? ⟨r, 5, none⟩ = some (.slice A2 n2 c2) := F3.cell 5); (have c3_6 : w3.cell? ⟨r, 6, none⟩ = some (.slice A3 n3 c3) := F3.cell 6); (have c3_7 : w3.cell? ⟨r, 7, none⟩ = some (.int .i64 y7) := F3.cell 7); (have c3_8 : w3.cell? ⟨r, 8, none⟩ = some (.int .i64 y8) := F3.cell 8))) | (go_at_call 97; ((with_reducible refine (H3.out w3).mono ?_); rintro en w4 ⟨rfl, hb4⟩; (have F4 := F3.on hb4); (have HB4 := Lib.hid (HB3.out.trans (hb4.mono HB3.out.size))); (have c4_0 : w4.cell? ⟨r, 0, none⟩ = some (.string y0) := F4.cell 0); (have c4_1 : w4.cell? ⟨r, 1, none⟩ = some (.int .i64 y1) := F4.cell 1); (have c4_2 : w4.cell? ⟨r, 2, none⟩ = some (.int .i64 (y2 : Int)) := F4.cell 2); (have c4_3 : w4.cell? ⟨r, 3, none⟩ = some (.slice A0 n0 c0) := F4.cell 3); (have c4_4 : w4.cell? ⟨r, 4, none⟩ = some (.slice A1 n1 c1) := F4.cell 4); (have c4_5 : w4.cell? ⟨r, 5, none⟩ = some (.slice A2 n2 c2) := F4.cell 5); (have c4_6 : w4.cell? ⟨r, 6, none⟩ = some (.slice A3 n3 c3) := F4.cell 6); (have c4_7 : w4.cell? ⟨r, 7, none⟩ = some (.int .i64 y7) := F4.cell 7); (have c4_8 : w4.cell? ⟨r, 8, none⟩ = some (.int .i64 y8) := F4.cell 8))) | (go_at_call 56; ((with_reducible refine (H4.out w4 HB4.out).mono ?_); rintro en w5 ⟨rfl, hb5⟩; (have F5 := F4.on hb5); (have HB5 := Lib.hid (HB4.out.trans (hb5.mono HB4.out.size))); (have c5_0 : w5.cell? ⟨r, 0, none⟩ = some (.string y0) := F5.cell 0); (have c5_1 : w5.cell? ⟨r, 1, none⟩ = some (.int .i64 y1) := F5.cell 1); (have c5_2 : w5.cell? ⟨r, 2, none⟩ = some (.int .i64 (y2 : Int)) := F5.cell 2); (have c5_3 : w5.cell? ⟨r, 3, none⟩ = some (.slice A0 n0 c0) := F5.cell 3); (have c5_4 : w5.cell? ⟨r, 4, none⟩ = some (.slice A1 n1 c1) := F5.cell 4); (have c5_5 : w5.cell? ⟨r, 5, none⟩ = some (.slice A2 n2 c2) := F5.cell 5); (have c5_6 : w5.cell? ⟨r, 6, none⟩ = some (.slice A3 n3 c3) := F5.cell 6); (have c5_7 : w5.cell? ⟨r, 7, none⟩ = some (.int .i64 y7) := F5.cell 7); (have c5_8 : w5.cell? ⟨r, 8, none⟩ = some (.int .i64 y8) := F5.cell 8))) | (go_at_call 56; ((with_reducible refine (H5.out w5 HB5.out).mono ?_); rintro en w6 ⟨rfl, hb6⟩; (have F6 := F5.on hb6); (have HB6 := Lib.hid (HB5.out.trans (hb6.mono HB5.out.size))); (have c6_0 : w6.cell? ⟨r, 0, none⟩ = some (.string y0) := F6.cell 0); (have c6_1 : w6.cell? ⟨r, 1, none⟩ = some (.int .i64 y1) := F6.cell 1); (have c6_2 : w6.cell? ⟨r, 2, none⟩ = some (.int .i64 (y2 : Int)) := F6.cell 2); (have c6_3 : w6.cell? ⟨r, 3, none⟩ = some (.slice A0 n0 c0) := F6.cell 3); (have c6_4 : w6.cell? ⟨r, 4, none⟩ = some (.slice A1 n1 c1) := F6.cell 4); (have c6_5 : w6.cell? ⟨r, 5, none⟩ = some (.slice A2 n2 c2) := F6.cell 5); (have c6_6 : w6.cell? ⟨r, 6, none⟩ = some (.slice A3 n3 c3) := F6.cell 6); (have c6_7 : w6.cell? ⟨r, 7, none⟩ = some (.int .i64 y7) := F6.cell 7); (have c6_8 : w6.cell? ⟨r, 8, none⟩ = some (.int .i64 y8) := F6.cell 8))) | (go_at_call 56; ((with_reducible refine (H6.out w6 HB6.out).mono ?_); rintro en w7 ⟨rfl, hb7⟩; (have F7 := F6.on hb7); (have HB7 := Lib.hid (HB6.out.trans (hb7.mono HB6.out.size))); (have c7_0 : w7.cell? ⟨r, 0, none⟩ = some (.string y0) := F7.cell 0); (have c7_1 : w7.cell? ⟨r, 1, none⟩ = some (.int .i64 y1) := F7.cell 1); (have c7_2 : w7.cell? ⟨r, 2, none⟩ = some (.int .i64 (y2 : Int)) := F7.cell 2); (have c7_3 : w7.cell? ⟨r, 3, none⟩ = some (.slice A0 n0 c0) := F7.cell 3); (have c7_4 : w7.cell? ⟨r, 4, none⟩ = some (.slice A1 n1 c1) := F7.cell 4); (have c7_5 : w7.cell? ⟨r, 5, none⟩ = some (.slice A2 n2 c2) := F7.cell 5); (have c7_6 : w7.cell? ⟨r, 6, none⟩ = some (.slice A3 n3 c3) := F7.cell 6); (have c7_7 : w7.cell? ⟨r, 7, none⟩ = some (.int .i64 y7) := F7.cell 7); (have c7_8 : w7.cell? ⟨r, 8, none⟩ = some (.int .i64 y8) := F7.cell 8))) | (go_at_call 56; ((with_reducible refine (H7.out w7 HB7.out).mono ?_); rintro en w8 ⟨rfl, hb8⟩; (have F8 := F7.on hb8); (have HB8 := Lib.hid (HB7.out.trans (hb8.mono HB7.out.size))); (have c8_0 : w8.cell? ⟨r, 0, none⟩ = some (.string y0) := F8.cell 0); (have c8_1 : w8.cell? ⟨r, 1, none⟩ = some (.int .i64 y1) := F8.cell 1); (have c8_2 : w8.cell? ⟨r, 2, none⟩ = some (.int .i64 (y2 : Int)) := F8.cell 2); (have c8_3 : w8.cell? ⟨r, 3, none⟩ = some (.slice A0 n0 c0) := F8.cell 3); (have c8_4 : w8.cell? ⟨r, 4, none⟩ = some (.slice A1 n1 c1) := F8.cell 4); (have c8_5 : w8.cell? ⟨r, 5, none⟩ = some (.slice A2 n2 c2) := F8.cell 5); (have c8_6 : w8.cell? ⟨r, 6, none⟩ = some (.slice A3 n3 c3) := F8.cell 6); (have c8_7 : w8.cell? ⟨r, 7, none⟩ = some (.int .i64 y7) := F8.cell 7); (have c8_8 : w8.cell? ⟨r, 8, none⟩ = some (.int .i64 y8) := F8.cell 8))) | (fail "arm")); go_ret; exact ⟨rfl, HB8.out⟩)
end Go.Proofs.YtcjoiiaankngjaaGreatDoor
