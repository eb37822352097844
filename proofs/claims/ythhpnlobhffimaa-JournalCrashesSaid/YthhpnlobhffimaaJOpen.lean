/- Open. -/
import Derived.Test.YthhpnlobhffimaaJSettle
import Derived.RangeFuncBox
import Derived.Maps.AppendAt
namespace Go.Proofs.Ythhpnlobhffimaa
set_option maxRecDepth 100000
open Go.RowKit Go.Shelf
attribute [local go_sem] Oper.semAt_some
theorem open_nil (w : World) : Calls Try.prog 14 #[.pointer none] w fun e w' => e = .returned (.tuple #[.pointer none, .slice none 0 0, .int .i64 1]) ∧ w = w' := by
  go_enter Try.func14, Try.ntmps14
  go_wp2
  refine bodyPost_ret (v := .tuple #[.pointer none, .slice none 0 0, .int .i64 1]) (by simp [results, Try.results14, go_sem]) rfl ?_
  exact ⟨rfl, rfl⟩
theorem read_all (d : Dk) : d.read 0 (d.now.length : Int) = d.now := by
  unfold Dk.read
  split
  · simp
  · have : d.now.length = 0 := by omega
    exact (List.eq_nil_of_length_eq_zero this).symm
theorem Side.good {w W : World} {p : Nat} {d : Dk} {X : Nat → Prop} (h : Side w W p d X) : d.Good := by
  obtain ⟨F, ⟨a, b, c, lf, hh⟩, _⟩ := h.his
  exact hh.good
def jV0 (p e : Nat) : List Value := [.pointer (some ⟨p, 0, none⟩), .int .i64 (e : Int), .int .i64 0, .bool false]
def recC (pre : List (List UInt8 × Nat)) : List Value := strC (pre.map fun x => str x.1)
theorem recC_snoc (pre : List (List UInt8 × Nat)) (x : List UInt8 × Nat) : recC (pre ++ [x]) = recC pre ++ [.string (str x.1)] := by simp [recC, strC]
/-- What Open's loop holds: the journal, the box of its variable, the box of the records. -/
structure OI (w0 W : World) (n p : Nat) (pre : List (List UInt8 × Nat)) (v : Value) : Prop where
  f0 : Full W n 73 (jV0 p (lastE 0 pre))
  f1 : Full W (n + 1) 26 [.pointer (some ⟨n, 0, none⟩)]
  f2 : Full W (n + 2) 27 [v]
  row : W.ownsRow (n + 4) 9 1 v pre.length (recC pre)
  bel : Below n w0 W
  big : n + 4 ≤ W.heap.size
def OIE (w0 : World) (n p : Nat) (pre : List (List UInt8 × Nat)) (W : World) : Prop := ∃ v, OI w0 W n p pre v
section
variable {w0 W : World} {n p : Nat} {pre : List (List UInt8 × Nat)} {v : Value}
theorem OI.keep {W' : World} (h : OI w0 W n p pre v) (hk : ∀ (g : Nat) (o : Obj), W.heap[g]? = some o → o.isCells = true → W'.heap[g]? = W.heap[g]?) (hb : Below n w0 W') (hz : W.heap.size ≤ W'.heap.size) : OI w0 W' n p pre v where
  f0 := (hk n _ h.f0 rfl).trans h.f0
  f1 := (hk (n + 1) _ h.f1 rfl).trans h.f1
  f2 := (hk (n + 2) _ h.f2 rfl).trans h.f2
  row := owns_keep h.row fun g hg => by
    rcases h.row.2 with ⟨e, _⟩ | ⟨g', cap, cur, e, _, hh, _⟩
    · rw [e] at hg; simp [Value.ownBlock] at hg
    · rw [e] at hg
      obtain rfl : g' = g := by simpa [Value.ownBlock] using hg
      exact hk g' _ hh rfl
  bel := hb
  big := Nat.le_trans h.big hz
theorem OIE.own (hn : n ≤ w0.heap.size) (B : Nat) (hB : n ≤ B) : OwnFrom B (OIE w0 n p) := by
  rintro s W W' row ⟨v, h⟩ hg hr
  exact ⟨v, h.keep (fun g o ho hc => grownBy_keeps_cells hg (fun r e => (hr r e).2) ho hc) (h.bel.grown hg (Nat.le_trans hn h.bel.size) (fun k e => Nat.le_trans hB (hr k e).1)) hg.size⟩
/-- a round -/
theorem OI.step (h : OI w0 W n p pre v) {w1 : World} {v' : Value} {tmp : Obj} {x : List UInt8 × Nat} (hown : w1.ownsRow (n + 4) 9 1 v' (pre.length + 1) (recC pre ++ [.string (str x.1)])) (hgrow : (W.alloc tmp).grownBy w1 v.ownBlock) :
    (Full w1 n 73 (jV0 p (lastE 0 pre)) ∧ Full w1 (n + 1) 26 [.pointer (some ⟨n, 0, none⟩)] ∧ Full w1 (n + 2) 27 [v]) ∧ OI w0 ((w1.setCell ⟨n + 2, 0, none⟩ v').setCell ⟨n, 1, none⟩ (.int .i64 (x.2 : Int))) n p (pre ++ [x]) v' ∧
      KeepsOthers W ((w1.setCell ⟨n + 2, 0, none⟩ v').setCell ⟨n, 1, none⟩ (.int .i64 (x.2 : Int))) ∧ KeepB (n + 3) W ((w1.setCell ⟨n + 2, 0, none⟩ v').setCell ⟨n, 1, none⟩ (.int .i64 (x.2 : Int))) := by
  have hsz := h.big
  have hge : ∀ g, v.ownBlock = some g → n + 4 ≤ g := fun g hg => row_ge h.row g hg
  have hge' : ∀ g, v'.ownBlock = some g → n + 4 ≤ g := fun g hg => row_ge hown g hg
  have hk : ∀ g, g < n + 4 → w1.heap[g]? = W.heap[g]? := fun g hg => by
    rw [hgrow.block g (by simp; omega) (fun e => by have := hge g e.symm; omega)]
    exact Below.heap_alloc _ _ _ (by omega)
  have a0 : Full w1 n 73 (jV0 p (lastE 0 pre)) := (hk n (by omega)).trans h.f0
  have a1 : Full w1 (n + 1) 26 [.pointer (some ⟨n, 0, none⟩)] := (hk (n + 1) (by omega)).trans h.f1
  have a2 : Full w1 (n + 2) 27 [v] := (hk (n + 2) (by omega)).trans h.f2
  have hs1 : W.heap.size ≤ w1.heap.size := by have := hgrow.size; simp at this; omega
  refine ⟨⟨a0, a1, a2⟩, ?_, ?_, ?_, ?_⟩
  · refine {
      f0 := ?_
      f1 := (a1.far (p := ⟨n + 2, 0, none⟩) (by show n + 1 ≠ n + 2; omega) _).far (p := ⟨n, 1, none⟩) (by show n + 1 ≠ n; omega) _
      f2 := (a2.set_ 0 v').far (p := ⟨n, 1, none⟩) (by show n + 2 ≠ n; omega) _
      row := ?_
      bel := ?_
      big := by simp [World.setCell]; omega }
    · rw [lastE_snoc]
      exact (a0.far (p := ⟨n + 2, 0, none⟩) (by show n ≠ n + 2; omega) _).set_ 1 _
    · rw [recC_snoc, List.length_append, List.length_cons, List.length_nil]
      exact owns_keep hown fun g hg => by
        have := hge' g hg
        rw [Below.heap_setCell _ _ _ _ (by show g ≠ n; omega), Below.heap_setCell _ _ _ _ (by show g ≠ n + 2; omega)]
    · refine ((h.bel.trans ((((Below.refl n W).alloc (by omega) tmp).grown hgrow (by simp; omega) fun j ej => ?_))).setCell (p := ⟨n + 2, 0, none⟩) (by show n ≤ n + 2; omega) _).setCell (p := ⟨n, 1, none⟩) (Nat.le_refl _) _
      have := hge j ej; omega
  · refine (((KeepsOthers.alloc W tmp).trans (KeepsOthers.of_grownBy hgrow fun j o ej hj => ?_)).trans (KeepsOthers.setCell _ _ _)).trans (KeepsOthers.setCell _ _ _)
    rcases (h.row.alloc tmp).2 with ⟨rfl, _⟩ | ⟨g, cap, cur, rfl, _, hgb, _⟩
    · simp [Value.ownBlock] at ej
    · obtain rfl : g = j := by simpa [Value.ownBlock] using ej
      rw [hgb] at hj; cases hj; rfl
  · rw [Below.heap_setCell _ _ _ _ (by show n + 3 ≠ n; omega), Below.heap_setCell _ _ _ _ (by show n + 3 ≠ n + 2; omega)]
    exact hk (n + 3) (by omega)
  · simpa [World.setCell] using hs1
end
def OpenOut (w W : World) (p : Nat) (d : Dk) (X : Nat → Prop) (e : Ending) (W' : World) : Prop :=
  ((openD d).1 ≠ 0 ∧ e = .returned (.tuple #[.pointer none, .slice none 0 0, .int .i64 (openD d).1]) ∧ SPost w W p (openD d).2 X W') ∨
  ((openD d).1 = 0 ∧ ∃ b A c, e = .returned (.tuple #[.pointer (some ⟨b, 0, none⟩), .slice A (recs d.now).length c, .int .i64 0]) ∧
    JPost w W p b ⟨(openD d).2, recs d.now, false⟩ X W' ∧ W.heap.size ≤ b ∧ Jw w W' p b ⟨(openD d).2, recs d.now, false⟩ (fun g => X g ∨ (Value.slice A (recs d.now).length c).ownBlock = some g) ∧
    W'.ownsRow W.heap.size 9 1 (.slice A (recs d.now).length c) (recs d.now).length (strC ((recs d.now).map str)))
theorem Side.putB {w W : World} {p : Nat} {d : Dk} {X : Nat → Prop} (h : Side w W p d X) {D : Nat} (hX : X D) (hD : w.heap.size ≤ D) (o : Obj) : Side w (W.putObj D o) p d X := by
  obtain ⟨F, i1, i4⟩ := h.his
  refine ⟨⟨h.bel.os, h.bel.tape, h.bel.output, by simpa [World.putObj] using h.bel.size, fun k hk => (World.putObj_heap_other (by omega)).trans (h.bel.block k hk)⟩, F, i1.keep (fun g hg => World.putObj_heap_other (by rintro rfl; exact (i4 _ hX).1 hg)) (by simp [World.putObj]), fun g hg => ⟨(i4 g hg).1, by simpa [World.putObj] using (i4 g hg).2⟩⟩
/-- behind Open's loop -/
structure OV (w W V : World) (p N D : Nat) (d : Dk) (X : Nat → Prop) (v : Value) (rs : List (List UInt8)) : Prop where
  h : Side w W p d X
  hN : W.heap.size = N
  hb : Below W.heap.size W V
  full : Full V N 73 (jV p ⟨d, rs, false⟩)
  f1 : Full V (N + 1) 26 [.pointer (some ⟨N, 0, none⟩)]
  f2 : Full V (N + 2) 27 [v]
  row : V.ownsRow (N + 4) 9 1 v rs.length (strC (rs.map str))
  mark : V.heap[D]? = some (.deferred (some []))
  hD : N + 4 ≤ D
  few : (fl rs).length ≤ 16777216
/-- the blocks that settle must leave alone -/
def OX (X : Nat → Prop) (N D : Nat) (v : Value) (g : Nat) : Prop := X g ∨ (v.ownBlock = some g ∨ g = N + 1 ∨ g = N + 2 ∨ g = D)
section
variable {w W V W2 : World} {p N D : Nat} {d D2 : Dk} {X : Nat → Prop} {v : Value} {rs : List (List UInt8)}
theorem OV.low (h : OV w W V p N D d X v rs) {g : Nat} (hg : X g) : g < N := by
  obtain ⟨F, i1, i4⟩ := h.h.his
  have := (i4 g hg).2; have := h.hN; omega
theorem OV.jw (h : OV w W V p N D d X v rs) : Jw w V p N ⟨d, rs, false⟩ (OX X N D v) := by
  have hN := h.hN
  have hD := h.hD
  have hwN : w.heap.size ≤ N := by rw [← hN]; exact h.h.bel.size
  refine ⟨(h.h.plus h.hb (Y := fun g => g = N ∨ v.ownBlock = some g ∨ g = N + 1 ∨ g = N + 2 ∨ g = D) fun g hg => ?_).less fun g hg => ?_, h.full, hwN, ?_, h.few⟩
  · have l0 := h.full.lt
    have l1 := h.f1.lt
    have l2 := h.f2.lt
    have l3 := (Array.getElem?_eq_some_iff.1 h.mark).1
    rcases hg with rfl | hg | rfl | rfl | rfl
    · omega
    · have a := row_ge h.row g hg
      have b := owns_lt h.row g hg
      omega
    · omega
    · omega
    · omega
  · rcases hg with rfl | hg | hg
    · exact .inr (.inl rfl)
    · exact .inl hg
    · exact .inr (.inr hg)
  · rintro (hg | hg | hg | hg | hg)
    · have := h.low hg; omega
    · have := row_ge h.row N hg; omega
    · omega
    · omega
    · omega
theorem OV.fin (h : OV w W V p N D d X v rs) (hs : SPost w V p D2 (fun g => g = N ∨ OX X N D v g) W2) (o : Obj) :
    SPost w W p D2 X (W2.putObj D o) ∧ JPost w W p N ⟨D2, rs, false⟩ X (W2.putObj D o) ∧ Jw w (W2.putObj D o) p N ⟨D2, rs, false⟩ (fun g => X g ∨ v.ownBlock = some g) ∧ (W2.putObj D o).ownsRow W.heap.size 9 1 v rs.length (strC (rs.map str)) := by
  have hN := h.hN
  have hD := h.hD
  have hwN : w.heap.size ≤ N := by rw [← hN]; exact h.h.bel.size
  have hput := hs.1.putB (D := D) (.inr (.inr (.inr (.inr (.inr rfl))))) (by omega) o
  have hsame : ∀ g, (g = N ∨ OX X N D v g) → g ≠ D → (W2.putObj D o).heap[g]? = V.heap[g]? := fun g hg hne => (World.putObj_heap_other hne).trans (hs.2.1 g hg)
  have hX : ∀ g, X g → (W2.putObj D o).heap[g]? = W.heap[g]? := fun g hg => (hsame g (.inr (.inl hg)) (by have := h.low hg; omega)).trans (h.hb.block g (by have := h.low hg; omega))
  have hsz : W.heap.size ≤ (W2.putObj D o).heap.size := by have := h.hb.size; have := hs.2.2; simp [World.putObj]; omega
  have hf : Full (W2.putObj D o) N 73 (jV p ⟨D2, rs, false⟩) := (hsame N (.inl rfl) (by omega)).trans h.full
  have hNX : ¬ X N := fun e => by have := h.low e; omega
  have hvN : v.ownBlock ≠ some N := fun e => by have := row_ge h.row N e; omega
  refine ⟨⟨hput.less fun g hg => .inr (.inl hg), hX, hsz⟩, ⟨⟨hput.less fun g hg => ?_, hf, hwN, hNX, h.few⟩, hX, hsz⟩, ⟨hput.less fun g hg => ?_, hf, hwN, fun e => e.elim hNX hvN, h.few⟩, ?_⟩
  · rcases hg with rfl | hg
    · exact .inl rfl
    · exact .inr (.inl hg)
  · rcases hg with rfl | hg | hg
    · exact .inl rfl
    · exact .inr (.inl hg)
    · exact .inr (.inr (.inl hg))
  · exact owns_base (owns_keep h.row fun g hg => hsame g (.inr (.inr (.inl hg))) (by
      rintro rfl
      have hrow := h.row
      rcases hrow.2 with ⟨e, _⟩ | ⟨g', cap, cur, e, _, hh, _⟩
      · rw [e] at hg; simp [Value.ownBlock] at hg
      · rw [e] at hg
        obtain rfl : g' = g := by simpa [Value.ownBlock] using hg
        rw [h.mark] at hh; cases hh)) (fun g hg => by have := row_ge h.row g hg; omega)
end
set_option maxHeartbeats 8000000 in
theorem open_any {w W : World} {p : Nat} {d : Dk} {X : Nat → Prop} (h : Side w W p d X) (hc : d.calls ≤ 90000) :
    Calls Try.prog 14 #[.pointer (some ⟨p, 0, none⟩)] W (OpenOut w W p d X) := by
  have hg := h.good
  have hnl := hg.now
  refine (callsIn_wide (n := 3)).1 (callsIn_of_wp_marks Try.func14 rfl trivial ?_ rfl)
  refine wpIn_wide.2 ?_
  simp only [Try.ntmps14, List.size_toArray, List.length_cons, List.length_nil, Nat.reduceAdd, Nat.reduceSub, Array.replicate_succ, Array.replicate_zero, List.push_toArray, List.append_toArray, List.nil_append, List.cons_append]
  obtain ⟨W3, hW3⟩ : ∃ W3, ((W.alloc (.cells #[.pointer (some ⟨p, 0, none⟩), .int .i64 0, .int .i64 0, .bool false] 73)).alloc (.cells #[.pointer (some ⟨W.heap.size, 0, none⟩)] 26)).alloc (.cells #[.slice none 0 0] 27) = W3 := ⟨_, rfl⟩
  have hb3 : Below W.heap.size W W3 := by rw [← hW3]; exact (((Below.refl _ W).alloc (Nat.le_refl _) _).alloc (by simp) _).alloc (by simp; omega) _
  have hs3 : W3.heap.size = W.heap.size + 3 := by rw [← hW3]; simp
  have g0 : Full W3 W.heap.size 73 (jV0 p 0) := by rw [← hW3]; exact ((Full.new W 73 (jV0 p 0)).alloc _).alloc _
  have g1 : Full W3 (W.heap.size + 1) 26 [.pointer (some ⟨W.heap.size, 0, none⟩)] := by
    rw [← hW3]
    have := Full.new (W.alloc (.cells #[.pointer (some ⟨p, 0, none⟩), .int .i64 0, .int .i64 0, .bool false] 73)) 26 [.pointer (some ⟨W.heap.size, 0, none⟩)]
    rw [World.size_alloc] at this
    exact this.alloc _
  have g2 : Full W3 (W.heap.size + 2) 27 [.slice none 0 0] := by
    rw [← hW3]
    have := Full.new ((W.alloc (.cells #[.pointer (some ⟨p, 0, none⟩), .int .i64 0, .int .i64 0, .bool false] 73)).alloc (.cells #[.pointer (some ⟨W.heap.size, 0, none⟩)] 26)) 27 [.slice none 0 0]
    rw [World.size_alloc, World.size_alloc] at this
    exact this
  have h3 := h.on hb3
  have HSZ := Lib.hid h3.size
  have HRD := Lib.hid (show Calls Try.prog 34 #[.pointer (some ⟨p, 0, none⟩), .int .i64 0, .int .i64 (d.now.length : Int)] W3 fun e w' => e = .returned (.string (str d.now)) ∧ W3 = w' from by
    have := h3.read 0 (d.now.length : Int)
    rw [read_all] at this
    exact this)
  have HFN := Lib.hid (frames_new (str d.now) W3)
  obtain ⟨nl, hnl'⟩ : ∃ nl, d.now.length = nl := ⟨_, rfl⟩
  rw [hnl'] at HSZ HRD
  have hnl2 : nl ≤ 16777216 := by unfold lim at hnl; omega
  obtain ⟨N, hN⟩ : ∃ N, W.heap.size = N := ⟨_, rfl⟩
  obtain ⟨C, hC⟩ : ∃ C, str d.now = C := ⟨_, rfl⟩
  rw [hC] at HRD HFN
  rw [hs3, hN] at HFN
  rw [hN] at hW3
  have HG0 := Lib.hid g0
  have HG1 := Lib.hid g1
  have HG2 := Lib.hid g2
  have HB3 := Lib.hid hb3
  have HS3 := Lib.hid hs3
  have H := Lib.hid h
  have HNL := Lib.hid hnl'
  have HCC := Lib.hid hC
  have HNN := Lib.hid hN
  clear h hg hnl h3 g0 g1 g2 hb3 hs3 hnl' hC
  go_upto_region 5 with fail
  rw [show N + 1 + 1 = N + 2 from rfl]
  clear hW3 hN
  go_wp2_with (first
    | (go_at_call 35; ((with_reducible refine HSZ.out.mono ?_); rintro e w1 ⟨rfl, rfl⟩))
    | (go_at_call 34; ((with_reducible refine HRD.out.mono ?_); rintro e w2 ⟨rfl, rfl⟩))
    | (go_at_call 33; ((with_reducible refine HFN.out.mono ?_); rintro e w4 ⟨rfl, rfl⟩))
    | (fail "arm"))
  have hs4 : (W3.alloc (.cells #[.string C] 9)).heap.size = N + 4 := by rw [World.size_alloc, HS3.out, HNN.out]
  have hb4 : Below N W (W3.alloc (.cells #[.string C] 9)) := by
    have := HB3.out.alloc (by have := HS3.out; omega) (.cells #[.string C] 9)
    rw [HNN.out] at this
    exact this
  have g3 : Full (W3.alloc (.cells #[.string C] 9)) (N + 3) 9 [.string C] := by
    have := Full.new W3 9 [.string C]
    rw [HS3.out, HNN.out] at this
    exact this
  have hI0 : OIE W N p [] (W3.alloc (.cells #[.string C] 9)) := by
    have a0 := HG0.out.alloc (.cells #[.string C] 9)
    have a1 := HG1.out.alloc (.cells #[.string C] 9)
    have a2 := HG2.out.alloc (.cells #[.string C] 9)
    rw [HNN.out] at a0 a1 a2
    exact ⟨_, a0, a1, a2, World.ownsRow_nil _ _ _ _, hb4, by omega⟩
  have hCd : C.data.toList = d.now := by rw [← HCC.out, str_data]
  have hCz : C.size = nl := by rw [← HCC.out, str_size, HNL.out]
  obtain ⟨W4, hW4⟩ : ∃ W4, W3.alloc (.cells #[.string C] 9) = W4 := ⟨_, rfl⟩
  rw [hW4] at hs4 hb4 g3 hI0 ⊢
  have hst := frames_stops 2 (by omega) (N + 3) C (by omega) W4 (by omega) (g3.cell 0)
  rw [hCd] at hst
  obtain ⟨i0, hi, hz0, hz1, hz2⟩ := info_parts info9
  have HI0 := Lib.hid hI0
  have hNW : N ≤ W.heap.size := by rw [HNN.out]; exact Nat.le_refl _
  have hTl : 6 * (recs d.now).length ≤ 16777216 := by
    have h1 := fl_many (recs d.now); have h2 := fl_recs_le d.now; have := HNL.out; omega
  clear hW4 hCd
  refine wpIn_wide.1 (wpIn_rangeFunc_ownG (n := 3) rfl (by omega) (gf := 53) (lb := #[.pointer (some ⟨N + 3, 0, none⟩)]) rfl trivial (enters_of Try.func53 (by kernel_rfl) rfl)
    hst (fun h k => ⟨k.1.trans h.1, Nat.le_trans h.2 k.2⟩) (fun V l o o' hl _ _ _ => ⟨World.putObj_heap_other (by omega), by simp [World.putObj]⟩) (Below.refl _ _) (fun _ => rfl)
    (OIE W N p) (fun _ _ _ => False) (OIE.own hNW _ (by omega)) (fun _ _ _ _ _ hs _ _ => hs) hI0
    (fun x => { tmps := #[.pointer (some ⟨p, 0, none⟩), undef, .pointer none, .slice none 0 0, .int .i64 0, .pointer (some ⟨N + 1, 0, none⟩), .pointer (some ⟨N + 2, 0, none⟩), .string (str x.1), .int .i64 (x.2 : Int), undef, .pointer (some ⟨p, 0, none⟩), .bool false, .pointer (some ⟨p, 0, none⟩), .agg #[.pointer (some ⟨p, 0, none⟩), .int .i64 0, .int .i64 0, .bool false], .pointer (some ⟨N, 0, none⟩), .pointer (some ⟨p, 0, none⟩), .pointer (some ⟨p, 0, none⟩), .int .i64 (nl : Int), .string C, .func (.func 53) #[] #[.pointer (some ⟨N + 3, 0, none⟩)], .string (str x.1), .int .i64 (x.2 : Int), undef, undef, undef, undef, undef, undef, undef, undef, undef, undef, undef, undef, undef, undef, undef, undef, undef, undef, undef, undef], defers := [] }) ?assign ?body ?done ?stop)
  case assign =>
    intro l x V K hK
    unfold FV
    gi_wp2
    exact hK
  case body =>
    rintro l pre x V ⟨v, hI⟩ hlt
    have hc2 : V.cell? ⟨N + 2, 0, none⟩ = some v := hI.f2.cell 0
    have hVs : N + 4 ≤ V.heap.size := hI.big
    have HI := Lib.hid hI
    have hrow := hI.row
    have ST := Lib.hid (fun (w1 : World) (v' : Value) (tmp : Obj) (hown : w1.ownsRow (N + 4) 9 1 v' (pre.length + 1) (recC pre ++ [.string (str x.1)])) (hgrow : (V.alloc tmp).grownBy w1 v.ownBlock) => HI.out.step hown hgrow)
    clear hI
    obtain ⟨A0, c0, rfl⟩ := own_form hrow
    gi_wp2_with (gi_at_builtin; refine wpListIn_append_own _ rfl _ _ 27 rfl (N + 4) 9 i0 (.string ⟨#[]⟩) 1 16 Try.underlying27 hi hz0 hz1 hz2 rfl (by decide) _ _ _ rfl (hrow.alloc _) ⟨V.heap.size, 0, none⟩ 1 1 [.string (str x.1)] rfl rfl (cell_one_new _ _ _) (by simp [Value.oneCell']) (by unfold maxLen; omega) (by omega) (by simp; omega) ?_; intro v' w1 hown' hgrow _; obtain ⟨g', cap', rfl⟩ := ownsRow_succ hown'; obtain ⟨⟨q0, q1, q2⟩, hI2, hk2, hb2⟩ := ST.out w1 _ _ hown' hgrow; have r0 := q2.cell 0; have r1 := q2.frozen 0; have r2 : (w1.setCell ⟨N + 2, 0, none⟩ (.slice (some ⟨g', 0, none⟩) (pre.length + 1) cap')).cell? ⟨N + 1, 0, none⟩ = some (.pointer (some ⟨N, 0, none⟩)) := (q1.far (p := ⟨N + 2, 0, none⟩) (by show N + 1 ≠ N + 2; omega) _).cell 0; have r3 := (q0.far (p := ⟨N + 2, 0, none⟩) (by show N ≠ N + 2; omega) (.slice (some ⟨g', 0, none⟩) (pre.length + 1) cap')).frozen 1; have r4 : (w1.setCell ⟨N + 2, 0, none⟩ (.slice (some ⟨g', 0, none⟩) (pre.length + 1) cap')).cell? ⟨N, 1, none⟩ = some (.int .i64 (lastE 0 pre : Int)) := (q0.far (p := ⟨N + 2, 0, none⟩) (by show N ≠ N + 2; omega) (.slice (some ⟨g', 0, none⟩) (pre.length + 1) cap')).cell 1)
    exact ⟨hk2.from _, hb2, _, hI2⟩
  case done =>
    rintro D ys V hD rfl ⟨v, hI⟩ hK
    have hlen := offs_len 0 (recs d.now)
    have hrc : recC (offs 0 (recs d.now)) = strC ((recs d.now).map str) := by
      unfold recC
      rw [show (fun x : List UInt8 × Nat => str x.1) = str ∘ (·.1) from rfl, ← List.map_map, offs_fst]
    have hle := lastE_offs (recs d.now) 0
    rw [Nat.zero_add] at hle
    have hrow := hI.row
    rw [hlen, hrc] at hrow
    have hf0 := hI.f0
    rw [hle] at hf0
    obtain ⟨A, c, rfl⟩ := own_form hrow
    have hfl : (fl (recs d.now)).length ≤ 16777216 := by have h2 := fl_recs_le d.now; have := HNL.out; omega
    have hOV : OV w W (V.setCell ⟨N, 2, none⟩ (.int .i64 ((recs d.now).length : Int))) p N D d X (.slice A (recs d.now).length c) (recs d.now) := {
      h := H.out
      hN := HNN.out
      hb := by
        have := hI.bel.setCell (p := ⟨N, 2, none⟩) (Nat.le_refl _) (.int .i64 ((recs d.now).length : Int))
        rw [← HNN.out] at this
        rw [← HNN.out]
        exact this
      full := hf0.set_ 2 _
      f1 := hI.f1.far (p := ⟨N, 2, none⟩) (by show N + 1 ≠ N; omega) _
      f2 := hI.f2.far (p := ⟨N, 2, none⟩) (by show N + 2 ≠ N; omega) _
      row := owns_keep hrow fun g hg => Below.heap_setCell _ _ _ _ (by have := row_ge hrow g hg; show g ≠ N; omega)
      mark := (Below.heap_setCell _ _ _ _ (by show D ≠ N; omega)).trans hK
      hD := by omega
      few := hfl }
    have SE := Lib.hid (settle_any hOV.jw rfl hc)
    unfold SetOut at SE
    have x1 : V.cell? ⟨N + 1, 0, none⟩ = some (.pointer (some ⟨N, 0, none⟩)) := hI.f1.cell 0
    have x2 : V.cell? ⟨N + 2, 0, none⟩ = some (.slice A (recs d.now).length c) := hI.f2.cell 0
    have x3 : V.cell? ⟨N, 2, none⟩ = some (.int .i64 0) := hf0.cell 2
    have x4 : V.frozen? ⟨N, 2, none⟩ = false := hf0.frozen 2
    have x5 : (V.setCell ⟨N, 2, none⟩ (.int .i64 ((recs d.now).length : Int))).cell? ⟨N + 1, 0, none⟩ = some (.pointer (some ⟨N, 0, none⟩)) := hOV.f1.cell 0
    have HOV := Lib.hid hOV
    have hwN : w.heap.size ≤ N := by rw [← HNN.out]; exact H.out.bel.size
    have FE : Hid (∀ W2 o, (openD d).1 ≠ 0 → SPost w (V.setCell ⟨N, 2, none⟩ (.int .i64 ((recs d.now).length : Int))) p (openD d).2 (fun g => g = N ∨ OX X N D (.slice A (recs d.now).length c) g) W2 → OpenOut w W p d X (.returned (.tuple #[.pointer none, .slice none 0 0, .int .i64 (openD d).1])) (W2.putObj D o)) :=
      Lib.hid fun W2 o h0 hs => .inl ⟨h0, rfl, (HOV.out.fin hs o).1⟩
    have FO : Hid (∀ W2 q o, (openD d).1 = 0 → SPost w (V.setCell ⟨N, 2, none⟩ (.int .i64 ((recs d.now).length : Int))) p (openD d).2 (fun g => g = N ∨ OX X N D (.slice A (recs d.now).length c) g) W2 → OpenOut w W p d X (.returned (.tuple #[.pointer (some ⟨N, 0, none⟩), .slice A (recs d.now).length c, .int .i64 0])) ((W2.drewN q).putObj D o)) :=
      Lib.hid fun W2 q o h0 hs => by
        have hf := HOV.out.fin (hs.trans (hs.1.spost (Below.drewN_ (Below.refl _ W2) q))) o
        exact .inr ⟨h0, N, A, c, rfl, hf.2.1, by rw [HNN.out]; exact Nat.le_refl _, hf.2.2.1, hf.2.2.2⟩
    have HM2 : Hid (∀ W2, SPost w (V.setCell ⟨N, 2, none⟩ (.int .i64 ((recs d.now).length : Int))) p (openD d).2 (fun g => g = N ∨ OX X N D (.slice A (recs d.now).length c) g) W2 → W2.cell? ⟨N + 1, 0, none⟩ = some (.pointer (some ⟨N, 0, none⟩)) ∧ W2.cell? ⟨N + 2, 0, none⟩ = some (.slice A (recs d.now).length c) ∧ W2.heap[D]? = some (.deferred (some []))) :=
      Lib.hid fun W2 hs => ⟨(show Full W2 (N + 1) 26 [.pointer (some ⟨N, 0, none⟩)] from (hs.2.1 (N + 1) (.inr (.inr (.inr (.inl rfl))))).trans HOV.out.f1).cell 0,
        (show Full W2 (N + 2) 27 [.slice A (recs d.now).length c] from (hs.2.1 (N + 2) (.inr (.inr (.inr (.inr (.inl rfl)))))).trans HOV.out.f2).cell 0, (hs.2.1 D (.inr (.inr (.inr (.inr (.inr rfl)))))).trans HOV.out.mark⟩
    obtain ⟨ev, hev⟩ : ∃ ev, (openD d).1 = ev := ⟨_, rfl⟩
    obtain ⟨D2, hD2⟩ : ∃ D2, (openD d).2 = D2 := ⟨_, rfl⟩
    rw [hev, hD2] at SE FE FO
    rw [hD2] at HM2
    obtain ⟨m, hm⟩ : ∃ m, (recs d.now).length = m := ⟨_, rfl⟩
    rw [hm] at SE FE FO HM2 x2 x5
    clear hOV hI hK hev hD2 hm hrow hf0 hle hrc hlen hst hI0 hfl hTl hb4 g3 hc hz0 hz1 hz2 hi
    dsimp only [Exit.inBlock, Exit.then]
    rcases er_split ev with rfl | hne
    · go_upto_region 14 with (go_at_call 36; ((with_reducible refine SE.out.mono ?_); rintro e W2 ⟨rfl, hs⟩; (obtain ⟨y1, y2, hK2⟩ := HM2.out W2 hs)))
      go_quiet (fail)
      go_wp2
      refine ⟨by simp, .inl ⟨_, _, rfl, run_takeDeferred (w := W2.drewN nq) hK2, ?_⟩⟩
      exact ⟨.tuple #[.pointer (some ⟨N, 0, none⟩), .slice A m c, .int .i64 0], by simp [results, Try.results14, go_sem], FO.out _ _ _ (by first | rfl | trivial) hs⟩
    · go_wp2_with (go_at_call 36; ((with_reducible refine SE.out.mono ?_); rintro e W2 ⟨rfl, hs⟩; (obtain ⟨y1, y2, hK2⟩ := HM2.out W2 hs)))
      refine ⟨by simp, .inl ⟨_, _, rfl, run_takeDeferred hK2, ?_⟩⟩
      exact ⟨.tuple #[.pointer none, .slice none 0 0, .int .i64 ev], by simp [results, Try.results14, go_sem], FE.out _ _ (by intro e; rw [e] at hne; cases hne) hs⟩
  case stop =>
    rintro D c pre V _ _ h _
    exact h.elim
end Go.Proofs.Ythhpnlobhffimaa
