/- Append. -/
import Derived.Test.YthhpnlobhffimaaJStep
import Derived.Deep.CutRange
namespace Go.Proofs.Ythhpnlobhffimaa
set_option maxRecDepth 100000
open Go.RowKit
/-- the cells of a journal -/
def jV (p : Nat) (j : Jn) : List Value := [.pointer (some ⟨p, 0, none⟩), .int .i64 (j.e : Int), .int .i64 (j.rs.length : Int), .bool j.failed]
/-- A journal at b on a disk at p; the blocks of X are neither's. -/
structure Jw (w W : World) (p b : Nat) (j : Jn) (X : Nat → Prop) : Prop where
  side : Side w W p j.d (fun g => g = b ∨ X g)
  full : Full W b 73 (jV p j)
  ge : w.heap.size ≤ b
  out : ¬ X b
  few : j.e ≤ 16777216
def JPost (w W : World) (p b : Nat) (j : Jn) (X : Nat → Prop) (W' : World) : Prop := Jw w W' p b j X ∧ (∀ g, X g → W'.heap[g]? = W.heap[g]?) ∧ W.heap.size ≤ W'.heap.size
section
variable {w W W' : World} {p b : Nat} {j : Jn} {X : Nat → Prop}
theorem Jw.rs_few (h : Jw w W p b j X) : j.rs.length ≤ 16777216 := by have := fl_many j.rs; have := h.few; unfold Jn.e at this; omega
theorem Side.setX {d : Dk} (h : Side w W p d X) {g : Nat} (hg : X g) (hb : w.heap.size ≤ g) (i : Nat) (u : Value) : Side w (W.setCell ⟨g, i, none⟩ u) p d X := by
  obtain ⟨F, i1, i4⟩ := h.his
  refine ⟨h.bel.setCell hb _, F, i1.keep (fun k hk => Below.heap_setCell _ _ _ _ (by rintro rfl; exact (i4 _ hg).1 hk)) (by simp [World.setCell]), fun k hk => ⟨(i4 k hk).1, by simpa [World.setCell] using (i4 k hk).2⟩⟩
theorem Side.plus {d : Dk} (h : Side w W p d X) {Y : Nat → Prop} (hb : Below W.heap.size W W') (hY : ∀ g, Y g → W.heap.size ≤ g ∧ g < W'.heap.size) : Side w W' p d (fun g => X g ∨ Y g) := by
  obtain ⟨F, i1, i4⟩ := h.his
  refine ⟨Below.then_ h.bel hb, F, i1.on hb, fun g hg => ?_⟩
  rcases hg with hg | hg
  · exact ⟨(i4 g hg).1, Nat.lt_of_lt_of_le (i4 g hg).2 hb.size⟩
  · exact ⟨fun e => by have := (i1.in_ g e).2; have := (hY g hg).1; omega, (hY g hg).2⟩
theorem Jw.on (h : Jw w W p b j X) (hb : Below W.heap.size W W') : Jw w W' p b j X := ⟨h.side.on hb, h.full.on hb, h.ge, h.out, h.few⟩
theorem Jw.post (h : Jw w W p b j X) (hb : Below W.heap.size W W') : JPost w W p b j X W' := by
  obtain ⟨F, i1, i4⟩ := h.side.his
  exact ⟨h.on hb, fun g hg => hb.block g (i4 g (.inr hg)).2, hb.size⟩
theorem many_any (h : Jw w W p b j X) : Calls Try.prog 17 #[.pointer (some ⟨b, 0, none⟩)] W fun e w' => e = .returned (.int .i64 (j.rs.length : Int)) ∧ W = w' := by
  have c0 : W.cell? ⟨b, 2, none⟩ = some (.int .i64 (j.rs.length : Int)) := h.full.cell 2
  obtain ⟨n, hn⟩ : ∃ n, j.rs.length = n := ⟨_, rfl⟩
  rw [hn] at c0 ⊢
  clear h hn
  go_enter Try.func17, Try.ntmps17
  go_wp2
  go_ret
  exact ⟨rfl, rfl⟩
theorem many_nil (w : World) : Calls Try.prog 17 #[.pointer none] w fun e w' => e = .returned (.int .i64 0) ∧ w = w' := by
  go_enter Try.func17, Try.ntmps17
  go_wp2
  go_ret
  exact ⟨rfl, rfl⟩
theorem app_nil (s : ByteArray) (w : World) : Calls Try.prog 16 #[.pointer none, .string s] w fun e w' => e = .returned (.int .i64 1) ∧ w = w' := by
  go_enter Try.func16, Try.ntmps16
  go_wp2
  refine bodyPost_ret (v := .int .i64 1) (by simp [results, Try.results16, go_sem]) rfl ?_
  exact ⟨rfl, rfl⟩
theorem wraps3 {E : Int} (h0 : 0 ≤ E) (h1 : E ≤ 16777216) : IntKind.i64.wrap (IntKind.i64.wrap (IntKind.i64.wrap (16777216 - E) - 1) - 1) = 16777216 - E - 1 - 1 := by
  have e1 : IntKind.i64.wrap (16777216 - E) = 16777216 - E := by simp [IntKind.wrap, IntKind.bits, IntKind.signed]; omega
  have e2 : IntKind.i64.wrap (16777216 - E - 1) = 16777216 - E - 1 := by simp [IntKind.wrap, IntKind.bits, IntKind.signed]; omega
  rw [e1, e2]
  simp [IntKind.wrap, IntKind.bits, IntKind.signed]; omega
def AppOut (w W : World) (p b : Nat) (j : Jn) (r : List UInt8) (X : Nat → Prop) (e : Ending) (W' : World) : Prop := e = .returned (.int .i64 (j.app r).1) ∧ JPost w W p b (j.app r).2 X W'
theorem app_failed (h : Jw w W p b j X) (hf : j.failed = true) (s : ByteArray) : Calls Try.prog 16 #[.pointer (some ⟨b, 0, none⟩), .string s] W (AppOut w W p b j s.data.toList X) := by
  have e : j.app s.data.toList = (30, j) := by unfold Jn.app; rw [if_pos hf]
  unfold AppOut
  rw [e]
  have H := Lib.hid (h.post (Below.refl _ W))
  have c3 : W.cell? ⟨b, 3, none⟩ = some (.bool true) := by rw [← hf]; exact h.full.cell 3
  clear h e hf
  go_enter Try.func16, Try.ntmps16
  go_wp2
  refine bodyPost_ret (v := .int .i64 30) (by simp [results, Try.results16, go_sem]) rfl ?_
  exact ⟨rfl, H.out⟩
theorem app_long (h : Jw w W p b j X) (hf : j.failed = false) (s : ByteArray) (hs : s.size ≤ 281474976710656) (hl : j.tooLong s.data.toList = true) : Calls Try.prog 16 #[.pointer (some ⟨b, 0, none⟩), .string s] W (AppOut w W p b j s.data.toList X) := by
  have e : j.app s.data.toList = (2, j) := by unfold Jn.app; rw [hf, hl]; rfl
  unfold AppOut
  rw [e]
  have hl' : 16777216 < j.e + (body s.data.toList).length + 2 := by unfold Jn.tooLong at hl; simpa using hl
  have HB := Lib.hid (fun W => bodySize_any s W hs)
  have hbb : (body s.data.toList).length ≤ 281474976710656 + 14 := by
    have := body_len s.data.toList; have := numL_ten (n := s.size) (by omega)
    rw [data_len] at *; omega
  obtain ⟨bl, hbl⟩ : ∃ bl, (body s.data.toList).length = bl := ⟨_, rfl⟩
  rw [hbl] at hl' HB hbb
  have hj := h.few
  have H := Lib.hid (fun W' hb => h.post (W' := W') hb)
  have c3 : W.cell? ⟨b, 3, none⟩ = some (.bool false) := by rw [← hf]; exact h.full.cell 3
  have c1 : W.cell? ⟨b, 1, none⟩ = some (.int .i64 (j.e : Int)) := h.full.cell 1
  have hlt := h.full.lt
  obtain ⟨E, hE⟩ : ∃ E, j.e = E := ⟨_, rfl⟩
  rw [hE] at hl' hj c1
  have i1 : (16777216 : Int) - (E : Int) - 1 - 1 < (bl : Int) := by omega
  have i2 : (E : Int) ≤ 16777216 := by omega
  have i3 : (0 : Int) ≤ (E : Int) := Int.natCast_nonneg _
  have hdec : decide (IntKind.i64.wrap (IntKind.i64.wrap (IntKind.i64.wrap (16777216 - (E : Int)) - 1) - 1) < (bl : Int)) = true := by rw [wraps3 i3 i2, decide_eq_true_eq]; exact i1
  have HK := Lib.hid (fun (W' : World) (hb : Below W.heap.size W W') => (hb.cell (p := ⟨b, 1, none⟩) hlt).trans c1)
  clear h e hf hl hbl hE hl' hlt
  go_enter Try.func16, Try.ntmps16
  go_upto_region 5 with fail
  have d1 : W.drew.cell? ⟨b, 1, none⟩ = some (.int .i64 (E : Int)) := c1
  go_region_held3 (fun w' => w'.cell? ⟨b, 1, none⟩ = some (.int .i64 (E : Int)))
    (first | (with_reducible exact d1) | (with_reducible exact x1) | (fail "keep"))
    (first
      | (go_at_call 37; ((with_reducible refine (HB.out _).mono ?_); rintro e w1 ⟨rfl, hb1⟩; (have HBX := Lib.hid (show Below W.heap.size W w1 from ⟨hb1.os, hb1.tape, hb1.output, hb1.size, hb1.block⟩)); (have x1 := HK.out w1 HBX.out)))
      | (fail "arm"))
  all_goals
    go_wp2
    refine bodyPost_ret (v := .int .i64 2) (by simp [results, Try.results16, go_sem]) rfl ?_
    exact ⟨rfl, H.out _ HBX.out⟩
/-- the calls, one by one -/
theorem step0 {Y : Nat → Prop} {r : List UInt8} {Bd : ByteArray} (hE : j.e ≤ 16777216) (hBs : Bd.data.toList = body r) (hBz : Bd.size ≤ 16777216) (hc : j.d.calls ≤ 90000) (h : Side w W p (j.D r 0) Y) :
    Calls Try.prog 59 #[addV p j.e Bd] W fun en W' => en = .returned (.int .i64 (j.er r 0)) ∧ SPost w W p (j.D r 1) Y W' := by
  have := writeBody_any h (Nat.le_trans (j.D_calls r 0) (by omega)) j.e Bd hE hBz
  rw [hBs, Jn.D0] at this
  rw [Jn.er0, Jn.D1]
  exact this
theorem step1 {Y : Nat → Prop} {r : List UInt8} (hc : j.d.calls ≤ 90000) (h : Side w W p (j.D r 1) Y) :
    Calls Try.prog 56 #[.pointer (some ⟨p, 0, none⟩)] W fun en W' => en = .returned (.int .i64 (j.er r 1)) ∧ SPost w W p (j.D r 2) Y W' := by
  have := h.sync (Nat.le_trans (j.D_calls r 1) (by omega))
  rw [Jn.D1] at this
  rw [Jn.er1, Jn.D2]
  exact this
theorem step2 {Y : Nat → Prop} {r : List UInt8} {Bd : ByteArray} (hE : j.e ≤ 16777216) (hc : j.d.calls ≤ 90000) (h : Side w W p (j.D r 2) Y) :
    Calls Try.prog 60 #[addV p j.e Bd] W fun en W' => en = .returned (.int .i64 (j.er r 2)) ∧ SPost w W p (j.D r 3) Y W' := by
  have := writeMark_any h (Nat.le_trans (j.D_calls r 2) (by omega)) j.e Bd hE
  rw [Jn.D2] at this
  rw [Jn.er2, Jn.D3]
  exact this
theorem step3 {Y : Nat → Prop} {r : List UInt8} (hc : j.d.calls ≤ 90000) (h : Side w W p (j.D r 3) Y) :
    Calls Try.prog 56 #[.pointer (some ⟨p, 0, none⟩)] W fun en W' => en = .returned (.int .i64 (j.er r 3)) ∧ SPost w W p (j.D r 4) Y W' := by
  have := h.sync (Nat.le_trans (j.D_calls r 3) (by omega))
  rw [Jn.D3] at this
  rw [Jn.er3, Jn.D4]
  exact this
/-- what Append's loop keeps -/
structure Lp (w ws wr : World) (p : Nat) (d : Dk) (Y : Nat → Prop) : Prop where
  side : Side w wr p d Y
  same : ∀ g, Y g → wr.heap[g]? = ws.heap[g]?
  size : ws.heap.size ≤ wr.heap.size
theorem Lp.next {ws wr W2 : World} {d d2 : Dk} {Y : Nat → Prop} (h : Lp w ws wr p d Y) (k : SPost w wr p d2 Y W2) : Lp w ws W2 p d2 Y :=
  ⟨k.1, fun g hg => (k.2.1 g hg).trans (h.same g hg), Nat.le_trans h.size k.2.2⟩
theorem er_split (v : Int) : v = 0 ∨ (v == 0) = false := by
  rcases Decidable.em (v = 0) with h | h
  · exact .inl h
  · right; simp [h]
theorem Lp.on {ws wr W2 : World} {d : Dk} {Y : Nat → Prop} (h : Lp w ws wr p d Y) (hb : Below wr.heap.size wr W2) : Lp w ws W2 p d Y := h.next (h.side.spost hb)
/-- the end of a call that has failed -/
theorem fin_stop {ws wr : World} {r : List UInt8} {ge gs k : Nat} (hJ : Jw w W p b j X) (hb : Below W.heap.size W ws) (h : Lp w ws wr p (j.D r (k + 1)) (fun g => (g = b ∨ X g) ∨ (g = ge ∨ g = gs)))
    (hf : j.failed = false) (hl : j.tooLong r = false) (hk : k < 4) (he : ∀ i, i < k → j.er r i = 0) (h0 : j.er r k ≠ 0) : AppOut w W p b j r X (.returned (.int .i64 30)) (wr.setCell ⟨b, 3, none⟩ (.bool true)) := by
  unfold AppOut
  rw [app_stop hf hl hk he h0]
  have hfull : Full wr b 73 (jV p j) := (h.same b (.inl (.inl rfl))).trans (hJ.full.on hb)
  obtain ⟨F, i1, i4⟩ := hJ.side.his
  refine ⟨rfl, ⟨(h.side.setX (.inl (.inl rfl)) hJ.ge 3 _).less (fun g hg => .inl hg), hfull.set_ 3 (.bool true), hJ.ge, hJ.out, hJ.few⟩, fun g hg => ?_, ?_⟩
  · have hne : g ≠ b := by rintro rfl; exact hJ.out hg
    exact (Below.heap_setCell _ _ _ _ hne).trans ((h.same g (.inl (.inr hg))).trans (hb.block g (i4 g (.inr hg)).2))
  · have := h.size; have := hb.size; simp [World.setCell]; omega
/-- the end of a call that has done all -/
theorem fin_done {ws wr : World} {r : List UInt8} {ge gs : Nat} (hJ : Jw w W p b j X) (hb : Below W.heap.size W ws) (h : Lp w ws wr p (j.D r 4) (fun g => (g = b ∨ X g) ∨ (g = ge ∨ g = gs)))
    (hf : j.failed = false) (hl : j.tooLong r = false) (he : ∀ i, i < 4 → j.er r i = 0) : AppOut w W p b j r X (.returned (.int .i64 0)) ((wr.setCell ⟨b, 1, none⟩ (.int .i64 ((j.e + 1 + (body r).length : Nat) : Int))).setCell ⟨b, 2, none⟩ (.int .i64 ((j.rs.length : Int) + 1))) := by
  unfold AppOut
  rw [app_done hf hl he]
  have hl' : j.e + (body r).length + 2 ≤ 16777216 := by unfold Jn.tooLong at hl; simpa using hl
  have hfull : Full wr b 73 (jV p j) := (h.same b (.inl (.inl rfl))).trans (hJ.full.on hb)
  obtain ⟨F, i1, i4⟩ := hJ.side.his
  obtain ⟨D4, hD4⟩ : ∃ D4, j.D r 4 = D4 := ⟨_, rfl⟩
  rw [hD4] at h ⊢
  have hE : (Jn.mk D4 (j.rs ++ [r]) false).e = j.e + 1 + (body r).length := by
    unfold Jn.e
    rw [fl_snoc, List.length_append, frame_len]; omega
  refine ⟨rfl, ⟨((h.side.setX (.inl (.inl rfl)) hJ.ge 1 _).setX (.inl (.inl rfl)) hJ.ge 2 _).less (fun g hg => .inl hg), ?_, hJ.ge, hJ.out, by rw [hE]; omega⟩, fun g hg => ?_, ?_⟩
  · have := (hfull.set_ 1 (.int .i64 ((j.e + 1 + (body r).length : Nat) : Int))).set_ 2 (.int .i64 ((j.rs.length : Int) + 1))
    unfold jV at this ⊢
    rw [hE]
    rw [hf] at this
    simp only [List.length_append, List.length_cons, List.length_nil, Int.natCast_add]
    exact this
  · have hne : g ≠ b := by rintro rfl; exact hJ.out hg
    exact (Below.heap_setCell _ _ _ _ hne).trans ((Below.heap_setCell _ _ _ _ hne).trans ((h.same g (.inl (.inr hg))).trans (hb.block g (i4 g (.inr hg)).2)))
  · have := h.size; have := hb.size; simp [World.setCell]; omega
set_option maxHeartbeats 8000000 in
theorem app_main (h : Jw w W p b j X) (hc : j.d.calls ≤ 90000) (hf : j.failed = false) (s : ByteArray) (hs : s.size ≤ 281474976710656) (hl : j.tooLong s.data.toList = false) : Calls Try.prog 16 #[.pointer (some ⟨b, 0, none⟩), .string s] W (AppOut w W p b j s.data.toList X) := by
  have hl' : j.e + (body s.data.toList).length + 2 ≤ 16777216 := by unfold Jn.tooLong at hl; simpa using hl
  have HB := Lib.hid (fun W => bodySize_any s W hs)
  have HBD := Lib.hid (fun W => body_any s W hs)
  obtain ⟨r, hr⟩ : ∃ r, s.data.toList = r := ⟨_, rfl⟩
  rw [hr] at HB HBD hl hl' ⊢
  obtain ⟨bl, hbl⟩ : ∃ bl, (body r).length = bl := ⟨_, rfl⟩
  obtain ⟨Bd, hBd⟩ : ∃ Bd, str (body r) = Bd := ⟨_, rfl⟩
  have hBs : Bd.data.toList = body r := by rw [← hBd, str_data]
  have hBz : Bd.size = bl := by rw [← hBd, str_size, hbl]
  rw [hbl] at hl' HB
  rw [hBd] at HBD
  have c3 : W.cell? ⟨b, 3, none⟩ = some (.bool false) := by rw [← hf]; exact h.full.cell 3
  have c1 : W.cell? ⟨b, 1, none⟩ = some (.int .i64 (j.e : Int)) := h.full.cell 1
  have c0 : W.cell? ⟨b, 0, none⟩ = some (.pointer (some ⟨p, 0, none⟩)) := h.full.cell 0
  have hlt := h.full.lt
  obtain ⟨E, hE⟩ : ∃ E, j.e = E := ⟨_, rfl⟩
  rw [hE] at hl' c1
  have i1 : (bl : Int) ≤ (16777216 : Int) - (E : Int) - 1 - 1 := by omega
  have i2 : (E : Int) ≤ 16777216 := by omega
  have i3 : (0 : Int) ≤ (E : Int) := Int.natCast_nonneg _
  have hdec : decide (IntKind.i64.wrap (IntKind.i64.wrap (IntKind.i64.wrap (16777216 - (E : Int)) - 1) - 1) < (bl : Int)) = false := by rw [wraps3 i3 i2, decide_eq_false_iff_not]; omega
  have HK := Lib.hid (fun (W' : World) (hb : Below W.heap.size W W') => (show W'.cell? ⟨b, 1, none⟩ = some (.int .i64 (E : Int)) ∧ W'.cell? ⟨b, 0, none⟩ = some (.pointer (some ⟨p, 0, none⟩)) from ⟨(hb.cell (p := ⟨b, 1, none⟩) hlt).trans c1, (hb.cell (p := ⟨b, 0, none⟩) hlt).trans c0⟩))
  have H := Lib.hid h
  have HL := Lib.hid hl'
  have HLT := Lib.hid hl
  have HF := Lib.hid hf
  have HBS := Lib.hid hBs
  have HBZ := Lib.hid hBz
  have HE := Lib.hid hE
  have HBL := Lib.hid hbl
  have HC := Lib.hid hc
  clear h hf hl hbl hE hl' hlt hr hBd hBs hBz hc i1
  go_enter Try.func16, Try.ntmps16
  go_upto_region 5 with fail
  have d1 : W.drew.cell? ⟨b, 1, none⟩ = some (.int .i64 (E : Int)) := c1
  have HBX0 : Hid (Below W.heap.size W W) := Lib.hid (Below.refl _ W)
  go_region_held3 (fun w' => w'.cell? ⟨b, 1, none⟩ = some (.int .i64 (E : Int)))
    (first | (with_reducible exact d1) | (with_reducible exact x1) | (fail "keep"))
    (first
      | (go_at_call 37; ((with_reducible refine (HB.out _).mono ?_); rintro e w1 ⟨rfl, hb1⟩; (have HBX := Lib.hid (show Below W.heap.size W w1 from ⟨hb1.os, hb1.tape, hb1.output, hb1.size, hb1.block⟩)); (have x1 := (HK.out w1 HBX.out).1)))
      | (fail "arm"))
  all_goals
    clear hb1 hdec d1 c1 c0 c3 x1
    obtain ⟨u23, hu23⟩ : ∃ u, Value.int IntKind.i64 (IntKind.i64.wrap (16777216 - (E : Int))) = u := ⟨_, rfl⟩
    rw [hu23]
    obtain ⟨u24, hu24⟩ : ∃ u, Value.int IntKind.i64 (IntKind.i64.wrap (IntKind.i64.wrap (16777216 - (E : Int)) - 1)) = u := ⟨_, rfl⟩
    rw [hu24]
    obtain ⟨u25, hu25⟩ : ∃ u, Value.int IntKind.i64 (IntKind.i64.wrap (IntKind.i64.wrap (IntKind.i64.wrap (16777216 - (E : Int)) - 1) - 1)) = u := ⟨_, rfl⟩
    rw [hu25]
    clear hu23 hu24 hu25
    go_upto_region 7 with fail
    go_cut [5] from 27 to 37 (fun v5 wx => ∃ ge, v5 = .pointer (some ⟨ge, 0, none⟩) ∧ Full wx ge 81 [.pointer (some ⟨p, 0, none⟩), .int .i64 (E : Int), .string Bd] ∧ w1.heap.size ≤ ge ∧ Below w1.heap.size w1 wx)
    case first =>
      have HK1 := Lib.hid (fun (W' : World) (hb : Below w1.heap.size w1 W') => HK.out W' (Below.then_ HBX.out hb))
      have n1 : w1.drew.cell? ⟨b, 1, none⟩ = some (.int .i64 (E : Int)) := (HK.out w1 HBX.out).1
      have n0 : w1.drew.cell? ⟨b, 0, none⟩ = some (.pointer (some ⟨p, 0, none⟩)) := (HK.out w1 HBX.out).2
      have bq : Below w1.heap.size w1 w1.drew := (Below.refl _ w1).drew
      have BQ := Lib.hid bq
      clear bq
      have BZ : Hid (Below w1.heap.size w1 (w1.alloc (.cells #[.pointer none, .int .i64 0, .string ⟨#[]⟩] 81)).drew) := Lib.hid (((Below.refl _ w1).alloc (Nat.le_refl _) _).drew)
      have FZ : Hid (Full (w1.alloc (.cells #[.pointer none, .int .i64 0, .string ⟨#[]⟩] 81)).drew w1.heap.size 81 [.pointer none, .int .i64 0, .string ⟨#[]⟩]) := Lib.hid (Full.new w1 81 [.pointer none, .int .i64 0, .string ⟨#[]⟩])
      go_region_held3 (fun w' => w'.cell? ⟨b, 1, none⟩ = some (.int .i64 (E : Int)) ∧ w'.cell? ⟨b, 0, none⟩ = some (.pointer (some ⟨p, 0, none⟩)))
        (first | (with_reducible exact ⟨n1, n0⟩) | (with_reducible exact m0) | (exact HK1.out _ BZ.out) | (exact HK1.out _ (((HBY.out.setCell (Nat.le_refl _) _).setCell (Nat.le_refl _) _).setCell (Nat.le_refl _) _)) | (exact HK1.out _ (HBY.out.alloc HBY.out.size _)) | (fail "keep"))
        (first
          | (go_at_call 38; ((with_reducible refine (HBD.out w1.drew).mono ?_); rintro e w2 ⟨rfl, hb2⟩; (have HBY := Lib.hid (Below.then_ BQ.out hb2)); (have m0 := HK1.out w2 HBY.out)))
          | (go_at_call 38; ((with_reducible refine (HBD.out (w1.alloc (.cells #[.pointer none, .int .i64 0, .string ⟨#[]⟩] 81)).drew).mono ?_); rintro e w2 ⟨rfl, hb2⟩; (have HBY := Lib.hid (Below.then_ BZ.out hb2)); (have m0 := HK1.out w2 HBY.out); (have hf1 := FZ.out.on hb2); (have HF1 := Lib.hid hf1); (have e0 : w2.cell? ⟨w1.heap.size, 0, none⟩ = some (.pointer none) := hf1.cell 0); (have e1 : w2.cell? ⟨w1.heap.size, 1, none⟩ = some (.int .i64 0) := hf1.cell 1); (have e2 : w2.cell? ⟨w1.heap.size, 2, none⟩ = some (.string ⟨#[]⟩) := hf1.cell 2); (have y0 := hf1.frozen 0); (have y1 := hf1.frozen 1); (have y2 := hf1.frozen 2); clear hf1))
          | (fail "arm"))
      all_goals (go_wp2_with fail; go_meet)
      all_goals
        first
          | exact ⟨_, rfl, Full.new w2 81 [.pointer (some ⟨p, 0, none⟩), .int .i64 (E : Int), .string Bd], HBY.out.size, HBY.out.alloc HBY.out.size _⟩
          | exact ⟨_, rfl, ((HF1.out.set_ 0 (.pointer (some ⟨p, 0, none⟩))).set_ 1 (.int .i64 (E : Int))).set_ 2 (.string Bd), Nat.le_refl _, ((HBY.out.setCell (Nat.le_refl _) _).setCell (Nat.le_refl _) _).setCell (Nat.le_refl _) _⟩
    case rest =>
      obtain ⟨ge, rfl, hFe, hge, hbc⟩ := hcut
      have hBc : Below W.heap.size W wc := Below.then_ HBX.out hbc
      have HBc := Lib.hid hBc
      have f0 : wc.cell? ⟨ge, 0, none⟩ = some (.pointer (some ⟨p, 0, none⟩)) := hFe.cell 0
      have f1 : wc.cell? ⟨ge, 1, none⟩ = some (.int .i64 (E : Int)) := hFe.cell 1
      have f2 : wc.cell? ⟨ge, 2, none⟩ = some (.string Bd) := hFe.cell 2
      have ST := Lib.hid (steps_any p E Bd wc)
      unfold addV at ST
      have HFE := Lib.hid hFe
      have HGE := Lib.hid (show W.heap.size ≤ ge from Nat.le_trans HBX.out.size hge)
      clear hFe hge hBc hbc HBX
      go_upto_region 9 with (go_at_call 39; ((with_reducible refine ST.out.mono ?_); rintro e ws ⟨gs, rfl, hfs, hgs, hbs⟩))
      have HJ := Lib.hid (H.out.on (Below.then_ HBc.out hbs))
      have hY : Side w ws p j.d (fun g => (g = b ∨ X g) ∨ (g = ge ∨ g = gs)) := H.out.side.plus (Below.then_ HBc.out hbs) (fun g hg => by
        have h1 := HGE.out; have h2 := HBc.out.size; have h3 := hfs.lt; have h4 := HFE.out.lt; have h5 := hbs.size
        rcases hg with rfl | rfl <;> omega)
      have HBS2 := Lib.hid (Below.then_ HBc.out hbs)
      have hBdz : Bd.size ≤ 16777216 := by have := HL.out; rw [HBZ.out]; omega
      have hEE : j.e = E := HE.out
      have C0 : Hid (∀ wr, Side w wr p (j.D r 0) (fun g => (g = b ∨ X g) ∨ (g = ge ∨ g = gs)) → Calls Try.prog 59 #[.agg #[.pointer (some ⟨p, 0, none⟩), .int .i64 (E : Int), .string Bd]] wr fun en W' => en = .returned (.int .i64 (j.er r 0)) ∧ SPost w wr p (j.D r 1) (fun g => (g = b ∨ X g) ∨ (g = ge ∨ g = gs)) W') :=
        Lib.hid fun wr hS => by have := step0 (Bd := Bd) H.out.few HBS.out hBdz HC.out hS; rw [hEE] at this; exact this
      have C1 : Hid (∀ wr, Side w wr p (j.D r 1) (fun g => (g = b ∨ X g) ∨ (g = ge ∨ g = gs)) → Calls Try.prog 56 #[.pointer (some ⟨p, 0, none⟩)] wr fun en W' => en = .returned (.int .i64 (j.er r 1)) ∧ SPost w wr p (j.D r 2) (fun g => (g = b ∨ X g) ∨ (g = ge ∨ g = gs)) W') :=
        Lib.hid fun wr hS => by have := step1 HC.out hS; exact this
      have C2 : Hid (∀ wr, Side w wr p (j.D r 2) (fun g => (g = b ∨ X g) ∨ (g = ge ∨ g = gs)) → Calls Try.prog 60 #[.agg #[.pointer (some ⟨p, 0, none⟩), .int .i64 (E : Int), .string Bd]] wr fun en W' => en = .returned (.int .i64 (j.er r 2)) ∧ SPost w wr p (j.D r 3) (fun g => (g = b ∨ X g) ∨ (g = ge ∨ g = gs)) W') :=
        Lib.hid fun wr hS => by have := step2 (Bd := Bd) H.out.few HC.out hS; rw [hEE] at this; exact this
      have C3 : Hid (∀ wr, Side w wr p (j.D r 3) (fun g => (g = b ∨ X g) ∨ (g = ge ∨ g = gs)) → Calls Try.prog 56 #[.pointer (some ⟨p, 0, none⟩)] wr fun en W' => en = .returned (.int .i64 (j.er r 3)) ∧ SPost w wr p (j.D r 4) (fun g => (g = b ∨ X g) ∨ (g = ge ∨ g = gs)) W') :=
        Lib.hid fun wr hS => by have := step3 HC.out hS; exact this
      have FS : Hid (∀ k wr, k < 4 → Lp w ws wr p (j.D r (k + 1)) (fun g => (g = b ∨ X g) ∨ (g = ge ∨ g = gs)) → (∀ i, i < k → j.er r i = 0) → (j.er r k == 0) = false → AppOut w W p b j r X (.returned (.int .i64 30)) (wr.setCell ⟨b, 3, none⟩ (.bool true))) :=
        Lib.hid fun k wr hk hL he h0 => fin_stop H.out HBS2.out hL HF.out HLT.out hk he (by intro e; rw [e] at h0; cases h0)
      have FD : Hid (∀ wr, Lp w ws wr p (j.D r 4) (fun g => (g = b ∨ X g) ∨ (g = ge ∨ g = gs)) → (∀ i, i < 4 → j.er r i = 0) → AppOut w W p b j r X (.returned (.int .i64 0)) ((wr.setCell ⟨b, 1, none⟩ (.int .i64 ((E + 1 + Bd.size : Nat) : Int))).setCell ⟨b, 2, none⟩ (.int .i64 ((j.rs.length : Int) + 1)))) :=
        Lib.hid fun wr hL he => by
          have := fin_done H.out HBS2.out hL HF.out HLT.out he
          rw [HE.out, HBL.out, ← HBZ.out] at this
          exact this
      have hL0 : Lp w ws ws p (j.D r 0) (fun g => (g = b ∨ X g) ∨ (g = ge ∨ g = gs)) := ⟨by rw [Jn.D0]; exact hY, fun _ _ => rfl, Nat.le_refl _⟩
      obtain ⟨ER, hER⟩ : ∃ ER, j.er r = ER := ⟨_, rfl⟩
      obtain ⟨DD, hDD⟩ : ∃ DD, j.D r = DD := ⟨_, rfl⟩
      rw [hER] at C0 C1 C2 C3 FS FD
      rw [hDD] at C0 C1 C2 C3 FS FD hL0
      have HL0 := Lib.hid hL0
      have HFS := Lib.hid hfs
      have HFW := Lib.hid (HFE.out.on hbs)
      clear hY hfs hgs hbs f0 f1 f2 ST hL0 hER hDD HBX0 hEE
      go_loopw [41] (fun v41 wr => ∃ k : Nat, v41 = .int .i64 (k : Int) ∧ k ≤ 4 ∧ Hid (Lp w ws wr p (DD k) (fun g => (g = b ∨ X g) ∨ (g = ge ∨ g = gs))) ∧ Hid (∀ i, i < k → ER i = 0)) (fun v41 _ => 4 - (intOf v41).toNat)
      case atStart => exact ⟨0, rfl, by omega, HL0, Lib.hid (fun i hi => by omega)⟩
      case round =>
        obtain ⟨k, rfl, hk, HLk, HEk⟩ := hrel
        have F1 := Lib.hid (show Full wr gs 78 (stepsV p E Bd) from (HLk.out.same gs (.inr (.inr rfl))).trans HFS.out)
        have F2 := Lib.hid (show Full wr b 73 (jV p j) from (HLk.out.same b (.inl (.inl rfl))).trans HJ.out.full)
        obtain rfl | rfl | rfl | rfl | rfl : k = 0 ∨ k = 1 ∨ k = 2 ∨ k = 3 ∨ k = 4 := by omega
        · have CK := Lib.hid (C0.out wr HLk.out.side)
          have x0 : wr.cell? ⟨gs, 0, none⟩ = some (.func (.func 59) #[.agg #[.pointer (some ⟨p, 0, none⟩), .int .i64 (E : Int), .string Bd]] #[]) := F1.out.cell 0
          rw [show ((0 : Nat) : Int) = 0 from rfl]
          have HS := Lib.hid (FS.out 0)
          obtain ⟨v, hv⟩ : ∃ v, ER 0 = v := ⟨_, rfl⟩
          have HV := Lib.hid hv
          rw [hv] at CK HS
          clear hv
          rcases er_split v with rfl | hne
          · go_wp2_with (first
              | (go_at_call 59; ((with_reducible refine CK.out.mono ?_); rintro e w3 ⟨rfl, hp3⟩))
              | (fail "arm"))
            have HL3 := Lib.hid (HLk.out.next hp3)
            clear hp3
            go_roundw
            case rel => exact ⟨1, rfl, by omega, HL3, Lib.hid (fun i hi => by
              rcases Nat.lt_or_ge i 0 with h | h
              · exact HEk.out i h
              · obtain rfl : i = 0 := by omega
                exact HV.out)⟩
            case measure => simp [intOf]
          · go_wp2_with (first
              | (go_at_call 59; ((with_reducible refine CK.out.mono ?_); rintro e w3 ⟨rfl, hp3⟩; (have HL3 := Lib.hid (HLk.out.next hp3)); (have F4 := Lib.hid (show Full w3 b 73 (jV p j) from (HL3.out.same b (.inl (.inl rfl))).trans HJ.out.full)); (have z3 : w3.frozen? ⟨b, 3, none⟩ = false := F4.out.frozen 3); (have y3 : w3.cell? ⟨b, 3, none⟩ = some (.bool j.failed) := F4.out.cell 3); (rw [HF.out] at y3); clear hp3))
              | (fail "arm"))
            refine bodyPost_ret (v := .int .i64 30) (by simp [results, Try.results16, go_sem]) rfl ?_
            exact HS.out _ (by omega) HL3.out HEk.out hne
        · have CK := Lib.hid (C1.out wr HLk.out.side)
          have x0 : wr.cell? ⟨gs, 1, none⟩ = some (.func (.func 56) #[.pointer (some ⟨p, 0, none⟩)] #[]) := F1.out.cell 1
          rw [show ((1 : Nat) : Int) = 1 from rfl]
          have HS := Lib.hid (FS.out 1)
          obtain ⟨v, hv⟩ : ∃ v, ER 1 = v := ⟨_, rfl⟩
          have HV := Lib.hid hv
          rw [hv] at CK HS
          clear hv
          rcases er_split v with rfl | hne
          · go_wp2_with (first
              | (go_at_call 56; ((with_reducible refine CK.out.mono ?_); rintro e w3 ⟨rfl, hp3⟩))
              | (fail "arm"))
            have HL3 := Lib.hid (HLk.out.next hp3)
            clear hp3
            go_roundw
            case rel => exact ⟨2, rfl, by omega, HL3, Lib.hid (fun i hi => by
              rcases Nat.lt_or_ge i 1 with h | h
              · exact HEk.out i h
              · obtain rfl : i = 1 := by omega
                exact HV.out)⟩
            case measure => simp [intOf]
          · go_wp2_with (first
              | (go_at_call 56; ((with_reducible refine CK.out.mono ?_); rintro e w3 ⟨rfl, hp3⟩; (have HL3 := Lib.hid (HLk.out.next hp3)); (have F4 := Lib.hid (show Full w3 b 73 (jV p j) from (HL3.out.same b (.inl (.inl rfl))).trans HJ.out.full)); (have z3 : w3.frozen? ⟨b, 3, none⟩ = false := F4.out.frozen 3); (have y3 : w3.cell? ⟨b, 3, none⟩ = some (.bool j.failed) := F4.out.cell 3); (rw [HF.out] at y3); clear hp3))
              | (fail "arm"))
            refine bodyPost_ret (v := .int .i64 30) (by simp [results, Try.results16, go_sem]) rfl ?_
            exact HS.out _ (by omega) HL3.out HEk.out hne
        · have CK := Lib.hid (C2.out wr HLk.out.side)
          have x0 : wr.cell? ⟨gs, 2, none⟩ = some (.func (.func 60) #[.agg #[.pointer (some ⟨p, 0, none⟩), .int .i64 (E : Int), .string Bd]] #[]) := F1.out.cell 2
          rw [show ((2 : Nat) : Int) = 2 from rfl]
          have HS := Lib.hid (FS.out 2)
          obtain ⟨v, hv⟩ : ∃ v, ER 2 = v := ⟨_, rfl⟩
          have HV := Lib.hid hv
          rw [hv] at CK HS
          clear hv
          rcases er_split v with rfl | hne
          · go_wp2_with (first
              | (go_at_call 60; ((with_reducible refine CK.out.mono ?_); rintro e w3 ⟨rfl, hp3⟩))
              | (fail "arm"))
            have HL3 := Lib.hid (HLk.out.next hp3)
            clear hp3
            go_roundw
            case rel => exact ⟨3, rfl, by omega, HL3, Lib.hid (fun i hi => by
              rcases Nat.lt_or_ge i 2 with h | h
              · exact HEk.out i h
              · obtain rfl : i = 2 := by omega
                exact HV.out)⟩
            case measure => simp [intOf]
          · go_wp2_with (first
              | (go_at_call 60; ((with_reducible refine CK.out.mono ?_); rintro e w3 ⟨rfl, hp3⟩; (have HL3 := Lib.hid (HLk.out.next hp3)); (have F4 := Lib.hid (show Full w3 b 73 (jV p j) from (HL3.out.same b (.inl (.inl rfl))).trans HJ.out.full)); (have z3 : w3.frozen? ⟨b, 3, none⟩ = false := F4.out.frozen 3); (have y3 : w3.cell? ⟨b, 3, none⟩ = some (.bool j.failed) := F4.out.cell 3); (rw [HF.out] at y3); clear hp3))
              | (fail "arm"))
            refine bodyPost_ret (v := .int .i64 30) (by simp [results, Try.results16, go_sem]) rfl ?_
            exact HS.out _ (by omega) HL3.out HEk.out hne
        · have CK := Lib.hid (C3.out wr HLk.out.side)
          have x0 : wr.cell? ⟨gs, 3, none⟩ = some (.func (.func 56) #[.pointer (some ⟨p, 0, none⟩)] #[]) := F1.out.cell 3
          rw [show ((3 : Nat) : Int) = 3 from rfl]
          have HS := Lib.hid (FS.out 3)
          obtain ⟨v, hv⟩ : ∃ v, ER 3 = v := ⟨_, rfl⟩
          have HV := Lib.hid hv
          rw [hv] at CK HS
          clear hv
          rcases er_split v with rfl | hne
          · go_wp2_with (first
              | (go_at_call 56; ((with_reducible refine CK.out.mono ?_); rintro e w3 ⟨rfl, hp3⟩))
              | (fail "arm"))
            have HL3 := Lib.hid (HLk.out.next hp3)
            clear hp3
            go_roundw
            case rel => exact ⟨4, rfl, by omega, HL3, Lib.hid (fun i hi => by
              rcases Nat.lt_or_ge i 3 with h | h
              · exact HEk.out i h
              · obtain rfl : i = 3 := by omega
                exact HV.out)⟩
            case measure => simp [intOf]
          · go_wp2_with (first
              | (go_at_call 56; ((with_reducible refine CK.out.mono ?_); rintro e w3 ⟨rfl, hp3⟩; (have HL3 := Lib.hid (HLk.out.next hp3)); (have F4 := Lib.hid (show Full w3 b 73 (jV p j) from (HL3.out.same b (.inl (.inl rfl))).trans HJ.out.full)); (have z3 : w3.frozen? ⟨b, 3, none⟩ = false := F4.out.frozen 3); (have y3 : w3.cell? ⟨b, 3, none⟩ = some (.bool j.failed) := F4.out.cell 3); (rw [HF.out] at y3); clear hp3))
              | (fail "arm"))
            refine bodyPost_ret (v := .int .i64 30) (by simp [results, Try.results16, go_sem]) rfl ?_
            exact HS.out _ (by omega) HL3.out HEk.out hne
        · rw [show ((4 : Nat) : Int) = 4 from rfl]
          have F3 := Lib.hid (show Full wr ge 81 [.pointer (some ⟨p, 0, none⟩), .int .i64 (E : Int), .string Bd] from (HLk.out.same ge (.inr (.inl rfl))).trans HFW.out)
          have g0 : wr.cell? ⟨ge, 0, none⟩ = some (.pointer (some ⟨p, 0, none⟩)) := F3.out.cell 0
          have g1 : wr.cell? ⟨ge, 1, none⟩ = some (.int .i64 (E : Int)) := F3.out.cell 1
          have g2 : wr.cell? ⟨ge, 2, none⟩ = some (.string Bd) := F3.out.cell 2
          have BH := Lib.hid (behind_any p E Bd wr (by omega) hBdz)
          unfold addV at BH
          have hrf := H.out.rs_few
          have HDN := Lib.hid (fun wr' hL => FD.out wr' hL HEk.out)
          obtain ⟨N, hN⟩ : ∃ N, j.rs.length = N := ⟨_, rfl⟩
          have HN := Lib.hid hN
          rw [hN] at HDN hrf
          obtain ⟨M, hM⟩ : ∃ M : Int, ((E + 1 + Bd.size : Nat) : Int) = M := ⟨_, rfl⟩
          rw [hM] at HDN BH
          have n1 : (N : Int) ≤ 16777216 := by omega
          have n0 : (0 : Int) ≤ (N : Int) := Int.natCast_nonneg _
          clear hN hM
          go_wp2_with (first
            | (go_at_call 40; ((with_reducible refine BH.out.mono ?_); rintro e w3 ⟨rfl, hb3⟩; (have HL3 := Lib.hid (HLk.out.on hb3)); (have F4 := Lib.hid (show Full w3 b 73 (jV p j) from (HL3.out.same b (.inl (.inl rfl))).trans HJ.out.full)); (have z1 : w3.frozen? ⟨b, 1, none⟩ = false := F4.out.frozen 1); (have y1 : w3.cell? ⟨b, 1, none⟩ = some (.int .i64 (j.e : Int)) := F4.out.cell 1); (have F5 := Lib.hid (F4.out.set_ 1 (.int .i64 M))); (have z2 : (w3.setCell ⟨b, 1, none⟩ (.int .i64 M)).frozen? ⟨b, 2, none⟩ = false := F5.out.frozen 2); (have y2 : (w3.setCell ⟨b, 1, none⟩ (.int .i64 M)).cell? ⟨b, 2, none⟩ = some (.int .i64 (N : Int)) := HN.out ▸ F5.out.cell 2); clear hb3))
            | (fail "arm"))
          refine bodyPost_ret (v := .int .i64 0) (by simp [results, Try.results16, go_sem]) rfl ?_
          exact HDN.out _ HL3.out
/-- Append -/
theorem app_any (h : Jw w W p b j X) (hc : j.d.calls ≤ 90000) (s : ByteArray) (hs : s.size ≤ 281474976710656) : Calls Try.prog 16 #[.pointer (some ⟨b, 0, none⟩), .string s] W (AppOut w W p b j s.data.toList X) := by
  cases hf : j.failed with
  | true => exact app_failed h hf s
  | false =>
    cases hl : j.tooLong s.data.toList with
    | true => exact app_long h hf s hs hl
    | false => exact app_main h hc hf s hs hl
end
end Go.Proofs.Ythhpnlobhffimaa
