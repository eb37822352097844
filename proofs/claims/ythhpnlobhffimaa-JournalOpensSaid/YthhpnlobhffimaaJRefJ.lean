/- The reference's journal: Append, Many. -/
import Derived.Test.YthhpnlobhffimaaJKit3
import Derived.Test.YthhpnlobhffimaaRefW
import Derived.Deep.RegionHeldLaw
namespace Go.Proofs.Ythhpnlobhffimaa
set_option maxRecDepth 100000
open Go.RowKit
/-- A disk of the reference at q holds d; the blocks of X are not its. -/
structure RSide (w W : World) (q : Nat) (d : Dk) (X : Nat → Prop) : Prop where
  bel : Below w.heap.size w W
  his : ∃ G, IsR w.heap.size W q d G ∧ ∀ g, X g → ¬ G g ∧ g < W.heap.size
def RS (w W : World) (q : Nat) (d : Dk) (X : Nat → Prop) (W' : World) : Prop := RSide w W' q d X ∧ (∀ g, X g → W'.heap[g]? = W.heap[g]?) ∧ W.heap.size ≤ W'.heap.size
section
variable {w W W' : World} {q g : Nat} {d d' : Dk} {X : Nat → Prop} {j : Jn}
theorem RSide.on (h : RSide w W q d X) (hb : Below W.heap.size W W') : RSide w W' q d X := by
  obtain ⟨G, h1, h4⟩ := h.his
  exact ⟨Below.then_ h.bel hb, G, h1.on hb, fun g hg => ⟨(h4 g hg).1, Nat.lt_of_lt_of_le (h4 g hg).2 hb.size⟩⟩
theorem RSide.less {Y : Nat → Prop} (h : RSide w W q d X) (hY : ∀ g, Y g → X g) : RSide w W q d Y := by
  obtain ⟨G, i1, i4⟩ := h.his
  exact ⟨h.bel, G, i1, fun g hg => i4 g (hY g hg)⟩
theorem RSide.spost (h : RSide w W q d X) (hb : Below W.heap.size W W') : RS w W q d X W' := by
  obtain ⟨G, h1, h4⟩ := h.his
  exact ⟨h.on hb, fun g hg => hb.block g (h4 g hg).2, hb.size⟩
theorem RS.trans {d2 : Dk} {A B C : World} (h : RS w A q d X B) (k : RS w B q d2 X C) : RS w A q d2 X C := ⟨k.1, fun g hg => (k.2.1 g hg).trans (h.2.1 g hg), Nat.le_trans h.2.2 k.2.2⟩
theorem RSide.setX (h : RSide w W q d X) {b : Nat} (hg : X b) (hb : w.heap.size ≤ b) (i : Nat) (u : Value) : RSide w (W.setCell ⟨b, i, none⟩ u) q d X := by
  obtain ⟨F, i1, i4⟩ := h.his
  refine ⟨h.bel.setCell hb _, F, i1.keep (fun k hk => Below.heap_setCell _ _ _ _ (by rintro rfl; exact (i4 _ hg).1 hk)) (by simp [World.setCell]), fun k hk => ⟨(i4 k hk).1, by simpa [World.setCell] using (i4 k hk).2⟩⟩
theorem RSide.callR (h : RSide w W q d X) {f : FuncId} {args : Array Value} {P : Ending → Prop}
    (hc : ∀ F, IsR w.heap.size W q d F → Calls Try.prog f args W fun e W' => P e ∧ ∃ F', IsR w.heap.size W' q d' F' ∧ Goes F W W' F') :
    Calls Try.prog f args W fun e W' => P e ∧ RS w W q d' X W' := by
  obtain ⟨F, i1, i4⟩ := h.his
  refine (hc F i1).mono ?_
  rintro e W' ⟨he, F', j1, j2⟩
  refine ⟨he, ⟨h.bel.trans (j2.below (fun g hg => (i1.in_ g hg).1) h.bel.size), F', j1, fun g hg => ?_⟩, fun g hg => j2.turn.block g (i4 g hg).2 (i4 g hg).1, j2.turn.size⟩
  obtain ⟨k1, k4⟩ := i4 g hg
  refine ⟨fun e => ?_, Nat.lt_of_lt_of_le k4 j2.turn.size⟩
  rcases j2.back g e with e | e
  · exact k1 e
  · omega
theorem RSide.write (h : RSide w W q d X) (hc : d.calls ≤ 100000) (off : Int) (sl : List UInt8) (ho : off ≤ 9223372036854775807) (hs : sl.length ≤ 1099511627776) :
    Calls Try.prog 32 #[.pointer (some ⟨q, 0, none⟩), .int .i64 off, .string (str sl)] W fun e W' => e = .returned (.int .i64 (d.wErr off sl)) ∧ RS w W q (d.write off sl) X W' :=
  h.callR fun _ hF => rwrite_any hF hc off sl ho hs
theorem RSide.sync (h : RSide w W q d X) (hc : d.calls ≤ 100000) :
    Calls Try.prog 46 #[.pointer (some ⟨q, 0, none⟩)] W fun e W' => e = .returned (.int .i64 d.sErr) ∧ RS w W q d.sync X W' :=
  h.callR fun F hF => (rsync_any hF (by omega)).mono fun e W' ⟨he, h1, h2⟩ => ⟨he, F, h1, Goes.same (h2.mono fun g e => by subst e; exact hF.self)⟩
theorem RSide.fail (h : RSide w W q d X) (x : Int) (hx : -1 ≤ x ∧ x ≤ 1000000) :
    Calls Try.prog 22 #[.pointer (some ⟨q, 0, none⟩), .int .i64 x] W fun e W' => e = .returned (.tuple #[]) ∧ RS w W q (d.fail x) X W' :=
  h.callR fun F hF => (rfail_any hF x hx).mono fun e W' ⟨he, h1, h2⟩ => ⟨he, F, h1, Goes.same (h2.mono fun g e => by subst e; exact hF.self)⟩
/-- A journal of the reference at g. -/
structure RJ (w W : World) (q g : Nat) (j : Jn) (X : Nat → Prop) : Prop where
  side : RSide w W q j.d (fun h => h = g ∨ X h)
  full : Full W g 94 (jV q j)
  ge : w.heap.size ≤ g
  out : ¬ X g
  few : j.e ≤ 16777216
def RP (w W : World) (q g : Nat) (j : Jn) (X : Nat → Prop) (W' : World) : Prop := RJ w W' q g j X ∧ (∀ h, X h → W'.heap[h]? = W.heap[h]?) ∧ W.heap.size ≤ W'.heap.size
theorem RJ.on (h : RJ w W q g j X) (hb : Below W.heap.size W W') : RJ w W' q g j X := ⟨h.side.on hb, h.full.on hb, h.ge, h.out, h.few⟩
theorem RJ.post (h : RJ w W q g j X) (hb : Below W.heap.size W W') : RP w W q g j X W' := by
  obtain ⟨F, i1, i4⟩ := h.side.his
  exact ⟨h.on hb, fun g hg => hb.block g (i4 g (.inr hg)).2, hb.size⟩
theorem rmany_any (h : RJ w W q g j X) : Calls Try.prog 27 #[.pointer (some ⟨g, 0, none⟩)] W fun e w' => e = .returned (.int .i64 (j.rs.length : Int)) ∧ W = w' := by
  have c0 : W.cell? ⟨g, 2, none⟩ = some (.int .i64 (j.rs.length : Int)) := h.full.cell 2
  obtain ⟨n, hn⟩ : ∃ n, j.rs.length = n := ⟨_, rfl⟩
  rw [hn] at c0 ⊢
  clear h hn
  go_enter Try.func27, Try.ntmps27
  go_wp2
  go_ret
  exact ⟨rfl, rfl⟩
def RAppOut (w W : World) (q g : Nat) (j : Jn) (r : List UInt8) (X : Nat → Prop) (e : Ending) (W' : World) : Prop := e = .returned (.int .i64 (j.app r).1) ∧ RP w W q g (j.app r).2 X W'
theorem rfin_stop {W1 wr : World} {r : List UInt8} {k : Nat} (hJ : RJ w W q g j X) (hb : Below W.heap.size W W1) (h : RS w (W1.setCell ⟨g, 3, none⟩ (.bool true)) q (j.D r (k + 1)) (fun h => h = g ∨ X h) wr)
    (hf : j.failed = false) (hl : j.tooLong r = false) (hk : k < 4) (he : ∀ i, i < k → j.er r i = 0) (h0 : j.er r k ≠ 0) : RAppOut w W q g j r X (.returned (.int .i64 30)) wr := by
  unfold RAppOut
  rw [app_stop hf hl hk he h0]
  have hfull : Full (W1.setCell ⟨g, 3, none⟩ (.bool true)) g 94 (jV q ⟨j.D r (k + 1), j.rs, true⟩) := (hJ.full.on hb).set_ 3 (.bool true)
  obtain ⟨F, i1, i4⟩ := hJ.side.his
  refine ⟨rfl, ⟨h.1, (h.2.1 g (.inl rfl)).trans hfull, hJ.ge, hJ.out, hJ.few⟩, fun x hx => ?_, ?_⟩
  · have hne : x ≠ g := by rintro rfl; exact hJ.out hx
    exact (h.2.1 x (.inr hx)).trans ((Below.heap_setCell _ _ _ _ hne).trans (hb.block x (i4 x (.inr hx)).2))
  · have h1 := h.2.2; have := hb.size; simp [World.setCell] at h1; omega
theorem rfin_done {W1 wr : World} {r : List UInt8} (hJ : RJ w W q g j X) (hb : Below W.heap.size W W1) (h : RS w (W1.setCell ⟨g, 3, none⟩ (.bool true)) q (j.D r 4) (fun h => h = g ∨ X h) wr)
    (hf : j.failed = false) (hl : j.tooLong r = false) (he : ∀ i, i < 4 → j.er r i = 0) : RAppOut w W q g j r X (.returned (.int .i64 0)) (((wr.setCell ⟨g, 3, none⟩ (.bool false)).setCell ⟨g, 1, none⟩ (.int .i64 ((j.e + 1 + (body r).length : Nat) : Int))).setCell ⟨g, 2, none⟩ (.int .i64 ((j.rs.length : Int) + 1))) := by
  unfold RAppOut
  rw [app_done hf hl he]
  obtain ⟨D4, hD4⟩ : ∃ D4, j.D r 4 = D4 := ⟨_, rfl⟩
  rw [hD4] at h ⊢
  have hl' : j.e + (body r).length + 2 ≤ 16777216 := by unfold Jn.tooLong at hl; simpa using hl
  have hfull : Full wr g 94 (jV q ⟨j.d, j.rs, true⟩) := (h.2.1 g (.inl rfl)).trans ((hJ.full.on hb).set_ 3 (.bool true))
  obtain ⟨F, i1, i4⟩ := hJ.side.his
  have hE : (Jn.mk D4 (j.rs ++ [r]) false).e = j.e + 1 + (body r).length := by
    unfold Jn.e
    rw [fl_snoc, List.length_append, frame_len]; omega
  refine ⟨rfl, ⟨((h.1.setX (.inl rfl) hJ.ge 3 _).setX (.inl rfl) hJ.ge 1 _).setX (.inl rfl) hJ.ge 2 _, ?_, hJ.ge, hJ.out, by rw [hE]; omega⟩, fun x hx => ?_, ?_⟩
  · have := ((hfull.set_ 3 (.bool false)).set_ 1 (.int .i64 ((j.e + 1 + (body r).length : Nat) : Int))).set_ 2 (.int .i64 ((j.rs.length : Int) + 1))
    unfold jV at this ⊢
    rw [hE]
    simp only [List.length_append, List.length_cons, List.length_nil, Int.natCast_add]
    exact this
  · have hne : x ≠ g := by rintro rfl; exact hJ.out hx
    exact (Below.heap_setCell _ _ _ _ hne).trans ((Below.heap_setCell _ _ _ _ hne).trans ((Below.heap_setCell _ _ _ _ hne).trans ((h.2.1 x (.inr hx)).trans ((Below.heap_setCell _ _ _ _ hne).trans (hb.block x (i4 x (.inr hx)).2)))))
  · have h1 := h.2.2; have := hb.size; simp [World.setCell] at h1 ⊢; omega
theorem rapp_failed (h : RJ w W q g j X) (hf : j.failed = true) (s : ByteArray) : Calls Try.prog 26 #[.pointer (some ⟨g, 0, none⟩), .string s] W (RAppOut w W q g j s.data.toList X) := by
  have e : j.app s.data.toList = (30, j) := by unfold Jn.app; rw [if_pos hf]
  unfold RAppOut
  rw [e]
  have H := Lib.hid (h.post (Below.refl _ W))
  have c3 : W.cell? ⟨g, 3, none⟩ = some (.bool true) := by rw [← hf]; exact h.full.cell 3
  clear h e hf
  go_enter Try.func26, Try.ntmps26
  go_wp2
  refine bodyPost_ret (v := .int .i64 30) (by simp [results, Try.results26, go_sem]) rfl ?_
  exact ⟨rfl, H.out⟩
theorem rapp_long (h : RJ w W q g j X) (hf : j.failed = false) (s : ByteArray) (hs : s.size ≤ 281474976710656) (hl : j.tooLong s.data.toList = true) : Calls Try.prog 26 #[.pointer (some ⟨g, 0, none⟩), .string s] W (RAppOut w W q g j s.data.toList X) := by
  have e : j.app s.data.toList = (2, j) := by unfold Jn.app; rw [hf, hl]; rfl
  unfold RAppOut
  rw [e]
  have hl' : 16777216 < j.e + (body s.data.toList).length + 2 := by unfold Jn.tooLong at hl; simpa using hl
  have HB := Lib.hid (fun W => refBody_any s W hs)
  unfold StrB at HB
  have hbb : (body s.data.toList).length ≤ 281474976710656 + 14 := by
    have := body_len s.data.toList; have := numL_ten (n := s.size) (by omega)
    rw [data_len] at *; omega
  have hz := str_size (body s.data.toList)
  obtain ⟨Bd, hBd⟩ : ∃ Bd, str (body s.data.toList) = Bd := ⟨_, rfl⟩
  rw [hBd] at HB hz
  have hj := h.few
  have H := Lib.hid (fun W' hb => h.post (W' := W') hb)
  have c3 : W.cell? ⟨g, 3, none⟩ = some (.bool false) := by rw [← hf]; exact h.full.cell 3
  have HC := Lib.hid (fun (W' : World) (hb : Below W.heap.size W W') => (show W'.cell? ⟨g, 1, none⟩ = some (.int .i64 (j.e : Int)) from (h.full.on hb).cell 1))
  obtain ⟨E, hE⟩ : ∃ E, j.e = E := ⟨_, rfl⟩
  rw [hE] at hl' hj HC
  have i1 : (16777216 : Int) < (E : Int) + (Bd.size : Int) + 2 := by omega
  have i2 : (E : Int) ≤ 16777216 := by omega
  have i3 : (0 : Int) ≤ (E : Int) := Int.natCast_nonneg _
  have i4 : (Bd.size : Int) ≤ 281474976710670 := by omega
  clear h e hf hl hE hl' hz hBd hbb
  go_enter Try.func26, Try.ntmps26
  go_wp2_with (go_at_call 30; ((with_reducible refine (HB.out _).mono ?_); rintro e w1 ⟨rfl, hb1⟩; (have x1 := HC.out w1 hb1)))
  refine bodyPost_ret (v := .int .i64 2) (by simp [results, Try.results26, go_sem]) rfl ?_
  exact ⟨rfl, H.out _ hb1⟩
set_option maxHeartbeats 8000000 in
theorem rapp_main (h : RJ w W q g j X) (hc : j.d.calls ≤ 90000) (hf : j.failed = false) (s : ByteArray) (hs : s.size ≤ 281474976710656) (hl : j.tooLong s.data.toList = false) : Calls Try.prog 26 #[.pointer (some ⟨g, 0, none⟩), .string s] W (RAppOut w W q g j s.data.toList X) := by
  have hl' : j.e + (body s.data.toList).length + 2 ≤ 16777216 := by unfold Jn.tooLong at hl; simpa using hl
  have HB := Lib.hid (fun W => refBody_any s W hs)
  unfold StrB at HB
  obtain ⟨r, hr⟩ : ∃ r, s.data.toList = r := ⟨_, rfl⟩
  rw [hr] at HB hl hl' ⊢
  have hz := str_size (body r)
  have hbs : str (body r ++ [0]) = str (body r) ++ ⟨#[0]⟩ := by rw [show (⟨#[0]⟩ : ByteArray) = str [0] from rfl, str_append]
  have hone : str [1] = ⟨#[1]⟩ := rfl
  have hE0 := h.few
  have ew : IntKind.i64.wrap ((j.e : Int) + 1) = (j.e : Int) + 1 := by simp [IntKind.wrap, IntKind.bits, IntKind.signed]; omega
  have C0 : Hid (∀ wr, RSide w wr q (j.D r 0) (fun h => h = g ∨ X h) → Calls Try.prog 32 #[.pointer (some ⟨q, 0, none⟩), .int .i64 ((j.e : Int) + 1), .string (str (body r) ++ ⟨#[0]⟩)] wr fun en W' => en = .returned (.int .i64 (j.er r 0)) ∧ RS w wr q (j.D r 1) (fun h => h = g ∨ X h) W') :=
    Lib.hid fun wr hS => by
      have := hS.write (Nat.le_trans (j.D_calls r 0) (by omega)) ((j.e + 1 : Nat) : Int) (body r ++ [0]) (by omega) (by simp; omega)
      rw [Jn.D0, hbs] at this
      rw [Jn.er0, Jn.D1]
      exact this
  have C1 : Hid (∀ wr, RSide w wr q (j.D r 1) (fun h => h = g ∨ X h) → Calls Try.prog 46 #[.pointer (some ⟨q, 0, none⟩)] wr fun en W' => en = .returned (.int .i64 (j.er r 1)) ∧ RS w wr q (j.D r 2) (fun h => h = g ∨ X h) W') :=
    Lib.hid fun wr hS => by
      have := hS.sync (Nat.le_trans (j.D_calls r 1) (by omega))
      rw [Jn.D1] at this
      rw [Jn.er1, Jn.D2]
      exact this
  have C2 : Hid (∀ wr, RSide w wr q (j.D r 2) (fun h => h = g ∨ X h) → Calls Try.prog 32 #[.pointer (some ⟨q, 0, none⟩), .int .i64 (j.e : Int), .string ⟨#[1]⟩] wr fun en W' => en = .returned (.int .i64 (j.er r 2)) ∧ RS w wr q (j.D r 3) (fun h => h = g ∨ X h) W') :=
    Lib.hid fun wr hS => by
      have := hS.write (Nat.le_trans (j.D_calls r 2) (by omega)) (j.e : Int) [1] (by omega) (by simp)
      rw [Jn.D2, hone] at this
      rw [Jn.er2, Jn.D3]
      exact this
  have C3 : Hid (∀ wr, RSide w wr q (j.D r 3) (fun h => h = g ∨ X h) → Calls Try.prog 46 #[.pointer (some ⟨q, 0, none⟩)] wr fun en W' => en = .returned (.int .i64 (j.er r 3)) ∧ RS w wr q (j.D r 4) (fun h => h = g ∨ X h) W') :=
    Lib.hid fun wr hS => by
      have := hS.sync (Nat.le_trans (j.D_calls r 3) (by omega))
      rw [Jn.D3] at this
      rw [Jn.er3, Jn.D4]
      exact this
  have FS : Hid (∀ W1 (hb : Below W.heap.size W W1) k wr, k < 4 → RS w (W1.setCell ⟨g, 3, none⟩ (.bool true)) q (j.D r (k + 1)) (fun h => h = g ∨ X h) wr → (∀ i, i < k → j.er r i = 0) → j.er r k ≠ 0 → RAppOut w W q g j r X (.returned (.int .i64 30)) wr) :=
    Lib.hid fun W1 hb k wr hk hL he h0 => rfin_stop h hb hL hf hl hk he h0
  have FD : Hid (∀ W1 (hb : Below W.heap.size W W1) wr, RS w (W1.setCell ⟨g, 3, none⟩ (.bool true)) q (j.D r 4) (fun h => h = g ∨ X h) wr → (∀ i, i < 4 → j.er r i = 0) → RAppOut w W q g j r X (.returned (.int .i64 0)) (((wr.setCell ⟨g, 3, none⟩ (.bool false)).setCell ⟨g, 1, none⟩ (.int .i64 ((j.e : Int) + 1 + ((str (body r)).size : Int)))).setCell ⟨g, 2, none⟩ (.int .i64 ((j.rs.length : Int) + 1)))) :=
    Lib.hid fun W1 hb wr hL he => by
      have := rfin_done h hb hL hf hl he
      rw [hz, show (j.e : Int) + 1 + ((body r).length : Int) = ((j.e + 1 + (body r).length : Nat) : Int) by omega]
      exact this
  have CL : Hid (∀ W1 (hb : Below W.heap.size W W1) d wr, RS w (W1.setCell ⟨g, 3, none⟩ (.bool true)) q d (fun h => h = g ∨ X h) wr → Full wr g 94 [.pointer (some ⟨q, 0, none⟩), .int .i64 (j.e : Int), .int .i64 (j.rs.length : Int), .bool true]) :=
    Lib.hid fun W1 hb d wr hL => (hL.2.1 g (.inl rfl)).trans ((h.full.on hb).set_ 3 (.bool true))
  have CF : Hid (∀ W1 (hb : Below W.heap.size W W1), Full W1 g 94 [.pointer (some ⟨q, 0, none⟩), .int .i64 (j.e : Int), .int .i64 (j.rs.length : Int), .bool false]) :=
    Lib.hid fun W1 hb => by have := h.full.on hb; unfold jV at this; rw [hf] at this; exact this
  have RS0 : Hid (∀ W1 (hb : Below W.heap.size W W1), RSide w (W1.setCell ⟨g, 3, none⟩ (.bool true)) q (j.D r 0) (fun h => h = g ∨ X h)) :=
    Lib.hid fun W1 hb => by rw [Jn.D0]; exact (h.on hb).side.setX (.inl rfl) h.ge 3 _
  have hrf : j.rs.length ≤ 16777216 := by have := fl_many j.rs; have := h.few; unfold Jn.e at this; omega
  have c3 : W.cell? ⟨g, 3, none⟩ = some (.bool false) := by rw [← hf]; exact h.full.cell 3
  obtain ⟨ER, hER⟩ : ∃ ER, j.er r = ER := ⟨_, rfl⟩
  obtain ⟨DD, hDD⟩ : ∃ DD, j.D r = DD := ⟨_, rfl⟩
  obtain ⟨Bd, hBd⟩ : ∃ Bd, str (body r) = Bd := ⟨_, rfl⟩
  obtain ⟨E, hE⟩ : ∃ E, j.e = E := ⟨_, rfl⟩
  obtain ⟨N, hN⟩ : ∃ N, j.rs.length = N := ⟨_, rfl⟩
  rw [hER] at C0 C1 C2 C3 FS FD
  rw [hDD] at C0 C1 C2 C3 FS FD RS0
  rw [hBd] at C0 FD HB hz
  rw [hE] at C0 C2 FD CL CF hl' hE0
  rw [hN] at FD CL CF hrf
  have i1' : decide ((16777216 : Int) < (E : Int) + (Bd.size : Int) + 2) = false := by simp; omega
  have i2 : (E : Int) ≤ 16777216 := by omega
  have i3 : (0 : Int) ≤ (E : Int) := Int.natCast_nonneg _
  have i4 : (Bd.size : Int) ≤ 16777216 := by omega
  have i5 : Bd.size ≤ 16777216 := by omega
  have i6 : (N : Int) ≤ 16777216 := by omega
  have i7 : (0 : Int) ≤ (N : Int) := Int.natCast_nonneg _
  have zo : (⟨#[0]⟩ : ByteArray).size = 1 := rfl
  clear h hc hf hl hE hN hER hDD hBd hr hbs hone ew hl' hz hE0 hrf
  go_enter Try.func26, Try.ntmps26
  go_upto_region 7 with (go_at_call 30; ((with_reducible refine (HB.out _).mono ?_); rintro e w1 ⟨rfl, hb1⟩; (have F1 := CF.out w1 hb1); (have x1 : w1.cell? ⟨g, 1, none⟩ = some (.int .i64 (E : Int)) := F1.cell 1); (have x3 : w1.cell? ⟨g, 3, none⟩ = some (.bool false) := F1.cell 3); (have z3 : w1.frozen? ⟨g, 3, none⟩ = false := F1.frozen 3)))
  have HB1 := Lib.hid hb1
  have FS1 := Lib.hid (FS.out w1 hb1)
  have FD1 := Lib.hid (FD.out w1 hb1)
  have CL1 := Lib.hid (CL.out w1 hb1)
  have R0 := Lib.hid (RS0.out w1 hb1)
  have F2 := F1.set_ 3 (.bool true)
  obtain ⟨W2, hW2⟩ : ∃ W2, w1.setCell ⟨g, 3, none⟩ (.bool true) = W2 := ⟨_, rfl⟩
  rw [hW2] at FS1 FD1 CL1 R0 F2 ⊢
  have RD0 := Lib.hid (C0.out W2.drew (R0.out.on ((Below.refl _ W2).drew)))
  have n0 : W2.drew.cell? ⟨g, 0, none⟩ = some (.pointer (some ⟨q, 0, none⟩)) := F2.cell 0
  have n1 : W2.drew.cell? ⟨g, 1, none⟩ = some (.int .i64 (E : Int)) := F2.cell 1
  have CN : Hid (∀ d wr, RS w W2.drew q d (fun h => h = g ∨ X h) wr → RS w W2 q d (fun h => h = g ∨ X h) wr) := Lib.hid fun d wr hL => (R0.out.spost ((Below.refl _ W2).drew)).trans hL
  clear hW2 FS FD CL CF RS0 hb1 F1 F2 x1 x3 z3 c3
  obtain ⟨v0, hv0⟩ : ∃ v, ER 0 = v := ⟨_, rfl⟩
  obtain ⟨v1, hv1⟩ : ∃ v, ER 1 = v := ⟨_, rfl⟩
  obtain ⟨v2, hv2⟩ : ∃ v, ER 2 = v := ⟨_, rfl⟩
  obtain ⟨v3, hv3⟩ : ∃ v, ER 3 = v := ⟨_, rfl⟩
  rw [hv0] at RD0
  rw [hv1] at C1
  rw [hv2] at C2
  rw [hv3] at C3
  have V0 := Lib.hid hv0
  have V1 := Lib.hid hv1
  have V2 := Lib.hid hv2
  have V3 := Lib.hid hv3
  clear hv0 hv1 hv2 hv3 C0
  go_region_held_law (fun w' => w'.cell? ⟨g, 0, none⟩ = some (.pointer (some ⟨q, 0, none⟩)) ∧ w'.cell? ⟨g, 1, none⟩ = some (.int .i64 (E : Int)))
    (first | (with_reducible exact ⟨n0, n1⟩) | (with_reducible exact ⟨m0, m1⟩) | (fail "keep"))
    (first
      | (go_at_call 32; ((with_reducible refine RD0.out.mono ?_); rintro e w3 ⟨rfl, hL3d⟩; (have hL3 := CN.out _ _ hL3d); (have F3 := CL1.out _ _ hL3); (have m0 : w3.cell? ⟨g, 0, none⟩ = some (.pointer (some ⟨q, 0, none⟩)) := F3.cell 0); (have m1 : w3.cell? ⟨g, 1, none⟩ = some (.int .i64 (E : Int)) := F3.cell 1)))
      | (fail "arm"))
  all_goals
    have HL3 := Lib.hid hL3
    clear hL3 hL3d F3 n0 n1
    rcases er_split v0 with rfl | hne
    · have C1w := Lib.hid (C1.out w3 HL3.out.1)
      rcases er_split v1 with rfl | hne
      · go_upto_region 11 with (go_at_call 46; ((with_reducible refine C1w.out.mono ?_); rintro e w4 ⟨rfl, hL4d⟩; (have hL4 := HL3.out.trans hL4d); (have F4 := CL1.out _ _ hL4)))
        have HL4 := Lib.hid hL4
        have C2w := Lib.hid (C2.out w4.drew (HL4.out.1.on ((Below.refl _ w4).drew)))
        have k0 : w4.drew.cell? ⟨g, 0, none⟩ = some (.pointer (some ⟨q, 0, none⟩)) := F4.cell 0
        have k1 : w4.drew.cell? ⟨g, 1, none⟩ = some (.int .i64 (E : Int)) := F4.cell 1
        have CN4 := Lib.hid (fun d wr (hL : RS w w4.drew q d (fun h => h = g ∨ X h) wr) => (HL4.out.trans (HL4.out.1.spost ((Below.refl _ w4).drew))).trans hL)
        clear hL4 hL4d F4 m0 m1
        go_region_held3 (fun w' => w'.cell? ⟨g, 0, none⟩ = some (.pointer (some ⟨q, 0, none⟩)) ∧ w'.cell? ⟨g, 1, none⟩ = some (.int .i64 (E : Int)))
          (first | (with_reducible exact ⟨k0, k1⟩) | (with_reducible exact ⟨m0, m1⟩) | (fail "keep"))
          (first
            | (go_at_call 32; ((with_reducible refine C2w.out.mono ?_); rintro e w5 ⟨rfl, hL5d⟩; (have hL5 := CN4.out _ _ hL5d); (have F5 := CL1.out _ _ hL5); (have m0 : w5.cell? ⟨g, 0, none⟩ = some (.pointer (some ⟨q, 0, none⟩)) := F5.cell 0); (have m1 : w5.cell? ⟨g, 1, none⟩ = some (.int .i64 (E : Int)) := F5.cell 1)))
            | (fail "arm"))
        all_goals
          have HL5 := Lib.hid hL5
          clear hL5 hL5d F5 k0 k1
          rcases er_split v2 with rfl | hne
          · have C3w := Lib.hid (C3.out w5 HL5.out.1)
            rcases er_split v3 with rfl | hne
            · go_wp2_with (go_at_call 46; ((with_reducible refine C3w.out.mono ?_); rintro e w6 ⟨rfl, hL6d⟩; (have HL6 := Lib.hid (HL5.out.trans hL6d)); (have F6 := Lib.hid (CL1.out _ _ HL6.out)); (have y3 : w6.cell? ⟨g, 3, none⟩ = some (.bool true) := F6.out.cell 3); (have z3 : w6.frozen? ⟨g, 3, none⟩ = false := F6.out.frozen 3); (have F7 := Lib.hid (F6.out.set_ 3 (.bool false))); (have y1 : (w6.setCell ⟨g, 3, none⟩ (.bool false)).cell? ⟨g, 1, none⟩ = some (.int .i64 (E : Int)) := F7.out.cell 1); (have z1 : (w6.setCell ⟨g, 3, none⟩ (.bool false)).frozen? ⟨g, 1, none⟩ = false := F7.out.frozen 1); (have F8 := Lib.hid (F7.out.set_ 1 (.int .i64 ((E : Int) + 1 + (Bd.size : Int))))); (have y2 : ((w6.setCell ⟨g, 3, none⟩ (.bool false)).setCell ⟨g, 1, none⟩ (.int .i64 ((E : Int) + 1 + (Bd.size : Int)))).cell? ⟨g, 2, none⟩ = some (.int .i64 (N : Int)) := F8.out.cell 2); (have z2 : ((w6.setCell ⟨g, 3, none⟩ (.bool false)).setCell ⟨g, 1, none⟩ (.int .i64 ((E : Int) + 1 + (Bd.size : Int)))).frozen? ⟨g, 2, none⟩ = false := F8.out.frozen 2); clear hL6d))
              refine bodyPost_ret (v := .int .i64 0) (by simp [results, Try.results26, go_sem]) rfl ?_
              refine FD1.out _ HL6.out fun i hi => ?_
              obtain rfl | rfl | rfl | rfl : i = 0 ∨ i = 1 ∨ i = 2 ∨ i = 3 := by omega
              · exact V0.out
              · exact V1.out
              · exact V2.out
              · exact V3.out
            · go_wp2_with (go_at_call 46; ((with_reducible refine C3w.out.mono ?_); rintro e w6 ⟨rfl, hL6d⟩; (have HL6 := Lib.hid (HL5.out.trans hL6d)); clear hL6d))
              refine bodyPost_ret (v := .int .i64 30) (by simp [results, Try.results26, go_sem]) rfl ?_
              refine FS1.out 3 _ (by omega) HL6.out (fun i hi => ?_) (by rw [V3.out]; intro e; rw [e] at hne; cases hne)
              obtain rfl | rfl | rfl : i = 0 ∨ i = 1 ∨ i = 2 := by omega
              · exact V0.out
              · exact V1.out
              · exact V2.out
          · go_wp2
            refine bodyPost_ret (v := .int .i64 30) (by simp [results, Try.results26, go_sem]) rfl ?_
            refine FS1.out 2 _ (by omega) HL5.out (fun i hi => ?_) (by rw [V2.out]; intro e; rw [e] at hne; cases hne)
            obtain rfl | rfl : i = 0 ∨ i = 1 := by omega
            · exact V0.out
            · exact V1.out
      · go_wp2_with (go_at_call 46; ((with_reducible refine C1w.out.mono ?_); rintro e w4 ⟨rfl, hL4d⟩; (have HL4 := Lib.hid (HL3.out.trans hL4d)); clear hL4d))
        refine bodyPost_ret (v := .int .i64 30) (by simp [results, Try.results26, go_sem]) rfl ?_
        refine FS1.out 1 _ (by omega) HL4.out (fun i hi => ?_) (by rw [V1.out]; intro e; rw [e] at hne; cases hne)
        obtain rfl : i = 0 := by omega
        exact V0.out
    · go_wp2
      refine bodyPost_ret (v := .int .i64 30) (by simp [results, Try.results26, go_sem]) rfl ?_
      exact FS1.out 0 _ (by omega) HL3.out (fun i hi => by omega) (by rw [V0.out]; intro e; rw [e] at hne; cases hne)
/-- the reference's Append -/
theorem rapp_any (h : RJ w W q g j X) (hc : j.d.calls ≤ 90000) (s : ByteArray) (hs : s.size ≤ 281474976710656) : Calls Try.prog 26 #[.pointer (some ⟨g, 0, none⟩), .string s] W (RAppOut w W q g j s.data.toList X) := by
  cases hf : j.failed with
  | true => exact rapp_failed h hf s
  | false =>
    cases hl : j.tooLong s.data.toList with
    | true => exact rapp_long h hf s hs hl
    | false => exact rapp_main h hc hf s hs hl
end
end Go.Proofs.Ythhpnlobhffimaa
