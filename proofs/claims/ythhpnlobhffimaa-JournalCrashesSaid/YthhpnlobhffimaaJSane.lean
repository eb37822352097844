/- sanity: the chapter's examples. -/
import Derived.Test.YthhpnlobhffimaaJKit
namespace Go.Proofs.Ythhpnlobhffimaa
set_option maxRecDepth 100000
open Go.RowKit
def ab : List UInt8 := [97, 98]
def sj1 : Jn := ⟨Dk.new.sync, [], false⟩
def sj2 : Jn := ⟨sj1.d4 ab, [ab], false⟩
theorem new_pre : (Jn.mk Dk.new.sync [] false).Idle := ⟨rfl, rfl, [], rfl, .inl rfl⟩
theorem open_new : openD Dk.new = (0, Dk.new.sync) := by rw [openD_sync (e := 0) rfl (.inl rfl)]; rfl
/-- the first record on a new disk -/
theorem first_now {j : Jn} (hs : j.d.syn = []) (hps : j.d.ps = []) (hr : j.rs = []) (hp : j.d.pw = none) (r : List UInt8) (hl : (body r).length + 2 ≤ 16777216) : (j.d4 r).now = 1 :: (body r ++ [0]) := by
  have he : j.e = 0 := by unfold Jn.e; rw [hr]; rfl
  have hsl : (body r ++ [(0 : UInt8)]).length = (body r).length + 1 := by simp
  have a1 := w_on (d := j.d) (j.e + 1) (body r ++ [0]) (by omega) (by rw [hp]; rfl)
  have e1 : j.d1 r = j.d.wrote (j.e + 1) (body r ++ [0]) := a1.2
  have p1 : (j.d1 r).pw = none := by rw [e1]; show Dk.less j.d.pw = none; rw [hp]; rfl
  have e2 : j.d2 r = (j.d1 r).synced := (s_on (by rw [p1]; rfl)).2
  have p2 : (j.d2 r).pw = none := by rw [e2, synced_pw, p1]; rfl
  have a3 := w_on (d := j.d2 r) j.e [1] (by simp; omega) (by rw [p2]; rfl)
  have e3 : j.d3 r = (j.d2 r).wrote j.e [1] := a3.2
  have p3 : (j.d3 r).pw = none := by rw [e3]; show Dk.less (j.d2 r).pw = none; rw [p2]; rfl
  have e4 : j.d4 r = (j.d3 r).synced := (s_on (by rw [p3]; rfl)).2
  have n0 : j.d.now = [] := by unfold Dk.now; rw [hps, hs]; rfl
  have n1 : (j.d1 r).now = 0 :: (body r ++ [0]) := by
    rw [e1, Dk.wrote_now, n0, he]
    unfold put
    simp
  have n2 : (j.d2 r).now = 0 :: (body r ++ [0]) := by rw [e2, Dk.synced_now, n1]
  have n3 : (j.d3 r).now = 1 :: (body r ++ [0]) := by
    rw [e3, Dk.wrote_now, n2, he]
    exact put_one (F := []) 1 0 _
  rw [e4, Dk.synced_now, n3]
theorem sj1_idle : sj1.Idle := new_pre
theorem sj1_facts : sj1.d.syn = [] ∧ sj1.d.ps = [] ∧ sj1.rs = [] ∧ sj1.d.pw = none := by
  refine ⟨?_, ?_, rfl, ?_⟩ <;> decide
theorem sj2_d : sj2.d = sj1.d4 ab := rfl
theorem sj2_now : sj2.d.now = 1 :: (body ab ++ [0]) := by
  rw [sj2_d]
  exact first_now sj1_facts.1 sj1_facts.2.1 sj1_facts.2.2.1 sj1_facts.2.2.2 ab (by have := body_small ab 2 (by decide) (by decide); omega)
theorem ab_long {j : Jn} (hr : j.rs = [] ∨ j.rs = [ab]) {r : List UInt8} (hl : r.length ≤ 2) : j.tooLong r = false := by
  have h2 := body_small r 2 hl (by decide)
  have h3 := body_small ab 2 (by decide) (by decide)
  have he : j.e ≤ 17 := by
    unfold Jn.e
    rcases hr with h | h <;> rw [h]
    · show 0 ≤ _; omega
    · rw [fl_cons, List.length_append, frame_len]; show 1 + _ + 0 ≤ _; omega
  unfold Jn.tooLong
  simp; omega
theorem sj2_on : sj1.app ab = (0, sj2) ∧ sj2.Idle ∧ sj2.d.Good ∧ sj2.d.pw = none ∧ sj2.d.calls = 5 := app_on sj1_idle (Dk.sync_good Dk.new_good) (ab_long (.inl rfl) (by decide)) trivial
/-- a literal row of strings -/
theorem same_lit {W : World} {base n c : Nat} {A : Option Addr} (L : List ByteArray) (hL : L.length = n) (hr : W.ownsRow base 9 1 (.slice A n c) n (strC L)) {g : Nat} (hf : Full W g 9 (strC L)) (hn : n ≤ 10) :
    Calls Try.prog 19 #[.slice A n c, .slice (some ⟨g, 0, none⟩) n n] W (QBool W true) := by
  subst hL
  have := same_any (w := W) W.heap.size A (some ⟨g, 0, none⟩) L L c L.length (Row.own hr) (hf.row 1 L.length (by simp [strC]) L.length (Nat.le_refl _)) (by omega) (by omega)
  rwa [show decide (L = L) = true by simp] at this
theorem row_one (W : World) : Row (W.alloc (.cells #[.int .i64 1] 3)) (W.alloc (.cells #[.int .i64 1] 3)).heap.size 1 (some ⟨W.heap.size, 0, none⟩) 1 1 (intC [1]) :=
  (Full.new W 3 [.int .i64 1]).row 1 1 rfl 1 (Nat.le_refl _)
/-- a disk of which Open finds these records -/
def OpenOk (w W : World) (p : Nat) (rs : List (List UInt8)) (X : Nat → Prop) (e : Ending) (W' : World) : Prop :=
  ∃ b A c j, e = .returned (.tuple #[.pointer (some ⟨b, 0, none⟩), .slice A rs.length c, .int .i64 0]) ∧ j.Idle ∧ j.rs = rs ∧ j.d.pw = none ∧ j.d.calls ≤ 10 ∧ JPost w W p b j X W' ∧ Jw w W' p b j (fun g => X g ∨ (Value.slice A rs.length c).ownBlock = some g) ∧ W.heap.size ≤ b ∧ W'.ownsRow W.heap.size 9 1 (.slice A rs.length c) rs.length (strC (rs.map str))
theorem open_ok {w W : World} {p : Nat} {d : Dk} {X : Nat → Prop} {rs : List (List UInt8)} (h : Side w W p d X) (hp : d.pw = none) (hc : d.calls ≤ 8) (hr : recs d.now = rs) : Calls Try.prog 14 #[.pointer (some ⟨p, 0, none⟩)] W (OpenOk w W p rs X) := by
  refine (open_good h hp (by omega)).mono ?_
  rintro e W' ⟨b, A, c, j, he, h1, h2, h3, h4, _, h5, h6, h7, h8⟩
  rw [hr] at he h2 h7 h8
  exact ⟨b, A, c, j, he, h1, h2, h3, by omega, h5, h7, h6, h8⟩
set_option maxHeartbeats 16000000 in
theorem sane_any (w : World) : Calls Try.prog 12 #[] w (BoolB w true) := by
  unfold BoolB
  have N1 := Lib.hid (new_side (Below.refl w.heap.size w))
  have O1 := Lib.hid (fun (W : World) (p : Nat) (X : Nat → Prop) (h : Side w W p Dk.new X) => (show Calls Try.prog 14 #[.pointer (some ⟨p, 0, none⟩)] W fun e W' => ∃ b A c, e = .returned (.tuple #[.pointer (some ⟨b, 0, none⟩), .slice A 0 c, .int .i64 0]) ∧ JPost w W p b sj1 X W' from (open_any h (by decide)).mono fun e W' hx => by
    have e1 : (openD Dk.new).1 = 0 := by rw [open_new]
    have e2 : (openD Dk.new).2 = Dk.new.sync := by rw [open_new]
    rcases hx with ⟨h0, _⟩ | ⟨_, b, A, c, he, hj, _⟩
    · exact (h0 e1).elim
    · rw [e2] at hj
      exact ⟨b, A, c, he, hj⟩))
  have A1 := Lib.hid (fun (W : World) (p b : Nat) (X : Nat → Prop) (h : Jw w W p b sj1 X) => (show Calls Try.prog 16 #[.pointer (some ⟨b, 0, none⟩), .string ⟨#[97, 98]⟩] W fun e W' => e = .returned (.int .i64 0) ∧ JPost w W p b sj2 X W' from (app_any h (by decide) ⟨#[97, 98]⟩ (by show 2 ≤ _; decide)).mono fun e W' hx => by
    have h1 := hx.1
    have h2 := hx.2
    rw [show (⟨#[97, 98]⟩ : ByteArray).data.toList = ab from rfl, sj2_on.1] at h1 h2
    exact ⟨h1, h2⟩))
  have A0 := Lib.hid (fun (W : World) (p b : Nat) (X : Nat → Prop) (h : Jw w W p b sj1 X) => (show Calls Try.prog 24 #[.pointer (some ⟨p, 0, none⟩)] W fun e w' => e = .returned (.int .i64 1) ∧ W = w' from h.side.calls))
  have A2 := Lib.hid (fun (W : World) (p b : Nat) (X : Nat → Prop) (h : Jw w W p b sj2 X) => (show Calls Try.prog 24 #[.pointer (some ⟨p, 0, none⟩)] W fun e w' => e = .returned (.int .i64 5) ∧ W = w' from by
    have := h.side.calls
    rw [sj2_on.2.2.2.2] at this
    exact this))
  have A3 := Lib.hid (fun (W : World) (p b : Nat) (X : Nat → Prop) (h : Jw w W p b sj2 X) => (show Calls Try.prog 17 #[.pointer (some ⟨b, 0, none⟩)] W fun e w' => e = .returned (.int .i64 1) ∧ W = w' from many_any h))
  have hcont : str (1 :: (body ab ++ [0])) = ⟨#[1]⟩ ++ str (body ab) ++ ⟨#[0]⟩ := by
    rw [show (⟨#[1]⟩ : ByteArray) = str [1] from rfl, show (⟨#[0]⟩ : ByteArray) = str [0] from rfl, str_append, str_append]
    rfl
  have A4 := Lib.hid (fun (W : World) (p b : Nat) (X : Nat → Prop) (h : Jw w W p b sj2 X) => (show Calls Try.prog 28 #[.pointer (some ⟨p, 0, none⟩)] W fun e w' => e = .returned (.string (⟨#[1]⟩ ++ str (body ab) ++ ⟨#[0]⟩)) ∧ W = w' from by
    have := contents_any h.side
    rw [sj2_now, hcont] at this
    exact this))
  have A5 := Lib.hid (fun (W : World) => (show Calls Try.prog 30 #[.string ⟨#[97, 98]⟩] W (StrB W (str (body ab))) from refBody_any ⟨#[97, 98]⟩ W (by show 2 ≤ _; decide)))
  unfold StrB at A5
  have hbz : (str (body ab)).size ≤ 16 := by rw [str_size]; exact body_small ab 2 (by decide) (by decide)
  obtain ⟨BB, hBB⟩ : ∃ BB, str (body ab) = BB := ⟨_, rfl⟩
  rw [hBB] at A4 A5 hbz
  clear hBB hcont
  have z1 : (⟨#[1]⟩ : ByteArray).size = 1 := rfl
  have z0 : (⟨#[0]⟩ : ByteArray).size = 1 := rfl
  have hz : (⟨#[1]⟩ ++ BB : ByteArray).size ≤ 17 := by rw [ByteArray.size_append]; omega
  go_enter Try.func12, Try.ntmps12
  go_upto_region 5 with (first
    | (go_at_call 13; ((with_reducible refine N1.out.mono ?_); rintro e W1 ⟨p1, rfl, hS1, hb1⟩))
    | (go_at_call 14; ((with_reducible refine (O1.out W1 p1 _ hS1).mono ?_); rintro e W2 ⟨b1, A, c, rfl, hP2⟩; (have hJ2 := hP2.1)))
    | (go_at_call 24; ((with_reducible refine (A0.out W2 p1 b1 _ hJ2).mono ?_); rintro e W2b ⟨rfl, rfl⟩))
    | (go_at_call 16; ((with_reducible refine (A1.out W2 p1 b1 _ hJ2).mono ?_); rintro e W3 ⟨rfl, hP3⟩; (have hJ3 := hP3.1)))
    | (go_at_call 24; ((with_reducible refine (A2.out W3 p1 b1 _ hJ3).mono ?_); rintro e W3b ⟨rfl, rfl⟩))
    | (go_at_call 17; ((with_reducible refine (A3.out W3 p1 b1 _ hJ3).mono ?_); rintro e W3c ⟨rfl, rfl⟩))
    | (go_at_call 28; ((with_reducible refine (A4.out W3 p1 b1 _ hJ3).mono ?_); rintro e W3d ⟨rfl, rfl⟩))
    | (go_at_call 30; ((with_reducible refine (A5.out W3).mono ?_); rintro e W4 ⟨rfl, hb4⟩))
    | (fail "arm"))
  have J4 := hJ3.on hb4
  have sj2c : sj2.d.calls ≤ 100000 := by rw [sj2_on.2.2.2.2]; decide
  have CR := Lib.hid (J4.crash sj2c (l := []) (Row.empty _ _ _) (Nat.le_refl W4.heap.size) (by decide))
  have rs5 : recs (sj2.d.crash []).now = [ab] := by
    rw [Dk.crash_now, sj2_on.2.1.left, sj2_on.2.1.recs sj2_on.2.2.1]; rfl
  have O5 := Lib.hid (fun (W : World) (p : Nat) (X : Nat → Prop) (h : Side w W p (sj2.d.crash []) X) => open_ok h rfl (by show 0 ≤ 8; omega) rs5)
  unfold OpenOk at O5
  clear A0 A1 A2 A3 A4 A5 N1 O1 hS1 hP2 hJ2 hP3 hb1
  go_upto_region 6 with (first
    | (go_at_call 18; ((with_reducible refine CR.out.mono ?_); rintro e W5 ⟨p5, rfl, hS5, hb5⟩))
    | (go_at_call 14; ((with_reducible refine (O5.out W5 p5 _ hS5).mono ?_); rintro e W6 ⟨b5, A5, c5, j5, rfl, _, _, _, _, hP6, hK6, _, hr6⟩))
    | (fail "arm"))
  have s6 : Since W4.heap.size W5 W6 := hP6.since (fun g hg => hg)
  have q6 : Since W4.heap.size W4 W6 := (Since.of hb5 (Nat.le_refl _)).trans s6
  have J6 := J4.since q6 hP6.1.bel
  have SM6 := Lib.hid (show Calls Try.prog 19 #[.slice A5 1 c5, .slice (some ⟨W6.heap.size, 0, none⟩) 1 1] (W6.alloc (.cells #[.string ⟨#[97, 98]⟩] 9)) (QBool (W6.alloc (.cells #[.string ⟨#[97, 98]⟩] 9)) true) from
    same_lit [⟨#[97, 98]⟩] rfl (hr6.alloc _) (Full.new W6 9 [.string ⟨#[97, 98]⟩]) (by decide))
  unfold QBool at SM6
  have J7 := J6.on ((Below.refl _ W6).alloc (Nat.le_refl _) (.cells #[.string ⟨#[97, 98]⟩] 9))
  obtain ⟨W7, hW7⟩ : ∃ W7, W6.alloc (.cells #[.string ⟨#[97, 98]⟩] 9) = W7 := ⟨_, rfl⟩
  rw [hW7] at SM6 J7
  clear CR O5 J4 hb5 s6 q6 J6 hS5 hP6 hK6 hr6 hJ3
  go_upto_region 8 with (go_at_call 19; ((with_reducible refine SM6.out.mono ?_); rintro e W8 ⟨rfl, q8, rfl⟩))
  have J8 := J7.on (Below.drewN_ (Below.refl _ W7) q8)
  clear hW7 SM6 J7
  obtain ⟨W8, hW8⟩ : ∃ W8, W7.drewN q8 = W8 := ⟨_, rfl⟩
  rw [hW8] at J8 ⊢
  clear hW8
  have F9 := Lib.hid (J8.fail 1 ⟨by omega, by omega⟩)
  clear J8
  have AB := Lib.hid (fun (W : World) (p b : Nat) (X : Nat → Prop) (h : Jw w W p b ⟨sj2.d.fail 1, sj2.rs, sj2.failed⟩ X) => app_bad h (sj2_on.2.1.fail 1) (m := 1) rfl (by omega) (by show sj2.d.calls ≤ 90000; rw [sj2_on.2.2.2.2]; decide) ⟨#[99]⟩ (by show 1 ≤ _; decide) (ab_long (.inr rfl) (by decide)))
  unfold AppBad at AB
  have AD := Lib.hid (fun (W : World) (p b : Nat) (d : Dk) (X : Nat → Prop) (h : Jw w W p b ⟨d, sj2.rs, true⟩ X) => app_dead h rfl ⟨#[100]⟩)
  have AM := Lib.hid (fun (W : World) (p b : Nat) (d : Dk) (X : Nat → Prop) (h : Jw w W p b ⟨d, sj2.rs, true⟩ X) => (show Calls Try.prog 17 #[.pointer (some ⟨b, 0, none⟩)] W fun e w' => e = .returned (.int .i64 1) ∧ W = w' from many_any h))
  go_upto_region 11 with (first
    | (go_at_call 21; ((with_reducible refine F9.out.mono ?_); rintro e W9 ⟨rfl, hP9⟩; (have hJ9 := hP9.1)))
    | (go_at_call 16; ((with_reducible refine (AB.out W9 p1 b1 _ hJ9).mono ?_); rintro e W10 ⟨rfl, d10, hT10, hc10, hP10⟩; (have hJ10 := hP10.1)))
    | (go_at_call 16; ((with_reducible refine (AD.out W10 p1 b1 d10 _ hJ10).mono ?_); rintro e W11 ⟨rfl, hP11⟩; (have hJ11 := hP11.1)))
    | (go_at_call 17; ((with_reducible refine (AM.out W11 p1 b1 d10 _ hJ11).mono ?_); rintro e W11b ⟨rfl, rfl⟩))
    | (fail "arm"))
  have hc10' : d10.calls ≤ 100000 := by rw [hc10]; show sj2.d.calls + 1 ≤ 100000; rw [sj2_on.2.2.2.2]; decide
  have J12 := hJ11.on ((Below.refl _ W11).alloc (Nat.le_refl _) (.cells #[.int .i64 1] 3))
  have CR2 := Lib.hid (J12.crash hc10' (l := [1]) (row_one W11) (Nat.le_refl _) (by decide))
  have rs13 : recs (d10.crash [1]).now = [ab] := by
    rw [Dk.crash_now, hT10 [1], if_neg (by omega)]; rfl
  have O13 := Lib.hid (fun (W : World) (p : Nat) (X : Nat → Prop) (h : Side w W p (d10.crash [1]) X) => open_ok h rfl (by show 0 ≤ 8; omega) rs13)
  unfold OpenOk at O13
  clear F9 AB AD AM hP9 hJ9 hP10 hJ10 hP11 hJ11 hT10 hc10 J12
  go_upto_region 13 with (first
    | (go_at_call 18; ((with_reducible refine CR2.out.mono ?_); rintro e W13 ⟨p13, rfl, hS13, hb13⟩))
    | (go_at_call 14; ((with_reducible refine (O13.out W13 p13 _ hS13).mono ?_); rintro e W14 ⟨b14, A14, c14, j14, rfl, hi14, hrs14, hpw14, hc14, hP14, hK14, _, hr14⟩))
    | (fail "arm"))
  have SM14 := Lib.hid (show Calls Try.prog 19 #[.slice A14 1 c14, .slice (some ⟨W14.heap.size, 0, none⟩) 1 1] (W14.alloc (.cells #[.string ⟨#[97, 98]⟩] 9)) (QBool (W14.alloc (.cells #[.string ⟨#[97, 98]⟩] 9)) true) from
    same_lit [⟨#[97, 98]⟩] rfl (hr14.alloc _) (Full.new W14 9 [.string ⟨#[97, 98]⟩]) (by decide))
  unfold QBool at SM14
  have J15 := hP14.1.on ((Below.refl _ W14).alloc (Nat.le_refl _) (.cells #[.string ⟨#[97, 98]⟩] 9))
  obtain ⟨W15, hW15⟩ : ∃ W15, W14.alloc (.cells #[.string ⟨#[97, 98]⟩] 9) = W15 := ⟨_, rfl⟩
  rw [hW15] at SM14 J15
  clear CR2 O13 hb13 hS13 hP14 hK14 hr14
  go_upto_region 15 with (go_at_call 19; ((with_reducible refine SM14.out.mono ?_); rintro e W16 ⟨rfl, q16, rfl⟩))
  have J16 := J15.on (Below.drewN_ (Below.refl _ W15) q16)
  clear hW15 SM14 J15
  obtain ⟨W16, hW16⟩ : ∃ W16, W15.drewN q16 = W16 := ⟨_, rfl⟩
  rw [hW16] at J16 ⊢
  clear hW16
  have F17 := Lib.hid (J16.fail 3 ⟨by omega, by omega⟩)
  clear J16
  have AB2 := Lib.hid (fun (W : World) (p b : Nat) (X : Nat → Prop) (h : Jw w W p b ⟨j14.d.fail 3, j14.rs, j14.failed⟩ X) => app_bad h (hi14.fail 3) (m := 3) rfl (by omega) (by show j14.d.calls ≤ 90000; omega) ⟨#[99]⟩ (by show 1 ≤ _; decide) (ab_long (.inr hrs14) (by decide)))
  unfold AppBad at AB2
  go_upto_region 18 with (first
    | (go_at_call 21; ((with_reducible refine F17.out.mono ?_); rintro e W17 ⟨rfl, hP17⟩; (have hJ17 := hP17.1)))
    | (go_at_call 16; ((with_reducible refine (AB2.out W17 p13 b14 _ hJ17).mono ?_); rintro e W18 ⟨rfl, d18, hT18, hc18, hP18⟩; (have hJ18 := hP18.1)))
    | (fail "arm"))
  have hc18' : d18.calls ≤ 100000 := by rw [hc18]; show j14.d.calls + 3 ≤ 100000; omega
  have J19 := hJ18.on ((Below.refl _ W18).alloc (Nat.le_refl _) (.cells #[.int .i64 1] 3))
  have CR3 := Lib.hid (J19.crash hc18' (l := [1]) (row_one W18) (Nat.le_refl _) (by decide))
  have rs20 : recs (d18.crash [1]).now = [ab, [99]] := by
    rw [Dk.crash_now, hT18 [1], if_pos ⟨rfl, by decide⟩]
    show j14.rs ++ _ = _
    rw [hrs14]; rfl
  have O20 := Lib.hid (fun (W : World) (p : Nat) (X : Nat → Prop) (h : Side w W p (d18.crash [1]) X) => open_ok h rfl (by show 0 ≤ 8; omega) rs20)
  unfold OpenOk at O20
  clear F17 AB2 hP17 hJ17 hP18 hJ18 hT18 hc18 J19
  go_upto_region 19 with (first
    | (go_at_call 18; ((with_reducible refine CR3.out.mono ?_); rintro e W20 ⟨p20, rfl, hS20, hb20⟩))
    | (go_at_call 14; ((with_reducible refine (O20.out W20 p20 _ hS20).mono ?_); rintro e W21 ⟨b21, A21, c21, j21, rfl, _, _, _, _, hP21, _, _, hr21⟩))
    | (fail "arm"))
  have SM21 := Lib.hid (show Calls Try.prog 19 #[.slice A21 2 c21, .slice (some ⟨W21.heap.size, 0, none⟩) 2 2] (W21.alloc (.cells #[.string ⟨#[97, 98]⟩, .string ⟨#[99]⟩] 9)) (QBool (W21.alloc (.cells #[.string ⟨#[97, 98]⟩, .string ⟨#[99]⟩] 9)) true) from
    same_lit [⟨#[97, 98]⟩, ⟨#[99]⟩] rfl (hr21.alloc _) (Full.new W21 9 [.string ⟨#[97, 98]⟩, .string ⟨#[99]⟩]) (by decide))
  unfold QBool at SM21
  have HBE := Lib.hid (fun q => (show Below w.heap.size w ((W21.alloc (.cells #[.string ⟨#[97, 98]⟩, .string ⟨#[99]⟩] 9)).drewN q) from Below.drewN_ (hP21.1.on ((Below.refl _ W21).alloc (Nat.le_refl _) _)).bel q))
  clear CR3 O20 hb20 hS20 hP21 hr21
  go_wp2_with (go_at_call 19; ((with_reducible refine SM21.out.mono ?_); rintro e W22 ⟨rfl, q22, rfl⟩))
  go_ret
  exact ⟨rfl, HBE.out _⟩
end Go.Proofs.Ythhpnlobhffimaa
