/- sanity: the chapter's examples. -/
import Derived.Test.YtigmmcmekklkfaaSide
namespace Go.Proofs.Ytigmmcmekklkfaa
set_option maxRecDepth 100000
open Go.RowKit
def ab : List UInt8 := [97, 98]
def x70 : List UInt8 := List.replicate 70 120
def sdk1 : Dk := Dk.new.write 2 [97, 98]
def sdk2 : Dk := sdk1.sync
def sdk3 : Dk := sdk2.write 3 [120, 121, 122]
def sdk4 : Dk := sdk3.crash []
def sdk5 : Dk := Dk.new.write 60 x70
def sdk6 : Dk := sdk5.crash [0, 1]
def sdk7 : Dk := Dk.new.fail 1
def sdk8 : Dk := sdk7.sync
theorem sa1 : Dk.new.wErr 2 [97, 98] = 0 := by decide
theorem sa2 : (sdk1.now.length : Int) = 4 := by decide
theorem sa3 : str (sdk1.read 0 9) = ⟨#[0, 0, 97, 98]⟩ := by unfold str; congr 2
theorem sa4 : sdk1.sErr = 0 := by decide
theorem sa5 : sdk2.wErr 3 [120, 121, 122] = 0 := by decide
theorem sa6 : Dk.new.wErr 60 x70 = 0 := by decide
theorem sa7 : sdk7.sErr = 0 := by decide
theorem sa8 : sdk8.wErr 0 [97] = 30 := by decide
theorem sa9 : (sdk8.write 0 [97]).wErr (-1) [97] = 1 := by decide
theorem sa10 : ((((sdk8.write 0 [97]).write (-1) [97]).calls : Nat) : Int) = 1 := by decide
theorem sa11 : str (sdk4.read 0 9) = ⟨#[0, 0, 97, 98]⟩ := by unfold str; congr 2
theorem sa12 : (sdk6.now.length : Int) = 128 := by decide +kernel
theorem sa13 : str (sdk6.read 60 9) = ⟨#[0, 0, 0, 0, 120, 120, 120, 120, 120]⟩ := by unfold str; congr 2
/-- blocks below B are as they were -/
structure Since (B : Nat) (W W' : World) : Prop where
  keep : ∀ g, g < B → W'.heap[g]? = W.heap[g]?
  size : W.heap.size ≤ W'.heap.size
theorem Since.trans {B : Nat} {A C D : World} (h : Since B A C) (k : Since B C D) : Since B A D := ⟨fun g hg => (k.keep g hg).trans (h.keep g hg), Nat.le_trans h.size k.size⟩
theorem Since.of {B : Nat} {A C : World} (h : Below A.heap.size A C) (hB : B ≤ A.heap.size) : Since B A C := ⟨fun g hg => h.block g (by omega), h.size⟩
theorem SPost.since {w W W' : World} {p : Nat} {d : Dk} {X : Nat → Prop} (k : SPost w W p d X W') {B : Nat} (hB : ∀ g, g < B → X g) : Since B W W' := ⟨fun g hg => k.2.1 g (hB g hg), k.2.2⟩
theorem Side.since {w W W' : World} {p : Nat} {d : Dk} {X : Nat → Prop} (h : Side w W p d X) (k : Since W.heap.size W W') (hb : Below w.heap.size w W') : Side w W' p d X := by
  obtain ⟨F, i1, i4⟩ := h.his
  exact ⟨hb, F, i1.keep (fun g hg => k.keep g (i1.in_ g hg).2) k.size, fun g hg => ⟨(i4 g hg).1, Nat.lt_of_lt_of_le (i4 g hg).2 k.size⟩⟩
theorem row01 (W : World) : Row (W.alloc (.cells #[.int .i64 0, .int .i64 1] 3)) (W.alloc (.cells #[.int .i64 0, .int .i64 1] 3)).heap.size 1 (some ⟨W.heap.size, 0, none⟩) 2 2 (intC [0, 1]) :=
  (Full.new W 3 [.int .i64 0, .int .i64 1]).row 1 2 rfl 2 (Nat.le_refl _)
set_option maxHeartbeats 16000000 in
theorem sane_any (w : World) : Calls Try.prog 13 #[] w (BoolB w true) := by
  unfold BoolB
  have N1 := Lib.hid (new_side (Below.refl w.heap.size w))
  have NE := Lib.hid (fun (W : World) (h : Below w.heap.size w W) => new_side h)
  have R1 := Lib.hid (fun (W : World) => (show Calls Try.prog 26 #[.int .u8 120, .int .i64 70] W (StrB W (str x70)) from repeated_any 120 70 W (by omega)))
  unfold StrB at R1
  have X70 := Lib.hid (str_data x70)
  obtain ⟨XS, hXS⟩ : ∃ XS, str x70 = XS := ⟨_, rfl⟩
  rw [hXS] at R1 X70
  have XZ := Lib.hid (show XS.size ≤ maxLen by rw [← hXS, str_size]; decide)
  -- the disk d
  have A1 := Lib.hid (fun (W : World) (p : Nat) (X : Nat → Prop) (h : Side w W p Dk.new X) => (show Calls Try.prog 27 #[.pointer (some ⟨p, 0, none⟩), .int .i64 2, .string ⟨#[97, 98]⟩] W fun e W' => e = .returned (.int .i64 0) ∧ SPost w W p sdk1 X W' from sa1 ▸ h.write (by decide) 2 ⟨#[97, 98]⟩ (by omega) (by decide)))
  have A2 := Lib.hid (fun (W : World) (p : Nat) (X : Nat → Prop) (h : Side w W p sdk1 X) => (show Calls Try.prog 17 #[.pointer (some ⟨p, 0, none⟩)] W fun e w' => e = .returned (.int .i64 4) ∧ W = w' from sa2 ▸ h.size))
  have A3 := Lib.hid (fun (W : World) (p : Nat) (X : Nat → Prop) (h : Side w W p sdk1 X) => (show Calls Try.prog 29 #[.pointer (some ⟨p, 0, none⟩), .int .i64 0, .int .i64 9] W fun e w' => e = .returned (.string ⟨#[0, 0, 97, 98]⟩) ∧ W = w' from sa3 ▸ h.read 0 9))
  have A4 := Lib.hid (fun (W : World) (p : Nat) (X : Nat → Prop) (h : Side w W p sdk1 X) => (show Calls Try.prog 28 #[.pointer (some ⟨p, 0, none⟩)] W fun e W' => e = .returned (.int .i64 0) ∧ SPost w W p sdk2 X W' from sa4 ▸ h.sync (by decide)))
  have A5 := Lib.hid (fun (W : World) (p : Nat) (X : Nat → Prop) (h : Side w W p sdk2 X) => (show Calls Try.prog 27 #[.pointer (some ⟨p, 0, none⟩), .int .i64 3, .string ⟨#[120, 121, 122]⟩] W fun e W' => e = .returned (.int .i64 0) ∧ SPost w W p sdk3 X W' from sa5 ▸ h.write (by decide) 3 ⟨#[120, 121, 122]⟩ (by omega) (by decide)))
  have A6 := Lib.hid (fun (W : World) (p : Nat) (X : Nat → Prop) (h : Side w W p sdk3 X) => (show Calls Try.prog 23 #[.pointer (some ⟨p, 0, none⟩), .slice none 0 0] W fun e W' => ∃ p', e = .returned (.pointer (some ⟨p', 0, none⟩)) ∧ Side w W' p' sdk4 (fun g => g < W.heap.size) ∧ Below W.heap.size W W' from h.crash (l := []) (by decide) (Row.empty W 0 1) (Nat.zero_le _) (by decide)))
  have A7 := Lib.hid (fun (W : World) (p : Nat) (X : Nat → Prop) (h : Side w W p Dk.new X) => (show Calls Try.prog 27 #[.pointer (some ⟨p, 0, none⟩), .int .i64 60, .string XS] W fun e W' => e = .returned (.int .i64 0) ∧ SPost w W p sdk5 X W' from by
    have := h.write (by decide) 60 XS (by omega) XZ.out
    rw [X70.out, sa6] at this
    exact this))
  have A8 := Lib.hid (fun (W : World) (p : Nat) (X : Nat → Prop) (h : Side w W p sdk5 X) => (show Calls Try.prog 23 #[.pointer (some ⟨p, 0, none⟩), .slice (some ⟨W.heap.size, 0, none⟩) 2 2] (W.alloc (.cells #[.int .i64 0, .int .i64 1] 3)) fun e W' => ∃ p', e = .returned (.pointer (some ⟨p', 0, none⟩)) ∧ Side w W' p' sdk6 (fun g => g < (W.alloc (.cells #[.int .i64 0, .int .i64 1] 3)).heap.size) ∧ Below (W.alloc (.cells #[.int .i64 0, .int .i64 1] 3)).heap.size (W.alloc (.cells #[.int .i64 0, .int .i64 1] 3)) W' from
    (h.on ((Below.refl _ W).alloc (Nat.le_refl _) (.cells #[.int .i64 0, .int .i64 1] 3))).crash (l := [0, 1]) (by decide) (row01 W) (Nat.le_refl _) (by decide)))
  have A9 := Lib.hid (fun (W : World) (p : Nat) (X : Nat → Prop) (h : Side w W p Dk.new X) => (show Calls Try.prog 30 #[.pointer (some ⟨p, 0, none⟩), .int .i64 1] W fun e W' => e = .returned (.tuple #[]) ∧ SPost w W p sdk7 X W' from h.fail 1 ⟨by omega, by omega⟩))
  have A10 := Lib.hid (fun (W : World) (p : Nat) (X : Nat → Prop) (h : Side w W p sdk7 X) => (show Calls Try.prog 28 #[.pointer (some ⟨p, 0, none⟩)] W fun e W' => e = .returned (.int .i64 0) ∧ SPost w W p sdk8 X W' from sa7 ▸ h.sync (by decide)))
  have A11 := Lib.hid (fun (W : World) (p : Nat) (X : Nat → Prop) (h : Side w W p sdk8 X) => (show Calls Try.prog 27 #[.pointer (some ⟨p, 0, none⟩), .int .i64 0, .string ⟨#[97]⟩] W fun e W' => e = .returned (.int .i64 30) ∧ SPost w W p (sdk8.write 0 [97]) X W' from sa8 ▸ h.write (by decide) 0 ⟨#[97]⟩ (by omega) (by decide)))
  have A12 := Lib.hid (fun (W : World) (p : Nat) (X : Nat → Prop) (h : Side w W p (sdk8.write 0 [97]) X) => (show Calls Try.prog 27 #[.pointer (some ⟨p, 0, none⟩), .int .i64 (-1), .string ⟨#[97]⟩] W fun e W' => e = .returned (.int .i64 1) ∧ SPost w W p ((sdk8.write 0 [97]).write (-1) [97]) X W' from sa9 ▸ h.write (by decide) (-1) ⟨#[97]⟩ (by omega) (by decide)))
  have A13 := Lib.hid (fun (W : World) (p : Nat) (X : Nat → Prop) (h : Side w W p ((sdk8.write 0 [97]).write (-1) [97]) X) => (show Calls Try.prog 19 #[.pointer (some ⟨p, 0, none⟩)] W fun e w' => e = .returned (.int .i64 1) ∧ W = w' from sa10 ▸ h.calls))
  have A14 := Lib.hid (fun (W : World) (p : Nat) (X : Nat → Prop) (h : Side w W p sdk4 X) => (show Calls Try.prog 29 #[.pointer (some ⟨p, 0, none⟩), .int .i64 0, .int .i64 9] W fun e w' => e = .returned (.string ⟨#[0, 0, 97, 98]⟩) ∧ W = w' from sa11 ▸ h.read 0 9))
  have A15 := Lib.hid (fun (W : World) (p : Nat) (X : Nat → Prop) (h : Side w W p sdk6 X) => (show Calls Try.prog 17 #[.pointer (some ⟨p, 0, none⟩)] W fun e w' => e = .returned (.int .i64 128) ∧ W = w' from sa12 ▸ h.size))
  have A16 := Lib.hid (fun (W : World) (p : Nat) (X : Nat → Prop) (h : Side w W p sdk6 X) => (show Calls Try.prog 29 #[.pointer (some ⟨p, 0, none⟩), .int .i64 60, .int .i64 9] W fun e w' => e = .returned (.string ⟨#[0, 0, 0, 0, 120, 120, 120, 120, 120]⟩) ∧ W = w' from sa13 ▸ h.read 60 9))
  clear hXS
  go_enter Try.func13, Try.ntmps13
  go_upto_region 5 with (first
    | (go_at_call 14; ((with_reducible refine N1.out.mono ?_); rintro e W1 ⟨p1, rfl, hS1, hb1⟩))
    | (go_at_call 27; ((with_reducible refine (A1.out W1 p1 _ hS1).mono ?_); rintro e W2 ⟨rfl, hS2, _⟩))
    | (go_at_call 17; ((with_reducible refine (A2.out W2 p1 _ hS2).mono ?_); rintro e W2' ⟨rfl, rfl⟩))
    | (go_at_call 29; ((with_reducible refine (A3.out W2 p1 _ hS2).mono ?_); rintro e W2'' ⟨rfl, rfl⟩))
    | (go_at_call 28; ((with_reducible refine (A4.out W2 p1 _ hS2).mono ?_); rintro e W3 ⟨rfl, hS3, _⟩))
    | (go_at_call 27; ((with_reducible refine (A5.out W3 p1 _ hS3).mono ?_); rintro e W4 ⟨rfl, hS4, _⟩))
    | (fail "arm"))
  clear A1 A2 A3 A4 A5 hS1 hS2 hS3 hb1
  go_upto_region 9 with (first
    | (go_at_call 23; ((with_reducible refine (A6.out W4 p1 _ hS4).mono ?_); rintro e W5 ⟨p5, rfl, hS5, hb5⟩))
    | (go_at_call 14; ((with_reducible refine (NE.out W5 hS5.bel).mono ?_); rintro e W6 ⟨p6, rfl, hS6, hb6⟩))
    | (go_at_call 26; ((with_reducible refine (R1.out W6).mono ?_); rintro e W7 ⟨rfl, hb7⟩; (have hP7 := hS6.spost hb7); (have hS7 := hP7.1)))
    | (go_at_call 27; ((with_reducible refine (A7.out W7 p6 _ hS7).mono ?_); rintro e W8 ⟨rfl, hP8⟩; (have hS8 := hP8.1)))
    | (go_at_call 23; ((with_reducible refine (A8.out W8 p6 _ hS8).mono ?_); rintro e W9 ⟨p9, rfl, hS9, hb9⟩))
    | (fail "arm"))
  have q8 := (hP7.trans hP8).since (B := W5.heap.size) (fun g hg => hg)
  have q89 : Since W5.heap.size W8 W9 := (Since.of ((Below.refl _ W8).alloc (Nat.le_refl _) (.cells #[.int .i64 0, .int .i64 1] 3)) (Nat.le_trans hb6.size q8.size)).trans (Since.of hb9 (by have := hb6.size; have := q8.size; simp; omega))
  have q9 := Lib.hid (((Since.of hb6 (Nat.le_refl _)).trans q8).trans q89)
  have HS5 := Lib.hid hS5
  have HS9 := Lib.hid hS9
  clear q8 q89 hP7 hP8 A6 A7 A8 hS4 hS6 hS7 hS8 hb5 hb6 hb7 hb9
  go_upto_region 14 with (first
    | (go_at_call 14; ((with_reducible refine (NE.out W9 hS9.bel).mono ?_); rintro e W10 ⟨p10, rfl, hS10, hb10⟩))
    | (go_at_call 30; ((with_reducible refine (A9.out W10 p10 _ hS10).mono ?_); rintro e W11 ⟨rfl, hP11⟩; (have hS11 := hP11.1)))
    | (go_at_call 28; ((with_reducible refine (A10.out W11 p10 _ hS11).mono ?_); rintro e W12 ⟨rfl, hP12⟩; (have hS12 := hP12.1)))
    | (go_at_call 27; ((with_reducible refine (A11.out W12 p10 _ hS12).mono ?_); rintro e W13 ⟨rfl, hP13⟩; (have hS13 := hP13.1)))
    | (go_at_call 27; ((with_reducible refine (A12.out W13 p10 _ hS13).mono ?_); rintro e W14 ⟨rfl, hP14⟩; (have hS14 := hP14.1)))
    | (go_at_call 19; ((with_reducible refine (A13.out W14 p10 _ hS14).mono ?_); rintro e W14' ⟨rfl, rfl⟩))
    | (fail "arm"))
  have r1 : Since W9.heap.size W9 W14 := (Since.of hb10 (Nat.le_refl _)).trans ((((hP11.trans hP12).trans hP13).trans hP14).since (fun g hg => hg))
  have hc := HS5.out.since (q9.out.trans ⟨fun g hg => r1.keep g (by have := q9.out.size; omega), r1.size⟩) hS14.bel
  have hf := HS9.out.since r1 hS14.bel
  have HBE := Lib.hid hS14.bel
  clear r1 hP11 hP12 hP13 hP14 hS10 hS11 hS12 hS13 hS14 hS9 hS5 hb10 A9 A10 A11 A12 A13
  go_wp2_with (first
    | (go_at_call 29; ((with_reducible refine (A14.out W14 p5 _ hc).mono ?_); rintro e W15 ⟨rfl, rfl⟩))
    | (go_at_call 17; ((with_reducible refine (A15.out W14 p9 _ hf).mono ?_); rintro e W16 ⟨rfl, rfl⟩))
    | (go_at_call 29; ((with_reducible refine (A16.out W14 p9 _ hf).mono ?_); rintro e W17 ⟨rfl, rfl⟩))
    | (fail "arm"))
  go_ret
  exact ⟨rfl, HBE.out⟩
end Go.Proofs.Ytigmmcmekklkfaa
