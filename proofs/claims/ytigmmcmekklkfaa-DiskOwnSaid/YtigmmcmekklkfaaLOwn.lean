/- DiskOwn: a disk and the one that its crash left do not share. For all arguments. -/
import Derived.Test.YtigmmcmekklkfaaKit3
namespace Go.Proofs.Ytigmmcmekklkfaa.lown
open Go.ChangeShapes Go.WideShapes Go.ChangeAt Go.RowKit

set_option maxRecDepth 100000 in
set_option maxHeartbeats 8000000 in
theorem walk (s : ByteArray) (P : Option Addr) (l1 : List Int) (cp : Nat) (t0 t1 : Int) (w : World) (hs : s.size ≤ maxLen)
    (hP : Row w w.heap.size 1 P l1.length cp (intC l1)) (hl1 : l1.length ≤ maxLen) :
    Calls Try.prog 8 #[.string s, .slice P l1.length cp, .agg #[.int .i64 t0, .int .i64 t1]] w (BoolB w true) := by
  obtain ⟨wB, hwB⟩ : ∃ wB, w.alloc (.cells #[.int .i64 t0, .int .i64 t1] 42) = wB := ⟨_, rfl⟩
  have hbB : Below w.heap.size w wB := by rw [← hwB]; exact (Below.refl _ w).alloc (Nat.le_refl _) _
  have FB : Full wB w.heap.size 42 [.int .i64 t0, .int .i64 t1] := by rw [← hwB]; exact Full.new w 42 _
  have S := Lib.hid (sane_any wB)
  have ND := Lib.hid (fun (W : World) (h : Below wB.heap.size wB W) => new_side h)
  unfold BoolB at S ⊢
  have HBB := Lib.hid hbB
  have RP := Lib.hid (fun (W : World) (hb : Below wB.heap.size wB W) => Row.below hP (Below.then_ hbB hb) (Nat.le_refl _))
  obtain ⟨m1, hm1⟩ : ∃ m, l1.length = m := ⟨_, rfl⟩
  rw [hm1] at RP hl1 ⊢
  have HL1 := Lib.hid hl1
  have M0 := Lib.hid (fun W' => (show Calls Try.prog 22 #[.int .i64 t0, .int .i64 100] W' fun e w' => e = .returned (.int .i64 (modN t0 100 : Int)) ∧ W' = w' from mod_any t0 100 W' (by omega) (by omega)))
  have M1 := Lib.hid (fun W' => (show Calls Try.prog 22 #[.int .i64 t1, .int .i64 100] W' fun e w' => e = .returned (.int .i64 (modN t1 100 : Int)) ∧ W' = w' from mod_any t1 100 W' (by omega) (by omega)))
  have hm0 := modN_lt (x := t0) (m := 100) (by omega)
  have hm1' := modN_lt (x := t1) (m := 100) (by omega)
  obtain ⟨ka, hka⟩ : ∃ k, modN t0 100 = k := ⟨_, rfl⟩
  obtain ⟨kb, hkb⟩ : ∃ k, modN t1 100 = k := ⟨_, rfl⟩
  rw [hka] at M0 hm0
  rw [hkb] at M1 hm1'
  obtain ⟨bb, hbb⟩ : ∃ b, w.heap.size = b := ⟨_, rfl⟩
  rw [hbb] at FB
  have CB := Lib.hid (fun (W : World) (h : Below wB.heap.size wB W) => (show W.cell? ⟨bb, 0, none⟩ = some (.int .i64 t0) ∧ W.cell? ⟨bb, 1, none⟩ = some (.int .i64 t1) from ⟨(FB.on h).cell 0, (FB.on h).cell 1⟩))
  have ka0 : (0 : Int) ≤ (ka : Int) := Int.natCast_nonneg _
  have ka1 : (ka : Int) < 100 := by omega
  have kb0 : (0 : Int) ≤ (kb : Int) := Int.natCast_nonneg _
  have kb1 : (kb : Int) < 100 := by omega
  have s0 : (0 : Int) ≤ (s.size : Int) := Int.natCast_nonneg _
  unfold maxLen at hs
  clear hP hm1 hl1 hka hkb FB hbB
  obtain ⟨T, hT⟩ : ∃ T, s.extract 0 (min (s.size : Int) 150).toNat ++ (⟨#[101, 110, 100]⟩ : ByteArray) = T := ⟨_, rfl⟩
  have hTs : T.size ≤ 153 := by
    rw [← hT, ByteArray.size_append, ByteArray.size_extract]
    have : (⟨#[101, 110, 100]⟩ : ByteArray).size = 3 := rfl
    omega
  have hTl : T.data.toList.length ≤ 153 := by rw [data_len]; exact hTs
  obtain ⟨e1, f1⟩ := wErr_ok (d := Dk.new) rfl 0 T.data.toList (by omega) (by omega)
  have W1 := Lib.hid (fun (W : World) (p : Nat) (X : Nat → Prop) (h : Side wB W p Dk.new X) => (show Calls Try.prog 27 #[.pointer (some ⟨p, 0, none⟩), .int .i64 0, .string T] W fun e W' => e = .returned (.int .i64 0) ∧ SPost wB W p (Dk.new.write 0 T.data.toList) X W' from by have := h.write (by decide) 0 T (by omega) (by unfold maxLen; omega); rw [e1] at this; exact this))
  have p1 : (Dk.new.write 0 T.data.toList).pw = none := by rw [f1]
  have c1 : (Dk.new.write 0 T.data.toList).calls = 1 := by rw [f1]; rfl
  obtain ⟨d1, hd1⟩ : ∃ d, Dk.new.write 0 T.data.toList = d := ⟨_, rfl⟩
  rw [hd1] at W1 p1 c1
  obtain ⟨e2, f2⟩ := sErr_ok p1
  have Y2 := Lib.hid (fun (W : World) (p : Nat) (X : Nat → Prop) (h : Side wB W p d1 X) => (show Calls Try.prog 28 #[.pointer (some ⟨p, 0, none⟩)] W fun e W' => e = .returned (.int .i64 0) ∧ SPost wB W p d1.sync X W' from by have := h.sync (by omega); rw [e2] at this; exact this))
  have p2 : d1.sync.pw = none := by rw [f2]
  have c2 : d1.sync.calls = 2 := by rw [f2]; simp [c1]
  obtain ⟨d2, hd2⟩ : ∃ d, d1.sync = d := ⟨_, rfl⟩
  rw [hd2] at Y2 p2 c2
  have l3 : (⟨#[110, 101, 119]⟩ : ByteArray).data.toList = [110, 101, 119] := rfl
  obtain ⟨e3, f3⟩ := wErr_ok p2 (ka : Int) [110, 101, 119] (by omega) (by simp; omega)
  have W3 := Lib.hid (fun (W : World) (p : Nat) (X : Nat → Prop) (h : Side wB W p d2 X) => (show Calls Try.prog 27 #[.pointer (some ⟨p, 0, none⟩), .int .i64 (ka : Int), .string ⟨#[110, 101, 119]⟩] W fun e W' => e = .returned (.int .i64 0) ∧ SPost wB W p (d2.write (ka : Int) [110, 101, 119]) X W' from by have := h.write (by omega) (ka : Int) ⟨#[110, 101, 119]⟩ (by omega) (by decide); rw [l3, e3] at this; exact this))
  have p3 : (d2.write (ka : Int) [110, 101, 119]).pw = none := by rw [f3]
  have c3 : (d2.write (ka : Int) [110, 101, 119]).calls = 3 := by rw [f3]; simp [c2]
  obtain ⟨d3, hd3⟩ : ∃ d, d2.write (ka : Int) [110, 101, 119] = d := ⟨_, rfl⟩
  rw [hd3] at W3 p3 c3
  have CR := Lib.hid (fun (W : World) (p : Nat) (X : Nat → Prop) (h : Side wB W p d3 X) => h.crash2 (by omega) (RP.out W h.bel) (Nat.le_trans HBB.out.size h.bel.size) HL1.out)
  have R4 := Lib.hid (fun (W : World) (p q : Nat) (c : Dk) (h : Two wB W p q d3 c) => h.read 0 500)
  obtain ⟨q0, hq0⟩ : ∃ c, d3.crash l1 = c := ⟨_, rfl⟩
  have pq : q0.pw = none := by rw [← hq0]; rfl
  have cq : q0.calls = 0 := by rw [← hq0]; rfl
  rw [hq0] at CR
  obtain ⟨e5, f5⟩ := wErr_ok pq (kb : Int) [99, 114, 97, 115, 104] (by omega) (by simp; omega)
  have W5 := Lib.hid (fun (W : World) (p q : Nat) (h : Two wB W p q q0 d3) => (show Calls Try.prog 27 #[.pointer (some ⟨p, 0, none⟩), .int .i64 (kb : Int), .string ⟨#[99, 114, 97, 115, 104]⟩] W fun e W' => e = .returned (.int .i64 0) ∧ Two wB W' p q (q0.write (kb : Int) [99, 114, 97, 115, 104]) d3 from by have := h.write (by omega) (kb : Int) ⟨#[99, 114, 97, 115, 104]⟩ (by omega) (by decide); rw [show (⟨#[99, 114, 97, 115, 104]⟩ : ByteArray).data.toList = [99, 114, 97, 115, 104] from rfl, e5] at this; exact this))
  have c5 : (q0.write (kb : Int) [99, 114, 97, 115, 104]).calls = 1 := by rw [f5]; simp [cq]
  obtain ⟨q1, hq1⟩ : ∃ c, q0.write (kb : Int) [99, 114, 97, 115, 104] = c := ⟨_, rfl⟩
  rw [hq1] at W5 c5
  have R6 := Lib.hid (fun (W : World) (p q : Nat) (c : Dk) (h : Two wB W p q q1 c) => h.read 0 500)
  obtain ⟨e7, f7⟩ := wErr_ok p3 0 [99, 104, 97, 110, 103, 101, 100, 32, 97, 103, 97, 105, 110] (by omega) (by simp)
  have W7 := Lib.hid (fun (W : World) (p q : Nat) (h : Two wB W p q d3 q1) => (show Calls Try.prog 27 #[.pointer (some ⟨p, 0, none⟩), .int .i64 0, .string ⟨#[99, 104, 97, 110, 103, 101, 100, 32, 97, 103, 97, 105, 110]⟩] W fun e W' => e = .returned (.int .i64 0) ∧ Two wB W' p q (d3.write 0 [99, 104, 97, 110, 103, 101, 100, 32, 97, 103, 97, 105, 110]) q1 from by have := h.write (by omega) 0 ⟨#[99, 104, 97, 110, 103, 101, 100, 32, 97, 103, 97, 105, 110]⟩ (by omega) (by decide); rw [show (⟨#[99, 104, 97, 110, 103, 101, 100, 32, 97, 103, 97, 105, 110]⟩ : ByteArray).data.toList = [99, 104, 97, 110, 103, 101, 100, 32, 97, 103, 97, 105, 110] from rfl, e7] at this; exact this))
  have CA := Lib.hid (fun (W : World) (p q : Nat) (c : Dk) (h : Two wB W p q q1 c) => (show Calls Try.prog 19 #[.pointer (some ⟨p, 0, none⟩)] W fun e w' => e = .returned (.int .i64 1) ∧ W = w' from by have := h.calls; rw [c5] at this; exact this))
  obtain ⟨MI, hMI⟩ : ∃ S, str (d3.read 0 500) = S := ⟨_, rfl⟩
  obtain ⟨OT, hOT⟩ : ∃ S, str (q1.read 0 500) = S := ⟨_, rfl⟩
  rw [hMI] at R4
  rw [hOT] at R6
  clear e1 f1 p1 c1 hd1 e2 f2 p2 c2 hd2 e3 f3 p3 c3 hd3 hq0 pq cq e5 f5 c5 hq1 e7 f7 hMI hOT hTl l3
  go_enter Try.func8, Try.ntmps8
  go_upto_region 1 with fail
  clear hwB hbb
  go_upto_region 6 with (first
    | (go_at_call 13; ((with_reducible refine S.out.mono ?_); rintro e w1 ⟨rfl, hb1⟩))
    | (go_at_call 14; ((with_reducible refine (ND.out w1 hb1).mono ?_); rintro e w2 ⟨p, rfl, hS2, hb2⟩))
    | (fail "arm"))
  clear hT hb1 hb2
  go_upto_region 8 with (first
    | (go_at_call 27; ((with_reducible refine (W1.out w2 p _ hS2).mono ?_); rintro e w3 ⟨rfl, hS3, _⟩))
    | (go_at_call 28; ((with_reducible refine (Y2.out w3 p _ hS3).mono ?_); rintro e w4 ⟨rfl, hS4, _⟩; (obtain ⟨b40, _⟩ := CB.out w4 hS4.bel)))
    | (fail "arm"))
  clear hS2 hS3
  go_upto_region 13 with (first
    | (go_at_call 22; ((with_reducible refine (M0.out _).mono ?_); rintro e wz ⟨rfl, rfl⟩))
    | (go_at_call 27; ((with_reducible refine (W3.out w4 p _ hS4).mono ?_); rintro e w5 ⟨rfl, hS5, _⟩))
    | (go_at_call 23; ((with_reducible refine (CR.out w5 p _ hS5).mono ?_); rintro e w6 ⟨q, rfl, hT6⟩; (obtain ⟨_, b61⟩ := CB.out w6 hT6.bel)))
    | (go_at_call 29; ((with_reducible refine (R4.out w6 p q _ hT6).mono ?_); rintro e wz ⟨rfl, rfl⟩))
    | (fail "arm"))
  clear b40 hS4 hS5
  go_wp2_with (first
    | (go_at_call 22; ((with_reducible refine (M1.out _).mono ?_); rintro e wz ⟨rfl, rfl⟩))
    | (go_at_call 27; ((with_reducible refine (W5.out w6 q p hT6.swap).mono ?_); rintro e w7 ⟨rfl, hT7⟩; (have hT7s := hT7.swap)))
    | (go_at_call 29; ((with_reducible refine (R6.out w7 q p _ hT7).mono ?_); rintro e wz ⟨rfl, rfl⟩))
    | (go_at_call 29; ((with_reducible refine (R4.out w7 p q _ hT7s).mono ?_); rintro e wz ⟨rfl, rfl⟩))
    | (go_at_call 27; ((with_reducible refine (W7.out w7 p q hT7s).mono ?_); rintro e w8 ⟨rfl, hT8⟩; (have hT8s := hT8.swap)))
    | (go_at_call 29; ((with_reducible refine (R6.out w8 q p _ hT8s).mono ?_); rintro e wz ⟨rfl, rfl⟩))
    | (go_at_call 19; ((with_reducible refine (CA.out w8 q p _ hT8s).mono ?_); rintro e wz ⟨rfl, rfl⟩))
    | (fail "arm"))
  go_ret
  exact ⟨by simp, Below.then_ HBB.out hT8.bel⟩

theorem contract (H : Type) (enc : TypeId × Value → H) (W : World) (base : Nat) (args : Array Value) (ds gs : List (DataW H)) (before : List MemPlace)
    (hval : ∀ (j : Nat) t v, Try.f8.params[j]? = some t → args[j]? = some v → Value.okWide Try.prog W .any base t v)
    (hW : DataW.Whole enc Try.prog Try.f8.params.toList Rows.diskOwnSpec.vars false W args.toList ds gs before) :
    Calls Try.prog 8 args W fun e W' => ∃ v, e = .returned v ∧ Rows.diskOwnSpec.post enc Try.prog Try.f8 false true false false W args v W' := by
  have hW' := hW
  obtain ⟨p, q, hA0, hV, rfl, hfz, hnd⟩ := hW
  have hA : DataW.TrodAll enc Try.prog W 0 (fun _ => true) true Try.f8.params.toList args.toList ds p := hA0
  rw [Try.params8] at hA hval
  obtain ⟨v0, vs0, d0, ds0, p0, q0, e0, rfl, rfl, h0, r0⟩ := trodAll_cons hA
  obtain ⟨v1, vs1, d1, ds1, p1, q1, e1, rfl, rfl, h1, r1⟩ := trodAll_cons r0
  obtain ⟨v2, vs2, d2, ds2, p2, q2, e2, rfl, rfl, h2, r2⟩ := trodAll_cons r1
  obtain ⟨rfl, rfl, rfl⟩ := trodAll_nil r2
  obtain rfl : args = #[v0, v1, v2] := by cases args; simp_all
  obtain ⟨rfl, rfl⟩ := trodVars_none hV
  obtain ⟨s, rfl, rfl, rfl, hs⟩ := Go.ChangeMaps.open_string Try.underlying9 (hval 0 9 v0 rfl rfl) h0
  obtain ⟨P, l1, cp, rfl, hP, hl1⟩ := open_ints h1 (hval 1 36 v1 rfl rfl)
  obtain ⟨x, y, rfl, hx, hy⟩ := open_pair (hval 2 42 v2 rfl rfl) h2
  refine (walk s P l1 cp x y W hs hP hl1).mono fun e W' ⟨he, hb⟩ => ⟨_, he, law_post rfl rfl ?_ rfl rfl rfl hW' hb⟩
  rw [Try.params8]
  intro t ht
  have ht' : t = 9 ∨ t = 36 ∨ t = 42 := by simpa using ht
  rcases ht' with rfl | rfl | rfl <;> exact ⟨by kernel_rfl, of_decide_eq_true (by kernel_rfl)⟩

set_option maxRecDepth 100000 in
theorem lifted (os : Os) (started : os.Started) (H : Type) (enc : TypeId × Value → H) :
    ReturnsInHanded {} Try.checked os 8 .any (Rows.diskOwnSpec.pre6 enc Try.prog Try.f8 Rows.diskOwnRow.domain false) (Rows.diskOwnSpec.post enc Try.prog Try.f8 false true false false) := by
  refine returnsInHanded_of_change (C := Try.checked) ownKnob_none started (by kernel_rfl) Try.func8
    (ChangeSpec.witness6 (enc := enc) (C := Try.checked) false ⟨#[], #[.string .empty, .slice none 0 0, .agg #[.int .i64 0, .int .i64 0]], []⟩ 8 (by kernel_rfl) (by kernel_rfl) (by kernel_rfl) (by kernel_rfl)) ?_
  intro W base args ds gs before hval hW _ _
  exact contract H enc W base args ds gs before hval hW

theorem proved : Rows.DiskOwnSaid :=
  OpenClaim.holds_of_wide 8 Try.f8 rfl rfl rfl rfl rfl rfl rfl ⟨rfl, rfl, rfl, rfl, rfl⟩ rfl rfl rfl rfl rfl (by kernel_rfl) Try.func8 (by kernel_rfl)
    (of_decide_eq_true (by kernel_rfl)) (by unfold Func.isWrapper; first | (rw [if_pos (by decide +kernel)]; kernel_rfl) | (rw [if_neg (by decide +kernel)]; exact ⟨rfl, rfl⟩))
    (fun os started H enc _ => lifted os started H enc)

end Go.Proofs.Ytigmmcmekklkfaa.lown
