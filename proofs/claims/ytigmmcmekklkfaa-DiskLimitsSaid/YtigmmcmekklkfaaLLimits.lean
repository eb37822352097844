/- DiskLimits: the limits of a write: the last byte, gaps of zeros, wrong offsets. For all arguments. -/
import Derived.Test.YtigmmcmekklkfaaKit2
import Derived.Deep.RegionHeldLaw
namespace Go.Proofs.Ytigmmcmekklkfaa.llimits
open Go.ChangeShapes Go.WideShapes Go.ChangeAt Go.RowKit

theorem gap_now (k : Nat) (hk : k < 500) : Dk.new.wErr (k : Int) [] = 0 ∧ (Dk.new.write (k : Int) []).now = List.replicate k 0 := by
  have e : Dk.new.wErr (k : Int) [] = 0 := by
    unfold Dk.wErr
    rw [if_neg (by rw [(Dk.canW_iff (k : Int) ([] : List UInt8).length).2 ⟨by omega, by simp; omega⟩]; simp)]
    rfl
  refine ⟨e, ?_⟩
  unfold Dk.write
  rw [if_pos e, Dk.wrote_now]
  simp [put, Dk.new, Dk.now, putAll]
theorem err_one (d : Dk) (off : Int) (s : List UInt8) (h : ¬ (0 ≤ off ∧ off + (s.length : Int) ≤ 16777216)) : d.wErr off s = 1 ∧ d.write off s = d := by
  have e : d.wErr off s = 1 := by
    unfold Dk.wErr
    rw [if_pos]
    rw [← Bool.not_eq_true, Dk.canW_iff]
    exact h
  refine ⟨e, ?_⟩
  unfold Dk.write
  rw [if_neg (by rw [e]; decide)]

set_option maxRecDepth 100000 in
set_option maxHeartbeats 16000000 in
theorem walk (far n off : Int) (w : World) :
    Calls Try.prog 11 #[.int .i64 far, .int .i64 n, .int .i64 off] w (BoolB w true) := by
  have S := Lib.hid (sane_any w)
  have ND := Lib.hid (fun W => new_any W)
  have NR := Lib.hid (fun W => refNew_any W)
  have NS := Lib.hid (fun (W : World) => new_side (Below.refl W.heap.size W))
  unfold BoolB at S ⊢
  have M7 := Lib.hid (fun W' => (show Calls Try.prog 22 #[.int .i64 far, .int .i64 7] W' fun e w' => e = .returned (.int .i64 (modN far 7 : Int)) ∧ W' = w' from mod_any far 7 W' (by omega) (by omega)))
  have M70 := Lib.hid (fun W' => (show Calls Try.prog 22 #[.int .i64 n, .int .i64 70] W' fun e w' => e = .returned (.int .i64 (modN n 70 : Int)) ∧ W' = w' from mod_any n 70 W' (by omega) (by omega)))
  have M500 := Lib.hid (fun W' => (show Calls Try.prog 22 #[.int .i64 off, .int .i64 500] W' fun e w' => e = .returned (.int .i64 (modN off 500 : Int)) ∧ W' = w' from mod_any off 500 W' (by omega) (by omega)))
  have hm7 := modN_lt (x := far) (m := 7) (by omega)
  have hm70 := modN_lt (x := n) (m := 70) (by omega)
  have hm500 := modN_lt (x := off) (m := 500) (by omega)
  obtain ⟨a, ha⟩ : ∃ k, modN far 7 = k := ⟨_, rfl⟩
  obtain ⟨j, hj⟩ : ∃ k, modN n 70 = k := ⟨_, rfl⟩
  obtain ⟨k, hk⟩ : ∃ k, modN off 500 = k := ⟨_, rfl⟩
  rw [ha] at M7 hm7
  rw [hj] at M70 hm70
  rw [hk] at M500 hm500
  have RP := Lib.hid (fun W => (show Calls Try.prog 26 #[.int .u8 113, .int .i64 (j : Int)] W (StrB W (str (List.replicate j 113))) from repeated_any 113 j W (by omega)))
  unfold StrB at RP
  have zT : (str (List.replicate j (113 : UInt8))).size = j := by rw [str_size]; simp
  have WR := Lib.hid (fun (w0 W : World) (p q : Nat) (X : Nat → Prop) (h : Both w0 W p q Dk.new Dk.new X) => (show Calls Try.prog 27 #[.pointer (some ⟨p, 0, none⟩), .int .i64 (16777216 - (j : Int) - 3 + (a : Int)), .string (str (List.replicate j 113))] W fun e W' => e = .returned (.int .i64 (Dk.new.wErr (16777216 - (j : Int) - 3 + (a : Int)) (List.replicate j 113))) ∧ DPost w0 W p q (Dk.new.write (16777216 - (j : Int) - 3 + (a : Int)) (List.replicate j 113)) Dk.new X W' from h.write (by decide) _ (str (List.replicate j 113)) (by omega) (by rw [zT]; unfold maxLen; omega)))
  have RW := Lib.hid (fun (w0 W : World) (p q : Nat) (X : Nat → Prop) (d : Dk) (h : Both w0 W p q d Dk.new X) => h.rwrite (by decide) (16777216 - (j : Int) - 3 + (a : Int)) (List.replicate j 113) (by omega) (by simp; omega))
  obtain ⟨E, hE⟩ : ∃ E, Dk.new.wErr (16777216 - (j : Int) - 3 + (a : Int)) (List.replicate j 113) = E := ⟨_, rfl⟩
  obtain ⟨D, hD⟩ : ∃ D, Dk.new.write (16777216 - (j : Int) - 3 + (a : Int)) (List.replicate j 113) = D := ⟨_, rfl⟩
  rw [hE] at WR RW
  rw [hD] at WR RW
  have hwz : IntKind.i64.wrap (IntKind.i64.wrap (IntKind.i64.wrap (16777216 - (j : Int)) - 3) + (a : Int)) = 16777216 - (j : Int) - 3 + (a : Int) := by
    rw [IntWalk.i64_in (16777216 - (j : Int)) (by omega), IntWalk.i64_in (16777216 - (j : Int) - 3) (by omega), IntWalk.i64_in _ (by omega)]
  rw [← hwz] at WR RW
  clear hwz
  obtain ⟨T, hT⟩ : ∃ T, str (List.replicate j (113 : UInt8)) = T := ⟨_, rfl⟩
  rw [hT] at WR RW RP zT
  have a0 : (0 : Int) ≤ (a : Int) := Int.natCast_nonneg _
  have a1 : (a : Int) < 7 := by omega
  have j0 : (0 : Int) ≤ (j : Int) := Int.natCast_nonneg _
  have j1 : (j : Int) < 70 := by omega
  have k0 : (0 : Int) ≤ (k : Int) := Int.natCast_nonneg _
  have k1 : (k : Int) < 500 := by omega
  have zi : (T.size : Int) = (j : Int) := by omega
  clear ha hj hk hE hD hT
  go_enter Try.func11, Try.ntmps11
  go_upto_region 3 with (first
    | (go_at_call 13; ((with_reducible refine S.out.mono ?_); rintro e w1 ⟨rfl, hb1⟩))
    | (go_at_call 14; ((with_reducible refine (ND.out w1).mono ?_); rintro e w2 ⟨p, rfl, hD2, hb2⟩))
    | (go_at_call 15; ((with_reducible refine (NR.out w2).mono ?_); rintro e w3 ⟨q, rfl, hR3, hb3⟩))
    | (fail "arm"))
  obtain ⟨p5, q5, hB5, hX5⟩ := desk_new hb1 hD2 hb2 hR3 hb3
  obtain ⟨x, hx⟩ : ∃ x, w3.heap.size = x := ⟨_, rfl⟩
  obtain ⟨w4, hw4⟩ : ∃ w4, w3.alloc (.cells #[.pointer (some ⟨p, 0, none⟩), .pointer (some ⟨q, 0, none⟩)] 30) = w4 := ⟨_, rfl⟩
  rw [hx] at hB5 hX5 ⊢
  rw [hw4] at hB5 hX5 ⊢
  have FX : Full w4 x 30 [.pointer (some ⟨p, 0, none⟩), .pointer (some ⟨q, 0, none⟩)] := by rw [← hw4, ← hx]; exact Full.new w3 30 _
  obtain ⟨rfl, rfl⟩ : p5 = p ∧ q5 = q := by
    have h0 := (hX5.cell 0).symm.trans (FX.cell 0)
    have h1 := (hX5.cell 1).symm.trans (FX.cell 1)
    simpa using And.intro h0 h1
  have c40 : w4.cell? ⟨x, 0, none⟩ = some (.pointer (some ⟨p5, 0, none⟩)) := FX.cell 0
  clear hx hw4 FX hD2 hR3 hb1 hb2 hb3
  go_upto_region 6 with (first
    | (go_at_call 22; ((with_reducible refine (M70.out _).mono ?_); rintro e wz ⟨rfl, rfl⟩))
    | (go_at_call 26; ((with_reducible refine (RP.out w4).mono ?_); rintro e w5 ⟨rfl, hb5⟩; (have HB5 := Lib.hid (show Both w w5.drew p5 q5 Dk.new Dk.new (fun g => g = x) from (hB5.on hb5).drewN 1)); (have HX5 := Lib.hid (show Full w5.drew x 30 [.pointer (some ⟨p5, 0, none⟩), .pointer (some ⟨q5, 0, none⟩)] from (hX5.on hb5).drewN 1))))
    | (fail "arm"))
  have sd : w5.drew.cell? ⟨x, 0, none⟩ = some (.pointer (some ⟨p5, 0, none⟩)) ∧ w5.drew.cell? ⟨x, 1, none⟩ = some (.pointer (some ⟨q5, 0, none⟩)) := ⟨HX5.out.cell 0, HX5.out.cell 1⟩
  clear c40 hB5 hX5 hb5
  go_region_held3 (fun w' => w'.cell? ⟨x, 0, none⟩ = some (.pointer (some ⟨p5, 0, none⟩)) ∧ w'.cell? ⟨x, 1, none⟩ = some (.pointer (some ⟨q5, 0, none⟩)))
    (first | (with_reducible exact sd) | (with_reducible exact s6) | (fail "keep"))
    (first
      | (go_at_call 22; ((with_reducible refine (M7.out _).mono ?_); rintro e wz ⟨rfl, rfl⟩))
      | (go_at_call 27; ((with_reducible refine (WR.out w w5.drew p5 q5 _ HB5.out).mono ?_); rintro e w6 ⟨rfl, hB6, hk6⟩; (have HB6 := Lib.hid hB6); (have HX6 := Lib.hid (hk6.full HX5.out rfl)); (have s6 : w6.cell? ⟨x, 0, none⟩ = some (.pointer (some ⟨p5, 0, none⟩)) ∧ w6.cell? ⟨x, 1, none⟩ = some (.pointer (some ⟨q5, 0, none⟩)) := ⟨HX6.out.cell 0, HX6.out.cell 1⟩)))
      | (fail "arm"))
  have HB6d := Lib.hid (show Both w w6.drew p5 q5 D Dk.new (fun g => g = x) from HB6.out.drewN 1)
  have HX6d := Lib.hid (show Full w6.drew x 30 [.pointer (some ⟨p5, 0, none⟩), .pointer (some ⟨q5, 0, none⟩)] from HX6.out.drewN 1)
  have s6d : w6.drew.cell? ⟨x, 0, none⟩ = some (.pointer (some ⟨p5, 0, none⟩)) ∧ w6.drew.cell? ⟨x, 1, none⟩ = some (.pointer (some ⟨q5, 0, none⟩)) := ⟨HX6d.out.cell 0, HX6d.out.cell 1⟩
  clear hB6 hk6 sd
  go_upto_region 7 with fail
  go_region_held3 (fun w' => w'.cell? ⟨x, 0, none⟩ = some (.pointer (some ⟨p5, 0, none⟩)) ∧ w'.cell? ⟨x, 1, none⟩ = some (.pointer (some ⟨q5, 0, none⟩)))
    (first | (with_reducible exact s6d) | (with_reducible exact s7) | (fail "keep"))
    (first
      | (go_at_call 22; ((with_reducible refine (M7.out _).mono ?_); rintro e wz ⟨rfl, rfl⟩))
      | (go_at_call 32; ((with_reducible refine (RW.out w w6.drew p5 q5 _ D HB6d.out).mono ?_); rintro e w7 ⟨rfl, hB7, hk7⟩; (have HB7 := Lib.hid hB7); (have HX7 := Lib.hid (hk7.full HX6d.out rfl)); (have s7 : w7.cell? ⟨x, 0, none⟩ = some (.pointer (some ⟨p5, 0, none⟩)) ∧ w7.cell? ⟨x, 1, none⟩ = some (.pointer (some ⟨q5, 0, none⟩)) := ⟨HX7.out.cell 0, HX7.out.cell 1⟩)))
      | (fail "arm"))
  clear hB7 hk7 s6d s7 s6
  have g1 := gap_now k (by omega)
  obtain ⟨g1e, g1n⟩ := g1
  have WZ := Lib.hid (fun (w0 W : World) (p2 : Nat) (X : Nat → Prop) (h : Side w0 W p2 Dk.new X) => (show Calls Try.prog 27 #[.pointer (some ⟨p2, 0, none⟩), .int .i64 (k : Int), .string ⟨#[]⟩] W fun e W' => e = .returned (.int .i64 0) ∧ SPost w0 W p2 (Dk.new.write (k : Int) []) X W' from g1e ▸ h.write (by decide) (k : Int) ⟨#[]⟩ (by omega) (by decide)))
  have hcz : (Dk.new.write (k : Int) []).calls ≤ 100000 := by unfold Dk.write; rw [if_pos g1e]; simp [Dk.wrote, Dk.new]
  obtain ⟨dz, hdz⟩ : ∃ d, Dk.new.write (k : Int) [] = d := ⟨_, rfl⟩
  rw [hdz] at WZ g1n hcz
  clear g1e hdz
  go_upto_region 11 with (first
    | (go_at_call 14; ((with_reducible refine (NS.out w7).mono ?_); rintro e w8 ⟨p2, rfl, hS8, hb8⟩))
    | (go_at_call 22; ((with_reducible refine (M500.out _).mono ?_); rintro e wz ⟨rfl, rfl⟩))
    | (go_at_call 27; ((with_reducible refine (WZ.out w7 w8 p2 _ hS8).mono ?_); rintro e w9 ⟨rfl, hS9, _⟩))
    | (fail "arm"))
  have HB9 := Lib.hid (show Both w w9.drew p5 q5 D D (fun g => g = x) from (HB7.out.on hS9.bel).drewN 1)
  have HX9 := Lib.hid (show Full w9.drew x 30 [.pointer (some ⟨p5, 0, none⟩), .pointer (some ⟨q5, 0, none⟩)] from (HX7.out.on hS9.bel).drewN 1)
  have hb9 : Below w9.heap.size w9 w9.drew := Below.drewN_ (Below.refl _ w9) 1
  have HS9 := Lib.hid (hS9.on hb9)
  have HBW := Lib.hid (show Below w.heap.size w w7 from HB7.out.bel)
  clear hS8 hb8 hS9 hb9 HB7 HB6 HX6 HB6d HX6d HB5 HX5
  obtain ⟨ob, hob⟩ : ∃ ob, Obj.cells (List.replicate k (Value.int .u8 0)).toArray 5 = ob := ⟨_, rfl⟩
  have MK := made_one 56 5 (.int .u8 0) 1 Try.underlying56 info5 rfl k (by omega) (by omega) w9.drew
  have CZ := conv_zero w9.drew k 0
  rw [hob] at MK
  have CZ' : (convert 56 9 (.slice (some ⟨w9.heap.size, 0, none⟩) k k)).run Try.prog (w9.drew.alloc ob) = .ok (.string (str (List.replicate k 0))) (w9.drew.alloc ob) := by rw [← hob]; exact CZ
  obtain ⟨Z, hZ⟩ : ∃ Z, str (List.replicate k (0 : UInt8)) = Z := ⟨_, rfl⟩
  rw [hZ] at CZ'
  obtain ⟨u, hu⟩ : ∃ u, w9.drew.alloc ob = u := ⟨_, rfl⟩
  rw [hu] at MK CZ'
  have hbu : Below w9.drew.heap.size w9.drew u := by rw [← hu]; exact (Below.refl _ w9.drew).alloc (Nat.le_refl _) _
  have HSu := Lib.hid (HS9.out.on hbu)
  have SZ := Lib.hid (flip_ HB9.out.size)
  have RSZ := Lib.hid (flip_ HB9.out.rsize)
  have SZ2 := Lib.hid (flip_ HS9.out.size)
  have RE := Lib.hid (flip_ (HS9.out.read 0 ((k : Int) + 1)))
  have REu := Lib.hid (flip_ (HSu.out.read 0 ((k : Int) + 1)))
  have er : str (dz.read 0 ((k : Int) + 1)) = Z := by
    rw [← hZ]
    unfold Dk.read
    rw [if_pos (by omega), g1n]
    simp
  rw [er] at RE REu
  rw [g1n, List.length_replicate] at SZ2
  have E1 := err_one dz (-1 - (k : Int)) [] (by omega)
  have E2 := err_one dz (9223372036854775807 - (k : Int)) [97, 98] (by omega)
  have W1 := Lib.hid (HSu.out.write hcz (-1 - (k : Int)) ⟨#[]⟩ (by omega) (by decide))
  have W2 := Lib.hid (fun (W : World) (X : Nat → Prop) (h : Side w7 W p2 dz X) => h.write hcz (9223372036854775807 - (k : Int)) ⟨#[97, 98]⟩ (by omega) (by decide))
  have l0 : (⟨#[]⟩ : ByteArray).data.toList = [] := rfl
  have l2 : (⟨#[97, 98]⟩ : ByteArray).data.toList = [97, 98] := rfl
  rw [l0, E1.1, E1.2] at W1
  rw [l2, E2.1, E2.2] at W2
  have hk1 : IntKind.i64.wrap ((k : Int) + 1) = (k : Int) + 1 := IntWalk.i64_in _ (by omega)
  have hk2 : IntKind.i64.wrap (-1 - (k : Int)) = -1 - (k : Int) := IntWalk.i64_in _ (by omega)
  have hk3 : IntKind.i64.wrap (9223372036854775807 - (k : Int)) = 9223372036854775807 - (k : Int) := IntWalk.i64_in _ (by omega)
  rw [← hk1] at RE REu
  rw [← hk2] at W1
  rw [← hk3] at W2
  clear hk1 hk2 hk3
  obtain ⟨N, hN⟩ : ∃ N : Int, (D.now.length : Int) = N := ⟨_, rfl⟩
  rw [hN] at SZ RSZ
  have sv : w9.drew.cell? ⟨x, 0, none⟩ = some (.pointer (some ⟨p5, 0, none⟩)) ∧ w9.drew.cell? ⟨x, 1, none⟩ = some (.pointer (some ⟨q5, 0, none⟩)) := ⟨HX9.out.cell 0, HX9.out.cell 1⟩
  have su : u.cell? ⟨x, 0, none⟩ = some (.pointer (some ⟨p5, 0, none⟩)) ∧ u.cell? ⟨x, 1, none⟩ = some (.pointer (some ⟨q5, 0, none⟩)) := ⟨(HX9.out.on hbu).cell 0, (HX9.out.on hbu).cell 1⟩
  clear hN E1 E2 l0 l2 er g1n CZ hob hZ hu hbu HX9 hcz
  go_region_held_law (fun w' => w'.cell? ⟨x, 0, none⟩ = some (.pointer (some ⟨p5, 0, none⟩)) ∧ w'.cell? ⟨x, 1, none⟩ = some (.pointer (some ⟨q5, 0, none⟩)))
    (first | (with_reducible exact sv) | (with_reducible exact su) | (with_reducible exact s11) | (with_reducible exact s12) | (fail "keep"))
    (first
      | (go_at_call 17; ((with_reducible refine SZ.out.mono ?_); rintro e wz ⟨rfl, rfl⟩))
      | (go_at_call 18; ((with_reducible refine RSZ.out.mono ?_); rintro e wz ⟨rfl, rfl⟩))
      | (go_at_call 17; ((with_reducible refine SZ2.out.mono ?_); rintro e wz ⟨rfl, rfl⟩))
      | (go_at_call 29; ((with_reducible refine RE.out.mono ?_); rintro e wz ⟨rfl, rfl⟩))
      | (go_at_call 29; ((with_reducible refine REu.out.mono ?_); rintro e wz ⟨rfl, rfl⟩))
      | (go_at_call 27; ((with_reducible refine W1.out.mono ?_); rintro e w11 ⟨rfl, hS11, _⟩; (have s11 : w11.cell? ⟨x, 0, none⟩ = some (.pointer (some ⟨p5, 0, none⟩)) ∧ w11.cell? ⟨x, 1, none⟩ = some (.pointer (some ⟨q5, 0, none⟩)) := ⟨(HX7.out.on hS11.bel).cell 0, (HX7.out.on hS11.bel).cell 1⟩)))
      | (go_at_call 27; ((with_reducible refine (W2.out _ _ hS11).mono ?_); rintro e w12 ⟨rfl, hS12, _⟩; (have s12 : w12.cell? ⟨x, 0, none⟩ = some (.pointer (some ⟨p5, 0, none⟩)) ∧ w12.cell? ⟨x, 1, none⟩ = some (.pointer (some ⟨q5, 0, none⟩)) := ⟨(HX7.out.on hS12.bel).cell 0, (HX7.out.on hS12.bel).cell 1⟩)))
      | (fail "arm"))
  all_goals
    go_wp2
    go_ret
    exact ⟨by simp, Below.then_ HBW.out hS12.bel⟩

theorem contract (H : Type) (enc : TypeId × Value → H) (W : World) (base : Nat) (args : Array Value) (ds gs : List (DataW H)) (before : List MemPlace)
    (hval : ∀ (j : Nat) t v, Try.f11.params[j]? = some t → args[j]? = some v → Value.okWide Try.prog W .any base t v)
    (hW : DataW.Whole enc Try.prog Try.f11.params.toList Rows.diskLimitsSpec.vars false W args.toList ds gs before) :
    Calls Try.prog 11 args W fun e W' => ∃ v, e = .returned v ∧ Rows.diskLimitsSpec.post enc Try.prog Try.f11 false true false false W args v W' := by
  have hW' := hW
  obtain ⟨p, q, hA0, hV, rfl, hfz, hnd⟩ := hW
  have hA : DataW.TrodAll enc Try.prog W 0 (fun _ => true) true Try.f11.params.toList args.toList ds p := hA0
  rw [Try.params11] at hA hval
  obtain ⟨v0, vs0, d0, ds0, p0, q0, e0, rfl, rfl, h0, r0⟩ := trodAll_cons hA
  obtain ⟨v1, vs1, d1, ds1, p1, q1, e1, rfl, rfl, h1, r1⟩ := trodAll_cons r0
  obtain ⟨v2, vs2, d2, ds2, p2, q2, e2, rfl, rfl, h2, r2⟩ := trodAll_cons r1
  obtain ⟨rfl, rfl, rfl⟩ := trodAll_nil r2
  obtain rfl : args = #[v0, v1, v2] := by cases args; simp_all
  obtain ⟨rfl, rfl⟩ := trodVars_none hV
  obtain ⟨a, rfl, _, _, _⟩ := open_int Try.underlying3 (hval 0 3 v0 rfl rfl) h0
  obtain ⟨b, rfl, _, _, _⟩ := open_int Try.underlying3 (hval 1 3 v1 rfl rfl) h1
  obtain ⟨c, rfl, _, _, _⟩ := open_int Try.underlying3 (hval 2 3 v2 rfl rfl) h2
  refine (walk a b c W).mono fun e W' ⟨he, hb⟩ => ⟨_, he, law_post rfl rfl ?_ rfl rfl rfl hW' hb⟩
  rw [Try.params11]
  intro t ht
  have ht' : t = 3 ∨ t = 3 ∨ t = 3 := by simpa using ht
  rcases ht' with rfl | rfl | rfl <;> exact ⟨by kernel_rfl, of_decide_eq_true (by kernel_rfl)⟩

set_option maxRecDepth 100000 in
theorem lifted (os : Os) (started : os.Started) (H : Type) (enc : TypeId × Value → H) :
    ReturnsInHanded {} Try.checked os 11 .any (Rows.diskLimitsSpec.pre6 enc Try.prog Try.f11 Rows.diskLimitsRow.domain false) (Rows.diskLimitsSpec.post enc Try.prog Try.f11 false true false false) := by
  refine returnsInHanded_of_change (C := Try.checked) ownKnob_none started (by kernel_rfl) Try.func11
    (ChangeSpec.witness6 (enc := enc) (C := Try.checked) false ⟨#[], #[.int .i64 0, .int .i64 0, .int .i64 0], []⟩ 8 (by kernel_rfl) (by kernel_rfl) (by kernel_rfl) (by kernel_rfl)) ?_
  intro W base args ds gs before hval hW _ _
  exact contract H enc W base args ds gs before hval hW

theorem proved : Rows.DiskLimitsSaid :=
  OpenClaim.holds_of_wide 11 Try.f11 rfl rfl rfl rfl rfl rfl rfl ⟨rfl, rfl, rfl, rfl, rfl⟩ rfl rfl rfl rfl rfl (by kernel_rfl) Try.func11 (by kernel_rfl)
    (of_decide_eq_true (by kernel_rfl)) (by unfold Func.isWrapper; first | (rw [if_pos (by decide +kernel)]; kernel_rfl) | (rw [if_neg (by decide +kernel)]; exact ⟨rfl, rfl⟩))
    (fun os started H enc _ => lifted os started H enc)

end Go.Proofs.Ytigmmcmekklkfaa.llimits
