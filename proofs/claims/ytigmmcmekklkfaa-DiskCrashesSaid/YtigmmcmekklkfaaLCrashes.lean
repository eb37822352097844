/- DiskCrashes: what a crash leaves, and what goes on, as the reference says. For all arguments. -/
import Derived.Test.YtigmmcmekklkfaaKit2
namespace Go.Proofs.Ytigmmcmekklkfaa.lcrashes
open Go.ChangeShapes Go.WideShapes Go.ChangeAt Go.RowKit

set_option maxRecDepth 100000 in
set_option maxHeartbeats 8000000 in
theorem walk (A : Option Addr) (us : List At) (c : Nat) (P : Option Addr) (l1 : List Int) (cp : Nat) (b3 : Int) (w : World) (hA : Acts w w.heap.size A c us) (hl : us.length ≤ maxLen)
    (hP : Row w w.heap.size 1 P l1.length cp (intC l1)) (hl1 : l1.length ≤ maxLen) (hb30 : -9223372036854775808 ≤ b3) (hb31 : b3 ≤ 9223372036854775807) :
    Calls Try.prog 4 #[.slice A us.length c, .slice P l1.length cp, .int .i64 b3] w (BoolB w true) := by
  have S := Lib.hid (sane_any w)
  have ND := Lib.hid (fun W => new_any W)
  have NR := Lib.hid (fun W => refNew_any W)
  unfold BoolB at S ⊢
  have HA := Lib.hid hA
  have RP := Lib.hid (fun (W : World) (hb : Below w.heap.size w W) => Row.below hP hb (Nat.le_refl _))
  have SV := Lib.hid (fun W' => survive_any b3 W' hb30 hb31)
  unfold SurvOut at SV
  have hm6 := modN_lt (x := b3) (m := 6) (by omega)
  obtain ⟨m3, hm3⟩ : ∃ m, modN b3 6 = m := ⟨_, rfl⟩
  rw [hm3] at SV hm6
  obtain ⟨l3, hl3⟩ : ∃ l, survL b3 = l := ⟨_, rfl⟩
  rw [hl3] at SV
  obtain ⟨m1, hm1⟩ : ∃ m, l1.length = m := ⟨_, rfl⟩
  rw [hm1] at RP hl1 ⊢
  have HL1 := Lib.hid hl1
  clear hP hm1 hl1 hm3 hl3 hb30 hb31
  obtain ⟨n, hn⟩ : ∃ n, us.length = n := ⟨_, rfl⟩
  have HN := Lib.hid hn
  rw [hn] at hl ⊢
  unfold maxLen at hl
  have n0 : (0 : Int) ≤ (n : Int) := Int.natCast_nonneg _
  clear hA hn
  go_enter Try.func4, Try.ntmps4
  go_upto_region 3 with (first
    | (go_at_call 13; ((with_reducible refine S.out.mono ?_); rintro e w1 ⟨rfl, hb1⟩))
    | (go_at_call 14; ((with_reducible refine (ND.out w1).mono ?_); rintro e w2 ⟨p, rfl, hD2, hb2⟩))
    | (go_at_call 15; ((with_reducible refine (NR.out w2).mono ?_); rintro e w3 ⟨q, rfl, hR3, hb3⟩))
    | (fail "arm"))
  have HD0 := Lib.hid (desk_new hb1 hD2 hb2 hR3 hb3)
  obtain ⟨x, hx⟩ : ∃ x, w3.heap.size = x := ⟨_, rfl⟩
  obtain ⟨w4, hw4⟩ : ∃ w4, w3.alloc (.cells #[.pointer (some ⟨p, 0, none⟩), .pointer (some ⟨q, 0, none⟩)] 30) = w4 := ⟨_, rfl⟩
  have FX : Full w4 w3.heap.size 30 [.pointer (some ⟨p, 0, none⟩), .pointer (some ⟨q, 0, none⟩)] := by rw [← hw4]; exact Full.new w3 30 _
  rw [hx] at FX HD0 ⊢
  rw [hw4] at HD0 ⊢
  have x0 : w4.cell? ⟨x, 0, none⟩ = some (.pointer (some ⟨p, 0, none⟩)) := FX.cell 0
  have HD0' := Lib.hid (show ∃ d : Dk, d.calls ≤ 0 ∧ Desk w w4 x d from ⟨Dk.new, Nat.le_refl _, HD0.out⟩)
  clear hx hw4 FX hD2 hR3 hb2 hb3 HD0
  go_wp2
  go_loopw [9] (fun v5 wr => ∃ k : Nat, v5 = .int .i64 (k : Int) ∧ k ≤ n ∧ k ≤ 20 ∧ Hid (∃ d : Dk, d.calls ≤ k ∧ Desk w wr x d)) (fun v5 _ => n - (intOf v5).toNat)
  case atStart => exact ⟨0, rfl, by omega, by omega, HD0'⟩
  case round =>
    obtain ⟨k, rfl, hk, hk20, H⟩ := hrel
    have k0 : (0 : Int) ≤ (k : Int) := Int.natCast_nonneg _
    obtain ⟨d, hd, hD⟩ := H.out
    by_cases hlt : k < n ∧ k < 20
    · obtain ⟨hkn, hk4⟩ := hlt
      have k1 : (k : Int) < (n : Int) := by omega
      have k4 : (k : Int) < 20 := by omega
      have hbW : Below w.heap.size w wr := hD.bel
      have hku : k < us.length := by have := HN.out; omega
      obtain ⟨ad, rfl, hadl, ⟨a0, a1, a2, a3⟩, hfit⟩ := (HA.out.on hbW).at_ hku
      have M5 := Lib.hid (fun W' => (show Calls Try.prog 22 #[.int .i64 us[k].kind, .int .i64 5] W' fun e w' => e = .returned (.int .i64 (modN us[k].kind 5 : Int)) ∧ W' = w' from mod_any us[k].kind 5 W' (by omega) (by omega)))
      have m5 := modN_lt (x := us[k].kind) (m := 5) (by omega)
      obtain ⟨⟨kd, of, nn, tx⟩, hu⟩ : ∃ u : At, us[k] = u := ⟨_, rfl⟩
      rw [hu] at a0 a1 a2 a3 hfit M5 m5
      dsimp only at a0 a1 a2 a3 M5 m5
      obtain ⟨K, hK⟩ : ∃ K, modN kd 5 = K := ⟨_, rfl⟩
      rw [hK] at M5
      obtain ⟨T, hT⟩ : ∃ T, str tx = T := ⟨_, rfl⟩
      rw [hT] at a3
      obtain ⟨b, hb⟩ : ∃ b, wr.heap.size = b := ⟨_, rfl⟩
      obtain ⟨wB, hwB⟩ : ∃ wB, wr.alloc (.cells #[.int .i64 kd, .int .i64 of, .int .i64 nn, .string T] 33) = wB := ⟨_, rfl⟩
      have FB : Full wB b 33 [.int .i64 kd, .int .i64 of, .int .i64 nn, .string T] := by rw [← hwB, ← hb]; exact Full.new wr 33 _
      have bB : Below wr.heap.size wr wB := by rw [← hwB]; exact (Below.refl _ wr).alloc (Nat.le_refl _) _
      have FC : Full (wB.setCell ⟨b, 0, none⟩ (.int .i64 (K : Int))) b 33 [.int .i64 (K : Int), .int .i64 of, .int .i64 nn, .string T] := FB.set_ 0 _
      have bC : Below wr.heap.size wr (wB.setCell ⟨b, 0, none⟩ (.int .i64 (K : Int))) := bB.setCell (by rw [hb]; exact Nat.le_refl _) _
      obtain ⟨wC, hwC⟩ : ∃ wC, wB.setCell ⟨b, 0, none⟩ (.int .i64 (K : Int)) = wC := ⟨_, rfl⟩
      rw [hwC] at FC bC
      have DC := hD.on bC
      have DO := do_any DC (by omega) ⟨(K : Int), of, nn, tx⟩ ⟨hfit.off, hfit.n, hfit.text⟩
      have hac := act_calls d ⟨(K : Int), of, nn, tx⟩
      unfold actV at DO
      dsimp only at DO
      rw [hT] at DO
      obtain ⟨d2, hd2⟩ : ∃ d2, act d ⟨(K : Int), of, nn, tx⟩ = d2 := ⟨_, rfl⟩
      rw [hd2] at DO hac
      have DO' := Lib.hid DO
      have b0 : wB.cell? ⟨b, 0, none⟩ = some (.int .i64 kd) := FB.cell 0
      have bf : wB.frozen? ⟨b, 0, none⟩ = false := FB.frozen 0
      have e0 : wC.cell? ⟨b, 0, none⟩ = some (.int .i64 (K : Int)) := FC.cell 0
      have e1 : wC.cell? ⟨b, 1, none⟩ = some (.int .i64 of) := FC.cell 1
      have e2 : wC.cell? ⟨b, 2, none⟩ = some (.int .i64 nn) := FC.cell 2
      have e3 : wC.cell? ⟨b, 3, none⟩ = some (.string T) := FC.cell 3
      clear DO hT hd2 hu hfit hbW hD H DC FB FC bB bC hK
      go_upto_region 9 with fail
      clear hwB
      go_upto_region 10 with (first
        | (go_at_call 22; ((with_reducible refine (M5.out _).mono ?_); rintro e wz ⟨rfl, rfl⟩))
        | (fail "arm"))
      clear hwC b0 bf hb
      go_wp2_with (go_at_call 16; ((with_reducible refine DO'.out.mono ?_); rintro e w6 ⟨rfl, hD6⟩))
      have HD6 := Lib.hid hD6
      go_roundw
      case rel => exact ⟨k + 1, by go_num, by omega, by omega, Lib.hid ⟨d2, by omega, HD6.out⟩⟩
      case measure => simp [intOf]; omega
    · obtain ⟨p6, q6, hB6, hX6⟩ := hD
      have HB0 := Lib.hid (show Both w wr p6 q6 d d (fun g => g = x) from hB6)
      have HX0 := Lib.hid (show Full wr x 30 [.pointer (some ⟨p6, 0, none⟩), .pointer (some ⟨q6, 0, none⟩)] from hX6)
      have s0 : wr.drew.cell? ⟨x, 0, none⟩ = some (.pointer (some ⟨p6, 0, none⟩)) ∧ wr.drew.cell? ⟨x, 1, none⟩ = some (.pointer (some ⟨q6, 0, none⟩)) := ⟨HX0.out.drew.cell 0, HX0.out.drew.cell 1⟩
      have CX := Lib.hid (fun (W' : World) (hb : Below wr.drew.heap.size wr.drew W') => (show W'.cell? ⟨x, 0, none⟩ = some (.pointer (some ⟨p6, 0, none⟩)) ∧ W'.cell? ⟨x, 1, none⟩ = some (.pointer (some ⟨q6, 0, none⟩)) from ⟨(HX0.out.drew.on hb).cell 0, (HX0.out.drew.on hb).cell 1⟩))
      have HB0d : Both w wr.drew p6 q6 d d (fun g => g = x) := hB6.drewN 1
      have C1 := Lib.hid (HB0d.crash (by omega) (RP.out wr.drew HB0d.bel) HB0d.bel.size HL1.out)
      have RC1 := Lib.hid (fun (W : World) (p7 : Nat) (h : Both w W p7 q6 (d.crash l1) d (fun g => g = x)) => h.rcrash (by omega) (RP.out W h.bel) h.bel.size HL1.out)
      have CR := Lib.hid (fun (W : World) (A : Option Addr) (c : Nat) (hb : Both w W p6 q6 d d (fun g => g = x)) (hr : Row W W.heap.size 1 A m3 c (intC l3)) => hb.crash (by omega) hr (Nat.le_refl _) (by unfold maxLen; omega))
      have RC := Lib.hid (fun (W : World) (p' : Nat) (A : Option Addr) (c : Nat) (hb : Both w W p' q6 (d.crash l3) d (fun g => g = x)) (hr : Row W W.heap.size 1 A m3 c (intC l3)) => hb.rcrash (by omega) hr (Nat.le_refl _) (by unfold maxLen; omega))
      unfold CPost at CR C1
      unfold RCPost at RC RC1
      clear hB6 hX6 H HB0d
      by_cases hkn : k < n
      · obtain rfl : k = 20 := by omega
        have k1 : ((20 : Nat) : Int) < (n : Int) := by omega
        go_upto_region 13 with fail
        go_region_held3 (fun w' => w'.cell? ⟨x, 0, none⟩ = some (.pointer (some ⟨p6, 0, none⟩)) ∧ w'.cell? ⟨x, 1, none⟩ = some (.pointer (some ⟨q6, 0, none⟩)))
          (first | (with_reducible exact s0) | (with_reducible exact s1) | (with_reducible exact s2) | (with_reducible exact s3) | (fail "keep"))
          (first
            | (go_at_call 23; ((with_reducible refine C1.out.mono ?_); rintro e w1 ⟨p7, rfl, hB1, hb1⟩; (have s1 := CX.out w1 hb1)))
            | (go_at_call 24; ((with_reducible refine (RC1.out w1 p7 hB1).mono ?_); rintro e w2 ⟨q7, rfl, hB2, hb2⟩; (have hb12 := Below.then_ hb1 hb2); (have s2 := CX.out w2 hb12); (have hb13 := hb12.alloc hb12.size (.cells #[.pointer (some ⟨p7, 0, none⟩), .pointer (some ⟨q7, 0, none⟩)] 30)); (have s3 := CX.out _ hb13)))
            | (fail "arm"))
        obtain ⟨w3, hw3⟩ : ∃ w3, w2.alloc (.cells #[.pointer (some ⟨p7, 0, none⟩), .pointer (some ⟨q7, 0, none⟩)] 30) = w3 := ⟨_, rfl⟩
        have FZ1 : Full w3 w2.heap.size 30 [.pointer (some ⟨p7, 0, none⟩), .pointer (some ⟨q7, 0, none⟩)] := by rw [← hw3]; exact Full.new w2 30 _
        have hB3 : Both w w3 p7 q7 (d.crash l1) (d.crash l1) (fun g => g = x) := by rw [← hw3]; exact hB2.on ((Below.refl _ w2).alloc (Nat.le_refl _) _)
        rw [hw3] at hb13 s3 ⊢
        obtain ⟨z1, hz1⟩ : ∃ z, w2.heap.size = z := ⟨_, rfl⟩
        rw [hz1] at FZ1 ⊢
        have hb3d : Below wr.drew.heap.size wr.drew w3.drew := Below.drewN_ hb13 1
        have HB3 := Lib.hid (show Both w w3.drew p6 q6 d d (fun g => g = x) from (show Both w wr.drew p6 q6 d d (fun g => g = x) from HB0.out.drewN 1).on hb3d)
        have HX3 := Lib.hid (show Full w3.drew x 30 [.pointer (some ⟨p6, 0, none⟩), .pointer (some ⟨q6, 0, none⟩)] from HX0.out.drew.on hb3d)
        have HONE := Lib.hid (show Both w w3.drew p7 q7 (d.crash l1) (d.crash l1) (fun g => g = x) ∧ Full w3.drew z1 30 [.pointer (some ⟨p7, 0, none⟩), .pointer (some ⟨q7, 0, none⟩)] from ⟨hB3.drewN 1, FZ1.drewN 1⟩)
        have s4 : w3.drew.cell? ⟨x, 0, none⟩ = some (.pointer (some ⟨p6, 0, none⟩)) ∧ w3.drew.cell? ⟨x, 1, none⟩ = some (.pointer (some ⟨q6, 0, none⟩)) := ⟨HX3.out.cell 0, HX3.out.cell 1⟩
        have CX3 := Lib.hid (fun (W' : World) (hb : Below w3.drew.heap.size w3.drew W') => (show W'.cell? ⟨x, 0, none⟩ = some (.pointer (some ⟨p6, 0, none⟩)) ∧ W'.cell? ⟨x, 1, none⟩ = some (.pointer (some ⟨q6, 0, none⟩)) from ⟨(HX3.out.on hb).cell 0, (HX3.out.on hb).cell 1⟩))
        clear hw3 hz1 hB3 FZ1 hb3d hb13 s3 s2 s1 s0 hB1 hB2 hb1 hb2 hb12 C1 RC1 CX
        go_upto_region 14 with fail
        go_region_held3 (fun w' => w'.cell? ⟨x, 0, none⟩ = some (.pointer (some ⟨p6, 0, none⟩)) ∧ w'.cell? ⟨x, 1, none⟩ = some (.pointer (some ⟨q6, 0, none⟩)))
          (first | (with_reducible exact s4) | (with_reducible exact s5) | (with_reducible exact s6) | (with_reducible exact s7) | (with_reducible exact s8) | (with_reducible exact s9) | (fail "keep"))
          (first
            | (go_at_call 25; ((with_reducible refine (SV.out w3.drew).mono ?_); rintro e w5 ⟨A5, c5, rfl, row5, hb5⟩; (have hB5 := HB3.out.on hb5); (have s5 := CX3.out w5 hb5)))
            | (go_at_call 23; ((with_reducible refine (CR.out w5 A5 c5 hB5 row5).mono ?_); rintro e w6 ⟨p9, rfl, hB6, hb6⟩; (have hb36 := Below.then_ hb5 hb6); (have s6 := CX3.out w6 hb36)))
            | (go_at_call 25; ((with_reducible refine (SV.out w6).mono ?_); rintro e w7 ⟨A7, c7, rfl, row7, hb7⟩; (have hB7 := hB6.on hb7); (have hb37 := Below.then_ hb36 hb7); (have s7 := CX3.out w7 hb37)))
            | (go_at_call 24; ((with_reducible refine (RC.out w7 p9 A7 c7 hB7 row7).mono ?_); rintro e w8 ⟨q9, rfl, hB8, hb8⟩; (have hb38 := Below.then_ hb37 hb8); (have s8 := CX3.out w8 hb38); (have hb39 := hb38.alloc hb38.size (.cells #[.pointer (some ⟨p9, 0, none⟩), .pointer (some ⟨q9, 0, none⟩)] 30)); (have s9 := CX3.out _ hb39)))
            | (fail "arm"))
        obtain ⟨w9, hw9⟩ : ∃ w9, w8.alloc (.cells #[.pointer (some ⟨p9, 0, none⟩), .pointer (some ⟨q9, 0, none⟩)] 30) = w9 := ⟨_, rfl⟩
        have FZ2 : Full w9 w8.heap.size 30 [.pointer (some ⟨p9, 0, none⟩), .pointer (some ⟨q9, 0, none⟩)] := by rw [← hw9]; exact Full.new w8 30 _
        have hB9 : Both w w9 p9 q9 (d.crash l3) (d.crash l3) (fun g => g = x) := by rw [← hw9]; exact hB8.on ((Below.refl _ w8).alloc (Nat.le_refl _) _)
        rw [hw9] at hb39 ⊢
        obtain ⟨z2, hz2⟩ : ∃ z, w8.heap.size = z := ⟨_, rfl⟩
        rw [hz2] at FZ2 ⊢
        have SA1 := Lib.hid (same_any (HONE.out.1.on hb39) (HONE.out.2.on hb39))
        have SA2 := Lib.hid (fun (W : World) (hb : Below w9.heap.size w9 W) => same_any (hB9.on hb) (FZ2.on hb))
        have SA3 := Lib.hid (fun (W : World) (hb : Below w9.heap.size w9 W) => same_any ((HB3.out.on hb39).on hb) ((HX3.out.on hb39).on hb))
        have HBE := Lib.hid hB9.bel
        clear hw9 hz2 hB9 FZ2 hb39 s4 s5 s6 s7 s8 s9 hb5 hb6 hb7 hb8 hb36 hb37 hb38 hB5 hB6 hB7 hB8 row5 row7 HONE HB3 HX3 CX3 CR RC SV RP
        go_wp2_with (first
          | (go_at_call 21; ((with_reducible refine SA1.out.mono ?_); rintro e wa ⟨rfl, ma, hma⟩; (have hba : Below w9.heap.size w9 wa := by rw [hma]; exact Below.drewN_ (Below.refl _ w9) ma); clear hma))
          | (go_at_call 21; ((with_reducible refine (SA2.out wa hba).mono ?_); rintro e wb ⟨rfl, mb, hmb⟩; (have hbb : Below w9.heap.size w9 wb := by rw [hmb]; exact Below.drewN_ hba mb); clear hmb))
          | (go_at_call 21; ((with_reducible refine (SA3.out wb hbb).mono ?_); rintro e wc ⟨rfl, mc, hmc⟩; (have hbc : Below w9.heap.size w9 wc := by rw [hmc]; exact Below.drewN_ hbb mc); clear hmc))
          | (fail "arm"))
        go_ret
        exact ⟨by simp, Below.then_ HBE.out hbc⟩
      · obtain rfl : k = n := by omega
        go_upto_region 13 with fail
        go_region_held3 (fun w' => w'.cell? ⟨x, 0, none⟩ = some (.pointer (some ⟨p6, 0, none⟩)) ∧ w'.cell? ⟨x, 1, none⟩ = some (.pointer (some ⟨q6, 0, none⟩)))
          (first | (with_reducible exact s0) | (with_reducible exact s1) | (with_reducible exact s2) | (with_reducible exact s3) | (fail "keep"))
          (first
            | (go_at_call 23; ((with_reducible refine C1.out.mono ?_); rintro e w1 ⟨p7, rfl, hB1, hb1⟩; (have s1 := CX.out w1 hb1)))
            | (go_at_call 24; ((with_reducible refine (RC1.out w1 p7 hB1).mono ?_); rintro e w2 ⟨q7, rfl, hB2, hb2⟩; (have hb12 := Below.then_ hb1 hb2); (have s2 := CX.out w2 hb12); (have hb13 := hb12.alloc hb12.size (.cells #[.pointer (some ⟨p7, 0, none⟩), .pointer (some ⟨q7, 0, none⟩)] 30)); (have s3 := CX.out _ hb13)))
            | (fail "arm"))
        obtain ⟨w3, hw3⟩ : ∃ w3, w2.alloc (.cells #[.pointer (some ⟨p7, 0, none⟩), .pointer (some ⟨q7, 0, none⟩)] 30) = w3 := ⟨_, rfl⟩
        have FZ1 : Full w3 w2.heap.size 30 [.pointer (some ⟨p7, 0, none⟩), .pointer (some ⟨q7, 0, none⟩)] := by rw [← hw3]; exact Full.new w2 30 _
        have hB3 : Both w w3 p7 q7 (d.crash l1) (d.crash l1) (fun g => g = x) := by rw [← hw3]; exact hB2.on ((Below.refl _ w2).alloc (Nat.le_refl _) _)
        rw [hw3] at hb13 s3 ⊢
        obtain ⟨z1, hz1⟩ : ∃ z, w2.heap.size = z := ⟨_, rfl⟩
        rw [hz1] at FZ1 ⊢
        have hb3d : Below wr.drew.heap.size wr.drew w3.drew := Below.drewN_ hb13 1
        have HB3 := Lib.hid (show Both w w3.drew p6 q6 d d (fun g => g = x) from (show Both w wr.drew p6 q6 d d (fun g => g = x) from HB0.out.drewN 1).on hb3d)
        have HX3 := Lib.hid (show Full w3.drew x 30 [.pointer (some ⟨p6, 0, none⟩), .pointer (some ⟨q6, 0, none⟩)] from HX0.out.drew.on hb3d)
        have HONE := Lib.hid (show Both w w3.drew p7 q7 (d.crash l1) (d.crash l1) (fun g => g = x) ∧ Full w3.drew z1 30 [.pointer (some ⟨p7, 0, none⟩), .pointer (some ⟨q7, 0, none⟩)] from ⟨hB3.drewN 1, FZ1.drewN 1⟩)
        have s4 : w3.drew.cell? ⟨x, 0, none⟩ = some (.pointer (some ⟨p6, 0, none⟩)) ∧ w3.drew.cell? ⟨x, 1, none⟩ = some (.pointer (some ⟨q6, 0, none⟩)) := ⟨HX3.out.cell 0, HX3.out.cell 1⟩
        have CX3 := Lib.hid (fun (W' : World) (hb : Below w3.drew.heap.size w3.drew W') => (show W'.cell? ⟨x, 0, none⟩ = some (.pointer (some ⟨p6, 0, none⟩)) ∧ W'.cell? ⟨x, 1, none⟩ = some (.pointer (some ⟨q6, 0, none⟩)) from ⟨(HX3.out.on hb).cell 0, (HX3.out.on hb).cell 1⟩))
        clear hw3 hz1 hB3 FZ1 hb3d hb13 s3 s2 s1 s0 hB1 hB2 hb1 hb2 hb12 C1 RC1 CX
        go_upto_region 14 with fail
        go_region_held3 (fun w' => w'.cell? ⟨x, 0, none⟩ = some (.pointer (some ⟨p6, 0, none⟩)) ∧ w'.cell? ⟨x, 1, none⟩ = some (.pointer (some ⟨q6, 0, none⟩)))
          (first | (with_reducible exact s4) | (with_reducible exact s5) | (with_reducible exact s6) | (with_reducible exact s7) | (with_reducible exact s8) | (with_reducible exact s9) | (fail "keep"))
          (first
            | (go_at_call 25; ((with_reducible refine (SV.out w3.drew).mono ?_); rintro e w5 ⟨A5, c5, rfl, row5, hb5⟩; (have hB5 := HB3.out.on hb5); (have s5 := CX3.out w5 hb5)))
            | (go_at_call 23; ((with_reducible refine (CR.out w5 A5 c5 hB5 row5).mono ?_); rintro e w6 ⟨p9, rfl, hB6, hb6⟩; (have hb36 := Below.then_ hb5 hb6); (have s6 := CX3.out w6 hb36)))
            | (go_at_call 25; ((with_reducible refine (SV.out w6).mono ?_); rintro e w7 ⟨A7, c7, rfl, row7, hb7⟩; (have hB7 := hB6.on hb7); (have hb37 := Below.then_ hb36 hb7); (have s7 := CX3.out w7 hb37)))
            | (go_at_call 24; ((with_reducible refine (RC.out w7 p9 A7 c7 hB7 row7).mono ?_); rintro e w8 ⟨q9, rfl, hB8, hb8⟩; (have hb38 := Below.then_ hb37 hb8); (have s8 := CX3.out w8 hb38); (have hb39 := hb38.alloc hb38.size (.cells #[.pointer (some ⟨p9, 0, none⟩), .pointer (some ⟨q9, 0, none⟩)] 30)); (have s9 := CX3.out _ hb39)))
            | (fail "arm"))
        obtain ⟨w9, hw9⟩ : ∃ w9, w8.alloc (.cells #[.pointer (some ⟨p9, 0, none⟩), .pointer (some ⟨q9, 0, none⟩)] 30) = w9 := ⟨_, rfl⟩
        have FZ2 : Full w9 w8.heap.size 30 [.pointer (some ⟨p9, 0, none⟩), .pointer (some ⟨q9, 0, none⟩)] := by rw [← hw9]; exact Full.new w8 30 _
        have hB9 : Both w w9 p9 q9 (d.crash l3) (d.crash l3) (fun g => g = x) := by rw [← hw9]; exact hB8.on ((Below.refl _ w8).alloc (Nat.le_refl _) _)
        rw [hw9] at hb39 ⊢
        obtain ⟨z2, hz2⟩ : ∃ z, w8.heap.size = z := ⟨_, rfl⟩
        rw [hz2] at FZ2 ⊢
        have SA1 := Lib.hid (same_any (HONE.out.1.on hb39) (HONE.out.2.on hb39))
        have SA2 := Lib.hid (fun (W : World) (hb : Below w9.heap.size w9 W) => same_any (hB9.on hb) (FZ2.on hb))
        have SA3 := Lib.hid (fun (W : World) (hb : Below w9.heap.size w9 W) => same_any ((HB3.out.on hb39).on hb) ((HX3.out.on hb39).on hb))
        have HBE := Lib.hid hB9.bel
        clear hw9 hz2 hB9 FZ2 hb39 s4 s5 s6 s7 s8 s9 hb5 hb6 hb7 hb8 hb36 hb37 hb38 hB5 hB6 hB7 hB8 row5 row7 HONE HB3 HX3 CX3 CR RC SV RP
        go_wp2_with (first
          | (go_at_call 21; ((with_reducible refine SA1.out.mono ?_); rintro e wa ⟨rfl, ma, hma⟩; (have hba : Below w9.heap.size w9 wa := by rw [hma]; exact Below.drewN_ (Below.refl _ w9) ma); clear hma))
          | (go_at_call 21; ((with_reducible refine (SA2.out wa hba).mono ?_); rintro e wb ⟨rfl, mb, hmb⟩; (have hbb : Below w9.heap.size w9 wb := by rw [hmb]; exact Below.drewN_ hba mb); clear hmb))
          | (go_at_call 21; ((with_reducible refine (SA3.out wb hbb).mono ?_); rintro e wc ⟨rfl, mc, hmc⟩; (have hbc : Below w9.heap.size w9 wc := by rw [hmc]; exact Below.drewN_ hbb mc); clear hmc))
          | (fail "arm"))
        go_ret
        exact ⟨by simp, Below.then_ HBE.out hbc⟩

theorem contract (H : Type) (enc : TypeId × Value → H) (W : World) (base : Nat) (args : Array Value) (ds gs : List (DataW H)) (before : List MemPlace)
    (hval : ∀ (j : Nat) t v, Try.f4.params[j]? = some t → args[j]? = some v → Value.okWide Try.prog W .any base t v)
    (hW : DataW.Whole enc Try.prog Try.f4.params.toList Rows.diskCrashesSpec.vars false W args.toList ds gs before) :
    Calls Try.prog 4 args W fun e W' => ∃ v, e = .returned v ∧ Rows.diskCrashesSpec.post enc Try.prog Try.f4 false true false false W args v W' := by
  have hW' := hW
  obtain ⟨p, q, hA0, hV, rfl, hfz, hnd⟩ := hW
  have hA : DataW.TrodAll enc Try.prog W 0 (fun _ => true) true Try.f4.params.toList args.toList ds p := hA0
  rw [Try.params4] at hA hval
  obtain ⟨v0, vs0, d0, ds0, p0, q0, e0, rfl, rfl, h0, r0⟩ := trodAll_cons hA
  obtain ⟨v1, vs1, d1, ds1, p1, q1, e1, rfl, rfl, h1, r1⟩ := trodAll_cons r0
  obtain ⟨v2, vs2, d2, ds2, p2, q2, e2, rfl, rfl, h2, r2⟩ := trodAll_cons r1
  obtain ⟨rfl, rfl, rfl⟩ := trodAll_nil r2
  obtain rfl : args = #[v0, v1, v2] := by cases args; simp_all
  obtain ⟨rfl, rfl⟩ := trodVars_none hV
  obtain ⟨A, us, c, rfl, hA2, hl⟩ := open_acts h0 (hval 0 22 v0 rfl rfl)
  obtain ⟨P, l1, cp, rfl, hP, hl1⟩ := open_ints h1 (hval 1 36 v1 rfl rfl)
  obtain ⟨b, rfl, _, _, hb⟩ := open_int Try.underlying3 (hval 2 3 v2 rfl rfl) h2
  refine (walk A us c P l1 cp b W hA2 hl hP hl1 (bd_i64 hb).1 (bd_i64 hb).2).mono fun e W' ⟨he, hb⟩ => ⟨_, he, law_post rfl rfl ?_ rfl rfl rfl hW' hb⟩
  rw [Try.params4]
  intro t ht
  have ht' : t = 22 ∨ t = 36 ∨ t = 3 := by simpa using ht
  rcases ht' with rfl | rfl | rfl <;> exact ⟨by kernel_rfl, of_decide_eq_true (by kernel_rfl)⟩

set_option maxRecDepth 100000 in
theorem lifted (os : Os) (started : os.Started) (H : Type) (enc : TypeId × Value → H) :
    ReturnsInHanded {} Try.checked os 4 .any (Rows.diskCrashesSpec.pre6 enc Try.prog Try.f4 Rows.diskCrashesRow.domain false) (Rows.diskCrashesSpec.post enc Try.prog Try.f4 false true false false) := by
  refine returnsInHanded_of_change (C := Try.checked) ownKnob_none started (by kernel_rfl) Try.func4
    (ChangeSpec.witness6 (enc := enc) (C := Try.checked) false ⟨#[], #[.slice none 0 0, .slice none 0 0, .int .i64 0], []⟩ 8 (by kernel_rfl) (by kernel_rfl) (by kernel_rfl) (by kernel_rfl)) ?_
  intro W base args ds gs before hval hW _ _
  exact contract H enc W base args ds gs before hval hW

theorem proved : Rows.DiskCrashesSaid :=
  OpenClaim.holds_of_wide 4 Try.f4 rfl rfl rfl rfl rfl rfl rfl ⟨rfl, rfl, rfl, rfl, rfl⟩ rfl rfl rfl rfl rfl (by kernel_rfl) Try.func4 (by kernel_rfl)
    (of_decide_eq_true (by kernel_rfl)) (by unfold Func.isWrapper; first | (rw [if_pos (by decide +kernel)]; kernel_rfl) | (rw [if_neg (by decide +kernel)]; exact ⟨rfl, rfl⟩))
    (fun os started H enc _ => lifted os started H enc)

end Go.Proofs.Ytigmmcmekklkfaa.lcrashes
