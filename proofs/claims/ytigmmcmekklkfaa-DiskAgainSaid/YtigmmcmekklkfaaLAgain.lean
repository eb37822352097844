/- DiskAgain: a crash of a disk that a crash left changes nothing. For all arguments. -/
import Derived.Test.YtigmmcmekklkfaaKit2
namespace Go.Proofs.Ytigmmcmekklkfaa.lagain
open Go.ChangeShapes Go.WideShapes Go.ChangeAt Go.RowKit

set_option maxRecDepth 100000 in
set_option maxHeartbeats 8000000 in
theorem walk (A : Option Addr) (us : List At) (c : Nat) (P : Option Addr) (l1 : List Int) (cp : Nat) (Q : Option Addr) (l2 : List Int) (cq : Nat) (w : World) (hA : Acts w w.heap.size A c us) (hl : us.length ≤ maxLen)
    (hP : Row w w.heap.size 1 P l1.length cp (intC l1)) (hl1 : l1.length ≤ maxLen) (hQ : Row w w.heap.size 1 Q l2.length cq (intC l2)) (hl2 : l2.length ≤ maxLen) :
    Calls Try.prog 9 #[.slice A us.length c, .slice P l1.length cp, .slice Q l2.length cq] w (BoolB w true) := by
  have S := Lib.hid (sane_any w)
  have ND := Lib.hid (fun W => new_any W)
  have NR := Lib.hid (fun W => refNew_any W)
  unfold BoolB at S ⊢
  have HA := Lib.hid hA
  have RP := Lib.hid (fun (W : World) (hb : Below w.heap.size w W) => Row.below hP hb (Nat.le_refl _))
  have RQ := Lib.hid (fun (W : World) (hb : Below w.heap.size w W) => Row.below hQ hb (Nat.le_refl _))
  obtain ⟨m1, hm1⟩ : ∃ m, l1.length = m := ⟨_, rfl⟩
  obtain ⟨m2, hm2⟩ : ∃ m, l2.length = m := ⟨_, rfl⟩
  rw [hm1] at RP hl1 ⊢
  rw [hm2] at RQ hl2 ⊢
  have HL1 := Lib.hid hl1
  have HL2 := Lib.hid hl2
  clear hP hQ hm1 hm2 hl1 hl2
  obtain ⟨n, hn⟩ : ∃ n, us.length = n := ⟨_, rfl⟩
  have HN := Lib.hid hn
  rw [hn] at hl ⊢
  unfold maxLen at hl
  have n0 : (0 : Int) ≤ (n : Int) := Int.natCast_nonneg _
  clear hA hn
  go_enter Try.func9, Try.ntmps9
  go_upto_region 3 with (first
    | (go_at_call 13; ((with_reducible refine S.out.mono ?_); rintro e w1 ⟨rfl, hb1⟩))
    | (go_at_call 14; ((with_reducible refine (ND.out w1).mono ?_); rintro e w2 ⟨p, rfl, hD2, hb2⟩))
    | (go_at_call 15; ((with_reducible refine (NR.out w2).mono ?_); rintro e w3 ⟨q, rfl, hR3, hb3⟩))
    | (fail "arm"))
  have HD0 := Lib.hid (desk_new hb1 hD2 hb2 hR3 hb3)
  obtain ⟨x, hx⟩ : ∃ x, w3.heap.size = x := ⟨_, rfl⟩
  obtain ⟨w4, hw4⟩ : ∃ w4, w3.alloc (.cells #[.pointer (some ⟨p, 0, none⟩), .pointer (some ⟨q, 0, none⟩)] 30) = w4 := ⟨_, rfl⟩
  have FX : Full w4 w3.heap.size 30 [.pointer (some ⟨p, 0, none⟩), .pointer (some ⟨q, 0, none⟩)] := by rw [← hw4]; exact Full.new w3 30 _
  rw [hx] at FX HD0 ⊢
  rw [hw4] at HD0 ⊢
  have x0 : w4.cell? ⟨x, 0, none⟩ = some (.pointer (some ⟨p, 0, none⟩)) := FX.cell 0
  have HD0' := Lib.hid (show ∃ d : Dk, d.calls ≤ 0 ∧ Desk w w4 x d from ⟨Dk.new, Nat.le_refl _, HD0.out⟩)
  clear hx hw4 FX hD2 hR3 hb2 hb3 HD0
  go_wp2
  go_loopw [9] (fun v5 wr => ∃ k : Nat, v5 = .int .i64 (k : Int) ∧ k ≤ n ∧ k ≤ 15 ∧ Hid (∃ d : Dk, d.calls ≤ k ∧ Desk w wr x d)) (fun v5 _ => n - (intOf v5).toNat)
  case atStart => exact ⟨0, rfl, by omega, by omega, HD0'⟩
  case round =>
    obtain ⟨k, rfl, hk, hk15, H⟩ := hrel
    have k0 : (0 : Int) ≤ (k : Int) := Int.natCast_nonneg _
    obtain ⟨d, hd, hD⟩ := H.out
    by_cases hlt : k < n ∧ k < 15
    · obtain ⟨hkn, hk4⟩ := hlt
      have k1 : (k : Int) < (n : Int) := by omega
      have k4 : (k : Int) < 15 := by omega
      have hbW : Below w.heap.size w wr := hD.bel
      have hku : k < us.length := by have := HN.out; omega
      obtain ⟨ad, rfl, hadl, ⟨a0, a1, a2, a3⟩, hfit⟩ := (HA.out.on hbW).at_ hku
      have DO := Lib.hid (do_any hD (by omega) us[k] hfit)
      have hac := act_calls d us[k]
      obtain ⟨⟨kd, of, nn, tx⟩, hu⟩ : ∃ u : At, us[k] = u := ⟨_, rfl⟩
      rw [hu] at a0 a1 a2 a3 DO hac
      dsimp only at a0 a1 a2 a3
      have DO' := Lib.hid (show Calls Try.prog 16 #[.pointer (some ⟨x, 0, none⟩), .agg #[.int .i64 kd, .int .i64 of, .int .i64 nn, .string (str tx)]] wr fun e W' => e = .returned (.bool true) ∧ Desk w W' x (act d ⟨kd, of, nn, tx⟩) from DO.out)
      obtain ⟨T, hT⟩ : ∃ T, str tx = T := ⟨_, rfl⟩
      rw [hT] at a3 DO'
      obtain ⟨d2, hd2⟩ : ∃ d2, act d ⟨kd, of, nn, tx⟩ = d2 := ⟨_, rfl⟩
      rw [hd2] at DO' hac
      clear DO hT hd2 hu hfit hbW hD H
      go_wp2_with (go_at_call 16; ((with_reducible refine DO'.out.mono ?_); rintro e w6 ⟨rfl, hD6⟩))
      have HD6 := Lib.hid hD6
      go_roundw
      case rel => exact ⟨k + 1, by go_num, by omega, by omega, Lib.hid ⟨d2, by omega, HD6.out⟩⟩
      case measure => simp [intOf]; omega
    · obtain ⟨p6, q6, hB6, hX6⟩ := hD
      have c0 : wr.cell? ⟨x, 0, none⟩ = some (.pointer (some ⟨p6, 0, none⟩)) := hX6.cell 0
      have hS6 := hB6.side
      have C1 := Lib.hid (hS6.crash (by omega) (RP.out wr hS6.bel) (by exact hS6.bel.size) HL1.out)
      have C2 := Lib.hid (fun (W : World) (p7 : Nat) (X : Nat → Prop) (h : Side w W p7 (d.crash l1) X) => (show Calls Try.prog 23 #[.pointer (some ⟨p7, 0, none⟩), .slice Q m2 cq] W fun e W' => ∃ p', e = .returned (.pointer (some ⟨p', 0, none⟩)) ∧ Side w W' p' (d.crash l1) (fun g => g < W.heap.size) ∧ Below W.heap.size W W' from
        Dk.crash_crash d l1 l2 ▸ h.crash (by simp [Dk.crash]) (RQ.out W h.bel) h.bel.size HL2.out))
      have SZ := Lib.hid (fun (W : World) (p' : Nat) (X : Nat → Prop) (h : Side w W p' (d.crash l1) X) => h.size)
      have RE := Lib.hid (fun (W : World) (p' : Nat) (X : Nat → Prop) (h : Side w W p' (d.crash l1) X) => h.read 0 33554432)
      have CA := Lib.hid (fun (W : World) (p' : Nat) (X : Nat → Prop) (h : Side w W p' (d.crash l1) X) => (show Calls Try.prog 19 #[.pointer (some ⟨p', 0, none⟩)] W fun e w' => e = .returned (.int .i64 0) ∧ W = w' from h.calls))
      obtain ⟨N, hN⟩ : ∃ N : Int, ((d.crash l1).now.length : Int) = N := ⟨_, rfl⟩
      obtain ⟨RS, hRS⟩ : ∃ RS, str ((d.crash l1).read 0 33554432) = RS := ⟨_, rfl⟩
      rw [hN] at SZ
      rw [hRS] at RE
      clear hB6 hX6 H hS6 hN hRS
      have hcond : ¬ ((k : Int) < (n : Int)) ∨ k = 15 := by omega
      have key : ∀ (u : Unit), True := fun _ => trivial
      by_cases hkn : k < n
      · obtain rfl : k = 15 := by omega
        have k1 : ((15 : Nat) : Int) < (n : Int) := by omega
        clear hcond
        go_wp2_with (first
          | (go_at_call 23; ((with_reducible refine C1.out.mono ?_); rintro e w7 ⟨p7, rfl, hS7, hb7⟩))
          | (go_at_call 23; ((with_reducible refine (C2.out w7 p7 _ hS7).mono ?_); rintro e w8 ⟨p8, rfl, hS8, hb8⟩; (have hS7' := hS7.on hb8)))
          | (go_at_call 17; ((with_reducible refine (SZ.out w8 p8 _ hS8).mono ?_); rintro e w9 ⟨rfl, rfl⟩))
          | (go_at_call 17; ((with_reducible refine (SZ.out w8 p7 _ hS7').mono ?_); rintro e w9 ⟨rfl, rfl⟩))
          | (go_at_call 29; ((with_reducible refine (RE.out w8 p8 _ hS8).mono ?_); rintro e w9 ⟨rfl, rfl⟩))
          | (go_at_call 29; ((with_reducible refine (RE.out w8 p7 _ hS7').mono ?_); rintro e w9 ⟨rfl, rfl⟩))
          | (go_at_call 19; ((with_reducible refine (CA.out w8 p8 _ hS8).mono ?_); rintro e w9 ⟨rfl, rfl⟩))
          | (fail "arm"))
        go_ret
        exact ⟨by simp, hS8.bel⟩
      · obtain rfl : k = n := by omega
        clear hcond
        go_wp2_with (first
          | (go_at_call 23; ((with_reducible refine C1.out.mono ?_); rintro e w7 ⟨p7, rfl, hS7, hb7⟩))
          | (go_at_call 23; ((with_reducible refine (C2.out w7 p7 _ hS7).mono ?_); rintro e w8 ⟨p8, rfl, hS8, hb8⟩; (have hS7' := hS7.on hb8)))
          | (go_at_call 17; ((with_reducible refine (SZ.out w8 p8 _ hS8).mono ?_); rintro e w9 ⟨rfl, rfl⟩))
          | (go_at_call 17; ((with_reducible refine (SZ.out w8 p7 _ hS7').mono ?_); rintro e w9 ⟨rfl, rfl⟩))
          | (go_at_call 29; ((with_reducible refine (RE.out w8 p8 _ hS8).mono ?_); rintro e w9 ⟨rfl, rfl⟩))
          | (go_at_call 29; ((with_reducible refine (RE.out w8 p7 _ hS7').mono ?_); rintro e w9 ⟨rfl, rfl⟩))
          | (go_at_call 19; ((with_reducible refine (CA.out w8 p8 _ hS8).mono ?_); rintro e w9 ⟨rfl, rfl⟩))
          | (fail "arm"))
        go_ret
        exact ⟨by simp, hS8.bel⟩

theorem contract (H : Type) (enc : TypeId × Value → H) (W : World) (base : Nat) (args : Array Value) (ds gs : List (DataW H)) (before : List MemPlace)
    (hval : ∀ (j : Nat) t v, Try.f9.params[j]? = some t → args[j]? = some v → Value.okWide Try.prog W .any base t v)
    (hW : DataW.Whole enc Try.prog Try.f9.params.toList Rows.diskAgainSpec.vars false W args.toList ds gs before) :
    Calls Try.prog 9 args W fun e W' => ∃ v, e = .returned v ∧ Rows.diskAgainSpec.post enc Try.prog Try.f9 false true false false W args v W' := by
  have hW' := hW
  obtain ⟨p, q, hA0, hV, rfl, hfz, hnd⟩ := hW
  have hA : DataW.TrodAll enc Try.prog W 0 (fun _ => true) true Try.f9.params.toList args.toList ds p := hA0
  rw [Try.params9] at hA hval
  obtain ⟨v0, vs0, d0, ds0, p0, q0, e0, rfl, rfl, h0, r0⟩ := trodAll_cons hA
  obtain ⟨v1, vs1, d1, ds1, p1, q1, e1, rfl, rfl, h1, r1⟩ := trodAll_cons r0
  obtain ⟨v2, vs2, d2, ds2, p2, q2, e2, rfl, rfl, h2, r2⟩ := trodAll_cons r1
  obtain ⟨rfl, rfl, rfl⟩ := trodAll_nil r2
  obtain rfl : args = #[v0, v1, v2] := by cases args; simp_all
  obtain ⟨rfl, rfl⟩ := trodVars_none hV
  obtain ⟨A, us, c, rfl, hA2, hl⟩ := open_acts h0 (hval 0 22 v0 rfl rfl)
  obtain ⟨P, l1, cp, rfl, hP, hl1⟩ := open_ints h1 (hval 1 36 v1 rfl rfl)
  obtain ⟨Q, l2, cq, rfl, hQ, hl2⟩ := open_ints h2 (hval 2 36 v2 rfl rfl)
  refine (walk A us c P l1 cp Q l2 cq W hA2 hl hP hl1 hQ hl2).mono fun e W' ⟨he, hb⟩ => ⟨_, he, law_post rfl rfl ?_ rfl rfl rfl hW' hb⟩
  rw [Try.params9]
  intro t ht
  have ht' : t = 22 ∨ t = 36 ∨ t = 36 := by simpa using ht
  rcases ht' with rfl | rfl | rfl <;> exact ⟨by kernel_rfl, of_decide_eq_true (by kernel_rfl)⟩

set_option maxRecDepth 100000 in
theorem lifted (os : Os) (started : os.Started) (H : Type) (enc : TypeId × Value → H) :
    ReturnsInHanded {} Try.checked os 9 .any (Rows.diskAgainSpec.pre6 enc Try.prog Try.f9 Rows.diskAgainRow.domain false) (Rows.diskAgainSpec.post enc Try.prog Try.f9 false true false false) := by
  refine returnsInHanded_of_change (C := Try.checked) ownKnob_none started (by kernel_rfl) Try.func9
    (ChangeSpec.witness6 (enc := enc) (C := Try.checked) false ⟨#[], #[.slice none 0 0, .slice none 0 0, .slice none 0 0], []⟩ 8 (by kernel_rfl) (by kernel_rfl) (by kernel_rfl) (by kernel_rfl)) ?_
  intro W base args ds gs before hval hW _ _
  exact contract H enc W base args ds gs before hval hW

theorem proved : Rows.DiskAgainSaid :=
  OpenClaim.holds_of_wide 9 Try.f9 rfl rfl rfl rfl rfl rfl rfl ⟨rfl, rfl, rfl, rfl, rfl⟩ rfl rfl rfl rfl rfl (by kernel_rfl) Try.func9 (by kernel_rfl)
    (of_decide_eq_true (by kernel_rfl)) (by unfold Func.isWrapper; first | (rw [if_pos (by decide +kernel)]; kernel_rfl) | (rw [if_neg (by decide +kernel)]; exact ⟨rfl, rfl⟩))
    (fun os started H enc _ => lifted os started H enc)

end Go.Proofs.Ytigmmcmekklkfaa.lagain
