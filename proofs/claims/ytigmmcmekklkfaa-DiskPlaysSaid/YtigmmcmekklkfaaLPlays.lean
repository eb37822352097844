/- DiskPlays: any sequence of calls, with power failures and crashes, has the results of the reference model. For all lists of acts. -/
import Derived.Test.YtigmmcmekklkfaaKit
namespace Go.Proofs.Ytigmmcmekklkfaa.lplays
open Go.ChangeShapes Go.WideShapes Go.ChangeAt Go.RowKit

set_option maxRecDepth 100000 in
set_option maxHeartbeats 8000000 in
theorem walk (A : Option Addr) (us : List At) (c : Nat) (w : World) (hA : Acts w w.heap.size A c us) (hl : us.length ≤ maxLen) : Calls Try.prog 3 #[.slice A us.length c] w (BoolB w true) := by
  have S := Lib.hid (sane_any w)
  have ND := Lib.hid (fun W => new_any W)
  have NR := Lib.hid (fun W => refNew_any W)
  unfold BoolB at S ⊢
  have HA := Lib.hid hA
  obtain ⟨n, hn⟩ : ∃ n, us.length = n := ⟨_, rfl⟩
  have HN := Lib.hid hn
  rw [hn] at hl ⊢
  unfold maxLen at hl
  have n0 : (0 : Int) ≤ (n : Int) := Int.natCast_nonneg _
  clear hA hn
  go_enter Try.func3, Try.ntmps3
  go_upto_region 3 with (first
    | (go_at_call 13; ((with_reducible refine S.out.mono ?_); rintro e w1 ⟨rfl, hb1⟩))
    | (go_at_call 14; ((with_reducible refine (ND.out w1).mono ?_); rintro e w2 ⟨p, rfl, hD2, hb2⟩))
    | (go_at_call 15; ((with_reducible refine (NR.out w2).mono ?_); rintro e w3 ⟨q, rfl, hR3, hb3⟩))
    | (fail "arm"))
  have HD0 := Lib.hid (desk_new hb1 hD2 hb2 hR3 hb3)
  obtain ⟨x, hx⟩ : ∃ x, w3.heap.size = x := ⟨_, rfl⟩
  obtain ⟨w4, hw4⟩ : ∃ w4, w3.alloc (.cells #[.pointer (some ⟨p, 0, none⟩), .pointer (some ⟨q, 0, none⟩)] 30) = w4 := ⟨_, rfl⟩
  have FX : Full w4 w3.heap.size 30 [.pointer (some ⟨p, 0, none⟩), .pointer (some ⟨q, 0, none⟩)] := by rw [← hw4]; exact Full.new w3 30 _
  rw [hx] at FX HD0 ⊢
  rw [hw4] at HD0 ⊢
  have x0 : w4.cell? ⟨x, 0, none⟩ = some (.pointer (some ⟨p, 0, none⟩)) := FX.cell 0
  have HD0' := Lib.hid (show ∃ d : Dk, d.calls ≤ 0 ∧ Desk w w4 x d from ⟨Dk.new, Nat.le_refl _, HD0.out⟩)
  clear hx hw4 FX hD2 hR3 hb2 hb3 HD0
  go_wp2
  go_loopw [5] (fun v5 wr => ∃ k : Nat, v5 = .int .i64 (k : Int) ∧ k ≤ n ∧ k ≤ 40 ∧ Hid (∃ d : Dk, d.calls ≤ k ∧ Desk w wr x d)) (fun v5 _ => n - (intOf v5).toNat)
  case atStart => exact ⟨0, rfl, by omega, by omega, HD0'⟩
  case round =>
    obtain ⟨k, rfl, hk, hk40, H⟩ := hrel
    have k0 : (0 : Int) ≤ (k : Int) := Int.natCast_nonneg _
    obtain ⟨d, hd, hD⟩ := H.out
    by_cases hlt : k < n ∧ k < 40
    · obtain ⟨hkn, hk4⟩ := hlt
      have k1 : (k : Int) < (n : Int) := by omega
      have k4 : (k : Int) < 40 := by omega
      have hbW : Below w.heap.size w wr := hD.bel
      have hku : k < us.length := by have := HN.out; omega
      obtain ⟨ad, rfl, hadl, ⟨a0, a1, a2, a3⟩, hfit⟩ := (HA.out.on hbW).at_ hku
      have DO := Lib.hid (do_any hD (by omega) us[k] hfit)
      have hac := act_calls d us[k]
      obtain ⟨⟨kd, of, nn, tx⟩, hu⟩ : ∃ u : At, us[k] = u := ⟨_, rfl⟩
      rw [hu] at a0 a1 a2 a3 DO hac
      dsimp only at a0 a1 a2 a3
      have DO' := Lib.hid (show Calls Try.prog 16 #[.pointer (some ⟨x, 0, none⟩), .agg #[.int .i64 kd, .int .i64 of, .int .i64 nn, .string (str tx)]] wr fun e W' => e = .returned (.bool true) ∧ Desk w W' x (act d ⟨kd, of, nn, tx⟩) from DO.out)
      obtain ⟨T, hT⟩ : ∃ T, str tx = T := ⟨_, rfl⟩
      rw [hT] at a3 DO'
      obtain ⟨d2, hd2⟩ : ∃ d2, act d ⟨kd, of, nn, tx⟩ = d2 := ⟨_, rfl⟩
      rw [hd2] at DO' hac
      clear DO hT hd2 hu hfit hbW hD H
      go_upto_region 9 with (go_at_call 16; ((with_reducible refine DO'.out.mono ?_); rintro e w6 ⟨rfl, hD6⟩))
      obtain ⟨p6, q6, hB6, hX6⟩ := hD6
      have HD6 := Lib.hid (show Desk w w6 x d2 from ⟨p6, q6, hB6, hX6⟩)
      have SZ := Lib.hid (fun m => flip_ (hB6.drewN m).size)
      have RSZ := Lib.hid (fun m => flip_ (hB6.drewN m).rsize)
      have CA := Lib.hid (fun m => flip_ (hB6.drewN m).calls)
      have RCA := Lib.hid (fun m => flip_ (hB6.drewN m).rcalls)
      have c0 : w6.cell? ⟨x, 0, none⟩ = some (.pointer (some ⟨p6, 0, none⟩)) := hX6.cell 0
      have c1 : w6.cell? ⟨x, 1, none⟩ = some (.pointer (some ⟨q6, 0, none⟩)) := hX6.cell 1
      obtain ⟨N, hN⟩ : ∃ N : Int, (d2.now.length : Int) = N := ⟨_, rfl⟩
      obtain ⟨C, hC⟩ : ∃ C : Int, (d2.calls : Int) = C := ⟨_, rfl⟩
      rw [hN] at SZ RSZ
      rw [hC] at CA RCA
      clear hB6 hX6 hN hC
      go_quiet (first | (go_at_call 17; with_reducible exact Calls.quiet_of_same (SZ.out _)) | (go_at_call 18; with_reducible exact Calls.quiet_of_same (RSZ.out _)) | (go_at_call 19; with_reducible exact Calls.quiet_of_same (CA.out _)) | (go_at_call 20; with_reducible exact Calls.quiet_of_same (RCA.out _)) | (fail "arm"))
      go_wp2
      go_roundw
      case rel => exact ⟨k + 1, by go_num, by omega, by omega, Lib.hid ⟨d2, by omega, HD6.out.drewN _⟩⟩
      case measure => simp [intOf]; omega
    · obtain ⟨p6, q6, hB6, hX6⟩ := hD
      have SA := Lib.hid (same_any hB6 hX6)
      have HBE := Lib.hid hB6.bel
      clear hB6 hX6 H
      by_cases hkn : k < n
      · obtain rfl : k = 40 := by omega
        have k1 : ((40 : Nat) : Int) < (n : Int) := by omega
        go_wp2_with (go_at_call 21; ((with_reducible refine SA.out.mono ?_); rintro e w7 ⟨rfl, m7, rfl⟩))
        go_ret
        exact ⟨rfl, Below.drewN_ HBE.out _⟩
      · obtain rfl : k = n := by omega
        go_wp2_with (go_at_call 21; ((with_reducible refine SA.out.mono ?_); rintro e w7 ⟨rfl, m7, rfl⟩))
        go_ret
        exact ⟨rfl, Below.drewN_ HBE.out _⟩

theorem contract (H : Type) (enc : TypeId × Value → H) (W : World) (base : Nat) (args : Array Value) (ds gs : List (DataW H)) (before : List MemPlace)
    (hval : ∀ (j : Nat) t v, Try.f3.params[j]? = some t → args[j]? = some v → Value.okWide Try.prog W .any base t v)
    (hW : DataW.Whole enc Try.prog Try.f3.params.toList Rows.diskPlaysSpec.vars false W args.toList ds gs before) :
    Calls Try.prog 3 args W fun e W' => ∃ v, e = .returned v ∧ Rows.diskPlaysSpec.post enc Try.prog Try.f3 false true false false W args v W' := by
  have hW' := hW
  obtain ⟨p, q, hA0, hV, rfl, hfz, hnd⟩ := hW
  have hA : DataW.TrodAll enc Try.prog W 0 (fun _ => true) true Try.f3.params.toList args.toList ds p := hA0
  rw [Try.params3] at hA hval
  obtain ⟨v0, vs0, d0, ds0, p0, q0, e0, rfl, rfl, h0, r0⟩ := trodAll_cons hA
  obtain ⟨rfl, rfl, rfl⟩ := trodAll_nil r0
  obtain rfl : args = #[v0] := by cases args; simp_all
  obtain ⟨rfl, rfl⟩ := trodVars_none hV
  obtain ⟨A, us, c, rfl, hP, hl⟩ := open_acts h0 (hval 0 22 v0 rfl rfl)
  refine (walk A us c W hP hl).mono fun e W' ⟨he, hb⟩ => ⟨_, he, law_post rfl rfl ?_ rfl rfl rfl hW' hb⟩
  rw [Try.params3]
  intro t ht
  obtain rfl : t = 22 := by simpa using ht
  exact ⟨by kernel_rfl, of_decide_eq_true (by kernel_rfl)⟩

set_option maxRecDepth 100000 in
theorem lifted (os : Os) (started : os.Started) (H : Type) (enc : TypeId × Value → H) :
    ReturnsInHanded {} Try.checked os 3 .any (Rows.diskPlaysSpec.pre6 enc Try.prog Try.f3 Rows.diskPlaysRow.domain false) (Rows.diskPlaysSpec.post enc Try.prog Try.f3 false true false false) := by
  refine returnsInHanded_of_change (C := Try.checked) ownKnob_none started (by kernel_rfl) Try.func3
    (ChangeSpec.witness6 (enc := enc) (C := Try.checked) false ⟨#[], #[.slice none 0 0], []⟩ 8 (by kernel_rfl) (by kernel_rfl) (by kernel_rfl) (by kernel_rfl)) ?_
  intro W base args ds gs before hval hW _ _
  exact contract H enc W base args ds gs before hval hW

theorem proved : Rows.DiskPlaysSaid :=
  OpenClaim.holds_of_wide 3 Try.f3 rfl rfl rfl rfl rfl rfl rfl ⟨rfl, rfl, rfl, rfl, rfl⟩ rfl rfl rfl rfl rfl (by kernel_rfl) Try.func3 (by kernel_rfl)
    (of_decide_eq_true (by kernel_rfl)) (by unfold Func.isWrapper; first | (rw [if_pos (by decide +kernel)]; kernel_rfl) | (rw [if_neg (by decide +kernel)]; exact ⟨rfl, rfl⟩))
    (fun os started H enc _ => lifted os started H enc)

end Go.Proofs.Ytigmmcmekklkfaa.lplays
