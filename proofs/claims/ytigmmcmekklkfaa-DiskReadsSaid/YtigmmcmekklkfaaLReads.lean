/- DiskReads: for all offsets and lengths, Read returns the bytes that exist. For all arguments. -/
import Derived.Test.YtigmmcmekklkfaaKit2
namespace Go.Proofs.Ytigmmcmekklkfaa.lreads
open Go.ChangeShapes Go.WideShapes Go.ChangeAt Go.RowKit

set_option maxRecDepth 100000 in
set_option maxHeartbeats 16000000 in
theorem walk (s : ByteArray) (at_ a0 a1 : Int) (w : World) (hs : s.size ≤ maxLen) :
    Calls Try.prog 10 #[.string s, .int .i64 at_, .agg #[.int .i64 a0, .int .i64 a1]] w (BoolB w true) := by
  obtain ⟨wB, hwB⟩ : ∃ wB, w.alloc (.cells #[.int .i64 a0, .int .i64 a1] 42) = wB := ⟨_, rfl⟩
  have hbB : Below w.heap.size w wB := by rw [← hwB]; exact (Below.refl _ w).alloc (Nat.le_refl _) _
  have FB : Full wB w.heap.size 42 [.int .i64 a0, .int .i64 a1] := by rw [← hwB]; exact Full.new w 42 _
  have S := Lib.hid (sane_any wB)
  have ND := Lib.hid (fun W => new_any W)
  have NR := Lib.hid (fun W => refNew_any W)
  unfold BoolB at S ⊢
  have M8 := Lib.hid (fun W' => (show Calls Try.prog 22 #[.int .i64 at_, .int .i64 8] W' fun e w' => e = .returned (.int .i64 (modN at_ 8 : Int)) ∧ W' = w' from mod_any at_ 8 W' (by omega) (by omega)))
  have M230 := Lib.hid (fun W' => (show Calls Try.prog 22 #[.int .i64 a0, .int .i64 230] W' fun e w' => e = .returned (.int .i64 (modN a0 230 : Int)) ∧ W' = w' from mod_any a0 230 W' (by omega) (by omega)))
  have M20 := Lib.hid (fun W' => (show Calls Try.prog 22 #[.int .i64 a1, .int .i64 20] W' fun e w' => e = .returned (.int .i64 (modN a1 20 : Int)) ∧ w' = W' from flip_ (mod_any a1 20 W' (by omega) (by omega))))
  have hm8 := modN_lt (x := at_) (m := 8) (by omega)
  have hm230 := modN_lt (x := a0) (m := 230) (by omega)
  have hm20 := modN_lt (x := a1) (m := 20) (by omega)
  obtain ⟨k8, hk8⟩ : ∃ k, modN at_ 8 = k := ⟨_, rfl⟩
  obtain ⟨k230, hk230⟩ : ∃ k, modN a0 230 = k := ⟨_, rfl⟩
  obtain ⟨k20, hk20⟩ : ∃ k, modN a1 20 = k := ⟨_, rfl⟩
  rw [hk8] at M8 hm8
  rw [hk230] at M230 hm230
  rw [hk20] at M20 hm20
  have hst : str s.data.toList = s := (str_eq rfl).symm
  have D1 := Lib.hid (fun (W : World) (x : Nat) (h : Desk wB W x Dk.new) => (show Calls Try.prog 16 #[.pointer (some ⟨x, 0, none⟩), .agg #[.int .i64 0, .int .i64 (1 + (k8 : Int)), .int .i64 0, .string s]] W fun e W' => e = .returned (.bool true) ∧ ∃ p q d, Both wB W' p q d d (fun g => g = x) ∧ Full W' x 30 [.pointer (some ⟨p, 0, none⟩), .pointer (some ⟨q, 0, none⟩)] from by
    have := do_any h (by simp [Dk.new]) ⟨0, 1 + (k8 : Int), 0, s.data.toList⟩ ⟨by dsimp only; omega, by simp, by rw [data_len]; exact hs⟩
    unfold actV at this
    rw [hst] at this
    exact this.mono fun e W' ⟨he, p, q, h1, h2⟩ => ⟨he, p, q, _, h1, h2⟩))
  obtain ⟨b, hb⟩ : ∃ b, w.heap.size = b := ⟨_, rfl⟩
  rw [hb] at FB
  have CB := Lib.hid (fun (W : World) (h : Below wB.heap.size wB W) => (show W.cell? ⟨b, 0, none⟩ = some (.int .i64 a0) ∧ W.cell? ⟨b, 1, none⟩ = some (.int .i64 a1) from ⟨(FB.on h).cell 0, (FB.on h).cell 1⟩))
  have HBB := Lib.hid hbB
  have k0 : (0 : Int) ≤ (k8 : Int) := Int.natCast_nonneg _
  have k1 : (k8 : Int) < 8 := by omega
  have j0 : (0 : Int) ≤ (k230 : Int) := Int.natCast_nonneg _
  clear hk8 hk230 hk20 hst hbB FB
  go_enter Try.func10, Try.ntmps10
  go_upto_region 1 with fail
  clear hwB hb
  go_upto_region 5 with (first
    | (go_at_call 13; ((with_reducible refine S.out.mono ?_); rintro e w1 ⟨rfl, hb1⟩))
    | (go_at_call 14; ((with_reducible refine (ND.out w1).mono ?_); rintro e w2 ⟨p, rfl, hD2, hb2⟩))
    | (go_at_call 15; ((with_reducible refine (NR.out w2).mono ?_); rintro e w3 ⟨q, rfl, hR3, hb3⟩; (have HD0 := Lib.hid (desk_new hb1 hD2 hb2 hR3 hb3)); (have FX : Full (w3.alloc (.cells #[.pointer (some ⟨p, 0, none⟩), .pointer (some ⟨q, 0, none⟩)] 30)) w3.heap.size 30 [.pointer (some ⟨p, 0, none⟩), .pointer (some ⟨q, 0, none⟩)] := Full.new w3 30 _); (have x0 : (w3.alloc (.cells #[.pointer (some ⟨p, 0, none⟩), .pointer (some ⟨q, 0, none⟩)] 30)).cell? ⟨w3.heap.size, 0, none⟩ = some (.pointer (some ⟨p, 0, none⟩)) := FX.cell 0)))
    | (fail "arm"))
  obtain ⟨x, hx⟩ : ∃ x, w3.heap.size = x := ⟨_, rfl⟩
  obtain ⟨w4, hw4⟩ : ∃ w4, w3.alloc (.cells #[.pointer (some ⟨p, 0, none⟩), .pointer (some ⟨q, 0, none⟩)] 30) = w4 := ⟨_, rfl⟩
  rw [hx] at x0 HD0 ⊢
  rw [hw4] at x0 HD0 ⊢
  clear hx hw4 FX hD2 hR3 hb1 hb2 hb3
  go_upto_region 6 with (first
    | (go_at_call 22; ((with_reducible refine (M8.out _).mono ?_); rintro e wz ⟨rfl, rfl⟩))
    | (go_at_call 16; ((with_reducible refine (D1.out w4 x HD0.out).mono ?_); rintro e w5 ⟨rfl, p5, q5, d5, hB5, hX5⟩))
    | (fail "arm"))
  have cc := CB.out w5 hB5.bel
  obtain ⟨cc0, cc1⟩ := cc
  have y0 : w5.cell? ⟨x, 0, none⟩ = some (.pointer (some ⟨p5, 0, none⟩)) := hX5.cell 0
  have y1 : w5.cell? ⟨x, 1, none⟩ = some (.pointer (some ⟨q5, 0, none⟩)) := hX5.cell 1
  have HBE := Lib.hid hB5.bel
  have R1 := Lib.hid (fun n => flip_ ((hB5.drewN n).read a0 a1))
  have R2 := Lib.hid (fun n => flip_ ((hB5.drewN n).read (k230 : Int) a1))
  have R3 := Lib.hid (fun n => flip_ ((hB5.drewN n).read (k230 : Int) (k20 : Int)))
  have T1 := Lib.hid (fun n => (hB5.drewN n).rread a0 a1)
  have T2 := Lib.hid (fun n => (hB5.drewN n).rread (k230 : Int) a1)
  have T3 := Lib.hid (fun n => (hB5.drewN n).rread (k230 : Int) (k20 : Int))
  obtain ⟨S1, hS1⟩ : ∃ S, str (d5.read a0 a1) = S := ⟨_, rfl⟩
  obtain ⟨S2, hS2⟩ : ∃ S, str (d5.read (k230 : Int) a1) = S := ⟨_, rfl⟩
  obtain ⟨S3, hS3⟩ : ∃ S, str (d5.read (k230 : Int) (k20 : Int)) = S := ⟨_, rfl⟩
  rw [hS1] at R1 T1
  rw [hS2] at R2 T2
  rw [hS3] at R3 T3
  clear hS1 hS2 hS3 hB5 hX5 HD0 x0
  go_upto_region 7 with (first
    | (go_at_call 22; ((with_reducible refine (M230.out _).mono ?_); rintro e wz ⟨rfl, rfl⟩))
    | (fail "arm"))
  go_quiet (first | (go_at_call 29; with_reducible exact Calls.quiet_of_same (R1.out _)) | (go_at_call 29; with_reducible exact Calls.quiet_of_same (R2.out _)) | (go_at_call 29; with_reducible exact Calls.quiet_of_same (R3.out _)) | (go_at_call 31; with_reducible exact Calls.quiet_of (T1.out _)) | (go_at_call 31; with_reducible exact Calls.quiet_of (T2.out _)) | (go_at_call 31; with_reducible exact Calls.quiet_of (T3.out _)) | (go_at_call 22; with_reducible exact Calls.quiet_of_same (M20.out _)) | (fail "arm"))
  go_wp2
  go_ret
  exact ⟨rfl, Below.drewN_ (Below.then_ HBB.out HBE.out) _⟩

theorem contract (H : Type) (enc : TypeId × Value → H) (W : World) (base : Nat) (args : Array Value) (ds gs : List (DataW H)) (before : List MemPlace)
    (hval : ∀ (j : Nat) t v, Try.f10.params[j]? = some t → args[j]? = some v → Value.okWide Try.prog W .any base t v)
    (hW : DataW.Whole enc Try.prog Try.f10.params.toList Rows.diskReadsSpec.vars false W args.toList ds gs before) :
    Calls Try.prog 10 args W fun e W' => ∃ v, e = .returned v ∧ Rows.diskReadsSpec.post enc Try.prog Try.f10 false true false false W args v W' := by
  have hW' := hW
  obtain ⟨p, q, hA0, hV, rfl, hfz, hnd⟩ := hW
  have hA : DataW.TrodAll enc Try.prog W 0 (fun _ => true) true Try.f10.params.toList args.toList ds p := hA0
  rw [Try.params10] at hA hval
  obtain ⟨v0, vs0, d0, ds0, p0, q0, e0, rfl, rfl, h0, r0⟩ := trodAll_cons hA
  obtain ⟨v1, vs1, d1, ds1, p1, q1, e1, rfl, rfl, h1, r1⟩ := trodAll_cons r0
  obtain ⟨v2, vs2, d2, ds2, p2, q2, e2, rfl, rfl, h2, r2⟩ := trodAll_cons r1
  obtain ⟨rfl, rfl, rfl⟩ := trodAll_nil r2
  obtain rfl : args = #[v0, v1, v2] := by cases args; simp_all
  obtain ⟨rfl, rfl⟩ := trodVars_none hV
  obtain ⟨s, rfl, rfl, rfl, hs⟩ := Go.ChangeMaps.open_string Try.underlying9 (hval 0 9 v0 rfl rfl) h0
  obtain ⟨a, rfl, _, _, ha⟩ := open_int Try.underlying3 (hval 1 3 v1 rfl rfl) h1
  obtain ⟨x, y, rfl, hx, hy⟩ := open_pair (hval 2 42 v2 rfl rfl) h2
  refine (walk s a x y W hs).mono fun e W' ⟨he, hb⟩ => ⟨_, he, law_post rfl rfl ?_ rfl rfl rfl hW' hb⟩
  rw [Try.params10]
  intro t ht
  have ht' : t = 9 ∨ t = 3 ∨ t = 42 := by simpa using ht
  rcases ht' with rfl | rfl | rfl <;> exact ⟨by kernel_rfl, of_decide_eq_true (by kernel_rfl)⟩

set_option maxRecDepth 100000 in
theorem lifted (os : Os) (started : os.Started) (H : Type) (enc : TypeId × Value → H) :
    ReturnsInHanded {} Try.checked os 10 .any (Rows.diskReadsSpec.pre6 enc Try.prog Try.f10 Rows.diskReadsRow.domain false) (Rows.diskReadsSpec.post enc Try.prog Try.f10 false true false false) := by
  refine returnsInHanded_of_change (C := Try.checked) ownKnob_none started (by kernel_rfl) Try.func10
    (ChangeSpec.witness6 (enc := enc) (C := Try.checked) false ⟨#[], #[.string .empty, .int .i64 0, .agg #[.int .i64 0, .int .i64 0]], []⟩ 8 (by kernel_rfl) (by kernel_rfl) (by kernel_rfl) (by kernel_rfl)) ?_
  intro W base args ds gs before hval hW _ _
  exact contract H enc W base args ds gs before hval hW

theorem proved : Rows.DiskReadsSaid :=
  OpenClaim.holds_of_wide 10 Try.f10 rfl rfl rfl rfl rfl rfl rfl ⟨rfl, rfl, rfl, rfl, rfl⟩ rfl rfl rfl rfl rfl (by kernel_rfl) Try.func10 (by kernel_rfl)
    (of_decide_eq_true (by kernel_rfl)) (by unfold Func.isWrapper; first | (rw [if_pos (by decide +kernel)]; kernel_rfl) | (rw [if_neg (by decide +kernel)]; exact ⟨rfl, rfl⟩))
    (fun os started H enc _ => lifted os started H enc)

end Go.Proofs.Ytigmmcmekklkfaa.lreads
