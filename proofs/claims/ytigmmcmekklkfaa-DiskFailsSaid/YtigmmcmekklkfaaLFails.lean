/- DiskFails: a power failure after n calls: each call says whether it was done, and the power comes back. For all arguments. -/
import Derived.Test.YtigmmcmekklkfaaKit2
namespace Go.Proofs.Ytigmmcmekklkfaa.lfails
open Go.ChangeShapes Go.WideShapes Go.ChangeAt Go.RowKit

/-- k calls on a disk whose power lasts for n -/
structure Ran (d : Dk) (n k : Nat) : Prop where
  pw : d.pw = some (n - k)
  calls : d.calls = min k n
  len : d.now.length ≤ min k n
theorem Ran.off {d : Dk} {n k : Nat} (h : Ran d n k) : d.isOff = decide (n ≤ k) := by
  unfold Dk.isOff
  rw [h.pw]
  by_cases hk : n ≤ k
  · rw [show n - k = 0 by omega]; simp [offO, hk]
  · obtain ⟨m, hm⟩ : ∃ m, n - k = m + 1 := ⟨n - k - 1, by omega⟩
    rw [hm]; simp [offO]; omega
theorem Ran.sErr {d : Dk} {n k : Nat} (h : Ran d n k) : d.sErr = if k < n then 0 else 30 := by
  unfold Dk.sErr
  rw [h.off]
  by_cases hk : n ≤ k
  · rw [if_pos (by simpa using hk), if_neg (by omega)]
  · rw [if_neg (by simpa using hk), if_pos (by omega)]
theorem Ran.sync {d : Dk} {n k : Nat} (h : Ran d n k) : Ran d.sync n (k + 1) := by
  unfold Dk.sync
  rw [h.off]
  by_cases hk : n ≤ k
  · rw [if_pos (by simpa using hk)]
    exact ⟨by rw [h.pw]; congr 1; omega, by rw [h.calls]; omega, by have := h.len; omega⟩
  · rw [if_neg (by simpa using hk)]
    refine ⟨?_, ?_, ?_⟩
    · simp only [Dk.synced, h.pw, Dk.less]; rfl
    · simp only [Dk.synced, h.calls]; omega
    · have := h.len; rw [Dk.synced_now]; omega
theorem Ran.wErr {d : Dk} {n k : Nat} (h : Ran d n k) (off : Int) (s : List UInt8) (h0 : 0 ≤ off) (h1 : off + (s.length : Int) ≤ 16777216) : d.wErr off s = if k < n then 0 else 30 := by
  unfold Dk.wErr
  rw [if_neg (by rw [(Dk.canW_iff off s.length).2 ⟨h0, h1⟩]; simp), h.off]
  by_cases hk : n ≤ k
  · rw [if_pos (by simpa using hk), if_neg (by omega)]
  · rw [if_neg (by simpa using hk), if_pos (by omega)]
theorem Ran.write {d : Dk} {n k : Nat} (h : Ran d n k) (hk : k ≤ 100) (x : UInt8) : Ran (d.write (k : Int) [x]) n (k + 1) := by
  unfold Dk.write
  rw [h.wErr (k : Int) [x] (by omega) (by simp; omega)]
  by_cases hkn : k < n
  · rw [if_pos hkn, if_pos rfl]
    refine ⟨?_, ?_, ?_⟩
    · simp only [Dk.wrote, h.pw, Dk.less]; rfl
    · simp only [Dk.wrote, h.calls]; omega
    · have := h.len; rw [Dk.wrote_now, put_len]; simp; omega
  · rw [if_neg hkn, if_neg (by omega)]
    exact ⟨by rw [h.pw]; congr 1; omega, by rw [h.calls]; omega, by have := h.len; omega⟩
theorem z_str : (⟨#[122]⟩ : ByteArray).data.toList = [122] := rfl

theorem bd_u8 {n : Int} (h : (Lit.int .u8 n).wf = true) : 0 ≤ n ∧ n ≤ 255 := by
  simpa [Lit.wf, IntKind.min, IntKind.max, IntKind.signed, IntKind.bits] using h
theorem bd_u32 {n : Int} (h : (Lit.int .u32 n).wf = true) : 0 ≤ n ∧ n ≤ 4294967295 := by
  simpa [Lit.wf, IntKind.min, IntKind.max, IntKind.signed, IntKind.bits] using h
set_option maxRecDepth 100000 in
set_option maxHeartbeats 8000000 in
theorem walk (a0 : Nat) (bits : Int) (a2 : Nat) (w : World) (ha0 : a0 < 256) (ha2 : a2 < 256) (hb0 : 0 ≤ bits) (hb1 : bits < 4294967296) :
    Calls Try.prog 7 #[.int .u8 (a0 : Int), .int .u32 bits, .int .u8 (a2 : Int)] w (BoolB w true) := by
  have S := Lib.hid (sane_any w)
  have ND := Lib.hid (fun (W : World) (h : Below w.heap.size w W) => new_side h)
  unfold BoolB at S ⊢
  obtain ⟨n, hn⟩ : ∃ n, a0 % 30 = n := ⟨_, rfl⟩
  obtain ⟨r, hr⟩ : ∃ r, a2 % 5 = r := ⟨_, rfl⟩
  have hn30 : n < 30 := by omega
  have hr5 : r < 5 := by omega
  have n0 : (0 : Int) ≤ (n : Int) := Int.natCast_nonneg _
  have r0 : (0 : Int) ≤ (r : Int) := Int.natCast_nonneg _
  have en : Int.tmod (a0 : Int) 30 = (n : Int) := by rw [← hn, Int.tmod_eq_emod_of_nonneg (Int.natCast_nonneg _)]; omega
  have er : (a2 : Int) % 5 = (r : Int) := by omega
  have N1 : (n : Int) < 30 := by omega
  have R1 : (r : Int) < 5 := by omega
  have A0 : (0 : Int) ≤ (a0 : Int) := Int.natCast_nonneg _
  have A2 : (0 : Int) ≤ (a2 : Int) := Int.natCast_nonneg _
  have A01 : (a0 : Int) < 256 := by omega
  have A21 : (a2 : Int) < 256 := by omega
  clear hn hr ha0 ha2
  go_enter Try.func7, Try.ntmps7
  go_upto_region 7 with (first
    | (go_at_call 13; ((with_reducible refine S.out.mono ?_); rintro e w1 ⟨rfl, hb1⟩))
    | (go_at_call 14; ((with_reducible refine (ND.out w1 hb1).mono ?_); rintro e w2 ⟨p, rfl, hS2, hb2⟩; (have F2 := Lib.hid (hS2.fail (n : Int) (by omega)))))
    | (go_at_call 30; ((with_reducible refine F2.out.mono ?_); rintro e w3 ⟨rfl, hS3⟩))
    | (fail "arm"))
  have H0 := Lib.hid (show ∃ d : Dk, Ran d n 0 ∧ Side w w3 p d (fun g => g < w1.heap.size) from ⟨_, ⟨by simp only [Dk.fail, if_neg (show ¬ ((n : Int) < 0) by omega), Int.toNat_natCast, Nat.sub_zero], by simp [Dk.fail, Dk.new], by simp [Dk.fail, Dk.new, Dk.now, putAll]⟩, hS3.1⟩)
  obtain ⟨X, hX⟩ : ∃ X : Nat → Prop, (fun g => g < w1.heap.size) = X := ⟨_, rfl⟩
  rw [hX] at H0
  clear hS3 F2 hS2 hb2 ND S hb1 hX
  go_wp2
  go_loopw [10] (fun v10 wr => ∃ k : Nat, v10 = .int .i64 (k : Int) ∧ k ≤ n + r + 1 ∧ Hid (∃ d : Dk, Ran d n k ∧ Side w wr p d X)) (fun v10 _ => n + r + 1 - (intOf v10).toNat)
  case atStart => exact ⟨0, rfl, by omega, H0⟩
  case round =>
    obtain ⟨k, rfl, hk, H⟩ := hrel
    have k0 : (0 : Int) ≤ (k : Int) := Int.natCast_nonneg _
    have k1 : (k : Int) < 100 := by omega
    obtain ⟨d, hd, hS⟩ := H.out
    by_cases hlt : k < n + r + 1
    · have kk : (k : Int) < (n : Int) + (r : Int) + 1 := by omega
      have SY := Lib.hid (hS.sync (by rw [hd.calls]; omega))
      have WR := Lib.hid (hS.write (by rw [hd.calls]; omega) (k : Int) ⟨#[122]⟩ (by omega) (by decide))
      rw [z_str, hd.wErr (k : Int) [122] (by omega) (by simp; omega)] at WR
      rw [hd.sErr] at SY
      have hds := Lib.hid hd.sync
      have hdw := Lib.hid (hd.write (by omega) 122)
      obtain ⟨dS, hdS⟩ : ∃ x, d.sync = x := ⟨_, rfl⟩
      obtain ⟨dW, hdW⟩ : ∃ x, d.write (k : Int) [122] = x := ⟨_, rfl⟩
      rw [hdS] at SY hds
      rw [hdW] at WR hdw
      clear hdS hdW hd hS H
      by_cases hkn : k < n
      · have kn : (k : Int) < (n : Int) := by omega
        rw [if_pos hkn] at SY WR
        go_wp2_with (first
          | (go_at_call 28; ((with_reducible refine SY.out.mono ?_); rintro e w6 ⟨rfl, hS6⟩; (have HE := Lib.hid (show ∃ d : Dk, Ran d n (k + 1) ∧ Side w w6 p d X from ⟨_, hds.out, hS6.1⟩))))
          | (go_at_call 27; ((with_reducible refine WR.out.mono ?_); rintro e w6 ⟨rfl, hS6⟩; (have HE := Lib.hid (show ∃ d : Dk, Ran d n (k + 1) ∧ Side w w6 p d X from ⟨_, hdw.out, hS6.1⟩))))
          | (fail "arm"))
        all_goals (go_roundw; (case rel => exact ⟨k + 1, by go_num, by omega, HE⟩); (case measure => simp [intOf]; omega))
      · have kn : ¬ (k : Int) < (n : Int) := by omega
        rw [if_neg hkn] at SY WR
        go_wp2_with (first
          | (go_at_call 28; ((with_reducible refine SY.out.mono ?_); rintro e w6 ⟨rfl, hS6⟩; (have HE := Lib.hid (show ∃ d : Dk, Ran d n (k + 1) ∧ Side w w6 p d X from ⟨_, hds.out, hS6.1⟩))))
          | (go_at_call 27; ((with_reducible refine WR.out.mono ?_); rintro e w6 ⟨rfl, hS6⟩; (have HE := Lib.hid (show ∃ d : Dk, Ran d n (k + 1) ∧ Side w w6 p d X from ⟨_, hdw.out, hS6.1⟩))))
          | (fail "arm"))
        all_goals (go_roundw; (case rel => exact ⟨k + 1, by go_num, by omega, HE⟩); (case measure => simp [intOf]; omega))
    · obtain rfl : k = n + r + 1 := by omega
      have SZ := Lib.hid hS.size
      have CA := Lib.hid hS.calls
      have FA := Lib.hid (hS.fail (-1) (by omega))
      have WR := Lib.hid (fun W (h : Side w W p (d.fail (-1)) X) => h.write (by rw [show (d.fail (-1)).calls = d.calls from rfl, hd.calls]; omega) 0 ⟨#[97, 103, 97, 105, 110]⟩ (by omega) (by decide))
      have e0 : (d.fail (-1)).wErr 0 (⟨#[97, 103, 97, 105, 110]⟩ : ByteArray).data.toList = 0 := rfl
      have ec : ((d.fail (-1)).write 0 (⟨#[97, 103, 97, 105, 110]⟩ : ByteArray).data.toList).calls = n + 1 := by
        unfold Dk.write
        rw [if_pos e0]
        show d.calls + 1 = n + 1
        rw [hd.calls]; omega
      rw [e0] at WR
      have hc : d.calls = n := by rw [hd.calls]; omega
      have hl : d.now.length ≤ n := by have := hd.len; omega
      rw [hc] at CA
      obtain ⟨N, hN⟩ : ∃ N, d.now.length = N := ⟨_, rfl⟩
      rw [hN] at SZ hl
      have N0 : (0 : Int) ≤ (N : Int) := Int.natCast_nonneg _
      have Nn : (N : Int) ≤ (n : Int) := by omega
      have CB := Lib.hid (fun W (h : Side w W p ((d.fail (-1)).write 0 (⟨#[97, 103, 97, 105, 110]⟩ : ByteArray).data.toList) X) => h.calls)
      rw [ec] at CB
      clear H hS hd hN hc e0 ec
      go_wp2_with (first
        | (go_at_call 19; ((with_reducible refine CA.out.mono ?_); rintro e w6 ⟨rfl, rfl⟩))
        | (go_at_call 17; ((with_reducible refine SZ.out.mono ?_); rintro e w6 ⟨rfl, rfl⟩))
        | (go_at_call 30; ((with_reducible refine FA.out.mono ?_); rintro e w7 ⟨rfl, hS7, _⟩))
        | (go_at_call 27; ((with_reducible refine (WR.out _ hS7).mono ?_); rintro e w8 ⟨rfl, hS8, _⟩))
        | (go_at_call 19; ((with_reducible refine (CB.out _ hS8).mono ?_); rintro e w9 ⟨rfl, rfl⟩))
        | (fail "arm"))
      go_ret
      exact ⟨by simp, hS8.bel⟩

theorem contract (H : Type) (enc : TypeId × Value → H) (W : World) (base : Nat) (args : Array Value) (ds gs : List (DataW H)) (before : List MemPlace)
    (hval : ∀ (j : Nat) t v, Try.f7.params[j]? = some t → args[j]? = some v → Value.okWide Try.prog W .any base t v)
    (hW : DataW.Whole enc Try.prog Try.f7.params.toList Rows.diskFailsSpec.vars false W args.toList ds gs before) :
    Calls Try.prog 7 args W fun e W' => ∃ v, e = .returned v ∧ Rows.diskFailsSpec.post enc Try.prog Try.f7 false true false false W args v W' := by
  have hW' := hW
  obtain ⟨p, q, hA0, hV, rfl, hfz, hnd⟩ := hW
  have hA : DataW.TrodAll enc Try.prog W 0 (fun _ => true) true Try.f7.params.toList args.toList ds p := hA0
  rw [Try.params7] at hA hval
  obtain ⟨v0, vs0, d0, ds0, p0, q0, e0, rfl, rfl, h0, r0⟩ := trodAll_cons hA
  obtain ⟨v1, vs1, d1, ds1, p1, q1, e1, rfl, rfl, h1, r1⟩ := trodAll_cons r0
  obtain ⟨v2, vs2, d2, ds2, p2, q2, e2, rfl, rfl, h2, r2⟩ := trodAll_cons r1
  obtain ⟨rfl, rfl, rfl⟩ := trodAll_nil r2
  obtain rfl : args = #[v0, v1, v2] := by cases args; simp_all
  obtain ⟨rfl, rfl⟩ := trodVars_none hV
  obtain ⟨a, rfl, rfl, rfl, ha⟩ := open_int Try.underlying5 (hval 0 5 v0 rfl rfl) h0
  obtain ⟨bits, rfl, rfl, rfl, hb⟩ := open_int Try.underlying50 (hval 1 50 v1 rfl rfl) h1
  obtain ⟨c, rfl, rfl, rfl, hc⟩ := open_int Try.underlying5 (hval 2 5 v2 rfl rfl) h2
  have ha' : 0 ≤ a ∧ a ≤ 255 := bd_u8 ha
  have hb' : 0 ≤ bits ∧ bits ≤ 4294967295 := bd_u32 hb
  have hc' : 0 ≤ c ∧ c ≤ 255 := bd_u8 hc
  obtain ⟨a, rfl⟩ := Int.eq_ofNat_of_zero_le ha'.1
  obtain ⟨c, rfl⟩ := Int.eq_ofNat_of_zero_le hc'.1
  refine (walk a bits c W (by omega) (by omega) (by omega) (by omega)).mono fun e W' ⟨he, hb⟩ => ⟨_, he, law_post rfl rfl ?_ rfl rfl rfl hW' hb⟩
  rw [Try.params7]
  intro t ht
  have ht' : t = 5 ∨ t = 50 ∨ t = 5 := by simpa using ht
  rcases ht' with rfl | rfl | rfl <;> exact ⟨by kernel_rfl, of_decide_eq_true (by kernel_rfl)⟩

set_option maxRecDepth 100000 in
theorem lifted (os : Os) (started : os.Started) (H : Type) (enc : TypeId × Value → H) :
    ReturnsInHanded {} Try.checked os 7 .any (Rows.diskFailsSpec.pre6 enc Try.prog Try.f7 Rows.diskFailsRow.domain false) (Rows.diskFailsSpec.post enc Try.prog Try.f7 false true false false) := by
  refine returnsInHanded_of_change (C := Try.checked) ownKnob_none started (by kernel_rfl) Try.func7
    (ChangeSpec.witness6 (enc := enc) (C := Try.checked) false ⟨#[], #[.int .u8 0, .int .u32 0, .int .u8 0], []⟩ 8 (by kernel_rfl) (by kernel_rfl) (by kernel_rfl) (by kernel_rfl)) ?_
  intro W base args ds gs before hval hW _ _
  exact contract H enc W base args ds gs before hval hW

theorem proved : Rows.DiskFailsSaid :=
  OpenClaim.holds_of_wide 7 Try.f7 rfl rfl rfl rfl rfl rfl rfl ⟨rfl, rfl, rfl, rfl, rfl⟩ rfl rfl rfl rfl rfl (by kernel_rfl) Try.func7 (by kernel_rfl)
    (of_decide_eq_true (by kernel_rfl)) (by unfold Func.isWrapper; first | (rw [if_pos (by decide +kernel)]; kernel_rfl) | (rw [if_neg (by decide +kernel)]; exact ⟨rfl, rfl⟩))
    (fun os started H enc _ => lifted os started H enc)

end Go.Proofs.Ytigmmcmekklkfaa.lfails
