/-
For every integer, number and pair of integers, the law CodecSigns returns true and leaves its arguments as they were: Signed and Unsigned agree with the reference, and undo each other. No condition.
-/
import Derived.Test.YtdbhmoadngclgaaLaw
import Derived.Test.YtdbhmoadngclgaaSane
namespace Go.Proofs.Ytdbhmoadngclgaa
open Go.ChangeShapes Go.WideShapes Go.ChangeAt Go.RowKit

theorem wrap64_bd (x : Int) : -9223372036854775808 ≤ wrap64 x ∧ wrap64 x ≤ 9223372036854775807 := by unfold wrap64; omega

theorem u64wrap_bd (e : Int) : 0 ≤ IntKind.u64.wrap e ∧ IntKind.u64.wrap e ≤ 18446744073709551615 := by
  simp only [IntKind.wrap, IntKind.bits, IntKind.signed]
  simp; omega

def SomeNum (w : World) (e : Ending) (w' : World) : Prop := ∃ x : Nat, x < 18446744073709551616 ∧ e = .returned (.int .u64 (x : Int)) ∧ w = w'
set_option maxHeartbeats 400000 in
theorem near_any (a b : Int) (w : World) (ha : -9223372036854775808 ≤ a ∧ a ≤ 9223372036854775807) (hb : -9223372036854775808 ≤ b ∧ b ≤ 9223372036854775807) :
    Calls Try.prog 17 #[.int .i64 a, .int .i64 b] w (SomeNum w) := by
  have h1 : 0 ≤ a % 64 := Int.emod_nonneg _ (by omega)
  have h2 : a % 64 < 64 := Int.emod_lt_of_pos _ (by omega)
  go_enter Try.func17, Try.ntmps17
  go_wp2_with (go_at_call 16; refine (mod_any a 64 _ ha.1 ha.2 (by omega) (by omega)).mono ?_; rintro e w' ⟨rfl, rfl⟩)
  go_ret
  have hw := u64wrap_bd (IntKind.u64.wrap (2 ^ (a % 64).toNat) + IntKind.u64.wrap (b.tmod 5))
  exact ⟨(IntKind.u64.wrap (IntKind.u64.wrap (2 ^ (a % 64).toNat) + IntKind.u64.wrap (b.tmod 5))).toNat, by omega, ret_int (by rw [Int.toNat_of_nonneg hw.1]), rfl⟩

namespace signs

set_option maxRecDepth 100000 in
set_option maxHeartbeats 1000000 in
theorem walk (n m a b : Int) (w : World) (hn : -9223372036854775808 ≤ n ∧ n ≤ 9223372036854775807) (hm : 0 ≤ m ∧ m ≤ 18446744073709551615)
    (ha : -9223372036854775808 ≤ a ∧ a ≤ 9223372036854775807) (hb : -9223372036854775808 ≤ b ∧ b ≤ 9223372036854775807) :
    Calls Try.prog 8 #[.int .i64 n, .int .u64 m, .agg #[.int .i64 a, .int .i64 b]] w fun e w' => e = .returned (.bool true) ∧ Below w.heap.size w w' := by
  obtain ⟨hn1, hn2⟩ := hn
  obtain ⟨hm1, hm2⟩ := hm
  have s1 := sgn_bd n hn1 hn2
  have s2 := uns_bd m hm1 hm2
  have n22 := fun W => signed_any n W hn1 hn2
  have n23 := fun W => refSigned_any n W hn1 hn2
  have m24 := fun W => unsigned_any m W hm1 hm2
  have m25 := fun W => refUnsigned_any m W hm1 hm2
  have n24 := fun W => unsigned_any (sgn n) W s1.1 s1.2
  rw [uns_sgn] at n24
  have m22 := fun W => signed_any (uns m) W s2.1 s2.2
  rw [sgn_uns m hm1] at m22
  clear s1 s2
  go_enter Try.func8, Try.ntmps8
  go_wp2_with (first
    | (go_at_call 13; refine (sane_any _).mono ?_; rintro e w1 ⟨rfl, hb1⟩; have c0 := hb1.cell (p := ⟨w.heap.size, 0, none⟩) (by simp); have c1 := hb1.cell (p := ⟨w.heap.size, 1, none⟩) (by simp))
    | (go_at_call 17; refine (near_any a b _ ha hb).mono ?_; rintro e w' ⟨x, hx, rfl, rfl⟩; have k1 := wrap64_bd (x : Int); have k2 := wrap64_bd (-(wrap64 (x : Int))); have k3 := sgn_bd (wrap64 (-(wrap64 (x : Int)))) k2.1 k2.2; have x22 := (fun W => signed_any _ W k1.1 k1.2); have x23 := (fun W => refSigned_any _ W k1.1 k1.2); have x24 := (fun W => unsigned_any (x : Int) W (by omega) (by omega)); have x25 := (fun W => refUnsigned_any (x : Int) W (by omega) (by omega)); have y22 := (fun W => signed_any _ W k2.1 k2.2); have y24 := (fun W => unsigned_any _ W k3.1 k3.2); rw [uns_sgn] at y24; clear k1 k2 k3)
    | (go_at_call 22; ((with_reducible refine (n22 _).mono ?_); rintro e w' ⟨rfl, rfl⟩))
    | (go_at_call 22; ((with_reducible refine (m22 _).mono ?_); rintro e w' ⟨rfl, rfl⟩))
    | (go_at_call 22; ((with_reducible refine (x22 _).mono ?_); rintro e w' ⟨rfl, rfl⟩))
    | (go_at_call 22; ((with_reducible refine (y22 _).mono ?_); rintro e w' ⟨rfl, rfl⟩))
    | (go_at_call 23; ((with_reducible refine (n23 _).mono ?_); rintro e w' ⟨rfl, rfl⟩))
    | (go_at_call 23; ((with_reducible refine (x23 _).mono ?_); rintro e w' ⟨rfl, rfl⟩))
    | (go_at_call 24; ((with_reducible refine (m24 _).mono ?_); rintro e w' ⟨rfl, rfl⟩))
    | (go_at_call 24; ((with_reducible refine (n24 _).mono ?_); rintro e w' ⟨rfl, rfl⟩))
    | (go_at_call 24; ((with_reducible refine (x24 _).mono ?_); rintro e w' ⟨rfl, rfl⟩))
    | (go_at_call 24; ((with_reducible refine (y24 _).mono ?_); rintro e w' ⟨rfl, rfl⟩))
    | (go_at_call 25; ((with_reducible refine (m25 _).mono ?_); rintro e w' ⟨rfl, rfl⟩))
    | (go_at_call 25; ((with_reducible refine (x25 _).mono ?_); rintro e w' ⟨rfl, rfl⟩)))
  go_ret
  exact ⟨rfl, ((Below.refl _ w).alloc (Nat.le_refl _) _).trans (hb1.mono (by simp))⟩

theorem contract (H : Type) (enc : TypeId × Value → H) (W : World) (base : Nat) (args : Array Value) (ds gs : List (DataW H)) (before : List MemPlace)
    (hval : ∀ (j : Nat) t v, Try.f8.params[j]? = some t → args[j]? = some v → Value.okWide Try.prog W .any base t v)
    (hW : DataW.Whole enc Try.prog Try.f8.params.toList Rows.codecSignsSpec.vars false W args.toList ds gs before) :
    Calls Try.prog 8 args W fun e W' => ∃ v, e = .returned v ∧ Rows.codecSignsSpec.post enc Try.prog Try.f8 false true false false W args v W' := by
  have hW' := hW
  obtain ⟨p, q, hA0, hV, rfl, hfz, hnd⟩ := hW
  have hA : DataW.TrodAll enc Try.prog W 0 (fun _ => true) true Try.f8.params.toList args.toList ds p := hA0
  rw [Try.params8] at hA hval
  obtain ⟨v0, vs0, d0, ds0, p0, q0, e0, rfl, rfl, h0, r0⟩ := trodAll_cons hA
  obtain ⟨v1, vs1, d1, ds1, p1, q1, e1, rfl, rfl, h1, r1⟩ := trodAll_cons r0
  obtain ⟨v2, vs2, d2, ds2, p2, q2, e2, rfl, rfl, h2, r2⟩ := trodAll_cons r1
  obtain ⟨rfl, rfl, rfl⟩ := trodAll_nil r2
  obtain rfl : args = #[v0, v1, v2] := by cases args; simp_all
  obtain ⟨rfl, rfl⟩ := trodVars_none hV
  obtain ⟨n, rfl, _, _, wn⟩ := open_int Try.underlying3 (hval 0 3 v0 rfl rfl) h0
  obtain ⟨m, rfl, _, _, wm⟩ := open_int Try.underlying29 (hval 1 29 v1 rfl rfl) h1
  obtain ⟨a, b, rfl, ha, hb⟩ := open_pair (hval 2 30 v2 rfl rfl) h2
  have hn := bd_i64 wn
  have hm := bd_u64 wm
  refine (walk n m a b W hn hm ha hb).mono fun e W' ⟨he, hb⟩ => ⟨_, he, law_post rfl rfl ?_ rfl rfl rfl hW' hb⟩
  rw [Try.params8]
  intro t ht
  have ht' : t = 3 ∨ t = 29 ∨ t = 30 := by simpa using ht
  rcases ht' with rfl | rfl | rfl <;> exact ⟨by kernel_rfl, of_decide_eq_true (by kernel_rfl)⟩

set_option maxRecDepth 100000 in
theorem lifted (os : Os) (started : os.Started) (H : Type) (enc : TypeId × Value → H) :
    ReturnsInHanded {} Try.checked os 8 .any (Rows.codecSignsSpec.pre6 enc Try.prog Try.f8 Rows.codecSignsRow.domain false) (Rows.codecSignsSpec.post enc Try.prog Try.f8 false true false false) := by
  refine returnsInHanded_of_change (C := Try.checked) ownKnob_none started (by kernel_rfl) Try.func8
    (ChangeSpec.witness6 (enc := enc) (C := Try.checked) false ⟨#[], #[.int .i64 0, .int .u64 0, .agg #[.int .i64 0, .int .i64 0]], []⟩ 8 (by kernel_rfl) (by kernel_rfl) (by kernel_rfl) (by kernel_rfl)) ?_
  intro W base args ds gs before hval hW _ _
  exact contract H enc W base args ds gs before hval hW

theorem proved : Rows.CodecSignsSaid :=
  OpenClaim.holds_of_wide 8 Try.f8 rfl rfl rfl rfl rfl rfl rfl ⟨rfl, rfl, rfl, rfl, rfl⟩ rfl rfl rfl rfl rfl (by kernel_rfl) Try.func8 (by kernel_rfl)
    (of_decide_eq_true (by kernel_rfl)) (by unfold Func.isWrapper; first | (rw [if_pos (by decide +kernel)]; kernel_rfl) | (rw [if_neg (by decide +kernel)]; exact ⟨rfl, rfl⟩))
    (fun os started H enc _ => lifted os started H enc)

end signs
end Go.Proofs.Ytdbhmoadngclgaa
