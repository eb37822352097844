/-
For every number, pair of integers and string, the law CodecNumbers returns true and leaves its arguments as they were: Number agrees with the reference, and ReadNumber reads it whatever follows. No condition.
-/
import Derived.Test.YtdbhmoadngclgaaSigns
namespace Go.Proofs.Ytdbhmoadngclgaa
open Go.ChangeShapes Go.WideShapes Go.ChangeAt Go.RowKit

theorem append_data (a b : ByteArray) : (a ++ b).data.toList = a.data.toList ++ b.data.toList := by rw [ByteArray.data_append]; simp
theorem pair_cell (w : World) (n x : Nat) (L : Nat) (hL : L = w.heap.size) {k : Nat} (hk : k < 2) : ∃ v : Nat, (v = n ∨ v = x) ∧ (w.alloc (.cells #[.int .u64 (n : Int), .int .u64 (x : Int)] 32)).cell? ⟨L, k, none⟩ = some (.int .u64 (v : Int)) := by
  subst hL
  match k, hk with
  | 0, _ => exact ⟨n, .inl rfl, World.cell?_alloc_mark w #[.int .u64 (n : Int), .int .u64 (x : Int)] 32 (0, 0) 0⟩
  | 1, _ => exact ⟨x, .inr rfl, World.cell?_alloc_mark w #[.int .u64 (n : Int), .int .u64 (x : Int)] 32 (0, 0) 1⟩

theorem read_back (v : Nat) (hv : v < 18446744073709551616) (t : ByteArray) (w : World) (ht : t.size ≤ 1048576) :
    Calls Try.prog 19 #[.string (str (numL v) ++ t)] w fun e w' => e = .returned (.tuple #[.int .u64 (v : Int), .int .i64 ((str (numL v)).size : Int), .int .i64 0]) ∧ w = w' := by
  have h10 := numL_ten hv
  refine read_tuple _ w ?_ v (str (numL v)).size 0 (Lib.hid ?_)
  · unfold maxLen
    rw [ByteArray.size_append, str_size]; omega
  · rw [append_data]
    exact rd_numL hv _

namespace numbers

set_option maxRecDepth 100000 in
set_option maxHeartbeats 1000000 in
theorem walk (n : Nat) (a b : Int) (tail : ByteArray) (w : World) (hn : n < 18446744073709551616)
    (ha : -9223372036854775808 ≤ a ∧ a ≤ 9223372036854775807) (hb : -9223372036854775808 ≤ b ∧ b ≤ 9223372036854775807) (ht : tail.size ≤ maxLen) :
    Calls Try.prog 5 #[.int .u64 (n : Int), .agg #[.int .i64 a, .int .i64 b], .string tail] w fun e w' => e = .returned (.bool true) ∧ Below w.heap.size w w' := by
  unfold maxLen at ht
  obtain ⟨t20, HT⟩ : ∃ t20, Hid (t20 = tail.extract 0 (min tail.size 20)) := ⟨_, Lib.hid rfl⟩
  by_cases h20 : tail.size ≤ 20
  all_goals
    go_enter Try.func5, Try.ntmps5
    go_wp2_with (first
      | (go_at_call 13; refine (sane_any _).mono ?_; rintro e w1 ⟨rfl, hb1⟩; have c0 := hb1.cell (p := ⟨w.heap.size, 0, none⟩) (by simp); have c1 := hb1.cell (p := ⟨w.heap.size, 1, none⟩) (by simp))
      | (go_at_call 17; refine (near_any a b _ ha hb).mono ?_; rintro e w' ⟨x, hx, rfl, rfl⟩))
    have hcells := fun k (hk : k < 2) => pair_cell w1 n x w1.heap.size rfl (k := k) hk
    have hB0 : Below w.heap.size w (w1.alloc (.cells #[.int .u64 (n : Int), .int .u64 (x : Int)] 32)) :=
      (((Below.refl _ w).alloc (Nat.le_refl _) _).trans (hb1.mono (by simp))).alloc (by have := hb1.size; simp at this; omega) _
    obtain ⟨W2, hW2⟩ : ∃ W2, w1.alloc (.cells #[.int .u64 (n : Int), .int .u64 (x : Int)] 32) = W2 := ⟨_, rfl⟩
    have hL : w1.heap.size < W2.heap.size := by rw [← hW2]; simp
    rw [hW2] at hcells hB0
    rw [hW2]
    clear hW2 c0 c1
    obtain ⟨L, HL⟩ : ∃ L, Hid (w1.heap.size = L) := ⟨_, Lib.hid rfl⟩
    rw [HL.out] at hcells hL
    rw [HL.out]
    have HC := Lib.hid hcells
    clear hcells
    go_loopw [9] (fun i wr => ∃ k : Nat, k ≤ 2 ∧ i = .int .i64 k ∧ Below W2.heap.size W2 wr) (fun i _ => 2 - (intOf i).toNat)
    case atStart => exact ⟨0, by omega, rfl, Below.refl _ _⟩
    case round =>
      obtain ⟨k, hk, rfl, hB⟩ := hrel
      by_cases hlt : k < 2
      · obtain ⟨v, hv, hc0⟩ := HC.out k hlt
        have hv64 : v < 18446744073709551616 := by omega
        have hc := (hB.cell (p := ⟨L, k, none⟩) hL).trans hc0
        clear hc0 hv
        have hsz : (str (numL v)).size ≤ 10 := by rw [str_size]; exact numL_ten hv64
        go_wp2_with (first
          | (go_at_call 18; refine (number_any v hv64 _).mono ?_; rintro e w3 ⟨rfl, hb3⟩; have hB3 := hB.trans (hb3.mono hB.size); have hc3 := (hb3.cell (p := ⟨L, k, none⟩) (Nat.lt_of_lt_of_le hL hB.size)).trans hc)
          | (go_at_call 19; refine (read_back v hv64 _ _ (by first | (simp; omega) | omega)).mono ?_; rintro e w' ⟨rfl, rfl⟩)
          | (go_at_call 20; refine (refNumber v hv64 _).mono ?_; rintro e w4 ⟨rfl, hb4⟩; have hB4 := hB3.trans (hb4.mono hB3.size); have hc4 := (hb4.cell (p := ⟨L, k, none⟩) (Nat.lt_of_lt_of_le hL hB3.size)).trans hc3))
        go_roundw
        case rel => exact ⟨k + 1, by omega, by go_num, hB4⟩
        case measure => simp [intOf]; omega
      · obtain rfl : k = 2 := by omega
        go_wp2
        go_ret
        exact ⟨rfl, hB0.trans (hB.mono hB0.size)⟩

theorem contract (H : Type) (enc : TypeId × Value → H) (W : World) (base : Nat) (args : Array Value) (ds gs : List (DataW H)) (before : List MemPlace)
    (hval : ∀ (j : Nat) t v, Try.f5.params[j]? = some t → args[j]? = some v → Value.okWide Try.prog W .any base t v)
    (hW : DataW.Whole enc Try.prog Try.f5.params.toList Rows.codecNumbersSpec.vars false W args.toList ds gs before) :
    Calls Try.prog 5 args W fun e W' => ∃ v, e = .returned v ∧ Rows.codecNumbersSpec.post enc Try.prog Try.f5 false true false false W args v W' := by
  have hW' := hW
  obtain ⟨p, q, hA0, hV, rfl, hfz, hnd⟩ := hW
  have hA : DataW.TrodAll enc Try.prog W 0 (fun _ => true) true Try.f5.params.toList args.toList ds p := hA0
  rw [Try.params5] at hA hval
  obtain ⟨v0, vs0, d0, ds0, p0, q0, e0, rfl, rfl, h0, r0⟩ := trodAll_cons hA
  obtain ⟨v1, vs1, d1, ds1, p1, q1, e1, rfl, rfl, h1, r1⟩ := trodAll_cons r0
  obtain ⟨v2, vs2, d2, ds2, p2, q2, e2, rfl, rfl, h2, r2⟩ := trodAll_cons r1
  obtain ⟨rfl, rfl, rfl⟩ := trodAll_nil r2
  obtain rfl : args = #[v0, v1, v2] := by cases args; simp_all
  obtain ⟨rfl, rfl⟩ := trodVars_none hV
  obtain ⟨n, rfl, _, _, wn⟩ := open_int Try.underlying29 (hval 0 29 v0 rfl rfl) h0
  obtain ⟨a, b, rfl, ha, hb⟩ := open_pair (hval 1 30 v1 rfl rfl) h1
  obtain ⟨s, rfl, _, _, hs⟩ := Go.ChangeMaps.open_string Try.underlying9 (hval 2 9 v2 rfl rfl) h2
  have hn := bd_u64 wn
  obtain ⟨m, rfl⟩ : ∃ m : Nat, n = (m : Int) := ⟨n.toNat, by omega⟩
  refine (walk m a b s W (by omega) ha hb hs).mono fun e W' ⟨he, hb⟩ => ⟨_, he, law_post rfl rfl ?_ rfl rfl rfl hW' hb⟩
  rw [Try.params5]
  intro t ht
  have ht' : t = 29 ∨ t = 30 ∨ t = 9 := by simpa using ht
  rcases ht' with rfl | rfl | rfl <;> exact ⟨by kernel_rfl, of_decide_eq_true (by kernel_rfl)⟩

set_option maxRecDepth 100000 in
theorem lifted (os : Os) (started : os.Started) (H : Type) (enc : TypeId × Value → H) :
    ReturnsInHanded {} Try.checked os 5 .any (Rows.codecNumbersSpec.pre6 enc Try.prog Try.f5 Rows.codecNumbersRow.domain false) (Rows.codecNumbersSpec.post enc Try.prog Try.f5 false true false false) := by
  refine returnsInHanded_of_change (C := Try.checked) ownKnob_none started (by kernel_rfl) Try.func5
    (ChangeSpec.witness6 (enc := enc) (C := Try.checked) false ⟨#[], #[.int .u64 0, .agg #[.int .i64 0, .int .i64 0], .string ⟨#[]⟩], []⟩ 8 (by kernel_rfl) (by kernel_rfl) (by kernel_rfl) (by kernel_rfl)) ?_
  intro W base args ds gs before hval hW _ _
  exact contract H enc W base args ds gs before hval hW

theorem proved : Rows.CodecNumbersSaid :=
  OpenClaim.holds_of_wide 5 Try.f5 rfl rfl rfl rfl rfl rfl rfl ⟨rfl, rfl, rfl, rfl, rfl⟩ rfl rfl rfl rfl rfl (by kernel_rfl) Try.func5 (by kernel_rfl)
    (of_decide_eq_true (by kernel_rfl)) (by unfold Func.isWrapper; first | (rw [if_pos (by decide +kernel)]; kernel_rfl) | (rw [if_neg (by decide +kernel)]; exact ⟨rfl, rfl⟩))
    (fun os started H enc _ => lifted os started H enc)

end numbers
end Go.Proofs.Ytdbhmoadngclgaa
