/-
For every string, integer and byte, the law CodecReads returns true and leaves its arguments as they were: ReadNumber agrees with the reference on the strings that the law makes of them. No condition.
-/
import Derived.Test.YtdbhmoadngclgaaNumbers
namespace Go.Proofs.Ytdbhmoadngclgaa
open Go.ChangeShapes Go.WideShapes Go.ChangeAt Go.RowKit

theorem refRead_tuple (s : ByteArray) (w : World) (hs : s.size ≤ maxLen) (v n e : Nat) (h : Hid (rd s.data.toList = (v, n, e))) :
    Calls Try.prog 34 #[.string s] w fun en w' => en = .returned (.tuple #[.int .u64 (v : Int), .int .i64 (n : Int), .int .i64 (e : Int)]) ∧ Below w.heap.size w w' := by
  have := refRead_any s w hs
  rwa [h.out] at this

set_option maxHeartbeats 1000000 in
theorem reads_any (s : ByteArray) (w : World) (hs : s.size ≤ maxLen) :
    Calls Try.prog 21 #[.string s] w fun e w' => e = .returned (.bool true) ∧ Below w.heap.size w w' := by
  obtain ⟨v, n, er, H⟩ : ∃ v n er, Hid (rd s.data.toList = (v, n, er)) := ⟨_, _, _, Lib.hid rfl⟩
  go_enter Try.func21, Try.ntmps21
  go_wp2_with (first
    | (go_at_call 19; refine (read_tuple s _ hs v n er H).mono ?_; rintro e w' ⟨rfl, rfl⟩)
    | (go_at_call 34; refine (refRead_tuple s _ hs v n er H).mono ?_; rintro e w1 ⟨rfl, hb⟩))
  go_ret
  exact ⟨rfl, hb⟩

namespace reads

set_option maxRecDepth 100000 in
set_option maxHeartbeats 1000000 in
theorem walk (s : ByteArray) (many : Int) (last : UInt8) (w : World) (hs : s.size ≤ maxLen) (hm : -9223372036854775808 ≤ many ∧ many ≤ 9223372036854775807) :
    Calls Try.prog 6 #[.string s, .int .i64 many, .int .u8 (last.toNat : Int)] w fun e w' => e = .returned (.bool true) ∧ Below w.heap.size w w' := by
  have hs' := hs
  unfold maxLen at hs'
  obtain ⟨m, HM⟩ : ∃ m : Nat, Hid (many % 12 = (m : Int)) := ⟨(many % 12).toNat, Lib.hid (by have := Int.emod_nonneg many (show (12 : Int) ≠ 0 by omega); omega)⟩
  have hm12 : m < 12 := by have := HM.out; omega
  have hmod := fun W => mod_any many 12 W hm.1 hm.2 (by omega) (by omega)
  rw [HM.out] at hmod
  have hbs := fun (W : World) (b c : Nat) (hc : W.cell? ⟨b, 0, none⟩ = some (.int .u8 (last.toNat : Int))) => byte_string W b c last hc
  have hl := last.toNat_lt
  have hls : (str [last]).size ≤ 1 := Nat.le_refl _
  have hnine : (ByteArray.mk #[255, 255, 255, 255, 255, 255, 255, 255, 255]).size ≤ 9 := Nat.le_refl _
  by_cases h14 : s.size ≤ 14
  all_goals
    go_enter Try.func6, Try.ntmps6
    go_wp2_with (first
      | (go_at_call 13; refine (sane_any _).mono ?_; rintro e w1 ⟨rfl, hB⟩))
    go_loop [9, 10] (fun v i => ∃ (k : Nat) (t : ByteArray), k ≤ m ∧ i = .int .i64 k ∧ v = .string t ∧ t.size = k) (fun _ i => m - (intOf i).toNat)
    case atStart => exact ⟨0, _, by omega, rfl, rfl, rfl⟩
    case round =>
      obtain ⟨k, t, hk, rfl, rfl, htk⟩ := hrel
      have HTK := Lib.hid htk
      have htk2 : t.size ≤ 12 := by omega
      clear htk
      by_cases hlt : k < m
      · go_wp2_with (first
          | (go_at_call 16; ((with_reducible refine (hmod _).mono ?_); rintro e w' ⟨rfl, rfl⟩)))
        go_roundw
        case rel => exact ⟨k + 1, _, by omega, by go_num, rfl, by rw [ByteArray.size_append, HTK.out]; rfl⟩
        case measure => simp [intOf]; omega
      · go_wp2_with (first
          | (go_at_call 16; ((with_reducible refine (hmod _).mono ?_); rintro e w' ⟨rfl, rfl⟩))
          | (go_at_call 21; refine (reads_any _ _ (by unfold maxLen; first | omega | (simp; omega))).mono ?_; rintro e w3 ⟨rfl, hb3⟩; have hB : Below w.heap.size w w3 := (by first | exact hB.trans (hb3.mono hB.size) | exact (hB.alloc hB.size _).trans (hb3.mono (by have := hB.size; simp; omega)))))
        go_ret
        exact ⟨rfl, hB⟩

theorem contract (H : Type) (enc : TypeId × Value → H) (W : World) (base : Nat) (args : Array Value) (ds gs : List (DataW H)) (before : List MemPlace)
    (hval : ∀ (j : Nat) t v, Try.f6.params[j]? = some t → args[j]? = some v → Value.okWide Try.prog W .any base t v)
    (hW : DataW.Whole enc Try.prog Try.f6.params.toList Rows.codecReadsSpec.vars false W args.toList ds gs before) :
    Calls Try.prog 6 args W fun e W' => ∃ v, e = .returned v ∧ Rows.codecReadsSpec.post enc Try.prog Try.f6 false true false false W args v W' := by
  have hW' := hW
  obtain ⟨p, q, hA0, hV, rfl, hfz, hnd⟩ := hW
  have hA : DataW.TrodAll enc Try.prog W 0 (fun _ => true) true Try.f6.params.toList args.toList ds p := hA0
  rw [Try.params6] at hA hval
  obtain ⟨v0, vs0, d0, ds0, p0, q0, e0, rfl, rfl, h0, r0⟩ := trodAll_cons hA
  obtain ⟨v1, vs1, d1, ds1, p1, q1, e1, rfl, rfl, h1, r1⟩ := trodAll_cons r0
  obtain ⟨v2, vs2, d2, ds2, p2, q2, e2, rfl, rfl, h2, r2⟩ := trodAll_cons r1
  obtain ⟨rfl, rfl, rfl⟩ := trodAll_nil r2
  obtain rfl : args = #[v0, v1, v2] := by cases args; simp_all
  obtain ⟨rfl, rfl⟩ := trodVars_none hV
  obtain ⟨s, rfl, _, _, hs⟩ := Go.ChangeMaps.open_string Try.underlying9 (hval 0 9 v0 rfl rfl) h0
  obtain ⟨m, rfl, _, _, wm⟩ := open_int Try.underlying3 (hval 1 3 v1 rfl rfl) h1
  obtain ⟨b, rfl, _, _, wb⟩ := open_int Try.underlying5 (hval 2 5 v2 rfl rfl) h2
  have hb := bd_u8 wb
  obtain ⟨x, rfl⟩ : ∃ x : UInt8, b = (x.toNat : Int) := ⟨UInt8.ofNat b.toNat, by simp; omega⟩
  refine (walk s m x W hs (bd_i64 wm)).mono fun e W' ⟨he, hb⟩ => ⟨_, he, law_post rfl rfl ?_ rfl rfl rfl hW' hb⟩
  rw [Try.params6]
  intro t ht
  have ht' : t = 9 ∨ t = 3 ∨ t = 5 := by simpa using ht
  rcases ht' with rfl | rfl | rfl <;> exact ⟨by kernel_rfl, of_decide_eq_true (by kernel_rfl)⟩

set_option maxRecDepth 100000 in
theorem lifted (os : Os) (started : os.Started) (H : Type) (enc : TypeId × Value → H) :
    ReturnsInHanded {} Try.checked os 6 .any (Rows.codecReadsSpec.pre6 enc Try.prog Try.f6 Rows.codecReadsRow.domain false) (Rows.codecReadsSpec.post enc Try.prog Try.f6 false true false false) := by
  refine returnsInHanded_of_change (C := Try.checked) ownKnob_none started (by kernel_rfl) Try.func6
    (ChangeSpec.witness6 (enc := enc) (C := Try.checked) false ⟨#[], #[.string ⟨#[]⟩, .int .i64 0, .int .u8 0], []⟩ 8 (by kernel_rfl) (by kernel_rfl) (by kernel_rfl) (by kernel_rfl)) ?_
  intro W base args ds gs before hval hW _ _
  exact contract H enc W base args ds gs before hval hW

theorem proved : Rows.CodecReadsSaid :=
  OpenClaim.holds_of_wide 6 Try.f6 rfl rfl rfl rfl rfl rfl rfl ⟨rfl, rfl, rfl, rfl, rfl⟩ rfl rfl rfl rfl rfl (by kernel_rfl) Try.func6 (by kernel_rfl)
    (of_decide_eq_true (by kernel_rfl)) (by unfold Func.isWrapper; first | (rw [if_pos (by decide +kernel)]; kernel_rfl) | (rw [if_neg (by decide +kernel)]; exact ⟨rfl, rfl⟩))
    (fun os started H enc _ => lifted os started H enc)

end reads
end Go.Proofs.Ytdbhmoadngclgaa
