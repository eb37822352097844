/- HistoryNil: a nil history has no commits. For all numbers. -/
import Derived.Test.YtiikbekboapphaaSaneT
namespace Go.Proofs.Ytiikbekboapphaa.lnil
open Go.ChangeShapes Go.WideShapes Go.ChangeAt Go.RowKit

set_option maxRecDepth 100000 in
set_option maxHeartbeats 8000000 in
theorem walk (a b : Int) (w : World) : Calls Try.prog 13 #[.int .i64 a, .int .i64 b] w (BoolB w true) := by
  have S := Lib.hid (sane_any w)
  have N0 := Lib.hid (fun W => many_nil W)
  have N1 := Lib.hid (fun W => anc_nil W a b)
  have N2 := Lib.hid (fun W => base_nil W a b)
  have N3 := Lib.hid (fun W => log_nil W a)
  have N4 := Lib.hid (fun W => line_nil W a b)
  have N5 := Lib.hid (fun W => get_nil W a)
  unfold GetOut at N5
  have N6 := Lib.hid (fun (W W1 : World) (h : Full W1 W.heap.size 3 [.int .i64 1]) => (show Calls Try.prog 16 #[.pointer none, .agg #[.slice (some ⟨W.heap.size, 0, none⟩) 1 1, .int .i64 0, .string ⟨#[]⟩, .slice none 0 0, .bool false]] W1 fun e w' => e = .returned (.tuple #[.int .i64 0, .int .i64 1]) ∧ Below W1.heap.size W1 w' from
    add_nil (ps := [1]) (h.row 1 1 rfl 1 (Nat.le_refl _)) (Nat.le_refl _) (by omega)))
  unfold BoolB at S ⊢
  go_enter Try.func13, Try.ntmps13
  go_wp2_with (first
    | (go_at_call 14; ((with_reducible refine S.out.mono ?_); rintro e w1 ⟨rfl, hb1⟩))
    | (go_at_call 16; ((with_reducible refine (N6.out w1 _ (Full.new w1 3 [.int .i64 1])).mono ?_); rintro e w2 ⟨rfl, hb2⟩; (have HB2 := Below.then_ hb1 (Below.then_ ((Below.refl _ w1).alloc (Nat.le_refl _) (.cells #[.int .i64 1] 3)) hb2))))
    | (go_at_call 20; ((with_reducible refine (N5.out w2).mono ?_); rintro e w3 ⟨A5, c5, A6, c6, rfl, _, _, _, hb3⟩; (have HB3 := Below.then_ HB2 hb3)))
    | (go_at_call 28; ((with_reducible refine (N4.out _).mono ?_); rintro e w4 ⟨rfl, rfl⟩))
    | (go_at_call 23; ((with_reducible refine (N0.out _).mono ?_); rintro e w4 ⟨rfl, rfl⟩))
    | (go_at_call 24; ((with_reducible refine (N1.out _).mono ?_); rintro e w4 ⟨rfl, rfl⟩))
    | (go_at_call 26; ((with_reducible refine (N2.out _).mono ?_); rintro e w4 ⟨rfl, rfl⟩))
    | (go_at_call 31; ((with_reducible refine (N3.out _).mono ?_); rintro e w4 ⟨rfl, rfl⟩))
    | (fail "arm"))
  go_ret
  exact ⟨rfl, HB3.alloc HB3.size _⟩

theorem contract (H : Type) (enc : TypeId × Value → H) (W : World) (base : Nat) (args : Array Value) (ds gs : List (DataW H)) (before : List MemPlace)
    (hval : ∀ (j : Nat) t v, Try.f13.params[j]? = some t → args[j]? = some v → Value.okWide Try.prog W .any base t v)
    (hW : DataW.Whole enc Try.prog Try.f13.params.toList Rows.historyNilSpec.vars false W args.toList ds gs before) :
    Calls Try.prog 13 args W fun e W' => ∃ v, e = .returned v ∧ Rows.historyNilSpec.post enc Try.prog Try.f13 false true false false W args v W' := by
  have hW' := hW
  obtain ⟨p, q, hA0, hV, rfl, hfz, hnd⟩ := hW
  have hA : DataW.TrodAll enc Try.prog W 0 (fun _ => true) true Try.f13.params.toList args.toList ds p := hA0
  rw [Try.params13] at hA hval
  obtain ⟨v0, vs0, d0, ds0, p0, q0, e0, rfl, rfl, h0, r0⟩ := trodAll_cons hA
  obtain ⟨v1, vs1, d1, ds1, p1, q1, e1, rfl, rfl, h1, r1⟩ := trodAll_cons r0
  obtain ⟨rfl, rfl, rfl⟩ := trodAll_nil r1
  obtain rfl : args = #[v0, v1] := by cases args; simp_all
  obtain ⟨rfl, rfl⟩ := trodVars_none hV
  obtain ⟨a, rfl, _, _, ha⟩ := open_int Try.underlying3 (hval 0 3 v0 rfl rfl) h0
  obtain ⟨b, rfl, _, _, hb⟩ := open_int Try.underlying3 (hval 1 3 v1 rfl rfl) h1
  refine (walk a b W).mono fun e W' ⟨he, hb⟩ => ⟨_, he, law_post rfl rfl ?_ rfl rfl rfl hW' hb⟩
  rw [Try.params13]
  intro t ht
  have ht' : t = 3 ∨ t = 3 := by simpa using ht
  rcases ht' with rfl | rfl <;> exact ⟨by kernel_rfl, of_decide_eq_true (by kernel_rfl)⟩

set_option maxRecDepth 100000 in
theorem lifted (os : Os) (started : os.Started) (H : Type) (enc : TypeId × Value → H) :
    ReturnsInHanded {} Try.checked os 13 .any (Rows.historyNilSpec.pre6 enc Try.prog Try.f13 Rows.historyNilRow.domain false) (Rows.historyNilSpec.post enc Try.prog Try.f13 false true false false) := by
  refine returnsInHanded_of_change (C := Try.checked) ownKnob_none started (by kernel_rfl) Try.func13
    (ChangeSpec.witness6 (enc := enc) (C := Try.checked) false ⟨#[], #[.int .i64 0, .int .i64 0], []⟩ 8 (by kernel_rfl) (by kernel_rfl) (by kernel_rfl) (by kernel_rfl)) ?_
  intro W base args ds gs before hval hW _ _
  exact contract H enc W base args ds gs before hval hW

theorem proved : Rows.HistoryNilSaid :=
  OpenClaim.holds_of_wide 13 Try.f13 rfl rfl rfl rfl rfl rfl rfl ⟨rfl, rfl, rfl, rfl, rfl⟩ rfl rfl rfl rfl rfl (by kernel_rfl) Try.func13 (by kernel_rfl)
    (of_decide_eq_true (by kernel_rfl)) (by unfold Func.isWrapper; first | (rw [if_pos (by decide +kernel)]; kernel_rfl) | (rw [if_neg (by decide +kernel)]; exact ⟨rfl, rfl⟩))
    (fun os started H enc _ => lifted os started H enc)

end Go.Proofs.Ytiikbekboapphaa.lnil
