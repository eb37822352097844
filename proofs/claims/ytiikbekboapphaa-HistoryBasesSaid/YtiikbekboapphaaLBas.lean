/- HistoryBases: Base agrees with the reference implementation. For all arguments. -/
import Derived.Test.YtiikbekboapphaaOpenL
namespace Go.Proofs.Ytiikbekboapphaa.lbas
open Go.ChangeShapes Go.WideShapes Go.ChangeAt Go.RowKit

set_option maxRecDepth 100000 in
set_option maxHeartbeats 8000000 in
theorem walk (A : Option Addr) (l : List (Int × Int)) (c : Nat) (a b : Int) (w : World) (hA : Prs w w.heap.size A c l) (hl : l.length ≤ maxLen) (ha : (Lit.int .i64 a).wf = true) (hb : (Lit.int .i64 b).wf = true) :
    Calls Try.prog 6 #[.slice A l.length c, .int .i64 a, .int .i64 b] w (BoolB w true) := by
  have S := Lib.hid (sane_any w)
  have MD := Lib.hid (fun (W : World) (h : Below w.heap.size w W) => made_any W A l c ⟨(Row.below hA.1 h (Nat.le_refl _)).more h.size, hA.2⟩ hl)
  have NA := Lib.hid (fun (W : World) (n : Nat) (hn : n ≤ 1000) => number_any W n hn a ha)
  have NB := Lib.hid (fun (W : World) (n : Nat) (hn : n ≤ 1000) => number_any W n hn b hb)
  unfold BoolB at S ⊢
  unfold MadeOut at MD
  obtain ⟨m, hm⟩ : ∃ m, l.length = m := ⟨_, rfl⟩
  rw [hm] at MD ⊢
  clear hA hl ha hb hm
  go_enter Try.func6, Try.ntmps6
  go_upto_region 4 with (first
    | (go_at_call 14; ((with_reducible refine S.out.mono ?_); rintro e w1 ⟨rfl, hb1⟩))
    | (go_at_call 15; ((with_reducible refine (MD.out _ hb1).mono ?_); rintro e w2 ⟨p, q, cs, rfl, hcs, hT⟩))
    | (go_at_call 19; ((with_reducible refine hT.rmany_.mono ?_); rintro e v ⟨rfl, rfl⟩))
    | (go_at_call 18; ((with_reducible refine (NA.out _ cs.length (by omega)).mono ?_); rintro e v ⟨rfl, rfl⟩))
    | (go_at_call 18; ((with_reducible refine (NB.out _ cs.length (by omega)).mono ?_); rintro e v ⟨rfl, rfl⟩))
    | (fail "arm"))
  obtain ⟨X, hX⟩ : ∃ X, numP cs.length a = X := ⟨_, rfl⟩
  obtain ⟨Y, hY⟩ : ∃ Y, numP cs.length b = Y := ⟨_, rfl⟩
  rw [hX, hY]
  have HT := Lib.hid hT
  have C26 := Lib.hid (fun (W : World) (h : Two w1 W p q cs) (x y : Int) => h.base_ (by omega) x y)
  have C27 := Lib.hid (fun (W : World) (h : Two w1 W p q cs) (x y : Int) => h.rbase_ (by omega) x y)
  have C25 := Lib.hid (fun (W : World) (h : Two w1 W p q cs) (x y : Int) => h.ranc_ (by omega) x y)
  obtain ⟨R, hR⟩ : ∃ R, baseP cs X Y = R := ⟨_, rfl⟩
  obtain ⟨v1, hv1⟩ : ∃ v1, anc cs X Y = v1 := ⟨_, rfl⟩
  have hR2 : baseP cs Y X = R := by rw [baseP_comm]; exact hR
  have D1 := Lib.hid (fun (W : World) (h : Two w1 W p q cs) => (show Calls Try.prog 26 #[.pointer (some ⟨p, 0, none⟩), .int .i64 X, .int .i64 Y] W fun e w' => e = .returned (.int .i64 (R : Int)) ∧ Below W.heap.size W w' from hR ▸ C26.out W h X Y))
  have D2 := Lib.hid (fun (W : World) (h : Two w1 W p q cs) => (show Calls Try.prog 26 #[.pointer (some ⟨p, 0, none⟩), .int .i64 Y, .int .i64 X] W fun e w' => e = .returned (.int .i64 (R : Int)) ∧ Below W.heap.size W w' from hR2 ▸ C26.out W h Y X))
  have D3 := Lib.hid (fun (W : World) (h : Two w1 W p q cs) => (show Calls Try.prog 27 #[.pointer (some ⟨q, 0, none⟩), .int .i64 X, .int .i64 Y] W fun e w' => e = .returned (.int .i64 (R : Int)) ∧ W = w' from hR ▸ C27.out W h X Y))
  have D4 := Lib.hid (fun (W : World) (h : Two w1 W p q cs) => (show Calls Try.prog 25 #[.pointer (some ⟨q, 0, none⟩), .int .i64 X, .int .i64 Y] W fun e w' => e = .returned (.bool v1) ∧ W = w' from hv1 ▸ C25.out W h X Y))
  have HBA := Lib.hid (show 0 < X → ((R : Int) == X) = v1 from fun h => by
    have := baseP_anc hT.good.1 X Y h
    rw [hR, hv1] at this
    rw [← this, Bool.eq_iff_iff, beq_iff_eq, decide_eq_true_iff])
  have b1 : (v1 == v1) = true := by simp
  have b2 : ((R : Int) == (R : Int)) = true := by simp
  have HB1 := Lib.hid hb1
  clear hX hY hT hR hR2 hv1 hb1
  by_cases h1 : 0 < X
  · have e1 := HBA.out h1
    cases v1 with
    | true =>
      go_wp2_with (first
        | (go_at_call 26; ((with_reducible refine (D1.out _ HT.out).mono ?_); rintro e x1 ⟨rfl, g1⟩; (have T1 := HT.out.on g1)))
        | (go_at_call 27; ((with_reducible refine (D3.out _ T1).mono ?_); rintro e x2 ⟨rfl, rfl⟩))
        | (go_at_call 26; ((with_reducible refine (D2.out _ T1).mono ?_); rintro e x3 ⟨rfl, g3⟩; (have T3 := T1.on g3)))
        | (go_at_call 27; ((with_reducible refine (D3.out _ T3).mono ?_); rintro e x4 ⟨rfl, rfl⟩))
        | (go_at_call 26; ((with_reducible refine (D1.out _ T3).mono ?_); rintro e x5 ⟨rfl, g5⟩; (have T5 := T3.on g5)))
        | (go_at_call 25; ((with_reducible refine (D4.out _ T5).mono ?_); rintro e x6 ⟨rfl, rfl⟩))
        | (fail "arm"))
      go_ret
      refine ⟨ret_bool (by simp [e1, h1]), Below.then_ HB1.out T5.below⟩
    | false =>
      go_wp2_with (first
        | (go_at_call 26; ((with_reducible refine (D1.out _ HT.out).mono ?_); rintro e x1 ⟨rfl, g1⟩; (have T1 := HT.out.on g1)))
        | (go_at_call 27; ((with_reducible refine (D3.out _ T1).mono ?_); rintro e x2 ⟨rfl, rfl⟩))
        | (go_at_call 26; ((with_reducible refine (D2.out _ T1).mono ?_); rintro e x3 ⟨rfl, g3⟩; (have T3 := T1.on g3)))
        | (go_at_call 27; ((with_reducible refine (D3.out _ T3).mono ?_); rintro e x4 ⟨rfl, rfl⟩))
        | (go_at_call 26; ((with_reducible refine (D1.out _ T3).mono ?_); rintro e x5 ⟨rfl, g5⟩; (have T5 := T3.on g5)))
        | (go_at_call 25; ((with_reducible refine (D4.out _ T5).mono ?_); rintro e x6 ⟨rfl, rfl⟩))
        | (fail "arm"))
      go_ret
      refine ⟨ret_bool (by simp [e1, h1]), Below.then_ HB1.out T5.below⟩
  · have h1' : X ≤ 0 := by omega
    cases e2 : ((R : Int) == X) with
    | true =>
      cases v1 with
      | true =>
        go_wp2_with (first
          | (go_at_call 26; ((with_reducible refine (D1.out _ HT.out).mono ?_); rintro e x1 ⟨rfl, g1⟩; (have T1 := HT.out.on g1)))
          | (go_at_call 27; ((with_reducible refine (D3.out _ T1).mono ?_); rintro e x2 ⟨rfl, rfl⟩))
          | (go_at_call 26; ((with_reducible refine (D2.out _ T1).mono ?_); rintro e x3 ⟨rfl, g3⟩; (have T3 := T1.on g3)))
          | (go_at_call 27; ((with_reducible refine (D3.out _ T3).mono ?_); rintro e x4 ⟨rfl, rfl⟩))
          | (go_at_call 26; ((with_reducible refine (D1.out _ T3).mono ?_); rintro e x5 ⟨rfl, g5⟩; (have T5 := T3.on g5)))
          | (go_at_call 25; ((with_reducible refine (D4.out _ T5).mono ?_); rintro e x6 ⟨rfl, rfl⟩))
          | (fail "arm"))
        go_ret
        first | exact ⟨rfl, Below.then_ HB1.out T5.below⟩ | exact ⟨ret_bool (by simp [h1]), Below.then_ HB1.out T5.below⟩ | exact ⟨ret_bool (by simp [e2, h1]), Below.then_ HB1.out T5.below⟩
      | false =>
        go_wp2_with (first
          | (go_at_call 26; ((with_reducible refine (D1.out _ HT.out).mono ?_); rintro e x1 ⟨rfl, g1⟩; (have T1 := HT.out.on g1)))
          | (go_at_call 27; ((with_reducible refine (D3.out _ T1).mono ?_); rintro e x2 ⟨rfl, rfl⟩))
          | (go_at_call 26; ((with_reducible refine (D2.out _ T1).mono ?_); rintro e x3 ⟨rfl, g3⟩; (have T3 := T1.on g3)))
          | (go_at_call 27; ((with_reducible refine (D3.out _ T3).mono ?_); rintro e x4 ⟨rfl, rfl⟩))
          | (go_at_call 26; ((with_reducible refine (D1.out _ T3).mono ?_); rintro e x5 ⟨rfl, g5⟩; (have T5 := T3.on g5)))
          | (go_at_call 25; ((with_reducible refine (D4.out _ T5).mono ?_); rintro e x6 ⟨rfl, rfl⟩))
          | (fail "arm"))
        go_ret
        first | exact ⟨rfl, Below.then_ HB1.out T5.below⟩ | exact ⟨ret_bool (by simp [h1]), Below.then_ HB1.out T5.below⟩ | exact ⟨ret_bool (by simp [e2, h1]), Below.then_ HB1.out T5.below⟩
    | false =>
      cases v1 with
      | true =>
        go_wp2_with (first
          | (go_at_call 26; ((with_reducible refine (D1.out _ HT.out).mono ?_); rintro e x1 ⟨rfl, g1⟩; (have T1 := HT.out.on g1)))
          | (go_at_call 27; ((with_reducible refine (D3.out _ T1).mono ?_); rintro e x2 ⟨rfl, rfl⟩))
          | (go_at_call 26; ((with_reducible refine (D2.out _ T1).mono ?_); rintro e x3 ⟨rfl, g3⟩; (have T3 := T1.on g3)))
          | (go_at_call 27; ((with_reducible refine (D3.out _ T3).mono ?_); rintro e x4 ⟨rfl, rfl⟩))
          | (go_at_call 26; ((with_reducible refine (D1.out _ T3).mono ?_); rintro e x5 ⟨rfl, g5⟩; (have T5 := T3.on g5)))
          | (go_at_call 25; ((with_reducible refine (D4.out _ T5).mono ?_); rintro e x6 ⟨rfl, rfl⟩))
          | (fail "arm"))
        go_ret
        first | exact ⟨rfl, Below.then_ HB1.out T5.below⟩ | exact ⟨ret_bool (by simp [h1]), Below.then_ HB1.out T5.below⟩ | exact ⟨ret_bool (by simp [e2, h1]), Below.then_ HB1.out T5.below⟩
      | false =>
        go_wp2_with (first
          | (go_at_call 26; ((with_reducible refine (D1.out _ HT.out).mono ?_); rintro e x1 ⟨rfl, g1⟩; (have T1 := HT.out.on g1)))
          | (go_at_call 27; ((with_reducible refine (D3.out _ T1).mono ?_); rintro e x2 ⟨rfl, rfl⟩))
          | (go_at_call 26; ((with_reducible refine (D2.out _ T1).mono ?_); rintro e x3 ⟨rfl, g3⟩; (have T3 := T1.on g3)))
          | (go_at_call 27; ((with_reducible refine (D3.out _ T3).mono ?_); rintro e x4 ⟨rfl, rfl⟩))
          | (go_at_call 26; ((with_reducible refine (D1.out _ T3).mono ?_); rintro e x5 ⟨rfl, g5⟩; (have T5 := T3.on g5)))
          | (go_at_call 25; ((with_reducible refine (D4.out _ T5).mono ?_); rintro e x6 ⟨rfl, rfl⟩))
          | (fail "arm"))
        go_ret
        first | exact ⟨rfl, Below.then_ HB1.out T5.below⟩ | exact ⟨ret_bool (by simp [h1]), Below.then_ HB1.out T5.below⟩ | exact ⟨ret_bool (by simp [e2, h1]), Below.then_ HB1.out T5.below⟩

theorem contract (H : Type) (enc : TypeId × Value → H) (W : World) (base : Nat) (args : Array Value) (ds gs : List (DataW H)) (before : List MemPlace)
    (hval : ∀ (j : Nat) t v, Try.f6.params[j]? = some t → args[j]? = some v → Value.okWide Try.prog W .any base t v)
    (hW : DataW.Whole enc Try.prog Try.f6.params.toList Rows.historyBasesSpec.vars false W args.toList ds gs before) :
    Calls Try.prog 6 args W fun e W' => ∃ v, e = .returned v ∧ Rows.historyBasesSpec.post enc Try.prog Try.f6 false true false false W args v W' := by
  have hW' := hW
  obtain ⟨p, q, hA0, hV, rfl, hfz, hnd⟩ := hW
  have hA : DataW.TrodAll enc Try.prog W 0 (fun _ => true) true Try.f6.params.toList args.toList ds p := hA0
  rw [Try.params6] at hA hval
  obtain ⟨v0, vs0, d0, ds0, p0, q0, e0, rfl, rfl, h0, r0⟩ := trodAll_cons hA
  obtain ⟨v1, vs1, d1, ds1, p1, q1, e1, rfl, rfl, h1, r1⟩ := trodAll_cons r0
  obtain ⟨v2, vs2, d2, ds2, p2, q2, e2, rfl, rfl, h2, r2⟩ := trodAll_cons r1
  obtain ⟨rfl, rfl, rfl⟩ := trodAll_nil r2
  obtain rfl : args = #[v0, v1, v2] := by cases args; simp_all
  obtain ⟨rfl, rfl⟩ := trodVars_none hV
  obtain ⟨A, l, c, rfl, hP, hl⟩ := open_prs h0 (hval 0 22 v0 rfl rfl)
  obtain ⟨a, rfl, _, _, ha⟩ := open_int Try.underlying3 (hval 1 3 v1 rfl rfl) h1
  obtain ⟨b, rfl, _, _, hb⟩ := open_int Try.underlying3 (hval 2 3 v2 rfl rfl) h2
  refine (walk A l c a b W hP hl ha hb).mono fun e W' ⟨he, hb⟩ => ⟨_, he, law_post rfl rfl ?_ rfl rfl rfl hW' hb⟩
  rw [Try.params6]
  intro t ht
  have ht' : t = 22 ∨ t = 3 ∨ t = 3 := by simpa using ht
  rcases ht' with rfl | rfl | rfl <;> exact ⟨by kernel_rfl, of_decide_eq_true (by kernel_rfl)⟩

set_option maxRecDepth 100000 in
theorem lifted (os : Os) (started : os.Started) (H : Type) (enc : TypeId × Value → H) :
    ReturnsInHanded {} Try.checked os 6 .any (Rows.historyBasesSpec.pre6 enc Try.prog Try.f6 Rows.historyBasesRow.domain false) (Rows.historyBasesSpec.post enc Try.prog Try.f6 false true false false) := by
  refine returnsInHanded_of_change (C := Try.checked) ownKnob_none started (by kernel_rfl) Try.func6
    (ChangeSpec.witness6 (enc := enc) (C := Try.checked) false ⟨#[], #[.slice none 0 0, .int .i64 0, .int .i64 0], []⟩ 8 (by kernel_rfl) (by kernel_rfl) (by kernel_rfl) (by kernel_rfl)) ?_
  intro W base args ds gs before hval hW _ _
  exact contract H enc W base args ds gs before hval hW

theorem proved : Rows.HistoryBasesSaid :=
  OpenClaim.holds_of_wide 6 Try.f6 rfl rfl rfl rfl rfl rfl rfl ⟨rfl, rfl, rfl, rfl, rfl⟩ rfl rfl rfl rfl rfl (by kernel_rfl) Try.func6 (by kernel_rfl)
    (of_decide_eq_true (by kernel_rfl)) (by unfold Func.isWrapper; first | (rw [if_pos (by decide +kernel)]; kernel_rfl) | (rw [if_neg (by decide +kernel)]; exact ⟨rfl, rfl⟩))
    (fun os started H enc _ => lifted os started H enc)

end Go.Proofs.Ytiikbekboapphaa.lbas
