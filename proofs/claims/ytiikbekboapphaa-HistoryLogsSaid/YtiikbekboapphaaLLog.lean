/- HistoryLogs: Log and Line agree with the reference implementation. For all arguments. -/
import Derived.Test.YtiikbekboapphaaLawKit
namespace Go.Proofs.Ytiikbekboapphaa.llog
open Go.ChangeShapes Go.WideShapes Go.ChangeAt Go.RowKit

set_option maxRecDepth 100000 in
set_option maxHeartbeats 8000000 in
theorem walk (A : Option Addr) (l : List (Int × Int)) (c : Nat) (a b : Int) (w : World) (hA : Prs w w.heap.size A c l) (hl : l.length ≤ maxLen) (ha : (Lit.int .i64 a).wf = true) (hb : (Lit.int .i64 b).wf = true) :
    Calls Try.prog 7 #[.slice A l.length c, .int .i64 a, .int .i64 b] w (BoolB w true) := by
  have S := Lib.hid (sane_any w)
  have MD := Lib.hid (fun (W : World) (h : Below w.heap.size w W) => made_any W A l c ⟨(Row.below hA.1 h (Nat.le_refl _)).more h.size, hA.2⟩ hl)
  have NA := Lib.hid (fun (W : World) (n : Nat) (hn : n ≤ 1000) => number_any W n hn a ha)
  have NB := Lib.hid (fun (W : World) (n : Nat) (hn : n ≤ 1000) => number_any W n hn b hb)
  unfold BoolB at S ⊢
  unfold MadeOut at MD
  obtain ⟨m, hm⟩ : ∃ m, l.length = m := ⟨_, rfl⟩
  rw [hm] at MD ⊢
  clear hA hl ha hb hm
  go_enter Try.func7, Try.ntmps7
  go_upto_region 4 with (first
    | (go_at_call 14; ((with_reducible refine S.out.mono ?_); rintro e w1 ⟨rfl, hb1⟩))
    | (go_at_call 15; ((with_reducible refine (MD.out _ hb1).mono ?_); rintro e w2 ⟨p, q, cs, rfl, hcs, hT⟩))
    | (go_at_call 19; ((with_reducible refine hT.rmany_.mono ?_); rintro e v ⟨rfl, rfl⟩))
    | (go_at_call 18; ((with_reducible refine (NA.out _ cs.length (by omega)).mono ?_); rintro e v ⟨rfl, rfl⟩))
    | (go_at_call 18; ((with_reducible refine (NB.out _ cs.length (by omega)).mono ?_); rintro e v ⟨rfl, rfl⟩))
    | (fail "arm"))
  obtain ⟨X, hX⟩ : ∃ X, numP cs.length a = X := ⟨_, rfl⟩
  obtain ⟨Y, hY⟩ : ∃ Y, numP cs.length b = Y := ⟨_, rfl⟩
  rw [hX, hY]
  have HT := Lib.hid hT
  obtain ⟨LP, hLP⟩ : ∃ LP, lineP cs X Y = LP := ⟨_, rfl⟩
  obtain ⟨OK, hOK⟩ : ∃ OK, lineOk cs X Y = OK := ⟨_, rfl⟩
  obtain ⟨GX, hGX⟩ : ∃ GX, logP cs X = GX := ⟨_, rfl⟩
  obtain ⟨GY, hGY⟩ : ∃ GY, logP cs Y = GY := ⟨_, rfl⟩
  have l1 : LP.length ≤ 1000 := by rw [← hLP]; have := lineP_len cs X Y; omega
  have l2 : GX.length ≤ 1000 := by rw [← hGX]; have := logP_len cs X; omega
  have l3 : GY.length ≤ 1000 := by rw [← hGY]; have := logP_len cs Y; omega
  obtain ⟨n1, hn1⟩ : ∃ n1, LP.length = n1 := ⟨_, rfl⟩
  obtain ⟨n2, hn2⟩ : ∃ n2, GX.length = n2 := ⟨_, rfl⟩
  obtain ⟨n3, hn3⟩ : ∃ n3, GY.length = n3 := ⟨_, rfl⟩
  have D1 := Lib.hid (fun (W : World) (h : Two w1 W p q cs) => h.line_ (by omega) X Y)
  have D2 := Lib.hid (fun (W : World) (h : Two w1 W p q cs) => h.rline_ (by omega) X Y)
  have D3 := Lib.hid (fun (W : World) (h : Two w1 W p q cs) => h.log_ (by omega) X)
  have D4 := Lib.hid (fun (W : World) (h : Two w1 W p q cs) => h.rlog_ (by omega) X)
  have D5 := Lib.hid (fun (W : World) (h : Two w1 W p q cs) => h.log_ (by omega) Y)
  have D6 := Lib.hid (fun (W : World) (h : Two w1 W p q cs) => h.rlog_ (by omega) Y)
  unfold LineOut at D1 D2
  unfold IntsOut at D3 D4 D5 D6
  rw [hLP, hOK, hn1] at D1 D2
  rw [hGX, hn2] at D3 D4
  rw [hGY, hn3] at D5 D6
  rw [hn1] at l1
  rw [hn2] at l2
  rw [hn3] at l3
  have b1 : (OK == OK) = true := by simp
  have HB1 := Lib.hid hb1
  clear hX hY hT hb1 hLP hOK hGX hGY hn1 hn2 hn3
  go_upto_region 6 with (first
    | (go_at_call 28; ((with_reducible refine (D1.out _ HT.out).mono ?_); rintro e x1 ⟨A1, c1, rfl, o1, g1⟩; (have T1 := HT.out.on g1)))
    | (go_at_call 29; ((with_reducible refine (D2.out _ T1).mono ?_); rintro e x2 ⟨A2, c2, rfl, o2, g2⟩; (have T2 := T1.on g2)))
    | (fail "arm"))
  have r1 := Lib.hid ((Row.own o1).on g2)
  have r2 := Lib.hid (Row.own o2)
  go_wp2_with (first
    | (go_at_call 31; ((with_reducible refine (D3.out _ T2).mono ?_); rintro e x3 ⟨A3, c3, rfl, o3, g3⟩; (have T3 := T2.on g3)))
    | (go_at_call 32; ((with_reducible refine (D4.out _ T3).mono ?_); rintro e x4 ⟨A4, c4, rfl, o4, g4⟩; (have T4 := T3.on g4); (have r3 := (Row.own o3).on g4); (have r4 := Row.own o4)))
    | (go_at_call 30; ((with_reducible refine (ints_two r3 r4 l2).mono ?_); rintro e x5 ⟨rfl, q1, hq1⟩; (have g5 : Below x4.heap.size x4 x5 := below_of_draw (Below.refl _ _) hq1); (have T5 := T4.on g5); clear hq1))
    | (go_at_call 31; ((with_reducible refine (D5.out _ T5).mono ?_); rintro e x6 ⟨A6, c6, rfl, o6, g6⟩; (have T6 := T5.on g6)))
    | (go_at_call 32; ((with_reducible refine (D6.out _ T6).mono ?_); rintro e x7 ⟨A7, c7, rfl, o7, g7⟩; (have T7 := T6.on g7); (have r6 := (Row.own o6).on g7); (have r7 := Row.own o7)))
    | (go_at_call 30; ((with_reducible refine (ints_two r6 r7 l3).mono ?_); rintro e x8 ⟨rfl, q2, hq2⟩; (have g8 : Below x7.heap.size x7 x8 := below_of_draw (Below.refl _ _) hq2); (have T8 := T7.on g8); (have gg := Below.then_ (Below.then_ (Below.then_ (Below.then_ (Below.then_ g3 g4) g5) g6) g7) g8); (have s1 := r1.out.on gg); (have s2 := r2.out.on gg); clear hq2))
    | (go_at_call 30; ((with_reducible refine (ints_two s1 s2 l1).mono ?_); rintro e x9 ⟨rfl, q3, hq3⟩; (have g9 : Below x8.heap.size x8 x9 := below_of_draw (Below.refl _ _) hq3); (have T9 := T8.on g9); clear hq3))
    | (fail "arm"))
  go_ret
  exact ⟨rfl, Below.then_ HB1.out T9.below⟩

theorem contract (H : Type) (enc : TypeId × Value → H) (W : World) (base : Nat) (args : Array Value) (ds gs : List (DataW H)) (before : List MemPlace)
    (hval : ∀ (j : Nat) t v, Try.f7.params[j]? = some t → args[j]? = some v → Value.okWide Try.prog W .any base t v)
    (hW : DataW.Whole enc Try.prog Try.f7.params.toList Rows.historyLogsSpec.vars false W args.toList ds gs before) :
    Calls Try.prog 7 args W fun e W' => ∃ v, e = .returned v ∧ Rows.historyLogsSpec.post enc Try.prog Try.f7 false true false false W args v W' := by
  have hW' := hW
  obtain ⟨p, q, hA0, hV, rfl, hfz, hnd⟩ := hW
  have hA : DataW.TrodAll enc Try.prog W 0 (fun _ => true) true Try.f7.params.toList args.toList ds p := hA0
  rw [Try.params7] at hA hval
  obtain ⟨v0, vs0, d0, ds0, p0, q0, e0, rfl, rfl, h0, r0⟩ := trodAll_cons hA
  obtain ⟨v1, vs1, d1, ds1, p1, q1, e1, rfl, rfl, h1, r1⟩ := trodAll_cons r0
  obtain ⟨v2, vs2, d2, ds2, p2, q2, e2, rfl, rfl, h2, r2⟩ := trodAll_cons r1
  obtain ⟨rfl, rfl, rfl⟩ := trodAll_nil r2
  obtain rfl : args = #[v0, v1, v2] := by cases args; simp_all
  obtain ⟨rfl, rfl⟩ := trodVars_none hV
  obtain ⟨A, l, c, rfl, hP, hl⟩ := open_prs h0 (hval 0 22 v0 rfl rfl)
  obtain ⟨a, rfl, _, _, ha⟩ := open_int Try.underlying3 (hval 1 3 v1 rfl rfl) h1
  obtain ⟨b, rfl, _, _, hb⟩ := open_int Try.underlying3 (hval 2 3 v2 rfl rfl) h2
  refine (walk A l c a b W hP hl ha hb).mono fun e W' ⟨he, hb⟩ => ⟨_, he, law_post rfl rfl ?_ rfl rfl rfl hW' hb⟩
  rw [Try.params7]
  intro t ht
  have ht' : t = 22 ∨ t = 3 ∨ t = 3 := by simpa using ht
  rcases ht' with rfl | rfl | rfl <;> exact ⟨by kernel_rfl, of_decide_eq_true (by kernel_rfl)⟩

set_option maxRecDepth 100000 in
theorem lifted (os : Os) (started : os.Started) (H : Type) (enc : TypeId × Value → H) :
    ReturnsInHanded {} Try.checked os 7 .any (Rows.historyLogsSpec.pre6 enc Try.prog Try.f7 Rows.historyLogsRow.domain false) (Rows.historyLogsSpec.post enc Try.prog Try.f7 false true false false) := by
  refine returnsInHanded_of_change (C := Try.checked) ownKnob_none started (by kernel_rfl) Try.func7
    (ChangeSpec.witness6 (enc := enc) (C := Try.checked) false ⟨#[], #[.slice none 0 0, .int .i64 0, .int .i64 0], []⟩ 8 (by kernel_rfl) (by kernel_rfl) (by kernel_rfl) (by kernel_rfl)) ?_
  intro W base args ds gs before hval hW _ _
  exact contract H enc W base args ds gs before hval hW

theorem proved : Rows.HistoryLogsSaid :=
  OpenClaim.holds_of_wide 7 Try.f7 rfl rfl rfl rfl rfl rfl rfl ⟨rfl, rfl, rfl, rfl, rfl⟩ rfl rfl rfl rfl rfl (by kernel_rfl) Try.func7 (by kernel_rfl)
    (of_decide_eq_true (by kernel_rfl)) (by unfold Func.isWrapper; first | (rw [if_pos (by decide +kernel)]; kernel_rfl) | (rw [if_neg (by decide +kernel)]; exact ⟨rfl, rfl⟩))
    (fun os started H enc _ => lifted os started H enc)

end Go.Proofs.Ytiikbekboapphaa.llog
