/- JournalLimit: a record that does not fit on the disk is refused; the longest one that fits can be appended, and then not even an empty one. There are no arguments. -/
import Derived.Test.YthhpnlobhffimaaJSane
namespace Go.Proofs.Ythhpnlobhffimaa.llim
set_option maxRecDepth 100000
open Go.ChangeShapes Go.WideShapes Go.ChangeAt Go.RowKit

theorem four (n : Nat) (h1 : 2097152 ≤ n) (h2 : n < 268435456) : (numL n).length = 4 := by
  rw [numL_ge (by omega), List.length_cons, numL_ge (by omega), List.length_cons, numL_ge (by omega), List.length_cons, numL_lt (by omega)]
  rfl
theorem body_four {r : List UInt8} {n : Nat} (hr : r.length = n) (h1 : 2097152 ≤ n) (h2 : n < 268435456) : (body r).length = n + 8 := by
  rw [body_len, hr, four n h1 h2]; omega
theorem body_empty : (body []).length = 5 := by
  rw [body_len]
  show (numL 0).length + 0 + 4 = 5
  rw [numL_lt (by omega)]; rfl
/-- a string of M zeros, made and converted -/
theorem zeros (M : Nat) (hM : M ≤ 100000000) : ∃ (Z : Array Value) (T : ByteArray), T.size = M ∧
    (∀ W, (Instr.makeSlice 66 (.int .i64 (M : Int)) (.int .i64 (M : Int))).run Try.prog W = .ok (.slice (some ⟨W.heap.size, 0, none⟩) M M) (W.alloc (.cells Z 5))) ∧
    (∀ W : World, (convert 66 9 (.slice (some ⟨W.heap.size, 0, none⟩) M M)).run Try.prog (W.alloc (.cells Z 5)) = .ok (.string T) (W.alloc (.cells Z 5))) :=
  ⟨_, _, by rw [str_size, List.length_replicate], made_one 66 5 (.int .u8 0) 1 Try.underlying66 info5 rfl M (by omega) (by omega), conv_zeros M⟩
set_option maxRecDepth 100000 in
set_option maxHeartbeats 8000000 in
theorem walk (w : World) : Calls Try.prog 10 #[] w (BoolB w true) := by
  have S := Lib.hid (sane_any w)
  have NW := Lib.hid (fun (W : World) (h : Below w.heap.size w W) => new_side h)
  have OP := Lib.hid (fun (W : World) (p : Nat) (X : Nat → Prop) (h : Side w W p Dk.new X) => (show Calls Try.prog 14 #[.pointer (some ⟨p, 0, none⟩)] W fun e W' => ∃ b A c, e = .returned (.tuple #[.pointer (some ⟨b, 0, none⟩), .slice A 0 c, .int .i64 0]) ∧ JPost w W p b sj1 X W' from (open_any h (by decide)).mono fun e W' hx => by
    have e1 : (openD Dk.new).1 = 0 := by rw [open_new]
    have e2 : (openD Dk.new).2 = Dk.new.sync := by rw [open_new]
    rcases hx with ⟨h0, _⟩ | ⟨_, b, A, c, he, hj, _⟩
    · exact (h0 e1).elim
    · rw [e2] at hj
      exact ⟨b, A, c, he, hj⟩))
  obtain ⟨Z1, T1, hT1, MK1, CV1⟩ := zeros 16777207 (by omega)
  obtain ⟨Z2, T2, hT2, MK2, CV2⟩ := zeros 16777206 (by omega)
  rw [show ((16777207 : Nat) : Int) = 16777207 from rfl] at MK1
  rw [show ((16777206 : Nat) : Int) = 16777206 from rfl] at MK2
  have he1 : sj1.e = 0 := rfl
  have l1 : sj1.tooLong T1.data.toList = true := by
    have := body_four (r := T1.data.toList) (n := 16777207) (by rw [data_len, hT1]) (by omega) (by omega)
    unfold Jn.tooLong
    rw [he1, this]
    simp
  have l2 : sj1.tooLong T2.data.toList = false := by
    have := body_four (r := T2.data.toList) (n := 16777206) (by rw [data_len, hT2]) (by omega) (by omega)
    unfold Jn.tooLong
    rw [he1, this]
    simp
  have l3 : ∀ d, (Jn.mk d [T2.data.toList] false).tooLong [] = true := fun d => by
    have := body_four (r := T2.data.toList) (n := 16777206) (by rw [data_len, hT2]) (by omega) (by omega)
    unfold Jn.tooLong Jn.e
    dsimp only
    rw [fl_cons, List.length_append, frame_len, this, body_empty]
    simp [fl]
  have CA := Lib.hid (fun (W : World) (p b : Nat) (X : Nat → Prop) (h : Jw w W p b sj1 X) => (show Calls Try.prog 24 #[.pointer (some ⟨p, 0, none⟩)] W fun e w' => e = .returned (.int .i64 1) ∧ W = w' from h.side.calls))
  have M0 := Lib.hid (fun (W : World) (p b : Nat) (X : Nat → Prop) (h : Jw w W p b sj1 X) => (show Calls Try.prog 17 #[.pointer (some ⟨b, 0, none⟩)] W fun e w' => e = .returned (.int .i64 0) ∧ W = w' from many_any h))
  have A1 := Lib.hid (fun (W : World) (p b : Nat) (X : Nat → Prop) (h : Jw w W p b sj1 X) => (show Calls Try.prog 16 #[.pointer (some ⟨b, 0, none⟩), .string T1] W fun e W' => e = .returned (.int .i64 2) ∧ JPost w W p b sj1 X W' from (app_long h rfl T1 (by omega) l1).mono fun e W' hx => by
    have e0 : sj1.app T1.data.toList = (2, sj1) := by unfold Jn.app; rw [l1]; rfl
    have h1 := hx.1
    have h2 := hx.2
    rw [e0] at h1 h2
    exact ⟨h1, h2⟩))
  have A2 := Lib.hid (fun (W : World) (p b : Nat) (X : Nat → Prop) (h : Jw w W p b sj1 X) => (show Calls Try.prog 16 #[.pointer (some ⟨b, 0, none⟩), .string T2] W fun e W' => e = .returned (.int .i64 0) ∧ ∃ d', JPost w W p b ⟨d', [T2.data.toList], false⟩ X W' from (app_good h sj1_idle (by rw [sj1_facts.2.2.2]; trivial) (by decide) T2 (by omega) l2).mono fun e W' hx => by
    obtain ⟨h1, j', hj, _, _, _, h2⟩ := hx
    subst hj
    exact ⟨h1, _, h2⟩))
  have M1 := Lib.hid (fun (W : World) (p b : Nat) (d : Dk) (X : Nat → Prop) (h : Jw w W p b ⟨d, [T2.data.toList], false⟩ X) => (show Calls Try.prog 17 #[.pointer (some ⟨b, 0, none⟩)] W fun e w' => e = .returned (.int .i64 1) ∧ W = w' from many_any h))
  have A3 := Lib.hid (fun (W : World) (p b : Nat) (d : Dk) (X : Nat → Prop) (h : Jw w W p b ⟨d, [T2.data.toList], false⟩ X) => (show Calls Try.prog 16 #[.pointer (some ⟨b, 0, none⟩), .string ⟨#[]⟩] W fun e W' => e = .returned (.int .i64 2) ∧ JPost w W p b ⟨d, [T2.data.toList], false⟩ X W' from (app_long h rfl ⟨#[]⟩ (by show 0 ≤ _; omega) (l3 d)).mono fun e W' hx => by
    have e0 : (Jn.mk d [T2.data.toList] false).app [] = (2, ⟨d, [T2.data.toList], false⟩) := by unfold Jn.app; rw [l3 d]; rfl
    have h1 := hx.1
    have h2 := hx.2
    rw [show (⟨#[]⟩ : ByteArray).data.toList = [] from rfl, e0] at h1 h2
    exact ⟨h1, h2⟩))
  unfold BoolB at S ⊢
  clear l1 l2 l3 he1 hT1 hT2
  go_enter Try.func10, Try.ntmps10
  go_wp2_with (first
    | (go_at_call 12; ((with_reducible refine S.out.mono ?_); rintro e w1 ⟨rfl, hb1⟩))
    | (go_at_call 13; ((with_reducible refine (NW.out w1 hb1).mono ?_); rintro e w2 ⟨p, rfl, hS2, hb2⟩))
    | (go_at_call 14; ((with_reducible refine (OP.out w2 p _ hS2).mono ?_); rintro e w3 ⟨b, A, c, rfl, hP3⟩; (have hJ3 := hP3.1); (have hJ3a := hJ3.on ((Below.refl _ w3).alloc (Nat.le_refl _) (.cells Z1 5)))))
    | (go_at_call 24; ((with_reducible refine (CA.out w3 p b _ hJ3).mono ?_); rintro e w3b ⟨rfl, rfl⟩))
    | (go_at_call 16; ((with_reducible refine (A1.out (w3.alloc (.cells Z1 5)) p b _ hJ3a).mono ?_); rintro e w4 ⟨rfl, hP4⟩; (have hJ4 := hP4.1); (have hJ4a := hJ4.on ((Below.refl _ w4).alloc (Nat.le_refl _) (.cells Z2 5)))))
    | (go_at_call 24; ((with_reducible refine (CA.out w4 p b _ hJ4).mono ?_); rintro e w4b ⟨rfl, rfl⟩))
    | (go_at_call 17; ((with_reducible refine (M0.out w4 p b _ hJ4).mono ?_); rintro e w4c ⟨rfl, rfl⟩))
    | (go_at_call 16; ((with_reducible refine (A2.out (w4.alloc (.cells Z2 5)) p b _ hJ4a).mono ?_); rintro e w5 ⟨rfl, d5, hP5⟩; (have hJ5 := hP5.1)))
    | (go_at_call 17; ((with_reducible refine (M1.out w5 p b d5 _ hJ5).mono ?_); rintro e w5b ⟨rfl, rfl⟩))
    | (go_at_call 16; ((with_reducible refine (A3.out w5 p b d5 _ hJ5).mono ?_); rintro e w6 ⟨rfl, hP6⟩; (have hJ6 := hP6.1)))
    | (go_at_call 17; ((with_reducible refine (M1.out w6 p b d5 _ hJ6).mono ?_); rintro e w6b ⟨rfl, rfl⟩))
    | (fail "arm"))
  go_ret
  exact ⟨rfl, hJ6.bel⟩

theorem contract (H : Type) (enc : TypeId × Value → H) (W : World) (base : Nat) (args : Array Value) (ds gs : List (DataW H)) (before : List MemPlace)
    (hval : ∀ (j : Nat) t v, Try.f10.params[j]? = some t → args[j]? = some v → Value.okWide Try.prog W .any base t v)
    (hW : DataW.Whole enc Try.prog Try.f10.params.toList Rows.journalLimitSpec.vars false W args.toList ds gs before) :
    Calls Try.prog 10 args W fun e W' => ∃ v, e = .returned v ∧ Rows.journalLimitSpec.post enc Try.prog Try.f10 false true false false W args v W' := by
  have hW' := hW
  obtain ⟨p, q, hA0, hV, rfl, hfz, hnd⟩ := hW
  have hA : DataW.TrodAll enc Try.prog W 0 (fun _ => true) true Try.f10.params.toList args.toList ds p := hA0
  rw [Try.params10] at hA hval
  obtain ⟨ha, rfl, rfl⟩ := trodAll_nil hA
  obtain rfl : args = #[] := by cases args; simp_all
  obtain ⟨rfl, rfl⟩ := trodVars_none hV
  refine (walk W).mono fun e W' ⟨he, hb⟩ => ⟨_, he, law_post rfl rfl ?_ rfl rfl rfl hW' hb⟩
  rw [Try.params10]
  intro t ht
  exact absurd ht (by simp)


set_option maxRecDepth 100000 in
theorem lifted (os : Os) (started : os.Started) (H : Type) (enc : TypeId × Value → H) :
    ReturnsInHanded {} Try.checked os 10 .any (Rows.journalLimitSpec.pre6 enc Try.prog Try.f10 Rows.journalLimitRow.domain false) (Rows.journalLimitSpec.post enc Try.prog Try.f10 false true false false) := by
  refine returnsInHanded_of_change (C := Try.checked) ownKnob_none started (by kernel_rfl) Try.func10
    (ChangeSpec.witness6 (enc := enc) (C := Try.checked) false ⟨#[], #[], []⟩ 8 (by kernel_rfl) (by kernel_rfl) (by kernel_rfl) (by kernel_rfl)) ?_
  intro W base args ds gs before hval hW _ _
  exact contract H enc W base args ds gs before hval hW

theorem proved : Rows.JournalLimitSaid :=
  OpenClaim.holds_of_wide 10 Try.f10 rfl rfl rfl rfl rfl rfl rfl ⟨rfl, rfl, rfl, rfl, rfl⟩ rfl rfl rfl rfl rfl (by kernel_rfl) Try.func10 (by kernel_rfl)
    (of_decide_eq_true (by kernel_rfl)) (by unfold Func.isWrapper; first | (rw [if_pos (by decide +kernel)]; kernel_rfl) | (rw [if_neg (by decide +kernel)]; exact ⟨rfl, rfl⟩))
    (fun os started H enc _ => lifted os started H enc)

end Go.Proofs.Ythhpnlobhffimaa.llim
