/- JournalNil: a nil disk has no journal, a nil journal has no records, and with the power off there is no journal either. For all arguments. -/
import Derived.Test.YthhpnlobhffimaaJSane
namespace Go.Proofs.Ythhpnlobhffimaa.lnil
set_option maxRecDepth 100000
open Go.ChangeShapes Go.WideShapes Go.ChangeAt Go.RowKit

theorem open_off : openD (Dk.new.fail 0) = (30, Dk.new.fail 0) := by rw [openD_sync (e := 0) rfl (.inl rfl)]; rfl
set_option maxRecDepth 100000 in
set_option maxHeartbeats 8000000 in
theorem walk (s : ByteArray) (w : World) : Calls Try.prog 11 #[.string s] w (BoolB w true) := by
  have S := Lib.hid (sane_any w)
  have ON := Lib.hid open_nil
  have NW := Lib.hid (fun (W : World) (h : Below w.heap.size w W) => new_side h)
  have FA := Lib.hid (fun (W : World) (p : Nat) (X : Nat → Prop) (h : Side w W p Dk.new X) => h.fail 0 ⟨by omega, by omega⟩)
  have OP := Lib.hid (fun (W : World) (p : Nat) (X : Nat → Prop) (h : Side w W p (Dk.new.fail 0) X) => (show Calls Try.prog 14 #[.pointer (some ⟨p, 0, none⟩)] W fun e W' => e = .returned (.tuple #[.pointer none, .slice none 0 0, .int .i64 30]) ∧ Below w.heap.size w W' from (open_any h (by decide)).mono fun e W' hx => by
    have e1 : (openD (Dk.new.fail 0)).1 = 30 := by rw [open_off]
    rcases hx with ⟨_, he, hp⟩ | ⟨h0, _⟩
    · rw [e1] at he
      exact ⟨he, hp.1.bel⟩
    · rw [e1] at h0; cases h0))
  have AN := Lib.hid (fun W => app_nil s W)
  have MN := Lib.hid many_nil
  unfold BoolB at S ⊢
  go_enter Try.func11, Try.ntmps11
  go_wp2_with (first
    | (go_at_call 12; ((with_reducible refine S.out.mono ?_); rintro e w1 ⟨rfl, hb1⟩))
    | (go_at_call 14; ((with_reducible refine (ON.out _).mono ?_); rintro e w2 ⟨rfl, rfl⟩))
    | (go_at_call 13; ((with_reducible refine (NW.out w1 hb1).mono ?_); rintro e w3 ⟨p, rfl, hS3, hb3⟩))
    | (go_at_call 21; ((with_reducible refine (FA.out w3 p _ hS3).mono ?_); rintro e w4 ⟨rfl, hS4, _⟩))
    | (go_at_call 14; ((with_reducible refine (OP.out w4 p _ hS4).mono ?_); rintro e w5 ⟨rfl, hb5⟩))
    | (go_at_call 16; ((with_reducible refine (AN.out _).mono ?_); rintro e w6 ⟨rfl, rfl⟩))
    | (go_at_call 17; ((with_reducible refine (MN.out _).mono ?_); rintro e w7 ⟨rfl, rfl⟩))
    | (fail "arm"))
  go_ret
  exact ⟨rfl, hb5⟩

theorem contract (H : Type) (enc : TypeId × Value → H) (W : World) (base : Nat) (args : Array Value) (ds gs : List (DataW H)) (before : List MemPlace)
    (hval : ∀ (j : Nat) t v, Try.f11.params[j]? = some t → args[j]? = some v → Value.okWide Try.prog W .any base t v)
    (hW : DataW.Whole enc Try.prog Try.f11.params.toList Rows.journalNilSpec.vars false W args.toList ds gs before) :
    Calls Try.prog 11 args W fun e W' => ∃ v, e = .returned v ∧ Rows.journalNilSpec.post enc Try.prog Try.f11 false true false false W args v W' := by
  have hW' := hW
  obtain ⟨p, q, hA0, hV, rfl, hfz, hnd⟩ := hW
  have hA : DataW.TrodAll enc Try.prog W 0 (fun _ => true) true Try.f11.params.toList args.toList ds p := hA0
  rw [Try.params11] at hA hval
  obtain ⟨v0, vs0, d0, ds0, p0, q0, e0, rfl, rfl, h0, r0⟩ := trodAll_cons hA
  obtain ⟨rfl, rfl, rfl⟩ := trodAll_nil r0
  obtain rfl : args = #[v0] := by cases args; simp_all
  obtain ⟨rfl, rfl⟩ := trodVars_none hV
  obtain ⟨s, rfl, rfl, rfl, hs⟩ := Go.ChangeMaps.open_string Try.underlying9 (hval 0 9 v0 rfl rfl) h0
  refine (walk s W).mono fun e W' ⟨he, hb⟩ => ⟨_, he, law_post rfl rfl ?_ rfl rfl rfl hW' hb⟩
  rw [Try.params11]
  intro t ht
  obtain rfl : t = 9 := by simpa using ht
  exact ⟨by kernel_rfl, of_decide_eq_true (by kernel_rfl)⟩

set_option maxRecDepth 100000 in
theorem lifted (os : Os) (started : os.Started) (H : Type) (enc : TypeId × Value → H) :
    ReturnsInHanded {} Try.checked os 11 .any (Rows.journalNilSpec.pre6 enc Try.prog Try.f11 Rows.journalNilRow.domain false) (Rows.journalNilSpec.post enc Try.prog Try.f11 false true false false) := by
  refine returnsInHanded_of_change (C := Try.checked) ownKnob_none started (by kernel_rfl) Try.func11
    (ChangeSpec.witness6 (enc := enc) (C := Try.checked) false ⟨#[], #[.string .empty], []⟩ 8 (by kernel_rfl) (by kernel_rfl) (by kernel_rfl) (by kernel_rfl)) ?_
  intro W base args ds gs before hval hW _ _
  exact contract H enc W base args ds gs before hval hW

theorem proved : Rows.JournalNilSaid :=
  OpenClaim.holds_of_wide 11 Try.f11 rfl rfl rfl rfl rfl rfl rfl ⟨rfl, rfl, rfl, rfl, rfl⟩ rfl rfl rfl rfl rfl (by kernel_rfl) Try.func11 (by kernel_rfl)
    (of_decide_eq_true (by kernel_rfl)) (by unfold Func.isWrapper; first | (rw [if_pos (by decide +kernel)]; kernel_rfl) | (rw [if_neg (by decide +kernel)]; exact ⟨rfl, rfl⟩))
    (fun os started H enc _ => lifted os started H enc)

end Go.Proofs.Ythhpnlobhffimaa.lnil
