/- JournalBytes: the disk's bytes, its calls and the answers are the reference's, record by record. For all arguments. -/
import Derived.Test.YthhpnlobhffimaaJBytA
import Derived.Test.YthhpnlobhffimaaJBytB
namespace Go.Proofs.Ythhpnlobhffimaa.lbytes
set_option maxRecDepth 100000
open Go.ChangeShapes Go.WideShapes Go.ChangeAt Go.RowKit

theorem walk (A : Option Addr) (l : List (Int × Int)) (c : Nat) (x : Int) (w : World) (hA : Prs w w.heap.size A c l) (hl : l.length ≤ maxLen) (hx : 0 ≤ x ∧ x ≤ 255) :
    Calls Try.prog 4 #[.slice A l.length c, .int .u8 x] w (BoolB w true) := by
  rcases (show x % 50 = 0 ∨ x % 50 = 49 ∨ ∃ r : Nat, x % 50 = (r : Int) ∧ (1 : Int) ≤ (r : Int) ∧ (r : Int) ≤ 48 from by
    by_cases h0 : x % 50 = 0
    · exact .inl h0
    · by_cases h1 : x % 50 = 49
      · exact .inr (.inl h1)
      · exact .inr (.inr ⟨(x % 50).toNat, by omega, by omega, by omega⟩)) with h | h | ⟨r, h, h1, h2⟩
  · exact walk_off x A l c w hx.1 hx.2 h
  · exact walk_none A l c x w hA hl hx.1 hx.2 h
  · exact walk_on A l c x w hA hl hx.1 hx.2 r h h1 h2
theorem contract (H : Type) (enc : TypeId × Value → H) (W : World) (base : Nat) (args : Array Value) (ds gs : List (DataW H)) (before : List MemPlace)
    (hval : ∀ (j : Nat) t v, Try.f4.params[j]? = some t → args[j]? = some v → Value.okWide Try.prog W .any base t v)
    (hW : DataW.Whole enc Try.prog Try.f4.params.toList Rows.journalBytesSpec.vars false W args.toList ds gs before) :
    Calls Try.prog 4 args W fun e W' => ∃ v, e = .returned v ∧ Rows.journalBytesSpec.post enc Try.prog Try.f4 false true false false W args v W' := by
  have hW' := hW
  obtain ⟨p, q, hA0, hV, rfl, hfz, hnd⟩ := hW
  have hA : DataW.TrodAll enc Try.prog W 0 (fun _ => true) true Try.f4.params.toList args.toList ds p := hA0
  rw [Try.params4] at hA hval
  obtain ⟨v0, vs0, d0, ds0, p0, q0, e0, rfl, rfl, h0, r0⟩ := trodAll_cons hA
  obtain ⟨v1, vs1, d1, ds1, p1, q1, e1, rfl, rfl, h1, r1⟩ := trodAll_cons r0
  obtain ⟨rfl, rfl, rfl⟩ := trodAll_nil r1
  obtain rfl : args = #[v0, v1] := by cases args; simp_all
  obtain ⟨rfl, rfl⟩ := trodVars_none hV
  obtain ⟨A, l, c, rfl, hPr, hl⟩ := open_prs h0 (hval 0 22 v0 rfl rfl)
  obtain ⟨x, rfl, _, _, hx⟩ := open_int Try.underlying5 (hval 1 5 v1 rfl rfl) h1
  refine (walk A l c x W hPr hl (bd_u8 hx)).mono fun e W' ⟨he, hb⟩ => ⟨_, he, law_post rfl rfl ?_ rfl rfl rfl hW' hb⟩
  rw [Try.params4]
  intro t ht
  have ht' : t = 22 ∨ t = 5 := by simpa using ht
  rcases ht' with rfl | rfl <;> exact ⟨by kernel_rfl, of_decide_eq_true (by kernel_rfl)⟩

set_option maxRecDepth 100000 in
theorem lifted (os : Os) (started : os.Started) (H : Type) (enc : TypeId × Value → H) :
    ReturnsInHanded {} Try.checked os 4 .any (Rows.journalBytesSpec.pre6 enc Try.prog Try.f4 Rows.journalBytesRow.domain false) (Rows.journalBytesSpec.post enc Try.prog Try.f4 false true false false) := by
  refine returnsInHanded_of_change (C := Try.checked) ownKnob_none started (by kernel_rfl) Try.func4
    (ChangeSpec.witness6 (enc := enc) (C := Try.checked) false ⟨#[], #[.slice none 0 0, .int .u8 0], []⟩ 8 (by kernel_rfl) (by kernel_rfl) (by kernel_rfl) (by kernel_rfl)) ?_
  intro W base args ds gs before hval hW _ _
  exact contract H enc W base args ds gs before hval hW

theorem proved : Rows.JournalBytesSaid :=
  OpenClaim.holds_of_wide 4 Try.f4 rfl rfl rfl rfl rfl rfl rfl ⟨rfl, rfl, rfl, rfl, rfl⟩ rfl rfl rfl rfl rfl (by kernel_rfl) Try.func4 (by kernel_rfl)
    (of_decide_eq_true (by kernel_rfl)) (by unfold Func.isWrapper; first | (rw [if_pos (by decide +kernel)]; kernel_rfl) | (rw [if_neg (by decide +kernel)]; exact ⟨rfl, rfl⟩))
    (fun os started H enc _ => lifted os started H enc)

end Go.Proofs.Ythhpnlobhffimaa.lbytes
