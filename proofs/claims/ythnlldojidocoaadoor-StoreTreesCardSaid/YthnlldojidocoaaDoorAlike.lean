/- alike: all objects of a store are those of the reference. -/
import Derived.Test.YthnlldojidocoaaDoorRefTree
import Derived.Test.YthnlldojidocoaaDoorText
import Derived.Test.YthnlldojidocoaaDoorSame
import Derived.Test.YthnlldojidocoaaDoorLaws2
namespace Go.Proofs.YthnlldojidocoaaDoor
open Go.RowKit Go.Maps

set_option maxRecDepth 100000 in
set_option maxHeartbeats 4000000 in
theorem alike_any {B : Nat} {w : World} {p q : Nat} {os : List Ob} {F G : Nat → Prop} (h : IsStore B w p os F) (hr : IsRef B w q os G) (hn : os.length ≤ 1048575) (hf : Fine os) :
    Calls Tryd.prog 17 #[.pointer (some ⟨p, 0, none⟩), .pointer (some ⟨q, 0, none⟩)] w (BoolB w true) := by
  have hsz : ∀ x ∈ os, x.2.2.length ≤ 1048576 := fun x hx => by
    cases hd : x.1 with
    | false => rw [((hf.ok x hx).1 hd).1]; simp
    | true => exact ((hf.ok x hx).2 hd).2.2
  have M := Lib.hid (fun (W : World) (hW : Below w.heap.size w W) => refMany_any (hr.on hW))
  have C20 := Lib.hid (fun (W : World) (hW : Below w.heap.size w W) (z : Int) (hz : (Lit.int .i64 z).wf = true) => text_some (h.on hW) (by omega) z hz)
  have C30 := Lib.hid (fun (W : World) (hW : Below w.heap.size w W) (z : Int) (hz : (Lit.int .i64 z).wf = true) => refText_any (hr.on hW) (by omega) z hz)
  have C24 := Lib.hid (fun (W : World) (hW : Below w.heap.size w W) (z : Int) (hz : (Lit.int .i64 z).wf = true) => ents_some (h.on hW) (by omega) z hz)
  have C31 := Lib.hid (fun (W : World) (hW : Below w.heap.size w W) (z : Int) (hz : (Lit.int .i64 z).wf = true) => refEnts_any (hr.on hW) (by omega) hsz z hz)
  have HE := Lib.hid (fun (z : Int) => (show ((entsR os z).getD []).length ≤ 1048576 from by
    unfold entsR
    cases hg : getO os z with
    | none => simp
    | some o =>
      have ho : o ∈ os := by
        unfold getO at hg
        split at hg
        · exact List.mem_of_getElem? hg
        · cases hg
      have := hsz o ho
      dsimp only
      split <;> simp
      exact this))
  obtain ⟨n, hnn⟩ : ∃ n, os.length = n := ⟨_, rfl⟩
  rw [hnn] at M hn
  have en : IntKind.i64.wrap ((n : Int) + 1) = (n : Int) + 1 := by simp [IntKind.wrap, IntKind.bits, IntKind.signed]; omega
  clear h hr hf hsz hnn
  go_enter Tryd.func17, Tryd.ntmps17
  go_wp2_with fail
  go_loopw [5] (fun v5 wr => ∃ (z : Int) (k : Nat), v5 = .int .i64 z ∧ Hid (z = (k : Int) - 1) ∧ k ≤ n + 3 ∧ Below w.heap.size w wr) (fun v5 _ => n + 3 - (intOf v5 + 1).toNat)
  case atStart => exact ⟨-1, 0, rfl, Lib.hid rfl, by omega, Below.refl _ _⟩
  case round =>
    obtain ⟨z, k, rfl, HZ, hk, hb⟩ := hrel
    have e1 : IntKind.i64.wrap (z + 1) = z + 1 := by have := HZ.out; simp [IntKind.wrap, IntKind.bits, IntKind.signed]; omega
    have hwf : (Lit.int .i64 z).wf = true := WalkArith.wf_i64 (by have := HZ.out; omega)
    have T20 := fun W hW => C20.out W hW z hwf
    have T30 := fun W hW => C30.out W hW z hwf
    have T24 := fun W hW => C24.out W hW z hwf
    have T31 := fun W hW => C31.out W hW z hwf
    have hel := HE.out z
    obtain ⟨t, ht⟩ : ∃ t, (textR os z).getD ⟨#[]⟩ = t := ⟨_, rfl⟩
    obtain ⟨tb, htb⟩ : ∃ t, (textR os z).isSome = t := ⟨_, rfl⟩
    obtain ⟨es, hes⟩ : ∃ t, (entsR os z).getD [] = t := ⟨_, rfl⟩
    obtain ⟨eb, heb⟩ : ∃ t, (entsR os z).isSome = t := ⟨_, rfl⟩
    unfold EntsOut at T24 T31
    rw [hes] at hel
    simp only [ht, htb, hes, heb] at T20 T30 T24 T31
    have D20 := Lib.hid T20
    have D30 := Lib.hid T30
    have D24 := Lib.hid T24
    have D31 := Lib.hid T31
    have CS := Lib.hid (fun (A1 A2 : Option Addr) (c1 c2 : Nat) (W : World) (M N : Nat) (h1 : Ents W M A1 c1 es) (h2 : Ents W N A2 c2 es) => (show Calls Tryd.prog 25 #[.slice A1 es.length c1, .slice A2 es.length c2] W fun e w' => e = .returned (.bool true) ∧ ∃ q, w' = W.drewN q from by
      have := same_any M N A1 A2 es es c1 c2 W h1 h2 hel hel
      simpa using this))
    have HB := Lib.hid hb
    clear T20 T30 T24 T31 ht htb hes heb hel
    by_cases hle : z ≤ (n : Int) + 1
    · go_wp2_with (first
        | (go_at_call 27; (with_reducible refine (M.out _ HB.out).mono ?_); rintro e w1 ⟨rfl, rfl⟩)
        | (go_at_call 20; (with_reducible refine (D20.out _ HB.out).mono ?_); rintro e w2 ⟨rfl, hb2⟩; (have hB2 := Below.then_ HB.out hb2))
        | (go_at_call 30; (with_reducible refine (D30.out _ hB2).mono ?_); rintro e w3 ⟨rfl, rfl⟩)
        | (go_at_call 24; (with_reducible refine (D24.out _ hB2).mono ?_); rintro e w4 ⟨A1, c1, rfl, hR1, hb4⟩; (have hB4 := Below.then_ hB2 hb4))
        | (go_at_call 31; ((with_reducible refine (D31.out _ hB4).mono ?_); rintro e w5 ⟨A2, c2, rfl, hR2, hb5⟩; (have hB5 := Below.then_ hB4 hb5); (have hE1 : Ents w5 w4.heap.size A1 c1 es := Row.below (hR1.row (fun g hg => hg.2)) hb5 (Nat.le_refl _)); (have hE2 : Ents w5 w5.heap.size A2 c2 es := hR2.row (fun g hg => hg.2))))
        | (go_at_call 25; ((with_reducible refine (CS.out _ _ _ _ _ _ _ hE1 hE2).mono ?_); rintro e w6 ⟨rfl, qq, rfl⟩)))
      go_roundw
      case rel =>
        exact ⟨z + 1, k + 1, by go_num, Lib.hid (by have := HZ.out; push_cast; omega), by have := HZ.out; omega, (Below.drewN_ hB5 _)⟩
      case measure => have := HZ.out; simp [intOf]; omega
    · go_wp2_with (first
        | (go_at_call 27; (with_reducible refine (M.out _ HB.out).mono ?_); rintro e w1 ⟨rfl, rfl⟩))
      go_ret
      exact ⟨rfl, hb⟩
end Go.Proofs.YthnlldojidocoaaDoor
