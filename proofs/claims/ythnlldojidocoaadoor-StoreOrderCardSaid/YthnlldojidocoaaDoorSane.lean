/- sanity: the chapter's examples. -/
import Derived.Test.YthnlldojidocoaaDoorWay
namespace Go.Proofs.YthnlldojidocoaaDoor
open Go.RowKit Go.Maps

theorem first_name {w : World} {F : Nat → Prop} {A : Option Addr} {c : Nat} {e : Ent} (hR : RowF w F 3 A 1 c (entsC [e])) : ∃ ad, A = some ad ∧ w.cell? ad = some (.string e.1) ∧ 1 ≤ c := by
  obtain ⟨ad, h, _, hc⟩ := hR.2.2.2 0 (.string e.1) rfl
  refine ⟨ad, h, ?_, hR.2.1⟩
  rwa [show ad.add 0 = ad by unfold Addr.add; simp] at hc
def oA : Ob := blobO ⟨#[97]⟩
def oB : Ob := blobO ⟨#[98]⟩
def eF : Ent := (⟨#[102]⟩, false, 1)
def eD : Ent := (⟨#[100]⟩, true, 3)
def eX : List Ent := [(⟨#[98]⟩, false, 1), (⟨#[97]⟩, false, 1)]
def O4 : List Ob := [oA, oB, treeO [eF], treeO [eD]]

set_option maxRecDepth 100000 in
set_option maxHeartbeats 2000000 in
theorem sane_any (w : World) (hT : Tab w) : Calls Tryd.prog 14 #[] w (BoolB w true) := by
  have C1 := Lib.hid (fun (W : World) (p : Nat) (F : Nat → Prop) (h : StW w W p [] F) => (show Calls Tryd.prog 18 #[.pointer (some ⟨p, 0, none⟩), .string ⟨#[97]⟩] W (PutW w W p [] F 1 [oA]) from blobW h (by simp) ⟨#[97]⟩ (by decide)))
  have C2 := Lib.hid (fun (W : World) (p : Nat) (F : Nat → Prop) (h : StW w W p [oA] F) => (show Calls Tryd.prog 18 #[.pointer (some ⟨p, 0, none⟩), .string ⟨#[98]⟩] W (PutW w W p [oA] F 2 [oA, oB]) from blobW h (by simp) ⟨#[98]⟩ (by decide)))
  have C3 := Lib.hid (fun (W : World) (p : Nat) (F : Nat → Prop) (h : StW w W p [oA, oB] F) => (show Calls Tryd.prog 18 #[.pointer (some ⟨p, 0, none⟩), .string ⟨#[97]⟩] W (PutW w W p [oA, oB] F 1 [oA, oB]) from blobW h (by simp) ⟨#[97]⟩ (by decide)))
  have C4 := Lib.hid (fun (W : World) (p : Nat) (F : Nat → Prop) (h : StW w W p [oA, oB] F) => (show Calls Tryd.prog 21 #[.pointer (some ⟨p, 0, none⟩), .slice (some ⟨W.heap.size, 0, none⟩) 1 1] (W.alloc (.cells #[.string ⟨#[102]⟩, .bool false, .int .i64 1] 48)) (PutW w (W.alloc (.cells #[.string ⟨#[102]⟩, .bool false, .int .i64 1] 48)) p [oA, oB] F 3 [oA, oB, treeO [eF]]) from treeL h (by simp) [eF] 1 rfl (by omega) (by kernel_rfl)))
  have C5 := Lib.hid (fun (W : World) (p : Nat) (F : Nat → Prop) (h : StW w W p [oA, oB, treeO [eF]] F) => (show Calls Tryd.prog 21 #[.pointer (some ⟨p, 0, none⟩), .slice (some ⟨W.heap.size, 0, none⟩) 1 1] (W.alloc (.cells #[.string ⟨#[100]⟩, .bool true, .int .i64 3] 48)) (PutW w (W.alloc (.cells #[.string ⟨#[100]⟩, .bool true, .int .i64 3] 48)) p [oA, oB, treeO [eF]] F 4 O4) from treeL h (by simp) [eD] 1 rfl (by omega) (by kernel_rfl)))
  have C6 := Lib.hid (fun (W : World) (p : Nat) (F : Nat → Prop) (h : StW w W p O4 F) => (show Calls Tryd.prog 21 #[.pointer (some ⟨p, 0, none⟩), .slice (some ⟨W.heap.size, 0, none⟩) 2 2] (W.alloc (.cells #[.string ⟨#[98]⟩, .bool false, .int .i64 1, .string ⟨#[97]⟩, .bool false, .int .i64 1] 48)) (BadW w (W.alloc (.cells #[.string ⟨#[98]⟩, .bool false, .int .i64 1, .string ⟨#[97]⟩, .bool false, .int .i64 1] 48)) p O4 F) from
    treeL_bad h (by decide) eX 2 rfl (fun e he => by
      simp only [eX, List.mem_cons, List.not_mem_nil, or_false] at he
      rcases he with rfl | rfl
      · exact ⟨by decide, by decide⟩
      · exact ⟨by decide, by decide⟩) (by omega) (by kernel_rfl)))
  have C7 := Lib.hid (fun (W : World) (p : Nat) (F : Nat → Prop) (h : StW w W p O4 F) => (show Calls Tryd.prog 24 #[.pointer (some ⟨p, 0, none⟩), .int .i64 4] W (EntsOut W (some [(⟨#[100]⟩, true, 3)])) from ents_some h.st (by decide) 4 (by decide)))
  have C8 := Lib.hid (fun (W : World) (p : Nat) (F : Nat → Prop) (h : StW w W p O4 F) => (show Calls Tryd.prog 19 #[.pointer (some ⟨p, 0, none⟩)] W fun e w' => e = .returned (.int .i64 4) ∧ W = w' from many_some h.st))
  have hS := StW.start hT (Below.refl w.heap.size w)
  obtain ⟨p, hp⟩ : ∃ p, w.heap.size = p := ⟨_, rfl⟩
  have HP := Lib.hid hp
  have hS' : StW w (w.alloc (.cells #[.slice none 0 0, .map none] 36)) p [] (fun g => g = p) := by rw [← hp]; exact hS
  have NW := Lib.hid (show Calls Tryd.prog 15 #[] w fun e w' => e = .returned (.pointer (some ⟨p, 0, none⟩)) ∧ StW w w' p [] (fun g => g = p) from (new_any w).mono fun e w' ⟨he, hw⟩ => ⟨by rw [he, hp], by rw [← hw]; exact hS'⟩)
  clear hS hS' hp
  go_enter Tryd.func14, Tryd.ntmps14
  go_wp2_with (first
    | (go_at_call 15; (with_reducible refine NW.out.mono ?_); rintro e w0 ⟨rfl, h0⟩)
    | (go_at_call 18; (with_reducible refine (C1.out _ _ _ h0).mono ?_); rintro e w1 ⟨rfl, F1, h1, -⟩)
    | (go_at_call 18; (with_reducible refine (C2.out _ _ _ h1).mono ?_); rintro e w2 ⟨rfl, F2, h2, -⟩)
    | (go_at_call 18; (with_reducible refine (C3.out _ _ _ h2).mono ?_); rintro e w3 ⟨rfl, F3, h3, -⟩)
    | (go_at_call 21; (with_reducible refine (C4.out _ _ _ h3).mono ?_); rintro e w4 ⟨rfl, F4, h4, -⟩)
    | (go_at_call 21; (with_reducible refine (C5.out _ _ _ h4).mono ?_); rintro e w5 ⟨rfl, F5, h5, -⟩)
    | (go_at_call 21; (with_reducible refine (C6.out _ _ _ h5).mono ?_); rintro e w6 ⟨rfl, h6, -⟩)
    | (go_at_call 24; (with_reducible refine (C7.out _ _ _ h6).mono ?_); rintro e w7 ⟨A, c, rfl, hR, hb7⟩; (have h7 := h6.on hb7); (obtain ⟨ad, hA, x0, x0'⟩ := first_name hR); subst hA)
    | (go_at_call 19; (with_reducible refine (C8.out _ _ _ h7).mono ?_); rintro e w8 ⟨rfl, rfl⟩))
  go_ret
  exact ⟨rfl, h7.below⟩
end Go.Proofs.YthnlldojidocoaaDoor
