/- The chapter's examples: sanity returns true. -/
import Derived.Test.YtdbikaffmpkgpaaDoorMatch
import Derived.Test.YtdbikaffmpkgpaaDoorOrder
namespace Go.Proofs.YtdbikaffmpkgpaaDoor
open Go.RowKit

theorem below_drawn {w w' : World} (h : ∃ q, w' = w.drewN q) : Below w.heap.size w w' := by
  obtain ⟨q, rfl⟩ := h
  exact Below.drewN_ (Below.refl _ _) q
/-- a world on the way of a law: nothing old has turned, the table is there -/
structure Way (w W : World) : Prop where
  below : Below w.heap.size w W
  tab : Tab W
theorem Way.start {w : World} (h : Tab w) : Way w w := ⟨Below.refl _ _, h⟩
theorem Way.on {w W W' : World} (h : Way w W) (hb : Below W.heap.size W W') : Way w W' := ⟨Below.then_ h.below hb, h.tab.on hb⟩
theorem Way.drewN {w W : World} (h : Way w W) (q : Nat) : Way w (W.drewN q) := ⟨Below.drewN_ h.below q, h.tab⟩
theorem Way.alloc {w W : World} (h : Way w W) (o : Obj) : Way w (W.alloc o) := h.on ((Below.refl _ W).alloc (Nat.le_refl _) o)

set_option maxRecDepth 100000 in
set_option maxHeartbeats 4000000 in
theorem sane_any (w : World) (hT : Tab w) : Calls Tryd.prog 14 #[] w (BoolB w true) := by
  have hw := Way.start hT
  have V0 := Lib.hid (fun (W : World) (h : Tab W) => (show Calls Tryd.prog 16 #[.string ⟨#[97, 47, 98, 46, 99]⟩] W fun e w' => e = .returned (.bool true) ∧ ∃ q, w' = W.drewN q by
    have := valid_any ⟨#[97, 47, 98, 46, 99]⟩ W h (by decide)
    rwa [show validS ⟨#[97, 47, 98, 46, 99]⟩ = true by kernel_rfl] at this))
  have V1 := Lib.hid (fun (W : World) (h : Tab W) => (show Calls Tryd.prog 16 #[.string ⟨#[97, 47, 47, 98]⟩] W fun e w' => e = .returned (.bool false) ∧ ∃ q, w' = W.drewN q by
    have := valid_any ⟨#[97, 47, 47, 98]⟩ W h (by decide)
    rwa [show validS ⟨#[97, 47, 47, 98]⟩ = false by kernel_rfl] at this))
  have V2 := Lib.hid (fun (W : World) (h : Tab W) => (show Calls Tryd.prog 16 #[.string ⟨#[97, 47, 46, 46]⟩] W fun e w' => e = .returned (.bool false) ∧ ∃ q, w' = W.drewN q by
    have := valid_any ⟨#[97, 47, 46, 46]⟩ W h (by decide)
    rwa [show validS ⟨#[97, 47, 46, 46]⟩ = false by kernel_rfl] at this))
  have M0 := Lib.hid (fun (W : World) (h : Tab W) => (show Calls Tryd.prog 22 #[.string ⟨#[97, 47, 42, 46, 103, 111]⟩, .string ⟨#[97, 47, 120, 46, 103, 111]⟩] W (BoolB W true) by
    have := match_any ⟨#[97, 47, 42, 46, 103, 111]⟩ ⟨#[97, 47, 120, 46, 103, 111]⟩ W h (by decide) (by decide)
    rwa [show matchS ⟨#[97, 47, 42, 46, 103, 111]⟩ ⟨#[97, 47, 120, 46, 103, 111]⟩ = true by kernel_rfl] at this))
  have M1 := Lib.hid (fun (W : World) (h : Tab W) => (show Calls Tryd.prog 22 #[.string ⟨#[97, 47, 42, 46, 103, 111]⟩, .string ⟨#[97, 47, 98, 47, 120, 46, 103, 111]⟩] W (BoolB W false) by
    have := match_any ⟨#[97, 47, 42, 46, 103, 111]⟩ ⟨#[97, 47, 98, 47, 120, 46, 103, 111]⟩ W h (by decide) (by decide)
    rwa [show matchS ⟨#[97, 47, 42, 46, 103, 111]⟩ ⟨#[97, 47, 98, 47, 120, 46, 103, 111]⟩ = false by kernel_rfl] at this))
  have M2 := Lib.hid (fun (W : World) (h : Tab W) => (show Calls Tryd.prog 22 #[.string ⟨#[42, 42, 47, 120, 63]⟩, .string ⟨#[120, 49]⟩] W (BoolB W true) by
    have := match_any ⟨#[42, 42, 47, 120, 63]⟩ ⟨#[120, 49]⟩ W h (by decide) (by decide)
    rwa [show matchS ⟨#[42, 42, 47, 120, 63]⟩ ⟨#[120, 49]⟩ = true by kernel_rfl] at this))
  have M3 := Lib.hid (fun (W : World) (h : Tab W) => (show Calls Tryd.prog 22 #[.string ⟨#[42, 42, 47, 120, 63]⟩, .string ⟨#[97, 47, 98, 47, 120, 50]⟩] W (BoolB W true) by
    have := match_any ⟨#[42, 42, 47, 120, 63]⟩ ⟨#[97, 47, 98, 47, 120, 50]⟩ W h (by decide) (by decide)
    rwa [show matchS ⟨#[42, 42, 47, 120, 63]⟩ ⟨#[97, 47, 98, 47, 120, 50]⟩ = true by kernel_rfl] at this))
  have M4 := Lib.hid (fun (W : World) (h : Tab W) => (show Calls Tryd.prog 22 #[.string ⟨#[42, 42, 47, 120, 63]⟩, .string ⟨#[97, 47, 120]⟩] W (BoolB W false) by
    have := match_any ⟨#[42, 42, 47, 120, 63]⟩ ⟨#[97, 47, 120]⟩ W h (by decide) (by decide)
    rwa [show matchS ⟨#[42, 42, 47, 120, 63]⟩ ⟨#[97, 47, 120]⟩ = false by kernel_rfl] at this))
  have L0 := Lib.hid (fun (W : World) => (show Calls Tryd.prog 32 #[.string ⟨#[97, 47, 98]⟩, .string ⟨#[97, 45, 98]⟩] W fun e w' => e = .returned (.bool true) ∧ ∃ q, w' = W.drewN q by
    have := less_any ⟨#[97, 47, 98]⟩ ⟨#[97, 45, 98]⟩ W (by decide) (by decide)
    rwa [show lessS ⟨#[97, 47, 98]⟩ ⟨#[97, 45, 98]⟩ = true by kernel_rfl] at this))
  have L1 := Lib.hid (fun (W : World) => (show Calls Tryd.prog 32 #[.string ⟨#[97]⟩, .string ⟨#[97, 47, 98]⟩] W fun e w' => e = .returned (.bool true) ∧ ∃ q, w' = W.drewN q by
    have := less_any ⟨#[97]⟩ ⟨#[97, 47, 98]⟩ W (by decide) (by decide)
    rwa [show lessS ⟨#[97]⟩ ⟨#[97, 47, 98]⟩ = true by kernel_rfl] at this))
  have D0 := Lib.hid (fun (W : World) => (show Calls Tryd.prog 26 #[.string ⟨#[97, 47, 98, 47, 99]⟩] W fun e w' => e = .returned (.string ⟨#[97, 47, 98]⟩) ∧ W = w' by
    have := dir_any ⟨#[97, 47, 98, 47, 99]⟩ W (by decide)
    rwa [show dirOf ⟨#[97, 47, 98, 47, 99]⟩ = ⟨#[97, 47, 98]⟩ by kernel_rfl] at this))
  have B0 := Lib.hid (fun (W : World) => (show Calls Tryd.prog 28 #[.string ⟨#[97, 47, 98, 47, 99]⟩] W fun e w' => e = .returned (.string ⟨#[99]⟩) ∧ W = w' by
    have := base_any ⟨#[97, 47, 98, 47, 99]⟩ W (by decide)
    rwa [show baseOf ⟨#[97, 47, 98, 47, 99]⟩ = ⟨#[99]⟩ by kernel_rfl] at this))
  go_enter Tryd.func14, Tryd.ntmps14
  go_wp2_with (first
    | (go_at_call 16; (with_reducible refine (V0.out _ ?_).mono ?_); exact hw.tab; rintro e w1 ⟨rfl, hq⟩; have hw := hw.on (below_drawn hq))
    | (go_at_call 16; (with_reducible refine (V1.out _ ?_).mono ?_); exact hw.tab; rintro e w1 ⟨rfl, hq⟩; have hw := hw.on (below_drawn hq))
    | (go_at_call 16; (with_reducible refine (V2.out _ ?_).mono ?_); exact hw.tab; rintro e w1 ⟨rfl, hq⟩; have hw := hw.on (below_drawn hq))
    | (go_at_call 22; (with_reducible refine (M0.out _ ?_).mono ?_); exact hw.tab; rintro e w1 ⟨rfl, hb⟩; have hw := hw.on hb)
    | (go_at_call 22; (with_reducible refine (M1.out _ ?_).mono ?_); exact hw.tab; rintro e w1 ⟨rfl, hb⟩; have hw := hw.on hb)
    | (go_at_call 22; (with_reducible refine (M2.out _ ?_).mono ?_); exact hw.tab; rintro e w1 ⟨rfl, hb⟩; have hw := hw.on hb)
    | (go_at_call 22; (with_reducible refine (M3.out _ ?_).mono ?_); exact hw.tab; rintro e w1 ⟨rfl, hb⟩; have hw := hw.on hb)
    | (go_at_call 22; (with_reducible refine (M4.out _ ?_).mono ?_); exact hw.tab; rintro e w1 ⟨rfl, hb⟩; have hw := hw.on hb)
    | (go_at_call 32; (with_reducible refine (L0.out _).mono ?_); rintro e w1 ⟨rfl, hq⟩; have hw := hw.on (below_drawn hq))
    | (go_at_call 32; (with_reducible refine (L1.out _).mono ?_); rintro e w1 ⟨rfl, hq⟩; have hw := hw.on (below_drawn hq))
    | (go_at_call 26; (with_reducible refine (D0.out _).mono ?_); rintro e w1 ⟨rfl, rfl⟩)
    | (go_at_call 28; (with_reducible refine (B0.out _).mono ?_); rintro e w1 ⟨rfl, rfl⟩))
  go_ret
  exact ⟨rfl, hw.below⟩

end Go.Proofs.YtdbikaffmpkgpaaDoor
