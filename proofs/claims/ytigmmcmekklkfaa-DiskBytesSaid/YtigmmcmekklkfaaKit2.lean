/- What more the laws share. -/
import Derived.Test.YtigmmcmekklkfaaKit
namespace Go.Proofs.Ytigmmcmekklkfaa
set_option maxRecDepth 100000
open Go.RowKit
theorem Both.side {w W : World} {p q : Nat} {d1 d2 : Dk} {X : Nat → Prop} (h : Both w W p q d1 d2 X) : Side w W p d1 (fun _ => False) := by
  obtain ⟨F, G, i1, i2, i3, i4⟩ := h.his
  exact ⟨h.bel, F, i1, fun g hg => hg.elim⟩
end Go.Proofs.Ytigmmcmekklkfaa
