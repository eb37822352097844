/- More of what the laws share. -/
import Derived.Test.YthnlldojidocoaaDoorLaws
namespace Go.Proofs.YthnlldojidocoaaDoor
open Go.RowKit Go.Maps
theorem newW {w : World} (hT : Tab w) (W : World) (h : Below w.heap.size w W) : Calls Tryd.prog 15 #[] W fun e w' => e = .returned (.pointer (some ⟨W.heap.size, 0, none⟩)) ∧ StW w w' W.heap.size [] (fun g => g = W.heap.size) :=
  (new_any W).mono fun e w' ⟨he, hw⟩ => ⟨he, by rw [← hw]; exact StW.start hT h⟩
theorem small1 (b : UInt8) : (⟨#[b]⟩ : ByteArray).size ≤ maxLen := by
  show 1 ≤ maxLen
  unfold maxLen; omega
end Go.Proofs.YthnlldojidocoaaDoor
