/- What the laws share: a new desk. -/
import Derived.Test.YtigmmcmekklkfaaOpen
import Derived.BigQuiet
namespace Go.Proofs.Ytigmmcmekklkfaa
set_option maxRecDepth 100000
open Go.RowKit
theorem both_new {w w1 w2 w3 : World} {p q : Nat} (hb1 : Below w.heap.size w w1) (hD : IsD w1.heap.size w2 p Dk.new (fun g => g = p)) (hb2 : Below w1.heap.size w1 w2) (hR : IsR w2.heap.size w3 q Dk.new (fun g => g = q)) (hb3 : Below w2.heap.size w2 w3) : Both w w3 p q Dk.new Dk.new (fun _ => False) :=
  ⟨Below.then_ (Below.then_ hb1 hb2) hb3, _, _, (hD.less hb1.size).on hb3, hR.less (Nat.le_trans hb1.size hb2.size), fun g hg hg2 => by have := (hD.in_ g hg).2; have := (hR.in_ g hg2).1; omega, fun g hg => hg.elim⟩
theorem desk_new {w w1 w2 w3 : World} {p q : Nat} (hb1 : Below w.heap.size w w1) (hD : IsD w1.heap.size w2 p Dk.new (fun g => g = p)) (hb2 : Below w1.heap.size w1 w2) (hR : IsR w2.heap.size w3 q Dk.new (fun g => g = q)) (hb3 : Below w2.heap.size w2 w3) :
    Desk w (w3.alloc (.cells #[.pointer (some ⟨p, 0, none⟩), .pointer (some ⟨q, 0, none⟩)] 30)) w3.heap.size Dk.new :=
  ⟨p, q, ((both_new hb1 hD hb2 hR hb3).more ((Below.refl _ w3).alloc (Nat.le_refl _) _) (Nat.le_refl _) (by simp)).less (fun g hg => .inr hg), Full.new w3 30 _⟩
theorem Desk.bel {w W : World} {x : Nat} {d : Dk} (h : Desk w W x d) : Below w.heap.size w W := by
  obtain ⟨p, q, hB, _⟩ := h
  exact hB.bel
theorem Desk.drewN {w W : World} {x : Nat} {d : Dk} (h : Desk w W x d) (k : Nat) : Desk w (W.drewN k) x d := by
  obtain ⟨p, q, hB, hX⟩ := h
  exact ⟨p, q, hB.drewN k, hX.drewN k⟩
theorem Desk.on {w W W' : World} {x : Nat} {d : Dk} (h : Desk w W x d) (hb : Below W.heap.size W W') : Desk w W' x d := by
  obtain ⟨p, q, hB, hX⟩ := h
  exact ⟨p, q, hB.on hb, hX.on hb⟩
end Go.Proofs.Ytigmmcmekklkfaa
