/- Two journals that have been opened, with the rows that Open returned. -/
import Derived.Test.YthhpnlobhffimaaJDuo
namespace Go.Proofs.Ythhpnlobhffimaa
set_option maxRecDepth 100000
open Go.RowKit
section
variable {w W W' : World} {p b q g : Nat} {d1 d2 : Dk} {j1 j2 : Jn} {Y Z : Nat → Prop}
/-- a journal with its row beside the reference's disk -/
def DuoR (w W : World) (p b q : Nat) (j1 : Jn) (d2 : Dk) (Y : Nat → Prop) : Prop := ∃ G, Jw w W p b j1 (fun x => G x ∨ Y x) ∧ IsR w.heap.size W q d2 G ∧ ∀ x, Y x → ¬ G x
theorem Duo0.rows (h : Duo0 w W p q d1 d2) : ∃ G, Side w W p d1 G ∧ ∀ (W' : World) (b : Nat) (j1 : Jn) (Y : Nat → Prop), JPost w W p b j1 G W' → Jw w W' p b j1 (fun x => G x ∨ Y x) → (∀ x, Y x → W.heap.size ≤ x) → DuoR w W' p b q j1 d2 Y := by
  obtain ⟨G, h1, h2⟩ := h
  exact ⟨G, h1, fun W' b j1 Y k kj hY => ⟨G, kj, h2.keep k.2.1 k.2.2, fun x hx e => by have := (h2.in_ x e).2; have := hY x hx; omega⟩⟩
theorem DuoR.opened (h : DuoR w W p b q j1 d2 Y) : ∃ F, RSide w W q d2 F ∧ (∀ x, Y x → F x) ∧ ∀ (W' : World) (g : Nat) (j2 : Jn) (Z : Nat → Prop), RP w W q g j2 F W' → RJ w W' q g j2 (fun x => F x ∨ Z x) → (∀ x, Z x → W.heap.size ≤ x) → Duo2 w W' p b q g j1 j2 (fun x => Y x ∨ Z x) := by
  obtain ⟨G, h1, h2, h3⟩ := h
  obtain ⟨F, i1, i4⟩ := h1.side.his
  have hbs : b < W.heap.size := (i4 b (.inl rfl)).2
  refine ⟨fun x => (F x ∨ x = b) ∨ Y x, ⟨h1.side.bel, G, h2, ?_⟩, fun x hx => .inr hx, fun W' g j2 Z k kj hZ => ?_⟩
  · rintro x ((hx | rfl) | hx)
    · exact ⟨fun e => (i4 x (.inr (.inl e))).1 hx, (i1.in_ x hx).2⟩
    · exact ⟨fun e => h1.out (.inl e), hbs⟩
    · exact ⟨h3 x hx, (i4 x (.inr (.inr hx))).2⟩
  · obtain ⟨G', k1, k4⟩ := kj.side.his
    have hgb : b ≠ g := fun e => k.1.out (.inl (.inr e.symm))
    refine ⟨G', ⟨⟨kj.side.bel, F, i1.keep (fun x hx => k.2.1 x (.inl (.inl hx))) k.2.2, ?_⟩, (k.2.1 b (.inl (.inr rfl))).trans h1.full, h1.ge, ?_, h1.few⟩, k1, (k4 g (.inl rfl)).1, fun x hx => ⟨?_, ?_⟩, kj.full, kj.ge, kj.few⟩
    · rintro x (rfl | (hx | rfl) | hx | hx)
      · exact ⟨(i4 x (.inl rfl)).1, Nat.lt_of_lt_of_le hbs k.2.2⟩
      · exact ⟨fun e => (k4 x (.inr (.inl (.inl (.inl e))))).1 hx, (k1.in_ x hx).2⟩
      · exact ⟨fun e => k.1.out (.inl (.inl e)), (k4 x (.inl rfl)).2⟩
      · exact ⟨(i4 x (.inr (.inr hx))).1, Nat.lt_of_lt_of_le (i4 x (.inr (.inr hx))).2 k.2.2⟩
      · exact ⟨fun e => by have := (i1.in_ x e).2; have := hZ x hx; omega, (k4 x (.inr (.inr hx))).2⟩
    · rintro ((hx | rfl) | hx | hx)
      · exact (k4 b (.inr (.inl (.inl (.inr rfl))))).1 hx
      · exact hgb rfl
      · exact h1.out (.inr hx)
      · have := hZ b hx; omega
    · rcases hx with hx | hx
      · exact (k4 x (.inr (.inl (.inr hx)))).1
      · exact (k4 x (.inr (.inr hx))).1
    · rintro rfl
      rcases hx with hx | hx
      · exact k.1.out (.inr hx)
      · exact kj.out (.inr hx)
end
end Go.Proofs.Ythhpnlobhffimaa
