/- The reference's Open. -/
import Derived.Test.YthhpnlobhffimaaJRefF
namespace Go.Proofs.Ythhpnlobhffimaa
set_option maxRecDepth 100000
open Go.ChangeShapes Go.WideShapes Go.RowKit
section
variable {w W W' : World} {q : Nat} {d : Dk} {X : Nat → Prop}
theorem RSide.plus (h : RSide w W q d X) {Y : Nat → Prop} (hb : Below W.heap.size W W') (hY : ∀ g, Y g → W.heap.size ≤ g ∧ g < W'.heap.size) : RSide w W' q d (fun g => X g ∨ Y g) := by
  obtain ⟨F, i1, i4⟩ := h.his
  refine ⟨Below.then_ h.bel hb, F, i1.on hb, fun g hg => ?_⟩
  rcases hg with hg | hg
  · exact ⟨(i4 g hg).1, Nat.lt_of_lt_of_le (i4 g hg).2 hb.size⟩
  · exact ⟨fun e => by have := (i1.in_ g e).2; have := (hY g hg).1; omega, (hY g hg).2⟩
theorem RSide.good (h : RSide w W q d X) : d.Good := by
  obtain ⟨F, i1, _⟩ := h.his; exact i1.good
theorem RSide.now (h : RSide w W q d X) : W.cell? ⟨q, 0, none⟩ = some (.string (str d.now)) := by
  obtain ⟨G, ⟨c, lf, lm, hR⟩, _⟩ := h.his
  exact hR.full.cell 0
def ROOut (w W : World) (q : Nat) (d : Dk) (X : Nat → Prop) (e : Ending) (W' : World) : Prop :=
  ((openD d).1 ≠ 0 ∧ e = .returned (.tuple #[.pointer none, .slice none 0 0, .int .i64 (openD d).1]) ∧ RS w W q (openD d).2 X W') ∨
  ((openD d).1 = 0 ∧ ∃ g A cap, e = .returned (.tuple #[.pointer (some ⟨g, 0, none⟩), .slice A (recs d.now).length cap, .int .i64 0]) ∧
    RP w W q g ⟨(openD d).2, recs d.now, false⟩ X W' ∧ RJ w W' q g ⟨(openD d).2, recs d.now, false⟩ (fun x => X x ∨ (Value.slice A (recs d.now).length cap).ownBlock = some x) ∧
    W'.ownsRow W.heap.size 9 1 (.slice A (recs d.now).length cap) (recs d.now).length (strC ((recs d.now).map str)))
/-- the disk where Open stands behind the frames -/
theorem ro_err {D : Dk} {v : Int} {W1 : World} {Y : Nat → Prop} (ho : openD d = (v, D)) (hv : v ≠ 0) (hb : ∀ x, X x → W1.heap[x]? = W.heap[x]?) (hs : W.heap.size ≤ W1.heap.size) (hY : ∀ x, X x → Y x) (k : RS w W1 q D Y W') :
    ROOut w W q d X (.returned (.tuple #[.pointer none, .slice none 0 0, .int .i64 v])) W' := by
  unfold ROOut
  rw [ho]
  exact .inl ⟨hv, rfl, k.1.less hY, fun x hx => (k.2.1 x (hY x hx)).trans (hb x hx), Nat.le_trans hs k.2.2⟩
theorem ro_ok {D : Dk} {W1 : World} {A : Option Addr} {n cap E : Nat} (hR : RSide w W q d X) (ho : openD d = (0, D)) (hn : (recs d.now).length = n) (hE : (fl (recs d.now)).length = E) (hE2 : E ≤ 16777216) (hb : Below W.heap.size W W1)
    (hrow : W1.ownsRow W.heap.size 9 1 (.slice A n cap) n (strC ((recs d.now).map str))) (k : RS w W1 q D (fun x => X x ∨ (Value.slice A n cap).ownBlock = some x) W') :
    ROOut w W q d X (.returned (.tuple #[.pointer (some ⟨W'.heap.size, 0, none⟩), .slice A n cap, .int .i64 0])) (W'.alloc (.cells #[.pointer (some ⟨q, 0, none⟩), .int .i64 (E : Int), .int .i64 (n : Int), .bool false] 94)) := by
  unfold ROOut
  rw [ho]
  subst hn hE
  have hal : Below W'.heap.size W' (W'.alloc (.cells #[.pointer (some ⟨q, 0, none⟩), .int .i64 ((fl (recs d.now)).length : Int), .int .i64 ((recs d.now).length : Int), .bool false] 94)) := (Below.refl _ W').alloc (Nat.le_refl _) _
  have hJ : RJ w (W'.alloc (.cells #[.pointer (some ⟨q, 0, none⟩), .int .i64 ((fl (recs d.now)).length : Int), .int .i64 ((recs d.now).length : Int), .bool false] 94)) q W'.heap.size ⟨D, recs d.now, false⟩ (fun x => X x ∨ (Value.slice A (recs d.now).length cap).ownBlock = some x) := by
    obtain ⟨G, i1, i4⟩ := k.1.his
    refine ⟨⟨Below.then_ k.1.bel hal, G, i1.on hal, ?_⟩, Full.new W' 94 _, k.1.bel.size, fun e => ?_, hE2⟩
    · rintro x (rfl | hx)
      · exact ⟨fun e => by have := (i1.in_ _ e).2; omega, by simp⟩
      · exact ⟨(i4 x hx).1, by have := (i4 x hx).2; simp; omega⟩
    · have := (i4 _ e).2; omega
  have hsz := hb.size
  have hk2 := k.2.2
  obtain ⟨G0, j1, j4⟩ := hR.his
  refine .inr ⟨rfl, _, A, cap, rfl, ⟨⟨hJ.side.less (fun x hx => ?_), hJ.full, hJ.ge, fun e => hJ.out (.inl e), hJ.few⟩, fun x hx => ?_, ?_⟩, hJ, ?_⟩
  · rcases hx with rfl | hx
    · exact .inl rfl
    · exact .inr (.inl hx)
  · have h1 := (j4 x hx).2
    exact (hal.block x (by omega)).trans ((k.2.1 x (.inl hx)).trans (hb.block x h1))
  · have := hal.size; omega
  · refine owns_keep hrow (fun g hg => ?_)
    have := owns_lt hrow g hg
    exact (hal.block g (by omega)).trans (k.2.1 g (.inr hg))
end
end Go.Proofs.Ythhpnlobhffimaa
