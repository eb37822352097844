/- Frames as sets of blocks; rows of one's own: their block, a cell, a cell that is written, a part of them. -/
import Derived.Test.YtiikbekboapphaaBase
namespace Go.Proofs.Ytiikbekboapphaa
open Go.RowKit

theorem cell_of_heap {w w' : World} {a : Addr} (h : w'.heap[a.block]? = w.heap[a.block]?) : w'.cell? a = w.cell? a := by
  unfold World.cell?; rw [h]

/-- w' is w but for the blocks of F, and new ones -/
structure Turn (F : Nat → Prop) (w w' : World) : Prop where
  os : w'.os = w.os
  tape : w'.tape = w.tape
  output : w'.output = w.output
  size : w.heap.size ≤ w'.heap.size
  block : ∀ g, g < w.heap.size → ¬ F g → w'.heap[g]? = w.heap[g]?
theorem Turn.below {F : Nat → Prop} {w w' : World} {B : Nat} (h : Turn F w w') (hF : ∀ g, F g → B ≤ g) (hB : B ≤ w.heap.size) : Below B w w' :=
  ⟨h.os, h.tape, h.output, h.size, fun k hk => h.block k (by omega) fun e => by have := hF k e; omega⟩
theorem Turn.of {F : Nat → Prop} {w w' : World} (h : Below w.heap.size w w') : Turn F w w' := ⟨h.os, h.tape, h.output, h.size, fun g hg _ => h.block g hg⟩
theorem Turn.refl (F : Nat → Prop) (w : World) : Turn F w w := ⟨rfl, rfl, rfl, Nat.le_refl _, fun _ _ _ => rfl⟩
theorem Turn.mono {F G : Nat → Prop} {w w' : World} (h : Turn F w w') (hg : ∀ g, F g → G g) : Turn G w w' := ⟨h.os, h.tape, h.output, h.size, fun g hl hn => h.block g hl fun e => hn (hg g e)⟩
theorem Turn.trans_ {F : Nat → Prop} {w w1 w2 : World} (h : Turn F w w1) (k : Turn F w1 w2) : Turn F w w2 :=
  ⟨k.os.trans h.os, k.tape.trans h.tape, k.output.trans h.output, Nat.le_trans h.size k.size, fun g hl hn => (k.block g (Nat.lt_of_lt_of_le hl h.size) hn).trans (h.block g hl hn)⟩
theorem Turn.grown {F : Nat → Prop} {w w' : World} {row : Option Nat} (h : w.grownBy w' row) (hr : ∀ g, row = some g → F g ∨ w.heap.size ≤ g) : Turn F w w' :=
  ⟨h.os, h.tape, h.output, h.size, fun g hl hn => h.block g hl fun e => (hr g e.symm).elim hn fun h => by omega⟩
theorem Turn.set_ {F : Nat → Prop} {w : World} {a : Addr} (hF : F a.block) (u : Value) : Turn F w (w.setCell a u) :=
  ⟨rfl, rfl, rfl, by simp [World.setCell], fun g _ hn => Below.heap_setCell w a u g fun e => hn (by rw [e]; exact hF)⟩
/-- blocks that are new ahead count as new -/
theorem Turn.late {F G : Nat → Prop} {w w1 w2 : World} (h : Turn F w w1) (k : Turn G w1 w2) (hG : ∀ g, G g → F g ∨ w.heap.size ≤ g) : Turn F w w2 :=
  ⟨k.os.trans h.os, k.tape.trans h.tape, k.output.trans h.output, Nat.le_trans h.size k.size, fun g hl hn => (k.block g (Nat.lt_of_lt_of_le hl h.size) (fun e => (hG g e).elim hn fun h => by omega)).trans (h.block g hl hn)⟩
theorem Turn.drewN_ {F : Nat → Prop} {w w' : World} (h : Turn F w w') (k : Nat) : Turn F w (w'.drewN k) := ⟨h.os, h.tape, h.output, h.size, h.block⟩
theorem Turn.drew {F : Nat → Prop} {w w' : World} (h : Turn F w w') : Turn F w w'.drew := ⟨h.os, h.tape, h.output, h.size, h.block⟩
theorem Turn.from_drew {F : Nat → Prop} {w w' : World} {k : Nat} (h : Turn F (w.drewN k) w') : Turn F w w' := ⟨h.os, h.tape, h.output, h.size, h.block⟩
theorem Turn.far {F : Nat → Prop} {w w' : World} (h : Turn F w w') {g : Nat} {t : TypeId} {cs : List Value} (hf : Full w g t cs) (hn : ¬ F g) : Full w' g t cs := (h.block g hf.lt hn).trans hf

/-- .. and the blocks that belong to it behind the call are those of F, or new. -/
structure Goes (F : Nat → Prop) (w w' : World) (F' : Nat → Prop) : Prop where
  turn : Turn F w w'
  back : ∀ g, F' g → F g ∨ w.heap.size ≤ g
theorem Goes.trans {F F1 F2 : Nat → Prop} {w w1 w2 : World} (h : Goes F w w1 F1) (k : Goes F1 w1 w2 F2) : Goes F w w2 F2 where
  turn := ⟨k.turn.os.trans h.turn.os, k.turn.tape.trans h.turn.tape, k.turn.output.trans h.turn.output, Nat.le_trans h.turn.size k.turn.size, fun g hg hF => by
    have h1 : ¬ F1 g := fun e => (h.back g e).elim hF fun h => by omega
    rw [k.turn.block g (Nat.lt_of_lt_of_le hg h.turn.size) h1, h.turn.block g hg hF]⟩
  back := fun g hg => (k.back g hg).elim (h.back g) fun h1 => .inr (Nat.le_trans h.turn.size h1)
theorem Goes.of {F : Nat → Prop} {w w' : World} (h : Below w.heap.size w w') : Goes F w w' F := ⟨Turn.of h, fun _ h => .inl h⟩
theorem Goes.refl (F : Nat → Prop) (w : World) : Goes F w w F := ⟨Turn.refl F w, fun _ h => .inl h⟩
theorem Goes.pre {F F' : Nat → Prop} {w w1 w2 : World} (h : Below w.heap.size w w1) (k : Goes F w1 w2 F') : Goes F w w2 F' := (Goes.of h).trans k
theorem Goes.drewN_ {F F' : Nat → Prop} {w w' : World} (h : Goes F w w' F') (k : Nat) : Goes F w (w'.drewN k) F' := ⟨h.turn.drewN_ k, h.back⟩
theorem Goes.drew {F F' : Nat → Prop} {w w' : World} (h : Goes F w w' F') : Goes F w w'.drew F' := ⟨h.turn.drew, h.back⟩
theorem Goes.same {F : Nat → Prop} {w w' : World} (h : Turn F w w') : Goes F w w' F := ⟨h, fun _ h => .inl h⟩
theorem Goes.below {F F' : Nat → Prop} {w w' : World} {B : Nat} (h : Goes F w w' F') (hF : ∀ g, F g → B ≤ g) (hB : B ≤ w.heap.size) : Below B w w' := h.turn.below hF hB
theorem Goes.ge {F F' : Nat → Prop} {w w' : World} {B : Nat} (h : Goes F w w' F') (hF : ∀ g, F g → B ≤ g) (hB : B ≤ w.heap.size) : ∀ g, F' g → B ≤ g :=
  fun g hg => (h.back g hg).elim (hF g) fun h => by omega

/-- The slice's cells lie in blocks of F. -/
def RowF (w : World) (F : Nat → Prop) (size : Nat) (A : Option Addr) (n c : Nat) (xs : List Value) : Prop :=
  xs.length = n * size ∧ n ≤ c ∧ (A = none → c = 0) ∧ ∀ j u, xs[j]? = some u → ∃ ad, A = some ad ∧ F ad.block ∧ w.cell? (ad.add j) = some u
theorem RowF.keep {w w' : World} {F G : Nat → Prop} {size n c : Nat} {A : Option Addr} {xs : List Value} (h : RowF w F size A n c xs) (hk : ∀ g, F g → G g ∧ w'.heap[g]? = w.heap[g]?) : RowF w' G size A n c xs :=
  ⟨h.1, h.2.1, h.2.2.1, fun j u hj => by
    obtain ⟨ad, e, hg, hc⟩ := h.2.2.2 j u hj
    exact ⟨ad, e, (hk _ hg).1, (cell_of_heap (by rw [add_block]; exact (hk _ hg).2)).trans hc⟩⟩
theorem RowF.row {w : World} {F : Nat → Prop} {size n c B : Nat} {A : Option Addr} {xs : List Value} (h : RowF w F size A n c xs) (hF : ∀ g, F g → g < B) : Row w B size A n c xs :=
  ⟨h.1, h.2.1, h.2.2.1, fun j u hj => by
    obtain ⟨ad, e, hg, hc⟩ := h.2.2.2 j u hj
    exact ⟨ad, e, hF _ hg, hc⟩⟩
theorem RowF.nil (w : World) (F : Nat → Prop) (size : Nat) : RowF w F size none 0 0 [] := ⟨by simp, Nat.le_refl _, fun _ => rfl, fun j u hj => by simp at hj⟩

theorem owns_keep {w w' : World} {base size n : Nat} {e : TypeId} {v : Value} {xs : List Value} (h : w.ownsRow base e size v n xs) (hb : ∀ g, v.ownBlock = some g → w'.heap[g]? = w.heap[g]?) : w'.ownsRow base e size v n xs := by
  refine ⟨h.1, ?_⟩
  rcases h.2 with h0 | ⟨g, cap, cur, rfl, hg, hh, h3⟩
  · exact .inl h0
  · exact .inr ⟨g, cap, cur, rfl, hg, (hb g rfl).trans hh, h3⟩
theorem owns_lt {w : World} {base size n : Nat} {e : TypeId} {v : Value} {xs : List Value} (h : w.ownsRow base e size v n xs) : ∀ g, v.ownBlock = some g → g < w.heap.size := by
  intro g hg
  rcases h.2 with ⟨rfl, _⟩ | ⟨g', cap, cur, rfl, _, hh, _⟩
  · simp [Value.ownBlock] at hg
  · obtain rfl : g' = g := by simpa [Value.ownBlock] using hg
    exact (Array.getElem?_eq_some_iff.1 hh).1
theorem owns_row {w : World} {base size n c : Nat} {e : TypeId} {A : Option Addr} {xs : List Value} {F : Nat → Prop} (h : w.ownsRow base e size (.slice A n c) n xs) (hF : ∀ g, (Value.slice A n c).ownBlock = some g → F g) : RowF w F size A n c xs := by
  have hl := h.1
  rcases h.2 with ⟨hv, h0⟩ | ⟨g, cap, cur, hv, _, hg, hle, _⟩
  · injection hv with h1 h2 h3
    subst h1 h2 h3
    have hx : xs = [] := List.eq_nil_of_length_eq_zero (by simpa using hl)
    subst hx
    exact ⟨by simp, Nat.le_refl _, fun _ => rfl, fun j u hj => by simp at hj⟩
  · injection hv with h1 h2 h3
    subst h1 h3
    exact ⟨hl, by omega, fun h => (by cases h), fun j u hj => ⟨_, rfl, hF g rfl, h.cells (g := g) rfl j u hj⟩⟩
theorem owns_base {w : World} {base base' size n : Nat} {e : TypeId} {v : Value} {xs : List Value} (h : w.ownsRow base e size v n xs) (hb : ∀ g, v.ownBlock = some g → base' ≤ g) : w.ownsRow base' e size v n xs := by
  refine ⟨h.1, h.2.imp id ?_⟩
  rintro ⟨g, cap, cur, rfl, h1, h2⟩
  exact ⟨g, cap, cur, rfl, hb g rfl, h2⟩

theorem own_block {w : World} {base size n c : Nat} {e : TypeId} {a : Addr} {xs : List Value} (h : w.ownsRow base e size (.slice (some a) n c) n xs) :
    ∃ g cur, a = ⟨g, 0, none⟩ ∧ base ≤ g ∧ w.heap[g]? = some (.cells cur e (0, 0)) ∧ n ≤ c ∧ c ≤ maxLen ∧ cur.size = c * size ∧ cur.toList.take (n * size) = xs := by
  rcases h.2 with ⟨h0, _⟩ | ⟨g, cap, cur, hv, h1, h2, h3, h4, h5, h6⟩
  · cases h0
  · injection hv with e1 e2 e3
    injection e1 with e1
    subst e3
    exact ⟨g, cur, e1, h1, h2, h3, h4, h5, h6⟩
theorem own_of_block {w : World} {base size n c g : Nat} {e : TypeId} {cur : Array Value} {xs : List Value} (h1 : base ≤ g) (h2 : w.heap[g]? = some (.cells cur e (0, 0))) (h3 : n ≤ c) (h4 : c ≤ maxLen) (h5 : cur.size = c * size) (h6 : cur.toList.take (n * size) = xs) :
    w.ownsRow base e size (.slice (some ⟨g, 0, none⟩) n c) n xs := by
  refine ⟨?_, .inr ⟨g, c, cur, rfl, h1, h2, h3, h4, h5, h6⟩⟩
  rw [← h6, List.length_take, Array.length_toList, h5]
  exact Nat.min_eq_left (Nat.mul_le_mul_right _ h3)
theorem own_set {W : World} {base g n c size : Nat} {t : TypeId} {xs : List Value} (h : W.ownsRow base t size (.slice (some ⟨g, 0, none⟩) n c) n xs) (q : Nat) (u : Value) :
    (W.setCell ⟨g, q, none⟩ u).ownsRow base t size (.slice (some ⟨g, 0, none⟩) n c) n (xs.set q u) := by
  obtain ⟨g', cur, e, hb, hh, hle, hm, hcs, ht⟩ := own_block h
  obtain rfl : g = g' := by injection e
  exact own_of_block (cur := cur.setIfInBounds q u) hb (by simp [World.setCell, Array.getElem?_modify, hh]) hle hm (by simp [hcs]) (by rw [Array.toList_setIfInBounds, List.take_set, ht])
theorem own_cell {W : World} {base g n c size q : Nat} {t : TypeId} {xs : List Value} (h : W.ownsRow base t size (.slice (some ⟨g, 0, none⟩) n c) n xs) (hq : q < n * size) : W.cell? ⟨g, q, none⟩ = xs[q]? ∧ W.frozen? ⟨g, q, none⟩ = false := by
  obtain ⟨g', cur, e, hb, hh, hle, hm, hcs, ht⟩ := own_block h
  obtain rfl : g = g' := by injection e
  have hqc : q < cur.size := by rw [hcs]; exact Nat.lt_of_lt_of_le hq (Nat.mul_le_mul_right _ hle)
  refine ⟨?_, by simp [World.frozen?, hh]⟩
  rw [← ht, List.getElem?_take_of_lt hq]
  simp [World.cell?, hh]
theorem own_cut {W : World} {base g n c size m : Nat} {t : TypeId} {xs : List Value} (h : W.ownsRow base t size (.slice (some ⟨g, 0, none⟩) n c) n xs) (hm : m ≤ n) :
    W.ownsRow base t size (.slice (some ⟨g, 0, none⟩) m c) m (xs.take (m * size)) := by
  obtain ⟨g', cur, e, hb, hh, hle, hmx, hcs, ht⟩ := own_block h
  obtain rfl : g = g' := by injection e
  exact own_of_block (cur := cur) hb hh (Nat.le_trans hm hle) hmx hcs (by rw [← ht, List.take_take, Nat.min_eq_left (Nat.mul_le_mul_right _ hm)])
theorem own_full {w : World} {g size n base : Nat} {t : TypeId} {cs : List Value} (h : Full w g t cs) (hn : cs.length = n * size) (hm : n ≤ maxLen) (hb : base ≤ g) : w.ownsRow base t size (.slice (some ⟨g, 0, none⟩) n n) n cs :=
  own_of_block (cur := cs.toArray) hb h (Nat.le_refl _) hm (by simpa using hn) (by rw [List.toList_toArray, List.take_of_length_le (Nat.le_of_eq hn)])
/-- a row of at least one element has a block -/
theorem own_some {w : World} {base size n : Nat} {e : TypeId} {v : Value} {xs : List Value} (h : w.ownsRow base e size v n xs) (hn : 0 < n) : ∃ g c, v = .slice (some ⟨g, 0, none⟩) n c ∧ g < w.heap.size ∧ n ≤ c ∧ c ≤ maxLen := by
  rcases h.2 with ⟨_, h0⟩ | ⟨g, cap, cur, hv, _, hg, hle, hm, _⟩
  · omega
  · exact ⟨g, cap, hv, (Array.getElem?_eq_some_iff.1 hg).1, hle, hm⟩

/-- cells of ints -/
def intC (l : List Int) : List Value := l.map fun k => Value.int .i64 k
theorem natC_len (l : List Nat) : (natC l).length = l.length := by simp [natC]
theorem natC_at (l : List Nat) (k : Nat) (hk : k < l.length) : (natC l)[k]? = some (.int .i64 ((l.getD k 0 : Nat) : Int)) := by simp [natC, hk]
theorem natC_set (l : List Nat) (k x : Nat) : natC (l.set k x) = (natC l).set k (.int .i64 (x : Int)) := by simp [natC, List.map_set]
theorem natC_take (l : List Nat) (k : Nat) : natC (l.take k) = (natC l).take k := by simp [natC, List.map_take]
theorem natC_snoc (l : List Nat) (x : Nat) : natC (l ++ [x]) = natC l ++ [.int .i64 (x : Int)] := by simp [natC]
theorem intC_len (l : List Int) : (intC l).length = l.length := by simp [intC]
theorem intC_at (l : List Int) (k : Nat) (hk : k < l.length) : (intC l)[k]? = some (.int .i64 (l.getD k 0)) := by simp [intC, hk]
theorem intC_snoc (l : List Int) (x : Int) : intC (l ++ [x]) = intC l ++ [.int .i64 x] := by simp [intC]
theorem natC_int (l : List Nat) : natC l = intC (l.map Int.ofNat) := by simp [natC, intC]
end Go.Proofs.Ytiikbekboapphaa
