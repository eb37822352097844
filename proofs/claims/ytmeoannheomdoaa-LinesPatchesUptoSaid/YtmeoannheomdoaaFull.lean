/- A block that is known whole. -/
import Derived.Laws.MakeOwn
import Derived.Test.YtmeoannheomdoaaWords
namespace Go.Proofs.Ytmeoannheomdoaa
open Go.RowKit

/-- Block g holds just the cells cs, of element type t, none frozen. -/
def Full (w : World) (g : Nat) (t : TypeId) (cs : List Value) : Prop := w.heap[g]? = some (.cells cs.toArray t (0, 0))
section
variable {w w' : World} {g : Nat} {t : TypeId} {cs : List Value}
theorem Full.lt (h : Full w g t cs) : g < w.heap.size := (Array.getElem?_eq_some_iff.1 h).1
theorem Full.cell (h : Full w g t cs) (i : Nat) : w.cell? ⟨g, i, none⟩ = cs[i]? := by
  simp [World.cell?, show w.heap[g]? = _ from h]
theorem Full.frozen (h : Full w g t cs) (i : Nat) : w.frozen? ⟨g, i, none⟩ = false := by
  simp [World.frozen?, show w.heap[g]? = _ from h]
theorem Full.new (w : World) (t : TypeId) (cs : List Value) : Full (w.alloc (.cells cs.toArray t)) w.heap.size t cs := heap_alloc_new w _
theorem Full.drewN (h : Full w g t cs) (n : Nat) : Full (w.drewN n) g t cs := h
theorem Full.drew (h : Full w g t cs) : Full w.drew g t cs := h
theorem Full.alloc (h : Full w g t cs) (o : Obj) : Full (w.alloc o) g t cs := (Below.heap_alloc w o g h.lt).trans h
theorem Full.set_ (h : Full w g t cs) (i : Nat) (u : Value) : Full (w.setCell ⟨g, i, none⟩ u) g t (cs.set i u) := by
  unfold Full at h ⊢
  simp [World.setCell, Array.getElem?_modify, h]
theorem Full.far (h : Full w g t cs) {p : Addr} (hp : g ≠ p.block) (u : Value) : Full (w.setCell p u) g t cs := (Below.heap_setCell w p u g hp).trans h
theorem Full.below {B : Nat} (h : Full w g t cs) (hb : Below B w w') (hg : g < B) : Full w' g t cs := (hb.block g hg).trans h
theorem Full.on (h : Full w g t cs) (hb : Below w.heap.size w w') : Full w' g t cs := h.below hb h.lt
theorem Full.grown {row : Option Nat} (h : Full w g t cs) (hb : w.grownBy w' row) (hg : some g ≠ row) : Full w' g t cs := (hb.block g h.lt hg).trans h
theorem Full.ne_ {g' : Nat} {t' : TypeId} {cs' : List Value} (h : Full w g t cs) (h' : Full w g' t' cs') (hne : t ≠ t') : g ≠ g' := by
  rintro rfl
  have := (show w.heap[g]? = _ from h).symm.trans h'
  injection this with h1
  injection h1 with _ h2
  exact hne h2
theorem Full.not_row (h : Full w g t cs) {base size n : Nat} {e : TypeId} {v : Value} {xs : List Value} (hr : w.ownsRow base e size v n xs) (hne : t ≠ e) : some g ≠ v.ownBlock := by
  rcases hr.2 with ⟨rfl, _⟩ | ⟨g', cap, cur, rfl, _, hh, _⟩
  · simp [Value.ownBlock]
  · intro he
    obtain rfl : g = g' := by simpa [Value.ownBlock] using he
    have := (show w.heap[g]? = _ from h).symm.trans hh
    injection this with h1
    injection h1 with _ h2
    exact hne h2
theorem Full.row (h : Full w g t cs) (size n : Nat) (hn : cs.length = n * size) (c : Nat) (hc : n ≤ c) : Row w w.heap.size size (some ⟨g, 0, none⟩) n c cs :=
  ⟨hn, hc, fun e => (by cases e), fun j u hj => ⟨_, rfl, h.lt, by rw [Addr.add_lit, Nat.zero_add, h.cell, hj]⟩⟩
end

/-- make([]T, n), of one cell for each element -/
theorem made_one (t e : TypeId) (z : Value) (bytes : Nat) (ht : Try.prog.underlying t = some (.slice e)) (hi : (Try.prog.info? e).map (fun i => (i.zero, i.size, i.bytes)) = some (some z, 1, bytes)) (hz : z.cells = #[z]) (n : Nat) (hb : bytes * n ≤ 281474976710656) (h63 : n ≤ 9223372036854775807) :
    ∀ W, (Instr.makeSlice t (.int .i64 (n : Int)) (.int .i64 (n : Int))).run Try.prog W = .ok (.slice (some ⟨W.heap.size, 0, none⟩) n n) (W.alloc (.cells (List.replicate n z).toArray e)) := by
  intro W
  obtain ⟨i, h1, h2, h3, h4⟩ := info_parts hi
  have hr := run_make W t e i z ht h1 h2 .i64 .i64 (n : Int) (n : Int) (by omega) (by omega) (by rw [h4]; omega) (by omega)
  rw [hr, h3, hz]
  simp only [Int.toNat_natCast, Nat.mul_one]
  congr 3
  rw [← toList_madeCells_one]

end Go.Proofs.Ytmeoannheomdoaa
