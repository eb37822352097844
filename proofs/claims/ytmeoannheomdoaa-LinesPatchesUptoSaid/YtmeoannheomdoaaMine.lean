/- Rows of strings of one's own: copies by append, stores; an array of two bytes as an argument. -/
import Derived.Test.YtmeoannheomdoaaLaw
import Derived.Test.YtmeoannheomdoaaText
import Derived.Laws.OwnMore
namespace Go.Proofs.Ytmeoannheomdoaa
open Go.ChangeShapes Go.WideShapes Go.ChangeAt Go.RowKit

/-- a row of strings in a block of one's own: at least B, below the heap's end -/
structure Mine (w : World) (B g n c : Nat) (L : List ByteArray) : Prop where
  own : w.ownsRow B 9 1 (.slice (some ⟨g, 0, none⟩) n c) n (strC L)
  ge : B ≤ g
  lt : g < w.heap.size
  len : L.length = n
theorem own_blk {w : World} {B g n c : Nat} {L : List ByteArray} (h : w.ownsRow B 9 1 (.slice (some ⟨g, 0, none⟩) n c) n (strC L)) : B ≤ g ∧ g < w.heap.size := by
  rcases h.2 with ⟨hv, h0⟩ | ⟨g', cap, cur, hv, hge, hg, _⟩
  · cases hv
  · obtain ⟨rfl, _⟩ : g = g' ∧ c = cap := by simpa using hv
    exact ⟨hge, (Array.getElem?_eq_some_iff.1 hg).1⟩
section
variable {w w' : World} {B g n c : Nat} {L : List ByteArray}
theorem Mine.of (h : w.ownsRow B 9 1 (.slice (some ⟨g, 0, none⟩) n c) n (strC L)) : Mine w B g n c L := ⟨h, (own_blk h).1, (own_blk h).2, (Strs.own h).1.symm⟩
theorem Mine.strs (h : Mine w B g n c L) : Strs w w.heap.size (some ⟨g, 0, none⟩) c L := (Strs.own h.own).2
theorem Mine.kept {row : Option Nat} (h : Mine w B g n c L) (hg : w.grownBy w' row) (hne : some g ≠ row) : Mine w' B g n c L := Mine.of (h.own.kept hg (.inr (by simpa [Value.ownBlock] using hne)))
theorem Mine.on (h : Mine w B g n c L) (hb : Below w.heap.size w w') : Mine w' B g n c L := h.kept (row := none) ⟨hb.os, hb.tape, hb.output, hb.size, fun k hk _ => hb.block k hk⟩ (by simp)
theorem Mine.cell (h : Mine w B g n c L) {k : Nat} (hk : k < L.length) : w.cell? ⟨g, k, none⟩ = some (.string L[k]) := by
  rw [h.own.cellAt k (by have := h.len; omega)]
  unfold strC
  rw [List.getElem?_map, List.getElem?_eq_getElem hk]
  rfl
theorem Mine.frozen (h : Mine w B g n c L) (k : Nat) : w.frozen? ⟨g, k, none⟩ = false := h.own.frozenAt k
theorem strC_set (L : List ByteArray) (k : Nat) (x : ByteArray) : (strC L).set k (.string x) = strC (L.set k x) := by unfold strC; rw [List.map_set]
theorem Mine.set_ (h : Mine w B g n c L) (k : Nat) (x : ByteArray) : Mine (w.setCell ⟨g, k, none⟩ (.string x)) B g n c (L.set k x) := by
  have := (h.own.stored k (.string x)).1
  rw [strC_set] at this
  exact Mine.of this
theorem Mine.far (h : Mine w B g n c L) {g' : Nat} (hne : g ≠ g') (k : Nat) (x : ByteArray) : Mine (w.setCell ⟨g', k, none⟩ (.string x)) B g n c L :=
  h.kept (row := some g') ⟨rfl, rfl, rfl, by simp, fun k' _ hk => Below.heap_setCell w _ _ k' (fun e => hk (by simp [e]))⟩ (by simpa using hne)
end
theorem empty_row (w : World) : (w.alloc (.cells #[] 9)).ownsRow w.heap.size 9 1 (.slice (some ⟨w.heap.size, 0, none⟩) 0 0) 0 [] := World.ownsRow_made w #[] 0 (Nat.le_refl _) (by unfold maxLen; omega) rfl
theorem own_of_some {w : World} {B n : Nat} {v : Value} {xs : List Value} (h : w.ownsRow B 9 1 v n xs) (hne : v ≠ .slice none 0 0) : ∃ g c, v = .slice (some ⟨g, 0, none⟩) n c := by
  rcases h.2 with ⟨hv, h0⟩ | ⟨g', cap, cur, hv, _⟩
  · exact absurd hv hne
  · exact ⟨g', cap, hv⟩
/-- a row's cells behind an alloc -/
theorem strs_cells {w : World} {A : Addr} {c B : Nat} {L : List ByteArray} (h : Strs w B (some A) c L) (hB : B ≤ w.heap.size) (o : Obj) : ∀ j u, (strC L)[j]? = some u → (w.alloc o).cell? (A.add j) = some u := fun j u hj => by
  obtain ⟨ad, e, hlt, hc⟩ := h.2.2.2 j u hj
  have e := Option.some.inj e
  subst e
  exact (World.cell?_alloc_lt w o _ (by rw [add_block]; omega)).trans hc
theorem strC_len (L : List ByteArray) : (strC L).length = L.length := by simp [strC]
theorem strC_one (L : List ByteArray) : ∀ u ∈ strC L, u.oneCell' = true := fun u hu => by
  obtain ⟨x, _, rfl⟩ := List.mem_map.1 hu
  rfl
/-- append([]string{}, L...) -/
theorem copy_step {w2 w3 : World} {M : Nat} {v3 : Value} {L : List ByteArray} (hown : w3.ownsRow w2.heap.size 9 1 v3 (0 + M) ([] ++ strC L)) (hgrow : (w2.alloc (.cells #[] 9)).grownBy w3 (Value.slice (some ⟨w2.heap.size, 0, none⟩) 0 0).ownBlock)
    (hnil : v3 = .slice none 0 0 ↔ Value.slice (some ⟨w2.heap.size, 0, none⟩) 0 0 = .slice none 0 0 ∧ M = 0) : ∃ g c, v3 = .slice (some ⟨g, 0, none⟩) M c ∧ Mine w3 w2.heap.size g M c L ∧ Below w2.heap.size w2 w3 := by
  rw [Nat.zero_add, List.nil_append] at hown
  obtain ⟨g, c, rfl⟩ := own_of_some hown (fun e => by have := (hnil.1 e).1; cases this)
  exact ⟨g, c, rfl, Mine.of hown, ((Below.refl _ w2).alloc (Nat.le_refl _) _).grown hgrow (by simp) (fun j e => by have e' : w2.heap.size = j := (by simpa [Value.ownBlock] using e); omega)⟩
/-- An array of two bytes, by value. -/
theorem open_pair8 {H : Type} {enc : TypeId × Value → H} {W : World} {b1 b2 : Nat} {sp : Nat → Bool} {held : Bool} {v : Value} {d : DataW H} {p : List MemPlace}
    (hval : Value.okWide Try.prog W .any b1 52 v) (h : DataW.Trod enc Try.prog W b2 sp held 52 v d p) :
    ∃ a b : Int, v = .agg #[.int .u8 a, .int .u8 b] ∧ (0 ≤ a ∧ a ≤ 255) ∧ (0 ≤ b ∧ b ≤ 255) := by
  have hc52 : Try.prog.cellsOf 52 = 2 := by kernel_rfl
  have hc5 : Try.prog.cellsOf 5 = 1 := by kernel_rfl
  simp only [Value.okWide, Try.underlying52] at hval
  obtain ⟨cs, rfl, hsz, _⟩ := hval
  obtain ⟨c0, c1, rfl⟩ := Joins.array2 (hsz.trans hc52)
  obtain ⟨fuel, hf⟩ := h
  obtain ⟨xs, m, rfl, _, _, hxl, hat⟩ := DataW.trod_array Try.underlying52 hf
  rw [hc5] at hat
  have h0 := hat 0 (by omega)
  have h1 := hat 1 (by omega)
  rw [List.getElem?_eq_getElem (by omega)] at h0 h1
  obtain ⟨a, ea, _, wa⟩ := DataW.trod_int (k := .u8) Try.underlying5 h0
  obtain ⟨b, eb, _, wb⟩ := DataW.trod_int (k := .u8) Try.underlying5 h1
  have ea' : c0 = .int .u8 a := by simpa [Value.cells] using ea
  have eb' : c1 = .int .u8 b := by simpa [Value.cells] using eb
  subst ea' eb'
  exact ⟨a, b, rfl, bd_u8 wa, bd_u8 wb⟩
end Go.Proofs.Ytmeoannheomdoaa
