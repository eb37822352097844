/- From a walk to a law's row and card: what every law of this seat shares; the opening of its parameters. -/
import Derived.Test.YthnlldojidocoaaDoorSane
import Derived.Test.YthnlldojidocoaaDoorCards
import Derived.Test.YthnlldojidocoaaDoorTie
import Derived.Deep.DeepHandedRow
namespace Go.Proofs.YthnlldojidocoaaDoor
open Go.ChangeShapes Go.WideShapes Go.ChangeAt Go.RowKit

/-- what the row's list gives: the table of classes -/
theorem tab_of_laid {W : World} (h : laidMetH Tryd.prog [("mainline/paths.classes", Rows.laid_mainline_paths_classes)] W) : Tab W := by
  have ht : Lib.TabIs Tryd.prog W "mainline/paths.classes" .u8 classes := Lib.tabIs_of_head (rest := []) gTab gTabType Tryd.underlying93 Tryd.underlying5 cells5 cells93 h
  refine ⟨?_, fun i hi => ht.cell gTab i (by rw [classes_len]; exact hi)⟩
  exact World.block_lt_of_cell? W ⟨0, 0, none⟩ (ht.cell gTab 0 (by rw [classes_len]; omega))

/-- a world for the witness: the settled one, the table holding what its initialiser lays -/
noncomputable def laidWorld (os : Os) : World :=
  { World.holding Tryd.prog os ⟨#[], #[], []⟩ with heap := (World.holding Tryd.prog os ⟨#[], #[], []⟩).heap.modify 0 fun
      | .cells _ t frozen => .cells (classes.map fun z => Value.int .u8 z).toArray t frozen
      | o => o }

theorem open_strl {H : Type} {enc : TypeId × Value → H} {W : World} {b1 b2 : Nat} {sp : Nat → Bool} {held : Bool} {v : Value} {d : DataW H} {p : List MemPlace}
    (h : DataW.Trod enc Tryd.prog W b2 sp held 37 v d p) (hval : Value.okWide Tryd.prog W .any b1 37 v) :
    ∃ (A : Option Addr) (l : List ByteArray) (c : Nat), v = .slice A l.length c ∧ Strs W W.heap.size A c l ∧ l.length ≤ maxLen ∧ ∀ s ∈ l, s.size ≤ maxLen := by
  obtain ⟨fuel, hf⟩ := h
  have hv : v.cells.toList = [v] := by
    obtain ⟨a, n, c, rfl⟩ := okWide_slice Tryd.underlying37 hval
    rfl
  rw [hv] at hf
  rcases open_strings Tryd.underlying37 Tryd.underlying9 (by kernel_rfl) hf with ⟨h0, _⟩ | ⟨a, len, cap, ss, h0, hb, hlc, hcm, hsl, _, hcs, hmx⟩
  · obtain rfl : v = .slice none 0 0 := by simpa using h0
    exact ⟨none, [], 0, rfl, Row.empty _ _ _, Nat.zero_le _, fun s hs => by simp at hs⟩
  · obtain rfl : v = .slice (some a) len cap := by simpa using h0
    have hle : len ≤ ss.length := by rw [hsl]; split <;> omega
    have htl : (ss.take len).length = len := by simp; omega
    refine ⟨some a, ss.take len, cap, by rw [htl], ⟨by simp [strC], by omega, fun e => (by cases e), fun j u hj => ?_⟩, by omega, fun s hs => hmx s (List.mem_of_mem_take hs)⟩
    unfold strC at hj
    rw [List.getElem?_map] at hj
    obtain ⟨s, hs, rfl⟩ := Option.map_eq_some_iff.1 hj
    have hjl : j < len := by
      have := (List.getElem?_eq_some_iff.1 hs).1
      omega
    have hc := hcs j (by omega)
    have hg : ss.getD j ByteArray.empty = s := by
      rw [List.getElem?_take_of_lt hjl] at hs
      rw [List.getD, hs]; rfl
    rw [hg] at hc
    refine ⟨a, rfl, ?_, hc⟩
    have := World.block_lt_of_cell? W _ hc
    rwa [add_block] at this
def byteC (zs : List Int) : List Value := zs.map (Value.int .u8 ·)
def Bts (w : World) (B : Nat) (A : Option Addr) (c : Nat) (zs : List Int) : Prop := Row w B 1 A zs.length c (byteC zs)
theorem Bts.at_ {w : World} {B : Nat} {A : Option Addr} {c : Nat} {zs : List Int} (h : Bts w B A c zs) {k : Nat} (hk : k < zs.length) : ∃ ad, A = some ad ∧ ad.block < B ∧ w.cell? (ad.add k) = some (.int .u8 zs[k]) :=
  h.2.2.2 k _ (by unfold byteC; rw [List.getElem?_map, List.getElem?_eq_getElem hk]; rfl)
theorem open_bytes {H : Type} {enc : TypeId × Value → H} {W : World} {b1 b2 : Nat} {sp : Nat → Bool} {held : Bool} {v : Value} {d : DataW H} {p : List MemPlace}
    (h : DataW.Trod enc Tryd.prog W b2 sp held 54 v d p) (hval : Value.okWide Tryd.prog W .any b1 54 v) :
    ∃ (A : Option Addr) (l : List Int) (c : Nat), v = .slice A l.length c ∧ Bts W W.heap.size A c l ∧ l.length ≤ maxLen ∧ ∀ z ∈ l, 0 ≤ z ∧ z ≤ 255 := by
  obtain ⟨fuel, hf⟩ := h
  have hv : v.cells.toList = [v] := by
    obtain ⟨a, n, c, rfl⟩ := okWide_slice Tryd.underlying54 hval
    rfl
  rw [hv] at hf
  rcases open_ints (k := .u8) Tryd.underlying54 Tryd.underlying5 (by kernel_rfl) hf with ⟨h0, _⟩ | ⟨a, len, cap, zs, h0, hb, hlc, hcm, hsl, _, hcs, hmx⟩
  · obtain rfl : v = .slice none 0 0 := by simpa using h0
    exact ⟨none, [], 0, rfl, Row.empty _ _ _, Nat.zero_le _, fun z hz => by cases hz⟩
  · obtain rfl : v = .slice (some a) len cap := by simpa using h0
    have hle : len ≤ zs.length := by rw [hsl]; split <;> omega
    have htl : (zs.take len).length = len := by simp; omega
    refine ⟨some a, zs.take len, cap, by rw [htl], ⟨by simp [byteC], by omega, fun e => (by cases e), fun j u hj => ?_⟩, by omega, fun z hz => bd_u8 (hmx z (List.mem_of_mem_take hz))⟩
    unfold byteC at hj
    rw [List.getElem?_map] at hj
    obtain ⟨z, hz, rfl⟩ := Option.map_eq_some_iff.1 hj
    have hjl : j < len := by
      have := (List.getElem?_eq_some_iff.1 hz).1
      omega
    have hc := hcs j (by omega)
    have hg : zs.getD j 0 = z := by
      rw [List.getElem?_take_of_lt hjl] at hz
      rw [List.getD, hz]; rfl
    rw [hg] at hc
    refine ⟨a, rfl, ?_, hc⟩
    have := World.block_lt_of_cell? W _ hc
    rwa [add_block] at this
theorem bb_and (b : Bool) : (b == b) = true := by cases b <;> rfl
end Go.Proofs.YthnlldojidocoaaDoor
