/- From a walk to a law's row and card: what every law of this seat shares; the opening of its parameters. -/
import Derived.Test.YtdbikaffmpkgpaaDoorOdd
import Derived.Test.YtdbikaffmpkgpaaDoorSane
import Derived.Test.YtdbikaffmpkgpaaDoorCards
import Derived.Test.YtdbikaffmpkgpaaDoorTie
import Derived.Deep.DeepHandedRow
namespace Go.Proofs.YtdbikaffmpkgpaaDoor
open Go.ChangeShapes Go.WideShapes Go.ChangeAt Go.RowKit

theorem open_intl {H : Type} {enc : TypeId × Value → H} {W : World} {b1 b2 : Nat} {sp : Nat → Bool} {held : Bool} {v : Value} {d : DataW H} {p : List MemPlace}
    (h : DataW.Trod enc Tryd.prog W b2 sp held 22 v d p) (hval : Value.okWide Tryd.prog W .any b1 22 v) :
    ∃ (A : Option Addr) (l : List Int) (c : Nat), v = .slice A l.length c ∧ Ints W W.heap.size A c l ∧ l.length ≤ maxLen := by
  obtain ⟨fuel, hf⟩ := h
  have hv : v.cells.toList = [v] := by
    obtain ⟨a, n, c, rfl⟩ := okWide_slice Tryd.underlying22 hval
    rfl
  rw [hv] at hf
  rcases open_ints (k := .i64) Tryd.underlying22 Tryd.underlying3 (by kernel_rfl) hf with ⟨h0, _⟩ | ⟨a, len, cap, zs, h0, hb, hlc, hcm, hsl, _, hcs, hmx⟩
  · obtain rfl : v = .slice none 0 0 := by simpa using h0
    exact ⟨none, [], 0, rfl, Row.empty _ _ _, Nat.zero_le _⟩
  · obtain rfl : v = .slice (some a) len cap := by simpa using h0
    have hle : len ≤ zs.length := by rw [hsl]; split <;> omega
    have htl : (zs.take len).length = len := by simp; omega
    refine ⟨some a, zs.take len, cap, by rw [htl], ⟨by simp [intC], by omega, fun e => (by cases e), fun j u hj => ?_⟩, by omega⟩
    unfold intC at hj
    rw [List.getElem?_map] at hj
    obtain ⟨z, hz, rfl⟩ := Option.map_eq_some_iff.1 hj
    have hjl : j < len := by
      have := (List.getElem?_eq_some_iff.1 hz).1
      omega
    have hc := hcs j (by omega)
    have hg : zs.getD j 0 = z := by
      rw [List.getElem?_take_of_lt hjl] at hz
      rw [List.getD, hz]; rfl
    rw [hg] at hc
    refine ⟨a, rfl, ?_, hc⟩
    have := World.block_lt_of_cell? W _ hc
    rwa [add_block] at this

theorem open_triple {H : Type} {enc : TypeId × Value → H} {W : World} {b1 b2 : Nat} {sp : Nat → Bool} {held : Bool} {v : Value} {d : DataW H} {p : List MemPlace}
    (hval : Value.okWide Tryd.prog W .any b1 23 v) (h : DataW.Trod enc Tryd.prog W b2 sp held 23 v d p) :
    ∃ a b c : Int, v = .agg #[.int .i64 a, .int .i64 b, .int .i64 c] := by
  have hc50 : Tryd.prog.cellsOf 23 = 3 := by kernel_rfl
  have hc3 : Tryd.prog.cellsOf 3 = 1 := by kernel_rfl
  simp only [Value.okWide, Tryd.underlying23] at hval
  obtain ⟨cs, rfl, hsz, _⟩ := hval
  obtain ⟨c0, c1, c2, rfl⟩ := Joins.array3 (hsz.trans hc50)
  obtain ⟨fuel, hf⟩ := h
  obtain ⟨xs, m, rfl, _, _, hxl, hat⟩ := DataW.trod_array Tryd.underlying23 hf
  rw [hc3] at hat
  have h0 := hat 0 (by omega)
  have h1 := hat 1 (by omega)
  have h2 := hat 2 (by omega)
  rw [List.getElem?_eq_getElem (by omega)] at h0 h1 h2
  obtain ⟨a, ea, _, wa⟩ := DataW.trod_int (k := .i64) Tryd.underlying3 h0
  obtain ⟨b, eb, _, wb⟩ := DataW.trod_int (k := .i64) Tryd.underlying3 h1
  obtain ⟨c, ec, _, wc⟩ := DataW.trod_int (k := .i64) Tryd.underlying3 h2
  have ea' : c0 = .int .i64 a := by simpa [Value.cells] using ea
  have eb' : c1 = .int .i64 b := by simpa [Value.cells] using eb
  have ec' : c2 = .int .i64 c := by simpa [Value.cells] using ec
  subst ea' eb' ec'
  exact ⟨a, b, c, rfl⟩

/-- what the row's list gives: the table of classes -/
theorem tab_of_laid {W : World} (h : laidMetH Tryd.prog [("mainline/paths.classes", Rows.laid_mainline_paths_classes)] W) : Tab W := by
  have ht : Lib.TabIs Tryd.prog W "mainline/paths.classes" .u8 classes := Lib.tabIs_of_head (rest := []) gTab gTabType Tryd.underlying58 Tryd.underlying5 cells5 cells58 h
  refine ⟨?_, fun i hi => ht.cell gTab i (by rw [classes_len]; exact hi)⟩
  exact World.block_lt_of_cell? W ⟨0, 0, none⟩ (ht.cell gTab 0 (by rw [classes_len]; omega))

/-- a world for the witness: the settled one, the table holding what its initialiser lays -/
noncomputable def laidWorld (os : Os) : World :=
  { World.holding Tryd.prog os ⟨#[], #[], []⟩ with heap := (World.holding Tryd.prog os ⟨#[], #[], []⟩).heap.modify 0 fun
      | .cells _ t frozen => .cells (classes.map fun z => Value.int .u8 z).toArray t frozen
      | o => o }

theorem madeS_valid (zs : List Int) : validS (madeS zs) = true := by
  by_cases h : zs = []
  · subst h
    kernel_rfl
  · have hc : comps (madeS zs) = madeL zs := by
      unfold madeS
      rw [if_neg h]
      exact comps_join (madeL_ne h) (fun x hx => namesL_free x (madeL_mem hx))
    have h1 := madeS_size zs
    have h2 := madeL_len zs
    have h3 : (madeL zs).all isName = true := by
      rw [List.all_eq_true]
      intro x hx
      have : ∀ y ∈ namesL, isName y = true := by decide +kernel
      exact this x (madeL_mem hx)
    unfold validS within
    rw [hc, h3, decide_eq_true (by omega), decide_eq_true (by omega)]
    rfl

end Go.Proofs.YtdbikaffmpkgpaaDoor
