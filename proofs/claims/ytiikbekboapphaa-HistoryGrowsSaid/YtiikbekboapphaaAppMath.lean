/- A history with more commits answers the same about the old ones. -/
import Derived.Test.YtiikbekboapphaaOwnKit
namespace Go.Proofs.Ytiikbekboapphaa
set_option maxRecDepth 100000
open Go.RowKit
section
variable {cs ds : List Cm}
theorem inR_app {a : Int} (ha : a ≤ cs.length) : inR (cs ++ ds).length a = inR cs.length a := by
  rw [Bool.eq_iff_iff, inR_iff, inR_iff, List.length_append]
  constructor <;> intro h <;> omega
theorem rch_fun (hg : Good cs) (hg2 : Good (cs ++ ds)) (h0 : 0 < cs.length) {b : Nat} (hb : b ≤ cs.length) : rch (leads (cs ++ ds)) b = rch (leads cs) b := by
  funext k; exact rch_app hg hg2 h0 hb k
theorem rchF_fun (hg : Good cs) (hg2 : Good (cs ++ ds)) (h0 : 0 < cs.length) {b : Nat} (hb : b ≤ cs.length) : rch (firsts (cs ++ ds)) b = rch (firsts cs) b := by
  funext k; exact rchF_app hg hg2 h0 hb k
theorem anc_app (hg : Good cs) (hg2 : Good (cs ++ ds)) (h0 : 0 < cs.length) {a b : Int} (ha : a ≤ cs.length) (hb : b ≤ cs.length) : anc (cs ++ ds) a b = anc cs a b := by
  unfold anc
  rw [inR_app ha, inR_app hb, rch_fun hg hg2 h0 (by omega)]
theorem base_app (hg : Good cs) (hg2 : Good (cs ++ ds)) (h0 : 0 < cs.length) {a b : Int} (ha : a ≤ cs.length) (hb : b ≤ cs.length) : baseP (cs ++ ds) a b = baseP cs a b := by
  unfold baseP both
  rw [inR_app ha, inR_app hb, rch_fun hg hg2 h0 (by omega), rch_fun hg hg2 h0 (by omega)]
theorem lineOk_app (hg : Good cs) (hg2 : Good (cs ++ ds)) (h0 : 0 < cs.length) {a b : Int} (ha : a ≤ cs.length) (hb : b ≤ cs.length) : lineOk (cs ++ ds) a b = lineOk cs a b := by
  unfold lineOk
  rw [inR_app ha, inR_app hb, rchF_fun hg hg2 h0 (by omega)]
theorem lineP_app (hg : Good cs) (hg2 : Good (cs ++ ds)) (h0 : 0 < cs.length) {a b : Int} (ha : a ≤ cs.length) (hb : b ≤ cs.length) : lineP (cs ++ ds) a b = lineP cs a b := by
  unfold lineP lineR
  rw [lineOk_app hg hg2 h0 ha hb, rchF_fun hg hg2 h0 (by omega)]
theorem getC_app {a : Int} (ha : a ≤ cs.length) : getC (cs ++ ds) a = getC cs a := by
  unfold getC
  rw [inR_app ha]
  split
  · next h =>
    rw [inR_iff] at h
    simp only [List.getD_eq_getElem?_getD]
    rw [List.getElem?_append_left (by omega)]
  · rfl
end
/-- the first k pairs -/
theorem Prs.take {w : World} {B c k : Nat} {A : Option Addr} {l : List (Int × Int)} (h : Prs w B A c l) (hk : k ≤ l.length) : Prs w B A c (l.take k) := by
  obtain ⟨⟨h1, h2, h3, h4⟩, h5⟩ := h
  have hf : ∀ x : Int × Int, [Value.int .i64 x.1, Value.int .i64 x.2].length = 2 := fun _ => rfl
  have e := flat_take (fun x : Int × Int => [Value.int .i64 x.1, Value.int .i64 x.2]) 2 hf l k
  refine ⟨⟨flat_len _ 2 hf _, by rw [List.length_take]; omega, h3, fun j u hj => ?_⟩, fun x hx => h5 x (List.mem_of_mem_take hx)⟩
  rw [← e] at hj
  have hlt := (List.getElem?_eq_some_iff.1 hj).1
  rw [List.length_take] at hlt
  rw [List.getElem?_take_of_lt (by omega)] at hj
  exact h4 j u hj
/-- an array of two integers, by value -/
theorem open_two {H : Type} {enc : TypeId × Value → H} {W : World} {b1 b2 : Nat} {sp : Nat → Bool} {held : Bool} {v : Value} {d : DataW H} {p : List MemPlace}
    (hval : Value.okWide Try.prog W .any b1 53 v) (h : DataW.Trod enc Try.prog W b2 sp held 53 v d p) :
    ∃ a b : Int, v = .agg #[.int .i64 a, .int .i64 b] ∧ (Lit.int .i64 a).wf = true ∧ (Lit.int .i64 b).wf = true := by
  have hc53 : Try.prog.cellsOf 53 = 2 := by kernel_rfl
  have hc3 : Try.prog.cellsOf 3 = 1 := by kernel_rfl
  simp only [Value.okWide, Try.underlying53] at hval
  obtain ⟨cs, rfl, hsz, _⟩ := hval
  obtain ⟨c0, c1, rfl⟩ : ∃ c0 c1, cs = #[c0, c1] := by
    have h3 := hsz.trans hc53
    match cs, h3 with
    | ⟨[a, b]⟩, _ => exact ⟨a, b, rfl⟩
  obtain ⟨fuel, hf⟩ := h
  obtain ⟨xs, m, rfl, _, _, hxl, hat⟩ := DataW.trod_array Try.underlying53 hf
  rw [hc3] at hat
  have h0 := hat 0 (by omega)
  have h1 := hat 1 (by omega)
  rw [List.getElem?_eq_getElem (by omega)] at h0 h1
  obtain ⟨a, ea, _, wa⟩ := DataW.trod_int (k := .i64) Try.underlying3 h0
  obtain ⟨b, eb, _, wb⟩ := DataW.trod_int (k := .i64) Try.underlying3 h1
  have ea' : c0 = .int .i64 a := by simpa [Value.cells] using ea
  have eb' : c1 = .int .i64 b := by simpa [Value.cells] using eb
  subst ea' eb'
  exact ⟨a, b, rfl, wa, wb⟩
end Go.Proofs.Ytiikbekboapphaa
