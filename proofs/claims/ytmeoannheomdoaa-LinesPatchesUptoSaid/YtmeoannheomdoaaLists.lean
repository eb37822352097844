/- Lists of integers and of triples as arguments. -/
import Derived.Test.YtmeoannheomdoaaChanged2
import Derived.Test.YtmeoannheomdoaaLaw
import Derived.Deep.Slices
import Derived.Deep.Strs
import Derived.Laws.IdiomArrays
namespace Go.Proofs.Ytmeoannheomdoaa
open Go.ChangeShapes Go.WideShapes Go.ChangeAt Go.RowKit Go.Maps

theorem list_of {α : Type} : ∀ (n : Nat) (P : Nat → α → Prop), (∀ i, i < n → ∃ y, P i y) → ∃ l : List α, l.length = n ∧ ∀ i (h : i < l.length), P i l[i]
  | 0, P, _ => ⟨[], rfl, fun i h => by simp at h⟩
  | n + 1, P, h => by
    obtain ⟨l, hl, hP⟩ := list_of n P fun i hi => h i (by omega)
    obtain ⟨y, hy⟩ := h n (by omega)
    refine ⟨l ++ [y], by simp [hl], fun i hi => ?_⟩
    by_cases hin : i < l.length
    · rw [List.getElem_append_left hin]; exact hP i hin
    · have : i = l.length := by simp at hi; omega
      subst this
      simp
      rw [hl]; exact hy

section
variable {H : Type} {enc : TypeId × Value → H} {W : World} {b2 : Nat} {sp : Nat → Bool} {held : Bool}
theorem cells1 {a : Addr} {cs : List Value} (h : W.cells? b2 a 1 = some cs) : ∃ c0, cs = [c0] ∧ W.cell? a = some c0 := by
  obtain ⟨_, hl, hc⟩ := World.cells?_some h
  match cs, hl with
  | [c0], _ =>
    have h0 := hc 0 (by omega)
    rw [show a.add 0 = a by simp [Addr.add]] at h0
    exact ⟨c0, rfl, by simpa using h0⟩
theorem cells3 {a : Addr} {cs : List Value} (h : W.cells? b2 a 3 = some cs) : ∃ c0 c1 c2, cs = [c0, c1, c2] ∧ W.cell? a = some c0 ∧ W.cell? (a.add 1) = some c1 ∧ W.cell? (a.add 2) = some c2 := by
  obtain ⟨_, hl, hc⟩ := World.cells?_some h
  match cs, hl with
  | [c0, c1, c2], _ =>
    have h0 := hc 0 (by omega)
    rw [show a.add 0 = a by simp [Addr.add]] at h0
    exact ⟨c0, c1, c2, rfl, by simpa using h0, by simpa using hc 1 (by omega), by simpa using hc 2 (by omega)⟩
theorem open_nums {b1 : Nat} {v : Value} {d : DataW H} {p : List MemPlace} (h : DataW.Trod enc Try.prog W b2 sp held 28 v d p) (hval : Value.okWide Try.prog W .any b1 28 v) :
    ∃ (A : Option Addr) (zs : List Int) (c : Nat), v = .slice A zs.length c ∧ Ints W W.heap.size A c zs ∧ zs.length ≤ maxLen := by
  obtain ⟨fuel, hf⟩ := h
  have hv : v.cells.toList = [v] := by
    obtain ⟨a, n, c, rfl⟩ := okWide_slice Try.underlying28 hval
    rfl
  rw [hv] at hf
  have hc3 : Try.prog.cellsOf 3 = 1 := by kernel_rfl
  rcases Go.Deep.open_slice Try.underlying28 hf with ⟨h0, _⟩ | ⟨a, len, cap, m, fu, D, Pl, h0, hb, hlc, hcm, hm, _, hel⟩
  · obtain rfl : v = .slice none 0 0 := by simpa using h0
    exact ⟨none, [], 0, rfl, Row.empty _ _ _, Nat.zero_le _⟩
  · obtain rfl : v = .slice (some a) len cap := by simpa using h0
    have hlm : len ≤ m := by rw [hm]; split <;> omega
    obtain ⟨zs, hzl, hz⟩ := list_of len (fun i (z : Int) => W.cell? (a.add i) = some (.int .i64 z)) fun i hi => by
      obtain ⟨cs', hcs, ht⟩ := hel i (by omega)
      rw [hc3, Nat.mul_one] at hcs
      obtain ⟨c0, rfl, k0⟩ := cells1 hcs
      obtain ⟨x0, e0, _⟩ := DataW.trod_int (k := .i64) Try.underlying3 ht
      simp only [List.cons.injEq, and_true] at e0
      subst e0
      exact ⟨x0, k0⟩
    refine ⟨some a, zs, cap, by rw [hzl], ⟨by unfold intC; simp, by omega, fun e => (by cases e), fun j u hj => ?_⟩, by omega⟩
    unfold intC at hj
    rw [List.getElem?_map] at hj
    obtain ⟨z, hz1, rfl⟩ := Option.map_eq_some_iff.1 hj
    obtain ⟨hjl, rfl⟩ := List.getElem?_eq_some_iff.1 hz1
    have hc := hz j hjl
    refine ⟨a, rfl, ?_, hc⟩
    have := World.block_lt_of_cell? W _ hc
    rwa [add_block] at this
theorem open_trips {b1 : Nat} {v : Value} {d : DataW H} {p : List MemPlace} (h : DataW.Trod enc Try.prog W b2 sp held 29 v d p) (hval : Value.okWide Try.prog W .any b1 29 v) :
    ∃ (A : Option Addr) (qs : List Trip) (c : Nat), v = .slice A qs.length c ∧ Trips W W.heap.size A c qs ∧ qs.length ≤ maxLen := by
  obtain ⟨fuel, hf⟩ := h
  have hv : v.cells.toList = [v] := by
    obtain ⟨a, n, c, rfl⟩ := okWide_slice Try.underlying29 hval
    rfl
  rw [hv] at hf
  have hc44 : Try.prog.cellsOf 44 = 3 := by kernel_rfl
  have hc3 : Try.prog.cellsOf 3 = 1 := by kernel_rfl
  rcases Go.Deep.open_slice Try.underlying29 hf with ⟨h0, _⟩ | ⟨a, len, cap, m, fu, D, Pl, h0, hb, hlc, hcm, hm, _, hel⟩
  · obtain rfl : v = .slice none 0 0 := by simpa using h0
    exact ⟨none, [], 0, rfl, Row.empty _ _ _, Nat.zero_le _⟩
  · obtain rfl : v = .slice (some a) len cap := by simpa using h0
    have hlm : len ≤ m := by rw [hm]; split <;> omega
    obtain ⟨qs, hql, hq⟩ := list_of len (fun i (q : Trip) => W.cell? (a.add (i * 3)) = some (.int .i64 q.1) ∧ W.cell? (a.add (i * 3 + 1)) = some (.int .i64 q.2.1) ∧ W.cell? (a.add (i * 3 + 2)) = some (.int .i64 q.2.2)) fun i hi => by
      obtain ⟨cs', hcs, ht⟩ := hel i (by omega)
      rw [hc44] at hcs
      obtain ⟨c0, c1, c2, rfl, k0, k1, k2⟩ := cells3 hcs
      obtain ⟨y0, y1, y2, n, _, t0, t1, t2⟩ := trod_array3 Try.underlying44 hc3 ht
      obtain ⟨x0, e0, _⟩ := DataW.trod_int (k := .i64) Try.underlying3 t0
      obtain ⟨x1, e1, _⟩ := DataW.trod_int (k := .i64) Try.underlying3 t1
      obtain ⟨x2, e2, _⟩ := DataW.trod_int (k := .i64) Try.underlying3 t2
      simp only [List.cons.injEq, and_true] at e0 e1 e2
      subst e0 e1 e2
      rw [Go.Deep.add_add] at k1 k2
      exact ⟨(x0, x1, x2), k0, k1, k2⟩
    refine ⟨some a, qs, cap, by rw [hql], ⟨flat_len tripC 3 tripC_len qs, by omega, fun e => (by cases e), fun j u hj => ?_⟩, by omega⟩
    have hjl : j < qs.length * 3 := by have := (List.getElem?_eq_some_iff.1 hj).1; rwa [show (tripsC qs).length = qs.length * 3 from flat_len tripC 3 tripC_len qs] at this
    have hk : j / 3 < qs.length := by omega
    have hr : j % 3 < 3 := Nat.mod_lt _ (by omega)
    have hfl : (tripsC qs)[j]? = (tripC qs[j / 3])[j % 3]? := by
      have := flat_at tripC 3 tripC_len qs (j / 3) (j % 3) hk hr
      rwa [show j / 3 * 3 + j % 3 = j by omega] at this
    rw [hfl] at hj
    obtain ⟨q0, q1, q2⟩ := hq (j / 3) hk
    have hc : W.cell? (a.add j) = some u := by
      rcases (show j % 3 = 0 ∨ j % 3 = 1 ∨ j % 3 = 2 by omega) with e | e | e
      · rw [e] at hj; rw [show j / 3 * 3 = j by omega] at q0; rw [q0, ← hj]; rfl
      · rw [e] at hj; rw [show j / 3 * 3 + 1 = j by omega] at q1; rw [q1, ← hj]; rfl
      · rw [e] at hj; rw [show j / 3 * 3 + 2 = j by omega] at q2; rw [q2, ← hj]; rfl
    refine ⟨a, rfl, ?_, hc⟩
    have := World.block_lt_of_cell? W _ hc
    rwa [add_block] at this
end
end Go.Proofs.Ytmeoannheomdoaa
