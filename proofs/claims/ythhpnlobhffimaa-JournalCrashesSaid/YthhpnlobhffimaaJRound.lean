/- The rounds of JournalCrashes as an argument. -/
import Derived.Test.YthhpnlobhffimaaJKit4
import Derived.Deep.Slices
import Derived.Deep.Strs
import Derived.Laws.IdiomArrays
namespace Go.Proofs.Ythhpnlobhffimaa
set_option maxRecDepth 100000
open Go.ChangeShapes Go.WideShapes Go.ChangeAt Go.RowKit Go.Maps

abbrev Rnd := List (Int × Int) × Int × List Int
structure Rounds (w : World) (B : Nat) (A : Option Addr) (us : List Rnd) : Prop where
  at_ : ∀ k (hk : k < us.length), ∃ ad A1 c1 A2 c2, A = some ad ∧ ad.block < B ∧ w.cell? (ad.add (k * 3)) = some (.slice A1 us[k].1.length c1) ∧ w.cell? ⟨(ad.add (k * 3)).block, (ad.add (k * 3)).off + 1, none⟩ = some (.int .u8 us[k].2.1) ∧
    w.cell? ⟨(ad.add (k * 3)).block, (ad.add (k * 3)).off + 2, none⟩ = some (.slice A2 us[k].2.2.length c2) ∧ Prs w B A1 c1 us[k].1 ∧ us[k].1.length ≤ maxLen ∧ (0 ≤ us[k].2.1 ∧ us[k].2.1 ≤ 255) ∧ Row w B 1 A2 us[k].2.2.length c2 (intC us[k].2.2) ∧ us[k].2.2.length ≤ maxLen
theorem Rounds.on {w w' : World} {A : Option Addr} {l : List Rnd} {B : Nat} (h : Rounds w B A l) (hb : Below B w w') : Rounds w' B A l where
  at_ k hk := by
    obtain ⟨ad, A1, c1, A2, c2, rfl, hlt, k0, k1, k2, hP, hl, hx, hR, hr⟩ := h.at_ k hk
    refine ⟨ad, A1, c1, A2, c2, rfl, hlt, (hb.cell (by show (ad.add (k * 3)).block < _; rw [add_block]; exact hlt)).trans k0, (hb.cell (by show (ad.add (k * 3)).block < _; rw [add_block]; exact hlt)).trans k1, (hb.cell (by show (ad.add (k * 3)).block < _; rw [add_block]; exact hlt)).trans k2, hP.on hb, hl, hx, hR.below hb (Nat.le_refl _), hr⟩
section
variable {H : Type} {enc : TypeId × Value → H} {W : World} {b2 : Nat} {sp : Nat → Bool} {held : Bool}
theorem cellsT {a : Addr} {cs : List Value} (h : W.cells? b2 a 3 = some cs) : ∃ c0 c1 c2, cs = [c0, c1, c2] ∧ W.cell? a = some c0 ∧ W.cell? (a.add 1) = some c1 ∧ W.cell? (a.add 2) = some c2 := by
  obtain ⟨_, hl, hc⟩ := World.cells?_some h
  match cs, hl with
  | [c0, c1, c2], _ =>
    have h0 := hc 0 (by omega)
    rw [show a.add 0 = a by simp [Addr.add]] at h0
    exact ⟨c0, c1, c2, rfl, by simpa using h0, by simpa using hc 1 (by omega), by simpa using hc 2 (by omega)⟩
theorem open_ints_at {fuel : Nat} {cs : List Value} {x : DataW H × List MemPlace} (hf : DataW.trod enc Try.prog W b2 sp held fuel 56 cs = some x) :
    ∃ (A : Option Addr) (zs : List Int) (c : Nat), cs = [.slice A zs.length c] ∧ Row W W.heap.size 1 A zs.length c (intC zs) ∧ zs.length ≤ maxLen := by
  have hc3 : Try.prog.cellsOf 3 = 1 := by kernel_rfl
  rcases Go.Deep.open_slice Try.underlying56 hf with ⟨h0, _⟩ | ⟨a, len, cap, m, fu, D, Pl, h0, hb, hlc, hcm, hm, _, hel⟩
  · exact ⟨none, [], 0, h0, Row.empty _ _ _, Nat.zero_le _⟩
  · have hlm : len ≤ m := by rw [hm]; split <;> omega
    obtain ⟨zs, hzl, hz⟩ := list_of len (fun i (z : Int) => W.cell? (a.add i) = some (.int .i64 z)) fun i hi => by
      obtain ⟨cs', hcs, ht⟩ := hel i (by omega)
      rw [hc3, Nat.mul_one] at hcs
      obtain ⟨c0, rfl, k0⟩ := cells1 hcs
      obtain ⟨x0, e0, _⟩ := DataW.trod_int (k := .i64) Try.underlying3 ht
      simp only [List.cons.injEq, and_true] at e0
      subst e0
      exact ⟨x0, k0⟩
    refine ⟨some a, zs, cap, by rw [h0, hzl], ⟨by rw [intC_len, Nat.mul_one], by omega, fun e => (by cases e), fun j u hj => ?_⟩, by omega⟩
    unfold intC at hj
    rw [List.getElem?_map] at hj
    obtain ⟨z, hz1, rfl⟩ := Option.map_eq_some_iff.1 hj
    obtain ⟨hjl, rfl⟩ := List.getElem?_eq_some_iff.1 hz1
    have hc := hz j hjl
    refine ⟨a, rfl, ?_, hc⟩
    have := World.block_lt_of_cell? W _ hc
    rwa [add_block] at this
theorem open_prs_at {fuel : Nat} {cs : List Value} {x : DataW H × List MemPlace} (hf : DataW.trod enc Try.prog W b2 sp held fuel 22 cs = some x) :
    ∃ (A : Option Addr) (qs : List (Int × Int)) (c : Nat), cs = [.slice A qs.length c] ∧ Prs W W.heap.size A c qs ∧ qs.length ≤ maxLen := by
  have hc51 : Try.prog.cellsOf 51 = 2 := by kernel_rfl
  have hc3 : Try.prog.cellsOf 3 = 1 := by kernel_rfl
  rcases Go.Deep.open_slice Try.underlying22 hf with ⟨h0, _⟩ | ⟨a, len, cap, m, fu, D, Pl, h0, hb, hlc, hcm, hm, _, hel⟩
  · exact ⟨none, [], 0, h0, ⟨Row.empty _ _ _, fun x hx => by cases hx⟩, Nat.zero_le _⟩
  · have hlm : len ≤ m := by rw [hm]; split <;> omega
    obtain ⟨qs, hql, hq⟩ := list_of len (fun i (q : Int × Int) => (W.cell? (a.add (i * 2)) = some (.int .i64 q.1) ∧ W.cell? (a.add (i * 2 + 1)) = some (.int .i64 q.2)) ∧ (Lit.int .i64 q.1).wf = true ∧ (Lit.int .i64 q.2).wf = true) fun i hi => by
      obtain ⟨cs', hcs, ht⟩ := hel i (by omega)
      rw [hc51] at hcs
      obtain ⟨c0, c1, rfl, k0, k1⟩ := cells2 hcs
      obtain ⟨xs, n, _, _, _, hxl, hat⟩ := DataW.trod_array Try.underlying51 ht
      rw [hc3] at hat
      have h0 := hat 0 (by omega)
      have h1 := hat 1 (by omega)
      rw [List.getElem?_eq_getElem (by omega)] at h0 h1
      obtain ⟨x0, e0, _, w0⟩ := DataW.trod_int (k := .i64) Try.underlying3 h0
      obtain ⟨x1, e1, _, w1⟩ := DataW.trod_int (k := .i64) Try.underlying3 h1
      have e0' : c0 = .int .i64 x0 := by simpa using e0
      have e1' : c1 = .int .i64 x1 := by simpa using e1
      subst e0' e1'
      rw [Go.Deep.add_add] at k1
      exact ⟨(x0, x1), ⟨k0, k1⟩, w0, w1⟩
    have hw : ∀ x ∈ qs, (Lit.int .i64 x.1).wf = true ∧ (Lit.int .i64 x.2).wf = true := fun x hx => by
      obtain ⟨i, hi, rfl⟩ := List.mem_iff_getElem.1 hx
      exact (hq i hi).2
    have hfl0 : ∀ x : Int × Int, [Value.int .i64 x.1, Value.int .i64 x.2].length = 2 := fun _ => rfl
    refine ⟨some a, qs, cap, by rw [h0, hql], ⟨⟨flat_len _ 2 hfl0 qs, by omega, fun e => (by cases e), fun j u hj => ?_⟩, hw⟩, by omega⟩
    have hjl : j < qs.length * 2 := by have := (List.getElem?_eq_some_iff.1 hj).1; rwa [flat_len _ 2 hfl0 qs] at this
    have hk : j / 2 < qs.length := by omega
    have hfl := flat_at (fun x : Int × Int => [Value.int .i64 x.1, Value.int .i64 x.2]) 2 hfl0 qs (j / 2) (j % 2) hk (Nat.mod_lt _ (by omega))
    rw [show j / 2 * 2 + j % 2 = j by omega] at hfl
    rw [hfl] at hj
    obtain ⟨⟨q0, q1⟩, _⟩ := hq (j / 2) hk
    have hc : W.cell? (a.add j) = some u := by
      rcases (show j % 2 = 0 ∨ j % 2 = 1 by omega) with e | e
      · rw [e] at hj; rw [show j / 2 * 2 = j by omega] at q0; rw [q0, ← hj]; rfl
      · rw [e] at hj; rw [show j / 2 * 2 + 1 = j by omega] at q1; rw [q1, ← hj]; rfl
    refine ⟨a, rfl, ?_, hc⟩
    have := World.block_lt_of_cell? W _ hc
    rwa [add_block] at this
theorem open_rounds {b1 : Nat} {v : Value} {d : DataW H} {p : List MemPlace} (h : DataW.Trod enc Try.prog W b2 sp held 55 v d p) (hval : Value.okWide Try.prog W .any b1 55 v) :
    ∃ (A : Option Addr) (us : List Rnd) (c : Nat), v = .slice A us.length c ∧ Rounds W W.heap.size A us ∧ us.length ≤ maxLen ∧ us.length ≤ c := by
  obtain ⟨fuel, hf⟩ := h
  have hv : v.cells.toList = [v] := by
    obtain ⟨a, n, c, rfl⟩ := okWide_slice Try.underlying55 hval
    rfl
  rw [hv] at hf
  have hc58 : Try.prog.cellsOf 58 = 3 := by kernel_rfl
  have hc22 : Try.prog.cellsOf 22 = 1 := by kernel_rfl
  have hc5 : Try.prog.cellsOf 5 = 1 := by kernel_rfl
  have hc56 : Try.prog.cellsOf 56 = 1 := by kernel_rfl
  rcases Go.Deep.open_slice Try.underlying55 hf with ⟨h0, _⟩ | ⟨a, len, cap, m, fu, D, Pl, h0, hb, hlc, hcm, hm, _, hel⟩
  · obtain rfl : v = .slice none 0 0 := by simpa using h0
    exact ⟨none, [], 0, rfl, ⟨fun k hk => by simp at hk⟩, Nat.zero_le _, Nat.zero_le _⟩
  · obtain rfl : v = .slice (some a) len cap := by simpa using h0
    have hlm : len ≤ m := by rw [hm]; split <;> omega
    obtain ⟨us, hul, hu⟩ := list_of len (fun i (q : Rnd) => ∃ A1 c1 A2 c2, W.cell? (a.add (i * 3)) = some (.slice A1 q.1.length c1) ∧ W.cell? (a.add (i * 3 + 1)) = some (.int .u8 q.2.1) ∧ W.cell? (a.add (i * 3 + 2)) = some (.slice A2 q.2.2.length c2) ∧ Prs W W.heap.size A1 c1 q.1 ∧ q.1.length ≤ maxLen ∧ (0 ≤ q.2.1 ∧ q.2.1 ≤ 255) ∧ Row W W.heap.size 1 A2 q.2.2.length c2 (intC q.2.2) ∧ q.2.2.length ≤ maxLen) fun i hi => by
      obtain ⟨cs', hcs, ht⟩ := hel i (by omega)
      rw [hc58] at hcs
      obtain ⟨c0, c1, c2, rfl, k0, k1, k2⟩ := cellsT hcs
      obtain ⟨y0, y1, y2, n, _, _, t0, t1, t2⟩ := Go.Deep.trod_struct3 Try.underlying58 ht
      simp only [hc22, hc5, hc56, List.drop_zero, List.drop_succ_cons, List.take_succ_cons, List.take_zero] at t0 t1 t2
      obtain ⟨A1, qs, ci, e0, hP, hPl⟩ := open_prs_at t0
      obtain ⟨x1, e1, _, w1⟩ := DataW.trod_int (k := .u8) Try.underlying5 t1
      obtain ⟨A2, zs, cj, e2, hR, hRl⟩ := open_ints_at t2
      simp only [List.cons.injEq, and_true] at e0 e1 e2
      subst e0 e1 e2
      rw [Go.Deep.add_add] at k1 k2
      exact ⟨(qs, x1, zs), A1, ci, A2, cj, k0, k1, k2, hP, hPl, bd_u8 w1, hR, hRl⟩
    refine ⟨some a, us, cap, by rw [hul], ⟨fun k hk => ?_⟩, by omega, by omega⟩
    obtain ⟨A1, c1, A2, c2, k0, k1, k2, hP, hPl, hx, hR, hRl⟩ := hu k hk
    have hlt := World.block_lt_of_cell? W _ k0
    rw [add_block] at hlt
    rw [← add_twice] at k1 k2
    exact ⟨a, A1, c1, A2, c2, rfl, hlt, k0, k1, k2, hP, hPl, hx, hR, hRl⟩
end
end Go.Proofs.Ythhpnlobhffimaa
