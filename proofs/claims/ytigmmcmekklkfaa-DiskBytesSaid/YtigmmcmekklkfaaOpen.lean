/- The laws' arguments: acts, ints, pairs. -/
import Derived.Test.YtigmmcmekklkfaaDoT
import Derived.Test.YtigmmcmekklkfaaSane
import Derived.Deep.Slices
import Derived.Deep.Strs
import Derived.Laws.IdiomArrays
import Derived.ChangeMaps5
namespace Go.Proofs.Ytigmmcmekklkfaa
open Go.ChangeShapes Go.WideShapes Go.ChangeAt Go.RowKit Go.Maps

theorem list_of {α : Type} : ∀ (n : Nat) (P : Nat → α → Prop), (∀ i, i < n → ∃ y, P i y) → ∃ l : List α, l.length = n ∧ ∀ i (h : i < l.length), P i l[i]
  | 0, P, _ => ⟨[], rfl, fun i h => by simp at h⟩
  | n + 1, P, h => by
    obtain ⟨l, hl, hP⟩ := list_of n P fun i hi => h i (by omega)
    obtain ⟨y, hy⟩ := h n (by omega)
    refine ⟨l ++ [y], by simp [hl], fun i hi => ?_⟩
    by_cases hin : i < l.length
    · rw [List.getElem_append_left hin]; exact hP i hin
    · have : i = l.length := by simp at hi; omega
      subst this
      simp
      rw [hl]; exact hy

section
variable {H : Type} {enc : TypeId × Value → H} {W : World} {b2 : Nat} {sp : Nat → Bool} {held : Bool}
theorem cells1 {a : Addr} {cs : List Value} (h : W.cells? b2 a 1 = some cs) : ∃ c0, cs = [c0] ∧ W.cell? a = some c0 := by
  obtain ⟨_, hl, hc⟩ := World.cells?_some h
  match cs, hl with
  | [c0], _ =>
    have h0 := hc 0 (by omega)
    rw [show a.add 0 = a by simp [Addr.add]] at h0
    exact ⟨c0, rfl, by simpa using h0⟩
theorem cells2 {a : Addr} {cs : List Value} (h : W.cells? b2 a 2 = some cs) : ∃ c0 c1, cs = [c0, c1] ∧ W.cell? a = some c0 ∧ W.cell? (a.add 1) = some c1 := by
  obtain ⟨_, hl, hc⟩ := World.cells?_some h
  match cs, hl with
  | [c0, c1], _ =>
    have h0 := hc 0 (by omega)
    rw [show a.add 0 = a by simp [Addr.add]] at h0
    exact ⟨c0, c1, rfl, by simpa using h0, by simpa using hc 1 (by omega)⟩
theorem open_ints {b1 : Nat} {v : Value} {d : DataW H} {p : List MemPlace} (h : DataW.Trod enc Try.prog W b2 sp held 36 v d p) (hval : Value.okWide Try.prog W .any b1 36 v) :
    ∃ (A : Option Addr) (zs : List Int) (c : Nat), v = .slice A zs.length c ∧ Row W W.heap.size 1 A zs.length c (intC zs) ∧ zs.length ≤ maxLen := by
  obtain ⟨fuel, hf⟩ := h
  have hv : v.cells.toList = [v] := by
    obtain ⟨a, n, c, rfl⟩ := okWide_slice Try.underlying36 hval
    rfl
  rw [hv] at hf
  have hc3 : Try.prog.cellsOf 3 = 1 := by kernel_rfl
  rcases Go.Deep.open_slice Try.underlying36 hf with ⟨h0, _⟩ | ⟨a, len, cap, m, fu, D, Pl, h0, hb, hlc, hcm, hm, _, hel⟩
  · obtain rfl : v = .slice none 0 0 := by simpa using h0
    exact ⟨none, [], 0, rfl, Row.empty _ _ _, Nat.zero_le _⟩
  · obtain rfl : v = .slice (some a) len cap := by simpa using h0
    have hlm : len ≤ m := by rw [hm]; split <;> omega
    obtain ⟨zs, hzl, hz⟩ := list_of len (fun i (z : Int) => W.cell? (a.add i) = some (.int .i64 z)) fun i hi => by
      obtain ⟨cs', hcs, ht⟩ := hel i (by omega)
      rw [hc3, Nat.mul_one] at hcs
      obtain ⟨c0, rfl, k0⟩ := cells1 hcs
      obtain ⟨x0, e0, _⟩ := DataW.trod_int (k := .i64) Try.underlying3 ht
      simp only [List.cons.injEq, and_true] at e0
      subst e0
      exact ⟨x0, k0⟩
    refine ⟨some a, zs, cap, by rw [hzl], ⟨by rw [intC_len, Nat.mul_one], by omega, fun e => (by cases e), fun j u hj => ?_⟩, by omega⟩
    unfold intC at hj
    rw [List.getElem?_map] at hj
    obtain ⟨z, hz1, rfl⟩ := Option.map_eq_some_iff.1 hj
    obtain ⟨hjl, rfl⟩ := List.getElem?_eq_some_iff.1 hz1
    have hc := hz j hjl
    refine ⟨a, rfl, ?_, hc⟩
    have := World.block_lt_of_cell? W _ hc
    rwa [add_block] at this
theorem cells4c {a : Addr} {cs : List Value} (h : W.cells? b2 a 4 = some cs) : ∃ c0 c1 c2 c3, cs = [c0, c1, c2, c3] ∧ W.cell? a = some c0 ∧ W.cell? (a.add 1) = some c1 ∧ W.cell? (a.add 2) = some c2 ∧ W.cell? (a.add 3) = some c3 := by
  obtain ⟨_, hl, hc⟩ := World.cells?_some h
  match cs, hl with
  | [c0, c1, c2, c3], _ =>
    have h0 := hc 0 (by omega)
    rw [show a.add 0 = a by simp [Addr.add]] at h0
    exact ⟨c0, c1, c2, c3, rfl, by simpa using h0, by simpa using hc 1 (by omega), by simpa using hc 2 (by omega), by simpa using hc 3 (by omega)⟩
end
/-- a slice of acts -/
def Acts (w : World) (B : Nat) (A : Option Addr) (c : Nat) (us : List At) : Prop := Row w B 4 A us.length c (us.flatMap actV) ∧ ∀ a ∈ us, a.Fit
theorem Acts.at_ {w : World} {B c : Nat} {A : Option Addr} {us : List At} (h : Acts w B A c us) {k : Nat} (hk : k < us.length) : ∃ ad, A = some ad ∧ ad.block < B ∧ (w.cell? (ad.add (k * 4)) = some (.int .i64 us[k].kind) ∧ w.cell? ⟨(ad.add (k * 4)).block, (ad.add (k * 4)).off + 1, none⟩ = some (.int .i64 us[k].off) ∧
    w.cell? ⟨(ad.add (k * 4)).block, (ad.add (k * 4)).off + 2, none⟩ = some (.int .i64 us[k].n) ∧ w.cell? ⟨(ad.add (k * 4)).block, (ad.add (k * 4)).off + 3, none⟩ = some (.string (str us[k].text))) ∧ us[k].Fit := by
  have e := fun j (hj : j < 4) => flat_at actV 4 (fun _ => rfl) us k j hk hj
  obtain ⟨ad, ea, hb, c0⟩ := h.1.2.2.2 (k * 4 + 0) _ ((e 0 (by omega)).trans rfl)
  have get : ∀ j u, j < 4 → (actV us[k])[j]? = some u → w.cell? ((ad.add (k * 4)).add j) = some u := fun j u hj hu => by
    obtain ⟨ad', ea', _, c1⟩ := h.1.2.2.2 (k * 4 + j) _ ((e j hj).trans hu)
    obtain rfl : ad = ad' := by rw [ea] at ea'; injection ea'
    rw [add_twice]
    exact c1
  exact ⟨ad, ea, hb, ⟨c0, get 1 _ (by omega) rfl, get 2 _ (by omega) rfl, get 3 _ (by omega) rfl⟩, h.2 _ (List.getElem_mem hk)⟩
theorem Acts.on {w w' : World} {B c : Nat} {A : Option Addr} {us : List At} (h : Acts w B A c us) (hb : Below B w w') : Acts w' B A c us := ⟨h.1.below hb (Nat.le_refl _), h.2⟩
section
variable {H : Type} {enc : TypeId × Value → H} {W : World} {b2 : Nat} {sp : Nat → Bool} {held : Bool}
theorem open_acts {b1 : Nat} {v : Value} {d : DataW H} {p : List MemPlace} (h : DataW.Trod enc Try.prog W b2 sp held 22 v d p) (hval : Value.okWide Try.prog W .any b1 22 v) :
    ∃ (A : Option Addr) (us : List At) (c : Nat), v = .slice A us.length c ∧ Acts W W.heap.size A c us ∧ us.length ≤ maxLen := by
  obtain ⟨fuel, hf⟩ := h
  have hv : v.cells.toList = [v] := by
    obtain ⟨a, n, c, rfl⟩ := okWide_slice Try.underlying22 hval
    rfl
  rw [hv] at hf
  have hc33 : Try.prog.cellsOf 33 = 4 := by kernel_rfl
  have hc3 : Try.prog.cellsOf 3 = 1 := by kernel_rfl
  have hc9 : Try.prog.cellsOf 9 = 1 := by kernel_rfl
  rcases Go.Deep.open_slice Try.underlying22 hf with ⟨h0, _⟩ | ⟨a, len, cap, m, fu, D, Pl, h0, hb, hlc, hcm, hm, _, hel⟩
  · obtain rfl : v = .slice none 0 0 := by simpa using h0
    exact ⟨none, [], 0, rfl, ⟨Row.empty _ _ _, fun x hx => by cases hx⟩, Nat.zero_le _⟩
  · obtain rfl : v = .slice (some a) len cap := by simpa using h0
    have hlm : len ≤ m := by rw [hm]; split <;> omega
    obtain ⟨us, hul, hu⟩ := list_of len (fun i (q : At) => (W.cell? (a.add (i * 4)) = some (.int .i64 q.kind) ∧ W.cell? (a.add (i * 4 + 1)) = some (.int .i64 q.off) ∧ W.cell? (a.add (i * 4 + 2)) = some (.int .i64 q.n) ∧ W.cell? (a.add (i * 4 + 3)) = some (.string (str q.text))) ∧ q.Fit) fun i hi => by
      obtain ⟨cs', hcs, ht⟩ := hel i (by omega)
      rw [hc33] at hcs
      obtain ⟨c0, c1, c2, c3, rfl, k0, k1, k2, k3⟩ := cells4c hcs
      obtain ⟨y0, y1, y2, y3, n, _, _, t0, t1, t2, t3⟩ := Joins.trod_struct4 Try.underlying33 ht
      simp only [hc3, hc9, List.drop_zero, List.drop_succ_cons, List.take_succ_cons, List.take_zero] at t0 t1 t2 t3
      obtain ⟨x0, e0, _, w0⟩ := DataW.trod_int (k := .i64) Try.underlying3 t0
      obtain ⟨x1, e1, _, w1⟩ := DataW.trod_int (k := .i64) Try.underlying3 t1
      obtain ⟨x2, e2, _, w2⟩ := DataW.trod_int (k := .i64) Try.underlying3 t2
      obtain ⟨x3, e3, _, w3⟩ := DataW.trod_string Try.underlying9 t3
      simp only [List.cons.injEq, and_true] at e0 e1 e2 e3
      subst e0 e1 e2 e3
      rw [Go.Deep.add_add] at k1 k2 k3
      exact ⟨⟨x0, x1, x2, x3.data.toList⟩, ⟨k0, k1, k2, by rw [← str_eq rfl]; exact k3⟩, ⟨bd_i64 w1, bd_i64 w2, by rw [data_len]; exact w3⟩⟩
    have hfl0 : ∀ x : At, (actV x).length = 4 := fun _ => rfl
    refine ⟨some a, us, cap, by rw [hul], ⟨⟨flat_len _ 4 hfl0 us, by omega, fun e => (by cases e), fun j u hj => ?_⟩, fun x hx => ?_⟩, by omega⟩
    · have hjl : j < us.length * 4 := by have := (List.getElem?_eq_some_iff.1 hj).1; rwa [flat_len _ 4 hfl0 us] at this
      have hk : j / 4 < us.length := by omega
      have hfl := flat_at actV 4 hfl0 us (j / 4) (j % 4) hk (Nat.mod_lt _ (by omega))
      rw [show j / 4 * 4 + j % 4 = j by omega] at hfl
      rw [hfl] at hj
      obtain ⟨⟨q0, q1, q2, q3⟩, _⟩ := hu (j / 4) hk
      have hc : W.cell? (a.add j) = some u := by
        rcases (show j % 4 = 0 ∨ j % 4 = 1 ∨ j % 4 = 2 ∨ j % 4 = 3 by omega) with e | e | e | e
        · rw [e] at hj; rw [show j / 4 * 4 = j by omega] at q0; rw [q0, ← hj]; rfl
        · rw [e] at hj; rw [show j / 4 * 4 + 1 = j by omega] at q1; rw [q1, ← hj]; rfl
        · rw [e] at hj; rw [show j / 4 * 4 + 2 = j by omega] at q2; rw [q2, ← hj]; rfl
        · rw [e] at hj; rw [show j / 4 * 4 + 3 = j by omega] at q3; rw [q3, ← hj]; rfl
      refine ⟨a, rfl, ?_, hc⟩
      have := World.block_lt_of_cell? W _ hc
      rwa [add_block] at this
    · obtain ⟨i, hi, rfl⟩ := List.mem_iff_getElem.1 hx
      exact (hu i hi).2
end
theorem open_pair {H : Type} {enc : TypeId × Value → H} {W : World} {b1 b2 : Nat} {sp : Nat → Bool} {held : Bool} {v : Value} {d : DataW H} {p : List MemPlace}
    (hval : Value.okWide Try.prog W .any b1 42 v) (h : DataW.Trod enc Try.prog W b2 sp held 42 v d p) :
    ∃ a b : Int, v = .agg #[.int .i64 a, .int .i64 b] ∧ (-9223372036854775808 ≤ a ∧ a ≤ 9223372036854775807) ∧ (-9223372036854775808 ≤ b ∧ b ≤ 9223372036854775807) := by
  have hc42 : Try.prog.cellsOf 42 = 2 := by kernel_rfl
  have hc3 : Try.prog.cellsOf 3 = 1 := by kernel_rfl
  simp only [Value.okWide, Try.underlying42] at hval
  obtain ⟨cs, rfl, hsz, _⟩ := hval
  obtain ⟨c0, c1, rfl⟩ := Joins.array2 (hsz.trans hc42)
  obtain ⟨fuel, hf⟩ := h
  obtain ⟨xs, m, rfl, _, _, hxl, hat⟩ := DataW.trod_array Try.underlying42 hf
  rw [hc3] at hat
  have h0 := hat 0 (by omega)
  have h1 := hat 1 (by omega)
  rw [List.getElem?_eq_getElem (by omega)] at h0 h1
  obtain ⟨a, ea, _, wa⟩ := DataW.trod_int (k := .i64) Try.underlying3 h0
  obtain ⟨b, eb, _, wb⟩ := DataW.trod_int (k := .i64) Try.underlying3 h1
  have ea' : c0 = .int .i64 a := by simpa [Value.cells] using ea
  have eb' : c1 = .int .i64 b := by simpa [Value.cells] using eb
  subst ea' eb'
  exact ⟨a, b, rfl, by simpa [Lit.wf, IntKind.min, IntKind.max, IntKind.signed, IntKind.bits] using wa, by simpa [Lit.wf, IntKind.min, IntKind.max, IntKind.signed, IntKind.bits] using wb⟩

end Go.Proofs.Ytigmmcmekklkfaa
