/- copyOf, and the reference's own: a commit in new memory. -/
import Derived.Maps.AppendAt
import Derived.Test.YtiikbekboapphaaRev
namespace Go.Proofs.Ytiikbekboapphaa
set_option maxRecDepth 100000
open Go.RowKit
theorem intC_one (l : List Int) : ∀ u ∈ intC l, u.oneCell' = true := fun u hu => by
  obtain ⟨k, _, rfl⟩ := List.mem_map.1 hu
  rfl
/-- append(nil, l...) -/
theorem append_copy {w : World} {ops : Array Oper} {rest : List Oper} {o : Oper} {a : Act} {Q : Exit → Act → World → Prop} (hgd : o.guard = none) (s x : Operand)
    (ho : o.op = .call { callee := .builtin .append, args := #[s, x], argTypes := #[23, 23] }) (base : Nat) (hs : a.eval s = .slice none 0 0)
    (A : Option Addr) (m c B : Nat) (l : List Int) (hx : a.eval x = .slice A m c) (hS : Row w B 1 A m c (intC l)) (h63 : m ≤ 1099511627776) (hbase : base ≤ w.heap.size)
    (h : ∀ A' c' w', w'.ownsRow base 3 1 (.slice A' m c') m (intC l) → w.grownBy w' none → (∀ g, (Value.slice A' m c').ownBlock = some g → g = w.heap.size) → wpList Try.prog ops Q rest (a.put o.dst (.slice A' m c')) w') : wpList Try.prog ops Q (o :: rest) a w := by
  obtain ⟨i3, hi3, hz0, hz1, hz2⟩ := info_parts info3
  cases A with
  | none =>
    have hc : c = 0 := hS.2.2.1 rfl
    have hm : m = 0 := by have := hS.2.1; omega
    subst hm
    have hl : l = [] := List.eq_nil_of_length_eq_zero (by have := hS.1; rw [intC_len] at this; omega)
    subst hl
    subst hc
    exact wpList_append_own_none hgd s x 23 ho base 3 i3 1 Try.underlying23 hi3 (.slice none 0 0) 0 [] hs (World.ownsRow_nil _ _ _ _) hx (h none 0 w (World.ownsRow_nil _ _ _ _) ⟨rfl, rfl, rfl, Nat.le_refl _, fun _ _ _ => rfl⟩ (fun g e => by simp [Value.ownBlock] at e))
  | some ad =>
    refine wpList_append_own_at w hgd s x 23 ho base 3 i3 _ 1 8 Try.underlying23 hi3 hz0 hz1 hz2 rfl (by decide) (.slice none 0 0) 0 [] hs (World.ownsRow_nil _ _ _ _) ad m c (intC l) hx hS.1
      (fun j u hj => by
        obtain ⟨ad', e, _, hc⟩ := hS.2.2.2 j u hj
        have e := Option.some.inj e
        subst e
        exact hc) (intC_one l) (by unfold maxLen; omega) (by omega) hbase (fun v' w' h1 h2 _ h5 => ?_)
    rw [Nat.zero_add, List.nil_append] at h1
    obtain ⟨A', c', rfl⟩ := own_form h1
    refine h A' c' w' h1 h2 fun g e => ?_
    rcases h5 with h5 | h5
    · rw [h5] at e; simp [Value.ownBlock] at e
    · rw [h5] at e; injection e with e; exact e.symm
/-- the world in which the five cells of a commit were written -/
def put5 (W : World) (g : Nat) (v0 v1 v2 v3 v4 : Value) : World := ((((W.setCell ⟨g, 0, none⟩ v0).setCell ⟨g, 1, none⟩ v1).setCell ⟨g, 2, none⟩ v2).setCell ⟨g, 3, none⟩ v3).setCell ⟨g, 4, none⟩ v4
theorem Full.five {W : World} {g : Nat} {t : TypeId} {a0 a1 a2 a3 a4 : Value} (h : Full W g t [a0, a1, a2, a3, a4]) (v0 v1 v2 v3 v4 : Value) :
    (W.cell? ⟨g, 0, none⟩ = some a0 ∧ W.frozen? ⟨g, 0, none⟩ = false) ∧ ((W.setCell ⟨g, 0, none⟩ v0).cell? ⟨g, 1, none⟩ = some a1 ∧ (W.setCell ⟨g, 0, none⟩ v0).frozen? ⟨g, 1, none⟩ = false) ∧
    (((W.setCell ⟨g, 0, none⟩ v0).setCell ⟨g, 1, none⟩ v1).cell? ⟨g, 2, none⟩ = some a2 ∧ ((W.setCell ⟨g, 0, none⟩ v0).setCell ⟨g, 1, none⟩ v1).frozen? ⟨g, 2, none⟩ = false) ∧
    ((((W.setCell ⟨g, 0, none⟩ v0).setCell ⟨g, 1, none⟩ v1).setCell ⟨g, 2, none⟩ v2).cell? ⟨g, 3, none⟩ = some a3 ∧ (((W.setCell ⟨g, 0, none⟩ v0).setCell ⟨g, 1, none⟩ v1).setCell ⟨g, 2, none⟩ v2).frozen? ⟨g, 3, none⟩ = false) ∧
    (((((W.setCell ⟨g, 0, none⟩ v0).setCell ⟨g, 1, none⟩ v1).setCell ⟨g, 2, none⟩ v2).setCell ⟨g, 3, none⟩ v3).cell? ⟨g, 4, none⟩ = some a4 ∧ ((((W.setCell ⟨g, 0, none⟩ v0).setCell ⟨g, 1, none⟩ v1).setCell ⟨g, 2, none⟩ v2).setCell ⟨g, 3, none⟩ v3).frozen? ⟨g, 4, none⟩ = false) ∧
    Full (put5 W g v0 v1 v2 v3 v4) g t [v0, v1, v2, v3, v4] := by
  have h1 : Full (W.setCell ⟨g, 0, none⟩ v0) g t [v0, a1, a2, a3, a4] := h.set_ 0 v0
  have h2 : Full ((W.setCell ⟨g, 0, none⟩ v0).setCell ⟨g, 1, none⟩ v1) g t [v0, v1, a2, a3, a4] := h1.set_ 1 v1
  have h3 : Full (((W.setCell ⟨g, 0, none⟩ v0).setCell ⟨g, 1, none⟩ v1).setCell ⟨g, 2, none⟩ v2) g t [v0, v1, v2, a3, a4] := h2.set_ 2 v2
  have h4 : Full ((((W.setCell ⟨g, 0, none⟩ v0).setCell ⟨g, 1, none⟩ v1).setCell ⟨g, 2, none⟩ v2).setCell ⟨g, 3, none⟩ v3) g t [v0, v1, v2, v3, a4] := h3.set_ 3 v3
  exact ⟨⟨h.cell 0, h.frozen 0⟩, ⟨h1.cell 1, h1.frozen 1⟩, ⟨h2.cell 2, h2.frozen 2⟩, ⟨h3.cell 3, h3.frozen 3⟩, ⟨h4.cell 4, h4.frozen 4⟩, h4.set_ 4 v4⟩
theorem put5_heap (W : World) (g : Nat) (v0 v1 v2 v3 v4 : Value) (x : Nat) (h : x ≠ g) : (put5 W g v0 v1 v2 v3 v4).heap[x]? = W.heap[x]? := by
  unfold put5
  rw [Below.heap_setCell _ _ _ _ h, Below.heap_setCell _ _ _ _ h, Below.heap_setCell _ _ _ _ h, Below.heap_setCell _ _ _ _ h, Below.heap_setCell _ _ _ _ h]
theorem put5_below {B : Nat} {w W : World} {g : Nat} (h : Below B w W) (hg : B ≤ g) (v0 v1 v2 v3 v4 : Value) : Below B w (put5 W g v0 v1 v2 v3 v4) :=
  ((((h.setCell hg v0).setCell hg v1).setCell hg v2).setCell hg v3).setCell hg v4
def CopyOut (w : World) (ps ch : List Int) (t : Int) (au : ByteArray) (em : Bool) (e : Ending) (w' : World) : Prop :=
  ∃ a a2, e = .returned (.agg #[a, .int .i64 t, .string au, a2, .bool em]) ∧ w'.ownsRow w.heap.size 3 1 a ps.length (intC ps) ∧ w'.ownsRow w.heap.size 3 1 a2 ch.length (intC ch) ∧ (∀ g, a.ownBlock = some g → a2.ownBlock ≠ some g) ∧ Below w.heap.size w w'
set_option maxHeartbeats 4000000 in
theorem copy_any {w : World} {B n c n2 c2 : Nat} {A A2 : Option Addr} {ps ch : List Int} {t : Int} {au : ByteArray} {em : Bool} (h1 : Row w B 1 A n c (intC ps)) (h2 : Row w B 1 A2 n2 c2 (intC ch)) (hB : B ≤ w.heap.size) (hn : n ≤ 1099511627776) (hn2 : n2 ≤ 1099511627776) :
    Calls Try.prog 38 #[.agg #[.slice A n c, .int .i64 t, .string au, .slice A2 n2 c2, .bool em]] w (CopyOut w ps ch t au em) := by
  unfold CopyOut
  have e1 : ps.length = n := by have := h1.1; rw [intC_len] at this; omega
  have e2 : ch.length = n2 := by have := h2.1; rw [intC_len] at this; omega
  rw [e1, e2]
  obtain ⟨w1, hw1⟩ : ∃ w1, (w.alloc (.cells #[.slice A n c, .int .i64 t, .string au, .slice A2 n2 c2, .bool em] 25)).alloc (.cells #[.slice none 0 0, .int .i64 0, .string ⟨#[]⟩, .slice none 0 0, .bool false] 25) = w1 := ⟨_, rfl⟩
  have hb1 : Below w.heap.size w w1 := by rw [← hw1]; exact ((Below.refl _ w).alloc (Nat.le_refl _) _).alloc (by simp) _
  have hs1 : w1.heap.size = w.heap.size + 2 := by rw [← hw1]; simp
  have HR1 := Lib.hid (Row.below h1 hb1 hB)
  have HR2 := Lib.hid (fun (w' : World) (hb : Below w.heap.size w w') => Row.below h2 hb hB)
  have K1 : Full w1 w.heap.size 25 [.slice A n c, .int .i64 t, .string au, .slice A2 n2 c2, .bool em] := by
    rw [← hw1]
    exact (Full.new w 25 [.slice A n c, .int .i64 t, .string au, .slice A2 n2 c2, .bool em]).alloc _
  have R1 : Full w1 (w.heap.size + 1) 25 [.slice none 0 0, .int .i64 0, .string ⟨#[]⟩, .slice none 0 0, .bool false] := by
    rw [← hw1]
    have := Full.new (w.alloc (.cells #[.slice A n c, .int .i64 t, .string au, .slice A2 n2 c2, .bool em] 25)) 25 [.slice none 0 0, .int .i64 0, .string ⟨#[]⟩, .slice none 0 0, .bool false]
    rwa [World.size_alloc] at this
  have k0 : w1.cell? ⟨w.heap.size, 0, none⟩ = some (.slice A n c) := K1.cell 0
  have k3 : w1.cell? ⟨w.heap.size, 3, none⟩ = some (.slice A2 n2 c2) := K1.cell 3
  have HK1 := Lib.hid K1
  have HRR := Lib.hid R1
  have HB1 := Lib.hid hb1
  have HS1 := Lib.hid hs1
  clear h1 h2 e1 e2 K1 R1 hb1 hs1
  go_enter Try.func38, Try.ntmps38
  go_upto_region 1 with fail
  clear hw1
  have hgn : ∀ k : Nat, (some k : Option Nat) ≠ none := fun k => by simp
  go_wp2_with (first
    | (at_builtin; refine append_copy rfl _ _ rfl w.heap.size rfl A n c B ps rfl HR1.out hn HB1.out.size ?_; intro A5 c5 w5 ho5 hg5 ha5; (have F5 := HK1.out.grown hg5 (hgn _)); (have x0 : w5.cell? ⟨w.heap.size, 0, none⟩ = some (.slice A n c) := F5.cell 0); (have x1 : w5.frozen? ⟨w.heap.size, 0, none⟩ = false := F5.frozen 0); (have F6 : Full (w5.setCell ⟨w.heap.size, 0, none⟩ (.slice A5 n c5)) w.heap.size 25 [.slice A5 n c5, .int .i64 t, .string au, .slice A2 n2 c2, .bool em] := F5.set_ 0 _); (have y3 : (w5.setCell ⟨w.heap.size, 0, none⟩ (.slice A5 n c5)).cell? ⟨w.heap.size, 3, none⟩ = some (.slice A2 n2 c2) := F6.cell 3); (have HB5 := Lib.hid (show Below w.heap.size w (w5.setCell ⟨w.heap.size, 0, none⟩ (.slice A5 n c5)) from (HB1.out.grown hg5 HB1.out.size (fun j e => by simp at e)).setCell (Nat.le_refl _) _)); (have G5 := (HRR.out.grown hg5 (hgn _)).far (p := ⟨w.heap.size, 0, none⟩) (by simp) (.slice A5 n c5)))
    | (at_builtin; refine append_copy rfl _ _ rfl w.heap.size rfl A2 n2 c2 B ch rfl (HR2.out _ HB5.out) hn2 HB5.out.size ?_; intro A7 c7 w7 ho7 hg7 ha7; (have F7 := F6.grown hg7 (hgn _)); (have z0 : w7.cell? ⟨w.heap.size, 3, none⟩ = some (.slice A2 n2 c2) := F7.cell 3); (have z1 : w7.frozen? ⟨w.heap.size, 3, none⟩ = false := F7.frozen 3); (have F8 : Full (w7.setCell ⟨w.heap.size, 3, none⟩ (.slice A7 n2 c7)) w.heap.size 25 [.slice A5 n c5, .int .i64 t, .string au, .slice A7 n2 c7, .bool em] := F7.set_ 3 _);
        (have q0 : (w7.setCell ⟨w.heap.size, 3, none⟩ (.slice A7 n2 c7)).cell? ⟨w.heap.size, 0, none⟩ = some (.slice A5 n c5) := F8.cell 0); (have q1 : (w7.setCell ⟨w.heap.size, 3, none⟩ (.slice A7 n2 c7)).cell? ⟨w.heap.size, 1, none⟩ = some (.int .i64 t) := F8.cell 1); (have q2 : (w7.setCell ⟨w.heap.size, 3, none⟩ (.slice A7 n2 c7)).cell? ⟨w.heap.size, 2, none⟩ = some (.string au) := F8.cell 2); (have q3 : (w7.setCell ⟨w.heap.size, 3, none⟩ (.slice A7 n2 c7)).cell? ⟨w.heap.size, 3, none⟩ = some (.slice A7 n2 c7) := F8.cell 3); (have q4 : (w7.setCell ⟨w.heap.size, 3, none⟩ (.slice A7 n2 c7)).cell? ⟨w.heap.size, 4, none⟩ = some (.bool em) := F8.cell 4);
        (have G8 := ((G5.grown hg7 (hgn _)).far (p := ⟨w.heap.size, 3, none⟩) (by simp) (.slice A7 n2 c7)).five (.slice A5 n c5) (.int .i64 t) (.string au) (.slice A7 n2 c7) (.bool em)); (obtain ⟨⟨r0, f0⟩, ⟨r1, f1⟩, ⟨r2, f2⟩, ⟨r3, f3⟩, ⟨r4, f4⟩, G9⟩ := G8);
        (have b0 : (put5 (w7.setCell ⟨w.heap.size, 3, none⟩ (.slice A7 n2 c7)) (w.heap.size + 1) (.slice A5 n c5) (.int .i64 t) (.string au) (.slice A7 n2 c7) (.bool em)).cell? ⟨w.heap.size + 1, 0, none⟩ = some (.slice A5 n c5) := G9.cell 0);
        (have b1 : (put5 (w7.setCell ⟨w.heap.size, 3, none⟩ (.slice A7 n2 c7)) (w.heap.size + 1) (.slice A5 n c5) (.int .i64 t) (.string au) (.slice A7 n2 c7) (.bool em)).cell? ⟨w.heap.size + 1, 1, none⟩ = some (.int .i64 t) := G9.cell 1);
        (have b2 : (put5 (w7.setCell ⟨w.heap.size, 3, none⟩ (.slice A7 n2 c7)) (w.heap.size + 1) (.slice A5 n c5) (.int .i64 t) (.string au) (.slice A7 n2 c7) (.bool em)).cell? ⟨w.heap.size + 1, 2, none⟩ = some (.string au) := G9.cell 2);
        (have b3 : (put5 (w7.setCell ⟨w.heap.size, 3, none⟩ (.slice A7 n2 c7)) (w.heap.size + 1) (.slice A5 n c5) (.int .i64 t) (.string au) (.slice A7 n2 c7) (.bool em)).cell? ⟨w.heap.size + 1, 3, none⟩ = some (.slice A7 n2 c7) := G9.cell 3);
        (have b4 : (put5 (w7.setCell ⟨w.heap.size, 3, none⟩ (.slice A7 n2 c7)) (w.heap.size + 1) (.slice A5 n c5) (.int .i64 t) (.string au) (.slice A7 n2 c7) (.bool em)).cell? ⟨w.heap.size + 1, 4, none⟩ = some (.bool em) := G9.cell 4)))
  unfold put5 at b0 b1 b2 b3 b4
  refine bodyPost_ret (v := .agg #[.slice A5 n c5, .int .i64 t, .string au, .slice A7 n2 c7, .bool em]) (by simp [results, Try.results38, go_sem, b0, b1, b2, b3, b4]) rfl ?_
  have hs1 := HS1.out
  have hb7 : Below w.heap.size w w7 := HB5.out.grown hg7 HB5.out.size (fun j e => by simp at e)
  have hs5 : w1.heap.size ≤ w5.heap.size := hg5.size
  have hz5 : w5.heap.size ≤ (w5.setCell ⟨w.heap.size, 0, none⟩ (.slice A5 n c5)).heap.size := by simp [World.setCell]
  have hlt5 := owns_lt ho5
  refine ⟨.slice A5 n c5, .slice A7 n2 c7, rfl, owns_keep ho5 fun g e => ?_, owns_keep ho7 fun g e => ?_, fun g e e' => ?_, put5_below (hb7.setCell (Nat.le_refl _) _) (by omega) _ _ _ _ _⟩
  · have := ha5 g e
    have hl := hlt5 g e
    refine (put5_heap _ _ _ _ _ _ _ g (by omega)).trans ?_
    refine (Below.heap_setCell _ _ _ g (by simp; omega)).trans ?_
    exact (hg7.block g (by omega) (by simp)).trans (Below.heap_setCell _ _ _ g (by simp; omega))
  · have := ha7 g e
    refine (put5_heap _ _ _ _ _ _ _ g (by omega)).trans ?_
    exact Below.heap_setCell _ _ _ g (by simp; omega)
  · have := ha7 g e'
    have := hlt5 g e
    omega
set_option maxHeartbeats 4000000 in
theorem own_any {w : World} {B n c n2 c2 : Nat} {A A2 : Option Addr} {ps ch : List Int} {t : Int} {au : ByteArray} {em : Bool} (h1 : Row w B 1 A n c (intC ps)) (h2 : Row w B 1 A2 n2 c2 (intC ch)) (hB : B ≤ w.heap.size) (hn : n ≤ 1099511627776) (hn2 : n2 ≤ 1099511627776) :
    Calls Try.prog 40 #[.agg #[.slice A n c, .int .i64 t, .string au, .slice A2 n2 c2, .bool em]] w (CopyOut w ps ch t au em) := by
  unfold CopyOut
  have e1 : ps.length = n := by have := h1.1; rw [intC_len] at this; omega
  have e2 : ch.length = n2 := by have := h2.1; rw [intC_len] at this; omega
  rw [e1, e2]
  obtain ⟨w1, hw1⟩ : ∃ w1, (w.alloc (.cells #[.slice A n c, .int .i64 t, .string au, .slice A2 n2 c2, .bool em] 25)).alloc (.cells #[.slice none 0 0, .int .i64 0, .string ⟨#[]⟩, .slice none 0 0, .bool false] 25) = w1 := ⟨_, rfl⟩
  have hb1 : Below w.heap.size w w1 := by rw [← hw1]; exact ((Below.refl _ w).alloc (Nat.le_refl _) _).alloc (by simp) _
  have hs1 : w1.heap.size = w.heap.size + 2 := by rw [← hw1]; simp
  have HR1 := Lib.hid (Row.below h1 hb1 hB)
  have HR2 := Lib.hid (fun (w' : World) (hb : Below w.heap.size w w') => Row.below h2 hb hB)
  have K1 : Full w1 w.heap.size 25 [.slice A n c, .int .i64 t, .string au, .slice A2 n2 c2, .bool em] := by
    rw [← hw1]
    exact (Full.new w 25 [.slice A n c, .int .i64 t, .string au, .slice A2 n2 c2, .bool em]).alloc _
  have R1 : Full w1 (w.heap.size + 1) 25 [.slice none 0 0, .int .i64 0, .string ⟨#[]⟩, .slice none 0 0, .bool false] := by
    rw [← hw1]
    have := Full.new (w.alloc (.cells #[.slice A n c, .int .i64 t, .string au, .slice A2 n2 c2, .bool em] 25)) 25 [.slice none 0 0, .int .i64 0, .string ⟨#[]⟩, .slice none 0 0, .bool false]
    rwa [World.size_alloc] at this
  have k0 : w1.cell? ⟨w.heap.size, 0, none⟩ = some (.slice A n c) := K1.cell 0
  have k3 : w1.cell? ⟨w.heap.size, 3, none⟩ = some (.slice A2 n2 c2) := K1.cell 3
  have HK1 := Lib.hid K1
  have HRR := Lib.hid R1
  have HB1 := Lib.hid hb1
  have HS1 := Lib.hid hs1
  clear h1 h2 e1 e2 K1 R1 hb1 hs1
  go_enter Try.func40, Try.ntmps40
  go_upto_region 3 with fail
  clear hw1
  have hgn : ∀ k : Nat, (some k : Option Nat) ≠ none := fun k => by simp
  go_wp2_with (first
    | (at_builtin; refine append_copy rfl _ _ rfl w.heap.size rfl A n c B ps rfl HR1.out hn HB1.out.size ?_; intro A5 c5 w5 ho5 hg5 ha5; (have F5 := HK1.out.grown hg5 (hgn _)); (have y3 : w5.cell? ⟨w.heap.size, 3, none⟩ = some (.slice A2 n2 c2) := F5.cell 3); (have HB5 := Lib.hid (show Below w.heap.size w w5 from HB1.out.grown hg5 HB1.out.size (fun j e => by simp at e))); (have G5 := HRR.out.grown hg5 (hgn _)))
    | (at_builtin; refine append_copy rfl _ _ rfl w.heap.size rfl A2 n2 c2 B ch rfl (HR2.out _ HB5.out) hn2 HB5.out.size ?_; intro A7 c7 w7 ho7 hg7 ha7; (have F7 := F5.grown hg7 (hgn _)); (have z0 : w7.cell? ⟨w.heap.size, 0, none⟩ = some (.slice A n c) := F7.cell 0); (have z1 : w7.frozen? ⟨w.heap.size, 0, none⟩ = false := F7.frozen 0);
        (have F8 : Full (w7.setCell ⟨w.heap.size, 0, none⟩ (.slice A5 n c5)) w.heap.size 25 [.slice A5 n c5, .int .i64 t, .string au, .slice A2 n2 c2, .bool em] := F7.set_ 0 _); (have z3 : (w7.setCell ⟨w.heap.size, 0, none⟩ (.slice A5 n c5)).cell? ⟨w.heap.size, 3, none⟩ = some (.slice A2 n2 c2) := F8.cell 3); (have z4 : (w7.setCell ⟨w.heap.size, 0, none⟩ (.slice A5 n c5)).frozen? ⟨w.heap.size, 3, none⟩ = false := F8.frozen 3);
        (have F9 : Full ((w7.setCell ⟨w.heap.size, 0, none⟩ (.slice A5 n c5)).setCell ⟨w.heap.size, 3, none⟩ (.slice A7 n2 c7)) w.heap.size 25 [.slice A5 n c5, .int .i64 t, .string au, .slice A7 n2 c7, .bool em] := F8.set_ 3 _);
        (have q0 : ((w7.setCell ⟨w.heap.size, 0, none⟩ (.slice A5 n c5)).setCell ⟨w.heap.size, 3, none⟩ (.slice A7 n2 c7)).cell? ⟨w.heap.size, 0, none⟩ = some (.slice A5 n c5) := F9.cell 0);
        (have q1 : ((w7.setCell ⟨w.heap.size, 0, none⟩ (.slice A5 n c5)).setCell ⟨w.heap.size, 3, none⟩ (.slice A7 n2 c7)).cell? ⟨w.heap.size, 1, none⟩ = some (.int .i64 t) := F9.cell 1);
        (have q2 : ((w7.setCell ⟨w.heap.size, 0, none⟩ (.slice A5 n c5)).setCell ⟨w.heap.size, 3, none⟩ (.slice A7 n2 c7)).cell? ⟨w.heap.size, 2, none⟩ = some (.string au) := F9.cell 2);
        (have q3 : ((w7.setCell ⟨w.heap.size, 0, none⟩ (.slice A5 n c5)).setCell ⟨w.heap.size, 3, none⟩ (.slice A7 n2 c7)).cell? ⟨w.heap.size, 3, none⟩ = some (.slice A7 n2 c7) := F9.cell 3);
        (have q4 : ((w7.setCell ⟨w.heap.size, 0, none⟩ (.slice A5 n c5)).setCell ⟨w.heap.size, 3, none⟩ (.slice A7 n2 c7)).cell? ⟨w.heap.size, 4, none⟩ = some (.bool em) := F9.cell 4);
        (have G8 := (((G5.grown hg7 (hgn _)).far (p := ⟨w.heap.size, 0, none⟩) (by simp) (.slice A5 n c5)).far (p := ⟨w.heap.size, 3, none⟩) (by simp) (.slice A7 n2 c7)).five (.slice A5 n c5) (.int .i64 t) (.string au) (.slice A7 n2 c7) (.bool em)); (obtain ⟨⟨r0, f0⟩, ⟨r1, f1⟩, ⟨r2, f2⟩, ⟨r3, f3⟩, ⟨r4, f4⟩, G9⟩ := G8);
        (have b0 : (put5 (((w7.setCell ⟨w.heap.size, 0, none⟩ (.slice A5 n c5)).setCell ⟨w.heap.size, 3, none⟩ (.slice A7 n2 c7))) (w.heap.size + 1) (.slice A5 n c5) (.int .i64 t) (.string au) (.slice A7 n2 c7) (.bool em)).cell? ⟨w.heap.size + 1, 0, none⟩ = some (.slice A5 n c5) := G9.cell 0);
        (have b1 : (put5 (((w7.setCell ⟨w.heap.size, 0, none⟩ (.slice A5 n c5)).setCell ⟨w.heap.size, 3, none⟩ (.slice A7 n2 c7))) (w.heap.size + 1) (.slice A5 n c5) (.int .i64 t) (.string au) (.slice A7 n2 c7) (.bool em)).cell? ⟨w.heap.size + 1, 1, none⟩ = some (.int .i64 t) := G9.cell 1);
        (have b2 : (put5 (((w7.setCell ⟨w.heap.size, 0, none⟩ (.slice A5 n c5)).setCell ⟨w.heap.size, 3, none⟩ (.slice A7 n2 c7))) (w.heap.size + 1) (.slice A5 n c5) (.int .i64 t) (.string au) (.slice A7 n2 c7) (.bool em)).cell? ⟨w.heap.size + 1, 2, none⟩ = some (.string au) := G9.cell 2);
        (have b3 : (put5 (((w7.setCell ⟨w.heap.size, 0, none⟩ (.slice A5 n c5)).setCell ⟨w.heap.size, 3, none⟩ (.slice A7 n2 c7))) (w.heap.size + 1) (.slice A5 n c5) (.int .i64 t) (.string au) (.slice A7 n2 c7) (.bool em)).cell? ⟨w.heap.size + 1, 3, none⟩ = some (.slice A7 n2 c7) := G9.cell 3);
        (have b4 : (put5 (((w7.setCell ⟨w.heap.size, 0, none⟩ (.slice A5 n c5)).setCell ⟨w.heap.size, 3, none⟩ (.slice A7 n2 c7))) (w.heap.size + 1) (.slice A5 n c5) (.int .i64 t) (.string au) (.slice A7 n2 c7) (.bool em)).cell? ⟨w.heap.size + 1, 4, none⟩ = some (.bool em) := G9.cell 4)))
  unfold put5 at b0 b1 b2 b3 b4
  refine bodyPost_ret (v := .agg #[.slice A5 n c5, .int .i64 t, .string au, .slice A7 n2 c7, .bool em]) (by simp [results, Try.results40, go_sem, b0, b1, b2, b3, b4]) rfl ?_
  have hs1 := HS1.out
  have hb7 : Below w.heap.size w w7 := HB5.out.grown hg7 HB5.out.size (fun j e => by simp at e)
  have hs5 : w1.heap.size ≤ w5.heap.size := hg5.size
  have hlt5 := owns_lt ho5
  have far : ∀ g, w.heap.size + 2 ≤ g → (put5 (((w7.setCell ⟨w.heap.size, 0, none⟩ (.slice A5 n c5)).setCell ⟨w.heap.size, 3, none⟩ (.slice A7 n2 c7))) (w.heap.size + 1) (.slice A5 n c5) (.int .i64 t) (.string au) (.slice A7 n2 c7) (.bool em)).heap[g]? = w7.heap[g]? := fun g hg => by
    refine (put5_heap _ _ _ _ _ _ _ g (by omega)).trans ?_
    exact (Below.heap_setCell _ _ _ g (by simp; omega)).trans (Below.heap_setCell _ _ _ g (by simp; omega))
  refine ⟨.slice A5 n c5, .slice A7 n2 c7, rfl, owns_keep ho5 fun g e => ?_, owns_keep ho7 fun g e => ?_, fun g e e' => ?_, put5_below ((hb7.setCell (Nat.le_refl _) _).setCell (Nat.le_refl _) _) (by omega) _ _ _ _ _⟩
  · have := ha5 g e
    have hl := hlt5 g e
    exact (far g (by omega)).trans (hg7.block g (by omega) (by simp))
  · have := ha7 g e
    exact far g (by omega)
  · have := ha7 g e'
    have := hlt5 g e
    omega
end Go.Proofs.Ytiikbekboapphaa
