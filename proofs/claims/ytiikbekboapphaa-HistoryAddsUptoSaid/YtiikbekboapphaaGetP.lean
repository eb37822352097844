/- Get; Add over a nil history. -/
import Derived.Test.YtiikbekboapphaaAddP
namespace Go.Proofs.Ytiikbekboapphaa
set_option maxRecDepth 100000
open Go.RowKit
theorem add_nil {w : World} {B1 m1 d1 m2 d2 : Nat} {A1 A2 : Option Addr} {ps : List Int} {t : Int} {au : ByteArray} {em : Bool}
    (r1 : Row w B1 1 A1 m1 d1 (intC ps)) (hB1 : B1 ≤ w.heap.size) (hm1 : m1 ≤ 1099511627776) :
    Calls Try.prog 16 #[.pointer none, .agg #[.slice A1 m1 d1, .int .i64 t, .string au, .slice A2 m2 d2, .bool em]] w fun e w' => e = .returned (.tuple #[.int .i64 0, .int .i64 1]) ∧ Below w.heap.size w w' := by
  obtain ⟨w1, hw1⟩ : ∃ w1, w.alloc (.cells #[.slice A1 m1 d1, .int .i64 t, .string au, .slice A2 m2 d2, .bool em] 25) = w1 := ⟨_, rfl⟩
  have hb1 : Below w.heap.size w w1 := by rw [← hw1]; exact (Below.refl _ w).alloc (Nat.le_refl _) _
  have K1 : Full w1 w.heap.size 25 [.slice A1 m1 d1, .int .i64 t, .string au, .slice A2 m2 d2, .bool em] := by rw [← hw1]; exact Full.new w 25 [.slice A1 m1 d1, .int .i64 t, .string au, .slice A2 m2 d2, .bool em]
  have k0 : w1.cell? ⟨w.heap.size, 0, none⟩ = some (.slice A1 m1 d1) := K1.cell 0
  have hz : ∀ a : Int, inR 0 a = false := fun a => by unfold inR; simp; omega
  have CN := Lib.hid (can_any (N := 0) none (Row.below r1 hb1 hB1) (by unfold maxLen; omega) (fun a => by rw [hz a]; exact has_nil w1 a))
  unfold CanOut at CN
  have hr : canBe 0 ps = false := by
    unfold canBe
    split <;> simp [hz]
  rw [hr] at CN
  have HB1 := Lib.hid hb1
  clear r1 hr hb1 K1
  go_enter Try.func16, Try.ntmps16
  go_upto_region 1 with fail
  clear hw1
  go_wp2_with (go_at_call 37; ((with_reducible refine CN.out.mono ?_); rintro e w2 ⟨rfl, q, rfl⟩))
  refine bodyPost_ret (v := .tuple #[.int .i64 0, .int .i64 1]) (by simp [results, Try.results16, go_sem]) rfl ?_
  exact ⟨rfl, Below.drewN_ HB1.out q⟩
def zeroCm : Cm := ⟨[], 0, ⟨#[]⟩, [], false⟩
def getC (cs : List Cm) (id : Int) : Cm := if inR cs.length id then cs.getD (id.toNat - 1) zeroCm else zeroCm
/-- a commit in new memory, and a bool -/
def GetOut (w : World) (c : Cm) (ok : Bool) (e : Ending) (w' : World) : Prop :=
  ∃ A5 c5 A6 c6, e = .returned (.tuple #[.agg #[.slice A5 c.ps.length c5, .int .i64 c.tree, .string c.au, .slice A6 c.ch.length c6, .bool c.em], .bool ok]) ∧ w'.ownsRow w.heap.size 3 1 (.slice A5 c.ps.length c5) c.ps.length (intC c.ps) ∧ w'.ownsRow w.heap.size 3 1 (.slice A6 c.ch.length c6) c.ch.length (intC c.ch) ∧
    (∀ g, (Value.slice A5 c.ps.length c5).ownBlock = some g → (Value.slice A6 c.ch.length c6).ownBlock ≠ some g) ∧ Below w.heap.size w w'
theorem get_none {w w' : World} (h : Below w.heap.size w w') : GetOut w zeroCm false (.returned (.tuple #[.agg #[.slice none 0 0, .int .i64 0, .string ⟨#[]⟩, .slice none 0 0, .bool false], .bool false])) w' :=
  ⟨none, 0, none, 0, rfl, World.ownsRow_nil _ _ _ _, World.ownsRow_nil _ _ _ _, fun g e => by simp [Value.ownBlock] at e, h⟩
theorem get_nil (w : World) (a : Int) : Calls Try.prog 20 #[.pointer none, .int .i64 a] w (GetOut w zeroCm false) := by
  have HA := Lib.hid (fun W : World => has_nil W a)
  have hG := Full.new w 25 [.slice none 0 0, .int .i64 0, .string ⟨#[]⟩, .slice none 0 0, .bool false]
  have b0 : (w.alloc (.cells #[.slice none 0 0, .int .i64 0, .string ⟨#[]⟩, .slice none 0 0, .bool false] 25)).cell? ⟨w.heap.size, 0, none⟩ = some (.slice none 0 0) := hG.cell 0
  have b1 : (w.alloc (.cells #[.slice none 0 0, .int .i64 0, .string ⟨#[]⟩, .slice none 0 0, .bool false] 25)).cell? ⟨w.heap.size, 1, none⟩ = some (.int .i64 0) := hG.cell 1
  have b2 : (w.alloc (.cells #[.slice none 0 0, .int .i64 0, .string ⟨#[]⟩, .slice none 0 0, .bool false] 25)).cell? ⟨w.heap.size, 2, none⟩ = some (.string ⟨#[]⟩) := hG.cell 2
  have b3 : (w.alloc (.cells #[.slice none 0 0, .int .i64 0, .string ⟨#[]⟩, .slice none 0 0, .bool false] 25)).cell? ⟨w.heap.size, 3, none⟩ = some (.slice none 0 0) := hG.cell 3
  have b4 : (w.alloc (.cells #[.slice none 0 0, .int .i64 0, .string ⟨#[]⟩, .slice none 0 0, .bool false] 25)).cell? ⟨w.heap.size, 4, none⟩ = some (.bool false) := hG.cell 4
  have HBZ := Lib.hid (show Below w.heap.size w (w.alloc (.cells #[.slice none 0 0, .int .i64 0, .string ⟨#[]⟩, .slice none 0 0, .bool false] 25)) from (Below.refl _ w).alloc (Nat.le_refl _) _)
  clear hG
  go_enter Try.func20, Try.ntmps20
  go_wp2_with (go_at_call 41; ((with_reducible refine (HA.out _).mono ?_); rintro e w1 ⟨rfl, rfl⟩))
  refine bodyPost_ret (v := .tuple #[.agg #[.slice none 0 0, .int .i64 0, .string ⟨#[]⟩, .slice none 0 0, .bool false], .bool false]) (by simp [results, Try.results20, go_sem, b0, b1, b2, b3, b4]) rfl ?_
  exact get_none HBZ.out
set_option maxHeartbeats 8000000 in
theorem get_any {B : Nat} {w : World} {p : Nat} {cs : List Cm} {F : Nat → Prop} (hh : IsH B w p cs F) (hs : cs.length ≤ 1000) (hch : ∀ c ∈ cs, c.ch.length ≤ 1099511627776) (id : Int) :
    Calls Try.prog 20 #[.pointer (some ⟨p, 0, none⟩), .int .i64 id] w (GetOut w (getC cs id) (inR cs.length id)) := by
  have hG := Full.new w 25 [.slice none 0 0, .int .i64 0, .string ⟨#[]⟩, .slice none 0 0, .bool false]
  have hb1 : Below w.heap.size w (w.alloc (.cells #[.slice none 0 0, .int .i64 0, .string ⟨#[]⟩, .slice none 0 0, .bool false] 25)) := (Below.refl _ w).alloc (Nat.le_refl _) _
  have HA := Lib.hid (has_any (hh.on hb1) id)
  cases hr : inR cs.length id with
  | false =>
    rw [show getC cs id = zeroCm by unfold getC; rw [hr]; rfl]
    rw [hr] at HA
    have b0 : (w.alloc (.cells #[.slice none 0 0, .int .i64 0, .string ⟨#[]⟩, .slice none 0 0, .bool false] 25)).cell? ⟨w.heap.size, 0, none⟩ = some (.slice none 0 0) := hG.cell 0
    have b1 : (w.alloc (.cells #[.slice none 0 0, .int .i64 0, .string ⟨#[]⟩, .slice none 0 0, .bool false] 25)).cell? ⟨w.heap.size, 1, none⟩ = some (.int .i64 0) := hG.cell 1
    have b2 : (w.alloc (.cells #[.slice none 0 0, .int .i64 0, .string ⟨#[]⟩, .slice none 0 0, .bool false] 25)).cell? ⟨w.heap.size, 2, none⟩ = some (.string ⟨#[]⟩) := hG.cell 2
    have b3 : (w.alloc (.cells #[.slice none 0 0, .int .i64 0, .string ⟨#[]⟩, .slice none 0 0, .bool false] 25)).cell? ⟨w.heap.size, 3, none⟩ = some (.slice none 0 0) := hG.cell 3
    have b4 : (w.alloc (.cells #[.slice none 0 0, .int .i64 0, .string ⟨#[]⟩, .slice none 0 0, .bool false] 25)).cell? ⟨w.heap.size, 4, none⟩ = some (.bool false) := hG.cell 4
    have HBZ := Lib.hid hb1
    clear hG hb1 hh hr
    go_enter Try.func20, Try.ntmps20
    go_wp2_with (go_at_call 41; ((with_reducible refine HA.out.mono ?_); rintro e w1 ⟨rfl, rfl⟩))
    refine bodyPost_ret (v := .tuple #[.agg #[.slice none 0 0, .int .i64 0, .string ⟨#[]⟩, .slice none 0 0, .bool false], .bool false]) (by simp [results, Try.results20, go_sem, b0, b1, b2, b3, b4]) rfl ?_
    exact get_none HBZ.out
  | true =>
    have hr' := inR_iff.1 hr
    obtain ⟨x, rfl⟩ : ∃ x : Nat, id = x := ⟨id.toNat, by omega⟩
    have hk : x - 1 < cs.length := by omega
    obtain ⟨c, hcm⟩ : ∃ c, cs[x - 1] = c := ⟨_, rfl⟩
    have hcs : cs[x - 1]? = some c := by rw [List.getElem?_eq_getElem hk, hcm]
    have hget : getC cs (x : Int) = c := by
      unfold getC
      rw [if_pos hr, Int.toNat_natCast, List.getD_eq_getElem?_getD, hcs]; rfl
    have hc1 : c.ch.length ≤ 1099511627776 := hch c (List.mem_of_getElem? hcs)
    have hc2 : c.ps.length ≤ 2 := by
      rcases Nat.eq_zero_or_pos (x - 1) with e | e
      · rw [e] at hcs; rw [hh.good.root c hcs]; simp
      · exact (canBe_len (hh.good.rest _ c hcs e)).2
    rw [hget]
    rw [hr] at HA
    obtain ⟨v, In, h⟩ := hh
    obtain ⟨vs, hvl, hown, hints⟩ := h.obs
    obtain ⟨g, c0, rfl, hgl, hle, _⟩ := own_some hown (by omega)
    obtain ⟨u, hu⟩ : ∃ u, vs[x - 1]'(by omega) = u := ⟨_, rfl⟩
    have hus : vs[x - 1]? = some u := by rw [List.getElem?_eq_getElem (by omega), hu]
    obtain ⟨⟨A1, d1, hA1, hr1⟩, ⟨A2, d2, hA2, hr2⟩⟩ := hints _ _ _ hcs hus
    obtain ⟨u1, u2⟩ := u
    dsimp only at hA1 hA2
    subst hA1 hA2
    obtain ⟨w1, hw1⟩ : ∃ w1, (w.alloc (.cells #[.slice none 0 0, .int .i64 0, .string ⟨#[]⟩, .slice none 0 0, .bool false] 25)) = w1 := ⟨_, rfl⟩
    have hR1 := hr1.row (B := w.heap.size) (fun y hy => (h.in_ y (h.inn y hy).1).2)
    have hR2 := hr2.row (B := w.heap.size) (fun y hy => (h.in_ y (h.inn y hy).1).2)
    rw [hw1] at hb1 hG HA
    have hFz : Full w1 w.heap.size 25 [.slice none 0 0, .int .i64 0, .string ⟨#[]⟩, .slice none 0 0, .bool false] := by rw [← hw1]; exact Full.new w 25 _
    have ho1 := own_keep hown hb1
    have q0 : w1.cell? ⟨p, 0, none⟩ = some (.slice (some ⟨g, 0, none⟩) cs.length c0) := (h.full.on hb1).cell 0
    have CP := Lib.hid (copy_any (w := w1) (t := c.tree) (au := c.au) (em := c.em) (Row.below hR1 hb1 (Nat.le_refl _)) (Row.below hR2 hb1 (Nat.le_refl _)) hb1.size (by omega) hc1)
    unfold CopyOut at CP
    have kk : ∀ j, j < 5 → w1.cell? ⟨g, (x - 1) * 5 + j, none⟩ = (cmC c (.slice A1 c.ps.length d1) (.slice A2 c.ch.length d2))[j]? := fun j hj => by
      rw [(own_cell ho1 (by omega)).1, cmsC_at hvl hk hj, hcm, hu]
    have k0 : w1.cell? ⟨g, (x - 1) * 5, none⟩ = some (.slice A1 c.ps.length d1) := kk 0 (by omega)
    have k1 : w1.cell? ⟨g, (x - 1) * 5 + 1, none⟩ = some (.int .i64 c.tree) := kk 1 (by omega)
    have k2 : w1.cell? ⟨g, (x - 1) * 5 + 2, none⟩ = some (.string c.au) := kk 2 (by omega)
    have k3 : w1.cell? ⟨g, (x - 1) * 5 + 3, none⟩ = some (.slice A2 c.ch.length d2) := kk 3 (by omega)
    have k4 : w1.cell? ⟨g, (x - 1) * 5 + 4, none⟩ = some (.bool c.em) := kk 4 (by omega)
    obtain ⟨n, hn⟩ : ∃ n, cs.length = n := ⟨_, rfl⟩
    rw [hn] at q0 hr' hs
    obtain ⟨ps, t, au, ch, em⟩ := c
    dsimp only at *
    unfold GetOut
    dsimp only
    obtain ⟨n5, hn5⟩ : ∃ n5, ps.length = n5 := ⟨_, rfl⟩
    obtain ⟨n6, hn6⟩ : ∃ n6, ch.length = n6 := ⟨_, rfl⟩
    rw [hn5, hn6] at CP
    rw [hn5] at k0
    rw [hn6] at k3
    rw [hn5, hn6]
    have HFZ := Lib.hid hFz
    have HB1 := Lib.hid hb1
    have i0 : (0 : Int) ≤ (x : Int) - 1 := by omega
    have i1 : (x : Int) - 1 < (n : Int) := by omega
    clear hG hb1 hr hcs hget hc1 hc2 h hown hints hvl hr1 hr2 hR1 hR2 ho1 kk hFz hch hn5 hn6 hus hu hcm hn
    go_enter Try.func20, Try.ntmps20
    go_upto_region 1 with fail
    clear hw1
    go_wp2_with (first
      | (go_at_call 41; ((with_reducible refine HA.out.mono ?_); rintro e w2 ⟨rfl, rfl⟩))
      | (go_at_call 38; ((with_reducible refine CP.out.mono ?_); rintro e wx ⟨a5, a6, rfl, ho5, ho6, hap, hbx⟩; (obtain ⟨A5, c5, rfl⟩ := own_form ho5); (obtain ⟨A6, c6, rfl⟩ := own_form ho6); (have G8 := (HFZ.out.on hbx).five (.slice A5 n5 c5) (.int .i64 t) (.string au) (.slice A6 n6 c6) (.bool em)); (obtain ⟨⟨r0, f0⟩, ⟨r1, f1⟩, ⟨r2, f2⟩, ⟨r3, f3⟩, ⟨r4, f4⟩, G9⟩ := G8); (have b0 : (put5 wx w.heap.size (.slice A5 n5 c5) (.int .i64 t) (.string au) (.slice A6 n6 c6) (.bool em)).cell? ⟨w.heap.size, 0, none⟩ = some (.slice A5 n5 c5) := G9.cell 0); (have b1 : (put5 wx w.heap.size (.slice A5 n5 c5) (.int .i64 t) (.string au) (.slice A6 n6 c6) (.bool em)).cell? ⟨w.heap.size, 1, none⟩ = some (.int .i64 t) := G9.cell 1); (have b2 : (put5 wx w.heap.size (.slice A5 n5 c5) (.int .i64 t) (.string au) (.slice A6 n6 c6) (.bool em)).cell? ⟨w.heap.size, 2, none⟩ = some (.string au) := G9.cell 2); (have b3 : (put5 wx w.heap.size (.slice A5 n5 c5) (.int .i64 t) (.string au) (.slice A6 n6 c6) (.bool em)).cell? ⟨w.heap.size, 3, none⟩ = some (.slice A6 n6 c6) := G9.cell 3); (have b4 : (put5 wx w.heap.size (.slice A5 n5 c5) (.int .i64 t) (.string au) (.slice A6 n6 c6) (.bool em)).cell? ⟨w.heap.size, 4, none⟩ = some (.bool em) := G9.cell 4)))
      | (fail "arm"))
    unfold put5 at b0 b1 b2 b3 b4
    refine bodyPost_ret (v := .tuple #[.agg #[.slice A5 n5 c5, .int .i64 t, .string au, .slice A6 n6 c6, .bool em], .bool true]) (by simp [results, Try.results20, go_sem, b0, b1, b2, b3, b4]) rfl ?_
    have far : ∀ y, w1.heap.size ≤ y → y ≠ w.heap.size := fun y hy => by have := HFZ.out.lt; omega
    refine ⟨A5, c5, A6, c6, rfl, owns_keep (owns_base ho5 fun y e => Nat.le_trans HB1.out.size (row_ge ho5 y e)) fun y e => put5_heap _ _ _ _ _ _ _ y (far y (row_ge ho5 y e)), owns_keep (owns_base ho6 fun y e => Nat.le_trans HB1.out.size (row_ge ho6 y e)) fun y e => put5_heap _ _ _ _ _ _ _ y (far y (row_ge ho6 y e)), hap, put5_below (Below.then_ HB1.out hbx) (Nat.le_refl _) _ _ _ _ _⟩
end Go.Proofs.Ytiikbekboapphaa
