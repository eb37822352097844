/- A history while other blocks are left alone; child; number. -/
import Derived.Test.YtiikbekboapphaaGetP
import Derived.Test.YtiikbekboapphaaBaseP
import Derived.Test.YtiikbekboapphaaLineP
import Derived.Test.YtiikbekboapphaaSame
namespace Go.Proofs.Ytiikbekboapphaa
set_option maxRecDepth 100000
open Go.RowKit
/-- a commit with these parents alone -/
def chC (l : List Int) : Cm := ⟨l, 0, ⟨#[]⟩, [], false⟩
/-- w: the call's begin; W0: where the blocks of K were laid; W: now -/
structure HK (w W0 W : World) (p : Nat) (cs : List Cm) (K : Nat → Prop) : Prop where
  below : Below w.heap.size w W
  his : ∃ F, IsH w.heap.size W p cs F ∧ ∀ g, K g → ¬ F g
  kept : ∀ g, K g → g < W0.heap.size ∧ W.heap[g]? = W0.heap[g]?
  size : W0.heap.size ≤ W.heap.size
theorem HK.start {w W : World} {p : Nat} {cs : List Cm} {F : Nat → Prop} (hb : Below w.heap.size w W) (h : IsH w.heap.size W p cs F) : HK w W W p cs (fun _ => False) := ⟨hb, ⟨F, h, fun _ h => h.elim⟩, fun _ h => h.elim, Nat.le_refl _⟩
theorem HK.on {w W0 W W' : World} {p : Nat} {cs : List Cm} {K : Nat → Prop} (h : HK w W0 W p cs K) (hb : Below W.heap.size W W') : HK w W0 W' p cs K := by
  obtain ⟨F, h1, h2⟩ := h.his
  exact ⟨Below.then_ h.below hb, ⟨F, h1.on hb, h2⟩, fun g hg => ⟨(h.kept g hg).1, (hb.block g (Nat.lt_of_lt_of_le (h.kept g hg).1 h.size)).trans (h.kept g hg).2⟩, Nat.le_trans h.size hb.size⟩
/-- what was laid since W1 is left alone from now on -/
theorem HK.mark {w W0 W1 W : World} {p : Nat} {cs : List Cm} {K : Nat → Prop} (h1 : HK w W0 W1 p cs K) (hb : Below W1.heap.size W1 W) : HK w W W p cs (fun g => W1.heap.size ≤ g ∧ g < W.heap.size) := by
  obtain ⟨F, k1, k2⟩ := h1.his
  exact ⟨Below.then_ h1.below hb, ⟨F, k1.on hb, fun g hg hf => by have := (k1.in_ g hf).2; omega⟩, fun g hg => ⟨hg.2, rfl⟩, Nat.le_refl _⟩
theorem HK.row {w W0 W : World} {p : Nat} {cs : List Cm} {K : Nat → Prop} (h : HK w W0 W p cs K) {size n c : Nat} {A : Option Addr} {xs : List Value} (hr : RowF W0 K size A n c xs) : Row W W.heap.size size A n c xs :=
  (hr.keep (w' := W) (G := K) fun g hg => ⟨hg, (h.kept g hg).2⟩).row fun g hg => Nat.lt_of_lt_of_le (h.kept g hg).1 h.size
theorem HK.full {w W0 W : World} {p : Nat} {cs : List Cm} {K : Nat → Prop} (h : HK w W0 W p cs K) {g : Nat} {t : TypeId} {xs : List Value} (hf : Full W0 g t xs) (hg : K g) : Full W g t xs := (h.kept g hg).2.trans hf
def HAddOut (w W0 : World) (p : Nat) (cs : List Cm) (K : Nat → Prop) (c : Cm) (e : Ending) (W' : World) : Prop :=
  (canBe cs.length c.ps = true ∧ e = .returned (.tuple #[.int .i64 ((cs.length : Int) + 1), .int .i64 0]) ∧ HK w W0 W' p (cs ++ [c]) K) ∨
  (canBe cs.length c.ps = false ∧ e = .returned (.tuple #[.int .i64 0, .int .i64 1]) ∧ HK w W0 W' p cs K)
theorem HK.add {w W0 W : World} {p : Nat} {cs : List Cm} {K : Nat → Prop} (h : HK w W0 W p cs K) (hs : cs.length ≤ 1000) {m1 d1 m2 d2 : Nat} {A1 A2 : Option Addr} {ps ch : List Int} {t : Int} {au : ByteArray} {em : Bool}
    (r1 : Row W W.heap.size 1 A1 m1 d1 (intC ps)) (r2 : Row W W.heap.size 1 A2 m2 d2 (intC ch)) (hm1 : m1 ≤ 1099511627776) (hm2 : m2 ≤ 1099511627776) :
    Calls Try.prog 16 #[.pointer (some ⟨p, 0, none⟩), .agg #[.slice A1 m1 d1, .int .i64 t, .string au, .slice A2 m2 d2, .bool em]] W (HAddOut w W0 p cs K ⟨ps, t, au, ch, em⟩) := by
  obtain ⟨F, h1, h2⟩ := h.his
  refine (add_any h1 hs r1 r2 (Nat.le_refl _) hm1 hm2).mono ?_
  rintro e W' (⟨k1, rfl, F', k2, k3⟩ | ⟨k1, rfl, k2⟩)
  · refine .inl ⟨k1, rfl, h.below.trans (k3.below (fun g hg => (h1.in_ g hg).1) h.below.size), ⟨F', k2, fun g hg hf => ?_⟩, fun g hg => ⟨(h.kept g hg).1, (k3.turn.block g (Nat.lt_of_lt_of_le (h.kept g hg).1 h.size) (h2 g hg)).trans (h.kept g hg).2⟩, Nat.le_trans h.size k3.turn.size⟩
    rcases k3.back g hf with e | e
    · exact h2 g hg e
    · have := (h.kept g hg).1; have := h.size; omega
  · exact .inr ⟨k1, rfl, h.on k2⟩
theorem child_any (A : Option Addr) (n c : Nat) (w : World) : Calls Try.prog 35 #[.slice A n c] w fun e w' => e = .returned (.agg #[.slice A n c, .int .i64 0, .string ⟨#[]⟩, .slice none 0 0, .bool false]) ∧ Below w.heap.size w w' := by
  have hG := Full.new w 25 [.slice A n c, .int .i64 0, .string ⟨#[]⟩, .slice none 0 0, .bool false]
  have b0 : (w.alloc (.cells #[.slice A n c, .int .i64 0, .string ⟨#[]⟩, .slice none 0 0, .bool false] 25)).cell? ⟨w.heap.size, 0, none⟩ = some (.slice A n c) := hG.cell 0
  have b1 : (w.alloc (.cells #[.slice A n c, .int .i64 0, .string ⟨#[]⟩, .slice none 0 0, .bool false] 25)).cell? ⟨w.heap.size, 1, none⟩ = some (.int .i64 0) := hG.cell 1
  have b2 : (w.alloc (.cells #[.slice A n c, .int .i64 0, .string ⟨#[]⟩, .slice none 0 0, .bool false] 25)).cell? ⟨w.heap.size, 2, none⟩ = some (.string ⟨#[]⟩) := hG.cell 2
  have b3 : (w.alloc (.cells #[.slice A n c, .int .i64 0, .string ⟨#[]⟩, .slice none 0 0, .bool false] 25)).cell? ⟨w.heap.size, 3, none⟩ = some (.slice none 0 0) := hG.cell 3
  have b4 : (w.alloc (.cells #[.slice A n c, .int .i64 0, .string ⟨#[]⟩, .slice none 0 0, .bool false] 25)).cell? ⟨w.heap.size, 4, none⟩ = some (.bool false) := hG.cell 4
  have hb : Below w.heap.size w (w.alloc (.cells #[.slice A n c, .int .i64 0, .string ⟨#[]⟩, .slice none 0 0, .bool false] 25)) := (Below.refl _ w).alloc (Nat.le_refl _) _
  have HB := Lib.hid hb
  clear hG hb
  go_enter Try.func35, Try.ntmps35
  go_wp2
  refine bodyPost_ret (v := .agg #[.slice A n c, .int .i64 0, .string ⟨#[]⟩, .slice none 0 0, .bool false]) (by simp [results, Try.results35, go_sem, b0, b1, b2, b3, b4]) rfl ?_
  exact ⟨rfl, HB.out⟩
/-- the number that a law takes -/
def numP (many : Nat) (n : Int) : Int := if n < 0 then n else n % ((many : Int) + 2)
theorem number_any (w : World) (many : Nat) (hm : many ≤ 1000) (n : Int) (hn : (Lit.int .i64 n).wf = true) : Calls Try.prog 18 #[.int .i64 (many : Int), .int .i64 n] w fun e w' => e = .returned (.int .i64 (numP many n)) ∧ w = w' := by
  have hbd := bd_i64 hn
  unfold numP
  by_cases h : n < 0
  · rw [if_pos h]
    go_enter Try.func18, Try.ntmps18
    go_wp2
    go_ret
    exact ⟨rfl, rfl⟩
  · rw [if_neg h]
    have h' : 0 ≤ n := by omega
    have h1 : n % ((many : Int) + 2) < (many : Int) + 2 := Int.emod_lt_of_pos _ (by omega)
    have h2 : 0 ≤ n % ((many : Int) + 2) := Int.emod_nonneg _ (by omega)
    have h3 : ¬ ((many : Int) + 2 = 0) := by omega
    go_enter Try.func18, Try.ntmps18
    go_wp2
    go_ret
    exact ⟨rfl, rfl⟩
end Go.Proofs.Ytiikbekboapphaa
