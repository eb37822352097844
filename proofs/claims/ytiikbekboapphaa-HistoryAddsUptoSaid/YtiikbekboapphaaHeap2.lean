/- (*greatestFirst): Swap. -/
import Derived.Test.YtiikbekboapphaaHeap
namespace Go.Proofs.Ytiikbekboapphaa
set_option maxRecDepth 100000
open Go.RowKit
def SwapOut (w : World) (g : Nat) (v : Value) (l : List Nat) (i j : Nat) (e : Ending) (w' : World) : Prop :=
  e = .returned (.tuple #[]) ∧ Hp w' g v (swapL l i j) ∧ Turn (HF g v) w w'
theorem swap_fit {w w1 : World} {g b c i j n : Nat} {l : List Nat} (h : Hp w g (.slice (some ⟨b, 0, none⟩) n c) l) (hn : l.length = n) (q : Nat)
    (e : w1 = ((w.setCell ⟨b, i, none⟩ (.int .i64 ((l.getD j 0 : Nat) : Int))).setCell ⟨b, j, none⟩ (.int .i64 ((l.getD i 0 : Nat) : Int))).drewN q) :
    Hp w1 g (.slice (some ⟨b, 0, none⟩) n c) (swapL l i j) ∧ Turn (HF g (.slice (some ⟨b, 0, none⟩) n c)) w w1 := by
  subst hn e
  have hne : g ≠ b := fun e => h.ne (by simp [Value.ownBlock, e])
  refine ⟨⟨((h.full.far (p := ⟨b, i, none⟩) hne _).far (p := ⟨b, j, none⟩) hne _).drewN q, ?_⟩, ?_⟩
  · have := own_set (own_set h.row i (.int .i64 ((l.getD j 0 : Nat) : Int))) j (.int .i64 ((l.getD i 0 : Nat) : Int))
    unfold swapL
    rw [natC_set, natC_set, List.length_set, List.length_set]
    exact this
  · exact ((Turn.set_ (F := HF g (.slice (some ⟨b, 0, none⟩) l.length c)) (a := ⟨b, i, none⟩) (.inr rfl) _).trans_ (Turn.set_ (a := ⟨b, j, none⟩) (.inr rfl) _)).drewN_ q
set_option maxHeartbeats 4000000 in
theorem swap_any {w : World} {g : Nat} {v : Value} {l : List Nat} (h : Hp w g v l) (i j : Nat) (hi : i < l.length) (hj : j < l.length) :
    Calls Try.prog 73 #[v, .int .i64 (i : Int), .int .i64 (j : Int)] w (SwapOut w g v l i j) := by
  obtain ⟨b, c, rfl, hbl, hle, _⟩ := own_some h.row (by omega)
  obtain ⟨n, hn⟩ : ∃ n, l.length = n := ⟨_, rfl⟩
  have HFIT := Lib.hid (fun (w1 : World) (q : Nat) e => swap_fit (w1 := w1) (i := i) (j := j) (hn ▸ h) hn q e)
  have ci : w.cell? ⟨b, i, none⟩ = some (.int .i64 ((l.getD i 0 : Nat) : Int)) := (own_cell h.row (by omega)).1.trans (natC_at l i hi)
  have cj : w.cell? ⟨b, j, none⟩ = some (.int .i64 ((l.getD j 0 : Nat) : Int)) := (own_cell h.row (by omega)).1.trans (natC_at l j hj)
  have fi : w.frozen? ⟨b, i, none⟩ = false := (own_cell h.row (by omega)).2
  have fj : w.frozen? ⟨b, j, none⟩ = false := (own_cell h.row (by omega)).2
  have hs2 := own_cell (q := j) (own_set h.row i (.int .i64 ((l.getD j 0 : Nat) : Int))) (by omega)
  obtain ⟨u, hu⟩ : ∃ u, ((natC l).set i (Value.int .i64 ((l.getD j 0 : Nat) : Int)))[j]? = some u := ⟨_, List.getElem?_eq_getElem (by simp [natC_len]; omega)⟩
  have cj2 := hs2.1.trans hu
  have fj2 := hs2.2
  unfold SwapOut
  rw [hn] at hi hj ⊢
  obtain ⟨x, hx⟩ : ∃ x, l.getD i 0 = x := ⟨_, rfl⟩
  obtain ⟨y, hy⟩ : ∃ y, l.getD j 0 = y := ⟨_, rfl⟩
  rw [hx, hy] at HFIT
  rw [hx] at ci
  rw [hy] at cj cj2 fj2
  have i0 : (0 : Int) ≤ (i : Int) := Int.natCast_nonneg _
  have i1 : (i : Int) < (n : Int) := by omega
  have j0 : (0 : Int) ≤ (j : Int) := Int.natCast_nonneg _
  have j1 : (j : Int) < (n : Int) := by omega
  obtain ⟨R, hR⟩ : ∃ R : World → Prop, R = fun w' => Hp w' g (.slice (some ⟨b, 0, none⟩) n c) (swapL l i j) ∧ Turn (HF g (.slice (some ⟨b, 0, none⟩) n c)) w w' := ⟨_, rfl⟩
  have hH : ∀ (w1 : World) (q : Nat), w1 = ((w.setCell ⟨b, i, none⟩ (.int .i64 (y : Int))).setCell ⟨b, j, none⟩ (.int .i64 (x : Int))).drewN q → R w1 := fun w1 q e => by rw [hR]; exact HFIT.out w1 q e
  have HH := Lib.hid hH
  have e : (fun (e : Ending) (w' : World) => e = .returned (.tuple #[]) ∧ Hp w' g (.slice (some ⟨b, 0, none⟩) n c) (swapL l i j) ∧ Turn (HF g (.slice (some ⟨b, 0, none⟩) n c)) w w') = fun e w' => e = .returned (.tuple #[]) ∧ R w' := by rw [hR]
  rw [e]
  clear e hR hH HFIT hx hy hn h hs2 hu
  go_enter Try.func73, Try.ntmps73
  go_wp2
  go_region
  all_goals
    try go_wp2
    trace_state
    go_end0
    exact ⟨rfl, HH.out _ _ rfl⟩
end Go.Proofs.Ytiikbekboapphaa
