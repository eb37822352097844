/- (*greatestFirst): Len, Less, Swap, Push, Pop: a list of numbers in a block of its own. -/
import Derived.Deep.DeepCutAuto
import Derived.Deep.RegionLaw
import Derived.Test.YtiikbekboapphaaHist
namespace Go.Proofs.Ytiikbekboapphaa
set_option maxRecDepth 100000
open Go.RowKit

/-- the blocks of such a list -/
def HF (g : Nat) (v : Value) (k : Nat) : Prop := k = g ∨ v.ownBlock = some k
structure Hp (w : World) (g : Nat) (v : Value) (l : List Nat) : Prop where
  full : Full w g 76 [v]
  row : w.ownsRow 0 3 1 v l.length (natC l)
section
variable {w w' : World} {g : Nat} {v : Value} {l : List Nat}
theorem Hp.keep (h : Hp w g v l) (hk : ∀ k, HF g v k → w'.heap[k]? = w.heap[k]?) : Hp w' g v l := ⟨(hk g (.inl rfl)).trans h.full, owns_keep h.row fun k e => hk k (.inr e)⟩
theorem Hp.lt (h : Hp w g v l) : ∀ k, HF g v k → k < w.heap.size := by
  rintro k (rfl | e)
  · exact h.full.lt
  · exact owns_lt h.row k e
theorem Hp.on (h : Hp w g v l) (hb : Below w.heap.size w w') : Hp w' g v l := h.keep fun k hk => hb.block k (h.lt k hk)
theorem Hp.drewN (h : Hp w g v l) (q : Nat) : Hp (w.drewN q) g v l := ⟨h.full, h.row⟩
theorem Hp.drew (h : Hp w g v l) : Hp w.drew g v l := ⟨h.full, h.row⟩
theorem Hp.apart {G : Nat → Prop} (h : Hp w g v l) (ht : Turn G w w') (hG : ∀ k, HF g v k → ¬ G k) : Hp w' g v l := h.keep fun k hk => ht.block k (h.lt k hk) (hG k hk)
theorem Hp.ne (h : Hp w g v l) : v.ownBlock ≠ some g := fun e => h.full.not_row h.row (by decide) e.symm
theorem Hp.form (h : Hp w g v l) : ∃ A c, v = .slice A l.length c := own_form h.row
end

theorem len_any (A : Option Addr) (n c : Nat) (w : World) : Calls Try.prog 69 #[.slice A n c] w fun e w' => e = .returned (.int .i64 (n : Int)) ∧ w = w' := by
  go_enter Try.func69, Try.ntmps69
  go_wp2
  go_ret
  exact ⟨rfl, rfl⟩

theorem less_any {w : World} {g : Nat} {v : Value} {l : List Nat} (h : Hp w g v l) (i j : Nat) (hi : i < l.length) (hj : j < l.length) :
    Calls Try.prog 70 #[.pointer (some ⟨g, 0, none⟩), .int .i64 (i : Int), .int .i64 (j : Int)] w (QBool w (decide (l.getD j 0 < l.getD i 0))) := by
  obtain ⟨b, c, rfl, hbl, hle, _⟩ := own_some h.row (by omega)
  unfold QBool
  have c0 : w.cell? ⟨g, 0, none⟩ = some (.slice (some ⟨b, 0, none⟩) l.length c) := h.full.cell 0
  have ci : w.cell? ⟨b, i, none⟩ = some (.int .i64 ((l.getD i 0 : Nat) : Int)) := (own_cell h.row (by omega)).1.trans (natC_at l i hi)
  have cj : w.cell? ⟨b, j, none⟩ = some (.int .i64 ((l.getD j 0 : Nat) : Int)) := (own_cell h.row (by omega)).1.trans (natC_at l j hj)
  obtain ⟨n, hn⟩ : ∃ n, l.length = n := ⟨_, rfl⟩
  obtain ⟨x, hx⟩ : ∃ x, l.getD i 0 = x := ⟨_, rfl⟩
  obtain ⟨y, hy⟩ : ∃ y, l.getD j 0 = y := ⟨_, rfl⟩
  rw [hn] at hi hj c0
  rw [hx] at ci ⊢
  rw [hy] at cj ⊢
  have i0 : (0 : Int) ≤ (i : Int) := Int.natCast_nonneg _
  have i1 : (i : Int) < (n : Int) := by omega
  have j0 : (0 : Int) ≤ (j : Int) := Int.natCast_nonneg _
  have j1 : (j : Int) < (n : Int) := by omega
  clear hn hx hy h
  go_enter Try.func70, Try.ntmps70
  go_wp2
  go_region
  all_goals
    go_wp2
    go_ret
    refine ⟨ret_bool ?_, ⟨_, rfl⟩⟩
    simp
end Go.Proofs.Ytiikbekboapphaa
