/- (*greatestFirst): Pop. -/
import Derived.Test.YtiikbekboapphaaHeap2
namespace Go.Proofs.Ytiikbekboapphaa
set_option maxRecDepth 100000
open Go.RowKit
def PopOut (w : World) (g : Nat) (v : Value) (l : List Nat) (x : Nat) (e : Ending) (w' : World) : Prop :=
  e = .returned (.iface 3 (.int .i64 (x : Int))) ∧ ∃ v', Hp w' g v' l ∧ Goes (HF g v) w w' (HF g v')
set_option maxHeartbeats 4000000 in
theorem popE_any {w : World} {g : Nat} {v : Value} {l : List Nat} (h : Hp w g v l) (n : Nat) (hl : l.length = n) (hn : 0 < n) :
    Calls Try.prog 71 #[.pointer (some ⟨g, 0, none⟩)] w (PopOut w g v (l.take (n - 1)) (l.getD (n - 1) 0)) := by
  obtain ⟨b, c, rfl, hbl, hle, hcm⟩ := own_some h.row (by omega)
  unfold PopOut
  rw [hl] at hle ⊢
  have hne : g ≠ b := fun e => h.ne (by simp [Value.ownBlock, e])
  have hF := h.full
  rw [hl] at hF
  have c0 : w.cell? ⟨g, 0, none⟩ = some (.slice (some ⟨b, 0, none⟩) n c) := hF.cell 0
  have f0 : w.frozen? ⟨g, 0, none⟩ = false := hF.frozen 0
  have ci : w.cell? ⟨b, n - 1, none⟩ = some (.int .i64 ((l.getD (n - 1) 0 : Nat) : Int)) := (own_cell h.row (by omega)).1.trans (natC_at l (n - 1) (by omega))
  obtain ⟨x, hx⟩ : ∃ x, l.getD (n - 1) 0 = x := ⟨_, rfl⟩
  rw [hx] at ci ⊢
  unfold maxLen at hcm
  have HFIN := Lib.hid (show ∃ v', Hp (w.setCell ⟨g, 0, none⟩ (.slice (some ⟨b, 0, none⟩) (n - 1) c)) g v' (l.take (n - 1)) ∧ Goes (HF g (.slice (some ⟨b, 0, none⟩) n c)) w (w.setCell ⟨g, 0, none⟩ (.slice (some ⟨b, 0, none⟩) (n - 1) c)) (HF g v') from by
    have hc := own_cut (m := n - 1) h.row (by omega)
    refine ⟨.slice (some ⟨b, 0, none⟩) (n - 1) c, ⟨hF.set_ 0 _, ?_⟩, Turn.set_ (a := ⟨g, 0, none⟩) (.inl rfl) _, ?_⟩
    · rw [List.length_take, Nat.min_eq_left (by omega), natC_take]
      rw [Nat.mul_one] at hc
      exact owns_keep hc fun k e => Below.heap_setCell _ _ _ k (by
        obtain rfl : b = k := by simpa [Value.ownBlock] using e
        exact fun e => hne e.symm)
    · rintro k (rfl | e)
      · exact .inl (.inl rfl)
      · exact .inl (.inr e))
  have i0 : (0 : Int) ≤ (n : Int) - 1 := by omega
  have i1 : (n : Int) - 1 < (n : Int) := by omega
  have he : Try.prog.elem 74 = 3 := by simp [Program.elem, Try.underlying74]
  have hzs : ∀ W, (Instr.slice 74 (.slice (some ⟨b, 0, none⟩) n c) none (some (.int .i64 ((n : Int) - 1))) none).run Try.prog W = .ok (.slice (some ⟨b, 0, none⟩) (n - 1) c) W := fun W => by
    rw [show ((n : Int) - 1) = ((n - 1 : Nat) : Int) by omega, run_slice_h W 74 _ n c (by rw [he]; exact Try.underlying74) _ _ (by omega) (by omega), he, show (Go.sizeOf 3).run Try.prog W = .ok 1 W from by kernel_rfl]
    have : c ≠ 0 := by omega
    simp [Addr.add, Result.andThen, sliced]
  clear hF hne hx h hl he
  go_enter Try.func71, Try.ntmps71
  go_wp2
  go_ret
  exact ⟨rfl, HFIN.out⟩
end Go.Proofs.Ytiikbekboapphaa
