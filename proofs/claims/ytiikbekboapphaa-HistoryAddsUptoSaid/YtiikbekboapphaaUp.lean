/- container/heap's up. -/
import Derived.Test.YtiikbekboapphaaIfaceT
import Derived.Test.YtiikbekboapphaaHistMath
namespace Go.Proofs.Ytiikbekboapphaa
set_option maxRecDepth 100000
open Go.RowKit
structure UpI (w wr : World) (g : Nat) (v : Value) (l l' : List Nat) (k : Nat) : Prop where
  perm : l'.Perm l
  up : UpN l' l'.length k
  hp : Hp wr g v l'
  turn : Turn (HF g v) w wr
def UpOut (w : World) (g : Nat) (v : Value) (l : List Nat) (e : Ending) (w' : World) : Prop :=
  e = .returned (.tuple #[]) ∧ ∃ l', l'.Perm l ∧ HeapN l' l'.length ∧ Hp w' g v l' ∧ Turn (HF g v) w w'
set_option maxHeartbeats 4000000 in
theorem up_any {w : World} {g : Nat} {v : Value} {l : List Nat} (h : Hp w g v l) (j : Nat) (hj : j < l.length) (hl : l.length ≤ 1048576) (hu : UpN l l.length j) :
    Calls Try.prog 52 #[.iface 73 (.pointer (some ⟨g, 0, none⟩)), .int .i64 (j : Int)] w (UpOut w g v l) := by
  unfold UpOut
  have H0 := Lib.hid (show UpI w w g v l l j from ⟨List.Perm.refl _, hu, h, Turn.refl _ _⟩)
  obtain ⟨n, hn⟩ : ∃ n, l.length = n := ⟨_, rfl⟩
  have HN := Lib.hid hn
  rw [hn] at hj hl
  have hmL := fun W => m_less g W
  clear h hu hn
  go_enter Try.func52, Try.ntmps52
  go_wp2_with fail
  go_loopw [1] (fun v1 wr => ∃ (k : Nat) (l' : List Nat), v1 = .int .i64 (k : Int) ∧ k < n ∧ Hid (UpI w wr g v l l' k)) (fun v1 _ => (intOf v1).toNat)
  case atStart => exact ⟨j, l, rfl, hj, H0⟩
  case round =>
    obtain ⟨k, l', rfl, hk, H⟩ := hrel
    have hln : l'.length = n := H.out.perm.length_eq.trans HN.out
    by_cases h0 : k = 0
    · subst h0
      go_wp2
      go_end0
      exact ⟨rfl, l', H.out.perm, H.out.up.done (.inl rfl), H.out.hp, H.out.turn⟩
    · obtain ⟨i, hi⟩ : ∃ i, (k - 1) / 2 = i := ⟨_, rfl⟩
      have ht : ((k : Int) - 1).tdiv 2 = (i : Int) := by rw [← hi, Int.tdiv_eq_ediv_of_nonneg (by omega)]; omega
      have hne : ((i : Int) == (k : Int)) = false := by simp; omega
      have hik : i < k := by omega
      have CL := Lib.hid (less_any H.out.hp k i (by omega) (by omega))
      have HI := Lib.hid hi
      obtain ⟨b, hb⟩ : ∃ b, decide (l'.getD i 0 < l'.getD k 0) = b := ⟨_, rfl⟩
      rw [hb] at CL
      unfold QBool at CL
      have HB := Lib.hid hb
      clear hb hi
      cases b with
      | false =>
        go_wp2_with (go_at_call 70; ((with_reducible refine CL.out.mono ?_); rintro e w1 ⟨rfl, q, rfl⟩))
        go_end0
        have hle := HB.out
        simp at hle
        exact ⟨rfl, l', H.out.perm, H.out.up.done (.inr (by rw [HI.out]; simpa using hle)), H.out.hp.drewN _, H.out.turn.drewN_ _⟩
      | true =>
        have hlt := of_decide_eq_true HB.out
        have SW := Lib.hid (fun (q : Nat) => swap_any (H.out.hp.drewN q) i k (by omega) (by omega))
        have hmS := fun (q : Nat) => (H.out.hp.drewN q).swap_
        have HST := Lib.hid (show UpN (swapL l' i k) (swapL l' i k).length i from by
          have := H.out.up.step (Nat.le_refl _) (by omega) (by omega) (by rw [HI.out]; exact hlt)
          rw [HI.out] at this
          rw [swapL_len]
          exact this)
        have HPM := Lib.hid ((swapL_perm l' i k (by omega) (by omega)).trans H.out.perm)
        obtain ⟨ls, hls⟩ : ∃ ls, swapL l' i k = ls := ⟨_, rfl⟩
        unfold SwapOut at SW
        rw [hls] at SW HST HPM
        have HT := Lib.hid H.out.turn
        clear hls hlt H HB
        go_wp2_with (first
          | (go_at_call 70; ((with_reducible refine CL.out.mono ?_); rintro e w1 ⟨rfl, q, rfl⟩; (have hm2 := hmS q)))
          | (go_at_call 73; ((with_reducible refine (SW.out q).mono ?_); rintro e w2 ⟨rfl, hp2, ht2⟩)))
        go_roundw
        case rel => exact ⟨i, ls, rfl, by omega, Lib.hid ⟨HPM.out, HST.out, hp2, HT.out.trans_ ht2.from_drew⟩⟩
        case measure => simp [intOf]; omega
end Go.Proofs.Ytiikbekboapphaa
