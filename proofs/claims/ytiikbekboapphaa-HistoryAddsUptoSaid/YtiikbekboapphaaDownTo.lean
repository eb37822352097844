/- downTo. -/
import Derived.Test.YtiikbekboapphaaNextP
namespace Go.Proofs.Ytiikbekboapphaa
set_option maxRecDepth 100000
open Go.RowKit
def DownToOut (w : World) (k p : Nat) (cs : List Cm) (head T : Nat) (S : Nat → Prop) (e : Ending) (w' : World) : Prop :=
  e = .returned (.int .i64 (T : Int)) ∧ ∃ S', Goes S w w' S' ∧ (0 < T → IsWk w' k (fnV 43 p) (leads cs) head T S')
set_option maxHeartbeats 8000000 in
theorem downTo_any {w : World} {B0 k p head B : Nat} {cs : List Cm} {F S : Nat → Prop} (hw : IsWk w k (fnV 43 p) (leads cs) head B S) (hist : IsH B0 w p cs F) (hd : ∀ x, F x → ¬ S x) (hs : cs.length ≤ 1000) (hh : head ≤ cs.length) (bound : Nat) :
    Calls Try.prog 44 #[.pointer (some ⟨k, 0, none⟩), .int .i64 (bound : Int)] w (DownToOut w k p cs head (top (rch (leads cs) head) (min (B - 1) bound)) S) := by
  unfold DownToOut
  have N0 := Lib.hid (next_any hw hist hd hs hh)
  have N1 := Lib.hid (fun (W : World) (B' : Nat) (S' : Nat → Prop) (hg : Goes S w W S') (h : IsWk W k (fnV 43 p) (leads cs) head B' S') => next_any h (hist.apart hg.turn hd) (fun x hx hs' => (hg.back x hs').elim (hd x hx) (fun h => by have := (hist.in_ x hx).2; omega)) hs hh)
  unfold nextOut at N0 N1
  obtain ⟨R, hR⟩ : ∃ R, rch (leads cs) head = R := ⟨_, rfl⟩
  obtain ⟨T, hT⟩ : ∃ T, top R (min (B - 1) bound) = T := ⟨_, rfl⟩
  have HT := Lib.hid hT
  obtain ⟨c0, hc0⟩ : ∃ c0, top R (B - 1) = c0 := ⟨_, rfl⟩
  have HI0 := Lib.hid (show (c0 ≤ bound → T = c0) ∧ (bound < c0 → T = top R bound) from by
    have h1 := top_le R (B - 1)
    rw [hc0] at h1
    refine ⟨fun h => ?_, fun h => ?_⟩
    · rw [← hT]
      by_cases hb : B - 1 ≤ bound
      · rw [Nat.min_eq_left hb, hc0]
      · rw [Nat.min_eq_right (by omega), top_skip (n := B - 1) (by omega) (by omega), hc0]
    · rw [← hT, Nat.min_eq_right (by omega)])
  rw [hR] at N0 N1 ⊢
  rw [hc0] at N0
  rw [hT]
  obtain ⟨L, hL⟩ : ∃ L, leads cs = L := ⟨_, rfl⟩
  rw [hL] at N0 N1 ⊢
  clear hw hist hT hc0 hR hL hd
  go_enter Try.func44, Try.ntmps44
  go_wp2_with (go_at_call 45; ((with_reducible refine N0.out.mono ?_); rintro e w1 ⟨rfl, S1, hg1, hw1⟩))
  have HG1 := Lib.hid hg1
  have HW1 := Lib.hid hw1
  clear hg1 hw1
  go_loopw [5] (fun v5 wr => ∃ (c : Nat) (S' : Nat → Prop), v5 = .int .i64 (c : Int) ∧ Hid (Goes S w wr S' ∧ (0 < c → IsWk wr k (fnV 43 p) L head c S') ∧ (c ≤ bound → T = c) ∧ (bound < c → T = top R bound))) (fun v5 _ => (intOf v5).toNat)
  case atStart => exact ⟨c0, S1, rfl, Lib.hid ⟨HG1.out, HW1.out, HI0.out⟩⟩
  case round =>
    obtain ⟨c, S', rfl, H⟩ := hrel
    by_cases hcb : c ≤ bound
    · have hci : (c : Int) ≤ (bound : Int) := by omega
      go_wp2
      go_ret
      have e := H.out.2.2.1 hcb
      subst e
      exact ⟨rfl, S', H.out.1, H.out.2.1⟩
    · have hci : (bound : Int) < (c : Int) := by omega
      have NN := Lib.hid (N1.out wr c S' H.out.1 (H.out.2.1 (by omega)))
      obtain ⟨c', hc'⟩ : ∃ c', top R (c - 1) = c' := ⟨_, rfl⟩
      have hle := top_le R (c - 1)
      rw [hc'] at NN hle
      have HI := Lib.hid (show (c' ≤ bound → T = c') ∧ (bound < c' → T = top R bound) from by
        have h2 := H.out.2.2.2 (by omega)
        refine ⟨fun h => ?_, fun _ => h2⟩
        rw [h2, top_skip (n := c - 1) (by omega) (by omega), hc'])
      clear hc'
      go_wp2_with (go_at_call 45; ((with_reducible refine NN.out.mono ?_); rintro e w2 ⟨rfl, S2, hg2, hw2⟩))
      go_roundw
      case rel => exact ⟨c', S2, rfl, Lib.hid ⟨H.out.1.trans hg2, hw2, HI.out⟩⟩
      case measure => simp [intOf]; omega
end Go.Proofs.Ytiikbekboapphaa
