/- container/heap's down. -/
import Derived.Test.YtiikbekboapphaaIfaceT
import Derived.Test.YtiikbekboapphaaHistMath
namespace Go.Proofs.Ytiikbekboapphaa
set_option maxRecDepth 100000
open Go.RowKit
structure DownI (w wr : World) (g : Nat) (v : Value) (l l' : List Nat) (n k : Nat) : Prop where
  perm : l'.Perm l
  down : DownN l' n k
  hp : Hp wr g v l'
  turn : Turn (HF g v) w wr
  same : ∀ k, n ≤ k → l'.getD k 0 = l.getD k 0
def DownOut (w : World) (g : Nat) (v : Value) (l : List Nat) (n : Nat) (e : Ending) (w' : World) : Prop :=
  ∃ b l', e = .returned (.bool b) ∧ l'.Perm l ∧ HeapN l' n ∧ Hp w' g v l' ∧ Turn (HF g v) w w' ∧ ∀ k, n ≤ k → l'.getD k 0 = l.getD k 0
theorem DownI.fin {w wr : World} {g : Nat} {v : Value} {l l' : List Nat} {n k : Nat} (h : DownI w wr g v l l' n k) (h1 : 2 * k + 1 < n → l'.getD (2 * k + 1) 0 ≤ l'.getD k 0) (h2 : 2 * k + 2 < n → l'.getD (2 * k + 2) 0 ≤ l'.getD k 0) {b : Bool} {q : Nat} :
    DownOut w g v l n (.returned (.bool b)) (wr.drewN q) := ⟨b, l', rfl, h.perm, h.down.done h1 h2, h.hp.drewN q, h.turn.drewN_ q, h.same⟩
theorem DownI.next {w wr w2 : World} {g : Nat} {v : Value} {l l' : List Nat} {n k j q : Nat} (h : DownI w wr g v l l' n k) (hn : n ≤ l.length) (hj : j < n) (hc : j = 2 * k + 1 ∨ j = 2 * k + 2) (hlt : l'.getD k 0 < l'.getD j 0)
    (h1 : 2 * k + 1 < n → l'.getD (2 * k + 1) 0 ≤ l'.getD j 0) (h2 : 2 * k + 2 < n → l'.getD (2 * k + 2) 0 ≤ l'.getD j 0) (hp : Hp w2 g v (swapL l' k j)) (ht : Turn (HF g v) (wr.drewN q) w2) : DownI w w2 g v l (swapL l' k j) n j := by
  have hl := h.perm.length_eq
  refine ⟨(swapL_perm l' k j (by omega) (by omega)).trans h.perm, h.down.step (by omega) hj hc hlt h1 h2, hp, h.turn.trans_ ht.from_drew, fun x hx => ?_⟩
  rw [swapL_at _ _ _ _ (by omega) (by omega), if_neg (by omega), if_neg (by omega)]
  exact h.same x hx
set_option maxHeartbeats 8000000 in
theorem down_any {w : World} {g : Nat} {v : Value} {l : List Nat} (h : Hp w g v l) (n : Nat) (hnl : n ≤ l.length) (hl : l.length ≤ 1048576) (hd : DownN l n 0) :
    Calls Try.prog 51 #[.iface 73 (.pointer (some ⟨g, 0, none⟩)), .int .i64 0, .int .i64 (n : Int)] w (DownOut w g v l n) := by
  have H0 := Lib.hid (show DownI w w g v l l n 0 from ⟨List.Perm.refl _, hd, h, Turn.refl _ _, fun _ _ => rfl⟩)
  have HN := Lib.hid hnl
  obtain ⟨N, hN⟩ : ∃ N, l.length = N := ⟨_, rfl⟩
  have HL := Lib.hid hN
  rw [hN] at hnl hl
  have hmL := fun W => m_less g W
  clear h hd hN
  go_enter Try.func51, Try.ntmps51
  go_wp2_with fail
  go_loopw [7] (fun v7 wr => ∃ (k : Nat) (l' : List Nat), v7 = .int .i64 (k : Int) ∧ (k = 0 ∨ k < n) ∧ Hid (DownI w wr g v l l' n k)) (fun v7 _ => n - (intOf v7).toNat)
  case atStart => exact ⟨0, l, rfl, .inl rfl, H0⟩
  case round =>
    obtain ⟨k, l', rfl, hk, H⟩ := hrel
    have hln : l'.length = N := H.out.perm.length_eq.trans HL.out
    have hk20 : k ≤ 1048576 := by omega
    by_cases ha : 2 * k + 1 < n
    · obtain ⟨a, haa⟩ : ∃ a, 2 * k + 1 = a := ⟨_, rfl⟩
      have e1 : (2 : Int) * (k : Int) + 1 = (a : Int) := by omega
      have HA := Lib.hid haa
      have c1 : ((a : Int) < (n : Int)) := by omega
      have c2 : (0 : Int) ≤ (a : Int) := by omega
      have ha20 : a ≤ 1048576 := by omega
      obtain ⟨a2, haa2⟩ : ∃ a2, a + 1 = a2 := ⟨_, rfl⟩
      have HA2 := Lib.hid haa2
      have e2 : (a2 : Int) = (a : Int) + 1 := by omega
      -- the greater one of the children
      obtain ⟨j, hj, hjc, hj1, hj2, hj3⟩ : ∃ j, j < n ∧ (j = 2 * k + 1 ∨ j = 2 * k + 2) ∧ (2 * k + 1 < n → l'.getD (2 * k + 1) 0 ≤ l'.getD j 0) ∧ (2 * k + 2 < n → l'.getD (2 * k + 2) 0 ≤ l'.getD j 0) ∧ (j = 2 * k + 2 ↔ 2 * k + 2 < n ∧ l'.getD (2 * k + 1) 0 < l'.getD (2 * k + 2) 0) := by
        by_cases hx : 2 * k + 2 < n ∧ l'.getD (2 * k + 1) 0 < l'.getD (2 * k + 2) 0
        · exact ⟨2 * k + 2, hx.1, .inr rfl, fun _ => by omega, fun _ => Nat.le_refl _, ⟨fun _ => hx, fun _ => rfl⟩⟩
        · refine ⟨2 * k + 1, ha, .inl rfl, fun _ => Nat.le_refl _, fun h2 => ?_, ?_⟩
          · by_cases hy : l'.getD (2 * k + 1) 0 < l'.getD (2 * k + 2) 0
            · exact absurd ⟨h2, hy⟩ hx
            · omega
          · constructor
            · intro h; omega
            · intro h; exact absurd h hx
      have hmS := fun (q : Nat) => (H.out.hp.drewN q).swap_
      have CL2 := Lib.hid (fun (q : Nat) => less_any (H.out.hp.drewN q) j k (by omega) (by omega))
      have CL3 := Lib.hid (less_any H.out.hp j k (by omega) (by omega))
      obtain ⟨b2, hb2⟩ : ∃ b, decide (l'.getD k 0 < l'.getD j 0) = b := ⟨_, rfl⟩
      rw [hb2] at CL2 CL3
      unfold QBool at CL2 CL3
      have SW := Lib.hid (fun (q : Nat) => swap_any (H.out.hp.drewN q) k j (by omega) (by omega))
      obtain ⟨ls, hls⟩ : ∃ ls, swapL l' k j = ls := ⟨_, rfl⟩
      have NX := Lib.hid (fun (w2 : World) (q : Nat) (hlt : l'.getD k 0 < l'.getD j 0) => DownI.next (w2 := w2) (q := q) H.out HN.out hj hjc hlt hj1 hj2)
      unfold SwapOut at SW
      rw [hls] at SW NX
      have FN := Lib.hid (fun (b : Bool) (q : Nat) (hge : ¬ l'.getD k 0 < l'.getD j 0) => DownI.fin (b := b) (q := q) H.out (fun h => by have := hj1 h; omega) (fun h => by have := hj2 h; omega))
      have HB2 := Lib.hid hb2
      by_cases hA : 2 * k + 2 < n
      · have CL1 := Lib.hid (less_any H.out.hp a2 a (by omega) (by omega))
        obtain ⟨b1, hb1⟩ : ∃ b, decide (l'.getD a 0 < l'.getD a2 0) = b := ⟨_, rfl⟩
        rw [hb1, e2] at CL1
        unfold QBool at CL1
        have c3 : (a : Int) + 1 < (n : Int) := by omega
        have hjj : j = if b1 then a2 else a := by
          have e := hj3
          have ea : 2 * k + 2 = a2 := by omega
          rw [ea, haa] at e
          cases b1 with
          | true => have := of_decide_eq_true hb1; simp only [if_true]; exact e.2 ⟨by omega, this⟩
          | false =>
            have := of_decide_eq_false hb1
            have hn : ¬ j = a2 := fun h => this (e.1 h).2
            simp only [Bool.false_eq_true, if_false]
            omega
        have hkm : k < n := by omega
        clear hb1 hb2 hls H hj1 hj2 hj3 hA hjc haa haa2
        have e2' := e2
        clear e2
        cases b1 with
        | true =>
          obtain rfl : j = a2 := by simpa using hjj
          have hJ := e2'
          clear hjj e2'
          rw [hJ] at CL2 SW
          cases b2 with
          | true =>
            go_wp2_with (first
              | (go_at_call 70; ((with_reducible refine CL1.out.mono ?_); rintro e w1 ⟨rfl, q1, rfl⟩))
              | (go_at_call 70; ((with_reducible refine (CL2.out q1).mono ?_); rintro e w2 ⟨rfl, q2, rfl⟩; (have hm2 := hmS (q1 + q2))))
              | (go_at_call 73; ((with_reducible refine (SW.out (q1 + q2)).mono ?_); rintro e w3 ⟨rfl, hp2, ht2⟩)))
            go_roundw
            case rel => exact ⟨j, ls, by rw [hJ], .inr hj, Lib.hid (NX.out _ (q1 + q2) (of_decide_eq_true HB2.out) hp2 ht2)⟩
            case measure => have := HA.out; have := HA2.out; simp [intOf]; omega
          | false =>
            go_wp2_with (first
              | (go_at_call 70; ((with_reducible refine CL1.out.mono ?_); rintro e w1 ⟨rfl, q1, rfl⟩))
              | (go_at_call 70; ((with_reducible refine (CL2.out q1).mono ?_); rintro e w2 ⟨rfl, q2, rfl⟩; (have hm2 := hmS (q1 + q2)))))
            go_ret
            have := FN.out (decide (0 < k)) (q1 + q2) (of_decide_eq_false HB2.out)
            first | exact this | (rw [← World.drewN_drewN] at this; exact this) | (trace_state; exact this)
        | false =>
          obtain rfl : j = a := by simpa using hjj
          clear hjj e2'
          cases b2 with
          | true =>
            go_wp2_with (first
              | (go_at_call 70; ((with_reducible refine CL1.out.mono ?_); rintro e w1 ⟨rfl, q1, rfl⟩))
              | (go_at_call 70; ((with_reducible refine (CL2.out q1).mono ?_); rintro e w2 ⟨rfl, q2, rfl⟩; (have hm2 := hmS (q1 + q2))))
              | (go_at_call 73; ((with_reducible refine (SW.out (q1 + q2)).mono ?_); rintro e w3 ⟨rfl, hp2, ht2⟩)))
            go_roundw
            case rel => exact ⟨j, ls, rfl, .inr hj, Lib.hid (NX.out _ (q1 + q2) (of_decide_eq_true HB2.out) hp2 ht2)⟩
            case measure => have := HA.out; have := HA2.out; simp [intOf]; omega
          | false =>
            go_wp2_with (first
              | (go_at_call 70; ((with_reducible refine CL1.out.mono ?_); rintro e w1 ⟨rfl, q1, rfl⟩))
              | (go_at_call 70; ((with_reducible refine (CL2.out q1).mono ?_); rintro e w2 ⟨rfl, q2, rfl⟩; (have hm2 := hmS (q1 + q2)))))
            go_ret
            have := FN.out (decide (0 < k)) (q1 + q2) (of_decide_eq_false HB2.out)
            first | exact this | (rw [← World.drewN_drewN] at this; exact this) | (trace_state; exact this)
      · obtain rfl : j = a := by omega
        have c3 : (n : Int) ≤ (j : Int) + 1 := by omega
        have hkm : k < n := by omega
        clear hb2 hls H hj1 hj2 hj3 hA hjc haa haa2 e2
        cases b2 with
        | true =>
          go_wp2_with (first
            | (go_at_call 70; ((with_reducible refine CL3.out.mono ?_); rintro e w2 ⟨rfl, q2, rfl⟩; (have hm2 := hmS q2)))
            | (go_at_call 73; ((with_reducible refine (SW.out q2).mono ?_); rintro e w3 ⟨rfl, hp2, ht2⟩)))
          go_roundw
          case rel => exact ⟨j, ls, rfl, .inr hj, Lib.hid (NX.out _ q2 (of_decide_eq_true HB2.out) hp2 ht2)⟩
          case measure => have := HA.out; have := HA2.out; simp [intOf]; omega
        | false =>
          go_wp2_with (first
            | (go_at_call 70; ((with_reducible refine CL3.out.mono ?_); rintro e w2 ⟨rfl, q2, rfl⟩; (have hm2 := hmS q2))))
          go_ret
          have := FN.out (decide (0 < k)) q2 (of_decide_eq_false HB2.out)
          first | exact this | (rw [← World.drewN_drewN] at this; exact this) | (trace_state; exact this)
    · have c1 : (n : Int) ≤ 2 * (k : Int) + 1 := by omega
      have FN := Lib.hid (fun (b : Bool) (q : Nat) => DownI.fin (b := b) (q := q) H.out (fun h => by omega) (fun h => by omega))
      clear H
      go_wp2
      go_ret
      exact FN.out _ 0
end Go.Proofs.Ytiikbekboapphaa
