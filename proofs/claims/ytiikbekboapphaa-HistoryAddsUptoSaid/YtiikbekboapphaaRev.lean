/- reverse. -/
import Derived.Test.YtiikbekboapphaaAnc
namespace Go.Proofs.Ytiikbekboapphaa
set_option maxRecDepth 100000
open Go.RowKit
theorem own_succ {W : World} {base : Nat} {e : TypeId} {size : Nat} {v : Value} {k : Nat} {xs : List Value} (h : W.ownsRow base e size v (k + 1) xs) : ∃ g cap, v = .slice (some ⟨g, 0, none⟩) (k + 1) cap := by
  rcases h.2 with ⟨_, h0⟩ | ⟨g, cap, _, rfl, _⟩
  · cases h0
  · exact ⟨_, _, rfl⟩
structure RevI (base : Nat) (w wr : World) (v : Value) (l l' : List Nat) (n i : Nat) : Prop where
  len : l'.length = n
  row : wr.ownsRow base 3 1 v n (natC l')
  turn : Turn (fun k => v.ownBlock = some k) w wr
  at_ : ∀ k, k < n → l'.getD k 0 = if k < i ∨ n ≤ k + i then l.getD (n - 1 - k) 0 else l.getD k 0
def RevOut (base : Nat) (w : World) (v : Value) (n : Nat) (l : List Nat) (e : Ending) (w' : World) : Prop :=
  e = .returned (.tuple #[]) ∧ w'.ownsRow base 3 1 v n (natC l) ∧ Turn (fun k => v.ownBlock = some k) w w'
theorem rev_eq {l l' : List Nat} {n : Nat} (hl : l.length = n) (hl' : l'.length = n) (h : ∀ k, k < n → l'.getD k 0 = l.getD (n - 1 - k) 0) : l' = l.reverse := by
  refine List.ext_getElem (by simp [hl, hl']) fun k h1 h2 => ?_
  have := h k (by omega)
  rw [List.getElem_reverse]
  simp only [List.getD_eq_getElem?_getD] at this
  rw [List.getElem?_eq_getElem h1, List.getElem?_eq_getElem (by omega)] at this
  simp only [Option.getD_some] at this
  rw [this]
  congr 1
  omega
set_option maxHeartbeats 4000000 in
theorem rev_any {base : Nat} {w : World} {v : Value} {l : List Nat} (h : w.ownsRow base 3 1 v l.length (natC l)) (hs : l.length ≤ 1048576) :
    Calls Try.prog 47 #[v] w (RevOut base w v l.length l.reverse) := by
  unfold RevOut
  have H0 := Lib.hid (show RevI base w w v l l l.length 0 from ⟨rfl, h, Turn.refl _ _, fun k hk => by rw [if_neg (by omega)]⟩)
  obtain ⟨A, c, rfl⟩ := own_form h
  have hcap : l.length ≤ c := (Row.own h).2.1
  obtain ⟨n, hn⟩ : ∃ n, l.length = n := ⟨_, rfl⟩
  have HN := Lib.hid hn
  rw [hn] at H0 hcap hs ⊢
  clear h hn
  go_enter Try.func47, Try.ntmps47
  go_wp2_with fail
  go_loopw [2, 3] (fun v2 v3 wr => ∃ (i : Nat) (l' : List Nat), v2 = .int .i64 (i : Int) ∧ v3 = .int .i64 ((n : Int) - 1 - (i : Int)) ∧ 2 * i ≤ n + 1 ∧ Hid (RevI base w wr (.slice A n c) l l' n i)) (fun v2 _ _ => n - (intOf v2).toNat)
  case atStart => exact ⟨0, l, rfl, by simp, by omega, H0⟩
  case round =>
    obtain ⟨i, l', rfl, rfl, hi, H⟩ := hrel
    by_cases hij : 2 * i + 1 < n
    · have hc : (i : Int) < (n : Int) - 1 - (i : Int) := by omega
      obtain ⟨j, hj⟩ : ∃ j, n - 1 - i = j := ⟨_, rfl⟩
      have ej : (n : Int) - 1 - (i : Int) = (j : Int) := by omega
      have HJ := Lib.hid hj
      rw [ej] at hc ⊢
      obtain ⟨b, c', hA, _, _, _⟩ := own_some H.out.row (by omega)
      obtain ⟨rfl, rfl⟩ : A = some ⟨b, 0, none⟩ ∧ c = c' := by injection hA with h1 h2 h3; exact ⟨h1, h3⟩
      have hlen := H.out.len
      have ci : wr.cell? ⟨b, i, none⟩ = some (.int .i64 ((l'.getD i 0 : Nat) : Int)) := (own_cell H.out.row (by omega)).1.trans (natC_at l' i (by omega))
      have cj : wr.cell? ⟨b, j, none⟩ = some (.int .i64 ((l'.getD j 0 : Nat) : Int)) := (own_cell H.out.row (by omega)).1.trans (natC_at l' j (by omega))
      have fi : wr.frozen? ⟨b, i, none⟩ = false := (own_cell H.out.row (by omega)).2
      have fj : wr.frozen? ⟨b, j, none⟩ = false := (own_cell H.out.row (by omega)).2
      have i0 : (0 : Int) ≤ (i : Int) := Int.natCast_nonneg _
      have i1 : (i : Int) < (n : Int) := by omega
      have j0 : (0 : Int) ≤ (j : Int) := Int.natCast_nonneg _
      have j1 : (j : Int) < (n : Int) := by omega
      have hne : (⟨b, j, none⟩ : Addr) ≠ ⟨b, i, none⟩ := by intro e; injection e; omega
      have cj2 : (wr.setCell ⟨b, i, none⟩ (.int .i64 ((l'.getD j 0 : Nat) : Int))).cell? ⟨b, j, none⟩ = some (.int .i64 ((l'.getD j 0 : Nat) : Int)) := (World.cell?_setCell_other wr _ _ _ hne.symm).trans cj
      have fj2 := (own_cell (q := j) (own_set H.out.row i (.int .i64 ((l'.getD j 0 : Nat) : Int))) (by omega)).2
      have FIN := Lib.hid (fun (q : Nat) => (show RevI base w (((wr.setCell ⟨b, i, none⟩ (.int .i64 ((l'.getD j 0 : Nat) : Int))).setCell ⟨b, j, none⟩ (.int .i64 ((l'.getD i 0 : Nat) : Int))).drewN q) (.slice (some ⟨b, 0, none⟩) n c) l (swapL l' i j) n (i + 1) from by
        refine ⟨by rw [swapL_len, hlen], ?_, H.out.turn.trans_ (((Turn.set_ (F := fun k => (Value.slice (some ⟨b, 0, none⟩) n c).ownBlock = some k) (a := ⟨b, i, none⟩) rfl _).trans_ (Turn.set_ (F := fun k => (Value.slice (some ⟨b, 0, none⟩) n c).ownBlock = some k) (a := ⟨b, j, none⟩) rfl _)).drewN_ q), fun k hk => ?_⟩
        · have := own_set (own_set H.out.row i (.int .i64 ((l'.getD j 0 : Nat) : Int))) j (.int .i64 ((l'.getD i 0 : Nat) : Int))
          unfold swapL
          rw [natC_set, natC_set]
          exact this
        · rw [swapL_at _ _ _ _ (by omega) (by omega)]
          have e1 := H.out.at_ i (by omega)
          have e2 := H.out.at_ j (by omega)
          have e3 := H.out.at_ k hk
          rw [if_neg (by omega)] at e1 e2
          by_cases h1 : k = j
          · rw [if_pos h1, if_pos (by omega), e1]; congr 1; omega
          · rw [if_neg h1]
            by_cases h2 : k = i
            · rw [if_pos h2, if_pos (by omega), e2]; congr 1; omega
            · rw [if_neg h2, e3]
              by_cases h3 : k < i ∨ n ≤ k + i
              · rw [if_pos h3, if_pos (by omega)]
              · rw [if_neg h3, if_neg (by omega)]))
      obtain ⟨x, hx⟩ : ∃ x, l'.getD i 0 = x := ⟨_, rfl⟩
      obtain ⟨y, hy⟩ : ∃ y, l'.getD j 0 = y := ⟨_, rfl⟩
      rw [hx] at ci FIN
      rw [hy] at cj cj2 fj2 FIN
      clear hx hy hlen hA hj hne
      go_wp2_with fail
      go_region
      all_goals
        go_wp2_with fail
        go_roundw
        case rel => exact ⟨i + 1, swapL l' i j, by go_num, by have := HJ.out; first | (congr 1; omega) | (congr 1; go_num; omega), by omega, Lib.hid (FIN.out _)⟩
        case measure => simp [intOf]; omega
    · have hc : (n : Int) - 1 - (i : Int) ≤ (i : Int) := by omega
      go_wp2
      go_end0
      have he : l' = l.reverse := rev_eq HN.out H.out.len fun k hk => by
        have := H.out.at_ k hk
        by_cases h1 : k < i ∨ n ≤ k + i
        · rwa [if_pos h1] at this
        · rw [if_neg h1] at this
          rw [this]
          congr 1
          omega
      rw [← he]
      exact ⟨rfl, H.out.row, H.out.turn⟩
end Go.Proofs.Ytiikbekboapphaa
