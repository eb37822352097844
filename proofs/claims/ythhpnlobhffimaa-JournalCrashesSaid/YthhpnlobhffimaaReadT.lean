/- Read, of both; the reference's Put; repeated; survive. -/
import Derived.Test.YthhpnlobhffimaaCopy
import Derived.Test.YthhpnlobhffimaaFit
import Derived.Shelf.Abstract
import Derived.Deep.Cut
namespace Go.Proofs.Ythhpnlobhffimaa
set_option maxRecDepth 100000
open Go.RowKit
theorem siz5 : ∀ W, (Go.sizeOf 5).run Try.prog W = .ok 1 W := fun W => by
  obtain ⟨i, hi, hz, h1, hby⟩ := info_parts info5
  simp [sizeOf, typeInfo, hi, h1]
/-- bytes as a string -/
theorem conv_row {w : World} {B k c : Nat} {A : Option Addr} {l : List UInt8} (h : Row w B 1 A k c (bytC l)) (hk : 0 < k) : (convert 66 9 (.slice A k c)).run Try.prog w = .ok (.string (str l)) w := by
  have hl : l.length = k := by have := h.1; rw [bytC_len] at this; omega
  obtain ⟨ad, rfl, _, _⟩ := h.2.2.2 0 _ (bytC_at l 0 (by omega))
  rw [← hl]
  refine run_convert_bytes_back w 66 9 5 ad c l Try.underlying66 Try.underlying5 Try.underlying9 fun j hj => ?_
  obtain ⟨ad', e, _, hc⟩ := h.2.2.2 j _ (bytC_at l j hj)
  obtain rfl : ad = ad' := by injection e
  exact hc
theorem Row.prefix_ {w : World} {B n c k : Nat} {A : Option Addr} {xs : List Value} (h : Row w B 1 A n c xs) (hk : k ≤ n) : Row w B 1 A k c (xs.take k) := by
  refine ⟨by rw [List.length_take, h.1]; omega, by have := h.2.1; omega, h.2.2.1, fun j u hj => ?_⟩
  have hlt : j < k := by
    have := (List.getElem?_eq_some_iff.1 hj).1
    rw [List.length_take] at this
    omega
  rw [List.getElem?_take_of_lt hlt] at hj
  exact h.2.2.2 j u hj
theorem read_nil (w : World) (off n : Int) : Calls Try.prog 34 #[.pointer none, .int .i64 off, .int .i64 n] w fun e w' => e = .returned (.string ⟨#[]⟩) ∧ w = w' := by
  have M := Lib.hid (size_nil w)
  by_cases h1 : off < 0
  · go_enter Try.func34, Try.ntmps34
    go_wp2
    go_ret
    exact ⟨rfl, rfl⟩
  · go_enter Try.func34, Try.ntmps34
    go_wp2_with (go_at_call 35; ((with_reducible refine M.out.mono ?_); rintro e w1 ⟨rfl, rfl⟩))
    go_ret
    exact ⟨rfl, rfl⟩
set_option maxHeartbeats 2000000 in
theorem read_any {B : Nat} {w : World} {p : Nat} {d : Dk} {F : Nat → Prop} (hd : IsD B w p d F) (off n : Int) : Calls Try.prog 34 #[.pointer (some ⟨p, 0, none⟩), .int .i64 off, .int .i64 n] w fun e w' => e = .returned (.string (str (d.read off n))) ∧ w = w' := by
  have M := Lib.hid (size_any hd)
  obtain ⟨a, b, c, lf, h⟩ := hd
  obtain ⟨A, ca, rfl⟩ := own_form h.now
  have hrow := Row.own h.now
  have c0 : w.cell? ⟨p, 0, none⟩ = some (.slice A d.now.length ca) := h.full.cell 0
  have hng := h.good.now
  unfold Dk.read
  obtain ⟨L, hL⟩ : ∃ L, d.now = L := ⟨_, rfl⟩
  rw [hL] at M c0 hrow hng ⊢
  obtain ⟨N, hN⟩ : ∃ N, L.length = N := ⟨_, rfl⟩
  rw [hN] at M c0 hrow hng
  unfold lim at hng
  have N0 : (0 : Int) ≤ (N : Int) := Int.natCast_nonneg _
  have HN := Lib.hid hN
  clear h hL hN
  by_cases h1 : off < 0
  · rw [if_neg (by omega)]
    go_enter Try.func34, Try.ntmps34
    go_wp2
    go_ret
    exact ⟨rfl, rfl⟩
  · have h1' : 0 ≤ off := by omega
    by_cases h2 : (N : Int) ≤ off
    · have e : (if 0 ≤ off ∧ 1 ≤ n then (L.drop off.toNat).take n.toNat else []) = [] := by
        split
        · rw [List.drop_eq_nil_of_le (by have := HN.out; omega)]; simp
        · rfl
      rw [e]
      clear e
      go_enter Try.func34, Try.ntmps34
      go_wp2_with (go_at_call 35; ((with_reducible refine M.out.mono ?_); rintro e w1 ⟨rfl, rfl⟩))
      go_ret
      exact ⟨rfl, rfl⟩
    · have h2' : off < (N : Int) := by omega
      by_cases h3 : n < 1
      · rw [if_neg (by omega)]
        go_enter Try.func34, Try.ntmps34
        go_wp2_with (go_at_call 35; ((with_reducible refine M.out.mono ?_); rintro e w1 ⟨rfl, rfl⟩))
        go_ret
        exact ⟨rfl, rfl⟩
      · rw [if_pos (by omega)]
        obtain ⟨o, rfl⟩ : ∃ o : Nat, off = (o : Int) := ⟨off.toNat, by omega⟩
        rw [Int.toNat_natCast]
        have hnc := hrow.2.1
        obtain ⟨A1, hs1, hr1⟩ := cut_l 66 5 1 Try.underlying66 siz5 A N ca o (by omega) hnc
        have hr := hr1 _ _ _ hrow
        rw [Nat.mul_one, bytC_drop] at hr
        have hno : (n : Int) ≥ 1 := by omega
        by_cases hle : n ≤ ((N - o : Nat) : Int)
        · have hp := Row.prefix_ (k := n.toNat) hr (by omega)
          rw [bytC_take] at hp
          have hcv := conv_row hp (by omega)
          obtain ⟨S, hS⟩ : ∃ S, str ((L.drop o).take n.toNat) = S := ⟨_, rfl⟩
          rw [hS] at hcv ⊢
          clear hrow hr1 hr hp hS
          go_enter Try.func34, Try.ntmps34
          go_wp2_with (go_at_call 35; ((with_reducible refine M.out.mono ?_); rintro e w1 ⟨rfl, rfl⟩))
          go_ret
          exact ⟨rfl, rfl⟩
        · have hle' : ((N - o : Nat) : Int) < n := by omega
          have hcv := conv_row hr (by omega)
          have e : (L.drop o).take n.toNat = L.drop o := List.take_of_length_le (by rw [List.length_drop, HN.out]; omega)
          rw [e]
          obtain ⟨S, hS⟩ : ∃ S, str (L.drop o) = S := ⟨_, rfl⟩
          rw [hS] at hcv ⊢
          clear hrow hr1 hr hS e
          go_enter Try.func34, Try.ntmps34
          go_wp2_with (go_at_call 35; ((with_reducible refine M.out.mono ?_); rintro e w1 ⟨rfl, rfl⟩))
          go_ret
          exact ⟨rfl, rfl⟩
end Go.Proofs.Ythhpnlobhffimaa
