/- The reference's Ints and Same; mod; New. -/
import Derived.Test.YtiikbekboapphaaRefB
import Derived.Test.YtiikbekboapphaaGetP
namespace Go.Proofs.Ytiikbekboapphaa
set_option maxRecDepth 100000
open Go.RowKit
theorem len_of {w : World} {B n c : Nat} {A : Option Addr} {l : List Int} (h : Row w B 1 A n c (intC l)) : l.length = n := by have := h.1; rw [intC_len] at this; omega
set_option maxHeartbeats 4000000 in
theorem ints_any {w : World} {B n c m d : Nat} {A C : Option Addr} {l r : List Int} (h1 : Row w B 1 A n c (intC l)) (h2 : Row w B 1 C m d (intC r)) (hn : n ≤ 1099511627776) (hm : m ≤ 1099511627776) :
    Calls Try.prog 30 #[.slice A n c, .slice C m d] w (QBool w (decide (l = r))) := by
  unfold QBool
  have e1 := len_of h1
  have e2 := len_of h2
  by_cases hnm : n = m
  · subst hnm
    have H1 := Lib.hid h1
    have H2 := Lib.hid h2
    have E1 := Lib.hid e1
    have E2 := Lib.hid e2
    obtain ⟨b, hb⟩ : ∃ b, decide (l = r) = b := ⟨_, rfl⟩
    have HB := Lib.hid hb
    rw [hb]
    clear h1 h2 e1 e2 hb
    go_enter Try.func30, Try.ntmps30
    go_wp2_with fail
    go_loopw [5] (fun v5 wr => ∃ (k q : Nat), v5 = .int .i64 (k : Int) ∧ k ≤ n ∧ wr = w.drewN q ∧ Hid (∀ j, j < k → l.getD j 0 = r.getD j 0)) (fun v5 _ => n - (intOf v5).toNat)
    case atStart => exact ⟨0, 0, rfl, by omega, rfl, Lib.hid fun j hj => by omega⟩
    case round =>
      obtain ⟨k, q, rfl, hk, rfl, HK⟩ := hrel
      have k0 : (0 : Int) ≤ (k : Int) := Int.natCast_nonneg _
      by_cases hkn : k < n
      · have k1 : (k : Int) < (n : Int) := by omega
        obtain ⟨ad, rfl, _, c1⟩ := H1.out.2.2.2 k _ (intC_at l k (by rw [E1.out]; exact hkn))
        obtain ⟨ad2, rfl, _, c2⟩ := H2.out.2.2.2 k _ (intC_at r k (by rw [E2.out]; exact hkn))
        obtain ⟨x, hx⟩ : ∃ x, l.getD k 0 = x := ⟨_, rfl⟩
        obtain ⟨y, hy⟩ : ∃ y, r.getD k 0 = y := ⟨_, rfl⟩
        rw [hx] at c1
        rw [hy] at c2
        have c1' : (w.drewN q).cell? (ad.add k) = some (.int .i64 x) := c1
        have c2' : (w.drewN q).cell? (ad2.add k) = some (.int .i64 y) := c2
        have HX := Lib.hid hx
        have HY := Lib.hid hy
        by_cases hxy : x = y
        · subst hxy
          have hbq : (x == x) = true := by simp
          clear hx hy
          go_wp2_with fail
          go_quiet (fail)
          all_goals
            go_wp2_with fail
            go_roundw
            case rel =>
              refine ⟨k + 1, _, by go_num, by omega, rfl, Lib.hid fun j hj => ?_⟩
              by_cases hjk : j < k
              · exact HK.out j hjk
              · obtain rfl : j = k := by omega
                rw [HX.out, HY.out]
            case measure => first | (simp [intOf]; done) | (simp [intOf]; omega)
        · have hbq : (x == y) = false := by simpa using hxy
          have hbf : b = false := by
            rw [← HB.out, decide_eq_false_iff_not]
            rintro rfl
            exact hxy (HX.out.symm.trans HY.out)
          subst hbf
          clear hx hy
          go_wp2_with fail
          go_quiet (fail)
          all_goals
            go_wp2
            go_ret
            exact ⟨rfl, _, World.drewN_drewN ..⟩
      · obtain rfl : k = n := by omega
        have hbt : b = true := by
          rw [← HB.out, decide_eq_true_iff]
          refine List.ext_getElem (by rw [E1.out, E2.out]) fun j h1 h2 => ?_
          have := HK.out j (by rw [← E1.out]; exact h1)
          simpa [h1, h2] using this
        subst hbt
        go_wp2
        go_ret
        exact ⟨rfl, _, rfl⟩
  · have hne : ((n : Int) == (m : Int)) = false := by simp; omega
    have hf : decide (l = r) = false := by
      rw [decide_eq_false_iff_not]
      rintro rfl
      omega
    rw [hf]
    clear h1 h2 hf
    go_enter Try.func30, Try.ntmps30
    go_wp2
    go_ret
    exact ⟨rfl, 0, rfl⟩
theorem mod_any (w : World) (n : Int) (hn : (Lit.int .i64 n).wf = true) (m : Nat) (h0 : 0 < m) (hm : m ≤ 1000) :
    Calls Try.prog 48 #[.int .i64 n, .int .i64 (m : Int)] w fun e w' => ∃ r : Nat, r < m ∧ e = .returned (.int .i64 (r : Int)) ∧ w = w' := by
  have hbd := bd_i64 hn
  have h1 : n.tmod (m : Int) < m := Int.tmod_lt_of_pos _ (by omega)
  have h2 : -(m : Int) < n.tmod (m : Int) := by
    have := Int.lt_tmod_of_pos n (show (0 : Int) < m by omega)
    omega
  obtain ⟨t, ht⟩ : ∃ t, n.tmod (m : Int) = t := ⟨_, rfl⟩
  rw [ht] at h1 h2
  have h3 : 0 ≤ (t + m).tmod (m : Int) := Int.tmod_nonneg _ (by omega)
  have h4 : (t + m).tmod (m : Int) < m := Int.tmod_lt_of_pos _ (by omega)
  obtain ⟨r, hr⟩ : ∃ r, (t + m).tmod (m : Int) = r := ⟨_, rfl⟩
  rw [hr] at h3 h4
  have hm0 : ¬ ((m : Int) = 0) := by omega
  go_enter Try.func48, Try.ntmps48
  go_wp2
  go_ret
  exact ⟨r.toNat, by omega, by rw [Int.toNat_of_nonneg h3]; rfl, rfl⟩
end Go.Proofs.Ytiikbekboapphaa
