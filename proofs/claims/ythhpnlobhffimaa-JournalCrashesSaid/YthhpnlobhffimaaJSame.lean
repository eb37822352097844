/- The reference's Same; contents. -/
import Derived.Test.YthhpnlobhffimaaJApp
namespace Go.Proofs.Ythhpnlobhffimaa
set_option maxRecDepth 100000
open Go.RowKit
set_option maxHeartbeats 1000000 in
theorem same_any (M : Nat) (A B : Option Addr) (a b : List ByteArray) (c d : Nat) (w : World) (hA : Strs w M A c a) (hB : Strs w M B d b) (ha : a.length ≤ 1152921504606846975) (hb : b.length ≤ 1152921504606846975) :
    Calls Try.prog 19 #[.slice A a.length c, .slice B b.length d] w (QBool w (decide (a = b))) := by
  by_cases hlen : a.length = b.length
  · obtain ⟨m, hm⟩ : ∃ m, b.length = m := ⟨_, rfl⟩
    have hma : a.length = m := hlen.trans hm
    obtain ⟨R, HR⟩ : ∃ R, Hid (decide (a = b) = R) := ⟨_, Lib.hid rfl⟩
    rw [HR.out]
    have hcapa := hA.cap
    have hcapb := hB.cap
    have HMA := Lib.hid hma
    have HMB := Lib.hid hm
    rw [hm] at hcapb hb ⊢
    rw [hma] at hcapa ha ⊢
    clear hlen hm hma hb
    go_enter Try.func19, Try.ntmps19
    go_wp2
    go_loopw [5] (fun i wr => ∃ k q : Nat, k ≤ m ∧ i = .int .i64 k ∧ wr = w.drewN q ∧ Hid (∀ j (h1 : j < a.length) (h2 : j < b.length), j < k → a[j] = b[j])) (fun i _ => m - (intOf i).toNat)
    case atStart => exact ⟨0, 0, by omega, rfl, rfl, Lib.hid (fun j _ _ hj => by omega)⟩
    case round =>
      obtain ⟨k, q, hk, rfl, rfl, HE⟩ := hrel
      have hi0 : (0 : Int) ≤ (k : Int) := Int.natCast_nonneg _
      by_cases hlt : k < m
      · have hka : k < a.length := by rw [HMA.out]; exact hlt
        have hkb : k < b.length := by rw [HMB.out]; exact hlt
        obtain ⟨ad, rfl, _, hca⟩ := hA.at_ (k := k) hka
        obtain ⟨bd, rfl, _, hcb⟩ := hB.at_ (k := k) hkb
        obtain ⟨s, HS⟩ : ∃ s, Hid (a[k]'hka = s) := ⟨_, Lib.hid rfl⟩
        obtain ⟨t, HT⟩ : ∃ t, Hid (b[k]'hkb = t) := ⟨_, Lib.hid rfl⟩
        rw [HS.out] at hca
        rw [HT.out] at hcb
        have hi1 : (k : Int) < (m : Int) := by omega

        by_cases hst : s.toList = t.toList
        · have hbb : (s.toList == t.toList) = true := by simpa using hst
          have HST := Lib.hid hst
          clear hst
          go_wp2_with fail
          go_quiet (fail)
          go_wp2
          go_roundw
          case rel =>
            refine ⟨k + 1, _, by omega, by go_num, rfl, Lib.hid (fun j h1 h2 hj => ?_)⟩
            rcases Nat.lt_or_ge j k with h | h
            · exact HE.out j h1 h2 h
            · obtain rfl : j = k := by omega
              rw [HS.out, HT.out]
              rw [eq_of_data HST.out]
          case measure => simp [intOf]; omega
        · have hbb : (s.toList == t.toList) = false := by simpa using hst
          have hR : R = false := by
            rw [← HR.out, decide_eq_false_iff_not]
            rintro rfl
            apply hst
            have := HS.out.symm.trans HT.out
            rw [this]
          have HR2 := Lib.hid hR
          clear hst hR
          go_wp2_with fail
          go_quiet (fail)
          go_wp2
          go_ret
          refine ⟨by rw [HR2.out]; rfl, ?_⟩
          rw [World.drewN_drewN]
          exact ⟨_, rfl⟩
      · obtain rfl : k = m := by omega
        have hR : R = true := by
          rw [← HR.out, decide_eq_true_eq]
          refine List.ext_getElem (HMA.out.trans HMB.out.symm) fun j h1 h2 => HE.out j h1 h2 (by rw [← HMA.out]; exact h1)
        have HR2 := Lib.hid hR
        clear hR
        go_wp2_with fail
        go_ret
        refine ⟨by rw [HR2.out]; rfl, _, rfl⟩
  · have hR : decide (a = b) = false := by rw [decide_eq_false_iff_not]; rintro rfl; exact hlen rfl
    rw [hR]
    have hl : ¬ (a.length : Int) = (b.length : Int) := by omega
    have hl2 : ((a.length : Int) == (b.length : Int)) = false := by rw [beq_eq_false_iff_ne]; omega
    go_enter Try.func19, Try.ntmps19
    go_wp2
    go_ret
    exact ⟨rfl, 0, rfl⟩
theorem read_now (d : Dk) : d.read 0 (d.now.length : Int) = d.now := by
  unfold Dk.read
  split
  · simp
  · have : d.now.length = 0 := by omega
    exact (List.eq_nil_of_length_eq_zero this).symm
theorem contents_any {w W : World} {p : Nat} {d : Dk} {X : Nat → Prop} (h : Side w W p d X) : Calls Try.prog 28 #[.pointer (some ⟨p, 0, none⟩)] W fun e w' => e = .returned (.string (str d.now)) ∧ W = w' := by
  have S := Lib.hid h.size
  have R := h.read 0 (d.now.length : Int)
  rw [read_now] at R
  have RR := Lib.hid R
  obtain ⟨n, hn⟩ : ∃ n, d.now.length = n := ⟨_, rfl⟩
  rw [hn] at S RR
  obtain ⟨s, hs⟩ : ∃ s, str d.now = s := ⟨_, rfl⟩
  rw [hs] at RR ⊢
  clear R hn hs
  go_enter Try.func28, Try.ntmps28
  go_wp2_with (first
    | (go_at_call 35; ((with_reducible refine S.out.mono ?_); rintro e w1 ⟨rfl, rfl⟩))
    | (go_at_call 34; ((with_reducible refine RR.out.mono ?_); rintro e w2 ⟨rfl, rfl⟩))
    | (fail "arm"))
  go_ret
  exact ⟨rfl, rfl⟩
end Go.Proofs.Ythhpnlobhffimaa
