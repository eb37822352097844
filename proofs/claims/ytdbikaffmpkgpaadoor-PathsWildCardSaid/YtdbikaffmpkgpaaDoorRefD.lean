/- The reference's Strings, Dir, Base. -/
import Derived.Test.YtdbikaffmpkgpaaDoorRefP
import Derived.Test.YtdbikaffmpkgpaaDoorMade
import Derived.Test.YtdbikaffmpkgpaaDoorOrder
namespace Go.Proofs.YtdbikaffmpkgpaaDoor
open Go.RowKit

theorem join_segs : ∀ (l cur : List UInt8), joinL ((segsAcc cur l).map str) = cur ++ l
  | [], cur => by simp [segsAcc, joinL, str_data]
  | c :: t, cur => by
    rw [segsAcc]
    split
    · next h =>
      have hne : (segsAcc [] t).map str ≠ [] := fun e => by
        have := congrArg List.length e
        have h1 := segs_pos t
        unfold segs at h1
        rw [List.length_map, List.length_nil] at this
        omega
      rw [List.map_cons, joinL_cons hne, join_segs t [], str_data, h]
      simp
    · rw [join_segs t (cur ++ [c])]; simp
theorem join_comps (s : ByteArray) : joinL (comps s) = s.data.toList := by
  unfold comps segs
  rw [join_segs]; simp
theorem segs_snoc {b : List UInt8} (hb : 47 ∉ b) : ∀ (a cur : List UInt8), segsAcc cur (a ++ 47 :: b) = segsAcc cur a ++ [b]
  | [], cur => by
    have h : segsAcc cur (47 :: b) = cur :: segsAcc [] b := by rw [segsAcc, if_pos rfl]
    rw [List.nil_append, h, segsAcc_last hb]
    rfl
  | c :: t, cur => by
    by_cases h : c = 47
    · have h1 : segsAcc cur (c :: (t ++ 47 :: b)) = cur :: segsAcc [] (t ++ 47 :: b) := by rw [segsAcc, if_pos h]
      have h2 : segsAcc cur (c :: t) = cur :: segsAcc [] t := by rw [segsAcc, if_pos h]
      rw [List.cons_append, h1, h2, segs_snoc hb t []]; rfl
    · have h1 : segsAcc cur (c :: (t ++ 47 :: b)) = segsAcc (cur ++ [c]) (t ++ 47 :: b) := by rw [segsAcc, if_neg h]
      have h2 : segsAcc cur (c :: t) = segsAcc (cur ++ [c]) t := by rw [segsAcc, if_neg h]
      rw [List.cons_append, h1, h2, segs_snoc hb t _]
theorem lastP_spec : ∀ l : List UInt8, (lastP l = 0 → 47 ∉ l) ∧ ∀ n, lastP l = n + 1 → ∃ a b, l = a ++ 47 :: b ∧ 47 ∉ b ∧ a.length = n
  | [] => ⟨fun _ => by simp, fun n h => by simp [lastP] at h⟩
  | c :: t => by
    have ih := lastP_spec t
    rw [lastP]
    by_cases h : 0 < lastP t
    · rw [if_pos h]
      refine ⟨fun e => by omega, fun n e => ?_⟩
      obtain ⟨a, b, e1, e2, e3⟩ := ih.2 (lastP t - 1) (by omega)
      exact ⟨c :: a, b, by rw [e1]; rfl, e2, by rw [List.length_cons]; omega⟩
    · have h0 := ih.1 (by omega)
      rw [if_neg h]
      by_cases hc : c = 47
      · rw [if_pos hc]
        refine ⟨fun e => by omega, fun n e => ⟨[], t, by rw [hc]; rfl, h0, ?_⟩⟩
        simp; omega
      · rw [if_neg hc]
        refine ⟨fun _ hm => ?_, fun n e => by omega⟩
        rcases List.mem_cons.1 hm with e | e
        · exact hc e.symm
        · exact h0 e
/-- a string without slashes, or what stands before and behind its last slash -/
theorem dir_base (s : ByteArray) : (47 ∉ s.data.toList ∧ dirOf s = ByteArray.empty ∧ baseOf s = s) ∨
    (47 ∉ (baseOf s).data.toList ∧ s.data.toList = (dirOf s).data.toList ++ 47 :: (baseOf s).data.toList) := by
  have hs := lastP_spec s.data.toList
  unfold dirOf baseOf
  obtain ⟨n, hn⟩ : ∃ n, lastP s.data.toList = n := ⟨_, rfl⟩
  rw [hn] at hs ⊢
  cases n with
  | zero =>
    left
    refine ⟨hs.1 rfl, Go.WideShapes.bytes_inj (by rw [Lib.extract_data]; rfl), Go.WideShapes.bytes_inj ?_⟩
    rw [Lib.extract_data, List.drop_zero, List.take_of_length_le (by rw [data_len]; omega)]
  | succ n =>
    right
    obtain ⟨a, b, e1, e2, e3⟩ := hs.2 n rfl
    rw [Lib.extract_data, Lib.extract_data, e1]
    have h1 : s.size = a.length + 1 + b.length := by
      rw [← data_len, e1, List.length_append, List.length_cons]; omega
    have h2 : (a ++ 47 :: b).drop (n + 1) = b := by
      rw [← e3, show a ++ 47 :: b = (a ++ [47]) ++ b by simp, List.drop_left' (by simp)]
    have h3 : (a ++ 47 :: b).take n = a := by rw [List.take_left' e3]
    rw [h2, List.drop_zero, show n + 1 - 1 - 0 = n by omega, h3, List.take_of_length_le (by omega)]
    exact ⟨e2, rfl⟩
theorem comps_snoc {s a b : ByteArray} (h : s.data.toList = a.data.toList ++ 47 :: b.data.toList) (hb : 47 ∉ b.data.toList) : comps s = comps a ++ [b] := by
  unfold comps segs
  rw [h, segs_snoc hb, List.map_append, List.map_singleton, str_self]
theorem parts_cases (s : ByteArray) : (partsL s = [] ∧ dirOf s = ByteArray.empty ∧ baseOf s = ByteArray.empty) ∨ (partsL s = [baseOf s] ∧ dirOf s = ByteArray.empty) ∨
    (partsL s = comps (dirOf s) ++ [baseOf s] ∧ 2 ≤ (partsL s).length ∧ str (joinL (comps (dirOf s))) = dirOf s ∧ s.data.toList = (dirOf s).data.toList ++ 47 :: (baseOf s).data.toList) := by
  unfold partsL
  by_cases h0 : s.data.toList = []
  · have hs : s = ByteArray.empty := Go.WideShapes.bytes_inj h0
    subst hs
    left
    exact ⟨rfl, by kernel_rfl, by kernel_rfl⟩
  · rw [if_neg h0]
    right
    rcases dir_base s with ⟨h1, h2, h3⟩ | ⟨h1, h2⟩
    · left
      exact ⟨by rw [comps_last h1, h3], h2⟩
    · right
      have hc := comps_snoc h2 h1
      refine ⟨hc, by rw [hc, List.length_append]; have := comps_pos (dirOf s); simp; omega, ?_, h2⟩
      rw [join_comps, str_self]

/-- l[:k] of a slice of strings -/
theorem strs_h (A : Option Addr) (L : List ByteArray) (c k : Nat) (h2 : k ≤ L.length) (h3 : L.length ≤ c) :
    ∃ A', (∀ W, (Instr.slice 34 (.slice A L.length c) none (some (.int .i64 (k : Int))) none).run Tryd.prog W = .ok (.slice A' k c) W) ∧ (L.take k).length = k ∧ ∀ w B, Strs w B A c L → Strs w B A' c (L.take k) := by
  obtain ⟨A', hr, h⟩ := cut_h 34 9 1 Tryd.underlying34 (fun _ => by kernel_rfl) A L.length c k h2 h3
  have hl : (L.take k).length = k := by simp; omega
  refine ⟨A', hr, hl, fun w B hS => ?_⟩
  have := h w B _ hS
  unfold Strs strC
  rw [hl, List.map_take]
  simpa [strC] using this

set_option maxRecDepth 100000 in
set_option maxHeartbeats 1000000 in
theorem refDir_any (s : ByteArray) (w : World) (hs : s.size ≤ 4398046511104) : Calls Tryd.prog 27 #[.string s] w (StrB w (dirOf s)) := by
  have P := refParts_any s w hs
  have hlen := partsL_len s
  have hcs := parts_cases s
  obtain ⟨N, HN⟩ : ∃ N, Hid (partsL s = N) := ⟨_, Lib.hid rfl⟩
  rw [HN.out] at P hlen hcs
  have HP := Lib.hid P
  by_cases h2 : N.length < 2
  · have hR : dirOf s = ByteArray.empty := by
      rcases hcs with h | h | h
      · exact h.2.1
      · exact h.2
      · omega
    rw [hR]
    have hi1 : (N.length : Int) < 2 := by omega
    clear hcs P hR
    go_enter Tryd.func27, Tryd.ntmps27
    go_wp2_with (go_at_call 25; ((with_reducible refine HP.out.mono ?_); rintro e w1 ⟨A, c, rfl, ho, hb⟩))
    go_ret
    exact ⟨rfl, hb⟩
  · have hR : str (joinL (N.take (N.length - 1))) = dirOf s ∧ (joinL (N.take (N.length - 1))).length ≤ 70368744177664 := by
      rcases hcs with h | h | h
      · rw [h.1] at h2; exact absurd (by simp) h2
      · rw [h.1] at h2; exact absurd (by simp) h2
      · obtain ⟨q1, q2, q3, q4⟩ := h
        have e : N.take (N.length - 1) = comps (dirOf s) := by
          rw [q1, List.length_append, List.length_singleton, Nat.add_sub_cancel, List.take_left' rfl]
        rw [e]
        refine ⟨q3, ?_⟩
        rw [join_comps]
        have := congrArg List.length q4
        rw [data_len, List.length_append] at this
        omega
    have hi1 : ¬ (N.length : Int) < 2 := by omega
    obtain ⟨D, HD⟩ : ∃ D, Hid (dirOf s = D) := ⟨_, Lib.hid rfl⟩
    rw [HD.out] at hR ⊢
    have HRR := Lib.hid hR
    have e1 : IntKind.i64.wrap ((N.length : Int) - 1) = ((N.length - 1 : Nat) : Int) := by simp [IntKind.wrap, IntKind.bits, IntKind.signed]; omega
    clear hcs P hR
    go_enter Tryd.func27, Tryd.ntmps27
    go_wp2_with (first
      | (go_at_call 25; ((with_reducible refine HP.out.mono ?_); rintro e w1 ⟨A, c, rfl, ho, hb⟩); (have hS := (Strs.own ho).2); (have hcap := hS.cap); (obtain ⟨A', hcut, htl, hA'⟩ := strs_h A N c (N.length - 1) (by omega) hcap); (have hJ := join_any _ A' (N.take (N.length - 1)) c w1 (hA' _ _ hS) (by rw [htl]; omega) HRR.out.2); rw [htl, HRR.out.1] at hJ; (have HJ := Lib.hid hJ); clear hJ hS ho hA' htl)
      | (go_at_call 38; ((with_reducible refine HJ.out.mono ?_); rintro e w2 ⟨rfl, rfl⟩)))
    go_ret
    exact ⟨rfl, hb⟩

set_option maxRecDepth 100000 in
set_option maxHeartbeats 1000000 in
theorem refBase_any (s : ByteArray) (w : World) (hs : s.size ≤ 4398046511104) : Calls Tryd.prog 29 #[.string s] w (StrB w (baseOf s)) := by
  have P := refParts_any s w hs
  have hlen := partsL_len s
  have hcs := parts_cases s
  obtain ⟨N, HN⟩ : ∃ N, Hid (partsL s = N) := ⟨_, Lib.hid rfl⟩
  rw [HN.out] at P hlen hcs
  have HP := Lib.hid P
  by_cases h2 : N.length = 0
  · have hR : baseOf s = ByteArray.empty := by
      rcases hcs with h | h | h
      · exact h.2.2
      · rw [h.1] at h2; cases h2
      · omega
    rw [hR]
    have hi1 : (N.length : Int) = 0 := by omega
    have hi2 : ((N.length : Int) == 0) = true := by rw [hi1]; rfl
    clear hcs P hR
    go_enter Tryd.func29, Tryd.ntmps29
    go_wp2_with (go_at_call 25; ((with_reducible refine HP.out.mono ?_); rintro e w1 ⟨A, c, rfl, ho, hb⟩))
    go_ret
    exact ⟨rfl, hb⟩
  · have hlt : N.length - 1 < N.length := by omega
    have hR : N[N.length - 1] = baseOf s := by
      rcases hcs with h | h | h
      · rw [h.1] at h2; exact absurd rfl h2
      · obtain ⟨q1, _⟩ := h
        subst q1
        rfl
      · obtain ⟨q1, _⟩ := h
        subst q1
        simp
    have hi1 : ¬ (N.length : Int) = 0 := by omega
    have hi2 : ((N.length : Int) == 0) = false := by rw [beq_eq_false_iff_ne]; exact hi1
    obtain ⟨D, HD⟩ : ∃ D, Hid (baseOf s = D) := ⟨_, Lib.hid rfl⟩
    rw [HD.out] at hR ⊢
    have HRR := Lib.hid hR
    have e1 : IntKind.i64.wrap ((N.length : Int) - 1) = ((N.length - 1 : Nat) : Int) := by simp [IntKind.wrap, IntKind.bits, IntKind.signed]; omega
    have e0 : (0 : Int) ≤ ((N.length - 1 : Nat) : Int) := Int.natCast_nonneg _
    have e2 : ((N.length - 1 : Nat) : Int) < (N.length : Int) := by omega
    clear hcs P hR
    go_enter Tryd.func29, Tryd.ntmps29
    go_wp2_with (go_at_call 25; ((with_reducible refine HP.out.mono ?_); rintro e w1 ⟨A, c, rfl, ho, hb⟩); (have hS := (Strs.own ho).2); (have hcap := hS.cap); (obtain ⟨ad, rfl, _, hca⟩ := hS.at_ hlt); rw [HRR.out] at hca; clear hS ho)
    go_ret
    exact ⟨rfl, hb⟩

set_option maxRecDepth 100000 in
set_option maxHeartbeats 1000000 in
/-- Strings at equal lists -/
theorem strings_same (M : Nat) (A B : Option Addr) (N : List ByteArray) (c d : Nat) (w : World) (hA : Strs w M A c N) (hB : Strs w M B d N) (hn : N.length ≤ 1152921504606846975) :
    Calls Tryd.prog 24 #[.slice A N.length c, .slice B N.length d] w fun e w' => e = .returned (.bool true) ∧ ∃ q, w' = w.drewN q := by
  have hcapa := hA.cap
  have hcapb := hB.cap
  obtain ⟨m, HM⟩ : ∃ m, Hid (N.length = m) := ⟨_, Lib.hid rfl⟩
  rw [HM.out] at hcapa hcapb hn ⊢
  go_enter Tryd.func24, Tryd.ntmps24
  go_wp2
  go_loopw [5] (fun i wr => ∃ k q : Nat, k ≤ m ∧ i = .int .i64 k ∧ wr = w.drewN q) (fun i _ => m - (intOf i).toNat)
  case atStart => exact ⟨0, 0, by omega, rfl, rfl⟩
  case round =>
    obtain ⟨k, q, hk, rfl, rfl⟩ := hrel
    have hi0 : (0 : Int) ≤ (k : Int) := Int.natCast_nonneg _
    by_cases hlt : k < m
    · have hkn : k < N.length := by rw [HM.out]; exact hlt
      obtain ⟨ad, rfl, _, hca⟩ := hA.at_ hkn
      obtain ⟨bd, rfl, _, hcb⟩ := hB.at_ hkn
      obtain ⟨s, HS⟩ : ∃ s, Hid (N[k] = s) := ⟨_, Lib.hid rfl⟩
      rw [HS.out] at hca hcb
      have hi1 : (k : Int) < (m : Int) := by omega
      have hbb : (s.toList == s.toList) = true := by simp
      go_wp2_with fail
      go_quiet (fail)
      go_wp2
      go_roundw
      case rel => exact ⟨k + 1, _, by omega, by go_num, rfl⟩
      case measure => simp [intOf]; omega
    · obtain rfl : k = m := by omega
      go_wp2_with fail
      go_ret
      exact ⟨rfl, q, rfl⟩

end Go.Proofs.YtdbikaffmpkgpaaDoor
