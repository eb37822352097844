/- isName, hasNeighbouringStars, isPatternComponent, Valid, ValidPattern, Parts. -/
import Derived.Test.YtdbikaffmpkgpaaDoorCut
namespace Go.Proofs.YtdbikaffmpkgpaaDoor
open Go.RowKit

set_option maxRecDepth 100000 in
set_option maxHeartbeats 1000000 in
theorem within43 (perm : ByteArray → Bool) (s : ByteArray) (w : World) (hT : Tab w) (hs : s.size ≤ maxLen)
    (hp : ∀ (x : ByteArray) (W : World), Tab W → x.size ≤ 200 → Calls Tryd.prog 43 #[.string x] W fun e w' => e = .returned (.bool (perm x)) ∧ W = w') :
    Calls Tryd.prog 39 #[.string s, .func (.func 43) #[] #[]] w fun e w' => e = .returned (.bool (within perm s)) ∧ ∃ q, w' = w.drewN q := by
  have HP := Lib.hid hp
  unfold maxLen at hs
  clear hp
  by_cases h200 : s.size ≤ 200
  · obtain ⟨R, HR⟩ : ∃ R, Hid (within perm s = R) := ⟨_, Lib.hid rfl⟩
    rw [HR.out]
    have hR := HR.out
    unfold within at hR
    rw [decide_eq_true h200, Bool.true_and] at hR
    have HR2 := Lib.hid hR
    have hi1 : ¬ (200 : Int) < (s.size : Int) := by omega
    clear hR
    go_enter Tryd.func39, Tryd.ntmps39
    go_wp2
    go_loopw [5, 13] (fun v5 v13 wr => ∃ (i : Nat) (x : ByteArray) (q : Nat), i ≤ 20 ∧ v13 = .int .i64 i ∧ v5 = .string x ∧ x.size ≤ 200 ∧ wr = w.drewN q ∧ Hid ((decide ((comps x).length + i ≤ 20) && (comps x).all perm) = R)) (fun _ v13 _ => 20 - (intOf v13).toNat)
    case atStart => exact ⟨0, s, 0, by omega, rfl, rfl, h200, rfl, HR2⟩
    case round =>
      obtain ⟨i, x, q, hi, rfl, rfl, hx, rfl, HI⟩ := hrel
      have hi0 : (0 : Int) ≤ (i : Int) := Int.natCast_nonneg _
      by_cases hlt : i < 20
      · have hi2 : (i : Int) < 20 := by omega
        have C := Lib.hid (cut_any x (w.drewN q) (by unfold maxLen; omega))
        have HP1 : ∀ a : ByteArray, a.size ≤ x.size → ∀ p, perm a = p → Hid (∀ q1, Calls Tryd.prog 43 #[.string a] (w.drewN (q + q1)) fun e w' => e = .returned (.bool p) ∧ w.drewN (q + q1) = w') := fun a ha p hp =>
          Lib.hid (fun q1 => by rw [← hp]; exact HP.out a (w.drewN (q + q1)) hT (by omega))
        have HP2 := Lib.hid HP1
        clear HP1
        go_wp2_with (go_at_call 46; ((with_reducible refine C.out.mono ?_); rintro e w1 ⟨a, b, m, rfl, hc1, hc2, hc3, hc4, hc5, hc6, q1, rfl⟩); (have HC := Lib.hid (And.intro hc1 (And.intro hc2 (And.intro hc3 (And.intro hc5 hc6))))); (obtain ⟨p, hp⟩ : ∃ p, perm a = p := ⟨_, rfl⟩); (have HC1 := HP2.out a hc4 p hp); (have HPA := Lib.hid hp); clear hc1 hc2 hc3 hc5 hc6 hp hc4; cases p <;> cases m)
        · have hR : R = false := by
            obtain ⟨h1, h2, h3, _⟩ := HC.out
            rw [← HI.out, Bool.and_eq_false_iff]
            right
            rw [List.all_eq_false]
            refine ⟨a, ?_, by rw [HPA.out]; simp⟩
            first
              | rw [comps_cut (h2 (by trivial)) h1]; exact List.mem_cons_self
              | rw [comps_last (by rw [← (h3 (by trivial)).1]; exact h1), (h3 (by trivial)).1]; exact List.mem_cons_self
          have HR3 := Lib.hid hR
          clear hR
          with_reducible refine (HC1.out q1).mono ?_
          rintro e w2 ⟨rfl, rfl⟩
          go_simp
          go_wp2_with fail
          go_ret
          exact ⟨by rw [HR3.out]; rfl, q + q1, rfl⟩
        · have hR : R = false := by
            obtain ⟨h1, h2, h3, _⟩ := HC.out
            rw [← HI.out, Bool.and_eq_false_iff]
            right
            rw [List.all_eq_false]
            refine ⟨a, ?_, by rw [HPA.out]; simp⟩
            first
              | rw [comps_cut (h2 (by trivial)) h1]; exact List.mem_cons_self
              | rw [comps_last (by rw [← (h3 (by trivial)).1]; exact h1), (h3 (by trivial)).1]; exact List.mem_cons_self
          have HR3 := Lib.hid hR
          clear hR
          with_reducible refine (HC1.out q1).mono ?_
          rintro e w2 ⟨rfl, rfl⟩
          go_simp
          go_wp2_with fail
          go_ret
          exact ⟨by rw [HR3.out]; rfl, q + q1, rfl⟩
        · have hR : R = true := by
            obtain ⟨h1, h2, h3, _⟩ := HC.out
            have hax := (h3 (by trivial)).1
            subst hax
            rw [← HI.out, comps_last h1, List.all_cons, HPA.out, decide_eq_true (by simp; omega)]
            rfl
          have HR3 := Lib.hid hR
          clear hR
          with_reducible refine (HC1.out q1).mono ?_
          rintro e w2 ⟨rfl, rfl⟩
          go_simp
          go_wp2_with fail
          go_ret
          exact ⟨by rw [HR3.out]; rfl, q + q1, rfl⟩
        · have hI2 : (decide ((comps b).length + (i + 1) ≤ 20) && (comps b).all perm) = R ∧ b.size ≤ 200 := by
            obtain ⟨h1, h2, h3, h4, h5⟩ := HC.out
            refine ⟨?_, by omega⟩
            rw [← HI.out, comps_cut (h2 (by trivial)) h1, List.all_cons, HPA.out, Bool.true_and, List.length_cons]
            congr 2
            simp; omega
          have HI2 := Lib.hid hI2
          clear hI2
          with_reducible refine (HC1.out q1).mono ?_
          rintro e w2 ⟨rfl, rfl⟩
          go_simp
          go_wp2_with fail
          go_roundw
          case rel => exact ⟨i + 1, b, q + q1, by omega, by go_num, rfl, HI2.out.2, rfl, Lib.hid HI2.out.1⟩
          case measure => simp [intOf]; omega
      · obtain rfl : i = 20 := by omega
        have hR : R = false := by
          rw [← HI.out]
          have := comps_pos x
          rw [decide_eq_false (by omega)]; rfl
        have HR3 := Lib.hid hR
        clear hR
        go_wp2_with fail
        go_ret
        exact ⟨by rw [HR3.out]; rfl, q, rfl⟩
  · have hR : within perm s = false := by unfold within; rw [decide_eq_false h200]; rfl
    rw [hR]
    have hi1 : (200 : Int) < (s.size : Int) := by omega
    go_enter Tryd.func39, Tryd.ntmps39
    go_wp2
    go_ret
    exact ⟨rfl, 0, rfl⟩


set_option maxRecDepth 100000 in
theorem isName_any (s : ByteArray) (w : World) (hT : Tab w) (hs : s.size ≤ 200) : Calls Tryd.prog 40 #[.string s] w fun e w' => e = .returned (.bool (isName s)) ∧ w = w' := by
  have C := Lib.hid (show Calls Tryd.prog 51 #[.string s, .int .u8 2] w fun e w' => e = .returned (.bool (consists s 2)) ∧ w = w' from consistsOf_any s 2 w hT (by omega) (by unfold maxLen; omega))
  unfold isName
  go_enter Tryd.func40, Tryd.ntmps40
  go_wp2_with (go_at_call 51; ((with_reducible refine C.out.mono ?_); rintro e w1 ⟨rfl, rfl⟩))
  go_ret
  exact ⟨rfl, rfl⟩

theorem neigh_of (l : List UInt8) : neigh l = true ↔ ∃ k, ∃ h : k + 1 < l.length, l[k] = 42 ∧ l[k + 1] = 42 := by
  induction l with
  | nil => simp [neigh]
  | cons a t ih =>
    cases t with
    | nil => simp [neigh]
    | cons b t =>
      rw [neigh, Bool.or_eq_true, ih]
      constructor
      · rintro (h | ⟨k, hk, h1, h2⟩)
        · rw [Bool.and_eq_true, beq_iff_eq, beq_iff_eq] at h
          exact ⟨0, by simp, h.1, h.2⟩
        · exact ⟨k + 1, by simpa using hk, by simpa using h1, by simpa using h2⟩
      · rintro ⟨k, hk, h1, h2⟩
        cases k with
        | zero => left; rw [Bool.and_eq_true, beq_iff_eq, beq_iff_eq]; exact ⟨h1, h2⟩
        | succ k => right; exact ⟨k, by simpa using hk, by simpa using h1, by simpa using h2⟩

set_option maxRecDepth 100000 in
set_option maxHeartbeats 1000000 in
theorem neigh_any (s : ByteArray) (w : World) (hs : s.size ≤ 200) : Calls Tryd.prog 53 #[.string s] w fun e w' => e = .returned (.bool (neigh s.data.toList)) ∧ w = w' := by
  obtain ⟨R, HR⟩ : ∃ R, Hid (neigh s.data.toList = R) := ⟨_, Lib.hid rfl⟩
  rw [HR.out]
  go_enter Tryd.func53, Tryd.ntmps53
  go_wp2
  go_loop [3] (fun v3 => ∃ k : Nat, k ≤ s.size ∧ v3 = .int .i64 ((k : Int) + 1) ∧ Hid (∀ j (h : j + 1 < s.size), j < k → ¬ (s[j] = 42 ∧ s[j + 1] = 42))) (fun v3 => s.size + 1 - (intOf v3).toNat)
  case atStart => exact ⟨0, by omega, rfl, Lib.hid (fun j _ hj => by omega)⟩
  case round =>
    obtain ⟨k, hk, rfl, HK⟩ := hrel
    have hi0 : (0 : Int) ≤ (k : Int) := Int.natCast_nonneg _
    by_cases hlt : k + 1 < s.size
    · have hi1 : (k : Int) + 1 < (s.size : Int) := by omega
      have hi2 : (k : Int) < (s.size : Int) := by omega
      have hi3 : (0 : Int) ≤ (k : Int) + 1 := by omega
      have hk1 : k < s.size := by omega
      have ew : IntKind.i64.wrap ((k : Int) + 1 - 1) = (k : Int) := by simp [IntKind.wrap, IntKind.bits, IntKind.signed]; omega
      have ew2 : IntKind.i64.wrap ((k : Int) + 1 + 1) = (k : Int) + 1 + 1 := by simp [IntKind.wrap, IntKind.bits, IntKind.signed]; omega
      have et : ((k : Int) + 1).toNat = k + 1 := by omega
      by_cases ha : s[k] = 42
      · have a1 : s[k].toNat = 42 := by rw [ha]; rfl
        have a2 : ((s[k].toNat : Int) == 42) = true := by rw [a1]; rfl
        by_cases hb : s[k + 1] = 42
        · have b1 : s[k + 1].toNat = 42 := by rw [hb]; rfl
          have b2 : ((s[k + 1].toNat : Int) == 42) = true := by rw [b1]; rfl
          have hR : R = true := by
            rw [← HR.out, neigh_of]
            exact ⟨k, by simpa using hlt, ha, hb⟩
          have HR2 := Lib.hid hR
          clear ha hb hR
          go_wp2
          go_ret
          exact ⟨by rw [HR2.out]; rfl, rfl⟩
        · have b1 : ¬ s[k + 1].toNat = 42 := fun e => hb (UInt8.toNat_inj.1 e)
          have b2 : ((s[k + 1].toNat : Int) == 42) = false := by rw [beq_eq_false_iff_ne]; omega
          have H := Lib.hid hb
          clear ha hb
          go_wp2
          go_round
          case rel =>
            refine ⟨k + 1, by omega, by go_num, Lib.hid (fun j h hj => ?_)⟩
            rcases Nat.lt_or_ge j k with h' | h'
            · exact HK.out j h h'
            · obtain rfl : j = k := by omega
              exact fun h => H.out h.2
          case measure => simp [intOf]; omega
      · have a1 : ¬ s[k].toNat = 42 := fun e => ha (UInt8.toNat_inj.1 e)
        have a2 : ((s[k].toNat : Int) == 42) = false := by rw [beq_eq_false_iff_ne]; omega
        have H := Lib.hid ha
        clear ha
        go_wp2
        go_round
        case rel =>
          refine ⟨k + 1, by omega, by go_num, Lib.hid (fun j h hj => ?_)⟩
          rcases Nat.lt_or_ge j k with h' | h'
          · exact HK.out j h h'
          · obtain rfl : j = k := by omega
            exact fun h => H.out h.1
        case measure => simp [intOf]; omega
    · have hi1 : ¬ (k : Int) + 1 < (s.size : Int) := by omega
      have hR : R = false := by
        rw [← HR.out, Bool.eq_false_iff]
        intro h
        obtain ⟨j, hj, h1, h2⟩ := (neigh_of _).1 h
        rw [data_len] at hj
        exact HK.out j hj (by omega) ⟨h1, h2⟩
      have HR2 := Lib.hid hR
      clear hR
      go_wp2
      go_ret
      exact ⟨by rw [HR2.out]; rfl, rfl⟩

set_option maxRecDepth 100000 in
set_option maxHeartbeats 1000000 in
theorem isComp_any (s : ByteArray) (w : World) (hT : Tab w) (hs : s.size ≤ 200) : Calls Tryd.prog 43 #[.string s] w fun e w' => e = .returned (.bool (isComp s)) ∧ w = w' := by
  have C := Lib.hid (show Calls Tryd.prog 51 #[.string s, .int .u8 1] w fun e w' => e = .returned (.bool (consists s 1)) ∧ w = w' from consistsOf_any s 1 w hT (by omega) (by unfold maxLen; omega))
  have N := Lib.hid (neigh_any s w hs)
  obtain ⟨R, HR⟩ : ∃ R, Hid (isComp s = R) := ⟨_, Lib.hid rfl⟩
  rw [HR.out]
  have hR := HR.out
  unfold isComp at hR
  have b := beq_lit s [42, 42]
  obtain ⟨d, hd⟩ : ∃ d, decide (s.data.toList = [42, 42]) = d := ⟨_, rfl⟩
  obtain ⟨c, hc⟩ : ∃ c, consists s 1 = c := ⟨_, rfl⟩
  obtain ⟨n, hn⟩ : ∃ n, neigh s.data.toList = n := ⟨_, rfl⟩
  rw [hd] at hR b
  rw [hc] at hR C
  rw [hn] at hR N
  have HR2 := Lib.hid hR
  clear hd hc hn hR
  go_enter Tryd.func43, Tryd.ntmps43
  cases d
  · cases c
    · go_wp2_with (go_at_call 51; ((with_reducible refine C.out.mono ?_); rintro e w1 ⟨rfl, rfl⟩))
      go_ret
      exact ⟨by rw [← HR2.out]; rfl, rfl⟩
    · go_wp2_with (first
        | (go_at_call 51; ((with_reducible refine C.out.mono ?_); rintro e w1 ⟨rfl, rfl⟩))
        | (go_at_call 53; ((with_reducible refine N.out.mono ?_); rintro e w1 ⟨rfl, rfl⟩)))
      go_ret
      exact ⟨by rw [← HR2.out]; cases n <;> rfl, rfl⟩
  · go_wp2
    go_ret
    exact ⟨by rw [← HR2.out]; rfl, rfl⟩

def validS (s : ByteArray) : Bool := within isName s
def patS (s : ByteArray) : Bool := within isComp s

set_option maxRecDepth 100000 in
theorem valid_any (s : ByteArray) (w : World) (hT : Tab w) (hs : s.size ≤ maxLen) : Calls Tryd.prog 16 #[.string s] w fun e w' => e = .returned (.bool (validS s)) ∧ ∃ q, w' = w.drewN q := by
  have C := Lib.hid (within40 isName s w hT hs isName_any)
  unfold validS
  go_enter Tryd.func16, Tryd.ntmps16
  go_wp2_with (go_at_call 39; ((with_reducible refine C.out.mono ?_); rintro e w1 ⟨rfl, q, rfl⟩))
  go_ret
  exact ⟨rfl, q, rfl⟩
set_option maxRecDepth 100000 in
theorem pat_any (s : ByteArray) (w : World) (hT : Tab w) (hs : s.size ≤ maxLen) : Calls Tryd.prog 21 #[.string s] w fun e w' => e = .returned (.bool (patS s)) ∧ ∃ q, w' = w.drewN q := by
  have C := Lib.hid (within43 isComp s w hT hs isComp_any)
  unfold patS
  go_enter Tryd.func21, Tryd.ntmps21
  go_wp2_with (go_at_call 39; ((with_reducible refine C.out.mono ?_); rintro e w1 ⟨rfl, q, rfl⟩))
  go_ret
  exact ⟨rfl, q, rfl⟩

end Go.Proofs.YtdbikaffmpkgpaaDoor
