/- Components: cut, withinLimits, Valid, ValidPattern, Parts. -/
import Derived.Test.YthnlldojidocoaaDoorNames
namespace Go.Proofs.YthnlldojidocoaaDoor
open Go.RowKit

/-- the components of a text, behind the bytes of the one that is not yet complete -/
def segsAcc (cur : List UInt8) : List UInt8 → List (List UInt8)
  | [] => [cur]
  | c :: t => if c = 47 then cur :: segsAcc [] t else segsAcc (cur ++ [c]) t
def segs (l : List UInt8) : List (List UInt8) := segsAcc [] l
theorem segsAcc_cut {a b : List UInt8} : ∀ {cur : List UInt8}, 47 ∉ a → segsAcc cur (a ++ 47 :: b) = (cur ++ a) :: segs b := by
  induction a with
  | nil => intro cur _; simp [segsAcc, segs]
  | cons c t ih =>
    intro cur h
    have h1 : ¬ c = 47 := fun e => h (by simp [e])
    have h2 : 47 ∉ t := fun e => h (by simp [e])
    rw [List.cons_append, segsAcc, if_neg h1, ih h2, List.append_assoc]; rfl
theorem segsAcc_last {a : List UInt8} : ∀ {cur : List UInt8}, 47 ∉ a → segsAcc cur a = [cur ++ a] := by
  induction a with
  | nil => intro cur _; simp [segsAcc]
  | cons c t ih =>
    intro cur h
    have h1 : ¬ c = 47 := fun e => h (by simp [e])
    have h2 : 47 ∉ t := fun e => h (by simp [e])
    rw [segsAcc, if_neg h1, ih h2, List.append_assoc]; rfl
theorem segs_pos (l : List UInt8) : 1 ≤ (segs l).length := by
  suffices ∀ cur, 1 ≤ (segsAcc cur l).length from this []
  induction l with
  | nil => intro cur; simp [segsAcc]
  | cons c t ih => intro cur; rw [segsAcc]; split <;> simp [ih]
/-- the components as strings -/
def comps (s : ByteArray) : List ByteArray := (segs s.data.toList).map str
def partsL (s : ByteArray) : List ByteArray := if s.data.toList = [] then [] else comps s
theorem str_self (s : ByteArray) : str s.data.toList = s := (str_eq rfl).symm
theorem comps_cut {s a b : ByteArray} (h : s.data.toList = a.data.toList ++ 47 :: b.data.toList) (h1 : 47 ∉ a.data.toList) : comps s = a :: comps b := by
  unfold comps segs
  rw [h, segsAcc_cut h1, List.nil_append, List.map_cons, str_self]
  rfl
theorem comps_last {s : ByteArray} (h1 : 47 ∉ s.data.toList) : comps s = [s] := by
  unfold comps segs
  rw [segsAcc_last h1, List.nil_append, List.map_cons, str_self, List.map_nil]
theorem comps_pos (s : ByteArray) : 1 ≤ (comps s).length := by
  unfold comps
  rw [List.length_map]
  exact segs_pos _

/-- what cut returns -/
def CutOut (w : World) (s : ByteArray) (e : Ending) (w' : World) : Prop :=
  ∃ (a b : ByteArray) (m : Bool), e = .returned (.tuple #[.string a, .string b, .bool m]) ∧ 47 ∉ a.data.toList ∧ (m = true → s.data.toList = a.data.toList ++ 47 :: b.data.toList) ∧ (m = false → a = s ∧ b = ByteArray.empty) ∧ a.size ≤ s.size ∧ b.size ≤ s.size ∧ (m = true → b.size < s.size) ∧ ∃ q, w' = w.drewN q

theorem take_free {s : ByteArray} {k : Nat} (hk : k ≤ s.size) (h : ∀ j (h : j < s.size), j < k → s[j] ≠ 47) : 47 ∉ (s.extract 0 k).data.toList := by
  rw [Lib.extract_data]
  intro hm
  obtain ⟨j, hj, he⟩ := List.getElem_of_mem hm
  simp only [List.getElem_take, List.getElem_drop] at he
  rw [List.length_take, List.length_drop] at hj
  exact h (0 + j) (by omega) (by omega) he
theorem cut_there {s : ByteArray} {k : Nat} (hk : k < s.size) (h : s[k] = 47) : s.data.toList = (s.extract 0 k).data.toList ++ 47 :: (s.extract (k + 1) s.size).data.toList := by
  rw [Lib.extract_data, Lib.extract_data]
  have h1 := drop_at s k hk
  rw [h] at h1
  rw [List.drop_zero, Nat.sub_zero, List.take_of_length_le (by simp : (s.data.toList.drop (k + 1)).length ≤ s.size - (k + 1)), ← h1, List.take_append_drop]

set_option maxRecDepth 100000 in
set_option maxHeartbeats 1000000 in
theorem cut_any (s : ByteArray) (w : World) (hs : s.size ≤ maxLen) : Calls Tryd.prog 52 #[.string s] w (CutOut w s) := by
  unfold maxLen at hs
  go_enter Tryd.func52, Tryd.ntmps52
  go_wp2
  go_loop [8] (fun v8 => ∃ k : Nat, k ≤ s.size ∧ v8 = .int .i64 k ∧ Hid (∀ j (h : j < s.size), j < k → s[j] ≠ 47)) (fun v8 => s.size - (intOf v8).toNat)
  case atStart => exact ⟨0, by omega, rfl, Lib.hid (fun j _ hj => by omega)⟩
  case round =>
    obtain ⟨k, hk, rfl, HK⟩ := hrel
    have hi0 : (0 : Int) ≤ (k : Int) := Int.natCast_nonneg _
    by_cases hlt : k < s.size
    · have hi1 : (k : Int) < (s.size : Int) := by omega
      have hi2 : (k : Int) ≤ (s.size : Int) := by omega
      have hi3 : (k : Int) + 1 ≤ (s.size : Int) := by omega
      have ew : IntKind.i64.wrap ((k : Int) + 1) = (k : Int) + 1 := by simp [IntKind.wrap, IntKind.bits, IntKind.signed]; omega
      by_cases h47 : s[k] = 47
      · have hcb : ((s[k].toNat : Int) == 47) = true := by rw [h47]; rfl
        have hcn : s[k].toNat = 47 := by rw [h47]; rfl
        have h1 := take_free (s := s) (k := k) (by omega) HK.out
        have h2 := cut_there hlt h47
        have h3 : (s.extract 0 k).size ≤ s.size := by rw [ByteArray.size_extract]; omega
        have h4 : (s.extract (k + 1) s.size).size < s.size := by simp; omega
        have H := Lib.hid (And.intro h1 (And.intro h2 (And.intro h3 h4)))
        clear h1 h2 h3 h4 h47
        go_wp2_with fail
        go_quiet (fail)
        go_wp2
        go_ret3
        obtain ⟨h1, h2, h3, h4⟩ := H.out
        exact ⟨_, _, true, rfl, h1, fun _ => h2, fun h => (by cases h), h3, Nat.le_of_lt h4, fun _ => h4, _, rfl⟩
      · have hcn : ¬ s[k].toNat = 47 := fun e => h47 (UInt8.toNat_inj.1 e)
        have hcb : ((s[k].toNat : Int) == 47) = false := by rw [beq_eq_false_iff_ne]; omega
        have H := Lib.hid h47
        clear h47
        go_wp2_with fail
        go_round
        case rel =>
          refine ⟨k + 1, by omega, by go_num, Lib.hid (fun j h hj => ?_)⟩
          rcases Nat.lt_or_ge j k with h' | h'
          · exact HK.out j h h'
          · obtain rfl : j = k := by omega
            exact H.out
        case measure => simp [intOf]; omega
    · obtain rfl : k = s.size := by omega
      have h1 : 47 ∉ s.data.toList := by
        intro hm
        obtain ⟨j, hj, he⟩ := List.getElem_of_mem hm
        exact HK.out j (by simpa using hj) (by simpa using hj) he
      have H := Lib.hid h1
      clear h1
      go_wp2_with fail
      go_ret3
      exact ⟨s, ByteArray.empty, false, rfl, H.out, fun h => (by cases h), fun _ => ⟨rfl, rfl⟩, Nat.le_refl _, Nat.zero_le _, fun h => (by cases h), 0, rfl⟩

/-- within the limits, and each component permitted -/
def within (perm : ByteArray → Bool) (s : ByteArray) : Bool := decide (s.size ≤ 200) && (decide ((comps s).length ≤ 20) && (comps s).all perm)

set_option maxRecDepth 100000 in
set_option maxHeartbeats 1000000 in
theorem within40 (perm : ByteArray → Bool) (s : ByteArray) (w : World) (hT : Tab w) (hs : s.size ≤ maxLen)
    (hp : ∀ (x : ByteArray) (W : World), Tab W → x.size ≤ 200 → Calls Tryd.prog 49 #[.string x] W fun e w' => e = .returned (.bool (perm x)) ∧ W = w') :
    Calls Tryd.prog 48 #[.string s, .func (.func 49) #[] #[]] w fun e w' => e = .returned (.bool (within perm s)) ∧ ∃ q, w' = w.drewN q := by
  have HP := Lib.hid hp
  unfold maxLen at hs
  clear hp
  by_cases h200 : s.size ≤ 200
  · obtain ⟨R, HR⟩ : ∃ R, Hid (within perm s = R) := ⟨_, Lib.hid rfl⟩
    rw [HR.out]
    have hR := HR.out
    unfold within at hR
    rw [decide_eq_true h200, Bool.true_and] at hR
    have HR2 := Lib.hid hR
    have hi1 : ¬ (200 : Int) < (s.size : Int) := by omega
    clear hR
    go_enter Tryd.func48, Tryd.ntmps48
    go_wp2
    go_loopw [5, 13] (fun v5 v13 wr => ∃ (i : Nat) (x : ByteArray) (q : Nat), i ≤ 20 ∧ v13 = .int .i64 i ∧ v5 = .string x ∧ x.size ≤ 200 ∧ wr = w.drewN q ∧ Hid ((decide ((comps x).length + i ≤ 20) && (comps x).all perm) = R)) (fun _ v13 _ => 20 - (intOf v13).toNat)
    case atStart => exact ⟨0, s, 0, by omega, rfl, rfl, h200, rfl, HR2⟩
    case round =>
      obtain ⟨i, x, q, hi, rfl, rfl, hx, rfl, HI⟩ := hrel
      have hi0 : (0 : Int) ≤ (i : Int) := Int.natCast_nonneg _
      by_cases hlt : i < 20
      · have hi2 : (i : Int) < 20 := by omega
        have C := Lib.hid (cut_any x (w.drewN q) (by unfold maxLen; omega))
        have HP1 : ∀ a : ByteArray, a.size ≤ x.size → ∀ p, perm a = p → Hid (∀ q1, Calls Tryd.prog 49 #[.string a] (w.drewN (q + q1)) fun e w' => e = .returned (.bool p) ∧ w.drewN (q + q1) = w') := fun a ha p hp =>
          Lib.hid (fun q1 => by rw [← hp]; exact HP.out a (w.drewN (q + q1)) hT (by omega))
        have HP2 := Lib.hid HP1
        clear HP1
        go_wp2_with (go_at_call 52; ((with_reducible refine C.out.mono ?_); rintro e w1 ⟨a, b, m, rfl, hc1, hc2, hc3, hc4, hc5, hc6, q1, rfl⟩); (have HC := Lib.hid (And.intro hc1 (And.intro hc2 (And.intro hc3 (And.intro hc5 hc6))))); (obtain ⟨p, hp⟩ : ∃ p, perm a = p := ⟨_, rfl⟩); (have HC1 := HP2.out a hc4 p hp); (have HPA := Lib.hid hp); clear hc1 hc2 hc3 hc5 hc6 hp hc4; cases p <;> cases m)
        · have hR : R = false := by
            obtain ⟨h1, h2, h3, _⟩ := HC.out
            rw [← HI.out, Bool.and_eq_false_iff]
            right
            rw [List.all_eq_false]
            refine ⟨a, ?_, by rw [HPA.out]; simp⟩
            first
              | rw [comps_cut (h2 (by trivial)) h1]; exact List.mem_cons_self
              | rw [comps_last (by rw [← (h3 (by trivial)).1]; exact h1), (h3 (by trivial)).1]; exact List.mem_cons_self
          have HR3 := Lib.hid hR
          clear hR
          with_reducible refine (HC1.out q1).mono ?_
          rintro e w2 ⟨rfl, rfl⟩
          go_simp
          go_wp2_with fail
          go_ret
          exact ⟨by rw [HR3.out]; rfl, q + q1, rfl⟩
        · have hR : R = false := by
            obtain ⟨h1, h2, h3, _⟩ := HC.out
            rw [← HI.out, Bool.and_eq_false_iff]
            right
            rw [List.all_eq_false]
            refine ⟨a, ?_, by rw [HPA.out]; simp⟩
            first
              | rw [comps_cut (h2 (by trivial)) h1]; exact List.mem_cons_self
              | rw [comps_last (by rw [← (h3 (by trivial)).1]; exact h1), (h3 (by trivial)).1]; exact List.mem_cons_self
          have HR3 := Lib.hid hR
          clear hR
          with_reducible refine (HC1.out q1).mono ?_
          rintro e w2 ⟨rfl, rfl⟩
          go_simp
          go_wp2_with fail
          go_ret
          exact ⟨by rw [HR3.out]; rfl, q + q1, rfl⟩
        · have hR : R = true := by
            obtain ⟨h1, h2, h3, _⟩ := HC.out
            have hax := (h3 (by trivial)).1
            subst hax
            rw [← HI.out, comps_last h1, List.all_cons, HPA.out, decide_eq_true (by simp; omega)]
            rfl
          have HR3 := Lib.hid hR
          clear hR
          with_reducible refine (HC1.out q1).mono ?_
          rintro e w2 ⟨rfl, rfl⟩
          go_simp
          go_wp2_with fail
          go_ret
          exact ⟨by rw [HR3.out]; rfl, q + q1, rfl⟩
        · have hI2 : (decide ((comps b).length + (i + 1) ≤ 20) && (comps b).all perm) = R ∧ b.size ≤ 200 := by
            obtain ⟨h1, h2, h3, h4, h5⟩ := HC.out
            refine ⟨?_, by omega⟩
            rw [← HI.out, comps_cut (h2 (by trivial)) h1, List.all_cons, HPA.out, Bool.true_and, List.length_cons]
            congr 2
            simp; omega
          have HI2 := Lib.hid hI2
          clear hI2
          with_reducible refine (HC1.out q1).mono ?_
          rintro e w2 ⟨rfl, rfl⟩
          go_simp
          go_wp2_with fail
          go_roundw
          case rel => exact ⟨i + 1, b, q + q1, by omega, by go_num, rfl, HI2.out.2, rfl, Lib.hid HI2.out.1⟩
          case measure => simp [intOf]; omega
      · obtain rfl : i = 20 := by omega
        have hR : R = false := by
          rw [← HI.out]
          have := comps_pos x
          rw [decide_eq_false (by omega)]; rfl
        have HR3 := Lib.hid hR
        clear hR
        go_wp2_with fail
        go_ret
        exact ⟨by rw [HR3.out]; rfl, q, rfl⟩
  · have hR : within perm s = false := by unfold within; rw [decide_eq_false h200]; rfl
    rw [hR]
    have hi1 : (200 : Int) < (s.size : Int) := by omega
    go_enter Tryd.func48, Tryd.ntmps48
    go_wp2
    go_ret
    exact ⟨rfl, 0, rfl⟩

end Go.Proofs.YthnlldojidocoaaDoor
