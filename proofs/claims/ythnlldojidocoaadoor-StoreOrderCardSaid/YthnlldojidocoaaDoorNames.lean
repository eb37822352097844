/- Bytes' classes, names and components of patterns: the code's and the reference's. -/
import Derived.Test.YthnlldojidocoaaDoorBase
namespace Go.Proofs.YthnlldojidocoaaDoor
open Go.RowKit

/-- the class of a byte -/
def cls (b : UInt8) : Nat := (classes.getD b.toNat 0).toNat
def consists (s : ByteArray) (n : Nat) : Bool := s.data.toList.all (fun b => decide (n ≤ cls b)) && !(decide (s.data.toList = []) || decide (s.data.toList = [46]) || decide (s.data.toList = [46, 46]))
def neigh : List UInt8 → Bool
  | a :: b :: t => (a == 42 && b == 42) || neigh (b :: t)
  | _ => false
def isName (s : ByteArray) : Bool := consists s 2
def isComp (s : ByteArray) : Bool := decide (s.data.toList = [42, 42]) || (consists s 1 && !neigh s.data.toList)

theorem classes_len : classes.length = 128 := by kernel_rfl
theorem cls_hi {b : UInt8} (h : ¬ b.toNat < 128) : cls b = 0 := by
  unfold cls
  rw [List.getD_eq_getElem?_getD, List.getElem?_eq_none (by rw [classes_len]; omega)]
  rfl
theorem cls_lo {b : UInt8} (h : b.toNat < 128) : classes.getD b.toNat 0 = (cls b : Int) ∧ cls b < 3 := by
  have h1 : ∀ i, i < 128 → 0 ≤ classes.getD i 0 ∧ classes.getD i 0 < 3 := by decide +kernel
  have := h1 _ h
  unfold cls
  omega

set_option maxRecDepth 100000 in
theorem classOf_any (b : UInt8) (w : World) (hT : Tab w) : Calls Tryd.prog 54 #[.int .u8 (b.toNat : Int)] w fun e w' => e = .returned (.int .u8 (cls b : Int)) ∧ w = w' := by
  have hb := b.toNat_lt
  obtain ⟨n, hn⟩ : ∃ n, b.toNat = n := ⟨_, rfl⟩
  by_cases h : b.toNat < 128
  · have hc := hT.2 _ h
    have h1 := (cls_lo h).1
    rw [h1] at hc
    rw [hn] at hc h hb ⊢
    have hi0 : (0 : Int) ≤ (n : Int) := Int.natCast_nonneg _
    have hi1 : (n : Int) < 128 := by omega
    have ew : IntKind.i64.wrap (n : Int) = (n : Int) := by simp [IntKind.wrap, IntKind.bits, IntKind.signed]; omega
    have HN := Lib.hid hn
    clear hn h1
    go_enter Tryd.func54, Tryd.ntmps54
    go_wp2
    go_ret
    exact ⟨rfl, rfl⟩
  · have h1 := cls_hi h
    rw [hn] at h hb ⊢
    rw [h1]
    have hi1 : ¬ (n : Int) < 128 := by omega
    have ew : IntKind.i64.wrap (n : Int) = (n : Int) := by simp [IntKind.wrap, IntKind.bits, IntKind.signed]; omega
    have HN := Lib.hid hn
    clear hn h1
    go_enter Tryd.func54, Tryd.ntmps54
    go_wp2
    go_ret
    exact ⟨rfl, rfl⟩

theorem data_at (s : ByteArray) (k : Nat) (h : k < s.size) : s.data.toList[k]'(by simpa using h) = s[k] := rfl
/-- what '==' on strings asks -/
theorem beq_lit (a : ByteArray) (l : List UInt8) : (a.toList == l) = decide (a.data.toList = l) := by
  rw [ByteArray.toList_eq]
  by_cases h : a.data.toList = l
  · rw [h]; simp
  · rw [decide_eq_false h]; simpa using h
theorem beq_str (a b : ByteArray) : (a.toList == b.toList) = decide (a.data.toList = b.data.toList) := by
  rw [ByteArray.toList_eq b, beq_lit]

set_option maxRecDepth 100000 in
set_option maxHeartbeats 1000000 in
theorem consistsOf_any (s : ByteArray) (n : Nat) (w : World) (hT : Tab w) (hn1 : n ≤ 2) (hs : s.size ≤ maxLen) : Calls Tryd.prog 53 #[.string s, .int .u8 (n : Int)] w fun e w' => e = .returned (.bool (consists s n)) ∧ w = w' := by
  unfold maxLen at hs
  obtain ⟨R, HR⟩ : ∃ R, Hid (consists s n = R) := ⟨_, Lib.hid rfl⟩
  rw [HR.out]
  have C := Lib.hid (fun b => classOf_any b w hT)
  go_enter Tryd.func53, Tryd.ntmps53
  go_wp2
  go_loop [8] (fun v8 => ∃ k : Nat, k ≤ s.size ∧ v8 = .int .i64 k ∧ Hid (∀ j (h : j < s.size), j < k → n ≤ cls s[j])) (fun v8 => s.size - (intOf v8).toNat)
  case atStart => exact ⟨0, by omega, rfl, Lib.hid (fun j _ hj => by omega)⟩
  case round =>
    obtain ⟨k, hk, rfl, HK⟩ := hrel
    have hi0 : (0 : Int) ≤ (k : Int) := Int.natCast_nonneg _
    by_cases hlt : k < s.size
    · have hi1 : (k : Int) < (s.size : Int) := by omega
      obtain ⟨b, HB⟩ : ∃ b, Hid (s[k] = b) := ⟨_, Lib.hid rfl⟩
      have hb := HB.out
      obtain ⟨c, HC⟩ : ∃ c, Hid (cls b = c) := ⟨_, Lib.hid rfl⟩
      have hc := C.out b
      rw [HC.out, ← hb] at hc
      have hC := Lib.hid hc
      clear hc hb
      by_cases hcn : c < n
      · have hi2 : (c : Int) < (n : Int) := by omega
        have hR : R = false := by
          rw [← HR.out]
          unfold consists
          rw [Bool.and_eq_false_iff]
          left
          rw [List.all_eq_false]
          refine ⟨s[k], by rw [← data_at s k hlt]; exact List.getElem_mem _, ?_⟩
          rw [HB.out]
          simp only [decide_eq_true_eq]
          rw [HC.out]; omega
        have HR2 := Lib.hid hR
        clear hR
        go_wp2_with (go_at_call 54; ((with_reducible refine hC.out.mono ?_); rintro e w1 ⟨rfl, rfl⟩))
        go_ret
        exact ⟨by rw [HR2.out]; rfl, rfl⟩
      · have hi2 : ¬ (c : Int) < (n : Int) := by omega
        go_wp2_with (go_at_call 54; ((with_reducible refine hC.out.mono ?_); rintro e w1 ⟨rfl, rfl⟩))
        go_round
        case rel =>
          refine ⟨k + 1, by omega, by go_num, Lib.hid (fun j h hj => ?_)⟩
          rcases Nat.lt_or_ge j k with h' | h'
          · exact HK.out j h h'
          · obtain rfl : j = k := by omega
            rw [HB.out, HC.out]; omega
        case measure => simp [intOf]; omega
    · obtain rfl : k = s.size := by omega
      have hall : s.data.toList.all (fun b => decide (n ≤ cls b)) = true := by
        rw [List.all_eq_true]
        intro x hx
        obtain ⟨j, hj, rfl⟩ := List.getElem_of_mem hx
        rw [decide_eq_true_eq]
        exact HK.out j (by simpa using hj) (by simpa using hj)
      have hR := HR.out
      unfold consists at hR
      rw [hall, Bool.true_and] at hR
      have b1 := beq_lit s [46]
      have b2 := beq_lit s [46, 46]
      have f0 : s = ByteArray.empty ↔ s.data.toList = [] := ⟨fun e => by rw [e]; rfl, fun e => Go.WideShapes.bytes_inj e⟩
      clear hall
      by_cases h0 : s.data.toList = []
      · have hR2 : R = false := by rw [← hR, decide_eq_true h0]; rfl
        have HR2 := Lib.hid hR2
        have h3 : s = ByteArray.empty := f0.2 h0
        subst h3
        clear hR hR2 b1 b2 f0 h0
        go_wp2
        go_ret
        exact ⟨by rw [HR2.out]; rfl, rfl⟩
      · have h3 : ¬ s = ByteArray.empty := fun e => h0 (f0.1 e)
        have h4 : ¬ s.toList = [] := by rw [ByteArray.toList_eq]; exact h0
        have h5 : s.toList.isEmpty = false := by rw [Bool.eq_false_iff]; intro e; exact h4 (List.isEmpty_iff.1 e)
        rw [decide_eq_false h0] at hR
        by_cases h1 : s.data.toList = [46]
        · have hR2 : R = false := by rw [← hR, decide_eq_true h1]; rfl
          have HR2 := Lib.hid hR2
          rw [decide_eq_true h1] at b1
          clear hR f0 h0 h1 b2 hR2
          go_wp2
          go_ret
          exact ⟨by rw [HR2.out]; rfl, rfl⟩
        · rw [decide_eq_false h1] at hR b1
          by_cases h2 : s.data.toList = [46, 46]
          · rw [decide_eq_true h2] at hR b2
            have HR2 := Lib.hid hR
            clear hR f0 h0 h1 h2
            go_wp2
            go_ret
            exact ⟨by rw [← HR2.out]; rfl, rfl⟩
          · rw [decide_eq_false h2] at hR b2
            have HR2 := Lib.hid hR
            clear hR f0 h0 h1 h2
            go_wp2
            go_ret
            exact ⟨by rw [← HR2.out]; rfl, rfl⟩

end Go.Proofs.YthnlldojidocoaaDoor
