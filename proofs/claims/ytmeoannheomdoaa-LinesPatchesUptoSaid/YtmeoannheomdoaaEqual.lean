/- equalAtStart, equalAtEnd. -/
import Derived.Test.YtmeoannheomdoaaWords
namespace Go.Proofs.Ytmeoannheomdoaa
open Go.RowKit

theorem eq_of_data {a b : ByteArray} (h : a.toList = b.toList) : a = b := by
  rw [ByteArray.toList_eq, ByteArray.toList_eq] at h
  exact Go.WideShapes.bytes_inj h
theorem ne_of_data {a b : ByteArray} (h : ¬ a.toList = b.toList) : a ≠ b := fun e => h (by rw [e])

/-- It returned n, and at most has drawn. -/
def QInt (w : World) (n : Nat) (e : Ending) (w' : World) : Prop := e = .returned (.int .i64 (n : Int)) ∧ ∃ q, w' = w.drewN q
def QBool (w : World) (b : Bool) (e : Ending) (w' : World) : Prop := e = .returned (.bool b) ∧ ∃ q, w' = w.drewN q

theorem min_if (m n : Nat) : (if m < n then (m : Int) else (n : Int)) = ((min n m : Nat) : Int) := by
  split <;> omega

set_option maxRecDepth 100000 in
set_option maxHeartbeats 1000000 in
theorem start_any (A B : Option Addr) (a b : List ByteArray) (c d : Nat) (w : World) (hA : Strs w w.heap.size A c a) (hB : Strs w w.heap.size B d b) (ha : a.length ≤ maxLen) (hb : b.length ≤ maxLen) :
    Calls Try.prog 38 #[.slice A a.length c, .slice B b.length d] w (QInt w (pre a b)) := by
  unfold maxLen at ha hb
  obtain ⟨R, HR⟩ : ∃ R, Hid (pre a b = R) := ⟨_, Lib.hid rfl⟩
  rw [HR.out]
  have hmif := min_if b.length a.length
  obtain ⟨m, hm⟩ : ∃ m, min a.length b.length = m := ⟨_, rfl⟩
  rw [hm] at hmif
  have hma : m ≤ a.length := by omega
  have hmb : m ≤ b.length := by omega
  have HM : Hid (m = a.length ∨ m = b.length) := Lib.hid (by omega)
  clear hm
  go_enter Try.func38, Try.ntmps38
  go_wp2
  go_loopw [5] (fun i wr => ∃ k q : Nat, k ≤ m ∧ i = .int .i64 k ∧ wr = w.drewN q ∧ Hid (∀ j (h1 : j < a.length) (h2 : j < b.length), j < k → a[j] = b[j])) (fun i _ => m - (intOf i).toNat)
  case atStart => exact ⟨0, 0, by omega, rfl, rfl, Lib.hid (fun j _ _ hj => by omega)⟩
  case round =>
    obtain ⟨k, q, hk, rfl, rfl, HE⟩ := hrel
    have hi0 : (0 : Int) ≤ (k : Int) := Int.natCast_nonneg _
    by_cases hlt : k < m
    · obtain ⟨ad, rfl, _, hca⟩ := hA.at_ (k := k) (by omega)
      obtain ⟨bd, rfl, _, hcb⟩ := hB.at_ (k := k) (by omega)
      obtain ⟨s, HS⟩ : ∃ s, Hid (a[k]'(by omega) = s) := ⟨_, Lib.hid rfl⟩
      obtain ⟨t, HT⟩ : ∃ t, Hid (b[k]'(by omega) = t) := ⟨_, Lib.hid rfl⟩
      rw [HS.out] at hca
      rw [HT.out] at hcb
      have hi1 : (k : Int) < (m : Int) := by omega
      have hcapa := hA.cap
      have hcapb := hB.cap
      have hi2 : (k : Int) < (a.length : Int) := by omega
      have hi3 : (k : Int) < (b.length : Int) := by omega
      by_cases hst : s.toList = t.toList
      · have hbb : (s.toList == t.toList) = true := by simpa using hst
        have HST := Lib.hid hst
        clear hst
        go_wp2_with fail
        go_quiet (fail)
        go_wp2
        go_roundw
        case rel =>
          refine ⟨k + 1, _, by omega, by go_num, rfl, Lib.hid (fun j h1 h2 hj => ?_)⟩
          rcases Nat.lt_or_ge j k with h | h
          · exact HE.out j h1 h2 h
          · obtain rfl : j = k := by omega
            rw [HS.out, HT.out, eq_of_data HST.out]
        case measure => simp [intOf]; omega
      · have hbb : (s.toList == t.toList) = false := by simpa using hst
        have hR : R = k := by
          rw [← HR.out]
          exact pre_of a b k (by omega) (by omega) (fun j h1 h2 hj => HE.out j h1 h2 hj) (fun h1 h2 => by rw [HS.out, HT.out]; exact ne_of_data hst)
        have HR2 := Lib.hid hR
        clear hst hR
        go_wp2_with fail
        go_quiet (fail)
        go_wp2
        go_ret
        refine ⟨by rw [HR2.out]; rfl, ?_⟩
        rw [World.drewN_drewN]
        exact ⟨_, rfl⟩
    · obtain rfl : k = m := by omega
      have hR : R = k := by
        rw [← HR.out]
        have := HM.out
        exact pre_of a b k (by omega) (by omega) (fun j h1 h2 hj => HE.out j h1 h2 hj) (fun h1 h2 => by omega)
      have HR2 := Lib.hid hR
      clear hR
      go_wp2_with fail
      go_quiet (fail)
      go_wp2
      go_ret
      refine ⟨by rw [HR2.out]; rfl, ?_⟩
      rw [World.drewN_drewN]
      exact ⟨_, rfl⟩

set_option maxRecDepth 100000 in
set_option maxHeartbeats 1000000 in
theorem end_any (A B : Option Addr) (a b : List ByteArray) (c d : Nat) (w : World) (hA : Strs w w.heap.size A c a) (hB : Strs w w.heap.size B d b) (ha : a.length ≤ maxLen) (hb : b.length ≤ maxLen) :
    Calls Try.prog 39 #[.slice A a.length c, .slice B b.length d] w (QInt w (suf a b)) := by
  unfold maxLen at ha hb
  obtain ⟨R, HR⟩ : ∃ R, Hid (suf a b = R) := ⟨_, Lib.hid rfl⟩
  rw [HR.out]
  have hmif := min_if b.length a.length
  obtain ⟨m, hm⟩ : ∃ m, min a.length b.length = m := ⟨_, rfl⟩
  rw [hm] at hmif
  have hma : m ≤ a.length := by omega
  have hmb : m ≤ b.length := by omega
  have HM : Hid (m = a.length ∨ m = b.length) := Lib.hid (by omega)
  clear hm
  go_enter Try.func39, Try.ntmps39
  go_wp2
  go_loopw [5] (fun i wr => ∃ k q : Nat, k ≤ m ∧ i = .int .i64 k ∧ wr = w.drewN q ∧ Hid (∀ j (h1 : j < a.length) (h2 : j < b.length), j < k → a[a.length - 1 - j] = b[b.length - 1 - j])) (fun i _ => m - (intOf i).toNat)
  case atStart => exact ⟨0, 0, by omega, rfl, rfl, Lib.hid (fun j _ _ hj => by omega)⟩
  case round =>
    obtain ⟨k, q, hk, rfl, rfl, HE⟩ := hrel
    have hi0 : (0 : Int) ≤ (k : Int) := Int.natCast_nonneg _
    by_cases hlt : k < m
    · obtain ⟨ad, rfl, _, hca⟩ := hA.at_ (k := a.length - 1 - k) (by omega)
      obtain ⟨bd, rfl, _, hcb⟩ := hB.at_ (k := b.length - 1 - k) (by omega)
      obtain ⟨s, HS⟩ : ∃ s, Hid (a[a.length - 1 - k]'(by omega) = s) := ⟨_, Lib.hid rfl⟩
      obtain ⟨t, HT⟩ : ∃ t, Hid (b[b.length - 1 - k]'(by omega) = t) := ⟨_, Lib.hid rfl⟩
      rw [HS.out] at hca
      rw [HT.out] at hcb
      have hi1 : (k : Int) < (m : Int) := by omega
      have hcapa := hA.cap
      have hcapb := hB.cap
      have e1 : IntKind.i64.wrap ((a.length : Int) - 1) = (a.length : Int) - 1 := by simp [IntKind.wrap, IntKind.bits, IntKind.signed]; omega
      have e2 : IntKind.i64.wrap ((a.length : Int) - 1 - (k : Int)) = ((a.length - 1 - k : Nat) : Int) := by simp [IntKind.wrap, IntKind.bits, IntKind.signed]; omega
      have e3 : IntKind.i64.wrap ((b.length : Int) - 1) = (b.length : Int) - 1 := by simp [IntKind.wrap, IntKind.bits, IntKind.signed]; omega
      have e4 : IntKind.i64.wrap ((b.length : Int) - 1 - (k : Int)) = ((b.length - 1 - k : Nat) : Int) := by simp [IntKind.wrap, IntKind.bits, IntKind.signed]; omega
      have hi2 : ((a.length - 1 - k : Nat) : Int) < (a.length : Int) := by omega
      have hi3 : ((b.length - 1 - k : Nat) : Int) < (b.length : Int) := by omega
      have hi4 : (0 : Int) ≤ ((a.length - 1 - k : Nat) : Int) := Int.natCast_nonneg _
      have hi5 : (0 : Int) ≤ ((b.length - 1 - k : Nat) : Int) := Int.natCast_nonneg _
      by_cases hst : s.toList = t.toList
      · have hbb : (s.toList == t.toList) = true := by simpa using hst
        have HST := Lib.hid hst
        clear hst
        go_wp2_with fail
        go_quiet (fail)
        go_wp2
        go_roundw
        case rel =>
          refine ⟨k + 1, _, by omega, by go_num, rfl, Lib.hid (fun j h1 h2 hj => ?_)⟩
          rcases Nat.lt_or_ge j k with h | h
          · exact HE.out j h1 h2 h
          · obtain rfl : j = k := by omega
            rw [HS.out, HT.out, eq_of_data HST.out]
        case measure => simp [intOf]; omega
      · have hbb : (s.toList == t.toList) = false := by simpa using hst
        have hR : R = k := by
          rw [← HR.out]
          exact suf_of a b k (by omega) (by omega) (fun j h1 h2 hj => HE.out j h1 h2 hj) (fun h1 h2 => by rw [HS.out, HT.out]; exact ne_of_data hst)
        have HR2 := Lib.hid hR
        clear hst hR
        go_wp2_with fail
        go_quiet (fail)
        go_wp2
        go_ret
        refine ⟨by rw [HR2.out]; rfl, ?_⟩
        rw [World.drewN_drewN]
        exact ⟨_, rfl⟩
    · obtain rfl : k = m := by omega
      have hR : R = k := by
        rw [← HR.out]
        have := HM.out
        exact suf_of a b k (by omega) (by omega) (fun j h1 h2 hj => HE.out j h1 h2 hj) (fun h1 h2 => by omega)
      have HR2 := Lib.hid hR
      clear hR
      go_wp2_with fail
      go_quiet (fail)
      go_wp2
      go_ret
      refine ⟨by rw [HR2.out]; rfl, ?_⟩
      rw [World.drewN_drewN]
      exact ⟨_, rfl⟩

end Go.Proofs.Ytmeoannheomdoaa
