/- Strings: whether two lists are equal. -/
import Derived.Deep.QuietTactic
import Derived.BigQuiet
import Derived.Test.YtdbhmoadngclgaaSome
namespace Go.Proofs.Ytdbhmoadngclgaa
open Go.RowKit

def Quiet (w : World) (b : Bool) (e : Ending) (w' : World) : Prop := e = .returned (.bool b) ∧ ∃ q, w' = w.drewN q

theorem eq_of_data {a b : ByteArray} (h : a.toList = b.toList) : a = b := by
  rw [ByteArray.toList_eq, ByteArray.toList_eq] at h
  exact Go.WideShapes.bytes_inj h

set_option maxRecDepth 100000 in
set_option maxHeartbeats 1000000 in
theorem strings_any (A B : Option Addr) (L M : List ByteArray) (c d : Nat) (w : World) (hL : Strs w w.heap.size A L) (hM : Strs w w.heap.size B M) (hc : L.length ≤ c) (hd : M.length ≤ d) (h1 : L.length ≤ maxLen) (h2 : M.length ≤ maxLen) :
    Calls Try.prog 29 #[.slice A L.length c, .slice B M.length d] w (Quiet w (decide (L = M))) := by
  unfold maxLen at h1 h2
  by_cases hlen : L.length = M.length
  · obtain ⟨n, hn⟩ : ∃ n, n = L.length := ⟨_, rfl⟩
    have hm : M.length = n := by omega
    rw [hm, ← hn]
    rw [← hn] at h1 hc
    have HN := Lib.hid hn
    have HM := Lib.hid hm
    clear hlen hn hm h2
    obtain ⟨R, HR⟩ : ∃ R, Hid (decide (L = M) = R) := ⟨_, Lib.hid rfl⟩
    rw [HR.out]
    go_enter Try.func29, Try.ntmps29
    go_wp2
    go_loopw [5] (fun i wr => ∃ k q : Nat, k ≤ n ∧ i = .int .i64 k ∧ wr = w.drewN q ∧ Hid (∀ j, j < k → L[j]? = M[j]?)) (fun i _ => n - (intOf i).toNat)
    case atStart => exact ⟨0, 0, by omega, rfl, rfl, Lib.hid (fun j hj => by omega)⟩
    case round =>
      obtain ⟨k, q, hk, rfl, rfl, HE⟩ := hrel
      by_cases hlt : k < n
      · have hlt1 : k < L.length := by have := HN.out; omega
        have hlt2 : k < M.length := by have := HM.out; omega
        obtain ⟨ad, rfl, _, hca⟩ := hL k _ (List.getElem?_eq_getElem hlt1)
        obtain ⟨bd, rfl, _, hcb⟩ := hM k _ (List.getElem?_eq_getElem hlt2)
        obtain ⟨s, HS⟩ : ∃ s, Hid (L[k] = s) := ⟨_, Lib.hid rfl⟩
        obtain ⟨t, HT⟩ : ∃ t, Hid (M[k] = t) := ⟨_, Lib.hid rfl⟩
        rw [HS.out] at hca
        rw [HT.out] at hcb
        have hi0 : (0 : Int) ≤ (k : Int) := Int.natCast_nonneg _
        have hi1 : (k : Int) < (n : Int) := by omega
        by_cases hst : s.toList = t.toList
        · have hb : (s.toList == t.toList) = true := by simpa using hst
          have hb2 : (s.toList != t.toList) = false := by simp [hst]
          have HST := Lib.hid hst
          clear hst
          go_wp2_with fail
          go_quiet (fail)
          go_wp2
          go_roundw
          case rel =>
            refine ⟨k + 1, _, by omega, by go_num, rfl, Lib.hid (fun j hj => ?_)⟩
            rcases Nat.lt_or_ge j k with h | h
            · exact HE.out j h
            · obtain rfl : j = k := by omega
              rw [List.getElem?_eq_getElem hlt1, List.getElem?_eq_getElem hlt2, HS.out, HT.out, eq_of_data HST.out]
          case measure => simp [intOf]; omega
        · have hb : (s.toList == t.toList) = false := by simpa using hst
          have hb2 : (s.toList != t.toList) = true := by simp [hst]
          have hR : R = false := by
            rw [← HR.out]
            refine decide_eq_false fun e => hst ?_
            subst e
            rw [← HS.out, ← HT.out]
          have HR2 := Lib.hid hR
          clear hst hR
          go_wp2_with fail
          go_quiet (fail)
          go_wp2
          go_ret
          refine ⟨by rw [HR2.out]; rfl, ?_⟩
          rw [World.drewN_drewN]
          exact ⟨_, rfl⟩
      · obtain rfl : k = n := by omega
        have hR : R = true := by
          rw [← HR.out]
          refine decide_eq_true (List.ext_getElem? fun j => ?_)
          rcases Nat.lt_or_ge j k with h | h
          · exact HE.out j h
          · rw [List.getElem?_eq_none (by have := HN.out; omega), List.getElem?_eq_none (by have := HM.out; omega)]
        have HR2 := Lib.hid hR
        clear hR
        go_wp2
        go_ret
        exact ⟨by rw [HR2.out]; rfl, _, rfl⟩
  · have hR : decide (L = M) = false := decide_eq_false fun e => hlen (by rw [e])
    rw [hR]
    have hli : ¬ ((L.length : Int) = (M.length : Int)) := by omega
    have hlb : ((L.length : Int) == (M.length : Int)) = false := by simpa using hli
    have hlb2 : ((L.length : Int) != (M.length : Int)) = true := by simpa using hli
    clear hR
    go_enter Try.func29, Try.ntmps29
    go_wp2
    all_goals
      go_ret
      exact ⟨rfl, 0, rfl⟩

end Go.Proofs.Ytdbhmoadngclgaa
