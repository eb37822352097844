/- ReadNumber, the reference's: it returns what the code's does; and the facts on the bytes of numbers. -/
import Derived.Test.YthhpnlobhffimaaCRead
import Derived.Test.YthhpnlobhffimaaCNum2
import Derived.Test.YthhpnlobhffimaaCSum
namespace Go.Proofs.Ythhpnlobhffimaa
set_option maxRecDepth 100000
open Go.RowKit

/-- the number of which bytes of at least 128 are the first groups -/
def hv : List UInt8 → Nat
  | [] => 0
  | x :: t => (x.toNat - 128) + 128 * hv t
def High (l : List UInt8) : Prop := ∀ x ∈ l, 128 ≤ x.toNat
theorem High.tail {x : UInt8} {t : List UInt8} (h : High (x :: t)) : High t := fun y hy => h y (List.mem_cons_of_mem _ hy)
theorem High.head {x : UInt8} {t : List UInt8} (h : High (x :: t)) : 128 ≤ x.toNat := h x (List.mem_cons_self)
theorem High.snoc {x : UInt8} {t : List UInt8} (h : High t) (hx : 128 ≤ x.toNat) : High (t ++ [x]) := fun y hy => by
  rcases List.mem_append.1 hy with h1 | h1
  · exact h y h1
  · obtain rfl : y = x := by simpa using h1
    exact hx
theorem hv_snoc (l : List UInt8) (x : UInt8) : hv (l ++ [x]) = hv l + (x.toNat - 128) * 128 ^ l.length := by
  induction l with
  | nil => simp [hv]
  | cons y t ih =>
    simp only [List.cons_append, hv, ih, List.length_cons, Nat.pow_succ]
    rw [Nat.mul_add, Nat.mul_comm (128 ^ t.length) 128, Nat.mul_left_comm, Nat.add_assoc]

theorem ofNat_high {m : Nat} (h : m < 128) : (UInt8.ofNat (m + 128)).toNat = m + 128 := by
  simp [Nat.mod_eq_of_lt (show m + 128 < 256 by omega)]

theorem numL_canon (b : UInt8) (hb : b.toNat < 128) : ∀ pre : List UInt8, High pre → (pre = [] ∨ b.toNat ≠ 0) → numL (hv pre + b.toNat * 128 ^ pre.length) = pre ++ [b]
  | [], _, _ => by
    simp [hv]
    rw [numL_lt hb]
    simp
  | x :: t, hh, hc => by
    have hb0 : b.toNat ≠ 0 := by
      rcases hc with h | h
      · cases h
      · exact h
    have ih := numL_canon b hb t hh.tail (.inr hb0)
    have hx := hh.head
    have hx2 := x.toNat_lt
    have hpos : 0 < 128 ^ t.length := Nat.pow_pos (by omega)
    have hq : 0 < hv t + b.toNat * 128 ^ t.length := by
      have : 1 * 1 ≤ b.toNat * 128 ^ t.length := Nat.mul_le_mul (by omega) hpos
      omega
    have he : hv (x :: t) + b.toNat * 128 ^ (x :: t).length = (x.toNat - 128) + 128 * (hv t + b.toNat * 128 ^ t.length) := by
      simp only [hv, List.length_cons, Nat.pow_succ, Nat.mul_add]
      rw [← Nat.mul_assoc, Nat.mul_comm 128 (b.toNat * _), Nat.add_assoc]
    rw [he]
    generalize hv t + b.toNat * 128 ^ t.length = q at *
    rw [numL_ge (by omega), show ((x.toNat - 128) + 128 * q) / 128 = q by omega, ih, show ((x.toNat - 128) + 128 * q) % 128 + 128 = x.toNat by omega]
    simp

theorem numL_inv (b : UInt8) (hb : b.toNat < 128) : ∀ (pre : List UInt8) (m : Nat), High pre → numL m = pre ++ [b] → m = hv pre + b.toNat * 128 ^ pre.length ∧ (pre = [] ∨ b.toNat ≠ 0)
  | [], m, _, h => by
    by_cases hm : m < 128
    · rw [numL_lt hm] at h
      have : UInt8.ofNat m = b := by simpa using h
      have : m = b.toNat := by rw [← this]; simp [Nat.mod_eq_of_lt (show m < 256 by omega)]
      exact ⟨by simp [hv, this], .inl rfl⟩
    · rw [numL_ge hm] at h
      have h2 : UInt8.ofNat (m % 128 + 128) = b := (List.cons.inj h).1
      have := congrArg UInt8.toNat h2
      rw [ofNat_high (Nat.mod_lt _ (by omega))] at this
      omega
  | x :: t, m, hh, h => by
    by_cases hm : m < 128
    · rw [numL_lt hm] at h
      simp at h
    · rw [numL_ge hm] at h
      obtain ⟨h1, h2⟩ := List.cons.inj h
      have h3 := congrArg UInt8.toNat h1
      rw [ofNat_high (Nat.mod_lt _ (by omega))] at h3
      obtain ⟨h4, h5⟩ := numL_inv b hb t (m / 128) hh.tail h2
      have hb0 : b.toNat ≠ 0 := by
        rcases h5 with rfl | h5
        · intro h0
          rw [h0] at h4
          simp [hv] at h4
          omega
        · exact h5
      refine ⟨?_, .inr hb0⟩
      have he : hv (x :: t) + b.toNat * 128 ^ (x :: t).length = (x.toNat - 128) + 128 * (hv t + b.toNat * 128 ^ t.length) := by
        simp only [hv, List.length_cons, Nat.pow_succ, Nat.mul_add]
        rw [← Nat.mul_assoc, Nat.mul_comm 128 (b.toNat * _), Nat.add_assoc]
      rw [he, ← h4]
      omega

theorem last_fits {A b k : Nat} (hA : A < 128 ^ k) (hk : k < 10) (hb : b < 128) (h : lastB b k = true) : A + b * 128 ^ k < 18446744073709551616 := by
  unfold lastB at h
  rw [decide_eq_true_iff] at h
  have h2 : (128 : Nat) ^ 9 = 9223372036854775808 := rfl
  rcases Nat.lt_or_ge k 9 with h9 | h9
  · have h1 : 128 ^ (k + 1) ≤ 128 ^ 9 := Nat.pow_le_pow_right (by omega) (by omega)
    have := pow_grow hA (c := b) (by omega)
    omega
  · obtain rfl : k = 9 := by omega
    have h1 : b * 128 ^ 9 ≤ 1 * 128 ^ 9 := Nat.mul_le_mul_right _ (by omega)
    omega

/-- What ReadNumber asks of a last byte is just that the bytes are those of a number. -/
theorem numL_last {pre : List UInt8} {b : UInt8} (hp : High pre) (hk : pre.length < 10) (hA : hv pre < 128 ^ pre.length) (hb : b.toNat < 128) :
    numL ((hv pre + b.toNat * 128 ^ pre.length) % 18446744073709551616) = pre ++ [b] ↔ lastB b.toNat pre.length = true := by
  constructor
  · intro h
    obtain ⟨h1, h2⟩ := numL_inv b hb pre _ hp h
    unfold lastB
    rw [decide_eq_true_iff]
    rcases h2 with rfl | h2
    · exact .inl rfl
    · refine .inr ⟨by omega, ?_⟩
      rcases Nat.lt_or_ge pre.length 9 with h9 | h9
      · exact .inl (by omega)
      · refine .inr ?_
        have e9 : pre.length = 9 := by omega
        rw [e9] at h1
        have h3 : (128 : Nat) ^ 9 = 9223372036854775808 := rfl
        rw [h3] at h1
        omega
  · intro h
    rw [Nat.mod_eq_of_lt (last_fits hA hk hb h)]
    refine numL_canon b hb pre hp ?_
    unfold lastB at h
    rw [decide_eq_true_iff] at h
    rcases h with h | h
    · exact .inl (List.eq_nil_of_length_eq_zero (by omega))
    · exact .inr (by omega)

theorem hv_lt : ∀ pre : List UInt8, hv pre < 128 ^ pre.length
  | [] => by simp [hv]
  | x :: t => by
    have := hv_lt t
    have hx := x.toNat_lt
    simp only [hv, List.length_cons, Nat.pow_succ]
    generalize 128 ^ t.length = P at *
    omega

end Go.Proofs.Ythhpnlobhffimaa
