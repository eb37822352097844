/- What Unpack returns, as a function on lists of bytes; and the facts on ReadNumber that it needs. -/
import Derived.Test.YthhpnlobhffimaaCRead3
namespace Go.Proofs.Ythhpnlobhffimaa
set_option maxRecDepth 100000
open Go.RowKit

/-- ReadNumber's three ways. -/
theorem rdFrom_cases : ∀ (l : List UInt8) (i acc : Nat), acc < 128 ^ i → i ≤ 10 →
    (rdFrom l i acc = (0, 0, 20) ∨ rdFrom l i acc = (0, 0, 22)) ∨
    (∃ v n, rdFrom l i acc = (v, n, 0) ∧ i < n ∧ n ≤ i + l.length ∧ n ≤ 10 ∧ v < 18446744073709551616)
  | [], i, acc, _, hi => by
    by_cases h : 10 ≤ i
    · exact .inl (.inr (by rw [rdFrom, if_pos h]))
    · exact .inl (.inl (by rw [rdFrom, if_neg h]))
  | b :: t, i, acc, ha, hi => by
    by_cases h : 10 ≤ i
    · exact .inl (.inr (by rw [rdFrom, if_pos h]))
    · have hb2 := b.toNat_lt
      by_cases hb : 128 ≤ b.toNat
      · rw [rdFrom_more (by omega) hb]
        rcases rdFrom_cases t (i + 1) _ (pow_grow ha (c := b.toNat - 128) (by omega)) (by omega) with h1 | ⟨v, n, h1, h2, h3, h4, h5⟩
        · exact .inl h1
        · exact .inr ⟨v, n, h1, by omega, by simp; omega, h4, h5⟩
      · by_cases hl : lastB b.toNat i = true
        · rw [rdFrom_last (by omega) hb hl]
          exact .inr ⟨_, _, rfl, by omega, by simp, by omega, last_fits ha (by omega) (by omega) hl⟩
        · rw [rdFrom_bad (by omega) hb (by simpa using hl)]
          exact .inl (.inr rfl)
theorem rd_cases (l : List UInt8) : (rd l = (0, 0, 20) ∨ rd l = (0, 0, 22)) ∨ (∃ v n, rd l = (v, n, 0) ∧ 0 < n ∧ n ≤ l.length ∧ n ≤ 10 ∧ v < 18446744073709551616) := by
  rcases rdFrom_cases l 0 0 (by omega) (by omega) with h | ⟨v, n, h1, h2, h3, h4, h5⟩
  · exact .inl h
  · exact .inr ⟨v, n, h1, h2, by omega, h4, h5⟩
theorem rd_size (l : List UInt8) : (rd l).2.1 ≤ l.length := by
  rcases rd_cases l with (h | h) | ⟨v, n, h, _, h3, _⟩ <;> rw [h]
  · simp
  · simp
  · exact h3
theorem rd_lt (l : List UInt8) : (rd l).1 < 18446744073709551616 := by
  rcases rd_cases l with (h | h) | ⟨v, n, h, _, h3, _, h5⟩ <;> rw [h]
  · simp
  · simp
  · exact h5
theorem rd_err (l : List UInt8) : (rd l).2.2 ≤ 22 := by
  rcases rd_cases l with (h | h) | ⟨v, n, h, _⟩ <;> rw [h] <;> simp

theorem rdFrom_pre (l : List UInt8) : ∀ (pre : List UInt8) (i acc : Nat), High pre → i + pre.length ≤ 10 → rdFrom (pre ++ l) i acc = rdFrom l (i + pre.length) (acc + hv pre * 128 ^ i)
  | [], i, acc, _, _ => by simp [hv]
  | x :: t, i, acc, hh, hi => by
    have hl : (x :: t).length = t.length + 1 := rfl
    rw [List.cons_append, rdFrom_more (by omega) hh.head, rdFrom_pre l t _ _ hh.tail (by omega)]
    congr 1
    · omega
    · simp only [hv, Nat.pow_succ, Nat.add_mul]
      rw [Nat.mul_comm 128 (hv t), Nat.mul_assoc, Nat.mul_comm 128 (128 ^ i), Nat.add_assoc]
theorem numL_split (m : Nat) : ∃ pre b, numL m = pre ++ [b] ∧ High pre ∧ b.toNat < 128 := by
  induction m using Nat.strongRecOn with
  | ind m ih =>
    by_cases h : m < 128
    · exact ⟨[], UInt8.ofNat m, by rw [numL_lt h]; rfl, fun x hx => by simp at hx, by simp [Nat.mod_eq_of_lt (show m < 256 by omega)]; exact h⟩
    · obtain ⟨pre, b, h1, h2, h3⟩ := ih (m / 128) (by omega)
      refine ⟨UInt8.ofNat (m % 128 + 128) :: pre, b, by rw [numL_ge h, h1]; rfl, fun x hx => ?_, h3⟩
      rcases List.mem_cons.1 hx with rfl | hx
      · rw [ofNat_high (Nat.mod_lt _ (by omega))]; omega
      · exact h2 x hx

/-- ReadNumber reads what Number returned, whatever follows. -/
theorem rd_numL {m : Nat} (hm : m < 18446744073709551616) (t : List UInt8) : rd (numL m ++ t) = (m, (numL m).length, 0) := by
  obtain ⟨pre, b, h1, h2, h3⟩ := numL_split m
  obtain ⟨h4, h5⟩ := numL_inv b h3 pre m h2 h1
  have h6 := numL_ten hm
  have h7 : (numL m).length = pre.length + 1 := by rw [h1]; simp
  have h8 := (numL_last h2 (by omega) (hv_lt pre) h3).1 (by rw [← h4, Nat.mod_eq_of_lt hm, h1])
  unfold rd
  rw [h7, h1, List.append_assoc, rdFrom_pre _ pre 0 0 h2 (by omega), List.singleton_append, rdFrom_last (by omega) (by omega) (by rwa [Nat.zero_add])]
  rw [Nat.zero_add, Nat.zero_add, Nat.pow_zero, Nat.mul_one, ← h4]

end Go.Proofs.Ythhpnlobhffimaa
