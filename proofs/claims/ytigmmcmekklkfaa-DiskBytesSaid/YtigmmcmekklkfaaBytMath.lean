/- What a crash leaves of the bytes. -/
import Derived.Test.YtigmmcmekklkfaaKit3
namespace Go.Proofs.Ytigmmcmekklkfaa
/-- each byte is an old one, a new one, or a gap's -/
structure Mixed (a : List UInt8) (off nb : Nat) (y : UInt8) (c : List UInt8) : Prop where
  ge : a.length ≤ c.length
  at_ : ∀ i, i < c.length → (i < a.length ∧ c[i]? = a[i]?) ∨ (off ≤ i ∧ i < off + nb ∧ c[i]? = some y) ∨ (a.length ≤ i ∧ c[i]? = some 0)
theorem Mixed.self (a : List UInt8) (off nb : Nat) (y : UInt8) : Mixed a off nb y a := ⟨Nat.le_refl _, fun _ hi => .inl ⟨hi, rfl⟩⟩
theorem Mixed.put {a c : List UInt8} {off nb : Nat} {y : UInt8} (h : Mixed a off nb y c) (x : Pc) (h1 : off ≤ x.1) (h2 : x.1 + x.2.length ≤ off + nb) (h3 : ∀ j, j < x.2.length → x.2[j]? = some y) : Mixed a off nb y (put c x.1 x.2) := by
  refine ⟨by rw [put_len]; have := h.ge; omega, fun i hi => ?_⟩
  rw [put_len] at hi
  have hg := h.ge
  rw [put_at]
  by_cases hlt : i < x.1
  · rw [if_pos hlt]
    by_cases hc : i < c.length
    · rw [if_pos hc]; exact h.at_ i hc
    · rw [if_neg hc, if_pos (by omega)]; exact .inr (.inr ⟨by omega, rfl⟩)
  · rw [if_neg hlt]
    by_cases hx : i < x.1 + x.2.length
    · rw [if_pos hx]; exact .inr (.inl ⟨by omega, by omega, h3 _ (by omega)⟩)
    · rw [if_neg hx]; exact h.at_ i (by omega)
theorem Mixed.lay {a : List UInt8} {off nb : Nat} {y : UInt8} (q : List Int) : ∀ (l : List Pc) (k : Nat) (c : List UInt8), Mixed a off nb y c → (∀ x ∈ l, off ≤ x.1 ∧ x.1 + x.2.length ≤ off + nb ∧ ∀ j, j < x.2.length → x.2[j]? = some y) → Mixed a off nb y (lay q k c l)
  | [], _, _, h, _ => h
  | p :: t, k, c, h, hl => by
    rw [Ytigmmcmekklkfaa.lay]
    have hp := hl p List.mem_cons_self
    have ht := fun (c' : List UInt8) (hc' : Mixed a off nb y c') => Mixed.lay q t (k + 1) c' hc' (fun x hx => hl x (List.mem_cons_of_mem _ hx))
    split
    · exact ht _ (h.put p hp.1 hp.2.1 hp.2.2)
    · exact ht _ h
/-- the law's mathematics: what the crash of a synced disk with one more write leaves -/
theorem left_mixed (a : List UInt8) (off nb : Nat) (y : UInt8) (q : List Int) :
    Mixed a off nb y (lay q 0 a (partsOf (off, List.replicate nb y))) ∧ (lay q 0 a (partsOf (off, List.replicate nb y))).length ≤ max a.length (off + nb) := by
  have hin : ∀ x ∈ partsOf (off, List.replicate nb y), off ≤ x.1 ∧ x.1 + x.2.length ≤ off + nb ∧ ∀ j, j < x.2.length → x.2[j]? = some y := fun x hx => by
    obtain ⟨h1, h2, h3, h4⟩ := partsOf_in hx
    simp only [List.length_replicate] at h1 h2 h3 h4
    refine ⟨h1, h2, fun j hj => ?_⟩
    rw [h4 j hj, List.getElem?_replicate, if_pos (by omega)]
  refine ⟨Mixed.lay q _ _ _ (Mixed.self a off nb y) hin, (lay_len q _ _ _ _ (fun x hx => ?_) (Nat.le_max_left _ _)).1⟩
  have := hin x hx
  omega
theorem put_whole (a : List UInt8) : putAll [] [(0, a)] = a := by simp [putAll, put]
end Go.Proofs.Ytigmmcmekklkfaa
