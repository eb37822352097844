/- Parts. -/
import Derived.Test.YthnlldojidocoaaDoorCut
namespace Go.Proofs.YthnlldojidocoaaDoor
open Go.RowKit

theorem own_succ {W : World} {base : Nat} {e : TypeId} {size : Nat} {v : Value} {k : Nat} {xs : List Value} (h : W.ownsRow base e size v (k + 1) xs) : ∃ g cap, v = .slice (some ⟨g, 0, none⟩) (k + 1) cap := by
  rcases h.2 with ⟨_, h0⟩ | ⟨g, cap, _, rfl, _⟩
  · cases h0
  · exact ⟨_, _, rfl⟩
theorem segsAcc_mem : ∀ (l cur : List UInt8), ∀ x ∈ segsAcc cur l, x.length ≤ cur.length + l.length
  | [], cur, x, hx => by
    rw [segsAcc, List.mem_singleton] at hx
    subst hx; omega
  | c :: t, cur, x, hx => by
    rw [segsAcc] at hx
    rw [List.length_cons]
    split at hx
    · rcases List.mem_cons.1 hx with rfl | hx
      · omega
      · have := segsAcc_mem t [] x hx
        simp at this; omega
    · have := segsAcc_mem t _ x hx
      simp at this; omega
theorem comps_mem (s x : ByteArray) (hx : x ∈ comps s) : x.size ≤ s.size := by
  unfold comps segs at hx
  obtain ⟨y, hy, rfl⟩ := List.mem_map.1 hx
  have := segsAcc_mem _ _ y hy
  rw [str_size]
  rw [data_len] at this
  simpa using this
theorem partsL_mem (s x : ByteArray) (hx : x ∈ partsL s) : x.size ≤ s.size := by
  unfold partsL at hx
  split at hx
  · cases hx
  · exact comps_mem s x hx
theorem segsAcc_len : ∀ (l cur : List UInt8), (segsAcc cur l).length ≤ l.length + 1
  | [], _ => by simp [segsAcc]
  | c :: t, cur => by
    rw [segsAcc, List.length_cons]
    split
    · have := segsAcc_len t []
      rw [List.length_cons]; omega
    · have := segsAcc_len t (cur ++ [c])
      omega
theorem partsL_len (s : ByteArray) : (partsL s).length ≤ s.size + 1 := by
  unfold partsL comps segs
  split
  · simp
  · rw [List.length_map]
    have := segsAcc_len s.data.toList []
    rwa [data_len] at this
/-- what is still to be appended -/
def restC (a b : ByteArray) (m : Bool) : List ByteArray := if m then a :: comps b else [a]
theorem restC_of {s a b : ByteArray} {m : Bool} (h1 : 47 ∉ a.data.toList) (h2 : m = true → s.data.toList = a.data.toList ++ 47 :: b.data.toList) (h3 : m = false → a = s ∧ b = ByteArray.empty) : comps s = restC a b m := by
  cases m with
  | true => exact comps_cut (h2 rfl) h1
  | false =>
    obtain ⟨rfl, _⟩ := h3 rfl
    exact comps_last h1
def leftOf (v5 v6 : Value) : Nat := (match v5 with | .string b => b.size | _ => 0) + (match v6 with | .bool true => 1 | _ => 0)
def boolN (m : Bool) : Nat := if m then 1 else 0


end Go.Proofs.YthnlldojidocoaaDoor
