/- What more the laws call, over both histories. -/
import Derived.Test.YtiikbekboapphaaOpenL
import Derived.Test.YtiikbekboapphaaRefLine
namespace Go.Proofs.Ytiikbekboapphaa
set_option maxRecDepth 100000
open Go.RowKit
section
variable {w W : World} {p q : Nat} {cs : List Cm}
theorem Two.line_ (h : Two w W p q cs) (hs : cs.length ≤ 1000) (a b : Int) : Calls Try.prog 28 #[.pointer (some ⟨p, 0, none⟩), .int .i64 a, .int .i64 b] W (LineOut W (lineOk cs a b) (lineP cs a b)) := by obtain ⟨F, G, h1, h2, h3⟩ := h.his; exact line_any h1 hs a b
theorem Two.rline_ (h : Two w W p q cs) (hs : cs.length ≤ 1000) (a b : Int) : Calls Try.prog 29 #[.pointer (some ⟨q, 0, none⟩), .int .i64 a, .int .i64 b] W (LineOut W (lineOk cs a b) (lineP cs a b)) := by obtain ⟨F, G, h1, h2, h3⟩ := h.his; exact refLine_any h2 hs a b
theorem Two.rlog_ (h : Two w W p q cs) (hs : cs.length ≤ 1000) (a : Int) : Calls Try.prog 32 #[.pointer (some ⟨q, 0, none⟩), .int .i64 a] W (IntsOut W (logP cs a)) := by obtain ⟨F, G, h1, h2, h3⟩ := h.his; exact refLog_any h2 hs a
theorem Two.get_ (h : Two w W p q cs) (hs : cs.length ≤ 1000) (id : Int) : Calls Try.prog 20 #[.pointer (some ⟨p, 0, none⟩), .int .i64 id] W (GetOut W (getC cs id) (inR cs.length id)) := by
  obtain ⟨F, G, h1, h2, h3⟩ := h.his
  exact get_any h1 hs (fun c hc => by have := h.few c hc; omega) id
end
/-- Ints of two equal lists -/
theorem ints_two {W : World} {n c d : Nat} {A C : Option Addr} {l : List Nat} (h1 : Row W W.heap.size 1 A n c (natC l)) (h2 : Row W W.heap.size 1 C n d (natC l)) (hn : n ≤ 1000) : Calls Try.prog 30 #[.slice A n c, .slice C n d] W (QBool W true) := by
  rw [natC_int] at h1 h2
  have := ints_any h1 h2 (by omega) (by omega)
  rwa [show decide ((l.map Int.ofNat) = (l.map Int.ofNat)) = true by simp] at this
theorem logP_len (cs : List Cm) (a : Int) : (logP cs a).length ≤ cs.length := by
  unfold logP
  split
  · next h =>
    have := desc_len (rch (leads cs) a.toNat) a.toNat
    rw [inR_iff] at h
    omega
  · simp
theorem lineP_len (cs : List Cm) (a b : Int) : (lineP cs a b).length ≤ cs.length := by
  unfold lineP
  split
  · next h =>
    unfold lineOk at h
    simp only [Bool.and_eq_true, inR_iff] at h
    unfold lineR
    rw [List.length_reverse]
    have h1 := List.length_filter_le (fun k => decide (a.toNat < k)) (desc (rch (firsts cs) b.toNat) b.toNat)
    have h2 := desc_len (rch (firsts cs) b.toNat) b.toNat
    omega
  · simp
theorem numP_range (n : Nat) (a : Int) : numP n a < (n : Int) + 2 := by
  unfold numP
  split
  · omega
  · exact Int.emod_lt_of_pos _ (by omega)
end Go.Proofs.Ytiikbekboapphaa
