/- What HistoryGrows asks: the answers of a history while other blocks are left alone. -/
import Derived.Test.YtiikbekboapphaaAppMath
namespace Go.Proofs.Ytiikbekboapphaa
set_option maxRecDepth 100000
open Go.RowKit
section
variable {w W0 W : World} {p : Nat} {cs : List Cm} {K : Nat → Prop}
theorem HK.good (h : HK w W0 W p cs K) : Good cs := by obtain ⟨F, h1, h2⟩ := h.his; exact h1.good
end
theorem Two.hk {w W : World} {p q : Nat} {cs : List Cm} (h : Two w W p q cs) : HK w W W p cs (fun _ => False) := by
  obtain ⟨F, G, h1, _⟩ := h.his
  exact HK.start h.below h1
theorem good_ps {cs : List Cm} (hg : Good cs) : ∀ c ∈ cs, c.ps.length ≤ 2 := by
  intro c hc
  obtain ⟨i, hi⟩ := List.getElem?_of_mem hc
  rcases Nat.eq_zero_or_pos i with rfl | h0
  · rw [hg.root c hi]; simp
  · exact (canBe_len (hg.rest i c hi h0)).2
/-- the history has grown by ds -/
structure Grown (w W0 W : World) (p : Nat) (cs : List Cm) (K : Nat → Prop) (k : Nat) (ds : List Cm) : Prop where
  hk : HK w W0 W p (cs ++ ds) K
  len : ds.length = k
  few : ∀ d ∈ cs ++ ds, d.ch.length ≤ 1
theorem Grown.on {w W0 W W' : World} {p k : Nat} {cs ds : List Cm} {K : Nat → Prop} (h : Grown w W0 W p cs K k ds) (hb : Below W.heap.size W W') : Grown w W0 W' p cs K k ds := ⟨h.hk.on hb, h.len, h.few⟩
theorem Grown.many_ {w W0 W : World} {p k m : Nat} {cs ds : List Cm} {K : Nat → Prop} (h : Grown w W0 W p cs K k ds) (hm : cs.length + k = m) : Calls Try.prog 23 #[.pointer (some ⟨p, 0, none⟩)] W fun e w' => e = .returned (.int .i64 (m : Int)) ∧ W = w' := by
  have := h.hk.many_
  rwa [List.length_append, h.len, hm] at this
theorem Grown.add {w W0 W : World} {p k : Nat} {cs ds : List Cm} {K : Nat → Prop} (h : Grown w W0 W p cs K k ds) (hs : cs.length + k ≤ 900) {c : Cm} {d1 d2 : Nat} {A1 A2 : Option Addr} (hc : canBe (cs.length + k) c.ps = true) (hf : c.ch.length ≤ 1)
    (r1 : Row W W.heap.size 1 A1 c.ps.length d1 (intC c.ps)) (r2 : Row W W.heap.size 1 A2 c.ch.length d2 (intC c.ch)) :
    Calls Try.prog 16 #[.pointer (some ⟨p, 0, none⟩), .agg #[.slice A1 c.ps.length d1, .int .i64 c.tree, .string c.au, .slice A2 c.ch.length d2, .bool c.em]] W fun e W' => e = .returned (.tuple #[.int .i64 ((cs.length + k : Nat) + 1 : Int), .int .i64 0]) ∧ Grown w W0 W' p cs K (k + 1) (ds ++ [c]) := by
  have hl : (cs ++ ds).length = cs.length + k := by rw [List.length_append, h.len]
  have hp := canBe_len hc
  refine (h.hk.add (by omega) r1 r2 (by omega) (by omega)).mono ?_
  rintro e W' (⟨_, rfl, hk⟩ | ⟨k1, _⟩)
  · rw [hl]
    refine ⟨rfl, ⟨by rw [← List.append_assoc]; exact hk, by rw [List.length_append, h.len]; rfl, fun d hd => ?_⟩⟩
    rw [← List.append_assoc] at hd
    rcases List.mem_append.1 hd with hd | hd
    · exact h.few d hd
    · have : d = c := by simpa using hd
      rw [this]; exact hf
  · rw [hl] at k1; rw [show canBe (cs.length + k) c.ps = true from hc] at k1; cases k1
end Go.Proofs.Ytiikbekboapphaa
