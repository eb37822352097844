/- copyOf; repeated. -/
import Derived.Test.YthhpnlobhffimaaBasic2
namespace Go.Proofs.Ythhpnlobhffimaa
set_option maxRecDepth 100000
open Go.RowKit
theorem size5 : (Try.prog.info? 5).map (·.size) = some 1 := by kernel_rfl
/-- a new row of bytes -/
def BytesOut (w : World) (l : List UInt8) (e : Ending) (w' : World) : Prop :=
  ∃ v, e = .returned v ∧ w'.ownsRow w.heap.size 5 1 v l.length (bytC l) ∧ Below w.heap.size w w'
theorem own_bytes {w : World} {A : Option Addr} {n c base : Nat} {l : List UInt8} (h : w.ownsRow base 5 1 (.slice A n c) n (bytC l)) : l.length = n ∧ (0 < n → ∃ g, A = some ⟨g, 0, none⟩ ∧ g < w.heap.size ∧ ∀ j v, (bytC l)[j]? = some v → w.cell? ⟨g, j, none⟩ = some v) := by
  have h1 : l.length = n := by have := h.1; rw [bytC_len] at this; omega
  refine ⟨h1, fun hp => ?_⟩
  obtain ⟨g, c', e, hg, _, _⟩ := own_some h hp
  injection e with e1 e2 e3
  subst e1
  refine ⟨g, rfl, hg, fun j v hj => ?_⟩
  have hj' : j < n * 1 := by
    have := (List.getElem?_eq_some_iff.1 hj).1
    rw [bytC_len] at this
    omega
  subst e3
  exact (own_cell h hj').1.trans hj
set_option maxHeartbeats 2000000 in
theorem copy_any {w : World} {base : Nat} {v : Value} {l : List UInt8} (h : w.ownsRow base 5 1 v l.length (bytC l)) (hl : l.length ≤ lim) : Calls Try.prog 41 #[v] w (BytesOut w l) := by
  unfold BytesOut
  obtain ⟨A, c, rfl⟩ := own_form h
  have HS := Lib.hid (own_bytes h).2
  unfold lim at hl
  obtain ⟨n, hn⟩ : ∃ n, l.length = n := ⟨_, rfl⟩
  have HN := Lib.hid hn
  have MK := made_one 66 5 (.int .u8 0) 1 Try.underlying66 info5 rfl n (by omega) (by omega)
  obtain ⟨w1, hw1⟩ : ∃ w1, w.alloc (.cells (List.replicate n (Value.int .u8 0)).toArray 5) = w1 := ⟨_, rfl⟩
  have hb1 : Below w.heap.size w w1 := by rw [← hw1]; exact (Below.refl _ w).alloc (Nat.le_refl _) _
  have hF1 : w1.heap[w.heap.size]? = some (.cells (List.replicate n (Value.int .u8 0)).toArray 5 (0, 0)) := by rw [← hw1]; exact Full.new w 5 _
  have HFB := Lib.hid (show _ ∧ _ from ⟨hb1, hF1⟩)
  have MK1 := MK w
  rw [hw1] at MK1
  have HS1 := Lib.hid (show 0 < (bytC l).length → (some (⟨w.heap.size, 0, none⟩ : Addr) = some ⟨w.heap.size, 0, none⟩) ∧ ∃ ad, A = some ad ∧ ∀ j v, (bytC l)[j]? = some v → w1.cell? (ad.add j) = some v from fun hp => by
    rw [bytC_len] at hp
    obtain ⟨g, e, hg, hc⟩ := HS.out hp
    refine ⟨rfl, _, e, fun j v hj => ?_⟩
    rw [Addr.add_lit, Nat.zero_add]
    exact (hb1.cell (p := ⟨g, j, none⟩) hg).trans (hc j v hj))
  obtain ⟨cs, hcs⟩ : ∃ cs, bytC l = cs := ⟨_, rfl⟩
  have hone : ∀ v ∈ cs, v.oneCell' = true := by rw [← hcs]; exact bytC_one l
  have hcl : cs.length = n := by rw [← hcs, bytC_len, hn]
  have HCL := Lib.hid hcl
  have HONE := Lib.hid hone
  rw [hcs] at HS1 ⊢
  rw [hn] at h hl ⊢
  clear h HS hn MK hb1 hF1 hcs hw1 hone hcl
  have n0 : (0 : Int) ≤ (n : Int) := Int.natCast_nonneg _
  go_enter Try.func41, Try.ntmps41
  go_wp2_with (with_reducible refine wpList_copy_splice rfl _ _ 66 66 rfl 5 Try.underlying66 size5 _ _ _ _ _ _ rfl rfl w.heap.size 0 (List.replicate n (Value.int .u8 0)) 5 HFB.out.2 cs (by rw [HCL.out]; exact (Nat.min_self n).symm) HS1.out (by rw [HCL.out]; simp) HONE.out w.heap.size w HFB.out.1 (Nat.le_refl _) ?_; intro w2 HG2 hB2)
  go_ret
  refine ⟨_, rfl, ?_, hB2⟩
  have hg := HG2.out
  have e : splice (List.replicate n (Value.int .u8 0)) 0 cs = cs := by unfold splice; simp [HCL.out]
  rw [e] at hg
  exact own_full hg (by rw [HCL.out]; simp) (by unfold maxLen; omega) (Nat.le_refl _)
end Go.Proofs.Ythhpnlobhffimaa
