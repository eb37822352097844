/- append(contents, make([]byte, k)...): zeros behind a row of one's own. -/
import Derived.Test.YthhpnlobhffimaaCopy
import Derived.Lib.AppendZerosOnto
namespace Go.Proofs.Ythhpnlobhffimaa
set_option maxRecDepth 100000
open Go.RowKit
theorem zeroC (k : Nat) : Builtin.zeroCells (Value.int .u8 0).cells k = (bytC (List.replicate k 0)).toArray := by
  have h0 : (Value.int .u8 0).cells = #[Value.int .u8 0] := rfl
  rw [h0]
  unfold Builtin.zeroCells
  apply Array.ext
  · simp [bytC]
  · intro i h1 h2
    simp [bytC, enc8, Nat.mod_one]
theorem zeros_run (w : World) (base : Nat) (v : Value) (l : List UInt8) (k n : Nat) (ty : TypeId) (hown : w.ownsRow base 5 1 v n (bytC l)) (hk : 0 < k) (hs : n + k ≤ lim) (hbase : base ≤ w.heap.size) :
    ∃ v' w', (Builtin.append_ #[66, 3] ty #[v, .int .i64 (k : Int)]).run Try.prog w = .ok v' w' ∧ w'.ownsRow base 5 1 v' (n + k) (bytC (l ++ List.replicate k 0)) ∧ w.grownBy w' v.ownBlock ∧ (v'.ownBlock = v.ownBlock ∨ v'.ownBlock = some w.heap.size) := by
  unfold lim at hs
  obtain ⟨i, hi, hz, hsz, hby⟩ := info_parts info5
  have hln : l.length = n := by have := hown.1; rw [bytC_len] at this; omega
  have hlen : (bytC (l ++ List.replicate k 0)).length = (n + k) * 1 := by rw [bytC_len]; simp [hln]
  have grown : ∀ (old : Nat), old < n + k → ∀ (row : Option Nat),
      (w.drew.alloc (.cells ((bytC l).toArray ++ Builtin.zeroCells (Value.int .u8 0).cells k ++ Builtin.zeroCells (Value.int .u8 0).cells (grownCap w (n + k) old 5 - (n + k))) 5)).ownsRow base 5 1
        (.slice (some ⟨w.heap.size, 0, none⟩) (n + k) (grownCap w (n + k) old 5)) (n + k) (bytC (l ++ List.replicate k 0)) ∧
      w.grownBy (w.drew.alloc (.cells ((bytC l).toArray ++ Builtin.zeroCells (Value.int .u8 0).cells k ++ Builtin.zeroCells (Value.int .u8 0).cells (grownCap w (n + k) old 5 - (n + k))) 5)) row := by
    intro old ho row
    have hge := grownCap_ge w (n + k) old 5
    have hcm : grownCap w (n + k) old 5 ≤ maxLen := grownCap_le_maxLen w (n + k) old 5 (by unfold maxLen; omega)
    refine ⟨⟨hlen, .inr ⟨w.heap.size, _, _, rfl, hbase, heap_alloc_new w.drew _, hge, hcm, ?_, ?_⟩⟩, ⟨rfl, rfl, rfl, by simp, fun j hj _ => heap_alloc_old w.drew _ hj⟩⟩
    · rw [zeroC, zeroC]
      simp [bytC_len, hln]
      omega
    · rw [zeroC, zeroC, bytC_app]
      simp only [Array.toList_append, List.toList_toArray, ← List.append_assoc]
      rw [List.take_append_of_le_length (by simp [bytC_len, hln]), List.take_of_length_le (by simp [bytC_len, hln])]
  rcases hown.2 with ⟨rfl, rfl⟩ | ⟨g, cap, cur, rfl, hbg, hg, hnc, hcm, hcs, htake⟩
  · have hx : l = [] := List.eq_nil_of_length_eq_zero (by omega)
    subst hx
    have hr := Lib.run_append_nil_zeros (P := Try.prog) w 66 3 ty 5 i (.int .u8 0) .i64 .i64 Try.underlying66 Try.underlying3 hi hz k hk (by omega) (by omega) (by rw [hby]; omega)
    have hgr := grown 0 (by omega) (Value.ownBlock (.slice none 0 0))
    simp only [Nat.zero_add, List.nil_append] at hgr ⊢
    have e0 : (bytC []).toArray ++ Builtin.zeroCells (Value.int .u8 0).cells k = Builtin.zeroCells (Value.int .u8 0).cells k := by simp [bytC]
    rw [e0] at hgr
    exact ⟨_, _, hr, hgr.1, hgr.2, .inr rfl⟩
  · by_cases hroom : n + k ≤ cap
    · have hst := run_storeCells_at Try.prog g n 5 (bytC (List.replicate k 0)) 0 cur w hg (by rw [bytC_len]; simp; omega) (bytC_one _)
      have hll : (bytC (List.replicate k (0 : UInt8))).length = k := by rw [bytC_len]; simp
      rw [hll] at hst
      simp only [Nat.add_zero] at hst
      have hr : (Builtin.append_ #[66, 3] ty #[.slice (some ⟨g, 0, none⟩) n cap, .int .i64 (k : Int)]).run Try.prog w = .ok (.slice (some ⟨g, 0, none⟩) (n + k) cap) (w.setRow g (cur.toList.take n ++ bytC (List.replicate k 0) ++ cur.toList.drop (n + k)).toArray) := by
        have hw : IntKind.i64.wrap (k : Int) = k := by rw [IntKind.wrap_i64]; omega
        have hk0 : k ≠ 0 := by omega
        have hneg : ¬ ((k : Int) < 0) := by omega
        have h48i : ¬ (281474976710656 < (k : Int) * (i.bytes : Int)) := by rw [hby]; omega
        have hzc := zeroC k
        have hzl : (Builtin.zeroCells (Value.int .u8 0).cells k).toList = bytC (List.replicate k 0) := by rw [zeroC]
        simp [Builtin.append_, run_underlying Try.underlying66, run_underlying Try.underlying3, sizeOf, typeInfo, zeroValue, hi, hz, asInt, asIntOf, hw, hroom, hneg, h48i, hsz, hk0, Addr.add_lit, hzl, hst]
      refine ⟨_, _, hr, ⟨hlen, .inr ⟨g, cap, _, rfl, hbg, setRow_heap w g cur _ 5 _ hg, hroom, hcm, ?_, ?_⟩⟩, ⟨rfl, rfl, rfl, by simp, fun j _ hj => setRow_other w g j _ (fun e => hj (by simp [Value.ownBlock, e]))⟩, .inl rfl⟩
      · simp only [List.size_toArray, List.length_append, List.length_take, List.length_drop, Array.length_toList, hll]
        omega
      · have htn : cur.toList.take n = bytC l := by rw [← htake]; simp
        rw [htn, ← bytC_app, ← hlen]
        exact List.take_left
    · have holds : ∀ j u, (bytC l)[j]? = some u → w.cell? ((⟨g, 0, none⟩ : Addr).add j) = some u := hown.cells (g := g) rfl
      have hf := run_firstCells_some (P := Try.prog) w.drew i.size n ⟨g, 0, none⟩ n cap (bytC l) (by rw [hsz]; exact hown.1) holds
      have hr := Lib.run_append_grow_zeros (P := Try.prog) w 66 3 ty 5 i (.int .u8 0) .i64 .i64 Try.underlying66 Try.underlying3 hi hz (some ⟨g, 0, none⟩) n cap (bytC l) hf k hk (by omega) (by omega) (by omega) (by rw [hby]; omega)
        (by rw [hby]; have := nextslicecap_le (show cap < n + k by omega); omega)
      have hgr := grown cap (by omega) (Value.ownBlock (.slice (some ⟨g, 0, none⟩) n cap))
      exact ⟨_, _, hr, hgr.1, hgr.2, .inr rfl⟩
end Go.Proofs.Ythhpnlobhffimaa
