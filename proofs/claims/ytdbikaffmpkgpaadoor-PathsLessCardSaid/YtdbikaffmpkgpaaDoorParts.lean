/- Parts. -/
import Derived.Test.YtdbikaffmpkgpaaDoorCut
namespace Go.Proofs.YtdbikaffmpkgpaaDoor
open Go.RowKit

theorem own_succ {W : World} {base : Nat} {e : TypeId} {size : Nat} {v : Value} {k : Nat} {xs : List Value} (h : W.ownsRow base e size v (k + 1) xs) : ∃ g cap, v = .slice (some ⟨g, 0, none⟩) (k + 1) cap := by
  rcases h.2 with ⟨_, h0⟩ | ⟨g, cap, _, rfl, _⟩
  · cases h0
  · exact ⟨_, _, rfl⟩
theorem segsAcc_mem : ∀ (l cur : List UInt8), ∀ x ∈ segsAcc cur l, x.length ≤ cur.length + l.length
  | [], cur, x, hx => by
    rw [segsAcc, List.mem_singleton] at hx
    subst hx; omega
  | c :: t, cur, x, hx => by
    rw [segsAcc] at hx
    rw [List.length_cons]
    split at hx
    · rcases List.mem_cons.1 hx with rfl | hx
      · omega
      · have := segsAcc_mem t [] x hx
        simp at this; omega
    · have := segsAcc_mem t _ x hx
      simp at this; omega
theorem comps_mem (s x : ByteArray) (hx : x ∈ comps s) : x.size ≤ s.size := by
  unfold comps segs at hx
  obtain ⟨y, hy, rfl⟩ := List.mem_map.1 hx
  have := segsAcc_mem _ _ y hy
  rw [str_size]
  rw [data_len] at this
  simpa using this
theorem partsL_mem (s x : ByteArray) (hx : x ∈ partsL s) : x.size ≤ s.size := by
  unfold partsL at hx
  split at hx
  · cases hx
  · exact comps_mem s x hx
theorem segsAcc_len : ∀ (l cur : List UInt8), (segsAcc cur l).length ≤ l.length + 1
  | [], _ => by simp [segsAcc]
  | c :: t, cur => by
    rw [segsAcc, List.length_cons]
    split
    · have := segsAcc_len t []
      rw [List.length_cons]; omega
    · have := segsAcc_len t (cur ++ [c])
      omega
theorem partsL_len (s : ByteArray) : (partsL s).length ≤ s.size + 1 := by
  unfold partsL comps segs
  split
  · simp
  · rw [List.length_map]
    have := segsAcc_len s.data.toList []
    rwa [data_len] at this
/-- what is still to be appended -/
def restC (a b : ByteArray) (m : Bool) : List ByteArray := if m then a :: comps b else [a]
theorem restC_of {s a b : ByteArray} {m : Bool} (h1 : 47 ∉ a.data.toList) (h2 : m = true → s.data.toList = a.data.toList ++ 47 :: b.data.toList) (h3 : m = false → a = s ∧ b = ByteArray.empty) : comps s = restC a b m := by
  cases m with
  | true => exact comps_cut (h2 rfl) h1
  | false =>
    obtain ⟨rfl, _⟩ := h3 rfl
    exact comps_last h1
def leftOf (v5 v6 : Value) : Nat := (match v5 with | .string b => b.size | _ => 0) + (match v6 with | .bool true => 1 | _ => 0)
def boolN (m : Bool) : Nat := if m then 1 else 0

set_option maxRecDepth 100000 in
set_option maxHeartbeats 2000000 in
theorem parts_any (s : ByteArray) (w : World) (hs : s.size ≤ 4398046511104) : Calls Tryd.prog 23 #[.string s] w (StrsOut w (partsL s)) := by
  obtain ⟨i9, hi, hz0, hz1, hz2⟩ := info_parts info9
  have f0 : s = ByteArray.empty ↔ s.data.toList = [] := ⟨fun e => by rw [e]; rfl, fun e => Go.WideShapes.bytes_inj e⟩
  by_cases h0 : s.data.toList = []
  · have hR : partsL s = [] := by unfold partsL; rw [if_pos h0]
    rw [hR]
    have h3 : s = ByteArray.empty := f0.2 h0
    subst h3
    clear hR f0 h0
    go_enter Tryd.func23, Tryd.ntmps23
    go_wp2
    go_ret
    exact ⟨none, 0, rfl, World.ownsRow_nil _ _ _ _, Below.refl _ _⟩
  · have hR : partsL s = comps s := by unfold partsL; rw [if_neg h0]
    rw [hR]
    have h3 : ¬ s = ByteArray.empty := fun e => h0 (f0.1 e)
    have h4 : ¬ s.toList = [] := by rw [ByteArray.toList_eq]; exact h0
    have h5 : s.toList.isEmpty = false := by rw [Bool.eq_false_iff]; intro e; exact h4 (List.isEmpty_iff.1 e)
    obtain ⟨R, HR⟩ : ∃ R, Hid (comps s = R) := ⟨_, Lib.hid rfl⟩
    rw [HR.out]
    have C := Lib.hid (fun (x : ByteArray) (W : World) (h : x.size ≤ 4398046511104) => cut_any x W (by unfold maxLen; omega))
    have C0 := Lib.hid (C.out s w hs)
    clear hR f0 h0
    go_enter Tryd.func23, Tryd.ntmps23
    go_wp2_with (go_at_call 46; ((with_reducible refine C0.out.mono ?_); rintro e w1 ⟨a, b, m, rfl, hc1, hc2, hc3, hc4, hc5, hc6, q1, rfl⟩); (have hrest := restC_of hc1 hc2 hc3); (have HC := Lib.hid hrest); (have hlen : b.size + boolN m ≤ s.size := (by cases m; exact hc5; exact hc6 rfl)); clear hrest hc1 hc2 hc3 hc4 hc5 hc6)
    go_loopw [3, 4, 5, 6] (fun v3 v4 v5 v6 wr => ∃ (L : List ByteArray) (A : Option Addr) (c : Nat) (x y : ByteArray) (k : Bool), v3 = .slice A L.length c ∧ v4 = .string x ∧ v5 = .string y ∧ v6 = .bool k ∧ L.length + y.size + boolN k ≤ s.size ∧ wr.ownsRow w.heap.size 9 1 (.slice A L.length c) L.length (strC L) ∧
        Hid (L ++ restC x y k = R) ∧ Below w.heap.size w wr) (fun _ _ v5 v6 _ => leftOf v5 v6)
    case atStart => exact ⟨[], none, 0, a, b, m, rfl, rfl, rfl, rfl, by simp; omega, World.ownsRow_nil _ _ _ _, Lib.hid (by rw [List.nil_append, ← HC.out, HR.out]), Below.drewN_ (Below.refl _ _) _⟩
    case round =>
      obtain ⟨L, A, c, x, y, k, rfl, rfl, rfl, rfl, hL, hown, HQ, hB⟩ := hrel
      cases k with
      | true =>
        have hL2 : L.length + y.size + 1 ≤ s.size := hL
        have CY := Lib.hid (fun W => C.out y W (by omega))
        have hq : (L ++ [x]) ++ comps y = R := by rw [← HQ.out]; unfold restC; simp
        have HQ2 := Lib.hid hq
        clear hq hL
        go_wp2_with (first
          | (at_builtin; refine wpList_append_own _ rfl _ _ 34 rfl w.heap.size 9 i9 (.string ⟨#[]⟩) 1 16 Tryd.underlying34 hi hz0 hz1 hz2 rfl (by decide) (.slice A L.length c) _ _ rfl (hown.alloc _) ⟨wr.heap.size, 0, none⟩ 1 1 [.string x] rfl rfl (cell_one_new _ _ _) (by simp [Value.oneCell']) (by unfold maxLen; omega) (by omega) (by have := hB.size; simp; omega) ?_; intro v' w3 hown3 hgrow3 _; obtain ⟨g', cap', rfl⟩ := own_succ hown3)
          | (go_at_call 46; ((with_reducible refine (CY.out _).mono ?_); rintro e w4 ⟨a', b', m', rfl, hc1, hc2, hc3, hc4, hc5, hc6, q2, rfl⟩); (have hrest := restC_of hc1 hc2 hc3); (have HC' := Lib.hid hrest); (have hlen' : b'.size + boolN m' ≤ y.size := (by cases m'; exact hc5; exact hc6 rfl)); clear hrest hc1 hc2 hc3 hc4 hc5 hc6))
        go_roundw
        case rel =>
          refine ⟨L ++ [x], _, cap', a', b', m', by rw [List.length_append]; rfl, rfl, rfl, rfl, by simp; omega, ?_, Lib.hid (by rw [← HC'.out]; exact HQ2.out), Below.drewN_ ((hB.alloc hB.size _).grown hgrow3 (by have := hB.size; simp; omega) (row_ge hown)) _⟩
          rw [strC_snoc, List.length_append]; exact hown3
        case measure =>
          have := hlen'
          cases m' <;> simp [leftOf, boolN] at * <;> omega
      | false =>
        have hq : L ++ [x] = R := by rw [← HQ.out]; rfl
        have HQ2 := Lib.hid hq
        have hLs : L.length ≤ s.size := by omega
        clear hq hL
        go_wp2_with (at_builtin; refine wpList_append_own _ rfl _ _ 34 rfl w.heap.size 9 i9 (.string ⟨#[]⟩) 1 16 Tryd.underlying34 hi hz0 hz1 hz2 rfl (by decide) (.slice A L.length c) _ _ rfl (hown.alloc _) ⟨wr.heap.size, 0, none⟩ 1 1 [.string x] rfl rfl (cell_one_new _ _ _) (by simp [Value.oneCell']) (by unfold maxLen; omega) (by omega) (by have := hB.size; simp; omega) ?_; intro v' w3 hown3 hgrow3 _; obtain ⟨g', cap', rfl⟩ := own_succ hown3)
        go_ret
        rw [← HQ2.out]
        refine ⟨_, cap', by rw [List.length_append]; rfl, ?_, (hB.alloc hB.size _).grown hgrow3 (by have := hB.size; simp; omega) (row_ge hown)⟩
        rw [strC_snoc, List.length_append]; exact hown3

end Go.Proofs.YtdbikaffmpkgpaaDoor
