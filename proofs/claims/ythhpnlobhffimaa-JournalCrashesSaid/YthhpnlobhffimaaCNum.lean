/- The groups of a number, and appendNumber: the iterator's contract, and the loop over it. -/
import Derived.RangeFuncNested
import Derived.RangeFuncBound
import Derived.RangeFuncBox
import Derived.RangeFuncCalls
import Derived.RangeFuncLeaves
import Derived.Shelf.Abstract
import Derived.Shelf.RegionOpen
import Derived.WalkKit
import Derived.OwnWalkIn
import Derived.TacticsInMore
import Derived.LoopNIn
import Derived.LoopIn
import Derived.Maps.AppendAt
import Derived.Test.YthhpnlobhffimaaCPure
namespace Go.Proofs.Ythhpnlobhffimaa
set_option maxRecDepth 100000
open Go.RowKit Go.Shelf
attribute [local go_sem] Oper.semAt_some

/-- a group, and whether another one follows it -/
abbrev Item := { p : Nat × Bool // p.1 < 128 }
def items (n : Nat) : List Item :=
  if h : n < 128 then [⟨(n, false), h⟩] else ⟨(n % 128, true), Nat.mod_lt _ (by omega)⟩ :: items (n / 128)
termination_by n
decreasing_by omega
def outNat (x : Item) : Nat := if x.1.2 then x.1.1 + 128 else x.1.1
/-- the bytes of a number -/
def numL (n : Nat) : List UInt8 :=
  if n < 128 then [UInt8.ofNat n] else UInt8.ofNat (n % 128 + 128) :: numL (n / 128)
termination_by n
decreasing_by omega
theorem items_lt {n : Nat} (h : n < 128) : items n = [⟨(n, false), h⟩] := by rw [items, dif_pos h]
theorem items_ge {n : Nat} (h : ¬ n < 128) : items n = ⟨(n % 128, true), Nat.mod_lt _ (by omega)⟩ :: items (n / 128) := by rw [items, dif_neg h]
theorem numL_lt {n : Nat} (h : n < 128) : numL n = [UInt8.ofNat n] := by rw [numL, if_pos h]
theorem numL_ge {n : Nat} (h : ¬ n < 128) : numL n = UInt8.ofNat (n % 128 + 128) :: numL (n / 128) := by rw [numL, if_neg h]
theorem items_ne (n : Nat) : 0 < (items n).length := by
  by_cases h : n < 128
  · rw [items_lt h]; simp
  · rw [items_ge h]; simp
theorem items_len (k : Nat) : ∀ n : Nat, n < 128 ^ (k + 1) → (items n).length ≤ k + 1 := by
  induction k with
  | zero => intro n h; rw [items_lt (by simpa using h)]; simp
  | succ k ih =>
    intro n h
    by_cases hl : n < 128
    · rw [items_lt hl]; simp
    · rw [items_ge hl]
      have : n / 128 < 128 ^ (k + 1) := by
        rw [Nat.div_lt_iff_lt_mul (by omega)]
        rwa [Nat.pow_succ] at h
      have := ih _ this
      simp; omega
theorem items_ten {n : Nat} (h : n < 18446744073709551616) : (items n).length ≤ 10 := items_len 9 n (by omega)
theorem items_numL (n : Nat) : (items n).map outNat = (numL n).map UInt8.toNat := by
  induction n using Nat.strongRecOn with
  | ind n ih =>
    by_cases h : n < 128
    · rw [items_lt h, numL_lt h]; simp [outNat, Nat.mod_eq_of_lt (show n < 256 by omega)]
    · rw [items_ge h, numL_ge h, List.map_cons, List.map_cons, ih _ (by omega)]
      have : n % 128 < 128 := Nat.mod_lt _ (by omega)
      simp [outNat, Nat.mod_eq_of_lt (show n % 128 + 128 < 256 by omega)]
theorem numL_len (n : Nat) : (numL n).length = (items n).length := by
  have := congrArg List.length (items_numL n)
  simpa using this.symm
theorem numL_ten {n : Nat} (h : n < 18446744073709551616) : (numL n).length ≤ 10 := by rw [numL_len]; exact items_ten h
theorem numL_pos (n : Nat) : 0 < (numL n).length := by rw [numL_len]; exact items_ne n

abbrev Item.encs (x : Item) : Array Value := #[.int .u8 (x.1.1 : Int), .bool x.1.2]

set_option maxRecDepth 100000 in
set_option maxHeartbeats 1000000 in
/-- The iterator yields the groups in order, for every loop body that keeps what lay below n₀. -/
theorem groups1_in (F : Fence) (n : Nat) (hf : F.fn 68) (hro : F.round = none) (hn : 1 ≤ n) (l Bn n₀ : Nat) (m : Nat) (hm : m < 18446744073709551616) (J Jx : List Item → World → Prop)
    (hY : ∀ pre x W, J pre W → pre.length < (items m).length → YieldAt F (n - 1) Try.prog l (Item.encs x) W fun e W' =>
      (e = .returned (.bool true) ∧ J (pre ++ [x]) W' ∧ Below n₀ W W') ∨ (e = .returned (.bool false) ∧ Jx (pre ++ [x]) W'))
    (W : World) (hBn : W.cell? ⟨Bn, 0, none⟩ = some (.int .u64 (m : Int))) (h0 : J [] W) :
    CallsIn F n Try.prog 68 #[.func (.yield l) #[] #[], .pointer (some ⟨Bn, 0, none⟩)] W fun e W' => (∃ v, e = .returned v) ∧
      ((∃ ys, ys = items m ∧ J ys W') ∨ (∃ pre, pre <+: items m ∧ Jx pre W')) := by
  refine callsIn_of_wp Try.func68 rfl hf ?_ hro
  simp only [Try.ntmps68, List.size_toArray, List.length_cons, List.length_nil, Nat.reduceAdd, Nat.reduceSub, Array.replicate_succ, Array.replicate_zero, List.push_toArray, List.append_toArray, List.nil_append, List.cons_append]
  gi_wp2
  gi_loopw [3] (fun p wr => ∃ (pre : List Item) (r : Nat), p = .int .u64 (r : Int) ∧ r < 18446744073709551616 ∧ items m = pre ++ items r ∧ J pre wr)
    (fun p _ => (intOf p).toNat)
  case atStart =>
    exact ⟨[], m, rfl, hm, rfl, h0⟩
  case round =>
    obtain ⟨pre, r, rfl, hr, hx, hJs⟩ := hrel
    have hplen : pre.length < (items m).length := by rw [hx]; have := items_ne r; simp; omega
    by_cases hlt : r < 128
    · obtain ⟨fn, tmps, assign, body, hy, hR⟩ := hY pre ⟨(r, false), hlt⟩ wr hJs hplen
      dsimp only [Item.encs] at hy
      gi_wp2
      refine hR.mono ?_
      rintro e W3 (⟨rfl, hJ3, hk3⟩ | ⟨rfl, hJx3⟩)
      · gi_wp2
        go_end0
        exact ⟨⟨_, rfl⟩, .inl ⟨_, by rw [hx, items_lt hlt], hJ3⟩⟩
      · gi_wp2
        go_end0
        exact ⟨⟨_, rfl⟩, .inr ⟨_, by rw [hx, items_lt hlt]; exact List.prefix_rfl, hJx3⟩⟩
    · have hm128 : r % 128 < 128 := Nat.mod_lt _ (by omega)
      obtain ⟨fn, tmps, assign, body, hy, hR⟩ := hY pre ⟨(r % 128, true), hm128⟩ wr hJs hplen
      dsimp only [Item.encs] at hy
      rw [show ((r % 128 : Nat) : Int) = (r : Int) % 128 from by omega] at hy
      gi_wp2
      refine hR.mono ?_
      rintro e W3 (⟨rfl, hJ3, hk3⟩ | ⟨rfl, hJx3⟩)
      · gi_wp2
        go_roundw
        case rel => exact ⟨pre ++ [⟨(r % 128, true), hm128⟩], r / 128, by go_num, by omega, by rw [hx, items_ge hlt]; simp, hJ3⟩
        case measure => simp [intOf]; omega
      · gi_wp2
        refine bodyPost_ret (results_none rfl _ _ _) rfl ?_
        exact ⟨⟨_, rfl⟩, .inr ⟨pre ++ [⟨(r % 128, true), hm128⟩], by rw [hx, items_ge hlt]; simp, hJx3⟩⟩

set_option maxHeartbeats 1000000 in
theorem groups_in (F : Fence) (n : Nat) (h : F.fn 67) (hro : F.round = none) (m : Int) (w : World) :
    CallsIn F n Try.prog 67 #[.int .u64 m] w fun e w' => e = .returned (.func (.func 68) #[] #[.pointer (some ⟨w.heap.size, 0, none⟩)]) ∧ w' = w.alloc (.cells #[.int .u64 m] 96) := by
  refine callsIn_of_wp Try.func67 rfl h ?_ hro
  simp only [Try.ntmps67, List.size_toArray, List.length_cons, List.length_nil, Nat.reduceAdd, Nat.reduceSub, Array.replicate_succ, Array.replicate_zero, List.push_toArray, List.append_toArray, List.nil_append, List.cons_append]
  gi_wp2
  go_ret
  exact ⟨rfl, rfl⟩

theorem groups_stops (F : Fence) (n : Nat) (h : F.fn 68) (hro : F.round = none) (hn : 1 ≤ n) (Bn n₀ m : Nat) (hm : m < 18446744073709551616) (w : World) (hBn : Bn < w.heap.size)
    (hc : w.cell? ⟨Bn, 0, none⟩ = some (.int .u64 (m : Int))) :
    SeqStopsK F n Try.prog 68 #[.pointer (some ⟨Bn, 0, none⟩)] Item.encs (Below n₀) (fun ys => ys = items m) (fun pre => pre <+: items m) (items m).length w := fun l J Jx W hW _ _ hY h0 =>
  groups1_in F n h hro hn l Bn n₀ m hm J Jx hY W ((hW.cell (p := ⟨Bn, 0, none⟩) hBn).trans hc) h0

def outV (x : Item) : Value := .int .u8 (outNat x : Int)
theorem outV_numL (n : Nat) : (items n).map outV = (numL n).map enc8 := by
  have h := congrArg (List.map (fun k : Nat => Value.int .u8 (k : Int))) (items_numL n)
  rw [List.map_map, List.map_map] at h
  exact h

set_option maxRecDepth 100000 in
set_option maxHeartbeats 2000000 in
/-- appendNumber appends the bytes of the number to a row of the call's own (or to nil). -/
theorem append_in (F : Fence) (n : Nat) (h32 : F.fn 65) (h37 : F.fn 67) (h40 : F.fn 68) (hro : F.round = none) (hn : 3 ≤ n) (m : Nat) (hm : m < 18446744073709551616) (w : World)
    (n₀ : Nat) (hn₀ : n₀ ≤ w.heap.size) (A : Option Addr) (k c : Nat) (xs : List Value) (hrow : w.ownsRow n₀ 5 1 (.slice A k c) k xs) (hk : k + 10 ≤ 140737488355328) :
    CallsIn F n Try.prog 65 #[.slice A k c, .int .u64 (m : Int)] w fun e W' => ∃ v, e = .returned v ∧ W'.ownsRow n₀ 5 1 v (k + (numL m).length) (xs ++ (numL m).map enc8) ∧ Below n₀ w W' := by
  have h1 : 1 ≤ n := by omega
  have hten := items_ten hm
  obtain ⟨i0, hi, hz0, hz1, hz2⟩ := info_parts info5
  refine callsIn_of_wp_marks Try.func65 rfl h32 ?_ hro
  simp only [Try.ntmps65, List.size_toArray, List.length_cons, List.length_nil, Nat.reduceAdd, Nat.reduceSub, Array.replicate_succ, Array.replicate_zero, List.push_toArray, List.append_toArray, List.nil_append, List.cons_append]
  gi_wp2_with (gi_at_call 67; refine (groups_in F (n - 1) h37 hro _ _).mono ?_; rintro e w' ⟨rfl, rfl⟩)
  have bO := Boxed.new w 66 (.slice A k c)
  have bN := Boxed.new (w.alloc (.cells #[.slice A k c] 66)) 96 (.int .u64 (m : Int))
  rw [World.size_alloc] at bN
  have hB0 : Below n₀ w ((w.alloc (.cells #[.slice A k c] 66)).alloc (.cells #[.int .u64 (m : Int)] 96)) := ((Below.refl _ w).alloc hn₀ _).alloc (by simp; omega) _
  refine wpIn_rangeFunc_ownG hro h1 (gf := 68) (lb := #[.pointer (some ⟨w.heap.size + 1, 0, none⟩)]) rfl h40 (enters_of Try.func68 (by kernel_rfl) rfl)
    (groups_stops F (n - 1) h40 hro (by omega) (w.heap.size + 1) n₀ m hm _ (by simp) bN.cell) belowK_t (belowK_b (by simp; omega)) (Below.refl _ _) (fun _ => rfl)
    (fun (pre : List Item) W => (∃ v, Boxed W w.heap.size 66 v ∧ W.ownsRow n₀ 5 1 v (k + pre.length) (xs ++ pre.map outV) ∧ True) ∧ Below n₀ w W)
    (fun _ _ _ => False)
    (OwnFrom.and (Own.from (holdsRow_own n₀ w.heap.size 66 5 1 (fun pre : List Item => k + pre.length) (fun pre : List Item => xs ++ pre.map outV) (fun _ _ => True)) _) (ownFrom_below hn₀ (by simp; omega)))
    (fun _ _ _ _ _ hs _ _ => hs)
    ⟨⟨_, bO.alloc _, by simpa using (hrow.alloc _).alloc _, trivial⟩, hB0⟩
    (fun x => { tmps := #[.slice A k c, .int .u64 (m : Int), .pointer (some ⟨w.heap.size, 0, none⟩), undef, .slice none 0 0, .int .u8 (x.1.1 : Int), .bool x.1.2, .int .u64 (m : Int), .func (.func 68) #[] #[.pointer (some ⟨w.heap.size + 1, 0, none⟩)], .int .u8 (x.1.1 : Int), .bool x.1.2, undef, undef, undef, undef, undef, undef, undef, undef], defers := [] }) ?assign ?body ?done ?stop
  case assign =>
    intro l x W K hK
    gi_wp2
    exact hK
  case body =>
    rintro l pre ⟨⟨g, fo⟩, hg⟩ W ⟨⟨v, hv, hrow, _⟩, hB⟩ hlt
    dsimp only at hg
    have hc := hv.cell
    cases fo
    · gi_wp2_with (gi_at_builtin; refine wpListIn_append_own _ rfl _ _ 66 rfl n₀ 5 i0 (.int .u8 0) 1 1 Try.underlying66 hi hz0 hz1 hz2 rfl (by decide) _ _ _ rfl (hrow.alloc _) ⟨W.heap.size, 0, none⟩ 1 1 [.int .u8 (g : Int)] rfl rfl (cell_one_new _ _ _) (by simp [Value.oneCell']) (by unfold maxLen; omega) (by omega) (by have := hB.size; simp; omega) ?_; intro v' w1 hown' hgrow _; obtain ⟨g', cap', rfl⟩ := ownsRow_succ hown'; obtain ⟨hv1, hv2, hr2, hk2, hb2⟩ := hv.appended (by decide) hrow (Nat.le_trans hn₀ hB.size) hn₀ hown' hgrow; have hc1 := hv1.cell; have hf1 := hv1.frozen)
      exact ⟨hk2.from _, hb2, ⟨_, hv2, by simpa [outV, outNat, Nat.add_assoc] using hr2, trivial⟩, hB.trans hb2⟩
    · gi_wp2_with (gi_at_builtin; refine wpListIn_append_own _ rfl _ _ 66 rfl n₀ 5 i0 (.int .u8 0) 1 1 Try.underlying66 hi hz0 hz1 hz2 rfl (by decide) _ _ _ rfl (hrow.alloc _) ⟨W.heap.size, 0, none⟩ 1 1 [.int .u8 ((g : Int) + 128)] rfl rfl (cell_one_new _ _ _) (by simp [Value.oneCell']) (by unfold maxLen; omega) (by omega) (by have := hB.size; simp; omega) ?_; intro v' w1 hown' hgrow _; obtain ⟨g', cap', rfl⟩ := ownsRow_succ hown'; obtain ⟨hv1, hv2, hr2, hk2, hb2⟩ := hv.appended (by decide) hrow (Nat.le_trans hn₀ hB.size) hn₀ hown' hgrow; have hc1 := hv1.cell; have hf1 := hv1.frozen)
      exact ⟨hk2.from _, hb2, ⟨_, hv2, by simpa [outV, outNat, Nat.add_assoc] using hr2, trivial⟩, hB.trans hb2⟩
  case done =>
    rintro D ys W hD rfl ⟨⟨v, hv, hrow, _⟩, hB⟩ hK
    have hc := hv.cell
    gi_wp2
    refine ⟨by simp, .inl ⟨_, _, rfl, run_takeDeferred hK, ?_⟩⟩
    refine ⟨_, results_tmp rfl _ _ _, v, rfl, ?_, hB.trans (belowK_b (n₀ := n₀) (w := w) hn₀ W D _ _ (by simp at hD; omega) hK rfl rfl)⟩
    rw [numL_len, ← outV_numL]
    exact ownsRow_putObj hrow _ hK rfl
  case stop =>
    rintro D c pre W _ _ h _
    exact h.elim

theorem append_any (m : Nat) (hm : m < 18446744073709551616) (w : World)
    (n₀ : Nat) (hn₀ : n₀ ≤ w.heap.size) (A : Option Addr) (k c : Nat) (xs : List Value) (hrow : w.ownsRow n₀ 5 1 (.slice A k c) k xs) (hk : k + 10 ≤ 140737488355328) :
    Calls Try.prog 65 #[.slice A k c, .int .u64 (m : Int)] w fun e W' => ∃ v, e = .returned v ∧ W'.ownsRow n₀ 5 1 v (k + (numL m).length) (xs ++ (numL m).map enc8) ∧ Below n₀ w W' :=
  callsIn_wide.1 (append_in Fence.wide 3 trivial trivial trivial rfl (Nat.le_refl _) m hm w n₀ hn₀ A k c xs hrow hk)

end Go.Proofs.Ythhpnlobhffimaa
