/- The function that makes the lists of LinesLong. -/
import Derived.Test.YtmeoannheomdoaaLongMath
import Derived.Test.YtmeoannheomdoaaLaw
namespace Go.Proofs.Ytmeoannheomdoaa
open Go.RowKit

theorem rep_snoc (k : Nat) (x : ByteArray) : List.replicate (k + 1) x = List.replicate k x ++ [x] := List.replicate_succ'
set_option maxRecDepth 100000 in
set_option maxHeartbeats 2000000 in
theorem make_any (mark : ByteArray) (many f e gf ge : Nat) (w : World) (hm : many ≤ 1000000) (hf : f ≤ 1000000) (he : e ≤ 1000000) (cf : w.cell? ⟨gf, 0, none⟩ = some (.int .i64 f)) (ce : w.cell? ⟨ge, 0, none⟩ = some (.int .i64 e)) :
    Calls Try.prog 34 #[.string mark, .int .i64 many, .pointer (some ⟨gf, 0, none⟩), .pointer (some ⟨ge, 0, none⟩)] w (StrsOut w (makeL mark many f e)) := by
  obtain ⟨R, HR⟩ : ∃ R, Hid (makeL mark many f e = R) := ⟨_, Lib.hid rfl⟩
  rw [HR.out]
  obtain ⟨i9, hi, hz0, hz1, hz2⟩ := info_parts info9
  have CF := Lib.hid (fun (W : World) (hb : Below w.heap.size w W) => (hb.cell (p := ⟨gf, 0, none⟩) (World.block_lt_of_cell? _ _ cf)).trans cf)
  have CE := Lib.hid (fun (W : World) (hb : Below w.heap.size w W) => (hb.cell (p := ⟨ge, 0, none⟩) (World.block_lt_of_cell? _ _ ce)).trans ce)
  obtain ⟨h, hh⟩ : ∃ h : Nat, many / 2 = h := ⟨_, rfl⟩
  have hq : (many : Int) / 2 = (h : Int) := by omega
  have HH := Lib.hid hh
  clear cf ce hh
  go_enter Try.func34, Try.ntmps34
  go_wp2
  go_loopw [7, 8] (fun v7 v8 wr => ∃ (k n : Nat) (L : List ByteArray) (A : Option Addr) (c : Nat), k ≤ f ∧ n = k ∧ v8 = .int .i64 k ∧ v7 = .slice A n c ∧ wr.ownsRow w.heap.size 9 1 (.slice A n c) n (strC L) ∧
      Hid (L = List.replicate k frontS) ∧ Below w.heap.size w wr) (fun _ v8 _ => f - (intOf v8).toNat)
  case atStart => exact ⟨0, 0, [], none, 0, by omega, rfl, rfl, rfl, World.ownsRow_nil _ _ _ _, Lib.hid rfl, Below.refl _ _⟩
  case round =>
    obtain ⟨k, n, L, A, c, hk, rfl, rfl, rfl, hown, HL, hB⟩ := hrel
    have hi0 : (0 : Int) ≤ (n : Int) := Int.natCast_nonneg _
    have cf := CF.out wr hB
    by_cases hlt : n < f
    · have hi1 : (n : Int) < (f : Int) := by omega
      clear hq
      go_wp2_with (at_builtin; refine wpList_append_own _ rfl _ _ 23 rfl w.heap.size 9 i9 (.string ⟨#[]⟩) 1 16 Try.underlying23 hi hz0 hz1 hz2 rfl (by decide) (.slice A n c) _ _ rfl (hown.alloc _) ⟨wr.heap.size, 0, none⟩ 1 1 [.string ⟨#[102, 114, 111, 110, 116]⟩] rfl rfl (cell_one_new _ _ _) (by simp [Value.oneCell']) (by unfold maxLen; omega) (by omega) (by have := hB.size; simp; omega) ?_; intro v' w3 hown3 hgrow3 _; obtain ⟨g', cap', rfl⟩ := ownsRow_succ hown3)
      go_roundw
      case rel =>
        refine ⟨n + 1, n + 1, L ++ [frontS], _, cap', by omega, rfl, by go_num, rfl, ?_, Lib.hid ?_, (hB.alloc hB.size _).grown hgrow3 (by have := hB.size; simp; omega) (row_ge hown)⟩
        · rw [strC_snoc]; exact hown3
        · rw [rep_snoc, ← HL.out]
      case measure => simp [intOf]; omega
    · obtain rfl : n = f := by omega
      go_wp2
      go_loopw [7, 9] (fun v7 v9 wr => ∃ (k m : Nat) (L : List ByteArray) (A : Option Addr) (c : Nat), k ≤ many ∧ m ≤ n + k ∧ v9 = .int .i64 k ∧ v7 = .slice A m c ∧ wr.ownsRow w.heap.size 9 1 (.slice A m c) m (strC L) ∧
          Hid (L = List.replicate n frontS ++ (List.range k).map fun t => if t = many / 2 then middleS else mark) ∧ Below w.heap.size w wr) (fun _ v9 _ => many - (intOf v9).toNat)
      case atStart => exact ⟨0, n, L, A, c, by omega, by omega, rfl, rfl, hown, Lib.hid (by rw [HL.out]; simp), hB⟩
      case round =>
        obtain ⟨k, m, L, A, c, hk, hmk, rfl, rfl, hown, HL, hB⟩ := hrel
        have hi0 : (0 : Int) ≤ (k : Int) := Int.natCast_nonneg _
        by_cases hlt : k < many
        · have hi1 : (k : Int) < (many : Int) := by omega
          by_cases hkh : k = h
          · subst hkh
            have HL2 : Hid (L ++ [middleS] = List.replicate n frontS ++ (List.range (k + 1)).map fun t => if t = many / 2 then middleS else mark) := by
              refine Lib.hid ?_
              rw [List.range_succ, List.map_append, ← List.append_assoc, ← HL.out, List.map_singleton, if_pos HH.out.symm]
            clear HL
            go_wp2_with (at_builtin; refine wpList_append_own _ rfl _ _ 23 rfl w.heap.size 9 i9 (.string ⟨#[]⟩) 1 16 Try.underlying23 hi hz0 hz1 hz2 rfl (by decide) (.slice A m c) _ _ rfl (hown.alloc _) ⟨wr.heap.size, 0, none⟩ 1 1 [.string ⟨#[109, 105, 100, 100, 108, 101]⟩] rfl rfl (cell_one_new _ _ _) (by simp [Value.oneCell']) (by unfold maxLen; omega) (by omega) (by have := hB.size; simp; omega) ?_; intro v' w3 hown3 hgrow3 _; obtain ⟨g', cap', rfl⟩ := ownsRow_succ hown3)
            go_roundw
            case rel =>
              refine ⟨k + 1, m + 1, L ++ [middleS], _, cap', by omega, by omega, by go_num, rfl, ?_, HL2, (hB.alloc hB.size _).grown hgrow3 (by have := hB.size; simp; omega) (row_ge hown)⟩
              rw [strC_snoc]; exact hown3
            case measure => simp [intOf]; omega
          · have hb1 : ((k : Int) == (h : Int)) = false := by rw [beq_eq_false_iff_ne]; omega
            have hb2 : ¬ (k : Int) = (h : Int) := by omega
            have HL2 : Hid (L ++ [mark] = List.replicate n frontS ++ (List.range (k + 1)).map fun t => if t = many / 2 then middleS else mark) := by
              refine Lib.hid ?_
              rw [List.range_succ, List.map_append, ← List.append_assoc, ← HL.out, List.map_singleton, if_neg (fun e => hkh (e.trans HH.out))]
            clear HL
            go_wp2_with (at_builtin; refine wpList_append_own _ rfl _ _ 23 rfl w.heap.size 9 i9 (.string ⟨#[]⟩) 1 16 Try.underlying23 hi hz0 hz1 hz2 rfl (by decide) (.slice A m c) _ _ rfl (hown.alloc _) ⟨wr.heap.size, 0, none⟩ 1 1 [.string mark] rfl rfl (cell_one_new _ _ _) (by simp [Value.oneCell']) (by unfold maxLen; omega) (by omega) (by have := hB.size; simp; omega) ?_; intro v' w3 hown3 hgrow3 _; obtain ⟨g', cap', rfl⟩ := ownsRow_succ hown3)
            go_roundw
            case rel =>
              refine ⟨k + 1, m + 1, L ++ [mark], _, cap', by omega, by omega, by go_num, rfl, ?_, HL2, (hB.alloc hB.size _).grown hgrow3 (by have := hB.size; simp; omega) (row_ge hown)⟩
              rw [strC_snoc]; exact hown3
            case measure => simp [intOf]; omega
        · obtain rfl : k = many := by omega
          clear hq
          go_wp2
          go_loopw [7, 11] (fun v7 v11 wr => ∃ (j r : Nat) (L : List ByteArray) (A : Option Addr) (c : Nat), j ≤ e ∧ r ≤ n + k + j ∧ v11 = .int .i64 j ∧ v7 = .slice A r c ∧ wr.ownsRow w.heap.size 9 1 (.slice A r c) r (strC L) ∧
              Hid (L = List.replicate n frontS ++ (coreL mark k ++ List.replicate j backS)) ∧ Below w.heap.size w wr) (fun _ v11 _ => e - (intOf v11).toNat)
          case atStart => exact ⟨0, m, L, A, c, by omega, by omega, rfl, rfl, hown, Lib.hid (by rw [HL.out]; unfold coreL; simp), hB⟩
          case round =>
            obtain ⟨j, r, L, A, c, hj, hr, rfl, rfl, hown, HL, hB⟩ := hrel
            have hi0 : (0 : Int) ≤ (j : Int) := Int.natCast_nonneg _
            have ce := CE.out wr hB
            by_cases hlt : j < e
            · have hi1 : (j : Int) < (e : Int) := by omega
              have HL2 : Hid (L ++ [backS] = List.replicate n frontS ++ (coreL mark k ++ List.replicate (j + 1) backS)) := by
                refine Lib.hid ?_
                rw [rep_snoc, ← List.append_assoc (coreL mark k), ← List.append_assoc, ← HL.out]
              clear HL
              go_wp2_with (at_builtin; refine wpList_append_own _ rfl _ _ 23 rfl w.heap.size 9 i9 (.string ⟨#[]⟩) 1 16 Try.underlying23 hi hz0 hz1 hz2 rfl (by decide) (.slice A r c) _ _ rfl (hown.alloc _) ⟨wr.heap.size, 0, none⟩ 1 1 [.string ⟨#[98, 97, 99, 107]⟩] rfl rfl (cell_one_new _ _ _) (by simp [Value.oneCell']) (by unfold maxLen; omega) (by omega) (by have := hB.size; simp; omega) ?_; intro v' w3 hown3 hgrow3 _; obtain ⟨g', cap', rfl⟩ := ownsRow_succ hown3)
              go_roundw
              case rel =>
                refine ⟨j + 1, r + 1, L ++ [backS], _, cap', by omega, by omega, by go_num, rfl, ?_, HL2, (hB.alloc hB.size _).grown hgrow3 (by have := hB.size; simp; omega) (row_ge hown)⟩
                rw [strC_snoc]; exact hown3
              case measure => simp [intOf]; omega
            · obtain rfl : j = e := by omega
              have hR : L = R := HL.out.trans HR.out
              have hn : r = R.length := by rw [← hR]; exact (Strs.own hown).1
              subst hR
              have HN := Lib.hid hn
              clear hn HL
              go_wp2
              go_ret
              exact ⟨A, c, by rw [← HN.out]; rfl, by rw [← HN.out]; exact hown, hB⟩
end Go.Proofs.Ytmeoannheomdoaa
