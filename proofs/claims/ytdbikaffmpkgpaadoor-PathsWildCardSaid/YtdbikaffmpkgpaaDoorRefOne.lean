/- The reference's one: rows of what beginnings of a pattern match. -/
import Derived.Test.YtdbikaffmpkgpaaDoorGlue
import Derived.Deep.CutRange
import Derived.StillTailTactics
namespace Go.Proofs.YtdbikaffmpkgpaaDoor
open Go.RowKit

section
variable {α β : Type} {star : α → Bool} {one : α → β → Bool}
/-- the first i of a pattern match the first k -/
def gRow (star : α → Bool) (one : α → β → Bool) (P : List α) (S : List β) (i k : Nat) : Bool := gm star one (P.take i) (S.take k)
theorem gRow_zero (P : List α) (S : List β) {k : Nat} (hk : k ≤ S.length) : gRow star one P S 0 k = decide (k = 0) := by
  unfold gRow
  rw [List.take_zero, gm_nil, Bool.eq_iff_iff, List.isEmpty_iff, decide_eq_true_eq]
  constructor
  · intro h
    have := congrArg List.length h
    rw [List.length_take, List.length_nil] at this
    omega
  · rintro rfl; rfl
theorem gRow_star {P : List α} {S : List β} {i k : Nat} (hi : i < P.length) (hk : k ≤ S.length) (hc : star P[i] = true) : gRow star one P S (i + 1) k = true ↔ ∃ j, j ≤ k ∧ gRow star one P S i j = true := by
  unfold gRow
  rw [List.take_succ_eq_append_getElem hi, gm_append]
  constructor
  · rintro ⟨j, hj, h1, _⟩
    rw [List.length_take] at hj
    rw [List.take_take, Nat.min_eq_left (by omega)] at h1
    exact ⟨j, by omega, h1⟩
  · rintro ⟨j, hj, h1⟩
    refine ⟨j, by rw [List.length_take]; omega, ?_, gm_anything hc _⟩
    rw [List.take_take, Nat.min_eq_left hj]
    exact h1
theorem gRow_star_zero {P : List α} {S : List β} {i : Nat} (hi : i < P.length) (hc : star P[i] = true) : gRow star one P S (i + 1) 0 = gRow star one P S i 0 := by
  rw [Bool.eq_iff_iff, gRow_star hi (Nat.zero_le _) hc]
  exact ⟨fun ⟨j, hj, h⟩ => by obtain rfl : j = 0 := by omega
                              exact h, fun h => ⟨0, Nat.le_refl _, h⟩⟩
theorem gRow_star_succ {P : List α} {S : List β} {i m : Nat} (hi : i < P.length) (hk : m + 1 ≤ S.length) (hc : star P[i] = true) : gRow star one P S (i + 1) (m + 1) = (gRow star one P S i (m + 1) || gRow star one P S (i + 1) m) := by
  rw [Bool.eq_iff_iff, gRow_star hi hk hc, Bool.or_eq_true, gRow_star hi (by omega) hc]
  constructor
  · rintro ⟨j, hj, h⟩
    rcases Nat.lt_or_ge m j with h' | h'
    · obtain rfl : j = m + 1 := by omega
      exact .inl h
    · exact .inr ⟨j, h', h⟩
  · rintro (h | ⟨j, hj, h⟩)
    · exact ⟨m + 1, Nat.le_refl _, h⟩
    · exact ⟨j, by omega, h⟩
theorem gRow_one_zero {P : List α} {S : List β} {i : Nat} (hi : i < P.length) (hc : star P[i] = false) : gRow star one P S (i + 1) 0 = false := by
  rw [Bool.eq_false_iff]
  unfold gRow
  rw [List.take_succ_eq_append_getElem hi, Ne, gm_append]
  rintro ⟨j, hj, _, h2⟩
  rw [List.take_zero, List.drop_nil, gm_none hc] at h2
  cases h2
theorem gRow_one_succ {P : List α} {S : List β} {i m : Nat} (hi : i < P.length) (hk : m < S.length) (hc : star P[i] = false) : gRow star one P S (i + 1) (m + 1) = (gRow star one P S i m && one P[i] S[m]) := by
  unfold gRow
  have hlen : (S.take (m + 1)).length = m + 1 := by rw [List.length_take]; omega
  rw [Bool.eq_iff_iff, List.take_succ_eq_append_getElem hi, gm_append, Bool.and_eq_true]
  constructor
  · rintro ⟨j, hj, h1, h2⟩
    obtain ⟨x, e, hx⟩ := (gm_single hc _).1 h2
    have hl := congrArg List.length e
    rw [List.length_drop, hlen, List.length_singleton] at hl
    obtain rfl : j = m := by omega
    rw [List.take_take, Nat.min_eq_left (by omega)] at h1
    refine ⟨h1, ?_⟩
    have : (S.take (j + 1)).drop j = [S[j]] := by
      rw [List.take_succ_eq_append_getElem hk, List.drop_left' (by rw [List.length_take]; omega)]
    rw [this] at e
    injection e with e
    rw [e]; exact hx
  · rintro ⟨h1, h2⟩
    refine ⟨m, by omega, ?_, ?_⟩
    · rw [List.take_take, Nat.min_eq_left (by omega)]; exact h1
    · rw [gm_single hc]
      refine ⟨S[m], ?_, h2⟩
      rw [List.take_succ_eq_append_getElem hk, List.drop_left' (by rw [List.length_take]; omega)]
theorem gRow_all (P : List α) (S : List β) : gRow star one P S P.length S.length = gm star one P S := by
  unfold gRow
  rw [List.take_length, List.take_length]
end

/-- block g holds m bools, the first K of which are those of f -/
def RowTo (w : World) (g m K : Nat) (f : Nat → Bool) : Prop := ∃ l, Full w g 4 (boolC l) ∧ l.length = m ∧ ∀ k, k < K → l[k]? = some (f k)
section
variable {w w' : World} {g m K : Nat} {f : Nat → Bool}
theorem RowTo.cell (h : RowTo w g m K f) {k : Nat} (hk : k < K) : w.cell? ⟨g, k, none⟩ = some (.bool (f k)) := by
  obtain ⟨l, hF, _, hv⟩ := h
  rw [hF.cell]; unfold boolC; rw [List.getElem?_map, hv k hk]; rfl
theorem RowTo.there (h : RowTo w g m K f) {k : Nat} (hk : k < m) : ∃ b, w.cell? ⟨g, k, none⟩ = some (.bool b) ∧ w.frozen? ⟨g, k, none⟩ = false := by
  obtain ⟨l, hF, hl, _⟩ := h
  refine ⟨l[k]'(by omega), ?_, hF.frozen _⟩
  rw [hF.cell]; unfold boolC; rw [List.getElem?_map, List.getElem?_eq_getElem (by omega)]; rfl
theorem RowTo.lt (h : RowTo w g m K f) : g < w.heap.size := by
  obtain ⟨l, hF, _⟩ := h
  exact hF.lt
theorem RowTo.set_ (h : RowTo w g m K f) (hK : K < m) {b : Bool} (hb : f K = b) : RowTo (w.setCell ⟨g, K, none⟩ (.bool b)) g m (K + 1) f := by
  obtain ⟨l, hF, hl, hv⟩ := h
  refine ⟨l.set K b, ?_, by rw [List.length_set]; exact hl, fun k hk => ?_⟩
  · have := hF.set_ K (.bool b)
    unfold boolC at this ⊢
    rw [List.map_set]
    exact this
  · by_cases e : K = k
    · subst e
      rw [List.getElem?_set_self (by omega), hb]
    · rw [List.getElem?_set_ne e]
      exact hv k (by omega)
theorem RowTo.on (h : RowTo w g m K f) (hb : Below w.heap.size w w') : RowTo w' g m K f := by
  obtain ⟨l, hF, q⟩ := h
  exact ⟨l, hF.on hb, q⟩
theorem RowTo.below {B : Nat} (h : RowTo w g m K f) (hb : Below B w w') (hg : g < B) : RowTo w' g m K f := by
  obtain ⟨l, hF, q⟩ := h
  exact ⟨l, hF.below hb hg, q⟩
theorem RowTo.far (h : RowTo w g m K f) {p : Addr} (hp : g ≠ p.block) (u : Value) : RowTo (w.setCell p u) g m K f := by
  obtain ⟨l, hF, q⟩ := h
  exact ⟨l, hF.far hp u, q⟩
theorem RowTo.drewN (h : RowTo w g m K f) (q : Nat) : RowTo (w.drewN q) g m K f := h
theorem RowTo.new (w : World) (m : Nat) (f : Nat → Bool) {Z : List Value} (hZ : List.replicate m (Value.bool false) = Z) : RowTo (w.alloc (.cells Z.toArray 4)) w.heap.size m 0 f := by
  refine ⟨List.replicate m false, ?_, List.length_replicate, fun k hk => by omega⟩
  have e : boolC (List.replicate m false) = Z := by rw [← hZ]; unfold boolC; rw [List.map_replicate]
  rw [e]
  exact Full.new w 4 Z
end

def bRow (c s : ByteArray) (i k : Nat) : Bool := gRow bStar bOne c.data.toList s.data.toList i k
theorem bRow_all (c s : ByteArray) : bRow c s c.size s.size = oneS c s := by
  unfold bRow oneS
  rw [wm_g, ← gRow_all, data_len, data_len]

set_option maxRecDepth 100000 in
set_option maxHeartbeats 8000000 in
theorem one_any (c s : ByteArray) (w : World) (hc : c.size ≤ 1048576) (hs : s.size ≤ 1048576) : Calls Tryd.prog 50 #[.string c, .string s] w (BoolB w (oneS c s)) := by
  obtain ⟨R, HR⟩ : ∃ R, Hid (oneS c s = R) := ⟨_, Lib.hid rfl⟩
  rw [HR.out]
  have hmk := made_one 54 4 (.bool false) 1 Tryd.underlying54 info4 rfl (s.size + 1) (by omega) (by omega)
  obtain ⟨Z, hZ⟩ : ∃ Z, List.replicate (s.size + 1) (Value.bool false) = Z := ⟨_, rfl⟩
  rw [hZ] at hmk
  have hmk2 : ∀ W : World, (Instr.makeSlice 54 (.int .i64 ((s.size : Int) + 1)) (.int .i64 ((s.size : Int) + 1))).run Tryd.prog W = .ok (.slice (some ⟨W.heap.size, 0, none⟩) (s.size + 1) (s.size + 1)) (W.alloc (.cells Z.toArray 4)) := hmk
  have HZ := Lib.hid hZ
  clear hZ hmk
  go_enter Tryd.func50, Tryd.ntmps50
  go_upto_region 2 with fail
  have hr0 := RowTo.new w (s.size + 1) (bRow c s 0) HZ.out
  have hb0 : Below w.heap.size w (w.alloc (.cells Z.toArray 4)) := (Below.refl _ w).alloc (Nat.le_refl _) _
  obtain ⟨w1, hw1⟩ : ∃ W, w.alloc (.cells Z.toArray 4) = W := ⟨_, rfl⟩
  rw [hw1] at hr0 hb0 ⊢
  obtain ⟨g, hg⟩ : ∃ g, w.heap.size = g := ⟨_, rfl⟩
  have hgB : w.heap.size ≤ g := by omega
  rw [hg] at hr0 ⊢
  -- the first cell is true, the others are false
  have hrow : RowTo (w1.setCell ⟨g, 0, none⟩ (.bool true)) g (s.size + 1) (s.size + 1) (bRow c s 0) := by
    obtain ⟨l, hF, hl, _⟩ := hr0
    have hnew := Full.new w 4 Z
    rw [hw1, hg] at hnew
    have h1 := hnew.set_ 0 (.bool true)
    refine ⟨(List.replicate (s.size + 1) false).set 0 true, ?_, by rw [List.length_set, List.length_replicate], fun k hk => ?_⟩
    · have e : boolC ((List.replicate (s.size + 1) false).set 0 true) = Z.set 0 (.bool true) := by
        rw [← HZ.out]; unfold boolC; rw [List.map_set, List.map_replicate]
      rw [e]; exact h1
    · unfold bRow
      rw [gRow_zero _ _ (by rw [data_len]; omega)]
      rcases Nat.eq_zero_or_pos k with rfl | h0
      · rw [List.getElem?_set_self (by simp)]; rfl
      · rw [List.getElem?_set_ne (by omega), List.getElem?_replicate, if_pos hk, decide_eq_false (by omega)]
  obtain ⟨b0, t0, z0⟩ := hr0.there (k := 0) (by omega)
  have hb1 := hb0.setCell (p := ⟨g, 0, none⟩) hgB (.bool true)
  clear hr0 hb0 hw1
  go_upto_region 3 with fail
  clear t0 z0
  obtain ⟨w2, hw2⟩ : ∃ W, w1.setCell ⟨g, 0, none⟩ (.bool true) = W := ⟨_, rfl⟩
  rw [hw2] at hrow hb1 ⊢
  clear hw2
  go_wp2_with fail
  go_loopw [5, 6] (fun v5 v6 wr => ∃ (i g : Nat), i ≤ c.size ∧ w.heap.size ≤ g ∧ v6 = .int .i64 i ∧ v5 = .slice (some ⟨g, 0, none⟩) (s.size + 1) (s.size + 1) ∧ RowTo wr g (s.size + 1) (s.size + 1) (bRow c s i) ∧ Below w.heap.size w wr) (fun _ v6 _ => c.size - (intOf v6).toNat)
  case atStart => exact ⟨0, g, by omega, hgB, rfl, rfl, hrow, hb1⟩
  case round =>
    clear hrow hb1 hg hgB
    obtain ⟨i, g, hi, hgB, rfl, rfl, hrow, hB⟩ := hrel
    have i0 : (0 : Int) ≤ (i : Int) := Int.natCast_nonneg _
    by_cases hlt : i < c.size
    · have i1 : (i : Int) < (c.size : Int) := by omega
      have hcl : i < c.data.toList.length := by rw [data_len]; exact hlt
      have hn0 := RowTo.new wr (s.size + 1) (bRow c s (i + 1)) HZ.out
      have hbA : Below wr.heap.size wr (wr.alloc (.cells Z.toArray 4)) := (Below.refl _ wr).alloc (Nat.le_refl _) _
      have hrowA := hrow.on hbA
      have hBA := hB.trans (hbA.mono hB.size)
      go_upto_region 7 with fail
      obtain ⟨g2, hg2⟩ : ∃ g2, wr.heap.size = g2 := ⟨_, rfl⟩
      have hgg : g ≠ g2 := by have := hrow.lt; omega
      have hg2B : w.heap.size ≤ g2 := by have := hB.size; omega
      rw [hg2] at hn0 ⊢
      obtain ⟨w3, hw3⟩ : ∃ W, wr.alloc (.cells Z.toArray 4) = W := ⟨_, rfl⟩
      rw [hw3] at hn0 hrowA hBA ⊢
      clear hbA hrow hB hg2 hw3
      go_wp2_with fail
      go_loopw [8] (fun v8 wx => ∃ k : Nat, k ≤ s.size + 1 ∧ v8 = .int .i64 k ∧ RowTo wx g2 (s.size + 1) k (bRow c s (i + 1)) ∧ RowTo wx g (s.size + 1) (s.size + 1) (bRow c s i) ∧ Below w.heap.size w wx) (fun v8 _ => s.size + 1 - (intOf v8).toNat)
      case atStart => exact ⟨0, by omega, rfl, hn0, hrowA, hBA⟩
      case round =>
        clear hn0 hrowA hBA
        obtain ⟨k, hk, rfl, hn, hr, hB⟩ := hrel
        have k0 : (0 : Int) ≤ (k : Int) := Int.natCast_nonneg _
        by_cases hle : k ≤ s.size
        · have k1 : (k : Int) ≤ (s.size : Int) := by omega
          have k2 : (k : Int) < (s.size : Int) + 1 := by omega
          have HST := Lib.hid (fun (W : World) (b : Bool) (hn' : RowTo W g2 (s.size + 1) k (bRow c s (i + 1))) (hr' : RowTo W g (s.size + 1) (s.size + 1) (bRow c s i)) (hB' : Below w.heap.size w W) (hv : bRow c s (i + 1) k = b) =>
            (⟨hn'.set_ (by omega) hv, hr'.far hgg _, hB'.setCell hg2B _⟩ : RowTo (W.setCell ⟨g2, k, none⟩ (.bool b)) g2 (s.size + 1) (k + 1) (bRow c s (i + 1)) ∧ RowTo (W.setCell ⟨g2, k, none⟩ (.bool b)) g (s.size + 1) (s.size + 1) (bRow c s i) ∧ Below w.heap.size w (W.setCell ⟨g2, k, none⟩ (.bool b))))
          obtain ⟨b1, t1, z1⟩ := hn.there (k := k) (by omega)
          have hcb := hr.cell (k := k) (by omega)
          have HN := Lib.hid (And.intro hn (And.intro hr hB))
          by_cases h42 : c[i] = 42
          · have p2 : ((c[i].toNat : Int) == 42) = true := by rw [h42]; rfl
            have p1 : c[i].toNat = 42 := by rw [h42]; rfl
            have hstar : bStar (c.data.toList[i]'hcl) = true := decide_eq_true h42
            cases k with
            | zero =>
              have hv := gRow_star_zero (one := bOne) (S := s.data.toList) hcl hstar
              change bRow c s (i + 1) 0 = bRow c s i 0 at hv
              obtain ⟨v, ev⟩ : ∃ v, bRow c s i 0 = v := ⟨_, rfl⟩
              rw [ev] at hcb hv
              have HV := Lib.hid hv
              clear hv ev hstar h42 hn hr hB
              cases v <;>
              (go_wp2_with fail
               go_roundw
               case rel => exact ⟨1, by omega, rfl, HST.out wr _ HN.out.1 HN.out.2.1 HN.out.2.2 HV.out⟩
               case measure => simp [intOf])
            | succ m =>
              have hv := gRow_star_succ (one := bOne) (m := m) hcl (show m + 1 ≤ s.data.toList.length by rw [data_len]; omega) hstar
              change bRow c s (i + 1) (m + 1) = (bRow c s i (m + 1) || bRow c s (i + 1) m) at hv
              have hcn := hn.cell (k := m) (by omega)
              obtain ⟨v, ev⟩ : ∃ v, bRow c s i (m + 1) = v := ⟨_, rfl⟩
              obtain ⟨u, eu⟩ : ∃ u, bRow c s (i + 1) m = u := ⟨_, rfl⟩
              rw [ev] at hcb hv
              rw [eu] at hcn hv
              have m0 : (0 : Int) ≤ (m : Int) := Int.natCast_nonneg _
              have m1 : (0 : Int) < (m : Int) + 1 := by omega
              have ew : IntKind.i64.wrap ((m : Int) + 1 - 1) = (m : Int) := by simp [IntKind.wrap, IntKind.bits, IntKind.signed]; omega
              have et : ((m : Int) + 1).toNat = m + 1 := by omega
              have m2 : (m : Int) + 1 ≤ (s.size : Int) := by omega
              have m3 : (m : Int) < (s.size : Int) + 1 := by omega
              have m4 : (m : Int) + 1 < (s.size : Int) + 1 := by omega
              have HV := Lib.hid hv
              clear hv ev eu hstar h42 hn hr hB k0 k1 k2
              cases v <;> cases u <;>
              (go_wp2_with fail
               go_roundw
               case rel => exact ⟨m + 1 + 1, by omega, by go_num, HST.out wr _ HN.out.1 HN.out.2.1 HN.out.2.2 HV.out⟩
               case measure => simp [intOf]; omega)
          · have p1 : ¬ c[i].toNat = 42 := fun e => h42 (UInt8.toNat_inj.1 e)
            have p2 : ((c[i].toNat : Int) == 42) = false := by rw [beq_eq_false_iff_ne]; omega
            have hstar : bStar (c.data.toList[i]'hcl) = false := decide_eq_false h42
            cases k with
            | zero =>
              have hv := gRow_one_zero (one := bOne) (S := s.data.toList) hcl hstar
              change bRow c s (i + 1) 0 = false at hv
              have HV := Lib.hid hv
              clear hv hstar h42 hn hr hB hcb
              go_wp2_with fail
              go_region
              go_wp2_with fail
              go_roundw
              case rel =>
                obtain ⟨r1, r2, r3⟩ := HST.out wr false HN.out.1 HN.out.2.1 HN.out.2.2 HV.out
                exact ⟨1, by omega, rfl, r1, r2, r3.drew⟩
              case measure => simp [intOf]
            | succ m =>
              have hms : m < s.size := by omega
              have hsl : m < s.data.toList.length := by rw [data_len]; exact hms
              have hv := gRow_one_succ (one := bOne) (m := m) hcl hsl hstar
              change bRow c s (i + 1) (m + 1) = (bRow c s i m && bOne c[i] s[m]) at hv
              have hcm := hr.cell (k := m) (by omega)
              obtain ⟨v, ev⟩ : ∃ v, bRow c s i m = v := ⟨_, rfl⟩
              rw [ev] at hcm hv
              have m0 : (0 : Int) ≤ (m : Int) := Int.natCast_nonneg _
              have m1 : (0 : Int) < (m : Int) + 1 := by omega
              have ew : IntKind.i64.wrap ((m : Int) + 1 - 1) = (m : Int) := by simp [IntKind.wrap, IntKind.bits, IntKind.signed]; omega
              have et : ((m : Int) + 1).toNat = m + 1 := by omega
              have m2 : (m : Int) + 1 ≤ (s.size : Int) := by omega
              have m3 : (m : Int) < (s.size : Int) + 1 := by omega
              have m4 : (m : Int) + 1 < (s.size : Int) + 1 := by omega
              have m5 : (m : Int) < (s.size : Int) := by omega
              clear ev hstar h42 hn hr hB k0 k1 k2 hcb
              cases v with
              | false =>
                have HV := Lib.hid (show bRow c s (i + 1) (m + 1) = false from hv)
                clear hv
                go_wp2_with fail
                go_region
                go_wp2_with fail
                go_roundw
                case rel =>
                  obtain ⟨r1, r2, r3⟩ := HST.out wr false HN.out.1 HN.out.2.1 HN.out.2.2 HV.out
                  exact ⟨m + 1 + 1, by omega, by go_num, r1, r2, r3.drew⟩
                case measure => simp [intOf]; omega
              | true =>
                rw [Bool.true_and] at hv
                unfold bOne at hv
                by_cases h63 : c[i] = 63
                · have p3 : c[i].toNat = 63 := by rw [h63]; rfl
                  have p4 : ((c[i].toNat : Int) == 63) = true := by rw [p3]; rfl
                  have HV := Lib.hid (show bRow c s (i + 1) (m + 1) = true by rw [hv, decide_eq_true h63]; rfl)
                  clear hv h63 p1 p2
                  go_wp2_with fail
                  go_region
                  go_wp2_with fail
                  go_roundw
                  case rel =>
                    obtain ⟨r1, r2, r3⟩ := HST.out wr true HN.out.1 HN.out.2.1 HN.out.2.2 HV.out
                    exact ⟨m + 1 + 1, by omega, by go_num, r1, r2, r3.drew⟩
                  case measure => simp [intOf]; omega
                · have p3 : ¬ c[i].toNat = 63 := fun e => h63 (UInt8.toNat_inj.1 e)
                  have p4 : ((c[i].toNat : Int) == 63) = false := by rw [beq_eq_false_iff_ne]; omega
                  by_cases hcs : c[i] = s[m]
                  · have p5 : ((c[i].toNat : Int) == (s[m].toNat : Int)) = true := by rw [hcs]; simp
                    have HV := Lib.hid (show bRow c s (i + 1) (m + 1) = true by rw [hv, decide_eq_true hcs, Bool.or_true])
                    clear hv h63 hcs
                    go_wp2_with fail
                    go_region
                    go_wp2_with fail
                    go_roundw
                    case rel =>
                      obtain ⟨r1, r2, r3⟩ := HST.out wr true HN.out.1 HN.out.2.1 HN.out.2.2 HV.out
                      exact ⟨m + 1 + 1, by omega, by go_num, r1, r2, r3.drew⟩
                    case measure => simp [intOf]; omega
                  · have p6 : ¬ c[i].toNat = s[m].toNat := fun e => hcs (UInt8.toNat_inj.1 e)
                    have p5 : ((c[i].toNat : Int) == (s[m].toNat : Int)) = false := by rw [beq_eq_false_iff_ne]; omega
                    have HV := Lib.hid (show bRow c s (i + 1) (m + 1) = false by rw [hv, decide_eq_false h63, decide_eq_false hcs]; rfl)
                    clear hv h63 hcs
                    go_wp2_with fail
                    go_region
                    go_wp2_with fail
                    go_roundw
                    case rel =>
                      obtain ⟨r1, r2, r3⟩ := HST.out wr false HN.out.1 HN.out.2.1 HN.out.2.2 HV.out
                      exact ⟨m + 1 + 1, by omega, by go_num, r1, r2, r3.drew⟩
                    case measure => simp [intOf]; omega
        · obtain rfl : k = s.size + 1 := by omega
          have k1 : ¬ (s.size : Int) + 1 ≤ (s.size : Int) := by omega
          have HN := Lib.hid (And.intro hn hB)
          clear hn hr hB
          go_wp2_with fail
          go_roundw
          case rel => exact ⟨i + 1, g2, by omega, hg2B, by go_num, rfl, HN.out.1, HN.out.2⟩
          case measure => simp [intOf]; omega
    · obtain rfl : i = c.size := by omega
      have hv := bRow_all c s
      rw [HR.out] at hv
      have hce := hrow.cell (k := s.size) (by omega)
      rw [hv] at hce
      have s1 : (0 : Int) ≤ (s.size : Int) := Int.natCast_nonneg _
      have s2 : (s.size : Int) < (s.size : Int) + 1 := by omega
      have HB := Lib.hid hB
      clear hv hrow hB
      go_wp2_with fail
      go_ret
      exact ⟨rfl, HB.out⟩

end Go.Proofs.YtdbikaffmpkgpaaDoor
