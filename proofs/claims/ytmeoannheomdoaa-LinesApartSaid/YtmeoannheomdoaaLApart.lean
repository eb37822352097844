/- LinesApart: in a text of different lines, a change of one line and a change of another line are both made if there is a line between them, and otherwise contradict each other. For all arguments. -/
import Derived.Test.YtmeoannheomdoaaNumbered
import Derived.Test.YtmeoannheomdoaaMine
import Derived.Test.YtmeoannheomdoaaSane
namespace Go.Proofs.Ytmeoannheomdoaa.lapart
open Go.ChangeShapes Go.WideShapes Go.ChangeAt Go.RowKit

def leftS : ByteArray := ⟨#[108, 101, 102, 116, 10]⟩
def rightS : ByteArray := ⟨#[114, 105, 103, 104, 116, 10]⟩
theorem left_line : IsLine leftS := ⟨[108, 101, 102, 116], rfl, by decide⟩
theorem right_line : IsLine rightS := ⟨[114, 105, 103, 104, 116], rfl, by decide⟩
theorem not_left (n : Nat) (hn : n ≤ 99) : leftS ∉ numL n := fun h => absurd (numL_size n hn _ h) (by decide)
theorem not_right (n : Nat) (hn : n ≤ 99) : rightS ∉ numL n := fun h => absurd (numL_size n hn _ h) (by decide)
theorem set_lines {L : List ByteArray} (h : ∀ x ∈ L, IsLine x) (i : Nat) {y : ByteArray} (hy : IsLine y) : ∀ x ∈ L.set i y, IsLine x := fun x hx => (List.mem_or_eq_of_mem_set hx).elim (h x) fun e => e ▸ hy
theorem set_small {L : List ByteArray} (h : ∀ x ∈ L, x.size ≤ 8) (i : Nat) {y : ByteArray} (hy : y.size ≤ 8) : ∀ x ∈ L.set i y, x.size ≤ 8 := fun x hx => (List.mem_or_eq_of_mem_set hx).elim (h x) fun e => e ▸ hy
theorem cat_small {L : List ByteArray} (h : ∀ x ∈ L, x.size ≤ 8) (hl : L.length ≤ 200) : (cat L).length ≤ 1600 := by
  have := cat_len 8 L h
  omega
theorem text_size {L : List ByteArray} (h : ∀ x ∈ L, x.size ≤ 8) (hl : L.length ≤ 200) : (textS L false).size ≤ 1600 := by
  unfold textS
  rw [if_neg (by simp), str_size]
  exact cat_small h hl

/-- what the merge gives -/
theorem merge_two (M i j : Nat) (hM : M ≤ 99) (hi : i < M) (hj : j < M) (w : World) :
    Calls Try.prog 29 #[.string (textS (numL M) false), .string (textS ((numL M).set i leftS) false), .string (textS ((numL M).set j rightS) false)] w
      (MergeOut w (if i + 1 < j ∨ j + 1 < i then (cat (((numL M).set i leftS).set j rightS), []) else ([], [(min i j, max i j + 1)]))) := by
  have hl := numL_lines M hM
  have hs : ∀ x ∈ numL M, x.size ≤ 8 := fun x hx => Nat.le_of_eq (numL_size M hM x hx)
  have hn := numL_len M
  have h := merge_any (textS (numL M) false) (textS ((numL M).set i leftS) false) (textS ((numL M).set j rightS) false) w
    (by have := text_size hs (by omega); omega) (by have := text_size (set_small hs i (show leftS.size ≤ 8 by decide)) (by simp; omega); omega) (by have := text_size (set_small hs j (show rightS.size ≤ 8 by decide)) (by simp; omega); omega)
  have hm : mergeS (textS (numL M) false) (textS ((numL M).set i leftS) false) (textS ((numL M).set j rightS) false) = if i + 1 < j ∨ j + 1 < i then (cat (((numL M).set i leftS).set j rightS), []) else ([], [(min i j, max i j + 1)]) := by
    unfold mergeS
    rw [splitS_text _ hl, splitS_text _ (set_lines hl i left_line), splitS_text _ (set_lines hl j right_line)]
    split
    · rename_i hc
      exact merge_apart _ i j _ _ (by omega) (by omega) (not_left M hM) (not_right M hM) hc
    · exact merge_touch _ i j _ _ (by omega) (by omega) (not_left M hM) (not_right M hM) (by decide) (by omega) (by omega)
  rwa [hm] at h

theorem strs_keep {w w' : World} {A : Option Addr} {c : Nat} {L : List ByteArray} (h : Strs w w.heap.size A c L) (hb : Below w.heap.size w w') : Strs w' w.heap.size A c L := Row.below h hb (Nat.le_refl _)
theorem text_at {B : Nat} (A : Option Addr) (c : Nat) {L : List ByteArray} (n : Nat) (cut : Bool) (w : World) (hA : Strs w B A c L) (hn : L.length = n) (hn2 : n ≤ 1000) (hz : (cat L).length ≤ 1600) :
    Calls Try.prog 19 #[.slice A n c, .bool cut] w fun e w' => e = .returned (.string (textS L cut)) ∧ w = w' := by
  subst hn
  exact text_any B A L c cut w hA (by omega) (by omega)
theorem merge_txt {b l r T : ByteArray} {w : World} {R : List UInt8} {C : List (Nat × Nat)} (hnil : C = []) (hT : str R = T) (h : Calls Try.prog 29 #[.string b, .string l, .string r] w (MergeOut w (R, C))) : Calls Try.prog 29 #[.string b, .string l, .string r] w (MergeOut2 w T 0 []) := by
  subst hnil hT
  exact h
theorem merge_conf {b l r : ByteArray} {w : World} {p : Nat × Nat} (h : Calls Try.prog 29 #[.string b, .string l, .string r] w (MergeOut w ([], [p]))) : Calls Try.prog 29 #[.string b, .string l, .string r] w (MergeOut2 w ⟨#[]⟩ 1 [p]) := h
def NumOut (w : World) (M : Nat) (e : Ending) (w' : World) : Prop := ∃ A c, e = .returned (.slice A M c) ∧ Strs w' w'.heap.size A c (numL M) ∧ Below w.heap.size w w'
theorem numbered_at (M : Nat) (w : World) (hM : M ≤ 99) : Calls Try.prog 32 #[.int .i64 M] w (NumOut w M) := by
  refine (numbered_any M w hM).mono ?_
  rintro e w' ⟨A, c, rfl, ho, hb⟩
  have hs := (Strs.own ho).2
  rw [numL_len] at ho ⊢
  exact ⟨A, c, rfl, hs, hb⟩
set_option maxRecDepth 100000 in
set_option maxHeartbeats 4000000 in
theorem walk (n a b : Int) (w : World) (hn : 0 ≤ n ∧ n ≤ 255) (ha : 0 ≤ a ∧ a ≤ 255) (hb : 0 ≤ b ∧ b ≤ 255) : Calls Try.prog 11 #[.int .u8 n, .agg #[.int .u8 a, .int .u8 b]] w (BoolB w true) := by
  obtain ⟨p, hp⟩ : ∃ p : Nat, n % 89 = (p : Int) := ⟨(n % 89).toNat, by omega⟩
  have hp9 : p ≤ 88 := by omega
  obtain ⟨M, hM⟩ : ∃ M : Nat, 2 + p = M := ⟨_, rfl⟩
  have hMI : 2 + (p : Int) = (M : Int) := by omega
  have hM2 : 2 ≤ M := by omega
  have hM9 : M ≤ 90 := by omega
  have hM0 : ¬ (M : Int) = 0 := by omega
  have hM1 : ((M : Int) == 0) = false := by rw [beq_eq_false_iff_ne]; exact hM0
  have mod : ∀ z : Int, 0 ≤ z → ∃ k : Nat, z.tmod (M : Int) = (k : Int) ∧ k < M := fun z hz => by
    rw [Int.tmod_eq_emod_of_nonneg hz]
    have h1 := Int.emod_nonneg z hM0
    have h2 := Int.emod_lt_of_pos z (b := (M : Int)) (by omega)
    exact ⟨(z % (M : Int)).toNat, by omega, by omega⟩
  obtain ⟨i, hti, hi⟩ := mod a ha.1
  obtain ⟨j, htj, hj⟩ := mod b hb.1
  have hwi : IntKind.i64.wrap (i : Int) = (i : Int) := by simp [IntKind.wrap, IntKind.bits, IntKind.signed]; omega
  have hwj : IntKind.i64.wrap (j : Int) = (j : Int) := by simp [IntKind.wrap, IntKind.bits, IntKind.signed]; omega
  clear mod
  have S := Lib.hid (fun W => sane_any W)
  have NB := Lib.hid (fun W => numbered_at M W (by omega))
  have HL := Lib.hid (numL_len M)
  obtain ⟨i9, hi9, hz0, hz1, hz2⟩ := info_parts info9
  have HB0 := Full.new w 52 [.int .u8 a, .int .u8 b]
  have hB0 : Below w.heap.size w (w.alloc (.cells #[.int .u8 a, .int .u8 b] 52)) := (Below.refl _ w).alloc (Nat.le_refl _) _
  have HF := Lib.hid HB0
  have HB := Lib.hid hB0
  clear HB0 hB0 hM
  go_enter Try.func11, Try.ntmps11
  go_wp2_with (first
    | (go_at_call 15; ((with_reducible refine (S.out _).mono ?_); rintro e' w1 ⟨rfl, hb1⟩); (have HF1 := Lib.hid (HF.out.on hb1)); (have HB1 := Lib.hid (Below.then_ HB.out hb1)); (have q0 : w1.cell? ⟨w.heap.size, 0, none⟩ = some (.int .u8 a) := HF1.out.cell 0); (have q1 : w1.cell? ⟨w.heap.size, 1, none⟩ = some (.int .u8 b) := HF1.out.cell 1)))
  go_quiet (fail)
  obtain ⟨w1', hw1⟩ : ∃ w1', w1.drewN nq = w1' := ⟨_, rfl⟩
  have hB1 : Below w.heap.size w (w1.drewN nq) := Below.drewN_ HB1.out nq
  rw [hw1] at hB1 ⊢
  clear hw1 q0 q1 hti htj
  go_upto_region 6 with (first
    | (go_at_call 32; ((with_reducible refine (NB.out _).mono ?_); rintro e' w2 ⟨A, c, rfl, hS2, hb2⟩); (obtain ⟨ad, rfl, -, -⟩ := hS2.at_ (k := 0) (by rw [HL.out]; omega)); (have HB2 := Lib.hid (Below.then_ hB1 hb2)))
    | (at_builtin; refine wpList_append_own_at _ rfl _ _ 23 rfl w2.heap.size 9 i9 _ 1 16 Try.underlying23 hi9 hz0 hz1 hz2 rfl (by decide) (.slice (some ⟨w2.heap.size, 0, none⟩) 0 0) 0 [] rfl (empty_row w2) ad M c (strC (numL M)) rfl (by rw [strC_len, HL.out, Nat.mul_one]) (strs_cells hS2 (Nat.le_refl _) _) (strC_one _) (by unfold maxLen; omega) (by omega) (by simp) ?_; intro v3 w3 ho3 hg3 hn3 _; obtain ⟨gl, cl, rfl, hL3, hbl⟩ := copy_step ho3 hg3 hn3; have hS3 := strs_on hS2 hbl; have HB3 := Lib.hid (Below.then_ HB2.out hbl))
    | (at_builtin; refine wpList_append_own_at _ rfl _ _ 23 rfl w3.heap.size 9 i9 _ 1 16 Try.underlying23 hi9 hz0 hz1 hz2 rfl (by decide) (.slice (some ⟨w3.heap.size, 0, none⟩) 0 0) 0 [] rfl (empty_row w3) ad M c (strC (numL M)) rfl (by rw [strC_len, HL.out, Nat.mul_one]) (strs_cells hS3 (Nat.le_refl _) _) (strC_one _) (by unfold maxLen; omega) (by omega) (by simp) ?_; intro v4 w4 ho4 hg4 hn4 _; obtain ⟨gr, cr, rfl, hR4, hbr⟩ := copy_step ho4 hg4 hn4; have hS4 := strs_on hS3 hbr; have hL4 := hL3.on hbr; have HB4 := Lib.hid (Below.then_ HB3.out hbr))
    | (at_builtin; refine wpList_append_own_at _ rfl _ _ 23 rfl w4.heap.size 9 i9 _ 1 16 Try.underlying23 hi9 hz0 hz1 hz2 rfl (by decide) (.slice (some ⟨w4.heap.size, 0, none⟩) 0 0) 0 [] rfl (empty_row w4) ad M c (strC (numL M)) rfl (by rw [strC_len, HL.out, Nat.mul_one]) (strs_cells hS4 (Nat.le_refl _) _) (strC_one _) (by unfold maxLen; omega) (by omega) (by simp) ?_; intro v5 w5 ho5 hg5 hn5 _; obtain ⟨gb, cb, rfl, hX5, hbx⟩ := copy_step ho5 hg5 hn5; have hS5 := strs_on hS4 hbx; have hL5 := hL4.on hbx; have hR5 := hR4.on hbx; have HB5 := Lib.hid (Below.then_ HB4.out hbx)))
  have k1 : gl < gr := Nat.lt_of_lt_of_le hL3.lt hR4.ge
  have k2 : gr < gb := Nat.lt_of_lt_of_le hR4.lt hX5.ge
  have hil : i < (numL M).length := by rw [HL.out]; exact hi
  have hjl : j < (numL M).length := by rw [HL.out]; exact hj
  have a0 := hL5.cell hil
  have z0 := hL5.frozen i
  have L6 := hL5.set_ i ⟨#[108, 101, 102, 116, 10]⟩
  have R6 := hR5.far (g' := gl) (by omega) i ⟨#[108, 101, 102, 116, 10]⟩
  have X6 := hX5.far (g' := gl) (by omega) i ⟨#[108, 101, 102, 116, 10]⟩
  have a1 := R6.cell hjl
  have z1 := R6.frozen j
  have L7 := L6.far (g' := gr) (by omega) j ⟨#[114, 105, 103, 104, 116, 10]⟩
  have R7 := R6.set_ j ⟨#[114, 105, 103, 104, 116, 10]⟩
  have X7 := X6.far (g' := gr) (by omega) j ⟨#[114, 105, 103, 104, 116, 10]⟩
  have a2 := X7.cell hil
  have z2 := X7.frozen i
  have L8 := L7.far (g' := gb) (by omega) i ⟨#[108, 101, 102, 116, 10]⟩
  have R8 := R7.far (g' := gb) (by omega) i ⟨#[108, 101, 102, 116, 10]⟩
  have X8 := X7.set_ i ⟨#[108, 101, 102, 116, 10]⟩
  have a3 := X8.cell (k := j) (by rw [List.length_set]; exact hjl)
  have z3 := X8.frozen j
  have L9 := L8.far (g' := gb) (by omega) j ⟨#[114, 105, 103, 104, 116, 10]⟩
  have R9 := R8.far (g' := gb) (by omega) j ⟨#[114, 105, 103, 104, 116, 10]⟩
  have X9 := X8.set_ j ⟨#[114, 105, 103, 104, 116, 10]⟩
  obtain ⟨s0, e0⟩ : ∃ x, w5.cell? ⟨gl, i, none⟩ = some (.string x) := ⟨_, a0⟩
  obtain ⟨s1, e1⟩ : ∃ x, (w5.setCell ⟨gl, i, none⟩ (.string ⟨#[108, 101, 102, 116, 10]⟩)).cell? ⟨gr, j, none⟩ = some (.string x) := ⟨_, a1⟩
  obtain ⟨s2, e2⟩ : ∃ x, ((w5.setCell ⟨gl, i, none⟩ (.string ⟨#[108, 101, 102, 116, 10]⟩)).setCell ⟨gr, j, none⟩ (.string ⟨#[114, 105, 103, 104, 116, 10]⟩)).cell? ⟨gb, i, none⟩ = some (.string x) := ⟨_, a2⟩
  obtain ⟨s3, e3⟩ : ∃ x, (((w5.setCell ⟨gl, i, none⟩ (.string ⟨#[108, 101, 102, 116, 10]⟩)).setCell ⟨gr, j, none⟩ (.string ⟨#[114, 105, 103, 104, 116, 10]⟩)).setCell ⟨gb, i, none⟩ (.string ⟨#[108, 101, 102, 116, 10]⟩)).cell? ⟨gb, j, none⟩ = some (.string x) := ⟨_, a3⟩
  have hge : w2.heap.size ≤ gl := hL3.ge
  have h2w := HB2.out.size
  have b25 : Below w2.heap.size w2 w5 := Below.then_ (Below.then_ hbl hbr) hbx
  have b29 : Below w2.heap.size w2 ((((w5.setCell ⟨gl, i, none⟩ (.string ⟨#[108, 101, 102, 116, 10]⟩)).setCell ⟨gr, j, none⟩ (.string ⟨#[114, 105, 103, 104, 116, 10]⟩)).setCell ⟨gb, i, none⟩ (.string ⟨#[108, 101, 102, 116, 10]⟩)).setCell ⟨gb, j, none⟩ (.string ⟨#[114, 105, 103, 104, 116, 10]⟩)) := (((b25.setCell (show w2.heap.size ≤ gl by omega) _).setCell (show w2.heap.size ≤ gr by omega) _).setCell (show w2.heap.size ≤ gb by omega) _).setCell (show w2.heap.size ≤ gb by omega) _
  have b09 : Below w.heap.size w ((((w5.setCell ⟨gl, i, none⟩ (.string ⟨#[108, 101, 102, 116, 10]⟩)).setCell ⟨gr, j, none⟩ (.string ⟨#[114, 105, 103, 104, 116, 10]⟩)).setCell ⟨gb, i, none⟩ (.string ⟨#[108, 101, 102, 116, 10]⟩)).setCell ⟨gb, j, none⟩ (.string ⟨#[114, 105, 103, 104, 116, 10]⟩)) := (((HB5.out.setCell (show w.heap.size ≤ gl by omega) _).setCell (show w.heap.size ≤ gr by omega) _).setCell (show w.heap.size ≤ gb by omega) _).setCell (show w.heap.size ≤ gb by omega) _
  have S9 := strs_keep hS2 b29
  have l9 := L9.strs
  have r9 := R9.strs
  have x9 := X9.strs
  clear a0 a1 a2 a3 L6 L7 L8 L9 R6 R7 R8 R9 X6 X7 X8 X9 hL3 hR4 hX5 hL4 hL5 hR5 hS2 hS3 hS4 hS5 b25 b29 hbl hbr hbx hB1 hge h2w hil hjl k1 k2
  have hi0 : (0 : Int) ≤ (i : Int) := Int.natCast_nonneg _
  have hj0 : (0 : Int) ≤ (j : Int) := Int.natCast_nonneg _
  have hi1 : (i : Int) < (M : Int) := by omega
  have hj1 : (j : Int) < (M : Int) := by omega
  have LS9 := Lib.hid S9
  have LL9 := Lib.hid l9
  have LR9 := Lib.hid r9
  have LX9 := Lib.hid x9
  have LB9 := Lib.hid b09
  clear S9 l9 r9 x9 b09
  go_upto_region 8 with (fail)
  obtain ⟨w9, hw9⟩ : ∃ w9, ((((w5.setCell ⟨gl, i, none⟩ (.string ⟨#[108, 101, 102, 116, 10]⟩)).setCell ⟨gr, j, none⟩ (.string ⟨#[114, 105, 103, 104, 116, 10]⟩)).setCell ⟨gb, i, none⟩ (.string ⟨#[108, 101, 102, 116, 10]⟩)).setCell ⟨gb, j, none⟩ (.string ⟨#[114, 105, 103, 104, 116, 10]⟩)) = w9 := ⟨_, rfl⟩
  rw [hw9] at LS9 LL9 LR9 LX9 LB9 ⊢
  clear hw9 e0 e1 e2 e3 z0 z1 z2 z3
  have hs := fun x hx => Nat.le_of_eq (numL_size M (by omega) x hx)
  have hnl : (numL M).length ≤ 100 := by rw [HL.out]; omega
  have t1 := text_at _ _ M false w9 LS9.out HL.out (by omega) (cat_small hs (by omega))
  have t2 := text_at _ _ M false w9 LL9.out (by rw [List.length_set]; exact HL.out) (by omega) (cat_small (set_small hs i (by decide)) (by rw [List.length_set]; omega))
  have t3 := text_at _ _ M false w9 LR9.out (by rw [List.length_set]; exact HL.out) (by omega) (cat_small (set_small hs j (by decide)) (by rw [List.length_set]; omega))
  have t4 := fun (W : World) (hW : Below w9.heap.size w9 W) => text_at _ _ M false W (strs_on LX9.out hW) (by rw [List.length_set, List.length_set]; exact HL.out) (by omega) (cat_small (set_small (set_small hs i (by decide)) j (by decide)) (by rw [List.length_set, List.length_set]; omega))
  have mg := fun W => merge_two M i j (by omega) hi hj W
  unfold leftS rightS at mg
  clear hs
  obtain ⟨TB, HTB⟩ : ∃ T, Hid (textS (numL M) false = T) := ⟨_, Lib.hid rfl⟩
  obtain ⟨TL, HTL⟩ : ∃ T, Hid (textS ((numL M).set i ⟨#[108, 101, 102, 116, 10]⟩) false = T) := ⟨_, Lib.hid rfl⟩
  obtain ⟨TR, HTR⟩ : ∃ T, Hid (textS ((numL M).set j ⟨#[114, 105, 103, 104, 116, 10]⟩) false = T) := ⟨_, Lib.hid rfl⟩
  obtain ⟨TX, HTX⟩ : ∃ T, Hid (textS (((numL M).set i ⟨#[108, 101, 102, 116, 10]⟩).set j ⟨#[114, 105, 103, 104, 116, 10]⟩) false = T) := ⟨_, Lib.hid rfl⟩
  rw [HTB.out] at t1 mg
  rw [HTL.out] at t2 mg
  rw [HTR.out] at t3 mg
  rw [HTX.out] at t4
  have T1 := Lib.hid t1
  have T2 := Lib.hid t2
  have T3 := Lib.hid t3
  have T4 := Lib.hid t4
  clear t1 t2 t3 t4
  by_cases hc : i + 1 < j ∨ j + 1 < i
  · have mg2 := fun W => merge_txt (hnil := rfl) (show str (cat (((numL M).set i ⟨#[108, 101, 102, 116, 10]⟩).set j ⟨#[114, 105, 103, 104, 116, 10]⟩)) = TX from by rw [← HTX.out]; unfold textS; rw [if_neg (by simp)]) (by have := mg W; rw [if_pos hc] at this; exact this)
    have MG := Lib.hid mg2
    have hbeq : (TX.toList == TX.toList) = true := by simp
    clear mg mg2
    rcases hc with hc | hc
    · have d1 : ¬ 1 < (i : Int) - (j : Int) := by omega
      have d2 : 1 < (j : Int) - (i : Int) := by omega
      go_wp2_with (first
        | (go_at_call 19; ((with_reducible refine T1.out.mono ?_); rintro e' wt ⟨rfl, rfl⟩))
        | (go_at_call 19; ((with_reducible refine T2.out.mono ?_); rintro e' wt ⟨rfl, rfl⟩))
        | (go_at_call 19; ((with_reducible refine T3.out.mono ?_); rintro e' wt ⟨rfl, rfl⟩))
        | (go_at_call 29; ((with_reducible refine (MG.out _).mono ?_); rintro e' wm ⟨A7, c7, rfl, hsp, hbm⟩))
        | (go_at_call 19; ((with_reducible refine (T4.out _ hbm).mono ?_); rintro e' wt ⟨rfl, rfl⟩)))
      go_ret
      exact ⟨rfl, Below.then_ LB9.out hbm⟩
    · have d1 : 1 < (i : Int) - (j : Int) := by omega
      go_wp2_with (first
        | (go_at_call 19; ((with_reducible refine T1.out.mono ?_); rintro e' wt ⟨rfl, rfl⟩))
        | (go_at_call 19; ((with_reducible refine T2.out.mono ?_); rintro e' wt ⟨rfl, rfl⟩))
        | (go_at_call 19; ((with_reducible refine T3.out.mono ?_); rintro e' wt ⟨rfl, rfl⟩))
        | (go_at_call 29; ((with_reducible refine (MG.out _).mono ?_); rintro e' wm ⟨A7, c7, rfl, hsp, hbm⟩))
        | (go_at_call 19; ((with_reducible refine (T4.out _ hbm).mono ?_); rintro e' wt ⟨rfl, rfl⟩)))
      go_ret
      exact ⟨rfl, Below.then_ LB9.out hbm⟩
  · have mg2 := fun W => merge_conf (by have := mg W; rw [if_neg hc] at this; exact this)
    have MG := Lib.hid mg2
    have n1 : ((min i j : Nat) : Int) = min (i : Int) (j : Int) := by omega
    have n2 : ((max i j + 1 : Nat) : Int) = max (i : Int) (j : Int) + 1 := by omega
    have s2 := fun (W : World) (A : Option Addr) (c : Nat) (h : Sps W W.heap.size A c [(min i j, max i j + 1)]) => spans2 (W.heap.size + 1) 1 1 A _ _ c 1 _ (Row.more (Row.alloc h (Nat.le_refl _) _) (Nat.le_succ _)) (sp_lit W (min i j) (max i j + 1)) rfl rfl (by simp)
    rw [n1, n2] at s2
    have S2 := Lib.hid s2
    clear mg mg2 s2 n1 n2
    have d1 : ¬ 1 < (i : Int) - (j : Int) := by omega
    have d2 : ¬ 1 < (j : Int) - (i : Int) := by omega
    go_wp2_with (first
      | (go_at_call 19; ((with_reducible refine T1.out.mono ?_); rintro e' wt ⟨rfl, rfl⟩))
      | (go_at_call 19; ((with_reducible refine T2.out.mono ?_); rintro e' wt ⟨rfl, rfl⟩))
      | (go_at_call 19; ((with_reducible refine T3.out.mono ?_); rintro e' wt ⟨rfl, rfl⟩))
      | (go_at_call 29; ((with_reducible refine (MG.out _).mono ?_); rintro e' wm ⟨A7, c7, rfl, hsp, hbm⟩))
      | (go_at_call 31; ((with_reducible refine (S2.out _ _ _ hsp).mono ?_); rintro e' ws ⟨rfl, hbs⟩)))
    go_ret
    exact ⟨rfl, Below.then_ (Below.then_ LB9.out hbm) (Below.then_ ((Below.refl _ wm).alloc (Nat.le_refl _) _) hbs)⟩
theorem contract (H : Type) (enc : TypeId × Value → H) (W : World) (base : Nat) (args : Array Value) (ds gs : List (DataW H)) (before : List MemPlace)
    (hval : ∀ (j : Nat) t v, Try.f11.params[j]? = some t → args[j]? = some v → Value.okWide Try.prog W .any base t v)
    (hW : DataW.Whole enc Try.prog Try.f11.params.toList Rows.linesApartSpec.vars false W args.toList ds gs before) :
    Calls Try.prog 11 args W fun e W' => ∃ v, e = .returned v ∧ Rows.linesApartSpec.post enc Try.prog Try.f11 false true false false W args v W' := by
  have hW' := hW
  obtain ⟨p, q, hA0, hV, rfl, hfz, hnd⟩ := hW
  have hA : DataW.TrodAll enc Try.prog W 0 (fun _ => true) true Try.f11.params.toList args.toList ds p := hA0
  rw [Try.params11] at hA hval
  obtain ⟨v0, vs0, d0, ds0, p0, q0, e0, rfl, rfl, h0, r0⟩ := trodAll_cons hA
  obtain ⟨v1, vs1, d1, ds1, p1, q1, e1, rfl, rfl, h1, r1⟩ := trodAll_cons r0
  obtain ⟨rfl, rfl, rfl⟩ := trodAll_nil r1
  obtain rfl : args = #[v0, v1] := by cases args; simp_all
  obtain ⟨rfl, rfl⟩ := trodVars_none hV
  obtain ⟨x, rfl, rfl, rfl, hx⟩ := open_int Try.underlying5 (hval 0 5 v0 rfl rfl) h0
  obtain ⟨a, b, rfl, ha, hb⟩ := open_pair8 (hval 1 52 v1 rfl rfl) h1
  refine (walk x a b W (bd_u8 hx) ha hb).mono fun e W' ⟨he, hb⟩ => ⟨_, he, law_post rfl rfl ?_ rfl rfl rfl hW' hb⟩
  rw [Try.params11]
  intro t ht
  have ht' : t = 5 ∨ t = 52 := by simpa using ht
  rcases ht' with rfl | rfl <;> exact ⟨by kernel_rfl, of_decide_eq_true (by kernel_rfl)⟩

set_option maxRecDepth 100000 in
theorem lifted (os : Os) (started : os.Started) (H : Type) (enc : TypeId × Value → H) :
    ReturnsInHanded {} Try.checked os 11 .any (Rows.linesApartSpec.pre6 enc Try.prog Try.f11 Rows.linesApartRow.domain false) (Rows.linesApartSpec.post enc Try.prog Try.f11 false true false false) := by
  refine returnsInHanded_of_change (C := Try.checked) ownKnob_none started (by kernel_rfl) Try.func11
    (ChangeSpec.witness6 (enc := enc) (C := Try.checked) false ⟨#[], #[.int .u8 0, .agg #[.int .u8 0, .int .u8 0]], []⟩ 8 (by kernel_rfl) (by kernel_rfl) (by kernel_rfl) (by kernel_rfl)) ?_
  intro W base args ds gs before hval hW _ _
  exact contract H enc W base args ds gs before hval hW

theorem proved : Rows.LinesApartSaid :=
  OpenClaim.holds_of_wide 11 Try.f11 rfl rfl rfl rfl rfl rfl rfl ⟨rfl, rfl, rfl, rfl, rfl⟩ rfl rfl rfl rfl rfl (by kernel_rfl) Try.func11 (by kernel_rfl)
    (of_decide_eq_true (by kernel_rfl)) (by unfold Func.isWrapper; first | (rw [if_pos (by decide +kernel)]; kernel_rfl) | (rw [if_neg (by decide +kernel)]; exact ⟨rfl, rfl⟩))
    (fun os started H enc _ => lifted os started H enc)

end Go.Proofs.Ytmeoannheomdoaa.lapart
