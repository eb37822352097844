/- LinesInserted: lines that are inserted at different positions of a text of different lines are all there, in order; at the same position they contradict each other unless they are equal. For all arguments. -/
import Derived.Test.YtmeoannheomdoaaInsert
import Derived.Test.YtmeoannheomdoaaNumbered
import Derived.Test.YtmeoannheomdoaaSane
namespace Go.Proofs.Ytmeoannheomdoaa.linserted
open Go.ChangeShapes Go.WideShapes Go.ChangeAt Go.RowKit

theorem ins_lines {L : List ByteArray} (h : ∀ x ∈ L, IsLine x) (i : Nat) {y : ByteArray} (hy : IsLine y) : ∀ x ∈ insL L i y, IsLine x := fun x hx => by
  unfold insL at hx
  rcases List.mem_append.1 hx with hx | hx
  · exact h x (List.mem_of_mem_take hx)
  · rcases List.mem_cons.1 hx with rfl | hx
    · exact hy
    · exact h x (List.mem_of_mem_drop hx)
theorem ins_small {L : List ByteArray} (h : ∀ x ∈ L, x.size ≤ 8) (i : Nat) {y : ByteArray} (hy : y.size ≤ 8) : ∀ x ∈ insL L i y, x.size ≤ 8 := fun x hx => by
  unfold insL at hx
  rcases List.mem_append.1 hx with hx | hx
  · exact h x (List.mem_of_mem_take hx)
  · rcases List.mem_cons.1 hx with rfl | hx
    · exact hy
    · exact h x (List.mem_of_mem_drop hx)
theorem cat_small {L : List ByteArray} (h : ∀ x ∈ L, x.size ≤ 8) (hl : L.length ≤ 200) : (cat L).length ≤ 1600 := by
  have := cat_len 8 L h
  omega
theorem text_size {L : List ByteArray} (h : ∀ x ∈ L, x.size ≤ 8) (hl : L.length ≤ 200) : (textS L false).size ≤ 1600 := by
  unfold textS
  rw [if_neg (by simp), str_size]
  exact cat_small h hl
/-- a line that is none of the numbered ones -/
structure Odd (x : ByteArray) : Prop where
  line : IsLine x
  small : x.size ≤ 8
  no : ∀ n, n ≤ 99 → x ∉ numL n
theorem odd_new : Odd ⟨#[110, 101, 119, 10]⟩ := ⟨⟨[110, 101, 119], rfl, by decide⟩, by decide, fun n hn h => absurd (numL_size n hn _ h) (by decide)⟩
theorem odd_other : Odd ⟨#[111, 116, 104, 101, 114, 10]⟩ := ⟨⟨[111, 116, 104, 101, 114], rfl, by decide⟩, by decide, fun n hn h => absurd (numL_size n hn _ h) (by decide)⟩
theorem merge_two (M i j : Nat) (x y : ByteArray) (hM : M ≤ 99) (hi : i ≤ M) (hj : j ≤ M) (hx : Odd x) (hy : Odd y) (w : World) :
    Calls Try.prog 29 #[.string (textS (numL M) false), .string (textS (insL (numL M) i x) false), .string (textS (insL (numL M) j y) false)] w
      (MergeOut w (if i < j then (cat (insL (insL (numL M) i x) (j + 1) y), []) else if j < i then (cat (insL (insL (numL M) i x) j y), []) else if x = y then (cat (insL (numL M) i x), []) else ([], [(i, i)]))) := by
  have hl := numL_lines M hM
  have hs : ∀ x ∈ numL M, x.size ≤ 8 := fun x hx => Nat.le_of_eq (numL_size M hM x hx)
  have hn := numL_len M
  have h := merge_any (textS (numL M) false) (textS (insL (numL M) i x) false) (textS (insL (numL M) j y) false) w
    (by have := text_size hs (by omega); omega) (by have := text_size (ins_small hs i hx.small) (by rw [insL_len]; omega); omega) (by have := text_size (ins_small hs j hy.small) (by rw [insL_len]; omega); omega)
  have hm : mergeS (textS (numL M) false) (textS (insL (numL M) i x) false) (textS (insL (numL M) j y) false) = (if i < j then (cat (insL (insL (numL M) i x) (j + 1) y), []) else if j < i then (cat (insL (insL (numL M) i x) j y), []) else if x = y then (cat (insL (numL M) i x), []) else ([], [(i, i)])) := by
    unfold mergeS
    rw [splitS_text _ hl, splitS_text _ (ins_lines hl i hx.line), splitS_text _ (ins_lines hl j hy.line)]
    exact merge_ins _ i j x y (by omega) (by omega) (hx.no M hM) (hy.no M hM)
  rwa [hm] at h
theorem text_at {B : Nat} (A : Option Addr) (c : Nat) {L : List ByteArray} (n : Nat) (cut : Bool) (w : World) (hA : Strs w B A c L) (hn : L.length = n) (hn2 : n ≤ 1000) (hz : (cat L).length ≤ 1600) :
    Calls Try.prog 19 #[.slice A n c, .bool cut] w fun e w' => e = .returned (.string (textS L cut)) ∧ w = w' := by
  subst hn
  exact text_any B A L c cut w hA (by omega) (by omega)
theorem merge_txt {b l r T : ByteArray} {w : World} {R : List UInt8} {C : List (Nat × Nat)} (hnil : C = []) (hT : str R = T) (h : Calls Try.prog 29 #[.string b, .string l, .string r] w (MergeOut w (R, C))) : Calls Try.prog 29 #[.string b, .string l, .string r] w (MergeOut2 w T 0 []) := by
  subst hnil hT
  exact h
theorem merge_conf {b l r : ByteArray} {w : World} {p : Nat × Nat} (h : Calls Try.prog 29 #[.string b, .string l, .string r] w (MergeOut w ([], [p]))) : Calls Try.prog 29 #[.string b, .string l, .string r] w (MergeOut2 w ⟨#[]⟩ 1 [p]) := h
theorem strs_keep {w w' : World} {A : Option Addr} {c : Nat} {L : List ByteArray} (h : Strs w w.heap.size A c L) (hb : Below w.heap.size w w') : Strs w' w.heap.size A c L := Row.below h hb (Nat.le_refl _)
def NumOut (w : World) (M : Nat) (e : Ending) (w' : World) : Prop := ∃ ad c, e = .returned (.slice (some ad) M c) ∧ Strs w' w'.heap.size (some ad) c (numL M) ∧ Below w.heap.size w w'
theorem numbered_at (M : Nat) (w : World) (hM : M ≤ 99) (h0 : 0 < M) : Calls Try.prog 32 #[.int .i64 M] w (NumOut w M) := by
  refine (numbered_any M w hM).mono ?_
  rintro e w' ⟨A, c, rfl, ho, hb⟩
  have hs := (Strs.own ho).2
  obtain ⟨ad, rfl, -, -⟩ := hs.at_ (k := 0) (by rw [numL_len]; exact h0)
  rw [numL_len] at ho ⊢
  exact ⟨ad, c, rfl, hs, hb⟩
theorem textS_str (L : List ByteArray) : str (cat L) = textS L false := by unfold textS; rw [if_neg (by simp)]

set_option maxRecDepth 100000 in
set_option maxHeartbeats 8000000 in
theorem walk (n a b : Int) (q : Bool) (w : World) (hn : 0 ≤ n ∧ n ≤ 255) (ha : 0 ≤ a ∧ a ≤ 255) (hb : 0 ≤ b ∧ b ≤ 255) : Calls Try.prog 12 #[.int .u8 n, .agg #[.int .u8 a, .int .u8 b], .bool q] w (BoolB w true) := by
  obtain ⟨p, hp⟩ : ∃ p : Nat, n % 90 = (p : Int) := ⟨(n % 90).toNat, by omega⟩
  have hp9 : p ≤ 89 := by omega
  obtain ⟨M, hM⟩ : ∃ M : Nat, 1 + p = M := ⟨_, rfl⟩
  have hMI : 1 + (p : Int) = (M : Int) := by omega
  have hM2 : 1 ≤ M := by omega
  have hM9 : M ≤ 90 := by omega
  have hM0 : ¬ (M : Int) + 1 = 0 := by omega
  have hM1 : ((M : Int) + 1 == 0) = false := by rw [beq_eq_false_iff_ne]; exact hM0
  have mod : ∀ z : Int, 0 ≤ z → ∃ k : Nat, z.tmod ((M : Int) + 1) = (k : Int) ∧ k ≤ M := fun z hz => by
    rw [Int.tmod_eq_emod_of_nonneg hz]
    have h1 := Int.emod_nonneg z hM0
    have h2 := Int.emod_lt_of_pos z (b := (M : Int) + 1) (by omega)
    exact ⟨(z % ((M : Int) + 1)).toNat, by omega, by omega⟩
  obtain ⟨i, hti, hi⟩ := mod a ha.1
  obtain ⟨j, htj, hj⟩ := mod b hb.1
  have hwi : IntKind.i64.wrap (i : Int) = (i : Int) := by simp [IntKind.wrap, IntKind.bits, IntKind.signed]; omega
  have hwj : IntKind.i64.wrap (j : Int) = (j : Int) := by simp [IntKind.wrap, IntKind.bits, IntKind.signed]; omega
  have hwm : IntKind.i64.wrap ((M : Int) + 1) = (M : Int) + 1 := by simp [IntKind.wrap, IntKind.bits, IntKind.signed]; omega
  clear mod
  have S := Lib.hid (fun W => sane_any W)
  have NB := Lib.hid (fun W => numbered_at M W (by omega) hM2)
  have hnl := numL_len M
  have HB0 := Full.new w 52 [.int .u8 a, .int .u8 b]
  have hB0 : Below w.heap.size w (w.alloc (.cells #[.int .u8 a, .int .u8 b] 52)) := (Below.refl _ w).alloc (Nat.le_refl _) _
  have HF := Lib.hid HB0
  have HB := Lib.hid hB0
  have hs : ∀ x ∈ numL M, x.size ≤ 8 := fun x hx => Nat.le_of_eq (numL_size M (by omega) x hx)
  have hi0 : (0 : Int) ≤ (i : Int) := Int.natCast_nonneg _
  have hj0 : (0 : Int) ≤ (j : Int) := Int.natCast_nonneg _
  have ix := fun (ad : Addr) (c : Nat) (W : World) (h : Strs W W.heap.size (some ad) c (numL M)) => insert_any (numL M) ad c i M ⟨#[110, 101, 119, 10]⟩ W h hnl hi (by omega)
  have t1 := fun (A : Option Addr) (c : Nat) (W : World) (h : Strs W W.heap.size A c (numL M)) => text_at A c M false W h hnl (by omega) (cat_small hs (by omega))
  have t2 := fun (A : Option Addr) (c : Nat) (W : World) (h : Strs W W.heap.size A c (insL (numL M) i ⟨#[110, 101, 119, 10]⟩)) => text_at A c (M + 1) false W h (by rw [insL_len]; omega) (by omega) (cat_small (ins_small hs i odd_new.small) (by rw [insL_len]; omega))
  cases q with
  | true =>
    have iy := fun (ad : Addr) (c : Nat) (W : World) (h : Strs W W.heap.size (some ad) c (numL M)) => insert_any (numL M) ad c j M ⟨#[110, 101, 119, 10]⟩ W h hnl hj (by omega)
    have t3 := fun (A : Option Addr) (c : Nat) (W : World) (h : Strs W W.heap.size A c (insL (numL M) j ⟨#[110, 101, 119, 10]⟩)) => text_at A c (M + 1) false W h (by rw [insL_len]; omega) (by omega) (cat_small (ins_small hs j odd_new.small) (by rw [insL_len]; omega))
    have mg := fun W => merge_two M i j ⟨#[110, 101, 119, 10]⟩ ⟨#[110, 101, 119, 10]⟩ (by omega) hi hj odd_new odd_new W
    obtain ⟨TB, HTB⟩ : ∃ T, Hid (textS (numL M) false = T) := ⟨_, Lib.hid rfl⟩
    obtain ⟨TL, HTL⟩ : ∃ T, Hid (textS (insL (numL M) i ⟨#[110, 101, 119, 10]⟩) false = T) := ⟨_, Lib.hid rfl⟩
    rw [HTB.out] at t1 mg
    rw [HTL.out] at t2 mg
    rcases Nat.lt_trichotomy i j with hc | hc | hc
    · have jy := fun (g c : Nat) (W : World) (h : Strs W W.heap.size (some ⟨g, 0, none⟩) c (insL (numL M) i ⟨#[110, 101, 119, 10]⟩)) => (show Calls Try.prog 33 #[.slice (some ⟨g, 0, none⟩) (M + 1) c, .int .i64 ((j : Int) + 1), .string ⟨#[110, 101, 119, 10]⟩] W (InsOut W (M + 1 + 1) (insL (insL (numL M) i ⟨#[110, 101, 119, 10]⟩) (j + 1) ⟨#[110, 101, 119, 10]⟩)) from insert_any (insL (numL M) i ⟨#[110, 101, 119, 10]⟩) ⟨g, 0, none⟩ c (j + 1) (M + 1) ⟨#[110, 101, 119, 10]⟩ W h (by rw [insL_len]; omega) (by omega) (by omega))
      have t4 := fun (A : Option Addr) (c : Nat) (W : World) (h : Strs W W.heap.size A c (insL (insL (numL M) i ⟨#[110, 101, 119, 10]⟩) (j + 1) ⟨#[110, 101, 119, 10]⟩)) => text_at A c (M + 1 + 1) false W h (by rw [insL_len, insL_len]; omega) (by omega) (cat_small (ins_small (ins_small hs i odd_new.small) (j + 1) odd_new.small) (by rw [insL_len, insL_len]; omega))
      obtain ⟨TR, HTR⟩ : ∃ T, Hid (textS (insL (numL M) j ⟨#[110, 101, 119, 10]⟩) false = T) := ⟨_, Lib.hid rfl⟩
      rw [HTR.out] at t3
      obtain ⟨TX, HTX⟩ : ∃ T, Hid (textS (insL (insL (numL M) i ⟨#[110, 101, 119, 10]⟩) (j + 1) ⟨#[110, 101, 119, 10]⟩) false = T) := ⟨_, Lib.hid rfl⟩
      rw [HTX.out] at t4
      have mg2 := fun W => merge_txt (hnil := rfl) ((textS_str (insL (insL (numL M) i ⟨#[110, 101, 119, 10]⟩) (j + 1) ⟨#[110, 101, 119, 10]⟩)).trans HTX.out) (by have mg := mg W; rw [HTR.out] at mg; rw [if_pos hc] at mg; exact mg)
      have JY := Lib.hid jy
      have T4 := Lib.hid t4
      have hbeq : (TX.toList == TX.toList) = true := by simp
      have n1 : ((i : Int) == (j : Int)) = false := by rw [beq_eq_false_iff_ne]; omega
      have n2 : ¬ (i : Int) = (j : Int) := by omega
      have n3 : ¬ i = j := by omega
      have d1 : (i : Int) < (j : Int) := by omega
      have IX := Lib.hid ix
      have IY := Lib.hid iy
      have T1 := Lib.hid t1
      have T2 := Lib.hid t2
      have T3 := Lib.hid t3
      have MG := Lib.hid mg2
      clear ix iy t1 t2 t3 t4 jy mg mg2 hs hnl HB0 hB0 hc hM
      go_enter Try.func12, Try.ntmps12
      go_wp2_with (first
        | (go_at_call 15; ((with_reducible refine (S.out _).mono ?_); rintro e' w1 ⟨rfl, hb1⟩); (have HF1 := Lib.hid (HF.out.on hb1)); (have HB1 := Lib.hid (Below.then_ HB.out hb1)); (have q0 : w1.cell? ⟨w.heap.size, 0, none⟩ = some (.int .u8 a) := HF1.out.cell 0); (have q1 : w1.cell? ⟨w.heap.size, 1, none⟩ = some (.int .u8 b) := HF1.out.cell 1)))
      go_quiet (fail)
      obtain ⟨w1', hw1⟩ : ∃ w1', w1.drewN nq = w1' := ⟨_, rfl⟩
      have hB1 : Below w.heap.size w (w1.drewN nq) := Below.drewN_ HB1.out nq
      rw [hw1] at hB1 ⊢
      clear hw1 q0 q1 hti htj
      go_upto_region 9 with (first
        | (go_at_call 32; ((with_reducible refine (NB.out _).mono ?_); rintro e' w2 ⟨ad, c, rfl, hS, hb2⟩); (have HB2 := Lib.hid (Below.then_ hB1 hb2))))
      go_upto_region 10 with (first
          | (go_at_call 19; ((with_reducible refine (T1.out _ _ _ hS).mono ?_); rintro e' wt ⟨rfl, rfl⟩))
          | (go_at_call 33; ((with_reducible refine (IX.out _ _ _ hS).mono ?_); rintro e' w3 ⟨g3, c3, rfl, hS3, hb3⟩); (have hS := strs_on hS hb3); (have HB3 := Lib.hid (Below.then_ HB2.out hb3)))
          | (go_at_call 19; ((with_reducible refine (T2.out _ _ _ hS3).mono ?_); rintro e' wt ⟨rfl, rfl⟩))
          | (go_at_call 33; ((with_reducible refine (IY.out _ _ _ hS).mono ?_); rintro e' w4 ⟨g4, c4, rfl, hS4, hb4⟩); (have hS := strs_on hS hb4); (have HB4 := Lib.hid (Below.then_ HB3.out hb4)))
          | (go_at_call 19; ((with_reducible refine (T3.out _ _ _ hS4).mono ?_); rintro e' wt ⟨rfl, rfl⟩))
          | (go_at_call 29; ((with_reducible refine (MG.out _).mono ?_); rintro e' wm ⟨A7, c7, rfl, hsp, hbm⟩); (have hS := strs_on hS hbm); (have HB5 := Lib.hid (Below.then_ HB4.out hbm))))
      clear hS3
      go_wp2_with (first
        | (go_at_call 33; ((with_reducible refine (IX.out _ _ _ hS).mono ?_); rintro e' w6 ⟨g6, c6, rfl, hS6, hb6⟩); (have HB6 := Lib.hid (Below.then_ HB5.out hb6)))
        | (go_at_call 33; ((with_reducible refine (JY.out _ _ _ hS6).mono ?_); rintro e' w7 ⟨g7, c7', rfl, hS7, hb7⟩); (have HB7 := Lib.hid (Below.then_ HB6.out hb7)))
        | (go_at_call 19; ((with_reducible refine (T4.out _ _ _ hS7).mono ?_); rintro e' wt ⟨rfl, rfl⟩)))
      go_ret
      exact ⟨rfl, HB7.out⟩
    · obtain rfl : i = j := by omega
      have mg2 := fun W => merge_txt (hnil := rfl) ((textS_str (insL (numL M) i ⟨#[110, 101, 119, 10]⟩)).trans HTL.out) (by have mg := mg W; rw [HTL.out, if_neg (Nat.lt_irrefl _), if_neg (Nat.lt_irrefl _), if_pos rfl] at mg; exact mg)
      rw [HTL.out] at t3
      have hbeq : (TL.toList == TL.toList) = true := by simp
      have d1 : ¬ (i : Int) < (i : Int) := by omega
      have IX := Lib.hid ix
      have IY := Lib.hid iy
      have T1 := Lib.hid t1
      have T2 := Lib.hid t2
      have T3 := Lib.hid t3
      have MG := Lib.hid mg2
      clear ix iy t1 t2 t3 mg mg2 hs hnl HB0 hB0 hM
      go_enter Try.func12, Try.ntmps12
      go_wp2_with (first
        | (go_at_call 15; ((with_reducible refine (S.out _).mono ?_); rintro e' w1 ⟨rfl, hb1⟩); (have HF1 := Lib.hid (HF.out.on hb1)); (have HB1 := Lib.hid (Below.then_ HB.out hb1)); (have q0 : w1.cell? ⟨w.heap.size, 0, none⟩ = some (.int .u8 a) := HF1.out.cell 0); (have q1 : w1.cell? ⟨w.heap.size, 1, none⟩ = some (.int .u8 b) := HF1.out.cell 1)))
      go_quiet (fail)
      obtain ⟨w1', hw1⟩ : ∃ w1', w1.drewN nq = w1' := ⟨_, rfl⟩
      have hB1 : Below w.heap.size w (w1.drewN nq) := Below.drewN_ HB1.out nq
      rw [hw1] at hB1 ⊢
      clear hw1 q0 q1 hti htj
      go_upto_region 9 with (first
        | (go_at_call 32; ((with_reducible refine (NB.out _).mono ?_); rintro e' w2 ⟨ad, c, rfl, hS, hb2⟩); (have HB2 := Lib.hid (Below.then_ hB1 hb2))))
      go_upto_region 10 with (first
          | (go_at_call 19; ((with_reducible refine (T1.out _ _ _ hS).mono ?_); rintro e' wt ⟨rfl, rfl⟩))
          | (go_at_call 33; ((with_reducible refine (IX.out _ _ _ hS).mono ?_); rintro e' w3 ⟨g3, c3, rfl, hS3, hb3⟩); (have hS := strs_on hS hb3); (have HB3 := Lib.hid (Below.then_ HB2.out hb3)))
          | (go_at_call 19; ((with_reducible refine (T2.out _ _ _ hS3).mono ?_); rintro e' wt ⟨rfl, rfl⟩))
          | (go_at_call 33; ((with_reducible refine (IY.out _ _ _ hS).mono ?_); rintro e' w4 ⟨g4, c4, rfl, hS4, hb4⟩); (have hS := strs_on hS hb4); (have HB4 := Lib.hid (Below.then_ HB3.out hb4)))
          | (go_at_call 19; ((with_reducible refine (T3.out _ _ _ hS4).mono ?_); rintro e' wt ⟨rfl, rfl⟩))
          | (go_at_call 29; ((with_reducible refine (MG.out _).mono ?_); rintro e' wm ⟨A7, c7, rfl, hsp, hbm⟩); (have hS := strs_on hS hbm); (have HB5 := Lib.hid (Below.then_ HB4.out hbm))))
      clear hS3
      go_wp2_with (first
        | (go_at_call 33; ((with_reducible refine (IX.out _ _ _ hS).mono ?_); rintro e' w6 ⟨g6, c6, rfl, hS6, hb6⟩); (have HB6 := Lib.hid (Below.then_ HB5.out hb6)))
        | (go_at_call 19; ((with_reducible refine (T2.out _ _ _ hS6).mono ?_); rintro e' wt ⟨rfl, rfl⟩)))
      go_ret
      exact ⟨rfl, HB6.out⟩
    · have jy := fun (g c : Nat) (W : World) (h : Strs W W.heap.size (some ⟨g, 0, none⟩) c (insL (numL M) i ⟨#[110, 101, 119, 10]⟩)) => (show Calls Try.prog 33 #[.slice (some ⟨g, 0, none⟩) (M + 1) c, .int .i64 (j : Int), .string ⟨#[110, 101, 119, 10]⟩] W (InsOut W (M + 1 + 1) (insL (insL (numL M) i ⟨#[110, 101, 119, 10]⟩) j ⟨#[110, 101, 119, 10]⟩)) from insert_any (insL (numL M) i ⟨#[110, 101, 119, 10]⟩) ⟨g, 0, none⟩ c j (M + 1) ⟨#[110, 101, 119, 10]⟩ W h (by rw [insL_len]; omega) (by omega) (by omega))
      have t4 := fun (A : Option Addr) (c : Nat) (W : World) (h : Strs W W.heap.size A c (insL (insL (numL M) i ⟨#[110, 101, 119, 10]⟩) j ⟨#[110, 101, 119, 10]⟩)) => text_at A c (M + 1 + 1) false W h (by rw [insL_len, insL_len]; omega) (by omega) (cat_small (ins_small (ins_small hs i odd_new.small) j odd_new.small) (by rw [insL_len, insL_len]; omega))
      obtain ⟨TR, HTR⟩ : ∃ T, Hid (textS (insL (numL M) j ⟨#[110, 101, 119, 10]⟩) false = T) := ⟨_, Lib.hid rfl⟩
      rw [HTR.out] at t3
      obtain ⟨TX, HTX⟩ : ∃ T, Hid (textS (insL (insL (numL M) i ⟨#[110, 101, 119, 10]⟩) j ⟨#[110, 101, 119, 10]⟩) false = T) := ⟨_, Lib.hid rfl⟩
      rw [HTX.out] at t4
      have mg2 := fun W => merge_txt (hnil := rfl) ((textS_str (insL (insL (numL M) i ⟨#[110, 101, 119, 10]⟩) j ⟨#[110, 101, 119, 10]⟩)).trans HTX.out) (by have mg := mg W; rw [HTR.out] at mg; rw [if_neg (show ¬ i < j by omega), if_pos hc] at mg; exact mg)
      have JY := Lib.hid jy
      have T4 := Lib.hid t4
      have hbeq : (TX.toList == TX.toList) = true := by simp
      have n1 : ((i : Int) == (j : Int)) = false := by rw [beq_eq_false_iff_ne]; omega
      have n2 : ¬ (i : Int) = (j : Int) := by omega
      have n3 : ¬ i = j := by omega
      have d1 : ¬ (i : Int) < (j : Int) := by omega
      have d2 : (j : Int) < (i : Int) := by omega
      have IX := Lib.hid ix
      have IY := Lib.hid iy
      have T1 := Lib.hid t1
      have T2 := Lib.hid t2
      have T3 := Lib.hid t3
      have MG := Lib.hid mg2
      clear ix iy t1 t2 t3 t4 jy mg mg2 hs hnl HB0 hB0 hc hM
      go_enter Try.func12, Try.ntmps12
      go_wp2_with (first
        | (go_at_call 15; ((with_reducible refine (S.out _).mono ?_); rintro e' w1 ⟨rfl, hb1⟩); (have HF1 := Lib.hid (HF.out.on hb1)); (have HB1 := Lib.hid (Below.then_ HB.out hb1)); (have q0 : w1.cell? ⟨w.heap.size, 0, none⟩ = some (.int .u8 a) := HF1.out.cell 0); (have q1 : w1.cell? ⟨w.heap.size, 1, none⟩ = some (.int .u8 b) := HF1.out.cell 1)))
      go_quiet (fail)
      obtain ⟨w1', hw1⟩ : ∃ w1', w1.drewN nq = w1' := ⟨_, rfl⟩
      have hB1 : Below w.heap.size w (w1.drewN nq) := Below.drewN_ HB1.out nq
      rw [hw1] at hB1 ⊢
      clear hw1 q0 q1 hti htj
      go_upto_region 9 with (first
        | (go_at_call 32; ((with_reducible refine (NB.out _).mono ?_); rintro e' w2 ⟨ad, c, rfl, hS, hb2⟩); (have HB2 := Lib.hid (Below.then_ hB1 hb2))))
      go_upto_region 10 with (first
          | (go_at_call 19; ((with_reducible refine (T1.out _ _ _ hS).mono ?_); rintro e' wt ⟨rfl, rfl⟩))
          | (go_at_call 33; ((with_reducible refine (IX.out _ _ _ hS).mono ?_); rintro e' w3 ⟨g3, c3, rfl, hS3, hb3⟩); (have hS := strs_on hS hb3); (have HB3 := Lib.hid (Below.then_ HB2.out hb3)))
          | (go_at_call 19; ((with_reducible refine (T2.out _ _ _ hS3).mono ?_); rintro e' wt ⟨rfl, rfl⟩))
          | (go_at_call 33; ((with_reducible refine (IY.out _ _ _ hS).mono ?_); rintro e' w4 ⟨g4, c4, rfl, hS4, hb4⟩); (have hS := strs_on hS hb4); (have HB4 := Lib.hid (Below.then_ HB3.out hb4)))
          | (go_at_call 19; ((with_reducible refine (T3.out _ _ _ hS4).mono ?_); rintro e' wt ⟨rfl, rfl⟩))
          | (go_at_call 29; ((with_reducible refine (MG.out _).mono ?_); rintro e' wm ⟨A7, c7, rfl, hsp, hbm⟩); (have hS := strs_on hS hbm); (have HB5 := Lib.hid (Below.then_ HB4.out hbm))))
      clear hS3
      go_wp2_with (first
        | (go_at_call 33; ((with_reducible refine (IX.out _ _ _ hS).mono ?_); rintro e' w6 ⟨g6, c6, rfl, hS6, hb6⟩); (have HB6 := Lib.hid (Below.then_ HB5.out hb6)))
        | (go_at_call 33; ((with_reducible refine (JY.out _ _ _ hS6).mono ?_); rintro e' w7 ⟨g7, c7', rfl, hS7, hb7⟩); (have HB7 := Lib.hid (Below.then_ HB6.out hb7)))
        | (go_at_call 19; ((with_reducible refine (T4.out _ _ _ hS7).mono ?_); rintro e' wt ⟨rfl, rfl⟩)))
      go_ret
      exact ⟨rfl, HB7.out⟩
  | false =>
    have iy := fun (ad : Addr) (c : Nat) (W : World) (h : Strs W W.heap.size (some ad) c (numL M)) => insert_any (numL M) ad c j M ⟨#[111, 116, 104, 101, 114, 10]⟩ W h hnl hj (by omega)
    have t3 := fun (A : Option Addr) (c : Nat) (W : World) (h : Strs W W.heap.size A c (insL (numL M) j ⟨#[111, 116, 104, 101, 114, 10]⟩)) => text_at A c (M + 1) false W h (by rw [insL_len]; omega) (by omega) (cat_small (ins_small hs j odd_other.small) (by rw [insL_len]; omega))
    have mg := fun W => merge_two M i j ⟨#[110, 101, 119, 10]⟩ ⟨#[111, 116, 104, 101, 114, 10]⟩ (by omega) hi hj odd_new odd_other W
    obtain ⟨TB, HTB⟩ : ∃ T, Hid (textS (numL M) false = T) := ⟨_, Lib.hid rfl⟩
    obtain ⟨TL, HTL⟩ : ∃ T, Hid (textS (insL (numL M) i ⟨#[110, 101, 119, 10]⟩) false = T) := ⟨_, Lib.hid rfl⟩
    rw [HTB.out] at t1 mg
    rw [HTL.out] at t2 mg
    rcases Nat.lt_trichotomy i j with hc | hc | hc
    · have jy := fun (g c : Nat) (W : World) (h : Strs W W.heap.size (some ⟨g, 0, none⟩) c (insL (numL M) i ⟨#[110, 101, 119, 10]⟩)) => (show Calls Try.prog 33 #[.slice (some ⟨g, 0, none⟩) (M + 1) c, .int .i64 ((j : Int) + 1), .string ⟨#[111, 116, 104, 101, 114, 10]⟩] W (InsOut W (M + 1 + 1) (insL (insL (numL M) i ⟨#[110, 101, 119, 10]⟩) (j + 1) ⟨#[111, 116, 104, 101, 114, 10]⟩)) from insert_any (insL (numL M) i ⟨#[110, 101, 119, 10]⟩) ⟨g, 0, none⟩ c (j + 1) (M + 1) ⟨#[111, 116, 104, 101, 114, 10]⟩ W h (by rw [insL_len]; omega) (by omega) (by omega))
      have t4 := fun (A : Option Addr) (c : Nat) (W : World) (h : Strs W W.heap.size A c (insL (insL (numL M) i ⟨#[110, 101, 119, 10]⟩) (j + 1) ⟨#[111, 116, 104, 101, 114, 10]⟩)) => text_at A c (M + 1 + 1) false W h (by rw [insL_len, insL_len]; omega) (by omega) (cat_small (ins_small (ins_small hs i odd_new.small) (j + 1) odd_other.small) (by rw [insL_len, insL_len]; omega))
      obtain ⟨TR, HTR⟩ : ∃ T, Hid (textS (insL (numL M) j ⟨#[111, 116, 104, 101, 114, 10]⟩) false = T) := ⟨_, Lib.hid rfl⟩
      rw [HTR.out] at t3
      obtain ⟨TX, HTX⟩ : ∃ T, Hid (textS (insL (insL (numL M) i ⟨#[110, 101, 119, 10]⟩) (j + 1) ⟨#[111, 116, 104, 101, 114, 10]⟩) false = T) := ⟨_, Lib.hid rfl⟩
      rw [HTX.out] at t4
      have mg2 := fun W => merge_txt (hnil := rfl) ((textS_str (insL (insL (numL M) i ⟨#[110, 101, 119, 10]⟩) (j + 1) ⟨#[111, 116, 104, 101, 114, 10]⟩)).trans HTX.out) (by have mg := mg W; rw [HTR.out] at mg; rw [if_pos hc] at mg; exact mg)
      have JY := Lib.hid jy
      have T4 := Lib.hid t4
      have hbeq : (TX.toList == TX.toList) = true := by simp
      have n1 : ((i : Int) == (j : Int)) = false := by rw [beq_eq_false_iff_ne]; omega
      have n2 : ¬ (i : Int) = (j : Int) := by omega
      have n3 : ¬ i = j := by omega
      have d1 : (i : Int) < (j : Int) := by omega
      have IX := Lib.hid ix
      have IY := Lib.hid iy
      have T1 := Lib.hid t1
      have T2 := Lib.hid t2
      have T3 := Lib.hid t3
      have MG := Lib.hid mg2
      clear ix iy t1 t2 t3 t4 jy mg mg2 hs hnl HB0 hB0 hc hM
      go_enter Try.func12, Try.ntmps12
      go_wp2_with (first
        | (go_at_call 15; ((with_reducible refine (S.out _).mono ?_); rintro e' w1 ⟨rfl, hb1⟩); (have HF1 := Lib.hid (HF.out.on hb1)); (have HB1 := Lib.hid (Below.then_ HB.out hb1)); (have q0 : w1.cell? ⟨w.heap.size, 0, none⟩ = some (.int .u8 a) := HF1.out.cell 0); (have q1 : w1.cell? ⟨w.heap.size, 1, none⟩ = some (.int .u8 b) := HF1.out.cell 1)))
      go_quiet (fail)
      obtain ⟨w1', hw1⟩ : ∃ w1', w1.drewN nq = w1' := ⟨_, rfl⟩
      have hB1 : Below w.heap.size w (w1.drewN nq) := Below.drewN_ HB1.out nq
      rw [hw1] at hB1 ⊢
      clear hw1 q0 q1 hti htj
      go_upto_region 9 with (first
        | (go_at_call 32; ((with_reducible refine (NB.out _).mono ?_); rintro e' w2 ⟨ad, c, rfl, hS, hb2⟩); (have HB2 := Lib.hid (Below.then_ hB1 hb2))))
      go_upto_region 10 with (first
          | (go_at_call 19; ((with_reducible refine (T1.out _ _ _ hS).mono ?_); rintro e' wt ⟨rfl, rfl⟩))
          | (go_at_call 33; ((with_reducible refine (IX.out _ _ _ hS).mono ?_); rintro e' w3 ⟨g3, c3, rfl, hS3, hb3⟩); (have hS := strs_on hS hb3); (have HB3 := Lib.hid (Below.then_ HB2.out hb3)))
          | (go_at_call 19; ((with_reducible refine (T2.out _ _ _ hS3).mono ?_); rintro e' wt ⟨rfl, rfl⟩))
          | (go_at_call 33; ((with_reducible refine (IY.out _ _ _ hS).mono ?_); rintro e' w4 ⟨g4, c4, rfl, hS4, hb4⟩); (have hS := strs_on hS hb4); (have HB4 := Lib.hid (Below.then_ HB3.out hb4)))
          | (go_at_call 19; ((with_reducible refine (T3.out _ _ _ hS4).mono ?_); rintro e' wt ⟨rfl, rfl⟩))
          | (go_at_call 29; ((with_reducible refine (MG.out _).mono ?_); rintro e' wm ⟨A7, c7, rfl, hsp, hbm⟩); (have hS := strs_on hS hbm); (have HB5 := Lib.hid (Below.then_ HB4.out hbm))))
      clear hS3
      go_wp2_with (first
        | (go_at_call 33; ((with_reducible refine (IX.out _ _ _ hS).mono ?_); rintro e' w6 ⟨g6, c6, rfl, hS6, hb6⟩); (have HB6 := Lib.hid (Below.then_ HB5.out hb6)))
        | (go_at_call 33; ((with_reducible refine (JY.out _ _ _ hS6).mono ?_); rintro e' w7 ⟨g7, c7', rfl, hS7, hb7⟩); (have HB7 := Lib.hid (Below.then_ HB6.out hb7)))
        | (go_at_call 19; ((with_reducible refine (T4.out _ _ _ hS7).mono ?_); rintro e' wt ⟨rfl, rfl⟩)))
      go_ret
      exact ⟨rfl, HB7.out⟩
    · obtain rfl : i = j := by omega
      obtain ⟨TR, HTR⟩ : ∃ T, Hid (textS (insL (numL M) i ⟨#[111, 116, 104, 101, 114, 10]⟩) false = T) := ⟨_, Lib.hid rfl⟩
      rw [HTR.out] at t3
      have mg2 := fun W => merge_conf (by have mg := mg W; rw [HTR.out] at mg; rw [if_neg (Nat.lt_irrefl _), if_neg (Nat.lt_irrefl _), if_neg (by decide)] at mg; exact mg)
      have s2 := fun (W : World) (A : Option Addr) (c : Nat) (h : Sps W W.heap.size A c [(i, i)]) => spans2 (W.heap.size + 1) 1 1 A _ _ c 1 _ (Row.more (Row.alloc h (Nat.le_refl _) _) (Nat.le_succ _)) (sp_lit W i i) rfl rfl (by simp)
      have S2 := Lib.hid s2
      have IX := Lib.hid ix
      have IY := Lib.hid iy
      have T1 := Lib.hid t1
      have T2 := Lib.hid t2
      have T3 := Lib.hid t3
      have MG := Lib.hid mg2
      clear ix iy t1 t2 t3 mg mg2 s2 hs hnl HB0 hB0 hM
      go_enter Try.func12, Try.ntmps12
      go_wp2_with (first
        | (go_at_call 15; ((with_reducible refine (S.out _).mono ?_); rintro e' w1 ⟨rfl, hb1⟩); (have HF1 := Lib.hid (HF.out.on hb1)); (have HB1 := Lib.hid (Below.then_ HB.out hb1)); (have q0 : w1.cell? ⟨w.heap.size, 0, none⟩ = some (.int .u8 a) := HF1.out.cell 0); (have q1 : w1.cell? ⟨w.heap.size, 1, none⟩ = some (.int .u8 b) := HF1.out.cell 1)))
      go_quiet (fail)
      obtain ⟨w1', hw1⟩ : ∃ w1', w1.drewN nq = w1' := ⟨_, rfl⟩
      have hB1 : Below w.heap.size w (w1.drewN nq) := Below.drewN_ HB1.out nq
      rw [hw1] at hB1 ⊢
      clear hw1 q0 q1 hti htj
      go_upto_region 9 with (first
        | (go_at_call 32; ((with_reducible refine (NB.out _).mono ?_); rintro e' w2 ⟨ad, c, rfl, hS, hb2⟩); (have HB2 := Lib.hid (Below.then_ hB1 hb2))))
      go_upto_region 10 with (first
          | (go_at_call 19; ((with_reducible refine (T1.out _ _ _ hS).mono ?_); rintro e' wt ⟨rfl, rfl⟩))
          | (go_at_call 33; ((with_reducible refine (IX.out _ _ _ hS).mono ?_); rintro e' w3 ⟨g3, c3, rfl, hS3, hb3⟩); (have hS := strs_on hS hb3); (have HB3 := Lib.hid (Below.then_ HB2.out hb3)))
          | (go_at_call 19; ((with_reducible refine (T2.out _ _ _ hS3).mono ?_); rintro e' wt ⟨rfl, rfl⟩))
          | (go_at_call 33; ((with_reducible refine (IY.out _ _ _ hS).mono ?_); rintro e' w4 ⟨g4, c4, rfl, hS4, hb4⟩); (have hS := strs_on hS hb4); (have HB4 := Lib.hid (Below.then_ HB3.out hb4)))
          | (go_at_call 19; ((with_reducible refine (T3.out _ _ _ hS4).mono ?_); rintro e' wt ⟨rfl, rfl⟩))
          | (go_at_call 29; ((with_reducible refine (MG.out _).mono ?_); rintro e' wm ⟨A7, c7, rfl, hsp, hbm⟩); (have hS := strs_on hS hbm); (have HB5 := Lib.hid (Below.then_ HB4.out hbm))))
      go_wp2_with (first
        | (go_at_call 31; ((with_reducible refine (S2.out _ _ _ hsp).mono ?_); rintro e' ws ⟨rfl, hbs⟩)))
      go_ret
      exact ⟨rfl, Below.then_ HB5.out (Below.then_ ((Below.refl _ wm).alloc (Nat.le_refl _) _) hbs)⟩
    · have jy := fun (g c : Nat) (W : World) (h : Strs W W.heap.size (some ⟨g, 0, none⟩) c (insL (numL M) i ⟨#[110, 101, 119, 10]⟩)) => (show Calls Try.prog 33 #[.slice (some ⟨g, 0, none⟩) (M + 1) c, .int .i64 (j : Int), .string ⟨#[111, 116, 104, 101, 114, 10]⟩] W (InsOut W (M + 1 + 1) (insL (insL (numL M) i ⟨#[110, 101, 119, 10]⟩) j ⟨#[111, 116, 104, 101, 114, 10]⟩)) from insert_any (insL (numL M) i ⟨#[110, 101, 119, 10]⟩) ⟨g, 0, none⟩ c j (M + 1) ⟨#[111, 116, 104, 101, 114, 10]⟩ W h (by rw [insL_len]; omega) (by omega) (by omega))
      have t4 := fun (A : Option Addr) (c : Nat) (W : World) (h : Strs W W.heap.size A c (insL (insL (numL M) i ⟨#[110, 101, 119, 10]⟩) j ⟨#[111, 116, 104, 101, 114, 10]⟩)) => text_at A c (M + 1 + 1) false W h (by rw [insL_len, insL_len]; omega) (by omega) (cat_small (ins_small (ins_small hs i odd_new.small) j odd_other.small) (by rw [insL_len, insL_len]; omega))
      obtain ⟨TR, HTR⟩ : ∃ T, Hid (textS (insL (numL M) j ⟨#[111, 116, 104, 101, 114, 10]⟩) false = T) := ⟨_, Lib.hid rfl⟩
      rw [HTR.out] at t3
      obtain ⟨TX, HTX⟩ : ∃ T, Hid (textS (insL (insL (numL M) i ⟨#[110, 101, 119, 10]⟩) j ⟨#[111, 116, 104, 101, 114, 10]⟩) false = T) := ⟨_, Lib.hid rfl⟩
      rw [HTX.out] at t4
      have mg2 := fun W => merge_txt (hnil := rfl) ((textS_str (insL (insL (numL M) i ⟨#[110, 101, 119, 10]⟩) j ⟨#[111, 116, 104, 101, 114, 10]⟩)).trans HTX.out) (by have mg := mg W; rw [HTR.out] at mg; rw [if_neg (show ¬ i < j by omega), if_pos hc] at mg; exact mg)
      have JY := Lib.hid jy
      have T4 := Lib.hid t4
      have hbeq : (TX.toList == TX.toList) = true := by simp
      have n1 : ((i : Int) == (j : Int)) = false := by rw [beq_eq_false_iff_ne]; omega
      have n2 : ¬ (i : Int) = (j : Int) := by omega
      have n3 : ¬ i = j := by omega
      have d1 : ¬ (i : Int) < (j : Int) := by omega
      have d2 : (j : Int) < (i : Int) := by omega
      have IX := Lib.hid ix
      have IY := Lib.hid iy
      have T1 := Lib.hid t1
      have T2 := Lib.hid t2
      have T3 := Lib.hid t3
      have MG := Lib.hid mg2
      clear ix iy t1 t2 t3 t4 jy mg mg2 hs hnl HB0 hB0 hc hM
      go_enter Try.func12, Try.ntmps12
      go_wp2_with (first
        | (go_at_call 15; ((with_reducible refine (S.out _).mono ?_); rintro e' w1 ⟨rfl, hb1⟩); (have HF1 := Lib.hid (HF.out.on hb1)); (have HB1 := Lib.hid (Below.then_ HB.out hb1)); (have q0 : w1.cell? ⟨w.heap.size, 0, none⟩ = some (.int .u8 a) := HF1.out.cell 0); (have q1 : w1.cell? ⟨w.heap.size, 1, none⟩ = some (.int .u8 b) := HF1.out.cell 1)))
      go_quiet (fail)
      obtain ⟨w1', hw1⟩ : ∃ w1', w1.drewN nq = w1' := ⟨_, rfl⟩
      have hB1 : Below w.heap.size w (w1.drewN nq) := Below.drewN_ HB1.out nq
      rw [hw1] at hB1 ⊢
      clear hw1 q0 q1 hti htj
      go_upto_region 9 with (first
        | (go_at_call 32; ((with_reducible refine (NB.out _).mono ?_); rintro e' w2 ⟨ad, c, rfl, hS, hb2⟩); (have HB2 := Lib.hid (Below.then_ hB1 hb2))))
      go_upto_region 10 with (first
          | (go_at_call 19; ((with_reducible refine (T1.out _ _ _ hS).mono ?_); rintro e' wt ⟨rfl, rfl⟩))
          | (go_at_call 33; ((with_reducible refine (IX.out _ _ _ hS).mono ?_); rintro e' w3 ⟨g3, c3, rfl, hS3, hb3⟩); (have hS := strs_on hS hb3); (have HB3 := Lib.hid (Below.then_ HB2.out hb3)))
          | (go_at_call 19; ((with_reducible refine (T2.out _ _ _ hS3).mono ?_); rintro e' wt ⟨rfl, rfl⟩))
          | (go_at_call 33; ((with_reducible refine (IY.out _ _ _ hS).mono ?_); rintro e' w4 ⟨g4, c4, rfl, hS4, hb4⟩); (have hS := strs_on hS hb4); (have HB4 := Lib.hid (Below.then_ HB3.out hb4)))
          | (go_at_call 19; ((with_reducible refine (T3.out _ _ _ hS4).mono ?_); rintro e' wt ⟨rfl, rfl⟩))
          | (go_at_call 29; ((with_reducible refine (MG.out _).mono ?_); rintro e' wm ⟨A7, c7, rfl, hsp, hbm⟩); (have hS := strs_on hS hbm); (have HB5 := Lib.hid (Below.then_ HB4.out hbm))))
      clear hS3
      go_wp2_with (first
        | (go_at_call 33; ((with_reducible refine (IX.out _ _ _ hS).mono ?_); rintro e' w6 ⟨g6, c6, rfl, hS6, hb6⟩); (have HB6 := Lib.hid (Below.then_ HB5.out hb6)))
        | (go_at_call 33; ((with_reducible refine (JY.out _ _ _ hS6).mono ?_); rintro e' w7 ⟨g7, c7', rfl, hS7, hb7⟩); (have HB7 := Lib.hid (Below.then_ HB6.out hb7)))
        | (go_at_call 19; ((with_reducible refine (T4.out _ _ _ hS7).mono ?_); rintro e' wt ⟨rfl, rfl⟩)))
      go_ret
      exact ⟨rfl, HB7.out⟩
theorem contract (H : Type) (enc : TypeId × Value → H) (W : World) (base : Nat) (args : Array Value) (ds gs : List (DataW H)) (before : List MemPlace)
    (hval : ∀ (j : Nat) t v, Try.f12.params[j]? = some t → args[j]? = some v → Value.okWide Try.prog W .any base t v)
    (hW : DataW.Whole enc Try.prog Try.f12.params.toList Rows.linesInsertedSpec.vars false W args.toList ds gs before) :
    Calls Try.prog 12 args W fun e W' => ∃ v, e = .returned v ∧ Rows.linesInsertedSpec.post enc Try.prog Try.f12 false true false false W args v W' := by
  have hW' := hW
  obtain ⟨p, q, hA0, hV, rfl, hfz, hnd⟩ := hW
  have hA : DataW.TrodAll enc Try.prog W 0 (fun _ => true) true Try.f12.params.toList args.toList ds p := hA0
  rw [Try.params12] at hA hval
  obtain ⟨v0, vs0, d0, ds0, p0, q0, e0, rfl, rfl, h0, r0⟩ := trodAll_cons hA
  obtain ⟨v1, vs1, d1, ds1, p1, q1, e1, rfl, rfl, h1, r1⟩ := trodAll_cons r0
  obtain ⟨v2, vs2, d2, ds2, p2, q2, e2, rfl, rfl, h2, r2⟩ := trodAll_cons r1
  obtain ⟨rfl, rfl, rfl⟩ := trodAll_nil r2
  obtain rfl : args = #[v0, v1, v2] := by cases args; simp_all
  obtain ⟨rfl, rfl⟩ := trodVars_none hV
  obtain ⟨x, rfl, rfl, rfl, hx⟩ := open_int Try.underlying5 (hval 0 5 v0 rfl rfl) h0
  obtain ⟨a, b, rfl, ha, hb⟩ := open_pair8 (hval 1 52 v1 rfl rfl) h1
  obtain ⟨q, rfl, rfl, rfl⟩ := open_bool Try.underlying4 (hval 2 4 v2 rfl rfl) h2
  refine (walk x a b q W (bd_u8 hx) ha hb).mono fun e W' ⟨he, hb⟩ => ⟨_, he, law_post rfl rfl ?_ rfl rfl rfl hW' hb⟩
  rw [Try.params12]
  intro t ht
  have ht' : t = 5 ∨ t = 52 ∨ t = 4 := by simpa using ht
  rcases ht' with rfl | rfl | rfl <;> exact ⟨by kernel_rfl, of_decide_eq_true (by kernel_rfl)⟩

set_option maxRecDepth 100000 in
theorem lifted (os : Os) (started : os.Started) (H : Type) (enc : TypeId × Value → H) :
    ReturnsInHanded {} Try.checked os 12 .any (Rows.linesInsertedSpec.pre6 enc Try.prog Try.f12 Rows.linesInsertedRow.domain false) (Rows.linesInsertedSpec.post enc Try.prog Try.f12 false true false false) := by
  refine returnsInHanded_of_change (C := Try.checked) ownKnob_none started (by kernel_rfl) Try.func12
    (ChangeSpec.witness6 (enc := enc) (C := Try.checked) false ⟨#[], #[.int .u8 0, .agg #[.int .u8 0, .int .u8 0], .bool false], []⟩ 8 (by kernel_rfl) (by kernel_rfl) (by kernel_rfl) (by kernel_rfl)) ?_
  intro W base args ds gs before hval hW _ _
  exact contract H enc W base args ds gs before hval hW

theorem proved : Rows.LinesInsertedSaid :=
  OpenClaim.holds_of_wide 12 Try.f12 rfl rfl rfl rfl rfl rfl rfl ⟨rfl, rfl, rfl, rfl, rfl⟩ rfl rfl rfl rfl rfl (by kernel_rfl) Try.func12 (by kernel_rfl)
    (of_decide_eq_true (by kernel_rfl)) (by unfold Func.isWrapper; first | (rw [if_pos (by decide +kernel)]; kernel_rfl) | (rw [if_neg (by decide +kernel)]; exact ⟨rfl, rfl⟩))
    (fun os started H enc _ => lifted os started H enc)

end Go.Proofs.Ytmeoannheomdoaa.linserted
