/- HistoryLines: the commits of a line are linked by first parents; the line from commit 1 exists for every commit. For all arguments. -/
import Derived.Test.YtiikbekboapphaaLinMath
namespace Go.Proofs.Ytiikbekboapphaa.llin
open Go.ChangeShapes Go.WideShapes Go.ChangeAt Go.RowKit


set_option maxRecDepth 100000 in
set_option maxHeartbeats 8000000 in
theorem walk1 (A : Option Addr) (l : List (Int × Int)) (c : Nat) (a : Int) (w : World) (hA : Prs w w.heap.size A c l) (hl : l.length ≤ maxLen) (ha : (Lit.int .i64 a).wf = true) (h0 : 0 ≤ a) :
    Calls Try.prog 10 #[.slice A l.length c, .int .i64 a] w (BoolB w true) := by
  have S := Lib.hid (sane_any w)
  have MD := Lib.hid (fun (W : World) (h : Below w.heap.size w W) => made_any W A l c ⟨(Row.below hA.1 h (Nat.le_refl _)).more h.size, hA.2⟩ hl)
  have NA := Lib.hid (fun (W : World) (n : Nat) (hn : n ≤ 1000) => number_any W n hn a ha)
  unfold BoolB at S ⊢
  unfold MadeOut at MD
  obtain ⟨m, hm⟩ : ∃ m, l.length = m := ⟨_, rfl⟩
  rw [hm] at MD ⊢
  clear hA hl ha hm
  go_enter Try.func10, Try.ntmps10
  go_upto_region 5 with (first
    | (go_at_call 14; ((with_reducible refine S.out.mono ?_); rintro e w1 ⟨rfl, hb1⟩))
    | (go_at_call 15; ((with_reducible refine (MD.out _ hb1).mono ?_); rintro e w2 ⟨p, q, cs, rfl, hcs, hT⟩))
    | (fail "arm"))
  have hpos := hT.good.2
  have hgd := hT.good.1
  obtain ⟨V, hV⟩ : ∃ V, numP cs.length a = V := ⟨_, rfl⟩
  have N1 := Lib.hid (fun W : World => (show Calls Try.prog 18 #[.int .i64 (cs.length : Int), .int .i64 a] W fun e w' => e = .returned (.int .i64 V) ∧ W = w' from hV ▸ NA.out W cs.length (by omega)))
  have hV0 : 0 ≤ V := by
    rw [← hV]
    unfold numP
    split
    · omega
    · exact Int.emod_nonneg _ (by omega)
  have hV1 : V < (cs.length : Int) + 2 := by rw [← hV]; exact numP_range _ _
  have hm0 : 0 ≤ V % (cs.length : Int) := Int.emod_nonneg _ (by omega)
  have hm1 : V % (cs.length : Int) < (cs.length : Int) := Int.emod_lt_of_pos _ (by omega)
  have hne0 : ¬ ((cs.length : Int) = 0) := by omega
  obtain ⟨t, ht⟩ : ∃ t : Nat, 1 + V % (cs.length : Int) = (t : Int) := ⟨(1 + V % (cs.length : Int)).toNat, by omega⟩
  have ht1 : 1 ≤ t := by omega
  have ht2 : t ≤ cs.length := by omega
  obtain ⟨L, hL, hLe, hLk⟩ := up_chain hgd ht2 t ht1 (rch_self _ _)
  have LF := Lib.hid (fun (k : Nat) (hk : k < (1 :: L).length) => line_from hgd ht1 ht2 hL hk)
  have GF := Lib.hid (fun (k : Nat) (hk : k < L.length) => get_first hgd (hLk k hk).2.1 (hLk k hk).2.2 (hLk k hk).1)
  have C28 := Lib.hid (fun (W : World) (h : Two w1 W p q cs) (x y : Int) => h.line_ (by omega) x y)
  have C20 := Lib.hid (fun (W : World) (h : Two w1 W p q cs) (x : Int) => h.get_ (by omega) x)
  unfold LineOut at C28
  unfold GetOut at C20
  obtain ⟨n, hn⟩ : ∃ n, L.length = n := ⟨_, rfl⟩
  have HN := Lib.hid hn
  have HE := Lib.hid hLe
  have L0 := Lib.hid (fun (W : World) (h : Two w1 W p q cs) => (show Calls Try.prog 28 #[.pointer (some ⟨p, 0, none⟩), .int .i64 1, .int .i64 (t : Int)] W fun e w' => ∃ A c, e = .returned (.tuple #[.slice A n c, .bool true]) ∧ w'.ownsRow W.heap.size 3 1 (.slice A n c) n (natC L) ∧ Below W.heap.size W w' from by
    have h1 := C28.out W h 1 (t : Int)
    have h2 := LF.out 0 (by simp)
    have e0 : (((1 :: L).getD 0 0 : Nat) : Int) = 1 := rfl
    rw [e0, List.drop_zero] at h2
    rw [h2.1, h2.2, hn] at h1
    exact h1))
  have hn60 : n ≤ 1000 := by
    have := lineP_len cs 1 (t : Int)
    have h2 := LF.out 0 (by simp)
    have e0 : (((1 :: L).getD 0 0 : Nat) : Int) = 1 := rfl
    rw [e0, List.drop_zero] at h2
    rw [h2.2, hn] at this
    omega
  have HT := Lib.hid hT
  have HB1 := Lib.hid hb1
  have HTT := Lib.hid ht
  clear hL hLe hLk hn hV hgd hT hb1
  go_upto_region 6 with (first
    | (go_at_call 19; ((with_reducible refine HT.out.rmany_.mono ?_); rintro e v ⟨rfl, rfl⟩))
    | (go_at_call 18; ((with_reducible refine (N1.out _).mono ?_); rintro e v ⟨rfl, rfl⟩))
    | (fail "arm"))
  clear ht
  go_wp2_with (first
    | (go_at_call 28; ((with_reducible refine (L0.out _ HT.out).mono ?_); rintro e w3 ⟨A1, c1, rfl, o1, g1⟩; (have T1 := HT.out.on g1)))
    | (fail "arm"))
  have HT1 := Lib.hid T1
  have HR1 := Lib.hid (Row.own o1)
  have hncap : n ≤ c1 := (Row.own o1).2.1
  clear T1 o1 g1
  go_loopw [12, 45] (fun v12 v45 wr => ∃ k : Nat, v12 = .int .i64 (((1 :: L).getD k 0 : Nat) : Int) ∧ v45 = .int .i64 (k : Int) ∧ k ≤ n ∧ Hid (Two w1 wr p q cs ∧ Below w3.heap.size w3 wr)) (fun _ v45 _ => n - (intOf v45).toNat)
  case atStart => exact ⟨0, rfl, rfl, by omega, Lib.hid ⟨HT1.out, Below.refl _ _⟩⟩
  case round =>
    obtain ⟨k, rfl, rfl, hk, H⟩ := hrel
    have k0 : (0 : Int) ≤ (k : Int) := Int.natCast_nonneg _
    by_cases hkn : k < n
    · have k1 : (k : Int) < (n : Int) := by omega
      have hkl : k < L.length := by rw [HN.out]; exact hkn
      obtain ⟨ad, hA1, _, c0⟩ := (Row.below HR1.out H.out.2 (Nat.le_refl _)).2.2.2 k _ (natC_at L k hkl)
      obtain ⟨f, hf⟩ : ∃ f, (1 :: L).getD k 0 = f := ⟨_, rfl⟩
      obtain ⟨y, hy⟩ : ∃ y, L.getD k 0 = y := ⟨_, rfl⟩
      have HGF := Lib.hid (GF.out k hkl)
      have HLF := Lib.hid (LF.out k (by simp; omega))
      rw [hf] at HGF HLF ⊢
      rw [hy] at HGF c0
      have HF := Lib.hid (show (1 :: L).getD (k + 1) 0 = y from hy)
      have DG := Lib.hid (show Calls Try.prog 20 #[.pointer (some ⟨p, 0, none⟩), .int .i64 (y : Int)] wr (fun e w' => ∃ A5 nn c5 A6 mm c6 tt aa ee, e = .returned (.tuple #[.agg #[.slice (some A5) (nn + 1) c5, .int .i64 tt, .string aa, .slice A6 mm c6, .bool ee], .bool true]) ∧ w'.cell? A5 = some (.int .i64 (f : Int)) ∧ Below wr.heap.size wr w') from by
        refine (C20.out wr H.out.1 (y : Int)).mono ?_
        rintro e w' ⟨A5, c5, A6, c6, rfl, o5, _, _, hb⟩
        obtain ⟨g1, g2, g3⟩ := HGF.out
        obtain ⟨nn, hnn⟩ : ∃ nn, (getC cs (y : Int)).ps.length = nn + 1 := ⟨(getC cs (y : Int)).ps.length - 1, by omega⟩
        obtain ⟨ad5, e5, _, c5'⟩ := (Row.own o5).2.2.2 0 _ (intC_at _ 0 g2)
        rw [g3] at c5'
        subst e5
        rw [g1, hnn]
        exact ⟨ad5, nn, c5, A6, _, c6, _, _, _, rfl, c5', hb⟩)
      have DL := Lib.hid (fun (W : World) (h : Two w1 W p q cs) => (show Calls Try.prog 28 #[.pointer (some ⟨p, 0, none⟩), .int .i64 (f : Int), .int .i64 (t : Int)] W fun e w' => ∃ A c, e = .returned (.tuple #[.slice A (n - k) c, .bool true]) ∧ Below W.heap.size W w' from by
        have h1 := C28.out W h (f : Int) (t : Int)
        rw [HLF.out.1, HLF.out.2, List.length_drop, HN.out] at h1
        refine h1.mono ?_
        rintro e w' ⟨A, c, rfl, _, hb⟩
        exact ⟨A, c, rfl, hb⟩))
      have hff : ((f : Int) == (f : Int)) = true := by simp
      have hsub : ((n - k : Nat) : Int) = (n : Int) - (k : Int) := by omega
      have HS := Lib.hid hsub
      subst hA1
      clear hf hy hsub
      go_wp2_with (first
        | (go_at_call 20; ((with_reducible refine DG.out.mono ?_); rintro e v1 ⟨A5, nn, c5, A6, mm, c6, tt, aa, ee, rfl, q5, gb⟩; (have T2 := H.out.1.on gb); (have bz : Below v1.heap.size v1 (v1.alloc (.cells #[.slice (some A5) (nn + 1) c5, .int .i64 tt, .string aa, .slice A6 mm c6, .bool ee] 25)) := (Below.refl _ v1).alloc (Nat.le_refl _) _); (have T3 := T2.on bz); (have q6 : (v1.alloc (.cells #[.slice (some A5) (nn + 1) c5, .int .i64 tt, .string aa, .slice A6 mm c6, .bool ee] 25)).cell? A5 = some (.int .i64 (f : Int)) := (bz.cell (World.block_lt_of_cell? v1 _ q5)).trans q5); (have hnn0 : (((nn : Int) + 1) == 0) = false := by simp; omega)))
        | (go_at_call 28; ((with_reducible refine (DL.out _ T3).mono ?_); rintro e v2 ⟨A7, c7, rfl, gb2⟩; (have T4 := T3.on gb2)))
        | (fail "arm"))
      go_roundw
      case rel => exact ⟨k + 1, by rw [HF.out], by go_num, by omega, Lib.hid ⟨T4, Below.then_ (Below.then_ (Below.then_ H.out.2 gb) bz) gb2⟩⟩
      case measure => first | (simp [intOf]; done) | (simp [intOf]; omega)
    · obtain rfl : k = n := by omega
      have he := HE.out
      rw [HN.out] at he
      rw [he]
      go_wp2
      go_ret
      exact ⟨by first | rfl | simp, Below.then_ HB1.out H.out.1.below⟩

set_option maxRecDepth 100000 in
set_option maxHeartbeats 8000000 in
theorem walk2 (A : Option Addr) (l : List (Int × Int)) (c : Nat) (a : Int) (w : World) (hA : Prs w w.heap.size A c l) (hl : l.length ≤ maxLen) (ha : (Lit.int .i64 a).wf = true) (h0 : a < 0) :
    Calls Try.prog 10 #[.slice A l.length c, .int .i64 a] w (BoolB w true) := by
  have S := Lib.hid (sane_any w)
  have MD := Lib.hid (fun (W : World) (h : Below w.heap.size w W) => made_any W A l c ⟨(Row.below hA.1 h (Nat.le_refl _)).more h.size, hA.2⟩ hl)
  have NA := Lib.hid (fun (W : World) (n : Nat) (hn : n ≤ 1000) => number_any W n hn 0 (by decide))
  unfold BoolB at S ⊢
  unfold MadeOut at MD
  obtain ⟨m, hm⟩ : ∃ m, l.length = m := ⟨_, rfl⟩
  rw [hm] at MD ⊢
  clear hA hl ha hm
  go_enter Try.func10, Try.ntmps10
  go_upto_region 5 with (first
    | (go_at_call 14; ((with_reducible refine S.out.mono ?_); rintro e w1 ⟨rfl, hb1⟩))
    | (go_at_call 15; ((with_reducible refine (MD.out _ hb1).mono ?_); rintro e w2 ⟨p, q, cs, rfl, hcs, hT⟩))
    | (fail "arm"))
  have hpos := hT.good.2
  have hgd := hT.good.1
  obtain ⟨V, hV⟩ : ∃ V, numP cs.length 0 = V := ⟨_, rfl⟩
  have N1 := Lib.hid (fun W : World => (show Calls Try.prog 18 #[.int .i64 (cs.length : Int), .int .i64 0] W fun e w' => e = .returned (.int .i64 V) ∧ W = w' from hV ▸ NA.out W cs.length (by omega)))
  have hV0 : 0 ≤ V := by
    rw [← hV]
    unfold numP
    split
    · omega
    · exact Int.emod_nonneg _ (by omega)
  have hV1 : V < (cs.length : Int) + 2 := by rw [← hV]; exact numP_range _ _
  have hm0 : 0 ≤ V % (cs.length : Int) := Int.emod_nonneg _ (by omega)
  have hm1 : V % (cs.length : Int) < (cs.length : Int) := Int.emod_lt_of_pos _ (by omega)
  have hne0 : ¬ ((cs.length : Int) = 0) := by omega
  obtain ⟨t, ht⟩ : ∃ t : Nat, 1 + V % (cs.length : Int) = (t : Int) := ⟨(1 + V % (cs.length : Int)).toNat, by omega⟩
  have ht1 : 1 ≤ t := by omega
  have ht2 : t ≤ cs.length := by omega
  obtain ⟨L, hL, hLe, hLk⟩ := up_chain hgd ht2 t ht1 (rch_self _ _)
  have LF := Lib.hid (fun (k : Nat) (hk : k < (1 :: L).length) => line_from hgd ht1 ht2 hL hk)
  have GF := Lib.hid (fun (k : Nat) (hk : k < L.length) => get_first hgd (hLk k hk).2.1 (hLk k hk).2.2 (hLk k hk).1)
  have C28 := Lib.hid (fun (W : World) (h : Two w1 W p q cs) (x y : Int) => h.line_ (by omega) x y)
  have C20 := Lib.hid (fun (W : World) (h : Two w1 W p q cs) (x : Int) => h.get_ (by omega) x)
  unfold LineOut at C28
  unfold GetOut at C20
  obtain ⟨n, hn⟩ : ∃ n, L.length = n := ⟨_, rfl⟩
  have HN := Lib.hid hn
  have HE := Lib.hid hLe
  have L0 := Lib.hid (fun (W : World) (h : Two w1 W p q cs) => (show Calls Try.prog 28 #[.pointer (some ⟨p, 0, none⟩), .int .i64 1, .int .i64 (t : Int)] W fun e w' => ∃ A c, e = .returned (.tuple #[.slice A n c, .bool true]) ∧ w'.ownsRow W.heap.size 3 1 (.slice A n c) n (natC L) ∧ Below W.heap.size W w' from by
    have h1 := C28.out W h 1 (t : Int)
    have h2 := LF.out 0 (by simp)
    have e0 : (((1 :: L).getD 0 0 : Nat) : Int) = 1 := rfl
    rw [e0, List.drop_zero] at h2
    rw [h2.1, h2.2, hn] at h1
    exact h1))
  have hn60 : n ≤ 1000 := by
    have := lineP_len cs 1 (t : Int)
    have h2 := LF.out 0 (by simp)
    have e0 : (((1 :: L).getD 0 0 : Nat) : Int) = 1 := rfl
    rw [e0, List.drop_zero] at h2
    rw [h2.2, hn] at this
    omega
  have HT := Lib.hid hT
  have HB1 := Lib.hid hb1
  have HTT := Lib.hid ht
  clear hL hLe hLk hn hV hgd hT hb1
  go_upto_region 6 with (first
    | (go_at_call 19; ((with_reducible refine HT.out.rmany_.mono ?_); rintro e v ⟨rfl, rfl⟩))
    | (go_at_call 18; ((with_reducible refine (N1.out _).mono ?_); rintro e v ⟨rfl, rfl⟩))
    | (fail "arm"))
  clear ht
  go_wp2_with (first
    | (go_at_call 28; ((with_reducible refine (L0.out _ HT.out).mono ?_); rintro e w3 ⟨A1, c1, rfl, o1, g1⟩; (have T1 := HT.out.on g1)))
    | (fail "arm"))
  have HT1 := Lib.hid T1
  have HR1 := Lib.hid (Row.own o1)
  have hncap : n ≤ c1 := (Row.own o1).2.1
  clear T1 o1 g1
  go_loopw [12, 45] (fun v12 v45 wr => ∃ k : Nat, v12 = .int .i64 (((1 :: L).getD k 0 : Nat) : Int) ∧ v45 = .int .i64 (k : Int) ∧ k ≤ n ∧ Hid (Two w1 wr p q cs ∧ Below w3.heap.size w3 wr)) (fun _ v45 _ => n - (intOf v45).toNat)
  case atStart => exact ⟨0, rfl, rfl, by omega, Lib.hid ⟨HT1.out, Below.refl _ _⟩⟩
  case round =>
    obtain ⟨k, rfl, rfl, hk, H⟩ := hrel
    have k0 : (0 : Int) ≤ (k : Int) := Int.natCast_nonneg _
    by_cases hkn : k < n
    · have k1 : (k : Int) < (n : Int) := by omega
      have hkl : k < L.length := by rw [HN.out]; exact hkn
      obtain ⟨ad, hA1, _, c0⟩ := (Row.below HR1.out H.out.2 (Nat.le_refl _)).2.2.2 k _ (natC_at L k hkl)
      obtain ⟨f, hf⟩ : ∃ f, (1 :: L).getD k 0 = f := ⟨_, rfl⟩
      obtain ⟨y, hy⟩ : ∃ y, L.getD k 0 = y := ⟨_, rfl⟩
      have HGF := Lib.hid (GF.out k hkl)
      have HLF := Lib.hid (LF.out k (by simp; omega))
      rw [hf] at HGF HLF ⊢
      rw [hy] at HGF c0
      have HF := Lib.hid (show (1 :: L).getD (k + 1) 0 = y from hy)
      have DG := Lib.hid (show Calls Try.prog 20 #[.pointer (some ⟨p, 0, none⟩), .int .i64 (y : Int)] wr (fun e w' => ∃ A5 nn c5 A6 mm c6 tt aa ee, e = .returned (.tuple #[.agg #[.slice (some A5) (nn + 1) c5, .int .i64 tt, .string aa, .slice A6 mm c6, .bool ee], .bool true]) ∧ w'.cell? A5 = some (.int .i64 (f : Int)) ∧ Below wr.heap.size wr w') from by
        refine (C20.out wr H.out.1 (y : Int)).mono ?_
        rintro e w' ⟨A5, c5, A6, c6, rfl, o5, _, _, hb⟩
        obtain ⟨g1, g2, g3⟩ := HGF.out
        obtain ⟨nn, hnn⟩ : ∃ nn, (getC cs (y : Int)).ps.length = nn + 1 := ⟨(getC cs (y : Int)).ps.length - 1, by omega⟩
        obtain ⟨ad5, e5, _, c5'⟩ := (Row.own o5).2.2.2 0 _ (intC_at _ 0 g2)
        rw [g3] at c5'
        subst e5
        rw [g1, hnn]
        exact ⟨ad5, nn, c5, A6, _, c6, _, _, _, rfl, c5', hb⟩)
      have DL := Lib.hid (fun (W : World) (h : Two w1 W p q cs) => (show Calls Try.prog 28 #[.pointer (some ⟨p, 0, none⟩), .int .i64 (f : Int), .int .i64 (t : Int)] W fun e w' => ∃ A c, e = .returned (.tuple #[.slice A (n - k) c, .bool true]) ∧ Below W.heap.size W w' from by
        have h1 := C28.out W h (f : Int) (t : Int)
        rw [HLF.out.1, HLF.out.2, List.length_drop, HN.out] at h1
        refine h1.mono ?_
        rintro e w' ⟨A, c, rfl, _, hb⟩
        exact ⟨A, c, rfl, hb⟩))
      have hff : ((f : Int) == (f : Int)) = true := by simp
      have hsub : ((n - k : Nat) : Int) = (n : Int) - (k : Int) := by omega
      have HS := Lib.hid hsub
      subst hA1
      clear hf hy hsub
      go_wp2_with (first
        | (go_at_call 20; ((with_reducible refine DG.out.mono ?_); rintro e v1 ⟨A5, nn, c5, A6, mm, c6, tt, aa, ee, rfl, q5, gb⟩; (have T2 := H.out.1.on gb); (have bz : Below v1.heap.size v1 (v1.alloc (.cells #[.slice (some A5) (nn + 1) c5, .int .i64 tt, .string aa, .slice A6 mm c6, .bool ee] 25)) := (Below.refl _ v1).alloc (Nat.le_refl _) _); (have T3 := T2.on bz); (have q6 : (v1.alloc (.cells #[.slice (some A5) (nn + 1) c5, .int .i64 tt, .string aa, .slice A6 mm c6, .bool ee] 25)).cell? A5 = some (.int .i64 (f : Int)) := (bz.cell (World.block_lt_of_cell? v1 _ q5)).trans q5); (have hnn0 : (((nn : Int) + 1) == 0) = false := by simp; omega)))
        | (go_at_call 28; ((with_reducible refine (DL.out _ T3).mono ?_); rintro e v2 ⟨A7, c7, rfl, gb2⟩; (have T4 := T3.on gb2)))
        | (fail "arm"))
      go_roundw
      case rel => exact ⟨k + 1, by rw [HF.out], by go_num, by omega, Lib.hid ⟨T4, Below.then_ (Below.then_ (Below.then_ H.out.2 gb) bz) gb2⟩⟩
      case measure => first | (simp [intOf]; done) | (simp [intOf]; omega)
    · obtain rfl : k = n := by omega
      have he := HE.out
      rw [HN.out] at he
      rw [he]
      go_wp2
      go_ret
      exact ⟨by first | rfl | simp, Below.then_ HB1.out H.out.1.below⟩

theorem walk (A : Option Addr) (l : List (Int × Int)) (c : Nat) (a : Int) (w : World) (hA : Prs w w.heap.size A c l) (hl : l.length ≤ maxLen) (ha : (Lit.int .i64 a).wf = true) : Calls Try.prog 10 #[.slice A l.length c, .int .i64 a] w (BoolB w true) := by
  by_cases h : 0 ≤ a
  · exact walk1 A l c a w hA hl ha h
  · exact walk2 A l c a w hA hl ha (by omega)

theorem contract (H : Type) (enc : TypeId × Value → H) (W : World) (base : Nat) (args : Array Value) (ds gs : List (DataW H)) (before : List MemPlace)
    (hval : ∀ (j : Nat) t v, Try.f10.params[j]? = some t → args[j]? = some v → Value.okWide Try.prog W .any base t v)
    (hW : DataW.Whole enc Try.prog Try.f10.params.toList Rows.historyLinesSpec.vars false W args.toList ds gs before) :
    Calls Try.prog 10 args W fun e W' => ∃ v, e = .returned v ∧ Rows.historyLinesSpec.post enc Try.prog Try.f10 false true false false W args v W' := by
  have hW' := hW
  obtain ⟨p, q, hA0, hV, rfl, hfz, hnd⟩ := hW
  have hA : DataW.TrodAll enc Try.prog W 0 (fun _ => true) true Try.f10.params.toList args.toList ds p := hA0
  rw [Try.params10] at hA hval
  obtain ⟨v0, vs0, d0, ds0, p0, q0, e0, rfl, rfl, h0, r0⟩ := trodAll_cons hA
  obtain ⟨v1, vs1, d1, ds1, p1, q1, e1, rfl, rfl, h1, r1⟩ := trodAll_cons r0
  obtain ⟨rfl, rfl, rfl⟩ := trodAll_nil r1
  obtain rfl : args = #[v0, v1] := by cases args; simp_all
  obtain ⟨rfl, rfl⟩ := trodVars_none hV
  obtain ⟨A, l, c, rfl, hP, hl⟩ := open_prs h0 (hval 0 22 v0 rfl rfl)
  obtain ⟨a, rfl, _, _, ha⟩ := open_int Try.underlying3 (hval 1 3 v1 rfl rfl) h1
  refine (walk A l c a W hP hl ha).mono fun e W' ⟨he, hb⟩ => ⟨_, he, law_post rfl rfl ?_ rfl rfl rfl hW' hb⟩
  rw [Try.params10]
  intro t ht
  have ht' : t = 22 ∨ t = 3 := by simpa using ht
  rcases ht' with rfl | rfl <;> exact ⟨by kernel_rfl, of_decide_eq_true (by kernel_rfl)⟩

set_option maxRecDepth 100000 in
theorem lifted (os : Os) (started : os.Started) (H : Type) (enc : TypeId × Value → H) :
    ReturnsInHanded {} Try.checked os 10 .any (Rows.historyLinesSpec.pre6 enc Try.prog Try.f10 Rows.historyLinesRow.domain false) (Rows.historyLinesSpec.post enc Try.prog Try.f10 false true false false) := by
  refine returnsInHanded_of_change (C := Try.checked) ownKnob_none started (by kernel_rfl) Try.func10
    (ChangeSpec.witness6 (enc := enc) (C := Try.checked) false ⟨#[], #[.slice none 0 0, .int .i64 0], []⟩ 8 (by kernel_rfl) (by kernel_rfl) (by kernel_rfl) (by kernel_rfl)) ?_
  intro W base args ds gs before hval hW _ _
  exact contract H enc W base args ds gs before hval hW

theorem proved : Rows.HistoryLinesSaid :=
  OpenClaim.holds_of_wide 10 Try.f10 rfl rfl rfl rfl rfl rfl rfl ⟨rfl, rfl, rfl, rfl, rfl⟩ rfl rfl rfl rfl rfl (by kernel_rfl) Try.func10 (by kernel_rfl)
    (of_decide_eq_true (by kernel_rfl)) (by unfold Func.isWrapper; first | (rw [if_pos (by decide +kernel)]; kernel_rfl) | (rw [if_neg (by decide +kernel)]; exact ⟨rfl, rfl⟩))
    (fun os started H enc _ => lifted os started H enc)

end Go.Proofs.Ytiikbekboapphaa.llin
