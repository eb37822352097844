/- PathsLiteral: a path, as a pattern, matches itself only; with a component replaced by a star or question marks it still matches the path. -/
import Derived.Test.YtdbikaffmpkgpaaDoorLit
import Derived.Deep.CutRange
namespace Go.Proofs.YtdbikaffmpkgpaaDoor.lliteral
open Go.ChangeShapes Go.WideShapes Go.ChangeAt Go.RowKit

theorem beq_self (b : Bool) : (b == b) = true := by cases b <;> rfl
theorem made_names (zs : List Int) : (comps (madeS zs)).length ≤ 6 ∧ 0 < (comps (madeS zs)).length ∧ ∀ x ∈ comps (madeS zs), x.size ≤ 7 ∧ 0 < x.size := by
  by_cases h : zs = []
  · subst h; decide +kernel
  · have hc : comps (madeS zs) = madeL zs := by
      unfold madeS
      rw [if_neg h]
      exact comps_join (madeL_ne h) (fun x hx => namesL_free x (madeL_mem hx))
    rw [hc]
    exact ⟨madeL_len zs, List.length_pos_iff.2 (madeL_ne h), fun x hx => ⟨namesL_size x (madeL_mem hx), namesL_pos x (madeL_mem hx)⟩⟩

theorem own_empty (W : World) : (W.alloc (.cells #[] 9)).ownsRow W.heap.size 9 1 (.slice (some ⟨W.heap.size, 0, none⟩) 0 0) 0 [] :=
  ⟨rfl, .inr ⟨W.heap.size, 0, #[], rfl, Nat.le_refl _, Full.new W 9 [], Nat.le_refl _, by decide, rfl, rfl⟩⟩
theorem own_copy {W : World} {b n : Nat} {v : Value} {xs : List Value} (h0 : 0 < n) (h : W.ownsRow b 9 1 v (0 + n) ([] ++ xs)) : ∃ g c, v = .slice (some ⟨g, 0, none⟩) n c ∧ W.ownsRow b 9 1 (.slice (some ⟨g, 0, none⟩) n c) n xs := by
  rw [Nat.zero_add, List.nil_append] at h
  rcases h.2 with ⟨_, e⟩ | ⟨g, cap, cur, rfl, _⟩
  · omega
  · exact ⟨g, cap, rfl, h⟩
theorem one_cells (L : List ByteArray) : ∀ u ∈ strC L, u.oneCell' = true := by
  intro u hu
  obtain ⟨s, _, rfl⟩ := List.mem_map.1 hu
  rfl
theorem src_cells {W : World} {B : Nat} {pd : Addr} {c : Nat} {L : List ByteArray} (h : Strs W B (some pd) c L) (hB : B ≤ W.heap.size) : ∀ (j : Nat) (u : Value), (strC L)[j]? = some u → (W.alloc (.cells #[] 9)).cell? (pd.add j) = some u := by
  intro j u hj
  obtain ⟨ad, e, _, hc⟩ := (Row.alloc h hB (.cells #[] 9)).2.2.2 j u hj
  injection e with e
  subst e
  exact hc
/-- behind a copy of L at W, a cell of the copy is written: what was below stays -/
theorem below_copy {W w5 : World} (hg : (W.alloc (.cells #[] 9)).grownBy w5 (Value.ownBlock (.slice (some ⟨W.heap.size, 0, none⟩) 0 0))) : Below W.heap.size W w5 :=
  ((Below.refl _ W).alloc (Nat.le_refl _) _).grown hg (by simp) (fun j e => by
    have : W.heap.size = j := by simpa [Value.ownBlock] using e
    omega)

set_option maxRecDepth 100000 in
set_option maxHeartbeats 8000000 in
theorem walk (A : Option Addr) (zs : List Int) (c : Nat) (A2 : Option Addr) (ms : List Int) (c2 : Nat) (n : Int) (w : World) (hT : Tab w) (hA : Ints w w.heap.size A c zs) (hn : zs.length ≤ maxLen) (hA2 : Ints w w.heap.size A2 c2 ms) (hn2 : ms.length ≤ maxLen) :
    Calls Tryd.prog 12 #[.slice A zs.length c, .slice A2 ms.length c2, .int .i64 n] w (BoolB w true) := by
  obtain ⟨i9, hi, hz0, hz1, hz2⟩ := info_parts info9
  have MX := fun (W : World) (h : Way w W) => made_any w.heap.size A zs c W (Row.below hA h.below (Nat.le_refl _)) h.below.size hn
  have MY := fun (W : World) (h : Way w W) => made_any w.heap.size A2 ms c2 W (Row.below hA2 h.below (Nat.le_refl _)) h.below.size hn2
  have vx := madeS_valid zs
  have vy := madeS_valid ms
  have zx := (madeS_size zs).2
  have zy := (madeS_size ms).2
  obtain ⟨nl, n0, nm⟩ := made_names zs
  obtain ⟨x, ex⟩ : ∃ p, madeS zs = p := ⟨_, rfl⟩
  obtain ⟨y, ey⟩ : ∃ p, madeS ms = p := ⟨_, rfl⟩
  rw [ex] at MX vx zx nl n0 nm
  rw [ey] at MY vy zy
  have RP := fun W => refParts_any x W (by omega)
  rw [valid_ne vx] at RP
  have MT := fun (p s : ByteArray) (v : Bool) (hv : matchS p s = v) (h1 : p.size ≤ 300) (h2 : s.size ≤ 300) (W : World) (h : Tab W) => (show Calls Tryd.prog 22 #[.string p, .string s] W (BoolB W v) by
    rw [← hv]
    exact match_any p s W h (by unfold maxLen; omega) (by unfold maxLen; omega))
  have H1 := Lib.hid (fun W h => MT _ _ _ (match_self vx) (by omega) (by omega) W h)
  obtain ⟨e, he⟩ : ∃ e, decide (x.data.toList = y.data.toList) = e := ⟨_, rfl⟩
  have H2 := Lib.hid (fun W h => MT _ _ _ ((match_eq vx vy).trans he) (by omega) (by omega) W h)
  have hee := beq_str x y
  rw [he] at hee
  have hbb := beq_self e
  have hset := fun (k : Nat) (hk : k < (comps x).length) (c : ByteArray) (q1 : isComp c = true) (q2 : 47 ∉ c.data.toList) (q3 : cStar c = false) (q4 : c.size ≤ 8) => (show (joinL ((comps x).set k c)).length ≤ 200 ∧ matchS (str (joinL ((comps x).set k c))) x = oneS c (comps x)[k] by
    have hz : (joinL ((comps x).set k c)).length ≤ 200 := by
      have := joinL_len (L := (comps x).set k c) (n := 8) (fun y hy => by
        rcases List.mem_or_eq_of_mem_set hy with h | rfl
        · have := (nm y h).1; omega
        · exact q4)
      rw [List.length_set] at this
      omega
    exact ⟨hz, match_set vx hk q1 q2 q3 hz⟩)
  obtain ⟨N, eN⟩ : ∃ N, comps x = N := ⟨_, rfl⟩
  rw [eN] at RP nl n0
  have M1 := fun W => mod_any n N.length W n0 (by omega)
  have l1 := modN_lt (x := n) n0
  obtain ⟨k, hk⟩ : ∃ k, modN n N.length = k := ⟨_, rfl⟩
  rw [hk] at M1 l1
  have nmk := nm N[k] (by rw [eN]; exact List.getElem_mem _)
  subst eN
  obtain ⟨t, ht⟩ : ∃ t, (comps x)[k] = t := ⟨_, rfl⟩
  rw [ht] at nmk
  obtain ⟨nt, hnt⟩ : ∃ n, t.size = n := ⟨_, rfl⟩
  rw [hnt] at nmk
  obtain ⟨s1a, s1b⟩ := hset k l1 ⟨#[42]⟩ star_comp.1 star_comp.2.1 star_comp.2.2 (by decide)
  rw [one_star] at s1b
  obtain ⟨m1, m2, m3⟩ := marks_comp (n := nt) (by omega)
  obtain ⟨s2a, s2b⟩ := hset k l1 (marksS nt) m1 m2 m3 (by unfold marksS; rw [str_size, List.length_replicate]; omega)
  rw [one_marks, ht, hnt, decide_eq_true rfl] at s2b
  obtain ⟨m4, m5, m6⟩ := marks_comp (n := nt + 1) (by omega)
  obtain ⟨s3a, s3b⟩ := hset k l1 (marksS (nt + 1)) m4 m5 m6 (by unfold marksS; rw [str_size, List.length_replicate]; omega)
  rw [one_marks, ht, hnt, decide_eq_false (by omega)] at s3b
  have ht2 : (comps x)[k]? = some t := by rw [List.getElem?_eq_getElem l1, ht]
  clear ht hset
  obtain ⟨N, eN⟩ : ∃ N, comps x = N := ⟨_, rfl⟩
  simp only [eN] at RP nl n0 M1 hk s1a s1b s2a s2b s3a s3b ht2 l1
  have MS := fun (L : List ByteArray) (v : Bool) (h1 : (joinL L).length ≤ 200) (h2 : matchS (str (joinL L)) x = v) (W : World) (h : Tab W) => MT (str (joinL L)) x v h2 (by rw [str_size]; omega) (by omega) W h
  have H3 := Lib.hid (fun W h => MS _ _ s1a s1b W h)
  have H4 := Lib.hid (fun W h => MS _ _ s2a s2b W h)
  have H5 := Lib.hid (fun W h => MS _ _ s3a s3b W h)
  have HSZ := Lib.hid (And.intro s1a (And.intro s2a s3a))
  have HMX := Lib.hid MX
  have HMY := Lib.hid MY
  have HRP := Lib.hid RP
  have HM1 := Lib.hid M1
  have HTT := Lib.hid (And.intro ht2 hnt)
  have k0 : (0 : Int) ≤ (k : Int) := Int.natCast_nonneg _
  have k1 : (k : Int) < (N.length : Int) := by omega
  have hw := Way.start hT
  clear MX MY RP M1 MT MS vx vy he ex ey s1a s1b s2a s2b s3a s3b m1 m2 m3 m4 m5 m6 ht2 hnt nm eN hk hA hA2 zx zy
  have hlen : ∀ z : ByteArray, (N.set k z).length = N.length := fun z => List.length_set
  have HLEN := Lib.hid hlen
  have hkl : ∀ z : ByteArray, k < (N.set k z).length := fun z => by rw [hlen z]; omega
  have HKL := Lib.hid hkl
  have HSELF := Lib.hid (fun (z : ByteArray) => (show (N.set k z)[k]'(HKL.out z) = z from List.getElem_set_self _))
  have JN := Lib.hid (fun (z : ByteArray) (B : Option Addr) (d : Nat) (W : World) (h : Strs W W.heap.size B d (N.set k z)) (hz : (joinL (N.set k z)).length ≤ 200) => (show Calls Tryd.prog 38 #[.slice B N.length d] W fun e w' => e = .returned (.string (str (joinL (N.set k z)))) ∧ W = w' by
    have := join_any _ B (N.set k z) d W h (by rw [hlen z]; omega) (by omega)
    rwa [hlen z] at this))
  clear hlen hkl
  go_enter Tryd.func12, Tryd.ntmps12
  go_upto_region 6 with (first
    | (go_at_call 14; (with_reducible refine (sane_any _ hw.tab).mono ?_); rintro e w1 ⟨rfl, hb⟩; have hw := hw.on hb)
    | (go_at_call 18; (with_reducible refine (HMX.out _ hw).mono ?_); rintro e w2 ⟨rfl, hb⟩; have hw := hw.on hb)
    | (go_at_call 18; (with_reducible refine (HMY.out _ hw).mono ?_); rintro e w2 ⟨rfl, hb⟩; have hw := hw.on hb)
    | (go_at_call 25; (with_reducible refine (HRP.out _).mono ?_); rintro e w3 ⟨P, pc, rfl, ho, hb⟩; (have hS := (Strs.own ho).2); (obtain ⟨pd, rfl, _, _⟩ := hS.at_ n0); have hw := hw.on hb; clear ho)
    | (go_at_call 19; (with_reducible refine (HM1.out _).mono ?_); rintro e w4 ⟨rfl, rfl⟩))
  have hcapP := hS.cap
  have hsrc := src_cells hS (Nat.le_refl _)
  go_upto_region 7 with (at_builtin; refine wpList_append_own _ rfl _ _ 34 rfl w3.heap.size 9 i9 (.string ⟨#[]⟩) 1 16 Tryd.underlying34 hi hz0 hz1 hz2 rfl (by decide) (.slice (some ⟨w3.heap.size, 0, none⟩) 0 0) 0 [] rfl (own_empty w3) pd N.length pc (strC N) rfl (by simp [strC]) (by assumption) (one_cells _) (by unfold maxLen; omega) (by omega) (by simp) ?_; intro v' w5 hown' hgrow' _; (have hbe := below_copy hgrow'); obtain ⟨g1, c1, rfl, hownA⟩ := own_copy n0 hown'; clear hown' hgrow')
  obtain ⟨cA, zA, bA, leA⟩ := own_cell hownA (show k < N.length by omega)
  go_upto_region 8 with fail
  have hownA6 := own_set hownA k ⟨#[42]⟩
  have hb6 : Below w3.heap.size w3 (w5.setCell ⟨g1, k, none⟩ (.string ⟨#[42]⟩)) := hbe.setCell bA _
  obtain ⟨w6, hw6⟩ : ∃ W, w5.setCell ⟨g1, k, none⟩ (.string ⟨#[42]⟩) = W := ⟨_, rfl⟩
  rw [hw6] at hownA6 hb6 ⊢
  have hA6 := (Strs.own hownA6).2
  have hS6 := strs_on hS hb6
  have hw6' := hw.on hb6
  have hsrc2 := src_cells hS6 (Nat.le_refl _)
  clear hsrc cA zA bA hownA hownA6 hbe hw6 hb6 hS hw
  go_upto_region 9 with (at_builtin; refine wpList_append_own _ rfl _ _ 34 rfl w6.heap.size 9 i9 (.string ⟨#[]⟩) 1 16 Tryd.underlying34 hi hz0 hz1 hz2 rfl (by decide) (.slice (some ⟨w6.heap.size, 0, none⟩) 0 0) 0 [] rfl (own_empty w6) pd N.length pc (strC N) rfl (by simp [strC]) (by assumption) (one_cells _) (by unfold maxLen; omega) (by omega) (by simp) ?_; intro v' w7 hown' hgrow' _; (have hbe := below_copy hgrow'); obtain ⟨g2, c2m, rfl, hownB⟩ := own_copy n0 hown'; clear hown' hgrow')
  obtain ⟨cB, zB, bB, leB⟩ := own_cell hownB (show k < N.length by omega)
  go_upto_region 10 with fail
  have hownB8 := own_set hownB k ⟨#[]⟩
  have hb8 : Below w6.heap.size w6 (w7.setCell ⟨g2, k, none⟩ (.string ⟨#[]⟩)) := hbe.setCell bB _
  obtain ⟨w8, hw8⟩ : ∃ W, w7.setCell ⟨g2, k, none⟩ (.string ⟨#[]⟩) = W := ⟨_, rfl⟩
  rw [hw8] at hownB8 hb8 ⊢
  clear hsrc2 cB zB hownB hbe hw8
  go_wp2_with fail
  go_loopw [14] (fun v14 wr => ∃ i : Nat, i ≤ nt ∧ v14 = .int .i64 i ∧ Below w6.heap.size w6 wr ∧ wr.ownsRow w6.heap.size 9 1 (.slice (some ⟨g2, 0, none⟩) N.length c2m) N.length (strC (N.set k (marksS i)))) (fun v14 _ => nt - (intOf v14).toNat)
  case atStart => exact ⟨0, by omega, rfl, hb8, hownB8⟩
  case round =>
    obtain ⟨i, hi', rfl, hbr, hown⟩ := hrel
    have i0 : (0 : Int) ≤ (i : Int) := Int.natCast_nonneg _
    obtain ⟨pd', epd, _, hpk⟩ := (show Strs wr w6.heap.size (some pd) pc N from Row.below hS6 hbr (Nat.le_refl _)).2.2.2 k (.string t) (by unfold strC; rw [List.getElem?_map, HTT.out.1]; rfl)
    injection epd with epd
    subst epd
    have hnt := HTT.out.2
    obtain ⟨cB, zB, _, _⟩ := own_cell hown (HKL.out (marksS i))
    rw [HSELF.out] at cB
    have hsucc := marks_succ i
    have hmi : (marksS i).size ≤ 10 := by unfold marksS; rw [str_size, List.length_replicate]; omega
    obtain ⟨mi, emi⟩ : ∃ m, marksS i = m := ⟨_, rfl⟩
    by_cases hlt : i < nt
    · have i1 : (i : Int) < (t.size : Int) := by omega
      have hown2 := own_set hown k (marksS i ++ (⟨#[63]⟩ : ByteArray))
      rw [List.set_set, hsucc] at hown2
      rw [emi] at hsucc cB hmi
      rw [← hsucc] at hown2
      have HO2 := Lib.hid (And.intro hown2 hsucc)
      have hbr2 := hbr.setCell (p := ⟨g2, k, none⟩) bB (.string (mi ++ (⟨#[63]⟩ : ByteArray)))
      have HBR := Lib.hid hbr2
      clear hown hown2 hsucc hbr2 hnt emi
      go_wp2_with fail
      go_roundw
      case rel => exact ⟨i + 1, by omega, by go_num, HBR.out, by rw [← HO2.out.2]; exact HO2.out.1⟩
      case measure => simp [intOf]; omega
    · obtain rfl : i = nt := by omega
      have i1 : ¬ (i : Int) < (t.size : Int) := by omega
      have hA8 : Strs wr wr.heap.size (some ⟨g1, 0, none⟩) c1 (N.set k ⟨#[42]⟩) := strs_on hA6 hbr
      have hB8 := (Strs.own hown).2
      have hw8 := hw6'.on hbr
      have hsrc3 := src_cells hB8 (Nat.le_refl _)
      have leC := hB8.cap
      rw [HLEN.out] at leC
      rw [emi] at cB hmi
      obtain ⟨q3, hq3⟩ : ∃ L, strC (N.set k (marksS i)) = L := ⟨_, rfl⟩
      have hq3l : q3.length = N.length := by rw [← hq3]; unfold strC; rw [List.length_map, HLEN.out]
      have hq3c : ∀ u ∈ q3, u.oneCell' = true := by rw [← hq3]; exact one_cells _
      rw [hq3] at hsrc3
      have HQ3 := Lib.hid hq3
      have hN0 := n0
      have HSC := Lib.hid hsucc
      have HEM := Lib.hid emi
      clear hnt hown hq3 hsucc emi
      go_upto_region 15 with (at_builtin; refine wpList_append_own _ rfl _ _ 34 rfl wr.heap.size 9 i9 (.string ⟨#[]⟩) 1 16 Tryd.underlying34 hi hz0 hz1 hz2 rfl (by decide) (.slice (some ⟨wr.heap.size, 0, none⟩) 0 0) 0 [] rfl (own_empty wr) ⟨g2, 0, none⟩ N.length c2m q3 rfl (by rw [hq3l, Nat.mul_one]) hsrc3 hq3c (by unfold maxLen; omega) (by omega) (by simp) ?_; intro v' w9 hown' hgrow' _; (have hbe := below_copy hgrow'); obtain ⟨g3, c3, rfl, hownC⟩ := own_copy n0 hown'; clear hown' hgrow')
      rw [← HQ3.out] at hownC
      obtain ⟨cC, zC, bC, leD⟩ := own_cell hownC (HKL.out (marksS i))
      have cB9 : w9.cell? ⟨g2, k, none⟩ = some (.string mi) := (hbe.cell (p := ⟨g2, k, none⟩) (by obtain ⟨ad, e1, h1, _⟩ := hB8.at_ (HKL.out (marksS i)); injection e1 with e1; subst e1; exact h1)).trans cB
      have hownD := own_set hownC k (marksS i ++ (⟨#[63]⟩ : ByteArray))
      rw [List.set_set, HSC.out] at hownD
      have hbD := hbe.setCell (p := ⟨g3, k, none⟩) bC (.string (mi ++ (⟨#[63]⟩ : ByteArray)))
      have eD : marksS (i + 1) = mi ++ (⟨#[63]⟩ : ByteArray) := by rw [← HEM.out]; exact HSC.out.symm
      have HD := Lib.hid (And.intro hownD hbD)
      have HED := Lib.hid eD
      clear hownD hbD eD hownC hbe hsrc3 hq3c hq3l
      go_upto_region 16 with fail
      obtain ⟨hownD, hbD⟩ := HD.out
      rw [HED.out] at hownD
      obtain ⟨w10, hw10⟩ : ∃ W, w9.setCell ⟨g3, k, none⟩ (.string (mi ++ (⟨#[63]⟩ : ByteArray))) = W := ⟨_, rfl⟩
      rw [hw10] at hownD hbD ⊢
      rw [← HED.out] at hownD
      have hw := hw8.on hbD
      have hA := strs_on hA8 hbD
      have hB := strs_on hB8 hbD
      have hC := (Strs.own hownD).2
      obtain ⟨z1, z2, z3⟩ := HSZ.out
      have JA := Lib.hid (fun (W : World) (h : Strs W W.heap.size (some ⟨g1, 0, none⟩) c1 (N.set k ⟨#[42]⟩)) => JN.out _ _ _ W h z1)
      have JB := Lib.hid (fun (W : World) (h : Strs W W.heap.size (some ⟨g2, 0, none⟩) c2m (N.set k (marksS i))) => JN.out _ _ _ W h z2)
      have JC := Lib.hid (fun (W : World) (h : Strs W W.heap.size (some ⟨g3, 0, none⟩) c3 (N.set k (marksS (i + 1)))) => JN.out _ _ _ W h z3)
      clear HD HED hownD hbD hw10 hw8 hA8 hB8 hS6 hA6 hw6' hownB8 hb8 hbr hpk cB zB cC zC cB9 z1 z2 z3 leD
      go_wp2_with (first
        | (go_at_call 22; (with_reducible refine (H1.out _ hw.tab).mono ?_); rintro e wa ⟨rfl, hb⟩; have hw := hw.on hb; have hA := strs_on hA hb; have hB := strs_on hB hb; have hC := strs_on hC hb)
        | (go_at_call 22; (with_reducible refine (H2.out _ hw.tab).mono ?_); rintro e wa ⟨rfl, hb⟩; have hw := hw.on hb; have hA := strs_on hA hb; have hB := strs_on hB hb; have hC := strs_on hC hb)
        | (go_at_call 38; (with_reducible refine (JA.out _ hA).mono ?_); rintro e wb ⟨rfl, rfl⟩)
        | (go_at_call 38; (with_reducible refine (JB.out _ hB).mono ?_); rintro e wb ⟨rfl, rfl⟩)
        | (go_at_call 38; (with_reducible refine (JC.out _ hC).mono ?_); rintro e wb ⟨rfl, rfl⟩)
        | (go_at_call 22; (with_reducible refine (H3.out _ hw.tab).mono ?_); rintro e wa ⟨rfl, hb⟩; have hw := hw.on hb; have hA := strs_on hA hb; have hB := strs_on hB hb; have hC := strs_on hC hb)
        | (go_at_call 22; (with_reducible refine (H4.out _ hw.tab).mono ?_); rintro e wa ⟨rfl, hb⟩; have hw := hw.on hb; have hA := strs_on hA hb; have hB := strs_on hB hb; have hC := strs_on hC hb)
        | (go_at_call 22; (with_reducible refine (H5.out _ hw.tab).mono ?_); rintro e wa ⟨rfl, hb⟩; have hw := hw.on hb; have hA := strs_on hA hb; have hB := strs_on hB hb; have hC := strs_on hC hb))
      go_ret
      exact ⟨rfl, hw.below⟩

theorem contract (H : Type) (enc : TypeId × Value → H) (W : World) (base : Nat) (args : Array Value) (ds gs : List (DataW H)) (before : List MemPlace)
    (hval : ∀ (j : Nat) t v, Tryd.f12.params[j]? = some t → args[j]? = some v → Value.okWide Tryd.prog W .any base t v)
    (hW : DataW.Whole enc Tryd.prog Tryd.f12.params.toList Rows.pathsLiteralSpec.vars false W args.toList ds gs before) (hT : Tab W) :
    Calls Tryd.prog 12 args W fun e W' => ∃ v, e = .returned v ∧ Rows.pathsLiteralSpec.post enc Tryd.prog Tryd.f12 false true false false W args v W' := by
  have hW' := hW
  obtain ⟨p, q, hA0, hV, rfl, hfz, hnd⟩ := hW
  have hA : DataW.TrodAll enc Tryd.prog W 0 (fun _ => true) true Tryd.f12.params.toList args.toList ds p := hA0
  rw [Tryd.params12] at hA hval
  obtain ⟨v0, vs0, d0, ds0, p0, q0, e0, rfl, rfl, h0, r0⟩ := trodAll_cons hA
  obtain ⟨v1, vs1, d1, ds1, p1, q1, e1, rfl, rfl, h1, r1⟩ := trodAll_cons r0
  obtain ⟨v2, vs2, d2, ds2, p2, q2, e2, rfl, rfl, h2, r2⟩ := trodAll_cons r1
  obtain ⟨rfl, rfl, rfl⟩ := trodAll_nil r2
  obtain rfl : args = #[v0, v1, v2] := by cases args; simp_all
  obtain ⟨rfl, rfl⟩ := trodVars_none hV
  obtain ⟨A, zs, c, rfl, hI, hn⟩ := open_intl h0 (hval 0 22 v0 rfl rfl)
  obtain ⟨A2, ms, c2, rfl, hI2, hn2⟩ := open_intl h1 (hval 1 22 v1 rfl rfl)
  obtain ⟨n, rfl, _, _, _⟩ := open_int Tryd.underlying3 (hval 2 3 v2 rfl rfl) h2
  refine (walk A zs c A2 ms c2 n W hT hI hn hI2 hn2).mono fun e W' ⟨he, hb⟩ => ⟨_, he, law_post rfl rfl ?_ rfl rfl rfl hW' hb⟩
  rw [Tryd.params12]
  intro t ht
  have ht' : t = 22 ∨ t = 3 := by simpa using ht
  rcases ht' with rfl | rfl <;> exact ⟨by kernel_rfl, of_decide_eq_true (by kernel_rfl)⟩

theorem laid_met (os : Os) : laidMet Tryd.prog Rows.pathsLiteralRow.laid ((laidWorld os).forCall (fun _ _ => 0) ⟨#[], #[.slice none 0 0, .slice none 0 0, .int .i64 0], []⟩).memory :=
  laidMet_of_run' 8 (by kernel_rfl) (by kernel_rfl)
theorem reads (os : Os) {H : Type} (enc : TypeId × Value → H) : ∃ ds places, DataW.whole enc Tryd.prog ((laidWorld os).forCall (fun _ _ => 0) ⟨#[], #[.slice none 0 0, .slice none 0 0, .int .i64 0], []⟩).memory Tryd.f12.params.toList Rows.pathsLiteralSpec.vars false (#[.slice none 0 0, .slice none 0 0, .int .i64 0] : Array Value).toList 8 = some (ds, [], places) ∧ Rows.uptoSmall H (ds ++ []) = true :=
  ⟨[.nil, .nil, .lit (.int .i64 0)], [], by kernel_rfl, by kernel_rfl⟩

set_option maxRecDepth 100000 in
theorem lifted (os : Os) (started : os.Started) (H : Type) (enc : TypeId × Value → H) (F : Stop.Interp) :
    ReturnsInHanded {} Tryd.checked os 12 .any ((OpenSpec.ofChange Rows.pathsLiteralSpec).preRow enc Tryd.prog Tryd.f12 Rows.pathsLiteralRow.domain false Rows.pathsLiteralRow.laid) (((OpenSpec.ofChange Rows.pathsLiteralSpec).at F).post enc Tryd.prog Tryd.f12 false true false false) := by
  obtain ⟨ds, places, hx, hsm⟩ := reads os enc
  refine returnsInHanded_of_row (C := Tryd.checked) (s := (OpenSpec.ofChange Rows.pathsLiteralSpec)) ownKnob_none started (by kernel_rfl) Tryd.func12
    (witness_row_at (enc := enc) (C := Tryd.checked) false (laidWorld os) #[.slice none 0 0, .slice none 0 0, .int .i64 0] rfl (by kernel_rfl) (by kernel_rfl) (by kernel_rfl)
      (OpenSpec.preRow_of_cond 8 hx (by kernel_rfl) (fun k hk => by cases hk) (by kernel_rfl) (laid_met os))) ?_
  intro W base args ds gs before hval hW _ _ _ hL _ _
  exact contract H enc W base args ds gs before hval hW (tab_of_laid hL)

theorem said : Rows.PathsLiteralSaid :=
  OpenClaim.holds_of_cond 12 Tryd.f12 rfl rfl rfl rfl rfl rfl rfl ⟨rfl, rfl, rfl, rfl, rfl⟩ rfl rfl rfl rfl rfl (by kernel_rfl) Tryd.func12 (by kernel_rfl)
    (of_decide_eq_true (by kernel_rfl)) (by unfold Func.isWrapper; first | (rw [if_pos (by decide +kernel)]; kernel_rfl) | (rw [if_neg (by decide +kernel)]; exact ⟨rfl, rfl⟩))
    (fun os started H enc _ F => by rw [OpenClaim.pre_eq_preRow]; exact lifted os started H enc F)

theorem plain (f : FuncId) (fn : Func) (hf : Tryd.pinned.checked.prog.funcNamed "mainline/mainlinelaw03.PathsLiteral" = some f) (hfn : Tryd.pinned.checked.prog.funcs[f]? = some fn) :
    false = Tryd.pinned.checked.prog.looks [] ∧ ∀ (j : Nat) t, fn.params[j]? = some t → Tryd.pinned.checked.prog.wantsStandIn t = false := by
  obtain rfl : f = 12 := Option.some.inj ((show Tryd.prog.funcNamed "mainline/mainlinelaw03.PathsLiteral" = some 12 by kernel_rfl).symm.trans hf) |>.symm
  obtain rfl : fn = Tryd.f12 := (Option.some.inj (Tryd.func12.symm.trans hfn)).symm
  refine ⟨by kernel_rfl, fun j t ht => ?_⟩
  rw [Tryd.params12] at ht
  have hm : t ∈ [22, 3] := by have := Array.mem_of_getElem? ht; simpa using this
  have hall : ([22, 3].all fun u => !Tryd.prog.wantsStandIn u) = true := by kernel_rfl
  exact (show Tryd.prog.wantsStandIn t = false by simpa using List.all_eq_true.1 hall t hm)

theorem card : Rows.PathsLiteralCardSaid :=
  Claim7.holds_tied_plain_at .later [] _ _ _ _ said (fun _ h => by cases h) (by kernel_rfl) (fun _ h => by cases h) pathsLiteral_row_tie rfl ⟨rfl, rfl⟩ (by kernel_rfl) rfl plain (by kernel_rfl)

end Go.Proofs.YtdbikaffmpkgpaaDoor.lliteral
