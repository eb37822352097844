/- HistoryGrows: a history that has grown answers the same about its old commits. For all arguments. -/
import Derived.Test.YtiikbekboapphaaGrowKit
import Derived.BigQuiet
namespace Go.Proofs.Ytiikbekboapphaa.lgro
open Go.ChangeShapes Go.WideShapes Go.ChangeAt Go.RowKit

set_option maxRecDepth 100000 in
set_option maxHeartbeats 8000000 in
theorem walk (A : Option Addr) (l : List (Int × Int)) (c : Nat) (A2 : Option Addr) (l2 : List (Int × Int)) (c2 : Nat) (a b : Int) (w : World) (hA : Prs w w.heap.size A c l) (hl : l.length ≤ maxLen) (hA2 : Prs w w.heap.size A2 c2 l2) (hl2 : l2.length ≤ maxLen) (ha : (Lit.int .i64 a).wf = true) (hb : (Lit.int .i64 b).wf = true) :
    Calls Try.prog 11 #[.slice A l.length c, .slice A2 l2.length c2, .agg #[.int .i64 a, .int .i64 b]] w (BoolB w true) := by
  have S := Lib.hid (fun W => sane_any W)
  have hlc : l.length ≤ c := hA.1.2.1
  have MD := Lib.hid (fun (W : World) (h : Below w.heap.size w W) (m : Nat) (hml : m ≤ l.length) => (show Calls Try.prog 15 #[.slice A m c] W (MadeOut W) from by
    have h1 : Prs W W.heap.size A c (l.take m) := Prs.take ⟨(Row.below hA.1 h (Nat.le_refl _)).more h.size, hA.2⟩ hml
    have h2 := made_any W A (l.take m) c h1 (by rw [List.length_take]; omega)
    rwa [show (l.take m).length = m by rw [List.length_take]; omega] at h2))
  have NA := Lib.hid (fun (W : World) (n : Nat) (hn : n ≤ 1000) => number_any W n hn a ha)
  have NB := Lib.hid (fun (W : World) (n : Nat) (hn : n ≤ 1000) => number_any W n hn b hb)
  have b0 : Below w.heap.size w (w.alloc (.cells #[.int .i64 a, .int .i64 b] 53)) := (Below.refl _ w).alloc (Nat.le_refl _) _
  have K0 := Lib.hid (Full.new w 53 [.int .i64 a, .int .i64 b])
  have HA2 := Lib.hid hA2
  unfold BoolB at S ⊢
  unfold MadeOut at MD
  obtain ⟨n, hn⟩ : ∃ n, l.length = n := ⟨_, rfl⟩
  obtain ⟨n2, hn2⟩ : ∃ n2, l2.length = n2 := ⟨_, rfl⟩
  have HN2 := Lib.hid hn2
  rw [hn2] at hl2
  rw [hn] at hlc MD
  rw [hn, hn2]
  unfold maxLen at hl2
  have n0 : (0 : Int) ≤ (n : Int) := Int.natCast_nonneg _
  have nc : (n : Int) ≤ (c : Int) := by omega
  clear hA hl hA2 ha hb hn2
  go_enter Try.func11, Try.ntmps11
  go_upto_region 2 with (first
    | (go_at_call 14; ((with_reducible refine (S.out _).mono ?_); rintro e w1 ⟨rfl, hb1⟩; (have hb1' := Below.then_ b0 hb1)))
    | (fail "arm"))
  go_cut [8, 9, 10] from 27 to 36 (fun v8 v9 v10 wx => ∃ p q cs, v8 = .pointer (some ⟨p, 0, none⟩) ∧ v9 = .pointer (some ⟨q, 0, none⟩) ∧ v10 = .bool true ∧ Hid (cs.length ≤ 61 ∧ Two w1 wx p q cs))
  case first =>
    go_wp2_with (first
        | (go_at_call 15; ((with_reducible refine (MD.out _ hb1' n (Nat.le_refl _)).mono ?_); rintro e w2 ⟨p, q, cs, rfl, hcs, hT⟩))
        | (go_at_call 15; ((with_reducible refine (MD.out _ hb1' 40 (by omega)).mono ?_); rintro e w2 ⟨p, q, cs, rfl, hcs, hT⟩))
        | (fail "arm"))
    all_goals go_meet
    all_goals
      case rel => exact ⟨p, q, cs, rfl, rfl, rfl, Lib.hid ⟨hcs, hT⟩⟩
  case rest =>
  obtain ⟨p, q, cs, rfl, rfl, rfl, hcut⟩ := hcut
  obtain ⟨hcs, hT⟩ := hcut.out
  have KF := (K0.out.on hb1).on hT.below
  obtain ⟨w2, rfl⟩ : ∃ w2, w2 = wc := ⟨_, rfl⟩
  have k0 : w2.cell? ⟨w.heap.size, 0, none⟩ = some (.int .i64 a) := KF.cell 0
  have k1 : w2.cell? ⟨w.heap.size, 1, none⟩ = some (.int .i64 b) := KF.cell 1
  clear MD
  go_upto_region 5 with fail
  have Q19 := Lib.hid (fun n : Nat => (show Calls Try.prog 19 #[.pointer (some ⟨q, 0, none⟩)] (w2.drewN n) fun e w' => e = .returned (.int .i64 (cs.length : Int)) ∧ w' = w2.drewN n from ((hT.on (Below.drewN_ (Below.refl _ w2) n)).rmany_).mono fun _ _ h => ⟨h.1, h.2.symm⟩))
  have QA := Lib.hid (fun n : Nat => (show Calls Try.prog 18 #[.int .i64 (cs.length : Int), .int .i64 a] (w2.drewN n) fun e w' => e = .returned (.int .i64 (numP cs.length a)) ∧ w' = w2.drewN n from (NA.out (w2.drewN n) cs.length (by omega)).mono fun _ _ h => ⟨h.1, h.2.symm⟩))
  have QB := Lib.hid (fun n : Nat => (show Calls Try.prog 18 #[.int .i64 (cs.length : Int), .int .i64 b] (w2.drewN n) fun e w' => e = .returned (.int .i64 (numP cs.length b)) ∧ w' = w2.drewN n from (NB.out (w2.drewN n) cs.length (by omega)).mono fun _ _ h => ⟨h.1, h.2.symm⟩))
  go_quiet (first | (go_at_call 19; with_reducible exact Calls.quiet_of_same (Q19.out _)) | (go_at_call 18; with_reducible exact Calls.quiet_of_same (QA.out _)) | (go_at_call 18; with_reducible exact Calls.quiet_of_same (QB.out _)) | (fail "arm"))
  obtain ⟨w3, hw3⟩ : ∃ w3, w2.drewN nq = w3 := ⟨_, rfl⟩
  have hb3 : Below w2.heap.size w2 w3 := by rw [← hw3]; exact Below.drewN_ (Below.refl _ _) _
  rw [hw3]
  have HK3 := Lib.hid (hT.on hb3)
  have hB1 := Below.then_ hb1' (Below.then_ hT.below hb3)
  have hgd := hT.good.1
  have hpos := hT.good.2
  have few := Lib.hid hT.few
  have HB1 := Lib.hid hB1
  have HB0 := Lib.hid hb1'
  obtain ⟨X, hX⟩ : ∃ X, numP cs.length a = X := ⟨_, rfl⟩
  obtain ⟨Y, hY⟩ : ∃ Y, numP cs.length b = Y := ⟨_, rfl⟩
  rw [hX, hY]
  have R19 := Lib.hid (hT.on hb3).rmany_
  clear hw3 hb3 hT Q19 QA QB hB1 hb1' KF k0 k1 hX hY
  go_upto_region 6 with fail
  by_cases hX : (cs.length : Int) < X
  · have hx : (1 : Int) ≤ (cs.length : Int) := by omega
    have hy : (1 : Int) ≤ (cs.length : Int) := by omega
    go_upto_region 8 with (first | (go_at_call 19; ((with_reducible refine R19.out.mono ?_); rintro e v1 ⟨rfl, rfl⟩)) | (fail "arm"))
    clear R19
    have HL := Lib.hid hcs
    have hL1000 : cs.length ≤ 1000 := by omega
    have hch : ∀ d ∈ cs, d.ch.length ≤ 1099511627776 := fun d hd => by have := few.out d hd; omega
    have C24 := Lib.hid (fun (W : World) (h : HK w1 w3 W p cs (fun _ => False)) => h.anc_ hL1000 1 1)
    have C26 := Lib.hid (fun (W : World) (h : HK w1 w3 W p cs (fun _ => False)) => h.base_ hL1000 1 1)
    have C31 := Lib.hid (fun (W : World) (h : HK w1 w3 W p cs (fun _ => False)) => h.log_ hL1000 1)
    have C28 := Lib.hid (fun (W : World) (h : HK w1 w3 W p cs (fun _ => False)) => h.line_ hL1000 1 1)
    have C20 := Lib.hid (fun (W : World) (h : HK w1 w3 W p cs (fun _ => False)) => h.get_ hL1000 hch 1)
    have hgl : (logP cs 1).length ≤ 1000 := by have := logP_len cs 1; omega
    have hll : (lineP cs 1 1).length ≤ 1000 := by have := lineP_len cs 1 1; omega
    have A24 := Lib.hid (fun (ds : List Cm) (h : Good (cs ++ ds)) => anc_app hgd h hpos hx hy)
    have A26 := Lib.hid (fun (ds : List Cm) (h : Good (cs ++ ds)) => base_app hgd h hpos hx hy)
    have A31 := Lib.hid (fun (ds : List Cm) (h : Good (cs ++ ds)) => logP_app hgd h hpos hy)
    have A28 := Lib.hid (fun (ds : List Cm) (h : Good (cs ++ ds)) => And.intro (lineOk_app hgd h hpos hx hy) (lineP_app hgd h hpos hx hy))
    have A20 := Lib.hid (fun (ds : List Cm) => And.intro (getC_app (cs := cs) (ds := ds) hx) (inR_app (cs := cs) (ds := ds) hx))
    obtain ⟨V24, e24⟩ : ∃ V, anc cs 1 1 = V := ⟨_, rfl⟩
    obtain ⟨V26, e26⟩ : ∃ V, baseP cs 1 1 = V := ⟨_, rfl⟩
    obtain ⟨V31, e31⟩ : ∃ V, logP cs 1 = V := ⟨_, rfl⟩
    obtain ⟨V28, e28⟩ : ∃ V, lineP cs 1 1 = V := ⟨_, rfl⟩
    obtain ⟨V29, e29⟩ : ∃ V, lineOk cs 1 1 = V := ⟨_, rfl⟩
    obtain ⟨V20, e20⟩ : ∃ V, getC cs 1 = V := ⟨_, rfl⟩
    obtain ⟨V21, e21⟩ : ∃ V, inR cs.length 1 = V := ⟨_, rfl⟩
    have hps : V20.ps.length ≤ 1099511627776 ∧ V20.ch.length ≤ 1099511627776 := by
      rw [← e20]
      unfold getC
      split
      · next hin =>
        rw [inR_iff] at hin
        rw [List.getD_eq_getElem?_getD, List.getElem?_eq_getElem (by omega)]
        exact ⟨Nat.le_trans (good_ps hgd _ (List.getElem_mem _)) (by omega), hch _ (List.getElem_mem _)⟩
      · exact ⟨by simp [zeroCm], by simp [zeroCm]⟩
    rw [e24] at C24 A24
    rw [e26] at C26 A26
    rw [e31] at C31 A31 hgl
    rw [e28] at hll
    rw [e28, e29] at C28 A28
    rw [e20, e21] at C20 A20
    unfold BoolB at C24
    unfold IntsOut at C31
    unfold LineOut at C28
    unfold GetOut at C20
    obtain ⟨ps, tr, au, ch, em⟩ := V20
    dsimp only at C20 hps
    obtain ⟨n31, g31⟩ : ∃ n, V31.length = n := ⟨_, rfl⟩
    obtain ⟨n28, g28⟩ : ∃ n, V28.length = n := ⟨_, rfl⟩
    obtain ⟨n5, g5⟩ : ∃ n, ps.length = n := ⟨_, rfl⟩
    obtain ⟨n6, g6⟩ : ∃ n, ch.length = n := ⟨_, rfl⟩
    rw [g31] at C31 hgl
    rw [g28] at C28 hll
    rw [g5, g6] at C20 hps
    have hk0 := Lib.hid (HK3.out.hk)
    clear hch hx hy hgd e24 e26 e31 e28 e29 e20 e21
    go_upto_region 10 with (first
      | (go_at_call 24; ((with_reducible refine (C24.out _ hk0.out).mono ?_); rintro e u1 ⟨rfl, hbu1⟩; (have hk1 := hk0.out.on hbu1)))
      | (go_at_call 26; ((with_reducible refine (C26.out _ hk1).mono ?_); rintro e u2 ⟨rfl, hbu2⟩; (have hk2 := hk1.on hbu2)))
      | (go_at_call 31; ((with_reducible refine (C31.out _ hk2).mono ?_); rintro e u3 ⟨A31', c31, rfl, o31, hbu3⟩; (have hk3 := hk2.on hbu3)))
      | (go_at_call 28; ((with_reducible refine (C28.out _ hk3).mono ?_); rintro e u4 ⟨A28', c28, rfl, o28, hbu4⟩; (have hk4 := hk3.on hbu4)))
      | (fail "arm"))
    go_upto_region 12 with (first
      | (go_at_call 20; ((with_reducible refine (C20.out _ hk4).mono ?_); rintro e u5 ⟨A5, c5, A6, c6, rfl, o5, o6, _, hbu5⟩; (have hk5 := hk4.on hbu5)))
      | (fail "arm"))
    obtain ⟨w6, hw6⟩ : ∃ w6, u5.alloc (.cells #[.slice A5 n5 c5, .int .i64 tr, .string au, .slice A6 n6 c6, .bool em] 25) = w6 := ⟨_, rfl⟩
    have b6 : Below u5.heap.size u5 w6 := by rw [← hw6]; exact (Below.refl _ u5).alloc (Nat.le_refl _) _
    have F6 : Full w6 u5.heap.size 25 [.slice A5 n5 c5, .int .i64 tr, .string au, .slice A6 n6 c6, .bool em] := by rw [← hw6]; exact Full.new u5 25 _
    rw [hw6]
    have b56 := Below.then_ hbu5 b6
    have b46 := Below.then_ hbu4 b56
    have b36 := Below.then_ hbu3 b46
    have b26 := Below.then_ hbu2 b36
    have b16 := Below.then_ hbu1 b26
    obtain ⟨K, hK⟩ : ∃ K : Nat → Prop, (fun g => w3.heap.size ≤ g ∧ g < w6.heap.size) = K := ⟨_, rfl⟩
    have z1 := hbu1.size
    have z2 := hbu2.size
    have z3 := hbu3.size
    have z4 := hbu4.size
    have RO := Lib.hid (show RowF w6 K 1 A31' n31 c31 (natC V31) ∧ RowF w6 K 1 A28' n28 c28 (natC V28) ∧ RowF w6 K 1 A5 n5 c5 (intC ps) ∧ RowF w6 K 1 A6 n6 c6 (intC ch) from by
      rw [← hK]
      exact ⟨owns_row (own_keep o31 b46) (fun g e => ⟨by have := row_ge o31 g e; omega, owns_lt (own_keep o31 b46) g e⟩), owns_row (own_keep o28 b56) (fun g e => ⟨by have := row_ge o28 g e; omega, owns_lt (own_keep o28 b56) g e⟩), owns_row (own_keep o5 b6) (fun g e => ⟨by have := row_ge o5 g e; omega, owns_lt (own_keep o5 b6) g e⟩), owns_row (own_keep o6 b6) (fun g e => ⟨by have := row_ge o6 g e; omega, owns_lt (own_keep o6 b6) g e⟩)⟩)
    have ko6 : K u5.heap.size := by rw [← hK]; exact ⟨by have := hbu5.size; omega, F6.lt⟩
    have G0 := Lib.hid (show Grown w1 w6 w6 p cs K 0 [] from ⟨by rw [List.append_nil, ← hK]; exact hk0.out.mark b16, rfl, by rw [List.append_nil]; exact few.out⟩)
    obtain ⟨gk6, eg6⟩ : ∃ g, u5.heap.size = g := ⟨_, rfl⟩
    rw [eg6] at F6 ko6 ⊢
    have FO := Lib.hid F6
    clear hw6 b6 F6 b56 b46 b36 b26 b16 hK z1 z2 z3 z4 o31 o28 o5 o6 hbu1 hbu2 hbu3 hbu4 hbu5 hk1 hk2 hk3 hk4 hk5 eg6 hk0 C24 C26 C31 C28 C20
    go_loopw [20] (fun v20 wr => ∃ (k : Nat) (ds : List Cm), v20 = .int .i64 (k : Int) ∧ k ≤ n2 ∧ k ≤ 20 ∧ Hid (Grown w1 w6 wr p cs K k ds)) (fun v20 _ => n2 - (intOf v20).toNat)
    case atStart => exact ⟨0, _, rfl, by omega, by omega, G0⟩
    case round =>
      obtain ⟨k, ds, rfl, hk, hk20, H⟩ := hrel
      have kz : (0 : Int) ≤ (k : Int) := Int.natCast_nonneg _
      by_cases hlt : k < n2 ∧ k < 20
      · obtain ⟨hkn, hk6⟩ := hlt
        have kn1 : (k : Int) < (n2 : Int) := by omega
        have k6 : (k : Int) < 20 := by omega
        go_upto_region 14 with fail
        have hbw := Below.then_ HB0.out H.out.hk.below
        obtain ⟨ad, x, y, rfl, hadl, a0, a1, wfx, wfy⟩ := HA2.out.at_ (k := k) (by have := HN2.out; omega)
        obtain ⟨mm, hmm⟩ : ∃ mm, cs.length + k = mm := ⟨_, rfl⟩
        have SX := Lib.hid (fun (W : World) (hb : Below w.heap.size w W) => (show W.cell? (ad.add (k * 2)) = some (.int .i64 x) ∧ W.cell? ⟨(ad.add (k * 2)).block, (ad.add (k * 2)).off + 1, none⟩ = some (.int .i64 y) from ⟨(hb.cell (by rw [add_block]; exact hadl)).trans a0, (hb.cell (by show (ad.add (k * 2)).block < _; rw [add_block]; exact hadl)).trans a1⟩))
        have bD : Below wr.heap.size wr wr.drew := (Below.refl _ wr).drew
        have HD := Lib.hid (H.out.on bD)
        have SW : wr.cell? (ad.add (k * 2)) = some (.int .i64 x) ∧ wr.cell? ⟨(ad.add (k * 2)).block, (ad.add (k * 2)).off + 1, none⟩ = some (.int .i64 y) := SX.out _ hbw
        have SD : wr.drew.cell? (ad.add (k * 2)) = some (.int .i64 x) ∧ wr.drew.cell? ⟨(ad.add (k * 2)).block, (ad.add (k * 2)).off + 1, none⟩ = some (.int .i64 y) := SX.out _ (Below.then_ hbw bD)
        have M2 := Lib.hid (HD.out.many_ hmm)
        have CM := Lib.hid (fun (W : World) => commit_any W mm (by omega) (by omega) x y wfx wfy k (by omega))
        have AD := Lib.hid (fun (W : World) (h : Grown w1 w6 W p cs K k ds) (cm : Cm) (A7 A8 : Option Addr) (c7 c8 : Nat) (hc : canBe mm cm.ps = true) (hf : cm.ch.length ≤ 1) (r1 : Row W W.heap.size 1 A7 cm.ps.length c7 (intC cm.ps)) (r2 : Row W W.heap.size 1 A8 cm.ch.length c8 (intC cm.ch)) => h.add (by omega) (by rw [hmm]; exact hc) hf r1 r2)
        unfold CommitOut at CM
        clear a0 a1 hadl hbw
        go_region_held3 (fun w' => w'.cell? (ad.add (k * 2)) = some (.int .i64 x) ∧ w'.cell? ⟨(ad.add (k * 2)).block, (ad.add (k * 2)).off + 1, none⟩ = some (.int .i64 y))
          (first | (with_reducible exact SD) | (with_reducible exact SW) | (with_reducible exact SXX) | (with_reducible exact SXY) | (fail "keep"))
          (first
            | (go_at_call 23; ((with_reducible refine M2.out.mono ?_); rintro e v1 ⟨rfl, rfl⟩))
            | (go_at_call 33; ((with_reducible refine (CM.out wr.drew).mono ?_); rintro e wx ⟨cm, A7, c7, A8, c8, rfl, hcan, hfew, hr5, hr6, hbx⟩; (have GX := HD.out.on hbx); (have SXX := SX.out _ (Below.then_ HB0.out GX.hk.below)); (have rx5 := hr5.row fun x hx => hx.2); (have rx6 := hr6.row fun x hx => hx.2)))
            | (go_at_call 16; ((with_reducible refine (AD.out _ GX cm A7 A8 c7 c8 hcan hfew rx5 rx6).mono ?_); rintro e wy ⟨rfl, hG⟩; (have SXY := SX.out _ (Below.then_ HB0.out hG.hk.below))))
            | (fail "arm"))
        all_goals go_wp2_with fail
        all_goals go_roundw
        all_goals first
          | (case rel => exact ⟨k + 1, ds ++ [cm], by go_num, by omega, by omega, Lib.hid hG⟩)
          | (case measure => first | (simp [intOf]; done) | (simp [intOf]; omega))
      · by_cases hkn : k < n2
        · obtain rfl : k = 20 := by omega
          have kn1 : ((20 : Nat) : Int) < (n2 : Int) := by omega
          have hgA := H.out.hk.good
          have hlA : (cs ++ ds).length ≤ 1000 := by rw [List.length_append, H.out.len]; omega
          have hchA : ∀ d ∈ cs ++ ds, d.ch.length ≤ 1099511627776 := fun d hd => by have := H.out.few d hd; omega
          have D24 := Lib.hid (fun (W : World) (h : HK w1 w6 W p (cs ++ ds) K) => h.anc_ hlA 1 1)
          have D26 := Lib.hid (fun (W : World) (h : HK w1 w6 W p (cs ++ ds) K) => h.base_ hlA 1 1)
          have D31 := Lib.hid (fun (W : World) (h : HK w1 w6 W p (cs ++ ds) K) => h.log_ hlA 1)
          have D28 := Lib.hid (fun (W : World) (h : HK w1 w6 W p (cs ++ ds) K) => h.line_ hlA 1 1)
          have D20 := Lib.hid (fun (W : World) (h : HK w1 w6 W p (cs ++ ds) K) => h.get_ hlA hchA 1)
          rw [A24.out ds hgA] at D24
          rw [A26.out ds hgA] at D26
          rw [A31.out ds hgA] at D31
          rw [(A28.out ds hgA).1, (A28.out ds hgA).2] at D28
          rw [(A20.out ds).1, (A20.out ds).2] at D20
          unfold BoolB at D24
          unfold IntsOut at D31
          unfold LineOut at D28
          unfold GetOut at D20
          dsimp only at D20
          rw [g31] at D31
          rw [g28] at D28
          rw [g5, g6] at D20
          have h0 := H.out.hk
          clear hgA hlA hchA
          go_upto_region 16 with (first
            | (go_at_call 28; ((with_reducible refine (D28.out _ h0).mono ?_); rintro e y1 ⟨B28, d28, rfl, p28, q1⟩; (have h1 := h0.on q1)))
            | (fail "arm"))
          go_upto_region 17 with (first
            | (go_at_call 20; ((with_reducible refine (D20.out _ h1).mono ?_); rintro e y2 ⟨B5, d5, B6, d6, rfl, p5, p6, _, q2⟩; (have h2 := h1.on q2)))
            | (fail "arm"))
          obtain ⟨y3, hy3⟩ : ∃ y3, y2.alloc (.cells #[.slice B5 n5 d5, .int .i64 tr, .string au, .slice B6 n6 d6, .bool em] 25) = y3 := ⟨_, rfl⟩
          have b3 : Below y2.heap.size y2 y3 := by rw [← hy3]; exact (Below.refl _ y2).alloc (Nat.le_refl _) _
          have F3 : Full y3 y2.heap.size 25 [.slice B5 n5 d5, .int .i64 tr, .string au, .slice B6 n6 d6, .bool em] := by rw [← hy3]; exact Full.new y2 25 _
          rw [hy3]
          obtain ⟨g3, eg3⟩ : ∃ g, y2.heap.size = g := ⟨_, rfl⟩
          rw [eg3] at F3 ⊢
          have h3 := h2.on b3
          have r28 := ((Row.own p28).on q2).on b3
          have r5 := (Row.own p5).on b3
          have r6 := (Row.own p6).on b3
          have HS := Lib.hid (fun (W : World) (h : HK w1 w6 W p (cs ++ ds) K) (hb : Below y3.heap.size y3 W) => same_any (t := tr) (au := au) (em := em) (h.row RO.out.2.2.1) (h.row RO.out.2.2.2) (r5.on hb) (r6.on hb) (Nat.le_refl _) hps.1 hps.2)
          have HF3 := Lib.hid F3
          unfold BoolB at HS
          clear hy3 F3 eg3 r5 r6 p5 p6 p28
          go_wp2_with (first
            | (go_at_call 24; ((with_reducible refine (D24.out _ h3).mono ?_); rintro e y4 ⟨rfl, q4⟩; (have h4 := h3.on q4)))
            | (go_at_call 26; ((with_reducible refine (D26.out _ h4).mono ?_); rintro e y5 ⟨rfl, q5⟩; (have h5 := h4.on q5)))
            | (go_at_call 31; ((with_reducible refine (D31.out _ h5).mono ?_); rintro e y6 ⟨B31, d31, rfl, p31, q6⟩; (have h6 := h5.on q6); (have r31 := Row.own p31); (have s31 := h6.row RO.out.1)))
            | (go_at_call 30; ((with_reducible refine (ints_two r31 s31 hgl).mono ?_); rintro e y7 ⟨rfl, q7, hq7⟩; (have b7 : Below y6.heap.size y6 y7 := below_of_draw (Below.refl _ _) hq7); (have h7 := h6.on b7); (have b37 := Below.then_ q4 (Below.then_ q5 (Below.then_ q6 b7))); (have s28 := h7.row RO.out.2.1); (have r28' := r28.on b37); clear hq7))
            | (go_at_call 30; ((with_reducible refine (ints_two s28 r28' hll).mono ?_); rintro e y8 ⟨rfl, q8, hq8⟩; (have b8 : Below y7.heap.size y7 y8 := below_of_draw (Below.refl _ _) hq8); (have h8 := h7.on b8); (have b38 := Below.then_ b37 b8); (have f8 := h8.full FO.out ko6); (have f9 := HF3.out.on b38); (have m0 : y8.cell? ⟨gk6, 0, none⟩ = some (.slice A5 n5 c5) := f8.cell 0); (have m1 : y8.cell? ⟨gk6, 1, none⟩ = some (.int .i64 tr) := f8.cell 1); (have m2 : y8.cell? ⟨gk6, 2, none⟩ = some (.string au) := f8.cell 2); (have m3 : y8.cell? ⟨gk6, 3, none⟩ = some (.slice A6 n6 c6) := f8.cell 3); (have m4 : y8.cell? ⟨gk6, 4, none⟩ = some (.bool em) := f8.cell 4); (have z0 : y8.cell? ⟨g3, 0, none⟩ = some (.slice B5 n5 d5) := f9.cell 0); (have z1 : y8.cell? ⟨g3, 1, none⟩ = some (.int .i64 tr) := f9.cell 1); (have z2 : y8.cell? ⟨g3, 2, none⟩ = some (.string au) := f9.cell 2); (have z3 : y8.cell? ⟨g3, 3, none⟩ = some (.slice B6 n6 d6) := f9.cell 3); (have z4 : y8.cell? ⟨g3, 4, none⟩ = some (.bool em) := f9.cell 4); clear hq8))
            | (go_at_call 22; ((with_reducible refine (HS.out _ h8 b38).mono ?_); rintro e y9 ⟨rfl, q9⟩; (have h9 := h8.on q9)))
            | (fail "arm"))
          go_ret
          exact ⟨rfl, Below.then_ HB0.out h9.below⟩
        · obtain rfl : k = n2 := by omega
          have hgA := H.out.hk.good
          have hlA : (cs ++ ds).length ≤ 1000 := by rw [List.length_append, H.out.len]; omega
          have hchA : ∀ d ∈ cs ++ ds, d.ch.length ≤ 1099511627776 := fun d hd => by have := H.out.few d hd; omega
          have D24 := Lib.hid (fun (W : World) (h : HK w1 w6 W p (cs ++ ds) K) => h.anc_ hlA 1 1)
          have D26 := Lib.hid (fun (W : World) (h : HK w1 w6 W p (cs ++ ds) K) => h.base_ hlA 1 1)
          have D31 := Lib.hid (fun (W : World) (h : HK w1 w6 W p (cs ++ ds) K) => h.log_ hlA 1)
          have D28 := Lib.hid (fun (W : World) (h : HK w1 w6 W p (cs ++ ds) K) => h.line_ hlA 1 1)
          have D20 := Lib.hid (fun (W : World) (h : HK w1 w6 W p (cs ++ ds) K) => h.get_ hlA hchA 1)
          rw [A24.out ds hgA] at D24
          rw [A26.out ds hgA] at D26
          rw [A31.out ds hgA] at D31
          rw [(A28.out ds hgA).1, (A28.out ds hgA).2] at D28
          rw [(A20.out ds).1, (A20.out ds).2] at D20
          unfold BoolB at D24
          unfold IntsOut at D31
          unfold LineOut at D28
          unfold GetOut at D20
          dsimp only at D20
          rw [g31] at D31
          rw [g28] at D28
          rw [g5, g6] at D20
          have h0 := H.out.hk
          clear hgA hlA hchA
          go_upto_region 16 with (first
            | (go_at_call 28; ((with_reducible refine (D28.out _ h0).mono ?_); rintro e y1 ⟨B28, d28, rfl, p28, q1⟩; (have h1 := h0.on q1)))
            | (fail "arm"))
          go_upto_region 17 with (first
            | (go_at_call 20; ((with_reducible refine (D20.out _ h1).mono ?_); rintro e y2 ⟨B5, d5, B6, d6, rfl, p5, p6, _, q2⟩; (have h2 := h1.on q2)))
            | (fail "arm"))
          obtain ⟨y3, hy3⟩ : ∃ y3, y2.alloc (.cells #[.slice B5 n5 d5, .int .i64 tr, .string au, .slice B6 n6 d6, .bool em] 25) = y3 := ⟨_, rfl⟩
          have b3 : Below y2.heap.size y2 y3 := by rw [← hy3]; exact (Below.refl _ y2).alloc (Nat.le_refl _) _
          have F3 : Full y3 y2.heap.size 25 [.slice B5 n5 d5, .int .i64 tr, .string au, .slice B6 n6 d6, .bool em] := by rw [← hy3]; exact Full.new y2 25 _
          rw [hy3]
          obtain ⟨g3, eg3⟩ : ∃ g, y2.heap.size = g := ⟨_, rfl⟩
          rw [eg3] at F3 ⊢
          have h3 := h2.on b3
          have r28 := ((Row.own p28).on q2).on b3
          have r5 := (Row.own p5).on b3
          have r6 := (Row.own p6).on b3
          have HS := Lib.hid (fun (W : World) (h : HK w1 w6 W p (cs ++ ds) K) (hb : Below y3.heap.size y3 W) => same_any (t := tr) (au := au) (em := em) (h.row RO.out.2.2.1) (h.row RO.out.2.2.2) (r5.on hb) (r6.on hb) (Nat.le_refl _) hps.1 hps.2)
          have HF3 := Lib.hid F3
          unfold BoolB at HS
          clear hy3 F3 eg3 r5 r6 p5 p6 p28
          go_wp2_with (first
            | (go_at_call 24; ((with_reducible refine (D24.out _ h3).mono ?_); rintro e y4 ⟨rfl, q4⟩; (have h4 := h3.on q4)))
            | (go_at_call 26; ((with_reducible refine (D26.out _ h4).mono ?_); rintro e y5 ⟨rfl, q5⟩; (have h5 := h4.on q5)))
            | (go_at_call 31; ((with_reducible refine (D31.out _ h5).mono ?_); rintro e y6 ⟨B31, d31, rfl, p31, q6⟩; (have h6 := h5.on q6); (have r31 := Row.own p31); (have s31 := h6.row RO.out.1)))
            | (go_at_call 30; ((with_reducible refine (ints_two r31 s31 hgl).mono ?_); rintro e y7 ⟨rfl, q7, hq7⟩; (have b7 : Below y6.heap.size y6 y7 := below_of_draw (Below.refl _ _) hq7); (have h7 := h6.on b7); (have b37 := Below.then_ q4 (Below.then_ q5 (Below.then_ q6 b7))); (have s28 := h7.row RO.out.2.1); (have r28' := r28.on b37); clear hq7))
            | (go_at_call 30; ((with_reducible refine (ints_two s28 r28' hll).mono ?_); rintro e y8 ⟨rfl, q8, hq8⟩; (have b8 : Below y7.heap.size y7 y8 := below_of_draw (Below.refl _ _) hq8); (have h8 := h7.on b8); (have b38 := Below.then_ b37 b8); (have f8 := h8.full FO.out ko6); (have f9 := HF3.out.on b38); (have m0 : y8.cell? ⟨gk6, 0, none⟩ = some (.slice A5 n5 c5) := f8.cell 0); (have m1 : y8.cell? ⟨gk6, 1, none⟩ = some (.int .i64 tr) := f8.cell 1); (have m2 : y8.cell? ⟨gk6, 2, none⟩ = some (.string au) := f8.cell 2); (have m3 : y8.cell? ⟨gk6, 3, none⟩ = some (.slice A6 n6 c6) := f8.cell 3); (have m4 : y8.cell? ⟨gk6, 4, none⟩ = some (.bool em) := f8.cell 4); (have z0 : y8.cell? ⟨g3, 0, none⟩ = some (.slice B5 n5 d5) := f9.cell 0); (have z1 : y8.cell? ⟨g3, 1, none⟩ = some (.int .i64 tr) := f9.cell 1); (have z2 : y8.cell? ⟨g3, 2, none⟩ = some (.string au) := f9.cell 2); (have z3 : y8.cell? ⟨g3, 3, none⟩ = some (.slice B6 n6 d6) := f9.cell 3); (have z4 : y8.cell? ⟨g3, 4, none⟩ = some (.bool em) := f9.cell 4); clear hq8))
            | (go_at_call 22; ((with_reducible refine (HS.out _ h8 b38).mono ?_); rintro e y9 ⟨rfl, q9⟩; (have h9 := h8.on q9)))
            | (fail "arm"))
          go_ret
          exact ⟨rfl, Below.then_ HB0.out h9.below⟩

  · by_cases hY : (cs.length : Int) < Y
    · have hx : (1 : Int) ≤ (cs.length : Int) := by omega
      have hy : (1 : Int) ≤ (cs.length : Int) := by omega
      go_upto_region 8 with (first | (go_at_call 19; ((with_reducible refine R19.out.mono ?_); rintro e v1 ⟨rfl, rfl⟩)) | (fail "arm"))
      clear R19
      have HL := Lib.hid hcs
      have hL1000 : cs.length ≤ 1000 := by omega
      have hch : ∀ d ∈ cs, d.ch.length ≤ 1099511627776 := fun d hd => by have := few.out d hd; omega
      have C24 := Lib.hid (fun (W : World) (h : HK w1 w3 W p cs (fun _ => False)) => h.anc_ hL1000 1 1)
      have C26 := Lib.hid (fun (W : World) (h : HK w1 w3 W p cs (fun _ => False)) => h.base_ hL1000 1 1)
      have C31 := Lib.hid (fun (W : World) (h : HK w1 w3 W p cs (fun _ => False)) => h.log_ hL1000 1)
      have C28 := Lib.hid (fun (W : World) (h : HK w1 w3 W p cs (fun _ => False)) => h.line_ hL1000 1 1)
      have C20 := Lib.hid (fun (W : World) (h : HK w1 w3 W p cs (fun _ => False)) => h.get_ hL1000 hch 1)
      have hgl : (logP cs 1).length ≤ 1000 := by have := logP_len cs 1; omega
      have hll : (lineP cs 1 1).length ≤ 1000 := by have := lineP_len cs 1 1; omega
      have A24 := Lib.hid (fun (ds : List Cm) (h : Good (cs ++ ds)) => anc_app hgd h hpos hx hy)
      have A26 := Lib.hid (fun (ds : List Cm) (h : Good (cs ++ ds)) => base_app hgd h hpos hx hy)
      have A31 := Lib.hid (fun (ds : List Cm) (h : Good (cs ++ ds)) => logP_app hgd h hpos hy)
      have A28 := Lib.hid (fun (ds : List Cm) (h : Good (cs ++ ds)) => And.intro (lineOk_app hgd h hpos hx hy) (lineP_app hgd h hpos hx hy))
      have A20 := Lib.hid (fun (ds : List Cm) => And.intro (getC_app (cs := cs) (ds := ds) hx) (inR_app (cs := cs) (ds := ds) hx))
      obtain ⟨V24, e24⟩ : ∃ V, anc cs 1 1 = V := ⟨_, rfl⟩
      obtain ⟨V26, e26⟩ : ∃ V, baseP cs 1 1 = V := ⟨_, rfl⟩
      obtain ⟨V31, e31⟩ : ∃ V, logP cs 1 = V := ⟨_, rfl⟩
      obtain ⟨V28, e28⟩ : ∃ V, lineP cs 1 1 = V := ⟨_, rfl⟩
      obtain ⟨V29, e29⟩ : ∃ V, lineOk cs 1 1 = V := ⟨_, rfl⟩
      obtain ⟨V20, e20⟩ : ∃ V, getC cs 1 = V := ⟨_, rfl⟩
      obtain ⟨V21, e21⟩ : ∃ V, inR cs.length 1 = V := ⟨_, rfl⟩
      have hps : V20.ps.length ≤ 1099511627776 ∧ V20.ch.length ≤ 1099511627776 := by
        rw [← e20]
        unfold getC
        split
        · next hin =>
          rw [inR_iff] at hin
          rw [List.getD_eq_getElem?_getD, List.getElem?_eq_getElem (by omega)]
          exact ⟨Nat.le_trans (good_ps hgd _ (List.getElem_mem _)) (by omega), hch _ (List.getElem_mem _)⟩
        · exact ⟨by simp [zeroCm], by simp [zeroCm]⟩
      rw [e24] at C24 A24
      rw [e26] at C26 A26
      rw [e31] at C31 A31 hgl
      rw [e28] at hll
      rw [e28, e29] at C28 A28
      rw [e20, e21] at C20 A20
      unfold BoolB at C24
      unfold IntsOut at C31
      unfold LineOut at C28
      unfold GetOut at C20
      obtain ⟨ps, tr, au, ch, em⟩ := V20
      dsimp only at C20 hps
      obtain ⟨n31, g31⟩ : ∃ n, V31.length = n := ⟨_, rfl⟩
      obtain ⟨n28, g28⟩ : ∃ n, V28.length = n := ⟨_, rfl⟩
      obtain ⟨n5, g5⟩ : ∃ n, ps.length = n := ⟨_, rfl⟩
      obtain ⟨n6, g6⟩ : ∃ n, ch.length = n := ⟨_, rfl⟩
      rw [g31] at C31 hgl
      rw [g28] at C28 hll
      rw [g5, g6] at C20 hps
      have hk0 := Lib.hid (HK3.out.hk)
      clear hch hx hy hgd e24 e26 e31 e28 e29 e20 e21
      go_upto_region 10 with (first
        | (go_at_call 24; ((with_reducible refine (C24.out _ hk0.out).mono ?_); rintro e u1 ⟨rfl, hbu1⟩; (have hk1 := hk0.out.on hbu1)))
        | (go_at_call 26; ((with_reducible refine (C26.out _ hk1).mono ?_); rintro e u2 ⟨rfl, hbu2⟩; (have hk2 := hk1.on hbu2)))
        | (go_at_call 31; ((with_reducible refine (C31.out _ hk2).mono ?_); rintro e u3 ⟨A31', c31, rfl, o31, hbu3⟩; (have hk3 := hk2.on hbu3)))
        | (go_at_call 28; ((with_reducible refine (C28.out _ hk3).mono ?_); rintro e u4 ⟨A28', c28, rfl, o28, hbu4⟩; (have hk4 := hk3.on hbu4)))
        | (fail "arm"))
      go_upto_region 12 with (first
        | (go_at_call 20; ((with_reducible refine (C20.out _ hk4).mono ?_); rintro e u5 ⟨A5, c5, A6, c6, rfl, o5, o6, _, hbu5⟩; (have hk5 := hk4.on hbu5)))
        | (fail "arm"))
      obtain ⟨w6, hw6⟩ : ∃ w6, u5.alloc (.cells #[.slice A5 n5 c5, .int .i64 tr, .string au, .slice A6 n6 c6, .bool em] 25) = w6 := ⟨_, rfl⟩
      have b6 : Below u5.heap.size u5 w6 := by rw [← hw6]; exact (Below.refl _ u5).alloc (Nat.le_refl _) _
      have F6 : Full w6 u5.heap.size 25 [.slice A5 n5 c5, .int .i64 tr, .string au, .slice A6 n6 c6, .bool em] := by rw [← hw6]; exact Full.new u5 25 _
      rw [hw6]
      have b56 := Below.then_ hbu5 b6
      have b46 := Below.then_ hbu4 b56
      have b36 := Below.then_ hbu3 b46
      have b26 := Below.then_ hbu2 b36
      have b16 := Below.then_ hbu1 b26
      obtain ⟨K, hK⟩ : ∃ K : Nat → Prop, (fun g => w3.heap.size ≤ g ∧ g < w6.heap.size) = K := ⟨_, rfl⟩
      have z1 := hbu1.size
      have z2 := hbu2.size
      have z3 := hbu3.size
      have z4 := hbu4.size
      have RO := Lib.hid (show RowF w6 K 1 A31' n31 c31 (natC V31) ∧ RowF w6 K 1 A28' n28 c28 (natC V28) ∧ RowF w6 K 1 A5 n5 c5 (intC ps) ∧ RowF w6 K 1 A6 n6 c6 (intC ch) from by
        rw [← hK]
        exact ⟨owns_row (own_keep o31 b46) (fun g e => ⟨by have := row_ge o31 g e; omega, owns_lt (own_keep o31 b46) g e⟩), owns_row (own_keep o28 b56) (fun g e => ⟨by have := row_ge o28 g e; omega, owns_lt (own_keep o28 b56) g e⟩), owns_row (own_keep o5 b6) (fun g e => ⟨by have := row_ge o5 g e; omega, owns_lt (own_keep o5 b6) g e⟩), owns_row (own_keep o6 b6) (fun g e => ⟨by have := row_ge o6 g e; omega, owns_lt (own_keep o6 b6) g e⟩)⟩)
      have ko6 : K u5.heap.size := by rw [← hK]; exact ⟨by have := hbu5.size; omega, F6.lt⟩
      have G0 := Lib.hid (show Grown w1 w6 w6 p cs K 0 [] from ⟨by rw [List.append_nil, ← hK]; exact hk0.out.mark b16, rfl, by rw [List.append_nil]; exact few.out⟩)
      obtain ⟨gk6, eg6⟩ : ∃ g, u5.heap.size = g := ⟨_, rfl⟩
      rw [eg6] at F6 ko6 ⊢
      have FO := Lib.hid F6
      clear hw6 b6 F6 b56 b46 b36 b26 b16 hK z1 z2 z3 z4 o31 o28 o5 o6 hbu1 hbu2 hbu3 hbu4 hbu5 hk1 hk2 hk3 hk4 hk5 eg6 hk0 C24 C26 C31 C28 C20
      go_loopw [20] (fun v20 wr => ∃ (k : Nat) (ds : List Cm), v20 = .int .i64 (k : Int) ∧ k ≤ n2 ∧ k ≤ 20 ∧ Hid (Grown w1 w6 wr p cs K k ds)) (fun v20 _ => n2 - (intOf v20).toNat)
      case atStart => exact ⟨0, _, rfl, by omega, by omega, G0⟩
      case round =>
        obtain ⟨k, ds, rfl, hk, hk20, H⟩ := hrel
        have kz : (0 : Int) ≤ (k : Int) := Int.natCast_nonneg _
        by_cases hlt : k < n2 ∧ k < 20
        · obtain ⟨hkn, hk6⟩ := hlt
          have kn1 : (k : Int) < (n2 : Int) := by omega
          have k6 : (k : Int) < 20 := by omega
          go_upto_region 14 with fail
          have hbw := Below.then_ HB0.out H.out.hk.below
          obtain ⟨ad, x, y, rfl, hadl, a0, a1, wfx, wfy⟩ := HA2.out.at_ (k := k) (by have := HN2.out; omega)
          obtain ⟨mm, hmm⟩ : ∃ mm, cs.length + k = mm := ⟨_, rfl⟩
          have SX := Lib.hid (fun (W : World) (hb : Below w.heap.size w W) => (show W.cell? (ad.add (k * 2)) = some (.int .i64 x) ∧ W.cell? ⟨(ad.add (k * 2)).block, (ad.add (k * 2)).off + 1, none⟩ = some (.int .i64 y) from ⟨(hb.cell (by rw [add_block]; exact hadl)).trans a0, (hb.cell (by show (ad.add (k * 2)).block < _; rw [add_block]; exact hadl)).trans a1⟩))
          have bD : Below wr.heap.size wr wr.drew := (Below.refl _ wr).drew
          have HD := Lib.hid (H.out.on bD)
          have SW : wr.cell? (ad.add (k * 2)) = some (.int .i64 x) ∧ wr.cell? ⟨(ad.add (k * 2)).block, (ad.add (k * 2)).off + 1, none⟩ = some (.int .i64 y) := SX.out _ hbw
          have SD : wr.drew.cell? (ad.add (k * 2)) = some (.int .i64 x) ∧ wr.drew.cell? ⟨(ad.add (k * 2)).block, (ad.add (k * 2)).off + 1, none⟩ = some (.int .i64 y) := SX.out _ (Below.then_ hbw bD)
          have M2 := Lib.hid (HD.out.many_ hmm)
          have CM := Lib.hid (fun (W : World) => commit_any W mm (by omega) (by omega) x y wfx wfy k (by omega))
          have AD := Lib.hid (fun (W : World) (h : Grown w1 w6 W p cs K k ds) (cm : Cm) (A7 A8 : Option Addr) (c7 c8 : Nat) (hc : canBe mm cm.ps = true) (hf : cm.ch.length ≤ 1) (r1 : Row W W.heap.size 1 A7 cm.ps.length c7 (intC cm.ps)) (r2 : Row W W.heap.size 1 A8 cm.ch.length c8 (intC cm.ch)) => h.add (by omega) (by rw [hmm]; exact hc) hf r1 r2)
          unfold CommitOut at CM
          clear a0 a1 hadl hbw
          go_region_held3 (fun w' => w'.cell? (ad.add (k * 2)) = some (.int .i64 x) ∧ w'.cell? ⟨(ad.add (k * 2)).block, (ad.add (k * 2)).off + 1, none⟩ = some (.int .i64 y))
            (first | (with_reducible exact SD) | (with_reducible exact SW) | (with_reducible exact SXX) | (with_reducible exact SXY) | (fail "keep"))
            (first
              | (go_at_call 23; ((with_reducible refine M2.out.mono ?_); rintro e v1 ⟨rfl, rfl⟩))
              | (go_at_call 33; ((with_reducible refine (CM.out wr.drew).mono ?_); rintro e wx ⟨cm, A7, c7, A8, c8, rfl, hcan, hfew, hr5, hr6, hbx⟩; (have GX := HD.out.on hbx); (have SXX := SX.out _ (Below.then_ HB0.out GX.hk.below)); (have rx5 := hr5.row fun x hx => hx.2); (have rx6 := hr6.row fun x hx => hx.2)))
              | (go_at_call 16; ((with_reducible refine (AD.out _ GX cm A7 A8 c7 c8 hcan hfew rx5 rx6).mono ?_); rintro e wy ⟨rfl, hG⟩; (have SXY := SX.out _ (Below.then_ HB0.out hG.hk.below))))
              | (fail "arm"))
          all_goals go_wp2_with fail
          all_goals go_roundw
          all_goals first
            | (case rel => exact ⟨k + 1, ds ++ [cm], by go_num, by omega, by omega, Lib.hid hG⟩)
            | (case measure => first | (simp [intOf]; done) | (simp [intOf]; omega))
        · by_cases hkn : k < n2
          · obtain rfl : k = 20 := by omega
            have kn1 : ((20 : Nat) : Int) < (n2 : Int) := by omega
            have hgA := H.out.hk.good
            have hlA : (cs ++ ds).length ≤ 1000 := by rw [List.length_append, H.out.len]; omega
            have hchA : ∀ d ∈ cs ++ ds, d.ch.length ≤ 1099511627776 := fun d hd => by have := H.out.few d hd; omega
            have D24 := Lib.hid (fun (W : World) (h : HK w1 w6 W p (cs ++ ds) K) => h.anc_ hlA 1 1)
            have D26 := Lib.hid (fun (W : World) (h : HK w1 w6 W p (cs ++ ds) K) => h.base_ hlA 1 1)
            have D31 := Lib.hid (fun (W : World) (h : HK w1 w6 W p (cs ++ ds) K) => h.log_ hlA 1)
            have D28 := Lib.hid (fun (W : World) (h : HK w1 w6 W p (cs ++ ds) K) => h.line_ hlA 1 1)
            have D20 := Lib.hid (fun (W : World) (h : HK w1 w6 W p (cs ++ ds) K) => h.get_ hlA hchA 1)
            rw [A24.out ds hgA] at D24
            rw [A26.out ds hgA] at D26
            rw [A31.out ds hgA] at D31
            rw [(A28.out ds hgA).1, (A28.out ds hgA).2] at D28
            rw [(A20.out ds).1, (A20.out ds).2] at D20
            unfold BoolB at D24
            unfold IntsOut at D31
            unfold LineOut at D28
            unfold GetOut at D20
            dsimp only at D20
            rw [g31] at D31
            rw [g28] at D28
            rw [g5, g6] at D20
            have h0 := H.out.hk
            clear hgA hlA hchA
            go_upto_region 16 with (first
              | (go_at_call 28; ((with_reducible refine (D28.out _ h0).mono ?_); rintro e y1 ⟨B28, d28, rfl, p28, q1⟩; (have h1 := h0.on q1)))
              | (fail "arm"))
            go_upto_region 17 with (first
              | (go_at_call 20; ((with_reducible refine (D20.out _ h1).mono ?_); rintro e y2 ⟨B5, d5, B6, d6, rfl, p5, p6, _, q2⟩; (have h2 := h1.on q2)))
              | (fail "arm"))
            obtain ⟨y3, hy3⟩ : ∃ y3, y2.alloc (.cells #[.slice B5 n5 d5, .int .i64 tr, .string au, .slice B6 n6 d6, .bool em] 25) = y3 := ⟨_, rfl⟩
            have b3 : Below y2.heap.size y2 y3 := by rw [← hy3]; exact (Below.refl _ y2).alloc (Nat.le_refl _) _
            have F3 : Full y3 y2.heap.size 25 [.slice B5 n5 d5, .int .i64 tr, .string au, .slice B6 n6 d6, .bool em] := by rw [← hy3]; exact Full.new y2 25 _
            rw [hy3]
            obtain ⟨g3, eg3⟩ : ∃ g, y2.heap.size = g := ⟨_, rfl⟩
            rw [eg3] at F3 ⊢
            have h3 := h2.on b3
            have r28 := ((Row.own p28).on q2).on b3
            have r5 := (Row.own p5).on b3
            have r6 := (Row.own p6).on b3
            have HS := Lib.hid (fun (W : World) (h : HK w1 w6 W p (cs ++ ds) K) (hb : Below y3.heap.size y3 W) => same_any (t := tr) (au := au) (em := em) (h.row RO.out.2.2.1) (h.row RO.out.2.2.2) (r5.on hb) (r6.on hb) (Nat.le_refl _) hps.1 hps.2)
            have HF3 := Lib.hid F3
            unfold BoolB at HS
            clear hy3 F3 eg3 r5 r6 p5 p6 p28
            go_wp2_with (first
              | (go_at_call 24; ((with_reducible refine (D24.out _ h3).mono ?_); rintro e y4 ⟨rfl, q4⟩; (have h4 := h3.on q4)))
              | (go_at_call 26; ((with_reducible refine (D26.out _ h4).mono ?_); rintro e y5 ⟨rfl, q5⟩; (have h5 := h4.on q5)))
              | (go_at_call 31; ((with_reducible refine (D31.out _ h5).mono ?_); rintro e y6 ⟨B31, d31, rfl, p31, q6⟩; (have h6 := h5.on q6); (have r31 := Row.own p31); (have s31 := h6.row RO.out.1)))
              | (go_at_call 30; ((with_reducible refine (ints_two r31 s31 hgl).mono ?_); rintro e y7 ⟨rfl, q7, hq7⟩; (have b7 : Below y6.heap.size y6 y7 := below_of_draw (Below.refl _ _) hq7); (have h7 := h6.on b7); (have b37 := Below.then_ q4 (Below.then_ q5 (Below.then_ q6 b7))); (have s28 := h7.row RO.out.2.1); (have r28' := r28.on b37); clear hq7))
              | (go_at_call 30; ((with_reducible refine (ints_two s28 r28' hll).mono ?_); rintro e y8 ⟨rfl, q8, hq8⟩; (have b8 : Below y7.heap.size y7 y8 := below_of_draw (Below.refl _ _) hq8); (have h8 := h7.on b8); (have b38 := Below.then_ b37 b8); (have f8 := h8.full FO.out ko6); (have f9 := HF3.out.on b38); (have m0 : y8.cell? ⟨gk6, 0, none⟩ = some (.slice A5 n5 c5) := f8.cell 0); (have m1 : y8.cell? ⟨gk6, 1, none⟩ = some (.int .i64 tr) := f8.cell 1); (have m2 : y8.cell? ⟨gk6, 2, none⟩ = some (.string au) := f8.cell 2); (have m3 : y8.cell? ⟨gk6, 3, none⟩ = some (.slice A6 n6 c6) := f8.cell 3); (have m4 : y8.cell? ⟨gk6, 4, none⟩ = some (.bool em) := f8.cell 4); (have z0 : y8.cell? ⟨g3, 0, none⟩ = some (.slice B5 n5 d5) := f9.cell 0); (have z1 : y8.cell? ⟨g3, 1, none⟩ = some (.int .i64 tr) := f9.cell 1); (have z2 : y8.cell? ⟨g3, 2, none⟩ = some (.string au) := f9.cell 2); (have z3 : y8.cell? ⟨g3, 3, none⟩ = some (.slice B6 n6 d6) := f9.cell 3); (have z4 : y8.cell? ⟨g3, 4, none⟩ = some (.bool em) := f9.cell 4); clear hq8))
              | (go_at_call 22; ((with_reducible refine (HS.out _ h8 b38).mono ?_); rintro e y9 ⟨rfl, q9⟩; (have h9 := h8.on q9)))
              | (fail "arm"))
            go_ret
            exact ⟨rfl, Below.then_ HB0.out h9.below⟩
          · obtain rfl : k = n2 := by omega
            have hgA := H.out.hk.good
            have hlA : (cs ++ ds).length ≤ 1000 := by rw [List.length_append, H.out.len]; omega
            have hchA : ∀ d ∈ cs ++ ds, d.ch.length ≤ 1099511627776 := fun d hd => by have := H.out.few d hd; omega
            have D24 := Lib.hid (fun (W : World) (h : HK w1 w6 W p (cs ++ ds) K) => h.anc_ hlA 1 1)
            have D26 := Lib.hid (fun (W : World) (h : HK w1 w6 W p (cs ++ ds) K) => h.base_ hlA 1 1)
            have D31 := Lib.hid (fun (W : World) (h : HK w1 w6 W p (cs ++ ds) K) => h.log_ hlA 1)
            have D28 := Lib.hid (fun (W : World) (h : HK w1 w6 W p (cs ++ ds) K) => h.line_ hlA 1 1)
            have D20 := Lib.hid (fun (W : World) (h : HK w1 w6 W p (cs ++ ds) K) => h.get_ hlA hchA 1)
            rw [A24.out ds hgA] at D24
            rw [A26.out ds hgA] at D26
            rw [A31.out ds hgA] at D31
            rw [(A28.out ds hgA).1, (A28.out ds hgA).2] at D28
            rw [(A20.out ds).1, (A20.out ds).2] at D20
            unfold BoolB at D24
            unfold IntsOut at D31
            unfold LineOut at D28
            unfold GetOut at D20
            dsimp only at D20
            rw [g31] at D31
            rw [g28] at D28
            rw [g5, g6] at D20
            have h0 := H.out.hk
            clear hgA hlA hchA
            go_upto_region 16 with (first
              | (go_at_call 28; ((with_reducible refine (D28.out _ h0).mono ?_); rintro e y1 ⟨B28, d28, rfl, p28, q1⟩; (have h1 := h0.on q1)))
              | (fail "arm"))
            go_upto_region 17 with (first
              | (go_at_call 20; ((with_reducible refine (D20.out _ h1).mono ?_); rintro e y2 ⟨B5, d5, B6, d6, rfl, p5, p6, _, q2⟩; (have h2 := h1.on q2)))
              | (fail "arm"))
            obtain ⟨y3, hy3⟩ : ∃ y3, y2.alloc (.cells #[.slice B5 n5 d5, .int .i64 tr, .string au, .slice B6 n6 d6, .bool em] 25) = y3 := ⟨_, rfl⟩
            have b3 : Below y2.heap.size y2 y3 := by rw [← hy3]; exact (Below.refl _ y2).alloc (Nat.le_refl _) _
            have F3 : Full y3 y2.heap.size 25 [.slice B5 n5 d5, .int .i64 tr, .string au, .slice B6 n6 d6, .bool em] := by rw [← hy3]; exact Full.new y2 25 _
            rw [hy3]
            obtain ⟨g3, eg3⟩ : ∃ g, y2.heap.size = g := ⟨_, rfl⟩
            rw [eg3] at F3 ⊢
            have h3 := h2.on b3
            have r28 := ((Row.own p28).on q2).on b3
            have r5 := (Row.own p5).on b3
            have r6 := (Row.own p6).on b3
            have HS := Lib.hid (fun (W : World) (h : HK w1 w6 W p (cs ++ ds) K) (hb : Below y3.heap.size y3 W) => same_any (t := tr) (au := au) (em := em) (h.row RO.out.2.2.1) (h.row RO.out.2.2.2) (r5.on hb) (r6.on hb) (Nat.le_refl _) hps.1 hps.2)
            have HF3 := Lib.hid F3
            unfold BoolB at HS
            clear hy3 F3 eg3 r5 r6 p5 p6 p28
            go_wp2_with (first
              | (go_at_call 24; ((with_reducible refine (D24.out _ h3).mono ?_); rintro e y4 ⟨rfl, q4⟩; (have h4 := h3.on q4)))
              | (go_at_call 26; ((with_reducible refine (D26.out _ h4).mono ?_); rintro e y5 ⟨rfl, q5⟩; (have h5 := h4.on q5)))
              | (go_at_call 31; ((with_reducible refine (D31.out _ h5).mono ?_); rintro e y6 ⟨B31, d31, rfl, p31, q6⟩; (have h6 := h5.on q6); (have r31 := Row.own p31); (have s31 := h6.row RO.out.1)))
              | (go_at_call 30; ((with_reducible refine (ints_two r31 s31 hgl).mono ?_); rintro e y7 ⟨rfl, q7, hq7⟩; (have b7 : Below y6.heap.size y6 y7 := below_of_draw (Below.refl _ _) hq7); (have h7 := h6.on b7); (have b37 := Below.then_ q4 (Below.then_ q5 (Below.then_ q6 b7))); (have s28 := h7.row RO.out.2.1); (have r28' := r28.on b37); clear hq7))
              | (go_at_call 30; ((with_reducible refine (ints_two s28 r28' hll).mono ?_); rintro e y8 ⟨rfl, q8, hq8⟩; (have b8 : Below y7.heap.size y7 y8 := below_of_draw (Below.refl _ _) hq8); (have h8 := h7.on b8); (have b38 := Below.then_ b37 b8); (have f8 := h8.full FO.out ko6); (have f9 := HF3.out.on b38); (have m0 : y8.cell? ⟨gk6, 0, none⟩ = some (.slice A5 n5 c5) := f8.cell 0); (have m1 : y8.cell? ⟨gk6, 1, none⟩ = some (.int .i64 tr) := f8.cell 1); (have m2 : y8.cell? ⟨gk6, 2, none⟩ = some (.string au) := f8.cell 2); (have m3 : y8.cell? ⟨gk6, 3, none⟩ = some (.slice A6 n6 c6) := f8.cell 3); (have m4 : y8.cell? ⟨gk6, 4, none⟩ = some (.bool em) := f8.cell 4); (have z0 : y8.cell? ⟨g3, 0, none⟩ = some (.slice B5 n5 d5) := f9.cell 0); (have z1 : y8.cell? ⟨g3, 1, none⟩ = some (.int .i64 tr) := f9.cell 1); (have z2 : y8.cell? ⟨g3, 2, none⟩ = some (.string au) := f9.cell 2); (have z3 : y8.cell? ⟨g3, 3, none⟩ = some (.slice B6 n6 d6) := f9.cell 3); (have z4 : y8.cell? ⟨g3, 4, none⟩ = some (.bool em) := f9.cell 4); clear hq8))
              | (go_at_call 22; ((with_reducible refine (HS.out _ h8 b38).mono ?_); rintro e y9 ⟨rfl, q9⟩; (have h9 := h8.on q9)))
              | (fail "arm"))
            go_ret
            exact ⟨rfl, Below.then_ HB0.out h9.below⟩

    · have hx : X ≤ (cs.length : Int) := by omega
      have hy : Y ≤ (cs.length : Int) := by omega
      go_upto_region 8 with (first | (go_at_call 19; ((with_reducible refine R19.out.mono ?_); rintro e v1 ⟨rfl, rfl⟩)) | (fail "arm"))
      clear R19
      have HL := Lib.hid hcs
      have hL1000 : cs.length ≤ 1000 := by omega
      have hch : ∀ d ∈ cs, d.ch.length ≤ 1099511627776 := fun d hd => by have := few.out d hd; omega
      have C24 := Lib.hid (fun (W : World) (h : HK w1 w3 W p cs (fun _ => False)) => h.anc_ hL1000 X Y)
      have C26 := Lib.hid (fun (W : World) (h : HK w1 w3 W p cs (fun _ => False)) => h.base_ hL1000 X Y)
      have C31 := Lib.hid (fun (W : World) (h : HK w1 w3 W p cs (fun _ => False)) => h.log_ hL1000 Y)
      have C28 := Lib.hid (fun (W : World) (h : HK w1 w3 W p cs (fun _ => False)) => h.line_ hL1000 X Y)
      have C20 := Lib.hid (fun (W : World) (h : HK w1 w3 W p cs (fun _ => False)) => h.get_ hL1000 hch X)
      have hgl : (logP cs Y).length ≤ 1000 := by have := logP_len cs Y; omega
      have hll : (lineP cs X Y).length ≤ 1000 := by have := lineP_len cs X Y; omega
      have A24 := Lib.hid (fun (ds : List Cm) (h : Good (cs ++ ds)) => anc_app hgd h hpos hx hy)
      have A26 := Lib.hid (fun (ds : List Cm) (h : Good (cs ++ ds)) => base_app hgd h hpos hx hy)
      have A31 := Lib.hid (fun (ds : List Cm) (h : Good (cs ++ ds)) => logP_app hgd h hpos hy)
      have A28 := Lib.hid (fun (ds : List Cm) (h : Good (cs ++ ds)) => And.intro (lineOk_app hgd h hpos hx hy) (lineP_app hgd h hpos hx hy))
      have A20 := Lib.hid (fun (ds : List Cm) => And.intro (getC_app (cs := cs) (ds := ds) hx) (inR_app (cs := cs) (ds := ds) hx))
      obtain ⟨V24, e24⟩ : ∃ V, anc cs X Y = V := ⟨_, rfl⟩
      obtain ⟨V26, e26⟩ : ∃ V, baseP cs X Y = V := ⟨_, rfl⟩
      obtain ⟨V31, e31⟩ : ∃ V, logP cs Y = V := ⟨_, rfl⟩
      obtain ⟨V28, e28⟩ : ∃ V, lineP cs X Y = V := ⟨_, rfl⟩
      obtain ⟨V29, e29⟩ : ∃ V, lineOk cs X Y = V := ⟨_, rfl⟩
      obtain ⟨V20, e20⟩ : ∃ V, getC cs X = V := ⟨_, rfl⟩
      obtain ⟨V21, e21⟩ : ∃ V, inR cs.length X = V := ⟨_, rfl⟩
      have hps : V20.ps.length ≤ 1099511627776 ∧ V20.ch.length ≤ 1099511627776 := by
        rw [← e20]
        unfold getC
        split
        · next hin =>
          rw [inR_iff] at hin
          rw [List.getD_eq_getElem?_getD, List.getElem?_eq_getElem (by omega)]
          exact ⟨Nat.le_trans (good_ps hgd _ (List.getElem_mem _)) (by omega), hch _ (List.getElem_mem _)⟩
        · exact ⟨by simp [zeroCm], by simp [zeroCm]⟩
      rw [e24] at C24 A24
      rw [e26] at C26 A26
      rw [e31] at C31 A31 hgl
      rw [e28] at hll
      rw [e28, e29] at C28 A28
      rw [e20, e21] at C20 A20
      unfold BoolB at C24
      unfold IntsOut at C31
      unfold LineOut at C28
      unfold GetOut at C20
      obtain ⟨ps, tr, au, ch, em⟩ := V20
      dsimp only at C20 hps
      obtain ⟨n31, g31⟩ : ∃ n, V31.length = n := ⟨_, rfl⟩
      obtain ⟨n28, g28⟩ : ∃ n, V28.length = n := ⟨_, rfl⟩
      obtain ⟨n5, g5⟩ : ∃ n, ps.length = n := ⟨_, rfl⟩
      obtain ⟨n6, g6⟩ : ∃ n, ch.length = n := ⟨_, rfl⟩
      rw [g31] at C31 hgl
      rw [g28] at C28 hll
      rw [g5, g6] at C20 hps
      have hk0 := Lib.hid (HK3.out.hk)
      clear hch hx hy hgd e24 e26 e31 e28 e29 e20 e21
      go_upto_region 10 with (first
        | (go_at_call 24; ((with_reducible refine (C24.out _ hk0.out).mono ?_); rintro e u1 ⟨rfl, hbu1⟩; (have hk1 := hk0.out.on hbu1)))
        | (go_at_call 26; ((with_reducible refine (C26.out _ hk1).mono ?_); rintro e u2 ⟨rfl, hbu2⟩; (have hk2 := hk1.on hbu2)))
        | (go_at_call 31; ((with_reducible refine (C31.out _ hk2).mono ?_); rintro e u3 ⟨A31', c31, rfl, o31, hbu3⟩; (have hk3 := hk2.on hbu3)))
        | (go_at_call 28; ((with_reducible refine (C28.out _ hk3).mono ?_); rintro e u4 ⟨A28', c28, rfl, o28, hbu4⟩; (have hk4 := hk3.on hbu4)))
        | (fail "arm"))
      go_upto_region 12 with (first
        | (go_at_call 20; ((with_reducible refine (C20.out _ hk4).mono ?_); rintro e u5 ⟨A5, c5, A6, c6, rfl, o5, o6, _, hbu5⟩; (have hk5 := hk4.on hbu5)))
        | (fail "arm"))
      obtain ⟨w6, hw6⟩ : ∃ w6, u5.alloc (.cells #[.slice A5 n5 c5, .int .i64 tr, .string au, .slice A6 n6 c6, .bool em] 25) = w6 := ⟨_, rfl⟩
      have b6 : Below u5.heap.size u5 w6 := by rw [← hw6]; exact (Below.refl _ u5).alloc (Nat.le_refl _) _
      have F6 : Full w6 u5.heap.size 25 [.slice A5 n5 c5, .int .i64 tr, .string au, .slice A6 n6 c6, .bool em] := by rw [← hw6]; exact Full.new u5 25 _
      rw [hw6]
      have b56 := Below.then_ hbu5 b6
      have b46 := Below.then_ hbu4 b56
      have b36 := Below.then_ hbu3 b46
      have b26 := Below.then_ hbu2 b36
      have b16 := Below.then_ hbu1 b26
      obtain ⟨K, hK⟩ : ∃ K : Nat → Prop, (fun g => w3.heap.size ≤ g ∧ g < w6.heap.size) = K := ⟨_, rfl⟩
      have z1 := hbu1.size
      have z2 := hbu2.size
      have z3 := hbu3.size
      have z4 := hbu4.size
      have RO := Lib.hid (show RowF w6 K 1 A31' n31 c31 (natC V31) ∧ RowF w6 K 1 A28' n28 c28 (natC V28) ∧ RowF w6 K 1 A5 n5 c5 (intC ps) ∧ RowF w6 K 1 A6 n6 c6 (intC ch) from by
        rw [← hK]
        exact ⟨owns_row (own_keep o31 b46) (fun g e => ⟨by have := row_ge o31 g e; omega, owns_lt (own_keep o31 b46) g e⟩), owns_row (own_keep o28 b56) (fun g e => ⟨by have := row_ge o28 g e; omega, owns_lt (own_keep o28 b56) g e⟩), owns_row (own_keep o5 b6) (fun g e => ⟨by have := row_ge o5 g e; omega, owns_lt (own_keep o5 b6) g e⟩), owns_row (own_keep o6 b6) (fun g e => ⟨by have := row_ge o6 g e; omega, owns_lt (own_keep o6 b6) g e⟩)⟩)
      have ko6 : K u5.heap.size := by rw [← hK]; exact ⟨by have := hbu5.size; omega, F6.lt⟩
      have G0 := Lib.hid (show Grown w1 w6 w6 p cs K 0 [] from ⟨by rw [List.append_nil, ← hK]; exact hk0.out.mark b16, rfl, by rw [List.append_nil]; exact few.out⟩)
      obtain ⟨gk6, eg6⟩ : ∃ g, u5.heap.size = g := ⟨_, rfl⟩
      rw [eg6] at F6 ko6 ⊢
      have FO := Lib.hid F6
      clear hw6 b6 F6 b56 b46 b36 b26 b16 hK z1 z2 z3 z4 o31 o28 o5 o6 hbu1 hbu2 hbu3 hbu4 hbu5 hk1 hk2 hk3 hk4 hk5 eg6 hk0 C24 C26 C31 C28 C20
      go_loopw [20] (fun v20 wr => ∃ (k : Nat) (ds : List Cm), v20 = .int .i64 (k : Int) ∧ k ≤ n2 ∧ k ≤ 20 ∧ Hid (Grown w1 w6 wr p cs K k ds)) (fun v20 _ => n2 - (intOf v20).toNat)
      case atStart => exact ⟨0, _, rfl, by omega, by omega, G0⟩
      case round =>
        obtain ⟨k, ds, rfl, hk, hk20, H⟩ := hrel
        have kz : (0 : Int) ≤ (k : Int) := Int.natCast_nonneg _
        by_cases hlt : k < n2 ∧ k < 20
        · obtain ⟨hkn, hk6⟩ := hlt
          have kn1 : (k : Int) < (n2 : Int) := by omega
          have k6 : (k : Int) < 20 := by omega
          go_upto_region 14 with fail
          have hbw := Below.then_ HB0.out H.out.hk.below
          obtain ⟨ad, x, y, rfl, hadl, a0, a1, wfx, wfy⟩ := HA2.out.at_ (k := k) (by have := HN2.out; omega)
          obtain ⟨mm, hmm⟩ : ∃ mm, cs.length + k = mm := ⟨_, rfl⟩
          have SX := Lib.hid (fun (W : World) (hb : Below w.heap.size w W) => (show W.cell? (ad.add (k * 2)) = some (.int .i64 x) ∧ W.cell? ⟨(ad.add (k * 2)).block, (ad.add (k * 2)).off + 1, none⟩ = some (.int .i64 y) from ⟨(hb.cell (by rw [add_block]; exact hadl)).trans a0, (hb.cell (by show (ad.add (k * 2)).block < _; rw [add_block]; exact hadl)).trans a1⟩))
          have bD : Below wr.heap.size wr wr.drew := (Below.refl _ wr).drew
          have HD := Lib.hid (H.out.on bD)
          have SW : wr.cell? (ad.add (k * 2)) = some (.int .i64 x) ∧ wr.cell? ⟨(ad.add (k * 2)).block, (ad.add (k * 2)).off + 1, none⟩ = some (.int .i64 y) := SX.out _ hbw
          have SD : wr.drew.cell? (ad.add (k * 2)) = some (.int .i64 x) ∧ wr.drew.cell? ⟨(ad.add (k * 2)).block, (ad.add (k * 2)).off + 1, none⟩ = some (.int .i64 y) := SX.out _ (Below.then_ hbw bD)
          have M2 := Lib.hid (HD.out.many_ hmm)
          have CM := Lib.hid (fun (W : World) => commit_any W mm (by omega) (by omega) x y wfx wfy k (by omega))
          have AD := Lib.hid (fun (W : World) (h : Grown w1 w6 W p cs K k ds) (cm : Cm) (A7 A8 : Option Addr) (c7 c8 : Nat) (hc : canBe mm cm.ps = true) (hf : cm.ch.length ≤ 1) (r1 : Row W W.heap.size 1 A7 cm.ps.length c7 (intC cm.ps)) (r2 : Row W W.heap.size 1 A8 cm.ch.length c8 (intC cm.ch)) => h.add (by omega) (by rw [hmm]; exact hc) hf r1 r2)
          unfold CommitOut at CM
          clear a0 a1 hadl hbw
          go_region_held3 (fun w' => w'.cell? (ad.add (k * 2)) = some (.int .i64 x) ∧ w'.cell? ⟨(ad.add (k * 2)).block, (ad.add (k * 2)).off + 1, none⟩ = some (.int .i64 y))
            (first | (with_reducible exact SD) | (with_reducible exact SW) | (with_reducible exact SXX) | (with_reducible exact SXY) | (fail "keep"))
            (first
              | (go_at_call 23; ((with_reducible refine M2.out.mono ?_); rintro e v1 ⟨rfl, rfl⟩))
              | (go_at_call 33; ((with_reducible refine (CM.out wr.drew).mono ?_); rintro e wx ⟨cm, A7, c7, A8, c8, rfl, hcan, hfew, hr5, hr6, hbx⟩; (have GX := HD.out.on hbx); (have SXX := SX.out _ (Below.then_ HB0.out GX.hk.below)); (have rx5 := hr5.row fun x hx => hx.2); (have rx6 := hr6.row fun x hx => hx.2)))
              | (go_at_call 16; ((with_reducible refine (AD.out _ GX cm A7 A8 c7 c8 hcan hfew rx5 rx6).mono ?_); rintro e wy ⟨rfl, hG⟩; (have SXY := SX.out _ (Below.then_ HB0.out hG.hk.below))))
              | (fail "arm"))
          all_goals go_wp2_with fail
          all_goals go_roundw
          all_goals first
            | (case rel => exact ⟨k + 1, ds ++ [cm], by go_num, by omega, by omega, Lib.hid hG⟩)
            | (case measure => first | (simp [intOf]; done) | (simp [intOf]; omega))
        · by_cases hkn : k < n2
          · obtain rfl : k = 20 := by omega
            have kn1 : ((20 : Nat) : Int) < (n2 : Int) := by omega
            have hgA := H.out.hk.good
            have hlA : (cs ++ ds).length ≤ 1000 := by rw [List.length_append, H.out.len]; omega
            have hchA : ∀ d ∈ cs ++ ds, d.ch.length ≤ 1099511627776 := fun d hd => by have := H.out.few d hd; omega
            have D24 := Lib.hid (fun (W : World) (h : HK w1 w6 W p (cs ++ ds) K) => h.anc_ hlA X Y)
            have D26 := Lib.hid (fun (W : World) (h : HK w1 w6 W p (cs ++ ds) K) => h.base_ hlA X Y)
            have D31 := Lib.hid (fun (W : World) (h : HK w1 w6 W p (cs ++ ds) K) => h.log_ hlA Y)
            have D28 := Lib.hid (fun (W : World) (h : HK w1 w6 W p (cs ++ ds) K) => h.line_ hlA X Y)
            have D20 := Lib.hid (fun (W : World) (h : HK w1 w6 W p (cs ++ ds) K) => h.get_ hlA hchA X)
            rw [A24.out ds hgA] at D24
            rw [A26.out ds hgA] at D26
            rw [A31.out ds hgA] at D31
            rw [(A28.out ds hgA).1, (A28.out ds hgA).2] at D28
            rw [(A20.out ds).1, (A20.out ds).2] at D20
            unfold BoolB at D24
            unfold IntsOut at D31
            unfold LineOut at D28
            unfold GetOut at D20
            dsimp only at D20
            rw [g31] at D31
            rw [g28] at D28
            rw [g5, g6] at D20
            have h0 := H.out.hk
            clear hgA hlA hchA
            go_upto_region 16 with (first
              | (go_at_call 28; ((with_reducible refine (D28.out _ h0).mono ?_); rintro e y1 ⟨B28, d28, rfl, p28, q1⟩; (have h1 := h0.on q1)))
              | (fail "arm"))
            go_upto_region 17 with (first
              | (go_at_call 20; ((with_reducible refine (D20.out _ h1).mono ?_); rintro e y2 ⟨B5, d5, B6, d6, rfl, p5, p6, _, q2⟩; (have h2 := h1.on q2)))
              | (fail "arm"))
            obtain ⟨y3, hy3⟩ : ∃ y3, y2.alloc (.cells #[.slice B5 n5 d5, .int .i64 tr, .string au, .slice B6 n6 d6, .bool em] 25) = y3 := ⟨_, rfl⟩
            have b3 : Below y2.heap.size y2 y3 := by rw [← hy3]; exact (Below.refl _ y2).alloc (Nat.le_refl _) _
            have F3 : Full y3 y2.heap.size 25 [.slice B5 n5 d5, .int .i64 tr, .string au, .slice B6 n6 d6, .bool em] := by rw [← hy3]; exact Full.new y2 25 _
            rw [hy3]
            obtain ⟨g3, eg3⟩ : ∃ g, y2.heap.size = g := ⟨_, rfl⟩
            rw [eg3] at F3 ⊢
            have h3 := h2.on b3
            have r28 := ((Row.own p28).on q2).on b3
            have r5 := (Row.own p5).on b3
            have r6 := (Row.own p6).on b3
            have HS := Lib.hid (fun (W : World) (h : HK w1 w6 W p (cs ++ ds) K) (hb : Below y3.heap.size y3 W) => same_any (t := tr) (au := au) (em := em) (h.row RO.out.2.2.1) (h.row RO.out.2.2.2) (r5.on hb) (r6.on hb) (Nat.le_refl _) hps.1 hps.2)
            have HF3 := Lib.hid F3
            unfold BoolB at HS
            clear hy3 F3 eg3 r5 r6 p5 p6 p28
            go_wp2_with (first
              | (go_at_call 24; ((with_reducible refine (D24.out _ h3).mono ?_); rintro e y4 ⟨rfl, q4⟩; (have h4 := h3.on q4)))
              | (go_at_call 26; ((with_reducible refine (D26.out _ h4).mono ?_); rintro e y5 ⟨rfl, q5⟩; (have h5 := h4.on q5)))
              | (go_at_call 31; ((with_reducible refine (D31.out _ h5).mono ?_); rintro e y6 ⟨B31, d31, rfl, p31, q6⟩; (have h6 := h5.on q6); (have r31 := Row.own p31); (have s31 := h6.row RO.out.1)))
              | (go_at_call 30; ((with_reducible refine (ints_two r31 s31 hgl).mono ?_); rintro e y7 ⟨rfl, q7, hq7⟩; (have b7 : Below y6.heap.size y6 y7 := below_of_draw (Below.refl _ _) hq7); (have h7 := h6.on b7); (have b37 := Below.then_ q4 (Below.then_ q5 (Below.then_ q6 b7))); (have s28 := h7.row RO.out.2.1); (have r28' := r28.on b37); clear hq7))
              | (go_at_call 30; ((with_reducible refine (ints_two s28 r28' hll).mono ?_); rintro e y8 ⟨rfl, q8, hq8⟩; (have b8 : Below y7.heap.size y7 y8 := below_of_draw (Below.refl _ _) hq8); (have h8 := h7.on b8); (have b38 := Below.then_ b37 b8); (have f8 := h8.full FO.out ko6); (have f9 := HF3.out.on b38); (have m0 : y8.cell? ⟨gk6, 0, none⟩ = some (.slice A5 n5 c5) := f8.cell 0); (have m1 : y8.cell? ⟨gk6, 1, none⟩ = some (.int .i64 tr) := f8.cell 1); (have m2 : y8.cell? ⟨gk6, 2, none⟩ = some (.string au) := f8.cell 2); (have m3 : y8.cell? ⟨gk6, 3, none⟩ = some (.slice A6 n6 c6) := f8.cell 3); (have m4 : y8.cell? ⟨gk6, 4, none⟩ = some (.bool em) := f8.cell 4); (have z0 : y8.cell? ⟨g3, 0, none⟩ = some (.slice B5 n5 d5) := f9.cell 0); (have z1 : y8.cell? ⟨g3, 1, none⟩ = some (.int .i64 tr) := f9.cell 1); (have z2 : y8.cell? ⟨g3, 2, none⟩ = some (.string au) := f9.cell 2); (have z3 : y8.cell? ⟨g3, 3, none⟩ = some (.slice B6 n6 d6) := f9.cell 3); (have z4 : y8.cell? ⟨g3, 4, none⟩ = some (.bool em) := f9.cell 4); clear hq8))
              | (go_at_call 22; ((with_reducible refine (HS.out _ h8 b38).mono ?_); rintro e y9 ⟨rfl, q9⟩; (have h9 := h8.on q9)))
              | (fail "arm"))
            go_ret
            exact ⟨rfl, Below.then_ HB0.out h9.below⟩
          · obtain rfl : k = n2 := by omega
            have hgA := H.out.hk.good
            have hlA : (cs ++ ds).length ≤ 1000 := by rw [List.length_append, H.out.len]; omega
            have hchA : ∀ d ∈ cs ++ ds, d.ch.length ≤ 1099511627776 := fun d hd => by have := H.out.few d hd; omega
            have D24 := Lib.hid (fun (W : World) (h : HK w1 w6 W p (cs ++ ds) K) => h.anc_ hlA X Y)
            have D26 := Lib.hid (fun (W : World) (h : HK w1 w6 W p (cs ++ ds) K) => h.base_ hlA X Y)
            have D31 := Lib.hid (fun (W : World) (h : HK w1 w6 W p (cs ++ ds) K) => h.log_ hlA Y)
            have D28 := Lib.hid (fun (W : World) (h : HK w1 w6 W p (cs ++ ds) K) => h.line_ hlA X Y)
            have D20 := Lib.hid (fun (W : World) (h : HK w1 w6 W p (cs ++ ds) K) => h.get_ hlA hchA X)
            rw [A24.out ds hgA] at D24
            rw [A26.out ds hgA] at D26
            rw [A31.out ds hgA] at D31
            rw [(A28.out ds hgA).1, (A28.out ds hgA).2] at D28
            rw [(A20.out ds).1, (A20.out ds).2] at D20
            unfold BoolB at D24
            unfold IntsOut at D31
            unfold LineOut at D28
            unfold GetOut at D20
            dsimp only at D20
            rw [g31] at D31
            rw [g28] at D28
            rw [g5, g6] at D20
            have h0 := H.out.hk
            clear hgA hlA hchA
            go_upto_region 16 with (first
              | (go_at_call 28; ((with_reducible refine (D28.out _ h0).mono ?_); rintro e y1 ⟨B28, d28, rfl, p28, q1⟩; (have h1 := h0.on q1)))
              | (fail "arm"))
            go_upto_region 17 with (first
              | (go_at_call 20; ((with_reducible refine (D20.out _ h1).mono ?_); rintro e y2 ⟨B5, d5, B6, d6, rfl, p5, p6, _, q2⟩; (have h2 := h1.on q2)))
              | (fail "arm"))
            obtain ⟨y3, hy3⟩ : ∃ y3, y2.alloc (.cells #[.slice B5 n5 d5, .int .i64 tr, .string au, .slice B6 n6 d6, .bool em] 25) = y3 := ⟨_, rfl⟩
            have b3 : Below y2.heap.size y2 y3 := by rw [← hy3]; exact (Below.refl _ y2).alloc (Nat.le_refl _) _
            have F3 : Full y3 y2.heap.size 25 [.slice B5 n5 d5, .int .i64 tr, .string au, .slice B6 n6 d6, .bool em] := by rw [← hy3]; exact Full.new y2 25 _
            rw [hy3]
            obtain ⟨g3, eg3⟩ : ∃ g, y2.heap.size = g := ⟨_, rfl⟩
            rw [eg3] at F3 ⊢
            have h3 := h2.on b3
            have r28 := ((Row.own p28).on q2).on b3
            have r5 := (Row.own p5).on b3
            have r6 := (Row.own p6).on b3
            have HS := Lib.hid (fun (W : World) (h : HK w1 w6 W p (cs ++ ds) K) (hb : Below y3.heap.size y3 W) => same_any (t := tr) (au := au) (em := em) (h.row RO.out.2.2.1) (h.row RO.out.2.2.2) (r5.on hb) (r6.on hb) (Nat.le_refl _) hps.1 hps.2)
            have HF3 := Lib.hid F3
            unfold BoolB at HS
            clear hy3 F3 eg3 r5 r6 p5 p6 p28
            go_wp2_with (first
              | (go_at_call 24; ((with_reducible refine (D24.out _ h3).mono ?_); rintro e y4 ⟨rfl, q4⟩; (have h4 := h3.on q4)))
              | (go_at_call 26; ((with_reducible refine (D26.out _ h4).mono ?_); rintro e y5 ⟨rfl, q5⟩; (have h5 := h4.on q5)))
              | (go_at_call 31; ((with_reducible refine (D31.out _ h5).mono ?_); rintro e y6 ⟨B31, d31, rfl, p31, q6⟩; (have h6 := h5.on q6); (have r31 := Row.own p31); (have s31 := h6.row RO.out.1)))
              | (go_at_call 30; ((with_reducible refine (ints_two r31 s31 hgl).mono ?_); rintro e y7 ⟨rfl, q7, hq7⟩; (have b7 : Below y6.heap.size y6 y7 := below_of_draw (Below.refl _ _) hq7); (have h7 := h6.on b7); (have b37 := Below.then_ q4 (Below.then_ q5 (Below.then_ q6 b7))); (have s28 := h7.row RO.out.2.1); (have r28' := r28.on b37); clear hq7))
              | (go_at_call 30; ((with_reducible refine (ints_two s28 r28' hll).mono ?_); rintro e y8 ⟨rfl, q8, hq8⟩; (have b8 : Below y7.heap.size y7 y8 := below_of_draw (Below.refl _ _) hq8); (have h8 := h7.on b8); (have b38 := Below.then_ b37 b8); (have f8 := h8.full FO.out ko6); (have f9 := HF3.out.on b38); (have m0 : y8.cell? ⟨gk6, 0, none⟩ = some (.slice A5 n5 c5) := f8.cell 0); (have m1 : y8.cell? ⟨gk6, 1, none⟩ = some (.int .i64 tr) := f8.cell 1); (have m2 : y8.cell? ⟨gk6, 2, none⟩ = some (.string au) := f8.cell 2); (have m3 : y8.cell? ⟨gk6, 3, none⟩ = some (.slice A6 n6 c6) := f8.cell 3); (have m4 : y8.cell? ⟨gk6, 4, none⟩ = some (.bool em) := f8.cell 4); (have z0 : y8.cell? ⟨g3, 0, none⟩ = some (.slice B5 n5 d5) := f9.cell 0); (have z1 : y8.cell? ⟨g3, 1, none⟩ = some (.int .i64 tr) := f9.cell 1); (have z2 : y8.cell? ⟨g3, 2, none⟩ = some (.string au) := f9.cell 2); (have z3 : y8.cell? ⟨g3, 3, none⟩ = some (.slice B6 n6 d6) := f9.cell 3); (have z4 : y8.cell? ⟨g3, 4, none⟩ = some (.bool em) := f9.cell 4); clear hq8))
              | (go_at_call 22; ((with_reducible refine (HS.out _ h8 b38).mono ?_); rintro e y9 ⟨rfl, q9⟩; (have h9 := h8.on q9)))
              | (fail "arm"))
            go_ret
            exact ⟨rfl, Below.then_ HB0.out h9.below⟩


theorem contract (H : Type) (enc : TypeId × Value → H) (W : World) (base : Nat) (args : Array Value) (ds gs : List (DataW H)) (before : List MemPlace)
    (hval : ∀ (j : Nat) t v, Try.f11.params[j]? = some t → args[j]? = some v → Value.okWide Try.prog W .any base t v)
    (hW : DataW.Whole enc Try.prog Try.f11.params.toList Rows.historyGrowsSpec.vars false W args.toList ds gs before) :
    Calls Try.prog 11 args W fun e W' => ∃ v, e = .returned v ∧ Rows.historyGrowsSpec.post enc Try.prog Try.f11 false true false false W args v W' := by
  have hW' := hW
  obtain ⟨p, q, hA0, hV, rfl, hfz, hnd⟩ := hW
  have hA : DataW.TrodAll enc Try.prog W 0 (fun _ => true) true Try.f11.params.toList args.toList ds p := hA0
  rw [Try.params11] at hA hval
  obtain ⟨v0, vs0, d0, ds0, p0, q0, e0, rfl, rfl, h0, r0⟩ := trodAll_cons hA
  obtain ⟨v1, vs1, d1, ds1, p1, q1, e1, rfl, rfl, h1, r1⟩ := trodAll_cons r0
  obtain ⟨v2, vs2, d2, ds2, p2, q2, e2, rfl, rfl, h2, r2⟩ := trodAll_cons r1
  obtain ⟨rfl, rfl, rfl⟩ := trodAll_nil r2
  obtain rfl : args = #[v0, v1, v2] := by cases args; simp_all
  obtain ⟨rfl, rfl⟩ := trodVars_none hV
  obtain ⟨A, l, c, rfl, hP, hl⟩ := open_prs h0 (hval 0 22 v0 rfl rfl)
  obtain ⟨A2, l2, c2, rfl, hP2, hl2⟩ := open_prs h1 (hval 1 22 v1 rfl rfl)
  obtain ⟨a, b, rfl, ha, hb⟩ := open_two (hval 2 53 v2 rfl rfl) h2
  refine (walk A l c A2 l2 c2 a b W hP hl hP2 hl2 ha hb).mono fun e W' ⟨he, hb⟩ => ⟨_, he, law_post rfl rfl ?_ rfl rfl rfl hW' hb⟩
  rw [Try.params11]
  intro t ht
  have ht' : t = 22 ∨ t = 22 ∨ t = 53 := by simpa using ht
  rcases ht' with rfl | rfl | rfl <;> exact ⟨by kernel_rfl, of_decide_eq_true (by kernel_rfl)⟩

set_option maxRecDepth 100000 in
theorem lifted (os : Os) (started : os.Started) (H : Type) (enc : TypeId × Value → H) :
    ReturnsInHanded {} Try.checked os 11 .any (Rows.historyGrowsSpec.pre6 enc Try.prog Try.f11 Rows.historyGrowsRow.domain false) (Rows.historyGrowsSpec.post enc Try.prog Try.f11 false true false false) := by
  refine returnsInHanded_of_change (C := Try.checked) ownKnob_none started (by kernel_rfl) Try.func11
    (ChangeSpec.witness6 (enc := enc) (C := Try.checked) false ⟨#[], #[.slice none 0 0, .slice none 0 0, .agg #[.int .i64 0, .int .i64 0]], []⟩ 8 (by kernel_rfl) (by kernel_rfl) (by kernel_rfl) (by kernel_rfl)) ?_
  intro W base args ds gs before hval hW _ _
  exact contract H enc W base args ds gs before hval hW

theorem proved : Rows.HistoryGrowsSaid :=
  OpenClaim.holds_of_wide 11 Try.f11 rfl rfl rfl rfl rfl rfl rfl ⟨rfl, rfl, rfl, rfl, rfl⟩ rfl rfl rfl rfl rfl (by kernel_rfl) Try.func11 (by kernel_rfl)
    (of_decide_eq_true (by kernel_rfl)) (by unfold Func.isWrapper; first | (rw [if_pos (by decide +kernel)]; kernel_rfl) | (rw [if_neg (by decide +kernel)]; exact ⟨rfl, rfl⟩))
    (fun os started H enc _ => lifted os started H enc)

end Go.Proofs.Ytiikbekboapphaa.lgro
