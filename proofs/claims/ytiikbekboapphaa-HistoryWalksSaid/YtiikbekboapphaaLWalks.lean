/- HistoryWalks: every walk along parents visits ancestors only, in decreasing order. For all arguments. -/
import Derived.Test.YtiikbekboapphaaWalkKit
import Derived.Deep.CutRange
import Derived.BigQuiet
namespace Go.Proofs.Ytiikbekboapphaa.lwalks
open Go.ChangeShapes Go.WideShapes Go.ChangeAt Go.RowKit Go.Maps

set_option maxRecDepth 100000 in
set_option maxHeartbeats 16000000 in
theorem walk (A : Option Addr) (l : List (Int × Int)) (c : Nat) (a : Int) (A2 : Option Addr) (zs : List Int) (c2 : Nat) (w : World) (hA : Prs w w.heap.size A c l) (hl : l.length ≤ maxLen) (ha : (Lit.int .i64 a).wf = true)
    (hR : Row w w.heap.size 1 A2 zs.length c2 (u8C zs)) (hzl : zs.length ≤ maxLen) (hz : ∀ z ∈ zs, 0 ≤ z ∧ z ≤ 255) :
    Calls Try.prog 8 #[.slice A l.length c, .int .i64 a, .slice A2 zs.length c2] w (BoolB w true) := by
  have S := Lib.hid (sane_any w)
  have MD := Lib.hid (fun (W : World) (h : Below w.heap.size w W) => made_any W A l c ⟨(Row.below hA.1 h (Nat.le_refl _)).more h.size, hA.2⟩ hl)
  obtain ⟨x, hx, hx0⟩ : ∃ x, max a 0 = x ∧ 0 ≤ x := ⟨_, rfl, by omega⟩
  have hbd := bd_i64 ha
  have hxw : (Lit.int .i64 x).wf = true := by
    rcases Int.le_total a 0 with h | h
    · have : x = 0 := by omega
      subst this; decide
    · have : x = a := by omega
      subst this; exact ha
  have NA := Lib.hid (fun (W : World) (n : Nat) (hn : n ≤ 1000) => number_any W n hn x hxw)
  unfold BoolB at S ⊢
  unfold MadeOut at MD
  obtain ⟨m, hm⟩ : ∃ m, l.length = m := ⟨_, rfl⟩
  rw [hm] at MD ⊢
  obtain ⟨nz, hnz⟩ : ∃ n, zs.length = n := ⟨_, rfl⟩
  have HR := Lib.hid hR
  have HNZ := Lib.hid hnz
  have HZ := Lib.hid hz
  have hcap : nz ≤ c2 := by rw [← hnz]; exact hR.2.1 |> fun h => by simpa using h
  have hlm : (nz : Int) ≤ 9223372036854775807 := by rw [← hnz]; unfold maxLen at hzl; omega
  rw [hnz] at ⊢
  obtain ⟨mz, hmz⟩ : ∃ m, min nz 60 = m := ⟨_, rfl⟩
  have HMZ := Lib.hid hmz
  have hmz2 : mz ≤ nz := by omega
  clear hA hl ha hm hxw hbd hnz hR hz hzl hmz
  have hmm := @run_makeMap Try.prog
  go_enter Try.func8, Try.ntmps8
  go_upto_region 5 with (first
    | (go_at_call 14; ((with_reducible refine S.out.mono ?_); rintro e w1 ⟨rfl, hb1⟩))
    | (go_at_call 15; ((with_reducible refine (MD.out _ hb1).mono ?_); rintro e w2 ⟨p, q, cs, rfl, hcs, hT⟩))
    | (fail "arm"))
  have hpos := hT.good.2
  have hgd := hT.good.1
  obtain ⟨V, hV⟩ : ∃ V, numP cs.length x = V := ⟨_, rfl⟩
  have N1 := Lib.hid (fun W : World => (show Calls Try.prog 18 #[.int .i64 (cs.length : Int), .int .i64 x] W fun e w' => e = .returned (.int .i64 V) ∧ W = w' from hV ▸ NA.out W cs.length (by omega)))
  have hV0 : 0 ≤ V := by
    rw [← hV]
    unfold numP
    split
    · omega
    · exact Int.emod_nonneg _ (by omega)
  have hV1 : V < (cs.length : Int) + 2 := by rw [← hV]; exact numP_range _ _
  have hm0 : 0 ≤ V % (cs.length : Int) := Int.emod_nonneg _ (by omega)
  have hm1 : V % (cs.length : Int) < (cs.length : Int) := Int.emod_lt_of_pos _ (by omega)
  have hne0 : ¬ ((cs.length : Int) = 0) := by omega
  obtain ⟨t, ht⟩ : ∃ t : Nat, 1 + V % (cs.length : Int) = (t : Int) := ⟨(1 + V % (cs.length : Int)).toNat, by omega⟩
  have ht2 : t ≤ cs.length := by omega
  have ht1 : 1 ≤ t := by omega
  have hO := hT.os
  have RM := Lib.hid hO.rmany_
  have LG := Lib.hid (hO.log_ (by omega) (t : Int))
  obtain ⟨n, hn, hn0, hn1, hmem⟩ := logP_ends hgd ht1 ht2
  obtain ⟨GL, hGL⟩ : ∃ GL, logP cs (t : Int) = GL := ⟨_, rfl⟩
  unfold IntsOut at LG
  rw [hGL] at hn hn0 hn1 hmem LG
  obtain ⟨n1, hnn1⟩ : ∃ n1, n + 1 = n1 := ⟨_, rfl⟩
  have HN1 := Lib.hid hnn1
  have hn1p : 1 ≤ n1 := by omega
  rw [hnn1] at hn
  rw [hn] at LG
  have hn1b : n1 ≤ 1001 := by have := logP_len cs (t : Int); rw [hGL, hn] at this; omega
  clear hnn1
  obtain ⟨len, hlen⟩ : ∃ k, cs.length = k := ⟨_, rfl⟩
  have HO := Lib.hid hO
  have HG := Lib.hid hgd
  have HLE := Lib.hid hlen
  have HMEM := Lib.hid hmem
  have HN := Lib.hid (And.intro hn (And.intro hn0 hn1))
  rw [hlen] at RM N1 hm0 hm1 hne0 ht ht2 hcs hpos hV1
  have HFEW := Lib.hid (fun (d : Cm) (hd : d ∈ cs) => (show d.ch.length ≤ 1099511627776 from by have := hT.few d hd; omega))
  have HB1 := Lib.hid hb1
  clear hT hO hgd hmem hn hn0 hn1 hGL hlen hV hb1
  go_cut [11] from 30 to 38 (fun v11 wx => v11 = .int .i64 (t : Int) ∧ wx = w2)
  case first =>
    by_cases h0 : 0 ≤ a
    · have e0 : x = a := by omega
      subst e0
      go_wp2_with (first
        | (go_at_call 19; ((with_reducible refine RM.out.mono ?_); rintro e v ⟨rfl, rfl⟩))
        | (go_at_call 18; ((with_reducible refine (N1.out _).mono ?_); rintro e v ⟨rfl, rfl⟩))
        | (fail "arm"))
      go_meet
      case rel => exact ⟨rfl, rfl⟩
    · have e0 : x = 0 := by omega
      subst e0
      have h0' : a < 0 := by omega
      go_wp2_with (first
        | (go_at_call 19; ((with_reducible refine RM.out.mono ?_); rintro e v ⟨rfl, rfl⟩))
        | (go_at_call 18; ((with_reducible refine (N1.out _).mono ?_); rintro e v ⟨rfl, rfl⟩))
        | (fail "arm"))
      go_meet
      case rel => exact ⟨rfl, rfl⟩
  case rest =>
    obtain ⟨rfl, hwc⟩ := hcut
    rw [hwc]
    clear hwc
    go_upto_region 9 with (first
      | (go_at_call 31; ((with_reducible refine LG.out.mono ?_); rintro e w3 ⟨A3, c3, rfl, hown3, hb3⟩))
      | (fail "arm"))
    have hO3 := (HO.out.on hb3).less (K' := fun x => (Value.slice A3 n1 c3).ownBlock = some x) (fun x hx => .inr ⟨row_ge hown3 x hx, owns_lt hown3 x hx⟩)
    obtain ⟨w4, hw4⟩ : ∃ w4, w3.alloc (.map #[] 0) = w4 := ⟨_, rfl⟩
    have hb4 : Below w3.heap.size w3 w4 := by rw [← hw4]; exact (Below.refl _ w3).alloc (Nat.le_refl _) _
    have hs4 : w4.heap.size = w3.heap.size + 1 := by rw [← hw4]; exact World.size_alloc _ _
    obtain ⟨mb, hmb⟩ : ∃ b, w3.heap.size = b := ⟨_, rfl⟩
    have hSe : Seen w4 mb 0 (fun _ => False) := by rw [← hw4, ← hmb]; exact Seen.made w3
    have HSe := Lib.hid hSe
    obtain ⟨K, hK⟩ : ∃ K : Nat → Prop, (fun x => (Value.slice A3 n1 c3).ownBlock = some x ∨ x = mb) = K := ⟨_, rfl⟩
    have hO4 : OS w1 w4 p q cs cs K := by
      rw [← hK]
      exact (hO3.on hb4).less (fun x hx => hx.imp id (fun e => by subst e; exact ⟨by omega, by omega⟩))
    have HKm : Hid (K mb ∧ ∀ x, (Value.slice A3 n1 c3).ownBlock = some x → K x ∧ x ≠ mb) := Lib.hid ⟨by rw [← hK]; exact .inr rfl, fun x hx => ⟨by rw [← hK]; exact .inl hx, fun e => by have := owns_lt hown3 x hx; omega⟩⟩
    have HO4 := Lib.hid hO4
    have HR4 := Lib.hid (own_keep hown3 hb4)
    have hn3 : n1 ≤ c3 := (Row.own hown3).2.1
    rw [hw4, hmb]
    have b3 := Lib.hid (show Below w3.heap.size w3 w4 from hb4)
    clear hw4 hb4 hs4 hmb hSe hK hO4 hO3 hown3 hb3 LG RM N1 NA HO b3 MD S hm0 hm1 hne0 hV0 hV1
    go_loopw [45] (fun v45 wr => ∃ k : Nat, v45 = .int .i64 (k : Int) ∧ k ≤ n1 ∧ Hid (Seen wr mb k (fun z : Int => ∃ i, i < k ∧ ∃ y : Nat, GL[i]? = some y ∧ z = (y : Int))) ∧ Hid (OS w1 wr p q cs cs K) ∧ Hid (wr.ownsRow w2.heap.size 3 1 (.slice A3 n1 c3) n1 (natC GL))) (fun v45 _ => n1 - (intOf v45).toNat)
    case atStart => exact ⟨0, rfl, Nat.zero_le _, Lib.hid (HSe.out.less (fun z ⟨i, hi, _⟩ => absurd hi (Nat.not_lt_zero _))), HO4, HR4⟩
    case round =>
      obtain ⟨k, rfl, hk, HS, HO5, HR5⟩ := hrel
      have k0 : (0 : Int) ≤ (k : Int) := Int.natCast_nonneg _
      by_cases hkn : k < n1
      · have k1 : (k : Int) < (n1 : Int) := by omega
        have hkG : k < GL.length := by rw [HN.out.1]; have := HN1.out; omega
        obtain ⟨y, hy⟩ : ∃ y, GL[k]? = some y := ⟨_, List.getElem?_eq_getElem hkG⟩
        have hyl : y ≤ 1000 := by have := (HMEM.out y).1 (List.mem_of_getElem? hy); have := HLE.out; omega
        have hyw : (Lit.int .i64 (y : Int)).wf = true := WalkArith.wf_i64 ⟨by omega, by omega⟩
        obtain ⟨ad, rfl, had, hcell⟩ := (Row.own HR5.out).2.2.2 k (.int .i64 (y : Int)) (by unfold natC; rw [List.getElem?_map, hy]; rfl)
        obtain ⟨w6, hrun, hS6, hT6⟩ := HS.out.put (y : Int) hyw (by unfold maxLen; omega)
        have HS6 : Hid (Seen w6 mb (k + 1) (fun z : Int => ∃ i, i < k + 1 ∧ ∃ y : Nat, GL[i]? = some y ∧ z = (y : Int))) := Lib.hid (hS6.less (fun z hz => by
          obtain ⟨i, hi, y', h1, h2⟩ := hz
          rcases Nat.lt_or_ge i k with h | h
          · exact .inr ⟨i, h, y', h1, h2⟩
          · obtain rfl : i = k := by omega
            rw [hy] at h1
            injection h1 with h1
            subst h1
            exact .inl h2))
        have HO6 := Lib.hid (HO5.out.turn hT6 HKm.out.1)
        have HR6 := Lib.hid (owns_keep HR5.out (fun g hg => hT6.block g (owns_lt HR5.out g hg) (HKm.out.2 g hg).2))
        clear hS6 hT6 hy hyw hyl had
        go_wp2_with fail
        go_roundw
        case rel => exact ⟨k + 1, by go_num, by omega, HS6, HO6, HR6⟩
        case measure => simp [intOf]; omega
      · obtain rfl : n1 = k := by omega
        have HSK := Lib.hid (HS.out.less (K' := fun z : Int => ∃ y : Nat, z = (y : Int) ∧ 1 ≤ y ∧ y ≤ t ∧ rch (leads cs) t y = true) (fun z hz => by
          obtain ⟨y, rfl, h1, h2, h3⟩ := hz
          obtain ⟨i, hi⟩ := List.getElem?_of_mem ((HMEM.out y).2 ⟨h1, h2, h3⟩)
          refine ⟨i, ?_, y, hi, rfl⟩
          have := (List.getElem?_eq_some_iff.1 hi).1
          rw [HN.out.1] at this
          have := HN1.out
          omega))
        clear HS HO4 HR4 HSe hkn k0 hk
        obtain ⟨w5, hw5⟩ : ∃ w5, wr = w5 := ⟨_, rfl⟩
        rw [hw5] at HO5 HR5 HSK ⊢
        clear hw5
        go_upto_region 15 with fail
        go_loopw [16, 17] (fun v16 v17 wr => ∃ (k z : Nat), v16 = .int .i64 (z : Int) ∧ v17 = .int .i64 (k : Int) ∧ k ≤ mz ∧ 1 ≤ z ∧ z ≤ t ∧ Hid (rch (leads cs) t z = true) ∧ Hid (Seen wr mb n1 (fun z : Int => ∃ y : Nat, z = (y : Int) ∧ 1 ≤ y ∧ y ≤ t ∧ rch (leads cs) t y = true)) ∧ Hid (OS w1 wr p q cs cs K) ∧ Hid (wr.ownsRow w2.heap.size 3 1 (.slice A3 n1 c3) n1 (natC GL))) (fun _ v17 _ => mz - (intOf v17).toNat)
        case atStart => exact ⟨0, t, rfl, rfl, Nat.zero_le _, ht1, Nat.le_refl _, Lib.hid (rch_self _ _), HSK, HO5, HR5⟩
        case round =>
          obtain ⟨k, z, rfl, rfl, hk, hz1, hzt, HRC, HS, HOX, HRX⟩ := hrel
          have k0 : (0 : Int) ≤ (k : Int) := Int.natCast_nonneg _
          clear HSK HO5 HR5
          go_upto_region 15 with fail
          go_cut [60] from 53 to 60 (fun c wx => c = .bool (decide (k < mz)) ∧ wx = wr)
          case first =>
            by_cases h1 : k < nz
            · have i1 : (k : Int) < (nz : Int) := by omega
              by_cases h2 : k < 60
              · have i2 : (k : Int) < 60 := by omega
                go_wp2
                go_meet
                case rel => exact ⟨congrArg Value.bool (decide_eq_true (p := k < mz) (by have := HMZ.out; omega)).symm, rfl⟩
              · have i2 : ¬ (k : Int) < 60 := by omega
                go_wp2
                go_meet
                case rel => exact ⟨congrArg Value.bool (decide_eq_false (p := k < mz) (by have := HMZ.out; omega)).symm, rfl⟩
            · have i1 : ¬ (k : Int) < (nz : Int) := by omega
              go_wp2
              go_meet
              case rel => exact ⟨congrArg Value.bool (decide_eq_false (p := k < mz) (by have := HMZ.out; omega)).symm, rfl⟩
          case rest =>
            obtain ⟨rfl, hwcr⟩ := hcut
            rw [hwcr]
            clear hwcr
            obtain ⟨wq, hwq⟩ : ∃ wq, wr = wq := ⟨_, rfl⟩
            rw [hwq] at HS HOX HRX ⊢
            clear hwq
            by_cases hlt : k < mz
            · have dt : decide (k < mz) = true := decide_eq_true hlt
              rw [dt]
              have hkz : k < zs.length := by rw [HNZ.out]; omega
              have k1 : (k : Int) < (nz : Int) := by omega
              have GT := Lib.hid (HOX.out.get_ (by have := HLE.out; omega) HFEW.out (z : Int))
              unfold GetOut at GT
              rw [show inR cs.length (z : Int) = true from inR_iff.2 ⟨by omega, by have := HLE.out; omega⟩] at GT
              obtain ⟨C, hC⟩ : ∃ C, getC cs (z : Int) = C := ⟨_, rfl⟩
              have HST := Lib.hid (fun (x : Int) (hx : x ∈ C.ps) => step_on HG.out hz1 (by have := HLE.out; omega) HRC.out (by rw [hC]; exact hx))
              have hfew : C.ps.length ≤ 2 := by rw [← hC]; exact getC_few HG.out _
              rw [hC] at GT
              obtain ⟨L, hL⟩ : ∃ L, C.ps.length = L := ⟨_, rfl⟩
              obtain ⟨M, hM⟩ : ∃ M, C.ch.length = M := ⟨_, rfl⟩
              obtain ⟨ct, hct⟩ : ∃ x, C.tree = x := ⟨_, rfl⟩
              obtain ⟨cu, hcu⟩ : ∃ x, C.au = x := ⟨_, rfl⟩
              obtain ⟨ce, hce⟩ : ∃ x, C.em = x := ⟨_, rfl⟩
              rw [hL, hM, hct, hcu, hce] at GT
              have HL := Lib.hid hL
              rw [hL] at hfew
              clear hC hL hM hct hcu hce
              go_upto_region 18 with (first
                | (go_at_call 20; ((with_reducible refine GT.out.mono ?_); rintro e w6 ⟨A5, c5, A6, c6, rfl, o5, o6, hap, gb6⟩))
                | (fail "arm"))
              obtain ⟨w7, hw7⟩ : ∃ w7, w6.alloc (.cells #[.slice A5 L c5, .int .i64 ct, .string cu, .slice A6 M c6, .bool ce] 25) = w7 := ⟨_, rfl⟩
              have b7 : Below w6.heap.size w6 w7 := by rw [← hw7]; exact (Below.refl _ w6).alloc (Nat.le_refl _) _
              have F7 : Full w7 w6.heap.size 25 [.slice A5 L c5, .int .i64 ct, .string cu, .slice A6 M c6, .bool ce] := by rw [← hw7]; exact Full.new w6 25 _
              obtain ⟨g7, eg7⟩ : ∃ g7, w6.heap.size = g7 := ⟨_, rfl⟩
              have b67 : Below wq.heap.size wq w7 := Below.then_ gb6 b7
              have hlook := (HS.out.keep (b67.block mb HS.out.lt)).look (z : Int) (WalkArith.wf_i64 ⟨by omega, by have := HLE.out; omega⟩) ⟨z, rfl, hz1, hzt, HRC.out⟩
              have hO7 := (HOX.out.on b67).less (K' := K) (fun x hx => .inl hx)
              have AN := Lib.hid (show Calls Try.prog 24 #[.pointer (some ⟨p, 0, none⟩), .int .i64 (z : Int), .int .i64 (t : Int)] w7 (BoolB w7 true) from by
                have h := hO7.anc_ (by have := HLE.out; omega) (z : Int) (t : Int)
                have e : anc cs (z : Int) (t : Int) = true := by
                  unfold anc
                  rw [inR_iff.2 ⟨by omega, by have := HLE.out; omega⟩, inR_iff.2 ⟨by omega, by have := HLE.out; omega⟩]
                  exact HRC.out
                rwa [e] at h)
              unfold BoolB at AN
              have o7 := own_keep o5 b7
              rw [hw7]
              rw [eg7] at F7 ⊢
              have HF7 := Lib.hid F7
              have HO7r := Lib.hid o7
              have HB67 := Lib.hid b67
              have HO7 := Lib.hid hO7
              clear hw7 b7 F7 eg7 b67 hO7 o7 o5 o6 hap gb6 GT
              go_upto_region 20 with (first
                | (go_at_call 24; ((with_reducible refine AN.out.mono ?_); rintro e w8 ⟨rfl, hb8⟩))
                | (fail "arm"))
              have d0 : w8.cell? ⟨g7, 0, none⟩ = some (.slice A5 L c5) := (HF7.out.on hb8).cell 0
              have o8 := own_keep HO7r.out hb8
              have hb08 : Below wq.heap.size wq w8 := Below.then_ HB67.out hb8
              have HOY : Hid (OS w1 w8 p q cs cs K) := Lib.hid ((HO7.out.on hb8).less (fun x hx => .inl hx))
              have HRY : Hid (w8.ownsRow w2.heap.size 3 1 (.slice A3 n1 c3) n1 (natC GL)) := Lib.hid (own_keep HRX.out hb08)
              have HSY := Lib.hid (HS.out.keep (hb08.block mb HS.out.lt))
              obtain ⟨ad2, rfl, had2, hc2⟩ := HR.out.2.2.2 k (.int .u8 zs[k]) (by unfold u8C; rw [List.getElem?_map, List.getElem?_eq_getElem hkz]; rfl)
              have hch : w8.cell? (ad2.add k) = some (.int .u8 zs[k]) := ((HOY.out.below.cell (by rw [add_block]; exact Nat.lt_of_lt_of_le had2 HB1.out.size)).trans ((HB1.out.cell (by rw [add_block]; exact had2)).trans hc2))
              have hzb := HZ.out _ (List.getElem_mem hkz)
              obtain ⟨y, hy⟩ : ∃ y, zs[k] = y := ⟨_, rfl⟩
              rw [hy] at hch hzb
              obtain ⟨hy0, hy1⟩ := hzb
              have HO8 := Lib.hid o8
              clear o8 hb08 hb8 hlook HS HO7 HO7r HB67 HF7 AN hc2 had2 hy
              by_cases hL0 : L = 0
              · subst hL0
                have HOX := HOY
                have HRX := HRY
                have hrow9 := HRX.out
                obtain ⟨adl, ead, hadl, hl0⟩ := (Row.own hrow9).2.2.2 0 (.int .i64 (t : Int)) (by unfold natC; rw [List.getElem?_map, HN.out.2.1]; rfl)
                have AX := Lib.hid (show Calls Try.prog 24 #[.pointer (some ⟨p, 0, none⟩), .int .i64 1, .int .i64 (t : Int)] w8 (BoolB w8 true) from by
                  have h := HOX.out.anc_ (by have := HLE.out; omega) 1 (t : Int)
                  have e : anc cs 1 (t : Int) = true := by
                    unfold anc
                    rw [inR_iff.2 ⟨by omega, by have := HLE.out; omega⟩, inR_iff.2 ⟨by omega, by have := HLE.out; omega⟩]
                    exact leads_one HG.out ht1 (by have := HLE.out; omega)
                  rwa [e] at h)
                unfold BoolB at AX
                have CE := Lib.hid (fun (W : World) (hb : Below w8.heap.size w8 W) => (show W.cell? adl = some (.int .i64 (t : Int)) ∧ W.cell? (adl.add n) = some (.int .i64 1) from by
                  have r := own_keep hrow9 hb
                  obtain ⟨a1, e1, _, q1⟩ := (Row.own r).2.2.2 0 (.int .i64 (t : Int)) (by unfold natC; rw [List.getElem?_map, HN.out.2.1]; rfl)
                  obtain ⟨a2, e2, _, q2⟩ := (Row.own r).2.2.2 n (.int .i64 1) (by unfold natC; rw [List.getElem?_map, HN.out.2.2]; rfl)
                  obtain rfl : adl = a1 := by rw [ead] at e1; injection e1
                  obtain rfl : adl = a2 := by rw [ead] at e2; injection e2
                  exact ⟨by rw [← q1]; simp [Addr.add], q2⟩))
                have BX := Lib.hid (fun (W : World) (hb : Below w8.heap.size w8 W) => Below.then_ (HB1.out.trans (HOX.out.below.mono HB1.out.size)) (hb))
                have i1 : (n1 : Int) - 1 = (n : Int) := by have := HN1.out; omega
                have i2 : (0 : Int) < (n1 : Int) := by omega
                have i3 : (n : Int) < (n1 : Int) := by omega
                have i4 : (0 : Int) ≤ (n : Int) := Int.natCast_nonneg _
                have i5 : 0 < n1 := by omega
                have tt : ((t : Int) == (t : Int)) = true := by simp
                subst ead
                clear hrow9 hadl hl0
                go_wp2_with (first
                  | (go_at_call 24; ((with_reducible refine AX.out.mono ?_); rintro e w9 ⟨rfl, hb9⟩; (have q1 := (CE.out w9 hb9).1); (have q2 := (CE.out w9 hb9).2)))
                  | (fail "arm"))
                go_ret
                exact ⟨by simp, BX.out w9 hb9⟩
              · have hLp : 1 ≤ L := by omega
                have hl0 : ((L : Int) == 0) = false := by simp; omega
                have hl1 : ¬ (L : Int) = 0 := by omega
                have L0 : (0 : Int) ≤ (L : Int) := Int.natCast_nonneg _
                have hmd0 : 0 ≤ y % (L : Int) := Int.emod_nonneg _ (by omega)
                have hmd1 : y % (L : Int) < (L : Int) := Int.emod_lt_of_pos _ (by omega)
                obtain ⟨i, hi⟩ : ∃ i : Nat, y % (L : Int) = (i : Int) := ⟨(y % (L : Int)).toNat, by omega⟩
                have hiL : i < L := by omega
                have hi1 : (i : Int) < (L : Int) := by omega
                have hi0 : (0 : Int) ≤ (i : Int) := Int.natCast_nonneg _
                have hic : i < C.ps.length := by rw [HL.out]; exact hiL
                obtain ⟨y2, hy2, hy3, hy4, hy5⟩ := HST.out C.ps[i] (List.getElem_mem hic)
                obtain ⟨ad5, e5, _, q5⟩ := (Row.own HO8.out).2.2.2 i (.int .i64 (y2 : Int)) (by unfold intC; rw [List.getElem?_map, List.getElem?_eq_getElem hic, ← hy2]; rfl)
                have hLc : L ≤ c5 := (Row.own HO8.out).2.1 |> fun h => by simpa using h
                subst e5
                have g1 : ¬ (z : Int) ≤ (y2 : Int) := by omega
                have g2 : ¬ (y2 : Int) < 1 := by omega
                have g3 : decide ((z : Int) ≤ (y2 : Int)) = false := by simp; omega
                have g4 : decide ((y2 : Int) < 1) = false := by simp; omega
                have ht5 : Int.tmod y (L : Int) = (i : Int) := by rw [Int.tmod_eq_emod_of_nonneg hy0]; exact hi
                have HRC2 := Lib.hid hy5
                clear hmd0 hmd1 hic hy2 hy5 hL0
                go_upto_region 21 with fail
                go_quiet (fail)
                go_upto_region 22 with fail
                have HSZ := Lib.hid (HSY.out.keep (w' := w8.drewN nq) rfl)
                have HOZ := Lib.hid (HOY.out.drewN nq)
                have HRZ := Lib.hid (owns_keep (w' := w8.drewN nq) HRY.out (fun g hg => rfl))
                go_wp2_with fail
                go_roundw
                case rel => exact ⟨k + 1, y2, rfl, by go_num, by omega, hy3, by omega, HRC2, HSZ, HOZ, HRZ⟩
                case measure => simp [intOf]; omega
            · have df : decide (k < mz) = false := decide_eq_false hlt
              rw [df]
              have hrow9 := HRX.out
              obtain ⟨adl, ead, hadl, hl0⟩ := (Row.own hrow9).2.2.2 0 (.int .i64 (t : Int)) (by unfold natC; rw [List.getElem?_map, HN.out.2.1]; rfl)
              have AX := Lib.hid (show Calls Try.prog 24 #[.pointer (some ⟨p, 0, none⟩), .int .i64 1, .int .i64 (t : Int)] wq (BoolB wq true) from by
                have h := HOX.out.anc_ (by have := HLE.out; omega) 1 (t : Int)
                have e : anc cs 1 (t : Int) = true := by
                  unfold anc
                  rw [inR_iff.2 ⟨by omega, by have := HLE.out; omega⟩, inR_iff.2 ⟨by omega, by have := HLE.out; omega⟩]
                  exact leads_one HG.out ht1 (by have := HLE.out; omega)
                rwa [e] at h)
              unfold BoolB at AX
              have CE := Lib.hid (fun (W : World) (hb : Below wq.heap.size wq W) => (show W.cell? adl = some (.int .i64 (t : Int)) ∧ W.cell? (adl.add n) = some (.int .i64 1) from by
                have r := own_keep hrow9 hb
                obtain ⟨a1, e1, _, q1⟩ := (Row.own r).2.2.2 0 (.int .i64 (t : Int)) (by unfold natC; rw [List.getElem?_map, HN.out.2.1]; rfl)
                obtain ⟨a2, e2, _, q2⟩ := (Row.own r).2.2.2 n (.int .i64 1) (by unfold natC; rw [List.getElem?_map, HN.out.2.2]; rfl)
                obtain rfl : adl = a1 := by rw [ead] at e1; injection e1
                obtain rfl : adl = a2 := by rw [ead] at e2; injection e2
                exact ⟨by rw [← q1]; simp [Addr.add], q2⟩))
              have BX := Lib.hid (fun (W : World) (hb : Below wq.heap.size wq W) => Below.then_ (HB1.out.trans (HOX.out.below.mono HB1.out.size)) (hb))
              have i1 : (n1 : Int) - 1 = (n : Int) := by have := HN1.out; omega
              have i2 : (0 : Int) < (n1 : Int) := by omega
              have i3 : (n : Int) < (n1 : Int) := by omega
              have i4 : (0 : Int) ≤ (n : Int) := Int.natCast_nonneg _
              have i5 : 0 < n1 := by omega
              have tt : ((t : Int) == (t : Int)) = true := by simp
              subst ead
              clear hrow9 hadl hl0
              go_wp2_with (first
                | (go_at_call 24; ((with_reducible refine AX.out.mono ?_); rintro e w9 ⟨rfl, hb9⟩; (have q1 := (CE.out w9 hb9).1); (have q2 := (CE.out w9 hb9).2)))
                | (fail "arm"))
              go_ret
              exact ⟨by simp, BX.out w9 hb9⟩
theorem contract (H : Type) (enc : TypeId × Value → H) (W : World) (base : Nat) (args : Array Value) (ds gs : List (DataW H)) (before : List MemPlace)
    (hval : ∀ (j : Nat) t v, Try.f8.params[j]? = some t → args[j]? = some v → Value.okWide Try.prog W .any base t v)
    (hW : DataW.Whole enc Try.prog Try.f8.params.toList Rows.historyWalksSpec.vars false W args.toList ds gs before) :
    Calls Try.prog 8 args W fun e W' => ∃ v, e = .returned v ∧ Rows.historyWalksSpec.post enc Try.prog Try.f8 false true false false W args v W' := by
  have hW' := hW
  obtain ⟨p, q, hA0, hV, rfl, hfz, hnd⟩ := hW
  have hA : DataW.TrodAll enc Try.prog W 0 (fun _ => true) true Try.f8.params.toList args.toList ds p := hA0
  rw [Try.params8] at hA hval
  obtain ⟨v0, vs0, d0, ds0, p0, q0, e0, rfl, rfl, h0, r0⟩ := trodAll_cons hA
  obtain ⟨v1, vs1, d1, ds1, p1, q1, e1, rfl, rfl, h1, r1⟩ := trodAll_cons r0
  obtain ⟨v2, vs2, d2, ds2, p2, q2, e2, rfl, rfl, h2, r2⟩ := trodAll_cons r1
  obtain ⟨rfl, rfl, rfl⟩ := trodAll_nil r2
  obtain rfl : args = #[v0, v1, v2] := by cases args; simp_all
  obtain ⟨rfl, rfl⟩ := trodVars_none hV
  obtain ⟨A, l, c, rfl, hPr, hl⟩ := open_prs h0 (hval 0 22 v0 rfl rfl)
  obtain ⟨a, rfl, _, _, hwa⟩ := open_int Try.underlying3 (hval 1 3 v1 rfl rfl) h1
  obtain ⟨A2, zs, c2, rfl, hRz, hzl, hz⟩ := open_u8s h2 (hval 2 47 v2 rfl rfl)
  refine (walk A l c a A2 zs c2 W hPr hl hwa hRz hzl hz).mono fun e W' ⟨he, hb⟩ => ⟨_, he, law_post rfl rfl ?_ rfl rfl rfl hW' hb⟩
  rw [Try.params8]
  intro t ht
  have ht' : t = 22 ∨ t = 3 ∨ t = 47 := by simpa using ht
  rcases ht' with rfl | rfl | rfl <;> exact ⟨by kernel_rfl, of_decide_eq_true (by kernel_rfl)⟩

set_option maxRecDepth 100000 in
theorem lifted (os : Os) (started : os.Started) (H : Type) (enc : TypeId × Value → H) :
    ReturnsInHanded {} Try.checked os 8 .any (Rows.historyWalksSpec.pre6 enc Try.prog Try.f8 Rows.historyWalksRow.domain false) (Rows.historyWalksSpec.post enc Try.prog Try.f8 false true false false) := by
  refine returnsInHanded_of_change (C := Try.checked) ownKnob_none started (by kernel_rfl) Try.func8
    (ChangeSpec.witness6 (enc := enc) (C := Try.checked) false ⟨#[], #[.slice none 0 0, .int .i64 0, .slice none 0 0], []⟩ 8 (by kernel_rfl) (by kernel_rfl) (by kernel_rfl) (by kernel_rfl)) ?_
  intro W base args ds gs before hval hW _ _
  exact contract H enc W base args ds gs before hval hW

theorem proved : Rows.HistoryWalksSaid :=
  OpenClaim.holds_of_wide 8 Try.f8 rfl rfl rfl rfl rfl rfl rfl ⟨rfl, rfl, rfl, rfl, rfl⟩ rfl rfl rfl rfl rfl (by kernel_rfl) Try.func8 (by kernel_rfl)
    (of_decide_eq_true (by kernel_rfl)) (by unfold Func.isWrapper; first | (rw [if_pos (by decide +kernel)]; kernel_rfl) | (rw [if_neg (by decide +kernel)]; exact ⟨rfl, rfl⟩))
    (fun os started H enc _ => lifted os started H enc)

end Go.Proofs.Ytiikbekboapphaa.lwalks
