/- JournalCrashes: through any number of power failures, Open returns the records whose Append returned OK, and at most the torn one behind them. For all arguments. -/
import Derived.Test.YthhpnlobhffimaaJInn
import Derived.Deep.CutRange
import Derived.Deep.AppendLies
import Derived.BigQuiet
namespace Go.Proofs.Ythhpnlobhffimaa.lcrashes
set_option maxRecDepth 100000
open Go.ChangeShapes Go.WideShapes Go.ChangeAt Go.RowKit Go.Maps

theorem out_start {w W : World} {p : Nat} {X : Nat → Prop} (h : Side w W p Dk.new X) : Out w W p Dk.new [] none 0 0 :=
  ⟨h.less (fun g hg => by simp [Value.ownBlock] at hg), World.ownsRow_nil _ _ _ _, rfl, rfl, Nat.zero_le _, fun s hs => (by cases hs), Nat.zero_le _⟩

set_option maxRecDepth 100000 in
set_option maxHeartbeats 16000000 in
theorem walk (A : Option Addr) (us : List Rnd) (c : Nat) (w : World) (hA : Rounds w w.heap.size A us) (hl : us.length ≤ maxLen) (hcap : us.length ≤ c) :
    Calls Try.prog 6 #[.slice A us.length c] w (BoolB w true) := by
  have S := Lib.hid (sane_any w)
  have NW := Lib.hid (fun (W : World) (h : Below w.heap.size w W) => new_side h)
  have HA := Lib.hid hA
  obtain ⟨n, hn⟩ : ∃ n, us.length = n := ⟨_, rfl⟩
  have HN := Lib.hid hn
  have hlm : (n : Int) ≤ 9223372036854775807 := by rw [← hn]; unfold maxLen at hl; omega
  rw [hn] at hcap ⊢
  obtain ⟨m, hm⟩ : ∃ m, min n 5 = m := ⟨_, rfl⟩
  have HM := Lib.hid hm
  have hm5 : m ≤ 5 := by omega
  have hmn : m ≤ n := by omega
  unfold BoolB at S ⊢
  clear hn hl hA hm
  go_enter Try.func6, Try.ntmps6
  go_upto_region 5 with (first
    | (go_at_call 12; ((with_reducible refine S.out.mono ?_); rintro e w1 ⟨rfl, hb1⟩))
    | (go_at_call 13; ((with_reducible refine (NW.out w1 hb1).mono ?_); rintro e w2 ⟨p, rfl, hS2, hb2⟩))
    | (fail "arm"))
  have H0 := Lib.hid (out_start hS2)
  clear hb1 hb2 hS2 S NW
  go_loopw [4, 5, 6] (fun v4 v5 v6 wr => ∃ (k p : Nat) (d : Dk) (S : List ByteArray) (N : Nat) (A5 : Option Addr) (c5 : Nat), v4 = .pointer (some ⟨p, 0, none⟩) ∧ v5 = .slice A5 N c5 ∧ v6 = .int .i64 (k : Int) ∧ k ≤ m ∧ N ≤ 60 ∧ Hid (S.length = N) ∧ Hid (Out w wr p d S A5 c5 k)) (fun _ _ v6 _ => m - (intOf v6).toNat)
  case atStart => exact ⟨0, p, Dk.new, [], 0, none, 0, rfl, rfl, rfl, Nat.zero_le _, by omega, Lib.hid rfl, H0⟩
  case round =>
    obtain ⟨k, p, d, S, N, A5, c5, rfl, rfl, rfl, hk, hN60, HSN, HO⟩ := hrel
    have k0 : (0 : Int) ≤ (k : Int) := Int.natCast_nonneg _
    clear H0
    go_upto_region 5 with fail
    go_cut [26] from 19 to 26 (fun c wx => c = .bool (decide (k < m)) ∧ wx = wr)
    case first =>
      by_cases h1 : k < n
      · have i1 : (k : Int) < (n : Int) := by omega
        by_cases h2 : k < 5
        · have i2 : (k : Int) < 5 := by omega
          go_wp2
          go_meet
          case rel => exact ⟨congrArg Value.bool (decide_eq_true (p := k < m) (by have := HM.out; omega)).symm, rfl⟩
        · have i2 : ¬ (k : Int) < 5 := by omega
          go_wp2
          go_meet
          case rel => exact ⟨congrArg Value.bool (decide_eq_false (p := k < m) (by omega)).symm, rfl⟩
      · have i1 : ¬ (k : Int) < (n : Int) := by omega
        go_wp2
        go_meet
        case rel => exact ⟨congrArg Value.bool (decide_eq_false (p := k < m) (by omega)).symm, rfl⟩
    case rest =>
      obtain ⟨rfl, rfl⟩ := hcut
      obtain ⟨wq, hwq⟩ : ∃ wq, wc = wq := ⟨_, rfl⟩
      rw [hwq] at HO ⊢
      clear hwq
      by_cases hlt : k < m
      · have dt : decide (k < m) = true := decide_eq_true hlt
        rw [dt]
        have k1 : (k : Int) < (n : Int) := by omega
        obtain ⟨y, f, n1, n2, P1, zs, hy, hP1, hzs, hf, hf47, hn1, hn2, hfew⟩ : ∃ (y : Int) (f n1 n2 : Nat) (P1 : List (Int × Int)) (zs : List Int), (us[k]'(by rw [HN.out]; omega)).2.1 = y ∧ P1 = (us[k]'(by rw [HN.out]; omega)).1 ∧ zs = (us[k]'(by rw [HN.out]; omega)).2.2 ∧ y % 48 = (f : Int) ∧ f ≤ 47 ∧ P1.length = n1 ∧ zs.length = n2 ∧ 0 ≤ y := by
          obtain ⟨_, _, _, _, _, _, _, _, _, _, _, _, hx, _, _⟩ := HA.out.at_ k (by rw [HN.out]; omega)
          exact ⟨_, ((us[k]'(by rw [HN.out]; omega)).2.1 % 48).toNat, _, _, _, _, rfl, rfl, rfl, by omega, by omega, rfl, rfl, hx.1⟩
        obtain ⟨ad, A1, c1, A2, c2, hAe, RC⟩ : ∃ ad A1 c1 A2 c2, A = some ad ∧ Hid (∀ W : World, Below w.heap.size w W → W.cell? (ad.add (k * 3)) = some (.slice A1 n1 c1) ∧ W.cell? ⟨(ad.add (k * 3)).block, (ad.add (k * 3)).off + 1, none⟩ = some (.int .u8 y) ∧
            W.cell? ⟨(ad.add (k * 3)).block, (ad.add (k * 3)).off + 2, none⟩ = some (.slice A2 n2 c2) ∧ Prs W w.heap.size A1 c1 P1 ∧ n1 ≤ maxLen ∧ Row W w.heap.size 1 A2 n2 c2 (intC zs) ∧ n2 ≤ maxLen) := by
          obtain ⟨ad, A1, c1, A2, c2, e0, e1, q0, q1, q2, q3, q4, q5, q6, q7⟩ := HA.out.at_ k (by rw [HN.out]; omega)
          refine ⟨ad, A1, c1, A2, c2, e0, Lib.hid fun W hb => ?_⟩
          have kc : ∀ o, W.cell? ⟨(ad.add (k * 3)).block, o, none⟩ = w.cell? ⟨(ad.add (k * 3)).block, o, none⟩ := fun o => hb.cell (by show (ad.add (k * 3)).block < _; rw [add_block]; exact e1)
          rw [← hn1, ← hn2, hP1, hzs, ← hy]
          exact ⟨(hb.cell (by rw [add_block]; exact e1)).trans q0, (kc _).trans q1, (kc _).trans q2, q3.on hb, q4, q6.below hb (Nat.le_refl _), q7⟩
        subst hAe
        have HP1 := Lib.hid hn1
        clear hy hP1 hzs hn1 hn2
        have OP := Lib.hid (open_list HO.out.side HO.out.pw (by have := HO.out.calls; omega) HO.out.rs)
        unfold OpenL at OP
        rw [HSN.out] at OP
        go_upto_region 8 with (first
          | (go_at_call 14; ((with_reducible refine OP.out.mono ?_); rintro e w7 ⟨b, A7, c7, j7, rfl, hG7, hP7, hb7, hJ7, hr7⟩))
          | (fail "arm"))
        have hro := owns_keep HO.out.row (fun g hg => hP7.2.1 g (by rw [HSN.out] at hg; exact hg))
        rw [HSN.out] at hro
        have hc7 : N ≤ c7 := by
          have := (Strs.own hr7).2.cap
          rw [HSN.out] at this; exact this
        obtain ⟨A8, hcut8, hcs8⟩ := cut_strs A7 N c7 N (Nat.le_refl _) hc7
        have SM := Lib.hid (show Calls Try.prog 19 #[.slice A8 N c7, .slice A5 N c5] w7 (QBool w7 true) from by
          have h1 := (Strs.own hro).2
          have h2 := hcs8 w7 w7.heap.size S HSN.out (Strs.own hr7).2
          rw [List.take_of_length_le (by rw [HSN.out]; exact Nat.le_refl _)] at h2
          have := same_any (w := w7) w7.heap.size A8 A5 S S c7 c5 (by unfold Strs; rw [HSN.out]; exact h2) h1 (by rw [HSN.out]; omega) (by rw [HSN.out]; omega)
          rw [HSN.out, show decide (S = S) = true by simp] at this
          exact this)
        unfold QBool at SM
        have hJ7n := hJ7.less (Y := fun g => (Value.slice A7 N c7).ownBlock = some g) (fun g hg => .inr hg)
        have MN := Lib.hid (fun r => (show Calls Try.prog 17 #[.pointer (some ⟨b, 0, none⟩)] (w7.drewN r) fun e w' => e = .returned (.int .i64 (N : Int)) ∧ w7.drewN r = w' from by
          have := many_any (hJ7n.on (Below.drewN_ (Below.refl _ w7) r))
          rw [hG7.2.1, dat_len, HSN.out] at this
          exact this))
        have HJ7 := Lib.hid hJ7n
        have HR7 := Lib.hid (owns_base hr7 (fun g hg => by have h1 := row_ge hr7 g hg; have h2 := HO.out.side.bel.size; omega) : w7.ownsRow w.heap.size 9 1 (.slice A7 N c7) N (strC S))
        have HG7 := Lib.hid hG7
        have HCL : Hid (j7.d.calls ≤ 6) := Lib.hid (by have := hG7.2.2.2; have := HO.out.calls; omega)
        clear hro hcs8 hJ7 hJ7n hr7 hP7 hG7 hb7 OP
        go_upto_region 11 with (first
          | (go_at_call 19; ((with_reducible refine SM.out.mono ?_); rintro e w8 ⟨rfl, r8, rfl⟩))
          | (go_at_call 17; ((with_reducible refine (MN.out r8).mono ?_); rintro e w9 ⟨rfl, rfl⟩))
          | (fail "arm"))
        obtain ⟨w8, hw8⟩ : ∃ w8, w7.drewN r8 = w8 := ⟨_, rfl⟩
        have hJ8 : Jw w w8 p b j7 (fun g => (Value.slice A7 N c7).ownBlock = some g) := by rw [← hw8]; exact HJ7.out.on (Below.drewN_ (Below.refl _ w7) r8)
        have HR8 := Lib.hid (show w8.ownsRow w.heap.size 9 1 (.slice A7 N c7) N (strC S) by rw [← hw8]; exact owns_keep HR7.out (fun g hg => rfl))
        rw [hw8]
        clear hw8 SM MN HJ7 HR7 hcut8
        have FA := Lib.hid (hJ8.fail (f : Int) ⟨by omega, by omega⟩)
        have r1 := (RC.out w8 hJ8.bel).2.1
        have RB := Lib.hid (fun (W : World) (hb : Below w.heap.size w W) => (show Calls Try.prog 15 #[.slice A1 n1 c1] W fun e W' => ∃ L : List ByteArray, L.length ≤ 10 ∧ (∀ s ∈ L, s.size ≤ 300) ∧ ∃ A4 c4, e = .returned (.slice A4 L.length c4) ∧ W'.ownsRow W.heap.size 9 1 (.slice A4 L.length c4) L.length (strC L) ∧ Below W.heap.size W W' from by
          obtain ⟨_, _, _, t3, t4, _, _⟩ := RC.out W hb
          have := records_any W A1 P1 c1 t3 hb.size (by rw [HP1.out]; exact t4)
          unfold SmallL StrsOut at this
          rw [HP1.out] at this
          refine this.mono ?_
          rintro e W' ⟨L, h1, h2, A4, c4, he, ho, hb⟩
          exact ⟨L, by omega, h2, A4, c4, he, ho, hb⟩))
        have RL := Lib.hid (fun (W : World) (hb : Below w.heap.size w W) => (RC.out W hb).1)
        go_upto_region 13 with (first
          | (go_at_call 21; ((with_reducible refine FA.out.mono ?_); rintro e w9 ⟨rfl, hP9⟩))
          | (fail "arm"))
        have c9 := RL.out w9 hP9.1.bel
        have RB9 := Lib.hid (RB.out w9 hP9.1.bel)
        go_upto_region 14 with (first
          | (go_at_call 15; ((with_reducible refine RB9.out.mono ?_); rintro e w10 ⟨L, hL10, hsz, A4, c4, rfl, hown, hb10⟩))
          | (fail "arm"))
        obtain ⟨m1, hm1⟩ : ∃ m1, L.length = m1 := ⟨_, rfl⟩
        rw [hm1] at hL10 hown ⊢
        obtain ⟨X2, hX2⟩ : ∃ X2 : Nat → Prop, (fun g => (Value.slice A4 m1 c4).ownBlock = some g) = X2 := ⟨_, rfl⟩
        have hX2' : ∀ g, X2 g → w9.heap.size ≤ g ∧ g < w10.heap.size := fun g hg => by
          rw [← hX2] at hg
          exact ⟨row_ge hown g hg, owns_lt hown g hg⟩
        have HI : Hid (Inn w w10 p b ⟨j7.d.fail (f : Int), j7.rs, j7.failed⟩ X2 S [] A7 c7 none 0 0) := Lib.hid (by
          have hlt7 : ∀ g, (Value.slice A7 S.length c7).ownBlock = some g → g < w9.heap.size := fun g hg => by
            rw [HSN.out] at hg
            have := owns_lt HR8.out g hg
            have := hP9.2.2
            omega
          refine ⟨?_, ?_, World.ownsRow_nil _ _ _ _, ?_, ?_, ?_⟩
          · refine (hP9.1.plus hb10 (Y := X2) hX2').less (fun g hg => ?_)
            rcases hg with hg | hg | hg
            · exact .inr hg
            · exact .inl (by rw [HSN.out] at hg; exact hg)
            · simp [Value.ownBlock] at hg
          · rw [HSN.out]
            exact own_keep (owns_keep HR8.out (fun g hg => hP9.2.1 g hg)) hb10
          · intro g hg
            refine ⟨fun hx => ?_, by simp [Value.ownBlock]⟩
            have := hlt7 g hg
            have := (hX2' g hx).1
            omega
          · intro g hg
            simp [Value.ownBlock] at hg
          · exact ⟨by show j7.d.calls ≤ _; have := HCL.out; omega, ⟨HO.out.small, fun s hs => (by cases hs)⟩, ⟨by have := HO.out.few; omega, Nat.le_refl _⟩, .inl ⟨rfl, HG7.out.1.fail _, HG7.out.2.1⟩⟩)
        have HK10 : Hid (∀ g, X2 g → w10.heap[g]? = w10.heap[g]?) := Lib.hid fun _ _ => rfl
        have HOW := Lib.hid hown
        have HSZ := Lib.hid hsz
        have HLM := Lib.hid hm1
        have HX2 := Lib.hid hX2
        have HFW : Hid (N ≤ 11 * k) := Lib.hid (by have := HO.out.few; rw [HSN.out] at this; exact this)
        have hmc : m1 ≤ c4 := by
          have := (Strs.own hown).2.cap
          rw [hm1] at this; exact this
        obtain ⟨i9, hi9, hy0, hy1, hy2'⟩ := info_parts info9
        have m10 : (0 : Int) ≤ (m1 : Int) := Int.natCast_nonneg _
        have N0 : (0 : Int) ≤ (N : Int) := Int.natCast_nonneg _
        clear hm1 hX2 hX2' hown hsz hb10 hP9 hJ8 HR8 HG7 HCL FA RB RB9 RL r1 c9 HP1 HO
        obtain ⟨wo, hwo⟩ : ∃ wo, wq = wo := ⟨_, rfl⟩
        go_loopw [5, 10, 81] (fun v5 v10 v81 wr => ∃ (q NS NT : Nat) (j : Jn) (S T : List ByteArray) (A5 : Option Addr) (c5 : Nat) (A6 : Option Addr) (c6 : Nat), v5 = .slice A5 NS c5 ∧ v10 = .slice A6 NT c6 ∧ v81 = .int .i64 (q : Int) ∧ q ≤ m1 ∧ NS ≤ N + q ∧ NT ≤ q ∧ Hid (S.length = NS ∧ T.length = NT) ∧ Hid (Inn w wr p b j X2 S T A5 c5 A6 c6 q) ∧ Hid (∀ g, X2 g → wr.heap[g]? = w10.heap[g]?)) (fun _ _ v81 _ => m1 - (intOf v81).toNat)
        case atStart => exact ⟨0, N, 0, _, S, [], A7, c7, none, 0, rfl, rfl, rfl, Nat.zero_le _, by omega, Nat.le_refl _, Lib.hid ⟨HSN.out, rfl⟩, HI, HK10⟩
        case round =>
          obtain ⟨q, NS, NT, j, S, T, A5, c5, A6, c6, rfl, rfl, rfl, hq, hNS, hNT, HLS, HI2, HK⟩ := hrel
          have q0 : (0 : Int) ≤ (q : Int) := Int.natCast_nonneg _
          have hlw := owns_keep HOW.out (fun g hg => HK.out g (by rw [← HX2.out]; exact hg))
          clear HI HK10 HSN
          by_cases hqm : q < m1
          · have q1 : (q : Int) < (m1 : Int) := by omega
            have hqL : q < L.length := by rw [HLM.out]; exact hqm
            obtain ⟨ld, rfl, _, hcell⟩ := (Strs.own hlw).2.at_ hqL
            have hz := HSZ.out _ (List.getElem_mem hqL)
            have AP := Lib.hid (cr_step HI2.out.jw HI2.out.cr (by omega) L[q] hz)
            obtain ⟨s', hs'⟩ : ∃ s', L[q] = s' := ⟨_, rfl⟩
            rw [hs'] at hcell AP
            clear hs' hlw hqL hz
            go_upto_region 17 with (first
              | (go_at_call 16; ((with_reducible refine AP.out.mono ?_); rintro e w11 ⟨v11, j11, rfl, hp11, hc11⟩))
              | (fail "arm"))
            obtain ⟨kS, kT⟩ := HI2.out.kept hp11
            rw [HLS.out.1] at kS
            rw [HLS.out.2] at kT
            have hsb := hp11.1.bel.size
            have HP11 := Lib.hid hp11
            have HKK := Lib.hid (fun g (hg : X2 g) => (show w11.heap[g]? = w10.heap[g]? from (hp11.2.1 g (.inl hg)).trans (HK.out g hg)))
            have HXL := Lib.hid (fun g (hg : X2 g) => (hp11.1.xlt (.inl hg)))
            clear hp11 AP
            rcases hc11 with ⟨rfl, hT, hcr⟩ | ⟨rfl, hcr⟩
            · have hNT0 : NT = 0 := by rw [← HLS.out.2, hT]; rfl
              subst hNT0
              have HCR := Lib.hid hcr
              have HTT := Lib.hid hT
              clear hcr hT kT
              go_wp2_with (first
                | (at_builtin; refine wpList_append_lies _ rfl _ _ 27 rfl w.heap.size 9 i9 (.string ⟨#[]⟩) 1 16 Try.underlying27 hi9 hy0 hy1 hy2' rfl (by decide) (.slice A5 NS c5) NS _ rfl (kS.alloc _) ⟨w11.heap.size, 0, none⟩ 1 1 [.string s'] rfl rfl (cell_one_new _ _ _) (by simp [Value.oneCell']) (by omega) (by unfold maxLen; omega) (by omega) (by simp; omega) (w11.heap.size + 1) (by simp) ?_; intro gg cap w12 hown12 hgrow12 hat12 hlt12)
                | (fail "arm"))
              have HI12 := Lib.hid (HI2.out.sure HP11.out (s := s') (by rw [HLS.out.1]; exact hown12) (by rw [HLS.out.1]; exact hgrow12) (by rw [HLS.out.1]; exact hat12) hlt12 HTT.out HCR.out)
              have HK12 := Lib.hid (fun g (hg : X2 g) => (show w12.heap[g]? = w10.heap[g]? from by
                have h1 := HXL.out g hg
                rw [hgrow12.block g (by simp; omega) (fun e => (HI2.out.a1 g (by rw [HLS.out.1]; exact e.symm)).1 hg), Below.heap_alloc _ _ _ h1]
                exact HKK.out g hg))
              have HL12 := Lib.hid (show (S ++ [s']).length = NS + 1 ∧ T.length = 0 from ⟨by rw [List.length_append, HLS.out.1]; rfl, HLS.out.2⟩)
              clear hown12 hgrow12 hat12 hlt12 kS
              go_roundw
              case rel => exact ⟨q + 1, NS + 1, 0, j11, S ++ [s'], T, _, cap, A6, c6, rfl, rfl, by go_num, by omega, by omega, by omega, HL12, HI12, HK12⟩
              case measure => simp [intOf]; omega
            · have HCR := Lib.hid hcr
              clear hcr kS
              go_wp2_with (first
                | (at_builtin; refine wpList_append_lies _ rfl _ _ 27 rfl w.heap.size 9 i9 (.string ⟨#[]⟩) 1 16 Try.underlying27 hi9 hy0 hy1 hy2' rfl (by decide) (.slice A6 NT c6) NT _ rfl (kT.alloc _) ⟨w11.heap.size, 0, none⟩ 1 1 [.string s'] rfl rfl (cell_one_new _ _ _) (by simp [Value.oneCell']) (by omega) (by unfold maxLen; omega) (by omega) (by simp; omega) (w11.heap.size + 1) (by simp) ?_; intro gg cap w12 hown12 hgrow12 hat12 hlt12)
                | (fail "arm"))
              have HI12 := Lib.hid (HI2.out.torn HP11.out (s := s') (by rw [HLS.out.2]; exact hown12) (by rw [HLS.out.2]; exact hgrow12) (by rw [HLS.out.2]; exact hat12) hlt12 HCR.out)
              have HK12 := Lib.hid (fun g (hg : X2 g) => (show w12.heap[g]? = w10.heap[g]? from by
                have h1 := HXL.out g hg
                rw [hgrow12.block g (by simp; omega) (fun e => HI2.out.a2 g (by rw [HLS.out.2]; exact e.symm) hg), Below.heap_alloc _ _ _ h1]
                exact HKK.out g hg))
              have HL12 := Lib.hid (show S.length = NS ∧ (T ++ [s']).length = NT + 1 from ⟨HLS.out.1, by rw [List.length_append, HLS.out.2]; rfl⟩)
              clear hown12 hgrow12 hat12 hlt12 kT
              go_roundw
              case rel => exact ⟨q + 1, NS, NT + 1, j11, S, T ++ [s'], A5, c5, _, cap, rfl, rfl, by go_num, by omega, by omega, by omega, HL12, HI12, HK12⟩
              case measure => simp [intOf]; omega
          · obtain rfl : q = m1 := by omega
            have hJr := HI2.out.jw
            have hcrs := HI2.out.cr
            obtain ⟨E, hre, hEc⟩ : ∃ E : List ByteArray, recs (j.d.crash zs).now = dat (S ++ E) ∧ (E = [] ∨ ∃ t T', T = t :: T' ∧ E = [t]) := by
              rw [Dk.crash_now]
              rcases hcrs.left hJr.side.good zs with h | ⟨t, T', h1, h2⟩
              · exact ⟨[], by rw [h, List.append_nil], .inl rfl⟩
              · exact ⟨[t], h2, .inr ⟨t, T', h1, rfl⟩⟩
            have hsm : AllSm (S ++ E) := by
              rcases hEc with rfl | ⟨t, T', rfl, rfl⟩
              · rw [List.append_nil]; exact hcrs.small.1
              · exact hcrs.small.1.snoc (hcrs.small.2 t List.mem_cons_self)
            obtain ⟨N9, hN9⟩ : ∃ N9, (S ++ E).length = N9 := ⟨_, rfl⟩
            have hN9S : NS ≤ N9 ∧ N9 ≤ NS + 1 := by
              rw [← hN9, List.length_append, HLS.out.1]
              rcases hEc with rfl | ⟨t, T', rfl, rfl⟩
              · exact ⟨Nat.le_refl _, by simp⟩
              · exact ⟨by simp, by simp⟩
            obtain ⟨hN9a, hN9b⟩ := hN9S
            have hjcl : j.d.calls ≤ 50 := by have := hcrs.calls; omega
            obtain ⟨_, _, r2, _, _, rz, rz2⟩ := RC.out wr hJr.bel
            have CR := Lib.hid (hJr.crash (by omega) rz hJr.bel.size rz2)
            have OC := Lib.hid (fun (W : World) (p : Nat) (X : Nat → Prop) (h : Side w W p (j.d.crash zs) X) => open_list h rfl (by show 0 ≤ 90000; omega) (L := S ++ E) hre)
            unfold OpenL at OC
            rw [hN9] at OC
            have HSM := Lib.hid hsm
            have HN9 := Lib.hid hN9
            have HEC := Lib.hid hEc
            have h0c : (j.d.crash zs).calls = 0 := rfl
            clear hsm hN9 hEc hre hJr hcrs hjcl rz rz2 hlw hqm
            go_upto_region 25 with (first
              | (go_at_call 18; ((with_reducible refine CR.out.mono ?_); rintro e W6 ⟨p6, rfl, hS6, hb6⟩))
              | (go_at_call 14; ((with_reducible refine (OC.out W6 p6 _ hS6).mono ?_); rintro e W7 ⟨b9, A9, c9, j9, rfl, hG9, hP9, _, hJ9, hr9⟩))
              | (fail "arm"))
            have s7 : Since wr.heap.size wr W7 := (Since.of hb6 (Nat.le_refl _)).trans (hP9.since (fun g hg => hg))
            have l7 := own_since HI2.out.rs s7 (fun g hg => owns_lt HI2.out.rs g hg)
            have t7 := own_since HI2.out.rt s7 (fun g hg => owns_lt HI2.out.rt g hg)
            rw [HLS.out.1] at l7
            rw [HLS.out.2] at t7
            have hc9 : N9 ≤ c9 := by
              have := (Strs.own hr9).2.cap
              rw [HN9.out] at this; exact this
            obtain ⟨A8, hcut8, hcs8⟩ := cut_strs A9 N9 c9 NS hN9a hc9
            have SM := Lib.hid (show Calls Try.prog 19 #[.slice A8 NS c9, .slice A5 NS c5] W7 (QBool W7 true) from by
              have h1 := (Strs.own l7).2
              have h2 := hcs8 W7 W7.heap.size (S ++ E) HN9.out (Strs.own hr9).2
              rw [List.take_left' HLS.out.1] at h2
              have := same_any (w := W7) W7.heap.size A8 A5 S S c9 c5 (by unfold Strs; rw [HLS.out.1]; exact h2) h1 (by rw [HLS.out.1]; omega) (by rw [HLS.out.1]; omega)
              rw [HLS.out.1, show decide (S = S) = true by simp] at this
              exact this)
            unfold QBool at SM
            have HT7 := Lib.hid t7
            have HR9 := Lib.hid hr9
            have HB9 : Hid (w.heap.size ≤ W6.heap.size) := Lib.hid (by have := hS6.bel.size; omega)
            have HJ9 := Lib.hid hJ9
            have HG9 := Lib.hid hG9
            clear s7 l7 t7 hcs8 hr9 hJ9 hG9 hP9 hS6 hb6 CR OC r2
            go_upto_region 27 with (first
              | (go_at_call 19; ((with_reducible refine SM.out.mono ?_); rintro e W8 ⟨rfl, r8, rfl⟩))
              | (fail "arm"))
            obtain ⟨W8, hW8⟩ : ∃ W8, W7.drewN r8 = W8 := ⟨_, rfl⟩
            have HR8 := Lib.hid (show W8.ownsRow W6.heap.size 9 1 (.slice A9 N9 c9) N9 (strC (S ++ E)) by rw [← hW8]; exact owns_keep HR9.out (fun g hg => rfl))
            have HT8 := Lib.hid (show W8.ownsRow w.heap.size 9 1 (.slice A6 NT c6) NT (strC T) by rw [← hW8]; exact owns_keep HT7.out (fun g hg => rfl))
            have HJ8 := Lib.hid (show Jw w W8 p6 b9 j9 (fun g => (Value.slice A9 N9 c9).ownBlock = some g) by
              rw [← hW8]; exact (HJ9.out.on (Below.drewN_ (Below.refl _ W7) r8)).less (fun g hg => .inr hg))
            rw [hW8]
            clear hW8 SM hcut8 HR9 HT7 HJ9
            have FIN := Lib.hid (fun (qd : Nat) => (show Out w (W8.drewN qd) p6 j9.d (S ++ E) A9 c9 (k + 1) from by
              have hjd := HJ8.out.on (Below.drewN_ (Below.refl _ W8) qd)
              refine ⟨hjd.side.less (fun g hg => .inr (by rw [HN9.out] at hg; exact hg)), ?_, ?_, HG9.out.2.2.1, ?_, HSM.out, ?_⟩
              · rw [HN9.out]
                exact owns_base (owns_keep HR8.out (fun g hg => rfl)) (fun g hg => by have h1 := row_ge HR8.out g hg; have h2 := HB9.out; omega)
              · rw [idle_now HG9.out.1 hjd.side.good, HG9.out.2.1]
              · have := HG9.out.2.2.2; rw [h0c] at this; omega
              · rw [HN9.out]; have := HFW.out; omega))
            have hN60' : N9 ≤ 60 := by have := HFW.out; omega
            rcases HEC.out with hE | ⟨t, T', hT, hE⟩
            · have hNN : N9 = NS := by rw [← HN9.out, hE, List.append_nil]; exact HLS.out.1
              subst hNN
              clear hE
              have n0 : (0 : Int) ≤ (N9 : Int) := Int.natCast_nonneg _
              have dd : decide ((N9 : Int) < (N9 : Int)) = false := by simp
              go_quiet (fail)
              go_wp2
              go_roundw
              case rel => exact ⟨k + 1, p6, j9.d, S ++ E, N9, A9, c9, rfl, rfl, by go_num, by omega, hN60', HN9, Lib.hid (FIN.out _)⟩
              case measure => simp [intOf]; omega
            · have hNN : N9 = NS + 1 := by rw [← HN9.out, hE, List.length_append, HLS.out.1]; rfl
              have hNTp : 1 ≤ NT := by rw [← HLS.out.2, hT]; simp
              have hNTc : NT ≤ c6 := by
                have := (Strs.own HT8.out).2.cap
                rw [HLS.out.2] at this; exact this
              have hn9 : NS < (S ++ E).length := by rw [HN9.out]; omega
              obtain ⟨ad9, rfl, _, hcell9⟩ := (Strs.own HR8.out).2.at_ hn9
              have hn6 : 0 < T.length := by rw [HLS.out.2]; omega
              obtain ⟨ad6, rfl, _, hcell6⟩ := (Strs.own HT8.out).2.at_ hn6
              have e9 : (S ++ E)[NS] = t := by
                have : (S ++ E)[NS]? = some t := by rw [hE, List.getElem?_append_right (by rw [HLS.out.1]; exact Nat.le_refl _), HLS.out.1, Nat.sub_self]; rfl
                exact Option.some.inj ((List.getElem?_eq_getElem hn9).symm.trans this)
              have e6 : T[0] = t := by
                have : T[0]? = some t := by rw [hT]; rfl
                exact Option.some.inj ((List.getElem?_eq_getElem hn6).symm.trans this)
              rw [e9] at hcell9
              rw [e6] at hcell6
              have i1 : (NS : Int) < (N9 : Int) := by omega
              have i2 : ((NT : Int) == 0) = false := by simp; omega
              have i3 : (N9 : Int) = (NS : Int) + 1 := by omega
              have i4 : (0 : Int) < (NT : Int) := by omega
              have d1 : decide ((NS : Int) < (N9 : Int)) = true := by simpa using i1
              have S0 : (0 : Int) ≤ (NS : Int) := Int.natCast_nonneg _
              have i5 : ((N9 : Int) != (NS : Int) + 1) = false := by simp; omega
              have i6 : ((N9 : Int) == (NS : Int) + 1) = true := by simp; omega
              have htt : (t.toList == t.toList) = true := by simp
              clear e9 e6 hE hT hn9 hn6 i1 d1 i3 i5 i6
              subst hNN
              have i7 : (NS : Int) < ((NS + 1 : Nat) : Int) := by omega
              have d1 : decide ((NS : Int) < (NS : Int) + 1) = true := by simp; omega
              have i10 : (NS : Int) < (NS : Int) + 1 := by omega
              have i11 : NS < NS + 1 := Nat.lt_succ_self _
              have i12 : 0 < NT := by omega
              have hcell6' : W8.cell? ad6 = some (.string t) := by have := hcell6; rwa [show ad6.add 0 = ad6 by simp [Addr.add]] at this
              have i9 : IntKind.i64.wrap ((NS : Int) + 1) = (NS : Int) + 1 := by rw [IntKind.wrap_i64]; omega
              have i5 : (((NS : Int) + 1) != ((NS : Int) + 1)) = false := by simp
              go_quiet (fail)
              go_wp2
              go_roundw
              case rel => exact ⟨k + 1, p6, j9.d, S ++ E, NS + 1, _, c9, rfl, rfl, by go_num, by omega, hN60', HN9, Lib.hid (FIN.out _)⟩
              case measure => simp [intOf]; omega
      · obtain rfl : k = m := by omega
        have df : decide (k < k) = false := decide_eq_false hlt
        rw [df]
        have be := Lib.hid HO.out.side.bel
        go_wp2
        go_ret
        exact ⟨by simp, be.out⟩
theorem contract (H : Type) (enc : TypeId × Value → H) (W : World) (base : Nat) (args : Array Value) (ds gs : List (DataW H)) (before : List MemPlace)
    (hval : ∀ (j : Nat) t v, Try.f6.params[j]? = some t → args[j]? = some v → Value.okWide Try.prog W .any base t v)
    (hW : DataW.Whole enc Try.prog Try.f6.params.toList Rows.journalCrashesSpec.vars false W args.toList ds gs before) :
    Calls Try.prog 6 args W fun e W' => ∃ v, e = .returned v ∧ Rows.journalCrashesSpec.post enc Try.prog Try.f6 false true false false W args v W' := by
  have hW' := hW
  obtain ⟨p, q, hA0, hV, rfl, hfz, hnd⟩ := hW
  have hA : DataW.TrodAll enc Try.prog W 0 (fun _ => true) true Try.f6.params.toList args.toList ds p := hA0
  rw [Try.params6] at hA hval
  obtain ⟨v0, vs0, d0, ds0, p0, q0, e0, rfl, rfl, h0, r0⟩ := trodAll_cons hA
  obtain ⟨rfl, rfl, rfl⟩ := trodAll_nil r0
  obtain rfl : args = #[v0] := by cases args; simp_all
  obtain ⟨rfl, rfl⟩ := trodVars_none hV
  obtain ⟨A, us, c, rfl, hR, hl, hc⟩ := open_rounds h0 (hval 0 55 v0 rfl rfl)
  refine (walk A us c W hR hl hc).mono fun e W' ⟨he, hb⟩ => ⟨_, he, law_post rfl rfl ?_ rfl rfl rfl hW' hb⟩
  rw [Try.params6]
  intro t ht
  obtain rfl : t = 55 := by simpa using ht
  exact ⟨by kernel_rfl, of_decide_eq_true (by kernel_rfl)⟩

set_option maxRecDepth 100000 in
theorem lifted (os : Os) (started : os.Started) (H : Type) (enc : TypeId × Value → H) :
    ReturnsInHanded {} Try.checked os 6 .any (Rows.journalCrashesSpec.pre6 enc Try.prog Try.f6 Rows.journalCrashesRow.domain false) (Rows.journalCrashesSpec.post enc Try.prog Try.f6 false true false false) := by
  refine returnsInHanded_of_change (C := Try.checked) ownKnob_none started (by kernel_rfl) Try.func6
    (ChangeSpec.witness6 (enc := enc) (C := Try.checked) false ⟨#[], #[.slice none 0 0], []⟩ 8 (by kernel_rfl) (by kernel_rfl) (by kernel_rfl) (by kernel_rfl)) ?_
  intro W base args ds gs before hval hW _ _
  exact contract H enc W base args ds gs before hval hW

theorem proved : Rows.JournalCrashesSaid :=
  OpenClaim.holds_of_wide 6 Try.f6 rfl rfl rfl rfl rfl rfl rfl ⟨rfl, rfl, rfl, rfl, rfl⟩ rfl rfl rfl rfl rfl (by kernel_rfl) Try.func6 (by kernel_rfl)
    (of_decide_eq_true (by kernel_rfl)) (by unfold Func.isWrapper; first | (rw [if_pos (by decide +kernel)]; kernel_rfl) | (rw [if_neg (by decide +kernel)]; exact ⟨rfl, rfl⟩))
    (fun os started H enc _ => lifted os started H enc)

end Go.Proofs.Ythhpnlobhffimaa.lcrashes
