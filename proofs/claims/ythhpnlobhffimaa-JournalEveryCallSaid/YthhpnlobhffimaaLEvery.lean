/- JournalEveryCall: wherever the power fails while records are appended, and whichever parts survive, Open returns the records that were appended, or one more. For all arguments. -/
import Derived.Test.YthhpnlobhffimaaJKit3
namespace Go.Proofs.Ythhpnlobhffimaa.levery
set_option maxRecDepth 100000
open Go.ChangeShapes Go.WideShapes Go.ChangeAt Go.RowKit

/-- the journal behind k appends, where the power lasts n calls -/
def At (j : Jn) (L : List ByteArray) (n k : Nat) : Prop :=
  j.d.calls ≤ 2 + 4 * k ∧ ((4 * k ≤ n ∧ j.Idle ∧ j.rs = dat (L.take k) ∧ j.d.pw = some (n - 4 * k)) ∨
    (n < 4 * k ∧ j.failed = true ∧ ∀ q : List Int, recs (j.d.left q) = if n % 4 = 3 ∧ surv q 0 = true then dat (L.take (n / 4 + 1)) else dat (L.take (n / 4))))
/-- how many records a crash leaves -/
theorem At.left {j : Jn} {L : List ByteArray} {n : Nat} (h : At j L n L.length) (hn : n ≤ 4 * L.length) (hg : j.d.Good) (q : List Int) : ∃ t, recs (j.d.left q) = dat (L.take t) ∧ t ≤ L.length ∧ n / 4 ≤ t ∧ t ≤ n / 4 + 1 ∧ (n / 4 < t → n % 4 = 3) := by
  rcases h.2 with ⟨h1, h2, h3, h4⟩ | ⟨h1, h2, h3⟩
  · exact ⟨L.length, by rw [h2.left, h2.recs hg, h3], Nat.le_refl _, by omega, by omega, by omega⟩
  · rw [h3 q]
    by_cases hc : n % 4 = 3 ∧ surv q 0 = true
    · rw [if_pos hc]
      exact ⟨n / 4 + 1, rfl, by omega, by omega, by omega, fun _ => hc.1⟩
    · rw [if_neg hc]
      exact ⟨n / 4, rfl, by omega, by omega, by omega, fun h => by omega⟩
/-- what Append is to return -/
def want (n k : Nat) : Int := if n < 4 * (k + 1) then 30 else 0
theorem at_step {w W : World} {p b : Nat} {j : Jn} {X : Nat → Prop} (h : Jw w W p b j X) {L : List ByteArray} {n k : Nat} (ha : At j L n k) (hs : ∀ s ∈ L, s.size ≤ 300) (hk : k < L.length) (hL : L.length ≤ 10) :
    Calls Try.prog 16 #[.pointer (some ⟨b, 0, none⟩), .string L[k]] W fun e W' => e = .returned (.int .i64 (want n k)) ∧ ∃ j', At j' L n (k + 1) ∧ JPost w W p b j' X W' := by
  have hz := hs _ (List.getElem_mem hk)
  obtain ⟨hc, ⟨h1, h2, h3, h4⟩ | ⟨h1, h2, h3⟩⟩ := ha
  · have he : j.e ≤ 2015 * 10 := by
      have hsm : ∀ r ∈ dat (L.take k), r.length ≤ 2000 := fun r hr => Nat.le_trans (small_dat hs k r hr) (by omega)
      have hle : ∀ rs : List (List UInt8), (∀ r ∈ rs, r.length ≤ 2000) → (fl rs).length ≤ 2015 * rs.length := by
        intro rs
        induction rs with
        | nil => intro _; simp [fl]
        | cons r t ih =>
          intro hr
          have a := body_small r 2000 (hr r List.mem_cons_self) (by decide)
          have b := ih fun x hx => hr x (List.mem_cons_of_mem _ hx)
          rw [fl_cons, List.length_append, frame_len, List.length_cons]; omega
      have := hle _ hsm
      unfold Jn.e
      rw [h3]
      rw [dat_len, List.length_take] at this
      omega
    have htl : j.tooLong L[k].data.toList = false := tooLong_small (n := 30000) (by omega) (by rw [data_len]; omega) (by omega)
    by_cases hn : n < 4 * (k + 1)
    · refine (app_bad h h2 h4 (by omega) (by omega) L[k] (by omega) htl).mono ?_
      rintro e W' ⟨he', d', hT, hc', hP⟩
      refine ⟨by rw [he']; unfold want; rw [if_pos hn], _, ⟨by show d'.calls ≤ _; omega, .inr ⟨hn, rfl, fun q => ?_⟩⟩, hP⟩
      show recs (d'.left q) = _
      rw [hT q, h3, show n - 4 * k = n % 4 by omega, show n / 4 = k by omega, dat_take L k hk]
    · refine (app_good h h2 (by rw [h4]; show 4 ≤ n - 4 * k; omega) (by omega) L[k] (by omega) htl).mono ?_
      rintro e W' ⟨he', j', rfl, hi, hp, hcc, hP⟩
      refine ⟨by rw [he']; unfold want; rw [if_neg hn], _, ⟨by omega, .inl ⟨by omega, hi, ?_, ?_⟩⟩, hP⟩
      · show j.rs ++ _ = _
        rw [h3, dat_take L k hk]
      · rw [hp, h4]
        show some (n - 4 * k - 4) = _
        rw [show n - 4 * k - 4 = n - 4 * (k + 1) by omega]
  · refine (app_dead h h2 L[k]).mono ?_
    rintro e W' ⟨he', hP⟩
    exact ⟨by rw [he']; unfold want; rw [if_pos (by omega)], j, ⟨by omega, .inr ⟨by omega, h2, h3⟩⟩, hP⟩

set_option maxRecDepth 100000 in
set_option maxHeartbeats 16000000 in
theorem walk (A : Option Addr) (l : List (Int × Int)) (c : Nat) (P : Option Addr) (zs : List Int) (cp : Nat) (w : World) (hA : Prs w w.heap.size A c l) (hl : l.length ≤ maxLen) (hP : Row w w.heap.size 1 P zs.length cp (intC zs)) (hz : zs.length ≤ maxLen) :
    Calls Try.prog 7 #[.slice A l.length c, .slice P zs.length cp] w (BoolB w true) := by
  have S := Lib.hid (sane_any w)
  have NW := Lib.hid (fun (W : World) (h : Below w.heap.size w W) => new_side h)
  have OP := Lib.hid (fun (W : World) (p : Nat) (X : Nat → Prop) (h : Side w W p Dk.new X) => open_list h rfl (by decide) (L := []) rfl)
  unfold OpenL at OP
  obtain ⟨n, hn⟩ : ∃ n, l.length = n := ⟨_, rfl⟩
  have hcap : n ≤ c := by rw [← hn]; exact hA.1.2.1
  obtain ⟨k, hk, hk1, hk4⟩ : ∃ k : Nat, min (n : Int) 4 = (k : Int) ∧ k ≤ n ∧ k ≤ 4 := ⟨min n 4, by omega, by omega, by omega⟩
  obtain ⟨A', hcut, hcp⟩ := cut_prs A n c k hk1 hcap
  obtain ⟨m, hm⟩ : ∃ m, min k 10 = m := ⟨_, rfl⟩
  have hm4 : m ≤ 4 := by omega
  have RC := Lib.hid (fun (W : World) (hb : Below w.heap.size w W) => records_cut (m0 := m) hn hk1 (hcp W w.heap.size l hn (hA.on hb)) hb.size (by rw [← hn]; exact hl) hm)
  have hl63 : n ≤ 9223372036854775807 := by rw [← hn]; exact hl
  rw [hn]
  obtain ⟨zn, hzn⟩ : ∃ zn, zs.length = zn := ⟨_, rfl⟩
  have RP := Lib.hid (fun (W : World) (hb : Below w.heap.size w W) => Row.below hP hb (Nat.le_refl _))
  have HZ := Lib.hid hz
  rw [hzn] at RP HZ ⊢
  have k0 : (0 : Int) ≤ (k : Int) := Int.natCast_nonneg _
  have k1 : (k : Int) ≤ (n : Int) := by omega
  unfold BoolB at S ⊢
  clear hn hl hA hcp hm hz hP hzn
  go_enter Try.func7, Try.ntmps7
  go_upto_region 4 with (first
    | (go_at_call 12; ((with_reducible refine S.out.mono ?_); rintro e w1 ⟨rfl, hb1⟩))
    | (go_at_call 15; ((with_reducible refine (RC.out w1 hb1).mono ?_); rintro e w2 ⟨L, hL, hsz, A4, c4, rfl, hown, hb2⟩))
    | (fail "arm"))
  have hb02 := Below.then_ hb1 hb2
  have hmc : m ≤ c4 := by
    have := (Strs.own hown).2.cap
    rw [hL] at this; exact this
  have HB2 := Lib.hid hb02
  have HO2 := Lib.hid hown
  have HSZ := Lib.hid hsz
  have HLL := Lib.hid hL
  have HC0 : Hid (Since w2.heap.size w2 w2) := Lib.hid ⟨fun _ _ => rfl, Nat.le_refl _⟩
  clear hb1 hb2 hb02 hown hsz hL S RC hcut
  go_loopw [7, 8, 9, 10, 11, 12, 13, 14, 16, 17, 18, 19, 20] (fun v7 _ _ _ _ _ _ _ _ _ _ _ _ wr => ∃ N : Nat, v7 = .int .i64 (N : Int) ∧ N ≤ 4 * m + 1 ∧ Hid (Since w2.heap.size w2 wr) ∧ Hid (Below w.heap.size w wr)) (fun v7 _ _ _ _ _ _ _ _ _ _ _ _ _ => 4 * m + 1 - (intOf v7).toNat)
  case atStart => exact ⟨0, rfl, by omega, HC0, HB2⟩
  case round =>
    obtain ⟨N, rfl, hN, HSN, HBN⟩ := hrel
    have N0 : (0 : Int) ≤ (N : Int) := Int.natCast_nonneg _
    have m0 : (0 : Int) ≤ (m : Int) := Int.natCast_nonneg _
    by_cases hlt : N ≤ 4 * m
    · have N1 : (N : Int) ≤ 4 * (m : Int) := by omega
      go_upto_region 10 with (first
        | (go_at_call 13; ((with_reducible refine (NW.out wr HBN.out).mono ?_); rintro e w3 ⟨p, rfl, hS3, hb3⟩))
        | (go_at_call 14; ((with_reducible refine (OP.out w3 p _ hS3).mono ?_); rintro e w4 ⟨b, A3, c3, j4, rfl, hG4, hP4, _, _, _⟩))
        | (fail "arm"))
      have FA := Lib.hid (hP4.1.fail (N : Int) ⟨by omega, by omega⟩)
      have s4 : Since wr.heap.size wr w4 := (Since.of hb3 (Nat.le_refl _)).trans (hP4.since (fun g hg => hg))
      have HS4 := Lib.hid s4
      have HG4 := Lib.hid hG4
      clear hS3 hb3 hP4 s4 hG4
      go_upto_region 12 with (go_at_call 21; ((with_reducible refine FA.out.mono ?_); rintro e w5 ⟨rfl, hP5⟩))
      have HA5 : Hid (At ⟨j4.d.fail (N : Int), j4.rs, j4.failed⟩ L N 0) := Lib.hid ⟨by show j4.d.calls ≤ _; have := HG4.out.2.2.2; have h0 : Dk.new.calls = 0 := rfl; omega, .inl ⟨by omega, HG4.out.1.fail _, HG4.out.2.1, by show (if (N : Int) < 0 then none else some (N : Int).toNat) = _; rw [if_neg (by omega)]; rfl⟩⟩
      have HS5 := Lib.hid (HSN.out.trans ((HS4.out.trans (hP5.since (fun g hg => hg))).less (by have := HSN.out.size; omega)))
      have HP5 := Lib.hid (hP5.1.post (Below.refl _ w5))
      clear hP5 FA HG4 HS4
      obtain ⟨wo, rfl⟩ : ∃ wo, wo = wr := ⟨_, rfl⟩
      go_loopw [12, 13, 14, 53] (fun _ _ _ v53 wr => ∃ (q : Nat) (j : Jn), v53 = .int .i64 (q : Int) ∧ q ≤ m ∧ Hid (At j L N q) ∧ Hid (JPost w w5 p b j (fun g => g < wo.heap.size) wr)) (fun _ _ _ v53 _ => m - (intOf v53).toNat)
      case atStart => exact ⟨0, _, rfl, by omega, HA5, HP5⟩
      case round =>
        obtain ⟨q, j, rfl, hq, HAt, HPq⟩ := hrel
        have q0 : (0 : Int) ≤ (q : Int) := Int.natCast_nonneg _
        have HSq := Lib.hid (HS5.out.trans ((HPq.out.since (fun g hg => hg)).less (by have := HSN.out.size; omega)))
        have hlw := own_since HO2.out HSq.out (fun g hg => owns_lt HO2.out g hg)
        by_cases hqm : q < m
        · have q1 : (q : Int) < (m : Int) := by omega
          have hqL : q < L.length := by rw [HLL.out]; exact hqm
          obtain ⟨ad, rfl, _, hcell⟩ := (Strs.own hlw).2.at_ hqL
          have AP := Lib.hid (show Calls Try.prog 16 #[.pointer (some ⟨b, 0, none⟩), .string L[q]] wr fun e W' => e = .returned (.int .i64 (want N q)) ∧ ∃ j', Hid (At j' L N (q + 1)) ∧ JPost w w5 p b j' (fun g => g < wo.heap.size) W' from
            (at_step HPq.out.1 HAt.out HSZ.out hqL (by rw [HLL.out]; omega)).mono fun e W' hx => by
              obtain ⟨he, j', hg, hp⟩ := hx
              exact ⟨he, j', Lib.hid hg, HPq.out.trans hp⟩)
          obtain ⟨s', hs'⟩ : ∃ s', L[q] = s' := ⟨_, rfl⟩
          rw [hs'] at hcell AP
          clear hs' hlw hqL
          by_cases hw : N < 4 * (q + 1)
          · have hw1 : (N : Int) < 4 * ((q : Int) + 1) := by omega
            rw [show want N q = 30 from if_pos hw] at AP
            go_wp2_with (go_at_call 16; ((with_reducible refine AP.out.mono ?_); rintro e w6 ⟨rfl, j6, hg6, hp6⟩))
            have HP6 := Lib.hid hp6
            clear hp6
            go_roundw
            case rel => exact ⟨q + 1, j6, by go_num, by omega, hg6, HP6⟩
            case measure => simp [intOf]; omega
          · have hw1 : 4 * ((q : Int) + 1) ≤ (N : Int) := by omega
            rw [show want N q = 0 from if_neg hw] at AP
            go_wp2_with (go_at_call 16; ((with_reducible refine AP.out.mono ?_); rintro e w6 ⟨rfl, j6, hg6, hp6⟩))
            have HP6 := Lib.hid hp6
            clear hp6
            go_roundw
            case rel => exact ⟨q + 1, j6, by go_num, by omega, hg6, HP6⟩
            case measure => simp [intOf]; omega
        · obtain rfl : q = m := by omega
          have HLF := Lib.hid (fun ql => (HLL.out ▸ HAt.out : At j L N L.length).left (by rw [HLL.out]; exact hlt) HPq.out.1.side.good ql)
          have hcl : j.d.calls ≤ 100000 := by have := HAt.out.1; omega
          obtain ⟨wi, rfl⟩ : ∃ wi, wi = wr := ⟨_, rfl⟩
          have hbw : Below wi.heap.size wi ((wi.alloc (.cells #[.int .i64 1] 3)).alloc (.cells #[.slice P zn cp, .slice none 0 0, .slice (some ⟨wi.heap.size, 0, none⟩) 1 1] 56)) := ((Below.refl _ wi).alloc (Nat.le_refl _) _).alloc (by simp) _
          have hF1 := (Full.new wi 3 [.int .i64 1]).alloc (.cells #[.slice P zn cp, .slice none 0 0, .slice (some ⟨wi.heap.size, 0, none⟩) 1 1] 56)
          have hF3 := Full.new (wi.alloc (.cells #[.int .i64 1] 3)) 56 [.slice P zn cp, .slice none 0 0, .slice (some ⟨wi.heap.size, 0, none⟩) 1 1]
          rw [World.size_alloc] at hF3
          have hSd := (HPq.out.1.side.on hbw).less (Y := fun _ => False) (fun g hg => hg.elim)
          have hl0 := own_keep hlw hbw
          have hs0 : Since w2.heap.size w2 _ := HSq.out.trans (Since.of hbw (by have := HSq.out.size; omega))
          have hb0 : Below w.heap.size w _ := Below.then_ HPq.out.1.bel hbw
          go_upto_region 21 with fail
          obtain ⟨W0, hW0⟩ : ∃ W0, (wi.alloc (.cells #[.int .i64 1] 3)).alloc (.cells #[.slice P zn cp, .slice none 0 0, .slice (some ⟨wi.heap.size, 0, none⟩) 1 1] 56) = W0 := ⟨_, rfl⟩
          obtain ⟨g0, hg0⟩ : ∃ g0, wi.heap.size = g0 := ⟨_, rfl⟩
          change Full ((wi.alloc (.cells #[.int .i64 1] 3)).alloc (.cells #[.slice P zn cp, .slice none 0 0, .slice (some ⟨wi.heap.size, 0, none⟩) 1 1] 56)) _ _ _ at hF3
          rw [hW0] at hF1 hF3 hSd hl0 hs0 hb0 ⊢
          rw [hg0] at hF1 hF3 ⊢
          have HF1 := Lib.hid hF1
          have HF3 := Lib.hid hF3
          have HSd := Lib.hid hSd
          have HL0 := Lib.hid hl0
          have HS0 := Lib.hid hs0
          have HB0 := Lib.hid hb0
          have HR0 : Hid (Since W0.heap.size W0 W0) := Lib.hid ⟨fun _ _ => rfl, Nat.le_refl _⟩
          obtain ⟨F, R, hF, hR, hFR⟩ : ∃ F R : Nat, (N : Int) / 4 = (F : Int) ∧ (N : Int) % 4 = (R : Int) ∧ N / 4 = F ∧ N % 4 = R := ⟨N / 4, N % 4, by omega, by omega, rfl, rfl⟩
          have HFR := Lib.hid hFR
          clear hbw hF1 hF3 hSd hl0 hs0 hb0 hW0 hg0 hlw hqm HPq HAt HSq HS5 HA5 HP5 hFR
          go_loopw [16, 17, 18, 19, 20, 73] (fun _ _ _ _ _ v73 wr => ∃ i : Nat, v73 = .int .i64 (i : Int) ∧ i ≤ 3 ∧ Hid (Since W0.heap.size W0 wr) ∧ Hid (Below w.heap.size w wr)) (fun _ _ _ _ _ v73 _ => 3 - (intOf v73).toNat)
          case atStart => exact ⟨0, rfl, by omega, HR0, HB0⟩
          case round =>
            obtain ⟨i, rfl, hi, HSi, HBi⟩ := hrel
            have i0 : (0 : Int) ≤ (i : Int) := Int.natCast_nonneg _
            by_cases hi3 : i < 3
            · have i1 : (i : Int) < 3 := by omega
              have hF3w : Full wr (g0 + 1) 56 [.slice P zn cp, .slice none 0 0, .slice (some ⟨g0, 0, none⟩) 1 1] := (HSi.out.keep _ HF3.out.lt).trans HF3.out
              obtain ⟨A5, m5, c5, ql, hcell, hrow, hm5⟩ : ∃ A5 m5 c5, ∃ ql : List Int, wr.cell? ⟨g0 + 1, i, none⟩ = some (.slice A5 m5 c5) ∧ Row wr wr.heap.size 1 A5 m5 c5 (intC ql) ∧ m5 ≤ maxLen := by
                obtain rfl | rfl | rfl : i = 0 ∨ i = 1 ∨ i = 2 := by omega
                · exact ⟨P, zn, cp, zs, hF3w.cell 0, (RP.out wr HBi.out).more HBi.out.size, HZ.out⟩
                · exact ⟨none, 0, 0, [], hF3w.cell 1, Row.empty _ _ _, by decide⟩
                · exact ⟨some ⟨g0, 0, none⟩, 1, 1, [1], hF3w.cell 2, (show Full wr g0 3 [.int .i64 1] from (HSi.out.keep _ HF1.out.lt).trans HF1.out).row 1 1 rfl 1 (Nat.le_refl _), by decide⟩
              have CR := Lib.hid ((HSd.out.since HSi.out HBi.out).crash hcl hrow (Nat.le_refl _) hm5)
              obtain ⟨t, ht, ht1, ht2, ht3, ht4⟩ := HLF.out ql
              rw [HFR.out.1] at ht2 ht3 ht4
              rw [HFR.out.2] at ht4
              rw [HLL.out] at ht1
              have htl : (L.take t).length = t := by rw [List.length_take, HLL.out]; omega
              have OC := Lib.hid (fun (W : World) (p : Nat) (X : Nat → Prop) (h : Side w W p (j.d.crash ql) X) => open_list h rfl (by show 0 ≤ 90000; omega) (L := L.take t) ht)
              unfold OpenL at OC
              rw [htl] at OC
              obtain ⟨A'', hcut2, hcs⟩ := cut_strs A4 q c4 t ht1 hmc
              have HCS := Lib.hid hcs
              have HTL := Lib.hid htl
              have hl1 := Lib.hid (own_since HL0.out HSi.out (fun g hg => owns_lt HL0.out g hg))
              clear hcs htl ht hrow hF3w
              go_upto_region 24 with (first
                | (go_at_call 18; ((with_reducible refine CR.out.mono ?_); rintro e W6 ⟨p6, rfl, hS6, hb6⟩))
                | (go_at_call 14; ((with_reducible refine (OC.out W6 p6 _ hS6).mono ?_); rintro e W7 ⟨b7, A7, c7, j7, rfl, _, hP7, _, _, hr7⟩))
                | (fail "arm"))
              have s7 : Since wr.heap.size wr W7 := (Since.of hb6 (Nat.le_refl _)).trans (hP7.since (fun g hg => hg))
              have l7 := own_since hl1.out s7 (fun g hg => owns_lt hl1.out g hg)
              have SM := Lib.hid (show Calls Try.prog 19 #[.slice A7 t c7, .slice A'' t c4] W7 (QBool W7 true) from by
                have h1 := (Strs.own hr7).2
                have h2 := HCS.out W7 W7.heap.size L HLL.out (Strs.own l7).2
                have := same_any (w := W7) W7.heap.size A7 A'' (L.take t) (L.take t) c7 c4 h1 (by unfold Strs; rw [HTL.out]; exact h2) (by rw [HTL.out]; omega) (by rw [HTL.out]; omega)
                rw [HTL.out, show decide (L.take t = L.take t) = true by simp] at this
                exact this)
              unfold QBool at SM
              have HBe := Lib.hid (fun r => Below.drewN_ hP7.1.bel r)
              have HSe := Lib.hid (fun r => (show Since W0.heap.size W0 (W7.drewN r) from ⟨fun g hg => (s7.keep g (by have := HSi.out.size; omega)).trans (HSi.out.keep g hg), Nat.le_trans HSi.out.size s7.size⟩))
              have t0 : (0 : Int) ≤ (t : Int) := Int.natCast_nonneg _
              have t1 : (t : Int) ≤ (q : Int) := by omega
              have t2 : (F : Int) ≤ (t : Int) := by omega
              have t3 : (t : Int) ≤ (F : Int) + 1 := by omega
              clear s7 l7 hr7 hP7 hS6 hb6 CR OC hl1 HCS
              by_cases hft : F < t
              · have t4 : (F : Int) < (t : Int) := by omega
                obtain rfl : R = 3 := ht4 hft
                go_wp2_with (go_at_call 19; ((with_reducible refine SM.out.mono ?_); rintro e w9 ⟨rfl, r9, rfl⟩))
                go_roundw
                case rel => exact ⟨i + 1, by go_num, by omega, Lib.hid (HSe.out r9), Lib.hid (HBe.out r9)⟩
                case measure => simp [intOf]; omega
              · have t4 : (t : Int) ≤ (F : Int) := by omega
                go_wp2_with (go_at_call 19; ((with_reducible refine SM.out.mono ?_); rintro e w9 ⟨rfl, r9, rfl⟩))
                go_roundw
                case rel => exact ⟨i + 1, by go_num, by omega, Lib.hid (HSe.out r9), Lib.hid (HBe.out r9)⟩
                case measure => simp [intOf]; omega
            · obtain rfl : i = 3 := by omega
              rw [show ((3 : Nat) : Int) = 3 from rfl]
              have HSf := Lib.hid (show Since w2.heap.size w2 wr from HS0.out.trans (HSi.out.less HS0.out.size))
              go_wp2
              go_roundw
              case rel => exact ⟨N + 1, by go_num, by omega, HSf, HBi⟩
              case measure => simp [intOf]; omega
    · obtain rfl : N = 4 * m + 1 := by omega
      have N1 : 4 * (m : Int) < ((4 * m + 1 : Nat) : Int) := by omega
      go_wp2
      go_ret
      exact ⟨rfl, HBN.out⟩
theorem contract (H : Type) (enc : TypeId × Value → H) (W : World) (base : Nat) (args : Array Value) (ds gs : List (DataW H)) (before : List MemPlace)
    (hval : ∀ (j : Nat) t v, Try.f7.params[j]? = some t → args[j]? = some v → Value.okWide Try.prog W .any base t v)
    (hW : DataW.Whole enc Try.prog Try.f7.params.toList Rows.journalEveryCallSpec.vars false W args.toList ds gs before) :
    Calls Try.prog 7 args W fun e W' => ∃ v, e = .returned v ∧ Rows.journalEveryCallSpec.post enc Try.prog Try.f7 false true false false W args v W' := by
  have hW' := hW
  obtain ⟨p, q, hA0, hV, rfl, hfz, hnd⟩ := hW
  have hA : DataW.TrodAll enc Try.prog W 0 (fun _ => true) true Try.f7.params.toList args.toList ds p := hA0
  rw [Try.params7] at hA hval
  obtain ⟨v0, vs0, d0, ds0, p0, q0, e0, rfl, rfl, h0, r0⟩ := trodAll_cons hA
  obtain ⟨v1, vs1, d1, ds1, p1, q1, e1, rfl, rfl, h1, r1⟩ := trodAll_cons r0
  obtain ⟨rfl, rfl, rfl⟩ := trodAll_nil r1
  obtain rfl : args = #[v0, v1] := by cases args; simp_all
  obtain ⟨rfl, rfl⟩ := trodVars_none hV
  obtain ⟨A, l, c, rfl, hPr, hl⟩ := open_prs h0 (hval 0 22 v0 rfl rfl)
  obtain ⟨P, zs, cp, rfl, hP, hz⟩ := open_ints h1 (hval 1 56 v1 rfl rfl)
  refine (walk A l c P zs cp W hPr hl hP hz).mono fun e W' ⟨he, hb⟩ => ⟨_, he, law_post rfl rfl ?_ rfl rfl rfl hW' hb⟩
  rw [Try.params7]
  intro t ht
  have ht' : t = 22 ∨ t = 56 := by simpa using ht
  rcases ht' with rfl | rfl <;> exact ⟨by kernel_rfl, of_decide_eq_true (by kernel_rfl)⟩

set_option maxRecDepth 100000 in
theorem lifted (os : Os) (started : os.Started) (H : Type) (enc : TypeId × Value → H) :
    ReturnsInHanded {} Try.checked os 7 .any (Rows.journalEveryCallSpec.pre6 enc Try.prog Try.f7 Rows.journalEveryCallRow.domain false) (Rows.journalEveryCallSpec.post enc Try.prog Try.f7 false true false false) := by
  refine returnsInHanded_of_change (C := Try.checked) ownKnob_none started (by kernel_rfl) Try.func7
    (ChangeSpec.witness6 (enc := enc) (C := Try.checked) false ⟨#[], #[.slice none 0 0, .slice none 0 0], []⟩ 8 (by kernel_rfl) (by kernel_rfl) (by kernel_rfl) (by kernel_rfl)) ?_
  intro W base args ds gs before hval hW _ _
  exact contract H enc W base args ds gs before hval hW

theorem proved : Rows.JournalEveryCallSaid :=
  OpenClaim.holds_of_wide 7 Try.f7 rfl rfl rfl rfl rfl rfl rfl ⟨rfl, rfl, rfl, rfl, rfl⟩ rfl rfl rfl rfl rfl (by kernel_rfl) Try.func7 (by kernel_rfl)
    (of_decide_eq_true (by kernel_rfl)) (by unfold Func.isWrapper; first | (rw [if_pos (by decide +kernel)]; kernel_rfl) | (rw [if_neg (by decide +kernel)]; exact ⟨rfl, rfl⟩))
    (fun os started H enc _ => lifted os started H enc)

end Go.Proofs.Ythhpnlobhffimaa.levery
