/- JournalBack: records that were appended are returned when the disk is opened again, and after a crash that loses all that was not synced. For all arguments. -/
import Derived.Test.YthhpnlobhffimaaJKit2
import Derived.Deep.CutRange
import Derived.Deep.RegionLaw
namespace Go.Proofs.Ythhpnlobhffimaa.lback
set_option maxRecDepth 100000
open Go.ChangeShapes Go.WideShapes Go.ChangeAt Go.RowKit

set_option maxRecDepth 100000 in
set_option maxHeartbeats 16000000 in
theorem walk (A : Option Addr) (l : List (Int × Int)) (c : Nat) (s : ByteArray) (w : World) (hA : Prs w w.heap.size A c l) (hl : l.length ≤ maxLen) (hs : s.size ≤ maxLen) :
    Calls Try.prog 3 #[.slice A l.length c, .string s] w (BoolB w true) := by
  have S := Lib.hid (sane_any w)
  have NW := Lib.hid (fun (W : World) (h : Below w.heap.size w W) => new_side h)
  have OP := Lib.hid (fun (W : World) (p : Nat) (X : Nat → Prop) (h : Side w W p Dk.new X) => open_list h rfl (by decide) (L := []) rfl)
  unfold OpenL at OP
  have RC := Lib.hid (fun (W : World) (hb : Below w.heap.size w W) => records_any W A l c (hA.on hb) hb.size hl)
  unfold SmallL StrsOut at RC
  have RC2 := Lib.hid (fun (W : World) (hb : Below w.heap.size w W) (m0 : Nat) (hm0 : min l.length 10 = m0) => (show Calls Try.prog 15 #[.slice A l.length c] W fun e W' => ∃ L : List ByteArray, L.length = m0 ∧ (∀ s ∈ L, s.size ≤ 300) ∧ ∃ A4 c4, e = .returned (.slice A4 m0 c4) ∧ W'.ownsRow W.heap.size 9 1 (.slice A4 m0 c4) m0 (strC L) ∧ Below W.heap.size W W' from (RC.out W hb).mono fun e W' hx => by
    obtain ⟨L, h1, h2, A4, c4, he, ho, hbb⟩ := hx
    rw [hm0] at h1
    subst h1
    exact ⟨L, rfl, h2, A4, c4, he, ho, hbb⟩))
  obtain ⟨n, hn⟩ : ∃ n, l.length = n := ⟨_, rfl⟩
  rw [hn] at RC2 ⊢
  obtain ⟨m0, hm0, hm10⟩ : ∃ m0, min n 10 = m0 ∧ m0 ≤ 10 := ⟨_, rfl, by omega⟩
  have HM0 := Lib.hid hm0
  unfold maxLen at hs
  obtain ⟨k, hk, hk1, hk2⟩ : ∃ k : Nat, min (s.size : Int) 2000 = (k : Int) ∧ k ≤ s.size ∧ k ≤ 2000 := ⟨min s.size 2000, by omega, by omega, by omega⟩
  obtain ⟨T, hT⟩ : ∃ T, s.extract 0 k = T := ⟨_, rfl⟩
  have hTs : T.size ≤ 2000 := by rw [← hT, ByteArray.size_extract]; omega
  have HT := Lib.hid hTs
  have k0 : (0 : Int) ≤ (k : Int) := Int.natCast_nonneg _
  have k1 : (k : Int) ≤ (s.size : Int) := by omega
  obtain ⟨i0, hi, hz0, hz1, hz2⟩ := info_parts info9
  unfold BoolB at S ⊢
  clear hn hl hA hTs hm0 RC
  go_enter Try.func3, Try.ntmps3
  go_upto_region 6 with (first
    | (go_at_call 12; ((with_reducible refine S.out.mono ?_); rintro e w1 ⟨rfl, hb1⟩))
    | (go_at_call 13; ((with_reducible refine (NW.out w1 hb1).mono ?_); rintro e w2 ⟨p, rfl, hS2, hb2⟩))
    | (go_at_call 14; ((with_reducible refine (OP.out w2 p _ hS2).mono ?_); rintro e w3 ⟨b, A3, c3, j3, rfl, hG3, hP3, hb3, hJ3, hr3⟩))
    | (fail "arm"))
  have hJ := hP3.1
  have HJ3 := Lib.hid hJ
  have HG3 := Lib.hid hG3
  have RD1 := Lib.hid (RC2.out w3.drew (Below.drewN_ hJ.bel 1) m0 HM0.out)
  have RD2 := Lib.hid (RC2.out (w3.alloc (.cells #[.string T] 9)).drew (Below.drewN_ (hJ.bel.alloc hJ.bel.size _) 1) m0 HM0.out)
  clear hS2 hP3 hJ3 hr3 hb3 hb1 hb2 OP NW S RC2 hG3 hJ
  go_cut [10] from 37 to 45 (fun v10 wx => ∃ A4 c4 m, ∃ L : List ByteArray, v10 = .slice A4 m c4 ∧ L.length = m ∧ Hid (wx.ownsRow w3.heap.size 9 1 (.slice A4 m c4) m (strC L) ∧ (∀ s ∈ L, s.size ≤ 2000) ∧ Below w3.heap.size w3 wx) ∧ m ≤ 11)
  case first =>
    have e3 : w3.drew.heap.size = w3.heap.size := rfl
    have FT := Lib.hid (show Full (w3.alloc (.cells #[.string T] 9)).drew w3.heap.size 9 [.string T] from (Full.new w3 9 [.string T]).drew)
    go_region_law
      (first
        | ((with_reducible show @ite _ (Region.wanted _ _ = true) _ (Oper.wp _ _ _ (World.drew w3) _ _) _); (refine step_call_fn rfl 15 _ _ rfl #[.slice A n c] (by rfl) (enters_of Try.func15 (by kernel_rfl) rfl) RD1.out ?_; rintro e w4 ⟨L, hL, hsz, A4, c4, rfl, own4, hb4⟩; refine ⟨_, rfl, ?_⟩))
        | ((with_reducible show @ite _ (Region.wanted _ _ = true) _ (Oper.wp _ _ _ (World.drew (World.alloc w3 _)) _ _) _); (refine step_call_fn rfl 15 _ _ rfl #[.slice A n c] (by rfl) (enters_of Try.func15 (by kernel_rfl) rfl) RD2.out ?_; rintro e w4 ⟨L, hL, hsz, A4, c4, rfl, own4, hb4⟩; refine ⟨_, rfl, ?_⟩; (have hN4 := FT.out.on hb4)))
        | ((with_reducible show @ite _ (Region.wanted _ _ = true) _ (Oper.wp _ _ _ (World.alloc w4 _) _ _) _); (refine step_append_lies _ (by rfl) _ _ _ (by rfl) w3.heap.size 9 i0 _ 1 16 Try.underlying27 hi hz0 hz1 hz2 rfl (by omega) (.slice A4 m0 c4) m0 _ (by rfl) (own4.alloc (.cells #[.string T] 9)) ⟨w4.heap.size, 0, none⟩ 1 1 [.string T] (by rfl) (by rfl) (World.news_of_block (cs := #[.string T]) (t := 9) (fr := (0, 0)) (heap_alloc_new w4 _)) (by simp [Value.oneCell']) (by omega) (by unfold maxLen; omega) (by omega) (by have := hb4.size; simp; omega) (w4.heap.size + 1) (by simp) ?_; intro gg cap w5 hown5 hgrow5 hat5 hlt5))
        | ((with_reducible show @ite _ (Region.wanted _ _ = true) _ (Oper.wp _ _ _ w4 _ _) _); (refine step_append_lies _ (by rfl) _ _ _ (by rfl) w3.heap.size 9 i0 _ 1 16 Try.underlying27 hi hz0 hz1 hz2 rfl (by omega) (.slice A4 m0 c4) m0 _ (by rfl) (owns_base own4 (fun g hg => by have h1 := row_ge own4 g hg; have h2 : (w3.alloc (.cells #[.string T] 9)).drew.heap.size = w3.heap.size + 1 := World.size_alloc _ _; omega)) ⟨w3.heap.size, 0, none⟩ 1 1 [.string T] (by rfl) (by rfl) (World.news_of_block (cs := #[.string T]) (t := 9) (fr := (0, 0)) hN4) (by simp [Value.oneCell']) (by omega) (by unfold maxLen; omega) (by omega) (by have h1 := hb4.size; have h2 : (w3.alloc (.cells #[.string T] 9)).drew.heap.size = w3.heap.size + 1 := World.size_alloc _ _; omega) w4.heap.size rfl ?_; intro gg cap w5 hown5 hgrow5 hat5 hlt5))
        | (fail "arm"))
    all_goals (go_wp2_with fail; go_meet)
    all_goals
      have hsm : ∀ s' ∈ L ++ [T], s'.size ≤ 2000 := fun s' hs' => by
        rcases List.mem_append.1 hs' with h | h
        · have := hsz s' h; omega
        · simp at h; subst h; exact HT.out
      have hln : (L ++ [T]).length = m0 + 1 := by rw [List.length_append, hL]; rfl
    all_goals
      first
        | (refine ⟨_, _, _, L ++ [T], rfl, hln, Lib.hid ⟨by rw [strC_snoc]; exact hown5, hsm, ?_⟩, by omega⟩
           have hbA : Below w3.heap.size w3 w4 := ⟨hb4.os, hb4.tape, hb4.output, hb4.size, hb4.block⟩
           exact (hbA.alloc hbA.size (.cells #[.string T] 9)).grown hgrow5 (by have := hbA.size; simp; omega) (fun g hg => row_ge own4 g hg))
        | (refine ⟨_, _, _, L ++ [T], rfl, hln, Lib.hid ⟨by rw [strC_snoc]; exact hown5, hsm, ?_⟩, by omega⟩
           have hbB : Below w3.heap.size w3 w4 := Below.then_ ((Below.refl _ w3).alloc (Nat.le_refl _) (.cells #[.string T] 9)) ⟨hb4.os, hb4.tape, hb4.output, hb4.size, hb4.block⟩
           exact hbB.grown hgrow5 hbB.size (fun g hg => by have h1 := row_ge own4 g hg; have h2 : (w3.alloc (.cells #[.string T] 9)).drew.heap.size = w3.heap.size + 1 := World.size_alloc _ _; omega))
  case rest =>
    obtain ⟨A4, c4, m, L, rfl, hLm, HR, hm⟩ := hcut
    obtain ⟨X, hX⟩ : ∃ X : Nat → Prop, (fun g => g < w1.heap.size ∨ (Value.slice A4 m c4).ownBlock = some g) = X := ⟨_, rfl⟩
    have hJ4 : Jw w wc p b j3 X := by
      rw [← hX]
      exact HJ3.out.plus HR.out.2.2 (fun g hg => ⟨row_ge HR.out.1 g hg, owns_lt HR.out.1 g hg⟩)
    have hXr : ∀ g, (Value.slice A4 m c4).ownBlock = some g → X g := fun g hg => by rw [← hX]; exact .inr hg
    have HP0 := Lib.hid (hJ4.post (Below.refl _ wc))
    have HG0 : Hid (Got j3 (dat (L.take 0)) 10) := Lib.hid ⟨HG3.out.1, HG3.out.2.1, HG3.out.2.2.1, by have := HG3.out.2.2.2; have h0 : Dk.new.calls = 0 := rfl; omega⟩
    have HXR := Lib.hid hXr
    have HLM := Lib.hid hLm
    clear hJ4 hXr hX HT HM0 RD1 RD2 hT hk hk1 hk2 k0 k1 HG3 HJ3 hLm
    go_upto_region 8 with fail
    go_loopw [48] (fun v48 wr => ∃ (q : Nat) (j : Jn), v48 = .int .i64 (q : Int) ∧ q ≤ m ∧ Hid (JPost w wc p b j X wr) ∧ Hid (Got j (dat (L.take q)) (10 + 4 * q))) (fun v48 _ => m - (intOf v48).toNat)
    case atStart => exact ⟨0, j3, rfl, Nat.zero_le _, HP0, HG0⟩
    case round =>
      obtain ⟨q, j, rfl, hq, HP, HG⟩ := hrel
      have q0 : (0 : Int) ≤ (q : Int) := Int.natCast_nonneg _
      have hrw := owns_keep HR.out.1 (fun g hg => HP.out.2.1 g (HXR.out g hg))
      by_cases hlt : q < m
      · have q1 : (q : Int) < (m : Int) := by omega
        have hqL : q < L.length := by rw [HLM.out]; exact hlt
        obtain ⟨ad, rfl, _, hcell⟩ := (Strs.own hrw).2.at_ hqL
        have hsz := HR.out.2.1 _ (List.getElem_mem hqL)
        have hmc : m ≤ c4 := by
          have := (Strs.own hrw).2.cap
          rw [HLM.out] at this; exact this
        have AP := Lib.hid (show Calls Try.prog 16 #[.pointer (some ⟨b, 0, none⟩), .string L[q]] wr fun e W' => e = .returned (.int .i64 0) ∧ ∃ j', Hid (Got j' (dat (L.take (q + 1))) (10 + 4 * (q + 1))) ∧ JPost w wc p b j' X W' from by
          have hrs : ∀ r ∈ dat (L.take q), r.length ≤ 2000 := fun r hr => by
            unfold dat at hr
            obtain ⟨s', hs', rfl⟩ := List.mem_map.1 hr
            have := HR.out.2.1 s' (List.mem_of_mem_take hs')
            rw [data_len]; exact this
          refine (append_got HP.out.1 HG.out hrs (by rw [dat_len, List.length_take]; omega) (by omega) L[q] hsz).mono ?_
          rintro e W' ⟨he, j', hg, hp⟩
          rw [← dat_take L q hqL] at hg
          exact ⟨he, j', Lib.hid hg, HP.out.trans hp⟩)
        have MA := Lib.hid (fun (W' : World) (j' : Jn) (hg : Hid (Got j' (dat (L.take (q + 1))) (10 + 4 * (q + 1)))) (hp : JPost w wc p b j' X W') => (show Calls Try.prog 17 #[.pointer (some ⟨b, 0, none⟩)] W' fun e w' => e = .returned (.int .i64 ((q : Int) + 1)) ∧ W' = w' from by
          have := many_any hp.1
          rw [hg.out.rs, dat_len, List.length_take, show min (q + 1) L.length = q + 1 by omega] at this
          exact this))
        obtain ⟨s', hs'⟩ : ∃ s', L[q] = s' := ⟨_, rfl⟩
        rw [hs'] at hcell AP
        clear hsz hrw hs' hqL
        go_wp2_with (first
          | (go_at_call 16; ((with_reducible refine AP.out.mono ?_); rintro e w5 ⟨rfl, j5, hg5, hp5⟩))
          | (go_at_call 17; ((with_reducible refine (MA.out w5 j5 hg5 hp5).mono ?_); rintro e w6 ⟨rfl, rfl⟩))
          | (fail "arm"))
        have HP5 := Lib.hid hp5
        clear hp5
        go_roundw
        case rel => exact ⟨q + 1, j5, by go_num, by omega, HP5, hg5⟩
        case measure => simp [intOf]; omega
      · obtain rfl : q = m := by omega
        have hG : Got j (dat L) (10 + 4 * q) := by
          have := HG.out
          rwa [List.take_of_length_le (by rw [HLM.out]; exact Nat.le_refl _)] at this
        have hJ := HP.out.1
        have hgood := hJ.side.good
        have O1 := Lib.hid (open_list hJ.side hG.pw (by have := hG.calls; omega) (L := L) (by rw [idle_now hG.idle hgood, hG.rs]))
        unfold OpenL at O1
        rw [HLM.out] at O1
        have HRW := Lib.hid hrw
        clear hrw hG hJ hgood hlt
        go_upto_region 14 with (go_at_call 14; ((with_reducible refine O1.out.mono ?_); rintro e W5 ⟨b5, A5, c5, j5, rfl, hG5, hP5, _, hJ5, hr5⟩))
        have hl5 := owns_keep HRW.out (fun g hg => hP5.2.1 g (.inr (HXR.out g hg)))
        have hc5 : j5.d.calls ≤ 80000 := by have := hG5.2.2.2; have := HG.out.calls; omega
        have CR := Lib.hid (hJ5.crash (by omega) (l := []) (Row.empty _ _ _) (Nat.le_refl W5.heap.size) (by decide))
        have hre : recs (j5.d.crash []).now = dat L := by rw [Dk.crash_now, hG5.1.left, hG5.1.recs hJ5.side.good, hG5.2.1]
        have O2 := Lib.hid (fun (W : World) (p : Nat) (X : Nat → Prop) (h : Side w W p (j5.d.crash []) X) => open_list h rfl (by show 0 ≤ 90000; omega) (L := L) hre)
        unfold OpenL at O2
        rw [HLM.out] at O2
        have HL5 := Lib.hid hl5
        have HR5 := Lib.hid hr5
        clear hl5 hr5 O1 hG5 hP5 hJ5 hre
        go_upto_region 16 with (first
          | (go_at_call 18; ((with_reducible refine CR.out.mono ?_); rintro e W6 ⟨p6, rfl, hS6, hb6⟩))
          | (go_at_call 14; ((with_reducible refine (O2.out W6 p6 _ hS6).mono ?_); rintro e W7 ⟨b7, A7, c7, j7, rfl, hG7, hP7, _, hJ7, hr7⟩))
          | (fail "arm"))
        have O3 := Lib.hid (open_list hJ7.side hG7.2.2.1 (by have := hG7.2.2.2; have h0 : (j5.d.crash []).calls = 0 := rfl; omega) (L := L) (by rw [idle_now hG7.1 hJ7.side.good, hG7.2.1]))
        unfold OpenL at O3
        rw [HLM.out] at O3
        have s7 : Since W5.heap.size W6 W7 := hP7.since (fun g hg => hg)
        have l7 := Lib.hid (own_since (own_keep HL5.out hb6) s7 (fun g hg => owns_lt HL5.out g hg))
        have a7 := Lib.hid (own_since (own_keep HR5.out hb6) s7 (fun g hg => owns_lt HR5.out g hg))
        have HR7 := Lib.hid hr7
        clear CR O2 hS6 hb6 hG7 hP7 hJ7 hr7 s7
        go_upto_region 17 with (go_at_call 14; ((with_reducible refine O3.out.mono ?_); rintro e W8 ⟨b8, A8, c8, j8, rfl, hG8, hP8, _, _, hr8⟩))
        have l8 := owns_keep l7.out (fun g hg => hP8.2.1 g (.inr (.inl (owns_lt HL5.out g hg))))
        have a8 := owns_keep a7.out (fun g hg => hP8.2.1 g (.inr (.inl (owns_lt HR5.out g hg))))
        have x8 := owns_keep HR7.out (fun g hg => hP8.2.1 g (.inr (.inr hg)))
        have SA := Lib.hid (fun (A' : Option Addr) (c' : Nat) (B' : Nat) (ha : W8.ownsRow B' 9 1 (.slice A' q c') q (strC L)) (W : World) (hW : W.heap = W8.heap) => (show Calls Try.prog 19 #[.slice A' q c', .slice A4 q c4] W (QBool W true) from by
          have := same_rows (W := W) (owns_keep ha (fun g _ => by rw [hW])) (owns_keep l8 (fun g _ => by rw [hW])) (by omega) (by omega)
          rwa [show decide (L = L) = true by simp] at this))
        unfold QBool at SA
        have S1 := Lib.hid (SA.out A5 c5 _ a8)
        have S2 := Lib.hid (SA.out A7 c7 _ x8)
        have S3 := Lib.hid (SA.out A8 c8 _ hr8)
        have MN := Lib.hid (fun r => (show Calls Try.prog 17 #[.pointer (some ⟨b8, 0, none⟩)] (W8.drewN r) fun e w' => e = .returned (.int .i64 (q : Int)) ∧ W8.drewN r = w' from by
          have := many_any (hP8.1.on (Below.drewN_ (Below.refl _ W8) r))
          rw [hG8.2.1, dat_len, HLM.out] at this
          exact this))
        have HBE := Lib.hid (fun r => Below.drewN_ hP8.1.bel r)
        clear SA l8 a8 x8 hr8 hG8 hP8 O3
        go_wp2_with (first
          | (go_at_call 19; ((with_reducible refine (S1.out W8 rfl).mono ?_); rintro e w9 ⟨rfl, q1, rfl⟩))
          | (go_at_call 19; ((with_reducible refine (S2.out (W8.drewN q1) rfl).mono ?_); rintro e w10 ⟨rfl, q2, rfl⟩))
          | (go_at_call 19; ((with_reducible refine (S3.out (W8.drewN (q1 + q2)) rfl).mono ?_); rintro e w11 ⟨rfl, q3, rfl⟩))
          | (go_at_call 17; ((with_reducible refine (MN.out (q1 + q2 + q3)).mono ?_); rintro e w12 ⟨rfl, rfl⟩))
          | (fail "arm"))
        go_ret
        exact ⟨by simp, HBE.out _⟩

theorem contract (H : Type) (enc : TypeId × Value → H) (W : World) (base : Nat) (args : Array Value) (ds gs : List (DataW H)) (before : List MemPlace)
    (hval : ∀ (j : Nat) t v, Try.f3.params[j]? = some t → args[j]? = some v → Value.okWide Try.prog W .any base t v)
    (hW : DataW.Whole enc Try.prog Try.f3.params.toList Rows.journalBackSpec.vars false W args.toList ds gs before) :
    Calls Try.prog 3 args W fun e W' => ∃ v, e = .returned v ∧ Rows.journalBackSpec.post enc Try.prog Try.f3 false true false false W args v W' := by
  have hW' := hW
  obtain ⟨p, q, hA0, hV, rfl, hfz, hnd⟩ := hW
  have hA : DataW.TrodAll enc Try.prog W 0 (fun _ => true) true Try.f3.params.toList args.toList ds p := hA0
  rw [Try.params3] at hA hval
  obtain ⟨v0, vs0, d0, ds0, p0, q0, e0, rfl, rfl, h0, r0⟩ := trodAll_cons hA
  obtain ⟨v1, vs1, d1, ds1, p1, q1, e1, rfl, rfl, h1, r1⟩ := trodAll_cons r0
  obtain ⟨rfl, rfl, rfl⟩ := trodAll_nil r1
  obtain rfl : args = #[v0, v1] := by cases args; simp_all
  obtain ⟨rfl, rfl⟩ := trodVars_none hV
  obtain ⟨A, l, c, rfl, hPr, hl⟩ := open_prs h0 (hval 0 22 v0 rfl rfl)
  obtain ⟨s, rfl, rfl, rfl, hs⟩ := Go.ChangeMaps.open_string Try.underlying9 (hval 1 9 v1 rfl rfl) h1
  refine (walk A l c s W hPr hl hs).mono fun e W' ⟨he, hb⟩ => ⟨_, he, law_post rfl rfl ?_ rfl rfl rfl hW' hb⟩
  rw [Try.params3]
  intro t ht
  have ht' : t = 22 ∨ t = 9 := by simpa using ht
  rcases ht' with rfl | rfl <;> exact ⟨by kernel_rfl, of_decide_eq_true (by kernel_rfl)⟩

set_option maxRecDepth 100000 in
theorem lifted (os : Os) (started : os.Started) (H : Type) (enc : TypeId × Value → H) :
    ReturnsInHanded {} Try.checked os 3 .any (Rows.journalBackSpec.pre6 enc Try.prog Try.f3 Rows.journalBackRow.domain false) (Rows.journalBackSpec.post enc Try.prog Try.f3 false true false false) := by
  refine returnsInHanded_of_change (C := Try.checked) ownKnob_none started (by kernel_rfl) Try.func3
    (ChangeSpec.witness6 (enc := enc) (C := Try.checked) false ⟨#[], #[.slice none 0 0, .string .empty], []⟩ 8 (by kernel_rfl) (by kernel_rfl) (by kernel_rfl) (by kernel_rfl)) ?_
  intro W base args ds gs before hval hW _ _
  exact contract H enc W base args ds gs before hval hW

theorem proved : Rows.JournalBackSaid :=
  OpenClaim.holds_of_wide 3 Try.f3 rfl rfl rfl rfl rfl rfl rfl ⟨rfl, rfl, rfl, rfl, rfl⟩ rfl rfl rfl rfl rfl (by kernel_rfl) Try.func3 (by kernel_rfl)
    (of_decide_eq_true (by kernel_rfl)) (by unfold Func.isWrapper; first | (rw [if_pos (by decide +kernel)]; kernel_rfl) | (rw [if_neg (by decide +kernel)]; exact ⟨rfl, rfl⟩))
    (fun os started H enc _ => lifted os started H enc)

end Go.Proofs.Ythhpnlobhffimaa.lback
