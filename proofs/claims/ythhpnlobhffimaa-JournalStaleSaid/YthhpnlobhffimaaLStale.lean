/- JournalStale: a long record whose Append failed leaves nothing behind: shorter records that are appended after the crash are all that is returned. For all arguments. -/
import Derived.Test.YthhpnlobhffimaaJKit3
namespace Go.Proofs.Ythhpnlobhffimaa.lstale
set_option maxRecDepth 100000
open Go.ChangeShapes Go.WideShapes Go.ChangeAt Go.RowKit

set_option maxRecDepth 100000 in
set_option maxHeartbeats 16000000 in
theorem walk (y1 : Int) (A : Option Addr) (l : List (Int × Int)) (c : Nat) (y2 : Int) (w : World) (hy1 : 0 ≤ y1 ∧ y1 ≤ 255) (hA : Prs w w.heap.size A c l) (hl : l.length ≤ maxLen) (hy2 : 0 ≤ y2 ∧ y2 ≤ 255) :
    Calls Try.prog 9 #[.int .u8 y1, .slice A l.length c, .int .u8 y2] w (BoolB w true) := by
  have S := Lib.hid (sane_any w)
  have NW := Lib.hid (fun (W : World) (h : Below w.heap.size w W) => new_side h)
  have OP := Lib.hid (fun (W : World) (p : Nat) (X : Nat → Prop) (h : Side w W p Dk.new X) => open_list h rfl (by decide) (L := []) rfl)
  unfold OpenL at OP
  obtain ⟨n, hn⟩ : ∃ n, l.length = n := ⟨_, rfl⟩
  have hcap : n ≤ c := by rw [← hn]; exact hA.1.2.1
  obtain ⟨k, hk, hk1, hk6⟩ : ∃ k : Nat, min (n : Int) 6 = (k : Int) ∧ k ≤ n ∧ k ≤ 6 := ⟨min n 6, by omega, by omega, by omega⟩
  obtain ⟨A', hcut, hcp⟩ := cut_prs A n c k hk1 hcap
  obtain ⟨m, hm⟩ : ∃ m, min k 10 = m := ⟨_, rfl⟩
  have hm6 : m ≤ 6 := by omega
  have RC := Lib.hid (fun (W : World) (hb : Below w.heap.size w W) => records_cut (m0 := m) hn hk1 (hcp W w.heap.size l hn (hA.on hb)) hb.size (by rw [← hn]; exact hl) hm)
  have B1 := Lib.hid (fun (W : World) => refBody_any ⟨#[115, 116, 97, 108, 101]⟩ W (by show 5 ≤ _; decide))
  unfold StrB at B1
  have z1 : (str (body (⟨#[115, 116, 97, 108, 101]⟩ : ByteArray).data.toList)).size ≤ 19 := by rw [str_size]; exact body_small _ 5 (by decide) (by decide)
  obtain ⟨Y1, hY1⟩ : ∃ Y, str (body (⟨#[115, 116, 97, 108, 101]⟩ : ByteArray).data.toList) = Y := ⟨_, rfl⟩
  rw [hY1] at B1 z1
  have zo : (⟨#[1]⟩ : ByteArray).size = 1 := rfl
  have hl63 : n ≤ 9223372036854775807 := by rw [← hn]; exact hl
  rw [hn]
  obtain ⟨M, hM, hM29⟩ : ∃ M : Nat, y1 % 30 = (M : Int) ∧ M ≤ 29 := ⟨(y1 % 30).toNat, by omega, by omega⟩
  obtain ⟨f, hf, hf2⟩ : ∃ f : Nat, y2 % 3 = (f : Int) ∧ f ≤ 2 := ⟨(y2 % 3).toNat, by omega, by omega⟩
  obtain ⟨h10, h11⟩ := hy1
  obtain ⟨h20, h21⟩ := hy2
  have k0 : (0 : Int) ≤ (k : Int) := Int.natCast_nonneg _
  have k1 : (k : Int) ≤ (n : Int) := by omega
  unfold BoolB at S ⊢
  clear hY1 hn hl hA hcp hm
  go_enter Try.func9, Try.ntmps9
  go_upto_region 4 with (go_at_call 12; ((with_reducible refine S.out.mono ?_); rintro e w1 ⟨rfl, hb1⟩))
  have HB1 := Lib.hid hb1
  clear hb1
  go_loopw [8, 9] (fun v8 v9 wr => ∃ (q : Nat) (T : ByteArray), v8 = .string T ∧ v9 = .int .i64 (q : Int) ∧ q ≤ M ∧ T.size ≤ 20 * q ∧ Hid (Below w.heap.size w wr)) (fun _ v9 _ => M - (intOf v9).toNat)
  case atStart => exact ⟨0, ⟨#[]⟩, rfl, rfl, by omega, by show 0 ≤ _; omega, HB1⟩
  case round =>
    obtain ⟨q, T, rfl, rfl, hq, hT, HBq⟩ := hrel
    have q0 : (0 : Int) ≤ (q : Int) := Int.natCast_nonneg _
    by_cases hlt : q < M
    · have q1 : (q : Int) < (M : Int) := by omega
      go_wp2_with (go_at_call 30; ((with_reducible refine (B1.out _).mono ?_); rintro e w3 ⟨rfl, hb3⟩))
      have HB3 := Lib.hid (Below.then_ HBq.out hb3)
      clear hb3
      go_roundw
      case rel => exact ⟨q + 1, _, rfl, by go_num, by omega, by simp only [ByteArray.size_append]; omega, HB3⟩
      case measure => simp [intOf]; omega
    · obtain rfl : q = M := by omega
      have hT600 : T.size ≤ 600 := by omega
      clear hlt
      go_upto_region 11 with (first
        | (go_at_call 13; ((with_reducible refine (NW.out wr HBq.out).mono ?_); rintro e w2 ⟨p, rfl, hS2, hb2⟩))
        | (go_at_call 14; ((with_reducible refine (OP.out w2 p _ hS2).mono ?_); rintro e w3 ⟨b, A3, c3, j3, rfl, hG3, hP3, hb3, hJ3, hr3⟩))
        | (fail "arm"))
      have FA := Lib.hid (hP3.1.fail (f : Int) ⟨by omega, by omega⟩)
      have hrs3 : j3.rs = [] := hG3.2.1
      have AB := Lib.hid (fun (W : World) (p b : Nat) (X : Nat → Prop) (h : Jw w W p b ⟨j3.d.fail (f : Int), j3.rs, j3.failed⟩ X) => app_bad h (hG3.1.fail (f : Int)) (m := f) (by show (if (f : Int) < 0 then none else some (f : Int).toNat) = some f; rw [if_neg (by omega)]; rfl) (by omega) (by show j3.d.calls ≤ 90000; have := hG3.2.2.2; have h0 : Dk.new.calls = 0 := rfl; omega) T (by omega) (tooLong_small (n := 0) (by show (fl j3.rs).length ≤ 0; rw [hrs3]; exact Nat.le_refl _) (by rw [data_len]; omega) (by omega)))
      unfold AppBad at AB
      have hc3 : j3.d.calls ≤ 2 := by have := hG3.2.2.2; have h0 : Dk.new.calls = 0 := rfl; omega
      clear hS2 hb2 hP3 hJ3 hr3 hb3 NW OP S HB1 B1
      go_upto_region 14 with (first
        | (go_at_call 21; ((with_reducible refine FA.out.mono ?_); rintro e w4 ⟨rfl, hP4⟩; (have hJ4 := hP4.1)))
        | (go_at_call 16; ((with_reducible refine (AB.out w4 p b _ hJ4).mono ?_); rintro e w5 ⟨rfl, d5, hT5, hc5, hP5⟩))
        | (fail "arm"))
      have hc5' : d5.calls ≤ 100000 := by rw [hc5]; show j3.d.calls + f ≤ 100000; omega
      have J6 := hP5.1.on ((Below.refl _ w5).alloc (Nat.le_refl _) (.cells #[.int .i64 1] 3))
      have CR := Lib.hid (J6.crash hc5' (l := [1]) (row_one w5) (Nat.le_refl _) (by decide))
      have rs6 : recs (d5.left [1]) = [] := by rw [hT5 [1], if_neg (by omega)]; exact hrs3
      have HR6 := Lib.hid (show Rest (d5.crash [1]) [] 0 from rs6 ▸ crash_rest d5 [1])
      obtain ⟨d6, hd6⟩ : ∃ d6, d5.crash [1] = d6 := ⟨_, rfl⟩
      rw [hd6] at CR HR6
      clear FA AB hP4 hJ4 hP5 J6 hT5 hc5 hc5' rs6 hd6 hc3 hrs3
      go_upto_region 16 with (go_at_call 18; ((with_reducible refine CR.out.mono ?_); rintro e w7 ⟨p7, rfl, hS7, hb7⟩))
      have RC7 := Lib.hid (RC.out w7 hS7.bel)
      have H00 : Hid (∀ W : World, W.ownsRow w7.heap.size 9 1 (.slice none 0 0) 0 (strC [])) := Lib.hid (fun W => World.ownsRow_nil _ _ _ _)
      clear CR hb7
      go_upto_region 17 with (first
        | (go_at_call 15; ((with_reducible refine RC7.out.mono ?_); rintro e w8 ⟨L, hL, hsz, A4, c4, rfl, hown4, hb8⟩))
        | (at_builtin; refine append_strs rfl _ _ rfl w7.heap.size (.slice none 0 0) 0 (strC []) rfl (H00.out w8) A4 m c4 w8.heap.size L rfl (Strs.own hown4).2 hL (by omega) hb8.size ?_; intro v9 w9 hown9 hg9; (obtain ⟨A9, c9, rfl⟩ := own_form hown9))
        | (fail "arm"))
      have hown9' : w9.ownsRow w7.heap.size 9 1 (.slice A9 m c9) m (strC L) := by
        have := hown9
        rw [Nat.zero_add] at this
        exact this
      have hb9 : Below w7.heap.size w7 w9 := hb8.grown hg9 hb8.size (fun g hg => by simp [Value.ownBlock] at hg)
      obtain ⟨X, hX⟩ : ∃ X : Nat → Prop, (fun g => (Value.slice A9 m c9).ownBlock = some g) = X := ⟨_, rfl⟩
      have hS9 : Side w w9 p7 d6 X := (hS7.plus hb9 (Y := X) (fun g hg => by rw [← hX] at hg; exact ⟨row_ge hown9' g hg, owns_lt hown9' g hg⟩)).less (fun g hg => .inr hg)
      have HX := Lib.hid hX
      have HS9 := Lib.hid hS9
      have HO9 := Lib.hid hown9'
      have HSZ := Lib.hid hsz
      have HLL := Lib.hid hL
      have hmc : m ≤ c9 := by
        have := (Strs.own hown9').2.cap
        rw [hL] at this; exact this
      clear hown9 hown9' hg9 hb9 hS9 hX hS7 hb8 hown4 hsz RC7 RC H00 hL
      go_upto_region 18 with fail
      go_loopw [11, 15, 16, 17, 18] (fun v11 v15 v16 v17 v18 wr => ∃ (q : Nat) (d : Dk), v15 = .int .i64 (q : Int) ∧ q ≤ m + 1 ∧ Hid (Side w wr p7 d X) ∧ Hid (∀ g, X g → wr.heap[g]? = w9.heap[g]?) ∧ Hid (Rest d (dat (L.take q)) (6 * q))) (fun _ v15 _ _ _ _ => m + 1 - (intOf v15).toNat)
      case atStart => exact ⟨0, d6, rfl, by omega, HS9, Lib.hid (fun _ _ => rfl), Lib.hid ⟨HR6.out.ps, HR6.out.pw, HR6.out.calls, HR6.out.rs⟩⟩
      case round =>
        obtain ⟨q, d, rfl, hq, HS, HK, HR⟩ := hrel
        have q0 : (0 : Int) ≤ (q : Int) := Int.natCast_nonneg _
        by_cases hlt : q ≤ m
        · have q1 : (q : Int) ≤ (m : Int) := by omega
          have hLq : (L.take q).length = q := by rw [List.length_take, HLL.out]; omega
          have hcr : d.calls ≤ 1000 := by have := HR.out.calls; omega
          have CR := Lib.hid (HS.out.crash (by omega) (l := []) (Row.empty _ _ _) (Nat.le_refl wr.heap.size) (by decide))
          have O5 := Lib.hid (fun (W : World) (p : Nat) (Y : Nat → Prop) (h : Side w W p (d.crash []) Y) => open_list h rfl (by show 0 ≤ 90000; omega) (L := L.take q) (HR.out.left []))
          unfold OpenL at O5
          rw [hLq] at O5
          have hlw := owns_keep HO9.out (fun g hg => HK.out g (by rw [← HX.out]; exact hg))
          have HLW := Lib.hid hlw
          obtain ⟨A'', hcut2, hcs⟩ := cut_strs A9 m c9 q hlt hmc
          have HCS := Lib.hid hcs
          have HLQ := Lib.hid hLq
          clear hlw hcs hLq
          go_upto_region 21 with (first
            | (go_at_call 18; ((with_reducible refine CR.out.mono ?_); rintro e W5 ⟨p5, rfl, hS5, hb5⟩))
            | (go_at_call 14; ((with_reducible refine (O5.out W5 p5 _ hS5).mono ?_); rintro e W6 ⟨b5, A5, c5, j5, rfl, hG5, hP5, _, hJ5, hr5⟩))
            | (fail "arm"))
          have s6 : Since wr.heap.size wr W6 := (Since.of hb5 (Nat.le_refl _)).trans (hP5.since (fun g hg => hg))
          have HSN := Lib.hid s6
          have l6 := own_since HLW.out s6 (fun g hg => owns_lt HLW.out g hg)
          have SM := Lib.hid (show Calls Try.prog 19 #[.slice A5 q c5, .slice A'' q c9] W6 (QBool W6 true) from by
            have h1 := (Strs.own hr5).2
            have h2 := HCS.out W6 W6.heap.size L HLL.out (Strs.own l6).2
            have := same_any (w := W6) W6.heap.size A5 A'' (L.take q) (L.take q) c5 c9 h1 (by unfold Strs; rw [HLQ.out]; exact h2) (by rw [HLQ.out]; omega) (by rw [HLQ.out]; omega)
            rw [HLQ.out, show decide (L.take q = L.take q) = true by simp] at this
            exact this)
          unfold QBool at SM
          have HS6 := Lib.hid (HS.out.since s6 hP5.1.bel)
          have O7 := Lib.hid (fun r => open_list (HS6.out.on (Below.drewN_ (Below.refl _ W6) r)) HR.out.pw (by omega) (L := L.take q) HR.out.now)
          unfold OpenL at O7
          rw [HLQ.out] at O7
          have HL6 := Lib.hid l6
          clear s6 l6 hr5 hJ5 hP5 hG5 hS5 hb5 CR O5
          go_upto_region 24 with (first
            | (go_at_call 19; ((with_reducible refine SM.out.mono ?_); rintro e W6b ⟨rfl, r6, rfl⟩))
            | (go_at_call 14; ((with_reducible refine (O7.out r6).mono ?_); rintro e W8 ⟨b7, A7, c7, j7, rfl, hG7, hP7, _, _, _⟩))
            | (fail "arm"))
          have HG7 := Lib.hid (show Got j7 (dat (L.take q)) (6 * q + 2) from ⟨hG7.1, hG7.2.1, hG7.2.2.1, by have := hG7.2.2.2; have := HR.out.calls; omega⟩)
          have HP7 := Lib.hid hP7
          have HK8 := Lib.hid (fun g (hg : X g) => (show W8.heap[g]? = w9.heap[g]? from (hP7.2.1 g hg).trans ((HL6.out.2.elim (fun h => by
            have h9 := HX.out
            have hg2 : (Value.slice A9 m c9).ownBlock = some g := by rw [← h9] at hg; exact hg
            rw [h.1] at hg2; simp [Value.ownBlock] at hg2) (fun _ => by
            have h9 := HX.out
            have hg2 : (Value.slice A9 m c9).ownBlock = some g := by rw [← h9] at hg; exact hg
            have hlt2 := owns_lt HLW.out g hg2
            exact (HSN.out.keep g hlt2).trans (HK.out g hg))))))
          have hXin : ∀ g, (Value.slice A9 m c9).ownBlock = some g → X g := fun g hg => by rw [← HX.out]; exact hg
          have hl8 := owns_keep HO9.out (fun g hg => HK8.out g (hXin g hg))
          have hgd7 := hP7.1.side.good
          clear hG7 hP7 O7 SM hXin
          by_cases hqm : q < m
          · have q2 : (q : Int) < (m : Int) := by omega
            have hqL : q < L.length := by rw [HLL.out]; exact hqm
            obtain ⟨ad, rfl, _, hcell⟩ := (Strs.own hl8).2.at_ hqL
            have hz := HSZ.out _ (List.getElem_mem hqL)
            have AP := Lib.hid (show Calls Try.prog 16 #[.pointer (some ⟨b7, 0, none⟩), .string L[q]] W8 fun e W' => e = .returned (.int .i64 0) ∧ ∃ j', Hid (Got j' (dat (L.take (q + 1))) (6 * (q + 1))) ∧ JPost w W8 p7 b7 j' X W' from by
              refine (append_got HP7.out.1 HG7.out (fun r hr => Nat.le_trans (small_dat HSZ.out q r hr) (by omega)) (by rw [dat_len, List.length_take]; omega) (by omega) L[q] (by omega)).mono ?_
              rintro e W' ⟨he, j', hg, hp⟩
              rw [← dat_take L q hqL] at hg
              exact ⟨he, j', Lib.hid hg, hp⟩)
            obtain ⟨s', hs'⟩ : ∃ s', L[q] = s' := ⟨_, rfl⟩
            rw [hs'] at hcell AP
            clear hz hs' hl8 hqL
            go_wp2_with (go_at_call 16; ((with_reducible refine AP.out.mono ?_); rintro e W9 ⟨rfl, j9, hg9, hp9⟩))
            have HP9 := Lib.hid hp9
            clear hp9
            go_roundw
            case rel => exact ⟨q + 1, j9.d, by go_num, by omega, Lib.hid (HP9.out.1.side.less (fun g hg => .inr hg)), Lib.hid (fun g hg => (HP9.out.2.1 g hg).trans (HK8.out g hg)), Lib.hid (hg9.out.rest HP9.out.1.side.good)⟩
            case measure => simp [intOf]; omega
          · obtain rfl : q = m := by omega
            clear hl8
            go_wp2
            have htk : L.take (q + 1) = L.take q := by rw [List.take_of_length_le (by rw [HLL.out]; omega), List.take_of_length_le (by rw [HLL.out]; omega)]
            have HT := Lib.hid htk
            clear htk
            go_roundw
            case rel => exact ⟨q + 1, j7.d, by go_num, by omega, Lib.hid (HP7.out.1.side.less (fun g hg => .inr hg)), HK8, Lib.hid (by
              have hr := HG7.out.rest hgd7
              rw [HT.out]
              exact ⟨hr.ps, hr.pw, by have := hr.calls; omega, hr.rs⟩)⟩
            case measure => simp [intOf]
        · obtain rfl : q = m + 1 := by omega
          have q1 : (m : Int) < ((m + 1 : Nat) : Int) := by omega
          go_wp2
          go_ret
          exact ⟨rfl, HS.out.bel⟩
theorem contract (H : Type) (enc : TypeId × Value → H) (W : World) (base : Nat) (args : Array Value) (ds gs : List (DataW H)) (before : List MemPlace)
    (hval : ∀ (j : Nat) t v, Try.f9.params[j]? = some t → args[j]? = some v → Value.okWide Try.prog W .any base t v)
    (hW : DataW.Whole enc Try.prog Try.f9.params.toList Rows.journalStaleSpec.vars false W args.toList ds gs before) :
    Calls Try.prog 9 args W fun e W' => ∃ v, e = .returned v ∧ Rows.journalStaleSpec.post enc Try.prog Try.f9 false true false false W args v W' := by
  have hW' := hW
  obtain ⟨p, q, hA0, hV, rfl, hfz, hnd⟩ := hW
  have hA : DataW.TrodAll enc Try.prog W 0 (fun _ => true) true Try.f9.params.toList args.toList ds p := hA0
  rw [Try.params9] at hA hval
  obtain ⟨v0, vs0, d0, ds0, p0, q0, e0, rfl, rfl, h0, r0⟩ := trodAll_cons hA
  obtain ⟨v1, vs1, d1, ds1, p1, q1, e1, rfl, rfl, h1, r1⟩ := trodAll_cons r0
  obtain ⟨v2, vs2, d2, ds2, p2, q2, e2, rfl, rfl, h2, r2⟩ := trodAll_cons r1
  obtain ⟨rfl, rfl, rfl⟩ := trodAll_nil r2
  obtain rfl : args = #[v0, v1, v2] := by cases args; simp_all
  obtain ⟨rfl, rfl⟩ := trodVars_none hV
  obtain ⟨x, rfl, _, _, hx⟩ := open_int Try.underlying5 (hval 0 5 v0 rfl rfl) h0
  obtain ⟨A, l, c, rfl, hPr, hl⟩ := open_prs h1 (hval 1 22 v1 rfl rfl)
  obtain ⟨y, rfl, _, _, hy⟩ := open_int Try.underlying5 (hval 2 5 v2 rfl rfl) h2
  refine (walk x A l c y W (bd_u8 hx) hPr hl (bd_u8 hy)).mono fun e W' ⟨he, hb⟩ => ⟨_, he, law_post rfl rfl ?_ rfl rfl rfl hW' hb⟩
  rw [Try.params9]
  intro t ht
  have ht' : t = 5 ∨ t = 22 ∨ t = 5 := by simpa using ht
  rcases ht' with rfl | rfl | rfl <;> exact ⟨by kernel_rfl, of_decide_eq_true (by kernel_rfl)⟩

set_option maxRecDepth 100000 in
theorem lifted (os : Os) (started : os.Started) (H : Type) (enc : TypeId × Value → H) :
    ReturnsInHanded {} Try.checked os 9 .any (Rows.journalStaleSpec.pre6 enc Try.prog Try.f9 Rows.journalStaleRow.domain false) (Rows.journalStaleSpec.post enc Try.prog Try.f9 false true false false) := by
  refine returnsInHanded_of_change (C := Try.checked) ownKnob_none started (by kernel_rfl) Try.func9
    (ChangeSpec.witness6 (enc := enc) (C := Try.checked) false ⟨#[], #[.int .u8 0, .slice none 0 0, .int .u8 0], []⟩ 8 (by kernel_rfl) (by kernel_rfl) (by kernel_rfl) (by kernel_rfl)) ?_
  intro W base args ds gs before hval hW _ _
  exact contract H enc W base args ds gs before hval hW

theorem proved : Rows.JournalStaleSaid :=
  OpenClaim.holds_of_wide 9 Try.f9 rfl rfl rfl rfl rfl rfl rfl ⟨rfl, rfl, rfl, rfl, rfl⟩ rfl rfl rfl rfl rfl (by kernel_rfl) Try.func9 (by kernel_rfl)
    (of_decide_eq_true (by kernel_rfl)) (by unfold Func.isWrapper; first | (rw [if_pos (by decide +kernel)]; kernel_rfl) | (rw [if_neg (by decide +kernel)]; exact ⟨rfl, rfl⟩))
    (fun os started H enc _ => lifted os started H enc)

end Go.Proofs.Ythhpnlobhffimaa.lstale
