/- JournalAfter: after a power failure, a new journal on the crashed disk goes on behind what Open returned. For all arguments. -/
import Derived.Test.YthhpnlobhffimaaJKit4
namespace Go.Proofs.Ythhpnlobhffimaa.lafter
set_option maxRecDepth 100000
open Go.ChangeShapes Go.WideShapes Go.ChangeAt Go.RowKit Go.Maps

theorem open_pair8 {H : Type} {enc : TypeId × Value → H} {W : World} {b1 b2 : Nat} {sp : Nat → Bool} {held : Bool} {v : Value} {d : DataW H} {p : List MemPlace}
    (hval : Value.okWide Try.prog W .any b1 62 v) (h : DataW.Trod enc Try.prog W b2 sp held 62 v d p) :
    ∃ a b : Int, v = .agg #[.int .u8 a, .int .u8 b] ∧ (0 ≤ a ∧ a ≤ 255) ∧ (0 ≤ b ∧ b ≤ 255) := by
  have hc62 : Try.prog.cellsOf 62 = 2 := by kernel_rfl
  have hc5 : Try.prog.cellsOf 5 = 1 := by kernel_rfl
  simp only [Value.okWide, Try.underlying62] at hval
  obtain ⟨cs, rfl, hsz, _⟩ := hval
  obtain ⟨c0, c1, rfl⟩ := Joins.array2 (hsz.trans hc62)
  obtain ⟨fuel, hf⟩ := h
  obtain ⟨xs, m, rfl, _, _, hxl, hat⟩ := DataW.trod_array Try.underlying62 hf
  rw [hc5] at hat
  have h0 := hat 0 (by omega)
  have h1 := hat 1 (by omega)
  rw [List.getElem?_eq_getElem (by omega)] at h0 h1
  obtain ⟨a, ea, _, wa⟩ := DataW.trod_int (k := .u8) Try.underlying5 h0
  obtain ⟨b, eb, _, wb⟩ := DataW.trod_int (k := .u8) Try.underlying5 h1
  have ea' : c0 = .int .u8 a := by simpa [Value.cells] using ea
  have eb' : c1 = .int .u8 b := by simpa [Value.cells] using eb
  subst ea' eb'
  exact ⟨a, b, rfl, bd_u8 wa, bd_u8 wb⟩

set_option maxRecDepth 100000 in
set_option maxHeartbeats 16000000 in
theorem walk (A : Option Addr) (l : List (Int × Int)) (c : Nat) (A2 : Option Addr) (l2 : List (Int × Int)) (c2 : Nat) (y1 y2 : Int) (w : World) (hA : Prs w w.heap.size A c l) (hl : l.length ≤ maxLen) (hA2 : Prs w w.heap.size A2 c2 l2) (hl2 : l2.length ≤ maxLen) (hy1 : 0 ≤ y1 ∧ y1 ≤ 255) (hy2 : 0 ≤ y2 ∧ y2 ≤ 255) :
    Calls Try.prog 8 #[.slice A l.length c, .slice A2 l2.length c2, .agg #[.int .u8 y1, .int .u8 y2]] w (BoolB w true) := by
  obtain ⟨wB, hwB⟩ : ∃ wB, w.alloc (.cells #[.int .u8 y1, .int .u8 y2] 62) = wB := ⟨_, rfl⟩
  have hbB : Below w.heap.size w wB := by rw [← hwB]; exact (Below.refl _ w).alloc (Nat.le_refl _) _
  have FB : Full wB w.heap.size 62 [.int .u8 y1, .int .u8 y2] := by rw [← hwB]; exact Full.new w 62 _
  have S := Lib.hid (sane_any wB)
  have NW := Lib.hid (fun (W : World) (h : Below wB.heap.size wB W) => new_side h)
  have OP := Lib.hid (fun (W : World) (p : Nat) (X : Nat → Prop) (h : Side wB W p Dk.new X) => open_list h rfl (by decide) (L := []) rfl)
  unfold OpenL at OP
  have RC1 := Lib.hid (fun (W : World) (hb : Below wB.heap.size wB W) => records_any W A l c (hA.on (Below.then_ hbB hb)) (Below.then_ hbB hb).size hl)
  have RC2 := Lib.hid (fun (W : World) (hb : Below wB.heap.size wB W) => records_any W A2 l2 c2 (hA2.on (Below.then_ hbB hb)) (Below.then_ hbB hb).size hl2)
  unfold SmallL StrsOut at RC1 RC2
  obtain ⟨n1, hn1⟩ : ∃ n, l.length = n := ⟨_, rfl⟩
  obtain ⟨n2, hn2⟩ : ∃ n, l2.length = n := ⟨_, rfl⟩
  rw [hn1] at RC1 ⊢
  rw [hn2] at RC2 ⊢
  obtain ⟨m1, hm1, hm1x⟩ : ∃ m, min n1 10 = m ∧ m ≤ 10 := ⟨_, rfl, by omega⟩
  obtain ⟨m2, hm2, hm2x⟩ : ∃ m, min n2 10 = m ∧ m ≤ 10 := ⟨_, rfl, by omega⟩
  rw [hm1] at RC1
  rw [hm2] at RC2
  have R1 := Lib.hid (fun (W : World) (hb : Below wB.heap.size wB W) => (show Calls Try.prog 15 #[.slice A n1 c] W fun e W' => ∃ L : List ByteArray, L.length = m1 ∧ (∀ s ∈ L, s.size ≤ 300) ∧ ∃ A4 c4, e = .returned (.slice A4 m1 c4) ∧ W'.ownsRow W.heap.size 9 1 (.slice A4 m1 c4) m1 (strC L) ∧ Below W.heap.size W W' from (RC1.out W hb).mono fun e W' hx => by
    obtain ⟨L, h1, h2, A4, c4, he, ho, hbb⟩ := hx
    rw [h1] at he ho
    exact ⟨L, h1, h2, A4, c4, he, ho, hbb⟩))
  have R2 := Lib.hid (fun (W : World) (hb : Below wB.heap.size wB W) => (show Calls Try.prog 15 #[.slice A2 n2 c2] W fun e W' => ∃ L : List ByteArray, L.length = m2 ∧ (∀ s ∈ L, s.size ≤ 300) ∧ ∃ A4 c4, e = .returned (.slice A4 m2 c4) ∧ W'.ownsRow W.heap.size 9 1 (.slice A4 m2 c4) m2 (strC L) ∧ Below W.heap.size W W' from (RC2.out W hb).mono fun e W' hx => by
    obtain ⟨L, h1, h2, A4, c4, he, ho, hbb⟩ := hx
    rw [h1] at he ho
    exact ⟨L, h1, h2, A4, c4, he, ho, hbb⟩))
  obtain ⟨f, hf, hf47⟩ : ∃ f : Nat, y1 % 48 = (f : Int) ∧ f ≤ 47 := ⟨(y1 % 48).toNat, by omega, by omega⟩
  obtain ⟨h10, h11⟩ := hy1
  obtain ⟨h20, h21⟩ := hy2
  obtain ⟨bb, hbb⟩ : ∃ b, w.heap.size = b := ⟨_, rfl⟩
  rw [hbb] at FB
  have CB := Lib.hid (fun (W : World) (h : Below wB.heap.size wB W) => (show W.cell? ⟨bb, 0, none⟩ = some (.int .u8 y1) ∧ W.cell? ⟨bb, 1, none⟩ = some (.int .u8 y2) from ⟨(FB.on h).cell 0, (FB.on h).cell 1⟩))
  have HBB := Lib.hid hbB
  unfold BoolB at S ⊢
  clear hn1 hn2 hl hl2 hA hA2 hm1 hm2 RC1 RC2 FB hbB
  go_enter Try.func8, Try.ntmps8
  go_upto_region 6 with (first
    | (go_at_call 12; ((with_reducible refine S.out.mono ?_); rintro e w1 ⟨rfl, hb1⟩))
    | (go_at_call 13; ((with_reducible refine (NW.out w1 hb1).mono ?_); rintro e w2 ⟨p, rfl, hS2, hb2⟩))
    | (go_at_call 14; ((with_reducible refine (OP.out w2 p _ hS2).mono ?_); rintro e w3 ⟨b, A3, c3, j3, rfl, hG3, hP3, _, _, _⟩))
    | (fail "arm"))
  clear hwB hbb
  have b3 := (CB.out w3 hP3.1.bel).1
  have FA := Lib.hid (hP3.1.fail (f : Int) ⟨by omega, by omega⟩)
  have HG3 := Lib.hid hG3
  have hsB := hb1.size
  clear hS2 hb1 hb2 hP3 NW OP S hG3
  go_upto_region 8 with (first
    | (go_at_call 21; ((with_reducible refine FA.out.mono ?_); rintro e w4 ⟨rfl, hP4⟩; (have hJ4 := hP4.1)))
    | (go_at_call 15; ((with_reducible refine (R1.out w4 hJ4.bel).mono ?_); rintro e w5 ⟨L, hL, hsz, A4, c4, rfl, hown, hb5⟩))
    | (fail "arm"))
  obtain ⟨X, hX⟩ : ∃ X : Nat → Prop, (fun g => g < wB.heap.size ∨ (Value.slice A4 m1 c4).ownBlock = some g) = X := ⟨_, rfl⟩
  have hJ5 : Jw wB w5 p b ⟨j3.d.fail (f : Int), j3.rs, j3.failed⟩ X := by
    rw [← hX]
    exact (hJ4.less (fun g hg => Nat.lt_of_lt_of_le hg hsB)).plus hb5 (fun g hg => ⟨row_ge hown g hg, owns_lt hown g hg⟩)
  have HXR := Lib.hid (show ∀ g, (Value.slice A4 m1 c4).ownBlock = some g → X g from fun g hg => by rw [← hX]; exact .inr hg)
  have HP5 := Lib.hid (hJ5.post (Below.refl _ w5))
  have HSM0 : Hid (Sm ⟨j3.d.fail (f : Int), j3.rs, j3.failed⟩ 0) := Lib.hid ⟨by show j3.d.calls ≤ _; have := HG3.out.2.2.2; have h0 : Dk.new.calls = 0 := rfl; omega, .inl ⟨HG3.out.1.fail _, by show SmallR j3.rs 0; rw [HG3.out.2.1]; exact ⟨Nat.le_refl _, fun r hr => by cases hr⟩⟩⟩
  have HO := Lib.hid hown
  have HSZ := Lib.hid hsz
  have HLL := Lib.hid hL
  clear hX hJ5 hJ4 hP4 hown hsz hL hb5 FA HG3 b3
  go_loopw [13, 42] (fun _ v42 wr => ∃ (q : Nat) (j : Jn), v42 = .int .i64 (q : Int) ∧ q ≤ m1 ∧ Hid (Sm j q) ∧ Hid (JPost wB w5 p b j X wr)) (fun _ v42 _ => m1 - (intOf v42).toNat)
  case atStart => exact ⟨0, _, rfl, by omega, HSM0, HP5⟩
  case round =>
    obtain ⟨q, j, rfl, hq, HSm, HP⟩ := hrel
    have q0 : (0 : Int) ≤ (q : Int) := Int.natCast_nonneg _
    have hlw := owns_keep HO.out (fun g hg => HP.out.2.1 g (HXR.out g hg))
    by_cases hqm : q < m1
    · have q1 : (q : Int) < (m1 : Int) := by omega
      have hqL : q < L.length := by rw [HLL.out]; exact hqm
      have hmc : m1 ≤ c4 := by
        have := (Strs.own hlw).2.cap
        rw [HLL.out] at this; exact this
      obtain ⟨ad, rfl, _, hcell⟩ := (Strs.own hlw).2.at_ hqL
      have hz := HSZ.out _ (List.getElem_mem hqL)
      have AP := Lib.hid (show Calls Try.prog 16 #[.pointer (some ⟨b, 0, none⟩), .string L[q]] wr fun e W' => ∃ v j', e = .returned (.int .i64 v) ∧ Hid (Sm j' (q + 1)) ∧ JPost wB w5 p b j' X W' from
        (sm_step HP.out.1 HSm.out (by omega) L[q] hz).mono fun e W' hx => by
          obtain ⟨v, j', he, hg, hp⟩ := hx
          exact ⟨v, j', he, Lib.hid hg, HP.out.trans hp⟩)
      obtain ⟨s', hs'⟩ : ∃ s', L[q] = s' := ⟨_, rfl⟩
      rw [hs'] at hcell AP
      clear hs' hlw hqL hz
      go_wp2_with (go_at_call 16; ((with_reducible refine AP.out.mono ?_); rintro e w6 ⟨v6, j6, rfl, hg6, hp6⟩))
      have HP6 := Lib.hid hp6
      clear hp6
      go_roundw
      case rel => exact ⟨q + 1, j6, by go_num, by omega, hg6, HP6⟩
      case measure => simp [intOf]; omega
    · obtain rfl : q = m1 := by omega
      have hb2 := (CB.out wr HP.out.1.bel).2
      have HBr := Lib.hid HP.out.1.bel
      have HSd := Lib.hid (HP.out.1.side.less (Y := fun _ => False) (fun g hg => hg.elim))
      have HLF := Lib.hid (fun ql => HSm.out.left HP.out.1.side.good ql)
      have hcl : j.d.calls ≤ 100000 := by have := HSm.out.1; omega
      obtain ⟨wi, rfl⟩ : ∃ wi, wi = wr := ⟨_, rfl⟩
      obtain ⟨i3, hi, hz0, hz1, hz2⟩ := info_parts info3
      have H0 : Hid (wi.ownsRow wi.heap.size 3 1 (.slice none 0 0) 0 (intC [])) := Lib.hid (World.ownsRow_nil _ _ _ _)
      have HW0 : Hid (Below wi.heap.size wi wi) := Lib.hid (Below.refl _ _)
      clear hlw hqm HP HSm HP5 HSM0 HXR HO HSZ HLL
      go_upto_region 14 with fail
      go_loopw [14, 15] (fun v14 v15 wr => ∃ (k : Nat) (zs : List Int) (A5 : Option Addr) (c5 : Nat), v15 = .int .i64 (k : Int) ∧ v14 = .slice A5 k c5 ∧ k ≤ 8 ∧ Hid (wr.ownsRow wi.heap.size 3 1 (.slice A5 k c5) k (intC zs)) ∧ Hid (Below wi.heap.size wi wr)) (fun _ v15 _ => 8 - (intOf v15).toNat)
      case atStart => exact ⟨0, [], none, 0, rfl, rfl, by omega, H0, HW0⟩
      case round =>
        obtain ⟨k, zs, A5, c5, rfl, rfl, hk, HO5, HBk⟩ := hrel
        have k0 : (0 : Int) ≤ (k : Int) := Int.natCast_nonneg _
        by_cases hk8 : k < 8
        · have k1 : (k : Int) < 8 := by omega
          have b5 : wr.cell? ⟨bb, 1, none⟩ = some (.int .u8 y2) := (CB.out wr (Below.then_ HBr.out HBk.out)).2
          have hrow := HO5.out
          go_wp2_with (at_builtin; refine wpList_append_own _ rfl _ _ 56 rfl wi.heap.size 3 i3 (.int .i64 0) 1 8 Try.underlying56 hi hz0 hz1 hz2 rfl (by decide) (.slice A5 k c5) _ _ rfl (hrow.alloc _) ⟨wr.heap.size, 0, none⟩ 1 1 [.int .i64 (wrap64 (bits .and .u8 (y2 / 2 ^ k) 1))] rfl rfl (cell_one_new _ _ _) (by simp [Value.oneCell']) (by unfold maxLen; omega) (by omega) (by have := HBk.out.size; simp; omega) ?_; intro v' w3 hown' hgrow _; obtain ⟨A6, c6, rfl⟩ := own_form hown')
          have HO6 := Lib.hid (show w3.ownsRow wi.heap.size 3 1 (.slice A6 (k + 1) c6) (k + 1) (intC (zs ++ [wrap64 (bits .and .u8 (y2 / 2 ^ k) 1)])) from by rw [intC_snoc]; exact hown')
          have HB6 := Lib.hid (show Below wi.heap.size wi w3 from HBk.out.trans ((((Below.refl _ wr).alloc HBk.out.size _).grown hgrow (by have := HBk.out.size; simp; omega) (fun g hg => row_ge hrow g hg))))
          clear hown' hgrow hrow
          go_roundw
          case rel => exact ⟨k + 1, _, A6, c6, by go_num, rfl, by omega, HO6, HB6⟩
          case measure => simp [intOf]; omega
        · obtain rfl : k = 8 := by omega
          rw [show ((8 : Nat) : Int) = 8 from rfl]
          have CR := Lib.hid ((HSd.out.on HBk.out).crash hcl (Row.own HO5.out) (Nat.le_refl wr.heap.size) (by decide))
          have hsr := HLF.out zs
          obtain ⟨L0, hL0⟩ : ∃ L0, (recs (j.d.left zs)).map str = L0 := ⟨_, rfl⟩
          have hd0 : recs (j.d.crash zs).now = dat L0 := by rw [Dk.crash_now, ← hL0, dat_map_str]
          have hz0' : ∀ s ∈ L0, s.size ≤ 300 := fun s hs => by
            rw [← hL0] at hs
            obtain ⟨r, hr, rfl⟩ := List.mem_map.1 hs
            rw [str_size]; exact hsr.2 r hr
          have hn0 : L0.length ≤ 10 := by rw [← hL0, List.length_map]; exact Nat.le_trans hsr.1 (by omega)
          have OC := Lib.hid (fun (W : World) (p : Nat) (X : Nat → Prop) (h : Side wB W p (j.d.crash zs) X) => open_list h rfl (by show 0 ≤ 90000; omega) (L := L0) hd0)
          unfold OpenL at OC
          obtain ⟨n0, hn0'⟩ : ∃ n0, L0.length = n0 := ⟨_, rfl⟩
          rw [hn0'] at OC hn0
          have HZ0 := Lib.hid hz0'
          have HN0 := Lib.hid hn0'
          clear hsr hL0 hd0 hz0' hn0' HSd HLF hb2
          obtain ⟨wk, rfl⟩ : ∃ wk, wk = wr := ⟨_, rfl⟩
          have h0c : (j.d.crash zs).calls = 0 := rfl
          go_upto_region 22 with (first
            | (go_at_call 18; ((with_reducible refine CR.out.mono ?_); rintro e W6 ⟨p6, rfl, hS6, hb6⟩))
            | (go_at_call 14; ((with_reducible refine (OC.out W6 p6 _ hS6).mono ?_); rintro e W7 ⟨b7, A7, c7, j7, rfl, hG7, hP7, _, hJ7, hr7⟩))
            | (go_at_call 15; ((with_reducible refine (R2.out W7 hJ7.bel).mono ?_); rintro e W8 ⟨L2, hL2, hsz2, A8, c8, rfl, hown8, hb8⟩))
            | (fail "arm"))
          obtain ⟨X2, hX2⟩ : ∃ X2 : Nat → Prop, (fun g => (Value.slice A8 m2 c8).ownBlock = some g) = X2 := ⟨_, rfl⟩
          have HX2 := Lib.hid hX2
          have hJ8 : Jw wB W8 p6 b7 j7 (fun g => X2 g ∨ (Value.slice A7 n0 c7).ownBlock = some g) := (hJ7.plus hb8 (Y := X2) (fun g hg => by rw [← hX2] at hg; exact ⟨row_ge hown8 g hg, owns_lt hown8 g hg⟩)).less (fun g hg => by
            rcases hg with hg | hg
            · exact .inr hg
            · exact .inl (.inr hg))
          have hr8 := own_keep hr7 hb8
          have HJ8 := Lib.hid hJ8
          have HR8 : Hid (W8.ownsRow wB.heap.size 9 1 (.slice A7 n0 c7) n0 (strC (L0 ++ L2.take 0)) ∧ ∀ g, (Value.slice A7 n0 c7).ownBlock = some g → ¬ X2 g) := Lib.hid ⟨by
            rw [List.take_zero, List.append_nil]
            exact owns_base hr8 (fun g hg => by have h1 := row_ge hr8 g hg; have h2 := hS6.bel.size; omega), fun g hg hx => by
            rw [← hX2] at hx
            have h1 := owns_lt hr7 g hg
            have h2 := row_ge hown8 g hx
            omega⟩
          have HG8 : Hid (Got j7 (dat (L0 ++ L2.take 0)) (10 + 4 * 0)) := Lib.hid ⟨hG7.1, by rw [List.take_zero, List.append_nil]; exact hG7.2.1, hG7.2.2.1, by have := hG7.2.2.2; omega⟩
          have HO8 := Lib.hid hown8
          have HZ2 := Lib.hid hsz2
          have HL2 := Lib.hid hL2
          have hm8 : m2 ≤ c8 := by
            have := (Strs.own hown8).2.cap
            rw [hL2] at this; exact this
          have HNN : Hid (n0 = n0 + 0) := Lib.hid rfl
          have HK8 : Hid (∀ g, X2 g → W8.heap[g]? = W8.heap[g]?) := Lib.hid fun _ _ => rfl
          have hsz62 : (62 : Nat) = 62 := rfl
          obtain ⟨i9, hi9, hy0, hy1, hy2'⟩ := info_parts info9
          clear hX2 hJ8 hr8 hown8 hsz2 hL2 hG7 hP7 hJ7 hr7 hb8 hS6 hb6 CR OC R2 h0c hsz62 HO5 HBk H0 HW0
          go_loopw [16, 19, 82] (fun v16 _ v82 wr => ∃ (k N : Nat) (j : Jn) (A9 : Option Addr) (c9 : Nat), v82 = .int .i64 (k : Int) ∧ v16 = .slice A9 N c9 ∧ k ≤ m2 ∧ N ≤ 20 ∧ Hid (N = n0 + k) ∧ Hid (Got j (dat (L0 ++ L2.take k)) (10 + 4 * k)) ∧ Hid (Jw wB wr p6 b7 j (fun g => X2 g ∨ (Value.slice A9 N c9).ownBlock = some g)) ∧ Hid (∀ g, X2 g → wr.heap[g]? = W8.heap[g]?) ∧
            Hid (wr.ownsRow wB.heap.size 9 1 (.slice A9 N c9) N (strC (L0 ++ L2.take k)) ∧ ∀ g, (Value.slice A9 N c9).ownBlock = some g → ¬ X2 g)) (fun _ _ v82 _ => m2 - (intOf v82).toNat)
          case atStart => exact ⟨0, n0, j7, A7, c7, rfl, rfl, by omega, by omega, HNN, HG8, HJ8, HK8, HR8⟩
          case round =>
            obtain ⟨k, N, jk, A9, c9, rfl, rfl, hkm, hN20, HN, HG, HJ, HK, HR⟩ := hrel
            have k0 : (0 : Int) ≤ (k : Int) := Int.natCast_nonneg _
            have hsmall : ∀ r ∈ dat (L0 ++ L2.take k), r.length ≤ 2000 := fun r hr => by
              unfold dat at hr
              obtain ⟨s', hs', rfl⟩ := List.mem_map.1 hr
              rw [data_len]
              rcases List.mem_append.1 hs' with h | h
              · have := HZ0.out s' h; omega
              · have := HZ2.out s' (List.mem_of_mem_take h); omega
            have hlen : (L0 ++ L2.take k).length = n0 + k := by rw [List.length_append, HN0.out, List.length_take, HL2.out]; omega
            have hrow2 := owns_keep HO8.out (fun g hg => HK.out g (by rw [← HX2.out]; exact hg))
            by_cases hlt : k < m2
            · have k1 : (k : Int) < (m2 : Int) := by omega
              have hkL : k < L2.length := by rw [HL2.out]; exact hlt
              obtain ⟨ad, rfl, _, hcell⟩ := (Strs.own hrow2).2.at_ hkL
              have hz := HZ2.out _ (List.getElem_mem hkL)
              have AP := Lib.hid (append_got HJ.out HG.out hsmall (by rw [dat_len, hlen]; omega) (by omega) L2[k] (by omega))
              have htk : dat (L0 ++ L2.take k) ++ [L2[k].data.toList] = dat (L0 ++ L2.take (k + 1)) := by
                rw [List.take_succ_eq_append_getElem hkL, ← List.append_assoc]
                unfold dat
                rw [List.map_append (l₁ := L0 ++ L2.take k)]; rfl
              have hst : strC (L0 ++ L2.take k) ++ [.string L2[k]] = strC (L0 ++ L2.take (k + 1)) := by
                rw [List.take_succ_eq_append_getElem hkL, ← List.append_assoc, strC_snoc]
              rw [htk] at AP
              obtain ⟨s', hs'⟩ : ∃ s', L2[k] = s' := ⟨_, rfl⟩
              rw [hs'] at hcell AP hst
              have HST := Lib.hid hst
              clear hs' hkL hz htk hst hsmall hlen hrow2
              go_wp2_with (first
                | (go_at_call 16; ((with_reducible refine AP.out.mono ?_); rintro e W9 ⟨rfl, j9, hg9, hp9⟩; (have hr9 := owns_keep HR.out.1 (fun g hg => hp9.2.1 g (.inr hg)))))
                | (at_builtin; refine wpList_append_lies _ rfl _ _ 27 rfl wB.heap.size 9 i9 (.string ⟨#[]⟩) 1 16 Try.underlying27 hi9 hy0 hy1 hy2' rfl (by decide) (.slice A9 N c9) N _ rfl (hr9.alloc _) ⟨W9.heap.size, 0, none⟩ 1 1 [.string s'] rfl rfl (cell_one_new _ _ _) (by simp [Value.oneCell']) (by omega) (by unfold maxLen; omega) (by omega) (by have := hp9.1.bel.size; simp; omega) (W9.heap.size + 1) (by simp) ?_; intro gg cap w10 hown10 hgrow10 hat10 hlt10)
                | (fail "arm"))
              have HJ10 := Lib.hid (show Jw wB w10 p6 b7 j9 (fun g => X2 g ∨ (Value.slice (some ⟨gg, 0, none⟩) (N + 1) cap).ownBlock = some g) from
                (hp9.1.on ((Below.refl _ W9).alloc (Nat.le_refl _) (.cells #[.string s'] 9))).grown hgrow10 (fun g hg => ⟨.inr hg, row_ge hr9 g hg⟩) (fun g hg => by
                  rcases hg with hg | hg
                  · exact ⟨.inl (.inl hg), by have h1 := hp9.1.xlt (.inl hg); have h2 := hgrow10.size; simp at h2; omega⟩
                  · obtain rfl : gg = g := by simpa [Value.ownBlock] using hg
                    refine ⟨?_, hlt10⟩
                    rcases hat10 with h | h
                    · exact .inl (.inr h)
                    · right; simp; omega))
              have HK10 := Lib.hid (fun g (hg : X2 g) => (show w10.heap[g]? = W8.heap[g]? from by
                have h1 := hp9.1.xlt (.inl hg)
                rw [hgrow10.block g (by simp; omega) (fun e => HR.out.2 g e.symm hg), Below.heap_alloc _ _ _ h1, hp9.2.1 g (.inl hg)]
                exact HK.out g hg))
              have HR10 := Lib.hid (show w10.ownsRow wB.heap.size 9 1 (.slice (some ⟨gg, 0, none⟩) (N + 1) cap) (N + 1) (strC (L0 ++ L2.take (k + 1))) ∧ ∀ g, (Value.slice (some ⟨gg, 0, none⟩) (N + 1) cap).ownBlock = some g → ¬ X2 g from ⟨by rw [← HST.out]; exact hown10, fun g hg hx => by
                obtain rfl : gg = g := by simpa [Value.ownBlock] using hg
                rcases hat10 with h | h
                · exact HR.out.2 gg h hx
                · have := hp9.1.xlt (.inl hx); omega⟩)
              have HG9 : Hid (Got j9 (dat (L0 ++ L2.take (k + 1))) (10 + 4 * (k + 1))) := Lib.hid hg9
              have HN9 : Hid (N + 1 = n0 + (k + 1)) := Lib.hid (by have := HN.out; omega)
              have hN21 : N + 1 ≤ 20 := by have := HN.out; omega
              clear hown10 hgrow10 hat10 hlt10 hr9 hg9 hp9
              go_roundw
              case rel => exact ⟨k + 1, N + 1, j9, _, cap, by go_num, rfl, by omega, hN21, HN9, HG9, HJ10, HK10, HR10⟩
              case measure => simp [intOf]; omega
            · obtain rfl : k = m2 := by omega
              have hLn : (L0 ++ L2.take k).length = N := by rw [hlen]; exact HN.out.symm
              obtain ⟨M, hM⟩ : ∃ M, L0 ++ L2.take k = M := ⟨_, rfl⟩
              rw [hM] at hLn
              have hG : Got jk (dat M) (10 + 4 * k) := by rw [← hM]; exact HG.out
              have hRW : wr.ownsRow wB.heap.size 9 1 (.slice A9 N c9) N (strC M) := by rw [← hM]; exact HR.out.1
              have CR := Lib.hid (HJ.out.side.crash (by have := hG.calls; omega) (l := []) (Row.empty _ _ _) (Nat.le_refl wr.heap.size) (by decide))
              have hre : recs (jk.d.crash []).now = dat M := (hG.rest HJ.out.side.good).left []
              have OC := Lib.hid (fun (W : World) (p : Nat) (X : Nat → Prop) (h : Side wB W p (jk.d.crash []) X) => open_list h rfl (by show 0 ≤ 90000; omega) (L := M) hre)
              unfold OpenL at OC
              rw [hLn] at OC
              have HRW := Lib.hid hRW
              have HGG := Lib.hid hG
              have HLN := Lib.hid hLn
              clear hRW hG hre hrow2 hlen hsmall hlt hM hLn
              go_upto_region 29 with (first
                | (go_at_call 18; ((with_reducible refine CR.out.mono ?_); rintro e W9 ⟨p9, rfl, hS9, hb9⟩))
                | (go_at_call 14; ((with_reducible refine (OC.out W9 p9 _ hS9).mono ?_); rintro e W10 ⟨b10, A10, c10, j10, rfl, _, hP10, _, _, hr10⟩))
                | (fail "arm"))
              have s10 : Since wr.heap.size wr W10 := (Since.of hb9 (Nat.le_refl _)).trans (hP10.since (fun g hg => hg))
              have l10 := own_since HRW.out s10 (fun g hg => owns_lt HRW.out g hg)
              have SM := Lib.hid (show Calls Try.prog 19 #[.slice A10 N c10, .slice A9 N c9] W10 (QBool W10 true) from by
                have := same_rows hr10 l10 (by omega) (by omega)
                rwa [show decide (M = M) = true by simp] at this)
              unfold QBool at SM
              have hJ10 := HJ.out.since s10 hP10.1.bel
              have MN := Lib.hid (fun r => (show Calls Try.prog 17 #[.pointer (some ⟨b7, 0, none⟩)] (W10.drewN r) fun e w' => e = .returned (.int .i64 (N : Int)) ∧ W10.drewN r = w' from by
                have := many_any (hJ10.on (Below.drewN_ (Below.refl _ W10) r))
                rw [HGG.out.rs, dat_len, HLN.out] at this
                exact this))
              have HBE := Lib.hid (fun r => Below.then_ HBB.out (Below.drewN_ hP10.1.bel r))
              clear s10 l10 hr10 hJ10 hP10 hS9 hb9 CR OC
              go_wp2_with (first
                | (go_at_call 19; ((with_reducible refine SM.out.mono ?_); rintro e w11 ⟨rfl, r1, rfl⟩))
                | (go_at_call 17; ((with_reducible refine (MN.out r1).mono ?_); rintro e w12 ⟨rfl, rfl⟩))
                | (fail "arm"))
              go_ret
              exact ⟨by simp, HBE.out _⟩
theorem contract (H : Type) (enc : TypeId × Value → H) (W : World) (base : Nat) (args : Array Value) (ds gs : List (DataW H)) (before : List MemPlace)
    (hval : ∀ (j : Nat) t v, Try.f8.params[j]? = some t → args[j]? = some v → Value.okWide Try.prog W .any base t v)
    (hW : DataW.Whole enc Try.prog Try.f8.params.toList Rows.journalAfterSpec.vars false W args.toList ds gs before) :
    Calls Try.prog 8 args W fun e W' => ∃ v, e = .returned v ∧ Rows.journalAfterSpec.post enc Try.prog Try.f8 false true false false W args v W' := by
  have hW' := hW
  obtain ⟨p, q, hA0, hV, rfl, hfz, hnd⟩ := hW
  have hA : DataW.TrodAll enc Try.prog W 0 (fun _ => true) true Try.f8.params.toList args.toList ds p := hA0
  rw [Try.params8] at hA hval
  obtain ⟨v0, vs0, d0, ds0, p0, q0, e0, rfl, rfl, h0, r0⟩ := trodAll_cons hA
  obtain ⟨v1, vs1, d1, ds1, p1, q1, e1, rfl, rfl, h1, r1⟩ := trodAll_cons r0
  obtain ⟨v2, vs2, d2, ds2, p2, q2, e2, rfl, rfl, h2, r2⟩ := trodAll_cons r1
  obtain ⟨rfl, rfl, rfl⟩ := trodAll_nil r2
  obtain rfl : args = #[v0, v1, v2] := by cases args; simp_all
  obtain ⟨rfl, rfl⟩ := trodVars_none hV
  obtain ⟨A, l, c, rfl, hPr, hl⟩ := open_prs h0 (hval 0 22 v0 rfl rfl)
  obtain ⟨A2, l2, c2, rfl, hPr2, hl2⟩ := open_prs h1 (hval 1 22 v1 rfl rfl)
  obtain ⟨x, y, rfl, hx, hy⟩ := open_pair8 (hval 2 62 v2 rfl rfl) h2
  refine (walk A l c A2 l2 c2 x y W hPr hl hPr2 hl2 hx hy).mono fun e W' ⟨he, hb⟩ => ⟨_, he, law_post rfl rfl ?_ rfl rfl rfl hW' hb⟩
  rw [Try.params8]
  intro t ht
  have ht' : t = 22 ∨ t = 22 ∨ t = 62 := by simpa using ht
  rcases ht' with rfl | rfl | rfl <;> exact ⟨by kernel_rfl, of_decide_eq_true (by kernel_rfl)⟩

set_option maxRecDepth 100000 in
theorem lifted (os : Os) (started : os.Started) (H : Type) (enc : TypeId × Value → H) :
    ReturnsInHanded {} Try.checked os 8 .any (Rows.journalAfterSpec.pre6 enc Try.prog Try.f8 Rows.journalAfterRow.domain false) (Rows.journalAfterSpec.post enc Try.prog Try.f8 false true false false) := by
  refine returnsInHanded_of_change (C := Try.checked) ownKnob_none started (by kernel_rfl) Try.func8
    (ChangeSpec.witness6 (enc := enc) (C := Try.checked) false ⟨#[], #[.slice none 0 0, .slice none 0 0, .agg #[.int .u8 0, .int .u8 0]], []⟩ 8 (by kernel_rfl) (by kernel_rfl) (by kernel_rfl) (by kernel_rfl)) ?_
  intro W base args ds gs before hval hW _ _
  exact contract H enc W base args ds gs before hval hW

theorem proved : Rows.JournalAfterSaid :=
  OpenClaim.holds_of_wide 8 Try.f8 rfl rfl rfl rfl rfl rfl rfl ⟨rfl, rfl, rfl, rfl, rfl⟩ rfl rfl rfl rfl rfl (by kernel_rfl) Try.func8 (by kernel_rfl)
    (of_decide_eq_true (by kernel_rfl)) (by unfold Func.isWrapper; first | (rw [if_pos (by decide +kernel)]; kernel_rfl) | (rw [if_neg (by decide +kernel)]; exact ⟨rfl, rfl⟩))
    (fun os started H enc _ => lifted os started H enc)

end Go.Proofs.Ythhpnlobhffimaa.lafter
