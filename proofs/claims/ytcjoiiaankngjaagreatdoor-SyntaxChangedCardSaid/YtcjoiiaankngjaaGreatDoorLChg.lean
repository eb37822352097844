/- SyntaxChanged is proved: a printed build in which a token is removed, doubled, or replaced is parsed as the reference parses it. For every input; the package's variables are what the card lists. -/
import Derived.Test.YtcjoiiaankngjaaGreatDoorK7
import Derived.Test.YtcjoiiaankngjaaGreatDoorTie
namespace Go.Proofs.YtcjoiiaankngjaaGreatDoor.lchg
set_option maxRecDepth 100000
open Go.RowKit Go.ChangeShapes Go.WideShapes
def others : List (List UInt8) := [[116, 97, 114, 103, 101, 116], [97], [123], [125], [59], [44], [107, 105, 110, 100], [114, 101, 116, 114, 121], [51], [48], [103, 108, 111, 98], [40], [41], [34, 121, 34], [108, 105, 110, 117, 120], [115, 114, 99, 115], [49, 48, 48, 49]]
theorem others_ok : ∀ p ∈ others, p.length ≤ 5002 ∧ Asc p := by
  have : ∀ p ∈ others, p.length ≤ 5002 ∧ p.all (fun b => decide (b.toNat < 128)) = true := by decide
  exact fun p hp => ⟨(this p hp).1, ascOf (this p hp).2⟩
theorem fin_ok {w w5 W9 : World} {A2 A9 : Option Addr} {g : List Int} {c2 c9 m : Nat} {L : List (List UInt8)} (hL : Laid w) (hI : Ito w) (hP2 : Row w w.heap.size 1 A2 g.length c2 (intsC g)) (hl2 : g.length ≤ 9223372036854775807) (hb : Below w.heap.size w w5) (J : JX w5 W9 A9 m c9 L) (hm : m ≤ 5003) :
    Calls Tryz.prog 20 #[.slice A9 m c9, .slice A2 g.length c2] W9 (fun e w' => e = .returned (.string (str (joinG g 0 L))) ∧ Below W9.heap.size W9 w') ∧ Below w.heap.size w W9 ∧ ∀ W, Below w.heap.size w W → Calls Tryz.prog 16 #[.string (str (joinG g 0 L))] W (fun e w' => e = .returned (.bool true) ∧ Below W.heap.size W w') := by
  have hw9 : Below w.heap.size w W9 := Below.then_ hb J.below
  have hml := J.len
  refine ⟨?_, hw9, fun W hW => ?_⟩
  · rw [hml]
    exact joined20_any (by rw [← hml]; exact Row.own J.own) (Nat.le_refl _) (Row.below hP2 hw9 (Nat.le_refl _)) hw9.size hl2 (by omega) (fun p hp => by have := (J.sml p hp).1; omega)
  · have ha : Asc (joinG g 0 L) := joinG_asc g L 0 (fun p hp => (J.sml p hp).2)
    have hs : (joinG g 0 L).length ≤ L.length * (5002 + 13) := joinG_len g 5002 L 0 (fun p hp => (J.sml p hp).1)
    have hs2 : L.length * (5002 + 13) ≤ 5003 * 5015 := Nat.mul_le_mul (by omega) (Nat.le_refl _)
    exact agrees_any (hL.on hW) _ (by rw [str_data]; exact ha) (by rw [str_size]; omega)
set_option maxHeartbeats 64000000 in
theorem walk (A : Option Addr) (l : List Int) (c : Nat) (x0 x1 x2 : Int) (A2 : Option Addr) (g : List Int) (c2 : Nat) {w : World} (hL : Laid w) (hI : Ito w) (hP : Row w w.heap.size 1 A l.length c (intsC l)) (hl : l.length ≤ 9223372036854775807) (hP2 : Row w w.heap.size 1 A2 g.length c2 (intsC g)) (hl2 : g.length ≤ 9223372036854775807) :
    Calls Tryz.prog 4 #[.slice A l.length c, .agg #[.int .i64 x0, .int .i64 x1, .int .i64 x2], .slice A2 g.length c2] w (BoolB w true) := by
  unfold BoolB
  obtain ⟨ii0, hi, hz0, hz1, hz2⟩ := info_parts info9
  obtain ⟨w1, hw1⟩ : ∃ v, w.alloc (.cells #[.int .i64 x0, .int .i64 x1, .int .i64 x2] 33) = v := ⟨_, rfl⟩
  have hb1 : Below w.heap.size w w1 := by rw [← hw1]; exact (Below.refl _ w).alloc (Nat.le_refl _) _
  have F1 : Full w1 w.heap.size 33 [.int .i64 x0, .int .i64 x1, .int .i64 x2] := by rw [← hw1]; exact Full.new w 33 _
  have h9 := hL.size
  have HSN := Lib.hid (sanity_any (hL.on hb1) (hI.below hb1 h9))
  unfold BoolB at HSN
  have hsm := mMade_sml l
  obtain ⟨⟨PL, LT⟩, hMM⟩ : ∃ z, mMade l = z := ⟨_, rfl⟩
  have MD := fun (W : World) (h : Below w.heap.size w W) => made_any (Row.below hP h (Nat.le_refl _)) h.size hl
  rw [hMM] at MD hsm
  dsimp only at MD hsm
  obtain ⟨S, hS⟩ : ∃ z, fFile PL LT = z := ⟨_, rfl⟩
  rw [hS] at hsm
  have SC := fun (W : World) (base : Nat) (v : Value) (h : BuildAt W base v PL LT) => (show Calls Tryz.prog 14 #[v] W (StrB W (str S)) from by
    obtain ⟨Ap, cp, A', n', c', tl, rfl, hR, hm⟩ := h.rb
    have := rsource_any hR (Nat.le_refl _) (by rw [hm]; exact hsm.2.2)
    rw [hm, hS] at this
    exact this)
  have PC := fun W => pieces_any (str S) (by rw [str_size]; have := hsm.2.1; omega) W
  rw [str_data] at PC
  have hps := pcs_sub hsm.1
  have hpn := pcs_len (rToks S 1)
  have htn := (rToks_len S 1).2
  obtain ⟨T, hT⟩ : ∃ z, pcs (rToks S 1) = z := ⟨_, rfl⟩
  rw [hT] at PC hps hpn
  obtain ⟨n, hn⟩ : ∃ z, T.length = z := ⟨_, rfl⟩
  rw [hn] at PC hpn
  have hn5 : n ≤ 5001 := by have := hsm.2.1; omega
  have hps2 : ∀ p ∈ T, p.length ≤ 5002 ∧ Asc p := fun p hp => ⟨by have := (hps p hp).1; have := hsm.2.1; omega, (hps p hp).2⟩
  unfold StrB at SC
  obtain ⟨Sx, hSx⟩ : ∃ z, str S = z := ⟨_, rfl⟩
  rw [hSx] at SC PC
  have MD := Lib.hid MD
  have SC := Lib.hid SC
  have PC := Lib.hid PC
  have HTT := Lib.hid (And.intro hn hps2)
  have HW1 := Lib.hid (And.intro F1 hb1)
  have HP := Lib.hid (And.intro hP2 hl2)
  have HLI := Lib.hid (And.intro hL hI)
  have hcg := hP2.2.1
  obtain ⟨g0, hg0⟩ : ∃ z, w.heap.size = z := ⟨_, rfl⟩
  clear hb1 F1 hL hI hP hP2 hl hl2 hMM hS hsm hps hpn htn hT hn hps2 hSx h9
  go_enter Tryz.func4, Tryz.ntmps4
  go_upto_region 3 with (first
    | (go_at_call 13; ((with_reducible refine HSN.out.mono ?_); rintro en wa ⟨rfl, hba⟩; (have HA := Lib.hid (show Full wa w.heap.size 33 [.int .i64 x0, .int .i64 x1, .int .i64 x2] ∧ Below w.heap.size w wa from ⟨HW1.out.1.on hba, Below.then_ HW1.out.2 hba⟩)); clear hba))
    | (go_at_call 15; ((with_reducible refine (MD.out _ HA.out.2).mono ?_); rintro en wb ⟨bv, rfl, hbv, hbt⟩; (have HB := Lib.hid (show BuildAt wb wa.heap.size bv PL LT ∧ Full wb w.heap.size 33 [.int .i64 x0, .int .i64 x1, .int .i64 x2] ∧ Below w.heap.size w wb from ⟨hbv, HA.out.1.on (toBelow hbt), Below.then_ HA.out.2 (toBelow hbt)⟩)); clear hbv hbt))
    | (go_at_call 14; ((with_reducible refine (SC.out _ _ _ HB.out.1).mono ?_); rintro en wc ⟨rfl, hbc⟩; (have HC := Lib.hid (show Full wc w.heap.size 33 [.int .i64 x0, .int .i64 x1, .int .i64 x2] ∧ Below w.heap.size w wc from ⟨HB.out.2.1.on hbc, Below.then_ HB.out.2.2 hbc⟩)); clear hbc))
    | (go_at_call 18; ((with_reducible refine (PC.out _).mono ?_); rintro en wd ⟨At, ct, rfl, hod, hbd⟩; (have HD := Lib.hid (show wd.ownsRow wc.heap.size 9 1 (.slice At n ct) n (txC T) ∧ Full wd w.heap.size 33 [.int .i64 x0, .int .i64 x1, .int .i64 x2] ∧ Below w.heap.size w wd from ⟨hod, HC.out.1.on hbd, Below.then_ HC.out.2 hbd⟩)); clear hod hbd))
    | (fail "arm"))
  have HG0 := Lib.hid hg0
  have HD := Lib.hid (show wd.ownsRow wc.heap.size 9 1 (.slice At n ct) n (txC T) ∧ Full wd g0 33 [.int .i64 x0, .int .i64 x1, .int .i64 x2] ∧ Below w.heap.size w wd from ⟨HD.out.1, by rw [← HG0.out]; exact HD.out.2.1, HD.out.2.2⟩)
  clear hg0 hw1
  by_cases hn0 : n = 0
  · have q0 : ((n : Int) == 0) = true := by rw [hn0]; rfl
    go_wp2
    go_ret
    exact ⟨rfl, HD.out.2.2⟩
  · have q0 : ((n : Int) == 0) = false := by rw [beq_eq_false_iff_ne]; omega
    obtain ⟨w5, hw5⟩ : ∃ z, wd.alloc (.cells #[.string ⟨#[116, 97, 114, 103, 101, 116]⟩, .string ⟨#[97]⟩, .string ⟨#[123]⟩, .string ⟨#[125]⟩, .string ⟨#[59]⟩, .string ⟨#[44]⟩, .string ⟨#[107, 105, 110, 100]⟩, .string ⟨#[114, 101, 116, 114, 121]⟩, .string ⟨#[51]⟩, .string ⟨#[48]⟩, .string ⟨#[103, 108, 111, 98]⟩, .string ⟨#[40]⟩, .string ⟨#[41]⟩, .string ⟨#[34, 121, 34]⟩, .string ⟨#[108, 105, 110, 117, 120]⟩, .string ⟨#[115, 114, 99, 115]⟩, .string ⟨#[49, 48, 48, 49]⟩] 9) = z := ⟨_, rfl⟩
    obtain ⟨gk, hgk⟩ : ∃ z, wd.heap.size = z := ⟨_, rfl⟩
    have H5 := Lib.hid (show wd.ownsRow wc.heap.size 9 1 (.slice At n ct) n (txC T) ∧ Below wd.heap.size wd w5 ∧ Full w5 gk 9 (txC others) ∧ Full w5 g0 33 [.int .i64 x0, .int .i64 x1, .int .i64 x2] ∧ Below w.heap.size w w5 from by
      have hb5 : Below wd.heap.size wd w5 := by rw [← hw5]; exact (Below.refl _ wd).alloc (Nat.le_refl _) _
      exact ⟨HD.out.1, hb5, by rw [← hw5, ← hgk]; exact Full.new wd 9 _, HD.out.2.1.on hb5, Below.then_ HD.out.2.2 hb5⟩)
    have c1 : w5.cell? ⟨g0, 1, none⟩ = some (.int .i64 x1) := H5.out.2.2.2.1.cell 1
    have MK := Lib.hid (fun W => (by exact mod_any x1 n W (by omega) (by omega) : Calls Tryz.prog 19 #[.int .i64 x1, .int .i64 (n : Int)] W fun e w' => e = .returned (.int .i64 (modN x1 n : Int)) ∧ W = w'))
    have hk := modN_lt (x := x1) (m := n) (by omega)
    obtain ⟨k, hkk⟩ : ∃ z, modN x1 n = z := ⟨_, rfl⟩
    rw [hkk] at MK hk
    clear hkk
    go_upto_region 7 with (first
      | (go_at_call 19; ((with_reducible refine (MK.out _).mono ?_); rintro en w4 ⟨rfl, rfl⟩))
      | (fail "arm"))
    have hcap : n ≤ ct := (Row.own HD.out.1).2.1
    have k0 : (0 : Int) ≤ (k : Int) := Int.natCast_nonneg _
    have k1 : (k : Int) ≤ (n : Int) := by omega
    obtain ⟨ad, rfl⟩ : ∃ ad, At = some ad := by
      cases At with
      | none => have := (Row.own HD.out.1).2.2.1 rfl; omega
      | some ad => exact ⟨ad, rfl⟩
    have HTR := Lib.hid (fun (W : World) (h : Below w5.heap.size w5 W) => (show Row W wd.heap.size 1 (some ad) n ct (txC T) from Row.below (Row.below (Row.own HD.out.1) H5.out.2.1 (Nat.le_refl _)) h H5.out.2.1.size))
    have HTC := Lib.hid (fun (W : World) (h : Below w5.heap.size w5 W) (i : Nat) (hi : i < n) => (show W.cell? (ad.add i) = some (.string (str (T[i]'(by rw [HTT.out.1]; exact hi)))) from by
      have e : (txC T)[i]? = some (.string (str (T[i]'(by rw [HTT.out.1]; exact hi)))) := by unfold txC; rw [List.getElem?_map, List.getElem?_eq_getElem (by rw [HTT.out.1]; exact hi)]; rfl
      obtain ⟨a2, e2, _, hc⟩ := Row.cell_at (HTR.out W h) e
      injection e2 with e2
      subst e2
      exact hc))
    have HE0 := Lib.hid (show JX w5 (w5.alloc (.cells #[] 9)) (some ⟨w5.heap.size, 0, none⟩) 0 0 [] from
      ⟨own_full (Full.new w5 9 []) rfl (Nat.zero_le _) (Nat.le_refl _), (Below.refl _ w5).alloc (Nat.le_refl _) _, rfl, fun p hp => by cases hp⟩)
    have hlk : (txC (T.take k)).length = k * 1 := by unfold txC; rw [List.length_map, List.length_take, HTT.out.1]; omega
    have HNK := Lib.hid (show ∀ j u, (txC (T.take k))[j]? = some u → (w5.alloc (.cells #[] 9)).cell? (ad.add j) = some u from fun j u hj => by
      have hjl : j < k := by have := (List.getElem?_eq_some_iff.1 hj).1; omega
      have := HTC.out _ HE0.out.below j (by omega)
      rw [this]
      unfold txC at hj
      rw [List.getElem?_map, List.getElem?_take, if_pos hjl, List.getElem?_eq_getElem (by rw [HTT.out.1]; omega)] at hj
      exact hj)
    have HSM := Lib.hid (show ∀ p ∈ T.take k, p.length ≤ 5002 ∧ Asc p from fun p hp => HTT.out.2 p (List.mem_of_mem_take hp))
    go_upto_region 8 with (first
      | (at_builtin; go_loud (refine wpList_append_own _ rfl _ _ 34 rfl w5.heap.size 9 ii0 (.string ⟨#[]⟩) 1 16 Tryz.underlying34 hi hz0 hz1 hz2 rfl (by decide) (.slice (some ⟨w5.heap.size, 0, none⟩) 0 0) 0 [] rfl HE0.out.own ad k ct (txC (T.take k)) rfl hlk HNK.out (by intro u hu; unfold txC at hu; obtain ⟨_, _, rfl⟩ := List.mem_map.1 hu; rfl) (by unfold maxLen; omega) (by omega) (by simp) ?_; intro v' w7 hown7 hgrow7 _; (obtain ⟨A7, c7, rfl, J7⟩ := HE0.out.grow (Below.refl _ _) hown7 hgrow7 (by rw [List.length_take, HTT.out.1]; omega) HSM.out); (have HJ7 := Lib.hid J7); clear hown7 hgrow7 J7))
      | (fail "arm"))
    have HJ := Lib.hid (show JX w5 w7 A7 k c7 (T.take k) from by simpa using HJ7.out)
    clear HJ7 c1
    have c0 : w7.cell? ⟨g0, 0, none⟩ = some (.int .i64 x0) := (H5.out.2.2.2.1.below HJ.out.below H5.out.2.2.2.1.lt).cell 0
    have MR := Lib.hid (fun W => (by exact mod_any x0 4 W (by decide) (by decide) : Calls Tryz.prog 19 #[.int .i64 x0, .int .i64 4] W fun e w' => e = .returned (.int .i64 (modN x0 4 : Int)) ∧ W = w'))
    have hr := modN_lt (x := x0) (m := 4) (by decide)
    obtain ⟨r, hrr⟩ : ∃ z, modN x0 4 = z := ⟨_, rfl⟩
    rw [hrr] at MR hr
    clear hrr
    have MJ := Lib.hid (fun W => (by exact mod_any x2 17 W (by decide) (by decide) : Calls Tryz.prog 19 #[.int .i64 x2, .int .i64 17] W fun e w' => e = .returned (.int .i64 (modN x2 17 : Int)) ∧ W = w'))
    have hj := modN_lt (x := x2) (m := 17) (by decide)
    obtain ⟨j, hjj⟩ : ∃ z, modN x2 17 = z := ⟨_, rfl⟩
    rw [hjj] at MJ hj
    clear hjj
    have hkn : k < T.length := by rw [HTT.out.1]; exact hk
    obtain ⟨TK, hTK⟩ : ∃ z, str (T[k]'hkn) = z := ⟨_, rfl⟩
    have HTK := Lib.hid (And.intro (show ∀ W, Below w5.heap.size w5 W → W.cell? (ad.add k) = some (.string TK) from fun W h => by rw [← hTK]; exact HTC.out W h k hk) (And.intro (show txC [T[k]'hkn] = [.string TK] from by rw [← hTK]; rfl) (HTT.out.2 _ (List.getElem_mem hkn))))
    obtain ⟨OJ, hOJ⟩ : ∃ z, str (others.getD j []) = z := ⟨_, rfl⟩
    have HOJ := Lib.hid (And.intro (show ∀ W, Below w5.heap.size w5 W → W.cell? ⟨gk, j, none⟩ = some (.string OJ) from fun W h => by rw [← hOJ]; exact txC_at (H5.out.2.2.1.below h H5.out.2.2.1.lt) hj) (And.intro (show txC [others.getD j []] = [.string OJ] from by rw [← hOJ]; rfl) (others_ok (others.getD j []) (getD_mem (show j < others.length from hj)))))
    clear hTK hOJ
    have r0' : (0 : Int) ≤ (r : Int) := Int.natCast_nonneg _
    have j0 : (0 : Int) ≤ (j : Int) := Int.natCast_nonneg _
    have j1 : (j : Int) < 17 := by omega
    have k2 : (k : Int) < (n : Int) := by omega
    obtain ⟨ad5, hsl5, hrow5⟩ := cut_some ad n ct (k + 1) (by omega) hcap
    have hsl5 : ∀ W, (Instr.slice 34 (.slice (some ad) n ct) (some (.int .i64 ((k : Int) + 1))) none none).run Tryz.prog W = .ok (.slice (some ad5) (n - (k + 1)) (ct - (k + 1))) W := hsl5
    have HDR := Lib.hid (And.intro (show ∀ W, Below w5.heap.size w5 W → ∀ j u, (txC (T.drop (k + 1)))[j]? = some u → W.cell? (ad5.add j) = some u from fun W h j u hj => by
      have hr := hrow5 W wd.heap.size _ (HTR.out W h)
      have e : (txC T).drop (k + 1) = txC (T.drop (k + 1)) := by unfold txC; rw [List.map_drop]
      rw [e] at hr
      obtain ⟨a2, e2, _, hc⟩ := Row.cell_at hr hj
      injection e2 with e2
      subst e2
      exact hc) (And.intro (show (txC (T.drop (k + 1))).length = (n - (k + 1)) * 1 from by unfold txC; rw [List.length_map, List.length_drop, HTT.out.1, Nat.mul_one]) (And.intro (show n - (k + 1) = (T.drop (k + 1)).length from by rw [List.length_drop, HTT.out.1]) (show ∀ p ∈ T.drop (k + 1), p.length ≤ 5002 ∧ Asc p from fun p hp => HTT.out.2 p (List.mem_of_mem_drop hp)))))
    clear hrow5
    go_upto_if 36 with (first
      | (go_at_call 19; ((with_reducible refine (MR.out _).mono ?_); rintro en w8 ⟨rfl, rfl⟩))
      | (fail "arm"))
    clear c0
    obtain rfl | rfl | rfl | rfl : r = 0 ∨ r = 1 ∨ r = 2 ∨ r = 3 := by omega
    · have HFIN := Lib.hid (fun (W9 : World) (A9 : Option Addr) (c9 : Nat) (J9 : JX w5 W9 A9 (k + (n - (k + 1))) c9 (T.take k ++ T.drop (k + 1))) => fin_ok HLI.out.1 HLI.out.2 HP.out.1 HP.out.2 H5.out.2.2.2.2 J9 (by omega))
      go_upto_region 16 with (first
        | (at_builtin; go_loud (refine wpList_append_own _ rfl _ _ 34 rfl w5.heap.size 9 ii0 (.string ⟨#[]⟩) 1 16 Tryz.underlying34 hi hz0 hz1 hz2 rfl (by decide) (.slice A7 (k) c7) (k) (txC (T.take k)) rfl HJ.out.own ad5 (n - (k + 1)) (ct - (k + 1)) (txC (T.drop (k + 1))) rfl HDR.out.2.1 (HDR.out.1 _ HJ.out.below) (by intro u hu; unfold txC at hu; obtain ⟨_, _, rfl⟩ := List.mem_map.1 hu; rfl) (by unfold maxLen; omega) (by omega) (by have := HJ.out.below.size; simp; omega) ?_; intro v' wf hownf hgrowf _; (obtain ⟨Af, cf, rfl, Jf⟩ := HJ.out.grow (Below.refl _ _) hownf hgrowf HDR.out.2.2.1 HDR.out.2.2.2); (have HJf := Lib.hid Jf); clear hownf hgrowf Jf))
        | (fail "arm"))
      have HF := HFIN.out wf Af cf HJf.out
      obtain ⟨R, hR⟩ : ∃ z, str (joinG g 0 (T.take k ++ T.drop (k + 1))) = z := ⟨_, rfl⟩
      rw [hR] at HF
      have HF := Lib.hid HF
      clear hR
      go_upto_region 17 with (first
        | (go_at_call 20; ((with_reducible refine HF.out.1.mono ?_); rintro en wg ⟨rfl, hbg⟩; (have HG := Lib.hid (Below.then_ HF.out.2.1 hbg)); clear hbg))
        | (go_at_call 16; ((with_reducible refine (HF.out.2.2 _ HG.out).mono ?_); rintro en wh ⟨rfl, hbh⟩; (have HH := Lib.hid (Below.then_ HG.out hbh)); clear hbh))
        | (fail "arm"))
      go_wp2
      go_ret
      exact ⟨rfl, HH.out⟩
    · have y0 := HTK.out.1 w7 HJ.out.below
      have y1 : w7.drew.cell? (ad.add k) = some (.string TK) := y0
      go_upto_region 10 with fail
      have HN2 := Lib.hid (show ∀ j u, ([Value.string TK, .string TK] : List Value)[j]? = some u → (w7.alloc (.cells #[.string TK, .string TK] 9)).drew.cell? ((⟨w7.heap.size, 0, none⟩ : Addr).add j) = some u from fun j u hj => by
        obtain ⟨a2, e, _, hc⟩ := ((Full.new w7 9 [.string TK, .string TK]).row 1 2 rfl 2 (Nat.le_refl _)).2.2.2 j u hj
        injection e with e
        subst e
        exact hc)
      have HOO := Lib.hid (show (w7.alloc (.cells #[.string TK, .string TK] 9)).drew.ownsRow w5.heap.size 9 1 (.slice A7 k c7) k (txC (T.take k)) from own_keep HJ.out.own (Below.drew ((Below.refl _ w7).alloc (Nat.le_refl _) _)))
      go_region_law (first
        | (refine step_append_lies _ rfl _ _ 34 rfl w5.heap.size 9 ii0 (.string ⟨#[]⟩) 1 16 Tryz.underlying34 hi hz0 hz1 hz2 rfl (by decide) (.slice A7 k c7) k (txC (T.take k)) (by simp [Act.eval]) HOO.out ⟨w7.heap.size, 0, none⟩ 2 2 [.string TK, .string TK] (by simp [Act.eval]) rfl HN2.out (by intro u hu; simp at hu; subst hu; rfl) (by decide) (by unfold maxLen; omega) (by omega) (by have := HJ.out.below.size; simp; omega) _ rfl ?_; intro g9 c9 w9 hown9 hgrow9 hat9 hlt9; (have J9 := HJ.out.grow2 (k := 2) (ps := [T[k]'hkn, T[k]'hkn]) (Below.drew ((Below.refl _ w7).alloc (Nat.le_refl _) _)) (by rw [show txC [T[k]'hkn, T[k]'hkn] = [.string TK, .string TK] from by rw [show txC [T[k]'hkn, T[k]'hkn] = txC [T[k]'hkn] ++ txC [T[k]'hkn] from rfl, HTK.out.2.1]; rfl]; exact hown9) hgrow9 rfl (by intro p hp; simp only [List.mem_cons, List.not_mem_nil, or_false] at hp; rcases hp with rfl | rfl <;> exact HTK.out.2.2)); (have HJ9 := Lib.hid J9); clear hown9 hgrow9 hat9 hlt9 J9))
      all_goals
        have HFIN := Lib.hid (fun (W9 : World) (A9 : Option Addr) (c9 : Nat) (J9 : JX w5 W9 A9 (k + 2 + (n - (k + 1))) c9 ((T.take k ++ [T[k]'hkn, T[k]'hkn]) ++ T.drop (k + 1))) => fin_ok HLI.out.1 HLI.out.2 HP.out.1 HP.out.2 H5.out.2.2.2.2 J9 (by omega))
        go_upto_region 16 with (first
          | (at_builtin; go_loud (refine wpList_append_own _ rfl _ _ 34 rfl w5.heap.size 9 ii0 (.string ⟨#[]⟩) 1 16 Tryz.underlying34 hi hz0 hz1 hz2 rfl (by decide) (.slice (some ⟨g9, 0, none⟩) (k + 2) c9) (k + 2) (txC ((T.take k ++ [T[k]'hkn, T[k]'hkn]))) rfl HJ9.out.own ad5 (n - (k + 1)) (ct - (k + 1)) (txC (T.drop (k + 1))) rfl HDR.out.2.1 (HDR.out.1 _ HJ9.out.below) (by intro u hu; unfold txC at hu; obtain ⟨_, _, rfl⟩ := List.mem_map.1 hu; rfl) (by unfold maxLen; omega) (by omega) (by have := HJ9.out.below.size; simp; omega) ?_; intro v' wf hownf hgrowf _; (obtain ⟨Af, cf, rfl, Jf⟩ := HJ9.out.grow (Below.refl _ _) hownf hgrowf HDR.out.2.2.1 HDR.out.2.2.2); (have HJf := Lib.hid Jf); clear hownf hgrowf Jf))
          | (fail "arm"))
        have HF := HFIN.out wf Af cf HJf.out
        obtain ⟨R, hR⟩ : ∃ z, str (joinG g 0 ((T.take k ++ [T[k]'hkn, T[k]'hkn]) ++ T.drop (k + 1))) = z := ⟨_, rfl⟩
        rw [hR] at HF
        have HF := Lib.hid HF
        clear hR
        go_upto_region 17 with (first
          | (go_at_call 20; ((with_reducible refine HF.out.1.mono ?_); rintro en wg ⟨rfl, hbg⟩; (have HG := Lib.hid (Below.then_ HF.out.2.1 hbg)); clear hbg))
          | (go_at_call 16; ((with_reducible refine (HF.out.2.2 _ HG.out).mono ?_); rintro en wh ⟨rfl, hbh⟩; (have HH := Lib.hid (Below.then_ HG.out hbh)); clear hbh))
          | (fail "arm"))
        go_wp2
        go_ret
        exact ⟨rfl, HH.out⟩
    · have y0 := HOJ.out.1 w7 HJ.out.below
      have c2' : w7.cell? ⟨g0, 2, none⟩ = some (.int .i64 x2) := (H5.out.2.2.2.1.below HJ.out.below H5.out.2.2.2.1.lt).cell 2
      have HNW := Lib.hid (show ∀ j u, ([.string OJ] : List Value)[j]? = some u → (w7.alloc (.cells #[.string OJ] 9)).cell? ((⟨w7.heap.size, 0, none⟩ : Addr).add j) = some u from fun j u hj => by
        obtain ⟨a2, e, _, hc⟩ := ((Full.new w7 9 [.string OJ]).row 1 1 rfl 1 (Nat.le_refl _)).2.2.2 j u hj
        injection e with e
        subst e
        exact hc)
      go_upto_region 15 with (first
        | (go_at_call 19; ((with_reducible refine (MJ.out _).mono ?_); rintro en w8 ⟨rfl, rfl⟩))
        | (at_builtin; go_loud (refine wpList_append_own _ rfl _ _ 34 rfl w5.heap.size 9 ii0 (.string ⟨#[]⟩) 1 16 Tryz.underlying34 hi hz0 hz1 hz2 rfl (by decide) (.slice A7 k c7) k (txC (T.take k)) rfl (HJ.out.own.alloc _) ⟨w7.heap.size, 0, none⟩ 1 1 [.string OJ] rfl rfl HNW.out (by intro u hu; simp at hu; subst hu; rfl) (by unfold maxLen; omega) (by omega) (by have := HJ.out.below.size; simp; omega) ?_; intro v' w9 hown9 hgrow9 _; (obtain ⟨A9, c9', rfl, J9⟩ := HJ.out.grow (k := 1) (ps := [others.getD j []]) ((Below.refl _ w7).alloc (Nat.le_refl _) _) (by rw [HOJ.out.2.1]; exact hown9) hgrow9 rfl (by intro p hp; simp only [List.mem_singleton] at hp; subst hp; exact HOJ.out.2.2)); (have HJ9 := Lib.hid J9); clear hown9 hgrow9 J9))
        | (fail "arm"))
      have HFIN := Lib.hid (fun (W9 : World) (A9 : Option Addr) (c9 : Nat) (J9 : JX w5 W9 A9 (k + 1 + (n - (k + 1))) c9 ((T.take k ++ [others.getD j []]) ++ T.drop (k + 1))) => fin_ok HLI.out.1 HLI.out.2 HP.out.1 HP.out.2 H5.out.2.2.2.2 J9 (by omega))
      go_upto_region 16 with (first
        | (at_builtin; go_loud (refine wpList_append_own _ rfl _ _ 34 rfl w5.heap.size 9 ii0 (.string ⟨#[]⟩) 1 16 Tryz.underlying34 hi hz0 hz1 hz2 rfl (by decide) (.slice A9 (k + 1) c9') (k + 1) (txC ((T.take k ++ [others.getD j []]))) rfl HJ9.out.own ad5 (n - (k + 1)) (ct - (k + 1)) (txC (T.drop (k + 1))) rfl HDR.out.2.1 (HDR.out.1 _ HJ9.out.below) (by intro u hu; unfold txC at hu; obtain ⟨_, _, rfl⟩ := List.mem_map.1 hu; rfl) (by unfold maxLen; omega) (by omega) (by have := HJ9.out.below.size; simp; omega) ?_; intro v' wf hownf hgrowf _; (obtain ⟨Af, cf, rfl, Jf⟩ := HJ9.out.grow (Below.refl _ _) hownf hgrowf HDR.out.2.2.1 HDR.out.2.2.2); (have HJf := Lib.hid Jf); clear hownf hgrowf Jf))
        | (fail "arm"))
      have HF := HFIN.out wf Af cf HJf.out
      obtain ⟨R, hR⟩ : ∃ z, str (joinG g 0 ((T.take k ++ [others.getD j []]) ++ T.drop (k + 1))) = z := ⟨_, rfl⟩
      rw [hR] at HF
      have HF := Lib.hid HF
      clear hR
      go_upto_region 17 with (first
        | (go_at_call 20; ((with_reducible refine HF.out.1.mono ?_); rintro en wg ⟨rfl, hbg⟩; (have HG := Lib.hid (Below.then_ HF.out.2.1 hbg)); clear hbg))
        | (go_at_call 16; ((with_reducible refine (HF.out.2.2 _ HG.out).mono ?_); rintro en wh ⟨rfl, hbh⟩; (have HH := Lib.hid (Below.then_ HG.out hbh)); clear hbh))
        | (fail "arm"))
      go_wp2
      go_ret
      exact ⟨rfl, HH.out⟩
    · have y0 : w7.drew.cell? (ad.add k) = some (.string TK) := HTK.out.1 w7 HJ.out.below
      have y1 : w7.drew.cell? ⟨gk, j, none⟩ = some (.string OJ) := HOJ.out.1 w7 HJ.out.below
      have y2 : w7.drew.cell? ⟨g0, 2, none⟩ = some (.int .i64 x2) := (H5.out.2.2.2.1.below HJ.out.below H5.out.2.2.2.1.lt).cell 2
      go_upto_region 14 with fail
      have HNW := Lib.hid (show ∀ j u, ([.string OJ, .string TK] : List Value)[j]? = some u → (w7.alloc (.cells #[.string OJ, .string TK] 9)).drew.cell? ((⟨w7.heap.size, 0, none⟩ : Addr).add j) = some u from fun j u hj => by
        obtain ⟨a2, e, _, hc⟩ := ((Full.new w7 9 [.string OJ, .string TK]).row 1 2 rfl 2 (Nat.le_refl _)).2.2.2 j u hj
        injection e with e
        subst e
        exact hc)
      have HOO := Lib.hid (show (w7.alloc (.cells #[.string OJ, .string TK] 9)).drew.ownsRow w5.heap.size 9 1 (.slice A7 k c7) k (txC (T.take k)) from own_keep HJ.out.own (Below.drew ((Below.refl _ w7).alloc (Nat.le_refl _) _)))
      go_region_law (first
        | (refine step_call_fn rfl 19 _ _ rfl #[.int .i64 x2, .int .i64 17] (by rfl) (enters_of Tryz.func19 (by kernel_rfl) rfl) (MJ.out _) ?_; rintro en w8 ⟨rfl, rfl⟩; refine ⟨_, rfl, ?_⟩)
        | (refine step_append_lies _ rfl _ _ 34 rfl w5.heap.size 9 ii0 (.string ⟨#[]⟩) 1 16 Tryz.underlying34 hi hz0 hz1 hz2 rfl (by decide) (.slice A7 k c7) k (txC (T.take k)) (by simp [Act.eval]) HOO.out ⟨w7.heap.size, 0, none⟩ 2 2 [.string OJ, .string TK] (by simp [Act.eval]) rfl HNW.out (by intro u hu; simp at hu; rcases hu with rfl | rfl <;> rfl) (by decide) (by unfold maxLen; omega) (by omega) (by have := HJ.out.below.size; simp; omega) _ rfl ?_; intro g9 c9 w9 hown9 hgrow9 hat9 hlt9; (have J9 := HJ.out.grow2 (k := 2) (ps := [others.getD j [], T[k]'hkn]) (Below.drew ((Below.refl _ w7).alloc (Nat.le_refl _) _)) (by rw [show txC [others.getD j [], T[k]'hkn] = [.string OJ, .string TK] from by rw [show txC [others.getD j [], T[k]'hkn] = txC [others.getD j []] ++ txC [T[k]'hkn] from rfl, HOJ.out.2.1, HTK.out.2.1]; rfl]; exact hown9) hgrow9 rfl (by intro p hp; simp only [List.mem_cons, List.not_mem_nil, or_false] at hp; rcases hp with rfl | rfl; exact HOJ.out.2.2; exact HTK.out.2.2)); (have HJ9 := Lib.hid J9); clear hown9 hgrow9 hat9 hlt9 J9))
      all_goals
        have HFIN := Lib.hid (fun (W9 : World) (A9 : Option Addr) (c9 : Nat) (J9 : JX w5 W9 A9 (k + 2 + (n - (k + 1))) c9 ((T.take k ++ [others.getD j [], T[k]'hkn]) ++ T.drop (k + 1))) => fin_ok HLI.out.1 HLI.out.2 HP.out.1 HP.out.2 H5.out.2.2.2.2 J9 (by omega))
        go_upto_region 16 with (first
          | (at_builtin; go_loud (refine wpList_append_own _ rfl _ _ 34 rfl w5.heap.size 9 ii0 (.string ⟨#[]⟩) 1 16 Tryz.underlying34 hi hz0 hz1 hz2 rfl (by decide) (.slice (some ⟨g9, 0, none⟩) (k + 2) c9) (k + 2) (txC ((T.take k ++ [others.getD j [], T[k]'hkn]))) rfl HJ9.out.own ad5 (n - (k + 1)) (ct - (k + 1)) (txC (T.drop (k + 1))) rfl HDR.out.2.1 (HDR.out.1 _ HJ9.out.below) (by intro u hu; unfold txC at hu; obtain ⟨_, _, rfl⟩ := List.mem_map.1 hu; rfl) (by unfold maxLen; omega) (by omega) (by have := HJ9.out.below.size; simp; omega) ?_; intro v' wf hownf hgrowf _; (obtain ⟨Af, cf, rfl, Jf⟩ := HJ9.out.grow (Below.refl _ _) hownf hgrowf HDR.out.2.2.1 HDR.out.2.2.2); (have HJf := Lib.hid Jf); clear hownf hgrowf Jf))
          | (fail "arm"))
        have HF := HFIN.out wf Af cf HJf.out
        obtain ⟨R, hR⟩ : ∃ z, str (joinG g 0 ((T.take k ++ [others.getD j [], T[k]'hkn]) ++ T.drop (k + 1))) = z := ⟨_, rfl⟩
        rw [hR] at HF
        have HF := Lib.hid HF
        clear hR
        go_upto_region 17 with (first
          | (go_at_call 20; ((with_reducible refine HF.out.1.mono ?_); rintro en wg ⟨rfl, hbg⟩; (have HG := Lib.hid (Below.then_ HF.out.2.1 hbg)); clear hbg))
          | (go_at_call 16; ((with_reducible refine (HF.out.2.2 _ HG.out).mono ?_); rintro en wh ⟨rfl, hbh⟩; (have HH := Lib.hid (Below.then_ HG.out hbh)); clear hbh))
          | (fail "arm"))
        go_wp2
        go_ret
        exact ⟨rfl, HH.out⟩
theorem contract (H : Type) (enc : TypeId × Value → H) (W : World) (base : Nat) (args : Array Value) (ds gs : List (DataW H)) (before : List MemPlace)
    (hval : ∀ (j : Nat) t v, Tryz.f4.params[j]? = some t → args[j]? = some v → Value.okWide Tryz.prog W .any base t v)
    (hW : DataW.Whole enc Tryz.prog Tryz.f4.params.toList Rows.syntaxChangedSpec.vars false W args.toList ds gs before) (hT : Laid W ∧ Ito W) :
    Calls Tryz.prog 4 args W fun e W' => ∃ v, e = .returned v ∧ Rows.syntaxChangedSpec.post enc Tryz.prog Tryz.f4 false true false false W args v W' := by
  have hW' := hW
  obtain ⟨p, q, hA0, hV, rfl, hfz, hnd⟩ := hW
  have hA : DataW.TrodAll enc Tryz.prog W 0 (fun _ => true) true Tryz.f4.params.toList args.toList ds p := hA0
  rw [Tryz.params4] at hA hval
  obtain ⟨v0, vs0, d0, ds0, p0, q0, e0, rfl, rfl, h0, r0⟩ := trodAll_cons hA
  obtain ⟨v1, vs1, d1, ds1, p1, q1, e1, rfl, rfl, h1, r1⟩ := trodAll_cons r0
  obtain ⟨v2, vs2, d2, ds2, p2, q2, e2, rfl, rfl, h2, r2⟩ := trodAll_cons r1
  obtain ⟨rfl, rfl, rfl⟩ := trodAll_nil r2
  obtain rfl : args = #[v0, v1, v2] := by cases args; simp_all
  obtain ⟨rfl, rfl⟩ := trodVars_none hV
  obtain ⟨A, l, c, rfl, hP, hl⟩ := open_ints h0 (hval 0 22 v0 rfl rfl)
  obtain ⟨x0, x1, x2, rfl, _, _, _⟩ := open_triple (hval 1 33 v1 rfl rfl) h1
  obtain ⟨A2, g, c2, rfl, hP2, hl2⟩ := open_ints h2 (hval 2 22 v2 rfl rfl)
  refine (walk A l c x0 x1 x2 A2 g c2 hT.1 hT.2 hP hl hP2 hl2).mono fun e W' ⟨he, hb⟩ => ⟨_, he, law_post rfl rfl ?_ rfl rfl rfl hW' hb⟩
  rw [Tryz.params4]
  intro t ht
  have ht' : t = 22 ∨ t = 33 := by
    have h3 : t = 22 ∨ t = 33 ∨ t = 22 := by simpa using ht
    rcases h3 with e | e | e
    · exact .inl e
    · exact .inr e
    · exact .inl e
  rcases ht' with rfl | rfl <;> exact ⟨by kernel_rfl, of_decide_eq_true (by kernel_rfl)⟩

theorem laid_met (os : Os) : laidMet Tryz.prog Rows.syntaxChangedRow.laid ((laidWorld os).forCall (fun _ _ => 0) ⟨#[], #[.slice none 0 0, .agg #[.int .i64 0, .int .i64 0, .int .i64 0], .slice none 0 0], []⟩).memory := laid_run os #[.slice none 0 0, .agg #[.int .i64 0, .int .i64 0, .int .i64 0], .slice none 0 0]
theorem reads (os : Os) {H : Type} (enc : TypeId × Value → H) : ∃ ds places, DataW.whole enc Tryz.prog ((laidWorld os).forCall (fun _ _ => 0) ⟨#[], #[.slice none 0 0, .agg #[.int .i64 0, .int .i64 0, .int .i64 0], .slice none 0 0], []⟩).memory Tryz.f4.params.toList Rows.syntaxChangedSpec.vars false (#[.slice none 0 0, .agg #[.int .i64 0, .int .i64 0, .int .i64 0], .slice none 0 0] : Array Value).toList 8 = some (ds, [], places) ∧ Rows.uptoSmall H (ds ++ []) = true :=
  ⟨[.nil, .agg [.lit (.int .i64 0), .lit (.int .i64 0), .lit (.int .i64 0)], .nil], [], by kernel_rfl, by kernel_rfl⟩

set_option maxRecDepth 100000 in
theorem lifted (os : Os) (started : os.Started) (H : Type) (enc : TypeId × Value → H) (F : Stop.Interp) :
    ReturnsInHanded {} Tryz.checked os 4 .any ((OpenSpec.ofChange Rows.syntaxChangedSpec).preRow enc Tryz.prog Tryz.f4 Rows.syntaxChangedRow.domain false Rows.syntaxChangedRow.laid) (((OpenSpec.ofChange Rows.syntaxChangedSpec).at F).post enc Tryz.prog Tryz.f4 false true false false) := by
  obtain ⟨ds, places, hx, hsm⟩ := reads os enc
  refine returnsInHanded_of_row (C := Tryz.checked) (s := (OpenSpec.ofChange Rows.syntaxChangedSpec)) ownKnob_none started (by kernel_rfl) Tryz.func4
    (witness_row_at (enc := enc) (C := Tryz.checked) false (laidWorld os) #[.slice none 0 0, .agg #[.int .i64 0, .int .i64 0, .int .i64 0], .slice none 0 0] rfl (by kernel_rfl) (by kernel_rfl) (by kernel_rfl)
      (OpenSpec.preRow_of_cond 8 hx (by kernel_rfl) (fun k hk => by cases hk) (by kernel_rfl) (laid_met os))) ?_
  intro W base args ds gs before hval hW _ _ _ hL _ _
  exact contract H enc W base args ds gs before hval hW (laid_both (show laidMet Tryz.prog theLaid W from hL))

theorem said : Rows.SyntaxChangedSaid :=
  OpenClaim.holds_of_cond 4 Tryz.f4 rfl rfl rfl rfl rfl rfl rfl ⟨rfl, rfl, rfl, rfl, rfl⟩ rfl rfl rfl rfl rfl (by kernel_rfl) Tryz.func4 (by kernel_rfl)
    (of_decide_eq_true (by kernel_rfl)) (by unfold Func.isWrapper; first | (rw [if_pos (by decide +kernel)]; kernel_rfl) | (rw [if_neg (by decide +kernel)]; exact ⟨rfl, rfl⟩))
    (fun os started H enc _ F => by rw [OpenClaim.pre_eq_preRow]; exact lifted os started H enc F)

theorem plain (f : FuncId) (fn : Func) (hf : Tryz.pinned.checked.prog.funcNamed "mainline/mainlinelaw11.SyntaxChanged" = some f) (hfn : Tryz.pinned.checked.prog.funcs[f]? = some fn) :
    true = Tryz.pinned.checked.prog.looks [] ∧ ∀ (j : Nat) t, fn.params[j]? = some t → Tryz.pinned.checked.prog.wantsStandIn t = false := by
  obtain rfl : f = 4 := Option.some.inj ((show Tryz.prog.funcNamed "mainline/mainlinelaw11.SyntaxChanged" = some 4 by kernel_rfl).symm.trans hf) |>.symm
  obtain rfl : fn = Tryz.f4 := (Option.some.inj (Tryz.func4.symm.trans hfn)).symm
  refine ⟨by kernel_rfl, fun j t ht => ?_⟩
  rw [Tryz.params4] at ht
  have hm : t ∈ [22, 33] := by
    have h2 := Array.mem_of_getElem? ht
    have h3 : t = 22 ∨ t = 33 ∨ t = 22 := by simpa using h2
    rcases h3 with rfl | rfl | rfl <;> simp
  have hall : ([22, 33].all fun u => !Tryz.prog.wantsStandIn u) = true := by kernel_rfl
  exact (show Tryz.prog.wantsStandIn t = false by simpa using List.all_eq_true.1 hall t hm)

theorem card : Rows.SyntaxChangedCardSaid :=
  Claim7.holds_tied_plain_at .later [] _ _ _ _ said (fun _ h => by cases h) (by kernel_rfl) (fun _ h => by cases h) syntaxChanged_row_tie rfl ⟨rfl, rfl⟩ (by kernel_rfl) rfl plain (by kernel_rfl)

end Go.Proofs.YtcjoiiaankngjaaGreatDoor.lchg
