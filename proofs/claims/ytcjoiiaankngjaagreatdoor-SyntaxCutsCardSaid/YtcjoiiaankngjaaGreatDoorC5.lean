/- The Syntax seat, part 5: contracts of the program and of the reference. -/
import Derived.Test.YtcjoiiaankngjaaGreatDoorC4
import Derived.Test.YtcjoiiaankngjaaGreatDoorCards
import Derived.LaidLaws
namespace Go.Proofs.YtcjoiiaankngjaaGreatDoor
set_option maxRecDepth 100000
open Go.RowKit
theorem rPlGate_at (l : List RTok) (x : RSt) : (rPlGate l x).at_ = x.at_ := by
 unfold rPlGate
 split
 · rw [rFail_at]
 · rfl
theorem rPlatform_le (l : List RTok) (x : RSt) : x.at_ ≤ (rPlatform l x).2.at_ := by
 unfold rPlatform
 have h := rAny_le 1 l (rPlGate l x)
 rw [rPlGate_at] at h
 exact h
theorem rPlOne_le (l : List RTok) (a : List Itm) (x : RSt) : x.at_ ≤ (rPlOne l a x).at_ := by
 unfold rPlOne
 have h := rPlatform_le l x
 split
 · rw [rFail_at]; exact h
 · exact h
set_option maxHeartbeats 32000000 in
theorem rplats_any {w : World} {bs b : Nat} {A : Option Addr} {c : Nat} {l : List RTok} {x : RSt} (h : RS w bs b A c l x) (hl : LOk l) (hn : l.length ≤ 8589934590) :
   Calls Tryz.prog 47 #[.pointer (some ⟨b, 0, none⟩)] w (fun en w' => ∃ A' n' c', en = .returned (.slice A' n' c') ∧ RI w bs b w.heap.size A c l (.slice none 0 0) w' (rPlats l x).2 A' n' c' (rPlats l x).1) := by
 obtain ⟨i0, hi, hz0, hz1, hz2⟩ := info_parts info52
 have H0 := Lib.hid (show RI w bs b w.heap.size A c l (.slice none 0 0) w x none 0 0 [] from ⟨h, ⟨rfl, .inl ⟨rfl, rfl⟩⟩, rfl, fun g e => .inl e, Turn.refl _ _, h.fu.lt⟩)
 unfold rPlats
 dsimp only
 obtain ⟨⟨RA, RX⟩, hr⟩ : ∃ p, rPls l (l.length + 1) [] x = p := ⟨_, rfl⟩
 rw [hr]
 dsimp only
 obtain ⟨x9, hx9⟩ : ∃ y, rNeed 4 [59] l RX = y := ⟨_, rfl⟩
 rw [hx9]
 have HNE := Lib.hid (fun (W : World) (H : RS W bs b A c l RX) => (by
   have z := rneed_any H hl 4 (by decide) (by decide) [59]
   unfold RdOut at z
   rw [hx9] at z
   exact z : Calls Tryz.prog 48 #[.pointer (some ⟨b, 0, none⟩), .int .i64 4, .string ⟨#[59]⟩] W (fun en w' => en = .returned (.tuple #[]) ∧ RS w' bs b A c l x9 ∧ Turn (fun g => g = b) W w')))
 have hle := h.le
 have HR := Lib.hid hr
 have HL := Lib.hid hl
 clear hr hx9 h hl
 go_enter Tryz.func47, Tryz.ntmps47
 go_upto_region 2 with fail
 go_loopw [3] (fun v3 wr => ∃ (A' : Option Addr) (n c' f : Nat) (acc : List Itm) (x' : RSt), v3 = .slice A' n c' ∧ n ≤ l.length ∧ Hid (RI w bs b w.heap.size A c l (.slice none 0 0) wr x' A' n c' acc) ∧ Hid (acc.length ≤ x'.at_) ∧ Hid (l.length < f + x'.at_) ∧ Hid (rPls l f acc x' = (RA, RX))) (fun v3 _ => match v3 with | .slice _ n _ => l.length + 1 - n | _ => 0)
 case atStart => exact ⟨none, 0, 0, l.length + 1, [], x, rfl, Nat.zero_le _, H0, Lib.hid (Nat.zero_le _), Lib.hid (by omega), HR⟩
 case round =>
   obtain ⟨A', n, c', f, acc, x', rfl, hnb, HI, HA1, HA2, HM⟩ := hrel
   obtain ⟨e, he⟩ : ∃ e, x'.e = e := ⟨_, rfl⟩
   have c2 : wr.cell? ⟨b, 2, none⟩ = some (.int .i64 e) := by rw [← he]; exact HI.out.rs.fu.cell 2
   obtain ⟨f, rfl⟩ : ∃ k, f = k + 1 := ⟨f - 1, by have := HA2.out; have := HI.out.rs.lt; omega⟩
   have hm := HM.out
   rw [rPls] at hm
   have hnl : n + 1 ≤ l.length := by
     have := HA1.out
     have := HI.out.len
     have := HI.out.rs.lt
     omega
   by_cases e0 : e = 0
   · rw [if_pos (he.trans e0)] at hm
     have q1 : (e == 0) = true := by rw [e0]; rfl
     have hone := rPlOne_le l acc x'
     have HPL := Lib.hid (fun (W : World) (H : RS W bs b A c l x') => (by
       have z := rplatform_any H HL.out
       unfold RdOut rtV at z
       exact z : Calls Tryz.prog 79 #[.pointer (some ⟨b, 0, none⟩)] W (fun en w' => en = .returned (.agg #[.int .i64 (rPlatform l x').1.kd, .string (str (rPlatform l x').1.tx), .int .i64 ((rPlatform l x').1.ln : Int)]) ∧ RS w' bs b A c l (rPlatform l x').2 ∧ Turn (fun g => g = b) W w')))
     obtain ⟨⟨tk, x2⟩, hx2⟩ : ∃ p, rPlatform l x' = p := ⟨_, rfl⟩
     have hpo : rPlOne l acc x' = if rHas acc tk.tx then rFail 42 (tk.ln : Int) x2 else x2 := by unfold rPlOne; rw [hx2]
     rw [hx2] at HPL hm
     dsimp only at HPL hm
     obtain ⟨x4, h4⟩ : ∃ z, rPlOne l acc x' = z := ⟨_, rfl⟩
     rw [h4] at hone hm hpo
     have htat := rTake_at 4 [44] l x4
     have HTC := Lib.hid (fun (W : World) (H : RS W bs b A c l x4) => (by
       have z := rtake_any H HL.out 4 (by decide) (by decide) [44]
       unfold RdOut at z
       exact z : Calls Tryz.prog 46 #[.pointer (some ⟨b, 0, none⟩), .int .i64 4, .string ⟨#[44]⟩] W (fun en w' => en = .returned (.bool (rTake 4 [44] l x4).1) ∧ RS w' bs b A c l (rTake 4 [44] l x4).2 ∧ Turn (fun g => g = b) W w')))
     obtain ⟨m, hmm⟩ : ∃ z, (rTake 4 [44] l x4).1 = z := ⟨_, rfl⟩
     obtain ⟨x5, h5⟩ : ∃ z, (rTake 4 [44] l x4).2 = z := ⟨_, rfl⟩
     rw [hmm, h5] at HTC htat hm
     obtain ⟨it, hit⟩ : ∃ i : Itm, (⟨tk.tx, false, [], tk.ln⟩ : Itm) = i := ⟨_, rfl⟩
     rw [hit] at hm
     obtain ⟨y0, hy0⟩ : ∃ y, tk.kd = y := ⟨_, rfl⟩
     obtain ⟨y1, hy1⟩ : ∃ y, str tk.tx = y := ⟨_, rfl⟩
     obtain ⟨y2, hy2⟩ : ∃ y : Nat, tk.ln = y := ⟨_, rfl⟩
     have HC := Lib.hid (show itmC it = [.string y1, .bool false, .string ⟨#[]⟩, .int .i64 (y2 : Int)] by rw [← hit, ← hy1, ← hy2]; rfl)
     obtain ⟨tw, htw⟩ : ∃ z, rHas acc tk.tx = z := ⟨_, rfl⟩
     have HHS := Lib.hid (fun (W : World) (x8 : RSt) (H : RI w bs b w.heap.size A c l (.slice none 0 0) W x8 A' n c' acc) => (by
       have hr : Itms W W.heap.size A' c' acc := by
         have z := Row.own H.row
         rw [H.len] at z
         exact z
       have z := rhas_any hr (Nat.le_refl _) (by have := H.len; unfold maxLen; omega) tk.tx
       unfold BoolB at z
       rw [htw, hy1, ← H.len] at z
       exact z : Calls Tryz.prog 40 #[.slice A' n c', .string y1] W (fun en w' => en = .returned (.bool tw) ∧ Below W.heap.size W w')))
     rw [hy0, hy1, hy2] at HPL
     rw [htw, hy2] at hpo
     have HFL := Lib.hid (fun (W : World) (H : RS W bs b A c l x2) => rfail_any H 42 (y2 : Int))
     unfold RdOut at HFL
     have HAT := Lib.hid htat
     have HONE := Lib.hid hone
     have HM2 := Lib.hid hm
     have HCN := Lib.hid (fun (W : World) (g : Nat) (hg : W.heap.size = g) => show ∀ j u, [Value.string y1, .bool false, .string ⟨#[]⟩, .int .i64 (y2 : Int)][j]? = some u → (W.alloc (.cells #[.string y1, .bool false, .string ⟨#[]⟩, .int .i64 (y2 : Int)] 52)).cell? ((⟨g, 0, none⟩ : Addr).add j) = some u from fun j u hj => by
       subst hg
       obtain ⟨ad, e, _, hc⟩ := ((Full.new W 52 [.string y1, .bool false, .string ⟨#[]⟩, .int .i64 (y2 : Int)]).row 4 1 rfl 1 (Nat.le_refl _)).2.2.2 j u hj
       injection e with e
       subst e
       exact hc)
     have HC1 := Lib.hid (show ∀ u ∈ [Value.string y1, .bool false, .string ⟨#[]⟩, .int .i64 (y2 : Int)], u.oneCell' = true from by
       intro u hu
       simp at hu
       rcases hu with rfl | rfl | rfl | rfl <;> rfl)
     clear htat hone hm hmm h5 hit hy0 hy1 hy2 htw h4 hx2 HM he
     go_upto_region 4 with (first
       | (go_at_call 79; ((with_reducible refine (HPL.out _ HI.out.rs).mono ?_); rintro en w3 ⟨rfl, h3, ht3⟩; (have H3 := Lib.hid (HI.out.call h3 ht3)); clear h3 ht3))
       | (fail "arm"))
     obtain ⟨w4, hw4⟩ : ∃ w4, w3.alloc (.cells #[.int .i64 y0, .string y1, .int .i64 (y2 : Int)] 70) = w4 := ⟨_, rfl⟩
     have hb4 : Below w3.heap.size w3 w4 := by rw [← hw4]; exact (Below.refl _ w3).alloc (Nat.le_refl _) _
     have F4 : Full w4 w3.heap.size 70 [.int .i64 y0, .string y1, .int .i64 (y2 : Int)] := by rw [← hw4]; exact Full.new w3 70 _
     obtain ⟨u, hu⟩ : ∃ u, w3.heap.size = u := ⟨_, rfl⟩
     rw [hu] at F4
     have hub : u ≠ b := by have := H3.out.rs.fu.lt; omega
     have HW4 := Lib.hid (And.intro (H3.out.on hb4) F4)
     have z1 : w4.cell? ⟨u, 1, none⟩ = some (.string y1) := F4.cell 1
     have z2 : w4.cell? ⟨u, 2, none⟩ = some (.int .i64 (y2 : Int)) := F4.cell 2
     rw [hw4, hu]
     clear hw4 hu hb4 F4 H3
     cases tw with
     | false =>
       rw [if_neg Bool.false_ne_true] at hpo
       subst hpo
       cases m with
       | true =>
         have hm2 := HM2.out
         rw [if_pos rfl] at hm2
         have hat5 := HAT.out
         rw [if_pos rfl] at hat5
         have HMM := Lib.hid hm2
         clear hm2
         go_wp2_with (first
           | (go_at_call 40; ((with_reducible refine (HHS.out _ _ HW4.out.1).mono ?_); rintro en w5 ⟨rfl, hb5⟩; (have H5 := Lib.hid (HW4.out.1.on hb5)); (have F5 := Lib.hid (HW4.out.2.on hb5)); (have z1 : w5.cell? ⟨u, 1, none⟩ = some (.string y1) := F5.out.cell 1); (have z2 : w5.cell? ⟨u, 2, none⟩ = some (.int .i64 (y2 : Int)) := F5.out.cell 2); clear hb5))
           | (at_builtin; go_loud (refine wpList_append_lies _ rfl _ _ 25 rfl w.heap.size 52 i0 (.agg #[.string ⟨#[]⟩, .bool false, .string ⟨#[]⟩, .int .i64 0]) 4 48 Tryz.underlying25 hi hz0 hz1 hz2 rfl (by decide) (.slice A' n c') n (itmsC acc) rfl (H5.out.row.alloc _) ⟨w5.heap.size, 0, none⟩ 1 1 [.string y1, .bool false, .string ⟨#[]⟩, .int .i64 (y2 : Int)] rfl rfl (HCN.out w5 w5.heap.size rfl) HC1.out (by decide) (by unfold maxLen; omega) (by omega) (by have := H5.out.tn.size; simp; omega) _ rfl ?_; intro g9 c9 w9 hown9 hgrow9 hat9 hlt9; (rw [← HC.out] at hown9); (have H9 := Lib.hid ((H5.out.on ((Below.refl _ w5).alloc (Nat.le_refl _) _)).grow hown9 hgrow9 hat9)); clear hown9 hgrow9 hat9 hlt9))
           | (go_at_call 46; ((with_reducible refine (HTC.out _ H9.out.rs).mono ?_); rintro en w10 ⟨rfl, h10, ht10⟩; (have H10 := Lib.hid (H9.out.call h10 ht10)); clear h10 ht10))
           | (fail "arm"))
         go_roundw
         case rel => exact ⟨some ⟨g9, 0, none⟩, n + 1, c9, f, acc ++ [it], x5, rfl, hnl, H10, Lib.hid (by have := HA1.out; have := HONE.out; simp only [List.length_append, List.length_cons, List.length_nil]; omega), Lib.hid (by have := HA2.out; have := HONE.out; omega), HMM⟩
         case measure => show l.length + 1 - (n + 1) < l.length + 1 - n; omega
       | false =>
         have hm2 := HM2.out
         rw [if_neg Bool.false_ne_true] at hm2
         injection hm2 with e1 e2
         subst e1
         subst e2
         go_wp2_with (first
           | (go_at_call 40; ((with_reducible refine (HHS.out _ _ HW4.out.1).mono ?_); rintro en w5 ⟨rfl, hb5⟩; (have H5 := Lib.hid (HW4.out.1.on hb5)); (have F5 := Lib.hid (HW4.out.2.on hb5)); (have z1 : w5.cell? ⟨u, 1, none⟩ = some (.string y1) := F5.out.cell 1); (have z2 : w5.cell? ⟨u, 2, none⟩ = some (.int .i64 (y2 : Int)) := F5.out.cell 2); clear hb5))
           | (at_builtin; go_loud (refine wpList_append_lies _ rfl _ _ 25 rfl w.heap.size 52 i0 (.agg #[.string ⟨#[]⟩, .bool false, .string ⟨#[]⟩, .int .i64 0]) 4 48 Tryz.underlying25 hi hz0 hz1 hz2 rfl (by decide) (.slice A' n c') n (itmsC acc) rfl (H5.out.row.alloc _) ⟨w5.heap.size, 0, none⟩ 1 1 [.string y1, .bool false, .string ⟨#[]⟩, .int .i64 (y2 : Int)] rfl rfl (HCN.out w5 w5.heap.size rfl) HC1.out (by decide) (by unfold maxLen; omega) (by omega) (by have := H5.out.tn.size; simp; omega) _ rfl ?_; intro g9 c9 w9 hown9 hgrow9 hat9 hlt9; (rw [← HC.out] at hown9); (have H9 := Lib.hid ((H5.out.on ((Below.refl _ w5).alloc (Nat.le_refl _) _)).grow hown9 hgrow9 hat9)); clear hown9 hgrow9 hat9 hlt9))
           | (go_at_call 46; ((with_reducible refine (HTC.out _ H9.out.rs).mono ?_); rintro en w10 ⟨rfl, h10, ht10⟩; (have H10 := Lib.hid (H9.out.call h10 ht10)); clear h10 ht10))
           | (go_at_call 48; ((with_reducible refine (HNE.out _ H10.out.rs).mono ?_); rintro en w11 ⟨rfl, h11, ht11⟩; (have H11 := Lib.hid (H10.out.call h11 ht11)); clear h11 ht11))
           | (fail "arm"))
         go_ret
         exact ⟨some ⟨g9, 0, none⟩, n + 1, c9, rfl, H11.out⟩
     | true =>
       rw [if_pos rfl] at hpo
       rw [← hpo] at HFL
       clear hpo
       cases m with
       | true =>
         have hm2 := HM2.out
         rw [if_pos rfl] at hm2
         have hat5 := HAT.out
         rw [if_pos rfl] at hat5
         have HMM := Lib.hid hm2
         clear hm2
         go_wp2_with (first
           | (go_at_call 40; ((with_reducible refine (HHS.out _ _ HW4.out.1).mono ?_); rintro en w5 ⟨rfl, hb5⟩; (have H5 := Lib.hid (HW4.out.1.on hb5)); (have F5 := Lib.hid (HW4.out.2.on hb5)); (have z1 : w5.cell? ⟨u, 1, none⟩ = some (.string y1) := F5.out.cell 1); (have z2 : w5.cell? ⟨u, 2, none⟩ = some (.int .i64 (y2 : Int)) := F5.out.cell 2); clear hb5))
           | (go_at_call 80; ((with_reducible refine (HFL.out _ H5.out.rs).mono ?_); rintro en w6 ⟨rfl, h6, ht6⟩; (have H6 := Lib.hid (H5.out.call h6 ht6)); (have F6 := ht6.far F5.out hub); (have z1 : w6.cell? ⟨u, 1, none⟩ = some (.string y1) := F6.cell 1); (have z2 : w6.cell? ⟨u, 2, none⟩ = some (.int .i64 (y2 : Int)) := F6.cell 2); clear h6 ht6 F6))
           | (at_builtin; go_loud (refine wpList_append_lies _ rfl _ _ 25 rfl w.heap.size 52 i0 (.agg #[.string ⟨#[]⟩, .bool false, .string ⟨#[]⟩, .int .i64 0]) 4 48 Tryz.underlying25 hi hz0 hz1 hz2 rfl (by decide) (.slice A' n c') n (itmsC acc) rfl (H6.out.row.alloc _) ⟨w6.heap.size, 0, none⟩ 1 1 [.string y1, .bool false, .string ⟨#[]⟩, .int .i64 (y2 : Int)] rfl rfl (HCN.out w6 w6.heap.size rfl) HC1.out (by decide) (by unfold maxLen; omega) (by omega) (by have := H6.out.tn.size; simp; omega) _ rfl ?_; intro g9 c9 w9 hown9 hgrow9 hat9 hlt9; (rw [← HC.out] at hown9); (have H9 := Lib.hid ((H6.out.on ((Below.refl _ w6).alloc (Nat.le_refl _) _)).grow hown9 hgrow9 hat9)); clear hown9 hgrow9 hat9 hlt9))
           | (go_at_call 46; ((with_reducible refine (HTC.out _ H9.out.rs).mono ?_); rintro en w10 ⟨rfl, h10, ht10⟩; (have H10 := Lib.hid (H9.out.call h10 ht10)); clear h10 ht10))
           | (fail "arm"))
         go_roundw
         case rel => exact ⟨some ⟨g9, 0, none⟩, n + 1, c9, f, acc ++ [it], x5, rfl, hnl, H10, Lib.hid (by have := HA1.out; have := HONE.out; simp only [List.length_append, List.length_cons, List.length_nil]; omega), Lib.hid (by have := HA2.out; have := HONE.out; omega), HMM⟩
         case measure => show l.length + 1 - (n + 1) < l.length + 1 - n; omega
       | false =>
         have hm2 := HM2.out
         rw [if_neg Bool.false_ne_true] at hm2
         injection hm2 with e1 e2
         subst e1
         subst e2
         go_wp2_with (first
           | (go_at_call 40; ((with_reducible refine (HHS.out _ _ HW4.out.1).mono ?_); rintro en w5 ⟨rfl, hb5⟩; (have H5 := Lib.hid (HW4.out.1.on hb5)); (have F5 := Lib.hid (HW4.out.2.on hb5)); (have z1 : w5.cell? ⟨u, 1, none⟩ = some (.string y1) := F5.out.cell 1); (have z2 : w5.cell? ⟨u, 2, none⟩ = some (.int .i64 (y2 : Int)) := F5.out.cell 2); clear hb5))
           | (go_at_call 80; ((with_reducible refine (HFL.out _ H5.out.rs).mono ?_); rintro en w6 ⟨rfl, h6, ht6⟩; (have H6 := Lib.hid (H5.out.call h6 ht6)); (have F6 := ht6.far F5.out hub); (have z1 : w6.cell? ⟨u, 1, none⟩ = some (.string y1) := F6.cell 1); (have z2 : w6.cell? ⟨u, 2, none⟩ = some (.int .i64 (y2 : Int)) := F6.cell 2); clear h6 ht6 F6))
           | (at_builtin; go_loud (refine wpList_append_lies _ rfl _ _ 25 rfl w.heap.size 52 i0 (.agg #[.string ⟨#[]⟩, .bool false, .string ⟨#[]⟩, .int .i64 0]) 4 48 Tryz.underlying25 hi hz0 hz1 hz2 rfl (by decide) (.slice A' n c') n (itmsC acc) rfl (H6.out.row.alloc _) ⟨w6.heap.size, 0, none⟩ 1 1 [.string y1, .bool false, .string ⟨#[]⟩, .int .i64 (y2 : Int)] rfl rfl (HCN.out w6 w6.heap.size rfl) HC1.out (by decide) (by unfold maxLen; omega) (by omega) (by have := H6.out.tn.size; simp; omega) _ rfl ?_; intro g9 c9 w9 hown9 hgrow9 hat9 hlt9; (rw [← HC.out] at hown9); (have H9 := Lib.hid ((H6.out.on ((Below.refl _ w6).alloc (Nat.le_refl _) _)).grow hown9 hgrow9 hat9)); clear hown9 hgrow9 hat9 hlt9))
           | (go_at_call 46; ((with_reducible refine (HTC.out _ H9.out.rs).mono ?_); rintro en w10 ⟨rfl, h10, ht10⟩; (have H10 := Lib.hid (H9.out.call h10 ht10)); clear h10 ht10))
           | (go_at_call 48; ((with_reducible refine (HNE.out _ H10.out.rs).mono ?_); rintro en w11 ⟨rfl, h11, ht11⟩; (have H11 := Lib.hid (H10.out.call h11 ht11)); clear h11 ht11))
           | (fail "arm"))
         go_ret
         exact ⟨some ⟨g9, 0, none⟩, n + 1, c9, rfl, H11.out⟩
   · rw [if_neg (fun z => e0 (he.symm.trans z))] at hm
     injection hm with h1 h2
     subst h1
     subst h2
     have q1 : (e == 0) = false := by simpa using e0
     clear e0 he HM
     go_wp2_with (first
       | (go_at_call 48; ((with_reducible refine (HNE.out _ HI.out.rs).mono ?_); rintro en w3 ⟨rfl, h3, ht3⟩; (have H3 := Lib.hid (HI.out.call h3 ht3)); clear h3 ht3))
       | (fail "arm"))
     go_ret
     exact ⟨A', n, c', rfl, H3.out⟩
theorem rFail_e {cd ln : Int} {x : RSt} (hc : cd ≠ 0) : (rFail cd ln x).e ≠ 0 := by
 unfold rFail
 split
 · exact hc
 · assumption
theorem rTake_e (kd : Int) (tx : List UInt8) (l : List RTok) (x : RSt) : (rTake kd tx l x).2.e = x.e := by unfold rTake; split <;> rfl
theorem rNeed_e0 {kd : Int} {tx : List UInt8} {l : List RTok} {x : RSt} (h : (rNeed kd tx l x).e = 0) : x.e = 0 := by
 unfold rNeed at h
 split at h
 · rwa [rTake_e] at h
 · exact absurd h (rFail_e (by decide))
theorem rAny_e0 {kd : Int} {l : List RTok} {x : RSt} (h : (rAny kd l x).2.e = 0) : x.e = 0 ∧ (rAny kd l x).2.at_ = x.at_ + 1 := by
 unfold rAny at h ⊢
 split at h
 · rename_i q
   rw [if_pos q]
   exact ⟨q.1, rfl⟩
 · exact absurd h (rFail_e (by decide))
theorem rSh_e0 {g : Bool} {tx : List UInt8} {l : List RTok} {x : RSt} (h : (rSh g tx l x).e = 0) : x.e = 0 := by
 unfold rSh at h
 split at h
 · exact rNeed_e0 h
 · exact h
theorem rGate_e (gl : Bool) (l : List RTok) (x : RSt) : (rGate gl l x).2.e = x.e := by
 unfold rGate
 split
 · exact rTake_e _ _ _ _
 · rfl
theorem rOne_e0 {gl : Bool} {pl : List UInt8} {l : List RTok} {x : RSt} (h : (rOne gl pl l x).2.e = 0) : x.e = 0 ∧ x.at_ + 1 ≤ (rOne gl pl l x).2.at_ := by
 unfold rOne at h ⊢
 dsimp only at h ⊢
 have h3 := rSh_e0 h
 obtain ⟨h2, e2⟩ := rAny_e0 h3
 have h1 := rSh_e0 h2
 rw [rGate_e] at h1
 have a1 := rGate_le gl l x
 have a2 := rSh_le (rGate gl l x).1 [40] l (rGate gl l x).2
 have a4 := rSh_le (rGate gl l x).1 [41] l (rAny 3 l (rSh (rGate gl l x).1 [40] l (rGate gl l x).2)).2
 exact ⟨h1, by omega⟩
theorem rMore_e0 {gl : Bool} {pl : List UInt8} {l : List RTok} : ∀ (f : Nat) (a : List Itm) (x : RSt), (rMore gl pl l f a x).2.e = 0 → x.e = 0 ∧ (rMore gl pl l f a x).1.length + x.at_ ≤ a.length + (rMore gl pl l f a x).2.at_
 | 0, a, x, h => ⟨h, Nat.le_refl _⟩
 | f + 1, a, x, h => by
   rw [rMore] at h ⊢
   by_cases e0 : x.e = 0
   · rw [if_pos e0] at h ⊢
     by_cases hm : (rTake 4 [44] l (rOne gl pl l x).2).1 = true
     · rw [if_pos hm] at h ⊢
       obtain ⟨i1, i2⟩ := rMore_e0 f _ _ h
       rw [rTake_e] at i1
       obtain ⟨o1, o2⟩ := rOne_e0 i1
       have ht := rTake_le 4 [44] l (rOne gl pl l x).2
       simp only [List.length_append, List.length_cons, List.length_nil] at i2
       exact ⟨e0, by omega⟩
     · rw [if_neg hm] at h ⊢
       rw [rTake_e] at h
       obtain ⟨o1, o2⟩ := rOne_e0 h
       have ht := rTake_le 4 [44] l (rOne gl pl l x).2
       simp only [List.length_append, List.length_cons, List.length_nil]
       exact ⟨e0, by omega⟩
   · rw [if_neg e0] at h
     exact absurd h e0
theorem rPlatform_e0 {l : List RTok} {x : RSt} (h : (rPlatform l x).2.e = 0) : x.e = 0 := by
 unfold rPlatform at h
 have h1 := (rAny_e0 h).1
 unfold rPlGate at h1
 split at h1
 · exact absurd h1 (rFail_e (by decide))
 · exact h1
theorem rLim_e0 {lim gl : Bool} {l : List RTok} {x : RSt} (h : (rLim lim gl l x).2.e = 0) : x.e = 0 ∧ x.at_ ≤ (rLim lim gl l x).2.at_ := by
 unfold rLim at h ⊢
 split at h
 · rename_i q
   rw [if_pos q]
   exact ⟨rPlatform_e0 h, rPlatform_le l x⟩
 · rename_i q
   rw [if_neg q]
   exact ⟨h, Nat.le_refl _⟩
theorem rItems_e0 {lim gl : Bool} {l : List RTok} {a : List Itm} {x : RSt} (h : (rItems lim gl l a x).2.e = 0) : x.e = 0 ∧ (rItems lim gl l a x).1.length + x.at_ ≤ a.length + (rItems lim gl l a x).2.at_ := by
 unfold rItems at h ⊢
 dsimp only at h ⊢
 obtain ⟨m1, m2⟩ := rMore_e0 _ _ _ (rNeed_e0 h)
 obtain ⟨l1, l2⟩ := rLim_e0 m1
 have hn := rNeed_le 4 [59] l (rMore gl (rLim lim gl l x).1 l (l.length + 1) a (rLim lim gl l x).2).2
 exact ⟨l1, by omega⟩
theorem rMore_le {gl : Bool} {pl : List UInt8} {l : List RTok} : ∀ (f : Nat) (a : List Itm) (x : RSt), x.at_ ≤ (rMore gl pl l f a x).2.at_
 | 0, a, x => Nat.le_refl _
 | f + 1, a, x => by
   rw [rMore]
   have h1 := rOne_le gl pl l x
   have h2 := rTake_le 4 [44] l (rOne gl pl l x).2
   split
   · split
     · have := rMore_le (gl := gl) (pl := pl) (l := l) f (a ++ [(rOne gl pl l x).1]) (rTake 4 [44] l (rOne gl pl l x).2).2
       omega
     · dsimp only
       omega
   · exact Nat.le_refl _
theorem rLim_le {lim gl : Bool} {l : List RTok} {x : RSt} : x.at_ ≤ (rLim lim gl l x).2.at_ := by
 unfold rLim
 split
 · exact rPlatform_le l x
 · exact Nat.le_refl _
theorem rItems_le {lim gl : Bool} {l : List RTok} {a : List Itm} {x : RSt} : x.at_ ≤ (rItems lim gl l a x).2.at_ := by
 unfold rItems
 dsimp only
 have h1 := rLim_le (lim := lim) (gl := gl) (l := l) (x := x)
 have h2 := rMore_le (gl := gl) (pl := (rLim lim gl l x).1) (l := l) (l.length + 1) a (rLim lim gl l x).2
 have h3 := rNeed_le 4 [59] l (rMore gl (rLim lim gl l x).1 l (l.length + 1) a (rLim lim gl l x).2).2
 omega
theorem rKinds_e0 {l : List RTok} {x : RSt} : ∀ f, (rKinds f l x).2.e = 0 → x.e = 0 ∧ x.at_ ≤ (rKinds f l x).2.at_
 | 0, h => absurd h (by rw [rKinds]; exact rFail_e (by decide))
 | f + 1, h => by
   rw [rKinds] at h ⊢
   split at h
   · rename_i q
     rw [if_pos q]
     dsimp only at h ⊢
     have h1 := rNeed_e0 h
     rw [rTake_e] at h1
     have a1 := rTake_le 1 (kw (4 - f)) l x
     have a2 := rNeed_le 4 [59] l (rTake 1 (kw (4 - f)) l x).2
     exact ⟨h1, by omega⟩
   · rename_i q
     rw [if_neg q]
     exact rKinds_e0 f h
theorem rNum1_e0 {lo hi : Int} {l : List RTok} {x : RSt} (h : (rNum1 lo hi l x).e = 0) : x.e = 0 ∧ x.at_ ≤ (rNum1 lo hi l x).at_ := by
 unfold rNum1 at h ⊢
 split at h
 · exact absurd h (rFail_e (by decide))
 · rename_i q
   rw [if_neg q]
   exact ⟨(rAny_e0 h).1, rAny_le 2 l x⟩
theorem rNumber_e0 {lo hi : Int} {l : List RTok} {x : RSt} (h : (rNumber lo hi l x).2.e = 0) : x.e = 0 ∧ x.at_ ≤ (rNumber lo hi l x).2.at_ := by
 unfold rNumber at h ⊢
 dsimp only at h ⊢
 obtain ⟨n1, n2⟩ := rNum1_e0 (rNeed_e0 h)
 have := rNeed_le 4 [59] l (rNum1 lo hi l x)
 exact ⟨n1, by omega⟩
theorem rDup_at (bf : List (List UInt8)) (t : RTok) (x : RSt) : (rDup bf t x).at_ = x.at_ := by
 unfold rDup
 split
 · rw [rFail_at]
 · rfl
theorem rDup_step (a b : List (List UInt8)) (t : RTok) (x : RSt) : rDup (a ++ b) t x = rDup b t (rDup a t x) := by
 unfold rDup
 rw [List.any_append]
 cases a.any (fun n => n == t.tx) with
 | false => simp
 | true =>
   simp only [Bool.true_or, if_true]
   split
   · unfold rFail
     by_cases e : x.e = 0
     · rw [if_pos e]; simp
     · rw [if_neg e, if_neg e]
   · rfl
def tgC (T : Tgt) (vs : Nat → Value) : List Value := [.string (str T.name), .int .i64 T.kind, .int .i64 (T.line : Int), vs 0, vs 1, vs 2, vs 3, .int .i64 T.cost, .int .i64 T.retry]
theorem Rows4.off {F : Nat → Prop} {w w' : World} {base : Nat} {ls : Nat → List Itm} {vs : Nat → Value} (h : Rows4 w base ls vs) (t : Turn F w w') (hF : ∀ i, i < 4 → ∀ g, (vs i).ownBlock = some g → ¬ F g) : Rows4 w' base ls vs :=
 ⟨fun i hi => own_off (h.own i hi) t (hF i hi), h.apart⟩
structure RG (w0 : World) (bs b p q : Nat) (A : Option Addr) (c : Nat) (l : List RTok) (W : World) (y : RTg) (vs : Nat → Value) : Prop where
 rs : RS W bs b A c l y.x
 tg : Full W p 50 (tgC y.T vs)
 sn : Full W q 128 [.bool (y.sn 0), .bool (y.sn 1), .bool (y.sn 2)]
 rows : Rows4 W w0.heap.size y.T.rows vs
 tn : Turn (fun g => g = b) w0 W
 bb : b < w0.heap.size
 pp : w0.heap.size ≤ p
 qq : w0.heap.size ≤ q
 pq : p ≠ q
 lens : y.x.e = 0 → ∀ i, i < 4 → (y.T.rows i).length ≤ y.x.at_
section
variable {w0 : World} {bs b p q : Nat} {A : Option Addr} {c : Nat} {l : List RTok} {W W' : World} {y : RTg} {vs : Nat → Value}
theorem RG.call (h : RG w0 bs b p q A c l W y vs) {x' : RSt} (r : RS W' bs b A c l x') (t : Turn (fun g => g = b) W W') (hm : x'.e = 0 → y.x.e = 0 ∧ y.x.at_ ≤ x'.at_) : RG w0 bs b p q A c l W' ⟨x', y.T, y.sn⟩ vs :=
 ⟨r, t.far h.tg (by have := h.bb; have := h.pp; omega), t.far h.sn (by have := h.bb; have := h.qq; omega), h.rows.turn t (fun g e => by rw [e]; exact h.bb), h.tn.trans_ t, h.bb, h.pp, h.qq, h.pq,
   fun e i hi => Nat.le_trans (h.lens (hm e).1 i hi) (hm e).2⟩
theorem RG.on (h : RG w0 bs b p q A c l W y vs) (hb : Below W.heap.size W W') : RG w0 bs b p q A c l W' y vs := h.call (h.rs.on hb) (Turn.of hb) (fun e => ⟨e, Nat.le_refl _⟩)
theorem RG.put (h : RG w0 bs b p q A c l W y vs) (i : Nat) (u : Value) {T' : Tgt} (hx : (tgC y.T vs).set i u = tgC T' vs) (hr : T'.rows = y.T.rows) : RG w0 bs b p q A c l (W.setCell ⟨p, i, none⟩ u) ⟨y.x, T', y.sn⟩ vs := by
 have t : Turn (fun g => g = p) W (W.setCell ⟨p, i, none⟩ u) := Turn.set_ (F := fun g => g = p) (a := ⟨p, i, none⟩) rfl u
 refine ⟨h.rs.keep t (by have := h.bb; have := h.pp; omega) (own_full_ne h.rs.ow h.tg (by decide)), ?_, t.far h.sn (fun e => h.pq e.symm), ?_, h.tn.late t (fun g e => .inr (by rw [e]; exact h.pp)), h.bb, h.pp, h.qq, h.pq, fun e => ?_⟩
 · show Full _ p 50 (tgC T' vs)
   rw [← hx]
   exact h.tg.set_ i u
 · show Rows4 _ _ T'.rows vs
   rw [hr]
   exact h.rows.off t (fun j hj g e => own_full_ne (h.rows.own j hj) h.tg (by decide) g e)
 · show ∀ i, i < 4 → (T'.rows i).length ≤ _
   rw [hr]
   exact h.lens e
theorem RG.see (h : RG w0 bs b p q A c l W y vs) (i : Nat) (hi : i < 3) : RG w0 bs b p q A c l (W.setCell ⟨q, i, none⟩ (.bool true)) ⟨y.x, y.T, upd y.sn i true⟩ vs := by
 have t : Turn (fun g => g = q) W (W.setCell ⟨q, i, none⟩ (.bool true)) := Turn.set_ (F := fun g => g = q) (a := ⟨q, i, none⟩) rfl _
 refine ⟨h.rs.keep t (by have := h.bb; have := h.qq; omega) (own_full_ne h.rs.ow h.sn (by decide)), t.far h.tg (fun e => h.pq e), ?_, h.rows.off t (fun j hj g e => own_full_ne (h.rows.own j hj) h.sn (by decide) g e), h.tn.late t (fun g e => .inr (by rw [e]; exact h.qq)), h.bb, h.pp, h.qq, h.pq, h.lens⟩
 have := h.sn.set_ i (.bool true)
 obtain rfl | rfl | rfl : i = 0 ∨ i = 1 ∨ i = 2 := by omega
 all_goals exact this
theorem RG.items (h : RG w0 bs b p q A c l W y vs) {x' : RSt} {A' : Option Addr} {n' c' : Nat} {acc : List Itm} (i : Nat) (hi : i < 4) (r : RI W bs b w0.heap.size A c l (vs i) W' x' A' n' c' acc) (hm : x'.e = 0 → y.x.e = 0 ∧ y.x.at_ ≤ x'.at_ ∧ acc.length + y.x.at_ ≤ (y.T.rows i).length + x'.at_) :
   (W'.cell? ⟨p, 3 + i, none⟩ = some (vs i) ∧ W'.frozen? ⟨p, 3 + i, none⟩ = false) ∧ RG w0 bs b p q A c l (W'.setCell ⟨p, 3 + i, none⟩ (.slice A' n' c')) ⟨x', { y.T with rows := upd y.T.rows i acc }, y.sn⟩ (upd vs i (.slice A' n' c')) := by
 have hF : ∀ g, (g = b ∨ (vs i).ownBlock = some g) → g = b ∨ w0.heap.size ≤ g := fun g e => e.imp id (fun e => row_ge (h.rows.own i hi) g e)
 have nb : ∀ j, j < 4 → ∀ g, (vs j).ownBlock = some g → g ≠ b := fun j hj g e z => by
   have := row_ge (h.rows.own j hj) g e
   have := h.bb
   omega
 have tgW : Full W' p 50 (tgC y.T vs) := r.tn.far h.tg (by
   rintro (e | e)
   · have := h.bb; have := h.pp; omega
   · exact own_full_ne (h.rows.own i hi) h.tg (by decide) p e rfl)
 have snW : Full W' q 128 [.bool (y.sn 0), .bool (y.sn 1), .bool (y.sn 2)] := r.tn.far h.sn (by
   rintro (e | e)
   · have := h.bb; have := h.qq; omega
   · exact own_full_ne (h.rows.own i hi) h.sn (by decide) q e rfl)
 have t : Turn (fun g => g = p) W' (W'.setCell ⟨p, 3 + i, none⟩ (.slice A' n' c')) := Turn.set_ (F := fun g => g = p) (a := ⟨p, 3 + i, none⟩) rfl _
 have hrow := r.row
 have hlen := r.len
 refine ⟨⟨?_, tgW.frozen _⟩, ⟨r.rs.keep t (by have := h.bb; have := h.pp; omega) (own_full_ne r.rs.ow tgW (by decide)), ?_, t.far snW (fun e => h.pq e.symm), ⟨fun j hj => ?_, fun j k hj hk hne g => ?_⟩, ?_, h.bb, h.pp, h.qq, h.pq, fun e j hj => ?_⟩⟩
 · rw [tgW.cell]
   obtain rfl | rfl | rfl | rfl : i = 0 ∨ i = 1 ∨ i = 2 ∨ i = 3 := by omega
   all_goals rfl
 · have := tgW.set_ (3 + i) (.slice A' n' c')
   obtain rfl | rfl | rfl | rfl : i = 0 ∨ i = 1 ∨ i = 2 ∨ i = 3 := by omega
   all_goals exact this
 · show World.ownsRow _ _ 52 4 (upd vs i (.slice A' n' c') j) (upd y.T.rows i acc j).length (itmsC (upd y.T.rows i acc j))
   unfold upd
   by_cases e : j = i
   · rw [if_pos e, if_pos e, ← hlen]
     exact own_off hrow t (own_full_ne hrow tgW (by decide))
   · rw [if_neg e, if_neg e]
     have hj' := own_off (h.rows.own j hj) r.tn (fun g e1 => by
       rintro (e2 | e2)
       · exact nb j hj g e1 e2
       · exact h.rows.apart j i hj hi e g e1 e2)
     exact own_off hj' t (own_full_ne hj' tgW (by decide))
 · have lt : ∀ j, j < 4 → ∀ g, (vs j).ownBlock = some g → g < W.heap.size := fun j hj g e => ((h.rows.own j hj).lt g e).2
   show (upd vs i (.slice A' n' c') j).ownBlock = some g → (upd vs i (.slice A' n' c') k).ownBlock ≠ some g
   unfold upd
   by_cases e : j = i
   · rw [if_pos e, if_neg (fun e' => hne (e.trans e'.symm))]
     intro z z'
     rcases r.at_ g z with q2 | q2
     · exact h.rows.apart i k hi hk (fun e' => hne (e.trans e')) g q2 z'
     · have := lt k hk g z'; omega
   · rw [if_neg e]
     by_cases e' : k = i
     · rw [if_pos e']
       intro z z'
       rcases r.at_ g z' with q2 | q2
       · exact h.rows.apart i j hi hj (fun e2 => e e2.symm) g q2 z
       · have := lt j hj g z; omega
     · rw [if_neg e']
       exact h.rows.apart j k hj hk hne g
 · refine (h.tn.late r.tn fun g e => hF g e).late t fun g e => .inr (by rw [e]; exact h.pp)
 · obtain ⟨e1, e3, e2⟩ := hm e
   show (upd y.T.rows i acc j).length ≤ x'.at_
   unfold upd
   have := h.lens e1 j hj
   have li := h.lens e1 i hi
   by_cases ej : j = i
   · rw [if_pos ej]; omega
   · rw [if_neg ej]; omega
end
theorem sim_number {l : List RTok} {x : RSt} {σ : Pst} (h : Sim l x σ) {lo hi : Int} (hh : hi < 1000000) :
   Sim l (rNumber lo hi l x).2 (pExpect [59] (pNum lo hi σ).2) ∧ (isOk (pExpect [59] (pNum lo hi σ).2) = true → (rNumber lo hi l x).1.1 = (pNum lo hi σ).1 ∧ (rNumber lo hi l x).1.2 = pLn σ ∧ lo ≤ (pNum lo hi σ).1) := by
 obtain ⟨a1, a2, a3, a4⟩ := sim_any h 3 (by decide) (by decide)
 have hK : kindOf 3 = 2 := rfl
 rw [hK] at a1 a2 a3
 have hpl : isOk (pAny 3 σ).2 = true → (pAny 3 σ).1.ln = pLn σ := by
   intro z
   cases σ with
   | bad e ln => cases z
   | ok ts =>
     cases ts with
     | nil => exact h.ne.elim
     | cons t r =>
       rw [pAny] at z ⊢
       split at z
       · rename_i q; rw [if_pos q]; rfl
       · cases z
 have key : Sim l (rNum1 lo hi l x) (pNum lo hi σ).2 ∧ (isOk (pNum lo hi σ).2 = true → isOk (pAny 3 σ).2 = true ∧ rVal (rAny 2 l x).1.tx = (pNum lo hi σ).1 ∧ lo ≤ (pNum lo hi σ).1) := by
   unfold rNum1 pNum
   dsimp only
   by_cases ho : isOk (pAny 3 σ).2 = true
   · obtain ⟨b1, b2⟩ := a4 ho
     have e0 : (rAny 2 l x).2.e = 0 := a3.okE.mpr ho
     have htx : (convT (pAny 3 σ).1).tx = (pAny 3 σ).1.txt := by unfold convT; dsimp only; rw [if_neg (by omega)]
     rw [htx] at a1
     obtain ⟨c1, c2⟩ := atoi_num b2 b1 (lo := lo) hh
     rw [a1, a2]
     by_cases hr : rVal (pAny 3 σ).1.txt < lo ∨ hi < rVal (pAny 3 σ).1.txt
     · have hb : (decide (rVal (pAny 3 σ).1.txt < lo) || decide (hi < rVal (pAny 3 σ).1.txt)) = true := by simpa using hr
       rw [hb] at c1
       rw [if_pos ⟨e0, hr⟩, c1, if_neg (by decide)]
       exact ⟨sim_fail a3 41 (by decide) _, fun z => by rw [pFail_ok] at z; cases z⟩
     · have hb : (decide (rVal (pAny 3 σ).1.txt < lo) || decide (hi < rVal (pAny 3 σ).1.txt)) = false := by simpa using hr
       rw [hb] at c1
       rw [if_neg (fun z => hr z.2), c1, if_pos (by decide)]
       refine ⟨a3, fun _ => ⟨ho, ?_⟩⟩
       have c3 := c2 c1
       rw [c3]
       exact ⟨rfl, by omega⟩
   · have e0 : ¬ (rAny 2 l x).2.e = 0 := fun z => ho (a3.okE.mp z)
     rw [if_neg (fun z => e0 z.1)]
     have hbad : ∃ e n, (pAny 3 σ).2 = .bad e n := by
       cases hq : (pAny 3 σ).2 with
       | ok ts => rw [hq] at ho; exact absurd rfl ho
       | bad e n => exact ⟨e, n, rfl⟩
     obtain ⟨e, n, hq⟩ := hbad
     rw [hq] at a3 ⊢
     split
     · exact ⟨a3, fun z => by cases z⟩
     · exact ⟨a3, fun z => by cases z⟩
 unfold rNumber
 refine ⟨sim_need key.1 5 [59] (.inr rfl) rfl, fun z => ?_⟩
 obtain ⟨k1, k2, k3⟩ := key.2 (pExpect_ok z)
 dsimp only
 exact ⟨k2, by rw [a2]; exact hpl k1, k3⟩
theorem kw_firstT {k : Nat} (h1 : 1 ≤ k) (h4 : k ≤ 4) : first (kw k) = (2, (kw k).length) := by
 obtain rfl | rfl | rfl | rfl : k = 1 ∨ k = 2 ∨ k = 3 ∨ k = 4 := by omega
 all_goals decide
theorem sim_kinds {l : List RTok} {x : RSt} : ∀ (f : Nat) (r : Pst × Tgt), f ≤ 4 → Sim l x r.1 → Sim l (rKinds f l x).2 (pKinds f r).1 ∧ (isOk (pKinds f r).1 = true → (pKinds f r).2 = { r.2 with kind := (rKinds f l x).1 })
 | 0, r, _, h => by
   rw [rKinds, pKinds]
   exact ⟨sim_refuse h, fun z => by rw [pRefuse_ok] at z; cases z⟩
 | f + 1, r, hf, h => by
   obtain ⟨t1, t2⟩ := sim_take h 2 (kw (4 - f)) (.inl rfl) (kw_firstT (by omega) (by omega))
   have hK : kindOf 2 = 1 := rfl
   rw [hK] at t1 t2
   rw [rKinds, pKinds, t1]
   cases hb : (pTake (kw (4 - f)) r.1).1 with
   | true =>
     rw [if_pos rfl, if_pos rfl]
     exact ⟨sim_need t2 5 [59] (.inr rfl) rfl, fun _ => rfl⟩
   | false =>
     rw [if_neg (by decide), if_neg (by decide)]
     exact sim_kinds f r (by omega) h
def elG (gl : Bool) : Pst → Itm × Pst := if gl then pSource else pText
theorem elG_le (gl : Bool) (σ : Pst) : plen (elG gl σ).2 ≤ plen σ := by
 cases gl
 · exact pText_le σ
 · exact pSource_le σ
theorem sim_text {l : List RTok} {x : RSt} {σ : Pst} (h : Sim l x σ) : Sim l (rAny 3 l x).2 (pText σ).2 ∧ (isOk (pText σ).2 = true → (rAny 3 l x).1.tx = (pText σ).1.tx ∧ (rAny 3 l x).1.ln = (pText σ).1.ln) := by
 obtain ⟨a1, a2, a3, a4⟩ := sim_any h 4 (by decide) (by decide)
 refine ⟨a3, fun z => ?_⟩
 obtain ⟨b1, b2⟩ := a4 z
 refine ⟨?_, a2⟩
 rw [show rAny 3 l x = rAny (kindOf 4) l x from rfl, a1]
 exact (text_tok b2 b1).symm
theorem sim_one {l : List RTok} {x : RSt} {σ : Pst} (h : Sim l x σ) (gl : Bool) (pl : List UInt8) : Sim l (rOne gl pl l x).2 (elG gl σ).2 ∧ (isOk (elG gl σ).2 = true → (rOne gl pl l x).1 = setPl pl (elG gl σ).1) := by
 cases gl with
 | false =>
   obtain ⟨a1, a2⟩ := sim_text h
   refine ⟨a1, fun z => ?_⟩
   obtain ⟨b1, b2⟩ := a2 z
   show (⟨(rAny 3 l x).1.tx, false, pl, (rAny 3 l x).1.ln⟩ : Itm) = _
   rw [b1, b2]
   rfl
 | true =>
   obtain ⟨t1, t2⟩ := sim_take h 2 globS (.inl rfl) (by decide)
   have hK : kindOf 2 = 1 := rfl
   rw [hK] at t1 t2
   show Sim l (rOne true pl l x).2 (pSource σ).2 ∧ (isOk (pSource σ).2 = true → (rOne true pl l x).1 = setPl pl (pSource σ).1)
   unfold rOne rGate pSource
   rw [if_pos rfl, t1]
   cases hb : (pTake globS σ).1 with
   | true =>
     rw [if_pos rfl]
     have n1 := sim_need t2 5 [40] (.inr rfl) rfl
     obtain ⟨a1, a2⟩ := sim_text n1
     have n2 := sim_need a1 5 [41] (.inr rfl) rfl
     unfold rSh
     rw [if_pos rfl, if_pos rfl]
     refine ⟨n2, fun z => ?_⟩
     obtain ⟨b1, b2⟩ := a2 (pExpect_ok z)
     have hK5 : kindOf 5 = 4 := rfl
     rw [hK5] at b1 b2
     rw [b1, b2]
     rfl
   | false =>
     rw [if_neg (by decide)]
     obtain ⟨a1, a2⟩ := sim_text t2
     unfold rSh
     rw [if_neg (by decide), if_neg (by decide)]
     refine ⟨a1, fun z => ?_⟩
     obtain ⟨b1, b2⟩ := a2 z
     rw [b1, b2]
     rfl
theorem sim_more {l : List RTok} (gl : Bool) (pl : List UInt8) : ∀ (f f' : Nat) (a : List Itm) (x : RSt) (σ : Pst), Sim l x σ → isOk σ = true → plen σ < f → plen (elG gl σ).2 < f' →
   Sim l (rMore gl pl l f a x).2 (pMore (elG gl) (pTake [44]) f' (elG gl σ).2).2 ∧ (isOk (pMore (elG gl) (pTake [44]) f' (elG gl σ).2).2 = true → (rMore gl pl l f a x).1 = a ++ ((elG gl σ).1 :: (pMore (elG gl) (pTake [44]) f' (elG gl σ).2).1).map (setPl pl))
 | 0, _, _, _, _, _, _, hf, _ => absurd hf (Nat.not_lt_zero _)
 | f + 1, 0, _, _, _, _, _, _, hf' => absurd hf' (Nat.not_lt_zero _)
 | f + 1, f' + 1, a, x, σ, h, ho, hf, hf' => by
   obtain ⟨o1, o2⟩ := sim_one h gl pl
   obtain ⟨t1, t2⟩ := sim_take o1 5 [44] (.inr rfl) rfl
   have hK5 : kindOf 5 = 4 := rfl
   rw [hK5] at t1 t2
   rw [rMore, if_pos (h.okE.mpr ho), pMore, t1]
   have hle := elG_le gl σ
   cases hb : (pTake [44] (elG gl σ).2).1 with
   | true =>
     rw [if_pos rfl, if_pos rfl]
     have hlt := pTake_less [44] _ hb
     have hok2 : isOk (pTake [44] (elG gl σ).2).2 = true ∧ isOk (elG gl σ).2 = true := by
       cases hq : (elG gl σ).2 with
       | bad e n => rw [hq] at hb; cases hb
       | ok ts =>
         cases ts with
         | nil => rw [hq] at hb; cases hb
         | cons t r =>
           rw [hq] at hb
           rw [pTake] at hb ⊢
           split at hb
           · rename_i q; rw [if_pos q]; exact ⟨rfl, rfl⟩
           · cases hb
     have hle2 := elG_le gl (pTake [44] (elG gl σ).2).2
     obtain ⟨i1, i2⟩ := sim_more gl pl f f' (a ++ [(rOne gl pl l x).1]) _ _ t2 hok2.1 (by omega) (by omega)
     refine ⟨i1, fun z => ?_⟩
     rw [i2 z, o2 hok2.2]
     simp
   | false =>
     rw [if_neg (by decide), if_neg (by decide)]
     refine ⟨t2, fun z => ?_⟩
     rw [o2 (pTake_ok z)]
     simp
def plsG (gl : Bool) : Pst → List Itm × Pst := if gl then pSources else pTexts
theorem plsG_eq (gl : Bool) (σ : Pst) : plsG gl σ = pList (elG gl) (pTake [44]) (pExpect [59]) plen σ := by cases gl <;> rfl
def pLs (lim gl : Bool) : Pst → List Itm × Pst := if lim then pLimited (plsG gl) else plsG gl
theorem Sim.plen_le {l : List RTok} {x : RSt} {σ : Pst} (h : Sim l x σ) : plen σ ≤ l.length := by
 cases σ with
 | bad e n => exact Nat.zero_le _
 | ok ts =>
   have := congrArg List.length h.2.2
   rw [List.length_drop, List.length_map] at this
   show ts.length ≤ _
   omega
theorem rMore_off {l : List RTok} {gl : Bool} {pl : List UInt8} {a : List Itm} {x : RSt} (h : x.e ≠ 0) : ∀ f, rMore gl pl l f a x = (a, x)
 | 0 => rfl
 | f + 1 => by rw [rMore, if_neg h]
theorem rNeed_off {l : List RTok} {kd : Int} {w : List UInt8} {x : RSt} (h : x.e ≠ 0) : rNeed kd w l x = x := by
 have : rTake kd w l x = (false, x) := by unfold rTake rIs; rw [if_neg (by simp [h])]
 unfold rNeed
 rw [this, if_neg Bool.false_ne_true]
 unfold rFail
 rw [if_neg h]
theorem pMore_bad {S : Type} {el : S → Itm × S} {tk : S → Bool × S} {σ : S} (h : tk σ = (false, σ)) : ∀ f, pMore el tk f σ = ([], σ)
 | 0 => rfl
 | f + 1 => by rw [pMore, h, if_neg Bool.false_ne_true]
theorem plsG_bad (gl : Bool) (e n : Int) : (plsG gl (.bad e n)).2 = .bad e n := by
 rw [plsG_eq]
 unfold pList
 have h1 : (elG gl (.bad e n)).2 = .bad e n := by cases gl <;> rfl
 rw [h1, pMore_bad (tk := pTake [44]) (σ := .bad e n) rfl]
 rfl
theorem rAny_off {l : List RTok} {kd : Int} {x : RSt} (h : x.e ≠ 0) : rAny kd l x = (rt0, x) := by
 unfold rAny
 rw [if_neg (fun z => h z.1)]
 unfold rFail
 rw [if_neg h]
theorem rIs_off {kd : Int} {w : List UInt8} {t : RTok} {e : Int} (h : e ≠ 0) : rIs kd w t e = false := by unfold rIs; simp [h]
theorem rPlatform_off {l : List RTok} {x : RSt} (h : x.e ≠ 0) : rPlatform l x = (rt0, x) := by
 unfold rPlatform rPlGate
 rw [rIs_off h, if_neg (by decide), rAny_off h]
theorem sim_plat {l : List RTok} {x : RSt} {t : Tok} {r : List Tok} (h : Sim l x (.ok (t :: r))) :
   (pAheadP (.ok (t :: r)) = true → rPlatform l x = (convT t, ⟨x.at_ + 1, x.e, x.ln⟩) ∧ (convT t).tx = t.txt ∧ (hdT l x.at_).kd = 1 ∧ (hdT l x.at_).tx ≠ globS ∧ Sim l ⟨x.at_ + 1, x.e, x.ln⟩ (.ok r)) ∧
   (pAheadP (.ok (t :: r)) = false → Sim l (rPlatform l x).2 (.bad 40 (t.ln : Int)) ∧ ((hdT l x.at_).kd = 1 → (hdT l x.at_).tx = globS)) := by
 have hk := h.tok
 have he : x.e = 0 := h.1
 have hd := h.hd
 have kd1 : (convT t).kd = 1 ↔ t.cls = 2 := ⟨fun z => kindOf_inj hk.cls (by decide) z, fun z => by show kindOf t.cls = 1; rw [z]; rfl⟩
 have htx : t.cls = 2 → (convT t).tx = t.txt := fun z => by unfold convT; dsimp only; rw [if_neg (by omega)]
 constructor
 · intro z
   replace z : (decide (t.cls = 2) && !(t.txt == globS)) = true := z
   simp only [Bool.and_eq_true, decide_eq_true_eq, Bool.not_eq_true', beq_eq_false_iff_ne] at z
   have e1 : rIs 1 globS (convT t) x.e = false := by
     unfold rIs
     rw [htx z.1]
     have : (t.txt == globS) = false := beq_eq_false_iff_ne.mpr z.2
     rw [this, Bool.and_false]
   have e2 : rPlatform l x = (convT t, ⟨x.at_ + 1, x.e, x.ln⟩) := by
     unfold rPlatform rPlGate
     rw [hd, e1, if_neg (by decide)]
     unfold rAny
     rw [hd, if_pos ⟨he, kd1.mpr z.1⟩]
   exact ⟨e2, htx z.1, by rw [hd]; exact kd1.mpr z.1, by rw [hd, htx z.1]; exact z.2, h.nx (by omega)⟩
 · intro z
   have hbad : Sim l (rFail 40 ((hdT l x.at_).ln : Int) x) (.bad 40 (t.ln : Int)) := sim_refuse h
   have hfe : rFail 40 ((hdT l x.at_).ln : Int) x = ⟨x.at_, 40, ((hdT l x.at_).ln : Int)⟩ := by unfold rFail; rw [if_pos he]
   by_cases hc : t.cls = 2
   · have hg : t.txt = globS := by
       replace z : (decide (t.cls = 2) && !(t.txt == globS)) = false := z
       rw [decide_eq_true hc, Bool.true_and, Bool.not_eq_false'] at z
       exact beq_iff_eq.mp z
     have e1 : rIs 1 globS (convT t) x.e = true := by
       unfold rIs
       rw [htx hc, hg, he, kd1.mpr hc]
       decide
     refine ⟨?_, fun _ => by rw [hd, htx hc, hg]⟩
     unfold rPlatform rPlGate
     rw [hd, e1, if_pos rfl]
     rw [hd] at hbad hfe
     rw [hfe] at hbad ⊢
     rw [rAny_off (by show (40 : Int) ≠ 0; decide)]
     exact hbad
   · have hk1 : ¬ (convT t).kd = 1 := fun q => hc (kd1.mp q)
     refine ⟨?_, fun q => absurd (by rwa [hd] at q) hk1⟩
     have e1 : rIs 1 globS (convT t) x.e = false := by
       unfold rIs
       have : ((convT t).kd == 1) = false := by simpa using hk1
       rw [this, Bool.and_false, Bool.false_and]
     unfold rPlatform rPlGate
     rw [hd, e1, if_neg (by decide)]
     unfold rAny
     rw [if_neg (fun q => hk1 (by rw [hd] at q; exact q.2))]
     exact hbad
theorem pls_body {l : List RTok} (gl : Bool) (pl : List UInt8) (a : List Itm) {x : RSt} {σ : Pst} (h : Sim l x σ) :
   Sim l (rNeed 4 [59] l (rMore gl pl l (l.length + 1) a x).2) (plsG gl σ).2 ∧ (isOk (plsG gl σ).2 = true → (rMore gl pl l (l.length + 1) a x).1 = a ++ (plsG gl σ).1.map (setPl pl)) := by
 cases hσ : isOk σ with
 | false =>
   cases σ with
   | ok ts => cases hσ
   | bad e n =>
     have he : x.e ≠ 0 := by rw [h.2.1]; exact h.1
     rw [rMore_off he, rNeed_off he, plsG_bad]
     exact ⟨h, fun z => by cases z⟩
 | true =>
   have hlen := h.plen_le
   obtain ⟨m1, m2⟩ := sim_more gl pl (l.length + 1) (plen (elG gl σ).2 + 1) a x σ h hσ (by omega) (by omega)
   rw [plsG_eq]
   unfold pList
   dsimp only
   exact ⟨sim_need m1 5 [59] (.inr rfl) rfl, fun z => m2 (pExpect_ok z)⟩
theorem setPl_id {i : Itm} (h : i.pl = []) : setPl [] i = i := by
 obtain ⟨a, b, c, d⟩ := i
 dsimp only at h
 rw [h]
 rfl
theorem elG_pl (gl : Bool) (σ : Pst) : (elG gl σ).1.pl = [] := by
 cases gl with
 | false => rfl
 | true =>
   show (pSource σ).1.pl = []
   unfold pSource
   split <;> rfl
theorem setPl_more {gl : Bool} : ∀ (f : Nat) (σ : Pst), (pMore (elG gl) (pTake [44]) f σ).1.map (setPl []) = (pMore (elG gl) (pTake [44]) f σ).1
 | 0, _ => rfl
 | f + 1, σ => by
   rw [pMore]
   split
   · rw [List.map_cons, setPl_more f, setPl_id (elG_pl gl _)]
   · rfl
theorem setPl_nil {gl : Bool} {σ : Pst} : (plsG gl σ).1.map (setPl []) = (plsG gl σ).1 := by
 rw [plsG_eq]
 unfold pList
 rw [List.map_cons, setPl_more, setPl_id (elG_pl gl _)]
theorem sim_items {l : List RTok} (lim gl : Bool) (a : List Itm) {x : RSt} {σ : Pst} (h : Sim l x σ) :
   Sim l (rItems lim gl l a x).2 (pLs lim gl σ).2 ∧ (isOk (pLs lim gl σ).2 = true → (rItems lim gl l a x).1 = a ++ (pLs lim gl σ).1) := by
 unfold rItems
 dsimp only
 cases lim with
 | false =>
   have e : rLim false gl l x = ([], x) := by unfold rLim; rw [if_neg (fun z => by cases z.1)]
   rw [e]
   obtain ⟨b1, b2⟩ := pls_body gl [] a h
   show Sim l _ (plsG gl σ).2 ∧ (isOk (plsG gl σ).2 = true → _ = a ++ (plsG gl σ).1)
   rw [setPl_nil] at b2
   exact ⟨b1, b2⟩
 | true =>
   show Sim l _ (pLimited (plsG gl) σ).2 ∧ (isOk (pLimited (plsG gl) σ).2 = true → _ = a ++ (pLimited (plsG gl) σ).1)
   unfold pLimited
   dsimp only
   cases σ with
   | bad e n =>
     have he : x.e ≠ 0 := by rw [h.2.1]; exact h.1
     have e2 : (rLim true gl l x).2 = x := by
       unfold rLim
       split
       · rw [rPlatform_off he]
       · rfl
     rw [e2, rMore_off he, rNeed_off he]
     show Sim l x (plsG gl (.bad e n)).2 ∧ (isOk (plsG gl (.bad e n)).2 = true → _)
     rw [plsG_bad]
     exact ⟨h, fun z => by cases z⟩
   | ok ts =>
     cases ts with
     | nil => exact h.ne.elim
     | cons t r =>
       obtain ⟨s1, s2⟩ := sim_plat h
       cases hp : pAheadP (.ok (t :: r)) with
       | true =>
         obtain ⟨q1, q2, q3, q4, q5⟩ := s1 hp
         have e : rLim true gl l x = (t.txt, ⟨x.at_ + 1, x.e, x.ln⟩) := by
           unfold rLim
           rw [if_pos ⟨rfl, q3, .inr q4⟩, q1]
           dsimp only
           rw [q2]
         have e' : pPlat (.ok (t :: r)) = (t.txt, .ok r) := by rw [pPlat, if_pos hp]
         rw [e, e']
         exact pls_body gl t.txt a q5
       | false =>
         obtain ⟨q1, q2⟩ := s2 hp
         have e' : pPlat (.ok (t :: r)) = ([], .ok (t :: r)) := by rw [pPlat, if_neg (by rw [hp]; decide)]
         rw [e']
         dsimp only
         by_cases hc : (hdT l x.at_).kd = 1 ∧ gl = false
         · obtain ⟨hc1, rfl⟩ := hc
           have e : rLim true false l x = ((rPlatform l x).1.tx, (rPlatform l x).2) := by
             unfold rLim
             rw [if_pos ⟨rfl, hc1, .inl rfl⟩]
           have he : (rPlatform l x).2.e ≠ 0 := by rw [q1.2.1]; decide
           rw [e]
           dsimp only
           rw [rMore_off he, rNeed_off he]
           have hcls : t.cls = 2 := by
             rw [h.hd] at hc1
             exact kindOf_inj h.tok.cls (by decide) hc1
           have hp2 : (plsG false (.ok (t :: r))).2 = .bad 40 (t.ln : Int) := by
             rw [plsG_eq]
             unfold pList
             have h1 : (elG false (.ok (t :: r))).2 = .bad 40 (t.ln : Int) := by
               show (pAny 4 (.ok (t :: r))).2 = _
               rw [pAny, if_neg (by omega)]
             rw [h1, pMore_bad (tk := pTake [44]) (σ := .bad 40 (t.ln : Int)) rfl]
             rfl
           rw [hp2]
           exact ⟨q1, fun z => by cases z⟩
         · have e : rLim true gl l x = ([], x) := by
             unfold rLim
             rw [if_neg]
             rintro ⟨_, z1, z2⟩
             rcases z2 with z2 | z2
             · exact hc ⟨z1, z2⟩
             · exact z2 (q2 z1)
           rw [e]
           exact pls_body gl [] a h
def tkP (x : Pst × Kn) : Bool × (Pst × Kn) := ((pTake [44] x.1).1, ((pTake [44] x.1).2, x.2))
theorem sim_plone {l : List RTok} {x : RSt} {σ : Pst} {K : Kn} {a : List Itm} (hK : ∀ s, K s = rHas a s) (h : Sim l x σ) (ho : isOk σ = true) :
   Sim l (rPlOne l a x) (pPlatI (σ, K)).2.1 ∧ (isOk (pPlatI (σ, K)).2.1 = true → (⟨(rPlatform l x).1.tx, false, [], (rPlatform l x).1.ln⟩ : Itm) = (pPlatI (σ, K)).1 ∧ (pPlatI (σ, K)).2.2 = kPut K (pPlatI (σ, K)).1.tx) := by
 cases σ with
 | bad e n => cases ho
 | ok ts =>
  cases ts with
  | nil => exact h.ne.elim
  | cons t r =>
   obtain ⟨s1, s2⟩ := sim_plat h
   cases hp : pAheadP (.ok (t :: r)) with
   | true =>
    obtain ⟨q1, q2, q3, q4, q5⟩ := s1 hp
    have e' : pPlatI (.ok (t :: r), K) = (⟨t.txt, false, [], t.ln⟩, (pOnce K t (.ok r), kPut K t.txt)) := by
     unfold pPlatI
     rw [if_pos hp]
    rw [e']
    unfold rPlOne pOnce
    rw [q1]
    dsimp only
    rw [q2, ← hK]
    refine ⟨?_, fun _ => ⟨rfl, rfl⟩⟩
    split
    · exact sim_fail q5 42 (by decide) _
    · exact q5
   | false =>
    obtain ⟨q1, q2⟩ := s2 hp
    have e' : pPlatI (.ok (t :: r), K) = (itm0, (pRefuse (.ok (t :: r)), K)) := by
     unfold pPlatI
     rw [if_neg (by rw [hp]; decide)]
    rw [e']
    refine ⟨?_, fun z => by rw [pRefuse_ok] at z; cases z⟩
    unfold rPlOne
    have he : (rPlatform l x).2.e ≠ 0 := by rw [q1.2.1]; decide
    have hf : ∀ c n, rFail c n (rPlatform l x).2 = (rPlatform l x).2 := fun c n => by unfold rFail; rw [if_neg he]
    split
    · rw [hf]; exact q1
    · exact q1
theorem rHas_snoc (a : List Itm) (i : Itm) (s : List UInt8) : rHas (a ++ [i]) s = (decide (s = i.tx) || rHas a s) := by
 unfold rHas
 rw [List.any_append]
 simp only [List.any_cons, List.any_nil, Bool.or_false]
 rw [Bool.or_comm]
 congr 1
 rw [Bool.eq_iff_iff]
 simp only [beq_iff_eq, decide_eq_true_eq]
 exact ⟨fun z => z.symm, fun z => z.symm⟩
theorem pPlatI_le1 (σ : Pst) (K : Kn) : plen (pPlatI (σ, K)).2.1 ≤ plen σ := pPlatI_le (σ, K)
theorem take_okB {w : List UInt8} {σ : Pst} (h : (pTake w σ).1 = true) : isOk (pTake w σ).2 = true ∧ isOk σ = true := by
 cases σ with
 | bad e n => cases h
 | ok ts =>
  cases ts with
  | nil => cases h
  | cons t r =>
   rw [pTake] at h ⊢
   split at h
   · rename_i q; rw [if_pos q]; exact ⟨rfl, rfl⟩
   · cases h
theorem sim_plmore {l : List RTok} : ∀ (f f' : Nat) (a : List Itm) (x : RSt) (σ : Pst) (K : Kn), (∀ s, K s = rHas a s) → Sim l x σ → isOk σ = true → plen σ < f → plen (pPlatI (σ, K)).2.1 < f' →
   Sim l (rPls l f a x).2 (pMore pPlatI tkP f' (pPlatI (σ, K)).2).2.1 ∧ (isOk (pMore pPlatI tkP f' (pPlatI (σ, K)).2).2.1 = true → (rPls l f a x).1 = a ++ ((pPlatI (σ, K)).1 :: (pMore pPlatI tkP f' (pPlatI (σ, K)).2).1))
 | 0, _, _, _, _, _, _, _, _, hf, _ => absurd hf (Nat.not_lt_zero _)
 | f + 1, 0, _, _, _, _, _, _, _, _, hf' => absurd hf' (Nat.not_lt_zero _)
 | f + 1, f' + 1, a, x, σ, K, hK, h, ho, hf, hf' => by
  obtain ⟨o1, o2⟩ := sim_plone hK h ho
  obtain ⟨t1, t2⟩ := sim_take o1 5 [44] (.inr rfl) rfl
  have hK5 : kindOf 5 = 4 := rfl
  rw [hK5] at t1 t2
  rw [rPls, if_pos (h.okE.mpr ho), pMore, t1]
  have hle := pPlatI_le1 σ K
  show Sim l _ (if (pTake [44] (pPlatI (σ, K)).2.1).1 = true then _ else _ : List Itm × (Pst × Kn)).2.1 ∧ (isOk (if (pTake [44] (pPlatI (σ, K)).2.1).1 = true then _ else _ : List Itm × (Pst × Kn)).2.1 = true → _ = a ++ (_ :: (if (pTake [44] (pPlatI (σ, K)).2.1).1 = true then _ else _ : List Itm × (Pst × Kn)).1))
  cases hb : (pTake [44] (pPlatI (σ, K)).2.1).1 with
  | true =>
   rw [if_pos rfl, if_pos rfl]
   have hlt := pTake_less [44] _ hb
   obtain ⟨k1, k2⟩ := take_okB hb
   obtain ⟨e1, e2⟩ := o2 k2
   rw [e1]
   have hK2 : ∀ s, (pPlatI (σ, K)).2.2 s = rHas (a ++ [(pPlatI (σ, K)).1]) s := by
    intro s
    rw [e2, rHas_snoc, ← hK]
    rfl
   have hle2 := pPlatI_le1 (pTake [44] (pPlatI (σ, K)).2.1).2 (pPlatI (σ, K)).2.2
   obtain ⟨i1, i2⟩ := sim_plmore f f' (a ++ [(pPlatI (σ, K)).1]) _ _ _ hK2 t2 k1 (by omega) (by omega)
   refine ⟨i1, fun z => ?_⟩
   rw [i2 z]
   simp [tkP]
  | false =>
   rw [if_neg Bool.false_ne_true, if_neg Bool.false_ne_true]
   refine ⟨t2, fun z => ?_⟩
   obtain ⟨e1, e2⟩ := o2 (pTake_ok z)
   rw [e1]
theorem sim_plats {l : List RTok} {x : RSt} {σ : Pst} (h : Sim l x σ) (ho : isOk σ = true) : Sim l (rPlats l x).2 (pPlats σ).2.1 ∧ (isOk (pPlats σ).2.1 = true → (rPlats l x).1 = (pPlats σ).1) := by
 have hlen := h.plen_le
 have hle := pPlatI_le1 σ (fun _ => false)
 obtain ⟨m1, m2⟩ := sim_plmore (l.length + 1) (plen (pPlatI (σ, fun _ => false)).2.1 + 1) [] x σ (fun _ => false) (fun s => rfl) h ho (by omega) (by omega)
 unfold rPlats pPlats pList
 dsimp only
 exact ⟨sim_need m1 5 [59] (.inr rfl) rfl, fun z => m2 (pExpect_ok z)⟩
def strip (T : Tgt) : Tgt := ⟨T.name, T.kind, T.line, T.rows, T.cost, T.retry, 0, fun _ => false⟩
structure RF (y : RTg) (T : Tgt) : Prop where
 s : strip y.T = strip T
 n0 : y.sn 0 = T.had wKind
 n1 : y.sn 1 = T.had wCost
 n2 : y.sn 2 = T.had wRetry
 ge : 0 ≤ T.retry
 rl : T.retry ≠ 0 → y.T.rl = T.rl
structure RT (l : List RTok) (y : RTg) (r : Pst × Tgt) : Prop where
 s : Sim l y.x r.1
 f : isOk r.1 = true → RF y r.2
theorem upd_eq {α : Type} (f : Nat → α) (i j : Nat) (x : α) : upd f i x j = if j = i then x else f j := rfl
theorem sim_seen {l : List RTok} {y : RTg} {σ : Pst} {T : Tgt} {t : Tok} (h : RT l y (σ, T)) (ho : isOk σ = true) (htx : (convT t).tx = t.txt) {i : Nat} (hw : wOnce t.txt = some i) : RT l (rSeen (convT t) y) (pHad t (σ, T)) := by
 obtain ⟨hs, hf⟩ := h
 have hf := hf ho
 have hc : (i = 0 ∧ t.txt = wKind) ∨ (i = 1 ∧ t.txt = wCost) ∨ (i = 2 ∧ t.txt = wRetry) := by
  unfold wOnce at hw
  split at hw
  · injection hw with hw; exact .inl ⟨hw.symm, by assumption⟩
  · split at hw
    · injection hw with hw; exact .inr (.inl ⟨hw.symm, by assumption⟩)
    · split at hw
      · injection hw with hw; exact .inr (.inr ⟨hw.symm, by assumption⟩)
      · cases hw
 have hsn : y.sn i = T.had t.txt := by
  rcases hc with ⟨rfl, e⟩ | ⟨rfl, e⟩ | ⟨rfl, e⟩
  · rw [e]; exact hf.n0
  · rw [e]; exact hf.n1
  · rw [e]; exact hf.n2
 have hw' : wOnce (convT t).tx = some i := by rw [htx]; exact hw
 unfold rSeen pHad pOnce
 rw [hw']
 dsimp only
 rw [hsn]
 constructor
 · show Sim l (if T.had t.txt = true then rFail 42 ((convT t).ln : Int) y.x else y.x) (if T.had t.txt = true then pFail (t.ln : Int) 42 σ else σ)
   split
   · exact sim_fail hs 42 (by decide) _
   · exact hs
 · intro _
   refine ⟨hf.s, ?_, ?_, ?_, hf.ge, hf.rl⟩
   all_goals
     show upd y.sn i true _ = kPut T.had t.txt _
     rw [upd_eq]
     unfold kPut
   · rw [hf.n0]
     rcases hc with ⟨rfl, e⟩ | ⟨rfl, e⟩ | ⟨rfl, e⟩ <;> rw [e] <;> rfl
   · rw [hf.n1]
     rcases hc with ⟨rfl, e⟩ | ⟨rfl, e⟩ | ⟨rfl, e⟩ <;> rw [e] <;> rfl
   · rw [hf.n2]
     rcases hc with ⟨rfl, e⟩ | ⟨rfl, e⟩ | ⟨rfl, e⟩ <;> rw [e] <;> rfl
theorem strip_fields {T U : Tgt} (h : strip T = strip U) : T.name = U.name ∧ T.kind = U.kind ∧ T.line = U.line ∧ T.rows = U.rows ∧ T.cost = U.cost ∧ T.retry = U.retry := by
 unfold strip at h
 injection h with h1 h2 h3 h4 h5 h6
 exact ⟨h1, h2, h3, h4, h5, h6⟩
theorem RF.kind {y : RTg} {T : Tgt} (h : RF y T) (x : RSt) (k : Int) : RF ⟨x, { y.T with kind := k }, y.sn⟩ { T with kind := k } := by
 obtain ⟨a, b, c, d, e, f⟩ := strip_fields h.s
 exact ⟨by unfold strip; dsimp only; rw [a, c, d, e, f], h.n0, h.n1, h.n2, h.ge, h.rl⟩
theorem RF.cost {y : RTg} {T : Tgt} (h : RF y T) (x : RSt) (k : Int) : RF ⟨x, { y.T with cost := k }, y.sn⟩ { T with cost := k } := by
 obtain ⟨a, b, c, d, e, f⟩ := strip_fields h.s
 exact ⟨by unfold strip; dsimp only; rw [a, b, c, d, f], h.n0, h.n1, h.n2, h.ge, h.rl⟩
theorem RF.retry {y : RTg} {T : Tgt} (h : RF y T) (x : RSt) (k : Int) (n : Nat) (hk : 0 ≤ k) : RF ⟨x, { y.T with retry := k, rl := n }, y.sn⟩ { T with rl := n, retry := k } := by
 obtain ⟨a, b, c, d, e, f⟩ := strip_fields h.s
 exact ⟨by unfold strip; dsimp only; rw [a, b, c, d, e], h.n0, h.n1, h.n2, hk, fun _ => rfl⟩
theorem RF.rows {y : RTg} {T : Tgt} (h : RF y T) (x : RSt) (i : Nat) (L : List Itm) : RF ⟨x, { y.T with rows := upd y.T.rows i L }, y.sn⟩ { T with rows := upd T.rows i L } := by
 obtain ⟨a, b, c, d, e, f⟩ := strip_fields h.s
 exact ⟨by unfold strip; dsimp only; rw [a, b, c, d, e, f], h.n0, h.n1, h.n2, h.ge, h.rl⟩
theorem sim_grow {l : List RTok} {y : RTg} {σ : Pst} {T : Tgt} (h : RT l y (σ, T)) (ho : isOk σ = true) (lim gl : Bool) (i : Nat) :
   RT l ⟨(rItems lim gl l (y.T.rows i) y.x).2, { y.T with rows := upd y.T.rows i (rItems lim gl l (y.T.rows i) y.x).1 }, y.sn⟩ (pGrow i (pLs lim gl) (σ, T)) := by
 obtain ⟨m1, m2⟩ := sim_items lim gl (y.T.rows i) h.s
 unfold pGrow
 refine ⟨m1, fun z => ?_⟩
 have e := m2 z
 have hr : y.T.rows = T.rows := (strip_fields (h.f ho).s).2.2.2.1
 dsimp only at e ⊢
 rw [e, hr]
 have := (h.f ho).rows (rItems lim gl l (y.T.rows i) y.x).2 i (T.rows i ++ (pLs lim gl σ).1)
 rw [hr] at this
 exact this
theorem fnOf_word {s : List UInt8} {n : Nat} (h : fnOf s = some n) : first s = (2, s.length) := by
 unfold fnOf at h
 repeat' split at h
 all_goals first
   | (rename_i e; rw [e]; decide)
   | cases h
theorem word_ok {t : Tok} (hk : TokOk t) (h : first t.txt = (2, t.txt.length)) : t.cls = 2 := by
 have := hk.1
 rw [h] at this
 exact (congrArg Prod.fst this).symm
theorem word_tx {t : Tok} (h : t.cls = 2) : (convT t).tx = t.txt := by unfold convT; dsimp only; rw [if_neg (by omega)]
theorem pKinds_bad {r : Pst × Tgt} {e n : Int} (h : r.1 = .bad e n) : isOk (pKinds 4 r).1 = false := by
 obtain ⟨σ, U⟩ := r
 dsimp only at h
 subst h
 rfl
theorem sim_attr {l : List RTok} {y : RTg} {t : Tok} {r : List Tok} {T : Tgt} (h : RT l y (.ok r, T)) (htx : (convT t).tx = t.txt) {n : Nat} (hn : fnOf t.txt = some n) :
   RT l (rSet l (convT t) (rSeen (convT t) y)) (pRun n t (.ok r, T)) := by
 unfold fnOf at hn
 unfold rSet
 rw [htx]
 split at hn
 · rename_i e
   injection hn with hn
   subst hn
   have hs := sim_seen h rfl htx (i := 0) (by rw [e]; rfl)
   rw [if_pos e]
   show RT l _ (pKinds 4 (pHad t (.ok r, T)))
   obtain ⟨k1, k2⟩ := sim_kinds 4 _ (Nat.le_refl _) hs.s
   refine ⟨k1, fun z => ?_⟩
   have ho : isOk (pHad t (.ok r, T)).1 = true := by
    cases hq : (pHad t (.ok r, T)).1 with
    | ok ts => rfl
    | bad e n =>
     have : isOk (pKinds 4 (pHad t (.ok r, T))).1 = false := pKinds_bad hq
     rw [this] at z
     cases z
   rw [k2 z]
   exact (hs.f ho).kind _ _
 · rename_i e1
   rw [if_neg e1]
   split at hn
   · rename_i e
     injection hn with hn
     subst hn
     rw [if_neg (by rw [e]; decide), if_neg (by rw [e]; decide), if_pos e]
     have e' : rSeen (convT t) y = y := by unfold rSeen; rw [htx, e]; rfl
     rw [e']
     exact sim_grow h rfl true true 0
   · split at hn
     · rename_i e
       injection hn with hn
       subst hn
       rw [if_neg (by rw [e]; decide), if_neg (by rw [e]; decide), if_neg (by rw [e]; decide), if_pos e]
       have e' : rSeen (convT t) y = y := by unfold rSeen; rw [htx, e]; rfl
       rw [e']
       exact sim_grow h rfl true false 1
     · split at hn
       · rename_i e
         injection hn with hn
         subst hn
         rw [if_neg (by rw [e]; decide), if_neg (by rw [e]; decide), if_neg (by rw [e]; decide), if_neg (by rw [e]; decide), if_pos e]
         have e' : rSeen (convT t) y = y := by unfold rSeen; rw [htx, e]; rfl
         rw [e']
         exact sim_grow h rfl false false 2
       · split at hn
         · rename_i e
           injection hn with hn
           subst hn
           rw [if_neg (by rw [e]; decide), if_neg (by rw [e]; decide), if_neg (by rw [e]; decide), if_neg (by rw [e]; decide), if_neg (by rw [e]; decide), if_pos e]
           have e' : rSeen (convT t) y = y := by unfold rSeen; rw [htx, e]; rfl
           rw [e']
           exact sim_grow h rfl false false 3
         · split at hn
           · rename_i e
             injection hn with hn
             subst hn
             have hs := sim_seen h rfl htx (i := 1) (by rw [e]; rfl)
             rw [if_pos e]
             show RT l _ (pCost t (.ok r, T))
             unfold pCost
             obtain ⟨k1, k2⟩ := sim_number hs.s (lo := 1) (hi := 1000) (by decide)
             refine ⟨k1, fun z => ?_⟩
             have ho : isOk (pHad t (.ok r, T)).1 = true := by
              cases hq : (pHad t (.ok r, T)).1 with
              | ok ts => rfl
              | bad e n =>
               rw [hq] at z
               unfold pNum at z
               split at z <;> cases z
             rw [(k2 z).1]
             exact (hs.f ho).cost _ _
           · split at hn
             · rename_i e2 e
               injection hn with hn
               subst hn
               have hs := sim_seen h rfl htx (i := 2) (by rw [e]; rfl)
               rw [if_neg e2, if_pos e]
               show RT l _ (pRetry t (.ok r, T))
               unfold pRetry
               obtain ⟨k1, k2⟩ := sim_number hs.s (lo := 0) (hi := 5) (by decide)
               refine ⟨k1, fun z => ?_⟩
               have ho : isOk (pHad t (.ok r, T)).1 = true := by
                cases hq : (pHad t (.ok r, T)).1 with
                | ok ts => rfl
                | bad e n =>
                 rw [hq] at z
                 unfold pNum at z
                 split at z <;> cases z
               obtain ⟨z1, z2, z3⟩ := k2 z
               rw [z1, z2]
               exact (hs.f ho).retry _ _ _ z3
             · cases hn
theorem fnOf_none {s : List UInt8} (h : fnOf s = none) : s ≠ wKind ∧ s ≠ wCost ∧ s ≠ wRetry ∧ s ≠ wSrcs ∧ s ≠ wDeps ∧ s ≠ wOut ∧ s ≠ wVis := by
 refine ⟨?_, ?_, ?_, ?_, ?_, ?_, ?_⟩ <;> (rintro rfl; exact absurd h (by decide))
theorem rSet_off {l : List RTok} {y : RTg} (he : y.x.e ≠ 0) : rSet l rt0 (rSeen rt0 y) = y := by
 have e1 : rSeen rt0 y = y := rfl
 rw [e1]
 show (⟨rFail 40 0 y.x, y.T, y.sn⟩ : RTg) = y
 unfold rFail
 rw [if_neg he]
theorem rLoop_off {l : List RTok} {y : RTg} (h : y.x.e ≠ 0) : ∀ f, rLoop l f y = y
 | 0 => rfl
 | f + 1 => by rw [rLoop, if_neg h]
def RE (l : List RTok) (y : RTg) (σ : Pst) (T : Tgt) : Prop := Sim l y.x σ ∧ (isOk σ = true → RF y T)
theorem sim_loop {l : List RTok} : ∀ (f f' : Nat) (y : RTg) (r : Pst × Tgt), RT l y r → plen r.1 < f → plen r.1 < f' → RE l (rLoop l f y) (pExpect [125] (pAttrs f' r).1) (pAttrs f' r).2
 | 0, _, _, _, _, hf, _ => absurd hf (Nat.not_lt_zero _)
 | f + 1, 0, _, _, _, _, hf' => absurd hf' (Nat.not_lt_zero _)
 | f + 1, f' + 1, y, (.bad e n, T), h, hf, hf' => by
  have he : y.x.e ≠ 0 := by rw [h.s.2.1]; exact h.s.1
  rw [rLoop_off he]
  exact ⟨h.s, fun z => by cases z⟩
 | f + 1, f' + 1, y, (.ok [], T), h, hf, hf' => h.s.ne.elim
 | f + 1, f' + 1, y, (.ok (t :: r), T), h, hf, hf' => by
  have hs : Sim l y.x (.ok (t :: r)) := h.s
  obtain ⟨t1, t2⟩ := sim_take hs 5 [125] (.inr rfl) rfl
  have hK5 : kindOf 5 = 4 := rfl
  rw [hK5] at t1 t2
  have he : y.x.e = 0 := hs.1
  have hF := h.f rfl
  rw [rLoop, if_pos he, t1]
  by_cases h125 : t.txt = [125]
  · have hp : pTake [125] (.ok (t :: r)) = (true, .ok r) := by rw [pTake, if_pos h125]
    have ha : pAttrs (f' + 1) (.ok (t :: r), T) = (.ok (t :: r), T) := by
     rw [pAttrs]
     have : pAttr (.ok (t :: r), T) = (false, .ok (t :: r), T) := by
      rw [pAttr, h125]
      rfl
     rw [this, if_neg Bool.false_ne_true]
    rw [ha, hp, if_pos rfl]
    have hx : pExpect [125] (.ok (t :: r)) = .ok r := by unfold pExpect; rw [hp, if_pos rfl]
    rw [hp] at t2
    show RE l _ (pExpect [125] (.ok (t :: r))) T
    rw [hx]
    exact ⟨t2, fun _ => ⟨hF.s, hF.n0, hF.n1, hF.n2, hF.ge, hF.rl⟩⟩
  · have hp : pTake [125] (.ok (t :: r)) = (false, .ok (t :: r)) := by rw [pTake, if_neg h125]
    rw [hp] at t1 t2 ⊢
    rw [if_neg Bool.false_ne_true, rTake_false t1]
    have hk := hs.tok
    have hd := hs.hd
    have hx : pExpect [125] (.ok (t :: r)) = .bad 40 (t.ln : Int) := by unfold pExpect; rw [hp, if_neg Bool.false_ne_true]; rfl
    unfold rRound
    by_cases hc : t.cls = 2
    · have htx := word_tx hc
      have ha : rAny 1 l y.x = (convT t, ⟨y.x.at_ + 1, y.x.e, y.x.ln⟩) := by
       unfold rAny
       rw [hd, if_pos ⟨he, by show kindOf t.cls = 1; rw [hc]; rfl⟩]
      show RE l (rLoop l f (rSet l (rAny 1 l y.x).1 (rSeen (rAny 1 l y.x).1 ⟨(rAny 1 l y.x).2, y.T, y.sn⟩))) _ _
      rw [ha]
      dsimp only
      have hRT : RT l ⟨⟨y.x.at_ + 1, y.x.e, y.x.ln⟩, y.T, y.sn⟩ (.ok r, T) := ⟨hs.nx (by omega), fun _ => ⟨hF.s, hF.n0, hF.n1, hF.n2, hF.ge, hF.rl⟩⟩
      cases hn : fnOf t.txt with
      | some n =>
       have hA : pAttr (.ok (t :: r), T) = (true, pRun n t (.ok r, T)) := by rw [pAttr, hn]
       rw [pAttrs, hA, if_pos rfl]
       have hle := pRun_le n t (.ok r, T)
       have hl1 : plen (.ok (t :: r)) = plen (.ok r) + 1 := rfl
       dsimp only at hle hf hf'
       exact sim_loop f f' _ _ (sim_attr hRT htx hn) (by dsimp only; omega) (by dsimp only; omega)
      | none =>
       have hA : pAttr (.ok (t :: r), T) = (false, .ok (t :: r), T) := by rw [pAttr, hn]
       rw [pAttrs, hA, if_neg Bool.false_ne_true]
       show RE l _ (pExpect [125] (.ok (t :: r))) T
       rw [hx]
       obtain ⟨n1, n2, n3, n4, n5, n6, n7⟩ := fnOf_none hn
       have e1 : ∀ z : RTg, rSeen (convT t) z = z := fun z => by
        unfold rSeen wOnce
        rw [htx, if_neg n1, if_neg n2, if_neg n3]
       rw [e1]
       unfold rSet
       rw [htx, if_neg n1, if_neg n2, if_neg n3, if_neg n4, if_neg n5, if_neg n6, if_neg n7]
       have e2 : rFail 40 ((convT t).ln : Int) ⟨y.x.at_ + 1, y.x.e, y.x.ln⟩ = ⟨y.x.at_ + 1, 40, ((convT t).ln : Int)⟩ := by
        unfold rFail
        rw [if_pos he]
       dsimp only
       rw [e2, rLoop_off (by show (40 : Int) ≠ 0; decide)]
       exact ⟨⟨by decide, rfl, rfl⟩, fun z => by cases z⟩
    · have hk1 : ¬ (convT t).kd = 1 := fun q => hc (kindOf_inj hk.cls (by decide) q)
      have ha : rAny 1 l y.x = (rt0, ⟨y.x.at_, 40, ((convT t).ln : Int)⟩) := by
       unfold rAny
       rw [hd, if_neg (fun q => hk1 q.2)]
       unfold rFail
       rw [if_pos he]
      show RE l (rLoop l f (rSet l (rAny 1 l y.x).1 (rSeen (rAny 1 l y.x).1 ⟨(rAny 1 l y.x).2, y.T, y.sn⟩))) _ _
      rw [ha]
      dsimp only
      rw [rSet_off (by show (40 : Int) ≠ 0; decide), rLoop_off (by show (40 : Int) ≠ 0; decide)]
      have hn : fnOf t.txt = none := by
       cases hq : fnOf t.txt with
       | none => rfl
       | some n => exact absurd (word_ok hk (fnOf_word hq)) hc
      have hA : pAttr (.ok (t :: r), T) = (false, .ok (t :: r), T) := by rw [pAttr, hn]
      rw [pAttrs, hA, if_neg Bool.false_ne_true]
      show RE l _ (pExpect [125] (.ok (t :: r))) T
      rw [hx]
      exact ⟨⟨by decide, rfl, rfl⟩, fun z => by cases z⟩
theorem pOnce_bad {K : Kn} {t : Tok} {e n : Int} : pOnce K t (.bad e n) = .bad e n := by unfold pOnce; split <;> rfl
theorem sim_target {l : List RTok} {line rl : Nat} {bf : List (List UInt8)} {K : Kn} {x : RSt} {σ : Pst} (hK : ∀ s, K s = bf.any (fun n => n == s)) (h : Sim l x σ) :
   Sim l (rTgtF l line bf x).2 (pWhole line rl K σ).1 ∧ (isOk (pWhole line rl K σ).1 = true → strip (rTgtF l line bf x).1 = strip (pWhole line rl K σ).2.1 ∧ (pWhole line rl K σ).2.2 = kPut K (rTgtF l line bf x).1.name) := by
 obtain ⟨a1, a2, a3, a4⟩ := sim_any h 2 (by decide) (by decide)
 have hK2 : kindOf 2 = 1 := rfl
 rw [hK2] at a1 a2 a3
 have d1 : Sim l (rDup bf (rAny 1 l x).1 (rAny 1 l x).2) (pOnce K (pAny 2 σ).1 (pAny 2 σ).2) := by
  by_cases ho : isOk (pAny 2 σ).2 = true
  · obtain ⟨b1, b2⟩ := a4 ho
    have e : (rAny 1 l x).1.tx = (pAny 2 σ).1.txt := by rw [a1, word_tx b1]
    unfold rDup pOnce
    rw [e, a2, hK]
    split
    · exact sim_fail a3 42 (by decide) _
    · exact a3
  · cases hq : (pAny 2 σ).2 with
    | ok ts => rw [hq] at ho; exact absurd rfl ho
    | bad e n =>
     rw [hq] at a3
     rw [pOnce_bad]
     have he : (rAny 1 l x).2.e ≠ 0 := by rw [a3.2.1]; exact a3.1
     unfold rDup rFail
     rw [if_neg he]
     split <;> exact a3
 have hn : isOk (pOnce K (pAny 2 σ).1 (pAny 2 σ).2) = true → isOk (pAny 2 σ).2 = true := by
  intro z
  cases hq : (pAny 2 σ).2 with
  | ok ts => rfl
  | bad e n => rw [hq, pOnce_bad] at z; cases z
 have n1 := sim_need d1 5 [123] (.inr rfl) rfl
 have hRT : RT l ⟨rNeed 4 [123] l (rDup bf (rAny 1 l x).1 (rAny 1 l x).2), rT0 (rAny 1 l x).1.tx line, fun _ => false⟩ (pExpect [123] (pOnce K (pAny 2 σ).1 (pAny 2 σ).2), { tgt0 line rl with name := (pAny 2 σ).1.txt }) := by
  refine ⟨n1, fun z => ?_⟩
  obtain ⟨b1, b2⟩ := a4 (hn (pExpect_ok z))
  refine ⟨?_, rfl, rfl, rfl, Int.le_refl _, fun q => absurd rfl q⟩
  unfold strip rT0 tgt0
  dsimp only
  rw [a1, word_tx b1]
 have hlen := n1.plen_le
 have hL := sim_loop (l.length + 1) (plen (pExpect [123] (pOnce K (pAny 2 σ).1 (pAny 2 σ).2)) + 1) _ _ hRT (by dsimp only; omega) (by dsimp only; omega)
 obtain ⟨L1, L2⟩ := hL
 unfold rTgtF pWhole
 dsimp only
 have e1 : rLoop l (l.length + 1) ⟨rNeed 4 [123] l (rDup bf (rAny 1 l x).1 (rAny 1 l x).2), rT0 (rAny 1 l x).1.tx line, fun _ => false⟩ = rBody l line bf x := rfl
 have e2 : pAttrs (plen (pExpect [123] (pOnce K (pAny 2 σ).1 (pAny 2 σ).2)) + 1) (pExpect [123] (pOnce K (pAny 2 σ).1 (pAny 2 σ).2), { tgt0 line rl with name := (pAny 2 σ).1.txt }) = pBody line rl K σ := rfl
 rw [e1, e2] at L1 L2
 have hnm : isOk (pExpect [125] (pBody line rl K σ).1) = true → (pAny 2 σ).1.txt = (rAny 1 l x).1.tx ∧ True := by
  intro z
  have z2 : isOk (pExpect [123] (pOnce K (pAny 2 σ).1 (pAny 2 σ).2)) = true := by
   cases hq : pExpect [123] (pOnce K (pAny 2 σ).1 (pAny 2 σ).2) with
   | ok ts => rfl
   | bad e n =>
    have : pBody line rl K σ = (.bad e n, { tgt0 line rl with name := (pAny 2 σ).1.txt }) := by
     unfold pBody
     rw [hq]
     rfl
    rw [this] at z
    cases z
  obtain ⟨b1, b2⟩ := a4 (hn (pExpect_ok z2))
  exact ⟨by rw [a1, word_tx b1], trivial⟩
 by_cases ho : isOk (pExpect [125] (pBody line rl K σ).1) = true
 · have hF := L2 ho
   obtain ⟨f1, f2, f3, f4, f5, f6⟩ := strip_fields hF.s
   unfold rCheck pCheck
   have hge := hF.ge
   by_cases hc : (pBody line rl K σ).2.retry ≠ 0 ∧ (pBody line rl K σ).2.kind ≠ 3
   · rw [if_pos hc, if_pos ⟨by rw [f6]; omega, by rw [f2]; exact hc.2⟩, hF.rl hc.1]
     exact ⟨sim_fail L1 41 (by decide) _, fun z => by rw [pFail_ok] at z; cases z⟩
   · rw [if_neg hc, if_neg (fun q => hc ⟨by rw [← f6]; omega, by rw [← f2]; exact q.2⟩)]
     refine ⟨L1, fun z => ⟨hF.s, ?_⟩⟩
     rw [f1]
     congr 1
     have nm : ∀ f (r : Pst × Tgt), (pAttrs f r).2.name = r.2.name := by
      intro f
      induction f with
      | zero => intro r; rfl
      | succ f ih =>
       intro r
       obtain ⟨σ', T'⟩ := r
       rw [pAttrs]
       have hA : (pAttr (σ', T')).2.2.name = T'.name := by
        cases σ' with
        | bad e n => rfl
        | ok ts =>
         cases ts with
         | nil => rfl
         | cons t r =>
          rw [pAttr]
          cases hq : fnOf t.txt with
          | none => rfl
          | some n =>
           dsimp only
           unfold pRun
           have hk : ∀ f (r : Pst × Tgt), (pKinds f r).2.name = r.2.name := by
            intro f
            induction f with
            | zero => intro r; rfl
            | succ f ih => intro r; rw [pKinds]; split
                           · rfl
                           · exact ih r
           repeat' split
           all_goals first
             | rfl
             | exact hk 4 _
       split
       · rw [ih, hA]
       · exact hA
     exact (nm (plen (pExpect [123] (pOnce K (pAny 2 σ).1 (pAny 2 σ).2)) + 1) (pExpect [123] (pOnce K (pAny 2 σ).1 (pAny 2 σ).2), { tgt0 line rl with name := (pAny 2 σ).1.txt })).symm
 · have hb : ∃ e n, pExpect [125] (pBody line rl K σ).1 = .bad e n := by
    cases hq : pExpect [125] (pBody line rl K σ).1 with
    | ok ts => rw [hq] at ho; exact absurd rfl ho
    | bad e n => exact ⟨e, n, rfl⟩
   obtain ⟨e, n, hb⟩ := hb
   rw [hb] at L1 ⊢
   have he : (rBody l line bf x).x.e ≠ 0 := by rw [L1.2.1]; exact L1.1
   have e3 : pCheck (pBody line rl K σ).2 (.bad e n) = .bad e n := by unfold pCheck; split <;> rfl
   rw [e3]
   refine ⟨?_, fun z => by cases z⟩
   unfold rCheck rFail
   rw [if_neg he]
   split <;> exact L1
theorem rTgts_off {l : List RTok} {a : List Tgt} {x : RSt} (h : x.e ≠ 0) : ∀ f, rTgts l f a x = (a, x)
 | 0 => rfl
 | f + 1 => by rw [rTgts, if_neg (fun z => h z.1)]
def FileSame (r : List Tgt × RSt) (a : List Tgt) (p : List Tgt × Pst) : Prop := match pEndF p.2 with
 | none => r.2.e = 0 ∧ r.1.map strip = (a ++ p.1).map strip
 | some (e, n) => e ≠ 0 ∧ r.2.e = e ∧ r.2.ln = n
theorem sim_tgts {l : List RTok} : ∀ (f f' rl : Nat) (a a' : List Tgt) (x : RSt) (σ : Pst) (K : Kn), (∀ s, K s = (a.map (·.name)).any (fun n => n == s)) → a.map strip = a'.map strip → Sim l x σ → plen σ < f → plen σ < f' →
   FileSame (rTgts l f a x) a' (pTgts f' rl K σ)
 | 0, _, _, _, _, _, _, _, _, _, _, hf, _ => absurd hf (Nat.not_lt_zero _)
 | f + 1, 0, _, _, _, _, _, _, _, _, _, _, hf' => absurd hf' (Nat.not_lt_zero _)
 | f + 1, f' + 1, rl, a, a', x, .bad e n, K, hK, ha, h, hf, hf' => by
  have he : x.e ≠ 0 := by rw [h.2.1]; exact h.1
  rw [rTgts_off he]
  exact h
 | f + 1, f' + 1, rl, a, a', x, .ok [], K, hK, ha, h, hf, hf' => h.ne.elim
 | f + 1, f' + 1, rl, a, a', x, .ok (t :: r), K, hK, ha, h, hf, hf' => by
  have hk := h.tok
  have he : x.e = 0 := h.1
  rw [rTgts, pTgts]
  by_cases hc1 : t.cls = 1
  · have hkd : (hdT l x.at_).kd = 0 := by rw [h.hd]; show kindOf t.cls = 0; rw [hc1]; rfl
    rw [if_neg (fun z => z.2 hkd)]
    have hw : t.txt ≠ wTarget := by
     intro z
     have := hk.1
     rw [z, hc1] at this
     exact absurd this (by decide)
    rw [if_neg hw]
    unfold FileSame
    have : pEndF (.ok (t :: r)) = none := by rw [pEndF, if_pos hc1]
    rw [this]
    exact ⟨he, by rw [List.append_nil]; exact ha⟩
  · have hkd : (hdT l x.at_).kd ≠ 0 := by
     rw [h.hd]
     intro z
     exact hc1 (kindOf_inj hk.cls (by decide) z)
    rw [if_pos ⟨he, hkd⟩]
    have hn := sim_need h 2 wTarget (.inl rfl) (by decide)
    have hK2 : kindOf 2 = 1 := rfl
    rw [hK2] at hn
    by_cases hw : t.txt = wTarget
    · have hx : pExpect wTarget (.ok (t :: r)) = .ok r := by unfold pExpect; rw [pTake, if_pos hw, if_pos rfl]
      rw [hx] at hn
      rw [if_pos hn.1, if_pos hw]
      have hln : (hdT l x.at_).ln = t.ln := by rw [h.hd]; rfl
      rw [hln]
      obtain ⟨T1, T2⟩ := sim_target (line := t.ln) (rl := rl) (bf := a.map (·.name)) (K := K) hK hn
      have hle := pWhole_le t.ln rl K (.ok r)
      have hl1 : plen (.ok (t :: r)) = plen (.ok r) + 1 := rfl
      cases hb : (pWhole t.ln rl K (.ok r)).1 with
      | bad e n =>
       rw [hb] at T1
       have he2 : (rTgtF l t.ln (a.map (·.name)) (rNeed 1 wTarget l x)).2.e ≠ 0 := by rw [T1.2.1]; exact T1.1
       rw [rTgts_off he2]
       have hpt : ∀ f rl K, (pTgts f rl K (.bad e n)).2 = .bad e n := by intro f rl K; cases f <;> rfl
       unfold FileSame
       dsimp only
       rw [hpt]
       exact T1
      | ok ts =>
       rw [hb] at T1 T2 hle
       obtain ⟨s1, s2⟩ := T2 rfl
       have hK' : ∀ s, (pWhole t.ln rl K (.ok r)).2.2 s = ((a ++ [(rTgtF l t.ln (a.map (·.name)) (rNeed 1 wTarget l x)).1]).map (·.name)).any (fun n => n == s) := by
        intro s
        rw [s2, List.map_append, List.any_append, ← hK]
        unfold kPut
        simp only [List.map_cons, List.map_nil, List.any_cons, List.any_nil, Bool.or_false]
        rw [Bool.or_comm]
        congr 1
        rw [Bool.eq_iff_iff]
        simp only [beq_iff_eq, decide_eq_true_eq]
        exact ⟨fun z => z.symm, fun z => z.symm⟩
       have ha' : (a ++ [(rTgtF l t.ln (a.map (·.name)) (rNeed 1 wTarget l x)).1]).map strip = (a' ++ [(pWhole t.ln rl K (.ok r)).2.1]).map strip := by
        rw [List.map_append, List.map_append, ha, List.map_cons, List.map_cons, s1]
       have := sim_tgts f f' (pWhole t.ln rl K (.ok r)).2.1.rl _ _ _ (.ok ts) (pWhole t.ln rl K (.ok r)).2.2 hK' ha' T1 (by omega) (by omega)
       unfold FileSame at this ⊢
       dsimp only
       revert this
       cases pEndF (pTgts f' (pWhole t.ln rl K (.ok r)).2.1.rl (pWhole t.ln rl K (.ok r)).2.2 (.ok ts)).2 with
       | none =>
        intro this
        refine ⟨this.1, ?_⟩
        rw [this.2]
        simp
       | some p => intro this; exact this
    · have hx : pExpect wTarget (.ok (t :: r)) = .bad 40 (t.ln : Int) := by unfold pExpect; rw [pTake, if_neg hw, if_neg Bool.false_ne_true]; rfl
      rw [hx] at hn
      have he2 : (rNeed 1 wTarget l x).e ≠ 0 := by rw [hn.2.1]; decide
      rw [if_neg he2, if_neg hw, rTgts_off he2]
      unfold FileSame
      have : pEndF (.ok (t :: r)) = some (40, (t.ln : Int)) := by rw [pEndF, if_neg hc1]
      rw [this]
      exact hn
theorem sim_head {l : List RTok} {ts : List Tok} (h : Sim l ⟨0, 0, 0⟩ (.ok ts)) : Sim l (rHead l).2 (pHead (.ok ts)).2 ∧ (isOk (pHead (.ok ts)).2 = true → (rHead l).1 = (pHead (.ok ts)).1) := by
 obtain ⟨t1, t2⟩ := sim_take h 2 wPlats (.inl rfl) (by decide)
 have hK2 : kindOf 2 = 1 := rfl
 rw [hK2] at t1 t2
 unfold rHead pHead
 rw [t1]
 cases hb : (pTake wPlats (.ok ts)).1 with
 | true =>
  rw [if_pos rfl, if_pos rfl]
  exact sim_plats t2 (take_okB hb).1
 | false =>
  rw [if_neg Bool.false_ne_true, if_neg Bool.false_ne_true]
  exact ⟨t2, fun _ => rfl⟩
theorem parse_same {s : List UInt8} (h : TsOk (toks s 1)) : (rParse (rToks s 1)).2 = (pParse s).2 ∧ (rParse (rToks s 1)).1.1 = (pParse s).1.1 ∧ (rParse (rToks s 1)).1.2.map strip = (pParse s).1.2.map strip := by
 have h0 : Sim (rToks s 1) ⟨0, 0, 0⟩ (.ok (toks s 1)) := ⟨rfl, h, rfl⟩
 obtain ⟨h1, h2⟩ := sim_head h0
 have hlen := h1.plen_le
 have hF := sim_tgts ((rToks s 1).length + 1) (plen (pHead (.ok (toks s 1))).2 + 1) 0 [] [] _ _ (fun _ => false) (fun s => rfl) rfl h1 (by omega) (by omega)
 have e1 : rTgts (rToks s 1) ((rToks s 1).length + 1) [] (rHead (rToks s 1)).2 = rAll (rToks s 1) := rfl
 rw [e1] at hF
 unfold rParse pParse
 have e2 : (pFile s).2 = (pTgts (plen (pHead (.ok (toks s 1))).2 + 1) 0 (fun _ => false) (pHead (.ok (toks s 1))).2).2 := rfl
 have e3 : (pFile s).1 = ((pHead (.ok (toks s 1))).1, (pTgts (plen (pHead (.ok (toks s 1))).2 + 1) 0 (fun _ => false) (pHead (.ok (toks s 1))).2).1) := rfl
 have hpt : isOk (pTgts (plen (pHead (.ok (toks s 1))).2 + 1) 0 (fun _ => false) (pHead (.ok (toks s 1))).2).2 = true → isOk (pHead (.ok (toks s 1))).2 = true := by
  intro z
  cases hq : (pHead (.ok (toks s 1))).2 with
  | ok ts => rfl
  | bad e n => rw [hq] at z; cases z
 rw [e2, e3]
 revert hpt hF
 generalize pTgts (plen (pHead (.ok (toks s 1))).2 + 1) 0 (fun _ => false) (pHead (.ok (toks s 1))).2 = P
 intro hF hpt
 unfold FileSame at hF
 revert hF
 cases hq : pEndF P.2 with
 | none =>
  intro hF
  obtain ⟨f1, f2⟩ := hF
  rw [if_pos f1]
  have ho : isOk P.2 = true := by
   cases hz : P.2 with
   | ok ts => rfl
   | bad e n => rw [hz] at hq; cases hq
  exact ⟨rfl, h2 (hpt ho), by simpa using f2⟩
 | some p =>
  intro hF
  obtain ⟨f1, f2, f3⟩ := hF
  rw [if_neg (by rw [f2]; exact f1), f2, f3]
  exact ⟨rfl, rfl, rfl⟩
theorem toks_ok : ∀ (f : Nat) (s : List UInt8) (n : Nat), s.length ≤ f → s.length ≤ 4294967000 → TsOk (toks s n)
 | f, s, n, hf, hs => by
  have hk : TokOk (next s n).1 := by
   have hsl := (skip_len false s n).1
   refine ⟨?_, ?_⟩
   · show first ((skip false s n).1.take (first (skip false s n).1).2) = ((first (skip false s n).1).1, ((skip false s n).1.take (first (skip false s n).1).2).length)
     have e := first_le (skip false s n).1
     rw [first_take, List.length_take, Nat.min_eq_left e]
   · show ((skip false s n).1.take _).length ≤ _
     rw [List.length_take]
     omega
  rw [toks_eq]
  by_cases h : (next s n).1.cls ≤ 1
  · rw [if_pos h]
    exact ⟨hk, by rw [if_pos h]⟩
  · rw [if_neg h]
    have hlen := next_len s n (by omega)
    refine ⟨hk, ?_⟩
    rw [if_neg h]
    cases f with
    | zero => omega
    | succ f => exact toks_ok f _ _ (by omega) (by omega)
theorem rSeen_at (a : RTok) (y : RTg) : (rSeen a y).x.at_ = y.x.at_ := by
 unfold rSeen
 split
 · dsimp only
   split
   · rw [rFail_at]
   · rfl
 · rfl
theorem rSeen_e0 {a : RTok} {y : RTg} (h : (rSeen a y).x.e = 0) : y.x.e = 0 := by
 unfold rSeen at h
 split at h
 · dsimp only at h
   split at h
   · exact absurd h (rFail_e (by decide))
   · exact h
 · exact h
theorem rSet_e0 {l : List RTok} {a : RTok} {y : RTg} (h : (rSet l a y).x.e = 0) : y.x.e = 0 ∧ y.x.at_ ≤ (rSet l a y).x.at_ := by
 unfold rSet at h ⊢
 split at h
 · rename_i q; rw [if_pos q]; exact rKinds_e0 4 h
 · rename_i q; rw [if_neg q]
   split at h
   · rename_i q; rw [if_pos q]; exact rNumber_e0 h
   · rename_i q; rw [if_neg q]
     split at h
     · rename_i q; rw [if_pos q]; exact rNumber_e0 h
     · rename_i q; rw [if_neg q]
       split at h
       · rename_i q; rw [if_pos q]; exact ⟨(rItems_e0 h).1, rItems_le⟩
       · rename_i q; rw [if_neg q]
         split at h
         · rename_i q; rw [if_pos q]; exact ⟨(rItems_e0 h).1, rItems_le⟩
         · rename_i q; rw [if_neg q]
           split at h
           · rename_i q; rw [if_pos q]; exact ⟨(rItems_e0 h).1, rItems_le⟩
           · rename_i q; rw [if_neg q]
             split at h
             · rename_i q; rw [if_pos q]; exact ⟨(rItems_e0 h).1, rItems_le⟩
             · exact absurd h (rFail_e (by decide))
theorem rRound_e0 {l : List RTok} {y : RTg} (h : (rRound l y).x.e = 0) : y.x.e = 0 ∧ y.x.at_ + 1 ≤ (rRound l y).x.at_ := by
 unfold rRound at h ⊢
 obtain ⟨h1, h2⟩ := rSet_e0 h
 have h3 := rSeen_e0 h1
 rw [rSeen_at] at h2
 dsimp only at h2 h3
 obtain ⟨h4, h5⟩ := rAny_e0 h3
 rw [h5] at h2
 exact ⟨h4, h2⟩
theorem rAny_tx {kd : Int} {l : List RTok} {x : RSt} (h : (rAny kd l x).1.tx ≠ []) : (rAny kd l x).2.e = 0 := by
 unfold rAny at h ⊢
 split
 · rename_i q; exact q.1
 · rename_i q; rw [if_neg q] at h; exact absurd rfl h
def rmeas (b N : Nat) (w : World) : Nat := match w.cell? ⟨b, 2, none⟩ with
 | some (.int _ e) => if e = 0 then (match w.cell? ⟨b, 1, none⟩ with | some (.int _ a) => N + 1 - a.toNat | _ => 0) else 0
 | _ => 0
theorem rmeas_eq {w : World} {bs b : Nat} {A : Option Addr} {c : Nat} {l : List RTok} {x : RSt} (h : RS w bs b A c l x) (N : Nat) : rmeas b N w = if x.e = 0 then N + 1 - x.at_ else 0 := by
 have c2 : w.cell? ⟨b, 2, none⟩ = some (.int .i64 x.e) := h.fu.cell 2
 have c1 : w.cell? ⟨b, 1, none⟩ = some (.int .i64 (x.at_ : Int)) := h.fu.cell 1
 unfold rmeas
 rw [c2, c1]
 rfl
theorem meas_lt {w1 w2 : World} {bs b : Nat} {A : Option Addr} {c : Nat} {l : List RTok} {x1 x2 : RSt} (h1 : RS w1 bs b A c l x1) (h2 : RS w2 bs b A c l x2) (e1 : x1.e = 0) (hm : x2.e = 0 → x1.at_ + 1 ≤ x2.at_) : rmeas b l.length w2 < rmeas b l.length w1 := by
 rw [rmeas_eq h1, rmeas_eq h2, if_pos e1]
 have := h1.lt
 split
 · rename_i e
   have := hm e
   omega
 · omega
def zero9 : List Value := [.string ⟨#[]⟩, .int .i64 0, .int .i64 0, .slice none 0 0, .slice none 0 0, .slice none 0 0, .slice none 0 0, .int .i64 0, .int .i64 0]
theorem RG.fin {w0 W W' : World} {bs b p q r : Nat} {A : Option Addr} {c : Nat} {l : List RTok} {y : RTg} {vs : Nat → Value} {cs : List Value} (h : RG w0 bs b p q A c l W y vs) (hz : Full W r 50 cs) (hr : w0.heap.size ≤ r) (t : Turn (fun g => g = r) W W') :
   RS W' bs b A c l y.x ∧ Rows4 W' w0.heap.size y.T.rows vs ∧ Turn (fun g => g = b) w0 W' :=
 ⟨h.rs.keep t (by have := h.bb; omega) (own_full_ne h.rs.ow hz (by decide)), h.rows.off t (fun j hj g e => own_full_ne (h.rows.own j hj) hz (by decide) g e), h.tn.late t (fun g e => .inr (by rw [e]; exact hr))⟩
set_option maxHeartbeats 64000000 in
theorem rtarget_any {w : World} {bs b : Nat} {A : Option Addr} {c : Nat} {l : List RTok} {x : RSt} (h : RS w bs b A c l x) (hl : LOk l) (hd : LDig l) (line : Nat) {B2 : Nat} {A2 : Option Addr} {n2 c2 : Nat} {tl : List (Tgt × (Nat → Value))} (hT : w.ownsRow B2 50 9 (.slice A2 n2 c2) n2 (tgtsC tl)) (hn2 : n2 = tl.length) :
   Calls Tryz.prog 49 #[.pointer (some ⟨b, 0, none⟩), .int .i64 (line : Int), .slice A2 n2 c2] w (fun en w' => ∃ vs, en = .returned (tgtV (rTgtF l line (tl.map (·.1.name)) x).1 vs) ∧ RS w' bs b A c l (rTgtF l line (tl.map (·.1.name)) x).2 ∧ Rows4 w' w.heap.size (rTgtF l line (tl.map (·.1.name)) x).1.rows vs ∧ Turn (fun g => g = b) w w') := by
 unfold rTgtF
 dsimp only
 obtain ⟨yE, hE⟩ : ∃ y, rBody l line (tl.map (·.1.name)) x = y := ⟨_, rfl⟩
 rw [hE]
 unfold rBody at hE
 have hbS := h.fu.lt
 obtain ⟨NM, hNM⟩ : ∃ z, tl.map (·.1.name) = z := ⟨_, rfl⟩
 rw [hNM] at hE
 obtain ⟨⟨tk, x2⟩, hx2⟩ : ∃ z, rAny 1 l x = z := ⟨_, rfl⟩
 rw [hx2] at hE
 dsimp only at hE
 obtain ⟨x3, hx3⟩ : ∃ z, rDup NM tk x2 = z := ⟨_, rfl⟩
 obtain ⟨x4, hx4⟩ : ∃ z, rNeed 4 [123] l x3 = z := ⟨_, rfl⟩
 rw [hx3, hx4] at hE
 obtain ⟨w1, hw1⟩ : ∃ w1, w.alloc (.cells #[.string ⟨#[]⟩, .int .i64 0, .int .i64 0, .slice none 0 0, .slice none 0 0, .slice none 0 0, .slice none 0 0, .int .i64 0, .int .i64 0] 50) = w1 := ⟨_, rfl⟩
 have hb1 : Below w.heap.size w w1 := by rw [← hw1]; exact (Below.refl _ w).alloc (Nat.le_refl _) _
 have F1 : Full w1 w.heap.size 50 zero9 := by rw [← hw1]; exact Full.new w 50 zero9
 obtain ⟨r, hr⟩ : ∃ r, w.heap.size = r := ⟨_, rfl⟩
 rw [hr] at F1
 have AN := rany_any (h.on hb1) hl 1 (by decide) (by decide)
 unfold RdOut rtV at AN
 rw [hx2] at AN
 dsimp only at AN
 obtain ⟨y0, hy0⟩ : ∃ y, tk.kd = y := ⟨_, rfl⟩
 obtain ⟨Y, hY⟩ : ∃ y, str tk.tx = y := ⟨_, rfl⟩
 obtain ⟨y2, hy2⟩ : ∃ y : Nat, tk.ln = y := ⟨_, rfl⟩
 rw [hy0, hY, hy2] at AN
 have HAN := Lib.hid AN
 have HNE := Lib.hid (fun (W : World) (H : RS W bs b A c l x3) => (by
  have z := rneed_any H hl 4 (by decide) (by decide) [123]
  unfold RdOut at z
  rw [hx4] at z
  exact z : Calls Tryz.prog 48 #[.pointer (some ⟨b, 0, none⟩), .int .i64 4, .string ⟨#[123]⟩] W (fun en w' => en = .returned (.tuple #[]) ∧ RS w' bs b A c l x4 ∧ Turn (fun g => g = b) W w')))
 have HFL := Lib.hid (fun (W : World) (X : RSt) (H : RS W bs b A c l X) => (by
  have z := rfail_any H 42 (y2 : Int)
  unfold RdOut at z
  exact z : Calls Tryz.prog 80 #[.pointer (some ⟨b, 0, none⟩), .int .i64 42, .int .i64 (y2 : Int)] W (fun en w' => en = .returned (.tuple #[]) ∧ RS w' bs b A c l (rFail 42 (y2 : Int) X) ∧ Turn (fun g => g = b) W w')))
 have hNl : NM.length = n2 := by rw [← hNM, List.length_map]; exact hn2.symm
 have HTB := Lib.hid (fun (W : World) (t : Turn (fun g => g = b) w W) (k : Nat) (hk : k < NM.length) => show ∃ ad, A2 = some ad ∧ W.cell? (ad.add (k * 9)) = some (.string (str (NM[k]'hk))) from by
  have ho := own_off hT t (own_full_ne hT h.fu (by decide))
  have hkt : k < tl.length := by omega
  have e := flat_at tgtC 9 (fun i => rfl) tl k 0 hkt (by decide)
  obtain ⟨ad, e1, _, h0⟩ := Row.cell_at (Row.own ho) e
  refine ⟨ad, e1, ?_⟩
  have e2 : NM[k]'hk = (tl[k]'hkt).1.name := by subst hNM; simp
  rw [e2]
  exact h0)
 have hn2m : n2 ≤ maxLen := by
  have := (Row.own hT).2.1
  have := hT.2
  rcases this with ⟨_, z⟩ | ⟨_, _, _, _, _, _, z1, z2, _⟩
  · rw [z]; exact Nat.zero_le _
  · omega
 unfold maxLen at hn2m
 have HX3 := Lib.hid hx3
 have HE := Lib.hid hE
 have HYY := Lib.hid hY
 have HY2 := Lib.hid hy2
 have HNl := Lib.hid hNl
 have HL := Lib.hid hl
 have HDg := Lib.hid hd
 have HF1 := Lib.hid F1
 have HB1 := Lib.hid hb1
 have HRR := Lib.hid hr
 have hbr : b < r := by omega
 have hA2 : A2 = A2 := rfl
 clear hE hx2 hx3 hx4 F1 hb1 AN hy0 hY hy2 hNl hNM hT hn2 h hl hd hA2
 go_enter Tryz.func49, Tryz.ntmps49
 go_upto_region 2 with (first
   | (go_at_call 81; ((with_reducible refine HAN.out.mono ?_); rintro en wa ⟨rfl, ha, hta⟩; (have HA := Lib.hid (And.intro ha hta)); clear ha hta))
   | (fail "arm"))
 clear hr hw1
 obtain ⟨w3, hw3⟩ : ∃ w3, wa.alloc (.cells #[.int .i64 y0, .string Y, .int .i64 (y2 : Int)] 70) = w3 := ⟨_, rfl⟩
 have hb3 : Below wa.heap.size wa w3 := by rw [← hw3]; exact (Below.refl _ wa).alloc (Nat.le_refl _) _
 have F3 : Full w3 wa.heap.size 70 [.int .i64 y0, .string Y, .int .i64 (y2 : Int)] := by rw [← hw3]; exact Full.new wa 70 _
 obtain ⟨u, hu⟩ : ∃ u, wa.heap.size = u := ⟨_, rfl⟩
 rw [hu] at F3
 have hua : r < u := by rw [← hu]; exact (HA.out.2.far HF1.out (by omega)).lt
 have HW3 := Lib.hid (show RS w3 bs b A c l x2 ∧ Full w3 u 70 [.int .i64 y0, .string Y, .int .i64 (y2 : Int)] ∧ Full w3 r 50 zero9 ∧ Turn (fun g => g = b) w w3 from
   ⟨HA.out.1.on hb3, F3, (HA.out.2.far HF1.out (by omega)).on hb3, ((Turn.of HB1.out).trans_ HA.out.2).trans_ (Turn.of hb3)⟩)
 rw [hw3, hu]
 clear hw3 hu hb3 F3 HA HAN HF1 HB1
 go_upto_region 3 with fail
 go_loopw [8] (fun v8 wr => ∃ k : Nat, v8 = .int .i64 (k : Int) ∧ k ≤ n2 ∧ Hid (RS wr bs b A c l (rDup (NM.take k) tk x2)) ∧ Hid (Turn (fun g => g = b) w3 wr)) (fun v8 _ => n2 - (intOf v8).toNat)
 case atStart => exact ⟨0, rfl, Nat.zero_le _, Lib.hid (by rw [List.take_zero]; exact HW3.out.1), Lib.hid (Turn.refl _ _)⟩
 case round =>
  obtain ⟨k, rfl, hk, HS, HT⟩ := hrel
  have hi0 : (0 : Int) ≤ (k : Int) := Int.natCast_nonneg _
  have hub : u ≠ b := by omega
  have FU := HT.out.far HW3.out.2.1 hub
  have z1 : wr.cell? ⟨u, 1, none⟩ = some (.string Y) := FU.cell 1
  have z2 : wr.cell? ⟨u, 2, none⟩ = some (.int .i64 (y2 : Int)) := FU.cell 2
  by_cases hlt : k < n2
  · have hi1 : (k : Int) < (n2 : Int) := by omega
    have hdd : decide ((k : Int) < (n2 : Int)) = true := by simp; omega
    have hkl : k < NM.length := by have := HNl.out; omega
    obtain ⟨ad, rfl, n0⟩ := HTB.out wr (HW3.out.2.2.2.trans_ HT.out) k hkl
    obtain ⟨Nk, hNk⟩ : ∃ z, str (NM[k]'hkl) = z := ⟨_, rfl⟩
    rw [hNk] at n0
    obtain ⟨eq, heq⟩ : ∃ z, (Nk.toList == Y.toList) = z := ⟨_, rfl⟩
    have heq2 : ((NM[k]'hkl) == tk.tx) = eq := by rw [← heq, ← hNk, ← HYY.out, Lib.toList_data, Lib.toList_data, str_data, str_data]
    have hstep : rDup (NM.take (k + 1)) tk x2 = if eq then rFail 42 (y2 : Int) (rDup (NM.take k) tk x2) else rDup (NM.take k) tk x2 := by
     rw [List.take_succ_eq_append_getElem hkl, rDup_step]
     generalize rDup (NM.take k) tk x2 = X
     unfold rDup
     simp only [List.any_cons, List.any_nil, Bool.or_false]
     rw [heq2, HY2.out]
    have HST := Lib.hid hstep
    clear hstep heq2 hNk FU
    cases eq with
    | true =>
     go_upto_region 5 with fail
     go_quiet (fail)
     go_wp2_with (first
       | (go_at_call 80; ((with_reducible refine (HFL.out _ _ (HS.out.on (Below.drewN_ (Below.refl _ _) _))).mono ?_); rintro en w5 ⟨rfl, h5, ht5⟩; (have H5 := Lib.hid h5); (have HT5 := Lib.hid ((HT.out.trans_ (Turn.of (Below.drewN_ (Below.refl _ _) _))).trans_ ht5)); clear h5 ht5))
       | (fail "arm"))
     go_roundw
     case rel => exact ⟨k + 1, by go_num, by omega, Lib.hid (by rw [HST.out]; exact H5.out), HT5⟩
     case measure => simp [intOf]; omega
    | false =>
     go_upto_region 5 with fail
     go_quiet (fail)
     go_wp2
     go_roundw
     case rel => exact ⟨k + 1, by go_num, by omega, Lib.hid (by rw [HST.out]; exact HS.out.on (Below.drewN_ (Below.refl _ _) _)), Lib.hid (HT.out.trans_ (Turn.of (Below.drewN_ (Below.refl _ _) _)))⟩
     case measure => simp [intOf]; omega
  · obtain rfl : k = n2 := by omega
    have hdd : decide (((k : Nat) : Int) < (k : Int)) = false := by simp
    have HS3 := Lib.hid (show RS wr bs b A c l x3 from by
     have z := HS.out
     rw [List.take_of_length_le (by have := HNl.out; omega), HX3.out] at z
     exact z)
    go_upto_region 8 with fail
    obtain ⟨w6, hw6⟩ : ∃ w6, wr.alloc (.cells #[.string Y, .int .i64 1, .int .i64 (line : Int), .slice none 0 0, .slice none 0 0, .slice none 0 0, .slice none 0 0, .int .i64 1, .int .i64 0] 50) = w6 := ⟨_, rfl⟩
    have hb6 : Below wr.heap.size wr w6 := by rw [← hw6]; exact (Below.refl _ wr).alloc (Nat.le_refl _) _
    have F6 : Full w6 wr.heap.size 50 [.string Y, .int .i64 1, .int .i64 (line : Int), .slice none 0 0, .slice none 0 0, .slice none 0 0, .slice none 0 0, .int .i64 1, .int .i64 0] := by rw [← hw6]; exact Full.new wr 50 _
    obtain ⟨p, hp⟩ : ∃ p, wr.heap.size = p := ⟨_, rfl⟩
    rw [hp] at F6
    have hup : u < p := by rw [← hp]; exact FU.lt
    have HW6 := Lib.hid (show RS w6 bs b A c l x3 ∧ Full w6 p 50 _ ∧ Full w6 r 50 zero9 ∧ Turn (fun g => g = b) w w6 from
      ⟨HS3.out.on hb6, F6, (HT.out.far HW3.out.2.2.1 (by omega)).on hb6, (HW3.out.2.2.2.trans_ HT.out).trans_ (Turn.of hb6)⟩)
    rw [hw6, hp]
    clear hw6 hp hb6 F6 HS3 FU z1 z2
    go_upto_region 10 with (first
      | (go_at_call 48; ((with_reducible refine (HNE.out _ HW6.out.1).mono ?_); rintro en w7 ⟨rfl, h7, ht7⟩; (have H7 := Lib.hid (And.intro h7 ht7)); clear h7 ht7))
      | (fail "arm"))
    obtain ⟨w8, hw8⟩ : ∃ w8, w7.alloc (.cells #[.bool false, .bool false, .bool false] 128) = w8 := ⟨_, rfl⟩
    have hb8 : Below w7.heap.size w7 w8 := by rw [← hw8]; exact (Below.refl _ w7).alloc (Nat.le_refl _) _
    have F8 : Full w8 w7.heap.size 128 [.bool false, .bool false, .bool false] := by rw [← hw8]; exact Full.new w7 128 _
    obtain ⟨q, hq⟩ : ∃ q, w7.heap.size = q := ⟨_, rfl⟩
    rw [hq] at F8
    have F7 := H7.out.2.far HW6.out.2.1 (by omega)
    have hpq : p < q := by rw [← hq]; exact F7.lt
    have HG0 := Lib.hid (show RG w bs b p q A c l w8 ⟨x4, rT0 tk.tx line, fun _ => false⟩ (fun _ => .slice none 0 0) from
      ⟨H7.out.1.on hb8, (by have z := F7.on hb8; rw [← HYY.out] at z; exact z), F8, ⟨fun i hi => ⟨rfl, .inl ⟨rfl, rfl⟩⟩, fun i j _ _ _ g e => by simp [Value.ownBlock] at e⟩, (HW6.out.2.2.2.trans_ H7.out.2).trans_ (Turn.of hb8), hbS, (by have := HRR.out; omega), (by have := HRR.out; omega), (by omega), fun _ i _ => Nat.zero_le _⟩)
    have HZ0 := Lib.hid ((H7.out.2.far HW6.out.2.2.1 (by omega)).on hb8)
    rw [hw8, hq]
    clear hw8 hq hb8 F8 F7 H7 HW6 HW3 HS HT HNE HFL HTB HX3 hdd
    go_upto_region 11 with fail
    go_loopw [11] (fun v11 wr => ∃ (f : Nat) (y : RTg) (vs : Nat → Value), v11 = .int .i64 (y.T.rl : Int) ∧ Hid (RG w bs b p q A c l wr y vs) ∧ Hid (rLoop l f y = yE) ∧ Hid (y.x.e = 0 → l.length < f + y.x.at_) ∧ Hid (Full wr r 50 zero9)) (fun _ wr => rmeas b l.length wr)
    case atStart => exact ⟨l.length + 1, _, _, rfl, HG0, HE, Lib.hid (fun _ => by omega), HZ0⟩
    case round =>
     obtain ⟨f, y, vs, rfl, HG, HLp, Hf, HZ⟩ := hrel
     obtain ⟨e, he⟩ : ∃ e, y.x.e = e := ⟨_, rfl⟩
     have c2 : wr.cell? ⟨b, 2, none⟩ = some (.int .i64 e) := by rw [← he]; exact HG.out.rs.fu.cell 2
     by_cases e0 : e = 0
     · obtain ⟨f, rfl⟩ : ∃ k, f = k + 1 := ⟨f - 1, by have := Hf.out (he.trans e0); have := HG.out.rs.lt; omega⟩
       have hLp := HLp.out
       rw [rLoop, if_pos (he.trans e0)] at hLp
       have q1 : (e == 0) = true := by rw [e0]; rfl
       have HE0 := Lib.hid (he.trans e0)
       have HTK := Lib.hid (fun (W : World) (H : RS W bs b A c l y.x) => (by
        have z := rtake_any H HL.out 4 (by decide) (by decide) [125]
        unfold RdOut at z
        exact z : Calls Tryz.prog 46 #[.pointer (some ⟨b, 0, none⟩), .int .i64 4, .string ⟨#[125]⟩] W (fun en w' => en = .returned (.bool (rTake 4 [125] l y.x).1) ∧ RS w' bs b A c l (rTake 4 [125] l y.x).2 ∧ Turn (fun g => g = b) W w')))
       clear he HLp
       cases hd : (rTake 4 [125] l y.x).1 with
       | true =>
        rw [hd, if_pos rfl] at hLp
        rw [hd] at HTK
        have HEE := Lib.hid (show (rTake 4 [125] l y.x).2.e = 0 → y.x.e = 0 ∧ y.x.at_ ≤ (rTake 4 [125] l y.x).2.at_ from fun z => ⟨by rwa [rTake_e] at z, rTake_le _ _ _ _⟩)
        obtain ⟨x9, hx9⟩ : ∃ z, (rTake 4 [125] l y.x).2 = z := ⟨_, rfl⟩
        rw [hx9] at HTK hLp HEE
        subst hLp
        clear hd hx9
        go_upto_region 46 with (first
          | (go_at_call 46; ((with_reducible refine (HTK.out _ HG.out.rs).mono ?_); rintro en wb ⟨rfl, hb_, htb⟩; (have HGB := Lib.hid (HG.out.call hb_ htb HEE.out)); (have HZB := Lib.hid (htb.far HZ.out (by omega))); clear hb_ htb))
          | (fail "arm"))
        clear c2 q1
        obtain ⟨sn, k0⟩ : ∃ x, str y.T.name = x := ⟨_, rfl⟩
        obtain ⟨kd, k1⟩ : ∃ x, y.T.kind = x := ⟨_, rfl⟩
        obtain ⟨ln, k2⟩ : ∃ x, y.T.line = x := ⟨_, rfl⟩
        obtain ⟨co, k7⟩ : ∃ x, y.T.cost = x := ⟨_, rfl⟩
        obtain ⟨rt, k8⟩ : ∃ x, y.T.retry = x := ⟨_, rfl⟩
        obtain ⟨rl, k9⟩ : ∃ x, y.T.rl = x := ⟨_, rfl⟩
        have HV := Lib.hid (And.intro k0 (And.intro k1 (And.intro k2 (And.intro k7 (And.intro k8 k9)))))
        have b1' : wb.cell? ⟨p, 1, none⟩ = some (.int .i64 kd) := by rw [← HV.out.2.1]; exact HGB.out.tg.cell 1
        have b8' : wb.cell? ⟨p, 8, none⟩ = some (.int .i64 rt) := by rw [← HV.out.2.2.2.2.1]; exact HGB.out.tg.cell 8
        by_cases hck : 0 < rt ∧ kd ≠ 3
        · have HCK := Lib.hid (show rCheck (⟨x9, y.T, y.sn⟩ : RTg) = rFail 41 (rl : Int) x9 from by unfold rCheck; (try dsimp only); rw [if_pos (by rw [k8, k1]; exact hck), k9])
          have p1 : decide (rt > 0) = true := decide_eq_true hck.1
          have p2 : (kd != 3) = true := by simpa using hck.2
          have HFL := Lib.hid (fun (W : World) (H : RS W bs b A c l x9) => (by
           have z := rfail_any H 41 (rl : Int)
           unfold RdOut at z
           exact z : Calls Tryz.prog 80 #[.pointer (some ⟨b, 0, none⟩), .int .i64 41, .int .i64 (rl : Int)] W (fun en w' => en = .returned (.tuple #[]) ∧ RS w' bs b A c l (rFail 41 (rl : Int) x9) ∧ Turn (fun g => g = b) W w')))
          have HFN := Lib.hid (show (rFail 41 (rl : Int) x9).e ≠ 0 from rFail_e (by decide))
          rw [k9]
          clear k0 k1 k2 k7 k8 k9 hck
          go_upto_region 48 with (first
            | (go_at_call 80; ((with_reducible refine (HFL.out _ HGB.out.rs).mono ?_); rintro en w12 ⟨rfl, h12, ht12⟩; (have HGF := Lib.hid (HGB.out.call h12 ht12 (fun z => absurd z HFN.out))); (have HZF := Lib.hid (ht12.far HZB.out (by omega))); clear h12 ht12))
            | (fail "arm"))
          clear b1' b8'
          obtain ⟨A0, j0, g0⟩ := own_form (HGF.out.rows.own 0 (by decide))
          obtain ⟨A1, j1, g1⟩ := own_form (HGF.out.rows.own 1 (by decide))
          obtain ⟨A2', j2, g2⟩ := own_form (HGF.out.rows.own 2 (by decide))
          obtain ⟨A3, j3, g3⟩ := own_form (HGF.out.rows.own 3 (by decide))
          try dsimp only at g0 g1 g2 g3
          have b0 : w12.cell? ⟨p, 0, none⟩ = some (.string sn) := by rw [← HV.out.1]; exact HGF.out.tg.cell 0
          have b1 : w12.cell? ⟨p, 1, none⟩ = some (.int .i64 kd) := by rw [← HV.out.2.1]; exact HGF.out.tg.cell 1
          have b2 : w12.cell? ⟨p, 2, none⟩ = some (.int .i64 (ln : Int)) := by rw [← HV.out.2.2.1]; exact HGF.out.tg.cell 2
          have b3 : w12.cell? ⟨p, 3, none⟩ = some (.slice A0 (y.T.rows 0).length j0) := by rw [← g0]; exact HGF.out.tg.cell 3
          have b4 : w12.cell? ⟨p, 4, none⟩ = some (.slice A1 (y.T.rows 1).length j1) := by rw [← g1]; exact HGF.out.tg.cell 4
          have b5 : w12.cell? ⟨p, 5, none⟩ = some (.slice A2' (y.T.rows 2).length j2) := by rw [← g2]; exact HGF.out.tg.cell 5
          have b6 : w12.cell? ⟨p, 6, none⟩ = some (.slice A3 (y.T.rows 3).length j3) := by rw [← g3]; exact HGF.out.tg.cell 6
          have b7 : w12.cell? ⟨p, 7, none⟩ = some (.int .i64 co) := by rw [← HV.out.2.2.2.1]; exact HGF.out.tg.cell 7
          have b8 : w12.cell? ⟨p, 8, none⟩ = some (.int .i64 rt) := by rw [← HV.out.2.2.2.2.1]; exact HGF.out.tg.cell 8
          obtain ⟨⟨c0, cf0⟩, ⟨c1, cf1⟩, ⟨c2, cf2⟩, ⟨c3, cf3⟩, ⟨c4, cf4⟩, ⟨c5, cf5⟩, ⟨c6, cf6⟩, ⟨c7, cf7⟩, ⟨c8, cf8⟩, FE⟩ := store9 (show Full w12 r 50 [.string ⟨#[]⟩, .int .i64 0, .int .i64 0, .slice none 0 0, .slice none 0 0, .slice none 0 0, .slice none 0 0, .int .i64 0, .int .i64 0] from HZF.out) (.string sn) (.int .i64 kd) (.int .i64 (ln : Int)) (.slice A0 (y.T.rows 0).length j0) (.slice A1 (y.T.rows 1).length j1) (.slice A2' (y.T.rows 2).length j2) (.slice A3 (y.T.rows 3).length j3) (.int .i64 co) (.int .i64 rt)
          have HFE := Lib.hid FE
          have HFIN := Lib.hid (HGF.out.fin HZF.out (by have := HRR.out; omega) (Turn.set9r w12 r (.string sn) (.int .i64 kd) (.int .i64 (ln : Int)) (.slice A0 (y.T.rows 0).length j0) (.slice A1 (y.T.rows 1).length j1) (.slice A2' (y.T.rows 2).length j2) (.slice A3 (y.T.rows 3).length j3) (.int .i64 co) (.int .i64 rt)))
          have HGG := Lib.hid (And.intro g0 (And.intro g1 (And.intro g2 g3)))
          clear FE g0 g1 g2 g3
          go_wp2
          obtain ⟨wz, hwz⟩ : ∃ wz, (((((((((w12.setCell ⟨r, 0, none⟩ (.string sn)).setCell ⟨r, 1, none⟩ (.int .i64 kd)).setCell ⟨r, 2, none⟩ (.int .i64 (ln : Int))).setCell ⟨r, 3, none⟩ (.slice A0 (y.T.rows 0).length j0)).setCell ⟨r, 4, none⟩ (.slice A1 (y.T.rows 1).length j1)).setCell ⟨r, 5, none⟩ (.slice A2' (y.T.rows 2).length j2)).setCell ⟨r, 6, none⟩ (.slice A3 (y.T.rows 3).length j3)).setCell ⟨r, 7, none⟩ (.int .i64 co)).setCell ⟨r, 8, none⟩ (.int .i64 rt)) = wz := ⟨_, rfl⟩
          have hend := HFIN.out
          have FE := HFE.out
          rw [hwz] at hend FE ⊢
          have q0 := FE.cell 0
          have q1 := FE.cell 1
          have q2 := FE.cell 2
          have q3 := FE.cell 3
          have q4 := FE.cell 4
          have q5 := FE.cell 5
          have q6 := FE.cell 6
          have q7 := FE.cell 7
          have q8 := FE.cell 8
          dsimp only [List.getElem?_cons_zero, List.getElem?_cons_succ] at q0 q1 q2 q3 q4 q5 q6 q7 q8
          refine bodyPost_ret (v := .agg #[.string sn, .int .i64 kd, .int .i64 (ln : Int), .slice A0 (y.T.rows 0).length j0, .slice A1 (y.T.rows 1).length j1, .slice A2' (y.T.rows 2).length j2, .slice A3 (y.T.rows 3).length j3, .int .i64 co, .int .i64 rt]) (by simp [results, Tryz.results49, go_sem, q0, q1, q2, q3, q4, q5, q6, q7, q8]) rfl ?_
          refine ⟨vs, ?_, ?_, hend.2.1, hend.2.2⟩
          · unfold tgtV
            try dsimp only
            rw [HV.out.1, HV.out.2.1, HV.out.2.2.1, HV.out.2.2.2.1, HV.out.2.2.2.2.1, HGG.out.1, HGG.out.2.1, HGG.out.2.2.1, HGG.out.2.2.2]
          · rw [HCK.out]; exact hend.1
        · have HCK := Lib.hid (show rCheck (⟨x9, y.T, y.sn⟩ : RTg) = x9 from by unfold rCheck; (try dsimp only); rw [if_neg (by rw [k8, k1]; exact hck)])
          have hcase : (0 < rt ∧ kd = 3) ∨ ¬ 0 < rt := by
           by_cases z : 0 < rt
           · exact .inl ⟨z, Decidable.byContradiction fun e => hck ⟨z, e⟩⟩
           · exact .inr z
          clear k0 k1 k2 k7 k8 k9 hck
          rcases hcase with ⟨z1, z2⟩ | z1
          · have p1 : decide (rt > 0) = true := decide_eq_true z1
            have p2 : (kd != 3) = false := by rw [z2]; rfl
            clear z1 z2
            go_upto_region 48 with fail
            clear b1' b8'
            obtain ⟨A0, j0, g0⟩ := own_form (HGB.out.rows.own 0 (by decide))
            obtain ⟨A1, j1, g1⟩ := own_form (HGB.out.rows.own 1 (by decide))
            obtain ⟨A2', j2, g2⟩ := own_form (HGB.out.rows.own 2 (by decide))
            obtain ⟨A3, j3, g3⟩ := own_form (HGB.out.rows.own 3 (by decide))
            try dsimp only at g0 g1 g2 g3
            have b0 : wb.cell? ⟨p, 0, none⟩ = some (.string sn) := by rw [← HV.out.1]; exact HGB.out.tg.cell 0
            have b1 : wb.cell? ⟨p, 1, none⟩ = some (.int .i64 kd) := by rw [← HV.out.2.1]; exact HGB.out.tg.cell 1
            have b2 : wb.cell? ⟨p, 2, none⟩ = some (.int .i64 (ln : Int)) := by rw [← HV.out.2.2.1]; exact HGB.out.tg.cell 2
            have b3 : wb.cell? ⟨p, 3, none⟩ = some (.slice A0 (y.T.rows 0).length j0) := by rw [← g0]; exact HGB.out.tg.cell 3
            have b4 : wb.cell? ⟨p, 4, none⟩ = some (.slice A1 (y.T.rows 1).length j1) := by rw [← g1]; exact HGB.out.tg.cell 4
            have b5 : wb.cell? ⟨p, 5, none⟩ = some (.slice A2' (y.T.rows 2).length j2) := by rw [← g2]; exact HGB.out.tg.cell 5
            have b6 : wb.cell? ⟨p, 6, none⟩ = some (.slice A3 (y.T.rows 3).length j3) := by rw [← g3]; exact HGB.out.tg.cell 6
            have b7 : wb.cell? ⟨p, 7, none⟩ = some (.int .i64 co) := by rw [← HV.out.2.2.2.1]; exact HGB.out.tg.cell 7
            have b8 : wb.cell? ⟨p, 8, none⟩ = some (.int .i64 rt) := by rw [← HV.out.2.2.2.2.1]; exact HGB.out.tg.cell 8
            obtain ⟨⟨c0, cf0⟩, ⟨c1, cf1⟩, ⟨c2, cf2⟩, ⟨c3, cf3⟩, ⟨c4, cf4⟩, ⟨c5, cf5⟩, ⟨c6, cf6⟩, ⟨c7, cf7⟩, ⟨c8, cf8⟩, FE⟩ := store9 (show Full wb r 50 [.string ⟨#[]⟩, .int .i64 0, .int .i64 0, .slice none 0 0, .slice none 0 0, .slice none 0 0, .slice none 0 0, .int .i64 0, .int .i64 0] from HZB.out) (.string sn) (.int .i64 kd) (.int .i64 (ln : Int)) (.slice A0 (y.T.rows 0).length j0) (.slice A1 (y.T.rows 1).length j1) (.slice A2' (y.T.rows 2).length j2) (.slice A3 (y.T.rows 3).length j3) (.int .i64 co) (.int .i64 rt)
            have HFE := Lib.hid FE
            have HFIN := Lib.hid (HGB.out.fin HZB.out (by have := HRR.out; omega) (Turn.set9r wb r (.string sn) (.int .i64 kd) (.int .i64 (ln : Int)) (.slice A0 (y.T.rows 0).length j0) (.slice A1 (y.T.rows 1).length j1) (.slice A2' (y.T.rows 2).length j2) (.slice A3 (y.T.rows 3).length j3) (.int .i64 co) (.int .i64 rt)))
            have HGG := Lib.hid (And.intro g0 (And.intro g1 (And.intro g2 g3)))
            clear FE g0 g1 g2 g3
            go_wp2
            obtain ⟨wz, hwz⟩ : ∃ wz, (((((((((wb.setCell ⟨r, 0, none⟩ (.string sn)).setCell ⟨r, 1, none⟩ (.int .i64 kd)).setCell ⟨r, 2, none⟩ (.int .i64 (ln : Int))).setCell ⟨r, 3, none⟩ (.slice A0 (y.T.rows 0).length j0)).setCell ⟨r, 4, none⟩ (.slice A1 (y.T.rows 1).length j1)).setCell ⟨r, 5, none⟩ (.slice A2' (y.T.rows 2).length j2)).setCell ⟨r, 6, none⟩ (.slice A3 (y.T.rows 3).length j3)).setCell ⟨r, 7, none⟩ (.int .i64 co)).setCell ⟨r, 8, none⟩ (.int .i64 rt)) = wz := ⟨_, rfl⟩
            have hend := HFIN.out
            have FE := HFE.out
            rw [hwz] at hend FE ⊢
            have q0 := FE.cell 0
            have q1 := FE.cell 1
            have q2 := FE.cell 2
            have q3 := FE.cell 3
            have q4 := FE.cell 4
            have q5 := FE.cell 5
            have q6 := FE.cell 6
            have q7 := FE.cell 7
            have q8 := FE.cell 8
            dsimp only [List.getElem?_cons_zero, List.getElem?_cons_succ] at q0 q1 q2 q3 q4 q5 q6 q7 q8
            refine bodyPost_ret (v := .agg #[.string sn, .int .i64 kd, .int .i64 (ln : Int), .slice A0 (y.T.rows 0).length j0, .slice A1 (y.T.rows 1).length j1, .slice A2' (y.T.rows 2).length j2, .slice A3 (y.T.rows 3).length j3, .int .i64 co, .int .i64 rt]) (by simp [results, Tryz.results49, go_sem, q0, q1, q2, q3, q4, q5, q6, q7, q8]) rfl ?_
            refine ⟨vs, ?_, ?_, hend.2.1, hend.2.2⟩
            · unfold tgtV
              try dsimp only
              rw [HV.out.1, HV.out.2.1, HV.out.2.2.1, HV.out.2.2.2.1, HV.out.2.2.2.2.1, HGG.out.1, HGG.out.2.1, HGG.out.2.2.1, HGG.out.2.2.2]
            · rw [HCK.out]; exact hend.1
          · have p1 : decide (rt > 0) = false := decide_eq_false z1
            clear z1
            go_upto_region 48 with fail
            clear b1' b8'
            obtain ⟨A0, j0, g0⟩ := own_form (HGB.out.rows.own 0 (by decide))
            obtain ⟨A1, j1, g1⟩ := own_form (HGB.out.rows.own 1 (by decide))
            obtain ⟨A2', j2, g2⟩ := own_form (HGB.out.rows.own 2 (by decide))
            obtain ⟨A3, j3, g3⟩ := own_form (HGB.out.rows.own 3 (by decide))
            try dsimp only at g0 g1 g2 g3
            have b0 : wb.cell? ⟨p, 0, none⟩ = some (.string sn) := by rw [← HV.out.1]; exact HGB.out.tg.cell 0
            have b1 : wb.cell? ⟨p, 1, none⟩ = some (.int .i64 kd) := by rw [← HV.out.2.1]; exact HGB.out.tg.cell 1
            have b2 : wb.cell? ⟨p, 2, none⟩ = some (.int .i64 (ln : Int)) := by rw [← HV.out.2.2.1]; exact HGB.out.tg.cell 2
            have b3 : wb.cell? ⟨p, 3, none⟩ = some (.slice A0 (y.T.rows 0).length j0) := by rw [← g0]; exact HGB.out.tg.cell 3
            have b4 : wb.cell? ⟨p, 4, none⟩ = some (.slice A1 (y.T.rows 1).length j1) := by rw [← g1]; exact HGB.out.tg.cell 4
            have b5 : wb.cell? ⟨p, 5, none⟩ = some (.slice A2' (y.T.rows 2).length j2) := by rw [← g2]; exact HGB.out.tg.cell 5
            have b6 : wb.cell? ⟨p, 6, none⟩ = some (.slice A3 (y.T.rows 3).length j3) := by rw [← g3]; exact HGB.out.tg.cell 6
            have b7 : wb.cell? ⟨p, 7, none⟩ = some (.int .i64 co) := by rw [← HV.out.2.2.2.1]; exact HGB.out.tg.cell 7
            have b8 : wb.cell? ⟨p, 8, none⟩ = some (.int .i64 rt) := by rw [← HV.out.2.2.2.2.1]; exact HGB.out.tg.cell 8
            obtain ⟨⟨c0, cf0⟩, ⟨c1, cf1⟩, ⟨c2, cf2⟩, ⟨c3, cf3⟩, ⟨c4, cf4⟩, ⟨c5, cf5⟩, ⟨c6, cf6⟩, ⟨c7, cf7⟩, ⟨c8, cf8⟩, FE⟩ := store9 (show Full wb r 50 [.string ⟨#[]⟩, .int .i64 0, .int .i64 0, .slice none 0 0, .slice none 0 0, .slice none 0 0, .slice none 0 0, .int .i64 0, .int .i64 0] from HZB.out) (.string sn) (.int .i64 kd) (.int .i64 (ln : Int)) (.slice A0 (y.T.rows 0).length j0) (.slice A1 (y.T.rows 1).length j1) (.slice A2' (y.T.rows 2).length j2) (.slice A3 (y.T.rows 3).length j3) (.int .i64 co) (.int .i64 rt)
            have HFE := Lib.hid FE
            have HFIN := Lib.hid (HGB.out.fin HZB.out (by have := HRR.out; omega) (Turn.set9r wb r (.string sn) (.int .i64 kd) (.int .i64 (ln : Int)) (.slice A0 (y.T.rows 0).length j0) (.slice A1 (y.T.rows 1).length j1) (.slice A2' (y.T.rows 2).length j2) (.slice A3 (y.T.rows 3).length j3) (.int .i64 co) (.int .i64 rt)))
            have HGG := Lib.hid (And.intro g0 (And.intro g1 (And.intro g2 g3)))
            clear FE g0 g1 g2 g3
            go_wp2
            obtain ⟨wz, hwz⟩ : ∃ wz, (((((((((wb.setCell ⟨r, 0, none⟩ (.string sn)).setCell ⟨r, 1, none⟩ (.int .i64 kd)).setCell ⟨r, 2, none⟩ (.int .i64 (ln : Int))).setCell ⟨r, 3, none⟩ (.slice A0 (y.T.rows 0).length j0)).setCell ⟨r, 4, none⟩ (.slice A1 (y.T.rows 1).length j1)).setCell ⟨r, 5, none⟩ (.slice A2' (y.T.rows 2).length j2)).setCell ⟨r, 6, none⟩ (.slice A3 (y.T.rows 3).length j3)).setCell ⟨r, 7, none⟩ (.int .i64 co)).setCell ⟨r, 8, none⟩ (.int .i64 rt)) = wz := ⟨_, rfl⟩
            have hend := HFIN.out
            have FE := HFE.out
            rw [hwz] at hend FE ⊢
            have q0 := FE.cell 0
            have q1 := FE.cell 1
            have q2 := FE.cell 2
            have q3 := FE.cell 3
            have q4 := FE.cell 4
            have q5 := FE.cell 5
            have q6 := FE.cell 6
            have q7 := FE.cell 7
            have q8 := FE.cell 8
            dsimp only [List.getElem?_cons_zero, List.getElem?_cons_succ] at q0 q1 q2 q3 q4 q5 q6 q7 q8
            refine bodyPost_ret (v := .agg #[.string sn, .int .i64 kd, .int .i64 (ln : Int), .slice A0 (y.T.rows 0).length j0, .slice A1 (y.T.rows 1).length j1, .slice A2' (y.T.rows 2).length j2, .slice A3 (y.T.rows 3).length j3, .int .i64 co, .int .i64 rt]) (by simp [results, Tryz.results49, go_sem, q0, q1, q2, q3, q4, q5, q6, q7, q8]) rfl ?_
            refine ⟨vs, ?_, ?_, hend.2.1, hend.2.2⟩
            · unfold tgtV
              try dsimp only
              rw [HV.out.1, HV.out.2.1, HV.out.2.2.1, HV.out.2.2.2.1, HV.out.2.2.2.2.1, HGG.out.1, HGG.out.2.1, HGG.out.2.2.1, HGG.out.2.2.2]
            · rw [HCK.out]; exact hend.1
       | false =>
        rw [hd, if_neg Bool.false_ne_true, rTake_false hd] at hLp
        rw [hd, rTake_false hd] at HTK
        have HL2 := Lib.hid (show rLoop l f (rRound l y) = yE from hLp)
        have HRD := Lib.hid (fun (z : (rRound l y).x.e = 0) => rRound_e0 z)
        obtain ⟨y3, hy3⟩ : ∃ z, rRound l y = z := ⟨_, rfl⟩
        rw [hy3] at HL2 HRD
        have HY3 := Lib.hid hy3
        have HAN := Lib.hid (fun (W : World) (H : RS W bs b A c l y.x) => (by
         have z := rany_any H HL.out 1 (by decide) (by decide)
         unfold RdOut rtV at z
         exact z : Calls Tryz.prog 81 #[.pointer (some ⟨b, 0, none⟩), .int .i64 1] W (fun en w' => en = .returned (.agg #[.int .i64 (rAny 1 l y.x).1.kd, .string (str (rAny 1 l y.x).1.tx), .int .i64 ((rAny 1 l y.x).1.ln : Int)]) ∧ RS w' bs b A c l (rAny 1 l y.x).2 ∧ Turn (fun g => g = b) W w')))
        have HAE := Lib.hid (fun (z : (rAny 1 l y.x).2.e = 0) => rAny_e0 z)
        have HATX := Lib.hid (fun (z : (rAny 1 l y.x).1.tx ≠ []) => rAny_tx z)
        obtain ⟨⟨tb, x1⟩, hx1⟩ : ∃ z, rAny 1 l y.x = z := ⟨_, rfl⟩
        have HX1 := Lib.hid hx1
        rw [hx1] at HAN HAE HATX
        dsimp only at HAN HAE HATX
        obtain ⟨ya, hya⟩ : ∃ z, tb.kd = z := ⟨_, rfl⟩
        obtain ⟨Z, hZ⟩ : ∃ z, str tb.tx = z := ⟨_, rfl⟩
        obtain ⟨yl, hyl⟩ : ∃ z : Nat, tb.ln = z := ⟨_, rfl⟩
        rw [hya, hZ, hyl] at HAN
        have HYL := Lib.hid hyl
        have HFA := Lib.hid (fun (W : World) (X : RSt) (cd : Int) (H : RS W bs b A c l X) => (by
         have z := rfail_any H cd (yl : Int)
         unfold RdOut at z
         exact z : Calls Tryz.prog 80 #[.pointer (some ⟨b, 0, none⟩), .int .i64 cd, .int .i64 (yl : Int)] W (fun en w' => en = .returned (.tuple #[]) ∧ RS w' bs b A c l (rFail cd (yl : Int) X) ∧ Turn (fun g => g = b) W w')))
        have HEQ := Lib.hid (show Z.toList = tb.tx from by rw [← hZ, Lib.toList_data, str_data])
        have HMS := Lib.hid (fun (W : World) (H : RS W bs b A c l y3.x) => meas_lt HG.out.rs H HE0.out (fun z => (HRD.out z).2))
        have HFF := Lib.hid (show y3.x.e = 0 → l.length < f + y3.x.at_ from fun z => by
         have := (HRD.out z).2
         have := Hf.out HE0.out
         omega)
        clear hd hLp hy3 hx1 hya hZ hyl Hf
        go_upto_region 15 with (first
          | (go_at_call 46; ((with_reducible refine (HTK.out _ HG.out.rs).mono ?_); rintro en wb ⟨rfl, hb_, htb⟩; (have HGB := Lib.hid (HG.out.call hb_ htb (fun z => ⟨z, Nat.le_refl _⟩))); (have HZB := Lib.hid (htb.far HZ.out (by omega))); clear hb_ htb))
          | (go_at_call 81; ((with_reducible refine (HAN.out _ HGB.out.rs).mono ?_); rintro en wc ⟨rfl, hc_, htc⟩; (have HGC := Lib.hid (HGB.out.call hc_ htc (fun z => ⟨(HAE.out z).1, by have := (HAE.out z).2; (try dsimp only); omega⟩))); (have HZC := Lib.hid (htc.far HZB.out (by omega))); clear hc_ htc))
          | (fail "arm"))
        obtain ⟨w4, hw4⟩ : ∃ w4, wc.alloc (.cells #[.int .i64 ya, .string Z, .int .i64 (yl : Int)] 70) = w4 := ⟨_, rfl⟩
        have hb4 : Below wc.heap.size wc w4 := by rw [← hw4]; exact (Below.refl _ wc).alloc (Nat.le_refl _) _
        have F4 : Full w4 wc.heap.size 70 [.int .i64 ya, .string Z, .int .i64 (yl : Int)] := by rw [← hw4]; exact Full.new wc 70 _
        obtain ⟨v, hv⟩ : ∃ u, wc.heap.size = u := ⟨_, rfl⟩
        rw [hv] at F4
        have hvb : v ≠ b := by have := HGC.out.rs.fu.lt; omega
        have hvp : v ≠ p := by have := HGC.out.tg.lt; omega
        have hvq : v ≠ q := by have := HGC.out.sn.lt; omega
        have HG4 := Lib.hid (show RG w bs b p q A c l w4 ⟨x1, y.T, y.sn⟩ vs from HGC.out.on hb4)
        have HZ4 := Lib.hid (HZC.out.on hb4)
        have HF4 := Lib.hid F4
        have v1 : w4.cell? ⟨v, 1, none⟩ = some (.string Z) := F4.cell 1
        have v2 : w4.cell? ⟨v, 2, none⟩ = some (.int .i64 (yl : Int)) := F4.cell 2
        rw [hw4, hv]
        clear hw4 hv hb4 F4 HGC HZC HGB HZB HG HZ c2 HTK HAN
        by_cases n0 : tb.tx = wKind
        · have hw := n0
          clear n0
          have d0 : (Z.toList == [107, 105, 110, 100]) = true := by rw [HEQ.out, hw]; rfl
          have d1 : (Z.toList == [99, 111, 115, 116]) = false := by rw [HEQ.out, hw]; rfl
          have d2 : (Z.toList == [114, 101, 116, 114, 121]) = false := by rw [HEQ.out, hw]; rfl
          have d3 : (Z.toList == [115, 114, 99, 115]) = false := by rw [HEQ.out, hw]; rfl
          have d4 : (Z.toList == [100, 101, 112, 115]) = false := by rw [HEQ.out, hw]; rfl
          have d5 : (Z.toList == [111, 117, 116]) = false := by rw [HEQ.out, hw]; rfl
          have d6 : (Z.toList == [118, 105, 115, 105, 98, 108, 101]) = false := by rw [HEQ.out, hw]; rfl
          obtain ⟨sv, hs⟩ : ∃ z, y.sn 0 = z := ⟨_, rfl⟩
          cases sv with
          | false =>
           have e3 : y3 = ⟨(rKinds 4 l x1).2, { y.T with kind := (rKinds 4 l x1).1 }, upd y.sn 0 true⟩ := by
            rw [← HY3.out]
            unfold rRound
            rw [HX1.out]
            try dsimp only
            unfold rSeen wOnce rSet
            rw [hw]
            rw [if_pos rfl, if_pos rfl]
            try dsimp only
            rw [hs, if_neg Bool.false_ne_true]
           have HL3 := HL2
           have HF3 := HFF
           have HM3 := HMS
           rw [e3] at HL3 HF3 HM3
           clear e3
           have sq : w4.cell? ⟨q, 0, none⟩ = some (.bool false) := by rw [← hs]; exact HG4.out.sn.cell 0
           have sf : w4.frozen? ⟨q, 0, none⟩ = false := HG4.out.sn.frozen 0
           have HK := Lib.hid (fun (W : World) (H : RS W bs b A c l x1) => (by
            have z := rkind_any H HL.out
            unfold RdOut at z
            exact z : Calls Tryz.prog 82 #[.pointer (some ⟨b, 0, none⟩)] W (fun en w' => en = .returned (.int .i64 (rKinds 4 l x1).1) ∧ RS w' bs b A c l (rKinds 4 l x1).2 ∧ Turn (fun g => g = b) W w')))
           have HKE := Lib.hid (fun (z : (rKinds 4 l x1).2.e = 0) => rKinds_e0 4 z)
           obtain ⟨kr, hkr⟩ : ∃ z, (rKinds 4 l x1) = z := ⟨_, rfl⟩
           rw [hkr] at HK HKE HL3 HF3 HM3
           clear hkr
           obtain ⟨kn, kx⟩ := kr
           try dsimp only at HK HKE HL3 HF3 HM3
           have HG6 := Lib.hid (HG4.out.see 0 (by decide))
           have HZ6 := Lib.hid (HZ4.out.far (p := ⟨q, 0, none⟩) (by show r ≠ q; omega) (.bool true))
           have v16 : (w4.setCell ⟨q, 0, none⟩ (.bool true)).cell? ⟨v, 1, none⟩ = some (.string Z) := (HF4.out.far (p := ⟨q, 0, none⟩) hvq (.bool true)).cell 1
           clear hw
           go_wp2_with (first
             | (go_at_call 82; ((with_reducible refine (HK.out _ HG6.out.rs).mono ?_); rintro en w7 ⟨rfl, h7, ht7⟩; (have HG7 := Lib.hid (HG6.out.call h7 ht7 HKE.out)); (have HZ7 := Lib.hid (ht7.far HZ6.out (by omega))); (have pc : w7.cell? ⟨p, 1, none⟩ = some (.int .i64 y.T.kind) := HG7.out.tg.cell 1); (have pf : w7.frozen? ⟨p, 1, none⟩ = false := HG7.out.tg.frozen 1); (have HG8 := Lib.hid (HG7.out.put 1 (.int .i64 kn) (T' := { y.T with kind := kn }) rfl rfl)); (have HZ8 := Lib.hid (HZ7.out.far (p := ⟨p, 1, none⟩) (by show r ≠ p; omega) (.int .i64 kn))); clear h7 ht7))
             | (fail "arm"))
           go_roundw
           case rel =>
            refine ⟨f, _, vs, ?_, HG8, HL3, HF3, HZ8⟩
            rfl
           case measure => exact HM3.out _ HG8.out.rs
          | true =>
           have e3 : y3 = ⟨(rKinds 4 l (rFail 42 (yl : Int) x1)).2, { y.T with kind := (rKinds 4 l (rFail 42 (yl : Int) x1)).1 }, upd y.sn 0 true⟩ := by
            rw [← HY3.out]
            unfold rRound
            rw [HX1.out]
            try dsimp only
            unfold rSeen wOnce rSet
            rw [hw]
            rw [if_pos rfl, if_pos rfl]
            try dsimp only
            rw [hs, if_pos rfl, HYL.out]
           have HL3 := HL2
           have HF3 := HFF
           have HM3 := HMS
           rw [e3] at HL3 HF3 HM3
           clear e3
           have sq : w4.cell? ⟨q, 0, none⟩ = some (.bool true) := by rw [← hs]; exact HG4.out.sn.cell 0
           have sf : w4.frozen? ⟨q, 0, none⟩ = false := HG4.out.sn.frozen 0
           have HK := Lib.hid (fun (W : World) (H : RS W bs b A c l (rFail 42 (yl : Int) x1)) => (by
            have z := rkind_any H HL.out
            unfold RdOut at z
            exact z : Calls Tryz.prog 82 #[.pointer (some ⟨b, 0, none⟩)] W (fun en w' => en = .returned (.int .i64 (rKinds 4 l (rFail 42 (yl : Int) x1)).1) ∧ RS w' bs b A c l (rKinds 4 l (rFail 42 (yl : Int) x1)).2 ∧ Turn (fun g => g = b) W w')))
           have HKE := Lib.hid (fun (z : (rKinds 4 l (rFail 42 (yl : Int) x1)).2.e = 0) => rKinds_e0 4 z)
           obtain ⟨kr, hkr⟩ : ∃ z, (rKinds 4 l (rFail 42 (yl : Int) x1)) = z := ⟨_, rfl⟩
           rw [hkr] at HK HKE HL3 HF3 HM3
           clear hkr
           obtain ⟨kn, kx⟩ := kr
           try dsimp only at HK HKE HL3 HF3 HM3
           obtain ⟨x6, hx6⟩ : ∃ z, rFail 42 (yl : Int) x1 = z := ⟨_, rfl⟩
           have HX6 := Lib.hid (show x6.e ≠ 0 from by rw [← hx6]; exact rFail_e (by decide))
           have HFL := Lib.hid (fun (W : World) (H : RS W bs b A c l x1) => HFA.out W x1 42 H)
           rw [hx6] at HFL HK HKE
           clear hx6
           clear hw
           go_wp2_with (first
             | (go_at_call 80; ((with_reducible refine (HFL.out _ HG4.out.rs).mono ?_); rintro en w5 ⟨rfl, h5, ht5⟩; (have HG5 := Lib.hid (HG4.out.call h5 ht5 (fun z => absurd z HX6.out))); (have HZ5 := Lib.hid (ht5.far HZ4.out (by omega))); (have HG6 := Lib.hid (HG5.out.see 0 (by decide))); (have HZ6 := Lib.hid (HZ5.out.far (p := ⟨q, 0, none⟩) (by show r ≠ q; omega) (.bool true))); (have F5 := ht5.far HF4.out hvb); (have sq5 : w5.cell? ⟨q, 0, none⟩ = some (.bool true) := by rw [← hs]; exact HG5.out.sn.cell 0); (have sf5 : w5.frozen? ⟨q, 0, none⟩ = false := HG5.out.sn.frozen 0); (have v15 : (w5.setCell ⟨q, 0, none⟩ (.bool true)).cell? ⟨v, 1, none⟩ = some (.string Z) := (F5.far (p := ⟨q, 0, none⟩) hvq (.bool true)).cell 1); clear h5 ht5 F5))
             | (go_at_call 82; ((with_reducible refine (HK.out _ HG6.out.rs).mono ?_); rintro en w7 ⟨rfl, h7, ht7⟩; (have HG7 := Lib.hid (HG6.out.call h7 ht7 HKE.out)); (have HZ7 := Lib.hid (ht7.far HZ6.out (by omega))); (have pc : w7.cell? ⟨p, 1, none⟩ = some (.int .i64 y.T.kind) := HG7.out.tg.cell 1); (have pf : w7.frozen? ⟨p, 1, none⟩ = false := HG7.out.tg.frozen 1); (have HG8 := Lib.hid (HG7.out.put 1 (.int .i64 kn) (T' := { y.T with kind := kn }) rfl rfl)); (have HZ8 := Lib.hid (HZ7.out.far (p := ⟨p, 1, none⟩) (by show r ≠ p; omega) (.int .i64 kn))); clear h7 ht7))
             | (fail "arm"))
           go_roundw
           case rel =>
            refine ⟨f, _, vs, ?_, HG8, HL3, HF3, HZ8⟩
            rfl
           case measure => exact HM3.out _ HG8.out.rs
        · skip
          by_cases n1 : tb.tx = wCost
          · have hw := n1
            clear n0 n1
            have d0 : (Z.toList == [107, 105, 110, 100]) = false := by rw [HEQ.out, hw]; rfl
            have d1 : (Z.toList == [99, 111, 115, 116]) = true := by rw [HEQ.out, hw]; rfl
            have d2 : (Z.toList == [114, 101, 116, 114, 121]) = false := by rw [HEQ.out, hw]; rfl
            have d3 : (Z.toList == [115, 114, 99, 115]) = false := by rw [HEQ.out, hw]; rfl
            have d4 : (Z.toList == [100, 101, 112, 115]) = false := by rw [HEQ.out, hw]; rfl
            have d5 : (Z.toList == [111, 117, 116]) = false := by rw [HEQ.out, hw]; rfl
            have d6 : (Z.toList == [118, 105, 115, 105, 98, 108, 101]) = false := by rw [HEQ.out, hw]; rfl
            obtain ⟨sv, hs⟩ : ∃ z, y.sn 1 = z := ⟨_, rfl⟩
            cases sv with
            | false =>
             have e3 : y3 = ⟨(rNumber 1 1000 l x1).2, { y.T with cost := (rNumber 1 1000 l x1).1.1 }, upd y.sn 1 true⟩ := by
              rw [← HY3.out]
              unfold rRound
              rw [HX1.out]
              try dsimp only
              unfold rSeen wOnce rSet
              rw [hw]
              rw [if_neg (by decide), if_pos rfl, if_neg (by decide), if_pos rfl]
              try dsimp only
              rw [hs, if_neg Bool.false_ne_true]
             have HL3 := HL2
             have HF3 := HFF
             have HM3 := HMS
             rw [e3] at HL3 HF3 HM3
             clear e3
             have sq : w4.cell? ⟨q, 1, none⟩ = some (.bool false) := by rw [← hs]; exact HG4.out.sn.cell 1
             have sf : w4.frozen? ⟨q, 1, none⟩ = false := HG4.out.sn.frozen 1
             have HK := Lib.hid (fun (W : World) (H : RS W bs b A c l x1) => (by
              have z := rnumber_any H HL.out HDg.out 1 1000
              unfold RdOut at z
              exact z : Calls Tryz.prog 83 #[.pointer (some ⟨b, 0, none⟩), .int .i64 1, .int .i64 1000] W (fun en w' => en = .returned (.tuple #[.int .i64 (rNumber 1 1000 l x1).1.1, .int .i64 ((rNumber 1 1000 l x1).1.2 : Int)]) ∧ RS w' bs b A c l (rNumber 1 1000 l x1).2 ∧ Turn (fun g => g = b) W w')))
             have HKE := Lib.hid (fun (z : (rNumber 1 1000 l x1).2.e = 0) => rNumber_e0 z)
             obtain ⟨kr, hkr⟩ : ∃ z, (rNumber 1 1000 l x1) = z := ⟨_, rfl⟩
             rw [hkr] at HK HKE HL3 HF3 HM3
             clear hkr
             obtain ⟨⟨kn, kl⟩, kx⟩ := kr
             try dsimp only at HK HKE HL3 HF3 HM3
             have HG6 := Lib.hid (HG4.out.see 1 (by decide))
             have HZ6 := Lib.hid (HZ4.out.far (p := ⟨q, 1, none⟩) (by show r ≠ q; omega) (.bool true))
             have v16 : (w4.setCell ⟨q, 1, none⟩ (.bool true)).cell? ⟨v, 1, none⟩ = some (.string Z) := (HF4.out.far (p := ⟨q, 1, none⟩) hvq (.bool true)).cell 1
             clear hw
             go_wp2_with (first
               | (go_at_call 83; ((with_reducible refine (HK.out _ HG6.out.rs).mono ?_); rintro en w7 ⟨rfl, h7, ht7⟩; (have HG7 := Lib.hid (HG6.out.call h7 ht7 HKE.out)); (have HZ7 := Lib.hid (ht7.far HZ6.out (by omega))); (have pc : w7.cell? ⟨p, 7, none⟩ = some (.int .i64 y.T.cost) := HG7.out.tg.cell 7); (have pf : w7.frozen? ⟨p, 7, none⟩ = false := HG7.out.tg.frozen 7); (have HG8 := Lib.hid (HG7.out.put 7 (.int .i64 kn) (T' := { y.T with cost := kn }) rfl rfl)); (have HZ8 := Lib.hid (HZ7.out.far (p := ⟨p, 7, none⟩) (by show r ≠ p; omega) (.int .i64 kn))); clear h7 ht7))
               | (fail "arm"))
             go_roundw
             case rel =>
              refine ⟨f, _, vs, ?_, HG8, HL3, HF3, HZ8⟩
              rfl
             case measure => exact HM3.out _ HG8.out.rs
            | true =>
             have e3 : y3 = ⟨(rNumber 1 1000 l (rFail 42 (yl : Int) x1)).2, { y.T with cost := (rNumber 1 1000 l (rFail 42 (yl : Int) x1)).1.1 }, upd y.sn 1 true⟩ := by
              rw [← HY3.out]
              unfold rRound
              rw [HX1.out]
              try dsimp only
              unfold rSeen wOnce rSet
              rw [hw]
              rw [if_neg (by decide), if_pos rfl, if_neg (by decide), if_pos rfl]
              try dsimp only
              rw [hs, if_pos rfl, HYL.out]
             have HL3 := HL2
             have HF3 := HFF
             have HM3 := HMS
             rw [e3] at HL3 HF3 HM3
             clear e3
             have sq : w4.cell? ⟨q, 1, none⟩ = some (.bool true) := by rw [← hs]; exact HG4.out.sn.cell 1
             have sf : w4.frozen? ⟨q, 1, none⟩ = false := HG4.out.sn.frozen 1
             have HK := Lib.hid (fun (W : World) (H : RS W bs b A c l (rFail 42 (yl : Int) x1)) => (by
              have z := rnumber_any H HL.out HDg.out 1 1000
              unfold RdOut at z
              exact z : Calls Tryz.prog 83 #[.pointer (some ⟨b, 0, none⟩), .int .i64 1, .int .i64 1000] W (fun en w' => en = .returned (.tuple #[.int .i64 (rNumber 1 1000 l (rFail 42 (yl : Int) x1)).1.1, .int .i64 ((rNumber 1 1000 l (rFail 42 (yl : Int) x1)).1.2 : Int)]) ∧ RS w' bs b A c l (rNumber 1 1000 l (rFail 42 (yl : Int) x1)).2 ∧ Turn (fun g => g = b) W w')))
             have HKE := Lib.hid (fun (z : (rNumber 1 1000 l (rFail 42 (yl : Int) x1)).2.e = 0) => rNumber_e0 z)
             obtain ⟨kr, hkr⟩ : ∃ z, (rNumber 1 1000 l (rFail 42 (yl : Int) x1)) = z := ⟨_, rfl⟩
             rw [hkr] at HK HKE HL3 HF3 HM3
             clear hkr
             obtain ⟨⟨kn, kl⟩, kx⟩ := kr
             try dsimp only at HK HKE HL3 HF3 HM3
             obtain ⟨x6, hx6⟩ : ∃ z, rFail 42 (yl : Int) x1 = z := ⟨_, rfl⟩
             have HX6 := Lib.hid (show x6.e ≠ 0 from by rw [← hx6]; exact rFail_e (by decide))
             have HFL := Lib.hid (fun (W : World) (H : RS W bs b A c l x1) => HFA.out W x1 42 H)
             rw [hx6] at HFL HK HKE
             clear hx6
             clear hw
             go_wp2_with (first
               | (go_at_call 80; ((with_reducible refine (HFL.out _ HG4.out.rs).mono ?_); rintro en w5 ⟨rfl, h5, ht5⟩; (have HG5 := Lib.hid (HG4.out.call h5 ht5 (fun z => absurd z HX6.out))); (have HZ5 := Lib.hid (ht5.far HZ4.out (by omega))); (have HG6 := Lib.hid (HG5.out.see 1 (by decide))); (have HZ6 := Lib.hid (HZ5.out.far (p := ⟨q, 1, none⟩) (by show r ≠ q; omega) (.bool true))); (have F5 := ht5.far HF4.out hvb); (have sq5 : w5.cell? ⟨q, 1, none⟩ = some (.bool true) := by rw [← hs]; exact HG5.out.sn.cell 1); (have sf5 : w5.frozen? ⟨q, 1, none⟩ = false := HG5.out.sn.frozen 1); (have v15 : (w5.setCell ⟨q, 1, none⟩ (.bool true)).cell? ⟨v, 1, none⟩ = some (.string Z) := (F5.far (p := ⟨q, 1, none⟩) hvq (.bool true)).cell 1); clear h5 ht5 F5))
               | (go_at_call 83; ((with_reducible refine (HK.out _ HG6.out.rs).mono ?_); rintro en w7 ⟨rfl, h7, ht7⟩; (have HG7 := Lib.hid (HG6.out.call h7 ht7 HKE.out)); (have HZ7 := Lib.hid (ht7.far HZ6.out (by omega))); (have pc : w7.cell? ⟨p, 7, none⟩ = some (.int .i64 y.T.cost) := HG7.out.tg.cell 7); (have pf : w7.frozen? ⟨p, 7, none⟩ = false := HG7.out.tg.frozen 7); (have HG8 := Lib.hid (HG7.out.put 7 (.int .i64 kn) (T' := { y.T with cost := kn }) rfl rfl)); (have HZ8 := Lib.hid (HZ7.out.far (p := ⟨p, 7, none⟩) (by show r ≠ p; omega) (.int .i64 kn))); clear h7 ht7))
               | (fail "arm"))
             go_roundw
             case rel =>
              refine ⟨f, _, vs, ?_, HG8, HL3, HF3, HZ8⟩
              rfl
             case measure => exact HM3.out _ HG8.out.rs
          · skip
            by_cases n2 : tb.tx = wRetry
            · have hw := n2
              clear n0 n1 n2
              have d0 : (Z.toList == [107, 105, 110, 100]) = false := by rw [HEQ.out, hw]; rfl
              have d1 : (Z.toList == [99, 111, 115, 116]) = false := by rw [HEQ.out, hw]; rfl
              have d2 : (Z.toList == [114, 101, 116, 114, 121]) = true := by rw [HEQ.out, hw]; rfl
              have d3 : (Z.toList == [115, 114, 99, 115]) = false := by rw [HEQ.out, hw]; rfl
              have d4 : (Z.toList == [100, 101, 112, 115]) = false := by rw [HEQ.out, hw]; rfl
              have d5 : (Z.toList == [111, 117, 116]) = false := by rw [HEQ.out, hw]; rfl
              have d6 : (Z.toList == [118, 105, 115, 105, 98, 108, 101]) = false := by rw [HEQ.out, hw]; rfl
              obtain ⟨sv, hs⟩ : ∃ z, y.sn 2 = z := ⟨_, rfl⟩
              cases sv with
              | false =>
               have e3 : y3 = ⟨(rNumber 0 5 l x1).2, { y.T with retry := (rNumber 0 5 l x1).1.1, rl := (rNumber 0 5 l x1).1.2 }, upd y.sn 2 true⟩ := by
                rw [← HY3.out]
                unfold rRound
                rw [HX1.out]
                try dsimp only
                unfold rSeen wOnce rSet
                rw [hw]
                rw [if_neg (by decide), if_neg (by decide), if_pos rfl, if_neg (by decide), if_neg (by decide), if_pos rfl]
                try dsimp only
                rw [hs, if_neg Bool.false_ne_true]
               have HL3 := HL2
               have HF3 := HFF
               have HM3 := HMS
               rw [e3] at HL3 HF3 HM3
               clear e3
               have sq : w4.cell? ⟨q, 2, none⟩ = some (.bool false) := by rw [← hs]; exact HG4.out.sn.cell 2
               have sf : w4.frozen? ⟨q, 2, none⟩ = false := HG4.out.sn.frozen 2
               have HK := Lib.hid (fun (W : World) (H : RS W bs b A c l x1) => (by
                have z := rnumber_any H HL.out HDg.out 0 5
                unfold RdOut at z
                exact z : Calls Tryz.prog 83 #[.pointer (some ⟨b, 0, none⟩), .int .i64 0, .int .i64 5] W (fun en w' => en = .returned (.tuple #[.int .i64 (rNumber 0 5 l x1).1.1, .int .i64 ((rNumber 0 5 l x1).1.2 : Int)]) ∧ RS w' bs b A c l (rNumber 0 5 l x1).2 ∧ Turn (fun g => g = b) W w')))
               have HKE := Lib.hid (fun (z : (rNumber 0 5 l x1).2.e = 0) => rNumber_e0 z)
               obtain ⟨kr, hkr⟩ : ∃ z, (rNumber 0 5 l x1) = z := ⟨_, rfl⟩
               rw [hkr] at HK HKE HL3 HF3 HM3
               clear hkr
               obtain ⟨⟨kn, kl⟩, kx⟩ := kr
               try dsimp only at HK HKE HL3 HF3 HM3
               have HG6 := Lib.hid (HG4.out.see 2 (by decide))
               have HZ6 := Lib.hid (HZ4.out.far (p := ⟨q, 2, none⟩) (by show r ≠ q; omega) (.bool true))
               have v16 : (w4.setCell ⟨q, 2, none⟩ (.bool true)).cell? ⟨v, 1, none⟩ = some (.string Z) := (HF4.out.far (p := ⟨q, 2, none⟩) hvq (.bool true)).cell 1
               clear hw
               go_wp2_with (first
                 | (go_at_call 83; ((with_reducible refine (HK.out _ HG6.out.rs).mono ?_); rintro en w7 ⟨rfl, h7, ht7⟩; (have HG7 := Lib.hid (HG6.out.call h7 ht7 HKE.out)); (have HZ7 := Lib.hid (ht7.far HZ6.out (by omega))); (have pc : w7.cell? ⟨p, 8, none⟩ = some (.int .i64 y.T.retry) := HG7.out.tg.cell 8); (have pf : w7.frozen? ⟨p, 8, none⟩ = false := HG7.out.tg.frozen 8); (have HG8 := Lib.hid (HG7.out.put 8 (.int .i64 kn) (T' := { y.T with retry := kn, rl := kl }) rfl rfl)); (have HZ8 := Lib.hid (HZ7.out.far (p := ⟨p, 8, none⟩) (by show r ≠ p; omega) (.int .i64 kn))); clear h7 ht7))
                 | (fail "arm"))
               go_roundw
               case rel =>
                refine ⟨f, _, vs, ?_, HG8, HL3, HF3, HZ8⟩
                rfl
               case measure => exact HM3.out _ HG8.out.rs
              | true =>
               have e3 : y3 = ⟨(rNumber 0 5 l (rFail 42 (yl : Int) x1)).2, { y.T with retry := (rNumber 0 5 l (rFail 42 (yl : Int) x1)).1.1, rl := (rNumber 0 5 l (rFail 42 (yl : Int) x1)).1.2 }, upd y.sn 2 true⟩ := by
                rw [← HY3.out]
                unfold rRound
                rw [HX1.out]
                try dsimp only
                unfold rSeen wOnce rSet
                rw [hw]
                rw [if_neg (by decide), if_neg (by decide), if_pos rfl, if_neg (by decide), if_neg (by decide), if_pos rfl]
                try dsimp only
                rw [hs, if_pos rfl, HYL.out]
               have HL3 := HL2
               have HF3 := HFF
               have HM3 := HMS
               rw [e3] at HL3 HF3 HM3
               clear e3
               have sq : w4.cell? ⟨q, 2, none⟩ = some (.bool true) := by rw [← hs]; exact HG4.out.sn.cell 2
               have sf : w4.frozen? ⟨q, 2, none⟩ = false := HG4.out.sn.frozen 2
               have HK := Lib.hid (fun (W : World) (H : RS W bs b A c l (rFail 42 (yl : Int) x1)) => (by
                have z := rnumber_any H HL.out HDg.out 0 5
                unfold RdOut at z
                exact z : Calls Tryz.prog 83 #[.pointer (some ⟨b, 0, none⟩), .int .i64 0, .int .i64 5] W (fun en w' => en = .returned (.tuple #[.int .i64 (rNumber 0 5 l (rFail 42 (yl : Int) x1)).1.1, .int .i64 ((rNumber 0 5 l (rFail 42 (yl : Int) x1)).1.2 : Int)]) ∧ RS w' bs b A c l (rNumber 0 5 l (rFail 42 (yl : Int) x1)).2 ∧ Turn (fun g => g = b) W w')))
               have HKE := Lib.hid (fun (z : (rNumber 0 5 l (rFail 42 (yl : Int) x1)).2.e = 0) => rNumber_e0 z)
               obtain ⟨kr, hkr⟩ : ∃ z, (rNumber 0 5 l (rFail 42 (yl : Int) x1)) = z := ⟨_, rfl⟩
               rw [hkr] at HK HKE HL3 HF3 HM3
               clear hkr
               obtain ⟨⟨kn, kl⟩, kx⟩ := kr
               try dsimp only at HK HKE HL3 HF3 HM3
               obtain ⟨x6, hx6⟩ : ∃ z, rFail 42 (yl : Int) x1 = z := ⟨_, rfl⟩
               have HX6 := Lib.hid (show x6.e ≠ 0 from by rw [← hx6]; exact rFail_e (by decide))
               have HFL := Lib.hid (fun (W : World) (H : RS W bs b A c l x1) => HFA.out W x1 42 H)
               rw [hx6] at HFL HK HKE
               clear hx6
               clear hw
               go_wp2_with (first
                 | (go_at_call 80; ((with_reducible refine (HFL.out _ HG4.out.rs).mono ?_); rintro en w5 ⟨rfl, h5, ht5⟩; (have HG5 := Lib.hid (HG4.out.call h5 ht5 (fun z => absurd z HX6.out))); (have HZ5 := Lib.hid (ht5.far HZ4.out (by omega))); (have HG6 := Lib.hid (HG5.out.see 2 (by decide))); (have HZ6 := Lib.hid (HZ5.out.far (p := ⟨q, 2, none⟩) (by show r ≠ q; omega) (.bool true))); (have F5 := ht5.far HF4.out hvb); (have sq5 : w5.cell? ⟨q, 2, none⟩ = some (.bool true) := by rw [← hs]; exact HG5.out.sn.cell 2); (have sf5 : w5.frozen? ⟨q, 2, none⟩ = false := HG5.out.sn.frozen 2); (have v15 : (w5.setCell ⟨q, 2, none⟩ (.bool true)).cell? ⟨v, 1, none⟩ = some (.string Z) := (F5.far (p := ⟨q, 2, none⟩) hvq (.bool true)).cell 1); clear h5 ht5 F5))
                 | (go_at_call 83; ((with_reducible refine (HK.out _ HG6.out.rs).mono ?_); rintro en w7 ⟨rfl, h7, ht7⟩; (have HG7 := Lib.hid (HG6.out.call h7 ht7 HKE.out)); (have HZ7 := Lib.hid (ht7.far HZ6.out (by omega))); (have pc : w7.cell? ⟨p, 8, none⟩ = some (.int .i64 y.T.retry) := HG7.out.tg.cell 8); (have pf : w7.frozen? ⟨p, 8, none⟩ = false := HG7.out.tg.frozen 8); (have HG8 := Lib.hid (HG7.out.put 8 (.int .i64 kn) (T' := { y.T with retry := kn, rl := kl }) rfl rfl)); (have HZ8 := Lib.hid (HZ7.out.far (p := ⟨p, 8, none⟩) (by show r ≠ p; omega) (.int .i64 kn))); clear h7 ht7))
                 | (fail "arm"))
               go_roundw
               case rel =>
                refine ⟨f, _, vs, ?_, HG8, HL3, HF3, HZ8⟩
                rfl
               case measure => exact HM3.out _ HG8.out.rs
            · skip
              by_cases n3 : tb.tx = wSrcs
              · have hw := n3
                clear n0 n1 n2 n3
                have d0 : (Z.toList == [107, 105, 110, 100]) = false := by rw [HEQ.out, hw]; rfl
                have d1 : (Z.toList == [99, 111, 115, 116]) = false := by rw [HEQ.out, hw]; rfl
                have d2 : (Z.toList == [114, 101, 116, 114, 121]) = false := by rw [HEQ.out, hw]; rfl
                have d3 : (Z.toList == [115, 114, 99, 115]) = true := by rw [HEQ.out, hw]; rfl
                have d4 : (Z.toList == [100, 101, 112, 115]) = false := by rw [HEQ.out, hw]; rfl
                have d5 : (Z.toList == [111, 117, 116]) = false := by rw [HEQ.out, hw]; rfl
                have d6 : (Z.toList == [118, 105, 115, 105, 98, 108, 101]) = false := by rw [HEQ.out, hw]; rfl
                have e3 : y3 = ⟨(rItems true true l (y.T.rows 0) x1).2, { y.T with rows := upd y.T.rows 0 (rItems true true l (y.T.rows 0) x1).1 }, y.sn⟩ := by
                 rw [← HY3.out]
                 unfold rRound
                 rw [HX1.out]
                 try dsimp only
                 have e1 : rSeen tb ⟨x1, y.T, y.sn⟩ = ⟨x1, y.T, y.sn⟩ := by unfold rSeen; rw [hw]; rfl
                 rw [e1]
                 unfold rSet
                 rw [hw, if_neg (by decide), if_neg (by decide), if_neg (by decide), if_pos rfl]
                have HL3 := HL2
                have HF3 := HFF
                have HM3 := HMS
                rw [e3] at HL3 HF3 HM3
                clear e3
                have hxe : x1.e = 0 := HATX.out (by rw [hw]; decide)
                have hln := HG4.out.lens hxe 0 (by decide)
                have hxl := HG4.out.rs.lt
                have hle := HG4.out.rs.le
                try dsimp only at hln hxl
                have hO := HG4.out.rows.own 0 (by decide)
                obtain ⟨A0, c0, hV⟩ := own_form hO
                obtain ⟨n0, hn0⟩ : ∃ n, (y.T.rows 0).length = n := ⟨_, rfl⟩
                have hV0 := hV
                try dsimp only at hO hV0 hV
                rw [hn0] at hV hln
                rw [hV0, hn0] at hO
                have HIT := Lib.hid (ritems_any HG4.out.rs HL.out true true (V := vs 0) hV hn0.symm hO (by have := HG4.out.tn.size; omega) (by omega))
                try dsimp only at HIT
                have HIE := Lib.hid (show (rItems true true l (y.T.rows 0) x1).2.e = 0 → x1.e = 0 ∧ x1.at_ ≤ (rItems true true l (y.T.rows 0) x1).2.at_ ∧ (rItems true true l (y.T.rows 0) x1).1.length + x1.at_ ≤ (y.T.rows 0).length + (rItems true true l (y.T.rows 0) x1).2.at_ from fun z => ⟨(rItems_e0 z).1, rItems_le, (rItems_e0 z).2⟩)
                obtain ⟨⟨ri, rx⟩, hri⟩ : ∃ z, rItems true true l (y.T.rows 0) x1 = z := ⟨_, rfl⟩
                rw [hri] at HIT HIE HL3 HF3 HM3
                try dsimp only at HIT HIE HL3 HF3 HM3
                have pr : w4.cell? ⟨p, 3, none⟩ = some (.slice A0 n0 c0) := by rw [← hV]; exact HG4.out.tg.cell 3
                have HRB := Lib.hid (show ∀ g, (vs 0).ownBlock = some g → g ≠ r from own_full_ne (HG4.out.rows.own 0 (by decide)) HZ4.out (by decide))
                clear hw hri hV hV0 hn0 hO hxe hln hxl
                go_wp2_with (first
                  | (go_at_call 84; ((with_reducible refine HIT.out.mono ?_); rintro en w5 ⟨A9, n9, c9, rfl, hi9⟩; (obtain ⟨⟨pc, pf⟩, hg9⟩ := HG4.out.items 0 (by decide) hi9 HIE.out); (have HG8 := Lib.hid hg9); (have HZ5 := hi9.tn.far HZ4.out (fun z => z.elim (fun z => by omega) (fun z => HRB.out r z rfl))); (have HZ8 := Lib.hid (HZ5.far (p := ⟨p, 3, none⟩) (by show r ≠ p; omega) (.slice A9 n9 c9))); clear hi9 hg9 HZ5))
                  | (fail "arm"))
                go_roundw
                case rel =>
                 refine ⟨f, _, upd vs 0 (.slice A9 n9 c9), ?_, HG8, HL3, HF3, HZ8⟩
                 rfl
                case measure => exact HM3.out _ HG8.out.rs
              · skip
                by_cases n4 : tb.tx = wDeps
                · have hw := n4
                  clear n0 n1 n2 n3 n4
                  have d0 : (Z.toList == [107, 105, 110, 100]) = false := by rw [HEQ.out, hw]; rfl
                  have d1 : (Z.toList == [99, 111, 115, 116]) = false := by rw [HEQ.out, hw]; rfl
                  have d2 : (Z.toList == [114, 101, 116, 114, 121]) = false := by rw [HEQ.out, hw]; rfl
                  have d3 : (Z.toList == [115, 114, 99, 115]) = false := by rw [HEQ.out, hw]; rfl
                  have d4 : (Z.toList == [100, 101, 112, 115]) = true := by rw [HEQ.out, hw]; rfl
                  have d5 : (Z.toList == [111, 117, 116]) = false := by rw [HEQ.out, hw]; rfl
                  have d6 : (Z.toList == [118, 105, 115, 105, 98, 108, 101]) = false := by rw [HEQ.out, hw]; rfl
                  have e3 : y3 = ⟨(rItems true false l (y.T.rows 1) x1).2, { y.T with rows := upd y.T.rows 1 (rItems true false l (y.T.rows 1) x1).1 }, y.sn⟩ := by
                   rw [← HY3.out]
                   unfold rRound
                   rw [HX1.out]
                   try dsimp only
                   have e1 : rSeen tb ⟨x1, y.T, y.sn⟩ = ⟨x1, y.T, y.sn⟩ := by unfold rSeen; rw [hw]; rfl
                   rw [e1]
                   unfold rSet
                   rw [hw, if_neg (by decide), if_neg (by decide), if_neg (by decide), if_neg (by decide), if_pos rfl]
                  have HL3 := HL2
                  have HF3 := HFF
                  have HM3 := HMS
                  rw [e3] at HL3 HF3 HM3
                  clear e3
                  have hxe : x1.e = 0 := HATX.out (by rw [hw]; decide)
                  have hln := HG4.out.lens hxe 1 (by decide)
                  have hxl := HG4.out.rs.lt
                  have hle := HG4.out.rs.le
                  try dsimp only at hln hxl
                  have hO := HG4.out.rows.own 1 (by decide)
                  obtain ⟨A0, c0, hV⟩ := own_form hO
                  obtain ⟨n0, hn0⟩ : ∃ n, (y.T.rows 1).length = n := ⟨_, rfl⟩
                  have hV0 := hV
                  try dsimp only at hO hV0 hV
                  rw [hn0] at hV hln
                  rw [hV0, hn0] at hO
                  have HIT := Lib.hid (ritems_any HG4.out.rs HL.out true false (V := vs 1) hV hn0.symm hO (by have := HG4.out.tn.size; omega) (by omega))
                  try dsimp only at HIT
                  have HIE := Lib.hid (show (rItems true false l (y.T.rows 1) x1).2.e = 0 → x1.e = 0 ∧ x1.at_ ≤ (rItems true false l (y.T.rows 1) x1).2.at_ ∧ (rItems true false l (y.T.rows 1) x1).1.length + x1.at_ ≤ (y.T.rows 1).length + (rItems true false l (y.T.rows 1) x1).2.at_ from fun z => ⟨(rItems_e0 z).1, rItems_le, (rItems_e0 z).2⟩)
                  obtain ⟨⟨ri, rx⟩, hri⟩ : ∃ z, rItems true false l (y.T.rows 1) x1 = z := ⟨_, rfl⟩
                  rw [hri] at HIT HIE HL3 HF3 HM3
                  try dsimp only at HIT HIE HL3 HF3 HM3
                  have pr : w4.cell? ⟨p, 4, none⟩ = some (.slice A0 n0 c0) := by rw [← hV]; exact HG4.out.tg.cell 4
                  have HRB := Lib.hid (show ∀ g, (vs 1).ownBlock = some g → g ≠ r from own_full_ne (HG4.out.rows.own 1 (by decide)) HZ4.out (by decide))
                  clear hw hri hV hV0 hn0 hO hxe hln hxl
                  go_wp2_with (first
                    | (go_at_call 84; ((with_reducible refine HIT.out.mono ?_); rintro en w5 ⟨A9, n9, c9, rfl, hi9⟩; (obtain ⟨⟨pc, pf⟩, hg9⟩ := HG4.out.items 1 (by decide) hi9 HIE.out); (have HG8 := Lib.hid hg9); (have HZ5 := hi9.tn.far HZ4.out (fun z => z.elim (fun z => by omega) (fun z => HRB.out r z rfl))); (have HZ8 := Lib.hid (HZ5.far (p := ⟨p, 4, none⟩) (by show r ≠ p; omega) (.slice A9 n9 c9))); clear hi9 hg9 HZ5))
                    | (fail "arm"))
                  go_roundw
                  case rel =>
                   refine ⟨f, _, upd vs 1 (.slice A9 n9 c9), ?_, HG8, HL3, HF3, HZ8⟩
                   rfl
                  case measure => exact HM3.out _ HG8.out.rs
                · skip
                  by_cases n5 : tb.tx = wOut
                  · have hw := n5
                    clear n0 n1 n2 n3 n4 n5
                    have d0 : (Z.toList == [107, 105, 110, 100]) = false := by rw [HEQ.out, hw]; rfl
                    have d1 : (Z.toList == [99, 111, 115, 116]) = false := by rw [HEQ.out, hw]; rfl
                    have d2 : (Z.toList == [114, 101, 116, 114, 121]) = false := by rw [HEQ.out, hw]; rfl
                    have d3 : (Z.toList == [115, 114, 99, 115]) = false := by rw [HEQ.out, hw]; rfl
                    have d4 : (Z.toList == [100, 101, 112, 115]) = false := by rw [HEQ.out, hw]; rfl
                    have d5 : (Z.toList == [111, 117, 116]) = true := by rw [HEQ.out, hw]; rfl
                    have d6 : (Z.toList == [118, 105, 115, 105, 98, 108, 101]) = false := by rw [HEQ.out, hw]; rfl
                    have e3 : y3 = ⟨(rItems false false l (y.T.rows 2) x1).2, { y.T with rows := upd y.T.rows 2 (rItems false false l (y.T.rows 2) x1).1 }, y.sn⟩ := by
                     rw [← HY3.out]
                     unfold rRound
                     rw [HX1.out]
                     try dsimp only
                     have e1 : rSeen tb ⟨x1, y.T, y.sn⟩ = ⟨x1, y.T, y.sn⟩ := by unfold rSeen; rw [hw]; rfl
                     rw [e1]
                     unfold rSet
                     rw [hw, if_neg (by decide), if_neg (by decide), if_neg (by decide), if_neg (by decide), if_neg (by decide), if_pos rfl]
                    have HL3 := HL2
                    have HF3 := HFF
                    have HM3 := HMS
                    rw [e3] at HL3 HF3 HM3
                    clear e3
                    have hxe : x1.e = 0 := HATX.out (by rw [hw]; decide)
                    have hln := HG4.out.lens hxe 2 (by decide)
                    have hxl := HG4.out.rs.lt
                    have hle := HG4.out.rs.le
                    try dsimp only at hln hxl
                    have hO := HG4.out.rows.own 2 (by decide)
                    obtain ⟨A0, c0, hV⟩ := own_form hO
                    obtain ⟨n0, hn0⟩ : ∃ n, (y.T.rows 2).length = n := ⟨_, rfl⟩
                    have hV0 := hV
                    try dsimp only at hO hV0 hV
                    rw [hn0] at hV hln
                    rw [hV0, hn0] at hO
                    have HIT := Lib.hid (ritems_any HG4.out.rs HL.out false false (V := vs 2) hV hn0.symm hO (by have := HG4.out.tn.size; omega) (by omega))
                    try dsimp only at HIT
                    have HIE := Lib.hid (show (rItems false false l (y.T.rows 2) x1).2.e = 0 → x1.e = 0 ∧ x1.at_ ≤ (rItems false false l (y.T.rows 2) x1).2.at_ ∧ (rItems false false l (y.T.rows 2) x1).1.length + x1.at_ ≤ (y.T.rows 2).length + (rItems false false l (y.T.rows 2) x1).2.at_ from fun z => ⟨(rItems_e0 z).1, rItems_le, (rItems_e0 z).2⟩)
                    obtain ⟨⟨ri, rx⟩, hri⟩ : ∃ z, rItems false false l (y.T.rows 2) x1 = z := ⟨_, rfl⟩
                    rw [hri] at HIT HIE HL3 HF3 HM3
                    try dsimp only at HIT HIE HL3 HF3 HM3
                    have pr : w4.cell? ⟨p, 5, none⟩ = some (.slice A0 n0 c0) := by rw [← hV]; exact HG4.out.tg.cell 5
                    have HRB := Lib.hid (show ∀ g, (vs 2).ownBlock = some g → g ≠ r from own_full_ne (HG4.out.rows.own 2 (by decide)) HZ4.out (by decide))
                    clear hw hri hV hV0 hn0 hO hxe hln hxl
                    go_wp2_with (first
                      | (go_at_call 84; ((with_reducible refine HIT.out.mono ?_); rintro en w5 ⟨A9, n9, c9, rfl, hi9⟩; (obtain ⟨⟨pc, pf⟩, hg9⟩ := HG4.out.items 2 (by decide) hi9 HIE.out); (have HG8 := Lib.hid hg9); (have HZ5 := hi9.tn.far HZ4.out (fun z => z.elim (fun z => by omega) (fun z => HRB.out r z rfl))); (have HZ8 := Lib.hid (HZ5.far (p := ⟨p, 5, none⟩) (by show r ≠ p; omega) (.slice A9 n9 c9))); clear hi9 hg9 HZ5))
                      | (fail "arm"))
                    go_roundw
                    case rel =>
                     refine ⟨f, _, upd vs 2 (.slice A9 n9 c9), ?_, HG8, HL3, HF3, HZ8⟩
                     rfl
                    case measure => exact HM3.out _ HG8.out.rs
                  · skip
                    by_cases n6 : tb.tx = wVis
                    · have hw := n6
                      clear n0 n1 n2 n3 n4 n5 n6
                      have d0 : (Z.toList == [107, 105, 110, 100]) = false := by rw [HEQ.out, hw]; rfl
                      have d1 : (Z.toList == [99, 111, 115, 116]) = false := by rw [HEQ.out, hw]; rfl
                      have d2 : (Z.toList == [114, 101, 116, 114, 121]) = false := by rw [HEQ.out, hw]; rfl
                      have d3 : (Z.toList == [115, 114, 99, 115]) = false := by rw [HEQ.out, hw]; rfl
                      have d4 : (Z.toList == [100, 101, 112, 115]) = false := by rw [HEQ.out, hw]; rfl
                      have d5 : (Z.toList == [111, 117, 116]) = false := by rw [HEQ.out, hw]; rfl
                      have d6 : (Z.toList == [118, 105, 115, 105, 98, 108, 101]) = true := by rw [HEQ.out, hw]; rfl
                      have e3 : y3 = ⟨(rItems false false l (y.T.rows 3) x1).2, { y.T with rows := upd y.T.rows 3 (rItems false false l (y.T.rows 3) x1).1 }, y.sn⟩ := by
                       rw [← HY3.out]
                       unfold rRound
                       rw [HX1.out]
                       try dsimp only
                       have e1 : rSeen tb ⟨x1, y.T, y.sn⟩ = ⟨x1, y.T, y.sn⟩ := by unfold rSeen; rw [hw]; rfl
                       rw [e1]
                       unfold rSet
                       rw [hw, if_neg (by decide), if_neg (by decide), if_neg (by decide), if_neg (by decide), if_neg (by decide), if_neg (by decide), if_pos rfl]
                      have HL3 := HL2
                      have HF3 := HFF
                      have HM3 := HMS
                      rw [e3] at HL3 HF3 HM3
                      clear e3
                      have hxe : x1.e = 0 := HATX.out (by rw [hw]; decide)
                      have hln := HG4.out.lens hxe 3 (by decide)
                      have hxl := HG4.out.rs.lt
                      have hle := HG4.out.rs.le
                      try dsimp only at hln hxl
                      have hO := HG4.out.rows.own 3 (by decide)
                      obtain ⟨A0, c0, hV⟩ := own_form hO
                      obtain ⟨n0, hn0⟩ : ∃ n, (y.T.rows 3).length = n := ⟨_, rfl⟩
                      have hV0 := hV
                      try dsimp only at hO hV0 hV
                      rw [hn0] at hV hln
                      rw [hV0, hn0] at hO
                      have HIT := Lib.hid (ritems_any HG4.out.rs HL.out false false (V := vs 3) hV hn0.symm hO (by have := HG4.out.tn.size; omega) (by omega))
                      try dsimp only at HIT
                      have HIE := Lib.hid (show (rItems false false l (y.T.rows 3) x1).2.e = 0 → x1.e = 0 ∧ x1.at_ ≤ (rItems false false l (y.T.rows 3) x1).2.at_ ∧ (rItems false false l (y.T.rows 3) x1).1.length + x1.at_ ≤ (y.T.rows 3).length + (rItems false false l (y.T.rows 3) x1).2.at_ from fun z => ⟨(rItems_e0 z).1, rItems_le, (rItems_e0 z).2⟩)
                      obtain ⟨⟨ri, rx⟩, hri⟩ : ∃ z, rItems false false l (y.T.rows 3) x1 = z := ⟨_, rfl⟩
                      rw [hri] at HIT HIE HL3 HF3 HM3
                      try dsimp only at HIT HIE HL3 HF3 HM3
                      have pr : w4.cell? ⟨p, 6, none⟩ = some (.slice A0 n0 c0) := by rw [← hV]; exact HG4.out.tg.cell 6
                      have HRB := Lib.hid (show ∀ g, (vs 3).ownBlock = some g → g ≠ r from own_full_ne (HG4.out.rows.own 3 (by decide)) HZ4.out (by decide))
                      clear hw hri hV hV0 hn0 hO hxe hln hxl
                      go_wp2_with (first
                        | (go_at_call 84; ((with_reducible refine HIT.out.mono ?_); rintro en w5 ⟨A9, n9, c9, rfl, hi9⟩; (obtain ⟨⟨pc, pf⟩, hg9⟩ := HG4.out.items 3 (by decide) hi9 HIE.out); (have HG8 := Lib.hid hg9); (have HZ5 := hi9.tn.far HZ4.out (fun z => z.elim (fun z => by omega) (fun z => HRB.out r z rfl))); (have HZ8 := Lib.hid (HZ5.far (p := ⟨p, 6, none⟩) (by show r ≠ p; omega) (.slice A9 n9 c9))); clear hi9 hg9 HZ5))
                        | (fail "arm"))
                      go_roundw
                      case rel =>
                       refine ⟨f, _, upd vs 3 (.slice A9 n9 c9), ?_, HG8, HL3, HF3, HZ8⟩
                       rfl
                      case measure => exact HM3.out _ HG8.out.rs
                    · skip
                      have d0 : (Z.toList == [107, 105, 110, 100]) = false := by rw [HEQ.out]; exact beq_eq_false_iff_ne.mpr n0
                      have d1 : (Z.toList == [99, 111, 115, 116]) = false := by rw [HEQ.out]; exact beq_eq_false_iff_ne.mpr n1
                      have d2 : (Z.toList == [114, 101, 116, 114, 121]) = false := by rw [HEQ.out]; exact beq_eq_false_iff_ne.mpr n2
                      have d3 : (Z.toList == [115, 114, 99, 115]) = false := by rw [HEQ.out]; exact beq_eq_false_iff_ne.mpr n3
                      have d4 : (Z.toList == [100, 101, 112, 115]) = false := by rw [HEQ.out]; exact beq_eq_false_iff_ne.mpr n4
                      have d5 : (Z.toList == [111, 117, 116]) = false := by rw [HEQ.out]; exact beq_eq_false_iff_ne.mpr n5
                      have d6 : (Z.toList == [118, 105, 115, 105, 98, 108, 101]) = false := by rw [HEQ.out]; exact beq_eq_false_iff_ne.mpr n6
                      have e3 : y3 = ⟨rFail 40 (yl : Int) x1, y.T, y.sn⟩ := by
                       rw [← HY3.out]
                       unfold rRound
                       rw [HX1.out]
                       try dsimp only
                       have e1 : rSeen tb ⟨x1, y.T, y.sn⟩ = ⟨x1, y.T, y.sn⟩ := by unfold rSeen wOnce; rw [if_neg n0, if_neg n1, if_neg n2]
                       rw [e1]
                       unfold rSet
                       rw [if_neg n0, if_neg n1, if_neg n2, if_neg n3, if_neg n4, if_neg n5, if_neg n6, HYL.out]
                      have HL3 := HL2
                      have HF3 := HFF
                      have HM3 := HMS
                      rw [e3] at HL3 HF3 HM3
                      clear e3
                      have HFL := Lib.hid (fun (W : World) (H : RS W bs b A c l x1) => HFA.out W x1 40 H)
                      have HFE := Lib.hid (show (rFail 40 (yl : Int) x1).e ≠ 0 from rFail_e (by decide))
                      clear n0 n1 n2 n3 n4 n5 n6
                      go_wp2_with (first
                        | (go_at_call 80; ((with_reducible refine (HFL.out _ HG4.out.rs).mono ?_); rintro en w5 ⟨rfl, h5, ht5⟩; (have HG8 := Lib.hid (HG4.out.call h5 ht5 (fun z => absurd z HFE.out))); (have HZ8 := Lib.hid (ht5.far HZ4.out (by omega))); clear h5 ht5))
                        | (fail "arm"))
                      go_roundw
                      case rel =>
                       refine ⟨f, _, vs, ?_, HG8, HL3, HF3, HZ8⟩
                       rfl
                      case measure => exact HM3.out _ HG8.out.rs
     · have q1 : (e == 0) = false := by simpa using e0
       have hLp := HLp.out
       rw [rLoop_off (fun z => e0 (he.symm.trans z))] at hLp
       subst hLp
       clear e0 he HLp Hf
       go_upto_region 46 with fail
       clear c2 q1
       obtain ⟨sn, k0⟩ : ∃ x, str y.T.name = x := ⟨_, rfl⟩
       obtain ⟨kd, k1⟩ : ∃ x, y.T.kind = x := ⟨_, rfl⟩
       obtain ⟨ln, k2⟩ : ∃ x, y.T.line = x := ⟨_, rfl⟩
       obtain ⟨co, k7⟩ : ∃ x, y.T.cost = x := ⟨_, rfl⟩
       obtain ⟨rt, k8⟩ : ∃ x, y.T.retry = x := ⟨_, rfl⟩
       obtain ⟨rl, k9⟩ : ∃ x, y.T.rl = x := ⟨_, rfl⟩
       have HV := Lib.hid (And.intro k0 (And.intro k1 (And.intro k2 (And.intro k7 (And.intro k8 k9)))))
       have b1' : wr.cell? ⟨p, 1, none⟩ = some (.int .i64 kd) := by rw [← HV.out.2.1]; exact HG.out.tg.cell 1
       have b8' : wr.cell? ⟨p, 8, none⟩ = some (.int .i64 rt) := by rw [← HV.out.2.2.2.2.1]; exact HG.out.tg.cell 8
       by_cases hck : 0 < rt ∧ kd ≠ 3
       · have HCK := Lib.hid (show rCheck y = rFail 41 (rl : Int) y.x from by unfold rCheck; (try dsimp only); rw [if_pos (by rw [k8, k1]; exact hck), k9])
         have p1 : decide (rt > 0) = true := decide_eq_true hck.1
         have p2 : (kd != 3) = true := by simpa using hck.2
         have HFL := Lib.hid (fun (W : World) (H : RS W bs b A c l y.x) => (by
          have z := rfail_any H 41 (rl : Int)
          unfold RdOut at z
          exact z : Calls Tryz.prog 80 #[.pointer (some ⟨b, 0, none⟩), .int .i64 41, .int .i64 (rl : Int)] W (fun en w' => en = .returned (.tuple #[]) ∧ RS w' bs b A c l (rFail 41 (rl : Int) y.x) ∧ Turn (fun g => g = b) W w')))
         have HFN := Lib.hid (show (rFail 41 (rl : Int) y.x).e ≠ 0 from rFail_e (by decide))
         rw [k9]
         clear k0 k1 k2 k7 k8 k9 hck
         go_upto_region 48 with (first
           | (go_at_call 80; ((with_reducible refine (HFL.out _ HG.out.rs).mono ?_); rintro en w12 ⟨rfl, h12, ht12⟩; (have HGF := Lib.hid (HG.out.call h12 ht12 (fun z => absurd z HFN.out))); (have HZF := Lib.hid (ht12.far HZ.out (by omega))); clear h12 ht12))
           | (fail "arm"))
         clear b1' b8'
         obtain ⟨A0, j0, g0⟩ := own_form (HGF.out.rows.own 0 (by decide))
         obtain ⟨A1, j1, g1⟩ := own_form (HGF.out.rows.own 1 (by decide))
         obtain ⟨A2', j2, g2⟩ := own_form (HGF.out.rows.own 2 (by decide))
         obtain ⟨A3, j3, g3⟩ := own_form (HGF.out.rows.own 3 (by decide))
         try dsimp only at g0 g1 g2 g3
         have b0 : w12.cell? ⟨p, 0, none⟩ = some (.string sn) := by rw [← HV.out.1]; exact HGF.out.tg.cell 0
         have b1 : w12.cell? ⟨p, 1, none⟩ = some (.int .i64 kd) := by rw [← HV.out.2.1]; exact HGF.out.tg.cell 1
         have b2 : w12.cell? ⟨p, 2, none⟩ = some (.int .i64 (ln : Int)) := by rw [← HV.out.2.2.1]; exact HGF.out.tg.cell 2
         have b3 : w12.cell? ⟨p, 3, none⟩ = some (.slice A0 (y.T.rows 0).length j0) := by rw [← g0]; exact HGF.out.tg.cell 3
         have b4 : w12.cell? ⟨p, 4, none⟩ = some (.slice A1 (y.T.rows 1).length j1) := by rw [← g1]; exact HGF.out.tg.cell 4
         have b5 : w12.cell? ⟨p, 5, none⟩ = some (.slice A2' (y.T.rows 2).length j2) := by rw [← g2]; exact HGF.out.tg.cell 5
         have b6 : w12.cell? ⟨p, 6, none⟩ = some (.slice A3 (y.T.rows 3).length j3) := by rw [← g3]; exact HGF.out.tg.cell 6
         have b7 : w12.cell? ⟨p, 7, none⟩ = some (.int .i64 co) := by rw [← HV.out.2.2.2.1]; exact HGF.out.tg.cell 7
         have b8 : w12.cell? ⟨p, 8, none⟩ = some (.int .i64 rt) := by rw [← HV.out.2.2.2.2.1]; exact HGF.out.tg.cell 8
         obtain ⟨⟨c0, cf0⟩, ⟨c1, cf1⟩, ⟨c2, cf2⟩, ⟨c3, cf3⟩, ⟨c4, cf4⟩, ⟨c5, cf5⟩, ⟨c6, cf6⟩, ⟨c7, cf7⟩, ⟨c8, cf8⟩, FE⟩ := store9 (show Full w12 r 50 [.string ⟨#[]⟩, .int .i64 0, .int .i64 0, .slice none 0 0, .slice none 0 0, .slice none 0 0, .slice none 0 0, .int .i64 0, .int .i64 0] from HZF.out) (.string sn) (.int .i64 kd) (.int .i64 (ln : Int)) (.slice A0 (y.T.rows 0).length j0) (.slice A1 (y.T.rows 1).length j1) (.slice A2' (y.T.rows 2).length j2) (.slice A3 (y.T.rows 3).length j3) (.int .i64 co) (.int .i64 rt)
         have HFE := Lib.hid FE
         have HFIN := Lib.hid (HGF.out.fin HZF.out (by have := HRR.out; omega) (Turn.set9r w12 r (.string sn) (.int .i64 kd) (.int .i64 (ln : Int)) (.slice A0 (y.T.rows 0).length j0) (.slice A1 (y.T.rows 1).length j1) (.slice A2' (y.T.rows 2).length j2) (.slice A3 (y.T.rows 3).length j3) (.int .i64 co) (.int .i64 rt)))
         have HGG := Lib.hid (And.intro g0 (And.intro g1 (And.intro g2 g3)))
         clear FE g0 g1 g2 g3
         go_wp2
         obtain ⟨wz, hwz⟩ : ∃ wz, (((((((((w12.setCell ⟨r, 0, none⟩ (.string sn)).setCell ⟨r, 1, none⟩ (.int .i64 kd)).setCell ⟨r, 2, none⟩ (.int .i64 (ln : Int))).setCell ⟨r, 3, none⟩ (.slice A0 (y.T.rows 0).length j0)).setCell ⟨r, 4, none⟩ (.slice A1 (y.T.rows 1).length j1)).setCell ⟨r, 5, none⟩ (.slice A2' (y.T.rows 2).length j2)).setCell ⟨r, 6, none⟩ (.slice A3 (y.T.rows 3).length j3)).setCell ⟨r, 7, none⟩ (.int .i64 co)).setCell ⟨r, 8, none⟩ (.int .i64 rt)) = wz := ⟨_, rfl⟩
         have hend := HFIN.out
         have FE := HFE.out
         rw [hwz] at hend FE ⊢
         have q0 := FE.cell 0
         have q1 := FE.cell 1
         have q2 := FE.cell 2
         have q3 := FE.cell 3
         have q4 := FE.cell 4
         have q5 := FE.cell 5
         have q6 := FE.cell 6
         have q7 := FE.cell 7
         have q8 := FE.cell 8
         dsimp only [List.getElem?_cons_zero, List.getElem?_cons_succ] at q0 q1 q2 q3 q4 q5 q6 q7 q8
         refine bodyPost_ret (v := .agg #[.string sn, .int .i64 kd, .int .i64 (ln : Int), .slice A0 (y.T.rows 0).length j0, .slice A1 (y.T.rows 1).length j1, .slice A2' (y.T.rows 2).length j2, .slice A3 (y.T.rows 3).length j3, .int .i64 co, .int .i64 rt]) (by simp [results, Tryz.results49, go_sem, q0, q1, q2, q3, q4, q5, q6, q7, q8]) rfl ?_
         refine ⟨vs, ?_, ?_, hend.2.1, hend.2.2⟩
         · unfold tgtV
           try dsimp only
           rw [HV.out.1, HV.out.2.1, HV.out.2.2.1, HV.out.2.2.2.1, HV.out.2.2.2.2.1, HGG.out.1, HGG.out.2.1, HGG.out.2.2.1, HGG.out.2.2.2]
         · rw [HCK.out]; exact hend.1
       · have HCK := Lib.hid (show rCheck y = y.x from by unfold rCheck; (try dsimp only); rw [if_neg (by rw [k8, k1]; exact hck)])
         have hcase : (0 < rt ∧ kd = 3) ∨ ¬ 0 < rt := by
          by_cases z : 0 < rt
          · exact .inl ⟨z, Decidable.byContradiction fun e => hck ⟨z, e⟩⟩
          · exact .inr z
         clear k0 k1 k2 k7 k8 k9 hck
         rcases hcase with ⟨z1, z2⟩ | z1
         · have p1 : decide (rt > 0) = true := decide_eq_true z1
           have p2 : (kd != 3) = false := by rw [z2]; rfl
           clear z1 z2
           go_upto_region 48 with fail
           clear b1' b8'
           obtain ⟨A0, j0, g0⟩ := own_form (HG.out.rows.own 0 (by decide))
           obtain ⟨A1, j1, g1⟩ := own_form (HG.out.rows.own 1 (by decide))
           obtain ⟨A2', j2, g2⟩ := own_form (HG.out.rows.own 2 (by decide))
           obtain ⟨A3, j3, g3⟩ := own_form (HG.out.rows.own 3 (by decide))
           try dsimp only at g0 g1 g2 g3
           have b0 : wr.cell? ⟨p, 0, none⟩ = some (.string sn) := by rw [← HV.out.1]; exact HG.out.tg.cell 0
           have b1 : wr.cell? ⟨p, 1, none⟩ = some (.int .i64 kd) := by rw [← HV.out.2.1]; exact HG.out.tg.cell 1
           have b2 : wr.cell? ⟨p, 2, none⟩ = some (.int .i64 (ln : Int)) := by rw [← HV.out.2.2.1]; exact HG.out.tg.cell 2
           have b3 : wr.cell? ⟨p, 3, none⟩ = some (.slice A0 (y.T.rows 0).length j0) := by rw [← g0]; exact HG.out.tg.cell 3
           have b4 : wr.cell? ⟨p, 4, none⟩ = some (.slice A1 (y.T.rows 1).length j1) := by rw [← g1]; exact HG.out.tg.cell 4
           have b5 : wr.cell? ⟨p, 5, none⟩ = some (.slice A2' (y.T.rows 2).length j2) := by rw [← g2]; exact HG.out.tg.cell 5
           have b6 : wr.cell? ⟨p, 6, none⟩ = some (.slice A3 (y.T.rows 3).length j3) := by rw [← g3]; exact HG.out.tg.cell 6
           have b7 : wr.cell? ⟨p, 7, none⟩ = some (.int .i64 co) := by rw [← HV.out.2.2.2.1]; exact HG.out.tg.cell 7
           have b8 : wr.cell? ⟨p, 8, none⟩ = some (.int .i64 rt) := by rw [← HV.out.2.2.2.2.1]; exact HG.out.tg.cell 8
           obtain ⟨⟨c0, cf0⟩, ⟨c1, cf1⟩, ⟨c2, cf2⟩, ⟨c3, cf3⟩, ⟨c4, cf4⟩, ⟨c5, cf5⟩, ⟨c6, cf6⟩, ⟨c7, cf7⟩, ⟨c8, cf8⟩, FE⟩ := store9 (show Full wr r 50 [.string ⟨#[]⟩, .int .i64 0, .int .i64 0, .slice none 0 0, .slice none 0 0, .slice none 0 0, .slice none 0 0, .int .i64 0, .int .i64 0] from HZ.out) (.string sn) (.int .i64 kd) (.int .i64 (ln : Int)) (.slice A0 (y.T.rows 0).length j0) (.slice A1 (y.T.rows 1).length j1) (.slice A2' (y.T.rows 2).length j2) (.slice A3 (y.T.rows 3).length j3) (.int .i64 co) (.int .i64 rt)
           have HFE := Lib.hid FE
           have HFIN := Lib.hid (HG.out.fin HZ.out (by have := HRR.out; omega) (Turn.set9r wr r (.string sn) (.int .i64 kd) (.int .i64 (ln : Int)) (.slice A0 (y.T.rows 0).length j0) (.slice A1 (y.T.rows 1).length j1) (.slice A2' (y.T.rows 2).length j2) (.slice A3 (y.T.rows 3).length j3) (.int .i64 co) (.int .i64 rt)))
           have HGG := Lib.hid (And.intro g0 (And.intro g1 (And.intro g2 g3)))
           clear FE g0 g1 g2 g3
           go_wp2
           obtain ⟨wz, hwz⟩ : ∃ wz, (((((((((wr.setCell ⟨r, 0, none⟩ (.string sn)).setCell ⟨r, 1, none⟩ (.int .i64 kd)).setCell ⟨r, 2, none⟩ (.int .i64 (ln : Int))).setCell ⟨r, 3, none⟩ (.slice A0 (y.T.rows 0).length j0)).setCell ⟨r, 4, none⟩ (.slice A1 (y.T.rows 1).length j1)).setCell ⟨r, 5, none⟩ (.slice A2' (y.T.rows 2).length j2)).setCell ⟨r, 6, none⟩ (.slice A3 (y.T.rows 3).length j3)).setCell ⟨r, 7, none⟩ (.int .i64 co)).setCell ⟨r, 8, none⟩ (.int .i64 rt)) = wz := ⟨_, rfl⟩
           have hend := HFIN.out
           have FE := HFE.out
           rw [hwz] at hend FE ⊢
           have q0 := FE.cell 0
           have q1 := FE.cell 1
           have q2 := FE.cell 2
           have q3 := FE.cell 3
           have q4 := FE.cell 4
           have q5 := FE.cell 5
           have q6 := FE.cell 6
           have q7 := FE.cell 7
           have q8 := FE.cell 8
           dsimp only [List.getElem?_cons_zero, List.getElem?_cons_succ] at q0 q1 q2 q3 q4 q5 q6 q7 q8
           refine bodyPost_ret (v := .agg #[.string sn, .int .i64 kd, .int .i64 (ln : Int), .slice A0 (y.T.rows 0).length j0, .slice A1 (y.T.rows 1).length j1, .slice A2' (y.T.rows 2).length j2, .slice A3 (y.T.rows 3).length j3, .int .i64 co, .int .i64 rt]) (by simp [results, Tryz.results49, go_sem, q0, q1, q2, q3, q4, q5, q6, q7, q8]) rfl ?_
           refine ⟨vs, ?_, ?_, hend.2.1, hend.2.2⟩
           · unfold tgtV
             try dsimp only
             rw [HV.out.1, HV.out.2.1, HV.out.2.2.1, HV.out.2.2.2.1, HV.out.2.2.2.2.1, HGG.out.1, HGG.out.2.1, HGG.out.2.2.1, HGG.out.2.2.2]
           · rw [HCK.out]; exact hend.1
         · have p1 : decide (rt > 0) = false := decide_eq_false z1
           clear z1
           go_upto_region 48 with fail
           clear b1' b8'
           obtain ⟨A0, j0, g0⟩ := own_form (HG.out.rows.own 0 (by decide))
           obtain ⟨A1, j1, g1⟩ := own_form (HG.out.rows.own 1 (by decide))
           obtain ⟨A2', j2, g2⟩ := own_form (HG.out.rows.own 2 (by decide))
           obtain ⟨A3, j3, g3⟩ := own_form (HG.out.rows.own 3 (by decide))
           try dsimp only at g0 g1 g2 g3
           have b0 : wr.cell? ⟨p, 0, none⟩ = some (.string sn) := by rw [← HV.out.1]; exact HG.out.tg.cell 0
           have b1 : wr.cell? ⟨p, 1, none⟩ = some (.int .i64 kd) := by rw [← HV.out.2.1]; exact HG.out.tg.cell 1
           have b2 : wr.cell? ⟨p, 2, none⟩ = some (.int .i64 (ln : Int)) := by rw [← HV.out.2.2.1]; exact HG.out.tg.cell 2
           have b3 : wr.cell? ⟨p, 3, none⟩ = some (.slice A0 (y.T.rows 0).length j0) := by rw [← g0]; exact HG.out.tg.cell 3
           have b4 : wr.cell? ⟨p, 4, none⟩ = some (.slice A1 (y.T.rows 1).length j1) := by rw [← g1]; exact HG.out.tg.cell 4
           have b5 : wr.cell? ⟨p, 5, none⟩ = some (.slice A2' (y.T.rows 2).length j2) := by rw [← g2]; exact HG.out.tg.cell 5
           have b6 : wr.cell? ⟨p, 6, none⟩ = some (.slice A3 (y.T.rows 3).length j3) := by rw [← g3]; exact HG.out.tg.cell 6
           have b7 : wr.cell? ⟨p, 7, none⟩ = some (.int .i64 co) := by rw [← HV.out.2.2.2.1]; exact HG.out.tg.cell 7
           have b8 : wr.cell? ⟨p, 8, none⟩ = some (.int .i64 rt) := by rw [← HV.out.2.2.2.2.1]; exact HG.out.tg.cell 8
           obtain ⟨⟨c0, cf0⟩, ⟨c1, cf1⟩, ⟨c2, cf2⟩, ⟨c3, cf3⟩, ⟨c4, cf4⟩, ⟨c5, cf5⟩, ⟨c6, cf6⟩, ⟨c7, cf7⟩, ⟨c8, cf8⟩, FE⟩ := store9 (show Full wr r 50 [.string ⟨#[]⟩, .int .i64 0, .int .i64 0, .slice none 0 0, .slice none 0 0, .slice none 0 0, .slice none 0 0, .int .i64 0, .int .i64 0] from HZ.out) (.string sn) (.int .i64 kd) (.int .i64 (ln : Int)) (.slice A0 (y.T.rows 0).length j0) (.slice A1 (y.T.rows 1).length j1) (.slice A2' (y.T.rows 2).length j2) (.slice A3 (y.T.rows 3).length j3) (.int .i64 co) (.int .i64 rt)
           have HFE := Lib.hid FE
           have HFIN := Lib.hid (HG.out.fin HZ.out (by have := HRR.out; omega) (Turn.set9r wr r (.string sn) (.int .i64 kd) (.int .i64 (ln : Int)) (.slice A0 (y.T.rows 0).length j0) (.slice A1 (y.T.rows 1).length j1) (.slice A2' (y.T.rows 2).length j2) (.slice A3 (y.T.rows 3).length j3) (.int .i64 co) (.int .i64 rt)))
           have HGG := Lib.hid (And.intro g0 (And.intro g1 (And.intro g2 g3)))
           clear FE g0 g1 g2 g3
           go_wp2
           obtain ⟨wz, hwz⟩ : ∃ wz, (((((((((wr.setCell ⟨r, 0, none⟩ (.string sn)).setCell ⟨r, 1, none⟩ (.int .i64 kd)).setCell ⟨r, 2, none⟩ (.int .i64 (ln : Int))).setCell ⟨r, 3, none⟩ (.slice A0 (y.T.rows 0).length j0)).setCell ⟨r, 4, none⟩ (.slice A1 (y.T.rows 1).length j1)).setCell ⟨r, 5, none⟩ (.slice A2' (y.T.rows 2).length j2)).setCell ⟨r, 6, none⟩ (.slice A3 (y.T.rows 3).length j3)).setCell ⟨r, 7, none⟩ (.int .i64 co)).setCell ⟨r, 8, none⟩ (.int .i64 rt)) = wz := ⟨_, rfl⟩
           have hend := HFIN.out
           have FE := HFE.out
           rw [hwz] at hend FE ⊢
           have q0 := FE.cell 0
           have q1 := FE.cell 1
           have q2 := FE.cell 2
           have q3 := FE.cell 3
           have q4 := FE.cell 4
           have q5 := FE.cell 5
           have q6 := FE.cell 6
           have q7 := FE.cell 7
           have q8 := FE.cell 8
           dsimp only [List.getElem?_cons_zero, List.getElem?_cons_succ] at q0 q1 q2 q3 q4 q5 q6 q7 q8
           refine bodyPost_ret (v := .agg #[.string sn, .int .i64 kd, .int .i64 (ln : Int), .slice A0 (y.T.rows 0).length j0, .slice A1 (y.T.rows 1).length j1, .slice A2' (y.T.rows 2).length j2, .slice A3 (y.T.rows 3).length j3, .int .i64 co, .int .i64 rt]) (by simp [results, Tryz.results49, go_sem, q0, q1, q2, q3, q4, q5, q6, q7, q8]) rfl ?_
           refine ⟨vs, ?_, ?_, hend.2.1, hend.2.2⟩
           · unfold tgtV
             try dsimp only
             rw [HV.out.1, HV.out.2.1, HV.out.2.2.1, HV.out.2.2.2.1, HV.out.2.2.2.2.1, HGG.out.1, HGG.out.2.1, HGG.out.2.2.1, HGG.out.2.2.2]
           · rw [HCK.out]; exact hend.1
structure RP (w0 : World) (bs b q r : Nat) (A : Option Addr) (c : Nat) (l : List RTok) (Vp : Value) (pl : List Itm) (W : World) (x : RSt) (tl : List (Tgt × (Nat → Value))) (A' : Option Addr) (n c' : Nat) : Prop where
 rs : RS W bs b A c l x
 fq : Full W q 28 [Vp, .slice A' n c']
 fr : Full W r 28 [.slice none 0 0, .slice none 0 0]
 tg : W.ownsRow w0.heap.size 50 9 (.slice A' n c') n (tgtsC tl)
 ln : n = tl.length
 rows : ∀ p ∈ tl, TG W w0.heap.size p
 pl_ : W.ownsRow w0.heap.size 52 4 Vp pl.length (itmsC pl)
 tn : Turn (fun _ => False) w0 W
 lb : w0.heap.size ≤ b
 lq : w0.heap.size ≤ q
 lr : w0.heap.size ≤ r
 bq : b ≠ q
 br : b ≠ r
 qr : q ≠ r
section
variable {w0 : World} {bs b q r : Nat} {A : Option Addr} {c : Nat} {l : List RTok} {Vp : Value} {pl : List Itm} {W W' : World} {x x' : RSt} {tl : List (Tgt × (Nat → Value))} {A' : Option Addr} {n c' : Nat}
theorem RP.call (h : RP w0 bs b q r A c l Vp pl W x tl A' n c') (hr : RS W' bs b A c l x') (t : Turn (fun g => g = b) W W') : RP w0 bs b q r A c l Vp pl W' x' tl A' n c' :=
 ⟨hr, t.far h.fq (fun e => h.bq e.symm), t.far h.fr (fun e => h.br e.symm), own_off h.tg t (own_full_ne h.tg h.rs.fu (by decide)), h.ln, fun p hp i hi => own_off (h.rows p hp i hi) t (own_full_ne (h.rows p hp i hi) h.rs.fu (by decide)), own_off h.pl_ t (own_full_ne h.pl_ h.rs.fu (by decide)),
   h.tn.late t (fun g e => .inr (by rw [e]; exact h.lb)), h.lb, h.lq, h.lr, h.bq, h.br, h.qr⟩
theorem RP.on (h : RP w0 bs b q r A c l Vp pl W x tl A' n c') (hb : Below W.heap.size W W') : RP w0 bs b q r A c l Vp pl W' x tl A' n c' := h.call (h.rs.on hb) (Turn.of hb)
theorem RP.drew (h : RP w0 bs b q r A c l Vp pl W x tl A' n c') : RP w0 bs b q r A c l Vp pl W.drew x tl A' n c' := h.on (Below.drew (Below.refl _ W))
theorem RP.plats (h : RP w0 bs b q r A c l (.slice none 0 0) [] W x [] none 0 0) {Ap : Option Addr} {np cp : Nat} {pm : List Itm} (k : RI W bs b W.heap.size A c l (.slice none 0 0) W' x' Ap np cp pm) :
   (W'.cell? ⟨q, 0, none⟩ = some (.slice none 0 0) ∧ W'.frozen? ⟨q, 0, none⟩ = false) ∧ RP w0 bs b q r A c l (.slice Ap np cp) pm (W'.setCell ⟨q, 0, none⟩ (.slice Ap np cp)) x' [] none 0 0 := by
 have t : Turn (fun g => g = b) W W' := k.tn.mono fun g e => e.elim id (fun e => by simp [Value.ownBlock] at e)
 have h2 := h.call k.rs t
 have ts : Turn (fun g => g = q) W' (W'.setCell ⟨q, 0, none⟩ (.slice Ap np cp)) := Turn.set_ (F := fun g => g = q) (a := ⟨q, 0, none⟩) rfl _
 have kr := k.row
 have kl := k.len
 subst kl
 refine ⟨⟨h2.fq.cell 0, h2.fq.frozen 0⟩, ⟨h2.rs.keep ts h2.bq (own_full_ne h2.rs.ow h2.fq (by decide)), h2.fq.set_ 0 _, ts.far h2.fr (fun e => h2.qr e.symm), ⟨rfl, .inl ⟨rfl, rfl⟩⟩, rfl, fun p hp => (by cases hp), ?_, h2.tn.late ts (fun g e => .inr (by rw [e]; exact h2.lq)), h2.lb, h2.lq, h2.lr, h2.bq, h2.br, h2.qr⟩⟩
 exact own_base (own_off kr ts (own_full_ne kr h2.fq (by decide))) h.tn.size
theorem RP.grow (h : RP w0 bs b q r A c l Vp pl W x tl A' n c') {T : Tgt} {vs : Nat → Value} (hr : RS W' bs b A c l x') (hR : Rows4 W' W.heap.size T.rows vs) (t : Turn (fun g => g = b) W W') (hn : n ≤ 8589934592)
   (y0 y1 y2 y3 y4 y5 y6 y7 y8 : Value) (hy : tgtC (T, vs) = [y0, y1, y2, y3, y4, y5, y6, y7, y8]) :
   ∃ g3 c3 w3, (Builtin.append_ #[26, 26] 26 #[.slice A' n c', .slice (some ⟨W'.heap.size, 0, none⟩) 1 1]).run Tryz.prog (W'.alloc (.cells #[y0, y1, y2, y3, y4, y5, y6, y7, y8] 50)) = .ok (.slice (some ⟨g3, 0, none⟩) (n + 1) c3) w3 ∧
     (w3.cell? ⟨q, 1, none⟩ = some (.slice A' n c') ∧ w3.frozen? ⟨q, 1, none⟩ = false) ∧
     RP w0 bs b q r A c l Vp pl (w3.setCell ⟨q, 1, none⟩ (.slice (some ⟨g3, 0, none⟩) (n + 1) c3)) x' (tl ++ [(T, vs)]) (some ⟨g3, 0, none⟩) (n + 1) c3 := by
 have h2 := h.call hr t
 obtain ⟨g3, c3, w3, hap, hO3, hG⟩ := tgt_append h2.tg hn h2.tn.size y0 y1 y2 y3 y4 y5 y6 y7 y8 (by
  rw [← hy]
  intro u hu
  simp [tgtC] at hu
  rcases hu with rfl | rfl | rfl | rfl | rfl | rfl | rfl | rfl | rfl
  · rfl
  · rfl
  · rfl
  · obtain ⟨_, _, e⟩ := own_form (hR.own 0 (by decide)); rw [e]; rfl
  · obtain ⟨_, _, e⟩ := own_form (hR.own 1 (by decide)); rw [e]; rfl
  · obtain ⟨_, _, e⟩ := own_form (hR.own 2 (by decide)); rw [e]; rfl
  · obtain ⟨_, _, e⟩ := own_form (hR.own 3 (by decide)); rw [e]; rfl
  · rfl
  · rfl)
 refine ⟨g3, c3, w3, hap, ?_⟩
 have hba : Below W'.heap.size W' (W'.alloc (.cells #[y0, y1, y2, y3, y4, y5, y6, y7, y8] 50)) := (Below.refl _ W').alloc (Nat.le_refl _) _
 obtain ⟨wa, hwa⟩ : ∃ wa, W'.alloc (.cells #[y0, y1, y2, y3, y4, y5, y6, y7, y8] 50) = wa := ⟨_, rfl⟩
 rw [hwa] at hba hG
 have ha := h2.on hba
 have tg : Turn (fun g => (Value.slice A' n c').ownBlock = some g) wa w3 := Turn.grown hG fun g e => .inl e
 have fq3 := tg.far ha.fq (fun e => own_full_ne ha.tg ha.fq (by decide) q e rfl)
 have ts : Turn (fun g => g = q) w3 (w3.setCell ⟨q, 1, none⟩ (.slice (some ⟨g3, 0, none⟩) (n + 1) c3)) := Turn.set_ (F := fun g => g = q) (a := ⟨q, 1, none⟩) rfl _
 have rs3 : RS w3 bs b A c l x' := ha.rs.keep tg (fun e => own_full_ne ha.tg ha.rs.fu (by decide) b e rfl) (fun g e e2 => own_types_ne ha.rs.ow ha.tg (by decide) g e e2)
 have k52 : ∀ {base n1 : Nat} {v : Value} {xs : List Value}, wa.ownsRow base 52 4 v n1 xs → (w3.setCell ⟨q, 1, none⟩ (.slice (some ⟨g3, 0, none⟩) (n + 1) c3)).ownsRow base 52 4 v n1 xs := fun {base n1 v xs} z => by
  have z3 := own_off z tg (fun g e e2 => own_types_ne z ha.tg (by decide) g e e2)
  exact own_off z3 ts (own_full_ne z3 fq3 (by decide))
 refine ⟨⟨fq3.cell 1, fq3.frozen 1⟩, ⟨rs3.keep ts h2.bq (own_full_ne rs3.ow fq3 (by decide)), fq3.set_ 1 _, ts.far (tg.far ha.fr (fun e => own_full_ne ha.tg ha.fr (by decide) r e rfl)) (fun e => h2.qr e.symm), ?_, by rw [List.length_append, h.ln]; rfl, ?_, k52 ha.pl_, ?_, h.lb, h.lq, h.lr, h.bq, h.br, h.qr⟩⟩
 · rw [tgtsC_snoc, hy]
   exact own_off hO3 ts (own_full_ne hO3 fq3 (by decide))
 · intro p hp
   rcases List.mem_append.1 hp with hp | hp
   · exact fun i hi => k52 (ha.rows p hp i hi)
   · obtain rfl : p = (T, vs) := by simpa using hp
     exact fun i hi => k52 (own_keep (own_base (hR.own i hi) h.tn.size) hba)
 · exact (ha.tn.late tg (fun g e => .inr (row_ge ha.tg g e))).late ts fun g e => .inr (by rw [e]; exact h.lq)
theorem RP.build (h : RP w0 bs b q r A c l Vp pl W x tl A' n c') {F : Nat → Prop} (t : Turn F W W') (hF : ∀ g, F g → g = r) : BuildAt W' w0.heap.size (.agg #[Vp, .slice A' n c']) pl (tl.map Prod.fst) := by
 have e52 : ∀ {n1 : Nat} {v : Value} {xs : List Value}, W.ownsRow w0.heap.size 52 4 v n1 xs → W'.ownsRow w0.heap.size 52 4 v n1 xs := fun {n1 v xs} z => own_off z t (fun g e e2 => own_full_ne z h.fr (by decide) g e (hF g e2))
 exact ⟨Vp, A', n, c', tl, rfl, own_off h.tg t (fun g e e2 => own_full_ne h.tg h.fr (by decide) g e (hF g e2)), h.ln, rfl, fun p hp i hi => e52 (h.rows p hp i hi), e52 h.pl_⟩
end
theorem rTgtF_at {l : List RTok} {line : Nat} {bf : List (List UInt8)} {x : RSt} (h : (rTgtF l line bf x).2.e = 0) : x.e = 0 ∧ x.at_ ≤ (rTgtF l line bf x).2.at_ := by
 have loop : ∀ (f : Nat) (y : RTg), (rLoop l f y).x.e = 0 → y.x.e = 0 ∧ y.x.at_ ≤ (rLoop l f y).x.at_ := by
  intro f
  induction f with
  | zero => intro y h; exact ⟨h, Nat.le_refl _⟩
  | succ f ih =>
   intro y h
   rw [rLoop] at h ⊢
   by_cases e0 : y.x.e = 0
   · rw [if_pos e0] at h ⊢
     by_cases hd : (rTake 4 [125] l y.x).1 = true
     · rw [if_pos hd] at h ⊢
       exact ⟨e0, rTake_le _ _ _ _⟩
     · rw [if_neg hd] at h ⊢
       obtain ⟨i1, i2⟩ := ih _ h
       obtain ⟨j1, j2⟩ := rRound_e0 i1
       have := rTake_le 4 [125] l y.x
       dsimp only at j2
       exact ⟨e0, by omega⟩
   · rw [if_neg e0] at h
     exact absurd h e0
 unfold rTgtF at h ⊢
 dsimp only at h ⊢
 have h1 : (rBody l line bf x).x.e = 0 ∧ (rCheck (rBody l line bf x)).at_ = (rBody l line bf x).x.at_ := by
  unfold rCheck at h ⊢
  split at h
  · exact absurd h (rFail_e (by decide))
  · rename_i q; rw [if_neg q]; exact ⟨h, rfl⟩
 rw [h1.2]
 unfold rBody at h1 ⊢
 obtain ⟨l1, l2⟩ := loop _ _ h1.1
 have n1 := rNeed_e0 l1
 have n2 := rNeed_le 4 [123] l (rDup bf (rAny 1 l x).1 (rAny 1 l x).2)
 rw [rDup_at] at n2
 have d0 : (rAny 1 l x).2.e = 0 := by
  unfold rDup at n1
  split at n1
  · exact absurd n1 (rFail_e (by decide))
  · exact n1
 obtain ⟨a1, a2⟩ := rAny_e0 d0
 dsimp only at l2
 exact ⟨a1, by omega⟩
def RParseOut (w : World) (r : (List Itm × List Tgt) × (Int × Int)) (en : Ending) (w' : World) : Prop :=
 ∃ v, en = .returned (.tuple #[v, .int .i64 r.2.1, .int .i64 r.2.2]) ∧ BuildAt w' w.heap.size v r.1.1 r.1.2 ∧ Turn (fun _ => False) w w'
set_option maxHeartbeats 32000000 in
theorem rparse_any {w : World} (s : ByteArray) (hs : s.size ≤ 4294967000) : Calls Tryz.prog 29 #[.string s] w (RParseOut w (rParse (rToks s.data.toList 1))) := by
 unfold RParseOut
 have hsl := data_len s
 obtain ⟨l, hl⟩ : ∃ l, rToks s.data.toList 1 = l := ⟨_, rfl⟩
 have hlok : LOk l := by rw [← hl]; exact rToks_lok _ _
 have hdig : LDig l := by rw [← hl]; exact rToks_dig _ _ (by omega)
 have hlen : 0 < l.length ∧ l.length ≤ 4294967002 := by
  have := rToks_len s.data.toList 1
  rw [hl] at this
  omega
 obtain ⟨res, hres⟩ : ∃ x, rParse l = x := ⟨_, rfl⟩
 rw [hl, hres]
 unfold rParse rAll at hres
 obtain ⟨⟨pH, xH⟩, hH⟩ : ∃ x, rHead l = x := ⟨_, rfl⟩
 rw [hH] at hres
 dsimp only at hres
 obtain ⟨⟨LA, LX⟩, hL⟩ : ∃ x, rTgts l (l.length + 1) [] xH = x := ⟨_, rfl⟩
 rw [hL] at hres
 dsimp only at hres
 obtain ⟨w1, hw1⟩ : ∃ w1, w.alloc (.cells #[.slice none 0 0, .slice none 0 0] 28) = w1 := ⟨_, rfl⟩
 have hb1 : Below w.heap.size w w1 := by rw [← hw1]; exact (Below.refl _ w).alloc (Nat.le_refl _) _
 have F1 : Full w1 w.heap.size 28 [.slice none 0 0, .slice none 0 0] := by rw [← hw1]; exact Full.new w 28 _
 have TK := tokens_any s hs w1
 unfold TokensOut at TK
 rw [hl] at TK
 have HTO := Lib.hid TK
 obtain ⟨r, hr⟩ : ∃ r, w.heap.size = r := ⟨_, rfl⟩
 rw [hr] at F1
 have HF1 := Lib.hid F1
 have HB1 := Lib.hid hb1
 have HRR := Lib.hid hr
 have HRES := Lib.hid hres
 have HHD := Lib.hid hH
 have HLL := Lib.hid hL
 have HOK := Lib.hid hlok
 have HDG := Lib.hid hdig
 obtain ⟨hlp, hlm⟩ := hlen
 clear TK F1 hb1 hres hH hL hlok hdig hl hs hsl
 go_enter Tryz.func29, Tryz.ntmps29
 go_upto_region 2 with (first
   | (go_at_call 34; ((with_reducible refine HTO.out.mono ?_); rintro en w2 ⟨A, c, rfl, hO2, hb2⟩; (have HO2 := Lib.hid hO2); (have HB2 := Lib.hid hb2); clear hO2 hb2))
   | (fail "arm"))
 clear hr hw1
 obtain ⟨w3, hw3⟩ : ∃ w3, w2.alloc (.cells #[.slice A l.length c, .int .i64 0, .int .i64 0, .int .i64 0] 100) = w3 := ⟨_, rfl⟩
 have hb3 : Below w2.heap.size w2 w3 := by rw [← hw3]; exact (Below.refl _ w2).alloc (Nat.le_refl _) _
 have F3 : Full w3 w2.heap.size 100 [.slice A l.length c, .int .i64 0, .int .i64 0, .int .i64 0] := by rw [← hw3]; exact Full.new w2 100 _
 obtain ⟨b, hb⟩ : ∃ b, w2.heap.size = b := ⟨_, rfl⟩
 rw [hb] at F3
 have hrb : r < b := by rw [← hb]; exact (HF1.out.on HB2.out).lt
 rw [hw3, hb]
 go_upto_region 3 with fail
 obtain ⟨w4, hw4⟩ : ∃ w4, w3.alloc (.cells #[.slice none 0 0, .slice none 0 0] 28) = w4 := ⟨_, rfl⟩
 have hb4 : Below w3.heap.size w3 w4 := by rw [← hw4]; exact (Below.refl _ w3).alloc (Nat.le_refl _) _
 have F4 : Full w4 w3.heap.size 28 [.slice none 0 0, .slice none 0 0] := by rw [← hw4]; exact Full.new w3 28 _
 obtain ⟨q, hq⟩ : ∃ q, w3.heap.size = q := ⟨_, rfl⟩
 rw [hq] at F4
 have hbq : b < q := by rw [← hq]; exact F3.lt
 obtain ⟨bs, hbs⟩ : ∃ x, w1.heap.size = x := ⟨_, rfl⟩
 have HP4 := Lib.hid (show RP w bs b q r A c l (.slice none 0 0) [] w4 ⟨0, 0, 0⟩ [] none 0 0 from by
  have fr := ((HF1.out.on HB2.out).on hb3).on hb4
  have t : Turn (fun _ => False) w w4 := (((Turn.of HB1.out).trans_ (Turn.of HB2.out)).trans_ (Turn.of hb3)).trans_ (Turn.of hb4)
  have hrr := HRR.out
  refine ⟨⟨F3.on hb4, ?_, hlp, hlm⟩, F4, fr, ⟨rfl, .inl ⟨rfl, rfl⟩⟩, rfl, fun p hp => (by cases hp), ⟨rfl, .inl ⟨rfl, rfl⟩⟩, t, by omega, by omega, by omega, by omega, by omega, by omega⟩
  have z := own_keep (own_keep HO2.out hb3) hb4
  rw [hbs] at z
  exact z)
 have HTP := Lib.hid (by
  have z := rtake_any HP4.out.rs HOK.out 1 (by decide) (by decide) wPlats
  unfold RdOut at z
  exact z : Calls Tryz.prog 46 #[.pointer (some ⟨b, 0, none⟩), .int .i64 1, .string ⟨#[112, 108, 97, 116, 102, 111, 114, 109, 115]⟩] w4 (fun en w' => en = .returned (.bool (rTake 1 wPlats l ⟨0, 0, 0⟩).1) ∧ RS w' bs b A c l (rTake 1 wPlats l ⟨0, 0, 0⟩).2 ∧ Turn (fun g => g = b) w4 w'))
 rw [hw4, hq]
 clear hw3 hb hb3 F3 hw4 hb4 F4 hq hbs HO2 HB2 HF1 HB1 HTO
 go_upto_region 4 with (first
   | (go_at_call 46; ((with_reducible refine HTP.out.mono ?_); rintro en w5 ⟨rfl, h5, ht5⟩; (have HP5 := Lib.hid (HP4.out.call h5 ht5)); clear h5 ht5))
   | (fail "arm"))
 obtain ⟨bp, hbp⟩ : ∃ z, (rTake 1 wPlats l ⟨0, 0, 0⟩).1 = z := ⟨_, rfl⟩
 rw [hbp]
 have HBP := Lib.hid hbp
 clear hbp HTP HP4
 go_upto_if 15 with fail
 go_cut [] from 16 to 18 (fun wx => ∃ Vp, Hid (RP w bs b q r A c l Vp pH wx xH [] none 0 0))
 case first =>
  have hH := HHD.out
  unfold rHead at hH
  rw [HBP.out] at hH
  cases bp with
  | false =>
   rw [if_neg Bool.false_ne_true] at hH
   injection hH with e1 e2
   subst e1
   subst e2
   go_wp2
   go_meet
   exact ⟨_, HP5⟩
  | true =>
   rw [if_pos rfl] at hH
   have HPL := Lib.hid (rplats_any HP5.out.rs HOK.out (by omega))
   rw [hH] at HPL
   dsimp only at HPL
   clear hH
   go_wp2_with (first
     | (go_at_call 47; ((with_reducible refine HPL.out.mono ?_); rintro en w6 ⟨Ap, np, cp, rfl, hk⟩; (obtain ⟨⟨qc, qf⟩, hp6⟩ := HP5.out.plats hk); (have HP6 := Lib.hid hp6); clear hk hp6))
     | (fail "arm"))
   go_meet
   exact ⟨_, HP6⟩
 case rest =>
  obtain ⟨Vp, HP6⟩ := hcut
  clear HP5 HBP HHD
  go_upto_region 6 with fail
  go_loopw [8] (fun _ wr => ∃ (f : Nat) (x' : RSt) (tl : List (Tgt × (Nat → Value))) (A' : Option Addr) (n c' : Nat), Hid (RP w bs b q r A c l Vp pH wr x' tl A' n c') ∧ Hid (rTgts l f (tl.map Prod.fst) x' = (LA, LX)) ∧ Hid (x'.e = 0 → l.length < f + x'.at_ ∧ n ≤ x'.at_)) (fun _ wr => rmeas b l.length wr)
  case atStart => exact ⟨l.length + 1, xH, [], none, 0, 0, HP6, HLL, Lib.hid (fun _ => ⟨by omega, Nat.zero_le _⟩)⟩
  case round =>
   obtain ⟨f, x', tl, A', n, c', HP, HT, HF⟩ := hrel
   clear HP6 HLL
   obtain ⟨ad, rfl, t0, t1, t2⟩ := HP.out.rs.tok
   have hh := hdT_eq HP.out.rs.lt
   obtain ⟨tk, htk⟩ : ∃ t, l[x'.at_]'HP.out.rs.lt = t := ⟨_, rfl⟩
   rw [htk] at t0 t1 t2 hh
   obtain ⟨kt, hkt⟩ : ∃ X, tk.kd = X := ⟨_, rfl⟩
   obtain ⟨tln, htl⟩ : ∃ X : Nat, tk.ln = X := ⟨_, rfl⟩
   rw [hkt] at t0
   rw [htl] at t2
   obtain ⟨e, he⟩ : ∃ e, x'.e = e := ⟨_, rfl⟩
   have k0 : wr.cell? ⟨b, 0, none⟩ = some (.slice (some ad) l.length c) := HP.out.rs.fu.cell 0
   have k1 : wr.cell? ⟨b, 1, none⟩ = some (.int .i64 (x'.at_ : Int)) := HP.out.rs.fu.cell 1
   have k2 : wr.cell? ⟨b, 2, none⟩ = some (.int .i64 e) := by rw [← he]; exact HP.out.rs.fu.cell 2
   have hlt := HP.out.rs.lt
   have hcap := HP.out.rs.cap
   obtain ⟨ka, hka⟩ : ∃ k : Nat, x'.at_ = k := ⟨_, rfl⟩
   rw [hka] at k1 t0 t2 hlt
   have i0 : (0 : Int) ≤ (ka : Int) := Int.natCast_nonneg _
   have i1 : (ka : Int) < (l.length : Int) := by omega
   have HKD := Lib.hid (show (hdT l x'.at_).kd = kt ∧ (hdT l x'.at_).ln = tln by rw [hh]; exact ⟨hkt, htl⟩)
   have HKA := Lib.hid hka
   clear t1 hh htk hkt htl hka
   by_cases e0 : e = 0
   · have q1 : (e == 0) = true := by rw [e0]; rfl
     have he0 := he.trans e0
     obtain ⟨f, rfl⟩ : ∃ k, f = k + 1 := ⟨f - 1, by have := (HF.out he0).1; have := HP.out.rs.lt; omega⟩
     by_cases hk0 : kt = 0
     · have q2 : (kt != 0) = false := by rw [hk0]; rfl
       have hT := HT.out
       rw [rTgts, if_neg (fun z => z.2 (HKD.out.1.trans hk0))] at hT
       injection hT with a1 a2
       subst a1
       subst a2
       clear HT HF HKD HKA
       go_upto_region 6 with fail
       go_quiet (fail)
       have HPd := Lib.hid (show ∀ nq, RP w bs b q r (some ad) c l Vp pH (wr.drewN nq) x' tl A' n c' from fun nq => HP.out.on (Below.drewN_ (Below.refl _ _) _))
       have HE0 := Lib.hid he0
       have q3 : (e != 0) = false := by rw [e0]; rfl
       clear e0 q1 q2 hk0 he0 t0 t2 k0 k1
       go_upto_region 13 with fail
       obtain ⟨wd, hwd⟩ : ∃ z, wr.drewN nq = z := ⟨_, rfl⟩
       have HPe := Lib.hid (show RP w bs b q r (some ad) c l Vp pH wd x' tl A' n c' by rw [← hwd]; exact HP.out.on (Below.drewN_ (Below.refl _ _) _))
       rw [hwd]
       clear hwd HPd
       obtain ⟨Ap, kp, gp⟩ := own_form HPe.out.pl_
       subst gp
       have x0 := HPe.out.fq.cell 0
       have x1 := HPe.out.fq.cell 1
       have y0 := HPe.out.fr.cell 0
       have yf := HPe.out.fr.frozen 0
       dsimp only [List.getElem?_cons_zero, List.getElem?_cons_succ] at x0 x1 y0
       have z1 := (HPe.out.fr.set_ 0 (.slice Ap pH.length kp)).cell 1
       dsimp only [List.set_cons_zero, List.getElem?_cons_zero, List.getElem?_cons_succ] at z1
       have z2 := (HPe.out.fr.set_ 0 (.slice Ap pH.length kp)).frozen 1
       have F7 := (HPe.out.fr.set_ 0 (.slice Ap pH.length kp)).set_ 1 (.slice A' n c')
       have hTs : Turn (fun g => g = r) wd ((wd.setCell ⟨r, 0, none⟩ (.slice Ap pH.length kp)).setCell ⟨r, 1, none⟩ (.slice A' n c')) := ((Turn.refl (fun g => g = r) wd).setb rfl 0 _).setb rfl 1 _
       have HO := Lib.hid (show Full ((wd.setCell ⟨r, 0, none⟩ (.slice Ap pH.length kp)).setCell ⟨r, 1, none⟩ (.slice A' n c')) r 28 [.slice Ap pH.length kp, .slice A' n c'] ∧ BuildAt ((wd.setCell ⟨r, 0, none⟩ (.slice Ap pH.length kp)).setCell ⟨r, 1, none⟩ (.slice A' n c')) w.heap.size (.agg #[.slice Ap pH.length kp, .slice A' n c']) pH (tl.map Prod.fst) ∧ Turn (fun _ => False) w ((wd.setCell ⟨r, 0, none⟩ (.slice Ap pH.length kp)).setCell ⟨r, 1, none⟩ (.slice A' n c')) from
         ⟨F7, HPe.out.build hTs (fun g e => e), HPe.out.tn.late hTs fun g e => .inr (by rw [e]; exact HPe.out.lr)⟩)
       clear F7 hTs
       go_wp2
       obtain ⟨w8, hw8⟩ : ∃ w8, (wd.setCell ⟨r, 0, none⟩ (.slice Ap pH.length kp)).setCell ⟨r, 1, none⟩ (.slice A' n c') = w8 := ⟨_, rfl⟩
       have ho := HO.out
       rw [hw8] at ho ⊢
       have q0 := ho.1.cell 0
       have q1 := ho.1.cell 1
       dsimp only [List.getElem?_cons_zero, List.getElem?_cons_succ] at q0 q1
       refine bodyPost_ret (v := .tuple #[.agg #[.slice Ap pH.length kp, .slice A' n c'], .int .i64 0, .int .i64 0]) (by simp [results, Tryz.results29, go_sem, q0, q1]) rfl ?_
       rw [← HRES.out, if_pos HE0.out]
       exact ⟨_, rfl, ho.2.1, ho.2.2⟩
     · have q2 : (kt != 0) = true := by simpa using hk0
       have hT := HT.out
       rw [rTgts, if_pos ⟨he0, by rw [HKD.out.1]; exact hk0⟩, HKD.out.2] at hT
       have HND := Lib.hid (fun (W : World) (H : RS W bs b (some ad) c l x') => (by
        have z := rneed_any H HOK.out 1 (by decide) (by decide) wTarget
        unfold RdOut at z
        exact z : Calls Tryz.prog 48 #[.pointer (some ⟨b, 0, none⟩), .int .i64 1, .string ⟨#[116, 97, 114, 103, 101, 116]⟩] W (fun en w' => en = .returned (.tuple #[]) ∧ RS w' bs b (some ad) c l (rNeed 1 wTarget l x') ∧ Turn (fun g => g = b) W w')))
       have HNA := Lib.hid (show (rNeed 1 wTarget l x').e = 0 → x'.at_ + 1 ≤ (rNeed 1 wTarget l x').at_ from fun z => by
        unfold rNeed at z ⊢
        split at z
        · rename_i qq
          rw [if_pos qq, rTake_at, if_pos qq]
          exact Nat.le_refl _
        · exact absurd z (rFail_e (by decide)))
       have HAF := Lib.hid (HF.out he0)
       have HE0 := Lib.hid he0
       obtain ⟨x5, hx5⟩ : ∃ z, rNeed 1 wTarget l x' = z := ⟨_, rfl⟩
       rw [hx5] at HND HNA hT
       obtain ⟨e5, he5⟩ : ∃ z, x5.e = z := ⟨_, rfl⟩
       rw [he5] at hT HNA
       have HT2 := Lib.hid hT
       have HE5 := Lib.hid he5
       clear hT HT HF hx5 he5 he he0 HKD hk0
       go_upto_region 6 with fail
       go_quiet (fail)
       go_upto_region 7 with fail
       go_quiet (fail)
       go_upto_region 9 with (first
         | (go_at_call 48; ((with_reducible refine (HND.out _ (HP.out.on (Below.drewN_ (Below.refl _ _) _)).rs).mono ?_); rintro en w5 ⟨rfl, h5, ht5⟩; (have HP5 := Lib.hid ((HP.out.on (Below.drewN_ (Below.refl _ _) _)).call h5 ht5)); clear h5 ht5))
         | (fail "arm"))
       have k5 : w5.cell? ⟨b, 2, none⟩ = some (.int .i64 e5) := by rw [← HE5.out]; exact HP5.out.rs.fu.cell 2
       have HMS := Lib.hid (fun (W2 : World) (X : RSt) (H2 : RS W2 bs b (some ad) c l X) (hm : X.e = 0 → x'.at_ + 1 ≤ X.at_) => meas_lt HP.out.rs H2 HE0.out hm)
       clear k0 k1 k2 t0 t2 q1 q2 e0 i0 i1
       by_cases e50 : e5 = 0
       · have q5 : (e5 == 0) = true := by rw [e50]; rfl
         have hT := HT2.out
         rw [if_pos e50] at hT
         have hnm : (tl.map Prod.fst).map (·.name) = tl.map (·.1.name) := by rw [List.map_map]; rfl
         rw [hnm] at hT
         have TG_ := rtarget_any HP5.out.rs.drew HOK.out HDG.out tln (own_off HP5.out.tg (Turn.of (F := fun _ => False) (Below.drew (Below.refl _ w5))) (fun g _ e => e)) HP5.out.ln
         have HTA := Lib.hid (fun (z : (rTgtF l tln (tl.map (·.1.name)) x5).2.e = 0) => rTgtF_at z)
         obtain ⟨⟨T7, x7⟩, h7⟩ : ∃ z, rTgtF l tln (tl.map (·.1.name)) x5 = z := ⟨_, rfl⟩
         rw [h7] at TG_ hT HTA
         unfold tgtV at TG_
         dsimp only at TG_ hT HTA
         obtain ⟨y0, hy0⟩ : ∃ z, str T7.name = z := ⟨_, rfl⟩
         rw [hy0] at TG_
         have HTG := Lib.hid TG_
         have HY0 := Lib.hid hy0
         have HT3 := Lib.hid hT
         have HNA2 := Lib.hid (HNA.out e50)
         have hnx : n ≤ 8589934592 := by have := HAF.out.2; have := HP.out.rs.lt; have := HP.out.rs.le; omega
         have HGR := Lib.hid (fun (W' : World) (vs : Nat → Value) (hr : RS W' bs b (some ad) c l x7) (hR : Rows4 W' w5.drew.heap.size T7.rows vs) (t : Turn (fun g => g = b) w5.drew W') => HP5.out.drew.grow hr hR t hnx)
         have HQ8 := Lib.hid (fun (W' : World) (t : Turn (fun g => g = b) w5.drew W') => t.far HP5.out.drew.fq (fun e => HP5.out.bq e.symm))
         have u1 : w5.drew.cell? ⟨q, 1, none⟩ = some (.slice A' n c') := HP5.out.drew.fq.cell 1
         clear hT HT2 h7 TG_ hy0 e50 hnm hnx
         go_upto_region 10 with fail
         go_region_law (first
           | (refine step_call_fn rfl 49 _ _ rfl #[.pointer (some ⟨b, 0, none⟩), .int .i64 (tln : Int), .slice A' n c'] (by rfl) (enters_of Tryz.func49 (by kernel_rfl) rfl) HTG.out ?_; rintro en w8 ⟨vs7, rfl, h8, hR8, hT8⟩; refine ⟨_, rfl, ?_⟩; (obtain ⟨A0, k0, g0⟩ := own_form (hR8.own 0 (by decide))); (obtain ⟨A1, k1, g1⟩ := own_form (hR8.own 1 (by decide))); (obtain ⟨A2, k2, g2⟩ := own_form (hR8.own 2 (by decide))); (obtain ⟨A3, k4, g3⟩ := own_form (hR8.own 3 (by decide))); (have F8 := HQ8.out w8 hT8); (obtain ⟨g9, c9, w9, hap, ⟨z1, z2⟩, hP9⟩ := HGR.out w8 vs7 h8 hR8 hT8 (.string y0) (.int .i64 T7.kind) (.int .i64 (T7.line : Int)) (.slice A0 (T7.rows 0).length k0) (.slice A1 (T7.rows 1).length k1) (.slice A2 (T7.rows 2).length k2) (.slice A3 (T7.rows 3).length k4) (.int .i64 T7.cost) (.int .i64 T7.retry) (by unfold tgtC; rw [HY0.out]; dsimp only; rw [g0, g1, g2, g3])); (rw [g0, g1, g2, g3]); (have k8 : w8.cell? ⟨q, 1, none⟩ = some (.slice A' n c') := F8.cell 1); (have k9 := ((F8.alloc (.cells #[.string y0, .int .i64 T7.kind, .int .i64 (T7.line : Int), .slice A0 (T7.rows 0).length k0, .slice A1 (T7.rows 1).length k1, .slice A2 (T7.rows 2).length k2, .slice A3 (T7.rows 3).length k4, .int .i64 T7.cost, .int .i64 T7.retry] 50)).cell 1)); (dsimp only [List.getElem?_cons_zero, List.getElem?_cons_succ] at k9); (have HP9 := Lib.hid hP9); clear g0 g1 g2 g3 h8 hR8 hT8 F8 hP9)
           | (refine step_append_run rfl _ _ 26 26 rfl (.slice A' n c') (.slice (some ⟨w8.heap.size, 0, none⟩) 1 1) (by simp [Act.eval]) (by simp [Act.eval]) hap ?_))
         all_goals
           go_wp2
           go_roundw
           case rel => exact ⟨f, x7, tl ++ [(T7, vs7)], some ⟨g9, 0, none⟩, n + 1, c9, HP9, Lib.hid (by rw [List.map_append]; exact HT3.out), Lib.hid (fun z => by have := (HTA.out z).2; have := HNA2.out; have := HAF.out.1; have := HAF.out.2; omega)⟩
           case measure => exact HMS.out _ x7 HP9.out.rs (fun z => by have := (HTA.out z).2; have := HNA2.out; omega)
       · have q5 : (e5 == 0) = false := by simpa using e50
         have hT := HT2.out
         rw [if_neg e50] at hT
         have HT3 := Lib.hid hT
         have HE50 := Lib.hid (show x5.e ≠ 0 from fun z => e50 (HE5.out.symm.trans z))
         clear hT HT2 e50
         go_wp2
         go_roundw
         case rel => exact ⟨f, x5, tl, A', n, c', HP5, HT3, Lib.hid (fun z => absurd z HE50.out)⟩
         case measure => exact HMS.out _ x5 HP5.out.rs (fun z => absurd z HE50.out)
   · have q1 : (e == 0) = false := by simpa using e0
     have hT := HT.out
     rw [rTgts_off (fun z => e0 (he.symm.trans z))] at hT
     injection hT with a1 a2
     subst a1
     subst a2
     clear HT HF HKD HKA
     go_upto_region 6 with fail
     go_quiet (fail)
     have q3 : (e != 0) = true := by simpa using e0
     have HE0 := Lib.hid (show x'.e ≠ 0 from fun z => e0 (he.symm.trans z))
     clear e0 q1 t0 t2 k0 k1
     go_upto_region 12 with fail
     obtain ⟨wd, hwd⟩ : ∃ z, wr.drewN nq = z := ⟨_, rfl⟩
     have HPe := Lib.hid (show RP w bs b q r (some ad) c l Vp pH wd x' tl A' n c' by rw [← hwd]; exact HP.out.on (Below.drewN_ (Below.refl _ _) _))
     rw [hwd]
     clear hwd
     obtain ⟨el, hel⟩ : ∃ z, x'.ln = z := ⟨_, rfl⟩
     have y0 := HPe.out.fr.cell 0
     have yf := HPe.out.fr.frozen 0
     dsimp only [List.getElem?_cons_zero, List.getElem?_cons_succ] at y0
     have e6 : wd.cell? ⟨b, 2, none⟩ = some (.int .i64 e) := by rw [← he]; exact HPe.out.rs.fu.cell 2
     have e5 : wd.cell? ⟨b, 3, none⟩ = some (.int .i64 el) := by rw [← hel]; exact HPe.out.rs.fu.cell 3
     have z1 := (HPe.out.fr.set_ 0 (.slice none 0 0)).cell 1
     dsimp only [List.set_cons_zero, List.getElem?_cons_zero, List.getElem?_cons_succ] at z1
     have z2 := (HPe.out.fr.set_ 0 (.slice none 0 0)).frozen 1
     have HO := Lib.hid (show Full ((wd.setCell ⟨r, 0, none⟩ (.slice none 0 0)).setCell ⟨r, 1, none⟩ (.slice none 0 0)) r 28 [.slice none 0 0, .slice none 0 0] ∧ Turn (fun _ => False) w ((wd.setCell ⟨r, 0, none⟩ (.slice none 0 0)).setCell ⟨r, 1, none⟩ (.slice none 0 0)) from
       ⟨(HPe.out.fr.set_ 0 _).set_ 1 _, HPe.out.tn.late (((Turn.refl (fun g => g = r) wd).setb rfl 0 (.slice none 0 0)).setb rfl 1 (.slice none 0 0)) fun g e => .inr (by rw [e]; exact HPe.out.lr)⟩)
     have HEL := Lib.hid (And.intro he hel)
     have hbr2 : ¬ b = r := HPe.out.br
     clear he hel HP k2
     go_region
     go_wp2
     all_goals
       obtain ⟨w8, hw8⟩ : ∃ w8, ((wd.setCell ⟨r, 0, none⟩ (.slice none 0 0)).setCell ⟨r, 1, none⟩ (.slice none 0 0)).drew = w8 := ⟨_, rfl⟩
       have ho : Full w8 r 28 [.slice none 0 0, .slice none 0 0] ∧ Turn (fun _ => False) w w8 := by
        rw [← hw8]
        exact ⟨HO.out.1, HO.out.2.drew⟩
       rw [hw8]
       have q0 := ho.1.cell 0
       have q1 := ho.1.cell 1
       dsimp only [List.getElem?_cons_zero, List.getElem?_cons_succ] at q0 q1
       refine bodyPost_ret (v := .tuple #[.agg #[.slice none 0 0, .slice none 0 0], .int .i64 el, .int .i64 e]) (by simp [results, Tryz.results29, go_sem, q0, q1]) rfl ?_
       rw [← HRES.out, if_neg HE0.out]
       refine ⟨_, ?_, BuildAt.zero w8 _, ho.2⟩
       dsimp only
       rw [HEL.out.1, HEL.out.2]
def modN (x : Int) (m : Nat) : Nat := (x % (m : Int)).toNat
theorem modN_lt {x : Int} {m : Nat} (h : 0 < m) : modN x m < m := by
 unfold modN
 have h1 := Int.emod_nonneg x (show (m : Int) ≠ 0 by omega)
 have h2 := Int.emod_lt_of_pos x (show (0 : Int) < m by omega)
 omega
theorem modN_eq {x : Int} {m : Nat} (h : 0 < m) : (x.tmod m + m).tmod m = (modN x m : Int) := by
 unfold modN
 have h1 := Int.emod_nonneg x (show (m : Int) ≠ 0 by omega)
 have a1 := Int.lt_tmod_of_pos x (b := m) (by omega)
 rw [Int.toNat_of_nonneg h1, Int.tmod_eq_emod_of_nonneg (by omega), Int.add_emod_right]
 rw [Int.tmod_def]
 simp [Int.sub_eq_add_neg, ← Int.mul_neg, Int.add_mul_emod_self_left]
theorem mod_any (x : Int) (m : Nat) (w : World) (h0 : 0 < m) (hm : m ≤ 4294967296) : Calls Tryz.prog 19 #[.int .i64 x, .int .i64 m] w fun e w' => e = .returned (.int .i64 (modN x m : Int)) ∧ w = w' := by
 have h1 := Int.lt_tmod_of_pos x (b := m) (by omega)
 have h2 := Int.tmod_lt_of_pos x (b := m) (by omega)
 have h3 := modN_eq (x := x) h0
 have h4 := modN_lt (x := x) h0
 obtain ⟨r, hr⟩ : ∃ r, x.tmod m = r := ⟨_, rfl⟩
 rw [hr] at h1 h2 h3
 have e1 : IntKind.i64.wrap r = r := by simp [IntKind.wrap, IntKind.bits, IntKind.signed]; omega
 have e2 : IntKind.i64.wrap (r + m) = r + m := by simp [IntKind.wrap, IntKind.bits, IntKind.signed]; omega
 have e3 : IntKind.i64.wrap (modN x m : Int) = (modN x m : Int) := by simp [IntKind.wrap, IntKind.bits, IntKind.signed]; omega
 obtain ⟨k, hk⟩ : ∃ k, modN x m = k := ⟨_, rfl⟩
 rw [hk] at h3 e3 ⊢
 have hm0 : ¬ (m : Int) = 0 := by omega
 have hm1 : ((m : Int) == 0) = false := by rw [beq_eq_false_iff_ne]; exact hm0
 have hm2 : ¬ m = 0 := by omega
 clear h4 hk
 go_enter Tryz.func19, Tryz.ntmps19
 go_wp2
 go_ret
 exact ⟨rfl, rfl⟩
def digL : Nat → Nat → List UInt8
 | 0, n => [UInt8.ofNat (48 + n % 10)]
 | f + 1, n => if n < 10 then [UInt8.ofNat (48 + n % 10)] else digL f (n / 10) ++ [UInt8.ofNat (48 + n % 10)]
theorem digL_len : ∀ f n, (digL f n).length ≤ f + 1
 | 0, n => by simp [digL]
 | f + 1, n => by
   rw [digL]
   split
   · simp
   · have := digL_len f (n / 10)
     simp only [List.length_append, List.length_cons, List.length_nil]
     omega
theorem conv_dig (b : UInt8) (W : World) : (convert 73 9 (.slice (some ⟨W.heap.size, 0, none⟩) 1 1)).run Tryz.prog (W.alloc (.cells #[.int .u8 (b.toNat : Int)] 5)) = .ok (.string ⟨#[b]⟩) (W.alloc (.cells #[.int .u8 (b.toNat : Int)] 5)) :=
 run_convert_bytes_back (P := Tryz.prog) (W.alloc (.cells #[.int .u8 (b.toNat : Int)] 5)) 73 9 5 ⟨W.heap.size, 0, none⟩ 1 [b] Tryz.underlying73 Tryz.underlying5 Tryz.underlying9 fun j hj => by
   obtain rfl : j = 0 := by simpa using hj
   exact (Full.new W 5 [.int .u8 (b.toNat : Int)]).cell 0
def digB (n : Nat) : UInt8 := UInt8.ofNat (48 + n % 10)
theorem digB_nat (n : Nat) : (digB n).toNat = 48 + n % 10 := by unfold digB; simp; omega
theorem dig_parts (n : Nat) : ∃ r : Nat, r < 10 ∧ (n : Int).tmod 10 = (r : Int) ∧ ∀ W : World, (convert 73 9 (.slice (some ⟨W.heap.size, 0, none⟩) 1 1)).run Tryz.prog (W.alloc (.cells #[.int .u8 (48 + (r : Int))] 5)) = .ok (.string (str [digB n])) (W.alloc (.cells #[.int .u8 (48 + (r : Int))] 5)) := by
 refine ⟨n % 10, by omega, by rw [Int.tmod_eq_emod_of_nonneg (by omega)]; omega, fun W => ?_⟩
 have q := conv_dig (digB n) W
 rw [digB_nat] at q
 have e : ((48 + n % 10 : Nat) : Int) = 48 + ((n % 10 : Nat) : Int) := by omega
 rw [e] at q
 exact q
set_option maxHeartbeats 2000000 in
theorem digits_one (n : Nat) (hn : n < 10) (w : World) : Calls Tryz.prog 30 #[.int .i64 (n : Int)] w (StrB w (str [digB n])) := by
 unfold StrB
 obtain ⟨r, hr, ht, hc⟩ := dig_parts n
 obtain ⟨D, hD⟩ : ∃ D, str [digB n] = D := ⟨_, rfl⟩
 rw [hD] at hc ⊢
 have i0 : (0 : Int) ≤ (n : Int) := Int.natCast_nonneg _
 have i1 : (n : Int) < 10 := by omega
 have r0 : (0 : Int) ≤ (r : Int) := Int.natCast_nonneg _
 have r1 : (r : Int) < 10 := by omega
 have hb := (Below.refl w.heap.size w).alloc (Nat.le_refl _) (.cells #[.int .u8 (48 + (r : Int))] 5)
 have HB := Lib.hid hb
 have hdd : decide ((n : Int) < 10) = true := by simp; omega
 clear hb hD
 go_enter Tryz.func30, Tryz.ntmps30
 go_wp2
 go_ret
 exact ⟨rfl, HB.out⟩
theorem digL_one {f n : Nat} (h : n < 10) : digL f n = [digB n] := by
 cases f with
 | zero => rfl
 | succ f => rw [digL, if_pos h]; rfl
theorem digL_more {f n : Nat} (h : ¬ n < 10) : digL (f + 1) n = digL f (n / 10) ++ [digB n] := by
 rw [digL, if_neg h]; rfl
theorem str_app (a b : List UInt8) : str a ++ str b = str (a ++ b) := by
 apply str_eq
 rw [show (str a ++ str b).data = (str a).data ++ (str b).data from ByteArray.data_append]
 simp [str]
set_option maxHeartbeats 4000000 in
theorem digits_any : ∀ (f n : Nat), n < 10 ^ (f + 1) → f ≤ 20 → n ≤ 9000000000000000000 → ∀ w : World, Calls Tryz.prog 30 #[.int .i64 (n : Int)] w (StrB w (str (digL f n))) := by
 intro f
 induction f with
 | zero =>
   intro n hn hf hm w
   have hn10 : n < 10 := by simpa using hn
   rw [digL_one hn10]
   exact digits_one n hn10 w
 | succ f ih =>
   intro n hn hf hm w
   by_cases hn10 : n < 10
   · rw [digL_one hn10]
     exact digits_one n hn10 w
   · have IH := ih (n / 10) (by rw [Nat.pow_succ] at hn; omega) (by omega) (by omega)
     have hlen := digL_len f (n / 10)
     rw [digL_more hn10, ← str_app]
     unfold StrB at IH ⊢
     obtain ⟨r, hr, ht, hc⟩ := dig_parts n
     have hDs : (str [digB n]).size = 1 := rfl
     have hEs : (str (digL f (n / 10))).size ≤ 21 := by rw [str_size]; omega
     obtain ⟨D, hD⟩ : ∃ D, str [digB n] = D := ⟨_, rfl⟩
     obtain ⟨E, hE⟩ : ∃ D, str (digL f (n / 10)) = D := ⟨_, rfl⟩
     rw [hE] at IH hEs
     rw [hD] at hc hDs
     rw [hD, hE]
     have hq : (n : Int).tdiv 10 = ((n / 10 : Nat) : Int) := by rw [Int.tdiv_eq_ediv_of_nonneg (by omega)]; omega
     obtain ⟨m, hm'⟩ : ∃ m, n / 10 = m := ⟨_, rfl⟩
     rw [hm'] at IH hq
     have m0 : (0 : Int) ≤ (m : Int) := Int.natCast_nonneg _
     have m1 : (m : Int) ≤ 9000000000000000000 := by omega
     have i0 : (0 : Int) ≤ (n : Int) := Int.natCast_nonneg _
     have i1 : ¬ (n : Int) < 10 := by omega
     have i2 : (n : Int) ≤ 9000000000000000000 := by omega
     have r0 : (0 : Int) ≤ (r : Int) := Int.natCast_nonneg _
     have r1 : (r : Int) < 10 := by omega
     have hb := (Below.refl w.heap.size w).alloc (Nat.le_refl _) (.cells #[.int .u8 (48 + (r : Int))] 5)
     have HB := Lib.hid hb
     have hdd : decide ((n : Int) < 10) = false := by simp; omega
     have IH := Lib.hid IH
     clear hb hD hE hm' ih hlen hn hn10
     go_enter Tryz.func30, Tryz.ntmps30
     go_wp2_with (first
       | (go_at_call 30; (go_loud (with_reducible refine (IH.out _).mono ?_); rintro en w2 ⟨rfl, hb2⟩; (have HO := Lib.hid (Below.trans HB.out (hb2.mono HB.out.size)))))
       | (fail "arm"))
     go_ret
     exact ⟨rfl, HO.out⟩



theorem RB.more {w : World} {B B' : Nat} {Ap : Option Addr} {np cp : Nat} {A : Option Addr} {n c : Nat} {pl : List Itm} {tl : List (Tgt × (Nat → Value))} (h : RB w B Ap np cp A n c pl tl) (hB : B ≤ B') : RB w B' Ap np cp A n c pl tl :=
 ⟨Row.more h.hpl hB, h.hnp, Row.more h.htl hB, h.hn, fun p hp i hi => (by
   obtain ⟨A, c, e, r⟩ := h.rows p hp i hi
   exact ⟨A, c, e, Row.more r hB⟩)⟩
def ParsedOut (w : World) (r : (List Itm × List Tgt) × (Int × Int)) (en : Ending) (w' : World) : Prop :=
 ∃ Ap np cp A n c tl, en = .returned (.tuple #[.agg #[.slice Ap np cp, .slice A n c], .int .i64 r.2.1, .int .i64 r.2.2]) ∧ RB w' w'.heap.size Ap np cp A n c r.1.1 tl ∧ tl.map Prod.fst = r.1.2 ∧ Below w.heap.size w w'
theorem parsed_any {w : World} (hL : Laid w) (s : ByteArray) (ha : Asc s.data.toList) (hs : s.size ≤ 4294967000) : Calls Tryz.prog 26 #[.string s] w (ParsedOut w (pParse s.data.toList)) := by
 refine (parse_any s hL hL.size ha hs).mono ?_
 rintro en w' ⟨v, he, hB, hT⟩
 obtain ⟨Ap, cp, A, n, c, tl, rfl, hR, hm⟩ := hB.rb
 exact ⟨Ap, _, cp, A, n, c, tl, he, hR, hm, toBelow hT⟩
theorem rparsed_any {w : World} (s : ByteArray) (hs : s.size ≤ 4294967000) : Calls Tryz.prog 29 #[.string s] w (ParsedOut w (rParse (rToks s.data.toList 1))) := by
 refine (rparse_any s hs).mono ?_
 rintro en w' ⟨v, he, hB, hT⟩
 obtain ⟨Ap, cp, A, n, c, tl, rfl, hR, hm⟩ := hB.rb
 exact ⟨Ap, _, cp, A, n, c, tl, he, hR, hm, toBelow hT⟩
theorem under138 : Tryz.prog.underlying 138 = some (.array 5 9) := by kernel_rfl
theorem cells138 : Tryz.prog.cellsOf 138 = 5 := by kernel_rfl
theorem cells9k : Tryz.prog.cellsOf 9 = 1 := by kernel_rfl
theorem cells193 : Tryz.prog.cellsOf 193 = 20 := by kernel_rfl
theorem gKinds : Tryz.prog.globalNamed "mainline/syntax.kindWords" = some 0 := by kernel_rfl
theorem gSyn : Tryz.prog.globalNamed "strconv.ErrSyntax" = some 3 := by kernel_rfl
theorem gRan : Tryz.prog.globalNamed "strconv.ErrRange" = some 4 := by kernel_rfl
theorem g64 : Tryz.prog.globalNamed "math/bits.deBruijn64tab" = some 8 := by kernel_rfl
theorem tyK : (Tryz.prog.globals[0]?).map (·.type) = some 138 := by kernel_rfl
theorem tyS : (Tryz.prog.globals[3]?).map (·.type) = some 133 := by kernel_rfl
theorem tyR : (Tryz.prog.globals[4]?).map (·.type) = some 133 := by kernel_rfl
theorem ty10 : (Tryz.prog.globals[2]?).map (·.type) = some 193 := by kernel_rfl
noncomputable def u64T : TypeId := match Tryz.prog.underlying 193 with | some (.array _ e) => e | _ => 0
theorem under193' : Tryz.prog.underlying 193 = some (.array 20 u64T) := by kernel_rfl
theorem underU : Tryz.prog.underlying u64T = some (.int .u64) := by kernel_rfl
theorem cellsU : Tryz.prog.cellsOf u64T = 1 := by kernel_rfl
noncomputable def errMs : Array (String × TypeId) := match Tryz.prog.underlying 133 with | some (.interface m) => m | _ => #[]
theorem under133 : Tryz.prog.underlying 133 = some (.interface errMs) := by kernel_rfl
theorem pow10_eq : (Rows.laid_internal_strconv_uint64pow10 : DataW Unit) = Lib.tabData .u64 Lib.pow10Tab := by kernel_rfl
theorem strs_of_trod {W : World} {fuel : Nat} {cs : List Value} {p : List MemPlace} (h : DataW.trod (fun _ => ()) Tryz.prog W 0 (fun _ => true) false fuel 138 cs = some (Rows.laid_mainline_syntax_kindWords, p)) :
   cs[0]? = some (.string ⟨#[]⟩) ∧ cs[1]? = some (.string ⟨#[108, 105, 98]⟩) ∧ cs[2]? = some (.string ⟨#[98, 105, 110]⟩) ∧ cs[3]? = some (.string ⟨#[116, 101, 115, 116]⟩) ∧ cs[4]? = some (.string ⟨#[103, 101, 110]⟩) := by
 obtain ⟨xs, m, _, hx, hl, hxl, hat⟩ := DataW.trod_array under138 h
 rw [cells9k] at hat
 rw [cells138] at hl
 have hd : xs.map (·.1) = [.lit (.string []), .lit (.string [108, 105, 98]), .lit (.string [98, 105, 110]), .lit (.string [116, 101, 115, 116]), .lit (.string [103, 101, 110])] := by
   have := congrArg Prod.fst hx
   injection this with this
   exact this.symm
 have one : ∀ (i : Nat) (hi : i < 5) (u : List UInt8), ((xs.map (·.1))[i]? = some (DataW.lit (.string u) : DataW Unit)) → cs[i]? = some (.string ⟨u.toArray⟩) := by
   intro i hi u hu
   have h1 := hat i hi
   rw [List.getElem?_eq_getElem (by omega)] at h1
   obtain ⟨s, hs, hxs, _⟩ := DataW.trod_string Tryz.underlying9 h1
   rw [List.getElem?_map, List.getElem?_eq_getElem (by omega), Option.map_some, hxs] at hu
   injection hu with hu
   injection hu with hu
   injection hu with hu
   have hc : cs[i]? = some (.string s) := by
     have := congrArg (·[0]?) hs
     simpa [List.getElem?_take, List.getElem?_drop] using this
   have hs2 : s = ⟨u.toArray⟩ := by
     obtain ⟨⟨d⟩⟩ := s
     exact congrArg (fun z => (⟨⟨z⟩⟩ : ByteArray)) hu
   rw [hc, hs2]
 rw [hd] at one
 exact ⟨one 0 (by decide) [] rfl, one 1 (by decide) _ rfl, one 2 (by decide) _ rfl, one 3 (by decide) _ rfl, one 4 (by decide) _ rfl⟩
theorem var_block {W : World} {n : String} {g : Nat} {cs : Array Value} (hg : Tryz.prog.globalNamed n = some g) (h : W.var? Tryz.prog n = some cs) (hc : 0 < cs.size) : g < W.heap.size := by
 have := World.var?_cell hg h 0
 rw [Array.getElem?_eq_getElem hc] at this
 exact World.block_lt_of_cell? W ⟨g, 0, none⟩ this
abbrev theLaid : List (String × DataW Unit) := [("math/bits.deBruijn32tab", Rows.laid_math_bits_deBruijn32tab), ("math/bits.deBruijn64tab", Rows.laid_math_bits_deBruijn64tab), ("internal/strconv.uint64pow10", Rows.laid_internal_strconv_uint64pow10), ("unicode/utf8.acceptRanges", Rows.laid_unicode_utf8_acceptRanges), ("strconv.ErrRange", Rows.laid_strconv_ErrRange), ("strconv.ErrSyntax", Rows.laid_strconv_ErrSyntax), ("mainline/syntax.kindWords", Rows.laid_mainline_syntax_kindWords), ("unicode/utf8.first", Rows.laid_unicode_utf8_first)]
theorem ty64 : (Tryz.prog.globals[8]?).map (·.type) = some 212 := by kernel_rfl
theorem under212 : ∃ e, Tryz.prog.underlying 212 = some (.array 64 e) := ⟨5, by kernel_rfl⟩
theorem cells212 : Tryz.prog.cellsOf 212 = 64 := by kernel_rfl
theorem laid_both {W : World} (h : laidMet Tryz.prog theLaid W) : Laid W ∧ Ito W := by
 obtain ⟨ps, ⟨g1, t1, cs1, f1, p1, q1, hg1, ht1, hv1, hd1, ⟨g2, t2, cs2, f2, p2, q2, hg2, ht2, hv2, hd2, ⟨g3, t3, cs3, f3, p3, q3, hg3, ht3, hv3, hd3, ⟨g4, t4, cs4, f4, p4, q4, hg4, ht4, hv4, hd4, ⟨g5, t5, cs5, f5, p5, q5, hg5, ht5, hv5, hd5, ⟨g6, t6, cs6, f6, p6, q6, hg6, ht6, hv6, hd6, ⟨g7, t7, cs7, f7, p7, q7, hg7, ht7, hv7, hd7, _, _⟩, _⟩, _⟩, _⟩, _⟩, _⟩, _⟩, _, _⟩ := h
 obtain rfl := Option.some.inj (g64.symm.trans hg2)
 obtain rfl := Option.some.inj (ty64.symm.trans ht2)
 obtain rfl := Option.some.inj (g10.symm.trans hg3)
 obtain rfl := Option.some.inj (ty10.symm.trans ht3)
 obtain rfl := Option.some.inj (gRan.symm.trans hg5)
 obtain rfl := Option.some.inj (tyR.symm.trans ht5)
 obtain rfl := Option.some.inj (gSyn.symm.trans hg6)
 obtain rfl := Option.some.inj (tyS.symm.trans ht6)
 obtain rfl := Option.some.inj (gKinds.symm.trans hg7)
 obtain rfl := Option.some.inj (tyK.symm.trans ht7)
 obtain ⟨e, hu⟩ := under212
 obtain ⟨_, _, _, _, hl2, _, _⟩ := DataW.trod_array hu hd2
 rw [cells212] at hl2
 have hs9 : 9 ≤ W.heap.size := var_block hg2 hv2 (by rw [← Array.length_toList, hl2]; decide)
 obtain ⟨k0, k1, k2, k3, k4⟩ := strs_of_trod hd7
 have cell : ∀ (i : Nat) (v : Value), cs7.toList[i]? = some v → W.cell? ⟨0, i, none⟩ = some v := fun i v hv => by
   have := World.var?_cell hg7 hv7 i
   rw [this]
   simpa using hv
 obtain ⟨_, te, pe, he, _, _⟩ := iface_of_trod under133 hd6
 obtain ⟨_, tr, pr, hr, _, _⟩ := iface_of_trod under133 hd5
 refine ⟨⟨hs9, cell 0 _ k0, cell 1 _ k1, cell 2 _ k2, cell 3 _ k3, cell 4 _ k4, ⟨te, pe, ?_⟩, ⟨tr, pr, ?_⟩⟩, ⟨hs9, ?_⟩⟩
 · have := World.var?_cell hg6 hv6 0
   rw [this, ← Array.getElem?_toList, he]
   rfl
 · have := World.var?_cell hg5 hv5 0
   rw [this, ← Array.getElem?_toList, hr]
   rfl
 · unfold Lib.TabIs
   rw [pow10_eq] at hd3
   rw [hv3, ← Lib.cells_of_tab under193' underU cellsU cells193 hd3]
noncomputable def lowZ : Nat := (World.holding Tryz.prog default ⟨#[], #[], []⟩).heap.size
abbrev rangeS : ByteArray := { data := #[118, 97, 108, 117, 101, 32, 111, 117, 116, 32, 111, 102, 32, 114, 97, 110, 103, 101] }
abbrev syntaxS : ByteArray := { data := #[105, 110, 118, 97, 108, 105, 100, 32, 115, 121, 110, 116, 97, 120] }
def cellsD : DataW Unit → List Value
 | .lit (.int k z) => [.int k z]
 | .lit (.string s) => [.string ⟨s.toArray⟩]
 | .agg l => cellsL l
 | _ => []
 where cellsL : List (DataW Unit) → List Value
 | [] => []
 | d :: r => cellsD d ++ cellsL r
def layC (cs : Array Value) : Obj → Obj
 | .cells _ t frozen => .cells cs t frozen
 | o => o
noncomputable def laidWorld (os : Os) : World :=
 let w0 := World.holding Tryz.prog os ⟨#[.cells #[.string rangeS] 210, .cells #[.string syntaxS] 210], #[], []⟩
 { w0 with heap := (((((((w0.heap.modify 0 (layC (cellsD Rows.laid_mainline_syntax_kindWords).toArray)).modify 2 (layC (cellsD Rows.laid_internal_strconv_uint64pow10).toArray)).modify 3 (layC #[.iface 208 (.pointer (some ⟨lowZ + 1, 0, none⟩))])).modify 4 (layC #[.iface 208 (.pointer (some ⟨lowZ, 0, none⟩))])).modify 5 (layC (cellsD Rows.laid_unicode_utf8_first).toArray)).modify 6 (layC (cellsD Rows.laid_unicode_utf8_acceptRanges).toArray)).modify 7 (layC (cellsD Rows.laid_math_bits_deBruijn32tab).toArray)).modify 8 (layC (cellsD Rows.laid_math_bits_deBruijn64tab).toArray) }
theorem laid_run (os : Os) (args : Array Value) : laidMet Tryz.prog theLaid ((laidWorld os).forCall (fun _ _ => 0) ⟨#[], args, []⟩).memory :=
 laidMet_of_run' 8 (by kernel_rfl) (by kernel_rfl)
def rPre (word : List UInt8) (p : Option (List UInt8)) (x : Itm) : List UInt8 :=
 if p = some x.pl then [44, 32] else (if p = none then [] else [59, 10]) ++ ([32, 32] ++ word ++ [32] ++ (if x.pl = [] then [] else x.pl ++ [32]))
def rGo (word : List UInt8) : Option (List UInt8) → List Itm → List UInt8
 | _, [] => []
 | p, x :: t => rPre word p x ++ fSrc x ++ rGo word (some x.pl) t
def rLast (p : Option (List UInt8)) (l : List Itm) : Option (List UInt8) := match l.getLast? with
 | none => p
 | some y => some y.pl
theorem rGo_snoc (word : List UInt8) (x : Itm) : ∀ (l : List Itm) (p : Option (List UInt8)), rGo word p (l ++ [x]) = rGo word p l ++ (rPre word (rLast p l) x ++ fSrc x)
 | [], p => by simp [rGo, rLast]
 | y :: t, p => by
   have e : rLast p (y :: t) = rLast (some y.pl) t := by
     unfold rLast
     cases t with
     | nil => rfl
     | cons z s =>
       rw [List.getLast?_cons_cons]
       cases h : (z :: s).getLast? with
       | none => exact absurd h (by simp)
       | some v => rfl
   show rPre word p y ++ fSrc y ++ rGo word (some y.pl) (t ++ [x]) = rPre word p y ++ fSrc y ++ rGo word (some y.pl) t ++ _
   rw [rGo_snoc word x t (some y.pl), e, ← List.append_assoc]
def rAttr (word : List UInt8) (l : List Itm) : List UInt8 := if l = [] then [] else rGo word none l ++ [59, 10]
theorem rGo_run (word p : List UInt8) : ∀ t : List Itm, rGo word (some p) t ++ [59, 10] = Lib.joinTail [44, 32] ((t.take (lead (fun i => !(i.pl == p)) t)).map fSrc) ++ [59, 10] ++ rAttr word (t.drop (lead (fun i => !(i.pl == p)) t))
 | [] => by simp [rGo, lead, rAttr, Lib.joinTail]
 | y :: s => by
   by_cases h : y.pl = p
   · have ih := rGo_run word p s
     have hl : lead (fun i : Itm => !(i.pl == p)) (y :: s) = lead (fun i : Itm => !(i.pl == p)) s + 1 := by rw [lead, if_neg (by simp [h])]
     rw [hl]
     show rPre word (some p) y ++ fSrc y ++ rGo word (some y.pl) s ++ [59, 10] = _
     rw [h, List.append_assoc, ih]
     simp [rPre, h, Lib.joinTail]
   · have hl : lead (fun i : Itm => !(i.pl == p)) (y :: s) = 0 := by rw [lead, if_pos (by simp [h])]
     rw [hl]
     have h' : ¬ p = y.pl := fun e => h e.symm
     simp [rGo, rPre, h', Lib.joinTail, rAttr]
theorem rAttr_run (word : List UInt8) (x : Itm) (t : List Itm) : rAttr word (x :: t) = fLine word (x :: t) x ++ rAttr word ((x :: t).drop (pSame (x :: t))) := by
 have hl : pSame (x :: t) = lead (fun i : Itm => !(i.pl == x.pl)) t + 1 := by
   show lead (fun i : Itm => !(i.pl == x.pl)) (x :: t) = _
   rw [lead, if_neg (by simp)]
 unfold fLine
 rw [hl]
 show (if (x :: t) = [] then [] else rPre word none x ++ fSrc x ++ rGo word (some x.pl) t ++ [59, 10]) = _
 rw [if_neg (by simp), List.append_assoc, rGo_run word x.pl t]
 simp only [List.take_succ_cons, List.map_cons, Lib.join_cons, List.drop_succ_cons, rPre, fLim]
 by_cases h : x.pl = [] <;> simp [h]
theorem rAttr_eqF (word : List UInt8) : ∀ (f : Nat) (l : List Itm), l.length < f → pItemsF f word l = rAttr word l
 | 0, _, h => absurd h (Nat.not_lt_zero _)
 | f + 1, [], _ => rfl
 | f + 1, x :: t, h => by
   rw [rAttr_run]
   show fLine word (x :: t) x ++ pItemsF f word ((x :: t).drop (pSame (x :: t))) = _
   rw [rAttr_eqF word f _ (by
     have hl : pSame (x :: t) = lead (fun i : Itm => !(i.pl == x.pl)) t + 1 := by
       show lead (fun i : Itm => !(i.pl == x.pl)) (x :: t) = _
       rw [lead, if_neg (by simp)]
     rw [hl, List.length_drop]
     simp only [List.length_cons] at h ⊢
     omega)]
theorem rAttr_eq (word : List UInt8) (l : List Itm) : rAttr word l = fItems word l := (rAttr_eqF word (l.length + 1) l (by omega)).symm
theorem digL_itoa : ∀ (f n : Nat), n < 10 ^ (f + 1) → digL f n = Lib.itoa (n : Int)
 | 0, n, h => by
   rw [Lib.itoa, if_neg (by omega), Int.toNat_natCast, Lib.decDigits_one (by simpa using h)]
   rw [digL, Nat.mod_eq_of_lt (by simpa using h)]
 | f + 1, n, h => by
   rw [Lib.itoa, if_neg (by omega), Int.toNat_natCast, digL]
   by_cases h1 : n < 10
   · rw [if_pos h1, Lib.decDigits_one h1, Nat.mod_eq_of_lt h1]
   · rw [if_neg h1, Lib.decDigits, dif_neg h1, digL_itoa f (n / 10) (by rw [Nat.pow_succ] at h; omega), Lib.itoa, if_neg (by omega), Int.toNat_natCast]
theorem join_snoc (sep x : List UInt8) (l : List (List UInt8)) (h : l ≠ []) : Lib.join (l ++ [x]) sep = Lib.join l sep ++ sep ++ x := by
 cases l with
 | nil => exact absurd rfl h
 | cons y t => rw [List.cons_append, Lib.join_cons, Lib.join_cons]; simp [Lib.joinTail]
def mNext (l : List Int) (a n : Nat) : Nat × Nat :=
 match l[a]? with
 | some x => (modN x n, a + 1)
 | none => (0, a)
theorem mNext_lt {l : List Int} {a n : Nat} (h : 0 < n) : (mNext l a n).1 < n := by
 unfold mNext
 split
 · exact modN_lt h
 · exact h
def mPl (k : Nat) : List UInt8 := [[108, 105, 110, 117, 120], [97, 114, 109], [97, 110, 121]].getD k []
def mItem (l : List Int) (tx : List (List UInt8)) (lim glb : Bool) (a : Nat) : Itm × Nat :=
 let t := mNext l a tx.length
 let q := if lim then mNext l t.2 3 else (0, t.2)
 let p := if lim && q.1 == 2 then mNext l q.2 3 else (3, q.2)
 let g := if glb then mNext l p.2 4 else (0, p.2)
 (⟨tx.getD t.1 [], glb && g.1 == 3, mPl p.1, 0⟩, g.2)
def mItemsN (l : List Int) (tx : List (List UInt8)) (lim glb : Bool) : Nat → Nat → List Itm × Nat
 | 0, a => ([], a)
 | k + 1, a =>
   let x := mItem l tx lim glb a
   let r := mItemsN l tx lim glb k x.2
   (x.1 :: r.1, r.2)
def mItems (l : List Int) (tx : List (List UInt8)) (lim glb : Bool) (a : Nat) : List Itm × Nat :=
 let n := mNext l a 4
 mItemsN l tx lim glb n.1 n.2
theorem mItemsN_len (l : List Int) (tx : List (List UInt8)) (lim glb : Bool) : ∀ (k a : Nat), (mItemsN l tx lim glb k a).1.length = k
 | 0, _ => rfl
 | k + 1, a => by
   have := mItemsN_len l tx lim glb k (mItem l tx lim glb a).2
   simp [mItemsN, this]
theorem mItems_len (l : List Int) (tx : List (List UInt8)) (lim glb : Bool) (a : Nat) : (mItems l tx lim glb a).1.length ≤ 3 := by
 have := mNext_lt (l := l) (a := a) (n := 4) (by omega)
 simp only [mItems, mItemsN_len]
 omega
def mSrcs : List (List UInt8) := [[120, 46, 103, 111], [42, 46, 99], [], [97, 32, 98], [35, 32, 110, 111], [121]]
def mDeps : List (List UInt8) := [[58, 108, 105, 98], [47, 47, 97, 58, 98], [47, 47, 99], [47, 47, 58, 120]]
def mOuts : List (List UInt8) := [[103, 101, 110, 46, 103, 111], [111, 117, 116, 46, 116, 120, 116]]
def mViss : List (List UInt8) := [[112, 117, 98, 108, 105, 99], [47, 47, 97], [47, 47, 98, 47, 46, 46, 46]]
def mAll : List (List UInt8) := [[108, 105, 110, 117, 120], [97, 114, 109], [97, 110, 121], [120, 45, 49]]
def mNames : List (List UInt8) := [[97], [108, 105, 98], [107, 105, 110, 100], [116, 97, 114, 103, 101, 116], [120, 46, 121], [95, 49], [103, 108, 111, 98], [112, 108, 97, 116, 102, 111, 114, 109, 115]]
def rows4 (a b c d : List Itm) : Nat → List Itm
 | 0 => a
 | 1 => b
 | 2 => c
 | 3 => d
 | _ => []
def mTgt (l : List Int) (i a : Nat) : Tgt × Nat :=
 let k := mNext l a 4
 let s := mItems l mSrcs true true k.2
 let d := mItems l mDeps true false s.2
 let o := mItems l mOuts false false d.2
 let v := mItems l mViss false false o.2
 let q := mNext l v.2 3
 let c := if q.1 == 1 then mNext l q.2 1000 else (0, q.2)
 let r := if k.1 == 2 then mNext l c.2 6 else (0, c.2)
 (⟨mNames.getD i [], 1 + (k.1 : Int), 0, rows4 s.1 d.1 o.1 v.1, 1 + (c.1 : Int), (r.1 : Int), 0, fun _ => false⟩, r.2)
def mTs (l : List Int) : Nat → Nat → Nat → List Tgt
 | 0, _, _ => []
 | k + 1, i, a => (mTgt l i a).1 :: mTs l k (i + 1) (mTgt l i a).2
def mPlats (n : Nat) : List Itm := (mAll.take n).map fun t => ⟨t, false, [], 0⟩
def mMade (l : List Int) : List Itm × List Tgt :=
 let n := mNext l 0 4
 let m := mNext l n.2 6
 (mPlats n.1, mTs l m.1 0 m.2)
theorem mTs_len (l : List Int) : ∀ (k i a : Nat), (mTs l k i a).length = k
 | 0, _, _ => rfl
 | k + 1, i, a => by simp [mTs, mTs_len l k (i + 1) (mTgt l i a).2]
structure MItm (tx : List (List UInt8)) (lim glb : Bool) (x : Itm) : Prop where
 tx : x.tx ∈ tx
 pl : x.pl = [] ∨ (lim = true ∧ x.pl ∈ mAll.take 3)
 gl : x.gl = true → glb = true
 ln : x.ln = 0
theorem getD_mem {α : Type} {l : List α} {k : Nat} {d : α} (h : k < l.length) : l.getD k d ∈ l := by
 rw [List.getD_eq_getElem?_getD, List.getElem?_eq_getElem h]
 exact List.getElem_mem h
theorem mItem_ok {l : List Int} {tx : List (List UInt8)} {lim glb : Bool} {a : Nat} (h : 0 < tx.length) : MItm tx lim glb (mItem l tx lim glb a).1 := by
 refine ⟨getD_mem (mNext_lt h), ?_, ?_, rfl⟩
 · obtain ⟨t, ht⟩ : ∃ z, mNext l a tx.length = z := ⟨_, rfl⟩
   unfold mItem
   rw [ht]
   dsimp only
   cases lim with
   | false => exact .inl rfl
   | true =>
     rw [if_pos rfl, Bool.true_and]
     split
     · exact .inr ⟨rfl, getD_mem (l := mAll.take 3) (mNext_lt (n := 3) (by decide))⟩
     · exact .inl rfl
 · intro hg
   have hg' : (glb && (if glb = true then mNext l (if (lim && (if lim = true then mNext l (mNext l a tx.length).2 3 else (0, (mNext l a tx.length).2)).1 == 2) = true then mNext l (if lim = true then mNext l (mNext l a tx.length).2 3 else (0, (mNext l a tx.length).2)).2 3 else (3, (if lim = true then mNext l (mNext l a tx.length).2 3 else (0, (mNext l a tx.length).2)).2)).2 4 else (0, (if (lim && (if lim = true then mNext l (mNext l a tx.length).2 3 else (0, (mNext l a tx.length).2)).1 == 2) = true then mNext l (if lim = true then mNext l (mNext l a tx.length).2 3 else (0, (mNext l a tx.length).2)).2 3 else (3, (if lim = true then mNext l (mNext l a tx.length).2 3 else (0, (mNext l a tx.length).2)).2)).2)).1 == 3) = true := hg
   cases glb
   · simp at hg'
   · rfl
theorem mItemsN_ok {l : List Int} {tx : List (List UInt8)} {lim glb : Bool} (h : 0 < tx.length) : ∀ (k a : Nat), ∀ x ∈ (mItemsN l tx lim glb k a).1, MItm tx lim glb x
 | 0, _, x, hx => by simp [mItemsN] at hx
 | k + 1, a, x, hx => by
   simp only [mItemsN, List.mem_cons] at hx
   rcases hx with rfl | hx
   · exact mItem_ok h
   · exact mItemsN_ok h k _ x hx
theorem mItems_ok {l : List Int} {tx : List (List UInt8)} {lim glb : Bool} {a : Nat} (h : 0 < tx.length) : ∀ x ∈ (mItems l tx lim glb a).1, MItm tx lim glb x := mItemsN_ok h _ _
structure MTgt (i : Nat) (T : Tgt) : Prop where
 name : T.name = mNames.getD i []
 kind : 1 ≤ T.kind ∧ T.kind ≤ 4
 line : T.line = 0
 len : ∀ j, (T.rows j).length ≤ 3
 srcs : ∀ x ∈ T.rows 0, MItm mSrcs true true x
 deps : ∀ x ∈ T.rows 1, MItm mDeps true false x
 outs : ∀ x ∈ T.rows 2, MItm mOuts false false x
 viss : ∀ x ∈ T.rows 3, MItm mViss false false x
 cost : 1 ≤ T.cost ∧ T.cost ≤ 1000
 retry : 0 ≤ T.retry ∧ T.retry ≤ 5 ∧ (T.retry = 0 ∨ T.kind = 3)
theorem mTgt_ok (l : List Int) (i a : Nat) : MTgt i (mTgt l i a).1 := by
 have hk := mNext_lt (l := l) (a := a) (n := 4) (by omega)
 unfold mTgt
 dsimp only
 obtain ⟨k, hk'⟩ : ∃ z, mNext l a 4 = z := ⟨_, rfl⟩
 rw [hk'] at hk ⊢
 obtain ⟨⟨s, s2⟩, hs⟩ : ∃ z, mItems l mSrcs true true k.2 = z := ⟨_, rfl⟩
 have s1 := mItems_len l mSrcs true true k.2
 have s3 := mItems_ok (l := l) (tx := mSrcs) (lim := true) (glb := true) (a := k.2) (by decide)
 rw [hs] at s1 s3 ⊢
 dsimp only at s1 s3 ⊢
 obtain ⟨⟨d, d2⟩, hd⟩ : ∃ z, mItems l mDeps true false s2 = z := ⟨_, rfl⟩
 have d1 := mItems_len l mDeps true false s2
 have d3 := mItems_ok (l := l) (tx := mDeps) (lim := true) (glb := false) (a := s2) (by decide)
 rw [hd] at d1 d3 ⊢
 dsimp only at d1 d3 ⊢
 obtain ⟨⟨o, o2⟩, ho⟩ : ∃ z, mItems l mOuts false false d2 = z := ⟨_, rfl⟩
 have o1 := mItems_len l mOuts false false d2
 have o3 := mItems_ok (l := l) (tx := mOuts) (lim := false) (glb := false) (a := d2) (by decide)
 rw [ho] at o1 o3 ⊢
 dsimp only at o1 o3 ⊢
 obtain ⟨⟨v, v2⟩, hv⟩ : ∃ z, mItems l mViss false false o2 = z := ⟨_, rfl⟩
 have v1 := mItems_len l mViss false false o2
 have v3 := mItems_ok (l := l) (tx := mViss) (lim := false) (glb := false) (a := o2) (by decide)
 rw [hv] at v1 v3 ⊢
 dsimp only at v1 v3 ⊢
 obtain ⟨q, hq⟩ : ∃ z, mNext l v2 3 = z := ⟨_, rfl⟩
 rw [hq]
 obtain ⟨⟨c, c2⟩, hc⟩ : ∃ z, (if (q.1 == 1) = true then mNext l q.2 1000 else (0, q.2)) = z := ⟨_, rfl⟩
 have c1 : c < 1000 := by
   have e : (if (q.1 == 1) = true then mNext l q.2 1000 else (0, q.2)).1 < 1000 := by
     split
     · exact mNext_lt (by decide)
     · show 0 < 1000; decide
   rw [hc] at e
   exact e
 rw [hc]
 dsimp only
 obtain ⟨⟨r, r2⟩, hr⟩ : ∃ z, (if (k.1 == 2) = true then mNext l c2 6 else (0, c2)) = z := ⟨_, rfl⟩
 have r1 : r < 6 ∧ (r = 0 ∨ k.1 = 2) := by
   have e : (if (k.1 == 2) = true then mNext l c2 6 else (0, c2)).1 < 6 ∧ ((if (k.1 == 2) = true then mNext l c2 6 else (0, c2)).1 = 0 ∨ k.1 = 2) := by
     split
     · rename_i h2
       exact ⟨mNext_lt (by decide), .inr (by simpa using h2)⟩
     · exact ⟨by show 0 < 6; decide, .inl rfl⟩
   rw [hr] at e
   exact e
 rw [hr]
 refine ⟨rfl, ⟨by dsimp only; omega, by dsimp only; omega⟩, rfl, fun j => ?_, s3, d3, o3, v3, ⟨by dsimp only; omega, by dsimp only; omega⟩, by dsimp only; omega, by dsimp only; omega, by dsimp only; omega⟩
 show (rows4 s d o v j).length ≤ 3
 match j with
 | 0 => exact s1
 | 1 => exact d1
 | 2 => exact o1
 | 3 => exact v1
 | _ + 4 => exact Nat.zero_le _
theorem mTs_ok (l : List Int) : ∀ (k i a j : Nat) (h : j < (mTs l k i a).length), MTgt (i + j) (mTs l k i a)[j]
 | 0, _, _, _, h => absurd h (Nat.not_lt_zero _)
 | k + 1, i, a, 0, _ => mTgt_ok l i a
 | k + 1, i, a, j + 1, h => by
   have := mTs_ok l k (i + 1) (mTgt l i a).2 j (by simpa [mTs] using h)
   rw [show i + (j + 1) = i + 1 + j by omega]
   exact this
end Go.Proofs.YtcjoiiaankngjaaGreatDoor
