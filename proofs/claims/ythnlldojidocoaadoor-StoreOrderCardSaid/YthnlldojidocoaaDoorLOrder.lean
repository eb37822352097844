/- StoreOrder: entries that are not in strictly increasing order are refused, whatever their order is; sorted, they are accepted. For all arguments. -/
import Derived.Deep.RegionLaw
import Derived.ArgAppend
import Derived.Test.YthnlldojidocoaaDoorPickPut
namespace Go.Proofs.YthnlldojidocoaaDoor.lorder
open Go.ChangeShapes Go.WideShapes Go.ChangeAt Go.RowKit Go.Maps


def NL : List Value := [.string ⟨#[65]⟩, .string ⟨#[66]⟩, .string ⟨#[95]⟩, .string ⟨#[97]⟩, .string ⟨#[97, 45]⟩, .string ⟨#[97, 46]⟩, .string ⟨#[97, 97]⟩, .string ⟨#[98]⟩]
def IL : List Value := [.int .i64 0, .int .i64 1, .int .i64 2, .int .i64 3, .int .i64 4, .int .i64 5, .int .i64 6, .int .i64 7]
theorem nl_at : ∀ k, k < 8 → NL[k]? = some (.string (ent8 k).1) := fun k hk => by
  match k, hk with
  | 0, _ | 1, _ | 2, _ | 3, _ | 4, _ | 5, _ | 6, _ | 7, _ => rfl
theorem il_at : ∀ k, k < 8 → IL[k]? = some (.int .i64 (k : Int)) := fun k hk => by
  match k, hk with
  | 0, _ | 1, _ | 2, _ | 3, _ | 4, _ | 5, _ | 6, _ | 7, _ => rfl
theorem nl_cell {W : World} {g k : Nat} (h : Full W g 9 NL) (hk : k < 8) : W.cell? ⟨g, k, none⟩ = some (.string (ent8 k).1) := (h.cell k).trans (nl_at k hk)
theorem il_cell {W : World} {g k : Nat} (h : Full W g 3 IL) (hk : k < 8) : W.cell? ⟨g, k, none⟩ = some (.int .i64 (k : Int)) := (h.cell k).trans (il_at k hk)

set_option maxRecDepth 100000 in
set_option maxHeartbeats 8000000 in
theorem walk (z a b : Nat) (hz : z < 256) (ha : a < 256) (hb : b < 256) (w : World) (hT : Tab w) : Calls Tryd.prog 7 #[.int .u8 (z : Int), .int .u8 (a : Int), .int .u8 (b : Int)] w (BoolB w true) := by
  obtain ⟨i48, hi, hz0, hz1, hz2⟩ := info_parts info48
  have S := Lib.hid (sane_any w hT)
  have NW := Lib.hid (newW hT)
  have C0 := Lib.hid (fun (W : World) (p : Nat) (F : Nat → Prop) (h : StW w W p [] F) => (show Calls Tryd.prog 18 #[.pointer (some ⟨p, 0, none⟩), .string ⟨#[116, 101, 120, 116]⟩] W (PutW w W p [] F 1 [oTx]) from blobW h (by simp) ⟨#[116, 101, 120, 116]⟩ (by decide)))
  go_enter Tryd.func7, Tryd.ntmps7
  go_wp2_with (first
    | (go_at_call 14; (with_reducible refine S.out.mono ?_); rintro e w1 ⟨rfl, hb1⟩)
    | (go_at_call 15; (with_reducible refine (NW.out _ hb1).mono ?_); rintro e w2 ⟨rfl, h2⟩; (obtain ⟨p, hp⟩ : ∃ p, w1.heap.size = p := ⟨_, rfl⟩); rw [hp] at h2)
    | (go_at_call 18; (with_reducible refine (C0.out _ _ _ h2).mono ?_); rintro e w3 ⟨rfl, F, h3, -⟩))
  have hF1 : Full ((w3.alloc (.cells #[.string ⟨#[65]⟩, .string ⟨#[66]⟩, .string ⟨#[95]⟩, .string ⟨#[97]⟩, .string ⟨#[97, 45]⟩, .string ⟨#[97, 46]⟩, .string ⟨#[97, 97]⟩, .string ⟨#[98]⟩] 9)).alloc (.cells #[.int .i64 0, .int .i64 1, .int .i64 2, .int .i64 3, .int .i64 4, .int .i64 5, .int .i64 6, .int .i64 7] 3)) w3.heap.size 9 NL := (Full.new w3 9 NL).alloc _
  have hF2 : Full ((w3.alloc (.cells #[.string ⟨#[65]⟩, .string ⟨#[66]⟩, .string ⟨#[95]⟩, .string ⟨#[97]⟩, .string ⟨#[97, 45]⟩, .string ⟨#[97, 46]⟩, .string ⟨#[97, 97]⟩, .string ⟨#[98]⟩] 9)).alloc (.cells #[.int .i64 0, .int .i64 1, .int .i64 2, .int .i64 3, .int .i64 4, .int .i64 5, .int .i64 6, .int .i64 7] 3)) (w3.heap.size + 1) 3 IL := by
    have := Full.new (w3.alloc (.cells #[.string ⟨#[65]⟩, .string ⟨#[66]⟩, .string ⟨#[95]⟩, .string ⟨#[97]⟩, .string ⟨#[97, 45]⟩, .string ⟨#[97, 46]⟩, .string ⟨#[97, 97]⟩, .string ⟨#[98]⟩] 9)) 3 IL
    rwa [World.size_alloc] at this
  have h4 := (h3.alloc (.cells #[.string ⟨#[65]⟩, .string ⟨#[66]⟩, .string ⟨#[95]⟩, .string ⟨#[97]⟩, .string ⟨#[97, 45]⟩, .string ⟨#[97, 46]⟩, .string ⟨#[97, 97]⟩, .string ⟨#[98]⟩] 9)).alloc (.cells #[.int .i64 0, .int .i64 1, .int .i64 2, .int .i64 3, .int .i64 4, .int .i64 5, .int .i64 6, .int .i64 7] 3)
  have hbw4 := h4.below
  obtain ⟨gn, hgn⟩ : ∃ g, w3.heap.size = g := ⟨_, rfl⟩
  obtain ⟨w4, hw4⟩ : ∃ w4, (w3.alloc (.cells #[.string ⟨#[65]⟩, .string ⟨#[66]⟩, .string ⟨#[95]⟩, .string ⟨#[97]⟩, .string ⟨#[97, 45]⟩, .string ⟨#[97, 46]⟩, .string ⟨#[97, 97]⟩, .string ⟨#[98]⟩] 9)).alloc (.cells #[.int .i64 0, .int .i64 1, .int .i64 2, .int .i64 3, .int .i64 4, .int .i64 5, .int .i64 6, .int .i64 7] 3) = w4 := ⟨_, rfl⟩
  rw [hw4] at hF1 hF2 h4 hbw4 ⊢
  rw [hgn] at hF1 hF2 ⊢
  have H4 := Lib.hid h4
  have HF1 := Lib.hid hF1
  have HF2 := Lib.hid hF2
  have HM0 : Hid (Mine w w4 (.slice none 0 0) 48 3 (idx8 z 0).length (entsC (es8 (idx8 z 0))) F) := Lib.hid (Mine.nil _ _ _ _ _)
  clear h2 h3 h4 hF1 hF2 hw4 hgn hbw4 hb1
  go_loopw [10, 29] (fun v10 v29 wr => ∃ k : Nat, k ≤ 8 ∧ v29 = .int .i64 (k : Int) ∧ Hid (StW w wr p [oTx] F) ∧ Hid (Mine w wr v10 48 3 (idx8 z k).length (entsC (es8 (idx8 z k))) F) ∧ Hid (Full wr gn 9 NL) ∧ Hid (Full wr (gn + 1) 3 IL)) (fun _ v29 _ => 8 - (intOf v29).toNat)
  case atStart => exact ⟨0, Nat.zero_le _, rfl, H4, HM0, HF1, HF2⟩
  case round =>
    obtain ⟨k, hk, rfl, HS, HM, HN, HI⟩ := hrel
    have hk0 : (0 : Int) ≤ (k : Int) := Int.natCast_nonneg _
    by_cases hlt : k < 8
    · have hk1 : (k : Int) < 8 := by omega
      have c1 := il_cell HI.out hlt
      obtain ⟨nm, hnm⟩ : ∃ s, (ent8 k).1 = s := ⟨_, rfl⟩
      have c2 := nl_cell HN.out hlt
      rw [hnm] at c2
      have HNM := Lib.hid hnm
      clear hnm
      by_cases hbit : z.testBit k = true
      · have hsh : bits .and .u8 ((z : Int) / 2 ^ k) 1 = 1 := by rw [bit8 z hz k hlt, if_pos hbit]
        have hL := idx8_len z k
        have hnx : idx8 z (k + 1) = idx8 z k ++ [k] := by rw [idx8_succ, if_pos hbit]
        have HNX := Lib.hid hnx
        have hsz := HS.out.below.size
        clear hnx
        go_wp2_with (at_builtin; refine wpList_append_own_at _ rfl _ _ 46 rfl w.heap.size 48 i48 _ 3 32 Tryd.underlying46 hi hz0 hz1 hz2 rfl (by decide) u10 (idx8 z k).length (entsC (es8 (idx8 z k))) rfl (HM.out.own.alloc _) ⟨wr.heap.size, 0, none⟩ 1 1 [.string nm, .bool false, .int .i64 1] (by rfl) (by rfl) (World.news_of_block (cs := #[.string nm, .bool false, .int .i64 1]) (t := 48) (fr := (0, 0)) (heap_alloc_new wr _)) (by simp [Value.oneCell']) (by unfold maxLen; omega) (by omega) (by simp; omega) ?_; intro v5 w5 ho5 hg5 hn5 hloc5)
        have hA := HM.out.app (ob := .cells #[.string nm, .bool false, .int .i64 1] 48) HS.out hg5 ho5 hloc5
        have hN2 := (HN.out.alloc (.cells #[.string nm, .bool false, .int .i64 1] 48)).grown hg5 (HN.out.not_row HM.out.own (by decide))
        have hI2 := (HI.out.alloc (.cells #[.string nm, .bool false, .int .i64 1] 48)).grown hg5 (HI.out.not_row HM.out.own (by decide))
        have hM2 : Mine w w5 v5 48 3 (idx8 z (k + 1)).length (entsC (es8 (idx8 z (k + 1)))) F := by
          rw [HNX.out]
          have e1 : (idx8 z k ++ [k]).length = (idx8 z k).length + 1 := by simp
          have e2 : es8 (idx8 z k ++ [k]) = es8 (idx8 z k) ++ [ent8 k] := by unfold es8; simp
          rw [e1, e2, entsC_snoc]
          have e3 : entC (ent8 k) = [.string nm, .bool false, .int .i64 1] := by rw [← HNM.out]; rfl
          rw [e3]
          exact hA.2
        have HS2 := Lib.hid hA.1
        have HM2 := Lib.hid hM2
        have HN2 := Lib.hid hN2
        have HI2 := Lib.hid hI2
        clear hA hN2 hI2 hM2 ho5 hg5 hn5 hloc5
        go_roundw
        case rel => exact ⟨k + 1, by omega, by go_num, HS2, HM2, HN2, HI2⟩
        case measure => simp [intOf]; omega
      · have hsh : bits .and .u8 ((z : Int) / 2 ^ k) 1 = 0 := by rw [bit8 z hz k hlt, if_neg hbit]
        have hnx : idx8 z (k + 1) = idx8 z k := by rw [idx8_succ, if_neg hbit]
        have HM2 : Hid (Mine w wr u10 48 3 (idx8 z (k + 1)).length (entsC (es8 (idx8 z (k + 1)))) F) := Lib.hid (by rw [hnx]; exact HM.out)
        clear hnx
        go_wp2_with fail
        go_roundw
        case rel => exact ⟨k + 1, by omega, by go_num, HS, HM2, HN, HI⟩
        case measure => simp [intOf]; omega
    · obtain rfl : k = 8 := by omega
      obtain ⟨L, hLe⟩ : ∃ L, idx8 z 8 = L := ⟨_, rfl⟩
      have h8 := idx8_lt z 8
      have hup := idx8_up z 8
      have hl8 := idx8_len z 8
      rw [hLe] at h8 hup hl8 HM
      obtain ⟨n, hn⟩ : ∃ n, L.length = n := ⟨_, rfl⟩
      rw [hn] at hl8 HM
      have hok : treeOk [oTx] (es8 L) = true := up_ok fine8 L h8 hup
      have hel : (es8 L).length = n := by rw [es8_len, hn]
      obtain ⟨A, c, rfl⟩ : ∃ A c, u10 = .slice A n c := by
        rcases HM.out.own.2 with ⟨rfl, h0⟩ | ⟨g', cap, cur, rfl, _⟩
        · exact ⟨none, 0, by rw [h0]⟩
        · exact ⟨_, _, rfl⟩
      have hT1 : Calls Tryd.prog 21 #[.pointer (some ⟨p, 0, none⟩), .slice A n c] wr (PutW w wr p [oTx] F (num [oTx] (treeO (es8 L)) : Int) [oTx, treeO (es8 L)]) := by
        have hE : Ents wr wr.heap.size A c (es8 L) := by
          have := Row.own HM.out.own
          unfold Ents
          rw [hel]
          exact this
        have := treeW HS.out (by simp) A (es8 L) c hE (by omega) hok
        rw [hel, put_two _ (tree_ne _)] at this
        exact this
      obtain ⟨nu, hnu⟩ : ∃ x : Int, (num [oTx] (treeO (es8 L)) : Int) = x := ⟨_, rfl⟩
      rw [hnu] at hT1
      have T1 := Lib.hid hT1
      clear hT1 hnu
      by_cases hn0 : n = 0
      · subst hn0
        go_wp2_with (go_at_call 21; (with_reducible refine T1.out.mono ?_); rintro e w5 ⟨rfl, F5, h5, -⟩)
        go_ret
        exact ⟨rfl, h5.below⟩
      · have n1 : ((n : Int) == 0) = false := by rw [beq_eq_false_iff_ne]; omega
        have n2 : ¬ (n : Int) = 0 := by omega
        obtain ⟨i, hie⟩ : ∃ i, a % n = i := ⟨_, rfl⟩
        obtain ⟨j, hje⟩ : ∃ j, b % n = j := ⟨_, rfl⟩
        have hil : i < n := by rw [← hie]; exact Nat.mod_lt _ (by omega)
        have hjl : j < n := by rw [← hje]; exact Nat.mod_lt _ (by omega)
        have r1 : (a : Int) % (n : Int) = (i : Int) := by rw [← hie]; exact (Int.natCast_emod a n).symm
        have r2 : (b : Int) % (n : Int) = (j : Int) := by rw [← hje]; exact (Int.natCast_emod b n).symm
        clear hie hje
        go_upto_region 17 with (go_at_call 21; (with_reducible refine T1.out.mono ?_); rintro e w5 ⟨rfl, F5, h5, hg5⟩; (have hM5 := HM.out.goes hg5))
        have hn3 : 0 < n := by omega
        obtain ⟨g, cap, hve, -⟩ := hM5.form hn3
        injection hve with hA hn' hc'
        subst hA hc'
        have hgl : g < w5.heap.size := (hM5.lt g rfl).2.1
        have hcs := (hM5.on ((Below.refl w5.heap.size w5).alloc (Nat.le_refl _) (.cells #[] 48))).own.cells (g := g) rfl
        have hE0 : Mine w (w5.alloc (.cells #[] 48)) (.slice (some ⟨w5.heap.size, 0, none⟩) 0 0) 48 3 0 [] F5 := ⟨World.ownsRow_made w5 #[] 0 h5.below.size (by unfold maxLen; omega) rfl, fun j e hF => by
          have e' : w5.heap.size = j := by simpa [Value.ownBlock] using e
          have := (h5.st.in_ j hF).2
          omega⟩
        have h5a := h5.alloc (.cells #[] 48)
        have hM5a := hM5.on ((Below.refl w5.heap.size w5).alloc (Nat.le_refl _) (.cells #[] 48))
        have hlen : (entsC (es8 L)).length = n * 3 := by rw [entsC_len, hel]
        have hone : ∀ u ∈ entsC (es8 L), u.oneCell' = true := ents_one _
        have hsz := h5.below.size
        have HE0 := Lib.hid hE0
        have H5A := Lib.hid h5a
        have HM5A := Lib.hid hM5a
        have HCS := Lib.hid hcs
        have HLEN := Lib.hid hlen
        have HONE := Lib.hid hone
        clear hE0 h5a hM5a hcs hlen hone hM5 hg5
        try clear hn'
        go_upto_region 18 with (at_builtin; refine wpList_append_own_at _ rfl _ _ 46 rfl w.heap.size 48 i48 _ 3 32 Tryd.underlying46 hi hz0 hz1 hz2 rfl (by decide) (.slice (some ⟨w5.heap.size, 0, none⟩) 0 0) 0 [] rfl HE0.out.own ⟨g, 0, none⟩ n c (entsC (es8 L)) rfl HLEN.out HCS.out HONE.out (by unfold maxLen; omega) (by omega) (by simp; omega) ?_; intro v6 w6 ho6 hg6 hn6 hloc6)
        obtain ⟨h6, hM6⟩ := HE0.out.app0 H5A.out hg6 ho6 hloc6
        have hL6 := HM5A.out.grown hg6 (fun q e e2 => by
          have e' : g = q := by simpa [Value.ownBlock] using e
          have e3 : w5.heap.size = q := by simpa [Value.ownBlock] using e2
          omega)
        rw [Nat.zero_add, List.nil_append] at hM6
        obtain ⟨gm, cm, rfl, -⟩ := hM6.form hn3
        have hgm : w5.heap.size ≤ gm := by
          rcases hloc6 with e | e
          · have e' : gm = w5.heap.size := by simpa [Value.ownBlock] using e
            omega
          · have e' : gm = w5.heap.size + 1 := by simpa [Value.ownBlock] using e
            omega
        have hne : g ≠ gm := by omega
        have hlc := fun q u (hq : (entsC (es8 L))[q]? = some u) => own_cell hL6.own hq
        have H6 := Lib.hid h6
        have HM6 := Lib.hid hM6
        have HL6 := Lib.hid hL6
        have a0 := hlc (j * 3) _ (ent_at0 L hn hjl)
        have a1 := hlc (j * 3 + 1) _ (ent_at1 L hn hjl)
        have a2 := hlc (j * 3 + 2) _ (ent_at2 L hn hjl)
        obtain ⟨nj, hnj⟩ : ∃ s, (ent8 (L.getD j 0)).1 = s := ⟨_, rfl⟩
        rw [hnj] at a0
        clear ho6 hg6 hn6 hloc6 h6 hM6 hL6 hlc
        obtain ⟨mc, hC6, hmc⟩ := Cells.of_own HM6.out.own
        obtain ⟨⟨x0, b0⟩, f0⟩ := hC6.cell (i := i * 3) (by omega)
        obtain ⟨⟨x1, b1⟩, f1⟩ := (hC6.set_ gm (i * 3) (.string nj)).cell (i := i * 3 + 1) (by omega)
        obtain ⟨⟨x2, b2⟩, f2⟩ := ((hC6.set_ gm (i * 3) (.string nj)).set_ gm (i * 3 + 1) (.bool false)).cell (i := i * 3 + 2) (by omega)
        clear hC6
        go_upto_region 19 with fail
        obtain ⟨h7, hM7, hL7⟩ := Mine.put3 H6.out HM6.out hel hil (ent8 (L.getD j 0)) HL6.out (by simpa [Value.ownBlock] using hne)
        have hw7 : put3 w6 gm i (ent8 (L.getD j 0)) = ((w6.setCell ⟨gm, i * 3, none⟩ (.string nj)).setCell ⟨gm, i * 3 + 1, none⟩ (.bool false)).setCell ⟨gm, i * 3 + 2, none⟩ (.int .i64 1) := by
          unfold put3
          rw [hnj]
          rfl
        rw [← hw7]
        obtain ⟨w7, hw7'⟩ : ∃ w7, put3 w6 gm i (ent8 (L.getD j 0)) = w7 := ⟨_, rfl⟩
        rw [hw7'] at h7 hM7 hL7 ⊢
        clear hw7 hw7' b0 b1 b2 f0 f1 f2 a0 a1 a2 hnj
        clear x0 x1 x2
        have hlc := fun q u (hq : (entsC (es8 L))[q]? = some u) => own_cell hL7.own hq
        have a0 := hlc (i * 3) _ (ent_at0 L hn hil)
        have a1 := hlc (i * 3 + 1) _ (ent_at1 L hn hil)
        have a2 := hlc (i * 3 + 2) _ (ent_at2 L hn hil)
        obtain ⟨ni, hni⟩ : ∃ s, (ent8 (L.getD i 0)).1 = s := ⟨_, rfl⟩
        rw [hni] at a0
        obtain ⟨mc7, hC7, hmc7⟩ := Cells.of_own hM7.own
        have H7 := Lib.hid h7
        have HM7 := Lib.hid hM7
        have HL7 := Lib.hid hL7
        clear hlc h7 hM7 hL7
        obtain ⟨⟨x0, b0⟩, f0⟩ := hC7.cell (i := j * 3) (by omega)
        obtain ⟨⟨x1, b1⟩, f1⟩ := (hC7.set_ gm (j * 3) (.string ni)).cell (i := j * 3 + 1) (by omega)
        obtain ⟨⟨x2, b2⟩, f2⟩ := ((hC7.set_ gm (j * 3) (.string ni)).set_ gm (j * 3 + 1) (.bool false)).cell (i := j * 3 + 2) (by omega)
        clear hC7
        go_upto_region 20 with fail
        obtain ⟨h8', hM8, -⟩ := Mine.put3 H7.out HM7.out (by rw [List.length_set]; exact hel) hjl (ent8 (L.getD i 0)) HL7.out (by simpa [Value.ownBlock] using hne)
        rw [swap_es] at hM8
        have hw8 : put3 w7 gm j (ent8 (L.getD i 0)) = ((w7.setCell ⟨gm, j * 3, none⟩ (.string ni)).setCell ⟨gm, j * 3 + 1, none⟩ (.bool false)).setCell ⟨gm, j * 3 + 2, none⟩ (.int .i64 1) := by
          unfold put3
          rw [hni]
          rfl
        rw [← hw8]
        obtain ⟨w8, hw8'⟩ : ∃ w8, put3 w7 gm j (ent8 (L.getD i 0)) = w8 := ⟨_, rfl⟩
        rw [hw8'] at h8' hM8 ⊢
        clear hw8 hw8' b0 b1 b2 f0 f1 f2 a0 a1 a2 hni
        clear x0 x1 x2
        have C20 := Lib.hid (swapW h8' hn hl8 hil hjl h8 hup hM8)
        clear h8' hM8
        go_upto_region 21 with (go_at_call 21; (with_reducible refine C20.out.mono ?_); rintro e w9 ⟨y, os9, F9, rfl, h9, ho9, hl9, hM9⟩)
        obtain ⟨er, her⟩ : ∃ er : Int, (if i = j then (0 : Int) else 1) = er := ⟨_, rfl⟩
        rw [her]
        have hsl : (swap8 L i j).length = n := by rw [swap8_len, hn]
        have hs8 := swap8_lt (l := L) (i := i) (j := j) (by omega) (by omega) h8
        obtain ⟨x, M, hxM⟩ : ∃ x M, swap8 L i j = x :: M := by
          cases hsw : swap8 L i j with
          | nil => rw [hsw] at hsl; simp at hsl; omega
          | cons x M => exact ⟨x, M, rfl⟩
        rw [hxM] at hsl hs8 hM9
        have hb9 := h9.below.size
        have hcm : n ≤ cm := by
          have := (hM9.ents (es := es8 (x :: M)) (by rw [es8_len, hsl])).2.1
          rw [es8_len, hsl] at this
          exact this
        have hcm1 : (1 : Int) ≤ (cm : Int) := by omega
        have hcm2 : 1 ≤ cm := by omega
        have hcell : ∀ q u, (entsC (es8 (x :: M)))[q]? = some u → w9.cell? ((⟨gm, 0, none⟩ : Addr).add q) = some u := fun q u hq => hM9.own.cells (g := gm) rfl q u hq
        have hel9 : (entsC (es8 (x :: M))).length = n * 3 := by rw [entsC_len, es8_len, hsl]
        have hold : ∀ b, some (⟨gm, 0, none⟩ : Addr) = some b → ∀ q u, (entC (ent8 x))[q]? = some u → w9.cell? (b.add q) = some u := fun b hb q u hq => by
          injection hb with hb
          subst hb
          refine hcell q u ?_
          have e : entsC (es8 (x :: M)) = entC (ent8 x) ++ entsC (es8 M) := rfl
          rw [e, List.getElem?_append_left (by
            rcases Nat.lt_or_ge q (entC (ent8 x)).length with hlt | hge
            · exact hlt
            · rw [List.getElem?_eq_none hge] at hq; cases hq)]
          exact hq
        have HCELL := Lib.hid hcell
        have HEL9 := Lib.hid hel9
        have HOLD := Lib.hid hold
        have HER := Lib.hid her
        have H9 := Lib.hid h9
        have HO9 := Lib.hid ho9
        have HS8 := Lib.hid hs8
        have HONE9 := Lib.hid (ents_one (es8 (x :: M)))
        clear hcell hel9 hold her h9 ho9 hs8 hM9 hxM
        go_upto_region 22 with (first
          | (at_builtin; refine wpList_append_grows _ rfl _ _ 46 rfl 48 i48 _ 3 32 Tryd.underlying46 hi hz0 hz1 hz2 rfl (by decide) (some ⟨gm, 0, none⟩) 1 1 (entC (ent8 x)) rfl (fun e => by cases e) rfl HOLD.out ⟨gm, 0, none⟩ n cm (entsC (es8 (x :: M))) rfl HEL9.out HCELL.out HONE9.out (by omega) (by unfold maxLen; omega) (by omega) ?_; intro v10 w10 ho10 hg10; (have h10 := H9.out.grown hg10 (fun j e => by cases e)); obtain ⟨A10, c10, rfl, -⟩ := ho10.form (by omega); (have C21 := Lib.hid (repW h10 HO9.out hl9 (by rw [hsl]) (by omega) HS8.out ho10)))
          | (go_at_call 21; (with_reducible refine C21.out.mono ?_); rintro e w11 ⟨rfl, h11, -⟩))
        by_cases hij : i = j
        · obtain rfl : er = 0 := by rw [← HER.out, if_pos hij]
          have e1 : ((i : Int) == (j : Int)) = true := by rw [beq_iff_eq, hij]
          go_wp2_with fail
          go_ret
          exact ⟨rfl, h11.below⟩
        · obtain rfl : er = 1 := by rw [← HER.out, if_neg hij]
          have e1 : ((i : Int) == (j : Int)) = false := by rw [beq_eq_false_iff_ne]; omega
          go_wp2_with fail
          go_ret
          exact ⟨rfl, h11.below⟩
theorem contract (H : Type) (enc : TypeId × Value → H) (W : World) (base : Nat) (args : Array Value) (ds gs : List (DataW H)) (before : List MemPlace)
    (hval : ∀ (j : Nat) t v, Tryd.f7.params[j]? = some t → args[j]? = some v → Value.okWide Tryd.prog W .any base t v)
    (hW : DataW.Whole enc Tryd.prog Tryd.f7.params.toList Rows.storeOrderSpec.vars false W args.toList ds gs before) (hT : Tab W) :
    Calls Tryd.prog 7 args W fun e W' => ∃ v, e = .returned v ∧ Rows.storeOrderSpec.post enc Tryd.prog Tryd.f7 false true false false W args v W' := by
  have hW' := hW
  obtain ⟨p, q, hA0, hV, rfl, hfz, hnd⟩ := hW
  have hA : DataW.TrodAll enc Tryd.prog W 0 (fun _ => true) true Tryd.f7.params.toList args.toList ds p := hA0
  rw [Tryd.params7] at hA hval
  obtain ⟨v0, vs0, d0, ds0, p0, q0, e0, rfl, rfl, h0, r0⟩ := trodAll_cons hA
  obtain ⟨v1, vs1, d1, ds1, p1, q1, e1, rfl, rfl, h1, r1⟩ := trodAll_cons r0
  obtain ⟨v2, vs2, d2, ds2, p2, q2, e2, rfl, rfl, h2, r2⟩ := trodAll_cons r1
  obtain ⟨rfl, rfl, rfl⟩ := trodAll_nil r2
  obtain rfl : args = #[v0, v1, v2] := by cases args; simp_all
  obtain ⟨rfl, rfl⟩ := trodVars_none hV
  obtain ⟨z0, rfl, _, _, hz0⟩ := open_int Tryd.underlying5 (hval 0 5 v0 rfl rfl) h0
  obtain ⟨a0, rfl, _, _, ha0⟩ := open_int Tryd.underlying5 (hval 1 5 v1 rfl rfl) h1
  obtain ⟨b0, rfl, _, _, hb0⟩ := open_int Tryd.underlying5 (hval 2 5 v2 rfl rfl) h2
  obtain ⟨z, rfl, hzz⟩ := u8_nat hz0
  obtain ⟨a, rfl, haa⟩ := u8_nat ha0
  obtain ⟨b, rfl, hbb⟩ := u8_nat hb0
  refine (walk z a b hzz haa hbb W hT).mono fun e W' ⟨he, hb⟩ => ⟨_, he, law_post rfl rfl ?_ rfl rfl rfl hW' hb⟩
  rw [Tryd.params7]
  intro t ht
  have ht' : t = 5 := by simpa using ht
  obtain rfl := ht'
  exact ⟨by kernel_rfl, of_decide_eq_true (by kernel_rfl)⟩

theorem laid_met (os : Os) : laidMet Tryd.prog Rows.storeOrderRow.laid ((laidWorld os).forCall (fun _ _ => 0) ⟨#[], #[.int .u8 0, .int .u8 0, .int .u8 0], []⟩).memory :=
  laidMet_of_run' 8 (by kernel_rfl) (by kernel_rfl)
theorem reads (os : Os) {H : Type} (enc : TypeId × Value → H) : ∃ ds places, DataW.whole enc Tryd.prog ((laidWorld os).forCall (fun _ _ => 0) ⟨#[], #[.int .u8 0, .int .u8 0, .int .u8 0], []⟩).memory Tryd.f7.params.toList Rows.storeOrderSpec.vars false (#[.int .u8 0, .int .u8 0, .int .u8 0] : Array Value).toList 8 = some (ds, [], places) ∧ Rows.uptoSmall H (ds ++ []) = true :=
  ⟨[.lit (.int .u8 0), .lit (.int .u8 0), .lit (.int .u8 0)], [], by kernel_rfl, by kernel_rfl⟩

set_option maxRecDepth 100000 in
theorem lifted (os : Os) (started : os.Started) (H : Type) (enc : TypeId × Value → H) (F : Stop.Interp) :
    ReturnsInHanded {} Tryd.checked os 7 .any ((OpenSpec.ofChange Rows.storeOrderSpec).preRow enc Tryd.prog Tryd.f7 Rows.storeOrderRow.domain false Rows.storeOrderRow.laid) (((OpenSpec.ofChange Rows.storeOrderSpec).at F).post enc Tryd.prog Tryd.f7 false true false false) := by
  obtain ⟨ds, places, hx, hsm⟩ := reads os enc
  refine returnsInHanded_of_row (C := Tryd.checked) (s := (OpenSpec.ofChange Rows.storeOrderSpec)) ownKnob_none started (by kernel_rfl) Tryd.func7
    (witness_row_at (enc := enc) (C := Tryd.checked) false (laidWorld os) #[.int .u8 0, .int .u8 0, .int .u8 0] rfl (by kernel_rfl) (by kernel_rfl) (by kernel_rfl)
      (OpenSpec.preRow_of_cond 8 hx (by kernel_rfl) (fun k hk => by cases hk) (by kernel_rfl) (laid_met os))) ?_
  intro W base args ds gs before hval hW _ _ _ hL _ _
  exact contract H enc W base args ds gs before hval hW (tab_of_laid hL)

theorem said : Rows.StoreOrderSaid :=
  OpenClaim.holds_of_cond 7 Tryd.f7 rfl rfl rfl rfl rfl rfl rfl ⟨rfl, rfl, rfl, rfl, rfl⟩ rfl rfl rfl rfl rfl (by kernel_rfl) Tryd.func7 (by kernel_rfl)
    (of_decide_eq_true (by kernel_rfl)) (by unfold Func.isWrapper; first | (rw [if_pos (by decide +kernel)]; kernel_rfl) | (rw [if_neg (by decide +kernel)]; exact ⟨rfl, rfl⟩))
    (fun os started H enc _ F => by rw [OpenClaim.pre_eq_preRow]; exact lifted os started H enc F)

theorem plain (f : FuncId) (fn : Func) (hf : Tryd.pinned.checked.prog.funcNamed "mainline/mainlinelaw04.StoreOrder" = some f) (hfn : Tryd.pinned.checked.prog.funcs[f]? = some fn) :
    false = Tryd.pinned.checked.prog.looks [] ∧ ∀ (j : Nat) t, fn.params[j]? = some t → Tryd.pinned.checked.prog.wantsStandIn t = false := by
  obtain rfl : f = 7 := Option.some.inj ((show Tryd.prog.funcNamed "mainline/mainlinelaw04.StoreOrder" = some 7 by kernel_rfl).symm.trans hf) |>.symm
  obtain rfl : fn = Tryd.f7 := (Option.some.inj (Tryd.func7.symm.trans hfn)).symm
  refine ⟨by kernel_rfl, fun j t ht => ?_⟩
  rw [Tryd.params7] at ht
  have hm : t ∈ [5] := by have := Array.mem_of_getElem? ht; simpa using this
  have hall : ([5].all fun u => !Tryd.prog.wantsStandIn u) = true := by kernel_rfl
  exact (show Tryd.prog.wantsStandIn t = false by simpa using List.all_eq_true.1 hall t hm)

theorem card : Rows.StoreOrderCardSaid :=
  Claim7.holds_tied_plain_at .later [] _ _ _ _ said (fun _ h => by cases h) (by kernel_rfl) (fun _ h => by cases h) storeOrder_row_tie rfl ⟨rfl, rfl⟩ (by kernel_rfl) rfl plain (by kernel_rfl)

end Go.Proofs.YthnlldojidocoaaDoor.lorder
