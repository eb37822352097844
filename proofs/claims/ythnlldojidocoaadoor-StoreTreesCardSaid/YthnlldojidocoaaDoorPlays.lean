/- plays: actions on both stores (entries as they come). -/
import Derived.Test.YthnlldojidocoaaDoorBoth
namespace Go.Proofs.YthnlldojidocoaaDoor
open Go.RowKit Go.Maps

abbrev Action := Bool × ByteArray × List Trip
structure Acts (w : World) (M : Nat) (A : Option Addr) (us : List Action) : Prop where
  at_ : ∀ k (hk : k < us.length), ∃ ad Ai ci, A = some ad ∧ ad.block < M ∧ w.cell? (ad.add (k * 3)) = some (.bool us[k].1) ∧ w.cell? ⟨(ad.add (k * 3)).block, (ad.add (k * 3)).off + 1, none⟩ = some (.string us[k].2.1) ∧
    w.cell? ⟨(ad.add (k * 3)).block, (ad.add (k * 3)).off + 2, none⟩ = some (.slice Ai us[k].2.2.length ci) ∧ Trips w M Ai ci us[k].2.2 ∧ us[k].2.2.length ≤ maxLen
theorem Acts.on {w w' : World} {M : Nat} {A : Option Addr} {us : List Action} (h : Acts w M A us) (hb : Below w.heap.size w w') (hM : M ≤ w.heap.size) : Acts w' M A us where
  at_ := fun k hk => by
    obtain ⟨ad, Ai, ci, e, hl, c0, c1, c2, ht, hm⟩ := h.at_ k hk
    have hk : ∀ a : Addr, (∃ u, w.cell? a = some u) → w'.cell? a = w.cell? a := fun a ⟨u, hu⟩ => hb.cell (World.block_lt_of_cell? w _ hu)
    exact ⟨ad, Ai, ci, e, hl, (hk _ ⟨_, c0⟩).trans c0, (hk _ ⟨_, c1⟩).trans c1, (hk _ ⟨_, c2⟩).trans c2, Row.below ht hb hM, hm⟩

theorem ents_of {w1 : World} {B : Nat} {A : Option Addr} {c : Nat} {es : List Ent} (h : RowF w1 (fun g => B ≤ g ∧ g < w1.heap.size) 3 A es.length c (entsC es)) : Ents w1 w1.heap.size A c es := h.row fun g hg => hg.2
theorem ents_goes {w1 w2 : World} {B : Nat} {F F' : Nat → Prop} {A : Option Addr} {c : Nat} {es : List Ent} (h : RowF w1 (fun g => B ≤ g ∧ g < w1.heap.size) 3 A es.length c (entsC es)) (hF : ∀ g, F g → g < B) (hg : Goes F w1 w2 F') : Ents w2 w2.heap.size A c es := by
  have h2 : RowF w2 (fun g => g < w2.heap.size) 3 A es.length c (entsC es) := h.keep fun g hb => ⟨Nat.lt_of_lt_of_le hb.2 hg.turn.size, hg.turn.block g hb.2 fun e => by have := hF g e; omega⟩
  exact h2.row fun g hb => hb

def PlayOut (w : World) (p q : Nat) (e : Ending) (W' : World) : Prop := e = .returned (.bool true) ∧ ∃ os F G, os.length ≤ 40 ∧ Two w W' p q os F G

set_option maxRecDepth 100000 in
set_option maxHeartbeats 8000000 in
theorem plays_any {w W : World} {p q : Nat} {F0 G0 : Nat → Prop} (A : Option Addr) (us : List Action) (c : Nat) (h0 : Two w W p q [] F0 G0) (hA : Acts w w.heap.size A us) (hn : us.length ≤ maxLen) (hc : us.length ≤ c) :
    Calls Tryd.prog 16 #[.pointer (some ⟨p, 0, none⟩), .pointer (some ⟨q, 0, none⟩), .slice A us.length c, .bool false] W (PlayOut w p q) := by
  unfold maxLen at hn
  obtain ⟨n, hnn⟩ : ∃ n, us.length = n := ⟨_, rfl⟩
  have HNN := Lib.hid hnn
  rw [hnn] at hn hc ⊢
  have HA := Lib.hid hA
  have H0 := Lib.hid h0
  clear hA hnn h0
  go_enter Tryd.func16, Tryd.ntmps16
  go_wp2_with fail
  go_loopw [9] (fun v9 wr => ∃ (k : Nat) (os : List Ob) (F G : Nat → Prop), k ≤ n ∧ k ≤ 40 ∧ v9 = .int .i64 (k : Int) ∧ os.length ≤ k ∧ Hid (Two w wr p q os F G)) (fun v9 _ => n - (intOf v9).toNat)
  case atStart => exact ⟨0, [], F0, G0, by omega, by omega, rfl, by simp, H0⟩
  case round =>
    obtain ⟨k, os, F, G, hk, hk40, rfl, hos, H2⟩ := hrel
    have hi0 : (0 : Int) ≤ (k : Int) := Int.natCast_nonneg _
    by_cases hlt : k < n ∧ k < 40
    · obtain ⟨hlt, h40⟩ := hlt
      have hi1 : (k : Int) < (n : Int) := by omega
      have hi40 : (k : Int) < 40 := by omega
      have hkl : k < us.length := by have := HNN.out; omega
      obtain ⟨ad, Ai, ci, rfl, _, z0, z1, z2, hT, hml⟩ := (HA.out.on H2.out.st.below (Nat.le_refl _)).at_ k hkl
      obtain ⟨a, ha⟩ : ∃ a, us[k] = a := ⟨_, rfl⟩
      rw [ha] at z0 z1 z2 hT hml
      obtain ⟨tr, tx, qs⟩ := a
      dsimp only at z0 z1 z2 hT hml
      obtain ⟨m, hm⟩ : ∃ m, qs.length = m := ⟨_, rfl⟩
      have HM := Lib.hid hm
      rw [hm] at z2
      have hFq := Full.new wr 64 [.bool tr, .string tx, .slice Ai m ci]
      have H3 : Hid (Two w (wr.alloc (.cells #[.bool tr, .string tx, .slice Ai m ci] 64)) p q os F G) := Lib.hid (H2.out.on ((Below.refl _ wr).alloc (Nat.le_refl _) _))
      have hbw := H2.out.st.below.size
      have hTq := Row.below hT ((Below.refl _ wr).alloc (Nat.le_refl _) (.cells #[.bool tr, .string tx, .slice Ai m ci] 64)) hbw
      have HTQ := Lib.hid hTq
      have hgF : ¬ F wr.heap.size := fun e => by have := (H2.out.st.st.in_ _ e).2; omega
      have hgG : ¬ G wr.heap.size := fun e => by have := (H2.out.rf.in_ _ e).2; omega
      have hqs : (wr.alloc (.cells #[.bool tr, .string tx, .slice Ai m ci] 64)).heap.size = wr.heap.size + 1 := by simp
      have n0 : (wr.alloc (.cells #[.bool tr, .string tx, .slice Ai m ci] 64)).cell? ⟨wr.heap.size, 0, none⟩ = some (.bool tr) := hFq.cell 0
      have n1 : (wr.alloc (.cells #[.bool tr, .string tx, .slice Ai m ci] 64)).cell? ⟨wr.heap.size, 1, none⟩ = some (.string tx) := hFq.cell 1
      have n2 : (wr.alloc (.cells #[.bool tr, .string tx, .slice Ai m ci] 64)).cell? ⟨wr.heap.size, 2, none⟩ = some (.slice Ai m ci) := hFq.cell 2
      have HFQ := Lib.hid hFq
      have HGF := Lib.hid hgF
      have HGG := Lib.hid hgG
      have HQS := Lib.hid hqs
      have hfine := H2.out.st.st.fine
      clear hT hTq ha hm hFq hgF hgG hqs
      cases tr with
      | false =>
        obtain ⟨rk, re, os', hl', cs, cr⟩ := blob_res w p q os (by omega) hfine tx
        have CS := Lib.hid cs
        have CR := Lib.hid cr
        have NS := Lib.hid (fun (W : World) (F : Nat → Prop) (h : StW w W p os' F) => (show Calls Tryd.prog 19 #[.pointer (some ⟨p, 0, none⟩)] W fun e w' => e = .returned (.int .i64 (os'.length : Int)) ∧ W = w' from many_some h.st))
        have NR := Lib.hid (fun (W : World) (G : Nat → Prop) (h : IsRef w.heap.size W q os' G) => (show Calls Tryd.prog 27 #[.pointer (some ⟨q, 0, none⟩)] W fun e w' => e = .returned (.int .i64 (os'.length : Int)) ∧ W = w' from refMany_any h))
        obtain ⟨n', hn'⟩ : ∃ n', os'.length = n' := ⟨_, rfl⟩
        have HN' := Lib.hid hn'
        rw [hn'] at NS NR hl'
        clear cs cr hn' hfine
        go_wp2_with (first
          | (go_at_call 18; ((with_reducible refine (CS.out _ F H3.out.st).mono ?_); rintro e w1 ⟨rfl, F1, hs1, hg1⟩; (have hF1 := (hg1.turn.block wr.heap.size (by have := HQS.out; omega) HGF.out).trans HFQ.out); (have x1 : w1.cell? ⟨wr.heap.size, 1, none⟩ = some (.string tx) := Full.cell hF1 1); (have hx := H3.out.fst hs1 hg1); (have hr1 := hx.1); (have hap1 := hx.2)))
          | (go_at_call 22; ((with_reducible refine (CR.out _ G hr1).mono ?_); rintro e w2 ⟨rfl, G2, hr2, hg2⟩; (have h2 := Two.snd hs1 hr1 hap1 hr2 hg2); (have hs2 := h2.st)))
          | (go_at_call 19; ((with_reducible refine (NS.out _ _ hs2).mono ?_); rintro e w3 ⟨rfl, rfl⟩))
          | (go_at_call 27; ((with_reducible refine (NR.out _ _ hr2).mono ?_); rintro e w3 ⟨rfl, rfl⟩)))
        go_roundw
        case rel => exact ⟨k + 1, os', F1, G2, by omega, by omega, by go_num, by have := HN'.out; omega, Lib.hid h2⟩
        case measure => simp [intOf]; omega
      | true =>
        obtain ⟨L, hL⟩ : ∃ L, os.length = L := ⟨_, rfl⟩
        have hl6 := actL_len L qs
        obtain ⟨rk, re, os', hl', cs, cr⟩ := tree_res w p q os (by omega) hfine (actL L qs) (by omega) (actL_sound L (by omega) qs)
        obtain ⟨wq, hwq⟩ : ∃ wq, wr.alloc (.cells #[.bool true, .string tx, .slice Ai m ci] 64) = wq := ⟨_, rfl⟩
        have HWQ := Lib.hid hwq
        have cl := fun (W : World) (hW : Below wq.heap.size wq W) => list_any w.heap.size Ai qs ci W true tx L (by omega) (Row.below HTQ.out (hwq ▸ hW) (by have := HQS.out; omega)) (by have := hW.size; have := HQS.out; rw [hwq] at this; omega) hml
        rw [HM.out] at cl
        obtain ⟨es, hes⟩ : ∃ es, actL L qs = es := ⟨_, rfl⟩
        rw [hes] at cl cs cr
        unfold ListOut at cl
        have CL := Lib.hid cl
        have CS := Lib.hid cs
        have CR := Lib.hid cr
        have NO := Lib.hid (fun (W : World) (G : Nat → Prop) (h : IsRef w.heap.size W q os G) => refMany_any h)
        have NS := Lib.hid (fun (W : World) (F : Nat → Prop) (h : StW w W p os' F) => (show Calls Tryd.prog 19 #[.pointer (some ⟨p, 0, none⟩)] W fun e w' => e = .returned (.int .i64 (os'.length : Int)) ∧ W = w' from many_some h.st))
        have NR := Lib.hid (fun (W : World) (G : Nat → Prop) (h : IsRef w.heap.size W q os' G) => (show Calls Tryd.prog 27 #[.pointer (some ⟨q, 0, none⟩)] W fun e w' => e = .returned (.int .i64 (os'.length : Int)) ∧ W = w' from refMany_any h))
        rw [hL] at NO hl' hos
        obtain ⟨n', hn'⟩ : ∃ n', os'.length = n' := ⟨_, rfl⟩
        have HN' := Lib.hid hn'
        rw [hn'] at NS NR hl'
        clear cs cr cl hn' hfine hes hl6 hL hwq
        go_wp2_with fail
        have hwq := HWQ.out
        rw [hwq] at HFQ H3 HQS ⊢
        clear hwq n0 n1 n2
        have HFD := Lib.hid HFQ.out.drew
        have hbd : Below wq.heap.size wq wq.drew := Below.drewN_ (Below.refl _ wq) 1
        have HBD := Lib.hid hbd
        have H3D := Lib.hid (H3.out.on hbd)
        have n0 : wq.drew.cell? ⟨wr.heap.size, 0, none⟩ = some (.bool true) := HFD.out.cell 0
        have n1 : wq.drew.cell? ⟨wr.heap.size, 1, none⟩ = some (.string tx) := HFD.out.cell 1
        have n2 : wq.drew.cell? ⟨wr.heap.size, 2, none⟩ = some (.slice Ai m ci) := HFD.out.cell 2
        clear hbd
        go_region_held3 (fun w' => w'.cell? ⟨wr.heap.size, 0, none⟩ = some (.bool true) ∧ w'.cell? ⟨wr.heap.size, 1, none⟩ = some (.string tx) ∧ w'.cell? ⟨wr.heap.size, 2, none⟩ = some (.slice Ai m ci))
          (first | (with_reducible exact ⟨n0, n1, n2⟩) | (with_reducible exact ⟨m0, m1, m2⟩) | (refine ⟨?_, ?_, ?_⟩ <;> with_reducible assumption))
          (first
            | (go_at_call 27; ((with_reducible refine (NO.out _ _ H3D.out.rf).mono ?_); rintro e w2 ⟨rfl, rfl⟩))
            | (go_at_call 26; ((with_reducible refine (CL.out _ HBD.out).mono ?_); rintro e w1 ⟨A1, c1, rfl, hR1, hb1⟩; (have hF1 := HFD.out.on hb1); (have h1 := H3D.out.on hb1); (have m0 : w1.cell? ⟨wr.heap.size, 0, none⟩ = some (.bool true) := hF1.cell 0); (have m1 : w1.cell? ⟨wr.heap.size, 1, none⟩ = some (.string tx) := hF1.cell 1); (have m2 : w1.cell? ⟨wr.heap.size, 2, none⟩ = some (.slice Ai m ci) := hF1.cell 2))))
        trace "END"
        go_wp2_with (first
          | (go_at_call 21; ((with_reducible refine (CS.out _ F _ _ h1.st (ents_of hR1)).mono ?_); rintro e w2 ⟨rfl, F2, hs2, hg2⟩; (have hx := h1.fst hs2 hg2); (have hr2 := hx.1); (have hap2 := hx.2); (have hE2 := ents_goes hR1 (fun g e => (H3D.out.st.st.in_ g e).2) hg2)))
          | (go_at_call 29; ((with_reducible refine (CR.out _ G _ _ hr2 hE2).mono ?_); rintro e w3 ⟨rfl, G3, hr3, hg3⟩; (have h3 := Two.snd hs2 hr2 hap2 hr3 hg3); (have hs3 := h3.st)))
          | (go_at_call 19; ((with_reducible refine (NS.out _ _ hs3).mono ?_); rintro e w4 ⟨rfl, rfl⟩))
          | (go_at_call 27; ((with_reducible refine (NR.out _ _ hr3).mono ?_); rintro e w4 ⟨rfl, rfl⟩)))
        go_roundw
        case rel => exact ⟨k + 1, os', F2, G3, by omega, by omega, by go_num, by have := HN'.out; omega, Lib.hid h3⟩
        case measure => simp [intOf]; omega
    · by_cases hlt2 : k < n
      · obtain rfl : k = 40 := by omega
        have hi1 : ((40 : Nat) : Int) < (n : Int) := by omega
        go_wp2
        go_ret
        exact ⟨rfl, os, F, G, hos, H2.out⟩
      · obtain rfl : k = n := by omega
        go_wp2
        go_ret
        exact ⟨rfl, os, F, G, by omega, H2.out⟩
end Go.Proofs.YthnlldojidocoaaDoor
