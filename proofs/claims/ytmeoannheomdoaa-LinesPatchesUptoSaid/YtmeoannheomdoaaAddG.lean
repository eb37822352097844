/- (*merger).add. -/
import Derived.Deep.RegionLaw
import Derived.Test.YtmeoannheomdoaaApp
namespace Go.Proofs.Ytmeoannheomdoaa
open Go.RowKit

def AddGPost (w : World) (M : Nat) (base left right : List ByteArray) (Ab Al Ar : Option Addr) (cb cl cr : Nat) (m : Ms ByteArray) (e : Ending) (w' : World) : Prop :=
  (∃ v, e = .returned v) ∧ Mer w' M base left right Ab Al Ar cb cl cr m ∧ Kept M w w'

set_option maxRecDepth 100000 in
set_option maxHeartbeats 2000000 in
theorem addG_any (M : Nat) (base left right : List ByteArray) (Ab Al Ar : Option Addr) (cb cl cr : Nat) (m : Ms ByteArray) (g : Gp) (A B : Option Addr) (c d sl tl sr tr : Nat) (w : World)
    (hm : Mer w M base left right Ab Al Ar cb cl cr m) (hA : HT w A c g.left) (hB : HT w B d g.right) (hpos : 0 < g.left.length + g.right.length)
    (hL : SideOk left.length g.lo g.hi sl tl g.left) (hR : SideOk right.length g.lo g.hi sr tr g.right) (hsl : small g.left) (hsr : small g.right) (hlo : g.lo ≤ 1073741824) (hhi : g.hi ≤ 1073741824) (hll : g.left.length ≤ 1073741824) (hrl : g.right.length ≤ 1073741824) (hlt1 : left.length ≤ 1073741824) (hrt1 : right.length ≤ 1073741824)
    (hd1 : m.done ≤ g.lo) (hd2 : g.lo ≤ base.length) (hml : m.merged.length ≤ 1099511627776) (hmc : m.conf.length ≤ 1099511627776) (hcl : ∀ l, changed left right g = some l → l.length ≤ 1073741824) :
    Calls Try.prog 46 #[.pointer (some ⟨M, 0, none⟩), gpV g A c B d] w (AddGPost w M base left right Ab Al Ar cb cl cr (addG base left right m g)) := by
  have hch := fun W (h1 : Mer W M base left right Ab Al Ar cb cl cr m) (h2 : HT W A c g.left) (h3 : HT W B d g.right) => changed_any M base left right Ab Al Ar cb cl cr m g A B c d sl tl sr tr W h1 h2 h3 hpos hL hR hsl hsr (by omega) (by omega) (by omega) (by omega) hlt1 hrt1
  obtain ⟨lo, hi, L, R⟩ := g
  dsimp only at *
  unfold addG gpV at *
  dsimp only at *
  have hMw : M < w.heap.size := by obtain ⟨_, _, _, _, hF, _⟩ := hm; exact hF.lt
  obtain ⟨w0, hw0⟩ : ∃ w0, w.alloc (.cells #[.int .i64 (lo : Int), .int .i64 (hi : Int), .slice A L.length c, .slice B R.length d] 76) = w0 := ⟨_, rfl⟩
  have hB0 : Below w.heap.size w w0 := by rw [← hw0]; exact (Below.refl _ w).alloc (Nat.le_refl _) _
  have hF0 : Full w0 w.heap.size 76 [.int .i64 (lo : Int), .int .i64 (hi : Int), .slice A L.length c, .slice B R.length d] := by rw [← hw0]; exact Full.new _ _ _
  have k0 : w0.cell? ⟨w.heap.size, 0, none⟩ = some (.int .i64 (lo : Int)) := hF0.cell 0
  have k1 : w0.cell? ⟨w.heap.size, 1, none⟩ = some (.int .i64 (hi : Int)) := hF0.cell 1
  have k2 : w0.cell? ⟨w.heap.size, 2, none⟩ = some (.slice A L.length c) := hF0.cell 2
  have k3 : w0.cell? ⟨w.heap.size, 3, none⟩ = some (.slice B R.length d) := hF0.cell 3
  have hm0 := hm.on hB0
  have hK0 := Kept.below (M := M) hB0 (by omega)
  have hcall := hch w0 hm0 (hA.keep (KeepT.below hB0)) (hB.keep (KeepT.below hB0))
  clear hch
  cases hR' : changed left right ⟨lo, hi, L, R⟩ with
  | none =>
    rw [hR'] at hcall
    obtain ⟨Z, HZ⟩ : ∃ Z : Ms ByteArray, Hid ((⟨m.merged, m.done, m.conf ++ [(lo, hi)]⟩ : Ms ByteArray) = Z) := ⟨_, Lib.hid rfl⟩
    dsimp only
    rw [HZ.out]
    clear hR' hcl
    go_enter Try.func46, Try.ntmps46
    go_wp2_with (go_at_call 57; refine hcall.mono ?_; rintro e w1 ⟨rfl, hb1⟩)
    have hm1 := hm0.on hb1
    have hK1 := hK0.trans (Kept.below (M := M) hb1 (by have := hF0.lt; omega))
    have hF1 := hF0.on hb1
    have j0 : w1.cell? ⟨w.heap.size, 0, none⟩ = some (.int .i64 (lo : Int)) := hF1.cell 0
    have j1 : w1.cell? ⟨w.heap.size, 1, none⟩ = some (.int .i64 (hi : Int)) := hF1.cell 1
    obtain ⟨Am, cm, Ac, cc, hF, h1, h2, h3, h4, h5⟩ := hm1
    have c5 : w1.cell? ⟨M, 5, none⟩ = some (.slice Ac m.conf.length cc) := hF.cell 5
    have f5 := hF.frozen 5
    obtain ⟨i55, hi5, hz0, hz1, hz2⟩ := info_parts info55
    have hM1 := hF.lt
    go_region_law
      ((refine step_append_lies _ (by rfl) _ _ _ (by rfl) M 55 i55 _ 2 16 Try.underlying46 hi5 hz0 hz1 hz2 rfl (by omega) (.slice Ac m.conf.length cc) m.conf.length _ (by rfl) ((h2.alloc _).drew) ⟨w1.heap.size, 0, none⟩ 1 1 (spC (lo, hi)) (by rfl) (by rfl) (World.news_of_block (cs := (spC (lo, hi)).toArray) (t := 55) (fr := (0, 0)) (heap_alloc_new w1 _)) (by simp [Value.oneCell', spC]) (by omega) (by unfold maxLen; omega) (by omega) (by simp; omega) (w1.heap.size + 1) (by simp) ?_; intro gg cap w2 hown1 hgrow hat hlt; have hFx := ((hF.alloc _).drew).grown hgrow (hF.not_row h2 (by decide)); have x5 : w2.cell? ⟨M, 5, none⟩ = some (.slice Ac m.conf.length cc) := hFx.cell 5; have y5 := hFx.frozen 5))
    all_goals
      go_wp2
      go_end0
      have hfin := Mer.conf_ (m := m) hF h1 h2 h3 h4 h5 (((Below.refl _ w1).alloc (Nat.le_refl _) _).drew) hown1 hgrow
      rw [HZ.out] at hfin
      exact ⟨⟨_, rfl⟩, hfin.1, hK1.trans hfin.2⟩
  | some l =>
    rw [hR'] at hcall
    have hll2 := hcl l hR'
    have hcbw : base.length ≤ cb := by obtain ⟨_, _, _, _, _, _, _, h3, _⟩ := hm; exact h3.cap
    obtain ⟨A', hr, hpl, hpS⟩ := strs_lh Ab base cb m.done lo hd1 hd2 hcbw
    obtain ⟨part, hpart⟩ : ∃ part, (base.drop m.done).take (lo - m.done) = part := ⟨_, rfl⟩
    rw [hpart] at hpl hpS
    obtain ⟨Z, HZ⟩ : ∃ Z : Ms ByteArray, Hid ((⟨m.merged ++ part ++ l, hi, m.conf⟩ : Ms ByteArray) = Z) := ⟨_, Lib.hid rfl⟩
    dsimp only
    rw [hpart, HZ.out]
    have HPS := Lib.hid hpS
    have HPL := Lib.hid hpl
    clear hR' hcl hpart hpS hpl
    go_enter Try.func46, Try.ntmps46
    go_upto_region 4 with (go_at_call 57; refine hcall.mono ?_; rintro e w1 ⟨⟨X, _, cX, rfl, rfl, hSX⟩, hb1⟩)
    have hm1 := hm0.on hb1
    have hK1 := hK0.trans (Kept.below (M := M) hb1 (by have := hF0.lt; omega))
    have hF1 := hF0.on hb1
    have j0 : w1.cell? ⟨w.heap.size, 0, none⟩ = some (.int .i64 (lo : Int)) := hF1.cell 0
    have j1 : w1.cell? ⟨w.heap.size, 1, none⟩ = some (.int .i64 (hi : Int)) := hF1.cell 1
    obtain ⟨Am, cm, Ac, cc, hF, h1, h2, h3, h4, h5⟩ := hm1
    have c0 : w1.cell? ⟨M, 0, none⟩ = some (.slice Ab base.length cb) := hF.cell 0
    have c3 : w1.cell? ⟨M, 3, none⟩ = some (.slice Am m.merged.length cm) := hF.cell 3
    have c4 : w1.cell? ⟨M, 4, none⟩ = some (.int .i64 (m.done : Int)) := hF.cell 4
    have f3 := hF.frozen 3
    have hM1 := hF.lt
    have hSp := HPS.out w1 M h3
    go_cut [] (fun wx => Mer wx M base left right Ab Al Ar cb cl cr ⟨m.merged ++ part, m.done, m.conf⟩ ∧ Kept M w1 wx)
    case first =>
      go_region_law
        ((refine step_app (by rfl) _ _ (by rfl) M (.slice Am m.merged.length cm) m.merged.length _ (by rfl) h1.drew M A' (lo - m.done) (cb - m.done) part (by rfl) HPL.out.symm hSp.drew (by omega) (by simp; omega) ?_; intro v' w2 hown2 hg2; obtain ⟨A2, c2, rfl⟩ := own_form hown2; have hFx := (hF.drew).grown hg2 (hF.not_row h1 (by decide)); have x3 : w2.cell? ⟨M, 3, none⟩ = some (.slice Am m.merged.length cm) := hFx.cell 3; have y3 := hFx.frozen 3))
      all_goals (go_wp2_with fail; go_meet)
      all_goals (case rel => have q := Mer.app (w := w1.drew) hF h1.drew h2.drew h3.drew h4.drew h5.drew HPL.out.symm hown2 hg2; exact ⟨q.1, (Kept.below (M := M) ((Below.refl _ w1).drew) (by omega)).trans q.2⟩)
    case rest =>
      obtain ⟨⟨Am2, cm2, Ac2, cc2, hF2, g1, g2, g3, g4, g5⟩, hK2⟩ := hcut
      dsimp only at hF2 g1 g2
      have hFb : Full wc w.heap.size 76 [.int .i64 (lo : Int), .int .i64 (hi : Int), .slice A L.length c, .slice B R.length d] := hK2.2.1.2 _ _ 76 (0, 0) (.inr rfl) hF1
      have hpl2 : (m.merged ++ part).length = m.merged.length + (lo - m.done) := by rw [List.length_append, HPL.out]
      obtain ⟨mp, hmp⟩ : ∃ mp, m.merged ++ part = mp := ⟨_, rfl⟩
      rw [hmp] at hF2 g1 hpl2
      have d3 : wc.cell? ⟨M, 3, none⟩ = some (.slice Am2 mp.length cm2) := hF2.cell 3
      have e3 := hF2.frozen 3
      have hSX2 := hSX.below hK2.1 (Nat.le_refl _)
      have hMc := hF2.lt
      have hmpl : mp.length ≤ 1100585369600 := by omega
      have HPL2 := Lib.hid hpl2
      have HMP := Lib.hid hmp
      clear hmp hpl2 c0 c3 c4 f3 j0 j1
      go_wp2_with (at_builtin; refine wpList_app rfl _ _ rfl M (.slice Am2 mp.length cm2) mp.length _ rfl g1 M X l.length cX l rfl rfl hSX2 (by omega) (by omega) ?_; intro v' w2 hown2 hg2; obtain ⟨A2, c2, rfl⟩ := own_form hown2; have hFx := hF2.grown hg2 (hF2.not_row g1 (by decide)); have x3 : w2.cell? ⟨M, 3, none⟩ = some (.slice Am2 mp.length cm2) := hFx.cell 3; have y3 := hFx.frozen 3; have x4 : w2.cell? ⟨M, 4, none⟩ = some (.int .i64 (m.done : Int)) := hFx.cell 4; have y4 := hFx.frozen 4; have z1 : w2.cell? ⟨w.heap.size, 1, none⟩ = some (.int .i64 (hi : Int)) := (hFb.grown hg2 (hFb.not_row g1 (by decide))).cell 1)
      go_end0
      have hfin := Mer.app (m := ⟨mp, m.done, m.conf⟩) hF2 g1 g2 g3 g4 g5 rfl hown2 hg2
      obtain ⟨⟨A6, c6, A7, c7, q1, q2, q3, q4, q5, q6⟩, hK3⟩ := hfin
      dsimp only at q1 q2 q3
      rw [← HZ.out, HMP.out]
      have hK4 := Kept.setM q1 4 (.int .i64 (hi : Int))
      refine ⟨⟨_, rfl⟩, ⟨A6, c6, A7, c7, q1.set_ 4 _, own_set q2 q1 (by decide) _ _, own_set q3 q1 (by decide) _ _, q4.below hK4.1 (Nat.le_refl _), q5.below hK4.1 (Nat.le_refl _), q6.below hK4.1 (Nat.le_refl _)⟩, ((hK1.trans hK2).trans hK3).trans hK4⟩

end Go.Proofs.Ytmeoannheomdoaa
