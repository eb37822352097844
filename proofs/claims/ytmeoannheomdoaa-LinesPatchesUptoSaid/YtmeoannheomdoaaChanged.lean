/- changed. -/
import Derived.StillTailTactics
import Derived.Test.YtmeoannheomdoaaGpOk
namespace Go.Proofs.Ytmeoannheomdoaa
open Go.RowKit

/-- The merger in block M. -/
def Mer (w : World) (M : Nat) (base left right : List ByteArray) (Ab Al Ar : Option Addr) (cb cl cr : Nat) (m : Ms ByteArray) : Prop :=
  ∃ Am cm Ac cc, Full w M 72 [.slice Ab base.length cb, .slice Al left.length cl, .slice Ar right.length cr, .slice Am m.merged.length cm, .int .i64 (m.done : Int), .slice Ac m.conf.length cc] ∧
    w.ownsRow M 9 1 (.slice Am m.merged.length cm) m.merged.length (strC m.merged) ∧ w.ownsRow M 55 2 (.slice Ac m.conf.length cc) m.conf.length (spsC m.conf) ∧ Strs w M Ab cb base ∧ Strs w M Al cl left ∧ Strs w M Ar cr right

def small (H : List Hk) : Prop := ∀ x ∈ H, x.a0 ≤ 4294967296 ∧ x.a1 ≤ 4294967296 ∧ x.b0 ≤ 4294967296 ∧ x.b1 ≤ 4294967296
/-- rangeIn, as the merger calls it -/
theorem range_side (S A : Option Addr) (side : List ByteArray) (c d lo hi s t : Nat) (H : List Hk) (hc : side.length ≤ c) (hO : SideOk side.length lo hi s t H) (hp : 0 < H.length) (hsm : small H) (hlo : lo ≤ 4294967296) (hhi : hi ≤ 4294967296) (hl : H.length ≤ 4294967296) :
    ∃ A' c', (rangeOf side lo hi H).length = t - s ∧ (∀ w B, Strs w B S c side → Strs w B A' c' (rangeOf side lo hi H)) ∧
      ∀ w, HT w A d H → Calls Try.prog 59 #[.slice S side.length c, .agg #[.int .i64 (lo : Int), .int .i64 (hi : Int)], .slice A H.length d] w fun e w' => e = .returned (.slice A' (t - s) c') ∧ Below w.heap.size w w' := by
  obtain ⟨hst, htm, hxy⟩ := hO
  obtain ⟨x, y, hx, hy, h1, h2⟩ := hxy hp
  obtain ⟨A', hr, hlen, hS⟩ := strs_lh S side c s t hst htm hc
  obtain ⟨k, hk⟩ : ∃ k, H.length = k + 1 := ⟨H.length - 1, by omega⟩
  have hrg : rangeOf side lo hi H = (side.drop s).take (t - s) := by
    cases H with
    | nil => simp at hp
    | cons z u =>
      simp at hx
      subst hx
      rw [List.getLast?_eq_some_getLast (by simp)] at hy
      injection hy with hy
      unfold rangeOf
      dsimp only
      rw [hy, show z.b0 + lo - z.a0 = s by omega, show y.b1 + hi - y.a1 = t by omega]
  refine ⟨A', c - s, by rw [hrg]; exact hlen, fun w B h => by rw [hrg]; exact hS w B h, fun w hH => ?_⟩
  have hxm := hsm x (List.mem_of_getElem? hx)
  have hym := hsm y (List.mem_of_getLast? hy)
  rw [hk]
  exact range_any S A A' side.length c (c - s) d lo hi s t H x y w hH k (by omega) hk hx (by rw [List.getLast?_eq_getElem?, hk] at hy; exact hy) hr h1 h2 hst ⟨hxm.1, hxm.2.2.1, hym.2.1, hym.2.2.2, hlo, hhi⟩

def ChangedOut (w : World) (M : Nat) (R : Option (List ByteArray)) (e : Ending) (w' : World) : Prop :=
  (match R with
   | some l => ∃ X n c, e = .returned (.tuple #[.slice X n c, .bool true]) ∧ n = l.length ∧ Strs w' M X c l
   | none => e = .returned (.tuple #[.slice none 0 0, .bool false])) ∧ Below w.heap.size w w'

set_option maxRecDepth 100000 in
set_option maxHeartbeats 1000000 in
theorem changed_any (M : Nat) (base left right : List ByteArray) (Ab Al Ar : Option Addr) (cb cl cr : Nat) (m : Ms ByteArray) (g : Gp) (A B : Option Addr) (c d sl tl sr tr : Nat) (w : World)
    (hm : Mer w M base left right Ab Al Ar cb cl cr m) (hA : HT w A c g.left) (hB : HT w B d g.right) (hpos : 0 < g.left.length + g.right.length)
    (hL : SideOk left.length g.lo g.hi sl tl g.left) (hR : SideOk right.length g.lo g.hi sr tr g.right) (hsl : small g.left) (hsr : small g.right) (hlo : g.lo ≤ 4294967296) (hhi : g.hi ≤ 4294967296) (hll : g.left.length ≤ 4294967296) (hrl : g.right.length ≤ 4294967296) (hlt1 : left.length ≤ 1073741824) (hrt1 : right.length ≤ 1073741824) :
    Calls Try.prog 57 #[.pointer (some ⟨M, 0, none⟩), gpV g A c B d] w (ChangedOut w M (changed left right g)) := by
  obtain ⟨Am, cm, Ac, cc, hF, _, _, hSb, hSl, hSr⟩ := hm
  obtain ⟨lo, hi, L, R⟩ := g
  dsimp only at *
  unfold gpV
  dsimp only
  have m1 : w.cell? ⟨M, 1, none⟩ = some (.slice Al left.length cl) := hF.cell 1
  have m2 : w.cell? ⟨M, 2, none⟩ = some (.slice Ar right.length cr) := hF.cell 2
  have hML := hF.lt
  obtain ⟨w0, hw0⟩ : ∃ w0, w.alloc (.cells #[.int .i64 (lo : Int), .int .i64 (hi : Int), .slice A L.length c, .slice B R.length d] 76) = w0 := ⟨_, rfl⟩
  have hB0 : Below w.heap.size w w0 := by rw [← hw0]; exact (Below.refl _ w).alloc (Nat.le_refl _) _
  have hF0 : Full w0 w.heap.size 76 [.int .i64 (lo : Int), .int .i64 (hi : Int), .slice A L.length c, .slice B R.length d] := by rw [← hw0]; exact Full.new _ _ _
  have k0 : w0.cell? ⟨w.heap.size, 0, none⟩ = some (.int .i64 (lo : Int)) := hF0.cell 0
  have k1 : w0.cell? ⟨w.heap.size, 1, none⟩ = some (.int .i64 (hi : Int)) := hF0.cell 1
  have k2 : w0.cell? ⟨w.heap.size, 2, none⟩ = some (.slice A L.length c) := hF0.cell 2
  have k3 : w0.cell? ⟨w.heap.size, 3, none⟩ = some (.slice B R.length d) := hF0.cell 3
  have m1' : w0.cell? ⟨M, 1, none⟩ = some (.slice Al left.length cl) := (hB0.cell (p := ⟨M, 1, none⟩) hML).trans m1
  have m2' : w0.cell? ⟨M, 2, none⟩ = some (.slice Ar right.length cr) := (hB0.cell (p := ⟨M, 2, none⟩) hML).trans m2
  have hA0 := hA.keep (KeepT.below hB0)
  have hBB0 := hB.keep (KeepT.below hB0)
  clear m1 m2
  by_cases hr0 : R.length = 0
  · have hlp : 0 < L.length := by omega
    obtain ⟨X, cX, hXl, hXs, hcall⟩ := range_side Al A left cl c lo hi sl tl L hSl.cap hL hlp hsl hlo hhi hll
    have hch : changed left right ⟨lo, hi, L, R⟩ = some (rangeOf left lo hi L) := by unfold changed; rw [if_pos hr0]
    rw [hch]
    have HXS := Lib.hid hXs
    have HXL := Lib.hid hXl
    have hcl := hcall _ (hA0.keep (KeepT.below ((Below.refl _ w0).drew)))
    have hz : ((R.length : Int) == 0) = true := by simp [hr0]
    have HR0 := Lib.hid hr0
    clear hch hXs hXl hcall hr0 hpos
    go_enter Try.func57, Try.ntmps57
    go_wp2
    go_still_tail 8, (by kernel_rfl)
    change wpList _ _ _ _ _ w0.drew
    go_wp2_with (go_at_call 59; refine hcl.mono ?_; rintro e w2 ⟨rfl, hb2⟩)
    go_ret2
    have hB2 : Below w.heap.size w w2 := hB0.trans ((Below.drew (Below.refl _ w0)).trans (hb2.mono hB0.size))
    exact ⟨⟨X, _, cX, rfl, HXL.out.symm, HXS.out _ _ (hSl.below hB2 (by omega))⟩, hB2⟩
  · have hz : ((R.length : Int) == 0) = false := by rw [beq_eq_false_iff_ne]; omega
    by_cases hl0 : L.length = 0
    · have hrp : 0 < R.length := by omega
      obtain ⟨X, cX, hXl, hXs, hcall⟩ := range_side Ar B right cr d lo hi sr tr R hSr.cap hR hrp hsr hlo hhi hrl
      have hch : changed left right ⟨lo, hi, L, R⟩ = some (rangeOf right lo hi R) := by unfold changed; rw [if_neg hr0, if_pos hl0]
      rw [hch]
      have HXS := Lib.hid hXs
      have HXL := Lib.hid hXl
      have hcl := hcall _ (hBB0.keep (KeepT.below ((Below.refl _ w0).drew)))
      have hz2 : ((L.length : Int) == 0) = true := by simp [hl0]
      have HL0 := Lib.hid hl0
      have HR0 := Lib.hid hr0
      clear hch hXs hXl hcall hr0 hl0 hpos hrp
      go_enter Try.func57, Try.ntmps57
      go_wp2
      go_still_tail 8, (by kernel_rfl)
      change wpList _ _ _ _ _ w0.drew
      go_wp2_with (go_at_call 59; refine hcl.mono ?_; rintro e w2 ⟨rfl, hb2⟩)
      go_ret2
      have hB2 : Below w.heap.size w w2 := hB0.trans ((Below.drew (Below.refl _ w0)).trans (hb2.mono hB0.size))
      exact ⟨⟨X, _, cX, rfl, HXL.out.symm, HXS.out _ _ (hSr.below hB2 (by omega))⟩, hB2⟩
    · have hz2 : ((L.length : Int) == 0) = false := by rw [beq_eq_false_iff_ne]; omega
      obtain ⟨X, cX, hXl, hXs, hcallX⟩ := range_side Al A left cl c lo hi sl tl L hSl.cap hL (by omega) hsl hlo hhi hll
      obtain ⟨Y, cY, hYl, hYs, hcallY⟩ := range_side Ar B right cr d lo hi sr tr R hSr.cap hR (by omega) hsr hlo hhi hrl
      have hch : changed left right ⟨lo, hi, L, R⟩ = if rangeOf left lo hi L = rangeOf right lo hi R then some (rangeOf left lo hi L) else none := by unfold changed; rw [if_neg hr0, if_neg hl0]
      rw [hch]
      obtain ⟨LX, HLX⟩ : ∃ LX, Hid (rangeOf left lo hi L = LX) := ⟨_, Lib.hid rfl⟩
      obtain ⟨LY, HLY⟩ : ∃ LY, Hid (rangeOf right lo hi R = LY) := ⟨_, Lib.hid rfl⟩
      rw [HLX.out] at hXl hXs ⊢
      rw [HLY.out] at hYl hYs ⊢
      obtain ⟨RR, HRR⟩ : ∃ RR, Hid ((if LX = LY then some LX else none) = RR) := ⟨_, Lib.hid rfl⟩
      rw [HRR.out]
      have HXS := Lib.hid hXs
      have HXL := Lib.hid hXl
      have HYS := Lib.hid hYs
      have HYL := Lib.hid hYl
      have HR0 := Lib.hid hr0
      have HL0 := Lib.hid hl0
      clear hch hXs hXl hYs hYl hr0 hl0 hpos
      go_enter Try.func57, Try.ntmps57
      go_upto_region 5 with fail
      go_cut [6, 7] (fun s6 s7 wx => s6 = .slice X (tl - sl) cX ∧ s7 = .slice Y (tr - sr) cY ∧ Below w.heap.size w wx)
      case first =>
        have v1 : w0.drew.cell? ⟨M, 1, none⟩ = some (.slice Al left.length cl) := m1'
        have v2 : w0.drew.cell? ⟨M, 2, none⟩ = some (.slice Ar right.length cr) := m2'
        have v3 : w0.drew.cell? ⟨w.heap.size, 0, none⟩ = some (.int .i64 (lo : Int)) := k0
        have v4 : w0.drew.cell? ⟨w.heap.size, 1, none⟩ = some (.int .i64 (hi : Int)) := k1
        have v5 : w0.drew.cell? ⟨w.heap.size, 2, none⟩ = some (.slice A L.length c) := k2
        have v6 : w0.drew.cell? ⟨w.heap.size, 3, none⟩ = some (.slice B R.length d) := k3
        have u1 : Unit → HT w0.drew A c L := fun _ => hA0.keep (KeepT.below ((Below.refl _ w0).drew))
        have u2 : Unit → HT w0.drew B d R := fun _ => hBB0.keep (KeepT.below ((Below.refl _ w0).drew))
        have u3 : Unit → Below w.heap.size w w0.drew := fun _ => hB0.drew
        have u4 : w.heap.size < w0.drew.heap.size := hF0.lt
        go_region_held3 (fun w' => w'.cell? ⟨M, 1, none⟩ = some (.slice Al left.length cl) ∧ w'.cell? ⟨M, 2, none⟩ = some (.slice Ar right.length cr) ∧ w'.cell? ⟨w.heap.size, 0, none⟩ = some (.int .i64 (lo : Int)) ∧ w'.cell? ⟨w.heap.size, 1, none⟩ = some (.int .i64 (hi : Int)) ∧
            w'.cell? ⟨w.heap.size, 2, none⟩ = some (.slice A L.length c) ∧ w'.cell? ⟨w.heap.size, 3, none⟩ = some (.slice B R.length d) ∧ (Unit → Below w.heap.size w w') ∧ w.heap.size < w'.heap.size)
          ((go_split_ands; (and_intros <;> first | assumption | exact (hb.cell (show M < _ by omega)).trans (by assumption) | exact (hb.cell (show w.heap.size < _ by assumption)).trans (by assumption) | exact fun _ => ((by assumption : Unit → Below w.heap.size w _) ()).trans (hb.mono (Nat.le_of_lt (by assumption))) | exact Nat.lt_of_lt_of_le (by assumption) hb.size)))
          (first
            | (go_at_call_of 59 (Value.slice Al left.length cl); refine (hcallX _ (by first | exact u1 () | exact HT.keep (u1 ()) (KeepT.below hb))).mono ?_; rintro e w1 ⟨rfl, hb⟩)
            | (go_at_call_of 59 (Value.slice Ar right.length cr); refine (hcallY _ (by first | exact u2 () | exact HT.keep (u2 ()) (KeepT.below hb))).mono ?_; rintro e w1 ⟨rfl, hb⟩))
        all_goals (go_wp2_with fail; go_meet)
        all_goals (case rel => exact ⟨rfl, rfl, (by go_split_ands; exact (by assumption : Unit → Below w.heap.size w _) ())⟩)
      case rest =>
        obtain ⟨rfl, rfl, hBc⟩ := hcut
        have hSX := HXS.out wc wc.heap.size ((hSl.below hBc (by omega)).more (by have := hBc.size; omega))
        have hSY := HYS.out wc wc.heap.size ((hSr.below hBc (by omega)).more (by have := hBc.size; omega))
        have hSX2 := HXS.out wc M (hSl.below hBc (by omega))
        have hst := start_any X Y _ _ cX cY wc hSX hSY (by unfold maxLen; rw [HXL.out]; have := hL.2.1; omega) (by unfold maxLen; rw [HYL.out]; have := hR.2.1; omega)
        rw [HXL.out, HYL.out] at hst
        have hpx := pre_le LX LY
        rw [HXL.out, HYL.out] at hpx
        obtain ⟨nx, hnx⟩ : ∃ nx, tl - sl = nx := ⟨_, rfl⟩
        obtain ⟨ny, hny⟩ : ∃ ny, tr - sr = ny := ⟨_, rfl⟩
        rw [hnx, hny] at hst hpx
        rw [hnx] at HXL ⊢
        rw [hny] at HYL ⊢
        obtain ⟨p, hp⟩ : ∃ p, pre LX LY = p := ⟨_, rfl⟩
        rw [hp] at hst hpx
        have HP := Lib.hid hp
        clear hp hnx hny hSX hSY
        by_cases hn : nx = ny
        · have hnb : ((nx : Int) == (ny : Int)) = true := by rw [hn]; simp
          have hnb2 : ((nx : Int) != (ny : Int)) = false := by rw [hn]; simp
          by_cases hlt : p < nx
          · have hne : ¬ LX = LY := by
              rintro rfl
              have : pre LX LX = LX.length := pre_of LX LX LX.length (Nat.le_refl _) (Nat.le_refl _) (fun _ _ _ _ => rfl) (fun h => absurd h (Nat.lt_irrefl _))
              rw [HP.out, HXL.out] at this
              omega
            have HNE := Lib.hid hne
            have HN := Lib.hid hn
            clear hne hn
            go_wp2_with (go_at_call 38; refine hst.mono ?_; rintro e w2 ⟨rfl, q, rfl⟩)
            go_ret2
            rw [← HRR.out, if_neg HNE.out]
            exact ⟨rfl, Below.drewN_ hBc q⟩
          · have hpn : p = nx := by omega
            have heq : LX = LY := by
              apply List.ext_getElem (by rw [HXL.out, HYL.out]; exact hn)
              intro k h1 h2
              exact pre_at (by rw [HP.out, hpn]; rw [HXL.out] at h1; exact h1) h1 h2
            have HEQ := Lib.hid heq
            have HN := Lib.hid hn
            clear heq hn hpn
            go_wp2_with (go_at_call 38; refine hst.mono ?_; rintro e w2 ⟨rfl, q, rfl⟩)
            go_ret2
            rw [← HRR.out, if_pos HEQ.out]
            exact ⟨⟨X, _, cX, rfl, HXL.out.symm, hSX2.drewN q⟩, Below.drewN_ hBc q⟩
        · have hnb : ((nx : Int) == (ny : Int)) = false := by rw [beq_eq_false_iff_ne]; omega
          have hnb2 : ((nx : Int) != (ny : Int)) = true := by simp; omega
          have hne : ¬ LX = LY := by
            rintro rfl
            rw [HXL.out] at HYL
            exact hn HYL.out
          have HNE := Lib.hid hne
          clear hne
          go_wp2_with (go_at_call 38; refine hst.mono ?_; rintro e w2 ⟨rfl, q, rfl⟩)
          go_ret2
          rw [← HRR.out, if_neg HNE.out]
          exact ⟨rfl, hBc⟩

end Go.Proofs.Ytmeoannheomdoaa
