/- firstGroup. -/
import Derived.Test.YtmeoannheomdoaaGroup
namespace Go.Proofs.Ytmeoannheomdoaa
open Go.RowKit

theorem grow_left (n u : Nat) (h : Hk) (t r : List Hk) (hu : h.a0 ≤ u) : grow (n + 1) u (h :: t) r = ((grow n (max u h.a1) t r).1, (grow n (max u h.a1) t r).2.1 + 1, (grow n (max u h.a1) t r).2.2) := by
  rw [grow, headIn_cons, if_pos hu]
  rfl
theorem grow_right (n u : Nat) (l : List Hk) (h : Hk) (t : List Hk) (hl : headIn u l = none) (hu : h.a0 ≤ u) : grow (n + 1) u l (h :: t) = ((grow n (max u h.a1) l t).1, (grow n (max u h.a1) l t).2.1, (grow n (max u h.a1) l t).2.2 + 1) := by
  rw [grow, hl, headIn_cons, if_pos hu]
  rfl
theorem grow_stop (n u : Nat) (l r : List Hk) (hl : headIn u l = none) (hr : headIn u r = none) : grow n u l r = (u, 0, 0) := by
  cases n with
  | zero => rfl
  | succ n => rw [grow, hl, hr]
theorem headIn_end (u : Nat) (l : List Hk) {i : Nat} (h : l.length ≤ i) : headIn u (l.drop i) = none := by rw [List.drop_eq_nil_of_le h]; rfl
theorem headIn_over (u : Nat) (l : List Hk) {i : Nat} (hi : i < l.length) (h : ¬ l[i].a0 ≤ u) : headIn u (l.drop i) = none := by rw [List.drop_eq_getElem_cons hi, headIn_cons, if_neg h]

def GrowOk (l r : List Hk) (T I J u i j : Nat) : Prop := (grow (l.length - i + (r.length - j)) u (l.drop i) (r.drop j)).1 = T ∧ i + (grow (l.length - i + (r.length - j)) u (l.drop i) (r.drop j)).2.1 = I ∧ j + (grow (l.length - i + (r.length - j)) u (l.drop i) (r.drop j)).2.2 = J
theorem GrowOk.left {l r : List Hk} {T I J u i j : Nat} (h : GrowOk l r T I J u i j) (hi : i < l.length) (hu : l[i].a0 ≤ u) : GrowOk l r T I J (max u l[i].a1) (i + 1) j := by
  unfold GrowOk at h ⊢
  rw [List.drop_eq_getElem_cons hi, show l.length - i + (r.length - j) = (l.length - (i + 1) + (r.length - j)) + 1 by omega, grow_left _ _ _ _ _ hu] at h
  dsimp only at h
  refine ⟨h.1, ?_, h.2.2⟩
  have := h.2.1
  omega
theorem GrowOk.right {l r : List Hk} {T I J u i j : Nat} (h : GrowOk l r T I J u i j) (hl : headIn u (l.drop i) = none) (hj : j < r.length) (hu : r[j].a0 ≤ u) : GrowOk l r T I J (max u r[j].a1) i (j + 1) := by
  unfold GrowOk at h ⊢
  rw [List.drop_eq_getElem_cons hj, show l.length - i + (r.length - j) = (l.length - i + (r.length - (j + 1))) + 1 by omega, grow_right _ _ _ _ _ hl hu] at h
  dsimp only at h
  refine ⟨h.1, h.2.1, ?_⟩
  have := h.2.2
  omega
theorem GrowOk.stop {l r : List Hk} {T I J u i j : Nat} (h : GrowOk l r T I J u i j) (hl : headIn u (l.drop i) = none) (hr : headIn u (r.drop j) = none) : u = T ∧ i = I ∧ j = J := by
  unfold GrowOk at h
  rw [grow_stop _ _ _ _ hl hr] at h
  exact h

/-- a group, as a value -/
def gpV (g : Gp) (A : Option Addr) (c : Nat) (B : Option Addr) (d : Nat) : Value := .agg #[.int .i64 (g.lo : Int), .int .i64 (g.hi : Int), .slice A g.left.length c, .slice B g.right.length d]

def FirstOut (l r : List Hk) (w : World) (e : Ending) (w' : World) : Prop :=
  ∃ A c B d, e = .returned (gpV (firstGp l r) A c B d) ∧ HT w' A c (firstGp l r).left ∧ HT w' B d (firstGp l r).right ∧ Below w.heap.size w w'

theorem first_end {A B A' B' : Option Addr} {l r : List Hk} {c d lo u i j T I J : Nat} {w w2 : World} (h1 : least l r = lo) (h2 : grown l r = (T, I, J)) (h3 : u = T ∧ i = I ∧ j = J) (hTA : PartH A A' c i l) (hTB : PartH B B' d j r) (hA : HT w A c l) (hB : HT w B d r) (hb : Below w.heap.size w w2) :
    FirstOut l r w (.returned (.agg #[.int .i64 (lo : Int), .int .i64 (u : Int), .slice A' i c, .slice B' j d]))
      ((((w2.setCell ⟨w.heap.size, 0, none⟩ (.int .i64 (lo : Int))).setCell ⟨w.heap.size, 1, none⟩ (.int .i64 (u : Int))).setCell ⟨w.heap.size, 2, none⟩ (.slice A' i c)).setCell ⟨w.heap.size, 3, none⟩ (.slice B' j d)) := by
  obtain ⟨rfl, rfl, rfl⟩ := h3
  have hg : firstGp l r = ⟨lo, u, l.take i, r.take j⟩ := by unfold firstGp; rw [h1, h2]
  have hb' := ((((hb.setCell (p := ⟨w.heap.size, 0, none⟩) (Nat.le_refl _) (.int .i64 (lo : Int))).setCell (p := ⟨w.heap.size, 1, none⟩) (Nat.le_refl _) (.int .i64 (u : Int))).setCell (p := ⟨w.heap.size, 2, none⟩) (Nat.le_refl _) (.slice A' i c)).setCell (p := ⟨w.heap.size, 3, none⟩) (Nat.le_refl _) (.slice B' j d))
  refine ⟨A', c, B', d, ?_, ?_, ?_, hb'⟩
  · rw [hg]; unfold gpV; dsimp only; rw [hTA.1, hTB.1]
  · rw [hg]; exact hTA.2 _ (hA.keep (KeepT.below hb'))
  · rw [hg]; exact hTB.2 _ (hB.keep (KeepT.below hb'))

set_option maxRecDepth 100000 in
set_option maxHeartbeats 2000000 in
theorem first_any (A B : Option Addr) (l r : List Hk) (c d : Nat) (w : World) (hA : HT w A c l) (hB : HT w B d r) (h : 0 < l.length + r.length) (hl : l.length ≤ 4294967296) (hr : r.length ≤ 4294967296) :
    Calls Try.prog 56 #[.slice A l.length c, .slice B r.length d] w (FirstOut l r w) := by
  have hcA := hA.cap
  have hcB := hB.cap
  obtain ⟨lo, hlo⟩ : ∃ lo, least l r = lo := ⟨_, rfl⟩
  have hleast := fun W (h1 : HT W A c l) (h2 : HT W B d r) => least_any A B l r c d W h1 h2 h
  unfold leastV at hleast
  rw [hlo] at hleast
  obtain ⟨T, I, J, hG⟩ : ∃ T I J, grown l r = (T, I, J) := ⟨_, _, _, rfl⟩
  have hstart : GrowOk l r T I J lo 0 0 := by
    unfold grown at hG
    unfold GrowOk
    rw [Nat.sub_zero, Nat.sub_zero, List.drop_zero, List.drop_zero, ← hlo, hG]
    simp
  have HST := Lib.hid hstart
  have HLO := Lib.hid hlo
  have HGG := Lib.hid hG
  clear hstart hlo hG
  have hF0 := Full.new w 76 [.int .i64 0, .int .i64 0, .slice none 0 0, .slice none 0 0]
  have hB0 : Below w.heap.size w (w.alloc (.cells #[.int .i64 0, .int .i64 0, .slice none 0 0, .slice none 0 0] 76)) := (Below.refl _ w).alloc (Nat.le_refl _) _
  obtain ⟨w0, hw0⟩ : ∃ w0, w.alloc (.cells #[.int .i64 0, .int .i64 0, .slice none 0 0, .slice none 0 0] 76) = w0 := ⟨_, rfl⟩
  have hF0' : Full w0 w.heap.size 76 [.int .i64 0, .int .i64 0, .slice none 0 0, .slice none 0 0] := by rw [← hw0]; exact hF0
  have hB0' : Below w.heap.size w w0 := by rw [← hw0]; exact hB0
  have hA0 := hA.keep (KeepT.below hB0')
  have hBB0 := hB.keep (KeepT.below hB0')
  clear hF0 hB0
  go_enter Try.func56, Try.ntmps56
  go_wp2_with (go_at_call 58; refine (hleast _ hA0 hBB0).mono ?_; rintro e w1 ⟨rfl, q1, hw1⟩; have hBw : Below w.heap.size w w1 := (by rw [hw1]; exact Below.drewN_ hB0' q1); have hF1 : Full w1 w.heap.size 76 [.int .i64 0, .int .i64 0, .slice none 0 0, .slice none 0 0] := (by rw [hw1]; exact hF0'); have HW1 := Lib.hid hw1; clear hw1)
  have hA1 := hA.keep (KeepT.below hBw)
  have hB1 := hB.keep (KeepT.below hBw)
  clear hA0 hBB0 hF0' hB0' hw0 hleast
  go_loop [6, 7, 8] (fun v6 v7 v8 => ∃ u i j : Nat, i ≤ l.length ∧ j ≤ r.length ∧ v6 = .int .i64 u ∧ v7 = .int .i64 i ∧ v8 = .int .i64 j ∧ Hid (GrowOk l r T I J u i j)) (fun _ v7 v8 => l.length - (intOf v7).toNat + (r.length - (intOf v8).toNat))
  case atStart => exact ⟨lo, 0, 0, by omega, by omega, rfl, rfl, rfl, HST⟩
  case round =>
    obtain ⟨u, i, j, hi, hj, rfl, rfl, rfl, HGR⟩ := hrel
    have hi0 : (0 : Int) ≤ (i : Int) := Int.natCast_nonneg _
    have hj0 : (0 : Int) ≤ (j : Int) := Int.natCast_nonneg _
    obtain ⟨A', hrA, HTA⟩ := ht_h A l c i hi hcA
    obtain ⟨B', hrB, HTB⟩ := ht_h B r d j hj hcB
    by_cases hil : i < l.length
    · have hi1 : (i : Int) < (l.length : Int) := by omega
      obtain ⟨ad, rfl, ha0, ha1, _⟩ := hA1.at_ hil
      obtain ⟨x0, hx0⟩ : ∃ x, l[i].a0 = x := ⟨_, rfl⟩
      obtain ⟨x1, hx1⟩ : ∃ x, l[i].a1 = x := ⟨_, rfl⟩
      rw [hx0] at ha0
      rw [hx1] at ha1
      by_cases hxu : x0 ≤ u
      · have hgr := HGR.out.left hil (by rw [hx0]; exact hxu)
        rw [hx1] at hgr
        have HGR2 := Lib.hid hgr
        clear hgr hx0 hx1
        have hmif : max (u : Int) (x1 : Int) = ((max u x1 : Nat) : Int) := by omega
        obtain ⟨mx, hmx⟩ : ∃ mx, max u x1 = mx := ⟨_, rfl⟩
        rw [hmx] at hmif HGR2
        clear hmx
        go_wp2
        go_round
        case rel => exact ⟨mx, i + 1, j, by omega, by omega, rfl, by go_num, rfl, HGR2⟩
        case measure => simp [intOf]; omega
      · have hln : headIn u (l.drop i) = none := headIn_over u l hil (by rw [hx0]; exact hxu)
        have HLN := Lib.hid hln
        clear hln hx0 hx1
        by_cases hjl : j < r.length
        · have hj1 : (j : Int) < (r.length : Int) := by omega
          obtain ⟨bd, rfl, hb0, hb1, _⟩ := hB1.at_ hjl
          obtain ⟨y0, hy0⟩ : ∃ x, r[j].a0 = x := ⟨_, rfl⟩
          obtain ⟨y1, hy1⟩ : ∃ x, r[j].a1 = x := ⟨_, rfl⟩
          rw [hy0] at hb0
          rw [hy1] at hb1
          by_cases hyu : y0 ≤ u
          · have hgr := HGR.out.right HLN.out hjl (by rw [hy0]; exact hyu)
            rw [hy1] at hgr
            have HGR2 := Lib.hid hgr
            clear hgr hy0 hy1
            have hmif : max (u : Int) (y1 : Int) = ((max u y1 : Nat) : Int) := by omega
            obtain ⟨mx, hmx⟩ : ∃ mx, max u y1 = mx := ⟨_, rfl⟩
            rw [hmx] at hmif HGR2
            clear hmx
            go_wp2
            go_round
            case rel => exact ⟨mx, i, j + 1, by omega, by omega, rfl, rfl, by go_num, HGR2⟩
            case measure => simp [intOf]; omega
          · have hrn : headIn u (r.drop j) = none := headIn_over u r hjl (by rw [hy0]; exact hyu)
            have hstop := HGR.out.stop HLN.out hrn
            have HSTOP := Lib.hid hstop
            clear hrn hstop hy0 hy1
            go_wp2_with fail
            go_still_tail 10, (by kernel_rfl)
            change wpList _ _ _ _ _ w1.drew
            obtain ⟨w2, hw2⟩ : ∃ w2, w1.drew = w2 := ⟨_, rfl⟩
            rw [hw2]
            have hB2 : Below w.heap.size w w2 := by rw [← hw2]; exact hBw.drew
            have hF2 : Full w2 w.heap.size 76 [.int .i64 0, .int .i64 0, .slice none 0 0, .slice none 0 0] := by rw [← hw2]; exact hF1
            clear hw2
            have k0 : w2.cell? ⟨w.heap.size, 0, none⟩ = some (.int .i64 0) := hF2.cell 0
            have k1 : w2.cell? ⟨w.heap.size, 1, none⟩ = some (.int .i64 0) := hF2.cell 1
            have k2 : w2.cell? ⟨w.heap.size, 2, none⟩ = some (.slice none 0 0) := hF2.cell 2
            have k3 : w2.cell? ⟨w.heap.size, 3, none⟩ = some (.slice none 0 0) := hF2.cell 3
            have f0 := hF2.frozen 0
            have f1 := hF2.frozen 1
            have f2 := hF2.frozen 2
            have f3 := hF2.frozen 3
            go_wp2
            have q0 : (w2.setCell ⟨w.heap.size, 0, none⟩ (.int .i64 (lo : Int))).cell? ⟨w.heap.size, 0, none⟩ = some (.int .i64 (lo : Int)) := (hF2.set_ 0 _).cell 0
            have q1 : ((w2.setCell ⟨w.heap.size, 0, none⟩ (.int .i64 (lo : Int))).setCell ⟨w.heap.size, 1, none⟩ (.int .i64 (u : Int))).cell? ⟨w.heap.size, 1, none⟩ = some (.int .i64 (u : Int)) := ((hF2.set_ 0 _).set_ 1 _).cell 1
            have q2 : (((w2.setCell ⟨w.heap.size, 0, none⟩ (.int .i64 (lo : Int))).setCell ⟨w.heap.size, 1, none⟩ (.int .i64 (u : Int))).setCell ⟨w.heap.size, 2, none⟩ (.slice A' i c)).cell? ⟨w.heap.size, 2, none⟩ = some (.slice A' i c) := (((hF2.set_ 0 _).set_ 1 _).set_ 2 _).cell 2
            have q3 : ((((w2.setCell ⟨w.heap.size, 0, none⟩ (.int .i64 (lo : Int))).setCell ⟨w.heap.size, 1, none⟩ (.int .i64 (u : Int))).setCell ⟨w.heap.size, 2, none⟩ (.slice A' i c)).setCell ⟨w.heap.size, 3, none⟩ (.slice B' j d)).cell? ⟨w.heap.size, 3, none⟩ = some (.slice B' j d) := ((((hF2.set_ 0 _).set_ 1 _).set_ 2 _).set_ 3 _).cell 3
            refine bodyPost_ret (v := .agg #[.int .i64 (lo : Int), .int .i64 (u : Int), .slice A' i c, .slice B' j d]) (by simp [results, Try.results56, go_sem, q0, q1, q2, q3]) rfl ?_
            exact first_end HLO.out HGG.out HSTOP.out HTA HTB hA hB hB2
        · have hrn : headIn u (r.drop j) = none := headIn_end u r (by omega)
          have hstop := HGR.out.stop HLN.out hrn
          have HSTOP := Lib.hid hstop
          clear hrn hstop
          go_wp2_with fail
          go_still_tail 10, (by kernel_rfl)
          change wpList _ _ _ _ _ w1.drew
          obtain ⟨w2, hw2⟩ : ∃ w2, w1.drew = w2 := ⟨_, rfl⟩
          rw [hw2]
          have hB2 : Below w.heap.size w w2 := by rw [← hw2]; exact hBw.drew
          have hF2 : Full w2 w.heap.size 76 [.int .i64 0, .int .i64 0, .slice none 0 0, .slice none 0 0] := by rw [← hw2]; exact hF1
          clear hw2
          have k0 : w2.cell? ⟨w.heap.size, 0, none⟩ = some (.int .i64 0) := hF2.cell 0
          have k1 : w2.cell? ⟨w.heap.size, 1, none⟩ = some (.int .i64 0) := hF2.cell 1
          have k2 : w2.cell? ⟨w.heap.size, 2, none⟩ = some (.slice none 0 0) := hF2.cell 2
          have k3 : w2.cell? ⟨w.heap.size, 3, none⟩ = some (.slice none 0 0) := hF2.cell 3
          have f0 := hF2.frozen 0
          have f1 := hF2.frozen 1
          have f2 := hF2.frozen 2
          have f3 := hF2.frozen 3
          go_wp2
          have q0 : (w2.setCell ⟨w.heap.size, 0, none⟩ (.int .i64 (lo : Int))).cell? ⟨w.heap.size, 0, none⟩ = some (.int .i64 (lo : Int)) := (hF2.set_ 0 _).cell 0
          have q1 : ((w2.setCell ⟨w.heap.size, 0, none⟩ (.int .i64 (lo : Int))).setCell ⟨w.heap.size, 1, none⟩ (.int .i64 (u : Int))).cell? ⟨w.heap.size, 1, none⟩ = some (.int .i64 (u : Int)) := ((hF2.set_ 0 _).set_ 1 _).cell 1
          have q2 : (((w2.setCell ⟨w.heap.size, 0, none⟩ (.int .i64 (lo : Int))).setCell ⟨w.heap.size, 1, none⟩ (.int .i64 (u : Int))).setCell ⟨w.heap.size, 2, none⟩ (.slice A' i c)).cell? ⟨w.heap.size, 2, none⟩ = some (.slice A' i c) := (((hF2.set_ 0 _).set_ 1 _).set_ 2 _).cell 2
          have q3 : ((((w2.setCell ⟨w.heap.size, 0, none⟩ (.int .i64 (lo : Int))).setCell ⟨w.heap.size, 1, none⟩ (.int .i64 (u : Int))).setCell ⟨w.heap.size, 2, none⟩ (.slice A' i c)).setCell ⟨w.heap.size, 3, none⟩ (.slice B' j d)).cell? ⟨w.heap.size, 3, none⟩ = some (.slice B' j d) := ((((hF2.set_ 0 _).set_ 1 _).set_ 2 _).set_ 3 _).cell 3
          refine bodyPost_ret (v := .agg #[.int .i64 (lo : Int), .int .i64 (u : Int), .slice A' i c, .slice B' j d]) (by simp [results, Try.results56, go_sem, q0, q1, q2, q3]) rfl ?_
          exact first_end HLO.out HGG.out HSTOP.out HTA HTB hA hB hB2
    · have hln : headIn u (l.drop i) = none := headIn_end u l (by omega)
      have HLN := Lib.hid hln
      clear hln
      by_cases hjl : j < r.length
      · have hj1 : (j : Int) < (r.length : Int) := by omega
        obtain ⟨bd, rfl, hb0, hb1, _⟩ := hB1.at_ hjl
        obtain ⟨y0, hy0⟩ : ∃ x, r[j].a0 = x := ⟨_, rfl⟩
        obtain ⟨y1, hy1⟩ : ∃ x, r[j].a1 = x := ⟨_, rfl⟩
        rw [hy0] at hb0
        rw [hy1] at hb1
        by_cases hyu : y0 ≤ u
        · have hgr := HGR.out.right HLN.out hjl (by rw [hy0]; exact hyu)
          rw [hy1] at hgr
          have HGR2 := Lib.hid hgr
          clear hgr hy0 hy1
          have hmif : max (u : Int) (y1 : Int) = ((max u y1 : Nat) : Int) := by omega
          obtain ⟨mx, hmx⟩ : ∃ mx, max u y1 = mx := ⟨_, rfl⟩
          rw [hmx] at hmif HGR2
          clear hmx
          go_wp2
          go_round
          case rel => exact ⟨mx, i, j + 1, by omega, by omega, rfl, rfl, by go_num, HGR2⟩
          case measure => simp [intOf]; omega
        · have hrn : headIn u (r.drop j) = none := headIn_over u r hjl (by rw [hy0]; exact hyu)
          have hstop := HGR.out.stop HLN.out hrn
          have HSTOP := Lib.hid hstop
          clear hrn hstop hy0 hy1
          go_wp2_with fail
          go_still_tail 10, (by kernel_rfl)
          change wpList _ _ _ _ _ w1.drew
          obtain ⟨w2, hw2⟩ : ∃ w2, w1.drew = w2 := ⟨_, rfl⟩
          rw [hw2]
          have hB2 : Below w.heap.size w w2 := by rw [← hw2]; exact hBw.drew
          have hF2 : Full w2 w.heap.size 76 [.int .i64 0, .int .i64 0, .slice none 0 0, .slice none 0 0] := by rw [← hw2]; exact hF1
          clear hw2
          have k0 : w2.cell? ⟨w.heap.size, 0, none⟩ = some (.int .i64 0) := hF2.cell 0
          have k1 : w2.cell? ⟨w.heap.size, 1, none⟩ = some (.int .i64 0) := hF2.cell 1
          have k2 : w2.cell? ⟨w.heap.size, 2, none⟩ = some (.slice none 0 0) := hF2.cell 2
          have k3 : w2.cell? ⟨w.heap.size, 3, none⟩ = some (.slice none 0 0) := hF2.cell 3
          have f0 := hF2.frozen 0
          have f1 := hF2.frozen 1
          have f2 := hF2.frozen 2
          have f3 := hF2.frozen 3
          go_wp2
          have q0 : (w2.setCell ⟨w.heap.size, 0, none⟩ (.int .i64 (lo : Int))).cell? ⟨w.heap.size, 0, none⟩ = some (.int .i64 (lo : Int)) := (hF2.set_ 0 _).cell 0
          have q1 : ((w2.setCell ⟨w.heap.size, 0, none⟩ (.int .i64 (lo : Int))).setCell ⟨w.heap.size, 1, none⟩ (.int .i64 (u : Int))).cell? ⟨w.heap.size, 1, none⟩ = some (.int .i64 (u : Int)) := ((hF2.set_ 0 _).set_ 1 _).cell 1
          have q2 : (((w2.setCell ⟨w.heap.size, 0, none⟩ (.int .i64 (lo : Int))).setCell ⟨w.heap.size, 1, none⟩ (.int .i64 (u : Int))).setCell ⟨w.heap.size, 2, none⟩ (.slice A' i c)).cell? ⟨w.heap.size, 2, none⟩ = some (.slice A' i c) := (((hF2.set_ 0 _).set_ 1 _).set_ 2 _).cell 2
          have q3 : ((((w2.setCell ⟨w.heap.size, 0, none⟩ (.int .i64 (lo : Int))).setCell ⟨w.heap.size, 1, none⟩ (.int .i64 (u : Int))).setCell ⟨w.heap.size, 2, none⟩ (.slice A' i c)).setCell ⟨w.heap.size, 3, none⟩ (.slice B' j d)).cell? ⟨w.heap.size, 3, none⟩ = some (.slice B' j d) := ((((hF2.set_ 0 _).set_ 1 _).set_ 2 _).set_ 3 _).cell 3
          refine bodyPost_ret (v := .agg #[.int .i64 (lo : Int), .int .i64 (u : Int), .slice A' i c, .slice B' j d]) (by simp [results, Try.results56, go_sem, q0, q1, q2, q3]) rfl ?_
          exact first_end HLO.out HGG.out HSTOP.out HTA HTB hA hB hB2
      · have hrn : headIn u (r.drop j) = none := headIn_end u r (by omega)
        have hstop := HGR.out.stop HLN.out hrn
        have HSTOP := Lib.hid hstop
        clear hrn hstop
        go_wp2_with fail
        go_still_tail 10, (by kernel_rfl)
        change wpList _ _ _ _ _ w1.drew
        obtain ⟨w2, hw2⟩ : ∃ w2, w1.drew = w2 := ⟨_, rfl⟩
        rw [hw2]
        have hB2 : Below w.heap.size w w2 := by rw [← hw2]; exact hBw.drew
        have hF2 : Full w2 w.heap.size 76 [.int .i64 0, .int .i64 0, .slice none 0 0, .slice none 0 0] := by rw [← hw2]; exact hF1
        clear hw2
        have k0 : w2.cell? ⟨w.heap.size, 0, none⟩ = some (.int .i64 0) := hF2.cell 0
        have k1 : w2.cell? ⟨w.heap.size, 1, none⟩ = some (.int .i64 0) := hF2.cell 1
        have k2 : w2.cell? ⟨w.heap.size, 2, none⟩ = some (.slice none 0 0) := hF2.cell 2
        have k3 : w2.cell? ⟨w.heap.size, 3, none⟩ = some (.slice none 0 0) := hF2.cell 3
        have f0 := hF2.frozen 0
        have f1 := hF2.frozen 1
        have f2 := hF2.frozen 2
        have f3 := hF2.frozen 3
        go_wp2
        have q0 : (w2.setCell ⟨w.heap.size, 0, none⟩ (.int .i64 (lo : Int))).cell? ⟨w.heap.size, 0, none⟩ = some (.int .i64 (lo : Int)) := (hF2.set_ 0 _).cell 0
        have q1 : ((w2.setCell ⟨w.heap.size, 0, none⟩ (.int .i64 (lo : Int))).setCell ⟨w.heap.size, 1, none⟩ (.int .i64 (u : Int))).cell? ⟨w.heap.size, 1, none⟩ = some (.int .i64 (u : Int)) := ((hF2.set_ 0 _).set_ 1 _).cell 1
        have q2 : (((w2.setCell ⟨w.heap.size, 0, none⟩ (.int .i64 (lo : Int))).setCell ⟨w.heap.size, 1, none⟩ (.int .i64 (u : Int))).setCell ⟨w.heap.size, 2, none⟩ (.slice A' i c)).cell? ⟨w.heap.size, 2, none⟩ = some (.slice A' i c) := (((hF2.set_ 0 _).set_ 1 _).set_ 2 _).cell 2
        have q3 : ((((w2.setCell ⟨w.heap.size, 0, none⟩ (.int .i64 (lo : Int))).setCell ⟨w.heap.size, 1, none⟩ (.int .i64 (u : Int))).setCell ⟨w.heap.size, 2, none⟩ (.slice A' i c)).setCell ⟨w.heap.size, 3, none⟩ (.slice B' j d)).cell? ⟨w.heap.size, 3, none⟩ = some (.slice B' j d) := ((((hF2.set_ 0 _).set_ 1 _).set_ 2 _).set_ 3 _).cell 3
        refine bodyPost_ret (v := .agg #[.int .i64 (lo : Int), .int .i64 (u : Int), .slice A' i c, .slice B' j d]) (by simp [results, Try.results56, go_sem, q0, q1, q2, q3]) rfl ?_
        exact first_end HLO.out HGG.out HSTOP.out HTA HTB hA hB hB2

end Go.Proofs.Ytmeoannheomdoaa
