/- ref.Lengths: the table of the lengths L(i, j). -/
import Derived.Test.YtmeoannheomdoaaSame
import Derived.Test.YtmeoannheomdoaaSkips
import Derived.StillTailTactics
namespace Go.Proofs.Ytmeoannheomdoaa
open Go.RowKit

theorem info28 : (Try.prog.info? 28).map (fun i => (i.zero, i.size, i.bytes)) = some (some (.slice none 0 0), 1, 24) := by kernel_rfl
/-- the row of place i, from place u on -/
def LenB (a b : List ByteArray) (T : List Nat) (i : Nat) (u : Int) : Prop := T.length = b.length + 1 ∧ ∀ j : Nat, j ≤ b.length → u < (j : Int) → T[j]? = some (LL a b i j)
theorem LenB.step {a b : List ByteArray} {T : List Nat} {i j : Nat} {v : Nat} (h : LenB a b T i j) (hv : LL a b i j = v) : LenB a b (T.set j v) i ((j : Int) - 1) := by
  refine ⟨by rw [List.length_set]; exact h.1, fun j' hj' hlt => ?_⟩
  by_cases e : j = j'
  · subst e
    rw [List.getElem?_set_self (by rw [h.1]; omega), hv]
  · rw [List.getElem?_set_ne e]
    exact h.2 j' hj' (by omega)
theorem LenB.start (a b : List ByteArray) (i : Nat) : LenB a b (List.replicate (b.length + 1) 0) i ((b.length : Int) - 1) :=
  ⟨by simp, fun j hj hlt => by
    have : j = b.length := by omega
    subst this
    rw [List.getElem?_replicate, if_pos (by omega), LL_end' a b _ (Nat.le_refl _)]⟩
/-- the rows of the places behind z are in the table at block g; all blocks from lo on and below N -/
structure Tab (w : World) (g lo N : Nat) (a b : List ByteArray) (z : Int) (rows : List Value) : Prop where
  full : Full w g 28 rows
  ge : lo ≤ g
  lt : g < N
  len : rows.length = a.length + 1
  row : ∀ i : Nat, z < (i : Int) → i ≤ a.length → ∃ gi, rows[i]? = some (.slice (some ⟨gi, 0, none⟩) (b.length + 1) (b.length + 1)) ∧ (lo ≤ gi ∧ gi < N) ∧ ∃ T, Full w gi 3 (natC T) ∧ LenB a b T i (-1)
theorem Tab.keep {w w' : World} {g lo N N' : Nat} {a b : List ByteArray} {z : Int} {rows : List Value} (h : Tab w g lo N a b z rows) (hb : Below N w w') (hN : N ≤ N') : Tab w' g lo N' a b z rows :=
  ⟨h.full.below hb h.lt, h.ge, Nat.lt_of_lt_of_le h.lt hN, h.len, fun i h1 h2 => by
    obtain ⟨gi, k1, k2, T, k3, k4⟩ := h.row i h1 h2
    exact ⟨gi, k1, ⟨k2.1, Nat.lt_of_lt_of_le k2.2 hN⟩, T, k3.below hb k2.2, k4⟩⟩
theorem Tab.far {w : World} {g lo N : Nat} {a b : List ByteArray} {z : Int} {rows : List Value} (h : Tab w g lo N a b z rows) {p : Addr} (hp : p.block < lo) (u : Value) : Tab (w.setCell p u) g lo N a b z rows :=
  ⟨h.full.far (by have := h.ge; omega) u, h.ge, h.lt, h.len, fun i h1 h2 => by
    obtain ⟨gi, k1, k2, T, k3, k4⟩ := h.row i h1 h2
    exact ⟨gi, k1, k2, T, k3.far (by omega) u, k4⟩⟩
theorem Tab.drewN {w : World} {g lo N : Nat} {a b : List ByteArray} {z : Int} {rows : List Value} (h : Tab w g lo N a b z rows) (q : Nat) : Tab (w.drewN q) g lo N a b z rows :=
  ⟨h.full, h.ge, h.lt, h.len, h.row⟩
theorem Tab.step {w : World} {g lo N gr : Nat} {a b : List ByteArray} {i : Nat} {rows : List Value} {T : List Nat} (h : Tab w g lo N a b i rows) (hi : i ≤ a.length) (hlo : lo ≤ gr) (hr : gr < N) (hF : Full w gr 3 (natC T)) (hT : LenB a b T i (-1)) :
    Tab (w.setCell ⟨g, i, none⟩ (.slice (some ⟨gr, 0, none⟩) (b.length + 1) (b.length + 1))) g lo N a b ((i : Int) - 1) (rows.set i (.slice (some ⟨gr, 0, none⟩) (b.length + 1) (b.length + 1))) := by
  refine ⟨h.full.set_ i _, h.ge, h.lt, by rw [List.length_set]; exact h.len, fun i' h1 h2 => ?_⟩
  by_cases e : i = i'
  · subst e
    refine ⟨gr, by rw [List.getElem?_set_self (by rw [h.len]; omega)], ⟨hlo, hr⟩, T, hF.far (p := ⟨g, i, none⟩) (hF.ne_ h.full (by decide)) _, hT⟩
  · obtain ⟨gi, k1, k2, T', k3, k4⟩ := h.row i' (by omega) h2
    exact ⟨gi, by rw [List.getElem?_set_ne e]; exact k1, k2, T', k3.far (p := ⟨g, i, none⟩) (k3.ne_ h.full (by decide)) _, k4⟩
/-- a place of the table -/
theorem Tab.at_ {w : World} {g lo N : Nat} {a b : List ByteArray} {z : Int} {rows : List Value} (h : Tab w g lo N a b z rows) {i j v : Nat} (h1 : z < (i : Int)) (h2 : i ≤ a.length) (h3 : j ≤ b.length) (hv : LL a b i j = v) :
    ∃ gi, w.cell? ⟨g, i, none⟩ = some (.slice (some ⟨gi, 0, none⟩) (b.length + 1) (b.length + 1)) ∧ w.cell? ⟨gi, j, none⟩ = some (.int .i64 (v : Int)) ∧ gi < N := by
  subst hv
  obtain ⟨gi, k1, k2, T, k3, k4⟩ := h.row i h1 h2
  exact ⟨gi, (h.full.cell i).trans k1, (k3.cell j).trans (natC_at (k4.2 j h3 (by omega))), k2.2⟩
def LenOut (w : World) (a b : List ByteArray) (n : Nat) (e : Ending) (w' : World) : Prop := ∃ g rows, e = .returned (.slice (some ⟨g, 0, none⟩) (n + 1) (n + 1)) ∧ Tab w' g w.heap.size w'.heap.size a b (-1) rows ∧ Below w.heap.size w w'

set_option maxRecDepth 100000 in
set_option maxHeartbeats 4000000 in
theorem lengths_any (A B : Option Addr) (a b : List ByteArray) (n m c d : Nat) (w : World) (hA : Strs w w.heap.size A c a) (hB : Strs w w.heap.size B d b) (hn : a.length = n) (hm : b.length = m) (hn2 : n ≤ 1000) (hm2 : m ≤ 1000) :
    Calls Try.prog 27 #[.slice A n c, .slice B m d] w (LenOut w a b n) := by
  have hcA : n ≤ c := by have := hA.cap; omega
  have hcB : m ≤ d := by have := hB.cap; omega
  have HA := Lib.hid hA
  have HB := Lib.hid hB
  have HN := Lib.hid hn
  have HM := Lib.hid hm
  have hmk1 := made_one 41 28 (.slice none 0 0) 24 Try.underlying41 info28 rfl (n + 1) (by omega) (by omega)
  have hmk2 := made_one 28 3 (.int .i64 0) 8 Try.underlying28 info3 rfl (m + 1) (by omega) (by omega)
  obtain ⟨R, HR⟩ : ∃ R, Hid (List.replicate (n + 1) (Value.slice none 0 0) = R) := ⟨_, Lib.hid rfl⟩
  obtain ⟨T, HT⟩ : ∃ T, Hid (List.replicate (m + 1) (Value.int .i64 0) = T) := ⟨_, Lib.hid rfl⟩
  rw [HR.out] at hmk1
  rw [HT.out] at hmk2
  rw [show ((n + 1 : Nat) : Int) = (n : Int) + 1 from rfl] at hmk1
  rw [show ((m + 1 : Nat) : Int) = (m : Int) + 1 from rfl] at hmk2
  clear hA hB hn hm
  have i1 : (n : Int) < (n : Int) + 1 := by omega
  have hRn : R[n]? = some (.slice none 0 0) := by rw [← HR.out]; simp
  go_enter Try.func27, Try.ntmps27
  go_wp2
  obtain ⟨R2, hR2⟩ : ∃ R2, R.set n (.slice (some ⟨w.heap.size + 1, 0, none⟩) (m + 1) (m + 1)) = R2 := ⟨_, rfl⟩
  rw [hR2]
  have hF1 : Full ((w.alloc (.cells R2.toArray 28)).alloc (.cells T.toArray 3)) w.heap.size 28 R2 := (Full.new _ _ _).alloc _
  have hF2 : Full ((w.alloc (.cells R2.toArray 28)).alloc (.cells T.toArray 3)) (w.heap.size + 1) 3 T := by
    have := Full.new (w.alloc (.cells R2.toArray 28)) 3 T
    rwa [World.size_alloc] at this
  have hRl : R.length = n + 1 := by rw [← HR.out, List.length_replicate]
  have hb0 : Below w.heap.size w ((w.alloc (.cells R2.toArray 28)).alloc (.cells T.toArray 3)) := ((Below.refl _ w).alloc (Nat.le_refl _) _).alloc (by simp) _
  have hT0 : Tab ((w.alloc (.cells R2.toArray 28)).alloc (.cells T.toArray 3)) w.heap.size w.heap.size (w.heap.size + 2) a b ((n : Int) - 1) R2 := by
    refine ⟨hF1, Nat.le_refl _, by omega, by rw [← hR2, List.length_set, HN.out]; exact hRl, fun i h1 h2 => ?_⟩
    have hi : i = n := by have := HN.out; omega
    subst hi
    refine ⟨w.heap.size + 1, by rw [← hR2, HM.out, List.getElem?_set_self (by omega)], by omega, List.replicate (m + 1) 0, ?_, ?_⟩
    · have e : natC (List.replicate (m + 1) 0) = T := by rw [← HT.out]; simp [natC]
      rw [e]; exact hF2
    · refine ⟨by rw [HM.out]; simp, fun j hj _ => ?_⟩
      rw [HM.out] at hj
      rw [List.getElem?_replicate, if_pos (by omega), LL_end a b _ (Nat.le_of_eq HN.out)]
  have hsz : ((w.alloc (.cells R2.toArray 28)).alloc (.cells T.toArray 3)).heap.size = w.heap.size + 2 := by simp
  obtain ⟨g, hg⟩ : ∃ g, w.heap.size = g := ⟨_, rfl⟩
  obtain ⟨w0, hw0⟩ : ∃ w0, (w.alloc (.cells R2.toArray 28)).alloc (.cells T.toArray 3) = w0 := ⟨_, rfl⟩
  rw [hw0] at hT0 hsz hb0 ⊢
  rw [← hsz] at hT0
  have hgz : w.heap.size ≤ g := Nat.le_of_eq hg
  have HGG := Lib.hid hg
  rw [hg] at hT0 ⊢
  have HT0 := Lib.hid hT0
  clear hw0 hT0 hsz hF1 hF2 hRl hR2 hmk1 hg
  clear hRn
  go_loopw [6] (fun v6 wr => ∃ (z : Int) (rows : List Value), -1 ≤ z ∧ z < n ∧ v6 = .int .i64 z ∧ Hid (Tab wr g g wr.heap.size a b z rows) ∧ Below w.heap.size w wr) (fun v6 _ => (intOf v6 + 1).toNat)
  case atStart => exact ⟨_, _, by omega, by omega, rfl, HT0, hb0⟩
  case round =>
    obtain ⟨z, rows, hz1, hz2, rfl, HI, hBo⟩ := hrel
    by_cases hz : 0 ≤ z
    · obtain ⟨i, rfl⟩ : ∃ i : Nat, z = i := ⟨z.toNat, by omega⟩
      have hF0 := Full.new wr 3 T
      have hB1 := (Below.refl wr.heap.size wr).alloc (Nat.le_refl _) (.cells T.toArray 3)
      obtain ⟨gr, hgr⟩ : ∃ gr, wr.heap.size = gr := ⟨_, rfl⟩
      have HGR := Lib.hid hgr
      obtain ⟨w1, hw1⟩ : ∃ w1, wr.alloc (.cells T.toArray 3) = w1 := ⟨_, rfl⟩
      have HW1 := Lib.hid hw1
      have hs1 : w1.heap.size = gr + 1 := by rw [← hw1, ← hgr]; simp
      rw [hw1] at hF0 hB1
      rw [hgr] at hF0 hB1
      have HI1 : Hid (Tab w1 g g gr a b i rows) := Lib.hid (by have := HI.out.keep (w' := w1) (by rw [hgr]; exact hB1) (Nat.le_refl _); rwa [hgr] at this)
      have HBO := Lib.hid hBo
      have HB1 : Hid (Below gr wr w1) := Lib.hid hB1
      have hgr2 : w.heap.size ≤ gr := by have := hBo.size; omega
      clear hgr hw1 hBo
      go_wp2
      rw [HW1.out, HGR.out]
      go_loopw [8] (fun v8 wr => ∃ (u : Int) (T : List Nat), -1 ≤ u ∧ u < m ∧ v8 = .int .i64 u ∧ Full wr gr 3 (natC T) ∧ Hid (LenB a b T i u) ∧ Below gr w1 wr) (fun v8 _ => (intOf v8 + 1).toNat)
      case atStart =>
        refine ⟨_, List.replicate (m + 1) 0, by omega, by omega, rfl, ?_, Lib.hid ?_, Below.refl _ _⟩
        · have e : natC (List.replicate (m + 1) 0) = T := by rw [← HT.out]; simp [natC]
          rw [e]; exact hF0
        · have := LenB.start a b i
          rwa [HM.out] at this
      case round =>
        obtain ⟨u, T, hu1, hu2, rfl, hFT, HLB, hBe⟩ := hrel
        by_cases hu : 0 ≤ u
        · obtain ⟨j, rfl⟩ : ∃ j : Nat, u = j := ⟨u.toNat, by omega⟩
          have hin : i < a.length := by have := HN.out; omega
          have hjm : j < b.length := by have := HM.out; omega
          have hstep := LL_step a b hin hjm
          obtain ⟨s, hs⟩ : ∃ v, a[i] = v := ⟨_, rfl⟩
          obtain ⟨t, ht⟩ : ∃ v, b[j] = v := ⟨_, rfl⟩
          obtain ⟨bf, hbf⟩ : ∃ v, LL a b (i + 1) j = v := ⟨_, rfl⟩
          obtain ⟨bs, hbs⟩ : ∃ v, LL a b i (j + 1) = v := ⟨_, rfl⟩
          obtain ⟨bb, hbb⟩ : ∃ v, LL a b (i + 1) (j + 1) = v := ⟨_, rfl⟩
          have hbf4 : bf ≤ 1000 := by rw [← hbf]; exact Nat.le_trans (LL_le _ _ _ _) (by rw [HN.out]; exact hn2)
          have hbb4 : bb ≤ 1000 := by rw [← hbb]; exact Nat.le_trans (LL_le _ _ _ _) (by rw [HN.out]; exact hn2)
          have hbs4 : bs ≤ 1000 := by rw [← hbs]; exact Nat.le_trans (LL_le _ _ _ _) (by rw [HN.out]; exact hn2)
          rw [hs, ht, hbf, hbs, hbb] at hstep
          obtain ⟨wd, hwd⟩ : ∃ wd, wr.drew = wd := ⟨_, rfl⟩
          have HWD := Lib.hid hwd
          have hBe : Below gr w1 wd := by rw [← hwd]; exact Below.drew hBe
          have hFT : Full wd gr 3 (natC T) := by rw [← hwd]; exact hFT
          have hwb : Below w.heap.size w wd := HBO.out.trans (HB1.out.trans (hBe.mono (Nat.le_refl _)) |>.mono hgr2)
          obtain ⟨ad, rfl, hadB, hcx⟩ := HA.out.at_ (k := i) hin
          obtain ⟨bd, rfl, hbdB, hcy⟩ := HB.out.at_ (k := j) hjm
          rw [hs] at hcx
          rw [ht] at hcy
          have hcx1 := (hwb.cell (p := ad.add i) (by rw [add_block]; exact hadB)).trans hcx
          have hcy1 := (hwb.cell (p := bd.add j) (by rw [add_block]; exact hbdB)).trans hcy
          have htab := HI1.out.keep hBe (Nat.le_refl _)
          obtain ⟨g1, k1, k2, k3⟩ := htab.at_ (i := i + 1) (j := j) (by omega) (by omega) (by omega) hbf
          obtain ⟨g2, l1, l2, l3⟩ := htab.at_ (i := i + 1) (j := j + 1) (by omega) (by omega) (by omega) hbb
          obtain rfl : g1 = g2 := by
            have := Option.some.inj (k1.symm.trans l1)
            simpa using this
          rw [HM.out] at k1
          clear l1 htab
          have hTs := (hFT.cell (j + 1)).trans (natC_at (HLB.out.2 (j + 1) (by omega) (by omega)))
          rw [hbs] at hTs
          obtain ⟨ov, hov⟩ : ∃ ov, T[j]? = some ov := ⟨_, List.getElem?_eq_getElem (by rw [HLB.out.1]; omega)⟩
          have hTj := (hFT.cell j).trans (natC_at hov)
          have hTf := hFT.frozen j
          have wc : ∀ a : Addr, wr.cell? a = wd.cell? a := fun a => by rw [← hwd]; rfl
          have k1w := (wc _).trans k1
          have k2w := (wc _).trans k2
          have hTsw := (wc _).trans hTs
          obtain ⟨mx, hmx⟩ : ∃ mx, max bf bs = mx := ⟨_, rfl⟩
          have hmif : (if bf < bs then (bs : Int) else (bf : Int)) = (mx : Int) := by rw [← hmx]; split <;> omega
          have hmif2 : (if bs < bf then (bf : Int) else (bs : Int)) = (mx : Int) := by rw [← hmx]; split <;> omega
          have hgg : g ≠ gr := by have := HI1.out.lt; omega
          have hg1 : g1 ≠ gr := by omega
          obtain ⟨w2, hw2⟩ : ∃ w2, wd.setCell ⟨gr, j, none⟩ (.int .i64 (mx : Int)) = w2 := ⟨_, rfl⟩
          have HW2 := Lib.hid hw2
          have hF2 := hFT.setN j mx
          have hB2 := hBe.setCell (p := ⟨gr, j, none⟩) (Nat.le_refl _) (.int .i64 (mx : Int))
          rw [hw2] at hF2 hB2
          have hcx2 := (hB2.cell (p := ad.add i) (by rw [add_block]; omega)).trans ((hBe.cell (p := ad.add i) (by rw [add_block]; omega)).symm.trans hcx1)
          have hcy2 := (hB2.cell (p := bd.add j) (by rw [add_block]; omega)).trans ((hBe.cell (p := bd.add j) (by rw [add_block]; omega)).symm.trans hcy1)
          have hk2 := (hB2.cell (p := ⟨g, i + 1, none⟩) HI1.out.lt).trans ((hBe.cell (p := ⟨g, i + 1, none⟩) HI1.out.lt).symm.trans k1)
          have hl2 := (hB2.cell (p := ⟨g1, j + 1, none⟩) l3).trans ((hBe.cell (p := ⟨g1, j + 1, none⟩) l3).symm.trans l2)
          have hT4 := hF2.frozen j
          have hT3 : w2.cell? ⟨gr, j, none⟩ = some (.int .i64 (mx : Int)) := by
            rw [hF2.cell j]
            exact natC_at (List.getElem?_set_self (by rw [HLB.out.1]; omega))
          have HST := Lib.hid hstep
          have HMX := Lib.hid hmx
          have HTL := Lib.hid HLB.out.1
          clear hstep hs ht hbf hbs hbb hmx hcx hcy hadB hbdB l3 k3 hwb hov hwd hw2 wc
          have hi0 : (0 : Int) ≤ (i : Int) := Int.natCast_nonneg _
          have hj0 : (0 : Int) ≤ (j : Int) := Int.natCast_nonneg _
          have hi1 : (i : Int) + 1 < (n : Int) + 1 := by omega
          have hi2 : (i : Int) < (n : Int) := by omega
          have hj1 : (j : Int) < (m : Int) + 1 := by omega
          have hj2 : (j : Int) + 1 < (m : Int) + 1 := by omega
          have hj3 : (j : Int) < (m : Int) := by omega
          have e1 : IntKind.i64.wrap ((j : Int) + 1) = (j : Int) + 1 := by simp [IntKind.wrap, IntKind.bits, IntKind.signed]; omega
          have e2 : (0 : Int) ≤ (j : Int) + 1 := by omega
          have e3 : ((j : Int) + 1).toNat = j + 1 := by omega
          have f1 : IntKind.i64.wrap ((i : Int) + 1) = (i : Int) + 1 := by simp [IntKind.wrap, IntKind.bits, IntKind.signed]; omega
          have f2 : (0 : Int) ≤ (i : Int) + 1 := by omega
          have f3 : ((i : Int) + 1).toNat = i + 1 := by omega
          by_cases hst : s.toList = t.toList
          · have hbb' : (s.toList == t.toList) = true := by simpa using hst
            have HST2 := Lib.hid hst
            clear hst
            go_wp2
            go_still_tail 17, (by kernel_rfl)
            change wpList _ _ _ _ _ wr.drew
            rw [HWD.out]
            go_wp2
            rw [HW2.out]
            go_quiet (fail)
            go_wp2
            go_roundw
            case rel =>
              have hv : LL a b i j = 1 + bb := by rw [HST.out, if_pos (eq_of_data HST2.out), Nat.add_comm]
              have hl := (HLB.out.step (v := 1 + bb) hv)
              have e1 : ((1 + bb : Nat) : Int) = 1 + (bb : Int) := by omega
              rw [← e1]
              refine ⟨_, T.set j (1 + bb), by omega, by omega, rfl, ?_, Lib.hid hl, ?_⟩
              · have := (hF2.drewN nq).setN j (1 + bb)
                rwa [List.set_set] at this
              · exact (Below.drewN_ hB2 _).setCell (p := ⟨gr, j, none⟩) (Nat.le_refl _) _
            case measure => simp [intOf]
          · have hbb' : (s.toList == t.toList) = false := by simpa using hst
            have HST2 := Lib.hid hst
            clear hst
            go_wp2
            go_still_tail 17, (by kernel_rfl)
            change wpList _ _ _ _ _ wr.drew
            rw [HWD.out]
            go_wp2
            rw [HW2.out]
            go_quiet (fail)
            go_wp2
            go_roundw
            case rel =>
              have hv : LL a b i j = mx := by
                rw [HST.out, if_neg, HMX.out]
                rintro rfl
                exact HST2.out rfl
              exact ⟨_, T.set j mx, by omega, by omega, rfl, hF2.drewN _, Lib.hid (HLB.out.step hv), Below.drewN_ hB2 _⟩
            case measure => simp [intOf]
        · obtain rfl : u = -1 := by omega
          have hg1 := hFT
          have htab := (HI1.out.keep (N' := wr.heap.size) hBe (by have := hFT.lt; omega))
          obtain ⟨rv, hrv⟩ : ∃ rv, rows[i]? = some rv := ⟨_, List.getElem?_eq_getElem (by rw [HI.out.len, HN.out]; omega)⟩
          have s1 := (htab.full.cell i).trans hrv
          have s2 := htab.full.frozen i
          have hi1 : (i : Int) < (n : Int) + 1 := by omega
          have hi0 : (0 : Int) ≤ (i : Int) := Int.natCast_nonneg _
          go_wp2
          go_roundw
          case rel =>
            have hs := htab.step (by rw [HN.out]; omega) (by have := HI1.out.lt; omega) hFT.lt hFT HLB.out
            rw [HM.out] at hs
            have hwb : Below w.heap.size w wr := HBO.out.trans (HB1.out.trans (hBe.mono (Nat.le_refl _)) |>.mono hgr2)
            refine ⟨_, _, by omega, by omega, rfl, Lib.hid (by rw [World.size_setCell]; exact hs), hwb.setCell (p := ⟨g, i, none⟩) hgz _⟩
          case measure => simp [intOf]
    · obtain rfl : z = -1 := by omega
      go_wp2
      go_ret
      exact ⟨g, rows, rfl, HGG.out ▸ HI.out, hBo⟩
end Go.Proofs.Ytmeoannheomdoaa
