/- skipsInFirst: whether the longest common subsequence from i + 1 and j on is not shorter than that from i and j + 1 on. -/
import Derived.Test.YtmeoannheomdoaaFull
namespace Go.Proofs.Ytmeoannheomdoaa
open Go.RowKit

def skipB (x y : List Nat) (i j : Nat) : Bool := decide (LL x y i (j + 1) ≤ LL x y (i + 1) j)
def SkOk (x y : List Nat) (S : List Bool) (i j : Int) : Prop :=
  S.length = x.length * y.length ∧ ∀ i' j', i' < x.length → j' < y.length → (i < (i' : Int) ∨ (i = (i' : Int) ∧ j < (j' : Int))) → S[i' * y.length + j']? = some (skipB x y i' j')
def LenOk (x y : List Nat) (T : List Nat) (i : Nat) (j : Int) : Prop :=
  T.length = y.length + 1 ∧ ∀ j', j' ≤ y.length → T[j']? = some (if j < (j' : Int) then LL x y i j' else LL x y (i + 1) j')

theorem at_lt {i j n m : Nat} (hi : i < n) (hj : j < m) : i * m + j < n * m := by
  have := Nat.mul_le_mul_right m (show i + 1 ≤ n from hi)
  rw [Nat.succ_mul] at this
  omega
theorem at_inj {i i' j j' m : Nat} (hj : j < m) (hj' : j' < m) (h : i * m + j = i' * m + j') : i = i' ∧ j = j' := by
  have h1 : (i * m + j) / m = i := by rw [Nat.mul_comm, Nat.mul_add_div (by omega), Nat.div_eq_of_lt hj]; rfl
  have h2 : (i' * m + j') / m = i' := by rw [Nat.mul_comm, Nat.mul_add_div (by omega), Nat.div_eq_of_lt hj']; rfl
  have : i = i' := by rw [← h1, h, h2]
  subst this
  exact ⟨rfl, by omega⟩

theorem SkOk.step {x y : List Nat} {S : List Bool} {i j : Nat} (h : SkOk x y S i j) (hi : i < x.length) (hj : j < y.length) : SkOk x y (S.set (i * y.length + j) (skipB x y i j)) i ((j : Int) - 1) := by
  refine ⟨by rw [List.length_set]; exact h.1, fun i' j' hi' hj' hc => ?_⟩
  have hl := at_lt hi hj
  by_cases e : i = i' ∧ j = j'
  · obtain ⟨rfl, rfl⟩ := e
    rw [List.getElem?_set_self (by rw [h.1]; exact hl)]
  · rw [List.getElem?_set_ne (fun he => e (at_inj hj hj' he))]
    exact h.2 i' j' hi' hj' (by omega)
theorem SkOk.next {x y : List Nat} {S : List Bool} {i j : Int} (h : SkOk x y S i j) (hj : j < 0) : SkOk x y S (i - 1) ((y.length : Int) - 1) :=
  ⟨h.1, fun i' j' hi' hj' hc => h.2 i' j' hi' hj' (by omega)⟩
theorem LenOk.step {x y T : List Nat} {i j : Nat} (h : LenOk x y T i j) (hj : j < y.length) : LenOk x y (T.set j (LL x y i j)) i ((j : Int) - 1) := by
  refine ⟨by rw [List.length_set]; exact h.1, fun j' hj' => ?_⟩
  have := h.2 j' hj'
  by_cases e : j = j'
  · subst e
    rw [List.getElem?_set_self (by rw [h.1]; omega), if_pos (by omega)]
  · rw [List.getElem?_set_ne e, this]
    congr 1
    by_cases h1 : (j : Int) < (j' : Int)
    · rw [if_pos h1, if_pos (by omega)]
    · rw [if_neg h1, if_neg (by omega)]
theorem LenOk.next {x y T : List Nat} {i : Nat} {j : Int} (h : LenOk x y T i j) (hj : j < 0) : ∀ j', j' ≤ y.length → T[j']? = some (LL x y i j') := fun j' hj' => by
  rw [h.2 j' hj', if_pos (by omega)]
theorem LenOk.start {x y T : List Nat} {i : Nat} (hT : T.length = y.length + 1) (h : ∀ j', j' ≤ y.length → T[j']? = some (LL x y (i + 1) j')) : LenOk x y T i ((y.length : Int) - 1) :=
  ⟨hT, fun j' hj' => by
    rw [h j' hj']
    split
    · have : j' = y.length := by omega
      subst this
      rw [LL_end' x y _ (Nat.le_refl _), LL_end' x y _ (Nat.le_refl _)]
    · rfl⟩
theorem natC_at {l : List Nat} {j v : Nat} (h : l[j]? = some v) : (natC l)[j]? = some (.int .i64 (v : Int)) := by unfold natC; rw [List.getElem?_map, h]; rfl
theorem natC_set (l : List Nat) (j v : Nat) : (natC l).set j (.int .i64 (v : Int)) = natC (l.set j v) := by unfold natC; rw [List.map_set]
theorem boolC_set (l : List Bool) (j : Nat) (v : Bool) : (boolC l).set j (.bool v) = boolC (l.set j v) := by unfold boolC; rw [List.map_set]

theorem Full.setN {w : World} {g : Nat} {T : List Nat} (h : Full w g 3 (natC T)) (j v : Nat) : Full (w.setCell ⟨g, j, none⟩ (.int .i64 (v : Int))) g 3 (natC (T.set j v)) := by
  rw [← natC_set]; exact h.set_ j _

def SkipOut (x y : List Nat) (q : Nat) (w : World) (e : Ending) (w' : World) : Prop :=
  ∃ (g : Nat) (S : List Bool), e = .returned (.slice (some ⟨g, 0, none⟩) q q) ∧ w.heap.size ≤ g ∧ Full w' g 4 (boolC S) ∧ SkOk x y S (-1) ((y.length : Int) - 1) ∧ Below w.heap.size w w'

set_option maxRecDepth 100000 in
set_option maxHeartbeats 2000000 in
theorem skips_any (A B : Option Addr) (x y : List Nat) (c d : Nat) (w : World) (hA : Row w w.heap.size 1 A x.length c (natC x)) (hB : Row w w.heap.size 1 B y.length d (natC y)) (hq : x.length * y.length ≤ 4000000) (hx : x.length ≤ 4000000) (hy : y.length ≤ 4000000) :
    Calls Try.prog 54 #[.slice A x.length c, .slice B y.length d] w (SkipOut x y (x.length * y.length) w) := by
  obtain ⟨n, hn⟩ : ∃ n, x.length = n := ⟨_, rfl⟩
  obtain ⟨m, hm⟩ : ∃ m, y.length = m := ⟨_, rfl⟩
  obtain ⟨q, hqq⟩ : ∃ q, n * m = q := ⟨_, rfl⟩
  rw [hn] at hA hx hq
  rw [hm] at hB hy hq
  rw [hqq] at hq
  rw [hn, hm, hqq]
  have hmk1 := made_one 87 4 (.bool false) 1 Try.underlying87 info4 rfl q (by omega) (by omega)
  have hmk2 := made_one 28 3 (.int .i64 0) 8 Try.underlying28 info3 rfl (m + 1) (by omega) (by omega)
  have hnm : (n : Int) * (m : Int) = (q : Int) := by rw [← hqq]; exact (Int.natCast_mul n m).symm
  have HN := Lib.hid hn
  have HM := Lib.hid hm
  have HQ := Lib.hid hqq
  clear hn hm hqq
  have hcA := hA.2.1
  have hcB := hB.2.1
  obtain ⟨S, HS⟩ : ∃ S, Hid (List.replicate q (Value.bool false) = S) := ⟨_, Lib.hid rfl⟩
  rw [HS.out] at hmk1
  obtain ⟨T, HT⟩ : ∃ T, Hid (List.replicate (m + 1) (Value.int .i64 0) = T) := ⟨_, Lib.hid rfl⟩
  rw [HT.out] at hmk2
  rw [show ((m + 1 : Nat) : Int) = (m : Int) + 1 from rfl] at hmk2
  have hF1 : Full (w.alloc (.cells S.toArray 4)) w.heap.size 4 S := Full.new _ _ _
  have hF2 : Full ((w.alloc (.cells S.toArray 4)).alloc (.cells T.toArray 3)) (w.heap.size + 1) 3 T := by
    have := Full.new (w.alloc (.cells S.toArray 4)) 3 T
    rwa [World.size_alloc] at this
  have hB0 : Below w.heap.size w ((w.alloc (.cells S.toArray 4)).alloc (.cells T.toArray 3)) := ((Below.refl _ w).alloc (Nat.le_refl _) _).alloc (by simp) _
  go_enter Try.func54, Try.ntmps54
  go_wp2
  obtain ⟨w0, HW0⟩ : ∃ w0, Hid (w.heap.size = w0) := ⟨_, Lib.hid rfl⟩
  go_loopw [7] (fun v7 wr => ∃ (z : Int) (S : List Bool) (T : List Nat), -1 ≤ z ∧ z < n ∧ v7 = .int .i64 z ∧ Full wr w.heap.size 4 (boolC S) ∧ Full wr (w.heap.size + 1) 3 (natC T) ∧ Hid (SkOk x y S z ((m : Int) - 1)) ∧
      Hid (T.length = m + 1 ∧ ∀ j', j' ≤ m → T[j']? = some (LL x y (z + 1).toNat j')) ∧ Below w.heap.size w wr) (fun v7 _ => (intOf v7 + 1).toNat)
  case atStart =>
    refine ⟨_, List.replicate q false, List.replicate (m + 1) 0, by omega, by omega, rfl, ?_, ?_, Lib.hid ⟨?_, fun i' j' hi' hj' hc => ?_⟩, Lib.hid ⟨by simp, fun j' hj' => ?_⟩, hB0⟩
    · have := hF1.alloc (.cells T.toArray 3)
      have e : boolC (List.replicate q false) = S := by rw [← HS.out]; simp [boolC]
      rwa [e]
    · have e : natC (List.replicate (m + 1) 0) = T := by rw [← HT.out]; simp [natC]
      rwa [e]
    · rw [List.length_replicate, HN.out, HM.out, HQ.out]
    · have h1 := HN.out
      have h2 := HM.out
      omega
    · rw [List.getElem?_replicate, if_pos (by omega), LL_end]
      rw [HN.out]; omega
  case round =>
    obtain ⟨z, S, T, hz1, hz2, rfl, hFS, hFT, HSK, HTK, hBe⟩ := hrel
    by_cases hz : 0 ≤ z
    · obtain ⟨i, rfl⟩ : ∃ i : Nat, z = i := ⟨z.toNat, by omega⟩
      obtain ⟨p, hp⟩ : ∃ p, i * m = p := ⟨_, rfl⟩
      have him : (i : Int) * (m : Int) = (p : Int) := by rw [← hp]; exact (Int.natCast_mul i m).symm
      have HP := Lib.hid hp
      clear hp
      obtain ⟨wo, rfl⟩ : ∃ wo : World, wo = wr := ⟨_, rfl⟩
      go_wp2
      go_loopw [8, 9] (fun v8 v9 wr => ∃ (u : Int) (bb : Nat) (S : List Bool) (T : List Nat), -1 ≤ u ∧ u < m ∧ v9 = .int .i64 u ∧ v8 = .int .i64 bb ∧ bb ≤ 4000000 ∧ Hid (bb = LL x y (i + 1) (u + 1).toNat) ∧ Full wr w.heap.size 4 (boolC S) ∧ Full wr (w.heap.size + 1) 3 (natC T) ∧ Hid (SkOk x y S i u) ∧
          Hid (LenOk x y T i u) ∧ Below w.heap.size w wr) (fun _ v9 _ => (intOf v9 + 1).toNat)
      case atStart =>
        refine ⟨_, 0, S, T, by omega, by omega, rfl, rfl, by omega, Lib.hid ?_, hFS, hFT, HSK, Lib.hid ?_, hBe⟩
        · rw [LL_end']
          rw [HM.out]; omega
        · have := LenOk.start (x := x) (y := y) (T := T) (i := i) (by rw [HM.out]; exact HTK.out.1) (by rw [HM.out]; exact HTK.out.2)
          rwa [HM.out] at this
      case round =>
        obtain ⟨u, bb, S, T, hu1, hu2, rfl, rfl, hbb4, HBB, hFS, hFT, HSK, HTK, hBe⟩ := hrel
        by_cases hu : 0 ≤ u
        · obtain ⟨j, rfl⟩ : ∃ j : Nat, u = j := ⟨u.toNat, by omega⟩
          have hin : i < x.length := by have := HN.out; omega
          have hjm : j < y.length := by have := HM.out; omega
          have hstep := LL_step x y hin hjm
          obtain ⟨xi, hxi⟩ : ∃ v, x[i] = v := ⟨_, rfl⟩
          obtain ⟨yj, hyj⟩ : ∃ v, y[j] = v := ⟨_, rfl⟩
          obtain ⟨bf, hbf⟩ : ∃ v, LL x y (i + 1) j = v := ⟨_, rfl⟩
          obtain ⟨bs, hbs⟩ : ∃ v, LL x y i (j + 1) = v := ⟨_, rfl⟩
          have hbf4 : bf ≤ 4000000 := by rw [← hbf]; exact Nat.le_trans (LL_le _ _ _ _) (by rw [HN.out]; exact hx)
          have hskB : skipB x y i j = decide (bs ≤ bf) := by unfold skipB; rw [hbf, hbs]
          rw [hxi, hyj, hbf, hbs] at hstep
          obtain ⟨ad, rfl, hadB, hcx⟩ := hA.2.2.2 i _ (natC_at (by rw [List.getElem?_eq_getElem hin, hxi]))
          obtain ⟨bd, rfl, hbdB, hcy⟩ := hB.2.2.2 j _ (natC_at (by rw [List.getElem?_eq_getElem hjm, hyj]))
          have hcx1 := (hBe.cell (p := ad.add i) (by rw [add_block]; exact hadB)).trans hcx
          have hcy1 := (hBe.cell (p := bd.add j) (by rw [add_block]; exact hbdB)).trans hcy
          have hTl := HTK.out.2 j (by omega)
          rw [if_neg (by omega), hbf] at hTl
          have hTs := HTK.out.2 (j + 1) (by omega)
          rw [if_pos (by omega), hbs] at hTs
          have hT1 := (hFT.cell j).trans (natC_at hTl)
          have hT2 := (hFT.cell (j + 1)).trans (natC_at hTs)
          have hpj : p + j < q := by have := at_lt hin hjm; rw [HN.out, HM.out, HQ.out, HP.out] at this; exact this
          obtain ⟨ob, hob⟩ : ∃ ob, S[p + j]? = some ob := ⟨_, List.getElem?_eq_getElem (by rw [HSK.out.1, HN.out, HM.out, HQ.out]; exact hpj)⟩
          have hS1 : wr.cell? ⟨w.heap.size, p + j, none⟩ = some (.bool ob) := (hFS.cell (p + j)).trans (by unfold boolC; rw [List.getElem?_map, hob]; rfl)
          have hS2 := hFS.frozen (p + j)
          obtain ⟨bl, hbl⟩ : ∃ bl, decide (bs ≤ bf) = bl := ⟨_, rfl⟩
          have hbl' : decide ((bs : Int) ≤ (bf : Int)) = bl := by rw [← hbl]; simp
          have hne : ∀ {a : Addr} (k : Nat), a.block < w.heap.size → (⟨w.heap.size, p + j, none⟩ : Addr) ≠ a.add k := fun k h e => by have := congrArg Addr.block e; rw [add_block] at this; simp at this; omega
          have hcx2 : ∀ nq, ((wr.drewN nq).setCell ⟨w.heap.size, p + j, none⟩ (.bool bl)).cell? (ad.add i) = _ := fun nq => (World.cell?_setCell_other (wr.drewN nq) ⟨w.heap.size, p + j, none⟩ (ad.add i) (.bool bl) (hne i hadB)).trans hcx1
          have hcy2 : ∀ nq, ((wr.drewN nq).setCell ⟨w.heap.size, p + j, none⟩ (.bool bl)).cell? (bd.add j) = _ := fun nq => (World.cell?_setCell_other (wr.drewN nq) ⟨w.heap.size, p + j, none⟩ (bd.add j) (.bool bl) (hne j hbdB)).trans hcy1
          have hFS2 := fun nq => (hFS.drewN nq).set_ (p + j) (.bool bl)
          rw [boolC_set] at hFS2
          have hFT2 := fun nq => (hFT.drewN nq).far (p := ⟨w.heap.size, p + j, none⟩) (by simp) (.bool bl)
          have hT3 := fun nq => ((hFT2 nq).cell j).trans (natC_at hTl)
          have hT4 := fun nq => (hFT2 nq).frozen j
          have HSK2 := HSK.out.step hin hjm
          have HTK2 := HTK.out.step hjm
          rw [hskB, hbl, HM.out, HP.out] at HSK2
          have HSK3 := Lib.hid HSK2
          have HTK3 := Lib.hid HTK2
          have HST := Lib.hid hstep
          have HBF := Lib.hid hbf
          have hB2 := fun nq => (Below.drewN_ hBe nq).setCell (p := ⟨w.heap.size, p + j, none⟩) (Nat.le_refl _) (.bool bl)
          clear hstep hxi hyj hbf hbs hskB hcx hcy hTl hTs hob hne HSK2 HTK2 hadB hbdB
          have hi0 : (0 : Int) ≤ (i : Int) := Int.natCast_nonneg _
          have hj0 : (0 : Int) ≤ (j : Int) := Int.natCast_nonneg _
          have hj1 : (j : Int) < (m : Int) + 1 := by omega
          have hj2 : (j : Int) + 1 < (m : Int) + 1 := by omega
          have e1 : IntKind.i64.wrap ((j : Int) + 1) = (j : Int) + 1 := by simp [IntKind.wrap, IntKind.bits, IntKind.signed]; omega
          have e2 : (0 : Int) ≤ (j : Int) + 1 := by omega
          have e3 : ((j : Int) + 1).toNat = j + 1 := by omega
          by_cases hxy : xi = yj
          · have hxb : ((xi : Int) == (yj : Int)) = true := by rw [hxy]; simp
            have HXY := Lib.hid hxy
            clear hxy
            go_wp2
            go_quiet (fail)
            go_wp2
            go_quiet (fail)
            go_wp2
            go_roundw
            case rel =>
              have hv : LL x y i j = bb + 1 := by
                rw [HST.out, if_pos HXY.out, HBB.out]
                congr 2
              have e := HTK3.out
              rw [hv] at e
              refine ⟨_, bf, S.set (p + j) bl, T.set j (bb + 1), by omega, by omega, rfl, rfl, hbf4, Lib.hid (by rw [← HBF.out]; congr 1; omega), ?_, ?_, HSK3, Lib.hid e, ?_⟩
              · exact ((hFS2 _).drewN _).far (p := ⟨w.heap.size + 1, j, none⟩) (by simp) _
              · exact ((hFT2 _).drewN _).setN j _
              · exact (Below.drewN_ (hB2 _) _).setCell (p := ⟨w.heap.size + 1, j, none⟩) (by simp) _
            case measure => simp [intOf]
          · have hxb : ((xi : Int) == (yj : Int)) = false := by rw [beq_eq_false_iff_ne]; omega
            have HXY := Lib.hid hxy
            clear hxy
            obtain ⟨mx, hmx⟩ : ∃ mx, max bf bs = mx := ⟨_, rfl⟩
            have hmif : (if bf < bs then (bs : Int) else (bf : Int)) = (mx : Int) := by rw [← hmx]; split <;> omega
            have hmif2 : (if bs < bf then (bf : Int) else (bs : Int)) = (mx : Int) := by rw [← hmx]; split <;> omega
            have HMX := Lib.hid hmx
            clear hmx
            go_wp2
            go_quiet (fail)
            go_wp2
            go_quiet (fail)
            go_wp2
            go_roundw
            case rel =>
              have hv : LL x y i j = mx := by
                rw [HST.out, if_neg HXY.out, HMX.out]
              have e := HTK3.out
              rw [hv] at e
              refine ⟨_, bf, S.set (p + j) bl, T.set j mx, by omega, by omega, rfl, rfl, hbf4, Lib.hid (by rw [← HBF.out]; congr 1; omega), ?_, ?_, HSK3, Lib.hid e, ?_⟩
              · exact ((hFS2 _).drewN _).far (p := ⟨w.heap.size + 1, j, none⟩) (by simp) _
              · exact ((hFT2 _).drewN _).setN j _
              · exact (Below.drewN_ (hB2 _) _).setCell (p := ⟨w.heap.size + 1, j, none⟩) (by simp) _
            case measure => simp [intOf]
        · obtain rfl : u = -1 := by omega
          go_wp2
          go_roundw
          case rel =>
            have h1 := HSK.out.next (by omega)
            have h2 := HTK.out.next (by omega)
            rw [HM.out] at h1 h2
            refine ⟨_, S, T, by omega, by omega, rfl, hFS, hFT, Lib.hid h1, Lib.hid ⟨by rw [← HM.out]; exact HTK.out.1, fun j' hj' => ?_⟩, hBe⟩
            rw [h2 j' hj']
            congr 2
            omega
          case measure => simp [intOf]
    · obtain rfl : z = -1 := by omega
      go_wp2
      go_ret
      exact ⟨w.heap.size, S, rfl, Nat.le_refl _, hFS, by rw [HM.out]; exact HSK.out, hBe⟩

end Go.Proofs.Ytmeoannheomdoaa
