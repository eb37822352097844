/- The reference's Crash. -/
import Derived.Test.YtigmmcmekklkfaaRefW
import Derived.Test.YtigmmcmekklkfaaSyncT
namespace Go.Proofs.Ytigmmcmekklkfaa
set_option maxRecDepth 100000
open Go.RowKit
/-- a part of a row of parts -/
theorem surv_len {q : List Int} {k : Nat} (h : q.length = 0) : surv q k = false := by
  rw [List.eq_nil_of_length_eq_zero h]; rfl
def RCrashOut (w : World) (d : Dk) (q : List Int) (e : Ending) (w' : World) : Prop :=
  ∃ p' F', e = .returned (.pointer (some ⟨p', 0, none⟩)) ∧ IsR w.heap.size w' p' (d.crash q) F' ∧ Below w.heap.size w w'
set_option maxHeartbeats 8000000 in
theorem rcrash_any {B : Nat} {w : World} {p : Nat} {d : Dk} {F : Nat → Prop} (hd : IsR B w p d F) (hc : d.calls ≤ 100000) {B1 m c : Nat} {A : Option Addr} {q : List Int} (hq : Row w B1 1 A m c (intC q)) (hB1 : B1 ≤ w.heap.size) (hm : m ≤ maxLen) :
    Calls Try.prog 24 #[.pointer (some ⟨p, 0, none⟩), .slice A m c] w (RCrashOut w d q) := by
  unfold RCrashOut
  obtain ⟨cv, lf, lm, h⟩ := hd
  have f1 : w.cell? ⟨p, 1, none⟩ = some (.string (str d.syn)) := h.full.cell 1
  have hin := allParts_in h.good.ps
  have hfew : (allParts d.ps).length ≤ 100000 * lim := Nat.le_trans (allParts_few lim _ h.good.ps) (Nat.mul_le_mul_right _ (by have := h.good.few; omega))
  obtain ⟨C, cc, rfl⟩ := own_form h.ps
  have hrow := Row.own h.ps
  have f2 : w.cell? ⟨p, 2, none⟩ = some (.slice C (allParts d.ps).length cc) := h.full.cell 2
  have HSY := Lib.hid h.good.syn
  have HEND := Lib.hid (fun (W : World) (hb : Below w.heap.size w W) (R : List UInt8) (hR : R = d.left q) => (show ∃ p' F', Ending.returned (.pointer (some ⟨W.heap.size, 0, none⟩)) = .returned (.pointer (some ⟨p', 0, none⟩)) ∧ IsR w.heap.size (W.alloc (.cells #[.string (str R), .string (str R), .slice none 0 0, .int .i64 0, .int .i64 0, .bool false] 65)) p' (d.crash q) F' ∧ Below w.heap.size w (W.alloc (.cells #[.string (str R), .string (str R), .slice none 0 0, .int .i64 0, .int .i64 0, .bool false] 65)) from
    ⟨W.heap.size, fun g => g = W.heap.size, rfl, ⟨.slice none 0 0, 0, false, {
      full := by
        rw [hR]
        exact Full.new W 65 _
      lok := rfl
      bnd := by simp [Dk.crash]
      ps := World.ownsRow_nil _ _ _ _
      self := rfl
      row := fun g e => by simp [Value.ownBlock] at e
      good := Dk.crash_good h.good q
      in_ := fun g e => by subst e; exact ⟨hb.size, by simp⟩ }⟩, hb.alloc hb.size _⟩))
  have HLEFT := Lib.hid (show d.left q = lay q 0 d.syn (allParts d.ps) from rfl)
  obtain ⟨T, hT⟩ : ∃ T, allParts d.ps = T := ⟨_, rfl⟩
  rw [hT] at hin hfew hrow f2 HLEFT
  obtain ⟨n, hn⟩ : ∃ n, T.length = n := ⟨_, rfl⟩
  have HN := Lib.hid hn
  rw [hn] at hfew f2 hrow
  have HIN := Lib.hid hin
  have HROW := Lib.hid hrow
  have HQ := Lib.hid hq
  have hql : q.length = m := by have := hq.1; rw [intC_len] at this; omega
  have HQL := Lib.hid hql
  unfold lim at hfew
  unfold maxLen at hm
  have n0 : (0 : Int) ≤ (n : Int) := Int.natCast_nonneg _
  have n1 : (n : Int) ≤ 1677721600000 := by omega
  clear h hin hrow hn hq hql hT
  go_enter Try.func24, Try.ntmps24
  go_wp2
  go_loopw [5, 6] (fun v5 v6 wr => ∃ (k : Nat) (L : List UInt8), v5 = .string (str L) ∧ v6 = .int .i64 (k : Int) ∧ k ≤ n ∧ Hid (L = lay q 0 d.syn (T.take k)) ∧ Hid (Below w.heap.size w wr)) (fun _ v6 _ => n - (intOf v6).toNat)
  case atStart => exact ⟨0, d.syn, rfl, rfl, by omega, Lib.hid rfl, Lib.hid (Below.refl _ _)⟩
  case round =>
    obtain ⟨k, L, rfl, rfl, hk, HL, HB⟩ := hrel
    have k0 : (0 : Int) ≤ (k : Int) := Int.natCast_nonneg _
    have g2 : wr.cell? ⟨p, 2, none⟩ = some (.slice C n cc) := (HB.out.cell (by
      exact World.block_lt_of_cell? w _ f2)).trans f2
    by_cases hkn : k < n
    · have k1 : (k : Int) < (n : Int) := by omega
      by_cases hm0 : m = 0
      · subst hm0
        have HE := Lib.hid (HEND.out wr HB.out L (by
          rw [HLEFT.out, HL.out]
          have hq0 : q = [] := List.eq_nil_of_length_eq_zero HQL.out
          rw [hq0, lay_none, lay_none]))
        clear HL
        go_wp2
        go_ret
        exact HE.out
      · have hm1 : (0 : Int) < (m : Int) := by omega
        have hm1' : 0 < m := by omega
        have hi : k % m < q.length := by rw [HQL.out]; exact Nat.mod_lt _ hm1'
        obtain ⟨aq, hA, haq, hcq⟩ := HQ.out.2.2.2 (k % m) _ (intC_at q (k % m) hi)
        have hs : surv q k = ((q.getD (k % m) 0).tmod 2 != 0) := by
          unfold surv
          rw [HQL.out, decide_eq_true hm1', Bool.true_and]
        obtain ⟨x, hx⟩ : ∃ x, q.getD (k % m) 0 = x := ⟨_, rfl⟩
        rw [hx] at hcq hs
        have hcq' : wr.cell? (aq.add (k % m)) = some (.int .i64 x) := (HB.out.cell (by rw [add_block]; omega)).trans hcq
        have hmz1 : ¬ (m : Int) = 0 := by omega
        have hmz2 : ((m : Int) == 0) = false := by rw [beq_eq_false_iff_ne]; exact hmz1
        have e1 : (k : Int) % (m : Int) = ((k % m : Nat) : Int) := by omega
        have hi2 : k % m < m := Nat.mod_lt _ hm1'
        obtain ⟨i, hii⟩ : ∃ i, k % m = i := ⟨_, rfl⟩
        rw [hii] at hcq' e1 hi2
        have e2 : (k : Int).tmod (m : Int) = (i : Int) := by rw [Int.tmod_eq_emod_of_nonneg (by omega)]; exact e1
        have i0 : (0 : Int) ≤ (i : Int) := Int.natCast_nonneg _
        have i1 : (i : Int) < (m : Int) := by omega
        subst hA
        have hkl : k < T.length := by rw [HN.out]; exact hkn
        have hTk : T.take (k + 1) = T.take k ++ [T[k]] := List.take_succ_eq_append_getElem hkl
        have hstep : lay q 0 d.syn (T.take (k + 1)) = if surv q k then put L T[k].1 T[k].2 else L := by
          rw [hTk, lay_snoc, List.length_take, Nat.min_eq_left (Nat.le_of_lt hkl), ← HL.out, Nat.zero_add]
        have hkw : IntKind.i64.wrap ((k : Int) + 1) = (k : Int) + 1 := by simp [IntKind.wrap, IntKind.bits, IntKind.signed]; omega
        cases hsv : surv q k with
        | false =>
          have hodd : (x.tmod 2 != 0) = false := by rw [← hs, hsv]
          rw [hsv] at hstep
          have HST := Lib.hid hstep
          clear hs hstep hTk hcq hx hii HL HIN
          go_wp2
          go_roundw
          case rel => exact ⟨k + 1, L, rfl, by go_num, by omega, Lib.hid HST.out.symm, HB⟩
          case measure => simp [intOf]; omega
        | true =>
          have hodd : (x.tmod 2 != 0) = true := by rw [← hs, hsv]
          rw [hsv] at hstep
          have HST := Lib.hid hstep
          have hpl := HIN.out T[k] (List.getElem_mem hkl)
          have hLl : L.length ≤ lim := by
            rw [HL.out]
            exact (lay_len q lim _ 0 _ (fun y hy => HIN.out y (List.mem_of_mem_take hy)) HSY.out).1
          obtain ⟨ad, hC, hadl, a0, a1⟩ := pc_at HROW.out hkl
          subst hC
          obtain ⟨o, ho⟩ : ∃ o, T[k].1 = o := ⟨_, rfl⟩
          obtain ⟨sl, hsl⟩ : ∃ sl, T[k].2 = sl := ⟨_, rfl⟩
          rw [ho, hsl] at hpl HST
          rw [ho] at a0
          rw [hsl] at a1
          have RP := Lib.hid (rput_any L sl o wr.drew hLl hpl)
          unfold StrB at RP
          have SX := Lib.hid (fun (W : World) (hb : Below w.heap.size w W) => (show W.cell? ⟨p, 2, none⟩ = some (.slice (some ad) n cc) ∧ W.cell? (ad.add (k * 2)) = some (.int .i64 (o : Int)) ∧ W.cell? ⟨(ad.add (k * 2)).block, (ad.add (k * 2)).off + 1, none⟩ = some (.string (str sl)) from
            ⟨(hb.cell (World.block_lt_of_cell? w _ f2)).trans f2, (hb.cell (by rw [add_block]; exact hadl)).trans a0, (hb.cell (by show (ad.add (k * 2)).block < _; rw [add_block]; exact hadl)).trans a1⟩))
          have SD : wr.drew.cell? ⟨p, 2, none⟩ = some (.slice (some ad) n cc) ∧ wr.drew.cell? (ad.add (k * 2)) = some (.int .i64 (o : Int)) ∧ wr.drew.cell? ⟨(ad.add (k * 2)).block, (ad.add (k * 2)).off + 1, none⟩ = some (.string (str sl)) := SX.out _ HB.out.drew
          obtain ⟨l2, hl2⟩ : ∃ l2, str L = l2 := ⟨_, rfl⟩
          obtain ⟨s2, hs2⟩ : ∃ s2, str sl = s2 := ⟨_, rfl⟩
          clear hs hstep hTk hcq hx hii HL HIN a0 a1 ho hsl hpl hLl hl2 hs2
          go_upto_region 6 with fail
          go_region_held3 (fun w' => w'.cell? ⟨p, 2, none⟩ = some (.slice (some ad) n cc) ∧ w'.cell? (ad.add (k * 2)) = some (.int .i64 (o : Int)) ∧ w'.cell? ⟨(ad.add (k * 2)).block, (ad.add (k * 2)).off + 1, none⟩ = some (.string (str sl)))
            (first | (with_reducible exact SD) | (with_reducible exact SY) | (fail "keep"))
            (first
              | (go_at_call 41; ((with_reducible refine RP.out.mono ?_); rintro e w2 ⟨rfl, hb2⟩; (have HB2 : Below w.heap.size w w2 := Below.then_ HB.out ⟨hb2.os, hb2.tape, hb2.output, hb2.size, hb2.block⟩); (have SY := SX.out w2 HB2)))
              | (fail "arm"))
          go_wp2
          go_roundw
          case rel => exact ⟨k + 1, put L o sl, rfl, by go_num, by omega, Lib.hid HST.out.symm, Lib.hid HB2⟩
          case measure => simp [intOf]; omega
    · obtain rfl : k = n := by omega
      have HE := Lib.hid (HEND.out wr HB.out L (by
        rw [HLEFT.out, HL.out, List.take_of_length_le (by rw [HN.out]; exact Nat.le_refl _)]))
      clear HL HIN
      go_wp2
      go_ret
      exact HE.out
end Go.Proofs.Ytigmmcmekklkfaa
