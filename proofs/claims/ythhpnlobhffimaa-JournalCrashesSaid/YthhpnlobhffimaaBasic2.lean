/- The reference's off, Fail, Sync; Mod; survives; copyOf. -/
import Derived.Test.YthhpnlobhffimaaBasic
import Derived.Laws.CopyOwn
namespace Go.Proofs.Ythhpnlobhffimaa
set_option maxRecDepth 100000
open Go.RowKit
section
variable {B : Nat} {w : World} {q : Nat} {d : Dk} {F : Nat → Prop}
theorem roff_off {n s c : Value} {N lf : Int} {lm : Bool} {o : Option Nat} (hf : Full w q 46 [n, s, c, .int .i64 N, .int .i64 lf, .bool lm]) (hl : limOk o lm lf) (ho : offO o = true) :
    Calls Try.prog 51 #[.pointer (some ⟨q, 0, none⟩)] w fun e w' => e = .returned (.bool true) ∧ w = w' := by
  obtain rfl : o = some 0 := by rcases o with _ | _ | m <;> simp [offO] at ho ⊢
  obtain ⟨rfl, rfl⟩ := hl
  have c5 : w.cell? ⟨q, 5, none⟩ = some (.bool true) := hf.cell 5
  have c4 : w.cell? ⟨q, 4, none⟩ = some (.int .i64 0) := hf.cell 4
  clear hf ho
  go_enter Try.func51, Try.ntmps51
  go_wp2
  go_ret
  exact ⟨rfl, rfl⟩
def OnOut (w : World) (q : Nat) (n s c : Value) (N lf : Int) (lm : Bool) (e : Ending) (w' : World) : Prop :=
  e = .returned (.bool false) ∧ Full w' q 46 [n, s, c, .int .i64 (N + 1), .int .i64 (lf - 1), .bool lm] ∧ Turn (fun g => g = q) w w'
theorem roff_on {n s c : Value} {N lf : Int} {lm : Bool} {o : Option Nat} (hf : Full w q 46 [n, s, c, .int .i64 N, .int .i64 lf, .bool lm]) (hl : limOk o lm lf) (ho : offO o = false) (hN : 0 ≤ N ∧ N ≤ 1000000) (hb : -1000003 ≤ lf ∧ lf ≤ 1000000) :
    Calls Try.prog 51 #[.pointer (some ⟨q, 0, none⟩)] w (OnOut w q n s c N lf lm) := by
  unfold OnOut
  have c5 : w.cell? ⟨q, 5, none⟩ = some (.bool lm) := hf.cell 5
  have c4 : w.cell? ⟨q, 4, none⟩ = some (.int .i64 lf) := hf.cell 4
  have z4 : w.frozen? ⟨q, 4, none⟩ = false := hf.frozen 4
  have F1 : Full (w.setCell ⟨q, 4, none⟩ (.int .i64 (lf - 1))) q 46 [n, s, c, .int .i64 N, .int .i64 (lf - 1), .bool lm] := hf.set_ 4 _
  have d3 : (w.setCell ⟨q, 4, none⟩ (.int .i64 (lf - 1))).cell? ⟨q, 3, none⟩ = some (.int .i64 N) := F1.cell 3
  have y3 : (w.setCell ⟨q, 4, none⟩ (.int .i64 (lf - 1))).frozen? ⟨q, 3, none⟩ = false := F1.frozen 3
  have F2 := Lib.hid (show Full ((w.setCell ⟨q, 4, none⟩ (.int .i64 (lf - 1))).setCell ⟨q, 3, none⟩ (.int .i64 (N + 1))) q 46 [n, s, c, .int .i64 (N + 1), .int .i64 (lf - 1), .bool lm] from F1.set_ 3 _)
  have T2 := Lib.hid ((Turn.set_ (w := w) (F := fun g => g = q) (a := ⟨q, 4, none⟩) rfl (.int .i64 (lf - 1))).trans_ (Turn.set_ (F := fun g => g = q) (a := ⟨q, 3, none⟩) rfl (.int .i64 (N + 1))))
  obtain ⟨N0, N1⟩ := hN
  obtain ⟨b0, b1⟩ := hb
  clear hf F1
  rcases o with _ | m
  · have : lm = false := hl
    subst this
    clear hl ho
    go_enter Try.func51, Try.ntmps51
    go_wp2
    go_ret
    exact ⟨rfl, F2.out, T2.out⟩
  · obtain ⟨rfl, hlm⟩ := hl
    have hne : (lf == 0) = false := by
      rcases m with _ | m
      · simp [offO] at ho
      · simp; omega
    clear ho hlm
    go_enter Try.func51, Try.ntmps51
    go_wp2
    go_ret
    exact ⟨rfl, F2.out, T2.out⟩
theorem limOk_less {o : Option Nat} {lm : Bool} {lf : Int} (h : limOk o lm lf) (ho : offO o = false) : limOk (Dk.less o) lm (lf - 1) := by
  rcases o with _ | _ | m
  · exact h
  · simp [offO] at ho
  · obtain ⟨h1, h2⟩ := h
    exact ⟨h1, by simp at h2 ⊢; omega⟩
theorem rfail_any (h : IsR B w q d F) (x : Int) (hx : -1 ≤ x ∧ x ≤ 1000000) : Calls Try.prog 22 #[.pointer (some ⟨q, 0, none⟩), .int .i64 x] w fun e w' => e = .returned (.tuple #[]) ∧ IsR B w' q (d.fail x) F ∧ Turn (fun g => g = q) w w' := by
  obtain ⟨c, lf, lm, h⟩ := h
  have hf := h.full
  have c5 : w.cell? ⟨q, 5, none⟩ = some (.bool lm) := hf.cell 5
  have z5 : w.frozen? ⟨q, 5, none⟩ = false := hf.frozen 5
  have F1 : Full (w.setCell ⟨q, 5, none⟩ (.bool (decide (0 ≤ x)))) q 46 [.string (str d.now), .string (str d.syn), c, .int .i64 (d.calls : Int), .int .i64 lf, .bool (decide (0 ≤ x))] := hf.set_ 5 _
  have d4 : (w.setCell ⟨q, 5, none⟩ (.bool (decide (0 ≤ x)))).cell? ⟨q, 4, none⟩ = some (.int .i64 lf) := F1.cell 4
  have y4 : (w.setCell ⟨q, 5, none⟩ (.bool (decide (0 ≤ x)))).frozen? ⟨q, 4, none⟩ = false := F1.frozen 4
  have F2 : Full ((w.setCell ⟨q, 5, none⟩ (.bool (decide (0 ≤ x)))).setCell ⟨q, 4, none⟩ (.int .i64 x)) q 46 [.string (str d.now), .string (str d.syn), c, .int .i64 (d.calls : Int), .int .i64 x, .bool (decide (0 ≤ x))] := F1.set_ 4 _
  have T2 := (Turn.set_ (w := w) (F := fun g => g = q) (a := ⟨q, 5, none⟩) rfl (.bool (decide (0 ≤ x)))).trans_ (Turn.set_ (F := fun g => g = q) (a := ⟨q, 4, none⟩) rfl (.int .i64 x))
  have hne : ∀ g, c.ownBlock = some g → g ≠ q := by
    rintro g hg rfl
    exact hf.not_row h.ps (by decide) hg.symm
  have R : Hid (IsR B ((w.setCell ⟨q, 5, none⟩ (.bool (decide (0 ≤ x)))).setCell ⟨q, 4, none⟩ (.int .i64 x)) q (d.fail x) F) := ⟨c, x, decide (0 ≤ x), {
    full := F2
    lok := by
      unfold Dk.fail
      dsimp only
      by_cases h1 : x < 0
      · rw [if_pos h1]
        show decide (0 ≤ x) = false
        simp; omega
      · rw [if_neg h1]
        exact ⟨by simp; omega, by omega⟩
    bnd := ⟨by have : (0 : Int) ≤ ((d.fail x).calls : Int) := Int.natCast_nonneg _; omega, hx.2⟩
    ps := owns_keep h.ps fun g hg => T2.block g (h.in_ g (h.row g hg)).2 (hne g hg)
    self := h.self
    row := h.row
    good := Dk.fail_good h.good hx.2
    in_ := fun g hg => ⟨(h.in_ g hg).1, Nat.lt_of_lt_of_le (h.in_ g hg).2 T2.size⟩ }⟩
  have HT := Lib.hid T2
  clear h hf F1 F2 T2 hne
  go_enter Try.func22, Try.ntmps22
  go_wp2
  go_end0
  exact ⟨rfl, R.out, HT.out⟩
/-- Sync of the reference -/
theorem rsync_any (h : IsR B w q d F) (hc : d.calls ≤ 1000000) : Calls Try.prog 46 #[.pointer (some ⟨q, 0, none⟩)] w fun e w' => e = .returned (.int .i64 d.sErr) ∧ IsR B w' q d.sync F ∧ Turn (fun g => g = q) w w' := by
  have HI := Lib.hid h
  obtain ⟨c, lf, lm, h⟩ := h
  have hf := h.full
  cases ho : offO d.pw with
  | true =>
    have RO := Lib.hid (roff_off hf h.lok ho)
    have e1 : d.sErr = 30 := by unfold Dk.sErr Dk.isOff; rw [if_pos ho]
    have e2 : d.sync = d := by unfold Dk.sync Dk.isOff; rw [if_pos ho]
    rw [e1, e2]
    clear h hf ho e1 e2
    go_enter Try.func46, Try.ntmps46
    go_wp2_with (go_at_call 51; ((with_reducible refine RO.out.mono ?_); rintro e w1 ⟨rfl, rfl⟩))
    go_ret
    exact ⟨rfl, HI.out, Turn.refl _ _⟩
  | false =>
    have hb := h.bnd
    have RO := Lib.hid (roff_on hf h.lok ho ⟨Int.natCast_nonneg _, by omega⟩ ⟨by omega, hb.2⟩)
    unfold OnOut at RO
    have e1 : d.sErr = 0 := by unfold Dk.sErr Dk.isOff; rw [if_neg (by simp [ho])]
    have e2 : d.sync = d.synced := by unfold Dk.sync Dk.isOff; rw [if_neg (by simp [ho])]
    rw [e1, e2]
    have KK := Lib.hid (fun (w2 : World) (hF2 : Full w2 q 46 [.string (str d.now), .string (str d.now), .slice none 0 0, .int .i64 ((d.calls : Int) + 1), .int .i64 (lf - 1), .bool lm]) (ht : Turn (fun g => g = q) w w2) => (show IsR B w2 q d.synced F from
      ⟨.slice none 0 0, lf - 1, lm, {
        full := by
          have : ((d.synced.calls : Nat) : Int) = (d.calls : Int) + 1 := by simp [Dk.synced]
          rw [this]
          exact hF2
        lok := limOk_less h.lok ho
        bnd := ⟨by have : ((d.synced.calls : Nat) : Int) = (d.calls : Int) + 1 := by simp [Dk.synced]
                   omega, by omega⟩
        ps := World.ownsRow_nil _ _ _ _
        self := h.self
        row := fun g hg => by simp [Value.ownBlock] at hg
        good := Dk.synced_good h.good
        in_ := fun g hg => ⟨(h.in_ g hg).1, Nat.lt_of_lt_of_le (h.in_ g hg).2 ht.size⟩ }⟩))
    obtain ⟨N, hN⟩ : ∃ N : Int, (d.calls : Int) = N := ⟨_, rfl⟩
    obtain ⟨sn, hsn⟩ : ∃ sn, str d.now = sn := ⟨_, rfl⟩
    obtain ⟨ss, hss⟩ : ∃ ss, str d.syn = ss := ⟨_, rfl⟩
    rw [hN, hsn] at KK
    rw [hN, hsn, hss] at RO
    clear h hf ho e1 e2 hb hN hsn hss hc HI
    go_enter Try.func46, Try.ntmps46
    go_wp2_with (go_at_call 51; ((with_reducible refine RO.out.mono ?_); rintro e w1 ⟨rfl, F1, T1⟩; (have x0 : w1.cell? ⟨q, 0, none⟩ = some (.string sn) := F1.cell 0); (have x1 : w1.cell? ⟨q, 1, none⟩ = some (.string ss) := F1.cell 1); (have v1 : w1.frozen? ⟨q, 1, none⟩ = false := F1.frozen 1); (have F2 := F1.set_ 1 (.string sn)); (have x2 : (w1.setCell ⟨q, 1, none⟩ (.string sn)).cell? ⟨q, 2, none⟩ = some c := F2.cell 2); (have v2 : (w1.setCell ⟨q, 1, none⟩ (.string sn)).frozen? ⟨q, 2, none⟩ = false := F2.frozen 2); (have F3 := Lib.hid (F2.set_ 2 (.slice none 0 0))); (have T3 := Lib.hid ((T1.trans_ (Turn.set_ (F := fun g => g = q) (a := ⟨q, 1, none⟩) rfl (.string sn))).trans_ (Turn.set_ (F := fun g => g = q) (a := ⟨q, 2, none⟩) rfl (.slice none 0 0))))))
    go_ret
    exact ⟨rfl, KK.out _ F3.out T3.out, T3.out⟩
end
/-- Mod -/
def modN (x : Int) (m : Nat) : Nat := ((x.tmod m + m).tmod m).toNat
theorem modN_lt {x : Int} {m : Nat} (h : 0 < m) : modN x m < m := by
  have h1 := Int.lt_tmod_of_pos x (b := m) (by omega)
  have h2 := Int.tmod_lt_of_pos (x.tmod m + m) (b := m) (by omega)
  have h3 := Int.tmod_nonneg (a := x.tmod m + m) m (by omega)
  unfold modN
  omega
theorem modN_eq {x : Int} {m : Nat} (h : 0 < m) : (x.tmod m + m).tmod m = (modN x m : Int) := by
  have h1 := Int.lt_tmod_of_pos x (b := m) (by omega)
  have h3 := Int.tmod_nonneg (a := x.tmod m + m) m (by omega)
  unfold modN
  omega
set_option maxRecDepth 100000 in
/-- survives -/
theorem surv_nil (k : Nat) : surv [] k = false := rfl
theorem survives_any {w : World} {B1 m c : Nat} {A : Option Addr} {q : List Int} (k : Nat) (h : Row w B1 1 A m c (intC q)) (hm : m ≤ maxLen) :
    Calls Try.prog 43 #[.int .i64 (k : Int), .slice A m c] w fun e w' => e = .returned (.bool (surv q k)) ∧ w = w' := by
  have hl : q.length = m := by have := h.1; rw [intC_len] at this; omega
  unfold maxLen at hm
  by_cases h0 : m = 0
  · have hq : q = [] := List.eq_nil_of_length_eq_zero (by omega)
    rw [hq, surv_nil]
    subst h0
    clear h hl hq
    go_enter Try.func43, Try.ntmps43
    go_wp2
    go_ret
    exact ⟨rfl, rfl⟩
  · have hi : k % m < q.length := by rw [hl]; exact Nat.mod_lt _ (by omega)
    obtain ⟨ad, rfl, _, hc⟩ := h.2.2.2 (k % m) _ (intC_at q (k % m) hi)
    have hs : surv q k = ((q.getD (k % m) 0).tmod 2 != 0) := by
      unfold surv
      rw [hl, decide_eq_true (by omega : 0 < m), Bool.true_and]
    rw [hs]
    obtain ⟨x, hx⟩ : ∃ x, q.getD (k % m) 0 = x := ⟨_, rfl⟩
    rw [hx] at hc ⊢
    have h1 : 0 < m := by omega
    have hm1 : ¬ (m : Int) = 0 := by omega
    have hm2 : ((m : Int) == 0) = false := by rw [beq_eq_false_iff_ne]; exact hm1
    have e1 : (k : Int) % (m : Int) = ((k % m : Nat) : Int) := by omega
    have hi2 : k % m < m := Nat.mod_lt _ h1
    obtain ⟨i, hii⟩ : ∃ i, k % m = i := ⟨_, rfl⟩
    rw [hii] at hc e1 hi2
    have e2 : (k : Int).tmod (m : Int) = (i : Int) := by rw [Int.tmod_eq_emod_of_nonneg (by omega)]; exact e1
    have i0 : (0 : Int) ≤ (i : Int) := Int.natCast_nonneg _
    have i1 : (i : Int) < (m : Int) := by omega
    clear h hl hi hs hx hii
    go_enter Try.func43, Try.ntmps43
    go_wp2
    go_ret
    exact ⟨rfl, rfl⟩
end Go.Proofs.Ythhpnlobhffimaa
