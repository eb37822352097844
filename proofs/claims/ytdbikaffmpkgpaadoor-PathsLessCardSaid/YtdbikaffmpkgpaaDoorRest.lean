/- matchRest: what is left of a pattern and of a path, with what has failed before. -/
import Derived.Test.YtdbikaffmpkgpaaDoorName
namespace Go.Proofs.YtdbikaffmpkgpaaDoor
open Go.RowKit

def mtStar (f : List ByteArray → Bool) : List ByteArray → Bool
  | [] => f []
  | x :: s => f (x :: s) || mtStar f s
/-- the components of a path are divided among those of a pattern -/
def mt : List ByteArray → List ByteArray → Bool
  | [] => List.isEmpty
  | c :: p => if c.data.toList = [42, 42] then mtStar (mt p) else fun s => match s with
    | [] => false
    | x :: s => oneS c x && mt p s

section
variable (P N : List ByteArray)
/-- what is left from i and j on -/
def mtAt (i j : Nat) : Bool := mt (P.drop i) (N.drop j)
variable {P N}
theorem mtAt_end {i j : Nat} (h : i = P.length) (hj : j ≤ N.length) : mtAt P N i j = decide (j = N.length) := by
  unfold mtAt
  rw [List.drop_eq_nil_of_le (by omega), mt]
  by_cases e : j = N.length
  · rw [decide_eq_true e, List.drop_eq_nil_of_le (by omega)]; rfl
  · rw [decide_eq_false e, List.drop_eq_getElem_cons (by omega : j < N.length)]; rfl
theorem mtAt_star {i j : Nat} (h : i < P.length) (h42 : P[i].data.toList = [42, 42]) : mtAt P N i j = (mtAt P N (i + 1) j || (decide (j < N.length) && mtAt P N i (j + 1))) := by
  unfold mtAt
  rw [List.drop_eq_getElem_cons h, mt, if_pos h42]
  rcases Nat.lt_or_ge j N.length with hj | hj
  · rw [List.drop_eq_getElem_cons hj, mtStar, decide_eq_true hj, Bool.true_and]
  · rw [List.drop_eq_nil_of_le hj, mtStar, decide_eq_false (by omega), Bool.false_and, Bool.or_false]
theorem mtAt_one {i j : Nat} (h : i < P.length) (h42 : ¬ P[i].data.toList = [42, 42]) (hj : j < N.length) : mtAt P N i j = (oneS P[i] N[j] && mtAt P N (i + 1) (j + 1)) := by
  unfold mtAt
  rw [List.drop_eq_getElem_cons h, mt, if_neg h42, List.drop_eq_getElem_cons hj]
theorem mtAt_none {i j : Nat} (h : i < P.length) (h42 : ¬ P[i].data.toList = [42, 42]) (hj : ¬ j < N.length) : mtAt P N i j = false := by
  unfold mtAt
  rw [List.drop_eq_getElem_cons h, mt, if_neg h42, List.drop_eq_nil_of_le (by omega)]
end

/-- nothing but block F has changed -/
structure Only (F : Nat) (w w' : World) : Prop where
  below : Below F w w'
  size : w'.heap.size = w.heap.size
  block : ∀ g, g ≠ F → w'.heap[g]? = w.heap[g]?
theorem Only.refl (F : Nat) (w : World) : Only F w w := ⟨Below.refl _ _, rfl, fun _ _ => rfl⟩
theorem Only.trans {F : Nat} {a b c : World} (h : Only F a b) (k : Only F b c) : Only F a c := ⟨h.below.trans k.below, k.size.trans h.size, fun g hg => (k.block g hg).trans (h.block g hg)⟩
theorem Only.drewN {F : Nat} {a b : World} (h : Only F a b) (q : Nat) : Only F a (b.drewN q) := ⟨Below.drewN_ h.below q, h.size, h.block⟩
theorem Only.set_ {F : Nat} {a b : World} (h : Only F a b) (i : Nat) (u : Value) : Only F a (b.setCell ⟨F, i, none⟩ u) :=
  ⟨h.below.setCell (Nat.le_refl _) u, by rw [← h.size]; simp [World.setCell], fun g hg => (Below.heap_setCell b _ u g hg).trans (h.block g hg)⟩
theorem Only.cell {F : Nat} {w w' : World} (h : Only F w w') {p : Addr} (hp : p.block ≠ F) : w'.cell? p = w.cell? p := World.cell?_of_block (w := w) (h.block p.block hp)

/-- no mark is wrong -/
def MemoOk (P N : List ByteArray) (fl : List Bool) : Prop := fl.length = 441 ∧ ∀ i j, i ≤ 20 → j ≤ 20 → fl[i * 21 + j]? = some true → mtAt P N i j = false
theorem MemoOk.set_ {P N : List ByteArray} {fl : List Bool} (h : MemoOk P N fl) {i j : Nat} (hi : i ≤ 20) (hj : j ≤ 20) {b : Bool} (hb : b = true → mtAt P N i j = false) : MemoOk P N (fl.set (i * 21 + j) b) := by
  refine ⟨by rw [List.length_set]; exact h.1, fun i' j' hi' hj' e => ?_⟩
  by_cases he : i * 21 + j = i' * 21 + j'
  · obtain ⟨rfl, rfl⟩ : i = i' ∧ j = j' := by omega
    rw [List.getElem?_set_self (by rw [h.1]; omega)] at e
    exact hb (by simpa using e)
  · rw [List.getElem?_set_ne he] at e
    exact h.2 _ _ hi' hj' e

/-- the variables that matchRest captures -/
structure Ctx (F G1 G2 M : Nat) (P N : List ByteArray) (A1 A2 : Option Addr) (c1 c2 : Nat) (w : World) : Prop where
  memo : ∃ fl, MemoOk P N fl ∧ Full w F 49 (boolC fl)
  wanted : w.cell? ⟨G1, 0, none⟩ = some (.slice A1 P.length c1)
  given : w.cell? ⟨G2, 0, none⟩ = some (.slice A2 N.length c2)
  rest : w.cell? ⟨M, 0, none⟩ = some (.func (.func 44) #[] #[.pointer (some ⟨F, 0, none⟩), .pointer (some ⟨G1, 0, none⟩), .pointer (some ⟨G2, 0, none⟩), .pointer (some ⟨M, 0, none⟩)])
  rowP : Strs w G1 A1 c1 P
  rowN : Strs w G1 A2 c2 N
section
variable {F G1 G2 M : Nat} {P N : List ByteArray} {A1 A2 : Option Addr} {c1 c2 : Nat} {w w' : World}
theorem Ctx.on (h : Ctx F G1 G2 M P N A1 A2 c1 c2 w) (hb : Only F w w') (hm : ∃ fl, MemoOk P N fl ∧ Full w' F 49 (boolC fl)) (h1 : G1 < F) (h2 : G2 < F) (h3 : F < M) : Ctx F G1 G2 M P N A1 A2 c1 c2 w' :=
  ⟨hm, (hb.cell (show G1 ≠ F by omega)).trans h.wanted, (hb.cell (show G2 ≠ F by omega)).trans h.given, (hb.cell (show M ≠ F by omega)).trans h.rest, h.rowP.keep (fun p hp => hb.cell (by omega)), h.rowN.keep (fun p hp => hb.cell (by omega))⟩
theorem Ctx.drewN (h : Ctx F G1 G2 M P N A1 A2 c1 c2 w) (q : Nat) : Ctx F G1 G2 M P N A1 A2 c1 c2 (w.drewN q) := ⟨h.memo, h.wanted, h.given, h.rest, h.rowP, h.rowN⟩
/-- behind the mark of (i, j) -/
theorem Ctx.mark (h : Ctx F G1 G2 M P N A1 A2 c1 c2 w) (h1 : G1 < F) (h2 : G2 < F) (h3 : F < M) {i j : Nat} (hi : i ≤ 20) (hj : j ≤ 20) {b : Bool} (hb : mtAt P N i j = b) : Ctx F G1 G2 M P N A1 A2 c1 c2 (w.setCell ⟨F, i * 21 + j, none⟩ (.bool (!b))) := by
  refine h.on ((Only.refl F w).set_ _ _) ?_ h1 h2 h3
  obtain ⟨fl, hm, hf⟩ := h.memo
  refine ⟨_, hm.set_ hi hj (b := !b) (fun e => by rw [hb]; simpa using e), ?_⟩
  have := hf.set_ (i * 21 + j) (.bool (!b))
  unfold boolC at this ⊢
  rw [List.map_set]
  exact this
end
/-- what matchRest leaves -/
def RestOut (F G1 G2 M : Nat) (P N : List ByteArray) (A1 A2 : Option Addr) (c1 c2 : Nat) (w : World) (r : Bool) (e : Ending) (w' : World) : Prop :=
  e = .returned (.bool r) ∧ Ctx F G1 G2 M P N A1 A2 c1 c2 w' ∧ Only F w w'

theorem Ctx.facts {F G1 G2 M : Nat} {P N : List ByteArray} {A1 A2 : Option Addr} {c1 c2 : Nat} {w : World} (h : Ctx F G1 G2 M P N A1 A2 c1 c2 w) {i j : Nat} (hi : i ≤ 20) (hj : j ≤ 20) :
    ∃ f, w.cell? ⟨F, i * 21 + j, none⟩ = some (.bool f) ∧ w.frozen? ⟨F, i * 21 + j, none⟩ = false ∧ (f = true → mtAt P N i j = false) ∧ w.cell? ⟨G1, 0, none⟩ = some (.slice A1 P.length c1) ∧ w.cell? ⟨G2, 0, none⟩ = some (.slice A2 N.length c2) ∧
      w.cell? ⟨M, 0, none⟩ = some (.func (.func 44) #[] #[.pointer (some ⟨F, 0, none⟩), .pointer (some ⟨G1, 0, none⟩), .pointer (some ⟨G2, 0, none⟩), .pointer (some ⟨M, 0, none⟩)]) := by
  obtain ⟨fl, hm, hf⟩ := h.memo
  have hlt : i * 21 + j < 441 := by omega
  obtain ⟨f, hf0⟩ : ∃ f, fl[i * 21 + j]? = some f := ⟨fl[i * 21 + j]'(by rw [hm.1]; exact hlt), List.getElem?_eq_getElem _⟩
  refine ⟨f, ?_, hf.frozen _, fun e => ?_, h.wanted, h.given, h.rest⟩
  · rw [hf.cell]; unfold boolC; rw [List.getElem?_map, hf0]; rfl
  · subst e
    exact hm.2 i j hi hj hf0

set_option maxRecDepth 100000 in
set_option maxHeartbeats 4000000 in
theorem rest_any (F G1 G2 M : Nat) (P N : List ByteArray) (A1 A2 : Option Addr) (c1 c2 : Nat) (h1 : G1 < F) (h2 : G2 < F) (h3 : F < M) (hP : P.length ≤ 20) (hN : N.length ≤ 20)
    (hPs : ∀ k (h : k < P.length), P[k].size ≤ 200) (hNs : ∀ k (h : k < N.length), N[k].size ≤ 200) (n : Nat) : ∀ (i j : Nat) (w : World), (P.length - i) + (N.length - j) = n → i ≤ P.length → j ≤ N.length → Ctx F G1 G2 M P N A1 A2 c1 c2 w →
    Calls Tryd.prog 44 #[.int .i64 i, .int .i64 j, .pointer (some ⟨F, 0, none⟩), .pointer (some ⟨G1, 0, none⟩), .pointer (some ⟨G2, 0, none⟩), .pointer (some ⟨M, 0, none⟩)] w (RestOut F G1 G2 M P N A1 A2 c1 c2 w (mtAt P N i j)) := by
  induction n using Nat.strongRecOn with
  | ind n ih =>
    intro i j w hn hi hj hC
    obtain ⟨R, HR⟩ : ∃ R, Hid (mtAt P N i j = R) := ⟨_, Lib.hid rfl⟩
    rw [HR.out]
    have hi20 : i ≤ 20 := by omega
    have hj20 : j ≤ 20 := by omega
    have MK := Lib.hid (fun (b : Bool) (W : World) (h : Ctx F G1 G2 M P N A1 A2 c1 c2 W) (hO : Only F w W) (hb : R = b) => (⟨h.mark h1 h2 h3 hi20 hj20 (HR.out.trans hb), hO.set_ _ _⟩ : Ctx F G1 G2 M P N A1 A2 c1 c2 (W.setCell ⟨F, i * 21 + j, none⟩ (.bool (!b))) ∧ Only F w (W.setCell ⟨F, i * 21 + j, none⟩ (.bool (!b)))))
    have e1 : ((i : Int) + 1) = ((i + 1 : Nat) : Int) := by omega
    have e2 : ((j : Int) + 1) = ((j + 1 : Nat) : Int) := by omega
    have IA := Lib.hid (fun (hlt : i < P.length) (r : Bool) (hr : mtAt P N (i + 1) j = r) (W : World) (h : Ctx F G1 G2 M P N A1 A2 c1 c2 W) => (show Calls Tryd.prog 44 #[.int .i64 ((i : Int) + 1), .int .i64 j, .pointer (some ⟨F, 0, none⟩), .pointer (some ⟨G1, 0, none⟩), .pointer (some ⟨G2, 0, none⟩), .pointer (some ⟨M, 0, none⟩)] W (RestOut F G1 G2 M P N A1 A2 c1 c2 W r) by
      rw [e1, ← hr]; exact ih _ (by omega) (i + 1) j W rfl hlt hj h))
    have IB := Lib.hid (fun (hlt : j < N.length) (r : Bool) (hr : mtAt P N i (j + 1) = r) (W : World) (h : Ctx F G1 G2 M P N A1 A2 c1 c2 W) => (show Calls Tryd.prog 44 #[.int .i64 i, .int .i64 ((j : Int) + 1), .pointer (some ⟨F, 0, none⟩), .pointer (some ⟨G1, 0, none⟩), .pointer (some ⟨G2, 0, none⟩), .pointer (some ⟨M, 0, none⟩)] W (RestOut F G1 G2 M P N A1 A2 c1 c2 W r) by
      rw [e2, ← hr]; exact ih _ (by omega) i (j + 1) W rfl hi hlt h))
    have ID := Lib.hid (fun (hlt : i < P.length) (hlt2 : j < N.length) (r : Bool) (hr : mtAt P N (i + 1) (j + 1) = r) (W : World) (h : Ctx F G1 G2 M P N A1 A2 c1 c2 W) => (show Calls Tryd.prog 44 #[.int .i64 ((i : Int) + 1), .int .i64 ((j : Int) + 1), .pointer (some ⟨F, 0, none⟩), .pointer (some ⟨G1, 0, none⟩), .pointer (some ⟨G2, 0, none⟩), .pointer (some ⟨M, 0, none⟩)] W (RestOut F G1 G2 M P N A1 A2 c1 c2 W r) by
      rw [e1, e2, ← hr]; exact ih _ (by omega) (i + 1) (j + 1) W rfl hlt hlt2 h))
    have HPS := Lib.hid hPs
    have HNS := Lib.hid hNs
    have HC := Lib.hid hC
    obtain ⟨f, cF, fz, hff, cW, cG, cM⟩ := hC.facts hi20 hj20
    have hi0 : (0 : Int) ≤ (i : Int) := Int.natCast_nonneg _
    have hj0 : (0 : Int) ≤ (j : Int) := Int.natCast_nonneg _
    have hi1 : (i : Int) < 21 := by omega
    have hj1 : (j : Int) < 21 := by omega
    have ewi : IntKind.i64.wrap ((i : Int) + 1) = (i : Int) + 1 := by simp [IntKind.wrap, IntKind.bits, IntKind.signed]; omega
    have ewj : IntKind.i64.wrap ((j : Int) + 1) = (j : Int) + 1 := by simp [IntKind.wrap, IntKind.bits, IntKind.signed]; omega
    clear hC ih hPs hNs e1 e2
    cases f with
    | true =>
      have hR : R = false := by rw [← HR.out]; exact hff rfl
      have HR2 := Lib.hid hR
      clear hff hR
      go_enter Tryd.func44, Tryd.ntmps44
      go_wp2_with fail
      go_ret
      exact ⟨by rw [HR2.out]; rfl, MK.out false w HC.out (Only.refl _ _) HR2.out⟩
    | false =>
      clear hff
      by_cases hil : i < P.length
      · have i1 : (i : Int) < (P.length : Int) := by omega
        have i2 : ¬ (i : Int) = (P.length : Int) := by omega
        have i3 : ((i : Int) == (P.length : Int)) = false := by rw [beq_eq_false_iff_ne]; omega
        have hcapP := HC.out.rowP.cap
        obtain ⟨ad, rfl, hadB, cE⟩ := HC.out.rowP.at_ hil
        obtain ⟨x, HX⟩ : ∃ x, Hid (P[i] = x) := ⟨_, Lib.hid rfl⟩
        rw [HX.out] at cE
        have hb := beq_lit x [42, 42]
        by_cases h42 : x.data.toList = [42, 42]
        · rw [decide_eq_true h42] at hb
          obtain ⟨ra, hra⟩ : ∃ r, mtAt P N (i + 1) j = r := ⟨_, rfl⟩
          have CA := Lib.hid (IA.out hil ra hra)
          have hstar := mtAt_star (N := N) (j := j) hil (by rw [HX.out]; exact h42)
          rw [hra, HR.out] at hstar
          cases ra with
          | true =>
            have hR : R = true := by rw [hstar]; rfl
            have HR2 := Lib.hid hR
            clear hR hstar h42 hra
            go_enter Tryd.func44, Tryd.ntmps44
            go_wp2_with (go_at_call 44; ((with_reducible refine (CA.out _ ?_).mono ?_); exact HC.out; rintro e wa ⟨rfl, hCa, hOa⟩; obtain ⟨fa, cFa, fza, _, cWa, cGa, cMa⟩ := hCa.facts hi20 hj20; have HCa := Lib.hid (And.intro hCa hOa); clear hCa hOa))
            go_ret
            exact ⟨by rw [HR2.out]; rfl, MK.out true wa HCa.out.1 HCa.out.2 HR2.out⟩
          | false =>
            rw [Bool.false_or] at hstar
            by_cases hjl : j < N.length
            · have j1 : (j : Int) < (N.length : Int) := by omega
              rw [decide_eq_true hjl, Bool.true_and] at hstar
              obtain ⟨rb, hrb⟩ : ∃ r, mtAt P N i (j + 1) = r := ⟨_, rfl⟩
              have CB := Lib.hid (IB.out hjl rb hrb)
              rw [hrb] at hstar
              have HR2 := Lib.hid hstar
              clear hstar h42 hra hrb
              go_enter Tryd.func44, Tryd.ntmps44
              go_wp2_with (first
                | (go_at_call 44; ((with_reducible refine (CA.out _ ?_).mono ?_); exact HC.out; rintro e wa ⟨rfl, hCa, hOa⟩; obtain ⟨fa, cFa, fza, _, cWa, cGa, cMa⟩ := hCa.facts hi20 hj20; have HCa := Lib.hid (And.intro hCa hOa); clear hCa hOa))
                | (go_at_call 44; ((with_reducible refine (CB.out _ ?_).mono ?_); exact HCa.out.1; rintro e wb ⟨rfl, hCb, hOb⟩; obtain ⟨fb, cFb, fzb, _, cWb, cGb, cMb⟩ := hCb.facts hi20 hj20; have HCb := Lib.hid (And.intro hCb (HCa.out.2.trans hOb)); clear hCb hOb)))
              go_ret
              exact ⟨by rw [HR2.out]; rfl, MK.out rb wb HCb.out.1 HCb.out.2 HR2.out⟩
            · have j1 : ¬ (j : Int) < (N.length : Int) := by omega
              have hR : R = false := by rw [hstar, decide_eq_false hjl]; rfl
              have HR2 := Lib.hid hR
              clear hR hstar h42 hra
              go_enter Tryd.func44, Tryd.ntmps44
              go_wp2_with (go_at_call 44; ((with_reducible refine (CA.out _ ?_).mono ?_); exact HC.out; rintro e wa ⟨rfl, hCa, hOa⟩; obtain ⟨fa, cFa, fza, _, cWa, cGa, cMa⟩ := hCa.facts hi20 hj20; have HCa := Lib.hid (And.intro hCa hOa); clear hCa hOa))
              go_ret
              exact ⟨by rw [HR2.out]; rfl, MK.out false wa HCa.out.1 HCa.out.2 HR2.out⟩
        · rw [decide_eq_false h42] at hb
          by_cases hjl : j < N.length
          · have j1 : (j : Int) < (N.length : Int) := by omega
            have hcapN := HC.out.rowN.cap
            obtain ⟨bd, rfl, hbdB, cE2⟩ := HC.out.rowN.at_ hjl
            obtain ⟨y, HY⟩ : ∃ y, Hid (N[j] = y) := ⟨_, Lib.hid rfl⟩
            rw [HY.out] at cE2
            obtain ⟨o, ho⟩ : ∃ o, oneS x y = o := ⟨_, rfl⟩
            obtain ⟨rd, hrd⟩ : ∃ r, mtAt P N (i + 1) (j + 1) = r := ⟨_, rfl⟩
            have CD := Lib.hid (ID.out hil hjl rd hrd)
            have CM := fun W => matchName_any x y W (by rw [← HX.out]; exact HPS.out i hil) (by rw [← HY.out]; exact HNS.out j hjl)
            have hone := mtAt_one hil (by rw [HX.out]; exact h42) hjl
            rw [HX.out, HY.out, ho, hrd, HR.out] at hone
            rw [ho] at CM
            have HCM := Lib.hid CM
            clear CM
            cases o with
            | false =>
              have HR2 := Lib.hid (show R = false from hone)
              clear hone h42 hrd ho
              go_enter Tryd.func44, Tryd.ntmps44
              go_wp2_with fail
              go_quiet ((go_at_call 45; exact Calls.quiet_of (HCM.out _)))
              go_wp2_with fail
              go_ret
              exact ⟨by rw [HR2.out]; rfl, MK.out false _ (HC.out.drewN nq) ((Only.refl F w).drewN nq) HR2.out⟩
            | true =>
              have HR2 := Lib.hid (show R = rd from hone)
              have KD := Lib.hid (fun (W W' : World) (q4 : W.cell? (ad.add i) = some (.string x)) (q5 : W.cell? (bd.add j) = some (.string y)) (hO : Only F W W') => (⟨(hO.cell (by rw [add_block]; omega)).trans q4, (hO.cell (by rw [add_block]; omega)).trans q5⟩ : W'.cell? (ad.add i) = some (.string x) ∧ W'.cell? (bd.add j) = some (.string y)))
              clear hone h42 hrd ho
              have v1 : w.drew.cell? ⟨G1, 0, none⟩ = some (.slice (some ad) P.length c1) := cW
              have v2 : w.drew.cell? ⟨G2, 0, none⟩ = some (.slice (some bd) N.length c2) := cG
              have v3 : w.drew.cell? ⟨M, 0, none⟩ = some (.func (.func 44) #[] #[.pointer (some ⟨F, 0, none⟩), .pointer (some ⟨G1, 0, none⟩), .pointer (some ⟨G2, 0, none⟩), .pointer (some ⟨M, 0, none⟩)]) := cM
              have v4 : w.drew.cell? (ad.add i) = some (.string x) := cE
              have v5 : w.drew.cell? (bd.add j) = some (.string y) := cE2
              have KM := Lib.hid (fun (W : World) (h : ∃ q, W = w.drew.drewN q) => (by
                obtain ⟨q, rfl⟩ := h
                exact ⟨cW, cG, cM, cE, cE2, cF, fz, fun _ => (HC.out.drewN 1).drewN q, fun _ => ((Only.refl F w).drewN 1).drewN q⟩ : W.cell? ⟨G1, 0, none⟩ = some (.slice (some ad) P.length c1) ∧ W.cell? ⟨G2, 0, none⟩ = some (.slice (some bd) N.length c2) ∧ W.cell? ⟨M, 0, none⟩ = some (.func (.func 44) #[] #[.pointer (some ⟨F, 0, none⟩), .pointer (some ⟨G1, 0, none⟩), .pointer (some ⟨G2, 0, none⟩), .pointer (some ⟨M, 0, none⟩)]) ∧ W.cell? (ad.add i) = some (.string x) ∧ W.cell? (bd.add j) = some (.string y) ∧ W.cell? ⟨F, i * 21 + j, none⟩ = some (.bool false) ∧ W.frozen? ⟨F, i * 21 + j, none⟩ = false ∧ (Unit → Ctx F G1 G2 M P N (some ad) (some bd) c1 c2 W) ∧ (Unit → Only F w W)))
              go_enter Tryd.func44, Tryd.ntmps44
              go_wp2_with fail
              go_region_held3 (fun w' => w'.cell? ⟨G1, 0, none⟩ = some (.slice (some ad) P.length c1) ∧ w'.cell? ⟨G2, 0, none⟩ = some (.slice (some bd) N.length c2) ∧ w'.cell? ⟨M, 0, none⟩ = some (.func (.func 44) #[] #[.pointer (some ⟨F, 0, none⟩), .pointer (some ⟨G1, 0, none⟩), .pointer (some ⟨G2, 0, none⟩), .pointer (some ⟨M, 0, none⟩)]) ∧ w'.cell? (ad.add i) = some (.string x) ∧ w'.cell? (bd.add j) = some (.string y))
                (first | (with_reducible exact ⟨v1, v2, v3, v4, v5⟩) | (with_reducible exact ⟨m1, m2, m3, m4, m5⟩) | (with_reducible exact ⟨d1, d2, d3, d4, d5⟩))
                (first
                  | (go_at_call 45; (with_reducible refine (HCM.out _).mono ?_); rintro e wm ⟨rfl, hq⟩; obtain ⟨m1, m2, m3, m4, m5, m6, m7, uC, uO⟩ := KM.out wm hq)
                  | (go_at_call 44; (with_reducible refine (CD.out _ ?_).mono ?_); exact uC (); rintro e wd ⟨rfl, hCd, hOd⟩; obtain ⟨fd, cFd, fzd, _, d1, d2, d3⟩ := hCd.facts hi20 hj20; obtain ⟨d4, d5⟩ := KD.out wm wd m4 m5 hOd; have HCd := Lib.hid (And.intro hCd ((uO ()).trans hOd)); clear hCd hOd))
              go_wp2_with fail
              go_ret
              exact ⟨by rw [HR2.out]; rfl, MK.out rd wd HCd.out.1 HCd.out.2 HR2.out⟩
          · have j1 : ¬ (j : Int) < (N.length : Int) := by omega
            have hR : R = false := by rw [← HR.out]; exact mtAt_none hil (by rw [HX.out]; exact h42) hjl
            have HR2 := Lib.hid hR
            clear hR h42
            go_enter Tryd.func44, Tryd.ntmps44
            go_wp2_with fail
            go_ret
            exact ⟨by rw [HR2.out]; rfl, MK.out false w HC.out (Only.refl _ _) HR2.out⟩
      · have hie : i = P.length := by omega
        have i3 : ((i : Int) == (P.length : Int)) = true := by rw [beq_iff_eq]; omega
        have hend := mtAt_end hie hj
        rw [HR.out] at hend
        by_cases hjl : j = N.length
        · have j3 : ((j : Int) == (N.length : Int)) = true := by rw [beq_iff_eq]; omega
          rw [decide_eq_true hjl] at hend
          have HR2 := Lib.hid hend
          have HIE := Lib.hid hie
          clear hend hie hjl
          go_enter Tryd.func44, Tryd.ntmps44
          go_wp2_with fail
          go_ret
          exact ⟨by rw [HR2.out]; rfl, MK.out true w HC.out (Only.refl _ _) HR2.out⟩
        · have j2 : ¬ (j : Int) = (N.length : Int) := by omega
          have j3 : ((j : Int) == (N.length : Int)) = false := by rw [beq_eq_false_iff_ne]; exact j2
          rw [decide_eq_false hjl] at hend
          have HR2 := Lib.hid hend
          have HIE := Lib.hid hie
          clear hend hie
          go_enter Tryd.func44, Tryd.ntmps44
          go_wp2_with fail
          go_ret
          exact ⟨by rw [HR2.out]; rfl, MK.out false w HC.out (Only.refl _ _) HR2.out⟩

end Go.Proofs.YtdbikaffmpkgpaaDoor
