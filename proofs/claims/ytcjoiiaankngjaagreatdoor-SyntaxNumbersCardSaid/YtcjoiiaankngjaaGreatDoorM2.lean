/- The Syntax seat, part 2: contracts of the program and of the reference. -/
import Derived.Test.YtcjoiiaankngjaaGreatDoorM1
import Derived.Maps.OwnSet
import Derived.Maps.OwnOps
import Derived.Maps.OwnIn
import Derived.Maps.Keyed
import Derived.Laws.AppendOwn
import Derived.Deep.AppendLies
import Derived.Deep.DeepCutAuto
import Derived.Outline
import Derived.Deep.RegionLaw
/- The parser's state: the tokens that are left, or the first error; take, expect, expectAny. -/
namespace Go.Proofs.YtcjoiiaankngjaaGreatDoor
set_option maxRecDepth 100000
open Go.RowKit
theorem skip_sum : ∀ (f : Bool) (s : List UInt8) (n : Nat), (skip f s n).1.length + (skip f s n).2 ≤ s.length + n
  | f, [], n => by cases f <;> simp [skip]
  | true, c :: t, n => by
    rw [skip]
    split
    · have := skip_sum false t (n + 1); simp; omega
    · have := skip_sum true t n; simp; omega
  | false, c :: t, n => by
    rw [skip]
    split
    · have := skip_sum false t (n + 1); simp; omega
    · split
      · have := skip_sum false t n; simp; omega
      · split
        · have := skip_sum true t n; simp; omega
        · simp
theorem next_sum (s : List UInt8) (n : Nat) : (next s n).2.1.length ≤ s.length ∧ (next s n).2.1.length + (next s n).2.2 ≤ s.length + n := by
  have h1 := skip_sum false s n
  have h2 := (skip_len false s n).1
  show ((skip false s n).1.drop _).length ≤ _ ∧ ((skip false s n).1.drop _).length + (skip false s n).2 ≤ _
  rw [List.length_drop]
  constructor <;> omega
theorem next_asc {s : List UInt8} {n : Nat} (h : Asc s) : Asc (next s n).2.1 := fun b hb => Asc.skip false s n h b (List.mem_of_mem_drop hb)
theorem run_take (f : UInt8 → Bool) : ∀ s : List UInt8, run f (s.take (run f s)) = run f s
  | [] => rfl
  | c :: t => by
    by_cases hc : f c = true
    · rw [show run f (c :: t) = run f t + 1 by rw [run, if_pos hc], List.take_succ_cons, run, if_pos hc, run_take f t]
    · rw [show run f (c :: t) = 0 by rw [run, if_neg hc]]; rfl
/-- a token's text alone tells its class -/
theorem first_take (l : List UInt8) : first (l.take (first l).2) = first l := by
  cases l with
  | nil => rfl
  | cons c t =>
    by_cases h1 : isLet c = true
    · have e : first (c :: t) = (2, run isCont (c :: t)) := by rw [first, if_pos h1]
      have hc : isCont c = true := by unfold isCont; rw [h1]; rfl
      have er : run isCont (c :: t) = run isCont t + 1 := by rw [run, if_pos hc]
      rw [e]
      dsimp only
      rw [er, List.take_succ_cons, first, if_pos h1, run, if_pos hc, run_take]
    · by_cases h2 : isDig c = true
      · have e : first (c :: t) = (3, run isDig (c :: t)) := by rw [first, if_neg h1, if_pos h2]
        have er : run isDig (c :: t) = run isDig t + 1 := by rw [run, if_pos h2]
        rw [e]
        dsimp only
        rw [er, List.take_succ_cons, first, if_neg h1, if_pos h2, run, if_pos h2, run_take]
      · by_cases h3 : isSym c = true
        · have e : first (c :: t) = (5, 1) := by rw [first, if_neg h1, if_neg h2, if_pos h3]
          rw [e]
          show first [c] = _
          rw [first, if_neg h1, if_neg h2, if_pos h3]
        · by_cases h4 : c = 34 ∧ strLen t ≠ 0
          · have e : first (c :: t) = (4, strLen t) := by rw [first, if_neg h1, if_neg h2, if_neg h3, if_pos h4]
            rw [e]
            dsimp only
            have hs := h4.2
            have hsl : strLen t = if t[run (fun c => !notStr c) t]? = some 34 then run (fun c => !notStr c) t + 2 else 0 := rfl
            obtain ⟨k, hk⟩ : ∃ k, run (fun c => !notStr c) t = k := ⟨_, rfl⟩
            rw [hk] at hsl
            by_cases hq : t[k]? = some 34
            · rw [if_pos hq] at hsl
              rw [hsl, List.take_succ_cons]
              have hkl : k < t.length := (List.getElem?_eq_some_iff.1 hq).1
              have hk34 : t[k] = 34 := (List.getElem?_eq_some_iff.1 hq).2
              have hr : run (fun c => !notStr c) (t.take (k + 1)) = k := by
                refine run_eq _ _ k (by rw [List.length_take]; omega) (fun i hi => ?_) (fun h => ?_)
                · obtain ⟨_, h2⟩ := run_at (fun c => !notStr c) t i (by omega)
                  rw [List.getElem_take]; exact h2
                · rw [List.getElem_take, hk34]; rfl
              have hst : strLen (t.take (k + 1)) = k + 2 := by
                show (if (t.take (k + 1))[run (fun c => !notStr c) (t.take (k + 1))]? = some 34 then run (fun c => !notStr c) (t.take (k + 1)) + 2 else 0) = _
                rw [hr, List.getElem?_take_of_lt (by omega), if_pos hq]
              rw [first, if_neg h1, if_neg h2, if_neg h3, if_pos ⟨h4.1, by rw [hst]; omega⟩, hst]
            · rw [if_neg hq] at hsl; exact absurd hsl hs
          · have e : first (c :: t) = (0, 1) := by rw [first, if_neg h1, if_neg h2, if_neg h3, if_neg h4]
            rw [e]
            show first [c] = _
            have hn : ¬ (c = 34 ∧ strLen ([] : List UInt8) ≠ 0) := fun h => h.2 rfl
            rw [first, if_neg h1, if_neg h2, if_neg h3, if_neg hn]
def TokOk (t : Tok) : Prop := first t.txt = (t.cls, t.txt.length) ∧ t.txt.length ≤ 4294967000
theorem next_ok (s : List UInt8) (n : Nat) (hs : s.length ≤ 4294967000) : TokOk (next s n).1 := by
  refine ⟨?_, by
    show ((skip false s n).1.take _).length ≤ _
    have := (skip_len false s n).1
    rw [List.length_take]; omega⟩
  show first ((skip false s n).1.take _) = ((first (skip false s n).1).1, ((skip false s n).1.take _).length)
  rw [first_take, List.length_take, Nat.min_eq_left (first_le _)]
inductive Pst where
  | ok (ts : List Tok)
  | bad (e l : Int)
def Cur (σ : Pst) (s : ByteArray) (n : Nat) (c : Int) (tx : ByteArray) (tl e el : Int) : Prop :=
  match σ with
  | .ok ts => e = 0 ∧ ∃ t : Tok, c = (t.cls : Int) ∧ tx = str t.txt ∧ tl = (t.ln : Int) ∧ TokOk t ∧ ts = if t.cls ≤ 1 then [t] else t :: toks s.data.toList n
  | .bad e' l' => e = e' ∧ el = l' ∧ e' ≠ 0 ∧ c = 0 ∧ tx = ⟨#[]⟩ ∧ tl = 0
def PS (w : World) (b : Nat) (σ : Pst) (R : List Value) : Prop :=
  ∃ s n c tx tl e el, Pm w b s n c tx tl e el R ∧ (Asc s.data.toList ∧ s.size ≤ 4294967000 ∧ s.size + n ≤ 1099511627776) ∧ Cur σ s n c tx tl e el
theorem PS.lt {w : World} {b : Nat} {σ : Pst} {R : List Value} (h : PS w b σ R) : b < w.heap.size := by obtain ⟨s, n, c, tx, tl, e, el, h1, _⟩ := h; exact h1.lt
theorem PS.on {w w' : World} {b : Nat} {σ : Pst} {R : List Value} (h : PS w b σ R) (hb : Below w.heap.size w w') : PS w' b σ R := by obtain ⟨s, n, c, tx, tl, e, el, h1, h2⟩ := h; exact ⟨s, n, c, tx, tl, e, el, h1.on hb, h2⟩
theorem PS.drew {w : World} {b : Nat} {σ : Pst} {R : List Value} (h : PS w b σ R) : PS w.drew b σ R := h
/-- the next token is ahead -/
theorem ps_next {w' : World} {b : Nat} {s : ByteArray} {n : Nat} {el : Int} {R : List Value} (hs : Asc s.data.toList ∧ s.size ≤ 4294967000 ∧ s.size + n ≤ 1099511627776)
    (h : Pm w' b (str (next s.data.toList n).2.1) (next s.data.toList n).2.2 ((next s.data.toList n).1.cls : Int) (str (next s.data.toList n).1.txt) ((next s.data.toList n).1.ln : Int) 0 el R) : PS w' b (.ok (toks s.data.toList n)) R := by
  have hsum := next_sum s.data.toList n
  rw [data_len] at hsum
  refine ⟨_, _, _, _, _, _, _, h, ⟨next_asc hs.1, by rw [str_size]; omega, by rw [str_size]; omega⟩, rfl, _, rfl, rfl, rfl, next_ok _ _ (by rw [data_len]; exact hs.2.1), ?_⟩
  rw [str_data]
  exact toks_eq _ _
def pTake (x : List UInt8) : Pst → Bool × Pst
  | .ok (t :: r) => if t.txt = x then (true, .ok r) else (false, .ok (t :: r))
  | .ok [] => (false, .ok [])
  | .bad e l => (false, .bad e l)
def TakeOut (w : World) (b : Nat) (r : Bool × Pst) (R : List Value) (en : Ending) (w' : World) : Prop := en = .returned (.bool r.1) ∧ PS w' b r.2 R ∧ Turn (fun g => g = b) w w'
theorem str_ne {a b : List UInt8} (h : a ≠ b) : ((str a).toList == (str b).toList) = false := by
  rw [Lib.toList_data, Lib.toList_data, str_data, str_data]
  simpa using h
theorem str_same (a : List UInt8) : ((str a).toList == (str a).toList) = true := by simp
theorem take_any {w : World} {b : Nat} {σ : Pst} {R : List Value} (h : PS w b σ R) (x : List UInt8) (hx : 2 ≤ (first x).1) : Calls Tryz.prog 74 #[.pointer (some ⟨b, 0, none⟩), .string (str x)] w (TakeOut w b (pTake x σ) R) := by
  unfold TakeOut
  have hps := h
  obtain ⟨s, n, c, tx, tl, e, el, hP, hs, hC⟩ := h
  have k3 : w.cell? ⟨b, 3, none⟩ = some (.string tx) := Full.cell hP 3
  have hx0 : x ≠ [] := fun e => by rw [e] at hx; simp [first] at hx
  have HT := Lib.hid (Turn.refl (fun g => g = b) w)
  cases σ with
  | bad e' l' =>
    obtain ⟨_, _, _, _, htx, _⟩ := hC
    have hne : (tx.toList == (str x).toList) = false := by
      rw [htx]; exact str_ne (a := []) (fun e => hx0 e.symm)
    have HP := Lib.hid hps
    show Calls Tryz.prog 74 _ w fun en w' => en = .returned (.bool false) ∧ PS w' b (.bad e' l') R ∧ Turn (fun g => g = b) w w'
    obtain ⟨X, hX⟩ : ∃ X, str x = X := ⟨_, rfl⟩
    rw [hX] at hne ⊢
    clear hX htx hP hps hs hx
    go_enter Tryz.func74, Tryz.ntmps74
    go_wp2
    go_ret
    exact ⟨rfl, HP.out, HT.out⟩
  | ok ts =>
    obtain ⟨he, t, hc, htx, htl, hok, hts⟩ := hC
    by_cases htt : t.txt = x
    · have hcl : 2 ≤ t.cls := by
        have := hok.1
        rw [htt] at this
        rw [this] at hx
        exact hx
      rw [if_neg (by omega)] at hts
      have hp : pTake x (.ok ts) = (true, .ok (toks s.data.toList n)) := by rw [hts, pTake, if_pos htt]
      rw [hp]
      have heq : (tx.toList == (str x).toList) = true := by rw [htx, htt]; exact str_same x
      subst he
      have AD := Lib.hid ((advance_pm hP hs.1 hs.2.1 (by omega)).mono fun en w' k => (show en = .returned (.agg #[.int .i64 c, .string tx, .int .i64 tl]) ∧ PS w' b (.ok (toks s.data.toList n)) R ∧ Turn (fun g => g = b) w w' from ⟨k.1, ps_next hs k.2.1, k.2.2⟩))
      obtain ⟨X, hX⟩ : ∃ X, str x = X := ⟨_, rfl⟩
      rw [hX] at heq ⊢
      clear hX htx hP hps hs hx hts hc htl hok htt hp
      go_enter Tryz.func74, Tryz.ntmps74
      go_wp2_with (first
        | (go_at_call 112; ((with_reducible refine AD.out.mono ?_); rintro en w1 ⟨rfl, hP1, hT1⟩))
        | (fail "arm"))
      go_ret
      exact ⟨rfl, hP1, hT1⟩
    · have hp : pTake x (.ok ts) = (false, .ok ts) := by
        cases hts' : ts with
        | nil => rfl
        | cons t' r =>
          rw [hts'] at hts
          have : t' = t := by split at hts <;> (injection hts)
          rw [pTake, if_neg (by rw [this]; exact htt)]
      rw [hp]
      have hne : (tx.toList == (str x).toList) = false := by rw [htx]; exact str_ne htt
      have HP := Lib.hid hps
      obtain ⟨X, hX⟩ : ∃ X, str x = X := ⟨_, rfl⟩
      rw [hX] at hne ⊢
      clear hX htx hP hps hs hx hts hc htl hok htt hp he
      go_enter Tryz.func74, Tryz.ntmps74
      go_wp2
      go_ret
      exact ⟨rfl, HP.out, HT.out⟩
end Go.Proofs.YtcjoiiaankngjaaGreatDoor
/- The parser's state: refuse, fail, expect, expectAny, platformAhead. -/
namespace Go.Proofs.YtcjoiiaankngjaaGreatDoor
set_option maxRecDepth 100000
open Go.RowKit
def pFail (line code : Int) : Pst → Pst
  | .ok _ => .bad code line
  | .bad e l => .bad e l
def pRefuse : Pst → Pst
  | .ok (t :: _) => .bad 40 (t.ln : Int)
  | .ok [] => .bad 40 0
  | .bad e l => .bad e l
def StOut (w : World) (b : Nat) (σ : Pst) (R : List Value) (en : Ending) (w' : World) : Prop := en = .returned (.tuple #[]) ∧ PS w' b σ R ∧ Turn (fun g => g = b) w w'
theorem ok_cons {ts : List Tok} {s : ByteArray} {n : Nat} {c : Int} {tx : ByteArray} {tl e el : Int} (h : Cur (.ok ts) s n c tx tl e el) : ∃ t r, ts = t :: r ∧ c = (t.cls : Int) ∧ tx = str t.txt ∧ tl = (t.ln : Int) ∧ TokOk t ∧ (2 ≤ t.cls → r = toks s.data.toList n) ∧ e = 0 := by
  obtain ⟨he, t, hc, htx, htl, hok, hts⟩ := h
  by_cases h1 : t.cls ≤ 1
  · rw [if_pos h1] at hts; exact ⟨t, [], hts, hc, htx, htl, hok, fun h => by omega, he⟩
  · rw [if_neg h1] at hts; exact ⟨t, _, hts, hc, htx, htl, hok, fun _ => rfl, he⟩
theorem fail_any {w : World} {b : Nat} {σ : Pst} {R : List Value} (h : PS w b σ R) (line code : Int) (hc : code ≠ 0) : Calls Tryz.prog 116 #[.pointer (some ⟨b, 0, none⟩), .int .i64 line, .int .i64 code] w (StOut w b (pFail line code σ) R) := by
  obtain ⟨s, n, c, tx, tl, e, el, hP, hs, hC⟩ := h
  refine (fail_pm hP line code).mono ?_
  rintro en w' ⟨he, hP', hT⟩
  refine ⟨he, ⟨_, _, _, _, _, _, _, hP', hs, ?_⟩, hT⟩
  cases σ with
  | ok ts =>
    obtain ⟨t, r, _, _, _, _, _, _, e0⟩ := ok_cons hC
    subst e0
    exact ⟨rfl, rfl, hc, rfl, rfl, rfl⟩
  | bad e' l' =>
    obtain ⟨h1, h2, h3, _, _⟩ := hC
    have hne : e ≠ 0 := by rw [h1]; exact h3
    exact ⟨by unfold failE; rw [if_neg hne]; exact h1, by unfold failL; rw [if_neg hne]; exact h2, h3, rfl, rfl, rfl⟩
theorem refuse_any {w : World} {b : Nat} {σ : Pst} {R : List Value} (h : PS w b σ R) : Calls Tryz.prog 104 #[.pointer (some ⟨b, 0, none⟩)] w (StOut w b (pRefuse σ) R) := by
  obtain ⟨s, n, c, tx, tl, e, el, hP, hs, hC⟩ := h
  refine (refuse_pm hP).mono ?_
  rintro en w' ⟨he, hP', hT⟩
  refine ⟨he, ⟨_, _, _, _, _, _, _, hP', hs, ?_⟩, hT⟩
  cases σ with
  | ok ts =>
    obtain ⟨t, r, hts, _, _, htl, _, _, e0⟩ := ok_cons hC
    subst e0
    rw [hts]
    exact ⟨rfl, htl, by decide, rfl, rfl, rfl⟩
  | bad e' l' =>
    obtain ⟨h1, h2, h3, _, _⟩ := hC
    have hne : e ≠ 0 := by rw [h1]; exact h3
    exact ⟨by unfold failE; rw [if_neg hne]; exact h1, by unfold failL; rw [if_neg hne]; exact h2, h3, rfl, rfl, rfl⟩
def pExpect (x : List UInt8) (σ : Pst) : Pst := if (pTake x σ).1 then (pTake x σ).2 else pRefuse (pTake x σ).2
theorem expect_any {w : World} {b : Nat} {σ : Pst} {R : List Value} (h : PS w b σ R) (x : List UInt8) (hx : 2 ≤ (first x).1) : Calls Tryz.prog 103 #[.pointer (some ⟨b, 0, none⟩), .string (str x)] w (StOut w b (pExpect x σ) R) := by
  have TK := Lib.hid (take_any h x hx)
  have RF := Lib.hid (fun (W : World) (σ' : Pst) (h' : PS W b σ' R) => refuse_any h')
  unfold TakeOut at TK
  unfold StOut pExpect at *
  obtain ⟨r, hr⟩ : ∃ r, (pTake x σ).1 = r := ⟨_, rfl⟩
  obtain ⟨σ2, h2⟩ : ∃ r, (pTake x σ).2 = r := ⟨_, rfl⟩
  rw [hr, h2] at TK
  rw [hr, h2]
  obtain ⟨X, hX⟩ : ∃ X, str x = X := ⟨_, rfl⟩
  rw [hX] at TK ⊢
  clear hr h2 hX hx h
  cases r with
  | true =>
    go_enter Tryz.func103, Tryz.ntmps103
    go_wp2_with (first
      | (go_at_call 74; ((with_reducible refine TK.out.mono ?_); rintro en w1 ⟨rfl, hP1, hT1⟩))
      | (fail "arm"))
    go_end0
    exact ⟨rfl, hP1, hT1⟩
  | false =>
    go_enter Tryz.func103, Tryz.ntmps103
    go_wp2_with (first
      | (go_at_call 74; ((with_reducible refine TK.out.mono ?_); rintro en w1 ⟨rfl, hP1, hT1⟩))
      | (go_at_call 104; ((with_reducible refine (RF.out w1 σ2 hP1).mono ?_); rintro en w2 ⟨rfl, hP2, hT2⟩))
      | (fail "arm"))
    go_end0
    exact ⟨rfl, hP2, hT1.trans_ hT2⟩
def tok0 : Tok := ⟨0, [], 0⟩
def pAny (k : Nat) : Pst → Tok × Pst
  | .ok (t :: r) => if t.cls = k then (t, .ok r) else (tok0, .bad 40 (t.ln : Int))
  | .ok [] => (tok0, .bad 40 0)
  | .bad e l => (tok0, .bad e l)
def AnyOut (w : World) (b : Nat) (r : Tok × Pst) (R : List Value) (en : Ending) (w' : World) : Prop := en = .returned (tokV r.1) ∧ PS w' b r.2 R ∧ Turn (fun g => g = b) w w' ∧ r.1.txt.length ≤ 4294967000 ∧ (2 ≤ r.1.cls → TokOk r.1)
/-- expectAny where the token is there: the state behind it is σ' -/
theorem any_yes {w : World} {b : Nat} {R : List Value} {k : Nat} {s : ByteArray} {n : Nat} {c : Int} {tx : ByteArray} {tl e el : Int} (hP : Pm w b s n c tx tl e el R) (hs : Asc s.data.toList ∧ s.size ≤ 4294967000 ∧ s.size + n ≤ 1099511627776) (he : e = 0) (hc : c = (k : Int)) :
    Calls Tryz.prog 77 #[.pointer (some ⟨b, 0, none⟩), .int .i64 (k : Int)] w fun en w' => en = .returned (.agg #[.int .i64 c, .string tx, .int .i64 tl]) ∧ PS w' b (.ok (toks s.data.toList n)) R ∧ Turn (fun g => g = b) w w' := by
  subst he hc
  obtain ⟨w1, hw1⟩ : ∃ w1, w.alloc (.cells #[.int .i64 0, .string ⟨#[]⟩, .int .i64 0] 91) = w1 := ⟨_, rfl⟩
  have hb1 : Below w.heap.size w w1 := by rw [← hw1]; exact (Below.refl _ w).alloc (Nat.le_refl _) _
  have F1 : Full w1 w.heap.size 91 [.int .i64 0, .string ⟨#[]⟩, .int .i64 0] := by rw [← hw1]; exact Full.new w 91 _
  have hP1 := hP.on hb1
  have k2 : w1.cell? ⟨b, 2, none⟩ = some (.int .i64 (k : Int)) := Full.cell hP1 2
  have AD := Lib.hid ((advance_pm hP1 hs.1 hs.2.1 (by omega)).mono fun en w' q => (show en = .returned (.agg #[.int .i64 (k : Int), .string tx, .int .i64 tl]) ∧ PS w' b (.ok (toks s.data.toList n)) R ∧ Turn (fun g => g = b) w1 w' from ⟨q.1, ps_next hs q.2.1, q.2.2⟩))
  obtain ⟨r, hr⟩ : ∃ r, w.heap.size = r := ⟨_, rfl⟩
  have hbr : b < r := by rw [← hr]; exact hP.lt
  rw [hr] at F1
  have HF1 := Lib.hid F1
  have HB1 := Lib.hid hb1
  have tt : ((k : Int) == (k : Int)) = true := by simp
  obtain ⟨T, hT⟩ : ∃ T, toks s.data.toList n = T := ⟨_, rfl⟩
  rw [hT] at AD ⊢
  clear hP hP1 hs hb1 F1 hT
  go_enter Tryz.func77, Tryz.ntmps77
  go_upto_region 4 with fail
  clear hw1
  go_wp2_with (first
    | (go_at_call 112; ((with_reducible refine AD.out.mono ?_); rintro en w3 ⟨rfl, hP3, hT3⟩; (obtain ⟨⟨y0, y0f⟩, ⟨y1, y1f⟩, ⟨y2, y2f⟩, F6⟩ := store3 (hT3.far HF1.out (by omega)) (.int .i64 (k : Int)) (.string tx) (.int .i64 tl))))
    | (fail "arm"))
  have HT6 := Lib.hid (Turn.set3 (r := r) ((Turn.of HB1.out).trans_ hT3) (by omega) (.int .i64 (k : Int)) (.string tx) (.int .i64 tl))
  obtain ⟨w8, hw8⟩ : ∃ w8, ((w3.setCell ⟨r, 0, none⟩ (.int .i64 (k : Int))).setCell ⟨r, 1, none⟩ (.string tx)).setCell ⟨r, 2, none⟩ (.int .i64 tl) = w8 := ⟨_, rfl⟩
  have hP8 : PS w8 b (.ok T) R := by
    rw [← hw8]
    obtain ⟨s', n', c', tx', tl', e', el', q1, q2⟩ := hP3
    exact ⟨s', n', c', tx', tl', e', el', ((Full.far q1 (p := ⟨r, 0, none⟩) (by show b ≠ r; omega) _).far (p := ⟨r, 1, none⟩) (by show b ≠ r; omega) _).far (p := ⟨r, 2, none⟩) (by show b ≠ r; omega) _, q2⟩
  rw [hw8] at F6 HT6 ⊢
  have q0 : w8.cell? ⟨r, 0, none⟩ = some (.int .i64 (k : Int)) := F6.cell 0
  have q1 : w8.cell? ⟨r, 1, none⟩ = some (.string tx) := F6.cell 1
  have q2 : w8.cell? ⟨r, 2, none⟩ = some (.int .i64 tl) := F6.cell 2
  refine bodyPost_ret (v := .agg #[.int .i64 (k : Int), .string tx, .int .i64 tl]) (by simp [results, Tryz.results77, go_sem, q0, q1, q2]) rfl ?_
  exact ⟨rfl, hP8, HT6.out⟩
/-- .. where it is not -/
theorem any_no {w : World} {b : Nat} {R : List Value} {k : Nat} {σ : Pst} {s : ByteArray} {n : Nat} {c : Int} {tx : ByteArray} {tl e el : Int} (hσ : PS w b σ R) (hP : Pm w b s n c tx tl e el R) (hc : c ≠ (k : Int)) :
    Calls Tryz.prog 77 #[.pointer (some ⟨b, 0, none⟩), .int .i64 (k : Int)] w (AnyOut w b (tok0, pRefuse σ) R) := by
  unfold AnyOut tokV tok0
  obtain ⟨w1, hw1⟩ : ∃ w1, w.alloc (.cells #[.int .i64 0, .string ⟨#[]⟩, .int .i64 0] 91) = w1 := ⟨_, rfl⟩
  have hb1 : Below w.heap.size w w1 := by rw [← hw1]; exact (Below.refl _ w).alloc (Nat.le_refl _) _
  have F1 : Full w1 w.heap.size 91 [.int .i64 0, .string ⟨#[]⟩, .int .i64 0] := by rw [← hw1]; exact Full.new w 91 _
  have hP1 := hP.on hb1
  have k2 : w1.cell? ⟨b, 2, none⟩ = some (.int .i64 c) := Full.cell hP1 2
  have RF := Lib.hid (refuse_any (hσ.on hb1))
  unfold StOut at RF
  obtain ⟨r, hr⟩ : ∃ r, w.heap.size = r := ⟨_, rfl⟩
  have hbr : b < r := by rw [← hr]; exact hP.lt
  rw [hr] at F1
  have HF1 := Lib.hid F1
  have HB1 := Lib.hid hb1
  have tt : (c == (k : Int)) = false := by simpa using hc
  obtain ⟨σ2, h2⟩ : ∃ r, pRefuse σ = r := ⟨_, rfl⟩
  rw [h2] at RF ⊢
  clear hP hP1 hb1 F1 hc hσ h2
  go_enter Tryz.func77, Tryz.ntmps77
  go_upto_region 2 with fail
  clear hw1
  go_wp2_with (first
    | (go_at_call 104; ((with_reducible refine RF.out.mono ?_); rintro en w3 ⟨rfl, hP3, hT3⟩; (obtain ⟨⟨y0, y0f⟩, ⟨y1, y1f⟩, ⟨y2, y2f⟩, F6⟩ := store3 (hT3.far HF1.out (by omega)) (.int .i64 0) (.string ⟨#[]⟩) (.int .i64 0))))
    | (fail "arm"))
  have HT6 := Lib.hid (Turn.set3 (r := r) ((Turn.of HB1.out).trans_ hT3) (by omega) (.int .i64 0) (.string ⟨#[]⟩) (.int .i64 0))
  obtain ⟨w8, hw8⟩ : ∃ w8, ((w3.setCell ⟨r, 0, none⟩ (.int .i64 0)).setCell ⟨r, 1, none⟩ (.string ⟨#[]⟩)).setCell ⟨r, 2, none⟩ (.int .i64 0) = w8 := ⟨_, rfl⟩
  have hP8 : PS w8 b σ2 R := by
    rw [← hw8]
    obtain ⟨s', n', c', tx', tl', e', el', q1, q2⟩ := hP3
    exact ⟨s', n', c', tx', tl', e', el', ((Full.far q1 (p := ⟨r, 0, none⟩) (by show b ≠ r; omega) _).far (p := ⟨r, 1, none⟩) (by show b ≠ r; omega) _).far (p := ⟨r, 2, none⟩) (by show b ≠ r; omega) _, q2⟩
  rw [hw8] at F6 HT6 ⊢
  have q0 : w8.cell? ⟨r, 0, none⟩ = some (.int .i64 0) := F6.cell 0
  have q1 : w8.cell? ⟨r, 1, none⟩ = some (.string ⟨#[]⟩) := F6.cell 1
  have q2 : w8.cell? ⟨r, 2, none⟩ = some (.int .i64 0) := F6.cell 2
  refine bodyPost_ret (v := .agg #[.int .i64 0, .string ⟨#[]⟩, .int .i64 0]) (by simp [results, Tryz.results77, go_sem, q0, q1, q2]) rfl ?_
  exact ⟨rfl, hP8, HT6.out, Nat.zero_le _, fun h => absurd h (by decide)⟩
theorem any_any {w : World} {b : Nat} {σ : Pst} {R : List Value} (h : PS w b σ R) (k : Nat) (hk : 2 ≤ k) : Calls Tryz.prog 77 #[.pointer (some ⟨b, 0, none⟩), .int .i64 (k : Int)] w (AnyOut w b (pAny k σ) R) := by
  have hσ := h
  obtain ⟨s, n, c, tx, tl, e, el, hP, hs, hC⟩ := h
  cases σ with
  | bad e' l' =>
    obtain ⟨_, _, _, h4, _⟩ := hC
    exact any_no hσ hP (by omega)
  | ok ts =>
    obtain ⟨t, r, hts, hc, htx, htl, hok, hr, he⟩ := ok_cons hC
    subst hts
    by_cases hk2 : t.cls = k
    · refine (any_yes hP hs he (by rw [hc, hk2])).mono ?_
      rintro en w' ⟨he', hP', hT⟩
      rw [show pAny k (.ok (t :: r)) = (t, .ok r) by simp [pAny, hk2]]
      unfold AnyOut
      refine ⟨by rw [he', hc, htx, htl]; rfl, by rw [hr (by omega)]; exact hP', hT, hok.2, fun _ => hok⟩
    · have := any_no hσ hP (k := k) (by rw [hc]; exact fun e => hk2 (by exact_mod_cast e))
      rw [show pAny k (.ok (t :: r)) = (tok0, .bad 40 (t.ln : Int)) by simp [pAny, hk2]]
      exact this
/-- the end of the source -/
def pEnd : Pst → Pst → Prop
  | .ok (t :: _), σ' => if t.cls = 1 then ∃ ts, σ' = .ok ts else σ' = .bad 40 (t.ln : Int)
  | .ok [], _ => False
  | .bad e l, σ' => σ' = .bad e l
theorem any_end {w : World} {b : Nat} {σ : Pst} {R : List Value} (h : PS w b σ R) : Calls Tryz.prog 77 #[.pointer (some ⟨b, 0, none⟩), .int .i64 1] w fun en w' => ∃ v σ', en = .returned v ∧ PS w' b σ' R ∧ pEnd σ σ' ∧ Turn (fun g => g = b) w w' := by
  have hσ := h
  obtain ⟨s, n, c, tx, tl, e, el, hP, hs, hC⟩ := h
  cases σ with
  | bad e' l' =>
    obtain ⟨_, _, _, h4, _⟩ := hC
    refine (any_no hσ hP (k := 1) (by omega)).mono ?_
    rintro en w' ⟨he', hP', hT, _⟩
    exact ⟨_, _, he', hP', rfl, hT⟩
  | ok ts =>
    obtain ⟨t, r, hts, hc, htx, htl, hok, hr, he⟩ := ok_cons hC
    subst hts
    by_cases hk2 : t.cls = 1
    · refine (any_yes hP hs he (k := 1) (by rw [hc, hk2])).mono ?_
      rintro en w' ⟨he', hP', hT⟩
      exact ⟨_, _, he', hP', by simp [pEnd, hk2], hT⟩
    · refine (any_no hσ hP (k := 1) (by rw [hc]; exact fun e => hk2 (by exact_mod_cast e))).mono ?_
      rintro en w' ⟨he', hP', hT, _⟩
      exact ⟨_, _, he', hP', by simp [pEnd, hk2, pRefuse], hT⟩
def pAheadP : Pst → Bool
  | .ok (t :: _) => decide (t.cls = 2) && !(t.txt == [103, 108, 111, 98])
  | .ok [] => false
  | .bad _ _ => false
theorem ahead_any {w : World} {b : Nat} {σ : Pst} {R : List Value} (h : PS w b σ R) : Calls Tryz.prog 114 #[.pointer (some ⟨b, 0, none⟩)] w fun en w' => en = .returned (.bool (pAheadP σ)) ∧ w' = w := by
  obtain ⟨s, n, c, tx, tl, e, el, hP, hs, hC⟩ := h
  have k2 : w.cell? ⟨b, 2, none⟩ = some (.int .i64 c) := Full.cell hP 2
  have k3 : w.cell? ⟨b, 3, none⟩ = some (.string tx) := Full.cell hP 3
  obtain ⟨x, y, hx, hy, hxy⟩ : ∃ x y, (c == 2) = x ∧ (tx.toList == [103, 108, 111, 98]) = y ∧ pAheadP σ = (x && !y) := by
    refine ⟨_, _, rfl, rfl, ?_⟩
    cases σ with
    | bad e' l' =>
      obtain ⟨_, _, _, h4, _⟩ := hC
      rw [h4]; rfl
    | ok ts =>
      obtain ⟨t, r, hts, hc, htx, htl, hok, hr, he⟩ := ok_cons hC
      subst hts
      unfold pAheadP
      rw [hc, htx, show (((t.cls : Int) == 2) = decide (t.cls = 2)) by rw [Bool.eq_iff_iff]; simp; omega]
      rw [Lib.toList_data, str_data]
  rw [hxy]
  clear hxy hC hs hP
  cases x <;> cases y
  all_goals
    go_enter Tryz.func114, Tryz.ntmps114
    go_wp2
    all_goals (go_ret; exact ⟨rfl, rfl⟩)
end Go.Proofs.YtcjoiiaankngjaaGreatDoor
/- Items: text, source. -/
namespace Go.Proofs.YtcjoiiaankngjaaGreatDoor
set_option maxRecDepth 100000
open Go.RowKit
structure Itm where
  tx : List UInt8
  gl : Bool
  pl : List UInt8
  ln : Nat
def itmC (i : Itm) : List Value := [.string (str i.tx), .bool i.gl, .string (str i.pl), .int .i64 (i.ln : Int)]
def itmV (i : Itm) : Value := .agg #[.string (str i.tx), .bool i.gl, .string (str i.pl), .int .i64 (i.ln : Int)]
def txtI (t : Tok) : Itm := ⟨Lib.trimB t.txt 34, false, [], t.ln⟩
theorem store4 {w : World} {r : Nat} {t : TypeId} {x0 x1 x2 x3 : Value} (F : Full w r t [x0, x1, x2, x3]) (y0 y1 y2 y3 : Value) :
    (w.cell? ⟨r, 0, none⟩ = some x0 ∧ w.frozen? ⟨r, 0, none⟩ = false) ∧ ((w.setCell ⟨r, 0, none⟩ y0).cell? ⟨r, 1, none⟩ = some x1 ∧ (w.setCell ⟨r, 0, none⟩ y0).frozen? ⟨r, 1, none⟩ = false) ∧
    (((w.setCell ⟨r, 0, none⟩ y0).setCell ⟨r, 1, none⟩ y1).cell? ⟨r, 2, none⟩ = some x2 ∧ ((w.setCell ⟨r, 0, none⟩ y0).setCell ⟨r, 1, none⟩ y1).frozen? ⟨r, 2, none⟩ = false) ∧
    ((((w.setCell ⟨r, 0, none⟩ y0).setCell ⟨r, 1, none⟩ y1).setCell ⟨r, 2, none⟩ y2).cell? ⟨r, 3, none⟩ = some x3 ∧ (((w.setCell ⟨r, 0, none⟩ y0).setCell ⟨r, 1, none⟩ y1).setCell ⟨r, 2, none⟩ y2).frozen? ⟨r, 3, none⟩ = false) ∧
    Full ((((w.setCell ⟨r, 0, none⟩ y0).setCell ⟨r, 1, none⟩ y1).setCell ⟨r, 2, none⟩ y2).setCell ⟨r, 3, none⟩ y3) r t [y0, y1, y2, y3] :=
  ⟨⟨F.cell 0, F.frozen 0⟩, ⟨(F.set_ 0 y0).cell 1, (F.set_ 0 y0).frozen 1⟩, ⟨((F.set_ 0 y0).set_ 1 y1).cell 2, ((F.set_ 0 y0).set_ 1 y1).frozen 2⟩, ⟨(((F.set_ 0 y0).set_ 1 y1).set_ 2 y2).cell 3, (((F.set_ 0 y0).set_ 1 y1).set_ 2 y2).frozen 3⟩, (((F.set_ 0 y0).set_ 1 y1).set_ 2 y2).set_ 3 y3⟩
/-- four cells of a new block -/
theorem Turn.set4 {G : Nat → Prop} {w w' : World} (h : Turn G w w') {r : Nat} (hr : w.heap.size ≤ r) (y0 y1 y2 y3 : Value) : Turn G w ((((w'.setCell ⟨r, 0, none⟩ y0).setCell ⟨r, 1, none⟩ y1).setCell ⟨r, 2, none⟩ y2).setCell ⟨r, 3, none⟩ y3) := by
  have k := Turn.set_ (w := ((w'.setCell ⟨r, 0, none⟩ y0).setCell ⟨r, 1, none⟩ y1).setCell ⟨r, 2, none⟩ y2) (F := fun g => G g ∨ g = r) (a := ⟨r, 3, none⟩) (.inr rfl) y3
  exact (h.set3 hr y0 y1 y2).late k fun g hg => hg.imp id (fun e => by omega)
theorem PS.far {w : World} {b : Nat} {σ : Pst} {R : List Value} (h : PS w b σ R) {r o : Nat} (hr : b ≠ r) (u : Value) : PS (w.setCell ⟨r, o, none⟩ u) b σ R := by
  obtain ⟨s, n, c, tx, tl, e, el, q1, q2⟩ := h
  exact ⟨s, n, c, tx, tl, e, el, Full.far q1 (p := ⟨r, o, none⟩) hr _, q2⟩
theorem PS.drewN {w : World} {b : Nat} {σ : Pst} {R : List Value} (h : PS w b σ R) (q : Nat) : PS (w.drewN q) b σ R := h
def ItmOut (w : World) (b : Nat) (r : Itm × Pst) (R : List Value) (en : Ending) (w' : World) : Prop := en = .returned (itmV r.1) ∧ PS w' b r.2 R ∧ Turn (fun g => g = b) w w'
def pText (σ : Pst) : Itm × Pst := (txtI (pAny 4 σ).1, (pAny 4 σ).2)
set_option maxHeartbeats 2000000 in
theorem text_any {w : World} {b : Nat} {σ : Pst} {R : List Value} (h : PS w b σ R) : Calls Tryz.prog 107 #[.pointer (some ⟨b, 0, none⟩)] w (ItmOut w b (pText σ) R) := by
  unfold ItmOut pText
  obtain ⟨w1, hw1⟩ : ∃ w1, w.alloc (.cells #[.string ⟨#[]⟩, .bool false, .string ⟨#[]⟩, .int .i64 0] 52) = w1 := ⟨_, rfl⟩
  have hb1 : Below w.heap.size w w1 := by rw [← hw1]; exact (Below.refl _ w).alloc (Nat.le_refl _) _
  have F1 : Full w1 w.heap.size 52 [.string ⟨#[]⟩, .bool false, .string ⟨#[]⟩, .int .i64 0] := by rw [← hw1]; exact Full.new w 52 _
  have AN := any_any (h.on hb1) 4 (by decide)
  rw [show ((4 : Nat) : Int) = 4 from rfl] at AN
  have AN := Lib.hid AN
  obtain ⟨t, ht⟩ : ∃ t, (pAny 4 σ).1 = t := ⟨_, rfl⟩
  obtain ⟨σ2, h2⟩ : ∃ t, (pAny 4 σ).2 = t := ⟨_, rfl⟩
  unfold AnyOut tokV at AN
  rw [ht, h2] at AN
  rw [ht, h2]
  obtain ⟨r, hr⟩ : ∃ r, w.heap.size = r := ⟨_, rfl⟩
  have hbr : b < r := by rw [← hr]; exact h.lt
  rw [hr] at F1
  have HF1 := Lib.hid F1
  have HB1 := Lib.hid hb1
  obtain ⟨x, hx⟩ : ∃ x, str t.txt = x := ⟨_, rfl⟩
  have TR := Lib.hid (fun (hs : t.txt.length ≤ 4294967000) (W : World) => (show Calls Tryz.prog 127 #[.string x, .string ⟨#[34]⟩] W fun e w' => e = .returned (.string (str (Lib.trimB t.txt 34))) ∧ ∃ q, w' = W.drewN q from by
    have := Tryz.strings_Trim_one x 34 (by decide) W (by rw [← hx, str_size]; omega)
    rw [← hx, str_data] at this
    rw [← hx]
    refine this.mono ?_
    rintro e w' ⟨he, hw | hw⟩
    · exact ⟨he, 0, hw⟩
    · exact ⟨he, 1, hw⟩))
  rw [hx] at AN
  unfold txtI itmV
  dsimp only
  obtain ⟨y, hy⟩ : ∃ y, str (Lib.trimB t.txt 34) = y := ⟨_, rfl⟩
  obtain ⟨l, hl⟩ : ∃ l : Nat, t.ln = l := ⟨_, rfl⟩
  obtain ⟨c, hc⟩ : ∃ l : Nat, t.cls = l := ⟨_, rfl⟩
  rw [hy] at TR
  rw [hl, hc] at AN
  rw [hy, hl]
  clear hy hl hc hx ht h2 F1 hb1 h
  go_enter Tryz.func107, Tryz.ntmps107
  go_upto_region 2 with (first
    | (go_at_call 77; ((with_reducible refine AN.out.mono ?_); rintro en w3 ⟨rfl, hP3, hT3, htl, _⟩))
    | (fail "arm"))
  obtain ⟨w4, hw4⟩ : ∃ w4, w3.alloc (.cells #[.int .i64 (c : Int), .string x, .int .i64 (l : Int)] 91) = w4 := ⟨_, rfl⟩
  have hb4 : Below w3.heap.size w3 w4 := by rw [← hw4]; exact (Below.refl _ w3).alloc (Nat.le_refl _) _
  have F4 : Full w4 w3.heap.size 91 [.int .i64 (c : Int), .string x, .int .i64 (l : Int)] := by rw [← hw4]; exact Full.new w3 91 _
  obtain ⟨u, hu⟩ : ∃ u, w3.heap.size = u := ⟨_, rfl⟩
  have F3r := hT3.far HF1.out (by omega)
  have hru : r < u := by rw [← hu]; exact F3r.lt
  have F4r := F3r.on hb4
  have hP4 := hP3.on hb4
  rw [hu] at F4
  rw [hw4, hu]
  have HT4 := Lib.hid (((Turn.of HB1.out).trans_ hT3).trans_ (Turn.of (F := fun g => g = b) hb4))
  have hT4 := ((Turn.of HB1.out).trans_ hT3).trans_ (Turn.of (F := fun g => g = b) hb4)
  have TR4 := Lib.hid ((TR.out htl w4.drew).mono fun en w' k => (show en = .returned (.string y) ∧ Full w' u 91 [.int .i64 (c : Int), .string x, .int .i64 (l : Int)] ∧ Full w' r 52 [.string ⟨#[]⟩, .bool false, .string ⟨#[]⟩, .int .i64 0] ∧ PS w' b σ2 R ∧ Turn (fun g => g = b) w w' from by
    obtain ⟨he, q, rfl⟩ := k
    exact ⟨he, F4, F4r, hP4, (hT4.drew).drewN_ q⟩))
  have u1 : w4.drew.cell? ⟨u, 1, none⟩ = some (.string x) := F4.cell 1
  have u2 : w4.drew.cell? ⟨u, 2, none⟩ = some (.int .i64 (l : Int)) := F4.cell 2
  clear hw4 hb4 F4 hP4 F4r F3r hP3 hT3 hw1 hu TR AN htl hT4 HT4
  go_region_with (first
    | (go_at_call 127; ((with_reducible refine TR4.out.mono ?_); rintro en w5 ⟨rfl, f1, f2, f3, f4⟩; (have p1 : w5.cell? ⟨u, 1, none⟩ = some (.string x) := f1.cell 1); (have p2 : w5.cell? ⟨u, 2, none⟩ = some (.int .i64 (l : Int)) := f1.cell 2); (obtain ⟨⟨v0, v0f⟩, ⟨v1, v1f⟩, ⟨v2, v2f⟩, ⟨v3, v3f⟩, F6⟩ := store4 f2 (.string y) (.bool false) (.string ⟨#[]⟩) (.int .i64 (l : Int)))))
    | (fail "arm"))
  all_goals
    have HT6 := Lib.hid (Turn.set4 (r := r) f4 (by omega) (.string y) (.bool false) (.string ⟨#[]⟩) (.int .i64 (l : Int)))
    obtain ⟨w8, hw8⟩ : ∃ w8, (((w5.setCell ⟨r, 0, none⟩ (.string y)).setCell ⟨r, 1, none⟩ (.bool false)).setCell ⟨r, 2, none⟩ (.string ⟨#[]⟩)).setCell ⟨r, 3, none⟩ (.int .i64 (l : Int)) = w8 := ⟨_, rfl⟩
    have hP8 : PS w8 b σ2 R := by
      rw [← hw8]
      exact (((f3.far (by omega) _).far (by omega) _).far (by omega) _).far (by omega) _
    rw [hw8] at F6 HT6 ⊢
    have q0 : w8.cell? ⟨r, 0, none⟩ = some (.string y) := F6.cell 0
    have q1 : w8.cell? ⟨r, 1, none⟩ = some (.bool false) := F6.cell 1
    have q2 : w8.cell? ⟨r, 2, none⟩ = some (.string ⟨#[]⟩) := F6.cell 2
    have q3 : w8.cell? ⟨r, 3, none⟩ = some (.int .i64 (l : Int)) := F6.cell 3
    have HP8 := Lib.hid hP8
    clear hw8 hP8 F6 f1 f2 f3 f4 v0 v0f v1 v1f v2 v2f v3 v3f p1 p2
    go_wp2
    refine bodyPost_ret (v := .agg #[.string y, .bool false, .string ⟨#[]⟩, .int .i64 (l : Int)]) (by simp [results, Tryz.results107, go_sem, q0, q1, q2, q3]) rfl ?_
    exact ⟨rfl, HP8.out, HT6.out⟩
def globS : List UInt8 := [103, 108, 111, 98]
def pSource (σ : Pst) : Itm × Pst :=
  if (pTake globS σ).1 then ({ (pText (pExpect [40] (pTake globS σ).2)).1 with gl := true }, pExpect [41] (pText (pExpect [40] (pTake globS σ).2)).2)
  else pText (pTake globS σ).2
set_option maxHeartbeats 2000000 in
theorem source_any {w : World} {b : Nat} {σ : Pst} {R : List Value} (h : PS w b σ R) : Calls Tryz.prog 106 #[.pointer (some ⟨b, 0, none⟩)] w (ItmOut w b (pSource σ) R) := by
  unfold ItmOut pSource
  obtain ⟨w1, hw1⟩ : ∃ w1, w.alloc (.cells #[.string ⟨#[]⟩, .bool false, .string ⟨#[]⟩, .int .i64 0] 52) = w1 := ⟨_, rfl⟩
  have hb1 : Below w.heap.size w w1 := by rw [← hw1]; exact (Below.refl _ w).alloc (Nat.le_refl _) _
  have F1 : Full w1 w.heap.size 52 [.string ⟨#[]⟩, .bool false, .string ⟨#[]⟩, .int .i64 0] := by rw [← hw1]; exact Full.new w 52 _
  have TK := Lib.hid (take_any (h.on hb1) globS (by decide))
  unfold TakeOut at TK
  obtain ⟨r, hr⟩ : ∃ r, w.heap.size = r := ⟨_, rfl⟩
  have hbr : b < r := by rw [← hr]; exact h.lt
  rw [hr] at F1
  have HF1 := Lib.hid F1
  have HB1 := Lib.hid hb1
  obtain ⟨σ1, h1⟩ : ∃ t, (pTake globS σ).2 = t := ⟨_, rfl⟩
  obtain ⟨g, hg⟩ : ∃ t, (pTake globS σ).1 = t := ⟨_, rfl⟩
  rw [h1, hg] at TK
  rw [show str globS = (⟨#[103, 108, 111, 98]⟩ : ByteArray) from rfl] at TK
  rw [h1, hg]
  have TX := Lib.hid (fun (W : World) (σ : Pst) (h : PS W b σ R) => text_any h)
  unfold ItmOut itmV at TX
  have E40 := Lib.hid (fun (W : World) (σ : Pst) (h : PS W b σ R) => (show Calls Tryz.prog 103 #[.pointer (some ⟨b, 0, none⟩), .string ⟨#[40]⟩] W (StOut W b (pExpect [40] σ) R) from expect_any h [40] (by decide)))
  have E41 := Lib.hid (fun (W : World) (σ : Pst) (h : PS W b σ R) => (show Calls Tryz.prog 103 #[.pointer (some ⟨b, 0, none⟩), .string ⟨#[41]⟩] W (StOut W b (pExpect [41] σ) R) from expect_any h [41] (by decide)))
  unfold StOut at E40 E41
  have fin := Lib.hid (fun (w5 : World) (σ2 : Pst) (y0 y1 y2 y3 : Value) (f3 : PS w5 b σ2 R) (f4 : Turn (fun g => g = b) w w5) => (show PS ((((w5.setCell ⟨r, 0, none⟩ y0).setCell ⟨r, 1, none⟩ y1).setCell ⟨r, 2, none⟩ y2).setCell ⟨r, 3, none⟩ y3) b σ2 R ∧ Turn (fun g => g = b) w ((((w5.setCell ⟨r, 0, none⟩ y0).setCell ⟨r, 1, none⟩ y1).setCell ⟨r, 2, none⟩ y2).setCell ⟨r, 3, none⟩ y3) from
    ⟨(((f3.far (by omega) _).far (by omega) _).far (by omega) _).far (by omega) _, Turn.set4 (r := r) f4 (by omega) _ _ _ _⟩))
  cases g with
  | false =>
    rw [if_neg (by decide)]
    obtain ⟨it, hit⟩ : ∃ i, (pText σ1).1 = i := ⟨_, rfl⟩
    obtain ⟨σ2, h2⟩ : ∃ i, (pText σ1).2 = i := ⟨_, rfl⟩
    have TX1 := Lib.hid (fun (W : World) (h : PS W b σ1 R) => TX.out W σ1 h)
    rw [hit, h2] at TX1
    rw [hit, h2]
    unfold itmV
    obtain ⟨y0, hy0⟩ : ∃ y, str it.tx = y := ⟨_, rfl⟩
    obtain ⟨y1, hy1⟩ : ∃ y, it.gl = y := ⟨_, rfl⟩
    obtain ⟨y2, hy2⟩ : ∃ y, str it.pl = y := ⟨_, rfl⟩
    obtain ⟨y3, hy3⟩ : ∃ y : Nat, it.ln = y := ⟨_, rfl⟩
    rw [hy0, hy1, hy2, hy3] at TX1
    rw [hy0, hy1, hy2, hy3]
    clear hy0 hy1 hy2 hy3 hit h2 h1 hg F1 hb1 h TX E40 E41
    go_enter Tryz.func106, Tryz.ntmps106
    go_upto_region 2 with (first
      | (go_at_call 74; ((with_reducible refine TK.out.mono ?_); rintro en w3 ⟨rfl, hP3, hT3⟩))
      | (fail "arm"))
    have HT3 := Lib.hid hT3
    go_wp2_with (first
      | (go_at_call 107; ((with_reducible refine (TX1.out w3 hP3).mono ?_); rintro en w5 ⟨rfl, hP5, hT5⟩; (obtain ⟨⟨v0, v0f⟩, ⟨v1, v1f⟩, ⟨v2, v2f⟩, ⟨v3, v3f⟩, F6⟩ := store4 (hT5.far (hT3.far HF1.out (by omega)) (by omega)) (.string y0) (.bool y1) (.string y2) (.int .i64 (y3 : Int)))))
      | (fail "arm"))
    obtain ⟨z1, z2⟩ := fin.out w5 σ2 (.string y0) (.bool y1) (.string y2) (.int .i64 (y3 : Int)) hP5 (((Turn.of HB1.out).trans_ hT3).trans_ hT5)
    obtain ⟨w8, hw8⟩ : ∃ w8, (((w5.setCell ⟨r, 0, none⟩ (.string y0)).setCell ⟨r, 1, none⟩ (.bool y1)).setCell ⟨r, 2, none⟩ (.string y2)).setCell ⟨r, 3, none⟩ (.int .i64 (y3 : Int)) = w8 := ⟨_, rfl⟩
    rw [hw8] at F6 z1 z2 ⊢
    have q0 : w8.cell? ⟨r, 0, none⟩ = some (.string y0) := F6.cell 0
    have q1 : w8.cell? ⟨r, 1, none⟩ = some (.bool y1) := F6.cell 1
    have q2 : w8.cell? ⟨r, 2, none⟩ = some (.string y2) := F6.cell 2
    have q3 : w8.cell? ⟨r, 3, none⟩ = some (.int .i64 (y3 : Int)) := F6.cell 3
    refine bodyPost_ret (v := .agg #[.string y0, .bool y1, .string y2, .int .i64 (y3 : Int)]) (by simp [results, Tryz.results106, go_sem, q0, q1, q2, q3]) rfl ?_
    exact ⟨rfl, z1, z2⟩
  | true =>
    rw [if_pos rfl]
    obtain ⟨σ2, h2⟩ : ∃ i, pExpect [40] σ1 = i := ⟨_, rfl⟩
    obtain ⟨it, hit⟩ : ∃ i, (pText σ2).1 = i := ⟨_, rfl⟩
    obtain ⟨σ3, h3⟩ : ∃ i, (pText σ2).2 = i := ⟨_, rfl⟩
    obtain ⟨σ4, h4⟩ : ∃ i, pExpect [41] σ3 = i := ⟨_, rfl⟩
    have TX1 := Lib.hid (fun (W : World) (h : PS W b σ2 R) => TX.out W σ2 h)
    have EA := Lib.hid (fun (W : World) (h : PS W b σ1 R) => E40.out W σ1 h)
    have EB := Lib.hid (fun (W : World) (h : PS W b σ3 R) => E41.out W σ3 h)
    rw [hit, h3] at TX1
    rw [h2] at EA
    rw [h4] at EB
    rw [h2, hit, h3, h4]
    unfold itmV
    dsimp only
    obtain ⟨y0, hy0⟩ : ∃ y, str it.tx = y := ⟨_, rfl⟩
    obtain ⟨y1, hy1⟩ : ∃ y, it.gl = y := ⟨_, rfl⟩
    obtain ⟨y2, hy2⟩ : ∃ y, str it.pl = y := ⟨_, rfl⟩
    obtain ⟨y3, hy3⟩ : ∃ y : Nat, it.ln = y := ⟨_, rfl⟩
    rw [hy0, hy1, hy2, hy3] at TX1
    rw [hy0, hy2, hy3]
    clear hy0 hy1 hy2 hy3 hit h2 h3 h4 h1 hg F1 hb1 h TX E40 E41
    go_enter Tryz.func106, Tryz.ntmps106
    go_upto_region 5 with (first
      | (go_at_call 74; ((with_reducible refine TK.out.mono ?_); rintro en w3 ⟨rfl, hP3, hT3⟩))
      | (go_at_call 103; ((with_reducible refine (EA.out w3 hP3).mono ?_); rintro en w4 ⟨rfl, hP4, hT4⟩))
      | (go_at_call 107; ((with_reducible refine (TX1.out w4 hP4).mono ?_); rintro en w5 ⟨rfl, hP5, hT5⟩))
      | (fail "arm"))
    obtain ⟨w6, hw6⟩ : ∃ w6, w5.alloc (.cells #[.string y0, .bool y1, .string y2, .int .i64 (y3 : Int)] 52) = w6 := ⟨_, rfl⟩
    have hb6 : Below w5.heap.size w5 w6 := by rw [← hw6]; exact (Below.refl _ w5).alloc (Nat.le_refl _) _
    have F6 : Full w6 w5.heap.size 52 [.string y0, .bool y1, .string y2, .int .i64 (y3 : Int)] := by rw [← hw6]; exact Full.new w5 52 _
    obtain ⟨u, hu⟩ : ∃ u, w5.heap.size = u := ⟨_, rfl⟩
    have hT05 := (((Turn.of (F := fun g => g = b) HB1.out).trans_ hT3).trans_ hT4).trans_ hT5
    have F5r := hT5.far (hT4.far (hT3.far HF1.out (by omega)) (by omega)) (by omega)
    have hru : r < u := by rw [← hu]; exact F5r.lt
    have F6r := F5r.on hb6
    have hP6 := hP5.on hb6
    rw [hu] at F6
    rw [hw6, hu]
    have k1 : w6.cell? ⟨u, 1, none⟩ = some (.bool y1) := F6.cell 1
    have k1f := F6.frozen 1
    have F7 := F6.set_ 1 (.bool true)
    have hP7 : PS (w6.setCell ⟨u, 1, none⟩ (.bool true)) b σ3 R := hP6.far (by omega) _
    have F7r := F6r.far (p := ⟨u, 1, none⟩) (by show r ≠ u; omega) (.bool true)
    have hT7 : Turn (fun g => g = b) w (w6.setCell ⟨u, 1, none⟩ (.bool true)) := (hT05.trans_ (Turn.of hb6)).late (Turn.set_ (F := fun g => g = u) (a := ⟨u, 1, none⟩) rfl _) (fun g hg => .inr (by omega))
    have HH := Lib.hid (And.intro F7 (And.intro F7r hT7))
    have HP7 := Lib.hid hP7
    clear hw6 hb6 F6 hT05 F5r F6r hP6 F7 hP7 F7r hT7 hP3 hP4 hP5 hT3 hT4 hT5 hu TK EA TX1 HF1
    go_upto_region 7 with (first
      | (go_at_call 103; ((with_reducible refine (EB.out _ HP7.out).mono ?_); rintro en w7 ⟨rfl, hP9, hT9⟩))
      | (fail "arm"))
    have F9 := hT9.far HH.out.1 (by omega)
    have c0 : w7.cell? ⟨u, 0, none⟩ = some (.string y0) := F9.cell 0
    have c1 : w7.cell? ⟨u, 1, none⟩ = some (.bool true) := F9.cell 1
    have c2 : w7.cell? ⟨u, 2, none⟩ = some (.string y2) := F9.cell 2
    have c3 : w7.cell? ⟨u, 3, none⟩ = some (.int .i64 (y3 : Int)) := F9.cell 3
    obtain ⟨⟨v0, v0f⟩, ⟨v1, v1f⟩, ⟨v2, v2f⟩, ⟨v3, v3f⟩, FA⟩ := store4 (hT9.far HH.out.2.1 (by omega)) (.string y0) (.bool true) (.string y2) (.int .i64 (y3 : Int))
    obtain ⟨z1, z2⟩ := fin.out w7 σ4 (.string y0) (.bool true) (.string y2) (.int .i64 (y3 : Int)) hP9 (HH.out.2.2.trans_ hT9)
    obtain ⟨w8, hw8⟩ : ∃ w8, (((w7.setCell ⟨r, 0, none⟩ (.string y0)).setCell ⟨r, 1, none⟩ (.bool true)).setCell ⟨r, 2, none⟩ (.string y2)).setCell ⟨r, 3, none⟩ (.int .i64 (y3 : Int)) = w8 := ⟨_, rfl⟩
    rw [hw8] at FA z1 z2
    have q0 : w8.cell? ⟨r, 0, none⟩ = some (.string y0) := FA.cell 0
    have q1 : w8.cell? ⟨r, 1, none⟩ = some (.bool true) := FA.cell 1
    have q2 : w8.cell? ⟨r, 2, none⟩ = some (.string y2) := FA.cell 2
    have q3 : w8.cell? ⟨r, 3, none⟩ = some (.int .i64 (y3 : Int)) := FA.cell 3
    have HZ := Lib.hid (And.intro z1 z2)
    clear z1 z2 FA F9 hP9 hT9 HH EB
    go_wp2
    refine bodyPost_ret (v := .agg #[.string y0, .bool true, .string y2, .int .i64 (y3 : Int)]) (by simp [results, Tryz.results106, go_sem, q0, q1, q2, q3]) rfl ?_
    exact ⟨rfl, HZ.out.1, HZ.out.2⟩
end Go.Proofs.YtcjoiiaankngjaaGreatDoor
/- Numbers: numberWithin; what the package's variables hold. -/
namespace Go.Proofs.YtcjoiiaankngjaaGreatDoor
set_option maxRecDepth 100000
open Go.RowKit
/-- the variables of the package and of strconv hold what their initialisers laid -/
structure Laid (w : World) : Prop where
  size : 9 ≤ w.heap.size
  k0 : w.cell? ⟨0, 0, none⟩ = some (.string ⟨#[]⟩)
  k1 : w.cell? ⟨0, 1, none⟩ = some (.string ⟨#[108, 105, 98]⟩)
  k2 : w.cell? ⟨0, 2, none⟩ = some (.string ⟨#[98, 105, 110]⟩)
  k3 : w.cell? ⟨0, 3, none⟩ = some (.string ⟨#[116, 101, 115, 116]⟩)
  k4 : w.cell? ⟨0, 4, none⟩ = some (.string ⟨#[103, 101, 110]⟩)
  es : ∃ te pe, w.cell? ⟨3, 0, none⟩ = some (.iface te pe)
  er : ∃ te pe, w.cell? ⟨4, 0, none⟩ = some (.iface te pe)
theorem Laid.turn {F : Nat → Prop} {w w' : World} (h : Laid w) (ht : Turn F w w') (hF : ∀ g, F g → 9 ≤ g) : Laid w' := by
  have k : ∀ g o, g < 9 → w'.cell? ⟨g, o, none⟩ = w.cell? ⟨g, o, none⟩ := fun g o hg => cell_of_heap (ht.block g (Nat.lt_of_lt_of_le hg h.size) (fun e => by have := hF g e; omega))
  exact ⟨Nat.le_trans h.size ht.size, (k 0 0 (by omega)).trans h.k0, (k 0 1 (by omega)).trans h.k1, (k 0 2 (by omega)).trans h.k2, (k 0 3 (by omega)).trans h.k3, (k 0 4 (by omega)).trans h.k4,
    h.es.imp fun te => Exists.imp fun pe e => (k 3 0 (by omega)).trans e, h.er.imp fun te => Exists.imp fun pe e => (k 4 0 (by omega)).trans e⟩
theorem Laid.on {w w' : World} (h : Laid w) (hb : Below w.heap.size w w') : Laid w' := h.turn (F := fun _ => False) (Turn.of hb) (fun _ h => h.elim)
/-- what Atoi answers, and whether it is a number -/
def atoiR (l : List UInt8) : Int × Bool := match Lib.atoiAll l with
  | .ok v => (v, true)
  | .range => (Lib.atoiSat l, false)
  | _ => (0, false)
def AtoiOut (w : World) (r : Int × Bool) (e : Ending) (w' : World) : Prop := ∃ ev, e = .returned (.tuple #[.int .i64 r.1, ev]) ∧ Below w.heap.size w w' ∧ ((r.2 = true ∧ ev = .nilIface) ∨ (r.2 = false ∧ ∃ p, ev = .iface 187 (.pointer (some ⟨p, 0, none⟩))))
theorem atoi_any (l : List UInt8) (hs : l.length ≤ 4294967000) (w : World) (hL : Laid w) : Calls Tryz.prog 128 #[.string (str l)] w (AtoiOut w (atoiR l)) := by
  unfold AtoiOut atoiR
  have hz : (str l).size = l.length := str_size l
  cases h : Lib.atoiAll l with
  | ok v =>
    refine (Tryz.strconv_Atoi_ok (str l) (by omega) v (by rw [str_data]; exact h) w).mono ?_
    rintro e w' ⟨he, hw⟩
    refine ⟨_, he, ?_, .inl ⟨rfl, rfl⟩⟩
    rcases hw with rfl | ⟨t, rfl⟩
    · exact Below.refl _ _
    · unfold Lib.bytesWorld
      have h1 : Below w.heap.size w (w.drew.alloc (.cells (Lib.bytesCells w 5 t) 5)) := ((Below.refl _ w).drew).alloc (Nat.le_refl _) _
      refine ⟨h1.os, h1.tape, h1.output, ?_, fun g hg => ?_⟩
      · simp [World.freeze]
      · rw [← h1.block g hg]
        simp [World.freeze, Array.getElem?_modify]
        intro e
        omega
  | range =>
    obtain ⟨te, pe, hv⟩ := hL.er
    refine (Tryz.strconv_Atoi_range (str l) (by omega) (by rw [str_data]; exact h) _ w hv (.inr ⟨te, pe, rfl⟩)).mono ?_
    rintro e w' ⟨N, he, _, _, hb⟩
    exact ⟨_, he, hb, .inr ⟨rfl, N, rfl⟩⟩
  | _ =>
    obtain ⟨te, pe, hv⟩ := hL.es
    refine (Tryz.strconv_Atoi_syntax (str l) (by omega) (by rw [str_data, h]; exact ⟨fun v e => (by cases e), fun e => (by cases e)⟩) _ w hv (.inr ⟨te, pe, rfl⟩)).mono ?_
    rintro e w' ⟨N, he, _, _, hb⟩
    exact ⟨_, he, hb, .inr ⟨rfl, N, rfl⟩⟩
def pNum (lo hi : Int) (σ : Pst) : Int × Pst :=
  ((atoiR (pAny 3 σ).1.txt).1, if (atoiR (pAny 3 σ).1.txt).2 && decide (lo ≤ (atoiR (pAny 3 σ).1.txt).1) && decide ((atoiR (pAny 3 σ).1.txt).1 ≤ hi) then (pAny 3 σ).2 else pFail ((pAny 3 σ).1.ln : Int) 41 (pAny 3 σ).2)
def NumOut (w : World) (b : Nat) (r : Int × Pst) (R : List Value) (en : Ending) (w' : World) : Prop := en = .returned (.int .i64 r.1) ∧ PS w' b r.2 R ∧ Turn (fun g => g = b) w w'
set_option maxHeartbeats 2000000 in
theorem num_any {w : World} {b : Nat} {σ : Pst} {R : List Value} (h : PS w b σ R) (hL : Laid w) (hb9 : 9 ≤ b) (lo hi : Int) : Calls Tryz.prog 109 #[.pointer (some ⟨b, 0, none⟩), .int .i64 lo, .int .i64 hi] w (NumOut w b (pNum lo hi σ) R) := by
  unfold NumOut pNum
  have AN := any_any h 3 (by decide)
  rw [show ((3 : Nat) : Int) = 3 from rfl] at AN
  have AN := Lib.hid AN
  obtain ⟨t, ht⟩ : ∃ t, (pAny 3 σ).1 = t := ⟨_, rfl⟩
  obtain ⟨σ2, h2⟩ : ∃ t, (pAny 3 σ).2 = t := ⟨_, rfl⟩
  unfold AnyOut tokV at AN
  rw [ht, h2] at AN
  rw [ht, h2]
  obtain ⟨x, hx⟩ : ∃ x, str t.txt = x := ⟨_, rfl⟩
  obtain ⟨l, hl⟩ : ∃ l : Nat, t.ln = l := ⟨_, rfl⟩
  obtain ⟨c, hc⟩ : ∃ l : Nat, t.cls = l := ⟨_, rfl⟩
  have AT := Lib.hid (fun (hs : t.txt.length ≤ 4294967000) (W : World) (hL : Laid W) => (hx ▸ atoi_any t.txt hs W hL : Calls Tryz.prog 128 #[.string x] W (AtoiOut W (atoiR t.txt))))
  unfold AtoiOut at AT
  obtain ⟨v, ok, hr⟩ : ∃ v ok, atoiR t.txt = (v, ok) := ⟨_, _, rfl⟩
  rw [hr] at AT ⊢
  dsimp only at AT ⊢
  rw [hx, hl, hc] at AN
  rw [hl]
  have FA := Lib.hid (fun (W : World) (h : PS W b σ2 R) => fail_any h (l : Int) 41 (by decide))
  unfold StOut at FA
  have HL := Lib.hid (fun (W : World) (hT : Turn (fun g => g = b) w W) => hL.turn hT (fun g e => by omega))
  clear hr hx hl hc ht h2 h hL
  go_enter Tryz.func109, Tryz.ntmps109
  go_upto_region 2 with (first
    | (go_at_call 77; ((with_reducible refine AN.out.mono ?_); rintro en w3 ⟨rfl, hP3, hT3, htl, _⟩))
    | (fail "arm"))
  obtain ⟨w4, hw4⟩ : ∃ w4, w3.alloc (.cells #[.int .i64 (c : Int), .string x, .int .i64 (l : Int)] 91) = w4 := ⟨_, rfl⟩
  have hb4 : Below w3.heap.size w3 w4 := by rw [← hw4]; exact (Below.refl _ w3).alloc (Nat.le_refl _) _
  have F4 : Full w4 w3.heap.size 91 [.int .i64 (c : Int), .string x, .int .i64 (l : Int)] := by rw [← hw4]; exact Full.new w3 91 _
  obtain ⟨u, hu⟩ : ∃ u, w3.heap.size = u := ⟨_, rfl⟩
  have hP4 := hP3.on hb4
  rw [hu] at F4
  rw [hw4, hu]
  have hT4 := hT3.trans_ (Turn.of (F := fun g => g = b) hb4)
  have AT4 := Lib.hid (AT.out htl w4 (HL.out w4 hT4))
  have u1 : w4.cell? ⟨u, 1, none⟩ = some (.string x) := F4.cell 1
  have HH := Lib.hid (And.intro F4 (And.intro hP4 hT4))
  clear hw4 hb4 hP3 hT3 hu AN htl F4 hP4 hT4 AT
  go_upto_region 3 with (first
    | (go_at_call 128; ((with_reducible refine AT4.out.mono ?_); rintro en w5 ⟨ev, rfl, hb5, hev⟩))
    | (fail "arm"))
  have F5 := HH.out.1.on hb5
  have u2 : w5.cell? ⟨u, 2, none⟩ = some (.int .i64 (l : Int)) := F5.cell 2
  have HP5 := Lib.hid (And.intro (HH.out.2.1.on hb5) (HH.out.2.2.trans_ (Turn.of (F := fun g => g = b) hb5)))
  clear F5 hb5 AT4 u1 HH
  rcases hev with ⟨hok, rfl⟩ | ⟨hok, p, rfl⟩
  · subst hok
    by_cases hlo : v < lo
    · have d1 : decide (lo ≤ v) = false := by simp; omega
      go_wp2_with (first
        | (go_at_call 116; ((with_reducible refine (FA.out w5 HP5.out.1).mono ?_); rintro en w6 ⟨rfl, hP6, hT6⟩))
        | (fail "arm"))
      all_goals (go_ret; exact ⟨rfl, hP6, HP5.out.2.trans_ hT6⟩)
    · have d1 : decide (lo ≤ v) = true := by simp; omega
      by_cases hhi : hi < v
      · have d2 : decide (v ≤ hi) = false := by simp; omega
        go_wp2_with (first
          | (go_at_call 116; ((with_reducible refine (FA.out w5 HP5.out.1).mono ?_); rintro en w6 ⟨rfl, hP6, hT6⟩))
          | (fail "arm"))
        all_goals (go_ret; exact ⟨rfl, hP6, HP5.out.2.trans_ hT6⟩)
      · have d2 : decide (v ≤ hi) = true := by simp; omega
        go_wp2
        all_goals (go_ret; exact ⟨rfl, HP5.out.1, HP5.out.2⟩)
  · subst hok
    go_wp2_with (first
      | (go_at_call 116; ((with_reducible refine (FA.out w5 HP5.out.1).mono ?_); rintro en w6 ⟨rfl, hP6, hT6⟩))
      | (fail "arm"))
    all_goals (go_ret; exact ⟨rfl, hP6, HP5.out.2.trans_ hT6⟩)
end Go.Proofs.YtcjoiiaankngjaaGreatDoor
/- Maps of strings: once. -/
namespace Go.Proofs.YtcjoiiaankngjaaGreatDoor
set_option maxRecDepth 100000
open Go.RowKit Go.Maps Go.ChangeMaps Go.MapKept Go.WideShapes
def klS (s : ByteArray) : Lit := .string s.data.toList
theorem klS_key (s : ByteArray) : WideAt.IsKeyLit (klS s) := trivial
theorem klS_inj {a b : ByteArray} (h : klS a = klS b) : a = b := by
  unfold klS at h
  injection h with h
  exact Go.WideShapes.bytes_inj h
theorem zero4 (w : World) : (zeroValue 4).run Tryz.prog w = .ok (.bool false) w := by kernel_rfl
theorem law9 : Keyed Tryz.prog 9 := string_keyed Tryz.underlying9
theorem plainElem_bool_inv {v : Value} {z : DataW Unit × List MemPlace} (h : plainElem Tryz.prog 4 v = some z) : ∃ x, v = .bool x ∧ z = (.lit (.bool x), []) := by
  unfold plainElem at h
  rw [Tryz.underlying4] at h
  cases v <;> simp at h
  subst h
  exact ⟨_, rfl, rfl⟩
theorem ownsMap_keep {w w' : World} {H : Type} {k : TypeId} {R : Value → Option (DataW H × List MemPlace)} {b n : Nat} {D : DataW H} (h : w.ownsMap Tryz.prog k R b n D) (hb : w'.heap[b]? = w.heap[b]?) : w'.ownsMap Tryz.prog k R b n D := by
  unfold World.ownsMap at h ⊢
  rw [hb]; exact h
abbrev Kn := List UInt8 → Bool
def kPut (K : Kn) (s : List UInt8) : Kn := fun x => decide (x = s) || K x
/-- the map at b holds true at the strings of K, and nothing else -/
def Names (w : World) (b n : Nat) (K : Kn) : Prop := ∃ D : DataW Unit, w.ownsMap Tryz.prog 9 (plainElem Tryz.prog 4) b n D ∧ IsMap D ∧ ∀ s : ByteArray, has D (klS s) = K s.data.toList ∧ (K s.data.toList = true → ∀ z, D.atKey (klS s) z = .lit (.bool true))
theorem Names.look {w : World} {b n : Nat} {K : Kn} (h : Names w b n K) (s : ByteArray) (hs : s.size ≤ maxLen) : (Instr.lookup 93 (.map (some b)) (.string s) false).run Tryz.prog w = .ok (.bool (K s.data.toList)) w := by
  obtain ⟨D, hm, _, hD⟩ := h
  have hk : keyOf Tryz.prog 9 (.string s) = some (klS s) := WideMaps.keyOf_string_mk (P := Tryz.prog) Tryz.underlying9 hs
  obtain ⟨v, ps, hr, hv⟩ := hm.lookup law9 Tryz.underlying93 (zero4 w) (plainElem_bool (x := false) Tryz.underlying4) hk
  obtain ⟨x, rfl, hx⟩ := plainElem_bool_inv hv
  have hx' := congrArg Prod.fst hx
  change D.atKey (klS s) _ = _ at hx'
  obtain ⟨h1, h2⟩ := hD s
  rw [hr]
  cases hK : K s.data.toList with
  | false =>
    rw [hK] at h1
    rw [atKey_of_not_has (z := DataW.lit (Lit.bool false)) h1] at hx'
    injection hx' with hx'
    injection hx' with hx'
    rw [← hx']
  | true =>
    rw [h2 hK] at hx'
    injection hx' with hx'
    injection hx' with hx'
    rw [← hx']
theorem Names.put {w : World} {b n : Nat} {K : Kn} (h : Names w b n K) (s : ByteArray) (hs : s.size ≤ maxLen) (hn : n < maxLen) :
    ∃ w', (Instr.mapUpdate 93 (.map (some b)) (.string s) (.bool true)).run Tryz.prog w = .ok () w' ∧ Names w' b (n + 1) (kPut K s.data.toList) ∧ Turn (fun g => g = b) w w' := by
  obtain ⟨D, hm, hi, hD⟩ := h
  have hk : keyOf Tryz.prog 9 (.string s) = some (klS s) := WideMaps.keyOf_string_mk (P := Tryz.prog) Tryz.underlying9 hs
  obtain ⟨w', hr, h1, h2⟩ := hm.update law9 Tryz.underlying93 hn hk (plainElem_bool (x := true) Tryz.underlying4)
  refine ⟨w', hr, ⟨_, h1, hi.put _ _, fun x => ?_⟩, ⟨h2.os, h2.tape, h2.output, h2.size, fun g hg hne => h2.block g hg (fun e => hne (by injection e))⟩⟩
  unfold kPut
  by_cases hx : x = s
  · subst hx
    exact ⟨by rw [has_put_same hi (klS_key x)]; simp, fun _ z => atKey_put_same hi (klS_key x) _ _⟩
  · have hne : klS x ≠ klS s := fun e => hx (klS_inj e)
    have hd : decide (x.data.toList = s.data.toList) = false := by
      rw [decide_eq_false_iff_not]
      exact fun e => hx (Go.WideShapes.bytes_inj e)
    rw [hd, Bool.false_or]
    obtain ⟨q1, q2⟩ := hD x
    exact ⟨by rw [has_put_other hne]; exact q1, fun hK z => by rw [atKey_put_other hne]; exact q2 hK z⟩
theorem Names.keep {w w' : World} {b n : Nat} {K : Kn} (h : Names w b n K) (hb : w'.heap[b]? = w.heap[b]?) : Names w' b n K := by
  obtain ⟨D, hm, hD⟩ := h
  exact ⟨D, ownsMap_keep hm hb, hD⟩
theorem Names.lt {w : World} {b n : Nat} {K : Kn} (h : Names w b n K) : b < w.heap.size := h.choose_spec.1.lt
theorem Names.far {F : Nat → Prop} {w w' : World} {b n : Nat} {K : Kn} (h : Names w b n K) (ht : Turn F w w') (hF : ¬ F b) : Names w' b n K := h.keep (ht.block b h.lt hF)
theorem Names.on {w w' : World} {b n : Nat} {K : Kn} (h : Names w b n K) (hb : Below w.heap.size w w') : Names w' b n K := h.keep (hb.block b h.lt)
theorem Names.mono {w : World} {b n m : Nat} {K : Kn} (h : Names w b n K) (hn : n ≤ m) : Names w b m K := by
  obtain ⟨D, hm, hD⟩ := h
  exact ⟨D, hm.mono hn, hD⟩
theorem names_of_empty {w : World} {b clock : Nat} (h : w.heap[b]? = some (.map #[] clock)) : Names w b 0 (fun _ => false) :=
  ⟨.map [], ⟨#[], clock, h, ⟨by simp, stamped_empty clock, by simp⟩, Nat.le_refl _, rfl⟩, isMap_empty, fun _ => ⟨rfl, fun h => by cases h⟩⟩
theorem Names.made (w : World) : Names (w.alloc (.map #[] 0)) w.heap.size 0 (fun _ => false) := names_of_empty (MapKept.heap_alloc w _).1
theorem Names.clear {w : World} {b n : Nat} {K : Kn} (h : Names w b n K) : ∃ w', (∀ ty, (Builtin.clear_ #[93] ty #[.map (some b)]).run Tryz.prog w = .ok (.tuple #[]) w') ∧ Names w' b 0 (fun _ => false) ∧ Turn (fun g => g = b) w w' := by
  obtain ⟨D, ⟨es, clock, hb, _⟩, _⟩ := h
  refine ⟨setBlock w b (.map #[] clock), fun ty => ?_, names_of_empty (heap_setBlock_same hb _), ?_⟩
  · simp [Builtin.clear_, run_underlying Tryz.underlying93, MapKept.run_getObj_map hb, MapKept.run_setObj_map _ hb, Result.andThen, setBlock]
  · exact ⟨rfl, rfl, rfl, by simp [setBlock], fun g _ hne => heap_setBlock_other hb _ hne⟩
theorem PS.farT {F : Nat → Prop} {w w' : World} {b : Nat} {σ : Pst} {R : List Value} (h : PS w b σ R) (ht : Turn F w w') (hF : ¬ F b) : PS w' b σ R := by
  obtain ⟨s, n, c, tx, tl, e, el, h1, h2⟩ := h
  exact ⟨s, n, c, tx, tl, e, el, ht.far h1 hF, h2⟩
def pOnce (K : Kn) (t : Tok) (σ : Pst) : Pst := if K t.txt then pFail (t.ln : Int) 42 σ else σ
def OnceOut (w : World) (b m n : Nat) (σ : Pst) (K : Kn) (R : List Value) (en : Ending) (w' : World) : Prop := en = .returned (.tuple #[]) ∧ PS w' b σ R ∧ Names w' m n K ∧ Turn (fun g => g = b ∨ g = m) w w'
theorem Turn.or1 {w w' : World} {b m : Nat} (h : Turn (fun g => g = b) w w') : Turn (fun g => g = b ∨ g = m) w w' := h.mono fun _ e => .inl e
theorem Turn.or2 {w w' : World} {b m : Nat} (h : Turn (fun g => g = m) w w') : Turn (fun g => g = b ∨ g = m) w w' := h.mono fun _ e => .inr e
set_option maxHeartbeats 2000000 in
theorem once_any {w : World} {b m n : Nat} {σ : Pst} {K : Kn} {R : List Value} (h : PS w b σ R) (hm : Names w m n K) (hbm : m ≠ b) (hn : n < maxLen) (t : Tok) (ht : t.txt.length ≤ 4294967000) :
    Calls Tryz.prog 102 #[.pointer (some ⟨b, 0, none⟩), .map (some m), tokV t] w (OnceOut w b m (n + 1) (pOnce K t σ) (kPut K t.txt) R) := by
  unfold OnceOut pOnce tokV
  obtain ⟨x, hx⟩ : ∃ x, str t.txt = x := ⟨_, rfl⟩
  obtain ⟨l, hl⟩ : ∃ l : Nat, t.ln = l := ⟨_, rfl⟩
  obtain ⟨c, hc⟩ : ∃ l : Nat, t.cls = l := ⟨_, rfl⟩
  have hxl : x.data.toList = t.txt := by rw [← hx, str_data]
  have hxs : x.size ≤ maxLen := by rw [← hx, str_size]; unfold maxLen; omega
  rw [hx, hl, hc, ← hxl]
  clear hx hl hc hxl ht
  obtain ⟨w1, hw1⟩ : ∃ w1, w.alloc (.cells #[.int .i64 (c : Int), .string x, .int .i64 (l : Int)] 91) = w1 := ⟨_, rfl⟩
  have hb1 : Below w.heap.size w w1 := by rw [← hw1]; exact (Below.refl _ w).alloc (Nat.le_refl _) _
  have F1 : Full w1 w.heap.size 91 [.int .i64 (c : Int), .string x, .int .i64 (l : Int)] := by rw [← hw1]; exact Full.new w 91 _
  obtain ⟨u, hu⟩ : ∃ u, w.heap.size = u := ⟨_, rfl⟩
  have hbu : b < u := by rw [← hu]; exact h.lt
  have hmu : m < u := by rw [← hu]; exact hm.lt
  rw [hu] at F1
  have h1 := h.on hb1
  have hm1 := hm.on hb1
  have hT1 : Turn (fun g => g = b ∨ g = m) w w1 := Turn.of hb1
  have u1 : w1.cell? ⟨u, 1, none⟩ = some (.string x) := F1.cell 1
  have u2 : w1.cell? ⟨u, 2, none⟩ = some (.int .i64 (l : Int)) := F1.cell 2
  have lk := hm1.look x hxs
  have FA := Lib.hid (fail_any h1 (l : Int) 42 (by decide))
  unfold StOut at FA
  cases hK : K x.data.toList with
  | true =>
    rw [hK] at lk
    rw [if_pos rfl]
    have HT := Lib.hid hT1
    have HF := Lib.hid F1
    have HM := Lib.hid hm1
    clear h hm hb1 F1 h1 hm1 hT1 hK
    go_enter Tryz.func102, Tryz.ntmps102
    go_wp2_with (first
      | (go_at_call 116; ((with_reducible refine FA.out.mono ?_); rintro en w2 ⟨rfl, hP2, hT2⟩; (have F2 := hT2.far HF.out (by omega)); (have v1 : w2.cell? ⟨u, 1, none⟩ = some (.string x) := F2.cell 1); (obtain ⟨w3, hr3, hm3, hT3⟩ := (HM.out.far hT2 hbm).put x hxs hn); (have HO := Lib.hid (And.intro (hP2.farT hT3 (fun e => hbm e.symm)) (And.intro hm3 ((HT.out.trans_ hT2.or1).trans_ hT3.or2)))); clear hP2 hT2 F2 hm3 hT3))
      | (fail "arm"))
    all_goals (go_end0; exact ⟨rfl, HO.out⟩)
  | false =>
    rw [hK] at lk
    rw [if_neg (by decide)]
    obtain ⟨w3, hr3, hm3, hT3⟩ := hm1.put x hxs hn
    have HO := Lib.hid (And.intro (h1.farT hT3 (fun e => hbm e.symm)) (And.intro hm3 (hT1.trans_ hT3.or2)))
    clear h hm hb1 F1 h1 hm1 hT1 hK hm3 hT3
    go_enter Tryz.func102, Tryz.ntmps102
    go_wp2
    all_goals (go_end0; exact ⟨rfl, HO.out⟩)
end Go.Proofs.YtcjoiiaankngjaaGreatDoor
/- Lists of items: the pure side, rows. -/
namespace Go.Proofs.YtcjoiiaankngjaaGreatDoor
set_option maxRecDepth 100000
open Go.RowKit
theorem info52 : (Tryz.prog.info? 52).map (fun i => (i.zero, i.size, i.bytes)) = some (some (.agg #[.string ⟨#[]⟩, .bool false, .string ⟨#[]⟩, .int .i64 0]), 4, 48) := by kernel_rfl
def itmsC (l : List Itm) : List Value := l.flatMap itmC
theorem itmsC_snoc (l : List Itm) (i : Itm) : itmsC (l ++ [i]) = itmsC l ++ itmC i := by unfold itmsC; rw [List.flatMap_append]; simp
theorem itmC_one (i : Itm) : ∀ u ∈ itmC i, u.oneCell' = true := by
  intro u hu
  simp [itmC] at hu
  rcases hu with rfl | rfl | rfl | rfl <;> rfl
/-- the elements behind commas -/
def pMore {S : Type} (el : S → Itm × S) (tk : S → Bool × S) : Nat → S → List Itm × S
  | 0, σ => ([], σ)
  | f + 1, σ => if (tk σ).1 then ((el (tk σ).2).1 :: (pMore el tk f (el (tk σ).2).2).1, (pMore el tk f (el (tk σ).2).2).2) else ([], (tk σ).2)
/-- what a list needs of its element, of the comma and of the semicolon -/
structure LEnv (S : Type) (Inv : World → S → Prop) (F : Nat → Prop) (B b : Nat) (el : S → Itm × S) (tk : S → Bool × S) (ex : S → S) (len : S → Nat) : Prop where
  lt : ∀ g, F g → g < B
  on : ∀ W W' σ, Inv W σ → Turn (fun g => B ≤ g) W W' → Inv W' σ
  cT : ∀ W σ, Inv W σ → Calls Tryz.prog 74 #[.pointer (some ⟨b, 0, none⟩), .string ⟨#[44]⟩] W fun en W' => en = .returned (.bool (tk σ).1) ∧ Inv W' (tk σ).2 ∧ Turn F W W'
  cE : ∀ W σ, Inv W σ → Calls Tryz.prog 103 #[.pointer (some ⟨b, 0, none⟩), .string ⟨#[59]⟩] W fun en W' => en = .returned (.tuple #[]) ∧ Inv W' (ex σ) ∧ Turn F W W'
  bound : ∀ W σ, Inv W σ → len σ ≤ 8589934592
  less : ∀ σ, (tk σ).1 = true → len (tk σ).2 < len σ
  le : ∀ σ, len (el σ).2 ≤ len σ
def pList {S : Type} (el : S → Itm × S) (tk : S → Bool × S) (ex : S → S) (len : S → Nat) (σ : S) : List Itm × S :=
  ((el σ).1 :: (pMore el tk (len (el σ).2 + 1) (el σ).2).1, ex (pMore el tk (len (el σ).2 + 1) (el σ).2).2)
theorem pMore_len {S : Type} (el : S → Itm × S) (tk : S → Bool × S) (len : S → Nat) (less : ∀ σ, (tk σ).1 = true → len (tk σ).2 < len σ) (le : ∀ σ, len (el σ).2 ≤ len σ) : ∀ (f : Nat) (σ : S), (pMore el tk f σ).1.length ≤ len σ
  | 0, σ => by simp [pMore]
  | f + 1, σ => by
    rw [pMore]
    split
    · rename_i h
      have h1 := less σ h
      have h2 := le (tk σ).2
      have h3 := pMore_len el tk len less le f (el (tk σ).2).2
      simp
      omega
    · simp
/-- a row of items, of one's own, in blocks from base on -/
def OwnI (w : World) (base : Nat) (A : Option Addr) (c : Nat) (l : List Itm) : Prop := w.ownsRow base 52 4 (.slice A l.length c) l.length (itmsC l)
theorem OwnI.one (w : World) (base : Nat) (h : base ≤ w.heap.size) (i : Itm) : OwnI (w.alloc (.cells (itmC i).toArray 52)) base (some ⟨w.heap.size, 0, none⟩) 1 [i] :=
  ⟨by simp [itmsC, itmC], .inr ⟨w.heap.size, 1, (itmC i).toArray, rfl, h, heap_alloc_new w _, Nat.le_refl _, by unfold maxLen; omega, by simp [itmC], by simp [itmsC, itmC]⟩⟩
def ListOut {S : Type} (Inv : World → S → Prop) (F : Nat → Prop) (w : World) (r : List Itm × S) (en : Ending) (w' : World) : Prop :=
  ∃ A c, en = .returned (.slice A r.1.length c) ∧ OwnI w' w.heap.size A c r.1 ∧ Inv w' r.2 ∧ Turn F w w'
/-- the block of an appended row lies above what was there -/
theorem Turn.late_row {F : Nat → Prop} {w w1 w2 : World} (h : Turn F w w1) {row : Option Nat} (hg : w1.grownBy w2 row) (hr : ∀ g, row = some g → w.heap.size ≤ g) : Turn F w w2 :=
  h.late (G := fun g => w.heap.size ≤ g) (Turn.grown hg fun g hg => .inl (hr g hg)) fun _g hg => .inr hg
theorem own_turn {F : Nat → Prop} {w w' : World} {base : Nat} {e : TypeId} {size n : Nat} {v : Value} {xs : List Value} (h : w.ownsRow base e size v n xs) (ht : Turn F w w') (hF : ∀ g, F g → g < base) : w'.ownsRow base e size v n xs := by
  obtain ⟨h1, h2⟩ := h
  refine ⟨h1, h2.imp id ?_⟩
  rintro ⟨g, cap, cur, rfl, hb, hg, r⟩
  exact ⟨g, cap, cur, rfl, hb, (ht.block g (Array.getElem?_eq_some_iff.1 hg).1 (fun e => by have := hF g e; omega)).trans hg, r⟩
end Go.Proofs.YtcjoiiaankngjaaGreatDoor
/- list 108 of function 107. -/
namespace Go.Proofs.YtcjoiiaankngjaaGreatDoor
set_option maxRecDepth 100000
open Go.RowKit
set_option maxHeartbeats 4000000 in
theorem list_T {S : Type} {Inv : World → S → Prop} {F : Nat → Prop} {B b : Nat} {el : S → Itm × S} {tk : S → Bool × S} {ex : S → S} {len : S → Nat} (E : LEnv S Inv F B b el tk ex len)
    (EL : ∀ W σ, Inv W σ → Calls Tryz.prog 107 #[.pointer (some ⟨b, 0, none⟩)] W fun en W' => en = .returned (itmV (el σ).1) ∧ Inv W' (el σ).2 ∧ Turn F W W')
    {w : World} (hB : B ≤ w.heap.size) {σ : S} (h : Inv w σ) : Calls Tryz.prog 108 #[.pointer (some ⟨b, 0, none⟩), .func (.func 107) #[.pointer (some ⟨b, 0, none⟩)] #[]] w (ListOut Inv F w (pList el tk ex len σ)) := by
  unfold ListOut
  obtain ⟨i0, hi, hz0, hz1, hz2⟩ := info_parts info52
  obtain ⟨it, hit⟩ : ∃ i, (el σ).1 = i := ⟨_, rfl⟩
  obtain ⟨σ1, h1⟩ : ∃ i, (el σ).2 = i := ⟨_, rfl⟩
  obtain ⟨r, hr⟩ : ∃ r, r = pMore el tk (len σ1 + 1) σ1 := ⟨_, rfl⟩
  have hres : pList el tk ex len σ = (it :: r.1, ex r.2) := by unfold pList; rw [h1, hit, hr]
  rw [hres]
  dsimp only
  have hrl : (it :: r.1).length ≤ 8589934593 := by
    have a1 := pMore_len el tk len E.less E.le (len σ1 + 1) σ1
    have a2 := E.bound w σ h
    have a3 := E.le σ
    rw [h1] at a3
    rw [← hr] at a1
    simp
    omega
  obtain ⟨L, hL⟩ : ∃ L, it :: r.1 = L := ⟨_, rfl⟩
  rw [hL] at hrl
  rw [hL]
  have EL1 := Lib.hid (EL w σ h)
  rw [hit, h1] at EL1
  unfold itmV at EL1
  obtain ⟨σ9, h9⟩ : ∃ s, ex r.2 = s := ⟨_, rfl⟩
  have CE := Lib.hid (fun (W : World) (h : Inv W r.2) => E.cE W r.2 h)
  rw [h9] at CE
  rw [h9]
  have HL := Lib.hid hL
  have HR := Lib.hid hr
  have HB := Lib.hid hB
  obtain ⟨y0, hy0⟩ : ∃ y, str it.tx = y := ⟨_, rfl⟩
  obtain ⟨y1, hy1⟩ : ∃ y, it.gl = y := ⟨_, rfl⟩
  obtain ⟨y2, hy2⟩ : ∃ y, str it.pl = y := ⟨_, rfl⟩
  obtain ⟨y3, hy3⟩ : ∃ y : Nat, it.ln = y := ⟨_, rfl⟩
  have HC := Lib.hid (show itmC it = [.string y0, .bool y1, .string y2, .int .i64 (y3 : Int)] by unfold itmC; rw [hy0, hy1, hy2, hy3])
  rw [hy0, hy1, hy2, hy3] at EL1
  have HE := Lib.hid E
  have HEL := Lib.hid EL
  clear hy0 hy1 hy2 hy3 h9 hL hres hr h1 hit h hB E EL
  go_enter Tryz.func108, Tryz.ntmps108
  go_upto_region 2 with (first
    | (go_at_call 107; ((with_reducible refine EL1.out.mono ?_); rintro en w1 ⟨rfl, hI1, hT1⟩))
    | (fail "arm"))
  obtain ⟨w2, hw2⟩ : ∃ w2, w1.alloc (.cells #[.string y0, .bool y1, .string y2, .int .i64 (y3 : Int)] 52) = w2 := ⟨_, rfl⟩
  have hO2 : OwnI w2 w.heap.size (some ⟨w1.heap.size, 0, none⟩) 1 [it] := by
    have := OwnI.one w1 w.heap.size hT1.size it
    rw [HC.out, hw2] at this
    exact this
  have hb2 : Below w1.heap.size w1 w2 := by rw [← hw2]; exact (Below.refl _ w1).alloc (Nat.le_refl _) _
  have hI2 : Inv w2 σ1 := HE.out.on w1 w2 σ1 hI1 (Turn.of hb2)
  have hT2 : Turn F w w2 := hT1.trans_ (Turn.of hb2)
  obtain ⟨g, hg⟩ : ∃ g, w1.heap.size = g := ⟨_, rfl⟩
  rw [hg] at hO2
  rw [hw2, hg]
  have HO2 := Lib.hid hO2
  have HI2 := Lib.hid hI2
  have HT2 := Lib.hid hT2
  clear hw2 hg hO2 hb2 hI2 hT2 hI1 hT1 EL1
  go_loopw [5] (fun v5 wr => ∃ (A : Option Addr) (n c f : Nat) (acc : List Itm) (σ' : S), v5 = .slice A n c ∧ n = acc.length ∧ n ≤ L.length ∧ Hid (OwnI wr w.heap.size A c acc) ∧ Hid (Inv wr σ') ∧ Hid (len σ' < f) ∧ Hid (acc ++ (pMore el tk f σ').1 = L) ∧ Hid ((pMore el tk f σ').2 = r.2) ∧ Hid (Turn F w wr)) (fun v5 _ => match v5 with | .slice _ n _ => L.length - n | _ => 0)
  case atStart => exact ⟨some ⟨g, 0, none⟩, 1, 1, len σ1 + 1, [it], σ1, rfl, rfl, by rw [← HL.out]; simp, HO2, HI2, Lib.hid (Nat.lt_succ_self _), Lib.hid (by rw [← HL.out, HR.out]; rfl), Lib.hid (by rw [HR.out]), HT2⟩
  case round =>
    obtain ⟨A, n, c, f, acc, σ', rfl, hn, hnL, HO, HI, Hf, HM1, HM2, HT⟩ := hrel
    obtain ⟨f, rfl⟩ : ∃ k, f = k + 1 := ⟨f - 1, by have := Hf.out; omega⟩
    have CT := Lib.hid (HE.out.cT wr σ' HI.out)
    obtain ⟨σ2, h2⟩ : ∃ s, (tk σ').2 = s := ⟨_, rfl⟩
    cases ht : (tk σ').1 with
    | false =>
      rw [ht, h2] at CT
      have m1 := HM1.out
      have m2 := HM2.out
      rw [pMore, if_neg (by rw [ht]; decide)] at m1 m2
      dsimp only at m1 m2
      rw [List.append_nil] at m1
      rw [h2] at m2
      subst m2
      have HA := Lib.hid m1
      have Hn := Lib.hid hn
      clear m1 ht h2 hn HM1 HM2
      go_wp2_with (first
        | (go_at_call 74; ((with_reducible refine CT.out.mono ?_); rintro en w3 ⟨rfl, hI3, hT3⟩))
        | (go_at_call 103; ((with_reducible refine (CE.out w3 hI3).mono ?_); rintro en w4 ⟨rfl, hI4, hT4⟩))
        | (fail "arm"))
      all_goals
        go_ret
        have e := Hn.out
        have a := HA.out
        subst a
        subst e
        exact ⟨A, c, rfl, own_turn (own_turn HO.out hT3 (fun g e => Nat.lt_of_lt_of_le (HE.out.lt g e) HB.out)) hT4 (fun g e => Nat.lt_of_lt_of_le (HE.out.lt g e) HB.out), hI4, (HT.out.trans_ hT3).trans_ hT4⟩
    | true =>
      rw [ht, h2] at CT
      have hlt := HE.out.less σ' ht
      have hle := HE.out.le σ2
      rw [h2] at hlt
      have m1 := HM1.out
      have m2 := HM2.out
      rw [pMore, if_pos ht] at m1 m2
      dsimp only at m1 m2
      rw [h2] at m1 m2
      have EL2 := Lib.hid (fun (W : World) (h : Inv W σ2) => HEL.out W σ2 h)
      obtain ⟨jt, hjt⟩ : ∃ i, (el σ2).1 = i := ⟨_, rfl⟩
      obtain ⟨σ3, h3⟩ : ∃ i, (el σ2).2 = i := ⟨_, rfl⟩
      rw [hjt, h3] at EL2
      rw [h3] at hle
      rw [hjt, h3] at m1
      rw [h3] at m2
      unfold itmV at EL2
      obtain ⟨z0, hz0'⟩ : ∃ y, str jt.tx = y := ⟨_, rfl⟩
      obtain ⟨z1, hz1'⟩ : ∃ y, jt.gl = y := ⟨_, rfl⟩
      obtain ⟨z2, hz2'⟩ : ∃ y, str jt.pl = y := ⟨_, rfl⟩
      obtain ⟨z3, hz3'⟩ : ∃ y : Nat, jt.ln = y := ⟨_, rfl⟩
      have HCj := Lib.hid (show itmC jt = [.string z0, .bool z1, .string z2, .int .i64 (z3 : Int)] by unfold itmC; rw [hz0', hz1', hz2', hz3'])
      rw [hz0', hz1', hz2', hz3'] at EL2
      have Hf' := Lib.hid (show len σ3 < f by have := Hf.out; omega)
      have HM1' := Lib.hid (show (acc ++ [jt]) ++ (pMore el tk f σ3).1 = L by rw [List.append_assoc]; exact m1)
      have HM2' := Lib.hid m2
      have hnL' : n + 1 ≤ L.length := by rw [← m1, hn]; simp
      have Hn := Lib.hid hn
      have HCN := Lib.hid (fun (W : World) (g : Nat) (hg : W.heap.size = g) => show ∀ j u, [Value.string z0, .bool z1, .string z2, .int .i64 (z3 : Int)][j]? = some u → (W.alloc (.cells #[.string z0, .bool z1, .string z2, .int .i64 (z3 : Int)] 52)).cell? ((⟨g, 0, none⟩ : Addr).add j) = some u from fun j u hj => by
        subst hg
        obtain ⟨ad, e, _, hc⟩ := ((Full.new W 52 [.string z0, .bool z1, .string z2, .int .i64 (z3 : Int)]).row 4 1 rfl 1 (Nat.le_refl _)).2.2.2 j u hj
        injection e with e
        subst e
        exact hc)
      have HC1 := Lib.hid (show ∀ u ∈ [Value.string z0, .bool z1, .string z2, .int .i64 (z3 : Int)], u.oneCell' = true from by
        intro u hu
        simp at hu
        rcases hu with rfl | rfl | rfl | rfl <;> rfl)
      have HOn := Lib.hid (show ∀ W, Turn F wr W → W.ownsRow w.heap.size 52 4 (.slice A n c) n (itmsC acc) from fun W hT => by
        have q := HO.out
        unfold OwnI at q
        rw [← Hn.out] at q
        exact own_turn q hT (fun g e => Nat.lt_of_lt_of_le (HE.out.lt g e) HB.out))
      clear m1 m2 hlt hle ht h2 hn hz0' hz1' hz2' hz3' hjt h3 HM1 HM2 Hf
      go_wp2_with (first
        | (go_at_call 74; ((with_reducible refine CT.out.mono ?_); rintro en w3 ⟨rfl, hI3, hT3⟩))
        | (go_at_call 107; ((with_reducible refine (EL2.out w3 hI3).mono ?_); rintro en w4 ⟨rfl, hI4, hT4⟩; (have hT34 := hT3.trans_ hT4); (have hs4 := (HT.out.trans_ hT34).size); (have HO4 := Lib.hid (HOn.out w4 hT34)); (have HI4 := Lib.hid hI4); (have HT4 := Lib.hid hT34); clear hI3 hT3 hI4 hT4 hT34))
        | (at_builtin; go_loud (refine wpList_append_own _ rfl _ _ 25 rfl w.heap.size 52 i0 (.agg #[.string ⟨#[]⟩, .bool false, .string ⟨#[]⟩, .int .i64 0]) 4 48 Tryz.underlying25 hi hz0 hz1 hz2 rfl (by decide) (.slice A n c) _ _ rfl (HO4.out.alloc _) ⟨w4.heap.size, 0, none⟩ 1 1 [.string z0, .bool z1, .string z2, .int .i64 (z3 : Int)] rfl rfl (HCN.out w4 w4.heap.size rfl) HC1.out (by unfold maxLen; omega) (by omega) (by simp; omega) ?_; intro v' w9 hown9 hgrow9 hnil9; (have HO9 := Lib.hid hown9); (have HG9 := Lib.hid hgrow9); clear hown9 hgrow9 hnil9))
        | (fail "arm"))
      obtain ⟨A9, c9, rfl⟩ := own_form HO9.out
      have hba : Below w4.heap.size w4 (w4.alloc (.cells #[.string z0, .bool z1, .string z2, .int .i64 (z3 : Int)] 52)) := (Below.refl _ w4).alloc (Nat.le_refl _) _
      have hrow : ∀ g, (Value.slice A n c).ownBlock = some g → w.heap.size ≤ g := row_ge HO4.out
      have hI9 : Inv w9 σ3 := HE.out.on _ _ _ (HE.out.on _ _ _ HI4.out (Turn.of hba)) (Turn.grown HG9.out fun g hg => .inl (Nat.le_trans HB.out (hrow g hg)))
      have hT9 : Turn F w w9 := ((HT.out.trans_ HT4.out).trans_ (Turn.of hba)).late_row HG9.out hrow
      have hO9 : OwnI w9 w.heap.size A9 c9 (acc ++ [jt]) := by
        have q := HO9.out
        unfold OwnI
        rw [itmsC_snoc, HCj.out, show (acc ++ [jt]).length = n + 1 by simp [Hn.out]]
        exact q
      have hl9 : n + 1 = (acc ++ [jt]).length := by simp [Hn.out]
      go_roundw
      case rel => exact ⟨A9, n + 1, c9, f, acc ++ [jt], σ3, rfl, hl9, hnL', Lib.hid hO9, Lib.hid hI9, Hf', HM1', HM2', Lib.hid hT9⟩
      case measure => show L.length - (n + 1) < L.length - n; omega
end Go.Proofs.YtcjoiiaankngjaaGreatDoor
/- list 108 of function 106. -/
namespace Go.Proofs.YtcjoiiaankngjaaGreatDoor
set_option maxRecDepth 100000
open Go.RowKit
set_option maxHeartbeats 4000000 in
theorem list_S {S : Type} {Inv : World → S → Prop} {F : Nat → Prop} {B b : Nat} {el : S → Itm × S} {tk : S → Bool × S} {ex : S → S} {len : S → Nat} (E : LEnv S Inv F B b el tk ex len)
    (EL : ∀ W σ, Inv W σ → Calls Tryz.prog 106 #[.pointer (some ⟨b, 0, none⟩)] W fun en W' => en = .returned (itmV (el σ).1) ∧ Inv W' (el σ).2 ∧ Turn F W W')
    {w : World} (hB : B ≤ w.heap.size) {σ : S} (h : Inv w σ) : Calls Tryz.prog 108 #[.pointer (some ⟨b, 0, none⟩), .func (.func 106) #[.pointer (some ⟨b, 0, none⟩)] #[]] w (ListOut Inv F w (pList el tk ex len σ)) := by
  unfold ListOut
  obtain ⟨i0, hi, hz0, hz1, hz2⟩ := info_parts info52
  obtain ⟨it, hit⟩ : ∃ i, (el σ).1 = i := ⟨_, rfl⟩
  obtain ⟨σ1, h1⟩ : ∃ i, (el σ).2 = i := ⟨_, rfl⟩
  obtain ⟨r, hr⟩ : ∃ r, r = pMore el tk (len σ1 + 1) σ1 := ⟨_, rfl⟩
  have hres : pList el tk ex len σ = (it :: r.1, ex r.2) := by unfold pList; rw [h1, hit, hr]
  rw [hres]
  dsimp only
  have hrl : (it :: r.1).length ≤ 8589934593 := by
    have a1 := pMore_len el tk len E.less E.le (len σ1 + 1) σ1
    have a2 := E.bound w σ h
    have a3 := E.le σ
    rw [h1] at a3
    rw [← hr] at a1
    simp
    omega
  obtain ⟨L, hL⟩ : ∃ L, it :: r.1 = L := ⟨_, rfl⟩
  rw [hL] at hrl
  rw [hL]
  have EL1 := Lib.hid (EL w σ h)
  rw [hit, h1] at EL1
  unfold itmV at EL1
  obtain ⟨σ9, h9⟩ : ∃ s, ex r.2 = s := ⟨_, rfl⟩
  have CE := Lib.hid (fun (W : World) (h : Inv W r.2) => E.cE W r.2 h)
  rw [h9] at CE
  rw [h9]
  have HL := Lib.hid hL
  have HR := Lib.hid hr
  have HB := Lib.hid hB
  obtain ⟨y0, hy0⟩ : ∃ y, str it.tx = y := ⟨_, rfl⟩
  obtain ⟨y1, hy1⟩ : ∃ y, it.gl = y := ⟨_, rfl⟩
  obtain ⟨y2, hy2⟩ : ∃ y, str it.pl = y := ⟨_, rfl⟩
  obtain ⟨y3, hy3⟩ : ∃ y : Nat, it.ln = y := ⟨_, rfl⟩
  have HC := Lib.hid (show itmC it = [.string y0, .bool y1, .string y2, .int .i64 (y3 : Int)] by unfold itmC; rw [hy0, hy1, hy2, hy3])
  rw [hy0, hy1, hy2, hy3] at EL1
  have HE := Lib.hid E
  have HEL := Lib.hid EL
  clear hy0 hy1 hy2 hy3 h9 hL hres hr h1 hit h hB E EL
  go_enter Tryz.func108, Tryz.ntmps108
  go_upto_region 2 with (first
    | (go_at_call 106; ((with_reducible refine EL1.out.mono ?_); rintro en w1 ⟨rfl, hI1, hT1⟩))
    | (fail "arm"))
  obtain ⟨w2, hw2⟩ : ∃ w2, w1.alloc (.cells #[.string y0, .bool y1, .string y2, .int .i64 (y3 : Int)] 52) = w2 := ⟨_, rfl⟩
  have hO2 : OwnI w2 w.heap.size (some ⟨w1.heap.size, 0, none⟩) 1 [it] := by
    have := OwnI.one w1 w.heap.size hT1.size it
    rw [HC.out, hw2] at this
    exact this
  have hb2 : Below w1.heap.size w1 w2 := by rw [← hw2]; exact (Below.refl _ w1).alloc (Nat.le_refl _) _
  have hI2 : Inv w2 σ1 := HE.out.on w1 w2 σ1 hI1 (Turn.of hb2)
  have hT2 : Turn F w w2 := hT1.trans_ (Turn.of hb2)
  obtain ⟨g, hg⟩ : ∃ g, w1.heap.size = g := ⟨_, rfl⟩
  rw [hg] at hO2
  rw [hw2, hg]
  have HO2 := Lib.hid hO2
  have HI2 := Lib.hid hI2
  have HT2 := Lib.hid hT2
  clear hw2 hg hO2 hb2 hI2 hT2 hI1 hT1 EL1
  go_loopw [5] (fun v5 wr => ∃ (A : Option Addr) (n c f : Nat) (acc : List Itm) (σ' : S), v5 = .slice A n c ∧ n = acc.length ∧ n ≤ L.length ∧ Hid (OwnI wr w.heap.size A c acc) ∧ Hid (Inv wr σ') ∧ Hid (len σ' < f) ∧ Hid (acc ++ (pMore el tk f σ').1 = L) ∧ Hid ((pMore el tk f σ').2 = r.2) ∧ Hid (Turn F w wr)) (fun v5 _ => match v5 with | .slice _ n _ => L.length - n | _ => 0)
  case atStart => exact ⟨some ⟨g, 0, none⟩, 1, 1, len σ1 + 1, [it], σ1, rfl, rfl, by rw [← HL.out]; simp, HO2, HI2, Lib.hid (Nat.lt_succ_self _), Lib.hid (by rw [← HL.out, HR.out]; rfl), Lib.hid (by rw [HR.out]), HT2⟩
  case round =>
    obtain ⟨A, n, c, f, acc, σ', rfl, hn, hnL, HO, HI, Hf, HM1, HM2, HT⟩ := hrel
    obtain ⟨f, rfl⟩ : ∃ k, f = k + 1 := ⟨f - 1, by have := Hf.out; omega⟩
    have CT := Lib.hid (HE.out.cT wr σ' HI.out)
    obtain ⟨σ2, h2⟩ : ∃ s, (tk σ').2 = s := ⟨_, rfl⟩
    cases ht : (tk σ').1 with
    | false =>
      rw [ht, h2] at CT
      have m1 := HM1.out
      have m2 := HM2.out
      rw [pMore, if_neg (by rw [ht]; decide)] at m1 m2
      dsimp only at m1 m2
      rw [List.append_nil] at m1
      rw [h2] at m2
      subst m2
      have HA := Lib.hid m1
      have Hn := Lib.hid hn
      clear m1 ht h2 hn HM1 HM2
      go_wp2_with (first
        | (go_at_call 74; ((with_reducible refine CT.out.mono ?_); rintro en w3 ⟨rfl, hI3, hT3⟩))
        | (go_at_call 103; ((with_reducible refine (CE.out w3 hI3).mono ?_); rintro en w4 ⟨rfl, hI4, hT4⟩))
        | (fail "arm"))
      all_goals
        go_ret
        have e := Hn.out
        have a := HA.out
        subst a
        subst e
        exact ⟨A, c, rfl, own_turn (own_turn HO.out hT3 (fun g e => Nat.lt_of_lt_of_le (HE.out.lt g e) HB.out)) hT4 (fun g e => Nat.lt_of_lt_of_le (HE.out.lt g e) HB.out), hI4, (HT.out.trans_ hT3).trans_ hT4⟩
    | true =>
      rw [ht, h2] at CT
      have hlt := HE.out.less σ' ht
      have hle := HE.out.le σ2
      rw [h2] at hlt
      have m1 := HM1.out
      have m2 := HM2.out
      rw [pMore, if_pos ht] at m1 m2
      dsimp only at m1 m2
      rw [h2] at m1 m2
      have EL2 := Lib.hid (fun (W : World) (h : Inv W σ2) => HEL.out W σ2 h)
      obtain ⟨jt, hjt⟩ : ∃ i, (el σ2).1 = i := ⟨_, rfl⟩
      obtain ⟨σ3, h3⟩ : ∃ i, (el σ2).2 = i := ⟨_, rfl⟩
      rw [hjt, h3] at EL2
      rw [h3] at hle
      rw [hjt, h3] at m1
      rw [h3] at m2
      unfold itmV at EL2
      obtain ⟨z0, hz0'⟩ : ∃ y, str jt.tx = y := ⟨_, rfl⟩
      obtain ⟨z1, hz1'⟩ : ∃ y, jt.gl = y := ⟨_, rfl⟩
      obtain ⟨z2, hz2'⟩ : ∃ y, str jt.pl = y := ⟨_, rfl⟩
      obtain ⟨z3, hz3'⟩ : ∃ y : Nat, jt.ln = y := ⟨_, rfl⟩
      have HCj := Lib.hid (show itmC jt = [.string z0, .bool z1, .string z2, .int .i64 (z3 : Int)] by unfold itmC; rw [hz0', hz1', hz2', hz3'])
      rw [hz0', hz1', hz2', hz3'] at EL2
      have Hf' := Lib.hid (show len σ3 < f by have := Hf.out; omega)
      have HM1' := Lib.hid (show (acc ++ [jt]) ++ (pMore el tk f σ3).1 = L by rw [List.append_assoc]; exact m1)
      have HM2' := Lib.hid m2
      have hnL' : n + 1 ≤ L.length := by rw [← m1, hn]; simp
      have Hn := Lib.hid hn
      have HCN := Lib.hid (fun (W : World) (g : Nat) (hg : W.heap.size = g) => show ∀ j u, [Value.string z0, .bool z1, .string z2, .int .i64 (z3 : Int)][j]? = some u → (W.alloc (.cells #[.string z0, .bool z1, .string z2, .int .i64 (z3 : Int)] 52)).cell? ((⟨g, 0, none⟩ : Addr).add j) = some u from fun j u hj => by
        subst hg
        obtain ⟨ad, e, _, hc⟩ := ((Full.new W 52 [.string z0, .bool z1, .string z2, .int .i64 (z3 : Int)]).row 4 1 rfl 1 (Nat.le_refl _)).2.2.2 j u hj
        injection e with e
        subst e
        exact hc)
      have HC1 := Lib.hid (show ∀ u ∈ [Value.string z0, .bool z1, .string z2, .int .i64 (z3 : Int)], u.oneCell' = true from by
        intro u hu
        simp at hu
        rcases hu with rfl | rfl | rfl | rfl <;> rfl)
      have HOn := Lib.hid (show ∀ W, Turn F wr W → W.ownsRow w.heap.size 52 4 (.slice A n c) n (itmsC acc) from fun W hT => by
        have q := HO.out
        unfold OwnI at q
        rw [← Hn.out] at q
        exact own_turn q hT (fun g e => Nat.lt_of_lt_of_le (HE.out.lt g e) HB.out))
      clear m1 m2 hlt hle ht h2 hn hz0' hz1' hz2' hz3' hjt h3 HM1 HM2 Hf
      go_wp2_with (first
        | (go_at_call 74; ((with_reducible refine CT.out.mono ?_); rintro en w3 ⟨rfl, hI3, hT3⟩))
        | (go_at_call 106; ((with_reducible refine (EL2.out w3 hI3).mono ?_); rintro en w4 ⟨rfl, hI4, hT4⟩; (have hT34 := hT3.trans_ hT4); (have hs4 := (HT.out.trans_ hT34).size); (have HO4 := Lib.hid (HOn.out w4 hT34)); (have HI4 := Lib.hid hI4); (have HT4 := Lib.hid hT34); clear hI3 hT3 hI4 hT4 hT34))
        | (at_builtin; go_loud (refine wpList_append_own _ rfl _ _ 25 rfl w.heap.size 52 i0 (.agg #[.string ⟨#[]⟩, .bool false, .string ⟨#[]⟩, .int .i64 0]) 4 48 Tryz.underlying25 hi hz0 hz1 hz2 rfl (by decide) (.slice A n c) _ _ rfl (HO4.out.alloc _) ⟨w4.heap.size, 0, none⟩ 1 1 [.string z0, .bool z1, .string z2, .int .i64 (z3 : Int)] rfl rfl (HCN.out w4 w4.heap.size rfl) HC1.out (by unfold maxLen; omega) (by omega) (by simp; omega) ?_; intro v' w9 hown9 hgrow9 hnil9; (have HO9 := Lib.hid hown9); (have HG9 := Lib.hid hgrow9); clear hown9 hgrow9 hnil9))
        | (fail "arm"))
      obtain ⟨A9, c9, rfl⟩ := own_form HO9.out
      have hba : Below w4.heap.size w4 (w4.alloc (.cells #[.string z0, .bool z1, .string z2, .int .i64 (z3 : Int)] 52)) := (Below.refl _ w4).alloc (Nat.le_refl _) _
      have hrow : ∀ g, (Value.slice A n c).ownBlock = some g → w.heap.size ≤ g := row_ge HO4.out
      have hI9 : Inv w9 σ3 := HE.out.on _ _ _ (HE.out.on _ _ _ HI4.out (Turn.of hba)) (Turn.grown HG9.out fun g hg => .inl (Nat.le_trans HB.out (hrow g hg)))
      have hT9 : Turn F w w9 := ((HT.out.trans_ HT4.out).trans_ (Turn.of hba)).late_row HG9.out hrow
      have hO9 : OwnI w9 w.heap.size A9 c9 (acc ++ [jt]) := by
        have q := HO9.out
        unfold OwnI
        rw [itmsC_snoc, HCj.out, show (acc ++ [jt]).length = n + 1 by simp [Hn.out]]
        exact q
      have hl9 : n + 1 = (acc ++ [jt]).length := by simp [Hn.out]
      go_roundw
      case rel => exact ⟨A9, n + 1, c9, f, acc ++ [jt], σ3, rfl, hl9, hnL', Lib.hid hO9, Lib.hid hI9, Hf', HM1', HM2', Lib.hid hT9⟩
      case measure => show L.length - (n + 1) < L.length - n; omega
end Go.Proofs.YtcjoiiaankngjaaGreatDoor
/- list 108 of function 113. -/
namespace Go.Proofs.YtcjoiiaankngjaaGreatDoor
set_option maxRecDepth 100000
open Go.RowKit
set_option maxHeartbeats 4000000 in
theorem list_P {S : Type} {Inv : World → S → Prop} {F : Nat → Prop} {B b bp bd : Nat} {el : S → Itm × S} {tk : S → Bool × S} {ex : S → S} {len : S → Nat} (E : LEnv S Inv F B b el tk ex len)
    (EL : ∀ W σ, Inv W σ → Calls Tryz.prog 113 #[.pointer (some ⟨bp, 0, none⟩), .pointer (some ⟨bd, 0, none⟩)] W fun en W' => en = .returned (itmV (el σ).1) ∧ Inv W' (el σ).2 ∧ Turn F W W')
    {w : World} (hB : B ≤ w.heap.size) {σ : S} (h : Inv w σ) : Calls Tryz.prog 108 #[.pointer (some ⟨b, 0, none⟩), .func (.func 113) #[] #[.pointer (some ⟨bp, 0, none⟩), .pointer (some ⟨bd, 0, none⟩)]] w (ListOut Inv F w (pList el tk ex len σ)) := by
  unfold ListOut
  obtain ⟨i0, hi, hz0, hz1, hz2⟩ := info_parts info52
  obtain ⟨it, hit⟩ : ∃ i, (el σ).1 = i := ⟨_, rfl⟩
  obtain ⟨σ1, h1⟩ : ∃ i, (el σ).2 = i := ⟨_, rfl⟩
  obtain ⟨r, hr⟩ : ∃ r, r = pMore el tk (len σ1 + 1) σ1 := ⟨_, rfl⟩
  have hres : pList el tk ex len σ = (it :: r.1, ex r.2) := by unfold pList; rw [h1, hit, hr]
  rw [hres]
  dsimp only
  have hrl : (it :: r.1).length ≤ 8589934593 := by
    have a1 := pMore_len el tk len E.less E.le (len σ1 + 1) σ1
    have a2 := E.bound w σ h
    have a3 := E.le σ
    rw [h1] at a3
    rw [← hr] at a1
    simp
    omega
  obtain ⟨L, hL⟩ : ∃ L, it :: r.1 = L := ⟨_, rfl⟩
  rw [hL] at hrl
  rw [hL]
  have EL1 := Lib.hid (EL w σ h)
  rw [hit, h1] at EL1
  unfold itmV at EL1
  obtain ⟨σ9, h9⟩ : ∃ s, ex r.2 = s := ⟨_, rfl⟩
  have CE := Lib.hid (fun (W : World) (h : Inv W r.2) => E.cE W r.2 h)
  rw [h9] at CE
  rw [h9]
  have HL := Lib.hid hL
  have HR := Lib.hid hr
  have HB := Lib.hid hB
  obtain ⟨y0, hy0⟩ : ∃ y, str it.tx = y := ⟨_, rfl⟩
  obtain ⟨y1, hy1⟩ : ∃ y, it.gl = y := ⟨_, rfl⟩
  obtain ⟨y2, hy2⟩ : ∃ y, str it.pl = y := ⟨_, rfl⟩
  obtain ⟨y3, hy3⟩ : ∃ y : Nat, it.ln = y := ⟨_, rfl⟩
  have HC := Lib.hid (show itmC it = [.string y0, .bool y1, .string y2, .int .i64 (y3 : Int)] by unfold itmC; rw [hy0, hy1, hy2, hy3])
  rw [hy0, hy1, hy2, hy3] at EL1
  have HE := Lib.hid E
  have HEL := Lib.hid EL
  clear hy0 hy1 hy2 hy3 h9 hL hres hr h1 hit h hB E EL
  go_enter Tryz.func108, Tryz.ntmps108
  go_upto_region 2 with (first
    | (go_at_call 113; ((with_reducible refine EL1.out.mono ?_); rintro en w1 ⟨rfl, hI1, hT1⟩))
    | (fail "arm"))
  obtain ⟨w2, hw2⟩ : ∃ w2, w1.alloc (.cells #[.string y0, .bool y1, .string y2, .int .i64 (y3 : Int)] 52) = w2 := ⟨_, rfl⟩
  have hO2 : OwnI w2 w.heap.size (some ⟨w1.heap.size, 0, none⟩) 1 [it] := by
    have := OwnI.one w1 w.heap.size hT1.size it
    rw [HC.out, hw2] at this
    exact this
  have hb2 : Below w1.heap.size w1 w2 := by rw [← hw2]; exact (Below.refl _ w1).alloc (Nat.le_refl _) _
  have hI2 : Inv w2 σ1 := HE.out.on w1 w2 σ1 hI1 (Turn.of hb2)
  have hT2 : Turn F w w2 := hT1.trans_ (Turn.of hb2)
  obtain ⟨g, hg⟩ : ∃ g, w1.heap.size = g := ⟨_, rfl⟩
  rw [hg] at hO2
  rw [hw2, hg]
  have HO2 := Lib.hid hO2
  have HI2 := Lib.hid hI2
  have HT2 := Lib.hid hT2
  clear hw2 hg hO2 hb2 hI2 hT2 hI1 hT1 EL1
  go_loopw [5] (fun v5 wr => ∃ (A : Option Addr) (n c f : Nat) (acc : List Itm) (σ' : S), v5 = .slice A n c ∧ n = acc.length ∧ n ≤ L.length ∧ Hid (OwnI wr w.heap.size A c acc) ∧ Hid (Inv wr σ') ∧ Hid (len σ' < f) ∧ Hid (acc ++ (pMore el tk f σ').1 = L) ∧ Hid ((pMore el tk f σ').2 = r.2) ∧ Hid (Turn F w wr)) (fun v5 _ => match v5 with | .slice _ n _ => L.length - n | _ => 0)
  case atStart => exact ⟨some ⟨g, 0, none⟩, 1, 1, len σ1 + 1, [it], σ1, rfl, rfl, by rw [← HL.out]; simp, HO2, HI2, Lib.hid (Nat.lt_succ_self _), Lib.hid (by rw [← HL.out, HR.out]; rfl), Lib.hid (by rw [HR.out]), HT2⟩
  case round =>
    obtain ⟨A, n, c, f, acc, σ', rfl, hn, hnL, HO, HI, Hf, HM1, HM2, HT⟩ := hrel
    obtain ⟨f, rfl⟩ : ∃ k, f = k + 1 := ⟨f - 1, by have := Hf.out; omega⟩
    have CT := Lib.hid (HE.out.cT wr σ' HI.out)
    obtain ⟨σ2, h2⟩ : ∃ s, (tk σ').2 = s := ⟨_, rfl⟩
    cases ht : (tk σ').1 with
    | false =>
      rw [ht, h2] at CT
      have m1 := HM1.out
      have m2 := HM2.out
      rw [pMore, if_neg (by rw [ht]; decide)] at m1 m2
      dsimp only at m1 m2
      rw [List.append_nil] at m1
      rw [h2] at m2
      subst m2
      have HA := Lib.hid m1
      have Hn := Lib.hid hn
      clear m1 ht h2 hn HM1 HM2
      go_wp2_with (first
        | (go_at_call 74; ((with_reducible refine CT.out.mono ?_); rintro en w3 ⟨rfl, hI3, hT3⟩))
        | (go_at_call 103; ((with_reducible refine (CE.out w3 hI3).mono ?_); rintro en w4 ⟨rfl, hI4, hT4⟩))
        | (fail "arm"))
      all_goals
        go_ret
        have e := Hn.out
        have a := HA.out
        subst a
        subst e
        exact ⟨A, c, rfl, own_turn (own_turn HO.out hT3 (fun g e => Nat.lt_of_lt_of_le (HE.out.lt g e) HB.out)) hT4 (fun g e => Nat.lt_of_lt_of_le (HE.out.lt g e) HB.out), hI4, (HT.out.trans_ hT3).trans_ hT4⟩
    | true =>
      rw [ht, h2] at CT
      have hlt := HE.out.less σ' ht
      have hle := HE.out.le σ2
      rw [h2] at hlt
      have m1 := HM1.out
      have m2 := HM2.out
      rw [pMore, if_pos ht] at m1 m2
      dsimp only at m1 m2
      rw [h2] at m1 m2
      have EL2 := Lib.hid (fun (W : World) (h : Inv W σ2) => HEL.out W σ2 h)
      obtain ⟨jt, hjt⟩ : ∃ i, (el σ2).1 = i := ⟨_, rfl⟩
      obtain ⟨σ3, h3⟩ : ∃ i, (el σ2).2 = i := ⟨_, rfl⟩
      rw [hjt, h3] at EL2
      rw [h3] at hle
      rw [hjt, h3] at m1
      rw [h3] at m2
      unfold itmV at EL2
      obtain ⟨z0, hz0'⟩ : ∃ y, str jt.tx = y := ⟨_, rfl⟩
      obtain ⟨z1, hz1'⟩ : ∃ y, jt.gl = y := ⟨_, rfl⟩
      obtain ⟨z2, hz2'⟩ : ∃ y, str jt.pl = y := ⟨_, rfl⟩
      obtain ⟨z3, hz3'⟩ : ∃ y : Nat, jt.ln = y := ⟨_, rfl⟩
      have HCj := Lib.hid (show itmC jt = [.string z0, .bool z1, .string z2, .int .i64 (z3 : Int)] by unfold itmC; rw [hz0', hz1', hz2', hz3'])
      rw [hz0', hz1', hz2', hz3'] at EL2
      have Hf' := Lib.hid (show len σ3 < f by have := Hf.out; omega)
      have HM1' := Lib.hid (show (acc ++ [jt]) ++ (pMore el tk f σ3).1 = L by rw [List.append_assoc]; exact m1)
      have HM2' := Lib.hid m2
      have hnL' : n + 1 ≤ L.length := by rw [← m1, hn]; simp
      have Hn := Lib.hid hn
      have HCN := Lib.hid (fun (W : World) (g : Nat) (hg : W.heap.size = g) => show ∀ j u, [Value.string z0, .bool z1, .string z2, .int .i64 (z3 : Int)][j]? = some u → (W.alloc (.cells #[.string z0, .bool z1, .string z2, .int .i64 (z3 : Int)] 52)).cell? ((⟨g, 0, none⟩ : Addr).add j) = some u from fun j u hj => by
        subst hg
        obtain ⟨ad, e, _, hc⟩ := ((Full.new W 52 [.string z0, .bool z1, .string z2, .int .i64 (z3 : Int)]).row 4 1 rfl 1 (Nat.le_refl _)).2.2.2 j u hj
        injection e with e
        subst e
        exact hc)
      have HC1 := Lib.hid (show ∀ u ∈ [Value.string z0, .bool z1, .string z2, .int .i64 (z3 : Int)], u.oneCell' = true from by
        intro u hu
        simp at hu
        rcases hu with rfl | rfl | rfl | rfl <;> rfl)
      have HOn := Lib.hid (show ∀ W, Turn F wr W → W.ownsRow w.heap.size 52 4 (.slice A n c) n (itmsC acc) from fun W hT => by
        have q := HO.out
        unfold OwnI at q
        rw [← Hn.out] at q
        exact own_turn q hT (fun g e => Nat.lt_of_lt_of_le (HE.out.lt g e) HB.out))
      clear m1 m2 hlt hle ht h2 hn hz0' hz1' hz2' hz3' hjt h3 HM1 HM2 Hf
      go_wp2_with (first
        | (go_at_call 74; ((with_reducible refine CT.out.mono ?_); rintro en w3 ⟨rfl, hI3, hT3⟩))
        | (go_at_call 113; ((with_reducible refine (EL2.out w3 hI3).mono ?_); rintro en w4 ⟨rfl, hI4, hT4⟩; (have hT34 := hT3.trans_ hT4); (have hs4 := (HT.out.trans_ hT34).size); (have HO4 := Lib.hid (HOn.out w4 hT34)); (have HI4 := Lib.hid hI4); (have HT4 := Lib.hid hT34); clear hI3 hT3 hI4 hT4 hT34))
        | (at_builtin; go_loud (refine wpList_append_own _ rfl _ _ 25 rfl w.heap.size 52 i0 (.agg #[.string ⟨#[]⟩, .bool false, .string ⟨#[]⟩, .int .i64 0]) 4 48 Tryz.underlying25 hi hz0 hz1 hz2 rfl (by decide) (.slice A n c) _ _ rfl (HO4.out.alloc _) ⟨w4.heap.size, 0, none⟩ 1 1 [.string z0, .bool z1, .string z2, .int .i64 (z3 : Int)] rfl rfl (HCN.out w4 w4.heap.size rfl) HC1.out (by unfold maxLen; omega) (by omega) (by simp; omega) ?_; intro v' w9 hown9 hgrow9 hnil9; (have HO9 := Lib.hid hown9); (have HG9 := Lib.hid hgrow9); clear hown9 hgrow9 hnil9))
        | (fail "arm"))
      obtain ⟨A9, c9, rfl⟩ := own_form HO9.out
      have hba : Below w4.heap.size w4 (w4.alloc (.cells #[.string z0, .bool z1, .string z2, .int .i64 (z3 : Int)] 52)) := (Below.refl _ w4).alloc (Nat.le_refl _) _
      have hrow : ∀ g, (Value.slice A n c).ownBlock = some g → w.heap.size ≤ g := row_ge HO4.out
      have hI9 : Inv w9 σ3 := HE.out.on _ _ _ (HE.out.on _ _ _ HI4.out (Turn.of hba)) (Turn.grown HG9.out fun g hg => .inl (Nat.le_trans HB.out (hrow g hg)))
      have hT9 : Turn F w w9 := ((HT.out.trans_ HT4.out).trans_ (Turn.of hba)).late_row HG9.out hrow
      have hO9 : OwnI w9 w.heap.size A9 c9 (acc ++ [jt]) := by
        have q := HO9.out
        unfold OwnI
        rw [itmsC_snoc, HCj.out, show (acc ++ [jt]).length = n + 1 by simp [Hn.out]]
        exact q
      have hl9 : n + 1 = (acc ++ [jt]).length := by simp [Hn.out]
      go_roundw
      case rel => exact ⟨A9, n + 1, c9, f, acc ++ [jt], σ3, rfl, hl9, hnL', Lib.hid hO9, Lib.hid hI9, Hf', HM1', HM2', Lib.hid hT9⟩
      case measure => show L.length - (n + 1) < L.length - n; omega
end Go.Proofs.YtcjoiiaankngjaaGreatDoor
/- How many tokens are left; lists of texts and of sources; the token ahead is taken. -/
namespace Go.Proofs.YtcjoiiaankngjaaGreatDoor
set_option maxRecDepth 100000
open Go.RowKit
def plen : Pst → Nat
  | .ok ts => ts.length
  | .bad _ _ => 0
theorem toks_len : ∀ (f : Nat) (s : List UInt8) (n : Nat), (toksF f s n).length ≤ f
  | 0, s, n => by simp [toksF]
  | f + 1, s, n => by
    rw [toksF]
    split
    · simp
    · have := toks_len f (next s n).2.1 (next s n).2.2
      simp
      exact this
theorem PS.plen_le {w : World} {b : Nat} {σ : Pst} {R : List Value} (h : PS w b σ R) : plen σ ≤ 4294967002 := by
  obtain ⟨s, n, c, tx, tl, e, el, _, hs, hC⟩ := h
  cases σ with
  | bad e' l' => simp [plen]
  | ok ts =>
    obtain ⟨_, t, _, _, _, _, hts⟩ := hC
    have := toks_len (s.data.toList.length + 1) s.data.toList n
    rw [data_len] at this
    unfold plen
    dsimp only
    rw [hts]
    split
    · simp
    · show (t :: toksF (s.data.toList.length + 1) s.data.toList n).length ≤ _
      rw [data_len] 
      simp only [List.length_cons]
      omega
theorem pTake_less (x : List UInt8) (σ : Pst) (h : (pTake x σ).1 = true) : plen (pTake x σ).2 < plen σ := by
  cases σ with
  | bad e l => simp [pTake] at h
  | ok ts =>
    cases ts with
    | nil => simp [pTake] at h
    | cons t r =>
      rw [show pTake x (.ok (t :: r)) = if t.txt = x then (true, .ok r) else (false, .ok (t :: r)) from rfl] at h ⊢
      by_cases e : t.txt = x
      · rw [if_pos e]; simp [plen]
      · rw [if_neg e] at h; cases h
theorem pTake_le (x : List UInt8) (σ : Pst) : plen (pTake x σ).2 ≤ plen σ := by
  cases σ with
  | bad e l => simp [pTake]
  | ok ts =>
    cases ts with
    | nil => simp [pTake]
    | cons t r =>
      rw [show pTake x (.ok (t :: r)) = if t.txt = x then (true, .ok r) else (false, .ok (t :: r)) from rfl]
      by_cases e : t.txt = x
      · rw [if_pos e]; simp [plen]
      · rw [if_neg e]; simp [plen]
theorem pRefuse_le (σ : Pst) : plen (pRefuse σ) ≤ plen σ := by
  cases σ with
  | bad e l => simp [pRefuse]
  | ok ts => cases ts <;> simp [pRefuse, plen]
theorem pFail_le (l c : Int) (σ : Pst) : plen (pFail l c σ) ≤ plen σ := by cases σ <;> simp [pFail, plen]
theorem pExpect_le (x : List UInt8) (σ : Pst) : plen (pExpect x σ) ≤ plen σ := by
  unfold pExpect
  have := pTake_le x σ
  split
  · exact this
  · exact Nat.le_trans (pRefuse_le _) this
theorem pAny_le (k : Nat) (σ : Pst) : plen (pAny k σ).2 ≤ plen σ := by
  cases σ with
  | bad e l => simp [pAny]
  | ok ts =>
    cases ts with
    | nil => simp [pAny, plen]
    | cons t r =>
      rw [show pAny k (.ok (t :: r)) = if t.cls = k then (t, .ok r) else (tok0, .bad 40 (t.ln : Int)) from rfl]
      by_cases e : t.cls = k
      · rw [if_pos e]; simp [plen]
      · rw [if_neg e]; simp [plen]
theorem pText_le (σ : Pst) : plen (pText σ).2 ≤ plen σ := pAny_le 4 σ
theorem pSource_le (σ : Pst) : plen (pSource σ).2 ≤ plen σ := by
  unfold pSource
  have h1 := pTake_le globS σ
  split
  · exact Nat.le_trans (pExpect_le _ _) (Nat.le_trans (pText_le _) (Nat.le_trans (pExpect_le _ _) h1))
  · exact Nat.le_trans (pText_le _) h1
/-- a list of elements that leave the parser's other cells alone -/
theorem env_ps {b B : Nat} (hb : b < B) (R : List Value) (el : Pst → Itm × Pst) (hel : ∀ σ, plen (el σ).2 ≤ plen σ) :
    LEnv Pst (fun W σ => PS W b σ R) (fun g => g = b) B b el (pTake [44]) (pExpect [59]) plen where
  lt := fun g e => by omega
  on := fun W W' σ h ht => h.farT ht (by omega)
  cT := fun W σ h => take_any h [44] (by decide)
  cE := fun W σ h => expect_any h [59] (by decide)
  bound := fun W σ h => by have := h.plen_le; omega
  less := fun σ h => pTake_less [44] σ h
  le := hel
def pTexts (σ : Pst) : List Itm × Pst := pList pText (pTake [44]) (pExpect [59]) plen σ
def pSources (σ : Pst) : List Itm × Pst := pList pSource (pTake [44]) (pExpect [59]) plen σ
theorem texts_any {w : World} {b : Nat} {σ : Pst} {R : List Value} (h : PS w b σ R) : Calls Tryz.prog 108 #[.pointer (some ⟨b, 0, none⟩), .func (.func 107) #[.pointer (some ⟨b, 0, none⟩)] #[]] w (ListOut (fun W σ => PS W b σ R) (fun g => g = b) w (pTexts σ)) :=
  list_T (env_ps h.lt R pText pText_le) (fun _W _σ h => text_any h) (Nat.le_refl _) h
theorem sources_any {w : World} {b : Nat} {σ : Pst} {R : List Value} (h : PS w b σ R) : Calls Tryz.prog 108 #[.pointer (some ⟨b, 0, none⟩), .func (.func 106) #[.pointer (some ⟨b, 0, none⟩)] #[]] w (ListOut (fun W σ => PS W b σ R) (fun g => g = b) w (pSources σ)) :=
  list_S (env_ps h.lt R pSource pSource_le) (fun _W _σ h => source_any h) (Nat.le_refl _) h
/-- the token ahead is taken -/
theorem adv_any {w : World} {b : Nat} {t : Tok} {r : List Tok} {R : List Value} (h : PS w b (.ok (t :: r)) R) (ht : 2 ≤ t.cls) : Calls Tryz.prog 112 #[.pointer (some ⟨b, 0, none⟩)] w fun en w' => en = .returned (tokV t) ∧ PS w' b (.ok r) R ∧ Turn (fun g => g = b) w w' := by
  obtain ⟨s, n, c, tx, tl, e, el, hP, hs, hC⟩ := h
  obtain ⟨t', r', hts, hc, htx, htl, hok, hr, he⟩ := ok_cons hC
  injection hts with h1 h2
  subst h1 h2
  subst he
  refine (advance_pm hP hs.1 hs.2.1 (by omega)).mono ?_
  rintro en w' ⟨he, hP', hT⟩
  refine ⟨?_, ?_, hT⟩
  · rw [he, hc, htx, htl]; rfl
  · rw [hr ht]
    exact ps_next hs hP'
end Go.Proofs.YtcjoiiaankngjaaGreatDoor
/- limited: items that a platform may stand before. -/
namespace Go.Proofs.YtcjoiiaankngjaaGreatDoor
set_option maxRecDepth 100000
open Go.RowKit
theorem own_base {w : World} {base base' size n : Nat} {e : TypeId} {v : Value} {xs : List Value} (h : w.ownsRow base e size v n xs) (hb : base' ≤ base) : w.ownsRow base' e size v n xs := by
  refine ⟨h.1, h.2.imp id ?_⟩
  rintro ⟨g, cap, cur, e1, h1, h2⟩
  exact ⟨g, cap, cur, e1, Nat.le_trans hb h1, h2⟩
def setPl (p : List UInt8) (i : Itm) : Itm := { i with pl := p }
theorem itmC_len (i : Itm) : (itmC i).length = 4 := rfl
theorem itmsC_set (p : List UInt8) : ∀ (l : List Itm) (k : Nat) (h : k < l.length), (itmsC l).set (k * 4 + 2) (.string (str p)) = itmsC (l.set k (setPl p l[k]))
  | [], k, h => by simp at h
  | x :: t, 0, _ => rfl
  | x :: t, k + 1, h => by
    have ih := itmsC_set p t k (by simpa using h)
    show ((itmC x ++ itmsC t).set ((k + 1) * 4 + 2) _) = itmC x ++ itmsC (t.set k (setPl p (t[k]'(by simpa using h))))
    rw [← ih, List.set_append_right _ _ (by rw [itmC_len]; omega), itmC_len]
    congr 2
    omega
/-- the first k items have got the platform -/
def part (p : List UInt8) (l : List Itm) (k : Nat) : List Itm := (l.take k).map (setPl p) ++ l.drop k
theorem part_len (p : List UInt8) (l : List Itm) (k : Nat) (h : k ≤ l.length) : (part p l k).length = l.length := by unfold part; simp; omega
theorem part_zero (p : List UInt8) (l : List Itm) : part p l 0 = l := by simp [part]
theorem part_all (p : List UInt8) (l : List Itm) : part p l l.length = l.map (setPl p) := by simp [part]
theorem part_succ (p : List UInt8) (l : List Itm) (k : Nat) (h : k < l.length) : (part p l k).set k (setPl p ((part p l k)[k]'(by rw [part_len p l k (by omega)]; exact h))) = part p l (k + 1) := by
  apply List.ext_getElem
  · rw [List.length_set, part_len p l k (by omega), part_len p l (k + 1) (by omega)]
  · intro i h1 h2
    rw [List.getElem_set]
    have hi : i < l.length := by rw [List.length_set, part_len p l k (by omega)] at h1; exact h1
    have at_ : ∀ (m : Nat) (hm : m ≤ l.length) (hx : i < (part p l m).length), (part p l m)[i] = if i < m then setPl p l[i] else l[i] := by
      intro m hm hx
      simp only [part]
      rw [List.getElem_append]
      split
      · rename_i hh
        simp at hh
        rw [if_pos (by omega)]
        simp
      · rename_i hh
        simp at hh
        rw [if_neg (by omega)]
        simp [Nat.min_eq_left hm]
        congr 1
        omega
    rw [at_ (k + 1) (by omega)]
    by_cases e : k = i
    · subst e
      rw [if_pos rfl, if_pos (by omega)]
      congr 1
      have := at_ k (by omega) (by rw [part_len p l k (by omega)]; exact h)
      rw [this, if_neg (by omega)]
    · rw [if_neg e, at_ k (by omega)]
      by_cases q : i < k
      · rw [if_pos q, if_pos (by omega)]
      · rw [if_neg q, if_neg (by omega)]
def pPlat : Pst → List UInt8 × Pst
  | .ok (t :: r) => if pAheadP (.ok (t :: r)) then (t.txt, .ok r) else ([], .ok (t :: r))
  | σ => ([], σ)
def pLimited (ls : Pst → List Itm × Pst) (σ : Pst) : List Itm × Pst := ((ls (pPlat σ).2).1.map (setPl (pPlat σ).1), (ls (pPlat σ).2).2)
set_option maxHeartbeats 4000000 in
theorem limited_any {w : World} {b : Nat} {σ : Pst} {R : List Value} (h : PS w b σ R) (V : Value) (ls : Pst → List Itm × Pst) (hls : (ls (pPlat σ).2).1.length ≤ 17179869184)
    (LS : ∀ W σ, PS W b σ R → Calls Tryz.prog 108 #[.pointer (some ⟨b, 0, none⟩), V] W (ListOut (fun W σ => PS W b σ R) (fun g => g = b) W (ls σ))) :
    Calls Tryz.prog 105 #[.pointer (some ⟨b, 0, none⟩), V] w (ListOut (fun W σ => PS W b σ R) (fun g => g = b) w (pLimited ls σ)) := by
  unfold ListOut pLimited
  have hl := hls
  obtain ⟨p, hp⟩ : ∃ p, (pPlat σ).1 = p := ⟨_, rfl⟩
  obtain ⟨σ1, h1⟩ : ∃ p, (pPlat σ).2 = p := ⟨_, rfl⟩
  rw [h1] at hl
  have LS1 := Lib.hid (fun (W : World) (h : PS W b σ1 R) => LS W σ1 h)
  unfold ListOut at LS1
  rw [hp, h1]
  obtain ⟨l, hl1⟩ : ∃ l, (ls σ1).1 = l := ⟨_, rfl⟩
  obtain ⟨σ2, h2⟩ : ∃ l, (ls σ1).2 = l := ⟨_, rfl⟩
  rw [hl1, h2] at LS1
  rw [hl1] at hl
  rw [hl1, h2]
  dsimp only
  rw [List.length_map]
  obtain ⟨n, hn⟩ : ∃ n, l.length = n := ⟨_, rfl⟩
  rw [hn] at LS1 hl
  rw [hn]
  obtain ⟨x, hx⟩ : ∃ x, str p = x := ⟨_, rfl⟩
  have AH := Lib.hid (ahead_any h)
  obtain ⟨a, ha⟩ : ∃ a, pAheadP σ = a := ⟨_, rfl⟩
  rw [ha] at AH
  have HPS := Lib.hid h
  have Hn := Lib.hid hn
  have Hx := Lib.hid hx
  -- behind the platform
  have REST : ∀ (W : World), PS W b σ1 R → Turn (fun g => g = b) w W → True := fun _ _ _ => trivial
  clear REST
  have AD := Lib.hid (show a = true → ∃ (c l : Nat), Calls Tryz.prog 112 #[.pointer (some ⟨b, 0, none⟩)] w fun en w' => en = .returned (.agg #[.int .i64 (c : Int), .string x, .int .i64 (l : Int)]) ∧ PS w' b σ1 R ∧ Turn (fun g => g = b) w w' from fun hat => by
    rw [hat] at ha
    cases σ with
    | bad e l => simp [pAheadP] at ha
    | ok ts =>
      cases ts with
      | nil => simp [pAheadP] at ha
      | cons t r =>
        have e1 : pPlat (.ok (t :: r)) = (t.txt, .ok r) := by show (if _ then _ else _) = _; rw [if_pos ha]
        rw [e1] at hp h1
        have ht : t.cls = 2 := by
          unfold pAheadP at ha
          simp at ha
          exact ha.1
        refine ⟨t.cls, t.ln, ?_⟩
        rw [← hx, ← hp, ← h1]
        exact adv_any h (by omega))
  have NO := Lib.hid (show a = false → p = [] ∧ σ1 = σ from fun haf => by
    rw [haf] at ha
    cases σ with
    | bad e l => exact ⟨hp.symm, h1.symm⟩
    | ok ts =>
      cases ts with
      | nil => exact ⟨hp.symm, h1.symm⟩
      | cons t r =>
        have e1 : pPlat (.ok (t :: r)) = ([], .ok (t :: r)) := by show (if _ then _ else _) = _; rw [if_neg (by rw [ha]; decide)]
        rw [e1] at hp h1
        exact ⟨hp.symm, h1.symm⟩)
  clear hp h1 hl1 h2 hls LS ha h
  cases a with
  | true =>
    obtain ⟨c0, l0, AE⟩ := AD.out rfl
    have AE := Lib.hid AE
    clear AD NO
    have FD : ∀ W, (Instr.field 91 (.agg #[.int .i64 (c0 : Int), .string x, .int .i64 (l0 : Int)]) 1).run Tryz.prog W = .ok (.string x) W := fun W => by kernel_rfl
    have FD := Lib.hid FD
    clear hx hn
    go_enter Tryz.func105, Tryz.ntmps105
    go_upto_region 6 with (first
      | (go_at_call 114; ((with_reducible refine AH.out.mono ?_); rintro en w1 ⟨rfl, rfl⟩))
      | (go_at_call 112; ((with_reducible refine AE.out.mono ?_); rintro en w2 ⟨rfl, hP2, hT2⟩; (have hfd := FD.out w2)))
      | (go_at_call 108; ((with_reducible refine (LS1.out w2 hP2).mono ?_); rintro en w3 ⟨A, c, rfl, hO3, hP3, hT3⟩))
      | (fail "arm"))
    have hO0 : w3.ownsRow w1.heap.size 52 4 (.slice A n c) n (itmsC (part p l 0)) := by
      have q := own_base hO3 hT2.size
      rw [Hn.out] at q
      rw [part_zero]
      exact q
    have HO0 := Lib.hid hO0
    have HP3 := Lib.hid hP3
    have HT3 := Lib.hid (hT2.trans_ hT3)
    clear hO0 hO3 hP3 hT3 hP2 hT2
    have hbw : b < w1.heap.size := HPS.out.lt
    go_loopw [7, 18] (fun v7 v18 wr => ∃ (k : Nat), v18 = .int .i64 (k : Int) ∧ k ≤ n ∧ Hid (wr.ownsRow w1.heap.size 52 4 (.slice A n c) n (itmsC (part p l k))) ∧ Hid (PS wr b σ2 R) ∧ Hid (Turn (fun g => g = b) w1 wr)) (fun v7 v18 _ => match v18 with | .int _ k => n - k.toNat | _ => 0)
    case atStart => exact ⟨0, rfl, Nat.zero_le _, HO0, HP3, HT3⟩
    case round =>
      obtain ⟨k, rfl, hk, HO, HP, HT⟩ := hrel
      by_cases hkn : k < n
      · have hd : decide ((k : Int) < (n : Int)) = true := by simp; omega
        have hg0 := own_some HO.out (by omega)
        obtain ⟨g, c', hv, hgl, hnc, hcm⟩ := hg0
        injection hv with e1 _ e3
        subst e1
        subst e3
        obtain ⟨z1, z2⟩ := own_cell (q := k * 4 + 2) HO.out (by omega)
        have hx2 : ∃ u, (itmsC (part p l k))[k * 4 + 2]? = some u := by
          have hlen : (itmsC (part p l k)).length = n * 4 := by
            have := HO.out.1
            exact this
          exact ⟨_, List.getElem?_eq_getElem (by omega)⟩
        obtain ⟨u, hu⟩ := hx2
        rw [hu] at z1
        have hgb : g ≠ b := by
          have := row_ge HO.out g rfl
          omega
        have hT2 : Turn (fun g => g = b) w1 (wr.setCell ⟨g, k * 4 + 2, none⟩ (.string x)) := by
          have hgw := row_ge HO.out g rfl
          exact HT.out.late (Turn.set_ (F := fun y => y = g) (a := ⟨g, k * 4 + 2, none⟩) rfl _) (fun y e => .inr (by omega))
        have hP2 : PS (wr.setCell ⟨g, k * 4 + 2, none⟩ (.string x)) b σ2 R := HP.out.far (Ne.symm hgb) _
        have hO2 : (wr.setCell ⟨g, k * 4 + 2, none⟩ (.string x)).ownsRow w1.heap.size 52 4 (.slice (some ⟨g, 0, none⟩) n c) n (itmsC (part p l (k + 1))) := by
          have q := own_set HO.out (k * 4 + 2) (.string x)
          rw [← Hx.out] at q ⊢
          rw [itmsC_set p _ k (by rw [part_len p l k (by have := Hn.out; omega)]; have := Hn.out; omega), part_succ p l k (by have := Hn.out; omega)] at q
          exact q
        have HO2 := Lib.hid hO2
        have HP2 := Lib.hid hP2
        have HT2 := Lib.hid hT2
        clear hO2 hP2 hT2 hu hgb hbw
        go_wp2
        go_roundw
        case rel => exact ⟨k + 1, by simp, hkn, HO2, HP2, HT2⟩
        case measure => show n - ((k : Int) + 1).toNat < n - (k : Int).toNat; omega
      · obtain rfl : k = n := by omega
        have hd : decide ((k : Int) < (k : Int)) = false := by simp
        have HF := Lib.hid (show OwnI wr w1.heap.size A c (l.map (setPl p)) from by
          have q := HO.out
          have e := Hn.out
          unfold OwnI
          rw [← e, part_all] at q
          rw [List.length_map, e]
          rw [← e]
          exact q)
        go_wp2
        go_ret
        exact ⟨A, c, rfl, HF.out, HP.out, HT.out⟩
  | false =>
    obtain ⟨rfl, rfl⟩ := NO.out rfl
    obtain rfl : x = ⟨#[]⟩ := by rw [← hx]; rfl
    clear hx hn
    go_enter Tryz.func105, Tryz.ntmps105
    go_upto_region 6 with (first
      | (go_at_call 114; ((with_reducible refine AH.out.mono ?_); rintro en w1 ⟨rfl, rfl⟩))
      | (go_at_call 108; ((with_reducible refine (LS1.out w1 HPS.out).mono ?_); rintro en w3 ⟨A, c, rfl, hO3, hP3, hT3⟩))
      | (fail "arm"))
    have hO0 : w3.ownsRow w1.heap.size 52 4 (.slice A n c) n (itmsC (part [] l 0)) := by
      have q := hO3
      unfold OwnI at q
      rw [Hn.out] at q
      rw [part_zero]
      exact q
    have HO0 := Lib.hid hO0
    have HP3 := Lib.hid hP3
    have HT3 := Lib.hid hT3
    clear hO0 hO3 hP3 hT3
    have hbw : b < w1.heap.size := HPS.out.lt
    go_loopw [7, 18] (fun v7 v18 wr => ∃ (k : Nat), v18 = .int .i64 (k : Int) ∧ k ≤ n ∧ Hid (wr.ownsRow w1.heap.size 52 4 (.slice A n c) n (itmsC (part [] l k))) ∧ Hid (PS wr b σ2 R) ∧ Hid (Turn (fun g => g = b) w1 wr)) (fun v7 v18 _ => match v18 with | .int _ k => n - k.toNat | _ => 0)
    case atStart => exact ⟨0, rfl, Nat.zero_le _, HO0, HP3, HT3⟩
    case round =>
      obtain ⟨k, rfl, hk, HO, HP, HT⟩ := hrel
      by_cases hkn : k < n
      · have hd : decide ((k : Int) < (n : Int)) = true := by simp; omega
        have hg0 := own_some HO.out (by omega)
        obtain ⟨g, c', hv, hgl, hnc, hcm⟩ := hg0
        injection hv with e1 _ e3
        subst e1
        subst e3
        obtain ⟨z1, z2⟩ := own_cell (q := k * 4 + 2) HO.out (by omega)
        have hx2 : ∃ u, (itmsC (part [] l k))[k * 4 + 2]? = some u := by
          have hlen : (itmsC (part [] l k)).length = n * 4 := by
            have := HO.out.1
            exact this
          exact ⟨_, List.getElem?_eq_getElem (by omega)⟩
        obtain ⟨u, hu⟩ := hx2
        rw [hu] at z1
        have hgb : g ≠ b := by
          have := row_ge HO.out g rfl
          omega
        have hT2 : Turn (fun g => g = b) w1 (wr.setCell ⟨g, k * 4 + 2, none⟩ (.string ⟨#[]⟩)) := by
          have hgw := row_ge HO.out g rfl
          exact HT.out.late (Turn.set_ (F := fun y => y = g) (a := ⟨g, k * 4 + 2, none⟩) rfl _) (fun y e => .inr (by omega))
        have hP2 : PS (wr.setCell ⟨g, k * 4 + 2, none⟩ (.string ⟨#[]⟩)) b σ2 R := HP.out.far (Ne.symm hgb) _
        have hO2 : (wr.setCell ⟨g, k * 4 + 2, none⟩ (.string ⟨#[]⟩)).ownsRow w1.heap.size 52 4 (.slice (some ⟨g, 0, none⟩) n c) n (itmsC (part [] l (k + 1))) := by
          have q := own_set HO.out (k * 4 + 2) (.string ⟨#[]⟩)
          rw [show (⟨#[]⟩ : ByteArray) = str [] from rfl] at q ⊢
          rw [itmsC_set [] _ k (by rw [part_len [] l k (by have := Hn.out; omega)]; have := Hn.out; omega), part_succ [] l k (by have := Hn.out; omega)] at q
          exact q
        have HO2 := Lib.hid hO2
        have HP2 := Lib.hid hP2
        have HT2 := Lib.hid hT2
        clear hO2 hP2 hT2 hu hgb hbw
        go_wp2
        go_roundw
        case rel => exact ⟨k + 1, by simp, hkn, HO2, HP2, HT2⟩
        case measure => show n - ((k : Int) + 1).toNat < n - (k : Int).toNat; omega
      · obtain rfl : k = n := by omega
        have hd : decide ((k : Int) < (k : Int)) = false := by simp
        have HF := Lib.hid (show OwnI wr w1.heap.size A c (l.map (setPl [])) from by
          have q := HO.out
          have e := Hn.out
          unfold OwnI
          rw [← e, part_all] at q
          rw [List.length_map, e]
          rw [← e]
          exact q)
        go_wp2
        go_ret
        exact ⟨A, c, rfl, HF.out, HP.out, HT.out⟩
end Go.Proofs.YtcjoiiaankngjaaGreatDoor
/- The target that is parsed: its cells and rows, and what was had. -/
namespace Go.Proofs.YtcjoiiaankngjaaGreatDoor
set_option maxRecDepth 100000
open Go.RowKit
structure Tgt where
  name : List UInt8
  kind : Int
  line : Nat
  rows : Nat → List Itm
  cost : Int
  retry : Int
  rl : Nat
  had : Kn
/-- the parser's cells from 7 on: attributes a, names m, the target with the rows vs, had h, the retry's line -/
def tR (a m h : Nat) (T : Tgt) (vs : Nat → Value) : List Value :=
  [.map (some a), .map (some m), .string (str T.name), .int .i64 T.kind, .int .i64 (T.line : Int), vs 0, vs 1, vs 2, vs 3, .int .i64 T.cost, .int .i64 T.retry, .map (some h), .int .i64 (T.rl : Int)]
/-- rows of items of one's own, apart from each other, in blocks from base on -/
structure Rows4 (w : World) (base : Nat) (ls : Nat → List Itm) (vs : Nat → Value) : Prop where
  own : ∀ i, i < 4 → w.ownsRow base 52 4 (vs i) (ls i).length (itmsC (ls i))
  apart : ∀ i j, i < 4 → j < 4 → i ≠ j → ∀ g, (vs i).ownBlock = some g → (vs j).ownBlock ≠ some g
theorem Rows4.turn {F : Nat → Prop} {w w' : World} {base : Nat} {ls : Nat → List Itm} {vs : Nat → Value} (h : Rows4 w base ls vs) (ht : Turn F w w') (hF : ∀ g, F g → g < base) : Rows4 w' base ls vs :=
  ⟨fun i hi => own_turn (h.own i hi) ht hF, h.apart⟩
/-- a turn of blocks that are no row of these -/
theorem own_far {w w' : World} {base : Nat} {e : TypeId} {size n : Nat} {v : Value} {xs : List Value} {row : Option Nat} (h : w.ownsRow base e size v n xs) (hg : w.grownBy w' row) (hr : ∀ g, v.ownBlock = some g → row ≠ some g) : w'.ownsRow base e size v n xs := by
  obtain ⟨h1, h2⟩ := h
  refine ⟨h1, h2.imp id ?_⟩
  rintro ⟨g, cap, cur, rfl, hb, hg', r⟩
  exact ⟨g, cap, cur, rfl, hb, (hg.block g (Array.getElem?_eq_some_iff.1 hg').1 (fun e => hr g rfl e.symm)).trans hg', r⟩
def upd {α : Type} (f : Nat → α) (i : Nat) (x : α) : Nat → α := fun j => if j = i then x else f j
/-- a row has grown -/
theorem Rows4.grow {w w' : World} {base : Nat} {ls : Nat → List Itm} {vs : Nat → Value} (h : Rows4 w base ls vs) (i : Nat) (hi : i < 4) {v' : Value} {l' : List Itm} (ho : w'.ownsRow base 52 4 v' l'.length (itmsC l')) (hg : w.grownBy w' (vs i).ownBlock)
    (hat : ∀ g, v'.ownBlock = some g → (vs i).ownBlock = some g ∨ w.heap.size ≤ g) : Rows4 w' base (upd ls i l') (upd vs i v') := by
  have hlt : ∀ j, j < 4 → ∀ g, (vs j).ownBlock = some g → g < w.heap.size := fun j hj g e => ((h.own j hj).lt g e).2
  refine ⟨fun j hj => ?_, fun j k hj hk hne g => ?_⟩
  · unfold upd
    by_cases e : j = i
    · rw [if_pos e, if_pos e]; exact ho
    · rw [if_neg e, if_neg e]
      exact own_far (h.own j hj) hg (fun g e' => h.apart j i hj hi e g e')
  · unfold upd
    by_cases e : j = i
    · rw [if_pos e, if_neg (fun e' => hne (e.trans e'.symm))]
      intro q q'
      rcases hat g q with q2 | q2
      · exact h.apart i k hi hk (fun e' => hne (e.trans e')) g q2 q'
      · exact absurd (hlt k hk g q') (by omega)
    · rw [if_neg e]
      by_cases e2 : k = i
      · rw [if_pos e2]
        intro q q'
        rcases hat g q' with q2 | q2
        · exact h.apart j i hj hi e g q q2
        · exact absurd (hlt j hj g q) (by omega)
      · rw [if_neg e2]
        exact h.apart j k hj hk hne g
def XL : Nat := 8589934592
/-- the parser while a target is parsed; k: how many names more may be laid -/
structure TS (w : World) (b a m h base k : Nat) (σ : Pst) (T : Tgt) : Prop where
  ps : ∃ vs, PS w b σ (tR a m h T vs) ∧ Rows4 w base T.rows vs
  had : ∃ n, Names w h n T.had ∧ n + k + plen σ ≤ XL
  lens : ∀ i, i < 4 → (T.rows i).length + k + plen σ ≤ XL
  bb : b < base
  hb : h < base
  ne : h ≠ b
  sz : base ≤ w.heap.size
def FT (b h base : Nat) : Nat → Prop := fun g => g = b ∨ g = h ∨ base ≤ g
theorem Turn.ftb {w w' : World} {b h base : Nat} (t : Turn (fun g => g = b) w w') : Turn (FT b h base) w w' := t.mono fun _ e => .inl e
theorem Turn.fto {w w' : World} {b h base : Nat} (t : Turn (fun g => g = b ∨ g = h) w w') : Turn (FT b h base) w w' := t.mono fun _ e => e.imp id .inl
def TOut (w : World) (b a m h base k : Nat) (r : Pst × Tgt) (en : Ending) (w' : World) : Prop := en = .returned (.tuple #[]) ∧ TS w' b a m h base k r.1 r.2 ∧ Turn (FT b h base) w w'
/-- once in 'had' -/
def pHad (t : Tok) (r : Pst × Tgt) : Pst × Tgt := (pOnce r.2.had t r.1, { r.2 with had := kPut r.2.had t.txt })
theorem pOnce_le (K : Kn) (t : Tok) (σ : Pst) : plen (pOnce K t σ) ≤ plen σ := by
  unfold pOnce
  split
  · exact pFail_le _ _ _
  · exact Nat.le_refl _
theorem ts_cell {w : World} {b : Nat} {σ : Pst} {R : List Value} (h : PS w b σ R) (i : Nat) : w.cell? ⟨b, 7 + i, none⟩ = R[i]? ∧ w.frozen? ⟨b, 7 + i, none⟩ = false := by
  obtain ⟨s, n, c, tx, tl, e, el, hP, _⟩ := h
  refine ⟨?_, Full.frozen hP _⟩
  rw [Full.cell hP (7 + i), Nat.add_comm 7 i]
  rfl
theorem ps_set {w : World} {b : Nat} {σ : Pst} {R : List Value} (h : PS w b σ R) (i : Nat) (u : Value) : PS (w.setCell ⟨b, 7 + i, none⟩ u) b σ (R.set i u) := by
  obtain ⟨s, n, c, tx, tl, e, el, hP, r⟩ := h
  refine ⟨s, n, c, tx, tl, e, el, ?_, r⟩
  have q := Full.set_ hP (7 + i) u
  unfold Pm
  rw [Nat.add_comm 7 i] at q
  rw [Nat.add_comm 7 i]
  exact q
theorem had_any {w : World} {b a m h base k : Nat} {σ : Pst} {T : Tgt} (S : TS w b a m h base (k + 1) σ T) (t : Tok) (ht : t.txt.length ≤ 4294967000) :
    Calls Tryz.prog 102 #[.pointer (some ⟨b, 0, none⟩), .map (some h), tokV t] w (TOut w b a m h base k (pHad t (σ, T))) := by
  obtain ⟨⟨vs, hP, hR⟩, ⟨n, hN, hn⟩, hlen, hbb, hhb, hne, hsz⟩ := S
  refine (once_any hP hN hne (by unfold XL at hn; unfold maxLen; omega) t ht).mono ?_
  rintro en w' ⟨he, hP', hN', hT⟩
  refine ⟨he, ⟨⟨vs, hP', hR.turn hT (fun g e => by rcases e with rfl | rfl <;> assumption)⟩, ⟨n + 1, hN', ?_⟩, fun i hi => (by have := hlen i hi; have := pOnce_le T.had t σ; show (T.rows i).length + k + plen (pOnce T.had t σ) ≤ XL; omega), hbb, hhb, hne, Nat.le_trans hsz hT.size⟩, hT.fto⟩
  have := pOnce_le T.had t σ
  show n + 1 + k + plen (pOnce T.had t σ) ≤ XL
  omega
/-- a contract of the parser alone keeps the target -/
theorem TS.step {w w' : World} {b a m h base k : Nat} {σ σ' : Pst} {T : Tgt} (S : TS w b a m h base k σ T) (hT : Turn (fun g => g = b) w w') (hp : ∀ vs, PS w b σ (tR a m h T vs) → PS w' b σ' (tR a m h T vs)) (hl : plen σ' ≤ plen σ) : TS w' b a m h base k σ' T := by
  obtain ⟨⟨vs, hP, hR⟩, ⟨n, hN, hn⟩, hlen, hbb, hhb, hne, hsz⟩ := S
  exact ⟨⟨vs, hp vs hP, hR.turn hT (fun g e => by rw [e]; exact hbb)⟩, ⟨n, hN.far hT (fun e => hne e), by omega⟩, fun i hi => (by have := hlen i hi; omega), hbb, hhb, hne, Nat.le_trans hsz hT.size⟩
end Go.Proofs.YtcjoiiaankngjaaGreatDoor
/- cost, retry. -/
namespace Go.Proofs.YtcjoiiaankngjaaGreatDoor
set_option maxRecDepth 100000
open Go.RowKit
theorem TS.drew {w : World} {b a m h base k : Nat} {σ : Pst} {T : Tgt} (S : TS w b a m h base k σ T) : TS w.drew b a m h base k σ T :=
  ⟨S.ps.imp fun _vs q => ⟨q.1, ⟨q.2.own, q.2.apart⟩⟩, S.had, S.lens, S.bb, S.hb, S.ne, S.sz⟩
theorem TS.on {w w' : World} {b a m h base k : Nat} {σ : Pst} {T : Tgt} (S : TS w b a m h base k σ T) (hb : Below w.heap.size w w') : TS w' b a m h base k σ T :=
  S.step (Turn.of hb) (fun _vs q => q.on hb) (Nat.le_refl _)
theorem pNum_le (lo hi : Int) (σ : Pst) : plen (pNum lo hi σ).2 ≤ plen σ := by
  unfold pNum
  dsimp only
  split
  · exact pAny_le 3 σ
  · exact Nat.le_trans (pFail_le _ _ _) (pAny_le 3 σ)
def pCost (t : Tok) (r : Pst × Tgt) : Pst × Tgt :=
  (pExpect [59] (pNum 1 1000 (pHad t r).1).2, { (pHad t r).2 with cost := (pNum 1 1000 (pHad t r).1).1 })
/-- the cells of the target, written -/
theorem TS.put {w w' : World} {b a m h base k : Nat} {σ : Pst} {T T' : Tgt} (S : TS w b a m h base k σ T) (hT : Turn (fun g => g = b) w w') (hp : ∀ vs, PS w b σ (tR a m h T vs) → PS w' b σ (tR a m h T' vs)) (hr : T'.rows = T.rows) (hh : T'.had = T.had) : TS w' b a m h base k σ T' := by
  obtain ⟨⟨vs, hP, hR⟩, ⟨n, hN, hn⟩, hlen, hbb, hhb, hne, hsz⟩ := S
  refine ⟨⟨vs, hp vs hP, ?_⟩, ⟨n, ?_, hn⟩, by rw [hr]; exact hlen, hbb, hhb, hne, Nat.le_trans hsz hT.size⟩
  · rw [hr]; exact hR.turn hT (fun g e => by rw [e]; exact hbb)
  · rw [hh]; exact hN.far hT (fun e => hne e)
/-- a call of the parser alone, beside the target -/
theorem TS.call {b a m h base k : Nat} {σ σ' : Pst} {T : Tgt} {f : FuncId} {args : Array Value} {v : Value} (hl : plen σ' ≤ plen σ) {w : World} (S : TS w b a m h base k σ T)
    (C : ∀ R, PS w b σ R → Calls Tryz.prog f args w fun en w' => en = .returned v ∧ PS w' b σ' R ∧ Turn (fun g => g = b) w w') :
    Calls Tryz.prog f args w fun en w' => en = .returned v ∧ TS w' b a m h base k σ' T ∧ Turn (fun g => g = b) w w' := by
  obtain ⟨⟨vs, hP, hR⟩, ⟨n, hN, hn⟩, hlen, hbb, hhb, hne, hsz⟩ := S
  refine (C _ hP).mono ?_
  rintro en w' ⟨he, hP', hT⟩
  exact ⟨he, ⟨⟨vs, hP', hR.turn hT (fun g e => by rw [e]; exact hbb)⟩, ⟨n, hN.far hT (fun e => hne e), by omega⟩, fun i hi => (by have := hlen i hi; omega), hbb, hhb, hne, Nat.le_trans hsz hT.size⟩, hT⟩
theorem FT.lo {b h base : Nat} (hb : 9 ≤ b) (hh : 9 ≤ h) (hbb : b < base) : ∀ g, FT b h base g → 9 ≤ g := by
  rintro g (rfl | rfl | e)
  · exact hb
  · exact hh
  · omega
set_option maxHeartbeats 4000000 in
theorem cost_any {w : World} {b a m h base k : Nat} {σ : Pst} {T : Tgt} (S : TS w b a m h base (k + 1) σ T) (hL : Laid w) (hb9 : 9 ≤ b) (hh9 : 9 ≤ h) (t : Tok) (ht : t.txt.length ≤ 4294967000) :
    Calls Tryz.prog 71 #[.pointer (some ⟨b, 0, none⟩), tokV t] w (TOut w b a m h base k (pCost t (σ, T))) := by
  unfold TOut pCost
  obtain ⟨x, hx⟩ : ∃ x, str t.txt = x := ⟨_, rfl⟩
  obtain ⟨l, hl⟩ : ∃ l : Nat, t.ln = l := ⟨_, rfl⟩
  obtain ⟨c, hc⟩ : ∃ l : Nat, t.cls = l := ⟨_, rfl⟩
  obtain ⟨w1, hw1⟩ : ∃ w1, w.alloc (.cells #[.int .i64 (c : Int), .string x, .int .i64 (l : Int)] 91) = w1 := ⟨_, rfl⟩
  have hb1 : Below w.heap.size w w1 := by rw [← hw1]; exact (Below.refl _ w).alloc (Nat.le_refl _) _
  have F1 : Full w1 w.heap.size 91 [.int .i64 (c : Int), .string x, .int .i64 (l : Int)] := by rw [← hw1]; exact Full.new w 91 _
  obtain ⟨u, hu⟩ : ∃ u, w.heap.size = u := ⟨_, rfl⟩
  rw [hu] at F1
  have S1 := S.on hb1
  have HA := had_any S1.drew t ht
  unfold tokV at HA
  rw [hx, hl, hc] at HA
  unfold TOut at HA
  obtain ⟨r, hr⟩ : ∃ r, pHad t (σ, T) = r := ⟨_, rfl⟩
  obtain ⟨σ1, T1⟩ := r
  rw [hr] at HA
  rw [hr]
  dsimp only at HA ⊢
  obtain ⟨v, σ2, h2⟩ : ∃ v σ2, pNum 1 1000 σ1 = (v, σ2) := ⟨_, _, rfl⟩
  obtain ⟨σ3, h3⟩ : ∃ s, pExpect [59] σ2 = s := ⟨_, rfl⟩
  rw [h2]
  dsimp only
  rw [h3]
  unfold tokV
  rw [hx, hl, hc]
  have HA := Lib.hid HA
  obtain ⟨vs, hP1, _⟩ := S1.ps
  have k8 : w1.drew.cell? ⟨b, 18, none⟩ = some (.map (some h)) := (ts_cell hP1 11).1
  have u0 : w1.drew.cell? ⟨u, 0, none⟩ = some (.int .i64 (c : Int)) := F1.cell 0
  have u1 : w1.drew.cell? ⟨u, 1, none⟩ = some (.string x) := F1.cell 1
  have u2 : w1.drew.cell? ⟨u, 2, none⟩ = some (.int .i64 (l : Int)) := F1.cell 2
  have NU := Lib.hid (fun (W : World) (hT : Turn (FT b h base) w W) (S : TS W b a m h base k σ1 T1) => (TS.call (by have := pNum_le 1 1000 σ1; rw [h2] at this; exact this) S (v := .int .i64 v) (fun R hP => (by
    have q := num_any hP (hL.turn hT (FT.lo hb9 hh9 S.bb)) hb9 1 1000
    unfold NumOut at q
    rw [h2] at q
    exact q)) : Calls Tryz.prog 109 #[.pointer (some ⟨b, 0, none⟩), .int .i64 1, .int .i64 1000] W fun en w' => en = .returned (.int .i64 v) ∧ TS w' b a m h base k σ2 T1 ∧ Turn (fun g => g = b) W w'))
  have EX := Lib.hid (fun (W : World) (S : TS W b a m h base k σ2 { T1 with cost := v }) => (TS.call (by rw [← h3]; exact pExpect_le _ _) S (v := .tuple #[]) (fun R hP => (by
    have q := expect_any hP [59] (by decide)
    unfold StOut at q
    rw [h3] at q
    exact q)) : Calls Tryz.prog 103 #[.pointer (some ⟨b, 0, none⟩), .string ⟨#[59]⟩] W fun en w' => en = .returned (.tuple #[]) ∧ TS w' b a m h base k σ3 { T1 with cost := v } ∧ Turn (fun g => g = b) W w'))
  have HT1 := Lib.hid (show Turn (FT b h base) w w1.drew from (Turn.of hb1).drew)
  clear hx hl hc h2 h3 hr hP1 F1 hb1 S1 S ht hL
  go_enter Tryz.func71, Tryz.ntmps71
  go_upto_region 1 with fail
  go_region_with (first
    | (go_at_call 102; ((with_reducible refine HA.out.mono ?_); rintro en w2 ⟨rfl, hS2, hT2⟩))
    | (fail "arm"))
  all_goals
    have HT2 := Lib.hid (HT1.out.trans_ hT2)
    go_wp2_with (first
      | (go_at_call 109; ((with_reducible refine (NU.out w2 HT2.out hS2).mono ?_); rintro en w3 ⟨rfl, hS3, hT3⟩; (obtain ⟨vs3, hP3, _⟩ := hS3.ps); (have z1 : w3.cell? ⟨b, 16, none⟩ = some (.int .i64 T1.cost) := (ts_cell hP3 9).1); (have z2 : w3.frozen? ⟨b, 16, none⟩ = false := (ts_cell hP3 9).2); (have HS4 := Lib.hid (show TS (w3.setCell ⟨b, 16, none⟩ (.int .i64 v)) b a m h base k σ2 { T1 with cost := v } from hS3.put (Turn.set_ (F := fun g => g = b) (a := ⟨b, 16, none⟩) rfl _) (fun vs q => ps_set q 9 _) rfl rfl)); (have HT4 := Lib.hid ((HT2.out.trans_ hT3.ftb).trans_ (Turn.set_ (F := FT b h base) (a := ⟨b, 16, none⟩) (.inl rfl) (.int .i64 v)))); clear hP3 hS3 hT3))
      | (go_at_call 103; ((with_reducible refine (EX.out _ HS4.out).mono ?_); rintro en w5 ⟨rfl, hS5, hT5⟩))
      | (fail "arm"))
    go_end0
    exact ⟨rfl, hS5, HT4.out.trans_ hT5.ftb⟩
end Go.Proofs.YtcjoiiaankngjaaGreatDoor
/- retry. -/
namespace Go.Proofs.YtcjoiiaankngjaaGreatDoor
set_option maxRecDepth 100000
open Go.RowKit
/-- the line of the token ahead -/
def pLn : Pst → Nat
  | .ok (t :: _) => t.ln
  | _ => 0
theorem ps_ln {w : World} {b : Nat} {σ : Pst} {R : List Value} (h : PS w b σ R) : w.cell? ⟨b, 4, none⟩ = some (.int .i64 (pLn σ : Int)) := by
  obtain ⟨s, n, c, tx, tl, e, el, hP, hs, hC⟩ := h
  rw [Full.cell hP 4]
  show some (Value.int .i64 tl) = _
  cases σ with
  | bad e' l' =>
    obtain ⟨_, _, _, _, _, h6⟩ := hC
    rw [h6]; rfl
  | ok ts =>
    obtain ⟨t, r, hts, _, _, htl, _⟩ := ok_cons hC
    rw [hts, htl]; rfl
def pRetry (t : Tok) (r : Pst × Tgt) : Pst × Tgt :=
  (pExpect [59] (pNum 0 5 (pHad t r).1).2, { (pHad t r).2 with rl := pLn (pHad t r).1, retry := (pNum 0 5 (pHad t r).1).1 })
set_option maxHeartbeats 4000000 in
theorem retry_any {w : World} {b a m h base k : Nat} {σ : Pst} {T : Tgt} (S : TS w b a m h base (k + 1) σ T) (hL : Laid w) (hb9 : 9 ≤ b) (hh9 : 9 ≤ h) (t : Tok) (ht : t.txt.length ≤ 4294967000) :
    Calls Tryz.prog 72 #[.pointer (some ⟨b, 0, none⟩), tokV t] w (TOut w b a m h base k (pRetry t (σ, T))) := by
  unfold TOut pRetry
  obtain ⟨x, hx⟩ : ∃ x, str t.txt = x := ⟨_, rfl⟩
  obtain ⟨l, hl⟩ : ∃ l : Nat, t.ln = l := ⟨_, rfl⟩
  obtain ⟨c, hc⟩ : ∃ l : Nat, t.cls = l := ⟨_, rfl⟩
  obtain ⟨w1, hw1⟩ : ∃ w1, w.alloc (.cells #[.int .i64 (c : Int), .string x, .int .i64 (l : Int)] 91) = w1 := ⟨_, rfl⟩
  have hb1 : Below w.heap.size w w1 := by rw [← hw1]; exact (Below.refl _ w).alloc (Nat.le_refl _) _
  have F1 : Full w1 w.heap.size 91 [.int .i64 (c : Int), .string x, .int .i64 (l : Int)] := by rw [← hw1]; exact Full.new w 91 _
  obtain ⟨u, hu⟩ : ∃ u, w.heap.size = u := ⟨_, rfl⟩
  rw [hu] at F1
  have S1 := S.on hb1
  have HA := had_any S1.drew t ht
  unfold tokV at HA
  rw [hx, hl, hc] at HA
  unfold TOut at HA
  obtain ⟨r, hr⟩ : ∃ r, pHad t (σ, T) = r := ⟨_, rfl⟩
  obtain ⟨σ1, T1⟩ := r
  rw [hr] at HA
  rw [hr]
  dsimp only at HA ⊢
  obtain ⟨q, hq⟩ : ∃ q, pLn σ1 = q := ⟨_, rfl⟩
  obtain ⟨v, σ2, h2⟩ : ∃ v σ2, pNum 0 5 σ1 = (v, σ2) := ⟨_, _, rfl⟩
  obtain ⟨σ3, h3⟩ : ∃ s, pExpect [59] σ2 = s := ⟨_, rfl⟩
  rw [hq, h2]
  dsimp only
  rw [h3]
  unfold tokV
  rw [hx, hl, hc]
  have HA := Lib.hid HA
  obtain ⟨vs, hP1, _⟩ := S1.ps
  have k8 : w1.drew.cell? ⟨b, 18, none⟩ = some (.map (some h)) := (ts_cell hP1 11).1
  have u0 : w1.drew.cell? ⟨u, 0, none⟩ = some (.int .i64 (c : Int)) := F1.cell 0
  have u1 : w1.drew.cell? ⟨u, 1, none⟩ = some (.string x) := F1.cell 1
  have u2 : w1.drew.cell? ⟨u, 2, none⟩ = some (.int .i64 (l : Int)) := F1.cell 2
  have HLN := Lib.hid (fun (W : World) (R : List Value) (h : PS W b σ1 R) => (show W.cell? ⟨b, 4, none⟩ = some (.int .i64 (q : Int)) by rw [← hq]; exact ps_ln h))
  have NU := Lib.hid (fun (W : World) (hT : Turn (FT b h base) w W) (S : TS W b a m h base k σ1 { T1 with rl := q }) => (TS.call (by have := pNum_le 0 5 σ1; rw [h2] at this; exact this) S (v := .int .i64 v) (fun R hP => (by
    have z := num_any hP (hL.turn hT (FT.lo hb9 hh9 S.bb)) hb9 0 5
    unfold NumOut at z
    rw [h2] at z
    exact z)) : Calls Tryz.prog 109 #[.pointer (some ⟨b, 0, none⟩), .int .i64 0, .int .i64 5] W fun en w' => en = .returned (.int .i64 v) ∧ TS w' b a m h base k σ2 { T1 with rl := q } ∧ Turn (fun g => g = b) W w'))
  have EX := Lib.hid (fun (W : World) (S : TS W b a m h base k σ2 { T1 with rl := q, retry := v }) => (TS.call (by rw [← h3]; exact pExpect_le _ _) S (v := .tuple #[]) (fun R hP => (by
    have z := expect_any hP [59] (by decide)
    unfold StOut at z
    rw [h3] at z
    exact z)) : Calls Tryz.prog 103 #[.pointer (some ⟨b, 0, none⟩), .string ⟨#[59]⟩] W fun en w' => en = .returned (.tuple #[]) ∧ TS w' b a m h base k σ3 { T1 with rl := q, retry := v } ∧ Turn (fun g => g = b) W w'))
  have HT1 := Lib.hid (show Turn (FT b h base) w w1.drew from (Turn.of hb1).drew)
  clear hx hl hc h2 h3 hr hP1 F1 hb1 S1 S ht hL hq
  go_enter Tryz.func72, Tryz.ntmps72
  go_upto_region 1 with fail
  go_region_with (first
    | (go_at_call 102; ((with_reducible refine HA.out.mono ?_); rintro en w2 ⟨rfl, hS2, hT2⟩; (obtain ⟨vs2, hP2, _⟩ := hS2.ps); (have k4 := HLN.out w2 _ hP2); (have y1 : w2.cell? ⟨b, 19, none⟩ = some (.int .i64 (T1.rl : Int)) := (ts_cell hP2 12).1); (have y2 : w2.frozen? ⟨b, 19, none⟩ = false := (ts_cell hP2 12).2); clear hP2))
    | (fail "arm"))
  all_goals
    have HS3 := Lib.hid (show TS (w2.setCell ⟨b, 19, none⟩ (.int .i64 (q : Int))) b a m h base k σ1 { T1 with rl := q } from hS2.put (Turn.set_ (F := fun g => g = b) (a := ⟨b, 19, none⟩) rfl _) (fun vs q => ps_set q 12 _) rfl rfl)
    have HT2 := Lib.hid ((HT1.out.trans_ hT2).trans_ (Turn.set_ (F := FT b h base) (a := ⟨b, 19, none⟩) (.inl rfl) (.int .i64 (q : Int))))
    go_wp2_with (first
      | (go_at_call 109; ((with_reducible refine (NU.out _ HT2.out HS3.out).mono ?_); rintro en w3 ⟨rfl, hS3, hT3⟩; (obtain ⟨vs3, hP3, _⟩ := hS3.ps); (have z1 : w3.cell? ⟨b, 17, none⟩ = some (.int .i64 T1.retry) := (ts_cell hP3 10).1); (have z2 : w3.frozen? ⟨b, 17, none⟩ = false := (ts_cell hP3 10).2); (have HS4 := Lib.hid (show TS (w3.setCell ⟨b, 17, none⟩ (.int .i64 v)) b a m h base k σ2 { T1 with rl := q, retry := v } from hS3.put (Turn.set_ (F := fun g => g = b) (a := ⟨b, 17, none⟩) rfl _) (fun vs q => ps_set q 10 _) rfl rfl)); (have HT4 := Lib.hid ((HT2.out.trans_ hT3.ftb).trans_ (Turn.set_ (F := FT b h base) (a := ⟨b, 17, none⟩) (.inl rfl) (.int .i64 v)))); clear hP3 hS3 hT3))
      | (go_at_call 103; ((with_reducible refine (EX.out _ HS4.out).mono ?_); rintro en w5 ⟨rfl, hS5, hT5⟩))
      | (fail "arm"))
    go_end0
    exact ⟨rfl, hS5, HT4.out.trans_ hT5.ftb⟩
end Go.Proofs.YtcjoiiaankngjaaGreatDoor
/- kind. -/
namespace Go.Proofs.YtcjoiiaankngjaaGreatDoor
set_option maxRecDepth 100000
open Go.RowKit
def kw : Nat → List UInt8
  | 1 => [108, 105, 98]
  | 2 => [98, 105, 110]
  | 3 => [116, 101, 115, 116]
  | 4 => [103, 101, 110]
  | _ => []
def pKinds : Nat → Pst × Tgt → Pst × Tgt
  | 0, r => (pRefuse r.1, r.2)
  | f + 1, r => if (pTake (kw (4 - f)) r.1).1 then (pExpect [59] (pTake (kw (4 - f)) r.1).2, { r.2 with kind := ((4 - f : Nat) : Int) }) else pKinds f r
def pKind (t : Tok) (r : Pst × Tgt) : Pst × Tgt := pKinds 4 (pHad t r)
theorem take_no {x : List UInt8} {σ : Pst} (h : (pTake x σ).1 = false) : (pTake x σ).2 = σ := by
  cases σ with
  | bad e l => rfl
  | ok ts =>
    cases ts with
    | nil => rfl
    | cons t r =>
      rw [show pTake x (.ok (t :: r)) = if t.txt = x then (true, .ok r) else (false, .ok (t :: r)) from rfl] at h ⊢
      by_cases e : t.txt = x
      · rw [if_pos e] at h; cases h
      · rw [if_neg e]
theorem Laid.kw {w : World} (h : Laid w) (k : Nat) (h1 : 1 ≤ k) (h4 : k ≤ 4) : w.cell? ⟨0, k, none⟩ = some (.string (str (kw k))) := by
  obtain rfl | rfl | rfl | rfl : k = 1 ∨ k = 2 ∨ k = 3 ∨ k = 4 := by omega
  · exact h.k1
  · exact h.k2
  · exact h.k3
  · exact h.k4
theorem kw_first (k : Nat) (h1 : 1 ≤ k) (h4 : k ≤ 4) : 2 ≤ (first (kw k)).1 := by
  obtain rfl | rfl | rfl | rfl : k = 1 ∨ k = 2 ∨ k = 3 ∨ k = 4 := by omega
  all_goals decide
set_option maxHeartbeats 4000000 in
theorem kind_any {w : World} {b a m h base k : Nat} {σ : Pst} {T : Tgt} (S : TS w b a m h base (k + 1) σ T) (hL : Laid w) (hb9 : 9 ≤ b) (hh9 : 9 ≤ h) (t : Tok) (ht : t.txt.length ≤ 4294967000) :
    Calls Tryz.prog 66 #[.pointer (some ⟨b, 0, none⟩), tokV t] w (TOut w b a m h base k (pKind t (σ, T))) := by
  unfold TOut pKind
  obtain ⟨x, hx⟩ : ∃ x, str t.txt = x := ⟨_, rfl⟩
  obtain ⟨l, hl⟩ : ∃ l : Nat, t.ln = l := ⟨_, rfl⟩
  obtain ⟨c, hc⟩ : ∃ l : Nat, t.cls = l := ⟨_, rfl⟩
  obtain ⟨w1, hw1⟩ : ∃ w1, w.alloc (.cells #[.int .i64 (c : Int), .string x, .int .i64 (l : Int)] 91) = w1 := ⟨_, rfl⟩
  have hb1 : Below w.heap.size w w1 := by rw [← hw1]; exact (Below.refl _ w).alloc (Nat.le_refl _) _
  have F1 : Full w1 w.heap.size 91 [.int .i64 (c : Int), .string x, .int .i64 (l : Int)] := by rw [← hw1]; exact Full.new w 91 _
  obtain ⟨u, hu⟩ : ∃ u, w.heap.size = u := ⟨_, rfl⟩
  rw [hu] at F1
  have S1 := S.on hb1
  have HA := had_any S1.drew t ht
  unfold tokV at HA
  rw [hx, hl, hc] at HA
  unfold TOut at HA
  obtain ⟨r, hr⟩ : ∃ r, pHad t (σ, T) = r := ⟨_, rfl⟩
  obtain ⟨σ1, T1⟩ := r
  rw [hr] at HA
  rw [hr]
  dsimp only at HA
  obtain ⟨r9, h9⟩ : ∃ r, pKinds 4 (σ1, T1) = r := ⟨_, rfl⟩
  obtain ⟨σ9, T9⟩ := r9
  rw [h9]
  dsimp only
  unfold tokV
  rw [hx, hl, hc]
  have HA := Lib.hid HA
  obtain ⟨vs, hP1, _⟩ := S1.ps
  have k8 : w1.drew.cell? ⟨b, 18, none⟩ = some (.map (some h)) := (ts_cell hP1 11).1
  have u0 : w1.drew.cell? ⟨u, 0, none⟩ = some (.int .i64 (c : Int)) := F1.cell 0
  have u1 : w1.drew.cell? ⟨u, 1, none⟩ = some (.string x) := F1.cell 1
  have u2 : w1.drew.cell? ⟨u, 2, none⟩ = some (.int .i64 (l : Int)) := F1.cell 2
  have hbb := S.bb
  have HLd := Lib.hid (fun (W : World) (hT : Turn (FT b h base) w W) => hL.turn hT (FT.lo hb9 hh9 hbb))
  have HT1 := Lib.hid (show Turn (FT b h base) w w1.drew from (Turn.of hb1).drew)
  have H9 := Lib.hid h9
  clear hx hl hc hr hP1 F1 hb1 S1 S ht hL h9
  go_enter Tryz.func66, Tryz.ntmps66
  go_upto_region 1 with fail
  go_region_with (first
    | (go_at_call 102; ((with_reducible refine HA.out.mono ?_); rintro en w2 ⟨rfl, hS2, hT2⟩))
    | (fail "arm"))
  all_goals
    have HT2 := Lib.hid (HT1.out.trans_ hT2)
    have HS2 := Lib.hid hS2
    clear hS2 hT2
    go_upto_region 3 with fail
    go_loopw [4] (fun v4 wr => ∃ (q f : Nat), v4 = .int .i64 (q : Int) ∧ q + f = 5 ∧ 1 ≤ q ∧ Hid (pKinds f (σ1, T1) = (σ9, T9)) ∧ Hid (TS wr b a m h base k σ1 T1) ∧ Hid (Turn (FT b h base) w wr)) (fun v4 _ => match v4 with | .int _ k => 5 - k.toNat | _ => 0)
    case atStart => exact ⟨1, 4, rfl, rfl, Nat.le_refl _, H9, HS2, HT2⟩
    case round =>
      obtain ⟨q, f, rfl, hqf, hq1, HK, HS, HT⟩ := hrel
      cases f with
      | zero =>
        obtain rfl : q = 5 := by omega
        have e9 := HK.out
        rw [pKinds] at e9
        injection e9 with e1 e2
        dsimp only at e1 e2
        subst e2
        have RF := Lib.hid (TS.call (σ' := σ9) (by rw [← e1]; exact pRefuse_le _) HS.out (v := .tuple #[]) (fun R hP => (by
          have z := refuse_any hP
          unfold StOut at z
          rw [e1] at z
          exact z)) : Calls Tryz.prog 104 #[.pointer (some ⟨b, 0, none⟩)] wr fun en w' => en = .returned (.tuple #[]) ∧ TS w' b a m h base k σ9 T1 ∧ Turn (fun g => g = b) wr w')
        clear e1
        go_wp2_with (first
          | (go_at_call 104; ((with_reducible refine RF.out.mono ?_); rintro en w5 ⟨rfl, hS5, hT5⟩))
          | (fail "arm"))
        go_end0
        exact ⟨rfl, hS5, HT.out.trans_ hT5.ftb⟩
      | succ f =>
        have hq4 : q ≤ 4 := by omega
        have hqe : 4 - f = q := by omega
        have e9 := HK.out
        rw [pKinds, hqe] at e9
        dsimp only at e9
        have hc := (HLd.out wr HT.out).kw q hq1 hq4
        have TK := (fun R (hP : PS wr b σ1 R) => take_any hP (kw q) (kw_first q hq1 hq4))
        unfold TakeOut at TK
        obtain ⟨X, hX⟩ : ∃ X, str (kw q) = X := ⟨_, rfl⟩
        rw [hX] at hc TK
        cases ht : (pTake (kw q) σ1).1 with
        | false =>
          rw [ht, if_neg (by decide)] at e9
          rw [ht, take_no ht] at TK
          have HK' := Lib.hid e9
          have CT := Lib.hid (TS.call (σ' := σ1) (Nat.le_refl _) HS.out (v := .bool false) (fun R hP => TK R hP) : Calls Tryz.prog 74 #[.pointer (some ⟨b, 0, none⟩), .string X] wr fun en w' => en = .returned (.bool false) ∧ TS w' b a m h base k σ1 T1 ∧ Turn (fun g => g = b) wr w')
          clear e9 TK ht hX hqe HK
          go_wp2_with (first
            | (go_at_call 74; ((with_reducible refine CT.out.mono ?_); rintro en w5 ⟨rfl, hS5, hT5⟩))
            | (fail "arm"))
          have HS5 := Lib.hid hS5
          have HT5 := Lib.hid (HT.out.trans_ hT5.ftb)
          clear hS5 hT5
          go_roundw
          case rel => exact ⟨q + 1, f, by simp, by omega, by omega, HK', HS5, HT5⟩
          case measure => show 5 - ((q : Int) + 1).toNat < 5 - (q : Int).toNat; omega
        | true =>
          rw [ht, if_pos rfl] at e9
          rw [ht] at TK
          obtain ⟨σ4, h4⟩ : ∃ s, (pTake (kw q) σ1).2 = s := ⟨_, rfl⟩
          have hle := pTake_le (kw q) σ1
          rw [h4] at e9 TK hle
          injection e9 with e1 e2
          subst e2
          have CT := Lib.hid (TS.call (σ' := σ4) hle HS.out (v := .bool true) (fun R hP => TK R hP) : Calls Tryz.prog 74 #[.pointer (some ⟨b, 0, none⟩), .string X] wr fun en w' => en = .returned (.bool true) ∧ TS w' b a m h base k σ4 T1 ∧ Turn (fun g => g = b) wr w')
          have EX := Lib.hid (fun (W : World) (S : TS W b a m h base k σ4 { T1 with kind := (q : Int) }) => (TS.call (σ' := σ9) (by rw [← e1]; exact pExpect_le _ _) S (v := .tuple #[]) (fun R hP => (by
            have z := expect_any hP [59] (by decide)
            unfold StOut at z
            rw [e1] at z
            exact z)) : Calls Tryz.prog 103 #[.pointer (some ⟨b, 0, none⟩), .string ⟨#[59]⟩] W fun en w' => en = .returned (.tuple #[]) ∧ TS w' b a m h base k σ9 { T1 with kind := (q : Int) } ∧ Turn (fun g => g = b) W w'))
          clear e1 TK ht hX hqe HK h4 hle
          go_wp2_with (first
            | (go_at_call 74; ((with_reducible refine CT.out.mono ?_); rintro en w3 ⟨rfl, hS3, hT3⟩; (obtain ⟨vs3, hP3, _⟩ := hS3.ps); (have z1 : w3.cell? ⟨b, 10, none⟩ = some (.int .i64 T1.kind) := (ts_cell hP3 3).1); (have z2 : w3.frozen? ⟨b, 10, none⟩ = false := (ts_cell hP3 3).2); (have HS4 := Lib.hid (show TS (w3.setCell ⟨b, 10, none⟩ (.int .i64 (q : Int))) b a m h base k σ4 { T1 with kind := (q : Int) } from hS3.put (Turn.set_ (F := fun g => g = b) (a := ⟨b, 10, none⟩) rfl _) (fun vs z => ps_set z 3 _) rfl rfl)); (have HT4 := Lib.hid ((HT.out.trans_ hT3.ftb).trans_ (Turn.set_ (F := FT b h base) (a := ⟨b, 10, none⟩) (.inl rfl) (.int .i64 (q : Int))))); clear hP3 hS3 hT3))
            | (go_at_call 103; ((with_reducible refine (EX.out _ HS4.out).mono ?_); rintro en w5 ⟨rfl, hS5, hT5⟩))
            | (fail "arm"))
          refine bodyPost_ret (results_none (by rfl) _ _ _) rfl ?_
          exact ⟨rfl, hS5, HT4.out.trans_ hT5.ftb⟩
end Go.Proofs.YtcjoiiaankngjaaGreatDoor
/- Rows of the target that grow: how many items, and the end of it. -/
namespace Go.Proofs.YtcjoiiaankngjaaGreatDoor
set_option maxRecDepth 100000
open Go.RowKit
theorem pMore_sum (el : Pst → Itm × Pst) (hel : ∀ σ, plen (el σ).2 ≤ plen σ) : ∀ (f : Nat) (σ : Pst), (pMore el (pTake [44]) f σ).1.length + plen (pMore el (pTake [44]) f σ).2 ≤ plen σ
  | 0, σ => by simp [pMore]
  | f + 1, σ => by
    rw [pMore]
    split
    · rename_i h
      have h1 := pTake_less [44] σ h
      have h2 := hel (pTake [44] σ).2
      have h3 := pMore_sum el hel f (el (pTake [44] σ).2).2
      simp only [List.length_cons]
      omega
    · have := pTake_le [44] σ
      simp only [List.length_nil]
      omega
theorem pList_sum (el : Pst → Itm × Pst) (hel : ∀ σ, plen (el σ).2 ≤ plen σ) (σ : Pst) :
    0 < (pList el (pTake [44]) (pExpect [59]) plen σ).1.length ∧ (pList el (pTake [44]) (pExpect [59]) plen σ).1.length + plen (pList el (pTake [44]) (pExpect [59]) plen σ).2 ≤ 1 + plen σ := by
  unfold pList
  have h1 := pMore_sum el hel (plen (el σ).2 + 1) (el σ).2
  have h2 := hel σ
  have h3 := pExpect_le [59] (pMore el (pTake [44]) (plen (el σ).2 + 1) (el σ).2).2
  simp only [List.length_cons]
  omega
theorem pPlat_le (σ : Pst) : plen (pPlat σ).2 ≤ plen σ := by
  cases σ with
  | bad e l => exact Nat.le_refl _
  | ok ts =>
    cases ts with
    | nil => exact Nat.le_refl _
    | cons t r =>
      show plen (if pAheadP (.ok (t :: r)) then (t.txt, Pst.ok r) else ([], .ok (t :: r))).2 ≤ _
      by_cases e : pAheadP (.ok (t :: r)) = true
      · rw [if_pos e]; simp [plen]
      · rw [if_neg e]; simp [plen]
theorem pLimited_sum (ls : Pst → List Itm × Pst) (h : ∀ σ, 0 < (ls σ).1.length ∧ (ls σ).1.length + plen (ls σ).2 ≤ 1 + plen σ) (σ : Pst) : 0 < (pLimited ls σ).1.length ∧ (pLimited ls σ).1.length + plen (pLimited ls σ).2 ≤ 1 + plen σ := by
  unfold pLimited
  have h1 := h (pPlat σ).2
  have h2 := pPlat_le σ
  simp only [List.length_map]
  omega
theorem tR_set (a m h : Nat) (T : Tgt) (vs : Nat → Value) (ls : Nat → List Itm) (i : Nat) (hi : i < 4) (v : Value) : (tR a m h T vs).set (5 + i) v = tR a m h { T with rows := ls } (upd vs i v) := by
  obtain rfl | rfl | rfl | rfl : i = 0 ∨ i = 1 ∨ i = 2 ∨ i = 3 := by omega
  all_goals rfl
def pGrow (i : Nat) (ls : Pst → List Itm × Pst) (r : Pst × Tgt) : Pst × Tgt := ((ls r.1).2, { r.2 with rows := upd r.2.rows i (r.2.rows i ++ (ls r.1).1) })
theorem row_end {w2 w3 : World} {b a m h base k n : Nat} {σ2 : Pst} {T : Tgt} {vs : Nat → Value} {l : List Itm} (hP : PS w2 b σ2 (tR a m h T vs)) (hR : Rows4 w2 base T.rows vs) (hN : Names w2 h n T.had) (hn : n + k + plen σ2 ≤ XL)
    (hlen : ∀ i, i < 4 → (T.rows i).length + k + plen σ2 ≤ XL) (i : Nat) (hi : i < 4) (hl : (T.rows i).length + l.length + k + plen σ2 ≤ XL) (hbb : b < base) (hhb : h < base) (hne : h ≠ b) (hsz : base ≤ w2.heap.size)
    {v' : Value} (ho : w3.ownsRow base 52 4 v' ((T.rows i).length + l.length) (itmsC (T.rows i) ++ itmsC l)) (hg : w2.grownBy w3 (vs i).ownBlock) (hat : ∀ g, v'.ownBlock = some g → (vs i).ownBlock = some g ∨ w2.heap.size ≤ g) (q : Nat) (hq : q = 7 + (5 + i)) :
    (w3.cell? ⟨b, q, none⟩ = some (vs i) ∧ w3.frozen? ⟨b, q, none⟩ = false) ∧ TS (w3.setCell ⟨b, q, none⟩ v') b a m h base k σ2 { T with rows := upd T.rows i (T.rows i ++ l) } ∧ Turn (FT b h base) w2 (w3.setCell ⟨b, q, none⟩ v') := by
  subst hq
  have hrow : ∀ g, (vs i).ownBlock = some g → base ≤ g := row_ge (hR.own i hi)
  have hT3 : Turn (fun g => base ≤ g) w2 w3 := Turn.grown hg fun g e => .inl (hrow g e)
  have hP3 := hP.farT hT3 (by omega)
  have hN3 := hN.far hT3 (by omega)
  have hTs : Turn (fun g => g = b) w3 (w3.setCell ⟨b, 7 + (5 + i), none⟩ v') := Turn.set_ (F := fun g => g = b) (a := ⟨b, 7 + (5 + i), none⟩) rfl v'
  have hs3 := hg.size
  have happ : itmsC (T.rows i) ++ itmsC l = itmsC (T.rows i ++ l) := by unfold itmsC; rw [List.flatMap_append]
  have hR3 : Rows4 w3 base (upd T.rows i (T.rows i ++ l)) (upd vs i v') := hR.grow i hi (by rw [← happ, List.length_append]; exact ho) hg hat
  have hz := ts_cell hP3 (5 + i)
  refine ⟨⟨?_, hz.2⟩, ⟨⟨upd vs i v', ?_, hR3.turn hTs (fun g e => by rw [e]; exact hbb)⟩, ⟨n, hN3.far hTs (fun e => hne e), hn⟩, fun j hj => ?_, hbb, hhb, hne, Nat.le_trans hsz (Nat.le_trans hs3 hTs.size)⟩, (hT3.mono fun g e => .inr (.inr e)).trans_ hTs.ftb⟩
  · rw [hz.1]
    obtain rfl | rfl | rfl | rfl : i = 0 ∨ i = 1 ∨ i = 2 ∨ i = 3 := by omega
    all_goals rfl
  · rw [← tR_set a m h T vs (upd T.rows i (T.rows i ++ l)) i hi v']
    exact ps_set hP3 (5 + i) v'
  · show (upd T.rows i (T.rows i ++ l) j).length + k + plen σ2 ≤ XL
    unfold upd
    by_cases e : j = i
    · rw [if_pos e, List.length_append]; exact hl
    · rw [if_neg e]; exact hlen j hj
theorem own_news {w : World} {base n c g : Nat} {xs : List Value} (h : w.ownsRow base 52 4 (.slice (some ⟨g, 0, none⟩) n c) n xs) : ∀ j u, xs[j]? = some u → w.cell? ((⟨g, 0, none⟩ : Addr).add j) = some u := fun j u hj => by
  obtain ⟨ad, e, _, hc⟩ := (Row.own h).2.2.2 j u hj
  injection e with e
  subst e
  exact hc
theorem itms_one (l : List Itm) : ∀ u ∈ itmsC l, u.oneCell' = true := fun u hu => by
  obtain ⟨it, _, hu⟩ := List.mem_flatMap.1 hu
  exact itmC_one it u hu
theorem lies_at {A : Option Addr} {n c m d g3 H : Nat} (h : (Value.slice A n c).ownBlock = some g3 ∨ g3 = H) : ∀ g, (Value.slice (some ⟨g3, 0, none⟩) m d).ownBlock = some g → (Value.slice A n c).ownBlock = some g ∨ H ≤ g := fun g e => by
  injection e with e
  subst e
  exact h.imp id (fun e => by rw [e]; exact Nat.le_refl _)
/-- a call of a function that is named, as one step of a region that draws -/
theorem step_call_fn {P : Program} {ops : Array Oper} {o : Oper} {a : Act} {w : World} {K : Act → World → Prop} {Q : Exit → Act → World → Prop} {E : Prop}
    (hg : o.guard = none) (f : FuncId) (xs : Array Operand) (ats : Array TypeId) (hop : o.op = Op.call { callee := Callee.value (Operand.func f), args := xs, argTypes := ats })
    (vs : Array Value) (hx : xs.toList.map a.eval = vs.toList) (he : ∀ args w, (callFunc f args).run P w = .ok (.enter f args) w) {R : Ending → World → Prop} (C : Calls P f vs w R) (hR : ∀ e w', R e w' → ∃ v, e = .returned v ∧ K (a.put o.dst v) w') :
    if Region.wanted o (yielded ops a.tmps) = true then Oper.wp P o a w K Q else E := by
  have hw : Region.wanted o (yielded ops a.tmps) = true := by simp [Region.wanted, hg]
  rw [if_pos hw]
  obtain ⟨dst, op, ty, pos, after, guard⟩ := o
  dsimp only at hop
  subst hop
  have e1 : execOp a.eval { dst, op := .call { callee := .value (.func f), args := xs, argTypes := ats }, type := ty, pos, after, guard } = callFunc f (#[] ++ xs.map a.eval ++ #[]) := rfl
  unfold Oper.wp
  have hx' : xs.map a.eval = vs := Array.toList_inj.1 (by rw [Array.toList_map]; exact hx)
  rw [e1, hx', show #[] ++ vs ++ #[] = vs by simp, he]
  refine C.mono fun e w' h => ?_
  obtain ⟨v, rfl, hk⟩ := hR e w' h
  exact hk
theorem step_append_run {P : Program} {ops : Array Oper} {o : Oper} {a : Act} {w : World} {K : Act → World → Prop} {Q : Exit → Act → World → Prop} {E : Prop}
    (hg : o.guard = none) (d x : Operand) (dT sT : TypeId) (hop : o.op = Op.call { callee := Callee.builtin Builtin.append, args := #[d, x], argTypes := #[dT, sT] })
    (v u : Value) (hd : a.eval d = v) (hx : a.eval x = u) {v' : Value} {w' : World} (hr : (Builtin.append_ #[dT, sT] o.type #[v, u]).run P w = .ok v' w') (hK : K (a.put o.dst v') w') :
    if Region.wanted o (yielded ops a.tmps) = true then Oper.wp P o a w K Q else E := by
  have hw : Region.wanted o (yielded ops a.tmps) = true := by simp [Region.wanted, hg]
  rw [if_pos hw]
  unfold Oper.wp
  simp [execOp, hop, resolve, invoke, builtin, hd, hx, hr, Result.andThen]
  exact hK
end Go.Proofs.YtcjoiiaankngjaaGreatDoor
/- srcs: a row of the target grows. -/
namespace Go.Proofs.YtcjoiiaankngjaaGreatDoor
set_option maxRecDepth 100000
open Go.RowKit
set_option maxHeartbeats 4000000 in
theorem srcs_any {w : World} {b a m h base k : Nat} {σ : Pst} {T : Tgt} (S : TS w b a m h base (k + 1) σ T) (t : Tok) :
    Calls Tryz.prog 67 #[.pointer (some ⟨b, 0, none⟩), tokV t] w (TOut w b a m h base k (pGrow 0 (pLimited pSources) (σ, T))) := by
  unfold TOut pGrow
  obtain ⟨i0, hi, hz0, hz1, hz2⟩ := info_parts info52
  obtain ⟨x, hx⟩ : ∃ x, str t.txt = x := ⟨_, rfl⟩
  obtain ⟨l0, hl0⟩ : ∃ l : Nat, t.ln = l := ⟨_, rfl⟩
  obtain ⟨c0, hc0⟩ : ∃ l : Nat, t.cls = l := ⟨_, rfl⟩
  obtain ⟨w1, hw1⟩ : ∃ w1, w.alloc (.cells #[.int .i64 (c0 : Int), .string x, .int .i64 (l0 : Int)] 91) = w1 := ⟨_, rfl⟩
  have hb1 : Below w.heap.size w w1 := by rw [← hw1]; exact (Below.refl _ w).alloc (Nat.le_refl _) _
  have S1 := (S.on hb1).drew
  obtain ⟨⟨vs, hP1, hR1⟩, ⟨n, hN, hn⟩, hlen, hbb, hhb, hne, hsz⟩ := S1
  have hsum : 0 < ((pLimited pSources) σ).1.length ∧ ((pLimited pSources) σ).1.length + plen ((pLimited pSources) σ).2 ≤ 1 + plen σ := pLimited_sum pSources (pList_sum pSource pSource_le) σ
  obtain ⟨l, hl⟩ : ∃ l, ((pLimited pSources) σ).1 = l := ⟨_, rfl⟩
  obtain ⟨σ2, h2⟩ : ∃ s, ((pLimited pSources) σ).2 = s := ⟨_, rfl⟩
  have LC := limited_any hP1 (.func (.func 106) #[.pointer (some ⟨b, 0, none⟩)] #[]) pSources (by have := (pList_sum pSource pSource_le (pPlat σ).2).2; have := pPlat_le σ; have := hP1.plen_le; show (pList pSource (pTake [44]) (pExpect [59]) plen (pPlat σ).2).1.length ≤ _; omega) (fun W s h => sources_any h)
  unfold ListOut at LC
  rw [hl, h2] at LC hsum
  dsimp only
  rw [hl, h2]
  unfold tokV
  rw [hx, hl0, hc0]
  obtain ⟨v, hv⟩ : ∃ v, vs 0 = v := ⟨_, rfl⟩
  obtain ⟨ml, hml⟩ : ∃ ml, l.length = ml := ⟨_, rfl⟩
  obtain ⟨nl, hnl⟩ : ∃ nl, (T.rows 0).length = nl := ⟨_, rfl⟩
  have hown := hR1.own 0 (by decide)
  rw [hv, hnl] at hown
  obtain ⟨A, c, rfl⟩ := own_form hown
  have k1 : w1.drew.cell? ⟨b, 12, none⟩ = some (.slice A nl c) := by
    have := (ts_cell hP1 (5 + 0)).1
    rw [← hv]
    exact this
  have hln := hlen 0 (by decide)
  rw [hnl] at hln
  have hXL : nl + ml ≤ 8589934593 := by unfold XL at hln; omega
  have hm0 : 0 < ml := by omega
  have hle2 : plen σ2 ≤ plen σ := by omega
  have hnn : n + k + plen σ2 ≤ XL := by omega
  have hll : nl + ml + k + plen σ2 ≤ XL := by omega
  rw [hml] at LC
  have HT1 := Lib.hid (show Turn (FT b h base) w w1.drew from (Turn.of hb1).drew)
  have HLC := Lib.hid LC
  have HR1 := Lib.hid hR1
  have HN := Lib.hid hN
  have HLEN := Lib.hid hlen
  have HEQ := Lib.hid (And.intro hml (And.intro hnl hv))
  have HK2 := Lib.hid (fun (W : World) (hP : PS W b σ2 (tR a m h T vs)) => (show W.cell? ⟨b, 12, none⟩ = some (.slice A nl c) by
    have := (ts_cell hP (5 + 0)).1
    rw [← hv]
    exact this))
  have HOWN := Lib.hid (fun (W : World) (hT : Turn (fun g => g = b) w1.drew W) => own_turn hown hT (fun g e => by rw [e]; exact hbb))
  clear hx hl0 hc0 hl h2 hsum hP1 hR1 hN hlen hown hb1 S LC hn hv hml hnl
  go_enter Tryz.func67, Tryz.ntmps67
  go_upto_region 1 with fail
  go_region_law (first
    | (refine step_call_fn rfl 105 _ _ rfl #[.pointer (some ⟨b, 0, none⟩), .func (.func 106) #[.pointer (some ⟨b, 0, none⟩)] #[]] (by rfl) (enters_of Tryz.func105 (by kernel_rfl) rfl) HLC.out ?_; rintro en w2 ⟨A2, c2, rfl, hO2, hP2, hT2⟩; refine ⟨_, rfl, ?_⟩; (have k2 := HK2.out w2 hP2); (unfold OwnI at hO2); (rw [HEQ.out.1] at hO2); (obtain ⟨g2, c2', hv2, hg2, _, _⟩ := own_some hO2 hm0); (injection hv2 with e1 _ e3); subst e1; (have hnews := own_news hO2); (have HNW := Lib.hid hnews); (have HO2 := Lib.hid hO2); (have HP2 := Lib.hid hP2); (have HT2 := Lib.hid hT2); (have hs2 := hT2.size); clear hnews hO2 hP2 hT2 e3; (obtain ⟨g3, c3, w3, hap, hown3, hgrow3, hat3, hlt3⟩ := run_append_lies w2 25 25 base 52 i0 (.agg #[.string ⟨#[]⟩, .bool false, .string ⟨#[]⟩, .int .i64 0]) 4 48 Tryz.underlying25 hi hz0 hz1 hz2 rfl (by decide) (.slice A nl c) nl (itmsC (T.rows 0)) (HOWN.out w2 HT2.out) ⟨g2, 0, none⟩ ml c2 (itmsC l) HO2.out.1 HNW.out (itms_one l) hm0 (by unfold maxLen; omega) (by omega) (Nat.le_trans hsz hs2) w2.heap.size rfl); (obtain ⟨⟨z1, z2⟩, HTS, hTF⟩ := row_end (w2 := w2) (w3 := w3) (k := k) (l := l) HP2.out (HR1.out.turn HT2.out (fun g e => by rw [e]; exact hbb)) (HN.out.far HT2.out (fun e => hne e)) hnn (fun i hi => by have := HLEN.out i hi; omega) 0 (by decide) (by rw [HEQ.out.1, HEQ.out.2.1]; exact hll) hbb hhb hne (Nat.le_trans hsz hs2) (v' := .slice (some ⟨g3, 0, none⟩) (nl + ml) c3) (by rw [HEQ.out.1, HEQ.out.2.1]; exact hown3) (by rw [HEQ.out.2.2]; exact hgrow3) (by rw [HEQ.out.2.2]; exact lies_at hat3) 12 rfl); (rw [HEQ.out.2.2] at z1); (have HTS := Lib.hid HTS); (have HTF := Lib.hid ((HT1.out.trans_ HT2.out.ftb).trans_ hTF)); clear hTF hown3 hgrow3 hat3 hlt3)
    | (refine step_append_run rfl _ _ 25 25 rfl (.slice A nl c) (.slice (some ⟨g2, 0, none⟩) ml c2) (by simp [Act.eval]) (by simp [Act.eval]) hap ?_))
  all_goals (go_wp2; go_end0; exact ⟨rfl, HTS.out, HTF.out⟩)
end Go.Proofs.YtcjoiiaankngjaaGreatDoor
/- deps: a row of the target grows. -/
namespace Go.Proofs.YtcjoiiaankngjaaGreatDoor
set_option maxRecDepth 100000
open Go.RowKit
set_option maxHeartbeats 4000000 in
theorem deps_any {w : World} {b a m h base k : Nat} {σ : Pst} {T : Tgt} (S : TS w b a m h base (k + 1) σ T) (t : Tok) :
    Calls Tryz.prog 68 #[.pointer (some ⟨b, 0, none⟩), tokV t] w (TOut w b a m h base k (pGrow 1 (pLimited pTexts) (σ, T))) := by
  unfold TOut pGrow
  obtain ⟨i0, hi, hz0, hz1, hz2⟩ := info_parts info52
  obtain ⟨x, hx⟩ : ∃ x, str t.txt = x := ⟨_, rfl⟩
  obtain ⟨l0, hl0⟩ : ∃ l : Nat, t.ln = l := ⟨_, rfl⟩
  obtain ⟨c0, hc0⟩ : ∃ l : Nat, t.cls = l := ⟨_, rfl⟩
  obtain ⟨w1, hw1⟩ : ∃ w1, w.alloc (.cells #[.int .i64 (c0 : Int), .string x, .int .i64 (l0 : Int)] 91) = w1 := ⟨_, rfl⟩
  have hb1 : Below w.heap.size w w1 := by rw [← hw1]; exact (Below.refl _ w).alloc (Nat.le_refl _) _
  have S1 := (S.on hb1).drew
  obtain ⟨⟨vs, hP1, hR1⟩, ⟨n, hN, hn⟩, hlen, hbb, hhb, hne, hsz⟩ := S1
  have hsum : 0 < ((pLimited pTexts) σ).1.length ∧ ((pLimited pTexts) σ).1.length + plen ((pLimited pTexts) σ).2 ≤ 1 + plen σ := pLimited_sum pTexts (pList_sum pText pText_le) σ
  obtain ⟨l, hl⟩ : ∃ l, ((pLimited pTexts) σ).1 = l := ⟨_, rfl⟩
  obtain ⟨σ2, h2⟩ : ∃ s, ((pLimited pTexts) σ).2 = s := ⟨_, rfl⟩
  have LC := limited_any hP1 (.func (.func 107) #[.pointer (some ⟨b, 0, none⟩)] #[]) pTexts (by have := (pList_sum pText pText_le (pPlat σ).2).2; have := pPlat_le σ; have := hP1.plen_le; show (pList pText (pTake [44]) (pExpect [59]) plen (pPlat σ).2).1.length ≤ _; omega) (fun W s h => texts_any h)
  unfold ListOut at LC
  rw [hl, h2] at LC hsum
  dsimp only
  rw [hl, h2]
  unfold tokV
  rw [hx, hl0, hc0]
  obtain ⟨v, hv⟩ : ∃ v, vs 1 = v := ⟨_, rfl⟩
  obtain ⟨ml, hml⟩ : ∃ ml, l.length = ml := ⟨_, rfl⟩
  obtain ⟨nl, hnl⟩ : ∃ nl, (T.rows 1).length = nl := ⟨_, rfl⟩
  have hown := hR1.own 1 (by decide)
  rw [hv, hnl] at hown
  obtain ⟨A, c, rfl⟩ := own_form hown
  have k1 : w1.drew.cell? ⟨b, 13, none⟩ = some (.slice A nl c) := by
    have := (ts_cell hP1 (5 + 1)).1
    rw [← hv]
    exact this
  have hln := hlen 1 (by decide)
  rw [hnl] at hln
  have hXL : nl + ml ≤ 8589934593 := by unfold XL at hln; omega
  have hm0 : 0 < ml := by omega
  have hle2 : plen σ2 ≤ plen σ := by omega
  have hnn : n + k + plen σ2 ≤ XL := by omega
  have hll : nl + ml + k + plen σ2 ≤ XL := by omega
  rw [hml] at LC
  have HT1 := Lib.hid (show Turn (FT b h base) w w1.drew from (Turn.of hb1).drew)
  have HLC := Lib.hid LC
  have HR1 := Lib.hid hR1
  have HN := Lib.hid hN
  have HLEN := Lib.hid hlen
  have HEQ := Lib.hid (And.intro hml (And.intro hnl hv))
  have HK2 := Lib.hid (fun (W : World) (hP : PS W b σ2 (tR a m h T vs)) => (show W.cell? ⟨b, 13, none⟩ = some (.slice A nl c) by
    have := (ts_cell hP (5 + 1)).1
    rw [← hv]
    exact this))
  have HOWN := Lib.hid (fun (W : World) (hT : Turn (fun g => g = b) w1.drew W) => own_turn hown hT (fun g e => by rw [e]; exact hbb))
  clear hx hl0 hc0 hl h2 hsum hP1 hR1 hN hlen hown hb1 S LC hn hv hml hnl
  go_enter Tryz.func68, Tryz.ntmps68
  go_upto_region 1 with fail
  go_region_law (first
    | (refine step_call_fn rfl 105 _ _ rfl #[.pointer (some ⟨b, 0, none⟩), .func (.func 107) #[.pointer (some ⟨b, 0, none⟩)] #[]] (by rfl) (enters_of Tryz.func105 (by kernel_rfl) rfl) HLC.out ?_; rintro en w2 ⟨A2, c2, rfl, hO2, hP2, hT2⟩; refine ⟨_, rfl, ?_⟩; (have k2 := HK2.out w2 hP2); (unfold OwnI at hO2); (rw [HEQ.out.1] at hO2); (obtain ⟨g2, c2', hv2, hg2, _, _⟩ := own_some hO2 hm0); (injection hv2 with e1 _ e3); subst e1; (have hnews := own_news hO2); (have HNW := Lib.hid hnews); (have HO2 := Lib.hid hO2); (have HP2 := Lib.hid hP2); (have HT2 := Lib.hid hT2); (have hs2 := hT2.size); clear hnews hO2 hP2 hT2 e3; (obtain ⟨g3, c3, w3, hap, hown3, hgrow3, hat3, hlt3⟩ := run_append_lies w2 25 25 base 52 i0 (.agg #[.string ⟨#[]⟩, .bool false, .string ⟨#[]⟩, .int .i64 0]) 4 48 Tryz.underlying25 hi hz0 hz1 hz2 rfl (by decide) (.slice A nl c) nl (itmsC (T.rows 1)) (HOWN.out w2 HT2.out) ⟨g2, 0, none⟩ ml c2 (itmsC l) HO2.out.1 HNW.out (itms_one l) hm0 (by unfold maxLen; omega) (by omega) (Nat.le_trans hsz hs2) w2.heap.size rfl); (obtain ⟨⟨z1, z2⟩, HTS, hTF⟩ := row_end (w2 := w2) (w3 := w3) (k := k) (l := l) HP2.out (HR1.out.turn HT2.out (fun g e => by rw [e]; exact hbb)) (HN.out.far HT2.out (fun e => hne e)) hnn (fun i hi => by have := HLEN.out i hi; omega) 1 (by decide) (by rw [HEQ.out.1, HEQ.out.2.1]; exact hll) hbb hhb hne (Nat.le_trans hsz hs2) (v' := .slice (some ⟨g3, 0, none⟩) (nl + ml) c3) (by rw [HEQ.out.1, HEQ.out.2.1]; exact hown3) (by rw [HEQ.out.2.2]; exact hgrow3) (by rw [HEQ.out.2.2]; exact lies_at hat3) 13 rfl); (rw [HEQ.out.2.2] at z1); (have HTS := Lib.hid HTS); (have HTF := Lib.hid ((HT1.out.trans_ HT2.out.ftb).trans_ hTF)); clear hTF hown3 hgrow3 hat3 hlt3)
    | (refine step_append_run rfl _ _ 25 25 rfl (.slice A nl c) (.slice (some ⟨g2, 0, none⟩) ml c2) (by simp [Act.eval]) (by simp [Act.eval]) hap ?_))
  all_goals (go_wp2; go_end0; exact ⟨rfl, HTS.out, HTF.out⟩)
end Go.Proofs.YtcjoiiaankngjaaGreatDoor
/- outs: a row of the target grows. -/
namespace Go.Proofs.YtcjoiiaankngjaaGreatDoor
set_option maxRecDepth 100000
open Go.RowKit
set_option maxHeartbeats 4000000 in
theorem outs_any {w : World} {b a m h base k : Nat} {σ : Pst} {T : Tgt} (S : TS w b a m h base (k + 1) σ T) (t : Tok) :
    Calls Tryz.prog 69 #[.pointer (some ⟨b, 0, none⟩), tokV t] w (TOut w b a m h base k (pGrow 2 pTexts (σ, T))) := by
  unfold TOut pGrow
  obtain ⟨i0, hi, hz0, hz1, hz2⟩ := info_parts info52
  obtain ⟨x, hx⟩ : ∃ x, str t.txt = x := ⟨_, rfl⟩
  obtain ⟨l0, hl0⟩ : ∃ l : Nat, t.ln = l := ⟨_, rfl⟩
  obtain ⟨c0, hc0⟩ : ∃ l : Nat, t.cls = l := ⟨_, rfl⟩
  obtain ⟨w1, hw1⟩ : ∃ w1, w.alloc (.cells #[.int .i64 (c0 : Int), .string x, .int .i64 (l0 : Int)] 91) = w1 := ⟨_, rfl⟩
  have hb1 : Below w.heap.size w w1 := by rw [← hw1]; exact (Below.refl _ w).alloc (Nat.le_refl _) _
  have S1 := (S.on hb1).drew
  obtain ⟨⟨vs, hP1, hR1⟩, ⟨n, hN, hn⟩, hlen, hbb, hhb, hne, hsz⟩ := S1
  have hsum : 0 < (pTexts σ).1.length ∧ (pTexts σ).1.length + plen (pTexts σ).2 ≤ 1 + plen σ := pList_sum pText pText_le σ
  obtain ⟨l, hl⟩ : ∃ l, (pTexts σ).1 = l := ⟨_, rfl⟩
  obtain ⟨σ2, h2⟩ : ∃ s, (pTexts σ).2 = s := ⟨_, rfl⟩
  have LC := texts_any hP1
  unfold ListOut at LC
  rw [hl, h2] at LC hsum
  dsimp only
  rw [hl, h2]
  unfold tokV
  rw [hx, hl0, hc0]
  obtain ⟨v, hv⟩ : ∃ v, vs 2 = v := ⟨_, rfl⟩
  obtain ⟨ml, hml⟩ : ∃ ml, l.length = ml := ⟨_, rfl⟩
  obtain ⟨nl, hnl⟩ : ∃ nl, (T.rows 2).length = nl := ⟨_, rfl⟩
  have hown := hR1.own 2 (by decide)
  rw [hv, hnl] at hown
  obtain ⟨A, c, rfl⟩ := own_form hown
  have k1 : w1.drew.cell? ⟨b, 14, none⟩ = some (.slice A nl c) := by
    have := (ts_cell hP1 (5 + 2)).1
    rw [← hv]
    exact this
  have hln := hlen 2 (by decide)
  rw [hnl] at hln
  have hXL : nl + ml ≤ 8589934593 := by unfold XL at hln; omega
  have hm0 : 0 < ml := by omega
  have hle2 : plen σ2 ≤ plen σ := by omega
  have hnn : n + k + plen σ2 ≤ XL := by omega
  have hll : nl + ml + k + plen σ2 ≤ XL := by omega
  rw [hml] at LC
  have HT1 := Lib.hid (show Turn (FT b h base) w w1.drew from (Turn.of hb1).drew)
  have HLC := Lib.hid LC
  have HR1 := Lib.hid hR1
  have HN := Lib.hid hN
  have HLEN := Lib.hid hlen
  have HEQ := Lib.hid (And.intro hml (And.intro hnl hv))
  have HK2 := Lib.hid (fun (W : World) (hP : PS W b σ2 (tR a m h T vs)) => (show W.cell? ⟨b, 14, none⟩ = some (.slice A nl c) by
    have := (ts_cell hP (5 + 2)).1
    rw [← hv]
    exact this))
  have HOWN := Lib.hid (fun (W : World) (hT : Turn (fun g => g = b) w1.drew W) => own_turn hown hT (fun g e => by rw [e]; exact hbb))
  clear hx hl0 hc0 hl h2 hsum hP1 hR1 hN hlen hown hb1 S LC hn hv hml hnl
  go_enter Tryz.func69, Tryz.ntmps69
  go_upto_region 1 with fail
  go_region_law (first
    | (refine step_call_fn rfl 108 _ _ rfl #[.pointer (some ⟨b, 0, none⟩), .func (.func 107) #[.pointer (some ⟨b, 0, none⟩)] #[]] (by rfl) (enters_of Tryz.func108 (by kernel_rfl) rfl) HLC.out ?_; rintro en w2 ⟨A2, c2, rfl, hO2, hP2, hT2⟩; refine ⟨_, rfl, ?_⟩; (have k2 := HK2.out w2 hP2); (unfold OwnI at hO2); (rw [HEQ.out.1] at hO2); (obtain ⟨g2, c2', hv2, hg2, _, _⟩ := own_some hO2 hm0); (injection hv2 with e1 _ e3); subst e1; (have hnews := own_news hO2); (have HNW := Lib.hid hnews); (have HO2 := Lib.hid hO2); (have HP2 := Lib.hid hP2); (have HT2 := Lib.hid hT2); (have hs2 := hT2.size); clear hnews hO2 hP2 hT2 e3; (obtain ⟨g3, c3, w3, hap, hown3, hgrow3, hat3, hlt3⟩ := run_append_lies w2 25 25 base 52 i0 (.agg #[.string ⟨#[]⟩, .bool false, .string ⟨#[]⟩, .int .i64 0]) 4 48 Tryz.underlying25 hi hz0 hz1 hz2 rfl (by decide) (.slice A nl c) nl (itmsC (T.rows 2)) (HOWN.out w2 HT2.out) ⟨g2, 0, none⟩ ml c2 (itmsC l) HO2.out.1 HNW.out (itms_one l) hm0 (by unfold maxLen; omega) (by omega) (Nat.le_trans hsz hs2) w2.heap.size rfl); (obtain ⟨⟨z1, z2⟩, HTS, hTF⟩ := row_end (w2 := w2) (w3 := w3) (k := k) (l := l) HP2.out (HR1.out.turn HT2.out (fun g e => by rw [e]; exact hbb)) (HN.out.far HT2.out (fun e => hne e)) hnn (fun i hi => by have := HLEN.out i hi; omega) 2 (by decide) (by rw [HEQ.out.1, HEQ.out.2.1]; exact hll) hbb hhb hne (Nat.le_trans hsz hs2) (v' := .slice (some ⟨g3, 0, none⟩) (nl + ml) c3) (by rw [HEQ.out.1, HEQ.out.2.1]; exact hown3) (by rw [HEQ.out.2.2]; exact hgrow3) (by rw [HEQ.out.2.2]; exact lies_at hat3) 14 rfl); (rw [HEQ.out.2.2] at z1); (have HTS := Lib.hid HTS); (have HTF := Lib.hid ((HT1.out.trans_ HT2.out.ftb).trans_ hTF)); clear hTF hown3 hgrow3 hat3 hlt3)
    | (refine step_append_run rfl _ _ 25 25 rfl (.slice A nl c) (.slice (some ⟨g2, 0, none⟩) ml c2) (by simp [Act.eval]) (by simp [Act.eval]) hap ?_))
  all_goals (go_wp2; go_end0; exact ⟨rfl, HTS.out, HTF.out⟩)
end Go.Proofs.YtcjoiiaankngjaaGreatDoor
/- visible: a row of the target grows. -/
namespace Go.Proofs.YtcjoiiaankngjaaGreatDoor
set_option maxRecDepth 100000
open Go.RowKit
set_option maxHeartbeats 4000000 in
theorem visible_any {w : World} {b a m h base k : Nat} {σ : Pst} {T : Tgt} (S : TS w b a m h base (k + 1) σ T) (t : Tok) :
    Calls Tryz.prog 70 #[.pointer (some ⟨b, 0, none⟩), tokV t] w (TOut w b a m h base k (pGrow 3 pTexts (σ, T))) := by
  unfold TOut pGrow
  obtain ⟨i0, hi, hz0, hz1, hz2⟩ := info_parts info52
  obtain ⟨x, hx⟩ : ∃ x, str t.txt = x := ⟨_, rfl⟩
  obtain ⟨l0, hl0⟩ : ∃ l : Nat, t.ln = l := ⟨_, rfl⟩
  obtain ⟨c0, hc0⟩ : ∃ l : Nat, t.cls = l := ⟨_, rfl⟩
  obtain ⟨w1, hw1⟩ : ∃ w1, w.alloc (.cells #[.int .i64 (c0 : Int), .string x, .int .i64 (l0 : Int)] 91) = w1 := ⟨_, rfl⟩
  have hb1 : Below w.heap.size w w1 := by rw [← hw1]; exact (Below.refl _ w).alloc (Nat.le_refl _) _
  have S1 := (S.on hb1).drew
  obtain ⟨⟨vs, hP1, hR1⟩, ⟨n, hN, hn⟩, hlen, hbb, hhb, hne, hsz⟩ := S1
  have hsum : 0 < (pTexts σ).1.length ∧ (pTexts σ).1.length + plen (pTexts σ).2 ≤ 1 + plen σ := pList_sum pText pText_le σ
  obtain ⟨l, hl⟩ : ∃ l, (pTexts σ).1 = l := ⟨_, rfl⟩
  obtain ⟨σ2, h2⟩ : ∃ s, (pTexts σ).2 = s := ⟨_, rfl⟩
  have LC := texts_any hP1
  unfold ListOut at LC
  rw [hl, h2] at LC hsum
  dsimp only
  rw [hl, h2]
  unfold tokV
  rw [hx, hl0, hc0]
  obtain ⟨v, hv⟩ : ∃ v, vs 3 = v := ⟨_, rfl⟩
  obtain ⟨ml, hml⟩ : ∃ ml, l.length = ml := ⟨_, rfl⟩
  obtain ⟨nl, hnl⟩ : ∃ nl, (T.rows 3).length = nl := ⟨_, rfl⟩
  have hown := hR1.own 3 (by decide)
  rw [hv, hnl] at hown
  obtain ⟨A, c, rfl⟩ := own_form hown
  have k1 : w1.drew.cell? ⟨b, 15, none⟩ = some (.slice A nl c) := by
    have := (ts_cell hP1 (5 + 3)).1
    rw [← hv]
    exact this
  have hln := hlen 3 (by decide)
  rw [hnl] at hln
  have hXL : nl + ml ≤ 8589934593 := by unfold XL at hln; omega
  have hm0 : 0 < ml := by omega
  have hle2 : plen σ2 ≤ plen σ := by omega
  have hnn : n + k + plen σ2 ≤ XL := by omega
  have hll : nl + ml + k + plen σ2 ≤ XL := by omega
  rw [hml] at LC
  have HT1 := Lib.hid (show Turn (FT b h base) w w1.drew from (Turn.of hb1).drew)
  have HLC := Lib.hid LC
  have HR1 := Lib.hid hR1
  have HN := Lib.hid hN
  have HLEN := Lib.hid hlen
  have HEQ := Lib.hid (And.intro hml (And.intro hnl hv))
  have HK2 := Lib.hid (fun (W : World) (hP : PS W b σ2 (tR a m h T vs)) => (show W.cell? ⟨b, 15, none⟩ = some (.slice A nl c) by
    have := (ts_cell hP (5 + 3)).1
    rw [← hv]
    exact this))
  have HOWN := Lib.hid (fun (W : World) (hT : Turn (fun g => g = b) w1.drew W) => own_turn hown hT (fun g e => by rw [e]; exact hbb))
  clear hx hl0 hc0 hl h2 hsum hP1 hR1 hN hlen hown hb1 S LC hn hv hml hnl
  go_enter Tryz.func70, Tryz.ntmps70
  go_upto_region 1 with fail
  go_region_law (first
    | (refine step_call_fn rfl 108 _ _ rfl #[.pointer (some ⟨b, 0, none⟩), .func (.func 107) #[.pointer (some ⟨b, 0, none⟩)] #[]] (by rfl) (enters_of Tryz.func108 (by kernel_rfl) rfl) HLC.out ?_; rintro en w2 ⟨A2, c2, rfl, hO2, hP2, hT2⟩; refine ⟨_, rfl, ?_⟩; (have k2 := HK2.out w2 hP2); (unfold OwnI at hO2); (rw [HEQ.out.1] at hO2); (obtain ⟨g2, c2', hv2, hg2, _, _⟩ := own_some hO2 hm0); (injection hv2 with e1 _ e3); subst e1; (have hnews := own_news hO2); (have HNW := Lib.hid hnews); (have HO2 := Lib.hid hO2); (have HP2 := Lib.hid hP2); (have HT2 := Lib.hid hT2); (have hs2 := hT2.size); clear hnews hO2 hP2 hT2 e3; (obtain ⟨g3, c3, w3, hap, hown3, hgrow3, hat3, hlt3⟩ := run_append_lies w2 25 25 base 52 i0 (.agg #[.string ⟨#[]⟩, .bool false, .string ⟨#[]⟩, .int .i64 0]) 4 48 Tryz.underlying25 hi hz0 hz1 hz2 rfl (by decide) (.slice A nl c) nl (itmsC (T.rows 3)) (HOWN.out w2 HT2.out) ⟨g2, 0, none⟩ ml c2 (itmsC l) HO2.out.1 HNW.out (itms_one l) hm0 (by unfold maxLen; omega) (by omega) (Nat.le_trans hsz hs2) w2.heap.size rfl); (obtain ⟨⟨z1, z2⟩, HTS, hTF⟩ := row_end (w2 := w2) (w3 := w3) (k := k) (l := l) HP2.out (HR1.out.turn HT2.out (fun g e => by rw [e]; exact hbb)) (HN.out.far HT2.out (fun e => hne e)) hnn (fun i hi => by have := HLEN.out i hi; omega) 3 (by decide) (by rw [HEQ.out.1, HEQ.out.2.1]; exact hll) hbb hhb hne (Nat.le_trans hsz hs2) (v' := .slice (some ⟨g3, 0, none⟩) (nl + ml) c3) (by rw [HEQ.out.1, HEQ.out.2.1]; exact hown3) (by rw [HEQ.out.2.2]; exact hgrow3) (by rw [HEQ.out.2.2]; exact lies_at hat3) 15 rfl); (rw [HEQ.out.2.2] at z1); (have HTS := Lib.hid HTS); (have HTF := Lib.hid ((HT1.out.trans_ HT2.out.ftb).trans_ hTF)); clear hTF hown3 hgrow3 hat3 hlt3)
    | (refine step_append_run rfl _ _ 25 25 rfl (.slice A nl c) (.slice (some ⟨g2, 0, none⟩) ml c2) (by simp [Act.eval]) (by simp [Act.eval]) hap ?_))
  all_goals (go_wp2; go_end0; exact ⟨rfl, HTS.out, HTF.out⟩)
end Go.Proofs.YtcjoiiaankngjaaGreatDoor
/- attribute. -/
namespace Go.Proofs.YtcjoiiaankngjaaGreatDoor
set_option maxRecDepth 100000
open Go.RowKit Go.Maps Go.ChangeMaps Go.MapKept Go.WideShapes
def wKind : List UInt8 := [107, 105, 110, 100]
def wSrcs : List UInt8 := [115, 114, 99, 115]
def wDeps : List UInt8 := [100, 101, 112, 115]
def wOut : List UInt8 := [111, 117, 116]
def wVis : List UInt8 := [118, 105, 115, 105, 98, 108, 101]
def wCost : List UInt8 := [99, 111, 115, 116]
def wRetry : List UInt8 := [114, 101, 116, 114, 121]
/-- the function of an attribute's word -/
def fnOf (s : List UInt8) : Option Nat :=
  if s = wKind then some 66 else if s = wSrcs then some 67 else if s = wDeps then some 68 else if s = wOut then some 69 else if s = wVis then some 70 else if s = wCost then some 71 else if s = wRetry then some 72 else none
theorem fnOf_some {s : List UInt8} {n : Nat} (h : fnOf s = some n) : (n = 66 ∨ n = 67 ∨ n = 68 ∨ n = 69 ∨ n = 70 ∨ n = 71 ∨ n = 72) ∧ (first s).1 = 2 := by
  unfold fnOf at h
  by_cases h1 : s = wKind
  · rw [if_pos h1] at h; injection h with h; subst h h1; exact ⟨by decide, by decide⟩
  · rw [if_neg h1] at h
    by_cases h2 : s = wSrcs
    · rw [if_pos h2] at h; injection h with h; subst h h2; exact ⟨by decide, by decide⟩
    · rw [if_neg h2] at h
      by_cases h3 : s = wDeps
      · rw [if_pos h3] at h; injection h with h; subst h h3; exact ⟨by decide, by decide⟩
      · rw [if_neg h3] at h
        by_cases h4 : s = wOut
        · rw [if_pos h4] at h; injection h with h; subst h h4; exact ⟨by decide, by decide⟩
        · rw [if_neg h4] at h
          by_cases h5 : s = wVis
          · rw [if_pos h5] at h; injection h with h; subst h h5; exact ⟨by decide, by decide⟩
          · rw [if_neg h5] at h
            by_cases h6 : s = wCost
            · rw [if_pos h6] at h; injection h with h; subst h h6; exact ⟨by decide, by decide⟩
            · rw [if_neg h6] at h
              by_cases h7 : s = wRetry
              · rw [if_pos h7] at h; injection h with h; subst h h7; exact ⟨by decide, by decide⟩
              · rw [if_neg h7] at h; cases h
/-- how a function of the attributes reads -/
def fnElem (b : Nat) (v : Value) : Option (DataW Unit × List MemPlace) :=
  match v with
  | .nilFunc => some (.lit (.int .i64 0), [])
  | .func (.func n) f c => if f.toList.map (fun u => (match u with | .pointer (some a) => decide (a = ⟨b, 0, none⟩) | _ => false)) = [true] ∧ c.size = 0 then some (.lit (.int .i64 (n : Int)), []) else none
  | _ => none
def fnV (b n : Nat) : Value := .func (.func n) #[.pointer (some ⟨b, 0, none⟩)] #[]
theorem fnElem_fn (b n : Nat) : fnElem b (fnV b n) = some (.lit (.int .i64 (n : Int)), []) := by
  unfold fnElem fnV
  simp
theorem fnElem_inv {b : Nat} {v : Value} {n : Nat} {ps : List MemPlace} (h : fnElem b v = some (.lit (.int .i64 (n : Int)), ps)) (hn : n ≠ 0) : v = fnV b n := by
  unfold fnElem at h
  cases v with
  | nilFunc =>
    simp at h
    omega
  | func fn f c =>
    cases fn with
    | func m =>
      simp only at h
      by_cases hc : f.toList.map (fun u => (match u with | .pointer (some a) => decide (a = ⟨b, 0, none⟩) | _ => false)) = [true] ∧ c.size = 0
      · rw [if_pos hc] at h
        obtain ⟨h1, h2⟩ := hc
        injection h with h
        injection h with h _
        injection h with h
        injection h with _ h
        have hmn : m = n := by exact_mod_cast h
        subst hmn
        have hc0 : c = #[] := Array.eq_empty_of_size_eq_zero h2
        subst hc0
        unfold fnV
        obtain ⟨l⟩ := f
        cases l with
        | nil => simp at h1
        | cons u q =>
          cases q with
          | cons u2 q => simp at h1
          | nil =>
            simp at h1
            split at h1
            · rename_i a
              have e := of_decide_eq_true h1
              subst e
              rfl
            · cases h1
      · rw [if_neg hc] at h; cases h
    | _ => simp at h
  | _ => simp at h
/-- the map of the attributes -/
def Attrs (w : World) (a b : Nat) : Prop := ∃ (D : DataW Unit) (n : Nat), w.ownsMap Tryz.prog 9 (fnElem b) a n D ∧ IsMap D ∧ ∀ s : ByteArray, has D (klS s) = (fnOf s.data.toList).isSome ∧ ∀ n, fnOf s.data.toList = some n → ∀ z, D.atKey (klS s) z = .lit (.int .i64 (n : Int))
theorem zero121 (w : World) : (zeroValue 121).run Tryz.prog w = .ok .nilFunc w := by kernel_rfl
theorem Attrs.look {w : World} {a b : Nat} (h : Attrs w a b) (s : ByteArray) (hs : s.size ≤ maxLen) : ∃ v, (Instr.lookup 92 (.map (some a)) (.string s) true).run Tryz.prog w = .ok (.tuple #[v, .bool (fnOf s.data.toList).isSome]) w ∧ ∀ n, fnOf s.data.toList = some n → v = fnV b n := by
  obtain ⟨D, m, hm, _, hD⟩ := h
  have hk : keyOf Tryz.prog 9 (.string s) = some (klS s) := WideMaps.keyOf_string_mk (P := Tryz.prog) Tryz.underlying9 hs
  obtain ⟨v, ps, hr, hv⟩ := hm.look_ok law9 Tryz.underlying92 (zero121 w) (show fnElem b .nilFunc = some (.lit (.int .i64 0), []) from rfl) hk
  obtain ⟨h1, h2⟩ := hD s
  refine ⟨v, by rw [hr, h1], fun n hn => ?_⟩
  rw [h2 n hn] at hv
  exact fnElem_inv hv (by have := (fnOf_some hn).1; omega)
theorem Attrs.keep {w w' : World} {a b : Nat} (h : Attrs w a b) (hb : w'.heap[a]? = w.heap[a]?) : Attrs w' a b := by
  obtain ⟨D, n, hm, hD⟩ := h
  exact ⟨D, n, ownsMap_keep hm hb, hD⟩
theorem Attrs.lt {w : World} {a b : Nat} (h : Attrs w a b) : a < w.heap.size := by
  obtain ⟨D, n, hm, hD⟩ := h
  exact hm.lt
theorem Attrs.far {F : Nat → Prop} {w w' : World} {a b : Nat} (h : Attrs w a b) (ht : Turn F w w') (hF : ¬ F a) : Attrs w' a b := h.keep (ht.block a h.lt hF)
/-- an attribute of the word's function -/
def pRun (n : Nat) (t : Tok) (r : Pst × Tgt) : Pst × Tgt :=
  if n = 66 then pKind t r else if n = 67 then pGrow 0 (pLimited pSources) r else if n = 68 then pGrow 1 (pLimited pTexts) r else if n = 69 then pGrow 2 pTexts r else if n = 70 then pGrow 3 pTexts r else if n = 71 then pCost t r else pRetry t r
def pAttr : Pst × Tgt → Bool × Pst × Tgt
  | (.ok (t :: r), T) => match fnOf t.txt with
    | some n => (true, pRun n t (.ok r, T))
    | none => (false, .ok (t :: r), T)
  | (σ, T) => (false, σ, T)
/-- the text of the token ahead -/
def pTx : Pst → List UInt8
  | .ok (t :: _) => t.txt
  | _ => []
theorem ps_tx {w : World} {b : Nat} {σ : Pst} {R : List Value} (h : PS w b σ R) : w.cell? ⟨b, 3, none⟩ = some (.string (str (pTx σ))) ∧ (pTx σ).length ≤ 4294967000 ∧ (∀ t r, σ = .ok (t :: r) → TokOk t) := by
  obtain ⟨s, n, c, tx, tl, e, el, hP, hs, hC⟩ := h
  rw [Full.cell hP 3]
  show some (Value.string tx) = _ ∧ _
  cases σ with
  | bad e' l' =>
    obtain ⟨_, _, _, _, h5, _⟩ := hC
    rw [h5]; exact ⟨rfl, Nat.zero_le _, fun t r e => by cases e⟩
  | ok ts =>
    obtain ⟨t, r, hts, _, htx, _, hok, _⟩ := ok_cons hC
    rw [hts, htx]
    exact ⟨rfl, hok.2, fun t' r' e => by injection e with e; injection e with e1 _; rw [← e1]; exact hok⟩
theorem TS.adv {w : World} {b a m h base k : Nat} {t : Tok} {r : List Tok} {T : Tgt} (S : TS w b a m h base k (.ok (t :: r)) T) (ht : 2 ≤ t.cls) :
    Calls Tryz.prog 112 #[.pointer (some ⟨b, 0, none⟩)] w fun en w' => en = .returned (tokV t) ∧ TS w' b a m h base (k + 1) (.ok r) T ∧ Turn (fun g => g = b) w w' := by
  obtain ⟨⟨vs, hP, hR⟩, ⟨n, hN, hn⟩, hlen, hbb, hhb, hne, hsz⟩ := S
  refine (adv_any hP ht).mono ?_
  rintro en w' ⟨he, hP', hT⟩
  have e : plen (.ok (t :: r)) = plen (.ok r) + 1 := by simp [plen]
  exact ⟨he, ⟨⟨vs, hP', hR.turn hT (fun g e => by rw [e]; exact hbb)⟩, ⟨n, hN.far hT (fun e => hne e), by omega⟩, fun i hi => (by have := hlen i hi; omega), hbb, hhb, hne, Nat.le_trans hsz hT.size⟩, hT⟩
def AttrOut (w : World) (b a m h base : Nat) (r : Bool × Pst × Tgt) (en : Ending) (w' : World) : Prop := en = .returned (.bool r.1) ∧ TS w' b a m h base 0 r.2.1 r.2.2 ∧ Turn (FT b h base) w w'
theorem pAttr_no {σ : Pst} {T : Tgt} (h : fnOf (pTx σ) = none) : pAttr (σ, T) = (false, σ, T) := by
  cases σ with
  | bad e l => rfl
  | ok ts =>
    cases ts with
    | nil => rfl
    | cons t r =>
      have e : fnOf t.txt = none := h
      show (match fnOf t.txt with
        | some n => (true, pRun n t (.ok r, T))
        | none => (false, .ok (t :: r), T)) = _
      rw [e]
theorem pAttr_yes {σ : Pst} {T : Tgt} {n : Nat} (h : fnOf (pTx σ) = some n) : ∃ t r, σ = .ok (t :: r) ∧ fnOf t.txt = some n ∧ pAttr (σ, T) = (true, pRun n t (.ok r, T)) := by
  cases σ with
  | bad e l => exact absurd (show (none : Option Nat) = some n from h) (by simp)
  | ok ts =>
    cases ts with
    | nil => exact absurd (show (none : Option Nat) = some n from h) (by simp)
    | cons t r =>
      refine ⟨t, r, rfl, h, ?_⟩
      have e : fnOf t.txt = some n := h
      show (match fnOf t.txt with
        | some n => (true, pRun n t (.ok r, T))
        | none => (false, .ok (t :: r), T)) = _
      rw [e]
set_option maxHeartbeats 4000000 in
theorem attr_66 {w : World} {b a m h base : Nat} {t : Tok} {r : List Tok} {T : Tgt} (S : TS w b a m h base 0 (.ok (t :: r)) T) (hA : Attrs w a b) (hL : Laid w) (hb9 : 9 ≤ b) (hh9 : 9 ≤ h) (hf : fnOf t.txt = some 66) (ht : 2 ≤ t.cls) (htl : t.txt.length ≤ 4294967000) (r' : Pst × Tgt) (hr' : pRun 66 t (.ok r, T) = r') :
    Calls Tryz.prog 115 #[.pointer (some ⟨b, 0, none⟩)] w (AttrOut w b a m h base (true, r')) := by
  unfold AttrOut
  obtain ⟨vs, hP, hR⟩ := S.ps
  have k3 : w.drew.cell? ⟨b, 3, none⟩ = some (.string (str t.txt)) := (ps_tx hP).1
  have k7 : w.drew.cell? ⟨b, 7, none⟩ = some (.map (some a)) := (ts_cell hP 0).1
  obtain ⟨v, hlk, hv⟩ := Attrs.look (hA.keep rfl : Attrs w.drew a b) (str t.txt) (by rw [str_size]; unfold maxLen; omega)
  rw [str_data, hf] at hlk hv
  have hv := hv 66 rfl
  subst hv
  unfold fnV at hlk
  dsimp only [Option.isSome] at hlk
  obtain ⟨X, hX⟩ : ∃ X, str t.txt = X := ⟨_, rfl⟩
  rw [hX] at k3 hlk
  have AD := Lib.hid (TS.adv S.drew ht)
  have CF := Lib.hid (fun (W : World) (hT : Turn (fun g => g = b) w W) (S : TS W b a m h base 1 (.ok r) T) => ((by rw [← hr']; exact kind_any S (hL.turn hT (fun g e => by omega)) hb9 hh9 t htl) : Calls Tryz.prog 66 #[.pointer (some ⟨b, 0, none⟩), tokV t] W (TOut W b a m h base 0 r')))
  unfold TOut at CF
  obtain ⟨tv, htv⟩ : ∃ tv, tokV t = tv := ⟨_, rfl⟩
  rw [htv] at AD CF
  have HT0 := Lib.hid (show Turn (fun g => g = b) w w.drew from (Turn.refl _ w).drew)
  clear hX htv S hA hL hP hR hr' hf
  go_enter Tryz.func115, Tryz.ntmps115
  go_upto_region 1 with fail
  go_region
  all_goals
    go_wp2_with (first
      | (go_at_call 112; ((with_reducible refine AD.out.mono ?_); rintro en w1 ⟨rfl, hS1, hT1⟩; (have HT1 := Lib.hid (HT0.out.trans_ hT1))))
      | (go_at_call 66; ((with_reducible refine (CF.out w1 HT1.out hS1).mono ?_); rintro en w2 ⟨rfl, hS2, hT2⟩))
      | (fail "arm"))
    go_ret
    exact ⟨rfl, hS2, HT1.out.ftb.trans_ hT2⟩
set_option maxHeartbeats 4000000 in
theorem attr_67 {w : World} {b a m h base : Nat} {t : Tok} {r : List Tok} {T : Tgt} (S : TS w b a m h base 0 (.ok (t :: r)) T) (hA : Attrs w a b) (_hL : Laid w) (_hb9 : 9 ≤ b) (_hh9 : 9 ≤ h) (hf : fnOf t.txt = some 67) (ht : 2 ≤ t.cls) (htl : t.txt.length ≤ 4294967000) (r' : Pst × Tgt) (hr' : pRun 67 t (.ok r, T) = r') :
    Calls Tryz.prog 115 #[.pointer (some ⟨b, 0, none⟩)] w (AttrOut w b a m h base (true, r')) := by
  unfold AttrOut
  obtain ⟨vs, hP, hR⟩ := S.ps
  have k3 : w.drew.cell? ⟨b, 3, none⟩ = some (.string (str t.txt)) := (ps_tx hP).1
  have k7 : w.drew.cell? ⟨b, 7, none⟩ = some (.map (some a)) := (ts_cell hP 0).1
  obtain ⟨v, hlk, hv⟩ := Attrs.look (hA.keep rfl : Attrs w.drew a b) (str t.txt) (by rw [str_size]; unfold maxLen; omega)
  rw [str_data, hf] at hlk hv
  have hv := hv 67 rfl
  subst hv
  unfold fnV at hlk
  dsimp only [Option.isSome] at hlk
  obtain ⟨X, hX⟩ : ∃ X, str t.txt = X := ⟨_, rfl⟩
  rw [hX] at k3 hlk
  have AD := Lib.hid (TS.adv S.drew ht)
  have CF := Lib.hid (fun (W : World) (hT : Turn (fun g => g = b) w W) (S : TS W b a m h base 1 (.ok r) T) => ((by rw [← hr']; exact srcs_any S t) : Calls Tryz.prog 67 #[.pointer (some ⟨b, 0, none⟩), tokV t] W (TOut W b a m h base 0 r')))
  unfold TOut at CF
  obtain ⟨tv, htv⟩ : ∃ tv, tokV t = tv := ⟨_, rfl⟩
  rw [htv] at AD CF
  have HT0 := Lib.hid (show Turn (fun g => g = b) w w.drew from (Turn.refl _ w).drew)
  clear hX htv S hA _hL hP hR hr' hf
  go_enter Tryz.func115, Tryz.ntmps115
  go_upto_region 1 with fail
  go_region
  all_goals
    go_wp2_with (first
      | (go_at_call 112; ((with_reducible refine AD.out.mono ?_); rintro en w1 ⟨rfl, hS1, hT1⟩; (have HT1 := Lib.hid (HT0.out.trans_ hT1))))
      | (go_at_call 67; ((with_reducible refine (CF.out w1 HT1.out hS1).mono ?_); rintro en w2 ⟨rfl, hS2, hT2⟩))
      | (fail "arm"))
    go_ret
    exact ⟨rfl, hS2, HT1.out.ftb.trans_ hT2⟩
set_option maxHeartbeats 4000000 in
theorem attr_68 {w : World} {b a m h base : Nat} {t : Tok} {r : List Tok} {T : Tgt} (S : TS w b a m h base 0 (.ok (t :: r)) T) (hA : Attrs w a b) (_hL : Laid w) (_hb9 : 9 ≤ b) (_hh9 : 9 ≤ h) (hf : fnOf t.txt = some 68) (ht : 2 ≤ t.cls) (htl : t.txt.length ≤ 4294967000) (r' : Pst × Tgt) (hr' : pRun 68 t (.ok r, T) = r') :
    Calls Tryz.prog 115 #[.pointer (some ⟨b, 0, none⟩)] w (AttrOut w b a m h base (true, r')) := by
  unfold AttrOut
  obtain ⟨vs, hP, hR⟩ := S.ps
  have k3 : w.drew.cell? ⟨b, 3, none⟩ = some (.string (str t.txt)) := (ps_tx hP).1
  have k7 : w.drew.cell? ⟨b, 7, none⟩ = some (.map (some a)) := (ts_cell hP 0).1
  obtain ⟨v, hlk, hv⟩ := Attrs.look (hA.keep rfl : Attrs w.drew a b) (str t.txt) (by rw [str_size]; unfold maxLen; omega)
  rw [str_data, hf] at hlk hv
  have hv := hv 68 rfl
  subst hv
  unfold fnV at hlk
  dsimp only [Option.isSome] at hlk
  obtain ⟨X, hX⟩ : ∃ X, str t.txt = X := ⟨_, rfl⟩
  rw [hX] at k3 hlk
  have AD := Lib.hid (TS.adv S.drew ht)
  have CF := Lib.hid (fun (W : World) (hT : Turn (fun g => g = b) w W) (S : TS W b a m h base 1 (.ok r) T) => ((by rw [← hr']; exact deps_any S t) : Calls Tryz.prog 68 #[.pointer (some ⟨b, 0, none⟩), tokV t] W (TOut W b a m h base 0 r')))
  unfold TOut at CF
  obtain ⟨tv, htv⟩ : ∃ tv, tokV t = tv := ⟨_, rfl⟩
  rw [htv] at AD CF
  have HT0 := Lib.hid (show Turn (fun g => g = b) w w.drew from (Turn.refl _ w).drew)
  clear hX htv S hA _hL hP hR hr' hf
  go_enter Tryz.func115, Tryz.ntmps115
  go_upto_region 1 with fail
  go_region
  all_goals
    go_wp2_with (first
      | (go_at_call 112; ((with_reducible refine AD.out.mono ?_); rintro en w1 ⟨rfl, hS1, hT1⟩; (have HT1 := Lib.hid (HT0.out.trans_ hT1))))
      | (go_at_call 68; ((with_reducible refine (CF.out w1 HT1.out hS1).mono ?_); rintro en w2 ⟨rfl, hS2, hT2⟩))
      | (fail "arm"))
    go_ret
    exact ⟨rfl, hS2, HT1.out.ftb.trans_ hT2⟩
set_option maxHeartbeats 4000000 in
theorem attr_69 {w : World} {b a m h base : Nat} {t : Tok} {r : List Tok} {T : Tgt} (S : TS w b a m h base 0 (.ok (t :: r)) T) (hA : Attrs w a b) (_hL : Laid w) (_hb9 : 9 ≤ b) (_hh9 : 9 ≤ h) (hf : fnOf t.txt = some 69) (ht : 2 ≤ t.cls) (htl : t.txt.length ≤ 4294967000) (r' : Pst × Tgt) (hr' : pRun 69 t (.ok r, T) = r') :
    Calls Tryz.prog 115 #[.pointer (some ⟨b, 0, none⟩)] w (AttrOut w b a m h base (true, r')) := by
  unfold AttrOut
  obtain ⟨vs, hP, hR⟩ := S.ps
  have k3 : w.drew.cell? ⟨b, 3, none⟩ = some (.string (str t.txt)) := (ps_tx hP).1
  have k7 : w.drew.cell? ⟨b, 7, none⟩ = some (.map (some a)) := (ts_cell hP 0).1
  obtain ⟨v, hlk, hv⟩ := Attrs.look (hA.keep rfl : Attrs w.drew a b) (str t.txt) (by rw [str_size]; unfold maxLen; omega)
  rw [str_data, hf] at hlk hv
  have hv := hv 69 rfl
  subst hv
  unfold fnV at hlk
  dsimp only [Option.isSome] at hlk
  obtain ⟨X, hX⟩ : ∃ X, str t.txt = X := ⟨_, rfl⟩
  rw [hX] at k3 hlk
  have AD := Lib.hid (TS.adv S.drew ht)
  have CF := Lib.hid (fun (W : World) (hT : Turn (fun g => g = b) w W) (S : TS W b a m h base 1 (.ok r) T) => ((by rw [← hr']; exact outs_any S t) : Calls Tryz.prog 69 #[.pointer (some ⟨b, 0, none⟩), tokV t] W (TOut W b a m h base 0 r')))
  unfold TOut at CF
  obtain ⟨tv, htv⟩ : ∃ tv, tokV t = tv := ⟨_, rfl⟩
  rw [htv] at AD CF
  have HT0 := Lib.hid (show Turn (fun g => g = b) w w.drew from (Turn.refl _ w).drew)
  clear hX htv S hA _hL hP hR hr' hf
  go_enter Tryz.func115, Tryz.ntmps115
  go_upto_region 1 with fail
  go_region
  all_goals
    go_wp2_with (first
      | (go_at_call 112; ((with_reducible refine AD.out.mono ?_); rintro en w1 ⟨rfl, hS1, hT1⟩; (have HT1 := Lib.hid (HT0.out.trans_ hT1))))
      | (go_at_call 69; ((with_reducible refine (CF.out w1 HT1.out hS1).mono ?_); rintro en w2 ⟨rfl, hS2, hT2⟩))
      | (fail "arm"))
    go_ret
    exact ⟨rfl, hS2, HT1.out.ftb.trans_ hT2⟩
set_option maxHeartbeats 4000000 in
theorem attr_70 {w : World} {b a m h base : Nat} {t : Tok} {r : List Tok} {T : Tgt} (S : TS w b a m h base 0 (.ok (t :: r)) T) (hA : Attrs w a b) (_hL : Laid w) (_hb9 : 9 ≤ b) (_hh9 : 9 ≤ h) (hf : fnOf t.txt = some 70) (ht : 2 ≤ t.cls) (htl : t.txt.length ≤ 4294967000) (r' : Pst × Tgt) (hr' : pRun 70 t (.ok r, T) = r') :
    Calls Tryz.prog 115 #[.pointer (some ⟨b, 0, none⟩)] w (AttrOut w b a m h base (true, r')) := by
  unfold AttrOut
  obtain ⟨vs, hP, hR⟩ := S.ps
  have k3 : w.drew.cell? ⟨b, 3, none⟩ = some (.string (str t.txt)) := (ps_tx hP).1
  have k7 : w.drew.cell? ⟨b, 7, none⟩ = some (.map (some a)) := (ts_cell hP 0).1
  obtain ⟨v, hlk, hv⟩ := Attrs.look (hA.keep rfl : Attrs w.drew a b) (str t.txt) (by rw [str_size]; unfold maxLen; omega)
  rw [str_data, hf] at hlk hv
  have hv := hv 70 rfl
  subst hv
  unfold fnV at hlk
  dsimp only [Option.isSome] at hlk
  obtain ⟨X, hX⟩ : ∃ X, str t.txt = X := ⟨_, rfl⟩
  rw [hX] at k3 hlk
  have AD := Lib.hid (TS.adv S.drew ht)
  have CF := Lib.hid (fun (W : World) (hT : Turn (fun g => g = b) w W) (S : TS W b a m h base 1 (.ok r) T) => ((by rw [← hr']; exact visible_any S t) : Calls Tryz.prog 70 #[.pointer (some ⟨b, 0, none⟩), tokV t] W (TOut W b a m h base 0 r')))
  unfold TOut at CF
  obtain ⟨tv, htv⟩ : ∃ tv, tokV t = tv := ⟨_, rfl⟩
  rw [htv] at AD CF
  have HT0 := Lib.hid (show Turn (fun g => g = b) w w.drew from (Turn.refl _ w).drew)
  clear hX htv S hA _hL hP hR hr' hf
  go_enter Tryz.func115, Tryz.ntmps115
  go_upto_region 1 with fail
  go_region
  all_goals
    go_wp2_with (first
      | (go_at_call 112; ((with_reducible refine AD.out.mono ?_); rintro en w1 ⟨rfl, hS1, hT1⟩; (have HT1 := Lib.hid (HT0.out.trans_ hT1))))
      | (go_at_call 70; ((with_reducible refine (CF.out w1 HT1.out hS1).mono ?_); rintro en w2 ⟨rfl, hS2, hT2⟩))
      | (fail "arm"))
    go_ret
    exact ⟨rfl, hS2, HT1.out.ftb.trans_ hT2⟩
set_option maxHeartbeats 4000000 in
theorem attr_71 {w : World} {b a m h base : Nat} {t : Tok} {r : List Tok} {T : Tgt} (S : TS w b a m h base 0 (.ok (t :: r)) T) (hA : Attrs w a b) (hL : Laid w) (hb9 : 9 ≤ b) (hh9 : 9 ≤ h) (hf : fnOf t.txt = some 71) (ht : 2 ≤ t.cls) (htl : t.txt.length ≤ 4294967000) (r' : Pst × Tgt) (hr' : pRun 71 t (.ok r, T) = r') :
    Calls Tryz.prog 115 #[.pointer (some ⟨b, 0, none⟩)] w (AttrOut w b a m h base (true, r')) := by
  unfold AttrOut
  obtain ⟨vs, hP, hR⟩ := S.ps
  have k3 : w.drew.cell? ⟨b, 3, none⟩ = some (.string (str t.txt)) := (ps_tx hP).1
  have k7 : w.drew.cell? ⟨b, 7, none⟩ = some (.map (some a)) := (ts_cell hP 0).1
  obtain ⟨v, hlk, hv⟩ := Attrs.look (hA.keep rfl : Attrs w.drew a b) (str t.txt) (by rw [str_size]; unfold maxLen; omega)
  rw [str_data, hf] at hlk hv
  have hv := hv 71 rfl
  subst hv
  unfold fnV at hlk
  dsimp only [Option.isSome] at hlk
  obtain ⟨X, hX⟩ : ∃ X, str t.txt = X := ⟨_, rfl⟩
  rw [hX] at k3 hlk
  have AD := Lib.hid (TS.adv S.drew ht)
  have CF := Lib.hid (fun (W : World) (hT : Turn (fun g => g = b) w W) (S : TS W b a m h base 1 (.ok r) T) => ((by rw [← hr']; exact cost_any S (hL.turn hT (fun g e => by omega)) hb9 hh9 t htl) : Calls Tryz.prog 71 #[.pointer (some ⟨b, 0, none⟩), tokV t] W (TOut W b a m h base 0 r')))
  unfold TOut at CF
  obtain ⟨tv, htv⟩ : ∃ tv, tokV t = tv := ⟨_, rfl⟩
  rw [htv] at AD CF
  have HT0 := Lib.hid (show Turn (fun g => g = b) w w.drew from (Turn.refl _ w).drew)
  clear hX htv S hA hL hP hR hr' hf
  go_enter Tryz.func115, Tryz.ntmps115
  go_upto_region 1 with fail
  go_region
  all_goals
    go_wp2_with (first
      | (go_at_call 112; ((with_reducible refine AD.out.mono ?_); rintro en w1 ⟨rfl, hS1, hT1⟩; (have HT1 := Lib.hid (HT0.out.trans_ hT1))))
      | (go_at_call 71; ((with_reducible refine (CF.out w1 HT1.out hS1).mono ?_); rintro en w2 ⟨rfl, hS2, hT2⟩))
      | (fail "arm"))
    go_ret
    exact ⟨rfl, hS2, HT1.out.ftb.trans_ hT2⟩
set_option maxHeartbeats 4000000 in
theorem attr_72 {w : World} {b a m h base : Nat} {t : Tok} {r : List Tok} {T : Tgt} (S : TS w b a m h base 0 (.ok (t :: r)) T) (hA : Attrs w a b) (hL : Laid w) (hb9 : 9 ≤ b) (hh9 : 9 ≤ h) (hf : fnOf t.txt = some 72) (ht : 2 ≤ t.cls) (htl : t.txt.length ≤ 4294967000) (r' : Pst × Tgt) (hr' : pRun 72 t (.ok r, T) = r') :
    Calls Tryz.prog 115 #[.pointer (some ⟨b, 0, none⟩)] w (AttrOut w b a m h base (true, r')) := by
  unfold AttrOut
  obtain ⟨vs, hP, hR⟩ := S.ps
  have k3 : w.drew.cell? ⟨b, 3, none⟩ = some (.string (str t.txt)) := (ps_tx hP).1
  have k7 : w.drew.cell? ⟨b, 7, none⟩ = some (.map (some a)) := (ts_cell hP 0).1
  obtain ⟨v, hlk, hv⟩ := Attrs.look (hA.keep rfl : Attrs w.drew a b) (str t.txt) (by rw [str_size]; unfold maxLen; omega)
  rw [str_data, hf] at hlk hv
  have hv := hv 72 rfl
  subst hv
  unfold fnV at hlk
  dsimp only [Option.isSome] at hlk
  obtain ⟨X, hX⟩ : ∃ X, str t.txt = X := ⟨_, rfl⟩
  rw [hX] at k3 hlk
  have AD := Lib.hid (TS.adv S.drew ht)
  have CF := Lib.hid (fun (W : World) (hT : Turn (fun g => g = b) w W) (S : TS W b a m h base 1 (.ok r) T) => ((by rw [← hr']; exact retry_any S (hL.turn hT (fun g e => by omega)) hb9 hh9 t htl) : Calls Tryz.prog 72 #[.pointer (some ⟨b, 0, none⟩), tokV t] W (TOut W b a m h base 0 r')))
  unfold TOut at CF
  obtain ⟨tv, htv⟩ : ∃ tv, tokV t = tv := ⟨_, rfl⟩
  rw [htv] at AD CF
  have HT0 := Lib.hid (show Turn (fun g => g = b) w w.drew from (Turn.refl _ w).drew)
  clear hX htv S hA hL hP hR hr' hf
  go_enter Tryz.func115, Tryz.ntmps115
  go_upto_region 1 with fail
  go_region
  all_goals
    go_wp2_with (first
      | (go_at_call 112; ((with_reducible refine AD.out.mono ?_); rintro en w1 ⟨rfl, hS1, hT1⟩; (have HT1 := Lib.hid (HT0.out.trans_ hT1))))
      | (go_at_call 72; ((with_reducible refine (CF.out w1 HT1.out hS1).mono ?_); rintro en w2 ⟨rfl, hS2, hT2⟩))
      | (fail "arm"))
    go_ret
    exact ⟨rfl, hS2, HT1.out.ftb.trans_ hT2⟩
set_option maxHeartbeats 4000000 in
theorem attr_no {w : World} {b a m h base : Nat} {σ : Pst} {T : Tgt} (S : TS w b a m h base 0 σ T) (hA : Attrs w a b) (hf : fnOf (pTx σ) = none) :
    Calls Tryz.prog 115 #[.pointer (some ⟨b, 0, none⟩)] w (AttrOut w b a m h base (false, σ, T)) := by
  unfold AttrOut
  obtain ⟨vs, hP, hR⟩ := S.ps
  have hx := ps_tx hP
  have k3 : w.drew.cell? ⟨b, 3, none⟩ = some (.string (str (pTx σ))) := hx.1
  have k7 : w.drew.cell? ⟨b, 7, none⟩ = some (.map (some a)) := (ts_cell hP 0).1
  obtain ⟨v, hlk, hv⟩ := Attrs.look (hA.keep rfl : Attrs w.drew a b) (str (pTx σ)) (by rw [str_size]; have := hx.2.1; unfold maxLen; omega)
  rw [str_data, hf] at hlk
  dsimp only [Option.isSome] at hlk
  obtain ⟨X, hX⟩ : ∃ X, str (pTx σ) = X := ⟨_, rfl⟩
  rw [hX] at k3 hlk
  have HS := Lib.hid S.drew
  have HT0 := Lib.hid (show Turn (FT b h base) w w.drew from (Turn.refl _ w).drew)
  clear hX S hA hP hR hv hx hf
  go_enter Tryz.func115, Tryz.ntmps115
  go_upto_region 1 with fail
  go_region
  all_goals
    go_wp2
    go_ret
    exact ⟨rfl, HS.out, HT0.out⟩
theorem attribute_any {w : World} {b a m h base : Nat} {σ : Pst} {T : Tgt} (S : TS w b a m h base 0 σ T) (hA : Attrs w a b) (hL : Laid w) (hb9 : 9 ≤ b) (hh9 : 9 ≤ h) :
    Calls Tryz.prog 115 #[.pointer (some ⟨b, 0, none⟩)] w (AttrOut w b a m h base (pAttr (σ, T))) := by
  cases hf : fnOf (pTx σ) with
  | none => rw [pAttr_no hf]; exact attr_no S hA hf
  | some n =>
    obtain ⟨t, r, rfl, hf', e⟩ := pAttr_yes (T := T) hf
    rw [e]
    obtain ⟨vs, hP, _⟩ := S.ps
    have hok := (ps_tx hP).2.2 t r rfl
    have h2 := fnOf_some hf'
    have ht : 2 ≤ t.cls := by
      have := hok.1
      rw [this] at h2
      dsimp only at h2
      omega
    obtain ⟨rfl | rfl | rfl | rfl | rfl | rfl | rfl, _⟩ := h2
    · exact attr_66 S hA hL hb9 hh9 hf' ht hok.2 _ rfl
    · exact attr_67 S hA hL hb9 hh9 hf' ht hok.2 _ rfl
    · exact attr_68 S hA hL hb9 hh9 hf' ht hok.2 _ rfl
    · exact attr_69 S hA hL hb9 hh9 hf' ht hok.2 _ rfl
    · exact attr_70 S hA hL hb9 hh9 hf' ht hok.2 _ rfl
    · exact attr_71 S hA hL hb9 hh9 hf' ht hok.2 _ rfl
    · exact attr_72 S hA hL hb9 hh9 hf' ht hok.2 _ rfl
end Go.Proofs.YtcjoiiaankngjaaGreatDoor
/- What wholeTarget needs: nine cells, the length of what is left as the memory tells it, the attributes' loop. -/
namespace Go.Proofs.YtcjoiiaankngjaaGreatDoor
set_option maxRecDepth 100000
open Go.RowKit
theorem store9 {w : World} {r : Nat} {t : TypeId} {x0 x1 x2 x3 x4 x5 x6 x7 x8 : Value} (F : Full w r t [x0, x1, x2, x3, x4, x5, x6, x7, x8]) (y0 y1 y2 y3 y4 y5 y6 y7 y8 : Value) :
    (w.cell? ⟨r, 0, none⟩ = some x0 ∧ w.frozen? ⟨r, 0, none⟩ = false) ∧ ((w.setCell ⟨r, 0, none⟩ y0).cell? ⟨r, 1, none⟩ = some x1 ∧ (w.setCell ⟨r, 0, none⟩ y0).frozen? ⟨r, 1, none⟩ = false) ∧ (((w.setCell ⟨r, 0, none⟩ y0).setCell ⟨r, 1, none⟩ y1).cell? ⟨r, 2, none⟩ = some x2 ∧ ((w.setCell ⟨r, 0, none⟩ y0).setCell ⟨r, 1, none⟩ y1).frozen? ⟨r, 2, none⟩ = false) ∧ ((((w.setCell ⟨r, 0, none⟩ y0).setCell ⟨r, 1, none⟩ y1).setCell ⟨r, 2, none⟩ y2).cell? ⟨r, 3, none⟩ = some x3 ∧ (((w.setCell ⟨r, 0, none⟩ y0).setCell ⟨r, 1, none⟩ y1).setCell ⟨r, 2, none⟩ y2).frozen? ⟨r, 3, none⟩ = false) ∧ (((((w.setCell ⟨r, 0, none⟩ y0).setCell ⟨r, 1, none⟩ y1).setCell ⟨r, 2, none⟩ y2).setCell ⟨r, 3, none⟩ y3).cell? ⟨r, 4, none⟩ = some x4 ∧ ((((w.setCell ⟨r, 0, none⟩ y0).setCell ⟨r, 1, none⟩ y1).setCell ⟨r, 2, none⟩ y2).setCell ⟨r, 3, none⟩ y3).frozen? ⟨r, 4, none⟩ = false) ∧ ((((((w.setCell ⟨r, 0, none⟩ y0).setCell ⟨r, 1, none⟩ y1).setCell ⟨r, 2, none⟩ y2).setCell ⟨r, 3, none⟩ y3).setCell ⟨r, 4, none⟩ y4).cell? ⟨r, 5, none⟩ = some x5 ∧ (((((w.setCell ⟨r, 0, none⟩ y0).setCell ⟨r, 1, none⟩ y1).setCell ⟨r, 2, none⟩ y2).setCell ⟨r, 3, none⟩ y3).setCell ⟨r, 4, none⟩ y4).frozen? ⟨r, 5, none⟩ = false) ∧ (((((((w.setCell ⟨r, 0, none⟩ y0).setCell ⟨r, 1, none⟩ y1).setCell ⟨r, 2, none⟩ y2).setCell ⟨r, 3, none⟩ y3).setCell ⟨r, 4, none⟩ y4).setCell ⟨r, 5, none⟩ y5).cell? ⟨r, 6, none⟩ = some x6 ∧ ((((((w.setCell ⟨r, 0, none⟩ y0).setCell ⟨r, 1, none⟩ y1).setCell ⟨r, 2, none⟩ y2).setCell ⟨r, 3, none⟩ y3).setCell ⟨r, 4, none⟩ y4).setCell ⟨r, 5, none⟩ y5).frozen? ⟨r, 6, none⟩ = false) ∧ ((((((((w.setCell ⟨r, 0, none⟩ y0).setCell ⟨r, 1, none⟩ y1).setCell ⟨r, 2, none⟩ y2).setCell ⟨r, 3, none⟩ y3).setCell ⟨r, 4, none⟩ y4).setCell ⟨r, 5, none⟩ y5).setCell ⟨r, 6, none⟩ y6).cell? ⟨r, 7, none⟩ = some x7 ∧ (((((((w.setCell ⟨r, 0, none⟩ y0).setCell ⟨r, 1, none⟩ y1).setCell ⟨r, 2, none⟩ y2).setCell ⟨r, 3, none⟩ y3).setCell ⟨r, 4, none⟩ y4).setCell ⟨r, 5, none⟩ y5).setCell ⟨r, 6, none⟩ y6).frozen? ⟨r, 7, none⟩ = false) ∧ (((((((((w.setCell ⟨r, 0, none⟩ y0).setCell ⟨r, 1, none⟩ y1).setCell ⟨r, 2, none⟩ y2).setCell ⟨r, 3, none⟩ y3).setCell ⟨r, 4, none⟩ y4).setCell ⟨r, 5, none⟩ y5).setCell ⟨r, 6, none⟩ y6).setCell ⟨r, 7, none⟩ y7).cell? ⟨r, 8, none⟩ = some x8 ∧ ((((((((w.setCell ⟨r, 0, none⟩ y0).setCell ⟨r, 1, none⟩ y1).setCell ⟨r, 2, none⟩ y2).setCell ⟨r, 3, none⟩ y3).setCell ⟨r, 4, none⟩ y4).setCell ⟨r, 5, none⟩ y5).setCell ⟨r, 6, none⟩ y6).setCell ⟨r, 7, none⟩ y7).frozen? ⟨r, 8, none⟩ = false) ∧ Full (((((((((w.setCell ⟨r, 0, none⟩ y0).setCell ⟨r, 1, none⟩ y1).setCell ⟨r, 2, none⟩ y2).setCell ⟨r, 3, none⟩ y3).setCell ⟨r, 4, none⟩ y4).setCell ⟨r, 5, none⟩ y5).setCell ⟨r, 6, none⟩ y6).setCell ⟨r, 7, none⟩ y7).setCell ⟨r, 8, none⟩ y8) r t [y0, y1, y2, y3, y4, y5, y6, y7, y8] := ⟨⟨F.cell 0, F.frozen 0⟩, ⟨(F.set_ 0 y0).cell 1, (F.set_ 0 y0).frozen 1⟩, ⟨((F.set_ 0 y0).set_ 1 y1).cell 2, ((F.set_ 0 y0).set_ 1 y1).frozen 2⟩, ⟨(((F.set_ 0 y0).set_ 1 y1).set_ 2 y2).cell 3, (((F.set_ 0 y0).set_ 1 y1).set_ 2 y2).frozen 3⟩, ⟨((((F.set_ 0 y0).set_ 1 y1).set_ 2 y2).set_ 3 y3).cell 4, ((((F.set_ 0 y0).set_ 1 y1).set_ 2 y2).set_ 3 y3).frozen 4⟩, ⟨(((((F.set_ 0 y0).set_ 1 y1).set_ 2 y2).set_ 3 y3).set_ 4 y4).cell 5, (((((F.set_ 0 y0).set_ 1 y1).set_ 2 y2).set_ 3 y3).set_ 4 y4).frozen 5⟩, ⟨((((((F.set_ 0 y0).set_ 1 y1).set_ 2 y2).set_ 3 y3).set_ 4 y4).set_ 5 y5).cell 6, ((((((F.set_ 0 y0).set_ 1 y1).set_ 2 y2).set_ 3 y3).set_ 4 y4).set_ 5 y5).frozen 6⟩, ⟨(((((((F.set_ 0 y0).set_ 1 y1).set_ 2 y2).set_ 3 y3).set_ 4 y4).set_ 5 y5).set_ 6 y6).cell 7, (((((((F.set_ 0 y0).set_ 1 y1).set_ 2 y2).set_ 3 y3).set_ 4 y4).set_ 5 y5).set_ 6 y6).frozen 7⟩, ⟨((((((((F.set_ 0 y0).set_ 1 y1).set_ 2 y2).set_ 3 y3).set_ 4 y4).set_ 5 y5).set_ 6 y6).set_ 7 y7).cell 8, ((((((((F.set_ 0 y0).set_ 1 y1).set_ 2 y2).set_ 3 y3).set_ 4 y4).set_ 5 y5).set_ 6 y6).set_ 7 y7).frozen 8⟩, (((((((((F.set_ 0 y0).set_ 1 y1).set_ 2 y2).set_ 3 y3).set_ 4 y4).set_ 5 y5).set_ 6 y6).set_ 7 y7).set_ 8 y8)⟩
theorem ps_store9 {w : World} {b a m hh : Nat} {σ : Pst} {T : Tgt} {vs : Nat → Value} (h : PS w b σ (tR a m hh T vs)) (T' : Tgt) (vs' : Nat → Value) (hrl : T'.rl = T.rl) :
    (w.cell? ⟨b, 9, none⟩ = some (.string (str T.name)) ∧ w.frozen? ⟨b, 9, none⟩ = false) ∧ ((w.setCell ⟨b, 9, none⟩ (.string (str T'.name))).cell? ⟨b, 10, none⟩ = some (.int .i64 T.kind) ∧ (w.setCell ⟨b, 9, none⟩ (.string (str T'.name))).frozen? ⟨b, 10, none⟩ = false) ∧ (((w.setCell ⟨b, 9, none⟩ (.string (str T'.name))).setCell ⟨b, 10, none⟩ (.int .i64 T'.kind)).cell? ⟨b, 11, none⟩ = some (.int .i64 (T.line : Int)) ∧ ((w.setCell ⟨b, 9, none⟩ (.string (str T'.name))).setCell ⟨b, 10, none⟩ (.int .i64 T'.kind)).frozen? ⟨b, 11, none⟩ = false) ∧ ((((w.setCell ⟨b, 9, none⟩ (.string (str T'.name))).setCell ⟨b, 10, none⟩ (.int .i64 T'.kind)).setCell ⟨b, 11, none⟩ (.int .i64 (T'.line : Int))).cell? ⟨b, 12, none⟩ = some (vs 0) ∧ (((w.setCell ⟨b, 9, none⟩ (.string (str T'.name))).setCell ⟨b, 10, none⟩ (.int .i64 T'.kind)).setCell ⟨b, 11, none⟩ (.int .i64 (T'.line : Int))).frozen? ⟨b, 12, none⟩ = false) ∧ (((((w.setCell ⟨b, 9, none⟩ (.string (str T'.name))).setCell ⟨b, 10, none⟩ (.int .i64 T'.kind)).setCell ⟨b, 11, none⟩ (.int .i64 (T'.line : Int))).setCell ⟨b, 12, none⟩ (vs' 0)).cell? ⟨b, 13, none⟩ = some (vs 1) ∧ ((((w.setCell ⟨b, 9, none⟩ (.string (str T'.name))).setCell ⟨b, 10, none⟩ (.int .i64 T'.kind)).setCell ⟨b, 11, none⟩ (.int .i64 (T'.line : Int))).setCell ⟨b, 12, none⟩ (vs' 0)).frozen? ⟨b, 13, none⟩ = false) ∧ ((((((w.setCell ⟨b, 9, none⟩ (.string (str T'.name))).setCell ⟨b, 10, none⟩ (.int .i64 T'.kind)).setCell ⟨b, 11, none⟩ (.int .i64 (T'.line : Int))).setCell ⟨b, 12, none⟩ (vs' 0)).setCell ⟨b, 13, none⟩ (vs' 1)).cell? ⟨b, 14, none⟩ = some (vs 2) ∧ (((((w.setCell ⟨b, 9, none⟩ (.string (str T'.name))).setCell ⟨b, 10, none⟩ (.int .i64 T'.kind)).setCell ⟨b, 11, none⟩ (.int .i64 (T'.line : Int))).setCell ⟨b, 12, none⟩ (vs' 0)).setCell ⟨b, 13, none⟩ (vs' 1)).frozen? ⟨b, 14, none⟩ = false) ∧ (((((((w.setCell ⟨b, 9, none⟩ (.string (str T'.name))).setCell ⟨b, 10, none⟩ (.int .i64 T'.kind)).setCell ⟨b, 11, none⟩ (.int .i64 (T'.line : Int))).setCell ⟨b, 12, none⟩ (vs' 0)).setCell ⟨b, 13, none⟩ (vs' 1)).setCell ⟨b, 14, none⟩ (vs' 2)).cell? ⟨b, 15, none⟩ = some (vs 3) ∧ ((((((w.setCell ⟨b, 9, none⟩ (.string (str T'.name))).setCell ⟨b, 10, none⟩ (.int .i64 T'.kind)).setCell ⟨b, 11, none⟩ (.int .i64 (T'.line : Int))).setCell ⟨b, 12, none⟩ (vs' 0)).setCell ⟨b, 13, none⟩ (vs' 1)).setCell ⟨b, 14, none⟩ (vs' 2)).frozen? ⟨b, 15, none⟩ = false) ∧ ((((((((w.setCell ⟨b, 9, none⟩ (.string (str T'.name))).setCell ⟨b, 10, none⟩ (.int .i64 T'.kind)).setCell ⟨b, 11, none⟩ (.int .i64 (T'.line : Int))).setCell ⟨b, 12, none⟩ (vs' 0)).setCell ⟨b, 13, none⟩ (vs' 1)).setCell ⟨b, 14, none⟩ (vs' 2)).setCell ⟨b, 15, none⟩ (vs' 3)).cell? ⟨b, 16, none⟩ = some (.int .i64 T.cost) ∧ (((((((w.setCell ⟨b, 9, none⟩ (.string (str T'.name))).setCell ⟨b, 10, none⟩ (.int .i64 T'.kind)).setCell ⟨b, 11, none⟩ (.int .i64 (T'.line : Int))).setCell ⟨b, 12, none⟩ (vs' 0)).setCell ⟨b, 13, none⟩ (vs' 1)).setCell ⟨b, 14, none⟩ (vs' 2)).setCell ⟨b, 15, none⟩ (vs' 3)).frozen? ⟨b, 16, none⟩ = false) ∧ (((((((((w.setCell ⟨b, 9, none⟩ (.string (str T'.name))).setCell ⟨b, 10, none⟩ (.int .i64 T'.kind)).setCell ⟨b, 11, none⟩ (.int .i64 (T'.line : Int))).setCell ⟨b, 12, none⟩ (vs' 0)).setCell ⟨b, 13, none⟩ (vs' 1)).setCell ⟨b, 14, none⟩ (vs' 2)).setCell ⟨b, 15, none⟩ (vs' 3)).setCell ⟨b, 16, none⟩ (.int .i64 T'.cost)).cell? ⟨b, 17, none⟩ = some (.int .i64 T.retry) ∧ ((((((((w.setCell ⟨b, 9, none⟩ (.string (str T'.name))).setCell ⟨b, 10, none⟩ (.int .i64 T'.kind)).setCell ⟨b, 11, none⟩ (.int .i64 (T'.line : Int))).setCell ⟨b, 12, none⟩ (vs' 0)).setCell ⟨b, 13, none⟩ (vs' 1)).setCell ⟨b, 14, none⟩ (vs' 2)).setCell ⟨b, 15, none⟩ (vs' 3)).setCell ⟨b, 16, none⟩ (.int .i64 T'.cost)).frozen? ⟨b, 17, none⟩ = false) ∧ PS (((((((((w.setCell ⟨b, 9, none⟩ (.string (str T'.name))).setCell ⟨b, 10, none⟩ (.int .i64 T'.kind)).setCell ⟨b, 11, none⟩ (.int .i64 (T'.line : Int))).setCell ⟨b, 12, none⟩ (vs' 0)).setCell ⟨b, 13, none⟩ (vs' 1)).setCell ⟨b, 14, none⟩ (vs' 2)).setCell ⟨b, 15, none⟩ (vs' 3)).setCell ⟨b, 16, none⟩ (.int .i64 T'.cost)).setCell ⟨b, 17, none⟩ (.int .i64 T'.retry)) b σ (tR a m hh T' vs') := by
  refine ⟨⟨(ts_cell h 2).1, (ts_cell h 2).2⟩, ⟨(ts_cell (ps_set h 2 (.string (str T'.name))) 3).1, (ts_cell (ps_set h 2 (.string (str T'.name))) 3).2⟩, ⟨(ts_cell (ps_set (ps_set h 2 (.string (str T'.name))) 3 (.int .i64 T'.kind)) 4).1, (ts_cell (ps_set (ps_set h 2 (.string (str T'.name))) 3 (.int .i64 T'.kind)) 4).2⟩, ⟨(ts_cell (ps_set (ps_set (ps_set h 2 (.string (str T'.name))) 3 (.int .i64 T'.kind)) 4 (.int .i64 (T'.line : Int))) 5).1, (ts_cell (ps_set (ps_set (ps_set h 2 (.string (str T'.name))) 3 (.int .i64 T'.kind)) 4 (.int .i64 (T'.line : Int))) 5).2⟩, ⟨(ts_cell (ps_set (ps_set (ps_set (ps_set h 2 (.string (str T'.name))) 3 (.int .i64 T'.kind)) 4 (.int .i64 (T'.line : Int))) 5 (vs' 0)) 6).1, (ts_cell (ps_set (ps_set (ps_set (ps_set h 2 (.string (str T'.name))) 3 (.int .i64 T'.kind)) 4 (.int .i64 (T'.line : Int))) 5 (vs' 0)) 6).2⟩, ⟨(ts_cell (ps_set (ps_set (ps_set (ps_set (ps_set h 2 (.string (str T'.name))) 3 (.int .i64 T'.kind)) 4 (.int .i64 (T'.line : Int))) 5 (vs' 0)) 6 (vs' 1)) 7).1, (ts_cell (ps_set (ps_set (ps_set (ps_set (ps_set h 2 (.string (str T'.name))) 3 (.int .i64 T'.kind)) 4 (.int .i64 (T'.line : Int))) 5 (vs' 0)) 6 (vs' 1)) 7).2⟩, ⟨(ts_cell (ps_set (ps_set (ps_set (ps_set (ps_set (ps_set h 2 (.string (str T'.name))) 3 (.int .i64 T'.kind)) 4 (.int .i64 (T'.line : Int))) 5 (vs' 0)) 6 (vs' 1)) 7 (vs' 2)) 8).1, (ts_cell (ps_set (ps_set (ps_set (ps_set (ps_set (ps_set h 2 (.string (str T'.name))) 3 (.int .i64 T'.kind)) 4 (.int .i64 (T'.line : Int))) 5 (vs' 0)) 6 (vs' 1)) 7 (vs' 2)) 8).2⟩, ⟨(ts_cell (ps_set (ps_set (ps_set (ps_set (ps_set (ps_set (ps_set h 2 (.string (str T'.name))) 3 (.int .i64 T'.kind)) 4 (.int .i64 (T'.line : Int))) 5 (vs' 0)) 6 (vs' 1)) 7 (vs' 2)) 8 (vs' 3)) 9).1, (ts_cell (ps_set (ps_set (ps_set (ps_set (ps_set (ps_set (ps_set h 2 (.string (str T'.name))) 3 (.int .i64 T'.kind)) 4 (.int .i64 (T'.line : Int))) 5 (vs' 0)) 6 (vs' 1)) 7 (vs' 2)) 8 (vs' 3)) 9).2⟩, ⟨(ts_cell (ps_set (ps_set (ps_set (ps_set (ps_set (ps_set (ps_set (ps_set h 2 (.string (str T'.name))) 3 (.int .i64 T'.kind)) 4 (.int .i64 (T'.line : Int))) 5 (vs' 0)) 6 (vs' 1)) 7 (vs' 2)) 8 (vs' 3)) 9 (.int .i64 T'.cost)) 10).1, (ts_cell (ps_set (ps_set (ps_set (ps_set (ps_set (ps_set (ps_set (ps_set h 2 (.string (str T'.name))) 3 (.int .i64 T'.kind)) 4 (.int .i64 (T'.line : Int))) 5 (vs' 0)) 6 (vs' 1)) 7 (vs' 2)) 8 (vs' 3)) 9 (.int .i64 T'.cost)) 10).2⟩, ?_⟩
  have q := (ps_set (ps_set (ps_set (ps_set (ps_set (ps_set (ps_set (ps_set (ps_set h 2 (.string (str T'.name))) 3 (.int .i64 T'.kind)) 4 (.int .i64 (T'.line : Int))) 5 (vs' 0)) 6 (vs' 1)) 7 (vs' 2)) 8 (vs' 3)) 9 (.int .i64 T'.cost)) 10 (.int .i64 T'.retry))
  unfold tR at q ⊢
  rw [hrl]
  exact q
theorem Turn.set9b {G : Nat → Prop} {w w' : World} {b : Nat} (h : Turn G w w') (hb : G b) (y0 y1 y2 y3 y4 y5 y6 y7 y8 : Value) : Turn G w (((((((((w'.setCell ⟨b, 9, none⟩ y0).setCell ⟨b, 10, none⟩ y1).setCell ⟨b, 11, none⟩ y2).setCell ⟨b, 12, none⟩ y3).setCell ⟨b, 13, none⟩ y4).setCell ⟨b, 14, none⟩ y5).setCell ⟨b, 15, none⟩ y6).setCell ⟨b, 16, none⟩ y7).setCell ⟨b, 17, none⟩ y8) := (((((((((h.setb hb 9 y0).setb hb 10 y1).setb hb 11 y2).setb hb 12 y3).setb hb 13 y4).setb hb 14 y5).setb hb 15 y6).setb hb 16 y7).setb hb 17 y8)
theorem Turn.set9n {G : Nat → Prop} {w w' : World} {r : Nat} (h : Turn G w w') (hr : w.heap.size ≤ r) (y0 y1 y2 y3 y4 y5 y6 y7 y8 : Value) : Turn G w (((((((((w'.setCell ⟨r, 0, none⟩ y0).setCell ⟨r, 1, none⟩ y1).setCell ⟨r, 2, none⟩ y2).setCell ⟨r, 3, none⟩ y3).setCell ⟨r, 4, none⟩ y4).setCell ⟨r, 5, none⟩ y5).setCell ⟨r, 6, none⟩ y6).setCell ⟨r, 7, none⟩ y7).setCell ⟨r, 8, none⟩ y8) :=
  h.late (G := fun g => g = r) ((((((((((Turn.refl (fun g => g = r) w').setb rfl 0 y0).setb rfl 1 y1).setb rfl 2 y2).setb rfl 3 y3).setb rfl 4 y4).setb rfl 5 y5).setb rfl 6 y6).setb rfl 7 y7).setb rfl 8 y8) fun g e => .inr (by omega)
theorem ps_unique {w : World} {b : Nat} {σ σ' : Pst} {R R' : List Value} (h : PS w b σ R) (h' : PS w b σ' R') : plen σ = plen σ' := by
  obtain ⟨s, n, c, tx, tl, e, el, hP, hs, hC⟩ := h
  obtain ⟨s', n', c', tx', tl', e', el', hP', hs', hC'⟩ := h'
  have E : some (Obj.cells _ 95 (0, 0)) = some (Obj.cells _ 95 (0, 0)) := (show w.heap[b]? = some _ from hP).symm.trans (show w.heap[b]? = some _ from hP')
  injection E with E
  injection E with E _ _
  have E := congrArg Array.toList E
  simp only [List.cons.injEq] at E
  obtain ⟨e1, e2, e3, e4, e5, e6, e7, _⟩ := E
  injection e1 with e1
  injection e2 with _ e2
  injection e3 with _ e3
  injection e6 with _ e6
  have e2 : n = n' := by exact_mod_cast e2
  subst e1 e2 e3 e6
  cases σ with
  | bad x l =>
    cases σ' with
    | bad x' l' => rfl
    | ok ts =>
      obtain ⟨a1, _, a3, _⟩ := hC
      obtain ⟨a0, _⟩ := hC'
      omega
  | ok ts =>
    cases σ' with
    | bad x' l' =>
      obtain ⟨a1, _, a3, _⟩ := hC'
      obtain ⟨a0, _⟩ := hC
      omega
    | ok ts' =>
      obtain ⟨_, t, hc, _, _, _, hts⟩ := hC
      obtain ⟨_, t', hc', _, _, _, hts'⟩ := hC'
      have : t.cls = t'.cls := by omega
      unfold plen
      dsimp only
      rw [hts, hts', this]
      split <;> rfl
open Classical in
/-- how many tokens are left, as the memory tells it -/
noncomputable def wlen (b : Nat) (w : World) : Nat := if h : ∃ σ, ∃ R, PS w b σ R then plen h.choose else 0
theorem wlen_eq {w : World} {b : Nat} {σ : Pst} {R : List Value} (h : PS w b σ R) : wlen b w = plen σ := by
  have hx : ∃ σ, ∃ R, PS w b σ R := ⟨σ, R, h⟩
  unfold wlen
  rw [dif_pos hx]
  obtain ⟨R', h'⟩ := hx.choose_spec
  exact ps_unique h' h
theorem pKinds_le : ∀ (f : Nat) (r : Pst × Tgt), plen (pKinds f r).1 ≤ plen r.1
  | 0, r => pRefuse_le r.1
  | f + 1, r => by
    rw [pKinds]
    split
    · exact Nat.le_trans (pExpect_le _ _) (pTake_le _ _)
    · exact pKinds_le f r
theorem pGrow_le (i : Nat) (ls : Pst → List Itm × Pst) (h : ∀ σ, 0 < (ls σ).1.length ∧ (ls σ).1.length + plen (ls σ).2 ≤ 1 + plen σ) (r : Pst × Tgt) : plen (pGrow i ls r).1 ≤ plen r.1 := by
  have := h r.1
  show plen (ls r.1).2 ≤ _
  omega
theorem pRun_le (n : Nat) (t : Tok) (r : Pst × Tgt) : plen (pRun n t r).1 ≤ plen r.1 := by
  unfold pRun
  have h0 : plen (pHad t r).1 ≤ plen r.1 := pOnce_le _ _ _
  split
  · exact Nat.le_trans (pKinds_le 4 _) h0
  · split
    · exact pGrow_le _ _ (pLimited_sum pSources (pList_sum pSource pSource_le)) r
    · split
      · exact pGrow_le _ _ (pLimited_sum pTexts (pList_sum pText pText_le)) r
      · split
        · exact pGrow_le _ _ (pList_sum pText pText_le) r
        · split
          · exact pGrow_le _ _ (pList_sum pText pText_le) r
          · split
            · exact Nat.le_trans (pExpect_le _ _) (Nat.le_trans (pNum_le _ _ _) h0)
            · exact Nat.le_trans (pExpect_le _ _) (Nat.le_trans (pNum_le _ _ _) h0)
theorem pAttr_less {σ : Pst} {T : Tgt} (h : (pAttr (σ, T)).1 = true) : plen (pAttr (σ, T)).2.1 < plen σ := by
  cases hf : fnOf (pTx σ) with
  | none => rw [pAttr_no hf] at h; cases h
  | some n =>
    obtain ⟨t, r, rfl, _, e⟩ := pAttr_yes (T := T) hf
    rw [e]
    have := pRun_le n t (.ok r, T)
    have e2 : plen (.ok (t :: r)) = plen (.ok r) + 1 := by simp [plen]
    show plen (pRun n t (.ok r, T)).1 < _
    rw [e2]
    exact Nat.lt_succ_of_le this
def pAttrs : Nat → Pst × Tgt → Pst × Tgt
  | 0, r => r
  | f + 1, r => if (pAttr r).1 then pAttrs f (pAttr r).2 else (pAttr r).2
def tgt0 (l rl : Nat) : Tgt := ⟨[], 1, l, fun _ => [], 1, 0, rl, fun _ => false⟩
/-- a target, behind its first word -/
def pBody (l rl : Nat) (K : Kn) (σ : Pst) : Pst × Tgt :=
  pAttrs (plen (pExpect [123] (pOnce K (pAny 2 σ).1 (pAny 2 σ).2)) + 1) (pExpect [123] (pOnce K (pAny 2 σ).1 (pAny 2 σ).2), { tgt0 l rl with name := (pAny 2 σ).1.txt })
def pCheck (T : Tgt) (σ : Pst) : Pst := if T.retry ≠ 0 ∧ T.kind ≠ 3 then pFail (T.rl : Int) 41 σ else σ
def pWhole (l rl : Nat) (K : Kn) (σ : Pst) : Pst × Tgt × Kn :=
  (pCheck (pBody l rl K σ).2 (pExpect [125] (pBody l rl K σ).1), (pBody l rl K σ).2, kPut K (pAny 2 σ).1.txt)
/-- once in the names of the targets -/
theorem names_any {w : World} {b a m h base k n : Nat} {σ : Pst} {T : Tgt} {K : Kn} (S : TS w b a m h base k σ T) (hN : Names w m n K) (hmb : m ≠ b) (hmh : m ≠ h) (hmB : m < base) (hn : n < maxLen) (t : Tok) (ht : t.txt.length ≤ 4294967000) :
    Calls Tryz.prog 102 #[.pointer (some ⟨b, 0, none⟩), .map (some m), tokV t] w fun en w' => en = .returned (.tuple #[]) ∧ TS w' b a m h base k (pOnce K t σ) T ∧ Names w' m (n + 1) (kPut K t.txt) ∧ Turn (fun g => g = b ∨ g = m) w w' := by
  obtain ⟨⟨vs, hP, hR⟩, ⟨n0, hN0, hn0⟩, hlen, hbb, hhb, hne, hsz⟩ := S
  have hle := pOnce_le K t σ
  refine (once_any hP hN hmb hn t ht).mono ?_
  rintro en w' ⟨he, hP', hN', hT⟩
  refine ⟨he, ⟨⟨vs, hP', hR.turn hT (fun g e => by rcases e with rfl | rfl <;> assumption)⟩, ⟨n0, hN0.far hT (fun e => by rcases e with e | e; exact hne e; exact hmh e.symm), by omega⟩, fun i hi => (by have := hlen i hi; omega), hbb, hhb, hne, Nat.le_trans hsz hT.size⟩, hN', hT⟩
/-- a target without a row -/
theorem TS.fresh {w : World} {b a m h base l rl : Nat} {σ : Pst} (hP : PS w b σ (tR a m h (tgt0 l rl) (fun _ => .slice none 0 0))) (hN : Names w h 0 (fun _ => false)) (hbb : b < base) (hhb : h < base) (hne : h ≠ b) (hsz : base ≤ w.heap.size) : TS w b a m h base 0 σ (tgt0 l rl) := by
  have hp := hP.plen_le
  refine ⟨⟨_, hP, ⟨fun i _ => ⟨rfl, .inl ⟨rfl, rfl⟩⟩, fun i j _ _ _ g e => by cases e⟩⟩, ⟨0, hN, by unfold XL; omega⟩, fun i _ => (by show 0 + 0 + plen σ ≤ XL; unfold XL; omega), hbb, hhb, hne, hsz⟩
end Go.Proofs.YtcjoiiaankngjaaGreatDoor
