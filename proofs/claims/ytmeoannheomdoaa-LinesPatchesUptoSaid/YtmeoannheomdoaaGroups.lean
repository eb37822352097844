/- groups: the iterator yields the groups in order. -/
import Derived.Test.YtmeoannheomdoaaRuns
namespace Go.Proofs.Ytmeoannheomdoaa
open Go.RowKit Go.Shelf
attribute [local go_sem] Oper.semAt_some

theorem grow_pos (n u : Nat) (l r : List Hk) (h : headIn u l ≠ none ∨ headIn u r ≠ none) : 0 < (grow (n + 1) u l r).2.1 + (grow (n + 1) u l r).2.2 := by
  rw [grow]
  cases h1 : headIn u l with
  | some x => dsimp only; omega
  | none =>
    cases h2 : headIn u r with
    | some x => dsimp only; omega
    | none => rw [h1, h2] at h; simp at h
theorem grown_pos {l r : List Hk} (h : 0 < l.length + r.length) : 0 < (grown l r).2.1 + (grown l r).2.2 := by
  unfold grown
  obtain ⟨m, hm⟩ : ∃ m, l.length + r.length = m + 1 := ⟨l.length + r.length - 1, by omega⟩
  rw [hm]
  refine grow_pos _ _ _ _ ?_
  match l, r, h with
  | [], [], h => simp at h
  | [], y :: t, _ => right; show headIn y.a0 (y :: t) ≠ none; rw [headIn_cons, if_pos (Nat.le_refl _)]; simp
  | x :: t, [], _ => left; show headIn x.a0 (x :: t) ≠ none; rw [headIn_cons, if_pos (Nat.le_refl _)]; simp
  | x :: t, y :: u, _ =>
    by_cases hx : x.a0 ≤ min x.a0 y.a0
    · left; show headIn (min x.a0 y.a0) (x :: t) ≠ none; rw [headIn_cons, if_pos hx]; simp
    · right; show headIn (min x.a0 y.a0) (y :: u) ≠ none; rw [headIn_cons, if_pos (by omega)]; simp

def FirstNums (l r : List Hk) (lo hi I J : Nat) : Prop := firstGp l r = ⟨lo, hi, l.take I, r.take J⟩ ∧ (grown l r).2.1 = I ∧ (grown l r).2.2 = J ∧ I ≤ l.length ∧ J ≤ r.length ∧ 0 < I + J
def FirstOut2 (l r : List Hk) (w : World) (e : Ending) (w' : World) : Prop :=
  ∃ A c B d lo hi I J, e = .returned (.agg #[.int .i64 ((lo : Nat) : Int), .int .i64 ((hi : Nat) : Int), .slice A I c, .slice B J d]) ∧ FirstNums l r lo hi I J ∧ HT w' A c (l.take I) ∧ HT w' B d (r.take J) ∧ Below w.heap.size w w'
theorem first_any2 (A B : Option Addr) (l r : List Hk) (c d : Nat) (w : World) (hA : HT w A c l) (hB : HT w B d r) (h : 0 < l.length + r.length) (hl : l.length ≤ 4294967296) (hr : r.length ≤ 4294967296) :
    Calls Try.prog 56 #[.slice A l.length c, .slice B r.length d] w (FirstOut2 l r w) := by
  refine (first_any A B l r c d w hA hB h hl hr).mono ?_
  rintro e w' ⟨A', c', B', d', rfl, h1, h2, h3⟩
  obtain ⟨i1, i2, _⟩ := grow_le (l.length + r.length) (least l r) l r
  have i1' : (grown l r).2.1 ≤ l.length := i1
  have i2' : (grown l r).2.2 ≤ r.length := i2
  refine ⟨A', c', B', d', least l r, (grown l r).1, (grown l r).2.1, (grown l r).2.2, ?_, ⟨rfl, rfl, rfl, i1, i2, grown_pos h⟩, h1, h2, h3⟩
  unfold gpV firstGp
  dsimp only
  rw [List.length_take, List.length_take, Nat.min_eq_left i1', Nat.min_eq_left i2']

/-- what yield is given for a group -/
def GV (_ : Nat) (x : Gp) (vs : Array Value) (W : World) : Prop :=
  ∃ A c B d, vs = #[gpV x A c B d] ∧ HT W A c x.left ∧ HT W B d x.right
theorem KeepT.of_grown {W W' : World} {row : Option Nat} (hg : W.grownBy W' row) (hr : ∀ r, row = some r → ∃ o : Obj, W.heap[r]? = some o ∧ o.isCells = false) : KeepT W W' :=
  ⟨hg.size, fun k cs t fr _ hf => (hg.block k (Array.getElem?_eq_some_iff.1 hf).1 (fun e => by
    obtain ⟨o, ho, hc⟩ := hr k e.symm
    rw [hf] at ho
    injection ho with ho
    rw [← ho] at hc
    cases hc)).trans hf⟩
theorem gv_own (B k : Nat) (x : Gp) (vs : Array Value) : OwnFrom B (fun (_ : Unit) W => GV k x vs W) := by
  rintro s W W' row ⟨A, c, B', d, e, h1, h2⟩ hg hr
  have hk := KeepT.of_grown hg (fun r e => (hr r e).2)
  exact ⟨A, c, B', d, e, h1.keep hk, h2.keep hk⟩

theorem groups_new (A B : Option Addr) (n m c d : Nat) (w : World) :
    Calls Try.prog 45 #[.slice A n c, .slice B m d] w fun e w' => e = .returned (.func (.func 55) #[] #[.pointer (some ⟨w.heap.size, 0, none⟩), .pointer (some ⟨w.heap.size + 1, 0, none⟩)]) ∧ w' = (w.alloc (.cells #[.slice A n c] 33)).alloc (.cells #[.slice B m d] 33) := by
  go_enter Try.func45, Try.ntmps45
  go_wp2
  go_ret
  exact ⟨rfl, rfl⟩

set_option maxRecDepth 100000 in
set_option maxHeartbeats 2000000 in
theorem groups_runs (n : Nat) (hn : 1 ≤ n) (Bl Br : Nat) (A B : Option Addr) (l r : List Hk) (c d : Nat) (w : World)
    (hBl : w.cell? ⟨Bl, 0, none⟩ = some (.slice A l.length c)) (hBr : w.cell? ⟨Br, 0, none⟩ = some (.slice B r.length d)) (hla : Bl < w.heap.size) (hlb : Br < w.heap.size)
    (hA : HT w A c l) (hB : HT w B d r) (hl : l.length ≤ 4294967296) (hr : r.length ≤ 4294967296) :
    SeqRuns Fence.wide n Try.prog 55 #[.pointer (some ⟨Bl, 0, none⟩), .pointer (some ⟨Br, 0, none⟩)] (gps (l.length + r.length) l r) GV KeepT w := by
  intro ly J W hW hJ hY h0
  obtain ⟨T, HT'⟩ : ∃ T, Hid (gps (l.length + r.length) l r = T) := ⟨_, Lib.hid rfl⟩
  rw [HT'.out] at hY ⊢
  have hc1 := (hW.cell (p := ⟨Bl, 0, none⟩) hla).trans hBl
  have hc2 := (hW.cell (p := ⟨Br, 0, none⟩) hlb).trans hBr
  have hAW := hA.keep (KeepT.below hW)
  have hBW := hB.keep (KeepT.below hW)
  have hJd := fun (k : Nat) (w' : World) (q : Nat) (h : J k w') => hJ k w' (w'.drewN q) none h (grown_drewN w' q) (fun r e => by cases e)
  have hfn : ∀ k, Fence.wide.fn k := fun _ => trivial
  refine callsIn_of_wp Try.func55 rfl trivial ?_ rfl
  simp only [Try.ntmps55, List.size_toArray, List.length_cons, List.length_nil, Nat.reduceAdd, Nat.reduceSub, Array.replicate_succ, Array.replicate_zero, List.push_toArray, List.append_toArray, List.nil_append, List.cons_append]
  gi_wp2
  gi_quiet (fail)
  gi_wp2
  gi_loopw [4, 5] (fun v4 v5 wr => ∃ (A1 B1 : Option Addr) (c1 d1 : Nat) (l1 r1 : List Hk) (k f : Nat), v4 = .slice A1 l1.length c1 ∧ v5 = .slice B1 r1.length d1 ∧ HT wr A1 c1 l1 ∧ HT wr B1 d1 r1 ∧ l1.length ≤ 4294967296 ∧ r1.length ≤ 4294967296 ∧
      l1.length + r1.length ≤ f ∧ Hid (gps f l1 r1 = T.drop k) ∧ k ≤ T.length ∧ J k wr) (fun v4 v5 _ => (match v4 with | .slice _ m _ => m | _ => 0) + (match v5 with | .slice _ m _ => m | _ => 0))
  case atStart => exact ⟨A, B, c, d, l, r, 0, l.length + r.length, rfl, rfl, hAW, hBW, hl, hr, Nat.le_refl _, Lib.hid (by rw [List.drop_zero]; exact HT'.out), by omega, hJd _ _ _ h0⟩
  case round =>
    obtain ⟨A1, B1, c1, d1, l1, r1, k, f, rfl, rfl, hA1, hB1, hl1, hr1, hf, HG, hkT, hJk⟩ := hrel
    by_cases hz : l1.length + r1.length = 0
    · have hnl : l1.length = 0 := by omega
      have hnr : r1.length = 0 := by omega
      have hend : T.drop k = [] := by
        rw [← HG.out]
        cases f with
        | zero => rfl
        | succ f => rw [gps, if_pos hz]
      have hkl : k = T.length := by have := congrArg List.length hend; simp at this; omega
      have HKL := Lib.hid hkl
      clear hend hkl hf
      gi_wp2
      go_end0
      exact ⟨⟨_, rfl⟩, by rw [← HKL.out]; exact hJk⟩
    · obtain ⟨f', rfl⟩ : ∃ f', f = f' + 1 := ⟨f - 1, by omega⟩
      have hcA := hA1.cap
      have hcB := hB1.cap
      have hg := HG.out
      rw [gps, if_neg hz] at hg
      have hklt : k < T.length := by
        rcases Nat.lt_or_ge k T.length with h | h
        · exact h
        · rw [List.drop_eq_nil_of_le h] at hg; cases hg
      rw [List.drop_eq_getElem_cons hklt] at hg
      injection hg with hg1 hg2
      have hTk : T[k]? = some (firstGp l1 r1) := by rw [hg1]; exact List.getElem?_eq_getElem hklt
      have HG1 := Lib.hid hTk
      have HG2 := Lib.hid hg2
      clear hg1 hg2 hTk
      have hfst := first_any2 A1 B1 l1 r1 c1 d1 wr hA1 hB1 (by omega) hl1 hr1
      by_cases hlp : 0 < l1.length
      · gi_wp2_with (gi_at_call 56; refine (callsIn_wide.2 hfst).mono ?_; rintro e w1 ⟨A2, c2, B2, d2, lo, hi, I, J', rfl, hN, hA2, hB2, hb1⟩)
        obtain ⟨hg1, hg2, hg3, hI, hJ', hpos⟩ := hN
        have hFg := Full.new w1 76 [.int .i64 (lo : Int), .int .i64 (hi : Int), .slice A2 I c2, .slice B2 J' d2]
        obtain ⟨gB, hgB⟩ : ∃ gB, w1.heap.size = gB := ⟨_, rfl⟩
        have hbW : Below wr.heap.size wr (w1.alloc (.cells #[.int .i64 (lo : Int), .int .i64 (hi : Int), .slice A2 I c2, .slice B2 J' d2] 76)) := hb1.alloc hb1.size _
        have hkW : KeepT w1 (w1.alloc (.cells #[.int .i64 (lo : Int), .int .i64 (hi : Int), .slice A2 I c2, .slice B2 J' d2] 76)) := KeepT.below ((Below.refl _ w1).alloc (Nat.le_refl _) _)
        have hA3 := hA2.keep hkW
        have hB3 := hB2.keep hkW
        have hA4 := hA1.keep (KeepT.below hbW)
        have hB4 := hB1.keep (KeepT.below hbW)
        have hJ3 : J k (w1.alloc (.cells #[.int .i64 (lo : Int), .int .i64 (hi : Int), .slice A2 I c2, .slice B2 J' d2] 76)) := hJ k wr _ none hJk (grown_below hbW none) (by rintro r e; cases e)
        obtain ⟨A5, hrA, HTA⟩ := ht_l A1 l1 c1 I hI hcA
        obtain ⟨B5, hrB, HTB⟩ := ht_l B1 r1 d1 J' hJ' hcB
        rw [hgB] at hFg
        obtain ⟨w2, hw2⟩ : ∃ w2, w1.alloc (.cells #[.int .i64 (lo : Int), .int .i64 (hi : Int), .slice A2 I c2, .slice B2 J' d2] 76) = w2 := ⟨_, rfl⟩
        have hFg2 : Full w2 gB 76 [.int .i64 (lo : Int), .int .i64 (hi : Int), .slice A2 I c2, .slice B2 J' d2] := by rw [← hw2]; exact hFg
        rw [hw2] at hA3 hB3 hA4 hB4 hJ3
        have hlI : (l1.take I).length = I := by simp; omega
        have hlJ : (r1.take J').length = J' := by simp; omega
        obtain ⟨fn, tmps, assign, body, hy, hR⟩ := hY k (firstGp l1 r1) #[.agg #[.int .i64 (lo : Int), .int .i64 (hi : Int), .slice A2 I c2, .slice B2 J' d2]] w2 HG1.out hJ3
          ⟨A2, c2, B2, d2, by rw [hg1]; unfold gpV; dsimp only; rw [hlI, hlJ], by rw [hg1]; exact hA3, by rw [hg1]; exact hB3⟩
        rw [hw2, hgB]
        clear hw2 hgB
        go_simp
        refine hR.mono ?_
        rintro e W3 ⟨rfl, hJk3, hk3⟩
        have hb3 := hk3.2 gB _ 76 (0, 0) (.inr rfl) hFg2
        have hFg3 : Full W3 gB 76 [.int .i64 (lo : Int), .int .i64 (hi : Int), .slice A2 I c2, .slice B2 J' d2] := hb3
        have m2 : W3.cell? ⟨gB, 2, none⟩ = some (.slice A2 I c2) := hFg3.cell 2
        have m3 : W3.cell? ⟨gB, 3, none⟩ = some (.slice B2 J' d2) := hFg3.cell 3
        have hA5 := hA4.keep hk3
        have hB5 := hB4.keep hk3
        have hdl : (l1.drop I).length = l1.length - I := List.length_drop
        have hdr : (r1.drop J').length = r1.length - J' := List.length_drop
        have HDL := Lib.hid hdl
        have HDR := Lib.hid hdr
        have HGG := Lib.hid hg2
        have HGG3 := Lib.hid hg3
        clear hdl hdr hg1 hg2 hg3 hy hR hlI hlJ hfst hb3
        gi_wp2
        gi_quiet (fail)
        gi_wp2
        go_roundw
        case rel =>
          refine ⟨A5, B5, c1 - I, d1 - J', l1.drop I, r1.drop J', k + 1, f', by rw [HDL.out], by rw [HDR.out], (HTA.2 _ hA5), (HTB.2 _ hB5), by rw [HDL.out]; omega, by rw [HDR.out]; omega, by rw [HDL.out, HDR.out]; omega, Lib.hid ?_, by omega, hJd _ _ _ hJk3⟩
          have := HG2.out
          rw [HGG.out, HGG3.out] at this
          exact this
        case measure => simp; omega
      · have hrp : 0 < r1.length := by omega
        gi_wp2_with (gi_at_call 56; refine (callsIn_wide.2 hfst).mono ?_; rintro e w1 ⟨A2, c2, B2, d2, lo, hi, I, J', rfl, hN, hA2, hB2, hb1⟩)
        obtain ⟨hg1, hg2, hg3, hI, hJ', hpos⟩ := hN
        have hFg := Full.new w1 76 [.int .i64 (lo : Int), .int .i64 (hi : Int), .slice A2 I c2, .slice B2 J' d2]
        obtain ⟨gB, hgB⟩ : ∃ gB, w1.heap.size = gB := ⟨_, rfl⟩
        have hbW : Below wr.heap.size wr (w1.alloc (.cells #[.int .i64 (lo : Int), .int .i64 (hi : Int), .slice A2 I c2, .slice B2 J' d2] 76)) := hb1.alloc hb1.size _
        have hkW : KeepT w1 (w1.alloc (.cells #[.int .i64 (lo : Int), .int .i64 (hi : Int), .slice A2 I c2, .slice B2 J' d2] 76)) := KeepT.below ((Below.refl _ w1).alloc (Nat.le_refl _) _)
        have hA3 := hA2.keep hkW
        have hB3 := hB2.keep hkW
        have hA4 := hA1.keep (KeepT.below hbW)
        have hB4 := hB1.keep (KeepT.below hbW)
        have hJ3 : J k (w1.alloc (.cells #[.int .i64 (lo : Int), .int .i64 (hi : Int), .slice A2 I c2, .slice B2 J' d2] 76)) := hJ k wr _ none hJk (grown_below hbW none) (by rintro r e; cases e)
        obtain ⟨A5, hrA, HTA⟩ := ht_l A1 l1 c1 I hI hcA
        obtain ⟨B5, hrB, HTB⟩ := ht_l B1 r1 d1 J' hJ' hcB
        rw [hgB] at hFg
        obtain ⟨w2, hw2⟩ : ∃ w2, w1.alloc (.cells #[.int .i64 (lo : Int), .int .i64 (hi : Int), .slice A2 I c2, .slice B2 J' d2] 76) = w2 := ⟨_, rfl⟩
        have hFg2 : Full w2 gB 76 [.int .i64 (lo : Int), .int .i64 (hi : Int), .slice A2 I c2, .slice B2 J' d2] := by rw [← hw2]; exact hFg
        rw [hw2] at hA3 hB3 hA4 hB4 hJ3
        have hlI : (l1.take I).length = I := by simp; omega
        have hlJ : (r1.take J').length = J' := by simp; omega
        obtain ⟨fn, tmps, assign, body, hy, hR⟩ := hY k (firstGp l1 r1) #[.agg #[.int .i64 (lo : Int), .int .i64 (hi : Int), .slice A2 I c2, .slice B2 J' d2]] w2 HG1.out hJ3
          ⟨A2, c2, B2, d2, by rw [hg1]; unfold gpV; dsimp only; rw [hlI, hlJ], by rw [hg1]; exact hA3, by rw [hg1]; exact hB3⟩
        rw [hw2, hgB]
        clear hw2 hgB
        go_simp
        refine hR.mono ?_
        rintro e W3 ⟨rfl, hJk3, hk3⟩
        have hb3 := hk3.2 gB _ 76 (0, 0) (.inr rfl) hFg2
        have hFg3 : Full W3 gB 76 [.int .i64 (lo : Int), .int .i64 (hi : Int), .slice A2 I c2, .slice B2 J' d2] := hb3
        have m2 : W3.cell? ⟨gB, 2, none⟩ = some (.slice A2 I c2) := hFg3.cell 2
        have m3 : W3.cell? ⟨gB, 3, none⟩ = some (.slice B2 J' d2) := hFg3.cell 3
        have hA5 := hA4.keep hk3
        have hB5 := hB4.keep hk3
        have hdl : (l1.drop I).length = l1.length - I := List.length_drop
        have hdr : (r1.drop J').length = r1.length - J' := List.length_drop
        have HDL := Lib.hid hdl
        have HDR := Lib.hid hdr
        have HGG := Lib.hid hg2
        have HGG3 := Lib.hid hg3
        clear hdl hdr hg1 hg2 hg3 hy hR hlI hlJ hfst hb3
        gi_wp2
        gi_quiet (fail)
        gi_wp2
        go_roundw
        case rel =>
          refine ⟨A5, B5, c1 - I, d1 - J', l1.drop I, r1.drop J', k + 1, f', by rw [HDL.out], by rw [HDR.out], (HTA.2 _ hA5), (HTB.2 _ hB5), by rw [HDL.out]; omega, by rw [HDR.out]; omega, by rw [HDL.out, HDR.out]; omega, Lib.hid ?_, by omega, hJd _ _ _ hJk3⟩
          have := HG2.out
          rw [HGG.out, HGG3.out] at this
          exact this
        case measure => simp; omega

end Go.Proofs.Ytmeoannheomdoaa
