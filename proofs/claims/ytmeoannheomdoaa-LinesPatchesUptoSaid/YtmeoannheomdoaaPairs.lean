/- pairs: the iterator yields the pairs of the alignment, in order. -/
import Derived.RangeFuncNested
import Derived.RangeFuncBound
import Derived.RangeFuncBox
import Derived.RangeFuncCalls
import Derived.RangeFuncLeaves
import Derived.Shelf.Abstract
import Derived.Shelf.RegionOpen
import Derived.OwnWalkIn
import Derived.TacticsInMore
import Derived.LoopNIn
import Derived.LoopIn
import Derived.Sort.QuietIn
import Derived.BigFrameIn
import Derived.Test.YtmeoannheomdoaaNumbers
import Derived.Test.YtmeoannheomdoaaEqual
namespace Go.Proofs.Ytmeoannheomdoaa
open Go.RowKit Go.Shelf
attribute [local go_sem] Oper.semAt_some

/-- What a round of Diff's loop keeps: all blocks of integers and of truth values. -/
def KeepIB (W W' : World) : Prop := ∀ k t cs, (t = 3 ∨ t = 4) → Full W k t cs → Full W' k t cs
theorem KeepIB.trans {A B C : World} (h : KeepIB A B) (k : KeepIB B C) : KeepIB A C := fun i t cs ht hf => k i t cs ht (h i t cs ht hf)
theorem KeepIB.putObj (W : World) (l : Nat) (o o' : Obj) (h : W.heap[l]? = some o) (hc : o.isCells = false) : KeepIB W (W.putObj l o') := fun k t cs _ hf => by
  have hne : k ≠ l := by
    rintro rfl
    have := (show W.heap[k]? = _ from hf).symm.trans h
    injection this with h1
    rw [← h1] at hc
    cases hc
  exact (World.putObj_heap_other hne).trans hf
theorem KeepIB.of_grown {W W' : World} {row : Option Nat} (hg : W.grownBy W' row) (hr : ∀ k t cs, row = some k → (t = 3 ∨ t = 4) → ¬ Full W k t cs) : KeepIB W W' := fun k t cs ht hf =>
  hf.grown hg (fun e => hr k t cs e.symm ht hf)

abbrev encP (p : Nat × Nat) : Array Value := #[.int .i64 (p.1 : Int), .int .i64 (p.2 : Int)]
theorem grown_below {a w : World} (h : Below a.heap.size a w) (row : Option Nat) : a.grownBy w row := ⟨h.os, h.tape, h.output, h.size, fun i hi _ => h.block i hi⟩
theorem grown_drewN (w : World) (n : Nat) : w.grownBy (w.drewN n) none := ⟨rfl, rfl, rfl, Nat.le_refl _, fun _ _ _ => rfl⟩

theorem midPairs_of {a b : List ByteArray} {f : ByteArray → Nat} (hf : ∀ s ∈ a, ∀ t ∈ b, f s = f t → s = t) (h : a.length * b.length ≤ 4000000) : midPairs a b = WW (a.map f) (b.map f) 0 0 := by
  unfold midPairs
  rw [if_neg (by omega)]
  exact (walk_map f a b 0 0 hf).symm

theorem skips_row (a b : List ByteArray) (f : ByteArray → Nat) (w : World) (gx gy : Nat) (hX : Full w gx 3 (natC (a.map f))) (hY : Full w gy 3 (natC (b.map f))) (ha : a.length ≤ 4000000) (hb : b.length ≤ 4000000) (h : a.length * b.length ≤ 4000000) :
    Calls Try.prog 54 #[.slice (some ⟨gx, 0, none⟩) a.length a.length, .slice (some ⟨gy, 0, none⟩) b.length b.length] w (SkipOut (a.map f) (b.map f) (a.length * b.length) w) := by
  have hx : (a.map f).length = a.length := List.length_map _
  have hy : (b.map f).length = b.length := List.length_map _
  have h1 := hX.row 1 (a.map f).length (by simp [natC]) (a.map f).length (Nat.le_refl _)
  have h2 := hY.row 1 (b.map f).length (by simp [natC]) (b.map f).length (Nat.le_refl _)
  have := skips_any _ _ (a.map f) (b.map f) _ _ w h1 h2 (by rw [hx, hy]; exact h) (by rw [hx]; exact ha) (by rw [hy]; exact hb)
  rw [hx, hy] at this
  exact this
theorem boolC_at {l : List Bool} {j : Nat} {v : Bool} (h : l[j]? = some v) : (boolC l)[j]? = some (.bool v) := by unfold boolC; rw [List.getElem?_map, h]; rfl
theorem KeepIB.refl (W : World) : KeepIB W W := fun _ _ _ _ h => h

set_option maxRecDepth 100000 in
set_option maxHeartbeats 2000000 in
theorem pairs1_in (n : Nat) (hn : 1 ≤ n) (l Ba Bb : Nat) (A B : Option Addr) (a b : List ByteArray) (c d : Nat) (J Jx : List (Nat × Nat) → World → Prop) (W : World)
    (hJ : AbidesFrom W.heap.size J)
    (hBa : W.cell? ⟨Ba, 0, none⟩ = some (.slice A a.length c)) (hBb : W.cell? ⟨Bb, 0, none⟩ = some (.slice B b.length d))
    (hA : Strs W W.heap.size A c a) (hB : Strs W W.heap.size B d b) (ha : a.length ≤ maxLen) (hb : b.length ≤ maxLen)
    (hza : ∀ s ∈ a, s.size ≤ maxLen) (hzb : ∀ s ∈ b, s.size ≤ maxLen)
    (hY : ∀ pre x W, J pre W → pre ++ [x] <+: midPairs a b → YieldAt Fence.wide (n - 1) Try.prog l (encP x) W fun e W' =>
      (e = .returned (.bool true) ∧ J (pre ++ [x]) W' ∧ KeepIB W W') ∨ (e = .returned (.bool false) ∧ Jx (pre ++ [x]) W'))
    (h0 : J [] W) :
    CallsIn Fence.wide n Try.prog 52 #[.func (.yield l) #[] #[], .pointer (some ⟨Ba, 0, none⟩), .pointer (some ⟨Bb, 0, none⟩)] W fun e W' => (∃ v, e = .returned v) ∧
      ((∃ ys, ys = midPairs a b ∧ J ys W') ∨ (∃ pre, pre <+: midPairs a b ∧ Jx pre W')) := by
  unfold maxLen at ha hb
  have hcA := hA.cap
  have hcB := hB.cap
  have hJd := fun (p : List (Nat × Nat)) (w' : World) (k : Nat) (h : J p w') => hJ p w' (w'.drewN k) none h (grown_drewN w' k) (fun r e => by cases e)
  have hlen0 : (0 : Int) ≤ (a.length : Int) := Int.natCast_nonneg _
  have hlen1 : (0 : Int) ≤ (b.length : Int) := Int.natCast_nonneg _
  by_cases hna : a.length = 0
  · have hmp : midPairs a b = [] := by
      obtain rfl : a = [] := List.eq_nil_of_length_eq_zero hna
      unfold midPairs
      rw [if_neg (by simp)]
      rfl
    have hnb : ((a.length : Int) == 0) = true := by simp [hna]
    refine callsIn_of_wp Try.func52 rfl trivial ?_ rfl
    simp only [Try.ntmps52, List.size_toArray, List.length_cons, List.length_nil, Nat.reduceAdd, Nat.reduceSub, Array.replicate_succ, Array.replicate_zero, List.push_toArray, List.append_toArray, List.nil_append, List.cons_append]
    gi_wp2
    gi_quiet (fail)
    gi_wp2
    refine bodyPost_ret (results_none rfl _ _ _) rfl ?_
    exact ⟨⟨_, rfl⟩, .inl ⟨_, rfl, by rw [hmp]; exact hJd _ _ _ h0⟩⟩
  · have hna' : ((a.length : Int) == 0) = false := by rw [beq_eq_false_iff_ne]; omega
    by_cases hnb : b.length = 0
    · have hmp : midPairs a b = [] := by
        obtain rfl : b = [] := List.eq_nil_of_length_eq_zero hnb
        unfold midPairs
        rw [if_neg (by simp), walk_nil']
      have hnb' : ((b.length : Int) == 0) = true := by simp [hnb]
      refine callsIn_of_wp Try.func52 rfl trivial ?_ rfl
      simp only [Try.ntmps52, List.size_toArray, List.length_cons, List.length_nil, Nat.reduceAdd, Nat.reduceSub, Array.replicate_succ, Array.replicate_zero, List.push_toArray, List.append_toArray, List.nil_append, List.cons_append]
      gi_wp2
      gi_quiet (fail)
      gi_wp2
      refine bodyPost_ret (results_none rfl _ _ _) rfl ?_
      exact ⟨⟨_, rfl⟩, .inl ⟨_, rfl, by rw [hmp]; exact hJd _ _ _ h0⟩⟩
    · have hnb' : ((b.length : Int) == 0) = false := by rw [beq_eq_false_iff_ne]; omega
      obtain ⟨u, hu⟩ : ∃ u : Nat, 4000000 / b.length = u := ⟨_, rfl⟩
      have hui : (4000000 : Int) / (b.length : Int) = (u : Int) := by rw [← hu]; exact (Int.natCast_ediv 4000000 b.length).symm
      have hut : (4000000 : Int).tdiv (b.length : Int) = (u : Int) := by rw [Int.tdiv_eq_ediv_of_nonneg (by omega)]; exact hui
      have hle : a.length * b.length ≤ 4000000 ↔ a.length ≤ u := by rw [← hu]; exact (Nat.le_div_iff_mul_le (by omega)).symm
      have hum : u ≤ 4000000 := by rw [← hu]; exact Nat.div_le_self _ _
      have hui2 := hui
      by_cases hbig : u < a.length
      · have hmp : midPairs a b = [] := by
          unfold midPairs
          rw [if_pos (by omega)]
        have hd : decide ((u : Int) < (a.length : Int)) = true := by simp; omega
        have HU := Lib.hid hu
        clear hu hle
        refine callsIn_of_wp Try.func52 rfl trivial ?_ rfl
        simp only [Try.ntmps52, List.size_toArray, List.length_cons, List.length_nil, Nat.reduceAdd, Nat.reduceSub, Array.replicate_succ, Array.replicate_zero, List.push_toArray, List.append_toArray, List.nil_append, List.cons_append]
        gi_wp2
        gi_quiet (fail)
        gi_wp2
        refine bodyPost_ret (results_none rfl _ _ _) rfl ?_
        exact ⟨⟨_, rfl⟩, .inl ⟨_, rfl, by rw [hmp]; exact hJd _ _ _ h0⟩⟩
      · have hd : decide ((u : Int) < (a.length : Int)) = false := by simp; omega
        have hprod : a.length * b.length ≤ 4000000 := hle.2 (by omega)
        have hb4 : b.length ≤ 4000000 := Nat.le_trans (Nat.le_mul_of_pos_left _ (by omega)) hprod
        have ha4 : a.length ≤ 4000000 := by omega
        have hnums := fun q => numbers_any A B a b c d (W.drewN q) (hA.drewN q) (hB.drewN q) ha4 hb4 hza hzb
        have HU := Lib.hid hu
        have HPR := Lib.hid hprod
        have HZA := Lib.hid hza
        have HZB := Lib.hid hzb
        have hfn : ∀ k, Fence.wide.fn k := fun _ => trivial
        clear hu hle hprod hza hzb
        refine callsIn_of_wp Try.func52 rfl trivial ?_ rfl
        simp only [Try.ntmps52, List.size_toArray, List.length_cons, List.length_nil, Nat.reduceAdd, Nat.reduceSub, Array.replicate_succ, Array.replicate_zero, List.push_toArray, List.append_toArray, List.nil_append, List.cons_append]
        gi_wp2
        gi_quiet (fail)
        clear hui hut hui2
        gi_wp2_with (first
          | (gi_at_call 53; refine (callsIn_wide.2 (hnums _)).mono ?_; rintro e w1 ⟨gx, gy, f, rfl, hXf, hYf, hf, hB1⟩; have hsk1 := skips_row a b f _ gx gy hXf hYf ha4 hb4 HPR.out)
          | (gi_at_call 54; refine (callsIn_wide.2 hsk1).mono ?_; rintro e w2 ⟨gs, S, rfl, hgs, hS, hSk, hB2⟩))
        have hBW : Below W.heap.size W w2 := ((Below.drewN_ (Below.refl _ W) _).trans hB1).trans (hB2.mono hB1.size)
        have hJ2 : J [] w2 := hJ [] W w2 none h0 (grown_below hBW none) (by rintro r e; cases e)
        have hX2 := hXf.on hB2
        have hY2 := hYf.on hB2
        have hmp := midPairs_of hf HPR.out
        obtain ⟨X, HX⟩ : ∃ X, Hid (a.map f = X) := ⟨_, Lib.hid rfl⟩
        obtain ⟨Y, HYY⟩ : ∃ Y, Hid (b.map f = Y) := ⟨_, Lib.hid rfl⟩
        have hxl : X.length = a.length := by rw [← HX.out]; exact List.length_map _
        have hyl : Y.length = b.length := by rw [← HYY.out]; exact List.length_map _
        rw [HX.out] at hX2
        rw [HYY.out] at hY2
        rw [HX.out, HYY.out] at hmp hSk
        obtain ⟨nn, hnn⟩ : ∃ nn, a.length = nn := ⟨_, rfl⟩
        obtain ⟨mm, hmm⟩ : ∃ mm, b.length = mm := ⟨_, rfl⟩
        obtain ⟨qq, hqq⟩ : ∃ qq, nn * mm = qq := ⟨_, rfl⟩
        have HQ := Lib.hid hqq
        have HXL := Lib.hid (hxl.trans hnn)
        have HYL := Lib.hid (hyl.trans hmm)
        have HSK := Lib.hid hSk
        have HMP := Lib.hid hmp
        have hq4 : qq ≤ 4000000 := by rw [← hqq, ← hnn, ← hmm]; exact HPR.out
        rw [hnn, hmm, hqq]
        rw [hnn] at ha4 hcA hlen0
        rw [hmm] at hb4 hcB hlen1
        clear hxl hyl hnn hmm hqq hSk hmp hsk1 hnums hd hbig hna hna' hnb hnb' hXf hYf
        gi_loopw [7, 8] (fun vi vj wr => ∃ (i j : Nat) (pre : List (Nat × Nat)), vi = .int .i64 i ∧ vj = .int .i64 j ∧ i ≤ nn ∧ j ≤ mm ∧ Hid (midPairs a b = pre ++ WW X Y i j) ∧ J pre wr ∧ Full wr gx 3 (natC X) ∧ Full wr gy 3 (natC Y) ∧ Full wr gs 4 (boolC S))
          (fun vi vj _ => nn - (intOf vi).toNat + (mm - (intOf vj).toNat))
        case atStart => exact ⟨0, 0, [], rfl, rfl, by omega, by omega, HMP, hJ2, hX2, hY2, hS⟩
        case round =>
          obtain ⟨i, j, pre, rfl, rfl, hin, hjm, HP, hJp, hXr, hYr, hSr⟩ := hrel
          have hi0 : (0 : Int) ≤ (i : Int) := Int.natCast_nonneg _
          have hj0 : (0 : Int) ≤ (j : Int) := Int.natCast_nonneg _
          by_cases hlt : i < nn ∧ j < mm
          · obtain ⟨hli, hlj⟩ := hlt
            have hiX : i < X.length := by have := HXL.out; omega
            have hjY : j < Y.length := by have := HYL.out; omega
            have hstep := WW_step X Y hiX hjY
            have hskp := HSK.out.2 i j hiX hjY (by omega)
            rw [HYL.out] at hskp
            have hxc := (hXr.cell i).trans (natC_at (List.getElem?_eq_getElem hiX))
            have hyc := (hYr.cell j).trans (natC_at (List.getElem?_eq_getElem hjY))
            obtain ⟨xi, hxi⟩ : ∃ v, X[i] = v := ⟨_, rfl⟩
            obtain ⟨yj, hyj⟩ : ∃ v, Y[j] = v := ⟨_, rfl⟩
            rw [hxi] at hxc hstep
            rw [hyj] at hyc hstep
            have hi1 : (i : Int) < (nn : Int) := by omega
            have hj1 : (j : Int) < (mm : Int) := by omega
            obtain ⟨p, hp⟩ : ∃ p, i * mm = p := ⟨_, rfl⟩
            have him : (i : Int) * (mm : Int) = (p : Int) := by rw [← hp]; exact (Int.natCast_mul i mm).symm
            rw [hp] at hskp
            have hpj : p + j < qq := by have := at_lt hli hlj; rw [HQ.out, hp] at this; exact this
            have HSTEP := Lib.hid hstep
            clear hxi hyj hstep hp
            by_cases hxy : xi = yj
            · have hxb : ((xi : Int) == (yj : Int)) = true := by rw [hxy]; simp
              have HXY := Lib.hid hxy
              clear hxy hskp
              have hplen : pre ++ [(i, j)] <+: midPairs a b := by rw [HP.out, HSTEP.out, if_pos HXY.out]; simp
              gi_wp2
              gi_quiet (fail)
              obtain ⟨fn, tmps, assign, body, hy, hR⟩ := hY pre (i, j) (wr.drewN nq) (hJd _ _ _ hJp) hplen
              dsimp only [encP] at hy
              gi_wp2
              refine hR.mono ?_
              rintro e W3 (⟨rfl, hJ3, hk3⟩ | ⟨rfl, hJx3⟩)
              · gi_wp2
                go_roundw
                case rel => exact ⟨i + 1, j + 1, pre ++ [(i, j)], by go_num, by go_num, by omega, by omega, Lib.hid (by rw [HP.out, HSTEP.out, if_pos HXY.out]; simp), hJ3, hk3 _ _ _ (.inl rfl) (hXr.drewN _), hk3 _ _ _ (.inl rfl) (hYr.drewN _), hk3 _ _ _ (.inr rfl) (hSr.drewN _)⟩
                case measure => simp [intOf]; omega
              · gi_wp2
                refine bodyPost_ret (results_none rfl _ _ _) rfl ?_
                exact ⟨⟨_, rfl⟩, .inr ⟨pre ++ [(i, j)], by rw [HP.out, HSTEP.out, if_pos HXY.out]; simp, hJx3⟩⟩
            · have hxb : ((xi : Int) == (yj : Int)) = false := by rw [beq_eq_false_iff_ne]; omega
              have HXY := Lib.hid hxy
              clear hxy
              by_cases hsk : LL X Y i (j + 1) ≤ LL X Y (i + 1) j
              · have hsb : skipB X Y i j = true := decide_eq_true hsk
                rw [hsb] at hskp
                have hsc := (hSr.cell (p + j)).trans (boolC_at hskp)
                have HSKP := Lib.hid hsk
                clear hsk hsb hskp
                gi_wp2
                gi_quiet (fail)
                gi_wp2
                go_roundw
                case rel => exact ⟨i + 1, j, pre, by go_num, rfl, by omega, by omega, Lib.hid (by rw [HP.out, HSTEP.out, if_neg HXY.out, if_pos HSKP.out]), hJd _ _ _ hJp, hXr.drewN _, hYr.drewN _, hSr.drewN _⟩
                case measure => simp [intOf]; omega
              · have hsb : skipB X Y i j = false := decide_eq_false hsk
                rw [hsb] at hskp
                have hsc := (hSr.cell (p + j)).trans (boolC_at hskp)
                have HSKP := Lib.hid hsk
                clear hsk hsb hskp
                gi_wp2
                gi_quiet (fail)
                gi_wp2
                go_roundw
                case rel => exact ⟨i, j + 1, pre, rfl, by go_num, by omega, by omega, Lib.hid (by rw [HP.out, HSTEP.out, if_neg HXY.out, if_neg HSKP.out]), hJd _ _ _ hJp, hXr.drewN _, hYr.drewN _, hSr.drewN _⟩
                case measure => simp [intOf]; omega
          · have hend : WW X Y i j = [] := by
              by_cases hx : i < nn
              · exact WW_end' X Y i (by have := HYL.out; omega)
              · exact WW_end X Y j (by have := HXL.out; omega)
            have HEND := Lib.hid hend
            clear hend
            by_cases hx : i < nn
            · have hj2 : ¬ j < mm := by omega
              clear hlt
              gi_wp2
              go_end0
              exact ⟨⟨_, rfl⟩, .inl ⟨pre, by rw [HP.out, HEND.out, List.append_nil], hJp⟩⟩
            · clear hlt
              gi_wp2
              go_end0
              exact ⟨⟨_, rfl⟩, .inl ⟨pre, by rw [HP.out, HEND.out, List.append_nil], hJp⟩⟩

/-- a pair of positions that fit -/
abbrev Pr := { q : Nat × Nat // q.1 < 1073741824 ∧ q.2 < 1073741824 }
abbrev encPr (q : Pr) : Array Value := encP q.1
theorem walk_mem {α : Type} [DecidableEq α] : ∀ (a : List α) (i : Nat) (b : List α) (j : Nat), ∀ q ∈ walk a i b j, i ≤ q.1 ∧ q.1 < i + a.length ∧ j ≤ q.2 ∧ q.2 < j + b.length := by
  intro a
  induction a with
  | nil => intro i b j q hq; simp [walk_nil] at hq
  | cons x xs ih =>
    intro i b
    induction b with
    | nil => intro j q hq; simp [walk_nil'] at hq
    | cons y ys ihb =>
      intro j q hq
      rw [walk_cons] at hq
      simp only [List.length_cons]
      split at hq
      · rcases List.mem_cons.1 hq with rfl | hq
        · simp
        · have := ih (i + 1) ys (j + 1) q hq
          omega
      · split at hq
        · have := ih (i + 1) (y :: ys) j q hq
          simp at this
          omega
        · have := ihb (j + 1) q hq
          simp at this
          omega
theorem mid_mem {α : Type} [DecidableEq α] {a b : List α} {q : Nat × Nat} (h : q ∈ midPairs a b) : q.1 < a.length ∧ q.2 < b.length := by
  unfold midPairs at h
  split at h
  · simp at h
  · have := walk_mem a 0 b 0 q h
    omega
theorem mid_len_le {α : Type} [DecidableEq α] : ∀ (a : List α) (i : Nat) (b : List α) (j : Nat), (walk a i b j).length ≤ a.length := by
  intro a
  induction a with
  | nil => intro i b j; simp [walk_nil]
  | cons x xs ih =>
    intro i b
    induction b with
    | nil => intro j; simp [walk_nil']
    | cons y ys ihb =>
      intro j
      rw [walk_cons]
      split
      · have := ih (i + 1) ys (j + 1); simp; omega
      · split
        · have := ih (i + 1) (y :: ys) j; simp; omega
        · exact ihb (j + 1)
theorem midPairs_len {α : Type} [DecidableEq α] (a b : List α) : (midPairs a b).length ≤ a.length := by
  unfold midPairs
  split
  · simp
  · exact mid_len_le _ _ _ _

theorem pairs_stops (n : Nat) (hn : 1 ≤ n) (Ba Bb : Nat) (A B : Option Addr) (a b : List ByteArray) (c d : Nat) (w : World)
    (hBa : w.cell? ⟨Ba, 0, none⟩ = some (.slice A a.length c)) (hBb : w.cell? ⟨Bb, 0, none⟩ = some (.slice B b.length d)) (hla : Ba < w.heap.size) (hlb : Bb < w.heap.size)
    (hA : Strs w w.heap.size A c a) (hB : Strs w w.heap.size B d b) (ha : a.length ≤ 1073741824) (hb : b.length ≤ 1073741824)
    (hza : ∀ s ∈ a, s.size ≤ maxLen) (hzb : ∀ s ∈ b, s.size ≤ maxLen) :
    SeqStopsK Fence.wide n Try.prog 52 #[.pointer (some ⟨Ba, 0, none⟩), .pointer (some ⟨Bb, 0, none⟩)] encPr KeepIB (fun ys => ys.map (·.1) = midPairs a b) (fun _ => True) (midPairs a b).length w := by
  intro l J Jx W hW hJ hJx hY h0
  have hin : ∀ q ∈ midPairs a b, q.1 < 1073741824 ∧ q.2 < 1073741824 := fun q hq => by have := mid_mem hq; omega
  refine (pairs1_in n hn l Ba Bb A B a b c d (fun ys W => ∃ zs : List Pr, zs.map (·.1) = ys ∧ J zs W) (fun ys W => ∃ zs : List Pr, zs.map (·.1) = ys ∧ Jx zs W) W ?_ ((hW.cell (p := ⟨Ba, 0, none⟩) hla).trans hBa) ((hW.cell (p := ⟨Bb, 0, none⟩) hlb).trans hBb)
    (hA.on hW) (hB.on hW) (by unfold maxLen; omega) (by unfold maxLen; omega) hza hzb ?_ ⟨[], rfl, h0⟩).mono ?_
  · rintro ys W1 W2 row ⟨zs, hz, h⟩ hg hr
    exact ⟨zs, hz, hJ zs W1 W2 row h hg hr⟩
  · rintro pre x W1 ⟨zs, rfl, h⟩ hpre
    have hx : x ∈ midPairs a b := hpre.subset (by simp)
    have hlen : zs.length < (midPairs a b).length := by have := hpre.length_le; simp at this; omega
    refine (hY zs ⟨x, hin x hx⟩ W1 h hlen).mono ?_
    rintro e W2 (⟨h1, h2, h3⟩ | ⟨h1, h2⟩)
    · exact .inl ⟨h1, ⟨_, by simp, h2⟩, h3⟩
    · exact .inr ⟨h1, _, by simp, h2⟩
  · rintro e W2 ⟨h1, ⟨ys, rfl, zs, hz, h⟩ | ⟨pre, hp, zs, hz, h⟩⟩
    · exact ⟨h1, .inl ⟨zs, hz, h⟩⟩
    · exact ⟨h1, .inr ⟨zs, True.intro, h⟩⟩

end Go.Proofs.Ytmeoannheomdoaa
