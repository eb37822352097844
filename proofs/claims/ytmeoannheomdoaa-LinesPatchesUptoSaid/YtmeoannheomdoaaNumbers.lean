/- numberLines: numbers in the place of lines. -/
import Derived.Maps.Own
import Derived.Maps.OwnOps
import Derived.Maps.Views
import Derived.RegionTactic
import Derived.Deep.DeepCutAuto
import Derived.Test.YtmeoannheomdoaaSkips
namespace Go.Proofs.Ytmeoannheomdoaa
open Go.RowKit Go.Maps

section
variable {α : Type} [DecidableEq α]
theorem numOf_snoc (l : List α) (x s : α) : numOf (l ++ [x]) s = if s = x ∧ x ∉ l then l.length + 1 else numOf l s := by
  unfold numOf
  by_cases h : s = x
  · subst h
    by_cases hl : s ∈ l
    · simp [hl, List.idxOf_append]
    · simp [hl, List.idxOf_append]
  · by_cases hl : s ∈ l
    · simp [h, hl, List.idxOf_append]
    · simp [h, hl]
theorem numOf_zero {l : List α} {s : α} : numOf l s = 0 ↔ s ∉ l := by
  unfold numOf
  split <;> simp_all
theorem numOf_more {l r : List α} {s : α} (h : s ∈ l) : numOf (l ++ r) s = numOf l s := by
  unfold numOf
  simp [h, List.idxOf_append]
theorem numOf_le (l : List α) (s : α) : numOf l s ≤ l.length := by
  unfold numOf
  split
  · rename_i h
    have := List.idxOf_lt_length_of_mem h
    omega
  · omega
/-- the number of the next line, when the lines ahead of it have theirs -/
theorem numOf_next {l : List α} {k : Nat} (hk : k < l.length) : (∀ s, numOf (l.take (k + 1)) s = if s = l[k] ∧ numOf (l.take k) l[k] = 0 then k + 1 else numOf (l.take k) s) ∧ numOf (l.take (k + 1)) l[k] = numOf l l[k] := by
  have e : l.take (k + 1) = l.take k ++ [l[k]] := by rw [List.take_succ_eq_append_getElem hk]
  have hl : (l.take k).length = k := by simp; omega
  refine ⟨fun s => ?_, ?_⟩
  · rw [e, numOf_snoc, hl]
    simp only [numOf_zero]
  · have := numOf_more (l := l.take (k + 1)) (r := l.drop (k + 1)) (s := l[k]) (by rw [e]; exact List.mem_append_right _ (List.mem_singleton_self _))
    rw [List.take_append_drop] at this
    exact this.symm
end

theorem law9 : Keyed Try.prog 9 := string_keyed Try.underlying9
theorem zero3 (w : World) : (zeroValue 3).run Try.prog w = .ok (.int .i64 0) w := by kernel_rfl
/-- Block g is a map of at most k entries that gives f. -/
def MapIs (w : World) (g : Nat) (f : ByteArray → Nat) (k : Nat) : Prop :=
  ∃ D : DataW Unit, w.ownsMap Try.prog 9 (plainElem Try.prog 3) g k D ∧ IsMap D ∧ ∀ s : ByteArray, D.atKey (.string s.data.toList) (.lit (.int .i64 0)) = .lit (.int .i64 (f s : Int))
theorem MapIs.made (w : World) : MapIs (w.alloc (.map #[] 0)) w.heap.size (fun _ => 0) 0 := ⟨.map [], World.ownsMap_made _ _ _ _, isMap_empty, fun s => rfl⟩
theorem MapIs.lt {w : World} {g k : Nat} {f : ByteArray → Nat} (h : MapIs w g f k) : g < w.heap.size := by obtain ⟨D, h, _⟩ := h; exact h.lt
theorem MapIs.kept {w w' : World} {g k : Nat} {f : ByteArray → Nat} {row : Option Nat} (h : MapIs w g f k) (hg : w.grownBy w' row) (hne : some g ≠ row) : MapIs w' g f k := by
  obtain ⟨D, h, h2⟩ := h
  exact ⟨D, h.kept hg hne, h2⟩
theorem grown_cell (W : World) (g o : Nat) (v : Value) : W.grownBy (W.setCell ⟨g, o, none⟩ v) (some g) :=
  ⟨rfl, rfl, rfl, by simp [World.setCell], fun k _ hk => Below.heap_setCell _ _ _ k (fun e => hk (by rw [e]))⟩
theorem MapIs.look {w : World} {g k : Nat} {f : ByteArray → Nat} (h : MapIs w g f k) {s : ByteArray} (hs : s.size ≤ maxLen) : (Instr.lookup 95 (.map (some g)) (.string s) false).run Try.prog w = .ok (.int .i64 (f s : Int)) w := by
  obtain ⟨D, h, _, hf⟩ := h
  obtain ⟨c, hr, hc, _⟩ := h.lookup_int law9 Try.underlying95 Try.underlying3 (zero3 w) (WideMaps.keyOf_string_mk Try.underlying9 hs)
  rw [hf] at hc
  rw [hr]
  congr 2
  injection hc with hc
  injection hc with _ hc
  exact hc.symm
theorem MapIs.put {w : World} {g k : Nat} {f : ByteArray → Nat} (h : MapIs w g f k) (hk : k < maxLen) {s : ByteArray} (hs : s.size ≤ maxLen) (v : Nat) (hv : v ≤ 4000000) :
    ∃ w', (Instr.mapUpdate 95 (.map (some g)) (.string s) (.int .i64 (v : Int))).run Try.prog w = .ok () w' ∧ MapIs w' g (fun t => if t = s then v else f t) (k + 1) ∧ w.grownBy w' (some g) := by
  obtain ⟨D, h, hm, hf⟩ := h
  obtain ⟨w', hr, ho, hg⟩ := h.update law9 Try.underlying95 hk (WideMaps.keyOf_string_mk Try.underlying9 hs) (plainElem_int (q := .i64) (a := (v : Int)) Try.underlying3 (WalkArith.wf_i64 (by omega)))
  refine ⟨w', hr, ⟨_, ho, hm.put _ _, fun t => ?_⟩, hg⟩
  by_cases e : t = s
  · subst e
    dsimp only
    rw [if_pos rfl, atKey_put_same hm (by exact True.intro)]
  · dsimp only
    rw [if_neg e, atKey_put_other, hf]
    intro he
    injection he with he
    exact e (Go.WideShapes.bytes_inj he)

/-- the numbers of the first k lines; behind them, zeros -/
def numsTo (a : List ByteArray) (f : ByteArray → Nat) (k : Nat) : List Nat := (a.take k).map f ++ List.replicate (a.length - k) 0
theorem numsTo_zero (a : List ByteArray) (f : ByteArray → Nat) : numsTo a f 0 = List.replicate a.length 0 := by simp [numsTo]
theorem numsTo_all (a : List ByteArray) (f : ByteArray → Nat) : numsTo a f a.length = a.map f := by simp [numsTo]
theorem numsTo_len (a : List ByteArray) (f : ByteArray → Nat) {k : Nat} (hk : k ≤ a.length) : (numsTo a f k).length = a.length := by simp [numsTo]; omega
theorem numsTo_set (a : List ByteArray) (f : ByteArray → Nat) {k : Nat} (hk : k < a.length) : (numsTo a f k).set k (f a[k]) = numsTo a f (k + 1) := by
  have h1 : ((a.take k).map f).length = k := by simp; omega
  unfold numsTo
  rw [List.set_append_right _ _ (by omega), h1, Nat.sub_self, List.take_succ_eq_append_getElem hk, show a.length - k = (a.length - (k + 1)) + 1 by omega, List.replicate_succ, List.set_cons_zero]
  rw [List.map_append, List.append_assoc]
  rfl

theorem MapIs.drew_ {w : World} {g k : Nat} {f : ByteArray → Nat} (h : MapIs w g f k) : MapIs w.drew g f k := by
  obtain ⟨D, h, h2⟩ := h
  exact ⟨D, h.drew, h2⟩
theorem MapIs.alloc_ {w : World} {g k : Nat} {f : ByteArray → Nat} (h : MapIs w g f k) (o : Obj) : MapIs (w.alloc o) g f k := by
  obtain ⟨D, h, h2⟩ := h
  exact ⟨D, h.alloc _, h2⟩
theorem Full.row_ne {w : World} {g : Nat} {t : TypeId} {cs : List Value} (h : Full w g t cs) {g' k : Nat} {f : ByteArray → Nat} (h' : MapIs w g' f k) : g ≠ g' := by
  rintro rfl
  obtain ⟨D, ⟨es, cl, hm, _⟩, _⟩ := h'
  have := (show w.heap[g]? = _ from h).symm.trans hm
  injection this with h1
  cases h1

def NumsOut (a b : List ByteArray) (n m : Nat) (w : World) (e : Ending) (w' : World) : Prop :=
  ∃ (gx gy : Nat) (f : ByteArray → Nat), e = .returned (.tuple #[.slice (some ⟨gx, 0, none⟩) n n, .slice (some ⟨gy, 0, none⟩) m m]) ∧ Full w' gx 3 (natC (a.map f)) ∧ Full w' gy 3 (natC (b.map f)) ∧ (∀ s ∈ a, ∀ t ∈ b, f s = f t → s = t) ∧ Below w.heap.size w w'

set_option maxRecDepth 100000 in
set_option maxHeartbeats 2000000 in
theorem numbers_le (A B : Option Addr) (a b : List ByteArray) (c d : Nat) (w : World) (hA : Strs w w.heap.size A c a) (hB : Strs w w.heap.size B d b) (ha : a.length ≤ 4000000) (hb : b.length ≤ 4000000) (hab : a.length ≤ b.length)
    (hza : ∀ s ∈ a, s.size ≤ maxLen) (hzb : ∀ s ∈ b, s.size ≤ maxLen) :
    Calls Try.prog 53 #[.slice A a.length c, .slice B b.length d] w (NumsOut a b a.length b.length w) := by
  have hmm := @run_makeMap Try.prog
  obtain ⟨n, hn⟩ : ∃ n, a.length = n := ⟨_, rfl⟩
  obtain ⟨m, hm⟩ : ∃ m, b.length = m := ⟨_, rfl⟩
  have hcA := hA.cap
  have hcB := hB.cap
  rw [hn] at ha hab hcA ⊢
  rw [hm] at hb hab hcB ⊢
  have hmk1 := made_one 28 3 (.int .i64 0) 8 Try.underlying28 info3 rfl n (by omega) (by omega)
  have hmk2 := made_one 28 3 (.int .i64 0) 8 Try.underlying28 info3 rfl m (by omega) (by omega)
  obtain ⟨X, HX⟩ : ∃ X, Hid (List.replicate n (Value.int .i64 0) = X) := ⟨_, Lib.hid rfl⟩
  obtain ⟨Y, HY⟩ : ∃ Y, Hid (List.replicate m (Value.int .i64 0) = Y) := ⟨_, Lib.hid rfl⟩
  rw [HX.out] at hmk1
  rw [HY.out] at hmk2
  have HN := Lib.hid hn
  have HM := Lib.hid hm
  have HZA := Lib.hid hza
  have HZB := Lib.hid hzb
  clear hn hm hza hzb
  go_enter Try.func53, Try.ntmps53
  go_upto_region 5 with fail
  have hM0 := MapIs.made w
  have hB0 : Below w.heap.size w (w.alloc (.map #[] 0)) := (Below.refl _ w).alloc (Nat.le_refl _) _
  go_cut [9, 10] (fun s9 s10 wx => ∃ gx gy : Nat, s9 = .slice (some ⟨gx, 0, none⟩) n n ∧ s10 = .slice (some ⟨gy, 0, none⟩) m m ∧ Full wx gx 3 X ∧ Full wx gy 3 Y ∧ gx ≠ gy ∧ w.heap.size < gx ∧ w.heap.size < gy ∧ MapIs wx w.heap.size (fun _ => 0) 0 ∧ Below w.heap.size w wx)
  case first =>
    go_region
    all_goals
      go_wp2_with fail
      go_meet
    case rel =>
      refine ⟨_, _, rfl, rfl, ?_, ?_, by omega, by omega, by omega, ((hM0.alloc_ _).alloc_ _).drew_, ((hB0.alloc (by simp) _).alloc (by simp; omega) _).drew⟩
      · have := (Full.new (w.alloc (.map #[] 0)) 3 X).alloc (.cells Y.toArray 3)
        rw [World.size_alloc] at this
        exact this
      · have := Full.new ((w.alloc (.map #[] 0)).alloc (.cells X.toArray 3)) 3 Y
        rw [World.size_alloc, World.size_alloc] at this
        exact this
    case rel =>
      refine ⟨_, _, rfl, rfl, ?_, ?_, by omega, by omega, by omega, ((hM0.alloc_ _).alloc_ _).drew_, ((hB0.alloc (by simp) _).alloc (by simp; omega) _).drew⟩
      · have := Full.new ((w.alloc (.map #[] 0)).alloc (.cells Y.toArray 3)) 3 X
        rw [World.size_alloc, World.size_alloc] at this
        exact this
      · have := (Full.new (w.alloc (.map #[] 0)) 3 Y).alloc (.cells X.toArray 3)
        rw [World.size_alloc] at this
        exact this
  case rest =>
    obtain ⟨gx, gy, rfl, rfl, hX, hY, hne, hgx, hgy, hM, hBe⟩ := hcut
    clear hM0 hB0 hmk1 hmk2
    go_wp2
    go_loopw [37] (fun i wr => ∃ k : Nat, k ≤ n ∧ i = .int .i64 k ∧ MapIs wr w.heap.size (numOf (a.take k)) k ∧ Full wr gx 3 (natC (numsTo a (numOf a) k)) ∧ Full wr gy 3 Y ∧ Below w.heap.size w wr) (fun i _ => n - (intOf i).toNat)
    case atStart =>
      refine ⟨0, by omega, rfl, ?_, ?_, hY, hBe⟩
      · have e : numOf (a.take 0) = fun _ => 0 := by funext s; rfl
        rw [e]; exact hM
      · rw [numsTo_zero, HN.out]
        have e : natC (List.replicate n 0) = X := by rw [← HX.out]; simp [natC]
        rw [e]; exact hX
    case round =>
      obtain ⟨k, hk, rfl, hMk, hXk, hYk, hBk⟩ := hrel
      by_cases hlt : k < n
      · have hka : k < a.length := by have := HN.out; omega
        obtain ⟨ad, rfl, hadB, hca⟩ := hA.at_ hka
        have hca1 := (hBk.cell (p := ad.add k) (by rw [add_block]; exact hadB)).trans hca
        have hsz := HZA.out _ (List.getElem_mem hka)
        obtain ⟨hnx, hnl⟩ := numOf_next hka
        have hset := numsTo_set a (numOf a) hka
        rw [← hnl] at hset
        obtain ⟨s, HS⟩ : ∃ s, Hid (a[k] = s) := ⟨_, Lib.hid rfl⟩
        rw [HS.out] at hca1 hsz hnx hnl hset
        have hlook := hMk.look hsz
        have hbd := numOf_le (a.take k) s
        have htl : (a.take k).length ≤ k := List.length_take_le _ _
        obtain ⟨u, hu⟩ : ∃ u, numOf (a.take k) s = u := ⟨_, rfl⟩
        rw [hu] at hlook hbd
        have hi0 : (0 : Int) ≤ (k : Int) := Int.natCast_nonneg _
        have hi1 : (k : Int) < (n : Int) := by omega
        have hxl : (numsTo a (numOf a) k).length = n := by rw [numsTo_len _ _ (by omega), HN.out]
        have hcx : ∃ v, wr.cell? ⟨gx, k, none⟩ = some v := by
          rw [hXk.cell]
          exact ⟨_, List.getElem?_eq_getElem (by simp [natC, hxl]; exact hlt)⟩
        obtain ⟨v0, hcx⟩ := hcx
        have hfx := hXk.frozen k
        by_cases hu0 : u = 0
        · subst hu0
          obtain ⟨w1, hr1, hM1, hg1⟩ := hMk.put (by unfold maxLen; omega) hsz (k + 1) (by omega)
          rw [show ((k + 1 : Nat) : Int) = (k : Int) + 1 from rfl] at hr1
          have hf1 : (fun t => if t = s then k + 1 else numOf (a.take k) t) = numOf (a.take (k + 1)) := by
            funext t
            rw [hnx t]
            by_cases e : t = s
            · rw [if_pos e, if_pos ⟨e, hu⟩]
            · rw [if_neg e, if_neg (fun h => e h.1)]
          rw [hf1] at hM1
          have hlook1 := hM1.look hsz
          have hns : numOf (a.take (k + 1)) s = k + 1 := by rw [← hf1]; simp
          rw [hns] at hlook1 hset
          rw [show ((k + 1 : Nat) : Int) = (k : Int) + 1 from rfl] at hlook1
          have hXn := hXk.row_ne hMk
          have hYn := hYk.row_ne hMk
          have hX1 := hXk.grown hg1 (fun e => hXn (by injection e))
          have hY1 := hYk.grown hg1 (fun e => hYn (by injection e))
          have hcx1 : w1.cell? ⟨gx, k, none⟩ = some v0 := by rw [hX1.cell, ← hXk.cell, hcx]
          have hfx1 := hX1.frozen k
          have hB1 := hBk.grown hg1 hBk.size (fun j e => by injection e with e; omega)
          have HSET := Lib.hid hset
          clear hnx hnl hset hu hbd htl hf1 hns hxl hadB hca
          go_wp2
          go_roundw
          case rel =>
            refine ⟨k + 1, by omega, by go_num, hM1.kept (grown_cell _ _ _ _) (fun e => hXn (by injection e with e; exact e.symm)), ?_, hY1.far (fun e => hne e.symm) _, hB1.setCell (p := ⟨gx, k, none⟩) (by simp; omega) _⟩
            have := hX1.setN k (k + 1)
            rw [HSET.out] at this
            exact this
          case measure => simp [intOf]; omega
        · have hub : ((u : Int) == 0) = false := by rw [beq_eq_false_iff_ne]; omega
          have hf1 : numOf (a.take (k + 1)) = numOf (a.take k) := by
            funext t
            rw [hnx t, if_neg (fun h => hu0 (hu.symm.trans h.2))]
          rw [hf1, hu] at hset
          have hXn := hXk.row_ne hMk
          have HSET := Lib.hid hset
          have HF := Lib.hid hf1
          have hu1 : ¬ ((u : Int) = 0) := by omega
          clear hnx hnl hset hu hbd htl hf1 hxl hadB hca
          go_wp2
          go_roundw
          case rel =>
            refine ⟨k + 1, by omega, by go_num, ?_, ?_, hYk.far (fun e => hne e.symm) _, hBk.setCell (p := ⟨gx, k, none⟩) (by simp; omega) _⟩
            · rw [HF.out]
              obtain ⟨D, h1, h2⟩ := hMk.kept (grown_cell wr gx k (.int .i64 (u : Int))) (fun e => hXn (by injection e with e; exact e.symm))
              exact ⟨D, h1.mono (by omega), h2⟩
            · have := hXk.setN k u
              rw [HSET.out] at this
              exact this
          case measure => simp [intOf]; omega
      · obtain rfl : k = n := by omega
        have hMf : MapIs wr w.heap.size (numOf a) k := by
          rw [← HN.out, List.take_length] at hMk
          rw [← HN.out]; exact hMk
        have hXf : Full wr gx 3 (natC (a.map (numOf a))) := by
          rw [← HN.out, numsTo_all] at hXk
          exact hXk
        clear hMk hXk hX hY hM hBe
        obtain ⟨wo, rfl⟩ : ∃ wo : World, wo = wr := ⟨_, rfl⟩
        go_wp2
        go_loopw [59] (fun i wr => ∃ j : Nat, j ≤ m ∧ i = .int .i64 j ∧ MapIs wr w.heap.size (numOf a) k ∧ Full wr gx 3 (natC (a.map (numOf a))) ∧ Full wr gy 3 (natC (numsTo b (numOf a) j)) ∧ Below w.heap.size w wr) (fun i _ => m - (intOf i).toNat)
        case atStart =>
          refine ⟨0, by omega, rfl, hMf, hXf, ?_, hBk⟩
          rw [numsTo_zero, HM.out]
          have e : natC (List.replicate m 0) = Y := by rw [← HY.out]; simp [natC]
          rw [e]; exact hYk
        case round =>
          obtain ⟨j, hj, rfl, hMj, hXj, hYj, hBj⟩ := hrel
          by_cases hlt : j < m
          · have hjb : j < b.length := by have := HM.out; omega
            obtain ⟨bd, rfl, hbdB, hcb⟩ := hB.at_ hjb
            have hcb1 := (hBj.cell (p := bd.add j) (by rw [add_block]; exact hbdB)).trans hcb
            have hsz := HZB.out _ (List.getElem_mem hjb)
            have hset := numsTo_set b (numOf a) hjb
            obtain ⟨s, HS⟩ : ∃ s, Hid (b[j] = s) := ⟨_, Lib.hid rfl⟩
            rw [HS.out] at hcb1 hsz hset
            have hlook := hMj.look hsz
            obtain ⟨u, hu⟩ : ∃ u, numOf a s = u := ⟨_, rfl⟩
            rw [hu] at hlook hset
            have hi0 : (0 : Int) ≤ (j : Int) := Int.natCast_nonneg _
            have hi1 : (j : Int) < (m : Int) := by omega
            have hyl : (numsTo b (numOf a) j).length = m := by rw [numsTo_len _ _ (by omega), HM.out]
            have hcy : ∃ v, wr.cell? ⟨gy, j, none⟩ = some v := by
              rw [hYj.cell]
              exact ⟨_, List.getElem?_eq_getElem (by simp [natC, hyl]; exact hlt)⟩
            obtain ⟨v0, hcy⟩ := hcy
            have hfy := hYj.frozen j
            have hYn := hYj.row_ne hMj
            have HSET := Lib.hid hset
            clear hset hu hyl hbdB hcb
            go_wp2
            go_roundw
            case rel =>
              refine ⟨j + 1, by omega, by go_num, hMj.kept (grown_cell wr gy j (.int .i64 (u : Int))) (fun e => hYn (by injection e with e; exact e.symm)), hXj.far (fun e => hne e) _, ?_, hBj.setCell (p := ⟨gy, j, none⟩) (by simp; omega) _⟩
              have := hYj.setN j u
              rw [HSET.out] at this
              exact this
            case measure => simp [intOf]; omega
          · obtain rfl : j = m := by omega
            have hYf : Full wr gy 3 (natC (b.map (numOf a))) := by
              rw [← HM.out, numsTo_all] at hYj
              exact hYj
            go_wp2
            go_ret2
            exact ⟨gx, gy, numOf a, rfl, hXj, hYf, numOf_inj, hBj⟩

/-- numberLines, whichever list is the longer one -/
theorem numbers_any (A B : Option Addr) (a b : List ByteArray) (c d : Nat) (w : World) (hA : Strs w w.heap.size A c a) (hB : Strs w w.heap.size B d b) (ha : a.length ≤ 4000000) (hb : b.length ≤ 4000000)
    (hza : ∀ s ∈ a, s.size ≤ maxLen) (hzb : ∀ s ∈ b, s.size ≤ maxLen) :
    Calls Try.prog 53 #[.slice A a.length c, .slice B b.length d] w (NumsOut a b a.length b.length w) := by
  by_cases h : a.length ≤ b.length
  · exact numbers_le A B a b c d w hA hB ha hb h hza hzb
  · have hh : b.length < a.length := by omega
    go_enter Try.func53, Try.ntmps53
    go_wp2_with (go_at_call 53; refine (numbers_le B A b a d c _ hB hA hb ha (by omega) hzb hza).mono ?_; rintro e w1 ⟨gx, gy, f, rfl, hX, hY, hf, hBe⟩)
    go_ret2
    exact ⟨gy, gx, f, rfl, hY, hX, fun s hs t ht e => (hf t ht s hs e.symm).symm, hBe⟩

end Go.Proofs.Ytmeoannheomdoaa
