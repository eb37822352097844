/- onto: a piece is written to contents. -/
import Derived.Test.YthhpnlobhffimaaZeros
import Derived.Lib.BufferWrite
import Derived.Lib.SlBuf
import Derived.Shelf.Abstract
import Derived.Deep.Cut
namespace Go.Proofs.Ythhpnlobhffimaa
set_option maxRecDepth 100000
open Go.RowKit
def OntoOut (w : World) (v : Value) (l : List UInt8) (off : Nat) (s : ByteArray) (e : Ending) (w' : World) : Prop :=
  ∃ v', e = .returned v' ∧ w'.ownsRow 0 5 1 v' (put l off s.data.toList).length (bytC (put l off s.data.toList)) ∧ Turn (fun g => v.ownBlock = some g) w w' ∧ (v'.ownBlock = v.ownBlock ∨ ∃ g, v'.ownBlock = some g ∧ w.heap.size ≤ g)
theorem byteC_eq (l : List UInt8) : Lib.byteCells l = bytC l := rfl
/-- copy(contents[off:], s): into a row of one's own -/
theorem copy_run (A : Option Addr) (n c off : Nat) (hnc : n ≤ c) (s : ByteArray) (hs : off + s.size ≤ n) :
    ∃ A' c', (∀ w, (Instr.slice 66 (.slice A n c) (some (.int .i64 (off : Int))) none none).run Try.prog w = .ok (.slice A' (n - off) c') w) ∧
      ∀ (w : World) (l : List UInt8) (ty : TypeId), w.ownsRow 0 5 1 (.slice A n c) n (bytC l) → ∃ w' v, (Builtin.copy_ #[66, 9] ty #[.slice A' (n - off) c', .string s]).run Try.prog w = .ok v w' ∧
      w'.ownsRow 0 5 1 (.slice A n c) n (bytC (l.take off ++ s.data.toList ++ l.drop (off + s.size))) ∧ Turn (fun g => (Value.slice A n c).ownBlock = some g) w w' := by
  have hsz : ∀ W, (Go.sizeOf 5).run Try.prog W = .ok 1 W := fun W => by
    obtain ⟨i, hi, hz, h1, hby⟩ := info_parts info5
    simp [sizeOf, typeInfo, hi, h1]
  have he : Try.prog.elem 66 = 5 := by simp [Program.elem, Try.underlying66]
  have hrun : ∀ w, (Instr.slice 66 (.slice A n c) (some (.int .i64 (off : Int))) none none).run Try.prog w = .ok (.slice (if c = off then A else A.map (·.add (off * 1))) (n - off) (c - off)) w := by
    intro w
    rw [run_slice_l w 66 A n c (by rw [he]; exact Try.underlying66) _ _ (by omega) (by omega), he, hsz]
    rfl
  refine ⟨_, _, hrun, fun w l ty h => ?_⟩
  have hl : l.length = n := by have := h.1; rw [bytC_len] at this; omega
  by_cases h0 : s.size = 0
  · have hss : s.data.toList = [] := List.eq_nil_of_length_eq_zero (by rw [data_len]; exact h0)
    refine ⟨w, _, Lib.run_copy_empty_string w 66 9 ty 5 _ _ _ s Try.underlying66 (by kernel_rfl) h0, ?_, Turn.refl _ _⟩
    rw [hss, h0, List.append_nil, Nat.add_zero, List.take_append_drop]
    exact h
  · obtain ⟨g, c', e, hg, hle, hcm⟩ := own_some h (by omega)
    injection e with e1 e2 e3
    subst e1 e3
    obtain ⟨g', cur, e', hb, hh, _, _, hcs, ht⟩ := own_block h
    obtain rfl : g = g' := by injection e'
    have hco : ¬ c = off := by omega
    have hadd : (if c = off then some (⟨g, 0, none⟩ : Addr) else (some (⟨g, 0, none⟩ : Addr)).map (·.add (off * 1))) = some ⟨g, off, none⟩ := by
      rw [if_neg hco, Nat.mul_one, Option.map_some, Addr.add_lit, Nat.zero_add]
    rw [hadd]
    have hr := Lib.run_copy_row_string (P := Try.prog) w 66 9 ty 5 g off (n - off) (c - off) s cur 5 Try.underlying66 size5 hh (by omega) (by omega)
    refine ⟨_, _, hr, ?_, ⟨rfl, rfl, rfl, by simp, fun j _ hj => setRow_other w g j _ (fun e => hj (by simp [Value.ownBlock, e]))⟩⟩
    have hn1 : n * 1 = n := Nat.mul_one n
    have hc1 : c * 1 = c := Nat.mul_one c
    rw [hn1] at ht
    rw [hc1] at hcs
    refine own_of_block (cur := (cur.toList.take off ++ Lib.byteCells s.data.toList ++ cur.toList.drop (off + s.size)).toArray) hb (setRow_heap w g cur _ 5 _ hh) hle hcm ?_ ?_
    · have : (Lib.byteCells s.data.toList).length = s.size := by rw [byteC_eq, bytC_len, data_len]
      simp only [List.size_toArray, List.length_append, List.length_take, List.length_drop, Array.length_toList, this]
      omega
    · have hbl : (bytC s.data.toList).length = s.size := by rw [bytC_len, data_len]
      rw [List.toList_toArray, byteC_eq, hn1, bytC_app, bytC_app, ← bytC_take, ← bytC_drop, ← ht]
      rw [List.take_append, List.take_append, List.take_take, List.take_take, List.drop_take]
      have hcl : cur.toList.length = c := by rw [Array.length_toList]; exact hcs
      have hlt : (cur.toList.take off).length = off := by rw [List.length_take, hcl]; omega
      rw [Nat.min_eq_right (by omega : off ≤ n), Nat.min_eq_left (by omega : off ≤ n), List.length_append, hlt, hbl, List.take_of_length_le (l := bytC s.data.toList) (by rw [hbl]; omega)]
theorem step_copy_run {P : Program} {ops : Array Oper} {o : Oper} {a : Act} {w : World} {K : Act → World → Prop} {Q : Exit → Act → World → Prop} {E : Prop}
    (hg : o.guard = none) (d x : Operand) (dT sT : TypeId) (hop : o.op = Op.call { callee := Callee.builtin Builtin.copy, args := #[d, x], argTypes := #[dT, sT] })
    (v u : Value) (hd : a.eval d = v) (hx : a.eval x = u) {v' : Value} {w' : World} (hr : (Builtin.copy_ #[dT, sT] o.type #[v, u]).run P w = .ok v' w') (hK : K (a.put o.dst v') w') :
    if Region.wanted o (yielded ops a.tmps) = true then Oper.wp P o a w K Q else E := by
  have hw : Region.wanted o (yielded ops a.tmps) = true := by simp [Region.wanted, hg]
  rw [if_pos hw]
  exact Lib.wp_copy_run w d x dT sT hop v u hd hx hr hK
set_option maxHeartbeats 4000000 in
theorem onto_any {w : World} {v : Value} {l : List UInt8} {off : Nat} {s : ByteArray} (h : w.ownsRow 0 5 1 v l.length (bytC l)) (hs : off + s.size ≤ lim) (hl : l.length ≤ lim) :
    Calls Try.prog 44 #[.agg #[.int .i64 (off : Int), .string s], v] w (OntoOut w v l off s) := by
  unfold OntoOut
  obtain ⟨A, c, rfl⟩ := own_form h
  have hnc : l.length ≤ c := (Row.own h).2.1
  have hpl := put_len l off s.data.toList
  rw [data_len] at hpl
  have hpp := fun m => put_prog l off s.data.toList m
  rw [data_len] at hpp
  obtain ⟨R, hR⟩ : ∃ R, put l off s.data.toList = R := ⟨_, rfl⟩
  rw [hR] at hpl hpp ⊢
  obtain ⟨w1, hw1⟩ : ∃ w1, w.alloc (.cells #[.int .i64 (off : Int), .string s] 86) = w1 := ⟨_, rfl⟩
  have hb1 : Below w.heap.size w w1 := by rw [← hw1]; exact (Below.refl _ w).alloc (Nat.le_refl _) _
  have hz1 : w1.heap.size = w.heap.size + 1 := by rw [← hw1]; simp
  have K1 : Full w1 w.heap.size 86 [.int .i64 (off : Int), .string s] := by rw [← hw1]; exact Full.new w 86 _
  have O1 : w1.ownsRow 0 5 1 (.slice A l.length c) l.length (bytC l) := own_keep h hb1
  have k0 : w1.cell? ⟨w.heap.size, 0, none⟩ = some (.int .i64 (off : Int)) := K1.cell 0
  have k1 : w1.cell? ⟨w.heap.size, 1, none⟩ = some (.string s) := K1.cell 1
  have HB1 := Lib.hid hb1
  have HW := Lib.hid hw1
  obtain ⟨n, hn⟩ : ∃ n, l.length = n := ⟨_, rfl⟩
  rw [hn] at O1 hl hpl hpp hnc h ⊢
  have HPL := Lib.hid hpl
  unfold lim at hs hl
  have HN := Lib.hid hn
  have n0 : (0 : Int) ≤ (n : Int) := Int.natCast_nonneg _
  have o0 : (0 : Int) ≤ (off : Int) := Int.natCast_nonneg _
  have z0 : (0 : Int) ≤ (s.size : Int) := Int.natCast_nonneg _
  have o1 : (off : Int) ≤ 16777216 := by omega
  have z1 : (s.size : Int) ≤ 16777216 := by omega
  have n1 : (n : Int) ≤ 16777216 := by omega
  by_cases hm : off + s.size ≤ n
  · obtain ⟨A', c', hsl, hcp⟩ := copy_run A n c off hnc s hm
    have hpp0 := hpp 0 (by omega)
    simp only [List.replicate_zero, List.append_nil] at hpp0
    have hRn : R.length = n := by omega
    have CP := Lib.hid (fun (W : World) (hW : W.heap = w1.heap) (ty : TypeId) => hcp W l ty (by
      have : W.ownsRow 0 5 1 (.slice A n c) n (bytC l) := owns_keep O1 fun g _ => by rw [hW]
      exact this))
    have HP0 := Lib.hid hpp0
    have HRN := Lib.hid hRn
    rw [hpp0] at CP
    have gt : ¬ (0 : Int) < (off : Int) + (s.size : Int) - (n : Int) := by omega
    have oi : (off : Int) ≤ (n : Int) := by omega
    clear h hpl hpp hpp0 hR hb1 O1 hn K1 hcp hRn
    rw [HRN.out]
    go_enter Try.func44, Try.ntmps44
    go_upto_region 1 with fail
    clear hw1
    go_upto_region 4 with fail
    go_region_law
      (first
        | (obtain ⟨w2, v2, hr2, own2, turn2⟩ := CP.out w1.drew rfl 3; refine step_copy_run rfl (.tmp 23) (.tmp 25) 66 9 rfl _ _ rfl rfl hr2 ?_)
        | (fail "arm"))
    all_goals
      go_wp2
      go_ret
      exact ⟨_, rfl, own2, (Turn.of HB1.out).trans_ (Turn.from_drew (k := 1) turn2), .inl rfl⟩
  · obtain ⟨m, hmm⟩ : ∃ m, off + s.size - n = m := ⟨_, rfl⟩
    obtain ⟨v1, w2, hzr, hown2, hgr2, hat2⟩ := zeros_run w1 0 (.slice A n c) l m n 66 O1 (by omega) (by unfold lim; omega) (by omega)
    obtain ⟨A1, c1, rfl⟩ := own_form hown2
    obtain ⟨N, hNN⟩ : ∃ N, n + m = N := ⟨_, rfl⟩
    have K2 : Full w2 w.heap.size 86 [.int .i64 (off : Int), .string s] := K1.grown hgr2 (fun e => K1.not_row O1 (by decide) e)
    rw [hNN] at hown2 hat2 hzr
    obtain ⟨A', c', hsl, hcp⟩ := copy_run A1 N c1 off (Row.own hown2).2.1 s (by omega)
    have hpp0 := hpp m hmm.symm
    have hRn : R.length = N := by omega
    have CP := Lib.hid (fun (W : World) (hW : W.heap = w2.heap) (ty : TypeId) => hcp W (l ++ List.replicate m 0) ty (by
      have : W.ownsRow 0 5 1 (.slice A1 N c1) N (bytC (l ++ List.replicate m 0)) := owns_keep hown2 fun g _ => by rw [hW]
      exact this))
    rw [hpp0] at CP
    have HRN := Lib.hid hRn
    have FIN := Lib.hid (fun (w3 : World) (ht : Turn (fun g => (Value.slice A1 N c1).ownBlock = some g) w2 w3) => (show Turn (fun g => (Value.slice A n c).ownBlock = some g) w w3 ∧ ((Value.slice A1 N c1).ownBlock = (Value.slice A n c).ownBlock ∨ ∃ g, (Value.slice A1 N c1).ownBlock = some g ∧ w.heap.size ≤ g) from by
      have t2 : Turn (fun g => (Value.slice A n c).ownBlock = some g) w w2 := (Turn.of hb1).late (Turn.grown (F := fun g => (Value.slice A n c).ownBlock = some g) hgr2 (fun g e => .inl e)) (fun g e => .inl e)
      refine ⟨t2.late ht (fun g e => ?_), ?_⟩
      · rcases hat2 with h2 | h2
        · exact .inl (h2 ▸ e)
        · rw [h2] at e; injection e with e; right; omega
      · rcases hat2 with h2 | h2
        · exact .inl h2
        · exact .inr ⟨_, h2, by omega⟩))
    have k20 : w2.cell? ⟨w.heap.size, 0, none⟩ = some (.int .i64 (off : Int)) := K2.cell 0
    have k21 : w2.cell? ⟨w.heap.size, 1, none⟩ = some (.string s) := K2.cell 1
    have gt : (0 : Int) < (off : Int) + (s.size : Int) - (n : Int) := by omega
    have gt2 : (n : Int) < (off : Int) + (s.size : Int) := by omega
    have hmi : (off : Int) + (s.size : Int) - (n : Int) = (m : Int) := by omega
    have hzr' : (Builtin.append_ #[66, 3] 66 #[.slice A n c, .int .i64 ((off : Int) + (s.size : Int) - (n : Int))]).run Try.prog w1 = .ok (.slice A1 N c1) w2 := by rw [hmi]; exact hzr
    have HZR := Lib.hid hzr'
    have oi : (off : Int) ≤ (N : Int) := by omega
    rw [HRN.out]
    clear h hpl hpp hpp0 hR hb1 O1 hn K1 K2 hcp hRn hown2 hgr2 hat2 hzr hzr' hmm hNN hmi
    go_enter Try.func44, Try.ntmps44
    go_upto_region 1 with fail
    clear hw1
    go_upto_region 4 with (at_builtin; refine Lib.wpList_append_run _ rfl _ _ _ _ rfl _ _ rfl rfl _ _ HZR.out ?_)
    go_region_law
      (first
        | (obtain ⟨w3, v3, hr3, own3, turn3⟩ := CP.out w2.drew rfl 3; refine step_copy_run rfl (.tmp 23) (.tmp 25) 66 9 rfl _ _ rfl rfl hr3 ?_)
        | (fail "arm"))
    all_goals
      go_wp2
      go_ret
      exact ⟨_, rfl, own3, FIN.out _ (Turn.from_drew (k := 1) turn3)⟩
end Go.Proofs.Ythhpnlobhffimaa
