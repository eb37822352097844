/- parts: the iterator over the parts of a piece. -/
import Derived.Test.YthhpnlobhffimaaRuns
namespace Go.Proofs.Ythhpnlobhffimaa
set_option maxRecDepth 100000
open Go.RowKit Go.Shelf
attribute [local go_sem] Oper.semAt_some

theorem parts_new (o : Int) (s : ByteArray) (w : World) :
    Calls Try.prog 42 #[.agg #[.int .i64 o, .string s]] w fun e w' => e = .returned (.func (.func 61) #[] #[.pointer (some ⟨w.heap.size, 0, none⟩)]) ∧ w' = w.alloc (.cells #[.int .i64 o, .string s] 86) := by
  go_enter Try.func42, Try.ntmps42
  go_wp2
  go_ret
  exact ⟨rfl, rfl⟩
/-- what yield is given for a part -/
def PV (x : Pc) : Array Value := #[.agg (pcV x).toArray]
theorem str_take (l : List UInt8) (k : Nat) : (str l).extract 0 k = str (l.take k) := by
  rw [ext_cut]; unfold cutL; rw [str_data]; simp
theorem str_drop (l : List UInt8) (k : Nat) : (str l).extract k (str l).size = str (l.drop k) := by
  rw [ext_cut, cut_end, str_data]
theorem grown_drewN (W : World) (q : Nat) : W.grownBy (W.drewN q) none := ⟨rfl, rfl, rfl, Nat.le_refl _, fun _ _ _ => rfl⟩
/-- what the iterator has left -/
def leftM (v : Value) (W : World) : Nat := match v with
  | .pointer (some a) => (match W.cell? ⟨a.block, 1, none⟩ with | some (.string s) => s.size | _ => 0)
  | _ => 0
theorem leftM_eq {W : World} {r : Nat} {a : Value} {s : ByteArray} (h : Full W r 86 [a, .string s]) : leftM (.pointer (some ⟨r, 0, none⟩)) W = s.size := by
  have : W.cell? ⟨r, 1, none⟩ = some (.string s) := h.cell 1
  unfold leftM
  simp only [this]
set_option maxHeartbeats 4000000 in
theorem parts_own (n : Nat) (hn : 1 ≤ n) (p o : Nat) (s : List UInt8) (w : World) (h0 : w.cell? ⟨p, 0, none⟩ = some (.int .i64 (o : Int))) (h1 : w.cell? ⟨p, 1, none⟩ = some (.string (str s))) (hp : p < w.heap.size) (hlim : o + s.length ≤ lim) :
    SeqOwn Fence.wide n Try.prog 61 #[.pointer (some ⟨p, 0, none⟩)] (partsOf (o, s)) PV w := by
  intro ly J W hW hJ hJs hJa hJ0 hY
  have c0 := (hW.cell (p := ⟨p, 0, none⟩) hp).trans h0
  have c1 := (hW.cell (p := ⟨p, 1, none⟩) hp).trans h1
  obtain ⟨T, HT⟩ : ∃ T, Hid (partsOf (o, s) = T) := ⟨_, Lib.hid rfl⟩
  rw [HT.out] at hY ⊢
  have hfn : ∀ k, Fence.wide.fn k := fun _ => trivial
  refine callsIn_of_wp Try.func61 rfl trivial ?_ rfl
  simp only [Try.ntmps61, List.size_toArray, List.length_cons, List.length_nil, Nat.reduceAdd, Nat.reduceSub, Array.replicate_succ, Array.replicate_zero, List.push_toArray, List.append_toArray, List.nil_append, List.cons_append]
  gi_wp2
  have H0 := Lib.hid (show J 0 W.heap.size (W.alloc (.cells #[.int .i64 (o : Int), .string (str s)] 86)) from hJ0 _)
  have F0 := Lib.hid (Full.new W 86 [.int .i64 (o : Int), .string (str s)])
  clear c0 c1 h0 h1
  gi_loopw [3] (fun v3 wr => ∃ (k r ok : Nat) (sk : List UInt8), v3 = .pointer (some ⟨r, 0, none⟩) ∧ Hid (Full wr r 86 [.int .i64 (ok : Int), .string (str sk)]) ∧ Hid (J k r wr) ∧ Hid (partsOf (ok, sk) = T.drop k) ∧ ok + sk.length ≤ lim ∧ k ≤ T.length) (fun v3 wr => leftM v3 wr)
  case atStart => exact ⟨0, W.heap.size, o, s, rfl, F0, H0, Lib.hid (by rw [List.drop_zero]; exact HT.out), hlim, by omega⟩
  case round =>
    obtain ⟨k, r, ok, sk, rfl, HF, HJ, HD, hlk, hkT⟩ := hrel
    have q0 : wr.cell? ⟨r, 0, none⟩ = some (.int .i64 (ok : Int)) := HF.out.cell 0
    by_cases hz : sk.length = 0
    · obtain rfl : sk = [] := List.eq_nil_of_length_eq_zero hz
      have q1 : wr.cell? ⟨r, 1, none⟩ = some (.string ⟨#[]⟩) := HF.out.cell 1
      have hend : T.drop k = [] := by rw [← HD.out]; rfl
      have hkl : k = T.length := by have := congrArg List.length hend; simp at this; omega
      have HKL := Lib.hid hkl
      clear hend hkl hz
      gi_wp2
      go_end0
      exact ⟨⟨_, rfl⟩, r, by rw [← HKL.out]; exact HJ.out⟩
    · have q1 : wr.cell? ⟨r, 1, none⟩ = some (.string (str sk)) := HF.out.cell 1
      have hds := str_drop sk
      have hts := str_take sk
      have hsz := str_size sk
      have hne : ¬ (str sk).toList = [] := by
        rw [ByteArray.toList_eq, str_data]
        intro e; rw [e] at hz; simp at hz
      obtain ⟨S, hS⟩ : ∃ S, str sk = S := ⟨_, rfl⟩
      have hlm := leftM_eq HF.out
      rw [hS] at q1 hsz hds hts hlm hne
      obtain ⟨z, hzz⟩ : ∃ z, 64 - ok % 64 = z := ⟨_, rfl⟩
      obtain ⟨N, hN⟩ : ∃ N, min z S.size = N := ⟨_, rfl⟩
      have e1 : (64 : Int) - (ok : Int) % 64 = (z : Int) := by omega
      have z0 : 0 < z := by omega
      have e2 : min (z : Int) (S.size : Int) = (N : Int) := by omega
      have ok0 : (0 : Int) ≤ (ok : Int) := Int.natCast_nonneg _
      have ok1 : (ok : Int) ≤ 16777216 := by unfold lim at hlk; omega
      have s1 : S.size ≤ 16777216 := by unfold lim at hlk; omega
      have hne2 : S.toList.isEmpty = false := by cases h : S.toList with | nil => exact absurd h hne | cons => rfl
      have n0 : 0 < N := by omega
      have nz : N ≤ S.size := by omega
      have htk : sk.take N = sk.take z := by
        rcases Nat.le_total z S.size with h | h
        · rw [← hN, Nat.min_eq_left h]
        · rw [← hN, Nat.min_eq_right h, hsz, List.take_of_length_le (Nat.le_refl _), List.take_of_length_le (by omega)]
      have hdk : sk.drop N = sk.drop z := by
        rcases Nat.le_total z S.size with h | h
        · rw [← hN, Nat.min_eq_left h]
        · rw [← hN, Nat.min_eq_right h, hsz, List.drop_eq_nil_of_le (Nat.le_refl _), List.drop_eq_nil_of_le (by omega)]
      have hcons := partsOf_cons ok sk (by omega)
      rw [hzz, HD.out, show min z sk.length = N from hsz ▸ hN, ← hdk, ← htk] at hcons
      have hklt : k < T.length := by
        rcases Nat.lt_or_ge k T.length with h | h
        · exact h
        · rw [List.drop_eq_nil_of_le h] at hcons; cases hcons
      rw [List.drop_eq_getElem_cons hklt] at hcons
      injection hcons with hg1 hg2
      have hTk : T[k]? = some (ok, sk.take N) := by rw [← hg1]; exact List.getElem?_eq_getElem hklt
      have hJd : J k r wr.drew := hJ r k wr (wr.drewN 1) none HJ.out (grown_drewN wr 1) (fun r e => by cases e)
      obtain ⟨fn, tmps, assign, body, hy, hR⟩ := hY k r (ok, sk.take N) wr.drew hTk hJd HF.out.lt
      have hx1 := hts N
      have hx2 := hds N
      obtain ⟨X, hX⟩ : ∃ X, str (sk.take N) = X := ⟨_, rfl⟩
      obtain ⟨Y, hY'⟩ : ∃ Y, str (sk.drop N) = Y := ⟨_, rfl⟩
      have hpv : PV (ok, sk.take N) = #[.agg #[.int .i64 (ok : Int), .string X]] := by rw [← hX]; rfl
      rw [hpv] at hy
      rw [hX] at hx1
      rw [hY'] at hx2
      have HSZ := Lib.hid hsz
      have HLM := Lib.hid hlm
      have HYY := Lib.hid hY'
      have HG2 := Lib.hid hg2
      have HF3 := Lib.hid (show Full wr r 86 [.int .i64 (ok : Int), .string S] from hS ▸ HF.out)
      clear hz hts hds hS hsz hlm htk hdk hg1 hg2 hX hY' hN hzz hTk hJd
      have hmo : Try.prog.follows .mixedOrders = true := by kernel_rfl
      gi_wp2
      gi_region_with_o ((go_simp; (with_reducible refine hR.mono ?_); rintro e W3 ⟨rfl, hJk3, hk3⟩; dsimp only))
      all_goals
        have F3 : Full W3 r 86 [.int .i64 (ok : Int), .string S] := hk3.1.trans (show wr.drew.heap[r]? = _ from HF3.out)
        have G3 := F3.set_ 0 (.int .i64 ((ok : Int) + (N : Int)))
        have G4 : Full ((W3.setCell ⟨r, 0, none⟩ (.int .i64 ((ok : Int) + (N : Int)))).setCell ⟨r, 1, none⟩ (.string Y)) r 86 [.int .i64 ((ok : Int) + (N : Int)), .string Y] := G3.set_ 1 (.string Y)
        have m0 : W3.cell? ⟨r, 0, none⟩ = some (.int .i64 (ok : Int)) := F3.cell 0
        have m1 : W3.cell? ⟨r, 1, none⟩ = some (.string S) := F3.cell 1
        have m2 : W3.frozen? ⟨r, 0, none⟩ = false := F3.frozen 0
        have m3 : (W3.setCell ⟨r, 0, none⟩ (.int .i64 ((ok : Int) + (N : Int)))).cell? ⟨r, 1, none⟩ = some (.string S) := G3.cell 1
        have m4 : (W3.setCell ⟨r, 0, none⟩ (.int .i64 ((ok : Int) + (N : Int)))).frozen? ⟨r, 1, none⟩ = false := G3.frozen 1
        have m5 : ((W3.setCell ⟨r, 0, none⟩ (.int .i64 ((ok : Int) + (N : Int)))).setCell ⟨r, 1, none⟩ (.string Y)).cell? ⟨r, 0, none⟩ = some (.int .i64 ((ok : Int) + (N : Int))) := G4.cell 0
        have m6 : ((W3.setCell ⟨r, 0, none⟩ (.int .i64 ((ok : Int) + (N : Int)))).setCell ⟨r, 1, none⟩ (.string Y)).cell? ⟨r, 1, none⟩ = some (.string Y) := G4.cell 1
        have m7 : W3.frozen? ⟨r, 1, none⟩ = false := F3.frozen 1
        have ew : IntKind.i64.wrap ((ok : Int) + (N : Int)) = (ok : Int) + (N : Int) := by simp [IntKind.wrap, IntKind.bits, IntKind.signed]; omega
        have HJ3 := Lib.hid hJk3
        clear F3 G3 G4 hk3 hJk3
        gi_wp2
        simp only [List.getElem_toArray, List.getElem_cons_succ, List.getElem_cons_zero, Act.put, List.setIfInBounds_toArray, List.set_cons_succ, List.set_cons_zero]
        refine wpIn_wide.2 ?_
        go_region_law (fail)
        all_goals go_wp2
        all_goals
          obtain ⟨W4, hW4⟩ : ∃ W4, (W3.setCell ⟨r, 0, none⟩ (.int .i64 ((ok : Int) + (N : Int)))).setCell ⟨r, 1, none⟩ (.string Y) = W4 := ⟨_, rfl⟩
          rw [hW4] at m5 m6 ⊢
          have HJ4 := Lib.hid (show J (k + 1) r W4.drew from by
            rw [← hW4]
            exact hJ r (k + 1) _ (World.drewN _ 1) none (hJs _ _ _ _ _ (hJs _ _ _ _ _ HJ3.out)) (grown_drewN _ 1) (fun r e => by cases e))
          have HJ5 := Lib.hid (show J (k + 1) W4.heap.size (W4.alloc (.cells #[.int .i64 ((ok : Int) + (N : Int)), .string Y] 86)).drew from hJa (k + 1) r W4.drew _ HJ4.out)
          have F5 := Lib.hid ((Full.new W4 86 [.int .i64 ((ok : Int) + (N : Int)), .string Y]).drew)
          have hlm5 := leftM_eq F5.out
          have HL5 := Lib.hid hlm5
          clear hW4 m0 m1 m2 m3 m4 m7 hlm5
          gi_wp2
          go_roundw
          case rel => exact ⟨k + 1, W4.heap.size, ok + N, sk.drop N, by simp, by rw [HYY.out]; exact F5, HJ5, Lib.hid HG2.out.symm, by rw [List.length_drop, ← HSZ.out]; rw [← HSZ.out] at hlk; omega, by omega⟩
          case measure =>
            have hY5 : Y.size = S.size - N := by rw [← HYY.out, str_size, List.length_drop, HSZ.out]
            first
              | (rw [HL5.out, HLM.out]; omega)
              | (have h5 := HL5.out; have h6 := HLM.out; simp only [h5, h6]; omega)
end Go.Proofs.Ythhpnlobhffimaa
