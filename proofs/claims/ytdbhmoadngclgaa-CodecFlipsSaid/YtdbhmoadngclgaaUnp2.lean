/- readList and Unpack, the code's. -/
import Derived.Maps.AppendAt
import Derived.Test.YtdbhmoadngclgaaUnp
namespace Go.Proofs.Ytdbhmoadngclgaa
open Go.RowKit

def strV (l : List UInt8) : Value := .string (str l)
/-- what the unpacker has behind the number of texts: the error, the rest, the texts -/
def rl (l : List UInt8) : Nat × List UInt8 × List (List UInt8) :=
  if (rd l).2.2 ≠ 0 then ((rd l).2.2, l.drop (rd l).2.1, []) else rlist (rd l).1 (l.drop (rd l).2.1) []
theorem unpack_rl (l : List UInt8) : unpack l = if (rl l).1 ≠ 0 then ((rl l).1, []) else if (rl l).2.1 ≠ [] then (22, []) else (0, (rl l).2.2) := by
  unfold unpack rl
  by_cases h : (rd l).2.2 ≠ 0
  · simp only [if_pos h]
  · simp only [if_neg h]

theorem info9 : (Try.prog.info? 9).map (fun i => (i.zero, i.size, i.bytes)) = some (some (.string ⟨#[]⟩), 1, 16) := by kernel_rfl

def ListPost (w : World) (g n₀ : Nat) (R : Nat × List UInt8 × List (List UInt8)) (en : Ending) (w' : World) : Prop :=
  en = .returned (.int .i64 (R.1 : Int)) ∧ ∃ s' A n c, s'.data.toList = R.2.1 ∧ Two w' g (.string s') (.slice A n c) ∧ w'.ownsRow n₀ 9 1 (.slice A n c) n (R.2.2.map strV) ∧ Below n₀ w w'

theorem row_ge {w : World} {base : Nat} {e : TypeId} {size n : Nat} {v : Value} {xs : List Value} (h : w.ownsRow base e size v n xs) : ∀ j, v.ownBlock = some j → base ≤ j := fun j ej => by
  rcases h.2 with ⟨h0, _⟩ | ⟨g, cap, cur, h0, hbg, _⟩
  · rw [h0] at ej; simp [Value.ownBlock] at ej
  · rw [h0] at ej
    obtain rfl : g = j := by simpa [Value.ownBlock] using ej
    exact hbg

theorem rtext_bd (l : List UInt8) : (rtext l).1 ≤ 22 ∧ (rtext l).2.2.length ≤ l.length ∧ ((rtext l).1 = 0 → (rtext l).2.2.length < l.length) := by
  refine ⟨?_, ?_, fun h => (rtext_ok h).2.2.2⟩
  · have := rd_err l
    unfold rtext
    split
    · exact this
    · split <;> simp
  · unfold rtext
    split
    · simp
    · split
      · simp
      · simp only [List.length_drop]; omega
theorem rlist_stop {m : Nat} {l rest : List UInt8} {txt : List UInt8} {er : Nat} {xs : List (List UInt8)} (hm : 0 < m) (h : rtext l = (er, txt, rest)) (he : er ≠ 0) : rlist m l xs = (er, rest, xs) := by
  obtain ⟨k, rfl⟩ : ∃ k, m = k + 1 := ⟨m - 1, by omega⟩
  rw [rlist, h, if_pos he]
theorem rlist_on {m : Nat} {l rest : List UInt8} {txt : List UInt8} {xs : List (List UInt8)} (hm : 0 < m) (h : rtext l = (0, txt, rest)) : rlist m l xs = rlist (m - 1) rest (xs ++ [txt]) := by
  obtain ⟨k, rfl⟩ : ∃ k, m = k + 1 := ⟨m - 1, by omega⟩
  rw [rlist, h, if_neg (by simp)]
  rfl

set_option maxRecDepth 100000 in
set_option maxHeartbeats 1000000 in
theorem readList_any (g n₀ : Nat) (s : ByteArray) (w : World) (hT : Two w g (.string s) (.slice none 0 0)) (hg : n₀ ≤ g) (hs : s.size ≤ 4398046511104) :
    Calls Try.prog 35 #[.pointer (some ⟨g, 0, none⟩)] w (ListPost w g n₀ (rl s.data.toList)) := by
  obtain ⟨R, HR⟩ : ∃ R, Hid (rl s.data.toList = R) := ⟨_, Lib.hid rfl⟩
  rw [HR.out]
  obtain ⟨v, n, e, H⟩ : ∃ v n e, Hid (rd s.data.toList = (v, n, e)) := ⟨_, _, _, Lib.hid rfl⟩
  have hv : v < 18446744073709551616 := by have := rd_lt s.data.toList; rw [H.out] at this; exact this
  have he22 : e ≤ 22 := by have := rd_err s.data.toList; rw [H.out] at this; exact this
  have hn : n ≤ s.size := by
    have := rd_size s.data.toList
    rw [H.out] at this
    simpa using this
  obtain ⟨t, HT⟩ : ∃ t, Hid (s.extract n s.size = t) := ⟨_, Lib.hid rfl⟩
  have htl : t.data.toList = s.data.toList.drop n := by rw [← HT.out, ext_data]
  have htz : t.size = s.size - n := by
    have := congrArg List.length htl
    simpa using this
  have htle : t.size ≤ s.size := by omega
  have HTL := Lib.hid htl
  clear htl htz
  obtain ⟨i9, hi, hz0, hz1, hz2⟩ := info_parts info9
  have hn₀ : n₀ ≤ w.heap.size := by have := hT.lt; omega
  have hg0 := grown_set w g 0 (.string t)
  have hB0 : Below n₀ w (w.setCell ⟨g, 0, none⟩ (.string t)) := (Below.refl _ w).setCell (p := ⟨g, 0, none⟩) hg _
  have hT1 := hT.set0 (.string t)
  go_enter Try.func35, Try.ntmps35
  go_wp2_with (go_at_call 38; refine (readNumber_any g s _ _ hT (by unfold maxLen; omega) v n e H).mono ?_; rw [HT.out]; rintro e w' ⟨rfl, rfl⟩)
  go_loopw [3, 4, 5] (fun lf ee _ wr => ∃ (m er : Nat) (r : ByteArray) (A : Option Addr) (k c : Nat) (xs : List (List UInt8)), lf = .int .u64 m ∧ ee = .int .i64 er ∧ er ≤ 22 ∧ m < 18446744073709551616 ∧
      Two wr g (.string r) (.slice A k c) ∧ wr.ownsRow n₀ 9 1 (.slice A k c) k (xs.map strV) ∧ k + r.size ≤ s.size ∧
      Hid (er = 0 → rlist m r.data.toList xs = R) ∧ Hid (er ≠ 0 → (er, r.data.toList, xs) = R) ∧ Below n₀ w wr)
    (fun lf ee _ _ => if intOf ee = 0 then (intOf lf).toNat + 1 else 0)
  case atStart =>
    refine ⟨v, e, t, none, 0, 0, [], rfl, rfl, he22, hv, hT1, World.ownsRow_nil _ _ _ _, by omega, Lib.hid fun h0 => ?_, Lib.hid fun h0 => ?_, hB0⟩
    · rw [← HR.out]; unfold rl; rw [H.out, if_neg (by simpa using h0), HTL.out]
    · rw [← HR.out]; unfold rl; rw [H.out, if_pos h0, HTL.out]
  case round =>
    obtain ⟨m, er, r, A, k, c, xs, rfl, rfl, her, hm, hTr, hown, hkr, HZ, HE, hB⟩ := hrel
    by_cases h0 : er = 0
    · subst h0
      have HZ2 := Lib.hid (HZ.out rfl)
      clear HZ HE
      by_cases hmp : 0 < m
      · obtain ⟨er2, txt, rest, HX⟩ : ∃ er2 txt rest, Hid (rtext r.data.toList = (er2, txt, rest)) := ⟨_, _, _, Lib.hid rfl⟩
        obtain ⟨hbd1, hbd2, hbd3⟩ := rtext_bd r.data.toList
        rw [HX.out] at hbd1 hbd2 hbd3
        have hrl : r.data.toList.length = r.size := by simp
        rw [hrl] at hbd2 hbd3
        dsimp only at hbd1 hbd2 hbd3
        by_cases he2 : er2 = 0
        · subst he2
          have hbd4 := hbd3 rfl
          clear hrl hbd3
          go_wp2_with (first
            | (go_at_call 39; refine (readText_any g r _ _ hTr (by unfold maxLen; omega) 0 txt rest HX).mono ?_; rintro e w2 ⟨rfl, s2, hs2, hT2, hg2⟩; have HS2 := Lib.hid hs2; clear hs2; have hc2 := hT2.cell1; have hf2 := hT2.frozen1; have hown2 := hown.kept hg2 (.inr (hTr.not_row (by decide) hown).symm); have hB2 := hB.grown hg2 (Nat.le_trans hn₀ hB.size) (fun j ej => by cases ej; exact hg))
            | (at_builtin; refine wpList_append_own _ rfl _ _ 43 rfl n₀ 9 i9 (.string ⟨#[]⟩) 1 16 Try.underlying43 hi hz0 hz1 hz2 rfl (by decide) (.slice A k c) _ _ rfl (hown2.alloc _) ⟨w2.heap.size, 0, none⟩ 1 1 [.string (str txt)] rfl rfl (cell_one_new _ _ _) (by simp [Value.oneCell']) (by unfold maxLen; omega) (by omega) (by have := hB2.size; simp; omega) ?_; intro v' w3 hown3 hgrow3 _; obtain ⟨g', cap', rfl⟩ := ownsRow_succ hown3; have hT3 := (hT2.alloc _).kept hgrow3 (hT2.not_row (by decide) hown2); have hc3 := hT3.cell1; have hf3 := hT3.frozen1))
          go_roundw
          case rel =>
            have hs2z : s2.size = rest.length := by
              have := congrArg List.length HS2.out
              simpa using this
            refine ⟨m - 1, 0, s2, _, k + 1, cap', xs ++ [txt], by go_num, rfl, by omega, by omega, hT3.set1 _, ?_, by omega, Lib.hid fun _ => ?_, Lib.hid fun h => absurd rfl h, ?_⟩
            · have := hown3.kept (grown_set w3 g 1 (.slice (some ⟨g', 0, none⟩) (k + 1) cap')) (.inr (hT3.not_row (by decide) hown3).symm)
              simpa [strV] using this
            · rw [HS2.out, ← HZ2.out, rlist_on hmp HX.out]
            · exact ((hB2.alloc (Nat.le_trans hn₀ hB2.size) _).grown hgrow3 (by have := hB2.size; simp; omega) (row_ge hown2)).setCell (p := ⟨g, 1, none⟩) hg _
          case measure => simp [intOf]; omega
        · clear hbd3
          go_wp2_with (go_at_call 39; refine (readText_any g r _ _ hTr (by unfold maxLen; omega) er2 txt rest HX).mono ?_; rintro e w2 ⟨rfl, s2, hs2, hT2, hg2⟩; have HS2 := Lib.hid hs2; clear hs2)
          go_roundw
          case rel =>
            have hs2z : s2.size = rest.length := by
              have := congrArg List.length HS2.out
              simpa using this
            refine ⟨m, er2, s2, A, k, c, xs, rfl, rfl, hbd1, hm, hT2, hown.kept hg2 (.inr (hTr.not_row (by decide) hown).symm), by omega, Lib.hid fun h => absurd h he2, Lib.hid fun _ => ?_, hB.grown hg2 (Nat.le_trans hn₀ hB.size) (fun j ej => by cases ej; exact hg)⟩
            rw [HS2.out, ← HZ2.out, rlist_stop hmp HX.out he2]
          case measure => simp [intOf, he2]
      · obtain rfl : m = 0 := by omega
        have hR : R = (0, r.data.toList, xs) := by rw [← HZ2.out, rlist]
        have HR2 := Lib.hid hR
        clear hR
        go_wp2
        go_ret
        rw [HR2.out]
        exact ⟨rfl, r, A, k, c, rfl, hTr, hown, hB⟩
    · have hR : R = (er, r.data.toList, xs) := (HE.out h0).symm
      have HR2 := Lib.hid hR
      clear hR
      go_wp2
      go_ret
      rw [HR2.out]
      exact ⟨rfl, r, A, k, c, rfl, hTr, hown, hB⟩

end Go.Proofs.Ytdbhmoadngclgaa
