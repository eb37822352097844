/- Split, the code's and the reference's. -/
import Derived.RangeFuncBox
import Derived.Test.YtmeoannheomdoaaEqual
import Derived.Test.YtmeoannheomdoaaFull
namespace Go.Proofs.Ytmeoannheomdoaa
open Go.RowKit

/-- a list of bytes as a string -/
def str (l : List UInt8) : ByteArray := ⟨l.toArray⟩
theorem str_data (l : List UInt8) : (str l).data.toList = l := rfl
theorem str_size (l : List UInt8) : (str l).size = l.length := rfl
theorem str_eq {s : ByteArray} {l : List UInt8} (h : s.data.toList = l) : s = str l := by
  apply Go.WideShapes.bytes_inj
  rw [h]; rfl
/-- the lines of a text, behind the bytes of the line that is not yet complete -/
def splitAcc (cur : List UInt8) : List UInt8 → List (List UInt8)
  | [] => if cur = [] then [] else [cur]
  | c :: t => if c = 10 then (cur ++ [c]) :: splitAcc [] t else splitAcc (cur ++ [c]) t
/-- the lines of a text -/
def splitL (l : List UInt8) : List (List UInt8) := splitAcc [] l
def splitS (s : ByteArray) : List ByteArray := (splitL s.data.toList).map str
def cutL (l : List UInt8) (st k : Nat) : List UInt8 := (l.drop st).take (k - st)
theorem cutL_snoc {l : List UInt8} {st k : Nat} (h1 : st ≤ k) (h2 : k < l.length) : cutL l st (k + 1) = cutL l st k ++ [l[k]] := by
  unfold cutL
  rw [show k + 1 - st = (k - st) + 1 by omega, List.take_succ_eq_append_getElem (by simp; omega)]
  simp [Nat.add_sub_of_le h1]
theorem cutL_self (l : List UInt8) (k : Nat) : cutL l k k = [] := by simp [cutL]
theorem drop_at (s : ByteArray) (k : Nat) (h : k < s.size) : s.data.toList.drop k = s[k] :: s.data.toList.drop (k + 1) := by
  rw [List.drop_eq_getElem_cons (by simpa using h)]; rfl
theorem ext_cut (s : ByteArray) (st k : Nat) : s.extract st k = str (cutL s.data.toList st k) := by
  apply str_eq
  rw [Lib.extract_data]
  rfl
theorem cut_end (s : ByteArray) (st : Nat) : cutL s.data.toList st s.size = s.data.toList.drop st := by
  unfold cutL
  rw [List.take_of_length_le]
  simp

def StrsOut (w : World) (R : List ByteArray) (e : Ending) (w' : World) : Prop :=
  ∃ A c, e = .returned (.slice A R.length c) ∧ w'.ownsRow w.heap.size 9 1 (.slice A R.length c) R.length (strC R) ∧ Below w.heap.size w w'
theorem strC_snoc (L : List ByteArray) (s : ByteArray) : strC (L ++ [s]) = strC L ++ [.string s] := by simp [strC]

set_option maxRecDepth 100000 in
set_option maxHeartbeats 2000000 in
theorem split_any (s : ByteArray) (w : World) (hs : s.size ≤ 4398046511104) : Calls Try.prog 16 #[.string s] w (StrsOut w (splitS s)) := by
  obtain ⟨R, HR⟩ : ∃ R, Hid (splitL s.data.toList = R) := ⟨_, Lib.hid rfl⟩
  unfold splitS
  rw [HR.out]
  obtain ⟨i9, hi, hz0, hz1, hz2⟩ := info_parts info9
  go_enter Try.func16, Try.ntmps16
  go_wp2
  go_loopw [3, 4, 8] (fun v3 v4 v8 wr => ∃ (k st : Nat) (L : List ByteArray) (A : Option Addr) (c : Nat), k ≤ s.size ∧ st ≤ k ∧ L.length ≤ k ∧ v8 = .int .i64 k ∧ v4 = .int .i64 st ∧ v3 = .slice A L.length c ∧ wr.ownsRow w.heap.size 9 1 (.slice A L.length c) L.length (strC L) ∧
      Hid (L ++ (splitAcc (cutL s.data.toList st k) (s.data.toList.drop k)).map str = R.map str) ∧ Below w.heap.size w wr) (fun _ _ v8 _ => s.size - (intOf v8).toNat)
  case atStart => exact ⟨0, 0, [], none, 0, by omega, by omega, by simp, rfl, rfl, rfl, World.ownsRow_nil _ _ _ _, Lib.hid (by rw [cutL_self, List.nil_append, List.drop_zero, ← HR.out]; rfl), Below.refl _ _⟩
  case round =>
    obtain ⟨k, st, L, A, c, hk, hst, hLk, rfl, rfl, rfl, hown, HQ, hB⟩ := hrel
    have hi0 : (0 : Int) ≤ (k : Int) := Int.natCast_nonneg _
    by_cases hlt : k < s.size
    · have hi1 : (k : Int) < (s.size : Int) := by omega
      have hd := drop_at s k hlt
      have hq := HQ.out
      rw [hd, splitAcc] at hq
      have hsn := cutL_snoc (l := s.data.toList) hst (by simpa using hlt)
      have hge : s.data.toList[k]'(by simpa using hlt) = s[k] := rfl
      rw [hge] at hsn
      have hb := s[k].toNat_lt
      by_cases h10 : s[k] = 10
      · have hcb : ((s[k].toNat : Int) == 10) = true := by rw [h10]; rfl
        have hx := ext_cut s st (k + 1)
        rw [if_pos h10, ← hsn, List.map_cons, ← hx] at hq
        have HQ2 := Lib.hid hq
        have H10 := Lib.hid h10
        have hcn : s[k].toNat = 10 := by rw [h10]; rfl
        clear hq hd hsn hge hx h10
        go_wp2_with (at_builtin; refine wpList_append_own _ rfl _ _ 23 rfl w.heap.size 9 i9 (.string ⟨#[]⟩) 1 16 Try.underlying23 hi hz0 hz1 hz2 rfl (by decide) (.slice A L.length c) _ _ rfl (hown.alloc _) ⟨wr.heap.size, 0, none⟩ 1 1 [.string (s.extract st (k + 1))] rfl rfl (cell_one_new _ _ _) (by simp [Value.oneCell']) (by unfold maxLen; omega) (by omega) (by have := hB.size; simp; omega) ?_; intro v' w3 hown3 hgrow3 _; obtain ⟨g', cap', rfl⟩ := ownsRow_succ hown3)
        go_roundw
        case rel =>
          refine ⟨k + 1, k + 1, L ++ [s.extract st (k + 1)], _, cap', by omega, by omega, by simp; omega, by go_num, by go_num, by rw [List.length_append]; rfl, ?_, Lib.hid ?_, (hB.alloc hB.size _).grown hgrow3 (by have := hB.size; simp; omega) (row_ge hown)⟩
          · rw [strC_snoc, List.length_append]; exact hown3
          · rw [cutL_self, List.append_assoc]; exact HQ2.out
        case measure => simp [intOf]; omega
      · have hcn : ¬ s[k].toNat = 10 := fun e => h10 (UInt8.toNat_inj.1 e)
        have hcb : ((s[k].toNat : Int) == 10) = false := by rw [beq_eq_false_iff_ne]; omega
        rw [if_neg h10, ← hsn] at hq
        have HQ2 := Lib.hid hq
        clear hq hd hsn hge h10
        go_wp2
        go_roundw
        case rel =>
          exact ⟨k + 1, st, L, A, c, by omega, by omega, by omega, by go_num, rfl, rfl, hown, HQ2, hB⟩
        case measure => simp [intOf]; omega
    · obtain rfl : k = s.size := by omega
      have hq := HQ.out
      have hnil : s.data.toList.drop s.size = [] := List.drop_eq_nil_of_le (by simp)
      rw [cut_end, hnil, splitAcc] at hq
      clear hnil
      by_cases hlt2 : st < s.size
      · have hne : s.data.toList.drop st ≠ [] := fun e => by have := congrArg List.length e; simp at this; omega
        have hx := ext_cut s st s.size
        rw [cut_end] at hx
        rw [if_neg hne, List.map_cons, List.map_nil, ← hx] at hq
        have HQ2 := Lib.hid hq
        clear hq hne hx
        go_wp2_with (at_builtin; refine wpList_append_own _ rfl _ _ 23 rfl w.heap.size 9 i9 (.string ⟨#[]⟩) 1 16 Try.underlying23 hi hz0 hz1 hz2 rfl (by decide) (.slice A L.length c) _ _ rfl (hown.alloc _) ⟨wr.heap.size, 0, none⟩ 1 1 [.string (s.extract st s.size)] rfl rfl (cell_one_new _ _ _) (by simp [Value.oneCell']) (by unfold maxLen; omega) (by omega) (by have := hB.size; simp; omega) ?_; intro v' w3 hown3 hgrow3 _; obtain ⟨g', cap', rfl⟩ := ownsRow_succ hown3)
        go_ret
        rw [← HQ2.out]
        refine ⟨_, cap', by rw [List.length_append]; rfl, ?_, (hB.alloc hB.size _).grown hgrow3 (by have := hB.size; simp; omega) (row_ge hown)⟩
        rw [strC_snoc, List.length_append]; exact hown3
      · have hne : s.data.toList.drop st = [] := List.drop_eq_nil_of_le (by simp; omega)
        rw [if_pos hne, List.map_nil, List.append_nil] at hq
        have HQ2 := Lib.hid hq
        clear hq hne
        go_wp2
        go_ret
        rw [← HQ2.out]
        exact ⟨A, c, rfl, hown, hB⟩

set_option maxRecDepth 100000 in
set_option maxHeartbeats 2000000 in
theorem refSplit_any (s : ByteArray) (w : World) (hs : s.size ≤ 4398046511104) : Calls Try.prog 18 #[.string s] w (StrsOut w (splitS s)) := by
  obtain ⟨R, HR⟩ : ∃ R, Hid (splitL s.data.toList = R) := ⟨_, Lib.hid rfl⟩
  unfold splitS
  rw [HR.out]
  obtain ⟨i9, hi, hz0, hz1, hz2⟩ := info_parts info9
  go_enter Try.func18, Try.ntmps18
  go_wp2
  go_loopw [3, 4, 5] (fun v3 v4 v8 wr => ∃ (k st : Nat) (L : List ByteArray) (A : Option Addr) (c : Nat), k ≤ s.size ∧ st ≤ k ∧ L.length ≤ k ∧ v8 = .int .i64 k ∧ v4 = .int .i64 st ∧ v3 = .slice A L.length c ∧ wr.ownsRow w.heap.size 9 1 (.slice A L.length c) L.length (strC L) ∧
      Hid (L ++ (splitAcc (cutL s.data.toList st k) (s.data.toList.drop k)).map str = R.map str) ∧ Below w.heap.size w wr) (fun _ _ v8 _ => s.size - (intOf v8).toNat)
  case atStart => exact ⟨0, 0, [], none, 0, by omega, by omega, by simp, rfl, rfl, rfl, World.ownsRow_nil _ _ _ _, Lib.hid (by rw [cutL_self, List.nil_append, List.drop_zero, ← HR.out]; rfl), Below.refl _ _⟩
  case round =>
    obtain ⟨k, st, L, A, c, hk, hst, hLk, rfl, rfl, rfl, hown, HQ, hB⟩ := hrel
    have hi0 : (0 : Int) ≤ (k : Int) := Int.natCast_nonneg _
    by_cases hlt : k < s.size
    · have hi1 : (k : Int) < (s.size : Int) := by omega
      have hd := drop_at s k hlt
      have hq := HQ.out
      rw [hd, splitAcc] at hq
      have hsn := cutL_snoc (l := s.data.toList) hst (by simpa using hlt)
      have hge : s.data.toList[k]'(by simpa using hlt) = s[k] := rfl
      rw [hge] at hsn
      have hb := s[k].toNat_lt
      by_cases h10 : s[k] = 10
      · have hcb : ((s[k].toNat : Int) == 10) = true := by rw [h10]; rfl
        have hx := ext_cut s st (k + 1)
        rw [if_pos h10, ← hsn, List.map_cons, ← hx] at hq
        have HQ2 := Lib.hid hq
        have H10 := Lib.hid h10
        have hcn : s[k].toNat = 10 := by rw [h10]; rfl
        clear hq hd hsn hge hx h10
        go_wp2_with (at_builtin; refine wpList_append_own _ rfl _ _ 23 rfl w.heap.size 9 i9 (.string ⟨#[]⟩) 1 16 Try.underlying23 hi hz0 hz1 hz2 rfl (by decide) (.slice A L.length c) _ _ rfl (hown.alloc _) ⟨wr.heap.size, 0, none⟩ 1 1 [.string (s.extract st (k + 1))] rfl rfl (cell_one_new _ _ _) (by simp [Value.oneCell']) (by unfold maxLen; omega) (by omega) (by have := hB.size; simp; omega) ?_; intro v' w3 hown3 hgrow3 _; obtain ⟨g', cap', rfl⟩ := ownsRow_succ hown3)
        go_roundw
        case rel =>
          refine ⟨k + 1, k + 1, L ++ [s.extract st (k + 1)], _, cap', by omega, by omega, by simp; omega, by go_num, by go_num, by rw [List.length_append]; rfl, ?_, Lib.hid ?_, (hB.alloc hB.size _).grown hgrow3 (by have := hB.size; simp; omega) (row_ge hown)⟩
          · rw [strC_snoc, List.length_append]; exact hown3
          · rw [cutL_self, List.append_assoc]; exact HQ2.out
        case measure => simp [intOf]; omega
      · have hcn : ¬ s[k].toNat = 10 := fun e => h10 (UInt8.toNat_inj.1 e)
        have hcb : ((s[k].toNat : Int) == 10) = false := by rw [beq_eq_false_iff_ne]; omega
        rw [if_neg h10, ← hsn] at hq
        have HQ2 := Lib.hid hq
        clear hq hd hsn hge h10
        go_wp2
        go_roundw
        case rel =>
          exact ⟨k + 1, st, L, A, c, by omega, by omega, by omega, by go_num, rfl, rfl, hown, HQ2, hB⟩
        case measure => simp [intOf]; omega
    · obtain rfl : k = s.size := by omega
      have hq := HQ.out
      have hnil : s.data.toList.drop s.size = [] := List.drop_eq_nil_of_le (by simp)
      rw [cut_end, hnil, splitAcc] at hq
      clear hnil
      by_cases hlt2 : st < s.size
      · have hne : s.data.toList.drop st ≠ [] := fun e => by have := congrArg List.length e; simp at this; omega
        have hx := ext_cut s st s.size
        rw [cut_end] at hx
        rw [if_neg hne, List.map_cons, List.map_nil, ← hx] at hq
        have HQ2 := Lib.hid hq
        clear hq hne hx
        go_wp2_with (at_builtin; refine wpList_append_own _ rfl _ _ 23 rfl w.heap.size 9 i9 (.string ⟨#[]⟩) 1 16 Try.underlying23 hi hz0 hz1 hz2 rfl (by decide) (.slice A L.length c) _ _ rfl (hown.alloc _) ⟨wr.heap.size, 0, none⟩ 1 1 [.string (s.extract st s.size)] rfl rfl (cell_one_new _ _ _) (by simp [Value.oneCell']) (by unfold maxLen; omega) (by omega) (by have := hB.size; simp; omega) ?_; intro v' w3 hown3 hgrow3 _; obtain ⟨g', cap', rfl⟩ := ownsRow_succ hown3)
        go_ret
        rw [← HQ2.out]
        refine ⟨_, cap', by rw [List.length_append]; rfl, ?_, (hB.alloc hB.size _).grown hgrow3 (by have := hB.size; simp; omega) (row_ge hown)⟩
        rw [strC_snoc, List.length_append]; exact hown3
      · have hne : s.data.toList.drop st = [] := List.drop_eq_nil_of_le (by simp; omega)
        rw [if_pos hne, List.map_nil, List.append_nil] at hq
        have HQ2 := Lib.hid hq
        clear hq hne
        go_wp2
        go_ret
        rw [← HQ2.out]
        exact ⟨A, c, rfl, hown, hB⟩

end Go.Proofs.Ytmeoannheomdoaa
