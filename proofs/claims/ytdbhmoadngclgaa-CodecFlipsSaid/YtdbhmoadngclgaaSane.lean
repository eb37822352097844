/- The chapter's examples: sanity returns true. -/
import Derived.Test.YtdbhmoadngclgaaUnp3
namespace Go.Proofs.Ytdbhmoadngclgaa
open Go.RowKit

theorem ex_rd1 : rd [172, 2, 255] = (300, 2, 0) := by decide
theorem ex_rd2 : rd [172] = (0, 0, 20) := by decide
theorem ex_rd3 : rd [128, 0] = (0, 0, 22) := by decide
theorem ex_un1 : unpack [1, 3, 97] = (20, []) := by decide
theorem ex_un2 : unpack [0, 97] = (22, []) := by decide
theorem ex_crc : crc [49, 50, 51, 52, 53, 54, 55, 56, 57] = 3421780262 := by kernel_rfl
theorem ex_num : numL 300 = [172, 2] := by rw [numL_ge (by omega), numL_lt (by omega)]; rfl
theorem ex_pack : pack [⟨#[97, 98]⟩, ⟨#[]⟩] = [2, 2, 97, 98, 0] := by
  show numL 2 ++ ((numL 2 ++ [97, 98]) ++ ((numL 0 ++ []) ++ [])) = _
  rw [numL_lt (n := 2) (by omega), numL_lt (n := 0) (by omega)]; rfl

theorem sum_tuple (s : ByteArray) (w : World) (hs : s.size ≤ maxLen) (v : Nat) (h : Hid (crc s.data.toList = v)) :
    Calls Try.prog 14 #[.string s] w fun en w' => en = .returned (.int .u32 (v : Int)) ∧ w = w' := by
  have := sum_any s w hs
  rwa [h.out] at this

def UnpackErr (w : World) (er : Nat) (en : Ending) (w' : World) : Prop :=
  ∃ A n c, en = .returned (.tuple #[.slice A n c, .int .i64 (er : Int)]) ∧ Below w.heap.size w w'
theorem unpack_err (s : ByteArray) (w : World) (hs : s.size ≤ 4398046511104) (er : Nat) (h : Hid (unpack s.data.toList = (er, []))) :
    Calls Try.prog 28 #[.string s] w (UnpackErr w er) := by
  have := unpack_any s w hs
  rw [h.out] at this
  exact this.mono fun _ _ ⟨A, n, c, h1, _, h3⟩ => ⟨A, n, c, h1, h3⟩

theorem num_300 (w : World) : Calls Try.prog 18 #[.int .u64 300] w fun e w' => e = .returned (.string ⟨#[172, 2]⟩) ∧ Below w.heap.size w w' := by
  have h := number_any 300 (by omega) w
  rw [ex_num] at h
  exact h
theorem sgn_m3 (w : World) : Calls Try.prog 22 #[.int .i64 (-3)] w fun e w' => e = .returned (.int .u64 5) ∧ w = w' := signed_any (-3) w (by omega) (by omega)
theorem uns_5 (w : World) : Calls Try.prog 24 #[.int .u64 5] w fun e w' => e = .returned (.int .i64 (-3)) ∧ w = w' := unsigned_any 5 w (by omega) (by omega)
theorem strs_two (w : World) (a b : ByteArray) : Strs (w.alloc (.cells #[.string a, .string b] 9)) (w.heap.size + 1) (some ⟨w.heap.size, 0, none⟩) [a, b] := fun j s hj => by
  refine ⟨_, rfl, Nat.lt_succ_self _, ?_⟩
  match j, hj with
  | 0, hj => obtain rfl : a = s := by simpa using hj
             exact World.cell?_alloc_mark w #[.string a, .string b] 9 (0, 0) 0
  | 1, hj => obtain rfl : b = s := by simpa using hj
             exact World.cell?_alloc_mark w #[.string a, .string b] 9 (0, 0) 1
  | k + 2, hj => simp at hj
theorem pack_two (w : World) : Calls Try.prog 27 #[.slice (some ⟨w.heap.size, 0, none⟩) 2 2] (w.alloc (.cells #[.string ⟨#[97, 98]⟩, .string ⟨#[]⟩] 9)) fun e w' => e = .returned (.string ⟨#[2, 2, 97, 98, 0]⟩) ∧ Below w.heap.size w w' := by
  have h := pack_any (some ⟨w.heap.size, 0, none⟩) [⟨#[97, 98]⟩, ⟨#[]⟩] 2 (w.alloc (.cells #[.string ⟨#[97, 98]⟩, .string ⟨#[]⟩] 9)) (by simpa using strs_two w ⟨#[97, 98]⟩ ⟨#[]⟩) (Nat.le_refl _) (by decide) (by decide) (by rw [ex_pack]; decide)
  rw [ex_pack] at h
  exact h.mono fun e w' ⟨h1, h2⟩ => ⟨h1, ((Below.refl _ w).alloc (Nat.le_refl _) _).trans (h2.mono (by simp))⟩

set_option maxRecDepth 100000 in
set_option maxHeartbeats 1000000 in
theorem sane_any (w : World) : Calls Try.prog 13 #[] w fun e w' => e = .returned (.bool true) ∧ Below w.heap.size w w' := by
  have r1 := fun W => read_tuple ⟨#[172, 2, 255]⟩ W (by decide) 300 2 0 (Lib.hid ex_rd1)
  have r2 := fun W => read_tuple ⟨#[172]⟩ W (by decide) 0 0 20 (Lib.hid ex_rd2)
  have r3 := fun W => read_tuple ⟨#[128, 0]⟩ W (by decide) 0 0 22 (Lib.hid ex_rd3)
  have u1 := fun W => unpack_err ⟨#[1, 3, 97]⟩ W (by decide) 20 (Lib.hid ex_un1)
  have u2 := fun W => unpack_err ⟨#[0, 97]⟩ W (by decide) 22 (Lib.hid ex_un2)
  have c1 := fun W => sum_tuple ⟨#[49, 50, 51, 52, 53, 54, 55, 56, 57]⟩ W (by decide) 3421780262 (Lib.hid ex_crc)
  go_enter Try.func13, Try.ntmps13
  go_wp2_with (first
    | (go_at_call 19; ((with_reducible refine (r1 _).mono ?_); rintro e w' ⟨rfl, rfl⟩))
    | (go_at_call 19; ((with_reducible refine (r2 _).mono ?_); rintro e w' ⟨rfl, rfl⟩))
    | (go_at_call 19; ((with_reducible refine (r3 _).mono ?_); rintro e w' ⟨rfl, rfl⟩))
    | (go_at_call 28; ((with_reducible refine (u1 _).mono ?_); rintro e w1 ⟨A1, n1, k1, rfl, hb1⟩))
    | (go_at_call 28; ((with_reducible refine (u2 _).mono ?_); rintro e w2 ⟨A2, n2, k2, rfl, hb2⟩))
    | (go_at_call 14; ((with_reducible refine (c1 _).mono ?_); rintro e w' ⟨rfl, rfl⟩))
    | (go_at_call 18; ((with_reducible refine (num_300 _).mono ?_); rintro e w3 ⟨rfl, hb3⟩))
    | (go_at_call 22; ((with_reducible refine (sgn_m3 _).mono ?_); rintro e w' ⟨rfl, rfl⟩))
    | (go_at_call 24; ((with_reducible refine (uns_5 _).mono ?_); rintro e w' ⟨rfl, rfl⟩))
    | (go_at_call 27; ((refine (pack_two _).mono ?_); rintro e w4 ⟨rfl, hb4⟩)))
  go_goals
  go_ret
  exact ⟨rfl, hb1.trans ((hb2.mono hb1.size).trans ((hb3.mono (Nat.le_trans hb1.size hb2.size)).trans (hb4.mono (Nat.le_trans hb1.size (Nat.le_trans hb2.size hb3.size)))))⟩

end Go.Proofs.Ytdbhmoadngclgaa
