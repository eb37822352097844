/- The contracts of the functions that only compute with numbers: Signed, Unsigned, Mod, canBeLast. -/
import Derived.Test.YtdbhmoadngclgaaRows
import Derived.WalkKit
import Derived.WalkSpells
import Derived.WalkLawsBesides
import Derived.Laws.BitsAllLaws
import Derived.Laws.BitsLemmas
import Derived.Lib.Hide
namespace Go.Proofs.Ytdbhmoadngclgaa
open Go.RowKit

theorem ret_int {k : IntKind} {a b : Int} (h : a = b) : Ending.returned (.int k a) = .returned (.int k b) := by rw [h]
theorem ret_bool {a b : Bool} (h : a = b) : Ending.returned (.bool a) = .returned (.bool b) := by rw [h]

/-- 2n, or -2n - 1. -/
def sgn (n : Int) : Int := if 0 ≤ n then 2 * n else -2 * n - 1
/-- n/2, or -(n+1)/2. -/
def uns (n : Int) : Int := if n % 2 = 0 then n / 2 else -(n / 2) - 1

theorem uns_sgn (n : Int) : uns (sgn n) = n := by
  unfold uns sgn
  split <;> split <;> omega
theorem sgn_uns (m : Int) (h : 0 ≤ m) : sgn (uns m) = m := by
  unfold uns sgn
  split <;> split <;> omega
theorem sgn_bd (n : Int) (h1 : -9223372036854775808 ≤ n) (h2 : n ≤ 9223372036854775807) : 0 ≤ sgn n ∧ sgn n ≤ 18446744073709551615 := by
  unfold sgn; split <;> omega
theorem uns_bd (m : Int) (h1 : 0 ≤ m) (h2 : m ≤ 18446744073709551615) : -9223372036854775808 ≤ uns m ∧ uns m ≤ 9223372036854775807 := by
  unfold uns; split <;> omega

theorem signed_any (n : Int) (w : World) (h1 : -9223372036854775808 ≤ n) (h2 : n ≤ 9223372036854775807) :
    Calls Try.prog 22 #[.int .i64 n] w fun e w' => e = .returned (.int .u64 (sgn n)) ∧ w = w' := by
  by_cases h : 0 ≤ n
  all_goals
    go_enter Try.func22, Try.ntmps22
    go_wp2
    go_ret
    exact ⟨ret_int (by unfold sgn; split <;> omega), rfl⟩

theorem refSigned_any (n : Int) (w : World) (h1 : -9223372036854775808 ≤ n) (h2 : n ≤ 9223372036854775807) :
    Calls Try.prog 23 #[.int .i64 n] w fun e w' => e = .returned (.int .u64 (sgn n)) ∧ w = w' := by
  by_cases h : 0 ≤ n
  all_goals
    go_enter Try.func23, Try.ntmps23
    go_wp2
    go_ret
    exact ⟨ret_int (by unfold sgn; split <;> omega), rfl⟩

theorem unsigned_any (n : Int) (w : World) (h1 : 0 ≤ n) (h2 : n ≤ 18446744073709551615) :
    Calls Try.prog 24 #[.int .u64 n] w fun e w' => e = .returned (.int .i64 (uns n)) ∧ w = w' := by
  by_cases h : n % 2 = 0
  all_goals
    go_enter Try.func24, Try.ntmps24
    go_wp2
    go_ret
    exact ⟨ret_int (by unfold uns; split <;> omega), rfl⟩

theorem refUnsigned_any (n : Int) (w : World) (h1 : 0 ≤ n) (h2 : n ≤ 18446744073709551615) :
    Calls Try.prog 25 #[.int .u64 n] w fun e w' => e = .returned (.int .i64 (uns n)) ∧ w = w' := by
  by_cases h : n % 2 = 0
  all_goals
    go_enter Try.func25, Try.ntmps25
    go_wp2
    go_ret
    exact ⟨ret_int (by unfold uns; split <;> omega), rfl⟩

/-- The remainder from 0 on, where n + m does not pass the range. -/
theorem mod_any (n m : Int) (w : World) (h1 : -9223372036854775808 ≤ n) (h2 : n ≤ 9223372036854775807) (hm : 1 ≤ m) (hm2 : m ≤ 4611686018427387904) :
    Calls Try.prog 16 #[.int .i64 n, .int .i64 m] w fun e w' => e = .returned (.int .i64 (n % m)) ∧ w = w' := by
  have ht1 : -m < n.tmod m := Int.lt_tmod_of_pos _ (by omega)
  have ht2 : n.tmod m < m := Int.tmod_lt_of_pos _ (by omega)
  have hmm : (n.tmod m + m) % m = n % m := by
    rw [Int.add_emod_right, Int.tmod_eq_emod]
    split
    · simp
    · rw [Int.natAbs_of_nonneg (by omega)]; simp
  have hmt : (n.tmod m + m).tmod m = n % m := by rw [Int.tmod_eq_emod_of_nonneg (by omega)]; exact hmm
  go_enter Try.func16, Try.ntmps16
  go_wp2
  go_ret
  exact ⟨rfl, rfl⟩

theorem canBeLast_any (g i : Int) (w : World) (hg1 : 0 ≤ g) (hg2 : g < 256) (hi1 : 0 ≤ i) (hi2 : i < 10) :
    Calls Try.prog 33 #[.int .u8 g, .int .i64 i] w fun e w' => e = .returned (.bool (decide (i = 0 ∨ g ≠ 0 ∧ (i < 9 ∨ g ≤ 1)))) ∧ w = w' := by
  by_cases h0 : i = 0
  · subst h0
    go_enter Try.func33, Try.ntmps33
    go_wp2
    go_ret
    exact ⟨rfl, rfl⟩
  · by_cases hg : g = 0
    · subst hg
      go_enter Try.func33, Try.ntmps33
      go_wp2
      go_ret
      exact ⟨ret_bool (by simp [h0]), rfl⟩
    · by_cases h9 : i < 9 <;> by_cases h1 : g ≤ 1
      all_goals
        go_enter Try.func33, Try.ntmps33
        go_wp2
        go_ret
        exact ⟨ret_bool (by simp [h0, hg, h9, h1]), rfl⟩

end Go.Proofs.Ytdbhmoadngclgaa
