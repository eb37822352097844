/- The contracts of the functions that only compute with numbers: Signed, Unsigned, Mod, canBeLast. -/
import Derived.Test.YthhpnlobhffimaaHeap
import Derived.WalkKit
import Derived.WalkSpells
import Derived.WalkLawsBesides
import Derived.Laws.BitsAllLaws
import Derived.Laws.BitsLemmas
import Derived.Lib.Hide
namespace Go.Proofs.Ythhpnlobhffimaa
set_option maxRecDepth 100000
open Go.RowKit

/-- 2n, or -2n - 1. -/
def sgn (n : Int) : Int := if 0 ≤ n then 2 * n else -2 * n - 1
/-- n/2, or -(n+1)/2. -/
def uns (n : Int) : Int := if n % 2 = 0 then n / 2 else -(n / 2) - 1

theorem uns_sgn (n : Int) : uns (sgn n) = n := by
  unfold uns sgn
  split <;> split <;> omega
theorem sgn_uns (m : Int) (h : 0 ≤ m) : sgn (uns m) = m := by
  unfold uns sgn
  split <;> split <;> omega
theorem sgn_bd (n : Int) (h1 : -9223372036854775808 ≤ n) (h2 : n ≤ 9223372036854775807) : 0 ≤ sgn n ∧ sgn n ≤ 18446744073709551615 := by
  unfold sgn; split <;> omega
theorem uns_bd (m : Int) (h1 : 0 ≤ m) (h2 : m ≤ 18446744073709551615) : -9223372036854775808 ≤ uns m ∧ uns m ≤ 9223372036854775807 := by
  unfold uns; split <;> omega

/-- The remainder from 0 on, where n + m does not pass the range. -/
theorem canBeLast_any (g i : Int) (w : World) (hg1 : 0 ≤ g) (hg2 : g < 256) (hi1 : 0 ≤ i) (hi2 : i < 10) :
    Calls Try.prog 66 #[.int .u8 g, .int .i64 i] w fun e w' => e = .returned (.bool (decide (i = 0 ∨ g ≠ 0 ∧ (i < 9 ∨ g ≤ 1)))) ∧ w = w' := by
  by_cases h0 : i = 0
  · subst h0
    go_enter Try.func66, Try.ntmps66
    go_wp2
    go_ret
    exact ⟨rfl, rfl⟩
  · by_cases hg : g = 0
    · subst hg
      go_enter Try.func66, Try.ntmps66
      go_wp2
      go_ret
      exact ⟨ret_bool (by simp [h0]), rfl⟩
    · by_cases h9 : i < 9 <;> by_cases h1 : g ≤ 1
      all_goals
        go_enter Try.func66, Try.ntmps66
        go_wp2
        go_ret
        exact ⟨ret_bool (by simp [h0, hg, h9, h1]), rfl⟩

end Go.Proofs.Ythhpnlobhffimaa
