/- The contracts of Sum, the code's and the reference's: both are the CRC-32, bit by bit. -/
import Derived.Test.YthhpnlobhffimaaCPure
namespace Go.Proofs.Ythhpnlobhffimaa
set_option maxRecDepth 100000
open Go.RowKit

/-- one bit of the register -/
def crcBit (r : Nat) : Nat := if r % 2 = 1 then (r / 2) ^^^ 3988292384 else r / 2
def crcBits : Nat → Nat → Nat
  | 0, r => r
  | k + 1, r => crcBit (crcBits k r)
def crcByte (r : Nat) (b : UInt8) : Nat := crcBits 8 (r ^^^ b.toNat)
def crcReg (l : List UInt8) : Nat := l.foldl crcByte 4294967295
def crc (l : List UInt8) : Nat := 4294967295 - crcReg l

theorem crcBit_lt {r : Nat} (h : r < 4294967296) : crcBit r < 4294967296 := by
  unfold crcBit
  split
  · exact Nat.xor_lt_two_pow (n := 32) (by omega) (by omega)
  · omega
theorem crcBits_lt {r : Nat} (h : r < 4294967296) (k : Nat) : crcBits k r < 4294967296 := by
  induction k with
  | zero => exact h
  | succ k ih => exact crcBit_lt ih
theorem crcByte_lt {r : Nat} (h : r < 4294967296) (b : UInt8) : crcByte r b < 4294967296 := by
  refine crcBits_lt (Nat.xor_lt_two_pow (n := 32) (by omega) ?_) 8
  have := b.toNat_lt
  omega
theorem crcReg_lt (l : List UInt8) : crcReg l < 4294967296 := by
  have : ∀ (l : List UInt8) (r : Nat), r < 4294967296 → l.foldl crcByte r < 4294967296 := by
    intro l
    induction l with
    | nil => intro r h; exact h
    | cons b l ih => intro r h; exact ih _ (crcByte_lt h b)
  exact this l _ (by omega)
theorem crcReg_snoc (l : List UInt8) (b : UInt8) : crcReg (l ++ [b]) = crcByte (crcReg l) b := by
  unfold crcReg; rw [List.foldl_append]; rfl

theorem take_snoc (s : ByteArray) (k : Nat) (h : k < s.size) : s.data.toList.take (k + 1) = s.data.toList.take k ++ [s[k]] := by
  rw [List.take_succ_eq_append_getElem (by simpa using h)]; rfl

theorem and_ones (a : Nat) (h : a < 4294967296) : a &&& 4294967295 = a := by
  rw [show (4294967295 : Nat) = 2 ^ 32 - 1 from rfl, Nat.and_two_pow_sub_one_eq_mod]
  exact Nat.mod_eq_of_lt (by omega)

theorem ones_xor (a : Nat) (h : a < 4294967296) : 4294967295 ^^^ a = 4294967295 - a := by
  have e := congrArg BitVec.toNat (BitVec.allOnes_xor (x := BitVec.ofNat 32 a))
  rw [BitVec.toNat_xor, BitVec.toNat_not, BitVec.toNat_allOnes, BitVec.toNat_ofNat, Nat.mod_eq_of_lt h] at e
  exact e
theorem not_code (r : Nat) (h : r < 4294967296) : bits .xor .u32 IntKind.u32.max (r : Int) = ((4294967295 - r : Nat) : Int) := by
  rw [← ones_xor r h]
  exact u32_xor_nat 4294967295 r (by omega) h

/-- The mask of the code: all ones exactly where the bit that goes is 1. -/
theorem bit_code (r : Nat) (h : r < 4294967296) :
    bits .xor .u32 ((r : Int) / 2) (bits .and .u32 3988292384 (-bits .and .u32 (r : Int) 1 % 4294967296)) = (crcBit r : Int) := by
  have h1 : bits .and .u32 (r : Int) 1 = ((r % 2 : Nat) : Int) := by
    have := u32_and_nat r 1 h (by omega)
    rw [nat_mask1] at this
    exact this
  rw [h1]
  have h2 : ((r : Int) / 2) = ((r / 2 : Nat) : Int) := by omega
  rw [h2]
  unfold crcBit
  by_cases hr : r % 2 = 1
  · rw [if_pos hr, hr, show (-((1 : Nat) : Int) % 4294967296) = ((4294967295 : Nat) : Int) from rfl]
    have h3 := u32_and_nat 3988292384 4294967295 (by omega) (by omega)
    rw [and_ones _ (by omega)] at h3
    have h4 := u32_xor_nat (r / 2) 3988292384 (by omega) (by omega)
    exact (congrArg (bits .xor .u32 ((r / 2 : Nat) : Int)) h3).trans h4
  · have h0 : r % 2 = 0 := by omega
    rw [if_neg hr, h0, show (-((0 : Nat) : Int) % 4294967296) = ((0 : Nat) : Int) from rfl]
    have h3 := u32_and_nat 3988292384 0 (by omega) (by omega)
    rw [Nat.and_zero] at h3
    have h4 := u32_xor_nat (r / 2) 0 (by omega) (by omega)
    rw [Nat.xor_zero] at h4
    exact (congrArg (bits .xor .u32 ((r / 2 : Nat) : Int)) h3).trans h4

set_option maxHeartbeats 400000 in
theorem sum_any (s : ByteArray) (w : World) (hs : s.size ≤ maxLen) :
    Calls Try.prog 58 #[.string s] w fun e w' => e = .returned (.int .u32 (crc s.data.toList)) ∧ w = w' := by
  unfold maxLen at hs
  go_enter Try.func58, Try.ntmps58
  go_wp2
  go_loop [3, 8] (fun r i => ∃ k : Nat, k ≤ s.size ∧ i = .int .i64 k ∧ r = .int .u32 (crcReg (s.data.toList.take k))) (fun _ i => s.size - (intOf i).toNat)
  case atStart => exact ⟨0, Nat.zero_le _, rfl, rfl⟩
  case round =>
    obtain ⟨k, hk, rfl, rfl⟩ := hrel
    by_cases hlt : k < s.size
    · have hl := crcReg_lt (s.data.toList.take k)
      have hb := s[k].toNat_lt
      have hx0 : bits .xor .u32 (crcReg (s.data.toList.take k) : Int) (s[k].toNat : Int) = ((crcReg (s.data.toList.take k) ^^^ s[k].toNat : Nat) : Int) :=
        u32_xor_nat _ _ hl (by omega)
      have hsn : crcReg (s.data.toList.take (k + 1)) = crcBits 8 (crcReg (s.data.toList.take k) ^^^ s[k].toNat) := by
        rw [take_snoc s k hlt, crcReg_snoc]; rfl
      have hX : crcReg (s.data.toList.take k) ^^^ s[k].toNat < 4294967296 := Nat.xor_lt_two_pow (n := 32) (by omega) (by omega)
      have HX0 := Lib.hid hx0; clear hx0
      have HSN := Lib.hid hsn; clear hsn
      go_wp2
      obtain ⟨X, HX⟩ : ∃ X : Nat, Hid (crcReg (s.data.toList.take k) ^^^ s[k].toNat = X) := ⟨_, Lib.hid rfl⟩
      have hX' : X < 4294967296 := by rw [← HX.out]; exact hX
      go_loop [3, 17] (fun r j => ∃ m : Nat, m ≤ 8 ∧ j = .int .i64 m ∧ r = .int .u32 (crcBits m X)) (fun _ j => 8 - (intOf j).toNat)
      case atStart => exact ⟨0, Nat.zero_le _, rfl, by rw [HX0.out, HX.out]; rfl⟩
      case round =>
        obtain ⟨m, hm, rfl, rfl⟩ := hrel
        by_cases hm8 : m < 8
        · have hr := crcBits_lt hX' m
          go_wp2
          go_roundw
          case rel => exact ⟨m + 1, by omega, by go_num, by rw [bit_code _ hr]; rfl⟩
          case measure => simp [intOf]; omega
        · obtain rfl : m = 8 := by omega
          go_wp2
          go_roundw
          case rel => exact ⟨k + 1, by omega, by go_num, by rw [HSN.out, HX.out]⟩
          case measure => simp [intOf]; omega
    · obtain rfl : k = s.size := by omega
      go_wp2
      go_ret
      exact ⟨ret_int (by rw [not_code _ (crcReg_lt _), List.take_of_length_le (by simp)]; rfl), rfl⟩

theorem ref_one (r : Nat) (h : r < 4294967296) (h1 : r % 2 = 1) : bits .xor .u32 ((r : Int) / 2) 3988292384 = (crcBit r : Int) := by
  unfold crcBit
  rw [if_pos h1]
  exact u32_xor_nat (r / 2) 3988292384 (by omega) (by omega)
theorem ref_nil (r : Nat) (h1 : ¬ r % 2 = 1) : ((r : Int) / 2) = (crcBit r : Int) := by
  unfold crcBit
  rw [if_neg h1]
  omega

set_option maxHeartbeats 400000 in
theorem refSum_any (s : ByteArray) (w : World) (hs : s.size ≤ maxLen) :
    Calls Try.prog 48 #[.string s] w fun e w' => e = .returned (.int .u32 (crc s.data.toList)) ∧ w = w' := by
  unfold maxLen at hs
  go_enter Try.func48, Try.ntmps48
  go_wp2
  go_loop [3, 4] (fun r i => ∃ k : Nat, k ≤ s.size ∧ i = .int .i64 k ∧ r = .int .u32 (crcReg (s.data.toList.take k))) (fun _ i => s.size - (intOf i).toNat)
  case atStart => exact ⟨0, Nat.zero_le _, rfl, rfl⟩
  case round =>
    obtain ⟨k, hk, rfl, rfl⟩ := hrel
    by_cases hlt : k < s.size
    · have hl := crcReg_lt (s.data.toList.take k)
      have hb := s[k].toNat_lt
      have hx0 : bits .xor .u32 (crcReg (s.data.toList.take k) : Int) (s[k].toNat : Int) = ((crcReg (s.data.toList.take k) ^^^ s[k].toNat : Nat) : Int) :=
        u32_xor_nat _ _ hl (by omega)
      have hsn : crcReg (s.data.toList.take (k + 1)) = crcBits 8 (crcReg (s.data.toList.take k) ^^^ s[k].toNat) := by
        rw [take_snoc s k hlt, crcReg_snoc]; rfl
      have hX : crcReg (s.data.toList.take k) ^^^ s[k].toNat < 4294967296 := Nat.xor_lt_two_pow (n := 32) (by omega) (by omega)
      have HX0 := Lib.hid hx0; clear hx0
      have HSN := Lib.hid hsn; clear hsn
      go_wp2
      obtain ⟨X, HX⟩ : ∃ X : Nat, Hid (crcReg (s.data.toList.take k) ^^^ s[k].toNat = X) := ⟨_, Lib.hid rfl⟩
      have hX' : X < 4294967296 := by rw [← HX.out]; exact hX
      go_loop [3, 5] (fun r j => ∃ m : Nat, m ≤ 8 ∧ j = .int .i64 m ∧ r = .int .u32 (crcBits m X)) (fun _ j => 8 - (intOf j).toNat)
      case atStart => exact ⟨0, Nat.zero_le _, rfl, by rw [HX0.out, HX.out]; rfl⟩
      case round =>
        obtain ⟨m, hm, rfl, rfl⟩ := hrel
        by_cases hm8 : m < 8
        · have hr := crcBits_lt hX' m
          by_cases h1 : crcBits m X % 2 = 1
          · have hone := ref_one _ hr h1
            have HONE := Lib.hid hone; clear hone
            have h1' : ((crcBits m X : Int) % 2 == 1) = true := by simp; omega
            go_wp2
            all_goals
              go_roundw
              case rel => exact ⟨m + 1, by omega, by go_num, by rw [HONE.out]; rfl⟩
              case measure => simp [intOf]; omega
          · have hnil := ref_nil _ h1
            have HNIL := Lib.hid hnil; clear hnil
            have h1' : ((crcBits m X : Int) % 2 == 1) = false := by simp; omega
            go_wp2
            all_goals
              go_roundw
              case rel => exact ⟨m + 1, by omega, by go_num, by rw [HNIL.out]; rfl⟩
              case measure => simp [intOf]; omega
        · obtain rfl : m = 8 := by omega
          go_wp2
          go_roundw
          case rel => exact ⟨k + 1, by omega, by go_num, by rw [HSN.out, HX.out]⟩
          case measure => simp [intOf]; omega
    · obtain rfl : k = s.size := by omega
      have hl := crcReg_lt s.data.toList
      go_wp2
      go_ret
      exact ⟨ret_int (by rw [List.take_of_length_le (by simp)]; unfold crc; omega), rfl⟩

end Go.Proofs.Ythhpnlobhffimaa
