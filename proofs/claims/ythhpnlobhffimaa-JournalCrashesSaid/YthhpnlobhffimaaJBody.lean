/- HasPrefix, bodySize, body. -/
import Derived.Test.YthhpnlobhffimaaJMath
import Derived.Test.YthhpnlobhffimaaReadT
namespace Go.Proofs.Ythhpnlobhffimaa
set_option maxRecDepth 100000
open Go.RowKit
theorem isPre (s p : List UInt8) (h : p.length ≤ s.length) : p.isPrefixOf s = decide (s.take p.length = p) := by
  rw [Bool.eq_iff_iff, List.isPrefixOf_iff_prefix, decide_eq_true_eq]
  constructor
  · rintro ⟨t, rfl⟩; simp
  · intro h2; exact ⟨s.drop p.length, by conv => lhs; lhs; rw [← h2]
                                         exact List.take_append_drop _ _⟩
theorem hasPre63 (s p : ByteArray) (w : World) : Calls Try.prog 63 #[.string s, .string p] w fun e w' => e = .returned (.bool (p.data.toList.isPrefixOf s.data.toList)) ∧ w = w' := by
  by_cases h : p.size ≤ s.size
  · go_enter Try.func63, Try.ntmps63
    go_wp2
    go_ret
    refine ⟨ret_bool ?_, rfl⟩
    rw [isPre _ _ (by simpa using h), ByteArray.toList_eq, ByteArray.toList_eq, Lib.extract_data]
    simp [Bool.beq_eq_decide_eq]
  · go_enter Try.func63, Try.ntmps63
    go_wp2
    go_ret
    refine ⟨ret_bool ?_, rfl⟩
    symm
    rw [Bool.eq_false_iff]
    intro h2
    have := (List.isPrefixOf_iff_prefix.1 h2).length_le
    simp at this; omega
theorem hasPre (s p : ByteArray) (w : World) : Calls Try.prog 54 #[.string s, .string p] w fun e w' => e = .returned (.bool (p.data.toList.isPrefixOf s.data.toList)) ∧ w = w' := by
  have H := Lib.hid (hasPre63 s p w)
  obtain ⟨b, hb⟩ : ∃ b, p.data.toList.isPrefixOf s.data.toList = b := ⟨_, rfl⟩
  rw [hb] at H ⊢
  go_enter Try.func54, Try.ntmps54
  go_wp2_with (go_at_call 63; ((with_reducible refine H.out.mono ?_); rintro e w1 ⟨rfl, rfl⟩))
  go_ret
  exact ⟨rfl, rfl⟩
theorem bodySize_any (s : ByteArray) (w : World) (hs2 : s.size ≤ 281474976710656) : Calls Try.prog 37 #[.string s] w fun e w' => e = .returned (.int .i64 ((body s.data.toList).length : Int)) ∧ Below w.heap.size w w' := by
  have H := Lib.hid (number_any s.size (by omega) w)
  have hsz := str_size (numL s.size)
  have hten := numL_ten (n := s.size) (by omega)
  have hbl : (body s.data.toList).length = (numL s.size).length + s.size + 4 := by rw [body_len, data_len]
  obtain ⟨N, hN⟩ : ∃ N, str (numL s.size) = N := ⟨_, rfl⟩
  rw [hN] at H hsz
  rw [hbl, ← hsz]
  rw [← hsz] at hten
  clear hN hsz hbl
  go_enter Try.func37, Try.ntmps37
  go_wp2_with (go_at_call 57; ((with_reducible refine H.out.mono ?_); rintro e w1 ⟨rfl, hb⟩))
  go_ret
  exact ⟨ret_int (by omega), hb⟩
/-- four bytes in a row of their own, as a string -/
theorem conv4 (c : Nat) (w : World) : (convert 66 9 (.slice (some ⟨w.heap.size, 0, none⟩) 4 4)).run Try.prog (w.alloc (.cells #[.int .u8 ((c : Int) % 256), .int .u8 ((c : Int) / 256 % 256), .int .u8 ((c : Int) / 65536 % 256), .int .u8 ((c : Int) / 16777216 % 256)] 5)) =
    .ok (.string (str [UInt8.ofNat c, UInt8.ofNat (c / 256), UInt8.ofNat (c / 65536), UInt8.ofNat (c / 16777216)])) (w.alloc (.cells #[.int .u8 ((c : Int) % 256), .int .u8 ((c : Int) / 256 % 256), .int .u8 ((c : Int) / 65536 % 256), .int .u8 ((c : Int) / 16777216 % 256)] 5)) := by
  have e : ∀ n : Nat, Value.int .u8 ((n : Int) % 256) = enc8 (UInt8.ofNat n) := fun n => by unfold enc8; simp
  have e0 := e c
  have e1 := e (c / 256)
  have e2 := e (c / 65536)
  have e3 := e (c / 16777216)
  rw [show ((c / 256 : Nat) : Int) = (c : Int) / 256 by omega] at e1
  rw [show ((c / 65536 : Nat) : Int) = (c : Int) / 65536 by omega] at e2
  rw [show ((c / 16777216 : Nat) : Int) = (c : Int) / 16777216 by omega] at e3
  rw [e0, e1, e2, e3]
  have hf := Full.new w 5 (bytC [UInt8.ofNat c, UInt8.ofNat (c / 256), UInt8.ofNat (c / 65536), UInt8.ofNat (c / 16777216)])
  exact conv_row (hf.row 1 4 rfl 4 (Nat.le_refl _)) (by omega)
theorem body_any (s : ByteArray) (w : World) (hs2 : s.size ≤ 281474976710656) : Calls Try.prog 38 #[.string s] w fun e w' => e = .returned (.string (str (body s.data.toList))) ∧ Below w.heap.size w w' := by
  have H := Lib.hid (number_any s.size (by omega) w)
  have hten := numL_ten (n := s.size) (by omega)
  have hsz := str_size (numL s.size)
  obtain ⟨N, hN⟩ : ∃ N, str (numL s.size) = N := ⟨_, rfl⟩
  rw [hN] at H hsz
  rw [← hsz] at hten
  have hap : (N ++ s).data.toList = numL s.size ++ s.data.toList := by rw [← hN, app_data, str_data]
  obtain ⟨S, hS⟩ : ∃ S, N ++ s = S := ⟨_, rfl⟩
  have hSs : S.size = N.size + s.size := by rw [← hS]; simp
  rw [hS] at hap
  have SM := Lib.hid (fun w => sum_any S w (by unfold maxLen; omega))
  have hbody : str (body s.data.toList) = S ++ str (sum4 S.data.toList) := by
    unfold body
    rw [data_len, ← hap, ← str_append]
    congr 1
  rw [hbody]
  have CV := conv4 (crc S.data.toList)
  have h4 : (str (sum4 S.data.toList)).size = 4 := rfl
  have hsum : str [UInt8.ofNat (crc S.data.toList), UInt8.ofNat (crc S.data.toList / 256), UInt8.ofNat (crc S.data.toList / 65536), UInt8.ofNat (crc S.data.toList / 16777216)] = str (sum4 S.data.toList) := rfl
  rw [hsum] at CV
  obtain ⟨T, hT⟩ : ∃ T, str (sum4 S.data.toList) = T := ⟨_, rfl⟩
  rw [hT] at CV h4 ⊢
  clear hN hsz hbody hap hsum hT
  go_enter Try.func38, Try.ntmps38
  go_wp2_with (first
    | (go_at_call 57; ((with_reducible refine H.out.mono ?_); rintro e w1 ⟨rfl, hb⟩))
    | (go_at_call 58; ((with_reducible refine (SM.out _).mono ?_); rintro e w2 ⟨rfl, rfl⟩))
    | (fail "arm"))
  go_ret
  exact ⟨rfl, hb.alloc hb.size _⟩
end Go.Proofs.Ythhpnlobhffimaa
