/- Record: some short string. -/
import Derived.Test.YthhpnlobhffimaaJBodyR
namespace Go.Proofs.Ythhpnlobhffimaa
set_option maxRecDepth 100000
open Go.RowKit
theorem and_small (z : Int) (m : Nat) (hm : m < 4294967296) : ∃ r : Nat, r ≤ m ∧ bits .and .i64 z (m : Int) = (r : Int) := by
  refine ⟨(BitVec.ofInt 64 z).toNat &&& m, Nat.and_le_right, ?_⟩
  have h := Nat.and_le_right (n := (BitVec.ofInt 64 z).toNat) (m := m)
  have hb : (BitVec.ofInt 64 (m : Int)).toNat = m := by
    rw [BitVec.ofInt_natCast, BitVec.toNat_ofNat]
    exact Nat.mod_eq_of_lt (by omega)
  show IntKind.i64.wrap (((BitVec.ofInt 64 z) &&& (BitVec.ofInt 64 (m : Int))).toNat : Int) = _
  rw [BitVec.toNat_and, hb, IntKind.wrap_i64]
  omega
def SmallS (w : World) (e : Ending) (w' : World) : Prop := ∃ s : ByteArray, e = .returned (.string s) ∧ s.size ≤ 300 ∧ Below w.heap.size w w'
theorem body_small (r : List UInt8) (n : Nat) (h : r.length ≤ n) (hn : n < 18446744073709551616) : (body r).length ≤ n + 14 := by
  have := body_len r
  have := numL_ten (n := r.length) (by omega)
  omega
theorem conv_zeros (m : Nat) (W : World) : (convert 66 9 (.slice (some ⟨W.heap.size, 0, none⟩) m m)).run Try.prog (W.alloc (.cells (List.replicate m (Value.int .u8 0)).toArray 5)) = .ok (.string (str (List.replicate m 0))) (W.alloc (.cells (List.replicate m (Value.int .u8 0)).toArray 5)) := by
  have hl : (List.replicate m (0 : UInt8)).length = m := List.length_replicate
  have := run_convert_bytes_back (P := Try.prog) (W.alloc (.cells (List.replicate m (Value.int .u8 0)).toArray 5)) 66 9 5 ⟨W.heap.size, 0, none⟩ m (List.replicate m 0) Try.underlying66 Try.underlying5 Try.underlying9 (fun j hj => ?_)
  · rw [hl] at this
    exact this
  · rw [hl] at hj
    have hf := Full.new W 5 (List.replicate m (Value.int .u8 0))
    rw [Addr.add_lit, Nat.zero_add, hf.cell j]
    simp [hj]
set_option maxHeartbeats 2000000 in
theorem record_any (a b : Int) (w : World) : Calls Try.prog 29 #[.agg #[.int .i64 a, .int .i64 b]] w (SmallS w) := by
  unfold SmallS
  have h1 := Int.lt_tmod_of_pos a (b := 8) (by omega)
  have h2 := Int.tmod_lt_of_pos a (b := 8) (by omega)
  obtain ⟨r, hr⟩ : ∃ r, a.tmod 8 = r := ⟨_, rfl⟩
  rw [hr] at h1 h2
  have e1 : IntKind.i64.wrap r = r := by simp [IntKind.wrap, IntKind.bits, IntKind.signed]; omega
  have e2 : IntKind.i64.wrap (r + 8) = r + 8 := by simp [IntKind.wrap, IntKind.bits, IntKind.signed]; omega
  obtain ⟨x, hx, hx7⟩ : ∃ x : Int, (r + 8) % 8 = x ∧ 0 ≤ x ∧ x ≤ 7 := ⟨_, rfl, by omega, by omega⟩
  obtain ⟨m, hm, em⟩ := and_small b 255 (by decide)
  have em : bits .and .i64 b 255 = (m : Int) := em
  have hm0 : (0 : Int) ≤ (m : Int) := Int.natCast_nonneg _
  obtain ⟨M, hM, hM6⟩ : ∃ M : Nat, (m : Int) % 7 = (M : Int) ∧ M ≤ 6 := ⟨m % 7, by omega, by omega⟩
  have B1 := Lib.hid (fun (W : World) => refBody_any ⟨#[121]⟩ W (by show 1 ≤ _; decide))
  have B2 := Lib.hid (fun (W : World) => refBody_any ⟨#[105, 110, 110, 101, 114]⟩ W (by show 5 ≤ _; decide))
  have B3 := Lib.hid (fun (s : ByteArray) (h : s.size ≤ 6) (W : World) => refBody_any s W (by omega))
  unfold StrB at B1 B2 B3
  have z1 : (str (body (⟨#[121]⟩ : ByteArray).data.toList)).size ≤ 15 := by rw [str_size]; exact body_small _ 1 (by decide) (by decide)
  have z2 : (str (body (⟨#[105, 110, 110, 101, 114]⟩ : ByteArray).data.toList)).size ≤ 19 := by rw [str_size]; exact body_small _ 5 (by decide) (by decide)
  have z3 := Lib.hid (fun (s : ByteArray) (h : s.size ≤ 6) => (show (str (body s.data.toList)).size ≤ 20 from by rw [str_size]; exact body_small _ 6 (by simpa using h) (by decide)))
  obtain ⟨Y1, hY1⟩ : ∃ Y, str (body (⟨#[121]⟩ : ByteArray).data.toList) = Y := ⟨_, rfl⟩
  obtain ⟨Y2, hY2⟩ : ∃ Y, str (body (⟨#[105, 110, 110, 101, 114]⟩ : ByteArray).data.toList) = Y := ⟨_, rfl⟩
  rw [hY1] at B1 z1
  rw [hY2] at B2 z2
  have k0 := Full.new w 51 [.int .i64 a, .int .i64 b]
  have hb0 : Hid (Below w.heap.size w (w.alloc (.cells #[.int .i64 a, .int .i64 b] 51))) := Lib.hid ((Below.refl _ w).alloc (Nat.le_refl _) _)
  clear hY1 hY2
  go_enter Try.func29, Try.ntmps29
  go_upto_region 5 with fail
  rw [hx]
  obtain ⟨w1, hw1⟩ : ∃ w1, w.alloc (.cells #[.int .i64 a, .int .i64 b] 51) = w1 := ⟨_, rfl⟩
  rw [hw1] at hb0 ⊢
  clear hx e1 e2 h1 h2 hr hw1 k0 em
  go_loopw [5, 6] (fun v5 v6 wr => ∃ (k : Nat) (S : ByteArray), v5 = .string S ∧ v6 = .int .i64 (k : Int) ∧ k ≤ M ∧ S.size = k ∧ Hid (Below w.heap.size w wr)) (fun _ v6 _ => M - (intOf v6).toNat)
  case atStart => exact ⟨0, ⟨#[]⟩, rfl, rfl, by omega, rfl, hb0⟩
  case round =>
    obtain ⟨k, S, rfl, rfl, hk, hS, HB⟩ := hrel
    have k0 : (0 : Int) ≤ (k : Int) := Int.natCast_nonneg _
    by_cases hlt : k < M
    · have k1 : (k : Int) < (M : Int) := by omega
      have k2 : (k : Int) + 1 ≤ 7 := by omega
      have zc : (⟨#[97, 98, 99, 100, 101, 102, 103]⟩ : ByteArray).size = 7 := rfl
      have ze : ((⟨#[97, 98, 99, 100, 101, 102, 103]⟩ : ByteArray).extract k (k + 1)).size = 1 := by rw [ByteArray.size_extract, zc]; omega
      obtain ⟨Q, hQ⟩ : ∃ Q : ByteArray, (⟨#[97, 98, 99, 100, 101, 102, 103]⟩ : ByteArray).extract k (k + 1) = Q := ⟨_, rfl⟩
      rw [hQ] at ze
      go_wp2
      go_roundw
      case rel => exact ⟨k + 1, S ++ Q, rfl, by go_num, by omega, by rw [ByteArray.size_append]; omega, HB⟩
      case measure => simp [intOf]; omega
    · obtain rfl : k = M := by omega
      have hS6 : S.size ≤ 6 := by omega
      have B3S := Lib.hid (B3.out S hS6)
      have z3S := z3.out S hS6
      obtain ⟨Y3, hY3⟩ : ∃ Y, str (body S.data.toList) = Y := ⟨_, rfl⟩
      rw [hY3] at B3S z3S
      clear hY3
      have hsB := HB.out.size
      obtain rfl | rfl | rfl | rfl | rfl | h5 : x = 0 ∨ x = 1 ∨ x = 2 ∨ x = 3 ∨ x = 4 ∨ 5 ≤ x := by omega
      · go_wp2
        go_ret
        exact ⟨_, rfl, by show 0 ≤ _; omega, HB.out⟩
      · go_wp2_with (go_at_call 30; ((with_reducible refine (B3S.out _).mono ?_); rintro e w3 ⟨rfl, hb3⟩))
        go_ret
        exact ⟨_, rfl, by rw [ByteArray.size_append]; have : (⟨#[1]⟩ : ByteArray).size = 1 := rfl; omega, Below.then_ HB.out hb3⟩
      · go_wp2_with (go_at_call 30; ((with_reducible refine (B2.out _).mono ?_); rintro e w3 ⟨rfl, hb3⟩))
        go_ret
        have zz0 : (⟨#[0]⟩ : ByteArray).size = 1 := rfl
        have zz1 : (⟨#[1]⟩ : ByteArray).size = 1 := rfl
        exact ⟨_, rfl, by simp only [ByteArray.size_append]; omega, Below.then_ HB.out hb3⟩
      · have zx : (⟨#[1, 120]⟩ : ByteArray).size = 2 := rfl
        go_upto_region 16 with fail
        clear hM
        go_loopw [5] (fun v5 wr => ∃ (S' : ByteArray), v5 = .string S' ∧ S'.size ≤ m + 23 ∧ Hid (Below w.heap.size w wr)) (fun v5 _ => match v5 with | .string S' => m - S'.size | _ => 0)
        case atStart => exact ⟨S, rfl, by omega, HB⟩
        case round =>
          obtain ⟨S', rfl, hS', HB'⟩ := hrel
          by_cases hl : S'.size < m
          · have l1 : (S'.size : Int) < (m : Int) := by omega
            go_wp2_with (go_at_call 30; ((with_reducible refine (B1.out _).mono ?_); rintro e w3 ⟨rfl, hb3⟩))
            have HB3 := Lib.hid (Below.then_ HB'.out hb3)
            clear hb3
            go_roundw
            case rel => exact ⟨_, rfl, by simp only [ByteArray.size_append]; omega, HB3⟩
            case measure => simp only [ByteArray.size_append]; omega
          · have l1 : (m : Int) ≤ (S'.size : Int) := by omega
            go_wp2
            go_ret
            exact ⟨_, rfl, by omega, HB'.out⟩
      · have MK := made_one 66 5 (.int .u8 0) 1 Try.underlying66 info5 rfl m (by omega) (by omega)
        have CV := conv_zeros m
        obtain ⟨Z, hZ⟩ : ∃ Z, (List.replicate m (Value.int .u8 0)).toArray = Z := ⟨_, rfl⟩
        rw [hZ] at MK CV
        have hT : (str (List.replicate m 0)).size = m := by rw [str_size, List.length_replicate]
        obtain ⟨T, hTT⟩ : ∃ T, str (List.replicate m 0) = T := ⟨_, rfl⟩
        rw [hTT] at CV hT
        clear hZ hTT
        go_wp2
        go_ret
        exact ⟨_, rfl, by omega, HB.out.alloc hsB _⟩
      · have x0 : (x == 0) = false := by simp; omega
        have x1 : (x == 1) = false := by simp; omega
        have x2 : (x == 2) = false := by simp; omega
        have x3 : (x == 3) = false := by simp; omega
        have x4 : (x == 4) = false := by simp; omega
        go_wp2
        go_ret
        exact ⟨_, rfl, by omega, HB.out⟩
end Go.Proofs.Ythhpnlobhffimaa
