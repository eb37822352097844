/- The reference's Body. -/
import Derived.Test.YthhpnlobhffimaaJBody
import Derived.Laws.AppendOwn
namespace Go.Proofs.Ythhpnlobhffimaa
set_option maxRecDepth 100000
open Go.RowKit
/-- the byte number k of a sum -/
def sb (c k : Nat) : Nat := c / 256 ^ k
theorem sb_next (c k : Nat) : sb c k / 256 = sb c (k + 1) := by unfold sb; rw [Nat.div_div_eq_div_mul, Nat.pow_succ]
def sbL (c k : Nat) : List UInt8 := (List.range k).map fun i => UInt8.ofNat (sb c i)
theorem sbL_next (c k : Nat) : sbL c (k + 1) = sbL c k ++ [UInt8.ofNat (sb c k)] := by simp [sbL, List.range_succ]
theorem sbL_len (c k : Nat) : (sbL c k).length = k := by simp [sbL]
theorem sbL_four (l : List UInt8) : sbL (crc l) 4 = sum4 l := by simp [sbL, List.range_succ, sb, sum4]
theorem crc_lt (l : List UInt8) : crc l < 4294967296 := by unfold crc; omega
theorem refBody_any (s : ByteArray) (w : World) (hs2 : s.size ≤ 281474976710656) : Calls Try.prog 30 #[.string s] w (StrB w (str (body s.data.toList))) := by
  unfold StrB
  have H := Lib.hid (refNumber s.size (by omega) w)
  have hten := numL_ten (n := s.size) (by omega)
  have hsz := str_size (numL s.size)
  obtain ⟨N, hN⟩ : ∃ N, str (numL s.size) = N := ⟨_, rfl⟩
  rw [hN] at H hsz
  rw [← hsz] at hten
  have hap : (N ++ s).data.toList = numL s.size ++ s.data.toList := by rw [← hN, app_data, str_data]
  obtain ⟨S, hS⟩ : ∃ S, N ++ s = S := ⟨_, rfl⟩
  have hSs : S.size = N.size + s.size := by rw [← hS]; simp
  rw [hS] at hap
  have SM := Lib.hid (fun w => refSum_any S w (by unfold maxLen; omega))
  have hbody : str (body s.data.toList) = S ++ str (sum4 S.data.toList) := by
    unfold body
    rw [data_len, ← hap, ← str_append]
    congr 1
  rw [hbody, ← sbL_four]
  have hc := crc_lt S.data.toList
  obtain ⟨c, hcc⟩ : ∃ c, crc S.data.toList = c := ⟨_, rfl⟩
  rw [hcc] at hc SM ⊢
  obtain ⟨i0, hi, hz0, hz1, hz2⟩ := info_parts info5
  obtain ⟨T, HT⟩ : ∃ T, Hid (str (sbL c 4) = T) := ⟨_, Lib.hid rfl⟩
  rw [HT.out]
  clear hN hsz hbody hap hcc
  go_enter Try.func30, Try.ntmps30
  go_upto_region 5 with (first
    | (go_at_call 47; ((with_reducible refine H.out.mono ?_); rintro e w1 ⟨rfl, hb⟩))
    | (go_at_call 48; ((with_reducible refine (SM.out _).mono ?_); rintro e w2 ⟨rfl, rfl⟩))
    | (fail "arm"))
  have HB := Lib.hid hb
  have H00 : Hid (w1.ownsRow w.heap.size 5 1 (.slice none 0 0) 0 (bytC (sbL c 0))) := Lib.hid (World.ownsRow_nil _ _ _ _)
  clear hb
  go_loopw [4, 5, 6] (fun v4 v5 v6 wr => ∃ (k : Nat) (A : Option Addr) (cp : Nat), v6 = .int .i64 (k : Int) ∧ k ≤ 4 ∧ v4 = .int .u32 ((sb c k : Nat) : Int) ∧ v5 = .slice A k cp ∧ Hid (wr.ownsRow w.heap.size 5 1 (.slice A k cp) k (bytC (sbL c k))) ∧ Hid (Below w.heap.size w wr)) (fun _ _ v6 _ => 4 - (intOf v6).toNat)
  case atStart => exact ⟨0, none, 0, rfl, by omega, by simp [sb], rfl, H00, HB⟩
  case round =>
    obtain ⟨k, A, cp, rfl, hk, rfl, rfl, HO, HBk⟩ := hrel
    have k0 : (0 : Int) ≤ (k : Int) := Int.natCast_nonneg _
    have hx0 : (0 : Int) ≤ ((sb c k : Nat) : Int) := Int.natCast_nonneg _
    have hx1 : ((sb c k : Nat) : Int) ≤ 4294967295 := by
      have : sb c k ≤ c := Nat.div_le_self _ _
      omega
    by_cases hlt : k < 4
    · have k1 : (k : Int) < 4 := by omega
      have hnx := sb_next c k
      have hsn := sbL_next c k
      obtain ⟨x, hx⟩ : ∃ x, sb c k = x := ⟨_, rfl⟩
      rw [hx] at hnx hx0 hx1 hsn ⊢
      have HN := Lib.hid hnx
      have HS2 := Lib.hid (show bytC (sbL c (k + 1)) = bytC (sbL c k) ++ [.int .u8 ((x : Int) % 256)] from by
        rw [hsn]; unfold bytC enc8; simp)
      have hrow := HO.out
      have hsB := HBk.out.size
      clear hnx hx hsn
      go_wp2_with (at_builtin; refine wpList_append_own _ rfl _ _ 66 rfl w.heap.size 5 i0 (.int .u8 0) 1 1 Try.underlying66 hi hz0 hz1 hz2 rfl (by decide) (.slice A k cp) _ _ rfl (hrow.alloc _) ⟨wr.heap.size, 0, none⟩ 1 1 [.int .u8 ((x : Int) % 256)] rfl rfl (cell_one_new _ _ _) (by simp [Value.oneCell']) (by unfold maxLen; omega) (by omega) (by simp; omega) ?_; intro v' w3 hown' hgrow _; obtain ⟨A', c', rfl⟩ := own_form hown')
      have hbb : Below w.heap.size w w3 := HBk.out.trans ((((Below.refl _ wr).alloc hsB _).grown hgrow (by simp; omega) (fun g hg => row_ge hrow g hg)))
      have HO3 := Lib.hid (show w3.ownsRow w.heap.size 5 1 (.slice A' (k + 1) c') (k + 1) (bytC (sbL c (k + 1))) from by rw [HS2.out]; exact hown')
      have HB3 := Lib.hid hbb
      clear hbb hown' hgrow
      go_roundw
      case rel => exact ⟨k + 1, A', c', by go_num, by omega, by rw [← HN.out]; first | rfl | (congr 1; omega), rfl, HO3, HB3⟩
      case measure => simp [intOf]; omega
    · obtain rfl : k = 4 := by omega
      have CV := conv_row (Row.own HO.out) (by omega)
      have hz4 : (str (sbL c 4)).size = 4 := by rw [str_size, sbL_len]
      rw [HT.out] at CV hz4
      rw [show ((4 : Nat) : Int) = 4 from rfl]
      go_wp2
      go_ret
      exact ⟨rfl, HBk.out⟩
end Go.Proofs.Ythhpnlobhffimaa
