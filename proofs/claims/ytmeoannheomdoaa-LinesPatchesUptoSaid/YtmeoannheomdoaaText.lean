/- ref.Text, letters, text. -/
import Derived.Test.YtmeoannheomdoaaMerge
import Derived.Test.YtmeoannheomdoaaSame
namespace Go.Proofs.Ytmeoannheomdoaa
open Go.RowKit

/-- the text of lines, without its last byte where cut -/
def textS (L : List ByteArray) (cut : Bool) : ByteArray :=
  if cut = true ∧ 0 < (cat L).length then (str (cat L)).extract 0 ((cat L).length - 1) else str (cat L)
theorem str_of {S : ByteArray} {l : List UInt8} (h : S.data.toList = l) : S = str l := by
  subst h
  rfl
theorem app_data (a b : ByteArray) : (a ++ b).data.toList = a.data.toList ++ b.data.toList := by
  rw [ByteArray.data_append, Array.toList_append]

set_option maxRecDepth 100000 in
set_option maxHeartbeats 1000000 in
theorem text_any (M : Nat) (A : Option Addr) (L : List ByteArray) (c : Nat) (cut : Bool) (w : World) (hA : Strs w M A c L) (hL : L.length ≤ 140737488355328) (hz : (cat L).length ≤ 70368744177664) :
    Calls Try.prog 19 #[.slice A L.length c, .bool cut] w fun e w' => e = .returned (.string (textS L cut)) ∧ w = w' := by
  obtain ⟨R, HR⟩ : ∃ R, Hid (textS L cut = R) := ⟨_, Lib.hid rfl⟩
  rw [HR.out]
  have hcap := hA.cap
  go_enter Try.func19, Try.ntmps19
  go_wp2
  go_loop [5, 6] (fun v5 v6 => ∃ (k : Nat) (S : ByteArray), k ≤ L.length ∧ v6 = .int .i64 k ∧ v5 = .string S ∧ Hid (S.data.toList = cat (L.take k))) (fun _ v6 => L.length - (intOf v6).toNat)
  case atStart => exact ⟨0, ⟨#[]⟩, by omega, rfl, rfl, Lib.hid (by simp [cat])⟩
  case round =>
    obtain ⟨k, S, hk, rfl, rfl, HS⟩ := hrel
    have hi0 : (0 : Int) ≤ (k : Int) := Int.natCast_nonneg _
    by_cases hlt : k < L.length
    · obtain ⟨ad, rfl, hadB, hca⟩ := hA.at_ hlt
      have hi1 : (k : Int) < (L.length : Int) := by omega
      have hct := cat_take hlt
      have hle := cat_take_le L (k + 1)
      obtain ⟨s, Hs⟩ : ∃ s, Hid (L[k] = s) := ⟨_, Lib.hid rfl⟩
      rw [Hs.out] at hca hct
      have hap := app_data S s
      rw [HS.out, ← hct] at hap
      have hsz := congrArg List.length hap
      rw [data_len] at hsz
      have hsz2 : S.size + s.size ≤ 70368744177664 := by rw [ByteArray.size_append] at hsz; omega
      have HAP := Lib.hid hap
      clear hct hap hsz hle
      go_wp2
      go_round
      case rel => exact ⟨k + 1, S ++ s, by omega, by go_num, rfl, HAP⟩
      case measure => simp [intOf]; omega
    · obtain rfl : k = L.length := by omega
      have hS := HS.out
      rw [List.take_length] at hS
      have hsz : S.size = (cat L).length := by rw [← data_len, hS]
      have hsz2 : S.size ≤ 70368744177664 := by omega
      have hR := HR.out
      unfold textS at hR
      rw [← hsz, ← str_of hS] at hR
      clear hsz hS
      cases cut with
      | false =>
        rw [if_neg (by simp)] at hR
        subst hR
        go_wp2
        go_ret
        exact ⟨rfl, rfl⟩
      | true =>
        by_cases h0 : 0 < S.size
        · rw [if_pos ⟨rfl, h0⟩] at hR
          have hi2 : (0 : Int) < (S.size : Int) := by omega
          have e1 : IntKind.i64.wrap ((S.size : Int) - 1) = ((S.size - 1 : Nat) : Int) := by simp [IntKind.wrap, IntKind.bits, IntKind.signed]; omega
          have hi3 : (0 : Int) ≤ ((S.size - 1 : Nat) : Int) := by omega
          have hi4 : ((S.size - 1 : Nat) : Int) ≤ (S.size : Int) := by omega
          have HR2 := Lib.hid hR
          clear hR
          go_wp2
          go_ret
          exact ⟨by rw [← HR2.out]; rfl, rfl⟩
        · rw [if_neg (fun h => h0 h.2)] at hR
          have hi2 : ¬ (0 : Int) < (S.size : Int) := by omega
          subst hR
          go_wp2
          go_ret
          exact ⟨rfl, rfl⟩

/-- the lines of one letter each -/
def letterS (s : ByteArray) (k : Nat) : ByteArray := s.extract k (k + 1) ++ ⟨#[10]⟩
def lettersL (s : ByteArray) : List ByteArray := (List.range s.size).map (letterS s)

set_option maxRecDepth 100000 in
set_option maxHeartbeats 1000000 in
theorem letters_any (s : ByteArray) (w : World) (hs : s.size ≤ 1048576) : Calls Try.prog 35 #[.string s] w (StrsOut w (lettersL s)) := by
  obtain ⟨R, HR⟩ : ∃ R, Hid (lettersL s = R) := ⟨_, Lib.hid rfl⟩
  rw [HR.out]
  obtain ⟨i9, hi, hz0, hz1, hz2⟩ := info_parts info9
  go_enter Try.func35, Try.ntmps35
  go_wp2
  go_loopw [3, 7] (fun v3 v7 wr => ∃ (k : Nat) (L : List ByteArray) (A : Option Addr) (c : Nat), k ≤ s.size ∧ L.length ≤ k ∧ v7 = .int .i64 k ∧ v3 = .slice A L.length c ∧ wr.ownsRow w.heap.size 9 1 (.slice A L.length c) L.length (strC L) ∧
      Hid (L = (List.range k).map (letterS s)) ∧ Below w.heap.size w wr) (fun _ v7 _ => s.size - (intOf v7).toNat)
  case atStart => exact ⟨0, [], none, 0, by omega, by simp, rfl, rfl, World.ownsRow_nil _ _ _ _, Lib.hid rfl, Below.refl _ _⟩
  case round =>
    obtain ⟨k, L, A, c, hk, hLk, rfl, rfl, hown, HL, hB⟩ := hrel
    have hi0 : (0 : Int) ≤ (k : Int) := Int.natCast_nonneg _
    by_cases hlt : k < s.size
    · have hi1 : (k : Int) < (s.size : Int) := by omega
      have hsz : (s.extract k (k + 1)).size = 1 := by simp; omega
      obtain ⟨t, HT⟩ : ∃ t, Hid (s.extract k (k + 1) = t) := ⟨_, Lib.hid rfl⟩
      go_wp2_with (at_builtin; refine wpList_append_own _ rfl _ _ 23 rfl w.heap.size 9 i9 (.string ⟨#[]⟩) 1 16 Try.underlying23 hi hz0 hz1 hz2 rfl (by decide) (.slice A L.length c) _ _ rfl (hown.alloc _) ⟨wr.heap.size, 0, none⟩ 1 1 [.string (letterS s k)] rfl rfl (cell_one_new _ _ _) (by simp [Value.oneCell']) (by unfold maxLen; omega) (by omega) (by have := hB.size; simp; omega) ?_; intro v' w3 hown3 hgrow3 _; obtain ⟨g', cap', rfl⟩ := ownsRow_succ hown3)
      go_roundw
      case rel =>
        refine ⟨k + 1, L ++ [letterS s k], _, cap', by omega, by simp; omega, by go_num, by rw [List.length_append]; rfl, ?_, Lib.hid ?_, (hB.alloc hB.size _).grown hgrow3 (by have := hB.size; simp; omega) (row_ge hown)⟩
        · rw [strC_snoc, List.length_append]; exact hown3
        · rw [List.range_succ, List.map_append, ← HL.out]; rfl
      case measure => simp [intOf]; omega
    · obtain rfl : k = s.size := by omega
      have hR : L = R := HL.out.trans HR.out
      subst hR
      go_wp2
      go_ret
      exact ⟨A, c, rfl, hown, hB⟩

end Go.Proofs.Ytmeoannheomdoaa
