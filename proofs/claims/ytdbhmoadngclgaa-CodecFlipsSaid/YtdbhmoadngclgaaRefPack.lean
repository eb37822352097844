/- Pack, the reference's. -/
import Derived.Deep.RegionHeld3
import Derived.Test.YtdbhmoadngclgaaStrs
namespace Go.Proofs.Ytdbhmoadngclgaa
open Go.RowKit

set_option maxRecDepth 100000 in
set_option maxHeartbeats 1000000 in
theorem refPack_any (A : Option Addr) (l : List ByteArray) (c : Nat) (w : World) (hS : Strs w w.heap.size A l) (hcap : l.length ≤ c) (hl : l.length ≤ maxLen) (hz : ∀ s ∈ l, s.size ≤ maxLen)
    (hbig : (pack l).length ≤ 70368744177664) :
    Calls Try.prog 30 #[.slice A l.length c] w fun e w' => e = .returned (.string (str (pack l))) ∧ Below w.heap.size w w' := by
  unfold maxLen at hl
  go_enter Try.func30, Try.ntmps30
  go_wp2_with (first
    | (go_at_call 20; refine (refNumber l.length (by omega) _).mono ?_; rintro e w1 ⟨rfl, hb1⟩))
  go_loopw [3, 4] (fun v j wr => ∃ (k : Nat) (x : ByteArray), k ≤ l.length ∧ j = .int .i64 k ∧ v = .string x ∧ Hid (x = str (pk k l)) ∧ Below w.heap.size w wr) (fun _ j _ => l.length - (intOf j).toNat)
  case atStart => exact ⟨0, _, Nat.zero_le _, rfl, rfl, Lib.hid (by simp [pk]), hb1⟩
  case round =>
    obtain ⟨k, x, hk, rfl, rfl, HX, hB⟩ := hrel
    by_cases hlt : k < l.length
    · have hls : l[k]? = some l[k] := List.getElem?_eq_getElem hlt
      obtain ⟨s, hs⟩ : ∃ s, s = l[k] := ⟨_, rfl⟩
      rw [← hs] at hls
      obtain ⟨ad, rfl, hlt2, hcell0⟩ := hS k s hls
      have hcell : wr.cell? (ad.add k) = some (.string s) := (hB.cell (p := ad.add k) (by rw [add_block]; exact hlt2)).trans hcell0
      have hab : (ad.add k).block < wr.heap.size := by rw [add_block]; have := hB.size; omega
      have hsz : s.size ≤ maxLen := hz s (by rw [hs]; exact List.getElem_mem _)
      unfold maxLen at hsz
      have HS := Lib.hid (pk_succ hls)
      have hpl2 := pk_le (l := l) (k := k + 1) (by omega)
      rw [HS.out, List.length_append] at hpl2
      have hxz : x.size = (pk k l).length := by rw [HX.out, str_size]
      have hnum := fun W => refNumber s.size (by omega) W
      obtain ⟨y, HY⟩ : ∃ y, Hid (str (numL s.size) = y) := ⟨_, Lib.hid rfl⟩
      rw [HY.out] at hnum
      have hyz : y.size = (numL s.size).length := by rw [← HY.out, str_size]
      unfold one at hpl2
      rw [List.length_append, ← hxz, ← hyz] at hpl2
      have hdl : s.data.toList.length = s.size := by simp
      rw [hdl] at hpl2
      have g1 : x.size + y.size ≤ 9223372036854775807 := by omega
      have g2 : ¬ (9223372036854775807 < x.size + y.size) := by omega
      have g3 : decide (9223372036854775807 < x.size + y.size) = false := by simpa using g2
      have g4 : x.size + y.size + s.size ≤ 9223372036854775807 := by omega
      have g5 : ¬ (9223372036854775807 < x.size + y.size + s.size) := by omega
      have g6 : decide (9223372036854775807 < x.size + y.size + s.size) = false := by simpa using g5
      have e1 : IntKind.u64.wrap (s.size : Int) = (s.size : Int) := by simp [IntKind.wrap, IntKind.bits, IntKind.signed]; omega
      have hi0 : (0 : Int) ≤ (k : Int) := Int.natCast_nonneg _
      have hi1 : (k : Int) < (l.length : Int) := by omega
      clear hls hs hpl2 hdl hcell0 hlt2 hxz hyz
      go_wp2_with fail
      go_region_held3 (fun w' => w'.cell? (ad.add k) = some (.string s))
        (first | go_keep | (rw [hb.cell hab']; assumption))
        ((go_at_call 20; refine (hnum _).mono ?_; rintro e w1 ⟨rfl, hb⟩; have hab' := hab; have hb' := hb))
      go_wp2
      go_roundw
      case rel =>
        refine ⟨k + 1, _, by omega, by go_num, rfl, Lib.hid ?_, hB.drew.trans (hb.mono (by have := hB.size; simpa using this))⟩
        rw [HS.out, ← HY.out, HX.out, str_append, show s = str s.data.toList from str_eq rfl, str_append]
        rw [one, List.append_assoc]
        rfl
      case measure => simp [intOf]; omega
    · obtain rfl : k = l.length := by omega
      rw [pk_all] at HX
      go_wp2
      go_ret
      exact ⟨by rw [HX.out]; rfl, hB⟩

end Go.Proofs.Ytdbhmoadngclgaa
