/- The reference's Mod and Name. -/
import Derived.Test.YthnlldojidocoaaDoorHeap
import Derived.Test.YthnlldojidocoaaDoorCopy
namespace Go.Proofs.YthnlldojidocoaaDoor
open Go.RowKit

def modN (x : Int) (m : Nat) : Nat := ((x.tmod m + m).tmod m).toNat
theorem modN_lt {x : Int} {m : Nat} (h : 0 < m) : modN x m < m := by
  have h1 := Int.lt_tmod_of_pos x (b := m) (by omega)
  have h2 := Int.tmod_lt_of_pos (x.tmod m + m) (b := m) (by omega)
  have h3 := Int.tmod_nonneg (a := x.tmod m + m) m (by omega)
  unfold modN
  omega
theorem modN_eq {x : Int} {m : Nat} (h : 0 < m) : (x.tmod m + m).tmod m = (modN x m : Int) := by
  have h1 := Int.lt_tmod_of_pos x (b := m) (by omega)
  have h3 := Int.tmod_nonneg (a := x.tmod m + m) m (by omega)
  unfold modN
  omega

set_option maxRecDepth 100000 in
theorem mod_any (x : Int) (m : Nat) (w : World) (h0 : 0 < m) (hm : m ≤ 4294967296) : Calls Tryd.prog 40 #[.int .i64 x, .int .i64 m] w fun e w' => e = .returned (.int .i64 (modN x m : Int)) ∧ w = w' := by
  have h1 := Int.lt_tmod_of_pos x (b := m) (by omega)
  have h2 := Int.tmod_lt_of_pos x (b := m) (by omega)
  have h3 := modN_eq (x := x) h0
  have h4 := modN_lt (x := x) h0
  obtain ⟨r, hr⟩ : ∃ r, x.tmod m = r := ⟨_, rfl⟩
  rw [hr] at h1 h2 h3
  have e1 : IntKind.i64.wrap r = r := by simp [IntKind.wrap, IntKind.bits, IntKind.signed]; omega
  have e2 : IntKind.i64.wrap (r + m) = r + m := by simp [IntKind.wrap, IntKind.bits, IntKind.signed]; omega
  have e3 : IntKind.i64.wrap (modN x m : Int) = (modN x m : Int) := by simp [IntKind.wrap, IntKind.bits, IntKind.signed]; omega
  obtain ⟨k, hk⟩ : ∃ k, modN x m = k := ⟨_, rfl⟩
  rw [hk] at h3 e3 ⊢
  have hm0 : ¬ (m : Int) = 0 := by omega
  have hm1 : ((m : Int) == 0) = false := by rw [beq_eq_false_iff_ne]; exact hm0
  have hm2 : ¬ m = 0 := by omega
  clear h4 hk
  go_enter Tryd.func40, Tryd.ntmps40
  go_wp2
  go_ret
  exact ⟨rfl, rfl⟩

def namesL : List ByteArray := [⟨#[97]⟩, ⟨#[98]⟩, ⟨#[99]⟩, ⟨#[100, 46, 116, 120, 116]⟩, ⟨#[66, 85, 73, 76, 68]⟩, ⟨#[122, 45, 57]⟩, ⟨#[65]⟩, ⟨#[95, 120]⟩, ⟨#[]⟩, ⟨#[97, 47, 98]⟩, ⟨#[46, 46]⟩, ⟨#[46]⟩, ⟨#[120, 32, 121]⟩]
theorem namesL_len : namesL.length = 13 := rfl
theorem namesL_size : ∀ x ∈ namesL, x.size ≤ 5 := by decide +kernel
def nameOf (z : Int) : ByteArray := namesL.getD (modN z 13) ⟨#[97]⟩
theorem nameOf_eq (z : Int) (h : modN z 13 < namesL.length) : nameOf z = namesL[modN z 13] := by
  unfold nameOf
  rw [List.getD_eq_getElem?_getD, List.getElem?_eq_getElem h, Option.getD_some]
theorem nameOf_size (z : Int) : (nameOf z).size ≤ 5 := by
  rw [nameOf_eq z (by rw [namesL_len]; exact modN_lt (by omega))]; exact namesL_size _ (List.getElem_mem _)

set_option maxRecDepth 100000 in
theorem name_of (z : Int) (w : World) : Calls Tryd.prog 39 #[.int .i64 z] w (StrB w (nameOf z)) := by
  have hM := mod_any z 13
  have hml := modN_lt (x := z) (m := 13) (by omega)
  have hno := nameOf_eq z hml
  have hF := Full.new w 9 (namesL.map (Value.string ·))
  have hc : (namesL.map (Value.string ·))[modN z 13]? = some (.string (nameOf z)) := by
    rw [List.getElem?_map, List.getElem?_eq_getElem (show modN z 13 < namesL.length from hml), hno]; rfl
  obtain ⟨t, ht⟩ : ∃ t, nameOf z = t := ⟨_, rfl⟩
  obtain ⟨m, hm⟩ : ∃ m, modN z 13 = m := ⟨_, rfl⟩
  rw [hm] at hM hml hc
  rw [ht] at hc ⊢
  have HM := Lib.hid (fun (W : World) => (show Calls Tryd.prog 40 #[.int .i64 z, .int .i64 13] W fun e w' => e = .returned (.int .i64 (m : Int)) ∧ W = w' from hM W (by omega) (by omega)))
  have hm0 : (0 : Int) ≤ (m : Int) := Int.natCast_nonneg _
  have hm1 : (m : Int) < 13 := by omega
  have HC := Lib.hid hc
  clear hM hno hm ht hF hc
  go_enter Tryd.func39, Tryd.ntmps39
  go_wp2_with (first
    | (go_at_call 40; ((with_reducible refine (HM.out _).mono ?_); rintro e w1 ⟨rfl, rfl⟩)))
  go_ret
  obtain ⟨_, e⟩ := List.getElem?_eq_some_iff.1 HC.out
  exact ⟨congrArg Ending.returned e, (Below.refl _ w).alloc (Nat.le_refl _) _⟩
end Go.Proofs.YthnlldojidocoaaDoor
