/- spoilt: some string, not too long. -/
import Derived.Test.YtdbikaffmpkgpaaDoorPattern
namespace Go.Proofs.YtdbikaffmpkgpaaDoor
open Go.RowKit

def badParts : List ByteArray := [⟨#[42]⟩, ⟨#[42, 42]⟩, ⟨#[63]⟩, ⟨#[47]⟩, ⟨#[47, 42, 42]⟩, ⟨#[46]⟩, ⟨#[46, 46]⟩, ⟨#[32]⟩, ⟨#[47, 46]⟩, ⟨#[97]⟩]
theorem badParts_size : ∀ x ∈ badParts, x.size ≤ 3 := by decide +kernel
theorem badParts_len : badParts.length = 10 := rfl

set_option maxRecDepth 100000 in
set_option maxHeartbeats 4000000 in
theorem spoilt_any (B : Nat) (A : Option Addr) (zs : List Int) (c : Nat) (q0 q1 q2 : Int) (w : World) (hA : Ints w B A c zs) (hB : B ≤ w.heap.size) (hn : zs.length ≤ maxLen) :
    Calls Tryd.prog 34 #[.slice A zs.length c, .agg #[.int .i64 q0, .int .i64 q1, .int .i64 q2]] w (SomeStr w 120) := by
  have hsz := patternS_size zs
  have HMade := Lib.hid (fun (W : World) (h : Below w.heap.size w W) => pattern_any B A zs c W (Row.below hA h hB) (Nat.le_trans hB h.size) hn)
  obtain ⟨s, HS⟩ : ∃ s, Hid (patternS zs = s) := ⟨_, Lib.hid rfl⟩
  rw [HS.out] at HMade hsz
  obtain ⟨hs1, hs2⟩ := hsz
  have M1 := fun W => mod_any q1 (s.size + 1) W (by omega) (by omega)
  have l1 := modN_lt (x := q1) (m := s.size + 1) (by omega)
  obtain ⟨k, hk⟩ : ∃ k, modN q1 (s.size + 1) = k := ⟨_, rfl⟩
  rw [hk] at M1 l1
  have M2 := fun W => mod_any q2 10 W (by omega) (by omega)
  have l2 := modN_lt (x := q2) (m := 10) (by omega)
  obtain ⟨m, hm⟩ : ∃ m, modN q2 10 = m := ⟨_, rfl⟩
  rw [hm] at M2 l2
  have M3 := fun W => mod_any q0 3 W (by omega) (by omega)
  have l3 := modN_lt (x := q0) (m := 3) (by omega)
  obtain ⟨r, hr⟩ : ∃ r, modN q0 3 = r := ⟨_, rfl⟩
  rw [hr] at M3 l3
  have m2' : m < badParts.length := l2
  obtain ⟨x, hx⟩ : ∃ x, badParts[m] = x := ⟨_, rfl⟩
  have hx3 : x.size ≤ 3 := by rw [← hx]; exact badParts_size _ (List.getElem_mem _)
  have hcell : ∀ W : World, (W.alloc (.cells (strC badParts).toArray 9)).cell? ⟨W.heap.size, m, none⟩ = some (.string x) := fun W => by
    rw [(Full.new W 9 (strC badParts)).cell]
    unfold strC
    rw [List.getElem?_map, List.getElem?_eq_getElem m2', hx]; rfl
  have HM1 := Lib.hid (show ∀ W, Calls Tryd.prog 19 #[.int .i64 q1, .int .i64 ((s.size : Int) + 1)] W fun e w' => e = .returned (.int .i64 (k : Int)) ∧ W = w' from M1)
  have HM2 := Lib.hid (show ∀ W, Calls Tryd.prog 19 #[.int .i64 q2, .int .i64 10] W fun e w' => e = .returned (.int .i64 (m : Int)) ∧ W = w' from M2)
  have HM3 := Lib.hid (show ∀ W, Calls Tryd.prog 19 #[.int .i64 q0, .int .i64 3] W fun e w' => e = .returned (.int .i64 (r : Int)) ∧ W = w' from M3)
  have hcell2 : ∀ W : World, (W.alloc (.cells #[Value.string ⟨#[42]⟩, Value.string ⟨#[42, 42]⟩, Value.string ⟨#[63]⟩, Value.string ⟨#[47]⟩, Value.string ⟨#[47, 42, 42]⟩, Value.string ⟨#[46]⟩, Value.string ⟨#[46, 46]⟩, Value.string ⟨#[32]⟩, Value.string ⟨#[47, 46]⟩, Value.string ⟨#[97]⟩] 9)).cell? ⟨W.heap.size, m, none⟩ = some (.string x) := hcell
  have hfar : ∀ W : World, w.heap.size < W.heap.size → ∀ i v, W.cell? ⟨w.heap.size, i, none⟩ = some v → (W.alloc (.cells #[Value.string ⟨#[42]⟩, Value.string ⟨#[42, 42]⟩, Value.string ⟨#[63]⟩, Value.string ⟨#[47]⟩, Value.string ⟨#[47, 42, 42]⟩, Value.string ⟨#[46]⟩, Value.string ⟨#[46, 46]⟩, Value.string ⟨#[32]⟩, Value.string ⟨#[47, 46]⟩, Value.string ⟨#[97]⟩] 9)).cell? ⟨w.heap.size, i, none⟩ = some v := fun W h i v e => (World.cell?_alloc_lt W _ ⟨w.heap.size, i, none⟩ h).trans e
  have HFA := Lib.hid hfar
  have hm0 : (0 : Int) ≤ (m : Int) := Int.natCast_nonneg _
  have hm1 : (m : Int) < 10 := by omega
  have hk0 : (0 : Int) ≤ (k : Int) := Int.natCast_nonneg _
  have hk1 : (k : Int) ≤ (s.size : Int) := by omega
  have ew : IntKind.i64.wrap ((s.size : Int) + 1) = (s.size : Int) + 1 := by simp [IntKind.wrap, IntKind.bits, IntKind.signed]; omega
  clear hk hm hr M1 M2 M3 hx hcell m2' hs1 hfar
  have b1 := ext_le s 0 k
  have b3 := ext_le s k s.size
  have HB4 := Lib.hid (And.intro b1 b3)
  clear b1 b3 l3
  by_cases hr0 : r = 0
  · have hr1 : ((r : Int) == 0) = true := by rw [hr0]; rfl
    go_enter Tryd.func34, Tryd.ntmps34
    go_wp2_with (first
      | (go_at_call 36; (with_reducible refine (HMade.out _ ?_).mono ?_); exact (Below.refl _ w).alloc (Nat.le_refl _) _; rintro e w1 ⟨rfl, hb⟩; (have hF := (Full.new w 23 [.int .i64 q0, .int .i64 q1, .int .i64 q2]).on hb); (have t0 : w1.cell? ⟨w.heap.size, 0, none⟩ = some (.int .i64 q0) := hF.cell 0); (have t1 : w1.cell? ⟨w.heap.size, 1, none⟩ = some (.int .i64 q1) := hF.cell 1); (have t2 : w1.cell? ⟨w.heap.size, 2, none⟩ = some (.int .i64 q2) := hF.cell 2); (have u0 := HFA.out w1 hF.lt 0 _ t0); (have u2 := HFA.out w1 hF.lt 2 _ t2); (have HB := Lib.hid hb); clear hF hb)
      | (go_at_call 19; ((with_reducible refine (HM1.out _).mono ?_); rintro e w2 ⟨rfl, rfl⟩))
      | (go_at_call 19; ((with_reducible refine (HM2.out _).mono ?_); rintro e w2 ⟨rfl, rfl⟩))
      | (go_at_call 19; ((with_reducible refine (HM3.out _).mono ?_); rintro e w2 ⟨rfl, rfl⟩)))
    go_ret
    exact ⟨_, rfl, by omega, (Below.then_ ((Below.refl _ w).alloc (Nat.le_refl _) _) HB.out).alloc (Below.then_ ((Below.refl _ w).alloc (Nat.le_refl _) _) HB.out).size _⟩
  · have hr1 : ((r : Int) == 0) = false := by rw [beq_eq_false_iff_ne]; omega
    have hr2 : ¬ (r : Int) = 0 := by omega
    go_enter Tryd.func34, Tryd.ntmps34
    go_wp2_with (first
      | (go_at_call 36; (with_reducible refine (HMade.out _ ?_).mono ?_); exact (Below.refl _ w).alloc (Nat.le_refl _) _; rintro e w1 ⟨rfl, hb⟩; (have hF := (Full.new w 23 [.int .i64 q0, .int .i64 q1, .int .i64 q2]).on hb); (have t0 : w1.cell? ⟨w.heap.size, 0, none⟩ = some (.int .i64 q0) := hF.cell 0); (have t1 : w1.cell? ⟨w.heap.size, 1, none⟩ = some (.int .i64 q1) := hF.cell 1); (have t2 : w1.cell? ⟨w.heap.size, 2, none⟩ = some (.int .i64 q2) := hF.cell 2); (have u0 := HFA.out w1 hF.lt 0 _ t0); (have u2 := HFA.out w1 hF.lt 2 _ t2); (have HB := Lib.hid hb); clear hF hb)
      | (go_at_call 19; ((with_reducible refine (HM1.out _).mono ?_); rintro e w2 ⟨rfl, rfl⟩))
      | (go_at_call 19; ((with_reducible refine (HM2.out _).mono ?_); rintro e w2 ⟨rfl, rfl⟩))
      | (go_at_call 19; ((with_reducible refine (HM3.out _).mono ?_); rintro e w2 ⟨rfl, rfl⟩)))
    go_quiet (fail)
    go_wp2_with fail
    go_ret
    refine ⟨_, rfl, ?_, Below.drewN_ ((Below.then_ ((Below.refl _ w).alloc (Nat.le_refl _) _) HB.out).alloc (Below.then_ ((Below.refl _ w).alloc (Nat.le_refl _) _) HB.out).size _) _⟩
    obtain ⟨b1, b3⟩ := HB4.out
    clear HB4
    rw [ByteArray.size_append, ByteArray.size_append]
    omega

end Go.Proofs.YtdbikaffmpkgpaaDoor
