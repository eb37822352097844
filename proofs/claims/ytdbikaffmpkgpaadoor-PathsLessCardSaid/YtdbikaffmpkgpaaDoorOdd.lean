/- odd: some string, not too long. -/
import Derived.Test.YtdbikaffmpkgpaaDoorMade
namespace Go.Proofs.YtdbikaffmpkgpaaDoor
open Go.RowKit

def oddParts : List ByteArray := [⟨#[47]⟩, ⟨#[47, 47]⟩, ⟨#[46]⟩, ⟨#[46, 46]⟩, ⟨#[47, 46, 46]⟩, ⟨#[47, 46]⟩, ⟨#[42]⟩, ⟨#[32]⟩, ⟨#[128]⟩, ⟨#[65]⟩, ⟨#[45]⟩, ⟨#[47, 97]⟩]
theorem oddParts_size : ∀ x ∈ oddParts, x.size ≤ 3 := by decide +kernel
theorem oddParts_len : oddParts.length = 12 := rfl
/-- it returned some string of at most n bytes -/
def SomeStr (w : World) (n : Nat) (e : Ending) (w' : World) : Prop := ∃ x : ByteArray, e = .returned (.string x) ∧ x.size ≤ n ∧ Below w.heap.size w w'
theorem ext_le (s : ByteArray) (a b : Nat) : (s.extract a b).size ≤ s.size := by rw [ByteArray.size_extract]; omega

set_option maxRecDepth 100000 in
set_option maxHeartbeats 4000000 in
theorem odd_any (B : Nat) (A : Option Addr) (zs : List Int) (c : Nat) (q0 q1 q2 : Int) (w : World) (hA : Ints w B A c zs) (hB : B ≤ w.heap.size) (hn : zs.length ≤ maxLen) :
    Calls Tryd.prog 15 #[.slice A zs.length c, .agg #[.int .i64 q0, .int .i64 q1, .int .i64 q2]] w (SomeStr w 120) := by
  have hsz := madeS_size zs
  have HMade := Lib.hid (fun (W : World) (h : Below w.heap.size w W) => made_any B A zs c W (Row.below hA h hB) (Nat.le_trans hB h.size) hn)
  obtain ⟨s, HS⟩ : ∃ s, Hid (madeS zs = s) := ⟨_, Lib.hid rfl⟩
  rw [HS.out] at HMade hsz
  obtain ⟨hs1, hs2⟩ := hsz
  have M1 := fun W => mod_any q1 s.size W hs1 (by omega)
  have l1 := modN_lt (x := q1) hs1
  obtain ⟨k, hk⟩ : ∃ k, modN q1 s.size = k := ⟨_, rfl⟩
  rw [hk] at M1 l1
  have M2 := fun W => mod_any q2 12 W (by omega) (by omega)
  have l2 := modN_lt (x := q2) (m := 12) (by omega)
  obtain ⟨m, hm⟩ : ∃ m, modN q2 12 = m := ⟨_, rfl⟩
  rw [hm] at M2 l2
  have M3 := fun W => mod_any q0 4 W (by omega) (by omega)
  have l3 := modN_lt (x := q0) (m := 4) (by omega)
  obtain ⟨r, hr⟩ : ∃ r, modN q0 4 = r := ⟨_, rfl⟩
  rw [hr] at M3 l3
  have m2' : m < oddParts.length := l2
  obtain ⟨x, hx⟩ : ∃ x, oddParts[m] = x := ⟨_, rfl⟩
  have hx3 : x.size ≤ 3 := by rw [← hx]; exact oddParts_size _ (List.getElem_mem _)
  have hcell : ∀ W : World, (W.alloc (.cells (strC oddParts).toArray 9)).cell? ⟨W.heap.size, m, none⟩ = some (.string x) := fun W => by
    rw [(Full.new W 9 (strC oddParts)).cell]
    unfold strC
    rw [List.getElem?_map, List.getElem?_eq_getElem m2', hx]; rfl
  have HM1 := Lib.hid M1
  have HM2 := Lib.hid (show ∀ W, Calls Tryd.prog 19 #[.int .i64 q2, .int .i64 12] W fun e w' => e = .returned (.int .i64 (m : Int)) ∧ W = w' from M2)
  have HM3 := Lib.hid (show ∀ W, Calls Tryd.prog 19 #[.int .i64 q0, .int .i64 4] W fun e w' => e = .returned (.int .i64 (r : Int)) ∧ W = w' from M3)
  have hcell2 : ∀ W : World, (W.alloc (.cells #[Value.string ⟨#[47]⟩, Value.string ⟨#[47, 47]⟩, Value.string ⟨#[46]⟩, Value.string ⟨#[46, 46]⟩, Value.string ⟨#[47, 46, 46]⟩, Value.string ⟨#[47, 46]⟩, Value.string ⟨#[42]⟩, Value.string ⟨#[32]⟩, Value.string ⟨#[128]⟩, Value.string ⟨#[65]⟩, Value.string ⟨#[45]⟩, Value.string ⟨#[47, 97]⟩] 9)).cell? ⟨W.heap.size, m, none⟩ = some (.string x) := hcell
  have hfar : ∀ W : World, w.heap.size < W.heap.size → ∀ i v, W.cell? ⟨w.heap.size, i, none⟩ = some v → (W.alloc (.cells #[Value.string ⟨#[47]⟩, Value.string ⟨#[47, 47]⟩, Value.string ⟨#[46]⟩, Value.string ⟨#[46, 46]⟩, Value.string ⟨#[47, 46, 46]⟩, Value.string ⟨#[47, 46]⟩, Value.string ⟨#[42]⟩, Value.string ⟨#[32]⟩, Value.string ⟨#[128]⟩, Value.string ⟨#[65]⟩, Value.string ⟨#[45]⟩, Value.string ⟨#[47, 97]⟩] 9)).cell? ⟨w.heap.size, i, none⟩ = some v := fun W h i v e => (World.cell?_alloc_lt W _ ⟨w.heap.size, i, none⟩ h).trans e
  have HFA := Lib.hid hfar
  have hm0 : (0 : Int) ≤ (m : Int) := Int.natCast_nonneg _
  have hm1 : (m : Int) < 12 := by omega
  have hk0 : (0 : Int) ≤ (k : Int) := Int.natCast_nonneg _
  have hk1 : (k : Int) ≤ (s.size : Int) := by omega
  have hk2 : (k : Int) + 1 ≤ (s.size : Int) := by omega
  have ew : IntKind.i64.wrap ((k : Int) + 1) = (k : Int) + 1 := by simp [IntKind.wrap, IntKind.bits, IntKind.signed]; omega
  clear hk hm hr M1 M2 M3 hx hcell m2' hs1 hfar
  have b1 := ext_le s 0 k
  have b2 := ext_le s (k + 1) s.size
  have b3 := ext_le s k s.size
  have HB4 := Lib.hid (And.intro b1 (And.intro b2 b3))
  have hr4 : r = 0 ∨ r = 1 ∨ r = 2 ∨ r = 3 := by omega
  clear b1 b2 b3 l3
  rcases hr4 with rfl | rfl | rfl | rfl
  · go_enter Tryd.func15, Tryd.ntmps15
    go_wp2_with (first
      | (go_at_call 18; (with_reducible refine (HMade.out _ ?_).mono ?_); exact (Below.refl _ w).alloc (Nat.le_refl _) _; rintro e w1 ⟨rfl, hb⟩; (have hF := (Full.new w 23 [.int .i64 q0, .int .i64 q1, .int .i64 q2]).on hb); (have t0 : w1.cell? ⟨w.heap.size, 0, none⟩ = some (.int .i64 q0) := hF.cell 0); (have t1 : w1.cell? ⟨w.heap.size, 1, none⟩ = some (.int .i64 q1) := hF.cell 1); (have t2 : w1.cell? ⟨w.heap.size, 2, none⟩ = some (.int .i64 q2) := hF.cell 2); (have u0 := HFA.out w1 hF.lt 0 _ t0); (have u2 := HFA.out w1 hF.lt 2 _ t2); (have HB := Lib.hid hb); clear hF hb)
      | (go_at_call 19; ((with_reducible refine (HM1.out _).mono ?_); rintro e w2 ⟨rfl, rfl⟩))
      | (go_at_call 19; ((with_reducible refine (HM2.out _).mono ?_); rintro e w2 ⟨rfl, rfl⟩))
      | (go_at_call 19; ((with_reducible refine (HM3.out _).mono ?_); rintro e w2 ⟨rfl, rfl⟩)))
    go_quiet (fail)
    go_wp2_with fail
    go_ret
    refine ⟨_, rfl, ?_, Below.drewN_ ((Below.then_ ((Below.refl _ w).alloc (Nat.le_refl _) _) HB.out).alloc (Below.then_ ((Below.refl _ w).alloc (Nat.le_refl _) _) HB.out).size _) _⟩
    obtain ⟨b1, b2, b3⟩ := HB4.out
    clear HB4
    try rw [ByteArray.size_append]
    try rw [ByteArray.size_append]
    omega
  · go_enter Tryd.func15, Tryd.ntmps15
    go_wp2_with (first
      | (go_at_call 18; (with_reducible refine (HMade.out _ ?_).mono ?_); exact (Below.refl _ w).alloc (Nat.le_refl _) _; rintro e w1 ⟨rfl, hb⟩; (have hF := (Full.new w 23 [.int .i64 q0, .int .i64 q1, .int .i64 q2]).on hb); (have t0 : w1.cell? ⟨w.heap.size, 0, none⟩ = some (.int .i64 q0) := hF.cell 0); (have t1 : w1.cell? ⟨w.heap.size, 1, none⟩ = some (.int .i64 q1) := hF.cell 1); (have t2 : w1.cell? ⟨w.heap.size, 2, none⟩ = some (.int .i64 q2) := hF.cell 2); (have u0 := HFA.out w1 hF.lt 0 _ t0); (have u2 := HFA.out w1 hF.lt 2 _ t2); (have HB := Lib.hid hb); clear hF hb)
      | (go_at_call 19; ((with_reducible refine (HM1.out _).mono ?_); rintro e w2 ⟨rfl, rfl⟩))
      | (go_at_call 19; ((with_reducible refine (HM2.out _).mono ?_); rintro e w2 ⟨rfl, rfl⟩))
      | (go_at_call 19; ((with_reducible refine (HM3.out _).mono ?_); rintro e w2 ⟨rfl, rfl⟩)))
    go_quiet (fail)
    go_wp2_with fail
    go_ret
    refine ⟨_, rfl, ?_, Below.drewN_ ((Below.then_ ((Below.refl _ w).alloc (Nat.le_refl _) _) HB.out).alloc (Below.then_ ((Below.refl _ w).alloc (Nat.le_refl _) _) HB.out).size _) _⟩
    obtain ⟨b1, b2, b3⟩ := HB4.out
    clear HB4
    try rw [ByteArray.size_append]
    try rw [ByteArray.size_append]
    omega
  · go_enter Tryd.func15, Tryd.ntmps15
    go_wp2_with (first
      | (go_at_call 18; (with_reducible refine (HMade.out _ ?_).mono ?_); exact (Below.refl _ w).alloc (Nat.le_refl _) _; rintro e w1 ⟨rfl, hb⟩; (have hF := (Full.new w 23 [.int .i64 q0, .int .i64 q1, .int .i64 q2]).on hb); (have t0 : w1.cell? ⟨w.heap.size, 0, none⟩ = some (.int .i64 q0) := hF.cell 0); (have t1 : w1.cell? ⟨w.heap.size, 1, none⟩ = some (.int .i64 q1) := hF.cell 1); (have t2 : w1.cell? ⟨w.heap.size, 2, none⟩ = some (.int .i64 q2) := hF.cell 2); (have u0 := HFA.out w1 hF.lt 0 _ t0); (have u2 := HFA.out w1 hF.lt 2 _ t2); (have HB := Lib.hid hb); clear hF hb)
      | (go_at_call 19; ((with_reducible refine (HM1.out _).mono ?_); rintro e w2 ⟨rfl, rfl⟩))
      | (go_at_call 19; ((with_reducible refine (HM2.out _).mono ?_); rintro e w2 ⟨rfl, rfl⟩))
      | (go_at_call 19; ((with_reducible refine (HM3.out _).mono ?_); rintro e w2 ⟨rfl, rfl⟩)))
    go_ret
    refine ⟨_, rfl, ?_, (Below.then_ ((Below.refl _ w).alloc (Nat.le_refl _) _) HB.out).alloc (Below.then_ ((Below.refl _ w).alloc (Nat.le_refl _) _) HB.out).size _⟩
    obtain ⟨b1, b2, b3⟩ := HB4.out
    clear HB4
    try rw [ByteArray.size_append]
    try rw [ByteArray.size_append]
    omega
  · go_enter Tryd.func15, Tryd.ntmps15
    go_wp2_with (first
      | (go_at_call 18; (with_reducible refine (HMade.out _ ?_).mono ?_); exact (Below.refl _ w).alloc (Nat.le_refl _) _; rintro e w1 ⟨rfl, hb⟩; (have hF := (Full.new w 23 [.int .i64 q0, .int .i64 q1, .int .i64 q2]).on hb); (have t0 : w1.cell? ⟨w.heap.size, 0, none⟩ = some (.int .i64 q0) := hF.cell 0); (have t1 : w1.cell? ⟨w.heap.size, 1, none⟩ = some (.int .i64 q1) := hF.cell 1); (have t2 : w1.cell? ⟨w.heap.size, 2, none⟩ = some (.int .i64 q2) := hF.cell 2); (have u0 := HFA.out w1 hF.lt 0 _ t0); (have u2 := HFA.out w1 hF.lt 2 _ t2); (have HB := Lib.hid hb); clear hF hb)
      | (go_at_call 19; ((with_reducible refine (HM1.out _).mono ?_); rintro e w2 ⟨rfl, rfl⟩))
      | (go_at_call 19; ((with_reducible refine (HM2.out _).mono ?_); rintro e w2 ⟨rfl, rfl⟩))
      | (go_at_call 19; ((with_reducible refine (HM3.out _).mono ?_); rintro e w2 ⟨rfl, rfl⟩)))
    go_ret
    refine ⟨_, rfl, ?_, (Below.then_ ((Below.refl _ w).alloc (Nat.le_refl _) _) HB.out).alloc (Below.then_ ((Below.refl _ w).alloc (Nat.le_refl _) _) HB.out).size _⟩
    obtain ⟨b1, b2, b3⟩ := HB4.out
    clear HB4
    try rw [ByteArray.size_append]
    try rw [ByteArray.size_append]
    omega

end Go.Proofs.YtdbikaffmpkgpaaDoor
