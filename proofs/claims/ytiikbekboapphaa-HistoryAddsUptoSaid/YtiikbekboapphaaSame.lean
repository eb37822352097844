/- The reference's Same, of equal commits; its New. -/
import Derived.Test.YtiikbekboapphaaInts
namespace Go.Proofs.Ytiikbekboapphaa
set_option maxRecDepth 100000
open Go.RowKit
set_option maxHeartbeats 4000000 in
theorem same_any {w : World} {B n1 c1 n2 c2 c3 c4 : Nat} {A1 A2 A3 A4 : Option Addr} {ps ch : List Int} {t : Int} {au : ByteArray} {em : Bool} (h1 : Row w B 1 A1 n1 c1 (intC ps)) (h2 : Row w B 1 A2 n2 c2 (intC ch)) (h3 : Row w B 1 A3 n1 c3 (intC ps)) (h4 : Row w B 1 A4 n2 c4 (intC ch)) (hB : B ≤ w.heap.size) (hn1 : n1 ≤ 1099511627776) (hn2 : n2 ≤ 1099511627776) :
    Calls Try.prog 22 #[.agg #[.slice A1 n1 c1, .int .i64 t, .string au, .slice A2 n2 c2, .bool em], .agg #[.slice A3 n1 c3, .int .i64 t, .string au, .slice A4 n2 c4, .bool em]] w (BoolB w true) := by
  unfold BoolB
  obtain ⟨w1, hw1⟩ : ∃ w1, (w.alloc (.cells #[.slice A1 n1 c1, .int .i64 t, .string au, .slice A2 n2 c2, .bool em] 25)).alloc (.cells #[.slice A3 n1 c3, .int .i64 t, .string au, .slice A4 n2 c4, .bool em] 25) = w1 := ⟨_, rfl⟩
  have hb1 : Below w.heap.size w w1 := by rw [← hw1]; exact ((Below.refl _ w).alloc (Nat.le_refl _) _).alloc (by simp) _
  have K1 : Full w1 w.heap.size 25 [.slice A1 n1 c1, .int .i64 t, .string au, .slice A2 n2 c2, .bool em] := by
    rw [← hw1]
    exact (Full.new w 25 [.slice A1 n1 c1, .int .i64 t, .string au, .slice A2 n2 c2, .bool em]).alloc _
  have K2 : Full w1 (w.heap.size + 1) 25 [.slice A3 n1 c3, .int .i64 t, .string au, .slice A4 n2 c4, .bool em] := by
    rw [← hw1]
    have := Full.new (w.alloc (.cells #[.slice A1 n1 c1, .int .i64 t, .string au, .slice A2 n2 c2, .bool em] 25)) 25 [.slice A3 n1 c3, .int .i64 t, .string au, .slice A4 n2 c4, .bool em]
    rwa [World.size_alloc] at this
  have I1 := Lib.hid (ints_any (w := w1) (Row.below h1 hb1 hB) (Row.below h3 hb1 hB) hn1 hn1)
  have I2 := Lib.hid (fun q : Nat => ints_any (w := w1.drewN q) (Row.below h2 (Below.drewN_ hb1 q) hB) (Row.below h4 (Below.drewN_ hb1 q) hB) hn2 hn2)
  have et1 : decide (ps = ps) = true := by simp
  have et2 : decide (ch = ch) = true := by simp
  rw [et1] at I1
  rw [et2] at I2
  unfold QBool at I1 I2
  have k0 : w1.cell? ⟨w.heap.size, 0, none⟩ = some (.slice A1 n1 c1) := K1.cell 0
  have l0 : w1.cell? ⟨w.heap.size + 1, 0, none⟩ = some (.slice A3 n1 c3) := K2.cell 0
  have HK1 := Lib.hid K1
  have HK2 := Lib.hid K2
  have HB1 := Lib.hid hb1
  have ht : (t == t) = true := by simp
  have he : (em == em) = true := by simp
  clear h1 h2 h3 h4 K1 K2 hb1 et1 et2
  go_enter Try.func22, Try.ntmps22
  go_upto_region 1 with fail
  clear hw1
  go_wp2_with (first
    | (go_at_call 30; ((with_reducible refine I1.out.mono ?_); rintro e w2 ⟨rfl, q, rfl⟩; (have k3 : (w1.drewN q).cell? ⟨w.heap.size, 3, none⟩ = some (.slice A2 n2 c2) := HK1.out.cell 3); (have l3 : (w1.drewN q).cell? ⟨w.heap.size + 1, 3, none⟩ = some (.slice A4 n2 c4) := HK2.out.cell 3)))
    | (go_at_call 30; ((with_reducible refine (I2.out q).mono ?_); rintro e w3 ⟨rfl, q2, rfl⟩; (have a1 : (w1.drewN (q + q2)).cell? ⟨w.heap.size, 1, none⟩ = some (.int .i64 t) := HK1.out.cell 1); (have a2 : (w1.drewN (q + q2)).cell? ⟨w.heap.size, 2, none⟩ = some (.string au) := HK1.out.cell 2); (have a4 : (w1.drewN (q + q2)).cell? ⟨w.heap.size, 4, none⟩ = some (.bool em) := HK1.out.cell 4); (have b1 : (w1.drewN (q + q2)).cell? ⟨w.heap.size + 1, 1, none⟩ = some (.int .i64 t) := HK2.out.cell 1); (have b2 : (w1.drewN (q + q2)).cell? ⟨w.heap.size + 1, 2, none⟩ = some (.string au) := HK2.out.cell 2); (have b4 : (w1.drewN (q + q2)).cell? ⟨w.heap.size + 1, 4, none⟩ = some (.bool em) := HK2.out.cell 4)))
    | (fail "arm"))
  go_ret
  exact ⟨rfl, Below.drewN_ HB1.out _⟩
def RNewOut (w : World) (t : Int) (e : Ending) (w' : World) : Prop :=
  ∃ p F, e = .returned (.pointer (some ⟨p, 0, none⟩)) ∧ IsR w.heap.size w' p [⟨[], t, ⟨#[]⟩, [], false⟩] F ∧ (∀ g, F g → w.heap.size ≤ g) ∧ Below w.heap.size w w'
theorem refNew_any (w : World) (t : Int) : Calls Try.prog 36 #[.int .i64 t] w (RNewOut w t) := by
  unfold RNewOut
  go_enter Try.func36, Try.ntmps36
  go_wp2
  go_ret
  have f1 := Full.new w 25 [.slice none 0 0, .int .i64 t, .string ⟨#[]⟩, .slice none 0 0, .bool false]
  obtain ⟨w1, hw1⟩ : ∃ w1, w.alloc (.cells [.slice none 0 0, .int .i64 t, .string ⟨#[]⟩, .slice none 0 0, .bool false].toArray 25) = w1 := ⟨_, rfl⟩
  have hb1 : Below w.heap.size w w1 := by rw [← hw1]; exact (Below.refl _ w).alloc (Nat.le_refl _) _
  have s1 : w1.heap.size = w.heap.size + 1 := by rw [← hw1]; simp
  have f2 := Full.new w1 4 [.bool true]
  obtain ⟨w2, hw2⟩ : ∃ w2, w1.alloc (.cells [.bool true].toArray 4) = w2 := ⟨_, rfl⟩
  have hb2 : Below w.heap.size w w2 := by rw [← hw2]; exact hb1.alloc hb1.size _
  have s2 : w2.heap.size = w.heap.size + 2 := by rw [← hw2]; simp [s1]
  have f3 := Full.new w2 64 [.slice (some ⟨w.heap.size + 1, 0, none⟩) 1 1]
  obtain ⟨w3, hw3⟩ : ∃ w3, w2.alloc (.cells [.slice (some ⟨w.heap.size + 1, 0, none⟩) 1 1].toArray 64) = w3 := ⟨_, rfl⟩
  have hb3 : Below w.heap.size w w3 := by rw [← hw3]; exact hb2.alloc hb2.size _
  have s3 : w3.heap.size = w.heap.size + 3 := by rw [← hw3]; simp [s2]
  have f4 := Full.new w3 67 [.slice (some ⟨w.heap.size, 0, none⟩) 1 1, .slice (some ⟨w.heap.size + 2, 0, none⟩) 1 1]
  obtain ⟨w4, hw4⟩ : ∃ w4, w3.alloc (.cells [.slice (some ⟨w.heap.size, 0, none⟩) 1 1, .slice (some ⟨w.heap.size + 2, 0, none⟩) 1 1].toArray 67) = w4 := ⟨_, rfl⟩
  have hb4 : Below w.heap.size w w4 := by rw [← hw4]; exact hb3.alloc hb3.size _
  have g1 : Full w4 w.heap.size 25 [.slice none 0 0, .int .i64 t, .string ⟨#[]⟩, .slice none 0 0, .bool false] := by
    rw [hw1] at f1
    rw [← hw4, ← hw3, ← hw2]
    exact ((f1.alloc _).alloc _).alloc _
  have g2 : Full w4 (w.heap.size + 1) 4 [.bool true] := by
    rw [hw2, s1] at f2
    rw [← hw4, ← hw3]
    exact (f2.alloc _).alloc _
  have g3 : Full w4 (w.heap.size + 2) 64 [.slice (some ⟨w.heap.size + 1, 0, none⟩) 1 1] := by
    rw [hw3, s2] at f3
    rw [← hw4]
    exact f3.alloc _
  rw [hw4, s3] at f4
  have hfin : IsR w.heap.size w4 (w.heap.size + 3) [⟨[], t, ⟨#[]⟩, [], false⟩] (fun g => w.heap.size ≤ g ∧ g ≤ w.heap.size + 3) := by
    refine ⟨.slice (some ⟨w.heap.size, 0, none⟩) 1 1, .slice (some ⟨w.heap.size + 2, 0, none⟩) 1 1, fun g => g = w.heap.size + 1, ?_⟩
    exact {
      full := f4
      obs := ⟨[(.slice none 0 0, .slice none 0 0)], rfl, own_full g1 rfl (by simp [maxLen]) (Nat.zero_le _), fun i c u hc hu => by
        have h1 := (List.getElem?_eq_some_iff.1 hc).1
        simp at h1
        subst h1
        simp at hc hu
        subst hc hu
        exact ⟨IntsF.nil _ _, IntsF.nil _ _⟩⟩
      sets := ⟨[.slice (some ⟨w.heap.size + 1, 0, none⟩) 1 1], rfl, own_full g3 rfl (by simp [maxLen]) (Nat.zero_le _), fun i u hu => by
        have h1 := (List.getElem?_eq_some_iff.1 hu).1
        simp at h1
        subst h1
        simp at hu
        subst hu
        have e : setL [⟨[], t, ⟨#[]⟩, [], false⟩] (0 + 1) = [true] := by simp [setL, rch_self]
        rw [e]
        refine ⟨some ⟨w.heap.size + 1, 0, none⟩, 1, rfl, ?_⟩
        exact owns_row (own_full (base := 0) g2 rfl (by simp [maxLen]) (Nat.zero_le _)) (fun g e => by
          obtain rfl : w.heap.size + 1 = g := by simpa [Value.ownBlock] using e
          rfl)⟩
      inn := fun g h => by
        subst h
        refine ⟨by omega, by omega, by simp [Value.ownBlock], by simp [Value.ownBlock]⟩
      self := ⟨by omega, by omega⟩
      row := fun g h => by
        rcases h with h | h
        · obtain rfl : w.heap.size = g := by simpa [Value.ownBlock] using h
          omega
        · obtain rfl : w.heap.size + 2 = g := by simpa [Value.ownBlock] using h
          omega
      good := Good.one rfl
      pos := by simp
      in_ := fun g h => by
        have : w4.heap.size = w.heap.size + 4 := by rw [← hw4]; simp [s3]
        omega }
  subst hw1 hw2 hw3 hw4
  exact ⟨_, _, rfl, hfin, fun g h => h.1, hb4⟩
end Go.Proofs.Ytiikbekboapphaa
