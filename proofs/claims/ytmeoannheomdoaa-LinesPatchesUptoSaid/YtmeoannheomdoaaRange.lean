/- rangeIn. -/
import Derived.Deep.DeepCutAuto
import Derived.RegionTactic
import Derived.Test.YtmeoannheomdoaaGroups
namespace Go.Proofs.Ytmeoannheomdoaa
open Go.RowKit

theorem two_full (W : World) (t : TypeId) (cs ds : List Value) : Full ((W.alloc (.cells cs.toArray t)).alloc (.cells ds.toArray t)).drew W.heap.size t cs ∧ Full ((W.alloc (.cells cs.toArray t)).alloc (.cells ds.toArray t)).drew (W.heap.size + 1) t ds := by
  refine ⟨(Full.new W t cs).alloc _, ?_⟩
  have := Full.new (W.alloc (.cells cs.toArray t)) t ds
  rw [World.size_alloc] at this
  exact this

set_option maxRecDepth 100000 in
set_option maxHeartbeats 1000000 in
theorem range_any (S A A' : Option Addr) (m c c' d lo hi s t : Nat) (H : List Hk) (x y : Hk) (w : World) (hH : HT w A d H) (k : Nat) (hks : k ≤ 4294967296) (hk : H.length = k + 1) (hx : H[0]? = some x) (hy : H[k]? = some y)
    (hr : ∀ W, (Instr.slice 23 (.slice S m c) (some (.int .i64 (s : Int))) (some (.int .i64 (t : Int))) none).run Try.prog W = .ok (.slice A' (t - s) c') W)
    (hs : s + x.a0 = x.b0 + lo) (ht : t + y.a1 = y.b1 + hi) (hst : s ≤ t)
    (hb : x.a0 ≤ 4294967296 ∧ x.b0 ≤ 4294967296 ∧ y.a1 ≤ 4294967296 ∧ y.b1 ≤ 4294967296 ∧ lo ≤ 4294967296 ∧ hi ≤ 4294967296) :
    Calls Try.prog 59 #[.slice S m c, .agg #[.int .i64 (lo : Int), .int .i64 (hi : Int)], .slice A (k + 1) d] w fun e w' => e = .returned (.slice A' (t - s) c') ∧ Below w.heap.size w w' := by
  obtain ⟨hb1, hb2, hb3, hb4, hb5, hb6⟩ := hb
  have hcap := hH.cap
  rw [hk] at hcap
  obtain ⟨ad, rfl, p0, p1, p2, p3⟩ := hH.at_ (k := 0) (by omega)
  obtain ⟨_, e, q0, q1, q2, q3⟩ := hH.at_ (k := k) (by omega)
  injection e with e
  subst e
  have hx' : H[0]'(by omega) = x := by rw [List.getElem?_eq_getElem (by omega)] at hx; exact Option.some.inj hx
  have hy' : H[k]'(by omega) = y := by rw [List.getElem?_eq_getElem (by omega)] at hy; exact Option.some.inj hy
  rw [hx', Nat.zero_mul, show ad.add 0 = ad from by simp [Addr.add]] at p0 p1 p2 p3
  rw [hy'] at q0 q1 q2 q3
  obtain ⟨xa0, xa1, xb0, xb1⟩ := x
  obtain ⟨ya0, ya1, yb0, yb1⟩ := y
  dsimp only at p0 p1 p2 p3 q0 q1 q2 q3 hs ht hb1 hb2 hb3 hb4
  clear hx' hy' hx hy
  have hlt : ad.block < w.heap.size := World.block_lt_of_cell? w _ p0
  have e1 : IntKind.i64.wrap ((k : Int) + 1 - 1) = (k : Int) := by simp [IntKind.wrap, IntKind.bits, IntKind.signed]; omega
  have hB0 : Below w.heap.size w (w.alloc (.cells #[.int .i64 (lo : Int), .int .i64 (hi : Int)] 55)) := (Below.refl _ w).alloc (Nat.le_refl _) _
  have hF0 := Full.new w 55 [.int .i64 (lo : Int), .int .i64 (hi : Int)]
  have hi0 : (0 : Int) ≤ (k : Int) := Int.natCast_nonneg _
  have hi1 : (k : Int) < (k : Int) + 1 := by omega
  have e2 : IntKind.i64.wrap (k : Int) = (k : Int) := by simp [IntKind.wrap, IntKind.bits, IntKind.signed]; omega
  have hlt2 : (ad.add (k * 4)).block < w.heap.size := World.block_lt_of_cell? w _ q0
  go_enter Try.func59, Try.ntmps59
  go_upto_region 1 with fail
  go_cut [7, 8] (fun s7 s8 wx => ∃ g7 g8 : Nat, s7 = .pointer (some ⟨g7, 0, none⟩) ∧ s8 = .pointer (some ⟨g8, 0, none⟩) ∧ Full wx g7 40 (hkC ⟨xa0, xa1, xb0, xb1⟩) ∧ Full wx g8 40 (hkC ⟨ya0, ya1, yb0, yb1⟩) ∧ Full wx w.heap.size 55 [.int .i64 (lo : Int), .int .i64 (hi : Int)] ∧ Below w.heap.size w wx)
  case first =>
    obtain ⟨W1, hW1⟩ : ∃ W1, w.alloc (.cells #[.int .i64 (lo : Int), .int .i64 (hi : Int)] 55) = W1 := ⟨_, rfl⟩
    have hs1 : w.heap.size < W1.heap.size := by rw [← hW1]; simp
    have hk0 : ∀ {a : Addr} {v : Value}, w.cell? a = some v → W1.cell? a = some v ∧ (∀ o, (W1.alloc o).cell? a = some v) ∧ (∀ o o', ((W1.alloc o).alloc o').cell? a = some v) := by
      intro a v h
      have h0 := World.block_lt_of_cell? w _ h
      have h1 : W1.cell? a = some v := by rw [← hW1]; exact (World.cell?_alloc_lt w _ a h0).trans h
      have h2 := fun o => (World.cell?_alloc_lt W1 o a (by omega)).trans h1
      exact ⟨h1, h2, fun o o' => (World.cell?_alloc_lt _ _ a (by simp; omega)).trans (h2 o)⟩
    obtain ⟨p0a, p0b, p0c⟩ := hk0 p0
    obtain ⟨p1a, p1b, p1c⟩ := hk0 p1
    obtain ⟨p2a, p2b, p2c⟩ := hk0 p2
    obtain ⟨p3a, p3b, p3c⟩ := hk0 p3
    obtain ⟨q0a, q0b, q0c⟩ := hk0 q0
    obtain ⟨q1a, q1b, q1c⟩ := hk0 q1
    obtain ⟨q2a, q2b, q2c⟩ := hk0 q2
    obtain ⟨q3a, q3b, q3c⟩ := hk0 q3
    clear hk0
    rw [hW1] at hB0 hF0 ⊢
    clear hW1
    go_region
    all_goals (go_wp2_with fail; go_meet)
    case rel =>
      have h := two_full W1 40 (hkC ⟨xa0, xa1, xb0, xb1⟩) (hkC ⟨ya0, ya1, yb0, yb1⟩)
      exact ⟨_, _, rfl, rfl, h.1, h.2, ((hF0.alloc _).alloc _).drew, ((hB0.alloc (by omega) _).alloc (by simp; omega) _).drew⟩
    case rel =>
      have h := two_full W1 40 (hkC ⟨ya0, ya1, yb0, yb1⟩) (hkC ⟨xa0, xa1, xb0, xb1⟩)
      exact ⟨_, _, rfl, rfl, h.2, h.1, ((hF0.alloc _).alloc _).drew, ((hB0.alloc (by omega) _).alloc (by simp; omega) _).drew⟩
  case rest =>
    obtain ⟨g7, g8, rfl, rfl, h7, h8, h5, hB⟩ := hcut
    have a0 : wc.cell? ⟨g7, 0, none⟩ = some (.int .i64 (xa0 : Int)) := h7.cell 0
    have a2 : wc.cell? ⟨g7, 2, none⟩ = some (.int .i64 (xb0 : Int)) := h7.cell 2
    have b1 : wc.cell? ⟨g8, 1, none⟩ = some (.int .i64 (ya1 : Int)) := h8.cell 1
    have b3 : wc.cell? ⟨g8, 3, none⟩ = some (.int .i64 (yb1 : Int)) := h8.cell 3
    have d0 : wc.cell? ⟨w.heap.size, 0, none⟩ = some (.int .i64 (lo : Int)) := h5.cell 0
    have d1 : wc.cell? ⟨w.heap.size, 1, none⟩ = some (.int .i64 (hi : Int)) := h5.cell 1
    have es : (xb0 : Int) - ((xa0 : Int) - (lo : Int)) = (s : Int) := by omega
    have et : (yb1 : Int) + ((hi : Int) - (ya1 : Int)) = (t : Int) := by omega
    go_wp2
    go_ret
    exact ⟨rfl, hB⟩

end Go.Proofs.Ytmeoannheomdoaa
