/- addPair. -/
import Derived.Deep.RegionLaw
import Derived.Test.YtmeoannheomdoaaPairs
namespace Go.Proofs.Ytmeoannheomdoaa
open Go.RowKit

/-- The collector in block G: the places behind the last pair, and the hunks so far, in a row of the call's own. -/
def Coll (w : World) (G n₀ : Nat) (ga gb : Nat) (L : List Hk) : Prop :=
  ∃ A c, Full w G 64 [.int .i64 (ga : Int), .int .i64 (gb : Int), .slice A L.length c] ∧ w.ownsRow n₀ 40 4 (.slice A L.length c) L.length (hksC L)

theorem KeepIB.setCell {w : World} {G : Nat} {t : TypeId} {cs : List Value} (h : Full w G t cs) (ht : t ≠ 3 ∧ t ≠ 4) (i : Nat) (v : Value) : KeepIB w (w.setCell ⟨G, i, none⟩ v) := fun k t' cs' ht' hf => by
  have hne : k ≠ G := by
    rintro rfl
    have := (show w.heap[k]? = _ from hf).symm.trans h
    injection this with h1
    injection h1 with _ h2
    subst h2
    rcases ht' with e | e
    · exact ht.1 e
    · exact ht.2 e
  exact hf.far hne _
theorem KeepIB.alloc (w : World) (o : Obj) : KeepIB w (w.alloc o) := fun _ _ _ _ h => h.alloc o
theorem KeepIB.drewN (w : World) (n : Nat) : KeepIB w (w.drewN n) := fun _ _ _ _ h => h
theorem KeepIB.drew (w : World) : KeepIB w w.drew := fun _ _ _ _ h => h
theorem KeepIB.own {w w' : World} {base size n : Nat} {e : TypeId} {v : Value} {xs : List Value} (hr : w.ownsRow base e size v n xs) (he : e ≠ 3 ∧ e ≠ 4) (hg : w.grownBy w' v.ownBlock) : KeepIB w w' := fun k t cs ht hf =>
  hf.grown hg (hf.not_row hr (by rintro rfl; rcases ht with e | e; exact he.1 e; exact he.2 e))
theorem KeepsOthers.own {w w' : World} {base size n : Nat} {e : TypeId} {v : Value} {xs : List Value} (hr : w.ownsRow base e size v n xs) (hg : w.grownBy w' v.ownBlock) : KeepsOthers w w' :=
  KeepsOthers.of_grownBy hg fun j o e1 e2 => by
    rcases hr.2 with ⟨rfl, _⟩ | ⟨g', cap, cur, rfl, _, hh, _⟩
    · simp [Value.ownBlock] at e1
    · obtain rfl : g' = j := by simpa [Value.ownBlock] using e1
      rw [hh] at e2
      injection e2 with e2
      rw [← e2]; rfl

theorem own_set {w : World} {base size n : Nat} {e : TypeId} {v : Value} {xs : List Value} (hr : w.ownsRow base e size v n xs) {G : Nat} {t : TypeId} {cs : List Value} (h : Full w G t cs) (ht : t ≠ e) (i : Nat) (u : Value) : (w.setCell ⟨G, i, none⟩ u).ownsRow base e size v n xs :=
  hr.kept (grown_cell w G i u) (.inr (fun e' => h.not_row hr ht e'.symm))

def AddPost (w : World) (G n₀ i j : Nat) (L : List Hk) (e : Ending) (w' : World) : Prop :=
  (∃ v, e = .returned v) ∧ Coll w' G n₀ (i + 1) (j + 1) L ∧ Below n₀ w w' ∧ KeepIB w w' ∧ KeepsOthers w w'

theorem add_end {w : World} {G n₀ ga gb i j : Nat} {L : List Hk} {A : Option Addr} {c : Nat} (hF : Full w G 64 [.int .i64 (ga : Int), .int .i64 (gb : Int), .slice A L.length c]) (hown : w.ownsRow n₀ 40 4 (.slice A L.length c) L.length (hksC L)) (hn : n₀ ≤ G) :
    Coll ((w.setCell ⟨G, 0, none⟩ (.int .i64 ((i : Int) + 1))).setCell ⟨G, 1, none⟩ (.int .i64 ((j : Int) + 1))) G n₀ (i + 1) (j + 1) L ∧ Below n₀ w ((w.setCell ⟨G, 0, none⟩ (.int .i64 ((i : Int) + 1))).setCell ⟨G, 1, none⟩ (.int .i64 ((j : Int) + 1))) ∧
      KeepIB w ((w.setCell ⟨G, 0, none⟩ (.int .i64 ((i : Int) + 1))).setCell ⟨G, 1, none⟩ (.int .i64 ((j : Int) + 1))) ∧ KeepsOthers w ((w.setCell ⟨G, 0, none⟩ (.int .i64 ((i : Int) + 1))).setCell ⟨G, 1, none⟩ (.int .i64 ((j : Int) + 1))) :=
  ⟨⟨A, c, (hF.set_ 0 _).set_ 1 _, (own_set (own_set hown hF (by decide) _ _) (hF.set_ 0 _) (by decide) _ _)⟩, ((Below.refl _ w).setCell (p := ⟨G, 0, none⟩) hn _).setCell (p := ⟨G, 1, none⟩) hn _, (KeepIB.setCell hF (by decide) _ _).trans (KeepIB.setCell (hF.set_ 0 _) (by decide) _ _), (KeepsOthers.setCell _ _ _).trans (KeepsOthers.setCell _ _ _)⟩
def AddMid (w : World) (G n₀ ga gb : Nat) (M : List Hk) (wx : World) : Prop := Coll wx G n₀ ga gb M ∧ Below n₀ w wx ∧ KeepIB w wx ∧ KeepsOthers w wx
theorem add_mid {w w0 w1 : World} {G n₀ ga gb i j gg cap : Nat} {L : List Hk} {A : Option Addr} {c : Nat} (hF : Full w G 64 [.int .i64 (ga : Int), .int .i64 (gb : Int), .slice A L.length c]) (hown : w.ownsRow n₀ 40 4 (.slice A L.length c) L.length (hksC L)) (hn : n₀ ≤ G)
    (h0 : Full w0 G 64 [.int .i64 (ga : Int), .int .i64 (gb : Int), .slice A L.length c]) (h0r : w0.ownsRow n₀ 40 4 (.slice A L.length c) L.length (hksC L)) (hb0 : Below n₀ w w0) (hk0 : KeepIB w w0) (ho0 : KeepsOthers w w0)
    (hown1 : w1.ownsRow n₀ 40 4 (.slice (some ⟨gg, 0, none⟩) (L.length + 1) cap) (L.length + 1) (hksC L ++ hkC ⟨ga, i, gb, j⟩)) (hgrow : w0.grownBy w1 (Value.slice A L.length c).ownBlock) (hs : n₀ ≤ w0.heap.size) :
    AddMid w G n₀ ga gb (L ++ [⟨ga, i, gb, j⟩]) (w1.setCell ⟨G, 2, none⟩ (.slice (some ⟨gg, 0, none⟩) (L.length + 1) cap)) := by
  have hF1 := h0.grown hgrow (h0.not_row h0r (by decide))
  have hl : (L ++ [(⟨ga, i, gb, j⟩ : Hk)]).length = L.length + 1 := by simp
  have hx : hksC (L ++ [(⟨ga, i, gb, j⟩ : Hk)]) = hksC L ++ hkC ⟨ga, i, gb, j⟩ := by unfold hksC; simp
  refine ⟨⟨some ⟨gg, 0, none⟩, cap, ?_, ?_⟩, (hb0.grown hgrow hs (row_ge h0r)).setCell (p := ⟨G, 2, none⟩) hn _, (hk0.trans (KeepIB.own h0r (by decide) hgrow)).trans (KeepIB.setCell hF1 (by decide) _ _), (ho0.trans (KeepsOthers.own h0r hgrow)).trans (KeepsOthers.setCell _ _ _)⟩
  · rw [hl]; exact hF1.set_ 2 _
  · rw [hl, hx]; exact own_set hown1 hF1 (by decide) _ _

set_option maxRecDepth 100000 in
set_option maxHeartbeats 2000000 in
theorem add_any (G n₀ ga gb i j : Nat) (L : List Hk) (w : World) (h : Coll w G n₀ ga gb L) (hn : n₀ ≤ G) (hL : L.length ≤ 4294967296) (hi : i ≤ 140737488355328) (hj : j ≤ 140737488355328) :
    Calls Try.prog 41 #[.pointer (some ⟨G, 0, none⟩), .int .i64 (i : Int), .int .i64 (j : Int)] w (AddPost w G n₀ i j (L ++ gap ga gb i j)) := by
  obtain ⟨A, c, hF, hown⟩ := h
  have c0 : w.cell? ⟨G, 0, none⟩ = some (.int .i64 (ga : Int)) := hF.cell 0
  have c1 : w.cell? ⟨G, 1, none⟩ = some (.int .i64 (gb : Int)) := hF.cell 1
  have c2 : w.cell? ⟨G, 2, none⟩ = some (.slice A L.length c) := hF.cell 2
  have f0 := hF.frozen 0
  have f1 := hF.frozen 1
  have f2 := hF.frozen 2
  have hi0 : (0 : Int) ≤ (i : Int) := Int.natCast_nonneg _
  have hj0 : (0 : Int) ≤ (j : Int) := Int.natCast_nonneg _
  obtain ⟨M, HM⟩ : ∃ M, Hid (L ++ gap ga gb i j = M) := ⟨_, Lib.hid rfl⟩
  rw [HM.out]
  by_cases h12 : ga < i ∨ gb < j
  · have hM : M = L ++ [⟨ga, i, gb, j⟩] := by rw [← HM.out]; unfold gap; rw [if_pos h12]
    have HM2 := Lib.hid hM
    clear hM
    obtain ⟨i40, hi4, hz0, hz1, hz2⟩ := info_parts info40
    have hglt := hF.lt
    by_cases h1 : ga < i
    all_goals
      go_enter Try.func41, Try.ntmps41
      go_upto_region 1 with fail
      go_cut [] (fun wx => AddMid w G n₀ ga gb M wx)
      case first =>
        go_region_law
          ((refine step_append_lies _ (by rfl) _ _ _ (by rfl) n₀ 40 i40 _ 4 32 Try.underlying33 hi4 hz0 hz1 hz2 rfl (by omega) (.slice A L.length c) L.length _ (by rfl) ((hown.alloc _).drew) ⟨w.heap.size, 0, none⟩ 1 1 (hkC ⟨ga, i, gb, j⟩) (by rfl) (by rfl) (World.news_of_block (cs := (hkC ⟨ga, i, gb, j⟩).toArray) (t := 40) (fr := (0, 0)) (heap_alloc_new w _)) (by simp [Value.oneCell', hkC]) (by omega) (by unfold maxLen; omega) (by omega) (by simp; omega) (w.heap.size + 1) (by simp) ?_; intro gg cap w1 hown1 hgrow hat hlt; have hF1 := ((hF.alloc _).drew).grown hgrow (hF.not_row hown (by decide)); have k2 : w1.cell? ⟨G, 2, none⟩ = some (.slice A L.length c) := hF1.cell 2; have kf := hF1.frozen 2))
        all_goals
          go_wp2_with fail
          go_meet
        all_goals
          try (case rel => rw [HM2.out]; exact add_mid hF hown hn ((hF.alloc _).drew) ((hown.alloc _).drew) (((Below.refl _ w).alloc (by omega) _).drew) ((KeepIB.alloc w _).trans (KeepIB.drew _)) ((KeepsOthers.alloc w _).trans (KeepsOthers.drew _)) hown1 hgrow (by simp; omega))
      case rest =>
        obtain ⟨⟨A', c', hF', hown'⟩, hb', hk', ho'⟩ := hcut
        have d0 : wc.cell? ⟨G, 0, none⟩ = some (.int .i64 (ga : Int)) := hF'.cell 0
        have d1 : wc.cell? ⟨G, 1, none⟩ = some (.int .i64 (gb : Int)) := hF'.cell 1
        have e0 := hF'.frozen 0
        have e1 := hF'.frozen 1
        go_wp2
        go_end0
        have := add_end (i := i) (j := j) hF' hown' hn
        exact ⟨⟨_, rfl⟩, this.1, hb'.trans this.2.1, hk'.trans this.2.2.1, ho'.trans this.2.2.2⟩
  · have hM : M = L := by rw [← HM.out]; unfold gap; rw [if_neg (by omega), List.append_nil]
    subst hM
    go_enter Try.func41, Try.ntmps41
    go_wp2
    go_end0
    exact ⟨⟨_, rfl⟩, add_end hF hown hn⟩

end Go.Proofs.Ytmeoannheomdoaa
