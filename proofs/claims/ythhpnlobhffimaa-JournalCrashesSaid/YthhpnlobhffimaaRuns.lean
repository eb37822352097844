/- A loop over an iterator that gives a list known ahead and keeps its state in a block of its own. -/
import Derived.RangeFuncNested
import Derived.RangeFuncBound
import Derived.RangeFuncCalls
import Derived.RangeFuncLeaves
import Derived.Shelf.Abstract
import Derived.Shelf.RegionOpen
import Derived.WalkKit
import Derived.OwnWalkIn
import Derived.TacticsInMore
import Derived.LoopNIn
import Derived.LoopIn
import Derived.Test.YthhpnlobhffimaaSyncT
namespace Go.Proofs.Ythhpnlobhffimaa
set_option maxRecDepth 100000
open Go.RowKit

section
variable {F : Fence} {n : Nat} {P : Program}
/-- a round leaves the iterator's block r as it is -/
def KeepB (r : Nat) (W W' : World) : Prop := W'.heap[r]? = W.heap[r]? ∧ W.heap.size ≤ W'.heap.size
/-- The iterator calls yield with the list's elements, one by one, if the body goes on each time; J k r: what holds when k have been given and the iterator's own block is r. -/
def SeqOwn {α : Type} (F : Fence) (n : Nat) (P : Program) (g : Nat) (lb : Array Value) (T : List α) (V : α → Array Value) (w : World) : Prop :=
  ∀ (l : Nat) (J : Nat → Nat → World → Prop) (W : World), Below w.heap.size w W → (∀ r, AbidesFrom W.heap.size (fun k => J k r)) →
    (∀ k r W1 i u, J k r W1 → J k r (W1.setCell ⟨r, i, none⟩ u)) → (∀ k r W1 ob, J k r W1 → J k W1.heap.size (W1.alloc ob)) → (∀ ob, J 0 W.heap.size (W.alloc ob)) →
    (∀ (k r : Nat) (x : α) (W1 : World), T[k]? = some x → J k r W1 → r < W1.heap.size → YieldAt F (n - 1) P l (V x) W1 fun e W' => e = .returned (.bool true) ∧ J (k + 1) r W' ∧ KeepB r W1 W') →
    CallsIn F n P g (#[.func (.yield l) #[] #[]] ++ lb) W fun e W' => (∃ v, e = .returned v) ∧ ∃ r, J T.length r W'

/-- how a round's body ends: it goes on -/
def goesOn (B r : Nat) (I : World → Prop) (W : World) : Exit → Act → World → Prop
  | .normal, _, W' => KeepsFrom B W W' ∧ KeepB r W W' ∧ I W'
  | _, _, _ => False

theorem range_own {α : Type} {g : Operand} {ps : Array Tmp} {assign body : Code} {Q : Exit → Act → World → Prop} {a : Act} {w : World}
    (hro : F.round = none) (h1 : 1 ≤ n) {gf : Nat} {lb : Array Value} (hg : a.eval g = .func (.func gf) #[] lb) (hFg : F.fn gf) (eg : ∀ args w, (callFunc gf args).run P w = .ok (.enter gf args) w)
    {T : List α} {V : α → Array Value} (hseq : SeqOwn F (n - 1) P gf lb T V w) (hps : ∀ x, (V x).size = ps.size)
    (I : Nat → Nat → World → Prop) (hI : ∀ r, OwnFrom w.heap.size (fun k => I k r)) (hIs : ∀ k r W i u, I k r W → w.heap.size + 2 ≤ r → I k r (W.setCell ⟨r, i, none⟩ u))
    (hIa : ∀ k r W ob, I k r W → w.heap.size + 2 ≤ W.heap.size → I k W.heap.size (W.alloc ob)) (h0 : ∀ W ob, Below w.heap.size w W → w.heap.size + 2 ≤ W.heap.size → I 0 W.heap.size (W.alloc ob))
    (Ax : Nat → α → Act → World → Prop) (hAx : ∀ k x a', OwnFrom w.heap.size (fun (_ : Unit) W => Ax k x a' W))
    (hassign : ∀ (l : Nat) (k r : Nat) (x : α) (W : World) (K : Act → World → Prop), I k r W → r < W.heap.size → (∀ a' W', KeepsFrom w.heap.size W W' → KeepB r W W' → I k r W' → Ax k x a' W' → K a' W') →
      assign.wpIn (F.inRound l) (n - 1 - 1) P (Exit.then K (fun _ _ _ => False)) { tmps := (ps.zip (V x)).foldl (fun t (p, v) => t.setIfInBounds p v) a.tmps, defers := [] } W)
    (hbody : ∀ (l : Nat) (k r : Nat) (x : α) (a' : Act) (W : World), T[k]? = some x → Ax k x a' W → I k r W → r < W.heap.size → w.heap.size + 2 ≤ r → body.wpIn (F.inRound l) (n - 1 - 1) P (goesOn w.heap.size r (I (k + 1) r) W) a' W)
    (hdone : ∀ (D r : Nat) (W : World), w.heap.size ≤ D → I T.length r W → W.heap[D]? = some (.deferred (some [])) → Q .normal { a with defers := { target := .collected D, args := #[] } :: a.defers } W) :
    (Code.rangeFunc g ps assign body).wpIn F n P Q a w := by
  refine wpIn_rangeFunc fun fn hfn => ?_
  rw [hro]
  let rec' : LoopState → Option Code → Loop := fun st pe => { state := st, pending := pe, fn, tmps := a.tmps, params := ps, assign, body, defers := w.heap.size }
  have hs1 : (w.alloc (.deferred (some []))).heap.size = w.heap.size + 1 := World.size_alloc _ _
  have hloop : ((w.alloc (.deferred (some []))).alloc (.loop (rec' .ready none))).heap[w.heap.size + 1]? = some (.loop (rec' .ready none)) := by
    have := World.alloc_heap_new (w.alloc (.deferred (some []))) (.loop (rec' .ready none))
    rwa [hs1] at this
  have hdef : ((w.alloc (.deferred (some []))).alloc (.loop (rec' .ready none))).heap[w.heap.size]? = some (.deferred (some [])) :=
    (Below.heap_alloc _ _ _ (by rw [hs1]; omega)).trans (World.alloc_heap_new w _)
  have hbw : Below w.heap.size w ((w.alloc (.deferred (some []))).alloc (.loop (rec' .ready none))) := ((Below.refl _ w).alloc (Nat.le_refl _) _).alloc (by rw [hs1]; omega) _
  have hsz : ((w.alloc (.deferred (some []))).alloc (.loop (rec' .ready none))).heap.size = w.heap.size + 2 := by simp
  have henter : (Instr.enterLoop fn a.tmps ps assign body none).run P w = .ok (w.heap.size + 1, [{ target := .collected w.heap.size, args := #[] }]) ((w.alloc (.deferred (some []))).alloc (.loop (rec' .ready none))) := run_enterLoop_outer _ _ _ _ _
  obtain ⟨W1, hW1⟩ : ∃ W1, (w.alloc (.deferred (some []))).alloc (.loop (rec' .ready none)) = W1 := ⟨_, rfl⟩
  rw [hW1] at hloop hdef hbw henter hsz
  refine ⟨w.heap.size + 1, [{ target := .collected w.heap.size, args := #[] }], W1, { target := .fn (.func gf) lb, args := #[.func (.yield (w.heap.size + 1)) #[] #[]] }, W1, gf,
    #[.func (.yield (w.heap.size + 1)) #[] #[]] ++ lb, W1, henter, ?_, ?_, ?_, fun _ => h1, ?_⟩
  · simp only [resolve, hg]
    simp [go_sem]
  · intro f' hf'
    simp [Target.leads] at hf'
    subst hf'
    exact hFg
  · simp [invoke, go_sem, eg]
  · refine (hseq (w.heap.size + 1) (fun k r W => I k r W ∧ w.heap.size + 2 ≤ r ∧ w.heap.size + 2 ≤ W.heap.size ∧ W.heap[w.heap.size + 1]? = some (.loop (rec' .ready none)) ∧ W.heap[w.heap.size]? = some (.deferred (some []))) W1 hbw ?_ ?_ ?_ ?_ ?_).mono ?_
    · rintro r k A B row ⟨hi, hr2, hz, hl, hd⟩ hgr hr
      refine ⟨hI r k A B row hi hgr (fun r e => ?_), hr2, Nat.le_trans hz hgr.size, ?_, ?_⟩
      · obtain ⟨hB, o, ho, hw⟩ := hr r e
        exact ⟨Nat.le_trans hbw.size hB, o, ho, Obj.not_cells_of_walk hw⟩
      · exact (grownBy_keeps hgr (fun r e => (hr r e).2) hl rfl).trans hl
      · exact (grownBy_keeps hgr (fun r e => (hr r e).2) hd rfl).trans hd
    · rintro k r W i u ⟨hi, hr2, hz, hl, hd⟩
      refine ⟨hIs k r W i u hi hr2, hr2, by simpa [World.setCell] using hz, ?_, ?_⟩
      · exact (Below.heap_setCell W ⟨r, i, none⟩ u _ (by show w.heap.size + 1 ≠ r; omega)).trans hl
      · exact (Below.heap_setCell W ⟨r, i, none⟩ u _ (by show w.heap.size ≠ r; omega)).trans hd
    · rintro k r W ob ⟨hi, hr2, hz, hl, hd⟩
      refine ⟨hIa k r W ob hi hz, hz, by simp; omega, ?_, ?_⟩
      · exact (Below.heap_alloc _ _ _ (by omega)).trans hl
      · exact (Below.heap_alloc _ _ _ (by omega)).trans hd
    · intro ob
      refine ⟨h0 W1 ob hbw (by omega), by omega, by simp; omega, ?_, ?_⟩
      · exact (Below.heap_alloc _ _ _ (by omega)).trans hloop
      · exact (Below.heap_alloc _ _ _ (by omega)).trans hdef
    · rintro k r x W hT ⟨hi, hr2, hz, hl, hd⟩ hrW
      refine ⟨fn, _, assign, body, run_yield hl (hps x), roundIn_of_wpIn hfn (hassign _ k r x W _ hi hrW fun a' W0 hkf hkp0 hi0 hax => ?_)⟩
      have hl0 := hkf.same _ _ (Nat.le_succ _) hl rfl
      have hd0 := hkf.same _ _ (Nat.le_refl _) hd rfl
      have hlt : w.heap.size + 1 < W0.heap.size := (Array.getElem?_eq_some_iff.1 hl0).1
      have hl2 : (W0.putObj (w.heap.size + 1) (.loop { rec' .ready none with state := .busy })).heap[w.heap.size + 1]? = some (.loop { rec' .ready none with state := .busy }) := World.putObj_heap_same hlt
      have hd2 : (W0.putObj (w.heap.size + 1) (.loop { rec' .ready none with state := .busy })).heap[w.heap.size]? = some (.deferred (some [])) := (World.putObj_heap_other (by omega)).trans hd0
      have hax2 := (hAx k x a').putObj (s := ()) (.loop { rec' .ready none with state := .busy }) hax (Nat.le_succ _) hl0 rfl
      have hi2 := (hI r).putObj (.loop { rec' .ready none with state := .busy }) hi0 (Nat.le_succ _) hl0 rfl
      have hps0 : (W0.putObj (w.heap.size + 1) (.loop { rec' .ready none with state := .busy })).heap.size = W0.heap.size := by simp [World.putObj]
      have hr0 : (W0.putObj (w.heap.size + 1) (.loop { rec' .ready none with state := .busy })).heap[r]? = W0.heap[r]? := World.putObj_heap_other (by omega)
      refine ⟨_, run_beginRound hl0 rfl, ?_⟩
      refine wpIn_mono (hbody _ k r x a' _ hT hax2 hi2 (by rw [hps0]; exact Nat.lt_of_lt_of_le hrW hkp0.2) hr2) ?_
      rintro e a3 W3 hp
      cases e with
      | normal =>
        obtain ⟨hk3, hkp, hi3⟩ := hp
        have hl3 := hk3.same _ _ (Nat.le_succ _) hl2 rfl
        have hd3 := hk3.same _ _ (Nat.le_refl _) hd2 rfl
        have hlt3 : w.heap.size + 1 < W3.heap.size := (Array.getElem?_eq_some_iff.1 hl3).1
        have hps3 : (W3.putObj (w.heap.size + 1) (.loop (rec' .ready none))).heap.size = W3.heap.size := by simp [World.putObj]
        refine ⟨_, _, run_endRound none hl3, rfl, ⟨(hI r).putObj _ hi3 (Nat.le_succ _) hl3 rfl, hr2, ?_, World.putObj_heap_same hlt3, (World.putObj_heap_other (by omega)).trans hd3⟩, ?_, ?_⟩
        · have h1 := hkp.2; have h2 := hkp0.2; rw [hps0] at h1; simp [World.putObj]; omega
        · exact (World.putObj_heap_other (by omega)).trans (hkp.1.trans (hr0.trans hkp0.1))
        · have h1 := hkp.2; have h2 := hkp0.2; rw [hps0] at h1; simp [World.putObj]; omega
      | ret => exact hp.elim
      | exit id => exact hp.elim
      | goto t => exact hp.elim
      | panic ch => exact hp.elim
      | outgrown => exact hp.elim
    · rintro e W2 ⟨⟨v, rfl⟩, r, hi, hr2, hz, hl, hd⟩
      exact ⟨none, _, run_endLoop hl (by simp [rec']), hdone _ r _ (Nat.le_refl _) ((hI r).putObj _ hi (Nat.le_succ _) hl rfl) ((World.putObj_heap_other (by omega)).trans hd)⟩
end
end Go.Proofs.Ythhpnlobhffimaa
