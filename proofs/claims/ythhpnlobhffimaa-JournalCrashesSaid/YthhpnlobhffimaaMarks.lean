/- The marks that loops over iterators leave among a function's deferred calls. -/
import Derived.Test.YthhpnlobhffimaaPartsT
namespace Go.Proofs.Ythhpnlobhffimaa
set_option maxRecDepth 100000
open Go.RowKit
def markL (Ds : List Nat) : List Deferred := Ds.map fun D => { target := .collected D, args := #[] }
def Marks (B : Nat) (Ds : List Nat) (W : World) : Prop := ∀ D ∈ Ds, B ≤ D ∧ W.heap[D]? = some (.deferred (some []))
theorem Marks.keep {B : Nat} {Ds : List Nat} {W W' : World} (h : Marks B Ds W) (hk : ∀ D ∈ Ds, W'.heap[D]? = W.heap[D]?) : Marks B Ds W' := fun D hD => ⟨(h D hD).1, (hk D hD).trans (h D hD).2⟩
theorem Marks.lt {B : Nat} {Ds : List Nat} {W : World} (h : Marks B Ds W) : ∀ D ∈ Ds, D < W.heap.size := fun D hD => (Array.getElem?_eq_some_iff.1 (h D hD).2).1
theorem Marks.others {B : Nat} {Ds : List Nat} {W W' : World} (h : Marks B Ds W) (hk : KeepsOthers W W') : Marks B Ds W' := fun D hD => ⟨(h D hD).1, hk.same D _ (h D hD).2 rfl⟩
/-- the marks' blocks are shut; nothing else turns -/
structure Shut (B : Nat) (W W' : World) : Prop where
  os : W'.os = W.os
  tape : W'.tape = W.tape
  output : W'.output = W.output
  size : W'.heap.size = W.heap.size
  low : ∀ k, k < B → W'.heap[k]? = W.heap[k]?
  cells : ∀ (k : Nat) (o : Obj), W.heap[k]? = some o → o.isCells = true → W'.heap[k]? = some o
theorem Shut.refl (B : Nat) (W : World) : Shut B W W := ⟨rfl, rfl, rfl, rfl, fun _ _ => rfl, fun _ _ h _ => h⟩
theorem Shut.trans {B : Nat} {W W1 W2 : World} (h : Shut B W W1) (k : Shut B W1 W2) : Shut B W W2 :=
  ⟨k.os.trans h.os, k.tape.trans h.tape, k.output.trans h.output, k.size.trans h.size, fun i hi => (k.low i hi).trans (h.low i hi), fun i o hi ho => k.cells i o (h.cells i o hi ho) ho⟩
theorem Shut.one {B D : Nat} {W : World} (hB : B ≤ D) (h : W.heap[D]? = some (.deferred (some []))) (o : Obj) : Shut B W (W.putObj D o) :=
  ⟨rfl, rfl, rfl, by simp [World.putObj], fun k hk => World.putObj_heap_other (by omega), fun k o' hk ho => by
    by_cases e : k = D
    · subst e
      rw [h] at hk
      injection hk with hk
      subst hk
      cases ho
    · exact (World.putObj_heap_other e).trans hk⟩
theorem Shut.below {B : Nat} {w W W' : World} (h : Below B w W) (k : Shut B W W') : Below B w W' :=
  ⟨k.os.trans h.os, k.tape.trans h.tape, k.output.trans h.output, by rw [k.size]; exact h.size, fun i hi => (k.low i hi).trans (h.block i hi)⟩
theorem leaves_marks {F : Fence} {n : Nat} {P : Program} {fn : Func} {tmps : Array Value} {R : Ending → World → Prop} (B : Nat) : ∀ (Ds : List Nat) (W : World), Ds.Nodup → Marks B Ds W →
    (∀ W', Shut B W W' → LeavesIn F n P fn tmps R [] .returning W') → LeavesInM F n P fn tmps R (markL Ds) .returning W
  | [], W, _, _, h => h W (Shut.refl _ _)
  | D :: Ds, W, hn, hm, h => by
    obtain ⟨h1, h2⟩ := List.nodup_cons.1 hn
    have hD := hm D (List.mem_cons_self)
    have hk := run_takeDeferred (P := P) hD.2
    refine ⟨by simp, .inl ⟨_, _, rfl, hk, leaves_marks B Ds _ h2 ?_ ?_⟩⟩
    · intro D' hD'
      have := hm D' (List.mem_cons_of_mem _ hD')
      exact ⟨this.1, (World.putObj_heap_other (by rintro rfl; exact h1 hD')).trans this.2⟩
    · intro W' hW'
      exact h W' ((Shut.one hD.1 hD.2 _).trans hW')
end Go.Proofs.Ythhpnlobhffimaa
