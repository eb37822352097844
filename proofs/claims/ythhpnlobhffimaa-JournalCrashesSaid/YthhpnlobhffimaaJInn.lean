/- JournalCrashes: the journal beside the rows of the records that are sure and torn. -/
import Derived.Test.YthhpnlobhffimaaJCra
import Derived.Deep.CutRange
import Derived.Deep.AppendLies
import Derived.BigQuiet
namespace Go.Proofs.Ythhpnlobhffimaa
set_option maxRecDepth 100000
open Go.ChangeShapes Go.WideShapes Go.ChangeAt Go.RowKit Go.Maps

/-- the disk between two rounds: the records that are sure -/
structure Out (w W : World) (p : Nat) (d : Dk) (S : List ByteArray) (A : Option Addr) (c : Nat) (k : Nat) : Prop where
  side : Side w W p d (fun g => (Value.slice A S.length c).ownBlock = some g)
  row : W.ownsRow w.heap.size 9 1 (.slice A S.length c) S.length (strC S)
  rs : recs d.now = dat S
  pw : d.pw = none
  calls : d.calls ≤ 4
  small : AllSm S
  few : S.length ≤ 11 * k
/-- within a round: the journal, the rows of the records that are sure and of those that are torn -/
structure Inn (w W : World) (p b : Nat) (j : Jn) (X2 : Nat → Prop) (S T : List ByteArray) (A : Option Addr) (c : Nat) (A' : Option Addr) (c' : Nat) (k : Nat) : Prop where
  jw : Jw w W p b j (fun g => X2 g ∨ (Value.slice A S.length c).ownBlock = some g ∨ (Value.slice A' T.length c').ownBlock = some g)
  rs : W.ownsRow w.heap.size 9 1 (.slice A S.length c) S.length (strC S)
  rt : W.ownsRow w.heap.size 9 1 (.slice A' T.length c') T.length (strC T)
  a1 : ∀ g, (Value.slice A S.length c).ownBlock = some g → ¬ X2 g ∧ (Value.slice A' T.length c').ownBlock ≠ some g
  a2 : ∀ g, (Value.slice A' T.length c').ownBlock = some g → ¬ X2 g
  cr : Cr j S T k
section
variable {w W W' : World} {p b : Nat} {j j' : Jn} {X2 : Nat → Prop} {S T S' T' : List ByteArray} {A A' : Option Addr} {c c' k : Nat}
/-- Append behind an Append: the rows lie where they lay -/
theorem Inn.kept (h : Inn w W p b j X2 S T A c A' c' k) (hp : JPost w W p b j' (fun g => X2 g ∨ (Value.slice A S.length c).ownBlock = some g ∨ (Value.slice A' T.length c').ownBlock = some g) W') :
    W'.ownsRow w.heap.size 9 1 (.slice A S.length c) S.length (strC S) ∧ W'.ownsRow w.heap.size 9 1 (.slice A' T.length c') T.length (strC T) :=
  ⟨owns_keep h.rs (fun g hg => hp.2.1 g (.inr (.inl hg))), owns_keep h.rt (fun g hg => hp.2.1 g (.inr (.inr hg)))⟩
/-- a record is sure -/
theorem Inn.sure (h : Inn w W p b j X2 S T A c A' c' k) (hp : JPost w W p b j' (fun g => X2 g ∨ (Value.slice A S.length c).ownBlock = some g ∨ (Value.slice A' T.length c').ownBlock = some g) W') {s : ByteArray} {W2 : World} {o : Obj} {gg cap : Nat}
    (hown : W2.ownsRow w.heap.size 9 1 (.slice (some ⟨gg, 0, none⟩) (S.length + 1) cap) (S.length + 1) (strC S ++ [.string s])) (hgrow : (W'.alloc o).grownBy W2 (Value.slice A S.length c).ownBlock)
    (hat : (Value.slice A S.length c).ownBlock = some gg ∨ gg = W'.heap.size + 1) (hlt : gg < W2.heap.size) (hT : T = []) (hc : Cr j' (S ++ [s]) [] (k + 1)) :
    Inn w W2 p b j' X2 (S ++ [s]) T (some ⟨gg, 0, none⟩) cap A' c' (k + 1) := by
  subst hT
  have hz : (S ++ [s]).length = S.length + 1 := by simp
  have hj := hp.1.on ((Below.refl _ W').alloc (Nat.le_refl _) o)
  have hsz : (W'.alloc o).heap.size = W'.heap.size + 1 := World.size_alloc _ _
  have hgz := hgrow.size
  obtain ⟨k1, k2⟩ := h.kept hp
  have ob : ∀ g, (Value.slice (some ⟨gg, 0, none⟩) (S ++ [s]).length cap).ownBlock = some g → gg = g := fun g hg => by simpa [Value.ownBlock] using hg
  have ng : ∀ g, (X2 g ∨ (Value.slice A' ([] : List ByteArray).length c').ownBlock = some g) → g < W'.heap.size ∧ (Value.slice A S.length c).ownBlock ≠ some g := fun g hg => by
    rcases hg with hg | hg
    · exact ⟨hp.1.xlt (.inl hg), fun e => (h.a1 g e).1 hg⟩
    · exact ⟨hp.1.xlt (.inr (.inr hg)), fun e => (h.a1 g e).2 hg⟩
  refine ⟨?_, ?_, ?_, ?_, h.a2, hc⟩
  · refine hj.grown hgrow (fun g hg => ⟨.inr (.inl hg), row_ge k1 g hg⟩) (fun g hg => ?_)
    rcases hg with hg | hg | hg
    · exact ⟨.inl (.inl hg), by have := (ng g (.inl hg)).1; omega⟩
    · obtain rfl := ob g hg
      refine ⟨?_, hlt⟩
      rcases hat with e | e
      · exact .inl (.inr (.inl e))
      · right; omega
    · exact ⟨.inl (.inr (.inr hg)), by have := (ng g (.inr hg)).1; omega⟩
  · rw [hz]
    have := hown
    rwa [← strC_snoc] at this
  · exact owns_keep k2 (fun g hg => by
      obtain ⟨e1, e2⟩ := ng g (.inr hg)
      rw [hgrow.block g (by omega) (fun e => e2 e.symm), Below.heap_alloc _ _ _ e1])
  · intro g hg
    obtain rfl := ob g hg
    rcases hat with e | e
    · exact h.a1 gg e
    · exact ⟨fun hx => by have := (ng gg (.inl hx)).1; omega, fun hx => by have := (ng gg (.inr hx)).1; omega⟩
/-- a record is torn -/
theorem Inn.torn (h : Inn w W p b j X2 S T A c A' c' k) (hp : JPost w W p b j' (fun g => X2 g ∨ (Value.slice A S.length c).ownBlock = some g ∨ (Value.slice A' T.length c').ownBlock = some g) W') {s : ByteArray} {W2 : World} {o : Obj} {gg cap : Nat}
    (hown : W2.ownsRow w.heap.size 9 1 (.slice (some ⟨gg, 0, none⟩) (T.length + 1) cap) (T.length + 1) (strC T ++ [.string s])) (hgrow : (W'.alloc o).grownBy W2 (Value.slice A' T.length c').ownBlock)
    (hat : (Value.slice A' T.length c').ownBlock = some gg ∨ gg = W'.heap.size + 1) (hlt : gg < W2.heap.size) (hc : Cr j' S (T ++ [s]) (k + 1)) :
    Inn w W2 p b j' X2 S (T ++ [s]) A c (some ⟨gg, 0, none⟩) cap (k + 1) := by
  have hz : (T ++ [s]).length = T.length + 1 := by simp
  have hj := hp.1.on ((Below.refl _ W').alloc (Nat.le_refl _) o)
  have hsz : (W'.alloc o).heap.size = W'.heap.size + 1 := World.size_alloc _ _
  have hgz := hgrow.size
  obtain ⟨k1, k2⟩ := h.kept hp
  have ob : ∀ g, (Value.slice (some ⟨gg, 0, none⟩) (T ++ [s]).length cap).ownBlock = some g → gg = g := fun g hg => by simpa [Value.ownBlock] using hg
  have ng : ∀ g, (X2 g ∨ (Value.slice A S.length c).ownBlock = some g) → g < W'.heap.size ∧ (Value.slice A' T.length c').ownBlock ≠ some g := fun g hg => by
    rcases hg with hg | hg
    · exact ⟨hp.1.xlt (.inl hg), fun e => h.a2 g e hg⟩
    · exact ⟨hp.1.xlt (.inr (.inl hg)), (h.a1 g hg).2⟩
  refine ⟨?_, ?_, ?_, ?_, ?_, hc⟩
  · refine hj.grown hgrow (fun g hg => ⟨.inr (.inr hg), row_ge k2 g hg⟩) (fun g hg => ?_)
    rcases hg with hg | hg | hg
    · exact ⟨.inl (.inl hg), by have := (ng g (.inl hg)).1; omega⟩
    · exact ⟨.inl (.inr (.inl hg)), by have := (ng g (.inr hg)).1; omega⟩
    · obtain rfl := ob g hg
      refine ⟨?_, hlt⟩
      rcases hat with e | e
      · exact .inl (.inr (.inr e))
      · right; omega
  · exact owns_keep k1 (fun g hg => by
      obtain ⟨e1, e2⟩ := ng g (.inr hg)
      rw [hgrow.block g (by omega) (fun e => e2 e.symm), Below.heap_alloc _ _ _ e1])
  · rw [hz]
    have := hown
    rwa [← strC_snoc] at this
  · intro g hg
    refine ⟨(h.a1 g hg).1, fun e => ?_⟩
    obtain rfl := ob g e
    rcases hat with e1 | e1
    · exact (h.a1 gg hg).2 e1
    · have := (ng gg (.inr hg)).1; omega
  · intro g hg hx
    obtain rfl := ob g hg
    rcases hat with e | e
    · exact h.a2 gg e hx
    · have := (ng gg (.inl hx)).1; omega
end
end Go.Proofs.Ythhpnlobhffimaa
