/- How a disk and the reference's disk lie in the heap. -/
import Derived.Test.YthhpnlobhffimaaFrame
import Derived.Test.YthhpnlobhffimaaDMath
namespace Go.Proofs.Ythhpnlobhffimaa
set_option maxRecDepth 100000
open Go.RowKit

def enc8 (b : UInt8) : Value := .int .u8 (b.toNat : Int)
/-- the cells of bytes -/
def bytC (l : List UInt8) : List Value := l.map enc8
theorem bytC_len (l : List UInt8) : (bytC l).length = l.length := by simp [bytC]
theorem bytC_app (a b : List UInt8) : bytC (a ++ b) = bytC a ++ bytC b := by simp [bytC]
theorem bytC_take (l : List UInt8) (k : Nat) : (bytC l).take k = bytC (l.take k) := by simp [bytC, List.map_take]
theorem bytC_drop (l : List UInt8) (k : Nat) : (bytC l).drop k = bytC (l.drop k) := by simp [bytC, List.map_drop]
theorem bytC_one (l : List UInt8) : ∀ v ∈ bytC l, v.oneCell' = true := fun v hv => by
  obtain ⟨x, _, rfl⟩ := List.mem_map.1 hv
  rfl
theorem bytC_at (l : List UInt8) (k : Nat) (hk : k < l.length) : (bytC l)[k]? = some (enc8 l[k]) := by simp [bytC, hk]
/-- the cells of a piece, or of a part -/
def pcV (p : Pc) : List Value := [.int .i64 (p.1 : Int), .string (str p.2)]
def pcC (l : List Pc) : List Value := l.flatMap pcV
theorem pcC_len (l : List Pc) : (pcC l).length = l.length * 2 := flat_len pcV 2 (fun _ => rfl) l
theorem pcC_snoc (l : List Pc) (p : Pc) : pcC (l ++ [p]) = pcC l ++ pcV p := by simp [pcC]
theorem pcC_at (l : List Pc) (k : Nat) (hk : k < l.length) : (pcC l)[k * 2]? = some (.int .i64 ((l[k].1 : Nat) : Int)) ∧ (pcC l)[k * 2 + 1]? = some (.string (str l[k].2)) :=
  ⟨(flat_at pcV 2 (fun _ => rfl) l k 0 hk (by omega)).trans rfl, (flat_at pcV 2 (fun _ => rfl) l k 1 hk (by omega)).trans rfl⟩

theorem info5 : (Try.prog.info? 5).map (fun i => (i.zero, i.size, i.bytes)) = some (some (.int .u8 0), 1, 1) := by kernel_rfl
theorem info69 : (Try.prog.info? 86).map (fun i => (i.zero, i.size, i.bytes)) = some (some (.agg #[.int .i64 0, .string ⟨#[]⟩]), 2, 24) := by kernel_rfl
theorem info76 : (Try.prog.info? 101).map (fun i => (i.zero, i.size, i.bytes)) = some (some (.agg #[.int .i64 0, .string ⟨#[]⟩]), 2, 24) := by kernel_rfl

/-- the power's number, and what the calls that are left must be -/
def pwN : Option Nat → Int
  | none => 0
  | some 0 => 2
  | some (_ + 1) => 1
def leftOk : Option Nat → Int → Prop
  | some (n + 1), lf => lf = (n : Int) + 1
  | _, _ => True

/-- The disk d at block p, in blocks of F, from B on; a, b, c: its slices of the contents, of what was synced, of what was not. -/
structure DiskH (B : Nat) (w : World) (p : Nat) (d : Dk) (F : Nat → Prop) (a b c : Value) (lf : Int) : Prop where
  full : Full w p 71 [a, b, c, .int .i64 (pwN d.pw), .int .i64 lf, .int .i64 (d.calls : Int)]
  lok : leftOk d.pw lf
  now : w.ownsRow 0 5 1 a d.now.length (bytC d.now)
  syn : w.ownsRow 0 5 1 b d.syn.length (bytC d.syn)
  ps : w.ownsRow 0 86 2 c d.ps.length (pcC d.ps)
  apart : ∀ g, a.ownBlock = some g → b.ownBlock ≠ some g
  self : F p
  row : ∀ g, a.ownBlock = some g ∨ b.ownBlock = some g ∨ c.ownBlock = some g → F g
  good : d.Good
  in_ : ∀ g, F g → B ≤ g ∧ g < w.heap.size
def IsD (B : Nat) (w : World) (p : Nat) (d : Dk) (F : Nat → Prop) : Prop := ∃ a b c lf, DiskH B w p d F a b c lf
section
variable {B : Nat} {w w' : World} {p : Nat} {d : Dk} {F : Nat → Prop}
theorem DiskH.keep {a b c : Value} {lf : Int} (h : DiskH B w p d F a b c lf) (hk : ∀ g, F g → w'.heap[g]? = w.heap[g]?) (hs : w.heap.size ≤ w'.heap.size) : DiskH B w' p d F a b c lf where
  full := (hk p h.self).trans h.full
  lok := h.lok
  now := owns_keep h.now fun g hg => hk g (h.row g (.inl hg))
  syn := owns_keep h.syn fun g hg => hk g (h.row g (.inr (.inl hg)))
  ps := owns_keep h.ps fun g hg => hk g (h.row g (.inr (.inr hg)))
  apart := h.apart
  self := h.self
  row := h.row
  good := h.good
  in_ := fun g hg => ⟨(h.in_ g hg).1, Nat.lt_of_lt_of_le (h.in_ g hg).2 hs⟩
theorem IsD.keep (h : IsD B w p d F) (hk : ∀ g, F g → w'.heap[g]? = w.heap[g]?) (hs : w.heap.size ≤ w'.heap.size) : IsD B w' p d F := by
  obtain ⟨a, b, c, lf, h⟩ := h
  exact ⟨a, b, c, lf, h.keep hk hs⟩
theorem IsD.in_ (h : IsD B w p d F) : ∀ g, F g → B ≤ g ∧ g < w.heap.size := by
  obtain ⟨a, b, c, lf, h⟩ := h
  exact h.in_
theorem IsD.good (h : IsD B w p d F) : d.Good := by
  obtain ⟨a, b, c, lf, h⟩ := h
  exact h.good
theorem IsD.self (h : IsD B w p d F) : F p := by
  obtain ⟨a, b, c, lf, h⟩ := h
  exact h.self
theorem IsD.on (h : IsD B w p d F) (hb : Below w.heap.size w w') : IsD B w' p d F := h.keep (fun g hg => hb.block g (h.in_ g hg).2) hb.size
theorem IsD.apart {G : Nat → Prop} (h : IsD B w p d F) (ht : Turn G w w') (hG : ∀ g, F g → ¬ G g) : IsD B w' p d F :=
  h.keep (fun g hg => ht.block g (h.in_ g hg).2 (hG g hg)) ht.size
theorem IsD.less {B' : Nat} (h : IsD B w p d F) (hB : B' ≤ B) : IsD B' w p d F := by
  obtain ⟨a, b, c, lf, h⟩ := h
  exact ⟨a, b, c, lf, { h with in_ := fun g hg => ⟨Nat.le_trans hB (h.in_ g hg).1, (h.in_ g hg).2⟩ }⟩
end

/-- the reference's counter: whether there is a limit, and what is left -/
def limOk : Option Nat → Bool → Int → Prop
  | none, lm, _ => lm = false
  | some n, lm, lf => lm = true ∧ lf = (n : Int)
/-- The reference's disk at block q. -/
structure RefH (B : Nat) (w : World) (q : Nat) (d : Dk) (F : Nat → Prop) (c : Value) (lf : Int) (lm : Bool) : Prop where
  full : Full w q 46 [.string (str d.now), .string (str d.syn), c, .int .i64 (d.calls : Int), .int .i64 lf, .bool lm]
  lok : limOk d.pw lm lf
  bnd : -1 - (d.calls : Int) ≤ lf ∧ lf ≤ 1000000
  ps : w.ownsRow 0 101 2 c (allParts d.ps).length (pcC (allParts d.ps))
  self : F q
  row : ∀ g, c.ownBlock = some g → F g
  good : d.Good
  in_ : ∀ g, F g → B ≤ g ∧ g < w.heap.size
def IsR (B : Nat) (w : World) (q : Nat) (d : Dk) (F : Nat → Prop) : Prop := ∃ c lf lm, RefH B w q d F c lf lm
section
variable {B : Nat} {w w' : World} {q : Nat} {d : Dk} {F : Nat → Prop}
theorem RefH.keep {c : Value} {lf : Int} {lm : Bool} (h : RefH B w q d F c lf lm) (hk : ∀ g, F g → w'.heap[g]? = w.heap[g]?) (hs : w.heap.size ≤ w'.heap.size) : RefH B w' q d F c lf lm where
  full := (hk q h.self).trans h.full
  lok := h.lok
  bnd := h.bnd
  ps := owns_keep h.ps fun g hg => hk g (h.row g hg)
  self := h.self
  row := h.row
  good := h.good
  in_ := fun g hg => ⟨(h.in_ g hg).1, Nat.lt_of_lt_of_le (h.in_ g hg).2 hs⟩
theorem IsR.keep (h : IsR B w q d F) (hk : ∀ g, F g → w'.heap[g]? = w.heap[g]?) (hs : w.heap.size ≤ w'.heap.size) : IsR B w' q d F := by
  obtain ⟨c, lf, lm, h⟩ := h
  exact ⟨c, lf, lm, h.keep hk hs⟩
theorem IsR.in_ (h : IsR B w q d F) : ∀ g, F g → B ≤ g ∧ g < w.heap.size := by
  obtain ⟨c, lf, lm, h⟩ := h
  exact h.in_
theorem IsR.good (h : IsR B w q d F) : d.Good := by
  obtain ⟨c, lf, lm, h⟩ := h
  exact h.good
theorem IsR.self (h : IsR B w q d F) : F q := by
  obtain ⟨c, lf, lm, h⟩ := h
  exact h.self
theorem IsR.on (h : IsR B w q d F) (hb : Below w.heap.size w w') : IsR B w' q d F := h.keep (fun g hg => hb.block g (h.in_ g hg).2) hb.size
theorem IsR.apart {G : Nat → Prop} (h : IsR B w q d F) (ht : Turn G w w') (hG : ∀ g, F g → ¬ G g) : IsR B w' q d F :=
  h.keep (fun g hg => ht.block g (h.in_ g hg).2 (hG g hg)) ht.size
theorem IsR.less {B' : Nat} (h : IsR B w q d F) (hB : B' ≤ B) : IsR B' w q d F := by
  obtain ⟨c, lf, lm, h⟩ := h
  exact ⟨c, lf, lm, { h with in_ := fun g hg => ⟨Nat.le_trans hB (h.in_ g hg).1, (h.in_ g hg).2⟩ }⟩
end
end Go.Proofs.Ythhpnlobhffimaa
