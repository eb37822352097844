/- The Syntax seat, part 1: contracts of the program and of the reference. -/
import Derived.Test.YtcjoiiaankngjaaGreatDoorRows
import Derived.WalkKit
import Derived.ProofKit
import Derived.Deep.Cut
import Derived.OpenShut
import Derived.Carry
import Derived.SliceStrings
import Derived.Lib.SmallJoins
import Derived.Laws.MakeOwn
import Derived.Lib.LaidTab
import Derived.WalkSpells
import Derived.WalkLawsBesides
import Derived.Below
import Derived.Lib.Hide
import Derived.Lib.AppendStr
import Derived.Lib.IndexBytes
import Derived.Laws.AppendOwnNone
import Derived.Maps.AppendAt
import Derived.Deep.AppendLies
import Derived.Deep.OwnRows
import Derived.Deep.RegionHeld3
import Derived.Deep.RegionWith
import Derived.Deep.QuietTactic
import Derived.BigQuiet
import Derived.BigRegion
import Derived.Shelf.Strings.Builder1
import Derived.Shelf.Strings.Builder2
import Derived.Shelf.Strings.OnBuilder
import Derived.Shelf.Strings.Trim
import Derived.Shelf.Small.Utf8
import Derived.Shelf.Small.Strs
import Derived.Shelf.Strings.BuilderF
import Derived.Shelf.Strconv.Atoi
import Derived.Shelf.Strconv.Itoa0
import Derived.Shelf.Strconv.Itoa1
import Derived.Shelf.LaysM
import Derived.Shelf.Strconv.Itoa2
import Derived.Shelf.Strconv.Itoa3
import Derived.Shelf.Strconv.AtoiErrFast
import Derived.Shelf.Strconv.ParseIntEmpty
import Derived.Shelf.Strconv.AtoiFail
import Derived.Shelf.Strconv.Clone
import Derived.Shelf.Strconv.SyntaxError
import Derived.Shelf.LaysC
import Derived.Shelf.Strconv.ToError
import Derived.Shelf.Strconv.Lower
import Derived.Shelf.Strconv.ParseUint10
import Derived.Shelf.Strconv.ParseUint10Empty
import Derived.Shelf.Strconv.ParseUint10Any
import Derived.Shelf.Strconv.ParseInt10
import Derived.Shelf.Strconv.AtoiLong
import Derived.Shelf.Strconv.AtoiInnerAll
import Derived.Shelf.Strconv.RangeError
import Derived.Shelf.Strconv.ToErrorRange
import Derived.Shelf.Strconv.AtoiAll
import Derived.Shelf.Strconv.ErrVarAll
import Derived.Shelf.Strings.Search1
import Derived.Shelf.Unicode.Decode
import Derived.Shelf.Strings.Runes
import Derived.Shelf.Strings.IndexAny
import Derived.Shelf.Strings.AsciiSet
import Derived.Shelf.Strings.IndexAnyAll
import Derived.Shelf.Unicode.DecodeSlow
import Derived.Shelf.Unicode.DecodeAny
import Derived.Shelf.Unicode.DecodeLast
import Derived.Test.YtcjoiiaankngjaaGreatDoorProg
/- What all texts of this seat share: slices that hold a list of cells, whole blocks, the table of classes, from a walk to a law's row. -/
namespace Go.Proofs.YtcjoiiaankngjaaGreatDoor
set_option maxRecDepth 100000
open Go.ChangeShapes Go.WideShapes Go.ChangeAt Go.RowKit

theorem ret_int {k : IntKind} {a b : Int} (h : a = b) : Ending.returned (.int k a) = .returned (.int k b) := by rw [h]
theorem ret_bool {a b : Bool} (h : a = b) : Ending.returned (.bool a) = .returned (.bool b) := by rw [h]
theorem add_block (a : Addr) (n : Nat) : (a.add n).block = a.block := by unfold Addr.add; split <;> rfl
theorem add_twice (a : Addr) (i j : Nat) : (a.add i).add j = a.add (i + j) := by
  unfold Addr.add
  by_cases hi : i = 0 <;> by_cases hj : j = 0 <;> simp [hi, hj, Nat.add_assoc]

/-- The slice with the pointer A, the length n and the capacity c holds the cells xs (size for each element), in a block below B. -/
def Row (w : World) (B size : Nat) (A : Option Addr) (n c : Nat) (xs : List Value) : Prop :=
  xs.length = n * size ∧ n ≤ c ∧ (A = none → c = 0) ∧ ∀ j u, xs[j]? = some u → ∃ ad, A = some ad ∧ ad.block < B ∧ w.cell? (ad.add j) = some u

section
variable {w w' : World} {B B' size n c : Nat} {A : Option Addr} {xs : List Value}
theorem Row.keep (h : Row w B size A n c xs) (hk : ∀ p : Addr, p.block < B → w'.cell? p = w.cell? p) : Row w' B size A n c xs :=
  ⟨h.1, h.2.1, h.2.2.1, fun j u hj => by
    obtain ⟨ad, e, hlt, hc⟩ := h.2.2.2 j u hj
    exact ⟨ad, e, hlt, (hk _ (by rw [add_block]; exact hlt)).trans hc⟩⟩
theorem Row.more (h : Row w B size A n c xs) (hB : B ≤ B') : Row w B' size A n c xs :=
  ⟨h.1, h.2.1, h.2.2.1, fun j u hj => by
    obtain ⟨ad, e, hlt, hc⟩ := h.2.2.2 j u hj
    exact ⟨ad, e, by omega, hc⟩⟩
theorem Row.below (h : Row w B size A n c xs) (hb : Below B' w w') (hB : B ≤ B') : Row w' B size A n c xs := h.keep fun _ hp => hb.cell (by omega)
theorem Row.on (h : Row w w.heap.size size A n c xs) (hb : Below w.heap.size w w') : Row w' w'.heap.size size A n c xs := (h.below hb (Nat.le_refl _)).more hb.size
theorem Row.drewN (h : Row w B size A n c xs) (k : Nat) : Row (w.drewN k) B size A n c xs := h
theorem Row.drew (h : Row w B size A n c xs) : Row w.drew B size A n c xs := h
theorem Row.alloc (h : Row w B size A n c xs) (hB : B ≤ w.heap.size) (o : Obj) : Row (w.alloc o) B size A n c xs := h.keep fun p hp => World.cell?_alloc_lt w o p (by omega)
theorem Row.setCell (h : Row w B size A n c xs) {p : Addr} (hB : B ≤ p.block) (u : Value) : Row (w.setCell p u) B size A n c xs :=
  h.keep fun q hq => World.cell?_setCell_other w p q u (fun e => by subst e; omega)
theorem Row.empty (w : World) (B size : Nat) : Row w B size none 0 0 [] := ⟨by simp, Nat.le_refl _, fun _ => rfl, fun j u hj => by simp at hj⟩
theorem Row.own {base : Nat} {e : TypeId} (h : w.ownsRow base e size (.slice A n c) n xs) : Row w w.heap.size size A n c xs := by
  have hl := h.1
  rcases h.2 with ⟨hv, h0⟩ | ⟨g, cap, cur, hv, _, hg, hle, _⟩
  · injection hv with h1 h2 h3
    subst h1 h2 h3
    have hx : xs = [] := List.eq_nil_of_length_eq_zero (by simpa using hl)
    subst hx
    exact Row.empty _ _ _
  · injection hv with h1 h2 h3
    subst h1 h3
    refine ⟨hl, by omega, fun h => (by cases h), fun j u hj => ⟨_, rfl, (Array.getElem?_eq_some_iff.1 hg).1, h.cells (g := g) rfl j u hj⟩⟩
/-- a part of a slice -/
theorem Row.part (h : Row w B size A n c xs) {l k m : Nat} (h1 : l ≤ k) (h2 : k ≤ n) (h3 : n ≤ m) (h4 : m ≤ c) :
    Row w B size (if m = l then A else A.map (·.add (l * size))) (k - l) (m - l) ((xs.drop (l * size)).take ((k - l) * size)) := by
  refine ⟨?_, by omega, fun e => ?_, fun j u hj => ?_⟩
  · rw [List.length_take, List.length_drop, h.1, ← Nat.sub_mul]
    exact Nat.min_eq_left (Nat.mul_le_mul_right _ (by omega))
  · split at e
    · omega
    · have : A = none := by simpa using e
      have := h.2.2.1 this
      omega
  · have hlt : j < (k - l) * size := by
      have := (List.getElem?_eq_some_iff.1 hj).1
      rw [List.length_take] at this
      omega
    have hkl : l < k := by
      rcases Nat.lt_or_ge l k with h | h
      · exact h
      · rw [Nat.sub_eq_zero_of_le h, Nat.zero_mul] at hlt; omega
    rw [List.getElem?_take_of_lt hlt, List.getElem?_drop] at hj
    obtain ⟨ad, rfl, hb, hc⟩ := h.2.2.2 _ u hj
    rw [if_neg (by omega)]
    exact ⟨_, rfl, by rw [add_block]; exact hb, by rw [add_twice]; exact hc⟩
end

/-- s[l:k], s[l:], s[:k]: the pointer behind it gets a name. -/
theorem cut_lh (t e : TypeId) (size : Nat) (ht : Tryz.prog.underlying t = some (.slice e)) (hz : ∀ W, (Go.sizeOf e).run Tryz.prog W = .ok size W) (A : Option Addr) (n c l k : Nat) (h1 : l ≤ k) (h2 : k ≤ n) (h3 : n ≤ c) :
    ∃ A', (∀ W, (Instr.slice t (.slice A n c) (some (.int .i64 (l : Int))) (some (.int .i64 (k : Int))) none).run Tryz.prog W = .ok (.slice A' (k - l) (c - l)) W) ∧
      ∀ w B xs, Row w B size A n c xs → Row w B size A' (k - l) (c - l) ((xs.drop (l * size)).take ((k - l) * size)) := by
  have he : Tryz.prog.elem t = e := by simp [Program.elem, ht]
  refine ⟨if c = l then A else A.map (·.add (l * size)), fun W => ?_, fun w B xs h => h.part h1 h2 h3 (Nat.le_refl _)⟩
  rw [run_slice_lh W t A n c (by rw [he]; exact ht) _ _ _ _ (by omega) (by omega) (by omega), he, hz]
  rfl
theorem cut_l (t e : TypeId) (size : Nat) (ht : Tryz.prog.underlying t = some (.slice e)) (hz : ∀ W, (Go.sizeOf e).run Tryz.prog W = .ok size W) (A : Option Addr) (n c l : Nat) (h1 : l ≤ n) (h3 : n ≤ c) :
    ∃ A', (∀ W, (Instr.slice t (.slice A n c) (some (.int .i64 (l : Int))) none none).run Tryz.prog W = .ok (.slice A' (n - l) (c - l)) W) ∧
      ∀ w B xs, Row w B size A n c xs → Row w B size A' (n - l) (c - l) (xs.drop (l * size)) := by
  have he : Tryz.prog.elem t = e := by simp [Program.elem, ht]
  refine ⟨if c = l then A else A.map (·.add (l * size)), fun W => ?_, fun w B xs h => ?_⟩
  · rw [run_slice_l W t A n c (by rw [he]; exact ht) _ _ (by omega) (by omega), he, hz]
    rfl
  · have := h.part h1 (Nat.le_refl _) h3 (Nat.le_refl _)
    rwa [List.take_of_length_le (by rw [List.length_drop, h.1, Nat.sub_mul]; exact Nat.le_refl _)] at this
theorem cut_h (t e : TypeId) (size : Nat) (ht : Tryz.prog.underlying t = some (.slice e)) (hz : ∀ W, (Go.sizeOf e).run Tryz.prog W = .ok size W) (A : Option Addr) (n c k : Nat) (h2 : k ≤ n) (h3 : n ≤ c) :
    ∃ A', (∀ W, (Instr.slice t (.slice A n c) none (some (.int .i64 (k : Int))) none).run Tryz.prog W = .ok (.slice A' k c) W) ∧
      ∀ w B xs, Row w B size A n c xs → Row w B size A' k c (xs.take (k * size)) := by
  have he : Tryz.prog.elem t = e := by simp [Program.elem, ht]
  refine ⟨if c = 0 then A else A.map (·.add (0 * size)), fun W => ?_, fun w B xs h => ?_⟩
  · rw [run_slice_h W t A n c (by rw [he]; exact ht) _ _ (by omega) (by omega), he, hz]
    rfl
  · have := h.part (Nat.zero_le k) h2 h3 (Nat.le_refl _)
    simpa using this

theorem own_form {w : World} {base size : Nat} {e : TypeId} {v : Value} {n : Nat} {xs : List Value} (h : w.ownsRow base e size v n xs) : ∃ A c, v = .slice A n c := by
  rcases h.2 with ⟨rfl, rfl⟩ | ⟨g, cap, _, rfl, _⟩
  · exact ⟨_, _, rfl⟩
  · exact ⟨_, _, rfl⟩
theorem row_ge {w : World} {base : Nat} {e : TypeId} {size n : Nat} {v : Value} {xs : List Value} (h : w.ownsRow base e size v n xs) : ∀ j, v.ownBlock = some j → base ≤ j := fun j ej => by
  rcases h.2 with ⟨h0, _⟩ | ⟨g, cap, cur, h0, hbg, _⟩
  · rw [h0] at ej; simp [Value.ownBlock] at ej
  · rw [h0] at ej
    obtain rfl : g = j := by simpa [Value.ownBlock] using ej
    exact hbg
theorem own_keep {w w' : World} {base : Nat} {e : TypeId} {size n : Nat} {v : Value} {xs : List Value} (h : w.ownsRow base e size v n xs) (hb : Below w.heap.size w w') : w'.ownsRow base e size v n xs := by
  refine ⟨h.1, ?_⟩
  rcases h.2 with h0 | ⟨g, cap, cur, hv, hg, hh, h3⟩
  · exact .inl h0
  · exact .inr ⟨g, cap, cur, hv, hg, (hb.block g (Array.getElem?_eq_some_iff.1 hh).1).trans hh, h3⟩
theorem Below.drewN_ {B : Nat} {a w : World} (h : Below B a w) (n : Nat) : Below B a (w.drewN n) := ⟨h.os, h.tape, h.output, h.size, h.block⟩
theorem Below.then_ {a b c : World} (h : Below a.heap.size a b) (k : Below b.heap.size b c) : Below a.heap.size a c := h.trans (k.mono h.size)

def strC (L : List ByteArray) : List Value := L.map Value.string
def natC (l : List Nat) : List Value := l.map fun k : Nat => Value.int .i64 (k : Int)
def boolC (l : List Bool) : List Value := l.map Value.bool
/-- the slice holds the strings L -/
def Strs (w : World) (B : Nat) (A : Option Addr) (c : Nat) (L : List ByteArray) : Prop := Row w B 1 A L.length c (strC L)

theorem flat_len {α : Type} (f : α → List Value) (s : Nat) (hf : ∀ x, (f x).length = s) : ∀ l : List α, (l.flatMap f).length = l.length * s
  | [] => by simp
  | x :: l => by rw [List.flatMap_cons, List.length_append, hf, flat_len f s hf l, List.length_cons, Nat.succ_mul, Nat.add_comm]
theorem flat_drop {α : Type} (f : α → List Value) (s : Nat) (hf : ∀ x, (f x).length = s) : ∀ (l : List α) (k : Nat), (l.flatMap f).drop (k * s) = (l.drop k).flatMap f
  | l, 0 => by simp
  | [], k + 1 => by simp
  | x :: l, k + 1 => by
    rw [List.flatMap_cons, List.drop_succ_cons, ← flat_drop f s hf l k, Nat.succ_mul, Nat.add_comm, ← List.drop_drop, List.drop_left' (hf x)]
theorem flat_take {α : Type} (f : α → List Value) (s : Nat) (hf : ∀ x, (f x).length = s) : ∀ (l : List α) (k : Nat), (l.flatMap f).take (k * s) = (l.take k).flatMap f
  | l, 0 => by simp
  | [], k + 1 => by simp
  | x :: l, k + 1 => by
    rw [List.flatMap_cons, List.take_succ_cons, List.flatMap_cons, ← flat_take f s hf l k, Nat.succ_mul, Nat.add_comm, List.take_add, List.take_left' (hf x), List.drop_left' (hf x)]
theorem flat_at {α : Type} (f : α → List Value) (s : Nat) (hf : ∀ x, (f x).length = s) (l : List α) (k j : Nat) (hk : k < l.length) (hj : j < s) : (l.flatMap f)[k * s + j]? = (f l[k])[j]? := by
  have h1 := flat_drop f s hf l k
  rw [List.drop_eq_getElem_cons hk, List.flatMap_cons] at h1
  rw [← List.getElem?_drop, h1, List.getElem?_append_left (by rw [hf]; exact hj)]

section
variable {w w' : World} {B c : Nat} {A : Option Addr} {L : List ByteArray}
theorem Strs.at_ (h : Strs w B A c L) {k : Nat} (hk : k < L.length) : ∃ ad, A = some ad ∧ ad.block < B ∧ w.cell? (ad.add k) = some (.string L[k]) :=
  h.2.2.2 k _ (by unfold strC; rw [List.getElem?_map, List.getElem?_eq_getElem hk]; rfl)
theorem Strs.cap (h : Strs w B A c L) : L.length ≤ c := h.2.1
theorem Strs.nil_ (h : Strs w B A c L) : A = none → c = 0 := h.2.2.1
theorem Strs.own {base n : Nat} (h : w.ownsRow base 9 1 (.slice A n c) n (strC L)) : n = L.length ∧ Strs w w.heap.size A c L := by
  have h0 := h.1
  have : n = L.length := by simpa [strC] using h0.symm
  subst this
  exact ⟨rfl, Row.own h⟩
theorem strC_win (L : List ByteArray) (l k : Nat) : ((strC L).drop (l * 1)).take ((k - l) * 1) = strC ((L.drop l).take (k - l)) := by
  unfold strC; rw [Nat.mul_one, Nat.mul_one, List.map_take, List.map_drop]
theorem strC_drop (L : List ByteArray) (l : Nat) : (strC L).drop (l * 1) = strC (L.drop l) := by
  unfold strC; rw [Nat.mul_one, List.map_drop]
end

/-- parts of a slice of strings -/
theorem strs_lh (A : Option Addr) (L : List ByteArray) (c l k : Nat) (h1 : l ≤ k) (h2 : k ≤ L.length) (h3 : L.length ≤ c) :
    ∃ A', (∀ W, (Instr.slice 34 (.slice A L.length c) (some (.int .i64 (l : Int))) (some (.int .i64 (k : Int))) none).run Tryz.prog W = .ok (.slice A' (k - l) (c - l)) W) ∧
      ((L.drop l).take (k - l)).length = k - l ∧ ∀ w B, Strs w B A c L → Strs w B A' (c - l) ((L.drop l).take (k - l)) := by
  obtain ⟨A', hr, h⟩ := cut_lh 34 9 1 Tryz.underlying34 (fun _ => by kernel_rfl) A L.length c l k h1 h2 h3
  have hl : ((L.drop l).take (k - l)).length = k - l := by simp; omega
  refine ⟨A', hr, hl, fun w B hS => ?_⟩
  have := h w B _ hS
  rw [strC_win] at this
  unfold Strs
  rw [hl]
  exact this
theorem strs_l (A : Option Addr) (L : List ByteArray) (c l : Nat) (h2 : l ≤ L.length) (h3 : L.length ≤ c) :
    ∃ A', (∀ W, (Instr.slice 34 (.slice A L.length c) (some (.int .i64 (l : Int))) none none).run Tryz.prog W = .ok (.slice A' (L.length - l) (c - l)) W) ∧
      (L.drop l).length = L.length - l ∧ ∀ w B, Strs w B A c L → Strs w B A' (c - l) (L.drop l) := by
  obtain ⟨A', hr, h⟩ := cut_l 34 9 1 Tryz.underlying34 (fun _ => by kernel_rfl) A L.length c l h2 h3
  refine ⟨A', hr, List.length_drop, fun w B hS => ?_⟩
  have := h w B _ hS
  rw [strC_drop] at this
  unfold Strs
  rw [List.length_drop]
  exact this

/-- append of a slice of strings that may be nil -/
theorem info9 : (Tryz.prog.info? 9).map (fun i => (i.zero, i.size, i.bytes)) = some (some (.string ⟨#[]⟩), 1, 16) := by kernel_rfl
theorem info3 : (Tryz.prog.info? 3).map (fun i => (i.zero, i.size, i.bytes)) = some (some (.int .i64 0), 1, 8) := by kernel_rfl
theorem info4 : (Tryz.prog.info? 4).map (fun i => (i.zero, i.size, i.bytes)) = some (some (.bool false), 1, 1) := by kernel_rfl

/-- Block g holds just the cells cs, of element type t, none frozen. -/
def Full (w : World) (g : Nat) (t : TypeId) (cs : List Value) : Prop := w.heap[g]? = some (.cells cs.toArray t (0, 0))
section
variable {w w' : World} {g : Nat} {t : TypeId} {cs : List Value}
theorem Full.lt (h : Full w g t cs) : g < w.heap.size := (Array.getElem?_eq_some_iff.1 h).1
theorem Full.cell (h : Full w g t cs) (i : Nat) : w.cell? ⟨g, i, none⟩ = cs[i]? := by
  simp [World.cell?, show w.heap[g]? = _ from h]
theorem Full.frozen (h : Full w g t cs) (i : Nat) : w.frozen? ⟨g, i, none⟩ = false := by
  simp [World.frozen?, show w.heap[g]? = _ from h]
theorem Full.new (w : World) (t : TypeId) (cs : List Value) : Full (w.alloc (.cells cs.toArray t)) w.heap.size t cs := heap_alloc_new w _
theorem Full.drewN (h : Full w g t cs) (n : Nat) : Full (w.drewN n) g t cs := h
theorem Full.drew (h : Full w g t cs) : Full w.drew g t cs := h
theorem Full.alloc (h : Full w g t cs) (o : Obj) : Full (w.alloc o) g t cs := (Below.heap_alloc w o g h.lt).trans h
theorem Full.set_ (h : Full w g t cs) (i : Nat) (u : Value) : Full (w.setCell ⟨g, i, none⟩ u) g t (cs.set i u) := by
  unfold Full at h ⊢
  simp [World.setCell, Array.getElem?_modify, h]
theorem Full.far (h : Full w g t cs) {p : Addr} (hp : g ≠ p.block) (u : Value) : Full (w.setCell p u) g t cs := (Below.heap_setCell w p u g hp).trans h
theorem Full.below {B : Nat} (h : Full w g t cs) (hb : Below B w w') (hg : g < B) : Full w' g t cs := (hb.block g hg).trans h
theorem Full.on (h : Full w g t cs) (hb : Below w.heap.size w w') : Full w' g t cs := h.below hb h.lt
theorem Full.grown {row : Option Nat} (h : Full w g t cs) (hb : w.grownBy w' row) (hg : some g ≠ row) : Full w' g t cs := (hb.block g h.lt hg).trans h
theorem Full.ne_ {g' : Nat} {t' : TypeId} {cs' : List Value} (h : Full w g t cs) (h' : Full w g' t' cs') (hne : t ≠ t') : g ≠ g' := by
  rintro rfl
  have := (show w.heap[g]? = _ from h).symm.trans h'
  injection this with h1
  injection h1 with _ h2
  exact hne h2
theorem Full.not_row (h : Full w g t cs) {base size n : Nat} {e : TypeId} {v : Value} {xs : List Value} (hr : w.ownsRow base e size v n xs) (hne : t ≠ e) : some g ≠ v.ownBlock := by
  rcases hr.2 with ⟨rfl, _⟩ | ⟨g', cap, cur, rfl, _, hh, _⟩
  · simp [Value.ownBlock]
  · intro he
    obtain rfl : g = g' := by simpa [Value.ownBlock] using he
    have := (show w.heap[g]? = _ from h).symm.trans hh
    injection this with h1
    injection h1 with _ h2
    exact hne h2
theorem Full.row (h : Full w g t cs) (size n : Nat) (hn : cs.length = n * size) (c : Nat) (hc : n ≤ c) : Row w w.heap.size size (some ⟨g, 0, none⟩) n c cs :=
  ⟨hn, hc, fun e => (by cases e), fun j u hj => ⟨_, rfl, h.lt, by rw [Addr.add_lit, Nat.zero_add, h.cell, hj]⟩⟩
end

/-- make([]T, n), of one cell for each element -/
theorem made_one (t e : TypeId) (z : Value) (bytes : Nat) (ht : Tryz.prog.underlying t = some (.slice e)) (hi : (Tryz.prog.info? e).map (fun i => (i.zero, i.size, i.bytes)) = some (some z, 1, bytes)) (hz : z.cells = #[z]) (n : Nat) (hb : bytes * n ≤ 281474976710656) (h63 : n ≤ 9223372036854775807) :
    ∀ W, (Instr.makeSlice t (.int .i64 (n : Int)) (.int .i64 (n : Int))).run Tryz.prog W = .ok (.slice (some ⟨W.heap.size, 0, none⟩) n n) (W.alloc (.cells (List.replicate n z).toArray e)) := by
  intro W
  obtain ⟨i, h1, h2, h3, h4⟩ := info_parts hi
  have hr := run_make W t e i z ht h1 h2 .i64 .i64 (n : Int) (n : Int) (by omega) (by omega) (by rw [h4]; omega) (by omega)
  rw [hr, h3, hz]
  simp only [Int.toNat_natCast, Nat.mul_one]
  congr 3
  rw [← toList_madeCells_one]

theorem laidOut : laidOutB Tryz.prog = true := by kernel_rfl
theorem ownKnob_none : ownKnob Tryz.prog.godebug = none := by kernel_rfl

/-- All arguments read behind the call as before, where nothing below the old heap's size has turned. -/
theorem trods_stay {H : Type} {enc : TypeId × Value → H} {W W' : World} (hb : Below W.heap.size W W') : ∀ {ts : List TypeId} {vs : List Value} {ds : List (DataW H)} {ps : List MemPlace},
    (∀ t ∈ ts, Tryz.prog.readableRec t = true ∧ t < Tryz.prog.types.size) → (∀ p ∈ ps, p.block < W.heap.size) → DataW.TrodAll enc Tryz.prog W 0 (fun _ => true) true ts vs ds ps →
    DataW.TrodAll enc Tryz.prog W' 0 (fun b => decide (b < W.heap.size)) true ts vs ds ps
  | [], vs, ds, ps, _, _, h => by
    obtain ⟨rfl, rfl, rfl⟩ := trodAll_nil h
    exact trodAll_mk0
  | t :: ts, vs, ds, ps, ht, hp, h => by
    obtain ⟨v, vs', d, ds', p, q, rfl, rfl, rfl, h0, hr⟩ := trodAll_cons h
    have h1 := ht t (List.mem_cons_self)
    exact trodAll_cons_mk (Below.trod laidOut h1.1 h1.2 h0 hb fun x hx => hp x (List.mem_append_left _ hx))
      (trods_stay hb (fun t' h' => ht t' (List.mem_cons_of_mem _ h')) (fun x hx => hp x (List.mem_append_right _ hx)) hr)

/-- The law's word behind the call: it returned true, and nothing below the old heap's size has turned. -/
theorem law_post {H : Type} {enc : TypeId × Value → H} {f : Func} {s : ChangeSpec} {W W' : World} {args : Array Value} {ds gs : List (DataW H)} {before : List MemPlace}
    (hv : s.vars = []) (hrt : f.resultTypes = #[4]) (hpar : ∀ t ∈ f.params.toList, Tryz.prog.readableRec t = true ∧ t < Tryz.prog.types.size)
    (hres : (s.fn H (ds ++ gs)).results = [.lit (.bool true)]) (hargs : (s.fn H (ds ++ gs)).args = ds) (hvs : (s.fn H (ds ++ gs)).vars = [])
    (hW : DataW.Whole enc Tryz.prog f.params.toList s.vars false W args.toList ds gs before) (hb : Below W.heap.size W W') :
    s.post enc Tryz.prog f false true false false W args (.bool true) W' := by
  have hlt : ∀ p ∈ before, p.block < W.heap.size := fun p hp => hW.lt p hp
  have hW' := hW
  obtain ⟨p, q, hA, hV, rfl, hfz, hnd⟩ := hW
  rw [hv] at hV
  obtain ⟨rfl, rfl⟩ := trodVars_none hV
  refine ⟨ds, [], p ++ [], [], p, [], hW', ?_, ?_, ?_, World.keptBut_mono (fun x hx => ⟨hx, .inr (.inl (by simpa using hx))⟩) (hb.frame (· ∈ p ++ [])), fun h => by cases h⟩
  · rw [hres, hrt]
    exact trodAll_cons_mk (shut_bool Tryz.underlying4 _) trodAll_mk0
  · rw [hargs]
    exact trods_stay hb hpar (fun x hx => hlt x (by simpa using hx)) hA
  · rw [hvs, hv]
    rfl

theorem bd_i64 {n : Int} (h : (Lit.int .i64 n).wf = true) : -9223372036854775808 ≤ n ∧ n ≤ 9223372036854775807 := by
  simpa [Lit.wf, IntKind.min, IntKind.max, IntKind.signed, IntKind.bits] using h
theorem bd_u64 {n : Int} (h : (Lit.int .u64 n).wf = true) : 0 ≤ n ∧ n ≤ 18446744073709551615 := by
  simpa [Lit.wf, IntKind.min, IntKind.max, IntKind.signed, IntKind.bits] using h
theorem bd_u32 {n : Int} (h : (Lit.int .u32 n).wf = true) : 0 ≤ n ∧ n ≤ 4294967295 := by
  simpa [Lit.wf, IntKind.min, IntKind.max, IntKind.signed, IntKind.bits] using h
theorem bd_u8 {n : Int} (h : (Lit.int .u8 n).wf = true) : 0 ≤ n ∧ n ≤ 255 := by
  simpa [Lit.wf, IntKind.min, IntKind.max, IntKind.signed, IntKind.bits] using h

/-- a list of bytes as a string -/
def str (l : List UInt8) : ByteArray := ⟨l.toArray⟩
theorem str_data (l : List UInt8) : (str l).data.toList = l := rfl
theorem str_size (l : List UInt8) : (str l).size = l.length := rfl
theorem str_eq {s : ByteArray} {l : List UInt8} (h : s.data.toList = l) : s = str l := by
  apply Go.WideShapes.bytes_inj
  rw [h]; rfl
def cutL (l : List UInt8) (st k : Nat) : List UInt8 := (l.drop st).take (k - st)
theorem cutL_snoc {l : List UInt8} {st k : Nat} (h1 : st ≤ k) (h2 : k < l.length) : cutL l st (k + 1) = cutL l st k ++ [l[k]] := by
  unfold cutL
  rw [show k + 1 - st = (k - st) + 1 by omega, List.take_succ_eq_append_getElem (by simp; omega)]
  simp [Nat.add_sub_of_le h1]
theorem cutL_self (l : List UInt8) (k : Nat) : cutL l k k = [] := by simp [cutL]
theorem drop_at (s : ByteArray) (k : Nat) (h : k < s.size) : s.data.toList.drop k = s[k] :: s.data.toList.drop (k + 1) := by
  rw [List.drop_eq_getElem_cons (by simpa using h)]; rfl
theorem ext_cut (s : ByteArray) (st k : Nat) : s.extract st k = str (cutL s.data.toList st k) := by
  apply str_eq
  rw [Lib.extract_data]
  rfl
theorem cut_end (s : ByteArray) (st : Nat) : cutL s.data.toList st s.size = s.data.toList.drop st := by
  unfold cutL
  rw [List.take_of_length_le]
  simp

def StrsOut (w : World) (R : List ByteArray) (e : Ending) (w' : World) : Prop :=
  ∃ A c, e = .returned (.slice A R.length c) ∧ w'.ownsRow w.heap.size 9 1 (.slice A R.length c) R.length (strC R) ∧ Below w.heap.size w w'
theorem strC_snoc (L : List ByteArray) (s : ByteArray) : strC (L ++ [s]) = strC L ++ [.string s] := by simp [strC]

theorem eq_of_data {a b : ByteArray} (h : a.toList = b.toList) : a = b := by
  rw [ByteArray.toList_eq, ByteArray.toList_eq] at h
  exact Go.WideShapes.bytes_inj h
theorem ne_of_data {a b : ByteArray} (h : ¬ a.toList = b.toList) : a ≠ b := fun e => h (by rw [e])

/-- It returned n, and at most has drawn. -/
def QInt (w : World) (n : Nat) (e : Ending) (w' : World) : Prop := e = .returned (.int .i64 (n : Int)) ∧ ∃ q, w' = w.drewN q
def QBool (w : World) (b : Bool) (e : Ending) (w' : World) : Prop := e = .returned (.bool b) ∧ ∃ q, w' = w.drewN q


theorem data_len (s : ByteArray) : s.data.toList.length = s.size := by simp
theorem app_data (a b : ByteArray) : (a ++ b).data.toList = a.data.toList ++ b.data.toList := by
  rw [ByteArray.data_append, Array.toList_append]
def BoolB (w : World) (v : Bool) (e : Ending) (w' : World) : Prop := e = .returned (.bool v) ∧ Below w.heap.size w w'
def StrB (w : World) (v : ByteArray) (e : Ending) (w' : World) : Prop := e = .returned (.string v) ∧ Below w.heap.size w w'
theorem strs_on {w w' : World} {A : Option Addr} {c : Nat} {L : List ByteArray} (h : Strs w w.heap.size A c L) (hb : Below w.heap.size w w') : Strs w' w'.heap.size A c L := Row.on h hb
theorem cells5 : Tryz.prog.cellsOf 5 = 1 := by kernel_rfl
theorem cells9 : Tryz.prog.cellsOf 9 = 1 := by kernel_rfl
end Go.Proofs.YtcjoiiaankngjaaGreatDoor
/- Frames as sets of blocks; rows of one's own: their block, a cell, a cell that is written, a part of them. -/
namespace Go.Proofs.YtcjoiiaankngjaaGreatDoor
set_option maxRecDepth 100000
open Go.RowKit

theorem cell_of_heap {w w' : World} {a : Addr} (h : w'.heap[a.block]? = w.heap[a.block]?) : w'.cell? a = w.cell? a := by
  unfold World.cell?; rw [h]

/-- w' is w but for the blocks of F, and new ones -/
structure Turn (F : Nat → Prop) (w w' : World) : Prop where
  os : w'.os = w.os
  tape : w'.tape = w.tape
  output : w'.output = w.output
  size : w.heap.size ≤ w'.heap.size
  block : ∀ g, g < w.heap.size → ¬ F g → w'.heap[g]? = w.heap[g]?
theorem Turn.below {F : Nat → Prop} {w w' : World} {B : Nat} (h : Turn F w w') (hF : ∀ g, F g → B ≤ g) (hB : B ≤ w.heap.size) : Below B w w' :=
  ⟨h.os, h.tape, h.output, h.size, fun k hk => h.block k (by omega) fun e => by have := hF k e; omega⟩
theorem Turn.of {F : Nat → Prop} {w w' : World} (h : Below w.heap.size w w') : Turn F w w' := ⟨h.os, h.tape, h.output, h.size, fun g hg _ => h.block g hg⟩
theorem Turn.refl (F : Nat → Prop) (w : World) : Turn F w w := ⟨rfl, rfl, rfl, Nat.le_refl _, fun _ _ _ => rfl⟩
theorem Turn.mono {F G : Nat → Prop} {w w' : World} (h : Turn F w w') (hg : ∀ g, F g → G g) : Turn G w w' := ⟨h.os, h.tape, h.output, h.size, fun g hl hn => h.block g hl fun e => hn (hg g e)⟩
theorem Turn.trans_ {F : Nat → Prop} {w w1 w2 : World} (h : Turn F w w1) (k : Turn F w1 w2) : Turn F w w2 :=
  ⟨k.os.trans h.os, k.tape.trans h.tape, k.output.trans h.output, Nat.le_trans h.size k.size, fun g hl hn => (k.block g (Nat.lt_of_lt_of_le hl h.size) hn).trans (h.block g hl hn)⟩
theorem Turn.grown {F : Nat → Prop} {w w' : World} {row : Option Nat} (h : w.grownBy w' row) (hr : ∀ g, row = some g → F g ∨ w.heap.size ≤ g) : Turn F w w' :=
  ⟨h.os, h.tape, h.output, h.size, fun g hl hn => h.block g hl fun e => (hr g e.symm).elim hn fun h => by omega⟩
theorem Turn.set_ {F : Nat → Prop} {w : World} {a : Addr} (hF : F a.block) (u : Value) : Turn F w (w.setCell a u) :=
  ⟨rfl, rfl, rfl, by simp [World.setCell], fun g _ hn => Below.heap_setCell w a u g fun e => hn (by rw [e]; exact hF)⟩
/-- blocks that are new ahead count as new -/
theorem Turn.late {F G : Nat → Prop} {w w1 w2 : World} (h : Turn F w w1) (k : Turn G w1 w2) (hG : ∀ g, G g → F g ∨ w.heap.size ≤ g) : Turn F w w2 :=
  ⟨k.os.trans h.os, k.tape.trans h.tape, k.output.trans h.output, Nat.le_trans h.size k.size, fun g hl hn => (k.block g (Nat.lt_of_lt_of_le hl h.size) (fun e => (hG g e).elim hn fun h => by omega)).trans (h.block g hl hn)⟩
theorem Turn.drewN_ {F : Nat → Prop} {w w' : World} (h : Turn F w w') (k : Nat) : Turn F w (w'.drewN k) := ⟨h.os, h.tape, h.output, h.size, h.block⟩
theorem Turn.drew {F : Nat → Prop} {w w' : World} (h : Turn F w w') : Turn F w w'.drew := ⟨h.os, h.tape, h.output, h.size, h.block⟩
theorem Turn.from_drew {F : Nat → Prop} {w w' : World} {k : Nat} (h : Turn F (w.drewN k) w') : Turn F w w' := ⟨h.os, h.tape, h.output, h.size, h.block⟩
theorem Turn.far {F : Nat → Prop} {w w' : World} (h : Turn F w w') {g : Nat} {t : TypeId} {cs : List Value} (hf : Full w g t cs) (hn : ¬ F g) : Full w' g t cs := (h.block g hf.lt hn).trans hf

/-- .. and the blocks that belong to it behind the call are those of F, or new. -/
structure Goes (F : Nat → Prop) (w w' : World) (F' : Nat → Prop) : Prop where
  turn : Turn F w w'
  back : ∀ g, F' g → F g ∨ w.heap.size ≤ g
theorem Goes.trans {F F1 F2 : Nat → Prop} {w w1 w2 : World} (h : Goes F w w1 F1) (k : Goes F1 w1 w2 F2) : Goes F w w2 F2 where
  turn := ⟨k.turn.os.trans h.turn.os, k.turn.tape.trans h.turn.tape, k.turn.output.trans h.turn.output, Nat.le_trans h.turn.size k.turn.size, fun g hg hF => by
    have h1 : ¬ F1 g := fun e => (h.back g e).elim hF fun h => by omega
    rw [k.turn.block g (Nat.lt_of_lt_of_le hg h.turn.size) h1, h.turn.block g hg hF]⟩
  back := fun g hg => (k.back g hg).elim (h.back g) fun h1 => .inr (Nat.le_trans h.turn.size h1)
theorem Goes.of {F : Nat → Prop} {w w' : World} (h : Below w.heap.size w w') : Goes F w w' F := ⟨Turn.of h, fun _ h => .inl h⟩
theorem Goes.refl (F : Nat → Prop) (w : World) : Goes F w w F := ⟨Turn.refl F w, fun _ h => .inl h⟩
theorem Goes.pre {F F' : Nat → Prop} {w w1 w2 : World} (h : Below w.heap.size w w1) (k : Goes F w1 w2 F') : Goes F w w2 F' := (Goes.of h).trans k
theorem Goes.drewN_ {F F' : Nat → Prop} {w w' : World} (h : Goes F w w' F') (k : Nat) : Goes F w (w'.drewN k) F' := ⟨h.turn.drewN_ k, h.back⟩
theorem Goes.drew {F F' : Nat → Prop} {w w' : World} (h : Goes F w w' F') : Goes F w w'.drew F' := ⟨h.turn.drew, h.back⟩
theorem Goes.same {F : Nat → Prop} {w w' : World} (h : Turn F w w') : Goes F w w' F := ⟨h, fun _ h => .inl h⟩
theorem Goes.below {F F' : Nat → Prop} {w w' : World} {B : Nat} (h : Goes F w w' F') (hF : ∀ g, F g → B ≤ g) (hB : B ≤ w.heap.size) : Below B w w' := h.turn.below hF hB
theorem Goes.ge {F F' : Nat → Prop} {w w' : World} {B : Nat} (h : Goes F w w' F') (hF : ∀ g, F g → B ≤ g) (hB : B ≤ w.heap.size) : ∀ g, F' g → B ≤ g :=
  fun g hg => (h.back g hg).elim (hF g) fun h => by omega

/-- The slice's cells lie in blocks of F. -/
def RowF (w : World) (F : Nat → Prop) (size : Nat) (A : Option Addr) (n c : Nat) (xs : List Value) : Prop :=
  xs.length = n * size ∧ n ≤ c ∧ (A = none → c = 0) ∧ ∀ j u, xs[j]? = some u → ∃ ad, A = some ad ∧ F ad.block ∧ w.cell? (ad.add j) = some u
theorem RowF.keep {w w' : World} {F G : Nat → Prop} {size n c : Nat} {A : Option Addr} {xs : List Value} (h : RowF w F size A n c xs) (hk : ∀ g, F g → G g ∧ w'.heap[g]? = w.heap[g]?) : RowF w' G size A n c xs :=
  ⟨h.1, h.2.1, h.2.2.1, fun j u hj => by
    obtain ⟨ad, e, hg, hc⟩ := h.2.2.2 j u hj
    exact ⟨ad, e, (hk _ hg).1, (cell_of_heap (by rw [add_block]; exact (hk _ hg).2)).trans hc⟩⟩
theorem RowF.row {w : World} {F : Nat → Prop} {size n c B : Nat} {A : Option Addr} {xs : List Value} (h : RowF w F size A n c xs) (hF : ∀ g, F g → g < B) : Row w B size A n c xs :=
  ⟨h.1, h.2.1, h.2.2.1, fun j u hj => by
    obtain ⟨ad, e, hg, hc⟩ := h.2.2.2 j u hj
    exact ⟨ad, e, hF _ hg, hc⟩⟩
theorem RowF.nil (w : World) (F : Nat → Prop) (size : Nat) : RowF w F size none 0 0 [] := ⟨by simp, Nat.le_refl _, fun _ => rfl, fun j u hj => by simp at hj⟩

theorem owns_keep {w w' : World} {base size n : Nat} {e : TypeId} {v : Value} {xs : List Value} (h : w.ownsRow base e size v n xs) (hb : ∀ g, v.ownBlock = some g → w'.heap[g]? = w.heap[g]?) : w'.ownsRow base e size v n xs := by
  refine ⟨h.1, ?_⟩
  rcases h.2 with h0 | ⟨g, cap, cur, rfl, hg, hh, h3⟩
  · exact .inl h0
  · exact .inr ⟨g, cap, cur, rfl, hg, (hb g rfl).trans hh, h3⟩
theorem owns_lt {w : World} {base size n : Nat} {e : TypeId} {v : Value} {xs : List Value} (h : w.ownsRow base e size v n xs) : ∀ g, v.ownBlock = some g → g < w.heap.size := by
  intro g hg
  rcases h.2 with ⟨rfl, _⟩ | ⟨g', cap, cur, rfl, _, hh, _⟩
  · simp [Value.ownBlock] at hg
  · obtain rfl : g' = g := by simpa [Value.ownBlock] using hg
    exact (Array.getElem?_eq_some_iff.1 hh).1
theorem owns_row {w : World} {base size n c : Nat} {e : TypeId} {A : Option Addr} {xs : List Value} {F : Nat → Prop} (h : w.ownsRow base e size (.slice A n c) n xs) (hF : ∀ g, (Value.slice A n c).ownBlock = some g → F g) : RowF w F size A n c xs := by
  have hl := h.1
  rcases h.2 with ⟨hv, h0⟩ | ⟨g, cap, cur, hv, _, hg, hle, _⟩
  · injection hv with h1 h2 h3
    subst h1 h2 h3
    have hx : xs = [] := List.eq_nil_of_length_eq_zero (by simpa using hl)
    subst hx
    exact ⟨by simp, Nat.le_refl _, fun _ => rfl, fun j u hj => by simp at hj⟩
  · injection hv with h1 h2 h3
    subst h1 h3
    exact ⟨hl, by omega, fun h => (by cases h), fun j u hj => ⟨_, rfl, hF g rfl, h.cells (g := g) rfl j u hj⟩⟩
theorem owns_base {w : World} {base base' size n : Nat} {e : TypeId} {v : Value} {xs : List Value} (h : w.ownsRow base e size v n xs) (hb : ∀ g, v.ownBlock = some g → base' ≤ g) : w.ownsRow base' e size v n xs := by
  refine ⟨h.1, h.2.imp id ?_⟩
  rintro ⟨g, cap, cur, rfl, h1, h2⟩
  exact ⟨g, cap, cur, rfl, hb g rfl, h2⟩

theorem own_block {w : World} {base size n c : Nat} {e : TypeId} {a : Addr} {xs : List Value} (h : w.ownsRow base e size (.slice (some a) n c) n xs) :
    ∃ g cur, a = ⟨g, 0, none⟩ ∧ base ≤ g ∧ w.heap[g]? = some (.cells cur e (0, 0)) ∧ n ≤ c ∧ c ≤ maxLen ∧ cur.size = c * size ∧ cur.toList.take (n * size) = xs := by
  rcases h.2 with ⟨h0, _⟩ | ⟨g, cap, cur, hv, h1, h2, h3, h4, h5, h6⟩
  · cases h0
  · injection hv with e1 e2 e3
    injection e1 with e1
    subst e3
    exact ⟨g, cur, e1, h1, h2, h3, h4, h5, h6⟩
theorem own_of_block {w : World} {base size n c g : Nat} {e : TypeId} {cur : Array Value} {xs : List Value} (h1 : base ≤ g) (h2 : w.heap[g]? = some (.cells cur e (0, 0))) (h3 : n ≤ c) (h4 : c ≤ maxLen) (h5 : cur.size = c * size) (h6 : cur.toList.take (n * size) = xs) :
    w.ownsRow base e size (.slice (some ⟨g, 0, none⟩) n c) n xs := by
  refine ⟨?_, .inr ⟨g, c, cur, rfl, h1, h2, h3, h4, h5, h6⟩⟩
  rw [← h6, List.length_take, Array.length_toList, h5]
  exact Nat.min_eq_left (Nat.mul_le_mul_right _ h3)
theorem own_set {W : World} {base g n c size : Nat} {t : TypeId} {xs : List Value} (h : W.ownsRow base t size (.slice (some ⟨g, 0, none⟩) n c) n xs) (q : Nat) (u : Value) :
    (W.setCell ⟨g, q, none⟩ u).ownsRow base t size (.slice (some ⟨g, 0, none⟩) n c) n (xs.set q u) := by
  obtain ⟨g', cur, e, hb, hh, hle, hm, hcs, ht⟩ := own_block h
  obtain rfl : g = g' := by injection e
  exact own_of_block (cur := cur.setIfInBounds q u) hb (by simp [World.setCell, Array.getElem?_modify, hh]) hle hm (by simp [hcs]) (by rw [Array.toList_setIfInBounds, List.take_set, ht])
theorem own_cell {W : World} {base g n c size q : Nat} {t : TypeId} {xs : List Value} (h : W.ownsRow base t size (.slice (some ⟨g, 0, none⟩) n c) n xs) (hq : q < n * size) : W.cell? ⟨g, q, none⟩ = xs[q]? ∧ W.frozen? ⟨g, q, none⟩ = false := by
  obtain ⟨g', cur, e, hb, hh, hle, hm, hcs, ht⟩ := own_block h
  obtain rfl : g = g' := by injection e
  have hqc : q < cur.size := by rw [hcs]; exact Nat.lt_of_lt_of_le hq (Nat.mul_le_mul_right _ hle)
  refine ⟨?_, by simp [World.frozen?, hh]⟩
  rw [← ht, List.getElem?_take_of_lt hq]
  simp [World.cell?, hh]
theorem own_cut {W : World} {base g n c size m : Nat} {t : TypeId} {xs : List Value} (h : W.ownsRow base t size (.slice (some ⟨g, 0, none⟩) n c) n xs) (hm : m ≤ n) :
    W.ownsRow base t size (.slice (some ⟨g, 0, none⟩) m c) m (xs.take (m * size)) := by
  obtain ⟨g', cur, e, hb, hh, hle, hmx, hcs, ht⟩ := own_block h
  obtain rfl : g = g' := by injection e
  exact own_of_block (cur := cur) hb hh (Nat.le_trans hm hle) hmx hcs (by rw [← ht, List.take_take, Nat.min_eq_left (Nat.mul_le_mul_right _ hm)])
theorem own_full {w : World} {g size n base : Nat} {t : TypeId} {cs : List Value} (h : Full w g t cs) (hn : cs.length = n * size) (hm : n ≤ maxLen) (hb : base ≤ g) : w.ownsRow base t size (.slice (some ⟨g, 0, none⟩) n n) n cs :=
  own_of_block (cur := cs.toArray) hb h (Nat.le_refl _) hm (by simpa using hn) (by rw [List.toList_toArray, List.take_of_length_le (Nat.le_of_eq hn)])
/-- a row of at least one element has a block -/
theorem own_some {w : World} {base size n : Nat} {e : TypeId} {v : Value} {xs : List Value} (h : w.ownsRow base e size v n xs) (hn : 0 < n) : ∃ g c, v = .slice (some ⟨g, 0, none⟩) n c ∧ g < w.heap.size ∧ n ≤ c ∧ c ≤ maxLen := by
  rcases h.2 with ⟨_, h0⟩ | ⟨g, cap, cur, hv, _, hg, hle, hm, _⟩
  · omega
  · exact ⟨g, cap, hv, (Array.getElem?_eq_some_iff.1 hg).1, hle, hm⟩

/-- cells of ints -/
def intC (l : List Int) : List Value := l.map fun k => Value.int .i64 k
theorem natC_len (l : List Nat) : (natC l).length = l.length := by simp [natC]
theorem natC_at (l : List Nat) (k : Nat) (hk : k < l.length) : (natC l)[k]? = some (.int .i64 ((l.getD k 0 : Nat) : Int)) := by simp [natC, hk]
theorem natC_set (l : List Nat) (k x : Nat) : natC (l.set k x) = (natC l).set k (.int .i64 (x : Int)) := by simp [natC, List.map_set]
theorem natC_take (l : List Nat) (k : Nat) : natC (l.take k) = (natC l).take k := by simp [natC, List.map_take]
theorem natC_snoc (l : List Nat) (x : Nat) : natC (l ++ [x]) = natC l ++ [.int .i64 (x : Int)] := by simp [natC]
theorem intC_len (l : List Int) : (intC l).length = l.length := by simp [intC]
theorem intC_at (l : List Int) (k : Nat) (hk : k < l.length) : (intC l)[k]? = some (.int .i64 (l.getD k 0)) := by simp [intC, hk]
theorem intC_snoc (l : List Int) (x : Int) : intC (l ++ [x]) = intC l ++ [.int .i64 x] := by simp [intC]
theorem natC_int (l : List Nat) : natC l = intC (l.map Int.ofNat) := by simp [natC, intC]
end Go.Proofs.YtcjoiiaankngjaaGreatDoor
/- Tokens: what the scanner finds, on lists of bytes. -/
namespace Go.Proofs.YtcjoiiaankngjaaGreatDoor
set_option maxRecDepth 100000
abbrev B := List UInt8
def isLet (c : UInt8) : Bool := (decide (97 ≤ c.toNat) && decide (c.toNat ≤ 122)) || (decide (65 ≤ c.toNat) && decide (c.toNat ≤ 90)) || decide (c.toNat = 95)
def isDig (c : UInt8) : Bool := decide (48 ≤ c.toNat) && decide (c.toNat ≤ 57)
def isCont (c : UInt8) : Bool := isLet c || isDig c || decide (c.toNat = 45) || decide (c.toNat = 46)
def isSym (c : UInt8) : Bool := c == 123 || c == 125 || c == 40 || c == 41 || c == 44 || c == 59
def notStr (c : UInt8) : Bool := c == 34 || c == 10
/-- the length of the run at the beginning -/
def run (f : UInt8 → Bool) : B → Nat
  | [] => 0
  | c :: t => if f c then run f t + 1 else 0
theorem run_le (f : UInt8 → Bool) : ∀ s, run f s ≤ s.length
  | [] => Nat.le_refl _
  | c :: t => by unfold run; have := run_le f t; split <;> simp <;> omega
theorem run_at (f : UInt8 → Bool) : ∀ (s : B) (k : Nat) (_h : k < run f s), ∃ hk : k < s.length, f s[k] = true
  | [], k, h => by simp [run] at h
  | c :: t, k, h => by
    unfold run at h
    split at h
    · rename_i hc
      cases k with
      | zero => exact ⟨by simp, hc⟩
      | succ k =>
        obtain ⟨hk, e⟩ := run_at f t k (by omega)
        exact ⟨by simp; omega, by simpa using e⟩
    · omega
theorem run_stop (f : UInt8 → Bool) : ∀ (s : B) (h : run f s < s.length), f s[run f s] = false
  | [], h => by simp at h
  | c :: t, h => by
    by_cases hc : f c = true
    · have e : run f (c :: t) = run f t + 1 := by rw [run, if_pos hc]
      have := run_stop f t (by rw [e] at h; simpa using h)
      simp only [e, List.getElem_cons_succ]; exact this
    · have e : run f (c :: t) = 0 := by rw [run, if_neg hc]
      simp only [e, List.getElem_cons_zero]; simpa using hc
/-- what a run is: all hold before it, and what stands there doesn't -/
theorem run_eq (f : UInt8 → Bool) (s : B) (k : Nat) (hk : k ≤ s.length) (h1 : ∀ i (hi : i < k), f (s[i]'(by omega)) = true) (h2 : ∀ h : k < s.length, f s[k] = false) : run f s = k := by
  rcases Nat.lt_trichotomy (run f s) k with h | h | h
  · have := run_stop f s (by omega); rw [h1 _ h] at this; cases this
  · exact h
  · obtain ⟨hk', e⟩ := run_at f s k h
    rw [h2 hk'] at e; cases e
/-- the length of the string at the beginning, with its marks; 0 if there is none -/
def strLen (t : B) : Nat :=
  let k := run (fun c => !notStr c) t
  if t[k]? = some 34 then k + 2 else 0
/-- class and length: 0 wrong, 1 end, 2 word, 3 number, 4 string, 5 symbol -/
def first : B → Nat × Nat
  | [] => (1, 0)
  | c :: t =>
    if isLet c then (2, run isCont (c :: t))
    else if isDig c then (3, run isDig (c :: t))
    else if isSym c then (5, 1)
    else if c = 34 ∧ strLen t ≠ 0 then (4, strLen t)
    else (0, 1)
theorem first_le (s : B) : (first s).2 ≤ s.length := by
  cases s with
  | nil => exact Nat.le_refl _
  | cons c t =>
    rw [first]
    split
    · exact run_le _ _
    · split
      · exact run_le _ _
      · split
        · simp
        · split
          · rename_i h
            have := h.2
            unfold strLen at this ⊢
            dsimp only at this ⊢
            split at this
            · rename_i h1
              rw [if_pos h1]
              have := (List.getElem?_eq_some_iff.1 h1).1
              simp; omega
            · exact absurd rfl this
          · simp
theorem first_pos {s : B} (h0 : s ≠ []) : 1 ≤ (first s).2 := by
  cases s with
  | nil => exact absurd rfl h0
  | cons c t =>
    rw [first]
    split
    · rename_i hc
      have : isCont c = true := by unfold isCont; rw [hc]; rfl
      rw [show run isCont (c :: t) = run isCont t + 1 by rw [run, if_pos this]]; exact Nat.le_add_left _ _
    · split
      · rename_i hc
        rw [show run isDig (c :: t) = run isDig t + 1 by rw [run, if_pos hc]]; exact Nat.le_add_left _ _
      · split
        · exact Nat.le_refl _
        · split
          · rename_i h; have := h.2; omega
          · exact Nat.le_refl _
/-- past blanks and comments; the flag: within a comment -/
def skip : Bool → B → Nat → B × Nat
  | _, [], n => ([], n)
  | true, c :: t, n => if c = 10 then skip false t (n + 1) else skip true t n
  | false, c :: t, n =>
    if c = 10 then skip false t (n + 1)
    else if c = 32 ∨ c = 9 ∨ c = 13 then skip false t n
    else if c = 35 then skip true t n
    else (c :: t, n)
theorem skip_len : ∀ (f : Bool) (s : B) (n : Nat), (skip f s n).1.length ≤ s.length ∧ n ≤ (skip f s n).2 ∧ (skip f s n).2 ≤ n + s.length
  | f, [], n => by cases f <;> simp [skip]
  | true, c :: t, n => by
    unfold skip
    split
    · have := skip_len false t (n + 1); simp; omega
    · have := skip_len true t n; simp; omega
  | false, c :: t, n => by
    unfold skip
    split
    · have := skip_len false t (n + 1); simp; omega
    · split
      · have := skip_len false t n; simp; omega
      · split
        · have := skip_len true t n; simp; omega
        · simp
/-- a comment is passed over as a whole -/
theorem skip_comment (n : Nat) : ∀ s : B, skip true s n = skip false (s.drop (run (fun c => c != 10) s)) n
  | [] => by simp [skip]
  | c :: t => by
    by_cases hc : c = 10
    · subst hc
      simp [skip, run]
    · have h1 : (c != 10) = true := by simpa using hc
      rw [show run (fun c => c != 10) (c :: t) = run (fun c => c != 10) t + 1 by rw [run, if_pos h1]]
      rw [List.drop_succ_cons, ← skip_comment n t]
      rw [skip, if_neg hc]
structure Tok where
  cls : Nat
  txt : B
  ln : Nat

def next (s : B) (n : Nat) : Tok × B × Nat :=
  let p := skip false s n
  let f := first p.1
  (⟨f.1, p.1.take f.2, p.2⟩, p.1.drop f.2, p.2)
def toksF : Nat → B → Nat → List Tok
  | 0, _, _ => []
  | f + 1, s, n => let p := next s n; if p.1.cls ≤ 1 then [p.1] else p.1 :: toksF f p.2.1 p.2.2
def toks (s : B) (n : Nat) : List Tok := toksF (s.length + 1) s n
theorem next_len (s : B) (n : Nat) : (next s n).1.cls ≠ 1 → (next s n).2.1.length < s.length := by
  unfold next
  dsimp only
  intro h
  have h1 := (skip_len false s n).1
  have hne : (skip false s n).1 ≠ [] := fun e => h (by rw [e]; rfl)
  have h2 := first_pos hne
  have h3 := first_le (skip false s n).1
  rw [List.length_drop]; omega
theorem toksF_fuel : ∀ (f g : Nat) (s : B) (n : Nat), s.length < f → s.length < g → toksF f s n = toksF g s n
  | 0, _, _, _, h, _ => absurd h (Nat.not_lt_zero _)
  | _ + 1, 0, _, _, _, h => absurd h (Nat.not_lt_zero _)
  | f + 1, g + 1, s, n, hf, hg => by
    unfold toksF
    dsimp only
    split
    · rfl
    · rename_i h
      have := next_len s n (by omega)
      rw [toksF_fuel f g _ _ (by omega) (by omega)]
theorem toks_eq (s : B) (n : Nat) : toks s n = if (next s n).1.cls ≤ 1 then [(next s n).1] else (next s n).1 :: toks (next s n).2.1 (next s n).2.2 := by
  unfold toks
  rw [toksF]
  split
  · rfl
  · rename_i h
    have := next_len s n (by omega)
    rw [toksF_fuel _ ((next s n).2.1.length + 1) _ _ (by omega) (by omega)]
end Go.Proofs.YtcjoiiaankngjaaGreatDoor
/- Classes of bytes; the length of a run. -/
namespace Go.Proofs.YtcjoiiaankngjaaGreatDoor
set_option maxRecDepth 100000
open Go.RowKit
/-- a bool, in the same world -/
def BoolE (w : World) (b : Bool) (e : Ending) (w' : World) : Prop := e = .returned (.bool b) ∧ w' = w
theorem begins_any (c : UInt8) (w : World) : Calls Tryz.prog 130 #[.int .u8 (c.toNat : Int)] w (BoolE w (isLet c)) := by
  unfold BoolE
  have hc := c.toNat_lt
  obtain ⟨z, hz, h0, h1⟩ : ∃ z : Int, (c.toNat : Int) = z ∧ 0 ≤ z ∧ z ≤ 255 := ⟨_, rfl, by omega, by omega⟩
  have e : isLet c = ((decide (97 ≤ z) && decide (z ≤ 122)) || (decide (65 ≤ z) && decide (z ≤ 90)) || decide (z = 95)) := by
    unfold isLet
    rw [← hz]
    congr 1
    · congr 1
      · congr 1 <;> (apply decide_eq_decide.2; omega)
      · congr 1 <;> (apply decide_eq_decide.2; omega)
    · apply decide_eq_decide.2; omega
  rw [e, hz]
  clear e hz hc
  go_enter Tryz.func130, Tryz.ntmps130
  go_wp2
  all_goals (go_ret; refine ⟨ret_bool ?_, rfl⟩; first | rfl | (simp_all; done) | (simp; omega) | (rw [Bool.eq_iff_iff]; simp; omega))
theorem digit_any (c : UInt8) (w : World) : Calls Tryz.prog 133 #[.int .u8 (c.toNat : Int)] w (BoolE w (isDig c)) := by
  unfold BoolE
  have hc := c.toNat_lt
  obtain ⟨z, hz, h0, h1⟩ : ∃ z : Int, (c.toNat : Int) = z ∧ 0 ≤ z ∧ z ≤ 255 := ⟨_, rfl, by omega, by omega⟩
  have e : isDig c = (decide (48 ≤ z) && decide (z ≤ 57)) := by
    unfold isDig
    rw [← hz]
    congr 1 <;> (apply decide_eq_decide.2; omega)
  rw [e, hz]
  clear e hz hc
  go_enter Tryz.func133, Tryz.ntmps133
  go_wp2
  all_goals (go_ret; refine ⟨ret_bool ?_, rfl⟩; first | rfl | (simp_all; done) | (simp; omega) | (rw [Bool.eq_iff_iff]; simp; omega))
theorem cont_any (c : UInt8) (w : World) : Calls Tryz.prog 132 #[.int .u8 (c.toNat : Int)] w (BoolE w (isCont c)) := by
  have B := Lib.hid (begins_any c w)
  have D := Lib.hid (digit_any c w)
  unfold BoolE at B D ⊢
  unfold isCont
  have hc := c.toNat_lt
  obtain ⟨z, hz, h0, h1⟩ : ∃ z : Int, (c.toNat : Int) = z ∧ 0 ≤ z ∧ z ≤ 255 := ⟨_, rfl, by omega, by omega⟩
  have e1 : decide (c.toNat = 45) = decide (z = 45) := decide_eq_decide.2 (by omega)
  have e2 : decide (c.toNat = 46) = decide (z = 46) := decide_eq_decide.2 (by omega)
  obtain ⟨b, hb⟩ : ∃ b, isLet c = b := ⟨_, rfl⟩
  obtain ⟨d, hd⟩ : ∃ d, isDig c = d := ⟨_, rfl⟩
  rw [hz, hb] at B
  rw [hz, hd] at D
  rw [hz, hb, hd, e1, e2]
  clear hb hd e1 e2 hz hc
  have q45 : decide (z = 45) = (z == 45) := by rw [Bool.eq_iff_iff]; simp
  have q46 : decide (z = 46) = (z == 46) := by rw [Bool.eq_iff_iff]; simp
  rw [q45, q46]
  clear q45 q46
  obtain ⟨x, hx⟩ : ∃ x, (z == 45) = x := ⟨_, rfl⟩
  obtain ⟨y, hy⟩ : ∃ y, (z == 46) = y := ⟨_, rfl⟩
  cases b <;> cases d <;> cases x <;> cases y
  all_goals
    go_enter Tryz.func132, Tryz.ntmps132
    go_wp2_with (first
      | (go_at_call 130; ((with_reducible refine B.out.mono ?_); rintro e w1 ⟨rfl, rfl⟩))
      | (go_at_call 133; ((with_reducible refine D.out.mono ?_); rintro e w2 ⟨rfl, rfl⟩))
      | (fail "arm"))
    all_goals (go_ret; refine ⟨ret_bool ?_, rfl⟩; first | rfl | (simp [hx, hy]; done) | simp_all)
theorem runCont_any (s : ByteArray) (hs : s.size ≤ 281474976710656) (w : World) :
    Calls Tryz.prog 131 #[.string s, .func (.func 132) #[] #[]] w fun e w' => e = .returned (.int .i64 ((run isCont s.data.toList : Nat) : Int)) ∧ w' = w := by
  obtain ⟨R, hR⟩ : ∃ R, run isCont s.data.toList = R := ⟨_, rfl⟩
  have hRl : R ≤ s.size := by rw [← hR]; have := run_le isCont s.data.toList; rwa [data_len] at this
  have HA := Lib.hid (fun (k : Nat) (h : k < R) (hs : k < s.size) => (show isCont s[k] = true from by
    obtain ⟨_, h2⟩ := run_at isCont s.data.toList k (by rw [hR]; exact h)
    show isCont s.data[k] = true
    simpa using h2))
  have HZ := Lib.hid (fun (h : R < s.size) => (show isCont s[R] = false from by
    have := run_stop isCont s.data.toList (by rw [hR, data_len]; exact h)
    simp only [hR] at this
    first | (show isCont s.data[R] = false; simpa using this) | (show isDig s.data[R] = false; simpa using this)))
  have HF := Lib.hid cont_any
  unfold BoolE at HF
  rw [hR]
  have hsi : (s.size : Int) ≤ 281474976710656 := by omega
  clear hR
  go_enter Tryz.func131, Tryz.ntmps131
  go_upto_region 2 with fail
  go_loopw [5] (fun v5 wr => ∃ k : Nat, v5 = .int .i64 (k : Int) ∧ k ≤ R ∧ wr = w) (fun v5 _ => R - (intOf v5).toNat)
  case atStart => exact ⟨0, rfl, Nat.zero_le _, rfl⟩
  case round =>
    obtain ⟨k, rfl, hk, hww⟩ := hrel
    rw [hww]
    clear hww
    have k0 : (0 : Int) ≤ (k : Int) := Int.natCast_nonneg _
    by_cases hkR : k < R
    · have hks : k < s.size := by omega
      have k1 : (k : Int) < (s.size : Int) := by omega
      have hp := HA.out k hkR hks
      have C := Lib.hid (HF.out s[k] w)
      rw [hp] at C
      clear hp
      go_wp2_with (first
        | (go_at_call 132; ((with_reducible refine C.out.mono ?_); rintro e w1 ⟨rfl, rfl⟩))
        | (fail "arm"))
      go_roundw
      case rel => exact ⟨k + 1, by go_num, by omega, by simp⟩
      case measure => simp [intOf]; omega
    · obtain rfl : R = k := by omega
      by_cases hks : R < s.size
      · have k1 : (R : Int) < (s.size : Int) := by omega
        have hp := HZ.out hks
        have C := Lib.hid (HF.out s[R] w)
        rw [hp] at C
        clear hp
        go_wp2_with (first
          | (go_at_call 132; ((with_reducible refine C.out.mono ?_); rintro e w1 ⟨rfl, rfl⟩))
          | (fail "arm"))
        go_ret
        exact ⟨rfl, rfl⟩
      · have k1 : ¬ (R : Int) < (s.size : Int) := by omega
        go_wp2
        go_ret
        exact ⟨rfl, rfl⟩
theorem runDig_any (s : ByteArray) (hs : s.size ≤ 281474976710656) (w : World) :
    Calls Tryz.prog 131 #[.string s, .func (.func 133) #[] #[]] w fun e w' => e = .returned (.int .i64 ((run isDig s.data.toList : Nat) : Int)) ∧ w' = w := by
  obtain ⟨R, hR⟩ : ∃ R, run isDig s.data.toList = R := ⟨_, rfl⟩
  have hRl : R ≤ s.size := by rw [← hR]; have := run_le isDig s.data.toList; rwa [data_len] at this
  have HA := Lib.hid (fun (k : Nat) (h : k < R) (hs : k < s.size) => (show isDig s[k] = true from by
    obtain ⟨_, h2⟩ := run_at isDig s.data.toList k (by rw [hR]; exact h)
    show isDig s.data[k] = true
    simpa using h2))
  have HZ := Lib.hid (fun (h : R < s.size) => (show isDig s[R] = false from by
    have := run_stop isDig s.data.toList (by rw [hR, data_len]; exact h)
    simp only [hR] at this
    first | (show isCont s.data[R] = false; simpa using this) | (show isDig s.data[R] = false; simpa using this)))
  have HF := Lib.hid digit_any
  unfold BoolE at HF
  rw [hR]
  have hsi : (s.size : Int) ≤ 281474976710656 := by omega
  clear hR
  go_enter Tryz.func131, Tryz.ntmps131
  go_upto_region 2 with fail
  go_loopw [5] (fun v5 wr => ∃ k : Nat, v5 = .int .i64 (k : Int) ∧ k ≤ R ∧ wr = w) (fun v5 _ => R - (intOf v5).toNat)
  case atStart => exact ⟨0, rfl, Nat.zero_le _, rfl⟩
  case round =>
    obtain ⟨k, rfl, hk, hww⟩ := hrel
    rw [hww]
    clear hww
    have k0 : (0 : Int) ≤ (k : Int) := Int.natCast_nonneg _
    by_cases hkR : k < R
    · have hks : k < s.size := by omega
      have k1 : (k : Int) < (s.size : Int) := by omega
      have hp := HA.out k hkR hks
      have C := Lib.hid (HF.out s[k] w)
      rw [hp] at C
      clear hp
      go_wp2_with (first
        | (go_at_call 133; ((with_reducible refine C.out.mono ?_); rintro e w1 ⟨rfl, rfl⟩))
        | (fail "arm"))
      go_roundw
      case rel => exact ⟨k + 1, by go_num, by omega, by simp⟩
      case measure => simp [intOf]; omega
    · obtain rfl : R = k := by omega
      by_cases hks : R < s.size
      · have k1 : (R : Int) < (s.size : Int) := by omega
        have hp := HZ.out hks
        have C := Lib.hid (HF.out s[R] w)
        rw [hp] at C
        clear hp
        go_wp2_with (first
          | (go_at_call 133; ((with_reducible refine C.out.mono ?_); rintro e w1 ⟨rfl, rfl⟩))
          | (fail "arm"))
        go_ret
        exact ⟨rfl, rfl⟩
      · have k1 : ¬ (R : Int) < (s.size : Int) := by omega
        go_wp2
        go_ret
        exact ⟨rfl, rfl⟩
end Go.Proofs.YtcjoiiaankngjaaGreatDoor
/-
  DERIVED: THE SHELF's CONTRACTS AT THIS DUMP, IN PLAIN WORDS (tools/lay-plain.mjs out of 'TryzShelf.lean', which tools/lay-shelf.mjs wrote): THE SAME DECLARATIONS UNDER THE SAME YtcjoiiaankngjaaGreatDoorS: 'import', 'namespace', 'open', 'def', 'theorem' AND NOTHING ELSE: no command of the shelf's: FOR A HAND-IN. Each laying: the table of numbers ('.._ren') and one theorem, a field a fact of the dump's own or the kernel's comparison; each contract: ONE APPLICATION.
-/
namespace Go.Proofs
open Go.Shelf
def Tryz.lays169_ren : Go.Shelf.Ren := ⟨fun | 169 => 36 | n => n, fun | 70 => 72 | 9 => 9 | 0 => 0 | 72 => 75 | 37 => 73 | 127 => 112 | 3 => 3 | 5 => 5 | n => n, fun | n => n⟩
theorem Tryz.lays169 : Go.Proofs.Lays.n169 Tryz.prog Tryz.lays169_ren := {
  mixed := by kernel_rfl
  f169 := Tryz.func36.trans (congrArg some (by kernel_rfl))
  t0 := Tryz.underlying0
  a0 := Tryz.isAgg0
  z0 := Tryz.sizeOf0
  v0 := Tryz.zeroValue0
  t3 := Tryz.underlying3
  a3 := Tryz.isAgg3
  z3 := Tryz.sizeOf3
  v3 := Tryz.zeroValue3
  t9 := Tryz.underlying9
  a9 := Tryz.isAgg9
  z9 := Tryz.sizeOf9
  v9 := Tryz.zeroValue9
  t37 := Tryz.underlying73
  a37 := Tryz.isAgg73
  z37 := Tryz.sizeOf73
  v37 := Tryz.zeroValue73
  t70 := Tryz.underlying72
  a70 := Tryz.isAgg72
  z70 := Tryz.sizeOf72
  v70 := Tryz.zeroValue72
  t72 := Tryz.underlying75
  a72 := Tryz.isAgg75
  z72 := Tryz.sizeOf75
  v72 := Tryz.zeroValue75
  t127 := Tryz.underlying112
  a127 := Tryz.isAgg112
  z127 := Tryz.sizeOf112
  v127 := Tryz.zeroValue112 }
theorem Tryz.Builder_Extra_169 : Builder.Extra Tryz.prog Tryz.lays169_ren := {
  sizeBuilder := by kernel_rfl
  liesBuilder := by kernel_rfl
  t5 := Tryz.underlying5
  a5 := Tryz.isAgg5
  z5 := Tryz.sizeOf5
  v5 := Tryz.zeroValue5
  infoByte := by kernel_rfl
  cellsByte := by kernel_rfl
  sizeByte := by kernel_rfl
  neB5 := by decide }
open Go.RowKit in
/-- (*strings.Builder).String: "String returns the accumulated string.": OF A BUILDER THAT HOLDS AT LEAST ONE BYTE. ✋ THE MODEL FREEZES THOSE BYTES IN THE BUFFER (unsafe.String): a later write INTO them ends the model's run without an answer; a later append BEHIND them goes on. The statement's order of evaluation is drawn: one draw. (LAID: no walk: one application.) -/
theorem Tryz.Builder_String (B b : Nat) (l : List UInt8) (w : World) (h : Lib.IsBuilder 75 5 B b (Lib.byteCells l) w) (h0 : l ≠ []) :
    Calls Tryz.prog 36 #[.pointer (some ⟨b, 0, none⟩)] w fun e w' => e = .returned (.string ⟨l.toArray⟩) ∧ Below B w w' := Any.Builder_String Tryz.lays169 Tryz.Builder_Extra_169 B b l w h h0
open Go.RowKit in
/-- (*strings.Builder).String OF A BUILDER THAT HOLDS NO BYTE: the empty string. (Its buffer is nil, or a row of which it has taken nothing yet; where that row has NO capacity the model lays one new block for unsafe.SliceData's 'some address'.) One draw. (LAID: no walk: one application.) -/
theorem Tryz.Builder_String_empty (B b : Nat) (w : World) (h : Lib.IsBuilder 75 5 B b [] w) (hBw : B ≤ w.heap.size) :
    Calls Tryz.prog 36 #[.pointer (some ⟨b, 0, none⟩)] w fun e w' => e = .returned (.string ⟨#[]⟩) ∧ Below B w w' := Any.Builder_String_empty Tryz.lays169 Tryz.Builder_Extra_169 B b w h hBw
open Go.RowKit in
/-- (*strings.Builder).String: "String returns the accumulated string.": WHATEVER THE BUILDER HOLDS. (LAID: no walk: one application.) -/
theorem Tryz.Builder_String_any (B b : Nat) (l : List UInt8) (w : World) (h : Lib.IsBuilder 75 5 B b (Lib.byteCells l) w) (hBw : B ≤ w.heap.size) :
    Calls Tryz.prog 36 #[.pointer (some ⟨b, 0, none⟩)] w fun e w' => e = .returned (.string ⟨l.toArray⟩) ∧ Below B w w' := Any.Builder_String_any Tryz.lays169 Tryz.Builder_Extra_169 B b l w h hBw
def Tryz.lays241_ren : Go.Shelf.Ren := ⟨fun | 241 => 137 | 277 => 154 | n => n, fun | 70 => 72 | 3 => 3 | 0 => 0 | 72 => 75 | 37 => 73 | 5 => 5 | n => n, fun | n => n⟩
theorem Tryz.lays241 : Go.Proofs.Lays.n241 Tryz.prog Tryz.lays241_ren := {
  mixed := by kernel_rfl
  f241 := Tryz.func137.trans (congrArg some (by kernel_rfl))
  f277 := Tryz.func154.trans (congrArg some (by kernel_rfl))
  t0 := Tryz.underlying0
  a0 := Tryz.isAgg0
  z0 := Tryz.sizeOf0
  v0 := Tryz.zeroValue0
  t3 := Tryz.underlying3
  a3 := Tryz.isAgg3
  z3 := Tryz.sizeOf3
  v3 := Tryz.zeroValue3
  t37 := Tryz.underlying73
  a37 := Tryz.isAgg73
  z37 := Tryz.sizeOf73
  v37 := Tryz.zeroValue73
  t70 := Tryz.underlying72
  a70 := Tryz.isAgg72
  z70 := Tryz.sizeOf72
  v70 := Tryz.zeroValue72
  t72 := Tryz.underlying75
  a72 := Tryz.isAgg75
  z72 := Tryz.sizeOf75
  v72 := Tryz.zeroValue75 }
theorem Tryz.Builder_Extra_241 : Builder.Extra Tryz.prog Tryz.lays241_ren := {
  sizeBuilder := by kernel_rfl
  liesBuilder := by kernel_rfl
  t5 := Tryz.underlying5
  a5 := Tryz.isAgg5
  z5 := Tryz.sizeOf5
  v5 := Tryz.zeroValue5
  infoByte := by kernel_rfl
  cellsByte := by kernel_rfl
  sizeByte := by kernel_rfl
  neB5 := by decide }
open Go.RowKit in
/-- (*strings.Builder).grow (no doc but "grow copies the buffer to a new, larger buffer so that there are at least n bytes of capacity beyond len(b.buf)."): AT A BUILDER WITHOUT A BUFFER: a new row of whatever bytes for its buffer, none of them its own yet. Three draws. (LAID: no walk: one application.) -/
theorem Tryz.Builder_grow_fresh (B b n : Nat) (w : World) (hB : B ≤ b) (hbk : w.heap[b]? = some (.cells #[.pointer (some ⟨b, 0, none⟩), .slice none 0 0] 75 (0, 0))) (hBw : B ≤ w.heap.size) (hn : n ≤ 281474976710656) :
    Calls Tryz.prog 137 #[.pointer (some ⟨b, 0, none⟩), .int .i64 n] w fun e w' => e = .returned (.tuple #[]) ∧ (Lib.BuilderAt 75 5 B b (.pointer (some ⟨b, 0, none⟩)) [] w' ∧ Below B w w') := Any.Builder_grow_fresh Tryz.lays241 Tryz.Builder_Extra_241 B b n w hB hbk hBw hn
def Tryz.lays165_ren : Go.Shelf.Ren := ⟨fun | 165 => 119 | 240 => 118 | 241 => 137 | 276 => 136 | 277 => 154 | n => n, fun | 70 => 72 | 3 => 3 | 0 => 0 | 4 => 4 | 9 => 9 | 20 => 20 | 72 => 75 | 37 => 73 | 164 => 160 | 5 => 5 | n => n, fun | n => n⟩
theorem Tryz.lays165 : Go.Proofs.Lays.n165 Tryz.prog Tryz.lays165_ren := {
  mixed := by kernel_rfl
  f165 := Tryz.func119.trans (congrArg some (by kernel_rfl))
  f240 := Tryz.func118.trans (congrArg some (by kernel_rfl))
  f241 := Tryz.func137.trans (congrArg some (by kernel_rfl))
  f276 := Tryz.func136.trans (congrArg some (by kernel_rfl))
  f277 := Tryz.func154.trans (congrArg some (by kernel_rfl))
  t0 := Tryz.underlying0
  a0 := Tryz.isAgg0
  z0 := Tryz.sizeOf0
  v0 := Tryz.zeroValue0
  t3 := Tryz.underlying3
  a3 := Tryz.isAgg3
  z3 := Tryz.sizeOf3
  v3 := Tryz.zeroValue3
  t4 := Tryz.underlying4
  a4 := Tryz.isAgg4
  z4 := Tryz.sizeOf4
  v4 := Tryz.zeroValue4
  t9 := Tryz.underlying9
  a9 := Tryz.isAgg9
  z9 := Tryz.sizeOf9
  v9 := Tryz.zeroValue9
  t20 := Tryz.underlying20
  a20 := Tryz.isAgg20
  z20 := Tryz.sizeOf20
  v20 := Tryz.zeroValue20
  t37 := Tryz.underlying73
  a37 := Tryz.isAgg73
  z37 := Tryz.sizeOf73
  v37 := Tryz.zeroValue73
  t70 := Tryz.underlying72
  a70 := Tryz.isAgg72
  z70 := Tryz.sizeOf72
  v70 := Tryz.zeroValue72
  t72 := Tryz.underlying75
  a72 := Tryz.isAgg75
  z72 := Tryz.sizeOf75
  v72 := Tryz.zeroValue75
  t164 := Tryz.underlying160
  a164 := Tryz.isAgg160
  z164 := Tryz.sizeOf160
  v164 := Tryz.zeroValue160 }
theorem Tryz.Builder_Extra_165 : Builder.Extra Tryz.prog Tryz.lays165_ren := {
  sizeBuilder := by kernel_rfl
  liesBuilder := by kernel_rfl
  t5 := Tryz.underlying5
  a5 := Tryz.isAgg5
  z5 := Tryz.sizeOf5
  v5 := Tryz.zeroValue5
  infoByte := by kernel_rfl
  cellsByte := by kernel_rfl
  sizeByte := by kernel_rfl
  neB5 := by decide }
open Go.RowKit in
/-- (*strings.Builder).Grow AT A BUILDER THAT HAS NOT BEEN WRITTEN ('var b strings.Builder; b.Grow(n)'): "Grow grows b's capacity, if necessary, to guarantee space for another n bytes.": it holds no byte behind it as before it. (LAID: no walk: one application.) -/
theorem Tryz.Builder_Grow_fresh (B b n : Nat) (w : World) (hB : B ≤ b) (hbk : w.heap[b]? = some (.cells #[.pointer none, .slice none 0 0] 75 (0, 0))) (hBw : B ≤ w.heap.size) (hn : n ≤ 281474976710656) :
    Calls Tryz.prog 119 #[.pointer (some ⟨b, 0, none⟩), .int .i64 n] w fun e w' => e = .returned (.tuple #[]) ∧ (Lib.BuilderAt 75 5 B b (.pointer (some ⟨b, 0, none⟩)) [] w' ∧ Below B w w') := Any.Builder_Grow_fresh Tryz.lays165 Tryz.Builder_Extra_165 B b n w hB hbk hBw hn
def Tryz.lays156_ren : Go.Shelf.Ren := ⟨fun | 156 => 87 | 165 => 119 | 166 => 85 | 169 => 36 | 240 => 118 | 241 => 137 | 276 => 136 | 277 => 154 | n => n, fun | 31 => 34 | 9 => 9 | 3 => 3 | 4 => 4 | 0 => 0 | 20 => 20 | 72 => 75 | 76 => 134 | 70 => 72 | 37 => 73 | 75 => 133 | 127 => 112 | 164 => 160 | 5 => 5 | 80 => 79 | n => n, fun | n => n⟩
theorem Tryz.lays156 : Go.Proofs.Lays.n156 Tryz.prog Tryz.lays156_ren := {
  mixed := by kernel_rfl
  f156 := Tryz.func87.trans (congrArg some (by kernel_rfl))
  f165 := Tryz.func119.trans (congrArg some (by kernel_rfl))
  f166 := Tryz.func85.trans (congrArg some (by kernel_rfl))
  f169 := Tryz.func36.trans (congrArg some (by kernel_rfl))
  f240 := Tryz.func118.trans (congrArg some (by kernel_rfl))
  f241 := Tryz.func137.trans (congrArg some (by kernel_rfl))
  f276 := Tryz.func136.trans (congrArg some (by kernel_rfl))
  f277 := Tryz.func154.trans (congrArg some (by kernel_rfl))
  t0 := Tryz.underlying0
  a0 := Tryz.isAgg0
  z0 := Tryz.sizeOf0
  v0 := Tryz.zeroValue0
  t3 := Tryz.underlying3
  a3 := Tryz.isAgg3
  z3 := Tryz.sizeOf3
  v3 := Tryz.zeroValue3
  t4 := Tryz.underlying4
  a4 := Tryz.isAgg4
  z4 := Tryz.sizeOf4
  v4 := Tryz.zeroValue4
  t9 := Tryz.underlying9
  a9 := Tryz.isAgg9
  z9 := Tryz.sizeOf9
  v9 := Tryz.zeroValue9
  t20 := Tryz.underlying20
  a20 := Tryz.isAgg20
  z20 := Tryz.sizeOf20
  v20 := Tryz.zeroValue20
  t31 := Tryz.underlying34
  a31 := Tryz.isAgg34
  z31 := Tryz.sizeOf34
  v31 := Tryz.zeroValue34
  t37 := Tryz.underlying73
  a37 := Tryz.isAgg73
  z37 := Tryz.sizeOf73
  v37 := Tryz.zeroValue73
  t70 := Tryz.underlying72
  a70 := Tryz.isAgg72
  z70 := Tryz.sizeOf72
  v70 := Tryz.zeroValue72
  t72 := Tryz.underlying75
  a72 := Tryz.isAgg75
  z72 := Tryz.sizeOf75
  v72 := Tryz.zeroValue75
  t75 := Tryz.underlying133
  a75 := Tryz.isAgg133
  z75 := Tryz.sizeOf133
  v75 := Tryz.zeroValue133
  t76 := Tryz.underlying134
  a76 := Tryz.isAgg134
  z76 := Tryz.sizeOf134
  v76 := Tryz.zeroValue134
  t127 := Tryz.underlying112
  a127 := Tryz.isAgg112
  z127 := Tryz.sizeOf112
  v127 := Tryz.zeroValue112
  t164 := Tryz.underlying160
  a164 := Tryz.isAgg160
  z164 := Tryz.sizeOf160
  v164 := Tryz.zeroValue160 }
theorem Tryz.Builder_Extra_156 : Builder.Extra Tryz.prog Tryz.lays156_ren := {
  sizeBuilder := by kernel_rfl
  liesBuilder := by kernel_rfl
  t5 := Tryz.underlying5
  a5 := Tryz.isAgg5
  z5 := Tryz.sizeOf5
  v5 := Tryz.zeroValue5
  infoByte := by kernel_rfl
  cellsByte := by kernel_rfl
  sizeByte := by kernel_rfl
  neB5 := by decide }
open Go.RowKit in
/-- No element: the empty string; the world is as it was. (Whatever the slice's address and capacity: a nil slice too.) (LAID: no walk: one application.) -/
theorem Tryz.strings_Join_none (a : Option Addr) (c : Nat) (sep : ByteArray) (w : World) :
    Calls Tryz.prog 87 #[.slice a 0 c, .string sep] w fun e w' => e = .returned (.string ⟨#[]⟩) ∧ w' = w := Any.strings_Join_none Tryz.lays156 Tryz.Builder_Extra_156 a c sep w
open Go.RowKit in
/-- strings.Join: "Join concatenates the elements of its first argument to create a single string. The separator string sep is placed between elements in the resulting string.": HOWEVER MANY ELEMENTS. Below the heap's end the world is as it was. (LAID: no walk: one application.) -/
theorem Tryz.strings_Join (bk o c : Nat) (xs : List ByteArray) (sep : ByteArray) (w : World) (hcells : ∀ (j : Nat) x, xs[j]? = some x → w.cell? ⟨bk, o + j, none⟩ = some (.string x)) (hbk : bk < w.heap.size) (hN : xs.length ≤ 140737488355328) (hcap : xs.length ≤ c) (hlen : (Lib.join (xs.map (·.data.toList)) sep.data.toList).length ≤ 140737488355328) :
    Calls Tryz.prog 87 #[.slice (some ⟨bk, o, none⟩) xs.length c, .string sep] w fun e w' => e = .returned (.string ⟨(Lib.join (xs.map (·.data.toList)) sep.data.toList).toArray⟩) ∧ Below w.heap.size w w' := Any.strings_Join Tryz.lays156 Tryz.Builder_Extra_156 bk o c xs sep w hcells hbk hN hcap hlen
def Tryz.lays231_ren : Go.Shelf.Ren := ⟨fun | 231 => 141 | n => n, fun | 9 => 9 | 5 => 5 | 3 => 3 | 4 => 4 | n => n, fun | n => n⟩
theorem Tryz.lays231 : Go.Proofs.Lays.n231 Tryz.prog Tryz.lays231_ren := {
  mixed := by kernel_rfl
  f231 := Tryz.func141.trans (congrArg some (by kernel_rfl))
  t3 := Tryz.underlying3
  a3 := Tryz.isAgg3
  z3 := Tryz.sizeOf3
  v3 := Tryz.zeroValue3
  t4 := Tryz.underlying4
  a4 := Tryz.isAgg4
  z4 := Tryz.sizeOf4
  v4 := Tryz.zeroValue4
  t5 := Tryz.underlying5
  a5 := Tryz.isAgg5
  z5 := Tryz.sizeOf5
  v5 := Tryz.zeroValue5
  t9 := Tryz.underlying9
  a9 := Tryz.isAgg9
  z9 := Tryz.sizeOf9
  v9 := Tryz.zeroValue9 }
open Go.RowKit in
/-- strings.trimLeftByte (no doc; what TrimLeft and Trim call at a cutset of one ASCII byte): the leading bytes that are c are cut off. The world is as it was. (LAID: no walk: one application.) -/
theorem Tryz.strings_trimLeftByte (s : ByteArray) (c : UInt8) (w : World) :
    Calls Tryz.prog 141 #[.string s, .int .u8 c.toNat] w fun e w' => e = .returned (.string ⟨(Lib.trimLeftB s.data.toList c).toArray⟩) ∧ w' = w := Any.strings_trimLeftByte Tryz.lays231 s c w
def Tryz.lays232_ren : Go.Shelf.Ren := ⟨fun | 232 => 142 | n => n, fun | 9 => 9 | 5 => 5 | 3 => 3 | 4 => 4 | n => n, fun | n => n⟩
theorem Tryz.lays232 : Go.Proofs.Lays.n232 Tryz.prog Tryz.lays232_ren := {
  mixed := by kernel_rfl
  f232 := Tryz.func142.trans (congrArg some (by kernel_rfl))
  t3 := Tryz.underlying3
  a3 := Tryz.isAgg3
  z3 := Tryz.sizeOf3
  v3 := Tryz.zeroValue3
  t4 := Tryz.underlying4
  a4 := Tryz.isAgg4
  z4 := Tryz.sizeOf4
  v4 := Tryz.zeroValue4
  t5 := Tryz.underlying5
  a5 := Tryz.isAgg5
  z5 := Tryz.sizeOf5
  v5 := Tryz.zeroValue5
  t9 := Tryz.underlying9
  a9 := Tryz.isAgg9
  z9 := Tryz.sizeOf9
  v9 := Tryz.zeroValue9 }
open Go.RowKit in
/-- strings.trimRightByte (no doc; what TrimRight and Trim call at a cutset of one ASCII byte): the trailing bytes that are c are cut off. The world is as it was. ('hs': a string's length is a number that an int holds.) (LAID: no walk: one application.) -/
theorem Tryz.strings_trimRightByte (s : ByteArray) (c : UInt8) (w : World) (hs : s.size ≤ 9223372036854775807) :
    Calls Tryz.prog 142 #[.string s, .int .u8 c.toNat] w fun e w' => e = .returned (.string ⟨(Lib.trimRightB s.data.toList c).toArray⟩) ∧ w' = w := Any.strings_trimRightByte Tryz.lays232 s c w hs
def Tryz.lays160_ren : Go.Shelf.Ren := ⟨fun | 160 => 127 | 232 => 142 | 231 => 141 | 227 => 143 | 234 => 145 | 233 => 144 | 236 => 147 | 235 => 146 | 228 => 153 | 271 => 161 | 151 => 160 | 197 => 159 | 120 => 177 | 152 => 151 | 260 => 176 | 137 => 134 | 119 => 168 | 224 => 169 | 225 => 170 | 217 => 150 | 266 => 167 | n => n, fun | 9 => 9 | 4 => 4 | 3 => 3 | 5 => 5 | 117 => 167 | 116 => 166 | 0 => 0 | 124 => 170 | 21 => 21 | 105 => 181 | 46 => 191 | 119 => 203 | 139 => 206 | 138 => 205 | n => n, fun | 3 => 5 | 4 => 6 | n => n⟩
theorem Tryz.lays160 : Go.Proofs.Lays.n160 Tryz.prog Tryz.lays160_ren := {
  mixed := by kernel_rfl
  f119 := Tryz.func168.trans (congrArg some (by kernel_rfl))
  f120 := Tryz.func177.trans (congrArg some (by kernel_rfl))
  f137 := Tryz.func134.trans (congrArg some (by kernel_rfl))
  f151 := Tryz.func160.trans (congrArg some (by kernel_rfl))
  f152 := Tryz.func151.trans (congrArg some (by kernel_rfl))
  f160 := Tryz.func127.trans (congrArg some (by kernel_rfl))
  f197 := Tryz.func159.trans (congrArg some (by kernel_rfl))
  f217 := Tryz.func150.trans (congrArg some (by kernel_rfl))
  f224 := Tryz.func169.trans (congrArg some (by kernel_rfl))
  f225 := Tryz.func170.trans (congrArg some (by kernel_rfl))
  f227 := Tryz.func143.trans (congrArg some (by kernel_rfl))
  f228 := Tryz.func153.trans (congrArg some (by kernel_rfl))
  f231 := Tryz.func141.trans (congrArg some (by kernel_rfl))
  f232 := Tryz.func142.trans (congrArg some (by kernel_rfl))
  f233 := Tryz.func144.trans (congrArg some (by kernel_rfl))
  f234 := Tryz.func145.trans (congrArg some (by kernel_rfl))
  f235 := Tryz.func146.trans (congrArg some (by kernel_rfl))
  f236 := Tryz.func147.trans (congrArg some (by kernel_rfl))
  f260 := Tryz.func176.trans (congrArg some (by kernel_rfl))
  f266 := Tryz.func167.trans (congrArg some (by kernel_rfl))
  f271 := Tryz.func161.trans (congrArg some (by kernel_rfl))
  t0 := Tryz.underlying0
  a0 := Tryz.isAgg0
  z0 := Tryz.sizeOf0
  v0 := Tryz.zeroValue0
  t3 := Tryz.underlying3
  a3 := Tryz.isAgg3
  z3 := Tryz.sizeOf3
  v3 := Tryz.zeroValue3
  t4 := Tryz.underlying4
  a4 := Tryz.isAgg4
  z4 := Tryz.sizeOf4
  v4 := Tryz.zeroValue4
  t5 := Tryz.underlying5
  a5 := Tryz.isAgg5
  z5 := Tryz.sizeOf5
  v5 := Tryz.zeroValue5
  t9 := Tryz.underlying9
  a9 := Tryz.isAgg9
  z9 := Tryz.sizeOf9
  v9 := Tryz.zeroValue9
  t21 := Tryz.underlying21
  a21 := Tryz.isAgg21
  z21 := Tryz.sizeOf21
  v21 := Tryz.zeroValue21
  t46 := Tryz.underlying191
  a46 := Tryz.isAgg191
  z46 := Tryz.sizeOf191
  v46 := Tryz.zeroValue191
  t105 := Tryz.underlying181
  a105 := Tryz.isAgg181
  z105 := Tryz.sizeOf181
  v105 := Tryz.zeroValue181
  t116 := Tryz.underlying166
  a116 := Tryz.isAgg166
  z116 := Tryz.sizeOf166
  t117 := Tryz.underlying167
  a117 := Tryz.isAgg167
  z117 := Tryz.sizeOf167
  v117 := Tryz.zeroValue167
  t119 := Tryz.underlying203
  a119 := Tryz.isAgg203
  z119 := Tryz.sizeOf203
  t124 := Tryz.underlying170
  a124 := Tryz.isAgg170
  z124 := Tryz.sizeOf170
  v124 := Tryz.zeroValue170
  t138 := Tryz.underlying205
  a138 := Tryz.isAgg205
  z138 := Tryz.sizeOf205
  v138 := Tryz.zeroValue205
  t139 := Tryz.underlying206
  a139 := Tryz.isAgg206
  z139 := Tryz.sizeOf206
  v139 := Tryz.zeroValue206
  g3 := by kernel_rfl
  g4 := by kernel_rfl }
open Go.RowKit in
/-- strings.Trim: "Trim returns a slice of the string s with all leading and trailing Unicode code points contained in cutset removed.": AT A cutset OF ONE ASCII BYTE. THE WORLD BEHIND IT: as it was, or (where s is not empty) with ONE DRAW MORE off the tape: the statement 'return trimLeftByte(trimRightByte(s, c), c)' draws its order of evaluation. (LAID: no walk: one application.) -/
theorem Tryz.strings_Trim_one (s : ByteArray) (c : UInt8) (hc : c.toNat < 128) (w : World) (hs : s.size ≤ 9223372036854775807) :
    Calls Tryz.prog 127 #[.string s, .string ⟨#[c]⟩] w fun e w' => e = .returned (.string ⟨(Lib.trimB s.data.toList c).toArray⟩) ∧ (w' = w ∨ w' = w.drew) := Any.strings_Trim_one Tryz.lays160 s c hc w hs
def Tryz.lays119_ren : Go.Shelf.Ren := ⟨fun | 119 => 168 | n => n, fun | 21 => 21 | 4 => 4 | n => n, fun | n => n⟩
theorem Tryz.lays119 : Go.Proofs.Lays.n119 Tryz.prog Tryz.lays119_ren := {
  mixed := by kernel_rfl
  f119 := Tryz.func168.trans (congrArg some (by kernel_rfl))
  t4 := Tryz.underlying4
  a4 := Tryz.isAgg4
  z4 := Tryz.sizeOf4
  v4 := Tryz.zeroValue4
  t21 := Tryz.underlying21
  a21 := Tryz.isAgg21
  z21 := Tryz.sizeOf21
  v21 := Tryz.zeroValue21 }
/-- utf8.ValidRune: "ValidRune reports whether r can be legally encoded as UTF-8. Code points that are out of range or a surrogate half are illegal.": IT RETURNS 'Lib.validRune r'; the world is as it was. (LAID: no walk: one application.) -/
theorem Tryz.utf8_ValidRune (r : Int) (w : World) :
    Calls Tryz.prog 168 #[.int .i32 r] w fun e w' => e = .returned (.bool (Lib.validRune r)) ∧ w' = w := Any.utf8_ValidRune Tryz.lays119 r w
def Tryz.lays120_ren : Go.Shelf.Ren := ⟨fun | 120 => 177 | n => n, fun | 5 => 5 | 4 => 4 | n => n, fun | n => n⟩
theorem Tryz.lays120 : Go.Proofs.Lays.n120 Tryz.prog Tryz.lays120_ren := {
  mixed := by kernel_rfl
  f120 := Tryz.func177.trans (congrArg some (by kernel_rfl))
  t4 := Tryz.underlying4
  a4 := Tryz.isAgg4
  z4 := Tryz.sizeOf4
  v4 := Tryz.zeroValue4
  t5 := Tryz.underlying5
  a5 := Tryz.isAgg5
  z5 := Tryz.sizeOf5
  v5 := Tryz.zeroValue5 }
/-- utf8.RuneStart: "RuneStart reports whether the byte could be the first byte of an encoded, possibly invalid rune. Second and subsequent bytes always have the top two bits set to 10.": IT RETURNS 'Lib.runeStart b'; the world is as it was. ('h0', 'h1': b is a byte: a caller has it of every byte that it was handed.) (LAID: no walk: one application.) -/
theorem Tryz.utf8_RuneStart (b : Int) (w : World) (h0 : 0 ≤ b) (h1 : b < 256) :
    Calls Tryz.prog 177 #[.int .u8 b] w fun e w' => e = .returned (.bool (Lib.runeStart b)) ∧ w' = w := Any.utf8_RuneStart Tryz.lays120 b w h0 h1
def Tryz.lays137_ren : Go.Shelf.Ren := ⟨fun | 137 => 134 | 217 => 150 | 266 => 167 | n => n, fun | 9 => 9 | 5 => 5 | 3 => 3 | n => n, fun | n => n⟩
theorem Tryz.lays137 : Go.Proofs.Lays.n137 Tryz.prog Tryz.lays137_ren := {
  mixed := by kernel_rfl
  f137 := Tryz.func134.trans (congrArg some (by kernel_rfl))
  f217 := Tryz.func150.trans (congrArg some (by kernel_rfl))
  f266 := Tryz.func167.trans (congrArg some (by kernel_rfl))
  t3 := Tryz.underlying3
  a3 := Tryz.isAgg3
  z3 := Tryz.sizeOf3
  v3 := Tryz.zeroValue3
  t5 := Tryz.underlying5
  a5 := Tryz.isAgg5
  z5 := Tryz.sizeOf5
  v5 := Tryz.zeroValue5
  t9 := Tryz.underlying9
  a9 := Tryz.isAgg9
  z9 := Tryz.sizeOf9
  v9 := Tryz.zeroValue9 }
open Go.RowKit in
/-- strings.IndexByte: "IndexByte returns the index of the first instance of c in s, or -1 if c is not present in s.": IT RETURNS 'Lib.indexByte s c'; the world is as it was. (LAID: no walk: one application.) -/
theorem Tryz.strings_IndexByte (s : ByteArray) (c : Int) (w : World) :
    Calls Tryz.prog 134 #[.string s, .int .u8 c] w fun e w' => e = .returned (.int .i64 (Lib.indexByte s.data.toList c.toNat.toUInt8)) ∧ w' = w := Any.strings_IndexByte Tryz.lays137 s c w
open Go.RowKit in
/-- (*strings.Builder).String: "String returns the accumulated string.": OF A BUILDER THAT HOLDS AT LEAST ONE BYTE. ✋ THE MODEL FREEZES THOSE BYTES IN THE BUFFER (unsafe.String): a later write INTO them ends the model's run without an answer; a later append BEHIND them goes on. The statement's order of evaluation is drawn: one draw. THE FORM '_f': IT SAYS BESIDES THAT THE BUILDER IS A BUILDER STILL ('Lib.IsBuilderF', the same bytes): SO IT CAN BE WRITTEN ON: 'b.WriteString(b.String()[:k])'. (LAID: no walk: one application.) -/
theorem Tryz.Builder_String_f (B b : Nat) (l : List UInt8) (w : World) (h : Lib.IsBuilderF 75 5 B b (Lib.byteCells l) w) (h0 : l ≠ []) :
    Calls Tryz.prog 36 #[.pointer (some ⟨b, 0, none⟩)] w fun e w' => e = .returned (.string ⟨l.toArray⟩) ∧ (Lib.IsBuilderF 75 5 B b (Lib.byteCells l) w' ∧ Below B w w') := Any.Builder_String_f Tryz.lays169 Tryz.Builder_Extra_169 B b l w h h0
open Go.RowKit in
/-- (*strings.Builder).String OF A BUILDER THAT HOLDS NO BYTE: the empty string; THE FORM '_f': a builder still. (LAID: no walk: one application.) -/
theorem Tryz.Builder_String_empty_f (B b : Nat) (w : World) (h : Lib.IsBuilderF 75 5 B b [] w) (hBw : B ≤ w.heap.size) :
    Calls Tryz.prog 36 #[.pointer (some ⟨b, 0, none⟩)] w fun e w' => e = .returned (.string ⟨#[]⟩) ∧ (Lib.IsBuilderF 75 5 B b [] w' ∧ Below B w w') := Any.Builder_String_empty_f Tryz.lays169 Tryz.Builder_Extra_169 B b w h hBw
open Go.RowKit in
/-- (*strings.Builder).String: "String returns the accumulated string.": WHATEVER THE BUILDER HOLDS; THE FORM '_f': OF A BUILDER THAT MAY HAVE BEEN READ BEFORE; AND IT IS A BUILDER STILL, holding the same bytes: it can be written on. (LAID: no walk: one application.) -/
theorem Tryz.Builder_String_any_f (B b : Nat) (l : List UInt8) (w : World) (h : Lib.IsBuilderF 75 5 B b (Lib.byteCells l) w) (hBw : B ≤ w.heap.size) :
    Calls Tryz.prog 36 #[.pointer (some ⟨b, 0, none⟩)] w fun e w' => e = .returned (.string ⟨l.toArray⟩) ∧ (Lib.IsBuilderF 75 5 B b (Lib.byteCells l) w' ∧ Below B w w') := Any.Builder_String_any_f Tryz.lays169 Tryz.Builder_Extra_169 B b l w h hBw
def Tryz.lays244_ren : Go.Shelf.Ren := ⟨fun | 244 => 148 | 247 => 162 | 287 => 178 | 321 => 183 | 322 => 184 | n => n, fun | 9 => 9 | 3 => 3 | 75 => 133 | 4 => 4 | 5 => 5 | 167 => 184 | 37 => 73 | 0 => 0 | 85 => 185 | 2 => 2 | 53 => 176 | 175 => 197 | 46 => 191 | 21 => 21 | 80 => 79 | n => n, fun | n => n⟩
theorem Tryz.lays244 : Go.Proofs.Lays.n244 Tryz.prog Tryz.lays244_ren := {
  mixed := by kernel_rfl
  f244 := Tryz.func148.trans (congrArg some (by kernel_rfl))
  f247 := Tryz.func162.trans (congrArg some (by kernel_rfl))
  f287 := Tryz.func178.trans (congrArg some (by kernel_rfl))
  f321 := Tryz.func183.trans (congrArg some (by kernel_rfl))
  f322 := Tryz.func184.trans (congrArg some (by kernel_rfl))
  t0 := Tryz.underlying0
  a0 := Tryz.isAgg0
  z0 := Tryz.sizeOf0
  v0 := Tryz.zeroValue0
  t2 := Tryz.underlying2
  a2 := Tryz.isAgg2
  z2 := Tryz.sizeOf2
  v2 := Tryz.zeroValue2
  t3 := Tryz.underlying3
  a3 := Tryz.isAgg3
  z3 := Tryz.sizeOf3
  v3 := Tryz.zeroValue3
  t4 := Tryz.underlying4
  a4 := Tryz.isAgg4
  z4 := Tryz.sizeOf4
  v4 := Tryz.zeroValue4
  t5 := Tryz.underlying5
  a5 := Tryz.isAgg5
  z5 := Tryz.sizeOf5
  v5 := Tryz.zeroValue5
  t9 := Tryz.underlying9
  a9 := Tryz.isAgg9
  z9 := Tryz.sizeOf9
  v9 := Tryz.zeroValue9
  t21 := Tryz.underlying21
  a21 := Tryz.isAgg21
  z21 := Tryz.sizeOf21
  v21 := Tryz.zeroValue21
  t37 := Tryz.underlying73
  a37 := Tryz.isAgg73
  z37 := Tryz.sizeOf73
  v37 := Tryz.zeroValue73
  t46 := Tryz.underlying191
  a46 := Tryz.isAgg191
  z46 := Tryz.sizeOf191
  v46 := Tryz.zeroValue191
  t53 := Tryz.underlying176
  a53 := Tryz.isAgg176
  z53 := Tryz.sizeOf176
  v53 := Tryz.zeroValue176
  t75 := Tryz.underlying133
  a75 := Tryz.isAgg133
  z75 := Tryz.sizeOf133
  v75 := Tryz.zeroValue133
  t85 := Tryz.underlying185
  a85 := Tryz.isAgg185
  z85 := Tryz.sizeOf185
  v85 := Tryz.zeroValue185
  t167 := Tryz.underlying184
  a167 := Tryz.isAgg184
  z167 := Tryz.sizeOf184
  v167 := Tryz.zeroValue184
  t175 := Tryz.underlying197
  a175 := Tryz.isAgg197
  z175 := Tryz.sizeOf197
  v175 := Tryz.zeroValue197 }
open Go.RowKit in
/-- internal/strconv.Atoi, at a decimal numeral of at most 18 bytes: ITS VALUE, AND NO ERROR. The world behind the call: the one new row that '[]byte(s)' lays. (LAID: no walk: one application.) -/
theorem Tryz.internal_strconv_Atoi (s : ByteArray) (n : Int) (hl : s.size ≤ 18) (h : Lib.atoi s.data.toList = some n) (w : World) :
    Calls Tryz.prog 148 #[.string s] w fun e w' => e = .returned (.tuple #[.int .i64 n, .nilIface]) ∧ ∃ t, w' = Lib.bytesWorld w 5 t := Any.internal_strconv_Atoi Tryz.lays244 s n hl h w
def Tryz.lays172_ren : Go.Shelf.Ren := ⟨fun | 172 => 128 | 244 => 148 | 245 => 149 | 247 => 162 | 279 => 163 | 280 => 164 | 281 => 165 | 282 => 166 | 287 => 178 | 316 => 179 | 171 => 89 | 205 => 180 | 321 => 183 | 322 => 184 | 243 => 123 | 246 => 139 | 283 => 155 | 284 => 156 | 285 => 157 | 286 => 158 | 129 => 172 | 317 => 171 | 318 => 173 | 319 => 174 | 320 => 175 | 337 => 181 | 338 => 182 | n => n, fun | 9 => 9 | 3 => 3 | 75 => 133 | 76 => 134 | 4 => 4 | 5 => 5 | 167 => 184 | 37 => 73 | 0 => 0 | 85 => 185 | 2 => 2 | 168 => 187 | 53 => 176 | 175 => 197 | 46 => 191 | 210 => 200 | 127 => 112 | 145 => 210 | 143 => 208 | 21 => 21 | 171 => 175 | 173 => 179 | 212 => 193 | 51 => 194 | 20 => 20 | 213 => 195 | 232 => 211 | 233 => 212 | 80 => 79 | n => n, fun | 15 => 3 | 16 => 4 | 17 => 2 | 18 => 7 | 19 => 8 | n => n⟩
theorem Tryz.lays172 : Go.Proofs.Lays.n172 Tryz.prog Tryz.lays172_ren := {
  mixed := by kernel_rfl
  f129 := Tryz.func172.trans (congrArg some (by kernel_rfl))
  f171 := Tryz.func89.trans (congrArg some (by kernel_rfl))
  f172 := Tryz.func128.trans (congrArg some (by kernel_rfl))
  f205 := Tryz.func180.trans (congrArg some (by kernel_rfl))
  f243 := Tryz.func123.trans (congrArg some (by kernel_rfl))
  f244 := Tryz.func148.trans (congrArg some (by kernel_rfl))
  f245 := Tryz.func149.trans (congrArg some (by kernel_rfl))
  f246 := Tryz.func139.trans (congrArg some (by kernel_rfl))
  f247 := Tryz.func162.trans (congrArg some (by kernel_rfl))
  f279 := Tryz.func163.trans (congrArg some (by kernel_rfl))
  f280 := Tryz.func164.trans (congrArg some (by kernel_rfl))
  f281 := Tryz.func165.trans (congrArg some (by kernel_rfl))
  f282 := Tryz.func166.trans (congrArg some (by kernel_rfl))
  f283 := Tryz.func155.trans (congrArg some (by kernel_rfl))
  f284 := Tryz.func156.trans (congrArg some (by kernel_rfl))
  f285 := Tryz.func157.trans (congrArg some (by kernel_rfl))
  f286 := Tryz.func158.trans (congrArg some (by kernel_rfl))
  f287 := Tryz.func178.trans (congrArg some (by kernel_rfl))
  f316 := Tryz.func179.trans (congrArg some (by kernel_rfl))
  f317 := Tryz.func171.trans (congrArg some (by kernel_rfl))
  f318 := Tryz.func173.trans (congrArg some (by kernel_rfl))
  f319 := Tryz.func174.trans (congrArg some (by kernel_rfl))
  f320 := Tryz.func175.trans (congrArg some (by kernel_rfl))
  f321 := Tryz.func183.trans (congrArg some (by kernel_rfl))
  f322 := Tryz.func184.trans (congrArg some (by kernel_rfl))
  f337 := Tryz.func181.trans (congrArg some (by kernel_rfl))
  f338 := Tryz.func182.trans (congrArg some (by kernel_rfl))
  t0 := Tryz.underlying0
  a0 := Tryz.isAgg0
  z0 := Tryz.sizeOf0
  v0 := Tryz.zeroValue0
  t2 := Tryz.underlying2
  a2 := Tryz.isAgg2
  z2 := Tryz.sizeOf2
  v2 := Tryz.zeroValue2
  t3 := Tryz.underlying3
  a3 := Tryz.isAgg3
  z3 := Tryz.sizeOf3
  v3 := Tryz.zeroValue3
  t4 := Tryz.underlying4
  a4 := Tryz.isAgg4
  z4 := Tryz.sizeOf4
  v4 := Tryz.zeroValue4
  t5 := Tryz.underlying5
  a5 := Tryz.isAgg5
  z5 := Tryz.sizeOf5
  v5 := Tryz.zeroValue5
  t9 := Tryz.underlying9
  a9 := Tryz.isAgg9
  z9 := Tryz.sizeOf9
  v9 := Tryz.zeroValue9
  t20 := Tryz.underlying20
  a20 := Tryz.isAgg20
  z20 := Tryz.sizeOf20
  v20 := Tryz.zeroValue20
  t21 := Tryz.underlying21
  a21 := Tryz.isAgg21
  z21 := Tryz.sizeOf21
  v21 := Tryz.zeroValue21
  t37 := Tryz.underlying73
  a37 := Tryz.isAgg73
  z37 := Tryz.sizeOf73
  v37 := Tryz.zeroValue73
  t46 := Tryz.underlying191
  a46 := Tryz.isAgg191
  z46 := Tryz.sizeOf191
  v46 := Tryz.zeroValue191
  t51 := Tryz.underlying194
  a51 := Tryz.isAgg194
  z51 := Tryz.sizeOf194
  v51 := Tryz.zeroValue194
  t53 := Tryz.underlying176
  a53 := Tryz.isAgg176
  z53 := Tryz.sizeOf176
  v53 := Tryz.zeroValue176
  t75 := Tryz.underlying133
  a75 := Tryz.isAgg133
  z75 := Tryz.sizeOf133
  v75 := Tryz.zeroValue133
  t76 := Tryz.underlying134
  a76 := Tryz.isAgg134
  z76 := Tryz.sizeOf134
  v76 := Tryz.zeroValue134
  t85 := Tryz.underlying185
  a85 := Tryz.isAgg185
  z85 := Tryz.sizeOf185
  v85 := Tryz.zeroValue185
  t127 := Tryz.underlying112
  a127 := Tryz.isAgg112
  z127 := Tryz.sizeOf112
  v127 := Tryz.zeroValue112
  t143 := Tryz.underlying208
  a143 := Tryz.isAgg208
  z143 := Tryz.sizeOf208
  v143 := Tryz.zeroValue208
  t145 := Tryz.underlying210
  a145 := Tryz.isAgg210
  z145 := Tryz.sizeOf210
  v145 := Tryz.zeroValue210
  t167 := Tryz.underlying184
  a167 := Tryz.isAgg184
  z167 := Tryz.sizeOf184
  v167 := Tryz.zeroValue184
  t168 := Tryz.underlying187
  a168 := Tryz.isAgg187
  z168 := Tryz.sizeOf187
  v168 := Tryz.zeroValue187
  t171 := Tryz.underlying175
  a171 := Tryz.isAgg175
  z171 := Tryz.sizeOf175
  v171 := Tryz.zeroValue175
  t173 := Tryz.underlying179
  a173 := Tryz.isAgg179
  z173 := Tryz.sizeOf179
  v173 := Tryz.zeroValue179
  t175 := Tryz.underlying197
  a175 := Tryz.isAgg197
  z175 := Tryz.sizeOf197
  v175 := Tryz.zeroValue197
  t210 := Tryz.underlying200
  a210 := Tryz.isAgg200
  z210 := Tryz.sizeOf200
  v210 := Tryz.zeroValue200
  t212 := Tryz.underlying193
  a212 := Tryz.isAgg193
  z212 := Tryz.sizeOf193
  v212 := Tryz.zeroValue193
  t213 := Tryz.underlying195
  a213 := Tryz.isAgg195
  z213 := Tryz.sizeOf195
  t232 := Tryz.underlying211
  a232 := Tryz.isAgg211
  z232 := Tryz.sizeOf211
  v232 := Tryz.zeroValue211
  t233 := Tryz.underlying212
  a233 := Tryz.isAgg212
  z233 := Tryz.sizeOf212
  v233 := Tryz.zeroValue212
  g15 := by kernel_rfl
  g16 := by kernel_rfl
  g17 := by kernel_rfl
  g18 := by kernel_rfl
  g19 := by kernel_rfl }
open Go.RowKit in
/-- strconv.Atoi: "Atoi is equivalent to ParseInt(s, 10, 0), converted to type int.": AT A DECIMAL NUMERAL OF AT MOST 18 BYTES: its value, and a nil error. The world behind the call: the one new row that the library's '[]byte(s)' lays. (LAID: no walk: one application.) -/
theorem Tryz.strconv_Atoi (s : ByteArray) (n : Int) (hl : s.size ≤ 18) (h : Lib.atoi s.data.toList = some n) (w : World) :
    Calls Tryz.prog 128 #[.string s] w fun e w' => e = .returned (.tuple #[.int .i64 n, .nilIface]) ∧ ∃ t, w' = Lib.bytesWorld w 5 t := Any.strconv_Atoi Tryz.lays172 s n hl h w
def Tryz.lays129_ren : Go.Shelf.Ren := ⟨fun | 129 => 172 | n => n, fun | 53 => 176 | 3 => 3 | 4 => 4 | 46 => 191 | 5 => 5 | 9 => 9 | n => n, fun | n => n⟩
theorem Tryz.lays129 : Go.Proofs.Lays.n129 Tryz.prog Tryz.lays129_ren := {
  mixed := by kernel_rfl
  f129 := Tryz.func172.trans (congrArg some (by kernel_rfl))
  t3 := Tryz.underlying3
  a3 := Tryz.isAgg3
  z3 := Tryz.sizeOf3
  v3 := Tryz.zeroValue3
  t4 := Tryz.underlying4
  a4 := Tryz.isAgg4
  z4 := Tryz.sizeOf4
  v4 := Tryz.zeroValue4
  t5 := Tryz.underlying5
  a5 := Tryz.isAgg5
  z5 := Tryz.sizeOf5
  v5 := Tryz.zeroValue5
  t9 := Tryz.underlying9
  a9 := Tryz.isAgg9
  z9 := Tryz.sizeOf9
  v9 := Tryz.zeroValue9
  t46 := Tryz.underlying191
  a46 := Tryz.isAgg191
  z46 := Tryz.sizeOf191
  v46 := Tryz.zeroValue191
  t53 := Tryz.underlying176
  a53 := Tryz.isAgg176
  z53 := Tryz.sizeOf176
  v53 := Tryz.zeroValue176 }
/-- bits.Len64: "Len64 returns the minimum number of bits required to represent x; the result is 0 for x == 0.": IT RETURNS 'Lib.bitLen x'; the world is as it was. ('h0', 'h1': x is a uint64.) (LAID: no walk: one application.) -/
theorem Tryz.bits_Len64 (x : Int) (w : World) (h0 : 0 ≤ x) (h1 : x ≤ 18446744073709551615) :
    Calls Tryz.prog 172 #[.int .u64 x] w fun e w' => e = .returned (.int .i64 (Lib.bitLen x.toNat)) ∧ w' = w := Any.bits_Len64 Tryz.lays129 x w h0 h1
def Tryz.lays317_ren : Go.Shelf.Ren := ⟨fun | 317 => 171 | n => n, fun | 3 => 3 | 46 => 191 | n => n, fun | n => n⟩
theorem Tryz.lays317 : Go.Proofs.Lays.n317 Tryz.prog Tryz.lays317_ren := {
  mixed := by kernel_rfl
  f317 := Tryz.func171.trans (congrArg some (by kernel_rfl))
  t3 := Tryz.underlying3
  a3 := Tryz.isAgg3
  z3 := Tryz.sizeOf3
  v3 := Tryz.zeroValue3
  t46 := Tryz.underlying191
  a46 := Tryz.isAgg191
  z46 := Tryz.sizeOf191
  v46 := Tryz.zeroValue191 }
open Go.Lib in
/-- internal/strconv.log10Pow2: "log10Pow2(x) returns ⌊log₁₀ 2**x⌋ = ⌊x * log₁₀ 2⌋.": '(x * 78913) >> 18', at an x up to 64 (a length in bits). The world is as it was. (LAID: no walk: one application.) -/
theorem Tryz.internal_strconv_log10Pow2 (x : Nat) (h : x ≤ 64) (w : World) :
    Calls Tryz.prog 171 #[.int .i64 x] w fun e w' => e = .returned (.int .i64 (Lib.l10 x)) ∧ w' = w := Any.internal_strconv_log10Pow2 Tryz.lays317 x h w
def Tryz.lays318_ren : Go.Shelf.Ren := ⟨fun | 318 => 173 | n => n, fun | 3 => 3 | 4 => 4 | n => n, fun | n => n⟩
theorem Tryz.lays318 : Go.Proofs.Lays.n318 Tryz.prog Tryz.lays318_ren := {
  mixed := by kernel_rfl
  f318 := Tryz.func173.trans (congrArg some (by kernel_rfl))
  t3 := Tryz.underlying3
  a3 := Tryz.isAgg3
  z3 := Tryz.sizeOf3
  v3 := Tryz.zeroValue3
  t4 := Tryz.underlying4
  a4 := Tryz.isAgg4
  z4 := Tryz.sizeOf4
  v4 := Tryz.zeroValue4 }
open Go.Lib in
/-- internal/strconv.bool2: "bool2 converts b to an integer: 1 for true, 0 for false." The world is as it was. (LAID: no walk: one application.) -/
theorem Tryz.internal_strconv_bool2_int (b : Bool) (w : World) :
    Calls Tryz.prog 173 #[.bool b] w fun e w' => e = .returned (.int .i64 (if b then 1 else 0)) ∧ w' = w := Any.internal_strconv_bool2_int Tryz.lays318 b w
def Tryz.lays283_ren : Go.Shelf.Ren := ⟨fun | 283 => 155 | n => n, fun | 3 => 3 | 9 => 9 | 4 => 4 | n => n, fun | n => n⟩
theorem Tryz.lays283 : Go.Proofs.Lays.n283 Tryz.prog Tryz.lays283_ren := {
  mixed := by kernel_rfl
  f283 := Tryz.func155.trans (congrArg some (by kernel_rfl))
  t3 := Tryz.underlying3
  a3 := Tryz.isAgg3
  z3 := Tryz.sizeOf3
  v3 := Tryz.zeroValue3
  t4 := Tryz.underlying4
  a4 := Tryz.isAgg4
  z4 := Tryz.sizeOf4
  v4 := Tryz.zeroValue4
  t9 := Tryz.underlying9
  a9 := Tryz.isAgg9
  z9 := Tryz.sizeOf9
  v9 := Tryz.zeroValue9 }
open Go.Lib in
/-- internal/strconv.small: "small returns the string for an i with 0 <= i < nSmalls.": i's decimal numeral. The world is as it was. (LAID: no walk: one application.) -/
theorem Tryz.internal_strconv_small (i : Nat) (h : i < 100) (w : World) :
    Calls Tryz.prog 155 #[.int .i64 i] w fun e w' => e = .returned (.string ⟨(Lib.decDigits i).toArray⟩) ∧ w' = w := Any.internal_strconv_small Tryz.lays283 i h w
def Tryz.laysM284_ren : Go.Shelf.Ren := ⟨fun | 284 => 156 | 129 => 172 | 317 => 171 | 318 => 173 | n => n, fun | 53 => 176 | 3 => 3 | 212 => 193 | 0 => 0 | 4 => 4 | 46 => 191 | 5 => 5 | 9 => 9 | n => n, fun | 17 => 2 | n => n⟩
theorem Tryz.laysM284 : Go.Proofs.LaysM.n284 Tryz.prog Tryz.laysM284_ren := {
  mixed := by kernel_rfl
  f129 := Tryz.func172.trans (congrArg some (by kernel_rfl))
  f284 := Tryz.func156.trans (congrArg some (by kernel_rfl))
  f317 := Tryz.func171.trans (congrArg some (by kernel_rfl))
  f318 := Tryz.func173.trans (congrArg some (by kernel_rfl))
  t0 := Tryz.underlying0
  a0 := Tryz.isAgg0
  z0 := Tryz.sizeOf0
  v0 := Tryz.zeroValue0
  t3 := Tryz.underlying3
  a3 := Tryz.isAgg3
  z3 := Tryz.sizeOf3
  v3 := Tryz.zeroValue3
  t4 := Tryz.underlying4
  a4 := Tryz.isAgg4
  z4 := Tryz.sizeOf4
  v4 := Tryz.zeroValue4
  t5 := Tryz.underlying5
  a5 := Tryz.isAgg5
  z5 := Tryz.sizeOf5
  v5 := Tryz.zeroValue5
  t9 := Tryz.underlying9
  a9 := Tryz.isAgg9
  z9 := Tryz.sizeOf9
  v9 := Tryz.zeroValue9
  t46 := Tryz.underlying191
  a46 := Tryz.isAgg191
  z46 := Tryz.sizeOf191
  v46 := Tryz.zeroValue191
  t53 := Tryz.underlying176
  a53 := Tryz.isAgg176
  z53 := Tryz.sizeOf176
  v53 := Tryz.zeroValue176
  t212 := Tryz.underlying193
  a212 := Tryz.isAgg193
  z212 := Tryz.sizeOf193
  v212 := Tryz.zeroValue193
  g17 := by kernel_rfl
  i0 := by kernel_rfl
  i3 := by kernel_rfl
  i4 := by kernel_rfl
  i5 := by kernel_rfl
  i9 := by kernel_rfl
  i46 := by kernel_rfl
  i53 := by kernel_rfl
  i212 := by kernel_rfl
  m17 := by kernel_rfl }
open Go.Lib in
/-- internal/strconv.numDigits, at a d that is not 0: THE NUMBER OF d's DECIMAL DIGITS. The world is as it was. (LAID: no walk: one application.) -/
theorem Tryz.internal_strconv_numDigits (u : Nat) (h1 : 1 ≤ u) (h2 : u < 18446744073709551616) (w : World) (htab : Lib.TabIs Tryz.prog w "internal/strconv.uint64pow10" .u64 Lib.pow10Tab) :
    Calls Tryz.prog 156 #[.int .u64 u] w fun e w' => e = .returned (.int .i64 (Lib.nDigits u)) ∧ w' = w := Any.internal_strconv_numDigits Tryz.laysM284 u h1 h2 w htab
def Tryz.lays285_ren : Go.Shelf.Ren := ⟨fun | 285 => 157 | n => n, fun | 37 => 73 | 53 => 176 | 3 => 3 | 4 => 4 | 51 => 194 | 9 => 9 | 5 => 5 | 0 => 0 | n => n, fun | n => n⟩
theorem Tryz.lays285 : Go.Proofs.Lays.n285 Tryz.prog Tryz.lays285_ren := {
  mixed := by kernel_rfl
  f285 := Tryz.func157.trans (congrArg some (by kernel_rfl))
  t0 := Tryz.underlying0
  a0 := Tryz.isAgg0
  z0 := Tryz.sizeOf0
  v0 := Tryz.zeroValue0
  t3 := Tryz.underlying3
  a3 := Tryz.isAgg3
  z3 := Tryz.sizeOf3
  v3 := Tryz.zeroValue3
  t4 := Tryz.underlying4
  a4 := Tryz.isAgg4
  z4 := Tryz.sizeOf4
  v4 := Tryz.zeroValue4
  t5 := Tryz.underlying5
  a5 := Tryz.isAgg5
  z5 := Tryz.sizeOf5
  v5 := Tryz.zeroValue5
  t9 := Tryz.underlying9
  a9 := Tryz.isAgg9
  z9 := Tryz.sizeOf9
  v9 := Tryz.zeroValue9
  t37 := Tryz.underlying73
  a37 := Tryz.isAgg73
  z37 := Tryz.sizeOf73
  v37 := Tryz.zeroValue73
  t51 := Tryz.underlying194
  a51 := Tryz.isAgg194
  z51 := Tryz.sizeOf194
  v51 := Tryz.zeroValue194
  t53 := Tryz.underlying176
  a53 := Tryz.isAgg176
  z53 := Tryz.sizeOf176
  v53 := Tryz.zeroValue176 }
open Go.RowKit Go.Sort Go.Lib in
/-- internal/strconv.formatBase10: "formatBase10 formats the decimal representation of u into a. The caller is responsible for ensuring that a is big enough to hold u. If a is too big, leading zeros will be filled in as needed.": THE ROW HOLDS u's DIGITS ('FmtInv .. 0 ..': every place t holds 'dg u (len - 1 - t)'); all else is as it was but for the count of draws. (LAID: no walk: one application.) -/
theorem Tryz.internal_strconv_formatBase10 (blk off cap : Nat) (u : Nat) (d : Array UInt8) (w : World) (hH : Holds (fun (b : UInt8) => Value.int .u8 (b.toNat : Int)) w blk off d) (hu : u < 10 ^ d.size) (hu64 : u < 18446744073709551616) (hsz : d.size < 4611686018427387904) :
    Calls Tryz.prog 157 #[.slice (some ⟨blk, off, none⟩) d.size cap, .int .u64 u] w fun e w' =>
      e = .returned (.tuple #[]) ∧ ∃ (n v' : Nat) (dk : Array UInt8), w' = (putRow (fun (b : UInt8) => Value.int .u8 (b.toNat : Int)) w blk off dk).drewN n ∧ FmtInv d.size u 0 v' dk := Any.internal_strconv_formatBase10 Tryz.lays285 blk off cap u d w hH hu hu64 hsz
def Tryz.laysM246_ren : Go.Shelf.Ren := ⟨fun | 246 => 139 | 283 => 155 | 284 => 156 | 285 => 157 | 286 => 158 | 129 => 172 | 317 => 171 | 318 => 173 | 319 => 174 | 320 => 175 | 337 => 181 | 338 => 182 | n => n, fun | 2 => 2 | 3 => 3 | 9 => 9 | 4 => 4 | 171 => 175 | 0 => 0 | 53 => 176 | 37 => 73 | 5 => 5 | 173 => 179 | 212 => 193 | 51 => 194 | 20 => 20 | 213 => 195 | 46 => 191 | 232 => 211 | 233 => 212 | n => n, fun | 17 => 2 | 18 => 7 | 19 => 8 | n => n⟩
theorem Tryz.laysM246 : Go.Proofs.LaysM.n246 Tryz.prog Tryz.laysM246_ren := {
  mixed := by kernel_rfl
  f129 := Tryz.func172.trans (congrArg some (by kernel_rfl))
  f246 := Tryz.func139.trans (congrArg some (by kernel_rfl))
  f283 := Tryz.func155.trans (congrArg some (by kernel_rfl))
  f284 := Tryz.func156.trans (congrArg some (by kernel_rfl))
  f285 := Tryz.func157.trans (congrArg some (by kernel_rfl))
  f286 := Tryz.func158.trans (congrArg some (by kernel_rfl))
  f317 := Tryz.func171.trans (congrArg some (by kernel_rfl))
  f318 := Tryz.func173.trans (congrArg some (by kernel_rfl))
  f319 := Tryz.func174.trans (congrArg some (by kernel_rfl))
  f320 := Tryz.func175.trans (congrArg some (by kernel_rfl))
  f337 := Tryz.func181.trans (congrArg some (by kernel_rfl))
  f338 := Tryz.func182.trans (congrArg some (by kernel_rfl))
  t0 := Tryz.underlying0
  a0 := Tryz.isAgg0
  z0 := Tryz.sizeOf0
  v0 := Tryz.zeroValue0
  t2 := Tryz.underlying2
  a2 := Tryz.isAgg2
  z2 := Tryz.sizeOf2
  v2 := Tryz.zeroValue2
  t3 := Tryz.underlying3
  a3 := Tryz.isAgg3
  z3 := Tryz.sizeOf3
  v3 := Tryz.zeroValue3
  t4 := Tryz.underlying4
  a4 := Tryz.isAgg4
  z4 := Tryz.sizeOf4
  v4 := Tryz.zeroValue4
  t5 := Tryz.underlying5
  a5 := Tryz.isAgg5
  z5 := Tryz.sizeOf5
  v5 := Tryz.zeroValue5
  t9 := Tryz.underlying9
  a9 := Tryz.isAgg9
  z9 := Tryz.sizeOf9
  v9 := Tryz.zeroValue9
  t20 := Tryz.underlying20
  a20 := Tryz.isAgg20
  z20 := Tryz.sizeOf20
  v20 := Tryz.zeroValue20
  t37 := Tryz.underlying73
  a37 := Tryz.isAgg73
  z37 := Tryz.sizeOf73
  v37 := Tryz.zeroValue73
  t46 := Tryz.underlying191
  a46 := Tryz.isAgg191
  z46 := Tryz.sizeOf191
  v46 := Tryz.zeroValue191
  t51 := Tryz.underlying194
  a51 := Tryz.isAgg194
  z51 := Tryz.sizeOf194
  v51 := Tryz.zeroValue194
  t53 := Tryz.underlying176
  a53 := Tryz.isAgg176
  z53 := Tryz.sizeOf176
  v53 := Tryz.zeroValue176
  t171 := Tryz.underlying175
  a171 := Tryz.isAgg175
  z171 := Tryz.sizeOf175
  v171 := Tryz.zeroValue175
  t173 := Tryz.underlying179
  a173 := Tryz.isAgg179
  z173 := Tryz.sizeOf179
  v173 := Tryz.zeroValue179
  t212 := Tryz.underlying193
  a212 := Tryz.isAgg193
  z212 := Tryz.sizeOf193
  v212 := Tryz.zeroValue193
  t213 := Tryz.underlying195
  a213 := Tryz.isAgg195
  z213 := Tryz.sizeOf195
  t232 := Tryz.underlying211
  a232 := Tryz.isAgg211
  z232 := Tryz.sizeOf211
  v232 := Tryz.zeroValue211
  t233 := Tryz.underlying212
  a233 := Tryz.isAgg212
  z233 := Tryz.sizeOf212
  v233 := Tryz.zeroValue212
  g17 := by kernel_rfl
  g18 := by kernel_rfl
  g19 := by kernel_rfl
  i0 := by kernel_rfl
  i2 := by kernel_rfl
  i3 := by kernel_rfl
  i4 := by kernel_rfl
  i5 := by kernel_rfl
  i9 := by kernel_rfl
  i20 := by kernel_rfl
  i37 := by kernel_rfl
  i46 := by kernel_rfl
  i51 := by kernel_rfl
  i53 := by kernel_rfl
  i171 := by kernel_rfl
  i173 := by kernel_rfl
  i212 := by kernel_rfl
  i232 := by kernel_rfl
  i233 := by kernel_rfl
  m17 := by kernel_rfl
  m18 := by kernel_rfl
  m19 := by kernel_rfl }
open Go.RowKit Go.Sort Go.Lib in
/-- internal/strconv.FormatInt: "FormatInt returns the string representation of i in the given base": AT BASE 10: i's decimal numeral, for every int64. The world behind the call: the world before it, new blocks behind the heap, draws. (LAID: no walk: one application.) -/
theorem Tryz.internal_strconv_FormatInt_10 (n : Int) (h0 : -9223372036854775808 ≤ n) (h1 : n ≤ 9223372036854775807) (w : World) (htab : Lib.TabIs Tryz.prog w "internal/strconv.uint64pow10" .u64 Lib.pow10Tab) :
    Calls Tryz.prog 139 #[.int .i64 n, .int .i64 10] w fun e w' => e = .returned (.string ⟨(Lib.itoa n).toArray⟩) ∧ ∃ k os, w' = grow (w.drewN k) os := Any.internal_strconv_FormatInt_10 Tryz.laysM246 n h0 h1 w htab
def Tryz.lays246_ren : Go.Shelf.Ren := ⟨fun | 246 => 139 | 283 => 155 | 284 => 156 | 285 => 157 | 286 => 158 | 129 => 172 | 317 => 171 | 318 => 173 | 319 => 174 | 320 => 175 | 337 => 181 | 338 => 182 | n => n, fun | 2 => 2 | 3 => 3 | 9 => 9 | 4 => 4 | 171 => 175 | 0 => 0 | 53 => 176 | 37 => 73 | 5 => 5 | 173 => 179 | 212 => 193 | 51 => 194 | 20 => 20 | 213 => 195 | 46 => 191 | 232 => 211 | 233 => 212 | n => n, fun | 17 => 2 | 18 => 7 | 19 => 8 | n => n⟩
theorem Tryz.lays246 : Go.Proofs.Lays.n246 Tryz.prog Tryz.lays246_ren := {
  mixed := by kernel_rfl
  f129 := Tryz.func172.trans (congrArg some (by kernel_rfl))
  f246 := Tryz.func139.trans (congrArg some (by kernel_rfl))
  f283 := Tryz.func155.trans (congrArg some (by kernel_rfl))
  f284 := Tryz.func156.trans (congrArg some (by kernel_rfl))
  f285 := Tryz.func157.trans (congrArg some (by kernel_rfl))
  f286 := Tryz.func158.trans (congrArg some (by kernel_rfl))
  f317 := Tryz.func171.trans (congrArg some (by kernel_rfl))
  f318 := Tryz.func173.trans (congrArg some (by kernel_rfl))
  f319 := Tryz.func174.trans (congrArg some (by kernel_rfl))
  f320 := Tryz.func175.trans (congrArg some (by kernel_rfl))
  f337 := Tryz.func181.trans (congrArg some (by kernel_rfl))
  f338 := Tryz.func182.trans (congrArg some (by kernel_rfl))
  t0 := Tryz.underlying0
  a0 := Tryz.isAgg0
  z0 := Tryz.sizeOf0
  v0 := Tryz.zeroValue0
  t2 := Tryz.underlying2
  a2 := Tryz.isAgg2
  z2 := Tryz.sizeOf2
  v2 := Tryz.zeroValue2
  t3 := Tryz.underlying3
  a3 := Tryz.isAgg3
  z3 := Tryz.sizeOf3
  v3 := Tryz.zeroValue3
  t4 := Tryz.underlying4
  a4 := Tryz.isAgg4
  z4 := Tryz.sizeOf4
  v4 := Tryz.zeroValue4
  t5 := Tryz.underlying5
  a5 := Tryz.isAgg5
  z5 := Tryz.sizeOf5
  v5 := Tryz.zeroValue5
  t9 := Tryz.underlying9
  a9 := Tryz.isAgg9
  z9 := Tryz.sizeOf9
  v9 := Tryz.zeroValue9
  t20 := Tryz.underlying20
  a20 := Tryz.isAgg20
  z20 := Tryz.sizeOf20
  v20 := Tryz.zeroValue20
  t37 := Tryz.underlying73
  a37 := Tryz.isAgg73
  z37 := Tryz.sizeOf73
  v37 := Tryz.zeroValue73
  t46 := Tryz.underlying191
  a46 := Tryz.isAgg191
  z46 := Tryz.sizeOf191
  v46 := Tryz.zeroValue191
  t51 := Tryz.underlying194
  a51 := Tryz.isAgg194
  z51 := Tryz.sizeOf194
  v51 := Tryz.zeroValue194
  t53 := Tryz.underlying176
  a53 := Tryz.isAgg176
  z53 := Tryz.sizeOf176
  v53 := Tryz.zeroValue176
  t171 := Tryz.underlying175
  a171 := Tryz.isAgg175
  z171 := Tryz.sizeOf175
  v171 := Tryz.zeroValue175
  t173 := Tryz.underlying179
  a173 := Tryz.isAgg179
  z173 := Tryz.sizeOf179
  v173 := Tryz.zeroValue179
  t212 := Tryz.underlying193
  a212 := Tryz.isAgg193
  z212 := Tryz.sizeOf193
  v212 := Tryz.zeroValue193
  t213 := Tryz.underlying195
  a213 := Tryz.isAgg195
  z213 := Tryz.sizeOf195
  t232 := Tryz.underlying211
  a232 := Tryz.isAgg211
  z232 := Tryz.sizeOf211
  v232 := Tryz.zeroValue211
  t233 := Tryz.underlying212
  a233 := Tryz.isAgg212
  z233 := Tryz.sizeOf212
  v233 := Tryz.zeroValue212
  g17 := by kernel_rfl
  g18 := by kernel_rfl
  g19 := by kernel_rfl }
open Go.RowKit Go.Sort Go.Lib in
/-- THE ROAD WITHOUT THE TABLE: 0 <= i < 100: two constants are read, nothing is laid: no premise on the world, and the world is as it was. (LAID: no walk: one application.) -/
theorem Tryz.internal_strconv_FormatInt_10_small (i : Nat) (hi : i < 100) (w : World) :
    Calls Tryz.prog 139 #[.int .i64 i, .int .i64 10] w fun e w' => e = .returned (.string ⟨(Lib.decDigits i).toArray⟩) ∧ w' = w := Any.internal_strconv_FormatInt_10_small Tryz.lays246 i hi w
def Tryz.laysM243_ren : Go.Shelf.Ren := ⟨fun | 243 => 123 | 246 => 139 | 283 => 155 | 284 => 156 | 285 => 157 | 286 => 158 | 129 => 172 | 317 => 171 | 318 => 173 | 319 => 174 | 320 => 175 | 337 => 181 | 338 => 182 | n => n, fun | 3 => 3 | 9 => 9 | 2 => 2 | 4 => 4 | 171 => 175 | 0 => 0 | 53 => 176 | 37 => 73 | 5 => 5 | 173 => 179 | 212 => 193 | 51 => 194 | 20 => 20 | 213 => 195 | 46 => 191 | 232 => 211 | 233 => 212 | n => n, fun | 17 => 2 | 18 => 7 | 19 => 8 | n => n⟩
theorem Tryz.laysM243 : Go.Proofs.LaysM.n243 Tryz.prog Tryz.laysM243_ren := {
  mixed := by kernel_rfl
  f129 := Tryz.func172.trans (congrArg some (by kernel_rfl))
  f243 := Tryz.func123.trans (congrArg some (by kernel_rfl))
  f246 := Tryz.func139.trans (congrArg some (by kernel_rfl))
  f283 := Tryz.func155.trans (congrArg some (by kernel_rfl))
  f284 := Tryz.func156.trans (congrArg some (by kernel_rfl))
  f285 := Tryz.func157.trans (congrArg some (by kernel_rfl))
  f286 := Tryz.func158.trans (congrArg some (by kernel_rfl))
  f317 := Tryz.func171.trans (congrArg some (by kernel_rfl))
  f318 := Tryz.func173.trans (congrArg some (by kernel_rfl))
  f319 := Tryz.func174.trans (congrArg some (by kernel_rfl))
  f320 := Tryz.func175.trans (congrArg some (by kernel_rfl))
  f337 := Tryz.func181.trans (congrArg some (by kernel_rfl))
  f338 := Tryz.func182.trans (congrArg some (by kernel_rfl))
  t0 := Tryz.underlying0
  a0 := Tryz.isAgg0
  z0 := Tryz.sizeOf0
  v0 := Tryz.zeroValue0
  t2 := Tryz.underlying2
  a2 := Tryz.isAgg2
  z2 := Tryz.sizeOf2
  v2 := Tryz.zeroValue2
  t3 := Tryz.underlying3
  a3 := Tryz.isAgg3
  z3 := Tryz.sizeOf3
  v3 := Tryz.zeroValue3
  t4 := Tryz.underlying4
  a4 := Tryz.isAgg4
  z4 := Tryz.sizeOf4
  v4 := Tryz.zeroValue4
  t5 := Tryz.underlying5
  a5 := Tryz.isAgg5
  z5 := Tryz.sizeOf5
  v5 := Tryz.zeroValue5
  t9 := Tryz.underlying9
  a9 := Tryz.isAgg9
  z9 := Tryz.sizeOf9
  v9 := Tryz.zeroValue9
  t20 := Tryz.underlying20
  a20 := Tryz.isAgg20
  z20 := Tryz.sizeOf20
  v20 := Tryz.zeroValue20
  t37 := Tryz.underlying73
  a37 := Tryz.isAgg73
  z37 := Tryz.sizeOf73
  v37 := Tryz.zeroValue73
  t46 := Tryz.underlying191
  a46 := Tryz.isAgg191
  z46 := Tryz.sizeOf191
  v46 := Tryz.zeroValue191
  t51 := Tryz.underlying194
  a51 := Tryz.isAgg194
  z51 := Tryz.sizeOf194
  v51 := Tryz.zeroValue194
  t53 := Tryz.underlying176
  a53 := Tryz.isAgg176
  z53 := Tryz.sizeOf176
  v53 := Tryz.zeroValue176
  t171 := Tryz.underlying175
  a171 := Tryz.isAgg175
  z171 := Tryz.sizeOf175
  v171 := Tryz.zeroValue175
  t173 := Tryz.underlying179
  a173 := Tryz.isAgg179
  z173 := Tryz.sizeOf179
  v173 := Tryz.zeroValue179
  t212 := Tryz.underlying193
  a212 := Tryz.isAgg193
  z212 := Tryz.sizeOf193
  v212 := Tryz.zeroValue193
  t213 := Tryz.underlying195
  a213 := Tryz.isAgg195
  z213 := Tryz.sizeOf195
  t232 := Tryz.underlying211
  a232 := Tryz.isAgg211
  z232 := Tryz.sizeOf211
  v232 := Tryz.zeroValue211
  t233 := Tryz.underlying212
  a233 := Tryz.isAgg212
  z233 := Tryz.sizeOf212
  v233 := Tryz.zeroValue212
  g17 := by kernel_rfl
  g18 := by kernel_rfl
  g19 := by kernel_rfl
  i0 := by kernel_rfl
  i2 := by kernel_rfl
  i3 := by kernel_rfl
  i4 := by kernel_rfl
  i5 := by kernel_rfl
  i9 := by kernel_rfl
  i20 := by kernel_rfl
  i37 := by kernel_rfl
  i46 := by kernel_rfl
  i51 := by kernel_rfl
  i53 := by kernel_rfl
  i171 := by kernel_rfl
  i173 := by kernel_rfl
  i212 := by kernel_rfl
  i232 := by kernel_rfl
  i233 := by kernel_rfl
  m17 := by kernel_rfl
  m18 := by kernel_rfl
  m19 := by kernel_rfl }
open Go.RowKit Go.Sort Go.Lib in
/-- internal/strconv.Itoa: "Itoa is equivalent to FormatInt(int64(i), 10).": i's decimal numeral, for every int. (LAID: no walk: one application.) -/
theorem Tryz.internal_strconv_Itoa (n : Int) (h0 : -9223372036854775808 ≤ n) (h1 : n ≤ 9223372036854775807) (w : World) (htab : Lib.TabIs Tryz.prog w "internal/strconv.uint64pow10" .u64 Lib.pow10Tab) :
    Calls Tryz.prog 123 #[.int .i64 n] w fun e w' => e = .returned (.string ⟨(Lib.itoa n).toArray⟩) ∧ ∃ k os, w' = grow (w.drewN k) os := Any.internal_strconv_Itoa Tryz.laysM243 n h0 h1 w htab
def Tryz.lays243_ren : Go.Shelf.Ren := ⟨fun | 243 => 123 | 246 => 139 | 283 => 155 | 284 => 156 | 285 => 157 | 286 => 158 | 129 => 172 | 317 => 171 | 318 => 173 | 319 => 174 | 320 => 175 | 337 => 181 | 338 => 182 | n => n, fun | 3 => 3 | 9 => 9 | 2 => 2 | 4 => 4 | 171 => 175 | 0 => 0 | 53 => 176 | 37 => 73 | 5 => 5 | 173 => 179 | 212 => 193 | 51 => 194 | 20 => 20 | 213 => 195 | 46 => 191 | 232 => 211 | 233 => 212 | n => n, fun | 17 => 2 | 18 => 7 | 19 => 8 | n => n⟩
theorem Tryz.lays243 : Go.Proofs.Lays.n243 Tryz.prog Tryz.lays243_ren := {
  mixed := by kernel_rfl
  f129 := Tryz.func172.trans (congrArg some (by kernel_rfl))
  f243 := Tryz.func123.trans (congrArg some (by kernel_rfl))
  f246 := Tryz.func139.trans (congrArg some (by kernel_rfl))
  f283 := Tryz.func155.trans (congrArg some (by kernel_rfl))
  f284 := Tryz.func156.trans (congrArg some (by kernel_rfl))
  f285 := Tryz.func157.trans (congrArg some (by kernel_rfl))
  f286 := Tryz.func158.trans (congrArg some (by kernel_rfl))
  f317 := Tryz.func171.trans (congrArg some (by kernel_rfl))
  f318 := Tryz.func173.trans (congrArg some (by kernel_rfl))
  f319 := Tryz.func174.trans (congrArg some (by kernel_rfl))
  f320 := Tryz.func175.trans (congrArg some (by kernel_rfl))
  f337 := Tryz.func181.trans (congrArg some (by kernel_rfl))
  f338 := Tryz.func182.trans (congrArg some (by kernel_rfl))
  t0 := Tryz.underlying0
  a0 := Tryz.isAgg0
  z0 := Tryz.sizeOf0
  v0 := Tryz.zeroValue0
  t2 := Tryz.underlying2
  a2 := Tryz.isAgg2
  z2 := Tryz.sizeOf2
  v2 := Tryz.zeroValue2
  t3 := Tryz.underlying3
  a3 := Tryz.isAgg3
  z3 := Tryz.sizeOf3
  v3 := Tryz.zeroValue3
  t4 := Tryz.underlying4
  a4 := Tryz.isAgg4
  z4 := Tryz.sizeOf4
  v4 := Tryz.zeroValue4
  t5 := Tryz.underlying5
  a5 := Tryz.isAgg5
  z5 := Tryz.sizeOf5
  v5 := Tryz.zeroValue5
  t9 := Tryz.underlying9
  a9 := Tryz.isAgg9
  z9 := Tryz.sizeOf9
  v9 := Tryz.zeroValue9
  t20 := Tryz.underlying20
  a20 := Tryz.isAgg20
  z20 := Tryz.sizeOf20
  v20 := Tryz.zeroValue20
  t37 := Tryz.underlying73
  a37 := Tryz.isAgg73
  z37 := Tryz.sizeOf73
  v37 := Tryz.zeroValue73
  t46 := Tryz.underlying191
  a46 := Tryz.isAgg191
  z46 := Tryz.sizeOf191
  v46 := Tryz.zeroValue191
  t51 := Tryz.underlying194
  a51 := Tryz.isAgg194
  z51 := Tryz.sizeOf194
  v51 := Tryz.zeroValue194
  t53 := Tryz.underlying176
  a53 := Tryz.isAgg176
  z53 := Tryz.sizeOf176
  v53 := Tryz.zeroValue176
  t171 := Tryz.underlying175
  a171 := Tryz.isAgg175
  z171 := Tryz.sizeOf175
  v171 := Tryz.zeroValue175
  t173 := Tryz.underlying179
  a173 := Tryz.isAgg179
  z173 := Tryz.sizeOf179
  v173 := Tryz.zeroValue179
  t212 := Tryz.underlying193
  a212 := Tryz.isAgg193
  z212 := Tryz.sizeOf193
  v212 := Tryz.zeroValue193
  t213 := Tryz.underlying195
  a213 := Tryz.isAgg195
  z213 := Tryz.sizeOf195
  t232 := Tryz.underlying211
  a232 := Tryz.isAgg211
  z232 := Tryz.sizeOf211
  v232 := Tryz.zeroValue211
  t233 := Tryz.underlying212
  a233 := Tryz.isAgg212
  z233 := Tryz.sizeOf212
  v233 := Tryz.zeroValue212
  g17 := by kernel_rfl
  g18 := by kernel_rfl
  g19 := by kernel_rfl }
open Go.RowKit Go.Sort Go.Lib in
/-- THE ROAD WITHOUT THE TABLE: 0 <= i < 100. (LAID: no walk: one application.) -/
theorem Tryz.internal_strconv_Itoa_small (i : Nat) (hi : i < 100) (w : World) :
    Calls Tryz.prog 123 #[.int .i64 i] w fun e w' => e = .returned (.string ⟨(Lib.decDigits i).toArray⟩) ∧ w' = w := Any.internal_strconv_Itoa_small Tryz.lays243 i hi w
def Tryz.laysM171_ren : Go.Shelf.Ren := ⟨fun | 171 => 89 | 243 => 123 | 246 => 139 | 283 => 155 | 284 => 156 | 285 => 157 | 286 => 158 | 129 => 172 | 317 => 171 | 318 => 173 | 319 => 174 | 320 => 175 | 337 => 181 | 338 => 182 | n => n, fun | 3 => 3 | 9 => 9 | 2 => 2 | 4 => 4 | 171 => 175 | 0 => 0 | 53 => 176 | 37 => 73 | 5 => 5 | 173 => 179 | 212 => 193 | 51 => 194 | 20 => 20 | 213 => 195 | 46 => 191 | 232 => 211 | 233 => 212 | n => n, fun | 17 => 2 | 18 => 7 | 19 => 8 | n => n⟩
theorem Tryz.laysM171 : Go.Proofs.LaysM.n171 Tryz.prog Tryz.laysM171_ren := {
  mixed := by kernel_rfl
  f129 := Tryz.func172.trans (congrArg some (by kernel_rfl))
  f171 := Tryz.func89.trans (congrArg some (by kernel_rfl))
  f243 := Tryz.func123.trans (congrArg some (by kernel_rfl))
  f246 := Tryz.func139.trans (congrArg some (by kernel_rfl))
  f283 := Tryz.func155.trans (congrArg some (by kernel_rfl))
  f284 := Tryz.func156.trans (congrArg some (by kernel_rfl))
  f285 := Tryz.func157.trans (congrArg some (by kernel_rfl))
  f286 := Tryz.func158.trans (congrArg some (by kernel_rfl))
  f317 := Tryz.func171.trans (congrArg some (by kernel_rfl))
  f318 := Tryz.func173.trans (congrArg some (by kernel_rfl))
  f319 := Tryz.func174.trans (congrArg some (by kernel_rfl))
  f320 := Tryz.func175.trans (congrArg some (by kernel_rfl))
  f337 := Tryz.func181.trans (congrArg some (by kernel_rfl))
  f338 := Tryz.func182.trans (congrArg some (by kernel_rfl))
  t0 := Tryz.underlying0
  a0 := Tryz.isAgg0
  z0 := Tryz.sizeOf0
  v0 := Tryz.zeroValue0
  t2 := Tryz.underlying2
  a2 := Tryz.isAgg2
  z2 := Tryz.sizeOf2
  v2 := Tryz.zeroValue2
  t3 := Tryz.underlying3
  a3 := Tryz.isAgg3
  z3 := Tryz.sizeOf3
  v3 := Tryz.zeroValue3
  t4 := Tryz.underlying4
  a4 := Tryz.isAgg4
  z4 := Tryz.sizeOf4
  v4 := Tryz.zeroValue4
  t5 := Tryz.underlying5
  a5 := Tryz.isAgg5
  z5 := Tryz.sizeOf5
  v5 := Tryz.zeroValue5
  t9 := Tryz.underlying9
  a9 := Tryz.isAgg9
  z9 := Tryz.sizeOf9
  v9 := Tryz.zeroValue9
  t20 := Tryz.underlying20
  a20 := Tryz.isAgg20
  z20 := Tryz.sizeOf20
  v20 := Tryz.zeroValue20
  t37 := Tryz.underlying73
  a37 := Tryz.isAgg73
  z37 := Tryz.sizeOf73
  v37 := Tryz.zeroValue73
  t46 := Tryz.underlying191
  a46 := Tryz.isAgg191
  z46 := Tryz.sizeOf191
  v46 := Tryz.zeroValue191
  t51 := Tryz.underlying194
  a51 := Tryz.isAgg194
  z51 := Tryz.sizeOf194
  v51 := Tryz.zeroValue194
  t53 := Tryz.underlying176
  a53 := Tryz.isAgg176
  z53 := Tryz.sizeOf176
  v53 := Tryz.zeroValue176
  t171 := Tryz.underlying175
  a171 := Tryz.isAgg175
  z171 := Tryz.sizeOf175
  v171 := Tryz.zeroValue175
  t173 := Tryz.underlying179
  a173 := Tryz.isAgg179
  z173 := Tryz.sizeOf179
  v173 := Tryz.zeroValue179
  t212 := Tryz.underlying193
  a212 := Tryz.isAgg193
  z212 := Tryz.sizeOf193
  v212 := Tryz.zeroValue193
  t213 := Tryz.underlying195
  a213 := Tryz.isAgg195
  z213 := Tryz.sizeOf195
  t232 := Tryz.underlying211
  a232 := Tryz.isAgg211
  z232 := Tryz.sizeOf211
  v232 := Tryz.zeroValue211
  t233 := Tryz.underlying212
  a233 := Tryz.isAgg212
  z233 := Tryz.sizeOf212
  v233 := Tryz.zeroValue212
  g17 := by kernel_rfl
  g18 := by kernel_rfl
  g19 := by kernel_rfl
  i0 := by kernel_rfl
  i2 := by kernel_rfl
  i3 := by kernel_rfl
  i4 := by kernel_rfl
  i5 := by kernel_rfl
  i9 := by kernel_rfl
  i20 := by kernel_rfl
  i37 := by kernel_rfl
  i46 := by kernel_rfl
  i51 := by kernel_rfl
  i53 := by kernel_rfl
  i171 := by kernel_rfl
  i173 := by kernel_rfl
  i212 := by kernel_rfl
  i232 := by kernel_rfl
  i233 := by kernel_rfl
  m17 := by kernel_rfl
  m18 := by kernel_rfl
  m19 := by kernel_rfl }
open Go.RowKit Go.Sort Go.Lib in
/-- strconv.Itoa: "Itoa is equivalent to FormatInt(int64(i), 10).": i's DECIMAL NUMERAL ('Lib.itoa': a '-' where i is negative, then the digits), FOR EVERY int. The world behind the call: the world before it, new blocks behind the heap (the library's 'var a [24]byte'), draws. (LAID: no walk: one application.) -/
theorem Tryz.strconv_Itoa (n : Int) (h0 : -9223372036854775808 ≤ n) (h1 : n ≤ 9223372036854775807) (w : World) (htab : Lib.TabIs Tryz.prog w "internal/strconv.uint64pow10" .u64 Lib.pow10Tab) :
    Calls Tryz.prog 89 #[.int .i64 n] w fun e w' => e = .returned (.string ⟨(Lib.itoa n).toArray⟩) ∧ ∃ k os, w' = grow (w.drewN k) os := Any.strconv_Itoa Tryz.laysM171 n h0 h1 w htab
def Tryz.lays171_ren : Go.Shelf.Ren := ⟨fun | 171 => 89 | 243 => 123 | 246 => 139 | 283 => 155 | 284 => 156 | 285 => 157 | 286 => 158 | 129 => 172 | 317 => 171 | 318 => 173 | 319 => 174 | 320 => 175 | 337 => 181 | 338 => 182 | n => n, fun | 3 => 3 | 9 => 9 | 2 => 2 | 4 => 4 | 171 => 175 | 0 => 0 | 53 => 176 | 37 => 73 | 5 => 5 | 173 => 179 | 212 => 193 | 51 => 194 | 20 => 20 | 213 => 195 | 46 => 191 | 232 => 211 | 233 => 212 | n => n, fun | 17 => 2 | 18 => 7 | 19 => 8 | n => n⟩
theorem Tryz.lays171 : Go.Proofs.Lays.n171 Tryz.prog Tryz.lays171_ren := {
  mixed := by kernel_rfl
  f129 := Tryz.func172.trans (congrArg some (by kernel_rfl))
  f171 := Tryz.func89.trans (congrArg some (by kernel_rfl))
  f243 := Tryz.func123.trans (congrArg some (by kernel_rfl))
  f246 := Tryz.func139.trans (congrArg some (by kernel_rfl))
  f283 := Tryz.func155.trans (congrArg some (by kernel_rfl))
  f284 := Tryz.func156.trans (congrArg some (by kernel_rfl))
  f285 := Tryz.func157.trans (congrArg some (by kernel_rfl))
  f286 := Tryz.func158.trans (congrArg some (by kernel_rfl))
  f317 := Tryz.func171.trans (congrArg some (by kernel_rfl))
  f318 := Tryz.func173.trans (congrArg some (by kernel_rfl))
  f319 := Tryz.func174.trans (congrArg some (by kernel_rfl))
  f320 := Tryz.func175.trans (congrArg some (by kernel_rfl))
  f337 := Tryz.func181.trans (congrArg some (by kernel_rfl))
  f338 := Tryz.func182.trans (congrArg some (by kernel_rfl))
  t0 := Tryz.underlying0
  a0 := Tryz.isAgg0
  z0 := Tryz.sizeOf0
  v0 := Tryz.zeroValue0
  t2 := Tryz.underlying2
  a2 := Tryz.isAgg2
  z2 := Tryz.sizeOf2
  v2 := Tryz.zeroValue2
  t3 := Tryz.underlying3
  a3 := Tryz.isAgg3
  z3 := Tryz.sizeOf3
  v3 := Tryz.zeroValue3
  t4 := Tryz.underlying4
  a4 := Tryz.isAgg4
  z4 := Tryz.sizeOf4
  v4 := Tryz.zeroValue4
  t5 := Tryz.underlying5
  a5 := Tryz.isAgg5
  z5 := Tryz.sizeOf5
  v5 := Tryz.zeroValue5
  t9 := Tryz.underlying9
  a9 := Tryz.isAgg9
  z9 := Tryz.sizeOf9
  v9 := Tryz.zeroValue9
  t20 := Tryz.underlying20
  a20 := Tryz.isAgg20
  z20 := Tryz.sizeOf20
  v20 := Tryz.zeroValue20
  t37 := Tryz.underlying73
  a37 := Tryz.isAgg73
  z37 := Tryz.sizeOf73
  v37 := Tryz.zeroValue73
  t46 := Tryz.underlying191
  a46 := Tryz.isAgg191
  z46 := Tryz.sizeOf191
  v46 := Tryz.zeroValue191
  t51 := Tryz.underlying194
  a51 := Tryz.isAgg194
  z51 := Tryz.sizeOf194
  v51 := Tryz.zeroValue194
  t53 := Tryz.underlying176
  a53 := Tryz.isAgg176
  z53 := Tryz.sizeOf176
  v53 := Tryz.zeroValue176
  t171 := Tryz.underlying175
  a171 := Tryz.isAgg175
  z171 := Tryz.sizeOf175
  v171 := Tryz.zeroValue175
  t173 := Tryz.underlying179
  a173 := Tryz.isAgg179
  z173 := Tryz.sizeOf179
  v173 := Tryz.zeroValue179
  t212 := Tryz.underlying193
  a212 := Tryz.isAgg193
  z212 := Tryz.sizeOf193
  v212 := Tryz.zeroValue193
  t213 := Tryz.underlying195
  a213 := Tryz.isAgg195
  z213 := Tryz.sizeOf195
  t232 := Tryz.underlying211
  a232 := Tryz.isAgg211
  z232 := Tryz.sizeOf211
  v232 := Tryz.zeroValue211
  t233 := Tryz.underlying212
  a233 := Tryz.isAgg212
  z233 := Tryz.sizeOf212
  v233 := Tryz.zeroValue212
  g17 := by kernel_rfl
  g18 := by kernel_rfl
  g19 := by kernel_rfl }
open Go.RowKit Go.Sort Go.Lib in
/-- THE ROAD WITHOUT THE TABLE: 0 <= i < 100: NO PREMISE ON THE WORLD, AND THE WORLD IS AS IT WAS: a row that keeps its argument in that range need list no table ('laid = []'). (LAID: no walk: one application.) -/
theorem Tryz.strconv_Itoa_small (i : Nat) (hi : i < 100) (w : World) :
    Calls Tryz.prog 89 #[.int .i64 i] w fun e w' => e = .returned (.string ⟨(Lib.decDigits i).toArray⟩) ∧ w' = w := Any.strconv_Itoa_small Tryz.lays171 i hi w
open Go.RowKit in
/-- internal/strconv.Atoi, at a string of 1 to 18 bytes THAT IS NO DECIMAL NUMERAL: 0, AND ErrSyntax (the package's own error number 2). The world behind the call: as it was, or with the one new row that '[]byte(s)' lays. (LAID: no walk: one application.) -/
theorem Tryz.internal_strconv_Atoi_err (s : ByteArray) (hl0 : 1 ≤ s.size) (hl : s.size ≤ 18) (h : Lib.atoi s.data.toList = none) (w : World) :
    Calls Tryz.prog 148 #[.string s] w fun e w' => e = .returned (.tuple #[.int .i64 0, (.iface 184 (.int .i64 2))]) ∧ (w' = w ∨ ∃ t, w' = Lib.bytesWorld w 5 t) := Any.internal_strconv_Atoi_err Tryz.lays244 s hl0 hl h w
def Tryz.lays247_ren : Go.Shelf.Ren := ⟨fun | 247 => 162 | 287 => 178 | 321 => 183 | 322 => 184 | n => n, fun | 9 => 9 | 3 => 3 | 2 => 2 | 75 => 133 | 4 => 4 | 167 => 184 | 5 => 5 | 53 => 176 | 175 => 197 | 46 => 191 | 37 => 73 | 0 => 0 | 21 => 21 | 80 => 79 | n => n, fun | n => n⟩
theorem Tryz.lays247 : Go.Proofs.Lays.n247 Tryz.prog Tryz.lays247_ren := {
  mixed := by kernel_rfl
  f247 := Tryz.func162.trans (congrArg some (by kernel_rfl))
  f287 := Tryz.func178.trans (congrArg some (by kernel_rfl))
  f321 := Tryz.func183.trans (congrArg some (by kernel_rfl))
  f322 := Tryz.func184.trans (congrArg some (by kernel_rfl))
  t0 := Tryz.underlying0
  a0 := Tryz.isAgg0
  z0 := Tryz.sizeOf0
  v0 := Tryz.zeroValue0
  t2 := Tryz.underlying2
  a2 := Tryz.isAgg2
  z2 := Tryz.sizeOf2
  v2 := Tryz.zeroValue2
  t3 := Tryz.underlying3
  a3 := Tryz.isAgg3
  z3 := Tryz.sizeOf3
  v3 := Tryz.zeroValue3
  t4 := Tryz.underlying4
  a4 := Tryz.isAgg4
  z4 := Tryz.sizeOf4
  v4 := Tryz.zeroValue4
  t5 := Tryz.underlying5
  a5 := Tryz.isAgg5
  z5 := Tryz.sizeOf5
  v5 := Tryz.zeroValue5
  t9 := Tryz.underlying9
  a9 := Tryz.isAgg9
  z9 := Tryz.sizeOf9
  v9 := Tryz.zeroValue9
  t21 := Tryz.underlying21
  a21 := Tryz.isAgg21
  z21 := Tryz.sizeOf21
  v21 := Tryz.zeroValue21
  t37 := Tryz.underlying73
  a37 := Tryz.isAgg73
  z37 := Tryz.sizeOf73
  v37 := Tryz.zeroValue73
  t46 := Tryz.underlying191
  a46 := Tryz.isAgg191
  z46 := Tryz.sizeOf191
  v46 := Tryz.zeroValue191
  t53 := Tryz.underlying176
  a53 := Tryz.isAgg176
  z53 := Tryz.sizeOf176
  v53 := Tryz.zeroValue176
  t75 := Tryz.underlying133
  a75 := Tryz.isAgg133
  z75 := Tryz.sizeOf133
  v75 := Tryz.zeroValue133
  t167 := Tryz.underlying184
  a167 := Tryz.isAgg184
  z167 := Tryz.sizeOf184
  v167 := Tryz.zeroValue184
  t175 := Tryz.underlying197
  a175 := Tryz.isAgg197
  z175 := Tryz.sizeOf197
  v175 := Tryz.zeroValue197 }
open Go.RowKit in
/-- internal/strconv.ParseInt at "": 'if s == "" { return 0, ErrSyntax }'. The world is as it was. (LAID: no walk: one application.) -/
theorem Tryz.internal_strconv_ParseInt_empty (base bits : Int) (w : World) :
    Calls Tryz.prog 162 #[.string ⟨#[]⟩, .int .i64 base, .int .i64 bits] w fun e w' => e = .returned (.tuple #[.int .i64 0, (.iface 184 (.int .i64 2))]) ∧ w' = w := Any.internal_strconv_ParseInt_empty Tryz.lays247 base bits w
open Go.RowKit in
/-- internal/strconv.Atoi at "". (LAID: no walk: one application.) -/
theorem Tryz.internal_strconv_Atoi_empty (w : World) :
    Calls Tryz.prog 148 #[.string ⟨#[]⟩] w fun e w' => e = .returned (.tuple #[.int .i64 0, (.iface 184 (.int .i64 2))]) ∧ w' = w := Any.internal_strconv_Atoi_empty Tryz.lays244 w
open Go.RowKit in
/-- internal/strconv.Atoi, AT EVERY STRING OF AT MOST 18 BYTES THAT IS NO DECIMAL NUMERAL: 0, and ErrSyntax. (LAID: no walk: one application.) -/
theorem Tryz.internal_strconv_Atoi_fail (s : ByteArray) (hl : s.size ≤ 18) (h : Lib.atoi s.data.toList = none) (w : World) :
    Calls Tryz.prog 148 #[.string s] w fun e w' => e = .returned (.tuple #[.int .i64 0, (.iface 184 (.int .i64 2))]) ∧ (w' = w ∨ ∃ t, w' = Lib.bytesWorld w 5 t) := Any.internal_strconv_Atoi_fail Tryz.lays244 s hl h w
def Tryz.laysM316_ren : Go.Shelf.Ren := ⟨fun | 316 => 179 | n => n, fun | 9 => 9 | 3 => 3 | 4 => 4 | 37 => 73 | 0 => 0 | 127 => 112 | 5 => 5 | n => n, fun | n => n⟩
theorem Tryz.laysM316 : Go.Proofs.LaysM.n316 Tryz.prog Tryz.laysM316_ren := {
  mixed := by kernel_rfl
  f316 := Tryz.func179.trans (congrArg some (by kernel_rfl))
  t0 := Tryz.underlying0
  a0 := Tryz.isAgg0
  z0 := Tryz.sizeOf0
  v0 := Tryz.zeroValue0
  t3 := Tryz.underlying3
  a3 := Tryz.isAgg3
  z3 := Tryz.sizeOf3
  v3 := Tryz.zeroValue3
  t4 := Tryz.underlying4
  a4 := Tryz.isAgg4
  z4 := Tryz.sizeOf4
  v4 := Tryz.zeroValue4
  t9 := Tryz.underlying9
  a9 := Tryz.isAgg9
  z9 := Tryz.sizeOf9
  v9 := Tryz.zeroValue9
  t37 := Tryz.underlying73
  a37 := Tryz.isAgg73
  z37 := Tryz.sizeOf73
  v37 := Tryz.zeroValue73
  t127 := Tryz.underlying112
  a127 := Tryz.isAgg112
  z127 := Tryz.sizeOf112
  v127 := Tryz.zeroValue112
  t5 := Tryz.underlying5
  a5 := Tryz.isAgg5
  z5 := Tryz.sizeOf5
  v5 := Tryz.zeroValue5
  i0 := by kernel_rfl
  i3 := by kernel_rfl
  i4 := by kernel_rfl
  i5 := by kernel_rfl
  i9 := by kernel_rfl
  i37 := by kernel_rfl
  i127 := by kernel_rfl }
open Go.RowKit in
/-- internal/stringslite.Clone (what strings.Clone calls): "Clone returns a fresh copy of s.": THE SAME BYTES. Of what was there nothing has turned (a new row is laid, and frozen, where s is not empty). (LAID: no walk: one application.) -/
theorem Tryz.stringslite_Clone (s : ByteArray) (w : World) (hlim : s.size ≤ 281474976710656) :
    Calls Tryz.prog 179 #[.string s] w fun e w' => e = .returned (.string s) ∧ Below w.heap.size w w' := Any.stringslite_Clone Tryz.laysM316 s w hlim
def Tryz.laysM279_ren : Go.Shelf.Ren := ⟨fun | 279 => 163 | 316 => 179 | n => n, fun | 9 => 9 | 168 => 187 | 75 => 133 | 210 => 200 | 3 => 3 | 4 => 4 | 37 => 73 | 0 => 0 | 127 => 112 | 80 => 79 | 5 => 5 | n => n, fun | 15 => 3 | n => n⟩
theorem Tryz.laysM279 : Go.Proofs.LaysM.n279 Tryz.prog Tryz.laysM279_ren := {
  mixed := by kernel_rfl
  f279 := Tryz.func163.trans (congrArg some (by kernel_rfl))
  f316 := Tryz.func179.trans (congrArg some (by kernel_rfl))
  t0 := Tryz.underlying0
  a0 := Tryz.isAgg0
  z0 := Tryz.sizeOf0
  v0 := Tryz.zeroValue0
  t3 := Tryz.underlying3
  a3 := Tryz.isAgg3
  z3 := Tryz.sizeOf3
  v3 := Tryz.zeroValue3
  t4 := Tryz.underlying4
  a4 := Tryz.isAgg4
  z4 := Tryz.sizeOf4
  v4 := Tryz.zeroValue4
  t9 := Tryz.underlying9
  a9 := Tryz.isAgg9
  z9 := Tryz.sizeOf9
  v9 := Tryz.zeroValue9
  t37 := Tryz.underlying73
  a37 := Tryz.isAgg73
  z37 := Tryz.sizeOf73
  v37 := Tryz.zeroValue73
  t75 := Tryz.underlying133
  a75 := Tryz.isAgg133
  z75 := Tryz.sizeOf133
  v75 := Tryz.zeroValue133
  t127 := Tryz.underlying112
  a127 := Tryz.isAgg112
  z127 := Tryz.sizeOf112
  v127 := Tryz.zeroValue112
  t168 := Tryz.underlying187
  a168 := Tryz.isAgg187
  z168 := Tryz.sizeOf187
  v168 := Tryz.zeroValue187
  t210 := Tryz.underlying200
  a210 := Tryz.isAgg200
  z210 := Tryz.sizeOf200
  v210 := Tryz.zeroValue200
  g15 := by kernel_rfl
  t5 := Tryz.underlying5
  a5 := Tryz.isAgg5
  z5 := Tryz.sizeOf5
  v5 := Tryz.zeroValue5
  t80 := Tryz.underlying79
  a80 := Tryz.isAgg79
  z80 := Tryz.sizeOf79
  v80 := Tryz.zeroValue79
  i0 := by kernel_rfl
  i3 := by kernel_rfl
  i4 := by kernel_rfl
  i5 := by kernel_rfl
  i9 := by kernel_rfl
  i37 := by kernel_rfl
  i75 := by kernel_rfl
  i80 := by kernel_rfl
  i127 := by kernel_rfl
  i168 := by kernel_rfl
  i210 := by kernel_rfl
  m15 := by kernel_rfl }
open Go.RowKit in
/-- strconv.syntaxError: '&NumError{fn, stringslite.Clone(str), ErrSyntax}': A POINTER TO A NEW BLOCK that holds fn, str's bytes, and what the variable ErrSyntax holds. Of what was there nothing has turned. (LAID: no walk: one application.) -/
theorem Tryz.strconv_syntaxError (fn s : ByteArray) (ev : Value) (w : World) (hlim : s.size ≤ 281474976710656) (hv : w.cell? ⟨3, 0, none⟩ = some ev) (hev : ev = .nilIface ∨ ∃ te pe, ev = .iface te pe) :
    Calls Tryz.prog 163 #[.string fn, .string s] w fun e w' => ∃ N, e = .returned (.pointer (some ⟨N, 0, none⟩)) ∧ w.heap.size ≤ N ∧ w'.heap[N]? = some (.cells #[.string fn, .string s, ev] 200 (0, 0)) ∧ Below w.heap.size w w' := Any.strconv_syntaxError Tryz.laysM279 fn s ev w hlim hv hev
def Tryz.laysC245_ren : Go.Shelf.Ren := ⟨fun | 245 => 149 | 279 => 163 | 280 => 164 | 281 => 165 | 282 => 166 | 316 => 179 | 171 => 89 | 205 => 180 | 243 => 123 | 246 => 139 | 283 => 155 | 284 => 156 | 285 => 157 | 286 => 158 | 129 => 172 | 317 => 171 | 318 => 173 | 319 => 174 | 320 => 175 | 337 => 181 | 338 => 182 | n => n, fun | 9 => 9 | 3 => 3 | 75 => 133 | 167 => 184 | 4 => 4 | 168 => 187 | 210 => 200 | 37 => 73 | 0 => 0 | 127 => 112 | 145 => 210 | 143 => 208 | 2 => 2 | 171 => 175 | 53 => 176 | 5 => 5 | 173 => 179 | 212 => 193 | 51 => 194 | 20 => 20 | 213 => 195 | 46 => 191 | 232 => 211 | 233 => 212 | 80 => 79 | n => n, fun | 15 => 3 | 16 => 4 | 17 => 2 | 18 => 7 | 19 => 8 | n => n⟩
theorem Tryz.laysC245 : Go.Proofs.LaysC.n245 Tryz.prog Tryz.laysC245_ren := {
  mixed := by kernel_rfl
  f129 := Tryz.func172.trans (congrArg some (by kernel_rfl))
  f171 := Tryz.func89.trans (congrArg some (by kernel_rfl))
  f205 := Tryz.func180.trans (congrArg some (by kernel_rfl))
  f243 := Tryz.func123.trans (congrArg some (by kernel_rfl))
  f245 := Tryz.func149.trans (congrArg some (by kernel_rfl))
  f246 := Tryz.func139.trans (congrArg some (by kernel_rfl))
  f279 := Tryz.func163.trans (congrArg some (by kernel_rfl))
  f280 := Tryz.func164.trans (congrArg some (by kernel_rfl))
  f281 := Tryz.func165.trans (congrArg some (by kernel_rfl))
  f282 := Tryz.func166.trans (congrArg some (by kernel_rfl))
  f283 := Tryz.func155.trans (congrArg some (by kernel_rfl))
  f284 := Tryz.func156.trans (congrArg some (by kernel_rfl))
  f285 := Tryz.func157.trans (congrArg some (by kernel_rfl))
  f286 := Tryz.func158.trans (congrArg some (by kernel_rfl))
  f316 := Tryz.func179.trans (congrArg some (by kernel_rfl))
  f317 := Tryz.func171.trans (congrArg some (by kernel_rfl))
  f318 := Tryz.func173.trans (congrArg some (by kernel_rfl))
  f319 := Tryz.func174.trans (congrArg some (by kernel_rfl))
  f320 := Tryz.func175.trans (congrArg some (by kernel_rfl))
  f337 := Tryz.func181.trans (congrArg some (by kernel_rfl))
  f338 := Tryz.func182.trans (congrArg some (by kernel_rfl))
  t0 := Tryz.underlying0
  a0 := Tryz.isAgg0
  z0 := Tryz.sizeOf0
  v0 := Tryz.zeroValue0
  t2 := Tryz.underlying2
  a2 := Tryz.isAgg2
  z2 := Tryz.sizeOf2
  v2 := Tryz.zeroValue2
  t3 := Tryz.underlying3
  a3 := Tryz.isAgg3
  z3 := Tryz.sizeOf3
  v3 := Tryz.zeroValue3
  t4 := Tryz.underlying4
  a4 := Tryz.isAgg4
  z4 := Tryz.sizeOf4
  v4 := Tryz.zeroValue4
  t5 := Tryz.underlying5
  a5 := Tryz.isAgg5
  z5 := Tryz.sizeOf5
  v5 := Tryz.zeroValue5
  t9 := Tryz.underlying9
  a9 := Tryz.isAgg9
  z9 := Tryz.sizeOf9
  v9 := Tryz.zeroValue9
  t20 := Tryz.underlying20
  a20 := Tryz.isAgg20
  z20 := Tryz.sizeOf20
  v20 := Tryz.zeroValue20
  t37 := Tryz.underlying73
  a37 := Tryz.isAgg73
  z37 := Tryz.sizeOf73
  v37 := Tryz.zeroValue73
  t46 := Tryz.underlying191
  a46 := Tryz.isAgg191
  z46 := Tryz.sizeOf191
  v46 := Tryz.zeroValue191
  t51 := Tryz.underlying194
  a51 := Tryz.isAgg194
  z51 := Tryz.sizeOf194
  v51 := Tryz.zeroValue194
  t53 := Tryz.underlying176
  a53 := Tryz.isAgg176
  z53 := Tryz.sizeOf176
  v53 := Tryz.zeroValue176
  t75 := Tryz.underlying133
  a75 := Tryz.isAgg133
  z75 := Tryz.sizeOf133
  v75 := Tryz.zeroValue133
  t127 := Tryz.underlying112
  a127 := Tryz.isAgg112
  z127 := Tryz.sizeOf112
  v127 := Tryz.zeroValue112
  t143 := Tryz.underlying208
  a143 := Tryz.isAgg208
  z143 := Tryz.sizeOf208
  v143 := Tryz.zeroValue208
  t145 := Tryz.underlying210
  a145 := Tryz.isAgg210
  z145 := Tryz.sizeOf210
  v145 := Tryz.zeroValue210
  t167 := Tryz.underlying184
  a167 := Tryz.isAgg184
  z167 := Tryz.sizeOf184
  v167 := Tryz.zeroValue184
  t168 := Tryz.underlying187
  a168 := Tryz.isAgg187
  z168 := Tryz.sizeOf187
  v168 := Tryz.zeroValue187
  t171 := Tryz.underlying175
  a171 := Tryz.isAgg175
  z171 := Tryz.sizeOf175
  v171 := Tryz.zeroValue175
  t173 := Tryz.underlying179
  a173 := Tryz.isAgg179
  z173 := Tryz.sizeOf179
  v173 := Tryz.zeroValue179
  t210 := Tryz.underlying200
  a210 := Tryz.isAgg200
  z210 := Tryz.sizeOf200
  v210 := Tryz.zeroValue200
  t212 := Tryz.underlying193
  a212 := Tryz.isAgg193
  z212 := Tryz.sizeOf193
  v212 := Tryz.zeroValue193
  t213 := Tryz.underlying195
  a213 := Tryz.isAgg195
  z213 := Tryz.sizeOf195
  t232 := Tryz.underlying211
  a232 := Tryz.isAgg211
  z232 := Tryz.sizeOf211
  v232 := Tryz.zeroValue211
  t233 := Tryz.underlying212
  a233 := Tryz.isAgg212
  z233 := Tryz.sizeOf212
  v233 := Tryz.zeroValue212
  g15 := by kernel_rfl
  g16 := by kernel_rfl
  g17 := by kernel_rfl
  g18 := by kernel_rfl
  g19 := by kernel_rfl
  t80 := Tryz.underlying79
  a80 := Tryz.isAgg79
  z80 := Tryz.sizeOf79
  v80 := Tryz.zeroValue79
  i0 := by kernel_rfl
  i2 := by kernel_rfl
  i3 := by kernel_rfl
  i4 := by kernel_rfl
  i5 := by kernel_rfl
  i9 := by kernel_rfl
  i20 := by kernel_rfl
  i37 := by kernel_rfl
  i46 := by kernel_rfl
  i51 := by kernel_rfl
  i53 := by kernel_rfl
  i75 := by kernel_rfl
  i80 := by kernel_rfl
  i127 := by kernel_rfl
  i143 := by kernel_rfl
  i145 := by kernel_rfl
  i167 := by kernel_rfl
  i168 := by kernel_rfl
  i171 := by kernel_rfl
  i173 := by kernel_rfl
  i210 := by kernel_rfl
  i212 := by kernel_rfl
  i232 := by kernel_rfl
  i233 := by kernel_rfl
  m15 := by kernel_rfl
  m16 := by kernel_rfl
  m17 := by kernel_rfl
  m18 := by kernel_rfl
  m19 := by kernel_rfl
  c0 := by kernel_rfl
  c2 := by kernel_rfl
  c3 := by kernel_rfl
  c4 := by kernel_rfl
  c5 := by kernel_rfl
  c9 := by kernel_rfl
  c20 := by kernel_rfl
  c37 := by kernel_rfl
  c46 := by kernel_rfl
  c51 := by kernel_rfl
  c53 := by kernel_rfl
  c75 := by kernel_rfl
  c80 := by kernel_rfl
  c127 := by kernel_rfl
  c143 := by kernel_rfl
  c145 := by kernel_rfl
  c167 := by kernel_rfl
  c168 := by kernel_rfl
  c171 := by kernel_rfl
  c173 := by kernel_rfl
  c210 := by kernel_rfl
  c212 := by kernel_rfl
  c213 := by kernel_rfl
  c232 := by kernel_rfl
  c233 := by kernel_rfl }
open Go.RowKit in
/-- strconv.toError, at the inner package's ErrSyntax: 'syntaxError(fn, s)' as an error: A *NumError IN A NEW BLOCK. (LAID: no walk: one application.) -/
theorem Tryz.strconv_toError_syntax (fn s : ByteArray) (base bits : Int) (ev : Value) (w : World) (hlim : s.size ≤ 281474976710656) (hv : w.cell? ⟨3, 0, none⟩ = some ev) (hev : ev = .nilIface ∨ ∃ te pe, ev = .iface te pe) :
    Calls Tryz.prog 149 #[.string fn, .string s, .int .i64 base, .int .i64 bits, .iface 184 (.int .i64 2)] w fun e w' => ∃ N, e = .returned (.iface 187 (.pointer (some ⟨N, 0, none⟩))) ∧ w.heap.size ≤ N ∧ w'.heap[N]? = some (.cells #[.string fn, .string s, ev] 200 (0, 0)) ∧ Below w.heap.size w w' := Any.strconv_toError_syntax Tryz.laysC245 fn s base bits ev w hlim hv hev
def Tryz.lays321_ren : Go.Shelf.Ren := ⟨fun | 321 => 183 | n => n, fun | 5 => 5 | n => n, fun | n => n⟩
theorem Tryz.lays321 : Go.Proofs.Lays.n321 Tryz.prog Tryz.lays321_ren := {
  mixed := by kernel_rfl
  f321 := Tryz.func183.trans (congrArg some (by kernel_rfl))
  t5 := Tryz.underlying5
  a5 := Tryz.isAgg5
  z5 := Tryz.sizeOf5
  v5 := Tryz.zeroValue5 }
open Go.RowKit in
/-- internal/strconv.lower: 'c | ('x' - 'X')': the bit 32 set. The world is as it was. (LAID: no walk: one application.) -/
theorem Tryz.internal_strconv_lower (c : Int) (w : World) :
    Calls Tryz.prog 183 #[.int .u8 c] w fun e w' => e = .returned (.int .u8 (bits .or .u8 c 32)) ∧ w' = w := Any.internal_strconv_lower Tryz.lays321 c w
def Tryz.lays287_ren : Go.Shelf.Ren := ⟨fun | 287 => 178 | 321 => 183 | 322 => 184 | n => n, fun | 9 => 9 | 3 => 3 | 53 => 176 | 75 => 133 | 4 => 4 | 167 => 184 | 5 => 5 | 46 => 191 | 37 => 73 | 0 => 0 | 21 => 21 | 80 => 79 | n => n, fun | n => n⟩
theorem Tryz.lays287 : Go.Proofs.Lays.n287 Tryz.prog Tryz.lays287_ren := {
  mixed := by kernel_rfl
  f287 := Tryz.func178.trans (congrArg some (by kernel_rfl))
  f321 := Tryz.func183.trans (congrArg some (by kernel_rfl))
  f322 := Tryz.func184.trans (congrArg some (by kernel_rfl))
  t0 := Tryz.underlying0
  a0 := Tryz.isAgg0
  z0 := Tryz.sizeOf0
  v0 := Tryz.zeroValue0
  t3 := Tryz.underlying3
  a3 := Tryz.isAgg3
  z3 := Tryz.sizeOf3
  v3 := Tryz.zeroValue3
  t4 := Tryz.underlying4
  a4 := Tryz.isAgg4
  z4 := Tryz.sizeOf4
  v4 := Tryz.zeroValue4
  t5 := Tryz.underlying5
  a5 := Tryz.isAgg5
  z5 := Tryz.sizeOf5
  v5 := Tryz.zeroValue5
  t9 := Tryz.underlying9
  a9 := Tryz.isAgg9
  z9 := Tryz.sizeOf9
  v9 := Tryz.zeroValue9
  t21 := Tryz.underlying21
  a21 := Tryz.isAgg21
  z21 := Tryz.sizeOf21
  v21 := Tryz.zeroValue21
  t37 := Tryz.underlying73
  a37 := Tryz.isAgg73
  z37 := Tryz.sizeOf73
  v37 := Tryz.zeroValue73
  t46 := Tryz.underlying191
  a46 := Tryz.isAgg191
  z46 := Tryz.sizeOf191
  v46 := Tryz.zeroValue191
  t53 := Tryz.underlying176
  a53 := Tryz.isAgg176
  z53 := Tryz.sizeOf176
  v53 := Tryz.zeroValue176
  t75 := Tryz.underlying133
  a75 := Tryz.isAgg133
  z75 := Tryz.sizeOf133
  v75 := Tryz.zeroValue133
  t167 := Tryz.underlying184
  a167 := Tryz.isAgg184
  z167 := Tryz.sizeOf184
  v167 := Tryz.zeroValue184 }
open Go.RowKit in
/-- internal/strconv.ParseUint(s, 10, 0), s NOT EMPTY: 'Lib.parseUint10 0' OF ITS BYTES: the number; or (0, ErrSyntax); or (the greatest uint64, ErrRange). The world behind the call: the one new row that '[]byte(s)' lays. (LAID: no walk: one application.) -/
theorem Tryz.internal_strconv_ParseUint_10 (t : ByteArray) (hne : t.size ≠ 0) (hmax : t.size ≤ 9223372036854775806) (w : World) :
    Calls Tryz.prog 178 #[.string t, .int .i64 10, .int .i64 0] w fun e w' => e = .returned (Lib.uintTuple 184 (Lib.parseUint10 0 t.data.toList)) ∧ w' = Lib.bytesWorld w 5 t := Any.internal_strconv_ParseUint_10 Tryz.lays287 t hne hmax w
open Go.RowKit in
/-- internal/strconv.ParseUint(s, 10, 0): 'Lib.parseMag' OF ITS BYTES. The world: as it was (the empty string), or with the one new row that '[]byte(s)' lays. (LAID: no walk: one application.) -/
theorem Tryz.internal_strconv_ParseUint_10_any (t : ByteArray) (hmax : t.size ≤ 9223372036854775806) (w : World) :
    Calls Tryz.prog 178 #[.string t, .int .i64 10, .int .i64 0] w fun e w' => e = .returned (Lib.uintTuple 184 (Lib.parseMag t.data.toList)) ∧ (w' = w ∨ w' = Lib.bytesWorld w 5 t) := Any.internal_strconv_ParseUint_10_any Tryz.lays287 t hmax w
def Tryz.laysC247_ren : Go.Shelf.Ren := ⟨fun | 247 => 162 | 287 => 178 | 321 => 183 | 322 => 184 | n => n, fun | 9 => 9 | 3 => 3 | 2 => 2 | 75 => 133 | 4 => 4 | 167 => 184 | 5 => 5 | 53 => 176 | 175 => 197 | 46 => 191 | 37 => 73 | 0 => 0 | 21 => 21 | 80 => 79 | n => n, fun | n => n⟩
theorem Tryz.laysC247 : Go.Proofs.LaysC.n247 Tryz.prog Tryz.laysC247_ren := {
  mixed := by kernel_rfl
  f247 := Tryz.func162.trans (congrArg some (by kernel_rfl))
  f287 := Tryz.func178.trans (congrArg some (by kernel_rfl))
  f321 := Tryz.func183.trans (congrArg some (by kernel_rfl))
  f322 := Tryz.func184.trans (congrArg some (by kernel_rfl))
  t0 := Tryz.underlying0
  a0 := Tryz.isAgg0
  z0 := Tryz.sizeOf0
  v0 := Tryz.zeroValue0
  t2 := Tryz.underlying2
  a2 := Tryz.isAgg2
  z2 := Tryz.sizeOf2
  v2 := Tryz.zeroValue2
  t3 := Tryz.underlying3
  a3 := Tryz.isAgg3
  z3 := Tryz.sizeOf3
  v3 := Tryz.zeroValue3
  t4 := Tryz.underlying4
  a4 := Tryz.isAgg4
  z4 := Tryz.sizeOf4
  v4 := Tryz.zeroValue4
  t5 := Tryz.underlying5
  a5 := Tryz.isAgg5
  z5 := Tryz.sizeOf5
  v5 := Tryz.zeroValue5
  t9 := Tryz.underlying9
  a9 := Tryz.isAgg9
  z9 := Tryz.sizeOf9
  v9 := Tryz.zeroValue9
  t21 := Tryz.underlying21
  a21 := Tryz.isAgg21
  z21 := Tryz.sizeOf21
  v21 := Tryz.zeroValue21
  t37 := Tryz.underlying73
  a37 := Tryz.isAgg73
  z37 := Tryz.sizeOf73
  v37 := Tryz.zeroValue73
  t46 := Tryz.underlying191
  a46 := Tryz.isAgg191
  z46 := Tryz.sizeOf191
  v46 := Tryz.zeroValue191
  t53 := Tryz.underlying176
  a53 := Tryz.isAgg176
  z53 := Tryz.sizeOf176
  v53 := Tryz.zeroValue176
  t75 := Tryz.underlying133
  a75 := Tryz.isAgg133
  z75 := Tryz.sizeOf133
  v75 := Tryz.zeroValue133
  t167 := Tryz.underlying184
  a167 := Tryz.isAgg184
  z167 := Tryz.sizeOf184
  v167 := Tryz.zeroValue184
  t175 := Tryz.underlying197
  a175 := Tryz.isAgg197
  z175 := Tryz.sizeOf197
  v175 := Tryz.zeroValue197
  t80 := Tryz.underlying79
  a80 := Tryz.isAgg79
  z80 := Tryz.sizeOf79
  v80 := Tryz.zeroValue79
  i0 := by kernel_rfl
  i2 := by kernel_rfl
  i3 := by kernel_rfl
  i4 := by kernel_rfl
  i5 := by kernel_rfl
  i9 := by kernel_rfl
  i21 := by kernel_rfl
  i37 := by kernel_rfl
  i46 := by kernel_rfl
  i53 := by kernel_rfl
  i75 := by kernel_rfl
  i80 := by kernel_rfl
  i167 := by kernel_rfl
  i175 := by kernel_rfl
  c0 := by kernel_rfl
  c2 := by kernel_rfl
  c3 := by kernel_rfl
  c4 := by kernel_rfl
  c5 := by kernel_rfl
  c9 := by kernel_rfl
  c21 := by kernel_rfl
  c37 := by kernel_rfl
  c46 := by kernel_rfl
  c53 := by kernel_rfl
  c75 := by kernel_rfl
  c80 := by kernel_rfl
  c167 := by kernel_rfl
  c175 := by kernel_rfl }
open Go.RowKit in
/-- internal/strconv.ParseInt(s, 10, 0), s NOT EMPTY: 'Lib.atoiAll' OF ITS BYTES: (the number, nil); (0, ErrSyntax); (the greatest or the least int64 by the sign, ErrRange). The world: as it was, or with the one new row that '[]byte(..)' lays. (LAID: no walk: one application.) -/
theorem Tryz.internal_strconv_ParseInt_10 (s : ByteArray) (hne : s.size ≠ 0) (hmax : s.size ≤ 9223372036854775806) (w : World) :
    Calls Tryz.prog 162 #[.string s, .int .i64 10, .int .i64 0] w fun e w' => e = .returned (Lib.intTuple 184 (Lib.atoiSat s.data.toList) (Lib.atoiAll s.data.toList)) ∧ (w' = w ∨ ∃ t, w' = Lib.bytesWorld w 5 t) := Any.internal_strconv_ParseInt_10 Tryz.laysC247 s hne hmax w
def Tryz.laysC244_ren : Go.Shelf.Ren := ⟨fun | 244 => 148 | 247 => 162 | 287 => 178 | 321 => 183 | 322 => 184 | n => n, fun | 9 => 9 | 3 => 3 | 75 => 133 | 4 => 4 | 5 => 5 | 167 => 184 | 37 => 73 | 0 => 0 | 85 => 185 | 2 => 2 | 53 => 176 | 175 => 197 | 46 => 191 | 21 => 21 | 80 => 79 | n => n, fun | n => n⟩
theorem Tryz.laysC244 : Go.Proofs.LaysC.n244 Tryz.prog Tryz.laysC244_ren := {
  mixed := by kernel_rfl
  f244 := Tryz.func148.trans (congrArg some (by kernel_rfl))
  f247 := Tryz.func162.trans (congrArg some (by kernel_rfl))
  f287 := Tryz.func178.trans (congrArg some (by kernel_rfl))
  f321 := Tryz.func183.trans (congrArg some (by kernel_rfl))
  f322 := Tryz.func184.trans (congrArg some (by kernel_rfl))
  t0 := Tryz.underlying0
  a0 := Tryz.isAgg0
  z0 := Tryz.sizeOf0
  v0 := Tryz.zeroValue0
  t2 := Tryz.underlying2
  a2 := Tryz.isAgg2
  z2 := Tryz.sizeOf2
  v2 := Tryz.zeroValue2
  t3 := Tryz.underlying3
  a3 := Tryz.isAgg3
  z3 := Tryz.sizeOf3
  v3 := Tryz.zeroValue3
  t4 := Tryz.underlying4
  a4 := Tryz.isAgg4
  z4 := Tryz.sizeOf4
  v4 := Tryz.zeroValue4
  t5 := Tryz.underlying5
  a5 := Tryz.isAgg5
  z5 := Tryz.sizeOf5
  v5 := Tryz.zeroValue5
  t9 := Tryz.underlying9
  a9 := Tryz.isAgg9
  z9 := Tryz.sizeOf9
  v9 := Tryz.zeroValue9
  t21 := Tryz.underlying21
  a21 := Tryz.isAgg21
  z21 := Tryz.sizeOf21
  v21 := Tryz.zeroValue21
  t37 := Tryz.underlying73
  a37 := Tryz.isAgg73
  z37 := Tryz.sizeOf73
  v37 := Tryz.zeroValue73
  t46 := Tryz.underlying191
  a46 := Tryz.isAgg191
  z46 := Tryz.sizeOf191
  v46 := Tryz.zeroValue191
  t53 := Tryz.underlying176
  a53 := Tryz.isAgg176
  z53 := Tryz.sizeOf176
  v53 := Tryz.zeroValue176
  t75 := Tryz.underlying133
  a75 := Tryz.isAgg133
  z75 := Tryz.sizeOf133
  v75 := Tryz.zeroValue133
  t85 := Tryz.underlying185
  a85 := Tryz.isAgg185
  z85 := Tryz.sizeOf185
  v85 := Tryz.zeroValue185
  t167 := Tryz.underlying184
  a167 := Tryz.isAgg184
  z167 := Tryz.sizeOf184
  v167 := Tryz.zeroValue184
  t175 := Tryz.underlying197
  a175 := Tryz.isAgg197
  z175 := Tryz.sizeOf197
  v175 := Tryz.zeroValue197
  t80 := Tryz.underlying79
  a80 := Tryz.isAgg79
  z80 := Tryz.sizeOf79
  v80 := Tryz.zeroValue79
  i0 := by kernel_rfl
  i2 := by kernel_rfl
  i3 := by kernel_rfl
  i4 := by kernel_rfl
  i5 := by kernel_rfl
  i9 := by kernel_rfl
  i21 := by kernel_rfl
  i37 := by kernel_rfl
  i46 := by kernel_rfl
  i53 := by kernel_rfl
  i75 := by kernel_rfl
  i80 := by kernel_rfl
  i85 := by kernel_rfl
  i167 := by kernel_rfl
  i175 := by kernel_rfl
  c0 := by kernel_rfl
  c2 := by kernel_rfl
  c3 := by kernel_rfl
  c4 := by kernel_rfl
  c5 := by kernel_rfl
  c9 := by kernel_rfl
  c21 := by kernel_rfl
  c37 := by kernel_rfl
  c46 := by kernel_rfl
  c53 := by kernel_rfl
  c75 := by kernel_rfl
  c80 := by kernel_rfl
  c85 := by kernel_rfl
  c167 := by kernel_rfl
  c175 := by kernel_rfl }
open Go.RowKit in
/-- internal/strconv.Atoi, AT EVERY STRING OF 19 BYTES OR MORE: 'Lib.atoiAll' OF ITS BYTES: (the number, nil); (0, ErrSyntax); (the greatest or the least int by the sign, ErrRange). (LAID: no walk: one application.) -/
theorem Tryz.internal_strconv_Atoi_long (s : ByteArray) (h19 : 19 ≤ s.size) (hmax : s.size ≤ 9223372036854775806) (w : World) :
    Calls Tryz.prog 148 #[.string s] w fun e w' => e = .returned (Lib.intTuple 184 (Lib.atoiSat s.data.toList) (Lib.atoiAll s.data.toList)) ∧ (w' = w ∨ ∃ t, w' = Lib.bytesWorld w 5 t) := Any.internal_strconv_Atoi_long Tryz.laysC244 s h19 hmax w
open Go.RowKit in
/-- internal/strconv.Atoi, AT EVERY STRING: 'Lib.atoiAll' OF ITS BYTES: (the number, nil); (0, ErrSyntax); (the greatest or the least int by the sign, ErrRange). The world: as it was, or with the one new row that '[]byte(..)' lays. (LAID: no walk: one application.) -/
theorem Tryz.internal_strconv_Atoi_all (s : ByteArray) (hmax : s.size ≤ 9223372036854775806) (w : World) :
    Calls Tryz.prog 148 #[.string s] w fun e w' => e = .returned (Lib.intTuple 184 (Lib.atoiSat s.data.toList) (Lib.atoiAll s.data.toList)) ∧ (w' = w ∨ ∃ t, w' = Lib.bytesWorld w 5 t) := Any.internal_strconv_Atoi_all Tryz.laysC244 s hmax w
def Tryz.laysM280_ren : Go.Shelf.Ren := ⟨fun | 280 => 164 | 316 => 179 | n => n, fun | 9 => 9 | 168 => 187 | 75 => 133 | 210 => 200 | 3 => 3 | 4 => 4 | 37 => 73 | 0 => 0 | 127 => 112 | 80 => 79 | 5 => 5 | n => n, fun | 16 => 4 | n => n⟩
theorem Tryz.laysM280 : Go.Proofs.LaysM.n280 Tryz.prog Tryz.laysM280_ren := {
  mixed := by kernel_rfl
  f280 := Tryz.func164.trans (congrArg some (by kernel_rfl))
  f316 := Tryz.func179.trans (congrArg some (by kernel_rfl))
  t0 := Tryz.underlying0
  a0 := Tryz.isAgg0
  z0 := Tryz.sizeOf0
  v0 := Tryz.zeroValue0
  t3 := Tryz.underlying3
  a3 := Tryz.isAgg3
  z3 := Tryz.sizeOf3
  v3 := Tryz.zeroValue3
  t4 := Tryz.underlying4
  a4 := Tryz.isAgg4
  z4 := Tryz.sizeOf4
  v4 := Tryz.zeroValue4
  t9 := Tryz.underlying9
  a9 := Tryz.isAgg9
  z9 := Tryz.sizeOf9
  v9 := Tryz.zeroValue9
  t37 := Tryz.underlying73
  a37 := Tryz.isAgg73
  z37 := Tryz.sizeOf73
  v37 := Tryz.zeroValue73
  t75 := Tryz.underlying133
  a75 := Tryz.isAgg133
  z75 := Tryz.sizeOf133
  v75 := Tryz.zeroValue133
  t127 := Tryz.underlying112
  a127 := Tryz.isAgg112
  z127 := Tryz.sizeOf112
  v127 := Tryz.zeroValue112
  t168 := Tryz.underlying187
  a168 := Tryz.isAgg187
  z168 := Tryz.sizeOf187
  v168 := Tryz.zeroValue187
  t210 := Tryz.underlying200
  a210 := Tryz.isAgg200
  z210 := Tryz.sizeOf200
  v210 := Tryz.zeroValue200
  g16 := by kernel_rfl
  t5 := Tryz.underlying5
  a5 := Tryz.isAgg5
  z5 := Tryz.sizeOf5
  v5 := Tryz.zeroValue5
  t80 := Tryz.underlying79
  a80 := Tryz.isAgg79
  z80 := Tryz.sizeOf79
  v80 := Tryz.zeroValue79
  i0 := by kernel_rfl
  i3 := by kernel_rfl
  i4 := by kernel_rfl
  i5 := by kernel_rfl
  i9 := by kernel_rfl
  i37 := by kernel_rfl
  i75 := by kernel_rfl
  i80 := by kernel_rfl
  i127 := by kernel_rfl
  i168 := by kernel_rfl
  i210 := by kernel_rfl
  m16 := by kernel_rfl }
open Go.RowKit in
/-- strconv.rangeError: '&NumError{fn, stringslite.Clone(str), ErrRange}': A POINTER TO A NEW BLOCK that holds fn, str's bytes, and what the variable ErrRange holds. Of what was there nothing has turned. (LAID: no walk: one application.) -/
theorem Tryz.strconv_rangeError (fn s : ByteArray) (ev : Value) (w : World) (hlim : s.size ≤ 281474976710656) (hv : w.cell? ⟨4, 0, none⟩ = some ev) (hev : ev = .nilIface ∨ ∃ te pe, ev = .iface te pe) :
    Calls Tryz.prog 164 #[.string fn, .string s] w fun e w' => ∃ N, e = .returned (.pointer (some ⟨N, 0, none⟩)) ∧ w.heap.size ≤ N ∧ w'.heap[N]? = some (.cells #[.string fn, .string s, ev] 200 (0, 0)) ∧ Below w.heap.size w w' := Any.strconv_rangeError Tryz.laysM280 fn s ev w hlim hv hev
open Go.RowKit in
/-- strconv.toError, at the inner package's ErrRange: 'rangeError(fn, s)' as an error: A *NumError IN A NEW BLOCK. (LAID: no walk: one application.) -/
theorem Tryz.strconv_toError_range (fn s : ByteArray) (base bits : Int) (ev : Value) (w : World) (hlim : s.size ≤ 281474976710656) (hv : w.cell? ⟨4, 0, none⟩ = some ev) (hev : ev = .nilIface ∨ ∃ te pe, ev = .iface te pe) :
    Calls Tryz.prog 149 #[.string fn, .string s, .int .i64 base, .int .i64 bits, .iface 184 (.int .i64 1)] w fun e w' => ∃ N, e = .returned (.iface 187 (.pointer (some ⟨N, 0, none⟩))) ∧ w.heap.size ≤ N ∧ w'.heap[N]? = some (.cells #[.string fn, .string s, ev] 200 (0, 0)) ∧ Below w.heap.size w w' := Any.strconv_toError_range Tryz.laysC245 fn s base bits ev w hlim hv hev
def Tryz.laysC172_ren : Go.Shelf.Ren := ⟨fun | 172 => 128 | 244 => 148 | 245 => 149 | 247 => 162 | 279 => 163 | 280 => 164 | 281 => 165 | 282 => 166 | 287 => 178 | 316 => 179 | 171 => 89 | 205 => 180 | 321 => 183 | 322 => 184 | 243 => 123 | 246 => 139 | 283 => 155 | 284 => 156 | 285 => 157 | 286 => 158 | 129 => 172 | 317 => 171 | 318 => 173 | 319 => 174 | 320 => 175 | 337 => 181 | 338 => 182 | n => n, fun | 9 => 9 | 3 => 3 | 75 => 133 | 76 => 134 | 4 => 4 | 5 => 5 | 167 => 184 | 37 => 73 | 0 => 0 | 85 => 185 | 2 => 2 | 168 => 187 | 53 => 176 | 175 => 197 | 46 => 191 | 210 => 200 | 127 => 112 | 145 => 210 | 143 => 208 | 21 => 21 | 171 => 175 | 173 => 179 | 212 => 193 | 51 => 194 | 20 => 20 | 213 => 195 | 232 => 211 | 233 => 212 | 80 => 79 | n => n, fun | 15 => 3 | 16 => 4 | 17 => 2 | 18 => 7 | 19 => 8 | n => n⟩
theorem Tryz.laysC172 : Go.Proofs.LaysC.n172 Tryz.prog Tryz.laysC172_ren := {
  mixed := by kernel_rfl
  f129 := Tryz.func172.trans (congrArg some (by kernel_rfl))
  f171 := Tryz.func89.trans (congrArg some (by kernel_rfl))
  f172 := Tryz.func128.trans (congrArg some (by kernel_rfl))
  f205 := Tryz.func180.trans (congrArg some (by kernel_rfl))
  f243 := Tryz.func123.trans (congrArg some (by kernel_rfl))
  f244 := Tryz.func148.trans (congrArg some (by kernel_rfl))
  f245 := Tryz.func149.trans (congrArg some (by kernel_rfl))
  f246 := Tryz.func139.trans (congrArg some (by kernel_rfl))
  f247 := Tryz.func162.trans (congrArg some (by kernel_rfl))
  f279 := Tryz.func163.trans (congrArg some (by kernel_rfl))
  f280 := Tryz.func164.trans (congrArg some (by kernel_rfl))
  f281 := Tryz.func165.trans (congrArg some (by kernel_rfl))
  f282 := Tryz.func166.trans (congrArg some (by kernel_rfl))
  f283 := Tryz.func155.trans (congrArg some (by kernel_rfl))
  f284 := Tryz.func156.trans (congrArg some (by kernel_rfl))
  f285 := Tryz.func157.trans (congrArg some (by kernel_rfl))
  f286 := Tryz.func158.trans (congrArg some (by kernel_rfl))
  f287 := Tryz.func178.trans (congrArg some (by kernel_rfl))
  f316 := Tryz.func179.trans (congrArg some (by kernel_rfl))
  f317 := Tryz.func171.trans (congrArg some (by kernel_rfl))
  f318 := Tryz.func173.trans (congrArg some (by kernel_rfl))
  f319 := Tryz.func174.trans (congrArg some (by kernel_rfl))
  f320 := Tryz.func175.trans (congrArg some (by kernel_rfl))
  f321 := Tryz.func183.trans (congrArg some (by kernel_rfl))
  f322 := Tryz.func184.trans (congrArg some (by kernel_rfl))
  f337 := Tryz.func181.trans (congrArg some (by kernel_rfl))
  f338 := Tryz.func182.trans (congrArg some (by kernel_rfl))
  t0 := Tryz.underlying0
  a0 := Tryz.isAgg0
  z0 := Tryz.sizeOf0
  v0 := Tryz.zeroValue0
  t2 := Tryz.underlying2
  a2 := Tryz.isAgg2
  z2 := Tryz.sizeOf2
  v2 := Tryz.zeroValue2
  t3 := Tryz.underlying3
  a3 := Tryz.isAgg3
  z3 := Tryz.sizeOf3
  v3 := Tryz.zeroValue3
  t4 := Tryz.underlying4
  a4 := Tryz.isAgg4
  z4 := Tryz.sizeOf4
  v4 := Tryz.zeroValue4
  t5 := Tryz.underlying5
  a5 := Tryz.isAgg5
  z5 := Tryz.sizeOf5
  v5 := Tryz.zeroValue5
  t9 := Tryz.underlying9
  a9 := Tryz.isAgg9
  z9 := Tryz.sizeOf9
  v9 := Tryz.zeroValue9
  t20 := Tryz.underlying20
  a20 := Tryz.isAgg20
  z20 := Tryz.sizeOf20
  v20 := Tryz.zeroValue20
  t21 := Tryz.underlying21
  a21 := Tryz.isAgg21
  z21 := Tryz.sizeOf21
  v21 := Tryz.zeroValue21
  t37 := Tryz.underlying73
  a37 := Tryz.isAgg73
  z37 := Tryz.sizeOf73
  v37 := Tryz.zeroValue73
  t46 := Tryz.underlying191
  a46 := Tryz.isAgg191
  z46 := Tryz.sizeOf191
  v46 := Tryz.zeroValue191
  t51 := Tryz.underlying194
  a51 := Tryz.isAgg194
  z51 := Tryz.sizeOf194
  v51 := Tryz.zeroValue194
  t53 := Tryz.underlying176
  a53 := Tryz.isAgg176
  z53 := Tryz.sizeOf176
  v53 := Tryz.zeroValue176
  t75 := Tryz.underlying133
  a75 := Tryz.isAgg133
  z75 := Tryz.sizeOf133
  v75 := Tryz.zeroValue133
  t76 := Tryz.underlying134
  a76 := Tryz.isAgg134
  z76 := Tryz.sizeOf134
  v76 := Tryz.zeroValue134
  t85 := Tryz.underlying185
  a85 := Tryz.isAgg185
  z85 := Tryz.sizeOf185
  v85 := Tryz.zeroValue185
  t127 := Tryz.underlying112
  a127 := Tryz.isAgg112
  z127 := Tryz.sizeOf112
  v127 := Tryz.zeroValue112
  t143 := Tryz.underlying208
  a143 := Tryz.isAgg208
  z143 := Tryz.sizeOf208
  v143 := Tryz.zeroValue208
  t145 := Tryz.underlying210
  a145 := Tryz.isAgg210
  z145 := Tryz.sizeOf210
  v145 := Tryz.zeroValue210
  t167 := Tryz.underlying184
  a167 := Tryz.isAgg184
  z167 := Tryz.sizeOf184
  v167 := Tryz.zeroValue184
  t168 := Tryz.underlying187
  a168 := Tryz.isAgg187
  z168 := Tryz.sizeOf187
  v168 := Tryz.zeroValue187
  t171 := Tryz.underlying175
  a171 := Tryz.isAgg175
  z171 := Tryz.sizeOf175
  v171 := Tryz.zeroValue175
  t173 := Tryz.underlying179
  a173 := Tryz.isAgg179
  z173 := Tryz.sizeOf179
  v173 := Tryz.zeroValue179
  t175 := Tryz.underlying197
  a175 := Tryz.isAgg197
  z175 := Tryz.sizeOf197
  v175 := Tryz.zeroValue197
  t210 := Tryz.underlying200
  a210 := Tryz.isAgg200
  z210 := Tryz.sizeOf200
  v210 := Tryz.zeroValue200
  t212 := Tryz.underlying193
  a212 := Tryz.isAgg193
  z212 := Tryz.sizeOf193
  v212 := Tryz.zeroValue193
  t213 := Tryz.underlying195
  a213 := Tryz.isAgg195
  z213 := Tryz.sizeOf195
  t232 := Tryz.underlying211
  a232 := Tryz.isAgg211
  z232 := Tryz.sizeOf211
  v232 := Tryz.zeroValue211
  t233 := Tryz.underlying212
  a233 := Tryz.isAgg212
  z233 := Tryz.sizeOf212
  v233 := Tryz.zeroValue212
  g15 := by kernel_rfl
  g16 := by kernel_rfl
  g17 := by kernel_rfl
  g18 := by kernel_rfl
  g19 := by kernel_rfl
  t80 := Tryz.underlying79
  a80 := Tryz.isAgg79
  z80 := Tryz.sizeOf79
  v80 := Tryz.zeroValue79
  i0 := by kernel_rfl
  i2 := by kernel_rfl
  i3 := by kernel_rfl
  i4 := by kernel_rfl
  i5 := by kernel_rfl
  i9 := by kernel_rfl
  i20 := by kernel_rfl
  i21 := by kernel_rfl
  i37 := by kernel_rfl
  i46 := by kernel_rfl
  i51 := by kernel_rfl
  i53 := by kernel_rfl
  i75 := by kernel_rfl
  i76 := by kernel_rfl
  i80 := by kernel_rfl
  i85 := by kernel_rfl
  i127 := by kernel_rfl
  i143 := by kernel_rfl
  i145 := by kernel_rfl
  i167 := by kernel_rfl
  i168 := by kernel_rfl
  i171 := by kernel_rfl
  i173 := by kernel_rfl
  i175 := by kernel_rfl
  i210 := by kernel_rfl
  i212 := by kernel_rfl
  i232 := by kernel_rfl
  i233 := by kernel_rfl
  m15 := by kernel_rfl
  m16 := by kernel_rfl
  m17 := by kernel_rfl
  m18 := by kernel_rfl
  m19 := by kernel_rfl
  c0 := by kernel_rfl
  c2 := by kernel_rfl
  c3 := by kernel_rfl
  c4 := by kernel_rfl
  c5 := by kernel_rfl
  c9 := by kernel_rfl
  c20 := by kernel_rfl
  c21 := by kernel_rfl
  c37 := by kernel_rfl
  c46 := by kernel_rfl
  c51 := by kernel_rfl
  c53 := by kernel_rfl
  c75 := by kernel_rfl
  c76 := by kernel_rfl
  c80 := by kernel_rfl
  c85 := by kernel_rfl
  c127 := by kernel_rfl
  c143 := by kernel_rfl
  c145 := by kernel_rfl
  c167 := by kernel_rfl
  c168 := by kernel_rfl
  c171 := by kernel_rfl
  c173 := by kernel_rfl
  c175 := by kernel_rfl
  c210 := by kernel_rfl
  c212 := by kernel_rfl
  c213 := by kernel_rfl
  c232 := by kernel_rfl
  c233 := by kernel_rfl }
open Go.RowKit in
/-- strconv.Atoi, AT EVERY STRING THAT SPELLS AN int ('Lib.atoiAll .. = .ok v'; of whatever length: leading zeros count): v, AND NO ERROR. The world: as it was, or with the one new row that '[]byte(..)' lays. (LAID: no walk: one application.) -/
theorem Tryz.strconv_Atoi_ok (s : ByteArray) (hmax : s.size ≤ 9223372036854775806) (v : Int) (h : Lib.atoiAll s.data.toList = .ok v) (w : World) :
    Calls Tryz.prog 128 #[.string s] w fun e w' => e = .returned (.tuple #[.int .i64 v, .nilIface]) ∧ (w' = w ∨ ∃ t, w' = Lib.bytesWorld w 5 t) := Any.strconv_Atoi_ok Tryz.laysC172 s hmax v h w
open Go.RowKit in
/-- strconv.Atoi, AT EVERY STRING THAT IS NO DECIMAL NUMERAL ('.syntax'): 0, AND AN ERROR THAT IS NOT nil: a *NumError in a new block N: {Func: "Atoi", Num: s's bytes, Err: what the variable ErrSyntax holds}. Of what was there nothing has turned. (LAID: no walk: one application.) -/
theorem Tryz.strconv_Atoi_syntax (s : ByteArray) (hlim : s.size ≤ 281474976710656) (h : (∀ v, Lib.atoiAll s.data.toList ≠ .ok v) ∧ Lib.atoiAll s.data.toList ≠ .range) (ev : Value) (w : World) (hv : w.cell? ⟨3, 0, none⟩ = some ev) (hev : ev = .nilIface ∨ ∃ te pe, ev = .iface te pe) :
    Calls Tryz.prog 128 #[.string s] w fun e w' => ∃ N, e = .returned (.tuple #[.int .i64 (0), .iface 187 (.pointer (some ⟨N, 0, none⟩))]) ∧ w.heap.size ≤ N ∧ w'.heap[N]? = some (.cells #[.string ⟨#[65, 116, 111, 105]⟩, .string s, ev] 200 (0, 0)) ∧ Below w.heap.size w w' := Any.strconv_Atoi_syntax Tryz.laysC172 s hlim (by
    cases hq : Lib.atoiAll s.data.toList with
    | ok v => exact absurd hq (h.1 v)
    | range => exact absurd hq h.2
    | _ => rfl) ev w hv hev
open Go.RowKit in
/-- strconv.Atoi, AT EVERY NUMERAL THAT NO int HOLDS ('.range'): THE GREATEST OR THE LEAST int, BY THE SIGN ('Lib.atoiSat'), AND AN ERROR THAT IS NOT nil: a *NumError in a new block N: {Func: "Atoi", Num: s's bytes, Err: what the variable ErrRange holds}. Of what was there nothing has turned. (LAID: no walk: one application.) -/
theorem Tryz.strconv_Atoi_range (s : ByteArray) (hlim : s.size ≤ 281474976710656) (h : Lib.atoiAll s.data.toList = .range) (ev : Value) (w : World) (hv : w.cell? ⟨4, 0, none⟩ = some ev) (hev : ev = .nilIface ∨ ∃ te pe, ev = .iface te pe) :
    Calls Tryz.prog 128 #[.string s] w fun e w' => ∃ N, e = .returned (.tuple #[.int .i64 (Lib.atoiSat s.data.toList), .iface 187 (.pointer (some ⟨N, 0, none⟩))]) ∧ w.heap.size ≤ N ∧ w'.heap[N]? = some (.cells #[.string ⟨#[65, 116, 111, 105]⟩, .string s, ev] 200 (0, 0)) ∧ Below w.heap.size w w' := Any.strconv_Atoi_range Tryz.laysC172 s hlim h ev w hv hev
open Go.RowKit in
theorem Tryz.strconv_Atoi_range_var (s : ByteArray) (hlim : s.size ≤ 281474976710656) (h : Lib.atoiAll s.data.toList = .range) (tp : TypeId) (p : Value) (w : World) (hvar : w.var? Tryz.prog "strconv.ErrRange" = some #[.iface tp p]) :
    Calls Tryz.prog 128 #[.string s] w fun e w' => ∃ N, e = .returned (.tuple #[.int .i64 (Lib.atoiSat s.data.toList), .iface 187 (.pointer (some ⟨N, 0, none⟩))]) ∧ w.heap.size ≤ N ∧ w'.heap[N]? = some (.cells #[.string ⟨#[65, 116, 111, 105]⟩, .string s, .iface tp p] 200 (0, 0)) ∧ Below w.heap.size w w' := Any.strconv_Atoi_range_var Tryz.laysC172 s hlim h tp p w hvar
def Tryz.lays217_ren : Go.Shelf.Ren := ⟨fun | 217 => 150 | 266 => 167 | n => n, fun | 9 => 9 | 5 => 5 | 3 => 3 | n => n, fun | n => n⟩
theorem Tryz.lays217 : Go.Proofs.Lays.n217 Tryz.prog Tryz.lays217_ren := {
  mixed := by kernel_rfl
  f217 := Tryz.func150.trans (congrArg some (by kernel_rfl))
  f266 := Tryz.func167.trans (congrArg some (by kernel_rfl))
  t3 := Tryz.underlying3
  a3 := Tryz.isAgg3
  z3 := Tryz.sizeOf3
  v3 := Tryz.zeroValue3
  t5 := Tryz.underlying5
  a5 := Tryz.isAgg5
  z5 := Tryz.sizeOf5
  v5 := Tryz.zeroValue5
  t9 := Tryz.underlying9
  a9 := Tryz.isAgg9
  z9 := Tryz.sizeOf9
  v9 := Tryz.zeroValue9 }
open Go.RowKit Go.Lib in
/-- internal/stringslite.IndexByte (what strings.IndexByte calls): IT RETURNS 'Lib.indexByte s c'; the world is as it was. (LAID: no walk: one application.) -/
theorem Tryz.stringslite_IndexByte (s : ByteArray) (c : Int) (w : World) :
    Calls Tryz.prog 150 #[.string s, .int .u8 c] w fun e w' => e = .returned (.int .i64 (Lib.indexByte s.data.toList c.toNat.toUInt8)) ∧ w' = w := Any.stringslite_IndexByte Tryz.lays217 s c w
def Tryz.lays224_ren : Go.Shelf.Ren := ⟨fun | 224 => 169 | n => n, fun | 3 => 3 | n => n, fun | n => n⟩
theorem Tryz.lays224 : Go.Proofs.Lays.n224 Tryz.prog Tryz.lays224_ren := {
  mixed := by kernel_rfl
  f224 := Tryz.func169.trans (congrArg some (by kernel_rfl))
  t3 := Tryz.underlying3
  a3 := Tryz.isAgg3
  z3 := Tryz.sizeOf3
  v3 := Tryz.zeroValue3 }
open Go.RowKit Go.Lib in
/-- internal/bytealg.Cutover: "Cutover reports the number of failures of IndexByte we should tolerate before switching over to Index. n is the number of bytes processed so far.": on amd64: (n + 16) / 8. (LAID: no walk: one application.) -/
theorem Tryz.bytealg_Cutover (n : Int) (h0 : 0 ≤ n) (h1 : n < 4611686018427387904) (w : World) :
    Calls Tryz.prog 169 #[.int .i64 n] w fun e w' => e = .returned (.int .i64 ((n + 16) / 8)) ∧ w' = w := Any.bytealg_Cutover Tryz.lays224 n h0 h1 w
def Tryz.lays197_ren : Go.Shelf.Ren := ⟨fun | 197 => 159 | 260 => 176 | n => n, fun | 9 => 9 | 21 => 21 | 3 => 3 | 4 => 4 | 5 => 5 | 105 => 181 | 119 => 203 | 0 => 0 | 46 => 191 | 139 => 206 | 138 => 205 | n => n, fun | 3 => 5 | 4 => 6 | n => n⟩
theorem Tryz.lays197 : Go.Proofs.Lays.n197 Tryz.prog Tryz.lays197_ren := {
  mixed := by kernel_rfl
  f197 := Tryz.func159.trans (congrArg some (by kernel_rfl))
  f260 := Tryz.func176.trans (congrArg some (by kernel_rfl))
  t0 := Tryz.underlying0
  a0 := Tryz.isAgg0
  z0 := Tryz.sizeOf0
  v0 := Tryz.zeroValue0
  t3 := Tryz.underlying3
  a3 := Tryz.isAgg3
  z3 := Tryz.sizeOf3
  v3 := Tryz.zeroValue3
  t4 := Tryz.underlying4
  a4 := Tryz.isAgg4
  z4 := Tryz.sizeOf4
  v4 := Tryz.zeroValue4
  t5 := Tryz.underlying5
  a5 := Tryz.isAgg5
  z5 := Tryz.sizeOf5
  v5 := Tryz.zeroValue5
  t9 := Tryz.underlying9
  a9 := Tryz.isAgg9
  z9 := Tryz.sizeOf9
  v9 := Tryz.zeroValue9
  t21 := Tryz.underlying21
  a21 := Tryz.isAgg21
  z21 := Tryz.sizeOf21
  v21 := Tryz.zeroValue21
  t46 := Tryz.underlying191
  a46 := Tryz.isAgg191
  z46 := Tryz.sizeOf191
  v46 := Tryz.zeroValue191
  t105 := Tryz.underlying181
  a105 := Tryz.isAgg181
  z105 := Tryz.sizeOf181
  v105 := Tryz.zeroValue181
  t119 := Tryz.underlying203
  a119 := Tryz.isAgg203
  z119 := Tryz.sizeOf203
  t138 := Tryz.underlying205
  a138 := Tryz.isAgg205
  z138 := Tryz.sizeOf205
  v138 := Tryz.zeroValue205
  t139 := Tryz.underlying206
  a139 := Tryz.isAgg206
  z139 := Tryz.sizeOf206
  v139 := Tryz.zeroValue206
  g3 := by kernel_rfl
  g4 := by kernel_rfl }
open Go.RowKit Go.Lib in
/-- unicode/utf8.DecodeRuneInString: "DecodeRuneInString is like DecodeRune but its input is a string.": ("DecodeRune unpacks the first UTF-8 encoding in p and returns the rune and its width in bytes."): WHERE s BEGINS WITH AN ASCII BYTE x: (x, 1). (LAID: no walk: one application.) -/
theorem Tryz.utf8_DecodeRuneInString_ascii (s : ByteArray) (x : UInt8) (w : World) (h0 : s.data.toList[0]? = some x) (hx : x.toNat < 128) :
    Calls Tryz.prog 159 #[.string s] w fun e w' => e = .returned (.tuple #[.int .i32 x.toNat, .int .i64 1]) ∧ w' = w := Any.utf8_DecodeRuneInString_ascii Tryz.lays197 s x w h0 hx
def Tryz.lays152_ren : Go.Shelf.Ren := ⟨fun | 152 => 151 | 137 => 134 | 119 => 168 | 224 => 169 | 225 => 170 | 217 => 150 | 266 => 167 | n => n, fun | 9 => 9 | 21 => 21 | 3 => 3 | 4 => 4 | 5 => 5 | 0 => 0 | 46 => 191 | n => n, fun | n => n⟩
theorem Tryz.lays152 : Go.Proofs.Lays.n152 Tryz.prog Tryz.lays152_ren := {
  mixed := by kernel_rfl
  f119 := Tryz.func168.trans (congrArg some (by kernel_rfl))
  f137 := Tryz.func134.trans (congrArg some (by kernel_rfl))
  f152 := Tryz.func151.trans (congrArg some (by kernel_rfl))
  f217 := Tryz.func150.trans (congrArg some (by kernel_rfl))
  f224 := Tryz.func169.trans (congrArg some (by kernel_rfl))
  f225 := Tryz.func170.trans (congrArg some (by kernel_rfl))
  f266 := Tryz.func167.trans (congrArg some (by kernel_rfl))
  t0 := Tryz.underlying0
  a0 := Tryz.isAgg0
  z0 := Tryz.sizeOf0
  v0 := Tryz.zeroValue0
  t3 := Tryz.underlying3
  a3 := Tryz.isAgg3
  z3 := Tryz.sizeOf3
  v3 := Tryz.zeroValue3
  t4 := Tryz.underlying4
  a4 := Tryz.isAgg4
  z4 := Tryz.sizeOf4
  v4 := Tryz.zeroValue4
  t5 := Tryz.underlying5
  a5 := Tryz.isAgg5
  z5 := Tryz.sizeOf5
  v5 := Tryz.zeroValue5
  t9 := Tryz.underlying9
  a9 := Tryz.isAgg9
  z9 := Tryz.sizeOf9
  v9 := Tryz.zeroValue9
  t21 := Tryz.underlying21
  a21 := Tryz.isAgg21
  z21 := Tryz.sizeOf21
  v21 := Tryz.zeroValue21
  t46 := Tryz.underlying191
  a46 := Tryz.isAgg191
  z46 := Tryz.sizeOf191
  v46 := Tryz.zeroValue191 }
open Go.RowKit Go.Lib in
theorem Tryz.strings_IndexRune_ascii (s : ByteArray) (r : Int) (w : World) (h0 : 0 ≤ r) (h1 : r < 128) :
    Calls Tryz.prog 151 #[.string s, .int .i32 r] w fun e w' => e = .returned (.int .i64 (Lib.indexByte s.data.toList r.toNat.toUInt8)) ∧ w' = w := Any.strings_IndexRune_ascii Tryz.lays152 s r w h0 h1
def Tryz.lays151_ren : Go.Shelf.Ren := ⟨fun | 151 => 160 | 152 => 151 | 137 => 134 | 119 => 168 | 224 => 169 | 225 => 170 | 217 => 150 | 266 => 167 | n => n, fun | 9 => 9 | 21 => 21 | 4 => 4 | 3 => 3 | 5 => 5 | 0 => 0 | 46 => 191 | n => n, fun | n => n⟩
theorem Tryz.lays151 : Go.Proofs.Lays.n151 Tryz.prog Tryz.lays151_ren := {
  mixed := by kernel_rfl
  f119 := Tryz.func168.trans (congrArg some (by kernel_rfl))
  f137 := Tryz.func134.trans (congrArg some (by kernel_rfl))
  f151 := Tryz.func160.trans (congrArg some (by kernel_rfl))
  f152 := Tryz.func151.trans (congrArg some (by kernel_rfl))
  f217 := Tryz.func150.trans (congrArg some (by kernel_rfl))
  f224 := Tryz.func169.trans (congrArg some (by kernel_rfl))
  f225 := Tryz.func170.trans (congrArg some (by kernel_rfl))
  f266 := Tryz.func167.trans (congrArg some (by kernel_rfl))
  t0 := Tryz.underlying0
  a0 := Tryz.isAgg0
  z0 := Tryz.sizeOf0
  v0 := Tryz.zeroValue0
  t3 := Tryz.underlying3
  a3 := Tryz.isAgg3
  z3 := Tryz.sizeOf3
  v3 := Tryz.zeroValue3
  t4 := Tryz.underlying4
  a4 := Tryz.isAgg4
  z4 := Tryz.sizeOf4
  v4 := Tryz.zeroValue4
  t5 := Tryz.underlying5
  a5 := Tryz.isAgg5
  z5 := Tryz.sizeOf5
  v5 := Tryz.zeroValue5
  t9 := Tryz.underlying9
  a9 := Tryz.isAgg9
  z9 := Tryz.sizeOf9
  v9 := Tryz.zeroValue9
  t21 := Tryz.underlying21
  a21 := Tryz.isAgg21
  z21 := Tryz.sizeOf21
  v21 := Tryz.zeroValue21
  t46 := Tryz.underlying191
  a46 := Tryz.isAgg191
  z46 := Tryz.sizeOf191
  v46 := Tryz.zeroValue191 }
open Go.RowKit Go.Lib in
theorem Tryz.strings_ContainsRune_ascii (s : ByteArray) (r : Int) (w : World) (h0 : 0 ≤ r) (h1 : r < 128) :
    Calls Tryz.prog 160 #[.string s, .int .i32 r] w fun e w' => e = .returned (.bool (decide (0 ≤ Lib.indexByte s.data.toList r.toNat.toUInt8))) ∧ w' = w := Any.strings_ContainsRune_ascii Tryz.lays151 s r w h0 h1
def Tryz.lays226_ren : Go.Shelf.Ren := ⟨fun | 226 => 152 | n => n, fun | 3 => 3 | 4 => 4 | n => n, fun | n => n⟩
theorem Tryz.lays226 : Go.Proofs.Lays.n226 Tryz.prog Tryz.lays226_ren := {
  mixed := by kernel_rfl
  f226 := Tryz.func152.trans (congrArg some (by kernel_rfl))
  t3 := Tryz.underlying3
  a3 := Tryz.isAgg3
  z3 := Tryz.sizeOf3
  v3 := Tryz.zeroValue3
  t4 := Tryz.underlying4
  a4 := Tryz.isAgg4
  z4 := Tryz.sizeOf4
  v4 := Tryz.zeroValue4 }
open Go.RowKit Go.Lib in
theorem Tryz.strings_shouldUseASCIISet (n : Int) (w : World) :
    Calls Tryz.prog 152 #[.int .i64 n] w fun e w' => e = .returned (.bool (decide (8 < n))) ∧ w' = w := Any.strings_shouldUseASCIISet Tryz.lays226 n w
def Tryz.lays153_ren : Go.Shelf.Ren := ⟨fun | 153 => 135 | 152 => 151 | 226 => 152 | 227 => 143 | 228 => 153 | 137 => 134 | 119 => 168 | 224 => 169 | 225 => 170 | 217 => 150 | 266 => 167 | n => n, fun | 9 => 9 | 3 => 3 | 4 => 4 | 5 => 5 | 21 => 21 | 117 => 167 | 116 => 166 | 0 => 0 | 46 => 191 | 124 => 170 | n => n, fun | n => n⟩
theorem Tryz.lays153 : Go.Proofs.Lays.n153 Tryz.prog Tryz.lays153_ren := {
  mixed := by kernel_rfl
  f119 := Tryz.func168.trans (congrArg some (by kernel_rfl))
  f137 := Tryz.func134.trans (congrArg some (by kernel_rfl))
  f152 := Tryz.func151.trans (congrArg some (by kernel_rfl))
  f153 := Tryz.func135.trans (congrArg some (by kernel_rfl))
  f217 := Tryz.func150.trans (congrArg some (by kernel_rfl))
  f224 := Tryz.func169.trans (congrArg some (by kernel_rfl))
  f225 := Tryz.func170.trans (congrArg some (by kernel_rfl))
  f226 := Tryz.func152.trans (congrArg some (by kernel_rfl))
  f227 := Tryz.func143.trans (congrArg some (by kernel_rfl))
  f228 := Tryz.func153.trans (congrArg some (by kernel_rfl))
  f266 := Tryz.func167.trans (congrArg some (by kernel_rfl))
  t0 := Tryz.underlying0
  a0 := Tryz.isAgg0
  z0 := Tryz.sizeOf0
  v0 := Tryz.zeroValue0
  t3 := Tryz.underlying3
  a3 := Tryz.isAgg3
  z3 := Tryz.sizeOf3
  v3 := Tryz.zeroValue3
  t4 := Tryz.underlying4
  a4 := Tryz.isAgg4
  z4 := Tryz.sizeOf4
  v4 := Tryz.zeroValue4
  t5 := Tryz.underlying5
  a5 := Tryz.isAgg5
  z5 := Tryz.sizeOf5
  v5 := Tryz.zeroValue5
  t9 := Tryz.underlying9
  a9 := Tryz.isAgg9
  z9 := Tryz.sizeOf9
  v9 := Tryz.zeroValue9
  t21 := Tryz.underlying21
  a21 := Tryz.isAgg21
  z21 := Tryz.sizeOf21
  v21 := Tryz.zeroValue21
  t46 := Tryz.underlying191
  a46 := Tryz.isAgg191
  z46 := Tryz.sizeOf191
  v46 := Tryz.zeroValue191
  t116 := Tryz.underlying166
  a116 := Tryz.isAgg166
  z116 := Tryz.sizeOf166
  t117 := Tryz.underlying167
  a117 := Tryz.isAgg167
  z117 := Tryz.sizeOf167
  v117 := Tryz.zeroValue167
  t124 := Tryz.underlying170
  a124 := Tryz.isAgg170
  z124 := Tryz.sizeOf170
  v124 := Tryz.zeroValue170 }
open Go.RowKit Go.Lib in
/-- chars is empty. (LAID: no walk: one application.) -/
theorem Tryz.strings_IndexAny_none (s chars : ByteArray) (w : World) (h0 : chars.size = 0) :
    Calls Tryz.prog 135 #[.string s, .string chars] w fun e w' => e = .returned (.int .i64 (Lib.indexAny s.data.toList chars.data.toList)) ∧ w' = w := Any.strings_IndexAny_none Tryz.lays153 s chars w h0
open Go.RowKit Go.Lib in
/-- chars is one ASCII byte. (LAID: no walk: one application.) -/
theorem Tryz.strings_IndexAny_one (s chars : ByteArray) (w : World) (h1 : chars.size = 1) (hascii : ∀ (j : Nat) b, chars.data.toList[j]? = some b → b.toNat < 128) :
    Calls Tryz.prog 135 #[.string s, .string chars] w fun e w' => e = .returned (.int .i64 (Lib.indexAny s.data.toList chars.data.toList)) ∧ w' = w := Any.strings_IndexAny_one Tryz.lays153 s chars w h1 hascii
open Go.RowKit Go.Lib in
/-- s of at most 8 bytes; chars of two or more: 'for i, c := range s { if IndexRune(chars, c) >= 0 { return i } }'. One block more: the model's iterator over s. (LAID: no walk: one application.) -/
theorem Tryz.strings_IndexAny_short (s chars : ByteArray) (w : World) (h2 : 2 ≤ chars.size) (h8 : s.size ≤ 8) (hascii : ∀ (j : Nat) b, s.data.toList[j]? = some b → b.toNat < 128) :
    Calls Tryz.prog 135 #[.string s, .string chars] w fun e w' => e = .returned (.int .i64 (Lib.indexAny s.data.toList chars.data.toList)) ∧ ∃ pos, w' = w.iter s pos := Any.strings_IndexAny_short Tryz.lays153 s chars w h2 h8 hascii
def Tryz.lays227_ren : Go.Shelf.Ren := ⟨fun | 227 => 143 | n => n, fun | 9 => 9 | 116 => 166 | 4 => 4 | 0 => 0 | 3 => 3 | 5 => 5 | n => n, fun | n => n⟩
theorem Tryz.lays227 : Go.Proofs.Lays.n227 Tryz.prog Tryz.lays227_ren := {
  mixed := by kernel_rfl
  f227 := Tryz.func143.trans (congrArg some (by kernel_rfl))
  t0 := Tryz.underlying0
  a0 := Tryz.isAgg0
  z0 := Tryz.sizeOf0
  v0 := Tryz.zeroValue0
  t3 := Tryz.underlying3
  a3 := Tryz.isAgg3
  z3 := Tryz.sizeOf3
  v3 := Tryz.zeroValue3
  t4 := Tryz.underlying4
  a4 := Tryz.isAgg4
  z4 := Tryz.sizeOf4
  v4 := Tryz.zeroValue4
  t5 := Tryz.underlying5
  a5 := Tryz.isAgg5
  z5 := Tryz.sizeOf5
  v5 := Tryz.zeroValue5
  t9 := Tryz.underlying9
  a9 := Tryz.isAgg9
  z9 := Tryz.sizeOf9
  v9 := Tryz.zeroValue9
  t116 := Tryz.underlying166
  a116 := Tryz.isAgg166
  z116 := Tryz.sizeOf166 }
open Go.RowKit Go.Lib in
theorem Tryz.strings_makeASCIISet (hv116 : ∀ w, (zeroValue 166).run Tryz.prog w = .ok (.agg (Array.replicate 256 (.bool false))) w) (chars : ByteArray) (w : World) (hs : chars.size < 4294967281) (hascii : ∀ (j : Nat) b, chars.data.toList[j]? = some b → b.toNat < 128) :
    Calls Tryz.prog 143 #[.string chars] w fun e w' => e = .returned (.tuple #[.agg (Lib.setCells chars.data.toList), .bool true]) ∧ w' = w.alloc (.cells (Lib.setCells chars.data.toList) 166) := Any.strings_makeASCIISet Tryz.lays227 hv116 (by kernel_rfl) chars w hs hascii
def Tryz.lays228_ren : Go.Shelf.Ren := ⟨fun | 228 => 153 | n => n, fun | 124 => 170 | 5 => 5 | 4 => 4 | 0 => 0 | 116 => 166 | n => n, fun | n => n⟩
theorem Tryz.lays228 : Go.Proofs.Lays.n228 Tryz.prog Tryz.lays228_ren := {
  mixed := by kernel_rfl
  f228 := Tryz.func153.trans (congrArg some (by kernel_rfl))
  t0 := Tryz.underlying0
  a0 := Tryz.isAgg0
  z0 := Tryz.sizeOf0
  v0 := Tryz.zeroValue0
  t4 := Tryz.underlying4
  a4 := Tryz.isAgg4
  z4 := Tryz.sizeOf4
  v4 := Tryz.zeroValue4
  t5 := Tryz.underlying5
  a5 := Tryz.isAgg5
  z5 := Tryz.sizeOf5
  v5 := Tryz.zeroValue5
  t116 := Tryz.underlying166
  a116 := Tryz.isAgg166
  z116 := Tryz.sizeOf166
  t124 := Tryz.underlying170
  a124 := Tryz.isAgg170
  z124 := Tryz.sizeOf170
  v124 := Tryz.zeroValue170 }
open Go.RowKit Go.Lib in
/-- '(as *asciiSet) contains(c)': 'as[c]': the set lies at block b, whole. (LAID: no walk: one application.) -/
theorem Tryz.asciiSet_contains (b : Nat) (x : UInt8) (v : Bool) (w : World) (hc : w.cell? ⟨b, x.toNat, none⟩ = some (.bool v)) :
    Calls Tryz.prog 153 #[.pointer (some ⟨b, 0, none⟩), .int .u8 x.toNat] w fun e w' => e = .returned (.bool v) ∧ w' = w := Any.asciiSet_contains Tryz.lays228 b x v w hc
open Go.RowKit Go.Lib in
theorem Tryz.strings_IndexAny_long (hv116 : ∀ w, (zeroValue 166).run Tryz.prog w = .ok (.agg (Array.replicate 256 (.bool false))) w) (s chars : ByteArray) (w : World) (h2 : 2 ≤ chars.size) (h8 : 8 < s.size) (hs : s.size < 4294967281) (hcs : chars.size < 4294967281) (hascii : ∀ (j : Nat) b, chars.data.toList[j]? = some b → b.toNat < 128) :
    Calls Tryz.prog 135 #[.string s, .string chars] w fun e w' => e = .returned (.int .i64 (Lib.indexAny s.data.toList chars.data.toList)) ∧ w' = ((w.alloc (.cells (Lib.setCells chars.data.toList) 166)).alloc (.cells (Lib.setCells chars.data.toList) 166)) := Any.strings_IndexAny_long Tryz.lays153 hv116 (by kernel_rfl) s chars w h2 h8 hs hcs hascii
open Go.RowKit Go.Lib in
/-- strings.IndexAny ON ASCII BYTES: the four roads under one statement. (LAID: no walk: one application.) -/
theorem Tryz.strings_IndexAny (hv116 : ∀ w, (zeroValue 166).run Tryz.prog w = .ok (.agg (Array.replicate 256 (.bool false))) w) (s chars : ByteArray) (w : World) (hs : s.size < 4294967281) (hcs : chars.size < 4294967281) (has : ∀ (j : Nat) b, s.data.toList[j]? = some b → b.toNat < 128) (hac : ∀ (j : Nat) b, chars.data.toList[j]? = some b → b.toNat < 128) :
    Calls Tryz.prog 135 #[.string s, .string chars] w fun e w' => e = .returned (.int .i64 (Lib.indexAny s.data.toList chars.data.toList)) ∧ Below w.heap.size w w' := Any.strings_IndexAny Tryz.lays153 hv116 (by kernel_rfl) s chars w hs hcs has hac
def Tryz.lays150_ren : Go.Shelf.Ren := ⟨fun | 150 => 140 | 153 => 135 | 152 => 151 | 226 => 152 | 227 => 143 | 228 => 153 | 137 => 134 | 119 => 168 | 224 => 169 | 225 => 170 | 217 => 150 | 266 => 167 | n => n, fun | 9 => 9 | 4 => 4 | 3 => 3 | 5 => 5 | 21 => 21 | 117 => 167 | 116 => 166 | 0 => 0 | 46 => 191 | 124 => 170 | n => n, fun | n => n⟩
theorem Tryz.lays150 : Go.Proofs.Lays.n150 Tryz.prog Tryz.lays150_ren := {
  mixed := by kernel_rfl
  f119 := Tryz.func168.trans (congrArg some (by kernel_rfl))
  f137 := Tryz.func134.trans (congrArg some (by kernel_rfl))
  f150 := Tryz.func140.trans (congrArg some (by kernel_rfl))
  f152 := Tryz.func151.trans (congrArg some (by kernel_rfl))
  f153 := Tryz.func135.trans (congrArg some (by kernel_rfl))
  f217 := Tryz.func150.trans (congrArg some (by kernel_rfl))
  f224 := Tryz.func169.trans (congrArg some (by kernel_rfl))
  f225 := Tryz.func170.trans (congrArg some (by kernel_rfl))
  f226 := Tryz.func152.trans (congrArg some (by kernel_rfl))
  f227 := Tryz.func143.trans (congrArg some (by kernel_rfl))
  f228 := Tryz.func153.trans (congrArg some (by kernel_rfl))
  f266 := Tryz.func167.trans (congrArg some (by kernel_rfl))
  t0 := Tryz.underlying0
  a0 := Tryz.isAgg0
  z0 := Tryz.sizeOf0
  v0 := Tryz.zeroValue0
  t3 := Tryz.underlying3
  a3 := Tryz.isAgg3
  z3 := Tryz.sizeOf3
  v3 := Tryz.zeroValue3
  t4 := Tryz.underlying4
  a4 := Tryz.isAgg4
  z4 := Tryz.sizeOf4
  v4 := Tryz.zeroValue4
  t5 := Tryz.underlying5
  a5 := Tryz.isAgg5
  z5 := Tryz.sizeOf5
  v5 := Tryz.zeroValue5
  t9 := Tryz.underlying9
  a9 := Tryz.isAgg9
  z9 := Tryz.sizeOf9
  v9 := Tryz.zeroValue9
  t21 := Tryz.underlying21
  a21 := Tryz.isAgg21
  z21 := Tryz.sizeOf21
  v21 := Tryz.zeroValue21
  t46 := Tryz.underlying191
  a46 := Tryz.isAgg191
  z46 := Tryz.sizeOf191
  v46 := Tryz.zeroValue191
  t116 := Tryz.underlying166
  a116 := Tryz.isAgg166
  z116 := Tryz.sizeOf166
  t117 := Tryz.underlying167
  a117 := Tryz.isAgg167
  z117 := Tryz.sizeOf167
  v117 := Tryz.zeroValue167
  t124 := Tryz.underlying170
  a124 := Tryz.isAgg170
  z124 := Tryz.sizeOf170
  v124 := Tryz.zeroValue170 }
open Go.RowKit Go.Lib in
/-- strings.ContainsAny ON ASCII BYTES. (LAID: no walk: one application.) -/
theorem Tryz.strings_ContainsAny (hv116 : ∀ w, (zeroValue 166).run Tryz.prog w = .ok (.agg (Array.replicate 256 (.bool false))) w) (s chars : ByteArray) (w : World) (hs : s.size < 4294967281) (hcs : chars.size < 4294967281) (has : ∀ (j : Nat) b, s.data.toList[j]? = some b → b.toNat < 128) (hac : ∀ (j : Nat) b, chars.data.toList[j]? = some b → b.toNat < 128) :
    Calls Tryz.prog 140 #[.string s, .string chars] w fun e w' => e = .returned (.bool (Lib.containsAny s.data.toList chars.data.toList)) ∧ Below w.heap.size w w' := Any.strings_ContainsAny Tryz.lays150 hv116 (by kernel_rfl) s chars w hs hcs has hac
open Go.RowKit Go.Lib in
theorem Tryz.strings_IndexAny_laid (s chars : ByteArray) (w : World) (hs : s.size < 4294967281) (hcs : chars.size < 4294967281) (has : ∀ (j : Nat) b, s.data.toList[j]? = some b → b.toNat < 128) (hac : ∀ (j : Nat) b, chars.data.toList[j]? = some b → b.toNat < 128) :
    Calls Tryz.prog 135 #[.string s, .string chars] w fun e w' => e = .returned (.int .i64 (Lib.indexAny s.data.toList chars.data.toList)) ∧ Below w.heap.size w w' := Any.strings_IndexAny_laid Tryz.lays153 (by kernel_rfl) s chars w hs hcs has hac
open Go.RowKit Go.Lib in
theorem Tryz.strings_ContainsAny_laid (s chars : ByteArray) (w : World) (hs : s.size < 4294967281) (hcs : chars.size < 4294967281) (has : ∀ (j : Nat) b, s.data.toList[j]? = some b → b.toNat < 128) (hac : ∀ (j : Nat) b, chars.data.toList[j]? = some b → b.toNat < 128) :
    Calls Tryz.prog 140 #[.string s, .string chars] w fun e w' => e = .returned (.bool (Lib.containsAny s.data.toList chars.data.toList)) ∧ Below w.heap.size w w' := Any.strings_ContainsAny_laid Tryz.lays150 (by kernel_rfl) s chars w hs hcs has hac
def Tryz.lays260_ren : Go.Shelf.Ren := ⟨fun | 260 => 176 | n => n, fun | 9 => 9 | 21 => 21 | 3 => 3 | 4 => 4 | 5 => 5 | 119 => 203 | 0 => 0 | 46 => 191 | 139 => 206 | 138 => 205 | n => n, fun | 3 => 5 | 4 => 6 | n => n⟩
theorem Tryz.lays260 : Go.Proofs.Lays.n260 Tryz.prog Tryz.lays260_ren := {
  mixed := by kernel_rfl
  f260 := Tryz.func176.trans (congrArg some (by kernel_rfl))
  t0 := Tryz.underlying0
  a0 := Tryz.isAgg0
  z0 := Tryz.sizeOf0
  v0 := Tryz.zeroValue0
  t3 := Tryz.underlying3
  a3 := Tryz.isAgg3
  z3 := Tryz.sizeOf3
  v3 := Tryz.zeroValue3
  t4 := Tryz.underlying4
  a4 := Tryz.isAgg4
  z4 := Tryz.sizeOf4
  v4 := Tryz.zeroValue4
  t5 := Tryz.underlying5
  a5 := Tryz.isAgg5
  z5 := Tryz.sizeOf5
  v5 := Tryz.zeroValue5
  t9 := Tryz.underlying9
  a9 := Tryz.isAgg9
  z9 := Tryz.sizeOf9
  v9 := Tryz.zeroValue9
  t21 := Tryz.underlying21
  a21 := Tryz.isAgg21
  z21 := Tryz.sizeOf21
  v21 := Tryz.zeroValue21
  t46 := Tryz.underlying191
  a46 := Tryz.isAgg191
  z46 := Tryz.sizeOf191
  v46 := Tryz.zeroValue191
  t119 := Tryz.underlying203
  a119 := Tryz.isAgg203
  z119 := Tryz.sizeOf203
  t138 := Tryz.underlying205
  a138 := Tryz.isAgg205
  z138 := Tryz.sizeOf205
  v138 := Tryz.zeroValue205
  t139 := Tryz.underlying206
  a139 := Tryz.isAgg206
  z139 := Tryz.sizeOf206
  v139 := Tryz.zeroValue206
  g3 := by kernel_rfl
  g4 := by kernel_rfl }
open Go.RowKit Go.Lib in
theorem Tryz.utf8_decodeRuneInStringSlow (s : ByteArray) (w : World) (hT : Lib.Utf8Tabs 5 6 w) :
    Calls Tryz.prog 176 #[.string s] w fun e w' => e = .returned (.tuple #[.int .i32 (Lib.decodeGo s).1, .int .i64 (Lib.decodeGo s).2]) ∧ Below w.heap.size w w' := Any.utf8_decodeRuneInStringSlow Tryz.lays260 s w hT
open Go.RowKit Go.Lib in
/-- **unicode/utf8.DecodeRuneInString AT EVERY STRING.** (LAID: no walk: one application.) -/
theorem Tryz.utf8_DecodeRuneInString (s : ByteArray) (w : World) (hT : Lib.Utf8Tabs 5 6 w) :
    Calls Tryz.prog 159 #[.string s] w fun e w' => e = .returned (.tuple #[.int .i32 (Lib.decodeGo s).1, .int .i64 (Lib.decodeGo s).2]) ∧ Below w.heap.size w w' := Any.utf8_DecodeRuneInString Tryz.lays197 s w hT
def Tryz.lays271_ren : Go.Shelf.Ren := ⟨fun | 271 => 161 | 120 => 177 | 197 => 159 | 260 => 176 | n => n, fun | 9 => 9 | 21 => 21 | 3 => 3 | 4 => 4 | 5 => 5 | 105 => 181 | 119 => 203 | 0 => 0 | 46 => 191 | 139 => 206 | 138 => 205 | n => n, fun | 3 => 5 | 4 => 6 | n => n⟩
theorem Tryz.lays271 : Go.Proofs.Lays.n271 Tryz.prog Tryz.lays271_ren := {
  mixed := by kernel_rfl
  f120 := Tryz.func177.trans (congrArg some (by kernel_rfl))
  f197 := Tryz.func159.trans (congrArg some (by kernel_rfl))
  f260 := Tryz.func176.trans (congrArg some (by kernel_rfl))
  f271 := Tryz.func161.trans (congrArg some (by kernel_rfl))
  t0 := Tryz.underlying0
  a0 := Tryz.isAgg0
  z0 := Tryz.sizeOf0
  v0 := Tryz.zeroValue0
  t3 := Tryz.underlying3
  a3 := Tryz.isAgg3
  z3 := Tryz.sizeOf3
  v3 := Tryz.zeroValue3
  t4 := Tryz.underlying4
  a4 := Tryz.isAgg4
  z4 := Tryz.sizeOf4
  v4 := Tryz.zeroValue4
  t5 := Tryz.underlying5
  a5 := Tryz.isAgg5
  z5 := Tryz.sizeOf5
  v5 := Tryz.zeroValue5
  t9 := Tryz.underlying9
  a9 := Tryz.isAgg9
  z9 := Tryz.sizeOf9
  v9 := Tryz.zeroValue9
  t21 := Tryz.underlying21
  a21 := Tryz.isAgg21
  z21 := Tryz.sizeOf21
  v21 := Tryz.zeroValue21
  t46 := Tryz.underlying191
  a46 := Tryz.isAgg191
  z46 := Tryz.sizeOf191
  v46 := Tryz.zeroValue191
  t105 := Tryz.underlying181
  a105 := Tryz.isAgg181
  z105 := Tryz.sizeOf181
  v105 := Tryz.zeroValue181
  t119 := Tryz.underlying203
  a119 := Tryz.isAgg203
  z119 := Tryz.sizeOf203
  t138 := Tryz.underlying205
  a138 := Tryz.isAgg205
  z138 := Tryz.sizeOf205
  v138 := Tryz.zeroValue205
  t139 := Tryz.underlying206
  a139 := Tryz.isAgg206
  z139 := Tryz.sizeOf206
  v139 := Tryz.zeroValue206
  g3 := by kernel_rfl
  g4 := by kernel_rfl }
open Go.RowKit Go.Lib in
/-- **unicode/utf8.DecodeLastRuneInString AT EVERY STRING.** (LAID: no walk: one application.) -/
theorem Tryz.utf8_DecodeLastRuneInString (s : ByteArray) (w : World) (hs : s.size ≤ 9223372036854775807) (hT : Lib.Utf8Tabs 5 6 w) :
    Calls Tryz.prog 161 #[.string s] w fun e w' => e = .returned (.tuple #[.int .i32 (Lib.decodeLastL s.data.toList).1, .int .i64 (Lib.decodeLastL s.data.toList).2]) ∧ Below w.heap.size w w' := Any.utf8_DecodeLastRuneInString Tryz.lays271 s w hs hT
end Go.Proofs
/- The class and the length of the token at a string's beginning; comments. -/
namespace Go.Proofs.YtcjoiiaankngjaaGreatDoor
set_option maxRecDepth 100000
open Go.RowKit
def Asc (l : List UInt8) : Prop := ∀ b ∈ l, b.toNat < 128
theorem sym_idx (c : UInt8) : decide ((0 : Int) ≤ Lib.indexByte [123, 125, 40, 41, 44, 59] c) = isSym c := by
  unfold isSym
  rw [← Lib.contains_iff_indexByte]
  rw [Bool.eq_iff_iff]
  simp only [List.contains_cons, List.contains_nil, Bool.or_eq_true, Bool.or_false, beq_iff_eq]
  constructor <;> intro h <;> simp_all [or_assoc]
theorem str_idx (t : List UInt8) : Lib.indexAny t [34, 10] = if run (fun c => !notStr c) t < t.length then ((run (fun c => !notStr c) t : Nat) : Int) else -1 := by
  have hn : ∀ b : UInt8, ([34, 10] : List UInt8).contains b = notStr b := fun b => by
    unfold notStr
    rw [Bool.eq_iff_iff]
    simp []
  have hno : Lib.NoAny t [34, 10] (run (fun c => !notStr c) t) := fun j b hj hb => by
    obtain ⟨h1, h2⟩ := run_at _ t j hj
    rw [List.getElem?_eq_getElem h1] at hb
    injection hb with hb
    rw [hn, ← hb]
    simpa using h2
  split
  · rename_i h
    have h2 := run_stop (fun c => !notStr c) t h
    exact Lib.indexAny_hit hno (List.getElem?_eq_getElem h) (by rw [hn]; simpa using h2)
  · rename_i h
    have hle := run_le (fun c => !notStr c) t
    exact Lib.indexAny_none (by rw [show t.length = run (fun c => !notStr c) t by omega]; exact hno)
def FirstOut (w : World) (r : Nat × Nat) (e : Ending) (w' : World) : Prop := e = .returned (.tuple #[.int .i64 (r.1 : Int), .int .i64 (r.2 : Int)]) ∧ Below w.heap.size w w'
theorem to_u8 (c : UInt8) : ((c.toNat : Int)).toNat.toUInt8 = c := by simp
set_option maxHeartbeats 1000000 in
theorem first_any (s : ByteArray) (hs : s.size ≤ 4294967000) (ha : Asc s.data.toList) (w : World) : Calls Tryz.prog 111 #[.string s] w (FirstOut w (first s.data.toList)) := by
  unfold FirstOut
  have hl := data_len s
  by_cases h0 : s.size = 0
  · have he : s.data.toList = [] := List.eq_nil_of_length_eq_zero (by omega)
    have hem : s.toList.isEmpty = true := by rw [Lib.toList_data, he]; rfl
    rw [he]
    clear he ha hl
    go_enter Tryz.func111, Tryz.ntmps111
    go_wp2
    go_ret2
    exact ⟨rfl, Below.refl _ _⟩
  · have hp : 0 < s.size := by omega
    have hcons : s.data.toList = s[0] :: s.data.toList.drop 1 := by have := drop_at s 0 hp; rwa [List.drop_zero] at this
    have hem : s.toList.isEmpty = false := by rw [Lib.toList_data, hcons]; rfl
    have hnl : ¬ s.toList = [] := by rw [Lib.toList_data, hcons]; exact List.cons_ne_nil _ _
    have i0 : (0 : Int) < (s.size : Int) := by omega
    have i1 : (1 : Int) ≤ (s.size : Int) := by omega
    have i2 : (s.size : Int) ≤ 4294967000 := by omega
    have B := Lib.hid (begins_any s[0] w)
    have D := Lib.hid (digit_any s[0] w)
    have RC := Lib.hid (runCont_any s (by omega) w)
    have RD := Lib.hid (runDig_any s (by omega) w)
    have IB := Lib.hid (Tryz.strings_IndexByte ⟨#[123, 125, 40, 41, 44, 59]⟩ (s[0].toNat : Int) w)
    rw [to_u8] at IB
    unfold BoolE at B D
    have e1 : first s.data.toList = if isLet s[0] then (2, run isCont s.data.toList) else if isDig s[0] then (3, run isDig s.data.toList) else if isSym s[0] then (5, 1) else if s[0] = 34 ∧ strLen (s.data.toList.drop 1) ≠ 0 then (4, strLen (s.data.toList.drop 1)) else (0, 1) := by
      conv => lhs; rw [hcons]
      rw [first, ← hcons]
    rw [e1]
    clear e1
    obtain ⟨b1, hb1⟩ : ∃ b, isLet s[0] = b := ⟨_, rfl⟩
    rw [hb1] at B ⊢
    cases b1 with
    | true =>
      rw [if_pos rfl]
      obtain ⟨R, hR⟩ : ∃ R, run isCont s.data.toList = R := ⟨_, rfl⟩
      rw [hR] at RC ⊢
      clear hR hb1 hcons ha hl
      go_enter Tryz.func111, Tryz.ntmps111
      go_wp2_with (first
        | (go_at_call 130; ((with_reducible refine B.out.mono ?_); rintro e w1 ⟨rfl, rfl⟩))
        | (go_at_call 131; ((with_reducible refine RC.out.mono ?_); rintro e w2 ⟨rfl, rfl⟩))
        | (fail "arm"))
      go_ret2
      exact ⟨rfl, Below.refl _ _⟩
    | false =>
    rw [if_neg (by decide)]
    obtain ⟨b2, hb2⟩ : ∃ b, isDig s[0] = b := ⟨_, rfl⟩
    rw [hb2] at D ⊢
    cases b2 with
    | true =>
      rw [if_pos rfl]
      obtain ⟨R, hR⟩ : ∃ R, run isDig s.data.toList = R := ⟨_, rfl⟩
      rw [hR] at RD ⊢
      clear hR hb1 hb2 hcons ha hl
      go_enter Tryz.func111, Tryz.ntmps111
      go_wp2_with (first
        | (go_at_call 130; ((with_reducible refine B.out.mono ?_); rintro e w1 ⟨rfl, rfl⟩))
        | (go_at_call 133; ((with_reducible refine D.out.mono ?_); rintro e w1 ⟨rfl, rfl⟩))
        | (go_at_call 131; ((with_reducible refine RD.out.mono ?_); rintro e w2 ⟨rfl, rfl⟩))
        | (fail "arm"))
      go_ret2
      exact ⟨rfl, Below.refl _ _⟩
    | false =>
    rw [if_neg (by decide)]
    have hsi : decide ((0 : Int) ≤ Lib.indexByte (⟨#[123, 125, 40, 41, 44, 59]⟩ : ByteArray).data.toList s[0]) = isSym s[0] := sym_idx s[0]
    obtain ⟨z, hz⟩ : ∃ z, Lib.indexByte (⟨#[123, 125, 40, 41, 44, 59]⟩ : ByteArray).data.toList s[0] = z := ⟨_, rfl⟩
    rw [hz] at IB hsi
    rw [← hsi]
    by_cases hzp : 0 ≤ z
    · rw [if_pos (decide_eq_true hzp)]
      clear hz hsi hb1 hb2 hcons ha hl
      go_enter Tryz.func111, Tryz.ntmps111
      go_wp2_with (first
        | (go_at_call 130; ((with_reducible refine B.out.mono ?_); rintro e w1 ⟨rfl, rfl⟩))
        | (go_at_call 133; ((with_reducible refine D.out.mono ?_); rintro e w1 ⟨rfl, rfl⟩))
        | (go_at_call 134; ((with_reducible refine IB.out.mono ?_); rintro e w2 ⟨rfl, rfl⟩))
        | (fail "arm"))
      go_ret2
      exact ⟨rfl, Below.refl _ _⟩
    · rw [if_neg (by simpa using hzp)]
      have hzn : ¬ (0 : Int) ≤ z := hzp
      by_cases h34 : s[0] = 34
      · have h34' : ((s[0].toNat : Int) == (((⟨#[34]⟩ : ByteArray)[0]'(by decide)).toNat : Int)) = true := by rw [h34]; rfl
        have IA := Tryz.strings_IndexAny_laid (s.extract 1 s.size) ⟨#[34, 10]⟩ w (by rw [ByteArray.size_extract]; omega) (by decide) (fun j b hj => by
          rw [ext_cut, str_data, cut_end] at hj
          exact ha b (List.mem_of_mem_drop (List.mem_of_getElem? hj))) (fun j b hj => by
          have := List.mem_of_getElem? hj
          simp at this
          rcases this with rfl | rfl <;> decide)
        have ei : (s.extract 1 s.size).data.toList = s.data.toList.drop 1 := by rw [ext_cut, str_data, cut_end]
        rw [ei, show (⟨#[34, 10]⟩ : ByteArray).data.toList = [34, 10] from rfl, str_idx] at IA
        obtain ⟨k, hk⟩ : ∃ k, run (fun c => !notStr c) (s.data.toList.drop 1) = k := ⟨_, rfl⟩
        have hsl : strLen (s.data.toList.drop 1) = if (s.data.toList.drop 1)[k]? = some 34 then k + 2 else 0 := by unfold strLen; dsimp only; rw [hk]
        rw [hk] at IA
        obtain ⟨Q, hQ⟩ : ∃ Q, s.extract 1 s.size = Q := ⟨_, rfl⟩
        rw [hQ] at IA
        by_cases hkl : k < (s.data.toList.drop 1).length
        · rw [if_pos hkl] at IA
          have IA := Lib.hid IA
          have hks : k + 1 < s.size := by rw [List.length_drop, hl] at hkl; omega
          have j1 : (k : Int) + 1 < (s.size : Int) := by omega
          have j2 : (1 : Int) + (k : Int) = ((k + 1 : Nat) : Int) := by omega
          have j3 : (0 : Int) ≤ (k : Int) := Int.natCast_nonneg _
          have hgk : (s.data.toList.drop 1)[k]? = some s[k + 1] := by
            rw [List.getElem?_drop, Nat.add_comm 1 k, List.getElem?_eq_getElem (by rw [hl]; exact hks)]
            rfl
          rw [hgk] at hsl
          have j4 : (0 : Int) < (k : Int) + 1 := by omega
          have hCs : k + 1 < s.size := hks
          obtain ⟨y, hy⟩ : ∃ y, s[k + 1] = y := ⟨_, rfl⟩
          rw [hy] at hsl
          by_cases hq : y = 34
          · have j8 : ((s[k + 1].toNat : Int) == (s[0].toNat : Int)) = true := by rw [hy, hq, h34]; rfl
            rw [if_pos (by rw [hq])] at hsl
            rw [if_pos ⟨h34, by rw [hsl]; omega⟩, hsl]
            clear hz hsi hb1 hb2 hcons ha hl hgk hsl hy hq hk ei h34 hkl
            go_enter Tryz.func111, Tryz.ntmps111
            go_wp2_with (first
              | (go_at_call 130; ((with_reducible refine B.out.mono ?_); rintro e w1 ⟨rfl, rfl⟩))
              | (go_at_call 133; ((with_reducible refine D.out.mono ?_); rintro e w1 ⟨rfl, rfl⟩))
              | (go_at_call 134; ((with_reducible refine IB.out.mono ?_); rintro e w2 ⟨rfl, rfl⟩))
              | (go_at_call 135; ((with_reducible refine IA.out.mono ?_); rintro e w3 ⟨rfl, hb3⟩))
              | (fail "arm"))
            go_ret2
            rw [show ((k + 2 : Nat) : Int) = (k : Int) + 1 + 1 by omega]
            exact ⟨rfl, hb3⟩
          · have j8 : ((s[k + 1].toNat : Int) == (s[0].toNat : Int)) = false := by
              rw [hy, h34]
              have : y.toNat ≠ 34 := fun e => hq (UInt8.toNat_inj.1 e)
              simp; exact fun e => this (by exact_mod_cast e)
            rw [if_neg (by simpa using hq)] at hsl
            rw [if_neg (fun h => h.2 hsl)]
            clear hz hsi hb1 hb2 hcons ha hl hgk hsl hy hq hk ei h34 hkl
            go_enter Tryz.func111, Tryz.ntmps111
            go_wp2_with (first
              | (go_at_call 130; ((with_reducible refine B.out.mono ?_); rintro e w1 ⟨rfl, rfl⟩))
              | (go_at_call 133; ((with_reducible refine D.out.mono ?_); rintro e w1 ⟨rfl, rfl⟩))
              | (go_at_call 134; ((with_reducible refine IB.out.mono ?_); rintro e w2 ⟨rfl, rfl⟩))
              | (go_at_call 135; ((with_reducible refine IA.out.mono ?_); rintro e w3 ⟨rfl, hb3⟩))
              | (fail "arm"))
            go_ret2
            exact ⟨rfl, hb3⟩
        · rw [if_neg hkl] at IA
          have IA := Lib.hid IA
          rw [List.getElem?_eq_none (by omega), if_neg (by simp)] at hsl
          rw [if_neg (fun h => h.2 hsl)]
          clear hz hsi hb1 hb2 hcons ha hl hsl hk ei h34 hkl
          go_enter Tryz.func111, Tryz.ntmps111
          go_wp2_with (first
            | (go_at_call 130; ((with_reducible refine B.out.mono ?_); rintro e w1 ⟨rfl, rfl⟩))
            | (go_at_call 133; ((with_reducible refine D.out.mono ?_); rintro e w1 ⟨rfl, rfl⟩))
            | (go_at_call 134; ((with_reducible refine IB.out.mono ?_); rintro e w2 ⟨rfl, rfl⟩))
            | (go_at_call 135; ((with_reducible refine IA.out.mono ?_); rintro e w3 ⟨rfl, hb3⟩))
            | (fail "arm"))
          go_ret2
          exact ⟨rfl, hb3⟩
      · have h34' : ((s[0].toNat : Int) == (((⟨#[34]⟩ : ByteArray)[0]'(by decide)).toNat : Int)) = false := by
          have h0 : s[0].toNat ≠ 34 := fun e => h34 (UInt8.toNat_inj.1 e)
          have h1 : ((s[0].toNat : Int) == 34) = false := by simp; exact fun e => h0 (by exact_mod_cast e)
          exact h1
        rw [if_neg (fun h => h34 h.1)]
        clear hz hsi hb1 hb2 hcons ha hl h34
        go_enter Tryz.func111, Tryz.ntmps111
        go_wp2_with (first
          | (go_at_call 130; ((with_reducible refine B.out.mono ?_); rintro e w1 ⟨rfl, rfl⟩))
          | (go_at_call 133; ((with_reducible refine D.out.mono ?_); rintro e w1 ⟨rfl, rfl⟩))
          | (go_at_call 134; ((with_reducible refine IB.out.mono ?_); rintro e w2 ⟨rfl, rfl⟩))
          | (go_at_call 135; ((with_reducible refine IA.out.mono ?_); rintro e w3 ⟨rfl, hb3⟩))
          | (fail "arm"))
        go_ret2
        exact ⟨rfl, Below.refl _ _⟩
end Go.Proofs.YtcjoiiaankngjaaGreatDoor
/- The scanner: past blanks and comments. -/
namespace Go.Proofs.YtcjoiiaankngjaaGreatDoor
set_option maxRecDepth 100000
open Go.RowKit
theorem byte_idx (t : List UInt8) : Lib.indexByte t 10 = if run (fun c => c != 10) t < t.length then ((run (fun c => c != 10) t : Nat) : Int) else -1 := by
  rw [← Lib.indexAny_one]
  have hn : ∀ b : UInt8, ([10] : List UInt8).contains b = !(b != 10) := fun b => by
    rw [Bool.eq_iff_iff]
    simp []
  have hno : Lib.NoAny t [10] (run (fun c => c != 10) t) := fun j b hj hb => by
    obtain ⟨h1, h2⟩ := run_at _ t j hj
    rw [List.getElem?_eq_getElem h1] at hb
    injection hb with hb
    rw [hn, ← hb]
    simpa using h2
  split
  · rename_i h
    have h2 := run_stop (fun c => c != 10) t h
    exact Lib.indexAny_hit hno (List.getElem?_eq_getElem h) (by rw [hn]; simpa using h2)
  · rename_i h
    have hle := run_le (fun c => c != 10) t
    exact Lib.indexAny_none (by rw [show t.length = run (fun c => c != 10) t by omega]; exact hno)
theorem comment_any (s : ByteArray) (_hs : s.size ≤ 4294967000) (w : World) : Calls Tryz.prog 129 #[.string s] w fun e w' => e = .returned (.int .i64 ((run (fun c => c != 10) s.data.toList : Nat) : Int)) ∧ w' = w := by
  have IB := Tryz.strings_IndexByte s 10 w
  rw [show ((10 : Int)).toNat.toUInt8 = 10 from rfl, byte_idx] at IB
  have hle := run_le (fun c => c != 10) s.data.toList
  rw [data_len] at IB hle
  obtain ⟨k, hk⟩ : ∃ k, run (fun c => c != 10) s.data.toList = k := ⟨_, rfl⟩
  rw [hk] at IB hle ⊢
  have k0 : (0 : Int) ≤ (k : Int) := Int.natCast_nonneg _
  clear hk
  by_cases h : k < s.size
  · rw [if_pos h] at IB
    have IB := Lib.hid IB
    go_enter Tryz.func129, Tryz.ntmps129
    go_wp2_with (first
      | (go_at_call 134; ((with_reducible refine IB.out.mono ?_); rintro e w1 ⟨rfl, rfl⟩))
      | (fail "arm"))
    go_ret
    exact ⟨rfl, rfl⟩
  · rw [if_neg h] at IB
    have IB := Lib.hid IB
    obtain rfl : k = s.size := by omega
    go_enter Tryz.func129, Tryz.ntmps129
    go_wp2_with (first
      | (go_at_call 134; ((with_reducible refine IB.out.mono ?_); rintro e w1 ⟨rfl, rfl⟩))
      | (fail "arm"))
    go_ret
    exact ⟨rfl, rfl⟩
/-- a scanner at the beginning of the block b; Z: what lies behind it -/
def Sc (w : World) (b : Nat) (c : ByteArray) (n : Nat) (Z : List Value) : Prop := Full w b 95 (.string c :: .int .i64 (n : Int) :: Z)
def SkipOut (w : World) (b : Nat) (Z : List Value) (r : List UInt8 × Nat) (e : Ending) (w' : World) : Prop := e = .returned (.tuple #[]) ∧ Sc w' b (str r.1) r.2 Z ∧ Turn (fun g => g = b) w w'
theorem skip_cons (s : ByteArray) (n : Nat) (h : 0 < s.size) : skip false s.data.toList n =
    if s[0] = 10 then skip false (s.extract 1 s.size).data.toList (n + 1) else if s[0] = 32 ∨ s[0] = 9 ∨ s[0] = 13 then skip false (s.extract 1 s.size).data.toList n
    else if s[0] = 35 then skip false (s.extract (run (fun c => c != 10) s.data.toList) s.size).data.toList n else (s.data.toList, n) := by
  have hcons : s.data.toList = s[0] :: s.data.toList.drop 1 := by have := drop_at s 0 h; rwa [List.drop_zero] at this
  have e1 : ∀ k, (s.extract k s.size).data.toList = s.data.toList.drop k := fun k => by rw [ext_cut, str_data, cut_end]
  rw [e1, e1]
  conv => lhs; rw [hcons]
  rw [skip]
  split
  · rfl
  · split
    · rfl
    · split
      · rename_i h35
        rw [skip_comment]
        have h1 : (s[0] != 10) = true := by rw [h35]; rfl
        have hr : run (fun c => c != 10) s.data.toList = run (fun c => c != 10) (s.data.toList.drop 1) + 1 := by
          conv => lhs; rw [hcons]
          rw [run, if_pos h1]
        rw [hr, List.drop_drop, Nat.add_comm 1]
      · rw [← hcons]
theorem sc_far {w : World} {b : Nat} {c c' : ByteArray} {n n' : Nat} {Z : List Value} (h : Sc w b c n Z) (o : Nat) (u : Value) (e : (.string c :: .int .i64 (n : Int) :: Z).set o u = .string c' :: .int .i64 (n' : Int) :: Z) : Sc (w.setCell ⟨b, o, none⟩ u) b c' n' Z := by
  unfold Sc at h ⊢
  rw [← e]
  exact h.set_ o u
set_option maxHeartbeats 2000000 in
theorem skip_any {w : World} {b : Nat} {s : ByteArray} {n : Nat} {Z : List Value} (hF : Sc w b s n Z) (hs : s.size ≤ 4294967000) (hn : n ≤ 1099511627776) :
    Calls Tryz.prog 110 #[.pointer (some ⟨b, 0, none⟩)] w (SkipOut w b Z (skip false s.data.toList n)) := by
  unfold SkipOut
  obtain ⟨R, HR⟩ : ∃ R, Hid (skip false s.data.toList n = R) := ⟨_, Lib.hid rfl⟩
  rw [HR.out]
  have H0 := Lib.hid hF
  have HT0 : Hid (Turn (fun g => g = b) w w) := Lib.hid (Turn.refl _ _)
  have HS0 : s.size + n ≤ s.size + n := Nat.le_refl _
  obtain ⟨N, hN⟩ : ∃ N, s.size + n = N := ⟨_, rfl⟩
  have hNb : N ≤ 1103806594776 := by omega
  have CM := Lib.hid comment_any
  have SF := Lib.hid (fun (c : ByteArray) (k : Nat) (wr : World) (h : Sc wr b c k Z) => And.intro (show wr.cell? ⟨b, 0, none⟩ = some (.string c) from h.cell 0) (And.intro (show wr.cell? ⟨b, 1, none⟩ = some (.int .i64 (k : Int)) from h.cell 1) (And.intro (h.frozen 0) (h.frozen 1))))
  have HS1 : s.size + n ≤ N := by omega
  clear hF hN HS0
  go_enter Tryz.func110, Tryz.ntmps110
  go_wp2
  go_loopw [2] (fun _ wr => ∃ (c : ByteArray) (k : Nat), c.size + k ≤ N ∧ c.size ≤ s.size ∧ Hid (Sc wr b c k Z) ∧ Hid (Turn (fun g => g = b) w wr) ∧ Hid (skip false c.data.toList k = R)) (fun _ wr => match wr.cell? ⟨b, 0, none⟩ with | some (.string c) => c.size | _ => 0)
  case atStart => exact ⟨s, n, by omega, Nat.le_refl _, H0, HT0, HR⟩
  case round =>
    obtain ⟨c, k, hck, hcs, HC, HT, HE⟩ := hrel
    obtain ⟨c0, c1, f0, f1⟩ := SF.out c k wr HC.out
    have k0 : (0 : Int) ≤ (k : Int) := Int.natCast_nonneg _
    by_cases hz : c.size = 0
    · have he : c.data.toList = [] := List.eq_nil_of_length_eq_zero (by rw [data_len]; omega)
      have hem : c.toList.isEmpty = true := by rw [Lib.toList_data, he]; rfl
      have HE2 := Lib.hid (show R = ([], k) by rw [← HE.out, he]; rfl)
      have HC2 := Lib.hid (show Sc wr b (str []) k Z by have := HC.out; rwa [str_eq he] at this)
      clear he hz
      go_wp2
      go_end0
      rw [HE2.out]
      exact ⟨rfl, HC2.out, HT.out⟩
    · have hp : 0 < c.size := by omega
      have hsk := skip_cons c k hp
      have hem : c.toList.isEmpty = false := by rw [Lib.toList_data, show c.data.toList = c[0] :: c.data.toList.drop 1 by have := drop_at c 0 hp; rwa [List.drop_zero] at this]; rfl
      have i0 : (0 : Int) < (c.size : Int) := by omega
      have i1 : (1 : Int) ≤ (c.size : Int) := by omega
      have i2 : (k : Int) ≤ 1103806594776 := by omega
      have i3 : (c.size : Int) ≤ 4294967000 := by omega
      obtain ⟨Q, hQ⟩ : ∃ Q, c.extract 1 c.size = Q := ⟨_, rfl⟩
      have hQs : Q.size + 1 = c.size := by rw [← hQ, ByteArray.size_extract]; omega
      rw [HE.out, hQ] at hsk
      have fits : ∀ (x : UInt8), (((c[0].toNat : Int) == (x.toNat : Int)) = decide (c[0] = x)) := fun x => by
        rw [Bool.eq_iff_iff]; simp; constructor
        · intro e; exact UInt8.toNat_inj.1 (by exact_mod_cast e)
        · intro e; rw [e]
      have t10 : ((c[0].toNat : Int) == 10) = decide (c[0] = 10) := fits 10
      have t32 : ((c[0].toNat : Int) == 32) = decide (c[0] = 32) := fits 32
      have t9 : ((c[0].toNat : Int) == 9) = decide (c[0] = 9) := fits 9
      have t13 : ((c[0].toNat : Int) == 13) = decide (c[0] = 13) := fits 13
      have t35 : ((c[0].toNat : Int) == 35) = decide (c[0] = 35) := fits 35
      clear fits
      by_cases h10 : c[0] = 10
      · rw [if_pos h10] at hsk
        rw [decide_eq_true h10] at t10
        have hW1 := sc_far HC.out 1 (.int .i64 ((k : Int) + 1)) (c' := c) (n' := k + 1) (by simp)
        obtain ⟨d0, d1, g0, g1⟩ := SF.out c (k + 1) _ hW1
        have HC3 := Lib.hid (sc_far hW1 0 (.string Q) (c' := Q) (n' := k + 1) rfl)
        have HT3 := Lib.hid ((HT.out.trans_ (Turn.set_ (w := wr) (F := fun g => g = b) (a := ⟨b, 1, none⟩) rfl (.int .i64 ((k : Int) + 1)))).trans_ (Turn.set_ (F := fun g => g = b) (a := ⟨b, 0, none⟩) rfl (.string Q)))
        have HE3 := Lib.hid hsk.symm
        have hc3 : ((wr.setCell ⟨b, 1, none⟩ (.int .i64 ((k : Int) + 1))).setCell ⟨b, 0, none⟩ (.string Q)).cell? ⟨b, 0, none⟩ = some (.string Q) := (SF.out Q (k + 1) _ HC3.out).1
        clear t32 t9 t13 t35 hsk h10 hW1
        go_wp2
        go_roundw
        case rel => exact ⟨Q, k + 1, by omega, by omega, HC3, HT3, HE3⟩
        case measure => rw [hc3, c0]; dsimp only; omega
      · rw [if_neg h10] at hsk
        rw [decide_eq_false h10] at t10
        have HC3 := Lib.hid (sc_far HC.out 0 (.string Q) (c' := Q) (n' := k) rfl)
        have HT3 := Lib.hid (HT.out.trans_ (Turn.set_ (w := wr) (F := fun g => g = b) (a := ⟨b, 0, none⟩) rfl (.string Q)))
        have hc3 : (wr.setCell ⟨b, 0, none⟩ (.string Q)).cell? ⟨b, 0, none⟩ = some (.string Q) := (SF.out Q k _ HC3.out).1
        by_cases hbl : c[0] = 32 ∨ c[0] = 9 ∨ c[0] = 13
        · rw [if_pos hbl] at hsk
          have HE3 := Lib.hid hsk.symm
          rcases (show c[0] = 32 ∨ (c[0] ≠ 32 ∧ c[0] = 9) ∨ (c[0] ≠ 32 ∧ c[0] ≠ 9 ∧ c[0] = 13) by
            by_cases a1 : c[0] = 32
            · exact .inl a1
            · by_cases a2 : c[0] = 9
              · exact .inr (.inl ⟨a1, a2⟩)
              · exact .inr (.inr ⟨a1, a2, (hbl.resolve_left a1).resolve_left a2⟩)) with a1 | ⟨a1, a2⟩ | ⟨a1, a2, a3⟩
          · rw [decide_eq_true a1] at t32
            clear t9 t13 t35 hsk h10 hbl a1
            go_wp2
            go_roundw
            case rel => exact ⟨Q, k, by omega, by omega, HC3, HT3, HE3⟩
            case measure => rw [hc3, c0]; dsimp only; omega
          · rw [decide_eq_false a1] at t32
            rw [decide_eq_true a2] at t9
            clear t13 t35 hsk h10 hbl a1 a2
            go_wp2
            go_roundw
            case rel => exact ⟨Q, k, by omega, by omega, HC3, HT3, HE3⟩
            case measure => rw [hc3, c0]; dsimp only; omega
          · rw [decide_eq_false a1] at t32
            rw [decide_eq_false a2] at t9
            rw [decide_eq_true a3] at t13
            clear t35 hsk h10 hbl a1 a2 a3
            go_wp2
            go_roundw
            case rel => exact ⟨Q, k, by omega, by omega, HC3, HT3, HE3⟩
            case measure => rw [hc3, c0]; dsimp only; omega
        · rw [if_neg hbl] at hsk
          rw [decide_eq_false (fun e => hbl (.inl e))] at t32
          rw [decide_eq_false (fun e => hbl (.inr (.inl e)))] at t9
          rw [decide_eq_false (fun e => hbl (.inr (.inr e)))] at t13
          by_cases h35 : c[0] = 35
          · rw [if_pos h35] at hsk
            rw [decide_eq_true h35] at t35
            have CMc := CM.out c (by omega) wr
            have hrl := run_le (fun c => c != 10) c.data.toList
            have hr1 : 1 ≤ run (fun c => c != 10) c.data.toList := by
              rw [show c.data.toList = c[0] :: c.data.toList.drop 1 by have := drop_at c 0 hp; rwa [List.drop_zero] at this, run, if_pos (by rw [h35]; rfl)]
              omega
            obtain ⟨r, hr⟩ : ∃ r, run (fun c => c != 10) c.data.toList = r := ⟨_, rfl⟩
            rw [data_len] at hrl
            rw [hr] at CMc hsk hrl hr1
            have CMh := Lib.hid CMc
            obtain ⟨Q2, hQ2⟩ : ∃ Q2, c.extract r c.size = Q2 := ⟨_, rfl⟩
            have hQ2s : Q2.size + r = c.size := by rw [← hQ2, ByteArray.size_extract]; omega
            rw [hQ2] at hsk
            have HE3 := Lib.hid hsk.symm
            have HC4 := Lib.hid (sc_far HC.out 0 (.string Q2) (c' := Q2) (n' := k) rfl)
            have HT4 := Lib.hid (HT.out.trans_ (Turn.set_ (w := wr) (F := fun g => g = b) (a := ⟨b, 0, none⟩) rfl (.string Q2)))
            have hc4 : (wr.setCell ⟨b, 0, none⟩ (.string Q2)).cell? ⟨b, 0, none⟩ = some (.string Q2) := (SF.out Q2 k _ HC4.out).1
            have r0 : (0 : Int) ≤ (r : Int) := Int.natCast_nonneg _
            have r1 : (r : Int) ≤ (c.size : Int) := by omega
            clear hsk h10 hbl h35 hr CMc HC3 HT3 hc3 hQ
            go_wp2_with (first
              | (go_at_call 129; ((with_reducible refine CMh.out.mono ?_); rintro e w2 ⟨rfl, rfl⟩))
              | (fail "arm"))
            go_roundw
            case rel => exact ⟨Q2, k, by omega, by omega, HC4, HT4, HE3⟩
            case measure => rw [hc4, c0]; dsimp only; omega
          · rw [if_neg h35] at hsk
            rw [decide_eq_false h35] at t35
            have HE2 := Lib.hid hsk
            clear hsk h10 hbl h35 HC3 HT3 hc3 hQ
            go_wp2
            refine bodyPost_ret (results_none rfl _ _ _) rfl ?_
            rw [HE2.out]
            exact ⟨rfl, by have := HC.out; rwa [show c = str c.data.toList from str_eq rfl] at this, HT.out⟩
end Go.Proofs.YtcjoiiaankngjaaGreatDoor
/- The scanner's next token. -/
namespace Go.Proofs.YtcjoiiaankngjaaGreatDoor
set_option maxRecDepth 100000
open Go.RowKit
def tokC (t : Tok) : List Value := [.int .i64 (t.cls : Int), .string (str t.txt), .int .i64 (t.ln : Int)]
def tokV (t : Tok) : Value := .agg #[.int .i64 (t.cls : Int), .string (str t.txt), .int .i64 (t.ln : Int)]
theorem store3 {w : World} {r : Nat} {t : TypeId} {x0 x1 x2 : Value} (F : Full w r t [x0, x1, x2]) (y0 y1 y2 : Value) :
    (w.cell? ⟨r, 0, none⟩ = some x0 ∧ w.frozen? ⟨r, 0, none⟩ = false) ∧ ((w.setCell ⟨r, 0, none⟩ y0).cell? ⟨r, 1, none⟩ = some x1 ∧ (w.setCell ⟨r, 0, none⟩ y0).frozen? ⟨r, 1, none⟩ = false) ∧
    (((w.setCell ⟨r, 0, none⟩ y0).setCell ⟨r, 1, none⟩ y1).cell? ⟨r, 2, none⟩ = some x2 ∧ ((w.setCell ⟨r, 0, none⟩ y0).setCell ⟨r, 1, none⟩ y1).frozen? ⟨r, 2, none⟩ = false) ∧
    Full (((w.setCell ⟨r, 0, none⟩ y0).setCell ⟨r, 1, none⟩ y1).setCell ⟨r, 2, none⟩ y2) r t [y0, y1, y2] :=
  ⟨⟨F.cell 0, F.frozen 0⟩, ⟨(F.set_ 0 y0).cell 1, (F.set_ 0 y0).frozen 1⟩, ⟨((F.set_ 0 y0).set_ 1 y1).cell 2, ((F.set_ 0 y0).set_ 1 y1).frozen 2⟩, ((F.set_ 0 y0).set_ 1 y1).set_ 2 y2⟩
theorem Turn.set3 {G : Nat → Prop} {w w' : World} (h : Turn G w w') {r : Nat} (hr : w.heap.size ≤ r) (y0 y1 y2 : Value) : Turn G w (((w'.setCell ⟨r, 0, none⟩ y0).setCell ⟨r, 1, none⟩ y1).setCell ⟨r, 2, none⟩ y2) := by
  have k : Turn (fun g => G g ∨ g = r) w' (((w'.setCell ⟨r, 0, none⟩ y0).setCell ⟨r, 1, none⟩ y1).setCell ⟨r, 2, none⟩ y2) :=
    ((Turn.set_ (F := fun g => G g ∨ g = r) (a := ⟨r, 0, none⟩) (.inr rfl) y0).trans_ (Turn.set_ (F := fun g => G g ∨ g = r) (a := ⟨r, 1, none⟩) (.inr rfl) y1)).trans_ (Turn.set_ (F := fun g => G g ∨ g = r) (a := ⟨r, 2, none⟩) (.inr rfl) y2)
  exact h.late k fun g hg => hg.imp id (fun e => by omega)
theorem Sc.turn {w w' : World} {b : Nat} {c : ByteArray} {n : Nat} {Z : List Value} {F : Nat → Prop} (h : Sc w b c n Z) (ht : Turn F w w') (hb : ¬ F b) : Sc w' b c n Z := ht.far h hb
theorem Sc.on {w w' : World} {b : Nat} {c : ByteArray} {n : Nat} {Z : List Value} (h : Sc w b c n Z) (hb : Below w.heap.size w w') : Sc w' b c n Z := Full.on h hb
theorem Sc.lt {w : World} {b : Nat} {c : ByteArray} {n : Nat} {Z : List Value} (h : Sc w b c n Z) : b < w.heap.size := Full.lt h
theorem Asc.skip : ∀ (f : Bool) (s : List UInt8) (n : Nat), Asc s → Asc (skip f s n).1
  | f, [], n, h => by cases f <;> exact h
  | true, c :: t, n, h => by
    have ht : Asc t := fun b hb => h b (List.mem_cons_of_mem _ hb)
    rw [Go.Proofs.YtcjoiiaankngjaaGreatDoor.skip]
    split
    · exact Asc.skip false t _ ht
    · exact Asc.skip true t _ ht
  | false, c :: t, n, h => by
    have ht : Asc t := fun b hb => h b (List.mem_cons_of_mem _ hb)
    rw [Go.Proofs.YtcjoiiaankngjaaGreatDoor.skip]
    split
    · exact Asc.skip false t _ ht
    · split
      · exact Asc.skip false t _ ht
      · split
        · exact Asc.skip true t _ ht
        · exact h
def NextOut (w : World) (b : Nat) (Z : List Value) (r : Tok × List UInt8 × Nat) (e : Ending) (w' : World) : Prop := e = .returned (tokV r.1) ∧ Sc w' b (str r.2.1) r.2.2 Z ∧ Turn (fun g => g = b) w w'
theorem cls_le (s : List UInt8) : (first s).1 ≤ 5 := by
  cases s with
  | nil => decide
  | cons c t => rw [first]; repeat' split
                all_goals (dsimp only; omega)
set_option maxHeartbeats 2000000 in
theorem next_any {w : World} {b : Nat} {s : ByteArray} {n : Nat} {Z : List Value} (hF : Sc w b s n Z) (ha : Asc s.data.toList) (hs : s.size ≤ 4294967000) (hn : n ≤ 1099511627776) :
    Calls Tryz.prog 73 #[.pointer (some ⟨b, 0, none⟩)] w (NextOut w b Z (next s.data.toList n)) := by
  unfold NextOut
  have e0 : next s.data.toList n = (⟨(first (skip false s.data.toList n).1).1, (skip false s.data.toList n).1.take (first (skip false s.data.toList n).1).2, (skip false s.data.toList n).2⟩, (skip false s.data.toList n).1.drop (first (skip false s.data.toList n).1).2, (skip false s.data.toList n).2) := rfl
  rw [e0]
  clear e0
  have hsl := skip_len false s.data.toList n
  have hA := Asc.skip false s.data.toList n ha
  rw [data_len] at hsl
  obtain ⟨w1, hw1⟩ : ∃ w1, w.alloc (.cells #[.int .i64 0, .string ⟨#[]⟩, .int .i64 0] 91) = w1 := ⟨_, rfl⟩
  have hb1 : Below w.heap.size w w1 := by rw [← hw1]; exact (Below.refl _ w).alloc (Nat.le_refl _) _
  have F1 : Full w1 w.heap.size 91 [.int .i64 0, .string ⟨#[]⟩, .int .i64 0] := by rw [← hw1]; exact Full.new w 91 _
  have SK := skip_any (hF.on hb1) hs hn
  unfold SkipOut at SK
  obtain ⟨l, hl⟩ : ∃ l, (skip false s.data.toList n).1 = l := ⟨_, rfl⟩
  obtain ⟨m, hm⟩ : ∃ m, (skip false s.data.toList n).2 = m := ⟨_, rfl⟩
  rw [hl, hm] at SK
  rw [hl] at hsl hA
  rw [hm] at hsl
  rw [hl, hm]
  obtain ⟨S, hS⟩ : ∃ S, str l = S := ⟨_, rfl⟩
  have hSl : S.data.toList = l := by rw [← hS]; rfl
  have hSz : S.size = l.length := by rw [← hS]; rfl
  rw [hS] at SK
  have SK := Lib.hid SK
  have FA := Lib.hid (fun W => first_any S (by omega) (by rw [hSl]; exact hA) W)
  unfold FirstOut at FA
  rw [hSl] at FA
  have hfl := first_le l
  have hfc := cls_le l
  obtain ⟨c, hc⟩ : ∃ c, (first l).1 = c := ⟨_, rfl⟩
  obtain ⟨z, hz⟩ : ∃ z, (first l).2 = z := ⟨_, rfl⟩
  rw [hc, hz] at FA
  rw [hc] at hfc
  rw [hz] at hfl
  rw [hc, hz]
  have hzS : z ≤ S.size := by omega
  have hT : S.extract 0 z = str (l.take z) := by rw [ext_cut, hSl]; simp [cutL]
  have hD : S.extract z S.size = str (l.drop z) := by rw [ext_cut, cut_end, hSl]
  obtain ⟨T, hTT⟩ : ∃ T, S.extract 0 z = T := ⟨_, rfl⟩
  obtain ⟨D, hDD⟩ : ∃ D, S.extract z S.size = D := ⟨_, rfl⟩
  rw [hTT] at hT
  rw [hDD] at hD
  have z0 : (0 : Int) ≤ (z : Int) := Int.natCast_nonneg _
  have z1 : (z : Int) ≤ (S.size : Int) := by omega
  have z2 : (S.size : Int) ≤ 4294967000 := by omega
  obtain ⟨r, hr⟩ : ∃ r, w.heap.size = r := ⟨_, rfl⟩
  rw [hr] at F1
  have hbr : b < r := by rw [← hr]; exact hF.lt
  have HTD := Lib.hid (And.intro hT hD)
  have HB1 := Lib.hid hb1
  have HF1 := Lib.hid F1
  clear hT hD hl hm hc hz hfl hA hsl hSl hSz hS F1 hF ha hb1
  go_enter Tryz.func73, Tryz.ntmps73
  go_upto_region 3 with (first
    | (go_at_call 110; ((with_reducible refine SK.out.mono ?_); rintro e w2 ⟨rfl, hS2, hT2⟩; (have s20 : w2.cell? ⟨b, 0, none⟩ = some (.string S) := Full.cell hS2 0)))
    | (go_at_call 111; ((with_reducible refine (FA.out w2).mono ?_); rintro e w3 ⟨rfl, hb3⟩))
    | (fail "arm"))
  have hS3 := hS2.on hb3
  have s30 : w3.cell? ⟨b, 0, none⟩ = some (.string S) := Full.cell hS3 0
  have s31 : w3.cell? ⟨b, 1, none⟩ = some (.int .i64 (m : Int)) := Full.cell hS3 1
  have F3 : Full w3 r 91 [.int .i64 0, .string ⟨#[]⟩, .int .i64 0] := (hT2.far HF1.out (by omega)).on hb3
  have s40 : (w3.alloc (.cells #[.int .i64 0, .string ⟨#[]⟩, .int .i64 0] 91)).drew.cell? ⟨b, 0, none⟩ = some (.string S) := Full.cell (Full.alloc hS3 _) 0
  have s41 : (w3.alloc (.cells #[.int .i64 0, .string ⟨#[]⟩, .int .i64 0] 91)).drew.cell? ⟨b, 1, none⟩ = some (.int .i64 (m : Int)) := Full.cell (Full.alloc hS3 _) 1
  have HT3 := Lib.hid (hT2.trans_ (Turn.of hb3))
  have HS3 := Lib.hid hS3
  have HF3 := Lib.hid F3
  clear hS2 hT2 hb3 hS3 s20 F3 SK FA
  go_region
  obtain ⟨w4, hw4⟩ : ∃ w4, (w3.alloc (.cells #[.int .i64 (c : Int), .string T, .int .i64 (m : Int)] 91)).drew = w4 := ⟨_, rfl⟩
  have hb4 : Below w3.heap.size w3 w4 := by rw [← hw4]; exact ((Below.refl _ w3).alloc (Nat.le_refl _) _).drew
  have F4 : Full w4 w3.heap.size 91 [.int .i64 (c : Int), .string T, .int .i64 (m : Int)] := by rw [← hw4]; exact (Full.new w3 91 _).drew
  obtain ⟨u, hu⟩ : ∃ u, w3.heap.size = u := ⟨_, rfl⟩
  have hS4 := HS3.out.on hb4
  have F4r := HF3.out.on hb4
  have hT4 := HT3.out.trans_ (Turn.of hb4)
  have hbu : b < u := by rw [← hu]; exact HS3.out.lt
  have hru : r < u := by rw [← hu]; exact HF3.out.lt
  rw [hu] at F4
  rw [hw4, hu]
  have p0 : w4.cell? ⟨b, 0, none⟩ = some (.string S) := Full.cell hS4 0
  have p0f : w4.frozen? ⟨b, 0, none⟩ = false := Full.frozen hS4 0
  have hS5 := sc_far hS4 0 (.string D) (c' := D) (n' := m) rfl
  have F5u := F4.far (p := ⟨b, 0, none⟩) (by show u ≠ b; omega) (.string D)
  have F5r := F4r.far (p := ⟨b, 0, none⟩) (by show r ≠ b; omega) (.string D)
  have u0 : (w4.setCell ⟨b, 0, none⟩ (.string D)).cell? ⟨u, 0, none⟩ = some (.int .i64 (c : Int)) := F5u.cell 0
  have u1 : (w4.setCell ⟨b, 0, none⟩ (.string D)).cell? ⟨u, 1, none⟩ = some (.string T) := F5u.cell 1
  have u2 : (w4.setCell ⟨b, 0, none⟩ (.string D)).cell? ⟨u, 2, none⟩ = some (.int .i64 (m : Int)) := F5u.cell 2
  obtain ⟨⟨v0, v0f⟩, ⟨v1, v1f⟩, ⟨v2, v2f⟩, F6⟩ := store3 F5r (.int .i64 (c : Int)) (.string T) (.int .i64 (m : Int))
  have HT6 := Lib.hid (Turn.set3 (r := r) (((Turn.of HB1.out).trans_ hT4).trans_ (Turn.set_ (F := fun g => g = b) (a := ⟨b, 0, none⟩) rfl (.string D))) (by omega) (.int .i64 (c : Int)) (.string T) (.int .i64 (m : Int)))
  obtain ⟨w8, hw8⟩ : ∃ w8, (((w4.setCell ⟨b, 0, none⟩ (.string D)).setCell ⟨r, 0, none⟩ (.int .i64 (c : Int))).setCell ⟨r, 1, none⟩ (.string T)).setCell ⟨r, 2, none⟩ (.int .i64 (m : Int)) = w8 := ⟨_, rfl⟩
  have hS8 : Sc w8 b D m Z := by
    rw [← hw8]
    exact ((Full.far hS5 (p := ⟨r, 0, none⟩) (by show b ≠ r; omega) _).far (p := ⟨r, 1, none⟩) (by show b ≠ r; omega) _).far (p := ⟨r, 2, none⟩) (by show b ≠ r; omega) _
  have HS8 := Lib.hid hS8
  rw [hw8] at F6 HT6
  have q0 : w8.cell? ⟨r, 0, none⟩ = some (.int .i64 (c : Int)) := F6.cell 0
  have q1 : w8.cell? ⟨r, 1, none⟩ = some (.string T) := F6.cell 1
  have q2 : w8.cell? ⟨r, 2, none⟩ = some (.int .i64 (m : Int)) := F6.cell 2
  clear hw4 hb4 F4 hS4 F4r hT4 hS5 F5u F5r F6 hS8 hr hu HS3 HF3 HT3 HB1 HF1 s30 s31 s40 s41
  go_wp2
  refine bodyPost_ret (v := .agg #[.int .i64 (c : Int), .string T, .int .i64 (m : Int)]) (by simp [results, Tryz.results73, go_sem, q0, q1, q2]) rfl ?_
  refine ⟨?_, ?_, HT6.out⟩
  · unfold tokV
    rw [HTD.out.1]
  · have := HS8.out
    rwa [HTD.out.2] at this
end Go.Proofs.YtcjoiiaankngjaaGreatDoor
/- The parser's memory: advance, fail, refuse, take, expect, expectAny. -/
namespace Go.Proofs.YtcjoiiaankngjaaGreatDoor
set_option maxRecDepth 100000
open Go.RowKit
/-- the parser at the block b: what is left, the line, the token ahead, the error and its line, and the other cells -/
def Pm (w : World) (b : Nat) (s : ByteArray) (n : Nat) (c : Int) (tx : ByteArray) (tl : Int) (e el : Int) (R : List Value) : Prop :=
  Full w b 95 (.string s :: .int .i64 (n : Int) :: .int .i64 c :: .string tx :: .int .i64 tl :: .int .i64 e :: .int .i64 el :: R)
theorem Pm.sc {w : World} {b : Nat} {s : ByteArray} {n : Nat} {c : Int} {tx : ByteArray} {tl e el : Int} {R : List Value} (h : Pm w b s n c tx tl e el R) : Sc w b s n (.int .i64 c :: .string tx :: .int .i64 tl :: .int .i64 e :: .int .i64 el :: R) := h
section
variable {w w' : World} {b : Nat} {s : ByteArray} {n : Nat} {c : Int} {tx : ByteArray} {tl e el : Int} {R : List Value}
theorem Pm.lt (h : Pm w b s n c tx tl e el R) : b < w.heap.size := Full.lt h
theorem Pm.on (h : Pm w b s n c tx tl e el R) (hb : Below w.heap.size w w') : Pm w' b s n c tx tl e el R := Full.on h hb
theorem Pm.drew (h : Pm w b s n c tx tl e el R) : Pm w.drew b s n c tx tl e el R := h
/-- the token ahead is written -/
theorem Pm.ahead (h : Pm w b s n c tx tl e el R) (c' : Int) (tx' : ByteArray) (tl' : Int) :
    (w.cell? ⟨b, 2, none⟩ = some (.int .i64 c) ∧ w.frozen? ⟨b, 2, none⟩ = false) ∧ ((w.setCell ⟨b, 2, none⟩ (.int .i64 c')).cell? ⟨b, 3, none⟩ = some (.string tx) ∧ (w.setCell ⟨b, 2, none⟩ (.int .i64 c')).frozen? ⟨b, 3, none⟩ = false) ∧
    (((w.setCell ⟨b, 2, none⟩ (.int .i64 c')).setCell ⟨b, 3, none⟩ (.string tx')).cell? ⟨b, 4, none⟩ = some (.int .i64 tl) ∧ ((w.setCell ⟨b, 2, none⟩ (.int .i64 c')).setCell ⟨b, 3, none⟩ (.string tx')).frozen? ⟨b, 4, none⟩ = false) ∧
    Pm (((w.setCell ⟨b, 2, none⟩ (.int .i64 c')).setCell ⟨b, 3, none⟩ (.string tx')).setCell ⟨b, 4, none⟩ (.int .i64 tl')) b s n c' tx' tl' e el R := by
  have F : Full w b 95 _ := h
  exact ⟨⟨F.cell 2, F.frozen 2⟩, ⟨(F.set_ 2 _).cell 3, (F.set_ 2 _).frozen 3⟩, ⟨((F.set_ 2 _).set_ 3 _).cell 4, ((F.set_ 2 _).set_ 3 _).frozen 4⟩, ((F.set_ 2 _).set_ 3 _).set_ 4 _⟩
end
theorem Turn.setb {G : Nat → Prop} {w w' : World} {b : Nat} (h : Turn G w w') (hb : G b) (o : Nat) (u : Value) : Turn G w (w'.setCell ⟨b, o, none⟩ u) := h.trans_ (Turn.set_ (a := ⟨b, o, none⟩) hb u)
def AdvOut (w : World) (b : Nat) (v : Value) (r : Tok × List UInt8 × Nat) (e el : Int) (R : List Value) (en : Ending) (w' : World) : Prop :=
  en = .returned v ∧ Pm w' b (str r.2.1) r.2.2 (r.1.cls : Int) (str r.1.txt) (r.1.ln : Int) e el R ∧ Turn (fun g => g = b) w w'
set_option maxHeartbeats 2000000 in
theorem advance_pm {w : World} {b : Nat} {s : ByteArray} {n : Nat} {c : Int} {tx : ByteArray} {tl e el : Int} {R : List Value} (h : Pm w b s n c tx tl e el R) (ha : Asc s.data.toList) (hs : s.size ≤ 4294967000) (hn : n ≤ 1099511627776) :
    Calls Tryz.prog 112 #[.pointer (some ⟨b, 0, none⟩)] w (AdvOut w b (.agg #[.int .i64 c, .string tx, .int .i64 tl]) (next s.data.toList n) e el R) := by
  unfold AdvOut
  obtain ⟨w1, hw1⟩ : ∃ w1, w.alloc (.cells #[.int .i64 0, .string ⟨#[]⟩, .int .i64 0] 91) = w1 := ⟨_, rfl⟩
  have hb1 : Below w.heap.size w w1 := by rw [← hw1]; exact (Below.refl _ w).alloc (Nat.le_refl _) _
  have F1 : Full w1 w.heap.size 91 [.int .i64 0, .string ⟨#[]⟩, .int .i64 0] := by rw [← hw1]; exact Full.new w 91 _
  have s1 : w1.heap.size = w.heap.size + 1 := by rw [← hw1]; exact World.size_alloc _ _
  obtain ⟨w2, hw2⟩ : ∃ w2, w1.alloc (.cells #[.int .i64 c, .string tx, .int .i64 tl] 91) = w2 := ⟨_, rfl⟩
  have hb2 : Below w1.heap.size w1 w2 := by rw [← hw2]; exact (Below.refl _ w1).alloc (Nat.le_refl _) _
  have F2u : Full w2 w1.heap.size 91 [.int .i64 c, .string tx, .int .i64 tl] := by rw [← hw2]; exact Full.new w1 91 _
  have F2r := F1.on hb2
  have h1 := h.on hb1
  have h2 := h1.on hb2
  have NX := Lib.hid (next_any h2.sc ha hs hn)
  unfold NextOut at NX
  obtain ⟨t', rest', n', hnx⟩ : ∃ t' rest' n', next s.data.toList n = (t', rest', n') := ⟨_, _, _, rfl⟩
  rw [hnx] at NX ⊢
  dsimp only at NX ⊢
  obtain ⟨c', hc'⟩ : ∃ c' : Nat, t'.cls = c' := ⟨_, rfl⟩
  obtain ⟨l', hl'⟩ : ∃ c' : Nat, t'.ln = c' := ⟨_, rfl⟩
  obtain ⟨x', hx'⟩ : ∃ c', str t'.txt = c' := ⟨_, rfl⟩
  unfold tokV at NX
  rw [hc', hl', hx'] at NX ⊢
  have k2 : w1.cell? ⟨b, 2, none⟩ = some (.int .i64 c) := Full.cell h1 2
  have k3 : w1.cell? ⟨b, 3, none⟩ = some (.string tx) := Full.cell h1 3
  have k4 : w1.cell? ⟨b, 4, none⟩ = some (.int .i64 tl) := Full.cell h1 4
  obtain ⟨r, hr⟩ : ∃ r, w.heap.size = r := ⟨_, rfl⟩
  obtain ⟨u, hu⟩ : ∃ u, w1.heap.size = u := ⟨_, rfl⟩
  have hbr : b < r := by rw [← hr]; exact h.lt
  have hru : r < u := by omega
  rw [hr] at F2r
  rw [hu] at F2u
  have HF := Lib.hid (And.intro F2u F2r)
  have HB := Lib.hid (show Turn (fun g => g = b) w w2 from (Turn.of hb1).trans_ (Turn.of hb2))
  clear F1 F2u F2r h1 h2 hb1 hb2 h s1 hnx hc' hl' hx' ha
  go_enter Tryz.func112, Tryz.ntmps112
  go_upto_region 2 with fail
  clear hw1 k2 k3 k4
  go_upto_region 3 with (first
    | (go_at_call 73; ((with_reducible refine NX.out.mono ?_); rintro en w3 ⟨rfl, hS3, hT3⟩; (obtain ⟨⟨v0, v0f⟩, ⟨v1, v1f⟩, ⟨v2, v2f⟩, hP⟩ := Pm.ahead (w := w3) (b := b) (s := str rest') (n := n') (c := c) (tx := tx) (tl := tl) (e := e) (el := el) (R := R) hS3 (c' : Int) x' (l' : Int))))
    | (fail "arm"))
  obtain ⟨w4, hw4⟩ : ∃ w4, ((w3.setCell ⟨b, 2, none⟩ (.int .i64 (c' : Int))).setCell ⟨b, 3, none⟩ (.string x')).setCell ⟨b, 4, none⟩ (.int .i64 (l' : Int)) = w4 := ⟨_, rfl⟩
  have far3 : ∀ {g : Nat} {t : TypeId} {cs : List Value}, Full w3 g t cs → g ≠ b → Full w4 g t cs := fun F hg => by
    rw [← hw4]
    exact ((F.far (p := ⟨b, 2, none⟩) hg _).far (p := ⟨b, 3, none⟩) hg _).far (p := ⟨b, 4, none⟩) hg _
  have F4u := far3 (hT3.far HF.out.1 (by omega)) (by omega)
  have F4r := far3 (hT3.far HF.out.2 (by omega)) (by omega)
  have hT4 : Turn (fun g => g = b) w w4 := by
    rw [← hw4]
    exact (((HB.out.trans_ hT3).setb rfl 2 _).setb rfl 3 _).setb rfl 4 _
  rw [hw4] at hP ⊢
  have u0 : w4.cell? ⟨u, 0, none⟩ = some (.int .i64 c) := F4u.cell 0
  have u1 : w4.cell? ⟨u, 1, none⟩ = some (.string tx) := F4u.cell 1
  have u2 : w4.cell? ⟨u, 2, none⟩ = some (.int .i64 tl) := F4u.cell 2
  obtain ⟨⟨y0, y0f⟩, ⟨y1, y1f⟩, ⟨y2, y2f⟩, F6⟩ := store3 F4r (.int .i64 c) (.string tx) (.int .i64 tl)
  have HT6 := Lib.hid (Turn.set3 (r := r) hT4 (by omega) (.int .i64 c) (.string tx) (.int .i64 tl))
  obtain ⟨w8, hw8⟩ : ∃ w8, ((w4.setCell ⟨r, 0, none⟩ (.int .i64 c)).setCell ⟨r, 1, none⟩ (.string tx)).setCell ⟨r, 2, none⟩ (.int .i64 tl) = w8 := ⟨_, rfl⟩
  have hP8 : Pm w8 b (str rest') n' (c' : Int) x' (l' : Int) e el R := by
    rw [← hw8]
    exact ((Full.far hP (p := ⟨r, 0, none⟩) (by show b ≠ r; omega) _).far (p := ⟨r, 1, none⟩) (by show b ≠ r; omega) _).far (p := ⟨r, 2, none⟩) (by show b ≠ r; omega) _
  have HP8 := Lib.hid hP8
  rw [hw8] at F6 HT6
  have q0 : w8.cell? ⟨r, 0, none⟩ = some (.int .i64 c) := F6.cell 0
  have q1 : w8.cell? ⟨r, 1, none⟩ = some (.string tx) := F6.cell 1
  have q2 : w8.cell? ⟨r, 2, none⟩ = some (.int .i64 tl) := F6.cell 2
  clear hw4 far3 F4u F4r hT4 F6 hP8 hP hS3 hT3 HF HB v0 v0f v1 v1f v2 v2f hr hu NX
  go_wp2
  refine bodyPost_ret (v := .agg #[.int .i64 c, .string tx, .int .i64 tl]) (by simp [results, Tryz.results112, go_sem, q0, q1, q2]) rfl ?_
  exact ⟨rfl, HP8.out, HT6.out⟩
/-- what an error leaves -/
def failE (e : Int) (code : Int) : Int := if e = 0 then code else e
def failL (e el line : Int) : Int := if e = 0 then line else el
def FailOut (w : World) (b : Nat) (s : ByteArray) (n : Nat) (e el : Int) (R : List Value) (en : Ending) (w' : World) : Prop :=
  en = .returned (.tuple #[]) ∧ Pm w' b s n 0 ⟨#[]⟩ 0 e el R ∧ Turn (fun g => g = b) w w'
theorem fail_pm {w : World} {b : Nat} {s : ByteArray} {n : Nat} {c : Int} {tx : ByteArray} {tl e el : Int} {R : List Value} (h : Pm w b s n c tx tl e el R) (line code : Int) :
    Calls Tryz.prog 116 #[.pointer (some ⟨b, 0, none⟩), .int .i64 line, .int .i64 code] w (FailOut w b s n (failE e code) (failL e el line) R) := by
  unfold FailOut failE failL
  have F : Full w b 95 _ := h
  have k5 : w.cell? ⟨b, 5, none⟩ = some (.int .i64 e) := F.cell 5
  by_cases he : e = 0
  · subst he
    rw [if_pos rfl, if_pos rfl]
    have k6 : w.cell? ⟨b, 6, none⟩ = some (.int .i64 el) := F.cell 6
    have k6f := F.frozen 6
    have F1 := F.set_ 6 (.int .i64 line)
    have k5' : (w.setCell ⟨b, 6, none⟩ (.int .i64 line)).cell? ⟨b, 5, none⟩ = some (.int .i64 0) := F1.cell 5
    have k5f := F1.frozen 5
    have h2 : Pm ((w.setCell ⟨b, 6, none⟩ (.int .i64 line)).setCell ⟨b, 5, none⟩ (.int .i64 code)) b s n c tx tl code line R := F1.set_ 5 (.int .i64 code)
    obtain ⟨⟨v0, v0f⟩, ⟨v1, v1f⟩, ⟨v2, v2f⟩, hP⟩ := h2.ahead 0 ⟨#[]⟩ 0
    have HP := Lib.hid hP
    have HT := Lib.hid ((((((Turn.refl (fun g => g = b) w).setb rfl 6 (.int .i64 line)).setb rfl 5 (.int .i64 code)).setb rfl 2 (.int .i64 0)).setb rfl 3 (.string ⟨#[]⟩)).setb rfl 4 (.int .i64 0))
    clear F F1 h2 hP h
    go_enter Tryz.func116, Tryz.ntmps116
    go_wp2
    go_end0
    exact ⟨rfl, HP.out, HT.out⟩
  · rw [if_neg he, if_neg he]
    obtain ⟨⟨v0, v0f⟩, ⟨v1, v1f⟩, ⟨v2, v2f⟩, hP⟩ := h.ahead 0 ⟨#[]⟩ 0
    have HP := Lib.hid hP
    have HT := Lib.hid ((((Turn.refl (fun g => g = b) w).setb rfl 2 (.int .i64 0)).setb rfl 3 (.string ⟨#[]⟩)).setb rfl 4 (.int .i64 0))
    have he0 : (e == 0) = false := by simpa using he
    clear F hP h he
    go_enter Tryz.func116, Tryz.ntmps116
    go_wp2
    go_end0
    exact ⟨rfl, HP.out, HT.out⟩
theorem refuse_pm {w : World} {b : Nat} {s : ByteArray} {n : Nat} {c : Int} {tx : ByteArray} {tl e el : Int} {R : List Value} (h : Pm w b s n c tx tl e el R) :
    Calls Tryz.prog 104 #[.pointer (some ⟨b, 0, none⟩)] w (FailOut w b s n (failE e 40) (failL e el tl) R) := by
  have FL := Lib.hid (fail_pm h tl 40)
  unfold FailOut at FL ⊢
  have k4 : w.cell? ⟨b, 4, none⟩ = some (.int .i64 tl) := Full.cell h 4
  clear h
  go_enter Tryz.func104, Tryz.ntmps104
  go_wp2_with (first
    | (go_at_call 116; ((with_reducible refine FL.out.mono ?_); rintro en w1 ⟨rfl, hP, hT⟩))
    | (fail "arm"))
  go_end0
  exact ⟨rfl, hP, hT⟩
end Go.Proofs.YtcjoiiaankngjaaGreatDoor
