/- Slices that hold a list of cells, nil or not; their windows; append. -/
import Derived.Test.YtmeoannheomdoaaRows
import Derived.Test.YtmeoannheomdoaaAlign
import Derived.WalkKit
import Derived.WalkSpells
import Derived.WalkLawsBesides
import Derived.Below
import Derived.Lib.Hide
import Derived.Lib.AppendStr
import Derived.Lib.IndexBytes
import Derived.Laws.AppendOwnNone
import Derived.Maps.AppendAt
import Derived.Deep.AppendLies
import Derived.Deep.OwnRows
import Derived.Deep.RegionHeld3
import Derived.Deep.RegionWith
import Derived.Deep.QuietTactic
import Derived.BigQuiet
import Derived.BigRegion
namespace Go.Proofs.Ytmeoannheomdoaa
open Go.RowKit

theorem ret_int {k : IntKind} {a b : Int} (h : a = b) : Ending.returned (.int k a) = .returned (.int k b) := by rw [h]
theorem ret_bool {a b : Bool} (h : a = b) : Ending.returned (.bool a) = .returned (.bool b) := by rw [h]
theorem add_block (a : Addr) (n : Nat) : (a.add n).block = a.block := by unfold Addr.add; split <;> rfl
theorem add_twice (a : Addr) (i j : Nat) : (a.add i).add j = a.add (i + j) := by
  unfold Addr.add
  by_cases hi : i = 0 <;> by_cases hj : j = 0 <;> simp [hi, hj, Nat.add_assoc]

/-- The slice with the pointer A, the length n and the capacity c holds the cells xs (size for each element), in a block below B. -/
def Row (w : World) (B size : Nat) (A : Option Addr) (n c : Nat) (xs : List Value) : Prop :=
  xs.length = n * size ∧ n ≤ c ∧ (A = none → c = 0) ∧ ∀ j u, xs[j]? = some u → ∃ ad, A = some ad ∧ ad.block < B ∧ w.cell? (ad.add j) = some u

section
variable {w w' : World} {B B' size n c : Nat} {A : Option Addr} {xs : List Value}
theorem Row.keep (h : Row w B size A n c xs) (hk : ∀ p : Addr, p.block < B → w'.cell? p = w.cell? p) : Row w' B size A n c xs :=
  ⟨h.1, h.2.1, h.2.2.1, fun j u hj => by
    obtain ⟨ad, e, hlt, hc⟩ := h.2.2.2 j u hj
    exact ⟨ad, e, hlt, (hk _ (by rw [add_block]; exact hlt)).trans hc⟩⟩
theorem Row.more (h : Row w B size A n c xs) (hB : B ≤ B') : Row w B' size A n c xs :=
  ⟨h.1, h.2.1, h.2.2.1, fun j u hj => by
    obtain ⟨ad, e, hlt, hc⟩ := h.2.2.2 j u hj
    exact ⟨ad, e, by omega, hc⟩⟩
theorem Row.below (h : Row w B size A n c xs) (hb : Below B' w w') (hB : B ≤ B') : Row w' B size A n c xs := h.keep fun _ hp => hb.cell (by omega)
theorem Row.on (h : Row w w.heap.size size A n c xs) (hb : Below w.heap.size w w') : Row w' w'.heap.size size A n c xs := (h.below hb (Nat.le_refl _)).more hb.size
theorem Row.drewN (h : Row w B size A n c xs) (k : Nat) : Row (w.drewN k) B size A n c xs := h
theorem Row.drew (h : Row w B size A n c xs) : Row w.drew B size A n c xs := h
theorem Row.alloc (h : Row w B size A n c xs) (hB : B ≤ w.heap.size) (o : Obj) : Row (w.alloc o) B size A n c xs := h.keep fun p hp => World.cell?_alloc_lt w o p (by omega)
theorem Row.setCell (h : Row w B size A n c xs) {p : Addr} (hB : B ≤ p.block) (u : Value) : Row (w.setCell p u) B size A n c xs :=
  h.keep fun q hq => World.cell?_setCell_other w p q u (fun e => by subst e; omega)
theorem Row.empty (w : World) (B size : Nat) : Row w B size none 0 0 [] := ⟨by simp, Nat.le_refl _, fun _ => rfl, fun j u hj => by simp at hj⟩
theorem Row.own {base : Nat} {e : TypeId} (h : w.ownsRow base e size (.slice A n c) n xs) : Row w w.heap.size size A n c xs := by
  have hl := h.1
  rcases h.2 with ⟨hv, h0⟩ | ⟨g, cap, cur, hv, _, hg, hle, _⟩
  · injection hv with h1 h2 h3
    subst h1 h2 h3
    have hx : xs = [] := List.eq_nil_of_length_eq_zero (by simpa using hl)
    subst hx
    exact Row.empty _ _ _
  · injection hv with h1 h2 h3
    subst h1 h3
    refine ⟨hl, by omega, fun h => (by cases h), fun j u hj => ⟨_, rfl, (Array.getElem?_eq_some_iff.1 hg).1, h.cells (g := g) rfl j u hj⟩⟩
/-- a part of a slice -/
theorem Row.part (h : Row w B size A n c xs) {l k m : Nat} (h1 : l ≤ k) (h2 : k ≤ n) (h3 : n ≤ m) (h4 : m ≤ c) :
    Row w B size (if m = l then A else A.map (·.add (l * size))) (k - l) (m - l) ((xs.drop (l * size)).take ((k - l) * size)) := by
  refine ⟨?_, by omega, fun e => ?_, fun j u hj => ?_⟩
  · rw [List.length_take, List.length_drop, h.1, ← Nat.sub_mul]
    exact Nat.min_eq_left (Nat.mul_le_mul_right _ (by omega))
  · split at e
    · omega
    · have : A = none := by simpa using e
      have := h.2.2.1 this
      omega
  · have hlt : j < (k - l) * size := by
      have := (List.getElem?_eq_some_iff.1 hj).1
      rw [List.length_take] at this
      omega
    have hkl : l < k := by
      rcases Nat.lt_or_ge l k with h | h
      · exact h
      · rw [Nat.sub_eq_zero_of_le h, Nat.zero_mul] at hlt; omega
    rw [List.getElem?_take_of_lt hlt, List.getElem?_drop] at hj
    obtain ⟨ad, rfl, hb, hc⟩ := h.2.2.2 _ u hj
    rw [if_neg (by omega)]
    exact ⟨_, rfl, by rw [add_block]; exact hb, by rw [add_twice]; exact hc⟩
end

/-- s[l:k], s[l:], s[:k]: the pointer behind it gets a name. -/
theorem cut_lh (t e : TypeId) (size : Nat) (ht : Try.prog.underlying t = some (.slice e)) (hz : ∀ W, (Go.sizeOf e).run Try.prog W = .ok size W) (A : Option Addr) (n c l k : Nat) (h1 : l ≤ k) (h2 : k ≤ n) (h3 : n ≤ c) :
    ∃ A', (∀ W, (Instr.slice t (.slice A n c) (some (.int .i64 (l : Int))) (some (.int .i64 (k : Int))) none).run Try.prog W = .ok (.slice A' (k - l) (c - l)) W) ∧
      ∀ w B xs, Row w B size A n c xs → Row w B size A' (k - l) (c - l) ((xs.drop (l * size)).take ((k - l) * size)) := by
  have he : Try.prog.elem t = e := by simp [Program.elem, ht]
  refine ⟨if c = l then A else A.map (·.add (l * size)), fun W => ?_, fun w B xs h => h.part h1 h2 h3 (Nat.le_refl _)⟩
  rw [run_slice_lh W t A n c (by rw [he]; exact ht) _ _ _ _ (by omega) (by omega) (by omega), he, hz]
  rfl
theorem cut_l (t e : TypeId) (size : Nat) (ht : Try.prog.underlying t = some (.slice e)) (hz : ∀ W, (Go.sizeOf e).run Try.prog W = .ok size W) (A : Option Addr) (n c l : Nat) (h1 : l ≤ n) (h3 : n ≤ c) :
    ∃ A', (∀ W, (Instr.slice t (.slice A n c) (some (.int .i64 (l : Int))) none none).run Try.prog W = .ok (.slice A' (n - l) (c - l)) W) ∧
      ∀ w B xs, Row w B size A n c xs → Row w B size A' (n - l) (c - l) (xs.drop (l * size)) := by
  have he : Try.prog.elem t = e := by simp [Program.elem, ht]
  refine ⟨if c = l then A else A.map (·.add (l * size)), fun W => ?_, fun w B xs h => ?_⟩
  · rw [run_slice_l W t A n c (by rw [he]; exact ht) _ _ (by omega) (by omega), he, hz]
    rfl
  · have := h.part h1 (Nat.le_refl _) h3 (Nat.le_refl _)
    rwa [List.take_of_length_le (by rw [List.length_drop, h.1, Nat.sub_mul]; exact Nat.le_refl _)] at this
theorem cut_h (t e : TypeId) (size : Nat) (ht : Try.prog.underlying t = some (.slice e)) (hz : ∀ W, (Go.sizeOf e).run Try.prog W = .ok size W) (A : Option Addr) (n c k : Nat) (h2 : k ≤ n) (h3 : n ≤ c) :
    ∃ A', (∀ W, (Instr.slice t (.slice A n c) none (some (.int .i64 (k : Int))) none).run Try.prog W = .ok (.slice A' k c) W) ∧
      ∀ w B xs, Row w B size A n c xs → Row w B size A' k c (xs.take (k * size)) := by
  have he : Try.prog.elem t = e := by simp [Program.elem, ht]
  refine ⟨if c = 0 then A else A.map (·.add (0 * size)), fun W => ?_, fun w B xs h => ?_⟩
  · rw [run_slice_h W t A n c (by rw [he]; exact ht) _ _ (by omega) (by omega), he, hz]
    rfl
  · have := h.part (Nat.zero_le k) h2 h3 (Nat.le_refl _)
    simpa using this

theorem own_form {w : World} {base size : Nat} {e : TypeId} {v : Value} {n : Nat} {xs : List Value} (h : w.ownsRow base e size v n xs) : ∃ A c, v = .slice A n c := by
  rcases h.2 with ⟨rfl, rfl⟩ | ⟨g, cap, _, rfl, _⟩
  · exact ⟨_, _, rfl⟩
  · exact ⟨_, _, rfl⟩
theorem row_ge {w : World} {base : Nat} {e : TypeId} {size n : Nat} {v : Value} {xs : List Value} (h : w.ownsRow base e size v n xs) : ∀ j, v.ownBlock = some j → base ≤ j := fun j ej => by
  rcases h.2 with ⟨h0, _⟩ | ⟨g, cap, cur, h0, hbg, _⟩
  · rw [h0] at ej; simp [Value.ownBlock] at ej
  · rw [h0] at ej
    obtain rfl : g = j := by simpa [Value.ownBlock] using ej
    exact hbg
theorem own_keep {w w' : World} {base : Nat} {e : TypeId} {size n : Nat} {v : Value} {xs : List Value} (h : w.ownsRow base e size v n xs) (hb : Below w.heap.size w w') : w'.ownsRow base e size v n xs := by
  refine ⟨h.1, ?_⟩
  rcases h.2 with h0 | ⟨g, cap, cur, hv, hg, hh, h3⟩
  · exact .inl h0
  · exact .inr ⟨g, cap, cur, hv, hg, (hb.block g (Array.getElem?_eq_some_iff.1 hh).1).trans hh, h3⟩
theorem Below.drewN_ {B : Nat} {a w : World} (h : Below B a w) (n : Nat) : Below B a (w.drewN n) := ⟨h.os, h.tape, h.output, h.size, h.block⟩
theorem Below.then_ {a b c : World} (h : Below a.heap.size a b) (k : Below b.heap.size b c) : Below a.heap.size a c := h.trans (k.mono h.size)

def strC (L : List ByteArray) : List Value := L.map Value.string
def natC (l : List Nat) : List Value := l.map fun k : Nat => Value.int .i64 (k : Int)
def boolC (l : List Bool) : List Value := l.map Value.bool
def hkC (h : Hk) : List Value := [.int .i64 (h.a0 : Int), .int .i64 (h.a1 : Int), .int .i64 (h.b0 : Int), .int .i64 (h.b1 : Int)]
def hksC (l : List Hk) : List Value := l.flatMap hkC
def spC (s : Nat × Nat) : List Value := [.int .i64 (s.1 : Int), .int .i64 (s.2 : Int)]
def spsC (l : List (Nat × Nat)) : List Value := l.flatMap spC
/-- the slice holds the strings L -/
def Strs (w : World) (B : Nat) (A : Option Addr) (c : Nat) (L : List ByteArray) : Prop := Row w B 1 A L.length c (strC L)
def Hks (w : World) (B : Nat) (A : Option Addr) (c : Nat) (L : List Hk) : Prop := Row w B 4 A L.length c (hksC L)
def Sps (w : World) (B : Nat) (A : Option Addr) (c : Nat) (L : List (Nat × Nat)) : Prop := Row w B 2 A L.length c (spsC L)

theorem flat_len {α : Type} (f : α → List Value) (s : Nat) (hf : ∀ x, (f x).length = s) : ∀ l : List α, (l.flatMap f).length = l.length * s
  | [] => by simp
  | x :: l => by rw [List.flatMap_cons, List.length_append, hf, flat_len f s hf l, List.length_cons, Nat.succ_mul, Nat.add_comm]
theorem flat_drop {α : Type} (f : α → List Value) (s : Nat) (hf : ∀ x, (f x).length = s) : ∀ (l : List α) (k : Nat), (l.flatMap f).drop (k * s) = (l.drop k).flatMap f
  | l, 0 => by simp
  | [], k + 1 => by simp
  | x :: l, k + 1 => by
    rw [List.flatMap_cons, List.drop_succ_cons, ← flat_drop f s hf l k, Nat.succ_mul, Nat.add_comm, ← List.drop_drop, List.drop_left' (hf x)]
theorem flat_take {α : Type} (f : α → List Value) (s : Nat) (hf : ∀ x, (f x).length = s) : ∀ (l : List α) (k : Nat), (l.flatMap f).take (k * s) = (l.take k).flatMap f
  | l, 0 => by simp
  | [], k + 1 => by simp
  | x :: l, k + 1 => by
    rw [List.flatMap_cons, List.take_succ_cons, List.flatMap_cons, ← flat_take f s hf l k, Nat.succ_mul, Nat.add_comm, List.take_add, List.take_left' (hf x), List.drop_left' (hf x)]
theorem flat_at {α : Type} (f : α → List Value) (s : Nat) (hf : ∀ x, (f x).length = s) (l : List α) (k j : Nat) (hk : k < l.length) (hj : j < s) : (l.flatMap f)[k * s + j]? = (f l[k])[j]? := by
  have h1 := flat_drop f s hf l k
  rw [List.drop_eq_getElem_cons hk, List.flatMap_cons] at h1
  rw [← List.getElem?_drop, h1, List.getElem?_append_left (by rw [hf]; exact hj)]
theorem hkC_len (h : Hk) : (hkC h).length = 4 := rfl
theorem spC_len (s : Nat × Nat) : (spC s).length = 2 := rfl

section
variable {w w' : World} {B c : Nat} {A : Option Addr} {L : List ByteArray}
theorem Strs.at_ (h : Strs w B A c L) {k : Nat} (hk : k < L.length) : ∃ ad, A = some ad ∧ ad.block < B ∧ w.cell? (ad.add k) = some (.string L[k]) :=
  h.2.2.2 k _ (by unfold strC; rw [List.getElem?_map, List.getElem?_eq_getElem hk]; rfl)
theorem Strs.cap (h : Strs w B A c L) : L.length ≤ c := h.2.1
theorem Strs.nil_ (h : Strs w B A c L) : A = none → c = 0 := h.2.2.1
theorem Strs.own {base n : Nat} (h : w.ownsRow base 9 1 (.slice A n c) n (strC L)) : n = L.length ∧ Strs w w.heap.size A c L := by
  have h0 := h.1
  have : n = L.length := by simpa [strC] using h0.symm
  subst this
  exact ⟨rfl, Row.own h⟩
theorem strC_win (L : List ByteArray) (l k : Nat) : ((strC L).drop (l * 1)).take ((k - l) * 1) = strC ((L.drop l).take (k - l)) := by
  unfold strC; rw [Nat.mul_one, Nat.mul_one, List.map_take, List.map_drop]
theorem strC_drop (L : List ByteArray) (l : Nat) : (strC L).drop (l * 1) = strC (L.drop l) := by
  unfold strC; rw [Nat.mul_one, List.map_drop]
end

/-- parts of a slice of strings -/
theorem strs_lh (A : Option Addr) (L : List ByteArray) (c l k : Nat) (h1 : l ≤ k) (h2 : k ≤ L.length) (h3 : L.length ≤ c) :
    ∃ A', (∀ W, (Instr.slice 23 (.slice A L.length c) (some (.int .i64 (l : Int))) (some (.int .i64 (k : Int))) none).run Try.prog W = .ok (.slice A' (k - l) (c - l)) W) ∧
      ((L.drop l).take (k - l)).length = k - l ∧ ∀ w B, Strs w B A c L → Strs w B A' (c - l) ((L.drop l).take (k - l)) := by
  obtain ⟨A', hr, h⟩ := cut_lh 23 9 1 Try.underlying23 (fun _ => by kernel_rfl) A L.length c l k h1 h2 h3
  have hl : ((L.drop l).take (k - l)).length = k - l := by simp; omega
  refine ⟨A', hr, hl, fun w B hS => ?_⟩
  have := h w B _ hS
  rw [strC_win] at this
  unfold Strs
  rw [hl]
  exact this
theorem strs_l (A : Option Addr) (L : List ByteArray) (c l : Nat) (h2 : l ≤ L.length) (h3 : L.length ≤ c) :
    ∃ A', (∀ W, (Instr.slice 23 (.slice A L.length c) (some (.int .i64 (l : Int))) none none).run Try.prog W = .ok (.slice A' (L.length - l) (c - l)) W) ∧
      (L.drop l).length = L.length - l ∧ ∀ w B, Strs w B A c L → Strs w B A' (c - l) (L.drop l) := by
  obtain ⟨A', hr, h⟩ := cut_l 23 9 1 Try.underlying23 (fun _ => by kernel_rfl) A L.length c l h2 h3
  refine ⟨A', hr, List.length_drop, fun w B hS => ?_⟩
  have := h w B _ hS
  rw [strC_drop] at this
  unfold Strs
  rw [List.length_drop]
  exact this

/-- append of a slice of strings that may be nil -/
theorem info9 : (Try.prog.info? 9).map (fun i => (i.zero, i.size, i.bytes)) = some (some (.string ⟨#[]⟩), 1, 16) := by kernel_rfl
theorem info40 : (Try.prog.info? 40).map (fun i => (i.zero, i.size, i.bytes)) = some (some (.agg #[.int .i64 0, .int .i64 0, .int .i64 0, .int .i64 0]), 4, 32) := by kernel_rfl
theorem info55 : (Try.prog.info? 55).map (fun i => (i.zero, i.size, i.bytes)) = some (some (.agg #[.int .i64 0, .int .i64 0]), 2, 16) := by kernel_rfl
theorem info3 : (Try.prog.info? 3).map (fun i => (i.zero, i.size, i.bytes)) = some (some (.int .i64 0), 1, 8) := by kernel_rfl
theorem info4 : (Try.prog.info? 4).map (fun i => (i.zero, i.size, i.bytes)) = some (some (.bool false), 1, 1) := by kernel_rfl

end Go.Proofs.Ytmeoannheomdoaa
