/- What all texts of this seat share: slices that hold a list of cells, whole blocks, the table of classes, from a walk to a law's row. -/
import Derived.Test.YtiikbekboapphaaRows
import Derived.WalkKit
import Derived.ProofKit
import Derived.OpenShut
import Derived.Carry
import Derived.SliceStrings
import Derived.Lib.SmallJoins
import Derived.Laws.MakeOwn
import Derived.WalkSpells
import Derived.WalkLawsBesides
import Derived.Below
import Derived.Lib.Hide
import Derived.Lib.AppendStr
import Derived.Lib.IndexBytes
import Derived.Laws.AppendOwnNone
import Derived.Maps.AppendAt
import Derived.Deep.AppendLies
import Derived.Deep.OwnRows
import Derived.Deep.RegionHeld3
import Derived.Deep.RegionWith
import Derived.Deep.QuietTactic
import Derived.BigQuiet
import Derived.BigRegion
namespace Go.Proofs.Ytiikbekboapphaa
set_option maxRecDepth 100000
open Go.ChangeShapes Go.WideShapes Go.ChangeAt Go.RowKit

theorem ret_int {k : IntKind} {a b : Int} (h : a = b) : Ending.returned (.int k a) = .returned (.int k b) := by rw [h]
theorem ret_bool {a b : Bool} (h : a = b) : Ending.returned (.bool a) = .returned (.bool b) := by rw [h]
theorem add_block (a : Addr) (n : Nat) : (a.add n).block = a.block := by unfold Addr.add; split <;> rfl
theorem add_twice (a : Addr) (i j : Nat) : (a.add i).add j = a.add (i + j) := by
  unfold Addr.add
  by_cases hi : i = 0 <;> by_cases hj : j = 0 <;> simp [hi, hj, Nat.add_assoc]

/-- The slice with the pointer A, the length n and the capacity c holds the cells xs (size for each element), in a block below B. -/
def Row (w : World) (B size : Nat) (A : Option Addr) (n c : Nat) (xs : List Value) : Prop :=
  xs.length = n * size ∧ n ≤ c ∧ (A = none → c = 0) ∧ ∀ j u, xs[j]? = some u → ∃ ad, A = some ad ∧ ad.block < B ∧ w.cell? (ad.add j) = some u

section
variable {w w' : World} {B B' size n c : Nat} {A : Option Addr} {xs : List Value}
theorem Row.keep (h : Row w B size A n c xs) (hk : ∀ p : Addr, p.block < B → w'.cell? p = w.cell? p) : Row w' B size A n c xs :=
  ⟨h.1, h.2.1, h.2.2.1, fun j u hj => by
    obtain ⟨ad, e, hlt, hc⟩ := h.2.2.2 j u hj
    exact ⟨ad, e, hlt, (hk _ (by rw [add_block]; exact hlt)).trans hc⟩⟩
theorem Row.more (h : Row w B size A n c xs) (hB : B ≤ B') : Row w B' size A n c xs :=
  ⟨h.1, h.2.1, h.2.2.1, fun j u hj => by
    obtain ⟨ad, e, hlt, hc⟩ := h.2.2.2 j u hj
    exact ⟨ad, e, by omega, hc⟩⟩
theorem Row.below (h : Row w B size A n c xs) (hb : Below B' w w') (hB : B ≤ B') : Row w' B size A n c xs := h.keep fun _ hp => hb.cell (by omega)
theorem Row.on (h : Row w w.heap.size size A n c xs) (hb : Below w.heap.size w w') : Row w' w'.heap.size size A n c xs := (h.below hb (Nat.le_refl _)).more hb.size
theorem Row.drewN (h : Row w B size A n c xs) (k : Nat) : Row (w.drewN k) B size A n c xs := h
theorem Row.drew (h : Row w B size A n c xs) : Row w.drew B size A n c xs := h
theorem Row.alloc (h : Row w B size A n c xs) (hB : B ≤ w.heap.size) (o : Obj) : Row (w.alloc o) B size A n c xs := h.keep fun p hp => World.cell?_alloc_lt w o p (by omega)
theorem Row.setCell (h : Row w B size A n c xs) {p : Addr} (hB : B ≤ p.block) (u : Value) : Row (w.setCell p u) B size A n c xs :=
  h.keep fun q hq => World.cell?_setCell_other w p q u (fun e => by subst e; omega)
theorem Row.empty (w : World) (B size : Nat) : Row w B size none 0 0 [] := ⟨by simp, Nat.le_refl _, fun _ => rfl, fun j u hj => by simp at hj⟩
theorem Row.own {base : Nat} {e : TypeId} (h : w.ownsRow base e size (.slice A n c) n xs) : Row w w.heap.size size A n c xs := by
  have hl := h.1
  rcases h.2 with ⟨hv, h0⟩ | ⟨g, cap, cur, hv, _, hg, hle, _⟩
  · injection hv with h1 h2 h3
    subst h1 h2 h3
    have hx : xs = [] := List.eq_nil_of_length_eq_zero (by simpa using hl)
    subst hx
    exact Row.empty _ _ _
  · injection hv with h1 h2 h3
    subst h1 h3
    refine ⟨hl, by omega, fun h => (by cases h), fun j u hj => ⟨_, rfl, (Array.getElem?_eq_some_iff.1 hg).1, h.cells (g := g) rfl j u hj⟩⟩
/-- a part of a slice -/
theorem Row.part (h : Row w B size A n c xs) {l k m : Nat} (h1 : l ≤ k) (h2 : k ≤ n) (h3 : n ≤ m) (h4 : m ≤ c) :
    Row w B size (if m = l then A else A.map (·.add (l * size))) (k - l) (m - l) ((xs.drop (l * size)).take ((k - l) * size)) := by
  refine ⟨?_, by omega, fun e => ?_, fun j u hj => ?_⟩
  · rw [List.length_take, List.length_drop, h.1, ← Nat.sub_mul]
    exact Nat.min_eq_left (Nat.mul_le_mul_right _ (by omega))
  · split at e
    · omega
    · have : A = none := by simpa using e
      have := h.2.2.1 this
      omega
  · have hlt : j < (k - l) * size := by
      have := (List.getElem?_eq_some_iff.1 hj).1
      rw [List.length_take] at this
      omega
    have hkl : l < k := by
      rcases Nat.lt_or_ge l k with h | h
      · exact h
      · rw [Nat.sub_eq_zero_of_le h, Nat.zero_mul] at hlt; omega
    rw [List.getElem?_take_of_lt hlt, List.getElem?_drop] at hj
    obtain ⟨ad, rfl, hb, hc⟩ := h.2.2.2 _ u hj
    rw [if_neg (by omega)]
    exact ⟨_, rfl, by rw [add_block]; exact hb, by rw [add_twice]; exact hc⟩
end

/-- s[l:k], s[l:], s[:k]: the pointer behind it gets a name. -/
theorem cut_lh (t e : TypeId) (size : Nat) (ht : Try.prog.underlying t = some (.slice e)) (hz : ∀ W, (Go.sizeOf e).run Try.prog W = .ok size W) (A : Option Addr) (n c l k : Nat) (h1 : l ≤ k) (h2 : k ≤ n) (h3 : n ≤ c) :
    ∃ A', (∀ W, (Instr.slice t (.slice A n c) (some (.int .i64 (l : Int))) (some (.int .i64 (k : Int))) none).run Try.prog W = .ok (.slice A' (k - l) (c - l)) W) ∧
      ∀ w B xs, Row w B size A n c xs → Row w B size A' (k - l) (c - l) ((xs.drop (l * size)).take ((k - l) * size)) := by
  have he : Try.prog.elem t = e := by simp [Program.elem, ht]
  refine ⟨if c = l then A else A.map (·.add (l * size)), fun W => ?_, fun w B xs h => h.part h1 h2 h3 (Nat.le_refl _)⟩
  rw [run_slice_lh W t A n c (by rw [he]; exact ht) _ _ _ _ (by omega) (by omega) (by omega), he, hz]
  rfl
theorem cut_l (t e : TypeId) (size : Nat) (ht : Try.prog.underlying t = some (.slice e)) (hz : ∀ W, (Go.sizeOf e).run Try.prog W = .ok size W) (A : Option Addr) (n c l : Nat) (h1 : l ≤ n) (h3 : n ≤ c) :
    ∃ A', (∀ W, (Instr.slice t (.slice A n c) (some (.int .i64 (l : Int))) none none).run Try.prog W = .ok (.slice A' (n - l) (c - l)) W) ∧
      ∀ w B xs, Row w B size A n c xs → Row w B size A' (n - l) (c - l) (xs.drop (l * size)) := by
  have he : Try.prog.elem t = e := by simp [Program.elem, ht]
  refine ⟨if c = l then A else A.map (·.add (l * size)), fun W => ?_, fun w B xs h => ?_⟩
  · rw [run_slice_l W t A n c (by rw [he]; exact ht) _ _ (by omega) (by omega), he, hz]
    rfl
  · have := h.part h1 (Nat.le_refl _) h3 (Nat.le_refl _)
    rwa [List.take_of_length_le (by rw [List.length_drop, h.1, Nat.sub_mul]; exact Nat.le_refl _)] at this
theorem cut_h (t e : TypeId) (size : Nat) (ht : Try.prog.underlying t = some (.slice e)) (hz : ∀ W, (Go.sizeOf e).run Try.prog W = .ok size W) (A : Option Addr) (n c k : Nat) (h2 : k ≤ n) (h3 : n ≤ c) :
    ∃ A', (∀ W, (Instr.slice t (.slice A n c) none (some (.int .i64 (k : Int))) none).run Try.prog W = .ok (.slice A' k c) W) ∧
      ∀ w B xs, Row w B size A n c xs → Row w B size A' k c (xs.take (k * size)) := by
  have he : Try.prog.elem t = e := by simp [Program.elem, ht]
  refine ⟨if c = 0 then A else A.map (·.add (0 * size)), fun W => ?_, fun w B xs h => ?_⟩
  · rw [run_slice_h W t A n c (by rw [he]; exact ht) _ _ (by omega) (by omega), he, hz]
    rfl
  · have := h.part (Nat.zero_le k) h2 h3 (Nat.le_refl _)
    simpa using this

theorem own_form {w : World} {base size : Nat} {e : TypeId} {v : Value} {n : Nat} {xs : List Value} (h : w.ownsRow base e size v n xs) : ∃ A c, v = .slice A n c := by
  rcases h.2 with ⟨rfl, rfl⟩ | ⟨g, cap, _, rfl, _⟩
  · exact ⟨_, _, rfl⟩
  · exact ⟨_, _, rfl⟩
theorem row_ge {w : World} {base : Nat} {e : TypeId} {size n : Nat} {v : Value} {xs : List Value} (h : w.ownsRow base e size v n xs) : ∀ j, v.ownBlock = some j → base ≤ j := fun j ej => by
  rcases h.2 with ⟨h0, _⟩ | ⟨g, cap, cur, h0, hbg, _⟩
  · rw [h0] at ej; simp [Value.ownBlock] at ej
  · rw [h0] at ej
    obtain rfl : g = j := by simpa [Value.ownBlock] using ej
    exact hbg
theorem own_keep {w w' : World} {base : Nat} {e : TypeId} {size n : Nat} {v : Value} {xs : List Value} (h : w.ownsRow base e size v n xs) (hb : Below w.heap.size w w') : w'.ownsRow base e size v n xs := by
  refine ⟨h.1, ?_⟩
  rcases h.2 with h0 | ⟨g, cap, cur, hv, hg, hh, h3⟩
  · exact .inl h0
  · exact .inr ⟨g, cap, cur, hv, hg, (hb.block g (Array.getElem?_eq_some_iff.1 hh).1).trans hh, h3⟩
theorem Below.drewN_ {B : Nat} {a w : World} (h : Below B a w) (n : Nat) : Below B a (w.drewN n) := ⟨h.os, h.tape, h.output, h.size, h.block⟩
theorem Below.then_ {a b c : World} (h : Below a.heap.size a b) (k : Below b.heap.size b c) : Below a.heap.size a c := h.trans (k.mono h.size)

def strC (L : List ByteArray) : List Value := L.map Value.string
def natC (l : List Nat) : List Value := l.map fun k : Nat => Value.int .i64 (k : Int)
def boolC (l : List Bool) : List Value := l.map Value.bool
/-- the slice holds the strings L -/
def Strs (w : World) (B : Nat) (A : Option Addr) (c : Nat) (L : List ByteArray) : Prop := Row w B 1 A L.length c (strC L)

theorem flat_len {α : Type} (f : α → List Value) (s : Nat) (hf : ∀ x, (f x).length = s) : ∀ l : List α, (l.flatMap f).length = l.length * s
  | [] => by simp
  | x :: l => by rw [List.flatMap_cons, List.length_append, hf, flat_len f s hf l, List.length_cons, Nat.succ_mul, Nat.add_comm]
theorem flat_drop {α : Type} (f : α → List Value) (s : Nat) (hf : ∀ x, (f x).length = s) : ∀ (l : List α) (k : Nat), (l.flatMap f).drop (k * s) = (l.drop k).flatMap f
  | l, 0 => by simp
  | [], k + 1 => by simp
  | x :: l, k + 1 => by
    rw [List.flatMap_cons, List.drop_succ_cons, ← flat_drop f s hf l k, Nat.succ_mul, Nat.add_comm, ← List.drop_drop, List.drop_left' (hf x)]
theorem flat_take {α : Type} (f : α → List Value) (s : Nat) (hf : ∀ x, (f x).length = s) : ∀ (l : List α) (k : Nat), (l.flatMap f).take (k * s) = (l.take k).flatMap f
  | l, 0 => by simp
  | [], k + 1 => by simp
  | x :: l, k + 1 => by
    rw [List.flatMap_cons, List.take_succ_cons, List.flatMap_cons, ← flat_take f s hf l k, Nat.succ_mul, Nat.add_comm, List.take_add, List.take_left' (hf x), List.drop_left' (hf x)]
theorem flat_at {α : Type} (f : α → List Value) (s : Nat) (hf : ∀ x, (f x).length = s) (l : List α) (k j : Nat) (hk : k < l.length) (hj : j < s) : (l.flatMap f)[k * s + j]? = (f l[k])[j]? := by
  have h1 := flat_drop f s hf l k
  rw [List.drop_eq_getElem_cons hk, List.flatMap_cons] at h1
  rw [← List.getElem?_drop, h1, List.getElem?_append_left (by rw [hf]; exact hj)]

section
variable {w w' : World} {B c : Nat} {A : Option Addr} {L : List ByteArray}
theorem Strs.at_ (h : Strs w B A c L) {k : Nat} (hk : k < L.length) : ∃ ad, A = some ad ∧ ad.block < B ∧ w.cell? (ad.add k) = some (.string L[k]) :=
  h.2.2.2 k _ (by unfold strC; rw [List.getElem?_map, List.getElem?_eq_getElem hk]; rfl)
theorem Strs.cap (h : Strs w B A c L) : L.length ≤ c := h.2.1
theorem Strs.nil_ (h : Strs w B A c L) : A = none → c = 0 := h.2.2.1
theorem Strs.own {base n : Nat} (h : w.ownsRow base 9 1 (.slice A n c) n (strC L)) : n = L.length ∧ Strs w w.heap.size A c L := by
  have h0 := h.1
  have : n = L.length := by simpa [strC] using h0.symm
  subst this
  exact ⟨rfl, Row.own h⟩
theorem strC_win (L : List ByteArray) (l k : Nat) : ((strC L).drop (l * 1)).take ((k - l) * 1) = strC ((L.drop l).take (k - l)) := by
  unfold strC; rw [Nat.mul_one, Nat.mul_one, List.map_take, List.map_drop]
theorem strC_drop (L : List ByteArray) (l : Nat) : (strC L).drop (l * 1) = strC (L.drop l) := by
  unfold strC; rw [Nat.mul_one, List.map_drop]
end

/-- append of a slice of strings that may be nil -/
theorem info9 : (Try.prog.info? 9).map (fun i => (i.zero, i.size, i.bytes)) = some (some (.string ⟨#[]⟩), 1, 16) := by kernel_rfl
theorem info3 : (Try.prog.info? 3).map (fun i => (i.zero, i.size, i.bytes)) = some (some (.int .i64 0), 1, 8) := by kernel_rfl
theorem info4 : (Try.prog.info? 4).map (fun i => (i.zero, i.size, i.bytes)) = some (some (.bool false), 1, 1) := by kernel_rfl

/-- Block g holds just the cells cs, of element type t, none frozen. -/
def Full (w : World) (g : Nat) (t : TypeId) (cs : List Value) : Prop := w.heap[g]? = some (.cells cs.toArray t (0, 0))
section
variable {w w' : World} {g : Nat} {t : TypeId} {cs : List Value}
theorem Full.lt (h : Full w g t cs) : g < w.heap.size := (Array.getElem?_eq_some_iff.1 h).1
theorem Full.cell (h : Full w g t cs) (i : Nat) : w.cell? ⟨g, i, none⟩ = cs[i]? := by
  simp [World.cell?, show w.heap[g]? = _ from h]
theorem Full.frozen (h : Full w g t cs) (i : Nat) : w.frozen? ⟨g, i, none⟩ = false := by
  simp [World.frozen?, show w.heap[g]? = _ from h]
theorem Full.new (w : World) (t : TypeId) (cs : List Value) : Full (w.alloc (.cells cs.toArray t)) w.heap.size t cs := heap_alloc_new w _
theorem Full.drewN (h : Full w g t cs) (n : Nat) : Full (w.drewN n) g t cs := h
theorem Full.drew (h : Full w g t cs) : Full w.drew g t cs := h
theorem Full.alloc (h : Full w g t cs) (o : Obj) : Full (w.alloc o) g t cs := (Below.heap_alloc w o g h.lt).trans h
theorem Full.set_ (h : Full w g t cs) (i : Nat) (u : Value) : Full (w.setCell ⟨g, i, none⟩ u) g t (cs.set i u) := by
  unfold Full at h ⊢
  simp [World.setCell, Array.getElem?_modify, h]
theorem Full.far (h : Full w g t cs) {p : Addr} (hp : g ≠ p.block) (u : Value) : Full (w.setCell p u) g t cs := (Below.heap_setCell w p u g hp).trans h
theorem Full.below {B : Nat} (h : Full w g t cs) (hb : Below B w w') (hg : g < B) : Full w' g t cs := (hb.block g hg).trans h
theorem Full.on (h : Full w g t cs) (hb : Below w.heap.size w w') : Full w' g t cs := h.below hb h.lt
theorem Full.grown {row : Option Nat} (h : Full w g t cs) (hb : w.grownBy w' row) (hg : some g ≠ row) : Full w' g t cs := (hb.block g h.lt hg).trans h
theorem Full.ne_ {g' : Nat} {t' : TypeId} {cs' : List Value} (h : Full w g t cs) (h' : Full w g' t' cs') (hne : t ≠ t') : g ≠ g' := by
  rintro rfl
  have := (show w.heap[g]? = _ from h).symm.trans h'
  injection this with h1
  injection h1 with _ h2
  exact hne h2
theorem Full.not_row (h : Full w g t cs) {base size n : Nat} {e : TypeId} {v : Value} {xs : List Value} (hr : w.ownsRow base e size v n xs) (hne : t ≠ e) : some g ≠ v.ownBlock := by
  rcases hr.2 with ⟨rfl, _⟩ | ⟨g', cap, cur, rfl, _, hh, _⟩
  · simp [Value.ownBlock]
  · intro he
    obtain rfl : g = g' := by simpa [Value.ownBlock] using he
    have := (show w.heap[g]? = _ from h).symm.trans hh
    injection this with h1
    injection h1 with _ h2
    exact hne h2
theorem Full.row (h : Full w g t cs) (size n : Nat) (hn : cs.length = n * size) (c : Nat) (hc : n ≤ c) : Row w w.heap.size size (some ⟨g, 0, none⟩) n c cs :=
  ⟨hn, hc, fun e => (by cases e), fun j u hj => ⟨_, rfl, h.lt, by rw [Addr.add_lit, Nat.zero_add, h.cell, hj]⟩⟩
end

/-- make([]T, n), of one cell for each element -/
theorem made_one (t e : TypeId) (z : Value) (bytes : Nat) (ht : Try.prog.underlying t = some (.slice e)) (hi : (Try.prog.info? e).map (fun i => (i.zero, i.size, i.bytes)) = some (some z, 1, bytes)) (hz : z.cells = #[z]) (n : Nat) (hb : bytes * n ≤ 281474976710656) (h63 : n ≤ 9223372036854775807) :
    ∀ W, (Instr.makeSlice t (.int .i64 (n : Int)) (.int .i64 (n : Int))).run Try.prog W = .ok (.slice (some ⟨W.heap.size, 0, none⟩) n n) (W.alloc (.cells (List.replicate n z).toArray e)) := by
  intro W
  obtain ⟨i, h1, h2, h3, h4⟩ := info_parts hi
  have hr := run_make W t e i z ht h1 h2 .i64 .i64 (n : Int) (n : Int) (by omega) (by omega) (by rw [h4]; omega) (by omega)
  rw [hr, h3, hz]
  simp only [Int.toNat_natCast, Nat.mul_one]
  congr 3
  rw [← toList_madeCells_one]

theorem laidOut : laidOutB Try.prog = true := by kernel_rfl
theorem ownKnob_none : ownKnob Try.prog.godebug = none := by kernel_rfl

/-- All arguments read behind the call as before, where nothing below the old heap's size has turned. -/
theorem trods_stay {H : Type} {enc : TypeId × Value → H} {W W' : World} (hb : Below W.heap.size W W') : ∀ {ts : List TypeId} {vs : List Value} {ds : List (DataW H)} {ps : List MemPlace},
    (∀ t ∈ ts, Try.prog.readableRec t = true ∧ t < Try.prog.types.size) → (∀ p ∈ ps, p.block < W.heap.size) → DataW.TrodAll enc Try.prog W 0 (fun _ => true) true ts vs ds ps →
    DataW.TrodAll enc Try.prog W' 0 (fun b => decide (b < W.heap.size)) true ts vs ds ps
  | [], vs, ds, ps, _, _, h => by
    obtain ⟨rfl, rfl, rfl⟩ := trodAll_nil h
    exact trodAll_mk0
  | t :: ts, vs, ds, ps, ht, hp, h => by
    obtain ⟨v, vs', d, ds', p, q, rfl, rfl, rfl, h0, hr⟩ := trodAll_cons h
    have h1 := ht t (List.mem_cons_self)
    exact trodAll_cons_mk (Below.trod laidOut h1.1 h1.2 h0 hb fun x hx => hp x (List.mem_append_left _ hx))
      (trods_stay hb (fun t' h' => ht t' (List.mem_cons_of_mem _ h')) (fun x hx => hp x (List.mem_append_right _ hx)) hr)

/-- The law's word behind the call: it returned true, and nothing below the old heap's size has turned. -/
theorem law_post {H : Type} {enc : TypeId × Value → H} {f : Func} {s : ChangeSpec} {W W' : World} {args : Array Value} {ds gs : List (DataW H)} {before : List MemPlace}
    (hv : s.vars = []) (hrt : f.resultTypes = #[4]) (hpar : ∀ t ∈ f.params.toList, Try.prog.readableRec t = true ∧ t < Try.prog.types.size)
    (hres : (s.fn H (ds ++ gs)).results = [.lit (.bool true)]) (hargs : (s.fn H (ds ++ gs)).args = ds) (hvs : (s.fn H (ds ++ gs)).vars = [])
    (hW : DataW.Whole enc Try.prog f.params.toList s.vars false W args.toList ds gs before) (hb : Below W.heap.size W W') :
    s.post enc Try.prog f false true false false W args (.bool true) W' := by
  have hlt : ∀ p ∈ before, p.block < W.heap.size := fun p hp => hW.lt p hp
  have hW' := hW
  obtain ⟨p, q, hA, hV, rfl, hfz, hnd⟩ := hW
  rw [hv] at hV
  obtain ⟨rfl, rfl⟩ := trodVars_none hV
  refine ⟨ds, [], p ++ [], [], p, [], hW', ?_, ?_, ?_, World.keptBut_mono (fun x hx => ⟨hx, .inr (.inl (by simpa using hx))⟩) (hb.frame (· ∈ p ++ [])), fun h => by cases h⟩
  · rw [hres, hrt]
    exact trodAll_cons_mk (shut_bool Try.underlying4 _) trodAll_mk0
  · rw [hargs]
    exact trods_stay hb hpar (fun x hx => hlt x (by simpa using hx)) hA
  · rw [hvs, hv]
    rfl

theorem bd_i64 {n : Int} (h : (Lit.int .i64 n).wf = true) : -9223372036854775808 ≤ n ∧ n ≤ 9223372036854775807 := by
  simpa [Lit.wf, IntKind.min, IntKind.max, IntKind.signed, IntKind.bits] using h
theorem bd_u64 {n : Int} (h : (Lit.int .u64 n).wf = true) : 0 ≤ n ∧ n ≤ 18446744073709551615 := by
  simpa [Lit.wf, IntKind.min, IntKind.max, IntKind.signed, IntKind.bits] using h
theorem bd_u32 {n : Int} (h : (Lit.int .u32 n).wf = true) : 0 ≤ n ∧ n ≤ 4294967295 := by
  simpa [Lit.wf, IntKind.min, IntKind.max, IntKind.signed, IntKind.bits] using h
theorem bd_u8 {n : Int} (h : (Lit.int .u8 n).wf = true) : 0 ≤ n ∧ n ≤ 255 := by
  simpa [Lit.wf, IntKind.min, IntKind.max, IntKind.signed, IntKind.bits] using h

/-- a list of bytes as a string -/
def str (l : List UInt8) : ByteArray := ⟨l.toArray⟩
theorem str_data (l : List UInt8) : (str l).data.toList = l := rfl
theorem str_size (l : List UInt8) : (str l).size = l.length := rfl
theorem str_eq {s : ByteArray} {l : List UInt8} (h : s.data.toList = l) : s = str l := by
  apply Go.WideShapes.bytes_inj
  rw [h]; rfl
def cutL (l : List UInt8) (st k : Nat) : List UInt8 := (l.drop st).take (k - st)
theorem cutL_snoc {l : List UInt8} {st k : Nat} (h1 : st ≤ k) (h2 : k < l.length) : cutL l st (k + 1) = cutL l st k ++ [l[k]] := by
  unfold cutL
  rw [show k + 1 - st = (k - st) + 1 by omega, List.take_succ_eq_append_getElem (by simp; omega)]
  simp [Nat.add_sub_of_le h1]
theorem cutL_self (l : List UInt8) (k : Nat) : cutL l k k = [] := by simp [cutL]
theorem drop_at (s : ByteArray) (k : Nat) (h : k < s.size) : s.data.toList.drop k = s[k] :: s.data.toList.drop (k + 1) := by
  rw [List.drop_eq_getElem_cons (by simpa using h)]; rfl
theorem ext_cut (s : ByteArray) (st k : Nat) : s.extract st k = str (cutL s.data.toList st k) := by
  apply str_eq
  rw [Lib.extract_data]
  rfl
theorem cut_end (s : ByteArray) (st : Nat) : cutL s.data.toList st s.size = s.data.toList.drop st := by
  unfold cutL
  rw [List.take_of_length_le]
  simp

def StrsOut (w : World) (R : List ByteArray) (e : Ending) (w' : World) : Prop :=
  ∃ A c, e = .returned (.slice A R.length c) ∧ w'.ownsRow w.heap.size 9 1 (.slice A R.length c) R.length (strC R) ∧ Below w.heap.size w w'
theorem strC_snoc (L : List ByteArray) (s : ByteArray) : strC (L ++ [s]) = strC L ++ [.string s] := by simp [strC]

theorem eq_of_data {a b : ByteArray} (h : a.toList = b.toList) : a = b := by
  rw [ByteArray.toList_eq, ByteArray.toList_eq] at h
  exact Go.WideShapes.bytes_inj h
theorem ne_of_data {a b : ByteArray} (h : ¬ a.toList = b.toList) : a ≠ b := fun e => h (by rw [e])

/-- It returned n, and at most has drawn. -/
def QInt (w : World) (n : Nat) (e : Ending) (w' : World) : Prop := e = .returned (.int .i64 (n : Int)) ∧ ∃ q, w' = w.drewN q
def QBool (w : World) (b : Bool) (e : Ending) (w' : World) : Prop := e = .returned (.bool b) ∧ ∃ q, w' = w.drewN q


theorem data_len (s : ByteArray) : s.data.toList.length = s.size := by simp
theorem app_data (a b : ByteArray) : (a ++ b).data.toList = a.data.toList ++ b.data.toList := by
  rw [ByteArray.data_append, Array.toList_append]
def BoolB (w : World) (v : Bool) (e : Ending) (w' : World) : Prop := e = .returned (.bool v) ∧ Below w.heap.size w w'
def StrB (w : World) (v : ByteArray) (e : Ending) (w' : World) : Prop := e = .returned (.string v) ∧ Below w.heap.size w w'
theorem strs_on {w w' : World} {A : Option Addr} {c : Nat} {L : List ByteArray} (h : Strs w w.heap.size A c L) (hb : Below w.heap.size w w') : Strs w' w'.heap.size A c L := Row.on h hb
theorem cells3 : Try.prog.cellsOf 3 = 1 := by kernel_rfl
theorem cells4 : Try.prog.cellsOf 4 = 1 := by kernel_rfl
theorem cells9 : Try.prog.cellsOf 9 = 1 := by kernel_rfl
theorem cells25 : Try.prog.cellsOf 25 = 5 := by kernel_rfl
end Go.Proofs.Ytiikbekboapphaa
