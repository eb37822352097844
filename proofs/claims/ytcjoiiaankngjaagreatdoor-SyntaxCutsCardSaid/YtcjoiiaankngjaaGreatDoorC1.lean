/- The Syntax seat, part 1: contracts of the program and of the reference. -/
import Derived.Test.YtcjoiiaankngjaaGreatDoorRows
import Derived.WalkKit
import Derived.ProofKit
import Derived.Deep.Cut
import Derived.OpenShut
import Derived.Carry
import Derived.SliceStrings
import Derived.Lib.SmallJoins
import Derived.Laws.MakeOwn
import Derived.Lib.LaidTab
import Derived.WalkSpells
import Derived.WalkLawsBesides
import Derived.Below
import Derived.Lib.Hide
import Derived.Lib.AppendStr
import Derived.Lib.IndexBytes
import Derived.Laws.AppendOwnNone
import Derived.Maps.AppendAt
import Derived.Deep.AppendLies
import Derived.Deep.OwnRows
import Derived.Deep.RegionHeld3
import Derived.Deep.RegionWith
import Derived.Deep.QuietTactic
import Derived.BigQuiet
import Derived.BigRegion
import Derived.Shelf.Strings.Builder1
import Derived.Shelf.Strings.Builder2
import Derived.Shelf.Strings.OnBuilder
import Derived.Shelf.Strings.Trim
import Derived.Shelf.Small.Utf8
import Derived.Shelf.Small.Strs
import Derived.Shelf.Strings.BuilderF
import Derived.Shelf.Strconv.Atoi
import Derived.Shelf.Strconv.Itoa0
import Derived.Shelf.Strconv.Itoa1
import Derived.Shelf.LaysM
import Derived.Shelf.Strconv.Itoa2
import Derived.Shelf.Strconv.Itoa3
import Derived.Shelf.Strconv.AtoiErrFast
import Derived.Shelf.Strconv.ParseIntEmpty
import Derived.Shelf.Strconv.AtoiFail
import Derived.Shelf.Strconv.Clone
import Derived.Shelf.Strconv.SyntaxError
import Derived.Shelf.LaysC
import Derived.Shelf.Strconv.ToError
import Derived.Shelf.Strconv.Lower
import Derived.Shelf.Strconv.ParseUint10
import Derived.Shelf.Strconv.ParseUint10Empty
import Derived.Shelf.Strconv.ParseUint10Any
import Derived.Shelf.Strconv.ParseInt10
import Derived.Shelf.Strconv.AtoiLong
import Derived.Shelf.Strconv.AtoiInnerAll
import Derived.Shelf.Strconv.RangeError
import Derived.Shelf.Strconv.ToErrorRange
import Derived.Shelf.Strconv.AtoiAll
import Derived.Shelf.Strconv.ErrVarAll
import Derived.Shelf.Strings.Search1
import Derived.Shelf.Unicode.Decode
import Derived.Shelf.Strings.Runes
import Derived.Shelf.Strings.IndexAny
import Derived.Shelf.Strings.AsciiSet
import Derived.Shelf.Strings.IndexAnyAll
import Derived.Shelf.Unicode.DecodeSlow
import Derived.Shelf.Unicode.DecodeAny
import Derived.Shelf.Unicode.DecodeLast
import Derived.Test.YtcjoiiaankngjaaGreatDoorProg
import Derived.Maps.OwnSet
import Derived.Maps.OwnOps
import Derived.Maps.OwnIn
import Derived.Maps.Keyed
import Derived.Laws.AppendOwn
namespace Go.Proofs.YtcjoiiaankngjaaGreatDoor
set_option maxRecDepth 100000
open Go.ChangeShapes Go.WideShapes Go.ChangeAt Go.RowKit
theorem ret_bool {a b : Bool} (h : a = b) : Ending.returned (.bool a) = .returned (.bool b) := by rw [h]
theorem add_block (a : Addr) (n : Nat) : (a.add n).block = a.block := by unfold Addr.add; split <;> rfl
theorem add_twice (a : Addr) (i j : Nat) : (a.add i).add j = a.add (i + j) := by
 unfold Addr.add
 by_cases hi : i = 0 <;> by_cases hj : j = 0 <;> simp [hi, hj, Nat.add_assoc]
def Row (w : World) (B size : Nat) (A : Option Addr) (n c : Nat) (xs : List Value) : Prop :=
 xs.length = n * size ∧ n ≤ c ∧ (A = none → c = 0) ∧ ∀ j u, xs[j]? = some u → ∃ ad, A = some ad ∧ ad.block < B ∧ w.cell? (ad.add j) = some u
section
variable {w w' : World} {B B' size n c : Nat} {A : Option Addr} {xs : List Value}
theorem Row.keep (h : Row w B size A n c xs) (hk : ∀ p : Addr, p.block < B → w'.cell? p = w.cell? p) : Row w' B size A n c xs :=
 ⟨h.1, h.2.1, h.2.2.1, fun j u hj => by
   obtain ⟨ad, e, hlt, hc⟩ := h.2.2.2 j u hj
   exact ⟨ad, e, hlt, (hk _ (by rw [add_block]; exact hlt)).trans hc⟩⟩
theorem Row.more (h : Row w B size A n c xs) (hB : B ≤ B') : Row w B' size A n c xs :=
 ⟨h.1, h.2.1, h.2.2.1, fun j u hj => by
   obtain ⟨ad, e, hlt, hc⟩ := h.2.2.2 j u hj
   exact ⟨ad, e, by omega, hc⟩⟩
theorem Row.below (h : Row w B size A n c xs) (hb : Below B' w w') (hB : B ≤ B') : Row w' B size A n c xs := h.keep fun _ hp => hb.cell (by omega)
theorem Row.on (h : Row w w.heap.size size A n c xs) (hb : Below w.heap.size w w') : Row w' w'.heap.size size A n c xs := (h.below hb (Nat.le_refl _)).more hb.size
theorem Row.drewN (h : Row w B size A n c xs) (k : Nat) : Row (w.drewN k) B size A n c xs := h
theorem Row.drew (h : Row w B size A n c xs) : Row w.drew B size A n c xs := h
theorem Row.alloc (h : Row w B size A n c xs) (hB : B ≤ w.heap.size) (o : Obj) : Row (w.alloc o) B size A n c xs := h.keep fun p hp => World.cell?_alloc_lt w o p (by omega)
theorem Row.setCell (h : Row w B size A n c xs) {p : Addr} (hB : B ≤ p.block) (u : Value) : Row (w.setCell p u) B size A n c xs :=
 h.keep fun q hq => World.cell?_setCell_other w p q u (fun e => by subst e; omega)
theorem Row.empty (w : World) (B size : Nat) : Row w B size none 0 0 [] := ⟨by simp, Nat.le_refl _, fun _ => rfl, fun j u hj => by simp at hj⟩
theorem Row.own {base : Nat} {e : TypeId} (h : w.ownsRow base e size (.slice A n c) n xs) : Row w w.heap.size size A n c xs := by
 have hl := h.1
 rcases h.2 with ⟨hv, h0⟩ | ⟨g, cap, cur, hv, _, hg, hle, _⟩
 · injection hv with h1 h2 h3
   subst h1 h2 h3
   have hx : xs = [] := List.eq_nil_of_length_eq_zero (by simpa using hl)
   subst hx
   exact Row.empty _ _ _
 · injection hv with h1 h2 h3
   subst h1 h3
   refine ⟨hl, by omega, fun h => (by cases h), fun j u hj => ⟨_, rfl, (Array.getElem?_eq_some_iff.1 hg).1, h.cells (g := g) rfl j u hj⟩⟩
theorem Row.part (h : Row w B size A n c xs) {l k m : Nat} (h1 : l ≤ k) (h2 : k ≤ n) (h3 : n ≤ m) (h4 : m ≤ c) :
   Row w B size (if m = l then A else A.map (·.add (l * size))) (k - l) (m - l) ((xs.drop (l * size)).take ((k - l) * size)) := by
 refine ⟨?_, by omega, fun e => ?_, fun j u hj => ?_⟩
 · rw [List.length_take, List.length_drop, h.1, ← Nat.sub_mul]
   exact Nat.min_eq_left (Nat.mul_le_mul_right _ (by omega))
 · split at e
   · omega
   · have : A = none := by simpa using e
     have := h.2.2.1 this
     omega
 · have hlt : j < (k - l) * size := by
     have := (List.getElem?_eq_some_iff.1 hj).1
     rw [List.length_take] at this
     omega
   have hkl : l < k := by
     rcases Nat.lt_or_ge l k with h | h
     · exact h
     · rw [Nat.sub_eq_zero_of_le h, Nat.zero_mul] at hlt; omega
   rw [List.getElem?_take_of_lt hlt, List.getElem?_drop] at hj
   obtain ⟨ad, rfl, hb, hc⟩ := h.2.2.2 _ u hj
   rw [if_neg (by omega)]
   exact ⟨_, rfl, by rw [add_block]; exact hb, by rw [add_twice]; exact hc⟩
end
theorem cut_l (t e : TypeId) (size : Nat) (ht : Tryz.prog.underlying t = some (.slice e)) (hz : ∀ W, (Go.sizeOf e).run Tryz.prog W = .ok size W) (A : Option Addr) (n c l : Nat) (h1 : l ≤ n) (h3 : n ≤ c) :
   ∃ A', (∀ W, (Instr.slice t (.slice A n c) (some (.int .i64 (l : Int))) none none).run Tryz.prog W = .ok (.slice A' (n - l) (c - l)) W) ∧
     ∀ w B xs, Row w B size A n c xs → Row w B size A' (n - l) (c - l) (xs.drop (l * size)) := by
 have he : Tryz.prog.elem t = e := by simp [Program.elem, ht]
 refine ⟨if c = l then A else A.map (·.add (l * size)), fun W => ?_, fun w B xs h => ?_⟩
 · rw [run_slice_l W t A n c (by rw [he]; exact ht) _ _ (by omega) (by omega), he, hz]
   rfl
 · have := h.part h1 (Nat.le_refl _) h3 (Nat.le_refl _)
   rwa [List.take_of_length_le (by rw [List.length_drop, h.1, Nat.sub_mul]; exact Nat.le_refl _)] at this
theorem cut_h (t e : TypeId) (size : Nat) (ht : Tryz.prog.underlying t = some (.slice e)) (hz : ∀ W, (Go.sizeOf e).run Tryz.prog W = .ok size W) (A : Option Addr) (n c k : Nat) (h2 : k ≤ n) (h3 : n ≤ c) :
   ∃ A', (∀ W, (Instr.slice t (.slice A n c) none (some (.int .i64 (k : Int))) none).run Tryz.prog W = .ok (.slice A' k c) W) ∧
     ∀ w B xs, Row w B size A n c xs → Row w B size A' k c (xs.take (k * size)) := by
 have he : Tryz.prog.elem t = e := by simp [Program.elem, ht]
 refine ⟨if c = 0 then A else A.map (·.add (0 * size)), fun W => ?_, fun w B xs h => ?_⟩
 · rw [run_slice_h W t A n c (by rw [he]; exact ht) _ _ (by omega) (by omega), he, hz]
   rfl
 · have := h.part (Nat.zero_le k) h2 h3 (Nat.le_refl _)
   simpa using this
theorem own_form {w : World} {base size : Nat} {e : TypeId} {v : Value} {n : Nat} {xs : List Value} (h : w.ownsRow base e size v n xs) : ∃ A c, v = .slice A n c := by
 rcases h.2 with ⟨rfl, rfl⟩ | ⟨g, cap, _, rfl, _⟩
 · exact ⟨_, _, rfl⟩
 · exact ⟨_, _, rfl⟩
theorem row_ge {w : World} {base : Nat} {e : TypeId} {size n : Nat} {v : Value} {xs : List Value} (h : w.ownsRow base e size v n xs) : ∀ j, v.ownBlock = some j → base ≤ j := fun j ej => by
 rcases h.2 with ⟨h0, _⟩ | ⟨g, cap, cur, h0, hbg, _⟩
 · rw [h0] at ej; simp [Value.ownBlock] at ej
 · rw [h0] at ej
   obtain rfl : g = j := by simpa [Value.ownBlock] using ej
   exact hbg
theorem own_keep {w w' : World} {base : Nat} {e : TypeId} {size n : Nat} {v : Value} {xs : List Value} (h : w.ownsRow base e size v n xs) (hb : Below w.heap.size w w') : w'.ownsRow base e size v n xs := by
 refine ⟨h.1, ?_⟩
 rcases h.2 with h0 | ⟨g, cap, cur, hv, hg, hh, h3⟩
 · exact .inl h0
 · exact .inr ⟨g, cap, cur, hv, hg, (hb.block g (Array.getElem?_eq_some_iff.1 hh).1).trans hh, h3⟩
theorem Below.drewN_ {B : Nat} {a w : World} (h : Below B a w) (n : Nat) : Below B a (w.drewN n) := ⟨h.os, h.tape, h.output, h.size, h.block⟩
theorem Below.then_ {a b c : World} (h : Below a.heap.size a b) (k : Below b.heap.size b c) : Below a.heap.size a c := h.trans (k.mono h.size)
theorem flat_drop {α : Type} (f : α → List Value) (s : Nat) (hf : ∀ x, (f x).length = s) : ∀ (l : List α) (k : Nat), (l.flatMap f).drop (k * s) = (l.drop k).flatMap f
 | l, 0 => by simp
 | [], k + 1 => by simp
 | x :: l, k + 1 => by
   rw [List.flatMap_cons, List.drop_succ_cons, ← flat_drop f s hf l k, Nat.succ_mul, Nat.add_comm, ← List.drop_drop, List.drop_left' (hf x)]
theorem flat_at {α : Type} (f : α → List Value) (s : Nat) (hf : ∀ x, (f x).length = s) (l : List α) (k j : Nat) (hk : k < l.length) (hj : j < s) : (l.flatMap f)[k * s + j]? = (f l[k])[j]? := by
 have h1 := flat_drop f s hf l k
 rw [List.drop_eq_getElem_cons hk, List.flatMap_cons] at h1
 rw [← List.getElem?_drop, h1, List.getElem?_append_left (by rw [hf]; exact hj)]
section
variable {w w' : World} {B c : Nat} {A : Option Addr} {L : List ByteArray}
end
theorem info9 : (Tryz.prog.info? 9).map (fun i => (i.zero, i.size, i.bytes)) = some (some (.string ⟨#[]⟩), 1, 16) := by kernel_rfl
def Full (w : World) (g : Nat) (t : TypeId) (cs : List Value) : Prop := w.heap[g]? = some (.cells cs.toArray t (0, 0))
section
variable {w w' : World} {g : Nat} {t : TypeId} {cs : List Value}
theorem Full.lt (h : Full w g t cs) : g < w.heap.size := (Array.getElem?_eq_some_iff.1 h).1
theorem Full.cell (h : Full w g t cs) (i : Nat) : w.cell? ⟨g, i, none⟩ = cs[i]? := by
 simp [World.cell?, show w.heap[g]? = _ from h]
theorem Full.frozen (h : Full w g t cs) (i : Nat) : w.frozen? ⟨g, i, none⟩ = false := by
 simp [World.frozen?, show w.heap[g]? = _ from h]
theorem Full.new (w : World) (t : TypeId) (cs : List Value) : Full (w.alloc (.cells cs.toArray t)) w.heap.size t cs := heap_alloc_new w _
theorem Full.drewN (h : Full w g t cs) (n : Nat) : Full (w.drewN n) g t cs := h
theorem Full.drew (h : Full w g t cs) : Full w.drew g t cs := h
theorem Full.alloc (h : Full w g t cs) (o : Obj) : Full (w.alloc o) g t cs := (Below.heap_alloc w o g h.lt).trans h
theorem Full.set_ (h : Full w g t cs) (i : Nat) (u : Value) : Full (w.setCell ⟨g, i, none⟩ u) g t (cs.set i u) := by
 unfold Full at h ⊢
 simp [World.setCell, Array.getElem?_modify, h]
theorem Full.far (h : Full w g t cs) {p : Addr} (hp : g ≠ p.block) (u : Value) : Full (w.setCell p u) g t cs := (Below.heap_setCell w p u g hp).trans h
theorem Full.below {B : Nat} (h : Full w g t cs) (hb : Below B w w') (hg : g < B) : Full w' g t cs := (hb.block g hg).trans h
theorem Full.on (h : Full w g t cs) (hb : Below w.heap.size w w') : Full w' g t cs := h.below hb h.lt
theorem Full.grown {row : Option Nat} (h : Full w g t cs) (hb : w.grownBy w' row) (hg : some g ≠ row) : Full w' g t cs := (hb.block g h.lt hg).trans h
theorem Full.ne_ {g' : Nat} {t' : TypeId} {cs' : List Value} (h : Full w g t cs) (h' : Full w g' t' cs') (hne : t ≠ t') : g ≠ g' := by
 rintro rfl
 have := (show w.heap[g]? = _ from h).symm.trans h'
 injection this with h1
 injection h1 with _ h2
 exact hne h2
theorem Full.not_row (h : Full w g t cs) {base size n : Nat} {e : TypeId} {v : Value} {xs : List Value} (hr : w.ownsRow base e size v n xs) (hne : t ≠ e) : some g ≠ v.ownBlock := by
 rcases hr.2 with ⟨rfl, _⟩ | ⟨g', cap, cur, rfl, _, hh, _⟩
 · simp [Value.ownBlock]
 · intro he
   obtain rfl : g = g' := by simpa [Value.ownBlock] using he
   have := (show w.heap[g]? = _ from h).symm.trans hh
   injection this with h1
   injection h1 with _ h2
   exact hne h2
theorem Full.row (h : Full w g t cs) (size n : Nat) (hn : cs.length = n * size) (c : Nat) (hc : n ≤ c) : Row w w.heap.size size (some ⟨g, 0, none⟩) n c cs :=
 ⟨hn, hc, fun e => (by cases e), fun j u hj => ⟨_, rfl, h.lt, by rw [Addr.add_lit, Nat.zero_add, h.cell, hj]⟩⟩
end
theorem made_one (t e : TypeId) (z : Value) (bytes : Nat) (ht : Tryz.prog.underlying t = some (.slice e)) (hi : (Tryz.prog.info? e).map (fun i => (i.zero, i.size, i.bytes)) = some (some z, 1, bytes)) (hz : z.cells = #[z]) (n : Nat) (hb : bytes * n ≤ 281474976710656) (h63 : n ≤ 9223372036854775807) :
   ∀ W, (Instr.makeSlice t (.int .i64 (n : Int)) (.int .i64 (n : Int))).run Tryz.prog W = .ok (.slice (some ⟨W.heap.size, 0, none⟩) n n) (W.alloc (.cells (List.replicate n z).toArray e)) := by
 intro W
 obtain ⟨i, h1, h2, h3, h4⟩ := info_parts hi
 have hr := run_make W t e i z ht h1 h2 .i64 .i64 (n : Int) (n : Int) (by omega) (by omega) (by rw [h4]; omega) (by omega)
 rw [hr, h3, hz]
 simp only [Int.toNat_natCast, Nat.mul_one]
 congr 3
 rw [← toList_madeCells_one]
theorem laidOut : laidOutB Tryz.prog = true := by kernel_rfl
theorem ownKnob_none : ownKnob Tryz.prog.godebug = none := by kernel_rfl
theorem trods_stay {H : Type} {enc : TypeId × Value → H} {W W' : World} (hb : Below W.heap.size W W') : ∀ {ts : List TypeId} {vs : List Value} {ds : List (DataW H)} {ps : List MemPlace},
   (∀ t ∈ ts, Tryz.prog.readableRec t = true ∧ t < Tryz.prog.types.size) → (∀ p ∈ ps, p.block < W.heap.size) → DataW.TrodAll enc Tryz.prog W 0 (fun _ => true) true ts vs ds ps →
   DataW.TrodAll enc Tryz.prog W' 0 (fun b => decide (b < W.heap.size)) true ts vs ds ps
 | [], vs, ds, ps, _, _, h => by
   obtain ⟨rfl, rfl, rfl⟩ := trodAll_nil h
   exact trodAll_mk0
 | t :: ts, vs, ds, ps, ht, hp, h => by
   obtain ⟨v, vs', d, ds', p, q, rfl, rfl, rfl, h0, hr⟩ := trodAll_cons h
   have h1 := ht t (List.mem_cons_self)
   exact trodAll_cons_mk (Below.trod laidOut h1.1 h1.2 h0 hb fun x hx => hp x (List.mem_append_left _ hx))
     (trods_stay hb (fun t' h' => ht t' (List.mem_cons_of_mem _ h')) (fun x hx => hp x (List.mem_append_right _ hx)) hr)
theorem law_post {H : Type} {enc : TypeId × Value → H} {f : Func} {s : ChangeSpec} {W W' : World} {args : Array Value} {ds gs : List (DataW H)} {before : List MemPlace}
   (hv : s.vars = []) (hrt : f.resultTypes = #[4]) (hpar : ∀ t ∈ f.params.toList, Tryz.prog.readableRec t = true ∧ t < Tryz.prog.types.size)
   (hres : (s.fn H (ds ++ gs)).results = [.lit (.bool true)]) (hargs : (s.fn H (ds ++ gs)).args = ds) (hvs : (s.fn H (ds ++ gs)).vars = [])
   (hW : DataW.Whole enc Tryz.prog f.params.toList s.vars false W args.toList ds gs before) (hb : Below W.heap.size W W') :
   s.post enc Tryz.prog f false true false false W args (.bool true) W' := by
 have hlt : ∀ p ∈ before, p.block < W.heap.size := fun p hp => hW.lt p hp
 have hW' := hW
 obtain ⟨p, q, hA, hV, rfl, hfz, hnd⟩ := hW
 rw [hv] at hV
 obtain ⟨rfl, rfl⟩ := trodVars_none hV
 refine ⟨ds, [], p ++ [], [], p, [], hW', ?_, ?_, ?_, World.keptBut_mono (fun x hx => ⟨hx, .inr (.inl (by simpa using hx))⟩) (hb.frame (· ∈ p ++ [])), fun h => by cases h⟩
 · rw [hres, hrt]
   exact trodAll_cons_mk (shut_bool Tryz.underlying4 _) trodAll_mk0
 · rw [hargs]
   exact trods_stay hb hpar (fun x hx => hlt x (by simpa using hx)) hA
 · rw [hvs, hv]
   rfl
def str (l : List UInt8) : ByteArray := ⟨l.toArray⟩
theorem str_data (l : List UInt8) : (str l).data.toList = l := rfl
theorem str_size (l : List UInt8) : (str l).size = l.length := rfl
theorem str_eq {s : ByteArray} {l : List UInt8} (h : s.data.toList = l) : s = str l := by
 apply Go.WideShapes.bytes_inj
 rw [h]; rfl
def cutL (l : List UInt8) (st k : Nat) : List UInt8 := (l.drop st).take (k - st)
theorem drop_at (s : ByteArray) (k : Nat) (h : k < s.size) : s.data.toList.drop k = s[k] :: s.data.toList.drop (k + 1) := by
 rw [List.drop_eq_getElem_cons (by simpa using h)]; rfl
theorem ext_cut (s : ByteArray) (st k : Nat) : s.extract st k = str (cutL s.data.toList st k) := by
 apply str_eq
 rw [Lib.extract_data]
 rfl
theorem cut_end (s : ByteArray) (st : Nat) : cutL s.data.toList st s.size = s.data.toList.drop st := by
 unfold cutL
 rw [List.take_of_length_le]
 simp
theorem data_len (s : ByteArray) : s.data.toList.length = s.size := by simp
def BoolB (w : World) (v : Bool) (e : Ending) (w' : World) : Prop := e = .returned (.bool v) ∧ Below w.heap.size w w'
def StrB (w : World) (v : ByteArray) (e : Ending) (w' : World) : Prop := e = .returned (.string v) ∧ Below w.heap.size w w'
end Go.Proofs.YtcjoiiaankngjaaGreatDoor
namespace Go.Proofs.YtcjoiiaankngjaaGreatDoor
set_option maxRecDepth 100000
open Go.RowKit
theorem cell_of_heap {w w' : World} {a : Addr} (h : w'.heap[a.block]? = w.heap[a.block]?) : w'.cell? a = w.cell? a := by
 unfold World.cell?; rw [h]
structure Turn (F : Nat → Prop) (w w' : World) : Prop where
 os : w'.os = w.os
 tape : w'.tape = w.tape
 output : w'.output = w.output
 size : w.heap.size ≤ w'.heap.size
 block : ∀ g, g < w.heap.size → ¬ F g → w'.heap[g]? = w.heap[g]?
theorem Turn.below {F : Nat → Prop} {w w' : World} {B : Nat} (h : Turn F w w') (hF : ∀ g, F g → B ≤ g) (hB : B ≤ w.heap.size) : Below B w w' :=
 ⟨h.os, h.tape, h.output, h.size, fun k hk => h.block k (by omega) fun e => by have := hF k e; omega⟩
theorem Turn.of {F : Nat → Prop} {w w' : World} (h : Below w.heap.size w w') : Turn F w w' := ⟨h.os, h.tape, h.output, h.size, fun g hg _ => h.block g hg⟩
theorem Turn.refl (F : Nat → Prop) (w : World) : Turn F w w := ⟨rfl, rfl, rfl, Nat.le_refl _, fun _ _ _ => rfl⟩
theorem Turn.mono {F G : Nat → Prop} {w w' : World} (h : Turn F w w') (hg : ∀ g, F g → G g) : Turn G w w' := ⟨h.os, h.tape, h.output, h.size, fun g hl hn => h.block g hl fun e => hn (hg g e)⟩
theorem Turn.trans_ {F : Nat → Prop} {w w1 w2 : World} (h : Turn F w w1) (k : Turn F w1 w2) : Turn F w w2 :=
 ⟨k.os.trans h.os, k.tape.trans h.tape, k.output.trans h.output, Nat.le_trans h.size k.size, fun g hl hn => (k.block g (Nat.lt_of_lt_of_le hl h.size) hn).trans (h.block g hl hn)⟩
theorem Turn.grown {F : Nat → Prop} {w w' : World} {row : Option Nat} (h : w.grownBy w' row) (hr : ∀ g, row = some g → F g ∨ w.heap.size ≤ g) : Turn F w w' :=
 ⟨h.os, h.tape, h.output, h.size, fun g hl hn => h.block g hl fun e => (hr g e.symm).elim hn fun h => by omega⟩
theorem Turn.set_ {F : Nat → Prop} {w : World} {a : Addr} (hF : F a.block) (u : Value) : Turn F w (w.setCell a u) :=
 ⟨rfl, rfl, rfl, by simp [World.setCell], fun g _ hn => Below.heap_setCell w a u g fun e => hn (by rw [e]; exact hF)⟩
theorem Turn.late {F G : Nat → Prop} {w w1 w2 : World} (h : Turn F w w1) (k : Turn G w1 w2) (hG : ∀ g, G g → F g ∨ w.heap.size ≤ g) : Turn F w w2 :=
 ⟨k.os.trans h.os, k.tape.trans h.tape, k.output.trans h.output, Nat.le_trans h.size k.size, fun g hl hn => (k.block g (Nat.lt_of_lt_of_le hl h.size) (fun e => (hG g e).elim hn fun h => by omega)).trans (h.block g hl hn)⟩
theorem Turn.drewN_ {F : Nat → Prop} {w w' : World} (h : Turn F w w') (k : Nat) : Turn F w (w'.drewN k) := ⟨h.os, h.tape, h.output, h.size, h.block⟩
theorem Turn.drew {F : Nat → Prop} {w w' : World} (h : Turn F w w') : Turn F w w'.drew := ⟨h.os, h.tape, h.output, h.size, h.block⟩
theorem Turn.far {F : Nat → Prop} {w w' : World} (h : Turn F w w') {g : Nat} {t : TypeId} {cs : List Value} (hf : Full w g t cs) (hn : ¬ F g) : Full w' g t cs := (h.block g hf.lt hn).trans hf
theorem own_block {w : World} {base size n c : Nat} {e : TypeId} {a : Addr} {xs : List Value} (h : w.ownsRow base e size (.slice (some a) n c) n xs) :
   ∃ g cur, a = ⟨g, 0, none⟩ ∧ base ≤ g ∧ w.heap[g]? = some (.cells cur e (0, 0)) ∧ n ≤ c ∧ c ≤ maxLen ∧ cur.size = c * size ∧ cur.toList.take (n * size) = xs := by
 rcases h.2 with ⟨h0, _⟩ | ⟨g, cap, cur, hv, h1, h2, h3, h4, h5, h6⟩
 · cases h0
 · injection hv with e1 e2 e3
   injection e1 with e1
   subst e3
   exact ⟨g, cur, e1, h1, h2, h3, h4, h5, h6⟩
theorem own_of_block {w : World} {base size n c g : Nat} {e : TypeId} {cur : Array Value} {xs : List Value} (h1 : base ≤ g) (h2 : w.heap[g]? = some (.cells cur e (0, 0))) (h3 : n ≤ c) (h4 : c ≤ maxLen) (h5 : cur.size = c * size) (h6 : cur.toList.take (n * size) = xs) :
   w.ownsRow base e size (.slice (some ⟨g, 0, none⟩) n c) n xs := by
 refine ⟨?_, .inr ⟨g, c, cur, rfl, h1, h2, h3, h4, h5, h6⟩⟩
 rw [← h6, List.length_take, Array.length_toList, h5]
 exact Nat.min_eq_left (Nat.mul_le_mul_right _ h3)
theorem own_set {W : World} {base g n c size : Nat} {t : TypeId} {xs : List Value} (h : W.ownsRow base t size (.slice (some ⟨g, 0, none⟩) n c) n xs) (q : Nat) (u : Value) :
   (W.setCell ⟨g, q, none⟩ u).ownsRow base t size (.slice (some ⟨g, 0, none⟩) n c) n (xs.set q u) := by
 obtain ⟨g', cur, e, hb, hh, hle, hm, hcs, ht⟩ := own_block h
 obtain rfl : g = g' := by injection e
 exact own_of_block (cur := cur.setIfInBounds q u) hb (by simp [World.setCell, Array.getElem?_modify, hh]) hle hm (by simp [hcs]) (by rw [Array.toList_setIfInBounds, List.take_set, ht])
theorem own_cell {W : World} {base g n c size q : Nat} {t : TypeId} {xs : List Value} (h : W.ownsRow base t size (.slice (some ⟨g, 0, none⟩) n c) n xs) (hq : q < n * size) : W.cell? ⟨g, q, none⟩ = xs[q]? ∧ W.frozen? ⟨g, q, none⟩ = false := by
 obtain ⟨g', cur, e, hb, hh, hle, hm, hcs, ht⟩ := own_block h
 obtain rfl : g = g' := by injection e
 have hqc : q < cur.size := by rw [hcs]; exact Nat.lt_of_lt_of_le hq (Nat.mul_le_mul_right _ hle)
 refine ⟨?_, by simp [World.frozen?, hh]⟩
 rw [← ht, List.getElem?_take_of_lt hq]
 simp [World.cell?, hh]
theorem own_some {w : World} {base size n : Nat} {e : TypeId} {v : Value} {xs : List Value} (h : w.ownsRow base e size v n xs) (hn : 0 < n) : ∃ g c, v = .slice (some ⟨g, 0, none⟩) n c ∧ g < w.heap.size ∧ n ≤ c ∧ c ≤ maxLen := by
 rcases h.2 with ⟨_, h0⟩ | ⟨g, cap, cur, hv, _, hg, hle, hm, _⟩
 · omega
 · exact ⟨g, cap, hv, (Array.getElem?_eq_some_iff.1 hg).1, hle, hm⟩
abbrev B := List UInt8
def isLet (c : UInt8) : Bool := (decide (97 ≤ c.toNat) && decide (c.toNat ≤ 122)) || (decide (65 ≤ c.toNat) && decide (c.toNat ≤ 90)) || decide (c.toNat = 95)
def isDig (c : UInt8) : Bool := decide (48 ≤ c.toNat) && decide (c.toNat ≤ 57)
def isCont (c : UInt8) : Bool := isLet c || isDig c || decide (c.toNat = 45) || decide (c.toNat = 46)
def isSym (c : UInt8) : Bool := c == 123 || c == 125 || c == 40 || c == 41 || c == 44 || c == 59
def notStr (c : UInt8) : Bool := c == 34 || c == 10
def run (f : UInt8 → Bool) : B → Nat
 | [] => 0
 | c :: t => if f c then run f t + 1 else 0
theorem run_le (f : UInt8 → Bool) : ∀ s, run f s ≤ s.length
 | [] => Nat.le_refl _
 | c :: t => by unfold run; have := run_le f t; split <;> simp <;> omega
theorem run_at (f : UInt8 → Bool) : ∀ (s : B) (k : Nat) (_h : k < run f s), ∃ hk : k < s.length, f s[k] = true
 | [], k, h => by simp [run] at h
 | c :: t, k, h => by
   unfold run at h
   split at h
   · rename_i hc
     cases k with
     | zero => exact ⟨by simp, hc⟩
     | succ k =>
       obtain ⟨hk, e⟩ := run_at f t k (by omega)
       exact ⟨by simp; omega, by simpa using e⟩
   · omega
theorem run_stop (f : UInt8 → Bool) : ∀ (s : B) (h : run f s < s.length), f s[run f s] = false
 | [], h => by simp at h
 | c :: t, h => by
   by_cases hc : f c = true
   · have e : run f (c :: t) = run f t + 1 := by rw [run, if_pos hc]
     have := run_stop f t (by rw [e] at h; simpa using h)
     simp only [e, List.getElem_cons_succ]; exact this
   · have e : run f (c :: t) = 0 := by rw [run, if_neg hc]
     simp only [e, List.getElem_cons_zero]; simpa using hc
theorem run_eq (f : UInt8 → Bool) (s : B) (k : Nat) (hk : k ≤ s.length) (h1 : ∀ i (hi : i < k), f (s[i]'(by omega)) = true) (h2 : ∀ h : k < s.length, f s[k] = false) : run f s = k := by
 rcases Nat.lt_trichotomy (run f s) k with h | h | h
 · have := run_stop f s (by omega); rw [h1 _ h] at this; cases this
 · exact h
 · obtain ⟨hk', e⟩ := run_at f s k h
   rw [h2 hk'] at e; cases e
def strLen (t : B) : Nat :=
 let k := run (fun c => !notStr c) t
 if t[k]? = some 34 then k + 2 else 0
def first : B → Nat × Nat
 | [] => (1, 0)
 | c :: t =>
   if isLet c then (2, run isCont (c :: t))
   else if isDig c then (3, run isDig (c :: t))
   else if isSym c then (5, 1)
   else if c = 34 ∧ strLen t ≠ 0 then (4, strLen t)
   else (0, 1)
theorem first_le (s : B) : (first s).2 ≤ s.length := by
 cases s with
 | nil => exact Nat.le_refl _
 | cons c t =>
   rw [first]
   split
   · exact run_le _ _
   · split
     · exact run_le _ _
     · split
       · simp
       · split
         · rename_i h
           have := h.2
           unfold strLen at this ⊢
           dsimp only at this ⊢
           split at this
           · rename_i h1
             rw [if_pos h1]
             have := (List.getElem?_eq_some_iff.1 h1).1
             simp; omega
           · exact absurd rfl this
         · simp
theorem first_pos {s : B} (h0 : s ≠ []) : 1 ≤ (first s).2 := by
 cases s with
 | nil => exact absurd rfl h0
 | cons c t =>
   rw [first]
   split
   · rename_i hc
     have : isCont c = true := by unfold isCont; rw [hc]; rfl
     rw [show run isCont (c :: t) = run isCont t + 1 by rw [run, if_pos this]]; exact Nat.le_add_left _ _
   · split
     · rename_i hc
       rw [show run isDig (c :: t) = run isDig t + 1 by rw [run, if_pos hc]]; exact Nat.le_add_left _ _
     · split
       · exact Nat.le_refl _
       · split
         · rename_i h; have := h.2; omega
         · exact Nat.le_refl _
def skip : Bool → B → Nat → B × Nat
 | _, [], n => ([], n)
 | true, c :: t, n => if c = 10 then skip false t (n + 1) else skip true t n
 | false, c :: t, n =>
   if c = 10 then skip false t (n + 1)
   else if c = 32 ∨ c = 9 ∨ c = 13 then skip false t n
   else if c = 35 then skip true t n
   else (c :: t, n)
theorem skip_len : ∀ (f : Bool) (s : B) (n : Nat), (skip f s n).1.length ≤ s.length ∧ n ≤ (skip f s n).2 ∧ (skip f s n).2 ≤ n + s.length
 | f, [], n => by cases f <;> simp [skip]
 | true, c :: t, n => by
   unfold skip
   split
   · have := skip_len false t (n + 1); simp; omega
   · have := skip_len true t n; simp; omega
 | false, c :: t, n => by
   unfold skip
   split
   · have := skip_len false t (n + 1); simp; omega
   · split
     · have := skip_len false t n; simp; omega
     · split
       · have := skip_len true t n; simp; omega
       · simp
theorem skip_comment (n : Nat) : ∀ s : B, skip true s n = skip false (s.drop (run (fun c => c != 10) s)) n
 | [] => by simp [skip]
 | c :: t => by
   by_cases hc : c = 10
   · subst hc
     simp [skip, run]
   · have h1 : (c != 10) = true := by simpa using hc
     rw [show run (fun c => c != 10) (c :: t) = run (fun c => c != 10) t + 1 by rw [run, if_pos h1]]
     rw [List.drop_succ_cons, ← skip_comment n t]
     rw [skip, if_neg hc]
structure Tok where
 cls : Nat
 txt : B
 ln : Nat
def next (s : B) (n : Nat) : Tok × B × Nat :=
 let p := skip false s n
 let f := first p.1
 (⟨f.1, p.1.take f.2, p.2⟩, p.1.drop f.2, p.2)
def toksF : Nat → B → Nat → List Tok
 | 0, _, _ => []
 | f + 1, s, n => let p := next s n; if p.1.cls ≤ 1 then [p.1] else p.1 :: toksF f p.2.1 p.2.2
def toks (s : B) (n : Nat) : List Tok := toksF (s.length + 1) s n
theorem next_len (s : B) (n : Nat) : (next s n).1.cls ≠ 1 → (next s n).2.1.length < s.length := by
 unfold next
 dsimp only
 intro h
 have h1 := (skip_len false s n).1
 have hne : (skip false s n).1 ≠ [] := fun e => h (by rw [e]; rfl)
 have h2 := first_pos hne
 have h3 := first_le (skip false s n).1
 rw [List.length_drop]; omega
theorem toksF_fuel : ∀ (f g : Nat) (s : B) (n : Nat), s.length < f → s.length < g → toksF f s n = toksF g s n
 | 0, _, _, _, h, _ => absurd h (Nat.not_lt_zero _)
 | _ + 1, 0, _, _, _, h => absurd h (Nat.not_lt_zero _)
 | f + 1, g + 1, s, n, hf, hg => by
   unfold toksF
   dsimp only
   split
   · rfl
   · rename_i h
     have := next_len s n (by omega)
     rw [toksF_fuel f g _ _ (by omega) (by omega)]
theorem toks_eq (s : B) (n : Nat) : toks s n = if (next s n).1.cls ≤ 1 then [(next s n).1] else (next s n).1 :: toks (next s n).2.1 (next s n).2.2 := by
 unfold toks
 rw [toksF]
 split
 · rfl
 · rename_i h
   have := next_len s n (by omega)
   rw [toksF_fuel _ ((next s n).2.1.length + 1) _ _ (by omega) (by omega)]
def BoolE (w : World) (b : Bool) (e : Ending) (w' : World) : Prop := e = .returned (.bool b) ∧ w' = w
theorem begins_any (c : UInt8) (w : World) : Calls Tryz.prog 130 #[.int .u8 (c.toNat : Int)] w (BoolE w (isLet c)) := by
 unfold BoolE
 have hc := c.toNat_lt
 obtain ⟨z, hz, h0, h1⟩ : ∃ z : Int, (c.toNat : Int) = z ∧ 0 ≤ z ∧ z ≤ 255 := ⟨_, rfl, by omega, by omega⟩
 have e : isLet c = ((decide (97 ≤ z) && decide (z ≤ 122)) || (decide (65 ≤ z) && decide (z ≤ 90)) || decide (z = 95)) := by
   unfold isLet
   rw [← hz]
   congr 1
   · congr 1
     · congr 1 <;> (apply decide_eq_decide.2; omega)
     · congr 1 <;> (apply decide_eq_decide.2; omega)
   · apply decide_eq_decide.2; omega
 rw [e, hz]
 clear e hz hc
 go_enter Tryz.func130, Tryz.ntmps130
 go_wp2
 all_goals (go_ret; refine ⟨ret_bool ?_, rfl⟩; first | rfl | (simp_all; done) | (simp; omega) | (rw [Bool.eq_iff_iff]; simp; omega))
theorem digit_any (c : UInt8) (w : World) : Calls Tryz.prog 133 #[.int .u8 (c.toNat : Int)] w (BoolE w (isDig c)) := by
 unfold BoolE
 have hc := c.toNat_lt
 obtain ⟨z, hz, h0, h1⟩ : ∃ z : Int, (c.toNat : Int) = z ∧ 0 ≤ z ∧ z ≤ 255 := ⟨_, rfl, by omega, by omega⟩
 have e : isDig c = (decide (48 ≤ z) && decide (z ≤ 57)) := by
   unfold isDig
   rw [← hz]
   congr 1 <;> (apply decide_eq_decide.2; omega)
 rw [e, hz]
 clear e hz hc
 go_enter Tryz.func133, Tryz.ntmps133
 go_wp2
 all_goals (go_ret; refine ⟨ret_bool ?_, rfl⟩; first | rfl | (simp_all; done) | (simp; omega) | (rw [Bool.eq_iff_iff]; simp; omega))
theorem cont_any (c : UInt8) (w : World) : Calls Tryz.prog 132 #[.int .u8 (c.toNat : Int)] w (BoolE w (isCont c)) := by
 have B := Lib.hid (begins_any c w)
 have D := Lib.hid (digit_any c w)
 unfold BoolE at B D ⊢
 unfold isCont
 have hc := c.toNat_lt
 obtain ⟨z, hz, h0, h1⟩ : ∃ z : Int, (c.toNat : Int) = z ∧ 0 ≤ z ∧ z ≤ 255 := ⟨_, rfl, by omega, by omega⟩
 have e1 : decide (c.toNat = 45) = decide (z = 45) := decide_eq_decide.2 (by omega)
 have e2 : decide (c.toNat = 46) = decide (z = 46) := decide_eq_decide.2 (by omega)
 obtain ⟨b, hb⟩ : ∃ b, isLet c = b := ⟨_, rfl⟩
 obtain ⟨d, hd⟩ : ∃ d, isDig c = d := ⟨_, rfl⟩
 rw [hz, hb] at B
 rw [hz, hd] at D
 rw [hz, hb, hd, e1, e2]
 clear hb hd e1 e2 hz hc
 have q45 : decide (z = 45) = (z == 45) := by rw [Bool.eq_iff_iff]; simp
 have q46 : decide (z = 46) = (z == 46) := by rw [Bool.eq_iff_iff]; simp
 rw [q45, q46]
 clear q45 q46
 obtain ⟨x, hx⟩ : ∃ x, (z == 45) = x := ⟨_, rfl⟩
 obtain ⟨y, hy⟩ : ∃ y, (z == 46) = y := ⟨_, rfl⟩
 cases b <;> cases d <;> cases x <;> cases y
 all_goals
   go_enter Tryz.func132, Tryz.ntmps132
   go_wp2_with (first
     | (go_at_call 130; ((with_reducible refine B.out.mono ?_); rintro e w1 ⟨rfl, rfl⟩))
     | (go_at_call 133; ((with_reducible refine D.out.mono ?_); rintro e w2 ⟨rfl, rfl⟩))
     | (fail "arm"))
   all_goals (go_ret; refine ⟨ret_bool ?_, rfl⟩; first | rfl | (simp [hx, hy]; done) | simp_all)
theorem runCont_any (s : ByteArray) (hs : s.size ≤ 281474976710656) (w : World) :
   Calls Tryz.prog 131 #[.string s, .func (.func 132) #[] #[]] w fun e w' => e = .returned (.int .i64 ((run isCont s.data.toList : Nat) : Int)) ∧ w' = w := by
 obtain ⟨R, hR⟩ : ∃ R, run isCont s.data.toList = R := ⟨_, rfl⟩
 have hRl : R ≤ s.size := by rw [← hR]; have := run_le isCont s.data.toList; rwa [data_len] at this
 have HA := Lib.hid (fun (k : Nat) (h : k < R) (hs : k < s.size) => (show isCont s[k] = true from by
   obtain ⟨_, h2⟩ := run_at isCont s.data.toList k (by rw [hR]; exact h)
   show isCont s.data[k] = true
   simpa using h2))
 have HZ := Lib.hid (fun (h : R < s.size) => (show isCont s[R] = false from by
   have := run_stop isCont s.data.toList (by rw [hR, data_len]; exact h)
   simp only [hR] at this
   first | (show isCont s.data[R] = false; simpa using this) | (show isDig s.data[R] = false; simpa using this)))
 have HF := Lib.hid cont_any
 unfold BoolE at HF
 rw [hR]
 have hsi : (s.size : Int) ≤ 281474976710656 := by omega
 clear hR
 go_enter Tryz.func131, Tryz.ntmps131
 go_upto_region 2 with fail
 go_loopw [5] (fun v5 wr => ∃ k : Nat, v5 = .int .i64 (k : Int) ∧ k ≤ R ∧ wr = w) (fun v5 _ => R - (intOf v5).toNat)
 case atStart => exact ⟨0, rfl, Nat.zero_le _, rfl⟩
 case round =>
   obtain ⟨k, rfl, hk, hww⟩ := hrel
   rw [hww]
   clear hww
   have k0 : (0 : Int) ≤ (k : Int) := Int.natCast_nonneg _
   by_cases hkR : k < R
   · have hks : k < s.size := by omega
     have k1 : (k : Int) < (s.size : Int) := by omega
     have hp := HA.out k hkR hks
     have C := Lib.hid (HF.out s[k] w)
     rw [hp] at C
     clear hp
     go_wp2_with (first
       | (go_at_call 132; ((with_reducible refine C.out.mono ?_); rintro e w1 ⟨rfl, rfl⟩))
       | (fail "arm"))
     go_roundw
     case rel => exact ⟨k + 1, by go_num, by omega, by simp⟩
     case measure => simp [intOf]; omega
   · obtain rfl : R = k := by omega
     by_cases hks : R < s.size
     · have k1 : (R : Int) < (s.size : Int) := by omega
       have hp := HZ.out hks
       have C := Lib.hid (HF.out s[R] w)
       rw [hp] at C
       clear hp
       go_wp2_with (first
         | (go_at_call 132; ((with_reducible refine C.out.mono ?_); rintro e w1 ⟨rfl, rfl⟩))
         | (fail "arm"))
       go_ret
       exact ⟨rfl, rfl⟩
     · have k1 : ¬ (R : Int) < (s.size : Int) := by omega
       go_wp2
       go_ret
       exact ⟨rfl, rfl⟩
theorem runDig_any (s : ByteArray) (hs : s.size ≤ 281474976710656) (w : World) :
   Calls Tryz.prog 131 #[.string s, .func (.func 133) #[] #[]] w fun e w' => e = .returned (.int .i64 ((run isDig s.data.toList : Nat) : Int)) ∧ w' = w := by
 obtain ⟨R, hR⟩ : ∃ R, run isDig s.data.toList = R := ⟨_, rfl⟩
 have hRl : R ≤ s.size := by rw [← hR]; have := run_le isDig s.data.toList; rwa [data_len] at this
 have HA := Lib.hid (fun (k : Nat) (h : k < R) (hs : k < s.size) => (show isDig s[k] = true from by
   obtain ⟨_, h2⟩ := run_at isDig s.data.toList k (by rw [hR]; exact h)
   show isDig s.data[k] = true
   simpa using h2))
 have HZ := Lib.hid (fun (h : R < s.size) => (show isDig s[R] = false from by
   have := run_stop isDig s.data.toList (by rw [hR, data_len]; exact h)
   simp only [hR] at this
   first | (show isCont s.data[R] = false; simpa using this) | (show isDig s.data[R] = false; simpa using this)))
 have HF := Lib.hid digit_any
 unfold BoolE at HF
 rw [hR]
 have hsi : (s.size : Int) ≤ 281474976710656 := by omega
 clear hR
 go_enter Tryz.func131, Tryz.ntmps131
 go_upto_region 2 with fail
 go_loopw [5] (fun v5 wr => ∃ k : Nat, v5 = .int .i64 (k : Int) ∧ k ≤ R ∧ wr = w) (fun v5 _ => R - (intOf v5).toNat)
 case atStart => exact ⟨0, rfl, Nat.zero_le _, rfl⟩
 case round =>
   obtain ⟨k, rfl, hk, hww⟩ := hrel
   rw [hww]
   clear hww
   have k0 : (0 : Int) ≤ (k : Int) := Int.natCast_nonneg _
   by_cases hkR : k < R
   · have hks : k < s.size := by omega
     have k1 : (k : Int) < (s.size : Int) := by omega
     have hp := HA.out k hkR hks
     have C := Lib.hid (HF.out s[k] w)
     rw [hp] at C
     clear hp
     go_wp2_with (first
       | (go_at_call 133; ((with_reducible refine C.out.mono ?_); rintro e w1 ⟨rfl, rfl⟩))
       | (fail "arm"))
     go_roundw
     case rel => exact ⟨k + 1, by go_num, by omega, by simp⟩
     case measure => simp [intOf]; omega
   · obtain rfl : R = k := by omega
     by_cases hks : R < s.size
     · have k1 : (R : Int) < (s.size : Int) := by omega
       have hp := HZ.out hks
       have C := Lib.hid (HF.out s[R] w)
       rw [hp] at C
       clear hp
       go_wp2_with (first
         | (go_at_call 133; ((with_reducible refine C.out.mono ?_); rintro e w1 ⟨rfl, rfl⟩))
         | (fail "arm"))
       go_ret
       exact ⟨rfl, rfl⟩
     · have k1 : ¬ (R : Int) < (s.size : Int) := by omega
       go_wp2
       go_ret
       exact ⟨rfl, rfl⟩
end Go.Proofs.YtcjoiiaankngjaaGreatDoor
namespace Go.Proofs
open Go.Shelf
def Tryz.lays156_ren : Go.Shelf.Ren := ⟨fun | 156 => 87 | 165 => 119 | 166 => 85 | 169 => 36 | 240 => 118 | 241 => 137 | 276 => 136 | 277 => 154 | n => n, fun | 31 => 34 | 9 => 9 | 3 => 3 | 4 => 4 | 0 => 0 | 20 => 20 | 72 => 75 | 76 => 134 | 70 => 72 | 37 => 73 | 75 => 133 | 127 => 112 | 164 => 160 | 5 => 5 | 80 => 79 | n => n, fun | n => n⟩
theorem Tryz.lays156 : Go.Proofs.Lays.n156 Tryz.prog Tryz.lays156_ren := {
 mixed := by kernel_rfl
 f156 := Tryz.func87.trans (congrArg some (by kernel_rfl))
 f165 := Tryz.func119.trans (congrArg some (by kernel_rfl))
 f166 := Tryz.func85.trans (congrArg some (by kernel_rfl))
 f169 := Tryz.func36.trans (congrArg some (by kernel_rfl))
 f240 := Tryz.func118.trans (congrArg some (by kernel_rfl))
 f241 := Tryz.func137.trans (congrArg some (by kernel_rfl))
 f276 := Tryz.func136.trans (congrArg some (by kernel_rfl))
 f277 := Tryz.func154.trans (congrArg some (by kernel_rfl))
 t0 := Tryz.underlying0
 a0 := Tryz.isAgg0
 z0 := Tryz.sizeOf0
 v0 := Tryz.zeroValue0
 t3 := Tryz.underlying3
 a3 := Tryz.isAgg3
 z3 := Tryz.sizeOf3
 v3 := Tryz.zeroValue3
 t4 := Tryz.underlying4
 a4 := Tryz.isAgg4
 z4 := Tryz.sizeOf4
 v4 := Tryz.zeroValue4
 t9 := Tryz.underlying9
 a9 := Tryz.isAgg9
 z9 := Tryz.sizeOf9
 v9 := Tryz.zeroValue9
 t20 := Tryz.underlying20
 a20 := Tryz.isAgg20
 z20 := Tryz.sizeOf20
 v20 := Tryz.zeroValue20
 t31 := Tryz.underlying34
 a31 := Tryz.isAgg34
 z31 := Tryz.sizeOf34
 v31 := Tryz.zeroValue34
 t37 := Tryz.underlying73
 a37 := Tryz.isAgg73
 z37 := Tryz.sizeOf73
 v37 := Tryz.zeroValue73
 t70 := Tryz.underlying72
 a70 := Tryz.isAgg72
 z70 := Tryz.sizeOf72
 v70 := Tryz.zeroValue72
 t72 := Tryz.underlying75
 a72 := Tryz.isAgg75
 z72 := Tryz.sizeOf75
 v72 := Tryz.zeroValue75
 t75 := Tryz.underlying133
 a75 := Tryz.isAgg133
 z75 := Tryz.sizeOf133
 v75 := Tryz.zeroValue133
 t76 := Tryz.underlying134
 a76 := Tryz.isAgg134
 z76 := Tryz.sizeOf134
 v76 := Tryz.zeroValue134
 t127 := Tryz.underlying112
 a127 := Tryz.isAgg112
 z127 := Tryz.sizeOf112
 v127 := Tryz.zeroValue112
 t164 := Tryz.underlying160
 a164 := Tryz.isAgg160
 z164 := Tryz.sizeOf160
 v164 := Tryz.zeroValue160 }
theorem Tryz.Builder_Extra_156 : Builder.Extra Tryz.prog Tryz.lays156_ren := {
 sizeBuilder := by kernel_rfl
 liesBuilder := by kernel_rfl
 t5 := Tryz.underlying5
 a5 := Tryz.isAgg5
 z5 := Tryz.sizeOf5
 v5 := Tryz.zeroValue5
 infoByte := by kernel_rfl
 cellsByte := by kernel_rfl
 sizeByte := by kernel_rfl
 neB5 := by decide }
open Go.RowKit in
theorem Tryz.strings_Join_none (a : Option Addr) (c : Nat) (sep : ByteArray) (w : World) :
   Calls Tryz.prog 87 #[.slice a 0 c, .string sep] w fun e w' => e = .returned (.string ⟨#[]⟩) ∧ w' = w := Any.strings_Join_none Tryz.lays156 Tryz.Builder_Extra_156 a c sep w
open Go.RowKit in
theorem Tryz.strings_Join (bk o c : Nat) (xs : List ByteArray) (sep : ByteArray) (w : World) (hcells : ∀ (j : Nat) x, xs[j]? = some x → w.cell? ⟨bk, o + j, none⟩ = some (.string x)) (hbk : bk < w.heap.size) (hN : xs.length ≤ 140737488355328) (hcap : xs.length ≤ c) (hlen : (Lib.join (xs.map (·.data.toList)) sep.data.toList).length ≤ 140737488355328) :
   Calls Tryz.prog 87 #[.slice (some ⟨bk, o, none⟩) xs.length c, .string sep] w fun e w' => e = .returned (.string ⟨(Lib.join (xs.map (·.data.toList)) sep.data.toList).toArray⟩) ∧ Below w.heap.size w w' := Any.strings_Join Tryz.lays156 Tryz.Builder_Extra_156 bk o c xs sep w hcells hbk hN hcap hlen
def Tryz.lays160_ren : Go.Shelf.Ren := ⟨fun | 160 => 127 | 232 => 142 | 231 => 141 | 227 => 143 | 234 => 145 | 233 => 144 | 236 => 147 | 235 => 146 | 228 => 153 | 271 => 161 | 151 => 160 | 197 => 159 | 120 => 177 | 152 => 151 | 260 => 176 | 137 => 134 | 119 => 168 | 224 => 169 | 225 => 170 | 217 => 150 | 266 => 167 | n => n, fun | 9 => 9 | 4 => 4 | 3 => 3 | 5 => 5 | 117 => 167 | 116 => 166 | 0 => 0 | 124 => 170 | 21 => 21 | 105 => 181 | 46 => 191 | 119 => 203 | 139 => 206 | 138 => 205 | n => n, fun | 3 => 5 | 4 => 6 | n => n⟩
theorem Tryz.lays160 : Go.Proofs.Lays.n160 Tryz.prog Tryz.lays160_ren := {
 mixed := by kernel_rfl
 f119 := Tryz.func168.trans (congrArg some (by kernel_rfl))
 f120 := Tryz.func177.trans (congrArg some (by kernel_rfl))
 f137 := Tryz.func134.trans (congrArg some (by kernel_rfl))
 f151 := Tryz.func160.trans (congrArg some (by kernel_rfl))
 f152 := Tryz.func151.trans (congrArg some (by kernel_rfl))
 f160 := Tryz.func127.trans (congrArg some (by kernel_rfl))
 f197 := Tryz.func159.trans (congrArg some (by kernel_rfl))
 f217 := Tryz.func150.trans (congrArg some (by kernel_rfl))
 f224 := Tryz.func169.trans (congrArg some (by kernel_rfl))
 f225 := Tryz.func170.trans (congrArg some (by kernel_rfl))
 f227 := Tryz.func143.trans (congrArg some (by kernel_rfl))
 f228 := Tryz.func153.trans (congrArg some (by kernel_rfl))
 f231 := Tryz.func141.trans (congrArg some (by kernel_rfl))
 f232 := Tryz.func142.trans (congrArg some (by kernel_rfl))
 f233 := Tryz.func144.trans (congrArg some (by kernel_rfl))
 f234 := Tryz.func145.trans (congrArg some (by kernel_rfl))
 f235 := Tryz.func146.trans (congrArg some (by kernel_rfl))
 f236 := Tryz.func147.trans (congrArg some (by kernel_rfl))
 f260 := Tryz.func176.trans (congrArg some (by kernel_rfl))
 f266 := Tryz.func167.trans (congrArg some (by kernel_rfl))
 f271 := Tryz.func161.trans (congrArg some (by kernel_rfl))
 t0 := Tryz.underlying0
 a0 := Tryz.isAgg0
 z0 := Tryz.sizeOf0
 v0 := Tryz.zeroValue0
 t3 := Tryz.underlying3
 a3 := Tryz.isAgg3
 z3 := Tryz.sizeOf3
 v3 := Tryz.zeroValue3
 t4 := Tryz.underlying4
 a4 := Tryz.isAgg4
 z4 := Tryz.sizeOf4
 v4 := Tryz.zeroValue4
 t5 := Tryz.underlying5
 a5 := Tryz.isAgg5
 z5 := Tryz.sizeOf5
 v5 := Tryz.zeroValue5
 t9 := Tryz.underlying9
 a9 := Tryz.isAgg9
 z9 := Tryz.sizeOf9
 v9 := Tryz.zeroValue9
 t21 := Tryz.underlying21
 a21 := Tryz.isAgg21
 z21 := Tryz.sizeOf21
 v21 := Tryz.zeroValue21
 t46 := Tryz.underlying191
 a46 := Tryz.isAgg191
 z46 := Tryz.sizeOf191
 v46 := Tryz.zeroValue191
 t105 := Tryz.underlying181
 a105 := Tryz.isAgg181
 z105 := Tryz.sizeOf181
 v105 := Tryz.zeroValue181
 t116 := Tryz.underlying166
 a116 := Tryz.isAgg166
 z116 := Tryz.sizeOf166
 t117 := Tryz.underlying167
 a117 := Tryz.isAgg167
 z117 := Tryz.sizeOf167
 v117 := Tryz.zeroValue167
 t119 := Tryz.underlying203
 a119 := Tryz.isAgg203
 z119 := Tryz.sizeOf203
 t124 := Tryz.underlying170
 a124 := Tryz.isAgg170
 z124 := Tryz.sizeOf170
 v124 := Tryz.zeroValue170
 t138 := Tryz.underlying205
 a138 := Tryz.isAgg205
 z138 := Tryz.sizeOf205
 v138 := Tryz.zeroValue205
 t139 := Tryz.underlying206
 a139 := Tryz.isAgg206
 z139 := Tryz.sizeOf206
 v139 := Tryz.zeroValue206
 g3 := by kernel_rfl
 g4 := by kernel_rfl }
open Go.RowKit in
theorem Tryz.strings_Trim_one (s : ByteArray) (c : UInt8) (hc : c.toNat < 128) (w : World) (hs : s.size ≤ 9223372036854775807) :
   Calls Tryz.prog 127 #[.string s, .string ⟨#[c]⟩] w fun e w' => e = .returned (.string ⟨(Lib.trimB s.data.toList c).toArray⟩) ∧ (w' = w ∨ w' = w.drew) := Any.strings_Trim_one Tryz.lays160 s c hc w hs
def Tryz.lays137_ren : Go.Shelf.Ren := ⟨fun | 137 => 134 | 217 => 150 | 266 => 167 | n => n, fun | 9 => 9 | 5 => 5 | 3 => 3 | n => n, fun | n => n⟩
theorem Tryz.lays137 : Go.Proofs.Lays.n137 Tryz.prog Tryz.lays137_ren := {
 mixed := by kernel_rfl
 f137 := Tryz.func134.trans (congrArg some (by kernel_rfl))
 f217 := Tryz.func150.trans (congrArg some (by kernel_rfl))
 f266 := Tryz.func167.trans (congrArg some (by kernel_rfl))
 t3 := Tryz.underlying3
 a3 := Tryz.isAgg3
 z3 := Tryz.sizeOf3
 v3 := Tryz.zeroValue3
 t5 := Tryz.underlying5
 a5 := Tryz.isAgg5
 z5 := Tryz.sizeOf5
 v5 := Tryz.zeroValue5
 t9 := Tryz.underlying9
 a9 := Tryz.isAgg9
 z9 := Tryz.sizeOf9
 v9 := Tryz.zeroValue9 }
open Go.RowKit in
theorem Tryz.strings_IndexByte (s : ByteArray) (c : Int) (w : World) :
   Calls Tryz.prog 134 #[.string s, .int .u8 c] w fun e w' => e = .returned (.int .i64 (Lib.indexByte s.data.toList c.toNat.toUInt8)) ∧ w' = w := Any.strings_IndexByte Tryz.lays137 s c w
def Tryz.laysM171_ren : Go.Shelf.Ren := ⟨fun | 171 => 89 | 243 => 123 | 246 => 139 | 283 => 155 | 284 => 156 | 285 => 157 | 286 => 158 | 129 => 172 | 317 => 171 | 318 => 173 | 319 => 174 | 320 => 175 | 337 => 181 | 338 => 182 | n => n, fun | 3 => 3 | 9 => 9 | 2 => 2 | 4 => 4 | 171 => 175 | 0 => 0 | 53 => 176 | 37 => 73 | 5 => 5 | 173 => 179 | 212 => 193 | 51 => 194 | 20 => 20 | 213 => 195 | 46 => 191 | 232 => 211 | 233 => 212 | n => n, fun | 17 => 2 | 18 => 7 | 19 => 8 | n => n⟩
theorem Tryz.laysM171 : Go.Proofs.LaysM.n171 Tryz.prog Tryz.laysM171_ren := {
 mixed := by kernel_rfl
 f129 := Tryz.func172.trans (congrArg some (by kernel_rfl))
 f171 := Tryz.func89.trans (congrArg some (by kernel_rfl))
 f243 := Tryz.func123.trans (congrArg some (by kernel_rfl))
 f246 := Tryz.func139.trans (congrArg some (by kernel_rfl))
 f283 := Tryz.func155.trans (congrArg some (by kernel_rfl))
 f284 := Tryz.func156.trans (congrArg some (by kernel_rfl))
 f285 := Tryz.func157.trans (congrArg some (by kernel_rfl))
 f286 := Tryz.func158.trans (congrArg some (by kernel_rfl))
 f317 := Tryz.func171.trans (congrArg some (by kernel_rfl))
 f318 := Tryz.func173.trans (congrArg some (by kernel_rfl))
 f319 := Tryz.func174.trans (congrArg some (by kernel_rfl))
 f320 := Tryz.func175.trans (congrArg some (by kernel_rfl))
 f337 := Tryz.func181.trans (congrArg some (by kernel_rfl))
 f338 := Tryz.func182.trans (congrArg some (by kernel_rfl))
 t0 := Tryz.underlying0
 a0 := Tryz.isAgg0
 z0 := Tryz.sizeOf0
 v0 := Tryz.zeroValue0
 t2 := Tryz.underlying2
 a2 := Tryz.isAgg2
 z2 := Tryz.sizeOf2
 v2 := Tryz.zeroValue2
 t3 := Tryz.underlying3
 a3 := Tryz.isAgg3
 z3 := Tryz.sizeOf3
 v3 := Tryz.zeroValue3
 t4 := Tryz.underlying4
 a4 := Tryz.isAgg4
 z4 := Tryz.sizeOf4
 v4 := Tryz.zeroValue4
 t5 := Tryz.underlying5
 a5 := Tryz.isAgg5
 z5 := Tryz.sizeOf5
 v5 := Tryz.zeroValue5
 t9 := Tryz.underlying9
 a9 := Tryz.isAgg9
 z9 := Tryz.sizeOf9
 v9 := Tryz.zeroValue9
 t20 := Tryz.underlying20
 a20 := Tryz.isAgg20
 z20 := Tryz.sizeOf20
 v20 := Tryz.zeroValue20
 t37 := Tryz.underlying73
 a37 := Tryz.isAgg73
 z37 := Tryz.sizeOf73
 v37 := Tryz.zeroValue73
 t46 := Tryz.underlying191
 a46 := Tryz.isAgg191
 z46 := Tryz.sizeOf191
 v46 := Tryz.zeroValue191
 t51 := Tryz.underlying194
 a51 := Tryz.isAgg194
 z51 := Tryz.sizeOf194
 v51 := Tryz.zeroValue194
 t53 := Tryz.underlying176
 a53 := Tryz.isAgg176
 z53 := Tryz.sizeOf176
 v53 := Tryz.zeroValue176
 t171 := Tryz.underlying175
 a171 := Tryz.isAgg175
 z171 := Tryz.sizeOf175
 v171 := Tryz.zeroValue175
 t173 := Tryz.underlying179
 a173 := Tryz.isAgg179
 z173 := Tryz.sizeOf179
 v173 := Tryz.zeroValue179
 t212 := Tryz.underlying193
 a212 := Tryz.isAgg193
 z212 := Tryz.sizeOf193
 v212 := Tryz.zeroValue193
 t213 := Tryz.underlying195
 a213 := Tryz.isAgg195
 z213 := Tryz.sizeOf195
 t232 := Tryz.underlying211
 a232 := Tryz.isAgg211
 z232 := Tryz.sizeOf211
 v232 := Tryz.zeroValue211
 t233 := Tryz.underlying212
 a233 := Tryz.isAgg212
 z233 := Tryz.sizeOf212
 v233 := Tryz.zeroValue212
 g17 := by kernel_rfl
 g18 := by kernel_rfl
 g19 := by kernel_rfl
 i0 := by kernel_rfl
 i2 := by kernel_rfl
 i3 := by kernel_rfl
 i4 := by kernel_rfl
 i5 := by kernel_rfl
 i9 := by kernel_rfl
 i20 := by kernel_rfl
 i37 := by kernel_rfl
 i46 := by kernel_rfl
 i51 := by kernel_rfl
 i53 := by kernel_rfl
 i171 := by kernel_rfl
 i173 := by kernel_rfl
 i212 := by kernel_rfl
 i232 := by kernel_rfl
 i233 := by kernel_rfl
 m17 := by kernel_rfl
 m18 := by kernel_rfl
 m19 := by kernel_rfl }
open Go.RowKit Go.Sort Go.Lib in
theorem Tryz.strconv_Itoa (n : Int) (h0 : -9223372036854775808 ≤ n) (h1 : n ≤ 9223372036854775807) (w : World) (htab : Lib.TabIs Tryz.prog w "internal/strconv.uint64pow10" .u64 Lib.pow10Tab) :
   Calls Tryz.prog 89 #[.int .i64 n] w fun e w' => e = .returned (.string ⟨(Lib.itoa n).toArray⟩) ∧ ∃ k os, w' = grow (w.drewN k) os := Any.strconv_Itoa Tryz.laysM171 n h0 h1 w htab
def Tryz.laysC172_ren : Go.Shelf.Ren := ⟨fun | 172 => 128 | 244 => 148 | 245 => 149 | 247 => 162 | 279 => 163 | 280 => 164 | 281 => 165 | 282 => 166 | 287 => 178 | 316 => 179 | 171 => 89 | 205 => 180 | 321 => 183 | 322 => 184 | 243 => 123 | 246 => 139 | 283 => 155 | 284 => 156 | 285 => 157 | 286 => 158 | 129 => 172 | 317 => 171 | 318 => 173 | 319 => 174 | 320 => 175 | 337 => 181 | 338 => 182 | n => n, fun | 9 => 9 | 3 => 3 | 75 => 133 | 76 => 134 | 4 => 4 | 5 => 5 | 167 => 184 | 37 => 73 | 0 => 0 | 85 => 185 | 2 => 2 | 168 => 187 | 53 => 176 | 175 => 197 | 46 => 191 | 210 => 200 | 127 => 112 | 145 => 210 | 143 => 208 | 21 => 21 | 171 => 175 | 173 => 179 | 212 => 193 | 51 => 194 | 20 => 20 | 213 => 195 | 232 => 211 | 233 => 212 | 80 => 79 | n => n, fun | 15 => 3 | 16 => 4 | 17 => 2 | 18 => 7 | 19 => 8 | n => n⟩
theorem Tryz.laysC172 : Go.Proofs.LaysC.n172 Tryz.prog Tryz.laysC172_ren := {
 mixed := by kernel_rfl
 f129 := Tryz.func172.trans (congrArg some (by kernel_rfl))
 f171 := Tryz.func89.trans (congrArg some (by kernel_rfl))
 f172 := Tryz.func128.trans (congrArg some (by kernel_rfl))
 f205 := Tryz.func180.trans (congrArg some (by kernel_rfl))
 f243 := Tryz.func123.trans (congrArg some (by kernel_rfl))
 f244 := Tryz.func148.trans (congrArg some (by kernel_rfl))
 f245 := Tryz.func149.trans (congrArg some (by kernel_rfl))
 f246 := Tryz.func139.trans (congrArg some (by kernel_rfl))
 f247 := Tryz.func162.trans (congrArg some (by kernel_rfl))
 f279 := Tryz.func163.trans (congrArg some (by kernel_rfl))
 f280 := Tryz.func164.trans (congrArg some (by kernel_rfl))
 f281 := Tryz.func165.trans (congrArg some (by kernel_rfl))
 f282 := Tryz.func166.trans (congrArg some (by kernel_rfl))
 f283 := Tryz.func155.trans (congrArg some (by kernel_rfl))
 f284 := Tryz.func156.trans (congrArg some (by kernel_rfl))
 f285 := Tryz.func157.trans (congrArg some (by kernel_rfl))
 f286 := Tryz.func158.trans (congrArg some (by kernel_rfl))
 f287 := Tryz.func178.trans (congrArg some (by kernel_rfl))
 f316 := Tryz.func179.trans (congrArg some (by kernel_rfl))
 f317 := Tryz.func171.trans (congrArg some (by kernel_rfl))
 f318 := Tryz.func173.trans (congrArg some (by kernel_rfl))
 f319 := Tryz.func174.trans (congrArg some (by kernel_rfl))
 f320 := Tryz.func175.trans (congrArg some (by kernel_rfl))
 f321 := Tryz.func183.trans (congrArg some (by kernel_rfl))
 f322 := Tryz.func184.trans (congrArg some (by kernel_rfl))
 f337 := Tryz.func181.trans (congrArg some (by kernel_rfl))
 f338 := Tryz.func182.trans (congrArg some (by kernel_rfl))
 t0 := Tryz.underlying0
 a0 := Tryz.isAgg0
 z0 := Tryz.sizeOf0
 v0 := Tryz.zeroValue0
 t2 := Tryz.underlying2
 a2 := Tryz.isAgg2
 z2 := Tryz.sizeOf2
 v2 := Tryz.zeroValue2
 t3 := Tryz.underlying3
 a3 := Tryz.isAgg3
 z3 := Tryz.sizeOf3
 v3 := Tryz.zeroValue3
 t4 := Tryz.underlying4
 a4 := Tryz.isAgg4
 z4 := Tryz.sizeOf4
 v4 := Tryz.zeroValue4
 t5 := Tryz.underlying5
 a5 := Tryz.isAgg5
 z5 := Tryz.sizeOf5
 v5 := Tryz.zeroValue5
 t9 := Tryz.underlying9
 a9 := Tryz.isAgg9
 z9 := Tryz.sizeOf9
 v9 := Tryz.zeroValue9
 t20 := Tryz.underlying20
 a20 := Tryz.isAgg20
 z20 := Tryz.sizeOf20
 v20 := Tryz.zeroValue20
 t21 := Tryz.underlying21
 a21 := Tryz.isAgg21
 z21 := Tryz.sizeOf21
 v21 := Tryz.zeroValue21
 t37 := Tryz.underlying73
 a37 := Tryz.isAgg73
 z37 := Tryz.sizeOf73
 v37 := Tryz.zeroValue73
 t46 := Tryz.underlying191
 a46 := Tryz.isAgg191
 z46 := Tryz.sizeOf191
 v46 := Tryz.zeroValue191
 t51 := Tryz.underlying194
 a51 := Tryz.isAgg194
 z51 := Tryz.sizeOf194
 v51 := Tryz.zeroValue194
 t53 := Tryz.underlying176
 a53 := Tryz.isAgg176
 z53 := Tryz.sizeOf176
 v53 := Tryz.zeroValue176
 t75 := Tryz.underlying133
 a75 := Tryz.isAgg133
 z75 := Tryz.sizeOf133
 v75 := Tryz.zeroValue133
 t76 := Tryz.underlying134
 a76 := Tryz.isAgg134
 z76 := Tryz.sizeOf134
 v76 := Tryz.zeroValue134
 t85 := Tryz.underlying185
 a85 := Tryz.isAgg185
 z85 := Tryz.sizeOf185
 v85 := Tryz.zeroValue185
 t127 := Tryz.underlying112
 a127 := Tryz.isAgg112
 z127 := Tryz.sizeOf112
 v127 := Tryz.zeroValue112
 t143 := Tryz.underlying208
 a143 := Tryz.isAgg208
 z143 := Tryz.sizeOf208
 v143 := Tryz.zeroValue208
 t145 := Tryz.underlying210
 a145 := Tryz.isAgg210
 z145 := Tryz.sizeOf210
 v145 := Tryz.zeroValue210
 t167 := Tryz.underlying184
 a167 := Tryz.isAgg184
 z167 := Tryz.sizeOf184
 v167 := Tryz.zeroValue184
 t168 := Tryz.underlying187
 a168 := Tryz.isAgg187
 z168 := Tryz.sizeOf187
 v168 := Tryz.zeroValue187
 t171 := Tryz.underlying175
 a171 := Tryz.isAgg175
 z171 := Tryz.sizeOf175
 v171 := Tryz.zeroValue175
 t173 := Tryz.underlying179
 a173 := Tryz.isAgg179
 z173 := Tryz.sizeOf179
 v173 := Tryz.zeroValue179
 t175 := Tryz.underlying197
 a175 := Tryz.isAgg197
 z175 := Tryz.sizeOf197
 v175 := Tryz.zeroValue197
 t210 := Tryz.underlying200
 a210 := Tryz.isAgg200
 z210 := Tryz.sizeOf200
 v210 := Tryz.zeroValue200
 t212 := Tryz.underlying193
 a212 := Tryz.isAgg193
 z212 := Tryz.sizeOf193
 v212 := Tryz.zeroValue193
 t213 := Tryz.underlying195
 a213 := Tryz.isAgg195
 z213 := Tryz.sizeOf195
 t232 := Tryz.underlying211
 a232 := Tryz.isAgg211
 z232 := Tryz.sizeOf211
 v232 := Tryz.zeroValue211
 t233 := Tryz.underlying212
 a233 := Tryz.isAgg212
 z233 := Tryz.sizeOf212
 v233 := Tryz.zeroValue212
 g15 := by kernel_rfl
 g16 := by kernel_rfl
 g17 := by kernel_rfl
 g18 := by kernel_rfl
 g19 := by kernel_rfl
 t80 := Tryz.underlying79
 a80 := Tryz.isAgg79
 z80 := Tryz.sizeOf79
 v80 := Tryz.zeroValue79
 i0 := by kernel_rfl
 i2 := by kernel_rfl
 i3 := by kernel_rfl
 i4 := by kernel_rfl
 i5 := by kernel_rfl
 i9 := by kernel_rfl
 i20 := by kernel_rfl
 i21 := by kernel_rfl
 i37 := by kernel_rfl
 i46 := by kernel_rfl
 i51 := by kernel_rfl
 i53 := by kernel_rfl
 i75 := by kernel_rfl
 i76 := by kernel_rfl
 i80 := by kernel_rfl
 i85 := by kernel_rfl
 i127 := by kernel_rfl
 i143 := by kernel_rfl
 i145 := by kernel_rfl
 i167 := by kernel_rfl
 i168 := by kernel_rfl
 i171 := by kernel_rfl
 i173 := by kernel_rfl
 i175 := by kernel_rfl
 i210 := by kernel_rfl
 i212 := by kernel_rfl
 i232 := by kernel_rfl
 i233 := by kernel_rfl
 m15 := by kernel_rfl
 m16 := by kernel_rfl
 m17 := by kernel_rfl
 m18 := by kernel_rfl
 m19 := by kernel_rfl
 c0 := by kernel_rfl
 c2 := by kernel_rfl
 c3 := by kernel_rfl
 c4 := by kernel_rfl
 c5 := by kernel_rfl
 c9 := by kernel_rfl
 c20 := by kernel_rfl
 c21 := by kernel_rfl
 c37 := by kernel_rfl
 c46 := by kernel_rfl
 c51 := by kernel_rfl
 c53 := by kernel_rfl
 c75 := by kernel_rfl
 c76 := by kernel_rfl
 c80 := by kernel_rfl
 c85 := by kernel_rfl
 c127 := by kernel_rfl
 c143 := by kernel_rfl
 c145 := by kernel_rfl
 c167 := by kernel_rfl
 c168 := by kernel_rfl
 c171 := by kernel_rfl
 c173 := by kernel_rfl
 c175 := by kernel_rfl
 c210 := by kernel_rfl
 c212 := by kernel_rfl
 c213 := by kernel_rfl
 c232 := by kernel_rfl
 c233 := by kernel_rfl }
open Go.RowKit in
theorem Tryz.strconv_Atoi_ok (s : ByteArray) (hmax : s.size ≤ 9223372036854775806) (v : Int) (h : Lib.atoiAll s.data.toList = .ok v) (w : World) :
   Calls Tryz.prog 128 #[.string s] w fun e w' => e = .returned (.tuple #[.int .i64 v, .nilIface]) ∧ (w' = w ∨ ∃ t, w' = Lib.bytesWorld w 5 t) := Any.strconv_Atoi_ok Tryz.laysC172 s hmax v h w
open Go.RowKit in
theorem Tryz.strconv_Atoi_syntax (s : ByteArray) (hlim : s.size ≤ 281474976710656) (h : (∀ v, Lib.atoiAll s.data.toList ≠ .ok v) ∧ Lib.atoiAll s.data.toList ≠ .range) (ev : Value) (w : World) (hv : w.cell? ⟨3, 0, none⟩ = some ev) (hev : ev = .nilIface ∨ ∃ te pe, ev = .iface te pe) :
   Calls Tryz.prog 128 #[.string s] w fun e w' => ∃ N, e = .returned (.tuple #[.int .i64 (0), .iface 187 (.pointer (some ⟨N, 0, none⟩))]) ∧ w.heap.size ≤ N ∧ w'.heap[N]? = some (.cells #[.string ⟨#[65, 116, 111, 105]⟩, .string s, ev] 200 (0, 0)) ∧ Below w.heap.size w w' := Any.strconv_Atoi_syntax Tryz.laysC172 s hlim (by
   cases hq : Lib.atoiAll s.data.toList with
   | ok v => exact absurd hq (h.1 v)
   | range => exact absurd hq h.2
   | _ => rfl) ev w hv hev
open Go.RowKit in
theorem Tryz.strconv_Atoi_range (s : ByteArray) (hlim : s.size ≤ 281474976710656) (h : Lib.atoiAll s.data.toList = .range) (ev : Value) (w : World) (hv : w.cell? ⟨4, 0, none⟩ = some ev) (hev : ev = .nilIface ∨ ∃ te pe, ev = .iface te pe) :
   Calls Tryz.prog 128 #[.string s] w fun e w' => ∃ N, e = .returned (.tuple #[.int .i64 (Lib.atoiSat s.data.toList), .iface 187 (.pointer (some ⟨N, 0, none⟩))]) ∧ w.heap.size ≤ N ∧ w'.heap[N]? = some (.cells #[.string ⟨#[65, 116, 111, 105]⟩, .string s, ev] 200 (0, 0)) ∧ Below w.heap.size w w' := Any.strconv_Atoi_range Tryz.laysC172 s hlim h ev w hv hev
def Tryz.lays153_ren : Go.Shelf.Ren := ⟨fun | 153 => 135 | 152 => 151 | 226 => 152 | 227 => 143 | 228 => 153 | 137 => 134 | 119 => 168 | 224 => 169 | 225 => 170 | 217 => 150 | 266 => 167 | n => n, fun | 9 => 9 | 3 => 3 | 4 => 4 | 5 => 5 | 21 => 21 | 117 => 167 | 116 => 166 | 0 => 0 | 46 => 191 | 124 => 170 | n => n, fun | n => n⟩
theorem Tryz.lays153 : Go.Proofs.Lays.n153 Tryz.prog Tryz.lays153_ren := {
 mixed := by kernel_rfl
 f119 := Tryz.func168.trans (congrArg some (by kernel_rfl))
 f137 := Tryz.func134.trans (congrArg some (by kernel_rfl))
 f152 := Tryz.func151.trans (congrArg some (by kernel_rfl))
 f153 := Tryz.func135.trans (congrArg some (by kernel_rfl))
 f217 := Tryz.func150.trans (congrArg some (by kernel_rfl))
 f224 := Tryz.func169.trans (congrArg some (by kernel_rfl))
 f225 := Tryz.func170.trans (congrArg some (by kernel_rfl))
 f226 := Tryz.func152.trans (congrArg some (by kernel_rfl))
 f227 := Tryz.func143.trans (congrArg some (by kernel_rfl))
 f228 := Tryz.func153.trans (congrArg some (by kernel_rfl))
 f266 := Tryz.func167.trans (congrArg some (by kernel_rfl))
 t0 := Tryz.underlying0
 a0 := Tryz.isAgg0
 z0 := Tryz.sizeOf0
 v0 := Tryz.zeroValue0
 t3 := Tryz.underlying3
 a3 := Tryz.isAgg3
 z3 := Tryz.sizeOf3
 v3 := Tryz.zeroValue3
 t4 := Tryz.underlying4
 a4 := Tryz.isAgg4
 z4 := Tryz.sizeOf4
 v4 := Tryz.zeroValue4
 t5 := Tryz.underlying5
 a5 := Tryz.isAgg5
 z5 := Tryz.sizeOf5
 v5 := Tryz.zeroValue5
 t9 := Tryz.underlying9
 a9 := Tryz.isAgg9
 z9 := Tryz.sizeOf9
 v9 := Tryz.zeroValue9
 t21 := Tryz.underlying21
 a21 := Tryz.isAgg21
 z21 := Tryz.sizeOf21
 v21 := Tryz.zeroValue21
 t46 := Tryz.underlying191
 a46 := Tryz.isAgg191
 z46 := Tryz.sizeOf191
 v46 := Tryz.zeroValue191
 t116 := Tryz.underlying166
 a116 := Tryz.isAgg166
 z116 := Tryz.sizeOf166
 t117 := Tryz.underlying167
 a117 := Tryz.isAgg167
 z117 := Tryz.sizeOf167
 v117 := Tryz.zeroValue167
 t124 := Tryz.underlying170
 a124 := Tryz.isAgg170
 z124 := Tryz.sizeOf170
 v124 := Tryz.zeroValue170 }
def Tryz.lays150_ren : Go.Shelf.Ren := ⟨fun | 150 => 140 | 153 => 135 | 152 => 151 | 226 => 152 | 227 => 143 | 228 => 153 | 137 => 134 | 119 => 168 | 224 => 169 | 225 => 170 | 217 => 150 | 266 => 167 | n => n, fun | 9 => 9 | 4 => 4 | 3 => 3 | 5 => 5 | 21 => 21 | 117 => 167 | 116 => 166 | 0 => 0 | 46 => 191 | 124 => 170 | n => n, fun | n => n⟩
theorem Tryz.lays150 : Go.Proofs.Lays.n150 Tryz.prog Tryz.lays150_ren := {
 mixed := by kernel_rfl
 f119 := Tryz.func168.trans (congrArg some (by kernel_rfl))
 f137 := Tryz.func134.trans (congrArg some (by kernel_rfl))
 f150 := Tryz.func140.trans (congrArg some (by kernel_rfl))
 f152 := Tryz.func151.trans (congrArg some (by kernel_rfl))
 f153 := Tryz.func135.trans (congrArg some (by kernel_rfl))
 f217 := Tryz.func150.trans (congrArg some (by kernel_rfl))
 f224 := Tryz.func169.trans (congrArg some (by kernel_rfl))
 f225 := Tryz.func170.trans (congrArg some (by kernel_rfl))
 f226 := Tryz.func152.trans (congrArg some (by kernel_rfl))
 f227 := Tryz.func143.trans (congrArg some (by kernel_rfl))
 f228 := Tryz.func153.trans (congrArg some (by kernel_rfl))
 f266 := Tryz.func167.trans (congrArg some (by kernel_rfl))
 t0 := Tryz.underlying0
 a0 := Tryz.isAgg0
 z0 := Tryz.sizeOf0
 v0 := Tryz.zeroValue0
 t3 := Tryz.underlying3
 a3 := Tryz.isAgg3
 z3 := Tryz.sizeOf3
 v3 := Tryz.zeroValue3
 t4 := Tryz.underlying4
 a4 := Tryz.isAgg4
 z4 := Tryz.sizeOf4
 v4 := Tryz.zeroValue4
 t5 := Tryz.underlying5
 a5 := Tryz.isAgg5
 z5 := Tryz.sizeOf5
 v5 := Tryz.zeroValue5
 t9 := Tryz.underlying9
 a9 := Tryz.isAgg9
 z9 := Tryz.sizeOf9
 v9 := Tryz.zeroValue9
 t21 := Tryz.underlying21
 a21 := Tryz.isAgg21
 z21 := Tryz.sizeOf21
 v21 := Tryz.zeroValue21
 t46 := Tryz.underlying191
 a46 := Tryz.isAgg191
 z46 := Tryz.sizeOf191
 v46 := Tryz.zeroValue191
 t116 := Tryz.underlying166
 a116 := Tryz.isAgg166
 z116 := Tryz.sizeOf166
 t117 := Tryz.underlying167
 a117 := Tryz.isAgg167
 z117 := Tryz.sizeOf167
 v117 := Tryz.zeroValue167
 t124 := Tryz.underlying170
 a124 := Tryz.isAgg170
 z124 := Tryz.sizeOf170
 v124 := Tryz.zeroValue170 }
open Go.RowKit Go.Lib in
theorem Tryz.strings_IndexAny_laid (s chars : ByteArray) (w : World) (hs : s.size < 4294967281) (hcs : chars.size < 4294967281) (has : ∀ (j : Nat) b, s.data.toList[j]? = some b → b.toNat < 128) (hac : ∀ (j : Nat) b, chars.data.toList[j]? = some b → b.toNat < 128) :
   Calls Tryz.prog 135 #[.string s, .string chars] w fun e w' => e = .returned (.int .i64 (Lib.indexAny s.data.toList chars.data.toList)) ∧ Below w.heap.size w w' := Any.strings_IndexAny_laid Tryz.lays153 (by kernel_rfl) s chars w hs hcs has hac
open Go.RowKit Go.Lib in
theorem Tryz.strings_ContainsAny_laid (s chars : ByteArray) (w : World) (hs : s.size < 4294967281) (hcs : chars.size < 4294967281) (has : ∀ (j : Nat) b, s.data.toList[j]? = some b → b.toNat < 128) (hac : ∀ (j : Nat) b, chars.data.toList[j]? = some b → b.toNat < 128) :
   Calls Tryz.prog 140 #[.string s, .string chars] w fun e w' => e = .returned (.bool (Lib.containsAny s.data.toList chars.data.toList)) ∧ Below w.heap.size w w' := Any.strings_ContainsAny_laid Tryz.lays150 (by kernel_rfl) s chars w hs hcs has hac
end Go.Proofs
namespace Go.Proofs.YtcjoiiaankngjaaGreatDoor
set_option maxRecDepth 100000
open Go.RowKit
def Asc (l : List UInt8) : Prop := ∀ b ∈ l, b.toNat < 128
theorem sym_idx (c : UInt8) : decide ((0 : Int) ≤ Lib.indexByte [123, 125, 40, 41, 44, 59] c) = isSym c := by
 unfold isSym
 rw [← Lib.contains_iff_indexByte]
 rw [Bool.eq_iff_iff]
 simp only [List.contains_cons, List.contains_nil, Bool.or_eq_true, Bool.or_false, beq_iff_eq]
 constructor <;> intro h <;> simp_all [or_assoc]
theorem str_idx (t : List UInt8) : Lib.indexAny t [34, 10] = if run (fun c => !notStr c) t < t.length then ((run (fun c => !notStr c) t : Nat) : Int) else -1 := by
 have hn : ∀ b : UInt8, ([34, 10] : List UInt8).contains b = notStr b := fun b => by
   unfold notStr
   rw [Bool.eq_iff_iff]
   simp []
 have hno : Lib.NoAny t [34, 10] (run (fun c => !notStr c) t) := fun j b hj hb => by
   obtain ⟨h1, h2⟩ := run_at _ t j hj
   rw [List.getElem?_eq_getElem h1] at hb
   injection hb with hb
   rw [hn, ← hb]
   simpa using h2
 split
 · rename_i h
   have h2 := run_stop (fun c => !notStr c) t h
   exact Lib.indexAny_hit hno (List.getElem?_eq_getElem h) (by rw [hn]; simpa using h2)
 · rename_i h
   have hle := run_le (fun c => !notStr c) t
   exact Lib.indexAny_none (by rw [show t.length = run (fun c => !notStr c) t by omega]; exact hno)
def FirstOut (w : World) (r : Nat × Nat) (e : Ending) (w' : World) : Prop := e = .returned (.tuple #[.int .i64 (r.1 : Int), .int .i64 (r.2 : Int)]) ∧ Below w.heap.size w w'
theorem to_u8 (c : UInt8) : ((c.toNat : Int)).toNat.toUInt8 = c := by simp
set_option maxHeartbeats 1000000 in
theorem first_any (s : ByteArray) (hs : s.size ≤ 4294967000) (ha : Asc s.data.toList) (w : World) : Calls Tryz.prog 111 #[.string s] w (FirstOut w (first s.data.toList)) := by
 unfold FirstOut
 have hl := data_len s
 by_cases h0 : s.size = 0
 · have he : s.data.toList = [] := List.eq_nil_of_length_eq_zero (by omega)
   have hem : s.toList.isEmpty = true := by rw [Lib.toList_data, he]; rfl
   rw [he]
   clear he ha hl
   go_enter Tryz.func111, Tryz.ntmps111
   go_wp2
   go_ret2
   exact ⟨rfl, Below.refl _ _⟩
 · have hp : 0 < s.size := by omega
   have hcons : s.data.toList = s[0] :: s.data.toList.drop 1 := by have := drop_at s 0 hp; rwa [List.drop_zero] at this
   have hem : s.toList.isEmpty = false := by rw [Lib.toList_data, hcons]; rfl
   have hnl : ¬ s.toList = [] := by rw [Lib.toList_data, hcons]; exact List.cons_ne_nil _ _
   have i0 : (0 : Int) < (s.size : Int) := by omega
   have i1 : (1 : Int) ≤ (s.size : Int) := by omega
   have i2 : (s.size : Int) ≤ 4294967000 := by omega
   have B := Lib.hid (begins_any s[0] w)
   have D := Lib.hid (digit_any s[0] w)
   have RC := Lib.hid (runCont_any s (by omega) w)
   have RD := Lib.hid (runDig_any s (by omega) w)
   have IB := Lib.hid (Tryz.strings_IndexByte ⟨#[123, 125, 40, 41, 44, 59]⟩ (s[0].toNat : Int) w)
   rw [to_u8] at IB
   unfold BoolE at B D
   have e1 : first s.data.toList = if isLet s[0] then (2, run isCont s.data.toList) else if isDig s[0] then (3, run isDig s.data.toList) else if isSym s[0] then (5, 1) else if s[0] = 34 ∧ strLen (s.data.toList.drop 1) ≠ 0 then (4, strLen (s.data.toList.drop 1)) else (0, 1) := by
     conv => lhs; rw [hcons]
     rw [first, ← hcons]
   rw [e1]
   clear e1
   obtain ⟨b1, hb1⟩ : ∃ b, isLet s[0] = b := ⟨_, rfl⟩
   rw [hb1] at B ⊢
   cases b1 with
   | true =>
     rw [if_pos rfl]
     obtain ⟨R, hR⟩ : ∃ R, run isCont s.data.toList = R := ⟨_, rfl⟩
     rw [hR] at RC ⊢
     clear hR hb1 hcons ha hl
     go_enter Tryz.func111, Tryz.ntmps111
     go_wp2_with (first
       | (go_at_call 130; ((with_reducible refine B.out.mono ?_); rintro e w1 ⟨rfl, rfl⟩))
       | (go_at_call 131; ((with_reducible refine RC.out.mono ?_); rintro e w2 ⟨rfl, rfl⟩))
       | (fail "arm"))
     go_ret2
     exact ⟨rfl, Below.refl _ _⟩
   | false =>
   rw [if_neg (by decide)]
   obtain ⟨b2, hb2⟩ : ∃ b, isDig s[0] = b := ⟨_, rfl⟩
   rw [hb2] at D ⊢
   cases b2 with
   | true =>
     rw [if_pos rfl]
     obtain ⟨R, hR⟩ : ∃ R, run isDig s.data.toList = R := ⟨_, rfl⟩
     rw [hR] at RD ⊢
     clear hR hb1 hb2 hcons ha hl
     go_enter Tryz.func111, Tryz.ntmps111
     go_wp2_with (first
       | (go_at_call 130; ((with_reducible refine B.out.mono ?_); rintro e w1 ⟨rfl, rfl⟩))
       | (go_at_call 133; ((with_reducible refine D.out.mono ?_); rintro e w1 ⟨rfl, rfl⟩))
       | (go_at_call 131; ((with_reducible refine RD.out.mono ?_); rintro e w2 ⟨rfl, rfl⟩))
       | (fail "arm"))
     go_ret2
     exact ⟨rfl, Below.refl _ _⟩
   | false =>
   rw [if_neg (by decide)]
   have hsi : decide ((0 : Int) ≤ Lib.indexByte (⟨#[123, 125, 40, 41, 44, 59]⟩ : ByteArray).data.toList s[0]) = isSym s[0] := sym_idx s[0]
   obtain ⟨z, hz⟩ : ∃ z, Lib.indexByte (⟨#[123, 125, 40, 41, 44, 59]⟩ : ByteArray).data.toList s[0] = z := ⟨_, rfl⟩
   rw [hz] at IB hsi
   rw [← hsi]
   by_cases hzp : 0 ≤ z
   · rw [if_pos (decide_eq_true hzp)]
     clear hz hsi hb1 hb2 hcons ha hl
     go_enter Tryz.func111, Tryz.ntmps111
     go_wp2_with (first
       | (go_at_call 130; ((with_reducible refine B.out.mono ?_); rintro e w1 ⟨rfl, rfl⟩))
       | (go_at_call 133; ((with_reducible refine D.out.mono ?_); rintro e w1 ⟨rfl, rfl⟩))
       | (go_at_call 134; ((with_reducible refine IB.out.mono ?_); rintro e w2 ⟨rfl, rfl⟩))
       | (fail "arm"))
     go_ret2
     exact ⟨rfl, Below.refl _ _⟩
   · rw [if_neg (by simpa using hzp)]
     have hzn : ¬ (0 : Int) ≤ z := hzp
     by_cases h34 : s[0] = 34
     · have h34' : ((s[0].toNat : Int) == (((⟨#[34]⟩ : ByteArray)[0]'(by decide)).toNat : Int)) = true := by rw [h34]; rfl
       have IA := Tryz.strings_IndexAny_laid (s.extract 1 s.size) ⟨#[34, 10]⟩ w (by rw [ByteArray.size_extract]; omega) (by decide) (fun j b hj => by
         rw [ext_cut, str_data, cut_end] at hj
         exact ha b (List.mem_of_mem_drop (List.mem_of_getElem? hj))) (fun j b hj => by
         have := List.mem_of_getElem? hj
         simp at this
         rcases this with rfl | rfl <;> decide)
       have ei : (s.extract 1 s.size).data.toList = s.data.toList.drop 1 := by rw [ext_cut, str_data, cut_end]
       rw [ei, show (⟨#[34, 10]⟩ : ByteArray).data.toList = [34, 10] from rfl, str_idx] at IA
       obtain ⟨k, hk⟩ : ∃ k, run (fun c => !notStr c) (s.data.toList.drop 1) = k := ⟨_, rfl⟩
       have hsl : strLen (s.data.toList.drop 1) = if (s.data.toList.drop 1)[k]? = some 34 then k + 2 else 0 := by unfold strLen; dsimp only; rw [hk]
       rw [hk] at IA
       obtain ⟨Q, hQ⟩ : ∃ Q, s.extract 1 s.size = Q := ⟨_, rfl⟩
       rw [hQ] at IA
       by_cases hkl : k < (s.data.toList.drop 1).length
       · rw [if_pos hkl] at IA
         have IA := Lib.hid IA
         have hks : k + 1 < s.size := by rw [List.length_drop, hl] at hkl; omega
         have j1 : (k : Int) + 1 < (s.size : Int) := by omega
         have j2 : (1 : Int) + (k : Int) = ((k + 1 : Nat) : Int) := by omega
         have j3 : (0 : Int) ≤ (k : Int) := Int.natCast_nonneg _
         have hgk : (s.data.toList.drop 1)[k]? = some s[k + 1] := by
           rw [List.getElem?_drop, Nat.add_comm 1 k, List.getElem?_eq_getElem (by rw [hl]; exact hks)]
           rfl
         rw [hgk] at hsl
         have j4 : (0 : Int) < (k : Int) + 1 := by omega
         have hCs : k + 1 < s.size := hks
         obtain ⟨y, hy⟩ : ∃ y, s[k + 1] = y := ⟨_, rfl⟩
         rw [hy] at hsl
         by_cases hq : y = 34
         · have j8 : ((s[k + 1].toNat : Int) == (s[0].toNat : Int)) = true := by rw [hy, hq, h34]; rfl
           rw [if_pos (by rw [hq])] at hsl
           rw [if_pos ⟨h34, by rw [hsl]; omega⟩, hsl]
           clear hz hsi hb1 hb2 hcons ha hl hgk hsl hy hq hk ei h34 hkl
           go_enter Tryz.func111, Tryz.ntmps111
           go_wp2_with (first
             | (go_at_call 130; ((with_reducible refine B.out.mono ?_); rintro e w1 ⟨rfl, rfl⟩))
             | (go_at_call 133; ((with_reducible refine D.out.mono ?_); rintro e w1 ⟨rfl, rfl⟩))
             | (go_at_call 134; ((with_reducible refine IB.out.mono ?_); rintro e w2 ⟨rfl, rfl⟩))
             | (go_at_call 135; ((with_reducible refine IA.out.mono ?_); rintro e w3 ⟨rfl, hb3⟩))
             | (fail "arm"))
           go_ret2
           rw [show ((k + 2 : Nat) : Int) = (k : Int) + 1 + 1 by omega]
           exact ⟨rfl, hb3⟩
         · have j8 : ((s[k + 1].toNat : Int) == (s[0].toNat : Int)) = false := by
             rw [hy, h34]
             have : y.toNat ≠ 34 := fun e => hq (UInt8.toNat_inj.1 e)
             simp; exact fun e => this (by exact_mod_cast e)
           rw [if_neg (by simpa using hq)] at hsl
           rw [if_neg (fun h => h.2 hsl)]
           clear hz hsi hb1 hb2 hcons ha hl hgk hsl hy hq hk ei h34 hkl
           go_enter Tryz.func111, Tryz.ntmps111
           go_wp2_with (first
             | (go_at_call 130; ((with_reducible refine B.out.mono ?_); rintro e w1 ⟨rfl, rfl⟩))
             | (go_at_call 133; ((with_reducible refine D.out.mono ?_); rintro e w1 ⟨rfl, rfl⟩))
             | (go_at_call 134; ((with_reducible refine IB.out.mono ?_); rintro e w2 ⟨rfl, rfl⟩))
             | (go_at_call 135; ((with_reducible refine IA.out.mono ?_); rintro e w3 ⟨rfl, hb3⟩))
             | (fail "arm"))
           go_ret2
           exact ⟨rfl, hb3⟩
       · rw [if_neg hkl] at IA
         have IA := Lib.hid IA
         rw [List.getElem?_eq_none (by omega), if_neg (by simp)] at hsl
         rw [if_neg (fun h => h.2 hsl)]
         clear hz hsi hb1 hb2 hcons ha hl hsl hk ei h34 hkl
         go_enter Tryz.func111, Tryz.ntmps111
         go_wp2_with (first
           | (go_at_call 130; ((with_reducible refine B.out.mono ?_); rintro e w1 ⟨rfl, rfl⟩))
           | (go_at_call 133; ((with_reducible refine D.out.mono ?_); rintro e w1 ⟨rfl, rfl⟩))
           | (go_at_call 134; ((with_reducible refine IB.out.mono ?_); rintro e w2 ⟨rfl, rfl⟩))
           | (go_at_call 135; ((with_reducible refine IA.out.mono ?_); rintro e w3 ⟨rfl, hb3⟩))
           | (fail "arm"))
         go_ret2
         exact ⟨rfl, hb3⟩
     · have h34' : ((s[0].toNat : Int) == (((⟨#[34]⟩ : ByteArray)[0]'(by decide)).toNat : Int)) = false := by
         have h0 : s[0].toNat ≠ 34 := fun e => h34 (UInt8.toNat_inj.1 e)
         have h1 : ((s[0].toNat : Int) == 34) = false := by simp; exact fun e => h0 (by exact_mod_cast e)
         exact h1
       rw [if_neg (fun h => h34 h.1)]
       clear hz hsi hb1 hb2 hcons ha hl h34
       go_enter Tryz.func111, Tryz.ntmps111
       go_wp2_with (first
         | (go_at_call 130; ((with_reducible refine B.out.mono ?_); rintro e w1 ⟨rfl, rfl⟩))
         | (go_at_call 133; ((with_reducible refine D.out.mono ?_); rintro e w1 ⟨rfl, rfl⟩))
         | (go_at_call 134; ((with_reducible refine IB.out.mono ?_); rintro e w2 ⟨rfl, rfl⟩))
         | (go_at_call 135; ((with_reducible refine IA.out.mono ?_); rintro e w3 ⟨rfl, hb3⟩))
         | (fail "arm"))
       go_ret2
       exact ⟨rfl, Below.refl _ _⟩
theorem byte_idx (t : List UInt8) : Lib.indexByte t 10 = if run (fun c => c != 10) t < t.length then ((run (fun c => c != 10) t : Nat) : Int) else -1 := by
 rw [← Lib.indexAny_one]
 have hn : ∀ b : UInt8, ([10] : List UInt8).contains b = !(b != 10) := fun b => by
   rw [Bool.eq_iff_iff]
   simp []
 have hno : Lib.NoAny t [10] (run (fun c => c != 10) t) := fun j b hj hb => by
   obtain ⟨h1, h2⟩ := run_at _ t j hj
   rw [List.getElem?_eq_getElem h1] at hb
   injection hb with hb
   rw [hn, ← hb]
   simpa using h2
 split
 · rename_i h
   have h2 := run_stop (fun c => c != 10) t h
   exact Lib.indexAny_hit hno (List.getElem?_eq_getElem h) (by rw [hn]; simpa using h2)
 · rename_i h
   have hle := run_le (fun c => c != 10) t
   exact Lib.indexAny_none (by rw [show t.length = run (fun c => c != 10) t by omega]; exact hno)
theorem comment_any (s : ByteArray) (_hs : s.size ≤ 4294967000) (w : World) : Calls Tryz.prog 129 #[.string s] w fun e w' => e = .returned (.int .i64 ((run (fun c => c != 10) s.data.toList : Nat) : Int)) ∧ w' = w := by
 have IB := Tryz.strings_IndexByte s 10 w
 rw [show ((10 : Int)).toNat.toUInt8 = 10 from rfl, byte_idx] at IB
 have hle := run_le (fun c => c != 10) s.data.toList
 rw [data_len] at IB hle
 obtain ⟨k, hk⟩ : ∃ k, run (fun c => c != 10) s.data.toList = k := ⟨_, rfl⟩
 rw [hk] at IB hle ⊢
 have k0 : (0 : Int) ≤ (k : Int) := Int.natCast_nonneg _
 clear hk
 by_cases h : k < s.size
 · rw [if_pos h] at IB
   have IB := Lib.hid IB
   go_enter Tryz.func129, Tryz.ntmps129
   go_wp2_with (first
     | (go_at_call 134; ((with_reducible refine IB.out.mono ?_); rintro e w1 ⟨rfl, rfl⟩))
     | (fail "arm"))
   go_ret
   exact ⟨rfl, rfl⟩
 · rw [if_neg h] at IB
   have IB := Lib.hid IB
   obtain rfl : k = s.size := by omega
   go_enter Tryz.func129, Tryz.ntmps129
   go_wp2_with (first
     | (go_at_call 134; ((with_reducible refine IB.out.mono ?_); rintro e w1 ⟨rfl, rfl⟩))
     | (fail "arm"))
   go_ret
   exact ⟨rfl, rfl⟩
def Sc (w : World) (b : Nat) (c : ByteArray) (n : Nat) (Z : List Value) : Prop := Full w b 95 (.string c :: .int .i64 (n : Int) :: Z)
def SkipOut (w : World) (b : Nat) (Z : List Value) (r : List UInt8 × Nat) (e : Ending) (w' : World) : Prop := e = .returned (.tuple #[]) ∧ Sc w' b (str r.1) r.2 Z ∧ Turn (fun g => g = b) w w'
theorem skip_cons (s : ByteArray) (n : Nat) (h : 0 < s.size) : skip false s.data.toList n =
   if s[0] = 10 then skip false (s.extract 1 s.size).data.toList (n + 1) else if s[0] = 32 ∨ s[0] = 9 ∨ s[0] = 13 then skip false (s.extract 1 s.size).data.toList n
   else if s[0] = 35 then skip false (s.extract (run (fun c => c != 10) s.data.toList) s.size).data.toList n else (s.data.toList, n) := by
 have hcons : s.data.toList = s[0] :: s.data.toList.drop 1 := by have := drop_at s 0 h; rwa [List.drop_zero] at this
 have e1 : ∀ k, (s.extract k s.size).data.toList = s.data.toList.drop k := fun k => by rw [ext_cut, str_data, cut_end]
 rw [e1, e1]
 conv => lhs; rw [hcons]
 rw [skip]
 split
 · rfl
 · split
   · rfl
   · split
     · rename_i h35
       rw [skip_comment]
       have h1 : (s[0] != 10) = true := by rw [h35]; rfl
       have hr : run (fun c => c != 10) s.data.toList = run (fun c => c != 10) (s.data.toList.drop 1) + 1 := by
         conv => lhs; rw [hcons]
         rw [run, if_pos h1]
       rw [hr, List.drop_drop, Nat.add_comm 1]
     · rw [← hcons]
theorem sc_far {w : World} {b : Nat} {c c' : ByteArray} {n n' : Nat} {Z : List Value} (h : Sc w b c n Z) (o : Nat) (u : Value) (e : (.string c :: .int .i64 (n : Int) :: Z).set o u = .string c' :: .int .i64 (n' : Int) :: Z) : Sc (w.setCell ⟨b, o, none⟩ u) b c' n' Z := by
 unfold Sc at h ⊢
 rw [← e]
 exact h.set_ o u
set_option maxHeartbeats 2000000 in
theorem skip_any {w : World} {b : Nat} {s : ByteArray} {n : Nat} {Z : List Value} (hF : Sc w b s n Z) (hs : s.size ≤ 4294967000) (hn : n ≤ 1099511627776) :
   Calls Tryz.prog 110 #[.pointer (some ⟨b, 0, none⟩)] w (SkipOut w b Z (skip false s.data.toList n)) := by
 unfold SkipOut
 obtain ⟨R, HR⟩ : ∃ R, Hid (skip false s.data.toList n = R) := ⟨_, Lib.hid rfl⟩
 rw [HR.out]
 have H0 := Lib.hid hF
 have HT0 : Hid (Turn (fun g => g = b) w w) := Lib.hid (Turn.refl _ _)
 have HS0 : s.size + n ≤ s.size + n := Nat.le_refl _
 obtain ⟨N, hN⟩ : ∃ N, s.size + n = N := ⟨_, rfl⟩
 have hNb : N ≤ 1103806594776 := by omega
 have CM := Lib.hid comment_any
 have SF := Lib.hid (fun (c : ByteArray) (k : Nat) (wr : World) (h : Sc wr b c k Z) => And.intro (show wr.cell? ⟨b, 0, none⟩ = some (.string c) from h.cell 0) (And.intro (show wr.cell? ⟨b, 1, none⟩ = some (.int .i64 (k : Int)) from h.cell 1) (And.intro (h.frozen 0) (h.frozen 1))))
 have HS1 : s.size + n ≤ N := by omega
 clear hF hN HS0
 go_enter Tryz.func110, Tryz.ntmps110
 go_wp2
 go_loopw [2] (fun _ wr => ∃ (c : ByteArray) (k : Nat), c.size + k ≤ N ∧ c.size ≤ s.size ∧ Hid (Sc wr b c k Z) ∧ Hid (Turn (fun g => g = b) w wr) ∧ Hid (skip false c.data.toList k = R)) (fun _ wr => match wr.cell? ⟨b, 0, none⟩ with | some (.string c) => c.size | _ => 0)
 case atStart => exact ⟨s, n, by omega, Nat.le_refl _, H0, HT0, HR⟩
 case round =>
   obtain ⟨c, k, hck, hcs, HC, HT, HE⟩ := hrel
   obtain ⟨c0, c1, f0, f1⟩ := SF.out c k wr HC.out
   have k0 : (0 : Int) ≤ (k : Int) := Int.natCast_nonneg _
   by_cases hz : c.size = 0
   · have he : c.data.toList = [] := List.eq_nil_of_length_eq_zero (by rw [data_len]; omega)
     have hem : c.toList.isEmpty = true := by rw [Lib.toList_data, he]; rfl
     have HE2 := Lib.hid (show R = ([], k) by rw [← HE.out, he]; rfl)
     have HC2 := Lib.hid (show Sc wr b (str []) k Z by have := HC.out; rwa [str_eq he] at this)
     clear he hz
     go_wp2
     go_end0
     rw [HE2.out]
     exact ⟨rfl, HC2.out, HT.out⟩
   · have hp : 0 < c.size := by omega
     have hsk := skip_cons c k hp
     have hem : c.toList.isEmpty = false := by rw [Lib.toList_data, show c.data.toList = c[0] :: c.data.toList.drop 1 by have := drop_at c 0 hp; rwa [List.drop_zero] at this]; rfl
     have i0 : (0 : Int) < (c.size : Int) := by omega
     have i1 : (1 : Int) ≤ (c.size : Int) := by omega
     have i2 : (k : Int) ≤ 1103806594776 := by omega
     have i3 : (c.size : Int) ≤ 4294967000 := by omega
     obtain ⟨Q, hQ⟩ : ∃ Q, c.extract 1 c.size = Q := ⟨_, rfl⟩
     have hQs : Q.size + 1 = c.size := by rw [← hQ, ByteArray.size_extract]; omega
     rw [HE.out, hQ] at hsk
     have fits : ∀ (x : UInt8), (((c[0].toNat : Int) == (x.toNat : Int)) = decide (c[0] = x)) := fun x => by
       rw [Bool.eq_iff_iff]; simp; constructor
       · intro e; exact UInt8.toNat_inj.1 (by exact_mod_cast e)
       · intro e; rw [e]
     have t10 : ((c[0].toNat : Int) == 10) = decide (c[0] = 10) := fits 10
     have t32 : ((c[0].toNat : Int) == 32) = decide (c[0] = 32) := fits 32
     have t9 : ((c[0].toNat : Int) == 9) = decide (c[0] = 9) := fits 9
     have t13 : ((c[0].toNat : Int) == 13) = decide (c[0] = 13) := fits 13
     have t35 : ((c[0].toNat : Int) == 35) = decide (c[0] = 35) := fits 35
     clear fits
     by_cases h10 : c[0] = 10
     · rw [if_pos h10] at hsk
       rw [decide_eq_true h10] at t10
       have hW1 := sc_far HC.out 1 (.int .i64 ((k : Int) + 1)) (c' := c) (n' := k + 1) (by simp)
       obtain ⟨d0, d1, g0, g1⟩ := SF.out c (k + 1) _ hW1
       have HC3 := Lib.hid (sc_far hW1 0 (.string Q) (c' := Q) (n' := k + 1) rfl)
       have HT3 := Lib.hid ((HT.out.trans_ (Turn.set_ (w := wr) (F := fun g => g = b) (a := ⟨b, 1, none⟩) rfl (.int .i64 ((k : Int) + 1)))).trans_ (Turn.set_ (F := fun g => g = b) (a := ⟨b, 0, none⟩) rfl (.string Q)))
       have HE3 := Lib.hid hsk.symm
       have hc3 : ((wr.setCell ⟨b, 1, none⟩ (.int .i64 ((k : Int) + 1))).setCell ⟨b, 0, none⟩ (.string Q)).cell? ⟨b, 0, none⟩ = some (.string Q) := (SF.out Q (k + 1) _ HC3.out).1
       clear t32 t9 t13 t35 hsk h10 hW1
       go_wp2
       go_roundw
       case rel => exact ⟨Q, k + 1, by omega, by omega, HC3, HT3, HE3⟩
       case measure => rw [hc3, c0]; dsimp only; omega
     · rw [if_neg h10] at hsk
       rw [decide_eq_false h10] at t10
       have HC3 := Lib.hid (sc_far HC.out 0 (.string Q) (c' := Q) (n' := k) rfl)
       have HT3 := Lib.hid (HT.out.trans_ (Turn.set_ (w := wr) (F := fun g => g = b) (a := ⟨b, 0, none⟩) rfl (.string Q)))
       have hc3 : (wr.setCell ⟨b, 0, none⟩ (.string Q)).cell? ⟨b, 0, none⟩ = some (.string Q) := (SF.out Q k _ HC3.out).1
       by_cases hbl : c[0] = 32 ∨ c[0] = 9 ∨ c[0] = 13
       · rw [if_pos hbl] at hsk
         have HE3 := Lib.hid hsk.symm
         rcases (show c[0] = 32 ∨ (c[0] ≠ 32 ∧ c[0] = 9) ∨ (c[0] ≠ 32 ∧ c[0] ≠ 9 ∧ c[0] = 13) by
           by_cases a1 : c[0] = 32
           · exact .inl a1
           · by_cases a2 : c[0] = 9
             · exact .inr (.inl ⟨a1, a2⟩)
             · exact .inr (.inr ⟨a1, a2, (hbl.resolve_left a1).resolve_left a2⟩)) with a1 | ⟨a1, a2⟩ | ⟨a1, a2, a3⟩
         · rw [decide_eq_true a1] at t32
           clear t9 t13 t35 hsk h10 hbl a1
           go_wp2
           go_roundw
           case rel => exact ⟨Q, k, by omega, by omega, HC3, HT3, HE3⟩
           case measure => rw [hc3, c0]; dsimp only; omega
         · rw [decide_eq_false a1] at t32
           rw [decide_eq_true a2] at t9
           clear t13 t35 hsk h10 hbl a1 a2
           go_wp2
           go_roundw
           case rel => exact ⟨Q, k, by omega, by omega, HC3, HT3, HE3⟩
           case measure => rw [hc3, c0]; dsimp only; omega
         · rw [decide_eq_false a1] at t32
           rw [decide_eq_false a2] at t9
           rw [decide_eq_true a3] at t13
           clear t35 hsk h10 hbl a1 a2 a3
           go_wp2
           go_roundw
           case rel => exact ⟨Q, k, by omega, by omega, HC3, HT3, HE3⟩
           case measure => rw [hc3, c0]; dsimp only; omega
       · rw [if_neg hbl] at hsk
         rw [decide_eq_false (fun e => hbl (.inl e))] at t32
         rw [decide_eq_false (fun e => hbl (.inr (.inl e)))] at t9
         rw [decide_eq_false (fun e => hbl (.inr (.inr e)))] at t13
         by_cases h35 : c[0] = 35
         · rw [if_pos h35] at hsk
           rw [decide_eq_true h35] at t35
           have CMc := CM.out c (by omega) wr
           have hrl := run_le (fun c => c != 10) c.data.toList
           have hr1 : 1 ≤ run (fun c => c != 10) c.data.toList := by
             rw [show c.data.toList = c[0] :: c.data.toList.drop 1 by have := drop_at c 0 hp; rwa [List.drop_zero] at this, run, if_pos (by rw [h35]; rfl)]
             omega
           obtain ⟨r, hr⟩ : ∃ r, run (fun c => c != 10) c.data.toList = r := ⟨_, rfl⟩
           rw [data_len] at hrl
           rw [hr] at CMc hsk hrl hr1
           have CMh := Lib.hid CMc
           obtain ⟨Q2, hQ2⟩ : ∃ Q2, c.extract r c.size = Q2 := ⟨_, rfl⟩
           have hQ2s : Q2.size + r = c.size := by rw [← hQ2, ByteArray.size_extract]; omega
           rw [hQ2] at hsk
           have HE3 := Lib.hid hsk.symm
           have HC4 := Lib.hid (sc_far HC.out 0 (.string Q2) (c' := Q2) (n' := k) rfl)
           have HT4 := Lib.hid (HT.out.trans_ (Turn.set_ (w := wr) (F := fun g => g = b) (a := ⟨b, 0, none⟩) rfl (.string Q2)))
           have hc4 : (wr.setCell ⟨b, 0, none⟩ (.string Q2)).cell? ⟨b, 0, none⟩ = some (.string Q2) := (SF.out Q2 k _ HC4.out).1
           have r0 : (0 : Int) ≤ (r : Int) := Int.natCast_nonneg _
           have r1 : (r : Int) ≤ (c.size : Int) := by omega
           clear hsk h10 hbl h35 hr CMc HC3 HT3 hc3 hQ
           go_wp2_with (first
             | (go_at_call 129; ((with_reducible refine CMh.out.mono ?_); rintro e w2 ⟨rfl, rfl⟩))
             | (fail "arm"))
           go_roundw
           case rel => exact ⟨Q2, k, by omega, by omega, HC4, HT4, HE3⟩
           case measure => rw [hc4, c0]; dsimp only; omega
         · rw [if_neg h35] at hsk
           rw [decide_eq_false h35] at t35
           have HE2 := Lib.hid hsk
           clear hsk h10 hbl h35 HC3 HT3 hc3 hQ
           go_wp2
           refine bodyPost_ret (results_none rfl _ _ _) rfl ?_
           rw [HE2.out]
           exact ⟨rfl, by have := HC.out; rwa [show c = str c.data.toList from str_eq rfl] at this, HT.out⟩
def tokV (t : Tok) : Value := .agg #[.int .i64 (t.cls : Int), .string (str t.txt), .int .i64 (t.ln : Int)]
theorem store3 {w : World} {r : Nat} {t : TypeId} {x0 x1 x2 : Value} (F : Full w r t [x0, x1, x2]) (y0 y1 y2 : Value) :
   (w.cell? ⟨r, 0, none⟩ = some x0 ∧ w.frozen? ⟨r, 0, none⟩ = false) ∧ ((w.setCell ⟨r, 0, none⟩ y0).cell? ⟨r, 1, none⟩ = some x1 ∧ (w.setCell ⟨r, 0, none⟩ y0).frozen? ⟨r, 1, none⟩ = false) ∧
   (((w.setCell ⟨r, 0, none⟩ y0).setCell ⟨r, 1, none⟩ y1).cell? ⟨r, 2, none⟩ = some x2 ∧ ((w.setCell ⟨r, 0, none⟩ y0).setCell ⟨r, 1, none⟩ y1).frozen? ⟨r, 2, none⟩ = false) ∧
   Full (((w.setCell ⟨r, 0, none⟩ y0).setCell ⟨r, 1, none⟩ y1).setCell ⟨r, 2, none⟩ y2) r t [y0, y1, y2] :=
 ⟨⟨F.cell 0, F.frozen 0⟩, ⟨(F.set_ 0 y0).cell 1, (F.set_ 0 y0).frozen 1⟩, ⟨((F.set_ 0 y0).set_ 1 y1).cell 2, ((F.set_ 0 y0).set_ 1 y1).frozen 2⟩, ((F.set_ 0 y0).set_ 1 y1).set_ 2 y2⟩
theorem Turn.set3 {G : Nat → Prop} {w w' : World} (h : Turn G w w') {r : Nat} (hr : w.heap.size ≤ r) (y0 y1 y2 : Value) : Turn G w (((w'.setCell ⟨r, 0, none⟩ y0).setCell ⟨r, 1, none⟩ y1).setCell ⟨r, 2, none⟩ y2) := by
 have k : Turn (fun g => G g ∨ g = r) w' (((w'.setCell ⟨r, 0, none⟩ y0).setCell ⟨r, 1, none⟩ y1).setCell ⟨r, 2, none⟩ y2) :=
   ((Turn.set_ (F := fun g => G g ∨ g = r) (a := ⟨r, 0, none⟩) (.inr rfl) y0).trans_ (Turn.set_ (F := fun g => G g ∨ g = r) (a := ⟨r, 1, none⟩) (.inr rfl) y1)).trans_ (Turn.set_ (F := fun g => G g ∨ g = r) (a := ⟨r, 2, none⟩) (.inr rfl) y2)
 exact h.late k fun g hg => hg.imp id (fun e => by omega)
theorem Sc.turn {w w' : World} {b : Nat} {c : ByteArray} {n : Nat} {Z : List Value} {F : Nat → Prop} (h : Sc w b c n Z) (ht : Turn F w w') (hb : ¬ F b) : Sc w' b c n Z := ht.far h hb
theorem Sc.on {w w' : World} {b : Nat} {c : ByteArray} {n : Nat} {Z : List Value} (h : Sc w b c n Z) (hb : Below w.heap.size w w') : Sc w' b c n Z := Full.on h hb
theorem Sc.lt {w : World} {b : Nat} {c : ByteArray} {n : Nat} {Z : List Value} (h : Sc w b c n Z) : b < w.heap.size := Full.lt h
theorem Asc.skip : ∀ (f : Bool) (s : List UInt8) (n : Nat), Asc s → Asc (skip f s n).1
 | f, [], n, h => by cases f <;> exact h
 | true, c :: t, n, h => by
   have ht : Asc t := fun b hb => h b (List.mem_cons_of_mem _ hb)
   rw [Go.Proofs.YtcjoiiaankngjaaGreatDoor.skip]
   split
   · exact Asc.skip false t _ ht
   · exact Asc.skip true t _ ht
 | false, c :: t, n, h => by
   have ht : Asc t := fun b hb => h b (List.mem_cons_of_mem _ hb)
   rw [Go.Proofs.YtcjoiiaankngjaaGreatDoor.skip]
   split
   · exact Asc.skip false t _ ht
   · split
     · exact Asc.skip false t _ ht
     · split
       · exact Asc.skip true t _ ht
       · exact h
def NextOut (w : World) (b : Nat) (Z : List Value) (r : Tok × List UInt8 × Nat) (e : Ending) (w' : World) : Prop := e = .returned (tokV r.1) ∧ Sc w' b (str r.2.1) r.2.2 Z ∧ Turn (fun g => g = b) w w'
theorem cls_le (s : List UInt8) : (first s).1 ≤ 5 := by
 cases s with
 | nil => decide
 | cons c t => rw [first]; repeat' split
               all_goals (dsimp only; omega)
set_option maxHeartbeats 2000000 in
theorem next_any {w : World} {b : Nat} {s : ByteArray} {n : Nat} {Z : List Value} (hF : Sc w b s n Z) (ha : Asc s.data.toList) (hs : s.size ≤ 4294967000) (hn : n ≤ 1099511627776) :
   Calls Tryz.prog 73 #[.pointer (some ⟨b, 0, none⟩)] w (NextOut w b Z (next s.data.toList n)) := by
 unfold NextOut
 have e0 : next s.data.toList n = (⟨(first (skip false s.data.toList n).1).1, (skip false s.data.toList n).1.take (first (skip false s.data.toList n).1).2, (skip false s.data.toList n).2⟩, (skip false s.data.toList n).1.drop (first (skip false s.data.toList n).1).2, (skip false s.data.toList n).2) := rfl
 rw [e0]
 clear e0
 have hsl := skip_len false s.data.toList n
 have hA := Asc.skip false s.data.toList n ha
 rw [data_len] at hsl
 obtain ⟨w1, hw1⟩ : ∃ w1, w.alloc (.cells #[.int .i64 0, .string ⟨#[]⟩, .int .i64 0] 91) = w1 := ⟨_, rfl⟩
 have hb1 : Below w.heap.size w w1 := by rw [← hw1]; exact (Below.refl _ w).alloc (Nat.le_refl _) _
 have F1 : Full w1 w.heap.size 91 [.int .i64 0, .string ⟨#[]⟩, .int .i64 0] := by rw [← hw1]; exact Full.new w 91 _
 have SK := skip_any (hF.on hb1) hs hn
 unfold SkipOut at SK
 obtain ⟨l, hl⟩ : ∃ l, (skip false s.data.toList n).1 = l := ⟨_, rfl⟩
 obtain ⟨m, hm⟩ : ∃ m, (skip false s.data.toList n).2 = m := ⟨_, rfl⟩
 rw [hl, hm] at SK
 rw [hl] at hsl hA
 rw [hm] at hsl
 rw [hl, hm]
 obtain ⟨S, hS⟩ : ∃ S, str l = S := ⟨_, rfl⟩
 have hSl : S.data.toList = l := by rw [← hS]; rfl
 have hSz : S.size = l.length := by rw [← hS]; rfl
 rw [hS] at SK
 have SK := Lib.hid SK
 have FA := Lib.hid (fun W => first_any S (by omega) (by rw [hSl]; exact hA) W)
 unfold FirstOut at FA
 rw [hSl] at FA
 have hfl := first_le l
 have hfc := cls_le l
 obtain ⟨c, hc⟩ : ∃ c, (first l).1 = c := ⟨_, rfl⟩
 obtain ⟨z, hz⟩ : ∃ z, (first l).2 = z := ⟨_, rfl⟩
 rw [hc, hz] at FA
 rw [hc] at hfc
 rw [hz] at hfl
 rw [hc, hz]
 have hzS : z ≤ S.size := by omega
 have hT : S.extract 0 z = str (l.take z) := by rw [ext_cut, hSl]; simp [cutL]
 have hD : S.extract z S.size = str (l.drop z) := by rw [ext_cut, cut_end, hSl]
 obtain ⟨T, hTT⟩ : ∃ T, S.extract 0 z = T := ⟨_, rfl⟩
 obtain ⟨D, hDD⟩ : ∃ D, S.extract z S.size = D := ⟨_, rfl⟩
 rw [hTT] at hT
 rw [hDD] at hD
 have z0 : (0 : Int) ≤ (z : Int) := Int.natCast_nonneg _
 have z1 : (z : Int) ≤ (S.size : Int) := by omega
 have z2 : (S.size : Int) ≤ 4294967000 := by omega
 obtain ⟨r, hr⟩ : ∃ r, w.heap.size = r := ⟨_, rfl⟩
 rw [hr] at F1
 have hbr : b < r := by rw [← hr]; exact hF.lt
 have HTD := Lib.hid (And.intro hT hD)
 have HB1 := Lib.hid hb1
 have HF1 := Lib.hid F1
 clear hT hD hl hm hc hz hfl hA hsl hSl hSz hS F1 hF ha hb1
 go_enter Tryz.func73, Tryz.ntmps73
 go_upto_region 3 with (first
   | (go_at_call 110; ((with_reducible refine SK.out.mono ?_); rintro e w2 ⟨rfl, hS2, hT2⟩; (have s20 : w2.cell? ⟨b, 0, none⟩ = some (.string S) := Full.cell hS2 0)))
   | (go_at_call 111; ((with_reducible refine (FA.out w2).mono ?_); rintro e w3 ⟨rfl, hb3⟩))
   | (fail "arm"))
 have hS3 := hS2.on hb3
 have s30 : w3.cell? ⟨b, 0, none⟩ = some (.string S) := Full.cell hS3 0
 have s31 : w3.cell? ⟨b, 1, none⟩ = some (.int .i64 (m : Int)) := Full.cell hS3 1
 have F3 : Full w3 r 91 [.int .i64 0, .string ⟨#[]⟩, .int .i64 0] := (hT2.far HF1.out (by omega)).on hb3
 have s40 : (w3.alloc (.cells #[.int .i64 0, .string ⟨#[]⟩, .int .i64 0] 91)).drew.cell? ⟨b, 0, none⟩ = some (.string S) := Full.cell (Full.alloc hS3 _) 0
 have s41 : (w3.alloc (.cells #[.int .i64 0, .string ⟨#[]⟩, .int .i64 0] 91)).drew.cell? ⟨b, 1, none⟩ = some (.int .i64 (m : Int)) := Full.cell (Full.alloc hS3 _) 1
 have HT3 := Lib.hid (hT2.trans_ (Turn.of hb3))
 have HS3 := Lib.hid hS3
 have HF3 := Lib.hid F3
 clear hS2 hT2 hb3 hS3 s20 F3 SK FA
 go_region
 obtain ⟨w4, hw4⟩ : ∃ w4, (w3.alloc (.cells #[.int .i64 (c : Int), .string T, .int .i64 (m : Int)] 91)).drew = w4 := ⟨_, rfl⟩
 have hb4 : Below w3.heap.size w3 w4 := by rw [← hw4]; exact ((Below.refl _ w3).alloc (Nat.le_refl _) _).drew
 have F4 : Full w4 w3.heap.size 91 [.int .i64 (c : Int), .string T, .int .i64 (m : Int)] := by rw [← hw4]; exact (Full.new w3 91 _).drew
 obtain ⟨u, hu⟩ : ∃ u, w3.heap.size = u := ⟨_, rfl⟩
 have hS4 := HS3.out.on hb4
 have F4r := HF3.out.on hb4
 have hT4 := HT3.out.trans_ (Turn.of hb4)
 have hbu : b < u := by rw [← hu]; exact HS3.out.lt
 have hru : r < u := by rw [← hu]; exact HF3.out.lt
 rw [hu] at F4
 rw [hw4, hu]
 have p0 : w4.cell? ⟨b, 0, none⟩ = some (.string S) := Full.cell hS4 0
 have p0f : w4.frozen? ⟨b, 0, none⟩ = false := Full.frozen hS4 0
 have hS5 := sc_far hS4 0 (.string D) (c' := D) (n' := m) rfl
 have F5u := F4.far (p := ⟨b, 0, none⟩) (by show u ≠ b; omega) (.string D)
 have F5r := F4r.far (p := ⟨b, 0, none⟩) (by show r ≠ b; omega) (.string D)
 have u0 : (w4.setCell ⟨b, 0, none⟩ (.string D)).cell? ⟨u, 0, none⟩ = some (.int .i64 (c : Int)) := F5u.cell 0
 have u1 : (w4.setCell ⟨b, 0, none⟩ (.string D)).cell? ⟨u, 1, none⟩ = some (.string T) := F5u.cell 1
 have u2 : (w4.setCell ⟨b, 0, none⟩ (.string D)).cell? ⟨u, 2, none⟩ = some (.int .i64 (m : Int)) := F5u.cell 2
 obtain ⟨⟨v0, v0f⟩, ⟨v1, v1f⟩, ⟨v2, v2f⟩, F6⟩ := store3 F5r (.int .i64 (c : Int)) (.string T) (.int .i64 (m : Int))
 have HT6 := Lib.hid (Turn.set3 (r := r) (((Turn.of HB1.out).trans_ hT4).trans_ (Turn.set_ (F := fun g => g = b) (a := ⟨b, 0, none⟩) rfl (.string D))) (by omega) (.int .i64 (c : Int)) (.string T) (.int .i64 (m : Int)))
 obtain ⟨w8, hw8⟩ : ∃ w8, (((w4.setCell ⟨b, 0, none⟩ (.string D)).setCell ⟨r, 0, none⟩ (.int .i64 (c : Int))).setCell ⟨r, 1, none⟩ (.string T)).setCell ⟨r, 2, none⟩ (.int .i64 (m : Int)) = w8 := ⟨_, rfl⟩
 have hS8 : Sc w8 b D m Z := by
   rw [← hw8]
   exact ((Full.far hS5 (p := ⟨r, 0, none⟩) (by show b ≠ r; omega) _).far (p := ⟨r, 1, none⟩) (by show b ≠ r; omega) _).far (p := ⟨r, 2, none⟩) (by show b ≠ r; omega) _
 have HS8 := Lib.hid hS8
 rw [hw8] at F6 HT6
 have q0 : w8.cell? ⟨r, 0, none⟩ = some (.int .i64 (c : Int)) := F6.cell 0
 have q1 : w8.cell? ⟨r, 1, none⟩ = some (.string T) := F6.cell 1
 have q2 : w8.cell? ⟨r, 2, none⟩ = some (.int .i64 (m : Int)) := F6.cell 2
 clear hw4 hb4 F4 hS4 F4r hT4 hS5 F5u F5r F6 hS8 hr hu HS3 HF3 HT3 HB1 HF1 s30 s31 s40 s41
 go_wp2
 refine bodyPost_ret (v := .agg #[.int .i64 (c : Int), .string T, .int .i64 (m : Int)]) (by simp [results, Tryz.results73, go_sem, q0, q1, q2]) rfl ?_
 refine ⟨?_, ?_, HT6.out⟩
 · unfold tokV
   rw [HTD.out.1]
 · have := HS8.out
   rwa [HTD.out.2] at this
def Pm (w : World) (b : Nat) (s : ByteArray) (n : Nat) (c : Int) (tx : ByteArray) (tl : Int) (e el : Int) (R : List Value) : Prop :=
 Full w b 95 (.string s :: .int .i64 (n : Int) :: .int .i64 c :: .string tx :: .int .i64 tl :: .int .i64 e :: .int .i64 el :: R)
theorem Pm.sc {w : World} {b : Nat} {s : ByteArray} {n : Nat} {c : Int} {tx : ByteArray} {tl e el : Int} {R : List Value} (h : Pm w b s n c tx tl e el R) : Sc w b s n (.int .i64 c :: .string tx :: .int .i64 tl :: .int .i64 e :: .int .i64 el :: R) := h
section
variable {w w' : World} {b : Nat} {s : ByteArray} {n : Nat} {c : Int} {tx : ByteArray} {tl e el : Int} {R : List Value}
theorem Pm.lt (h : Pm w b s n c tx tl e el R) : b < w.heap.size := Full.lt h
theorem Pm.on (h : Pm w b s n c tx tl e el R) (hb : Below w.heap.size w w') : Pm w' b s n c tx tl e el R := Full.on h hb
theorem Pm.drew (h : Pm w b s n c tx tl e el R) : Pm w.drew b s n c tx tl e el R := h
theorem Pm.ahead (h : Pm w b s n c tx tl e el R) (c' : Int) (tx' : ByteArray) (tl' : Int) :
   (w.cell? ⟨b, 2, none⟩ = some (.int .i64 c) ∧ w.frozen? ⟨b, 2, none⟩ = false) ∧ ((w.setCell ⟨b, 2, none⟩ (.int .i64 c')).cell? ⟨b, 3, none⟩ = some (.string tx) ∧ (w.setCell ⟨b, 2, none⟩ (.int .i64 c')).frozen? ⟨b, 3, none⟩ = false) ∧
   (((w.setCell ⟨b, 2, none⟩ (.int .i64 c')).setCell ⟨b, 3, none⟩ (.string tx')).cell? ⟨b, 4, none⟩ = some (.int .i64 tl) ∧ ((w.setCell ⟨b, 2, none⟩ (.int .i64 c')).setCell ⟨b, 3, none⟩ (.string tx')).frozen? ⟨b, 4, none⟩ = false) ∧
   Pm (((w.setCell ⟨b, 2, none⟩ (.int .i64 c')).setCell ⟨b, 3, none⟩ (.string tx')).setCell ⟨b, 4, none⟩ (.int .i64 tl')) b s n c' tx' tl' e el R := by
 have F : Full w b 95 _ := h
 exact ⟨⟨F.cell 2, F.frozen 2⟩, ⟨(F.set_ 2 _).cell 3, (F.set_ 2 _).frozen 3⟩, ⟨((F.set_ 2 _).set_ 3 _).cell 4, ((F.set_ 2 _).set_ 3 _).frozen 4⟩, ((F.set_ 2 _).set_ 3 _).set_ 4 _⟩
end
theorem Turn.setb {G : Nat → Prop} {w w' : World} {b : Nat} (h : Turn G w w') (hb : G b) (o : Nat) (u : Value) : Turn G w (w'.setCell ⟨b, o, none⟩ u) := h.trans_ (Turn.set_ (a := ⟨b, o, none⟩) hb u)
def AdvOut (w : World) (b : Nat) (v : Value) (r : Tok × List UInt8 × Nat) (e el : Int) (R : List Value) (en : Ending) (w' : World) : Prop :=
 en = .returned v ∧ Pm w' b (str r.2.1) r.2.2 (r.1.cls : Int) (str r.1.txt) (r.1.ln : Int) e el R ∧ Turn (fun g => g = b) w w'
set_option maxHeartbeats 2000000 in
theorem advance_pm {w : World} {b : Nat} {s : ByteArray} {n : Nat} {c : Int} {tx : ByteArray} {tl e el : Int} {R : List Value} (h : Pm w b s n c tx tl e el R) (ha : Asc s.data.toList) (hs : s.size ≤ 4294967000) (hn : n ≤ 1099511627776) :
   Calls Tryz.prog 112 #[.pointer (some ⟨b, 0, none⟩)] w (AdvOut w b (.agg #[.int .i64 c, .string tx, .int .i64 tl]) (next s.data.toList n) e el R) := by
 unfold AdvOut
 obtain ⟨w1, hw1⟩ : ∃ w1, w.alloc (.cells #[.int .i64 0, .string ⟨#[]⟩, .int .i64 0] 91) = w1 := ⟨_, rfl⟩
 have hb1 : Below w.heap.size w w1 := by rw [← hw1]; exact (Below.refl _ w).alloc (Nat.le_refl _) _
 have F1 : Full w1 w.heap.size 91 [.int .i64 0, .string ⟨#[]⟩, .int .i64 0] := by rw [← hw1]; exact Full.new w 91 _
 have s1 : w1.heap.size = w.heap.size + 1 := by rw [← hw1]; exact World.size_alloc _ _
 obtain ⟨w2, hw2⟩ : ∃ w2, w1.alloc (.cells #[.int .i64 c, .string tx, .int .i64 tl] 91) = w2 := ⟨_, rfl⟩
 have hb2 : Below w1.heap.size w1 w2 := by rw [← hw2]; exact (Below.refl _ w1).alloc (Nat.le_refl _) _
 have F2u : Full w2 w1.heap.size 91 [.int .i64 c, .string tx, .int .i64 tl] := by rw [← hw2]; exact Full.new w1 91 _
 have F2r := F1.on hb2
 have h1 := h.on hb1
 have h2 := h1.on hb2
 have NX := Lib.hid (next_any h2.sc ha hs hn)
 unfold NextOut at NX
 obtain ⟨t', rest', n', hnx⟩ : ∃ t' rest' n', next s.data.toList n = (t', rest', n') := ⟨_, _, _, rfl⟩
 rw [hnx] at NX ⊢
 dsimp only at NX ⊢
 obtain ⟨c', hc'⟩ : ∃ c' : Nat, t'.cls = c' := ⟨_, rfl⟩
 obtain ⟨l', hl'⟩ : ∃ c' : Nat, t'.ln = c' := ⟨_, rfl⟩
 obtain ⟨x', hx'⟩ : ∃ c', str t'.txt = c' := ⟨_, rfl⟩
 unfold tokV at NX
 rw [hc', hl', hx'] at NX ⊢
 have k2 : w1.cell? ⟨b, 2, none⟩ = some (.int .i64 c) := Full.cell h1 2
 have k3 : w1.cell? ⟨b, 3, none⟩ = some (.string tx) := Full.cell h1 3
 have k4 : w1.cell? ⟨b, 4, none⟩ = some (.int .i64 tl) := Full.cell h1 4
 obtain ⟨r, hr⟩ : ∃ r, w.heap.size = r := ⟨_, rfl⟩
 obtain ⟨u, hu⟩ : ∃ u, w1.heap.size = u := ⟨_, rfl⟩
 have hbr : b < r := by rw [← hr]; exact h.lt
 have hru : r < u := by omega
 rw [hr] at F2r
 rw [hu] at F2u
 have HF := Lib.hid (And.intro F2u F2r)
 have HB := Lib.hid (show Turn (fun g => g = b) w w2 from (Turn.of hb1).trans_ (Turn.of hb2))
 clear F1 F2u F2r h1 h2 hb1 hb2 h s1 hnx hc' hl' hx' ha
 go_enter Tryz.func112, Tryz.ntmps112
 go_upto_region 2 with fail
 clear hw1 k2 k3 k4
 go_upto_region 3 with (first
   | (go_at_call 73; ((with_reducible refine NX.out.mono ?_); rintro en w3 ⟨rfl, hS3, hT3⟩; (obtain ⟨⟨v0, v0f⟩, ⟨v1, v1f⟩, ⟨v2, v2f⟩, hP⟩ := Pm.ahead (w := w3) (b := b) (s := str rest') (n := n') (c := c) (tx := tx) (tl := tl) (e := e) (el := el) (R := R) hS3 (c' : Int) x' (l' : Int))))
   | (fail "arm"))
 obtain ⟨w4, hw4⟩ : ∃ w4, ((w3.setCell ⟨b, 2, none⟩ (.int .i64 (c' : Int))).setCell ⟨b, 3, none⟩ (.string x')).setCell ⟨b, 4, none⟩ (.int .i64 (l' : Int)) = w4 := ⟨_, rfl⟩
 have far3 : ∀ {g : Nat} {t : TypeId} {cs : List Value}, Full w3 g t cs → g ≠ b → Full w4 g t cs := fun F hg => by
   rw [← hw4]
   exact ((F.far (p := ⟨b, 2, none⟩) hg _).far (p := ⟨b, 3, none⟩) hg _).far (p := ⟨b, 4, none⟩) hg _
 have F4u := far3 (hT3.far HF.out.1 (by omega)) (by omega)
 have F4r := far3 (hT3.far HF.out.2 (by omega)) (by omega)
 have hT4 : Turn (fun g => g = b) w w4 := by
   rw [← hw4]
   exact (((HB.out.trans_ hT3).setb rfl 2 _).setb rfl 3 _).setb rfl 4 _
 rw [hw4] at hP ⊢
 have u0 : w4.cell? ⟨u, 0, none⟩ = some (.int .i64 c) := F4u.cell 0
 have u1 : w4.cell? ⟨u, 1, none⟩ = some (.string tx) := F4u.cell 1
 have u2 : w4.cell? ⟨u, 2, none⟩ = some (.int .i64 tl) := F4u.cell 2
 obtain ⟨⟨y0, y0f⟩, ⟨y1, y1f⟩, ⟨y2, y2f⟩, F6⟩ := store3 F4r (.int .i64 c) (.string tx) (.int .i64 tl)
 have HT6 := Lib.hid (Turn.set3 (r := r) hT4 (by omega) (.int .i64 c) (.string tx) (.int .i64 tl))
 obtain ⟨w8, hw8⟩ : ∃ w8, ((w4.setCell ⟨r, 0, none⟩ (.int .i64 c)).setCell ⟨r, 1, none⟩ (.string tx)).setCell ⟨r, 2, none⟩ (.int .i64 tl) = w8 := ⟨_, rfl⟩
 have hP8 : Pm w8 b (str rest') n' (c' : Int) x' (l' : Int) e el R := by
   rw [← hw8]
   exact ((Full.far hP (p := ⟨r, 0, none⟩) (by show b ≠ r; omega) _).far (p := ⟨r, 1, none⟩) (by show b ≠ r; omega) _).far (p := ⟨r, 2, none⟩) (by show b ≠ r; omega) _
 have HP8 := Lib.hid hP8
 rw [hw8] at F6 HT6
 have q0 : w8.cell? ⟨r, 0, none⟩ = some (.int .i64 c) := F6.cell 0
 have q1 : w8.cell? ⟨r, 1, none⟩ = some (.string tx) := F6.cell 1
 have q2 : w8.cell? ⟨r, 2, none⟩ = some (.int .i64 tl) := F6.cell 2
 clear hw4 far3 F4u F4r hT4 F6 hP8 hP hS3 hT3 HF HB v0 v0f v1 v1f v2 v2f hr hu NX
 go_wp2
 refine bodyPost_ret (v := .agg #[.int .i64 c, .string tx, .int .i64 tl]) (by simp [results, Tryz.results112, go_sem, q0, q1, q2]) rfl ?_
 exact ⟨rfl, HP8.out, HT6.out⟩
def failE (e : Int) (code : Int) : Int := if e = 0 then code else e
def failL (e el line : Int) : Int := if e = 0 then line else el
def FailOut (w : World) (b : Nat) (s : ByteArray) (n : Nat) (e el : Int) (R : List Value) (en : Ending) (w' : World) : Prop :=
 en = .returned (.tuple #[]) ∧ Pm w' b s n 0 ⟨#[]⟩ 0 e el R ∧ Turn (fun g => g = b) w w'
theorem fail_pm {w : World} {b : Nat} {s : ByteArray} {n : Nat} {c : Int} {tx : ByteArray} {tl e el : Int} {R : List Value} (h : Pm w b s n c tx tl e el R) (line code : Int) :
   Calls Tryz.prog 116 #[.pointer (some ⟨b, 0, none⟩), .int .i64 line, .int .i64 code] w (FailOut w b s n (failE e code) (failL e el line) R) := by
 unfold FailOut failE failL
 have F : Full w b 95 _ := h
 have k5 : w.cell? ⟨b, 5, none⟩ = some (.int .i64 e) := F.cell 5
 by_cases he : e = 0
 · subst he
   rw [if_pos rfl, if_pos rfl]
   have k6 : w.cell? ⟨b, 6, none⟩ = some (.int .i64 el) := F.cell 6
   have k6f := F.frozen 6
   have F1 := F.set_ 6 (.int .i64 line)
   have k5' : (w.setCell ⟨b, 6, none⟩ (.int .i64 line)).cell? ⟨b, 5, none⟩ = some (.int .i64 0) := F1.cell 5
   have k5f := F1.frozen 5
   have h2 : Pm ((w.setCell ⟨b, 6, none⟩ (.int .i64 line)).setCell ⟨b, 5, none⟩ (.int .i64 code)) b s n c tx tl code line R := F1.set_ 5 (.int .i64 code)
   obtain ⟨⟨v0, v0f⟩, ⟨v1, v1f⟩, ⟨v2, v2f⟩, hP⟩ := h2.ahead 0 ⟨#[]⟩ 0
   have HP := Lib.hid hP
   have HT := Lib.hid ((((((Turn.refl (fun g => g = b) w).setb rfl 6 (.int .i64 line)).setb rfl 5 (.int .i64 code)).setb rfl 2 (.int .i64 0)).setb rfl 3 (.string ⟨#[]⟩)).setb rfl 4 (.int .i64 0))
   clear F F1 h2 hP h
   go_enter Tryz.func116, Tryz.ntmps116
   go_wp2
   go_end0
   exact ⟨rfl, HP.out, HT.out⟩
 · rw [if_neg he, if_neg he]
   obtain ⟨⟨v0, v0f⟩, ⟨v1, v1f⟩, ⟨v2, v2f⟩, hP⟩ := h.ahead 0 ⟨#[]⟩ 0
   have HP := Lib.hid hP
   have HT := Lib.hid ((((Turn.refl (fun g => g = b) w).setb rfl 2 (.int .i64 0)).setb rfl 3 (.string ⟨#[]⟩)).setb rfl 4 (.int .i64 0))
   have he0 : (e == 0) = false := by simpa using he
   clear F hP h he
   go_enter Tryz.func116, Tryz.ntmps116
   go_wp2
   go_end0
   exact ⟨rfl, HP.out, HT.out⟩
theorem refuse_pm {w : World} {b : Nat} {s : ByteArray} {n : Nat} {c : Int} {tx : ByteArray} {tl e el : Int} {R : List Value} (h : Pm w b s n c tx tl e el R) :
   Calls Tryz.prog 104 #[.pointer (some ⟨b, 0, none⟩)] w (FailOut w b s n (failE e 40) (failL e el tl) R) := by
 have FL := Lib.hid (fail_pm h tl 40)
 unfold FailOut at FL ⊢
 have k4 : w.cell? ⟨b, 4, none⟩ = some (.int .i64 tl) := Full.cell h 4
 clear h
 go_enter Tryz.func104, Tryz.ntmps104
 go_wp2_with (first
   | (go_at_call 116; ((with_reducible refine FL.out.mono ?_); rintro en w1 ⟨rfl, hP, hT⟩))
   | (fail "arm"))
 go_end0
 exact ⟨rfl, hP, hT⟩
theorem skip_sum : ∀ (f : Bool) (s : List UInt8) (n : Nat), (skip f s n).1.length + (skip f s n).2 ≤ s.length + n
 | f, [], n => by cases f <;> simp [skip]
 | true, c :: t, n => by
   rw [skip]
   split
   · have := skip_sum false t (n + 1); simp; omega
   · have := skip_sum true t n; simp; omega
 | false, c :: t, n => by
   rw [skip]
   split
   · have := skip_sum false t (n + 1); simp; omega
   · split
     · have := skip_sum false t n; simp; omega
     · split
       · have := skip_sum true t n; simp; omega
       · simp
theorem next_sum (s : List UInt8) (n : Nat) : (next s n).2.1.length ≤ s.length ∧ (next s n).2.1.length + (next s n).2.2 ≤ s.length + n := by
 have h1 := skip_sum false s n
 have h2 := (skip_len false s n).1
 show ((skip false s n).1.drop _).length ≤ _ ∧ ((skip false s n).1.drop _).length + (skip false s n).2 ≤ _
 rw [List.length_drop]
 constructor <;> omega
theorem next_asc {s : List UInt8} {n : Nat} (h : Asc s) : Asc (next s n).2.1 := fun b hb => Asc.skip false s n h b (List.mem_of_mem_drop hb)
theorem run_take (f : UInt8 → Bool) : ∀ s : List UInt8, run f (s.take (run f s)) = run f s
 | [] => rfl
 | c :: t => by
   by_cases hc : f c = true
   · rw [show run f (c :: t) = run f t + 1 by rw [run, if_pos hc], List.take_succ_cons, run, if_pos hc, run_take f t]
   · rw [show run f (c :: t) = 0 by rw [run, if_neg hc]]; rfl
theorem first_take (l : List UInt8) : first (l.take (first l).2) = first l := by
 cases l with
 | nil => rfl
 | cons c t =>
   by_cases h1 : isLet c = true
   · have e : first (c :: t) = (2, run isCont (c :: t)) := by rw [first, if_pos h1]
     have hc : isCont c = true := by unfold isCont; rw [h1]; rfl
     have er : run isCont (c :: t) = run isCont t + 1 := by rw [run, if_pos hc]
     rw [e]
     dsimp only
     rw [er, List.take_succ_cons, first, if_pos h1, run, if_pos hc, run_take]
   · by_cases h2 : isDig c = true
     · have e : first (c :: t) = (3, run isDig (c :: t)) := by rw [first, if_neg h1, if_pos h2]
       have er : run isDig (c :: t) = run isDig t + 1 := by rw [run, if_pos h2]
       rw [e]
       dsimp only
       rw [er, List.take_succ_cons, first, if_neg h1, if_pos h2, run, if_pos h2, run_take]
     · by_cases h3 : isSym c = true
       · have e : first (c :: t) = (5, 1) := by rw [first, if_neg h1, if_neg h2, if_pos h3]
         rw [e]
         show first [c] = _
         rw [first, if_neg h1, if_neg h2, if_pos h3]
       · by_cases h4 : c = 34 ∧ strLen t ≠ 0
         · have e : first (c :: t) = (4, strLen t) := by rw [first, if_neg h1, if_neg h2, if_neg h3, if_pos h4]
           rw [e]
           dsimp only
           have hs := h4.2
           have hsl : strLen t = if t[run (fun c => !notStr c) t]? = some 34 then run (fun c => !notStr c) t + 2 else 0 := rfl
           obtain ⟨k, hk⟩ : ∃ k, run (fun c => !notStr c) t = k := ⟨_, rfl⟩
           rw [hk] at hsl
           by_cases hq : t[k]? = some 34
           · rw [if_pos hq] at hsl
             rw [hsl, List.take_succ_cons]
             have hkl : k < t.length := (List.getElem?_eq_some_iff.1 hq).1
             have hk34 : t[k] = 34 := (List.getElem?_eq_some_iff.1 hq).2
             have hr : run (fun c => !notStr c) (t.take (k + 1)) = k := by
               refine run_eq _ _ k (by rw [List.length_take]; omega) (fun i hi => ?_) (fun h => ?_)
               · obtain ⟨_, h2⟩ := run_at (fun c => !notStr c) t i (by omega)
                 rw [List.getElem_take]; exact h2
               · rw [List.getElem_take, hk34]; rfl
             have hst : strLen (t.take (k + 1)) = k + 2 := by
               show (if (t.take (k + 1))[run (fun c => !notStr c) (t.take (k + 1))]? = some 34 then run (fun c => !notStr c) (t.take (k + 1)) + 2 else 0) = _
               rw [hr, List.getElem?_take_of_lt (by omega), if_pos hq]
             rw [first, if_neg h1, if_neg h2, if_neg h3, if_pos ⟨h4.1, by rw [hst]; omega⟩, hst]
           · rw [if_neg hq] at hsl; exact absurd hsl hs
         · have e : first (c :: t) = (0, 1) := by rw [first, if_neg h1, if_neg h2, if_neg h3, if_neg h4]
           rw [e]
           show first [c] = _
           have hn : ¬ (c = 34 ∧ strLen ([] : List UInt8) ≠ 0) := fun h => h.2 rfl
           rw [first, if_neg h1, if_neg h2, if_neg h3, if_neg hn]
def TokOk (t : Tok) : Prop := first t.txt = (t.cls, t.txt.length) ∧ t.txt.length ≤ 4294967000
theorem next_ok (s : List UInt8) (n : Nat) (hs : s.length ≤ 4294967000) : TokOk (next s n).1 := by
 refine ⟨?_, by
   show ((skip false s n).1.take _).length ≤ _
   have := (skip_len false s n).1
   rw [List.length_take]; omega⟩
 show first ((skip false s n).1.take _) = ((first (skip false s n).1).1, ((skip false s n).1.take _).length)
 rw [first_take, List.length_take, Nat.min_eq_left (first_le _)]
inductive Pst where
 | ok (ts : List Tok)
 | bad (e l : Int)
def Cur (σ : Pst) (s : ByteArray) (n : Nat) (c : Int) (tx : ByteArray) (tl e el : Int) : Prop :=
 match σ with
 | .ok ts => e = 0 ∧ ∃ t : Tok, c = (t.cls : Int) ∧ tx = str t.txt ∧ tl = (t.ln : Int) ∧ TokOk t ∧ ts = if t.cls ≤ 1 then [t] else t :: toks s.data.toList n
 | .bad e' l' => e = e' ∧ el = l' ∧ e' ≠ 0 ∧ c = 0 ∧ tx = ⟨#[]⟩ ∧ tl = 0
def PS (w : World) (b : Nat) (σ : Pst) (R : List Value) : Prop :=
 ∃ s n c tx tl e el, Pm w b s n c tx tl e el R ∧ (Asc s.data.toList ∧ s.size ≤ 4294967000 ∧ s.size + n ≤ 1099511627776) ∧ Cur σ s n c tx tl e el
theorem PS.lt {w : World} {b : Nat} {σ : Pst} {R : List Value} (h : PS w b σ R) : b < w.heap.size := by obtain ⟨s, n, c, tx, tl, e, el, h1, _⟩ := h; exact h1.lt
theorem PS.on {w w' : World} {b : Nat} {σ : Pst} {R : List Value} (h : PS w b σ R) (hb : Below w.heap.size w w') : PS w' b σ R := by obtain ⟨s, n, c, tx, tl, e, el, h1, h2⟩ := h; exact ⟨s, n, c, tx, tl, e, el, h1.on hb, h2⟩
theorem PS.drew {w : World} {b : Nat} {σ : Pst} {R : List Value} (h : PS w b σ R) : PS w.drew b σ R := h
theorem ps_next {w' : World} {b : Nat} {s : ByteArray} {n : Nat} {el : Int} {R : List Value} (hs : Asc s.data.toList ∧ s.size ≤ 4294967000 ∧ s.size + n ≤ 1099511627776)
   (h : Pm w' b (str (next s.data.toList n).2.1) (next s.data.toList n).2.2 ((next s.data.toList n).1.cls : Int) (str (next s.data.toList n).1.txt) ((next s.data.toList n).1.ln : Int) 0 el R) : PS w' b (.ok (toks s.data.toList n)) R := by
 have hsum := next_sum s.data.toList n
 rw [data_len] at hsum
 refine ⟨_, _, _, _, _, _, _, h, ⟨next_asc hs.1, by rw [str_size]; omega, by rw [str_size]; omega⟩, rfl, _, rfl, rfl, rfl, next_ok _ _ (by rw [data_len]; exact hs.2.1), ?_⟩
 rw [str_data]
 exact toks_eq _ _
def pTake (x : List UInt8) : Pst → Bool × Pst
 | .ok (t :: r) => if t.txt = x then (true, .ok r) else (false, .ok (t :: r))
 | .ok [] => (false, .ok [])
 | .bad e l => (false, .bad e l)
def TakeOut (w : World) (b : Nat) (r : Bool × Pst) (R : List Value) (en : Ending) (w' : World) : Prop := en = .returned (.bool r.1) ∧ PS w' b r.2 R ∧ Turn (fun g => g = b) w w'
theorem str_ne {a b : List UInt8} (h : a ≠ b) : ((str a).toList == (str b).toList) = false := by
 rw [Lib.toList_data, Lib.toList_data, str_data, str_data]
 simpa using h
theorem str_same (a : List UInt8) : ((str a).toList == (str a).toList) = true := by simp
theorem take_any {w : World} {b : Nat} {σ : Pst} {R : List Value} (h : PS w b σ R) (x : List UInt8) (hx : 2 ≤ (first x).1) : Calls Tryz.prog 74 #[.pointer (some ⟨b, 0, none⟩), .string (str x)] w (TakeOut w b (pTake x σ) R) := by
 unfold TakeOut
 have hps := h
 obtain ⟨s, n, c, tx, tl, e, el, hP, hs, hC⟩ := h
 have k3 : w.cell? ⟨b, 3, none⟩ = some (.string tx) := Full.cell hP 3
 have hx0 : x ≠ [] := fun e => by rw [e] at hx; simp [first] at hx
 have HT := Lib.hid (Turn.refl (fun g => g = b) w)
 cases σ with
 | bad e' l' =>
   obtain ⟨_, _, _, _, htx, _⟩ := hC
   have hne : (tx.toList == (str x).toList) = false := by
     rw [htx]; exact str_ne (a := []) (fun e => hx0 e.symm)
   have HP := Lib.hid hps
   show Calls Tryz.prog 74 _ w fun en w' => en = .returned (.bool false) ∧ PS w' b (.bad e' l') R ∧ Turn (fun g => g = b) w w'
   obtain ⟨X, hX⟩ : ∃ X, str x = X := ⟨_, rfl⟩
   rw [hX] at hne ⊢
   clear hX htx hP hps hs hx
   go_enter Tryz.func74, Tryz.ntmps74
   go_wp2
   go_ret
   exact ⟨rfl, HP.out, HT.out⟩
 | ok ts =>
   obtain ⟨he, t, hc, htx, htl, hok, hts⟩ := hC
   by_cases htt : t.txt = x
   · have hcl : 2 ≤ t.cls := by
       have := hok.1
       rw [htt] at this
       rw [this] at hx
       exact hx
     rw [if_neg (by omega)] at hts
     have hp : pTake x (.ok ts) = (true, .ok (toks s.data.toList n)) := by rw [hts, pTake, if_pos htt]
     rw [hp]
     have heq : (tx.toList == (str x).toList) = true := by rw [htx, htt]; exact str_same x
     subst he
     have AD := Lib.hid ((advance_pm hP hs.1 hs.2.1 (by omega)).mono fun en w' k => (show en = .returned (.agg #[.int .i64 c, .string tx, .int .i64 tl]) ∧ PS w' b (.ok (toks s.data.toList n)) R ∧ Turn (fun g => g = b) w w' from ⟨k.1, ps_next hs k.2.1, k.2.2⟩))
     obtain ⟨X, hX⟩ : ∃ X, str x = X := ⟨_, rfl⟩
     rw [hX] at heq ⊢
     clear hX htx hP hps hs hx hts hc htl hok htt hp
     go_enter Tryz.func74, Tryz.ntmps74
     go_wp2_with (first
       | (go_at_call 112; ((with_reducible refine AD.out.mono ?_); rintro en w1 ⟨rfl, hP1, hT1⟩))
       | (fail "arm"))
     go_ret
     exact ⟨rfl, hP1, hT1⟩
   · have hp : pTake x (.ok ts) = (false, .ok ts) := by
       cases hts' : ts with
       | nil => rfl
       | cons t' r =>
         rw [hts'] at hts
         have : t' = t := by split at hts <;> (injection hts)
         rw [pTake, if_neg (by rw [this]; exact htt)]
     rw [hp]
     have hne : (tx.toList == (str x).toList) = false := by rw [htx]; exact str_ne htt
     have HP := Lib.hid hps
     obtain ⟨X, hX⟩ : ∃ X, str x = X := ⟨_, rfl⟩
     rw [hX] at hne ⊢
     clear hX htx hP hps hs hx hts hc htl hok htt hp he
     go_enter Tryz.func74, Tryz.ntmps74
     go_wp2
     go_ret
     exact ⟨rfl, HP.out, HT.out⟩
def pFail (line code : Int) : Pst → Pst
 | .ok _ => .bad code line
 | .bad e l => .bad e l
def pRefuse : Pst → Pst
 | .ok (t :: _) => .bad 40 (t.ln : Int)
 | .ok [] => .bad 40 0
 | .bad e l => .bad e l
def StOut (w : World) (b : Nat) (σ : Pst) (R : List Value) (en : Ending) (w' : World) : Prop := en = .returned (.tuple #[]) ∧ PS w' b σ R ∧ Turn (fun g => g = b) w w'
theorem ok_cons {ts : List Tok} {s : ByteArray} {n : Nat} {c : Int} {tx : ByteArray} {tl e el : Int} (h : Cur (.ok ts) s n c tx tl e el) : ∃ t r, ts = t :: r ∧ c = (t.cls : Int) ∧ tx = str t.txt ∧ tl = (t.ln : Int) ∧ TokOk t ∧ (2 ≤ t.cls → r = toks s.data.toList n) ∧ e = 0 := by
 obtain ⟨he, t, hc, htx, htl, hok, hts⟩ := h
 by_cases h1 : t.cls ≤ 1
 · rw [if_pos h1] at hts; exact ⟨t, [], hts, hc, htx, htl, hok, fun h => by omega, he⟩
 · rw [if_neg h1] at hts; exact ⟨t, _, hts, hc, htx, htl, hok, fun _ => rfl, he⟩
theorem fail_any {w : World} {b : Nat} {σ : Pst} {R : List Value} (h : PS w b σ R) (line code : Int) (hc : code ≠ 0) : Calls Tryz.prog 116 #[.pointer (some ⟨b, 0, none⟩), .int .i64 line, .int .i64 code] w (StOut w b (pFail line code σ) R) := by
 obtain ⟨s, n, c, tx, tl, e, el, hP, hs, hC⟩ := h
 refine (fail_pm hP line code).mono ?_
 rintro en w' ⟨he, hP', hT⟩
 refine ⟨he, ⟨_, _, _, _, _, _, _, hP', hs, ?_⟩, hT⟩
 cases σ with
 | ok ts =>
   obtain ⟨t, r, _, _, _, _, _, _, e0⟩ := ok_cons hC
   subst e0
   exact ⟨rfl, rfl, hc, rfl, rfl, rfl⟩
 | bad e' l' =>
   obtain ⟨h1, h2, h3, _, _⟩ := hC
   have hne : e ≠ 0 := by rw [h1]; exact h3
   exact ⟨by unfold failE; rw [if_neg hne]; exact h1, by unfold failL; rw [if_neg hne]; exact h2, h3, rfl, rfl, rfl⟩
theorem refuse_any {w : World} {b : Nat} {σ : Pst} {R : List Value} (h : PS w b σ R) : Calls Tryz.prog 104 #[.pointer (some ⟨b, 0, none⟩)] w (StOut w b (pRefuse σ) R) := by
 obtain ⟨s, n, c, tx, tl, e, el, hP, hs, hC⟩ := h
 refine (refuse_pm hP).mono ?_
 rintro en w' ⟨he, hP', hT⟩
 refine ⟨he, ⟨_, _, _, _, _, _, _, hP', hs, ?_⟩, hT⟩
 cases σ with
 | ok ts =>
   obtain ⟨t, r, hts, _, _, htl, _, _, e0⟩ := ok_cons hC
   subst e0
   rw [hts]
   exact ⟨rfl, htl, by decide, rfl, rfl, rfl⟩
 | bad e' l' =>
   obtain ⟨h1, h2, h3, _, _⟩ := hC
   have hne : e ≠ 0 := by rw [h1]; exact h3
   exact ⟨by unfold failE; rw [if_neg hne]; exact h1, by unfold failL; rw [if_neg hne]; exact h2, h3, rfl, rfl, rfl⟩
def pExpect (x : List UInt8) (σ : Pst) : Pst := if (pTake x σ).1 then (pTake x σ).2 else pRefuse (pTake x σ).2
theorem expect_any {w : World} {b : Nat} {σ : Pst} {R : List Value} (h : PS w b σ R) (x : List UInt8) (hx : 2 ≤ (first x).1) : Calls Tryz.prog 103 #[.pointer (some ⟨b, 0, none⟩), .string (str x)] w (StOut w b (pExpect x σ) R) := by
 have TK := Lib.hid (take_any h x hx)
 have RF := Lib.hid (fun (W : World) (σ' : Pst) (h' : PS W b σ' R) => refuse_any h')
 unfold TakeOut at TK
 unfold StOut pExpect at *
 obtain ⟨r, hr⟩ : ∃ r, (pTake x σ).1 = r := ⟨_, rfl⟩
 obtain ⟨σ2, h2⟩ : ∃ r, (pTake x σ).2 = r := ⟨_, rfl⟩
 rw [hr, h2] at TK
 rw [hr, h2]
 obtain ⟨X, hX⟩ : ∃ X, str x = X := ⟨_, rfl⟩
 rw [hX] at TK ⊢
 clear hr h2 hX hx h
 cases r with
 | true =>
   go_enter Tryz.func103, Tryz.ntmps103
   go_wp2_with (first
     | (go_at_call 74; ((with_reducible refine TK.out.mono ?_); rintro en w1 ⟨rfl, hP1, hT1⟩))
     | (fail "arm"))
   go_end0
   exact ⟨rfl, hP1, hT1⟩
 | false =>
   go_enter Tryz.func103, Tryz.ntmps103
   go_wp2_with (first
     | (go_at_call 74; ((with_reducible refine TK.out.mono ?_); rintro en w1 ⟨rfl, hP1, hT1⟩))
     | (go_at_call 104; ((with_reducible refine (RF.out w1 σ2 hP1).mono ?_); rintro en w2 ⟨rfl, hP2, hT2⟩))
     | (fail "arm"))
   go_end0
   exact ⟨rfl, hP2, hT1.trans_ hT2⟩
def tok0 : Tok := ⟨0, [], 0⟩
def pAny (k : Nat) : Pst → Tok × Pst
 | .ok (t :: r) => if t.cls = k then (t, .ok r) else (tok0, .bad 40 (t.ln : Int))
 | .ok [] => (tok0, .bad 40 0)
 | .bad e l => (tok0, .bad e l)
def AnyOut (w : World) (b : Nat) (r : Tok × Pst) (R : List Value) (en : Ending) (w' : World) : Prop := en = .returned (tokV r.1) ∧ PS w' b r.2 R ∧ Turn (fun g => g = b) w w' ∧ r.1.txt.length ≤ 4294967000 ∧ (2 ≤ r.1.cls → TokOk r.1)
theorem any_yes {w : World} {b : Nat} {R : List Value} {k : Nat} {s : ByteArray} {n : Nat} {c : Int} {tx : ByteArray} {tl e el : Int} (hP : Pm w b s n c tx tl e el R) (hs : Asc s.data.toList ∧ s.size ≤ 4294967000 ∧ s.size + n ≤ 1099511627776) (he : e = 0) (hc : c = (k : Int)) :
   Calls Tryz.prog 77 #[.pointer (some ⟨b, 0, none⟩), .int .i64 (k : Int)] w fun en w' => en = .returned (.agg #[.int .i64 c, .string tx, .int .i64 tl]) ∧ PS w' b (.ok (toks s.data.toList n)) R ∧ Turn (fun g => g = b) w w' := by
 subst he hc
 obtain ⟨w1, hw1⟩ : ∃ w1, w.alloc (.cells #[.int .i64 0, .string ⟨#[]⟩, .int .i64 0] 91) = w1 := ⟨_, rfl⟩
 have hb1 : Below w.heap.size w w1 := by rw [← hw1]; exact (Below.refl _ w).alloc (Nat.le_refl _) _
 have F1 : Full w1 w.heap.size 91 [.int .i64 0, .string ⟨#[]⟩, .int .i64 0] := by rw [← hw1]; exact Full.new w 91 _
 have hP1 := hP.on hb1
 have k2 : w1.cell? ⟨b, 2, none⟩ = some (.int .i64 (k : Int)) := Full.cell hP1 2
 have AD := Lib.hid ((advance_pm hP1 hs.1 hs.2.1 (by omega)).mono fun en w' q => (show en = .returned (.agg #[.int .i64 (k : Int), .string tx, .int .i64 tl]) ∧ PS w' b (.ok (toks s.data.toList n)) R ∧ Turn (fun g => g = b) w1 w' from ⟨q.1, ps_next hs q.2.1, q.2.2⟩))
 obtain ⟨r, hr⟩ : ∃ r, w.heap.size = r := ⟨_, rfl⟩
 have hbr : b < r := by rw [← hr]; exact hP.lt
 rw [hr] at F1
 have HF1 := Lib.hid F1
 have HB1 := Lib.hid hb1
 have tt : ((k : Int) == (k : Int)) = true := by simp
 obtain ⟨T, hT⟩ : ∃ T, toks s.data.toList n = T := ⟨_, rfl⟩
 rw [hT] at AD ⊢
 clear hP hP1 hs hb1 F1 hT
 go_enter Tryz.func77, Tryz.ntmps77
 go_upto_region 4 with fail
 clear hw1
 go_wp2_with (first
   | (go_at_call 112; ((with_reducible refine AD.out.mono ?_); rintro en w3 ⟨rfl, hP3, hT3⟩; (obtain ⟨⟨y0, y0f⟩, ⟨y1, y1f⟩, ⟨y2, y2f⟩, F6⟩ := store3 (hT3.far HF1.out (by omega)) (.int .i64 (k : Int)) (.string tx) (.int .i64 tl))))
   | (fail "arm"))
 have HT6 := Lib.hid (Turn.set3 (r := r) ((Turn.of HB1.out).trans_ hT3) (by omega) (.int .i64 (k : Int)) (.string tx) (.int .i64 tl))
 obtain ⟨w8, hw8⟩ : ∃ w8, ((w3.setCell ⟨r, 0, none⟩ (.int .i64 (k : Int))).setCell ⟨r, 1, none⟩ (.string tx)).setCell ⟨r, 2, none⟩ (.int .i64 tl) = w8 := ⟨_, rfl⟩
 have hP8 : PS w8 b (.ok T) R := by
   rw [← hw8]
   obtain ⟨s', n', c', tx', tl', e', el', q1, q2⟩ := hP3
   exact ⟨s', n', c', tx', tl', e', el', ((Full.far q1 (p := ⟨r, 0, none⟩) (by show b ≠ r; omega) _).far (p := ⟨r, 1, none⟩) (by show b ≠ r; omega) _).far (p := ⟨r, 2, none⟩) (by show b ≠ r; omega) _, q2⟩
 rw [hw8] at F6 HT6 ⊢
 have q0 : w8.cell? ⟨r, 0, none⟩ = some (.int .i64 (k : Int)) := F6.cell 0
 have q1 : w8.cell? ⟨r, 1, none⟩ = some (.string tx) := F6.cell 1
 have q2 : w8.cell? ⟨r, 2, none⟩ = some (.int .i64 tl) := F6.cell 2
 refine bodyPost_ret (v := .agg #[.int .i64 (k : Int), .string tx, .int .i64 tl]) (by simp [results, Tryz.results77, go_sem, q0, q1, q2]) rfl ?_
 exact ⟨rfl, hP8, HT6.out⟩
theorem any_no {w : World} {b : Nat} {R : List Value} {k : Nat} {σ : Pst} {s : ByteArray} {n : Nat} {c : Int} {tx : ByteArray} {tl e el : Int} (hσ : PS w b σ R) (hP : Pm w b s n c tx tl e el R) (hc : c ≠ (k : Int)) :
   Calls Tryz.prog 77 #[.pointer (some ⟨b, 0, none⟩), .int .i64 (k : Int)] w (AnyOut w b (tok0, pRefuse σ) R) := by
 unfold AnyOut tokV tok0
 obtain ⟨w1, hw1⟩ : ∃ w1, w.alloc (.cells #[.int .i64 0, .string ⟨#[]⟩, .int .i64 0] 91) = w1 := ⟨_, rfl⟩
 have hb1 : Below w.heap.size w w1 := by rw [← hw1]; exact (Below.refl _ w).alloc (Nat.le_refl _) _
 have F1 : Full w1 w.heap.size 91 [.int .i64 0, .string ⟨#[]⟩, .int .i64 0] := by rw [← hw1]; exact Full.new w 91 _
 have hP1 := hP.on hb1
 have k2 : w1.cell? ⟨b, 2, none⟩ = some (.int .i64 c) := Full.cell hP1 2
 have RF := Lib.hid (refuse_any (hσ.on hb1))
 unfold StOut at RF
 obtain ⟨r, hr⟩ : ∃ r, w.heap.size = r := ⟨_, rfl⟩
 have hbr : b < r := by rw [← hr]; exact hP.lt
 rw [hr] at F1
 have HF1 := Lib.hid F1
 have HB1 := Lib.hid hb1
 have tt : (c == (k : Int)) = false := by simpa using hc
 obtain ⟨σ2, h2⟩ : ∃ r, pRefuse σ = r := ⟨_, rfl⟩
 rw [h2] at RF ⊢
 clear hP hP1 hb1 F1 hc hσ h2
 go_enter Tryz.func77, Tryz.ntmps77
 go_upto_region 2 with fail
 clear hw1
 go_wp2_with (first
   | (go_at_call 104; ((with_reducible refine RF.out.mono ?_); rintro en w3 ⟨rfl, hP3, hT3⟩; (obtain ⟨⟨y0, y0f⟩, ⟨y1, y1f⟩, ⟨y2, y2f⟩, F6⟩ := store3 (hT3.far HF1.out (by omega)) (.int .i64 0) (.string ⟨#[]⟩) (.int .i64 0))))
   | (fail "arm"))
 have HT6 := Lib.hid (Turn.set3 (r := r) ((Turn.of HB1.out).trans_ hT3) (by omega) (.int .i64 0) (.string ⟨#[]⟩) (.int .i64 0))
 obtain ⟨w8, hw8⟩ : ∃ w8, ((w3.setCell ⟨r, 0, none⟩ (.int .i64 0)).setCell ⟨r, 1, none⟩ (.string ⟨#[]⟩)).setCell ⟨r, 2, none⟩ (.int .i64 0) = w8 := ⟨_, rfl⟩
 have hP8 : PS w8 b σ2 R := by
   rw [← hw8]
   obtain ⟨s', n', c', tx', tl', e', el', q1, q2⟩ := hP3
   exact ⟨s', n', c', tx', tl', e', el', ((Full.far q1 (p := ⟨r, 0, none⟩) (by show b ≠ r; omega) _).far (p := ⟨r, 1, none⟩) (by show b ≠ r; omega) _).far (p := ⟨r, 2, none⟩) (by show b ≠ r; omega) _, q2⟩
 rw [hw8] at F6 HT6 ⊢
 have q0 : w8.cell? ⟨r, 0, none⟩ = some (.int .i64 0) := F6.cell 0
 have q1 : w8.cell? ⟨r, 1, none⟩ = some (.string ⟨#[]⟩) := F6.cell 1
 have q2 : w8.cell? ⟨r, 2, none⟩ = some (.int .i64 0) := F6.cell 2
 refine bodyPost_ret (v := .agg #[.int .i64 0, .string ⟨#[]⟩, .int .i64 0]) (by simp [results, Tryz.results77, go_sem, q0, q1, q2]) rfl ?_
 exact ⟨rfl, hP8, HT6.out, Nat.zero_le _, fun h => absurd h (by decide)⟩
theorem any_any {w : World} {b : Nat} {σ : Pst} {R : List Value} (h : PS w b σ R) (k : Nat) (hk : 2 ≤ k) : Calls Tryz.prog 77 #[.pointer (some ⟨b, 0, none⟩), .int .i64 (k : Int)] w (AnyOut w b (pAny k σ) R) := by
 have hσ := h
 obtain ⟨s, n, c, tx, tl, e, el, hP, hs, hC⟩ := h
 cases σ with
 | bad e' l' =>
   obtain ⟨_, _, _, h4, _⟩ := hC
   exact any_no hσ hP (by omega)
 | ok ts =>
   obtain ⟨t, r, hts, hc, htx, htl, hok, hr, he⟩ := ok_cons hC
   subst hts
   by_cases hk2 : t.cls = k
   · refine (any_yes hP hs he (by rw [hc, hk2])).mono ?_
     rintro en w' ⟨he', hP', hT⟩
     rw [show pAny k (.ok (t :: r)) = (t, .ok r) by simp [pAny, hk2]]
     unfold AnyOut
     refine ⟨by rw [he', hc, htx, htl]; rfl, by rw [hr (by omega)]; exact hP', hT, hok.2, fun _ => hok⟩
   · have := any_no hσ hP (k := k) (by rw [hc]; exact fun e => hk2 (by exact_mod_cast e))
     rw [show pAny k (.ok (t :: r)) = (tok0, .bad 40 (t.ln : Int)) by simp [pAny, hk2]]
     exact this
def pEnd : Pst → Pst → Prop
 | .ok (t :: _), σ' => if t.cls = 1 then ∃ ts, σ' = .ok ts else σ' = .bad 40 (t.ln : Int)
 | .ok [], _ => False
 | .bad e l, σ' => σ' = .bad e l
theorem any_end {w : World} {b : Nat} {σ : Pst} {R : List Value} (h : PS w b σ R) : Calls Tryz.prog 77 #[.pointer (some ⟨b, 0, none⟩), .int .i64 1] w fun en w' => ∃ v σ', en = .returned v ∧ PS w' b σ' R ∧ pEnd σ σ' ∧ Turn (fun g => g = b) w w' := by
 have hσ := h
 obtain ⟨s, n, c, tx, tl, e, el, hP, hs, hC⟩ := h
 cases σ with
 | bad e' l' =>
   obtain ⟨_, _, _, h4, _⟩ := hC
   refine (any_no hσ hP (k := 1) (by omega)).mono ?_
   rintro en w' ⟨he', hP', hT, _⟩
   exact ⟨_, _, he', hP', rfl, hT⟩
 | ok ts =>
   obtain ⟨t, r, hts, hc, htx, htl, hok, hr, he⟩ := ok_cons hC
   subst hts
   by_cases hk2 : t.cls = 1
   · refine (any_yes hP hs he (k := 1) (by rw [hc, hk2])).mono ?_
     rintro en w' ⟨he', hP', hT⟩
     exact ⟨_, _, he', hP', by simp [pEnd, hk2], hT⟩
   · refine (any_no hσ hP (k := 1) (by rw [hc]; exact fun e => hk2 (by exact_mod_cast e))).mono ?_
     rintro en w' ⟨he', hP', hT, _⟩
     exact ⟨_, _, he', hP', by simp [pEnd, hk2, pRefuse], hT⟩
def pAheadP : Pst → Bool
 | .ok (t :: _) => decide (t.cls = 2) && !(t.txt == [103, 108, 111, 98])
 | .ok [] => false
 | .bad _ _ => false
theorem ahead_any {w : World} {b : Nat} {σ : Pst} {R : List Value} (h : PS w b σ R) : Calls Tryz.prog 114 #[.pointer (some ⟨b, 0, none⟩)] w fun en w' => en = .returned (.bool (pAheadP σ)) ∧ w' = w := by
 obtain ⟨s, n, c, tx, tl, e, el, hP, hs, hC⟩ := h
 have k2 : w.cell? ⟨b, 2, none⟩ = some (.int .i64 c) := Full.cell hP 2
 have k3 : w.cell? ⟨b, 3, none⟩ = some (.string tx) := Full.cell hP 3
 obtain ⟨x, y, hx, hy, hxy⟩ : ∃ x y, (c == 2) = x ∧ (tx.toList == [103, 108, 111, 98]) = y ∧ pAheadP σ = (x && !y) := by
   refine ⟨_, _, rfl, rfl, ?_⟩
   cases σ with
   | bad e' l' =>
     obtain ⟨_, _, _, h4, _⟩ := hC
     rw [h4]; rfl
   | ok ts =>
     obtain ⟨t, r, hts, hc, htx, htl, hok, hr, he⟩ := ok_cons hC
     subst hts
     unfold pAheadP
     rw [hc, htx, show (((t.cls : Int) == 2) = decide (t.cls = 2)) by rw [Bool.eq_iff_iff]; simp; omega]
     rw [Lib.toList_data, str_data]
 rw [hxy]
 clear hxy hC hs hP
 cases x <;> cases y
 all_goals
   go_enter Tryz.func114, Tryz.ntmps114
   go_wp2
   all_goals (go_ret; exact ⟨rfl, rfl⟩)
structure Itm where
 tx : List UInt8
 gl : Bool
 pl : List UInt8
 ln : Nat
def itmC (i : Itm) : List Value := [.string (str i.tx), .bool i.gl, .string (str i.pl), .int .i64 (i.ln : Int)]
def itmV (i : Itm) : Value := .agg #[.string (str i.tx), .bool i.gl, .string (str i.pl), .int .i64 (i.ln : Int)]
def txtI (t : Tok) : Itm := ⟨Lib.trimB t.txt 34, false, [], t.ln⟩
theorem store4 {w : World} {r : Nat} {t : TypeId} {x0 x1 x2 x3 : Value} (F : Full w r t [x0, x1, x2, x3]) (y0 y1 y2 y3 : Value) :
   (w.cell? ⟨r, 0, none⟩ = some x0 ∧ w.frozen? ⟨r, 0, none⟩ = false) ∧ ((w.setCell ⟨r, 0, none⟩ y0).cell? ⟨r, 1, none⟩ = some x1 ∧ (w.setCell ⟨r, 0, none⟩ y0).frozen? ⟨r, 1, none⟩ = false) ∧
   (((w.setCell ⟨r, 0, none⟩ y0).setCell ⟨r, 1, none⟩ y1).cell? ⟨r, 2, none⟩ = some x2 ∧ ((w.setCell ⟨r, 0, none⟩ y0).setCell ⟨r, 1, none⟩ y1).frozen? ⟨r, 2, none⟩ = false) ∧
   ((((w.setCell ⟨r, 0, none⟩ y0).setCell ⟨r, 1, none⟩ y1).setCell ⟨r, 2, none⟩ y2).cell? ⟨r, 3, none⟩ = some x3 ∧ (((w.setCell ⟨r, 0, none⟩ y0).setCell ⟨r, 1, none⟩ y1).setCell ⟨r, 2, none⟩ y2).frozen? ⟨r, 3, none⟩ = false) ∧
   Full ((((w.setCell ⟨r, 0, none⟩ y0).setCell ⟨r, 1, none⟩ y1).setCell ⟨r, 2, none⟩ y2).setCell ⟨r, 3, none⟩ y3) r t [y0, y1, y2, y3] :=
 ⟨⟨F.cell 0, F.frozen 0⟩, ⟨(F.set_ 0 y0).cell 1, (F.set_ 0 y0).frozen 1⟩, ⟨((F.set_ 0 y0).set_ 1 y1).cell 2, ((F.set_ 0 y0).set_ 1 y1).frozen 2⟩, ⟨(((F.set_ 0 y0).set_ 1 y1).set_ 2 y2).cell 3, (((F.set_ 0 y0).set_ 1 y1).set_ 2 y2).frozen 3⟩, (((F.set_ 0 y0).set_ 1 y1).set_ 2 y2).set_ 3 y3⟩
theorem Turn.set4 {G : Nat → Prop} {w w' : World} (h : Turn G w w') {r : Nat} (hr : w.heap.size ≤ r) (y0 y1 y2 y3 : Value) : Turn G w ((((w'.setCell ⟨r, 0, none⟩ y0).setCell ⟨r, 1, none⟩ y1).setCell ⟨r, 2, none⟩ y2).setCell ⟨r, 3, none⟩ y3) := by
 have k := Turn.set_ (w := ((w'.setCell ⟨r, 0, none⟩ y0).setCell ⟨r, 1, none⟩ y1).setCell ⟨r, 2, none⟩ y2) (F := fun g => G g ∨ g = r) (a := ⟨r, 3, none⟩) (.inr rfl) y3
 exact (h.set3 hr y0 y1 y2).late k fun g hg => hg.imp id (fun e => by omega)
theorem PS.far {w : World} {b : Nat} {σ : Pst} {R : List Value} (h : PS w b σ R) {r o : Nat} (hr : b ≠ r) (u : Value) : PS (w.setCell ⟨r, o, none⟩ u) b σ R := by
 obtain ⟨s, n, c, tx, tl, e, el, q1, q2⟩ := h
 exact ⟨s, n, c, tx, tl, e, el, Full.far q1 (p := ⟨r, o, none⟩) hr _, q2⟩
theorem PS.drewN {w : World} {b : Nat} {σ : Pst} {R : List Value} (h : PS w b σ R) (q : Nat) : PS (w.drewN q) b σ R := h
def ItmOut (w : World) (b : Nat) (r : Itm × Pst) (R : List Value) (en : Ending) (w' : World) : Prop := en = .returned (itmV r.1) ∧ PS w' b r.2 R ∧ Turn (fun g => g = b) w w'
def pText (σ : Pst) : Itm × Pst := (txtI (pAny 4 σ).1, (pAny 4 σ).2)
set_option maxHeartbeats 2000000 in
theorem text_any {w : World} {b : Nat} {σ : Pst} {R : List Value} (h : PS w b σ R) : Calls Tryz.prog 107 #[.pointer (some ⟨b, 0, none⟩)] w (ItmOut w b (pText σ) R) := by
 unfold ItmOut pText
 obtain ⟨w1, hw1⟩ : ∃ w1, w.alloc (.cells #[.string ⟨#[]⟩, .bool false, .string ⟨#[]⟩, .int .i64 0] 52) = w1 := ⟨_, rfl⟩
 have hb1 : Below w.heap.size w w1 := by rw [← hw1]; exact (Below.refl _ w).alloc (Nat.le_refl _) _
 have F1 : Full w1 w.heap.size 52 [.string ⟨#[]⟩, .bool false, .string ⟨#[]⟩, .int .i64 0] := by rw [← hw1]; exact Full.new w 52 _
 have AN := any_any (h.on hb1) 4 (by decide)
 rw [show ((4 : Nat) : Int) = 4 from rfl] at AN
 have AN := Lib.hid AN
 obtain ⟨t, ht⟩ : ∃ t, (pAny 4 σ).1 = t := ⟨_, rfl⟩
 obtain ⟨σ2, h2⟩ : ∃ t, (pAny 4 σ).2 = t := ⟨_, rfl⟩
 unfold AnyOut tokV at AN
 rw [ht, h2] at AN
 rw [ht, h2]
 obtain ⟨r, hr⟩ : ∃ r, w.heap.size = r := ⟨_, rfl⟩
 have hbr : b < r := by rw [← hr]; exact h.lt
 rw [hr] at F1
 have HF1 := Lib.hid F1
 have HB1 := Lib.hid hb1
 obtain ⟨x, hx⟩ : ∃ x, str t.txt = x := ⟨_, rfl⟩
 have TR := Lib.hid (fun (hs : t.txt.length ≤ 4294967000) (W : World) => (show Calls Tryz.prog 127 #[.string x, .string ⟨#[34]⟩] W fun e w' => e = .returned (.string (str (Lib.trimB t.txt 34))) ∧ ∃ q, w' = W.drewN q from by
   have := Tryz.strings_Trim_one x 34 (by decide) W (by rw [← hx, str_size]; omega)
   rw [← hx, str_data] at this
   rw [← hx]
   refine this.mono ?_
   rintro e w' ⟨he, hw | hw⟩
   · exact ⟨he, 0, hw⟩
   · exact ⟨he, 1, hw⟩))
 rw [hx] at AN
 unfold txtI itmV
 dsimp only
 obtain ⟨y, hy⟩ : ∃ y, str (Lib.trimB t.txt 34) = y := ⟨_, rfl⟩
 obtain ⟨l, hl⟩ : ∃ l : Nat, t.ln = l := ⟨_, rfl⟩
 obtain ⟨c, hc⟩ : ∃ l : Nat, t.cls = l := ⟨_, rfl⟩
 rw [hy] at TR
 rw [hl, hc] at AN
 rw [hy, hl]
 clear hy hl hc hx ht h2 F1 hb1 h
 go_enter Tryz.func107, Tryz.ntmps107
 go_upto_region 2 with (first
   | (go_at_call 77; ((with_reducible refine AN.out.mono ?_); rintro en w3 ⟨rfl, hP3, hT3, htl, _⟩))
   | (fail "arm"))
 obtain ⟨w4, hw4⟩ : ∃ w4, w3.alloc (.cells #[.int .i64 (c : Int), .string x, .int .i64 (l : Int)] 91) = w4 := ⟨_, rfl⟩
 have hb4 : Below w3.heap.size w3 w4 := by rw [← hw4]; exact (Below.refl _ w3).alloc (Nat.le_refl _) _
 have F4 : Full w4 w3.heap.size 91 [.int .i64 (c : Int), .string x, .int .i64 (l : Int)] := by rw [← hw4]; exact Full.new w3 91 _
 obtain ⟨u, hu⟩ : ∃ u, w3.heap.size = u := ⟨_, rfl⟩
 have F3r := hT3.far HF1.out (by omega)
 have hru : r < u := by rw [← hu]; exact F3r.lt
 have F4r := F3r.on hb4
 have hP4 := hP3.on hb4
 rw [hu] at F4
 rw [hw4, hu]
 have HT4 := Lib.hid (((Turn.of HB1.out).trans_ hT3).trans_ (Turn.of (F := fun g => g = b) hb4))
 have hT4 := ((Turn.of HB1.out).trans_ hT3).trans_ (Turn.of (F := fun g => g = b) hb4)
 have TR4 := Lib.hid ((TR.out htl w4.drew).mono fun en w' k => (show en = .returned (.string y) ∧ Full w' u 91 [.int .i64 (c : Int), .string x, .int .i64 (l : Int)] ∧ Full w' r 52 [.string ⟨#[]⟩, .bool false, .string ⟨#[]⟩, .int .i64 0] ∧ PS w' b σ2 R ∧ Turn (fun g => g = b) w w' from by
   obtain ⟨he, q, rfl⟩ := k
   exact ⟨he, F4, F4r, hP4, (hT4.drew).drewN_ q⟩))
 have u1 : w4.drew.cell? ⟨u, 1, none⟩ = some (.string x) := F4.cell 1
 have u2 : w4.drew.cell? ⟨u, 2, none⟩ = some (.int .i64 (l : Int)) := F4.cell 2
 clear hw4 hb4 F4 hP4 F4r F3r hP3 hT3 hw1 hu TR AN htl hT4 HT4
 go_region_with (first
   | (go_at_call 127; ((with_reducible refine TR4.out.mono ?_); rintro en w5 ⟨rfl, f1, f2, f3, f4⟩; (have p1 : w5.cell? ⟨u, 1, none⟩ = some (.string x) := f1.cell 1); (have p2 : w5.cell? ⟨u, 2, none⟩ = some (.int .i64 (l : Int)) := f1.cell 2); (obtain ⟨⟨v0, v0f⟩, ⟨v1, v1f⟩, ⟨v2, v2f⟩, ⟨v3, v3f⟩, F6⟩ := store4 f2 (.string y) (.bool false) (.string ⟨#[]⟩) (.int .i64 (l : Int)))))
   | (fail "arm"))
 all_goals
   have HT6 := Lib.hid (Turn.set4 (r := r) f4 (by omega) (.string y) (.bool false) (.string ⟨#[]⟩) (.int .i64 (l : Int)))
   obtain ⟨w8, hw8⟩ : ∃ w8, (((w5.setCell ⟨r, 0, none⟩ (.string y)).setCell ⟨r, 1, none⟩ (.bool false)).setCell ⟨r, 2, none⟩ (.string ⟨#[]⟩)).setCell ⟨r, 3, none⟩ (.int .i64 (l : Int)) = w8 := ⟨_, rfl⟩
   have hP8 : PS w8 b σ2 R := by
     rw [← hw8]
     exact (((f3.far (by omega) _).far (by omega) _).far (by omega) _).far (by omega) _
   rw [hw8] at F6 HT6 ⊢
   have q0 : w8.cell? ⟨r, 0, none⟩ = some (.string y) := F6.cell 0
   have q1 : w8.cell? ⟨r, 1, none⟩ = some (.bool false) := F6.cell 1
   have q2 : w8.cell? ⟨r, 2, none⟩ = some (.string ⟨#[]⟩) := F6.cell 2
   have q3 : w8.cell? ⟨r, 3, none⟩ = some (.int .i64 (l : Int)) := F6.cell 3
   have HP8 := Lib.hid hP8
   clear hw8 hP8 F6 f1 f2 f3 f4 v0 v0f v1 v1f v2 v2f v3 v3f p1 p2
   go_wp2
   refine bodyPost_ret (v := .agg #[.string y, .bool false, .string ⟨#[]⟩, .int .i64 (l : Int)]) (by simp [results, Tryz.results107, go_sem, q0, q1, q2, q3]) rfl ?_
   exact ⟨rfl, HP8.out, HT6.out⟩
def globS : List UInt8 := [103, 108, 111, 98]
def pSource (σ : Pst) : Itm × Pst :=
 if (pTake globS σ).1 then ({ (pText (pExpect [40] (pTake globS σ).2)).1 with gl := true }, pExpect [41] (pText (pExpect [40] (pTake globS σ).2)).2)
 else pText (pTake globS σ).2
set_option maxHeartbeats 2000000 in
theorem source_any {w : World} {b : Nat} {σ : Pst} {R : List Value} (h : PS w b σ R) : Calls Tryz.prog 106 #[.pointer (some ⟨b, 0, none⟩)] w (ItmOut w b (pSource σ) R) := by
 unfold ItmOut pSource
 obtain ⟨w1, hw1⟩ : ∃ w1, w.alloc (.cells #[.string ⟨#[]⟩, .bool false, .string ⟨#[]⟩, .int .i64 0] 52) = w1 := ⟨_, rfl⟩
 have hb1 : Below w.heap.size w w1 := by rw [← hw1]; exact (Below.refl _ w).alloc (Nat.le_refl _) _
 have F1 : Full w1 w.heap.size 52 [.string ⟨#[]⟩, .bool false, .string ⟨#[]⟩, .int .i64 0] := by rw [← hw1]; exact Full.new w 52 _
 have TK := Lib.hid (take_any (h.on hb1) globS (by decide))
 unfold TakeOut at TK
 obtain ⟨r, hr⟩ : ∃ r, w.heap.size = r := ⟨_, rfl⟩
 have hbr : b < r := by rw [← hr]; exact h.lt
 rw [hr] at F1
 have HF1 := Lib.hid F1
 have HB1 := Lib.hid hb1
 obtain ⟨σ1, h1⟩ : ∃ t, (pTake globS σ).2 = t := ⟨_, rfl⟩
 obtain ⟨g, hg⟩ : ∃ t, (pTake globS σ).1 = t := ⟨_, rfl⟩
 rw [h1, hg] at TK
 rw [show str globS = (⟨#[103, 108, 111, 98]⟩ : ByteArray) from rfl] at TK
 rw [h1, hg]
 have TX := Lib.hid (fun (W : World) (σ : Pst) (h : PS W b σ R) => text_any h)
 unfold ItmOut itmV at TX
 have E40 := Lib.hid (fun (W : World) (σ : Pst) (h : PS W b σ R) => (show Calls Tryz.prog 103 #[.pointer (some ⟨b, 0, none⟩), .string ⟨#[40]⟩] W (StOut W b (pExpect [40] σ) R) from expect_any h [40] (by decide)))
 have E41 := Lib.hid (fun (W : World) (σ : Pst) (h : PS W b σ R) => (show Calls Tryz.prog 103 #[.pointer (some ⟨b, 0, none⟩), .string ⟨#[41]⟩] W (StOut W b (pExpect [41] σ) R) from expect_any h [41] (by decide)))
 unfold StOut at E40 E41
 have fin := Lib.hid (fun (w5 : World) (σ2 : Pst) (y0 y1 y2 y3 : Value) (f3 : PS w5 b σ2 R) (f4 : Turn (fun g => g = b) w w5) => (show PS ((((w5.setCell ⟨r, 0, none⟩ y0).setCell ⟨r, 1, none⟩ y1).setCell ⟨r, 2, none⟩ y2).setCell ⟨r, 3, none⟩ y3) b σ2 R ∧ Turn (fun g => g = b) w ((((w5.setCell ⟨r, 0, none⟩ y0).setCell ⟨r, 1, none⟩ y1).setCell ⟨r, 2, none⟩ y2).setCell ⟨r, 3, none⟩ y3) from
   ⟨(((f3.far (by omega) _).far (by omega) _).far (by omega) _).far (by omega) _, Turn.set4 (r := r) f4 (by omega) _ _ _ _⟩))
 cases g with
 | false =>
   rw [if_neg (by decide)]
   obtain ⟨it, hit⟩ : ∃ i, (pText σ1).1 = i := ⟨_, rfl⟩
   obtain ⟨σ2, h2⟩ : ∃ i, (pText σ1).2 = i := ⟨_, rfl⟩
   have TX1 := Lib.hid (fun (W : World) (h : PS W b σ1 R) => TX.out W σ1 h)
   rw [hit, h2] at TX1
   rw [hit, h2]
   unfold itmV
   obtain ⟨y0, hy0⟩ : ∃ y, str it.tx = y := ⟨_, rfl⟩
   obtain ⟨y1, hy1⟩ : ∃ y, it.gl = y := ⟨_, rfl⟩
   obtain ⟨y2, hy2⟩ : ∃ y, str it.pl = y := ⟨_, rfl⟩
   obtain ⟨y3, hy3⟩ : ∃ y : Nat, it.ln = y := ⟨_, rfl⟩
   rw [hy0, hy1, hy2, hy3] at TX1
   rw [hy0, hy1, hy2, hy3]
   clear hy0 hy1 hy2 hy3 hit h2 h1 hg F1 hb1 h TX E40 E41
   go_enter Tryz.func106, Tryz.ntmps106
   go_upto_region 2 with (first
     | (go_at_call 74; ((with_reducible refine TK.out.mono ?_); rintro en w3 ⟨rfl, hP3, hT3⟩))
     | (fail "arm"))
   have HT3 := Lib.hid hT3
   go_wp2_with (first
     | (go_at_call 107; ((with_reducible refine (TX1.out w3 hP3).mono ?_); rintro en w5 ⟨rfl, hP5, hT5⟩; (obtain ⟨⟨v0, v0f⟩, ⟨v1, v1f⟩, ⟨v2, v2f⟩, ⟨v3, v3f⟩, F6⟩ := store4 (hT5.far (hT3.far HF1.out (by omega)) (by omega)) (.string y0) (.bool y1) (.string y2) (.int .i64 (y3 : Int)))))
     | (fail "arm"))
   obtain ⟨z1, z2⟩ := fin.out w5 σ2 (.string y0) (.bool y1) (.string y2) (.int .i64 (y3 : Int)) hP5 (((Turn.of HB1.out).trans_ hT3).trans_ hT5)
   obtain ⟨w8, hw8⟩ : ∃ w8, (((w5.setCell ⟨r, 0, none⟩ (.string y0)).setCell ⟨r, 1, none⟩ (.bool y1)).setCell ⟨r, 2, none⟩ (.string y2)).setCell ⟨r, 3, none⟩ (.int .i64 (y3 : Int)) = w8 := ⟨_, rfl⟩
   rw [hw8] at F6 z1 z2 ⊢
   have q0 : w8.cell? ⟨r, 0, none⟩ = some (.string y0) := F6.cell 0
   have q1 : w8.cell? ⟨r, 1, none⟩ = some (.bool y1) := F6.cell 1
   have q2 : w8.cell? ⟨r, 2, none⟩ = some (.string y2) := F6.cell 2
   have q3 : w8.cell? ⟨r, 3, none⟩ = some (.int .i64 (y3 : Int)) := F6.cell 3
   refine bodyPost_ret (v := .agg #[.string y0, .bool y1, .string y2, .int .i64 (y3 : Int)]) (by simp [results, Tryz.results106, go_sem, q0, q1, q2, q3]) rfl ?_
   exact ⟨rfl, z1, z2⟩
 | true =>
   rw [if_pos rfl]
   obtain ⟨σ2, h2⟩ : ∃ i, pExpect [40] σ1 = i := ⟨_, rfl⟩
   obtain ⟨it, hit⟩ : ∃ i, (pText σ2).1 = i := ⟨_, rfl⟩
   obtain ⟨σ3, h3⟩ : ∃ i, (pText σ2).2 = i := ⟨_, rfl⟩
   obtain ⟨σ4, h4⟩ : ∃ i, pExpect [41] σ3 = i := ⟨_, rfl⟩
   have TX1 := Lib.hid (fun (W : World) (h : PS W b σ2 R) => TX.out W σ2 h)
   have EA := Lib.hid (fun (W : World) (h : PS W b σ1 R) => E40.out W σ1 h)
   have EB := Lib.hid (fun (W : World) (h : PS W b σ3 R) => E41.out W σ3 h)
   rw [hit, h3] at TX1
   rw [h2] at EA
   rw [h4] at EB
   rw [h2, hit, h3, h4]
   unfold itmV
   dsimp only
   obtain ⟨y0, hy0⟩ : ∃ y, str it.tx = y := ⟨_, rfl⟩
   obtain ⟨y1, hy1⟩ : ∃ y, it.gl = y := ⟨_, rfl⟩
   obtain ⟨y2, hy2⟩ : ∃ y, str it.pl = y := ⟨_, rfl⟩
   obtain ⟨y3, hy3⟩ : ∃ y : Nat, it.ln = y := ⟨_, rfl⟩
   rw [hy0, hy1, hy2, hy3] at TX1
   rw [hy0, hy2, hy3]
   clear hy0 hy1 hy2 hy3 hit h2 h3 h4 h1 hg F1 hb1 h TX E40 E41
   go_enter Tryz.func106, Tryz.ntmps106
   go_upto_region 5 with (first
     | (go_at_call 74; ((with_reducible refine TK.out.mono ?_); rintro en w3 ⟨rfl, hP3, hT3⟩))
     | (go_at_call 103; ((with_reducible refine (EA.out w3 hP3).mono ?_); rintro en w4 ⟨rfl, hP4, hT4⟩))
     | (go_at_call 107; ((with_reducible refine (TX1.out w4 hP4).mono ?_); rintro en w5 ⟨rfl, hP5, hT5⟩))
     | (fail "arm"))
   obtain ⟨w6, hw6⟩ : ∃ w6, w5.alloc (.cells #[.string y0, .bool y1, .string y2, .int .i64 (y3 : Int)] 52) = w6 := ⟨_, rfl⟩
   have hb6 : Below w5.heap.size w5 w6 := by rw [← hw6]; exact (Below.refl _ w5).alloc (Nat.le_refl _) _
   have F6 : Full w6 w5.heap.size 52 [.string y0, .bool y1, .string y2, .int .i64 (y3 : Int)] := by rw [← hw6]; exact Full.new w5 52 _
   obtain ⟨u, hu⟩ : ∃ u, w5.heap.size = u := ⟨_, rfl⟩
   have hT05 := (((Turn.of (F := fun g => g = b) HB1.out).trans_ hT3).trans_ hT4).trans_ hT5
   have F5r := hT5.far (hT4.far (hT3.far HF1.out (by omega)) (by omega)) (by omega)
   have hru : r < u := by rw [← hu]; exact F5r.lt
   have F6r := F5r.on hb6
   have hP6 := hP5.on hb6
   rw [hu] at F6
   rw [hw6, hu]
   have k1 : w6.cell? ⟨u, 1, none⟩ = some (.bool y1) := F6.cell 1
   have k1f := F6.frozen 1
   have F7 := F6.set_ 1 (.bool true)
   have hP7 : PS (w6.setCell ⟨u, 1, none⟩ (.bool true)) b σ3 R := hP6.far (by omega) _
   have F7r := F6r.far (p := ⟨u, 1, none⟩) (by show r ≠ u; omega) (.bool true)
   have hT7 : Turn (fun g => g = b) w (w6.setCell ⟨u, 1, none⟩ (.bool true)) := (hT05.trans_ (Turn.of hb6)).late (Turn.set_ (F := fun g => g = u) (a := ⟨u, 1, none⟩) rfl _) (fun g hg => .inr (by omega))
   have HH := Lib.hid (And.intro F7 (And.intro F7r hT7))
   have HP7 := Lib.hid hP7
   clear hw6 hb6 F6 hT05 F5r F6r hP6 F7 hP7 F7r hT7 hP3 hP4 hP5 hT3 hT4 hT5 hu TK EA TX1 HF1
   go_upto_region 7 with (first
     | (go_at_call 103; ((with_reducible refine (EB.out _ HP7.out).mono ?_); rintro en w7 ⟨rfl, hP9, hT9⟩))
     | (fail "arm"))
   have F9 := hT9.far HH.out.1 (by omega)
   have c0 : w7.cell? ⟨u, 0, none⟩ = some (.string y0) := F9.cell 0
   have c1 : w7.cell? ⟨u, 1, none⟩ = some (.bool true) := F9.cell 1
   have c2 : w7.cell? ⟨u, 2, none⟩ = some (.string y2) := F9.cell 2
   have c3 : w7.cell? ⟨u, 3, none⟩ = some (.int .i64 (y3 : Int)) := F9.cell 3
   obtain ⟨⟨v0, v0f⟩, ⟨v1, v1f⟩, ⟨v2, v2f⟩, ⟨v3, v3f⟩, FA⟩ := store4 (hT9.far HH.out.2.1 (by omega)) (.string y0) (.bool true) (.string y2) (.int .i64 (y3 : Int))
   obtain ⟨z1, z2⟩ := fin.out w7 σ4 (.string y0) (.bool true) (.string y2) (.int .i64 (y3 : Int)) hP9 (HH.out.2.2.trans_ hT9)
   obtain ⟨w8, hw8⟩ : ∃ w8, (((w7.setCell ⟨r, 0, none⟩ (.string y0)).setCell ⟨r, 1, none⟩ (.bool true)).setCell ⟨r, 2, none⟩ (.string y2)).setCell ⟨r, 3, none⟩ (.int .i64 (y3 : Int)) = w8 := ⟨_, rfl⟩
   rw [hw8] at FA z1 z2
   have q0 : w8.cell? ⟨r, 0, none⟩ = some (.string y0) := FA.cell 0
   have q1 : w8.cell? ⟨r, 1, none⟩ = some (.bool true) := FA.cell 1
   have q2 : w8.cell? ⟨r, 2, none⟩ = some (.string y2) := FA.cell 2
   have q3 : w8.cell? ⟨r, 3, none⟩ = some (.int .i64 (y3 : Int)) := FA.cell 3
   have HZ := Lib.hid (And.intro z1 z2)
   clear z1 z2 FA F9 hP9 hT9 HH EB
   go_wp2
   refine bodyPost_ret (v := .agg #[.string y0, .bool true, .string y2, .int .i64 (y3 : Int)]) (by simp [results, Tryz.results106, go_sem, q0, q1, q2, q3]) rfl ?_
   exact ⟨rfl, HZ.out.1, HZ.out.2⟩
structure Laid (w : World) : Prop where
 size : 9 ≤ w.heap.size
 k0 : w.cell? ⟨0, 0, none⟩ = some (.string ⟨#[]⟩)
 k1 : w.cell? ⟨0, 1, none⟩ = some (.string ⟨#[108, 105, 98]⟩)
 k2 : w.cell? ⟨0, 2, none⟩ = some (.string ⟨#[98, 105, 110]⟩)
 k3 : w.cell? ⟨0, 3, none⟩ = some (.string ⟨#[116, 101, 115, 116]⟩)
 k4 : w.cell? ⟨0, 4, none⟩ = some (.string ⟨#[103, 101, 110]⟩)
 es : ∃ te pe, w.cell? ⟨3, 0, none⟩ = some (.iface te pe)
 er : ∃ te pe, w.cell? ⟨4, 0, none⟩ = some (.iface te pe)
theorem Laid.turn {F : Nat → Prop} {w w' : World} (h : Laid w) (ht : Turn F w w') (hF : ∀ g, F g → 9 ≤ g) : Laid w' := by
 have k : ∀ g o, g < 9 → w'.cell? ⟨g, o, none⟩ = w.cell? ⟨g, o, none⟩ := fun g o hg => cell_of_heap (ht.block g (Nat.lt_of_lt_of_le hg h.size) (fun e => by have := hF g e; omega))
 exact ⟨Nat.le_trans h.size ht.size, (k 0 0 (by omega)).trans h.k0, (k 0 1 (by omega)).trans h.k1, (k 0 2 (by omega)).trans h.k2, (k 0 3 (by omega)).trans h.k3, (k 0 4 (by omega)).trans h.k4,
   h.es.imp fun te => Exists.imp fun pe e => (k 3 0 (by omega)).trans e, h.er.imp fun te => Exists.imp fun pe e => (k 4 0 (by omega)).trans e⟩
theorem Laid.on {w w' : World} (h : Laid w) (hb : Below w.heap.size w w') : Laid w' := h.turn (F := fun _ => False) (Turn.of hb) (fun _ h => h.elim)
def atoiR (l : List UInt8) : Int × Bool := match Lib.atoiAll l with
 | .ok v => (v, true)
 | .range => (Lib.atoiSat l, false)
 | _ => (0, false)
def AtoiOut (w : World) (r : Int × Bool) (e : Ending) (w' : World) : Prop := ∃ ev, e = .returned (.tuple #[.int .i64 r.1, ev]) ∧ Below w.heap.size w w' ∧ ((r.2 = true ∧ ev = .nilIface) ∨ (r.2 = false ∧ ∃ p, ev = .iface 187 (.pointer (some ⟨p, 0, none⟩))))
theorem atoi_any (l : List UInt8) (hs : l.length ≤ 4294967000) (w : World) (hL : Laid w) : Calls Tryz.prog 128 #[.string (str l)] w (AtoiOut w (atoiR l)) := by
 unfold AtoiOut atoiR
 have hz : (str l).size = l.length := str_size l
 cases h : Lib.atoiAll l with
 | ok v =>
   refine (Tryz.strconv_Atoi_ok (str l) (by omega) v (by rw [str_data]; exact h) w).mono ?_
   rintro e w' ⟨he, hw⟩
   refine ⟨_, he, ?_, .inl ⟨rfl, rfl⟩⟩
   rcases hw with rfl | ⟨t, rfl⟩
   · exact Below.refl _ _
   · unfold Lib.bytesWorld
     have h1 : Below w.heap.size w (w.drew.alloc (.cells (Lib.bytesCells w 5 t) 5)) := ((Below.refl _ w).drew).alloc (Nat.le_refl _) _
     refine ⟨h1.os, h1.tape, h1.output, ?_, fun g hg => ?_⟩
     · simp [World.freeze]
     · rw [← h1.block g hg]
       simp [World.freeze, Array.getElem?_modify]
       intro e
       omega
 | range =>
   obtain ⟨te, pe, hv⟩ := hL.er
   refine (Tryz.strconv_Atoi_range (str l) (by omega) (by rw [str_data]; exact h) _ w hv (.inr ⟨te, pe, rfl⟩)).mono ?_
   rintro e w' ⟨N, he, _, _, hb⟩
   exact ⟨_, he, hb, .inr ⟨rfl, N, rfl⟩⟩
 | _ =>
   obtain ⟨te, pe, hv⟩ := hL.es
   refine (Tryz.strconv_Atoi_syntax (str l) (by omega) (by rw [str_data, h]; exact ⟨fun v e => (by cases e), fun e => (by cases e)⟩) _ w hv (.inr ⟨te, pe, rfl⟩)).mono ?_
   rintro e w' ⟨N, he, _, _, hb⟩
   exact ⟨_, he, hb, .inr ⟨rfl, N, rfl⟩⟩
def pNum (lo hi : Int) (σ : Pst) : Int × Pst :=
 ((atoiR (pAny 3 σ).1.txt).1, if (atoiR (pAny 3 σ).1.txt).2 && decide (lo ≤ (atoiR (pAny 3 σ).1.txt).1) && decide ((atoiR (pAny 3 σ).1.txt).1 ≤ hi) then (pAny 3 σ).2 else pFail ((pAny 3 σ).1.ln : Int) 41 (pAny 3 σ).2)
def NumOut (w : World) (b : Nat) (r : Int × Pst) (R : List Value) (en : Ending) (w' : World) : Prop := en = .returned (.int .i64 r.1) ∧ PS w' b r.2 R ∧ Turn (fun g => g = b) w w'
set_option maxHeartbeats 2000000 in
theorem num_any {w : World} {b : Nat} {σ : Pst} {R : List Value} (h : PS w b σ R) (hL : Laid w) (hb9 : 9 ≤ b) (lo hi : Int) : Calls Tryz.prog 109 #[.pointer (some ⟨b, 0, none⟩), .int .i64 lo, .int .i64 hi] w (NumOut w b (pNum lo hi σ) R) := by
 unfold NumOut pNum
 have AN := any_any h 3 (by decide)
 rw [show ((3 : Nat) : Int) = 3 from rfl] at AN
 have AN := Lib.hid AN
 obtain ⟨t, ht⟩ : ∃ t, (pAny 3 σ).1 = t := ⟨_, rfl⟩
 obtain ⟨σ2, h2⟩ : ∃ t, (pAny 3 σ).2 = t := ⟨_, rfl⟩
 unfold AnyOut tokV at AN
 rw [ht, h2] at AN
 rw [ht, h2]
 obtain ⟨x, hx⟩ : ∃ x, str t.txt = x := ⟨_, rfl⟩
 obtain ⟨l, hl⟩ : ∃ l : Nat, t.ln = l := ⟨_, rfl⟩
 obtain ⟨c, hc⟩ : ∃ l : Nat, t.cls = l := ⟨_, rfl⟩
 have AT := Lib.hid (fun (hs : t.txt.length ≤ 4294967000) (W : World) (hL : Laid W) => (hx ▸ atoi_any t.txt hs W hL : Calls Tryz.prog 128 #[.string x] W (AtoiOut W (atoiR t.txt))))
 unfold AtoiOut at AT
 obtain ⟨v, ok, hr⟩ : ∃ v ok, atoiR t.txt = (v, ok) := ⟨_, _, rfl⟩
 rw [hr] at AT ⊢
 dsimp only at AT ⊢
 rw [hx, hl, hc] at AN
 rw [hl]
 have FA := Lib.hid (fun (W : World) (h : PS W b σ2 R) => fail_any h (l : Int) 41 (by decide))
 unfold StOut at FA
 have HL := Lib.hid (fun (W : World) (hT : Turn (fun g => g = b) w W) => hL.turn hT (fun g e => by omega))
 clear hr hx hl hc ht h2 h hL
 go_enter Tryz.func109, Tryz.ntmps109
 go_upto_region 2 with (first
   | (go_at_call 77; ((with_reducible refine AN.out.mono ?_); rintro en w3 ⟨rfl, hP3, hT3, htl, _⟩))
   | (fail "arm"))
 obtain ⟨w4, hw4⟩ : ∃ w4, w3.alloc (.cells #[.int .i64 (c : Int), .string x, .int .i64 (l : Int)] 91) = w4 := ⟨_, rfl⟩
 have hb4 : Below w3.heap.size w3 w4 := by rw [← hw4]; exact (Below.refl _ w3).alloc (Nat.le_refl _) _
 have F4 : Full w4 w3.heap.size 91 [.int .i64 (c : Int), .string x, .int .i64 (l : Int)] := by rw [← hw4]; exact Full.new w3 91 _
 obtain ⟨u, hu⟩ : ∃ u, w3.heap.size = u := ⟨_, rfl⟩
 have hP4 := hP3.on hb4
 rw [hu] at F4
 rw [hw4, hu]
 have hT4 := hT3.trans_ (Turn.of (F := fun g => g = b) hb4)
 have AT4 := Lib.hid (AT.out htl w4 (HL.out w4 hT4))
 have u1 : w4.cell? ⟨u, 1, none⟩ = some (.string x) := F4.cell 1
 have HH := Lib.hid (And.intro F4 (And.intro hP4 hT4))
 clear hw4 hb4 hP3 hT3 hu AN htl F4 hP4 hT4 AT
 go_upto_region 3 with (first
   | (go_at_call 128; ((with_reducible refine AT4.out.mono ?_); rintro en w5 ⟨ev, rfl, hb5, hev⟩))
   | (fail "arm"))
 have F5 := HH.out.1.on hb5
 have u2 : w5.cell? ⟨u, 2, none⟩ = some (.int .i64 (l : Int)) := F5.cell 2
 have HP5 := Lib.hid (And.intro (HH.out.2.1.on hb5) (HH.out.2.2.trans_ (Turn.of (F := fun g => g = b) hb5)))
 clear F5 hb5 AT4 u1 HH
 rcases hev with ⟨hok, rfl⟩ | ⟨hok, p, rfl⟩
 · subst hok
   by_cases hlo : v < lo
   · have d1 : decide (lo ≤ v) = false := by simp; omega
     go_wp2_with (first
       | (go_at_call 116; ((with_reducible refine (FA.out w5 HP5.out.1).mono ?_); rintro en w6 ⟨rfl, hP6, hT6⟩))
       | (fail "arm"))
     all_goals (go_ret; exact ⟨rfl, hP6, HP5.out.2.trans_ hT6⟩)
   · have d1 : decide (lo ≤ v) = true := by simp; omega
     by_cases hhi : hi < v
     · have d2 : decide (v ≤ hi) = false := by simp; omega
       go_wp2_with (first
         | (go_at_call 116; ((with_reducible refine (FA.out w5 HP5.out.1).mono ?_); rintro en w6 ⟨rfl, hP6, hT6⟩))
         | (fail "arm"))
       all_goals (go_ret; exact ⟨rfl, hP6, HP5.out.2.trans_ hT6⟩)
     · have d2 : decide (v ≤ hi) = true := by simp; omega
       go_wp2
       all_goals (go_ret; exact ⟨rfl, HP5.out.1, HP5.out.2⟩)
 · subst hok
   go_wp2_with (first
     | (go_at_call 116; ((with_reducible refine (FA.out w5 HP5.out.1).mono ?_); rintro en w6 ⟨rfl, hP6, hT6⟩))
     | (fail "arm"))
   all_goals (go_ret; exact ⟨rfl, hP6, HP5.out.2.trans_ hT6⟩)
end Go.Proofs.YtcjoiiaankngjaaGreatDoor
namespace Go.Proofs.YtcjoiiaankngjaaGreatDoor
set_option maxRecDepth 100000
open Go.RowKit Go.Maps Go.ChangeMaps Go.MapKept Go.WideShapes
def klS (s : ByteArray) : Lit := .string s.data.toList
theorem klS_key (s : ByteArray) : WideAt.IsKeyLit (klS s) := trivial
theorem klS_inj {a b : ByteArray} (h : klS a = klS b) : a = b := by
 unfold klS at h
 injection h with h
 exact Go.WideShapes.bytes_inj h
theorem zero4 (w : World) : (zeroValue 4).run Tryz.prog w = .ok (.bool false) w := by kernel_rfl
theorem law9 : Keyed Tryz.prog 9 := string_keyed Tryz.underlying9
theorem plainElem_bool_inv {v : Value} {z : DataW Unit × List MemPlace} (h : plainElem Tryz.prog 4 v = some z) : ∃ x, v = .bool x ∧ z = (.lit (.bool x), []) := by
 unfold plainElem at h
 rw [Tryz.underlying4] at h
 cases v <;> simp at h
 subst h
 exact ⟨_, rfl, rfl⟩
theorem ownsMap_keep {w w' : World} {H : Type} {k : TypeId} {R : Value → Option (DataW H × List MemPlace)} {b n : Nat} {D : DataW H} (h : w.ownsMap Tryz.prog k R b n D) (hb : w'.heap[b]? = w.heap[b]?) : w'.ownsMap Tryz.prog k R b n D := by
 unfold World.ownsMap at h ⊢
 rw [hb]; exact h
abbrev Kn := List UInt8 → Bool
def kPut (K : Kn) (s : List UInt8) : Kn := fun x => decide (x = s) || K x
def Names (w : World) (b n : Nat) (K : Kn) : Prop := ∃ D : DataW Unit, w.ownsMap Tryz.prog 9 (plainElem Tryz.prog 4) b n D ∧ IsMap D ∧ ∀ s : ByteArray, has D (klS s) = K s.data.toList ∧ (K s.data.toList = true → ∀ z, D.atKey (klS s) z = .lit (.bool true))
theorem Names.look {w : World} {b n : Nat} {K : Kn} (h : Names w b n K) (s : ByteArray) (hs : s.size ≤ maxLen) : (Instr.lookup 93 (.map (some b)) (.string s) false).run Tryz.prog w = .ok (.bool (K s.data.toList)) w := by
 obtain ⟨D, hm, _, hD⟩ := h
 have hk : keyOf Tryz.prog 9 (.string s) = some (klS s) := WideMaps.keyOf_string_mk (P := Tryz.prog) Tryz.underlying9 hs
 obtain ⟨v, ps, hr, hv⟩ := hm.lookup law9 Tryz.underlying93 (zero4 w) (plainElem_bool (x := false) Tryz.underlying4) hk
 obtain ⟨x, rfl, hx⟩ := plainElem_bool_inv hv
 have hx' := congrArg Prod.fst hx
 change D.atKey (klS s) _ = _ at hx'
 obtain ⟨h1, h2⟩ := hD s
 rw [hr]
 cases hK : K s.data.toList with
 | false =>
   rw [hK] at h1
   rw [atKey_of_not_has (z := DataW.lit (Lit.bool false)) h1] at hx'
   injection hx' with hx'
   injection hx' with hx'
   rw [← hx']
 | true =>
   rw [h2 hK] at hx'
   injection hx' with hx'
   injection hx' with hx'
   rw [← hx']
theorem Names.put {w : World} {b n : Nat} {K : Kn} (h : Names w b n K) (s : ByteArray) (hs : s.size ≤ maxLen) (hn : n < maxLen) :
   ∃ w', (Instr.mapUpdate 93 (.map (some b)) (.string s) (.bool true)).run Tryz.prog w = .ok () w' ∧ Names w' b (n + 1) (kPut K s.data.toList) ∧ Turn (fun g => g = b) w w' := by
 obtain ⟨D, hm, hi, hD⟩ := h
 have hk : keyOf Tryz.prog 9 (.string s) = some (klS s) := WideMaps.keyOf_string_mk (P := Tryz.prog) Tryz.underlying9 hs
 obtain ⟨w', hr, h1, h2⟩ := hm.update law9 Tryz.underlying93 hn hk (plainElem_bool (x := true) Tryz.underlying4)
 refine ⟨w', hr, ⟨_, h1, hi.put _ _, fun x => ?_⟩, ⟨h2.os, h2.tape, h2.output, h2.size, fun g hg hne => h2.block g hg (fun e => hne (by injection e))⟩⟩
 unfold kPut
 by_cases hx : x = s
 · subst hx
   exact ⟨by rw [has_put_same hi (klS_key x)]; simp, fun _ z => atKey_put_same hi (klS_key x) _ _⟩
 · have hne : klS x ≠ klS s := fun e => hx (klS_inj e)
   have hd : decide (x.data.toList = s.data.toList) = false := by
     rw [decide_eq_false_iff_not]
     exact fun e => hx (Go.WideShapes.bytes_inj e)
   rw [hd, Bool.false_or]
   obtain ⟨q1, q2⟩ := hD x
   exact ⟨by rw [has_put_other hne]; exact q1, fun hK z => by rw [atKey_put_other hne]; exact q2 hK z⟩
theorem Names.keep {w w' : World} {b n : Nat} {K : Kn} (h : Names w b n K) (hb : w'.heap[b]? = w.heap[b]?) : Names w' b n K := by
 obtain ⟨D, hm, hD⟩ := h
 exact ⟨D, ownsMap_keep hm hb, hD⟩
theorem Names.lt {w : World} {b n : Nat} {K : Kn} (h : Names w b n K) : b < w.heap.size := h.choose_spec.1.lt
theorem Names.far {F : Nat → Prop} {w w' : World} {b n : Nat} {K : Kn} (h : Names w b n K) (ht : Turn F w w') (hF : ¬ F b) : Names w' b n K := h.keep (ht.block b h.lt hF)
theorem Names.on {w w' : World} {b n : Nat} {K : Kn} (h : Names w b n K) (hb : Below w.heap.size w w') : Names w' b n K := h.keep (hb.block b h.lt)
theorem Names.mono {w : World} {b n m : Nat} {K : Kn} (h : Names w b n K) (hn : n ≤ m) : Names w b m K := by
 obtain ⟨D, hm, hD⟩ := h
 exact ⟨D, hm.mono hn, hD⟩
theorem names_of_empty {w : World} {b clock : Nat} (h : w.heap[b]? = some (.map #[] clock)) : Names w b 0 (fun _ => false) :=
 ⟨.map [], ⟨#[], clock, h, ⟨by simp, stamped_empty clock, by simp⟩, Nat.le_refl _, rfl⟩, isMap_empty, fun _ => ⟨rfl, fun h => by cases h⟩⟩
theorem Names.made (w : World) : Names (w.alloc (.map #[] 0)) w.heap.size 0 (fun _ => false) := names_of_empty (MapKept.heap_alloc w _).1
theorem Names.clear {w : World} {b n : Nat} {K : Kn} (h : Names w b n K) : ∃ w', (∀ ty, (Builtin.clear_ #[93] ty #[.map (some b)]).run Tryz.prog w = .ok (.tuple #[]) w') ∧ Names w' b 0 (fun _ => false) ∧ Turn (fun g => g = b) w w' := by
 obtain ⟨D, ⟨es, clock, hb, _⟩, _⟩ := h
 refine ⟨setBlock w b (.map #[] clock), fun ty => ?_, names_of_empty (heap_setBlock_same hb _), ?_⟩
 · simp [Builtin.clear_, run_underlying Tryz.underlying93, MapKept.run_getObj_map hb, MapKept.run_setObj_map _ hb, Result.andThen, setBlock]
 · exact ⟨rfl, rfl, rfl, by simp [setBlock], fun g _ hne => heap_setBlock_other hb _ hne⟩
theorem PS.farT {F : Nat → Prop} {w w' : World} {b : Nat} {σ : Pst} {R : List Value} (h : PS w b σ R) (ht : Turn F w w') (hF : ¬ F b) : PS w' b σ R := by
 obtain ⟨s, n, c, tx, tl, e, el, h1, h2⟩ := h
 exact ⟨s, n, c, tx, tl, e, el, ht.far h1 hF, h2⟩
def pOnce (K : Kn) (t : Tok) (σ : Pst) : Pst := if K t.txt then pFail (t.ln : Int) 42 σ else σ
def OnceOut (w : World) (b m n : Nat) (σ : Pst) (K : Kn) (R : List Value) (en : Ending) (w' : World) : Prop := en = .returned (.tuple #[]) ∧ PS w' b σ R ∧ Names w' m n K ∧ Turn (fun g => g = b ∨ g = m) w w'
theorem Turn.or1 {w w' : World} {b m : Nat} (h : Turn (fun g => g = b) w w') : Turn (fun g => g = b ∨ g = m) w w' := h.mono fun _ e => .inl e
theorem Turn.or2 {w w' : World} {b m : Nat} (h : Turn (fun g => g = m) w w') : Turn (fun g => g = b ∨ g = m) w w' := h.mono fun _ e => .inr e
set_option maxHeartbeats 2000000 in
theorem once_any {w : World} {b m n : Nat} {σ : Pst} {K : Kn} {R : List Value} (h : PS w b σ R) (hm : Names w m n K) (hbm : m ≠ b) (hn : n < maxLen) (t : Tok) (ht : t.txt.length ≤ 4294967000) :
   Calls Tryz.prog 102 #[.pointer (some ⟨b, 0, none⟩), .map (some m), tokV t] w (OnceOut w b m (n + 1) (pOnce K t σ) (kPut K t.txt) R) := by
 unfold OnceOut pOnce tokV
 obtain ⟨x, hx⟩ : ∃ x, str t.txt = x := ⟨_, rfl⟩
 obtain ⟨l, hl⟩ : ∃ l : Nat, t.ln = l := ⟨_, rfl⟩
 obtain ⟨c, hc⟩ : ∃ l : Nat, t.cls = l := ⟨_, rfl⟩
 have hxl : x.data.toList = t.txt := by rw [← hx, str_data]
 have hxs : x.size ≤ maxLen := by rw [← hx, str_size]; unfold maxLen; omega
 rw [hx, hl, hc, ← hxl]
 clear hx hl hc hxl ht
 obtain ⟨w1, hw1⟩ : ∃ w1, w.alloc (.cells #[.int .i64 (c : Int), .string x, .int .i64 (l : Int)] 91) = w1 := ⟨_, rfl⟩
 have hb1 : Below w.heap.size w w1 := by rw [← hw1]; exact (Below.refl _ w).alloc (Nat.le_refl _) _
 have F1 : Full w1 w.heap.size 91 [.int .i64 (c : Int), .string x, .int .i64 (l : Int)] := by rw [← hw1]; exact Full.new w 91 _
 obtain ⟨u, hu⟩ : ∃ u, w.heap.size = u := ⟨_, rfl⟩
 have hbu : b < u := by rw [← hu]; exact h.lt
 have hmu : m < u := by rw [← hu]; exact hm.lt
 rw [hu] at F1
 have h1 := h.on hb1
 have hm1 := hm.on hb1
 have hT1 : Turn (fun g => g = b ∨ g = m) w w1 := Turn.of hb1
 have u1 : w1.cell? ⟨u, 1, none⟩ = some (.string x) := F1.cell 1
 have u2 : w1.cell? ⟨u, 2, none⟩ = some (.int .i64 (l : Int)) := F1.cell 2
 have lk := hm1.look x hxs
 have FA := Lib.hid (fail_any h1 (l : Int) 42 (by decide))
 unfold StOut at FA
 cases hK : K x.data.toList with
 | true =>
   rw [hK] at lk
   rw [if_pos rfl]
   have HT := Lib.hid hT1
   have HF := Lib.hid F1
   have HM := Lib.hid hm1
   clear h hm hb1 F1 h1 hm1 hT1 hK
   go_enter Tryz.func102, Tryz.ntmps102
   go_wp2_with (first
     | (go_at_call 116; ((with_reducible refine FA.out.mono ?_); rintro en w2 ⟨rfl, hP2, hT2⟩; (have F2 := hT2.far HF.out (by omega)); (have v1 : w2.cell? ⟨u, 1, none⟩ = some (.string x) := F2.cell 1); (obtain ⟨w3, hr3, hm3, hT3⟩ := (HM.out.far hT2 hbm).put x hxs hn); (have HO := Lib.hid (And.intro (hP2.farT hT3 (fun e => hbm e.symm)) (And.intro hm3 ((HT.out.trans_ hT2.or1).trans_ hT3.or2)))); clear hP2 hT2 F2 hm3 hT3))
     | (fail "arm"))
   all_goals (go_end0; exact ⟨rfl, HO.out⟩)
 | false =>
   rw [hK] at lk
   rw [if_neg (by decide)]
   obtain ⟨w3, hr3, hm3, hT3⟩ := hm1.put x hxs hn
   have HO := Lib.hid (And.intro (h1.farT hT3 (fun e => hbm e.symm)) (And.intro hm3 (hT1.trans_ hT3.or2)))
   clear h hm hb1 F1 h1 hm1 hT1 hK hm3 hT3
   go_enter Tryz.func102, Tryz.ntmps102
   go_wp2
   all_goals (go_end0; exact ⟨rfl, HO.out⟩)
end Go.Proofs.YtcjoiiaankngjaaGreatDoor
namespace Go.Proofs.YtcjoiiaankngjaaGreatDoor
set_option maxRecDepth 100000
open Go.RowKit
theorem info52 : (Tryz.prog.info? 52).map (fun i => (i.zero, i.size, i.bytes)) = some (some (.agg #[.string ⟨#[]⟩, .bool false, .string ⟨#[]⟩, .int .i64 0]), 4, 48) := by kernel_rfl
def itmsC (l : List Itm) : List Value := l.flatMap itmC
theorem itmsC_snoc (l : List Itm) (i : Itm) : itmsC (l ++ [i]) = itmsC l ++ itmC i := by unfold itmsC; rw [List.flatMap_append]; simp
theorem itmC_one (i : Itm) : ∀ u ∈ itmC i, u.oneCell' = true := by
 intro u hu
 simp [itmC] at hu
 rcases hu with rfl | rfl | rfl | rfl <;> rfl
def pMore {S : Type} (el : S → Itm × S) (tk : S → Bool × S) : Nat → S → List Itm × S
 | 0, σ => ([], σ)
 | f + 1, σ => if (tk σ).1 then ((el (tk σ).2).1 :: (pMore el tk f (el (tk σ).2).2).1, (pMore el tk f (el (tk σ).2).2).2) else ([], (tk σ).2)
structure LEnv (S : Type) (Inv : World → S → Prop) (F : Nat → Prop) (B b : Nat) (el : S → Itm × S) (tk : S → Bool × S) (ex : S → S) (len : S → Nat) : Prop where
 lt : ∀ g, F g → g < B
 on : ∀ W W' σ, Inv W σ → Turn (fun g => B ≤ g) W W' → Inv W' σ
 cT : ∀ W σ, Inv W σ → Calls Tryz.prog 74 #[.pointer (some ⟨b, 0, none⟩), .string ⟨#[44]⟩] W fun en W' => en = .returned (.bool (tk σ).1) ∧ Inv W' (tk σ).2 ∧ Turn F W W'
 cE : ∀ W σ, Inv W σ → Calls Tryz.prog 103 #[.pointer (some ⟨b, 0, none⟩), .string ⟨#[59]⟩] W fun en W' => en = .returned (.tuple #[]) ∧ Inv W' (ex σ) ∧ Turn F W W'
 bound : ∀ W σ, Inv W σ → len σ ≤ 8589934592
 less : ∀ σ, (tk σ).1 = true → len (tk σ).2 < len σ
 le : ∀ σ, len (el σ).2 ≤ len σ
def pList {S : Type} (el : S → Itm × S) (tk : S → Bool × S) (ex : S → S) (len : S → Nat) (σ : S) : List Itm × S :=
 ((el σ).1 :: (pMore el tk (len (el σ).2 + 1) (el σ).2).1, ex (pMore el tk (len (el σ).2 + 1) (el σ).2).2)
theorem pMore_len {S : Type} (el : S → Itm × S) (tk : S → Bool × S) (len : S → Nat) (less : ∀ σ, (tk σ).1 = true → len (tk σ).2 < len σ) (le : ∀ σ, len (el σ).2 ≤ len σ) : ∀ (f : Nat) (σ : S), (pMore el tk f σ).1.length ≤ len σ
 | 0, σ => by simp [pMore]
 | f + 1, σ => by
   rw [pMore]
   split
   · rename_i h
     have h1 := less σ h
     have h2 := le (tk σ).2
     have h3 := pMore_len el tk len less le f (el (tk σ).2).2
     simp
     omega
   · simp
def OwnI (w : World) (base : Nat) (A : Option Addr) (c : Nat) (l : List Itm) : Prop := w.ownsRow base 52 4 (.slice A l.length c) l.length (itmsC l)
theorem OwnI.one (w : World) (base : Nat) (h : base ≤ w.heap.size) (i : Itm) : OwnI (w.alloc (.cells (itmC i).toArray 52)) base (some ⟨w.heap.size, 0, none⟩) 1 [i] :=
 ⟨by simp [itmsC, itmC], .inr ⟨w.heap.size, 1, (itmC i).toArray, rfl, h, heap_alloc_new w _, Nat.le_refl _, by unfold maxLen; omega, by simp [itmC], by simp [itmsC, itmC]⟩⟩
def ListOut {S : Type} (Inv : World → S → Prop) (F : Nat → Prop) (w : World) (r : List Itm × S) (en : Ending) (w' : World) : Prop :=
 ∃ A c, en = .returned (.slice A r.1.length c) ∧ OwnI w' w.heap.size A c r.1 ∧ Inv w' r.2 ∧ Turn F w w'
theorem Turn.late_row {F : Nat → Prop} {w w1 w2 : World} (h : Turn F w w1) {row : Option Nat} (hg : w1.grownBy w2 row) (hr : ∀ g, row = some g → w.heap.size ≤ g) : Turn F w w2 :=
 h.late (G := fun g => w.heap.size ≤ g) (Turn.grown hg fun g hg => .inl (hr g hg)) fun _g hg => .inr hg
theorem own_turn {F : Nat → Prop} {w w' : World} {base : Nat} {e : TypeId} {size n : Nat} {v : Value} {xs : List Value} (h : w.ownsRow base e size v n xs) (ht : Turn F w w') (hF : ∀ g, F g → g < base) : w'.ownsRow base e size v n xs := by
 obtain ⟨h1, h2⟩ := h
 refine ⟨h1, h2.imp id ?_⟩
 rintro ⟨g, cap, cur, rfl, hb, hg, r⟩
 exact ⟨g, cap, cur, rfl, hb, (ht.block g (Array.getElem?_eq_some_iff.1 hg).1 (fun e => by have := hF g e; omega)).trans hg, r⟩
set_option maxHeartbeats 4000000 in
theorem list_T {S : Type} {Inv : World → S → Prop} {F : Nat → Prop} {B b : Nat} {el : S → Itm × S} {tk : S → Bool × S} {ex : S → S} {len : S → Nat} (E : LEnv S Inv F B b el tk ex len)
   (EL : ∀ W σ, Inv W σ → Calls Tryz.prog 107 #[.pointer (some ⟨b, 0, none⟩)] W fun en W' => en = .returned (itmV (el σ).1) ∧ Inv W' (el σ).2 ∧ Turn F W W')
   {w : World} (hB : B ≤ w.heap.size) {σ : S} (h : Inv w σ) : Calls Tryz.prog 108 #[.pointer (some ⟨b, 0, none⟩), .func (.func 107) #[.pointer (some ⟨b, 0, none⟩)] #[]] w (ListOut Inv F w (pList el tk ex len σ)) := by
 unfold ListOut
 obtain ⟨i0, hi, hz0, hz1, hz2⟩ := info_parts info52
 obtain ⟨it, hit⟩ : ∃ i, (el σ).1 = i := ⟨_, rfl⟩
 obtain ⟨σ1, h1⟩ : ∃ i, (el σ).2 = i := ⟨_, rfl⟩
 obtain ⟨r, hr⟩ : ∃ r, r = pMore el tk (len σ1 + 1) σ1 := ⟨_, rfl⟩
 have hres : pList el tk ex len σ = (it :: r.1, ex r.2) := by unfold pList; rw [h1, hit, hr]
 rw [hres]
 dsimp only
 have hrl : (it :: r.1).length ≤ 8589934593 := by
   have a1 := pMore_len el tk len E.less E.le (len σ1 + 1) σ1
   have a2 := E.bound w σ h
   have a3 := E.le σ
   rw [h1] at a3
   rw [← hr] at a1
   simp
   omega
 obtain ⟨L, hL⟩ : ∃ L, it :: r.1 = L := ⟨_, rfl⟩
 rw [hL] at hrl
 rw [hL]
 have EL1 := Lib.hid (EL w σ h)
 rw [hit, h1] at EL1
 unfold itmV at EL1
 obtain ⟨σ9, h9⟩ : ∃ s, ex r.2 = s := ⟨_, rfl⟩
 have CE := Lib.hid (fun (W : World) (h : Inv W r.2) => E.cE W r.2 h)
 rw [h9] at CE
 rw [h9]
 have HL := Lib.hid hL
 have HR := Lib.hid hr
 have HB := Lib.hid hB
 obtain ⟨y0, hy0⟩ : ∃ y, str it.tx = y := ⟨_, rfl⟩
 obtain ⟨y1, hy1⟩ : ∃ y, it.gl = y := ⟨_, rfl⟩
 obtain ⟨y2, hy2⟩ : ∃ y, str it.pl = y := ⟨_, rfl⟩
 obtain ⟨y3, hy3⟩ : ∃ y : Nat, it.ln = y := ⟨_, rfl⟩
 have HC := Lib.hid (show itmC it = [.string y0, .bool y1, .string y2, .int .i64 (y3 : Int)] by unfold itmC; rw [hy0, hy1, hy2, hy3])
 rw [hy0, hy1, hy2, hy3] at EL1
 have HE := Lib.hid E
 have HEL := Lib.hid EL
 clear hy0 hy1 hy2 hy3 h9 hL hres hr h1 hit h hB E EL
 go_enter Tryz.func108, Tryz.ntmps108
 go_upto_region 2 with (first
   | (go_at_call 107; ((with_reducible refine EL1.out.mono ?_); rintro en w1 ⟨rfl, hI1, hT1⟩))
   | (fail "arm"))
 obtain ⟨w2, hw2⟩ : ∃ w2, w1.alloc (.cells #[.string y0, .bool y1, .string y2, .int .i64 (y3 : Int)] 52) = w2 := ⟨_, rfl⟩
 have hO2 : OwnI w2 w.heap.size (some ⟨w1.heap.size, 0, none⟩) 1 [it] := by
   have := OwnI.one w1 w.heap.size hT1.size it
   rw [HC.out, hw2] at this
   exact this
 have hb2 : Below w1.heap.size w1 w2 := by rw [← hw2]; exact (Below.refl _ w1).alloc (Nat.le_refl _) _
 have hI2 : Inv w2 σ1 := HE.out.on w1 w2 σ1 hI1 (Turn.of hb2)
 have hT2 : Turn F w w2 := hT1.trans_ (Turn.of hb2)
 obtain ⟨g, hg⟩ : ∃ g, w1.heap.size = g := ⟨_, rfl⟩
 rw [hg] at hO2
 rw [hw2, hg]
 have HO2 := Lib.hid hO2
 have HI2 := Lib.hid hI2
 have HT2 := Lib.hid hT2
 clear hw2 hg hO2 hb2 hI2 hT2 hI1 hT1 EL1
 go_loopw [5] (fun v5 wr => ∃ (A : Option Addr) (n c f : Nat) (acc : List Itm) (σ' : S), v5 = .slice A n c ∧ n = acc.length ∧ n ≤ L.length ∧ Hid (OwnI wr w.heap.size A c acc) ∧ Hid (Inv wr σ') ∧ Hid (len σ' < f) ∧ Hid (acc ++ (pMore el tk f σ').1 = L) ∧ Hid ((pMore el tk f σ').2 = r.2) ∧ Hid (Turn F w wr)) (fun v5 _ => match v5 with | .slice _ n _ => L.length - n | _ => 0)
 case atStart => exact ⟨some ⟨g, 0, none⟩, 1, 1, len σ1 + 1, [it], σ1, rfl, rfl, by rw [← HL.out]; simp, HO2, HI2, Lib.hid (Nat.lt_succ_self _), Lib.hid (by rw [← HL.out, HR.out]; rfl), Lib.hid (by rw [HR.out]), HT2⟩
 case round =>
   obtain ⟨A, n, c, f, acc, σ', rfl, hn, hnL, HO, HI, Hf, HM1, HM2, HT⟩ := hrel
   obtain ⟨f, rfl⟩ : ∃ k, f = k + 1 := ⟨f - 1, by have := Hf.out; omega⟩
   have CT := Lib.hid (HE.out.cT wr σ' HI.out)
   obtain ⟨σ2, h2⟩ : ∃ s, (tk σ').2 = s := ⟨_, rfl⟩
   cases ht : (tk σ').1 with
   | false =>
     rw [ht, h2] at CT
     have m1 := HM1.out
     have m2 := HM2.out
     rw [pMore, if_neg (by rw [ht]; decide)] at m1 m2
     dsimp only at m1 m2
     rw [List.append_nil] at m1
     rw [h2] at m2
     subst m2
     have HA := Lib.hid m1
     have Hn := Lib.hid hn
     clear m1 ht h2 hn HM1 HM2
     go_wp2_with (first
       | (go_at_call 74; ((with_reducible refine CT.out.mono ?_); rintro en w3 ⟨rfl, hI3, hT3⟩))
       | (go_at_call 103; ((with_reducible refine (CE.out w3 hI3).mono ?_); rintro en w4 ⟨rfl, hI4, hT4⟩))
       | (fail "arm"))
     all_goals
       go_ret
       have e := Hn.out
       have a := HA.out
       subst a
       subst e
       exact ⟨A, c, rfl, own_turn (own_turn HO.out hT3 (fun g e => Nat.lt_of_lt_of_le (HE.out.lt g e) HB.out)) hT4 (fun g e => Nat.lt_of_lt_of_le (HE.out.lt g e) HB.out), hI4, (HT.out.trans_ hT3).trans_ hT4⟩
   | true =>
     rw [ht, h2] at CT
     have hlt := HE.out.less σ' ht
     have hle := HE.out.le σ2
     rw [h2] at hlt
     have m1 := HM1.out
     have m2 := HM2.out
     rw [pMore, if_pos ht] at m1 m2
     dsimp only at m1 m2
     rw [h2] at m1 m2
     have EL2 := Lib.hid (fun (W : World) (h : Inv W σ2) => HEL.out W σ2 h)
     obtain ⟨jt, hjt⟩ : ∃ i, (el σ2).1 = i := ⟨_, rfl⟩
     obtain ⟨σ3, h3⟩ : ∃ i, (el σ2).2 = i := ⟨_, rfl⟩
     rw [hjt, h3] at EL2
     rw [h3] at hle
     rw [hjt, h3] at m1
     rw [h3] at m2
     unfold itmV at EL2
     obtain ⟨z0, hz0'⟩ : ∃ y, str jt.tx = y := ⟨_, rfl⟩
     obtain ⟨z1, hz1'⟩ : ∃ y, jt.gl = y := ⟨_, rfl⟩
     obtain ⟨z2, hz2'⟩ : ∃ y, str jt.pl = y := ⟨_, rfl⟩
     obtain ⟨z3, hz3'⟩ : ∃ y : Nat, jt.ln = y := ⟨_, rfl⟩
     have HCj := Lib.hid (show itmC jt = [.string z0, .bool z1, .string z2, .int .i64 (z3 : Int)] by unfold itmC; rw [hz0', hz1', hz2', hz3'])
     rw [hz0', hz1', hz2', hz3'] at EL2
     have Hf' := Lib.hid (show len σ3 < f by have := Hf.out; omega)
     have HM1' := Lib.hid (show (acc ++ [jt]) ++ (pMore el tk f σ3).1 = L by rw [List.append_assoc]; exact m1)
     have HM2' := Lib.hid m2
     have hnL' : n + 1 ≤ L.length := by rw [← m1, hn]; simp
     have Hn := Lib.hid hn
     have HCN := Lib.hid (fun (W : World) (g : Nat) (hg : W.heap.size = g) => show ∀ j u, [Value.string z0, .bool z1, .string z2, .int .i64 (z3 : Int)][j]? = some u → (W.alloc (.cells #[.string z0, .bool z1, .string z2, .int .i64 (z3 : Int)] 52)).cell? ((⟨g, 0, none⟩ : Addr).add j) = some u from fun j u hj => by
       subst hg
       obtain ⟨ad, e, _, hc⟩ := ((Full.new W 52 [.string z0, .bool z1, .string z2, .int .i64 (z3 : Int)]).row 4 1 rfl 1 (Nat.le_refl _)).2.2.2 j u hj
       injection e with e
       subst e
       exact hc)
     have HC1 := Lib.hid (show ∀ u ∈ [Value.string z0, .bool z1, .string z2, .int .i64 (z3 : Int)], u.oneCell' = true from by
       intro u hu
       simp at hu
       rcases hu with rfl | rfl | rfl | rfl <;> rfl)
     have HOn := Lib.hid (show ∀ W, Turn F wr W → W.ownsRow w.heap.size 52 4 (.slice A n c) n (itmsC acc) from fun W hT => by
       have q := HO.out
       unfold OwnI at q
       rw [← Hn.out] at q
       exact own_turn q hT (fun g e => Nat.lt_of_lt_of_le (HE.out.lt g e) HB.out))
     clear m1 m2 hlt hle ht h2 hn hz0' hz1' hz2' hz3' hjt h3 HM1 HM2 Hf
     go_wp2_with (first
       | (go_at_call 74; ((with_reducible refine CT.out.mono ?_); rintro en w3 ⟨rfl, hI3, hT3⟩))
       | (go_at_call 107; ((with_reducible refine (EL2.out w3 hI3).mono ?_); rintro en w4 ⟨rfl, hI4, hT4⟩; (have hT34 := hT3.trans_ hT4); (have hs4 := (HT.out.trans_ hT34).size); (have HO4 := Lib.hid (HOn.out w4 hT34)); (have HI4 := Lib.hid hI4); (have HT4 := Lib.hid hT34); clear hI3 hT3 hI4 hT4 hT34))
       | (at_builtin; go_loud (refine wpList_append_own _ rfl _ _ 25 rfl w.heap.size 52 i0 (.agg #[.string ⟨#[]⟩, .bool false, .string ⟨#[]⟩, .int .i64 0]) 4 48 Tryz.underlying25 hi hz0 hz1 hz2 rfl (by decide) (.slice A n c) _ _ rfl (HO4.out.alloc _) ⟨w4.heap.size, 0, none⟩ 1 1 [.string z0, .bool z1, .string z2, .int .i64 (z3 : Int)] rfl rfl (HCN.out w4 w4.heap.size rfl) HC1.out (by unfold maxLen; omega) (by omega) (by simp; omega) ?_; intro v' w9 hown9 hgrow9 hnil9; (have HO9 := Lib.hid hown9); (have HG9 := Lib.hid hgrow9); clear hown9 hgrow9 hnil9))
       | (fail "arm"))
     obtain ⟨A9, c9, rfl⟩ := own_form HO9.out
     have hba : Below w4.heap.size w4 (w4.alloc (.cells #[.string z0, .bool z1, .string z2, .int .i64 (z3 : Int)] 52)) := (Below.refl _ w4).alloc (Nat.le_refl _) _
     have hrow : ∀ g, (Value.slice A n c).ownBlock = some g → w.heap.size ≤ g := row_ge HO4.out
     have hI9 : Inv w9 σ3 := HE.out.on _ _ _ (HE.out.on _ _ _ HI4.out (Turn.of hba)) (Turn.grown HG9.out fun g hg => .inl (Nat.le_trans HB.out (hrow g hg)))
     have hT9 : Turn F w w9 := ((HT.out.trans_ HT4.out).trans_ (Turn.of hba)).late_row HG9.out hrow
     have hO9 : OwnI w9 w.heap.size A9 c9 (acc ++ [jt]) := by
       have q := HO9.out
       unfold OwnI
       rw [itmsC_snoc, HCj.out, show (acc ++ [jt]).length = n + 1 by simp [Hn.out]]
       exact q
     have hl9 : n + 1 = (acc ++ [jt]).length := by simp [Hn.out]
     go_roundw
     case rel => exact ⟨A9, n + 1, c9, f, acc ++ [jt], σ3, rfl, hl9, hnL', Lib.hid hO9, Lib.hid hI9, Hf', HM1', HM2', Lib.hid hT9⟩
     case measure => show L.length - (n + 1) < L.length - n; omega
set_option maxHeartbeats 4000000 in
theorem list_S {S : Type} {Inv : World → S → Prop} {F : Nat → Prop} {B b : Nat} {el : S → Itm × S} {tk : S → Bool × S} {ex : S → S} {len : S → Nat} (E : LEnv S Inv F B b el tk ex len)
   (EL : ∀ W σ, Inv W σ → Calls Tryz.prog 106 #[.pointer (some ⟨b, 0, none⟩)] W fun en W' => en = .returned (itmV (el σ).1) ∧ Inv W' (el σ).2 ∧ Turn F W W')
   {w : World} (hB : B ≤ w.heap.size) {σ : S} (h : Inv w σ) : Calls Tryz.prog 108 #[.pointer (some ⟨b, 0, none⟩), .func (.func 106) #[.pointer (some ⟨b, 0, none⟩)] #[]] w (ListOut Inv F w (pList el tk ex len σ)) := by
 unfold ListOut
 obtain ⟨i0, hi, hz0, hz1, hz2⟩ := info_parts info52
 obtain ⟨it, hit⟩ : ∃ i, (el σ).1 = i := ⟨_, rfl⟩
 obtain ⟨σ1, h1⟩ : ∃ i, (el σ).2 = i := ⟨_, rfl⟩
 obtain ⟨r, hr⟩ : ∃ r, r = pMore el tk (len σ1 + 1) σ1 := ⟨_, rfl⟩
 have hres : pList el tk ex len σ = (it :: r.1, ex r.2) := by unfold pList; rw [h1, hit, hr]
 rw [hres]
 dsimp only
 have hrl : (it :: r.1).length ≤ 8589934593 := by
   have a1 := pMore_len el tk len E.less E.le (len σ1 + 1) σ1
   have a2 := E.bound w σ h
   have a3 := E.le σ
   rw [h1] at a3
   rw [← hr] at a1
   simp
   omega
 obtain ⟨L, hL⟩ : ∃ L, it :: r.1 = L := ⟨_, rfl⟩
 rw [hL] at hrl
 rw [hL]
 have EL1 := Lib.hid (EL w σ h)
 rw [hit, h1] at EL1
 unfold itmV at EL1
 obtain ⟨σ9, h9⟩ : ∃ s, ex r.2 = s := ⟨_, rfl⟩
 have CE := Lib.hid (fun (W : World) (h : Inv W r.2) => E.cE W r.2 h)
 rw [h9] at CE
 rw [h9]
 have HL := Lib.hid hL
 have HR := Lib.hid hr
 have HB := Lib.hid hB
 obtain ⟨y0, hy0⟩ : ∃ y, str it.tx = y := ⟨_, rfl⟩
 obtain ⟨y1, hy1⟩ : ∃ y, it.gl = y := ⟨_, rfl⟩
 obtain ⟨y2, hy2⟩ : ∃ y, str it.pl = y := ⟨_, rfl⟩
 obtain ⟨y3, hy3⟩ : ∃ y : Nat, it.ln = y := ⟨_, rfl⟩
 have HC := Lib.hid (show itmC it = [.string y0, .bool y1, .string y2, .int .i64 (y3 : Int)] by unfold itmC; rw [hy0, hy1, hy2, hy3])
 rw [hy0, hy1, hy2, hy3] at EL1
 have HE := Lib.hid E
 have HEL := Lib.hid EL
 clear hy0 hy1 hy2 hy3 h9 hL hres hr h1 hit h hB E EL
 go_enter Tryz.func108, Tryz.ntmps108
 go_upto_region 2 with (first
   | (go_at_call 106; ((with_reducible refine EL1.out.mono ?_); rintro en w1 ⟨rfl, hI1, hT1⟩))
   | (fail "arm"))
 obtain ⟨w2, hw2⟩ : ∃ w2, w1.alloc (.cells #[.string y0, .bool y1, .string y2, .int .i64 (y3 : Int)] 52) = w2 := ⟨_, rfl⟩
 have hO2 : OwnI w2 w.heap.size (some ⟨w1.heap.size, 0, none⟩) 1 [it] := by
   have := OwnI.one w1 w.heap.size hT1.size it
   rw [HC.out, hw2] at this
   exact this
 have hb2 : Below w1.heap.size w1 w2 := by rw [← hw2]; exact (Below.refl _ w1).alloc (Nat.le_refl _) _
 have hI2 : Inv w2 σ1 := HE.out.on w1 w2 σ1 hI1 (Turn.of hb2)
 have hT2 : Turn F w w2 := hT1.trans_ (Turn.of hb2)
 obtain ⟨g, hg⟩ : ∃ g, w1.heap.size = g := ⟨_, rfl⟩
 rw [hg] at hO2
 rw [hw2, hg]
 have HO2 := Lib.hid hO2
 have HI2 := Lib.hid hI2
 have HT2 := Lib.hid hT2
 clear hw2 hg hO2 hb2 hI2 hT2 hI1 hT1 EL1
 go_loopw [5] (fun v5 wr => ∃ (A : Option Addr) (n c f : Nat) (acc : List Itm) (σ' : S), v5 = .slice A n c ∧ n = acc.length ∧ n ≤ L.length ∧ Hid (OwnI wr w.heap.size A c acc) ∧ Hid (Inv wr σ') ∧ Hid (len σ' < f) ∧ Hid (acc ++ (pMore el tk f σ').1 = L) ∧ Hid ((pMore el tk f σ').2 = r.2) ∧ Hid (Turn F w wr)) (fun v5 _ => match v5 with | .slice _ n _ => L.length - n | _ => 0)
 case atStart => exact ⟨some ⟨g, 0, none⟩, 1, 1, len σ1 + 1, [it], σ1, rfl, rfl, by rw [← HL.out]; simp, HO2, HI2, Lib.hid (Nat.lt_succ_self _), Lib.hid (by rw [← HL.out, HR.out]; rfl), Lib.hid (by rw [HR.out]), HT2⟩
 case round =>
   obtain ⟨A, n, c, f, acc, σ', rfl, hn, hnL, HO, HI, Hf, HM1, HM2, HT⟩ := hrel
   obtain ⟨f, rfl⟩ : ∃ k, f = k + 1 := ⟨f - 1, by have := Hf.out; omega⟩
   have CT := Lib.hid (HE.out.cT wr σ' HI.out)
   obtain ⟨σ2, h2⟩ : ∃ s, (tk σ').2 = s := ⟨_, rfl⟩
   cases ht : (tk σ').1 with
   | false =>
     rw [ht, h2] at CT
     have m1 := HM1.out
     have m2 := HM2.out
     rw [pMore, if_neg (by rw [ht]; decide)] at m1 m2
     dsimp only at m1 m2
     rw [List.append_nil] at m1
     rw [h2] at m2
     subst m2
     have HA := Lib.hid m1
     have Hn := Lib.hid hn
     clear m1 ht h2 hn HM1 HM2
     go_wp2_with (first
       | (go_at_call 74; ((with_reducible refine CT.out.mono ?_); rintro en w3 ⟨rfl, hI3, hT3⟩))
       | (go_at_call 103; ((with_reducible refine (CE.out w3 hI3).mono ?_); rintro en w4 ⟨rfl, hI4, hT4⟩))
       | (fail "arm"))
     all_goals
       go_ret
       have e := Hn.out
       have a := HA.out
       subst a
       subst e
       exact ⟨A, c, rfl, own_turn (own_turn HO.out hT3 (fun g e => Nat.lt_of_lt_of_le (HE.out.lt g e) HB.out)) hT4 (fun g e => Nat.lt_of_lt_of_le (HE.out.lt g e) HB.out), hI4, (HT.out.trans_ hT3).trans_ hT4⟩
   | true =>
     rw [ht, h2] at CT
     have hlt := HE.out.less σ' ht
     have hle := HE.out.le σ2
     rw [h2] at hlt
     have m1 := HM1.out
     have m2 := HM2.out
     rw [pMore, if_pos ht] at m1 m2
     dsimp only at m1 m2
     rw [h2] at m1 m2
     have EL2 := Lib.hid (fun (W : World) (h : Inv W σ2) => HEL.out W σ2 h)
     obtain ⟨jt, hjt⟩ : ∃ i, (el σ2).1 = i := ⟨_, rfl⟩
     obtain ⟨σ3, h3⟩ : ∃ i, (el σ2).2 = i := ⟨_, rfl⟩
     rw [hjt, h3] at EL2
     rw [h3] at hle
     rw [hjt, h3] at m1
     rw [h3] at m2
     unfold itmV at EL2
     obtain ⟨z0, hz0'⟩ : ∃ y, str jt.tx = y := ⟨_, rfl⟩
     obtain ⟨z1, hz1'⟩ : ∃ y, jt.gl = y := ⟨_, rfl⟩
     obtain ⟨z2, hz2'⟩ : ∃ y, str jt.pl = y := ⟨_, rfl⟩
     obtain ⟨z3, hz3'⟩ : ∃ y : Nat, jt.ln = y := ⟨_, rfl⟩
     have HCj := Lib.hid (show itmC jt = [.string z0, .bool z1, .string z2, .int .i64 (z3 : Int)] by unfold itmC; rw [hz0', hz1', hz2', hz3'])
     rw [hz0', hz1', hz2', hz3'] at EL2
     have Hf' := Lib.hid (show len σ3 < f by have := Hf.out; omega)
     have HM1' := Lib.hid (show (acc ++ [jt]) ++ (pMore el tk f σ3).1 = L by rw [List.append_assoc]; exact m1)
     have HM2' := Lib.hid m2
     have hnL' : n + 1 ≤ L.length := by rw [← m1, hn]; simp
     have Hn := Lib.hid hn
     have HCN := Lib.hid (fun (W : World) (g : Nat) (hg : W.heap.size = g) => show ∀ j u, [Value.string z0, .bool z1, .string z2, .int .i64 (z3 : Int)][j]? = some u → (W.alloc (.cells #[.string z0, .bool z1, .string z2, .int .i64 (z3 : Int)] 52)).cell? ((⟨g, 0, none⟩ : Addr).add j) = some u from fun j u hj => by
       subst hg
       obtain ⟨ad, e, _, hc⟩ := ((Full.new W 52 [.string z0, .bool z1, .string z2, .int .i64 (z3 : Int)]).row 4 1 rfl 1 (Nat.le_refl _)).2.2.2 j u hj
       injection e with e
       subst e
       exact hc)
     have HC1 := Lib.hid (show ∀ u ∈ [Value.string z0, .bool z1, .string z2, .int .i64 (z3 : Int)], u.oneCell' = true from by
       intro u hu
       simp at hu
       rcases hu with rfl | rfl | rfl | rfl <;> rfl)
     have HOn := Lib.hid (show ∀ W, Turn F wr W → W.ownsRow w.heap.size 52 4 (.slice A n c) n (itmsC acc) from fun W hT => by
       have q := HO.out
       unfold OwnI at q
       rw [← Hn.out] at q
       exact own_turn q hT (fun g e => Nat.lt_of_lt_of_le (HE.out.lt g e) HB.out))
     clear m1 m2 hlt hle ht h2 hn hz0' hz1' hz2' hz3' hjt h3 HM1 HM2 Hf
     go_wp2_with (first
       | (go_at_call 74; ((with_reducible refine CT.out.mono ?_); rintro en w3 ⟨rfl, hI3, hT3⟩))
       | (go_at_call 106; ((with_reducible refine (EL2.out w3 hI3).mono ?_); rintro en w4 ⟨rfl, hI4, hT4⟩; (have hT34 := hT3.trans_ hT4); (have hs4 := (HT.out.trans_ hT34).size); (have HO4 := Lib.hid (HOn.out w4 hT34)); (have HI4 := Lib.hid hI4); (have HT4 := Lib.hid hT34); clear hI3 hT3 hI4 hT4 hT34))
       | (at_builtin; go_loud (refine wpList_append_own _ rfl _ _ 25 rfl w.heap.size 52 i0 (.agg #[.string ⟨#[]⟩, .bool false, .string ⟨#[]⟩, .int .i64 0]) 4 48 Tryz.underlying25 hi hz0 hz1 hz2 rfl (by decide) (.slice A n c) _ _ rfl (HO4.out.alloc _) ⟨w4.heap.size, 0, none⟩ 1 1 [.string z0, .bool z1, .string z2, .int .i64 (z3 : Int)] rfl rfl (HCN.out w4 w4.heap.size rfl) HC1.out (by unfold maxLen; omega) (by omega) (by simp; omega) ?_; intro v' w9 hown9 hgrow9 hnil9; (have HO9 := Lib.hid hown9); (have HG9 := Lib.hid hgrow9); clear hown9 hgrow9 hnil9))
       | (fail "arm"))
     obtain ⟨A9, c9, rfl⟩ := own_form HO9.out
     have hba : Below w4.heap.size w4 (w4.alloc (.cells #[.string z0, .bool z1, .string z2, .int .i64 (z3 : Int)] 52)) := (Below.refl _ w4).alloc (Nat.le_refl _) _
     have hrow : ∀ g, (Value.slice A n c).ownBlock = some g → w.heap.size ≤ g := row_ge HO4.out
     have hI9 : Inv w9 σ3 := HE.out.on _ _ _ (HE.out.on _ _ _ HI4.out (Turn.of hba)) (Turn.grown HG9.out fun g hg => .inl (Nat.le_trans HB.out (hrow g hg)))
     have hT9 : Turn F w w9 := ((HT.out.trans_ HT4.out).trans_ (Turn.of hba)).late_row HG9.out hrow
     have hO9 : OwnI w9 w.heap.size A9 c9 (acc ++ [jt]) := by
       have q := HO9.out
       unfold OwnI
       rw [itmsC_snoc, HCj.out, show (acc ++ [jt]).length = n + 1 by simp [Hn.out]]
       exact q
     have hl9 : n + 1 = (acc ++ [jt]).length := by simp [Hn.out]
     go_roundw
     case rel => exact ⟨A9, n + 1, c9, f, acc ++ [jt], σ3, rfl, hl9, hnL', Lib.hid hO9, Lib.hid hI9, Hf', HM1', HM2', Lib.hid hT9⟩
     case measure => show L.length - (n + 1) < L.length - n; omega
set_option maxHeartbeats 4000000 in
theorem list_P {S : Type} {Inv : World → S → Prop} {F : Nat → Prop} {B b bp bd : Nat} {el : S → Itm × S} {tk : S → Bool × S} {ex : S → S} {len : S → Nat} (E : LEnv S Inv F B b el tk ex len)
   (EL : ∀ W σ, Inv W σ → Calls Tryz.prog 113 #[.pointer (some ⟨bp, 0, none⟩), .pointer (some ⟨bd, 0, none⟩)] W fun en W' => en = .returned (itmV (el σ).1) ∧ Inv W' (el σ).2 ∧ Turn F W W')
   {w : World} (hB : B ≤ w.heap.size) {σ : S} (h : Inv w σ) : Calls Tryz.prog 108 #[.pointer (some ⟨b, 0, none⟩), .func (.func 113) #[] #[.pointer (some ⟨bp, 0, none⟩), .pointer (some ⟨bd, 0, none⟩)]] w (ListOut Inv F w (pList el tk ex len σ)) := by
 unfold ListOut
 obtain ⟨i0, hi, hz0, hz1, hz2⟩ := info_parts info52
 obtain ⟨it, hit⟩ : ∃ i, (el σ).1 = i := ⟨_, rfl⟩
 obtain ⟨σ1, h1⟩ : ∃ i, (el σ).2 = i := ⟨_, rfl⟩
 obtain ⟨r, hr⟩ : ∃ r, r = pMore el tk (len σ1 + 1) σ1 := ⟨_, rfl⟩
 have hres : pList el tk ex len σ = (it :: r.1, ex r.2) := by unfold pList; rw [h1, hit, hr]
 rw [hres]
 dsimp only
 have hrl : (it :: r.1).length ≤ 8589934593 := by
   have a1 := pMore_len el tk len E.less E.le (len σ1 + 1) σ1
   have a2 := E.bound w σ h
   have a3 := E.le σ
   rw [h1] at a3
   rw [← hr] at a1
   simp
   omega
 obtain ⟨L, hL⟩ : ∃ L, it :: r.1 = L := ⟨_, rfl⟩
 rw [hL] at hrl
 rw [hL]
 have EL1 := Lib.hid (EL w σ h)
 rw [hit, h1] at EL1
 unfold itmV at EL1
 obtain ⟨σ9, h9⟩ : ∃ s, ex r.2 = s := ⟨_, rfl⟩
 have CE := Lib.hid (fun (W : World) (h : Inv W r.2) => E.cE W r.2 h)
 rw [h9] at CE
 rw [h9]
 have HL := Lib.hid hL
 have HR := Lib.hid hr
 have HB := Lib.hid hB
 obtain ⟨y0, hy0⟩ : ∃ y, str it.tx = y := ⟨_, rfl⟩
 obtain ⟨y1, hy1⟩ : ∃ y, it.gl = y := ⟨_, rfl⟩
 obtain ⟨y2, hy2⟩ : ∃ y, str it.pl = y := ⟨_, rfl⟩
 obtain ⟨y3, hy3⟩ : ∃ y : Nat, it.ln = y := ⟨_, rfl⟩
 have HC := Lib.hid (show itmC it = [.string y0, .bool y1, .string y2, .int .i64 (y3 : Int)] by unfold itmC; rw [hy0, hy1, hy2, hy3])
 rw [hy0, hy1, hy2, hy3] at EL1
 have HE := Lib.hid E
 have HEL := Lib.hid EL
 clear hy0 hy1 hy2 hy3 h9 hL hres hr h1 hit h hB E EL
 go_enter Tryz.func108, Tryz.ntmps108
 go_upto_region 2 with (first
   | (go_at_call 113; ((with_reducible refine EL1.out.mono ?_); rintro en w1 ⟨rfl, hI1, hT1⟩))
   | (fail "arm"))
 obtain ⟨w2, hw2⟩ : ∃ w2, w1.alloc (.cells #[.string y0, .bool y1, .string y2, .int .i64 (y3 : Int)] 52) = w2 := ⟨_, rfl⟩
 have hO2 : OwnI w2 w.heap.size (some ⟨w1.heap.size, 0, none⟩) 1 [it] := by
   have := OwnI.one w1 w.heap.size hT1.size it
   rw [HC.out, hw2] at this
   exact this
 have hb2 : Below w1.heap.size w1 w2 := by rw [← hw2]; exact (Below.refl _ w1).alloc (Nat.le_refl _) _
 have hI2 : Inv w2 σ1 := HE.out.on w1 w2 σ1 hI1 (Turn.of hb2)
 have hT2 : Turn F w w2 := hT1.trans_ (Turn.of hb2)
 obtain ⟨g, hg⟩ : ∃ g, w1.heap.size = g := ⟨_, rfl⟩
 rw [hg] at hO2
 rw [hw2, hg]
 have HO2 := Lib.hid hO2
 have HI2 := Lib.hid hI2
 have HT2 := Lib.hid hT2
 clear hw2 hg hO2 hb2 hI2 hT2 hI1 hT1 EL1
 go_loopw [5] (fun v5 wr => ∃ (A : Option Addr) (n c f : Nat) (acc : List Itm) (σ' : S), v5 = .slice A n c ∧ n = acc.length ∧ n ≤ L.length ∧ Hid (OwnI wr w.heap.size A c acc) ∧ Hid (Inv wr σ') ∧ Hid (len σ' < f) ∧ Hid (acc ++ (pMore el tk f σ').1 = L) ∧ Hid ((pMore el tk f σ').2 = r.2) ∧ Hid (Turn F w wr)) (fun v5 _ => match v5 with | .slice _ n _ => L.length - n | _ => 0)
 case atStart => exact ⟨some ⟨g, 0, none⟩, 1, 1, len σ1 + 1, [it], σ1, rfl, rfl, by rw [← HL.out]; simp, HO2, HI2, Lib.hid (Nat.lt_succ_self _), Lib.hid (by rw [← HL.out, HR.out]; rfl), Lib.hid (by rw [HR.out]), HT2⟩
 case round =>
   obtain ⟨A, n, c, f, acc, σ', rfl, hn, hnL, HO, HI, Hf, HM1, HM2, HT⟩ := hrel
   obtain ⟨f, rfl⟩ : ∃ k, f = k + 1 := ⟨f - 1, by have := Hf.out; omega⟩
   have CT := Lib.hid (HE.out.cT wr σ' HI.out)
   obtain ⟨σ2, h2⟩ : ∃ s, (tk σ').2 = s := ⟨_, rfl⟩
   cases ht : (tk σ').1 with
   | false =>
     rw [ht, h2] at CT
     have m1 := HM1.out
     have m2 := HM2.out
     rw [pMore, if_neg (by rw [ht]; decide)] at m1 m2
     dsimp only at m1 m2
     rw [List.append_nil] at m1
     rw [h2] at m2
     subst m2
     have HA := Lib.hid m1
     have Hn := Lib.hid hn
     clear m1 ht h2 hn HM1 HM2
     go_wp2_with (first
       | (go_at_call 74; ((with_reducible refine CT.out.mono ?_); rintro en w3 ⟨rfl, hI3, hT3⟩))
       | (go_at_call 103; ((with_reducible refine (CE.out w3 hI3).mono ?_); rintro en w4 ⟨rfl, hI4, hT4⟩))
       | (fail "arm"))
     all_goals
       go_ret
       have e := Hn.out
       have a := HA.out
       subst a
       subst e
       exact ⟨A, c, rfl, own_turn (own_turn HO.out hT3 (fun g e => Nat.lt_of_lt_of_le (HE.out.lt g e) HB.out)) hT4 (fun g e => Nat.lt_of_lt_of_le (HE.out.lt g e) HB.out), hI4, (HT.out.trans_ hT3).trans_ hT4⟩
   | true =>
     rw [ht, h2] at CT
     have hlt := HE.out.less σ' ht
     have hle := HE.out.le σ2
     rw [h2] at hlt
     have m1 := HM1.out
     have m2 := HM2.out
     rw [pMore, if_pos ht] at m1 m2
     dsimp only at m1 m2
     rw [h2] at m1 m2
     have EL2 := Lib.hid (fun (W : World) (h : Inv W σ2) => HEL.out W σ2 h)
     obtain ⟨jt, hjt⟩ : ∃ i, (el σ2).1 = i := ⟨_, rfl⟩
     obtain ⟨σ3, h3⟩ : ∃ i, (el σ2).2 = i := ⟨_, rfl⟩
     rw [hjt, h3] at EL2
     rw [h3] at hle
     rw [hjt, h3] at m1
     rw [h3] at m2
     unfold itmV at EL2
     obtain ⟨z0, hz0'⟩ : ∃ y, str jt.tx = y := ⟨_, rfl⟩
     obtain ⟨z1, hz1'⟩ : ∃ y, jt.gl = y := ⟨_, rfl⟩
     obtain ⟨z2, hz2'⟩ : ∃ y, str jt.pl = y := ⟨_, rfl⟩
     obtain ⟨z3, hz3'⟩ : ∃ y : Nat, jt.ln = y := ⟨_, rfl⟩
     have HCj := Lib.hid (show itmC jt = [.string z0, .bool z1, .string z2, .int .i64 (z3 : Int)] by unfold itmC; rw [hz0', hz1', hz2', hz3'])
     rw [hz0', hz1', hz2', hz3'] at EL2
     have Hf' := Lib.hid (show len σ3 < f by have := Hf.out; omega)
     have HM1' := Lib.hid (show (acc ++ [jt]) ++ (pMore el tk f σ3).1 = L by rw [List.append_assoc]; exact m1)
     have HM2' := Lib.hid m2
     have hnL' : n + 1 ≤ L.length := by rw [← m1, hn]; simp
     have Hn := Lib.hid hn
     have HCN := Lib.hid (fun (W : World) (g : Nat) (hg : W.heap.size = g) => show ∀ j u, [Value.string z0, .bool z1, .string z2, .int .i64 (z3 : Int)][j]? = some u → (W.alloc (.cells #[.string z0, .bool z1, .string z2, .int .i64 (z3 : Int)] 52)).cell? ((⟨g, 0, none⟩ : Addr).add j) = some u from fun j u hj => by
       subst hg
       obtain ⟨ad, e, _, hc⟩ := ((Full.new W 52 [.string z0, .bool z1, .string z2, .int .i64 (z3 : Int)]).row 4 1 rfl 1 (Nat.le_refl _)).2.2.2 j u hj
       injection e with e
       subst e
       exact hc)
     have HC1 := Lib.hid (show ∀ u ∈ [Value.string z0, .bool z1, .string z2, .int .i64 (z3 : Int)], u.oneCell' = true from by
       intro u hu
       simp at hu
       rcases hu with rfl | rfl | rfl | rfl <;> rfl)
     have HOn := Lib.hid (show ∀ W, Turn F wr W → W.ownsRow w.heap.size 52 4 (.slice A n c) n (itmsC acc) from fun W hT => by
       have q := HO.out
       unfold OwnI at q
       rw [← Hn.out] at q
       exact own_turn q hT (fun g e => Nat.lt_of_lt_of_le (HE.out.lt g e) HB.out))
     clear m1 m2 hlt hle ht h2 hn hz0' hz1' hz2' hz3' hjt h3 HM1 HM2 Hf
     go_wp2_with (first
       | (go_at_call 74; ((with_reducible refine CT.out.mono ?_); rintro en w3 ⟨rfl, hI3, hT3⟩))
       | (go_at_call 113; ((with_reducible refine (EL2.out w3 hI3).mono ?_); rintro en w4 ⟨rfl, hI4, hT4⟩; (have hT34 := hT3.trans_ hT4); (have hs4 := (HT.out.trans_ hT34).size); (have HO4 := Lib.hid (HOn.out w4 hT34)); (have HI4 := Lib.hid hI4); (have HT4 := Lib.hid hT34); clear hI3 hT3 hI4 hT4 hT34))
       | (at_builtin; go_loud (refine wpList_append_own _ rfl _ _ 25 rfl w.heap.size 52 i0 (.agg #[.string ⟨#[]⟩, .bool false, .string ⟨#[]⟩, .int .i64 0]) 4 48 Tryz.underlying25 hi hz0 hz1 hz2 rfl (by decide) (.slice A n c) _ _ rfl (HO4.out.alloc _) ⟨w4.heap.size, 0, none⟩ 1 1 [.string z0, .bool z1, .string z2, .int .i64 (z3 : Int)] rfl rfl (HCN.out w4 w4.heap.size rfl) HC1.out (by unfold maxLen; omega) (by omega) (by simp; omega) ?_; intro v' w9 hown9 hgrow9 hnil9; (have HO9 := Lib.hid hown9); (have HG9 := Lib.hid hgrow9); clear hown9 hgrow9 hnil9))
       | (fail "arm"))
     obtain ⟨A9, c9, rfl⟩ := own_form HO9.out
     have hba : Below w4.heap.size w4 (w4.alloc (.cells #[.string z0, .bool z1, .string z2, .int .i64 (z3 : Int)] 52)) := (Below.refl _ w4).alloc (Nat.le_refl _) _
     have hrow : ∀ g, (Value.slice A n c).ownBlock = some g → w.heap.size ≤ g := row_ge HO4.out
     have hI9 : Inv w9 σ3 := HE.out.on _ _ _ (HE.out.on _ _ _ HI4.out (Turn.of hba)) (Turn.grown HG9.out fun g hg => .inl (Nat.le_trans HB.out (hrow g hg)))
     have hT9 : Turn F w w9 := ((HT.out.trans_ HT4.out).trans_ (Turn.of hba)).late_row HG9.out hrow
     have hO9 : OwnI w9 w.heap.size A9 c9 (acc ++ [jt]) := by
       have q := HO9.out
       unfold OwnI
       rw [itmsC_snoc, HCj.out, show (acc ++ [jt]).length = n + 1 by simp [Hn.out]]
       exact q
     have hl9 : n + 1 = (acc ++ [jt]).length := by simp [Hn.out]
     go_roundw
     case rel => exact ⟨A9, n + 1, c9, f, acc ++ [jt], σ3, rfl, hl9, hnL', Lib.hid hO9, Lib.hid hI9, Hf', HM1', HM2', Lib.hid hT9⟩
     case measure => show L.length - (n + 1) < L.length - n; omega
def plen : Pst → Nat
 | .ok ts => ts.length
 | .bad _ _ => 0
theorem toks_len : ∀ (f : Nat) (s : List UInt8) (n : Nat), (toksF f s n).length ≤ f
 | 0, s, n => by simp [toksF]
 | f + 1, s, n => by
   rw [toksF]
   split
   · simp
   · have := toks_len f (next s n).2.1 (next s n).2.2
     simp
     exact this
theorem PS.plen_le {w : World} {b : Nat} {σ : Pst} {R : List Value} (h : PS w b σ R) : plen σ ≤ 4294967002 := by
 obtain ⟨s, n, c, tx, tl, e, el, _, hs, hC⟩ := h
 cases σ with
 | bad e' l' => simp [plen]
 | ok ts =>
   obtain ⟨_, t, _, _, _, _, hts⟩ := hC
   have := toks_len (s.data.toList.length + 1) s.data.toList n
   rw [data_len] at this
   unfold plen
   dsimp only
   rw [hts]
   split
   · simp
   · show (t :: toksF (s.data.toList.length + 1) s.data.toList n).length ≤ _
     rw [data_len] 
     simp only [List.length_cons]
     omega
theorem pTake_less (x : List UInt8) (σ : Pst) (h : (pTake x σ).1 = true) : plen (pTake x σ).2 < plen σ := by
 cases σ with
 | bad e l => simp [pTake] at h
 | ok ts =>
   cases ts with
   | nil => simp [pTake] at h
   | cons t r =>
     rw [show pTake x (.ok (t :: r)) = if t.txt = x then (true, .ok r) else (false, .ok (t :: r)) from rfl] at h ⊢
     by_cases e : t.txt = x
     · rw [if_pos e]; simp [plen]
     · rw [if_neg e] at h; cases h
theorem pTake_le (x : List UInt8) (σ : Pst) : plen (pTake x σ).2 ≤ plen σ := by
 cases σ with
 | bad e l => simp [pTake]
 | ok ts =>
   cases ts with
   | nil => simp [pTake]
   | cons t r =>
     rw [show pTake x (.ok (t :: r)) = if t.txt = x then (true, .ok r) else (false, .ok (t :: r)) from rfl]
     by_cases e : t.txt = x
     · rw [if_pos e]; simp [plen]
     · rw [if_neg e]; simp [plen]
theorem pRefuse_le (σ : Pst) : plen (pRefuse σ) ≤ plen σ := by
 cases σ with
 | bad e l => simp [pRefuse]
 | ok ts => cases ts <;> simp [pRefuse, plen]
theorem pFail_le (l c : Int) (σ : Pst) : plen (pFail l c σ) ≤ plen σ := by cases σ <;> simp [pFail, plen]
theorem pExpect_le (x : List UInt8) (σ : Pst) : plen (pExpect x σ) ≤ plen σ := by
 unfold pExpect
 have := pTake_le x σ
 split
 · exact this
 · exact Nat.le_trans (pRefuse_le _) this
theorem pAny_le (k : Nat) (σ : Pst) : plen (pAny k σ).2 ≤ plen σ := by
 cases σ with
 | bad e l => simp [pAny]
 | ok ts =>
   cases ts with
   | nil => simp [pAny, plen]
   | cons t r =>
     rw [show pAny k (.ok (t :: r)) = if t.cls = k then (t, .ok r) else (tok0, .bad 40 (t.ln : Int)) from rfl]
     by_cases e : t.cls = k
     · rw [if_pos e]; simp [plen]
     · rw [if_neg e]; simp [plen]
theorem pText_le (σ : Pst) : plen (pText σ).2 ≤ plen σ := pAny_le 4 σ
theorem pSource_le (σ : Pst) : plen (pSource σ).2 ≤ plen σ := by
 unfold pSource
 have h1 := pTake_le globS σ
 split
 · exact Nat.le_trans (pExpect_le _ _) (Nat.le_trans (pText_le _) (Nat.le_trans (pExpect_le _ _) h1))
 · exact Nat.le_trans (pText_le _) h1
theorem env_ps {b B : Nat} (hb : b < B) (R : List Value) (el : Pst → Itm × Pst) (hel : ∀ σ, plen (el σ).2 ≤ plen σ) :
   LEnv Pst (fun W σ => PS W b σ R) (fun g => g = b) B b el (pTake [44]) (pExpect [59]) plen where
 lt := fun g e => by omega
 on := fun W W' σ h ht => h.farT ht (by omega)
 cT := fun W σ h => take_any h [44] (by decide)
 cE := fun W σ h => expect_any h [59] (by decide)
 bound := fun W σ h => by have := h.plen_le; omega
 less := fun σ h => pTake_less [44] σ h
 le := hel
def pTexts (σ : Pst) : List Itm × Pst := pList pText (pTake [44]) (pExpect [59]) plen σ
def pSources (σ : Pst) : List Itm × Pst := pList pSource (pTake [44]) (pExpect [59]) plen σ
theorem texts_any {w : World} {b : Nat} {σ : Pst} {R : List Value} (h : PS w b σ R) : Calls Tryz.prog 108 #[.pointer (some ⟨b, 0, none⟩), .func (.func 107) #[.pointer (some ⟨b, 0, none⟩)] #[]] w (ListOut (fun W σ => PS W b σ R) (fun g => g = b) w (pTexts σ)) :=
 list_T (env_ps h.lt R pText pText_le) (fun _W _σ h => text_any h) (Nat.le_refl _) h
theorem sources_any {w : World} {b : Nat} {σ : Pst} {R : List Value} (h : PS w b σ R) : Calls Tryz.prog 108 #[.pointer (some ⟨b, 0, none⟩), .func (.func 106) #[.pointer (some ⟨b, 0, none⟩)] #[]] w (ListOut (fun W σ => PS W b σ R) (fun g => g = b) w (pSources σ)) :=
 list_S (env_ps h.lt R pSource pSource_le) (fun _W _σ h => source_any h) (Nat.le_refl _) h
theorem adv_any {w : World} {b : Nat} {t : Tok} {r : List Tok} {R : List Value} (h : PS w b (.ok (t :: r)) R) (ht : 2 ≤ t.cls) : Calls Tryz.prog 112 #[.pointer (some ⟨b, 0, none⟩)] w fun en w' => en = .returned (tokV t) ∧ PS w' b (.ok r) R ∧ Turn (fun g => g = b) w w' := by
 obtain ⟨s, n, c, tx, tl, e, el, hP, hs, hC⟩ := h
 obtain ⟨t', r', hts, hc, htx, htl, hok, hr, he⟩ := ok_cons hC
 injection hts with h1 h2
 subst h1 h2
 subst he
 refine (advance_pm hP hs.1 hs.2.1 (by omega)).mono ?_
 rintro en w' ⟨he, hP', hT⟩
 refine ⟨?_, ?_, hT⟩
 · rw [he, hc, htx, htl]; rfl
 · rw [hr ht]
   exact ps_next hs hP'
theorem own_base {w : World} {base base' size n : Nat} {e : TypeId} {v : Value} {xs : List Value} (h : w.ownsRow base e size v n xs) (hb : base' ≤ base) : w.ownsRow base' e size v n xs := by
 refine ⟨h.1, h.2.imp id ?_⟩
 rintro ⟨g, cap, cur, e1, h1, h2⟩
 exact ⟨g, cap, cur, e1, Nat.le_trans hb h1, h2⟩
def setPl (p : List UInt8) (i : Itm) : Itm := { i with pl := p }
theorem itmC_len (i : Itm) : (itmC i).length = 4 := rfl
theorem itmsC_set (p : List UInt8) : ∀ (l : List Itm) (k : Nat) (h : k < l.length), (itmsC l).set (k * 4 + 2) (.string (str p)) = itmsC (l.set k (setPl p l[k]))
 | [], k, h => by simp at h
 | x :: t, 0, _ => rfl
 | x :: t, k + 1, h => by
   have ih := itmsC_set p t k (by simpa using h)
   show ((itmC x ++ itmsC t).set ((k + 1) * 4 + 2) _) = itmC x ++ itmsC (t.set k (setPl p (t[k]'(by simpa using h))))
   rw [← ih, List.set_append_right _ _ (by rw [itmC_len]; omega), itmC_len]
   congr 2
   omega
def part (p : List UInt8) (l : List Itm) (k : Nat) : List Itm := (l.take k).map (setPl p) ++ l.drop k
theorem part_len (p : List UInt8) (l : List Itm) (k : Nat) (h : k ≤ l.length) : (part p l k).length = l.length := by unfold part; simp; omega
theorem part_zero (p : List UInt8) (l : List Itm) : part p l 0 = l := by simp [part]
theorem part_all (p : List UInt8) (l : List Itm) : part p l l.length = l.map (setPl p) := by simp [part]
theorem part_succ (p : List UInt8) (l : List Itm) (k : Nat) (h : k < l.length) : (part p l k).set k (setPl p ((part p l k)[k]'(by rw [part_len p l k (by omega)]; exact h))) = part p l (k + 1) := by
 apply List.ext_getElem
 · rw [List.length_set, part_len p l k (by omega), part_len p l (k + 1) (by omega)]
 · intro i h1 h2
   rw [List.getElem_set]
   have hi : i < l.length := by rw [List.length_set, part_len p l k (by omega)] at h1; exact h1
   have at_ : ∀ (m : Nat) (hm : m ≤ l.length) (hx : i < (part p l m).length), (part p l m)[i] = if i < m then setPl p l[i] else l[i] := by
     intro m hm hx
     simp only [part]
     rw [List.getElem_append]
     split
     · rename_i hh
       simp at hh
       rw [if_pos (by omega)]
       simp
     · rename_i hh
       simp at hh
       rw [if_neg (by omega)]
       simp [Nat.min_eq_left hm]
       congr 1
       omega
   rw [at_ (k + 1) (by omega)]
   by_cases e : k = i
   · subst e
     rw [if_pos rfl, if_pos (by omega)]
     congr 1
     have := at_ k (by omega) (by rw [part_len p l k (by omega)]; exact h)
     rw [this, if_neg (by omega)]
   · rw [if_neg e, at_ k (by omega)]
     by_cases q : i < k
     · rw [if_pos q, if_pos (by omega)]
     · rw [if_neg q, if_neg (by omega)]
def pPlat : Pst → List UInt8 × Pst
 | .ok (t :: r) => if pAheadP (.ok (t :: r)) then (t.txt, .ok r) else ([], .ok (t :: r))
 | σ => ([], σ)
def pLimited (ls : Pst → List Itm × Pst) (σ : Pst) : List Itm × Pst := ((ls (pPlat σ).2).1.map (setPl (pPlat σ).1), (ls (pPlat σ).2).2)
set_option maxHeartbeats 4000000 in
theorem limited_any {w : World} {b : Nat} {σ : Pst} {R : List Value} (h : PS w b σ R) (V : Value) (ls : Pst → List Itm × Pst) (hls : (ls (pPlat σ).2).1.length ≤ 17179869184)
   (LS : ∀ W σ, PS W b σ R → Calls Tryz.prog 108 #[.pointer (some ⟨b, 0, none⟩), V] W (ListOut (fun W σ => PS W b σ R) (fun g => g = b) W (ls σ))) :
   Calls Tryz.prog 105 #[.pointer (some ⟨b, 0, none⟩), V] w (ListOut (fun W σ => PS W b σ R) (fun g => g = b) w (pLimited ls σ)) := by
 unfold ListOut pLimited
 have hl := hls
 obtain ⟨p, hp⟩ : ∃ p, (pPlat σ).1 = p := ⟨_, rfl⟩
 obtain ⟨σ1, h1⟩ : ∃ p, (pPlat σ).2 = p := ⟨_, rfl⟩
 rw [h1] at hl
 have LS1 := Lib.hid (fun (W : World) (h : PS W b σ1 R) => LS W σ1 h)
 unfold ListOut at LS1
 rw [hp, h1]
 obtain ⟨l, hl1⟩ : ∃ l, (ls σ1).1 = l := ⟨_, rfl⟩
 obtain ⟨σ2, h2⟩ : ∃ l, (ls σ1).2 = l := ⟨_, rfl⟩
 rw [hl1, h2] at LS1
 rw [hl1] at hl
 rw [hl1, h2]
 dsimp only
 rw [List.length_map]
 obtain ⟨n, hn⟩ : ∃ n, l.length = n := ⟨_, rfl⟩
 rw [hn] at LS1 hl
 rw [hn]
 obtain ⟨x, hx⟩ : ∃ x, str p = x := ⟨_, rfl⟩
 have AH := Lib.hid (ahead_any h)
 obtain ⟨a, ha⟩ : ∃ a, pAheadP σ = a := ⟨_, rfl⟩
 rw [ha] at AH
 have HPS := Lib.hid h
 have Hn := Lib.hid hn
 have Hx := Lib.hid hx
 -- behind the platform
 have REST : ∀ (W : World), PS W b σ1 R → Turn (fun g => g = b) w W → True := fun _ _ _ => trivial
 clear REST
 have AD := Lib.hid (show a = true → ∃ (c l : Nat), Calls Tryz.prog 112 #[.pointer (some ⟨b, 0, none⟩)] w fun en w' => en = .returned (.agg #[.int .i64 (c : Int), .string x, .int .i64 (l : Int)]) ∧ PS w' b σ1 R ∧ Turn (fun g => g = b) w w' from fun hat => by
   rw [hat] at ha
   cases σ with
   | bad e l => simp [pAheadP] at ha
   | ok ts =>
     cases ts with
     | nil => simp [pAheadP] at ha
     | cons t r =>
       have e1 : pPlat (.ok (t :: r)) = (t.txt, .ok r) := by show (if _ then _ else _) = _; rw [if_pos ha]
       rw [e1] at hp h1
       have ht : t.cls = 2 := by
         unfold pAheadP at ha
         simp at ha
         exact ha.1
       refine ⟨t.cls, t.ln, ?_⟩
       rw [← hx, ← hp, ← h1]
       exact adv_any h (by omega))
 have NO := Lib.hid (show a = false → p = [] ∧ σ1 = σ from fun haf => by
   rw [haf] at ha
   cases σ with
   | bad e l => exact ⟨hp.symm, h1.symm⟩
   | ok ts =>
     cases ts with
     | nil => exact ⟨hp.symm, h1.symm⟩
     | cons t r =>
       have e1 : pPlat (.ok (t :: r)) = ([], .ok (t :: r)) := by show (if _ then _ else _) = _; rw [if_neg (by rw [ha]; decide)]
       rw [e1] at hp h1
       exact ⟨hp.symm, h1.symm⟩)
 clear hp h1 hl1 h2 hls LS ha h
 cases a with
 | true =>
   obtain ⟨c0, l0, AE⟩ := AD.out rfl
   have AE := Lib.hid AE
   clear AD NO
   have FD : ∀ W, (Instr.field 91 (.agg #[.int .i64 (c0 : Int), .string x, .int .i64 (l0 : Int)]) 1).run Tryz.prog W = .ok (.string x) W := fun W => by kernel_rfl
   have FD := Lib.hid FD
   clear hx hn
   go_enter Tryz.func105, Tryz.ntmps105
   go_upto_region 6 with (first
     | (go_at_call 114; ((with_reducible refine AH.out.mono ?_); rintro en w1 ⟨rfl, rfl⟩))
     | (go_at_call 112; ((with_reducible refine AE.out.mono ?_); rintro en w2 ⟨rfl, hP2, hT2⟩; (have hfd := FD.out w2)))
     | (go_at_call 108; ((with_reducible refine (LS1.out w2 hP2).mono ?_); rintro en w3 ⟨A, c, rfl, hO3, hP3, hT3⟩))
     | (fail "arm"))
   have hO0 : w3.ownsRow w1.heap.size 52 4 (.slice A n c) n (itmsC (part p l 0)) := by
     have q := own_base hO3 hT2.size
     rw [Hn.out] at q
     rw [part_zero]
     exact q
   have HO0 := Lib.hid hO0
   have HP3 := Lib.hid hP3
   have HT3 := Lib.hid (hT2.trans_ hT3)
   clear hO0 hO3 hP3 hT3 hP2 hT2
   have hbw : b < w1.heap.size := HPS.out.lt
   go_loopw [7, 18] (fun v7 v18 wr => ∃ (k : Nat), v18 = .int .i64 (k : Int) ∧ k ≤ n ∧ Hid (wr.ownsRow w1.heap.size 52 4 (.slice A n c) n (itmsC (part p l k))) ∧ Hid (PS wr b σ2 R) ∧ Hid (Turn (fun g => g = b) w1 wr)) (fun v7 v18 _ => match v18 with | .int _ k => n - k.toNat | _ => 0)
   case atStart => exact ⟨0, rfl, Nat.zero_le _, HO0, HP3, HT3⟩
   case round =>
     obtain ⟨k, rfl, hk, HO, HP, HT⟩ := hrel
     by_cases hkn : k < n
     · have hd : decide ((k : Int) < (n : Int)) = true := by simp; omega
       have hg0 := own_some HO.out (by omega)
       obtain ⟨g, c', hv, hgl, hnc, hcm⟩ := hg0
       injection hv with e1 _ e3
       subst e1
       subst e3
       obtain ⟨z1, z2⟩ := own_cell (q := k * 4 + 2) HO.out (by omega)
       have hx2 : ∃ u, (itmsC (part p l k))[k * 4 + 2]? = some u := by
         have hlen : (itmsC (part p l k)).length = n * 4 := by
           have := HO.out.1
           exact this
         exact ⟨_, List.getElem?_eq_getElem (by omega)⟩
       obtain ⟨u, hu⟩ := hx2
       rw [hu] at z1
       have hgb : g ≠ b := by
         have := row_ge HO.out g rfl
         omega
       have hT2 : Turn (fun g => g = b) w1 (wr.setCell ⟨g, k * 4 + 2, none⟩ (.string x)) := by
         have hgw := row_ge HO.out g rfl
         exact HT.out.late (Turn.set_ (F := fun y => y = g) (a := ⟨g, k * 4 + 2, none⟩) rfl _) (fun y e => .inr (by omega))
       have hP2 : PS (wr.setCell ⟨g, k * 4 + 2, none⟩ (.string x)) b σ2 R := HP.out.far (Ne.symm hgb) _
       have hO2 : (wr.setCell ⟨g, k * 4 + 2, none⟩ (.string x)).ownsRow w1.heap.size 52 4 (.slice (some ⟨g, 0, none⟩) n c) n (itmsC (part p l (k + 1))) := by
         have q := own_set HO.out (k * 4 + 2) (.string x)
         rw [← Hx.out] at q ⊢
         rw [itmsC_set p _ k (by rw [part_len p l k (by have := Hn.out; omega)]; have := Hn.out; omega), part_succ p l k (by have := Hn.out; omega)] at q
         exact q
       have HO2 := Lib.hid hO2
       have HP2 := Lib.hid hP2
       have HT2 := Lib.hid hT2
       clear hO2 hP2 hT2 hu hgb hbw
       go_wp2
       go_roundw
       case rel => exact ⟨k + 1, by simp, hkn, HO2, HP2, HT2⟩
       case measure => show n - ((k : Int) + 1).toNat < n - (k : Int).toNat; omega
     · obtain rfl : k = n := by omega
       have hd : decide ((k : Int) < (k : Int)) = false := by simp
       have HF := Lib.hid (show OwnI wr w1.heap.size A c (l.map (setPl p)) from by
         have q := HO.out
         have e := Hn.out
         unfold OwnI
         rw [← e, part_all] at q
         rw [List.length_map, e]
         rw [← e]
         exact q)
       go_wp2
       go_ret
       exact ⟨A, c, rfl, HF.out, HP.out, HT.out⟩
 | false =>
   obtain ⟨rfl, rfl⟩ := NO.out rfl
   obtain rfl : x = ⟨#[]⟩ := by rw [← hx]; rfl
   clear hx hn
   go_enter Tryz.func105, Tryz.ntmps105
   go_upto_region 6 with (first
     | (go_at_call 114; ((with_reducible refine AH.out.mono ?_); rintro en w1 ⟨rfl, rfl⟩))
     | (go_at_call 108; ((with_reducible refine (LS1.out w1 HPS.out).mono ?_); rintro en w3 ⟨A, c, rfl, hO3, hP3, hT3⟩))
     | (fail "arm"))
   have hO0 : w3.ownsRow w1.heap.size 52 4 (.slice A n c) n (itmsC (part [] l 0)) := by
     have q := hO3
     unfold OwnI at q
     rw [Hn.out] at q
     rw [part_zero]
     exact q
   have HO0 := Lib.hid hO0
   have HP3 := Lib.hid hP3
   have HT3 := Lib.hid hT3
   clear hO0 hO3 hP3 hT3
   have hbw : b < w1.heap.size := HPS.out.lt
   go_loopw [7, 18] (fun v7 v18 wr => ∃ (k : Nat), v18 = .int .i64 (k : Int) ∧ k ≤ n ∧ Hid (wr.ownsRow w1.heap.size 52 4 (.slice A n c) n (itmsC (part [] l k))) ∧ Hid (PS wr b σ2 R) ∧ Hid (Turn (fun g => g = b) w1 wr)) (fun v7 v18 _ => match v18 with | .int _ k => n - k.toNat | _ => 0)
   case atStart => exact ⟨0, rfl, Nat.zero_le _, HO0, HP3, HT3⟩
   case round =>
     obtain ⟨k, rfl, hk, HO, HP, HT⟩ := hrel
     by_cases hkn : k < n
     · have hd : decide ((k : Int) < (n : Int)) = true := by simp; omega
       have hg0 := own_some HO.out (by omega)
       obtain ⟨g, c', hv, hgl, hnc, hcm⟩ := hg0
       injection hv with e1 _ e3
       subst e1
       subst e3
       obtain ⟨z1, z2⟩ := own_cell (q := k * 4 + 2) HO.out (by omega)
       have hx2 : ∃ u, (itmsC (part [] l k))[k * 4 + 2]? = some u := by
         have hlen : (itmsC (part [] l k)).length = n * 4 := by
           have := HO.out.1
           exact this
         exact ⟨_, List.getElem?_eq_getElem (by omega)⟩
       obtain ⟨u, hu⟩ := hx2
       rw [hu] at z1
       have hgb : g ≠ b := by
         have := row_ge HO.out g rfl
         omega
       have hT2 : Turn (fun g => g = b) w1 (wr.setCell ⟨g, k * 4 + 2, none⟩ (.string ⟨#[]⟩)) := by
         have hgw := row_ge HO.out g rfl
         exact HT.out.late (Turn.set_ (F := fun y => y = g) (a := ⟨g, k * 4 + 2, none⟩) rfl _) (fun y e => .inr (by omega))
       have hP2 : PS (wr.setCell ⟨g, k * 4 + 2, none⟩ (.string ⟨#[]⟩)) b σ2 R := HP.out.far (Ne.symm hgb) _
       have hO2 : (wr.setCell ⟨g, k * 4 + 2, none⟩ (.string ⟨#[]⟩)).ownsRow w1.heap.size 52 4 (.slice (some ⟨g, 0, none⟩) n c) n (itmsC (part [] l (k + 1))) := by
         have q := own_set HO.out (k * 4 + 2) (.string ⟨#[]⟩)
         rw [show (⟨#[]⟩ : ByteArray) = str [] from rfl] at q ⊢
         rw [itmsC_set [] _ k (by rw [part_len [] l k (by have := Hn.out; omega)]; have := Hn.out; omega), part_succ [] l k (by have := Hn.out; omega)] at q
         exact q
       have HO2 := Lib.hid hO2
       have HP2 := Lib.hid hP2
       have HT2 := Lib.hid hT2
       clear hO2 hP2 hT2 hu hgb hbw
       go_wp2
       go_roundw
       case rel => exact ⟨k + 1, by simp, hkn, HO2, HP2, HT2⟩
       case measure => show n - ((k : Int) + 1).toNat < n - (k : Int).toNat; omega
     · obtain rfl : k = n := by omega
       have hd : decide ((k : Int) < (k : Int)) = false := by simp
       have HF := Lib.hid (show OwnI wr w1.heap.size A c (l.map (setPl [])) from by
         have q := HO.out
         have e := Hn.out
         unfold OwnI
         rw [← e, part_all] at q
         rw [List.length_map, e]
         rw [← e]
         exact q)
       go_wp2
       go_ret
       exact ⟨A, c, rfl, HF.out, HP.out, HT.out⟩
structure Tgt where
 name : List UInt8
 kind : Int
 line : Nat
 rows : Nat → List Itm
 cost : Int
 retry : Int
 rl : Nat
 had : Kn
def tR (a m h : Nat) (T : Tgt) (vs : Nat → Value) : List Value :=
 [.map (some a), .map (some m), .string (str T.name), .int .i64 T.kind, .int .i64 (T.line : Int), vs 0, vs 1, vs 2, vs 3, .int .i64 T.cost, .int .i64 T.retry, .map (some h), .int .i64 (T.rl : Int)]
structure Rows4 (w : World) (base : Nat) (ls : Nat → List Itm) (vs : Nat → Value) : Prop where
 own : ∀ i, i < 4 → w.ownsRow base 52 4 (vs i) (ls i).length (itmsC (ls i))
 apart : ∀ i j, i < 4 → j < 4 → i ≠ j → ∀ g, (vs i).ownBlock = some g → (vs j).ownBlock ≠ some g
theorem Rows4.turn {F : Nat → Prop} {w w' : World} {base : Nat} {ls : Nat → List Itm} {vs : Nat → Value} (h : Rows4 w base ls vs) (ht : Turn F w w') (hF : ∀ g, F g → g < base) : Rows4 w' base ls vs :=
 ⟨fun i hi => own_turn (h.own i hi) ht hF, h.apart⟩
theorem own_far {w w' : World} {base : Nat} {e : TypeId} {size n : Nat} {v : Value} {xs : List Value} {row : Option Nat} (h : w.ownsRow base e size v n xs) (hg : w.grownBy w' row) (hr : ∀ g, v.ownBlock = some g → row ≠ some g) : w'.ownsRow base e size v n xs := by
 obtain ⟨h1, h2⟩ := h
 refine ⟨h1, h2.imp id ?_⟩
 rintro ⟨g, cap, cur, rfl, hb, hg', r⟩
 exact ⟨g, cap, cur, rfl, hb, (hg.block g (Array.getElem?_eq_some_iff.1 hg').1 (fun e => hr g rfl e.symm)).trans hg', r⟩
def upd {α : Type} (f : Nat → α) (i : Nat) (x : α) : Nat → α := fun j => if j = i then x else f j
theorem Rows4.grow {w w' : World} {base : Nat} {ls : Nat → List Itm} {vs : Nat → Value} (h : Rows4 w base ls vs) (i : Nat) (hi : i < 4) {v' : Value} {l' : List Itm} (ho : w'.ownsRow base 52 4 v' l'.length (itmsC l')) (hg : w.grownBy w' (vs i).ownBlock)
   (hat : ∀ g, v'.ownBlock = some g → (vs i).ownBlock = some g ∨ w.heap.size ≤ g) : Rows4 w' base (upd ls i l') (upd vs i v') := by
 have hlt : ∀ j, j < 4 → ∀ g, (vs j).ownBlock = some g → g < w.heap.size := fun j hj g e => ((h.own j hj).lt g e).2
 refine ⟨fun j hj => ?_, fun j k hj hk hne g => ?_⟩
 · unfold upd
   by_cases e : j = i
   · rw [if_pos e, if_pos e]; exact ho
   · rw [if_neg e, if_neg e]
     exact own_far (h.own j hj) hg (fun g e' => h.apart j i hj hi e g e')
 · unfold upd
   by_cases e : j = i
   · rw [if_pos e, if_neg (fun e' => hne (e.trans e'.symm))]
     intro q q'
     rcases hat g q with q2 | q2
     · exact h.apart i k hi hk (fun e' => hne (e.trans e')) g q2 q'
     · exact absurd (hlt k hk g q') (by omega)
   · rw [if_neg e]
     by_cases e2 : k = i
     · rw [if_pos e2]
       intro q q'
       rcases hat g q' with q2 | q2
       · exact h.apart j i hj hi e g q q2
       · exact absurd (hlt j hj g q) (by omega)
     · rw [if_neg e2]
       exact h.apart j k hj hk hne g
def XL : Nat := 8589934592
structure TS (w : World) (b a m h base k : Nat) (σ : Pst) (T : Tgt) : Prop where
 ps : ∃ vs, PS w b σ (tR a m h T vs) ∧ Rows4 w base T.rows vs
 had : ∃ n, Names w h n T.had ∧ n + k + plen σ ≤ XL
 lens : ∀ i, i < 4 → (T.rows i).length + k + plen σ ≤ XL
 bb : b < base
 hb : h < base
 ne : h ≠ b
 sz : base ≤ w.heap.size
def FT (b h base : Nat) : Nat → Prop := fun g => g = b ∨ g = h ∨ base ≤ g
theorem Turn.ftb {w w' : World} {b h base : Nat} (t : Turn (fun g => g = b) w w') : Turn (FT b h base) w w' := t.mono fun _ e => .inl e
theorem Turn.fto {w w' : World} {b h base : Nat} (t : Turn (fun g => g = b ∨ g = h) w w') : Turn (FT b h base) w w' := t.mono fun _ e => e.imp id .inl
def TOut (w : World) (b a m h base k : Nat) (r : Pst × Tgt) (en : Ending) (w' : World) : Prop := en = .returned (.tuple #[]) ∧ TS w' b a m h base k r.1 r.2 ∧ Turn (FT b h base) w w'
def pHad (t : Tok) (r : Pst × Tgt) : Pst × Tgt := (pOnce r.2.had t r.1, { r.2 with had := kPut r.2.had t.txt })
theorem pOnce_le (K : Kn) (t : Tok) (σ : Pst) : plen (pOnce K t σ) ≤ plen σ := by
 unfold pOnce
 split
 · exact pFail_le _ _ _
 · exact Nat.le_refl _
theorem ts_cell {w : World} {b : Nat} {σ : Pst} {R : List Value} (h : PS w b σ R) (i : Nat) : w.cell? ⟨b, 7 + i, none⟩ = R[i]? ∧ w.frozen? ⟨b, 7 + i, none⟩ = false := by
 obtain ⟨s, n, c, tx, tl, e, el, hP, _⟩ := h
 refine ⟨?_, Full.frozen hP _⟩
 rw [Full.cell hP (7 + i), Nat.add_comm 7 i]
 rfl
theorem ps_set {w : World} {b : Nat} {σ : Pst} {R : List Value} (h : PS w b σ R) (i : Nat) (u : Value) : PS (w.setCell ⟨b, 7 + i, none⟩ u) b σ (R.set i u) := by
 obtain ⟨s, n, c, tx, tl, e, el, hP, r⟩ := h
 refine ⟨s, n, c, tx, tl, e, el, ?_, r⟩
 have q := Full.set_ hP (7 + i) u
 unfold Pm
 rw [Nat.add_comm 7 i] at q
 rw [Nat.add_comm 7 i]
 exact q
theorem had_any {w : World} {b a m h base k : Nat} {σ : Pst} {T : Tgt} (S : TS w b a m h base (k + 1) σ T) (t : Tok) (ht : t.txt.length ≤ 4294967000) :
   Calls Tryz.prog 102 #[.pointer (some ⟨b, 0, none⟩), .map (some h), tokV t] w (TOut w b a m h base k (pHad t (σ, T))) := by
 obtain ⟨⟨vs, hP, hR⟩, ⟨n, hN, hn⟩, hlen, hbb, hhb, hne, hsz⟩ := S
 refine (once_any hP hN hne (by unfold XL at hn; unfold maxLen; omega) t ht).mono ?_
 rintro en w' ⟨he, hP', hN', hT⟩
 refine ⟨he, ⟨⟨vs, hP', hR.turn hT (fun g e => by rcases e with rfl | rfl <;> assumption)⟩, ⟨n + 1, hN', ?_⟩, fun i hi => (by have := hlen i hi; have := pOnce_le T.had t σ; show (T.rows i).length + k + plen (pOnce T.had t σ) ≤ XL; omega), hbb, hhb, hne, Nat.le_trans hsz hT.size⟩, hT.fto⟩
 have := pOnce_le T.had t σ
 show n + 1 + k + plen (pOnce T.had t σ) ≤ XL
 omega
theorem TS.step {w w' : World} {b a m h base k : Nat} {σ σ' : Pst} {T : Tgt} (S : TS w b a m h base k σ T) (hT : Turn (fun g => g = b) w w') (hp : ∀ vs, PS w b σ (tR a m h T vs) → PS w' b σ' (tR a m h T vs)) (hl : plen σ' ≤ plen σ) : TS w' b a m h base k σ' T := by
 obtain ⟨⟨vs, hP, hR⟩, ⟨n, hN, hn⟩, hlen, hbb, hhb, hne, hsz⟩ := S
 exact ⟨⟨vs, hp vs hP, hR.turn hT (fun g e => by rw [e]; exact hbb)⟩, ⟨n, hN.far hT (fun e => hne e), by omega⟩, fun i hi => (by have := hlen i hi; omega), hbb, hhb, hne, Nat.le_trans hsz hT.size⟩
theorem TS.drew {w : World} {b a m h base k : Nat} {σ : Pst} {T : Tgt} (S : TS w b a m h base k σ T) : TS w.drew b a m h base k σ T :=
 ⟨S.ps.imp fun _vs q => ⟨q.1, ⟨q.2.own, q.2.apart⟩⟩, S.had, S.lens, S.bb, S.hb, S.ne, S.sz⟩
theorem TS.on {w w' : World} {b a m h base k : Nat} {σ : Pst} {T : Tgt} (S : TS w b a m h base k σ T) (hb : Below w.heap.size w w') : TS w' b a m h base k σ T :=
 S.step (Turn.of hb) (fun _vs q => q.on hb) (Nat.le_refl _)
theorem pNum_le (lo hi : Int) (σ : Pst) : plen (pNum lo hi σ).2 ≤ plen σ := by
 unfold pNum
 dsimp only
 split
 · exact pAny_le 3 σ
 · exact Nat.le_trans (pFail_le _ _ _) (pAny_le 3 σ)
def pCost (t : Tok) (r : Pst × Tgt) : Pst × Tgt :=
 (pExpect [59] (pNum 1 1000 (pHad t r).1).2, { (pHad t r).2 with cost := (pNum 1 1000 (pHad t r).1).1 })
theorem TS.put {w w' : World} {b a m h base k : Nat} {σ : Pst} {T T' : Tgt} (S : TS w b a m h base k σ T) (hT : Turn (fun g => g = b) w w') (hp : ∀ vs, PS w b σ (tR a m h T vs) → PS w' b σ (tR a m h T' vs)) (hr : T'.rows = T.rows) (hh : T'.had = T.had) : TS w' b a m h base k σ T' := by
 obtain ⟨⟨vs, hP, hR⟩, ⟨n, hN, hn⟩, hlen, hbb, hhb, hne, hsz⟩ := S
 refine ⟨⟨vs, hp vs hP, ?_⟩, ⟨n, ?_, hn⟩, by rw [hr]; exact hlen, hbb, hhb, hne, Nat.le_trans hsz hT.size⟩
 · rw [hr]; exact hR.turn hT (fun g e => by rw [e]; exact hbb)
 · rw [hh]; exact hN.far hT (fun e => hne e)
theorem TS.call {b a m h base k : Nat} {σ σ' : Pst} {T : Tgt} {f : FuncId} {args : Array Value} {v : Value} (hl : plen σ' ≤ plen σ) {w : World} (S : TS w b a m h base k σ T)
   (C : ∀ R, PS w b σ R → Calls Tryz.prog f args w fun en w' => en = .returned v ∧ PS w' b σ' R ∧ Turn (fun g => g = b) w w') :
   Calls Tryz.prog f args w fun en w' => en = .returned v ∧ TS w' b a m h base k σ' T ∧ Turn (fun g => g = b) w w' := by
 obtain ⟨⟨vs, hP, hR⟩, ⟨n, hN, hn⟩, hlen, hbb, hhb, hne, hsz⟩ := S
 refine (C _ hP).mono ?_
 rintro en w' ⟨he, hP', hT⟩
 exact ⟨he, ⟨⟨vs, hP', hR.turn hT (fun g e => by rw [e]; exact hbb)⟩, ⟨n, hN.far hT (fun e => hne e), by omega⟩, fun i hi => (by have := hlen i hi; omega), hbb, hhb, hne, Nat.le_trans hsz hT.size⟩, hT⟩
theorem FT.lo {b h base : Nat} (hb : 9 ≤ b) (hh : 9 ≤ h) (hbb : b < base) : ∀ g, FT b h base g → 9 ≤ g := by
 rintro g (rfl | rfl | e)
 · exact hb
 · exact hh
 · omega
set_option maxHeartbeats 4000000 in
theorem cost_any {w : World} {b a m h base k : Nat} {σ : Pst} {T : Tgt} (S : TS w b a m h base (k + 1) σ T) (hL : Laid w) (hb9 : 9 ≤ b) (hh9 : 9 ≤ h) (t : Tok) (ht : t.txt.length ≤ 4294967000) :
   Calls Tryz.prog 71 #[.pointer (some ⟨b, 0, none⟩), tokV t] w (TOut w b a m h base k (pCost t (σ, T))) := by
 unfold TOut pCost
 obtain ⟨x, hx⟩ : ∃ x, str t.txt = x := ⟨_, rfl⟩
 obtain ⟨l, hl⟩ : ∃ l : Nat, t.ln = l := ⟨_, rfl⟩
 obtain ⟨c, hc⟩ : ∃ l : Nat, t.cls = l := ⟨_, rfl⟩
 obtain ⟨w1, hw1⟩ : ∃ w1, w.alloc (.cells #[.int .i64 (c : Int), .string x, .int .i64 (l : Int)] 91) = w1 := ⟨_, rfl⟩
 have hb1 : Below w.heap.size w w1 := by rw [← hw1]; exact (Below.refl _ w).alloc (Nat.le_refl _) _
 have F1 : Full w1 w.heap.size 91 [.int .i64 (c : Int), .string x, .int .i64 (l : Int)] := by rw [← hw1]; exact Full.new w 91 _
 obtain ⟨u, hu⟩ : ∃ u, w.heap.size = u := ⟨_, rfl⟩
 rw [hu] at F1
 have S1 := S.on hb1
 have HA := had_any S1.drew t ht
 unfold tokV at HA
 rw [hx, hl, hc] at HA
 unfold TOut at HA
 obtain ⟨r, hr⟩ : ∃ r, pHad t (σ, T) = r := ⟨_, rfl⟩
 obtain ⟨σ1, T1⟩ := r
 rw [hr] at HA
 rw [hr]
 dsimp only at HA ⊢
 obtain ⟨v, σ2, h2⟩ : ∃ v σ2, pNum 1 1000 σ1 = (v, σ2) := ⟨_, _, rfl⟩
 obtain ⟨σ3, h3⟩ : ∃ s, pExpect [59] σ2 = s := ⟨_, rfl⟩
 rw [h2]
 dsimp only
 rw [h3]
 unfold tokV
 rw [hx, hl, hc]
 have HA := Lib.hid HA
 obtain ⟨vs, hP1, _⟩ := S1.ps
 have k8 : w1.drew.cell? ⟨b, 18, none⟩ = some (.map (some h)) := (ts_cell hP1 11).1
 have u0 : w1.drew.cell? ⟨u, 0, none⟩ = some (.int .i64 (c : Int)) := F1.cell 0
 have u1 : w1.drew.cell? ⟨u, 1, none⟩ = some (.string x) := F1.cell 1
 have u2 : w1.drew.cell? ⟨u, 2, none⟩ = some (.int .i64 (l : Int)) := F1.cell 2
 have NU := Lib.hid (fun (W : World) (hT : Turn (FT b h base) w W) (S : TS W b a m h base k σ1 T1) => (TS.call (by have := pNum_le 1 1000 σ1; rw [h2] at this; exact this) S (v := .int .i64 v) (fun R hP => (by
   have q := num_any hP (hL.turn hT (FT.lo hb9 hh9 S.bb)) hb9 1 1000
   unfold NumOut at q
   rw [h2] at q
   exact q)) : Calls Tryz.prog 109 #[.pointer (some ⟨b, 0, none⟩), .int .i64 1, .int .i64 1000] W fun en w' => en = .returned (.int .i64 v) ∧ TS w' b a m h base k σ2 T1 ∧ Turn (fun g => g = b) W w'))
 have EX := Lib.hid (fun (W : World) (S : TS W b a m h base k σ2 { T1 with cost := v }) => (TS.call (by rw [← h3]; exact pExpect_le _ _) S (v := .tuple #[]) (fun R hP => (by
   have q := expect_any hP [59] (by decide)
   unfold StOut at q
   rw [h3] at q
   exact q)) : Calls Tryz.prog 103 #[.pointer (some ⟨b, 0, none⟩), .string ⟨#[59]⟩] W fun en w' => en = .returned (.tuple #[]) ∧ TS w' b a m h base k σ3 { T1 with cost := v } ∧ Turn (fun g => g = b) W w'))
 have HT1 := Lib.hid (show Turn (FT b h base) w w1.drew from (Turn.of hb1).drew)
 clear hx hl hc h2 h3 hr hP1 F1 hb1 S1 S ht hL
 go_enter Tryz.func71, Tryz.ntmps71
 go_upto_region 1 with fail
 go_region_with (first
   | (go_at_call 102; ((with_reducible refine HA.out.mono ?_); rintro en w2 ⟨rfl, hS2, hT2⟩))
   | (fail "arm"))
 all_goals
   have HT2 := Lib.hid (HT1.out.trans_ hT2)
   go_wp2_with (first
     | (go_at_call 109; ((with_reducible refine (NU.out w2 HT2.out hS2).mono ?_); rintro en w3 ⟨rfl, hS3, hT3⟩; (obtain ⟨vs3, hP3, _⟩ := hS3.ps); (have z1 : w3.cell? ⟨b, 16, none⟩ = some (.int .i64 T1.cost) := (ts_cell hP3 9).1); (have z2 : w3.frozen? ⟨b, 16, none⟩ = false := (ts_cell hP3 9).2); (have HS4 := Lib.hid (show TS (w3.setCell ⟨b, 16, none⟩ (.int .i64 v)) b a m h base k σ2 { T1 with cost := v } from hS3.put (Turn.set_ (F := fun g => g = b) (a := ⟨b, 16, none⟩) rfl _) (fun vs q => ps_set q 9 _) rfl rfl)); (have HT4 := Lib.hid ((HT2.out.trans_ hT3.ftb).trans_ (Turn.set_ (F := FT b h base) (a := ⟨b, 16, none⟩) (.inl rfl) (.int .i64 v)))); clear hP3 hS3 hT3))
     | (go_at_call 103; ((with_reducible refine (EX.out _ HS4.out).mono ?_); rintro en w5 ⟨rfl, hS5, hT5⟩))
     | (fail "arm"))
   go_end0
   exact ⟨rfl, hS5, HT4.out.trans_ hT5.ftb⟩
def pLn : Pst → Nat
 | .ok (t :: _) => t.ln
 | _ => 0
theorem ps_ln {w : World} {b : Nat} {σ : Pst} {R : List Value} (h : PS w b σ R) : w.cell? ⟨b, 4, none⟩ = some (.int .i64 (pLn σ : Int)) := by
 obtain ⟨s, n, c, tx, tl, e, el, hP, hs, hC⟩ := h
 rw [Full.cell hP 4]
 show some (Value.int .i64 tl) = _
 cases σ with
 | bad e' l' =>
   obtain ⟨_, _, _, _, _, h6⟩ := hC
   rw [h6]; rfl
 | ok ts =>
   obtain ⟨t, r, hts, _, _, htl, _⟩ := ok_cons hC
   rw [hts, htl]; rfl
def pRetry (t : Tok) (r : Pst × Tgt) : Pst × Tgt :=
 (pExpect [59] (pNum 0 5 (pHad t r).1).2, { (pHad t r).2 with rl := pLn (pHad t r).1, retry := (pNum 0 5 (pHad t r).1).1 })
set_option maxHeartbeats 4000000 in
theorem retry_any {w : World} {b a m h base k : Nat} {σ : Pst} {T : Tgt} (S : TS w b a m h base (k + 1) σ T) (hL : Laid w) (hb9 : 9 ≤ b) (hh9 : 9 ≤ h) (t : Tok) (ht : t.txt.length ≤ 4294967000) :
   Calls Tryz.prog 72 #[.pointer (some ⟨b, 0, none⟩), tokV t] w (TOut w b a m h base k (pRetry t (σ, T))) := by
 unfold TOut pRetry
 obtain ⟨x, hx⟩ : ∃ x, str t.txt = x := ⟨_, rfl⟩
 obtain ⟨l, hl⟩ : ∃ l : Nat, t.ln = l := ⟨_, rfl⟩
 obtain ⟨c, hc⟩ : ∃ l : Nat, t.cls = l := ⟨_, rfl⟩
 obtain ⟨w1, hw1⟩ : ∃ w1, w.alloc (.cells #[.int .i64 (c : Int), .string x, .int .i64 (l : Int)] 91) = w1 := ⟨_, rfl⟩
 have hb1 : Below w.heap.size w w1 := by rw [← hw1]; exact (Below.refl _ w).alloc (Nat.le_refl _) _
 have F1 : Full w1 w.heap.size 91 [.int .i64 (c : Int), .string x, .int .i64 (l : Int)] := by rw [← hw1]; exact Full.new w 91 _
 obtain ⟨u, hu⟩ : ∃ u, w.heap.size = u := ⟨_, rfl⟩
 rw [hu] at F1
 have S1 := S.on hb1
 have HA := had_any S1.drew t ht
 unfold tokV at HA
 rw [hx, hl, hc] at HA
 unfold TOut at HA
 obtain ⟨r, hr⟩ : ∃ r, pHad t (σ, T) = r := ⟨_, rfl⟩
 obtain ⟨σ1, T1⟩ := r
 rw [hr] at HA
 rw [hr]
 dsimp only at HA ⊢
 obtain ⟨q, hq⟩ : ∃ q, pLn σ1 = q := ⟨_, rfl⟩
 obtain ⟨v, σ2, h2⟩ : ∃ v σ2, pNum 0 5 σ1 = (v, σ2) := ⟨_, _, rfl⟩
 obtain ⟨σ3, h3⟩ : ∃ s, pExpect [59] σ2 = s := ⟨_, rfl⟩
 rw [hq, h2]
 dsimp only
 rw [h3]
 unfold tokV
 rw [hx, hl, hc]
 have HA := Lib.hid HA
 obtain ⟨vs, hP1, _⟩ := S1.ps
 have k8 : w1.drew.cell? ⟨b, 18, none⟩ = some (.map (some h)) := (ts_cell hP1 11).1
 have u0 : w1.drew.cell? ⟨u, 0, none⟩ = some (.int .i64 (c : Int)) := F1.cell 0
 have u1 : w1.drew.cell? ⟨u, 1, none⟩ = some (.string x) := F1.cell 1
 have u2 : w1.drew.cell? ⟨u, 2, none⟩ = some (.int .i64 (l : Int)) := F1.cell 2
 have HLN := Lib.hid (fun (W : World) (R : List Value) (h : PS W b σ1 R) => (show W.cell? ⟨b, 4, none⟩ = some (.int .i64 (q : Int)) by rw [← hq]; exact ps_ln h))
 have NU := Lib.hid (fun (W : World) (hT : Turn (FT b h base) w W) (S : TS W b a m h base k σ1 { T1 with rl := q }) => (TS.call (by have := pNum_le 0 5 σ1; rw [h2] at this; exact this) S (v := .int .i64 v) (fun R hP => (by
   have z := num_any hP (hL.turn hT (FT.lo hb9 hh9 S.bb)) hb9 0 5
   unfold NumOut at z
   rw [h2] at z
   exact z)) : Calls Tryz.prog 109 #[.pointer (some ⟨b, 0, none⟩), .int .i64 0, .int .i64 5] W fun en w' => en = .returned (.int .i64 v) ∧ TS w' b a m h base k σ2 { T1 with rl := q } ∧ Turn (fun g => g = b) W w'))
 have EX := Lib.hid (fun (W : World) (S : TS W b a m h base k σ2 { T1 with rl := q, retry := v }) => (TS.call (by rw [← h3]; exact pExpect_le _ _) S (v := .tuple #[]) (fun R hP => (by
   have z := expect_any hP [59] (by decide)
   unfold StOut at z
   rw [h3] at z
   exact z)) : Calls Tryz.prog 103 #[.pointer (some ⟨b, 0, none⟩), .string ⟨#[59]⟩] W fun en w' => en = .returned (.tuple #[]) ∧ TS w' b a m h base k σ3 { T1 with rl := q, retry := v } ∧ Turn (fun g => g = b) W w'))
 have HT1 := Lib.hid (show Turn (FT b h base) w w1.drew from (Turn.of hb1).drew)
 clear hx hl hc h2 h3 hr hP1 F1 hb1 S1 S ht hL hq
 go_enter Tryz.func72, Tryz.ntmps72
 go_upto_region 1 with fail
 go_region_with (first
   | (go_at_call 102; ((with_reducible refine HA.out.mono ?_); rintro en w2 ⟨rfl, hS2, hT2⟩; (obtain ⟨vs2, hP2, _⟩ := hS2.ps); (have k4 := HLN.out w2 _ hP2); (have y1 : w2.cell? ⟨b, 19, none⟩ = some (.int .i64 (T1.rl : Int)) := (ts_cell hP2 12).1); (have y2 : w2.frozen? ⟨b, 19, none⟩ = false := (ts_cell hP2 12).2); clear hP2))
   | (fail "arm"))
 all_goals
   have HS3 := Lib.hid (show TS (w2.setCell ⟨b, 19, none⟩ (.int .i64 (q : Int))) b a m h base k σ1 { T1 with rl := q } from hS2.put (Turn.set_ (F := fun g => g = b) (a := ⟨b, 19, none⟩) rfl _) (fun vs q => ps_set q 12 _) rfl rfl)
   have HT2 := Lib.hid ((HT1.out.trans_ hT2).trans_ (Turn.set_ (F := FT b h base) (a := ⟨b, 19, none⟩) (.inl rfl) (.int .i64 (q : Int))))
   go_wp2_with (first
     | (go_at_call 109; ((with_reducible refine (NU.out _ HT2.out HS3.out).mono ?_); rintro en w3 ⟨rfl, hS3, hT3⟩; (obtain ⟨vs3, hP3, _⟩ := hS3.ps); (have z1 : w3.cell? ⟨b, 17, none⟩ = some (.int .i64 T1.retry) := (ts_cell hP3 10).1); (have z2 : w3.frozen? ⟨b, 17, none⟩ = false := (ts_cell hP3 10).2); (have HS4 := Lib.hid (show TS (w3.setCell ⟨b, 17, none⟩ (.int .i64 v)) b a m h base k σ2 { T1 with rl := q, retry := v } from hS3.put (Turn.set_ (F := fun g => g = b) (a := ⟨b, 17, none⟩) rfl _) (fun vs q => ps_set q 10 _) rfl rfl)); (have HT4 := Lib.hid ((HT2.out.trans_ hT3.ftb).trans_ (Turn.set_ (F := FT b h base) (a := ⟨b, 17, none⟩) (.inl rfl) (.int .i64 v)))); clear hP3 hS3 hT3))
     | (go_at_call 103; ((with_reducible refine (EX.out _ HS4.out).mono ?_); rintro en w5 ⟨rfl, hS5, hT5⟩))
     | (fail "arm"))
   go_end0
   exact ⟨rfl, hS5, HT4.out.trans_ hT5.ftb⟩
end Go.Proofs.YtcjoiiaankngjaaGreatDoor
