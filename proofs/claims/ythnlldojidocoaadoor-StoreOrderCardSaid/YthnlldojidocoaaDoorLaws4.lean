/- Entries hands out a block of its own; more of a law's own slices. -/
import Derived.Test.YthnlldojidocoaaDoorLaws3
import Derived.Test.YthnlldojidocoaaDoorSame
namespace Go.Proofs.YthnlldojidocoaaDoor
open Go.RowKit Go.Maps

def CopyFull (w : World) (es : List Ent) (e : Ending) (w' : World) : Prop :=
  ∃ g, e = .returned (.slice (some ⟨g, 0, none⟩) es.length es.length) ∧ Full w' g 48 (entsC es) ∧ w.heap.size ≤ g ∧ Below w.heap.size w w'
set_option maxRecDepth 100000 in
set_option maxHeartbeats 1000000 in
theorem copyOf_full (M : Nat) (A : Option Addr) (es : List Ent) (c : Nat) (w : World) (hA : Ents w M A c es) (hM : M ≤ w.heap.size) (hl : es.length ≤ 1048576) :
    Calls Tryd.prog 36 #[.slice A es.length c] w (CopyFull w es) := by
  obtain ⟨n, hn⟩ : ∃ n, es.length = n := ⟨_, rfl⟩
  obtain ⟨Z, hZ, hmk⟩ := made_ents n (by omega)
  have hF := Full.new w 48 Z
  have hA1 : Row (w.alloc (.cells Z.toArray 48)) M 3 A n c (entsC es) := by
    have := Row.alloc hA hM (.cells Z.toArray 48)
    rwa [hn] at this
  have hcp := copy_ents _ w.heap.size n c A es Z M hF hZ hA1 hn
  have hF2 := full_setRow hF (entsC es)
  have hB : Below w.heap.size w ((w.alloc (.cells Z.toArray 48)).setRow w.heap.size (entsC es).toArray) := below_setRow ((Below.refl _ w).alloc (Nat.le_refl _) _) (Nat.le_refl _) _
  obtain ⟨w2, hw2⟩ : ∃ w2, (w.alloc (.cells Z.toArray 48)).setRow w.heap.size (entsC es).toArray = w2 := ⟨_, rfl⟩
  rw [hw2] at hF2 hB hcp
  unfold CopyFull
  rw [hn]
  have HF2 := Lib.hid hF2
  clear hF hA1 hF2 hA hZ hn hl hw2
  go_enter Tryd.func36, Tryd.ntmps36
  go_wp2_with (with_reducible refine Lib.wpList_copy_run _ rfl _ _ 46 46 rfl _ _ rfl rfl (hcp _) ?_)
  go_ret
  exact ⟨_, rfl, HF2.out, Nat.le_refl _, hB⟩
def EntsFull (w : World) (es : List Ent) (e : Ending) (w' : World) : Prop :=
  ∃ g, e = .returned (.tuple #[.slice (some ⟨g, 0, none⟩) es.length es.length, .bool true]) ∧ Full w' g 48 (entsC es) ∧ w.heap.size ≤ g ∧ Below w.heap.size w w'
set_option maxRecDepth 100000 in
set_option maxHeartbeats 1000000 in
theorem ents_full0 (q : Value) (id : Int) (ot : ByteArray) (oe : List Ent) (Ae : Option Addr) (ce M : Nat) (w : World) (hA : Ents w M Ae ce oe) (hM : M ≤ w.heap.size) (hl : oe.length ≤ 1048576)
    (C : Calls Tryd.prog 33 #[q, .int .i64 id] w fun e w' => e = .returned (.tuple #[.agg #[.bool true, .string ot, .slice Ae oe.length ce], .bool true]) ∧ Below w.heap.size w w') :
    Calls Tryd.prog 24 #[q, .int .i64 id] w (EntsFull w oe) := by
  have HC := Lib.hid C
  have C36 := Lib.hid (fun (W : World) (hW : Below w.heap.size w W) => copyOf_full M Ae oe ce W (Row.below hA hW hM) (Nat.le_trans hM hW.size) hl)
  clear C hA
  unfold EntsFull
  obtain ⟨n, HN⟩ : ∃ n, Hid (oe.length = n) := ⟨_, Lib.hid rfl⟩
  rw [HN.out] at HC
  have C36' : Hid (∀ (W : World) (hW : Below w.heap.size w W), Calls Tryd.prog 36 #[.slice Ae n ce] W (CopyFull W oe)) := Lib.hid (fun W hW => by rw [← HN.out]; exact C36.out W hW)
  clear C36
  go_enter Tryd.func24, Tryd.ntmps24
  go_wp2_with (first
    | (go_at_call 33; ((with_reducible refine HC.out.mono ?_); rintro e w1 ⟨rfl, hb⟩; (have hb1 : Below w.heap.size w (w1.alloc (.cells #[.bool true, .string ot, .slice Ae n ce] 72)) := hb.alloc hb.size _)))
    | (go_at_call 36; ((with_reducible refine (C36'.out _ hb1).mono ?_); rintro e w2 ⟨g, rfl, hR, hg, hb2⟩)))
  go_ret2
  have hs := hb1.size
  exact ⟨g, rfl, hR, by omega, Below.then_ hb1 hb2⟩
theorem ents_full {B : Nat} {w : World} {p : Nat} {os : List Ob} {F : Nat → Prop} (h : IsStore B w p os F) (hn : os.length ≤ 1073741824) (id : Int) (es : List Ent) (hg : getO os id = some (treeO es)) :
    Calls Tryd.prog 24 #[.pointer (some ⟨p, 0, none⟩), .int .i64 id] w (EntsFull w es) := by
  obtain ⟨v, m, In, h⟩ := h
  obtain ⟨u, hu, C⟩ := find_some h hn id _ hg
  obtain ⟨Ae, ce, rfl, hR⟩ := hu
  have hmem : treeO es ∈ os := by
    unfold getO at hg
    split at hg
    · exact List.mem_of_getElem? hg
    · cases hg
  exact ents_full0 _ id ByteArray.empty es Ae ce w.heap.size w (hR.row fun g hg => (h.in_ g (h.inn g hg).1).2) (Nat.le_refl _) ((h.fine.ok _ hmem).2 rfl).2.2 C

section
variable {w W W' : World} {v v' : Value} {T : TypeId} {size n : Nat} {xs : List Value} {F F' : Nat → Prop} {p : Nat} {os : List Ob}
theorem Mine.app0 {n' : Nat} {xs' : List Value} (h : Mine w W v T size n xs F) (hst : StW w W p os F) (hgrow : W.grownBy W' v.ownBlock) (hown : W'.ownsRow w.heap.size T size v' n' xs') (hloc : v'.ownBlock = v.ownBlock ∨ v'.ownBlock = some W.heap.size) :
    StW w W' p os F ∧ Mine w W' v' T size n' xs' F := by
  refine ⟨hst.grown hgrow (fun j e => ⟨(h.lt j e).1, (h.lt j e).2.2⟩), hown, fun j e hF => ?_⟩
  rcases hloc with hl | hl
  · exact h.free j (hl ▸ e) hF
  · rw [hl] at e
    injection e with e
    have h1 := (hst.st.in_ j hF).2
    omega
theorem Mine.grown {row : Option Nat} (h : Mine w W v T size n xs F) (hgrow : W.grownBy W' row) (hr : ∀ j, v.ownBlock = some j → row ≠ some j) : Mine w W' v T size n xs F :=
  ⟨owns_keep h.own fun g e => hgrow.block g (owns_lt h.own g e) fun e' => hr g e e'.symm, h.free⟩
theorem Mine.set_ (h : Mine w W v T size n xs F) {a : Addr} (ha : v.ownBlock ≠ some a.block) (u : Value) : Mine w (W.setCell a u) v T size n xs F :=
  ⟨owns_keep h.own fun g e => Below.heap_setCell W a u g fun e' => ha (by rw [e, e']), h.free⟩
theorem Mine.ents {g c : Nat} {es : List Ent} (h : Mine w W (.slice (some ⟨g, 0, none⟩) n c) 48 3 n (entsC es) F) (hn : es.length = n) : Ents W W.heap.size (some ⟨g, 0, none⟩) c es := by
  subst hn
  exact Row.own h.own
end
/-- a block of cells that a law may write -/
def Cells (W : World) (g : Nat) (t : TypeId) (m : Nat) : Prop := ∃ cur : Array Value, W.heap[g]? = some (.cells cur t (0, 0)) ∧ cur.size = m
section
variable {W W' : World} {g m : Nat} {t : TypeId}
theorem Cells.cell (h : Cells W g t m) {i : Nat} (hi : i < m) : (∃ v, W.cell? ⟨g, i, none⟩ = some v) ∧ W.frozen? ⟨g, i, none⟩ = false := by
  obtain ⟨cur, hh, hs⟩ := h
  refine ⟨⟨cur[i]'(by omega), ?_⟩, ?_⟩
  · simp [World.cell?, hh, hs, hi]
  · simp [World.frozen?, hh]
theorem Cells.set_ (h : Cells W g t m) (b i : Nat) (u : Value) : Cells (W.setCell ⟨b, i, none⟩ u) g t m := by
  obtain ⟨cur, hh, hs⟩ := h
  by_cases e : g = b
  · subst e
    exact ⟨cur.setIfInBounds i u, by simp [World.setCell, Array.getElem?_modify, hh], by simp [hs]⟩
  · exact ⟨cur, (Below.heap_setCell W ⟨b, i, none⟩ u g e).trans hh, hs⟩
theorem Cells.of_full {cs : List Value} (h : Full W g t cs) : Cells W g t cs.length := ⟨cs.toArray, h, by simp⟩
theorem Cells.of_own {base n c size : Nat} {xs : List Value} (h : W.ownsRow base t size (.slice (some ⟨g, 0, none⟩) n c) n xs) : ∃ m, Cells W g t m ∧ n * size ≤ m := by
  rcases h.2 with ⟨h0, _⟩ | ⟨g', cap, cur, hv, _, hh, hle, _, hcs, _⟩
  · cases h0
  · injection hv with h1 _ h3
    injection h1 with h1
    injection h1 with h1
    subst h1
    exact ⟨cur.size, ⟨cur, hh, rfl⟩, by rw [hcs]; exact Nat.mul_le_mul_right _ hle⟩
theorem Cells.lt (h : Cells W g t m) : g < W.heap.size := by
  obtain ⟨cur, hh, _⟩ := h
  exact (Array.getElem?_eq_some_iff.1 hh).1
end
end Go.Proofs.YthnlldojidocoaaDoor
