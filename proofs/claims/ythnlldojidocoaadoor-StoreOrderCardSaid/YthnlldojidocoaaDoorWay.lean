/- A law's way: its world, and its store in it. -/
import Derived.Test.YthnlldojidocoaaDoorText
namespace Go.Proofs.YthnlldojidocoaaDoor
open Go.RowKit Go.Maps

/-- w: the world at the law's call; W: the world now -/
structure StW (w W : World) (p : Nat) (os : List Ob) (F : Nat → Prop) : Prop where
  below : Below w.heap.size w W
  tab0 : 0 < w.heap.size
  tab : Tab W
  st : IsStore w.heap.size W p os F
section
variable {w W W' : World} {p : Nat} {os os' : List Ob} {F F' : Nat → Prop}
theorem StW.goes (h : StW w W p os F) (hs : IsStore w.heap.size W' p os' F') (hg : Goes F W W' F') : StW w W' p os' F' := by
  have hb : Below w.heap.size W W' := hg.turn.below (fun g e => (h.st.in_ g e).1) h.below.size
  exact ⟨h.below.trans hb, h.tab0, h.tab.below hb h.tab0, hs⟩
theorem StW.on (h : StW w W p os F) (hb : Below W.heap.size W W') : StW w W' p os F := ⟨Below.then_ h.below hb, h.tab0, h.tab.on hb, h.st.on hb⟩
theorem StW.alloc (h : StW w W p os F) (o : Obj) : StW w (W.alloc o) p os F := h.on ((Below.refl _ _).alloc (Nat.le_refl _) _)
theorem StW.drewN (h : StW w W p os F) (q : Nat) : StW w (W.drewN q) p os F := h.on (Below.drewN_ (Below.refl _ _) q)
theorem StW.drew (h : StW w W p os F) : StW w W.drew p os F := h.drewN 1
/-- a block that is not the store's is written -/
theorem StW.set_ (h : StW w W p os F) {a : Addr} (hb : w.heap.size ≤ a.block) (ha : ¬ F a.block) (u : Value) : StW w (W.setCell a u) p os F :=
  ⟨h.below.trans ((Below.refl _ _).setCell hb u), h.tab0, h.tab.below ((Below.refl _ _).setCell hb u) h.tab0, h.st.keep (fun g hg => Below.heap_setCell W a u g fun e => ha (by rw [← e]; exact hg)) (by simp [World.setCell])⟩
/-- new memory grows, outside of the store -/
theorem StW.grown {row : Option Nat} (h : StW w W p os F) (hg : W.grownBy W' row) (hr : ∀ j, row = some j → w.heap.size ≤ j ∧ ¬ F j) : StW w W' p os F := by
  have hb : Below w.heap.size W W' := (Below.refl _ _).grown hg h.below.size fun j e => (hr j e).1
  exact ⟨h.below.trans hb, h.tab0, h.tab.below hb h.tab0, h.st.keep (fun g hF => hg.block g (h.st.in_ g hF).2 fun e => (hr g e.symm).2 hF) hg.size⟩
theorem StW.start (hT : Tab w) {W0 : World} (hb : Below w.heap.size w W0) : StW w (W0.alloc (.cells #[.slice none 0 0, .map none] 36)) W0.heap.size [] (fun g => g = W0.heap.size) :=
  ⟨hb.alloc hb.size _, hT.1, (hT.on hb).on ((Below.refl _ _).alloc (Nat.le_refl _) _), IsStore.new W0 hb.size⟩
end

/-- the store's answer and its new state -/
def PutW (w W : World) (p : Nat) (os : List Ob) (F : Nat → Prop) (k : Int) (os' : List Ob) (e : Ending) (W' : World) : Prop :=
  e = .returned (.tuple #[.int .i64 k, .int .i64 0]) ∧ ∃ F', StW w W' p os' F' ∧ Goes F W W' F'
theorem blobW {w W : World} {p : Nat} {os : List Ob} {F : Nat → Prop} (h : StW w W p os F) (hn : os.length ≤ 1048575) (t : ByteArray) (ht : t.size ≤ 65536) :
    Calls Tryd.prog 18 #[.pointer (some ⟨p, 0, none⟩), .string t] W (PutW w W p os F (num os (blobO t) : Int) (put os (blobO t))) :=
  (blob_any h.st hn t ht).mono fun _ _ ⟨he, F', hs, hg⟩ => ⟨he, F', h.goes hs hg, hg⟩
theorem treeW {w W : World} {p : Nat} {os : List Ob} {F : Nat → Prop} (h : StW w W p os F) (hn : os.length ≤ 1048575) (A : Option Addr) (es : List Ent) (c : Nat) (hA : Ents W W.heap.size A c es) (hl : es.length ≤ 1048576) (hok : treeOk os es = true) :
    Calls Tryd.prog 21 #[.pointer (some ⟨p, 0, none⟩), .slice A es.length c] W (PutW w W p os F (num os (treeO es) : Int) (put os (treeO es))) :=
  (tree_any h.st hn h.tab _ A es c hA (Nat.le_refl _) hl hok).mono fun _ _ ⟨he, F', hs, hg⟩ => ⟨he, F', h.goes hs hg, hg⟩
def BadW (w W : World) (p : Nat) (os : List Ob) (F : Nat → Prop) (e : Ending) (W' : World) : Prop :=
  e = .returned (.tuple #[.int .i64 0, .int .i64 1]) ∧ StW w W' p os F ∧ Below W.heap.size W W'
theorem treeW_bad {w W : World} {p : Nat} {os : List Ob} {F : Nat → Prop} (h : StW w W p os F) (hn : os.length ≤ 1048575) (A : Option Addr) (es : List Ent) (c : Nat) (hA : Ents W W.heap.size A c es) (hS : Sound es) (hl : es.length ≤ 1048576) (hok : treeOk os es = false) :
    Calls Tryd.prog 21 #[.pointer (some ⟨p, 0, none⟩), .slice A es.length c] W (BadW w W p os F) :=
  (tree_bad h.st hn h.tab _ A es c hA (Nat.le_refl _) hS hl hok).mono fun _ _ ⟨he, hb⟩ => ⟨he, h.on hb, hb⟩
/-- a list of entries that is built where it is passed -/
theorem ents_new (W : World) (es : List Ent) {n : Nat} (hn : es.length = n) : Ents (W.alloc (.cells (entsC es).toArray 48)) (W.alloc (.cells (entsC es).toArray 48)).heap.size (some ⟨W.heap.size, 0, none⟩) n es := by
  subst hn
  have hF := Full.new W 48 (entsC es)
  refine ⟨entsC_len es, Nat.le_refl _, fun e => (by cases e), fun j u hj => ⟨_, rfl, by simp, ?_⟩⟩
  rw [show (⟨W.heap.size, 0, none⟩ : Addr).add j = ⟨W.heap.size, j, none⟩ by unfold Addr.add; split <;> simp_all]
  rw [hF.cell]; exact hj
theorem treeL {w W : World} {p : Nat} {os : List Ob} {F : Nat → Prop} (h : StW w W p os F) (hn : os.length ≤ 1048575) (es : List Ent) (n : Nat) (hes : es.length = n) (hl : n ≤ 1048576) (hok : treeOk os es = true) :
    Calls Tryd.prog 21 #[.pointer (some ⟨p, 0, none⟩), .slice (some ⟨W.heap.size, 0, none⟩) n n] (W.alloc (.cells (entsC es).toArray 48)) (PutW w (W.alloc (.cells (entsC es).toArray 48)) p os F (num os (treeO es) : Int) (put os (treeO es))) := by
  subst hes
  exact treeW (h.alloc _) hn _ es _ (ents_new W es rfl) hl hok
theorem treeL_bad {w W : World} {p : Nat} {os : List Ob} {F : Nat → Prop} (h : StW w W p os F) (hn : os.length ≤ 1048575) (es : List Ent) (n : Nat) (hes : es.length = n) (hS : Sound es) (hl : n ≤ 1048576) (hok : treeOk os es = false) :
    Calls Tryd.prog 21 #[.pointer (some ⟨p, 0, none⟩), .slice (some ⟨W.heap.size, 0, none⟩) n n] (W.alloc (.cells (entsC es).toArray 48)) (BadW w (W.alloc (.cells (entsC es).toArray 48)) p os F) := by
  subst hes
  exact treeW_bad (h.alloc _) hn _ es _ (ents_new W es rfl) hS hl hok
theorem ents_nil0 (W : World) : Ents W W.heap.size none 0 [] := Row.empty _ _ _
end Go.Proofs.YthnlldojidocoaaDoor
