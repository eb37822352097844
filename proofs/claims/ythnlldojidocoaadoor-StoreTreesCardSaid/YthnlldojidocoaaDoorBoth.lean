/- A store and the reference beside it: one action. -/
import Derived.Test.YthnlldojidocoaaDoorAlike
import Derived.Test.YthnlldojidocoaaDoorList
import Derived.Test.YthnlldojidocoaaDoorWay
namespace Go.Proofs.YthnlldojidocoaaDoor
open Go.RowKit Go.Maps

theorem stw_apart {w W W' : World} {p : Nat} {os : List Ob} {F G : Nat → Prop} (h : StW w W p os F) (ht : Turn G W W') (hap : ∀ g, F g → ¬ G g) (hG : ∀ g, G g → w.heap.size ≤ g) : StW w W' p os F := by
  have hb : Below w.heap.size W W' := ht.below hG h.below.size
  exact ⟨h.below.trans hb, h.tab0, h.tab.below hb h.tab0, h.st.apart ht hap⟩

/-- both hold the objects os -/
structure Two (w W : World) (p q : Nat) (os : List Ob) (F G : Nat → Prop) : Prop where
  st : StW w W p os F
  rf : IsRef w.heap.size W q os G
  ap : ∀ g, G g → ¬ F g
section
variable {w W W1 W2 : World} {p q : Nat} {os os' : List Ob} {F F' G G' : Nat → Prop}
theorem Two.on (h : Two w W p q os F G) (hb : Below W.heap.size W W1) : Two w W1 p q os F G := ⟨h.st.on hb, h.rf.on hb, h.ap⟩
theorem Two.fst (h : Two w W p q os F G) (hs : StW w W1 p os' F') (hg : Goes F W W1 F') : IsRef w.heap.size W1 q os G ∧ ∀ g, G g → ¬ F' g :=
  ⟨h.rf.apart hg.turn h.ap, fun g hG hF => (hg.back g hF).elim (h.ap g hG) fun e => by have := (h.rf.in_ g hG).2; omega⟩
theorem Two.snd (hs : StW w W1 p os' F') (hr : IsRef w.heap.size W1 q os G) (hap : ∀ g, G g → ¬ F' g) (hr' : IsRef w.heap.size W2 q os' G') (hg : Goes G W1 W2 G') : Two w W2 p q os' F' G' :=
  ⟨stw_apart hs hg.turn (fun g hF hG => hap g hG hF) fun g hG => (hr.in_ g hG).1, hr', fun g hG hF => (hg.back g hG).elim (fun e => hap g e hF) fun e => by have := (hs.st.in_ g hF).2; omega⟩
end

def OpS (w W : World) (p : Nat) (F : Nat → Prop) (k er : Int) (os' : List Ob) (e : Ending) (W' : World) : Prop :=
  e = .returned (.tuple #[.int .i64 k, .int .i64 er]) ∧ ∃ F', StW w W' p os' F' ∧ Goes F W W' F'
def OpR (w W : World) (q : Nat) (G : Nat → Prop) (k er : Int) (os' : List Ob) (e : Ending) (W' : World) : Prop :=
  e = .returned (.tuple #[.int .i64 k, .int .i64 er]) ∧ ∃ G', IsRef w.heap.size W' q os' G' ∧ Goes G W W' G'

theorem blob_res (w : World) (p q : Nat) (os : List Ob) (hn : os.length ≤ 1048575) (hf : Fine os) (t : ByteArray) :
    ∃ (k er : Int) (os' : List Ob), os'.length ≤ os.length + 1 ∧
      (∀ W F, StW w W p os F → Calls Tryd.prog 18 #[.pointer (some ⟨p, 0, none⟩), .string t] W (OpS w W p F k er os')) ∧
      (∀ W G, IsRef w.heap.size W q os G → Calls Tryd.prog 22 #[.pointer (some ⟨q, 0, none⟩), .string t] W (OpR w W q G k er os')) := by
  by_cases ht : t.size ≤ 65536
  · exact ⟨_, 0, put os (blobO t), put_len _ _, fun W F h => blobW h hn t ht, fun W G h => refBlob_any h (by omega) hf t ht⟩
  · refine ⟨0, 2, os, by omega, fun W F h => (blob_big p W t (by omega)).mono ?_, fun W G h => (refBlob_big q W t (by omega)).mono ?_⟩
    · rintro e W' ⟨he, rfl⟩; exact ⟨he, F, h, Goes.refl _ _⟩
    · rintro e W' ⟨he, rfl⟩; exact ⟨he, G, h, Goes.refl _ _⟩
theorem tree_res (w : World) (p q : Nat) (os : List Ob) (hn : os.length ≤ 1048575) (hf : Fine os) (es : List Ent) (hl : es.length ≤ 1048576) (hS : SoundS es) :
    ∃ (k er : Int) (os' : List Ob), os'.length ≤ os.length + 1 ∧
      (∀ W F A c, StW w W p os F → Ents W W.heap.size A c es → Calls Tryd.prog 21 #[.pointer (some ⟨p, 0, none⟩), .slice A es.length c] W (OpS w W p F k er os')) ∧
      (∀ W G A c, IsRef w.heap.size W q os G → Ents W W.heap.size A c es → Calls Tryd.prog 29 #[.pointer (some ⟨q, 0, none⟩), .slice A es.length c] W (OpR w W q G k er os')) := by
  cases hok : treeOk os es with
  | true => exact ⟨_, 0, put os (treeO es), put_len _ _, fun W F A c h hA => treeW h hn A es c hA hl hok, fun W G A c h hA => refTree_any h (by omega) hf _ A es c hA (Nat.le_refl _) hS hl hok⟩
  | false =>
    refine ⟨0, 1, os, by omega, fun W F A c h hA => (treeW_bad h hn A es c hA (fun e he => ⟨by have := (hS e he).1; unfold maxLen; omega, (hS e he).2⟩) hl hok).mono ?_, fun W G A c h hA => (refTree_bad h (by omega) _ A es c hA (Nat.le_refl _) hS (by unfold maxLen; omega) hok).mono ?_⟩
    · rintro e W' ⟨he, hs, hb⟩; exact ⟨he, F, hs, Goes.of hb⟩
    · rintro e W' ⟨he, hb⟩; exact ⟨he, G, h.on hb, Goes.of hb⟩
theorem actL_sound (many : Nat) (hm : many ≤ 1048576) (qs : List Trip) : SoundS (actL many qs) := by
  intro e he
  obtain ⟨q, _, rfl⟩ := List.mem_map.1 he
  have h1 := nameOf_size q.1
  have h2 := modN_lt (x := q.2.2) (m := many + 3) (by omega)
  exact ⟨by show (nameOf q.1).size ≤ _; omega, (show (Lit.int .i64 ((modN q.2.2 (many + 3) : Int) - 1)).wf = true from WalkArith.wf_i64 (by omega))⟩
theorem actL_len (many : Nat) (qs : List Trip) : (actL many qs).length ≤ 6 := by unfold actL; simp; omega
end Go.Proofs.YthnlldojidocoaaDoor
