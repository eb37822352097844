/- How a store and the reference's store lie in the heap, and what a call on them leaves. -/
import Derived.Test.YthnlldojidocoaaDoorModel
import Derived.Maps.OwnSet
import Derived.Maps.OwnOps
import Derived.Laws.CopyRow
namespace Go.Proofs.YthnlldojidocoaaDoor
open Go.RowKit Go.Maps

theorem cell_of_heap {w w' : World} {a : Addr} (h : w'.heap[a.block]? = w.heap[a.block]?) : w'.cell? a = w.cell? a := by
  unfold World.cell?; rw [h]

/-- w' is w but for the blocks of F, and new ones -/
structure Turn (F : Nat → Prop) (w w' : World) : Prop where
  os : w'.os = w.os
  tape : w'.tape = w.tape
  output : w'.output = w.output
  size : w.heap.size ≤ w'.heap.size
  block : ∀ g, g < w.heap.size → ¬ F g → w'.heap[g]? = w.heap[g]?
theorem Turn.below {F : Nat → Prop} {w w' : World} {B : Nat} (h : Turn F w w') (hF : ∀ g, F g → B ≤ g) (hB : B ≤ w.heap.size) : Below B w w' :=
  ⟨h.os, h.tape, h.output, h.size, fun k hk => h.block k (by omega) fun e => by have := hF k e; omega⟩
theorem Turn.of {F : Nat → Prop} {w w' : World} (h : Below w.heap.size w w') : Turn F w w' := ⟨h.os, h.tape, h.output, h.size, fun g hg _ => h.block g hg⟩
theorem Turn.refl (F : Nat → Prop) (w : World) : Turn F w w := ⟨rfl, rfl, rfl, Nat.le_refl _, fun _ _ _ => rfl⟩

/-- .. and the blocks that belong to the store behind it are those of F, or new. -/
structure Goes (F : Nat → Prop) (w w' : World) (F' : Nat → Prop) : Prop where
  turn : Turn F w w'
  back : ∀ g, F' g → F g ∨ w.heap.size ≤ g
theorem Goes.trans {F F1 F2 : Nat → Prop} {w w1 w2 : World} (h : Goes F w w1 F1) (k : Goes F1 w1 w2 F2) : Goes F w w2 F2 where
  turn := ⟨k.turn.os.trans h.turn.os, k.turn.tape.trans h.turn.tape, k.turn.output.trans h.turn.output, Nat.le_trans h.turn.size k.turn.size, fun g hg hF => by
    have h1 : ¬ F1 g := fun e => (h.back g e).elim hF fun h => by omega
    rw [k.turn.block g (Nat.lt_of_lt_of_le hg h.turn.size) h1, h.turn.block g hg hF]⟩
  back := fun g hg => (k.back g hg).elim (h.back g) fun h1 => .inr (Nat.le_trans h.turn.size h1)
theorem Goes.of {F : Nat → Prop} {w w' : World} (h : Below w.heap.size w w') : Goes F w w' F := ⟨Turn.of h, fun _ h => .inl h⟩
theorem Goes.refl (F : Nat → Prop) (w : World) : Goes F w w F := ⟨Turn.refl F w, fun _ h => .inl h⟩
theorem Goes.pre {F F' : Nat → Prop} {w w1 w2 : World} (h : Below w.heap.size w w1) (k : Goes F w1 w2 F') : Goes F w w2 F' := (Goes.of h).trans k

/-- The slice's cells lie in blocks of F. -/
def RowF (w : World) (F : Nat → Prop) (size : Nat) (A : Option Addr) (n c : Nat) (xs : List Value) : Prop :=
  xs.length = n * size ∧ n ≤ c ∧ (A = none → c = 0) ∧ ∀ j u, xs[j]? = some u → ∃ ad, A = some ad ∧ F ad.block ∧ w.cell? (ad.add j) = some u
theorem RowF.keep {w w' : World} {F G : Nat → Prop} {size n c : Nat} {A : Option Addr} {xs : List Value} (h : RowF w F size A n c xs) (hk : ∀ g, F g → G g ∧ w'.heap[g]? = w.heap[g]?) : RowF w' G size A n c xs :=
  ⟨h.1, h.2.1, h.2.2.1, fun j u hj => by
    obtain ⟨ad, e, hg, hc⟩ := h.2.2.2 j u hj
    exact ⟨ad, e, (hk _ hg).1, (cell_of_heap (by rw [add_block]; exact (hk _ hg).2)).trans hc⟩⟩
theorem RowF.row {w : World} {F : Nat → Prop} {size n c B : Nat} {A : Option Addr} {xs : List Value} (h : RowF w F size A n c xs) (hF : ∀ g, F g → g < B) : Row w B size A n c xs :=
  ⟨h.1, h.2.1, h.2.2.1, fun j u hj => by
    obtain ⟨ad, e, hg, hc⟩ := h.2.2.2 j u hj
    exact ⟨ad, e, hF _ hg, hc⟩⟩

/-- the value is a slice of these entries -/
def EntsF (w : World) (F : Nat → Prop) (v : Value) (es : List Ent) : Prop := ∃ A c, v = .slice A es.length c ∧ RowF w F 3 A es.length c (entsC es)
def obC (p : Ob × Value) : List Value := [.bool p.1.1, .string p.1.2.1, p.2]
def obsC (os : List Ob) (vs : List Value) : List Value := (os.zip vs).flatMap obC
theorem obsC_len {os : List Ob} {vs : List Value} (h : vs.length = os.length) : (obsC os vs).length = os.length * 3 := by
  unfold obsC
  rw [flat_len obC 3 (fun _ => rfl), List.length_zip, h, Nat.min_self]
theorem obsC_at {os : List Ob} {vs : List Value} (h : vs.length = os.length) {k j : Nat} (hk : k < os.length) (hj : j < 3) : (obsC os vs)[k * 3 + j]? = (obC (os[k], vs[k]'(by omega)))[j]? := by
  unfold obsC
  rw [flat_at obC 3 (fun _ => rfl) _ k j (by rw [List.length_zip]; omega) hj, List.getElem_zip]
theorem obsC_snoc {os : List Ob} {vs : List Value} (h : vs.length = os.length) (o : Ob) (u : Value) : obsC (os ++ [o]) (vs ++ [u]) = obsC os vs ++ obC (o, u) := by
  unfold obsC
  rw [List.zip_append h.symm, List.flatMap_append]
  simp
theorem entsC_at (es : List Ent) {k j : Nat} (hk : k < es.length) (hj : j < 3) : (entsC es)[k * 3 + j]? = (entC es[k])[j]? := flat_at entC 3 entC_len es k j hk hj

/-- The slice v holds the objects os; their entries lie in the blocks of In. -/
def Obs (w : World) (T : TypeId) (In : Nat → Prop) (v : Value) (os : List Ob) : Prop :=
  ∃ vs : List Value, vs.length = os.length ∧ w.ownsRow 0 T 3 v os.length (obsC os vs) ∧ ∀ (i : Nat) (o : Ob) (u : Value), os[i]? = some o → vs[i]? = some u → EntsF w In u o.2.2

theorem owns_keep {w w' : World} {base size n : Nat} {e : TypeId} {v : Value} {xs : List Value} (h : w.ownsRow base e size v n xs) (hb : ∀ g, v.ownBlock = some g → w'.heap[g]? = w.heap[g]?) : w'.ownsRow base e size v n xs := by
  refine ⟨h.1, ?_⟩
  rcases h.2 with h0 | ⟨g, cap, cur, rfl, hg, hh, h3⟩
  · exact .inl h0
  · exact .inr ⟨g, cap, cur, rfl, hg, (hb g rfl).trans hh, h3⟩
theorem owns_lt {w : World} {base size n : Nat} {e : TypeId} {v : Value} {xs : List Value} (h : w.ownsRow base e size v n xs) : ∀ g, v.ownBlock = some g → g < w.heap.size := by
  intro g hg
  rcases h.2 with ⟨rfl, _⟩ | ⟨g', cap, cur, rfl, _, hh, _⟩
  · simp [Value.ownBlock] at hg
  · obtain rfl : g' = g := by simpa [Value.ownBlock] using hg
    exact (Array.getElem?_eq_some_iff.1 hh).1
theorem owns_row {w : World} {base size n c : Nat} {e : TypeId} {A : Option Addr} {xs : List Value} {F : Nat → Prop} (h : w.ownsRow base e size (.slice A n c) n xs) (hF : ∀ g, (Value.slice A n c).ownBlock = some g → F g) : RowF w F size A n c xs := by
  have hl := h.1
  rcases h.2 with ⟨hv, h0⟩ | ⟨g, cap, cur, hv, _, hg, hle, _⟩
  · injection hv with h1 h2 h3
    subst h1 h2 h3
    have hx : xs = [] := List.eq_nil_of_length_eq_zero (by simpa using hl)
    subst hx
    exact ⟨by simp, Nat.le_refl _, fun _ => rfl, fun j u hj => by simp at hj⟩
  · injection hv with h1 h2 h3
    subst h1 h3
    exact ⟨hl, by omega, fun h => (by cases h), fun j u hj => ⟨_, rfl, hF g rfl, h.cells (g := g) rfl j u hj⟩⟩

theorem Obs.keep {w w' : World} {T : TypeId} {In In' : Nat → Prop} {v : Value} {os : List Ob} (h : Obs w T In v os) (hv : ∀ g, v.ownBlock = some g → w'.heap[g]? = w.heap[g]?) (hk : ∀ g, In g → In' g ∧ w'.heap[g]? = w.heap[g]?) : Obs w' T In' v os := by
  obtain ⟨vs, h1, h2, h3⟩ := h
  refine ⟨vs, h1, owns_keep h2 hv, fun i o u ho hu => ?_⟩
  obtain ⟨A, c, e, hr⟩ := h3 i o u ho hu
  exact ⟨A, c, e, hr.keep hk⟩
theorem Obs.nil (w : World) (T : TypeId) (In : Nat → Prop) : Obs w T In (.slice none 0 0) [] := ⟨[], rfl, World.ownsRow_nil _ _ _ _, fun i o u h => by simp at h⟩

/-- what the map finds an object by -/
def klOf (o : Ob) : Lit := .string (keyBytes [.bool o.1, .string (ident o).data.toList])
def keyV (o : Ob) : Value := .agg #[.bool o.1, .string (ident o)]
def MapIs (D : DataW Unit) (os : List Ob) : Prop :=
  IsMap D ∧ (∀ (i : Nat) (o : Ob), os[i]? = some o → has D (klOf o) = true ∧ ∀ z, D.atKey (klOf o) z = .lit (.int .i64 ((i : Int) + 1))) ∧ ∀ kl, has D kl = true → ∃ o ∈ os, klOf o = kl
theorem MapIs.nil : MapIs (.map []) [] := ⟨isMap_empty, fun i o h => by simp at h, fun kl h => by simp [has] at h⟩
theorem MapIs.snoc {D : DataW Unit} {os : List Ob} (h : MapIs D os) {o : Ob} (hk : WideAt.IsKeyLit (klOf o)) (hn : ∀ x ∈ os, klOf x ≠ klOf o) : MapIs (D.put (klOf o) (.lit (.int .i64 ((os.length : Int) + 1)))) (os ++ [o]) := by
  obtain ⟨h1, h2, h3⟩ := h
  refine ⟨h1.put _ _, fun i x hx => ?_, fun kl hkl => ?_⟩
  · rcases Nat.lt_or_ge i os.length with hi | hi
    · rw [List.getElem?_append_left hi] at hx
      have hne := hn x (List.mem_of_getElem? hx)
      obtain ⟨a, b⟩ := h2 i x hx
      exact ⟨by rw [has_put_other hne]; exact a, fun z => by rw [atKey_put_other hne]; exact b z⟩
    · rw [List.getElem?_append_right hi] at hx
      have hi0 : i = os.length := by
        have := (List.getElem?_eq_some_iff.1 hx).1
        simp at this; omega
      subst hi0
      obtain rfl : o = x := by simpa using hx
      exact ⟨has_put_same h1 hk _, fun z => atKey_put_same h1 hk _ z⟩
  · by_cases hne : kl = klOf o
    · exact ⟨o, by simp, hne.symm⟩
    · rw [has_put_other hne] at hkl
      obtain ⟨x, hx, e⟩ := h3 kl hkl
      exact ⟨x, by simp [hx], e⟩

/-- A store at block p holds the objects os, in blocks of F, from B on. -/
structure StoreH (B : Nat) (w : World) (p : Nat) (os : List Ob) (F : Nat → Prop) (v : Value) (m : Option Nat) (In : Nat → Prop) : Prop where
  full : Full w p 36 [v, .map m]
  obs : Obs w 72 In v os
  inn : ∀ g, In g → F g ∧ g ≠ p ∧ v.ownBlock ≠ some g ∧ m ≠ some g
  self : F p
  row : ∀ g, v.ownBlock = some g → F g ∧ g ≠ p
  map : (m = none ∧ os = []) ∨ ∃ b D, m = some b ∧ F b ∧ w.ownsMap Tryd.prog 68 (plainElem Tryd.prog 3) b os.length D ∧ MapIs D os
  fine : Fine os
  in_ : ∀ g, F g → B ≤ g ∧ g < w.heap.size
def IsStore (B : Nat) (w : World) (p : Nat) (os : List Ob) (F : Nat → Prop) : Prop := ∃ v m In, StoreH B w p os F v m In

theorem ownsMap_keep {w w' : World} {H : Type} {k : TypeId} {R : Value → Option (DataW H × List MemPlace)} {b n : Nat} {D : DataW H} (h : w.ownsMap Tryd.prog k R b n D) (hb : w'.heap[b]? = w.heap[b]?) : w'.ownsMap Tryd.prog k R b n D := by
  unfold World.ownsMap at h ⊢
  rw [hb]; exact h
theorem StoreH.keep {B : Nat} {w w' : World} {p : Nat} {os : List Ob} {F : Nat → Prop} {v : Value} {m : Option Nat} {In : Nat → Prop} (h : StoreH B w p os F v m In)
    (hk : ∀ g, F g → w'.heap[g]? = w.heap[g]?) (hs : w.heap.size ≤ w'.heap.size) : StoreH B w' p os F v m In where
  full := (hk p h.self).trans h.full
  obs := h.obs.keep (fun g hg => hk g (h.row g hg).1) fun g hg => ⟨hg, hk g (h.inn g hg).1⟩
  inn := h.inn
  self := h.self
  row := h.row
  map := h.map.imp id fun ⟨b, D, e, hb, ho, hm⟩ => ⟨b, D, e, hb, ownsMap_keep ho (hk b hb), hm⟩
  fine := h.fine
  in_ := fun g hg => ⟨(h.in_ g hg).1, Nat.lt_of_lt_of_le (h.in_ g hg).2 hs⟩
theorem StoreH.on {B : Nat} {w w' : World} {p : Nat} {os : List Ob} {F : Nat → Prop} {v : Value} {m : Option Nat} {In : Nat → Prop} (h : StoreH B w p os F v m In) (hb : Below w.heap.size w w') : StoreH B w' p os F v m In :=
  h.keep (fun g hg => hb.block g (h.in_ g hg).2) hb.size
theorem IsStore.keep {B : Nat} {w w' : World} {p : Nat} {os : List Ob} {F : Nat → Prop} (h : IsStore B w p os F) (hk : ∀ g, F g → w'.heap[g]? = w.heap[g]?) (hs : w.heap.size ≤ w'.heap.size) : IsStore B w' p os F := by
  obtain ⟨v, m, In, h⟩ := h
  exact ⟨v, m, In, h.keep hk hs⟩
theorem IsStore.on {B : Nat} {w w' : World} {p : Nat} {os : List Ob} {F : Nat → Prop} (h : IsStore B w p os F) (hb : Below w.heap.size w w') : IsStore B w' p os F := by
  obtain ⟨v, m, In, h⟩ := h
  exact ⟨v, m, In, h.on hb⟩
theorem IsStore.fine {B : Nat} {w : World} {p : Nat} {os : List Ob} {F : Nat → Prop} (h : IsStore B w p os F) : Fine os := by
  obtain ⟨v, m, In, h⟩ := h
  exact h.fine
theorem IsStore.in_ {B : Nat} {w : World} {p : Nat} {os : List Ob} {F : Nat → Prop} (h : IsStore B w p os F) : ∀ g, F g → B ≤ g ∧ g < w.heap.size := by
  obtain ⟨v, m, In, h⟩ := h
  exact h.in_
/-- another's call on blocks that are not this store's -/
theorem IsStore.apart {B : Nat} {w w' : World} {p : Nat} {os : List Ob} {F G : Nat → Prop} (h : IsStore B w p os F) (ht : Turn G w w') (hG : ∀ g, F g → ¬ G g) : IsStore B w' p os F :=
  h.keep (fun g hg => ht.block g (h.in_ g hg).2 (hG g hg)) ht.size
/-- the new store -/
theorem IsStore.new (w : World) {B : Nat} (hB : B ≤ w.heap.size) : IsStore B (w.alloc (.cells #[.slice none 0 0, .map none] 36)) w.heap.size [] (fun g => g = w.heap.size) :=
  ⟨.slice none 0 0, none, fun _ => False, Full.new w 36 [.slice none 0 0, .map none], Obs.nil _ _ _, fun g h => h.elim, rfl, fun g h => by simp [Value.ownBlock] at h, .inl ⟨rfl, rfl⟩, Fine.nil, fun g h => by subst h; simp [hB]⟩

/-- The reference's store at block p. -/
structure RefH (B : Nat) (w : World) (p : Nat) (os : List Ob) (F : Nat → Prop) (v : Value) (In : Nat → Prop) : Prop where
  full : Full w p 29 [v]
  obs : Obs w 79 In v os
  inn : ∀ g, In g → F g ∧ g ≠ p ∧ v.ownBlock ≠ some g
  self : F p
  row : ∀ g, v.ownBlock = some g → F g ∧ g ≠ p
  in_ : ∀ g, F g → B ≤ g ∧ g < w.heap.size
def IsRef (B : Nat) (w : World) (p : Nat) (os : List Ob) (F : Nat → Prop) : Prop := ∃ v In, RefH B w p os F v In
theorem RefH.keep {B : Nat} {w w' : World} {p : Nat} {os : List Ob} {F : Nat → Prop} {v : Value} {In : Nat → Prop} (h : RefH B w p os F v In)
    (hk : ∀ g, F g → w'.heap[g]? = w.heap[g]?) (hs : w.heap.size ≤ w'.heap.size) : RefH B w' p os F v In where
  full := (hk p h.self).trans h.full
  obs := h.obs.keep (fun g hg => hk g (h.row g hg).1) fun g hg => ⟨hg, hk g (h.inn g hg).1⟩
  inn := h.inn
  self := h.self
  row := h.row
  in_ := fun g hg => ⟨(h.in_ g hg).1, Nat.lt_of_lt_of_le (h.in_ g hg).2 hs⟩
theorem RefH.on {B : Nat} {w w' : World} {p : Nat} {os : List Ob} {F : Nat → Prop} {v : Value} {In : Nat → Prop} (h : RefH B w p os F v In) (hb : Below w.heap.size w w') : RefH B w' p os F v In :=
  h.keep (fun g hg => hb.block g (h.in_ g hg).2) hb.size
theorem IsRef.keep {B : Nat} {w w' : World} {p : Nat} {os : List Ob} {F : Nat → Prop} (h : IsRef B w p os F) (hk : ∀ g, F g → w'.heap[g]? = w.heap[g]?) (hs : w.heap.size ≤ w'.heap.size) : IsRef B w' p os F := by
  obtain ⟨v, In, h⟩ := h
  exact ⟨v, In, h.keep hk hs⟩
theorem IsRef.on {B : Nat} {w w' : World} {p : Nat} {os : List Ob} {F : Nat → Prop} (h : IsRef B w p os F) (hb : Below w.heap.size w w') : IsRef B w' p os F := by
  obtain ⟨v, In, h⟩ := h
  exact ⟨v, In, h.on hb⟩
theorem IsRef.in_ {B : Nat} {w : World} {p : Nat} {os : List Ob} {F : Nat → Prop} (h : IsRef B w p os F) : ∀ g, F g → B ≤ g ∧ g < w.heap.size := by
  obtain ⟨v, In, h⟩ := h
  exact h.in_
theorem IsRef.apart {B : Nat} {w w' : World} {p : Nat} {os : List Ob} {F G : Nat → Prop} (h : IsRef B w p os F) (ht : Turn G w w') (hG : ∀ g, F g → ¬ G g) : IsRef B w' p os F :=
  h.keep (fun g hg => ht.block g (h.in_ g hg).2 (hG g hg)) ht.size
theorem IsRef.new (w : World) {B : Nat} (hB : B ≤ w.heap.size) : IsRef B (w.alloc (.cells #[.slice none 0 0] 29)) w.heap.size [] (fun g => g = w.heap.size) :=
  ⟨.slice none 0 0, fun _ => False, Full.new w 29 [.slice none 0 0], Obs.nil _ _ _, fun g h => h.elim, rfl, fun g h => by simp [Value.ownBlock] at h, fun g h => by subst h; simp [hB]⟩

/-- the key's type -/
theorem row68 : (68 : TypeId) < Tryd.prog.types.size := of_decide_eq_true (by kernel_rfl)
theorem wide68 : (match Tryd.prog.underlying 68 with | some (.array _ _) | some (.struct _) => true | _ => false) = true := by kernel_rfl
theorem law68 : Keyed Tryd.prog 68 := Keyed.of_law (deep_law_laid laidOut (m := 2) (by omega) row68 (by kernel_rfl) wide68)
theorem size68 : Tryd.prog.types.size = 110 := by kernel_rfl
theorem type68 : Tryd.prog.keyType 68 = true := by kernel_rfl
theorem cells68 : Tryd.prog.cellsOf 68 = 2 := by kernel_rfl
theorem cells4 : Tryd.prog.cellsOf 4 = 1 := by kernel_rfl
theorem cells9 : Tryd.prog.cellsOf 9 = 1 := by kernel_rfl
theorem lits4 (d : Nat) (b : Bool) : Tryd.prog.keyLits (d + 1) 4 [.bool b] = some [.bool b] := by
  unfold Program.keyLits
  rw [Tryd.underlying4]
theorem lits9 (d : Nat) (s : ByteArray) (hs : s.size ≤ maxLen) : Tryd.prog.keyLits (d + 1) 9 [.string s] = some [.string s.data.toList] := by
  unfold Program.keyLits
  rw [Tryd.underlying9]
  exact if_pos hs
set_option maxRecDepth 10000 in
theorem keyOf68 (b : Bool) (s : ByteArray) (hs : s.size ≤ maxLen) : keyOf Tryd.prog 68 (.agg #[.bool b, .string s]) = some (.string (keyBytes [.bool b, .string s.data.toList])) := by
  have hl : Tryd.prog.keyLits (Tryd.prog.types.size + 1) 68 [.bool b, .string s] = some [.bool b, .string s.data.toList] := by
    rw [size68]
    show Tryd.prog.keyLits (109 + 1 + 1) 68 _ = _
    unfold Program.keyLits
    rw [Tryd.underlying68]
    have e4 := lits4 109 b
    have e9 := lits9 109 s hs
    simp [cells68, cells4, cells9, e4, e9]
  have hf : (Value.agg #[.bool b, .string s]).formed Tryd.prog 68 = true := by simp [Value.formed, Tryd.underlying68, cells68]
  rw [size68] at hl
  have hl' : Tryd.prog.keyLits 111 68 [.bool b, .string s] = some [.bool b, .string s.data.toList] := hl
  simp [keyOf, Tryd.underlying68, type68, hf, Value.cells, size68, hl']
theorem klOf_key (o : Ob) : WideAt.IsKeyLit (klOf o) := trivial
theorem keyOf_ob (o : Ob) (h : (ident o).size ≤ maxLen) : keyOf Tryd.prog 68 (keyV o) = some (klOf o) := keyOf68 _ _ h
/-- different objects have different keys -/
theorem klOf_inj {os : List Ob} {a b : Ob} (ha : obOk os a) (hb : obOk os b) (h1 : (ident a).size ≤ maxLen) (h2 : (ident b).size ≤ maxLen) (h : klOf a = klOf b) : a = b := by
  have e := law68.inj (keyOf_ob a h1) ((keyOf_ob b h2).trans (by rw [h]))
  unfold keyV at e
  injection e with e
  have e1 := congrArg (fun x : Array Value => x[0]?) e
  have e2 := congrArg (fun x : Array Value => x[1]?) e
  simp at e1 e2
  exact ident_inj ha hb e1 e2
end Go.Proofs.YthnlldojidocoaaDoor
