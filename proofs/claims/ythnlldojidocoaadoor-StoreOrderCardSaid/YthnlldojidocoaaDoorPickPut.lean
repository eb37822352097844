/- An entry is written into a law's own slice of entries. -/
import Derived.Test.YthnlldojidocoaaDoorPick
namespace Go.Proofs.YthnlldojidocoaaDoor
theorem own_set {W : World} {base g n c size q : Nat} {t : TypeId} {xs : List Value} (h : W.ownsRow base t size (.slice (some ⟨g, 0, none⟩) n c) n xs) (hq : q < n * size) (u : Value) :
    (W.setCell ⟨g, q, none⟩ u).ownsRow base t size (.slice (some ⟨g, 0, none⟩) n c) n (xs.set q u) := by
  refine ⟨by rw [List.length_set]; exact h.1, ?_⟩
  rcases h.2 with ⟨h0, _⟩ | ⟨g', cap, cur, hv, hb, hh, hle, hm, hcs, ht⟩
  · cases h0
  · have e := hv
    injection e with h1 _ h3
    injection h1 with h1
    injection h1 with h1
    subst h1 h3
    refine .inr ⟨g, c, cur.setIfInBounds q u, rfl, hb, by simp [World.setCell, Array.getElem?_modify, hh], hle, hm, by simp [hcs], ?_⟩
    rw [Array.toList_setIfInBounds, List.take_set, ht]
theorem Mine.put1 {w W : World} {g n c q : Nat} {T : TypeId} {size : Nat} {xs : List Value} {F : Nat → Prop} (h : Mine w W (.slice (some ⟨g, 0, none⟩) n c) T size n xs F) (hq : q < n * size) (u : Value) :
    Mine w (W.setCell ⟨g, q, none⟩ u) (.slice (some ⟨g, 0, none⟩) n c) T size n (xs.set q u) F := ⟨own_set h.own hq u, h.free⟩
/-- the world in which an entry was written -/
def put3 (W : World) (g i : Nat) (e : Ent) : World := ((W.setCell ⟨g, i * 3, none⟩ (.string e.1)).setCell ⟨g, i * 3 + 1, none⟩ (.bool e.2.1)).setCell ⟨g, i * 3 + 2, none⟩ (.int .i64 e.2.2)
theorem Mine.put3 {w W : World} {p g n c i : Nat} {es : List Ent} {os : List Ob} {F : Nat → Prop} {v : Value} {T : TypeId} {size k : Nat} {xs : List Value} (hst : StW w W p os F) (h : Mine w W (.slice (some ⟨g, 0, none⟩) n c) 48 3 n (entsC es) F) (hn : es.length = n) (hi : i < n) (e : Ent)
    (ho : Mine w W v T size k xs F) (hne : v.ownBlock ≠ some g) :
    StW w (put3 W g i e) p os F ∧ Mine w (put3 W g i e) (.slice (some ⟨g, 0, none⟩) n c) 48 3 n (entsC (es.set i e)) F ∧ Mine w (put3 W g i e) v T size k xs F := by
  have hl := h.lt g rfl
  refine ⟨((hst.set_ (a := ⟨g, i * 3, none⟩) hl.1 hl.2.2 _).set_ (a := ⟨g, i * 3 + 1, none⟩) hl.1 hl.2.2 _).set_ (a := ⟨g, i * 3 + 2, none⟩) hl.1 hl.2.2 _, ?_, ((ho.set_ (a := ⟨g, i * 3, none⟩) hne _).set_ (a := ⟨g, i * 3 + 1, none⟩) hne _).set_ (a := ⟨g, i * 3 + 2, none⟩) hne _⟩
  have := ((h.put1 (q := i * 3) (by omega) (.string e.1)).put1 (q := i * 3 + 1) (by omega) (.bool e.2.1)).put1 (q := i * 3 + 2) (by omega) (.int .i64 e.2.2)
  rwa [entsC_set es i e (by omega)] at this
theorem swap_es (L : List Nat) (i j : Nat) : ((es8 L).set i (ent8 (L.getD j 0))).set j (ent8 (L.getD i 0)) = es8 (swap8 L i j) := by
  unfold es8 swap8
  rw [List.map_set, List.map_set]
theorem Ok8.two (es : List Ent) : Ok8 [oTx, treeO es] := by
  have := Ok8.put (os := [oTx]) fine8 (treeO es)
  rwa [put_two _ (tree_ne _)] at this
/-- what Tree answers to two entries exchanged -/
def SwapR (w : World) (p gm n cm : Nat) (L : List Nat) (i j : Nat) (e : Ending) (W' : World) : Prop :=
  ∃ (x : Int) (os : List Ob) (F : Nat → Prop), e = .returned (.tuple #[.int .i64 x, .int .i64 (if i = j then 0 else 1)]) ∧ StW w W' p os F ∧ Ok8 os ∧ os.length ≤ 3 ∧ Mine w W' (.slice (some ⟨gm, 0, none⟩) n cm) 48 3 n (entsC (es8 (swap8 L i j))) F
theorem put_len8 (os : List Ob) (o : Ob) : (put os o).length ≤ os.length + 1 := by
  unfold put
  split
  · omega
  · simp
theorem swapW {w W : World} {p gm n cm i j : Nat} {L : List Nat} {F : Nat → Prop} (h : StW w W p [oTx, treeO (es8 L)] F) (hn : L.length = n) (hn8 : n ≤ 8) (hi : i < n) (hj : j < n) (h8 : ∀ x ∈ L, x < 8) (hp : L.Pairwise (· < ·))
    (hM : Mine w W (.slice (some ⟨gm, 0, none⟩) n cm) 48 3 n (entsC (es8 (swap8 L i j))) F) :
    Calls Tryd.prog 21 #[.pointer (some ⟨p, 0, none⟩), .slice (some ⟨gm, 0, none⟩) n cm] W (SwapR w p gm n cm L i j) := by
  have hl : (es8 (swap8 L i j)).length = n := by rw [es8_len, swap8_len, hn]
  have hE := hM.ents hl
  have hok := swap_ok (Ok8.two (es8 L)) (i := i) (j := j) (by omega) (by omega) h8 hp
  by_cases hij : i = j
  · rw [decide_eq_true hij] at hok
    have := treeW h (by simp) _ _ cm hE (by omega) hok
    rw [hl] at this
    refine this.mono ?_
    rintro e W' ⟨rfl, F', h', hg⟩
    refine ⟨_, _, F', by rw [if_pos hij], h', (Ok8.two _).put _, ?_, hM.goes hg⟩
    have := put_len8 [oTx, treeO (es8 L)] (treeO (es8 (swap8 L i j)))
    simpa using this
  · rw [decide_eq_false hij] at hok
    have := treeW_bad h (by simp) _ _ cm hE (sound8 (swap8_lt (by omega) (by omega) h8)) (by omega) hok
    rw [hl] at this
    refine this.mono ?_
    rintro e W' ⟨rfl, h', hb⟩
    exact ⟨_, _, F, by rw [if_neg hij], h', Ok8.two _, by simp, hM.on hb⟩
/-- what Tree answers to an entry twice -/
theorem repW {w W : World} {p m c x : Nat} {os : List Ob} {M : List Nat} {A : Option Addr} {F : Nat → Prop} (h : StW w W p os F) (ho : Ok8 os) (hl : os.length ≤ 3) (hm : 1 + (x :: M).length = m) (hm9 : m ≤ 9) (h8 : ∀ y ∈ x :: M, y < 8) {base : Nat}
    (hO : W.ownsRow base 48 3 (.slice A m c) m (entC (ent8 x) ++ entsC (es8 (x :: M)))) :
    Calls Tryd.prog 21 #[.pointer (some ⟨p, 0, none⟩), .slice A m c] W (BadW w W p os F) := by
  have hlen : (es8 (x :: x :: M)).length = m := by rw [es8_len, ← hm]; simp; omega
  have he : entC (ent8 x) ++ entsC (es8 (x :: M)) = entsC (es8 (x :: x :: M)) := rfl
  rw [he] at hO
  have hE : Ents W W.heap.size A c (es8 (x :: x :: M)) := by
    have := Row.own hO
    unfold Ents
    rw [hlen]
    exact this
  have := treeW_bad h (by omega) A (es8 (x :: x :: M)) c hE (sound8 (fun y hy => (List.mem_cons.1 hy).elim (fun e => e ▸ h8 x (by simp)) (fun hy => h8 y hy))) (by omega) (rep_ok ho h8)
  rwa [hlen] at this
end Go.Proofs.YthnlldojidocoaaDoor
