/- HistoryAdds: an arbitrary commit as an argument; both histories behind an Add, whatever it answers. -/
import Derived.Test.YtiikbekboapphaaLawKit
import Derived.Test.YtiikbekboapphaaOpenL
namespace Go.Proofs.Ytiikbekboapphaa
set_option maxRecDepth 100000
open Go.ChangeShapes Go.WideShapes Go.ChangeAt Go.RowKit Go.Maps

theorem bulk_pos {H : Type} (d : DataW H) : 1 ≤ Rows.uptoBulk d := by
  cases d <;> first | (simp [Rows.uptoBulk]; done) | (rename_i l; cases l <;> simp [Rows.uptoBulk])
theorem bulk_len {H : Type} : ∀ (l : List (DataW H)), l.length ≤ Rows.uptoBulkAll l
  | [] => Nat.zero_le _
  | d :: r => by
    have h1 := bulk_pos d
    have h2 := bulk_len r
    simp only [Rows.uptoBulkAll, List.length_cons]
    omega
section
variable {H : Type} {enc : TypeId × Value → H} {W : World} {b2 : Nat} {sp : Nat → Bool} {held : Bool}
theorem ints_bulk {fuel : Nat} {cs : List Value} {x : DataW H × List MemPlace} (hf : DataW.trod enc Try.prog W b2 sp held fuel 23 cs = some x) :
    ∃ (A : Option Addr) (zs : List Int) (c : Nat), cs = [.slice A zs.length c] ∧ Row W W.heap.size 1 A zs.length c (intC zs) ∧ zs.length ≤ Rows.uptoBulk x.1 := by
  have hc3 : Try.prog.cellsOf 3 = 1 := by kernel_rfl
  rcases Go.Deep.open_slice Try.underlying23 hf with ⟨h0, _⟩ | ⟨a, len, cap, m, fu, D, Pl, h0, hb, hlc, hcm, hm, hx, hel⟩
  · exact ⟨none, [], 0, h0, Row.empty _ _ _, Nat.zero_le _⟩
  · have hlm : len ≤ m := by rw [hm]; split <;> omega
    obtain ⟨zs, hzl, hz⟩ := list_of len (fun i (z : Int) => W.cell? (a.add i) = some (.int .i64 z)) fun i hi => by
      obtain ⟨cs', hcs, ht⟩ := hel i (by omega)
      rw [hc3, Nat.mul_one] at hcs
      obtain ⟨c0, rfl, k0⟩ := cells1 hcs
      obtain ⟨x0, e0, _⟩ := DataW.trod_int (k := .i64) Try.underlying3 ht
      simp only [List.cons.injEq, and_true] at e0
      subst e0
      exact ⟨x0, k0⟩
    refine ⟨some a, zs, cap, by rw [h0, hzl], ⟨by rw [intC_len, Nat.mul_one], by omega, fun e => (by cases e), fun j u hj => ?_⟩, ?_⟩
    · unfold intC at hj
      rw [List.getElem?_map] at hj
      obtain ⟨z, hz1, rfl⟩ := Option.map_eq_some_iff.1 hj
      obtain ⟨hjl, rfl⟩ := List.getElem?_eq_some_iff.1 hz1
      have hc := hz j hjl
      refine ⟨a, rfl, ?_, hc⟩
      have := World.block_lt_of_cell? W _ hc
      rwa [add_block] at this
    · rw [hx]
      have := bulk_len ((List.range len).map D)
      rw [List.length_map, List.length_range] at this
      simp only [Rows.uptoBulk]
      omega
theorem open_commit {b1 : Nat} {v : Value} {d : DataW H} {p : List MemPlace} (h : DataW.Trod enc Try.prog W b2 sp held 25 v d p) (hval : Value.okWide Try.prog W .any b1 25 v) :
    ∃ (A1 A2 : Option Addr) (ps ch : List Int) (c1 c2 : Nat) (t : Int) (au : ByteArray) (em : Bool), v = .agg #[.slice A1 ps.length c1, .int .i64 t, .string au, .slice A2 ch.length c2, .bool em] ∧
      Row W W.heap.size 1 A1 ps.length c1 (intC ps) ∧ Row W W.heap.size 1 A2 ch.length c2 (intC ch) ∧ ps.length ≤ Rows.uptoBulk d ∧ ch.length ≤ Rows.uptoBulk d := by
  have hc25 : Try.prog.cellsOf 25 = 5 := by kernel_rfl
  have hc3 : Try.prog.cellsOf 3 = 1 := by kernel_rfl
  have hc4 : Try.prog.cellsOf 4 = 1 := by kernel_rfl
  have hc9 : Try.prog.cellsOf 9 = 1 := by kernel_rfl
  have hc23 : Try.prog.cellsOf 23 = 1 := by kernel_rfl
  obtain ⟨cs, rfl, hsz⟩ := okWide_struct Try.underlying25 hval
  have hsz : cs.size = 5 := hsz.trans hc25
  obtain ⟨u0, u1, u2, u3, u4, rfl⟩ : ∃ a b c d e, cs = #[a, b, c, d, e] := by
    match cs, hsz with
    | ⟨[a, b, c, d, e]⟩, _ => exact ⟨a, b, c, d, e, rfl⟩
  obtain ⟨fuel, hf⟩ := h
  obtain ⟨xs, n, _, hx, hl, hlen, hat⟩ := DataW.trod_struct Try.underlying25 hf
  have hvl : (Value.agg #[u0, u1, u2, u3, u4]).cells.toList = [u0, u1, u2, u3, u4] := rfl
  rw [hvl] at hat
  match xs, hlen with
  | [y0, y1, y2, y3, y4], _ =>
    have t0 := by simpa [hc23, hc3, hc9, hc4] using hat 0 _ rfl
    have t1 := by simpa [hc23, hc3, hc9, hc4] using hat 1 _ rfl
    have t2 := by simpa [hc23, hc3, hc9, hc4] using hat 2 _ rfl
    have t3 := by simpa [hc23, hc3, hc9, hc4] using hat 3 _ rfl
    have t4 := by simpa [hc23, hc3, hc9, hc4] using hat 4 _ rfl
    obtain ⟨A1, ps, c1, e0, r1, l1⟩ := ints_bulk t0
    obtain ⟨x1, e1, _, w1⟩ := DataW.trod_int (k := .i64) Try.underlying3 t1
    obtain ⟨x2, e2, _, w2⟩ := DataW.trod_string Try.underlying9 t2
    obtain ⟨A2, ch, c2, e3, r2, l2⟩ := ints_bulk t3
    obtain ⟨x4, e4, _⟩ := DataW.trod_bool Try.underlying4 t4
    simp only [List.cons.injEq, and_true] at e0 e1 e2 e3 e4
    subst e0 e1 e2 e3 e4
    have hd : d = .agg [y0.1, y1.1, y2.1, y3.1, y4.1] := (Prod.mk.inj hx).1
    refine ⟨A1, A2, ps, ch, c1, c2, x1, x2, x4, rfl, r1, r2, ?_, ?_⟩
    · rw [hd]; simp only [Rows.uptoBulk, Rows.uptoBulkAll]; omega
    · rw [hd]; simp only [Rows.uptoBulk, Rows.uptoBulkAll]; omega
end
/-- what an Add leaves -/
def addP (cs : List Cm) (c : Cm) : List Cm := if canBe cs.length c.ps then cs ++ [c] else cs
def addV (cs : List Cm) (c : Cm) : Int := if canBe cs.length c.ps then (cs.length : Int) + 1 else 0
def addE (cs : List Cm) (c : Cm) : Int := if canBe cs.length c.ps then 0 else 1
/-- both histories hold the commits cs, whose lists may be long -/
structure TB (w W : World) (p q : Nat) (cs : List Cm) : Prop where
  below : Below w.heap.size w W
  his : ∃ F G, IsH w.heap.size W p cs F ∧ IsR w.heap.size W q cs G ∧ ∀ g, F g → ¬ G g
  few : ∀ c ∈ cs, c.ch.length ≤ 1099511627776
/-- between the two calls of Add -/
structure MB (w W : World) (p q : Nat) (cs : List Cm) (c : Cm) : Prop where
  below : Below w.heap.size w W
  his : ∃ F G, IsH w.heap.size W p (addP cs c) F ∧ IsR w.heap.size W q cs G ∧ ∀ g, F g → ¬ G g
section
variable {w W : World} {p q : Nat} {cs : List Cm}
theorem Two.add_ (h : Two w W p q cs) (hs : cs.length ≤ 1000) {m1 d1 m2 d2 : Nat} {A1 A2 : Option Addr} {ps ch : List Int} {t : Int} {au : ByteArray} {em : Bool}
    (r1 : Row W w.heap.size 1 A1 m1 d1 (intC ps)) (r2 : Row W w.heap.size 1 A2 m2 d2 (intC ch)) (hm1 : m1 ≤ 1099511627776) (hm2 : m2 ≤ 1099511627776) {b : Nat} (hb : b < w.heap.size) :
    Calls Try.prog 16 #[.pointer (some ⟨p, 0, none⟩), .agg #[.slice A1 m1 d1, .int .i64 t, .string au, .slice A2 m2 d2, .bool em]] W fun e W' => e = .returned (.tuple #[.int .i64 (addV cs ⟨ps, t, au, ch, em⟩), .int .i64 (addE cs ⟨ps, t, au, ch, em⟩)]) ∧ MB w W' p q cs ⟨ps, t, au, ch, em⟩ := by
  obtain ⟨F, G, h1, h2, h3⟩ := h.his
  refine (add_any h1 hs r1 r2 h.below.size hm1 hm2).mono ?_
  rintro e W' (⟨k0, rfl, F', k2, k3⟩ | ⟨k0, rfl, k1⟩)
  · dsimp only at k0
    refine ⟨by unfold addV addE; dsimp only; rw [k0]; rfl, h.below.trans (k3.below (fun g hg => (h1.in_ g hg).1) h.below.size), F', G, by unfold addP; dsimp only; rw [k0]; exact k2, h2.apart k3.turn (fun g hg hf => h3 g hf hg), fun g hf hg => (k3.back g hf).elim (fun e => h3 g e hg) (fun e => by have := (h2.in_ g hg).2; omega)⟩
  · dsimp only at k0
    refine ⟨by unfold addV addE; dsimp only; rw [k0]; rfl, Below.then_ h.below k1, F, G, by unfold addP; dsimp only; rw [k0]; exact h1.on k1, h2.on k1, h3⟩
theorem MB.add_ {m1 d1 m2 d2 : Nat} {A1 A2 : Option Addr} {ps ch : List Int} {t : Int} {au : ByteArray} {em : Bool} (h : MB w W p q cs ⟨ps, t, au, ch, em⟩) (hs : cs.length ≤ 1000) (hfew : ∀ c ∈ cs, c.ch.length ≤ 1)
    (r1 : Row W w.heap.size 1 A1 m1 d1 (intC ps)) (r2 : Row W w.heap.size 1 A2 m2 d2 (intC ch)) (hm1 : m1 ≤ 1099511627776) (hm2 : m2 ≤ 1099511627776) :
    Calls Try.prog 17 #[.pointer (some ⟨q, 0, none⟩), .agg #[.slice A1 m1 d1, .int .i64 t, .string au, .slice A2 m2 d2, .bool em]] W fun e W' => e = .returned (.tuple #[.int .i64 (addV cs ⟨ps, t, au, ch, em⟩), .int .i64 (addE cs ⟨ps, t, au, ch, em⟩)]) ∧ TB w W' p q (addP cs ⟨ps, t, au, ch, em⟩) := by
  obtain ⟨F, G, h1, h2, h3⟩ := h.his
  have hch := len_of r2
  have hfw : ∀ c ∈ addP cs ⟨ps, t, au, ch, em⟩, c.ch.length ≤ 1099511627776 := fun c hc => by
    unfold addP at hc
    split at hc
    · rcases List.mem_append.1 hc with hc | hc
      · have := hfew c hc; omega
      · have : c = ⟨ps, t, au, ch, em⟩ := by simpa using hc
        rw [this]
        show ch.length ≤ _
        omega
    · have := hfew c hc; omega
  refine (refAdd_any h2 hs r1 r2 h.below.size hm1 hm2).mono ?_
  rintro e W' (⟨k0, rfl, G', k2, k3⟩ | ⟨k0, rfl, k1⟩)
  · dsimp only at k0
    refine ⟨by unfold addV addE; dsimp only; rw [k0]; rfl, h.below.trans (k3.below (fun g hg => (h2.in_ g hg).1) h.below.size), ⟨F, G', h1.apart k3.turn h3, by unfold addP; dsimp only; rw [k0]; exact k2, fun g hf hg => (k3.back g hg).elim (h3 g hf) (fun e => by have := (h1.in_ g hf).2; omega)⟩, hfw⟩
  · dsimp only at k0
    refine ⟨by unfold addV addE; dsimp only; rw [k0]; rfl, Below.then_ h.below k1, ⟨F, G, h1.on k1, by unfold addP; dsimp only; rw [k0]; exact h2.on k1, h3⟩, hfw⟩
theorem TB.on {W' : World} (h : TB w W p q cs) (hb : Below W.heap.size W W') : TB w W' p q cs := by
  obtain ⟨F, G, h1, h2, h3⟩ := h.his
  exact ⟨Below.then_ h.below hb, ⟨F, G, h1.on hb, h2.on hb, h3⟩, h.few⟩
theorem TB.get_ (h : TB w W p q cs) (hs : cs.length ≤ 1000) (id : Int) : Calls Try.prog 20 #[.pointer (some ⟨p, 0, none⟩), .int .i64 id] W (GetOut W (getC cs id) (inR cs.length id)) := by obtain ⟨F, G, h1, h2, h3⟩ := h.his; exact get_any h1 hs h.few id
theorem TB.rget_ (h : TB w W p q cs) (hs : cs.length ≤ 1000) (id : Int) : Calls Try.prog 21 #[.pointer (some ⟨q, 0, none⟩), .int .i64 id] W (GetOut W (getC cs id) (inR cs.length id)) := by obtain ⟨F, G, h1, h2, h3⟩ := h.his; exact refGet_any h2 hs h.few id
theorem TB.many_ (h : TB w W p q cs) : Calls Try.prog 23 #[.pointer (some ⟨p, 0, none⟩)] W fun e w' => e = .returned (.int .i64 (cs.length : Int)) ∧ W = w' := by obtain ⟨F, G, h1, h2, h3⟩ := h.his; exact many_any h1
theorem TB.rmany_ (h : TB w W p q cs) : Calls Try.prog 19 #[.pointer (some ⟨q, 0, none⟩)] W fun e w' => e = .returned (.int .i64 (cs.length : Int)) ∧ W = w' := by obtain ⟨F, G, h1, h2, h3⟩ := h.his; exact refMany_any h2
end
theorem getC_two {cs : List Cm} (hg : Good cs) (a : Int) : (getC cs a).ps.length ≤ 2 := by
  unfold getC
  split
  · rename_i h
    have h2 := inR_iff.1 h
    have hlt : a.toNat - 1 < cs.length := by omega
    have hc : cs[a.toNat - 1]? = some (cs.getD (a.toNat - 1) zeroCm) := by rw [List.getElem?_eq_getElem hlt, List.getD_eq_getElem?_getD, List.getElem?_eq_getElem hlt]; rfl
    by_cases h0 : a.toNat - 1 = 0
    · rw [hg.root _ (by rw [← hc, h0])]; decide
    · exact (canBe_len (hg.rest _ _ hc (by omega))).2
  · decide
theorem getC_ch {cs : List Cm} (h : ∀ c ∈ cs, c.ch.length ≤ 1099511627776) (a : Int) : (getC cs a).ch.length ≤ 1099511627776 := by
  unfold getC
  split
  · rename_i hr
    have h2 := inR_iff.1 hr
    have hlt : a.toNat - 1 < cs.length := by omega
    rw [List.getD_eq_getElem?_getD, List.getElem?_eq_getElem hlt]
    exact h _ (List.getElem_mem hlt)
  · decide
theorem TB.good {w W : World} {p q : Nat} {cs : List Cm} (h : TB w W p q cs) : Good cs := by obtain ⟨F, G, h1, h2, h3⟩ := h.his; exact h1.good
theorem addP_len (cs : List Cm) (c : Cm) : (addP cs c).length ≤ cs.length + 1 := by
  unfold addP; split
  · simp
  · omega
end Go.Proofs.Ytiikbekboapphaa
