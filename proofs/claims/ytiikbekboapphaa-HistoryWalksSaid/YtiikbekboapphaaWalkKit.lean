/- HistoryWalks: the map of what a log holds; the choices; walks along parents. -/
import Derived.Test.YtiikbekboapphaaOwnKit
import Derived.Test.YtiikbekboapphaaOpenL
import Derived.Maps.OwnSet
import Derived.Maps.OwnOps
import Derived.Maps.OwnIn
import Derived.Maps.Keyed
namespace Go.Proofs.Ytiikbekboapphaa
set_option maxRecDepth 100000
open Go.ChangeShapes Go.WideShapes Go.ChangeAt Go.RowKit Go.Maps

def klI (z : Int) : Lit := .int .i64 z
theorem klI_inj {a b : Int} (h : klI a = klI b) : a = b := by unfold klI at h; injection h
theorem klI_key (z : Int) : WideAt.IsKeyLit (klI z) := trivial
theorem law3 : Keyed Try.prog 3 := int_keyed Try.underlying3
theorem zero4 (w : World) : (zeroValue 4).run Try.prog w = .ok (.bool false) w := by kernel_rfl
theorem plainElem_bool_inv {v : Value} {z : DataW Unit × List MemPlace} (h : plainElem Try.prog 4 v = some z) : ∃ x, v = .bool x ∧ z = (.lit (.bool x), []) := by
  unfold plainElem at h
  rw [Try.underlying4] at h
  cases v <;> simp at h
  subst h
  exact ⟨_, rfl, rfl⟩
/-- the map holds true at the numbers of K -/
def Seen (w : World) (b n : Nat) (K : Int → Prop) : Prop := ∃ D : DataW Unit, w.ownsMap Try.prog 3 (plainElem Try.prog 4) b n D ∧ IsMap D ∧ ∀ z, (Lit.int .i64 z).wf = true → K z → has D (klI z) = true ∧ ∀ y, D.atKey (klI z) y = .lit (.bool true)
theorem Seen.look {w : World} {b n : Nat} {K : Int → Prop} (h : Seen w b n K) (z : Int) (hz : (Lit.int .i64 z).wf = true) (hK : K z) :
    (Instr.lookup 48 (.map (some b)) (.int .i64 z) false).run Try.prog w = .ok (.bool true) w := by
  obtain ⟨D, hm, _, hD⟩ := h
  have hk : keyOf Try.prog 3 (.int .i64 z) = some (klI z) := keyOf_int_mk Try.underlying3 hz
  obtain ⟨v, ps, hr, hv⟩ := hm.lookup law3 Try.underlying48 (zero4 w) (plainElem_bool (x := false) Try.underlying4) hk
  obtain ⟨x, rfl, hx⟩ := plainElem_bool_inv hv
  have hx' := congrArg Prod.fst hx
  change D.atKey (klI z) _ = _ at hx'
  rw [(hD z hz hK).2] at hx'
  injection hx' with hx'
  injection hx' with hx'
  rw [hr, ← hx']
theorem Seen.put {w : World} {b n : Nat} {K : Int → Prop} (h : Seen w b n K) (z : Int) (hz : (Lit.int .i64 z).wf = true) (hn : n < maxLen) :
    ∃ w', (Instr.mapUpdate 48 (.map (some b)) (.int .i64 z) (.bool true)).run Try.prog w = .ok () w' ∧ Seen w' b (n + 1) (fun x => x = z ∨ K x) ∧ Turn (fun g => g = b) w w' := by
  obtain ⟨D, hm, hi, hD⟩ := h
  have hk : keyOf Try.prog 3 (.int .i64 z) = some (klI z) := keyOf_int_mk Try.underlying3 hz
  obtain ⟨w', hr, h1, h2⟩ := hm.update law3 Try.underlying48 hn hk (plainElem_bool (x := true) Try.underlying4)
  refine ⟨w', hr, ⟨_, h1, hi.put _ _, fun x hx hKx => ?_⟩, ⟨h2.os, h2.tape, h2.output, h2.size, fun g hg hne => h2.block g hg (fun e => hne (by injection e))⟩⟩
  by_cases e : x = z
  · subst e
    exact ⟨has_put_same hi (klI_key x) _, fun y => atKey_put_same hi (klI_key x) _ _⟩
  · have hne : klI x ≠ klI z := fun e' => e (klI_inj e')
    obtain ⟨q1, q2⟩ := hD x hx (hKx.resolve_left e)
    exact ⟨by rw [has_put_other hne]; exact q1, fun y => by rw [atKey_put_other hne]; exact q2 y⟩
theorem ownsMap_keep {w w' : World} {H : Type} {k : TypeId} {R : Value → Option (DataW H × List MemPlace)} {b n : Nat} {D : DataW H} (h : w.ownsMap Try.prog k R b n D) (hb : w'.heap[b]? = w.heap[b]?) : w'.ownsMap Try.prog k R b n D := by
  unfold World.ownsMap at h ⊢
  rw [hb]; exact h
theorem Seen.keep {w w' : World} {b n : Nat} {K : Int → Prop} (h : Seen w b n K) (hb : w'.heap[b]? = w.heap[b]?) : Seen w' b n K := by
  obtain ⟨D, hm, hD⟩ := h
  exact ⟨D, ownsMap_keep hm hb, hD⟩
theorem Seen.lt {w : World} {b n : Nat} {K : Int → Prop} (h : Seen w b n K) : b < w.heap.size := h.choose_spec.1.lt
theorem Seen.less {w : World} {b n : Nat} {K K' : Int → Prop} (h : Seen w b n K) (hK : ∀ z, K' z → K z) : Seen w b n K' := by
  obtain ⟨D, hm, hi, hD⟩ := h
  exact ⟨D, hm, hi, fun z hz hk => hD z hz (hK z hk)⟩
theorem Seen.made (w : World) : Seen (w.alloc (.map #[] 0)) w.heap.size 0 (fun _ => False) := ⟨.map [], World.ownsMap_made _ _ _ _, isMap_empty, fun _ _ h => h.elim⟩
theorem OS.turn {w1 W W' : World} {p q : Nat} {cs cs' : List Cm} {K : Nat → Prop} {b : Nat} (h : OS w1 W p q cs cs' K) (ht : Turn (fun g => g = b) W W') (hb : K b) : OS w1 W' p q cs cs' K := by
  obtain ⟨F, G, h1, h2, h3⟩ := h.his
  refine ⟨h.below.trans (ht.below (fun g hg => by subst hg; exact (h.kl _ hb).1) h.below.size), ⟨F, G, h1.keep (fun x hx => ht.block x (h1.in_ x hx).2 (fun e => (h3 _ hb).1 (e ▸ hx))) ht.size, h2.keep (fun x hx => ht.block x (h2.in_ x hx).2 (fun e => (h3 _ hb).2 (e ▸ hx))) ht.size, h3⟩, fun x hx => ⟨(h.kl x hx).1, Nat.lt_of_lt_of_le (h.kl x hx).2 ht.size⟩⟩
theorem Two.os {w W : World} {p q : Nat} {cs : List Cm} (h : Two w W p q cs) : OS w W p q cs cs (fun _ => False) := by
  obtain ⟨F, G, h1, h2, h3⟩ := h.his
  exact ⟨h.below, ⟨F, G, h1, h2, fun x hx => hx.elim⟩, fun x hx => hx.elim⟩
section
variable {w1 W : World} {p q : Nat} {cs cs' : List Cm} {K : Nat → Prop}
theorem OS.anc_ (h : OS w1 W p q cs cs' K) (hs : cs'.length ≤ 1000) (a b : Int) : Calls Try.prog 24 #[.pointer (some ⟨p, 0, none⟩), .int .i64 a, .int .i64 b] W (BoolB W (anc cs' a b)) := by obtain ⟨F, G, h1, h2, h3⟩ := h.his; exact anc_any h1 hs a b
end
/-- the row of choices -/
def u8C (zs : List Int) : List Value := zs.map fun z => .int .u8 z
section
variable {H : Type} {enc : TypeId × Value → H} {W : World} {b2 : Nat} {sp : Nat → Bool} {held : Bool}
theorem open_u8s {b1 : Nat} {v : Value} {d : DataW H} {p : List MemPlace} (h : DataW.Trod enc Try.prog W b2 sp held 47 v d p) (hval : Value.okWide Try.prog W .any b1 47 v) :
    ∃ (A : Option Addr) (zs : List Int) (c : Nat), v = .slice A zs.length c ∧ Row W W.heap.size 1 A zs.length c (u8C zs) ∧ zs.length ≤ maxLen ∧ ∀ z ∈ zs, 0 ≤ z ∧ z ≤ 255 := by
  obtain ⟨fuel, hf⟩ := h
  have hv : v.cells.toList = [v] := by
    obtain ⟨a, n, c, rfl⟩ := okWide_slice Try.underlying47 hval
    rfl
  rw [hv] at hf
  have hc5 : Try.prog.cellsOf 5 = 1 := by kernel_rfl
  rcases Go.Deep.open_slice Try.underlying47 hf with ⟨h0, _⟩ | ⟨a, len, cap, m, fu, D, Pl, h0, hb, hlc, hcm, hm, _, hel⟩
  · obtain rfl : v = .slice none 0 0 := by simpa using h0
    exact ⟨none, [], 0, rfl, Row.empty _ _ _, Nat.zero_le _, fun z hz => by cases hz⟩
  · obtain rfl : v = .slice (some a) len cap := by simpa using h0
    have hlm : len ≤ m := by rw [hm]; split <;> omega
    obtain ⟨zs, hzl, hz⟩ := list_of len (fun i (z : Int) => W.cell? (a.add i) = some (.int .u8 z) ∧ 0 ≤ z ∧ z ≤ 255) fun i hi => by
      obtain ⟨cs', hcs, ht⟩ := hel i (by omega)
      rw [hc5, Nat.mul_one] at hcs
      obtain ⟨c0, rfl, k0⟩ := cells1 hcs
      obtain ⟨x0, e0, _, w0⟩ := DataW.trod_int (k := .u8) Try.underlying5 ht
      simp only [List.cons.injEq, and_true] at e0
      subst e0
      exact ⟨x0, k0, bd_u8 w0⟩
    refine ⟨some a, zs, cap, by rw [hzl], ⟨by simp [u8C], by omega, fun e => (by cases e), fun j u hj => ?_⟩, by omega, fun z hz' => ?_⟩
    · unfold u8C at hj
      rw [List.getElem?_map] at hj
      obtain ⟨z, hz1, rfl⟩ := Option.map_eq_some_iff.1 hj
      obtain ⟨hjl, rfl⟩ := List.getElem?_eq_some_iff.1 hz1
      have hc := (hz j hjl).1
      refine ⟨a, rfl, ?_, hc⟩
      have := World.block_lt_of_cell? W _ hc
      rwa [add_block] at this
    · obtain ⟨i, hi, rfl⟩ := List.mem_iff_getElem.1 hz'
      exact (hz i hi).2
end
theorem desc_last {R : Nat → Bool} (h1 : R 1 = true) : ∀ n, 1 ≤ n → ∃ l, desc R n = l ++ [1]
  | 0, h => absurd h (by decide)
  | 1, _ => ⟨[], by simp [desc, h1]⟩
  | n + 2, _ => by
    obtain ⟨l, hl⟩ := desc_last h1 (n + 1) (by omega)
    by_cases hR : R (n + 2) = true
    · exact ⟨(n + 2) :: l, by rw [desc, if_pos hR, hl]; rfl⟩
    · exact ⟨l, by rw [desc, if_neg hR, hl]⟩
/-- a log begins with its head, and ends with 1 -/
theorem logP_ends {cs : List Cm} (hg : Good cs) {t : Nat} (h1 : 1 ≤ t) (h2 : t ≤ cs.length) : ∃ n, (logP cs (t : Int)).length = n + 1 ∧ (logP cs (t : Int))[0]? = some t ∧ (logP cs (t : Int))[n]? = some 1 ∧ ∀ k, k ∈ logP cs (t : Int) ↔ 1 ≤ k ∧ k ≤ t ∧ rch (leads cs) t k = true := by
  have hin : inR cs.length (t : Int) = true := inR_iff.2 ⟨by omega, by omega⟩
  have e : logP cs (t : Int) = desc (rch (leads cs) t) t := by unfold logP; rw [if_pos hin]; rfl
  rw [e]
  obtain ⟨l, hl⟩ := desc_last (leads_one hg h1 h2) t h1
  refine ⟨l.length, by rw [hl, List.length_append]; rfl, ?_, by rw [hl]; simp, fun k => desc_mem⟩
  cases t with
  | zero => omega
  | succ t => rw [desc, if_pos (rch_self _ _)]; rfl
/-- a parent of a commit that a walk has come to -/
theorem step_on {cs : List Cm} (hg : Good cs) {t a : Nat} (ha : 1 ≤ a) (hal : a ≤ cs.length) (hr : rch (leads cs) t a = true) {z : Int} (hz : z ∈ (getC cs (a : Int)).ps) : ∃ y : Nat, z = (y : Int) ∧ 1 ≤ y ∧ y < a ∧ rch (leads cs) t y = true := by
  have hin : inR cs.length (a : Int) = true := inR_iff.2 ⟨by omega, by omega⟩
  unfold getC at hz
  rw [if_pos hin, show ((a : Int).toNat - 1) = a - 1 by omega] at hz
  have hlt : a - 1 < cs.length := by omega
  have hc : cs[a - 1]? = some (cs.getD (a - 1) zeroCm) := by rw [List.getElem?_eq_getElem hlt, List.getD_eq_getElem?_getD, List.getElem?_eq_getElem hlt]; rfl
  have hl := leads_at hc
  have hmem : z.toNat ∈ leads cs a := by rw [hl]; exact List.mem_map.2 ⟨z, hz, rfl⟩
  have hd := leads_in hg hmem
  refine ⟨z.toNat, ?_, hd.2.2.1, hd.2.2.2, rch_trans (leads_down hg) _ _ _ hr ((rch_iff (leads_down hg) _ _).2 (.inr ⟨_, hmem, rch_self _ _⟩))⟩
  have := hd.2.2.1
  omega
theorem getC_few {cs : List Cm} (hg : Good cs) (a : Int) : (getC cs a).ps.length ≤ 2 := by
  unfold getC
  split
  · rename_i h
    have h2 := inR_iff.1 h
    have hlt : a.toNat - 1 < cs.length := by omega
    have hc : cs[a.toNat - 1]? = some (cs.getD (a.toNat - 1) zeroCm) := by rw [List.getElem?_eq_getElem hlt, List.getD_eq_getElem?_getD, List.getElem?_eq_getElem hlt]; rfl
    by_cases h0 : a.toNat - 1 = 0
    · rw [hg.root _ (by rw [← hc, h0])]; decide
    · exact (canBe_len (hg.rest _ _ hc (by omega))).2
  · decide
end Go.Proofs.Ytiikbekboapphaa
