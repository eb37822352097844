/- Many, find. -/
import Derived.Test.YthnlldojidocoaaDoorHeap
namespace Go.Proofs.YthnlldojidocoaaDoor
open Go.RowKit Go.Maps

theorem row3 {w : World} {B : Nat} {A : Option Addr} {n c : Nat} {xs : List Value} (h : Row w B 3 A n c xs) {k : Nat} {u0 u1 u2 : Value} (h0 : xs[k * 3 + 0]? = some u0) (h1 : xs[k * 3 + 1]? = some u1) (h2 : xs[k * 3 + 2]? = some u2) :
    ∃ ad, A = some ad ∧ ad.block < B ∧ w.cell? (ad.add (k * 3)) = some u0 ∧ w.cell? ⟨(ad.add (k * 3)).block, (ad.add (k * 3)).off + 1, none⟩ = some u1 ∧ w.cell? ⟨(ad.add (k * 3)).block, (ad.add (k * 3)).off + 2, none⟩ = some u2 := by
  obtain ⟨ad, e, hb, c0⟩ := h.2.2.2 _ _ h0
  obtain ⟨ad1, e1, _, c1⟩ := h.2.2.2 _ _ h1
  obtain ⟨ad2, e2, _, c2⟩ := h.2.2.2 _ _ h2
  rw [e] at e1 e2
  injection e1 with e1
  injection e2 with e2
  subst e1 e2
  rw [← add_twice] at c1 c2
  exact ⟨ad, e, hb, c0, c1, c2⟩

set_option maxRecDepth 100000 in
theorem many_any (p : Nat) (A : Option Addr) (n c : Nat) (m : Option Nat) (w : World) (hF : Full w p 36 [.slice A n c, .map m]) : Calls Tryd.prog 19 #[.pointer (some ⟨p, 0, none⟩)] w fun e w' => e = .returned (.int .i64 (n : Int)) ∧ w = w' := by
  have c0 : w.cell? ⟨p, 0, none⟩ = some (.slice A n c) := hF.cell 0
  clear hF
  go_enter Tryd.func19, Tryd.ntmps19
  go_wp2
  go_ret
  exact ⟨rfl, rfl⟩
set_option maxRecDepth 100000 in
theorem many_nil (w : World) : Calls Tryd.prog 19 #[.pointer none] w fun e w' => e = .returned (.int .i64 0) ∧ w = w' := by
  go_enter Tryd.func19, Tryd.ntmps19
  go_wp2
  go_ret
  exact ⟨rfl, rfl⟩

def noObV : Value := .agg #[.bool false, .string ⟨#[]⟩, .slice none 0 0]
def obV (o : Ob) (u : Value) : Value := .agg #[.bool o.1, .string o.2.1, u]
def FoundNone (w : World) (e : Ending) (w' : World) : Prop := e = .returned (.tuple #[noObV, .bool false]) ∧ Below w.heap.size w w'
def Found (w : World) (o : Ob) (u : Value) (e : Ending) (w' : World) : Prop := e = .returned (.tuple #[obV o u, .bool true]) ∧ Below w.heap.size w w'

set_option maxRecDepth 100000 in
set_option maxHeartbeats 1000000 in
theorem find_none {B : Nat} {w : World} {p : Nat} {os : List Ob} {F : Nat → Prop} {v : Value} {m : Option Nat} {In : Nat → Prop} (h : StoreH B w p os F v m In) (hn : os.length ≤ 1073741824) (id : Int) (hid : (Lit.int .i64 id).wf = true) (hg : getO os id = none) :
    Calls Tryd.prog 33 #[.pointer (some ⟨p, 0, none⟩), .int .i64 id] w (FoundNone w) := by
  obtain ⟨vs, hvl, hown, hents⟩ := h.obs
  obtain ⟨A, c, rfl⟩ := own_form hown
  have hF := h.full
  have hout : id < 1 ∨ (os.length : Int) < id := by
    unfold getO at hg
    split at hg
    · right
      rw [List.getElem?_eq_none_iff] at hg
      omega
    · left; omega
  have hb := bd_i64 hid
  obtain ⟨n, hn'⟩ : ∃ n, os.length = n := ⟨_, rfl⟩
  rw [hn'] at hout hn hF
  have HF := Lib.hid hF
  clear hg hents hown hF hn' h
  unfold FoundNone noObV
  rcases hout with h1 | h1
  · go_enter Tryd.func33, Tryd.ntmps33
    go_wp2
    refine bodyPost_ret (v := .tuple #[.agg #[.bool false, .string ⟨#[]⟩, .slice none 0 0], .bool false]) (by simp [results, Tryd.results33, go_sem]) rfl ?_
    exact ⟨rfl, (Below.refl _ w).alloc (Nat.le_refl _) _⟩
  · have h2 : ¬ id < 1 := by omega
    have C := Lib.hid (fun (W : World) (hW : Below w.heap.size w W) => many_any p A n c m W (HF.out.on hW))
    go_enter Tryd.func33, Tryd.ntmps33
    go_wp2_with (go_at_call 19; ((with_reducible refine (C.out _ ?_).mono ?_); exact (Below.refl _ w).alloc (Nat.le_refl _) _; rintro e w1 ⟨rfl, rfl⟩))
    refine bodyPost_ret (v := .tuple #[.agg #[.bool false, .string ⟨#[]⟩, .slice none 0 0], .bool false]) (by simp [results, Tryd.results33, go_sem]) rfl ?_
    exact ⟨rfl, (Below.refl _ w).alloc (Nat.le_refl _) _⟩

set_option maxRecDepth 100000 in
set_option maxHeartbeats 1000000 in
theorem find_some {B : Nat} {w : World} {p : Nat} {os : List Ob} {F : Nat → Prop} {v : Value} {m : Option Nat} {In : Nat → Prop} (h : StoreH B w p os F v m In) (hn : os.length ≤ 1073741824) (id : Int) (o : Ob) (hg : getO os id = some o) :
    ∃ u, EntsF w In u o.2.2 ∧ Calls Tryd.prog 33 #[.pointer (some ⟨p, 0, none⟩), .int .i64 id] w (Found w o u) := by
  obtain ⟨vs, hvl, hown, hents⟩ := h.obs
  obtain ⟨A, c, rfl⟩ := own_form hown
  have hF := h.full
  obtain ⟨h1, hk0⟩ : 1 ≤ id ∧ os[(id - 1).toNat]? = some o := by
    unfold getO at hg
    split at hg
    · exact ⟨by assumption, hg⟩
    · cases hg
  obtain ⟨k, rfl⟩ : ∃ k : Nat, id = (k : Int) + 1 := ⟨(id - 1).toNat, by omega⟩
  rw [show ((k : Int) + 1 - 1).toNat = k by omega] at hk0
  have hk := (List.getElem?_eq_some_iff.1 hk0).1
  have hko := (List.getElem?_eq_some_iff.1 hk0).2
  have hu := List.getElem?_eq_getElem (l := vs) (i := k) (by omega)
  have hent := hents k o _ hk0 hu
  obtain ⟨u, huv⟩ : ∃ u, vs[k]'(by omega) = u := ⟨_, rfl⟩
  rw [huv] at hent
  refine ⟨u, hent, ?_⟩
  obtain ⟨Ae, ce, rfl, hre⟩ := hent
  have hR : Row w w.heap.size 3 A os.length c (obsC os vs) := Row.own hown
  have e0 := obsC_at hvl hk (j := 0) (by omega)
  have e1 := obsC_at hvl hk (j := 1) (by omega)
  have e2 := obsC_at hvl hk (j := 2) (by omega)
  rw [hko, huv] at e0 e1 e2
  obtain ⟨ad, rfl, hlt, x0, x1, x2⟩ := row3 hR e0 e1 e2
  have hcap := hR.2.1
  obtain ⟨n, hn'⟩ : ∃ n, os.length = n := ⟨_, rfl⟩
  rw [hn'] at hk hn hF hcap
  have c0 : w.cell? ⟨p, 0, none⟩ = some (.slice (some ad) n c) := hF.cell 0
  have hpl := hF.lt
  have HF := Lib.hid hF
  obtain ⟨od, ot, oe⟩ := o
  unfold Found obV
  dsimp only at *
  have g1 : ¬ (k : Int) + 1 < 1 := by omega
  have g2 : ¬ (n : Int) < (k : Int) + 1 := by omega
  have g3 : IntKind.i64.wrap ((k : Int) + 1 - 1) = (k : Int) := by simp [IntKind.wrap, IntKind.bits, IntKind.signed]; omega
  have hi0 : (0 : Int) ≤ (k : Int) := Int.natCast_nonneg _
  have hi1 : (k : Int) < (n : Int) := by omega
  have hb3lt : (ad.add (k * 3)).block < w.heap.size := by rw [add_block]; exact hlt
  have C := Lib.hid (fun (W : World) (hW : Below w.heap.size w W) => many_any p (some ad) n c m W (HF.out.on hW))
  clear hg hents hown hn' h hk0 hko hu hre huv hR e0 e1 e2 hF hvl
  go_enter Tryd.func33, Tryd.ntmps33
  have Y0 : (w.alloc (.cells #[.bool false, .string ⟨#[]⟩, .slice none 0 0] 72)).cell? (ad.add (k * 3)) = some (.bool od) := (World.cell?_alloc_lt _ _ _ hb3lt).trans x0
  have Y1 : (w.alloc (.cells #[.bool false, .string ⟨#[]⟩, .slice none 0 0] 72)).cell? ⟨(ad.add (k * 3)).block, (ad.add (k * 3)).off + 1, none⟩ = some (.string ot) := (World.cell?_alloc_lt w _ ⟨(ad.add (k * 3)).block, (ad.add (k * 3)).off + 1, none⟩ hb3lt).trans x1
  have Y2 : (w.alloc (.cells #[.bool false, .string ⟨#[]⟩, .slice none 0 0] 72)).cell? ⟨(ad.add (k * 3)).block, (ad.add (k * 3)).off + 2, none⟩ = some (.slice Ae oe.length ce) := (World.cell?_alloc_lt w _ ⟨(ad.add (k * 3)).block, (ad.add (k * 3)).off + 2, none⟩ hb3lt).trans x2
  go_wp2_with (go_at_call 19; ((with_reducible refine (C.out _ ?_).mono ?_); exact (Below.refl _ w).alloc (Nat.le_refl _) _; rintro e w1 ⟨rfl, rfl⟩))
  (try simp only [Exit.inBlock, Exit.then])
  refine bodyPost_ret (v := .tuple #[.agg #[.bool od, .string ot, .slice Ae oe.length ce], .bool true]) (by simp [results, Tryd.results33, go_sem]) rfl ?_
  exact ⟨rfl, (Below.refl _ w).alloc (Nat.le_refl _) _⟩
end Go.Proofs.YthnlldojidocoaaDoor
