/- The Syntax seat, part 6: contracts of the program and of the reference. -/
import Derived.Test.YtcjoiiaankngjaaGreatDoorC5
import Derived.ChangeShapes
import Derived.Deep.DeepHandedRow
import Derived.Deep.Slices
namespace Go.Proofs.YtcjoiiaankngjaaGreatDoor
set_option maxRecDepth 100000
open Go.RowKit
def intsC (l : List Int) : List Value := l.map fun x => .int .i64 x
structure MK (w : World) (B b : Nat) (A : Option Addr) (c : Nat) (l : List Int) (a : Nat) : Prop where
 fu : Full w b 64 [.slice A l.length c, .int .i64 (a : Int)]
 row : Row w B 1 A l.length c (intsC l)
 apart : B ≤ b
 le : a ≤ l.length
 len : l.length ≤ 9223372036854775807
section
variable {w w' : World} {B b : Nat} {A : Option Addr} {c : Nat} {l : List Int} {a : Nat}
theorem MK.on (h : MK w B b A c l a) (hb : Below w.heap.size w w') : MK w' B b A c l a :=
 ⟨h.fu.on hb, Row.below h.row hb (by have := h.fu.lt; have := h.apart; omega), h.apart, h.le, h.len⟩
theorem MK.drew (h : MK w B b A c l a) : MK w.drew B b A c l a := h.on (Below.drew (Below.refl _ w))
theorem MK.far {F : Nat → Prop} (h : MK w B b A c l a) (ht : Turn F w w') (hb : ¬ F b) (hB : ∀ g, F g → B ≤ g) : MK w' B b A c l a :=
 ⟨ht.far h.fu hb, Row.below h.row (ht.below hB (by have := h.fu.lt; have := h.apart; omega)) (Nat.le_refl _), h.apart, h.le, h.len⟩
theorem MK.set {a' : Nat} (h : MK w B b A c l a) (hl : a' ≤ l.length) : MK (w.setCell ⟨b, 1, none⟩ (.int .i64 (a' : Int))) B b A c l a' :=
 ⟨h.fu.set_ 1 _, Row.setCell h.row h.apart _, h.apart, hl, h.len⟩
theorem MK.at_ (h : MK w B b A c l a) {k : Nat} {x : Int} (hx : l[k]? = some x) : ∃ ad, A = some ad ∧ ad.block < B ∧ w.cell? (ad.add (k * 1)) = some (.int .i64 x) := by
 have e : (intsC l)[k]? = some (.int .i64 x) := by unfold intsC; rw [List.getElem?_map, hx]; rfl
 obtain ⟨ad, q, hb, hc⟩ := Row.cell_at h.row e
 exact ⟨ad, q, hb, by rw [Nat.mul_one]; exact hc⟩
end
set_option maxHeartbeats 4000000 in
theorem mnext_any {w : World} {B b : Nat} {A : Option Addr} {c : Nat} {l : List Int} {a : Nat} (h : MK w B b A c l a) (n : Nat) (h0 : 0 < n) (hn : n ≤ 4294967296) :
   Calls Tryz.prog 32 #[.pointer (some ⟨b, 0, none⟩), .int .i64 (n : Int)] w (fun en w' => en = .returned (.int .i64 ((mNext l a n).1 : Int)) ∧ MK w' B b A c l (mNext l a n).2 ∧ Turn (fun g => g = b) w w') := by
 unfold mNext
 have hle := h.le
 have hlen := h.len
 have hcap := h.row.2.1
 have k0 : w.cell? ⟨b, 0, none⟩ = some (.slice A l.length c) := h.fu.cell 0
 have k1 : w.cell? ⟨b, 1, none⟩ = some (.int .i64 (a : Int)) := h.fu.cell 1
 have z1 := h.fu.frozen 1
 obtain ⟨L, hL⟩ : ∃ L, l.length = L := ⟨_, rfl⟩
 cases hx : l[a]? with
 | none =>
   have hge : L ≤ a := by rw [← hL]; exact List.getElem?_eq_none_iff.1 hx
   rw [hL] at k0 hle hlen
   have e : a = L := by omega
   have HO := Lib.hid (fun q => (show MK (w.drewN q) B b A c l a ∧ Turn (fun g => g = b) w (w.drewN q) from ⟨h.on (Below.drewN_ (Below.refl _ _) _), (Turn.refl _ _).drewN_ q⟩))
   have hd : decide ((L : Int) ≤ (a : Int)) = true := by rw [decide_eq_true_eq]; omega
   clear h hx hL hcap
   go_enter Tryz.func32, Tryz.ntmps32
   go_upto_region 1 with fail
   go_quiet (fail)
   go_wp2
   go_ret
   exact ⟨rfl, HO.out _⟩
 | some x =>
   have hlt : a < l.length := (List.getElem?_eq_some_iff.1 hx).1
   obtain ⟨ad, rfl, hb, hc⟩ := h.at_ hx
   have hbb : ad.block ≠ b := by have := h.apart; omega
   dsimp only
   have MA := Lib.hid (fun W => ((mod_any x n W h0 hn).mono fun _ _ h => ⟨h.1, h.2.symm⟩ : Calls Tryz.prog 19 #[.int .i64 x, .int .i64 (n : Int)] W fun e w' => e = .returned (.int .i64 (modN x n : Int)) ∧ w' = W))
   have HO := Lib.hid (fun q => (show MK ((w.drewN q).setCell ⟨b, 1, none⟩ (.int .i64 ((a : Int) + 1))) B b (some ad) c l (a + 1) ∧ Turn (fun g => g = b) w ((w.drewN q).setCell ⟨b, 1, none⟩ (.int .i64 ((a : Int) + 1))) from
     ⟨(h.on (Below.drewN_ (Below.refl _ _) q)).set hlt, ((Turn.refl _ w).drewN_ q).trans_ (Turn.set_ (F := fun g => g = b) (a := ⟨b, 1, none⟩) rfl _)⟩))
   rw [hL] at k0 hle hlen hlt
   have hd : decide ((L : Int) ≤ (a : Int)) = false := by rw [decide_eq_false_iff_not]; omega
   have i0 : (0 : Int) ≤ (a : Int) := Int.natCast_nonneg _
   have i1 : (a : Int) < (L : Int) := by omega
   have HX := Lib.hid hx
   clear h hx hcap hb hbb
   go_enter Tryz.func32, Tryz.ntmps32
   go_upto_region 1 with fail
   go_quiet (fail)
   go_upto_region 4 with fail
   obtain ⟨w1, hw1⟩ : ∃ z, (w.drewN nq).setCell ⟨b, 1, none⟩ (.int .i64 ((a : Int) + 1)) = z := ⟨_, rfl⟩
   have H1 := Lib.hid (HO.out nq)
   rw [hw1] at H1 ⊢
   have c0 : w1.cell? ⟨b, 0, none⟩ = some (.slice (some ad) l.length c) := H1.out.1.fu.cell 0
   have c1 : w1.cell? ⟨b, 1, none⟩ = some (.int .i64 ((a : Int) + 1)) := H1.out.1.fu.cell 1
   have c2 : w1.cell? (ad.add a) = some (.int .i64 x) := by
     obtain ⟨_, q, _, hc⟩ := H1.out.1.at_ HX.out
     injection q with q
     subst q
     rw [Nat.mul_one] at hc; exact hc
   rw [hL] at c0
   have e2 : IntKind.i64.wrap (a : Int) = (a : Int) := by simp [IntKind.wrap, IntKind.bits, IntKind.signed]; omega
   clear k0 k1 z1 hc HO hw1
   go_quiet (first | (go_at_call 19; with_reducible exact Calls.quiet_of_same (MA.out _)) | (fail "arm"))
   go_wp2
   go_ret
   exact ⟨rfl, H1.out.1.on (Below.drewN_ (Below.refl _ _) _), H1.out.2.drewN_ _⟩
def txC (l : List (List UInt8)) : List Value := l.map fun t => .string (str t)
theorem txC_at {w : World} {r : Nat} {tx : List (List UInt8)} (F : Full w r 9 (txC tx)) {k : Nat} (hk : k < tx.length) : w.cell? ⟨r, k, none⟩ = some (.string (str (tx.getD k []))) := by
 rw [F.cell k]
 unfold txC
 rw [List.getElem?_map, List.getElem?_eq_getElem hk, List.getD_eq_getElem?_getD, List.getElem?_eq_getElem hk]
 rfl
structure MI (w0 : World) (B b : Nat) (A : Option Addr) (c : Nat) (l : List Int) (w : World) (a : Nat) (A' : Option Addr) (n c' : Nat) (acc : List Itm) : Prop where
 mak : MK w B b A c l a
 row : w.ownsRow w0.heap.size 52 4 (.slice A' n c') n (itmsC acc)
 len : n = acc.length
 tn : Turn (fun g => g = b) w0 w
 bb : b < w0.heap.size
theorem own_base_le {w : World} {base size n : Nat} {e : TypeId} {v : Value} {xs : List Value} (h : w.ownsRow base e size v n xs) : ∀ g, v.ownBlock = some g → base ≤ g := by
 intro g hg
 rcases h.2 with ⟨rfl, _⟩ | ⟨g1, c1, u1, rfl, q, _⟩
 · simp [Value.ownBlock] at hg
 · have a1 : g1 = g := by simpa [Value.ownBlock] using hg
   subst a1
   exact q
section
variable {w0 w w' : World} {B b : Nat} {A : Option Addr} {c : Nat} {l : List Int} {a a' : Nat} {A' : Option Addr} {n c' : Nat} {acc : List Itm}
theorem MI.call (h : MI w0 B b A c l w a A' n c' acc) (k : MK w' B b A c l a') (t : Turn (fun g => g = b) w w') : MI w0 B b A c l w' a' A' n c' acc :=
 ⟨k, own_off h.row t (own_full_ne h.row h.mak.fu (by decide)), h.len, h.tn.trans_ t, h.bb⟩
theorem MI.on (h : MI w0 B b A c l w a A' n c' acc) (hb : Below w.heap.size w w') : MI w0 B b A c l w' a A' n c' acc := h.call (h.mak.on hb) (Turn.of hb)
theorem MI.xset (h : MI w0 B b A c l w a A' n c' acc) {u : Nat} (hu : w0.heap.size ≤ u) (hr : (Value.slice A' n c').ownBlock ≠ some u) (i : Nat) (v : Value) : MI w0 B b A c l (w.setCell ⟨u, i, none⟩ v) a A' n c' acc := by
 have t : Turn (fun g => g = u) w (w.setCell ⟨u, i, none⟩ v) := Turn.set_ (F := fun g => g = u) (a := ⟨u, i, none⟩) rfl _
 have hbb := h.bb
 have hap := h.mak.apart
 exact ⟨h.mak.far t (by omega) (fun g e => by omega), own_off h.row t (fun g e q => hr (by rw [e, q])), h.len, h.tn.late t (fun g e => .inr (by omega)), h.bb⟩
theorem MI.grow (h : MI w0 B b A c l w a A' n c' acc) {it : Itm} {g9 c9 : Nat} (ho : w'.ownsRow w0.heap.size 52 4 (.slice (some ⟨g9, 0, none⟩) (n + 1) c9) (n + 1) (itmsC acc ++ itmC it)) (hg : w.grownBy w' (Value.slice A' n c').ownBlock) : MI w0 B b A c l w' a (some ⟨g9, 0, none⟩) (n + 1) c9 (acc ++ [it]) := by
 have t : Turn (fun g => (Value.slice A' n c').ownBlock = some g) w w' := Turn.grown hg fun g e => .inl e
 have hbb := h.bb
 have hap := h.mak.apart
 have hob := own_base_le h.row
 refine ⟨h.mak.far t (fun e => by have := hob _ e; omega) (fun g e => by have := hob _ e; omega), ?_, by simp [h.len], h.tn.late t (fun g e => .inr (hob g e)), h.bb⟩
 have : itmsC (acc ++ [it]) = itmsC acc ++ itmC it := by unfold itmsC; rw [List.flatMap_append]; simp
 rw [this]
 exact ho
end
theorem next_lit {w : World} {B b : Nat} {A : Option Addr} {c : Nat} {l : List Int} {a : Nat} (h : MK w B b A c l a) (n : Nat) (N : Int) (e : N = (n : Int)) (h0 : 0 < n) (hn : n ≤ 4294967296) :
   Calls Tryz.prog 32 #[.pointer (some ⟨b, 0, none⟩), .int .i64 N] w (fun en w' => en = .returned (.int .i64 ((mNext l a n).1 : Int)) ∧ MK w' B b A c l (mNext l a n).2 ∧ Turn (fun g => g = b) w w') := by
 rw [e]
 exact mnext_any h n h0 hn
def plC : List Value := [.string ⟨#[108, 105, 110, 117, 120]⟩, .string ⟨#[97, 114, 109]⟩, .string ⟨#[97, 110, 121]⟩]
theorem plC_at {w : World} {u : Nat} (F : Full w u 9 plC) {k : Nat} (hk : k < 3) : w.cell? ⟨u, k, none⟩ = some (.string (str (mPl k))) := by
 rw [F.cell k]
 obtain rfl | rfl | rfl : k = 0 ∨ k = 1 ∨ k = 2 := by omega
 all_goals rfl
set_option maxHeartbeats 32000000 in
theorem items33_any {w : World} {B b r : Nat} {A : Option Addr} {c : Nat} {l : List Int} {a : Nat} (h : MK w B b A c l a) {tx : List (List UInt8)} (F : Full w r 9 (txC tx)) (h0 : 0 < tx.length) (h9 : tx.length ≤ 100) (lim glb : Bool) :
   Calls Tryz.prog 33 #[.pointer (some ⟨b, 0, none⟩), .slice (some ⟨r, 0, none⟩) tx.length tx.length, .bool lim, .bool glb] w
     (fun en w' => ∃ A' n' c', en = .returned (.slice A' n' c') ∧ MI w B b A c l w' (mItems l tx lim glb a).2 A' n' c' (mItems l tx lim glb a).1) := by
 obtain ⟨i0, hi, hz0, hz1, hz2⟩ := info_parts info52
 have hrb : r ≠ b := F.ne_ h.fu (by decide)
 have hsz := h.fu.lt
 unfold mItems
 have h4 := mNext_lt (l := l) (a := a) (n := 4) (by decide)
 have N4 := next_lit h 4 4 rfl (by decide) (by decide)
 obtain ⟨⟨k4, a4⟩, e4⟩ : ∃ z, mNext l a 4 = z := ⟨_, rfl⟩
 rw [e4] at h4 N4
 rw [e4]
 dsimp only at h4 N4 ⊢
 obtain ⟨⟨RI, RA⟩, hR⟩ : ∃ z, mItemsN l tx lim glb k4 a4 = z := ⟨_, rfl⟩
 rw [hR]
 dsimp only
 have N4 := Lib.hid N4
 have H0 := Lib.hid (And.intro h F)
 obtain ⟨m, hm⟩ : ∃ m, tx.length = m := ⟨_, rfl⟩
 have HX := Lib.hid (fun (W : World) (FF : Full W r 9 (txC tx)) (k : Nat) (hk : k < m) => txC_at FF (hm ▸ hk))
 have NX := Lib.hid (fun (W : World) (a : Nat) (H : MK W B b A c l a) => next_lit H m (m : Int) rfl (by omega) (by omega))
 have N3 := Lib.hid (fun (W : World) (a : Nat) (H : MK W B b A c l a) => next_lit H 3 3 rfl (by decide) (by decide))
 have NN := Lib.hid (fun (W : World) (a : Nat) (H : MK W B b A c l a) => next_lit H 4 4 rfl (by decide) (by decide))
 have HR := Lib.hid hR
 have HM := Lib.hid hm
 rw [hm]
 rw [hm] at h0 h9
 clear hR e4 h F
 go_enter Tryz.func33, Tryz.ntmps33
 go_upto_region 4 with (first
   | (go_at_call 32; ((with_reducible refine N4.out.mono ?_); rintro en w1 ⟨rfl, h1, ht1⟩; (have H1 := Lib.hid (show MI w B b A c l w1 a4 none 0 0 [] ∧ Full w1 r 9 (txC tx) from ⟨⟨h1, ⟨rfl, .inl ⟨rfl, rfl⟩⟩, rfl, ht1, hsz⟩, ht1.far H0.out.2 hrb⟩)); clear h1 ht1))
   | (fail "arm"))
 go_loopw [9, 11] (fun v9 v11 wr => ∃ (A' : Option Addr) (n c' k a' : Nat) (acc : List Itm), v9 = .slice A' n c' ∧ v11 = .int .i64 (k : Int) ∧ k ≤ k4 ∧ n = k ∧ Hid (MI w B b A c l wr a' A' n c' acc ∧ Full wr r 9 (txC tx)) ∧ Hid ((acc ++ (mItemsN l tx lim glb (k4 - k) a').1, (mItemsN l tx lim glb (k4 - k) a').2) = (RI, RA))) (fun _ v11 _ => k4 - (intOf v11).toNat)
 case atStart => exact ⟨none, 0, 0, 0, a4, [], rfl, rfl, Nat.zero_le _, rfl, H1, Lib.hid (by rw [Nat.sub_zero, HR.out]; rfl)⟩
 case round =>
  obtain ⟨A', n, c', k, a', acc, rfl, rfl, hk, rfl, HI, HT⟩ := hrel
  have k0 : (0 : Int) ≤ (n : Int) := Int.natCast_nonneg _
  by_cases hlt : n < k4
  · have hd : decide ((n : Int) < (k4 : Int)) = true := by rw [decide_eq_true_eq]; omega
    obtain ⟨f, hf⟩ : ∃ f, k4 - n = f + 1 := ⟨k4 - n - 1, by omega⟩
    have ht := HT.out
    rw [hf, mItemsN] at ht
    dsimp only at ht
    obtain ⟨t, ht1⟩ : ∃ z, mNext l a' m = z := ⟨_, rfl⟩
    have htm := mNext_lt (l := l) (a := a') (n := m) h0
    rw [ht1] at htm
    have NXa := fun (W : World) (H : MK W B b A c l a') => NX.out W a' H
    rw [ht1] at NXa
    have NXa := Lib.hid NXa
    have j0 : (0 : Int) ≤ (t.1 : Int) := Int.natCast_nonneg _
    have j1 : (t.1 : Int) < (m : Int) := by omega
    obtain ⟨X, hX⟩ : ∃ X, str (tx.getD t.1 []) = X := ⟨_, rfl⟩
    obtain ⟨q, hq⟩ : ∃ q, (if lim = true then mNext l t.2 3 else (0, t.2)) = q := ⟨_, rfl⟩
    obtain ⟨pb, hpb⟩ : ∃ z, (lim && q.1 == 2) = z := ⟨_, rfl⟩
    obtain ⟨P, hP⟩ : ∃ P, (if pb = true then mNext l q.2 3 else (3, q.2)) = P := ⟨_, rfl⟩
    obtain ⟨G, hG⟩ : ∃ G, (if glb = true then mNext l P.2 4 else (0, P.2)) = G := ⟨_, rfl⟩
    have hit : mItem l tx lim glb a' = (⟨tx.getD t.1 [], glb && G.1 == 3, mPl P.1, 0⟩, G.2) := by
     unfold mItem
     rw [HM.out, ht1]
     dsimp only
     rw [hq, hpb, hP, hG]
    rw [hit] at ht
    dsimp only at ht
    obtain ⟨PL, hPL⟩ : ∃ X, str (mPl P.1) = X := ⟨_, rfl⟩
    obtain ⟨gb, hgb⟩ : ∃ X, (glb && G.1 == 3) = X := ⟨_, rfl⟩
    have HC := Lib.hid (show itmC ⟨tx.getD t.1 [], glb && G.1 == 3, mPl P.1, 0⟩ = [.string X, .bool gb, .string PL, .int .i64 0] by rw [← hX, ← hPL, hgb]; rfl)
    obtain ⟨it, hit2⟩ : ∃ z : Itm, (⟨tx.getD t.1 [], glb && G.1 == 3, mPl P.1, 0⟩ : Itm) = z := ⟨_, rfl⟩
    rw [hit2] at ht HC
    have HT2 := Lib.hid ht
    have HXX := Lib.hid hX
    have HTM := Lib.hid htm
    have HPG := Lib.hid (And.intro hP (And.intro hG (And.intro hPL hgb)))
    have HQ := Lib.hid (And.intro hq hpb)
    clear ht hX ht1 htm hd hP hG hit hPL hgb hit2 hq hpb
    go_upto_region 7 with (first
      | (go_at_call 32; ((with_reducible refine (NXa.out _ HI.out.1.mak).mono ?_); rintro en w2 ⟨rfl, h2, ht2⟩; (have H2 := Lib.hid (show MI w B b A c l w2 t.2 A' n c' acc ∧ Full w2 r 9 (txC tx) from ⟨HI.out.1.call h2 ht2, ht2.far HI.out.2 hrb⟩)); (have z0 := (HX.out w2 H2.out.2 t.1 HTM.out)); (rw [HXX.out] at z0); clear h2 ht2))
      | (fail "arm"))
    obtain ⟨w3, hw3⟩ : ∃ w3, w2.alloc (.cells #[.string X, .bool false, .string ⟨#[]⟩, .int .i64 0] 52) = w3 := ⟨_, rfl⟩
    obtain ⟨u, hu⟩ : ∃ u, w2.heap.size = u := ⟨_, rfl⟩
    have H3 := Lib.hid (show MI w B b A c l w3 t.2 A' n c' acc ∧ Full w3 r 9 (txC tx) ∧ Full w3 u 52 [.string X, .bool false, .string ⟨#[]⟩, .int .i64 0] ∧ w.heap.size ≤ u ∧ (Value.slice A' n c').ownBlock ≠ some u from by
     have hb3 : Below w2.heap.size w2 w3 := by rw [← hw3]; exact (Below.refl _ w2).alloc (Nat.le_refl _) _
     refine ⟨H2.out.1.on hb3, H2.out.2.on hb3, by rw [← hw3, ← hu]; exact Full.new w2 52 _, by rw [← hu]; exact H2.out.1.tn.size, fun q => ?_⟩
     obtain ⟨_, hr⟩ := H2.out.1.row
     rcases hr with ⟨e, _⟩ | ⟨g1, c1, u1, e, _, p1, _⟩
     · rw [e] at q; simp [Value.ownBlock] at q
     · rw [e] at q
       have q : g1 = u := by simpa [Value.ownBlock] using q
       have := (Array.getElem?_eq_some_iff.1 p1).1
       omega)
    rw [hw3, hu]
    clear hw3 hu H2 z0 j0 j1 NXa
    have hub : u ≠ b := by have := H3.out.2.2.2.1; have := H3.out.1.bb; omega
    have hru : r ≠ u := H3.out.2.1.ne_ H3.out.2.2.1 (by decide)
    go_cut [33] from 28 to 33 (fun v33 wx => v33 = .bool pb ∧ Hid (MI w B b A c l wx q.2 A' n c' acc ∧ Full wx r 9 (txC tx) ∧ Full wx u 52 [.string X, .bool false, .string ⟨#[]⟩, .int .i64 0]))
    case first =>
     cases lim with
     | false =>
      have HE := Lib.hid (show false = pb ∧ Hid (MI w B b A c l w3 q.2 A' n c' acc ∧ Full w3 r 9 (txC tx) ∧ Full w3 u 52 [.string X, .bool false, .string ⟨#[]⟩, .int .i64 0]) from by
       have e1 := HQ.out.1
       rw [if_neg Bool.false_ne_true] at e1
       subst e1
       exact ⟨HQ.out.2, Lib.hid ⟨H3.out.1, H3.out.2.1, H3.out.2.2.1⟩⟩)
      go_wp2
      go_meet
      exact ⟨by rw [HE.out.1], HE.out.2⟩
     | true =>
      have N3a := fun (W : World) (H : MK W B b A c l t.2) => N3.out W t.2 H
      have e1 := HQ.out.1
      rw [if_pos rfl] at e1
      rw [e1] at N3a
      have N3a := Lib.hid N3a
      have he : ((q.1 : Int) == 2) = pb := by
       have e2 := HQ.out.2
       rw [Bool.true_and] at e2
       rw [← e2, Bool.eq_iff_iff, beq_iff_eq, beq_iff_eq]
       omega
      clear e1
      cases pb with
      | true =>
       go_wp2_with (first
         | (go_at_call 32; ((with_reducible refine (N3a.out _ H3.out.1.mak).mono ?_); rintro en w4 ⟨rfl, h4, ht4⟩; (have H4 := Lib.hid (show MI w B b A c l w4 q.2 A' n c' acc ∧ Full w4 r 9 (txC tx) ∧ Full w4 u 52 [.string X, .bool false, .string ⟨#[]⟩, .int .i64 0] from ⟨H3.out.1.call h4 ht4, ht4.far H3.out.2.1 hrb, ht4.far H3.out.2.2.1 hub⟩)); clear h4 ht4))
         | (fail "arm"))
       go_meet
       exact ⟨rfl, H4⟩
      | false =>
       go_wp2_with (first
         | (go_at_call 32; ((with_reducible refine (N3a.out _ H3.out.1.mak).mono ?_); rintro en w4 ⟨rfl, h4, ht4⟩; (have H4 := Lib.hid (show MI w B b A c l w4 q.2 A' n c' acc ∧ Full w4 r 9 (txC tx) ∧ Full w4 u 52 [.string X, .bool false, .string ⟨#[]⟩, .int .i64 0] from ⟨H3.out.1.call h4 ht4, ht4.far H3.out.2.1 hrb, ht4.far H3.out.2.2.1 hub⟩)); clear h4 ht4))
         | (fail "arm"))
       go_meet
       exact ⟨rfl, H4⟩
    case rest =>
     obtain ⟨rfl, HC1⟩ := hcut
     have H3u := H3.out.2.2.2
     clear H3
     have H3u := Lib.hid H3u
     go_upto_if 33 with fail
     go_cut [39] from 34 to 39 (fun _ wx => Hid (MI w B b A c l wx P.2 A' n c' acc ∧ Full wx r 9 (txC tx) ∧ Full wx u 52 [.string X, .bool false, .string PL, .int .i64 0]))
     case first =>
      cases pb with
      | false =>
       have HE := Lib.hid (show Hid (MI w B b A c l wc P.2 A' n c' acc ∧ Full wc r 9 (txC tx) ∧ Full wc u 52 [.string X, .bool false, .string PL, .int .i64 0]) from by
        have e1 := HPG.out.1
        have e2 := HPG.out.2.2.1
        rw [if_neg (by simp)] at e1
        subst e1
        exact Lib.hid ⟨HC1.out.1, HC1.out.2.1, by rw [← e2]; exact HC1.out.2.2⟩)
       go_wp2
       go_meet
       exact HE.out
      | true =>
       have hp3 := mNext_lt (l := l) (a := q.2) (n := 3) (by decide)
       have N3b := fun (W : World) (H : MK W B b A c l q.2) => N3.out W q.2 H
       have e1 := HPG.out.1
       rw [if_pos rfl] at e1
       rw [e1] at N3b hp3
       have N3b := Lib.hid N3b
       have j0 : (0 : Int) ≤ (P.1 : Int) := Int.natCast_nonneg _
       have j1 : (P.1 : Int) < 3 := by omega
       have HP3 := Lib.hid hp3
       clear e1 hp3
       have H5 := Lib.hid (show MI w B b A c l (wc.alloc (.cells #[.string ⟨#[108, 105, 110, 117, 120]⟩, .string ⟨#[97, 114, 109]⟩, .string ⟨#[97, 110, 121]⟩] 9)) q.2 A' n c' acc ∧ Full (wc.alloc (.cells #[.string ⟨#[108, 105, 110, 117, 120]⟩, .string ⟨#[97, 114, 109]⟩, .string ⟨#[97, 110, 121]⟩] 9)) r 9 (txC tx) ∧ Full (wc.alloc (.cells #[.string ⟨#[108, 105, 110, 117, 120]⟩, .string ⟨#[97, 114, 109]⟩, .string ⟨#[97, 110, 121]⟩] 9)) u 52 [.string X, .bool false, .string ⟨#[]⟩, .int .i64 0] ∧ Full (wc.alloc (.cells #[.string ⟨#[108, 105, 110, 117, 120]⟩, .string ⟨#[97, 114, 109]⟩, .string ⟨#[97, 110, 121]⟩] 9)) wc.heap.size 9 plC from by
        have hb5 : Below wc.heap.size wc (wc.alloc (.cells #[.string ⟨#[108, 105, 110, 117, 120]⟩, .string ⟨#[97, 114, 109]⟩, .string ⟨#[97, 110, 121]⟩] 9)) := (Below.refl _ wc).alloc (Nat.le_refl _) _
        exact ⟨HC1.out.1.on hb5, HC1.out.2.1.on hb5, HC1.out.2.2.on hb5, Full.new wc 9 plC⟩)
       have hvb : wc.heap.size ≠ b := by have := HC1.out.1.mak.fu.lt; omega
       go_wp2_with (first
         | (go_at_call 32; ((with_reducible refine (N3b.out _ H5.out.1.mak).mono ?_); rintro en w6 ⟨rfl, h6, ht6⟩; (have H6 := Lib.hid (show MI w B b A c l w6 P.2 A' n c' acc ∧ Full w6 r 9 (txC tx) ∧ Full w6 u 52 [.string X, .bool false, .string ⟨#[]⟩, .int .i64 0] from ⟨H5.out.1.call h6 ht6, ht6.far H5.out.2.1 hrb, ht6.far H5.out.2.2.1 hub⟩)); (have z1 := plC_at (ht6.far H5.out.2.2.2 hvb) HP3.out); (rw [HPG.out.2.2.1] at z1); (have z2 := H6.out.2.2.frozen 2); (have z3 : w6.cell? ⟨u, 2, none⟩ = some (.string ⟨#[]⟩) := H6.out.2.2.cell 2); clear h6 ht6))
         | (fail "arm"))
       go_meet
       exact Lib.hid ⟨H6.out.1.xset H3u.out.1 H3u.out.2 2 _, (Turn.set_ (F := fun g => g = u) (a := ⟨u, 2, none⟩) rfl _).far H6.out.2.1 hru, H6.out.2.2.set_ 2 _⟩
     case rest =>
      have HC2 := Lib.hid hcut.out
      clear hcut HC1
      have z2 := HC2.out.2.2.frozen 1
      have z3 : wc.cell? ⟨u, 1, none⟩ = some (.bool false) := HC2.out.2.2.cell 1
      have HC1b := Lib.hid (show ∀ x ∈ [Value.string X, .bool gb, .string PL, .int .i64 0], x.oneCell' = true from by
       intro x hx
       simp at hx
       rcases hx with rfl | rfl | rfl | rfl <;> rfl)
      have HCN := Lib.hid (fun (W : World) (g : Nat) (hg : W.heap.size = g) => show ∀ j x, [Value.string X, .bool gb, .string PL, .int .i64 0][j]? = some x → (W.alloc (.cells #[.string X, .bool gb, .string PL, .int .i64 0] 52)).cell? ((⟨g, 0, none⟩ : Addr).add j) = some x from fun j x hj => by
       subst hg
       obtain ⟨ad, e, _, hc⟩ := ((Full.new W 52 [.string X, .bool gb, .string PL, .int .i64 0]).row 4 1 rfl 1 (Nat.le_refl _)).2.2.2 j x hj
       injection e with e
       subst e
       exact hc)
      have HT3 := Lib.hid (show (acc ++ [it] ++ (mItemsN l tx lim glb (k4 - (n + 1)) G.2).1, (mItemsN l tx lim glb (k4 - (n + 1)) G.2).2) = (RI, RA) from by
       have q := HT2.out
       rw [show k4 - (n + 1) = f by omega, List.append_assoc]
       exact q)
      cases glb with
      | false =>
       have e1 := HPG.out.2.1
       have e2 := HPG.out.2.2.2
       rw [if_neg Bool.false_ne_true] at e1
       rw [Bool.false_and] at e2
       subst e2
       have H7a := Lib.hid (show MI w B b A c l (wc.setCell ⟨u, 1, none⟩ (.bool false)) G.2 A' n c' acc ∧ Full (wc.setCell ⟨u, 1, none⟩ (.bool false)) r 9 (txC tx) ∧ Full (wc.setCell ⟨u, 1, none⟩ (.bool false)) u 52 [.string X, .bool false, .string PL, .int .i64 0] ∧ (Value.slice A' n c').ownBlock ≠ some r from
         ⟨by rw [← e1]; exact HC2.out.1.xset H3u.out.1 H3u.out.2 1 _, (Turn.set_ (F := fun g => g = u) (a := ⟨u, 1, none⟩) rfl _).far HC2.out.2.1 hru, HC2.out.2.2.set_ 1 _, fun q => own_full_ne HC2.out.1.row HC2.out.2.1 (by decide) r q rfl⟩)
       clear e1
       go_upto_region 10 with fail
       obtain ⟨w7, hw7⟩ : ∃ z, wc.setCell ⟨u, 1, none⟩ (.bool false) = z := ⟨_, rfl⟩
       have H7 := Lib.hid H7a.out
       rw [hw7] at H7 ⊢
       clear hw7 H7a HC2 z2 z3
       have x0 : w7.cell? ⟨u, 0, none⟩ = some (.string X) := H7.out.2.2.1.cell 0
       have x1 : w7.cell? ⟨u, 1, none⟩ = some (.bool false) := H7.out.2.2.1.cell 1
       have x2 : w7.cell? ⟨u, 2, none⟩ = some (.string PL) := H7.out.2.2.1.cell 2
       have x3 : w7.cell? ⟨u, 3, none⟩ = some (.int .i64 0) := H7.out.2.2.1.cell 3
       go_wp2_with (first
         | (at_builtin; go_loud (refine wpList_append_lies _ rfl _ _ 25 rfl w.heap.size 52 i0 (.agg #[.string ⟨#[]⟩, .bool false, .string ⟨#[]⟩, .int .i64 0]) 4 48 Tryz.underlying25 hi hz0 hz1 hz2 rfl (by decide) (.slice A' n c') n (itmsC acc) rfl (H7.out.1.row.alloc _) ⟨w7.heap.size, 0, none⟩ 1 1 [.string X, .bool false, .string PL, .int .i64 0] rfl rfl (HCN.out w7 w7.heap.size rfl) HC1b.out (by decide) (by unfold maxLen; omega) (by omega) (by have := H7.out.1.tn.size; simp; omega) _ rfl ?_; intro g9 c9 w9 hown9 hgrow9 hat9 hlt9; (rw [← HC.out] at hown9); (have H9 := Lib.hid (show MI w B b A c l w9 G.2 (some ⟨g9, 0, none⟩) (n + 1) c9 (acc ++ [it]) ∧ Full w9 r 9 (txC tx) from ⟨(H7.out.1.on ((Below.refl _ w7).alloc (Nat.le_refl _) _)).grow hown9 hgrow9, ((H7.out.2.1.on ((Below.refl _ w7).alloc (Nat.le_refl _) _)).grown hgrow9 (fun q => H7.out.2.2.2 q.symm))⟩)); clear hown9 hgrow9 hat9 hlt9))
         | (fail "arm"))
       go_roundw
       case rel => exact ⟨some ⟨g9, 0, none⟩, n + 1, c9, n + 1, G.2, acc ++ [it], rfl, by go_num, by omega, rfl, H9, HT3⟩
       case measure => simp [intOf]; omega
      | true =>
       have N4a := fun (W : World) (H : MK W B b A c l P.2) => NN.out W P.2 H
       have e1 := HPG.out.2.1
       rw [if_pos rfl] at e1
       rw [e1] at N4a
       have N4a := Lib.hid N4a
       have he : ((G.1 : Int) == 3) = gb := by
        have e2 := HPG.out.2.2.2
        rw [Bool.true_and] at e2
        rw [← e2, Bool.eq_iff_iff, beq_iff_eq, beq_iff_eq]
        omega
       clear e1
       go_upto_region 10 with (first
         | (go_at_call 32; ((with_reducible refine (N4a.out _ HC2.out.1.mak).mono ?_); rintro en w6 ⟨rfl, h6, ht6⟩; (have H6 := Lib.hid (show MI w B b A c l w6 G.2 A' n c' acc ∧ Full w6 r 9 (txC tx) ∧ Full w6 u 52 [.string X, .bool false, .string PL, .int .i64 0] from ⟨HC2.out.1.call h6 ht6, ht6.far HC2.out.2.1 hrb, ht6.far HC2.out.2.2 hub⟩)); (have z2 := H6.out.2.2.frozen 1); (have z3 : w6.cell? ⟨u, 1, none⟩ = some (.bool false) := H6.out.2.2.cell 1); clear h6 ht6))
         | (fail "arm"))
       obtain ⟨w7, hw7⟩ : ∃ z, w6.setCell ⟨u, 1, none⟩ (.bool gb) = z := ⟨_, rfl⟩
       have H7 := Lib.hid (show MI w B b A c l (w6.setCell ⟨u, 1, none⟩ (.bool gb)) G.2 A' n c' acc ∧ Full (w6.setCell ⟨u, 1, none⟩ (.bool gb)) r 9 (txC tx) ∧ Full (w6.setCell ⟨u, 1, none⟩ (.bool gb)) u 52 [.string X, .bool gb, .string PL, .int .i64 0] ∧ (Value.slice A' n c').ownBlock ≠ some r from
         ⟨H6.out.1.xset H3u.out.1 H3u.out.2 1 _, (Turn.set_ (F := fun g => g = u) (a := ⟨u, 1, none⟩) rfl _).far H6.out.2.1 hru, H6.out.2.2.set_ 1 _, fun q => own_full_ne H6.out.1.row H6.out.2.1 (by decide) r q rfl⟩)
       rw [hw7] at H7 ⊢
       clear hw7 H6 HC2 z2 z3 he
       have x0 : w7.cell? ⟨u, 0, none⟩ = some (.string X) := H7.out.2.2.1.cell 0
       have x1 : w7.cell? ⟨u, 1, none⟩ = some (.bool gb) := H7.out.2.2.1.cell 1
       have x2 : w7.cell? ⟨u, 2, none⟩ = some (.string PL) := H7.out.2.2.1.cell 2
       have x3 : w7.cell? ⟨u, 3, none⟩ = some (.int .i64 0) := H7.out.2.2.1.cell 3
       go_wp2_with (first
         | (at_builtin; go_loud (refine wpList_append_lies _ rfl _ _ 25 rfl w.heap.size 52 i0 (.agg #[.string ⟨#[]⟩, .bool false, .string ⟨#[]⟩, .int .i64 0]) 4 48 Tryz.underlying25 hi hz0 hz1 hz2 rfl (by decide) (.slice A' n c') n (itmsC acc) rfl (H7.out.1.row.alloc _) ⟨w7.heap.size, 0, none⟩ 1 1 [.string X, .bool gb, .string PL, .int .i64 0] rfl rfl (HCN.out w7 w7.heap.size rfl) HC1b.out (by decide) (by unfold maxLen; omega) (by omega) (by have := H7.out.1.tn.size; simp; omega) _ rfl ?_; intro g9 c9 w9 hown9 hgrow9 hat9 hlt9; (rw [← HC.out] at hown9); (have H9 := Lib.hid (show MI w B b A c l w9 G.2 (some ⟨g9, 0, none⟩) (n + 1) c9 (acc ++ [it]) ∧ Full w9 r 9 (txC tx) from ⟨(H7.out.1.on ((Below.refl _ w7).alloc (Nat.le_refl _) _)).grow hown9 hgrow9, ((H7.out.2.1.on ((Below.refl _ w7).alloc (Nat.le_refl _) _)).grown hgrow9 (fun q => H7.out.2.2.2 q.symm))⟩)); clear hown9 hgrow9 hat9 hlt9))
         | (fail "arm"))
       go_roundw
       case rel => exact ⟨some ⟨g9, 0, none⟩, n + 1, c9, n + 1, G.2, acc ++ [it], rfl, by go_num, by omega, rfl, H9, HT3⟩
       case measure => simp [intOf]; omega
  · have hd : decide ((n : Int) < (k4 : Int)) = false := by rw [decide_eq_false_iff_not]; omega
    have HE := Lib.hid (show MI w B b A c l wr RA A' n c' RI from by
     have q := HT.out
     rw [show k4 - n = 0 by omega, mItemsN] at q
     dsimp only at q
     rw [List.append_nil] at q
     injection q with q1 q2
     rw [← q1, ← q2]
     exact HI.out.1)
    go_wp2
    go_ret
    exact ⟨A', n, c', rfl, HE.out⟩
theorem types_ne {w : World} {b1 b2 s1 s2 n1 n2 : Nat} {e1 e2 : TypeId} {v1 v2 : Value} {x1 x2 : List Value} (h1 : w.ownsRow b1 e1 s1 v1 n1 x1) (h2 : w.ownsRow b2 e2 s2 v2 n2 x2) (he : e1 ≠ e2) : ∀ g, v1.ownBlock = some g → v2.ownBlock ≠ some g := by
 intro g hg hg2
 rcases h1.2 with ⟨rfl, _⟩ | ⟨g1, c1, u1, rfl, _, p1, _⟩
 · simp [Value.ownBlock] at hg
 · rcases h2.2 with ⟨rfl, _⟩ | ⟨g2, c2, u2, rfl, _, p2, _⟩
   · simp [Value.ownBlock] at hg2
   · have a1 : g1 = g := by simpa [Value.ownBlock] using hg
     have a2 : g2 = g := by simpa [Value.ownBlock] using hg2
     subst a1
     subst a2
     rw [p1] at p2
     injection p2 with p2
     injection p2 with _ p2
     exact he p2
structure RM (w0 : World) (B b p r : Nat) (A : Option Addr) (c : Nat) (l : List Int) (Vp : Value) (pl : List Itm) (W : World) (a : Nat) (tl : List (Tgt × (Nat → Value))) (A' : Option Addr) (n c' : Nat) : Prop where
 mak : MK W B b A c l a
 fp : Full W p 28 [Vp, .slice A' n c']
 fr : Full W r 28 [.slice none 0 0, .slice none 0 0]
 tg : W.ownsRow w0.heap.size 50 9 (.slice A' n c') n (tgtsC tl)
 ln : n = tl.length
 rows : ∀ q ∈ tl, TG W w0.heap.size q
 pl_ : W.ownsRow w0.heap.size 52 4 Vp pl.length (itmsC pl)
 tn : Turn (fun _ => False) w0 W
 lb : w0.heap.size ≤ b
 lp : w0.heap.size ≤ p
 lr : w0.heap.size ≤ r
 bp : b ≠ p
 br : b ≠ r
 pr : p ≠ r
 hB : B ≤ w0.heap.size
section
variable {w0 : World} {B b p r : Nat} {A : Option Addr} {c : Nat} {l : List Int} {Vp : Value} {pl : List Itm} {W W' : World} {a a' : Nat} {tl : List (Tgt × (Nat → Value))} {A' : Option Addr} {n c' : Nat}
theorem RM.off {F : Nat → Prop} (h : RM w0 B b p r A c l Vp pl W a tl A' n c') (k : MK W' B b A c l a') (t : Turn F W W') (h0 : ∀ g, F g → w0.heap.size ≤ g) (h1 : ¬ F p) (h2 : ¬ F r) (h3 : ∀ g, (Value.slice A' n c').ownBlock = some g → ¬ F g) (h4 : ∀ {base n1 : Nat} {v : Value} {xs : List Value}, W.ownsRow base 52 4 v n1 xs → ∀ g, v.ownBlock = some g → ¬ F g) : RM w0 B b p r A c l Vp pl W' a' tl A' n c' :=
 ⟨k, t.far h.fp h1, t.far h.fr h2, own_off h.tg t h3, h.ln, fun q hq i hi => own_off (h.rows q hq i hi) t (h4 (h.rows q hq i hi)), own_off h.pl_ t (h4 h.pl_), h.tn.late t (fun g e => .inr (h0 g e)), h.lb, h.lp, h.lr, h.bp, h.br, h.pr, h.hB⟩
theorem RM.call (h : RM w0 B b p r A c l Vp pl W a tl A' n c') (k : MK W' B b A c l a') (t : Turn (fun g => g = b) W W') : RM w0 B b p r A c l Vp pl W' a' tl A' n c' :=
 h.off k t (fun g e => by rw [e]; exact h.lb) (fun e => h.bp e.symm) (fun e => h.br e.symm) (own_full_ne h.tg h.mak.fu (by decide)) (fun z => own_full_ne z h.mak.fu (by decide))
theorem RM.on (h : RM w0 B b p r A c l Vp pl W a tl A' n c') (hb : Below W.heap.size W W') : RM w0 B b p r A c l Vp pl W' a tl A' n c' := h.call (h.mak.on hb) (Turn.of hb)
theorem RM.drew (h : RM w0 B b p r A c l Vp pl W a tl A' n c') : RM w0 B b p r A c l Vp pl W.drew a tl A' n c' := h.on (Below.drew (Below.refl _ W))
theorem RM.plat (h : RM w0 B b p r A c l (.slice A' n c') pl W a [] none 0 0) (hn : n ≤ 100) (hl : n = pl.length) (it : Itm) (y0 y1 y2 y3 : Value) (hy : itmC it = [y0, y1, y2, y3]) :
   ∃ g3 c3 w3, (Builtin.append_ #[25, 25] 25 #[.slice A' n c', .slice (some ⟨W.heap.size, 0, none⟩) 1 1]).run Tryz.prog (W.alloc (.cells #[y0, y1, y2, y3] 52)) = .ok (.slice (some ⟨g3, 0, none⟩) (n + 1) c3) w3 ∧
     (w3.cell? ⟨p, 0, none⟩ = some (.slice A' n c') ∧ w3.frozen? ⟨p, 0, none⟩ = false) ∧
     RM w0 B b p r A c l (.slice (some ⟨g3, 0, none⟩) (n + 1) c3) (pl ++ [it]) (w3.setCell ⟨p, 0, none⟩ (.slice (some ⟨g3, 0, none⟩) (n + 1) c3)) a [] none 0 0 ∧ Turn (fun g => g = p ∨ (Value.slice A' n c').ownBlock = some g) W (w3.setCell ⟨p, 0, none⟩ (.slice (some ⟨g3, 0, none⟩) (n + 1) c3)) := by
 obtain ⟨i0, hi, hz0, hz1, hz2⟩ := info_parts info52
 obtain ⟨wa, hwa⟩ : ∃ wa, W.alloc (.cells #[y0, y1, y2, y3] 52) = wa := ⟨_, rfl⟩
 have hba : Below W.heap.size W wa := by rw [← hwa]; exact (Below.refl _ W).alloc (Nat.le_refl _) _
 have FN : Full wa W.heap.size 52 [y0, y1, y2, y3] := by rw [← hwa]; exact Full.new W 52 _
 have ha := h.on hba
 have hO := ha.pl_
 rw [← hl] at hO
 obtain ⟨g3, c3, w3, hap, hown3, hgrow3, _, _⟩ := run_append_lies (P := Tryz.prog) wa 25 25 w0.heap.size 52 i0 _ 4 48 Tryz.underlying25 hi hz0 hz1 hz2 rfl (by decide) (.slice A' n c') n (itmsC pl) hO ⟨W.heap.size, 0, none⟩ 1 1 [y0, y1, y2, y3] rfl (fun j u hj => by
   obtain ⟨ad, e, _, hc⟩ := (FN.row 4 1 rfl 1 (Nat.le_refl _)).2.2.2 j u hj
   injection e with e
   subst e
   exact hc) (by
     rw [← hy]
     intro u hu
     simp [itmC] at hu
     rcases hu with rfl | rfl | rfl | rfl <;> rfl) (by decide) (by unfold maxLen; omega) (by omega) ha.tn.size _ rfl
 rw [hwa]
 refine ⟨g3, c3, w3, hap, ?_⟩
 have tg : Turn (fun g => (Value.slice A' n c').ownBlock = some g) wa w3 := Turn.grown hgrow3 fun g e => .inl e
 have fp3 := tg.far ha.fp (fun e => own_full_ne hO ha.fp (by decide) p e rfl)
 have fr3 := tg.far ha.fr (fun e => own_full_ne hO ha.fr (by decide) r e rfl)
 have ts : Turn (fun g => g = p) w3 (w3.setCell ⟨p, 0, none⟩ (.slice (some ⟨g3, 0, none⟩) (n + 1) c3)) := Turn.set_ (F := fun g => g = p) (a := ⟨p, 0, none⟩) rfl _
 have tt : Turn (fun g => g = p ∨ (Value.slice A' n c').ownBlock = some g) wa (w3.setCell ⟨p, 0, none⟩ (.slice (some ⟨g3, 0, none⟩) (n + 1) c3)) := (tg.mono fun _ e => .inr e).trans_ (ts.mono fun _ e => .inl e)
 refine ⟨⟨fp3.cell 0, fp3.frozen 0⟩, ?_, (Turn.of hba).trans_ tt⟩
 refine ⟨ha.mak.far tt ?_ ?_, fp3.set_ 0 _, ts.far fr3 (fun e => h.pr e.symm), ⟨rfl, .inl ⟨rfl, rfl⟩⟩, rfl, fun q hq => (by cases hq), ?_, ha.tn.late tt ?_, h.lb, h.lp, h.lr, h.bp, h.br, h.pr, h.hB⟩
 · rintro (e | e)
   · exact h.bp e
   · exact own_full_ne hO ha.mak.fu (by decide) b e rfl
 · rintro g (e | e)
   · rw [e]; exact Nat.le_trans h.hB h.lp
   · exact Nat.le_trans h.hB (row_ge hO g e)
 · have e : itmsC (pl ++ [it]) = itmsC pl ++ [y0, y1, y2, y3] := by rw [itmsC_snoc, hy]
   rw [e, List.length_append, ← hl]
   exact own_off hown3 ts (own_full_ne hown3 fp3 (by decide))
 · rintro g (e | e)
   · rw [e]; exact .inr h.lp
   · exact .inr (row_ge hO g e)
theorem RM.grow (h : RM w0 B b p r A c l Vp pl W a tl A' n c') {T : Tgt} {vs : Nat → Value} {g9 c9 : Nat} (ho : W'.ownsRow w0.heap.size 50 9 (.slice (some ⟨g9, 0, none⟩) (n + 1) c9) (n + 1) (tgtsC tl ++ tgtC (T, vs))) (hg : W.grownBy W' (Value.slice A' n c').ownBlock) (hT : TG W w0.heap.size (T, vs)) :
   (W'.cell? ⟨p, 1, none⟩ = some (.slice A' n c') ∧ W'.frozen? ⟨p, 1, none⟩ = false) ∧ RM w0 B b p r A c l Vp pl (W'.setCell ⟨p, 1, none⟩ (.slice (some ⟨g9, 0, none⟩) (n + 1) c9)) a (tl ++ [(T, vs)]) (some ⟨g9, 0, none⟩) (n + 1) c9 := by
 have tg : Turn (fun g => (Value.slice A' n c').ownBlock = some g) W W' := Turn.grown hg fun g e => .inl e
 have fp3 := tg.far h.fp (fun e => own_full_ne h.tg h.fp (by decide) p e rfl)
 have ts : Turn (fun g => g = p) W' (W'.setCell ⟨p, 1, none⟩ (.slice (some ⟨g9, 0, none⟩) (n + 1) c9)) := Turn.set_ (F := fun g => g = p) (a := ⟨p, 1, none⟩) rfl _
 have tt : Turn (fun g => g = p ∨ (Value.slice A' n c').ownBlock = some g) W (W'.setCell ⟨p, 1, none⟩ (.slice (some ⟨g9, 0, none⟩) (n + 1) c9)) := (tg.mono fun _ e => .inr e).trans_ (ts.mono fun _ e => .inl e)
 have k52 : ∀ {base n1 : Nat} {v : Value} {xs : List Value}, W.ownsRow base 52 4 v n1 xs → (W'.setCell ⟨p, 1, none⟩ (.slice (some ⟨g9, 0, none⟩) (n + 1) c9)).ownsRow base 52 4 v n1 xs := fun {base n1 v xs} z => by
   have z3 := own_off z tg (fun g e e2 => types_ne z h.tg (by decide) g e e2)
   exact own_off z3 ts (own_full_ne z3 fp3 (by decide))
 refine ⟨⟨fp3.cell 1, fp3.frozen 1⟩, ⟨h.mak.far tt ?_ ?_, fp3.set_ 1 _, ts.far (tg.far h.fr (fun e => own_full_ne h.tg h.fr (by decide) r e rfl)) (fun e => h.pr e.symm), ?_, by rw [List.length_append, h.ln]; rfl, ?_, k52 h.pl_, h.tn.late tt ?_, h.lb, h.lp, h.lr, h.bp, h.br, h.pr, h.hB⟩⟩
 · rintro (e | e)
   · exact h.bp e
   · exact own_full_ne h.tg h.mak.fu (by decide) b e rfl
 · rintro g (e | e)
   · rw [e]; exact Nat.le_trans h.hB h.lp
   · exact Nat.le_trans h.hB (row_ge h.tg g e)
 · rw [tgtsC_snoc]
   exact own_off ho ts (own_full_ne ho fp3 (by decide))
 · intro q hq
   rcases List.mem_append.1 hq with hq | hq
   · exact fun i hi => k52 (h.rows q hq i hi)
   · obtain rfl : q = (T, vs) := by simpa using hq
     exact fun i hi => k52 (hT i hi)
 · rintro g (e | e)
   · rw [e]; exact .inr h.lp
   · exact .inr (row_ge h.tg g e)
theorem RM.build (h : RM w0 B b p r A c l Vp pl W a tl A' n c') {F : Nat → Prop} (t : Turn F W W') (hF : ∀ g, F g → g = r) : BuildAt W' w0.heap.size (.agg #[Vp, .slice A' n c']) pl (tl.map Prod.fst) := by
 have e52 : ∀ {n1 : Nat} {v : Value} {xs : List Value}, W.ownsRow w0.heap.size 52 4 v n1 xs → W'.ownsRow w0.heap.size 52 4 v n1 xs := fun {n1 v xs} z => own_off z t (fun g e e2 => own_full_ne z h.fr (by decide) g e (hF g e2))
 exact ⟨Vp, A', n, c', tl, rfl, own_off h.tg t (fun g e e2 => own_full_ne h.tg h.fr (by decide) g e (hF g e2)), h.ln, rfl, fun q hq i hi => e52 (h.rows q hq i hi), e52 h.pl_⟩
end
structure RMT (w0 : World) (B b p r u : Nat) (A : Option Addr) (c : Nat) (l : List Int) (Vp : Value) (pl : List Itm) (W : World) (a : Nat) (tl : List (Tgt × (Nat → Value))) (A' : Option Addr) (n c' : Nat) (T : Tgt) (vs : Nat → Value) : Prop where
 rm : RM w0 B b p r A c l Vp pl W a tl A' n c'
 ft : Full W u 50 (tgtC (T, vs))
 tr : TG W w0.heap.size (T, vs)
 lu : w0.heap.size ≤ u
 un : (Value.slice A' n c').ownBlock ≠ some u
section
variable {w0 : World} {B b p r u : Nat} {A : Option Addr} {c : Nat} {l : List Int} {Vp : Value} {pl : List Itm} {W W' : World} {a a' : Nat} {tl : List (Tgt × (Nat → Value))} {A' : Option Addr} {n c' : Nat} {T : Tgt} {vs : Nat → Value}
theorem RMT.call (h : RMT w0 B b p r u A c l Vp pl W a tl A' n c' T vs) (k : MK W' B b A c l a') (t : Turn (fun g => g = b) W W') : RMT w0 B b p r u A c l Vp pl W' a' tl A' n c' T vs :=
 ⟨h.rm.call k t, t.far h.ft (fun e => h.ft.ne_ h.rm.mak.fu (by decide) e), fun i hi => own_off (h.tr i hi) t (own_full_ne (h.tr i hi) h.rm.mak.fu (by decide)), h.lu, h.un⟩
theorem RMT.on (h : RMT w0 B b p r u A c l Vp pl W a tl A' n c' T vs) (hb : Below W.heap.size W W') : RMT w0 B b p r u A c l Vp pl W' a tl A' n c' T vs := h.call (h.rm.mak.on hb) (Turn.of hb)
theorem RMT.turn {T' : Tgt} {vs' : Nat → Value} (h : RMT w0 B b p r u A c l Vp pl W a tl A' n c' T vs) (t : Turn (fun g => g = u) W W') (F : Full W' u 50 (tgtC (T', vs'))) (hr : TG W w0.heap.size (T', vs')) : RMT w0 B b p r u A c l Vp pl W' a tl A' n c' T' vs' := by
 have hlu := h.lu
 have hBB := h.rm.hB
 have n52 : ∀ {base n1 : Nat} {v : Value} {xs : List Value}, W.ownsRow base 52 4 v n1 xs → ∀ g, v.ownBlock = some g → ¬ g = u := fun z => own_full_ne z h.ft (by decide)
 exact ⟨h.rm.off (h.rm.mak.far t (fun e => h.ft.ne_ h.rm.mak.fu (by decide) e.symm) (fun g e => by omega)) t (fun g e => by omega) (fun e => h.ft.ne_ h.rm.fp (by decide) e.symm) (fun e => h.ft.ne_ h.rm.fr (by decide) e.symm) (fun g e q => h.un (by rw [e, q])) n52,
   F, fun j hj => own_off (hr j hj) t (n52 (hr j hj)), h.lu, h.un⟩
theorem RMT.put {T' : Tgt} {vs' : Nat → Value} (h : RMT w0 B b p r u A c l Vp pl W a tl A' n c' T vs) (i : Nat) (v : Value) (he : (tgtC (T, vs)).set i v = tgtC (T', vs')) (hr : TG W w0.heap.size (T', vs')) : RMT w0 B b p r u A c l Vp pl (W.setCell ⟨u, i, none⟩ v) a tl A' n c' T' vs' :=
 h.turn (Turn.set_ (F := fun g => g = u) (a := ⟨u, i, none⟩) rfl _) (by rw [← he]; exact h.ft.set_ i v) hr
theorem RMT.row (h : RMT w0 B b p r u A c l Vp pl W a tl A' n c' T vs) {n2 c2 : Nat} {A2 : Option Addr} {L : List Itm} (k : MI W B b A c l W' a' A2 n2 c2 L) (j : Nat) (hj : j < 4) :
   (W'.cell? ⟨u, 3 + j, none⟩ = some (vs j) ∧ W'.frozen? ⟨u, 3 + j, none⟩ = false) ∧ RMT w0 B b p r u A c l Vp pl (W'.setCell ⟨u, 3 + j, none⟩ (.slice A2 n2 c2)) a' tl A' n c' { T with rows := upd T.rows j L } (upd vs j (.slice A2 n2 c2)) := by
 have h2 := h.call k.mak k.tn
 refine ⟨⟨?_, h2.ft.frozen _⟩, h2.put (3 + j) _ ?_ ?_⟩
 · rw [h2.ft.cell (3 + j)]
   obtain rfl | rfl | rfl | rfl : j = 0 ∨ j = 1 ∨ j = 2 ∨ j = 3 := by omega
   all_goals rfl
 · obtain rfl | rfl | rfl | rfl : j = 0 ∨ j = 1 ∨ j = 2 ∨ j = 3 := by omega
   all_goals rfl
 · intro i hi
   show W'.ownsRow w0.heap.size 52 4 (upd vs j (.slice A2 n2 c2) i) (upd T.rows j L i).length (itmsC (upd T.rows j L i))
   unfold upd
   by_cases e : i = j
   · rw [if_pos e, if_pos e, ← k.len]
     exact own_base k.row h.rm.tn.size
   · rw [if_neg e, if_neg e]
     exact h2.tr i hi
theorem RMT.num {T' : Tgt} (h : RMT w0 B b p r u A c l Vp pl W a tl A' n c' T vs) (i : Nat) (x : Int) (he : (tgtC (T, vs)).set i (.int .i64 x) = tgtC (T', vs)) (hr : T'.rows = T.rows) : RMT w0 B b p r u A c l Vp pl (W.setCell ⟨u, i, none⟩ (.int .i64 x)) a tl A' n c' T' vs :=
 h.put i _ he (fun j hj => by
   have := h.tr j hj
   show W.ownsRow w0.heap.size 52 4 (vs j) (T'.rows j).length (itmsC (T'.rows j))
   rw [hr]
   exact this)
theorem RM.start (h : RM w0 B b p r A c l Vp pl W a tl A' n c') {T : Tgt} {vs : Nat → Value} (F : Full W' W.heap.size 50 (tgtC (T, vs))) (hb : Below W.heap.size W W') (hv : ∀ i, i < 4 → vs i = .slice none 0 0 ∧ T.rows i = []) : RMT w0 B b p r W.heap.size A c l Vp pl W' a tl A' n c' T vs := by
 refine ⟨h.on hb, F, fun i hi => ?_, h.tn.size, fun q => ?_⟩
 · obtain ⟨e1, e2⟩ := hv i hi
   show W'.ownsRow w0.heap.size 52 4 (vs i) (T.rows i).length (itmsC (T.rows i))
   rw [e1, e2]
   exact ⟨rfl, .inl ⟨rfl, rfl⟩⟩
 · obtain ⟨_, hr⟩ := h.tg
   rcases hr with ⟨e, _⟩ | ⟨g1, c1, u1, e, _, p1, _⟩
   · rw [e] at q; simp [Value.ownBlock] at q
   · rw [e] at q
     have q : g1 = W.heap.size := by simpa [Value.ownBlock] using q
     have := (Array.getElem?_eq_some_iff.1 p1).1
     omega
def tgR (name : List UInt8) (kind : Int) (R : Nat → List Itm) (cost retry : Int) : Tgt := ⟨name, kind, 0, R, cost, retry, 0, fun _ => false⟩
def tg0 (name : List UInt8) (kind cost : Int) : Tgt := tgR name kind (fun _ => []) cost 0
def vs0 : Nat → Value := fun _ => .slice none 0 0
theorem Turn.nine (w : World) (u : Nat) (y0 y1 y2 y3 y4 y5 y6 y7 y8 : Value) : Turn (fun g => g = u) w (((((((((w.setCell ⟨u, 0, none⟩ y0).setCell ⟨u, 1, none⟩ y1).setCell ⟨u, 2, none⟩ y2).setCell ⟨u, 3, none⟩ y3).setCell ⟨u, 4, none⟩ y4).setCell ⟨u, 5, none⟩ y5).setCell ⟨u, 6, none⟩ y6).setCell ⟨u, 7, none⟩ y7).setCell ⟨u, 8, none⟩ y8) :=
 (((((((((Turn.refl (fun g => g = u) w).setb rfl 0 y0).setb rfl 1 y1).setb rfl 2 y2).setb rfl 3 y3).setb rfl 4 y4).setb rfl 5 y5).setb rfl 6 y6).setb rfl 7 y7).setb rfl 8 y8
theorem RMT.items {name : List UInt8} {kind cost retry : Int} {R : Nat → List Itm} {qn : Nat} {nm : List Value} (h : RMT w0 B b p r u A c l Vp pl W a tl A' n c' (tgR name kind R cost retry) vs ∧ Full W qn 9 nm) (tx : List (List UInt8)) (hx0 : 0 < tx.length) (hx9 : tx.length ≤ 100) (lim glb : Bool) (j : Nat) (hj : j < 4) :
   Calls Tryz.prog 33 #[.pointer (some ⟨b, 0, none⟩), .slice (some ⟨W.heap.size, 0, none⟩) tx.length tx.length, .bool lim, .bool glb] (W.alloc (.cells (txC tx).toArray 9)) (fun en w' => ∃ A2 n2 c2, en = .returned (.slice A2 n2 c2) ∧ (w'.cell? ⟨u, 3 + j, none⟩ = some (vs j) ∧ w'.frozen? ⟨u, 3 + j, none⟩ = false) ∧
     (RMT w0 B b p r u A c l Vp pl (w'.setCell ⟨u, 3 + j, none⟩ (.slice A2 n2 c2)) (mItems l tx lim glb a).2 tl A' n c' (tgR name kind (upd R j (mItems l tx lim glb a).1) cost retry) (upd vs j (.slice A2 n2 c2)) ∧ Full (w'.setCell ⟨u, 3 + j, none⟩ (.slice A2 n2 c2)) qn 9 nm)) := by
 have hb : Below W.heap.size W (W.alloc (.cells (txC tx).toArray 9)) := (Below.refl _ W).alloc (Nat.le_refl _) _
 have F : Full (W.alloc (.cells (txC tx).toArray 9)) W.heap.size 9 (txC tx) := Full.new W 9 _
 have h1 := h.1.on hb
 refine (items33_any h1.rm.mak F hx0 hx9 lim glb).mono ?_
 rintro en w' ⟨A2, n2, c2, rfl, k⟩
 obtain ⟨f, q⟩ := h1.row k j hj
 refine ⟨A2, n2, c2, rfl, f, q, ?_⟩
 exact (Turn.set_ (F := fun g => g = u) (a := ⟨u, 3 + j, none⟩) rfl _).far (k.tn.far (h.2.on hb) ((h.2.on hb).ne_ h1.rm.mak.fu (by decide))) ((h.2.ne_ h.1.ft (by decide)))
end
set_option maxHeartbeats 64000000 in
theorem made_any {w : World} {B : Nat} {A : Option Addr} {c : Nat} {l : List Int} (hR : Row w B 1 A l.length c (intsC l)) (hB : B ≤ w.heap.size) (hl : l.length ≤ 9223372036854775807) :
   Calls Tryz.prog 15 #[.slice A l.length c] w (fun en w' => ∃ v, en = .returned v ∧ BuildAt w' w.heap.size v (mMade l).1 (mMade l).2 ∧ Turn (fun _ => False) w w') := by
 unfold mMade
 dsimp only
 have h4 := mNext_lt (l := l) (a := 0) (n := 4) (by decide)
 obtain ⟨ii0, hi, hz0, hz1, hz2⟩ := info_parts info50
 obtain ⟨⟨k4, a4⟩, e4⟩ : ∃ z, mNext l 0 4 = z := ⟨_, rfl⟩
 have N4 := fun (W : World) (b : Nat) (H : MK W B b A c l 0) => next_lit H 4 4 rfl (by decide) (by decide)
 rw [e4] at h4 N4
 rw [e4]
 dsimp only at h4 N4 ⊢
 have h6 := mNext_lt (l := l) (a := a4) (n := 6) (by decide)
 obtain ⟨⟨k6, a6⟩, e6⟩ : ∃ z, mNext l a4 6 = z := ⟨_, rfl⟩
 have N6 := fun (W : World) (b : Nat) (H : MK W B b A c l a4) => next_lit H 6 6 rfl (by decide) (by decide)
 rw [e6] at h6 N6
 rw [e6]
 dsimp only at h6 N6 ⊢
 obtain ⟨LP, hLP⟩ : ∃ z, mPlats k4 = z := ⟨_, rfl⟩
 obtain ⟨LT, hLT⟩ : ∃ z, mTs l k6 0 a6 = z := ⟨_, rfl⟩
 rw [hLP, hLT]
 have HR := Lib.hid (And.intro hR (And.intro hB hl))
 have N4 := Lib.hid N4
 have N6 := Lib.hid N6
 have HLP := Lib.hid hLP
 have HLT := Lib.hid hLT
 obtain ⟨L, hL⟩ : ∃ L, l.length = L := ⟨_, rfl⟩
 rw [hL]
 have HL := Lib.hid hL
 clear e4 e6 hLP hLT hR hB hl hL
 go_enter Tryz.func15, Tryz.ntmps15
 go_upto_region 4 with fail
 obtain ⟨w1, hw1⟩ : ∃ z, w.alloc (.cells #[.slice none 0 0, .slice none 0 0] 28) = z := ⟨_, rfl⟩
 obtain ⟨w2, hw2⟩ : ∃ z, w1.alloc (.cells #[.slice A L c, .int .i64 0] 64) = z := ⟨_, rfl⟩
 obtain ⟨w3, hw3⟩ : ∃ z, w2.alloc (.cells #[.slice none 0 0, .slice none 0 0] 28) = z := ⟨_, rfl⟩
 obtain ⟨w4, hw4⟩ : ∃ z, w3.alloc (.cells #[.string ⟨#[108, 105, 110, 117, 120]⟩, .string ⟨#[97, 114, 109]⟩, .string ⟨#[97, 110, 121]⟩, .string ⟨#[120, 45, 49]⟩] 9) = z := ⟨_, rfl⟩
 rw [hw1, hw2, hw3, hw4]
 have s1 : w1.heap.size = w.heap.size + 1 := by rw [← hw1]; exact Array.size_push ..
 have s2 : w2.heap.size = w.heap.size + 1 + 1 := by rw [← hw2, ← s1]; exact Array.size_push ..
 have s3 : w3.heap.size = w.heap.size + 1 + 1 + 1 := by rw [← hw3, ← s2]; exact Array.size_push ..
 have b1 : Below w.heap.size w w1 := by rw [← hw1]; exact (Below.refl _ w).alloc (Nat.le_refl _) _
 have b2 : Below w1.heap.size w1 w2 := by rw [← hw2]; exact (Below.refl _ w1).alloc (Nat.le_refl _) _
 have b3 : Below w2.heap.size w2 w3 := by rw [← hw3]; exact (Below.refl _ w2).alloc (Nat.le_refl _) _
 have b4 : Below w3.heap.size w3 w4 := by rw [← hw4]; exact (Below.refl _ w3).alloc (Nat.le_refl _) _
 have F1 : Full w1 w.heap.size 28 [.slice none 0 0, .slice none 0 0] := by rw [← hw1]; exact Full.new w 28 _
 have F2 : Full w2 (w.heap.size + 1) 64 [.slice A L c, .int .i64 0] := by rw [← hw2, ← s1]; exact Full.new w1 64 _
 have F3 : Full w3 (w.heap.size + 1 + 1) 28 [.slice none 0 0, .slice none 0 0] := by rw [← hw3, ← s2]; exact Full.new w2 28 _
 have F4 : Full w4 (w.heap.size + 1 + 1 + 1) 9 (txC mAll) := by rw [← hw4, ← s3]; exact Full.new w3 9 _
 have H4 := Lib.hid (show RM w B (w.heap.size + 1) (w.heap.size + 1 + 1) w.heap.size A c l (.slice none 0 0) [] w4 0 [] none 0 0 ∧ Full w4 (w.heap.size + 1 + 1 + 1) 9 (txC mAll) from by
  obtain ⟨r1, r2, r3⟩ := HR.out
  have t : Turn (fun _ => False) w w4 := (((Turn.of b1).late (Turn.of (F := fun _ => False) b2) (fun _ e => e.elim)).late (Turn.of (F := fun _ => False) b3) (fun _ e => e.elim)).late (Turn.of (F := fun _ => False) b4) (fun _ e => e.elim)
  have hbw : Below w.heap.size w w4 := t.below (fun _ e => e.elim) (Nat.le_refl _)
  refine ⟨⟨⟨by rw [HL.out]; exact (F2.on b3).on b4, Row.below r1 hbw r2, by omega, Nat.zero_le _, r3⟩, F3.on b4, ((F1.on b2).on b3).on b4, ⟨rfl, .inl ⟨rfl, rfl⟩⟩, rfl, fun q hq => (by cases hq), ⟨rfl, .inl ⟨rfl, rfl⟩⟩, t, by omega, by omega, Nat.le_refl _, by omega, by omega, by omega, r2⟩, F4⟩)
 obtain ⟨r, hr⟩ : ∃ z, w.heap.size = z := ⟨_, rfl⟩
 rw [hr] at H4
 rw [hr]
 obtain ⟨b, hb⟩ : ∃ z, r + 1 = z := ⟨_, rfl⟩
 rw [hb] at H4
 rw [hb]
 obtain ⟨p, hp⟩ : ∃ z, b + 1 = z := ⟨_, rfl⟩
 rw [hp] at H4
 rw [hp]
 obtain ⟨qa, hqa⟩ : ∃ z, p + 1 = z := ⟨_, rfl⟩
 rw [hqa] at H4
 rw [hqa]
 have HRR := Lib.hid hr
 clear hw1 hw2 hw3 hw4 s1 s2 s3 b1 b2 b3 b4 F1 F2 F3 F4 HR hb hp hqa hr
 go_upto_region 6 with (first
   | (go_at_call 32; ((with_reducible refine (N4.out _ _ H4.out.1.mak).mono ?_); rintro en w5 ⟨rfl, h5, ht5⟩; (have H5 := Lib.hid (show RM w B b p r A c l (.slice none 0 0) [] w5 a4 [] none 0 0 ∧ Full w5 qa 9 (txC mAll) from ⟨H4.out.1.call h5 ht5, ht5.far H4.out.2 (H4.out.2.ne_ H4.out.1.mak.fu (by decide))⟩)); clear h5 ht5))
   | (fail "arm"))
 go_loopw [7] (fun i wr => ∃ (k : Nat), i = .int .i64 (k : Int) ∧ k ≤ k4 ∧ Hid (∃ Ap cp, RM w B b p r A c l (.slice Ap k cp) (mPlats k) wr a4 [] none 0 0 ∧ Full wr qa 9 (txC mAll))) (fun i _ => k4 - (intOf i).toNat)
 case atStart => exact ⟨0, rfl, Nat.zero_le _, Lib.hid ⟨none, 0, H5.out⟩⟩
 case round =>
  obtain ⟨k, rfl, hk, HI⟩ := hrel
  obtain ⟨Ap, cp, HI⟩ := HI.out
  have HI := Lib.hid HI
  have k0 : (0 : Int) ≤ (k : Int) := Int.natCast_nonneg _
  by_cases hlt : k < k4
  · have hd : decide ((k : Int) < (k4 : Int)) = true := by rw [decide_eq_true_eq]; omega
    have k1 : (k : Int) < 4 := by omega
    obtain ⟨X, hX⟩ : ∃ X, str (mAll.getD k []) = X := ⟨_, rfl⟩
    have hkl : mPlats k = mPlats k ∧ (mPlats k).length = k := by
     refine ⟨rfl, ?_⟩
     unfold mPlats
     rw [List.length_map, List.length_take]
     show min k 4 = k
     omega
    have hsn : mPlats (k + 1) = mPlats k ++ [⟨mAll.getD k [], false, [], 0⟩] := by
     obtain rfl | rfl | rfl | rfl : k = 0 ∨ k = 1 ∨ k = 2 ∨ k = 3 := by omega
     all_goals rfl
    obtain ⟨g3, c3, w3, hap, ⟨z1, z2⟩, hP9, hT9⟩ := HI.out.1.drew.plat (by omega) hkl.2.symm ⟨mAll.getD k [], false, [], 0⟩ (.string X) (.bool false) (.string ⟨#[]⟩) (.int .i64 0) (by rw [← hX]; rfl)
    rw [← hsn] at hP9
    have u0 : wr.drew.cell? ⟨p, 0, none⟩ = some (.slice Ap k cp) := HI.out.1.drew.fp.cell 0
    have u1 : (wr.alloc (.cells #[.string X, .bool false, .string ⟨#[]⟩, .int .i64 0] 52)).drew.cell? ⟨p, 0, none⟩ = some (.slice Ap k cp) := (HI.out.1.fp.alloc _).drew.cell 0
    have hap : (Builtin.append_ #[25, 25] 25 #[.slice Ap k cp, .slice (some ⟨wr.heap.size, 0, none⟩) 1 1]).run Tryz.prog (wr.alloc (.cells #[.string X, .bool false, .string ⟨#[]⟩, .int .i64 0] 52)).drew = .ok (.slice (some ⟨g3, 0, none⟩) (k + 1) c3) w3 := hap
    have x0 : wr.drew.cell? ⟨qa, k, none⟩ = some (.string X) := by
     have := txC_at (HI.out.2.drew) (k := k) (by show k < 4; omega)
     rw [hX] at this
     exact this
    have HP9 := Lib.hid (And.intro hP9 (show Full (w3.setCell ⟨p, 0, none⟩ (.slice (some ⟨g3, 0, none⟩) (k + 1) c3)) qa 9 (txC mAll) from hT9.far HI.out.2.drew (by
     rintro (e | e)
     · exact HI.out.2.ne_ HI.out.1.fp (by decide) e
     · exact own_full_ne HI.out.1.drew.pl_ HI.out.2.drew (by decide) qa e rfl)))
    clear hX hsn hkl hP9 hT9 hd
    go_upto_region 8 with fail
    go_region_law (first
      | (refine step_append_run rfl _ _ 25 25 rfl (.slice Ap k cp) (.slice (some ⟨wr.heap.size, 0, none⟩) 1 1) (by simp [Act.eval]) (by simp [Act.eval]) hap ?_))
    all_goals
      go_wp2
      go_roundw
      case rel => exact ⟨k + 1, by go_num, by omega, Lib.hid ⟨_, c3, HP9.out⟩⟩
      case measure => simp [intOf]; omega
  · have hd : decide ((k : Int) < (k4 : Int)) = false := by rw [decide_eq_false_iff_not]; omega
    have hkk : k = k4 := by omega
    subst hkk
    rw [HLP.out] at HI
    have hpl := HLP.out
    have hlpl : LP.length = k := by
     rw [← hpl]
     unfold mPlats
     rw [List.length_map, List.length_take]
     show min k 4 = k
     omega
    have HLL := Lib.hid hlpl
    have HN := Lib.hid (show RM w B b p r A c l (.slice Ap k cp) LP (wr.alloc (.cells #[.string ⟨#[97]⟩, .string ⟨#[108, 105, 98]⟩, .string ⟨#[107, 105, 110, 100]⟩, .string ⟨#[116, 97, 114, 103, 101, 116]⟩, .string ⟨#[120, 46, 121]⟩, .string ⟨#[95, 49]⟩, .string ⟨#[103, 108, 111, 98]⟩, .string ⟨#[112, 108, 97, 116, 102, 111, 114, 109, 115]⟩] 9)) a4 [] none 0 0 ∧ Full (wr.alloc (.cells #[.string ⟨#[97]⟩, .string ⟨#[108, 105, 98]⟩, .string ⟨#[107, 105, 110, 100]⟩, .string ⟨#[116, 97, 114, 103, 101, 116]⟩, .string ⟨#[120, 46, 121]⟩, .string ⟨#[95, 49]⟩, .string ⟨#[103, 108, 111, 98]⟩, .string ⟨#[112, 108, 97, 116, 102, 111, 114, 109, 115]⟩] 9)) wr.heap.size 9 (txC mNames) from
      ⟨HI.out.1.on ((Below.refl _ wr).alloc (Nat.le_refl _) _), Full.new wr 9 (txC mNames)⟩)
    clear hd hpl hlpl HLP H5 H4
    go_upto_region 12 with (first
      | (go_at_call 32; ((with_reducible refine (N6.out _ _ HN.out.1.mak).mono ?_); rintro en w6 ⟨rfl, h6', ht6⟩; (have H6 := Lib.hid (show RM w B b p r A c l (.slice Ap k cp) LP w6 a6 [] none 0 0 ∧ Full w6 wr.heap.size 9 (txC mNames) from ⟨HN.out.1.call h6' ht6, ht6.far HN.out.2 (HN.out.2.ne_ HN.out.1.mak.fu (by decide))⟩)); clear h6' ht6))
      | (fail "arm"))
    obtain ⟨qn, hqn⟩ : ∃ z, wr.heap.size = z := ⟨_, rfl⟩
    rw [hqn] at H6 ⊢
    clear hqn HN HI N6 N4
    go_loopw [10] (fun v10 wr => ∃ (k : Nat) (a' : Nat) (tl : List (Tgt × (Nat → Value))) (A' : Option Addr) (c' : Nat), v10 = .int .i64 (k : Int) ∧ k ≤ k6 ∧ Hid (RM w B b p r A c l (.slice Ap LP.length cp) LP wr a' tl A' k c' ∧ Full wr qn 9 (txC mNames)) ∧ Hid (tl.map Prod.fst ++ mTs l (k6 - k) k a' = LT)) (fun v10 _ => k6 - (intOf v10).toNat)
    case atStart => exact ⟨0, a6, [], none, 0, rfl, Nat.zero_le _, Lib.hid (by rw [HLL.out]; exact H6.out), Lib.hid (by rw [Nat.sub_zero]; exact HLT.out)⟩
    case round =>
     obtain ⟨i, a', tl, A', c', rfl, hi6, HT, HM⟩ := hrel
     clear H6 HLT
     have i0 : (0 : Int) ≤ (i : Int) := Int.natCast_nonneg _
     by_cases hlt2 : i < k6
     · have hd : decide ((i : Int) < (k6 : Int)) = true := by rw [decide_eq_true_eq]; omega
       have i1 : (i : Int) < 8 := by omega
       obtain ⟨f, hf⟩ : ∃ f, k6 - i = f + 1 := ⟨k6 - i - 1, by omega⟩
       have hm := HM.out
       rw [hf, mTs] at hm
       obtain ⟨X, hX⟩ : ∃ X, str (mNames.getD i []) = X := ⟨_, rfl⟩
       have q4 := mNext_lt (l := l) (a := a') (n := 4) (by decide)
       have M4 := next_lit (HT.out.1.mak.on (Below.drew (Below.refl _ wr))) 4 4 rfl (by decide) (by decide)
       have M4b := next_lit (HT.out.1.mak.on (show Below wr.heap.size wr (wr.alloc (.cells #[.string ⟨#[]⟩, .int .i64 0, .int .i64 0, .slice none 0 0, .slice none 0 0, .slice none 0 0, .slice none 0 0, .int .i64 0, .int .i64 0] 50)).drew from Below.drew ((Below.refl _ wr).alloc (Nat.le_refl _) _))) 4 4 rfl (by decide) (by decide)
       obtain ⟨K, hK⟩ : ∃ z, mNext l a' 4 = z := ⟨_, rfl⟩
       rw [hK] at M4b
       rw [hK] at M4 q4
       have x0 : wr.drew.cell? ⟨qn, i, none⟩ = some (.string X) := by
        have := txC_at (HT.out.2.drew) (k := i) (by show i < 8; omega)
        rw [hX] at this
        exact this
       have e2 : IntKind.i64.wrap (1 + (K.1 : Int)) = 1 + (K.1 : Int) := by simp [IntKind.wrap, IntKind.bits, IntKind.signed]; omega
       have x2 : (wr.alloc (.cells #[.string ⟨#[]⟩, .int .i64 0, .int .i64 0, .slice none 0 0, .slice none 0 0, .slice none 0 0, .slice none 0 0, .int .i64 0, .int .i64 0] 50)).drew.cell? ⟨qn, i, none⟩ = some (.string X) := by
        have := txC_at ((HT.out.2.alloc (.cells #[.string ⟨#[]⟩, .int .i64 0, .int .i64 0, .slice none 0 0, .slice none 0 0, .slice none 0 0, .slice none 0 0, .int .i64 0, .int .i64 0] 50)).drew) (k := i) (by show i < 8; omega)
        rw [hX] at this
        exact this
       have HNB := Lib.hid (show qn ≠ b from HT.out.2.ne_ HT.out.1.mak.fu (by decide))
       have HX14 := Lib.hid (fun (W : World) (F : Full W qn 9 (txC mNames)) => (show W.cell? ⟨qn, i, none⟩ = some (.string X) from by
        have := txC_at F (k := i) (by show i < 8; omega)
        rw [hX] at this
        exact this))
       have M4b := Lib.hid M4b
       have M4 := Lib.hid M4
       have HMM := Lib.hid hm
       have HK := Lib.hid (And.intro hK (And.intro hX q4))
       clear hm hX q4 hK hd HM
       go_upto_region 14 with fail
       go_cut [11, 12, 13, 14, 15, 16, 17, 18, 19, 20, 21, 22, 23, 24, 25, 26, 27, 28, 29, 30, 31, 32, 33, 34, 35] from 11 to 48 (fun v11 v12 v13 v14 v15 v16 v17 v18 v19 v20 v21 v22 v23 v24 v25 v26 v27 v28 v29 v30 v31 v32 v33 v34 v35 wx => ∃ u, v11 = .pointer (some ⟨u, 0, none⟩) ∧ v12 = .slice A L c ∧ v13 = .agg #[.slice A L c, .int .i64 0] ∧ v14 = .pointer (some ⟨b, 0, none⟩) ∧ v15 = .slice (some ⟨qa, 0, none⟩) 4 4 ∧ v16 = .pointer (some ⟨b, 0, none⟩) ∧ v17 = .int .i64 (k : Int) ∧ v18 = .int .i64 (k : Int) ∧ v19 = .int .i64 (k : Int) ∧ v20 = .bool false ∧ v21 = u21 ∧ v22 = u22 ∧ v23 = u23 ∧ v24 = u24 ∧ v25 = u25 ∧ v26 = u26 ∧ v27 = u27 ∧ v28 = u28 ∧ v29 = u29 ∧ v30 = u30 ∧ v31 = u31 ∧ v32 = u32 ∧ v33 = .slice (some ⟨qn, 0, none⟩) 8 8 ∧ v34 = .pointer (some ⟨b, 0, none⟩) ∧ v35 = .int .i64 (k6 : Int) ∧ Hid (RMT w B b p r u A c l (.slice Ap LP.length cp) LP wx K.2 tl A' i c' (tg0 (mNames.getD i []) (1 + (K.1 : Int)) 1) vs0 ∧ Full wx qn 9 (txC mNames)))
       case first =>
        go_region_law (first
          | (refine step_call_fn rfl 32 _ _ rfl #[.pointer (some ⟨b, 0, none⟩), .int .i64 4] (by rfl) (enters_of Tryz.func32 (by kernel_rfl) rfl) M4.out ?_; rintro en w8 ⟨rfl, h8, ht8⟩; refine ⟨_, rfl, ?_⟩; (have H8 := Lib.hid (show RM w B b p r A c l (.slice Ap LP.length cp) LP w8 K.2 tl A' i c' ∧ Full w8 qn 9 (txC mNames) from ⟨HT.out.1.drew.call h8 ht8, ht8.far HT.out.2.drew HNB.out⟩)); (have x3 := HX14.out w8 H8.out.2); (have x4 := HX14.out (w8.alloc (.cells #[.string ⟨#[]⟩, .int .i64 0, .int .i64 0, .slice none 0 0, .slice none 0 0, .slice none 0 0, .slice none 0 0, .int .i64 0, .int .i64 0] 50)) (H8.out.2.alloc _)); (have HE := Lib.hid (show RMT w B b p r w8.heap.size A c l (.slice Ap LP.length cp) LP (w8.alloc (.cells #[.string X, .int .i64 (1 + (K.1 : Int)), .int .i64 0, .slice none 0 0, .slice none 0 0, .slice none 0 0, .slice none 0 0, .int .i64 1, .int .i64 0] 50)) K.2 tl A' i c' (tg0 (mNames.getD i []) (1 + (K.1 : Int)) 1) vs0 ∧ Full (w8.alloc (.cells #[.string X, .int .i64 (1 + (K.1 : Int)), .int .i64 0, .slice none 0 0, .slice none 0 0, .slice none 0 0, .slice none 0 0, .int .i64 1, .int .i64 0] 50)) qn 9 (txC mNames) from ⟨H8.out.1.start (show Full (w8.alloc (.cells #[.string X, .int .i64 (1 + (K.1 : Int)), .int .i64 0, .slice none 0 0, .slice none 0 0, .slice none 0 0, .slice none 0 0, .int .i64 1, .int .i64 0] 50)) w8.heap.size 50 (tgtC ((tg0 (mNames.getD i []) (1 + (K.1 : Int)) 1), vs0)) from by unfold tgtC; rw [show (tg0 (mNames.getD i []) (1 + (K.1 : Int)) 1).name = mNames.getD i [] from rfl, HK.out.2.1]; exact Full.new w8 50 _) ((Below.refl _ w8).alloc (Nat.le_refl _) _) (fun _ _ => ⟨rfl, rfl⟩), H8.out.2.alloc _⟩)); clear h8 ht8)
          | (refine step_call_fn rfl 32 _ _ rfl #[.pointer (some ⟨b, 0, none⟩), .int .i64 4] (by rfl) (enters_of Tryz.func32 (by kernel_rfl) rfl) M4b.out ?_; rintro en w8 ⟨rfl, h8, ht8⟩; refine ⟨_, rfl, ?_⟩; (have H8 := Lib.hid (show RMT w B b p r wr.heap.size A c l (.slice Ap LP.length cp) LP w8 K.2 tl A' i c' (tg0 [] 0 0) vs0 ∧ Full w8 qn 9 (txC mNames) from ⟨(HT.out.1.start (T := tg0 [] 0 0) (vs := vs0) (show Full (wr.alloc (.cells #[.string ⟨#[]⟩, .int .i64 0, .int .i64 0, .slice none 0 0, .slice none 0 0, .slice none 0 0, .slice none 0 0, .int .i64 0, .int .i64 0] 50)).drew wr.heap.size 50 (tgtC (tg0 [] 0 0, vs0)) from (Full.new wr 50 _).drew) (Below.drew ((Below.refl _ wr).alloc (Nat.le_refl _) _)) (fun _ _ => ⟨rfl, rfl⟩)).call h8 ht8, ht8.far (HT.out.2.alloc (.cells #[.string ⟨#[]⟩, .int .i64 0, .int .i64 0, .slice none 0 0, .slice none 0 0, .slice none 0 0, .slice none 0 0, .int .i64 0, .int .i64 0] 50)).drew HNB.out⟩)); (have x3 := HX14.out w8 H8.out.2); (obtain ⟨⟨c0, cf0⟩, ⟨c1, cf1⟩, ⟨c2, cf2⟩, ⟨c3, cf3⟩, ⟨c4, cf4⟩, ⟨c5, cf5⟩, ⟨c6, cf6⟩, ⟨c7, cf7⟩, ⟨c8, cf8⟩, F9⟩ := store9 (show Full w8 wr.heap.size 50 [.string ⟨#[]⟩, .int .i64 0, .int .i64 0, .slice none 0 0, .slice none 0 0, .slice none 0 0, .slice none 0 0, .int .i64 0, .int .i64 0] from H8.out.1.ft) (.string X) (.int .i64 (1 + (K.1 : Int))) (.int .i64 0) (.slice none 0 0) (.slice none 0 0) (.slice none 0 0) (.slice none 0 0) (.int .i64 1) (.int .i64 0)); (have HE := Lib.hid (show RMT w B b p r wr.heap.size A c l (.slice Ap LP.length cp) LP (((((((((w8.setCell ⟨wr.heap.size, 0, none⟩ (.string X)).setCell ⟨wr.heap.size, 1, none⟩ (.int .i64 (1 + (K.1 : Int)))).setCell ⟨wr.heap.size, 2, none⟩ (.int .i64 0)).setCell ⟨wr.heap.size, 3, none⟩ (.slice none 0 0)).setCell ⟨wr.heap.size, 4, none⟩ (.slice none 0 0)).setCell ⟨wr.heap.size, 5, none⟩ (.slice none 0 0)).setCell ⟨wr.heap.size, 6, none⟩ (.slice none 0 0)).setCell ⟨wr.heap.size, 7, none⟩ (.int .i64 1)).setCell ⟨wr.heap.size, 8, none⟩ (.int .i64 0)) K.2 tl A' i c' (tg0 (mNames.getD i []) (1 + (K.1 : Int)) 1) vs0 ∧ Full (((((((((w8.setCell ⟨wr.heap.size, 0, none⟩ (.string X)).setCell ⟨wr.heap.size, 1, none⟩ (.int .i64 (1 + (K.1 : Int)))).setCell ⟨wr.heap.size, 2, none⟩ (.int .i64 0)).setCell ⟨wr.heap.size, 3, none⟩ (.slice none 0 0)).setCell ⟨wr.heap.size, 4, none⟩ (.slice none 0 0)).setCell ⟨wr.heap.size, 5, none⟩ (.slice none 0 0)).setCell ⟨wr.heap.size, 6, none⟩ (.slice none 0 0)).setCell ⟨wr.heap.size, 7, none⟩ (.int .i64 1)).setCell ⟨wr.heap.size, 8, none⟩ (.int .i64 0)) qn 9 (txC mNames) from ⟨H8.out.1.turn (Turn.nine _ _ _ _ _ _ _ _ _ _ _) (by unfold tgtC; rw [show (tg0 (mNames.getD i []) (1 + (K.1 : Int)) 1).name = mNames.getD i [] from rfl, HK.out.2.1]; exact F9) (fun _ _ => ⟨rfl, .inl ⟨rfl, rfl⟩⟩), (Turn.nine _ _ _ _ _ _ _ _ _ _ _).far H8.out.2 (H8.out.2.ne_ H8.out.1.ft (by decide))⟩)); clear F9; clear h8 ht8))
        all_goals (go_wp2; go_meet; exact ⟨_, rfl, rfl, rfl, rfl, rfl, rfl, rfl, rfl, rfl, rfl, rfl, rfl, rfl, rfl, rfl, rfl, rfl, rfl, rfl, rfl, rfl, rfl, rfl, rfl, rfl, HE⟩)
       case rest =>
        obtain ⟨u, rfl, rfl, rfl, rfl, rfl, rfl, rfl, rfl, rfl, rfl, rfl, rfl, rfl, rfl, rfl, rfl, rfl, rfl, rfl, rfl, rfl, rfl, rfl, rfl, rfl, HC⟩ := hcut
        have HC := Lib.hid HC.out
        clear x0 x2 e2 M4 M4b HX14 HT
        obtain ⟨nm, hnm⟩ : ∃ z, mNames.getD i [] = z := ⟨_, rfl⟩
        rw [hnm] at HC
        obtain ⟨kd, hkd⟩ : ∃ z, 1 + (K.1 : Int) = z := ⟨_, rfl⟩
        rw [hkd] at HC
        have HNM := Lib.hid (And.intro hnm hkd)
        clear hnm hkd
        obtain ⟨⟨LS, aS⟩, eS⟩ : ∃ z, mItems l mSrcs true true K.2 = z := ⟨_, rfl⟩
        have CS := HC.out.1
        have IS := (show Calls Tryz.prog 33 #[.pointer (some ⟨b, 0, none⟩), .slice (some ⟨wc.heap.size, 0, none⟩) 6 6, .bool true, .bool true] (wc.alloc (.cells #[.string ⟨#[120, 46, 103, 111]⟩, .string ⟨#[42, 46, 99]⟩, .string ⟨#[]⟩, .string ⟨#[97, 32, 98]⟩, .string ⟨#[35, 32, 110, 111]⟩, .string ⟨#[121]⟩] 9)) _ from RMT.items (name := nm) (kind := kd) (cost := 1) (retry := 0) (R := (fun _ => [])) HC.out mSrcs (by decide) (by decide) true true 0 (by decide))
        rw [eS] at IS
        dsimp only at IS
        have IS := Lib.hid IS
        have ES := Lib.hid eS
        clear eS CS
        go_upto_region 16 with (first
          | (go_at_call 33; ((with_reducible refine IS.out.mono ?_); rintro en wS ⟨AS, nS, cS, rfl, ⟨zS, fS⟩, hS⟩; (have HS := Lib.hid hS); clear hS))
          | (fail "arm"))
        obtain ⟨vS, hvS⟩ : ∃ z, wS.setCell ⟨u, 3, none⟩ (.slice AS nS cS) = z := ⟨_, rfl⟩
        have HS := Lib.hid (show RMT w B b p r u A c l (.slice Ap LP.length cp) LP (wS.setCell ⟨u, 3, none⟩ (.slice AS nS cS)) aS tl A' i c' (tgR nm kd (upd (fun _ => []) 0 LS) 1 0) (upd vs0 0 (.slice AS nS cS)) ∧ Full (wS.setCell ⟨u, 3, none⟩ (.slice AS nS cS)) qn 9 (txC mNames) from HS.out)
        rw [hvS] at HS ⊢
        clear hvS zS fS HC IS
        obtain ⟨⟨LD, aD⟩, eD⟩ : ∃ z, mItems l mDeps true false aS = z := ⟨_, rfl⟩
        have CD := HS.out.1
        have ID := (show Calls Tryz.prog 33 #[.pointer (some ⟨b, 0, none⟩), .slice (some ⟨vS.heap.size, 0, none⟩) 4 4, .bool true, .bool false] (vS.alloc (.cells #[.string ⟨#[58, 108, 105, 98]⟩, .string ⟨#[47, 47, 97, 58, 98]⟩, .string ⟨#[47, 47, 99]⟩, .string ⟨#[47, 47, 58, 120]⟩] 9)) _ from RMT.items (name := nm) (kind := kd) (cost := 1) (retry := 0) (R := (upd (fun _ => []) 0 LS)) HS.out mDeps (by decide) (by decide) true false 1 (by decide))
        rw [eD] at ID
        dsimp only at ID
        have ID := Lib.hid ID
        have ED := Lib.hid eD
        clear eD CD
        go_upto_region 17 with (first
          | (go_at_call 33; ((with_reducible refine ID.out.mono ?_); rintro en wD ⟨AD, nD, cD, rfl, ⟨zD, fD⟩, hD⟩; (have HD := Lib.hid hD); clear hD))
          | (fail "arm"))
        obtain ⟨vD, hvD⟩ : ∃ z, wD.setCell ⟨u, 4, none⟩ (.slice AD nD cD) = z := ⟨_, rfl⟩
        have HD := Lib.hid (show RMT w B b p r u A c l (.slice Ap LP.length cp) LP (wD.setCell ⟨u, 4, none⟩ (.slice AD nD cD)) aD tl A' i c' (tgR nm kd (upd (upd (fun _ => []) 0 LS) 1 LD) 1 0) (upd (upd vs0 0 (.slice AS nS cS)) 1 (.slice AD nD cD)) ∧ Full (wD.setCell ⟨u, 4, none⟩ (.slice AD nD cD)) qn 9 (txC mNames) from HD.out)
        rw [hvD] at HD ⊢
        clear hvD zD fD HS ID
        obtain ⟨⟨LO, aO⟩, eO⟩ : ∃ z, mItems l mOuts false false aD = z := ⟨_, rfl⟩
        have CO := HD.out.1
        have IO := (show Calls Tryz.prog 33 #[.pointer (some ⟨b, 0, none⟩), .slice (some ⟨vD.heap.size, 0, none⟩) 2 2, .bool false, .bool false] (vD.alloc (.cells #[.string ⟨#[103, 101, 110, 46, 103, 111]⟩, .string ⟨#[111, 117, 116, 46, 116, 120, 116]⟩] 9)) _ from RMT.items (name := nm) (kind := kd) (cost := 1) (retry := 0) (R := (upd (upd (fun _ => []) 0 LS) 1 LD)) HD.out mOuts (by decide) (by decide) false false 2 (by decide))
        rw [eO] at IO
        dsimp only at IO
        have IO := Lib.hid IO
        have EO := Lib.hid eO
        clear eO CO
        go_upto_region 18 with (first
          | (go_at_call 33; ((with_reducible refine IO.out.mono ?_); rintro en wO ⟨AO, nO, cO, rfl, ⟨zO, fO⟩, hO⟩; (have HO := Lib.hid hO); clear hO))
          | (fail "arm"))
        obtain ⟨vO, hvO⟩ : ∃ z, wO.setCell ⟨u, 5, none⟩ (.slice AO nO cO) = z := ⟨_, rfl⟩
        have HO := Lib.hid (show RMT w B b p r u A c l (.slice Ap LP.length cp) LP (wO.setCell ⟨u, 5, none⟩ (.slice AO nO cO)) aO tl A' i c' (tgR nm kd (upd (upd (upd (fun _ => []) 0 LS) 1 LD) 2 LO) 1 0) (upd (upd (upd vs0 0 (.slice AS nS cS)) 1 (.slice AD nD cD)) 2 (.slice AO nO cO)) ∧ Full (wO.setCell ⟨u, 5, none⟩ (.slice AO nO cO)) qn 9 (txC mNames) from HO.out)
        rw [hvO] at HO ⊢
        clear hvO zO fO HD IO
        obtain ⟨⟨LV, aV⟩, eV⟩ : ∃ z, mItems l mViss false false aO = z := ⟨_, rfl⟩
        have CV := HO.out.1
        have IV := (show Calls Tryz.prog 33 #[.pointer (some ⟨b, 0, none⟩), .slice (some ⟨vO.heap.size, 0, none⟩) 3 3, .bool false, .bool false] (vO.alloc (.cells #[.string ⟨#[112, 117, 98, 108, 105, 99]⟩, .string ⟨#[47, 47, 97]⟩, .string ⟨#[47, 47, 98, 47, 46, 46, 46]⟩] 9)) _ from RMT.items (name := nm) (kind := kd) (cost := 1) (retry := 0) (R := (upd (upd (upd (fun _ => []) 0 LS) 1 LD) 2 LO)) HO.out mViss (by decide) (by decide) false false 3 (by decide))
        rw [eV] at IV
        dsimp only at IV
        have IV := Lib.hid IV
        have EV := Lib.hid eV
        clear eV CV
        go_upto_region 19 with (first
          | (go_at_call 33; ((with_reducible refine IV.out.mono ?_); rintro en wV ⟨AV, nV, cV, rfl, ⟨zV, fV⟩, hV⟩; (have HV := Lib.hid hV); clear hV))
          | (fail "arm"))
        obtain ⟨vV, hvV⟩ : ∃ z, wV.setCell ⟨u, 6, none⟩ (.slice AV nV cV) = z := ⟨_, rfl⟩
        have HV := Lib.hid (show RMT w B b p r u A c l (.slice Ap LP.length cp) LP (wV.setCell ⟨u, 6, none⟩ (.slice AV nV cV)) aV tl A' i c' (tgR nm kd (upd (upd (upd (upd (fun _ => []) 0 LS) 1 LD) 2 LO) 3 LV) 1 0) (upd (upd (upd (upd vs0 0 (.slice AS nS cS)) 1 (.slice AD nD cD)) 2 (.slice AO nO cO)) 3 (.slice AV nV cV)) ∧ Full (wV.setCell ⟨u, 6, none⟩ (.slice AV nV cV)) qn 9 (txC mNames) from HV.out)
        rw [hvV] at HV ⊢
        clear hvV zV fV HO IV
        obtain ⟨RR, hRR⟩ : ∃ z, (upd (upd (upd (upd (fun _ => []) 0 LS) 1 LD) 2 LO) 3 LV) = z := ⟨_, rfl⟩
        obtain ⟨VV, hVV⟩ : ∃ z, (upd (upd (upd (upd vs0 0 (.slice AS nS cS)) 1 (.slice AD nD cD)) 2 (.slice AO nO cO)) 3 (.slice AV nV cV)) = z := ⟨_, rfl⟩
        rw [hRR, hVV] at HV
        have HRV := Lib.hid (And.intro hRR hVV)
        clear hRR hVV
        have q3 := mNext_lt (l := l) (a := aV) (n := 3) (by decide)
        obtain ⟨Q, hQ⟩ : ∃ z, mNext l aV 3 = z := ⟨_, rfl⟩
        have M3 := next_lit HV.out.1.rm.mak 3 3 rfl (by decide) (by decide)
        rw [hQ] at M3 q3
        have M3 := Lib.hid M3
        obtain ⟨C, hC⟩ : ∃ z, (if (Q.1 == 1) = true then mNext l Q.2 1000 else (0, Q.2)) = z := ⟨_, rfl⟩
        obtain ⟨D, hD⟩ : ∃ z, (if (K.1 == 2) = true then mNext l C.2 6 else (0, C.2)) = z := ⟨_, rfl⟩
        have HQ := Lib.hid (And.intro hQ (And.intro hC hD))
        clear hQ hC hD
        obtain ⟨qb, hqb⟩ : ∃ z, (Q.1 == 1) = z := ⟨_, rfl⟩
        have he1 : ((Q.1 : Int) == 1) = qb := by rw [← hqb, Bool.eq_iff_iff, beq_iff_eq, beq_iff_eq]; omega
        have HQB := Lib.hid hqb
        clear hqb
        go_upto_if 67 with (first
          | (go_at_call 32; ((with_reducible refine M3.out.mono ?_); rintro en wQ ⟨rfl, hQ1, hQ2⟩; (have HQw := Lib.hid (show RMT w B b p r u A c l (.slice Ap LP.length cp) LP wQ Q.2 tl A' i c' (tgR nm kd RR 1 0) VV ∧ Full wQ qn 9 (txC mNames) from ⟨HV.out.1.call hQ1 hQ2, hQ2.far HV.out.2 (HV.out.2.ne_ HV.out.1.rm.mak.fu (by decide))⟩)); clear hQ1 hQ2))
          | (fail "arm"))
        clear he1 HV M3
        go_cut [71] from 68 to 71 (fun _ wx => Hid (RMT w B b p r u A c l (.slice Ap LP.length cp) LP wx C.2 tl A' i c' (tgR nm kd RR (1 + (C.1 : Int)) 0) VV ∧ Full wx qn 9 (txC mNames)))
        case first =>
         cases qb with
         | false =>
          have HE := Lib.hid (show RMT w B b p r u A c l (.slice Ap LP.length cp) LP wQ C.2 tl A' i c' (tgR nm kd RR (1 + (C.1 : Int)) 0) VV ∧ Full wQ qn 9 (txC mNames) from by
           have e := HQ.out.2.1
           rw [HQB.out, if_neg Bool.false_ne_true] at e
           rw [← e]
           exact HQw.out)
          go_wp2
          go_meet
          exact HE
         | true =>
          have e := HQ.out.2.1
          rw [HQB.out, if_pos rfl] at e
          have c3 := mNext_lt (l := l) (a := Q.2) (n := 1000) (by decide)
          have M5 := next_lit HQw.out.1.rm.mak 1000 1000 rfl (by decide) (by decide)
          rw [e] at c3 M5
          have M5 := Lib.hid M5
          clear e
          go_wp2_with (first
            | (go_at_call 32; ((with_reducible refine M5.out.mono ?_); rintro en w5 ⟨rfl, h5, ht5⟩; (have H5 := Lib.hid (show RMT w B b p r u A c l (.slice Ap LP.length cp) LP w5 C.2 tl A' i c' (tgR nm kd RR 1 0) VV ∧ Full w5 qn 9 (txC mNames) from ⟨HQw.out.1.call h5 ht5, ht5.far HQw.out.2 (HQw.out.2.ne_ HQw.out.1.rm.mak.fu (by decide))⟩)); (have z7 := H5.out.1.ft.frozen 7); (have y7 : w5.cell? ⟨u, 7, none⟩ = some (.int .i64 1) := H5.out.1.ft.cell 7); clear h5 ht5))
            | (fail "arm"))
          go_meet
          exact Lib.hid ⟨H5.out.1.num (T' := tgR nm kd RR (1 + (C.1 : Int)) 0) 7 _ rfl rfl, (Turn.set_ (F := fun g => g = u) (a := ⟨u, 7, none⟩) rfl _).far H5.out.2 (H5.out.2.ne_ H5.out.1.ft (by decide))⟩
        case rest =>
         have HD := Lib.hid hcut.out
         clear hcut HQw
         have y1 : wc.cell? ⟨u, 1, none⟩ = some (.int .i64 kd) := HD.out.1.ft.cell 1
         obtain ⟨kb, hkb⟩ : ∃ z, (K.1 == 2) = z := ⟨_, rfl⟩
         have he2 : (kd == 3) = kb := by rw [← hkb, ← HNM.out.2, Bool.eq_iff_iff, beq_iff_eq, beq_iff_eq]; omega
         have HKB := Lib.hid hkb
         clear hkb
         go_upto_if 74 with fail
         clear he2 y1
         go_cut [77] from 75 to 77 (fun _ wx => Hid (RMT w B b p r u A c l (.slice Ap LP.length cp) LP wx D.2 tl A' i c' (tgR nm kd RR (1 + (C.1 : Int)) (D.1 : Int)) VV ∧ Full wx qn 9 (txC mNames)))
         case first =>
          cases kb with
          | false =>
           have HE := Lib.hid (show RMT w B b p r u A c l (.slice Ap LP.length cp) LP wc D.2 tl A' i c' (tgR nm kd RR (1 + (C.1 : Int)) (D.1 : Int)) VV ∧ Full wc qn 9 (txC mNames) from by
            have e := HQ.out.2.2
            rw [HKB.out, if_neg Bool.false_ne_true] at e
            rw [← e]
            exact HD.out)
           go_wp2
           go_meet
           exact HE
          | true =>
           have e := HQ.out.2.2
           rw [HKB.out, if_pos rfl] at e
           have M5 := next_lit HD.out.1.rm.mak 6 6 rfl (by decide) (by decide)
           rw [e] at M5
           have M5 := Lib.hid M5
           clear e
           go_wp2_with (first
             | (go_at_call 32; ((with_reducible refine M5.out.mono ?_); rintro en w5 ⟨rfl, h5, ht5⟩; (have H5 := Lib.hid (show RMT w B b p r u A c l (.slice Ap LP.length cp) LP w5 D.2 tl A' i c' (tgR nm kd RR (1 + (C.1 : Int)) 0) VV ∧ Full w5 qn 9 (txC mNames) from ⟨HD.out.1.call h5 ht5, ht5.far HD.out.2 (HD.out.2.ne_ HD.out.1.rm.mak.fu (by decide))⟩)); (have z7 := H5.out.1.ft.frozen 8); (have y7 : w5.cell? ⟨u, 8, none⟩ = some (.int .i64 0) := H5.out.1.ft.cell 8); clear h5 ht5))
             | (fail "arm"))
           go_meet
           exact Lib.hid ⟨H5.out.1.num (T' := tgR nm kd RR (1 + (C.1 : Int)) (D.1 : Int)) 8 _ rfl rfl, (Turn.set_ (F := fun g => g = u) (a := ⟨u, 8, none⟩) rfl _).far H5.out.2 (H5.out.2.ne_ H5.out.1.ft (by decide))⟩
         case rest =>
          have HG := Lib.hid hcut.out
          clear hcut HD
          obtain ⟨T, hT⟩ : ∃ z, tgR nm kd RR (1 + (C.1 : Int)) (D.1 : Int) = z := ⟨_, rfl⟩
          have hTm : mTgt l i a' = (T, D.2) := by
           have hr : RR = rows4 LS LD LO LV := by
            rw [← HRV.out.1]
            funext j
            match j with
            | 0 => rfl
            | 1 => rfl
            | 2 => rfl
            | 3 => rfl
            | j + 4 => rfl
           unfold mTgt
           rw [HK.out.1]
           dsimp only
           rw [ES.out]
           dsimp only
           rw [ED.out]
           dsimp only
           rw [EO.out]
           dsimp only
           rw [EV.out]
           dsimp only
           rw [HQ.out.1, HQ.out.2.1, HQ.out.2.2, ← hT, hr, ← HNM.out.1, ← HNM.out.2]
           rfl
          have hmm := HMM.out
          rw [hTm] at hmm
          dsimp only at hmm
          have HM9 := Lib.hid (show (tl ++ [(T, VV)]).map Prod.fst ++ mTs l (k6 - (i + 1)) (i + 1) D.2 = LT from by
           rw [show k6 - (i + 1) = f by omega, List.map_append, List.append_assoc]
           exact hmm)
          have hcells : tgtC (T, VV) = [.string X, .int .i64 kd, .int .i64 0, .slice AS nS cS, .slice AD nD cD, .slice AO nO cO, .slice AV nV cV, .int .i64 (1 + (C.1 : Int)), .int .i64 (D.1 : Int)] := by
           rw [← hT, ← HRV.out.2, ← HK.out.2.1, HNM.out.1]
           rfl
          rw [hT] at HG
          have HC9 := Lib.hid hcells
          have FT := HG.out.1.ft
          rw [hcells] at FT
          have x0 : wc.cell? ⟨u, 0, none⟩ = some (.string X) := FT.cell 0
          have x1 : wc.cell? ⟨u, 1, none⟩ = some (.int .i64 kd) := FT.cell 1
          have x2 : wc.cell? ⟨u, 2, none⟩ = some (.int .i64 0) := FT.cell 2
          have x3 : wc.cell? ⟨u, 3, none⟩ = some (.slice AS nS cS) := FT.cell 3
          have x4 : wc.cell? ⟨u, 4, none⟩ = some (.slice AD nD cD) := FT.cell 4
          have x5 : wc.cell? ⟨u, 5, none⟩ = some (.slice AO nO cO) := FT.cell 5
          have x6 : wc.cell? ⟨u, 6, none⟩ = some (.slice AV nV cV) := FT.cell 6
          have x7 : wc.cell? ⟨u, 7, none⟩ = some (.int .i64 (1 + (C.1 : Int))) := FT.cell 7
          have x8 : wc.cell? ⟨u, 8, none⟩ = some (.int .i64 (D.1 : Int)) := FT.cell 8
          have xp : wc.cell? ⟨p, 1, none⟩ = some (.slice A' i c') := HG.out.1.rm.fp.cell 1
          have HC1b := Lib.hid (show ∀ x ∈ ([.string X, .int .i64 kd, .int .i64 0, .slice AS nS cS, .slice AD nD cD, .slice AO nO cO, .slice AV nV cV, .int .i64 (1 + (C.1 : Int)), .int .i64 (D.1 : Int)] : List Value), x.oneCell' = true from by
           intro x hx
           simp at hx
           rcases hx with rfl | rfl | rfl | rfl | rfl | rfl | rfl | rfl | rfl <;> rfl)
          have HCN := Lib.hid (fun (W : World) (g : Nat) (hg : W.heap.size = g) => show ∀ j x, ([.string X, .int .i64 kd, .int .i64 0, .slice AS nS cS, .slice AD nD cD, .slice AO nO cO, .slice AV nV cV, .int .i64 (1 + (C.1 : Int)), .int .i64 (D.1 : Int)] : List Value)[j]? = some x → (W.alloc (.cells #[.string X, .int .i64 kd, .int .i64 0, .slice AS nS cS, .slice AD nD cD, .slice AO nO cO, .slice AV nV cV, .int .i64 (1 + (C.1 : Int)), .int .i64 (D.1 : Int)] 50)).cell? ((⟨g, 0, none⟩ : Addr).add j) = some x from fun j x hj => by
           subst hg
           obtain ⟨ad, e, _, hc⟩ := ((Full.new W 50 [.string X, .int .i64 kd, .int .i64 0, .slice AS nS cS, .slice AD nD cD, .slice AO nO cO, .slice AV nV cV, .int .i64 (1 + (C.1 : Int)), .int .i64 (D.1 : Int)]).row 9 1 rfl 1 (Nat.le_refl _)).2.2.2 j x hj
           injection e with e
           subst e
           exact hc)
          have hi100 : i ≤ 100 := by omega
          clear hT hTm hmm hcells FT HMM ES ED EO EV HQ HRV HNM HK HQB HKB q3
          go_wp2_with (first
            | (at_builtin; go_loud (refine wpList_append_lies _ rfl _ _ 26 rfl w.heap.size 50 ii0 (.agg #[.string ⟨#[]⟩, .int .i64 0, .int .i64 0, .slice none 0 0, .slice none 0 0, .slice none 0 0, .slice none 0 0, .int .i64 0, .int .i64 0]) 9 144 Tryz.underlying26 hi hz0 hz1 hz2 rfl (by decide) (.slice A' i c') i (tgtsC tl) rfl (HG.out.1.rm.tg.alloc _) ⟨wc.heap.size, 0, none⟩ 1 1 [.string X, .int .i64 kd, .int .i64 0, .slice AS nS cS, .slice AD nD cD, .slice AO nO cO, .slice AV nV cV, .int .i64 (1 + (C.1 : Int)), .int .i64 (D.1 : Int)] rfl rfl (HCN.out wc wc.heap.size rfl) HC1b.out (by decide) (by unfold maxLen; omega) (by omega) (by have := HG.out.1.rm.tn.size; simp; omega) _ rfl ?_; intro g9 c9 w9 hown9 hgrow9 hat9 hlt9; (rw [← HC9.out] at hown9); (have H9 := Lib.hid (And.intro ((HG.out.1.on ((Below.refl _ wc).alloc (Nat.le_refl _) _)).rm.grow hown9 hgrow9 (HG.out.1.on ((Below.refl _ wc).alloc (Nat.le_refl _) _)).tr) (show Full (w9.setCell ⟨p, 1, none⟩ (.slice (some ⟨g9, 0, none⟩) (i + 1) c9)) qn 9 (txC mNames) from (Turn.set_ (F := fun g => g = p) (a := ⟨p, 1, none⟩) rfl _).far ((HG.out.2.alloc _).grown hgrow9 (fun q => own_full_ne HG.out.1.rm.tg HG.out.2 (by decide) qn q.symm rfl)) (HG.out.2.ne_ HG.out.1.rm.fp (by decide))))); (have z1 := H9.out.1.1.1); (have z2 := H9.out.1.1.2); clear hown9 hgrow9 hat9 hlt9))
            | (fail "arm"))
          go_roundw
          case rel => exact ⟨i + 1, D.2, tl ++ [(T, VV)], some ⟨g9, 0, none⟩, c9, by go_num, by omega, Lib.hid ⟨H9.out.1.2, H9.out.2⟩, HM9⟩
          case measure => simp [intOf]; omega
     · have hd : decide ((i : Int) < (k6 : Int)) = false := by rw [decide_eq_false_iff_not]; omega
       have hm := HM.out
       rw [show k6 - i = 0 by omega, mTs, List.append_nil] at hm
       have x0 : wr.cell? ⟨p, 0, none⟩ = some (.slice Ap LP.length cp) := HT.out.1.fp.cell 0
       have x1 : wr.cell? ⟨p, 1, none⟩ = some (.slice A' i c') := HT.out.1.fp.cell 1
       have y0 : wr.cell? ⟨r, 0, none⟩ = some (.slice none 0 0) := HT.out.1.fr.cell 0
       have yf := HT.out.1.fr.frozen 0
       have z1 : (wr.setCell ⟨r, 0, none⟩ (.slice Ap LP.length cp)).cell? ⟨r, 1, none⟩ = some (.slice none 0 0) := (HT.out.1.fr.set_ 0 (.slice Ap LP.length cp)).cell 1
       have z2 := (HT.out.1.fr.set_ 0 (.slice Ap LP.length cp)).frozen 1
       have HO := Lib.hid (show Full ((wr.setCell ⟨r, 0, none⟩ (.slice Ap LP.length cp)).setCell ⟨r, 1, none⟩ (.slice A' i c')) r 28 [.slice Ap LP.length cp, .slice A' i c'] ∧ BuildAt ((wr.setCell ⟨r, 0, none⟩ (.slice Ap LP.length cp)).setCell ⟨r, 1, none⟩ (.slice A' i c')) w.heap.size (.agg #[.slice Ap LP.length cp, .slice A' i c']) LP LT ∧ Turn (fun _ => False) w ((wr.setCell ⟨r, 0, none⟩ (.slice Ap LP.length cp)).setCell ⟨r, 1, none⟩ (.slice A' i c')) from by
        have hTs : Turn (fun g => g = r) wr ((wr.setCell ⟨r, 0, none⟩ (.slice Ap LP.length cp)).setCell ⟨r, 1, none⟩ (.slice A' i c')) := ((Turn.refl (fun g => g = r) wr).setb rfl 0 _).setb rfl 1 _
        refine ⟨(HT.out.1.fr.set_ 0 _).set_ 1 _, ?_, HT.out.1.tn.late hTs fun g e => .inr (by rw [e]; exact HT.out.1.lr)⟩
        have := HT.out.1.build hTs (fun g e => e)
        rw [hm] at this
        exact this)
       clear hm HM HT
       go_wp2
       obtain ⟨w8, hw8⟩ : ∃ w8, (wr.setCell ⟨r, 0, none⟩ (.slice Ap LP.length cp)).setCell ⟨r, 1, none⟩ (.slice A' i c') = w8 := ⟨_, rfl⟩
       have ho := HO.out
       rw [hw8] at ho ⊢
       have q0 := ho.1.cell 0
       have q1 := ho.1.cell 1
       dsimp only [List.getElem?_cons_zero, List.getElem?_cons_succ] at q0 q1
       refine bodyPost_ret (v := .agg #[.slice Ap LP.length cp, .slice A' i c']) (by simp [results, Tryz.results15, go_sem, q0, q1]) rfl ?_
       exact ⟨_, rfl, ho.2.1, ho.2.2⟩
theorem text50_any (i : Itm) (hi : i.tx.length ≤ 4294967000) (w : World) : Calls Tryz.prog 50 #[itmV i] w (StrB w (str (fSrc i))) := by
 unfold StrB itmV
 obtain ⟨x0, hx0⟩ : ∃ x, str i.tx = x := ⟨_, rfl⟩
 obtain ⟨x2, hx2⟩ : ∃ x, str i.pl = x := ⟨_, rfl⟩
 obtain ⟨g, hg⟩ : ∃ x, i.gl = x := ⟨_, rfl⟩
 obtain ⟨l, hl⟩ : ∃ x : Nat, i.ln = x := ⟨_, rfl⟩
 have HX := Lib.hid hx0
 unfold fSrc
 have hxs : x0.size ≤ 4294967000 := by rw [← hx0, str_size]; exact hi
 have n1 : ¬ 9223372036854775807 < 1 + x0.size := by omega
 have n2 : ¬ 9223372036854775807 < 1 + x0.size + 1 := by omega
 have n3 : ¬ 9223372036854775807 < 5 + (1 + x0.size + 1) := by omega
 have n4 : ¬ 9223372036854775807 < 5 + (1 + x0.size + 1) + 1 := by omega
 clear hi
 rw [hx0, hx2, hg, hl]
 clear hx0 hx2 hg hl
 obtain ⟨w1, hw1⟩ : ∃ w1, w.alloc (.cells #[.string x0, .bool g, .string x2, .int .i64 (l : Int)] 52) = w1 := ⟨_, rfl⟩
 have hb1 : Below w.heap.size w w1 := by rw [← hw1]; exact (Below.refl _ w).alloc (Nat.le_refl _) _
 have F1 : Full w1 w.heap.size 52 [.string x0, .bool g, .string x2, .int .i64 (l : Int)] := by rw [← hw1]; exact Full.new w 52 _
 have c0 : w1.cell? ⟨w.heap.size, 0, none⟩ = some (.string x0) := F1.cell 0
 have c1 : w1.cell? ⟨w.heap.size, 1, none⟩ = some (.bool g) := F1.cell 1
 have HB := Lib.hid hb1
 clear F1 hb1
 cases g with
 | true =>
   rw [if_pos rfl]
   go_enter Tryz.func50, Tryz.ntmps50
   go_wp2
   go_ret
   refine ⟨?_, HB.out⟩
   refine congrArg (fun z => Ending.returned (Value.string z)) (str_of ?_)
   rw [← HX.out]
   simp [str, wGlobP]
 | false =>
   rw [if_neg (by decide)]
   go_enter Tryz.func50, Tryz.ntmps50
   go_wp2
   go_ret
   refine ⟨?_, HB.out⟩
   refine congrArg (fun z => Ending.returned (Value.string z)) (str_of ?_)
   rw [← HX.out]
   simp [str]
theorem fSrc_len (x : Itm) : (fSrc x).length ≤ x.tx.length + 8 := by
 unfold fSrc wGlobP
 split <;> simp <;> omega
theorem rPre_len (word : List UInt8) (p : Option (List UInt8)) (x : Itm) : (rPre word p x).length ≤ word.length + x.pl.length + 6 := by
 unfold rPre
 split
 · simp <;> omega
 · simp only [List.length_append, List.length_cons, List.length_nil]
   split <;> split <;> simp <;> try omega
theorem rGo_len (word : List UInt8) : ∀ (l : List Itm) (p : Option (List UInt8)), (∀ x ∈ l, TxOk x) → (rGo word p l).length ≤ l.length * (8589934014 + word.length)
 | [], _, _ => by simp [rGo]
 | x :: t, p, h => by
   have ih := rGo_len word t (some x.pl) (fun y hy => h y (List.mem_cons_of_mem _ hy))
   have h1 := fSrc_len x
   have h2 := rPre_len word p x
   obtain ⟨h3, h4⟩ := h x (by simp)
   show (rPre word p x ++ fSrc x ++ rGo word (some x.pl) t).length ≤ _
   rw [List.length_append, List.length_append, List.length_cons, Nat.add_mul]
   omega
theorem rGo_nil (word : List UInt8) (p : Option (List UInt8)) (l : List Itm) : (rGo word p l == []) = l.isEmpty := by
 cases l with
 | nil => rfl
 | cons x t =>
   have e : rGo word p (x :: t) ≠ [] := by
     show rPre word p x ++ fSrc x ++ rGo word (some x.pl) t ≠ []
     unfold fSrc
     split <;> simp [wGlobP]
   show (rGo word p (x :: t) == []) = false
   rw [beq_eq_false_iff_ne]
   exact e
set_option maxHeartbeats 32000000 in
theorem attr31_any {w : World} {B c : Nat} {A : Option Addr} {l : List Itm} (hA : Itms w B A c l) (hB : B ≤ w.heap.size) (hl : l.length ≤ 1000) (hok : ∀ i ∈ l, TxOk i) (word : List UInt8) (hw : word.length ≤ 100) :
   Calls Tryz.prog 31 #[.string (str word), .slice A l.length c] w (StrB w (str (fItems word l))) := by
 rw [← rAttr_eq]
 unfold StrB
 have hcap := hA.2.1
 obtain ⟨n, hn⟩ : ∃ n, l.length = n := ⟨_, rfl⟩
 obtain ⟨wd, hwd⟩ : ∃ z, str word = z := ⟨_, rfl⟩
 have hws : wd.size ≤ 100 := by rw [← hwd, str_size]; exact hw
 have HA := Lib.hid (And.intro hA (And.intro hB (And.intro hok (And.intro hn hwd))))
 have HT := Lib.hid (fun (W : World) (i : Itm) (hi : TxOk i) => text50_any i hi.1 W)
 rw [hn] at hcap hl ⊢
 rw [hwd]
 clear hA hB hok hn hwd
 go_enter Tryz.func31, Tryz.ntmps31
 go_upto_region 3 with fail
 go_loopw [5, 6] (fun v5 v6 wr => ∃ (k : Nat) (x : ByteArray), v5 = .string x ∧ v6 = .int .i64 (k : Int) ∧ k ≤ n ∧ Hid (x = str (rGo word none (l.take k))) ∧ Hid (Below w.heap.size w wr)) (fun _ v6 _ => n - (intOf v6).toNat)
 case atStart => exact ⟨0, ⟨#[]⟩, rfl, rfl, Nat.zero_le _, Lib.hid rfl, Lib.hid (Below.refl _ w)⟩
 case round =>
   obtain ⟨k, x, rfl, rfl, hk, HX, HBW⟩ := hrel
   have k0 : (0 : Int) ≤ (k : Int) := Int.natCast_nonneg _
   by_cases hlt : k < n
   · have k1 : (k : Int) < (n : Int) := by omega
     have hd : decide ((k : Int) < (n : Int)) = true := by rw [decide_eq_true_eq]; exact k1
     obtain ⟨hA, hB, hok, hn, hwd⟩ := HA.out
     have hkl : k < l.length := by omega
     have hA2 : Itms wr B A c l := Row.below hA HBW.out hB
     obtain ⟨ad, e, hb, a0, a1, a2, a3⟩ := hA2.at_ hkl
     subst e
     have hxs : x.size ≤ 1000 * 8589934200 := by
       rw [HX.out, str_size]
       have h1 := rGo_len word (l.take k) none (fun y hy => hok y (List.mem_of_mem_take hy))
       have h2 : (l.take k).length ≤ 1000 := by rw [List.length_take]; omega
       refine Nat.le_trans h1 (Nat.mul_le_mul h2 ?_)
       rw [← str_size, hwd]
       omega
     obtain ⟨it, hit⟩ : ∃ z, l[k] = z := ⟨_, rfl⟩
     have hitok : TxOk it := by rw [← hit]; exact hok _ (List.getElem_mem hkl)
     have htk : l.take (k + 1) = l.take k ++ [it] := by rw [List.take_succ_eq_append_getElem hkl, hit]
     have hgo : ∀ z : ByteArray, z.data.toList = x.data.toList ++ (rPre word (rLast none (l.take k)) it ++ fSrc it) → z = str (rGo word none (l.take (k + 1))) := fun z hz => by
       apply str_of
       rw [hz, htk, rGo_snoc, HX.out, str_data]
     rw [hit] at a0 a1 a2 a3
     have TX := HT.out
     obtain ⟨s0, hs0⟩ : ∃ z, str it.tx = z := ⟨_, rfl⟩
     obtain ⟨s2, hs2⟩ : ∃ z, str it.pl = z := ⟨_, rfl⟩
     obtain ⟨sg, hsg⟩ : ∃ z, it.gl = z := ⟨_, rfl⟩
     obtain ⟨sl, hsl⟩ : ∃ z : Nat, it.ln = z := ⟨_, rfl⟩
     obtain ⟨S, hS⟩ : ∃ z, str (fSrc it) = z := ⟨_, rfl⟩
     have TX := fun W => HT.out W it hitok
     unfold StrB itmV at TX
     rw [hs0, hs2, hsg, hsl, hS] at TX
     rw [hs0] at a0
     rw [hsg] at a1
     rw [hs2] at a2
     rw [hsl] at a3
     have TX := Lib.hid TX
     have hSs : S.size ≤ 4294968000 := by rw [← hS, str_size]; have := fSrc_len it; have := hitok.1; omega
     have hps : s2.size ≤ 4294967000 := by rw [← hs2, str_size]; exact hitok.2
     have hSd : S.data.toList = fSrc it := by rw [← hS, str_data]
     have hpd : s2.data.toList = it.pl := by rw [← hs2, str_data]
     have hwdd : wd.data.toList = word := by rw [← hwd, str_data]
     obtain ⟨pe, hpe⟩ : ∃ z, (it.pl == []) = z := ⟨_, rfl⟩
     have qe : (s2.toList == []) = pe := by rw [Lib.toList_data, hpd]; exact hpe
     have HHB := Lib.hid (fun (W : World) (h : Below wr.heap.size wr W) => (HBW.out.trans (h.mono HBW.out.size) : Below w.heap.size w W))
     by_cases hk0 : k = 0
     · have hd0 : decide ((0 : Int) < (k : Int)) = false := by rw [decide_eq_false_iff_not]; omega
       have hl0 : rLast none (l.take k) = none := by rw [hk0]; rfl
       have ea : ad.add (k * 4) = ad := by rw [hk0]; rfl
       rw [ea] at a0 a1 a2 a3
       clear ea
       cases pe with
       | true =>
         have n0 : ¬ 9223372036854775807 < x.size + 2 := by omega
         have n1 : ¬ 9223372036854775807 < x.size + 2 + wd.size := by omega
         have n2 : ¬ 9223372036854775807 < x.size + 2 + wd.size + 1 := by omega
         have n3 : ¬ 9223372036854775807 < x.size + 2 + wd.size + 1 + S.size := by omega
         have HP := Lib.hid (show rPre word (rLast none (l.take k)) it = [] ++ ([32, 32] ++ word ++ [32] ++ []) from by
           rw [hl0]
           unfold rPre
           rw [if_neg (by intro q; cases q), if_pos rfl]
           rw [if_pos (by simpa using hpe)])
         have HG := Lib.hid (And.intro hgo (And.intro hSd (And.intro hwdd hpd)))
         clear hgo hSd hwdd hpd hA hB hok hn hwd hA2 htk hit hitok hs0 hs2 hsg hsl hS hkl hpe hws hps hSs hxs
         go_upto_region 5 with fail
         go_quiet (fail)
         go_wp2_with (first
           | (go_at_call 50; ((with_reducible refine (TX.out _).mono ?_); rintro en w2 ⟨rfl, hb2⟩; (have HB2 := Lib.hid (HHB.out w2 (by exact (Below.drewN_ (Below.refl _ wr) _).trans (hb2.mono (Nat.le_refl _))))); clear hb2))
           | (fail "arm"))
         go_roundw
         case rel => exact ⟨k + 1, _, rfl, by go_num, by omega, Lib.hid (HG.out.1 _ (by rw [HP.out, ← HG.out.2.1, ← HG.out.2.2.1]; simp)), HB2⟩
         case measure => simp [intOf]; omega
       | false =>
         have n0 : ¬ 9223372036854775807 < x.size + 2 := by omega
         have n1 : ¬ 9223372036854775807 < x.size + 2 + wd.size := by omega
         have n2 : ¬ 9223372036854775807 < x.size + 2 + wd.size + 1 := by omega
         have n3 : ¬ 9223372036854775807 < x.size + 2 + wd.size + 1 + s2.size := by omega
         have n4 : ¬ 9223372036854775807 < x.size + 2 + wd.size + 1 + s2.size + 1 := by omega
         have n5 : ¬ 9223372036854775807 < x.size + 2 + wd.size + 1 + s2.size + 1 + S.size := by omega
         have HP := Lib.hid (show rPre word (rLast none (l.take k)) it = [] ++ ([32, 32] ++ word ++ [32] ++ (it.pl ++ [32])) from by
           rw [hl0]
           unfold rPre
           rw [if_neg (by intro q; cases q), if_pos rfl]
           rw [if_neg (by simpa using hpe)])
         have HG := Lib.hid (And.intro hgo (And.intro hSd (And.intro hwdd hpd)))
         clear hgo hSd hwdd hpd hA hB hok hn hwd hA2 htk hit hitok hs0 hs2 hsg hsl hS hkl hpe hws hps hSs hxs
         go_upto_region 5 with fail
         go_quiet (fail)
         go_wp2_with (first
           | (go_at_call 50; ((with_reducible refine (TX.out _).mono ?_); rintro en w2 ⟨rfl, hb2⟩; (have HB2 := Lib.hid (HHB.out w2 (by exact (Below.drewN_ (Below.refl _ wr) _).trans (hb2.mono (Nat.le_refl _))))); clear hb2))
           | (fail "arm"))
         go_roundw
         case rel => exact ⟨k + 1, _, rfl, by go_num, by omega, Lib.hid (HG.out.1 _ (by rw [HP.out, ← HG.out.2.1, ← HG.out.2.2.1, ← HG.out.2.2.2]; simp)), HB2⟩
         case measure => simp [intOf]; omega
     · have hd0 : decide ((0 : Int) < (k : Int)) = true := by rw [decide_eq_true_eq]; omega
       have hd1 : decide (0 < k) = true := by rw [decide_eq_true_eq]; omega
       obtain ⟨j, hj⟩ : ∃ j, k = j + 1 := ⟨k - 1, by omega⟩
       have hjl : j < l.length := by omega
       obtain ⟨ad2, e2, hb2, b0, b1, b2, b3⟩ := hA2.at_ hjl
       injection e2 with e2
       subst e2
       have hlast : rLast none (l.take k) = some (l[j]).pl := by
         rw [hj, List.take_succ_eq_append_getElem hjl]
         unfold rLast
         rw [List.getLast?_concat]
       obtain ⟨s3, hs3⟩ : ∃ z, str (l[j]).pl = z := ⟨_, rfl⟩
       rw [hs3] at b2
       obtain ⟨sb, hsb⟩ : ∃ z, (s2.toList == s3.toList) = z := ⟨_, rfl⟩
       have hsame := Lib.hid (show sb = true ↔ (l[j]).pl = it.pl from by
         rw [← hsb, Lib.toList_data, Lib.toList_data, ← hs2, ← hs3, str_data, str_data, beq_iff_eq]
         exact ⟨fun h => h.symm, fun h => h.symm⟩)
       have ew : IntKind.i64.wrap ((k : Int) - 1) = (j : Int) := by rw [show (k : Int) - 1 = (j : Int) by omega]; simp [IntKind.wrap, IntKind.bits, IntKind.signed]; omega
       have j0 : (0 : Int) ≤ (j : Int) := Int.natCast_nonneg _
       have j1 : (j : Int) < (n : Int) := by omega
       clear b0 b1 b3 hs3 hj hk0
       cases sb with
       | true =>
         have n0 : ¬ 9223372036854775807 < x.size + 2 := by omega
         have n1 : ¬ 9223372036854775807 < x.size + 2 + S.size := by omega
         have HP := Lib.hid (show rPre word (rLast none (l.take k)) it = [44, 32] from by
           rw [hlast]
           unfold rPre
           rw [if_pos (by rw [hsame.out.mp rfl])])
         have HG := Lib.hid (And.intro hgo (And.intro hSd (And.intro hwdd hpd)))
         clear hgo hSd hwdd hpd hA hB hok hn hwd hA2 htk hit hitok hs0 hs2 hsg hsl hS hkl hpe hws hps hSs hxs
         go_upto_region 5 with fail
         go_quiet (fail)
         go_wp2_with (first
           | (go_at_call 50; ((with_reducible refine (TX.out _).mono ?_); rintro en w2 ⟨rfl, hb2⟩; (have HB2 := Lib.hid (HHB.out w2 (by exact (Below.drewN_ (Below.refl _ wr) _).trans (hb2.mono (Nat.le_refl _))))); clear hb2))
           | (fail "arm"))
         go_roundw
         case rel => exact ⟨k + 1, _, rfl, by go_num, by omega, Lib.hid (HG.out.1 _ (by rw [HP.out, ← HG.out.2.1]; simp)), HB2⟩
         case measure => simp [intOf]; omega
       | false =>
         cases pe with
         | true =>
           have n0 : ¬ 9223372036854775807 < x.size + 2 := by omega
           have n1 : ¬ 9223372036854775807 < x.size + 2 + 2 := by omega
           have n2 : ¬ 9223372036854775807 < x.size + 2 + 2 + wd.size := by omega
           have n3 : ¬ 9223372036854775807 < x.size + 2 + 2 + wd.size + 1 := by omega
           have n4 : ¬ 9223372036854775807 < x.size + 2 + 2 + wd.size + 1 + S.size := by omega
           have HP := Lib.hid (show rPre word (rLast none (l.take k)) it = [59, 10] ++ ([32, 32] ++ word ++ [32] ++ []) from by
             rw [hlast]
             unfold rPre
             rw [if_neg (by intro q; injection q with q; exact Bool.false_ne_true (hsame.out.mpr q)), if_neg (by intro q; cases q)]
             rw [if_pos (by simpa using hpe)])
           have HG := Lib.hid (And.intro hgo (And.intro hSd (And.intro hwdd hpd)))
           clear hgo hSd hwdd hpd hA hB hok hn hwd hA2 htk hit hitok hs0 hs2 hsg hsl hS hkl hpe hws hps hSs hxs
           go_upto_region 5 with fail
           go_quiet (fail)
           go_wp2_with (first
             | (go_at_call 50; ((with_reducible refine (TX.out _).mono ?_); rintro en w2 ⟨rfl, hb2⟩; (have HB2 := Lib.hid (HHB.out w2 (by exact (Below.drewN_ (Below.refl _ wr) _).trans (hb2.mono (Nat.le_refl _))))); clear hb2))
             | (fail "arm"))
           go_roundw
           case rel => exact ⟨k + 1, _, rfl, by go_num, by omega, Lib.hid (HG.out.1 _ (by rw [HP.out, ← HG.out.2.1, ← HG.out.2.2.1]; simp)), HB2⟩
           case measure => simp [intOf]; omega
         | false =>
           have n0 : ¬ 9223372036854775807 < x.size + 2 := by omega
           have n1 : ¬ 9223372036854775807 < x.size + 2 + 2 := by omega
           have n2 : ¬ 9223372036854775807 < x.size + 2 + 2 + wd.size := by omega
           have n3 : ¬ 9223372036854775807 < x.size + 2 + 2 + wd.size + 1 := by omega
           have n4 : ¬ 9223372036854775807 < x.size + 2 + 2 + wd.size + 1 + s2.size := by omega
           have n5 : ¬ 9223372036854775807 < x.size + 2 + 2 + wd.size + 1 + s2.size + 1 := by omega
           have n6 : ¬ 9223372036854775807 < x.size + 2 + 2 + wd.size + 1 + s2.size + 1 + S.size := by omega
           have HP := Lib.hid (show rPre word (rLast none (l.take k)) it = [59, 10] ++ ([32, 32] ++ word ++ [32] ++ (it.pl ++ [32])) from by
             rw [hlast]
             unfold rPre
             rw [if_neg (by intro q; injection q with q; exact Bool.false_ne_true (hsame.out.mpr q)), if_neg (by intro q; cases q)]
             rw [if_neg (by simpa using hpe)])
           have HG := Lib.hid (And.intro hgo (And.intro hSd (And.intro hwdd hpd)))
           clear hgo hSd hwdd hpd hA hB hok hn hwd hA2 htk hit hitok hs0 hs2 hsg hsl hS hkl hpe hws hps hSs hxs
           go_upto_region 5 with fail
           go_quiet (fail)
           go_wp2_with (first
             | (go_at_call 50; ((with_reducible refine (TX.out _).mono ?_); rintro en w2 ⟨rfl, hb2⟩; (have HB2 := Lib.hid (HHB.out w2 (by exact (Below.drewN_ (Below.refl _ wr) _).trans (hb2.mono (Nat.le_refl _))))); clear hb2))
             | (fail "arm"))
           go_roundw
           case rel => exact ⟨k + 1, _, rfl, by go_num, by omega, Lib.hid (HG.out.1 _ (by rw [HP.out, ← HG.out.2.1, ← HG.out.2.2.1, ← HG.out.2.2.2]; simp)), HB2⟩
           case measure => simp [intOf]; omega
   · have hd : decide ((k : Int) < (n : Int)) = false := by rw [decide_eq_false_iff_not]; omega
     have hkn : k = n := by omega
     obtain ⟨hA, hB, hok, hn, hwd⟩ := HA.out
     have hfull : l.take k = l := by rw [hkn, ← hn, List.take_length]
     have hx := HX.out
     rw [hfull] at hx
     have hxs : x.size ≤ 1000 * 8589934200 := by
       rw [hx, str_size]
       have h1 := rGo_len word l none hok
       refine Nat.le_trans h1 (Nat.mul_le_mul (by omega) ?_)
       rw [← str_size, hwd]
       omega
     have n1 : ¬ 9223372036854775807 < x.size + 2 := by omega
     obtain ⟨em, hem⟩ : ∃ z, l.isEmpty = z := ⟨_, rfl⟩
     have qe : (x.toList == []) = em := by rw [Lib.toList_data, hx, str_data, rGo_nil]; exact hem
     have HE := Lib.hid (show (if em = true then (⟨#[]⟩ : ByteArray) else x ++ ⟨#[59, 10]⟩) = str (rAttr word l) from by
       apply str_of
       unfold rAttr
       cases em with
       | true => rw [if_pos rfl, if_pos (List.isEmpty_iff.1 hem)]
       | false =>
         rw [if_neg Bool.false_ne_true, if_neg (fun q => by simp [q] at hem), hx]
         simp [str])
     clear hA hB hok hn hwd hfull hx hxs hem hkn
     cases em with
     | true =>
       go_wp2
       go_ret
       exact ⟨by rw [← HE.out]; rfl, HBW.out⟩
     | false =>
       go_wp2
       go_ret
       exact ⟨by rw [← HE.out]; rfl, HBW.out⟩
structure SrTgt (T : Tgt) : Prop where
 name : T.name.length ≤ 4294967000
 rows : ∀ i, i < 4 → (T.rows i).length ≤ 1000 ∧ ∀ x ∈ T.rows i, TxOk x
 kind : 1 ≤ T.kind ∧ T.kind ≤ 4
 cost : 0 ≤ T.cost ∧ T.cost ≤ 1000000
 retry : 0 ≤ T.retry ∧ T.retry ≤ 1000000
structure SrB (pl : List Itm) (L : List Tgt) : Prop where
 npl : pl.length ≤ 1000
 hpl : ∀ i ∈ pl, TxOk i
 nl : L.length ≤ 1000
 hl : ∀ T ∈ L, SrTgt T
def pfx (pl : List Itm) (k : Nat) : List UInt8 := if k = 0 then [] else wPlatS ++ Lib.join ((pl.take k).map Itm.tx) [44, 32]
theorem pfx_one {pl : List Itm} (h : 0 < pl.length) : pfx pl 1 = wPlatS ++ (pl[0]).tx := by
 unfold pfx
 rw [if_neg (by decide), List.take_succ_eq_append_getElem h]
 simp [Lib.join_one]
theorem pfx_succ {pl : List Itm} {k : Nat} (h : k < pl.length) (h0 : k ≠ 0) : pfx pl (k + 1) = pfx pl k ++ [44, 32] ++ (pl[k]).tx := by
 unfold pfx
 rw [if_neg (by omega), if_neg h0, List.take_succ_eq_append_getElem h, List.map_append, List.map_singleton, join_snoc _ _ _ (by
  intro q
  have := congrArg List.length q
  rw [List.length_map, List.length_take, List.length_nil] at this
  omega)]
 simp
theorem fPlats_pfx (pl : List Itm) : fPlats pl = if pl.length = 0 then [] else pfx pl pl.length ++ [59, 10] := by
 unfold fPlats pfx fThree
 by_cases h : pl.length = 0
 · rw [if_pos h, if_pos h]
 · rw [if_neg h, if_neg h, if_neg h, List.take_length]
   simp
theorem pfx_len {pl : List Itm} (h : ∀ i ∈ pl, TxOk i) : ∀ k, k ≤ pl.length → (pfx pl k).length ≤ 10 + k * 4294967002
 | 0, _ => by simp [pfx]
 | k + 1, hk => by
  have ih := pfx_len h k (by omega)
  have hx := (h (pl[k]'(by omega)) (List.getElem_mem _)).1
  by_cases h0 : k = 0
  · subst h0
    rw [pfx_one (by omega)]
    simp [wPlatS]
    omega
  · rw [pfx_succ (by omega) h0]
    simp
    omega
theorem fItems_len {word : List UInt8} {l : List Itm} (hw : word.length ≤ 100) (hl : l.length ≤ 1000) (h : ∀ x ∈ l, TxOk x) : (fItems word l).length ≤ 8589934200002 := by
 rw [← rAttr_eq]
 unfold rAttr
 split
 · simp
 · have h1 := rGo_len word l none h
   have h2 : l.length * (8589934014 + word.length) ≤ 1000 * 8589934200 := Nat.mul_le_mul hl (by omega)
   simp
   omega
theorem itoa_len {n : Int} (h0 : 0 ≤ n) (h : n ≤ 1000000) : (itoaB n).length ≤ 8 := by
 have e := digL_itoa 7 n.toNat (by omega)
 have e2 := digL_len 7 n.toNat
 unfold itoaB
 rw [show n = ((n.toNat : Nat) : Int) by omega, ← e]
 exact e2
theorem fTarget_len {T : Tgt} (h : SrTgt T) : (fTarget T).length ≤ 40000000000000 := by
 have r := fun i hi w hw => fItems_len (word := w) (l := T.rows i) hw (h.rows i hi).1 (h.rows i hi).2
 have r0 := r 0 (by decide) wSrcs (by decide)
 have r1 := r 1 (by decide) wDeps (by decide)
 have r2 := r 2 (by decide) wOut (by decide)
 have r3 := r 3 (by decide) wVis (by decide)
 have c := itoa_len h.cost.1 h.cost.2
 have q := itoa_len h.retry.1 h.retry.2
 have k : (kw T.kind.toNat).length ≤ 4 := by
  have := h.kind
  obtain e | e | e | e : T.kind = 1 ∨ T.kind = 2 ∨ T.kind = 3 ∨ T.kind = 4 := by omega
  all_goals (rw [e]; decide)
 have c2 : (if T.cost = 1 then [] else fThree wCostS (itoaB T.cost) [59]).length ≤ 20 := by
  split
  · simp
  · simp [fThree, wCostS]; omega
 have q2 : (if T.retry = 0 then [] else fThree wRetryS (itoaB T.retry) [59]).length ≤ 20 := by
  split
  · simp
  · simp [fThree, wRetryS]; omega
 have hn := h.name
 unfold fTarget
 simp only [List.length_append]
 simp only [fThree, wTargetS, wOpen, wKindS, List.length_append, List.length_cons, List.length_nil] at c2 q2 ⊢
 omega
theorem fTgts_len : ∀ (L : List Tgt), (∀ T ∈ L, SrTgt T) → (L.flatMap fTarget).length ≤ L.length * 40000000000000
 | [], _ => by simp
 | T :: L, h => by
  have := fTarget_len (h T (by simp))
  have ih := fTgts_len L (fun x hx => h x (List.mem_cons_of_mem _ hx))
  rw [List.flatMap_cons, List.length_append, List.length_cons, Nat.add_mul]
  omega
def kwsC : List Value := [.string ⟨#[]⟩, .string ⟨#[108, 105, 98]⟩, .string ⟨#[98, 105, 110]⟩, .string ⟨#[116, 101, 115, 116]⟩, .string ⟨#[103, 101, 110]⟩]
theorem kwsC_at {w : World} {u : Nat} (F : Full w u 9 kwsC) (k : Nat) (hk : k < 5) : w.cell? ⟨u, k, none⟩ = some (.string (str (kw k))) := by
 rw [F.cell k]
 obtain rfl | rfl | rfl | rfl | rfl : k = 0 ∨ k = 1 ∨ k = 2 ∨ k = 3 ∨ k = 4 := by omega
 all_goals rfl
set_option maxHeartbeats 64000000 in
theorem rsource_any {w : World} {B : Nat} {Ap : Option Addr} {np cp : Nat} {A : Option Addr} {n c : Nat} {pl : List Itm} {tl : List (Tgt × (Nat → Value))} (h : RB w B Ap np cp A n c pl tl) (hB : B ≤ w.heap.size) (hok : SrB pl (tl.map Prod.fst)) :
   Calls Tryz.prog 14 #[.agg #[.slice Ap np cp, .slice A n c]] w (StrB w (str (fFile pl (tl.map Prod.fst)))) := by
 unfold StrB
 obtain ⟨w1, hw1⟩ : ∃ w1, w.alloc (.cells #[.slice Ap np cp, .slice A n c] 28) = w1 := ⟨_, rfl⟩
 have hb1 : Below w.heap.size w w1 := by rw [← hw1]; exact (Below.refl _ w).alloc (Nat.le_refl _) _
 have F1 : Full w1 w.heap.size 28 [.slice Ap np cp, .slice A n c] := by rw [← hw1]; exact Full.new w 28 _
 obtain ⟨q, hq⟩ : ∃ q, w.heap.size = q := ⟨_, rfl⟩
 have hc1 := h.hpl.2.1
 have hc2 := h.htl.2.1
 rw [h.hnp] at hc1
 rw [h.hn] at hc2
 have HA := Lib.hid (And.intro (h.below hb1 hB) (And.intro (Nat.le_trans hB hb1.size) (And.intro hok (And.intro F1 hb1))))
 have c0 : w1.cell? ⟨q, 0, none⟩ = some (.slice Ap np cp) := by rw [← hq]; exact F1.cell 0
 have hnp1 : np ≤ 1000 := by rw [← h.hnp]; exact hok.npl
 have hn1 : n ≤ 1000 := by have := hok.nl; rw [List.length_map, h.hn] at this; exact this
 have hqB : B ≤ q := by omega
 rw [hq] at HA
 have HQ := Lib.hid hq
 clear h hB hok hb1 F1 hq
 go_enter Tryz.func14, Tryz.ntmps14
 go_upto_region 3 with fail
 rw [HQ.out]
 clear hw1
 go_loopw [3, 4] (fun v3 v4 wr => ∃ (k : Nat) (x : ByteArray), v3 = .string x ∧ v4 = .int .i64 (k : Int) ∧ k ≤ np ∧ Hid (x = str (pfx pl k)) ∧ wr = w1) (fun _ v4 _ => np - (intOf v4).toNat)
 case atStart => exact ⟨0, ⟨#[]⟩, rfl, rfl, Nat.zero_le _, Lib.hid rfl, rfl⟩
 case round =>
  obtain ⟨k, x, rfl, rfl, hk, HX, rfl⟩ := hrel
  have k0 : (0 : Int) ≤ (k : Int) := Int.natCast_nonneg _
  have hnp2 := HA.out.1.hnp
  have hxs : x.size ≤ 10 + 1000 * 4294967002 := by
   rw [HX.out, str_size]
   exact Nat.le_trans (pfx_len HA.out.2.2.1.hpl k (by omega)) (Nat.add_le_add_left (Nat.mul_le_mul_right _ (by omega)) 10)
  by_cases hlt : k < np
  · have k1 : (k : Int) < (np : Int) := by omega
    have hd : decide ((k : Int) < (np : Int)) = true := by rw [decide_eq_true_eq]; exact k1
    have hkl : k < pl.length := by omega
    obtain ⟨ad, e, hb, a0, a1, a2, a3⟩ := HA.out.1.hpl.at_ hkl
    subst e
    obtain ⟨S, hS⟩ : ∃ z, str (pl[k]).tx = z := ⟨_, rfl⟩
    rw [hS] at a0
    have hSs : S.size ≤ 4294967000 := by rw [← hS, str_size]; exact (HA.out.2.2.1.hpl _ (List.getElem_mem hkl)).1
    by_cases hk0 : k = 0
    · have q0 : ((k : Int) == 0) = true := by rw [beq_iff_eq]; omega
      have HE := Lib.hid (show (⟨#[112, 108, 97, 116, 102, 111, 114, 109, 115, 32]⟩ : ByteArray) ++ S = str (pfx pl (k + 1)) from by
       apply str_of
       rw [← hS]
       subst hk0
       rw [pfx_one hkl]
       simp [str, wPlatS])
      have ea : ad.add (k * 4) = ad := by rw [hk0]; rfl
      rw [ea] at a0
      have n1 : ¬ 9223372036854775807 < 10 + S.size := by omega
      clear a1 a2 a3 hS hxs ea hkl hnp2
      go_wp2
      go_roundw
      case rel => exact ⟨k + 1, _, rfl, by go_num, by omega, HE, trivial⟩
      case measure => simp [intOf]; omega
    · have q0 : ((k : Int) == 0) = false := by rw [beq_eq_false_iff_ne]; omega
      have HE := Lib.hid (show x ++ ⟨#[44, 32]⟩ ++ S = str (pfx pl (k + 1)) from by
       apply str_of
       rw [← hS, pfx_succ hkl hk0, HX.out]
       simp [str])
      have n1 : ¬ 9223372036854775807 < x.size + 2 := by omega
      have n2 : ¬ 9223372036854775807 < x.size + 2 + S.size := by omega
      clear a1 a2 a3 hS hxs hkl hnp2 hk0
      go_wp2
      go_roundw
      case rel => exact ⟨k + 1, _, rfl, by go_num, by omega, HE, trivial⟩
      case measure => simp [intOf]; omega
  · have hd : decide ((k : Int) < (np : Int)) = false := by rw [decide_eq_false_iff_not]; omega
    have hkn : k = np := by omega
    obtain ⟨X, hX⟩ : ∃ z, fPlats pl = z := ⟨_, rfl⟩
    have hx := HX.out
    have hpf := fPlats_pfx pl
    rw [hnp2, ← hkn, hX] at hpf
    have hXs : X.length ≤ 12 + 1000 * 4294967002 := by
     rw [hpf]
     split
     · simp
     · rw [hx, str_size] at hxs
       simp
       omega
    obtain ⟨z0, hz0⟩ : ∃ z, (k == 0) = z := ⟨_, rfl⟩
    have qe : (x.toList == []) = z0 := by
     rw [Lib.toList_data, hx, str_data, ← hz0]
     unfold pfx
     by_cases h0 : k = 0
     · rw [if_pos h0, h0]; rfl
     · rw [if_neg h0, Bool.eq_iff_iff]
       simp [h0, wPlatS]
    have qn : (x.toList != []) = !z0 := by unfold bne; rw [qe]
    have n1 : ¬ 9223372036854775807 < x.size + 2 := by omega
    have HXE := Lib.hid (show (if z0 = true then x else x ++ ⟨#[59, 10]⟩) = str X from by
     apply str_of
     rw [hpf]
     by_cases h0 : k = 0
     · rw [if_pos h0, if_pos (by rw [← hz0, h0]; rfl), hx, h0]; rfl
     · rw [if_neg h0, if_neg (by rw [← hz0]; simpa using h0), hx]; simp [str])
    have HXP := Lib.hid (And.intro hX hXs)
    clear hkn hx hpf hX hXs hz0 hxs hnp2 hc1 HX
    have HW2 := Lib.hid (show Full (wr.alloc (.cells #[.string ⟨#[]⟩, .string ⟨#[108, 105, 98]⟩, .string ⟨#[98, 105, 110]⟩, .string ⟨#[116, 101, 115, 116]⟩, .string ⟨#[103, 101, 110]⟩] 9)) wr.heap.size 9 kwsC ∧ Below wr.heap.size wr (wr.alloc (.cells #[.string ⟨#[]⟩, .string ⟨#[108, 105, 98]⟩, .string ⟨#[98, 105, 110]⟩, .string ⟨#[116, 101, 115, 116]⟩, .string ⟨#[103, 101, 110]⟩] 9)) from ⟨Full.new wr 9 _, (Below.refl _ wr).alloc (Nat.le_refl _) _⟩)
    go_upto_if 28 with fail
    clear hd c0
    go_cut [3] from 3 to 30 (fun v3 wx => v3 = .string (str X) ∧ wx = wr)
    case first =>
     cases z0 with
     | true =>
      go_wp2
      go_meet
      exact ⟨by rw [← HXE.out]; rfl, rfl⟩
     | false =>
      go_wp2
      go_meet
      exact ⟨by rw [← HXE.out]; rfl, rfl⟩
    case rest =>
     obtain ⟨rfl, rfl⟩ := hcut
     obtain ⟨x0, hx0⟩ : ∃ z, str X = z := ⟨_, rfl⟩
     rw [hx0]
     have hx0s : x0.size ≤ 12 + 1000 * 4294967002 := by rw [← hx0, str_size]; exact HXP.out.2
     have HX0 := Lib.hid hx0
     clear hx0 HXE qe qn n1 hk k0
     go_upto_region 13 with fail
     obtain ⟨w2, hw2⟩ : ∃ z, wc.alloc (.cells #[.string ⟨#[]⟩, .string ⟨#[108, 105, 98]⟩, .string ⟨#[98, 105, 110]⟩, .string ⟨#[116, 101, 115, 116]⟩, .string ⟨#[103, 101, 110]⟩] 9) = z := ⟨_, rfl⟩
     have H2 := Lib.hid (show RB w2 B Ap np cp A n c pl tl ∧ Full w2 q 28 [.slice Ap np cp, .slice A n c] ∧ Full w2 wc.heap.size 9 kwsC ∧ Below w.heap.size w w2 ∧ B ≤ w2.heap.size from by
      rw [hw2] at HW2
      obtain ⟨r1, r2, r3, r4, r5⟩ := HA.out
      exact ⟨r1.below HW2.out.2 r2, r4.on HW2.out.2, HW2.out.1, Below.then_ (by rw [HQ.out]; exact r5) HW2.out.2, Nat.le_trans r2 HW2.out.2.size⟩)
     rw [hw2]
     obtain ⟨gk, hgk⟩ : ∃ z, wc.heap.size = z := ⟨_, rfl⟩
     rw [hgk] at H2
     rw [hgk]
     have HSR := Lib.hid HA.out.2.2.1
     clear hw2 hgk HW2 HA HQ
     go_loopw [3, 6] (fun v3 v6 wr => ∃ (k : Nat) (x : ByteArray), v3 = .string x ∧ v6 = .int .i64 (k : Int) ∧ k ≤ n ∧ Hid (x = str (X ++ ((tl.take k).map Prod.fst).flatMap fTarget)) ∧ Hid (Below w2.heap.size w2 wr)) (fun _ v6 _ => n - (intOf v6).toNat)
     case atStart => exact ⟨0, x0, rfl, rfl, Nat.zero_le _, Lib.hid (by rw [← HX0.out]; simp), Lib.hid (Below.refl _ w2)⟩
     case round =>
      obtain ⟨k, x, rfl, rfl, hk, HX, HBW⟩ := hrel
      have k0 : (0 : Int) ≤ (k : Int) := Int.natCast_nonneg _
      have c1 : wr.cell? ⟨q, 1, none⟩ = some (.slice A n c) := (H2.out.2.1.on HBW.out).cell 1
      have hxs : x.size ≤ 12 + 1000 * 4294967002 + 1000 * 40000000000000 := by
       rw [HX.out, str_size, List.length_append]
       refine Nat.add_le_add HXP.out.2 (Nat.le_trans (fTgts_len _ (fun T hT => HSR.out.hl T ?_)) (Nat.mul_le_mul_right _ ?_))
       · obtain ⟨p, hp, rfl⟩ := List.mem_map.1 hT
         exact List.mem_map_of_mem (List.mem_of_mem_take hp)
       · rw [List.length_map, List.length_take]
         omega
      by_cases hlt : k < n
      · have k1 : (k : Int) < (n : Int) := by omega
        have hd : decide ((k : Int) < (n : Int)) = true := by rw [decide_eq_true_eq]; exact k1
        have hn2 := H2.out.1.hn
        have hkl : k < tl.length := by omega
        obtain ⟨ad, e, hb, a0, a1, a2, a3, a4, a5, a6, a7, a8⟩ := (H2.out.1.below HBW.out H2.out.2.2.2.2).htl.at_ hkl
        subst e
        have hrow := (H2.out.1.rows tl[k] (List.getElem_mem hkl))
        have hT := HSR.out.hl tl[k].1 (List.mem_map_of_mem (List.getElem_mem hkl))
        have htk := fl_take tl k hkl
        obtain ⟨T, hTT⟩ : ∃ z, tl[k].1 = z := ⟨_, rfl⟩
        obtain ⟨vs, hvs⟩ : ∃ z, tl[k].2 = z := ⟨_, rfl⟩
        rw [hTT] at a0 a1 a2 a7 a8 hT htk
        rw [hvs] at a3 a4 a5 a6
        unfold TR at hrow
        rw [hTT, hvs] at hrow
        obtain ⟨A0, d0, e0, r0⟩ := hrow 0 (by decide)
        rw [e0] at a3
        obtain ⟨m0, hm0⟩ : ∃ z, (T.rows 0).length = z := ⟨_, rfl⟩
        have C0 := fun (W : World) (h : Below w2.heap.size w2 W) => attr31_any (Row.below r0 h H2.out.2.2.2.2) (Nat.le_trans H2.out.2.2.2.2 h.size) (hT.rows 0 (by decide)).1 (hT.rows 0 (by decide)).2 wSrcs (by decide)
        have L0 := fItems_len (word := wSrcs) (l := T.rows 0) (by decide) (hT.rows 0 (by decide)).1 (hT.rows 0 (by decide)).2
        obtain ⟨S0, hS0⟩ : ∃ z, str (fItems wSrcs (T.rows 0)) = z := ⟨_, rfl⟩
        unfold StrB at C0
        rw [hm0, hS0] at C0
        rw [hm0] at a3
        have s0 : S0.size ≤ 8589934200002 := by rw [← hS0, str_size]; exact L0
        have C0 := Lib.hid (show ∀ (W : World) (h : Below w2.heap.size w2 W), Calls Tryz.prog 31 #[.string ⟨#[115, 114, 99, 115]⟩, .slice A0 m0 d0] W (fun e w' => e = .returned (.string S0) ∧ Below W.heap.size W w') from C0)
        obtain ⟨A1, d1, e1, r1⟩ := hrow 1 (by decide)
        rw [e1] at a4
        obtain ⟨m1, hm1⟩ : ∃ z, (T.rows 1).length = z := ⟨_, rfl⟩
        have C1 := fun (W : World) (h : Below w2.heap.size w2 W) => attr31_any (Row.below r1 h H2.out.2.2.2.2) (Nat.le_trans H2.out.2.2.2.2 h.size) (hT.rows 1 (by decide)).1 (hT.rows 1 (by decide)).2 wDeps (by decide)
        have L1 := fItems_len (word := wDeps) (l := T.rows 1) (by decide) (hT.rows 1 (by decide)).1 (hT.rows 1 (by decide)).2
        obtain ⟨S1, hS1⟩ : ∃ z, str (fItems wDeps (T.rows 1)) = z := ⟨_, rfl⟩
        unfold StrB at C1
        rw [hm1, hS1] at C1
        rw [hm1] at a4
        have s1 : S1.size ≤ 8589934200002 := by rw [← hS1, str_size]; exact L1
        have C1 := Lib.hid (show ∀ (W : World) (h : Below w2.heap.size w2 W), Calls Tryz.prog 31 #[.string ⟨#[100, 101, 112, 115]⟩, .slice A1 m1 d1] W (fun e w' => e = .returned (.string S1) ∧ Below W.heap.size W w') from C1)
        obtain ⟨A2, d2, e2, r2⟩ := hrow 2 (by decide)
        rw [e2] at a5
        obtain ⟨m2, hm2⟩ : ∃ z, (T.rows 2).length = z := ⟨_, rfl⟩
        have C2 := fun (W : World) (h : Below w2.heap.size w2 W) => attr31_any (Row.below r2 h H2.out.2.2.2.2) (Nat.le_trans H2.out.2.2.2.2 h.size) (hT.rows 2 (by decide)).1 (hT.rows 2 (by decide)).2 wOut (by decide)
        have L2 := fItems_len (word := wOut) (l := T.rows 2) (by decide) (hT.rows 2 (by decide)).1 (hT.rows 2 (by decide)).2
        obtain ⟨S2, hS2⟩ : ∃ z, str (fItems wOut (T.rows 2)) = z := ⟨_, rfl⟩
        unfold StrB at C2
        rw [hm2, hS2] at C2
        rw [hm2] at a5
        have s2 : S2.size ≤ 8589934200002 := by rw [← hS2, str_size]; exact L2
        have C2 := Lib.hid (show ∀ (W : World) (h : Below w2.heap.size w2 W), Calls Tryz.prog 31 #[.string ⟨#[111, 117, 116]⟩, .slice A2 m2 d2] W (fun e w' => e = .returned (.string S2) ∧ Below W.heap.size W w') from C2)
        obtain ⟨A3, d3, e3, r3⟩ := hrow 3 (by decide)
        rw [e3] at a6
        obtain ⟨m3, hm3⟩ : ∃ z, (T.rows 3).length = z := ⟨_, rfl⟩
        have C3 := fun (W : World) (h : Below w2.heap.size w2 W) => attr31_any (Row.below r3 h H2.out.2.2.2.2) (Nat.le_trans H2.out.2.2.2.2 h.size) (hT.rows 3 (by decide)).1 (hT.rows 3 (by decide)).2 wVis (by decide)
        have L3 := fItems_len (word := wVis) (l := T.rows 3) (by decide) (hT.rows 3 (by decide)).1 (hT.rows 3 (by decide)).2
        obtain ⟨S3, hS3⟩ : ∃ z, str (fItems wVis (T.rows 3)) = z := ⟨_, rfl⟩
        unfold StrB at C3
        rw [hm3, hS3] at C3
        rw [hm3] at a6
        have s3 : S3.size ≤ 8589934200002 := by rw [← hS3, str_size]; exact L3
        have C3 := Lib.hid (show ∀ (W : World) (h : Below w2.heap.size w2 W), Calls Tryz.prog 31 #[.string ⟨#[118, 105, 115, 105, 98, 108, 101]⟩, .slice A3 m3 d3] W (fun e w' => e = .returned (.string S3) ∧ Below W.heap.size W w') from C3)
        obtain ⟨NM, hNM⟩ : ∃ z, str T.name = z := ⟨_, rfl⟩
        rw [hNM] at a0
        have sN : NM.size ≤ 4294967000 := by rw [← hNM, str_size]; exact hT.name
        obtain ⟨kd, hkd⟩ : ∃ z, T.kind = z := ⟨_, rfl⟩
        rw [hkd] at a1
        obtain ⟨ln, hln⟩ : ∃ z : Nat, T.line = z := ⟨_, rfl⟩
        rw [hln] at a2
        obtain ⟨co, hco⟩ : ∃ z, T.cost = z := ⟨_, rfl⟩
        rw [hco] at a7
        obtain ⟨re, hre⟩ : ∃ z, T.retry = z := ⟨_, rfl⟩
        rw [hre] at a8
        have hkd4 := hT.kind
        rw [hkd] at hkd4
        obtain ⟨KW, hKW⟩ : ∃ z, str (kw kd.toNat) = z := ⟨_, rfl⟩
        have sK : KW.size ≤ 4 := by
         rw [← hKW, str_size]
         obtain e | e | e | e : kd = 1 ∨ kd = 2 ∨ kd = 3 ∨ kd = 4 := by omega
         all_goals (rw [e]; decide)
        have i0 : (0 : Int) ≤ kd := by omega
        have i1 : kd < 5 := by omega
        have hcost := hT.cost
        have hretry := hT.retry
        rw [hco] at hcost
        rw [hre] at hretry
        have D1 := fun (W : World) => digits_any 7 co.toNat (by omega) (by decide) (by omega) W
        have D2 := fun (W : World) => digits_any 7 re.toNat (by omega) (by decide) (by omega) W
        obtain ⟨E1, hE1⟩ : ∃ z, str (itoaB co) = z := ⟨_, rfl⟩
        obtain ⟨E2, hE2⟩ : ∃ z, str (itoaB re) = z := ⟨_, rfl⟩
        have sE1 : E1.size ≤ 8 := by rw [← hE1, str_size]; exact itoa_len hcost.1 hcost.2
        have sE2 : E2.size ≤ 8 := by rw [← hE2, str_size]; exact itoa_len hretry.1 hretry.2
        unfold StrB at D1 D2
        rw [digL_itoa 7 co.toNat (by omega), show ((co.toNat : Nat) : Int) = co by omega, show Lib.itoa co = itoaB co from rfl, hE1] at D1
        rw [digL_itoa 7 re.toNat (by omega), show ((re.toNat : Nat) : Int) = re by omega, show Lib.itoa re = itoaB re from rfl, hE2] at D2
        have D1 := Lib.hid D1
        have D2 := Lib.hid D2
        have HEND := Lib.hid (fun (z : ByteArray) (hz : z.data.toList = x.data.toList ++ (wTargetS ++ NM.data.toList ++ [32, 123, 10] ++ (wKindS ++ KW.data.toList ++ [59, 10]) ++ S0.data.toList ++ S1.data.toList ++ S2.data.toList ++ S3.data.toList ++ (if co = 1 then [] else wCostS ++ E1.data.toList ++ [59, 10]) ++ (if re = 0 then [] else wRetryS ++ E2.data.toList ++ [59, 10]) ++ [125, 10])) => (show z = str (X ++ ((tl.take (k + 1)).map Prod.fst).flatMap fTarget) from by
         apply str_of
         rw [hz, htk, HX.out, ← hNM, ← hKW, ← hS0, ← hS1, ← hS2, ← hS3, ← hE1, ← hE2]
         unfold fTarget
         rw [hkd, hco, hre]
         simp only [str_data, fThree, wOpen, List.append_assoc, List.cons_append, List.nil_append]))
        have HCE := Lib.hid (show ∀ W, Below w2.heap.size w2 W → W.cell? ⟨gk, kd.toNat, none⟩ = some (.string KW) from fun W hW => by
         rw [← hKW]
         exact kwsC_at (H2.out.2.2.1.on hW) _ (by omega))
        have hkdn : ((kd.toNat : Nat) : Int) = kd := by omega
        clear hrow hT htk hTT hvs hNM hkd hln hco hre hKW hE1 hE2 hkd4 hkl hn2 hd
        clear hm0 hm1 hm2 hm3 hS0 hS1 hS2 hS3 e0 e1 e2 e3 r0 r1 r2 r3 L0 L1 L2 L3
        go_upto_region 16 with fail
        obtain ⟨w5, hw5⟩ : ∃ z, wr.alloc (.cells #[.string NM, .int .i64 kd, .int .i64 (ln : Int), .slice A0 m0 d0, .slice A1 m1 d1, .slice A2 m2 d2, .slice A3 m3 d3, .int .i64 co, .int .i64 re] 50) = z := ⟨_, rfl⟩
        obtain ⟨u, hu⟩ : ∃ z, wr.heap.size = z := ⟨_, rfl⟩
        have H5 := Lib.hid (show Full w5 u 50 [.string NM, .int .i64 kd, .int .i64 (ln : Int), .slice A0 m0 d0, .slice A1 m1 d1, .slice A2 m2 d2, .slice A3 m3 d3, .int .i64 co, .int .i64 re] ∧ Below w2.heap.size w2 w5 from ⟨by rw [← hw5, ← hu]; exact Full.new wr 50 _, Below.then_ HBW.out (by rw [← hw5]; exact (Below.refl _ wr).alloc (Nat.le_refl _) _)⟩)
        rw [hw5, hu]
        clear hw5 hu a0 a1 a2 a3 a4 a5 a6 a7 a8 c1
        have b0 : w5.cell? ⟨u, 0, none⟩ = some (.string NM) := H5.out.1.cell 0
        have b1 : w5.cell? ⟨u, 1, none⟩ = some (.int .i64 kd) := H5.out.1.cell 1
        have b2 := HCE.out w5 H5.out.2
        have n1 : ¬ 9223372036854775807 < x.size + 7 := by omega
        have n2 : ¬ 9223372036854775807 < x.size + 7 + NM.size := by omega
        have n3 : ¬ 9223372036854775807 < x.size + 7 + NM.size + 10 := by omega
        have n4 : ¬ 9223372036854775807 < x.size + 7 + NM.size + 10 + KW.size := by omega
        have n5 : ¬ 9223372036854775807 < x.size + 7 + NM.size + 10 + KW.size + 2 := by omega
        go_quiet (fail)
        clear b0 b1 b2 n1 n2 n3 n4 n5
        obtain ⟨Y, hY⟩ : ∃ z, x ++ ⟨#[116, 97, 114, 103, 101, 116, 32]⟩ ++ NM ++ ⟨#[32, 123, 10, 32, 32, 107, 105, 110, 100, 32]⟩ ++ KW ++ ⟨#[59, 10]⟩ = z := ⟨_, rfl⟩
        have sY : Y.size = x.size + 7 + NM.size + 10 + KW.size + 2 := by rw [← hY]; simp only [ByteArray.size_append]; rfl
        have HY := Lib.hid hY
        go_upto_region 17 with fail
        rw [hY]
        clear hY
        obtain ⟨w6, hw6⟩ : ∃ z, w5.drewN nq = z := ⟨_, rfl⟩
        have H6 := Lib.hid (show Full w6 u 50 [.string NM, .int .i64 kd, .int .i64 (ln : Int), .slice A0 m0 d0, .slice A1 m1 d1, .slice A2 m2 d2, .slice A3 m3 d3, .int .i64 co, .int .i64 re] ∧ Below w2.heap.size w2 w6 from by rw [← hw6]; exact ⟨H5.out.1, Below.drewN_ H5.out.2 _⟩)
        rw [hw6]
        clear hw6 H5
        have HK := Lib.hid (fun (W : World) (h : Below w6.heap.size w6 W) => (show W.cell? ⟨u, 3, none⟩ = some (.slice A0 m0 d0) ∧ W.cell? ⟨u, 4, none⟩ = some (.slice A1 m1 d1) ∧ W.cell? ⟨u, 5, none⟩ = some (.slice A2 m2 d2) ∧ W.cell? ⟨u, 6, none⟩ = some (.slice A3 m3 d3) from ⟨(H6.out.1.on h).cell 3, (H6.out.1.on h).cell 4, (H6.out.1.on h).cell 5, (H6.out.1.on h).cell 6⟩))
        have HZ0 := Lib.hid (show Below w6.heap.size w6 w6.drew from (Below.refl _ w6).drew)
        have HTH := Lib.hid (fun (W : World) (h : Below w6.heap.size w6 W) => (Below.then_ H6.out.2 h : Below w2.heap.size w2 W))
        have k9 := HK.out w6.drew HZ0.out
        have n1 : ¬ 9223372036854775807 < Y.size + S0.size := by omega
        have n2 : ¬ 9223372036854775807 < Y.size + S0.size + S1.size := by omega
        have n3 : ¬ 9223372036854775807 < Y.size + S0.size + S1.size + S2.size := by omega
        have n4 : ¬ 9223372036854775807 < Y.size + S0.size + S1.size + S2.size + S3.size := by omega
        have HSY := Lib.hid sY
        clear sY
        go_region_held3 (fun w' => w'.cell? ⟨u, 3, none⟩ = some (.slice A0 m0 d0) ∧ w'.cell? ⟨u, 4, none⟩ = some (.slice A1 m1 d1) ∧ w'.cell? ⟨u, 5, none⟩ = some (.slice A2 m2 d2) ∧ w'.cell? ⟨u, 6, none⟩ = some (.slice A3 m3 d3))
          (first | (with_reducible exact k9) | (with_reducible exact k10) | (with_reducible exact k11) | (with_reducible exact k12) | (with_reducible exact k13) | (fail "keep"))
          (first
            | (go_at_call 31; ((with_reducible refine (C0.out _ (HTH.out _ HZ0.out)).mono ?_); rintro en wp ⟨rfl, hbx⟩; (have HZ1 := Lib.hid (Below.then_ HZ0.out hbx)); (have k10 := HK.out wp HZ1.out); clear hbx))
            | (go_at_call 31; ((with_reducible refine (C1.out _ (HTH.out _ HZ1.out)).mono ?_); rintro en wq ⟨rfl, hbx⟩; (have HZ2 := Lib.hid (Below.then_ HZ1.out hbx)); (have k11 := HK.out wq HZ2.out); clear hbx))
            | (go_at_call 31; ((with_reducible refine (C2.out _ (HTH.out _ HZ2.out)).mono ?_); rintro en ws ⟨rfl, hbx⟩; (have HZ3 := Lib.hid (Below.then_ HZ2.out hbx)); (have k12 := HK.out ws HZ3.out); clear hbx))
            | (go_at_call 31; ((with_reducible refine (C3.out _ (HTH.out _ HZ3.out)).mono ?_); rintro en wt ⟨rfl, hbx⟩; (have HZ4 := Lib.hid (Below.then_ HZ3.out hbx)); (have k13 := HK.out wt HZ4.out); clear hbx))
            | (fail "arm"))
        obtain ⟨Z, hZ⟩ : ∃ z, Y ++ S0 ++ S1 ++ S2 ++ S3 = z := ⟨_, rfl⟩
        have sZ : Z.size ≤ 5000000000000 + 1000 * 40000000000000 + 4 * 8589934200002 := by
         have := HSY.out
         rw [← hZ]
         simp only [ByteArray.size_append]
         omega
        have HZZ := Lib.hid hZ
        rw [hZ]
        have b7 : wt.cell? ⟨u, 7, none⟩ = some (.int .i64 co) := (H6.out.1.on HZ4.out).cell 7
        have b8 : wt.cell? ⟨u, 8, none⟩ = some (.int .i64 re) := (H6.out.1.on HZ4.out).cell 8
        clear hZ n1 n2 n3 n4 k9 k10 k11 k12 k13 C0 C1 C2 C3 HK HCE HTH s0 s1 s2 s3 hxs sN sK i0 i1 hkdn
        by_cases hc1 : co = 1
        · by_cases hr0 : re = 0
          · have qc : (co != 1) = false := by rw [hc1]; rfl
            have qr : (re != 0) = false := by rw [hr0]; rfl
            have n0 : ¬ 9223372036854775807 < Z.size + 2 := by omega
            have HCC := Lib.hid (And.intro hc1 hr0)
            clear hc1 hr0 sE1 sE2
            go_wp2_with (first
              | (fail "arm"))
            go_roundw
            case rel => exact ⟨k + 1, _, rfl, by go_num, by omega, Lib.hid (HEND.out _ (by rw [if_pos HCC.out.1, if_pos HCC.out.2, ← HZZ.out, ← HY.out]; simp [wTargetS, wKindS])), Lib.hid (Below.then_ H6.out.2 HZ4.out)⟩
            case measure => simp [intOf]; omega
          · have qc : (co != 1) = false := by rw [hc1]; rfl
            have qr : (re != 0) = true := by simpa using hr0
            have n0 : ¬ 9223372036854775807 < Z.size + 8 := by omega
            have n1 : ¬ 9223372036854775807 < Z.size + 8 + E2.size := by omega
            have n2 : ¬ 9223372036854775807 < Z.size + 8 + E2.size + 2 := by omega
            have n3 : ¬ 9223372036854775807 < Z.size + 8 + E2.size + 2 + 2 := by omega
            have HCC := Lib.hid (And.intro hc1 hr0)
            clear hc1 hr0 sE1 sE2
            go_wp2_with (first
              | (go_at_call 30; ((with_reducible refine (D2.out _).mono ?_); rintro en we ⟨rfl, hbd⟩; (have HB9 := Lib.hid (Below.then_ HZ4.out hbd)); clear hbd))
              | (fail "arm"))
            go_roundw
            case rel => exact ⟨k + 1, _, rfl, by go_num, by omega, Lib.hid (HEND.out _ (by rw [if_pos HCC.out.1, if_neg HCC.out.2, ← HZZ.out, ← HY.out]; simp [wTargetS, wKindS, wRetryS])), Lib.hid (Below.then_ H6.out.2 HB9.out)⟩
            case measure => simp [intOf]; omega
        · by_cases hr0 : re = 0
          · have qc : (co != 1) = true := by simpa using hc1
            have qr : (re != 0) = false := by rw [hr0]; rfl
            have n0 : ¬ 9223372036854775807 < Z.size + 7 := by omega
            have n1 : ¬ 9223372036854775807 < Z.size + 7 + E1.size := by omega
            have n2 : ¬ 9223372036854775807 < Z.size + 7 + E1.size + 2 := by omega
            have n3 : ¬ 9223372036854775807 < Z.size + 7 + E1.size + 2 + 2 := by omega
            have HCC := Lib.hid (And.intro hc1 hr0)
            clear hc1 hr0 sE1 sE2
            go_wp2_with (first
              | (go_at_call 30; ((with_reducible refine (D1.out _).mono ?_); rintro en wd ⟨rfl, hbd⟩; (have HB8 := Lib.hid (Below.then_ HZ4.out hbd)); (have b8 : wd.cell? ⟨u, 8, none⟩ = some (.int .i64 re) := (H6.out.1.on HB8.out).cell 8); clear hbd))
              | (fail "arm"))
            go_roundw
            case rel => exact ⟨k + 1, _, rfl, by go_num, by omega, Lib.hid (HEND.out _ (by rw [if_neg HCC.out.1, if_pos HCC.out.2, ← HZZ.out, ← HY.out]; simp [wTargetS, wKindS, wCostS])), Lib.hid (Below.then_ H6.out.2 HB8.out)⟩
            case measure => simp [intOf]; omega
          · have qc : (co != 1) = true := by simpa using hc1
            have qr : (re != 0) = true := by simpa using hr0
            have n0 : ¬ 9223372036854775807 < Z.size + 7 := by omega
            have n1 : ¬ 9223372036854775807 < Z.size + 7 + E1.size := by omega
            have n2 : ¬ 9223372036854775807 < Z.size + 7 + E1.size + 2 := by omega
            have n3 : ¬ 9223372036854775807 < Z.size + 7 + E1.size + 2 + 8 := by omega
            have n4 : ¬ 9223372036854775807 < Z.size + 7 + E1.size + 2 + 8 + E2.size := by omega
            have n5 : ¬ 9223372036854775807 < Z.size + 7 + E1.size + 2 + 8 + E2.size + 2 := by omega
            have n6 : ¬ 9223372036854775807 < Z.size + 7 + E1.size + 2 + 8 + E2.size + 2 + 2 := by omega
            have HCC := Lib.hid (And.intro hc1 hr0)
            clear hc1 hr0 sE1 sE2
            go_wp2_with (first
              | (go_at_call 30; ((with_reducible refine (D1.out _).mono ?_); rintro en wd ⟨rfl, hbd⟩; (have HB8 := Lib.hid (Below.then_ HZ4.out hbd)); (have b8 : wd.cell? ⟨u, 8, none⟩ = some (.int .i64 re) := (H6.out.1.on HB8.out).cell 8); clear hbd))
              | (go_at_call 30; ((with_reducible refine (D2.out _).mono ?_); rintro en we ⟨rfl, hbd⟩; (have HB9 := Lib.hid (Below.then_ HB8.out hbd)); clear hbd))
              | (fail "arm"))
            go_roundw
            case rel => exact ⟨k + 1, _, rfl, by go_num, by omega, Lib.hid (HEND.out _ (by rw [if_neg HCC.out.1, if_neg HCC.out.2, ← HZZ.out, ← HY.out]; simp [wTargetS, wKindS, wCostS, wRetryS])), Lib.hid (Below.then_ H6.out.2 HB9.out)⟩
            case measure => simp [intOf]; omega
      · have hd : decide ((k : Int) < (n : Int)) = false := by rw [decide_eq_false_iff_not]; omega
        have HE := Lib.hid (show x = str (fFile pl (tl.map Prod.fst)) ∧ Below w.heap.size w wr from by
         refine ⟨?_, Below.then_ H2.out.2.2.2.1 HBW.out⟩
         rw [HX.out, List.take_of_length_le (by have := H2.out.1.hn; omega), ← HXP.out.1]
         rfl)
        clear hxs
        go_wp2
        go_ret
        exact ⟨by rw [HE.out.1]; rfl, HE.out.2⟩
abbrev Ct := Int × List UInt8
def ctOf (t : RTok) : Ct := (t.kd, t.tx)
def spell (c : Ct) : List UInt8 := if c.1 = 3 then [34] ++ c.2 ++ [34] else c.2
def pcs (l : List RTok) : List (List UInt8) := (l.filter fun t => !(t.kd == 0)).map fun t => spell (ctOf t)
def gapsB : List (List UInt8) := [[32], [10], [32, 32, 9], [13, 10], [32, 35, 32, 110, 111, 116, 101, 59, 32, 34, 32, 125, 10], [10, 10]]
def gapOf (g : List Int) (i : Nat) : List UInt8 := gapsB.getD (modN (if 0 < g.length then g.getD (i % g.length) 0 else 0) 6) []
def joinG (g : List Int) : Nat → List (List UInt8) → List UInt8
 | _, [] => []
 | i, x :: t => x ++ gapOf g i ++ joinG g (i + 1) t
theorem gap_mem (g : List Int) (i : Nat) : gapOf g i ∈ gapsB := getD_mem (modN_lt (m := 6) (by decide))
def pieceB (t : RTok) : List (List UInt8) := if t.kd = 0 then [] else [spell (ctOf t)]
theorem pcs_cons (t : RTok) (l : List RTok) : pcs (t :: l) = pieceB t ++ pcs l := by
 unfold pcs pieceB
 by_cases h : t.kd = 0
 · rw [List.filter_cons_of_neg (by simp [h]), if_pos h]; rfl
 · rw [List.filter_cons_of_pos (by simp [h]), if_neg h]; rfl
theorem pcs_len : ∀ l : List RTok, (pcs l).length ≤ l.length
 | [] => Nat.le_refl _
 | t :: l => by
   have := pcs_len l
   rw [pcs_cons, List.length_append, List.length_cons]
   unfold pieceB
   split <;> simp <;> omega
theorem toks_sub : ∀ (f : Nat) (s : List UInt8) (n : Nat), s.length < f → ∀ t ∈ rToks s n, t.tx.length ≤ s.length ∧ ∀ b ∈ t.tx, b ∈ s
 | 0, _, _, h, _, _ => absurd h (Nat.not_lt_zero _)
 | f + 1, s, n, h, t, ht => by
   have hs : ∀ (b : Bool) (u : List UInt8) (m : Nat), ∀ x ∈ (skip b u m).1, x ∈ u := by
     intro b u
     induction u generalizing b with
     | nil => intro m x hx; cases b <;> simp [skip] at hx
     | cons c u ih =>
       intro m x hx
       cases b with
       | true =>
         rw [skip] at hx
         split at hx
         · exact List.mem_cons_of_mem _ (ih _ _ x hx)
         · exact List.mem_cons_of_mem _ (ih _ _ x hx)
       | false =>
         rw [skip] at hx
         split at hx
         · exact List.mem_cons_of_mem _ (ih _ _ x hx)
         · split at hx
           · exact List.mem_cons_of_mem _ (ih _ _ x hx)
           · split at hx
             · exact List.mem_cons_of_mem _ (ih _ _ x hx)
             · exact hx
   have hc : ∀ u : Tok, (convT u).tx.length ≤ u.txt.length ∧ ∀ b ∈ (convT u).tx, b ∈ u.txt := fun u => by
     show (if u.cls = 4 then (u.txt.drop 1).take (u.txt.length - 2) else u.txt).length ≤ _ ∧ ∀ b ∈ (if u.cls = 4 then (u.txt.drop 1).take (u.txt.length - 2) else u.txt), _
     split
     · refine ⟨?_, fun b hb => List.mem_of_mem_drop (List.mem_of_mem_take hb)⟩
       rw [List.length_take, List.length_drop]
       omega
     · exact ⟨Nat.le_refl _, fun b hb => hb⟩
   have h1 : (next s n).1.txt.length ≤ s.length ∧ ∀ b ∈ (next s n).1.txt, b ∈ s := by
     show ((skip false s n).1.take (first (skip false s n).1).2).length ≤ _ ∧ ∀ b ∈ (skip false s n).1.take (first (skip false s n).1).2, _
     have := (skip_len false s n).1
     refine ⟨by rw [List.length_take]; omega, fun b hb => hs _ _ _ b (List.mem_of_mem_take hb)⟩
   have h2 : ∀ b ∈ (next s n).2.1, b ∈ s := fun b hb => hs _ _ _ b (List.mem_of_mem_drop (l := (skip false s n).1) hb)
   unfold rToks at ht
   rw [toks_eq] at ht
   split at ht
   · rw [List.map_singleton, List.mem_singleton] at ht
     rw [ht]
     exact ⟨Nat.le_trans (hc _).1 h1.1, fun b hb => h1.2 b ((hc _).2 b hb)⟩
   · rename_i hcl
     rw [List.map_cons, List.mem_cons] at ht
     rcases ht with ht | ht
     · rw [ht]
       exact ⟨Nat.le_trans (hc _).1 h1.1, fun b hb => h1.2 b ((hc _).2 b hb)⟩
     · have hl := next_len s n (by omega)
       obtain ⟨a, b⟩ := toks_sub f _ _ (by omega) t ht
       exact ⟨by omega, fun x hx => h2 x (b x hx)⟩
theorem pcs_sub {s : List UInt8} (ha : Asc s) : ∀ p ∈ pcs (rToks s 1), p.length ≤ s.length + 2 ∧ Asc p := by
 intro p hp
 unfold pcs at hp
 obtain ⟨t, ht, rfl⟩ := List.mem_map.1 hp
 obtain ⟨a, b⟩ := toks_sub _ s 1 (Nat.lt_succ_self _) t (List.mem_filter.1 ht).1
 unfold spell ctOf
 dsimp only
 split
 · refine ⟨by simp; omega, fun x hx => ?_⟩
   simp only [List.cons_append, List.nil_append, List.mem_cons, List.mem_append, List.not_mem_nil, or_false] at hx
   rcases hx with rfl | hx | rfl
   · decide
   · exact ha x (b x hx)
   · decide
 · exact ⟨by omega, fun x hx => ha x (b x hx)⟩
set_option maxHeartbeats 16000000 in
theorem pieces_any (s : ByteArray) (hs : s.size ≤ 1000000000) (w : World) : Calls Tryz.prog 18 #[.string s] w (fun en w' => ∃ A c, en = .returned (.slice A (pcs (rToks s.data.toList 1)).length c) ∧
   w'.ownsRow w.heap.size 9 1 (.slice A (pcs (rToks s.data.toList 1)).length c) (pcs (rToks s.data.toList 1)).length (txC (pcs (rToks s.data.toList 1))) ∧ Below w.heap.size w w') := by
 obtain ⟨ii0, hi, hz0, hz1, hz2⟩ := info_parts info9
 have hsl := data_len s
 have TK := tokens_any s (by omega) w
 unfold TokensOut at TK
 have hL1 := (rToks_len s.data.toList 1).2
 have hsub := toks_sub _ s.data.toList 1 (Nat.lt_succ_self _)
 obtain ⟨L, hL⟩ : ∃ z, rToks s.data.toList 1 = z := ⟨_, rfl⟩
 rw [hL] at TK hL1 hsub
 rw [hL]
 obtain ⟨R, hR⟩ : ∃ z, pcs L = z := ⟨_, rfl⟩
 rw [hR]
 obtain ⟨n, hn⟩ : ∃ z, L.length = z := ⟨_, rfl⟩
 rw [hn] at TK hL1
 have TK := Lib.hid TK
 have HL := Lib.hid (And.intro hn (And.intro hR hsub))
 have hn9 : n ≤ 1000000001 := by omega
 clear hL hn hR hsub hL1
 go_enter Tryz.func18, Tryz.ntmps18
 go_upto_region 4 with (first
   | (go_at_call 34; ((with_reducible refine TK.out.mono ?_); rintro en w1 ⟨A, c, rfl, hO, hb⟩; (have H1 := Lib.hid (And.intro hO hb)); clear hO hb))
   | (fail "arm"))
 have HT1 := Lib.hid (fun (W : World) (h : Below w1.heap.size w1 W) => (own_keep H1.out.1 h))
 have hcap := (Row.own H1.out.1).2.1
 go_loopw [4, 5] (fun v4 v5 wr => ∃ (A' : Option Addr) (m c' k : Nat) (acc : List (List UInt8)), v4 = .slice A' m c' ∧ v5 = .int .i64 (k : Int) ∧ k ≤ n ∧ m ≤ k ∧ Hid (m = acc.length) ∧ Hid (wr.ownsRow w1.heap.size 9 1 (.slice A' m c') m (txC acc)) ∧ Hid (acc ++ pcs (L.drop k) = R) ∧ Hid (Below w1.heap.size w1 wr)) (fun _ v5 _ => n - (intOf v5).toNat)
 case atStart => exact ⟨none, 0, 0, 0, [], rfl, rfl, Nat.zero_le _, Nat.zero_le _, Lib.hid rfl, Lib.hid ⟨rfl, .inl ⟨rfl, rfl⟩⟩, Lib.hid HL.out.2.1, Lib.hid (Below.refl _ w1)⟩
 case round =>
   obtain ⟨A', m, c', k, acc, rfl, rfl, hk, hmk, HM, HOW, HT, HB⟩ := hrel
   have k0 : (0 : Int) ≤ (k : Int) := Int.natCast_nonneg _
   by_cases hlt : k < n
   · have k1 : (k : Int) < (n : Int) := by omega
     have hd : decide ((k : Int) < (n : Int)) = true := by rw [decide_eq_true_eq]; exact k1
     obtain ⟨hn, hR, hsub⟩ := HL.out
     have hkl : k < L.length := by omega
     have hTr := HT1.out wr HB.out
     have hr : Row wr wr.heap.size 3 A n c (rtsC L) := Row.own hTr
     have e := fun j hj => flat_at rtC 3 (fun i => rfl) L k j hkl hj
     obtain ⟨ad, rfl, _, y0⟩ := Row.cell_at hr (e 0 (by decide))
     obtain ⟨_, e1, _, y1⟩ := Row.cell_at hr (e 1 (by decide))
     injection e1 with e1
     subst e1
     rw [add_off _ _ _ (by decide)] at y1
     have t0 : wr.cell? (ad.add (k * 3)) = some (.int .i64 (L[k]).kd) := y0
     have t1 : wr.cell? ⟨(ad.add (k * 3)).block, (ad.add (k * 3)).off + 1, none⟩ = some (.string (str (L[k]).tx)) := y1
     clear y0 y1
     have hdr : L.drop k = L[k] :: L.drop (k + 1) := List.drop_eq_getElem_cons hkl
     have hT := HT.out
     rw [hdr, pcs_cons] at hT
     have hsz := (hsub L[k] (List.getElem_mem hkl)).1
     obtain ⟨tk, htk⟩ : ∃ z, L[k] = z := ⟨_, rfl⟩
     rw [htk] at t0 t1 hT hsz
     obtain ⟨kd, hkd⟩ : ∃ z, tk.kd = z := ⟨_, rfl⟩
     obtain ⟨X, hX⟩ : ∃ z, str tk.tx = z := ⟨_, rfl⟩
     rw [hkd] at t0
     rw [hX] at t1
     have hXs : X.size ≤ 1000000000 := by rw [← hX, str_size]; omega
     have HGROW := Lib.hid (fun (w9 : World) (S : ByteArray) (p : List UInt8) (v' : Value) (w8 : World) (hb8 : Below wr.heap.size wr w8) (hp : str p = S) (ho : w9.ownsRow w1.heap.size 9 1 v' (m + 1) (txC acc ++ [.string S])) (hg : w8.grownBy w9 (Value.slice A' m c').ownBlock) => (show ∃ A9 c9, v' = .slice A9 (m + 1) c9 ∧ Hid (m + 1 = (acc ++ [p]).length) ∧ Hid (w9.ownsRow w1.heap.size 9 1 (.slice A9 (m + 1) c9) (m + 1) (txC (acc ++ [p]))) ∧ Hid (Below w1.heap.size w1 w9) from by
       obtain ⟨A9, c9, rfl⟩ := own_form ho
       refine ⟨A9, c9, rfl, Lib.hid (by rw [List.length_append, ← HM.out]; rfl), Lib.hid ?_, Lib.hid ((Below.then_ HB.out hb8).grown hg (by have := HB.out.size; have := hb8.size; omega) (row_ge HOW.out))⟩
       have : txC (acc ++ [p]) = txC acc ++ [.string S] := by unfold txC; rw [List.map_append, ← hp]; rfl
       rw [this]
       exact ho))
     by_cases h3 : kd = 3
     · have q3 : (kd == 3) = true := by rw [h3]; rfl
       have n1 : ¬ 9223372036854775807 < 1 + X.size := by omega
       have n2 : ¬ 9223372036854775807 < 1 + X.size + 1 := by omega
       have HP := Lib.hid (show pieceB tk = [[34] ++ tk.tx ++ [34]] ∧ str ([34] ++ tk.tx ++ [34]) = ⟨#[34]⟩ ++ X ++ ⟨#[34]⟩ from by
         unfold pieceB spell ctOf
         rw [hkd, if_neg (by rw [h3]; decide)]
         dsimp only
         rw [if_pos h3, ← hX]
         refine ⟨rfl, (str_of ?_).symm⟩
         simp [str])
       have HT2 := Lib.hid (show (acc ++ [[34] ++ tk.tx ++ [34]]) ++ pcs (L.drop (k + 1)) = R from by
         rw [HP.out.1] at hT
         rw [List.append_assoc]
         exact hT)
       have HCN := Lib.hid (show ∀ j u, [Value.string (⟨#[34]⟩ ++ X ++ ⟨#[34]⟩)][j]? = some u → (wr.alloc (.cells #[.string (⟨#[34]⟩ ++ X ++ ⟨#[34]⟩)] 9)).cell? ((⟨wr.heap.size, 0, none⟩ : Addr).add j) = some u from fun j u hj => by
         obtain ⟨ad, e, _, hc⟩ := ((Full.new wr 9 [.string (⟨#[34]⟩ ++ X ++ ⟨#[34]⟩)]).row 1 1 rfl 1 (Nat.le_refl _)).2.2.2 j u hj
         injection e with e
         subst e
         exact hc)
       clear hn hR hsub hdr hT hsz htk hkd hX hr hTr e hkl
       go_wp2_with (first
         | (at_builtin; go_loud (refine wpList_append_own _ rfl _ _ 34 rfl w1.heap.size 9 ii0 (.string ⟨#[]⟩) 1 16 Tryz.underlying34 hi hz0 hz1 hz2 rfl (by decide) (.slice A' m c') m (txC acc) rfl (HOW.out.alloc _) ⟨wr.heap.size, 0, none⟩ 1 1 [.string (⟨#[34]⟩ ++ X ++ ⟨#[34]⟩)] rfl rfl HCN.out (by intro u hu; simp at hu; subst hu; rfl) (by unfold maxLen; omega) (by omega) (by have := HB.out.size; simp; omega) ?_; intro v' w9 hown9 hgrow9 _; (obtain ⟨A9, c9, rfl, G1, G2, G3⟩ := HGROW.out w9 (⟨#[34]⟩ ++ X ++ ⟨#[34]⟩) _ v' _ ((Below.refl _ wr).alloc (Nat.le_refl _) _) HP.out.2 hown9 hgrow9); clear hown9 hgrow9))
         | (fail "arm"))
       go_roundw
       case rel => exact ⟨A9, m + 1, c9, k + 1, _, rfl, by go_num, by omega, by omega, G1, G2, HT2, G3⟩
       case measure => simp [intOf]; omega
     · have q3 : (kd == 3) = false := by rw [beq_eq_false_iff_ne]; exact h3
       by_cases h0 : kd = 0
       · have q0 : (kd != 0) = false := by rw [h0]; rfl
         have HT2 := Lib.hid (show acc ++ pcs (L.drop (k + 1)) = R from by
           have e : pieceB tk = [] := by unfold pieceB; rw [hkd, if_pos h0]
           rw [e] at hT
           exact hT)
         clear hn hR hsub hdr hT hsz htk hkd hX hr hTr e hkl h0 h3 HGROW
         go_wp2
         go_roundw
         case rel => exact ⟨A', m, c', k + 1, acc, rfl, by go_num, by omega, by omega, HM, HOW, HT2, HB⟩
         case measure => simp [intOf]; omega
       · have q0 : (kd != 0) = true := by simpa using h0
         have HP := Lib.hid (show pieceB tk = [tk.tx] ∧ str (tk.tx) = X from by
           unfold pieceB spell ctOf
           rw [hkd, if_neg h0]
           dsimp only
           rw [if_neg h3]
           exact ⟨rfl, hX⟩)
         have HT2 := Lib.hid (show (acc ++ [tk.tx]) ++ pcs (L.drop (k + 1)) = R from by
           rw [HP.out.1] at hT
           rw [List.append_assoc]
           exact hT)
         have HCN := Lib.hid (show ∀ j u, [Value.string (X)][j]? = some u → (wr.alloc (.cells #[.string (X)] 9)).cell? ((⟨wr.heap.size, 0, none⟩ : Addr).add j) = some u from fun j u hj => by
           obtain ⟨ad, e, _, hc⟩ := ((Full.new wr 9 [.string (X)]).row 1 1 rfl 1 (Nat.le_refl _)).2.2.2 j u hj
           injection e with e
           subst e
           exact hc)
         clear hn hR hsub hdr hT hsz htk hkd hX hr hTr e hkl
         go_wp2_with (first
           | (at_builtin; go_loud (refine wpList_append_own _ rfl _ _ 34 rfl w1.heap.size 9 ii0 (.string ⟨#[]⟩) 1 16 Tryz.underlying34 hi hz0 hz1 hz2 rfl (by decide) (.slice A' m c') m (txC acc) rfl (HOW.out.alloc _) ⟨wr.heap.size, 0, none⟩ 1 1 [.string (X)] rfl rfl HCN.out (by intro u hu; simp at hu; subst hu; rfl) (by unfold maxLen; omega) (by omega) (by have := HB.out.size; simp; omega) ?_; intro v' w9 hown9 hgrow9 _; (obtain ⟨A9, c9, rfl, G1, G2, G3⟩ := HGROW.out w9 (X) _ v' _ ((Below.refl _ wr).alloc (Nat.le_refl _) _) HP.out.2 hown9 hgrow9); clear hown9 hgrow9))
           | (fail "arm"))
         go_roundw
         case rel => exact ⟨A9, m + 1, c9, k + 1, _, rfl, by go_num, by omega, by omega, G1, G2, HT2, G3⟩
         case measure => simp [intOf]; omega
   · have hd : decide ((k : Int) < (n : Int)) = false := by rw [decide_eq_false_iff_not]; omega
     have HE := Lib.hid (show acc = R ∧ m = R.length ∧ wr.ownsRow w.heap.size 9 1 (.slice A' m c') m (txC acc) ∧ Below w.heap.size w wr from by
       have h := HT.out
       rw [List.drop_of_length_le (by have := HL.out.1; omega)] at h
       have e : acc = R := by rw [← h]; unfold pcs; simp
       refine ⟨e, by rw [HM.out, e], own_base HOW.out H1.out.2.size, Below.then_ H1.out.2 HB.out⟩)
     go_wp2
     go_ret
     obtain ⟨h1, h2, h3, h4⟩ := HE.out
     subst h1
     rw [h2] at h3 ⊢
     exact ⟨A', c', rfl, h3, h4⟩
theorem gap_len {s : List UInt8} (h : s ∈ gapsB) : s.length ≤ 13 ∧ Asc s := by
 unfold gapsB at h
 simp only [List.mem_cons, List.not_mem_nil, or_false] at h
 rcases h with rfl | rfl | rfl | rfl | rfl | rfl <;> exact ⟨by decide, by unfold Asc; decide⟩
theorem joinG_len (g : List Int) (b : Nat) : ∀ (L : List (List UInt8)) (i : Nat), (∀ p ∈ L, p.length ≤ b) → (joinG g i L).length ≤ L.length * (b + 13)
 | [], _, _ => by simp [joinG]
 | x :: t, i, h => by
   have ih := joinG_len g b t (i + 1) (fun y hy => h y (List.mem_cons_of_mem _ hy))
   have h1 := h x (by simp)
   have h2 := (gap_len (gap_mem g i)).1
   show (x ++ gapOf g i ++ joinG g (i + 1) t).length ≤ _
   rw [List.length_append, List.length_append, List.length_cons, Nat.add_mul]
   omega
theorem joinG_asc (g : List Int) : ∀ (L : List (List UInt8)) (i : Nat), (∀ p ∈ L, Asc p) → Asc (joinG g i L)
 | [], _, _ => fun b hb => by simp [joinG] at hb
 | x :: t, i, h => by
   have ih := joinG_asc g t (i + 1) (fun y hy => h y (List.mem_cons_of_mem _ hy))
   intro b hb
   rcases List.mem_append.1 hb with hb | hb
   · rcases List.mem_append.1 hb with hb | hb
     · exact h x (by simp) b hb
     · exact (gap_len (gap_mem g i)).2 b hb
   · exact ih b hb
set_option maxHeartbeats 16000000 in
theorem joined20_any {w : World} {B Bg c cg : Nat} {A Ag : Option Addr} {L : List (List UInt8)} {g : List Int} (hS : Row w B 1 A L.length c (txC L)) (hB : B ≤ w.heap.size) (hG : Row w Bg 1 Ag g.length cg (intsC g)) (hBg : Bg ≤ w.heap.size) (hg : g.length ≤ 9223372036854775807)
   (hl : L.length ≤ 1000000) (hx : ∀ p ∈ L, p.length ≤ 1000000000) : Calls Tryz.prog 20 #[.slice A L.length c, .slice Ag g.length cg] w (StrB w (str (joinG g 0 L))) := by
 unfold StrB
 have hcap := hS.2.1
 have hcg := hG.2.1
 obtain ⟨R, hR⟩ : ∃ z, joinG g 0 L = z := ⟨_, rfl⟩
 rw [hR]
 obtain ⟨n, hn⟩ : ∃ z, L.length = z := ⟨_, rfl⟩
 obtain ⟨m, hm⟩ : ∃ z, g.length = z := ⟨_, rfl⟩
 rw [hn] at hcap hl ⊢
 rw [hm] at hcg hg ⊢
 have HA := Lib.hid (And.intro hS (And.intro hB (And.intro hG (And.intro hBg (And.intro hn (And.intro hm hx))))))
 have HR := Lib.hid hR
 have HW := Lib.hid (show Full (w.alloc (.cells #[.string ⟨#[32]⟩, .string ⟨#[10]⟩, .string ⟨#[32, 32, 9]⟩, .string ⟨#[13, 10]⟩, .string ⟨#[32, 35, 32, 110, 111, 116, 101, 59, 32, 34, 32, 125, 10]⟩, .string ⟨#[10, 10]⟩] 9)) w.heap.size 9 (txC gapsB) ∧ Below w.heap.size w (w.alloc (.cells #[.string ⟨#[32]⟩, .string ⟨#[10]⟩, .string ⟨#[32, 32, 9]⟩, .string ⟨#[13, 10]⟩, .string ⟨#[32, 35, 32, 110, 111, 116, 101, 59, 32, 34, 32, 125, 10]⟩, .string ⟨#[10, 10]⟩] 9)) from ⟨Full.new w 9 _, (Below.refl _ w).alloc (Nat.le_refl _) _⟩)
 clear hS hB hG hBg hn hm hx hR
 go_enter Tryz.func20, Tryz.ntmps20
 go_upto_region 4 with fail
 obtain ⟨w1, hw1⟩ : ∃ z, w.alloc (.cells #[.string ⟨#[32]⟩, .string ⟨#[10]⟩, .string ⟨#[32, 32, 9]⟩, .string ⟨#[13, 10]⟩, .string ⟨#[32, 35, 32, 110, 111, 116, 101, 59, 32, 34, 32, 125, 10]⟩, .string ⟨#[10, 10]⟩] 9) = z := ⟨_, rfl⟩
 obtain ⟨q, hq⟩ : ∃ z, w.heap.size = z := ⟨_, rfl⟩
 rw [hw1] at HW ⊢
 rw [hq]
 have HQ := Lib.hid hq
 clear hw1 hq
 go_loopw [5, 7] (fun v5 v7 wr => ∃ (k : Nat) (x : ByteArray), v5 = .string x ∧ v7 = .int .i64 (k : Int) ∧ k ≤ n ∧ x.size ≤ k * 1000000013 ∧ Hid (x.data.toList ++ joinG g k (L.drop k) = R) ∧ Hid (Below w1.heap.size w1 wr)) (fun _ v7 _ => n - (intOf v7).toNat)
 case atStart => exact ⟨0, ⟨#[]⟩, rfl, rfl, Nat.zero_le _, Nat.zero_le _, HR, Lib.hid (Below.refl _ w1)⟩
 case round =>
   obtain ⟨k, x, rfl, rfl, hk, hxs, HX, HBW⟩ := hrel
   have k0 : (0 : Int) ≤ (k : Int) := Int.natCast_nonneg _
   by_cases hlt : k < n
   · have k1 : (k : Int) < (n : Int) := by omega
     have hd : decide ((k : Int) < (n : Int)) = true := by rw [decide_eq_true_eq]; exact k1
     obtain ⟨hS, hB, hG, hBg, hn, hm, hx⟩ := HA.out
     have hkl : k < L.length := by omega
     have hBW : Below w.heap.size w wr := Below.then_ HW.out.2 HBW.out
     have eS : (txC L)[k]? = some (.string (str L[k])) := by unfold txC; rw [List.getElem?_map, List.getElem?_eq_getElem hkl]; rfl
     obtain ⟨ad, rfl, _, a0⟩ := Row.cell_at (Row.below hS hBW hB) eS
     have hxk := hx L[k] (List.getElem_mem hkl)
     have hdr : L.drop k = L[k] :: L.drop (k + 1) := List.drop_eq_getElem_cons hkl
     have hX := HX.out
     rw [hdr] at hX
     obtain ⟨P, hP⟩ : ∃ z, str L[k] = z := ⟨_, rfl⟩
     have hPs : P.size ≤ 1000000000 := by rw [← hP, str_size]; exact hxk
     have hPd : P.data.toList = L[k] := by rw [← hP, str_data]
     rw [hP] at a0
     obtain ⟨v, hv⟩ : ∃ z, (if 0 < g.length then g.getD (k % g.length) 0 else 0) = z := ⟨_, rfl⟩
     have hj := modN_lt (x := v) (m := 6) (by decide)
     have MA := fun W => ((mod_any v 6 W (by decide) (by decide)).mono fun _ _ h => ⟨h.1, h.2.symm⟩ : Calls Tryz.prog 19 #[.int .i64 v, .int .i64 6] W fun e w' => e = .returned (.int .i64 (modN v 6 : Int)) ∧ w' = W)
     have hgap : gapOf g k = gapsB.getD (modN v 6) [] := by unfold gapOf; rw [hv]
     obtain ⟨j, hjj⟩ : ∃ z, modN v 6 = z := ⟨_, rfl⟩
     rw [hjj] at hj MA hgap
     have b0 : wr.cell? ⟨q, j, none⟩ = some (.string (str (gapsB.getD j []))) := txC_at (by rw [← HQ.out]; exact HW.out.1.on HBW.out) hj
     obtain ⟨S, hSS⟩ : ∃ z, str (gapsB.getD j []) = z := ⟨_, rfl⟩
     rw [hSS] at b0
     have hSs : S.size ≤ 13 := by rw [← hSS, str_size]; exact (gap_len (getD_mem (show j < gapsB.length from hj))).1
     have hSd : S.data.toList = gapOf g k := by rw [← hSS, str_data, hgap]
     have j0 : (0 : Int) ≤ (j : Int) := Int.natCast_nonneg _
     have j1 : (j : Int) < 6 := by have : j < 6 := hj; omega
     have n1 : ¬ 9223372036854775807 < x.size + P.size := by omega
     have n2 : ¬ 9223372036854775807 < x.size + P.size + S.size := by omega
     have hxs2 : x.size + P.size + S.size ≤ (k + 1) * 1000000013 := by omega
     have HXE := Lib.hid (show (x ++ P ++ S).data.toList ++ joinG g (k + 1) (L.drop (k + 1)) = R from by
       rw [← hX]
       show _ = x.data.toList ++ (L[k] ++ gapOf g k ++ joinG g (k + 1) (L.drop (k + 1)))
       rw [← hPd, ← hSd]
       simp)
     have HSZ := Lib.hid (show (x ++ P ++ S).size ≤ (k + 1) * 1000000013 from by simp only [ByteArray.size_append]; exact hxs2)
     have MA := Lib.hid (show ∀ W, Calls Tryz.prog 19 #[.int .i64 v, .int .i64 6] W fun e w' => e = .returned (.int .i64 (j : Int)) ∧ w' = W from MA)
     by_cases hm0 : m = 0
     · have d0 : decide ((0 : Int) < (m : Int)) = false := by rw [decide_eq_false_iff_not]; omega
       have dN : decide (0 < m) = false := by rw [decide_eq_false_iff_not]; omega
       have v0 : v = 0 := by rw [← hv, if_neg (by omega)]
       rw [v0] at MA
       clear hS hB hG hBg hn hm hx hkl hBW eS hxk hdr hX hP hPd hv hgap hjj hSS hSd hj hxs2 hPs hSs hxs hm0 v0
       go_upto_region 9 with fail
       go_quiet (first | (go_at_call 19; with_reducible exact Calls.quiet_of_same (MA.out _)) | (fail "arm"))
       go_wp2
       go_roundw
       case rel => exact ⟨k + 1, _, rfl, by go_num, by omega, HSZ.out, HXE, Lib.hid (Below.drewN_ HBW.out _)⟩
       case measure => simp [intOf]; omega
     · have hmp : 0 < g.length := by omega
       have d0 : decide ((0 : Int) < (m : Int)) = true := by rw [decide_eq_true_eq]; omega
       have g0 : ¬ (m : Int) = 0 := by omega
       have g1 : ((m : Int) == 0) = false := by rw [beq_eq_false_iff_ne]; exact g0
       obtain ⟨i, hi⟩ : ∃ z, k % m = z := ⟨_, rfl⟩
       have him : i < m := by rw [← hi]; exact Nat.mod_lt _ (by omega)
       have f1 : ((k : Int)).tmod (m : Int) = (i : Int) := by rw [← Int.ofNat_tmod, hi]
       have eG : (intsC g)[i]? = some (.int .i64 v) := by
         rw [if_pos hmp, hm, hi, List.getD_eq_getElem?_getD, List.getElem?_eq_getElem (by omega)] at hv
         unfold intsC
         rw [List.getElem?_map, List.getElem?_eq_getElem (by omega)]
         show some (Value.int .i64 g[i]) = _
         rw [← hv]
         rfl
       obtain ⟨ag, rfl, _, c0⟩ := Row.cell_at (Row.below hG hBW hBg) eG
       have i0 : (0 : Int) ≤ (i : Int) := Int.natCast_nonneg _
       have i1 : (i : Int) < (m : Int) := by omega
       have dN : decide (0 < m) = true := by rw [decide_eq_true_eq]; omega
       clear hS hB hG hBg hn hm hx hkl hBW eS hxk hdr hX hP hPd hv hgap hjj hSS hSd hj hmp hi him eG hxs2 hPs hSs hxs hm0
       go_upto_region 9 with fail
       go_quiet (first | (go_at_call 19; with_reducible exact Calls.quiet_of_same (MA.out _)) | (fail "arm"))
       go_wp2
       go_roundw
       case rel => exact ⟨k + 1, _, rfl, by go_num, by omega, HSZ.out, HXE, Lib.hid (Below.drewN_ HBW.out _)⟩
       case measure => simp [intOf]; omega
   · have hd : decide ((k : Int) < (n : Int)) = false := by rw [decide_eq_false_iff_not]; omega
     have HE := Lib.hid (show x = str R ∧ Below w.heap.size w wr from by
       refine ⟨str_of ?_, Below.then_ HW.out.2 HBW.out⟩
       have h := HX.out
       rw [List.drop_of_length_le (by have := HA.out.2.2.2.2.1; omega)] at h
       simpa [joinG] using h)
     go_wp2
     go_ret
     exact ⟨by rw [HE.out.1]; rfl, HE.out.2⟩
theorem ascApp {a b : List UInt8} (h1 : Asc a) (h2 : Asc b) : Asc (a ++ b) := fun x hx => (List.mem_append.mp hx).elim (h1 x) (h2 x)
theorem ascOf {l : List UInt8} (h : l.all (fun b => decide (b.toNat < 128)) = true) : Asc l := fun b hb => of_decide_eq_true (List.all_eq_true.mp h b hb)
def Sml (x : Itm) : Prop := (Asc x.tx ∧ x.tx.length ≤ 20) ∧ Asc x.pl ∧ x.pl.length ≤ 20
theorem fSrc_asc {x : Itm} (h : Sml x) : Asc (fSrc x) := by
 unfold fSrc
 split
 · exact ascApp (ascApp (ascOf (by decide)) (ascApp (ascApp (ascOf (by decide)) h.1.1) (ascOf (by decide)))) (ascOf (by decide))
 · exact ascApp (ascApp (ascOf (by decide)) h.1.1) (ascOf (by decide))
theorem rPre_asc {word : List UInt8} (hw : Asc word) (p : Option (List UInt8)) {x : Itm} (h : Sml x) : Asc (rPre word p x) := by
 unfold rPre
 split
 · exact ascOf (by decide)
 · refine ascApp ?_ (ascApp (ascApp (ascApp (ascOf (by decide)) hw) (ascOf (by decide))) ?_)
   · split <;> exact ascOf (by decide)
   · split
     · exact ascOf (by decide)
     · exact ascApp h.2.1 (ascOf (by decide))
theorem rGo_sml {word : List UInt8} (hw : Asc word) : ∀ (l : List Itm) (p : Option (List UInt8)), (∀ x ∈ l, Sml x) → Asc (rGo word p l) ∧ (rGo word p l).length ≤ l.length * (54 + word.length)
 | [], _, _ => ⟨(fun b hb => by simp [rGo] at hb), by simp [rGo]⟩
 | x :: t, p, h => by
   obtain ⟨i1, i2⟩ := rGo_sml hw t (some x.pl) (fun y hy => h y (List.mem_cons_of_mem _ hy))
   have hx := h x (by simp)
   have h1 := fSrc_len x
   have h2 := rPre_len word p x
   have h3 := hx.1.2
   have h4 := hx.2.2
   refine ⟨ascApp (ascApp (rPre_asc hw p hx) (fSrc_asc hx)) i1, ?_⟩
   show (rPre word p x ++ fSrc x ++ rGo word (some x.pl) t).length ≤ _
   rw [List.length_append, List.length_append, List.length_cons, Nat.add_mul]
   omega
theorem fItems_sml {word : List UInt8} (hw : Asc word) (h10 : word.length ≤ 10) {l : List Itm} (hl : l.length ≤ 3) (h : ∀ x ∈ l, Sml x) : Asc (fItems word l) ∧ (fItems word l).length ≤ 194 := by
 rw [← rAttr_eq]
 unfold rAttr
 split
 · exact ⟨ascOf (by decide), by simp⟩
 · obtain ⟨a, b⟩ := rGo_sml hw l none h
   refine ⟨ascApp a (ascOf (by decide)), ?_⟩
   have h2 : l.length * (54 + word.length) ≤ 3 * 64 := Nat.mul_le_mul hl (by omega)
   simp
   omega
theorem itoa_asc {n : Int} (h0 : 0 ≤ n) (h : n ≤ 1000000) : Asc (itoaB n) := by
 have e := digL_itoa 7 n.toNat (by omega)
 have e2 : ∀ (f m : Nat), Asc (digL f m) := by
   intro f
   induction f with
   | zero =>
     intro m b hb
     rw [digL, List.mem_singleton] at hb
     rw [hb, UInt8.toNat_ofNat']
     omega
   | succ f ih =>
     intro m b hb
     rw [digL] at hb
     split at hb
     · rw [List.mem_singleton] at hb
       rw [hb, UInt8.toNat_ofNat']
       omega
     · rcases List.mem_append.1 hb with hb | hb
       · exact ih _ b hb
       · rw [List.mem_singleton] at hb
         rw [hb, UInt8.toNat_ofNat']
         omega
 unfold itoaB
 rw [show n = ((n.toNat : Nat) : Int) by omega, ← e]
 exact e2 _ _
theorem mItm_sml {tx : List (List UInt8)} {lim glb : Bool} {x : Itm} (h : MItm tx lim glb x) (ht : ∀ t ∈ tx, t.all (fun b => decide (b.toNat < 128)) = true ∧ t.length ≤ 20) : Sml x := by
 refine ⟨⟨ascOf (ht _ h.tx).1, (ht _ h.tx).2⟩, ?_⟩
 rcases h.pl with e | ⟨_, e⟩
 · rw [e]; exact ⟨ascOf (by decide), by decide⟩
 · have : ∀ t ∈ mAll.take 3, t.all (fun b => decide (b.toNat < 128)) = true ∧ t.length ≤ 20 := by decide
   exact ⟨ascOf (this _ e).1, (this _ e).2⟩
theorem mTgt_sml {i : Nat} {T : Tgt} (h : MTgt i T) (hi : i < 8) : Asc (fTarget T) ∧ (fTarget T).length ≤ 900 ∧ SrTgt T := by
 have s0 := fun x hx => mItm_sml (h.srcs x hx) (by decide)
 have s1 := fun x hx => mItm_sml (h.deps x hx) (by decide)
 have s2 := fun x hx => mItm_sml (h.outs x hx) (by decide)
 have s3 := fun x hx => mItm_sml (h.viss x hx) (by decide)
 obtain ⟨a0, b0⟩ := fItems_sml (word := wSrcs) (ascOf (by decide)) (by decide) (h.len 0) s0
 obtain ⟨a1, b1⟩ := fItems_sml (word := wDeps) (ascOf (by decide)) (by decide) (h.len 1) s1
 obtain ⟨a2, b2⟩ := fItems_sml (word := wOut) (ascOf (by decide)) (by decide) (h.len 2) s2
 obtain ⟨a3, b3⟩ := fItems_sml (word := wVis) (ascOf (by decide)) (by decide) (h.len 3) s3
 have hn : ∀ t ∈ mNames, t.all (fun b => decide (b.toNat < 128)) = true ∧ t.length ≤ 20 := by decide
 have hnm := hn _ (getD_mem (d := []) (show i < mNames.length from hi))
 rw [← h.name] at hnm
 have hc := h.cost
 have hr := h.retry
 have hk : Asc (kw T.kind.toNat) ∧ (kw T.kind.toNat).length ≤ 4 := by
   have := h.kind
   obtain e | e | e | e : T.kind = 1 ∨ T.kind = 2 ∨ T.kind = 3 ∨ T.kind = 4 := by omega
   all_goals (rw [e]; exact ⟨ascOf (by decide), by decide⟩)
 have ac := itoa_asc (n := T.cost) (by omega) (by omega)
 have ar := itoa_asc (n := T.retry) (by omega) (by omega)
 have lc := itoa_len (n := T.cost) (by omega) (by omega)
 have lr := itoa_len (n := T.retry) (by omega) (by omega)
 have c2 : Asc (if T.cost = 1 then [] else fThree wCostS (itoaB T.cost) [59]) ∧ (if T.cost = 1 then [] else fThree wCostS (itoaB T.cost) [59]).length ≤ 20 := by
   split
   · exact ⟨ascOf (by decide), by simp⟩
   · refine ⟨ascApp (ascApp (ascApp (ascOf (by decide)) ac) (ascOf (by decide))) (ascOf (by decide)), ?_⟩
     simp [fThree, wCostS]
     omega
 have q2 : Asc (if T.retry = 0 then [] else fThree wRetryS (itoaB T.retry) [59]) ∧ (if T.retry = 0 then [] else fThree wRetryS (itoaB T.retry) [59]).length ≤ 20 := by
   split
   · exact ⟨ascOf (by decide), by simp⟩
   · refine ⟨ascApp (ascApp (ascApp (ascOf (by decide)) ar) (ascOf (by decide))) (ascOf (by decide)), ?_⟩
     simp [fThree, wRetryS]
     omega
 refine ⟨?_, ?_, ?_⟩
 · unfold fTarget
   exact ascApp (ascApp (ascApp (ascApp (ascOf (by decide)) (ascOf hnm.1)) (ascOf (by decide))) (ascOf (by decide))) (ascApp (ascApp (ascApp (ascApp (ascOf (by decide)) hk.1) (ascOf (by decide))) (ascOf (by decide))) (ascApp a0 (ascApp a1 (ascApp a2 (ascApp a3 (ascApp c2.1 (ascApp q2.1 (ascOf (by decide)))))))))
 · have l1 := hnm.2
   have l2 := hk.2
   have l3 := c2.2
   have l4 := q2.2
   unfold fTarget
   simp only [List.length_append]
   simp only [fThree, wTargetS, wOpen, wKindS, List.length_append, List.length_cons, List.length_nil] at l3 l4 ⊢
   omega
 · refine ⟨by have := hnm.2; omega, fun j hj => ⟨by have := h.len j; omega, ?_⟩, h.kind, by omega, by omega⟩
   have sm : ∀ x, Sml x → TxOk x := fun x hx => ⟨by have := hx.1.2; omega, by have := hx.2.2; omega⟩
   obtain rfl | rfl | rfl | rfl : j = 0 ∨ j = 1 ∨ j = 2 ∨ j = 3 := by omega
   · exact fun x hx => sm x (s0 x hx)
   · exact fun x hx => sm x (s1 x hx)
   · exact fun x hx => sm x (s2 x hx)
   · exact fun x hx => sm x (s3 x hx)
theorem flat_sml : ∀ (L : List Tgt), (∀ T ∈ L, Asc (fTarget T) ∧ (fTarget T).length ≤ 900) → Asc (L.flatMap fTarget) ∧ (L.flatMap fTarget).length ≤ L.length * 900
 | [], _ => ⟨ascOf (by decide), by simp⟩
 | T :: L, h => by
   obtain ⟨a, b⟩ := h T (by simp)
   obtain ⟨c, d⟩ := flat_sml L (fun x hx => h x (List.mem_cons_of_mem _ hx))
   refine ⟨ascApp a c, ?_⟩
   rw [List.flatMap_cons, List.length_append, List.length_cons, Nat.add_mul]
   omega
theorem mMade_sml (l : List Int) : Asc (fFile (mMade l).1 (mMade l).2) ∧ (fFile (mMade l).1 (mMade l).2).length ≤ 5000 ∧ SrB (mMade l).1 (mMade l).2 := by
 unfold mMade
 dsimp only
 obtain ⟨n, hn⟩ : ∃ z, mNext l 0 4 = z := ⟨_, rfl⟩
 have h4 := mNext_lt (l := l) (a := 0) (n := 4) (by decide)
 rw [hn] at h4 ⊢
 obtain ⟨m, hm⟩ : ∃ z, mNext l n.2 6 = z := ⟨_, rfl⟩
 have h6 := mNext_lt (l := l) (a := n.2) (n := 6) (by decide)
 rw [hm] at h6 ⊢
 obtain ⟨n1, n2⟩ := n
 obtain ⟨m1, m2⟩ := m
 dsimp only at h4 h6 ⊢
 have hT : ∀ T ∈ mTs l m1 0 m2, Asc (fTarget T) ∧ (fTarget T).length ≤ 900 ∧ SrTgt T := by
   intro T hT
   obtain ⟨j, hj, rfl⟩ := List.getElem_of_mem hT
   have hj' := hj
   rw [mTs_len] at hj'
   have := mTs_ok l m1 0 m2 j hj
   rw [Nat.zero_add] at this
   exact mTgt_sml this (by omega)
 obtain ⟨f1, f2⟩ := flat_sml (mTs l m1 0 m2) (fun T h => ⟨(hT T h).1, (hT T h).2.1⟩)
 rw [mTs_len] at f2
 have hp : ∀ k, k < 4 → (fPlats (mPlats k)).all (fun b => decide (b.toNat < 128)) = true ∧ (fPlats (mPlats k)).length ≤ 100 ∧ (mPlats k).length ≤ 4 ∧ ∀ x ∈ mPlats k, x.tx.length ≤ 20 ∧ x.pl.length ≤ 20 := by
   intro k hk
   obtain rfl | rfl | rfl | rfl : k = 0 ∨ k = 1 ∨ k = 2 ∨ k = 3 := by omega
   all_goals decide
 obtain ⟨p1, p2, p3, p4⟩ := hp n1 h4
 refine ⟨ascApp (ascOf p1) f1, ?_, ?_⟩
 · unfold fFile
   rw [List.length_append]
   omega
 · exact ⟨by omega, fun x hx => ⟨by have := (p4 x hx).1; omega, by have := (p4 x hx).2; omega⟩, by rw [mTs_len]; omega, fun T h => (hT T h).2.2⟩
end Go.Proofs.YtcjoiiaankngjaaGreatDoor
namespace Go.Proofs.YtcjoiiaankngjaaGreatDoor
set_option maxRecDepth 100000
open Go.RowKit Go.ChangeShapes Go.WideShapes
theorem list_of {α : Type} : ∀ (n : Nat) (P : Nat → α → Prop), (∀ i, i < n → ∃ y, P i y) → ∃ l : List α, l.length = n ∧ ∀ i (h : i < l.length), P i l[i]
 | 0, P, _ => ⟨[], rfl, fun i h => by simp at h⟩
 | n + 1, P, h => by
   obtain ⟨l, hl, hP⟩ := list_of n P fun i hi => h i (by omega)
   obtain ⟨y, hy⟩ := h n (by omega)
   refine ⟨l ++ [y], by simp [hl], fun i hi => ?_⟩
   by_cases hin : i < l.length
   · rw [List.getElem_append_left hin]; exact hP i hin
   · have : i = l.length := by simp at hi; omega
     subst this
     simp
     rw [hl]; exact hy
theorem addr_block (a : Addr) (i : Nat) : (a.add i).block = a.block := by unfold Addr.add; split <;> rfl
section
variable {H : Type} {enc : TypeId × Value → H} {W : World} {b2 : Nat} {sp : Nat → Bool} {held : Bool}
theorem cells1 {a : Addr} {cs : List Value} (h : W.cells? b2 a 1 = some cs) : ∃ c0, cs = [c0] ∧ W.cell? a = some c0 := by
 obtain ⟨_, hl, hc⟩ := World.cells?_some h
 match cs, hl with
 | [c0], _ =>
   have h0 := hc 0 (by omega)
   rw [show a.add 0 = a by simp [Addr.add]] at h0
   exact ⟨c0, rfl, by simpa using h0⟩
theorem open_ints {b1 : Nat} {v : Value} {d : DataW H} {p : List MemPlace} (h : DataW.Trod enc Tryz.prog W b2 sp held 22 v d p) (hval : Value.okWide Tryz.prog W .any b1 22 v) :
   ∃ (A : Option Addr) (zs : List Int) (c : Nat), v = .slice A zs.length c ∧ Row W W.heap.size 1 A zs.length c (intsC zs) ∧ zs.length ≤ 9223372036854775807 := by
 obtain ⟨fuel, hf⟩ := h
 have hv : v.cells.toList = [v] := by
   obtain ⟨a, n, c, rfl⟩ := okWide_slice Tryz.underlying22 hval
   rfl
 rw [hv] at hf
 have hc3 : Tryz.prog.cellsOf 3 = 1 := by kernel_rfl
 rcases Go.Deep.open_slice Tryz.underlying22 hf with ⟨h0, _⟩ | ⟨a, len, cap, m, fu, D, Pl, h0, hb, hlc, hcm, hm, _, hel⟩
 · obtain rfl : v = .slice none 0 0 := by simpa using h0
   exact ⟨none, [], 0, rfl, Row.empty _ _ _, Nat.zero_le _⟩
 · obtain rfl : v = .slice (some a) len cap := by simpa using h0
   have hlm : len ≤ m := by rw [hm]; split <;> omega
   obtain ⟨zs, hzl, hz⟩ := list_of len (fun i (z : Int) => W.cell? (a.add i) = some (.int .i64 z)) fun i hi => by
     obtain ⟨cs', hcs, ht⟩ := hel i (by omega)
     rw [hc3, Nat.mul_one] at hcs
     obtain ⟨c0, rfl, k0⟩ := cells1 hcs
     obtain ⟨x0, e0, _⟩ := DataW.trod_int (k := .i64) Tryz.underlying3 ht
     simp only [List.cons.injEq, and_true] at e0
     subst e0
     exact ⟨x0, k0⟩
   have hmx : len ≤ 9223372036854775807 := by unfold maxLen at *; omega
   refine ⟨some a, zs, cap, by rw [hzl], ⟨by unfold intsC; rw [List.length_map, Nat.mul_one], by omega, fun e => (by cases e), fun j u hj => ?_⟩, by omega⟩
   unfold intsC at hj
   rw [List.getElem?_map] at hj
   obtain ⟨z, hz1, rfl⟩ := Option.map_eq_some_iff.1 hj
   obtain ⟨hjl, rfl⟩ := List.getElem?_eq_some_iff.1 hz1
   have hc := hz j hjl
   refine ⟨a, rfl, ?_, hc⟩
   have := World.block_lt_of_cell? W _ hc
   rwa [addr_block] at this
end
end Go.Proofs.YtcjoiiaankngjaaGreatDoor
namespace Go.Proofs.YtcjoiiaankngjaaGreatDoor
set_option maxRecDepth 100000
open Go.RowKit
def Mt (l : List RTok) (k : Nat) (ts : List Ct) : Prop := ∃ rest, (l.drop k).map ctOf = ts ++ rest
theorem Mt.cons {l : List RTok} {k : Nat} {c : Ct} {ts : List Ct} (h : Mt l k (c :: ts)) : k < l.length ∧ (hdT l k).kd = c.1 ∧ (hdT l k).tx = c.2 ∧ Mt l (k + 1) ts := by
 obtain ⟨r, h⟩ := h
 have hk : k < l.length := by
   rcases Nat.lt_or_ge k l.length with q | q
   · exact q
   · rw [List.drop_eq_nil_of_le q] at h
     simp at h
 rw [List.drop_eq_getElem_cons hk] at h
 simp only [List.map_cons, List.cons_append, List.cons.injEq] at h
 refine ⟨hk, ?_, ?_, r, h.2⟩
 · rw [hdT_eq hk, ← h.1]; rfl
 · rw [hdT_eq hk, ← h.1]; rfl
theorem Mt.app {l : List RTok} {k : Nat} {a b : List Ct} (h : Mt l k (a ++ b)) : Mt l k a ∧ Mt l (k + a.length) b := by
 obtain ⟨r, h⟩ := h
 refine ⟨⟨b ++ r, by rw [h, List.append_assoc]⟩, r, ?_⟩
 have e := congrArg (List.drop a.length) h
 rw [← List.map_drop, List.drop_drop, List.append_assoc, List.drop_left] at e
 rw [e]
theorem Mt.nil {l : List RTok} {k : Nat} : Mt l k [] := ⟨_, rfl⟩
abbrev At (k : Nat) : RSt := ⟨k, 0, 0⟩
section
variable {l : List RTok} {k : Nat} {kd : Int} {tx : List UInt8} {ts : List Ct}
theorem take_hit (h : Mt l k ((kd, tx) :: ts)) : rTake kd tx l (At k) = (true, At (k + 1)) := by
 obtain ⟨_, h1, h2, _⟩ := h.cons
 unfold rTake rIs
 rw [if_pos (by simp [h1, h2])]
theorem take_miss (h : (hdT l k).kd ≠ kd ∨ (hdT l k).tx ≠ tx) : rTake kd tx l (At k) = (false, At k) := by
 unfold rTake rIs
 rw [if_neg (by
   simp only [Bool.and_eq_true, beq_iff_eq]
   rintro ⟨⟨_, a⟩, b⟩
   exact h.elim (fun n => n a) (fun n => n b))]
theorem need_hit (h : Mt l k ((kd, tx) :: ts)) : rNeed kd tx l (At k) = At (k + 1) := by
 unfold rNeed
 rw [take_hit h]
 rfl
theorem any_hit (h : Mt l k ((kd, tx) :: ts)) : rAny kd l (At k) = (hdT l k, At (k + 1)) := by
 obtain ⟨_, h1, _, _⟩ := h.cons
 unfold rAny
 rw [if_pos ⟨rfl, h1⟩]
end
def tItm (x : Itm) : List Ct := if x.gl then [(1, globS), (4, [40]), (3, x.tx), (4, [41])] else [(3, x.tx)]
def plI (x : Itm) : Itm := ⟨x.tx, x.gl, x.pl, 0⟩
theorem one_hit {l : List RTok} {k : Nat} {gl : Bool} {x : Itm} {ts : List Ct} (pl : List UInt8) (hg : x.gl = true → gl = true) (h : Mt l k (tItm x ++ ts)) :
   ∃ i, rOne gl pl l (At k) = (i, At (k + (tItm x).length)) ∧ plI i = ⟨x.tx, x.gl, pl, 0⟩ := by
 unfold tItm at h ⊢
 unfold rOne rGate rSh
 cases hx : x.gl with
 | true =>
   rw [hx, if_pos rfl] at h
   rw [if_pos rfl, if_pos (hg hx)]
   simp only [List.cons_append, List.nil_append] at h
   have h1 := h.cons.2.2.2
   have h2 := h1.cons.2.2.2
   have h3 := h2.cons.2.2.2
   rw [take_hit h]
   dsimp only
   rw [if_pos rfl, if_pos rfl, need_hit h1, any_hit h2, need_hit h3]
   refine ⟨_, rfl, ?_⟩
   unfold plI
   rw [h2.cons.2.2.1]
 | false =>
   rw [hx, if_neg Bool.false_ne_true] at h
   rw [if_neg Bool.false_ne_true]
   simp only [List.cons_append, List.nil_append] at h
   have e : (if gl = true then rTake 1 globS l (At k) else (false, At k)) = (false, At k) := by
     split
     · exact take_miss (.inl (by rw [h.cons.2.1]; show (3 : Int) ≠ 1; decide))
     · rfl
   rw [e]
   dsimp only
   rw [if_neg Bool.false_ne_true, if_neg Bool.false_ne_true, any_hit h]
   refine ⟨_, rfl, ?_⟩
   unfold plI
   rw [h.cons.2.2.1]
def tMore (t : List Itm) : List Ct := t.flatMap fun y => (4, [44]) :: tItm y
theorem tItm_pos (x : Itm) : 1 ≤ (tItm x).length := by unfold tItm; split <;> simp
theorem tMore_len (t : List Itm) : t.length ≤ (tMore t).length := by
 induction t with
 | nil => simp [tMore]
 | cons y s ih =>
   have e : tMore (y :: s) = ((4, [44]) :: tItm y) ++ tMore s := rfl
   rw [e, List.length_append, List.length_cons, List.length_cons]
   have := tItm_pos y
   omega
theorem more_hit {l : List RTok} {gl : Bool} {pl : List UInt8} {ts : List Ct} : ∀ (t : List Itm) (x : Itm) (k f : Nat) (a : List Itm), (∀ y ∈ x :: t, (y.gl = true → gl = true) ∧ y.pl = pl) → t.length < f → Mt l k (tItm x ++ (tMore t ++ (4, [59]) :: ts)) →
   ∃ g, rMore gl pl l f a (At k) = (a ++ g, At (k + (tItm x).length + (tMore t).length)) ∧ g.map plI = (x :: t).map plI
 | t, x, k, 0, a, _, hf, _ => absurd hf (Nat.not_lt_zero _)
 | [], x, k, f + 1, a, hy, _, h => by
   obtain ⟨i, hi, hp⟩ := one_hit pl (hy x (by simp)).1 h
   have h2 := h.app.2
   rw [rMore, if_pos rfl, hi]
   dsimp only
   rw [take_miss (.inr (by
     have := h2.cons.2.2.1
     rw [this]
     decide)), if_neg (by simp)]
   refine ⟨[i], rfl, ?_⟩
   rw [List.map_cons, List.map_cons, hp]
   have e2 := (hy x (by simp)).2
   simp [plI, e2]
 | y :: s, x, k, f + 1, a, hy, hf, h => by
   obtain ⟨i, hi, hp⟩ := one_hit pl (hy x (by simp)).1 h
   have h2 := h.app.2
   have e : tMore (y :: s) = ((4, [44]) :: tItm y) ++ tMore s := rfl
   rw [e] at h2 ⊢
   simp only [List.cons_append, List.append_assoc] at h2
   rw [rMore, if_pos rfl, hi]
   dsimp only
   rw [take_hit h2, if_pos rfl]
   obtain ⟨g, hg, hg2⟩ := more_hit s y (k + (tItm x).length + 1) f (a ++ [i]) (fun z hz => hy z (by simp at hz ⊢; exact .inr hz)) (by simp at hf; omega) h2.cons.2.2.2
   refine ⟨i :: g, ?_, ?_⟩
   · rw [hg]
     simp only [List.append_assoc, List.cons_append, List.nil_append, List.length_cons, List.length_append]
     congr 2
     omega
   · have e2 := (hy x (by simp)).2
     rw [List.map_cons, hg2, hp, List.map_cons]
     simp [plI, e2]
def tGrp (x : Itm) (t : List Itm) : List Ct := (if x.pl = [] then [] else [(1, x.pl)]) ++ (tItm x ++ (tMore t ++ [(4, [59])]))
theorem items_hit {l : List RTok} {lim gl : Bool} {ts : List Ct} {t : List Itm} {x : Itm} {k : Nat} {a : List Itm} (hy : ∀ y ∈ x :: t, (y.gl = true → gl = true) ∧ y.pl = x.pl) (hl : x.pl ≠ [] → lim = true ∧ x.pl ≠ globS) (h : Mt l k (tGrp x t ++ ts)) :
   ∃ g, rItems lim gl l a (At k) = (a ++ g, At (k + (tGrp x t).length)) ∧ g.map plI = (x :: t).map plI := by
 have hlen : k + (tGrp x t).length ≤ l.length := by
   obtain ⟨r, h⟩ := h
   have e := congrArg List.length h
   simp only [List.length_map, List.length_drop, List.length_append] at e
   unfold tGrp at e ⊢
   simp only [List.length_append, List.length_cons] at e ⊢
   have := tItm_pos x
   omega
 have hm := tMore_len t
 unfold tGrp at h hlen ⊢
 have e : ∃ k2, rLim lim gl l (At k) = (x.pl, At k2) ∧ Mt l k2 (tItm x ++ (tMore t ++ (4, [59]) :: ts)) ∧ k2 = k + (if x.pl = [] then ([] : List Ct) else [(1, x.pl)]).length := by
   unfold rLim
   by_cases hp : x.pl = []
   · rw [if_pos hp] at h
     simp only [List.nil_append, List.append_assoc, List.cons_append] at h
     refine ⟨k, ?_, h, by rw [if_pos hp]; rfl⟩
     rw [if_neg, hp]
     rintro ⟨_, h1, h2⟩
     unfold tItm at h
     cases hx : x.gl with
     | true =>
       rw [hx, if_pos rfl] at h
       have := h.cons.2.2.1
       rcases h2 with h2 | h2
       · have := (hy x (by simp)).1 hx
         rw [h2] at this
         exact Bool.false_ne_true this
       · exact h2 this
     | false =>
       rw [hx, if_neg Bool.false_ne_true] at h
       have := h.cons.2.1
       rw [h1] at this
       exact absurd this (show ¬ (1 : Int) = 3 by decide)
   · rw [if_neg hp] at h
     simp only [List.nil_append, List.append_assoc, List.cons_append] at h
     obtain ⟨l1, l2⟩ := hl hp
     have e1 := h.cons.2.1
     have e2 := h.cons.2.2.1
     refine ⟨k + 1, ?_, h.cons.2.2.2, by rw [if_neg hp]; rfl⟩
     rw [if_pos ⟨l1, e1, .inr (by rw [e2]; exact l2)⟩]
     unfold rPlatform rPlGate rIs
     rw [if_neg (by
       simp only [Bool.and_eq_true, beq_iff_eq]
       rintro ⟨_, q⟩
       exact l2 (e2.symm.trans q)), any_hit h, e2]
 obtain ⟨k2, h1, h2, h3⟩ := e
 obtain ⟨g, hg, hg2⟩ := more_hit (gl := gl) (pl := x.pl) t x k2 (l.length + 1) a hy (by
   have hq : (if x.pl = [] then ([] : List Ct) else [(1, x.pl)]).length + ((tItm x).length + ((tMore t).length + 1)) ≤ l.length - k := by
     simp only [List.length_append, List.length_cons, List.length_nil] at hlen
     omega
   omega) h2
 refine ⟨g, ?_, hg2⟩
 unfold rItems
 rw [h1]
 dsimp only
 rw [hg]
 dsimp only
 have h4 := h2.app.2.app.2
 rw [need_hit h4, h3]
 simp only [List.length_append, List.length_cons, List.length_nil]
 congr 2
 omega
def tPre (word : List UInt8) (p : Option (List UInt8)) (x : Itm) : List Ct :=
 if p = some x.pl then [(4, [44])] else (if p = none then [] else [(4, [59])]) ++ ((1, word) :: (if x.pl = [] then [] else [(1, x.pl)]))
def tGo (word : List UInt8) : Option (List UInt8) → List Itm → List Ct
 | _, [] => []
 | p, x :: t => tPre word p x ++ (tItm x ++ tGo word (some x.pl) t)
def tAttr (word : List UInt8) (l : List Itm) : List Ct := if l = [] then [] else tGo word none l ++ [(4, [59])]
theorem tGo_run (word p : List UInt8) : ∀ t : List Itm, tGo word (some p) t ++ [(4, [59])] = tMore (t.take (lead (fun i => !(i.pl == p)) t)) ++ ((4, [59]) :: tAttr word (t.drop (lead (fun i => !(i.pl == p)) t)))
 | [] => by simp [tGo, lead, tAttr, tMore]
 | y :: s => by
   by_cases h : y.pl = p
   · have ih := tGo_run word p s
     have hl : lead (fun i : Itm => !(i.pl == p)) (y :: s) = lead (fun i : Itm => !(i.pl == p)) s + 1 := by rw [lead, if_neg (by simp [h])]
     rw [hl]
     show tPre word (some p) y ++ (tItm y ++ tGo word (some y.pl) s) ++ [(4, [59])] = _
     rw [h, List.append_assoc, List.append_assoc, ih]
     simp [tPre, h, tMore]
   · have hl : lead (fun i : Itm => !(i.pl == p)) (y :: s) = 0 := by rw [lead, if_pos (by simp [h])]
     rw [hl]
     have h' : ¬ p = y.pl := fun e => h e.symm
     simp [tGo, tPre, h', tMore, tAttr]
theorem lead_pl (p : List UInt8) : ∀ t : List Itm, ∀ y ∈ t.take (lead (fun i => !(i.pl == p)) t), y.pl = p
 | [], y, h => by simp at h
 | x :: s, y, h => by
   by_cases e : x.pl = p
   · rw [lead, if_neg (by simp [e]), List.take_succ_cons, List.mem_cons] at h
     rcases h with rfl | h
     · exact e
     · exact lead_pl p s y h
   · rw [lead, if_pos (by simp [e])] at h
     simp at h
theorem tAttr_run (word : List UInt8) (x : Itm) (t : List Itm) : tAttr word (x :: t) = (1, word) :: (tGrp x (t.take (lead (fun i => !(i.pl == x.pl)) t)) ++ tAttr word (t.drop (lead (fun i => !(i.pl == x.pl)) t))) := by
 show (if (x :: t) = [] then [] else tPre word none x ++ (tItm x ++ tGo word (some x.pl) t) ++ [(4, [59])]) = _
 rw [if_neg (by simp), List.append_assoc, List.append_assoc, tGo_run word x.pl t]
 unfold tGrp tPre
 rw [if_neg (by simp), if_pos rfl]
 simp
theorem loop_word {l : List RTok} {k f : Nat} {T : Tgt} {sn : Nat → Bool} {w : List UInt8} {ts : List Ct} (h : Mt l k ((1, w) :: ts)) :
   rLoop l (f + 1) ⟨At k, T, sn⟩ = rLoop l f (rSet l (hdT l k) (rSeen (hdT l k) ⟨At (k + 1), T, sn⟩)) := by
 rw [rLoop, if_pos rfl]
 dsimp only
 rw [take_miss (.inl (by rw [h.cons.2.1]; show (1 : Int) ≠ 4; decide)), if_neg Bool.false_ne_true]
 unfold rRound
 dsimp only
 rw [any_hit h]
structure Wrd (w : List UInt8) (j : Nat) (lim gl : Bool) : Prop where
 one : wOnce w = none
 set_ : ∀ (l : List RTok) (a : RTok) (y : RTg), a.tx = w → rSet l a y = ⟨(rItems lim gl l (y.T.rows j) y.x).2, { y.T with rows := upd y.T.rows j (rItems lim gl l (y.T.rows j) y.x).1 }, y.sn⟩
theorem wrd0 : Wrd wSrcs 0 true true := ⟨by decide, fun l a y h => by unfold rSet; rw [h, if_neg (by decide), if_neg (by decide), if_neg (by decide), if_pos rfl]⟩
theorem wrd1 : Wrd wDeps 1 true false := ⟨by decide, fun l a y h => by unfold rSet; rw [h, if_neg (by decide), if_neg (by decide), if_neg (by decide), if_neg (by decide), if_pos rfl]⟩
theorem wrd2 : Wrd wOut 2 false false := ⟨by decide, fun l a y h => by unfold rSet; rw [h, if_neg (by decide), if_neg (by decide), if_neg (by decide), if_neg (by decide), if_neg (by decide), if_pos rfl]⟩
theorem wrd3 : Wrd wVis 3 false false := ⟨by decide, fun l a y h => by unfold rSet; rw [h, if_neg (by decide), if_neg (by decide), if_neg (by decide), if_neg (by decide), if_neg (by decide), if_neg (by decide), if_pos rfl]⟩
theorem upd_upd {α : Type} (f : Nat → α) (i : Nat) (x y : α) : upd (upd f i x) i y = upd f i y := by
 funext j
 unfold upd
 by_cases h : j = i <;> simp [h]
theorem upd_self {α : Type} (f : Nat → α) (i : Nat) : upd f i (f i) = f := by
 funext j
 unfold upd
 split
 · rename_i h; rw [h]
 · rfl
theorem upd_at {α : Type} (f : Nat → α) (i : Nat) (x : α) : upd f i x i = x := by unfold upd; rw [if_pos rfl]
theorem rows_hit {l : List RTok} {w : List UInt8} {j : Nat} {lim gl : Bool} (W : Wrd w j lim gl) {sn : Nat → Bool} {ts : List Ct} : ∀ (n : Nat) (g : List Itm) (k : Nat) (T : Tgt), g.length ≤ n → (∀ y ∈ g, (y.gl = true → gl = true) ∧ (y.pl ≠ [] → lim = true ∧ y.pl ≠ globS)) → Mt l k (tAttr w g ++ ts) →
   ∃ r g', r ≤ (tAttr w g).length ∧ g'.map plI = g.map plI ∧ ∀ f, rLoop l (f + r) ⟨At k, T, sn⟩ = rLoop l f ⟨At (k + (tAttr w g).length), { T with rows := upd T.rows j (T.rows j ++ g') }, sn⟩
 | n, [], k, T, _, _, _ => ⟨0, [], Nat.le_refl _, rfl, fun f => by
   rw [List.append_nil, upd_self]
   rfl⟩
 | 0, x :: t, _, _, hn, _, _ => by simp at hn
 | n + 1, x :: t, k, T, hn, hy, h => by
   rw [tAttr_run] at h ⊢
   obtain ⟨t1, e1⟩ : ∃ z, t.take (lead (fun i => !(i.pl == x.pl)) t) = z := ⟨_, rfl⟩
   obtain ⟨t2, e2⟩ : ∃ z, t.drop (lead (fun i => !(i.pl == x.pl)) t) = z := ⟨_, rfl⟩
   have et : t = t1 ++ t2 := by rw [← e1, ← e2, List.take_append_drop]
   have ep : ∀ y ∈ t1, y.pl = x.pl := by rw [← e1]; exact lead_pl x.pl t
   rw [e1, e2] at h ⊢
   rw [List.cons_append, List.append_assoc] at h
   obtain ⟨g1, hg, hg1⟩ := items_hit (lim := lim) (gl := gl) (a := T.rows j) (fun y hyy => by
     rcases List.mem_cons.1 hyy with rfl | hyy
     · exact ⟨(hy y (by simp)).1, rfl⟩
     · exact ⟨(hy y (by rw [et]; simp [hyy])).1, ep y hyy⟩) (hy x (by simp)).2 h.cons.2.2.2
   obtain ⟨r, g2, hr, hg2, hf⟩ := rows_hit W (sn := sn) n t2 (k + 1 + (tGrp x t1).length) { T with rows := upd T.rows j (T.rows j ++ g1) } (by
     have := congrArg List.length et
     simp only [List.length_append, List.length_cons] at this hn
     omega) (fun y hyy => hy y (by rw [et]; simp [hyy])) h.cons.2.2.2.app.2
   refine ⟨r + 1, g1 ++ g2, ?_, ?_, fun f => ?_⟩
   · simp only [List.length_cons, List.length_append]
     unfold tGrp
     simp only [List.length_append, List.length_cons]
     omega
   · rw [List.map_append, hg1, hg2, et, ← List.map_append, List.cons_append]
   · rw [← Nat.add_assoc, loop_word h]
     have hs : rSeen (hdT l k) ⟨At (k + 1), T, sn⟩ = ⟨At (k + 1), T, sn⟩ := by
       unfold rSeen
       rw [h.cons.2.2.1, W.one]
     rw [hs, W.set_ l (hdT l k) _ h.cons.2.2.1]
     dsimp only
     rw [hg]
     dsimp only
     rw [hf f]
     dsimp only
     rw [upd_at, upd_upd, List.append_assoc]
     congr 3
     simp only [List.length_cons, List.length_append]
     omega
theorem rValF_snoc (c : UInt8) : ∀ (s : List UInt8) (a : Int), rValF a (s ++ [c]) = min (10 * rValF a s + ((c.toNat : Int) - 48)) 1000000
 | [], _ => rfl
 | _ :: s, _ => rValF_snoc c s _
theorem val_dec : ∀ (n : Nat), n ≤ 1000000 → rVal (Lib.decDigits n) = (n : Int) := by
 intro n
 induction n using Nat.strongRecOn with
 | _ n ih =>
   intro h
   rw [Lib.decDigits]
   split
   · rename_i h1
     show min (10 * 0 + (((UInt8.ofNat (48 + n)).toNat : Int) - 48)) 1000000 = _
     rw [UInt8.toNat_ofNat', show (48 + n) % 2 ^ 8 = 48 + n by omega]
     omega
   · rename_i h1
     have := ih (n / 10) (by omega) (by omega)
     unfold rVal at this ⊢
     rw [rValF_snoc, this, UInt8.toNat_ofNat', show (48 + n % 10) % 2 ^ 8 = 48 + n % 10 by omega]
     omega
theorem val_itoa {n : Int} (h0 : 0 ≤ n) (h : n ≤ 1000000) : rVal (itoaB n) = n := by
 unfold itoaB Lib.itoa
 rw [if_neg (by omega), val_dec _ (by omega)]
 omega
theorem number_hit {l : List RTok} {k : Nat} {low high n : Int} {ts : List Ct} (hl : low ≤ n) (hh : n ≤ high) {d : List UInt8} (hd : rVal d = n) (h : Mt l k ((2, d) :: (4, [59]) :: ts)) :
   ∃ ln, rNumber low high l (At k) = ((n, ln), At (k + 2)) := by
 unfold rNumber rNum1
 rw [any_hit h]
 dsimp only
 rw [h.cons.2.2.1, hd, if_neg (by omega), need_hit h.cons.2.2.2]
 exact ⟨_, rfl⟩
theorem kinds_hit {l : List RTok} {k : Nat} {K : Int} (h1 : 1 ≤ K) (h4 : K ≤ 4) {ts : List Ct} (h : Mt l k ((1, kw K.toNat) :: (4, [59]) :: ts)) : rKinds 4 l (At k) = (K, At (k + 2)) := by
 obtain rfl | rfl | rfl | rfl : K = 1 ∨ K = 2 ∨ K = 3 ∨ K = 4 := by omega
 all_goals (have e := h.cons.2.2.1)
 · have h' : Mt l k ((1, kw (4 - 3)) :: (4, [59]) :: ts) := h
   rw [rKinds, take_hit h']; dsimp only; rw [if_pos rfl, need_hit h.cons.2.2.2]; rfl
 · have h' : Mt l k ((1, kw (4 - 2)) :: (4, [59]) :: ts) := h
   rw [rKinds, take_miss (.inr (by rw [e]; decide)), if_neg Bool.false_ne_true]
   rw [rKinds, take_hit h']; dsimp only; rw [if_pos rfl, need_hit h.cons.2.2.2]; rfl
 · have h' : Mt l k ((1, kw (4 - 1)) :: (4, [59]) :: ts) := h
   rw [rKinds, take_miss (.inr (by rw [e]; decide)), if_neg Bool.false_ne_true]
   rw [rKinds, take_miss (.inr (by rw [e]; decide)), if_neg Bool.false_ne_true]
   rw [rKinds, take_hit h']; dsimp only; rw [if_pos rfl, need_hit h.cons.2.2.2]; rfl
 · have h' : Mt l k ((1, kw (4 - 0)) :: (4, [59]) :: ts) := h
   rw [rKinds, take_miss (.inr (by rw [e]; decide)), if_neg Bool.false_ne_true]
   rw [rKinds, take_miss (.inr (by rw [e]; decide)), if_neg Bool.false_ne_true]
   rw [rKinds, take_miss (.inr (by rw [e]; decide)), if_neg Bool.false_ne_true]
   rw [rKinds, take_hit h']; dsimp only; rw [if_pos rfl, need_hit h.cons.2.2.2]; rfl
section
variable {l : List RTok} {k : Nat} {T : Tgt} {sn : Nat → Bool} {ts : List Ct}
theorem kind_hit {K : Int} (h1 : 1 ≤ K) (h4 : K ≤ 4) (hs : sn 0 = false) (h : Mt l k ((1, wKind) :: (1, kw K.toNat) :: (4, [59]) :: ts)) (f : Nat) :
   rLoop l (f + 1) ⟨At k, T, sn⟩ = rLoop l f ⟨At (k + 3), { T with kind := K }, upd sn 0 true⟩ := by
 rw [loop_word h]
 unfold rSeen rSet
 rw [h.cons.2.2.1, show wOnce wKind = some 0 by decide]
 dsimp only
 rw [if_pos rfl, if_neg (show ¬ sn 0 = true by rw [hs]; decide), kinds_hit h1 h4 h.cons.2.2.2]
theorem cost_hit {n : Int} (h1 : 1 ≤ n) (h4 : n ≤ 1000) (hs : sn 1 = false) (h : Mt l k ((1, wCost) :: (2, itoaB n) :: (4, [59]) :: ts)) (f : Nat) :
   rLoop l (f + 1) ⟨At k, T, sn⟩ = rLoop l f ⟨At (k + 3), { T with cost := n }, upd sn 1 true⟩ := by
 rw [loop_word h]
 obtain ⟨ln, e⟩ := number_hit (low := 1) (high := 1000) h1 h4 (val_itoa (by omega) (by omega)) h.cons.2.2.2
 unfold rSeen rSet
 rw [h.cons.2.2.1, show wOnce wCost = some 1 by decide]
 dsimp only
 rw [if_neg (by decide), if_pos rfl, if_neg (show ¬ sn 1 = true by rw [hs]; decide), e]
theorem retry_hit {n : Int} (h1 : 0 ≤ n) (h4 : n ≤ 5) (hs : sn 2 = false) (h : Mt l k ((1, wRetry) :: (2, itoaB n) :: (4, [59]) :: ts)) :
   ∃ ln, ∀ (f : Nat), rLoop l (f + 1) ⟨At k, T, sn⟩ = rLoop l f ⟨At (k + 3), { T with retry := n, rl := ln }, upd sn 2 true⟩ := by
 obtain ⟨ln, e⟩ := number_hit (low := 0) (high := 5) h1 h4 (val_itoa (by omega) (by omega)) h.cons.2.2.2
 refine ⟨ln, fun f => ?_⟩
 rw [loop_word h]
 unfold rSeen rSet
 rw [h.cons.2.2.1, show wOnce wRetry = some 2 by decide]
 dsimp only
 rw [if_neg (by decide), if_neg (by decide), if_pos rfl, if_neg (show ¬ sn 2 = true by rw [hs]; decide), e]
end
def ctCost (T : Tgt) : List Ct := if T.cost = 1 then [] else [(1, wCost), (2, itoaB T.cost), (4, [59])]
def ctRetry (T : Tgt) : List Ct := if T.retry = 0 then [] else [(1, wRetry), (2, itoaB T.retry), (4, [59])]
def tTgt (T : Tgt) : List Ct := (1, wTarget) :: (1, T.name) :: (4, [123]) :: (1, wKind) :: (1, kw T.kind.toNat) :: (4, [59]) ::
 (tAttr wSrcs (T.rows 0) ++ (tAttr wDeps (T.rows 1) ++ (tAttr wOut (T.rows 2) ++ (tAttr wVis (T.rows 3) ++ (ctCost T ++ (ctRetry T ++ [(4, [125])]))))))
def plT (T : Tgt) : Tgt := ⟨T.name, T.kind, 0, fun i => if i < 4 then (T.rows i).map plI else [], T.cost, T.retry, 0, fun _ => false⟩
structure Fit (T : Tgt) : Prop where
 kind : 1 ≤ T.kind ∧ T.kind ≤ 4
 srcs : ∀ y ∈ T.rows 0, y.pl ≠ globS
 deps : ∀ y ∈ T.rows 1, y.gl = false ∧ y.pl ≠ globS
 outs : ∀ y ∈ T.rows 2, y.gl = false ∧ y.pl = []
 viss : ∀ y ∈ T.rows 3, y.gl = false ∧ y.pl = []
 cost : 1 ≤ T.cost ∧ T.cost ≤ 1000
 retry : 0 ≤ T.retry ∧ T.retry ≤ 5 ∧ (T.retry = 0 ∨ T.kind = 3)
section
variable {l : List RTok} {ts : List Ct}
theorem tcost_step {k : Nat} {T T0 : Tgt} {sn : Nat → Bool} (hF : Fit T) (h0 : T0.cost = 1) (hs : sn 1 = false) (h2 : sn 2 = false) (h : Mt l k (ctCost T ++ ts)) :
   ∃ r sn', r ≤ (ctCost T).length ∧ sn' 2 = false ∧ ∀ f, rLoop l (f + r) ⟨At k, T0, sn⟩ = rLoop l f ⟨At (k + (ctCost T).length), { T0 with cost := T.cost }, sn'⟩ := by
 unfold ctCost at h ⊢
 by_cases e : T.cost = 1
 · rw [if_pos e] at h ⊢
   refine ⟨0, sn, Nat.le_refl _, h2, fun f => ?_⟩
   rw [e, ← h0]
   rfl
 · rw [if_neg e] at h ⊢
   refine ⟨1, upd sn 1 true, by simp, ?_, fun f => cost_hit hF.cost.1 hF.cost.2 hs h f⟩
   unfold upd
   rw [if_neg (by decide), h2]
theorem tretry_step {k : Nat} {T T0 : Tgt} {sn : Nat → Bool} (hF : Fit T) (h0 : T0.retry = 0) (h2 : sn 2 = false) (h : Mt l k (ctRetry T ++ ts)) :
   ∃ r sn' ln, r ≤ (ctRetry T).length ∧ ∀ f, rLoop l (f + r) ⟨At k, T0, sn⟩ = rLoop l f ⟨At (k + (ctRetry T).length), { T0 with retry := T.retry, rl := ln }, sn'⟩ := by
 unfold ctRetry at h ⊢
 by_cases e : T.retry = 0
 · rw [if_pos e] at h ⊢
   refine ⟨0, sn, T0.rl, Nat.le_refl _, fun f => ?_⟩
   rw [e, ← h0]
   rfl
 · rw [if_neg e] at h ⊢
   obtain ⟨ln, hl⟩ := retry_hit (T := T0) hF.retry.1 hF.retry.2.1 h2 h
   exact ⟨1, upd sn 2 true, ln, by simp, hl⟩
theorem loop_end {k f : Nat} {T : Tgt} {sn : Nat → Bool} (h : Mt l k ((4, [125]) :: ts)) : rLoop l (f + 1) ⟨At k, T, sn⟩ = ⟨At (k + 1), T, sn⟩ := by
 rw [rLoop, if_pos rfl]
 dsimp only
 rw [take_hit h, if_pos rfl]
theorem tgt_hit {k line : Nat} {T : Tgt} {bf : List (List UInt8)} (hF : Fit T) (hb : T.name ∉ bf) (h : Mt l k (tTgt T ++ ts)) :
   ∃ T', rTgtF l line bf (At (k + 1)) = (T', At (k + (tTgt T).length)) ∧ plT T' = plT T ∧ T'.line = line := by
 have hlen : k + (tTgt T).length ≤ l.length := by
   obtain ⟨r, h⟩ := h
   have e := congrArg List.length h
   simp only [List.length_map, List.length_drop, List.length_append] at e
   have : 1 ≤ (tTgt T).length := by unfold tTgt; simp
   omega
 unfold tTgt at h hlen ⊢
 simp only [List.cons_append, List.append_assoc] at h
 have h1 := h.cons.2.2.2
 have h2 := h1.cons.2.2.2
 have h3 := h2.cons.2.2.2
 have h4 := h3.cons.2.2.2.cons.2.2.2.cons.2.2.2
 obtain ⟨kp, hkp⟩ : ∃ z, k + 1 + 1 + 1 + 1 + 1 + 1 = z := ⟨_, rfl⟩
 rw [hkp] at h4
 obtain ⟨r0, g0, s0, e0, f0⟩ := rows_hit wrd0 (sn := upd (fun _ => false) 0 true) _ (T.rows 0) kp { rT0 T.name line with kind := T.kind } (Nat.le_refl _) (fun y hy => ⟨fun _ => rfl, fun _ => ⟨rfl, hF.srcs y hy⟩⟩) h4
 have h5 := h4.app.2
 obtain ⟨r1, g1, s1, e1, f1⟩ := rows_hit wrd1 (sn := upd (fun _ => false) 0 true) _ (T.rows 1) _ { rT0 T.name line with kind := T.kind, rows := upd (rT0 T.name line).rows 0 ((rT0 T.name line).rows 0 ++ g0) } (Nat.le_refl _) (fun y hy => ⟨fun q => absurd q (by rw [(hF.deps y hy).1]; decide), fun _ => ⟨rfl, (hF.deps y hy).2⟩⟩) h5
 have h6 := h5.app.2
 obtain ⟨R1, hR1⟩ : ∃ z, upd (upd (rT0 T.name line).rows 0 ((rT0 T.name line).rows 0 ++ g0)) 1 (upd (rT0 T.name line).rows 0 ((rT0 T.name line).rows 0 ++ g0) 1 ++ g1) = z := ⟨_, rfl⟩
 obtain ⟨r2, g2, s2, e2, f2⟩ := rows_hit wrd2 (sn := upd (fun _ => false) 0 true) _ (T.rows 2) _ { rT0 T.name line with kind := T.kind, rows := R1 } (Nat.le_refl _) (fun y hy => ⟨fun q => absurd q (by rw [(hF.outs y hy).1]; decide), fun q => absurd (hF.outs y hy).2 q⟩) h6
 have h7 := h6.app.2
 obtain ⟨R2, hR2⟩ : ∃ z, upd R1 2 (R1 2 ++ g2) = z := ⟨_, rfl⟩
 obtain ⟨r3, g3, s3, e3, f3⟩ := rows_hit wrd3 (sn := upd (fun _ => false) 0 true) _ (T.rows 3) _ { rT0 T.name line with kind := T.kind, rows := R2 } (Nat.le_refl _) (fun y hy => ⟨fun q => absurd q (by rw [(hF.viss y hy).1]; decide), fun q => absurd (hF.viss y hy).2 q⟩) h7
 have h8 := h7.app.2
 obtain ⟨R3, hR3⟩ : ∃ z, upd R2 3 (R2 3 ++ g3) = z := ⟨_, rfl⟩
 obtain ⟨r4, sn4, s4, q4, f4⟩ := tcost_step (T0 := { rT0 T.name line with kind := T.kind, rows := R3 }) (sn := upd (fun _ => false) 0 true) hF rfl rfl rfl h8
 have h9 := h8.app.2
 obtain ⟨r5, sn5, ln, s5, f5⟩ := tretry_step (T0 := { rT0 T.name line with kind := T.kind, rows := R3, cost := T.cost }) (sn := sn4) hF rfl q4 h9
 have h10 := h9.app.2
 refine ⟨{ rT0 T.name line with kind := T.kind, rows := R3, cost := T.cost, retry := T.retry, rl := ln }, ?_, ?_, rfl⟩
 · have hname : (hdT l (k + 1)).tx = T.name := h1.cons.2.2.1
   have hdup : rDup bf (hdT l (k + 1)) (At (k + 2)) = At (k + 2) := by
     unfold rDup
     rw [if_neg]
     intro q
     simp only [List.any_eq_true, beq_iff_eq] at q
     obtain ⟨n, hn, e⟩ := q
     rw [hname] at e
     exact hb (e ▸ hn)
   have hbody : rBody l line bf (At (k + 1)) = ⟨At (k + (tTgt T).length), { rT0 T.name line with kind := T.kind, rows := R3, cost := T.cost, retry := T.retry, rl := ln }, sn5⟩ := by
     unfold rBody
     rw [any_hit h1, hname, hdup, need_hit h2]
     obtain ⟨fu, hfu⟩ : ∃ fu, l.length + 1 = fu + 1 + r5 + r4 + r3 + r2 + r1 + r0 + 1 := by
       simp only [List.length_cons, List.length_append, List.length_nil] at hlen
       exact ⟨l.length + 1 - (1 + r5 + r4 + r3 + r2 + r1 + r0 + 1), by omega⟩
     rw [hfu, kind_hit hF.kind.1 hF.kind.2 rfl h3, show k + 1 + 1 + 1 + 3 = kp by omega, f0, f1]
     dsimp only
     rw [hR1, f2]
     dsimp only
     rw [hR2, f3]
     dsimp only
     rw [hR3, f4, f5, loop_end h10]
     congr 2
     unfold tTgt
     simp only [List.length_cons, List.length_append, List.length_nil]
     omega
   unfold rTgtF
   rw [hbody]
   unfold rCheck
   dsimp only
   rw [if_neg (by have := hF.retry.2.2; omega)]
   unfold tTgt
   rfl
 · unfold plT
   dsimp only
   congr 1
   funext i
   split
   · rename_i hi
     obtain rfl | rfl | rfl | rfl : i = 0 ∨ i = 1 ∨ i = 2 ∨ i = 3 := by omega
     · rw [← e0, ← hR3, ← hR2, ← hR1]; simp [upd, rT0]
     · rw [← e1, ← hR3, ← hR2, ← hR1]; simp [upd, rT0]
     · rw [← e2, ← hR3, ← hR2, ← hR1]; simp [upd, rT0]
     · rw [← e3, ← hR3, ← hR2, ← hR1]; simp [upd, rT0]
   · rfl
def tPlMore (t : List Itm) : List Ct := t.flatMap fun y => [(4, [44]), (1, y.tx)]
def tPlats (pl : List Itm) : List Ct := match pl with
 | [] => []
 | x :: t => (1, wPlats) :: (1, x.tx) :: (tPlMore t ++ [(4, [59])])
theorem pls_hit : ∀ (t : List Itm) (x : Itm) (k f : Nat) (a : List Itm), t.length < f → (∀ y ∈ x :: t, y.gl = false ∧ y.pl = [] ∧ y.tx ≠ globS) → ((a ++ x :: t).map Itm.tx).Nodup → Mt l k ((1, x.tx) :: (tPlMore t ++ (4, [59]) :: ts)) →
   ∃ g, rPls l f a (At k) = (a ++ g, At (k + 1 + (tPlMore t).length)) ∧ g.map plI = (x :: t).map plI
 | t, x, k, 0, a, hf, _, _, _ => absurd hf (Nat.not_lt_zero _)
 | t, x, k, f + 1, a, hf, hy, hd, h => by
   have hx := hy x (by simp)
   have htx := h.cons.2.2.1
   have hp : rPlatform l (At k) = (hdT l k, At (k + 1)) := by
     unfold rPlatform rPlGate rIs
     rw [if_neg (by
       simp only [Bool.and_eq_true, beq_iff_eq]
       rintro ⟨_, q⟩
       exact hx.2.2 (htx.symm.trans q)), any_hit h]
   have ho : rPlOne l a (At k) = At (k + 1) := by
     unfold rPlOne
     rw [hp]
     dsimp only
     rw [if_neg]
     intro q
     unfold rHas at q
     simp only [List.any_eq_true, beq_iff_eq] at q
     obtain ⟨n, hn, e⟩ := q
     rw [htx] at e
     rw [List.map_append, List.nodup_append] at hd
     exact hd.2.2 _ (List.mem_map_of_mem hn) _ (by simp) e
   have hpi : plI ⟨(hdT l k).tx, false, [], (hdT l k).ln⟩ = plI x := by
     unfold plI
     rw [htx, hx.1, hx.2.1]
   rw [rPls, if_pos rfl, ho, hp]
   dsimp only
   match t, hf, hy, hd, h with
   | [], _, _, _, h =>
     have h2 := h.cons.2.2.2
     rw [take_miss (.inr (by
       have := h2.cons.2.2.1
       rw [this]
       show ([59] : List UInt8) ≠ [44]
       decide)), if_neg (by simp)]
     exact ⟨_, rfl, by rw [List.map_cons, hpi]; rfl⟩
   | y :: s, hf, hy, hd, h =>
     have h2 := h.cons.2.2.2
     have e : tPlMore (y :: s) = [(4, [44]), (1, y.tx)] ++ tPlMore s := rfl
     rw [e] at h2 ⊢
     simp only [List.cons_append, List.nil_append] at h2
     rw [take_hit h2, if_pos rfl]
     obtain ⟨g, hg, hg2⟩ := pls_hit s y (k + 1 + 1) f (a ++ [⟨(hdT l k).tx, false, [], (hdT l k).ln⟩]) (by simp at hf; omega) (fun z hz => hy z (List.mem_cons_of_mem _ hz)) (by
       have e2 : ((a ++ [(⟨(hdT l k).tx, false, [], (hdT l k).ln⟩ : Itm)] ++ y :: s).map Itm.tx) = ((a ++ x :: y :: s).map Itm.tx) := by simp [htx]
       rw [e2]; exact hd) h2.cons.2.2.2
     refine ⟨_ :: g, ?_, by rw [List.map_cons, hpi, hg2]; rfl⟩
     rw [hg]
     simp only [List.append_assoc, List.cons_append, List.nil_append, List.length_cons]
     congr 2
     omega
theorem head_hit {pl : List Itm} (hy : ∀ y ∈ pl, y.gl = false ∧ y.pl = [] ∧ y.tx ≠ globS) (hd : (pl.map Itm.tx).Nodup) (hts : ∃ c cs, ts = c :: cs ∧ c ≠ (1, wPlats)) (h : Mt l 0 (tPlats pl ++ ts)) :
   ∃ g, rHead l = (g, At (tPlats pl).length) ∧ g.map plI = pl.map plI := by
 unfold rHead
 match pl, hy, hd, h with
 | [], _, _, h =>
   obtain ⟨c, cs, rfl, hc⟩ := hts
   have e : rTake 1 wPlats l (At 0) = (false, At 0) := take_miss (by
     by_cases q : (hdT l 0).kd = 1
     · right
       intro q2
       apply hc
       rw [h.cons.2.1] at q
       rw [h.cons.2.2.1] at q2
       exact Prod.ext q q2
     · exact .inl q)
   rw [e, if_neg Bool.false_ne_true]
   exact ⟨[], rfl, rfl⟩
 | x :: t, hy, hd, h =>
   have h' : Mt l 0 ((1, wPlats) :: (1, x.tx) :: (tPlMore t ++ (4, [59]) :: ts)) := by
     have e : tPlats (x :: t) ++ ts = (1, wPlats) :: (1, x.tx) :: (tPlMore t ++ (4, [59]) :: ts) := by simp [tPlats]
     rw [← e]; exact h
   have hlen : t.length < l.length + 1 := by
     have hm : t.length ≤ (tPlMore t).length := by
       clear h h' hy hd
       induction t with
       | nil => simp
       | cons y s ih => simp [tPlMore] at ih ⊢; omega
     obtain ⟨r, h'⟩ := h'
     have e := congrArg List.length h'
     simp only [List.length_map, List.length_drop, List.length_append, List.length_cons] at e
     omega
   rw [take_hit h', if_pos rfl]
   obtain ⟨g, hg, hg2⟩ := pls_hit t x 1 (l.length + 1) [] hlen hy (by simpa using hd) h'.cons.2.2.2
   dsimp only
   unfold rPlats
   rw [hg]
   dsimp only
   rw [need_hit (h'.cons.2.2.2.cons.2.2.2.app.2)]
   refine ⟨[] ++ g, ?_, hg2⟩
   congr 2
   simp [tPlats]
   omega
theorem tgts_hit : ∀ (L : List Tgt) (k f : Nat) (a : List Tgt), L.length < f → (∀ T ∈ L, Fit T) → ((a ++ L).map Tgt.name).Nodup → Mt l k (L.flatMap tTgt ++ [(0, [])]) →
   ∃ L', rTgts l f a (At k) = (a ++ L', At (k + (L.flatMap tTgt).length)) ∧ L'.map plT = L.map plT
 | _, _, 0, _, hf, _, _, _ => absurd hf (Nat.not_lt_zero _)
 | [], k, f + 1, a, _, _, _, h => by
   rw [rTgts, if_neg (by
     rintro ⟨_, q⟩
     exact q h.cons.2.1)]
   exact ⟨[], by simp, rfl⟩
 | T :: L, k, f + 1, a, hf, hF, hd, h => by
   have e : (T :: L).flatMap tTgt = tTgt T ++ L.flatMap tTgt := rfl
   rw [e, List.append_assoc] at h
   have hh : Mt l k ((1, wTarget) :: (tTgt T ++ (L.flatMap tTgt ++ [(0, [])])).tail) := h
   rw [rTgts, if_pos ⟨rfl, by rw [hh.cons.2.1]; show (1 : Int) ≠ 0; decide⟩, need_hit hh, if_pos rfl]
   obtain ⟨T', hT, hp, _⟩ := tgt_hit (line := (hdT l k).ln) (bf := a.map (·.name)) (hF T (by simp)) (by
     intro q
     rw [List.map_append, List.nodup_append] at hd
     exact hd.2.2 _ q _ (by simp) rfl) h
   rw [hT]
   dsimp only
   have hn : T'.name = T.name := by have := congrArg Tgt.name hp; exact this
   obtain ⟨L', hL, hq⟩ := tgts_hit L (k + (tTgt T).length) f (a ++ [T']) (by simp at hf; omega) (fun z hz => hF z (List.mem_cons_of_mem _ hz)) (by
     have e2 : ((a ++ [T'] ++ L).map Tgt.name) = ((a ++ T :: L).map Tgt.name) := by simp [hn]
     rw [e2]; exact hd) h.app.2
   refine ⟨T' :: L', ?_, by rw [List.map_cons, List.map_cons, hp, hq]⟩
   rw [hL, e, List.length_append]
   simp only [List.append_assoc, List.cons_append, List.nil_append]
   congr 2
   omega
def tFile (pl : List Itm) (L : List Tgt) : List Ct := tPlats pl ++ (L.flatMap tTgt ++ [(0, [])])
structure FitB (pl : List Itm) (L : List Tgt) : Prop where
 pls : ∀ y ∈ pl, y.gl = false ∧ y.pl = [] ∧ y.tx ≠ globS
 dis : (pl.map Itm.tx).Nodup
 tg : ∀ T ∈ L, Fit T
 nam : (L.map Tgt.name).Nodup
theorem parse_of {pl : List Itm} {L : List Tgt} (hF : FitB pl L) (h : Mt l 0 (tFile pl L)) :
   ∃ pl' L', rParse l = ((pl', L'), (0, 0)) ∧ pl'.map plI = pl.map plI ∧ L'.map plT = L.map plT := by
 unfold tFile at h
 obtain ⟨g, hg, hg2⟩ := head_hit hF.pls hF.dis (by
   match L with
   | [] => exact ⟨_, _, rfl, by decide⟩
   | T :: L => exact ⟨(1, wTarget), _, rfl, by decide⟩) h
 have h2 := h.app.2
 rw [Nat.zero_add] at h2
 have hlen : L.length < l.length + 1 := by
   have hm : L.length ≤ (L.flatMap tTgt).length := by
     clear hF h h2
     induction L with
     | nil => simp
     | cons y s ih =>
       rw [List.flatMap_cons, List.length_append, List.length_cons]
       have hp1 : 1 ≤ (tTgt y).length := (by unfold tTgt; simp)
       omega
   obtain ⟨r, h2⟩ := h2
   have e := congrArg List.length h2
   simp only [List.length_map, List.length_drop, List.length_append, List.length_cons] at e
   omega
 obtain ⟨L', hL, hq⟩ := tgts_hit L _ (l.length + 1) [] hlen hF.tg hF.nam h2
 refine ⟨g, [] ++ L', ?_, hg2, hq⟩
 unfold rParse rAll
 rw [hg]
 dsimp only
 rw [hL]
 dsimp only
 rw [if_pos rfl]
end
theorem pDis_nodup : ∀ (K : Kn) (l : List (List UInt8)), pDis K l = true → l.Nodup ∧ ∀ x ∈ l, K x = false
 | _, [], _ => ⟨List.nodup_nil, fun _ h => absurd h (by simp)⟩
 | K, x :: t, h => by
   rw [pDis, Bool.and_eq_true] at h
   obtain ⟨h1, h2⟩ := pDis_nodup (kPut K x) t h.2
   refine ⟨List.nodup_cons.2 ⟨fun q => ?_, h1⟩, fun y hy => ?_⟩
   · have := h2 x q
     simp [kPut] at this
   · rcases List.mem_cons.1 hy with rfl | hy
     · simpa using h.1
     · have := h2 y hy
       unfold kPut at this
       rw [Bool.or_eq_false_iff] at this
       exact this.2
theorem plat_ne {p : List UInt8} (h : isPlatB p = true) : p ≠ globS := by
 unfold isPlatB at h
 simp only [Bool.and_eq_true, Bool.not_eq_true', beq_eq_false_iff_ne] at h
 exact h.2
theorem fit_of {pl : List Itm} {L : List Tgt} (h : rBuild pl L = true) : FitB pl L := by
 unfold rBuild at h
 simp only [Bool.and_eq_true, List.all_eq_true] at h
 obtain ⟨⟨h1, h2⟩, h3, h4⟩ := h
 refine ⟨fun y hy => ?_, (pDis_nodup _ _ h2).1, fun T hT => ?_, (pDis_nodup _ _ h4).1⟩
 · have := h1 y hy
   unfold rPlat at this
   simp only [Bool.and_eq_true, Bool.not_eq_true', beq_iff_eq] at this
   exact ⟨this.1.2, this.2, plat_ne this.1.1⟩
 · have := h3 T hT
   unfold rTarget rKind rNums at this
   simp only [Bool.and_eq_true, List.all_eq_true, decide_eq_true_eq, Bool.or_eq_true] at this
   obtain ⟨⟨⟨⟨⟨⟨_, k1, k2⟩, ⟨⟨⟨c1, c2⟩, r1⟩, r2⟩, r3⟩, s⟩, d⟩, o⟩, v⟩ := this
   have hsrc : ∀ y : Itm, rSource y = true → y.pl ≠ globS := fun y q => by
     unfold rSource at q
     simp only [Bool.and_eq_true, Bool.or_eq_true, beq_iff_eq] at q
     rcases q.2 with q | q
     · rw [q]; decide
     · exact plat_ne q
   have htx : ∀ y : Itm, rText y = true → y.gl = false ∧ y.pl = [] := fun y q => by
     unfold rText rDep at q
     simp only [Bool.and_eq_true, Bool.not_eq_true', beq_iff_eq] at q
     exact ⟨q.1.2, q.2⟩
   refine ⟨⟨k1, k2⟩, fun y hy => hsrc y (s y hy), fun y hy => ?_, fun y hy => htx y (o y hy), fun y hy => htx y (v y hy), ⟨c1, c2⟩, r1, r2, r3⟩
   have q := d y hy
   unfold rDep at q
   simp only [Bool.and_eq_true, Bool.not_eq_true'] at q
   exact ⟨q.2, hsrc y q.1⟩
def Lx (s : List UInt8) (cs : List Ct) (rest : List UInt8) : Prop := ∀ n, ∃ ts, rToks (s ++ rest) n = ts ++ rToks rest (n + s.count 10) ∧ ts.map ctOf = cs
theorem Lx.nil {rest : List UInt8} : Lx [] [] rest := fun n => ⟨[], by simp, rfl⟩
theorem Lx.app {s s' rest : List UInt8} {cs cs' : List Ct} (h : Lx s cs (s' ++ rest)) (h' : Lx s' cs' rest) : Lx (s ++ s') (cs ++ cs') rest := fun n => by
 obtain ⟨t1, e1, c1⟩ := h n
 obtain ⟨t2, e2, c2⟩ := h' (n + s.count 10)
 refine ⟨t1 ++ t2, ?_, by rw [List.map_append, c1, c2]⟩
 rw [List.append_assoc, e1, e2, List.append_assoc, List.count_append, Nat.add_assoc]
theorem Lx.app3 {s s' rest x : List UInt8} {cs cs' : List Ct} (h : Lx s cs x) (h' : Lx s' cs' rest) (e : x = s' ++ rest) : Lx (s ++ s') (cs ++ cs') rest := Lx.app (e ▸ h) h'
theorem Lx.blank {c : UInt8} {rest : List UInt8} (h : c = 32 ∨ c = 9 ∨ c = 13) : Lx [c] [] rest := fun n => ⟨[], by
 have e : skip false ([c] ++ rest) n = skip false rest n := by
   show skip false (c :: rest) n = _
   rw [skip, if_neg (by rcases h with rfl | rfl | rfl <;> decide), if_pos h]
 have e2 : ([c] : List UInt8).count 10 = 0 := by rcases h with rfl | rfl | rfl <;> decide
 rw [rToks_skip e, e2]
 rfl, rfl⟩
theorem Lx.feed {rest : List UInt8} : Lx [10] [] rest := fun n => ⟨[], by
 have e : skip false ([10] ++ rest) n = skip false rest (n + 1) := by
   show skip false (10 :: rest) n = _
   rw [skip, if_pos rfl]
 rw [rToks_skip e]
 rfl, rfl⟩
theorem skip_note : ∀ (t rest : List UInt8) (n : Nat), 10 ∉ t → skip true (t ++ 10 :: rest) n = skip false rest (n + 1)
 | [], rest, n, _ => by show skip true (10 :: rest) n = _; rw [skip, if_pos rfl]
 | c :: t, rest, n, h => by
   simp only [List.mem_cons, not_or] at h
   show skip true (c :: (t ++ 10 :: rest)) n = _
   rw [skip, if_neg (fun e => h.1 e.symm), skip_note t rest n h.2]
theorem Lx.note {t rest : List UInt8} (h : 10 ∉ t) : Lx (35 :: (t ++ [10])) [] rest := fun n => ⟨[], by
 have e : skip false (35 :: (t ++ [10]) ++ rest) n = skip false rest (n + 1) := by
   show skip false (35 :: (t ++ [10] ++ rest)) n = _
   rw [skip, if_neg (by decide), if_neg (by decide), if_pos rfl, List.append_assoc]
   exact skip_note t rest n h
 have e2 : (35 :: (t ++ [10]) : List UInt8).count 10 = 1 := by
   rw [List.count_cons, List.count_append, List.count_eq_zero_of_not_mem h]
   rfl
 rw [rToks_skip e, e2]
 rfl, rfl⟩
theorem run_appI (f : UInt8 → Bool) : ∀ (a b : List UInt8), (∀ c ∈ a, f c = true) → run f (a ++ b) = a.length + run f b
 | [], b, _ => by simp
 | c :: t, b, h => by
   show run f (c :: (t ++ b)) = _
   rw [run, if_pos (h c (by simp)), run_appI f t b (fun x hx => h x (List.mem_cons_of_mem _ hx)), List.length_cons]
   omega
theorem run_allI {f : UInt8 → Bool} : ∀ {a : List UInt8}, run f a = a.length → ∀ c ∈ a, f c = true
 | [], _, _, h => absurd h (by simp)
 | x :: t, h, c, hc => by
   by_cases e : f x = true
   · rw [run, if_pos e, List.length_cons] at h
     rcases List.mem_cons.1 hc with rfl | hc
     · exact e
     · exact run_allI (by omega) c hc
   · rw [run, if_neg e] at h
     simp at h
theorem run_zero {f : UInt8 → Bool} {rest : List UInt8} (h : ∀ c ∈ rest.head?, f c = false) : run f rest = 0 := by
 cases rest with
 | nil => rfl
 | cons c t => rw [run, if_neg (by rw [h c (by simp)]; decide)]
theorem lx_tok {s rest : List UInt8} {cls : Nat} (hc : 2 ≤ cls) (h0 : ∀ n, skip false (s ++ rest) n = (s ++ rest, n)) (hf : first (s ++ rest) = (cls, s.length)) (h10 : 10 ∉ s) : Lx s [(kindOf cls, if cls = 4 then (s.drop 1).take (s.length - 2) else s)] rest := fun n => by
 have e : next (s ++ rest) n = (⟨cls, s, n⟩, rest, n) := by
   unfold next
   rw [h0]
   dsimp only
   rw [hf]
   dsimp only
   rw [List.take_left, List.drop_left]
 refine ⟨[convT ⟨cls, s, n⟩], ?_, ?_⟩
 · unfold rToks
   rw [toks_eq, e]
   dsimp only
   rw [if_neg (by omega), List.count_eq_zero_of_not_mem h10]
   rfl
 · rfl
theorem skip_no {c : UInt8} {t : List UInt8} (h1 : c ≠ 10) (h2 : c ≠ 32) (h3 : c ≠ 9) (h4 : c ≠ 13) (h5 : c ≠ 35) (n : Nat) : skip false (c :: t) n = (c :: t, n) := by
 rw [skip, if_neg h1, if_neg (by simp [h2, h3, h4]), if_neg h5]
theorem let_no {c : UInt8} (h : isLet c = true) : c ≠ 10 ∧ c ≠ 32 ∧ c ≠ 9 ∧ c ≠ 13 ∧ c ≠ 35 := by
 refine ⟨?_, ?_, ?_, ?_, ?_⟩ <;> (rintro rfl; revert h; decide)
theorem cont_no {c : UInt8} (h : isCont c = true) : c ≠ 10 := by rintro rfl; revert h; decide
theorem dig_no {c : UInt8} (h : isDig c = true) : c ≠ 10 ∧ c ≠ 32 ∧ c ≠ 9 ∧ c ≠ 13 ∧ c ≠ 35 := by
 refine ⟨?_, ?_, ?_, ?_, ?_⟩ <;> (rintro rfl; revert h; decide)
theorem word_parts {s : List UInt8} (h : isWordB s = true) : ∃ c t, s = c :: t ∧ isLet c = true ∧ ∀ x ∈ s, isCont x = true := by
 unfold isWordB at h
 simp only [Bool.and_eq_true, decide_eq_true_eq] at h
 obtain ⟨h1, h2⟩ := h
 cases s with
 | nil => simp [first] at h1
 | cons c t =>
   by_cases hc : isLet c = true
   · rw [first, if_pos hc] at h2
     exact ⟨c, t, rfl, hc, run_allI h2⟩
   · exfalso
     rw [first, if_neg hc] at h1
     split at h1
     · simp at h1
     · split at h1
       · simp at h1
       · split at h1 <;> simp at h1
theorem Lx.word {s rest : List UInt8} (h : isWordB s = true) (hr : ∀ c ∈ rest.head?, isCont c = false) : Lx s [(1, s)] rest := by
 obtain ⟨c, t, rfl, hc, ha⟩ := word_parts h
 obtain ⟨a1, a2, a3, a4, a5⟩ := let_no hc
 exact lx_tok (cls := 2) (by decide) (fun n => skip_no a1 a2 a3 a4 a5 n) (by
   show first (c :: (t ++ rest)) = _
   rw [first, if_pos hc]
   have := run_appI isCont (c :: t) rest ha
   rw [run_zero hr] at this
   exact Prod.ext rfl (by simpa using this)) (fun q => cont_no (ha _ q) rfl)
theorem dig_let {c : UInt8} (h : isDig c = true) : isLet c = false := by
 unfold isDig at h
 unfold isLet
 simp only [Bool.and_eq_true, decide_eq_true_eq] at h
 simp only [Bool.or_eq_false_iff, Bool.and_eq_false_imp, decide_eq_true_eq, decide_eq_false_iff_not]
 omega
theorem Lx.num {s rest : List UInt8} (h0 : s ≠ []) (h : ∀ c ∈ s, isDig c = true) (hr : ∀ c ∈ rest.head?, isDig c = false) : Lx s [(2, s)] rest := by
 cases s with
 | nil => exact absurd rfl h0
 | cons c t =>
   have hc := h c (by simp)
   obtain ⟨a1, a2, a3, a4, a5⟩ := dig_no hc
   exact lx_tok (cls := 3) (by decide) (fun n => skip_no a1 a2 a3 a4 a5 n) (by
     show first (c :: (t ++ rest)) = _
     rw [first, if_neg (by rw [dig_let hc]; decide), if_pos hc]
     have := run_appI isDig (c :: t) rest h
     rw [run_zero hr] at this
     exact Prod.ext rfl (by simpa using this)) (fun q => (dig_no (h _ q)).1 rfl)
theorem sym_no {c : UInt8} (h : isSym c = true) : c ≠ 10 ∧ c ≠ 32 ∧ c ≠ 9 ∧ c ≠ 13 ∧ c ≠ 35 := by
 refine ⟨?_, ?_, ?_, ?_, ?_⟩ <;> (rintro rfl; revert h; decide)
theorem Lx.sym {c : UInt8} {rest : List UInt8} (h : isSym c = true) : Lx [c] [(4, [c])] rest := by
 obtain ⟨a1, a2, a3, a4, a5⟩ := sym_no h
 have hl : isLet c = false ∧ isDig c = false := by
   unfold isSym at h
   simp only [Bool.or_eq_true, beq_iff_eq] at h
   rcases h with ((((h | h) | h) | h) | h) | h <;> (rw [h]; decide)
 exact lx_tok (cls := 5) (by decide) (fun n => skip_no a1 a2 a3 a4 a5 n) (by
   show first (c :: rest) = _
   rw [first, if_neg (by rw [hl.1]; decide), if_neg (by rw [hl.2]; decide), if_pos h]
   rfl) (by simp [Ne.symm a1])
theorem Lx.str {t rest : List UInt8} (h : isTextB t = true) : Lx ([34] ++ t ++ [34]) [(3, t)] rest := by
 unfold isTextB at h
 rw [decide_eq_true_eq] at h
 have ha := run_allI h
 have hn : 10 ∉ t := fun q => by have := ha 10 q; revert this; decide
 have hs : strLen (t ++ 34 :: rest) = t.length + 2 := by
   unfold strLen
   have e : run (fun c => !notStr c) (t ++ 34 :: rest) = t.length := by
     rw [run_appI _ _ _ ha, run_zero (by intro c hc; simp at hc; subst hc; decide)]
     rfl
   dsimp only
   rw [e, if_pos (by simp)]
 have e : Lx ([34] ++ t ++ [34]) _ rest := lx_tok (cls := 4) (by decide) (fun n => by
   show skip false (34 :: (t ++ [34] ++ rest)) n = _
   exact skip_no (by decide) (by decide) (by decide) (by decide) (by decide) n) (by
   show first (34 :: (t ++ [34] ++ rest)) = _
   have q : t ++ [34] ++ rest = t ++ 34 :: rest := by simp
   rw [q, first, if_neg (by decide), if_neg (by decide), if_neg (by decide), if_pos ⟨rfl, by rw [hs]; omega⟩, hs]
   simp) (by simp [hn])
 rw [if_pos rfl] at e
 have q : (([34] ++ t ++ [34] : List UInt8).drop 1).take (([34] ++ t ++ [34] : List UInt8).length - 2) = t := by
   simp
 rw [q] at e
 exact e
theorem dec_digs (n : Nat) : Lib.decDigits n ≠ [] ∧ ∀ c ∈ Lib.decDigits n, isDig c = true := by
 induction n using Nat.strongRecOn with
 | _ n ih =>
   have hd : ∀ k, k < 10 → isDig (UInt8.ofNat (48 + k)) = true := fun k hk => by
     unfold isDig
     rw [UInt8.toNat_ofNat', show (48 + k) % 2 ^ 8 = 48 + k by omega]
     simp only [Bool.and_eq_true, decide_eq_true_eq]
     omega
   rw [Lib.decDigits]
   split
   · rename_i h1
     exact ⟨by simp, fun c hc => by simp at hc; rw [hc]; have := hd n h1; simpa using this⟩
   · rename_i h1
     refine ⟨by simp, fun c hc => ?_⟩
     rcases List.mem_append.1 hc with hc | hc
     · exact (ih (n / 10) (by omega)).2 c hc
     · rw [List.mem_singleton] at hc
       rw [hc]
       exact hd _ (by omega)
theorem itoa_digs {n : Int} (h : 0 ≤ n) : itoaB n ≠ [] ∧ ∀ c ∈ itoaB n, isDig c = true := by
 unfold itoaB Lib.itoa
 rw [if_neg (by omega)]
 exact dec_digs _
theorem Lx.item {x : Itm} {rest : List UInt8} (h : isTextB x.tx = true) : Lx (fSrc x) (tItm x) rest := by
 unfold fSrc tItm
 split
 · have e : Lx wGlobP [(1, globS), (4, [40])] (([34] ++ x.tx ++ [34]) ++ ([41] ++ rest)) := Lx.app (s := globS) (s' := [40]) (cs := [(1, globS)]) (cs' := [(4, [40])]) (Lx.word (by decide) (by intro c hc; simp at hc; subst hc; decide)) (Lx.sym (by decide))
   have e2 : Lx ([34] ++ x.tx ++ [34]) [(3, x.tx)] ([41] ++ rest) := Lx.str h
   have := Lx.app (rest := rest) (s := wGlobP ++ ([34] ++ x.tx ++ [34])) (s' := [41]) (Lx.app e e2) (Lx.sym (by decide))
   exact this
 · exact Lx.str h
def Pri (x : Itm) : Prop := isTextB x.tx = true ∧ (x.pl = [] ∨ isWordB x.pl = true)
theorem Lx.two_blanks {rest : List UInt8} : Lx [32, 32] [] rest := Lx.app (s := [32]) (s' := [32]) (cs := []) (cs' := []) (Lx.blank (.inl rfl)) (Lx.blank (.inl rfl))
theorem sp_cont {rest : List UInt8} : ∀ c ∈ ([32] ++ rest).head?, isCont c = false := by intro c hc; simp at hc; subst hc; decide
theorem Lx.word_sp {w rest : List UInt8} (h : isWordB w = true) : Lx (w ++ [32]) [(1, w)] rest := by
 have := Lx.app (rest := rest) (s' := [32]) (cs' := []) (Lx.word h sp_cont) (Lx.blank (.inl rfl))
 exact this
theorem Lx.go {word : List UInt8} (hw : isWordB word = true) : ∀ (l : List Itm) (p : Option (List UInt8)) (rest : List UInt8), (∀ x ∈ l, Pri x) → Lx (rGo word p l) (tGo word p l) rest
 | [], _, _, _ => Lx.nil
 | x :: t, p, rest, h => by
   have hx := h x (by simp)
   have ih := fun r => Lx.go hw t (some x.pl) r (fun y hy => h y (List.mem_cons_of_mem _ hy))
   have hi : ∀ r, Lx (fSrc x) (tItm x) r := fun r => Lx.item hx.1
   have hp : ∀ r, Lx (rPre word p x) (tPre word p x) r := fun r => by
     unfold rPre tPre
     by_cases e : p = some x.pl
     · rw [if_pos e, if_pos e]
       exact Lx.app (s := [44]) (s' := [32]) (cs := [(4, [44])]) (cs' := []) (Lx.sym (by decide)) (Lx.blank (.inl rfl))
     · rw [if_neg e, if_neg e]
       have e1 : ∀ r, Lx (if p = none then ([] : List UInt8) else [59, 10]) (if p = none then ([] : List Ct) else [(4, [59])]) r := fun r => by
         by_cases e2 : p = none
         · rw [if_pos e2, if_pos e2]; exact Lx.nil
         · rw [if_neg e2, if_neg e2]
           exact Lx.app (s := [59]) (s' := [10]) (cs := [(4, [59])]) (cs' := []) (Lx.sym (by decide)) Lx.feed
       have e3 : ∀ r, Lx (if x.pl = [] then ([] : List UInt8) else x.pl ++ [32]) (if x.pl = [] then ([] : List Ct) else [(1, x.pl)]) r := fun r => by
         by_cases e2 : x.pl = []
         · rw [if_pos e2, if_pos e2]; exact Lx.nil
         · rw [if_neg e2, if_neg e2]
           exact Lx.word_sp (hx.2.resolve_left e2)
       have e4 : ∀ r, Lx ([32, 32] ++ word ++ [32]) [(1, word)] r := fun r => by
         have := Lx.app (rest := r) (s := [32, 32]) (cs := []) Lx.two_blanks (Lx.word_sp hw)
         rw [← List.append_assoc] at this
         exact this
       exact Lx.app (e1 _) (Lx.app (s := [32, 32] ++ word ++ [32]) (cs := [(1, word)]) (e4 _) (e3 _))
   show Lx (rPre word p x ++ fSrc x ++ rGo word (some x.pl) t) (tPre word p x ++ (tItm x ++ tGo word (some x.pl) t)) rest
   rw [List.append_assoc]
   exact Lx.app (hp _) (Lx.app (hi _) (ih _))
theorem Lx.end_ {rest : List UInt8} : Lx [59, 10] [(4, [59])] rest := Lx.app (s := [59]) (s' := [10]) (cs := [(4, [59])]) (cs' := []) (Lx.sym (by decide)) Lx.feed
theorem Lx.attr {word : List UInt8} (hw : isWordB word = true) {l : List Itm} {rest : List UInt8} (h : ∀ x ∈ l, Pri x) : Lx (fItems word l) (tAttr word l) rest := by
 rw [← rAttr_eq]
 unfold rAttr tAttr
 split
 · exact Lx.nil
 · exact Lx.app (Lx.go hw l none _ h) Lx.end_
theorem Lx.number {word : List UInt8} (hw : isWordB word = true) {n : Int} (hn : 0 ≤ n) {rest : List UInt8} : Lx (fThree ([32, 32] ++ word ++ [32]) (itoaB n) [59]) [(1, word), (2, itoaB n), (4, [59])] rest := by
 obtain ⟨d1, d2⟩ := itoa_digs hn
 unfold fThree
 have a1 : ∀ r, Lx ([32, 32] ++ word ++ [32]) [(1, word)] r := fun r => by
   have := Lx.app (rest := r) (s := [32, 32]) (cs := []) Lx.two_blanks (Lx.word_sp hw)
   rw [← List.append_assoc] at this
   exact this
 have a2 : Lx (itoaB n) [(2, itoaB n)] ([59, 10] ++ rest) := Lx.num d1 d2 (by intro c hc; simp at hc; subst hc; decide)
 have := Lx.app (a1 _) (Lx.app a2 (Lx.end_ (rest := rest)))
 rw [List.append_assoc, List.append_assoc]
 exact this
theorem Lx.tgt {T : Tgt} (h : rTarget T = true) {rest : List UInt8} : Lx (fTarget T) (tTgt T) rest := by
 unfold rTarget rKind rNums at h
 simp only [Bool.and_eq_true, List.all_eq_true, decide_eq_true_eq, Bool.or_eq_true] at h
 obtain ⟨⟨⟨⟨⟨⟨hn, k1, k2⟩, ⟨⟨⟨c1, c2⟩, r1⟩, r2⟩, r3⟩, s⟩, d⟩, o⟩, v⟩ := h
 have hsrc : ∀ y : Itm, rSource y = true → Pri y := fun y q => by
   unfold rSource isPlatB at q
   simp only [Bool.and_eq_true, Bool.or_eq_true, beq_iff_eq] at q
   exact ⟨q.1, q.2.imp id (fun z => z.1)⟩
 have hdep : ∀ y : Itm, rDep y = true → Pri y := fun y q => by
   unfold rDep at q
   simp only [Bool.and_eq_true] at q
   exact hsrc y q.1
 have htx : ∀ y : Itm, rText y = true → Pri y := fun y q => by
   unfold rText at q
   simp only [Bool.and_eq_true] at q
   exact hdep y q.1
 have a1 : ∀ r, Lx (fThree wTargetS T.name wOpen) [(1, wTarget), (1, T.name), (4, [123])] r := fun r => by
   have b1 : Lx wTargetS [(1, wTarget)] (T.name ++ ([32] ++ ([123] ++ ([10] ++ r)))) := Lx.word_sp (w := wTarget) (by decide)
   have b2 : Lx T.name [(1, T.name)] ([32] ++ ([123] ++ ([10] ++ r))) := Lx.word hn sp_cont
   have b3 : Lx [32] [] ([123] ++ ([10] ++ r)) := Lx.blank (.inl rfl)
   have b4 : Lx [123] [(4, [123])] ([10] ++ r) := Lx.sym (by decide)
   have c4 := Lx.app b4 (Lx.feed (rest := r))
   have c3 : Lx ([32] ++ ([123] ++ [10])) [(4, [123])] r := Lx.app3 b3 c4 (by simp)
   have c2 : Lx (T.name ++ ([32] ++ ([123] ++ [10]))) [(1, T.name), (4, [123])] r := Lx.app3 b2 c3 (by simp)
   have c1 : Lx (wTargetS ++ (T.name ++ ([32] ++ ([123] ++ [10])))) [(1, wTarget), (1, T.name), (4, [123])] r := Lx.app3 b1 c2 (by simp)
   unfold fThree
   rw [List.append_assoc, List.append_assoc]
   exact c1
 have a2 : ∀ r, Lx (fThree wKindS (kw T.kind.toNat) [59]) [(1, wKind), (1, kw T.kind.toNat), (4, [59])] r := fun r => by
   have hk : isWordB (kw T.kind.toNat) = true := by
     obtain e | e | e | e : T.kind = 1 ∨ T.kind = 2 ∨ T.kind = 3 ∨ T.kind = 4 := by omega
     all_goals (rw [e]; decide)
   have b1 : Lx wKindS [(1, wKind)] (kw T.kind.toNat ++ ([59, 10] ++ r)) := by
     have := Lx.app (rest := kw T.kind.toNat ++ ([59, 10] ++ r)) (s := [32, 32]) (cs := []) Lx.two_blanks (Lx.word_sp (w := wKind) (by decide))
     exact this
   have b2 : Lx (kw T.kind.toNat) [(1, kw T.kind.toNat)] ([59, 10] ++ r) := Lx.word hk (by intro c hc; simp at hc; subst hc; decide)
   have c2 : Lx (kw T.kind.toNat ++ [59, 10]) [(1, kw T.kind.toNat), (4, [59])] r := Lx.app b2 (Lx.end_ (rest := r))
   have c1 : Lx (wKindS ++ (kw T.kind.toNat ++ [59, 10])) [(1, wKind), (1, kw T.kind.toNat), (4, [59])] r := Lx.app3 b1 c2 (by simp)
   unfold fThree
   rw [List.append_assoc, List.append_assoc]
   exact c1
 have a3 : ∀ r, Lx (if T.cost = 1 then [] else fThree wCostS (itoaB T.cost) [59]) (ctCost T) r := fun r => by
   unfold ctCost
   split
   · exact Lx.nil
   · exact Lx.number (word := wCost) (by decide) (by omega)
 have a4 : ∀ r, Lx (if T.retry = 0 then [] else fThree wRetryS (itoaB T.retry) [59]) (ctRetry T) r := fun r => by
   unfold ctRetry
   split
   · exact Lx.nil
   · exact Lx.number (word := wRetry) (by decide) r1
 have a5 : ∀ r, Lx ([125] ++ [10]) [(4, [125])] r := fun r => Lx.app (cs := [(4, [125])]) (cs' := []) (Lx.sym (by decide)) Lx.feed
 unfold fTarget
 exact Lx.app (a1 _) (Lx.app (a2 _) (Lx.app (Lx.attr (by decide) fun x hx => hsrc x (s x hx)) (Lx.app (Lx.attr (by decide) fun x hx => hdep x (d x hx)) (Lx.app (Lx.attr (by decide) fun x hx => htx x (o x hx)) (Lx.app (Lx.attr (by decide) fun x hx => htx x (v x hx)) (Lx.app (a3 _) (Lx.app (a4 _) (a5 _))))))))
theorem Lx.plMore : ∀ (t : List Itm) (rest : List UInt8), (∀ y ∈ t, isWordB y.tx = true) → (∀ c ∈ rest.head?, isCont c = false) → Lx (Lib.joinTail [44, 32] (t.map Itm.tx)) (tPlMore t) rest
 | [], _, _, _ => Lx.nil
 | y :: s, rest, h, hr => by
   have ih := Lx.plMore s rest (fun z hz => h z (List.mem_cons_of_mem _ hz)) hr
   have e : Lib.joinTail [44, 32] ((y :: s).map Itm.tx) = [44] ++ ([32] ++ (y.tx ++ Lib.joinTail [44, 32] (s.map Itm.tx))) := by simp [Lib.joinTail]
   rw [e]
   have hh : ∀ c ∈ (Lib.joinTail [44, 32] (s.map Itm.tx) ++ rest).head?, isCont c = false := by
     cases s with
     | nil => exact hr
     | cons z u => intro c hc; simp [Lib.joinTail] at hc; subst hc; decide
   exact Lx.app (cs := [(4, [44])]) (Lx.sym (by decide)) (Lx.app (cs := []) (Lx.blank (.inl rfl)) (Lx.app (cs := [(1, y.tx)]) (Lx.word (h y (by simp)) hh) ih))
theorem Lx.plats {pl : List Itm} {rest : List UInt8} (h : ∀ y ∈ pl, isWordB y.tx = true) : Lx (fPlats pl) (tPlats pl) rest := by
 cases pl with
 | nil => exact Lx.nil
 | cons x t =>
   unfold fPlats fThree
   rw [if_neg (by simp), List.map_cons, Lib.join_cons]
   have b1 : Lx wPlatS [(1, wPlats)] (x.tx ++ (Lib.joinTail [44, 32] (t.map Itm.tx) ++ ([59, 10] ++ rest))) := Lx.word_sp (w := wPlats) (by decide)
   have hh : ∀ c ∈ (Lib.joinTail [44, 32] (t.map Itm.tx) ++ ([59, 10] ++ rest)).head?, isCont c = false := by
     cases t with
     | nil => intro c hc; simp [Lib.joinTail] at hc; subst hc; decide
     | cons z u => intro c hc; simp [Lib.joinTail] at hc; subst hc; decide
   have b2 : Lx x.tx [(1, x.tx)] (Lib.joinTail [44, 32] (t.map Itm.tx) ++ ([59, 10] ++ rest)) := Lx.word (h x (by simp)) hh
   have b3 : Lx (Lib.joinTail [44, 32] (t.map Itm.tx)) (tPlMore t) ([59, 10] ++ rest) := Lx.plMore t _ (fun z hz => h z (List.mem_cons_of_mem _ hz)) (by intro c hc; simp at hc; subst hc; decide)
   have := Lx.app3 b1 (Lx.app3 b2 (Lx.app b3 (Lx.end_ (rest := rest))) (by simp)) (by simp)
   have e : wPlatS ++ (x.tx ++ Lib.joinTail [44, 32] (List.map Itm.tx t)) ++ [59] ++ [10] = wPlatS ++ (x.tx ++ (Lib.joinTail [44, 32] (List.map Itm.tx t) ++ [59, 10])) := by simp
   rw [e]
   exact this
theorem Lx.tgts : ∀ (L : List Tgt) (rest : List UInt8), (∀ T ∈ L, rTarget T = true) → Lx (L.flatMap fTarget) (L.flatMap tTgt) rest
 | [], _, _ => Lx.nil
 | T :: L, rest, h => Lx.app (s := fTarget T) (s' := L.flatMap fTarget) (Lx.tgt (h T (by simp))) (Lx.tgts L rest (fun z hz => h z (List.mem_cons_of_mem _ hz)))
theorem Lx.file {pl : List Itm} {L : List Tgt} {rest : List UInt8} (h : rBuild pl L = true) : Lx (fFile pl L) (tPlats pl ++ L.flatMap tTgt) rest := by
 unfold rBuild at h
 simp only [Bool.and_eq_true, List.all_eq_true] at h
 obtain ⟨⟨h1, _⟩, h3, _⟩ := h
 exact Lx.app (Lx.plats fun y hy => by
   have := h1 y hy
   unfold rPlat isPlatB at this
   simp only [Bool.and_eq_true] at this
   exact this.1.1.1) (Lx.tgts L rest h3)
theorem file_toks {pl : List Itm} {L : List Tgt} (h : rBuild pl L = true) : (rToks (fFile pl L) 1).map ctOf = tFile pl L := by
 obtain ⟨ts, e, hc⟩ := Lx.file (rest := []) h 1
 rw [List.append_nil] at e
 rw [e, rToks_end, List.map_append, hc]
 unfold tFile
 rw [List.append_assoc]
 rfl
theorem mt_all {l : List RTok} {ts : List Ct} (h : l.map ctOf = ts) : Mt l 0 ts := ⟨[], by rw [List.drop_zero, h, List.append_nil]⟩
def Ok1 (c : Ct) : Prop := (c.1 = 1 ∧ isWordB c.2 = true) ∨ (c.1 = 2 ∧ c.2 ≠ [] ∧ ∀ x ∈ c.2, isDig x = true) ∨ (c.1 = 3 ∧ isTextB c.2 = true) ∨ (c.1 = 4 ∧ ∃ x, c.2 = [x] ∧ isSym x = true)
theorem Lx.one {c : Ct} {rest : List UInt8} (h : Ok1 c) (hr : ∀ x ∈ rest.head?, isCont x = false) : Lx (spell c) [c] rest := by
 obtain ⟨k, t⟩ := c
 unfold Ok1 at h
 dsimp only at h
 rcases h with ⟨rfl, h⟩ | ⟨rfl, h1, h2⟩ | ⟨rfl, h⟩ | ⟨rfl, x, rfl, h⟩
 · exact Lx.word h hr
 · exact Lx.num h1 h2 (fun x hx => by
     have := hr x hx
     unfold isCont at this
     simp only [Bool.or_eq_false_iff] at this
     exact this.1.1.2)
 · exact Lx.str h
 · exact Lx.sym h
theorem wordB_of {c : UInt8} {t : List UInt8} (hc : isLet c = true) (ha : ∀ x ∈ c :: t, isCont x = true) : isWordB (c :: t) = true := by
 have := run_appI isCont (c :: t) [] ha
 rw [List.append_nil] at this
 unfold isWordB
 rw [first, if_pos hc, this]
 simp [run]
theorem run_pre {f : UInt8 → Bool} : ∀ (s : List UInt8), ∀ c ∈ s.take (run f s), f c = true
 | [], c, h => by simp at h
 | x :: t, c, h => by
   by_cases e : f x = true
   · rw [run, if_pos e, List.take_succ_cons, List.mem_cons] at h
     rcases h with rfl | h
     · exact e
     · exact run_pre t c h
   · rw [run, if_neg e] at h
     simp at h
theorem first_ok (s : List UInt8) (n : Nat) : 2 ≤ (first s).1 → Ok1 (ctOf (convT ⟨(first s).1, s.take (first s).2, n⟩)) := by
 cases s with
 | nil => intro h; simp [first] at h
 | cons c t =>
   rw [first]
   split
   · rename_i hc
     intro _
     have hp := run_pre (f := isCont) (c :: t)
     have hpos : run isCont (c :: t) = run isCont t + 1 := by rw [run, if_pos (by unfold isCont; rw [hc]; rfl)]
     left
     refine ⟨rfl, ?_⟩
     show isWordB ((c :: t).take (run isCont (c :: t))) = true
     rw [hpos, List.take_succ_cons] at hp ⊢
     exact wordB_of hc hp
   · split
     · rename_i _ hd
       intro _
       have hp := run_pre (f := isDig) (c :: t)
       have hpos : run isDig (c :: t) = run isDig t + 1 := by rw [run, if_pos hd]
       right; left
       refine ⟨rfl, ?_, hp⟩
       show (c :: t).take (run isDig (c :: t)) ≠ []
       rw [hpos, List.take_succ_cons]
       simp
     · split
       · rename_i _ _ hs
         intro _
         right; right; right
         exact ⟨rfl, c, rfl, hs⟩
       · split
         · rename_i h34
           intro _
           right; right; left
           refine ⟨rfl, ?_⟩
           obtain ⟨rfl, hl⟩ := h34
           have hl2 : strLen t = run (fun c => !notStr c) t + 2 := by
             unfold strLen at hl ⊢
             dsimp only at hl ⊢
             split
             · rfl
             · rename_i q
               rw [if_neg q] at hl
               exact absurd rfl hl
           have hlt : run (fun c => !notStr c) t < t.length := by
             unfold strLen at hl
             dsimp only at hl
             split at hl
             · rename_i q
               exact (List.getElem?_eq_some_iff.1 q).1
             · exact absurd rfl hl
           show isTextB (if (4 : Nat) = 4 then (((34 :: t).take (strLen t)).drop 1).take (((34 :: t).take (strLen t)).length - 2) else (34 :: t).take (strLen t)) = true
           rw [if_pos rfl, hl2]
           have e : (((34 :: t : List UInt8).take (run (fun c => !notStr c) t + 2)).drop 1).take (((34 :: t : List UInt8).take (run (fun c => !notStr c) t + 2)).length - 2) = t.take (run (fun c => !notStr c) t) := by
             rw [List.length_take, List.length_cons, show min (run (fun c => !notStr c) t + 2) (t.length + 1) - 2 = run (fun c => !notStr c) t by omega, show run (fun c => !notStr c) t + 2 = (run (fun c => !notStr c) t + 1) + 1 by omega, List.take_succ_cons, List.drop_succ_cons, List.drop_zero, List.take_take]
             congr 1
             omega
           rw [e]
           have hp := run_pre (f := fun c => !notStr c) t
           have := run_appI (fun c => !notStr c) _ [] hp
           rw [List.append_nil] at this
           unfold isTextB
           rw [this]
           simp [run]
         · intro h; simp at h
theorem toks_okI : ∀ (f : Nat) (s : List UInt8) (n : Nat), s.length < f → ∀ t ∈ rToks s n, t.kd = 0 ∨ t.kd = 5 ∨ Ok1 (ctOf t)
 | 0, _, _, h, _, _ => absurd h (Nat.not_lt_zero _)
 | f + 1, s, n, h, t, ht => by
   unfold rToks at ht
   rw [toks_eq] at ht
   split at ht
   · rename_i hc
     rw [List.map_singleton, List.mem_singleton] at ht
     rw [ht]
     rcases Nat.le_one_iff_eq_zero_or_eq_one.1 hc with e | e
     · right; left
       show kindOf (next s n).1.cls = 5
       rw [e]; rfl
     · left
       show kindOf (next s n).1.cls = 0
       rw [e]; rfl
   · rename_i hc
     rw [List.map_cons, List.mem_cons] at ht
     rcases ht with ht | ht
     · right; right
       rw [ht]
       exact first_ok (skip false s n).1 (skip false s n).2 (by
         have : (next s n).1.cls = (first (skip false s n).1).1 := rfl
         omega)
     · exact toks_okI f _ _ (by have := next_len s n (by omega); omega) t ht
theorem Lx.gap {s rest : List UInt8} (h : s ∈ gapsB) : Lx s [] rest := by
 have b := fun (r : List UInt8) => Lx.blank (c := 32) (rest := r) (.inl rfl)
 unfold gapsB at h
 simp only [List.mem_cons, List.not_mem_nil, or_false] at h
 rcases h with rfl | rfl | rfl | rfl | rfl | rfl
 · exact b _
 · exact Lx.feed
 · exact Lx.app (s := [32]) (s' := [32, 9]) (cs := []) (cs' := []) (b _) (Lx.app (s := [32]) (s' := [9]) (cs := []) (cs' := []) (b _) (Lx.blank (.inr (.inl rfl))))
 · exact Lx.app (s := [13]) (s' := [10]) (cs := []) (cs' := []) (Lx.blank (.inr (.inr rfl))) Lx.feed
 · exact Lx.app (s := [32]) (s' := [35, 32, 110, 111, 116, 101, 59, 32, 34, 32, 125, 10]) (cs := []) (cs' := []) (b _) (Lx.note (t := [32, 110, 111, 116, 101, 59, 32, 34, 32, 125]) (by decide))
 · exact Lx.app (s := [10]) (s' := [10]) (cs := []) (cs' := []) Lx.feed Lx.feed
theorem gap_head {s rest : List UInt8} (h : s ∈ gapsB) : ∀ x ∈ (s ++ rest).head?, isCont x = false := by
 unfold gapsB at h
 simp only [List.mem_cons, List.not_mem_nil, or_false] at h
 rcases h with rfl | rfl | rfl | rfl | rfl | rfl <;> (intro x hx; simp at hx; subst hx; decide)
theorem Lx.joined {g : List Int} : ∀ (cs : List Ct) (i : Nat) (rest : List UInt8), (∀ c ∈ cs, Ok1 c) → Lx (joinG g i (cs.map spell)) cs rest
 | [], _, _, _ => Lx.nil
 | c :: t, i, rest, h => by
   have ih := Lx.joined (g := g) t (i + 1) rest (fun z hz => h z (List.mem_cons_of_mem _ hz))
   have h1 : Lx (spell c) [c] (gapOf g i ++ (joinG g (i + 1) (t.map spell) ++ rest)) := Lx.one (h c (by simp)) (gap_head (gap_mem g i))
   have h2 : Lx (gapOf g i) [] (joinG g (i + 1) (t.map spell) ++ rest) := Lx.gap (gap_mem g i)
   show Lx (spell c ++ gapOf g i ++ joinG g (i + 1) (t.map spell)) ([c] ++ [] ++ t) rest
   exact Lx.app (Lx.app h1 h2) ih
end Go.Proofs.YtcjoiiaankngjaaGreatDoor
