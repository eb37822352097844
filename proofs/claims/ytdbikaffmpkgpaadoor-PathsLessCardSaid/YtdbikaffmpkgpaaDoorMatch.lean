/- Match. -/
import Derived.Laws.EntriesVeiled
import Derived.Test.YtdbikaffmpkgpaaDoorRest
import Derived.Test.YtdbikaffmpkgpaaDoorValid
import Derived.Test.YtdbikaffmpkgpaaDoorParts
namespace Go.Proofs.YtdbikaffmpkgpaaDoor
open Go.RowKit

def matchS (p s : ByteArray) : Bool := patS p && (validS s && mt (partsL p) (partsL s))
theorem within_parts {perm : ByteArray → Bool} {s : ByteArray} (h : within perm s = true) : s.size ≤ 200 ∧ (partsL s).length ≤ 20 ∧ ∀ k (hk : k < (partsL s).length), (partsL s)[k].size ≤ 200 := by
  unfold within at h
  rw [Bool.and_eq_true, Bool.and_eq_true, decide_eq_true_eq, decide_eq_true_eq] at h
  obtain ⟨h1, h2, _⟩ := h
  refine ⟨h1, ?_, fun k hk => ?_⟩
  · unfold partsL
    split
    · simp
    · exact h2
  · have := partsL_mem s _ (List.getElem_mem hk)
    omega

theorem zero49 : ∀ W, (zeroValue 49).run Tryd.prog W = .ok (.agg (boolC (List.replicate 441 false)).toArray) W := by
  intro W
  kernel_rfl
theorem mk22 : ∀ (fn : Fn) (first cap : Array Value) (w : World), (Instr.makeFunc fn first cap).run Tryd.prog w = .ok (.func fn first cap) w := fun _ _ _ _ => rfl

theorem Below.ofDrewN {B n : Nat} {w w' : World} (h : Below B (w.drewN n) w') : Below B w w' := ⟨h.os, h.tape, h.output, h.size, h.block⟩
theorem alloc_size (w : World) (o : Obj) : (w.alloc o).heap.size = w.heap.size + 1 := by simp
theorem memo_new (P N : List ByteArray) : MemoOk P N (List.replicate 441 false) := by
  refine ⟨List.length_replicate, fun i j hi hj e => ?_⟩
  rw [List.getElem?_replicate] at e
  split at e <;> simp at e
/-- the world in which matchRest begins -/
def begun (W : World) (A1 A2 : Option Addr) (p n c1 c2 : Nat) (Z : List Value) : World :=
  ((((W.alloc (Obj.cells #[Value.slice A1 p c1] 34)).alloc (Obj.cells #[Value.slice A2 n c2] 34)).alloc (Obj.cells Z.toArray 49)).alloc
      (Obj.cells #[Value.func (Fn.func 44) #[] #[Value.pointer (some { block := W.heap.size + 1 + 1, off := 0 }), Value.pointer (some { block := W.heap.size, off := 0 }), Value.pointer (some { block := W.heap.size + 1, off := 0 }), Value.pointer (some { block := W.heap.size + 1 + 1 + 1, off := 0 })]] 32))
theorem begun_below (W : World) (A1 A2 : Option Addr) (p n c1 c2 : Nat) (Z : List Value) : Below W.heap.size W (begun W A1 A2 p n c1 c2 Z) := by
  refine (((((Below.refl _ W).alloc (Nat.le_refl _) _).alloc ?_ _).alloc ?_ _).alloc ?_ _) <;> simp only [alloc_size] <;> omega
theorem ctx_new (W : World) (P N : List ByteArray) (A1 A2 : Option Addr) (c1 c2 : Nat) (h1 : Strs W W.heap.size A1 c1 P) (h2 : Strs W W.heap.size A2 c2 N) (Z : List Value) (hZ : boolC (List.replicate 441 false) = Z) :
    Ctx (W.heap.size + 1 + 1) W.heap.size (W.heap.size + 1) (W.heap.size + 1 + 1 + 1) P N A1 A2 c1 c2 (begun W A1 A2 P.length N.length c1 c2 Z) := by
  have hb := begun_below W A1 A2 P.length N.length c1 c2 Z
  have q1 := ((Full.new W 34 [Value.slice A1 P.length c1]).alloc (Obj.cells #[Value.slice A2 N.length c2] 34)).alloc (Obj.cells Z.toArray 49)
  have q2 := (Full.new (W.alloc (Obj.cells #[Value.slice A1 P.length c1] 34)) 34 [Value.slice A2 N.length c2]).alloc (Obj.cells Z.toArray 49)
  have q3 := Full.new ((W.alloc (Obj.cells #[Value.slice A1 P.length c1] 34)).alloc (Obj.cells #[Value.slice A2 N.length c2] 34)) 49 Z
  have q4 := Full.new (((W.alloc (Obj.cells #[Value.slice A1 P.length c1] 34)).alloc (Obj.cells #[Value.slice A2 N.length c2] 34)).alloc (Obj.cells Z.toArray 49)) 32 [Value.func (Fn.func 44) #[] #[Value.pointer (some { block := W.heap.size + 1 + 1, off := 0 }), Value.pointer (some { block := W.heap.size, off := 0 }), Value.pointer (some { block := W.heap.size + 1, off := 0 }), Value.pointer (some { block := W.heap.size + 1 + 1 + 1, off := 0 })]]
  simp only [alloc_size] at q1 q2 q3 q4
  exact ⟨⟨_, memo_new P N, by rw [hZ]; exact q3.alloc _⟩, (q1.alloc _).cell 0, (q2.alloc _).cell 0, q4.cell 0, Row.below h1 hb (Nat.le_refl _), Row.below h2 hb (Nat.le_refl _)⟩

set_option maxRecDepth 100000 in
set_option maxHeartbeats 4000000 in
theorem match_any (p s : ByteArray) (w : World) (hT : Tab w) (hp : p.size ≤ maxLen) (hs : s.size ≤ maxLen) : Calls Tryd.prog 22 #[.string p, .string s] w (BoolB w (matchS p s)) := by
  have CP := Lib.hid (pat_any p w hT hp)
  have CV := Lib.hid (fun q => valid_any s (w.drewN q) hT hs)
  obtain ⟨R, HR⟩ : ∃ R, Hid (matchS p s = R) := ⟨_, Lib.hid rfl⟩
  rw [HR.out]
  have hR := HR.out
  unfold matchS at hR
  obtain ⟨a, ha⟩ : ∃ a, patS p = a := ⟨_, rfl⟩
  obtain ⟨b, hb⟩ : ∃ b, validS s = b := ⟨_, rfl⟩
  have hwa := fun h => within_parts (s := p) (perm := isComp) h
  have hwb := fun h => within_parts (s := s) (perm := isName) h
  change (patS p = true → _) at hwa
  change (validS s = true → _) at hwb
  rw [ha] at hR CP hwa
  rw [hb] at hR CV hwb
  cases a with
  | false =>
    have HR2 := Lib.hid (show R = false from hR.symm)
    clear hR ha hb hwa hwb
    go_enter Tryd.func22, Tryd.ntmps22
    go_wp2_with (go_at_call 21; ((with_reducible refine CP.out.mono ?_); rintro e w1 ⟨rfl, q, rfl⟩))
    go_ret
    exact ⟨by rw [HR2.out]; rfl, Below.drewN_ (Below.refl _ _) _⟩
  | true =>
    cases b with
    | false =>
      have HR2 := Lib.hid (show R = false from hR.symm)
      clear hR ha hb hwa hwb
      go_enter Tryd.func22, Tryd.ntmps22
      go_wp2_with (first
        | (go_at_call 21; ((with_reducible refine CP.out.mono ?_); rintro e w1 ⟨rfl, q, rfl⟩))
        | (go_at_call 16; ((with_reducible refine (CV.out _).mono ?_); rintro e w2 ⟨rfl, q2, rfl⟩)))
      go_ret
      exact ⟨by rw [HR2.out]; rfl, by first | exact Below.drewN_ (Below.refl _ _) _ | exact Below.drewN_ (Below.drewN_ (Below.refl _ _) _) _⟩
    | true =>
      obtain ⟨p1, p2, p3⟩ := hwa rfl
      obtain ⟨s1, s2, s3⟩ := hwb rfl
      have PP := fun W => parts_any p W (by omega)
      have PS := fun W => parts_any s W (by omega)
      obtain ⟨P, HP⟩ : ∃ P, Hid (partsL p = P) := ⟨_, Lib.hid rfl⟩
      obtain ⟨N, HN⟩ : ∃ N, Hid (partsL s = N) := ⟨_, Lib.hid rfl⟩
      rw [HP.out] at PP hR
      rw [HN.out] at PS hR
      have p2' : P.length ≤ 20 := by rw [← HP.out]; exact p2
      have s2' : N.length ≤ 20 := by rw [← HN.out]; exact s2
      have p3' : ∀ k (h : k < P.length), P[k].size ≤ 200 := by have := HP.out; subst this; exact p3
      have s3' : ∀ k (h : k < N.length), N[k].size ≤ 200 := by have := HN.out; subst this; exact s3
      have HR2 := Lib.hid (show R = mtAt P N 0 0 from hR.symm)
      have HPP := Lib.hid PP
      have HPS := Lib.hid PS
      have H3 := Lib.hid (And.intro p3' s3')
      clear hR ha hb hwa hwb PP PS p3' s3' p2 p3 s2 s3
      have z49 := zero49
      obtain ⟨Z, HZ⟩ : ∃ Z, Hid ((boolC (List.replicate 441 false)) = Z) := ⟨_, Lib.hid rfl⟩
      rw [HZ.out] at z49
      have hmf := mk22
      go_enter Tryd.func22, Tryd.ntmps22
      go_wp2_with (first
        | (go_at_call 21; ((with_reducible refine CP.out.mono ?_); rintro e w1 ⟨rfl, q, rfl⟩))
        | (go_at_call 16; ((with_reducible refine (CV.out _).mono ?_); rintro e w2 ⟨rfl, q2, rfl⟩))
        | (go_at_call 23; ((with_reducible refine (HPP.out _).mono ?_); rintro e w3 ⟨A1, c1, rfl, ho1, hb1⟩))
        | (go_at_call 23; ((with_reducible refine (HPS.out _).mono ?_); rintro e w4 ⟨A2, c2, rfl, ho2, hb2⟩)))
      have hS1 := (Strs.own ho1).2
      have hS2 := (Strs.own ho2).2
      have hC := ctx_new w4 P N A1 A2 c1 c2 (strs_on hS1 hb2) hS2 Z HZ.out
      have hrest := rest_any _ _ _ _ P N A1 A2 c1 c2 (by omega) (by omega) (by omega) p2' s2' H3.out.1 H3.out.2 _ 0 0 _ rfl (Nat.zero_le _) (Nat.zero_le _) hC
      rw [← HR2.out] at hrest
      unfold begun at hrest
      have HX := Lib.hid (show Calls Tryd.prog 44 #[.int .i64 0, .int .i64 0, .pointer (some ⟨w4.heap.size + 1 + 1, 0, none⟩), .pointer (some ⟨w4.heap.size, 0, none⟩), .pointer (some ⟨w4.heap.size + 1, 0, none⟩), .pointer (some ⟨w4.heap.size + 1 + 1 + 1, 0, none⟩)] _ _ from hrest)
      have hb4 : Below w.heap.size w w4 := Below.ofDrewN (Below.then_ hb1 hb2)
      have hbeg := Lib.hid (begun_below w4 A1 A2 P.length N.length c1 c2 Z)
      clear hC hrest hS1 hS2 ho1 ho2 hb1 hb2
      with_reducible refine HX.out.mono ?_
      rintro e w6 ⟨rfl, _, hO⟩
      go_simp
      go_wp2_with fail
      go_ret
      refine ⟨rfl, ?_⟩
      have h1 := hb4.size
      have h2 : Below w.heap.size w4 (begun w4 A1 A2 P.length N.length c1 c2 Z) := hbeg.out.mono h1
      exact (hb4.trans h2).trans (hO.below.mono (by have : w.heap.size ≤ w4.heap.size := h1; omega))

end Go.Proofs.YtdbikaffmpkgpaaDoor
