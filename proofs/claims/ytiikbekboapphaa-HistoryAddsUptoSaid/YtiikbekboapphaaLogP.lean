/- Log. -/
import Derived.Test.YtiikbekboapphaaRev
namespace Go.Proofs.Ytiikbekboapphaa
set_option maxRecDepth 100000
open Go.RowKit
def restL (R : Nat → Bool) (t : Nat) : List Nat := if t = 0 then [] else t :: desc R (t - 1)
theorem rest_desc (R : Nat → Bool) (n : Nat) : desc R n = restL R (top R n) := by
  unfold restL
  by_cases h : top R n = 0
  · rw [if_pos h, desc_none R n h]
  · rw [if_neg h, desc_top R n (by omega)]
/-- a walk goes on while numbers are collected in a row of one's own -/
structure LI (w W : World) (k : Nat) (fv : Value) (lead : Nat → List Nat) (head t : Nat) (S : Nat → Prop) (v : Value) (acc : List Nat) : Prop where
  wk : 0 < t → IsWk W k fv lead head t S
  ge : ∀ x, S x → w.heap.size ≤ x
  below : Below w.heap.size w W
  row : W.ownsRow w.heap.size 3 1 v acc.length (natC acc)
  ap : ∀ x, v.ownBlock = some x → ¬ S x
def IntsOut (w : World) (R : List Nat) (e : Ending) (w' : World) : Prop :=
  ∃ A c, e = .returned (.slice A R.length c) ∧ w'.ownsRow w.heap.size 3 1 (.slice A R.length c) R.length (natC R) ∧ Below w.heap.size w w'
/-- one more number behind the row, then the walk goes on -/
theorem LI.add {w W w3 w4 : World} {k : Nat} {fv : Value} {lead : Nat → List Nat} {head t t' n c g c2 : Nat} {S S4 : Nat → Prop} {A : Option Addr} {acc : List Nat} {x : Nat} {ob : Obj} (h : LI w W k fv lead head t S (.slice A n c) acc) (ht : 0 < t) (hn : acc.length = n)
    (hown : w3.ownsRow w.heap.size 3 1 (.slice (some ⟨g, 0, none⟩) (n + 1) c2) (n + 1) (natC acc ++ [.int .i64 (x : Int)])) (hgrow : (W.alloc ob).grownBy w3 (Value.slice A n c).ownBlock) (hat : (Value.slice A n c).ownBlock = some g ∨ g = W.heap.size + 1)
    (hg : Goes S w3 w4 S4) (hk : 0 < t' → IsWk w4 k fv lead head t' S4) : LI w w4 k fv lead head t' S4 (.slice (some ⟨g, 0, none⟩) (n + 1) c2) (acc ++ [x]) := by
  have hlt := (h.wk ht).lt_
  have hsz : W.heap.size ≤ w3.heap.size := by have := hgrow.size; simp at this; omega
  have hb3 : Below w.heap.size w w3 := (h.below.alloc h.below.size ob).grown hgrow (by have := h.below.size; simp; omega) (row_ge h.row)
  have hg3 : ¬ S g := by
    rcases hat with e | e
    · exact h.ap g e
    · intro hs; have := hlt g hs; omega
  have hg3l : g < w3.heap.size := owns_lt hown g rfl
  refine ⟨hk, fun y hy => (hg.back y hy).elim (h.ge y) (fun h1 => by have := hb3.size; omega), goes_below hb3 h.ge hg, ?_, fun y hy hs => ?_⟩
  · rw [List.length_append, natC_snoc, hn]
    exact owns_keep hown fun y hy => by
      obtain rfl : g = y := by simpa [Value.ownBlock] using hy
      exact hg.turn.block g hg3l hg3
  · obtain rfl : g = y := by simpa [Value.ownBlock] using hy
    exact (hg.back g hs).elim hg3 (fun h1 => by omega)
theorem LI.keepS {w W w3 : World} {k : Nat} {fv : Value} {lead : Nat → List Nat} {head t n c : Nat} {S : Nat → Prop} {A : Option Addr} {acc : List Nat} {ob : Obj} (h : LI w W k fv lead head t S (.slice A n c) acc) (ht : 0 < t) (hgrow : (W.alloc ob).grownBy w3 (Value.slice A n c).ownBlock) : IsWk w3 k fv lead head t S :=
  (h.wk ht).keep fun x hx => by
    have hl := (h.wk ht).lt_ x hx
    exact (hgrow.block x (by simp; omega) (fun e => h.ap x e.symm hx)).trans (Below.heap_alloc W ob x hl)
theorem LI.below3 {w W w3 : World} {k : Nat} {fv : Value} {lead : Nat → List Nat} {head t n c : Nat} {S : Nat → Prop} {A : Option Addr} {acc : List Nat} {ob : Obj} (h : LI w W k fv lead head t S (.slice A n c) acc) (hgrow : (W.alloc ob).grownBy w3 (Value.slice A n c).ownBlock) : Below w.heap.size w w3 :=
  (h.below.alloc h.below.size ob).grown hgrow (by have := h.below.size; simp; omega) (row_ge h.row)
set_option maxHeartbeats 4000000 in
theorem log_any {B : Nat} {w : World} {p : Nat} {cs : List Cm} {F : Nat → Prop} (h : IsH B w p cs F) (hs : cs.length ≤ 1000) (a : Int) :
    Calls Try.prog 31 #[.pointer (some ⟨p, 0, none⟩), .int .i64 a] w (IntsOut w (logP cs a)) := by
  unfold IntsOut
  have hmf : ∀ fn first cap w, (Instr.makeFunc fn first cap).run Try.prog w = .ok (.func fn first cap) w := fun _ _ _ _ => rfl
  have HA := Lib.hid (has_any h a)
  obtain ⟨i3, hi, hz0, hz1, hz2⟩ := info_parts info3
  cases ha : inR cs.length a with
  | false =>
    rw [ha] at HA
    rw [show logP cs a = [] by unfold logP; rw [ha]; rfl]
    clear h ha
    go_enter Try.func31, Try.ntmps31
    go_wp2_with (go_at_call 41; ((with_reducible refine HA.out.mono ?_); rintro e w1 ⟨rfl, rfl⟩))
    go_ret
    exact ⟨none, 0, rfl, World.ownsRow_nil _ _ _ _, Below.refl _ _⟩
  | true =>
    have ha' := inR_iff.1 ha
    obtain ⟨x, rfl⟩ : ∃ x : Nat, a = x := ⟨a.toNat, by omega⟩
    rw [ha] at HA
    obtain ⟨D, hD⟩ : ∃ D, logP cs (x : Int) = D := ⟨_, rfl⟩
    have HD := Lib.hid (show D = desc (rch (leads cs) x) x from by rw [← hD]; unfold logP; rw [ha, Int.toNat_natCast]; rfl)
    have hDl : D.length ≤ 1000 := by rw [HD.out]; have := desc_len (rch (leads cs) x) x; omega
    rw [hD]
    have WA := Lib.hid (fun (W : World) => from_any W 43 p (leads cs) x (by omega))
    unfold FromOut at WA
    have NA := Lib.hid (fun (k t : Nat) (S : Nat → Prop) (w1 : World) (hk : IsWk w1 k (fnV 43 p) (leads cs) x t S) (hS : ∀ x, S x → w.heap.size ≤ x) (hb : Below w.heap.size w w1) => next_any hk (h.on hb) (fun z h1 h2 => by have := (h.in_ z h1).2; have := hS z h2; omega) hs (by omega))
    unfold nextOut at NA
    have ex : top (rch (leads cs) x) (x + 1 - 1) = x := top_self (rch_self _ _)
    have NA0 := Lib.hid (fun (k : Nat) (S : Nat → Prop) (w1 : World) (hk : IsWk w1 k (fnV 43 p) (leads cs) x (x + 1) S) (hS : ∀ x, S x → w.heap.size ≤ x) (hb : Below w.heap.size w w1) => (show Calls Try.prog 45 #[.pointer (some ⟨k, 0, none⟩)] w1 fun e w' => e = .returned (.int .i64 (x : Int)) ∧ ∃ S', Goes S w1 w' S' ∧ (0 < x → IsWk w' k (fnV 43 p) (leads cs) x x S') from by
      have := NA.out k (x + 1) S w1 hk hS hb
      rwa [ex] at this))
    obtain ⟨L, hL⟩ : ∃ L, leads cs = L := ⟨_, rfl⟩
    rw [hL] at NA NA0 WA HD
    obtain ⟨R, hR⟩ : ∃ R, rch L x = R := ⟨_, rfl⟩
    rw [hR] at NA HD
    have e2 : top R x = x := by rw [← hR]; exact top_self (rch_self _ _)
    have HE2 := Lib.hid e2
    have hx0 : 1 ≤ x := by omega
    have hx1 : x ≤ 1000 := by omega
    clear h ha ha' hD hL hR ex e2
    go_enter Try.func31, Try.ntmps31
    go_wp2_with (first
      | (go_at_call 41; ((with_reducible refine HA.out.mono ?_); rintro e w1 ⟨rfl, rfl⟩))
      | (go_at_call 42; ((with_reducible refine (WA.out _).mono ?_); rintro e w3 ⟨k, S, rfl, hk, hS, hb3⟩))
      | (go_at_call 45; ((with_reducible refine (NA0.out _ _ _ hk hS hb3).mono ?_); rintro e w4 ⟨rfl, S4, hg4, hk4⟩)))
    have HLI := Lib.hid (show LI w w4 k (fnV 43 p) L x x S4 (.slice none 0 0) [] from ⟨hk4, goes_ge hb3 hS hg4, goes_below hb3 hS hg4, World.ownsRow_nil _ _ _ _, fun y hy => by simp [Value.ownBlock] at hy⟩)
    clear hk hS hb3 hg4 hk4
    go_loopw [5, 7] (fun v5 v7 wr => ∃ (A : Option Addr) (n c t : Nat) (acc : List Nat) (S : Nat → Prop), v5 = .slice A n c ∧ v7 = .int .i64 (t : Int) ∧ n + t ≤ 2000 ∧ Hid (LI w wr k (fnV 43 p) L x t S (.slice A n c) acc ∧ acc.length = n ∧ acc ++ restL R t = D)) (fun _ v7 _ => (intOf v7).toNat)
    case atStart => exact ⟨none, 0, 0, x, [], S4, rfl, rfl, by omega, Lib.hid ⟨HLI.out, rfl, by rw [HD.out, rest_desc, HE2.out]; rfl⟩⟩
    case round =>
      obtain ⟨A, n, c, t, acc, S, rfl, rfl, hnt, H⟩ := hrel
      by_cases ht : t = 0
      · subst ht
        go_wp2
        go_ret
        have hq := H.out.2.2
        have e0 : restL R 0 = [] := rfl
        rw [e0, List.append_nil] at hq
        have hl := H.out.2.1
        rw [← hq, hl]
        refine ⟨A, c, rfl, ?_, H.out.1.below⟩
        have := H.out.1.row
        rwa [hl] at this
      · have hne : ((t : Int) == 0) = false := by simp; omega
        have htl := top_le R (t - 1)
        obtain ⟨t', ht'⟩ : ∃ t', top R (t - 1) = t' := ⟨_, rfl⟩
        have NN := Lib.hid (fun (w3 : World) (hk : IsWk w3 k (fnV 43 p) L x t S) (hb : Below w.heap.size w w3) => NA.out k t S w3 hk H.out.1.ge hb)
        rw [ht'] at NN htl
        have HT' := Lib.hid ht'
        have hown := H.out.1.row
        rw [H.out.2.1] at hown
        have HO := Lib.hid hown
        have hsz := H.out.1.below.size
        clear ht' hown
        go_wp2_with (first
          | (at_builtin; refine wpList_append_lies _ rfl _ _ 23 rfl w.heap.size 3 i3 _ 1 8 Try.underlying23 hi hz0 hz1 hz2 rfl (by decide) (.slice A n c) n _ rfl (HO.out.alloc _) ⟨wr.heap.size, 0, none⟩ 1 1 [.int .i64 (t : Int)] rfl rfl (cell_one_new _ _ _) (by simp [Value.oneCell']) (by omega) (by unfold maxLen; omega) (by omega) (by simp; omega) (wr.heap.size + 1) (by simp) ?_; intro g5 c5 w5 hown5 hgrow5 hat5 hlt5; (have hk5 := H.out.1.keepS (by omega) hgrow5); (have hb5 := H.out.1.below3 hgrow5))
          | (go_at_call 45; ((with_reducible refine (NN.out _ hk5 hb5).mono ?_); rintro e w6 ⟨rfl, S6, hg6, hk6⟩)))
        go_roundw
        case rel =>
          refine ⟨some ⟨g5, 0, none⟩, n + 1, c5, t', acc ++ [t], S6, rfl, rfl, by omega, Lib.hid ⟨H.out.1.add (by omega) H.out.2.1 hown5 hgrow5 hat5 hg6 hk6, by rw [List.length_append, H.out.2.1]; rfl, ?_⟩⟩
          have hq := H.out.2.2
          rw [← hq, List.append_assoc]
          congr 1
          conv => rhs; unfold restL
          rw [if_neg ht, rest_desc R (t - 1), HT'.out]
          rfl
        case measure => simp [intOf]; omega
end Go.Proofs.Ytiikbekboapphaa
