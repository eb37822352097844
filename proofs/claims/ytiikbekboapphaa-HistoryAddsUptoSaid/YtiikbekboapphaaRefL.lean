/- The reference: Log. -/
import Derived.Test.YtiikbekboapphaaRefB
import Derived.Test.YtiikbekboapphaaLogP
namespace Go.Proofs.Ytiikbekboapphaa
set_option maxRecDepth 100000
open Go.RowKit
theorem IsR.under {B : Nat} {w w' : World} {q : Nat} {cs : List Cm} {F : Nat → Prop} (h : IsR B w q cs F) (hb : Below w.heap.size w w') : IsR B w' q cs F := h.on hb
/-- numbers are collected in a row of one's own -/
structure CI (w W : World) (v : Value) (acc : List Nat) : Prop where
  below : Below w.heap.size w W
  row : W.ownsRow w.heap.size 3 1 v acc.length (natC acc)
theorem CI.add {w W w3 : World} {n c g c2 : Nat} {A : Option Addr} {acc : List Nat} {x : Nat} {ob : Obj} (h : CI w W (.slice A n c) acc) (hn : acc.length = n)
    (hown : w3.ownsRow w.heap.size 3 1 (.slice (some ⟨g, 0, none⟩) (n + 1) c2) (n + 1) (natC acc ++ [.int .i64 (x : Int)])) (hgrow : (W.alloc ob).grownBy w3 (Value.slice A n c).ownBlock) : CI w w3 (.slice (some ⟨g, 0, none⟩) (n + 1) c2) (acc ++ [x]) := by
  refine ⟨(h.below.alloc h.below.size ob).grown hgrow (by have := h.below.size; simp; omega) (row_ge h.row), ?_⟩
  rw [List.length_append, natC_snoc, hn]
  exact hown
set_option maxHeartbeats 4000000 in
theorem refLog_any {B : Nat} {w : World} {q : Nat} {cs : List Cm} {F : Nat → Prop} (h : IsR B w q cs F) (hs : cs.length ≤ 1000) (a : Int) :
    Calls Try.prog 32 #[.pointer (some ⟨q, 0, none⟩), .int .i64 a] w (IntsOut w (logP cs a)) := by
  unfold IntsOut
  have HA := Lib.hid (refHas_any h a)
  obtain ⟨i3, hi, hz0, hz1, hz2⟩ := info_parts info3
  cases ha : inR cs.length a with
  | false =>
    rw [ha] at HA
    rw [show logP cs a = [] by unfold logP; rw [ha]; rfl]
    clear h ha
    go_enter Try.func32, Try.ntmps32
    go_wp2_with (go_at_call 39; ((with_reducible refine HA.out.mono ?_); rintro e w1 ⟨rfl, rfl⟩))
    go_loopw [5, 7] (fun v5 v7 wr => v5 = .slice none 0 0 ∧ v7 = .int .i64 a ∧ wr = w) (fun _ _ _ => 0)
    case atStart => exact ⟨rfl, rfl, rfl⟩
    case round =>
      obtain ⟨rfl, rfl, rfl⟩ := hrel
      go_wp2
      go_ret
      exact ⟨none, 0, rfl, World.ownsRow_nil _ _ _ _, Below.refl _ _⟩
  | true =>
    have ha' := inR_iff.1 ha
    obtain ⟨x, rfl⟩ : ∃ x : Nat, a = x := ⟨a.toNat, by omega⟩
    rw [ha] at HA
    obtain ⟨D, hD⟩ : ∃ D, logP cs (x : Int) = D := ⟨_, rfl⟩
    have HD := Lib.hid (show D = desc (rch (leads cs) x) x from by rw [← hD]; unfold logP; rw [ha, Int.toNat_natCast]; rfl)
    rw [hD]
    have CELLS := Lib.hid (fun (W : World) (hb : Below w.heap.size w W) => (h.on hb).set_cells)
    obtain ⟨L, hL⟩ : ∃ L, leads cs = L := ⟨_, rfl⟩
    rw [hL] at HD CELLS
    obtain ⟨R, hR⟩ : ∃ R, rch L x = R := ⟨_, rfl⟩
    rw [hR] at HD
    have HRR := Lib.hid hR
    obtain ⟨N, hN⟩ : ∃ N, cs.length = N := ⟨_, rfl⟩
    rw [hN] at CELLS ha' hs
    clear h ha hD hL hR hN
    go_enter Try.func32, Try.ntmps32
    go_wp2_with (go_at_call 39; ((with_reducible refine HA.out.mono ?_); rintro e w1 ⟨rfl, rfl⟩))
    go_loopw [5, 7] (fun v5 v7 wr => ∃ (A : Option Addr) (n c t : Nat) (acc : List Nat), v5 = .slice A n c ∧ v7 = .int .i64 (t : Int) ∧ n + t ≤ x ∧ Hid (CI w wr (.slice A n c) acc ∧ acc.length = n ∧ acc ++ desc R t = D)) (fun _ v7 _ => (intOf v7).toNat)
    case atStart => exact ⟨none, 0, 0, x, [], rfl, rfl, by omega, Lib.hid ⟨⟨Below.refl _ _, World.ownsRow_nil _ _ _ _⟩, rfl, by rw [HD.out]; rfl⟩⟩
    case round =>
      obtain ⟨A, n, c, t, acc, rfl, rfl, hnt, H⟩ := hrel
      by_cases ht : t = 0
      · subst ht
        go_wp2
        go_ret
        have hq := H.out.2.2
        have e0 : desc R 0 = [] := rfl
        rw [e0, List.append_nil] at hq
        have hl := H.out.2.1
        rw [← hq, hl]
        refine ⟨A, c, rfl, ?_, H.out.1.below⟩
        have := H.out.1.row
        rwa [hl] at this
      · have ht1 : (1 : Int) ≤ (t : Int) := by omega
        obtain ⟨g, cc, c1, hset⟩ := CELLS.out wr H.out.1.below
        obtain ⟨SA, d, c2, hbits⟩ := hset x (by omega) (by omega)
        obtain ⟨ad, rfl, _, c3⟩ := hbits (t - 1) (by omega)
        rw [show t - 1 + 1 = t by omega, HRR.out] at c3
        obtain ⟨b, hb⟩ : ∃ b, R t = b := ⟨_, rfl⟩
        have HB := Lib.hid hb
        rw [hb] at c3
        have i0 : (0 : Int) ≤ (x : Int) - 1 := by omega
        have i1 : (x : Int) - 1 < (N : Int) := by omega
        have j0 : (0 : Int) ≤ (t : Int) - 1 := by omega
        have j1 : (t : Int) - 1 < (x : Int) := by omega
        have hown := H.out.1.row
        rw [H.out.2.1] at hown
        have HO := Lib.hid hown
        have hsz := H.out.1.below.size
        obtain ⟨t', rfl⟩ : ∃ t', t = t' + 1 := ⟨t - 1, by omega⟩
        have HDS := Lib.hid (show desc R (t' + 1) = if R (t' + 1) then (t' + 1) :: desc R t' else desc R t' from rfl)
        rw [Nat.add_sub_cancel] at c3
        clear hset hbits hb hown
        cases b with
        | true =>
          go_wp2_with (at_builtin; refine wpList_append_lies _ rfl _ _ 23 rfl w.heap.size 3 i3 _ 1 8 Try.underlying23 hi hz0 hz1 hz2 rfl (by decide) (.slice A n c) n _ rfl (HO.out.alloc _) ⟨wr.heap.size, 0, none⟩ 1 1 [.int .i64 ((t' + 1 : Nat) : Int)] rfl rfl (cell_one_new _ _ _) (by simp [Value.oneCell']) (by omega) (by unfold maxLen; omega) (by omega) (by simp; omega) (wr.heap.size + 1) (by simp) ?_; intro g5 c5 w5 hown5 hgrow5 hat5 hlt5)
          go_roundw
          case rel =>
            refine ⟨some ⟨g5, 0, none⟩, n + 1, c5, t', acc ++ [t' + 1], rfl, by go_num, by omega, Lib.hid ⟨H.out.1.add H.out.2.1 hown5 hgrow5, by rw [List.length_append, H.out.2.1]; rfl, ?_⟩⟩
            have hq := H.out.2.2
            rw [HDS.out, HB.out, if_pos rfl] at hq
            rw [List.append_assoc]; exact hq
          case measure => first | (simp [intOf]; done) | (simp [intOf]; omega)
        | false =>
          go_wp2_with fail
          go_roundw
          case rel =>
            refine ⟨A, n, c, t', acc, rfl, by go_num, by omega, Lib.hid ⟨H.out.1, H.out.2.1, ?_⟩⟩
            have hq := H.out.2.2
            rw [HDS.out, HB.out] at hq
            exact hq
          case measure => first | (simp [intOf]; done) | (simp [intOf]; omega)
end Go.Proofs.Ytiikbekboapphaa
