/- ref.part: a range of base with the hunks in it replaced. -/
import Derived.Test.YtmeoannheomdoaaRefParts
import Derived.Test.YtmeoannheomdoaaKit
import Derived.StillTailTactics
namespace Go.Proofs.Ytmeoannheomdoaa
open Go.RowKit

/-- append(l, x...), where x may be nil -/
theorem append_strs {w : World} {ops : Array Oper} {rest : List Oper} {o : Oper} {a : Act} {Q : Exit → Act → World → Prop} (hgd : o.guard = none) (s x : Operand)
    (ho : o.op = .call { callee := .builtin .append, args := #[s, x], argTypes := #[23, 23] }) (base : Nat) (v : Value) (n : Nat) (xs : List Value) (hs : a.eval s = v) (hown : w.ownsRow base 9 1 v n xs)
    (A : Option Addr) (m c B : Nat) (L : List ByteArray) (hx : a.eval x = .slice A m c) (hS : Strs w B A c L) (hm : L.length = m) (h63 : n + m ≤ 100000000) (hbase : base ≤ w.heap.size)
    (h : ∀ v' w', w'.ownsRow base 9 1 v' (n + m) (xs ++ strC L) → w.grownBy w' v.ownBlock → wpList Try.prog ops Q rest (a.put o.dst v') w') : wpList Try.prog ops Q (o :: rest) a w := by
  obtain ⟨i9, hi9, hz0, hz1, hz2⟩ := info_parts info9
  subst hm
  cases A with
  | none =>
    have hc : c = 0 := hS.2.2.1 rfl
    have hl : L.length = 0 := by have := hS.2.1; omega
    obtain rfl : L = [] := List.eq_nil_of_length_eq_zero hl
    subst hc
    refine wpList_append_own_none hgd s x 23 ho base 9 i9 1 Try.underlying23 hi9 v n xs hs hown hx (h v w ?_ ⟨rfl, rfl, rfl, Nat.le_refl _, fun _ _ _ => rfl⟩)
    simpa [strC] using hown
  | some ad =>
    exact wpList_append_own_at w hgd s x 23 ho base 9 i9 _ 1 16 Try.underlying23 hi9 hz0 hz1 hz2 rfl (by decide) v n xs hs hown ad L.length c (strC L) hx (by rw [strC_len, Nat.mul_one])
      (fun j u hj => by
        obtain ⟨ad', e, _, hc⟩ := hS.2.2.2 j u hj
        have e := Option.some.inj e
        subst e
        exact hc) (strC_one L) (by unfold maxLen; omega) (by omega) hbase (fun v' w' h1 h2 _ _ => h v' w' h1 h2)
theorem hks_cells {w : World} {B : Nat} {ad : Addr} {c : Nat} {L : List Hk} (h : Hks w B (some ad) c L) {k : Nat} (hk : k < L.length) : w.cell? (ad.add (k * 4)) = some (.int .i64 (L[k].a0 : Int)) ∧ w.cell? ⟨(ad.add (k * 4)).block, (ad.add (k * 4)).off + 1, none⟩ = some (.int .i64 (L[k].a1 : Int)) ∧
    w.cell? ⟨(ad.add (k * 4)).block, (ad.add (k * 4)).off + 2, none⟩ = some (.int .i64 (L[k].b0 : Int)) ∧ w.cell? ⟨(ad.add (k * 4)).block, (ad.add (k * 4)).off + 3, none⟩ = some (.int .i64 (L[k].b1 : Int)) := by
  obtain ⟨ad', e, h1⟩ := hks_at h hk
  have e := Option.some.inj e
  subst e
  exact h1
theorem own_drew {w : World} {base n : Nat} {v : Value} {xs : List Value} (h : w.ownsRow base 9 1 v n xs) : w.drew.ownsRow base 9 1 v n xs := h.drew
theorem own_eq {w : World} {base n n' : Nat} {v : Value} {xs : List Value} {L : List ByteArray} (h : w.ownsRow base 9 1 v n xs) (h1 : n = n') (h2 : n' = L.length) (h3 : xs = strC L) : w.ownsRow base 9 1 v L.length (strC L) := by
  subst h1 h2 h3
  exact h
theorem strs_own {w : World} {base n q : Nat} {v : Value} {L : List ByteArray} (h : w.ownsRow base 9 1 v n (strC L)) (hq : L.length = q) : ∃ A c, v = .slice A q c ∧ Strs w w.heap.size A c L := by
  obtain ⟨A, c, rfl⟩ := own_val h
  have := Strs.own h
  exact ⟨A, c, by rw [this.1, hq], this.2⟩

def PartOut (w : World) (n : Nat) (L : List ByteArray) (e : Ending) (w' : World) : Prop := ∃ A c, e = .returned (.slice A n c) ∧ w'.ownsRow w.heap.size 9 1 (.slice A n c) n (strC L) ∧ Below w.heap.size w w'
theorem strs_own2 {w : World} {base n q : Nat} {v : Value} {L : List ByteArray} (h : w.ownsRow base 9 1 v n (strC L)) (hq : L.length = q) : ∃ A c, v = .slice A q c ∧ w.ownsRow base 9 1 (.slice A q c) q (strC L) := by
  obtain ⟨A, c, rfl⟩ := own_val h
  have := (Strs.own h).1
  obtain rfl : n = q := by omega
  exact ⟨A, c, rfl, h⟩

set_option maxRecDepth 100000 in
set_option maxHeartbeats 4000000 in
theorem refPart_any (A B C : Option Addr) (base side : List ByteArray) (H : List Hk) (n m q c d e i u r : Nat) (P : List ByteArray) (w : World) (hA : Strs w w.heap.size A c base) (hB : Strs w w.heap.size B d side) (hC : Hks w w.heap.size C e H)
    (hn : base.length = n) (hm : side.length = m) (hq : H.length = q) (hn2 : n ≤ 100000) (hm2 : m ≤ 100000) (hq2 : q ≤ 100000) (hi : i ≤ u) (hu : u ≤ n) (hH : ∀ h ∈ H, h.a0 ≤ h.a1 ∧ h.b0 ≤ h.b1 ∧ h.b1 ≤ m) (hP : partF base side u H i = P) (hr : P.length = r) (hr2 : r ≤ 100000) :
    Calls Try.prog 50 #[.slice A n c, .slice B m d, .slice C q e, .int .i64 (i : Int), .int .i64 (u : Int)] w (PartOut w r P) := by
  have hcA : n ≤ c := by have := hA.cap; omega
  have hcB : m ≤ d := by have := hB.cap; omega
  have hcC : q ≤ e := by have := hC.cap; omega
  have HA := Lib.hid hA
  have HB := Lib.hid hB
  have HC := Lib.hid hC
  have HN := Lib.hid hn
  have HM := Lib.hid hm
  have HQ := Lib.hid hq
  have HH := Lib.hid hH
  have HPP := Lib.hid hP
  have HR := Lib.hid hr
  clear hA hB hC hn hm hq hH hP hr
  go_enter Try.func50, Try.ntmps50
  go_wp2
  go_loopw [3, 11, 12] (fun v3 v11 v12 wr => ∃ (k f : Nat) (L : List ByteArray), k ≤ q ∧ f ≤ u ∧ v12 = .int .i64 (k : Int) ∧ v3 = .int .i64 (f : Int) ∧ Hid (L ++ partF base side u (H.drop k) f = P) ∧ Hid (wr.ownsRow w.heap.size 9 1 v11 L.length (strC L)) ∧ Hid (Below w.heap.size w wr)) (fun _ _ v12 _ => q - (intOf v12).toNat)
  case atStart => exact ⟨0, i, [], Nat.zero_le _, hi, rfl, rfl, HPP, Lib.hid ⟨rfl, .inl ⟨rfl, rfl⟩⟩, Lib.hid (Below.refl _ _)⟩
  case round =>
    obtain ⟨k, f, L, hk, hf, rfl, rfl, HD, HO, HBW⟩ := hrel
    have hk0 : (0 : Int) ≤ (k : Int) := Int.natCast_nonneg _
    have hf0 : (0 : Int) ≤ (f : Int) := Int.natCast_nonneg _
    by_cases hlt : k < q
    · have hk1 : (k : Int) < (q : Int) := by omega
      have hkl : k < H.length := by rw [HQ.out]; exact hlt
      obtain ⟨ad, rfl, _⟩ := hks_at HC.out hkl
      have hcell := fun (W : World) (hW : Below w.heap.size w W) => hks_cells (Row.below HC.out hW (Nat.le_refl _)) hkl
      obtain ⟨hx1, hx2, hx3⟩ := HH.out _ (List.getElem_mem hkl)
      have hd := HD.out
      rw [List.drop_eq_getElem_cons hkl] at hd
      obtain ⟨x, hx⟩ : ∃ x, H[k] = x := ⟨_, rfl⟩
      rw [hx] at hcell hx1 hx2 hx3 hd
      obtain ⟨c0, c1, c2, c3⟩ := hcell wr HBW.out
      have HCELL := Lib.hid hcell
      clear hcell hx c2 c3
      rw [partF] at hd
      by_cases h1 : f ≤ x.a0
      · have i1 : (f : Int) ≤ (x.a0 : Int) := by omega
        have d1 : decide ((f : Int) ≤ (x.a0 : Int)) = true := by simpa using i1
        by_cases h2 : x.a1 ≤ u
        · have i2 : (x.a1 : Int) ≤ (u : Int) := by omega
          have d2 : decide ((x.a1 : Int) ≤ (u : Int)) = true := by simpa using i2
          rw [if_pos ⟨h1, h2⟩] at hd
          have la := strs_lh A base c f x.a0 h1 (by rw [HN.out]; omega) (by rw [HN.out]; omega)
          rw [HN.out] at la
          obtain ⟨A1, r1, l1, K1⟩ := la
          have lb := strs_lh B side d x.b0 x.b1 hx2 (by rw [HM.out]; omega) (by rw [HM.out]; omega)
          rw [HM.out] at lb
          obtain ⟨B1, r2, l2, K2⟩ := lb
          have hlen := congrArg List.length hd
          rw [HR.out, List.length_append, List.length_append, List.length_append] at hlen
          obtain ⟨S1, hS1⟩ : ∃ S, seg base f x.a0 = S := ⟨_, rfl⟩
          obtain ⟨S2, hS2⟩ : ∃ S, seg side x.b0 x.b1 = S := ⟨_, rfl⟩
          have e1 : (base.drop f).take (x.a0 - f) = S1 := hS1
          have e2 : (side.drop x.b0).take (x.b1 - x.b0) = S2 := hS2
          rw [e1] at l1 K1
          rw [e2] at l2 K2
          rw [hS1, hS2] at hd hlen
          have HKA := Lib.hid (fun (W : World) (hW : Below w.heap.size w W) => K1 W w.heap.size (Row.below HA.out hW (Nat.le_refl _)))
          have HKB := Lib.hid (fun (W : World) (hW : Below w.heap.size w W) => K2 W w.heap.size (Row.below HB.out hW (Nat.le_refl _)))
          have HL1 := Lib.hid l1
          have HL2 := Lib.hid l2
          have HD2 : Hid ((L ++ S1 ++ S2) ++ partF base side u (H.drop (k + 1)) x.a1 = P) := Lib.hid (by rw [← hd]; simp only [List.append_assoc])
          have b1 : L.length + (x.a0 - f) + (x.b1 - x.b0) ≤ 100000 := by omega
          have i3 : (x.a0 : Int) ≤ (n : Int) := by omega
          have i4 : (x.b0 : Int) ≤ (x.b1 : Int) := by omega
          have i5 : (x.b1 : Int) ≤ (m : Int) := by omega
          clear hd hS1 hS2 e1 e2 K1 K2 l1 l2 hlen h1
          go_upto_region 7 with (at_builtin; refine append_strs rfl _ _ rfl w.heap.size u11 L.length (strC L) rfl HO.out A1 (x.a0 - f) (c - f) w.heap.size S1 (by rfl) (HKA.out wr HBW.out) HL1.out (by omega) HBW.out.size ?_; intro v1 w1 ho1 hg1; have hb1 := HBW.out.grown hg1 HBW.out.size (row_ge HO.out); obtain ⟨-, c1, c2, c3⟩ := HCELL.out w1 hb1)
          clear c0
          have hdr1 := hb1
          obtain ⟨w1d, hw1d⟩ : ∃ wd, w1.drew = wd := ⟨_, rfl⟩
          have ho1d := own_drew ho1
          have hb1d : Below w.heap.size w w1.drew := Below.drew hb1
          rw [hw1d] at ho1d hb1d
          obtain ⟨-, c1d, c2d, c3d⟩ := HCELL.out w1d hb1d
          have HB1D := Lib.hid hb1d
          have HO1D := Lib.hid ho1d
          have HW1D := Lib.hid hw1d
          clear ho1 hg1 hb1 hdr1 hw1d ho1d hb1d
          go_still_tail 13, (by kernel_rfl)
          change wpList _ _ _ _ _ w1.drew
          rw [HW1D.out]
          go_wp2_with (at_builtin; refine append_strs rfl _ _ rfl w.heap.size v1 (L.length + (x.a0 - f)) (strC L ++ strC S1) rfl HO1D.out B1 (x.b1 - x.b0) (d - x.b0) w.heap.size S2 (by rfl) (HKB.out w1d HB1D.out) HL2.out (by omega) HB1D.out.size ?_; intro v2 w2 ho2 hg2; have hb2 := HB1D.out.grown hg2 HB1D.out.size (row_ge HO1D.out); obtain ⟨-, c1, -, -⟩ := HCELL.out w2 hb2)
          go_roundw
          case rel =>
            exact ⟨k + 1, x.a1, L ++ S1 ++ S2, by omega, h2, by go_num, rfl, HD2, Lib.hid (own_eq ho2 rfl (by rw [List.length_append, List.length_append, HL1.out, HL2.out]) (by rw [strC_apd, strC_apd])), Lib.hid hb2⟩
          case measure => simp [intOf]; omega
        · have i2 : ¬ (x.a1 : Int) ≤ (u : Int) := by omega
          have d2 : decide ((x.a1 : Int) ≤ (u : Int)) = false := decide_eq_false i2
          rw [if_neg (fun h => h2 h.2)] at hd
          have HD2 := Lib.hid hd
          clear hd h1 h2
          go_wp2_with fail
          go_roundw
          case rel => exact ⟨k + 1, f, L, by omega, hf, by go_num, rfl, HD2, HO, HBW⟩
          case measure => simp [intOf]; omega
      · have i1 : ¬ (f : Int) ≤ (x.a0 : Int) := by omega
        have d1 : decide ((f : Int) ≤ (x.a0 : Int)) = false := decide_eq_false i1
        rw [if_neg (fun h => h1 h.1)] at hd
        have HD2 := Lib.hid hd
        clear hd h1
        go_wp2_with fail
        go_roundw
        case rel => exact ⟨k + 1, f, L, by omega, hf, by go_num, rfl, HD2, HO, HBW⟩
        case measure => simp [intOf]; omega
    · obtain rfl : k = q := by omega
      have hd := HD.out
      rw [List.drop_eq_nil_of_le (Nat.le_of_eq HQ.out), partF] at hd
      have la := strs_lh A base c f u hf (by rw [HN.out]; omega) (by rw [HN.out]; omega)
      rw [HN.out] at la
      obtain ⟨A1, r1, l1, K1⟩ := la
      have hlen := congrArg List.length hd
      rw [HR.out, List.length_append] at hlen
      obtain ⟨S1, hS1⟩ : ∃ S, seg base f u = S := ⟨_, rfl⟩
      have e1 : (base.drop f).take (u - f) = S1 := hS1
      rw [e1] at l1 K1
      rw [hS1] at hd hlen
      have HKA := Lib.hid (fun (W : World) (hW : Below w.heap.size w W) => K1 W w.heap.size (Row.below HA.out hW (Nat.le_refl _)))
      have HL1 := Lib.hid l1
      have HDF := Lib.hid hd
      have b1 : L.length + (u - f) ≤ 100000 := by omega
      have i3 : (f : Int) ≤ (u : Int) := by omega
      have i4 : (u : Int) ≤ (n : Int) := by omega
      clear hd hS1 e1 K1 l1 hlen
      go_wp2_with (at_builtin; refine append_strs rfl _ _ rfl w.heap.size u11 L.length (strC L) rfl HO.out A1 (u - f) (c - f) w.heap.size S1 (by rfl) (HKA.out wr HBW.out) HL1.out (by omega) HBW.out.size ?_; intro v1 w1 ho1 hg1)
      obtain ⟨A9, c9, rfl, hS9⟩ := strs_own2 (q := r) (L := P) (by rw [← HDF.out, strC_apd]; exact ho1) HR.out
      go_ret
      exact ⟨A9, c9, rfl, hS9, HBW.out.grown hg1 HBW.out.size (row_ge HO.out)⟩
end Go.Proofs.Ytmeoannheomdoaa
