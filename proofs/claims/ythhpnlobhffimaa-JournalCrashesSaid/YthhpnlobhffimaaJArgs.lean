/- The laws' arguments: lists of pairs, lists of integers; records. -/
import Derived.Test.YthhpnlobhffimaaJRec
import Derived.Test.YthhpnlobhffimaaJSame
import Derived.Deep.Slices
import Derived.Deep.Strs
import Derived.Laws.IdiomArrays
namespace Go.Proofs.Ythhpnlobhffimaa
set_option maxRecDepth 100000
open Go.ChangeShapes Go.WideShapes Go.ChangeAt Go.RowKit Go.Maps

def Prs (w : World) (B : Nat) (A : Option Addr) (c : Nat) (l : List (Int × Int)) : Prop := Row w B 2 A l.length c (l.flatMap fun x => [.int .i64 x.1, .int .i64 x.2]) ∧ ∀ x ∈ l, (Lit.int .i64 x.1).wf = true ∧ (Lit.int .i64 x.2).wf = true
theorem Prs.at_ {w : World} {B c : Nat} {A : Option Addr} {l : List (Int × Int)} (h : Prs w B A c l) {k : Nat} (hk : k < l.length) : ∃ ad x y, A = some ad ∧ ad.block < B ∧ w.cell? (ad.add (k * 2)) = some (.int .i64 x) ∧ w.cell? ⟨(ad.add (k * 2)).block, (ad.add (k * 2)).off + 1, none⟩ = some (.int .i64 y) ∧ (Lit.int .i64 x).wf = true ∧ (Lit.int .i64 y).wf = true := by
  have e := fun j (hj : j < 2) => flat_at (fun x : Int × Int => [Value.int .i64 x.1, Value.int .i64 x.2]) 2 (fun _ => rfl) l k j hk hj
  obtain ⟨ad, ea, hb, c0⟩ := h.1.2.2.2 (k * 2 + 0) _ ((e 0 (by omega)).trans rfl)
  obtain ⟨ad', ea', _, c1⟩ := h.1.2.2.2 (k * 2 + 1) _ ((e 1 (by omega)).trans rfl)
  obtain rfl : ad = ad' := by rw [ea] at ea'; injection ea'
  have hw := h.2 l[k] (List.getElem_mem hk)
  refine ⟨ad, l[k].1, l[k].2, ea, hb, c0, ?_, hw.1, hw.2⟩
  rw [← c1, ← add_twice]
  rfl
theorem Prs.on {w w' : World} {c : Nat} {A : Option Addr} {l : List (Int × Int)} {B : Nat} (h : Prs w B A c l) (hb : Below B w w') : Prs w' B A c l := ⟨h.1.below hb (Nat.le_refl _), h.2⟩
theorem list_of {α : Type} : ∀ (n : Nat) (P : Nat → α → Prop), (∀ i, i < n → ∃ y, P i y) → ∃ l : List α, l.length = n ∧ ∀ i (h : i < l.length), P i l[i]
  | 0, P, _ => ⟨[], rfl, fun i h => by simp at h⟩
  | n + 1, P, h => by
    obtain ⟨l, hl, hP⟩ := list_of n P fun i hi => h i (by omega)
    obtain ⟨y, hy⟩ := h n (by omega)
    refine ⟨l ++ [y], by simp [hl], fun i hi => ?_⟩
    by_cases hin : i < l.length
    · rw [List.getElem_append_left hin]; exact hP i hin
    · have : i = l.length := by simp at hi; omega
      subst this
      simp
      rw [hl]; exact hy

section
variable {H : Type} {enc : TypeId × Value → H} {W : World} {b2 : Nat} {sp : Nat → Bool} {held : Bool}
theorem cells1 {a : Addr} {cs : List Value} (h : W.cells? b2 a 1 = some cs) : ∃ c0, cs = [c0] ∧ W.cell? a = some c0 := by
  obtain ⟨_, hl, hc⟩ := World.cells?_some h
  match cs, hl with
  | [c0], _ =>
    have h0 := hc 0 (by omega)
    rw [show a.add 0 = a by simp [Addr.add]] at h0
    exact ⟨c0, rfl, by simpa using h0⟩
theorem cells2 {a : Addr} {cs : List Value} (h : W.cells? b2 a 2 = some cs) : ∃ c0 c1, cs = [c0, c1] ∧ W.cell? a = some c0 ∧ W.cell? (a.add 1) = some c1 := by
  obtain ⟨_, hl, hc⟩ := World.cells?_some h
  match cs, hl with
  | [c0, c1], _ =>
    have h0 := hc 0 (by omega)
    rw [show a.add 0 = a by simp [Addr.add]] at h0
    exact ⟨c0, c1, rfl, by simpa using h0, by simpa using hc 1 (by omega)⟩
theorem open_ints {b1 : Nat} {v : Value} {d : DataW H} {p : List MemPlace} (h : DataW.Trod enc Try.prog W b2 sp held 56 v d p) (hval : Value.okWide Try.prog W .any b1 56 v) :
    ∃ (A : Option Addr) (zs : List Int) (c : Nat), v = .slice A zs.length c ∧ Row W W.heap.size 1 A zs.length c (intC zs) ∧ zs.length ≤ maxLen := by
  obtain ⟨fuel, hf⟩ := h
  have hv : v.cells.toList = [v] := by
    obtain ⟨a, n, c, rfl⟩ := okWide_slice Try.underlying56 hval
    rfl
  rw [hv] at hf
  have hc3 : Try.prog.cellsOf 3 = 1 := by kernel_rfl
  rcases Go.Deep.open_slice Try.underlying56 hf with ⟨h0, _⟩ | ⟨a, len, cap, m, fu, D, Pl, h0, hb, hlc, hcm, hm, _, hel⟩
  · obtain rfl : v = .slice none 0 0 := by simpa using h0
    exact ⟨none, [], 0, rfl, Row.empty _ _ _, Nat.zero_le _⟩
  · obtain rfl : v = .slice (some a) len cap := by simpa using h0
    have hlm : len ≤ m := by rw [hm]; split <;> omega
    obtain ⟨zs, hzl, hz⟩ := list_of len (fun i (z : Int) => W.cell? (a.add i) = some (.int .i64 z)) fun i hi => by
      obtain ⟨cs', hcs, ht⟩ := hel i (by omega)
      rw [hc3, Nat.mul_one] at hcs
      obtain ⟨c0, rfl, k0⟩ := cells1 hcs
      obtain ⟨x0, e0, _⟩ := DataW.trod_int (k := .i64) Try.underlying3 ht
      simp only [List.cons.injEq, and_true] at e0
      subst e0
      exact ⟨x0, k0⟩
    refine ⟨some a, zs, cap, by rw [hzl], ⟨by rw [intC_len, Nat.mul_one], by omega, fun e => (by cases e), fun j u hj => ?_⟩, by omega⟩
    unfold intC at hj
    rw [List.getElem?_map] at hj
    obtain ⟨z, hz1, rfl⟩ := Option.map_eq_some_iff.1 hj
    obtain ⟨hjl, rfl⟩ := List.getElem?_eq_some_iff.1 hz1
    have hc := hz j hjl
    refine ⟨a, rfl, ?_, hc⟩
    have := World.block_lt_of_cell? W _ hc
    rwa [add_block] at this
theorem open_prs {b1 : Nat} {v : Value} {d : DataW H} {p : List MemPlace} (h : DataW.Trod enc Try.prog W b2 sp held 22 v d p) (hval : Value.okWide Try.prog W .any b1 22 v) :
    ∃ (A : Option Addr) (qs : List (Int × Int)) (c : Nat), v = .slice A qs.length c ∧ Prs W W.heap.size A c qs ∧ qs.length ≤ maxLen := by
  obtain ⟨fuel, hf⟩ := h
  have hv : v.cells.toList = [v] := by
    obtain ⟨a, n, c, rfl⟩ := okWide_slice Try.underlying22 hval
    rfl
  rw [hv] at hf
  have hc51 : Try.prog.cellsOf 51 = 2 := by kernel_rfl
  have hc3 : Try.prog.cellsOf 3 = 1 := by kernel_rfl
  rcases Go.Deep.open_slice Try.underlying22 hf with ⟨h0, _⟩ | ⟨a, len, cap, m, fu, D, Pl, h0, hb, hlc, hcm, hm, _, hel⟩
  · obtain rfl : v = .slice none 0 0 := by simpa using h0
    exact ⟨none, [], 0, rfl, ⟨Row.empty _ _ _, fun x hx => by cases hx⟩, Nat.zero_le _⟩
  · obtain rfl : v = .slice (some a) len cap := by simpa using h0
    have hlm : len ≤ m := by rw [hm]; split <;> omega
    obtain ⟨qs, hql, hq⟩ := list_of len (fun i (q : Int × Int) => (W.cell? (a.add (i * 2)) = some (.int .i64 q.1) ∧ W.cell? (a.add (i * 2 + 1)) = some (.int .i64 q.2)) ∧ (Lit.int .i64 q.1).wf = true ∧ (Lit.int .i64 q.2).wf = true) fun i hi => by
      obtain ⟨cs', hcs, ht⟩ := hel i (by omega)
      rw [hc51] at hcs
      obtain ⟨c0, c1, rfl, k0, k1⟩ := cells2 hcs
      obtain ⟨xs, n, _, _, _, hxl, hat⟩ := DataW.trod_array Try.underlying51 ht
      rw [hc3] at hat
      have h0 := hat 0 (by omega)
      have h1 := hat 1 (by omega)
      rw [List.getElem?_eq_getElem (by omega)] at h0 h1
      obtain ⟨x0, e0, _, w0⟩ := DataW.trod_int (k := .i64) Try.underlying3 h0
      obtain ⟨x1, e1, _, w1⟩ := DataW.trod_int (k := .i64) Try.underlying3 h1
      have e0' : c0 = .int .i64 x0 := by simpa using e0
      have e1' : c1 = .int .i64 x1 := by simpa using e1
      subst e0' e1'
      rw [Go.Deep.add_add] at k1
      exact ⟨(x0, x1), ⟨k0, k1⟩, w0, w1⟩
    have hw : ∀ x ∈ qs, (Lit.int .i64 x.1).wf = true ∧ (Lit.int .i64 x.2).wf = true := fun x hx => by
      obtain ⟨i, hi, rfl⟩ := List.mem_iff_getElem.1 hx
      exact (hq i hi).2
    have hfl0 : ∀ x : Int × Int, [Value.int .i64 x.1, Value.int .i64 x.2].length = 2 := fun _ => rfl
    refine ⟨some a, qs, cap, by rw [hql], ⟨⟨flat_len _ 2 hfl0 qs, by omega, fun e => (by cases e), fun j u hj => ?_⟩, hw⟩, by omega⟩
    have hjl : j < qs.length * 2 := by have := (List.getElem?_eq_some_iff.1 hj).1; rwa [flat_len _ 2 hfl0 qs] at this
    have hk : j / 2 < qs.length := by omega
    have hfl := flat_at (fun x : Int × Int => [Value.int .i64 x.1, Value.int .i64 x.2]) 2 hfl0 qs (j / 2) (j % 2) hk (Nat.mod_lt _ (by omega))
    rw [show j / 2 * 2 + j % 2 = j by omega] at hfl
    rw [hfl] at hj
    obtain ⟨⟨q0, q1⟩, _⟩ := hq (j / 2) hk
    have hc : W.cell? (a.add j) = some u := by
      rcases (show j % 2 = 0 ∨ j % 2 = 1 by omega) with e | e
      · rw [e] at hj; rw [show j / 2 * 2 = j by omega] at q0; rw [q0, ← hj]; rfl
      · rw [e] at hj; rw [show j / 2 * 2 + 1 = j by omega] at q1; rw [q1, ← hj]; rfl
    refine ⟨a, rfl, ?_, hc⟩
    have := World.block_lt_of_cell? W _ hc
    rwa [add_block] at this
end

/-- a few short records -/
def SmallL (n : Nat) (w : World) (e : Ending) (w' : World) : Prop := ∃ L : List ByteArray, L.length = min n 10 ∧ (∀ s ∈ L, s.size ≤ 300) ∧ StrsOut w L e w'
set_option maxHeartbeats 2000000 in
theorem records_any (w : World) {B : Nat} (A : Option Addr) (l : List (Int × Int)) (c : Nat) (hA : Prs w B A c l) (hB : B ≤ w.heap.size) (hl : l.length ≤ maxLen) : Calls Try.prog 15 #[.slice A l.length c] w (SmallL l.length w) := by
  unfold SmallL StrsOut
  obtain ⟨i0, hi, hz0, hz1, hz2⟩ := info_parts info9
  have H0 : Hid (w.ownsRow w.heap.size 9 1 (.slice none 0 0) 0 (strC [])) := Lib.hid (World.ownsRow_nil _ _ _ _)
  have HB0 : Hid (Below w.heap.size w w) := Lib.hid (Below.refl _ w)
  have HA := Lib.hid hA
  have RA := Lib.hid record_any
  unfold SmallS at RA
  have hlm : (l.length : Int) ≤ 9223372036854775807 := by unfold maxLen at hl; omega
  have hcap : l.length ≤ c := hA.1.2.1
  obtain ⟨n, hn⟩ : ∃ n, l.length = n := ⟨_, rfl⟩
  rw [hn] at hlm hcap ⊢
  have HN := Lib.hid hn
  clear hn hA hl
  go_enter Try.func15, Try.ntmps15
  go_upto_region 3 with fail
  go_loopw [3, 4] (fun v3 v4 wr => ∃ (k : Nat) (L : List ByteArray) (A3 : Option Addr) (c3 : Nat), v4 = .int .i64 (k : Int) ∧ v3 = .slice A3 k c3 ∧ L.length = k ∧ k ≤ min n 10 ∧ Hid (∀ s ∈ L, s.size ≤ 300) ∧ Hid (wr.ownsRow w.heap.size 9 1 (.slice A3 k c3) k (strC L)) ∧ Hid (Below w.heap.size w wr)) (fun _ v4 _ => 10 - (intOf v4).toNat)
  case atStart => exact ⟨0, [], none, 0, rfl, rfl, rfl, Nat.zero_le _, Lib.hid (fun s hs => by cases hs), H0, HB0⟩
  case round =>
    obtain ⟨k, L, A3, c3, rfl, rfl, hL, hk, HS, HO, HBk⟩ := hrel
    have k0 : (0 : Int) ≤ (k : Int) := Int.natCast_nonneg _
    have h10 : k ≤ 10 := by omega
    by_cases hlt : k < n
    · have k1 : (k : Int) < (n : Int) := by omega
      by_cases hlt10 : k < 10
      · have k2 : (k : Int) < 10 := by omega
        obtain ⟨ad, x, y, rfl, hab, c0, c1, wx, wy⟩ := (HA.out.on (HBk.out.mono hB)).at_ (k := k) (by rw [HN.out]; exact hlt)
        have hsB := HBk.out.size
        have hrow := HO.out
        clear wx wy hL
        go_wp2_with (first
          | (go_at_call 29; ((with_reducible refine (RA.out x y wr).mono ?_); rintro e w3 ⟨s, rfl, hs3, hb3⟩; (have hrow3 := own_keep hrow hb3)))
          | (at_builtin; refine wpList_append_own _ rfl _ _ 27 rfl w.heap.size 9 i0 (.string ⟨#[]⟩) 1 16 Try.underlying27 hi hz0 hz1 hz2 rfl (by decide) (.slice A3 k c3) _ _ rfl (hrow3.alloc _) ⟨w3.heap.size, 0, none⟩ 1 1 [.string s] rfl rfl (cell_one_new _ _ _) (by simp [Value.oneCell']) (by unfold maxLen; omega) (by omega) (by have := hb3.size; simp; omega) ?_; intro v' w4 hown' hgrow _; obtain ⟨A4, c4, rfl⟩ := own_form hown')
          | (fail "arm"))
        have hbb : Below w.heap.size w w4 := (HBk.out.trans (hb3.mono hsB)).trans ((((Below.refl _ w3).alloc (Nat.le_trans hsB hb3.size) _).grown hgrow (by have := hb3.size; simp; omega) (fun g hg => row_ge hrow3 g hg)))
        have HO4 := Lib.hid (show w4.ownsRow w.heap.size 9 1 (.slice A4 (k + 1) c4) (k + 1) (strC (L ++ [s])) from by rw [strC_snoc]; exact hown')
        have HB4 := Lib.hid hbb
        have HS4 : Hid (∀ s' ∈ L ++ [s], s'.size ≤ 300) := Lib.hid (fun s' hs' => by
          rcases List.mem_append.1 hs' with h | h
          · exact HS.out s' h
          · simp at h; subst h; exact hs3)
        have hL4 : (L ++ [s]).length = k + 1 := by
          have := hrow.1
          simp [strC] at this
          simp [this]
        clear hbb hown' hgrow hrow3 hb3
        go_roundw
        case rel => exact ⟨k + 1, L ++ [s], A4, c4, by go_num, rfl, hL4, by omega, HS4, HO4, HB4⟩
        case measure => simp [intOf]; omega
      · obtain rfl : k = 10 := by omega
        rw [show ((10 : Nat) : Int) = 10 from rfl] at k1 ⊢
        go_wp2
        go_ret
        exact ⟨L, by omega, HS.out, A3, c3, by rw [hL]; rfl, by rw [hL]; exact HO.out, HBk.out⟩
    · obtain rfl : k = n := by omega
      go_wp2
      go_ret
      exact ⟨L, by omega, HS.out, A3, c3, by rw [hL]; rfl, by rw [hL]; exact HO.out, HBk.out⟩
end Go.Proofs.Ythhpnlobhffimaa
