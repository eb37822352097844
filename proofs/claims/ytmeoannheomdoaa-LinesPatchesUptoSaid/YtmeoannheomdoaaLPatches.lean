/- LinesPatches, where what it reads is of a bulk of at most 1048576: Patch returns what the reference implementation returns, for all hunks, whether they fit or not. -/
import Derived.Test.YtmeoannheomdoaaRaw
import Derived.Test.YtmeoannheomdoaaRefDiff
import Derived.Test.YtmeoannheomdoaaLaw
namespace Go.Proofs.Ytmeoannheomdoaa.lpatches
open Go.ChangeShapes Go.WideShapes Go.ChangeAt Go.RowKit

theorem toZ_inj {x y : Hk} (h : toZ x = toZ y) : x = y := by
  obtain ⟨a, b, c, d⟩ := x
  obtain ⟨a', b', c', d'⟩ := y
  unfold toZ at h
  injection h with h1 h2 h3 h4
  dsimp only at h1 h2 h3 h4
  obtain rfl : a = a' := by omega
  obtain rfl : b = b' := by omega
  obtain rfl : c = c' := by omega
  obtain rfl : d = d' := by omega
  rfl
theorem map_toZ : ∀ {H T : List Hk}, H.map toZ = T.map toZ → H = T
  | [], [], _ => rfl
  | [], _ :: _, h => by simp at h
  | _ :: _, [], h => by simp at h
  | x :: H, y :: T, h => by
    rw [List.map_cons, List.map_cons] at h
    injection h with h1 h2
    rw [toZ_inj h1, map_toZ h2]
/-- both functions return the same lines -/
theorem both_patch (a b : List ByteArray) (H : List Hz) (n m p : Nat) (hn : a.length = n) (hm : b.length = m) (hp : H.length = p) (hn2 : n ≤ 40) (hm2 : m ≤ 40) (hp2 : p ≤ 1048576) :
    ∃ (q : Nat) (P : List ByteArray), P.length = q ∧ q ≤ 200000000 ∧
      (∀ (A B C : Option Addr) (c d e : Nat) (W : World), Strs W W.heap.size A c a → Strs W W.heap.size B d b → Hzs W W.heap.size C e H → Calls Try.prog 25 #[.slice A n c, .slice B m d, .slice C p e] W (ListOut W q P)) ∧
      ∀ (A B C : Option Addr) (c d e : Nat) (W : World), Strs W W.heap.size A c a → Strs W W.heap.size B d b → Hzs W W.heap.size C e H → Calls Try.prog 26 #[.slice A n c, .slice B m d, .slice C p e] W (ListOut W q P) := by
  by_cases hF : FitZ n m 0 H
  · obtain ⟨H', e, hL⟩ := fit_nat H 0 (Nat.zero_le _) (by simpa using hF)
    have hl : H'.length = p := by rw [← hp, e, List.length_map]
    rw [← hn, ← hm] at hL
    refine ⟨(patchG a b 0 H').length, patchG a b 0 H', rfl, ?_, fun A B C c d e' W hA hB hC => ?_, fun A B C c d e' W hA hB hC => ?_⟩
    · have := patch_small a b 40 (by omega) H' 0 hL
      have h2 := Nat.mul_le_mul_right 40 hp2
      rw [hl] at this
      omega
    · rw [e] at hC
      refine (patch_big A B C a b H' n m p c d e' (patchG a b 0 H').length W hA hB hC.hks hL hn hm hl rfl (by omega) (by omega) hp2).mono ?_
      rintro e2 w' ⟨g, rfl, hS, _, _, hb⟩
      exact ⟨_, _, rfl, hS, hb⟩
    · refine (refPatch_any A B C a b H n m p c d e' (patchG a b 0 H').length (patchG a b 0 H') W hA hB hC hn hm hp hn2 hm2 hp2 (fun T hT => by rw [map_toZ (hT.symm.trans e)]) rfl).mono ?_
      rintro e2 w' ⟨v, rfl, hb, ⟨_, A', c', rfl, hS⟩ | ⟨hno, _⟩⟩
      · exact ⟨A', c', rfl, hS, hb⟩
      · exact absurd hF hno
  · refine ⟨0, [], rfl, Nat.zero_le _, fun A B C c d e' W hA hB hC => patch_none A B C n m p c d e' H W hC hF hp (by omega) (by omega) (by omega), fun A B C c d e' W hA hB hC => ?_⟩
    obtain ⟨P, hP⟩ : ∃ P, ∀ H', H = H'.map toZ → patchG a b 0 H' = P := by
      by_cases hx : ∃ H' : List Hk, H = H'.map toZ
      · obtain ⟨T, hT⟩ := hx
        exact ⟨patchG a b 0 T, fun T' hT' => by rw [map_toZ (hT'.symm.trans hT)]⟩
      · exact ⟨[], fun T hT => absurd ⟨T, hT⟩ hx⟩
    refine (refPatch_any A B C a b H n m p c d e' P.length P W hA hB hC hn hm hp hn2 hm2 hp2 hP rfl).mono ?_
    rintro e2 w' ⟨v, rfl, hb, ⟨h, _⟩ | ⟨_, rfl⟩⟩
    · exact absurd h hF
    · exact ⟨none, 0, rfl, Row.empty _ _ _, hb⟩
theorem same_long (A B : Option Addr) (P : List ByteArray) (c d q : Nat) (W : World) (hA : Strs W W.heap.size A c P) (hB : Strs W W.heap.size B d P) (hq : P.length = q) (h : q ≤ 200000000) : Calls Try.prog 17 #[.slice A q c, .slice B q d] W (BoolB W true) := by
  subst hq
  have h := same_any W.heap.size A B P P c d W hA hB (by omega) (by omega)
  rw [decide_eq_true rfl] at h
  exact h.mono fun _ _ h => bool_of h

section
variable {H : Type} {enc : TypeId × Value → H} {W : World} {b2 : Nat} {sp : Nat → Bool} {held : Bool}
theorem bulk_pos (d : DataW H) : 1 ≤ Rows.uptoBulk d := by
  cases d <;> first | (simp [Rows.uptoBulk]; done) | (rename_i l; cases l <;> simp [Rows.uptoBulk])
theorem bulk_len : ∀ (l : List (DataW H)), l.length ≤ Rows.uptoBulkAll l
  | [] => Nat.zero_le _
  | d :: r => by
    have h1 := bulk_pos d
    have h2 := bulk_len r
    simp only [Rows.uptoBulkAll, List.length_cons]
    omega
theorem cells4 {a : Addr} {cs : List Value} (h : W.cells? b2 a 4 = some cs) : ∃ c0 c1 c2 c3, cs = [c0, c1, c2, c3] ∧ W.cell? a = some c0 ∧ W.cell? (a.add 1) = some c1 ∧ W.cell? (a.add 2) = some c2 ∧ W.cell? (a.add 3) = some c3 := by
  obtain ⟨_, hl, hc⟩ := World.cells?_some h
  match cs, hl with
  | [c0, c1, c2, c3], _ =>
    have h0 := hc 0 (by omega)
    rw [show a.add 0 = a by simp [Addr.add]] at h0
    exact ⟨c0, c1, c2, c3, rfl, by simpa using h0, by simpa using hc 1 (by omega), by simpa using hc 2 (by omega), by simpa using hc 3 (by omega)⟩
theorem open_hunks {b1 : Nat} {v : Value} {d : DataW H} {p : List MemPlace} (h : DataW.Trod enc Try.prog W b2 sp held 33 v d p) (hval : Value.okWide Try.prog W .any b1 33 v) :
    ∃ (A : Option Addr) (qs : List Hz) (c : Nat), v = .slice A qs.length c ∧ Hzs W W.heap.size A c qs ∧ qs.length ≤ Rows.uptoBulk d := by
  obtain ⟨fuel, hf⟩ := h
  have hv : v.cells.toList = [v] := by
    obtain ⟨a, n, c, rfl⟩ := okWide_slice Try.underlying33 hval
    rfl
  rw [hv] at hf
  have hc40 : Try.prog.cellsOf 40 = 4 := by kernel_rfl
  have hc3 : Try.prog.cellsOf 3 = 1 := by kernel_rfl
  rcases Go.Deep.open_slice Try.underlying33 hf with ⟨h0, _⟩ | ⟨a, len, cap, m, fu, D, Pl, h0, hb, hlc, hcm, hm, hx, hel⟩
  · obtain rfl : v = .slice none 0 0 := by simpa using h0
    exact ⟨none, [], 0, rfl, Row.empty _ _ _, Nat.zero_le _⟩
  · obtain rfl : v = .slice (some a) len cap := by simpa using h0
    have hlm : len ≤ m := by rw [hm]; split <;> omega
    obtain ⟨qs, hql, hq⟩ := list_of len (fun i (q : Hz) => W.cell? (a.add (i * 4)) = some (.int .i64 q.z0) ∧ W.cell? (a.add (i * 4 + 1)) = some (.int .i64 q.z1) ∧ W.cell? (a.add (i * 4 + 2)) = some (.int .i64 q.z2) ∧ W.cell? (a.add (i * 4 + 3)) = some (.int .i64 q.z3)) fun i hi => by
      obtain ⟨cs', hcs, ht⟩ := hel i (by omega)
      rw [hc40] at hcs
      obtain ⟨c0, c1, c2, c3, rfl, k0, k1, k2, k3⟩ := cells4 hcs
      obtain ⟨y0, y1, y2, y3, n, _, _, t0, t1, t2, t3⟩ := Joins.trod_struct4 Try.underlying40 ht
      simp only [hc3, List.drop_zero, List.drop_succ_cons, List.take_succ_cons, List.take_zero] at t0 t1 t2 t3
      obtain ⟨x0, e0, _⟩ := DataW.trod_int (k := .i64) Try.underlying3 t0
      obtain ⟨x1, e1, _⟩ := DataW.trod_int (k := .i64) Try.underlying3 t1
      obtain ⟨x2, e2, _⟩ := DataW.trod_int (k := .i64) Try.underlying3 t2
      obtain ⟨x3, e3, _⟩ := DataW.trod_int (k := .i64) Try.underlying3 t3
      simp only [List.cons.injEq, and_true] at e0 e1 e2 e3
      subst e0 e1 e2 e3
      rw [Go.Deep.add_add] at k1 k2 k3
      exact ⟨⟨x0, x1, x2, x3⟩, k0, k1, k2, k3⟩
    refine ⟨some a, qs, cap, by rw [hql], ⟨flat_len hzC 4 hzC_len qs, by omega, fun e => (by cases e), fun j u hj => ?_⟩, ?_⟩
    · have hjl : j < qs.length * 4 := by have := (List.getElem?_eq_some_iff.1 hj).1; rwa [show (hzsC qs).length = qs.length * 4 from flat_len hzC 4 hzC_len qs] at this
      have hk : j / 4 < qs.length := by omega
      have hr : j % 4 < 4 := Nat.mod_lt _ (by omega)
      have hfl : (hzsC qs)[j]? = (hzC qs[j / 4])[j % 4]? := by
        have := flat_at hzC 4 hzC_len qs (j / 4) (j % 4) hk hr
        rwa [show j / 4 * 4 + j % 4 = j by omega] at this
      rw [hfl] at hj
      obtain ⟨q0, q1, q2, q3⟩ := hq (j / 4) hk
      have hc : W.cell? (a.add j) = some u := by
        rcases (show j % 4 = 0 ∨ j % 4 = 1 ∨ j % 4 = 2 ∨ j % 4 = 3 by omega) with e | e | e | e
        · rw [e] at hj; rw [show j / 4 * 4 = j by omega] at q0; rw [q0, ← hj]; rfl
        · rw [e] at hj; rw [show j / 4 * 4 + 1 = j by omega] at q1; rw [q1, ← hj]; rfl
        · rw [e] at hj; rw [show j / 4 * 4 + 2 = j by omega] at q2; rw [q2, ← hj]; rfl
        · rw [e] at hj; rw [show j / 4 * 4 + 3 = j by omega] at q3; rw [q3, ← hj]; rfl
      refine ⟨a, rfl, ?_, hc⟩
      have := World.block_lt_of_cell? W _ hc
      rwa [add_block] at this
    · obtain rfl : d = .slice ((List.range len).map D) ((List.range (m - len)).map fun j => D (len + j)) := (Prod.mk.inj hx).1
      have := bulk_len ((List.range len).map D)
      rw [List.length_map, List.length_range] at this
      simp only [Rows.uptoBulk]
      omega
end

set_option maxRecDepth 100000 in
set_option maxHeartbeats 8000000 in
theorem walk (A : Option Addr) (zs : List Int) (ca : Nat) (B : Option Addr) (ys : List Int) (cb : Nat) (C : Option Addr) (H : List Hz) (cc : Nat) (w : World) (hA : Ints w w.heap.size A ca zs) (hz : zs.length ≤ maxLen) (hB : Ints w w.heap.size B cb ys) (hy : ys.length ≤ maxLen)
    (hC : Hzs w w.heap.size C cc H) (hh : H.length ≤ 1048576) :
    Calls Try.prog 5 #[.slice A zs.length ca, .slice B ys.length cb, .slice C H.length cc] w (BoolB w true) := by
  have S := Lib.hid (fun W => sane_any W)
  obtain ⟨hsa, hna⟩ := listL_short zs
  obtain ⟨hsb, hnb⟩ := listL_short ys
  obtain ⟨p, hp⟩ : ∃ p, zs.length = p := ⟨_, rfl⟩
  obtain ⟨q, hq⟩ : ∃ q, ys.length = q := ⟨_, rfl⟩
  obtain ⟨t, ht⟩ : ∃ t, H.length = t := ⟨_, rfl⟩
  obtain ⟨a, ha⟩ : ∃ L, listL zs = L := ⟨_, rfl⟩
  obtain ⟨b, hb⟩ : ∃ L, listL ys = L := ⟨_, rfl⟩
  have la := fun (n : Nat) (W : World) (hW : Below w.heap.size w W) (hn : (listL zs).length = n) => list_at w.heap.size A zs ca p n W (Row.below hA hW (Nat.le_refl _)) hW.size hp hn (by omega)
  have lb := fun (n : Nat) (W : World) (hW : Below w.heap.size w W) (hn : (listL ys).length = n) => list_at w.heap.size B ys cb q n W (Row.below hB hW (Nat.le_refl _)) hW.size hq hn (by omega)
  rw [ha] at hsa hna la
  rw [hb] at hsb hnb lb
  obtain ⟨n, hn⟩ : ∃ n, a.length = n := ⟨_, rfl⟩
  obtain ⟨m, hm⟩ : ∃ m, b.length = m := ⟨_, rfl⟩
  obtain ⟨r, hr⟩ : ∃ r, (diff a b).length = r := ⟨_, rfl⟩
  have hdl := diff_len a b
  rw [hn] at hna hdl
  rw [hm] at hnb
  rw [hr] at hdl
  have LA := Lib.hid (fun (W : World) (hW : Below w.heap.size w W) => la n W hW hn)
  have LB := Lib.hid (fun (W : World) (hW : Below w.heap.size w W) => lb m W hW hm)
  have RD := Lib.hid (fun (A B : Option Addr) (c d : Nat) (W : World) (hA : Strs W W.heap.size A c a) (hB : Strs W W.heap.size B d b) => refDiff_any A B a b n m c d r W hA hB hn hm (by omega) (by omega) hr)
  have BP := Lib.hid (fun (H : List Hz) (p : Nat) (hp : H.length = p) (h : p ≤ 1048576) => both_patch a b H n m p hn hm hp hna hnb h)
  have HC := Lib.hid hC
  have HT := Lib.hid ht
  have HR := Lib.hid hr
  have hr41 : r ≤ 41 := by omega
  rw [ht] at hh ⊢
  rw [hp] at hz ⊢
  rw [hq] at hy ⊢
  clear la lb hA hB hC hp hq ha hb hn hm hr hsa hsb hdl ht
  go_enter Try.func5, Try.ntmps5
  go_upto_region 5 with (first
    | (go_at_call 15; ((with_reducible refine (S.out _).mono ?_); rintro e' w1 ⟨rfl, hb⟩); (have HB1 := Lib.hid hb))
    | (go_at_call 20; ((with_reducible refine (LA.out _ HB1.out).mono ?_); rintro e' w2 ⟨A2, k2, rfl, hSa, hb⟩); (have HB2 := Lib.hid (Below.then_ HB1.out hb)))
    | (go_at_call 20; ((with_reducible refine (LB.out _ HB2.out).mono ?_); rintro e' w3 ⟨A3, k3, rfl, hSb, hb⟩); (have hSa := strs_on hSa hb); (have HB3 := Lib.hid (Below.then_ HB2.out hb)))
    | (go_at_call 24; ((with_reducible refine (RD.out _ _ _ _ _ hSa hSb).mono ?_); rintro e' w4 ⟨A4, k4, rfl, hH4, hb⟩); (have hSa := strs_on hSa hb); (have hSb := strs_on hSb hb); (have HB4 := Lib.hid (Below.then_ HB3.out hb))))
  have hk4 : r ≤ k4 := by have := hH4.cap; have := HR.out; omega
  have CUT := Lib.hid (fun (k : Nat) (hk : k ≤ r) => cut_h 33 40 4 Try.underlying33 (fun _ => by kernel_rfl) A4 r k4 k hk hk4)
  have HSa := Lib.hid hSa
  have HSb := Lib.hid hSb
  have HH := Lib.hid hH4
  clear hSa hSb hH4 hb HB1 HB2 HB3 LA LB RD
  go_loopw [11] (fun v11 wr => ∃ k : Nat, k ≤ r + 1 ∧ v11 = .int .i64 (k : Int) ∧ Hid (Below w4.heap.size w4 wr)) (fun v11 _ => r + 1 - (intOf v11).toNat)
  case atStart => exact ⟨0, Nat.zero_le _, rfl, Lib.hid (Below.refl _ _)⟩
  case round =>
    obtain ⟨k, hk, rfl, HBW⟩ := hrel
    have hk0 : (0 : Int) ≤ (k : Int) := Int.natCast_nonneg _
    by_cases hlt : k ≤ r
    · have hk1 : (k : Int) ≤ (r : Int) := by omega
      obtain ⟨A5, r5, K5⟩ := CUT.out k hlt
      obtain ⟨z, P, hzl, hz2, p25, p26⟩ := BP.out (((diff a b).take k).map toZ) k (by rw [List.length_map, List.length_take, HR.out]; omega) (by omega)
      have hcutz : ∀ W, Below w4.heap.size w4 W → Hzs W W.heap.size A5 k4 (((diff a b).take k).map toZ) := fun W hW => by
        have h1 := Row.more (Row.below HH.out hW (Nat.le_refl _)) hW.size
        rw [HR.out] at h1
        have h2 := K5 W W.heap.size _ h1
        rw [hksC_take] at h2
        refine Hks.hzs ?_
        unfold Hks
        rw [show ((diff a b).take k).length = k by rw [List.length_take, HR.out]; omega]
        exact h2
      have hsaW : ∀ W, Below w4.heap.size w4 W → Strs W W.heap.size A2 k2 a := fun W hW => Row.more (Row.below HSa.out hW (Nat.le_refl _)) hW.size
      have hsbW : ∀ W, Below w4.heap.size w4 W → Strs W W.heap.size A3 k3 b := fun W hW => Row.more (Row.below HSb.out hW (Nat.le_refl _)) hW.size
      have C25 := Lib.hid (fun (W : World) (hW : Below w4.heap.size w4 W) => p25 A2 A3 A5 k2 k3 k4 W (hsaW W hW) (hsbW W hW) (hcutz W hW))
      have C26 := Lib.hid (fun (W : World) (hW : Below w4.heap.size w4 W) => p26 A2 A3 A5 k2 k3 k4 W (hsaW W hW) (hsbW W hW) (hcutz W hW))
      have C17 := Lib.hid (fun (A B : Option Addr) (c d : Nat) (W : World) (hA : Strs W W.heap.size A c P) (hB : Strs W W.heap.size B d P) => same_long A B P c d z W hA hB hzl hz2)
      have HBD : Hid (Below w4.heap.size w4 wr.drew) := Lib.hid (Below.drew HBW.out)
      clear hcutz hsaW hsbW p25 p26 hzl K5
      go_wp2_with fail
      go_region_held3 (fun _ => True) (trivial)
        (first
          | (go_at_call 25; ((with_reducible refine (C25.out _ HBD.out).mono ?_); rintro e' w7 ⟨A7, k7, rfl, hS7, hb⟩); (have HB7 := Lib.hid (Below.then_ HBD.out hb)))
          | (go_at_call 26; ((with_reducible refine (C26.out _ HB7.out).mono ?_); rintro e' w8 ⟨A8, k8, rfl, hS8, hb⟩); (have hS7 := strs_on hS7 hb); (have HB8 := Lib.hid (Below.then_ HB7.out hb)))
          | (go_at_call 26; ((with_reducible refine (C26.out _ HBD.out).mono ?_); rintro e' w8 ⟨A8, k8, rfl, hS8, hb⟩); (have HB7 := Lib.hid (Below.then_ HBD.out hb)))
          | (go_at_call 25; ((with_reducible refine (C25.out _ HB7.out).mono ?_); rintro e' w7 ⟨A7, k7, rfl, hS7, hb⟩); (have hS8 := strs_on hS8 hb); (have HB8 := Lib.hid (Below.then_ HB7.out hb)))
          | (go_at_call 17; ((with_reducible refine (C17.out _ _ _ _ _ hS7 hS8).mono ?_); rintro e' w9 ⟨rfl, hb⟩); (have HB9 := Lib.hid (Below.then_ HB8.out hb))))
      go_wp2_with fail
      go_roundw
      case rel => exact ⟨k + 1, by omega, by go_num, HB9⟩
      case measure => simp [intOf]; omega
    · have hk1 : ¬ (k : Int) ≤ (r : Int) := by omega
      have d1 : decide ((k : Int) ≤ (r : Int)) = false := decide_eq_false hk1
      obtain ⟨z, P, hzl, hz2, p25, p26⟩ := BP.out H t HT.out hh
      have HBX := Lib.hid (Below.then_ HB4.out HBW.out)
      have hhz : ∀ W, Below w4.heap.size w4 W → Hzs W W.heap.size C cc H := fun W hW => by
        have hW2 := Below.then_ HB4.out hW
        exact Row.more (Row.below HC.out hW2 (Nat.le_refl _)) hW2.size
      have hsaW : ∀ W, Below w4.heap.size w4 W → Strs W W.heap.size A2 k2 a := fun W hW => Row.more (Row.below HSa.out hW (Nat.le_refl _)) hW.size
      have hsbW : ∀ W, Below w4.heap.size w4 W → Strs W W.heap.size A3 k3 b := fun W hW => Row.more (Row.below HSb.out hW (Nat.le_refl _)) hW.size
      have C25 := Lib.hid (fun (W : World) (hW : Below w4.heap.size w4 W) => p25 A2 A3 C k2 k3 cc W (hsaW W hW) (hsbW W hW) (hhz W hW))
      have C26 := Lib.hid (fun (W : World) (hW : Below w4.heap.size w4 W) => p26 A2 A3 C k2 k3 cc W (hsaW W hW) (hsbW W hW) (hhz W hW))
      have C17 := Lib.hid (fun (A B : Option Addr) (c d : Nat) (W : World) (hA : Strs W W.heap.size A c P) (hB : Strs W W.heap.size B d P) => same_long A B P c d z W hA hB hzl hz2)
      clear hhz hsaW hsbW p25 p26 hzl
      go_wp2_with (first
        | (go_at_call 25; ((with_reducible refine (C25.out _ HBW.out).mono ?_); rintro e' w7 ⟨A7, k7, rfl, hS7, hb⟩); (have HB7 := Lib.hid (Below.then_ HBW.out hb)))
        | (go_at_call 26; ((with_reducible refine (C26.out _ HB7.out).mono ?_); rintro e' w8 ⟨A8, k8, rfl, hS8, hb⟩); (have hS7 := strs_on hS7 hb); (have HB8 := Lib.hid (Below.then_ HB7.out hb)))
        | (go_at_call 17; ((with_reducible refine (C17.out _ _ _ _ _ hS7 hS8).mono ?_); rintro e' w9 ⟨rfl, hb⟩); (have HB9 := Lib.hid (Below.then_ HB8.out hb))))
      go_ret
      exact ⟨rfl, Below.then_ HB4.out HB9.out⟩
theorem short {H : Type} {d0 d1 d2 : DataW H} {gs : List (DataW H)} (hk : Rows.uptoSmall H ([d0, d1, d2] ++ gs) = true) : Rows.uptoBulk d2 ≤ 1048576 := by
  have h : Rows.uptoBulkAll ([d0, d1, d2] ++ gs) ≤ 1048576 := of_decide_eq_true hk
  simp only [List.cons_append, List.nil_append, Rows.uptoBulkAll] at h
  omega

theorem contract (H : Type) (enc : TypeId × Value → H) (W : World) (base : Nat) (args : Array Value) (ds gs : List (DataW H)) (before : List MemPlace)
    (hval : ∀ (j : Nat) t v, Try.f5.params[j]? = some t → args[j]? = some v → Value.okWide Try.prog W .any base t v)
    (hW : DataW.Whole enc Try.prog Try.f5.params.toList Rows.linesPatchesSpec.vars false W args.toList ds gs before) (hk : Rows.uptoSmall H (ds ++ gs) = true) :
    Calls Try.prog 5 args W fun e W' => ∃ v, e = .returned v ∧ Rows.linesPatchesSpec.post enc Try.prog Try.f5 false true false false W args v W' := by
  have hW' := hW
  obtain ⟨p, q, hA0, hV, rfl, hfz, hnd⟩ := hW
  have hA : DataW.TrodAll enc Try.prog W 0 (fun _ => true) true Try.f5.params.toList args.toList ds p := hA0
  rw [Try.params5] at hA hval
  obtain ⟨v0, vs0, d0, ds0, p0, q0, e0, rfl, rfl, h0, r0⟩ := trodAll_cons hA
  obtain ⟨v1, vs1, d1, ds1, p1, q1, e1, rfl, rfl, h1, r1⟩ := trodAll_cons r0
  obtain ⟨v2, vs2, d2, ds2, p2, q2, e2, rfl, rfl, h2, r2⟩ := trodAll_cons r1
  obtain ⟨rfl, rfl, rfl⟩ := trodAll_nil r2
  obtain rfl : args = #[v0, v1, v2] := by cases args; simp_all
  obtain ⟨rfl, rfl⟩ := trodVars_none hV
  obtain ⟨A, zs, ca, rfl, hA1, hz⟩ := open_nums h0 (hval 0 28 v0 rfl rfl)
  obtain ⟨B, ys, cb, rfl, hB1, hy⟩ := open_nums h1 (hval 1 28 v1 rfl rfl)
  obtain ⟨C, qs, cc, rfl, hC1, hq⟩ := open_hunks h2 (hval 2 33 v2 rfl rfl)
  have hs := short hk
  refine (walk A zs ca B ys cb C qs cc W hA1 hz hB1 hy hC1 (by omega)).mono fun e W' ⟨he, hb⟩ => ⟨_, he, law_post rfl rfl ?_ rfl rfl rfl hW' hb⟩
  rw [Try.params5]
  intro t ht
  have ht' : t = 28 ∨ t = 28 ∨ t = 33 := by simpa using ht
  rcases ht' with rfl | rfl | rfl <;> exact ⟨by kernel_rfl, of_decide_eq_true (by kernel_rfl)⟩

set_option maxRecDepth 100000 in
theorem lifted (os : Os) (started : os.Started) (H : Type) (enc : TypeId × Value → H) (F : Stop.Interp) :
    ReturnsInHanded {} Try.checked os 5 .any ((Rows.OpenSpec.upto Rows.linesPatchesSpec).pre6 enc Try.prog Try.f5 Rows.linesPatchesUptoRow.domain false) (((Rows.OpenSpec.upto Rows.linesPatchesSpec).at F).post enc Try.prog Try.f5 false true false false) := by
  refine returnsInHanded_of_cond (C := Try.checked) (s := Rows.OpenSpec.upto Rows.linesPatchesSpec) (k := Rows.uptoSmall) rfl ownKnob_none started (by kernel_rfl) Try.func5
    (OpenSpec.witness (enc := enc) (C := Try.checked) (s := Rows.OpenSpec.upto Rows.linesPatchesSpec) (k := Rows.uptoSmall) rfl false ⟨#[], #[.slice none 0 0, .slice none 0 0, .slice none 0 0], []⟩ 8 (by kernel_rfl) (by kernel_rfl) (by kernel_rfl)
      (x := ([.nil, .nil, .nil], [], [])) (by kernel_rfl) rfl (by kernel_rfl)) ?_
  intro W base args ds gs before hval hW _ hk _
  exact contract H enc W base args ds gs before hval hW hk

theorem proved : Rows.LinesPatchesUptoSaid :=
  OpenClaim.holds_of_cond 5 Try.f5 rfl rfl rfl rfl rfl rfl rfl ⟨rfl, rfl, rfl, rfl, rfl⟩ rfl rfl rfl rfl rfl (by kernel_rfl) Try.func5 (by kernel_rfl)
    (of_decide_eq_true (by kernel_rfl)) (by unfold Func.isWrapper; first | (rw [if_pos (by decide +kernel)]; kernel_rfl) | (rw [if_neg (by decide +kernel)]; exact ⟨rfl, rfl⟩))
    (fun os started H enc _ F => lifted os started H enc F)


end Go.Proofs.Ytmeoannheomdoaa.lpatches
