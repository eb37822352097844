/- LinesKeeps: the functions do not change their arguments, and return the same results again. For all arguments. -/
import Derived.Test.YtmeoannheomdoaaKit
namespace Go.Proofs.Ytmeoannheomdoaa.lkeeps
open Go.ChangeShapes Go.WideShapes Go.ChangeAt Go.RowKit

theorem empty_hks (w : World) : (w.alloc (.cells #[] 40)).ownsRow w.heap.size 40 4 (.slice (some ⟨w.heap.size, 0, none⟩) 0 0) 0 [] := World.ownsRow_made w #[] 0 (Nat.le_refl _) (by unfold maxLen; omega) rfl
theorem row_cells {w : World} {A : Addr} {n c B size : Nat} {xs : List Value} (h : Row w B size (some A) n c xs) (hB : B ≤ w.heap.size) (o : Obj) : ∀ j u, xs[j]? = some u → (w.alloc o).cell? (A.add j) = some u := fun j u hj => by
  obtain ⟨ad, e, hlt, hc⟩ := h.2.2.2 j u hj
  have e := Option.some.inj e
  subst e
  exact (World.cell?_alloc_lt w o _ (by rw [add_block]; omega)).trans hc
theorem hks_one (H : List Hk) : ∀ u ∈ hksC H, u.oneCell' = true := fun u hu => by
  unfold hksC at hu
  obtain ⟨x, _, hx⟩ := List.mem_flatMap.1 hu
  simp only [hkC, List.mem_cons, List.not_mem_nil, or_false] at hx
  rcases hx with rfl | rfl | rfl | rfl <;> rfl
theorem copy_hks {w2 w3 : World} {M : Nat} {v3 : Value} {H : List Hk} (hM : H.length = M) (hown : w3.ownsRow w2.heap.size 40 4 v3 (0 + M) ([] ++ hksC H)) (hgrow : (w2.alloc (.cells #[] 40)).grownBy w3 (Value.slice (some ⟨w2.heap.size, 0, none⟩) 0 0).ownBlock) :
    ∃ A c, v3 = .slice A M c ∧ Hks w3 w3.heap.size A c H ∧ Below w2.heap.size w2 w3 := by
  rw [Nat.zero_add, List.nil_append] at hown
  obtain ⟨A, c, rfl⟩ : ∃ A c, v3 = .slice A M c := by
    rcases hown.2 with ⟨rfl, h0⟩ | ⟨g', cap, cur, rfl, _⟩
    · exact ⟨none, 0, by rw [h0]⟩
    · exact ⟨_, _, rfl⟩
  refine ⟨A, c, rfl, ?_, ((Below.refl _ w2).alloc (Nat.le_refl _) _).grown hgrow (by simp) (fun j e => by have e' : w2.heap.size = j := (by simpa [Value.ownBlock] using e); omega)⟩
  subst hM
  exact Row.own hown
/-- the row that is changed: small strings -/
def Cur (wr : World) (g m k : Nat) : Prop := ∃ L : List ByteArray, Full wr g 9 (strC L) ∧ L.length = m ∧ ∀ x ∈ L, x.size ≤ 2 + k
theorem cur_at {wr : World} {g m k j : Nat} (h : Cur wr g m k) (hj : j < m) : ∃ s : ByteArray, wr.cell? ⟨g, j, none⟩ = some (.string s) ∧ s.size ≤ 2 + k ∧ wr.frozen? ⟨g, j, none⟩ = false := by
  obtain ⟨L, hF, hl, hs⟩ := h
  have hjl : j < L.length := by omega
  refine ⟨L[j], ?_, hs _ (List.getElem_mem hjl), hF.frozen j⟩
  rw [hF.cell j]
  unfold strC
  rw [List.getElem?_map, List.getElem?_eq_getElem hjl]
  rfl
theorem cur_set {wr : World} {g m k j : Nat} {t : ByteArray} (h : Cur wr g m k) (ht : t.size ≤ 2 + (k + 1)) : Cur (wr.setCell ⟨g, j, none⟩ (.string t)) g m (k + 1) := by
  obtain ⟨L, hF, hl, hs⟩ := h
  refine ⟨L.set j t, ?_, by rw [List.length_set]; exact hl, fun x hx => ?_⟩
  · rw [← strC_set]; exact hF.set_ j _
  · rcases List.mem_or_eq_of_mem_set hx with hx | rfl
    · have := hs x hx; omega
    · exact ht

set_option maxRecDepth 100000 in
set_option maxHeartbeats 8000000 in
theorem walk (A : Option Addr) (zs : List Int) (ca : Nat) (B : Option Addr) (ys : List Int) (cb : Nat) (w : World) (hA : Ints w w.heap.size A ca zs) (hz : zs.length ≤ maxLen) (hB : Ints w w.heap.size B cb ys) (hy : ys.length ≤ maxLen) :
    Calls Try.prog 14 #[.slice A zs.length ca, .slice B ys.length cb] w (BoolB w true) := by
  have S := Lib.hid (fun W => sane_any W)
  obtain ⟨i40, hi4, hz0, hz1, hz2⟩ := info_parts info40
  obtain ⟨hsa, hna⟩ := listL_short zs
  obtain ⟨hsb, hnb⟩ := listL_short ys
  obtain ⟨p, hp⟩ : ∃ p, zs.length = p := ⟨_, rfl⟩
  obtain ⟨q, hq⟩ : ∃ q, ys.length = q := ⟨_, rfl⟩
  obtain ⟨a, ha⟩ : ∃ L, listL zs = L := ⟨_, rfl⟩
  obtain ⟨b, hb⟩ : ∃ L, listL ys = L := ⟨_, rfl⟩
  have la := fun (n : Nat) (W : World) (hW : Below w.heap.size w W) (hn : (listL zs).length = n) => list_at w.heap.size A zs ca p n W (Row.below hA hW (Nat.le_refl _)) hW.size hp hn (by omega)
  have lb := fun (n : Nat) (W : World) (hW : Below w.heap.size w W) (hn : (listL ys).length = n) => list_at w.heap.size B ys cb q n W (Row.below hB hW (Nat.le_refl _)) hW.size hq hn (by omega)
  rw [ha] at hsa hna la
  rw [hb] at hsb hnb lb
  obtain ⟨n, hn⟩ : ∃ n, a.length = n := ⟨_, rfl⟩
  obtain ⟨m, hm⟩ : ∃ m, b.length = m := ⟨_, rfl⟩
  obtain ⟨r, hr⟩ : ∃ r, (diff a b).length = r := ⟨_, rfl⟩
  have hdl := diff_len a b
  rw [hn] at hna hdl
  rw [hm] at hnb
  rw [hr] at hdl
  have LA := Lib.hid (fun (W : World) (hW : Below w.heap.size w W) => la n W hW hn)
  have LB := Lib.hid (fun (W : World) (hW : Below w.heap.size w W) => lb m W hW hm)
  have D := Lib.hid (fun (A B : Option Addr) (c d : Nat) (W : World) (hA : Strs W W.heap.size A c a) (hB : Strs W W.heap.size B d b) => diff_at A B a b c d n m r W hA hB hn hm (by omega) (by omega) hsa hsb hr)
  have P := Lib.hid (fun (A B C : Option Addr) (c d e : Nat) (W : World) (hA : Strs W W.heap.size A c a) (hB : Strs W W.heap.size B d b) (hC : Hks W W.heap.size C e (diff a b)) => patch_at A B C a b n m r c d e W hA hB hC hn hm hr (by omega) (by omega) (by omega))
  have SA := Lib.hid (fun (A B : Option Addr) (c d : Nat) (W : World) (hA : Strs W W.heap.size A c a) (hB : Strs W W.heap.size B d a) => same_at A B a c d n W hA hB hn (by omega))
  have SB := Lib.hid (fun (A B : Option Addr) (c d : Nat) (W : World) (hA : Strs W W.heap.size A c b) (hB : Strs W W.heap.size B d b) => same_at A B b c d m W hA hB hm (by omega))
  have SH := Lib.hid (fun (A B : Option Addr) (c d : Nat) (W : World) (hA : Hks W W.heap.size A c (diff a b)) (hB : Hks W W.heap.size B d (diff a b)) => hunks_at A B (diff a b) c d r W hA hB hr (by omega))
  obtain ⟨H, hH⟩ : ∃ H, diff a b = H := ⟨_, rfl⟩
  rw [hH] at D P SH hr
  have HR := Lib.hid hr
  have HM := Lib.hid hm
  have HZB := Lib.hid hsb
  rw [hp] at hz ⊢
  rw [hq] at hy ⊢
  have hr41 : r ≤ 41 := by omega
  clear la lb hA hB hp hq ha hb hn hm hr hH hsa hsb hdl
  go_enter Try.func14, Try.ntmps14
  go_upto_region 4 with (first
    | (go_at_call 15; ((with_reducible refine (S.out _).mono ?_); rintro e' w1 ⟨rfl, hb⟩); (have HB1 := Lib.hid hb))
    | (go_at_call 20; ((with_reducible refine (LA.out _ HB1.out).mono ?_); rintro e' w2 ⟨A2, k2, rfl, hSa, hb⟩); (have HB2 := Lib.hid (Below.then_ HB1.out hb)))
    | (go_at_call 20; ((with_reducible refine (LB.out _ HB2.out).mono ?_); rintro e' w3 ⟨A3, k3, rfl, hSb, hb⟩); (have hSa := strs_on hSa hb); (have HB3 := Lib.hid (Below.then_ HB2.out hb)))
    | (go_at_call 23; ((with_reducible refine (D.out _ _ _ _ _ hSa hSb).mono ?_); rintro e' w4 ⟨A4, k4, rfl, hH4, hb⟩); (have hSa := strs_on hSa hb); (have hSb := strs_on hSb hb); (have HB4 := Lib.hid (Below.then_ HB3.out hb))))
  clear hb HB1 HB2 HB3
  cases A4 with
  | none =>
    have hk0 : k4 = 0 := hH4.2.2.1 rfl
    subst hk0
    have hr0 : r = 0 := by have := hH4.cap; have := HR.out; omega
    subst hr0
    have hb5 := (Below.refl w4.heap.size w4).alloc (Nat.le_refl _) (.cells #[] 40)
    have hSa5 := strs_on hSa hb5
    have hSb5 := strs_on hSb hb5
    have hHh5 := hks_on hH4 hb5
    have hHo5 : Hks (w4.alloc (.cells #[] 40)) (w4.alloc (.cells #[] 40)).heap.size (some ⟨w4.heap.size, 0, none⟩) 0 H := by
      have e : H = [] := List.eq_nil_of_length_eq_zero HR.out
      rw [e]
      exact Row.own (empty_hks w4)
    have HB5 := Lib.hid (Below.then_ HB4.out hb5)
    clear hb5 hSa hSb hH4
    go_upto_region 5 with (at_builtin; refine wpList_append_own_none rfl _ _ 33 rfl w4.heap.size 40 i40 4 Try.underlying33 hi4 (.slice (some ⟨w4.heap.size, 0, none⟩) 0 0) 0 [] rfl (empty_hks w4) rfl ?_)
    obtain ⟨A5, hA5⟩ : ∃ A, some (⟨w4.heap.size, 0, none⟩ : Addr) = A := ⟨_, rfl⟩
    obtain ⟨w5, hw5⟩ : ∃ w5, w4.alloc (.cells #[] 40) = w5 := ⟨_, rfl⟩
    rw [hA5, hw5] at hHo5
    rw [hw5] at hSa5 hSb5 hHh5 HB5
    rw [hA5, hw5]
    clear hA5 hw5
    have HSa5 := Lib.hid hSa5
    have HSb5 := Lib.hid hSb5
    have HHh5 := Lib.hid hHh5
    have HHo5 := Lib.hid hHo5
    go_upto_region 7 with (go_at_call 25; ((with_reducible refine (P.out _ _ _ _ _ _ _ hSa5 hSb5 hHh5).mono ?_); rintro e' w6 ⟨g6, rfl, hP6, hF6, hg6, hb6⟩))
    have hC6 : Hid (Cur w6 g6 m 0) := Lib.hid ⟨b, hF6, HM.out, fun x hx => HZB.out x hx⟩
    clear hSa5 hSb5 hHh5 hHo5 hP6 hF6
    have HB6 := Lib.hid hb6
    clear hb6
    go_loopw [11, 29] (fun _ v29 wr => ∃ k : Nat, k ≤ m ∧ v29 = .int .i64 (k : Int) ∧ Hid (Cur wr g6 m k) ∧ Hid (Below w5.heap.size w5 wr)) (fun _ v29 _ => m - (intOf v29).toNat)
    case atStart => exact ⟨0, by omega, rfl, hC6, HB6⟩
    case round =>
      obtain ⟨k, hk, rfl, HC, HBW⟩ := hrel
      have hk0 : (0 : Int) ≤ (k : Int) := Int.natCast_nonneg _
      by_cases hlt : k < m
      · have hk1 : (k : Int) < (m : Int) := by omega
        obtain ⟨s, c0, hs, c1⟩ := cur_at HC.out hlt
        go_wp2_with fail
        go_roundw
        case rel => exact ⟨k + 1, by omega, by go_num, Lib.hid (cur_set HC.out (by rw [ByteArray.size_append]; have : (⟨#[33]⟩ : ByteArray).size = 1 := rfl; omega)), Lib.hid (HBW.out.setCell (p := ⟨g6, k, none⟩) hg6 _)⟩
        case measure => simp [intOf]; omega
      · obtain rfl : k = m := by omega
        have hSa := strs_on HSa5.out HBW.out
        have hSb := strs_on HSb5.out HBW.out
        have hHh := hks_on HHh5.out HBW.out
        have hHo := hks_on HHo5.out HBW.out
        have HB7 := Lib.hid (Below.then_ HB5.out HBW.out)
        clear hk hlt hk0
        go_wp2_with (first
          | (go_at_call 20; ((with_reducible refine (LA.out _ HB7.out).mono ?_); rintro e' w8 ⟨A8, k8, rfl, hS8, hb⟩); (have hSa := strs_on hSa hb); (have hSb := strs_on hSb hb); (have hHh := hks_on hHh hb); (have hHo := hks_on hHo hb); (have HB8 := Lib.hid (Below.then_ HB7.out hb)))
          | (go_at_call 17; ((with_reducible refine (SA.out _ _ _ _ _ hSa hS8).mono ?_); rintro e' w9 ⟨rfl, hb⟩); (have hSa := strs_on hSa hb); (have hSb := strs_on hSb hb); (have hHh := hks_on hHh hb); (have hHo := hks_on hHo hb); (have HB9 := Lib.hid (Below.then_ HB8.out hb)))
          | (go_at_call 20; ((with_reducible refine (LB.out _ HB9.out).mono ?_); rintro e' wA ⟨AA, kA, rfl, hSA, hb⟩); (have hSa := strs_on hSa hb); (have hSb := strs_on hSb hb); (have hHh := hks_on hHh hb); (have hHo := hks_on hHo hb); (have HBA := Lib.hid (Below.then_ HB9.out hb)))
          | (go_at_call 17; ((with_reducible refine (SB.out _ _ _ _ _ hSb hSA).mono ?_); rintro e' wB ⟨rfl, hb⟩); (have hSa := strs_on hSa hb); (have hSb := strs_on hSb hb); (have hHh := hks_on hHh hb); (have hHo := hks_on hHo hb); (have HBB := Lib.hid (Below.then_ HBA.out hb)))
          | (go_at_call 22; ((with_reducible refine (SH.out _ _ _ _ _ hHh hHo).mono ?_); rintro e' wC ⟨rfl, hb⟩); (have hSa := strs_on hSa hb); (have hSb := strs_on hSb hb); (have hHh := hks_on hHh hb); (have HBC := Lib.hid (Below.then_ HBB.out hb)))
          | (go_at_call 20; ((with_reducible refine (LA.out _ HBC.out).mono ?_); rintro e' wD ⟨AD, kD, rfl, hSD, hb⟩); (have hSa := strs_on hSa hb); (have hSb := strs_on hSb hb); (have hHh := hks_on hHh hb); (have HBD := Lib.hid (Below.then_ HBC.out hb)))
          | (go_at_call 20; ((with_reducible refine (LB.out _ HBD.out).mono ?_); rintro e' wE ⟨AE, kE, rfl, hSE, hb⟩); (have hSD := strs_on hSD hb); (have hSa := strs_on hSa hb); (have hSb := strs_on hSb hb); (have hHh := hks_on hHh hb); (have HBE := Lib.hid (Below.then_ HBD.out hb)))
          | (go_at_call 23; ((with_reducible refine (D.out _ _ _ _ _ hSD hSE).mono ?_); rintro e' wF ⟨AF, kF, rfl, hHF, hb⟩); (have hSa := strs_on hSa hb); (have hSb := strs_on hSb hb); (have hHh := hks_on hHh hb); (have HBF := Lib.hid (Below.then_ HBE.out hb)))
          | (go_at_call 22; ((with_reducible refine (SH.out _ _ _ _ _ hHh hHF).mono ?_); rintro e' wG ⟨rfl, hb⟩); (have hSa := strs_on hSa hb); (have hSb := strs_on hSb hb); (have hHh := hks_on hHh hb); (have HBG := Lib.hid (Below.then_ HBF.out hb)))
          | (go_at_call 25; ((with_reducible refine (P.out _ _ _ _ _ _ _ hSa hSb hHh).mono ?_); rintro e' wH ⟨gH, rfl, hPH, -, -, hb⟩); (have hSb := strs_on hSb hb); (have HBH := Lib.hid (Below.then_ HBG.out hb)))
          | (go_at_call 17; ((with_reducible refine (SB.out _ _ _ _ _ hPH hSb).mono ?_); rintro e' wI ⟨rfl, hb⟩); (have HBI := Lib.hid (Below.then_ HBH.out hb))))
        go_ret
        exact ⟨rfl, HBI.out⟩
  | some ad =>
    have hcells := row_cells hH4 (Nat.le_refl _) (.cells #[] 40)
    have hcl := hH4.1
    rw [HR.out] at hcl
    have HCE := Lib.hid hcells
    have HCL := Lib.hid hcl
    have hrk : r ≤ k4 := by have := hH4.cap; have := HR.out; omega
    clear hcells hcl
    go_upto_region 5 with (at_builtin; refine wpList_append_own_at _ rfl _ _ 33 rfl w4.heap.size 40 i40 _ 4 32 Try.underlying33 hi4 hz0 hz1 hz2 rfl (by decide) (.slice (some ⟨w4.heap.size, 0, none⟩) 0 0) 0 [] rfl (empty_hks w4) ad r k4 (hksC H) rfl HCL.out HCE.out (hks_one H) (by unfold maxLen; omega) (by omega) (by simp) ?_; intro v5 w5 ho5 hg5 hn5 _; obtain ⟨A5, k5, rfl, hHo5, hb5⟩ := copy_hks HR.out ho5 hg5; have hSa5 := strs_on hSa hb5; have hSb5 := strs_on hSb hb5; have hHh5 := hks_on hH4 hb5; have HB5 := Lib.hid (Below.then_ HB4.out hb5))
    clear ho5 hg5 hn5 hb5 hSa hSb hH4 HCE HCL
    have HSa5 := Lib.hid hSa5
    have HSb5 := Lib.hid hSb5
    have HHh5 := Lib.hid hHh5
    have HHo5 := Lib.hid hHo5
    go_upto_region 7 with (go_at_call 25; ((with_reducible refine (P.out _ _ _ _ _ _ _ hSa5 hSb5 hHh5).mono ?_); rintro e' w6 ⟨g6, rfl, hP6, hF6, hg6, hb6⟩))
    have hC6 : Hid (Cur w6 g6 m 0) := Lib.hid ⟨b, hF6, HM.out, fun x hx => HZB.out x hx⟩
    clear hSa5 hSb5 hHh5 hHo5 hP6 hF6
    have HB6 := Lib.hid hb6
    clear hb6
    go_loopw [11, 29] (fun _ v29 wr => ∃ k : Nat, k ≤ m ∧ v29 = .int .i64 (k : Int) ∧ Hid (Cur wr g6 m k) ∧ Hid (Below w5.heap.size w5 wr)) (fun _ v29 _ => m - (intOf v29).toNat)
    case atStart => exact ⟨0, by omega, rfl, hC6, HB6⟩
    case round =>
      obtain ⟨k, hk, rfl, HC, HBW⟩ := hrel
      have hk0 : (0 : Int) ≤ (k : Int) := Int.natCast_nonneg _
      by_cases hlt : k < m
      · have hk1 : (k : Int) < (m : Int) := by omega
        obtain ⟨s, c0, hs, c1⟩ := cur_at HC.out hlt
        go_wp2_with fail
        go_roundw
        case rel => exact ⟨k + 1, by omega, by go_num, Lib.hid (cur_set HC.out (by rw [ByteArray.size_append]; have : (⟨#[33]⟩ : ByteArray).size = 1 := rfl; omega)), Lib.hid (HBW.out.setCell (p := ⟨g6, k, none⟩) hg6 _)⟩
        case measure => simp [intOf]; omega
      · obtain rfl : k = m := by omega
        have hSa := strs_on HSa5.out HBW.out
        have hSb := strs_on HSb5.out HBW.out
        have hHh := hks_on HHh5.out HBW.out
        have hHo := hks_on HHo5.out HBW.out
        have HB7 := Lib.hid (Below.then_ HB5.out HBW.out)
        clear hk hlt hk0
        go_wp2_with (first
          | (go_at_call 20; ((with_reducible refine (LA.out _ HB7.out).mono ?_); rintro e' w8 ⟨A8, k8, rfl, hS8, hb⟩); (have hSa := strs_on hSa hb); (have hSb := strs_on hSb hb); (have hHh := hks_on hHh hb); (have hHo := hks_on hHo hb); (have HB8 := Lib.hid (Below.then_ HB7.out hb)))
          | (go_at_call 17; ((with_reducible refine (SA.out _ _ _ _ _ hSa hS8).mono ?_); rintro e' w9 ⟨rfl, hb⟩); (have hSa := strs_on hSa hb); (have hSb := strs_on hSb hb); (have hHh := hks_on hHh hb); (have hHo := hks_on hHo hb); (have HB9 := Lib.hid (Below.then_ HB8.out hb)))
          | (go_at_call 20; ((with_reducible refine (LB.out _ HB9.out).mono ?_); rintro e' wA ⟨AA, kA, rfl, hSA, hb⟩); (have hSa := strs_on hSa hb); (have hSb := strs_on hSb hb); (have hHh := hks_on hHh hb); (have hHo := hks_on hHo hb); (have HBA := Lib.hid (Below.then_ HB9.out hb)))
          | (go_at_call 17; ((with_reducible refine (SB.out _ _ _ _ _ hSb hSA).mono ?_); rintro e' wB ⟨rfl, hb⟩); (have hSa := strs_on hSa hb); (have hSb := strs_on hSb hb); (have hHh := hks_on hHh hb); (have hHo := hks_on hHo hb); (have HBB := Lib.hid (Below.then_ HBA.out hb)))
          | (go_at_call 22; ((with_reducible refine (SH.out _ _ _ _ _ hHh hHo).mono ?_); rintro e' wC ⟨rfl, hb⟩); (have hSa := strs_on hSa hb); (have hSb := strs_on hSb hb); (have hHh := hks_on hHh hb); (have HBC := Lib.hid (Below.then_ HBB.out hb)))
          | (go_at_call 20; ((with_reducible refine (LA.out _ HBC.out).mono ?_); rintro e' wD ⟨AD, kD, rfl, hSD, hb⟩); (have hSa := strs_on hSa hb); (have hSb := strs_on hSb hb); (have hHh := hks_on hHh hb); (have HBD := Lib.hid (Below.then_ HBC.out hb)))
          | (go_at_call 20; ((with_reducible refine (LB.out _ HBD.out).mono ?_); rintro e' wE ⟨AE, kE, rfl, hSE, hb⟩); (have hSD := strs_on hSD hb); (have hSa := strs_on hSa hb); (have hSb := strs_on hSb hb); (have hHh := hks_on hHh hb); (have HBE := Lib.hid (Below.then_ HBD.out hb)))
          | (go_at_call 23; ((with_reducible refine (D.out _ _ _ _ _ hSD hSE).mono ?_); rintro e' wF ⟨AF, kF, rfl, hHF, hb⟩); (have hSa := strs_on hSa hb); (have hSb := strs_on hSb hb); (have hHh := hks_on hHh hb); (have HBF := Lib.hid (Below.then_ HBE.out hb)))
          | (go_at_call 22; ((with_reducible refine (SH.out _ _ _ _ _ hHh hHF).mono ?_); rintro e' wG ⟨rfl, hb⟩); (have hSa := strs_on hSa hb); (have hSb := strs_on hSb hb); (have hHh := hks_on hHh hb); (have HBG := Lib.hid (Below.then_ HBF.out hb)))
          | (go_at_call 25; ((with_reducible refine (P.out _ _ _ _ _ _ _ hSa hSb hHh).mono ?_); rintro e' wH ⟨gH, rfl, hPH, -, -, hb⟩); (have hSb := strs_on hSb hb); (have HBH := Lib.hid (Below.then_ HBG.out hb)))
          | (go_at_call 17; ((with_reducible refine (SB.out _ _ _ _ _ hPH hSb).mono ?_); rintro e' wI ⟨rfl, hb⟩); (have HBI := Lib.hid (Below.then_ HBH.out hb))))
        go_ret
        exact ⟨rfl, HBI.out⟩
theorem contract (H : Type) (enc : TypeId × Value → H) (W : World) (base : Nat) (args : Array Value) (ds gs : List (DataW H)) (before : List MemPlace)
    (hval : ∀ (j : Nat) t v, Try.f14.params[j]? = some t → args[j]? = some v → Value.okWide Try.prog W .any base t v)
    (hW : DataW.Whole enc Try.prog Try.f14.params.toList Rows.linesKeepsSpec.vars false W args.toList ds gs before) :
    Calls Try.prog 14 args W fun e W' => ∃ v, e = .returned v ∧ Rows.linesKeepsSpec.post enc Try.prog Try.f14 false true false false W args v W' := by
  have hW' := hW
  obtain ⟨p, q, hA0, hV, rfl, hfz, hnd⟩ := hW
  have hA : DataW.TrodAll enc Try.prog W 0 (fun _ => true) true Try.f14.params.toList args.toList ds p := hA0
  rw [Try.params14] at hA hval
  obtain ⟨v0, vs0, d0, ds0, p0, q0, e0, rfl, rfl, h0, r0⟩ := trodAll_cons hA
  obtain ⟨v1, vs1, d1, ds1, p1, q1, e1, rfl, rfl, h1, r1⟩ := trodAll_cons r0
  obtain ⟨rfl, rfl, rfl⟩ := trodAll_nil r1
  obtain rfl : args = #[v0, v1] := by cases args; simp_all
  obtain ⟨rfl, rfl⟩ := trodVars_none hV
  obtain ⟨A, zs, ca, rfl, hA1, hz⟩ := open_nums h0 (hval 0 28 v0 rfl rfl)
  obtain ⟨B, ys, cb, rfl, hB1, hy⟩ := open_nums h1 (hval 1 28 v1 rfl rfl)
  refine (walk A zs ca B ys cb W hA1 hz hB1 hy).mono fun e W' ⟨he, hb⟩ => ⟨_, he, law_post rfl rfl ?_ rfl rfl rfl hW' hb⟩
  rw [Try.params14]
  intro t ht
  have ht' : t = 28 ∨ t = 28 := by simpa using ht
  rcases ht' with rfl | rfl <;> exact ⟨by kernel_rfl, of_decide_eq_true (by kernel_rfl)⟩

set_option maxRecDepth 100000 in
theorem lifted (os : Os) (started : os.Started) (H : Type) (enc : TypeId × Value → H) :
    ReturnsInHanded {} Try.checked os 14 .any (Rows.linesKeepsSpec.pre6 enc Try.prog Try.f14 Rows.linesKeepsRow.domain false) (Rows.linesKeepsSpec.post enc Try.prog Try.f14 false true false false) := by
  refine returnsInHanded_of_change (C := Try.checked) ownKnob_none started (by kernel_rfl) Try.func14
    (ChangeSpec.witness6 (enc := enc) (C := Try.checked) false ⟨#[], #[.slice none 0 0, .slice none 0 0], []⟩ 8 (by kernel_rfl) (by kernel_rfl) (by kernel_rfl) (by kernel_rfl)) ?_
  intro W base args ds gs before hval hW _ _
  exact contract H enc W base args ds gs before hval hW

theorem proved : Rows.LinesKeepsSaid :=
  OpenClaim.holds_of_wide 14 Try.f14 rfl rfl rfl rfl rfl rfl rfl ⟨rfl, rfl, rfl, rfl, rfl⟩ rfl rfl rfl rfl rfl (by kernel_rfl) Try.func14 (by kernel_rfl)
    (of_decide_eq_true (by kernel_rfl)) (by unfold Func.isWrapper; first | (rw [if_pos (by decide +kernel)]; kernel_rfl) | (rw [if_neg (by decide +kernel)]; exact ⟨rfl, rfl⟩))
    (fun os started H enc _ => lifted os started H enc)

end Go.Proofs.Ytmeoannheomdoaa.lkeeps
