/- LinesMerges: the text and the conflicts of every merge are those of the reference implementation. For all arguments. -/
import Derived.Test.YtmeoannheomdoaaKit2
import Derived.Test.YtmeoannheomdoaaKit
import Derived.Test.YtmeoannheomdoaaLaw
namespace Go.Proofs.Ytmeoannheomdoaa.lmerges
open Go.ChangeShapes Go.WideShapes Go.ChangeAt Go.RowKit

def SomeBool (w : World) (e : Ending) (w' : World) : Prop := ∃ R : Bool, e = .returned (.bool R) ∧ w' = w
set_option maxRecDepth 100000 in
set_option maxHeartbeats 2000000 in
theorem cut_any (B : Nat) (Q : Option Addr) (qs : List Trip) (d p : Nat) (w : World) (hQ : Trips w B Q d qs) (hp : qs.length = p) (hp2 : p ≤ maxLen) : Calls Try.prog 28 #[.slice Q p d] w (SomeBool w) := by
  unfold maxLen at hp2
  have hcap : p ≤ d := by have := hQ.2.1; omega
  by_cases h0 : p = 0
  · subst h0
    have HQ := Lib.hid hQ
    clear hQ hp
    go_enter Try.func28, Try.ntmps28
    go_wp2_with fail
    go_ret
    exact ⟨_, rfl, rfl⟩
  · obtain ⟨t, ht⟩ : ∃ t, t + 1 = p := ⟨p - 1, by omega⟩
    have htl : t < qs.length := by omega
    have hw : IntKind.i64.wrap ((p : Int) - 1) = (t : Int) := by simp [IntKind.wrap, IntKind.bits, IntKind.signed]; omega
    obtain ⟨z, hz⟩ : ∃ z, qs[t].2.2 = z := ⟨_, rfl⟩
    have hf : (tripsC qs)[t * 3 + 2]? = some (.int .i64 z) := by rw [← hz]; exact flat_at tripC 3 tripC_len qs t 2 htl (by omega)
    obtain ⟨ad, rfl, _, hc⟩ := hQ.2.2.2 (t * 3 + 2) _ hf
    have i1 : (0 : Int) < (p : Int) := by omega
    have i2 : (0 : Int) ≤ (t : Int) := Int.natCast_nonneg _
    have i3 : (t : Int) < (p : Int) := by omega
    rw [← add_twice] at hc
    have hc2 : w.cell? ⟨(ad.add (t * 3)).block, (ad.add (t * 3)).off + 2, none⟩ = some (.int .i64 z) := hc
    have HQ := Lib.hid hQ
    have d1 : decide ((0 : Int) < (p : Int)) = true := by simpa using i1
    clear hQ hp hf hz h0 htl
    go_enter Try.func28, Try.ntmps28
    go_wp2_with fail
    go_ret
    exact ⟨_, rfl, rfl⟩

set_option maxRecDepth 100000 in
set_option maxHeartbeats 8000000 in
theorem walk (A : Option Addr) (zs : List Int) (a : Nat) (Q : Option Addr) (qs : List Trip) (d : Nat) (R : Option Addr) (rs : List Trip) (e : Nat) (w : World) (hA : Ints w w.heap.size A a zs) (hz : zs.length ≤ maxLen)
    (hQ : Trips w w.heap.size Q d qs) (hq : qs.length ≤ maxLen) (hR : Trips w w.heap.size R e rs) (hr : rs.length ≤ maxLen) :
    Calls Try.prog 8 #[.slice A zs.length a, .slice Q qs.length d, .slice R rs.length e] w (BoolB w true) := by
  have S := Lib.hid (fun W => sane_any W)
  obtain ⟨hsL, hnL⟩ := listL_short zs
  obtain ⟨p, hp⟩ : ∃ p, zs.length = p := ⟨_, rfl⟩
  obtain ⟨q, hqq⟩ : ∃ q, qs.length = q := ⟨_, rfl⟩
  obtain ⟨r, hrr⟩ : ∃ r, rs.length = r := ⟨_, rfl⟩
  obtain ⟨L, hL⟩ : ∃ L, listL zs = L := ⟨_, rfl⟩
  have li := fun (n : Nat) (W : World) (hW : Below w.heap.size w W) (hn : (listL zs).length = n) => list_at w.heap.size A zs a p n W (Row.below hA hW (Nat.le_refl _)) hW.size hp hn (by omega)
  rw [hL] at hsL hnL li
  obtain ⟨n, hn⟩ : ∃ n, L.length = n := ⟨_, rfl⟩
  have c1 := fun (A' : Option Addr) (c : Nat) (W : World) (hW : Below w.heap.size w W) (h : Strs W W.heap.size A' c L) => refChanged_any w.heap.size A' L c n Q qs d q W h hsL hn (by omega) (Row.below hQ hW (Nat.le_refl _)) hW.size hqq (by omega)
  have c2 := fun (A' : Option Addr) (c : Nat) (W : World) (hW : Below w.heap.size w W) (h : Strs W W.heap.size A' c L) => refChanged_any w.heap.size A' L c n R rs e r W h hsL hn (by omega) (Row.below hR hW (Nat.le_refl _)) hW.size hrr (by omega)
  have LI := Lib.hid (fun (W : World) (hW : Below w.heap.size w W) => li n W hW hn)
  have C1 := Lib.hid c1
  have C2 := Lib.hid c2
  have K1 := Lib.hid (fun (W : World) (hW : Below w.heap.size w W) => cut_any w.heap.size Q qs d q W (Row.below hQ hW (Nat.le_refl _)) hqq (by omega))
  have K2 := Lib.hid (fun (W : World) (hW : Below w.heap.size w W) => cut_any w.heap.size R rs e r W (Row.below hR hW (Nat.le_refl _)) hrr (by omega))
  have T := Lib.hid (fun (A' : Option Addr) (c m : Nat) (K : List ByteArray) (cut : Bool) (W : World) (h : Strs W W.heap.size A' c K) (hm : K.length = m) (hs : Shorts K) (h46 : m ≤ 46) => text_at A' c m cut W h hm hs h46)
  have HLn := Lib.hid hn
  have HLs := Lib.hid hsL
  rw [hn] at hnL
  rw [hqq] at hq ⊢
  rw [hrr] at hr ⊢
  rw [hp] at hz ⊢
  obtain ⟨b0, hb0⟩ : ∃ b, ((p : Int).tmod 4 == 3) = b := ⟨_, rfl⟩
  obtain ⟨b0', hb0'⟩ : ∃ b, ((p : Int) % 4 == 3) = b := ⟨_, rfl⟩
  clear li c1 c2 hA hQ hR hp hqq hrr hL hn hsL
  go_enter Try.func8, Try.ntmps8
  go_upto_region 5 with (first
    | (go_at_call 15; ((with_reducible refine (S.out _).mono ?_); rintro e' w1 ⟨rfl, hb⟩); (have HB1 := Lib.hid hb))
    | (go_at_call 20; ((with_reducible refine (LI.out _ HB1.out).mono ?_); rintro e' w2 ⟨A2, k2, rfl, hS, hb⟩); (have HB2 := Lib.hid (Below.then_ HB1.out hb)))
    | (go_at_call 21; ((with_reducible refine (C1.out _ _ _ HB2.out hS).mono ?_); rintro e' w3 ⟨A3, k3, m3, L3, rfl, hm3, hl3, hs3, hS3, hb⟩); (have hS := strs_on hS hb); (have HB3 := Lib.hid (Below.then_ HB2.out hb)))
    | (go_at_call 21; ((with_reducible refine (C2.out _ _ _ HB3.out hS).mono ?_); rintro e' w4 ⟨A4, k4, m4, L4, rfl, hm4, hl4, hs4, hS4, hb⟩); (have hS := strs_on hS hb); (have HB4 := Lib.hid (Below.then_ HB3.out hb)))
    | (go_at_call 28; ((with_reducible refine (K1.out _ HB3.out).mono ?_); rintro e' wk ⟨Z1, rfl, rfl⟩))
    | (go_at_call 28; ((with_reducible refine (K2.out _ HB4.out).mono ?_); rintro e' wk ⟨Z2, rfl, rfl⟩))
    | (go_at_call 19; ((with_reducible refine (T.out _ _ _ _ _ _ hS HLn.out HLs.out (by omega)).mono ?_); rintro e' wt ⟨rfl, rfl⟩))
    | (go_at_call 19; ((with_reducible refine (T.out _ _ _ _ _ _ hS3 hl3 hs3 (by omega)).mono ?_); rintro e' wt ⟨rfl, rfl⟩))
    | (go_at_call 19; ((with_reducible refine (T.out _ _ _ _ _ _ hS4 hl4 hs4 (by omega)).mono ?_); rintro e' wt ⟨rfl, rfl⟩)))
  clear hb0 hb0' hS hS3 hS4 hb
  have z1 := (text_short HLs.out (by rw [HLn.out]; omega) b0').2
  have z2 := (text_short hs3 (by omega) Z1).2
  have z3 := (text_short hs4 (by omega) Z2).2
  obtain ⟨TB, HTB⟩ : ∃ T, textS L b0' = T := ⟨_, rfl⟩
  obtain ⟨TL, HTL⟩ : ∃ T, textS L3 Z1 = T := ⟨_, rfl⟩
  obtain ⟨TR, HTR⟩ : ∃ T, textS L4 Z2 = T := ⟨_, rfl⟩
  rw [HTB, HTL, HTR]
  rw [HTB] at z1
  rw [HTL] at z2
  rw [HTR] at z3
  clear HTB HTL HTR hs3 hs4 hl3 hl4
  obtain ⟨U, nC, C, m1, m2, m3⟩ := two_merges TB TL TR z1 z2 z3
  have M1 := Lib.hid m1
  have M2 := Lib.hid m2
  have M3 := Lib.hid m3
  have e3 : (U.toList == U.toList) = true := by simp
  clear m1 m2 m3 z1 z2 z3
  go_wp2_with (first
    | (go_at_call 29; ((with_reducible refine (M1.out _).mono ?_); rintro e' w5 ⟨A5, k5, rfl, hp5, hb⟩); (have HB5 := Lib.hid (Below.then_ HB4.out hb)))
    | (go_at_call 30; ((with_reducible refine (M2.out _).mono ?_); rintro e' w6 ⟨A6, k6, rfl, hp6, hb⟩); (have hp5 := sps_on hp5 hb); (have HB6 := Lib.hid (Below.then_ HB5.out hb)))
    | (go_at_call 31; ((with_reducible refine (M3.out _ _ _ _ _ hp5 hp6).mono ?_); rintro e' w7 ⟨rfl, hb⟩); (have HB7 := Lib.hid (Below.then_ HB6.out hb))))
  go_ret
  exact ⟨rfl, HB7.out⟩
theorem contract (H : Type) (enc : TypeId × Value → H) (W : World) (base : Nat) (args : Array Value) (ds gs : List (DataW H)) (before : List MemPlace)
    (hval : ∀ (j : Nat) t v, Try.f8.params[j]? = some t → args[j]? = some v → Value.okWide Try.prog W .any base t v)
    (hW : DataW.Whole enc Try.prog Try.f8.params.toList Rows.linesMergesSpec.vars false W args.toList ds gs before) :
    Calls Try.prog 8 args W fun e W' => ∃ v, e = .returned v ∧ Rows.linesMergesSpec.post enc Try.prog Try.f8 false true false false W args v W' := by
  have hW' := hW
  obtain ⟨p, q, hA0, hV, rfl, hfz, hnd⟩ := hW
  have hA : DataW.TrodAll enc Try.prog W 0 (fun _ => true) true Try.f8.params.toList args.toList ds p := hA0
  rw [Try.params8] at hA hval
  obtain ⟨v0, vs0, d0, ds0, p0, q0, e0, rfl, rfl, h0, r0⟩ := trodAll_cons hA
  obtain ⟨v1, vs1, d1, ds1, p1, q1, e1, rfl, rfl, h1, r1⟩ := trodAll_cons r0
  obtain ⟨v2, vs2, d2, ds2, p2, q2, e2, rfl, rfl, h2, r2⟩ := trodAll_cons r1
  obtain ⟨rfl, rfl, rfl⟩ := trodAll_nil r2
  obtain rfl : args = #[v0, v1, v2] := by cases args; simp_all
  obtain ⟨rfl, rfl⟩ := trodVars_none hV
  obtain ⟨A, zs, a, rfl, hA1, hz⟩ := open_nums h0 (hval 0 28 v0 rfl rfl)
  obtain ⟨Q, qs, d, rfl, hQ, hq⟩ := open_trips h1 (hval 1 29 v1 rfl rfl)
  obtain ⟨R, rs, e, rfl, hR, hr⟩ := open_trips h2 (hval 2 29 v2 rfl rfl)
  refine (walk A zs a Q qs d R rs e W hA1 hz hQ hq hR hr).mono fun e W' ⟨he, hb⟩ => ⟨_, he, law_post rfl rfl ?_ rfl rfl rfl hW' hb⟩
  rw [Try.params8]
  intro t ht
  have ht' : t = 28 ∨ t = 29 ∨ t = 29 := by simpa using ht
  rcases ht' with rfl | rfl | rfl <;> exact ⟨by kernel_rfl, of_decide_eq_true (by kernel_rfl)⟩

set_option maxRecDepth 100000 in
theorem lifted (os : Os) (started : os.Started) (H : Type) (enc : TypeId × Value → H) :
    ReturnsInHanded {} Try.checked os 8 .any (Rows.linesMergesSpec.pre6 enc Try.prog Try.f8 Rows.linesMergesRow.domain false) (Rows.linesMergesSpec.post enc Try.prog Try.f8 false true false false) := by
  refine returnsInHanded_of_change (C := Try.checked) ownKnob_none started (by kernel_rfl) Try.func8
    (ChangeSpec.witness6 (enc := enc) (C := Try.checked) false ⟨#[], #[.slice none 0 0, .slice none 0 0, .slice none 0 0], []⟩ 8 (by kernel_rfl) (by kernel_rfl) (by kernel_rfl) (by kernel_rfl)) ?_
  intro W base args ds gs before hval hW _ _
  exact contract H enc W base args ds gs before hval hW

theorem proved : Rows.LinesMergesSaid :=
  OpenClaim.holds_of_wide 8 Try.f8 rfl rfl rfl rfl rfl rfl rfl ⟨rfl, rfl, rfl, rfl, rfl⟩ rfl rfl rfl rfl rfl (by kernel_rfl) Try.func8 (by kernel_rfl)
    (of_decide_eq_true (by kernel_rfl)) (by unfold Func.isWrapper; first | (rw [if_pos (by decide +kernel)]; kernel_rfl) | (rw [if_neg (by decide +kernel)]; exact ⟨rfl, rfl⟩))
    (fun os started H enc _ => lifted os started H enc)

end Go.Proofs.Ytmeoannheomdoaa.lmerges
