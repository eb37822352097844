/- LinesDiff: the hunks of two lists are those of the reference implementation. For all arguments. -/
import Derived.Test.YtmeoannheomdoaaKit
import Derived.Test.YtmeoannheomdoaaRefDiff
namespace Go.Proofs.Ytmeoannheomdoaa.ldiff
open Go.ChangeShapes Go.WideShapes Go.ChangeAt Go.RowKit

set_option maxRecDepth 100000 in
set_option maxHeartbeats 8000000 in
theorem walk (A : Option Addr) (zs : List Int) (ca : Nat) (Q : Option Addr) (qs : List Trip) (cq : Nat) (B : Option Addr) (ys : List Int) (cb : Nat) (w : World) (hA : Ints w w.heap.size A ca zs) (hz : zs.length ≤ maxLen)
    (hQ : Trips w w.heap.size Q cq qs) (hq : qs.length ≤ maxLen) (hB : Ints w w.heap.size B cb ys) (hy : ys.length ≤ maxLen) :
    Calls Try.prog 4 #[.slice A zs.length ca, .slice Q qs.length cq, .slice B ys.length cb] w (BoolB w true) := by
  have S := Lib.hid (fun W => sane_any W)
  obtain ⟨hsa, hna⟩ := listL_short zs
  obtain ⟨hsb, hnb⟩ := listL_short ys
  obtain ⟨p, hp⟩ : ∃ p, zs.length = p := ⟨_, rfl⟩
  obtain ⟨q, hqq⟩ : ∃ q, qs.length = q := ⟨_, rfl⟩
  obtain ⟨r, hr⟩ : ∃ r, ys.length = r := ⟨_, rfl⟩
  obtain ⟨a, ha⟩ : ∃ L, listL zs = L := ⟨_, rfl⟩
  obtain ⟨b, hb⟩ : ∃ L, listL ys = L := ⟨_, rfl⟩
  have la := fun (n : Nat) (W : World) (hW : Below w.heap.size w W) (hn : (listL zs).length = n) => list_at w.heap.size A zs ca p n W (Row.below hA hW (Nat.le_refl _)) hW.size hp hn (by omega)
  have lb := fun (n : Nat) (W : World) (hW : Below w.heap.size w W) (hn : (listL ys).length = n) => list_at w.heap.size B ys cb r n W (Row.below hB hW (Nat.le_refl _)) hW.size hr hn (by omega)
  rw [ha] at hsa hna la
  rw [hb] at hsb hnb lb
  obtain ⟨n, hn⟩ : ∃ n, a.length = n := ⟨_, rfl⟩
  obtain ⟨m, hm⟩ : ∃ m, b.length = m := ⟨_, rfl⟩
  have c1 := fun (A' : Option Addr) (c : Nat) (W : World) (hW : Below w.heap.size w W) (h : Strs W W.heap.size A' c a) => refChanged_any w.heap.size A' a c n Q qs cq q W h hsa hn (by omega) (Row.below hQ hW (Nat.le_refl _)) hW.size hqq (by omega)
  have LA := Lib.hid (fun (W : World) (hW : Below w.heap.size w W) => la n W hW hn)
  have LB := Lib.hid (fun (W : World) (hW : Below w.heap.size w W) => lb m W hW hm)
  have C1 := Lib.hid c1
  rw [hn] at hna
  rw [hm] at hnb
  have HN := Lib.hid hn
  have HM := Lib.hid hm
  have HSA := Lib.hid hsa
  have HSB := Lib.hid hsb
  rw [hp] at hz ⊢
  rw [hqq] at hq ⊢
  rw [hr] at hy ⊢
  clear la lb c1 hA hB hQ hp hqq hr ha hb hn hm hsa hsb
  go_enter Try.func4, Try.ntmps4
  go_upto_region 5 with (first
    | (go_at_call 15; ((with_reducible refine (S.out _).mono ?_); rintro e' w1 ⟨rfl, hb⟩); (have HB1 := Lib.hid hb))
    | (go_at_call 20; ((with_reducible refine (LA.out _ HB1.out).mono ?_); rintro e' w2 ⟨A2, k2, rfl, hSa, hb⟩); (have HB2 := Lib.hid (Below.then_ HB1.out hb)))
    | (go_at_call 21; ((with_reducible refine (C1.out _ _ _ HB2.out hSa).mono ?_); rintro e' w3 ⟨A3, k3, m3, L3, rfl, hm3, hl3, hs3, hS3, hb⟩); (have hSa := strs_on hSa hb); (have HB3 := Lib.hid (Below.then_ HB2.out hb)))
    | (go_at_call 20; ((with_reducible refine (LB.out _ HB3.out).mono ?_); rintro e' w4 ⟨A4, k4, rfl, hSb, hb⟩); (have hSa := strs_on hSa hb); (have hS3 := strs_on hS3 hb); (have HB4 := Lib.hid (Below.then_ HB3.out hb))))
  clear hb
  obtain ⟨q1, hq1⟩ : ∃ q, (diff a L3).length = q := ⟨_, rfl⟩
  obtain ⟨q2, hq2⟩ : ∃ q, (diff a b).length = q := ⟨_, rfl⟩
  obtain ⟨q3, hq3⟩ : ∃ q, (diff b L3).length = q := ⟨_, rfl⟩
  have z1 := diff_len a L3
  have z2 := diff_len a b
  have z3 := diff_len b L3
  rw [hq1, HN.out] at z1
  rw [hq2, HN.out] at z2
  rw [hq3, HM.out] at z3
  have D1 := Lib.hid (fun (c d : Nat) (A B : Option Addr) (W : World) (hA : Strs W W.heap.size A c a) (hB : Strs W W.heap.size B d L3) => diff_at A B a L3 c d n m3 q1 W hA hB HN.out hl3 (by omega) (by omega) HSA.out hs3 hq1)
  have D2 := Lib.hid (fun (c d : Nat) (A B : Option Addr) (W : World) (hA : Strs W W.heap.size A c a) (hB : Strs W W.heap.size B d b) => diff_at A B a b c d n m q2 W hA hB HN.out HM.out (by omega) (by omega) HSA.out HSB.out hq2)
  have D3 := Lib.hid (fun (c d : Nat) (A B : Option Addr) (W : World) (hA : Strs W W.heap.size A c b) (hB : Strs W W.heap.size B d L3) => diff_at A B b L3 c d m m3 q3 W hA hB HM.out hl3 (by omega) (by omega) HSB.out hs3 hq3)
  have R1 := Lib.hid (fun (c d : Nat) (A B : Option Addr) (W : World) (hA : Strs W W.heap.size A c a) (hB : Strs W W.heap.size B d L3) => refDiff_any A B a L3 n m3 c d q1 W hA hB HN.out hl3 (by omega) (by omega) hq1)
  have R2 := Lib.hid (fun (c d : Nat) (A B : Option Addr) (W : World) (hA : Strs W W.heap.size A c a) (hB : Strs W W.heap.size B d b) => refDiff_any A B a b n m c d q2 W hA hB HN.out HM.out (by omega) (by omega) hq2)
  have R3 := Lib.hid (fun (c d : Nat) (A B : Option Addr) (W : World) (hA : Strs W W.heap.size A c b) (hB : Strs W W.heap.size B d L3) => refDiff_any A B b L3 m m3 c d q3 W hA hB HM.out hl3 (by omega) (by omega) hq3)
  have S1 := Lib.hid (fun (A B : Option Addr) (c d : Nat) (W : World) (hA : Hks W W.heap.size A c (diff a L3)) (hB : Hks W W.heap.size B d (diff a L3)) => hunks_at A B (diff a L3) c d q1 W hA hB hq1 (by omega))
  have S2 := Lib.hid (fun (A B : Option Addr) (c d : Nat) (W : World) (hA : Hks W W.heap.size A c (diff a b)) (hB : Hks W W.heap.size B d (diff a b)) => hunks_at A B (diff a b) c d q2 W hA hB hq2 (by omega))
  have S3 := Lib.hid (fun (A B : Option Addr) (c d : Nat) (W : World) (hA : Hks W W.heap.size A c (diff b L3)) (hB : Hks W W.heap.size B d (diff b L3)) => hunks_at A B (diff b L3) c d q3 W hA hB hq3 (by omega))
  clear hq1 hq2 hq3 z1 z2 z3 hl3 hs3 hm3 HB1 HB2 HB3
  go_wp2_with (first
    | (go_at_call 23; ((with_reducible refine (D1.out _ _ _ _ _ hSa hS3).mono ?_); rintro e' wa1 ⟨Aa1, ka1, rfl, hHa1, hb⟩); (have hSa := strs_on hSa hb); (have hSb := strs_on hSb hb); (have hS3 := strs_on hS3 hb); (have HBA1 := Lib.hid (Below.then_ HB4.out hb)))
    | (go_at_call 24; ((with_reducible refine (R1.out _ _ _ _ _ hSa hS3).mono ?_); rintro e' wb1 ⟨Ab1, kb1, rfl, hHb1, hb⟩); (have hSa := strs_on hSa hb); (have hSb := strs_on hSb hb); (have hS3 := strs_on hS3 hb); (have hHa1 := hks_on hHa1 hb); (have HBC1 := Lib.hid (Below.then_ HBA1.out hb)))
    | (go_at_call 22; ((with_reducible refine (S1.out _ _ _ _ _ hHa1 hHb1).mono ?_); rintro e' wc1 ⟨rfl, hb⟩); (have hSa := strs_on hSa hb); (have hSb := strs_on hSb hb); (have hS3 := strs_on hS3 hb); (have HBD1 := Lib.hid (Below.then_ HBC1.out hb)))
    | (go_at_call 23; ((with_reducible refine (D2.out _ _ _ _ _ hSa hSb).mono ?_); rintro e' wa2 ⟨Aa2, ka2, rfl, hHa2, hb⟩); (have hSa := strs_on hSa hb); (have hSb := strs_on hSb hb); (have hS3 := strs_on hS3 hb); (have HBA2 := Lib.hid (Below.then_ HBD1.out hb)))
    | (go_at_call 24; ((with_reducible refine (R2.out _ _ _ _ _ hSa hSb).mono ?_); rintro e' wb2 ⟨Ab2, kb2, rfl, hHb2, hb⟩); (have hSa := strs_on hSa hb); (have hSb := strs_on hSb hb); (have hS3 := strs_on hS3 hb); (have hHa2 := hks_on hHa2 hb); (have HBC2 := Lib.hid (Below.then_ HBA2.out hb)))
    | (go_at_call 22; ((with_reducible refine (S2.out _ _ _ _ _ hHa2 hHb2).mono ?_); rintro e' wc2 ⟨rfl, hb⟩); (have hSa := strs_on hSa hb); (have hSb := strs_on hSb hb); (have hS3 := strs_on hS3 hb); (have HBD2 := Lib.hid (Below.then_ HBC2.out hb)))
    | (go_at_call 23; ((with_reducible refine (D3.out _ _ _ _ _ hSb hS3).mono ?_); rintro e' wa3 ⟨Aa3, ka3, rfl, hHa3, hb⟩); (have hSa := strs_on hSa hb); (have hSb := strs_on hSb hb); (have hS3 := strs_on hS3 hb); (have HBA3 := Lib.hid (Below.then_ HBD2.out hb)))
    | (go_at_call 24; ((with_reducible refine (R3.out _ _ _ _ _ hSb hS3).mono ?_); rintro e' wb3 ⟨Ab3, kb3, rfl, hHb3, hb⟩); (have hSa := strs_on hSa hb); (have hSb := strs_on hSb hb); (have hS3 := strs_on hS3 hb); (have hHa3 := hks_on hHa3 hb); (have HBC3 := Lib.hid (Below.then_ HBA3.out hb)))
    | (go_at_call 22; ((with_reducible refine (S3.out _ _ _ _ _ hHa3 hHb3).mono ?_); rintro e' wc3 ⟨rfl, hb⟩); (have hSa := strs_on hSa hb); (have hSb := strs_on hSb hb); (have hS3 := strs_on hS3 hb); (have HBD3 := Lib.hid (Below.then_ HBC3.out hb))))
  go_ret
  exact ⟨rfl, HBD3.out⟩
theorem contract (H : Type) (enc : TypeId × Value → H) (W : World) (base : Nat) (args : Array Value) (ds gs : List (DataW H)) (before : List MemPlace)
    (hval : ∀ (j : Nat) t v, Try.f4.params[j]? = some t → args[j]? = some v → Value.okWide Try.prog W .any base t v)
    (hW : DataW.Whole enc Try.prog Try.f4.params.toList Rows.linesDiffSpec.vars false W args.toList ds gs before) :
    Calls Try.prog 4 args W fun e W' => ∃ v, e = .returned v ∧ Rows.linesDiffSpec.post enc Try.prog Try.f4 false true false false W args v W' := by
  have hW' := hW
  obtain ⟨p, q, hA0, hV, rfl, hfz, hnd⟩ := hW
  have hA : DataW.TrodAll enc Try.prog W 0 (fun _ => true) true Try.f4.params.toList args.toList ds p := hA0
  rw [Try.params4] at hA hval
  obtain ⟨v0, vs0, d0, ds0, p0, q0, e0, rfl, rfl, h0, r0⟩ := trodAll_cons hA
  obtain ⟨v1, vs1, d1, ds1, p1, q1, e1, rfl, rfl, h1, r1⟩ := trodAll_cons r0
  obtain ⟨v2, vs2, d2, ds2, p2, q2, e2, rfl, rfl, h2, r2⟩ := trodAll_cons r1
  obtain ⟨rfl, rfl, rfl⟩ := trodAll_nil r2
  obtain rfl : args = #[v0, v1, v2] := by cases args; simp_all
  obtain ⟨rfl, rfl⟩ := trodVars_none hV
  obtain ⟨A, zs, ca, rfl, hA1, hz⟩ := open_nums h0 (hval 0 28 v0 rfl rfl)
  obtain ⟨Q, qs, cq, rfl, hQ1, hq⟩ := open_trips h1 (hval 1 29 v1 rfl rfl)
  obtain ⟨B, ys, cb, rfl, hB1, hy⟩ := open_nums h2 (hval 2 28 v2 rfl rfl)
  refine (walk A zs ca Q qs cq B ys cb W hA1 hz hQ1 hq hB1 hy).mono fun e W' ⟨he, hb⟩ => ⟨_, he, law_post rfl rfl ?_ rfl rfl rfl hW' hb⟩
  rw [Try.params4]
  intro t ht
  have ht' : t = 28 ∨ t = 29 ∨ t = 28 := by simpa using ht
  rcases ht' with rfl | rfl | rfl <;> exact ⟨by kernel_rfl, of_decide_eq_true (by kernel_rfl)⟩

set_option maxRecDepth 100000 in
theorem lifted (os : Os) (started : os.Started) (H : Type) (enc : TypeId × Value → H) :
    ReturnsInHanded {} Try.checked os 4 .any (Rows.linesDiffSpec.pre6 enc Try.prog Try.f4 Rows.linesDiffRow.domain false) (Rows.linesDiffSpec.post enc Try.prog Try.f4 false true false false) := by
  refine returnsInHanded_of_change (C := Try.checked) ownKnob_none started (by kernel_rfl) Try.func4
    (ChangeSpec.witness6 (enc := enc) (C := Try.checked) false ⟨#[], #[.slice none 0 0, .slice none 0 0, .slice none 0 0], []⟩ 8 (by kernel_rfl) (by kernel_rfl) (by kernel_rfl) (by kernel_rfl)) ?_
  intro W base args ds gs before hval hW _ _
  exact contract H enc W base args ds gs before hval hW

theorem proved : Rows.LinesDiffSaid :=
  OpenClaim.holds_of_wide 4 Try.f4 rfl rfl rfl rfl rfl rfl rfl ⟨rfl, rfl, rfl, rfl, rfl⟩ rfl rfl rfl rfl rfl (by kernel_rfl) Try.func4 (by kernel_rfl)
    (of_decide_eq_true (by kernel_rfl)) (by unfold Func.isWrapper; first | (rw [if_pos (by decide +kernel)]; kernel_rfl) | (rw [if_neg (by decide +kernel)]; exact ⟨rfl, rfl⟩))
    (fun os started H enc _ => lifted os started H enc)

end Go.Proofs.Ytmeoannheomdoaa.ldiff
