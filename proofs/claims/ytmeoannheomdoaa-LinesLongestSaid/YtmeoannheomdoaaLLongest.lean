/- LinesLongest: the number of lines that are paired is the length of the longest common subsequence. For all arguments. -/
import Derived.Test.YtmeoannheomdoaaKit
import Derived.Test.YtmeoannheomdoaaLengths
import Derived.Test.YtmeoannheomdoaaLongestMath
namespace Go.Proofs.Ytmeoannheomdoaa.llongest
open Go.ChangeShapes Go.WideShapes Go.ChangeAt Go.RowKit

set_option maxRecDepth 100000 in
set_option maxHeartbeats 8000000 in
theorem walk (A : Option Addr) (zs : List Int) (ca : Nat) (B : Option Addr) (ys : List Int) (cb : Nat) (w : World) (hA : Ints w w.heap.size A ca zs) (hz : zs.length ≤ maxLen) (hB : Ints w w.heap.size B cb ys) (hy : ys.length ≤ maxLen) :
    Calls Try.prog 7 #[.slice A zs.length ca, .slice B ys.length cb] w (BoolB w true) := by
  have S := Lib.hid (fun W => sane_any W)
  obtain ⟨hsa, hna⟩ := listL_short zs
  obtain ⟨hsb, hnb⟩ := listL_short ys
  obtain ⟨p, hp⟩ : ∃ p, zs.length = p := ⟨_, rfl⟩
  obtain ⟨q, hq⟩ : ∃ q, ys.length = q := ⟨_, rfl⟩
  obtain ⟨a, ha⟩ : ∃ L, listL zs = L := ⟨_, rfl⟩
  obtain ⟨b, hb⟩ : ∃ L, listL ys = L := ⟨_, rfl⟩
  have la := fun (n : Nat) (W : World) (hW : Below w.heap.size w W) (hn : (listL zs).length = n) => list_at w.heap.size A zs ca p n W (Row.below hA hW (Nat.le_refl _)) hW.size hp hn (by omega)
  have lb := fun (n : Nat) (W : World) (hW : Below w.heap.size w W) (hn : (listL ys).length = n) => list_at w.heap.size B ys cb q n W (Row.below hB hW (Nat.le_refl _)) hW.size hq hn (by omega)
  rw [ha] at hsa hna la
  rw [hb] at hsb hnb lb
  obtain ⟨n, hn⟩ : ∃ n, a.length = n := ⟨_, rfl⟩
  obtain ⟨m, hm⟩ : ∃ m, b.length = m := ⟨_, rfl⟩
  obtain ⟨r, hr⟩ : ∃ r, (diff a b).length = r := ⟨_, rfl⟩
  have hdl := diff_len a b
  have hlong := longest a b (by have := Nat.mul_le_mul hna hnb; omega)
  rw [hn] at hna hdl hlong
  rw [hm] at hnb
  rw [hr] at hdl
  have LA := Lib.hid (fun (W : World) (hW : Below w.heap.size w W) => la n W hW hn)
  have LB := Lib.hid (fun (W : World) (hW : Below w.heap.size w W) => lb m W hW hm)
  have D := Lib.hid (fun (A B : Option Addr) (c d : Nat) (W : World) (hA : Strs W W.heap.size A c a) (hB : Strs W W.heap.size B d b) => diff_at A B a b c d n m r W hA hB hn hm (by omega) (by omega) hsa hsb hr)
  have LG := Lib.hid (fun (A B : Option Addr) (c d : Nat) (W : World) (hA : Strs W W.heap.size A c a) (hB : Strs W W.heap.size B d b) => lengths_any A B a b n m c d W hA hB hn hm (by omega) (by omega))
  have hok := fun x hx => (diff_ok a b).mem x hx
  obtain ⟨H, hH⟩ : ∃ H, diff a b = H := ⟨_, rfl⟩
  rw [hH] at D hok hlong hr
  have HOK := Lib.hid hok
  have HLo := Lib.hid hlong
  have HR := Lib.hid hr
  rw [hp] at hz ⊢
  rw [hq] at hy ⊢
  clear la lb hA hB hp hq ha hb hn hm hH hok hlong hr hsa hsb
  go_enter Try.func7, Try.ntmps7
  go_upto_region 5 with (first
    | (go_at_call 15; ((with_reducible refine (S.out _).mono ?_); rintro e' w1 ⟨rfl, hb⟩); (have HB1 := Lib.hid hb))
    | (go_at_call 20; ((with_reducible refine (LA.out _ HB1.out).mono ?_); rintro e' w2 ⟨A2, k2, rfl, hSa, hb⟩); (have HB2 := Lib.hid (Below.then_ HB1.out hb)))
    | (go_at_call 20; ((with_reducible refine (LB.out _ HB2.out).mono ?_); rintro e' w3 ⟨A3, k3, rfl, hSb, hb⟩); (have hSa := strs_on hSa hb); (have HB3 := Lib.hid (Below.then_ HB2.out hb)))
    | (go_at_call 23; ((with_reducible refine (D.out _ _ _ _ _ hSa hSb).mono ?_); rintro e' w4 ⟨A4, k4, rfl, hH4, hb⟩); (have hSa := strs_on hSa hb); (have hSb := strs_on hSb hb); (have HB4 := Lib.hid (Below.then_ HB3.out hb))))
  have HSa := Lib.hid hSa
  have HSb := Lib.hid hSb
  have HH := Lib.hid hH4
  clear hSa hSb hH4 hb
  go_loopw [8, 22] (fun v8 v22 wr => ∃ (t lf : Nat), t ≤ r ∧ v22 = .int .i64 (t : Int) ∧ v8 = .int .i64 (lf : Int) ∧ Hid (lf + cutN (H.take t) = n) ∧ lf ≤ n ∧ Hid (Below w4.heap.size w4 wr)) (fun _ v22 _ => r - (intOf v22).toNat)
  case atStart => exact ⟨0, n, by omega, rfl, rfl, Lib.hid (by simp [cutN]), Nat.le_refl _, Lib.hid (Below.refl _ _)⟩
  case round =>
    obtain ⟨t, lf, ht, rfl, rfl, HI, hlf, HBI⟩ := hrel
    have ht0 : (0 : Int) ≤ (t : Int) := Int.natCast_nonneg _
    by_cases htl : t < r
    · have ht1 : (t : Int) < (r : Int) := by omega
      have htH : t < H.length := by rw [HR.out]; exact htl
      have hkc := hks_at (Row.below HH.out HBI.out (Nat.le_refl _)) htH
      have hst := cutN_take H t htH
      have hle := cutN_le H (t + 1)
      obtain ⟨s1, s2, s3, s4, s5⟩ := HOK.out _ (List.getElem_mem htH)
      obtain ⟨x, hx⟩ : ∃ x, H[t] = x := ⟨_, rfl⟩
      rw [hx] at s4 hkc hst
      obtain ⟨ad, rfl, q0, q1, q2, q3⟩ := hkc
      obtain ⟨a0, a1, b0, b1⟩ := x
      dsimp only at s4 q0 q1 q2 q3 hst
      have hlo := HLo.out
      have hin := HI.out
      obtain ⟨dd, hdd⟩ : ∃ dd, a1 - a0 = dd := ⟨_, rfl⟩
      rw [hdd] at hst
      have hdn : dd ≤ lf := by omega
      obtain ⟨lg, hlg⟩ : ∃ lg, lf - dd = lg := ⟨_, rfl⟩
      have hw1 : IntKind.i64.wrap ((a1 : Int) - (a0 : Int)) = (dd : Int) := by simp [IntKind.wrap, IntKind.bits, IntKind.signed]; omega
      have hw2 : IntKind.i64.wrap ((lf : Int) - (dd : Int)) = (lg : Int) := by simp [IntKind.wrap, IntKind.bits, IntKind.signed]; omega
      have HI2 : Hid (lg + cutN (H.take (t + 1)) = n) := Lib.hid (by omega)
      have hlg2 : lg ≤ n := by omega
      have HBI2 : Hid (Below w4.heap.size w4 (wr.alloc (.cells #[.int .i64 (a0 : Int), .int .i64 (a1 : Int), .int .i64 (b0 : Int), .int .i64 (b1 : Int)] 40))) := Lib.hid (HBI.out.alloc HBI.out.size _)
      clear hx hst hle hdd hlg hlo hin s1 s2 s3 s4 s5
      go_wp2_with fail
      go_roundw
      case rel => exact ⟨t + 1, lg, by omega, by go_num, rfl, HI2, hlg2, HBI2⟩
      case measure => simp [intOf]; omega
    · obtain rfl : t = r := by omega
      have hSa := strs_on HSa.out HBI.out
      have hSb := strs_on HSb.out HBI.out
      have HB5 := Lib.hid (Below.then_ HB4.out HBI.out)
      obtain ⟨v, hv⟩ : ∃ v, LL a b 0 0 = v := ⟨_, rfl⟩
      have hlv : lf = v := by
        have h1 := HI.out
        have h2 := HLo.out
        rw [List.take_of_length_le (Nat.le_of_eq HR.out)] at h1
        rw [← hv]
        unfold LL
        rw [List.drop_zero, List.drop_zero]
        omega
      subst hlv
      have HV := Lib.hid hv
      clear hv
      have hn0 : (0 : Int) < (n : Int) + 1 := by omega
      have hm0 : (0 : Int) < (b.length : Int) + 1 := by omega
      go_wp2_with (go_at_call 27; ((with_reducible refine (LG.out _ _ _ _ _ hSa hSb).mono ?_); rintro e' w8 ⟨g8, rows, rfl, hT, hb⟩); (obtain ⟨g9, c1, c2, -⟩ := hT.at_ (i := 0) (j := 0) (by decide) (Nat.zero_le _) (Nat.zero_le _) HV.out); (have HB8 := Lib.hid (Below.then_ HB5.out hb)))
      go_ret
      exact ⟨rfl, HB8.out⟩
theorem contract (H : Type) (enc : TypeId × Value → H) (W : World) (base : Nat) (args : Array Value) (ds gs : List (DataW H)) (before : List MemPlace)
    (hval : ∀ (j : Nat) t v, Try.f7.params[j]? = some t → args[j]? = some v → Value.okWide Try.prog W .any base t v)
    (hW : DataW.Whole enc Try.prog Try.f7.params.toList Rows.linesLongestSpec.vars false W args.toList ds gs before) :
    Calls Try.prog 7 args W fun e W' => ∃ v, e = .returned v ∧ Rows.linesLongestSpec.post enc Try.prog Try.f7 false true false false W args v W' := by
  have hW' := hW
  obtain ⟨p, q, hA0, hV, rfl, hfz, hnd⟩ := hW
  have hA : DataW.TrodAll enc Try.prog W 0 (fun _ => true) true Try.f7.params.toList args.toList ds p := hA0
  rw [Try.params7] at hA hval
  obtain ⟨v0, vs0, d0, ds0, p0, q0, e0, rfl, rfl, h0, r0⟩ := trodAll_cons hA
  obtain ⟨v1, vs1, d1, ds1, p1, q1, e1, rfl, rfl, h1, r1⟩ := trodAll_cons r0
  obtain ⟨rfl, rfl, rfl⟩ := trodAll_nil r1
  obtain rfl : args = #[v0, v1] := by cases args; simp_all
  obtain ⟨rfl, rfl⟩ := trodVars_none hV
  obtain ⟨A, zs, ca, rfl, hA1, hz⟩ := open_nums h0 (hval 0 28 v0 rfl rfl)
  obtain ⟨B, ys, cb, rfl, hB1, hy⟩ := open_nums h1 (hval 1 28 v1 rfl rfl)
  refine (walk A zs ca B ys cb W hA1 hz hB1 hy).mono fun e W' ⟨he, hb⟩ => ⟨_, he, law_post rfl rfl ?_ rfl rfl rfl hW' hb⟩
  rw [Try.params7]
  intro t ht
  have ht' : t = 28 ∨ t = 28 := by simpa using ht
  rcases ht' with rfl | rfl <;> exact ⟨by kernel_rfl, of_decide_eq_true (by kernel_rfl)⟩

set_option maxRecDepth 100000 in
theorem lifted (os : Os) (started : os.Started) (H : Type) (enc : TypeId × Value → H) :
    ReturnsInHanded {} Try.checked os 7 .any (Rows.linesLongestSpec.pre6 enc Try.prog Try.f7 Rows.linesLongestRow.domain false) (Rows.linesLongestSpec.post enc Try.prog Try.f7 false true false false) := by
  refine returnsInHanded_of_change (C := Try.checked) ownKnob_none started (by kernel_rfl) Try.func7
    (ChangeSpec.witness6 (enc := enc) (C := Try.checked) false ⟨#[], #[.slice none 0 0, .slice none 0 0], []⟩ 8 (by kernel_rfl) (by kernel_rfl) (by kernel_rfl) (by kernel_rfl)) ?_
  intro W base args ds gs before hval hW _ _
  exact contract H enc W base args ds gs before hval hW

theorem proved : Rows.LinesLongestSaid :=
  OpenClaim.holds_of_wide 7 Try.f7 rfl rfl rfl rfl rfl rfl rfl ⟨rfl, rfl, rfl, rfl, rfl⟩ rfl rfl rfl rfl rfl (by kernel_rfl) Try.func7 (by kernel_rfl)
    (of_decide_eq_true (by kernel_rfl)) (by unfold Func.isWrapper; first | (rw [if_pos (by decide +kernel)]; kernel_rfl) | (rw [if_neg (by decide +kernel)]; exact ⟨rfl, rfl⟩))
    (fun os started H enc _ => lifted os started H enc)

end Go.Proofs.Ytmeoannheomdoaa.llongest
