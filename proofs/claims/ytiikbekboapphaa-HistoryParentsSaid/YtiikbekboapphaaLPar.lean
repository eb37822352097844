/- HistoryParents: Add accepts exactly one parent that exists, or two different ones. For all arguments. -/
import Derived.Test.YtiikbekboapphaaOpenL
import Derived.BigQuiet
namespace Go.Proofs.Ytiikbekboapphaa.lpar
open Go.ChangeShapes Go.WideShapes Go.ChangeAt Go.RowKit

theorem add_no {B : Nat} {w : World} {p : Nat} {cs : List Cm} {F : Nat → Prop} (hh : IsH B w p cs F) {B1 m1 d1 m2 d2 : Nat} {A1 A2 : Option Addr} {ps : List Int} {t : Int} {au : ByteArray} {em : Bool}
    (r1 : Row w B1 1 A1 m1 d1 (intC ps)) (hB1 : B1 ≤ w.heap.size) (hm1 : m1 ≤ maxLen) (hc : canBe cs.length ps = false) :
    Calls Try.prog 16 #[.pointer (some ⟨p, 0, none⟩), .agg #[.slice A1 m1 d1, .int .i64 t, .string au, .slice A2 m2 d2, .bool em]] w fun e w' => e = .returned (.tuple #[.int .i64 0, .int .i64 1]) ∧ Below w.heap.size w w' := by
  obtain ⟨w1, hw1⟩ : ∃ w1, w.alloc (.cells #[.slice A1 m1 d1, .int .i64 t, .string au, .slice A2 m2 d2, .bool em] 25) = w1 := ⟨_, rfl⟩
  have hb1 : Below w.heap.size w w1 := by rw [← hw1]; exact (Below.refl _ w).alloc (Nat.le_refl _) _
  have K1 : Full w1 w.heap.size 25 [.slice A1 m1 d1, .int .i64 t, .string au, .slice A2 m2 d2, .bool em] := by rw [← hw1]; exact Full.new w 25 [.slice A1 m1 d1, .int .i64 t, .string au, .slice A2 m2 d2, .bool em]
  have k0 : w1.cell? ⟨w.heap.size, 0, none⟩ = some (.slice A1 m1 d1) := K1.cell 0
  have CN := Lib.hid (can_any (some ⟨p, 0, none⟩) (Row.below r1 hb1 hB1) hm1 (fun a => has_any (hh.on hb1) a))
  unfold CanOut at CN
  rw [hc] at CN
  have HB1 := Lib.hid hb1
  clear r1 hb1 K1 hh hc
  go_enter Try.func16, Try.ntmps16
  go_upto_region 1 with fail
  clear hw1
  go_wp2_with (go_at_call 37; ((with_reducible refine CN.out.mono ?_); rintro e w2 ⟨rfl, q, rfl⟩))
  refine bodyPost_ret (v := .tuple #[.int .i64 0, .int .i64 1]) (by simp [results, Try.results16, go_sem]) rfl ?_
  exact ⟨rfl, Below.drewN_ HB1.out q⟩

/-- the law's first word of the parents -/
def fine0 (zs : List Int) : Bool := zs.length == 1 || zs.length == 2 && zs.getD 0 0 != zs.getD 1 0
theorem fine_can (n : Nat) (zs : List Int) : (fine0 zs && zs.all (inR n)) = canBe n zs := by
  unfold fine0 canBe
  match zs with
  | [] => rfl
  | [a] => simp
  | [a, b] => simp [Bool.and_comm, Bool.and_assoc, bne]
  | a :: b :: c :: t => simp

set_option maxRecDepth 100000 in
set_option maxHeartbeats 8000000 in
theorem walk (A : Option Addr) (l : List (Int × Int)) (c : Nat) (P : Option Addr) (zs : List Int) (d : Nat) (w : World) (hA : Prs w w.heap.size A c l) (hl : l.length ≤ maxLen) (hP : Row w w.heap.size 1 P zs.length d (intC zs)) (hz : zs.length ≤ maxLen) :
    Calls Try.prog 4 #[.slice A l.length c, .slice P zs.length d] w (BoolB w true) := by
  have S := Lib.hid (sane_any w)
  have MD := Lib.hid (fun (W : World) (h : Below w.heap.size w W) => made_any W A l c ⟨(Row.below hA.1 h (Nat.le_refl _)).more h.size, hA.2⟩ hl)
  have RP := Lib.hid (fun (W : World) (h : Below w.heap.size w W) => Row.below hP h (Nat.le_refl _))
  unfold BoolB at S ⊢
  unfold MadeOut at MD
  obtain ⟨m, hm⟩ : ∃ m, l.length = m := ⟨_, rfl⟩
  obtain ⟨z, hzz⟩ : ∃ z, zs.length = z := ⟨_, rfl⟩
  have HZ := Lib.hid hzz
  have HMX := Lib.hid hz
  unfold maxLen at hz
  rw [hm] at MD ⊢
  rw [hzz] at RP hz ⊢
  clear hA hl hP hm
  go_enter Try.func4, Try.ntmps4
  go_upto_region 6 with (first
    | (go_at_call 14; ((with_reducible refine S.out.mono ?_); rintro e w1 ⟨rfl, hb1⟩))
    | (go_at_call 15; ((with_reducible refine (MD.out _ hb1).mono ?_); rintro e w2 ⟨p, q, cs, rfl, hcs, hT⟩))
    | (go_at_call 19; ((with_reducible refine hT.rmany_.mono ?_); rintro e v ⟨rfl, rfl⟩))
    | (fail "arm"))
  have HB2 := Lib.hid (Below.then_ hb1 hT.below)
  have HT := Lib.hid hT
  obtain ⟨n, hn⟩ : ∃ n, cs.length = n := ⟨_, rfl⟩
  have HN := Lib.hid hn
  rw [hn] at hcs ⊢
  have R2 := Lib.hid (RP.out w2 HB2.out)
  obtain ⟨f0, hf0⟩ : ∃ f0, fine0 zs = f0 := ⟨_, rfl⟩
  have HF0 := Lib.hid hf0
  have HBX := Lib.hid hb1.size
  clear hT hb1 hn hf0 hzz
  go_cut [10] from 26 to 42 (fun v10 wx => v10 = .bool f0 ∧ ∃ q, wx = w2.drewN q)
  case first =>
    have hfd := HF0.out
    unfold fine0 at hfd
    rw [HZ.out] at hfd
    by_cases h1 : z = 1
    · subst h1
      have hft : f0 = true := by rw [← hfd]; rfl
      subst hft
      clear hfd
      go_quiet (fail)
      all_goals (go_wp2_with fail; go_meet)
      all_goals (case rel => exact ⟨rfl, _, rfl⟩)
    · by_cases h2 : z = 2
      · subst h2
        obtain ⟨ad, rfl, _, hc0⟩ := R2.out.2.2.2 0 _ (intC_at zs 0 (by have := HZ.out; omega))
        obtain ⟨ad', e', _, hc1⟩ := R2.out.2.2.2 1 _ (intC_at zs 1 (by have := HZ.out; omega))
        obtain rfl : ad = ad' := by injection e'
        obtain ⟨x, hx⟩ : ∃ x, zs.getD 0 0 = x := ⟨_, rfl⟩
        obtain ⟨y, hy⟩ : ∃ y, zs.getD 1 0 = y := ⟨_, rfl⟩
        rw [hx, hy] at hfd
        rw [hx] at hc0
        rw [hy] at hc1
        have hc00 : w2.cell? ad = some (.int .i64 x) := hc0
        have hc11 : w2.cell? ⟨ad.block, ad.off + 1, none⟩ = some (.int .i64 y) := hc1
        have HFD := Lib.hid (show f0 = (x != y) from by rw [← hfd]; simp)
        clear hfd hx hy e'
        go_quiet (fail)
        all_goals (go_wp2_with fail; go_meet)
        all_goals (case rel => exact ⟨by rw [HFD.out], _, rfl⟩)
      · have hff : f0 = false := by rw [← hfd]; simp [h1, h2]
        have e1 : ((z : Int) == 1) = false := by simp; omega
        have e2 : ((z : Int) == 2) = false := by simp; omega
        subst hff
        clear hfd
        go_quiet (fail)
        all_goals (go_wp2_with fail; go_meet)
        all_goals (case rel => exact ⟨rfl, _, rfl⟩)
  case rest =>
    obtain ⟨rfl, q1, rfl⟩ := hcut
    go_wp2_with fail
    go_loopw [10, 45] (fun v10 v45 wr => ∃ k : Nat, v45 = .int .i64 (k : Int) ∧ k ≤ z ∧ v10 = .bool (f0 && (zs.take k).all (inR n)) ∧ wr = w2.drewN q1) (fun _ v45 _ => z - (intOf v45).toNat)
    case atStart => exact ⟨0, rfl, by omega, by simp, rfl⟩
    case round =>
      obtain ⟨k, rfl, hk, rfl, rfl⟩ := hrel
      have k0 : (0 : Int) ≤ (k : Int) := Int.natCast_nonneg _
      by_cases hkz : k < z
      · have k1 : (k : Int) < (z : Int) := by omega
        obtain ⟨ad, rfl, _, hc⟩ := R2.out.2.2.2 k _ (intC_at zs k (by have := HZ.out; omega))
        obtain ⟨x, hx⟩ : ∃ x, zs.getD k 0 = x := ⟨_, rfl⟩
        rw [hx] at hc
        have hc' : (w2.drewN q1).cell? (ad.add k) = some (.int .i64 x) := hc
        obtain ⟨g, hg⟩ : ∃ g, (f0 && (zs.take k).all (inR n)) = g := ⟨_, rfl⟩
        have HG := Lib.hid (show (f0 && (zs.take (k + 1)).all (inR n)) = (g && inR n x) from by
          have hkl : k < zs.length := by have := HZ.out; omega
          have hxk : zs[k] = x := by rw [← hx]; simp [hkl]
          rw [List.take_succ_eq_append_getElem hkl, List.all_append, ← Bool.and_assoc, hg, hxk]
          simp)
        rw [hg]
        clear hg hx hc
        cases g with
        | false =>
          go_wp2_with fail
          go_roundw
          case rel => exact ⟨k + 1, by go_num, by omega, by rw [HG.out]; rfl, by first | rfl | trivial⟩
          case measure => first | (simp [intOf]; done) | (simp [intOf]; omega)
        | true =>
          by_cases h1 : 1 ≤ x
          · by_cases h2 : x ≤ (n : Int)
            · go_wp2_with fail
              go_roundw
              case rel => exact ⟨k + 1, by go_num, by omega, by rw [HG.out]; simp [inR, h1, h2], by first | rfl | trivial⟩
              case measure => first | (simp [intOf]; done) | (simp [intOf]; omega)
            · have h2' : (n : Int) < x := by omega
              go_wp2_with fail
              go_roundw
              case rel => exact ⟨k + 1, by go_num, by omega, by rw [HG.out]; simp [inR, h2], by first | rfl | trivial⟩
              case measure => first | (simp [intOf]; done) | (simp [intOf]; omega)
          · have h1' : x < 1 := by omega
            go_wp2_with fail
            go_roundw
            case rel => exact ⟨k + 1, by go_num, by omega, by rw [HG.out]; simp [inR, h1], by first | rfl | trivial⟩
            case measure => first | (simp [intOf]; done) | (simp [intOf]; omega)
      · obtain rfl : k = z := by omega
        have hcan : (f0 && (zs.take k).all (inR n)) = canBe n zs := by
          rw [List.take_of_length_le (by rw [HZ.out]; exact Nat.le_refl _), ← HF0.out, fine_can]
        rw [hcan]
        have HT2 := Lib.hid (HT.out.on (Below.drewN_ (Below.refl _ w2) q1))
        have R3 := Lib.hid (show Row (w2.drewN q1) w.heap.size 1 P k d (intC zs) from R2.out)
        have hws : w.heap.size ≤ (w2.drewN q1).heap.size := HB2.out.size
        cases hcb : canBe n zs with
        | false =>
          have AD := Lib.hid (show Calls Try.prog 16 #[.pointer (some ⟨p, 0, none⟩), .agg #[.slice P k d, .int .i64 5, .string ⟨#[]⟩, .slice none 0 0, .bool false]] (w2.drewN q1) fun e w' => e = .returned (.tuple #[.int .i64 0, .int .i64 1]) ∧ Below (w2.drewN q1).heap.size (w2.drewN q1) w' from by
            obtain ⟨F, G, h1, h2, h3⟩ := HT2.out.his
            exact add_no h1 R3.out hws (by have := HMX.out; rw [HZ.out] at this; exact this) (by rw [HN.out]; exact hcb))
          have MN := Lib.hid (fun (W : World) (hb : Below (w2.drewN q1).heap.size (w2.drewN q1) W) => (show Calls Try.prog 23 #[.pointer (some ⟨p, 0, none⟩)] W fun e w' => e = .returned (.int .i64 (n : Int)) ∧ W = w' from HN.out ▸ (HT2.out.on hb).many_))
          clear hcan hcb
          go_wp2_with (first
            | (go_at_call 16; ((with_reducible refine AD.out.mono ?_); rintro e w3 ⟨rfl, hb3⟩))
            | (go_at_call 23; ((with_reducible refine (MN.out _ hb3).mono ?_); rintro e w4 ⟨rfl, rfl⟩))
            | (fail "arm"))
          go_ret
          exact ⟨rfl, Below.then_ (Below.drewN_ HB2.out q1) hb3⟩
        | true =>
          have hl2 := canBe_len hcb
          have AD := Lib.hid (show Calls Try.prog 16 #[.pointer (some ⟨p, 0, none⟩), .agg #[.slice P k d, .int .i64 5, .string ⟨#[]⟩, .slice none 0 0, .bool false]] (w2.drewN q1) fun e w' => e = .returned (.tuple #[.int .i64 ((n : Int) + 1), .int .i64 0]) ∧ Below w.heap.size w w' ∧ ∃ F' cs', IsH w1.heap.size w' p cs' F' ∧ cs'.length = n + 1 from by
            obtain ⟨F, G, h1, h2, h3⟩ := HT2.out.his
            refine (add_any h1 (by have := HN.out; omega) R3.out (show Row (w2.drewN q1) w.heap.size 1 none 0 0 (intC []) from Row.empty _ _ _) hws (by have := HZ.out; omega) (by omega)).mono ?_
            rintro e w' (⟨_, rfl, F', k2, k3⟩ | ⟨k1, _⟩)
            · refine ⟨by rw [HN.out], ?_, F', _, k2, by simp [HN.out]⟩
              exact (Below.drewN_ HB2.out q1).trans (k3.below (fun g hg => Nat.le_trans HBX.out (h1.in_ g hg).1) hws)
            · dsimp only at k1; rw [HN.out, hcb] at k1; cases k1)
          have MN := Lib.hid (fun (W : World) (F' : Nat → Prop) (cs' : List Cm) (h : IsH w1.heap.size W p cs' F') (hc : cs'.length = n + 1) => (show Calls Try.prog 23 #[.pointer (some ⟨p, 0, none⟩)] W fun e w' => e = .returned (.int .i64 ((n : Int) + 1)) ∧ W = w' from by
            have := many_any h
            rw [hc] at this
            exact this))
          clear hcan hcb hl2
          go_wp2_with (first
            | (go_at_call 16; ((with_reducible refine AD.out.mono ?_); rintro e w3 ⟨rfl, hb3, F', cs', hI, hlen⟩))
            | (go_at_call 23; ((with_reducible refine (MN.out _ _ _ hI hlen).mono ?_); rintro e w4 ⟨rfl, rfl⟩))
            | (fail "arm"))
          go_ret
          exact ⟨rfl, hb3⟩

theorem contract (H : Type) (enc : TypeId × Value → H) (W : World) (base : Nat) (args : Array Value) (ds gs : List (DataW H)) (before : List MemPlace)
    (hval : ∀ (j : Nat) t v, Try.f4.params[j]? = some t → args[j]? = some v → Value.okWide Try.prog W .any base t v)
    (hW : DataW.Whole enc Try.prog Try.f4.params.toList Rows.historyParentsSpec.vars false W args.toList ds gs before) :
    Calls Try.prog 4 args W fun e W' => ∃ v, e = .returned v ∧ Rows.historyParentsSpec.post enc Try.prog Try.f4 false true false false W args v W' := by
  have hW' := hW
  obtain ⟨p, q, hA0, hV, rfl, hfz, hnd⟩ := hW
  have hA : DataW.TrodAll enc Try.prog W 0 (fun _ => true) true Try.f4.params.toList args.toList ds p := hA0
  rw [Try.params4] at hA hval
  obtain ⟨v0, vs0, d0, ds0, p0, q0, e0, rfl, rfl, h0, r0⟩ := trodAll_cons hA
  obtain ⟨v1, vs1, d1, ds1, p1, q1, e1, rfl, rfl, h1, r1⟩ := trodAll_cons r0
  obtain ⟨rfl, rfl, rfl⟩ := trodAll_nil r1
  obtain rfl : args = #[v0, v1] := by cases args; simp_all
  obtain ⟨rfl, rfl⟩ := trodVars_none hV
  obtain ⟨A, l, c, rfl, hP, hl⟩ := open_prs h0 (hval 0 22 v0 rfl rfl)
  obtain ⟨B, zs, d, rfl, hR, hz⟩ := open_ints h1 (hval 1 23 v1 rfl rfl)
  refine (walk A l c B zs d W hP hl hR hz).mono fun e W' ⟨he, hb⟩ => ⟨_, he, law_post rfl rfl ?_ rfl rfl rfl hW' hb⟩
  rw [Try.params4]
  intro t ht
  have ht' : t = 22 ∨ t = 23 := by simpa using ht
  rcases ht' with rfl | rfl <;> exact ⟨by kernel_rfl, of_decide_eq_true (by kernel_rfl)⟩

set_option maxRecDepth 100000 in
theorem lifted (os : Os) (started : os.Started) (H : Type) (enc : TypeId × Value → H) :
    ReturnsInHanded {} Try.checked os 4 .any (Rows.historyParentsSpec.pre6 enc Try.prog Try.f4 Rows.historyParentsRow.domain false) (Rows.historyParentsSpec.post enc Try.prog Try.f4 false true false false) := by
  refine returnsInHanded_of_change (C := Try.checked) ownKnob_none started (by kernel_rfl) Try.func4
    (ChangeSpec.witness6 (enc := enc) (C := Try.checked) false ⟨#[], #[.slice none 0 0, .slice none 0 0], []⟩ 8 (by kernel_rfl) (by kernel_rfl) (by kernel_rfl) (by kernel_rfl)) ?_
  intro W base args ds gs before hval hW _ _
  exact contract H enc W base args ds gs before hval hW

theorem proved : Rows.HistoryParentsSaid :=
  OpenClaim.holds_of_wide 4 Try.f4 rfl rfl rfl rfl rfl rfl rfl ⟨rfl, rfl, rfl, rfl, rfl⟩ rfl rfl rfl rfl rfl (by kernel_rfl) Try.func4 (by kernel_rfl)
    (of_decide_eq_true (by kernel_rfl)) (by unfold Func.isWrapper; first | (rw [if_pos (by decide +kernel)]; kernel_rfl) | (rw [if_neg (by decide +kernel)]; exact ⟨rfl, rfl⟩))
    (fun os started H enc _ => lifted os started H enc)

end Go.Proofs.Ytiikbekboapphaa.lpar
