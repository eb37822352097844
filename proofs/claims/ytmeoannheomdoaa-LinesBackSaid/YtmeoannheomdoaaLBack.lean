/- LinesBack: patching with the difference of two lists yields the second one; hunks are not empty, increase, and are separated by pairs. For all arguments. -/
import Derived.Test.YtmeoannheomdoaaKit
namespace Go.Proofs.Ytmeoannheomdoaa.lback
open Go.ChangeShapes Go.WideShapes Go.ChangeAt Go.RowKit

/-- what is known of the hunks from place k on: i and j are the ends of the hunk before, or -1 -/
def BackI (n m : Nat) (H : List Hk) (k : Nat) (i j : Int) : Prop :=
  (i = -1 ∧ j = -1 ∧ Ok n m 0 0 (H.drop k)) ∨ ∃ i' j' : Nat, i = i' ∧ j = j' ∧ Ok n m i' j' (H.drop k) ∧ ∀ x, (H.drop k).head? = some x → i' < x.a0
theorem back_step {n m k : Nat} {H : List Hk} {i j : Int} (h : BackI n m H k i j) (hk : k < H.length) :
    i < (H[k].a0 : Int) ∧ j < (H[k].b0 : Int) ∧ H[k].a0 ≤ H[k].a1 ∧ H[k].b0 ≤ H[k].b1 ∧ (H[k].a0 < H[k].a1 ∨ H[k].b0 < H[k].b1) ∧ H[k].a1 ≤ n ∧ H[k].b1 ≤ m ∧
      ((i = -1 ∧ j = -1 ∧ H[k].a0 = H[k].b0) ∨ ∃ i' j' : Nat, i = i' ∧ j = j' ∧ (H[k].a0 : Int) - i' = (H[k].b0 : Int) - j') ∧ BackI n m H (k + 1) (H[k].a1 : Int) (H[k].b1 : Int) := by
  unfold BackI at h
  rw [List.drop_eq_getElem_cons hk] at h
  rcases h with ⟨rfl, rfl, h1, h2, h3, h4, h5, h6, h7, h8, h9⟩ | ⟨i', j', rfl, rfl, ⟨h1, h2, h3, h4, h5, h6, h7, h8, h9⟩, hlt⟩
  · exact ⟨by omega, by omega, h3, h4, h5, h6, h7, .inl ⟨rfl, rfl, by omega⟩, .inr ⟨_, _, rfl, rfl, h9, h8⟩⟩
  · have := hlt _ rfl
    exact ⟨by omega, by omega, h3, h4, h5, h6, h7, .inr ⟨_, _, rfl, rfl, by omega⟩, .inr ⟨_, _, rfl, rfl, h9, h8⟩⟩
theorem back_start (a b : List ByteArray) {n m : Nat} (hn : a.length = n) (hm : b.length = m) : BackI n m (diff a b) 0 (-1) (-1) := by
  subst hn hm
  exact .inl ⟨rfl, rfl, by rw [List.drop_zero]; exact diff_ok a b⟩

set_option maxRecDepth 100000 in
set_option maxHeartbeats 8000000 in
theorem walk (A : Option Addr) (zs : List Int) (ca : Nat) (Q : Option Addr) (qs : List Trip) (cq : Nat) (B : Option Addr) (ys : List Int) (cb : Nat) (w : World) (hA : Ints w w.heap.size A ca zs) (hz : zs.length ≤ maxLen)
    (hQ : Trips w w.heap.size Q cq qs) (hq : qs.length ≤ maxLen) (hB : Ints w w.heap.size B cb ys) (hy : ys.length ≤ maxLen) :
    Calls Try.prog 6 #[.slice A zs.length ca, .slice Q qs.length cq, .slice B ys.length cb] w (BoolB w true) := by
  have S := Lib.hid (fun W => sane_any W)
  obtain ⟨hsa, hna⟩ := listL_short zs
  obtain ⟨hsb, hnb⟩ := listL_short ys
  obtain ⟨p, hp⟩ : ∃ p, zs.length = p := ⟨_, rfl⟩
  obtain ⟨q, hqq⟩ : ∃ q, qs.length = q := ⟨_, rfl⟩
  obtain ⟨r, hr⟩ : ∃ r, ys.length = r := ⟨_, rfl⟩
  obtain ⟨a, ha⟩ : ∃ L, listL zs = L := ⟨_, rfl⟩
  obtain ⟨b, hb⟩ : ∃ L, listL ys = L := ⟨_, rfl⟩
  have la := fun (n : Nat) (W : World) (hW : Below w.heap.size w W) (hn : (listL zs).length = n) => list_at w.heap.size A zs ca p n W (Row.below hA hW (Nat.le_refl _)) hW.size hp hn (by omega)
  have lb := fun (n : Nat) (W : World) (hW : Below w.heap.size w W) (hn : (listL ys).length = n) => list_at w.heap.size B ys cb r n W (Row.below hB hW (Nat.le_refl _)) hW.size hr hn (by omega)
  rw [ha] at hsa hna la
  rw [hb] at hsb hnb lb
  obtain ⟨n, hn⟩ : ∃ n, a.length = n := ⟨_, rfl⟩
  obtain ⟨m, hm⟩ : ∃ m, b.length = m := ⟨_, rfl⟩
  have c1 := fun (A' : Option Addr) (c : Nat) (W : World) (hW : Below w.heap.size w W) (h : Strs W W.heap.size A' c a) => refChanged_any w.heap.size A' a c n Q qs cq q W h hsa hn (by omega) (Row.below hQ hW (Nat.le_refl _)) hW.size hqq (by omega)
  have LA := Lib.hid (fun (W : World) (hW : Below w.heap.size w W) => la n W hW hn)
  have LB := Lib.hid (fun (W : World) (hW : Below w.heap.size w W) => lb m W hW hm)
  have C1 := Lib.hid c1
  rw [hn] at hna
  rw [hm] at hnb
  have HN := Lib.hid hn
  have HM := Lib.hid hm
  have HSA := Lib.hid hsa
  have HSB := Lib.hid hsb
  rw [hp] at hz ⊢
  rw [hqq] at hq ⊢
  rw [hr] at hy ⊢
  clear la lb c1 hA hB hQ hp hqq hr ha hb hn hm hsa hsb
  go_enter Try.func6, Try.ntmps6
  go_upto_region 4 with (first
    | (go_at_call 15; ((with_reducible refine (S.out _).mono ?_); rintro e' w1 ⟨rfl, hb⟩); (have HB1 := Lib.hid hb))
    | (go_at_call 20; ((with_reducible refine (LA.out _ HB1.out).mono ?_); rintro e' w2 ⟨A2, k2, rfl, hSa, hb⟩); (have HB2 := Lib.hid (Below.then_ HB1.out hb)))
    | (go_at_call 21; ((with_reducible refine (C1.out _ _ _ HB2.out hSa).mono ?_); rintro e' w3 ⟨A3, k3, m3, L3, rfl, hm3, hl3, hs3, hS3, hb⟩); (have hSa := strs_on hSa hb); (have HB3 := Lib.hid (Below.then_ HB2.out hb)))
    | (go_at_call 20; ((with_reducible refine (LB.out _ HB3.out).mono ?_); rintro e' w4 ⟨A4, k4, rfl, hSb, hb⟩); (have hSa := strs_on hSa hb); (have hS3 := strs_on hS3 hb); (have HB4 := Lib.hid (Below.then_ HB3.out hb))))
  have hS3' := hS3
  have hF0 := Full.new w4 23 [.slice A3 m3 k3, .slice A4 m k4]
  change Full (w4.alloc (.cells #[.slice A3 m3 k3, .slice A4 m k4] 23)) _ _ _ at hF0
  have hb0 := (Below.refl w4.heap.size w4).alloc (Nat.le_refl _) (.cells #[.slice A3 m3 k3, .slice A4 m k4] 23)
  obtain ⟨gl, hgl⟩ : ∃ gl, w4.heap.size = gl := ⟨_, rfl⟩
  rw [hgl] at hF0
  obtain ⟨w5, hw5⟩ : ∃ w5, w4.alloc (.cells #[.slice A3 m3 k3, .slice A4 m k4] 23) = w5 := ⟨_, rfl⟩
  rw [hw5] at hF0 hb0 ⊢
  rw [hgl]
  have hSa5 := strs_on hSa hb0
  have hE : Hid (∀ k, k < 2 → ∃ (D : Option Addr) (cd md : Nat) (L : List ByteArray), w5.cell? ⟨gl, k, none⟩ = some (.slice D md cd) ∧ Strs w5 w5.heap.size D cd L ∧ L.length = md ∧ md ≤ 46 ∧ Shorts L) := Lib.hid (fun k hk => by
    rcases (show k = 0 ∨ k = 1 by omega) with rfl | rfl
    · exact ⟨A3, k3, m3, L3, hF0.cell 0, strs_on hS3 hb0, hl3, by omega, hs3⟩
    · exact ⟨A4, k4, m, b, hF0.cell 1, strs_on hSb hb0, HM.out, by omega, HSB.out⟩)
  have hglt : gl < w5.heap.size := hF0.lt
  have HB5 : Hid (Below w.heap.size w w5) := Lib.hid (Below.then_ HB4.out hb0)
  have HA5 : Hid (Strs w5 w5.heap.size A2 k2 a) := Lib.hid hSa5
  clear hS3 hS3' hSa hSb hb hF0 hb0 hSa5 hw5 hgl HB1 HB2 HB3 HB4 LA LB C1 hl3 hs3 hm3
  go_loopw [26] (fun v26 wr => ∃ k : Nat, k ≤ 2 ∧ v26 = .int .i64 (k : Int) ∧ Hid (Below w5.heap.size w5 wr)) (fun v26 _ => 2 - (intOf v26).toNat)
  case atStart => exact ⟨0, by omega, rfl, Lib.hid (Below.refl _ _)⟩
  case round =>
    obtain ⟨k, hk, rfl, HBW⟩ := hrel
    have hi0 : (0 : Int) ≤ (k : Int) := Int.natCast_nonneg _
    by_cases hlt : k < 2
    · have hi1 : (k : Int) < 2 := by omega
      obtain ⟨D, cd, md, L, hcell, hSL, hLl, hL46, hsL⟩ := hE.out k hlt
      have hcell1 := (HBW.out.cell (p := ⟨gl, k, none⟩) hglt).trans hcell
      have hSa := strs_on HA5.out HBW.out
      have hSL := strs_on hSL HBW.out
      obtain ⟨r', hr'⟩ : ∃ r, (diff a L).length = r := ⟨_, rfl⟩
      have hdl := diff_len a L
      rw [HN.out, hr'] at hdl
      have D1 := Lib.hid (fun (c d : Nat) (A B : Option Addr) (W : World) (hA : Strs W W.heap.size A c a) (hB : Strs W W.heap.size B d L) => diff_at A B a L c d n md r' W hA hB HN.out hLl (by omega) (by omega) HSA.out hsL hr')
      have D2 := Lib.hid (fun (c d : Nat) (A B : Option Addr) (W : World) (hA : Strs W W.heap.size A c L) (hB : Strs W W.heap.size B d L) => diff_at A B L L c d md md 0 W hA hB hLl hLl (by omega) (by omega) hsL hsL (by rw [diff_self]; rfl))
      have P := Lib.hid (fun (A B C : Option Addr) (c d e : Nat) (W : World) (hA : Strs W W.heap.size A c a) (hB : Strs W W.heap.size B d L) (hC : Hks W W.heap.size C e (diff a L)) => patch_at A B C a L n md r' c d e W hA hB hC HN.out hLl hr' (by omega) (by omega) (by omega))
      have SM := Lib.hid (fun (A B : Option Addr) (c d : Nat) (W : World) (hA : Strs W W.heap.size A c L) (hB : Strs W W.heap.size B d L) => same_at A B L c d md W hA hB hLl (by omega))
      have hst := back_start a L HN.out hLl
      obtain ⟨H, hH⟩ : ∃ H, diff a L = H := ⟨_, rfl⟩
      rw [hH] at D1 P hst hr'
      have HR := Lib.hid hr'
      have HST := Lib.hid hst
      have hr41 : r' ≤ 41 := by omega
      clear hcell hH hr' hdl hLl hsL hst
      go_upto_region 9 with (first
        | (go_at_call 23; ((with_reducible refine (D1.out _ _ _ _ _ hSa hSL).mono ?_); rintro e' w6 ⟨A6, k6, rfl, hH6, hb⟩); (have hSa := strs_on hSa hb); (have hSL := strs_on hSL hb); (have HB6 := Lib.hid (Below.then_ HBW.out hb))))
      have HL := Lib.hid hSL
      have HSa := Lib.hid hSa
      have HH := Lib.hid hH6
      clear hSL hSa hH6 hb hcell1 D1
      go_loopw [12, 13, 35] (fun v12 v13 v35 wr => ∃ (t : Nat) (i j : Int), t ≤ r' ∧ v35 = .int .i64 (t : Int) ∧ v12 = .int .i64 i ∧ v13 = .int .i64 j ∧ Hid (BackI n md H t i j) ∧ Hid (Below w6.heap.size w6 wr)) (fun _ _ v35 _ => r' - (intOf v35).toNat)
      case atStart => exact ⟨0, -1, -1, by omega, rfl, rfl, rfl, HST, Lib.hid (Below.refl _ _)⟩
      case round =>
        obtain ⟨t, i, j, ht, rfl, rfl, rfl, HI, HBI⟩ := hrel
        have ht0 : (0 : Int) ≤ (t : Int) := Int.natCast_nonneg _
        by_cases htl : t < r'
        · have ht1 : (t : Int) < (r' : Int) := by omega
          have htH : t < H.length := by rw [HR.out]; exact htl
          obtain ⟨s1, s2, s3, s4, s5, s6, s7, s8, s9⟩ := back_step HI.out htH
          have hkc := hks_at (Row.below HH.out HBI.out (Nat.le_refl _)) htH
          obtain ⟨x, hx⟩ : ∃ x, H[t] = x := ⟨_, rfl⟩
          rw [hx] at s1 s2 s3 s4 s5 s6 s7 s8 s9 hkc
          have HI2 := Lib.hid s9
          obtain ⟨ad, rfl, q0, q1, q2, q3⟩ := hkc
          obtain ⟨a0, a1, b0, b1⟩ := x
          dsimp only at s1 s2 s3 s4 s5 s6 s7 s8 q0 q1 q2 q3 HI2
          have HBI2 : Hid (Below w6.heap.size w6 (wr.alloc (.cells #[.int .i64 (a0 : Int), .int .i64 (a1 : Int), .int .i64 (b0 : Int), .int .i64 (b1 : Int)] 40))) := Lib.hid (HBI.out.alloc HBI.out.size _)
          clear hx s9
          have f1 : ¬ (a0 : Int) ≤ i := by omega
          have f2 : ¬ (b0 : Int) ≤ j := by omega
          rcases s8 with ⟨rfl, rfl, h8⟩ | ⟨i', j', rfl, rfl, h8⟩
          · subst h8
            by_cases he : a1 = a0
            · subst he
              have hne := beq_int (show ¬ b1 = a1 by omega)
              go_wp2_with fail
              go_quiet (fail)
              go_wp2
              go_roundw
              case rel => exact ⟨t + 1, _, _, by omega, by go_num, rfl, rfl, HI2, Lib.hid (Below.drewN_ HBI2.out _)⟩
              case measure => simp [intOf]; omega
            · have hne := beq_int he
              go_wp2_with fail
              go_quiet (fail)
              go_wp2
              go_roundw
              case rel => exact ⟨t + 1, _, _, by omega, by go_num, rfl, rfl, HI2, Lib.hid (Below.drewN_ HBI2.out _)⟩
              case measure => simp [intOf]; omega
          · have hi0' : (0 : Int) ≤ (i' : Int) := Int.natCast_nonneg _
            have hi1' : ¬ (i' : Int) < 0 := by omega
            obtain ⟨dd, hdd⟩ : ∃ dd, (b0 : Int) - (j' : Int) = dd := ⟨_, rfl⟩
            rw [hdd] at h8
            have hw1 : IntKind.i64.wrap ((a0 : Int) - (i' : Int)) = dd := by rw [h8]; simp [IntKind.wrap, IntKind.bits, IntKind.signed]; omega
            have hw2 : IntKind.i64.wrap ((b0 : Int) - (j' : Int)) = dd := by rw [hdd]; simp [IntKind.wrap, IntKind.bits, IntKind.signed]; omega
            by_cases he : a1 = a0
            · subst he
              have hne := beq_int (show ¬ b1 = b0 by omega)
              clear hdd h8
              go_wp2_with fail
              go_quiet (fail)
              go_wp2
              go_roundw
              case rel => exact ⟨t + 1, _, _, by omega, by go_num, rfl, rfl, HI2, Lib.hid (Below.drewN_ HBI2.out _)⟩
              case measure => simp [intOf]; omega
            · have hne := beq_int he
              clear hdd h8
              go_wp2_with fail
              go_quiet (fail)
              go_wp2
              go_roundw
              case rel => exact ⟨t + 1, _, _, by omega, by go_num, rfl, rfl, HI2, Lib.hid (Below.drewN_ HBI2.out _)⟩
              case measure => simp [intOf]; omega
        · obtain rfl : t = r' := by omega
          have hSa := strs_on HSa.out HBI.out
          have hSL := strs_on HL.out HBI.out
          have hH := hks_on HH.out HBI.out
          have HB7 := Lib.hid (Below.then_ HB6.out HBI.out)
          go_wp2_with (first
            | (go_at_call 25; ((with_reducible refine (P.out _ _ _ _ _ _ _ hSa hSL hH).mono ?_); rintro e' w7 ⟨g7, rfl, hP7, -, -, hb⟩); (have hSL := strs_on hSL hb); (have HB8 := Lib.hid (Below.then_ HB7.out hb)))
            | (go_at_call 17; ((with_reducible refine (SM.out _ _ _ _ _ hP7 hSL).mono ?_); rintro e' w8 ⟨rfl, hb⟩); (have hSL := strs_on hSL hb); (have HB9 := Lib.hid (Below.then_ HB8.out hb)))
            | (go_at_call 23; ((with_reducible refine (D2.out _ _ _ _ _ hSL hSL).mono ?_); rintro e' w9 ⟨A9, k9, rfl, -, hb⟩); (have HB10 := Lib.hid (Below.then_ HB9.out hb))))
          go_roundw
          case rel => exact ⟨k + 1, by omega, by go_num, HB10⟩
          case measure => simp [intOf]; omega
    · obtain rfl : k = 2 := by omega
      go_wp2_with fail
      go_ret
      exact ⟨rfl, Below.then_ HB5.out HBW.out⟩
theorem contract (H : Type) (enc : TypeId × Value → H) (W : World) (base : Nat) (args : Array Value) (ds gs : List (DataW H)) (before : List MemPlace)
    (hval : ∀ (j : Nat) t v, Try.f6.params[j]? = some t → args[j]? = some v → Value.okWide Try.prog W .any base t v)
    (hW : DataW.Whole enc Try.prog Try.f6.params.toList Rows.linesBackSpec.vars false W args.toList ds gs before) :
    Calls Try.prog 6 args W fun e W' => ∃ v, e = .returned v ∧ Rows.linesBackSpec.post enc Try.prog Try.f6 false true false false W args v W' := by
  have hW' := hW
  obtain ⟨p, q, hA0, hV, rfl, hfz, hnd⟩ := hW
  have hA : DataW.TrodAll enc Try.prog W 0 (fun _ => true) true Try.f6.params.toList args.toList ds p := hA0
  rw [Try.params6] at hA hval
  obtain ⟨v0, vs0, d0, ds0, p0, q0, e0, rfl, rfl, h0, r0⟩ := trodAll_cons hA
  obtain ⟨v1, vs1, d1, ds1, p1, q1, e1, rfl, rfl, h1, r1⟩ := trodAll_cons r0
  obtain ⟨v2, vs2, d2, ds2, p2, q2, e2, rfl, rfl, h2, r2⟩ := trodAll_cons r1
  obtain ⟨rfl, rfl, rfl⟩ := trodAll_nil r2
  obtain rfl : args = #[v0, v1, v2] := by cases args; simp_all
  obtain ⟨rfl, rfl⟩ := trodVars_none hV
  obtain ⟨A, zs, ca, rfl, hA1, hz⟩ := open_nums h0 (hval 0 28 v0 rfl rfl)
  obtain ⟨Q, qs, cq, rfl, hQ1, hq⟩ := open_trips h1 (hval 1 29 v1 rfl rfl)
  obtain ⟨B, ys, cb, rfl, hB1, hy⟩ := open_nums h2 (hval 2 28 v2 rfl rfl)
  refine (walk A zs ca Q qs cq B ys cb W hA1 hz hQ1 hq hB1 hy).mono fun e W' ⟨he, hb⟩ => ⟨_, he, law_post rfl rfl ?_ rfl rfl rfl hW' hb⟩
  rw [Try.params6]
  intro t ht
  have ht' : t = 28 ∨ t = 29 ∨ t = 28 := by simpa using ht
  rcases ht' with rfl | rfl | rfl <;> exact ⟨by kernel_rfl, of_decide_eq_true (by kernel_rfl)⟩

set_option maxRecDepth 100000 in
theorem lifted (os : Os) (started : os.Started) (H : Type) (enc : TypeId × Value → H) :
    ReturnsInHanded {} Try.checked os 6 .any (Rows.linesBackSpec.pre6 enc Try.prog Try.f6 Rows.linesBackRow.domain false) (Rows.linesBackSpec.post enc Try.prog Try.f6 false true false false) := by
  refine returnsInHanded_of_change (C := Try.checked) ownKnob_none started (by kernel_rfl) Try.func6
    (ChangeSpec.witness6 (enc := enc) (C := Try.checked) false ⟨#[], #[.slice none 0 0, .slice none 0 0, .slice none 0 0], []⟩ 8 (by kernel_rfl) (by kernel_rfl) (by kernel_rfl) (by kernel_rfl)) ?_
  intro W base args ds gs before hval hW _ _
  exact contract H enc W base args ds gs before hval hW

theorem proved : Rows.LinesBackSaid :=
  OpenClaim.holds_of_wide 6 Try.f6 rfl rfl rfl rfl rfl rfl rfl ⟨rfl, rfl, rfl, rfl, rfl⟩ rfl rfl rfl rfl rfl (by kernel_rfl) Try.func6 (by kernel_rfl)
    (of_decide_eq_true (by kernel_rfl)) (by unfold Func.isWrapper; first | (rw [if_pos (by decide +kernel)]; kernel_rfl) | (rw [if_neg (by decide +kernel)]; exact ⟨rfl, rfl⟩))
    (fun os started H enc _ => lifted os started H enc)

end Go.Proofs.Ytmeoannheomdoaa.lback
