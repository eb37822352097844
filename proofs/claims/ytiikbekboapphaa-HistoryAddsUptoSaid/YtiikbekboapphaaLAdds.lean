/- HistoryAdds: Add returns the number or the error of the reference for every commit, and Get returns what was added. For all arguments that hold at most 1048576 values and letters together. -/
import Derived.Test.YtiikbekboapphaaAddKit
import Derived.BigQuiet
namespace Go.Proofs.Ytiikbekboapphaa.ladds
open Go.ChangeShapes Go.WideShapes Go.ChangeAt Go.RowKit Go.Maps

set_option maxRecDepth 100000 in
set_option maxHeartbeats 16000000 in
theorem walk (A : Option Addr) (l : List (Int × Int)) (c : Nat) (A1 A2 : Option Addr) (ps ch : List Int) (c1 c2 : Nat) (tr : Int) (au : ByteArray) (em : Bool) (a : Int) (w0 : World) (hA : Prs w0 w0.heap.size A c l) (hl : l.length ≤ maxLen)
    (r1 : Row w0 w0.heap.size 1 A1 ps.length c1 (intC ps)) (r2 : Row w0 w0.heap.size 1 A2 ch.length c2 (intC ch)) (hp : ps.length ≤ 1048576) (hc : ch.length ≤ 1048576) (ha : (Lit.int .i64 a).wf = true) :
    Calls Try.prog 3 #[.slice A l.length c, .agg #[.slice A1 ps.length c1, .int .i64 tr, .string au, .slice A2 ch.length c2, .bool em], .int .i64 a] w0 (BoolB w0 true) := by
  obtain ⟨n1, hn1⟩ : ∃ n, ps.length = n := ⟨_, rfl⟩
  obtain ⟨n2, hn2⟩ : ∃ n, ch.length = n := ⟨_, rfl⟩
  rw [hn1] at r1 hp ⊢
  rw [hn2] at r2 hc ⊢
  obtain ⟨w, hw⟩ : ∃ w, w0.alloc (.cells #[.slice A1 n1 c1, .int .i64 tr, .string au, .slice A2 n2 c2, .bool em] 25) = w := ⟨_, rfl⟩
  have b0 : Below w0.heap.size w0 w := by rw [← hw]; exact (Below.refl _ w0).alloc (Nat.le_refl _) _
  have F0 : Full w w0.heap.size 25 [.slice A1 n1 c1, .int .i64 tr, .string au, .slice A2 n2 c2, .bool em] := by rw [← hw]; exact Full.new w0 25 _
  obtain ⟨b, hb⟩ : ∃ b, w0.heap.size = b := ⟨_, rfl⟩
  have hbw : b < w.heap.size := by rw [← hw, ← hb]; simp
  rw [hb] at F0
  have S := Lib.hid (sane_any w)
  have MD := Lib.hid (fun (W : World) (h : Below w.heap.size w W) => made_any W A l c ⟨(Row.below hA.1 (Below.then_ b0 h) (Nat.le_refl _)).more (Below.then_ b0 h).size, hA.2⟩ hl)
  have NA := Lib.hid (fun (W : World) (n : Nat) (hn : n ≤ 1000) => number_any W n hn a ha)
  have R1 := Lib.hid (fun (W : World) (h : Below w.heap.size w W) => (Row.below r1 (Below.then_ b0 h) (Nat.le_refl _)).more (Below.then_ b0 h).size)
  have R2 := Lib.hid (fun (W : World) (h : Below w.heap.size w W) => (Row.below r2 (Below.then_ b0 h) (Nat.le_refl _)).more (Below.then_ b0 h).size)
  unfold BoolB at S ⊢
  unfold MadeOut at MD
  obtain ⟨m, hm⟩ : ∃ m, l.length = m := ⟨_, rfl⟩
  rw [hm] at MD ⊢
  have CB := Lib.hid (fun (W : World) (h : Below w.heap.size w W) => (show W.cell? ⟨b, 0, none⟩ = some (.slice A1 n1 c1) ∧ W.cell? ⟨b, 1, none⟩ = some (.int .i64 tr) ∧ W.cell? ⟨b, 2, none⟩ = some (.string au) ∧ W.cell? ⟨b, 3, none⟩ = some (.slice A2 n2 c2) ∧ W.cell? ⟨b, 4, none⟩ = some (.bool em) from
    ⟨(F0.on h).cell 0, (F0.on h).cell 1, (F0.on h).cell 2, (F0.on h).cell 3, (F0.on h).cell 4⟩))
  have HB0 := Lib.hid b0
  clear hA hl ha hm r1 r2 hn1 hn2 F0
  go_enter Try.func3, Try.ntmps3
  go_upto_region 1 with fail
  clear hw hb
  go_upto_region 5 with (first
    | (go_at_call 14; ((with_reducible refine S.out.mono ?_); rintro e w1 ⟨rfl, hb1⟩))
    | (go_at_call 15; ((with_reducible refine (MD.out _ hb1).mono ?_); rintro e w2 ⟨p, q, cs, rfl, hcs, hT⟩))
    | (fail "arm"))
  have HBW := Lib.hid (fun (W : World) (h : Below w1.heap.size w1 W) => (show Below w.heap.size w W from Below.then_ hb1 h))
  obtain ⟨x0, x1, x2, x3, x4⟩ := CB.out w2 (HBW.out w2 hT.below)
  obtain ⟨V, hV⟩ : ∃ V, addV cs ⟨ps, tr, au, ch, em⟩ = V := ⟨_, rfl⟩
  obtain ⟨E, hE⟩ : ∃ E, addE cs ⟨ps, tr, au, ch, em⟩ = E := ⟨_, rfl⟩
  have hlen := addP_len cs ⟨ps, tr, au, ch, em⟩
  have rr1 := fun (W : World) (h : Below w1.heap.size w1 W) => (show Row W w1.heap.size 1 A1 n1 c1 (intC ps) from (Row.below (R1.out w1 hb1) h (Nat.le_refl _)))
  have rr2 := fun (W : World) (h : Below w1.heap.size w1 W) => (show Row W w1.heap.size 1 A2 n2 c2 (intC ch) from (Row.below (R2.out w1 hb1) h (Nat.le_refl _)))
  have AD := Lib.hid (hT.add_ (t := tr) (au := au) (em := em) (by omega) (rr1 w2 hT.below) (rr2 w2 hT.below) (by omega) (by omega) (b := b) (by have := hb1.size; omega))
  have RA := Lib.hid (fun (W : World) (h : MB w1 W p q cs ⟨ps, tr, au, ch, em⟩) => h.add_ (by omega) hT.few (rr1 W h.below) (rr2 W h.below) (by omega) (by omega))
  obtain ⟨cs', hcs'⟩ : ∃ cs', addP cs ⟨ps, tr, au, ch, em⟩ = cs' := ⟨_, rfl⟩
  rw [hV, hE] at AD RA
  rw [hcs'] at RA hlen
  have hcs1 : cs'.length ≤ 1000 := by omega
  clear hV hE hT rr1 rr2 R1 R2 hcs' S MD
  go_upto_region 6 with (first
    | (go_at_call 16; ((with_reducible refine AD.out.mono ?_); rintro e w3 ⟨rfl, hM⟩))
    | (fail "arm"))
  obtain ⟨y0, y1, y2, y3, y4⟩ := CB.out w3 (HBW.out w3 hM.below)
  go_upto_region 7 with (first
    | (go_at_call 17; ((with_reducible refine (RA.out w3 hM).mono ?_); rintro e w4 ⟨rfl, hTB⟩))
    | (fail "arm"))
  obtain ⟨N, hN⟩ : ∃ N, cs'.length = N := ⟨_, rfl⟩
  have RM := hTB.rmany_
  rw [hN] at RM
  have RM := Lib.hid RM
  obtain ⟨U, hU⟩ : ∃ U, numP N a = U := ⟨_, rfl⟩
  have N1 := Lib.hid (fun W : World => (show Calls Try.prog 18 #[.int .i64 (N : Int), .int .i64 a] W fun e w' => e = .returned (.int .i64 U) ∧ W = w' from hU ▸ NA.out W N (by omega)))
  have HTB := Lib.hid hTB
  have HPS := Lib.hid (fun id => (show (getC cs' id).ps.length ≤ 1099511627776 from Nat.le_trans (getC_two hTB.good id) (by decide)))
  have HCH := Lib.hid (fun id => getC_ch hTB.few id)
  have HN := Lib.hid hN
  have HBE := Lib.hid (Below.then_ HB0.out (HBW.out w4 hTB.below))
  clear x0 x1 x2 x3 x4 y0 y1 y2 y3 y4 hM hTB hN hU AD RA CB HBW hb1 HB0 b0 hlen
  go_upto_region 8 with (first
    | (go_at_call 19; ((with_reducible refine RM.out.mono ?_); rintro e v5 ⟨rfl, rfl⟩))
    | (go_at_call 18; ((with_reducible refine (N1.out _).mono ?_); rintro e v6 ⟨rfl, rfl⟩))
    | (fail "arm"))
  obtain ⟨w5, hw5⟩ : ∃ w5, w4.alloc (.cells #[.int .i64 a, .int .i64 U, .int .i64 V, .int .i64 1] 3) = w5 := ⟨_, rfl⟩
  have b5 : Below w4.heap.size w4 w5 := by rw [← hw5]; exact (Below.refl _ w4).alloc (Nat.le_refl _) _
  have F5 : Full w5 w4.heap.size 3 [.int .i64 a, .int .i64 U, .int .i64 V, .int .i64 1] := by rw [← hw5]; exact Full.new w4 3 _
  obtain ⟨g5, hg5⟩ : ∃ g, w4.heap.size = g := ⟨_, rfl⟩
  rw [hg5] at F5
  rw [hw5, hg5]
  have HT5 := Lib.hid (HTB.out.on b5)
  have HB5 := Lib.hid (Below.then_ HBE.out b5)
  have HF5 := Lib.hid F5
  have H0 : Hid (Below w5.heap.size w5 w5) := Lib.hid (Below.refl _ w5)
  clear hw5 b5 F5 hg5 RM N1 HTB HBE NA
  go_loopw [50] (fun v50 wr => ∃ k : Nat, v50 = .int .i64 (k : Int) ∧ k ≤ 4 ∧ Hid (Below w5.heap.size w5 wr)) (fun v50 _ => 4 - (intOf v50).toNat)
  case atStart => exact ⟨0, rfl, by omega, H0⟩
  case round =>
    obtain ⟨k, rfl, hk, HB⟩ := hrel
    have k0 : (0 : Int) ≤ (k : Int) := Int.natCast_nonneg _
    clear H0
    by_cases hk4 : k < 4
    · have k1 : (k : Int) < 4 := by omega
      obtain ⟨id, hid⟩ : ∃ id, wr.cell? ⟨g5, k, none⟩ = some (.int .i64 id) := by
        have h := fun j => (HF5.out.on HB.out).cell j
        rcases (show k = 0 ∨ k = 1 ∨ k = 2 ∨ k = 3 by omega) with rfl | rfl | rfl | rfl
        · exact ⟨_, h 0⟩
        · exact ⟨_, h 1⟩
        · exact ⟨_, h 2⟩
        · exact ⟨_, h 3⟩
      have hTr := HT5.out.on HB.out
      obtain ⟨C, hC⟩ : ∃ C, getC cs' id = C := ⟨_, rfl⟩
      obtain ⟨ok, hok⟩ : ∃ ok, inR cs'.length id = ok := ⟨_, rfl⟩
      have G1 := hTr.get_ hcs1 id
      have G2 := Lib.hid (fun (W : World) (h : Below wr.heap.size wr W) => (hTr.on h).rget_ hcs1 id)
      have hfp : C.ps.length ≤ 1099511627776 ∧ C.ch.length ≤ 1099511627776 := by
        rw [← hC]
        exact ⟨HPS.out id, HCH.out id⟩
      rw [hC, hok] at G1 G2
      have G1 := Lib.hid G1
      unfold GetOut at G1 G2
      obtain ⟨Cp, Ct, Cu, Cc, Ce⟩ := C
      dsimp only at G1 G2 hfp
      obtain ⟨L, hL⟩ : ∃ L, Cp.length = L := ⟨_, rfl⟩
      obtain ⟨M, hM⟩ : ∃ M, Cc.length = M := ⟨_, rfl⟩
      rw [hL, hM] at G1 G2 hfp
      obtain ⟨hfp1, hfp2⟩ := hfp
      clear hC hok hL hM hTr
      go_upto_region 11 with (first
        | (go_at_call 20; ((with_reducible refine G1.out.mono ?_); rintro e w6 ⟨A5, c5, A6, c6, rfl, o5, o6, _, gb6⟩))
        | (fail "arm"))
      obtain ⟨w7, hw7⟩ : ∃ w7, w6.alloc (.cells #[.slice A5 L c5, .int .i64 Ct, .string Cu, .slice A6 M c6, .bool Ce] 25) = w7 := ⟨_, rfl⟩
      have b7 : Below w6.heap.size w6 w7 := by rw [← hw7]; exact (Below.refl _ w6).alloc (Nat.le_refl _) _
      have F7 : Full w7 w6.heap.size 25 [.slice A5 L c5, .int .i64 Ct, .string Cu, .slice A6 M c6, .bool Ce] := by rw [← hw7]; exact Full.new w6 25 _
      obtain ⟨g7, hg7⟩ : ∃ g, w6.heap.size = g := ⟨_, rfl⟩
      have b67 : Below wr.heap.size wr w7 := Below.then_ gb6 b7
      have G27 := Lib.hid (G2.out w7 b67)
      have o57 := own_keep o5 b7
      have o67 := own_keep o6 b7
      rw [hg7] at F7
      rw [hw7, hg7]
      have HX7 := Lib.hid (And.intro F7 (And.intro o57 (And.intro o67 b67)))
      clear hw7 hg7 b7 F7 b67 o57 o67 o5 o6 gb6 G1 G2
      go_upto_region 12 with (first
        | (go_at_call 21; ((with_reducible refine G27.out.mono ?_); rintro e w8 ⟨A7, c7, A8, c8, rfl, o7, o8, _, gb8⟩))
        | (fail "arm"))
      obtain ⟨w9, hw9⟩ : ∃ w9, w8.alloc (.cells #[.slice A7 L c7, .int .i64 Ct, .string Cu, .slice A8 M c8, .bool Ce] 25) = w9 := ⟨_, rfl⟩
      have b9 : Below w8.heap.size w8 w9 := by rw [← hw9]; exact (Below.refl _ w8).alloc (Nat.le_refl _) _
      have F9 : Full w9 w8.heap.size 25 [.slice A7 L c7, .int .i64 Ct, .string Cu, .slice A8 M c8, .bool Ce] := by rw [← hw9]; exact Full.new w8 25 _
      obtain ⟨g9, hg9⟩ : ∃ g, w8.heap.size = g := ⟨_, rfl⟩
      have b89 : Below w7.heap.size w7 w9 := Below.then_ gb8 b9
      have q5 := own_keep HX7.out.2.1 b89
      have q6 := own_keep HX7.out.2.2.1 b89
      have q7 := own_keep o7 b9
      have q8 := own_keep o8 b9
      have F79 := HX7.out.1.on b89
      rw [hg9] at F9
      rw [hw9, hg9]
      have z0 : w9.cell? ⟨g7, 0, none⟩ = some (.slice A5 L c5) := F79.cell 0
      have z1 : w9.cell? ⟨g7, 1, none⟩ = some (.int .i64 Ct) := F79.cell 1
      have z2 : w9.cell? ⟨g7, 2, none⟩ = some (.string Cu) := F79.cell 2
      have z3 : w9.cell? ⟨g7, 3, none⟩ = some (.slice A6 M c6) := F79.cell 3
      have z4 : w9.cell? ⟨g7, 4, none⟩ = some (.bool Ce) := F79.cell 4
      have u0 : w9.cell? ⟨g9, 0, none⟩ = some (.slice A7 L c7) := F9.cell 0
      have u1 : w9.cell? ⟨g9, 1, none⟩ = some (.int .i64 Ct) := F9.cell 1
      have u2 : w9.cell? ⟨g9, 2, none⟩ = some (.string Cu) := F9.cell 2
      have u3 : w9.cell? ⟨g9, 3, none⟩ = some (.slice A8 M c8) := F9.cell 3
      have u4 : w9.cell? ⟨g9, 4, none⟩ = some (.bool Ce) := F9.cell 4
      have SM := Lib.hid (same_any (t := Ct) (au := Cu) (em := Ce) (Row.own q5) (Row.own q6) (Row.own q7) (Row.own q8) (Nat.le_refl _) hfp1 hfp2)
      unfold BoolB at SM
      have HB9 := Lib.hid (Below.then_ HB.out (Below.then_ HX7.out.2.2.2 b89))
      clear hw9 hg9 b9 b89 F9 F79 q5 q6 q7 q8 o7 o8 gb8 HX7 G27
      go_wp2_with (first
        | (go_at_call 22; ((with_reducible refine SM.out.mono ?_); rintro e w10 ⟨rfl, hb10⟩))
        | (fail "arm"))
      have HB10 := Lib.hid (Below.then_ HB9.out hb10)
      clear hb10
      go_roundw
      case rel => exact ⟨k + 1, by go_num, by omega, HB10⟩
      case measure => simp [intOf]; omega
    · obtain rfl : k = 4 := by omega
      rw [show ((4 : Nat) : Int) = 4 from rfl]
      have hTr := HT5.out.on HB.out
      have M1 := hTr.many_
      have M2 := hTr.rmany_
      rw [HN.out] at M1 M2
      have M1 := Lib.hid M1
      have M2 := Lib.hid M2
      have BE := Lib.hid (Below.then_ HB5.out HB.out)
      clear hTr
      go_wp2_with (first
        | (go_at_call 23; ((with_reducible refine M1.out.mono ?_); rintro e v11 ⟨rfl, rfl⟩))
        | (go_at_call 19; ((with_reducible refine M2.out.mono ?_); rintro e v12 ⟨rfl, rfl⟩))
        | (fail "arm"))
      go_ret
      exact ⟨by simp, BE.out⟩

theorem short {H : Type} {d0 d1 d2 : DataW H} {gs : List (DataW H)} (hk : Rows.uptoSmall H ([d0, d1, d2] ++ gs) = true) : Rows.uptoBulk d1 ≤ 1048576 := by
  have h : Rows.uptoBulkAll ([d0, d1, d2] ++ gs) ≤ 1048576 := of_decide_eq_true hk
  simp only [List.cons_append, List.nil_append, Rows.uptoBulkAll] at h
  omega

theorem contract (H : Type) (enc : TypeId × Value → H) (W : World) (base : Nat) (args : Array Value) (ds gs : List (DataW H)) (before : List MemPlace)
    (hval : ∀ (j : Nat) t v, Try.f3.params[j]? = some t → args[j]? = some v → Value.okWide Try.prog W .any base t v)
    (hW : DataW.Whole enc Try.prog Try.f3.params.toList Rows.historyAddsSpec.vars false W args.toList ds gs before) (hk : Rows.uptoSmall H (ds ++ gs) = true) :
    Calls Try.prog 3 args W fun e W' => ∃ v, e = .returned v ∧ Rows.historyAddsSpec.post enc Try.prog Try.f3 false true false false W args v W' := by
  have hW' := hW
  obtain ⟨p, q, hA0, hV, rfl, hfz, hnd⟩ := hW
  have hA : DataW.TrodAll enc Try.prog W 0 (fun _ => true) true Try.f3.params.toList args.toList ds p := hA0
  rw [Try.params3] at hA hval
  obtain ⟨v0, vs0, d0, ds0, p0, q0, e0, rfl, rfl, h0, r0⟩ := trodAll_cons hA
  obtain ⟨v1, vs1, d1, ds1, p1, q1, e1, rfl, rfl, h1, r1⟩ := trodAll_cons r0
  obtain ⟨v2, vs2, d2, ds2, p2, q2, e2, rfl, rfl, h2, r2⟩ := trodAll_cons r1
  obtain ⟨rfl, rfl, rfl⟩ := trodAll_nil r2
  obtain rfl : args = #[v0, v1, v2] := by cases args; simp_all
  obtain ⟨rfl, rfl⟩ := trodVars_none hV
  obtain ⟨A, l, c, rfl, hPr, hl⟩ := open_prs h0 (hval 0 22 v0 rfl rfl)
  obtain ⟨A1, A2, ps, ch, c1, c2, t, au, em, rfl, hr1, hr2, hps, hch⟩ := open_commit h1 (hval 1 25 v1 rfl rfl)
  obtain ⟨a, rfl, _, _, hwa⟩ := open_int Try.underlying3 (hval 2 3 v2 rfl rfl) h2
  have hs := short hk
  refine (walk A l c A1 A2 ps ch c1 c2 t au em a W hPr hl hr1 hr2 (by omega) (by omega) hwa).mono fun e W' ⟨he, hb⟩ => ⟨_, he, law_post rfl rfl ?_ rfl rfl rfl hW' hb⟩
  rw [Try.params3]
  intro t ht
  have ht' : t = 22 ∨ t = 25 ∨ t = 3 := by simpa using ht
  rcases ht' with rfl | rfl | rfl <;> exact ⟨by kernel_rfl, of_decide_eq_true (by kernel_rfl)⟩

set_option maxRecDepth 100000 in
theorem lifted (os : Os) (started : os.Started) (H : Type) (enc : TypeId × Value → H) (F : Stop.Interp) :
    ReturnsInHanded {} Try.checked os 3 .any ((Rows.OpenSpec.upto Rows.historyAddsSpec).pre6 enc Try.prog Try.f3 Rows.historyAddsUptoRow.domain false) (((Rows.OpenSpec.upto Rows.historyAddsSpec).at F).post enc Try.prog Try.f3 false true false false) := by
  refine returnsInHanded_of_cond (C := Try.checked) (s := Rows.OpenSpec.upto Rows.historyAddsSpec) (k := Rows.uptoSmall) rfl ownKnob_none started (by kernel_rfl) Try.func3
    (OpenSpec.witness (enc := enc) (C := Try.checked) (s := Rows.OpenSpec.upto Rows.historyAddsSpec) (k := Rows.uptoSmall) rfl false ⟨#[], #[.slice none 0 0, .agg #[.slice none 0 0, .int .i64 0, .string ⟨#[]⟩, .slice none 0 0, .bool false], .int .i64 0], []⟩ 8 (by kernel_rfl) (by kernel_rfl) (by kernel_rfl)
      (x := ([.nil, .agg [.nil, .lit (.int .i64 0), .lit (.string []), .nil, .lit (.bool false)], .lit (.int .i64 0)], [], [])) (by kernel_rfl) rfl (by kernel_rfl)) ?_
  intro W base args ds gs before hval hW _ hk _
  exact contract H enc W base args ds gs before hval hW hk

theorem proved : Rows.HistoryAddsUptoSaid :=
  OpenClaim.holds_of_cond 3 Try.f3 rfl rfl rfl rfl rfl rfl rfl ⟨rfl, rfl, rfl, rfl, rfl⟩ rfl rfl rfl rfl rfl (by kernel_rfl) Try.func3 (by kernel_rfl)
    (of_decide_eq_true (by kernel_rfl)) (by unfold Func.isWrapper; first | (rw [if_pos (by decide +kernel)]; kernel_rfl) | (rw [if_neg (by decide +kernel)]; exact ⟨rfl, rfl⟩))
    (fun os started H enc _ F => lifted os started H enc F)

end Go.Proofs.Ytiikbekboapphaa.ladds
