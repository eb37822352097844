/- DiskBytes: a byte after a crash is an old one, a new one, or a zero of a gap. For all arguments. -/
import Derived.Test.YtigmmcmekklkfaaBytMath
namespace Go.Proofs.Ytigmmcmekklkfaa.lbytes
open Go.ChangeShapes Go.WideShapes Go.ChangeAt Go.RowKit

set_option maxRecDepth 100000 in
set_option maxHeartbeats 8000000 in
theorem walk (s : ByteArray) (t0 t1 : Int) (P : Option Addr) (l1 : List Int) (cp : Nat) (w : World) (hs : s.size ≤ maxLen)
    (hP : Row w w.heap.size 1 P l1.length cp (intC l1)) (hl1 : l1.length ≤ maxLen) :
    Calls Try.prog 5 #[.string s, .agg #[.int .i64 t0, .int .i64 t1], .slice P l1.length cp] w (BoolB w true) := by
  obtain ⟨wB, hwB⟩ : ∃ wB, w.alloc (.cells #[.int .i64 t0, .int .i64 t1] 42) = wB := ⟨_, rfl⟩
  have hbB : Below w.heap.size w wB := by rw [← hwB]; exact (Below.refl _ w).alloc (Nat.le_refl _) _
  have FB : Full wB w.heap.size 42 [.int .i64 t0, .int .i64 t1] := by rw [← hwB]; exact Full.new w 42 _
  have S := Lib.hid (sane_any wB)
  have ND := Lib.hid (fun (W : World) (h : Below wB.heap.size wB W) => new_side h)
  unfold BoolB at S ⊢
  have HBB := Lib.hid hbB
  have RP := Lib.hid (fun (W : World) (hb : Below wB.heap.size wB W) => Row.below hP (Below.then_ hbB hb) (Nat.le_refl _))
  obtain ⟨m1, hm1⟩ : ∃ m, l1.length = m := ⟨_, rfl⟩
  rw [hm1] at RP hl1 ⊢
  have HL1 := Lib.hid hl1
  have M0 := Lib.hid (fun W' => (show Calls Try.prog 22 #[.int .i64 t0, .int .i64 250] W' fun e w' => e = .returned (.int .i64 (modN t0 250 : Int)) ∧ W' = w' from mod_any t0 250 W' (by omega) (by omega)))
  have M1 := Lib.hid (fun W' => (show Calls Try.prog 22 #[.int .i64 t1, .int .i64 200] W' fun e w' => e = .returned (.int .i64 (modN t1 200 : Int)) ∧ W' = w' from mod_any t1 200 W' (by omega) (by omega)))
  have hm0 := modN_lt (x := t0) (m := 250) (by omega)
  have hm1' := modN_lt (x := t1) (m := 200) (by omega)
  obtain ⟨ka, hka⟩ : ∃ k, modN t0 250 = k := ⟨_, rfl⟩
  obtain ⟨kb, hkb⟩ : ∃ k, modN t1 200 = k := ⟨_, rfl⟩
  rw [hka] at M0 hm0
  rw [hkb] at M1 hm1'
  obtain ⟨bb, hbb⟩ : ∃ b, w.heap.size = b := ⟨_, rfl⟩
  rw [hbb] at FB
  have CB := Lib.hid (fun (W : World) (h : Below wB.heap.size wB W) => (show W.cell? ⟨bb, 0, none⟩ = some (.int .i64 t0) ∧ W.cell? ⟨bb, 1, none⟩ = some (.int .i64 t1) from ⟨(FB.on h).cell 0, (FB.on h).cell 1⟩))
  have ka0 : (0 : Int) ≤ (ka : Int) := Int.natCast_nonneg _
  have ka1 : (ka : Int) < 250 := by omega
  have kb0 : (0 : Int) ≤ (kb : Int) := Int.natCast_nonneg _
  have kb1 : (kb : Int) < 200 := by omega
  have s0 : (0 : Int) ≤ (s.size : Int) := Int.natCast_nonneg _
  unfold maxLen at hs
  clear hP hm1 hl1 hka hkb FB hbB
  obtain ⟨T, hT⟩ : ∃ T, s.extract 0 (min (s.size : Int) 200).toNat = T := ⟨_, rfl⟩
  have hTs : T.size ≤ 200 := by
    rw [← hT, ByteArray.size_extract]
    omega
  have hTl : T.data.toList.length = T.size := data_len T
  obtain ⟨e1, f1⟩ := wErr_ok (d := Dk.new) rfl 0 T.data.toList (by omega) (by omega)
  have W1 := Lib.hid (fun (W : World) (p : Nat) (X : Nat → Prop) (h : Side wB W p Dk.new X) => (show Calls Try.prog 27 #[.pointer (some ⟨p, 0, none⟩), .int .i64 0, .string T] W fun e W' => e = .returned (.int .i64 0) ∧ SPost wB W p (Dk.new.write 0 T.data.toList) X W' from by have := h.write (by decide) 0 T (by omega) (by unfold maxLen; omega); rw [e1] at this; exact this))
  have f1' : Dk.new.write 0 T.data.toList = ⟨[], [(0, T.data.toList)], none, 1⟩ := f1
  rw [f1'] at W1
  obtain ⟨e2, f2⟩ := sErr_ok (d := ⟨[], [(0, T.data.toList)], none, 1⟩) rfl
  have Y2 := Lib.hid (fun (W : World) (p : Nat) (X : Nat → Prop) (h : Side wB W p ⟨[], [(0, T.data.toList)], none, 1⟩ X) => (show Calls Try.prog 28 #[.pointer (some ⟨p, 0, none⟩)] W fun e W' => e = .returned (.int .i64 0) ∧ SPost wB W p (Dk.sync ⟨[], [(0, T.data.toList)], none, 1⟩) X W' from by have := h.sync (by simp); rw [e2] at this; exact this))
  have f2' : Dk.sync ⟨[], [(0, T.data.toList)], none, 1⟩ = ⟨T.data.toList, [], none, 2⟩ := by rw [f2]; unfold Dk.now; rw [put_whole]
  rw [f2'] at Y2
  have hBl : (List.replicate (1 + kb) (238 : UInt8)).length = 1 + kb := List.length_replicate
  obtain ⟨e3, f3⟩ := wErr_ok (d := ⟨T.data.toList, [], none, 2⟩) rfl (ka : Int) (List.replicate (1 + kb) 238) (by omega) (by rw [hBl]; omega)
  have zB : (str (List.replicate (1 + kb) (238 : UInt8))).size = 1 + kb := by rw [str_size, hBl]
  have W3 := Lib.hid (fun (W : World) (p : Nat) (X : Nat → Prop) (h : Side wB W p ⟨T.data.toList, [], none, 2⟩ X) => (show Calls Try.prog 27 #[.pointer (some ⟨p, 0, none⟩), .int .i64 (ka : Int), .string (str (List.replicate (1 + kb) 238))] W fun e W' => e = .returned (.int .i64 0) ∧ SPost wB W p (Dk.write ⟨T.data.toList, [], none, 2⟩ (ka : Int) (List.replicate (1 + kb) 238)) X W' from by have := h.write (by simp) (ka : Int) (str (List.replicate (1 + kb) 238)) (by omega) (by rw [zB]; unfold maxLen; omega); rw [show (str (List.replicate (1 + kb) (238 : UInt8))).data.toList = List.replicate (1 + kb) 238 from rfl, e3] at this; exact this))
  have f3' : Dk.write ⟨T.data.toList, [], none, 2⟩ (ka : Int) (List.replicate (1 + kb) 238) = ⟨T.data.toList, [(ka, List.replicate (1 + kb) 238)], none, 3⟩ := f3
  rw [f3'] at W3
  have RPT := Lib.hid (fun W => (show Calls Try.prog 26 #[.int .u8 238, .int .i64 (1 + (kb : Int))] W (StrB W (str (List.replicate (1 + kb) 238))) from by have := repeated_any 238 (1 + kb) W (by omega); rw [show ((1 + kb : Nat) : Int) = 1 + (kb : Int) by omega] at this; exact this))
  unfold StrB at RPT
  have CR := Lib.hid (fun (W : World) (p : Nat) (X : Nat → Prop) (h : Side wB W p ⟨T.data.toList, [(ka, List.replicate (1 + kb) 238)], none, 3⟩ X) => h.crash (by simp) (RP.out W h.bel) (Nat.le_trans HBB.out.size h.bel.size) HL1.out)
  obtain ⟨G, hG⟩ : ∃ G, lay l1 0 T.data.toList (partsOf (ka, List.replicate (1 + kb) 238)) = G := ⟨_, rfl⟩
  have hleft : Dk.crash ⟨T.data.toList, [(ka, List.replicate (1 + kb) 238)], none, 3⟩ l1 = ⟨G, [], none, 0⟩ := by
    unfold Dk.crash Dk.left allParts
    simp [hG]
  rw [hleft] at CR
  obtain ⟨hmix, hmax⟩ := left_mixed T.data.toList ka (1 + kb) 238 l1
  rw [hG] at hmix hmax
  rw [hTl] at hmax
  have hge := hmix.ge
  rw [hTl] at hge
  have zG : (str G).size = G.length := str_size G
  have SZ := Lib.hid (fun (W : World) (p : Nat) (X : Nat → Prop) (h : Side wB W p ⟨G, [], none, 0⟩ X) => (show Calls Try.prog 17 #[.pointer (some ⟨p, 0, none⟩)] W fun e w' => e = .returned (.int .i64 (G.length : Int)) ∧ W = w' from h.size))
  have hrd : Dk.read ⟨G, [], none, 0⟩ 0 (G.length : Int) = G := by
    unfold Dk.read
    split
    · show (List.drop 0 G).take (G.length : Int).toNat = G
      simp
    · next h =>
      have : G.length = 0 := by omega
      rw [List.eq_nil_of_length_eq_zero this]
  have RE := Lib.hid (fun (W : World) (p : Nat) (X : Nat → Prop) (h : Side wB W p ⟨G, [], none, 0⟩ X) => (show Calls Try.prog 29 #[.pointer (some ⟨p, 0, none⟩), .int .i64 0, .int .i64 (G.length : Int)] W fun e w' => e = .returned (.string (str G)) ∧ W = w' from by have := h.read 0 (G.length : Int); rw [hrd] at this; exact this))
  have hat := fun (k : Nat) (hk : k < G.length) => hmix.at_ k hk
  obtain ⟨B, hB⟩ : ∃ B, str (List.replicate (1 + kb) (238 : UInt8)) = B := ⟨_, rfl⟩
  rw [hB] at W3 RPT zB
  obtain ⟨GS, hGS⟩ : ∃ B, str G = B := ⟨_, rfl⟩
  rw [hGS] at RE zG
  -- each byte, as the program reads it
  have HAT := Lib.hid (show ∀ (k : Nat) (hk : k < GS.size), (∃ h : k < T.size, GS[k] = T[k]) ∨ (ka ≤ k ∧ k < ka + (1 + kb) ∧ GS[k] = 238) ∨ (T.size ≤ k ∧ GS[k] = 0) from fun k hk => by
    have hk' : k < G.length := by omega
    have hg : G[k]? = some GS[k] := by
      subst hGS
      exact List.getElem?_eq_getElem hk'
    rcases hat k hk' with ⟨h1, h2⟩ | ⟨h1, h2, h3⟩ | ⟨h1, h2⟩
    · refine .inl ⟨by omega, ?_⟩
      rw [hg, List.getElem?_eq_getElem h1] at h2
      injection h2
    · rw [hg] at h3
      injection h3 with h3
      exact .inr (.inl ⟨h1, h2, h3⟩)
    · rw [hg] at h2
      injection h2 with h2
      exact .inr (.inr ⟨by omega, h2⟩))
  rw [← zG] at SZ RE hmax hge
  have zBi : (B.size : Int) = 1 + (kb : Int) := by omega
  have hg1 : (T.size : Int) ≤ (GS.size : Int) := by omega
  have hg2 : (GS.size : Int) ≤ max (T.size : Int) ((ka : Int) + (1 + (kb : Int))) := by omega
  have g0 : (0 : Int) ≤ (GS.size : Int) := Int.natCast_nonneg _
  have g1 : (GS.size : Int) ≤ 1000 := by omega
  have tt0 : (0 : Int) ≤ (T.size : Int) := Int.natCast_nonneg _
  have tt1 : (T.size : Int) ≤ 200 := by omega
  clear e1 f1 f1' e2 f2 f2' e3 f3 f3' hBl zB hleft hmix hmax hge zG hrd hat hB hG hGS hTl hs
  go_enter Try.func5, Try.ntmps5
  go_upto_region 1 with fail
  clear hwB hbb
  go_upto_region 6 with (first
    | (go_at_call 13; ((with_reducible refine S.out.mono ?_); rintro e w1 ⟨rfl, hb1⟩))
    | (go_at_call 14; ((with_reducible refine (ND.out w1 hb1).mono ?_); rintro e w2 ⟨p, rfl, hS2, hb2⟩; (obtain ⟨b20, b21⟩ := CB.out w2 hS2.bel)))
    | (fail "arm"))
  clear hT hb1 hb2
  go_upto_region 12 with (first
    | (go_at_call 22; ((with_reducible refine (M0.out _).mono ?_); rintro e wz ⟨rfl, rfl⟩))
    | (go_at_call 22; ((with_reducible refine (M1.out _).mono ?_); rintro e wz ⟨rfl, rfl⟩))
    | (go_at_call 26; ((with_reducible refine (RPT.out w2).mono ?_); rintro e w3 ⟨rfl, hb3⟩; (have hS3 := hS2.on hb3)))
    | (go_at_call 27; ((with_reducible refine (W1.out w3 p _ hS3).mono ?_); rintro e w4 ⟨rfl, hS4, _⟩))
    | (go_at_call 28; ((with_reducible refine (Y2.out w4 p _ hS4).mono ?_); rintro e w5 ⟨rfl, hS5, _⟩))
    | (go_at_call 27; ((with_reducible refine (W3.out w5 p _ hS5).mono ?_); rintro e w6 ⟨rfl, hS6, _⟩))
    | (go_at_call 23; ((with_reducible refine (CR.out w6 p _ hS6).mono ?_); rintro e w7 ⟨q, rfl, hS7, _⟩))
    | (fail "arm"))
  clear b20 b21 hS2 hS3 hS4 hS5 hS6
  go_wp2_with (first
    | (go_at_call 17; ((with_reducible refine (SZ.out w7 q _ hS7).mono ?_); rintro e wz ⟨rfl, rfl⟩))
    | (go_at_call 29; ((with_reducible refine (RE.out w7 q _ hS7).mono ?_); rintro e wz ⟨rfl, rfl⟩))
    | (fail "arm"))
  have HB7 := Lib.hid hS7.bel
  clear hS7 SZ RE W1 Y2 W3 RPT CR M0 M1 ND S RP CB
  go_loopw [17] (fun v17 wr => ∃ k : Nat, v17 = .int .i64 (k : Int) ∧ k ≤ GS.size ∧ Hid (Below wB.heap.size wB wr)) (fun v17 _ => GS.size - (intOf v17).toNat)
  case atStart => exact ⟨0, rfl, by omega, HB7⟩
  case round =>
    obtain ⟨k, rfl, hk, hbl⟩ := hrel
    have k0 : (0 : Int) ≤ (k : Int) := Int.natCast_nonneg _
    by_cases hlt : k < GS.size
    · have k1 : (k : Int) < (GS.size : Int) := by omega
      have hm := HAT.out k hlt
      by_cases h1 : k < T.size
      · have i1 : (k : Int) < (T.size : Int) := by omega
        have hEd : decide ((k : Int) < (T.size : Int)) = true := by simp; omega
        by_cases huv : GS[k] = T[k]
        · have hE : ((GS[k].toNat : Int) == (T[k].toNat : Int)) = true := by rw [huv]; simp
          by_cases h2 : ka ≤ k
          · have i2 : (ka : Int) ≤ (k : Int) := by omega
            by_cases h3 : k < ka + (1 + kb)
            · have i3 : (k : Int) < (ka : Int) + (1 + (kb : Int)) := by omega
              have i4 : (k : Int) < (ka : Int) + (B.size : Int) := by omega
              clear hm
              go_upto_region 20 with fail
              go_quiet (fail)
              go_wp2
              all_goals (go_roundw; (case rel => exact ⟨k + 1, by go_num, by omega, Lib.hid (Below.drewN_ hbl.out _)⟩); (case measure => simp [intOf]; omega))
            · have i3 : ¬ (k : Int) < (ka : Int) + (1 + (kb : Int)) := by omega
              have i4 : ¬ (k : Int) < (ka : Int) + (B.size : Int) := by omega
              clear hm
              go_upto_region 20 with fail
              go_quiet (fail)
              go_wp2
              all_goals (go_roundw; (case rel => exact ⟨k + 1, by go_num, by omega, Lib.hid (Below.drewN_ hbl.out _)⟩); (case measure => simp [intOf]; omega))
          · have i2 : ¬ (ka : Int) ≤ (k : Int) := by omega
            clear hm
            go_upto_region 20 with fail
            go_quiet (fail)
            go_wp2
            all_goals (go_roundw; (case rel => exact ⟨k + 1, by go_num, by omega, Lib.hid (Below.drewN_ hbl.out _)⟩); (case measure => simp [intOf]; omega))
        · have hE : ((GS[k].toNat : Int) == (T[k].toNat : Int)) = false := by
            rw [beq_eq_false_iff_ne]
            intro e
            exact huv (UInt8.toNat_inj.1 (by omega))
          obtain ⟨h2, h3, h4⟩ : ka ≤ k ∧ k < ka + (1 + kb) ∧ GS[k] = 238 := by
            rcases hm with ⟨_, e⟩ | e | ⟨e, _⟩
            · exact absurd e huv
            · exact e
            · omega
          have i2 : (ka : Int) ≤ (k : Int) := by omega
          have i3 : (k : Int) < (ka : Int) + (1 + (kb : Int)) := by omega
          have i4 : (k : Int) < (ka : Int) + (B.size : Int) := by omega
          have hN : ((GS[k].toNat : Int) == 238) = true := by rw [h4]; rfl
          clear hm
          go_upto_region 20 with fail
          go_quiet (fail)
          go_wp2
          all_goals (go_roundw; (case rel => exact ⟨k + 1, by go_num, by omega, Lib.hid (Below.drewN_ hbl.out _)⟩); (case measure => simp [intOf]; omega))
      · have i1 : ¬ (k : Int) < (T.size : Int) := by omega
        have hEd : decide ((k : Int) < (T.size : Int)) = false := by simp; omega
        by_cases h2 : ka ≤ k
        · have i2 : (ka : Int) ≤ (k : Int) := by omega
          by_cases h3 : k < ka + (1 + kb)
          · have i3 : (k : Int) < (ka : Int) + (1 + (kb : Int)) := by omega
            have i4 : (k : Int) < (ka : Int) + (B.size : Int) := by omega
            by_cases h4 : GS[k] = 238
            · have hN : ((GS[k].toNat : Int) == 238) = true := by rw [h4]; rfl
              clear hm
              go_upto_region 20 with fail
              go_quiet (fail)
              go_wp2
              all_goals (go_roundw; (case rel => exact ⟨k + 1, by go_num, by omega, Lib.hid (Below.drewN_ hbl.out _)⟩); (case measure => simp [intOf]; omega))
            · have hN : ((GS[k].toNat : Int) == 238) = false := by
                rw [beq_eq_false_iff_ne]
                intro e
                exact h4 (UInt8.toNat_inj.1 (by show GS[k].toNat = 238; omega))
              have hz : GS[k] = 0 := by
                rcases hm with ⟨e, _⟩ | ⟨e1, e2, e3⟩ | ⟨_, e⟩
                · omega
                · first | omega | exact absurd e3 h4
                · exact e
              have hZ : ((GS[k].toNat : Int) == 0) = true := by rw [hz]; rfl
              clear hm
              go_upto_region 20 with fail
              go_quiet (fail)
              go_wp2
              all_goals (go_roundw; (case rel => exact ⟨k + 1, by go_num, by omega, Lib.hid (Below.drewN_ hbl.out _)⟩); (case measure => simp [intOf]; omega))
          · have i3 : ¬ (k : Int) < (ka : Int) + (1 + (kb : Int)) := by omega
            have i4 : ¬ (k : Int) < (ka : Int) + (B.size : Int) := by omega
            have hz : GS[k] = 0 := by
              rcases hm with ⟨e, _⟩ | ⟨e1, e2, e3⟩ | ⟨_, e⟩
              · omega
              · omega
              · exact e
            have hZ : ((GS[k].toNat : Int) == 0) = true := by rw [hz]; rfl
            clear hm
            go_upto_region 20 with fail
            go_quiet (fail)
            go_wp2
            all_goals (go_roundw; (case rel => exact ⟨k + 1, by go_num, by omega, Lib.hid (Below.drewN_ hbl.out _)⟩); (case measure => simp [intOf]; omega))
        · have i2 : ¬ (ka : Int) ≤ (k : Int) := by omega
          have hz : GS[k] = 0 := by
            rcases hm with ⟨e, _⟩ | ⟨e1, e2, e3⟩ | ⟨_, e⟩
            · omega
            · omega
            · exact e
          have hZ : ((GS[k].toNat : Int) == 0) = true := by rw [hz]; rfl
          clear hm
          go_upto_region 20 with fail
          go_quiet (fail)
          go_wp2
          all_goals (go_roundw; (case rel => exact ⟨k + 1, by go_num, by omega, Lib.hid (Below.drewN_ hbl.out _)⟩); (case measure => simp [intOf]; omega))
    · obtain rfl : k = GS.size := by omega
      go_wp2
      go_ret
      exact ⟨by simp, Below.then_ HBB.out hbl.out⟩

theorem contract (H : Type) (enc : TypeId × Value → H) (W : World) (base : Nat) (args : Array Value) (ds gs : List (DataW H)) (before : List MemPlace)
    (hval : ∀ (j : Nat) t v, Try.f5.params[j]? = some t → args[j]? = some v → Value.okWide Try.prog W .any base t v)
    (hW : DataW.Whole enc Try.prog Try.f5.params.toList Rows.diskBytesSpec.vars false W args.toList ds gs before) :
    Calls Try.prog 5 args W fun e W' => ∃ v, e = .returned v ∧ Rows.diskBytesSpec.post enc Try.prog Try.f5 false true false false W args v W' := by
  have hW' := hW
  obtain ⟨p, q, hA0, hV, rfl, hfz, hnd⟩ := hW
  have hA : DataW.TrodAll enc Try.prog W 0 (fun _ => true) true Try.f5.params.toList args.toList ds p := hA0
  rw [Try.params5] at hA hval
  obtain ⟨v0, vs0, d0, ds0, p0, q0, e0, rfl, rfl, h0, r0⟩ := trodAll_cons hA
  obtain ⟨v1, vs1, d1, ds1, p1, q1, e1, rfl, rfl, h1, r1⟩ := trodAll_cons r0
  obtain ⟨v2, vs2, d2, ds2, p2, q2, e2, rfl, rfl, h2, r2⟩ := trodAll_cons r1
  obtain ⟨rfl, rfl, rfl⟩ := trodAll_nil r2
  obtain rfl : args = #[v0, v1, v2] := by cases args; simp_all
  obtain ⟨rfl, rfl⟩ := trodVars_none hV
  obtain ⟨s, rfl, rfl, rfl, hs⟩ := Go.ChangeMaps.open_string Try.underlying9 (hval 0 9 v0 rfl rfl) h0
  obtain ⟨x, y, rfl, hx, hy⟩ := open_pair (hval 1 42 v1 rfl rfl) h1
  obtain ⟨P, l1, cp, rfl, hP, hl1⟩ := open_ints h2 (hval 2 36 v2 rfl rfl)
  refine (walk s x y P l1 cp W hs hP hl1).mono fun e W' ⟨he, hb⟩ => ⟨_, he, law_post rfl rfl ?_ rfl rfl rfl hW' hb⟩
  rw [Try.params5]
  intro t ht
  have ht' : t = 9 ∨ t = 42 ∨ t = 36 := by simpa using ht
  rcases ht' with rfl | rfl | rfl <;> exact ⟨by kernel_rfl, of_decide_eq_true (by kernel_rfl)⟩

set_option maxRecDepth 100000 in
theorem lifted (os : Os) (started : os.Started) (H : Type) (enc : TypeId × Value → H) :
    ReturnsInHanded {} Try.checked os 5 .any (Rows.diskBytesSpec.pre6 enc Try.prog Try.f5 Rows.diskBytesRow.domain false) (Rows.diskBytesSpec.post enc Try.prog Try.f5 false true false false) := by
  refine returnsInHanded_of_change (C := Try.checked) ownKnob_none started (by kernel_rfl) Try.func5
    (ChangeSpec.witness6 (enc := enc) (C := Try.checked) false ⟨#[], #[.string .empty, .agg #[.int .i64 0, .int .i64 0], .slice none 0 0], []⟩ 8 (by kernel_rfl) (by kernel_rfl) (by kernel_rfl) (by kernel_rfl)) ?_
  intro W base args ds gs before hval hW _ _
  exact contract H enc W base args ds gs before hval hW

theorem proved : Rows.DiskBytesSaid :=
  OpenClaim.holds_of_wide 5 Try.f5 rfl rfl rfl rfl rfl rfl rfl ⟨rfl, rfl, rfl, rfl, rfl⟩ rfl rfl rfl rfl rfl (by kernel_rfl) Try.func5 (by kernel_rfl)
    (of_decide_eq_true (by kernel_rfl)) (by unfold Func.isWrapper; first | (rw [if_pos (by decide +kernel)]; kernel_rfl) | (rw [if_neg (by decide +kernel)]; exact ⟨rfl, rfl⟩))
    (fun os started H enc _ => lifted os started H enc)

end Go.Proofs.Ytigmmcmekklkfaa.lbytes
