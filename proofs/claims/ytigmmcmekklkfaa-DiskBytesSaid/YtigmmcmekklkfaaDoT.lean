/- do. -/
import Derived.Test.YtigmmcmekklkfaaSameT
namespace Go.Proofs.Ytigmmcmekklkfaa
set_option maxRecDepth 100000
open Go.RowKit
/-- an act -/
structure At where
  kind : Int
  off : Int
  n : Int
  text : List UInt8
def actV (a : At) : List Value := [.int .i64 a.kind, .int .i64 a.off, .int .i64 a.n, .string (str a.text)]
structure At.Fit (a : At) : Prop where
  off : -9223372036854775808 ≤ a.off ∧ a.off ≤ 9223372036854775807
  n : -9223372036854775808 ≤ a.n ∧ a.n ≤ 9223372036854775807
  text : a.text.length ≤ maxLen
/-- A desk at block x: its disk and the reference's hold d. -/
def Desk (w W : World) (x : Nat) (d : Dk) : Prop := ∃ p q, Both w W p q d d (fun g => g = x) ∧ Full W x 30 [.pointer (some ⟨p, 0, none⟩), .pointer (some ⟨q, 0, none⟩)]
/-- what an act makes of a disk -/
def act (d : Dk) (a : At) : Dk :=
  if modN a.kind 8 = 4 then d.sync
  else if modN a.kind 8 = 5 then d
  else if modN a.kind 8 = 6 then d.fail ((modN a.n 9 : Int) - 1)
  else if modN a.kind 8 = 7 then d.crash (survL a.n)
  else d.write (whereP a.off) (longL a.n a.text)
theorem write_calls (d : Dk) (off : Int) (s : List UInt8) : (d.write off s).calls ≤ d.calls + 1 := by
  unfold Dk.write
  split
  · simp [Dk.wrote]
  · omega
theorem sync_calls (d : Dk) : d.sync.calls ≤ d.calls + 1 := by
  unfold Dk.sync
  split
  · omega
  · simp [Dk.synced]
theorem act_calls (d : Dk) (a : At) : (act d a).calls ≤ d.calls + 1 := by
  unfold act
  repeat' split
  · exact sync_calls d
  · omega
  · simp [Dk.fail]
  · simp [Dk.crash]
  · exact write_calls _ _ _
theorem where_le (off : Int) (h : off ≤ 9223372036854775807) : whereP off ≤ 9223372036854775807 := by
  unfold whereP
  split
  · exact h
  · have := modN_lt (x := off) (m := 300) (by omega)
    omega
set_option maxHeartbeats 16000000 in
theorem do_any {w W : World} {x : Nat} {d : Dk} (h : Desk w W x d) (hc : d.calls ≤ 1000) (a : At) (ha : a.Fit) :
    Calls Try.prog 16 #[.pointer (some ⟨x, 0, none⟩), .agg (actV a).toArray] W fun e W' => e = .returned (.bool true) ∧ Desk w W' x (act d a) := by
  obtain ⟨p, q, hB, hX⟩ := h
  obtain ⟨kind, off, n, text⟩ := a
  obtain ⟨ho, hn, ht⟩ := ha
  dsimp only at ho hn ht
  unfold actV act
  dsimp only
  have MD := Lib.hid (fun W' => (show Calls Try.prog 22 #[.int .i64 kind, .int .i64 8] W' fun e w' => e = .returned (.int .i64 (modN kind 8 : Int)) ∧ W' = w' from mod_any kind 8 W' (by omega) (by omega)))
  have hk8 := modN_lt (x := kind) (m := 8) (by omega)
  obtain ⟨K, hK⟩ : ∃ K, modN kind 8 = K := ⟨_, rfl⟩
  rw [hK] at MD hk8 ⊢
  obtain ⟨S, hS⟩ : ∃ S, str text = S := ⟨_, rfl⟩
  have LG := Lib.hid (fun W' => hS ▸ long_any kind off n text W' ht)
  have WH := Lib.hid (fun W' => where_any kind off n S W')
  rw [hS]
  obtain ⟨W1, hW1⟩ : ∃ W1, W.alloc (.cells #[.int .i64 kind, .int .i64 off, .int .i64 n, .string S] 33) = W1 := ⟨_, rfl⟩
  have hb1 : Below W.heap.size W W1 := by rw [← hW1]; exact (Below.refl _ W).alloc (Nat.le_refl _) _
  have K1 : Full W1 W.heap.size 33 [.int .i64 kind, .int .i64 off, .int .i64 n, .string S] := by rw [← hW1]; exact Full.new W 33 _
  have B1 := hB.more hb1 (Nat.le_refl _) K1.lt
  have X1 := hX.on hb1
  obtain ⟨b, hb⟩ : ∃ b, W.heap.size = b := ⟨_, rfl⟩
  rw [hb] at K1 B1
  have c0 : W1.cell? ⟨x, 0, none⟩ = some (.pointer (some ⟨p, 0, none⟩)) := X1.cell 0
  have c1 : W1.cell? ⟨x, 1, none⟩ = some (.pointer (some ⟨q, 0, none⟩)) := X1.cell 1
  have a0 : W1.cell? ⟨b, 0, none⟩ = some (.int .i64 kind) := K1.cell 0
  have a1 : W1.cell? ⟨b, 1, none⟩ = some (.int .i64 off) := K1.cell 1
  have a2 : W1.cell? ⟨b, 2, none⟩ = some (.int .i64 n) := K1.cell 2
  have a3 : W1.cell? ⟨b, 3, none⟩ = some (.string S) := K1.cell 3
  -- what stays of the desk and of the act's box in later worlds
  have SX := Lib.hid (fun (W' : World) (hk : Keep (fun g => g = x ∨ g = b) W1 W') => (show (W'.cell? ⟨x, 0, none⟩ = some (.pointer (some ⟨p, 0, none⟩)) ∧ W'.cell? ⟨x, 1, none⟩ = some (.pointer (some ⟨q, 0, none⟩))) ∧ W'.cell? ⟨b, 0, none⟩ = some (.int .i64 kind) ∧ W'.cell? ⟨b, 1, none⟩ = some (.int .i64 off) ∧ W'.cell? ⟨b, 2, none⟩ = some (.int .i64 n) ∧ W'.cell? ⟨b, 3, none⟩ = some (.string S) from
    ⟨⟨(hk.full X1 (.inl rfl)).cell 0, (hk.full X1 (.inl rfl)).cell 1⟩, (hk.full K1 (.inr rfl)).cell 0, (hk.full K1 (.inr rfl)).cell 1, (hk.full K1 (.inr rfl)).cell 2, (hk.full K1 (.inr rfl)).cell 3⟩))
  have HB1 := Lib.hid B1
  have HX1 := Lib.hid X1
  have KF := Lib.hid (fun (W' : World) (hk : Keep (fun g => g = x ∨ g = b) W1 W') => hk.full X1 (.inl rfl))
  clear hB hX hb1 K1 B1 X1 hK hS
  have HBD := Lib.hid (show Both w W1.drew p q d d (fun g => g = x ∨ g = b) from HB1.out.drewN 1)
  have kd : Keep (fun g => g = x ∨ g = b) W1 W1.drew := fun g _ => rfl
  have HKD := Lib.hid kd
  have HPUT := Lib.hid (fun (W' : World) (d' : Dk) (hb : Both w W' p q d' d' (fun g => g = x ∨ g = b)) (hk : Keep (fun g => g = x ∨ g = b) W1 W') => (show Desk w W' x d' from ⟨p, q, hb.less (fun g hg => .inl hg), KF.out W' hk⟩))
  clear kd
  by_cases h4 : K = 4
  · subst h4
    rw [if_pos rfl]
    have SY := Lib.hid (HBD.out.sync (by omega))
    have RSY := Lib.hid (fun (W' : World) (hb : Both w W' p q d.sync d (fun g => g = x ∨ g = b)) => hb.rsync (by omega))
    obtain ⟨E, hE⟩ : ∃ E, d.sErr = E := ⟨_, rfl⟩
    rw [hE] at SY RSY
    have sd := (SX.out W1.drew HKD.out).1
    clear a1 a2 a3 hE
    go_enter Try.func16, Try.ntmps16
    go_upto_region 1 with fail
    clear hW1 hb
    go_upto_region 3 with (go_at_call 22; ((with_reducible refine (MD.out _).mono ?_); rintro e wz ⟨rfl, rfl⟩))
    go_region_held3 (fun w' => w'.cell? ⟨x, 0, none⟩ = some (.pointer (some ⟨p, 0, none⟩)) ∧ w'.cell? ⟨x, 1, none⟩ = some (.pointer (some ⟨q, 0, none⟩)))
      (first | (with_reducible exact sd) | (with_reducible exact s2) | (with_reducible exact s3) | (fail "keep"))
      (first
        | (go_at_call 28; ((with_reducible refine SY.out.mono ?_); rintro e w2 ⟨rfl, hB2, hk2⟩; (have HK2 := HKD.out.trans hk2); (have s2 := (SX.out w2 HK2).1)))
        | (go_at_call 33; ((with_reducible refine (RSY.out _ hB2).mono ?_); rintro e w3 ⟨rfl, hB3, hk3⟩; (have HK3 := HK2.trans hk3); (have s3 := (SX.out w3 HK3).1)))
        | (fail "arm"))
    go_wp2
    go_ret
    exact ⟨by simp, HPUT.out _ _ hB3 HK3⟩
  · rw [if_neg h4]
    by_cases h5 : K = 5
    · subst h5
      rw [if_pos rfl]
      have RE := Lib.hid (fun (W' : World) (hb : Both w W' p q d d (fun g => g = x ∨ g = b)) => hb.read (whereP off) n)
      have RRE := Lib.hid (fun (W' : World) (hb : Both w W' p q d d (fun g => g = x ∨ g = b)) => hb.rread (whereP off) n)
      obtain ⟨wo, hwo⟩ : ∃ wo, whereP off = wo := ⟨_, rfl⟩
      rw [hwo] at RE RRE WH
      obtain ⟨R, hR⟩ : ∃ R, str (d.read wo n) = R := ⟨_, rfl⟩
      rw [hR] at RE RRE
      have sd := SX.out W1.drew HKD.out
      clear hwo hR
      go_enter Try.func16, Try.ntmps16
      go_upto_region 1 with fail
      clear hW1 hb
      go_upto_region 5 with (go_at_call 22; ((with_reducible refine (MD.out _).mono ?_); rintro e wz ⟨rfl, rfl⟩))
      go_region_held3 (fun w' => (w'.cell? ⟨x, 0, none⟩ = some (.pointer (some ⟨p, 0, none⟩)) ∧ w'.cell? ⟨x, 1, none⟩ = some (.pointer (some ⟨q, 0, none⟩))) ∧ w'.cell? ⟨b, 0, none⟩ = some (.int .i64 kind) ∧ w'.cell? ⟨b, 1, none⟩ = some (.int .i64 off) ∧ w'.cell? ⟨b, 2, none⟩ = some (.int .i64 n) ∧ w'.cell? ⟨b, 3, none⟩ = some (.string S))
        (first | (with_reducible exact sd) | (with_reducible exact s2) | (with_reducible exact s3) | (with_reducible exact s4) | (fail "keep"))
        (first
          | (go_at_call 34; ((with_reducible refine (WH.out W1.drew).mono ?_); rintro e w2 ⟨rfl, hb2⟩; (have hB2 := HBD.out.on hb2); (have HK2 := HKD.out.trans (HBD.out.keep_on hb2)); (have s2 := SX.out w2 HK2)))
          | (go_at_call 29; ((with_reducible refine (RE.out w2 hB2).mono ?_); rintro e w2' ⟨rfl, rfl⟩))
          | (go_at_call 34; ((with_reducible refine (WH.out w2).mono ?_); rintro e w3 ⟨rfl, hb3⟩; (have hB3 := hB2.on hb3); (have HK3 := HK2.trans (hB2.keep_on hb3)); (have s3 := SX.out w3 HK3)))
          | (go_at_call 31; ((with_reducible refine (RRE.out w3 hB3).mono ?_); rintro e w4 ⟨rfl, k4, hk4⟩; (have s4 : (w4.cell? ⟨x, 0, none⟩ = some (.pointer (some ⟨p, 0, none⟩)) ∧ w4.cell? ⟨x, 1, none⟩ = some (.pointer (some ⟨q, 0, none⟩))) ∧ w4.cell? ⟨b, 0, none⟩ = some (.int .i64 kind) ∧ w4.cell? ⟨b, 1, none⟩ = some (.int .i64 off) ∧ w4.cell? ⟨b, 2, none⟩ = some (.int .i64 n) ∧ w4.cell? ⟨b, 3, none⟩ = some (.string S) := by rw [hk4]; exact s3); (have hB4 := hB3.drewN k4); rw [← hk4] at hB4; (have HK4 : Keep (fun g => g = x ∨ g = b) W1 w4 := by rw [hk4]; exact HK3); clear hk4))
          | (fail "arm"))
      go_wp2
      go_ret
      exact ⟨by simp, HPUT.out _ _ hB4 HK4⟩
    · rw [if_neg h5]
      by_cases h6 : K = 6
      · subst h6
        rw [if_pos rfl]
        have M9 := Lib.hid (fun W' => (show Calls Try.prog 22 #[.int .i64 n, .int .i64 9] W' fun e w' => e = .returned (.int .i64 (modN n 9 : Int)) ∧ W' = w' from mod_any n 9 W' (by omega) (by omega)))
        have hm9 := modN_lt (x := n) (m := 9) (by omega)
        obtain ⟨m, hm⟩ : ∃ m, modN n 9 = m := ⟨_, rfl⟩
        rw [hm] at M9 hm9 ⊢
        have m0 : (0 : Int) ≤ (m : Int) := Int.natCast_nonneg _
        have m1 : (m : Int) < 9 := by omega
        have FD := Lib.hid (HB1.out.fail ((m : Int) - 1) ⟨by omega, by omega⟩)
        have FR := Lib.hid (fun (W' : World) (hb : Both w W' p q (d.fail ((m : Int) - 1)) d (fun g => g = x ∨ g = b)) => hb.rfail ((m : Int) - 1) ⟨by omega, by omega⟩)
        clear hm
        go_enter Try.func16, Try.ntmps16
        go_upto_region 1 with fail
        clear hW1 hb
        go_wp2_with (first
          | (go_at_call 22; ((with_reducible refine (MD.out _).mono ?_); rintro e wz ⟨rfl, rfl⟩))
          | (go_at_call 22; ((with_reducible refine (M9.out _).mono ?_); rintro e wz ⟨rfl, rfl⟩))
          | (go_at_call 30; ((with_reducible refine FD.out.mono ?_); rintro e w2 ⟨rfl, hB2, hk2⟩; (have s2 := (SX.out w2 hk2).1); (obtain ⟨s20, s21⟩ := s2)))
          | (go_at_call 35; ((with_reducible refine (FR.out _ hB2).mono ?_); rintro e w3 ⟨rfl, hB3, hk3⟩; (have HK3 := hk2.trans hk3)))
          | (fail "arm"))
        go_ret
        exact ⟨rfl, HPUT.out _ _ hB3 HK3⟩
      · rw [if_neg h6]
        by_cases h7 : K = 7
        · subst h7
          rw [if_pos rfl]
          have SV := Lib.hid (fun W' => survive_any n W' hn.1 hn.2)
          unfold SurvOut at SV
          have hm6 := modN_lt (x := n) (m := 6) (by omega)
          obtain ⟨m, hm⟩ : ∃ m, modN n 6 = m := ⟨_, rfl⟩
          rw [hm] at SV hm6
          obtain ⟨l, hl⟩ : ∃ l, survL n = l := ⟨_, rfl⟩
          rw [hl] at SV ⊢
          have CR := Lib.hid (fun (W' : World) (A : Option Addr) (c : Nat) (hb : Both w W' p q d d (fun g => g = x ∨ g = b)) (hr : Row W' W'.heap.size 1 A m c (intC l)) => hb.crash (by omega) hr (Nat.le_refl _) (by unfold maxLen; omega))
          have RC := Lib.hid (fun (W' : World) (p' : Nat) (A : Option Addr) (c : Nat) (hb : Both w W' p' q (d.crash l) d (fun g => g = x ∨ g = b)) (hr : Row W' W'.heap.size 1 A m c (intC l)) => hb.rcrash (by omega) hr (Nat.le_refl _) (by unfold maxLen; omega))
          unfold CPost at CR
          unfold RCPost at RC
          have HKB := Lib.hid (fun (W' : World) (hk : Keep (fun g => g = x ∨ g = b) W1 W') => (show Full W' x 30 [.pointer (some ⟨p, 0, none⟩), .pointer (some ⟨q, 0, none⟩)] ∧ W'.cell? ⟨b, 2, none⟩ = some (.int .i64 n) from ⟨KF.out W' hk, (SX.out W' hk).2.2.2.1⟩))
          have hxb := HB1.out.his
          have HNE := Lib.hid (show x ≠ b from by rintro rfl; rw [c0] at a0; cases a0)
          clear hm hl hxb
          go_enter Try.func16, Try.ntmps16
          go_upto_region 1 with fail
          clear hW1 hb
          go_upto_region 12 with (go_at_call 22; ((with_reducible refine (MD.out _).mono ?_); rintro e wz ⟨rfl, rfl⟩))
          go_region_law
            (first
              | (refine step_call_fn rfl 25 _ _ rfl #[.int .i64 n] (by rfl) (enters_of Try.func25 (by kernel_rfl) rfl) (SV.out W1.drew) ?_; rintro e w2 ⟨A, c, rfl, row2, hb2⟩; refine ⟨_, rfl, ?_⟩; (have hB2 := HBD.out.on hb2); (have HK2 := HKD.out.trans (HBD.out.keep_on hb2)); (have F2 := HKB.out w2 HK2); (have s20 : w2.cell? ⟨x, 0, none⟩ = some (.pointer (some ⟨p, 0, none⟩)) := F2.1.cell 0); (have s21 := F2.2))
              | (refine step_call_fn rfl 23 _ _ rfl #[.pointer (some ⟨p, 0, none⟩), .slice A m c] (by rfl) (enters_of Try.func23 (by kernel_rfl) rfl) (CR.out w2 A c hB2 row2) ?_; rintro e w3 ⟨p', rfl, hB3, hb3⟩; refine ⟨_, rfl, ?_⟩; (have HK3 := HK2.trans (hB2.keep_on hb3)); (have F3 := HKB.out w3 HK3); (have s30 : w3.cell? ⟨x, 0, none⟩ = some (.pointer (some ⟨p, 0, none⟩)) := F3.1.cell 0); (have s3f : w3.frozen? ⟨x, 0, none⟩ = false := F3.1.frozen 0); (have s31 := F3.2))
              | (fail "arm"))
          all_goals
            have hB4 := hB3.set_ (a := ⟨x, 0, none⟩) (.inl rfl) (.pointer (some ⟨p', 0, none⟩))
            have F4 : Full (w3.setCell ⟨x, 0, none⟩ (.pointer (some ⟨p', 0, none⟩))) x 30 [.pointer (some ⟨p', 0, none⟩), .pointer (some ⟨q, 0, none⟩)] := F3.1.set_ 0 _
            have s41 : (w3.setCell ⟨x, 0, none⟩ (.pointer (some ⟨p', 0, none⟩))).cell? ⟨b, 2, none⟩ = some (.int .i64 n) := by
              rw [← s31]
              exact World.cell?_of_block (Below.heap_setCell _ _ _ _ (by show b ≠ x; exact fun e => HNE.out e.symm))
            obtain ⟨w4, hw4⟩ : ∃ w4, w3.setCell ⟨x, 0, none⟩ (.pointer (some ⟨p', 0, none⟩)) = w4 := ⟨_, rfl⟩
            rw [hw4] at hB4 F4 s41 ⊢
            have s40 : w4.cell? ⟨x, 1, none⟩ = some (.pointer (some ⟨q, 0, none⟩)) := F4.cell 1
            have hB4d : Both w w4.drew p' q (d.crash l) d (fun g => g = x ∨ g = b) := hB4.drewN 1
            have HB4 := Lib.hid hB4d
            have HF4 := Lib.hid F4
            clear hw4 hB4 hB4d F4 s30 s3f s31 F3 s20 s21 F2 hB3 hb3 hB2 hb2 row2
            go_upto_region 13 with fail
            go_region_law
              (first
                | (refine step_call_fn rfl 25 _ _ rfl #[.int .i64 n] (by rfl) (enters_of Try.func25 (by kernel_rfl) rfl) (SV.out w4.drew) ?_; rintro e w5 ⟨A5, c5, rfl, row5, hb5⟩; refine ⟨_, rfl, ?_⟩; (have hB5 := HB4.out.on hb5); (have F5 := (HB4.out.keep_on hb5).full (g := x) HF4.out (.inl rfl)); (have s50 : w5.cell? ⟨x, 1, none⟩ = some (.pointer (some ⟨q, 0, none⟩)) := F5.cell 1); (have s51 : w5.cell? ⟨b, 2, none⟩ = some (.int .i64 n) := (World.cell?_of_block (a := ⟨b, 2, none⟩) (HB4.out.keep_on hb5 b (.inr rfl))).trans s41))
                | (refine step_call_fn rfl 24 _ _ rfl #[.pointer (some ⟨q, 0, none⟩), .slice A5 m c5] (by rfl) (enters_of Try.func24 (by kernel_rfl) rfl) (RC.out w5 p' A5 c5 hB5 row5) ?_; rintro e w6 ⟨q', rfl, hB6, hb6⟩; refine ⟨_, rfl, ?_⟩; (have F6 := (hB5.keep_on hb6).full (g := x) F5 (.inl rfl)); (have s60 : w6.cell? ⟨x, 1, none⟩ = some (.pointer (some ⟨q, 0, none⟩)) := F6.cell 1); (have s6f : w6.frozen? ⟨x, 1, none⟩ = false := F6.frozen 1))
                | (fail "arm"))
            all_goals
              have hB7 := hB6.set_ (a := ⟨x, 1, none⟩) (.inl rfl) (.pointer (some ⟨q', 0, none⟩))
              have F7 : Full (w6.setCell ⟨x, 1, none⟩ (.pointer (some ⟨q', 0, none⟩))) x 30 [.pointer (some ⟨p', 0, none⟩), .pointer (some ⟨q', 0, none⟩)] := F6.set_ 1 _
              have s70 : (w6.setCell ⟨x, 1, none⟩ (.pointer (some ⟨q', 0, none⟩))).cell? ⟨x, 0, none⟩ = some (.pointer (some ⟨p', 0, none⟩)) := F7.cell 0
              have HD7 := Lib.hid (show Desk w (w6.setCell ⟨x, 1, none⟩ (.pointer (some ⟨q', 0, none⟩))) x (d.crash l) from ⟨p', q', hB7.less (fun g hg => .inl hg), F7⟩)
              clear hB7 F7 s60 s6f F6 hB6 hb6 hB5 hb5 row5
              go_wp2
              go_ret
              exact ⟨rfl, HD7.out⟩
        · rw [if_neg h7]
          have hwl := where_le off ho.2
          have hll := longL_len n text
          obtain ⟨wo, hwo⟩ : ∃ wo, whereP off = wo := ⟨_, rfl⟩
          rw [hwo] at WH hwl ⊢
          obtain ⟨L, hL⟩ : ∃ L, longL n text = L := ⟨_, rfl⟩
          rw [hL] at LG hll ⊢
          unfold StrB at LG
          have WR := Lib.hid (fun (W' : World) (hb : Both w W' p q d d (fun g => g = x ∨ g = b)) => (show Calls Try.prog 27 #[.pointer (some ⟨p, 0, none⟩), .int .i64 wo, .string (str L)] W' fun e W2 => e = .returned (.int .i64 (d.wErr wo L)) ∧ DPost w W' p q (d.write wo L) d (fun g => g = x ∨ g = b) W2 from hb.write (by omega) wo (str L) hwl (by rw [str_size]; unfold maxLen; omega)))
          have RW := Lib.hid (fun (W' : World) (hb : Both w W' p q (d.write wo L) d (fun g => g = x ∨ g = b)) => hb.rwrite (by omega) wo L hwl (by omega))
          obtain ⟨E, hE⟩ : ∃ E, d.wErr wo L = E := ⟨_, rfl⟩
          rw [hE] at WR RW
          obtain ⟨LS, hLS⟩ : ∃ LS, str L = LS := ⟨_, rfl⟩
          rw [hLS] at WR RW LG
          have e4 : ((K : Int) == 4) = false := by simp; omega
          have e5 : ((K : Int) == 5) = false := by simp; omega
          have e6 : ((K : Int) == 6) = false := by simp; omega
          have e7 : ((K : Int) == 7) = false := by simp; omega
          have sd := SX.out W1.drew HKD.out
          clear hwo hL hE hLS hwl hll
          go_enter Try.func16, Try.ntmps16
          go_upto_region 1 with fail
          clear hW1 hb
          go_upto_region 15 with (go_at_call 22; ((with_reducible refine (MD.out _).mono ?_); rintro e wz ⟨rfl, rfl⟩))
          go_region_held3 (fun w' => (w'.cell? ⟨x, 0, none⟩ = some (.pointer (some ⟨p, 0, none⟩)) ∧ w'.cell? ⟨x, 1, none⟩ = some (.pointer (some ⟨q, 0, none⟩))) ∧ w'.cell? ⟨b, 0, none⟩ = some (.int .i64 kind) ∧ w'.cell? ⟨b, 1, none⟩ = some (.int .i64 off) ∧ w'.cell? ⟨b, 2, none⟩ = some (.int .i64 n) ∧ w'.cell? ⟨b, 3, none⟩ = some (.string S))
            (first | (with_reducible exact sd) | (with_reducible exact s2) | (with_reducible exact s3) | (with_reducible exact s4) | (with_reducible exact s5) | (with_reducible exact s6) | (with_reducible exact s7) | (fail "keep"))
            (first
              | (go_at_call 34; ((with_reducible refine (WH.out W1.drew).mono ?_); rintro e w2 ⟨rfl, hb2⟩; (have hB2 := HBD.out.on hb2); (have HK2 := HKD.out.trans (HBD.out.keep_on hb2)); (have s2 := SX.out w2 HK2)))
              | (go_at_call 36; ((with_reducible refine (LG.out w2).mono ?_); rintro e w3 ⟨rfl, hb3⟩; (have hB3 := hB2.on hb3); (have HK3 := HK2.trans (hB2.keep_on hb3)); (have s3 := SX.out w3 HK3)))
              | (go_at_call 27; ((with_reducible refine (WR.out w3 hB3).mono ?_); rintro e w4 ⟨rfl, hB4, hk4⟩; (have HK4 := HK3.trans hk4); (have s4 := SX.out w4 HK4)))
              | (go_at_call 34; ((with_reducible refine (WH.out w4).mono ?_); rintro e w5 ⟨rfl, hb5⟩; (have hB5 := hB4.on hb5); (have HK5 := HK4.trans (hB4.keep_on hb5)); (have s5 := SX.out w5 HK5)))
              | (go_at_call 36; ((with_reducible refine (LG.out w5).mono ?_); rintro e w6 ⟨rfl, hb6⟩; (have hB6 := hB5.on hb6); (have HK6 := HK5.trans (hB5.keep_on hb6)); (have s6 := SX.out w6 HK6)))
              | (go_at_call 32; ((with_reducible refine (RW.out w6 hB6).mono ?_); rintro e w7 ⟨rfl, hB7, hk7⟩; (have HK7 := HK6.trans hk7); (have s7 := SX.out w7 HK7)))
              | (fail "arm"))
          go_wp2
          go_ret
          exact ⟨by simp, HPUT.out _ _ hB7 HK7⟩
end Go.Proofs.Ytigmmcmekklkfaa
