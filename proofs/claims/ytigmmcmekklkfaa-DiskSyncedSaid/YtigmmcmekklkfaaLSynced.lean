/- DiskSynced: what was synced survives every crash. For all arguments. -/
import Derived.Test.YtigmmcmekklkfaaKit2
namespace Go.Proofs.Ytigmmcmekklkfaa.lsynced
open Go.ChangeShapes Go.WideShapes Go.ChangeAt Go.RowKit

theorem put_take (c : List UInt8) (off : Nat) (s : List UInt8) (n : Nat) (h1 : n ≤ off) (h2 : n ≤ c.length) : (put c off s).take n = c.take n := by
  apply List.ext_getElem?
  intro i
  by_cases hi : i < n
  · rw [List.getElem?_take_of_lt hi, List.getElem?_take_of_lt hi, put_at, if_pos (by omega), if_pos (by omega)]
  · rw [List.getElem?_take_eq_none (by omega), List.getElem?_take_eq_none (by omega)]
theorem lay_take (q : List Int) (n : Nat) : ∀ (l : List Pc) (k : Nat) (c : List UInt8), (∀ x ∈ l, n ≤ x.1) → n ≤ c.length → (lay q k c l).take n = c.take n
  | [], _, _, _, _ => rfl
  | p :: t, k, c, h, hc => by
    rw [lay]
    have hp := h p List.mem_cons_self
    have ht := fun c' hc' => lay_take q n t (k + 1) c' (fun x hx => h x (List.mem_cons_of_mem _ hx)) hc'
    split
    · rw [ht _ (by rw [put_len]; omega), put_take _ _ _ _ hp hc]
    · exact ht _ hc
theorem tmod4 (x : Int) : -4 < x.tmod 4 ∧ x.tmod 4 < 4 := by
  have := Int.tmod_eq_emod (a := x) (b := 4)
  split at this <;> omega
/-- what the loop's writes keep -/
structure Small (d : Dk) : Prop where
  pw : d.pw = none
  len : d.now.length ≤ 500
theorem Small.new : Small Dk.new := ⟨rfl, by simp [Dk.new, Dk.now, putAll]⟩
theorem Small.write {d : Dk} (h : Small d) (off : Int) (s : List UInt8) (h1 : off < 300) (h2 : s.length ≤ 200) : Small (d.write off s) := by
  unfold Dk.write
  split
  · next e =>
    have hc : Dk.canW off s.length = true := by
      rcases Bool.eq_false_or_eq_true (Dk.canW off s.length) with hc | hc
      · exact hc
      · unfold Dk.wErr at e; rw [if_pos hc] at e; cases e
    have := (Dk.canW_iff off s.length).1 hc
    exact ⟨by simp [Dk.wrote, h.pw, Dk.less], by rw [Dk.wrote_now, put_len]; have := h.len; omega⟩
  · exact h
theorem Small.acted {d : Dk} (h : Small d) (off n : Int) (t : List UInt8) (h1 : off < 300) : Small (act d ⟨0, off, n, t⟩) := by
  have h0 : modN 0 8 = 0 := by decide
  unfold act
  dsimp only
  rw [h0, if_neg (by decide), if_neg (by decide), if_neg (by decide), if_neg (by decide)]
  refine h.write _ _ ?_ (longL_len _ _)
  unfold whereP
  split
  · omega
  · have := modN_lt (x := off) (m := 300) (by omega)
    omega
theorem Small.off {d : Dk} (h : Small d) : d.isOff = false := by unfold Dk.isOff; rw [h.pw]; rfl
/-- the law's mathematics -/
theorem stays {d : Dk} (h : Small d) (a b : Nat) (ha : a < 100) (hb : b < 150) (y : UInt8) (q : List Int) :
    d.sErr = 0 ∧ d.sync.now = d.now ∧ d.sync.wErr ((d.now.length : Int) + (a : Int)) (List.replicate b y) = 0 ∧ ((d.sync.write ((d.now.length : Int) + (a : Int)) (List.replicate b y)).crash q).read 0 (d.now.length : Int) = d.sync.read 0 (d.now.length : Int) := by
  have hl := h.len
  have ho := h.off
  have e1 : d.sync = d.synced := by unfold Dk.sync; rw [ho]; rfl
  have e2 : d.synced.isOff = false := by unfold Dk.isOff Dk.synced; rw [h.pw]; rfl
  have e3 : d.sync.wErr ((d.now.length : Int) + (a : Int)) (List.replicate b y) = 0 := by
    unfold Dk.wErr
    rw [if_neg (by rw [(Dk.canW_iff _ _).2 ⟨by omega, by rw [List.length_replicate]; omega⟩]; simp), e1, e2]
    rfl
  refine ⟨by unfold Dk.sErr; rw [ho]; rfl, by rw [e1]; rfl, e3, ?_⟩
  unfold Dk.write
  rw [if_pos e3, e1]
  have e4 : ((d.now.length : Int) + (a : Int)).toNat = d.now.length + a := by omega
  rw [e4]
  unfold Dk.read
  rw [Dk.crash_now]
  have e5 : (d.synced.wrote (d.now.length + a) (List.replicate b y)).left q = lay q 0 d.now (partsOf (d.now.length + a, List.replicate b y)) := by
    unfold Dk.left Dk.wrote Dk.synced allParts; simp
  rw [e5, Dk.synced_now]
  split
  · rw [show Int.toNat 0 = 0 from rfl, List.drop_zero, List.drop_zero, Int.toNat_natCast]
    exact lay_take q _ _ _ _ (fun x hx => by have := (partsOf_in hx).1; simp at this; omega) (Nat.le_refl _)
  · rfl

set_option maxRecDepth 100000 in
set_option maxHeartbeats 8000000 in
theorem walk (A : Option Addr) (us : List At) (c : Nat) (t0 t1 : Int) (P : Option Addr) (l1 : List Int) (cp : Nat) (w : World) (hA : Acts w w.heap.size A c us) (hl : us.length ≤ maxLen)
    (hP : Row w w.heap.size 1 P l1.length cp (intC l1)) (hl1 : l1.length ≤ maxLen) :
    Calls Try.prog 6 #[.slice A us.length c, .agg #[.int .i64 t0, .int .i64 t1], .slice P l1.length cp] w (BoolB w true) := by
  obtain ⟨wB, hwB⟩ : ∃ wB, w.alloc (.cells #[.int .i64 t0, .int .i64 t1] 42) = wB := ⟨_, rfl⟩
  have hbB : Below w.heap.size w wB := by rw [← hwB]; exact (Below.refl _ w).alloc (Nat.le_refl _) _
  have FB : Full wB w.heap.size 42 [.int .i64 t0, .int .i64 t1] := by rw [← hwB]; exact Full.new w 42 _
  have S := Lib.hid (sane_any wB)
  have ND := Lib.hid (fun W => new_any W)
  have NR := Lib.hid (fun W => refNew_any W)
  unfold BoolB at S ⊢
  have HBB := Lib.hid hbB
  have HA := Lib.hid hA
  have RP := Lib.hid (fun (W : World) (hb : Below wB.heap.size wB W) => Row.below hP (Below.then_ hbB hb) (Nat.le_refl _))
  obtain ⟨m1, hm1⟩ : ∃ m, l1.length = m := ⟨_, rfl⟩
  rw [hm1] at RP hl1 ⊢
  have HL1 := Lib.hid hl1
  have M100 := Lib.hid (fun W' => (show Calls Try.prog 22 #[.int .i64 t0, .int .i64 100] W' fun e w' => e = .returned (.int .i64 (modN t0 100 : Int)) ∧ W' = w' from mod_any t0 100 W' (by omega) (by omega)))
  have M150 := Lib.hid (fun W' => (show Calls Try.prog 22 #[.int .i64 t1, .int .i64 150] W' fun e w' => e = .returned (.int .i64 (modN t1 150 : Int)) ∧ W' = w' from mod_any t1 150 W' (by omega) (by omega)))
  have hm100 := modN_lt (x := t0) (m := 100) (by omega)
  have hm150 := modN_lt (x := t1) (m := 150) (by omega)
  obtain ⟨ka, hka⟩ : ∃ k, modN t0 100 = k := ⟨_, rfl⟩
  obtain ⟨kb, hkb⟩ : ∃ k, modN t1 150 = k := ⟨_, rfl⟩
  rw [hka] at M100 hm100
  rw [hkb] at M150 hm150
  have RPT := Lib.hid (fun W => (show Calls Try.prog 26 #[.int .u8 121, .int .i64 (kb : Int)] W (StrB W (str (List.replicate kb 121))) from repeated_any 121 kb W (by omega)))
  unfold StrB at RPT
  obtain ⟨bb, hbb⟩ : ∃ b, w.heap.size = b := ⟨_, rfl⟩
  rw [hbb] at FB
  have CB := Lib.hid (fun (W : World) (h : Below wB.heap.size wB W) => (show W.cell? ⟨bb, 0, none⟩ = some (.int .i64 t0) ∧ W.cell? ⟨bb, 1, none⟩ = some (.int .i64 t1) from ⟨(FB.on h).cell 0, (FB.on h).cell 1⟩))
  have ka0 : (0 : Int) ≤ (ka : Int) := Int.natCast_nonneg _
  have ka1 : (ka : Int) < 100 := by omega
  clear hP hm1 hl1 hka hkb FB hbB
  obtain ⟨n, hn⟩ : ∃ n, us.length = n := ⟨_, rfl⟩
  have HN := Lib.hid hn
  rw [hn] at hl ⊢
  unfold maxLen at hl
  have n0 : (0 : Int) ≤ (n : Int) := Int.natCast_nonneg _
  clear hA hn
  go_enter Try.func6, Try.ntmps6
  go_upto_region 1 with fail
  clear hwB hbb
  go_upto_region 3 with (first
    | (go_at_call 13; ((with_reducible refine S.out.mono ?_); rintro e w1 ⟨rfl, hb1⟩))
    | (go_at_call 14; ((with_reducible refine (ND.out w1).mono ?_); rintro e w2 ⟨p, rfl, hD2, hb2⟩))
    | (go_at_call 15; ((with_reducible refine (NR.out w2).mono ?_); rintro e w3 ⟨q, rfl, hR3, hb3⟩))
    | (fail "arm"))
  have HD0 := Lib.hid (desk_new hb1 hD2 hb2 hR3 hb3)
  obtain ⟨x, hx⟩ : ∃ x, w3.heap.size = x := ⟨_, rfl⟩
  obtain ⟨w4, hw4⟩ : ∃ w4, w3.alloc (.cells #[.pointer (some ⟨p, 0, none⟩), .pointer (some ⟨q, 0, none⟩)] 30) = w4 := ⟨_, rfl⟩
  have FX : Full w4 w3.heap.size 30 [.pointer (some ⟨p, 0, none⟩), .pointer (some ⟨q, 0, none⟩)] := by rw [← hw4]; exact Full.new w3 30 _
  rw [hx] at FX HD0 ⊢
  rw [hw4] at HD0 ⊢
  have x0 : w4.cell? ⟨x, 0, none⟩ = some (.pointer (some ⟨p, 0, none⟩)) := FX.cell 0
  have HD0' := Lib.hid (show ∃ d : Dk, (d.calls ≤ 0 ∧ Small d) ∧ Desk wB w4 x d from ⟨Dk.new, ⟨Nat.le_refl _, Small.new⟩, HD0.out⟩)
  clear hx hw4 FX hD2 hR3 hb2 hb3 HD0
  go_wp2
  go_loopw [9] (fun v5 wr => ∃ k : Nat, v5 = .int .i64 (k : Int) ∧ k ≤ n ∧ k ≤ 10 ∧ Hid (∃ d : Dk, (d.calls ≤ k ∧ Small d) ∧ Desk wB wr x d)) (fun v5 _ => n - (intOf v5).toNat)
  case atStart => exact ⟨0, rfl, by omega, by omega, HD0'⟩
  case round =>
    obtain ⟨k, rfl, hk, hk10, H⟩ := hrel
    have k0 : (0 : Int) ≤ (k : Int) := Int.natCast_nonneg _
    obtain ⟨d, ⟨hd, hsm⟩, hD⟩ := H.out
    by_cases hlt : k < n ∧ k < 10
    · obtain ⟨hkn, hk4⟩ := hlt
      have k1 : (k : Int) < (n : Int) := by omega
      have k4 : (k : Int) < 10 := by omega
      have hbW : Below w.heap.size w wr := Below.then_ HBB.out hD.bel
      have hku : k < us.length := by have := HN.out; omega
      obtain ⟨ad, rfl, hadl, ⟨a0, a1, a2, a3⟩, hfit⟩ := (HA.out.on hbW).at_ hku
      obtain ⟨⟨kd, of, nn, tx⟩, hu⟩ : ∃ u : At, us[k] = u := ⟨_, rfl⟩
      rw [hu] at a0 a1 a2 a3 hfit
      dsimp only at a0 a1 a2 a3
      have ht4 := tmod4 of
      obtain ⟨o4, ho4⟩ : ∃ o, of.tmod 4 = o := ⟨_, rfl⟩
      rw [ho4] at ht4
      have hDd := hD.drewN 1
      have DO := do_any hDd (by omega) ⟨0, o4, nn, tx⟩ ⟨by dsimp only; omega, hfit.n, hfit.text⟩
      have hac := act_calls d ⟨0, o4, nn, tx⟩
      have hsm2 := hsm.acted o4 nn tx (by omega)
      unfold actV at DO
      dsimp only at DO
      obtain ⟨T, hT⟩ : ∃ T, str tx = T := ⟨_, rfl⟩
      rw [hT] at DO a3
      obtain ⟨d2, hd2⟩ : ∃ d2, act d ⟨0, o4, nn, tx⟩ = d2 := ⟨_, rfl⟩
      rw [hd2] at DO hac hsm2
      have DO' := Lib.hid (show Calls Try.prog 16 #[.pointer (some ⟨x, 0, none⟩), .agg #[.int .i64 0, .int .i64 o4, .int .i64 nn, .string T]] wr.drew fun e W' => e = .returned (.bool true) ∧ Desk wB W' x d2 from DO)
      have hHA : ∀ W, Desk wB W x d2 → (W.cell? ⟨(ad.add (k * 4)).block, (ad.add (k * 4)).off + 1, none⟩ = some (.int .i64 of) ∧ W.cell? ⟨(ad.add (k * 4)).block, (ad.add (k * 4)).off + 2, none⟩ = some (.int .i64 nn) ∧ W.cell? ⟨(ad.add (k * 4)).block, (ad.add (k * 4)).off + 3, none⟩ = some (.string T)) := fun W hW => by
        obtain ⟨ad2, e2, _, ⟨_, b1, b2, b3⟩, _⟩ := (HA.out.on (Below.then_ HBB.out hW.bel)).at_ hku
        obtain rfl : ad = ad2 := by simpa using e2
        rw [hu] at b1 b2 b3
        dsimp only at b1 b2 b3
        rw [hT] at b3
        exact ⟨b1, b2, b3⟩
      have HHA := Lib.hid hHA
      have sd : wr.drew.cell? ⟨(ad.add (k * 4)).block, (ad.add (k * 4)).off + 1, none⟩ = some (.int .i64 of) ∧ wr.drew.cell? ⟨(ad.add (k * 4)).block, (ad.add (k * 4)).off + 2, none⟩ = some (.int .i64 nn) ∧ wr.drew.cell? ⟨(ad.add (k * 4)).block, (ad.add (k * 4)).off + 3, none⟩ = some (.string T) := ⟨a1, a2, a3⟩
      clear DO hT hd2 hfit hbW hD hDd H hHA a0 a1 a2 a3 hu hsm
      go_upto_region 8 with fail
      go_region_held3 (fun w' => w'.cell? ⟨(ad.add (k * 4)).block, (ad.add (k * 4)).off + 1, none⟩ = some (.int .i64 of) ∧ w'.cell? ⟨(ad.add (k * 4)).block, (ad.add (k * 4)).off + 2, none⟩ = some (.int .i64 nn) ∧ w'.cell? ⟨(ad.add (k * 4)).block, (ad.add (k * 4)).off + 3, none⟩ = some (.string T))
        (first | (with_reducible exact sd) | (with_reducible exact s6) | (fail "keep"))
        (first
          | (go_at_call 16; ((with_reducible refine DO'.out.mono ?_); rintro e w6 ⟨rfl, hD6⟩; (have s6 := HHA.out w6 hD6)))
          | (fail "arm"))
      have HD6 := Lib.hid hD6
      clear hD6 s6 sd
      go_wp2
      go_roundw
      case rel => exact ⟨k + 1, by go_num, by omega, by omega, Lib.hid ⟨d2, ⟨by omega, hsm2⟩, HD6.out⟩⟩
      case measure => simp [intOf]; omega
    · obtain ⟨p, q, hB, hX⟩ := hD
      obtain ⟨e1, e2, e3, e4⟩ := stays hsm ka kb hm100 hm150 121 l1
      have hll := hsm.len
      have SY := Lib.hid (hB.sync (by omega))
      have hc1 := sync_calls d
      have SZ := Lib.hid (fun (W : World) (h : Both wB W p q d.sync d (fun g => g = x)) => h.size)
      have RE := Lib.hid (fun (W : World) (h : Both wB W p q d.sync d (fun g => g = x)) => h.read 0 (d.now.length : Int))
      have WR := Lib.hid (fun (W : World) (h : Both wB W p q d.sync d (fun g => g = x)) => (show Calls Try.prog 27 #[.pointer (some ⟨p, 0, none⟩), .int .i64 ((d.now.length : Int) + (ka : Int)), .string (str (List.replicate kb 121))] W fun e W' => e = .returned (.int .i64 0) ∧ DPost wB W p q (d.sync.write ((d.now.length : Int) + (ka : Int)) (List.replicate kb 121)) d (fun g => g = x) W' from
        e3 ▸ h.write (by omega) ((d.now.length : Int) + (ka : Int)) (str (List.replicate kb 121)) (by omega) (by rw [str_size, List.length_replicate]; unfold maxLen; omega)))
      have hc2 := write_calls d.sync ((d.now.length : Int) + (ka : Int)) (List.replicate kb 121)
      obtain ⟨d3, hd3⟩ : ∃ d3, d.sync.write ((d.now.length : Int) + (ka : Int)) (List.replicate kb 121) = d3 := ⟨_, rfl⟩
      rw [hd3] at WR hc2 e4
      have CR := Lib.hid (fun (W : World) (h : Both wB W p q d3 d (fun g => g = x)) => h.crash (by omega) (RP.out W h.bel) (Nat.le_trans HBB.out.size h.bel.size) HL1.out)
      unfold CPost at CR
      have RF := Lib.hid (fun (W : World) (p' : Nat) (h : Both wB W p' q (d3.crash l1) d (fun g => g = x)) => h.read 0 (d.now.length : Int))
      rw [e4] at RF
      rw [e1] at SY
      rw [e2] at SZ
      obtain ⟨N, hN⟩ : ∃ N, d.now.length = N := ⟨_, rfl⟩
      rw [hN] at SZ RE WR RF hll
      obtain ⟨R, hR⟩ : ∃ R, str (d.sync.read 0 (N : Int)) = R := ⟨_, rfl⟩
      rw [hR] at RE RF
      have N0 : (0 : Int) ≤ (N : Int) := Int.natCast_nonneg _
      have N1 : (N : Int) ≤ 500 := by omega
      have hwz : IntKind.i64.wrap ((N : Int) + (ka : Int)) = (N : Int) + (ka : Int) := IntWalk.i64_in _ (by omega)
      rw [← hwz] at WR
      obtain ⟨T, hT⟩ : ∃ T, str (List.replicate kb (121 : UInt8)) = T := ⟨_, rfl⟩
      rw [hT] at WR RPT
      have HX0 := Lib.hid hX
      have c0 : wr.cell? ⟨x, 0, none⟩ = some (.pointer (some ⟨p, 0, none⟩)) := hX.cell 0
      clear hB hX H hsm hd3 hN hR hwz hT e1 e2 e3 e4
      have hcond : ¬ ((k : Int) < (n : Int)) ∨ k = 10 := by omega
      by_cases hkn : k < n
      · obtain rfl : k = 10 := by omega
        have k1 : ((10 : Nat) : Int) < (n : Int) := by omega
        clear hcond
        go_upto_region 14 with (first
          | (go_at_call 28; ((with_reducible refine SY.out.mono ?_); rintro e w1 ⟨rfl, hB1, hk1⟩; (have HB1 := Lib.hid hB1); (have HX1 := Lib.hid (hk1.full HX0.out rfl)); (have c10 : w1.cell? ⟨x, 0, none⟩ = some (.pointer (some ⟨p, 0, none⟩)) := HX1.out.cell 0)))
          | (go_at_call 17; ((with_reducible refine (SZ.out w1 hB1).mono ?_); rintro e wz ⟨rfl, rfl⟩))
          | (go_at_call 29; ((with_reducible refine (RE.out w1 hB1).mono ?_); rintro e wz ⟨rfl, rfl⟩))
          | (fail "arm"))
        have HB1d := Lib.hid (show Both wB w1.drew p q d.sync d (fun g => g = x) from HB1.out.drewN 1)
        have HX1d := Lib.hid (show Full w1.drew x 30 [.pointer (some ⟨p, 0, none⟩), .pointer (some ⟨q, 0, none⟩)] from HX1.out.drewN 1)
        have s1 : w1.drew.cell? ⟨x, 0, none⟩ = some (.pointer (some ⟨p, 0, none⟩)) ∧ w1.drew.cell? ⟨bb, 0, none⟩ = some (.int .i64 t0) ∧ w1.drew.cell? ⟨bb, 1, none⟩ = some (.int .i64 t1) := ⟨HX1d.out.cell 0, CB.out _ HB1d.out.bel⟩
        clear hB1 hk1 c10
        go_region_held3 (fun w' => w'.cell? ⟨x, 0, none⟩ = some (.pointer (some ⟨p, 0, none⟩)) ∧ w'.cell? ⟨bb, 0, none⟩ = some (.int .i64 t0) ∧ w'.cell? ⟨bb, 1, none⟩ = some (.int .i64 t1))
          (first | (with_reducible exact s1) | (with_reducible exact s2) | (with_reducible exact s3) | (fail "keep"))
          (first
            | (go_at_call 22; ((with_reducible refine (M100.out _).mono ?_); rintro e wz ⟨rfl, rfl⟩))
            | (go_at_call 22; ((with_reducible refine (M150.out _).mono ?_); rintro e wz ⟨rfl, rfl⟩))
            | (go_at_call 26; ((with_reducible refine (RPT.out w1.drew).mono ?_); rintro e w2 ⟨rfl, hb2⟩; (have hB2 := HB1d.out.on hb2); (have HX2 := Lib.hid (HX1d.out.on hb2)); (have s2 : w2.cell? ⟨x, 0, none⟩ = some (.pointer (some ⟨p, 0, none⟩)) ∧ w2.cell? ⟨bb, 0, none⟩ = some (.int .i64 t0) ∧ w2.cell? ⟨bb, 1, none⟩ = some (.int .i64 t1) := ⟨HX2.out.cell 0, CB.out _ hB2.bel⟩)))
            | (go_at_call 27; ((with_reducible refine (WR.out w2 hB2).mono ?_); rintro e w3 ⟨rfl, hB3, hk3⟩; (have HX3 := Lib.hid (hk3.full HX2.out rfl)); (have s3 : w3.cell? ⟨x, 0, none⟩ = some (.pointer (some ⟨p, 0, none⟩)) ∧ w3.cell? ⟨bb, 0, none⟩ = some (.int .i64 t0) ∧ w3.cell? ⟨bb, 1, none⟩ = some (.int .i64 t1) := ⟨HX3.out.cell 0, CB.out _ hB3.bel⟩)))
            | (fail "arm"))
        have c30 : w3.cell? ⟨x, 0, none⟩ = some (.pointer (some ⟨p, 0, none⟩)) := HX3.out.cell 0
        have CC := Lib.hid (CR.out w3 hB3)
        clear s1 s2 s3 hk3 hB3 hB2 hb2
        go_wp2_with (first
          | (go_at_call 23; ((with_reducible refine CC.out.mono ?_); rintro e w4 ⟨p4, rfl, hB4, hb4⟩))
          | (go_at_call 29; ((with_reducible refine (RF.out w4 p4 hB4).mono ?_); rintro e wz ⟨rfl, rfl⟩))
          | (fail "arm"))
        go_ret
        exact ⟨by simp, Below.then_ HBB.out hB4.bel⟩
      · obtain rfl : k = n := by omega
        clear hcond
        go_upto_region 14 with (first
          | (go_at_call 28; ((with_reducible refine SY.out.mono ?_); rintro e w1 ⟨rfl, hB1, hk1⟩; (have HB1 := Lib.hid hB1); (have HX1 := Lib.hid (hk1.full HX0.out rfl)); (have c10 : w1.cell? ⟨x, 0, none⟩ = some (.pointer (some ⟨p, 0, none⟩)) := HX1.out.cell 0)))
          | (go_at_call 17; ((with_reducible refine (SZ.out w1 hB1).mono ?_); rintro e wz ⟨rfl, rfl⟩))
          | (go_at_call 29; ((with_reducible refine (RE.out w1 hB1).mono ?_); rintro e wz ⟨rfl, rfl⟩))
          | (fail "arm"))
        have HB1d := Lib.hid (show Both wB w1.drew p q d.sync d (fun g => g = x) from HB1.out.drewN 1)
        have HX1d := Lib.hid (show Full w1.drew x 30 [.pointer (some ⟨p, 0, none⟩), .pointer (some ⟨q, 0, none⟩)] from HX1.out.drewN 1)
        have s1 : w1.drew.cell? ⟨x, 0, none⟩ = some (.pointer (some ⟨p, 0, none⟩)) ∧ w1.drew.cell? ⟨bb, 0, none⟩ = some (.int .i64 t0) ∧ w1.drew.cell? ⟨bb, 1, none⟩ = some (.int .i64 t1) := ⟨HX1d.out.cell 0, CB.out _ HB1d.out.bel⟩
        clear hB1 hk1 c10
        go_region_held3 (fun w' => w'.cell? ⟨x, 0, none⟩ = some (.pointer (some ⟨p, 0, none⟩)) ∧ w'.cell? ⟨bb, 0, none⟩ = some (.int .i64 t0) ∧ w'.cell? ⟨bb, 1, none⟩ = some (.int .i64 t1))
          (first | (with_reducible exact s1) | (with_reducible exact s2) | (with_reducible exact s3) | (fail "keep"))
          (first
            | (go_at_call 22; ((with_reducible refine (M100.out _).mono ?_); rintro e wz ⟨rfl, rfl⟩))
            | (go_at_call 22; ((with_reducible refine (M150.out _).mono ?_); rintro e wz ⟨rfl, rfl⟩))
            | (go_at_call 26; ((with_reducible refine (RPT.out w1.drew).mono ?_); rintro e w2 ⟨rfl, hb2⟩; (have hB2 := HB1d.out.on hb2); (have HX2 := Lib.hid (HX1d.out.on hb2)); (have s2 : w2.cell? ⟨x, 0, none⟩ = some (.pointer (some ⟨p, 0, none⟩)) ∧ w2.cell? ⟨bb, 0, none⟩ = some (.int .i64 t0) ∧ w2.cell? ⟨bb, 1, none⟩ = some (.int .i64 t1) := ⟨HX2.out.cell 0, CB.out _ hB2.bel⟩)))
            | (go_at_call 27; ((with_reducible refine (WR.out w2 hB2).mono ?_); rintro e w3 ⟨rfl, hB3, hk3⟩; (have HX3 := Lib.hid (hk3.full HX2.out rfl)); (have s3 : w3.cell? ⟨x, 0, none⟩ = some (.pointer (some ⟨p, 0, none⟩)) ∧ w3.cell? ⟨bb, 0, none⟩ = some (.int .i64 t0) ∧ w3.cell? ⟨bb, 1, none⟩ = some (.int .i64 t1) := ⟨HX3.out.cell 0, CB.out _ hB3.bel⟩)))
            | (fail "arm"))
        have c30 : w3.cell? ⟨x, 0, none⟩ = some (.pointer (some ⟨p, 0, none⟩)) := HX3.out.cell 0
        have CC := Lib.hid (CR.out w3 hB3)
        clear s1 s2 s3 hk3 hB3 hB2 hb2
        go_wp2_with (first
          | (go_at_call 23; ((with_reducible refine CC.out.mono ?_); rintro e w4 ⟨p4, rfl, hB4, hb4⟩))
          | (go_at_call 29; ((with_reducible refine (RF.out w4 p4 hB4).mono ?_); rintro e wz ⟨rfl, rfl⟩))
          | (fail "arm"))
        go_ret
        exact ⟨by simp, Below.then_ HBB.out hB4.bel⟩

theorem contract (H : Type) (enc : TypeId × Value → H) (W : World) (base : Nat) (args : Array Value) (ds gs : List (DataW H)) (before : List MemPlace)
    (hval : ∀ (j : Nat) t v, Try.f6.params[j]? = some t → args[j]? = some v → Value.okWide Try.prog W .any base t v)
    (hW : DataW.Whole enc Try.prog Try.f6.params.toList Rows.diskSyncedSpec.vars false W args.toList ds gs before) :
    Calls Try.prog 6 args W fun e W' => ∃ v, e = .returned v ∧ Rows.diskSyncedSpec.post enc Try.prog Try.f6 false true false false W args v W' := by
  have hW' := hW
  obtain ⟨p, q, hA0, hV, rfl, hfz, hnd⟩ := hW
  have hA : DataW.TrodAll enc Try.prog W 0 (fun _ => true) true Try.f6.params.toList args.toList ds p := hA0
  rw [Try.params6] at hA hval
  obtain ⟨v0, vs0, d0, ds0, p0, q0, e0, rfl, rfl, h0, r0⟩ := trodAll_cons hA
  obtain ⟨v1, vs1, d1, ds1, p1, q1, e1, rfl, rfl, h1, r1⟩ := trodAll_cons r0
  obtain ⟨v2, vs2, d2, ds2, p2, q2, e2, rfl, rfl, h2, r2⟩ := trodAll_cons r1
  obtain ⟨rfl, rfl, rfl⟩ := trodAll_nil r2
  obtain rfl : args = #[v0, v1, v2] := by cases args; simp_all
  obtain ⟨rfl, rfl⟩ := trodVars_none hV
  obtain ⟨A, us, c, rfl, hA2, hl⟩ := open_acts h0 (hval 0 22 v0 rfl rfl)
  obtain ⟨x, y, rfl, hx, hy⟩ := open_pair (hval 1 42 v1 rfl rfl) h1
  obtain ⟨P, l1, cp, rfl, hP, hl1⟩ := open_ints h2 (hval 2 36 v2 rfl rfl)
  refine (walk A us c x y P l1 cp W hA2 hl hP hl1).mono fun e W' ⟨he, hb⟩ => ⟨_, he, law_post rfl rfl ?_ rfl rfl rfl hW' hb⟩
  rw [Try.params6]
  intro t ht
  have ht' : t = 22 ∨ t = 42 ∨ t = 36 := by simpa using ht
  rcases ht' with rfl | rfl | rfl <;> exact ⟨by kernel_rfl, of_decide_eq_true (by kernel_rfl)⟩

set_option maxRecDepth 100000 in
theorem lifted (os : Os) (started : os.Started) (H : Type) (enc : TypeId × Value → H) :
    ReturnsInHanded {} Try.checked os 6 .any (Rows.diskSyncedSpec.pre6 enc Try.prog Try.f6 Rows.diskSyncedRow.domain false) (Rows.diskSyncedSpec.post enc Try.prog Try.f6 false true false false) := by
  refine returnsInHanded_of_change (C := Try.checked) ownKnob_none started (by kernel_rfl) Try.func6
    (ChangeSpec.witness6 (enc := enc) (C := Try.checked) false ⟨#[], #[.slice none 0 0, .agg #[.int .i64 0, .int .i64 0], .slice none 0 0], []⟩ 8 (by kernel_rfl) (by kernel_rfl) (by kernel_rfl) (by kernel_rfl)) ?_
  intro W base args ds gs before hval hW _ _
  exact contract H enc W base args ds gs before hval hW

theorem proved : Rows.DiskSyncedSaid :=
  OpenClaim.holds_of_wide 6 Try.f6 rfl rfl rfl rfl rfl rfl rfl ⟨rfl, rfl, rfl, rfl, rfl⟩ rfl rfl rfl rfl rfl (by kernel_rfl) Try.func6 (by kernel_rfl)
    (of_decide_eq_true (by kernel_rfl)) (by unfold Func.isWrapper; first | (rw [if_pos (by decide +kernel)]; kernel_rfl) | (rw [if_neg (by decide +kernel)]; exact ⟨rfl, rfl⟩))
    (fun os started H enc _ => lifted os started H enc)

end Go.Proofs.Ytigmmcmekklkfaa.lsynced
