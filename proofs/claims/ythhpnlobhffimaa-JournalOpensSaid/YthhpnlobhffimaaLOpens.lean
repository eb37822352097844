/- JournalOpens: Open of any contents returns the records of the reference, and makes the same contents. For all arguments. -/
import Derived.Test.YthhpnlobhffimaaJTrip
import Derived.Deep.CutRange
import Derived.Deep.RegionHeld3
import Derived.Deep.RegionHeldLaw
import Derived.BigQuiet
namespace Go.Proofs.Ythhpnlobhffimaa.lopens
set_option maxRecDepth 100000
open Go.ChangeShapes Go.WideShapes Go.ChangeAt Go.RowKit Go.Proofs.Ythhpnlobhffimaa.lbytes

/-- the program's and the reference's journal on the same contents -/
def BodyS (w : World) (e : Ending) (w' : World) : Prop := ∃ Bd : ByteArray, e = .returned (.string Bd) ∧ 1 ≤ Bd.size ∧ Bd.size ≤ 320 ∧ Below w.heap.size w w'
theorem body_s (s : ByteArray) (hs : s.size ≤ 300) (w : World) : Calls Try.prog 30 #[.string s] w (BodyS w) := by
  refine (refBody_any s w (by omega)).mono ?_
  rintro e w' ⟨he, hb⟩
  have h1 := body_small s.data.toList 300 (by rw [data_len]; exact hs) (by decide)
  have h2 := body_len s.data.toList
  exact ⟨_, he, by rw [str_size]; omega, by rw [str_size]; omega, hb⟩

set_option maxRecDepth 100000 in
set_option maxHeartbeats 16000000 in
theorem walk (A : Option Addr) (l : List Trip) (c : Nat) (tl : ByteArray) (w : World) (hA : Trips w w.heap.size A c l) (hl : l.length ≤ maxLen) (hs : tl.size ≤ maxLen) :
    Calls Try.prog 5 #[.slice A l.length c, .string tl] w (BoolB w true) := by
  have S := Lib.hid (sane_any w)
  have NW := Lib.hid (fun (W : World) (h : Below w.heap.size w W) => new_side h)
  have RN := Lib.hid (fun (W : World) => refNew_any W)
  have DN := Lib.hid (fun (W2 W3 : World) (p q : Nat) (X : Nat → Prop) (hS : Side w W2 p Dk.new X) (hR : IsR W2.heap.size W3 q Dk.new (fun g => g = q)) (hb : Below W2.heap.size W2 W3) => duo_new hS hR hb)
  have RA := Lib.hid record_any
  have BA := Lib.hid body_s
  unfold SmallS at RA
  unfold BodyS at BA
  have HA := Lib.hid hA
  have hcap : l.length ≤ c := hA.2.1
  obtain ⟨n, hn⟩ : ∃ n, l.length = n := ⟨_, rfl⟩
  have HN := Lib.hid hn
  have hlm : (n : Int) ≤ 9223372036854775807 := by rw [← hn]; unfold maxLen at hl; omega
  rw [hn] at hcap ⊢
  obtain ⟨m, hm⟩ : ∃ m, min n 12 = m := ⟨_, rfl⟩
  have HM := Lib.hid hm
  have hm12 : m ≤ 12 := by omega
  have hmn : m ≤ n := by omega
  unfold maxLen at hs
  obtain ⟨tk, htk, htk1, htk2⟩ : ∃ k : Nat, min (tl.size : Int) 40 = (k : Int) ∧ k ≤ tl.size ∧ k ≤ 40 := ⟨min tl.size 40, by omega, by omega, by omega⟩
  obtain ⟨T, hT⟩ : ∃ T, tl.extract 0 tk = T := ⟨_, rfl⟩
  have hTs : T.size ≤ 40 := by rw [← hT, ByteArray.size_extract]; omega
  have t0 : (0 : Int) ≤ (tk : Int) := Int.natCast_nonneg _
  have t1 : (tk : Int) ≤ (tl.size : Int) := by omega
  have hts2 : (tl.size : Int) ≤ 9223372036854775807 := by omega
  unfold BoolB at S ⊢
  clear hn hl hA hm
  go_enter Try.func5, Try.ntmps5
  go_upto_region 4 with (first
    | (go_at_call 12; ((with_reducible refine S.out.mono ?_); rintro e w1 ⟨rfl, hb1⟩))
    | (fail "arm"))
  have HB1 := Lib.hid hb1
  have Z0 : Hid (Below w.heap.size w w1) := HB1
  clear hb1 S
  go_loopw [6, 7] (fun v6 v7 wr => ∃ (k : Nat) (F : ByteArray), v6 = .string F ∧ v7 = .int .i64 (k : Int) ∧ k ≤ m ∧ F.size ≤ 330 * k ∧ Hid (Below w.heap.size w wr)) (fun _ v7 _ => m - (intOf v7).toNat)
  case atStart => exact ⟨0, ⟨#[]⟩, rfl, rfl, Nat.zero_le _, Nat.le_refl _, Z0⟩
  case round =>
    obtain ⟨k, F, rfl, rfl, hk, hF, HB⟩ := hrel
    have k0 : (0 : Int) ≤ (k : Int) := Int.natCast_nonneg _
    go_upto_region 4 with fail
    go_cut [25] from 18 to 25 (fun c wx => c = .bool (decide (k < m)) ∧ wx = wr)
    case first =>
      by_cases h1 : k < n
      · have i1 : (k : Int) < (n : Int) := by omega
        by_cases h2 : k < 12
        · have i2 : (k : Int) < 12 := by omega
          go_wp2
          go_meet
          case rel => exact ⟨congrArg Value.bool (decide_eq_true (p := k < m) (by have := HM.out; omega)).symm, rfl⟩
        · have i2 : ¬ (k : Int) < 12 := by omega
          go_wp2
          go_meet
          case rel => exact ⟨congrArg Value.bool (decide_eq_false (p := k < m) (by omega)).symm, rfl⟩
      · have i1 : ¬ (k : Int) < (n : Int) := by omega
        go_wp2
        go_meet
        case rel => exact ⟨congrArg Value.bool (decide_eq_false (p := k < m) (by omega)).symm, rfl⟩
    case rest =>
      obtain ⟨rfl, rfl⟩ := hcut
      obtain ⟨wq, hwq⟩ : ∃ wq, wc = wq := ⟨_, rfl⟩
      rw [hwq] at HB ⊢
      clear hwq
      by_cases hlt : k < m
      · have dt : decide (k < m) = true := decide_eq_true hlt
        rw [dt]
        have k1 : (k : Int) < (n : Int) := by omega
        obtain ⟨ad, x, y, z, rfl, hadl, c0, c1, c2⟩ := (HA.out.on HB.out).at_ (k := k) (by rw [HN.out]; omega)
        have hsz := HB.out.size
        have hwl : ad.block < wq.heap.size := Nat.lt_of_lt_of_le hadl hsz
        have kp := fun (o : Nat) (v : Value) (W : World) (hb : Below wq.heap.size wq W) (e : wq.cell? ⟨ad.block, o, none⟩ = some v) => (show W.cell? ⟨ad.block, o, none⟩ = some v from (hb.cell (by exact hwl)).trans e)
        have SD : wq.drew.cell? (ad.add (k * 3)) = some (.int .i64 x) ∧ wq.drew.cell? ⟨(ad.add (k * 3)).block, (ad.add (k * 3)).off + 1, none⟩ = some (.int .i64 y) := ⟨c0, c1⟩
        have SW := Lib.hid (fun (W : World) (hb : Below wq.heap.size wq W) => (show (W.cell? (ad.add (k * 3)) = some (.int .i64 x) ∧ W.cell? ⟨(ad.add (k * 3)).block, (ad.add (k * 3)).off + 1, none⟩ = some (.int .i64 y)) ∧ W.cell? ⟨(ad.add (k * 3)).block, (ad.add (k * 3)).off + 2, none⟩ = some (.int .i64 z) from
          ⟨⟨(hb.cell (by show (ad.add (k * 3)).block < _; rw [add_block]; exact hwl)).trans c0, (hb.cell (by show (ad.add (k * 3)).block < _; rw [add_block]; exact hwl)).trans c1⟩, (hb.cell (by show (ad.add (k * 3)).block < _; rw [add_block]; exact hwl)).trans c2⟩))
        have RR := Lib.hid (fun (W : World) => RA.out x y W)
        clear kp c0 c1 c2 hadl hwl
        go_upto_region 6 with fail
        go_region_held3 (fun w' => w'.cell? (ad.add (k * 3)) = some (.int .i64 x) ∧ w'.cell? ⟨(ad.add (k * 3)).block, (ad.add (k * 3)).off + 1, none⟩ = some (.int .i64 y))
          (first | (with_reducible exact SD) | (with_reducible exact S3) | (fail "keep"))
          (first
            | (go_at_call 29; ((with_reducible refine (RR.out wq.drew).mono ?_); rintro e w3 ⟨r, rfl, hr3, hb3⟩; (have hb3' : Below wq.heap.size wq w3 := Below.then_ ((Below.refl _ wq).drew) hb3); (have S3 := (SW.out w3 hb3').1); (have c3 := (SW.out w3 hb3').2)))
            | (fail "arm"))
        obtain ⟨t, ht, hz⟩ := and_small z 15 (by decide)
        have hz : bits .and .i64 z 15 = (t : Int) := hz
        have HB3 := Lib.hid (Below.then_ HB.out hb3')
        have hB := BA.out r hr3
        have HBA := Lib.hid (fun (W : World) => hB W)
        clear hb3 hb3' S3 SD hB RR SW BA
        rcases (show t = 14 ∨ t = 15 ∨ ((t : Int) == 14) = false ∧ ((t : Int) == 15) = false by
          by_cases h4 : t = 14
          · exact .inl h4
          · by_cases h5 : t = 15
            · exact .inr (.inl h5)
            · exact .inr (.inr ⟨by simp; omega, by simp; omega⟩)) with rfl | rfl | ⟨h4, h5⟩
        · have hsum : (F.size : Int) + (r.size : Int) ≤ 9223372036854775807 := by omega
          go_wp2_with fail
          go_roundw
          case rel => exact ⟨k + 1, F ++ r, rfl, by go_num, by omega, by rw [ByteArray.size_append]; omega, HB3⟩
          case measure => simp [intOf]; omega
        · go_wp2_with (go_at_call 30; ((with_reducible refine (HBA.out _).mono ?_); rintro e w4 ⟨Bd, rfl, hB1, hB2, hb4⟩; (obtain ⟨Q, hQ⟩ : ∃ Q, Bd.extract 1 Bd.size = Q := ⟨_, rfl⟩); (have hQz : Q.size ≤ 320 := by rw [← hQ, ByteArray.size_extract]; omega)))
          have HB4 := Lib.hid (Below.then_ HB3.out hb4)
          clear hb4
          go_roundw
          case rel => exact ⟨k + 1, _, rfl, by go_num, by omega, by simp only [ByteArray.size_append]; have : (⟨#[1]⟩ : ByteArray).size = 1 := rfl; omega, HB4⟩
          case measure => simp [intOf]; omega
        · go_wp2_with (go_at_call 30; ((with_reducible refine (HBA.out _).mono ?_); rintro e w4 ⟨Bd, rfl, hB1, hB2, hb4⟩))
          have HB4 := Lib.hid (Below.then_ HB3.out hb4)
          clear hb4
          go_roundw
          case rel => exact ⟨k + 1, _, rfl, by go_num, by omega, by simp only [ByteArray.size_append]; have : (⟨#[1]⟩ : ByteArray).size = 1 := rfl; omega, HB4⟩
          case measure => simp [intOf]; omega
      · obtain rfl : k = m := by omega
        have df : decide (k < k) = false := decide_eq_false hlt
        rw [df]
        have hFz : F.size ≤ 3960 := by omega
        have hfs : (F.size : Int) + (T.size : Int) ≤ 9223372036854775807 := by omega
        obtain ⟨G, hG⟩ : ∃ G, F ++ T = G := ⟨_, rfl⟩
        have hGz : G.size ≤ 4000 := by rw [← hG, ByteArray.size_append]; omega
        have hw := w_on (d := Dk.new) 0 G.data.toList (by rw [data_len]; omega) rfl
        obtain ⟨D0, hD0⟩ : ∃ D0, Dk.new.write ((0 : Nat) : Int) G.data.toList = D0 := ⟨_, rfl⟩
        have hwD : D0 = Dk.new.wrote 0 G.data.toList := by rw [← hD0]; exact hw.2
        have g0 : D0.Good := by rw [hwD]; exact Dk.wrote_good Dk.new_good (by rw [data_len]; have : lim = 16777216 := rfl; omega)
        have p0 : D0.pw = none := by rw [hwD]; rfl
        have cl0 : D0.calls = 1 := by rw [hwD]; rfl
        have n0l : D0.now.length ≤ 4000 := by rw [hwD, Dk.wrote_now, put_len]; have : Dk.new.now.length = 0 := rfl; rw [this, data_len]; omega
        have O := open_on g0 p0
        have hrl : (recs D0.now).length ≤ 1000 := by have := fl_many (recs D0.now); have := fl_recs_le D0.now; omega
        have hjc : (openD D0).2.calls ≤ 3 := by have := O.2.2.2.2.1; omega
        have W1 := Lib.hid (fun (W : World) (p q : Nat) (h : Duo0 w W p q Dk.new Dk.new) => duo_write h (by decide) G (by omega) hw.1)
        have W2 := Lib.hid (fun (W : World) (p q : Nat) (h : Duo0 w W p q D0 Dk.new) => duo_rwrite h (by decide) G (by omega) hw.1)
        rw [show Dk.new.write 0 G.data.toList = D0 from hD0] at W1 W2
        obtain ⟨n0, hn0⟩ : ∃ n0, (recs D0.now).length = n0 := ⟨_, rfl⟩
        have O1 := Lib.hid (fun (W : World) (p q : Nat) (h : Duo0 w W p q D0 D0) => duo_opens h (by omega) O.1 hn0)
        have O2 := Lib.hid (fun (W : World) (p b q : Nat) (Y : Nat → Prop) (h : DuoR w W p b q ⟨(openD D0).2, recs D0.now, false⟩ D0 Y) => duo_ropens h (by omega) O.1 hn0)
        obtain ⟨j0, hj0⟩ : ∃ j0, Jn.mk (openD D0).2 (recs D0.now) false = j0 := ⟨_, rfl⟩
        have hjc0 : j0.d.calls ≤ 3 := by rw [← hj0]; exact hjc
        obtain ⟨LL, hLL⟩ : ∃ LL, (recs D0.now).map str = LL := ⟨_, rfl⟩
        have hLn : LL.length = n0 := by rw [← hLL, List.length_map]; exact hn0
        rw [hj0, hLL] at O1 O2
        rw [hn0] at hrl
        have HLN := Lib.hid hLn
        have HJC := Lib.hid hjc0
        clear hw hD0 hwD g0 p0 cl0 n0l O hjc hn0 hj0 hjc0 hLL hLn hm12 hmn hcap HA HN HM RA BA hlt HB1 Z0 df
        have NW2 := Lib.hid (NW.out wq HB.out)
        go_upto_region 14 with fail
        clear hG hT
        go_upto_region 17 with (first
          | (go_at_call 13; ((with_reducible refine NW2.out.mono ?_); rintro e w2 ⟨p, rfl, hS2, hb2⟩))
          | (go_at_call 20; ((with_reducible refine (RN.out w2).mono ?_); rintro e w3 ⟨q, rfl, hR3, hb3⟩; (have D3 := DN.out _ _ _ _ _ hS2 hR3 hb3)))
          | (go_at_call 31; ((with_reducible refine (W1.out w3 p q D3).mono ?_); rintro e w4 ⟨rfl, D4⟩))
          | (go_at_call 32; ((with_reducible refine (W2.out w4 p q D4).mono ?_); rintro e w5 ⟨rfl, D5⟩))
          | (fail "arm"))
        have H5 := Lib.hid D5
        clear D3 D4 D5 hS2 hR3 hb2 hb3 NW NW2 RN DN W1 W2
        go_upto_region 19 with (first
          | (go_at_call 14; ((with_reducible refine (O1.out w5 p q H5.out).mono ?_); rintro e w6 ⟨b, A1, c1, Y, rfl, D6, hr1, hY1, hb6⟩))
          | (go_at_call 23; ((with_reducible refine (O2.out w6 p b q Y D6).mono ?_); rintro e w7 ⟨g, A2, c2, Z, rfl, D7, hr2, hk7⟩))
          | (fail "arm"))
        have r1 := owns_keep hr1 (fun x hx => hk7 x (hY1 x hx))
        have SM := Lib.hid (fun (r : Nat) => (show Calls Try.prog 19 #[.slice A1 n0 c1, .slice A2 n0 c2] (w7.drewN r) fun e w' => e = .returned (.bool true) ∧ ∃ m, w' = (w7.drewN r).drewN m from by
          have := same_rows (W := w7.drewN r) (owns_keep r1 (fun x hx => rfl)) (owns_keep hr2 (fun x hx => rfl)) (by omega) (by omega)
          rwa [show decide (LL = LL) = true by simp] at this))
        obtain ⟨cc, hcc⟩ : ∃ cc, j0.d.calls = cc := ⟨_, rfl⟩
        obtain ⟨ss, hss⟩ : ∃ ss, str j0.d.now = ss := ⟨_, rfl⟩
        have DR := fun (r : Nat) => two_on D7 (Below.drewN_ (Below.refl _ w7) r)
        have CA := Lib.hid (fun (r : Nat) => (show Calls Try.prog 24 #[.pointer (some ⟨p, 0, none⟩)] (w7.drewN r) fun e w' => e = .returned (.int .i64 (cc : Int)) ∧ w' = w7.drewN r from by
          have := two_calls (DR r); rw [hcc] at this; exact this.mono fun e w' h => ⟨h.1, h.2.symm⟩))
        have CB := Lib.hid (fun (r : Nat) => (show Calls Try.prog 25 #[.pointer (some ⟨q, 0, none⟩)] (w7.drewN r) fun e w' => e = .returned (.int .i64 (cc : Int)) ∧ w' = w7.drewN r from by
          have := two_rcalls (DR r); rw [hcc] at this; exact this.mono fun e w' h => ⟨h.1, h.2.symm⟩))
        have CO := Lib.hid (fun (r : Nat) => (show Calls Try.prog 28 #[.pointer (some ⟨p, 0, none⟩)] (w7.drewN r) fun e w' => e = .returned (.string ss) ∧ w' = w7.drewN r from by
          have := two_conts (DR r); rw [hss] at this; exact this.mono fun e w' h => ⟨h.1, h.2.symm⟩))
        have cn : w7.cell? ⟨q, 0, none⟩ = some (.string ss) := by have := two_now D7; rwa [hss] at this
        have H7 := Lib.hid D7
        clear hk7 hY1 hr1 hr2 r1 D6 D7 hb6 O1 O2 H5 DR hcc hss
        go_quiet (first
          | (go_at_call 19; (with_reducible exact Calls.quiet_of (SM.out _)))
          | (go_at_call 24; (with_reducible exact Calls.quiet_of_same (CA.out _)))
          | (go_at_call 25; (with_reducible exact Calls.quiet_of_same (CB.out _)))
          | (go_at_call 28; (with_reducible exact Calls.quiet_of_same (CO.out _)))
          | (fail "arm"))
        go_upto_region 21 with fail
        obtain ⟨w8, hw8⟩ : ∃ w8, w7.drewN nq = w8 := ⟨_, rfl⟩
        have D8 : Duo2 w w8 p b q g j0 j0 Z := by rw [← hw8]; exact two_on H7.out (Below.drewN_ (Below.refl _ w7) nq)
        rw [hw8]
        have hx1 : (⟨#[120]⟩ : ByteArray).size ≤ 281474976710656 := by decide
        have hjc1 : j0.d.calls ≤ 90000 := by have := HJC.out; omega
        have AP := Lib.hid (two_app (two_drew D8) hjc1 ⟨#[120]⟩ hx1)
        have RP := Lib.hid (fun (W : World) (j1 : Jn) (h : Duo2 w W p b q g j1 j0 Z) => two_rapp h hjc1 ⟨#[120]⟩ hx1)
        obtain ⟨v, hv⟩ : ∃ v, (j0.app (⟨#[120]⟩ : ByteArray).data.toList).1 = v := ⟨_, rfl⟩
        obtain ⟨j', hj'⟩ : ∃ j', (j0.app (⟨#[120]⟩ : ByteArray).data.toList).2 = j' := ⟨_, rfl⟩
        rw [hv, hj'] at AP RP
        have MA := Lib.hid (two_many (two_drew D8))
        have MB := Lib.hid (two_rmany (two_drew D8))
        have CO2 := Lib.hid (fun (W : World) (h : Duo2 w W p b q g j' j' Z) => two_conts h)
        have CN2 := Lib.hid (fun (W : World) (h : Duo2 w W p b q g j' j' Z) => two_now h)
        have BE := Lib.hid (fun (W : World) (h : Duo2 w W p b q g j' j' Z) => two_bel h)
        obtain ⟨nn, hnn⟩ : ∃ nn, j0.rs.length = nn := ⟨_, rfl⟩
        obtain ⟨s2, hs2⟩ : ∃ s2, str j'.d.now = s2 := ⟨_, rfl⟩
        rw [hnn] at MA MB
        rw [hs2] at CO2 CN2
        clear hw8 D8 hv hj' hnn hs2 hx1 hjc1 H7 SM CA CB CO cn
        go_region_with (first
          | (go_at_call 17; ((with_reducible refine MA.out.mono ?_); rintro e w9 ⟨rfl, rfl⟩))
          | (go_at_call 27; ((with_reducible refine MB.out.mono ?_); rintro e w9 ⟨rfl, rfl⟩))
          | (go_at_call 16; ((with_reducible refine AP.out.mono ?_); rintro e w9 ⟨rfl, D9, K9⟩))
          | (go_at_call 26; ((with_reducible refine (RP.out w9 j' D9).mono ?_); rintro e w10 ⟨rfl, D10, K10⟩; (have n10 := CN2.out w10 D10)))
          | (go_at_call 28; ((with_reducible refine (CO2.out w10 D10).mono ?_); rintro e w11 ⟨rfl, rfl⟩))
          | (fail "arm"))
        all_goals
          have be := Lib.hid (BE.out w10 D10)
          go_wp2
          go_ret
          exact ⟨rfl, be.out⟩
theorem contract (H : Type) (enc : TypeId × Value → H) (W : World) (base : Nat) (args : Array Value) (ds gs : List (DataW H)) (before : List MemPlace)
    (hval : ∀ (j : Nat) t v, Try.f5.params[j]? = some t → args[j]? = some v → Value.okWide Try.prog W .any base t v)
    (hW : DataW.Whole enc Try.prog Try.f5.params.toList Rows.journalOpensSpec.vars false W args.toList ds gs before) :
    Calls Try.prog 5 args W fun e W' => ∃ v, e = .returned v ∧ Rows.journalOpensSpec.post enc Try.prog Try.f5 false true false false W args v W' := by
  have hW' := hW
  obtain ⟨p, q, hA0, hV, rfl, hfz, hnd⟩ := hW
  have hA : DataW.TrodAll enc Try.prog W 0 (fun _ => true) true Try.f5.params.toList args.toList ds p := hA0
  rw [Try.params5] at hA hval
  obtain ⟨v0, vs0, d0, ds0, p0, q0, e0, rfl, rfl, h0, r0⟩ := trodAll_cons hA
  obtain ⟨v1, vs1, d1, ds1, p1, q1, e1, rfl, rfl, h1, r1⟩ := trodAll_cons r0
  obtain ⟨rfl, rfl, rfl⟩ := trodAll_nil r1
  obtain rfl : args = #[v0, v1] := by cases args; simp_all
  obtain ⟨rfl, rfl⟩ := trodVars_none hV
  obtain ⟨A, l, c, rfl, hPr, hl⟩ := open_trips h0 (hval 0 48 v0 rfl rfl)
  obtain ⟨s, rfl, rfl, rfl, hs⟩ := Go.ChangeMaps.open_string Try.underlying9 (hval 1 9 v1 rfl rfl) h1
  refine (walk A l c s W hPr hl hs).mono fun e W' ⟨he, hb⟩ => ⟨_, he, law_post rfl rfl ?_ rfl rfl rfl hW' hb⟩
  rw [Try.params5]
  intro t ht
  have ht' : t = 48 ∨ t = 9 := by simpa using ht
  rcases ht' with rfl | rfl <;> exact ⟨by kernel_rfl, of_decide_eq_true (by kernel_rfl)⟩

set_option maxRecDepth 100000 in
theorem lifted (os : Os) (started : os.Started) (H : Type) (enc : TypeId × Value → H) :
    ReturnsInHanded {} Try.checked os 5 .any (Rows.journalOpensSpec.pre6 enc Try.prog Try.f5 Rows.journalOpensRow.domain false) (Rows.journalOpensSpec.post enc Try.prog Try.f5 false true false false) := by
  refine returnsInHanded_of_change (C := Try.checked) ownKnob_none started (by kernel_rfl) Try.func5
    (ChangeSpec.witness6 (enc := enc) (C := Try.checked) false ⟨#[], #[.slice none 0 0, .string ⟨#[]⟩], []⟩ 8 (by kernel_rfl) (by kernel_rfl) (by kernel_rfl) (by kernel_rfl)) ?_
  intro W base args ds gs before hval hW _ _
  exact contract H enc W base args ds gs before hval hW

theorem proved : Rows.JournalOpensSaid :=
  OpenClaim.holds_of_wide 5 Try.f5 rfl rfl rfl rfl rfl rfl rfl ⟨rfl, rfl, rfl, rfl, rfl⟩ rfl rfl rfl rfl rfl (by kernel_rfl) Try.func5 (by kernel_rfl)
    (of_decide_eq_true (by kernel_rfl)) (by unfold Func.isWrapper; first | (rw [if_pos (by decide +kernel)]; kernel_rfl) | (rw [if_neg (by decide +kernel)]; exact ⟨rfl, rfl⟩))
    (fun os started H enc _ => lifted os started H enc)

end Go.Proofs.Ythhpnlobhffimaa.lopens
