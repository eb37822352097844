/- JournalBytes where the power lasts for some calls. -/
import Derived.Test.YthhpnlobhffimaaJBytK
namespace Go.Proofs.Ythhpnlobhffimaa.lbytes
set_option maxRecDepth 100000
open Go.ChangeShapes Go.WideShapes Go.ChangeAt Go.RowKit

set_option maxRecDepth 100000 in
set_option maxHeartbeats 16000000 in
theorem walk_on (A : Option Addr) (l : List (Int × Int)) (c : Nat) (x : Int) (w : World) (hA : Prs w w.heap.size A c l) (hl : l.length ≤ maxLen) (x0 : 0 ≤ x) (x1 : x ≤ 255) (r : Nat) (hr : x % 50 = (r : Int)) (r1 : (1 : Int) ≤ (r : Int)) (r2 : (r : Int) ≤ 48) :
    Calls Try.prog 4 #[.slice A l.length c, .int .u8 x] w (BoolB w true) := by
  have S := Lib.hid (sane_any w)
  have NW := Lib.hid (fun (W : World) (h : Below w.heap.size w W) => new_side h)
  have RN := Lib.hid (fun (W : World) => refNew_any W)
  have DN := Lib.hid (fun (W2 W3 : World) (p q : Nat) (X : Nat → Prop) (hS : Side w W2 p Dk.new X) (hR : IsR W2.heap.size W3 q Dk.new (fun g => g = q)) (hb : Below W2.heap.size W2 W3) => duo_new hS hR hb)
  have F1 := Lib.hid (fun (W : World) (p q : Nat) (h : Duo0 w W p q Dk.new Dk.new) => duo_fail h ((r : Int)) (by omega))
  have F2 := Lib.hid (fun (W : World) (p q : Nat) (h : Duo0 w W p q (Dk.new.fail ((r : Int))) Dk.new) => duo_rfail h ((r : Int)) (by omega))
  obtain ⟨d, hd⟩ : ∃ d, Dk.new.fail ((r : Int)) = d := ⟨_, rfl⟩
  have hn : d.now = [] := by rw [← hd]; rfl
  have hc : d.calls ≤ 0 := by rw [← hd]; exact Nat.zero_le _
  have h0 : d.sErr = 0 := by rw [← hd]; exact (s_on (d := Dk.new.fail ((r : Int))) (by show offO (if ((r : Int) : Int) < 0 then none else some ((r : Int) : Int).toNat) = false; rw [if_neg (by omega), Int.toNat_natCast]; obtain ⟨k, rfl⟩ : ∃ k, r = k + 1 := ⟨r - 1, by omega⟩; rfl)).1
  have O1 := Lib.hid (fun (W : World) (p q : Nat) (h : Duo0 w W p q d d) => duo_open h hn (by omega) h0)
  have O2 := Lib.hid (fun (W : World) (p b q : Nat) (h : Duo1 w W p b q ⟨d.sync, [], false⟩ d) => duo_ropen h hn (by omega) h0)
  rw [hd] at F1 F2
  have hj0 : (Jn.mk d.sync [] false).d.calls ≤ 10 := by show d.sync.calls ≤ 10; have := sync_calls d; omega
  obtain ⟨j0, hj⟩ : ∃ j0, Jn.mk d.sync [] false = j0 := ⟨_, rfl⟩
  rw [hj] at O1 O2 hj0
  have RC := Lib.hid (fun (W : World) (hb : Below w.heap.size w W) => records_any W A l c (hA.on hb) hb.size hl)
  unfold SmallL StrsOut at RC
  have RC2 := Lib.hid (fun (W : World) (hb : Below w.heap.size w W) (m0 : Nat) (hm0 : min l.length 10 = m0) => (show Calls Try.prog 15 #[.slice A l.length c] W fun e W' => ∃ L : List ByteArray, L.length = m0 ∧ (∀ s ∈ L, s.size ≤ 300) ∧ ∃ A4 c4, e = .returned (.slice A4 m0 c4) ∧ W'.ownsRow W.heap.size 9 1 (.slice A4 m0 c4) m0 (strC L) ∧ Below W.heap.size W W' from (RC.out W hb).mono fun e W' hx => by
    obtain ⟨L, h1, h2, A4, c4, he, ho, hbb⟩ := hx
    rw [hm0] at h1
    subst h1
    exact ⟨L, rfl, h2, A4, c4, he, ho, hbb⟩))
  obtain ⟨n, hln⟩ : ∃ n, l.length = n := ⟨_, rfl⟩
  rw [hln] at RC2 ⊢
  obtain ⟨m, hm, hm10⟩ : ∃ m, min n 10 = m ∧ m ≤ 10 := ⟨_, rfl, by omega⟩
  have HM := Lib.hid hm
  have HJ0 := Lib.hid hj0
  unfold BoolB at S ⊢
  clear hd hn hc h0 hj hj0 hln hl hA hm RC
  go_enter Try.func4, Try.ntmps4
  go_upto_region 8 with (first
    | (go_at_call 12; ((with_reducible refine S.out.mono ?_); rintro e w1 ⟨rfl, hb1⟩))
    | (go_at_call 13; ((with_reducible refine (NW.out w1 hb1).mono ?_); rintro e w2 ⟨p, rfl, hS2, hb2⟩))
    | (go_at_call 20; ((with_reducible refine (RN.out w2).mono ?_); rintro e w3 ⟨q, rfl, hR3, hb3⟩; (have D3 := DN.out _ _ _ _ _ hS2 hR3 hb3)))
    | (go_at_call 21; ((with_reducible refine (F1.out w3 p q D3).mono ?_); rintro e w4 ⟨rfl, D4⟩))
    | (go_at_call 22; ((with_reducible refine (F2.out w4 p q D4).mono ?_); rintro e w5 ⟨rfl, D5⟩))
    | (fail "arm"))
  have H5 := Lib.hid D5
  clear D3 D4 D5 hS2 hR3 hb1 hb2 hb3 S NW RN DN F1 F2
  go_upto_region 14 with (first
    | (go_at_call 14; ((with_reducible refine (O1.out w5 p q H5.out).mono ?_); rintro e w6 ⟨b, A1, c1, rfl, D6⟩))
    | (go_at_call 23; ((with_reducible refine (O2.out w6 p b q D6).mono ?_); rintro e w7 ⟨g, rfl, D7⟩))
    | (fail "arm"))
  have H7 := Lib.hid D7
  have RD := Lib.hid (RC2.out w7 (two_bel D7) m HM.out)
  clear D6 D7 O1 O2 H5 RC2
  go_upto_region 15 with (go_at_call 15; ((with_reducible refine RD.out.mono ?_); rintro e w8 ⟨L, hL, hsz, A4, c4, rfl, hown, hb8⟩))
  obtain ⟨X, hX⟩ : ∃ X : Nat → Prop, (fun g => (Value.slice A4 m c4).ownBlock = some g) = X := ⟨_, rfl⟩
  have D8 : Duo2 w w8 p b q g j0 j0 X := by rw [← hX]; exact H7.out.plus hb8 (fun x hx => ⟨row_ge hown x hx, owns_lt hown x hx⟩)
  have hmc : m ≤ c4 := by
    have := (Strs.own hown).2.cap
    rw [hL] at this; exact this
  have HO := Lib.hid hown
  have HSZ := Lib.hid hsz
  have HLL := Lib.hid hL
  have HXR : Hid (∀ x, (Value.slice A4 m c4).ownBlock = some x → X x) := Lib.hid fun x hx => by rw [← hX]; exact hx
  have HD8 := Lib.hid D8
  have HK8 : Hid (∀ x, X x → w8.heap[x]? = w8.heap[x]?) := Lib.hid fun _ _ => rfl
  clear hX D8 hown hsz hL hb8 H7 RD HM
  have m0 : (0 : Int) ≤ (m : Int) := Int.natCast_nonneg _
  go_loopw [71] (fun v71 wr => ∃ (k : Nat) (j : Jn), v71 = .int .i64 (k : Int) ∧ k ≤ m ∧ Hid (Duo2 w wr p b q g j j X) ∧ Hid (j.d.calls ≤ 10 + 4 * k) ∧ Hid (∀ x, X x → wr.heap[x]? = w8.heap[x]?)) (fun v71 _ => m - (intOf v71).toNat)
  case atStart => exact ⟨0, j0, rfl, Nat.zero_le _, HD8, HJ0, HK8⟩
  case round =>
    obtain ⟨k, j, rfl, hk, HD, HC, HK⟩ := hrel
    have k0 : (0 : Int) ≤ (k : Int) := Int.natCast_nonneg _
    by_cases hlt : k < m
    · have k1 : (k : Int) < (m : Int) := by omega
      have hlw := owns_keep HO.out (fun x hx => HK.out x (HXR.out x hx))
      have hkL : k < L.length := by rw [HLL.out]; exact hlt
      obtain ⟨ad, rfl, _, hcell⟩ := (Strs.own hlw).2.at_ hkL
      have hz := HSZ.out _ (List.getElem_mem hkL)
      obtain ⟨s, hs⟩ : ∃ s, L[k] = s := ⟨_, rfl⟩
      rw [hs] at hcell hz
      have hcl := HC.out
      have CL := Lib.hid (show (j.app s.data.toList).2.d.calls ≤ 10 + 4 * (k + 1) by have := app_calls j s.data.toList; omega)
      have AP := Lib.hid (two_app (two_drew HD.out) (by omega) s (by omega))
      have RA := Lib.hid (fun (W : World) (j1 : Jn) (h : Duo2 w W p b q g j1 j X) => two_rapp h (by omega) s (by omega))
      obtain ⟨v, hv⟩ : ∃ v, (j.app s.data.toList).1 = v := ⟨_, rfl⟩
      obtain ⟨j', hj'⟩ : ∃ j', (j.app s.data.toList).2 = j' := ⟨_, rfl⟩
      rw [hv, hj'] at AP RA
      rw [hj'] at CL
      have MA := Lib.hid (fun (W : World) (h : Duo2 w W p b q g j' j' X) => two_many h)
      have MB := Lib.hid (fun (W : World) (h : Duo2 w W p b q g j' j' X) => two_rmany h)
      have CA := Lib.hid (fun (W : World) (h : Duo2 w W p b q g j' j' X) => two_calls h)
      have CB := Lib.hid (fun (W : World) (h : Duo2 w W p b q g j' j' X) => two_rcalls h)
      have CO := Lib.hid (fun (W : World) (h : Duo2 w W p b q g j' j' X) => two_conts h)
      have CN := Lib.hid (fun (W : World) (h : Duo2 w W p b q g j' j' X) => two_now h)
      obtain ⟨nn, hnn⟩ : ∃ nn, j'.rs.length = nn := ⟨_, rfl⟩
      obtain ⟨cc, hcc⟩ : ∃ cc, j'.d.calls = cc := ⟨_, rfl⟩
      obtain ⟨ss, hss⟩ : ∃ ss, str j'.d.now = ss := ⟨_, rfl⟩
      rw [hnn] at MA MB
      rw [hcc] at CA CB
      rw [hss] at CO CN
      clear hs hv hj' hnn hcc hss hz hcl hkL hlw
      go_upto_region 17 with fail
      go_region_with (first
        | (go_at_call 16; ((with_reducible refine AP.out.mono ?_); rintro e w9 ⟨rfl, D9, K9⟩))
        | (go_at_call 26; ((with_reducible refine (RA.out w9 j' D9).mono ?_); rintro e w10 ⟨rfl, D10, K10⟩; (have n10 := CN.out w10 D10)))
        | (go_at_call 17; ((with_reducible refine (MA.out w10 D10).mono ?_); rintro e w11 ⟨rfl, rfl⟩))
        | (go_at_call 27; ((with_reducible refine (MB.out w10 D10).mono ?_); rintro e w11 ⟨rfl, rfl⟩))
        | (go_at_call 24; ((with_reducible refine (CA.out w10 D10).mono ?_); rintro e w11 ⟨rfl, rfl⟩))
        | (go_at_call 25; ((with_reducible refine (CB.out w10 D10).mono ?_); rintro e w11 ⟨rfl, rfl⟩))
        | (go_at_call 28; ((with_reducible refine (CO.out w10 D10).mono ?_); rintro e w11 ⟨rfl, rfl⟩))
        | (fail "arm"))
      all_goals
        have HD10 := Lib.hid D10
        have HK10 : Hid (∀ x, X x → w10.heap[x]? = w8.heap[x]?) := Lib.hid fun x hx => (K10 x hx).trans ((K9 x hx).trans (HK.out x hx))
        clear D9 D10 K9 K10 n10
        go_wp2_with fail
        go_roundw
        case rel => exact ⟨k + 1, j', by go_num, by omega, HD10, CL, HK10⟩
        case measure => simp [intOf]; omega
    · obtain rfl : k = m := by omega
      have be := Lib.hid (two_bel HD.out)
      go_wp2
      go_ret
      exact ⟨rfl, be.out⟩

end Go.Proofs.Ythhpnlobhffimaa.lbytes
