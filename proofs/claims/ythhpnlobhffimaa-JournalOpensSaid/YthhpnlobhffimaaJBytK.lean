/- JournalBytes: the disk's bytes, its calls and the answers are the reference's, record by record. For all arguments. -/
import Derived.Test.YthhpnlobhffimaaJDuo
import Derived.Test.YthhpnlobhffimaaJKit2
import Derived.Test.YthhpnlobhffimaaJKit3
namespace Go.Proofs.Ythhpnlobhffimaa.lbytes
set_option maxRecDepth 100000
open Go.ChangeShapes Go.WideShapes Go.ChangeAt Go.RowKit

theorem app_calls (j : Jn) (r : List UInt8) : (j.app r).2.d.calls ≤ j.d.calls + 4 := by
  cases hf : j.failed with
  | true => rw [show j.app r = (30, j) by unfold Jn.app; rw [if_pos hf]]; exact Nat.le_add_right _ _
  | false =>
    cases hl : j.tooLong r with
    | true => rw [show j.app r = (2, j) by unfold Jn.app; rw [hf, hl]; rfl]; exact Nat.le_add_right _ _
    | false =>
      rw [app_eq hf hl]
      by_cases h0 : j.er r 0 ≠ 0
      · rw [if_pos h0]; exact Jn.D_calls j r 1
      rw [if_neg h0]
      by_cases h1 : j.er r 1 ≠ 0
      · rw [if_pos h1]; exact Jn.D_calls j r 2
      rw [if_neg h1]
      by_cases h2 : j.er r 2 ≠ 0
      · rw [if_pos h2]; exact Jn.D_calls j r 3
      rw [if_neg h2]
      by_cases h3 : j.er r 3 ≠ 0
      · rw [if_pos h3]; exact Jn.D_calls j r 4
      rw [if_neg h3]; exact Jn.D_calls j r 4
section
variable {w W W2 W3 : World} {p b q g : Nat} {d d1 d2 : Dk} {j j1 j2 : Jn} {X : Nat → Prop}
theorem duo_new (hS : Side w W2 p Dk.new X) (hR : IsR W2.heap.size W3 q Dk.new (fun g => g = q)) (hb : Below W2.heap.size W2 W3) : Duo0 w W3 p q Dk.new Dk.new := by
  obtain ⟨F, i1, i4⟩ := hS.his
  have hq := (hR.in_ q rfl)
  refine ⟨fun g => g = q, ⟨Below.then_ hS.bel hb, F, i1.on hb, ?_⟩, hR.less hS.bel.size⟩
  rintro x rfl
  exact ⟨fun e => by have := (i1.in_ x e).2; omega, hq.2⟩
theorem duo_fail (h : Duo0 w W p q d1 d2) (x : Int) (hx : -1 ≤ x ∧ x ≤ 1000000) : Calls Try.prog 21 #[.pointer (some ⟨p, 0, none⟩), .int .i64 x] W fun e W' => e = .returned (.tuple #[]) ∧ Duo0 w W' p q (d1.fail x) d2 := by
  obtain ⟨G, h1, h2⟩ := h.left
  exact (h1.fail x hx).mono fun e W' k => ⟨k.1, h2 _ _ k.2⟩
theorem duo_rfail (h : Duo0 w W p q d1 d2) (x : Int) (hx : -1 ≤ x ∧ x ≤ 1000000) : Calls Try.prog 22 #[.pointer (some ⟨q, 0, none⟩), .int .i64 x] W fun e W' => e = .returned (.tuple #[]) ∧ Duo0 w W' p q d1 (d2.fail x) := by
  obtain ⟨G, h1, h2⟩ := h.right
  exact (h1.fail x hx).mono fun e W' k => ⟨k.1, h2 _ _ k.2⟩
theorem duo_bel (h : Duo0 w W p q d1 d2) : Below w.heap.size w W := by
  obtain ⟨G, h1, _⟩ := h; exact h1.bel
theorem duo_calls (h : Duo0 w W p q d1 d2) : Calls Try.prog 24 #[.pointer (some ⟨p, 0, none⟩)] W fun e w' => e = .returned (.int .i64 (d1.calls : Int)) ∧ W = w' := by
  obtain ⟨G, h1, _⟩ := h; exact h1.calls
theorem duo_rcalls (h : Duo0 w W p q d1 d2) : Calls Try.prog 25 #[.pointer (some ⟨q, 0, none⟩)] W fun e w' => e = .returned (.int .i64 (d2.calls : Int)) ∧ W = w' := by
  obtain ⟨G, _, h1⟩ := h; exact rcalls_any h1
theorem openD_new (hn : d.now = []) : openD d = (d.sErr, d.sync) := by
  have : recs ([] : List UInt8) = [] := by decide
  unfold openD
  rw [hn, this]
  rfl
theorem duo_open (h : Duo0 w W p q d d2) (hn : d.now = []) (hc : d.calls ≤ 90000) (h0 : d.sErr = 0) : Calls Try.prog 14 #[.pointer (some ⟨p, 0, none⟩)] W fun e W' => ∃ b A c, e = .returned (.tuple #[.pointer (some ⟨b, 0, none⟩), .slice A 0 c, .int .i64 0]) ∧ Duo1 w W' p b q ⟨d.sync, [], false⟩ d2 := by
  obtain ⟨G, h1, h2, h3⟩ := h.opened
  refine (open_any h1 hc).mono ?_
  have hr : recs d.now = [] := by rw [hn]; decide
  rintro e W' (⟨e0, _⟩ | ⟨_, b, A, c, he, k, _⟩)
  · rw [openD_new hn] at e0; exact absurd h0 e0
  · rw [openD_new hn, hr] at k
    rw [hr] at he
    exact ⟨b, A, c, he, h3 _ _ _ k⟩
theorem duo_shut (h : Duo0 w W p q d d2) (hn : d.now = []) (hc : d.calls ≤ 90000) (h0 : d.sErr ≠ 0) : Calls Try.prog 14 #[.pointer (some ⟨p, 0, none⟩)] W fun e W' => e = .returned (.tuple #[.pointer none, .slice none 0 0, .int .i64 d.sErr]) ∧ Duo0 w W' p q d.sync d2 := by
  obtain ⟨G, h1, h2, h3⟩ := h.opened
  refine (open_any h1 hc).mono ?_
  rintro e W' (⟨_, he, k⟩ | ⟨e0, _⟩)
  · rw [openD_new hn] at k he
    exact ⟨he, h2 _ _ k⟩
  · rw [openD_new hn] at e0; exact absurd e0 h0
theorem duo_ropen (h : Duo1 w W p b q j1 d) (hn : d.now = []) (hc : d.calls ≤ 90000) (h0 : d.sErr = 0) : Calls Try.prog 23 #[.pointer (some ⟨q, 0, none⟩)] W fun e W' => ∃ g, e = .returned (.tuple #[.pointer (some ⟨g, 0, none⟩), .slice none 0 0, .int .i64 0]) ∧ Duo2 w W' p b q g j1 ⟨d.sync, [], false⟩ (fun _ => False) := by
  obtain ⟨G, h1, h2⟩ := h.opened
  refine (ropen_new h1 hn hc).mono ?_
  rintro e W' (⟨e0, _⟩ | ⟨_, g, he, k⟩)
  · exact absurd h0 e0
  · exact ⟨g, he, h2 _ _ _ k⟩
theorem duo_rshut (h : Duo0 w W p q d1 d) (hn : d.now = []) (hc : d.calls ≤ 90000) (h0 : d.sErr ≠ 0) : Calls Try.prog 23 #[.pointer (some ⟨q, 0, none⟩)] W fun e W' => e = .returned (.tuple #[.pointer none, .slice none 0 0, .int .i64 d.sErr]) ∧ Duo0 w W' p q d1 d.sync := by
  obtain ⟨G, h1, h2⟩ := h.right
  refine (ropen_new h1 hn hc).mono ?_
  rintro e W' (⟨_, he, k⟩ | ⟨e0, _⟩)
  · exact ⟨he, h2 _ _ k⟩
  · exact absurd e0 h0
theorem two_bel (h : Duo2 w W p b q g j1 j2 X) : Below w.heap.size w W := by
  obtain ⟨G, h1, _⟩ := h; exact h1.side.bel
theorem two_on (h : Duo2 w W p b q g j1 j2 X) (hb : Below W.heap.size W W2) : Duo2 w W2 p b q g j1 j2 X := by
  obtain ⟨G, h1, h2, h3, h4, h5, h6, h7⟩ := h
  exact ⟨G, h1.on hb, h2.on hb, h3, h4, h5.on hb, h6, h7⟩
theorem two_drew (h : Duo2 w W p b q g j1 j2 X) : Duo2 w W.drew p b q g j1 j2 X := two_on h ((Below.refl _ W).drew)
theorem two_app (h : Duo2 w W p b q g j1 j2 X) (hc : j1.d.calls ≤ 90000) (s : ByteArray) (hs : s.size ≤ 281474976710656) : Calls Try.prog 16 #[.pointer (some ⟨b, 0, none⟩), .string s] W fun e W' => e = .returned (.int .i64 (j1.app s.data.toList).1) ∧ Duo2 w W' p b q g (j1.app s.data.toList).2 j2 X ∧ (∀ x, X x → W'.heap[x]? = W.heap[x]?) := by
  obtain ⟨Y, h1, h2, h3⟩ := h.left
  exact (app_any h1 hc s hs).mono fun e W' k => ⟨k.1, h3 _ _ k.2, fun x hx => k.2.2.1 x (h2 x hx)⟩
theorem two_rapp (h : Duo2 w W p b q g j1 j2 X) (hc : j2.d.calls ≤ 90000) (s : ByteArray) (hs : s.size ≤ 281474976710656) : Calls Try.prog 26 #[.pointer (some ⟨g, 0, none⟩), .string s] W fun e W' => e = .returned (.int .i64 (j2.app s.data.toList).1) ∧ Duo2 w W' p b q g j1 (j2.app s.data.toList).2 X ∧ (∀ x, X x → W'.heap[x]? = W.heap[x]?) := by
  obtain ⟨Y, h1, h2, h3⟩ := h.right
  exact (rapp_any h1 hc s hs).mono fun e W' k => ⟨k.1, h3 _ _ k.2, fun x hx => k.2.2.1 x (h2 x hx)⟩
theorem two_many (h : Duo2 w W p b q g j1 j2 X) : Calls Try.prog 17 #[.pointer (some ⟨b, 0, none⟩)] W fun e w' => e = .returned (.int .i64 (j1.rs.length : Int)) ∧ W = w' := by
  obtain ⟨Y, h1, _⟩ := h.left; exact many_any h1
theorem two_rmany (h : Duo2 w W p b q g j1 j2 X) : Calls Try.prog 27 #[.pointer (some ⟨g, 0, none⟩)] W fun e w' => e = .returned (.int .i64 (j2.rs.length : Int)) ∧ W = w' := by
  obtain ⟨Y, h1, _⟩ := h.right; exact rmany_any h1
theorem two_calls (h : Duo2 w W p b q g j1 j2 X) : Calls Try.prog 24 #[.pointer (some ⟨p, 0, none⟩)] W fun e w' => e = .returned (.int .i64 (j1.d.calls : Int)) ∧ W = w' := by
  obtain ⟨Y, h1, _⟩ := h.left; exact h1.side.calls
theorem two_rcalls (h : Duo2 w W p b q g j1 j2 X) : Calls Try.prog 25 #[.pointer (some ⟨q, 0, none⟩)] W fun e w' => e = .returned (.int .i64 (j2.d.calls : Int)) ∧ W = w' := by
  obtain ⟨Y, h1, _⟩ := h.right
  obtain ⟨G, h2, _⟩ := h1.side.his; exact rcalls_any h2
theorem two_conts (h : Duo2 w W p b q g j1 j2 X) : Calls Try.prog 28 #[.pointer (some ⟨p, 0, none⟩)] W fun e w' => e = .returned (.string (str j1.d.now)) ∧ W = w' := by
  obtain ⟨Y, h1, _⟩ := h.left; exact contents_any h1.side
theorem two_now (h : Duo2 w W p b q g j1 j2 X) : W.cell? ⟨q, 0, none⟩ = some (.string (str j2.d.now)) := by
  obtain ⟨Y, h1, _⟩ := h.right
  obtain ⟨G, ⟨c, lf, lm, hR⟩, _⟩ := h1.side.his
  exact hR.full.cell 0
end

set_option maxRecDepth 100000 in
set_option maxHeartbeats 16000000 in
/-- the power is off from the start -/
theorem walk_off (x : Int) (A : Option Addr) (l : List (Int × Int)) (c : Nat) (w : World) (x0 : 0 ≤ x) (x1 : x ≤ 255) (hr : x % 50 = 0) :
    Calls Try.prog 4 #[.slice A l.length c, .int .u8 x] w (BoolB w true) := by
  have S := Lib.hid (sane_any w)
  have NW := Lib.hid (fun (W : World) (h : Below w.heap.size w W) => new_side h)
  have RN := Lib.hid (fun (W : World) => refNew_any W)
  have DN := Lib.hid (fun (W2 W3 : World) (p q : Nat) (X : Nat → Prop) (hS : Side w W2 p Dk.new X) (hR : IsR W2.heap.size W3 q Dk.new (fun g => g = q)) (hb : Below W2.heap.size W2 W3) => duo_new hS hR hb)
  have F1 := Lib.hid (fun (W : World) (p q : Nat) (h : Duo0 w W p q Dk.new Dk.new) => duo_fail h (0) (by omega))
  have F2 := Lib.hid (fun (W : World) (p q : Nat) (h : Duo0 w W p q (Dk.new.fail (0)) Dk.new) => duo_rfail h (0) (by omega))
  obtain ⟨d, hd⟩ : ∃ d, Dk.new.fail 0 = d := ⟨_, rfl⟩
  have hn : d.now = [] := by rw [← hd]; rfl
  have hc : d.calls ≤ 90000 := by rw [← hd]; exact Nat.zero_le _
  have h30 : d.sErr = 30 := by rw [← hd]; rfl
  have h0 : d.sErr ≠ 0 := by rw [h30]; decide
  have O1 := Lib.hid (fun (W : World) (p q : Nat) (h : Duo0 w W p q d d) => duo_shut h hn hc h0)
  have O2 := Lib.hid (fun (W : World) (p q : Nat) (h : Duo0 w W p q d.sync d) => duo_rshut h hn hc h0)
  rw [h30] at O1 O2
  rw [hd] at F1 F2
  obtain ⟨D, hD⟩ : ∃ D, d.sync = D := ⟨_, rfl⟩
  rw [hD] at O1 O2
  have C1 := Lib.hid (fun (W : World) (p q : Nat) (h : Duo0 w W p q D D) => duo_calls h)
  have C2 := Lib.hid (fun (W : World) (p q : Nat) (h : Duo0 w W p q D D) => duo_rcalls h)
  have MN := Lib.hid (fun W => many_nil W)
  have BE := Lib.hid (fun (W : World) (p q : Nat) (h : Duo0 w W p q D D) => duo_bel h)
  unfold BoolB at S ⊢
  clear hd hn hc h30 h0 hD
  go_enter Try.func4, Try.ntmps4
  go_upto_region 8 with (first
    | (go_at_call 12; ((with_reducible refine S.out.mono ?_); rintro e w1 ⟨rfl, hb1⟩))
    | (go_at_call 13; ((with_reducible refine (NW.out w1 hb1).mono ?_); rintro e w2 ⟨p, rfl, hS2, hb2⟩))
    | (go_at_call 20; ((with_reducible refine (RN.out w2).mono ?_); rintro e w3 ⟨q, rfl, hR3, hb3⟩; (have D3 := DN.out _ _ _ _ _ hS2 hR3 hb3)))
    | (go_at_call 21; ((with_reducible refine (F1.out w3 p q D3).mono ?_); rintro e w4 ⟨rfl, D4⟩))
    | (go_at_call 22; ((with_reducible refine (F2.out w4 p q D4).mono ?_); rintro e w5 ⟨rfl, D5⟩))
    | (fail "arm"))
  have H5 := Lib.hid D5
  clear D3 D4 D5 hS2 hR3 hb1 hb2 hb3 S NW RN DN F1 F2
  go_upto_region 12 with (first
    | (go_at_call 14; ((with_reducible refine (O1.out w5 p q H5.out).mono ?_); rintro e w6 ⟨rfl, D6⟩))
    | (go_at_call 23; ((with_reducible refine (O2.out w6 p q D6).mono ?_); rintro e w7 ⟨rfl, D7⟩))
    | (fail "arm"))
  have H7 := Lib.hid D7
  clear D6 D7
  have c1 := Lib.hid (C1.out w7 p q H7.out)
  have c2 := Lib.hid (C2.out w7 p q H7.out)
  have be := Lib.hid (BE.out w7 p q H7.out)
  clear C1 C2 BE O1 O2 H5 H7
  go_wp2_with (first
    | (go_at_call 24; ((with_reducible refine c1.out.mono ?_); rintro e w8 ⟨rfl, rfl⟩))
    | (go_at_call 25; ((with_reducible refine c2.out.mono ?_); rintro e w9 ⟨rfl, rfl⟩))
    | (go_at_call 17; ((with_reducible refine (MN.out w7).mono ?_); rintro e w10 ⟨rfl, rfl⟩))
    | (fail "arm"))
  go_ret
  exact ⟨rfl, be.out⟩

end Go.Proofs.Ythhpnlobhffimaa.lbytes
