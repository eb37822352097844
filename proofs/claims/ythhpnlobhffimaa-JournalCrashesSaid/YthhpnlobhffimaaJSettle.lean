/- settle. -/
import Derived.Test.YthhpnlobhffimaaJApp
namespace Go.Proofs.Ythhpnlobhffimaa
set_option maxRecDepth 100000
open Go.RowKit
section
variable {w W W' : World} {p b : Nat} {j : Jn} {X : Nat → Prop}
def SetOut (w W : World) (p : Nat) (d : Dk) (Y : Nat → Prop) (e : Ending) (W' : World) : Prop := e = .returned (.int .i64 (openD d).1) ∧ SPost w W p (openD d).2 Y W'
theorem openD_sync {d : Dk} {e : Nat} (he : (fl (recs d.now)).length = e) (h : d.now.drop e = [] ∨ ∃ t, d.now.drop e = 0 :: t) : openD d = (d.sErr, d.sync) := by
  unfold openD
  rw [he]
  rcases h with h | ⟨t, h⟩ <;> rw [h]
  dsimp only
  rw [if_pos rfl]
theorem openD_err {d : Dk} {e : Nat} (he : (fl (recs d.now)).length = e) {x : UInt8} {t : List UInt8} (h : d.now.drop e = x :: t) (hx : x ≠ 0) (h0 : d.wErr (e : Int) [0] ≠ 0) : openD d = (d.wErr (e : Int) [0], d.write (e : Int) [0]) := by
  unfold openD
  rw [he, h]
  dsimp only
  rw [if_neg hx, if_pos h0]
theorem openD_two {d : Dk} {e : Nat} (he : (fl (recs d.now)).length = e) {x : UInt8} {t : List UInt8} (h : d.now.drop e = x :: t) (hx : x ≠ 0) (h0 : d.wErr (e : Int) [0] = 0) : openD d = ((d.write (e : Int) [0]).sErr, (d.write (e : Int) [0]).sync) := by
  unfold openD
  rw [he, h]
  dsimp only
  rw [if_neg hx, if_neg (by rw [h0]; decide)]
theorem read_one (d : Dk) (e : Nat) : d.read (e : Int) 1 = (d.now.drop e).take 1 := by
  unfold Dk.read
  rw [if_pos ⟨by omega, by omega⟩]; simp
set_option maxHeartbeats 4000000 in
theorem settle_any (h : Jw w W p b j X) (hr : recs j.d.now = j.rs) (hc : j.d.calls ≤ 90000) :
    Calls Try.prog 36 #[.pointer (some ⟨b, 0, none⟩)] W (SetOut w W p j.d (fun g => g = b ∨ X g)) := by
  have he : (fl (recs j.d.now)).length = j.e := by rw [hr]; rfl
  have hrd := h.side.read (j.e : Int) 1
  rw [read_one] at hrd
  have c0 : W.cell? ⟨b, 0, none⟩ = some (.pointer (some ⟨p, 0, none⟩)) := h.full.cell 0
  have c1 : W.cell? ⟨b, 1, none⟩ = some (.int .i64 (j.e : Int)) := h.full.cell 1
  have SY := fun (W1 : World) (d1 : Dk) (hd : d1.calls ≤ 100000) (hs : SPost w W p d1 (fun g => g = b ∨ X g) W1) => (show Calls Try.prog 56 #[.pointer (some ⟨p, 0, none⟩)] W1 fun e W' => e = .returned (.int .i64 d1.sErr) ∧ SPost w W p d1.sync (fun g => g = b ∨ X g) W' from (hs.1.sync hd).mono fun e W' hx => ⟨hx.1, hs.trans hx.2⟩)
  have WR := fun (W1 : World) => (fun (hb : Below W.heap.size W W1) => (show Calls Try.prog 31 #[.pointer (some ⟨p, 0, none⟩), .int .i64 (j.e : Int), .string ⟨#[0]⟩] W1 fun e W' => e = .returned (.int .i64 (j.d.wErr (j.e : Int) [0])) ∧ SPost w W p (j.d.write (j.e : Int) [0]) (fun g => g = b ∨ X g) W' from ((h.side.on hb).write (by omega) (j.e : Int) ⟨#[0]⟩ (by have := h.few; omega) (by show 1 ≤ _; decide)).mono fun e W' hx => ⟨hx.1, hx.2.pre h.side hb⟩))
  have HSP := Lib.hid (fun (W1 : World) (hb : Below W.heap.size W W1) => h.side.spost hb)
  have HWC := Lib.hid (show (j.d.write (j.e : Int) [0]).calls ≤ 100000 from Nat.le_trans (write_calls _ _ _) (by omega))
  have H := Lib.hid h
  have HC := Lib.hid hc
  unfold SetOut
  cases hL : j.d.now.drop j.e with
  | nil =>
    rw [openD_sync he (.inl hL)]
    rw [hL] at hrd
    have HRD := Lib.hid (show Calls Try.prog 34 #[.pointer (some ⟨p, 0, none⟩), .int .i64 (j.e : Int), .int .i64 1] W.drew fun e w' => e = .returned (.string ⟨#[]⟩) ∧ W.drew = w' from by
      have := (H.out.on ((Below.refl _ W).drew)).side.read (j.e : Int) 1
      rw [read_one, hL] at this
      exact this)
    obtain ⟨E, hE⟩ : ∃ E, (j.e : Int) = E := ⟨_, rfl⟩
    rw [hE] at c1 HRD
    have HS2 := Lib.hid (SY W.drew j.d (by omega) (HSP.out _ ((Below.refl _ W).drew)))
    clear hrd SY WR hL he hr h hE
    go_enter Try.func36, Try.ntmps36
    go_upto_region 1 with fail
    have d0 : W.drew.cell? ⟨b, 0, none⟩ = some (.pointer (some ⟨p, 0, none⟩)) := c0
    have d1 : W.drew.cell? ⟨b, 1, none⟩ = some (.int .i64 E) := c1
    go_region_held3 (fun w' => w'.cell? ⟨b, 0, none⟩ = some (.pointer (some ⟨p, 0, none⟩)) ∧ w'.cell? ⟨b, 1, none⟩ = some (.int .i64 E))
      (first | (with_reducible exact ⟨d0, d1⟩) | (fail "keep"))
      (first
        | (go_at_call 34; ((with_reducible refine HRD.out.mono ?_); rintro e w1 ⟨rfl, rfl⟩))
        | (fail "arm"))
    all_goals
      go_wp2_with (go_at_call 56; ((with_reducible refine HS2.out.mono ?_); rintro e w2 ⟨rfl, hp⟩))
      refine bodyPost_ret (v := .int .i64 j.d.sErr) (by simp [results, Try.results36, go_sem]) rfl ?_
      exact ⟨rfl, hp⟩
  | cons x t =>
    have HRD := Lib.hid (show Calls Try.prog 34 #[.pointer (some ⟨p, 0, none⟩), .int .i64 (j.e : Int), .int .i64 1] W.drew fun e w' => e = .returned (.string (str [x])) ∧ W.drew = w' from by
      have := (H.out.on ((Below.refl _ W).drew)).side.read (j.e : Int) 1
      rw [read_one, hL] at this
      exact this)
    by_cases hx : x = 0
    · subst hx
      rw [openD_sync he (.inr ⟨t, hL⟩)]
      obtain ⟨E, hE⟩ : ∃ E, (j.e : Int) = E := ⟨_, rfl⟩
      rw [hE] at c1 HRD
      have HS2 := Lib.hid (SY W.drew j.d (by omega) (HSP.out _ ((Below.refl _ W).drew)))
      rw [show str [0] = ⟨#[0]⟩ from rfl] at HRD
      clear hrd SY WR hL he hr h hE
      go_enter Try.func36, Try.ntmps36
      go_upto_region 1 with fail
      have d0 : W.drew.cell? ⟨b, 0, none⟩ = some (.pointer (some ⟨p, 0, none⟩)) := c0
      have d1 : W.drew.cell? ⟨b, 1, none⟩ = some (.int .i64 E) := c1
      go_region_held3 (fun w' => w'.cell? ⟨b, 0, none⟩ = some (.pointer (some ⟨p, 0, none⟩)) ∧ w'.cell? ⟨b, 1, none⟩ = some (.int .i64 E))
        (first | (with_reducible exact ⟨d0, d1⟩) | (fail "keep"))
        (first
          | (go_at_call 34; ((with_reducible refine HRD.out.mono ?_); rintro e w1 ⟨rfl, rfl⟩))
          | (fail "arm"))
      all_goals
        go_wp2_with (go_at_call 56; ((with_reducible refine HS2.out.mono ?_); rintro e w2 ⟨rfl, hp⟩))
        refine bodyPost_ret (v := .int .i64 j.d.sErr) (by simp [results, Try.results36, go_sem]) rfl ?_
        exact ⟨rfl, hp⟩
    · have hne1 : (str [x]).toList.isEmpty = false := by rw [ByteArray.toList_eq, str_data]; rfl
      have hne2 : ((str [x]).toList == [0]) = false := by rw [ByteArray.toList_eq, str_data]; simp [hx]
      obtain ⟨S, hS⟩ : ∃ S, str [x] = S := ⟨_, rfl⟩
      rw [hS] at HRD hne1 hne2
      have HWR := Lib.hid (WR W.drew.drew (((Below.refl _ W).drew).drew))
      have HCL := Lib.hid (fun (W1 : World) (hs : SPost w W p (j.d.write (j.e : Int) [0]) (fun g => g = b ∨ X g) W1) => (show Full W1 b 73 (jV p j) from (hs.2.1 b (.inl rfl)).trans H.out.full))
      have HSY := Lib.hid (fun (W1 : World) (hs : SPost w W p (j.d.write (j.e : Int) [0]) (fun g => g = b ∨ X g) W1) => SY W1 _ HWC.out hs)
      have h1 := fun h0 => openD_err he hL hx h0
      have h2 := fun h0 => openD_two he hL hx h0
      obtain ⟨E, hE⟩ : ∃ E, (j.e : Int) = E := ⟨_, rfl⟩
      rw [hE] at c1 HRD HWR HCL HSY h1 h2
      obtain ⟨v, hv⟩ : ∃ v, j.d.wErr E [0] = v := ⟨_, rfl⟩
      rw [hv] at HWR h1 h2
      have HV := Lib.hid hv
      have HEE := Lib.hid hE
      obtain ⟨D1, hD1⟩ : ∃ D1, j.d.write E [0] = D1 := ⟨_, rfl⟩
      rw [hD1] at HWR HCL HSY h1 h2
      have H1 := Lib.hid h1
      have H2 := Lib.hid h2
      clear hrd SY WR hL he hr h hE hv hS hx h1 h2 hD1 HWC
      go_enter Try.func36, Try.ntmps36
      go_upto_region 1 with fail
      have d0 : W.drew.cell? ⟨b, 0, none⟩ = some (.pointer (some ⟨p, 0, none⟩)) := c0
      have d1 : W.drew.cell? ⟨b, 1, none⟩ = some (.int .i64 E) := c1
      go_region_held3 (fun w' => w'.cell? ⟨b, 0, none⟩ = some (.pointer (some ⟨p, 0, none⟩)) ∧ w'.cell? ⟨b, 1, none⟩ = some (.int .i64 E))
        (first | (with_reducible exact ⟨d0, d1⟩) | (fail "keep"))
        (first
          | (go_at_call 34; ((with_reducible refine HRD.out.mono ?_); rintro e w1 ⟨rfl, rfl⟩))
          | (fail "arm"))
      all_goals
        go_upto_region 3 with fail
        have g0 : W.drew.drew.cell? ⟨b, 0, none⟩ = some (.pointer (some ⟨p, 0, none⟩)) := c0
        have g1 : W.drew.drew.cell? ⟨b, 1, none⟩ = some (.int .i64 E) := c1
        have hvv := er_split v
        go_region_held3 (fun w' => w'.cell? ⟨b, 0, none⟩ = some (.pointer (some ⟨p, 0, none⟩)) ∧ w'.cell? ⟨b, 1, none⟩ = some (.int .i64 E))
          (first | (with_reducible exact ⟨g0, g1⟩) | (with_reducible exact ⟨x0, x1⟩) | (fail "keep"))
          (first
            | (go_at_call 31; ((with_reducible refine HWR.out.mono ?_); rintro e w2 ⟨rfl, hs⟩; (have F := HCL.out w2 hs); (have x0 : w2.cell? ⟨b, 0, none⟩ = some (.pointer (some ⟨p, 0, none⟩)) := F.cell 0); (have x1 : w2.cell? ⟨b, 1, none⟩ = some (.int .i64 E) := HEE.out ▸ F.cell 1)))
            | (fail "arm"))
        all_goals
          rcases hvv with rfl | hne
          · go_wp2_with (go_at_call 56; ((with_reducible refine (HSY.out w2 hs).mono ?_); rintro e w3 ⟨rfl, hp⟩))
            refine bodyPost_ret (v := .int .i64 D1.sErr) (by simp [results, Try.results36, go_sem]) rfl ?_
            rw [H2.out (by first | rfl | trivial)]
            exact ⟨rfl, hp⟩
          · go_wp2
            refine bodyPost_ret (v := .int .i64 v) (by simp [results, Try.results36, go_sem]) rfl ?_
            rw [H1.out (by intro e; rw [e] at hne; cases hne)]
            exact ⟨rfl, hs⟩
end
end Go.Proofs.Ythhpnlobhffimaa
