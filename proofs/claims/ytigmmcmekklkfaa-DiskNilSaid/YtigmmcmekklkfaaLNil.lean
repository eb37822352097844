/- DiskNil: a nil disk has the results of P9.5, and a zero disk is like a new one. For all arguments. -/
import Derived.Test.YtigmmcmekklkfaaKit2
namespace Go.Proofs.Ytigmmcmekklkfaa.lnil
open Go.ChangeShapes Go.WideShapes Go.ChangeAt Go.RowKit

theorem zero_disk (W : World) : IsD W.heap.size (W.alloc (.cells #[.slice none 0 0, .slice none 0 0, .slice none 0 0, .int .i64 0, .int .i64 0, .int .i64 0] 61)) W.heap.size Dk.new (fun g => g = W.heap.size) :=
  ⟨.slice none 0 0, .slice none 0 0, .slice none 0 0, 0, {
    full := Full.new W 61 [.slice none 0 0, .slice none 0 0, .slice none 0 0, .int .i64 0, .int .i64 0, .int .i64 0]
    lok := trivial
    now := World.ownsRow_nil _ _ _ _
    syn := World.ownsRow_nil _ _ _ _
    ps := World.ownsRow_nil _ _ _ _
    apart := fun g e => by simp [Value.ownBlock] at e
    self := rfl
    row := fun g e => by simp [Value.ownBlock] at e
    good := Dk.new_good
    in_ := fun g e => by subst e; simp }⟩
set_option maxRecDepth 100000 in
set_option maxHeartbeats 8000000 in
theorem walk (off : Int) (s : ByteArray) (P : Option Addr) (l : List Int) (c : Nat) (w : World) (ho : -9223372036854775808 ≤ off ∧ off ≤ 9223372036854775807) (hs : s.size ≤ maxLen) :
    Calls Try.prog 12 #[.int .i64 off, .string s, .slice P l.length c] w (BoolB w true) := by
  have S := Lib.hid (sane_any w)
  have FN := Lib.hid (fun W => fail_nil W off)
  have CN := Lib.hid (fun W => crash_nil W P l.length c)
  have NR := Lib.hid (fun W => refNew_any W)
  have SN := Lib.hid (fun W => size_nil W)
  have KN := Lib.hid (fun W => calls_nil W)
  have RN := Lib.hid (fun W => read_nil W off 5)
  have WN := Lib.hid (fun W => write_nil W off s)
  have YN := Lib.hid (fun W => sync_nil W)
  unfold BoolB at S ⊢
  have hst : str s.data.toList = s := (str_eq rfl).symm
  have D1 := Lib.hid (fun (b W : World) (x : Nat) (h : Desk b W x Dk.new) => (show Calls Try.prog 16 #[.pointer (some ⟨x, 0, none⟩), .agg #[.int .i64 0, .int .i64 off, .int .i64 0, .string s]] W fun e W' => e = .returned (.bool true) ∧ ∃ d, d.calls ≤ 1 ∧ Desk b W' x d from by
    have := do_any h (by simp [Dk.new]) ⟨0, off, 0, s.data.toList⟩ ⟨ho, by simp, by rw [data_len]; exact hs⟩
    unfold actV at this
    rw [hst] at this
    exact this.mono fun e W' ⟨he, hd⟩ => ⟨he, _, act_calls _ _, hd⟩))
  have D2 := Lib.hid (fun (b W : World) (x : Nat) (d : Dk) (hd : d.calls ≤ 1) (h : Desk b W x d) => (show Calls Try.prog 16 #[.pointer (some ⟨x, 0, none⟩), .agg #[.int .i64 7, .int .i64 0, .int .i64 off, .string ⟨#[]⟩]] W fun e W' => e = .returned (.bool true) ∧ ∃ p q d, Both b W' p q d d (fun g => g = x) ∧ Full W' x 30 [.pointer (some ⟨p, 0, none⟩), .pointer (some ⟨q, 0, none⟩)] from by
    have := do_any h (by omega) ⟨7, 0, off, []⟩ ⟨by simp, ho, by simp⟩
    exact this.mono fun e W' ⟨he, p, q, h1, h2⟩ => ⟨he, p, q, _, h1, h2⟩))
  obtain ⟨m, hm⟩ : ∃ m, l.length = m := ⟨_, rfl⟩
  rw [hm] at CN ⊢
  clear hm hst
  go_enter Try.func12, Try.ntmps12
  go_upto_region 7 with (first
    | (go_at_call 13; ((with_reducible refine S.out.mono ?_); rintro e w1 ⟨rfl, hb1⟩))
    | (go_at_call 30; ((with_reducible refine (FN.out _).mono ?_); rintro e w2 ⟨rfl, rfl⟩))
    | (go_at_call 23; ((with_reducible refine (CN.out w1).mono ?_); rintro e w3 ⟨pc, rfl, hC, hb3⟩))
    | (fail "arm"))
  have hZ := zero_disk w3
  obtain ⟨w4, hw4⟩ : ∃ w4, w3.alloc (.cells #[.slice none 0 0, .slice none 0 0, .slice none 0 0, .int .i64 0, .int .i64 0, .int .i64 0] 61) = w4 := ⟨_, rfl⟩
  have hb4 : Below w3.heap.size w3 w4 := by rw [← hw4]; exact (Below.refl _ w3).alloc (Nat.le_refl _) _
  rw [hw4] at hZ
  obtain ⟨pz, hpz⟩ : ∃ pz, w3.heap.size = pz := ⟨_, rfl⟩
  have hZ' : IsD w3.heap.size w4 pz Dk.new (fun g => g = pz) := by rw [← hpz]; exact hZ
  have HZ := Lib.hid hZ'
  have HB4 := Lib.hid hb4
  have HC := Lib.hid (show Side w w3 pc Dk.new (fun _ => False) from ⟨Below.then_ hb1 hb3, _, hC.less hb1.size, fun g hg => hg.elim⟩)
  clear hZ hZ' hb4 hC hb1 hb3
  go_upto_region 8 with (first
    | (go_at_call 15; ((with_reducible refine (NR.out w4).mono ?_); rintro e w5 ⟨q, rfl, hR5, hb5⟩))
    | (fail "arm"))
  clear hw4
  have HD0 := Lib.hid (desk_new (Below.refl w3.heap.size w3) HZ.out HB4.out hR5 hb5)
  clear hpz
  go_upto_region 11 with (first
    | (go_at_call 16; ((with_reducible refine (D1.out w3 _ w5.heap.size HD0.out).mono ?_); rintro e w6 ⟨rfl, d6, hd6, hD6⟩))
    | (go_at_call 16; ((with_reducible refine (D2.out w3 w6 _ d6 hd6 hD6).mono ?_); rintro e w7 ⟨rfl, p7, q7, d7, hB7, hX7⟩; (have SA := Lib.hid (same_any hB7 hX7))))
    | (go_at_call 21; ((with_reducible refine SA.out.mono ?_); rintro e w8 ⟨rfl, k8, hk8⟩; (have hb8 : Below w3.heap.size w3 w8 := by rw [hk8]; exact Below.drewN_ hB7.bel k8); clear hk8))
    | (fail "arm"))
  have hS8 := HC.out.on hb8
  have CS := Lib.hid (show Calls Try.prog 17 #[.pointer (some ⟨pc, 0, none⟩)] w8 fun e w' => e = .returned (.int .i64 0) ∧ w8 = w' from hS8.size)
  have CW := Lib.hid (show Calls Try.prog 27 #[.pointer (some ⟨pc, 0, none⟩), .int .i64 0, .string ⟨#[97]⟩] w8 fun e W' => e = .returned (.int .i64 0) ∧ SPost w w8 pc (Dk.new.write 0 [97]) (fun _ => False) W' from (show Dk.new.wErr 0 [97] = 0 by decide) ▸ hS8.write (by decide) 0 ⟨#[97]⟩ (by omega) (by decide))
  clear hB7 hX7 SA hD6 hb8 hS8 hR5 hb5
  go_wp2_with (first
    | (go_at_call 17; ((with_reducible refine (SN.out _).mono ?_); rintro e w9 ⟨rfl, rfl⟩))
    | (go_at_call 19; ((with_reducible refine (KN.out _).mono ?_); rintro e w9 ⟨rfl, rfl⟩))
    | (go_at_call 29; ((with_reducible refine (RN.out _).mono ?_); rintro e w9 ⟨rfl, rfl⟩))
    | (go_at_call 27; ((with_reducible refine (WN.out _).mono ?_); rintro e w9 ⟨rfl, rfl⟩))
    | (go_at_call 28; ((with_reducible refine (YN.out _).mono ?_); rintro e w9 ⟨rfl, rfl⟩))
    | (go_at_call 17; ((with_reducible refine CS.out.mono ?_); rintro e w9 ⟨rfl, rfl⟩))
    | (go_at_call 27; ((with_reducible refine CW.out.mono ?_); rintro e w10 ⟨rfl, hP10⟩))
    | (fail "arm"))
  go_ret
  exact ⟨rfl, hP10.1.bel⟩

theorem contract (H : Type) (enc : TypeId × Value → H) (W : World) (base : Nat) (args : Array Value) (ds gs : List (DataW H)) (before : List MemPlace)
    (hval : ∀ (j : Nat) t v, Try.f12.params[j]? = some t → args[j]? = some v → Value.okWide Try.prog W .any base t v)
    (hW : DataW.Whole enc Try.prog Try.f12.params.toList Rows.diskNilSpec.vars false W args.toList ds gs before) :
    Calls Try.prog 12 args W fun e W' => ∃ v, e = .returned v ∧ Rows.diskNilSpec.post enc Try.prog Try.f12 false true false false W args v W' := by
  have hW' := hW
  obtain ⟨p, q, hA0, hV, rfl, hfz, hnd⟩ := hW
  have hA : DataW.TrodAll enc Try.prog W 0 (fun _ => true) true Try.f12.params.toList args.toList ds p := hA0
  rw [Try.params12] at hA hval
  obtain ⟨v0, vs0, d0, ds0, p0, q0, e0, rfl, rfl, h0, r0⟩ := trodAll_cons hA
  obtain ⟨v1, vs1, d1, ds1, p1, q1, e1, rfl, rfl, h1, r1⟩ := trodAll_cons r0
  obtain ⟨v2, vs2, d2, ds2, p2, q2, e2, rfl, rfl, h2, r2⟩ := trodAll_cons r1
  obtain ⟨rfl, rfl, rfl⟩ := trodAll_nil r2
  obtain rfl : args = #[v0, v1, v2] := by cases args; simp_all
  obtain ⟨rfl, rfl⟩ := trodVars_none hV
  obtain ⟨off, rfl, _, _, ho⟩ := open_int Try.underlying3 (hval 0 3 v0 rfl rfl) h0
  obtain ⟨s, rfl, rfl, rfl, hs⟩ := Go.ChangeMaps.open_string Try.underlying9 (hval 1 9 v1 rfl rfl) h1
  obtain ⟨P, l, cp, rfl, hP, hl⟩ := open_ints h2 (hval 2 36 v2 rfl rfl)
  refine (walk off s P l cp W (bd_i64 ho) hs).mono fun e W' ⟨he, hb⟩ => ⟨_, he, law_post rfl rfl ?_ rfl rfl rfl hW' hb⟩
  rw [Try.params12]
  intro t ht
  have ht' : t = 3 ∨ t = 9 ∨ t = 36 := by simpa using ht
  rcases ht' with rfl | rfl | rfl <;> exact ⟨by kernel_rfl, of_decide_eq_true (by kernel_rfl)⟩

set_option maxRecDepth 100000 in
theorem lifted (os : Os) (started : os.Started) (H : Type) (enc : TypeId × Value → H) :
    ReturnsInHanded {} Try.checked os 12 .any (Rows.diskNilSpec.pre6 enc Try.prog Try.f12 Rows.diskNilRow.domain false) (Rows.diskNilSpec.post enc Try.prog Try.f12 false true false false) := by
  refine returnsInHanded_of_change (C := Try.checked) ownKnob_none started (by kernel_rfl) Try.func12
    (ChangeSpec.witness6 (enc := enc) (C := Try.checked) false ⟨#[], #[.int .i64 0, .string .empty, .slice none 0 0], []⟩ 8 (by kernel_rfl) (by kernel_rfl) (by kernel_rfl) (by kernel_rfl)) ?_
  intro W base args ds gs before hval hW _ _
  exact contract H enc W base args ds gs before hval hW

theorem proved : Rows.DiskNilSaid :=
  OpenClaim.holds_of_wide 12 Try.f12 rfl rfl rfl rfl rfl rfl rfl ⟨rfl, rfl, rfl, rfl, rfl⟩ rfl rfl rfl rfl rfl (by kernel_rfl) Try.func12 (by kernel_rfl)
    (of_decide_eq_true (by kernel_rfl)) (by unfold Func.isWrapper; first | (rw [if_pos (by decide +kernel)]; kernel_rfl) | (rw [if_neg (by decide +kernel)]; exact ⟨rfl, rfl⟩))
    (fun os started H enc _ => lifted os started H enc)

end Go.Proofs.Ytigmmcmekklkfaa.lnil
