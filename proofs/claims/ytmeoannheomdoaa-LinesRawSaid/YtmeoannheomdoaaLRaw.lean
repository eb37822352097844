/- LinesRaw: Merge of arbitrary texts is that of the reference implementation. For all arguments. -/
import Derived.Test.YtmeoannheomdoaaKit2
import Derived.Test.YtmeoannheomdoaaLaw
namespace Go.Proofs.Ytmeoannheomdoaa.lraw
open Go.ChangeShapes Go.WideShapes Go.ChangeAt Go.RowKit
open Go.ChangeMaps (open_string)

/-- at most 60 bytes of a string -/
theorem cut60 (s : ByteArray) : ∃ (k : Nat) (S : ByteArray), (if (60 : Int) < (s.size : Int) then (60 : Int) else (s.size : Int)) = (k : Int) ∧ min (s.size : Int) 60 = (k : Int) ∧ k ≤ s.size ∧ s.extract 0 k = S ∧ S.size ≤ 92 := by
  refine ⟨min s.size 60, _, by split <;> omega, by omega, by omega, rfl, ?_⟩
  rw [ByteArray.size_extract]
  omega
set_option maxRecDepth 100000 in
set_option maxHeartbeats 8000000 in
theorem walk (b l r : ByteArray) (w : World) : Calls Try.prog 9 #[.string b, .string l, .string r] w (BoolB w true) := by
  have S := Lib.hid (fun W => sane_any W)
  obtain ⟨kb, Sb, b1, b2, b3, b4, b5⟩ := cut60 b
  obtain ⟨kl, Sl, l1, l2, l3, l4, l5⟩ := cut60 l
  obtain ⟨kr, Sr, r1, r2, r3, r4, r5⟩ := cut60 r
  obtain ⟨T, n, C, m1, m2, m3⟩ := two_merges Sb Sl Sr b5 l5 r5
  have M1 := Lib.hid m1
  have M2 := Lib.hid m2
  have M3 := Lib.hid m3
  have e3 : (T.toList == T.toList) = true := by simp
  have x1 : (kb : Int) ≤ (b.size : Int) := by omega
  have x2 : (kl : Int) ≤ (l.size : Int) := by omega
  have x3 : (kr : Int) ≤ (r.size : Int) := by omega
  clear m1 m2 m3 b3 l3 r3 b5 l5 r5
  go_enter Try.func9, Try.ntmps9
  go_upto_region 2 with (first
    | (go_at_call 15; ((with_reducible refine (S.out _).mono ?_); rintro e' w1 ⟨rfl, hb⟩); (have HB1 := Lib.hid hb)))
  go_quiet (fail)
  have HB2 := Lib.hid (Below.drewN_ HB1.out nq)
  obtain ⟨w2, hw2⟩ : ∃ w2, w1.drewN nq = w2 := ⟨_, rfl⟩
  rw [hw2] at HB2 ⊢
  clear hw2
  go_wp2_with (first
    | (go_at_call 29; ((with_reducible refine (M1.out _).mono ?_); rintro e' w3 ⟨A3, k3, rfl, hp3, hb⟩); (have HB3 := Lib.hid (Below.then_ HB2.out hb)))
    | (go_at_call 30; ((with_reducible refine (M2.out _).mono ?_); rintro e' w4 ⟨A4, k4, rfl, hp4, hb⟩); (have hp3 := sps_on hp3 hb); (have HB4 := Lib.hid (Below.then_ HB3.out hb)))
    | (go_at_call 31; ((with_reducible refine (M3.out _ _ _ _ _ hp3 hp4).mono ?_); rintro e' w5 ⟨rfl, hb⟩); (have HB5 := Lib.hid (Below.then_ HB4.out hb))))
  go_ret
  exact ⟨rfl, HB5.out⟩
theorem contract (H : Type) (enc : TypeId × Value → H) (W : World) (base : Nat) (args : Array Value) (ds gs : List (DataW H)) (before : List MemPlace)
    (hval : ∀ (j : Nat) t v, Try.f9.params[j]? = some t → args[j]? = some v → Value.okWide Try.prog W .any base t v)
    (hW : DataW.Whole enc Try.prog Try.f9.params.toList Rows.linesRawSpec.vars false W args.toList ds gs before) :
    Calls Try.prog 9 args W fun e W' => ∃ v, e = .returned v ∧ Rows.linesRawSpec.post enc Try.prog Try.f9 false true false false W args v W' := by
  have hW' := hW
  obtain ⟨p, q, hA0, hV, rfl, hfz, hnd⟩ := hW
  have hA : DataW.TrodAll enc Try.prog W 0 (fun _ => true) true Try.f9.params.toList args.toList ds p := hA0
  rw [Try.params9] at hA hval
  obtain ⟨v0, vs0, d0, ds0, p0, q0, e0, rfl, rfl, h0, r0⟩ := trodAll_cons hA
  obtain ⟨v1, vs1, d1, ds1, p1, q1, e1, rfl, rfl, h1, r1⟩ := trodAll_cons r0
  obtain ⟨v2, vs2, d2, ds2, p2, q2, e2, rfl, rfl, h2, r2⟩ := trodAll_cons r1
  obtain ⟨rfl, rfl, rfl⟩ := trodAll_nil r2
  obtain rfl : args = #[v0, v1, v2] := by cases args; simp_all
  obtain ⟨rfl, rfl⟩ := trodVars_none hV
  obtain ⟨s0, rfl, rfl, rfl, hs0⟩ := open_string Try.underlying9 (hval 0 9 v0 rfl rfl) h0
  obtain ⟨s1, rfl, rfl, rfl, hs1⟩ := open_string Try.underlying9 (hval 1 9 v1 rfl rfl) h1
  obtain ⟨s2, rfl, rfl, rfl, hs2⟩ := open_string Try.underlying9 (hval 2 9 v2 rfl rfl) h2
  refine (walk s0 s1 s2 W).mono fun e W' ⟨he, hb⟩ => ⟨_, he, law_post rfl rfl ?_ rfl rfl rfl hW' hb⟩
  rw [Try.params9]
  intro t ht
  have ht' : t = 9 ∨ t = 9 ∨ t = 9 := by simpa using ht
  rcases ht' with rfl | rfl | rfl <;> exact ⟨by kernel_rfl, of_decide_eq_true (by kernel_rfl)⟩

set_option maxRecDepth 100000 in
theorem lifted (os : Os) (started : os.Started) (H : Type) (enc : TypeId × Value → H) :
    ReturnsInHanded {} Try.checked os 9 .any (Rows.linesRawSpec.pre6 enc Try.prog Try.f9 Rows.linesRawRow.domain false) (Rows.linesRawSpec.post enc Try.prog Try.f9 false true false false) := by
  refine returnsInHanded_of_change (C := Try.checked) ownKnob_none started (by kernel_rfl) Try.func9
    (ChangeSpec.witness6 (enc := enc) (C := Try.checked) false ⟨#[], #[.string .empty, .string .empty, .string .empty], []⟩ 8 (by kernel_rfl) (by kernel_rfl) (by kernel_rfl) (by kernel_rfl)) ?_
  intro W base args ds gs before hval hW _ _
  exact contract H enc W base args ds gs before hval hW

theorem proved : Rows.LinesRawSaid :=
  OpenClaim.holds_of_wide 9 Try.f9 rfl rfl rfl rfl rfl rfl rfl ⟨rfl, rfl, rfl, rfl, rfl⟩ rfl rfl rfl rfl rfl (by kernel_rfl) Try.func9 (by kernel_rfl)
    (of_decide_eq_true (by kernel_rfl)) (by unfold Func.isWrapper; first | (rw [if_pos (by decide +kernel)]; kernel_rfl) | (rw [if_neg (by decide +kernel)]; exact ⟨rfl, rfl⟩))
    (fun os started H enc _ => lifted os started H enc)

end Go.Proofs.Ytmeoannheomdoaa.lraw
