/- Ancestor. -/
import Derived.Test.YtiikbekboapphaaDownTo
namespace Go.Proofs.Ytiikbekboapphaa
set_option maxRecDepth 100000
open Go.RowKit
theorem goes_below {S S' : Nat → Prop} {w w1 w2 : World} (h : Below w.heap.size w w1) (hS : ∀ x, S x → w.heap.size ≤ x) (hg : Goes S w1 w2 S') : Below w.heap.size w w2 :=
  h.trans (hg.below hS h.size)
theorem goes_ge {S S' : Nat → Prop} {w w1 w2 : World} (h : Below w.heap.size w w1) (hS : ∀ x, S x → w.heap.size ≤ x) (hg : Goes S w1 w2 S') : ∀ x, S' x → w.heap.size ≤ x :=
  hg.ge hS h.size
set_option maxHeartbeats 4000000 in
theorem anc_any {B : Nat} {w : World} {p : Nat} {cs : List Cm} {F : Nat → Prop} (h : IsH B w p cs F) (hs : cs.length ≤ 1000) (a b : Int) :
    Calls Try.prog 24 #[.pointer (some ⟨p, 0, none⟩), .int .i64 a, .int .i64 b] w (BoolB w (anc cs a b)) := by
  unfold BoolB
  have hmf : ∀ fn first cap w, (Instr.makeFunc fn first cap).run Try.prog w = .ok (.func fn first cap) w := fun _ _ _ _ => rfl
  have HA := Lib.hid (has_any h a)
  have HB := Lib.hid (has_any h b)
  cases ha : inR cs.length a with
  | false =>
    rw [ha] at HA
    rw [show anc cs a b = false by unfold anc; rw [ha]; rfl]
    clear h ha
    go_enter Try.func24, Try.ntmps24
    go_wp2_with (go_at_call 41; ((with_reducible refine HA.out.mono ?_); rintro e w1 ⟨rfl, rfl⟩))
    go_ret
    exact ⟨rfl, Below.refl _ _⟩
  | true =>
    cases hb : inR cs.length b with
    | false =>
      rw [ha] at HA
      rw [hb] at HB
      rw [show anc cs a b = false by unfold anc; rw [ha, hb]; rfl]
      clear h ha hb
      go_enter Try.func24, Try.ntmps24
      go_wp2_with (first
        | (go_at_call 41; ((with_reducible refine HA.out.mono ?_); rintro e w1 ⟨rfl, rfl⟩))
        | (go_at_call 41; ((with_reducible refine HB.out.mono ?_); rintro e w2 ⟨rfl, rfl⟩)))
      go_ret
      exact ⟨rfl, Below.refl _ _⟩
    | true =>
      have ha' := inR_iff.1 ha
      have hb' := inR_iff.1 hb
      rw [ha] at HA
      rw [hb] at HB
      obtain ⟨x, rfl⟩ : ∃ x : Nat, a = x := ⟨a.toNat, by omega⟩
      obtain ⟨y, rfl⟩ : ∃ y : Nat, b = y := ⟨b.toNat, by omega⟩
      have W := Lib.hid (from_any w 43 p (leads cs) y (by omega))
      unfold FromOut at W
      have D := Lib.hid (fun (k : Nat) (S : Nat → Prop) (w1 : World) (hk : IsWk w1 k (fnV 43 p) (leads cs) y (y + 1) S) (hS : ∀ x, S x → w.heap.size ≤ x) (hb : Below w.heap.size w w1) => downTo_any hk (h.on hb) (fun z h1 h2 => by have := (h.in_ z h1).2; have := hS z h2; omega) hs (by omega) x)
      unfold DownToOut at D
      obtain ⟨T, hT⟩ : ∃ T, top (rch (leads cs) y) (min (y + 1 - 1) x) = T := ⟨_, rfl⟩
      have HR := Lib.hid (show anc cs (x : Int) (y : Int) = decide ((T : Int) = (x : Int)) from by
        unfold anc
        rw [ha, hb]
        simp only [Bool.true_and, Int.toNat_natCast]
        rw [← top_anc (leads_down h.good) (show 1 ≤ x by omega), ← hT, Bool.eq_iff_iff, decide_eq_true_iff, decide_eq_true_iff, Nat.add_sub_cancel]
        omega)
      rw [hT] at D
      obtain ⟨L, hL⟩ : ∃ L, leads cs = L := ⟨_, rfl⟩
      rw [hL] at W D
      obtain ⟨r, hr⟩ : ∃ r, anc cs (x : Int) (y : Int) = r := ⟨_, rfl⟩
      rw [hr] at HR ⊢
      clear h ha hb hT ha' hb' hL hr
      go_enter Try.func24, Try.ntmps24
      go_wp2_with (first
        | (go_at_call 41; ((with_reducible refine HA.out.mono ?_); rintro e w1 ⟨rfl, rfl⟩))
        | (go_at_call 41; ((with_reducible refine HB.out.mono ?_); rintro e w2 ⟨rfl, rfl⟩))
        | (go_at_call 42; ((with_reducible refine W.out.mono ?_); rintro e w3 ⟨k, S, rfl, hk, hS, hb3⟩))
        | (go_at_call 44; ((with_reducible refine (D.out _ _ _ hk hS hb3).mono ?_); rintro e w4 ⟨rfl, S4, hg4, hk4⟩)))
      go_ret
      refine ⟨?_, goes_below hb3 hS hg4⟩
      rw [HR.out]
      refine ret_bool ?_
      rw [Bool.eq_iff_iff, beq_iff_eq, decide_eq_true_iff]
theorem anc_nil (w : World) (a b : Int) : Calls Try.prog 24 #[.pointer none, .int .i64 a, .int .i64 b] w fun e w' => e = .returned (.bool false) ∧ w = w' := by
  have HA := Lib.hid (has_nil w a)
  go_enter Try.func24, Try.ntmps24
  go_wp2_with (go_at_call 41; ((with_reducible refine HA.out.mono ?_); rintro e w1 ⟨rfl, rfl⟩))
  go_ret
  exact ⟨rfl, rfl⟩
theorem base_nil (w : World) (a b : Int) : Calls Try.prog 26 #[.pointer none, .int .i64 a, .int .i64 b] w fun e w' => e = .returned (.int .i64 0) ∧ w = w' := by
  have HA := Lib.hid (has_nil w a)
  go_enter Try.func26, Try.ntmps26
  go_wp2_with (go_at_call 41; ((with_reducible refine HA.out.mono ?_); rintro e w1 ⟨rfl, rfl⟩))
  go_ret
  exact ⟨rfl, rfl⟩
theorem log_nil (w : World) (a : Int) : Calls Try.prog 31 #[.pointer none, .int .i64 a] w fun e w' => e = .returned (.slice none 0 0) ∧ w = w' := by
  have HA := Lib.hid (has_nil w a)
  go_enter Try.func31, Try.ntmps31
  go_wp2_with (go_at_call 41; ((with_reducible refine HA.out.mono ?_); rintro e w1 ⟨rfl, rfl⟩))
  go_ret
  exact ⟨rfl, rfl⟩
theorem line_nil (w : World) (a b : Int) : Calls Try.prog 28 #[.pointer none, .int .i64 a, .int .i64 b] w fun e w' => e = .returned (.tuple #[.slice none 0 0, .bool false]) ∧ w = w' := by
  have HA := Lib.hid (has_nil w a)
  go_enter Try.func28, Try.ntmps28
  go_wp2_with (go_at_call 41; ((with_reducible refine HA.out.mono ?_); rintro e w1 ⟨rfl, rfl⟩))
  refine bodyPost_ret (v := .tuple #[.slice none 0 0, .bool false]) (by simp [results, Try.results28, go_sem]) rfl ?_
  exact ⟨rfl, rfl⟩
end Go.Proofs.Ytiikbekboapphaa
