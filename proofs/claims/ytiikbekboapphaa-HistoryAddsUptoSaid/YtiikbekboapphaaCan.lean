/- canBeParents; New. -/
import Derived.Test.YtiikbekboapphaaCopyC
import Derived.BigQuiet
namespace Go.Proofs.Ytiikbekboapphaa
set_option maxRecDepth 100000
open Go.RowKit
theorem canBe_zero {N : Nat} {ids : List Int} (h : ids.length = 0 ∨ 2 < ids.length) : canBe N ids = false := by
  unfold canBe
  split
  · simp at h
  · simp at h
  · rfl
theorem canBe_not {N : Nat} {ids : List Int} {k : Nat} (hk : k < ids.length) (h : inR N (ids.getD k 0) = false) : canBe N ids = false := by
  cases e : canBe N ids with
  | false => rfl
  | true =>
    have := canBe_in e (ids.getD k 0) (by
      have : ids.getD k 0 = ids[k] := by simp [hk]
      rw [this]; exact List.getElem_mem hk)
    rw [← inR_iff] at this
    rw [h] at this
    cases this
theorem canBe_one {N : Nat} {ids : List Int} (hn : ids.length = 1) (h : ∀ k, k < 1 → inR N (ids.getD k 0) = true) : canBe N ids = true := by
  obtain ⟨x, rfl⟩ : ∃ x, ids = [x] := List.length_eq_one_iff.1 hn
  exact h 0 (by omega)
theorem canBe_two {N : Nat} {ids : List Int} (hn : ids.length = 2) (h : ∀ k, k < 2 → inR N (ids.getD k 0) = true) : canBe N ids = (ids.getD 0 0 != ids.getD 1 0) := by
  obtain ⟨x, y, rfl⟩ : ∃ x y, ids = [x, y] := by
    match ids, hn with
    | [x, y], _ => exact ⟨x, y, rfl⟩
  have h0 := h 0 (by omega)
  have h1 := h 1 (by omega)
  simp at h0 h1
  simp [canBe, h0, h1]
def CanOut (w : World) (b : Bool) (e : Ending) (w' : World) : Prop := e = .returned (.bool b) ∧ ∃ q, w' = w.drewN q
set_option maxHeartbeats 4000000 in
theorem can_any {w : World} {B n c N : Nat} {A : Option Addr} {ids : List Int} (pv : Option Addr) (hr : Row w B 1 A n c (intC ids)) (hm : n ≤ maxLen)
    (HC : ∀ a, Calls Try.prog 41 #[.pointer pv, .int .i64 a] w fun e w' => e = .returned (.bool (inR N a)) ∧ w = w') :
    Calls Try.prog 37 #[.pointer pv, .slice A n c] w (CanOut w (canBe N ids)) := by
  unfold CanOut
  have hl : ids.length = n := by have := hr.1; rw [intC_len] at this; omega
  unfold maxLen at hm
  by_cases h0 : n = 0
  · rw [canBe_zero (.inl (hl.trans h0))]
    subst h0
    clear hr hl HC
    go_enter Try.func37, Try.ntmps37
    go_wp2
    go_ret
    exact ⟨rfl, 0, rfl⟩
  · by_cases h3 : 2 < n
    · rw [canBe_zero (.inr (by omega))]
      have i0 : (1 : Int) ≤ (n : Int) := by omega
      have i1 : (2 : Int) < (n : Int) := by omega
      clear hr hl HC
      go_enter Try.func37, Try.ntmps37
      go_wp2
      go_ret
      exact ⟨rfl, 0, rfl⟩
    · have i0 : (1 : Int) ≤ (n : Int) := by omega
      have i1 : (n : Int) ≤ (2 : Int) := by omega
      have HH := Lib.hid HC
      have HR := Lib.hid hr
      have HL := Lib.hid hl
      obtain ⟨r, hrr⟩ : ∃ r, canBe N ids = r := ⟨_, rfl⟩
      have HRR := Lib.hid hrr
      rw [hrr]
      clear HC hr hl hrr
      go_enter Try.func37, Try.ntmps37
      go_wp2_with fail
      go_loopw [17] (fun v17 wr => ∃ (k : Nat), v17 = .int .i64 (k : Int) ∧ k ≤ n ∧ wr = w ∧ Hid (∀ j, j < k → inR N (ids.getD j 0) = true)) (fun v17 _ => n - (intOf v17).toNat)
      case atStart => exact ⟨0, rfl, by omega, rfl, Lib.hid fun j hj => by omega⟩
      case round =>
        obtain ⟨k, rfl, hk, rfl, HK⟩ := hrel
        have k0 : (0 : Int) ≤ (k : Int) := Int.natCast_nonneg _
        by_cases hkn : k < n
        · have k1 : (k : Int) < (n : Int) := by omega
          obtain ⟨ad, rfl, _, hc⟩ := HR.out.2.2.2 k _ (intC_at ids k (by rw [HL.out]; exact hkn))
          obtain ⟨x, hx⟩ : ∃ x, ids.getD k 0 = x := ⟨_, rfl⟩
          rw [hx] at hc
          have HX := Lib.hid hx
          have C := Lib.hid (HH.out x)
          obtain ⟨b, hb⟩ : ∃ b, inR N x = b := ⟨_, rfl⟩
          rw [hb] at C
          have HB := Lib.hid hb
          clear hx hb
          cases b with
          | false =>
            go_wp2_with (go_at_call 41; ((with_reducible refine C.out.mono ?_); rintro e w1 ⟨rfl, rfl⟩))
            go_ret
            have hf := canBe_not (N := N) (k := k) (by rw [HL.out]; exact hkn) (by rw [HX.out]; exact HB.out)
            rw [HRR.out] at hf
            exact ⟨by rw [hf]; rfl, 0, rfl⟩
          | true =>
            go_wp2_with (go_at_call 41; ((with_reducible refine C.out.mono ?_); rintro e w1 ⟨rfl, rfl⟩))
            go_roundw
            case rel =>
              refine ⟨k + 1, by go_num, by omega, by first | rfl | trivial, Lib.hid fun j hj => ?_⟩
              by_cases hjk : j < k
              · exact HK.out j hjk
              · obtain rfl : j = k := by omega
                rw [HX.out]; exact HB.out
            case measure => simp [intOf]; omega
        · obtain rfl : k = n := by omega
          by_cases h1 : k = 1
          · subst h1
            have hf := canBe_one HL.out HK.out
            rw [HRR.out] at hf
            subst hf
            go_wp2_with fail
            go_quiet (fail)
            all_goals
              go_wp2
              go_ret
              exact ⟨rfl, _, rfl⟩
          · obtain rfl : k = 2 := by omega
            have hf := canBe_two HL.out HK.out
            rw [HRR.out] at hf
            obtain ⟨ad, rfl, _, hc0⟩ := HR.out.2.2.2 0 _ (intC_at ids 0 (by rw [HL.out]; omega))
            obtain ⟨ad', e', _, hc1⟩ := HR.out.2.2.2 1 _ (intC_at ids 1 (by rw [HL.out]; omega))
            obtain rfl : ad = ad' := by injection e'
            obtain ⟨x, hx⟩ : ∃ x, ids.getD 0 0 = x := ⟨_, rfl⟩
            obtain ⟨y, hy⟩ : ∃ y, ids.getD 1 0 = y := ⟨_, rfl⟩
            rw [hx, hy] at hf
            rw [hx] at hc0
            rw [hy] at hc1
            have hc00 : wr.cell? ad = some (.int .i64 x) := hc0
            have hc11 : wr.cell? ⟨ad.block, ad.off + 1, none⟩ = some (.int .i64 y) := hc1
            have HF := Lib.hid hf
            clear hf hx hy e'
            go_wp2_with fail
            go_quiet (fail)
            all_goals
              go_wp2
              go_ret
              refine ⟨?_, _, rfl⟩
              rw [HF.out]; rfl
def NewOut (w : World) (t : Int) (e : Ending) (w' : World) : Prop :=
  ∃ p F, e = .returned (.pointer (some ⟨p, 0, none⟩)) ∧ IsH w.heap.size w' p [⟨[], t, ⟨#[]⟩, [], false⟩] F ∧ Below w.heap.size w w'
theorem new_any (w : World) (t : Int) : Calls Try.prog 34 #[.int .i64 t] w (NewOut w t) := by
  unfold NewOut
  go_enter Try.func34, Try.ntmps34
  go_wp2
  go_ret
  have hb : Below w.heap.size w (w.alloc (.cells #[.slice none 0 0, .int .i64 t, .string ⟨#[]⟩, .slice none 0 0, .bool false] 25)) := (Below.refl _ w).alloc (Nat.le_refl _) _
  have hb2 := hb.alloc (by simp) (.cells #[.slice (some ⟨w.heap.size, 0, none⟩) 1 1] 62)
  have f1 : Full (w.alloc (.cells #[.slice none 0 0, .int .i64 t, .string ⟨#[]⟩, .slice none 0 0, .bool false] 25)) w.heap.size 25 [.slice none 0 0, .int .i64 t, .string ⟨#[]⟩, .slice none 0 0, .bool false] := Full.new w 25 [.slice none 0 0, .int .i64 t, .string ⟨#[]⟩, .slice none 0 0, .bool false]
  have f2 : Full ((w.alloc (.cells #[.slice none 0 0, .int .i64 t, .string ⟨#[]⟩, .slice none 0 0, .bool false] 25)).alloc (.cells #[.slice (some ⟨w.heap.size, 0, none⟩) 1 1] 62)) (w.heap.size + 1) 62 [.slice (some ⟨w.heap.size, 0, none⟩) 1 1] := by
    have := Full.new (w.alloc (.cells #[.slice none 0 0, .int .i64 t, .string ⟨#[]⟩, .slice none 0 0, .bool false] 25)) 62 [.slice (some ⟨w.heap.size, 0, none⟩) 1 1]
    rwa [World.size_alloc] at this
  refine ⟨_, fun g => g = w.heap.size ∨ g = w.heap.size + 1, rfl, ⟨.slice (some ⟨w.heap.size, 0, none⟩) 1 1, fun _ => False, ?_⟩, hb2⟩
  exact {
    full := f2
    obs := ⟨[(.slice none 0 0, .slice none 0 0)], rfl, own_full (f1.alloc _) rfl (by simp [maxLen]) (Nat.zero_le _), fun i c u hc hu => by
      have h1 := (List.getElem?_eq_some_iff.1 hc).1
      simp at h1
      subst h1
      simp at hc hu
      subst hc hu
      exact ⟨IntsF.nil _ _, IntsF.nil _ _⟩⟩
    inn := fun g h => h.elim
    self := .inr rfl
    row := fun g h => by
      obtain rfl : w.heap.size = g := by simpa [Value.ownBlock] using h
      exact ⟨.inl rfl, by omega⟩
    good := Good.one rfl
    pos := by simp
    in_ := fun g h => by
      simp
      omega }
end Go.Proofs.Ytiikbekboapphaa
