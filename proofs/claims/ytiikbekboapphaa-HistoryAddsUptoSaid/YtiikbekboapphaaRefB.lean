/- The reference: has, Many, Ancestor, Base. -/
import Derived.Test.YtiikbekboapphaaCopyC
namespace Go.Proofs.Ytiikbekboapphaa
set_option maxRecDepth 100000
open Go.RowKit
section
variable {B : Nat} {w : World} {q : Nat} {cs : List Cm} {F : Nat → Prop}
theorem IsR.len_cell (h : IsR B w q cs F) : ∃ A c, w.cell? ⟨q, 0, none⟩ = some (.slice A cs.length c) := by
  obtain ⟨v, s, In, h⟩ := h
  obtain ⟨vs, hvl, hown, hints⟩ := h.obs
  obtain ⟨A, c, rfl⟩ := own_form hown
  exact ⟨A, c, h.full.cell 0⟩
/-- the cells that lead to a set -/
theorem IsR.set_cells (h : IsR B w q cs F) : ∃ g c, w.cell? ⟨q, 1, none⟩ = some (.slice (some ⟨g, 0, none⟩) cs.length c) ∧ ∀ id, 1 ≤ id → id ≤ cs.length → ∃ A d, w.cell? ⟨g, id - 1, none⟩ = some (.slice A id d) ∧ ∀ j, j < id → ∃ ad, A = some ad ∧ F ad.block ∧ w.cell? (ad.add j) = some (.bool (rch (leads cs) id (j + 1))) := by
  obtain ⟨v, s, In, h⟩ := h
  obtain ⟨ss, hsl, hown, hb⟩ := h.sets
  obtain ⟨g, c, rfl, hgl, hle, _⟩ := own_some hown h.pos
  refine ⟨g, c, h.full.cell 1, fun id h1 h2 => ?_⟩
  have hk : id - 1 < ss.length := by omega
  obtain ⟨A, d, e, hr⟩ := hb (id - 1) ss[id - 1] (List.getElem?_eq_getElem hk)
  rw [show id - 1 + 1 = id by omega, setL_len] at hr
  rw [show id - 1 + 1 = id by omega, setL_len] at e
  refine ⟨A, d, ?_, fun j hj => ?_⟩
  · rw [(own_cell hown (by omega)).1, List.getElem?_eq_getElem hk, e]
  · obtain ⟨ad, ea, hf, hc⟩ := hr.2.2.2 j (.bool (rch (leads cs) id (j + 1))) (by unfold boolC; rw [List.getElem?_map, setL_at cs hj]; rfl)
    exact ⟨ad, ea, (h.inn _ hf).1, hc⟩
theorem refMany_any (h : IsR B w q cs F) : Calls Try.prog 19 #[.pointer (some ⟨q, 0, none⟩)] w fun e w' => e = .returned (.int .i64 (cs.length : Int)) ∧ w = w' := by
  obtain ⟨A, c, c0⟩ := h.len_cell
  clear h
  go_enter Try.func19, Try.ntmps19
  go_wp2
  go_ret
  exact ⟨rfl, rfl⟩
theorem refHas_any (h : IsR B w q cs F) (a : Int) : Calls Try.prog 39 #[.pointer (some ⟨q, 0, none⟩), .int .i64 a] w fun e w' => e = .returned (.bool (inR cs.length a)) ∧ w = w' := by
  obtain ⟨A, c, c0⟩ := h.len_cell
  obtain ⟨n, hn⟩ : ∃ n, cs.length = n := ⟨_, rfl⟩
  rw [hn] at c0 ⊢
  clear h hn
  unfold inR
  by_cases h1 : 1 ≤ a
  · go_enter Try.func39, Try.ntmps39
    go_wp2
    go_ret
    exact ⟨by simp [h1], rfl⟩
  · have h1' : a < 1 := by omega
    go_enter Try.func39, Try.ntmps39
    go_wp2
    go_ret
    exact ⟨by simp; omega, rfl⟩
set_option maxHeartbeats 4000000 in
theorem refAnc_any (h : IsR B w q cs F) (hs : cs.length ≤ 1000) (a b : Int) :
    Calls Try.prog 25 #[.pointer (some ⟨q, 0, none⟩), .int .i64 a, .int .i64 b] w fun e w' => e = .returned (.bool (anc cs a b)) ∧ w = w' := by
  have HA := Lib.hid (refHas_any h a)
  have HB := Lib.hid (refHas_any h b)
  cases ha : inR cs.length a with
  | false =>
    rw [ha] at HA
    rw [show anc cs a b = false by unfold anc; rw [ha]; rfl]
    clear ha h
    go_enter Try.func25, Try.ntmps25
    go_wp2_with (first
      | (go_at_call 39; ((with_reducible refine HA.out.mono ?_); rintro e w1 ⟨rfl, rfl⟩))
      | (go_at_call 39; ((with_reducible refine HB.out.mono ?_); rintro e w2 ⟨rfl, rfl⟩)))
    go_ret
    exact ⟨rfl, rfl⟩
  | true =>
    rw [ha] at HA
    cases hb : inR cs.length b with
    | false =>
      rw [hb] at HB
      rw [show anc cs a b = false by unfold anc; rw [ha, hb]; rfl]
      clear ha hb h
      go_enter Try.func25, Try.ntmps25
      go_wp2_with (first
        | (go_at_call 39; ((with_reducible refine HA.out.mono ?_); rintro e w1 ⟨rfl, rfl⟩))
        | (go_at_call 39; ((with_reducible refine HB.out.mono ?_); rintro e w2 ⟨rfl, rfl⟩)))
      go_ret
      exact ⟨rfl, rfl⟩
    | true =>
      rw [hb] at HB
      have ha' := inR_iff.1 ha
      have hb' := inR_iff.1 hb
      obtain ⟨x, rfl⟩ : ∃ x : Nat, a = x := ⟨a.toNat, by omega⟩
      obtain ⟨y, rfl⟩ : ∃ y : Nat, b = y := ⟨b.toNat, by omega⟩
      have hanc : anc cs (x : Int) (y : Int) = rch (leads cs) y x := by unfold anc; rw [ha, hb]; simp
      rw [hanc]
      by_cases hxy : x ≤ y
      · have hxyi : (x : Int) ≤ (y : Int) := by omega
        obtain ⟨g, c, c1, hset⟩ := h.set_cells
        obtain ⟨A, d, c2, hbits⟩ := hset y (by omega) (by omega)
        obtain ⟨ad, rfl, _, c3⟩ := hbits (x - 1) (by omega)
        rw [show x - 1 + 1 = x by omega] at c3
        obtain ⟨r, hr⟩ : ∃ r, rch (leads cs) y x = r := ⟨_, rfl⟩
        rw [hr] at c3 ⊢
        obtain ⟨n, hn⟩ : ∃ n, cs.length = n := ⟨_, rfl⟩
        rw [hn] at c1 ha' hb' hs
        have i0 : (0 : Int) ≤ (x : Int) - 1 := by omega
        have i1 : (x : Int) - 1 < (y : Int) := by omega
        have j0 : (0 : Int) ≤ (y : Int) - 1 := by omega
        have j1 : (y : Int) - 1 < (n : Int) := by omega
        clear h ha hb hset hbits hr hn hanc
        go_enter Try.func25, Try.ntmps25
        go_wp2_with (first
          | (go_at_call 39; ((with_reducible refine HA.out.mono ?_); rintro e w1 ⟨rfl, rfl⟩))
          | (go_at_call 39; ((with_reducible refine HB.out.mono ?_); rintro e w2 ⟨rfl, rfl⟩)))
        go_ret
        exact ⟨rfl, rfl⟩
      · have hxyi : (y : Int) < (x : Int) := by omega
        have hf : rch (leads cs) y x = false := by
          cases e : rch (leads cs) y x with
          | false => rfl
          | true => have := rch_le (leads_down h.good) _ _ e; omega
        rw [hf]
        clear h ha hb hf hanc
        go_enter Try.func25, Try.ntmps25
        go_wp2_with (first
          | (go_at_call 39; ((with_reducible refine HA.out.mono ?_); rintro e w1 ⟨rfl, rfl⟩))
          | (go_at_call 39; ((with_reducible refine HB.out.mono ?_); rintro e w2 ⟨rfl, rfl⟩)))
        go_ret
        exact ⟨rfl, rfl⟩
/-- what Base's loop finds from n down -/
theorem base_above {cs : List Cm} {a b : Int} {k : Nat} (h : anc cs k a = true) (h2 : anc cs k b = true) (hk : ∀ j : Nat, k < j → (j : Int) ≤ min a b → ¬ (anc cs j a = true ∧ anc cs j b = true)) (hkm : (k : Int) ≤ min a b) : baseP cs a b = k := by
  unfold anc at h h2
  simp only [Bool.and_eq_true] at h h2
  have hb : (inR cs.length a && inR cs.length b) = true := by rw [h.1.2, h2.1.2]; rfl
  have ha' := inR_iff.1 h.1.2
  have hb' := inR_iff.1 h2.1.2
  have hk' := inR_iff.1 h.1.1
  unfold baseP
  rw [if_pos hb]
  rw [Int.toNat_natCast] at h h2
  refine top_eq (by omega) (fun _ => by unfold both; rw [h.2, h2.2]; rfl) fun j hj hjm => ?_
  cases e : both cs a.toNat b.toNat j with
  | false => rfl
  | true =>
    refine absurd ?_ (hk j hj (by omega))
    unfold both at e
    rw [Bool.and_eq_true] at e
    unfold anc
    rw [Int.toNat_natCast, h.1.2, h2.1.2, e.1, e.2, inR_nat.2 (by omega)]
    simp
theorem base_zero {cs : List Cm} {a b : Int} (hk : ∀ j : Nat, 0 < j → (j : Int) ≤ min a b → ¬ (anc cs j a = true ∧ anc cs j b = true)) : baseP cs a b = 0 := by
  unfold baseP
  split
  · next h =>
    simp only [Bool.and_eq_true, inR_iff] at h
    refine top_eq (Nat.zero_le _) (fun h => by omega) fun j hj hjm => ?_
    cases e : both cs a.toNat b.toNat j with
    | false => rfl
    | true =>
      refine absurd ?_ (hk j hj (by omega))
      unfold both at e
      rw [Bool.and_eq_true] at e
      unfold anc
      rw [Int.toNat_natCast, inR_iff.2 h.1, inR_iff.2 h.2, e.1, e.2, inR_nat.2 (by omega)]
      simp
  · rfl
set_option maxHeartbeats 4000000 in
theorem refBase_any (h : IsR B w q cs F) (hs : cs.length ≤ 1000) (a b : Int) :
    Calls Try.prog 27 #[.pointer (some ⟨q, 0, none⟩), .int .i64 a, .int .i64 b] w fun e w' => e = .returned (.int .i64 ((baseP cs a b : Nat) : Int)) ∧ w = w' := by
  obtain ⟨A, c, c0⟩ := h.len_cell
  have AA := Lib.hid (fun (n x : Int) => refAnc_any h hs n x)
  obtain ⟨R, hR⟩ : ∃ R, baseP cs a b = R := ⟨_, rfl⟩
  have HR := Lib.hid hR
  rw [hR]
  obtain ⟨n, hn⟩ : ∃ n, cs.length = n := ⟨_, rfl⟩
  have HN := Lib.hid hn
  rw [hn] at c0 hs
  obtain ⟨m, hm⟩ : ∃ m : Int, min a b = m := ⟨_, rfl⟩
  have HM := Lib.hid hm
  clear h hR hn hm
  go_enter Try.func27, Try.ntmps27
  go_wp2_with fail
  all_goals
    go_loopw [7] (fun v7 wr => ∃ (k : Int), v7 = .int .i64 k ∧ k ≤ m ∧ wr = w ∧ (k < m → k < n) ∧ Hid (∀ j : Nat, k < j → (j : Int) ≤ m → ¬ (anc cs j a = true ∧ anc cs j b = true))) (fun v7 _ => (intOf v7).toNat)
    case atStart => exact ⟨m, by first | rfl | (have := HM.out; congr 1; omega), Int.le_refl _, rfl, fun h => by omega, Lib.hid fun j h1 h2 => by omega⟩
    case round =>
      obtain ⟨k, rfl, hkm, rfl, hkn, HK⟩ := hrel
      by_cases h1 : 1 ≤ k
      · obtain ⟨x, rfl⟩ : ∃ x : Nat, k = x := ⟨k.toNat, by omega⟩
        have A1 := Lib.hid (AA.out x a)
        have A2 := Lib.hid (AA.out x b)
        obtain ⟨p1, hp1⟩ : ∃ p1, anc cs (x : Int) a = p1 := ⟨_, rfl⟩
        obtain ⟨p2, hp2⟩ : ∃ p2, anc cs (x : Int) b = p2 := ⟨_, rfl⟩
        rw [hp1] at A1
        rw [hp2] at A2
        have HP1 := Lib.hid hp1
        have HP2 := Lib.hid hp2
        clear hp1 hp2
        by_cases hboth : p1 = true ∧ p2 = true
        · obtain ⟨rfl, rfl⟩ := hboth
          go_wp2_with (first
            | (go_at_call 25; ((with_reducible refine A1.out.mono ?_); rintro e w1 ⟨rfl, rfl⟩))
            | (go_at_call 25; ((with_reducible refine A2.out.mono ?_); rintro e w2 ⟨rfl, rfl⟩)))
          go_ret
          have := base_above HP1.out HP2.out (fun j h1 h2 => HK.out j (by omega) (by rw [HM.out] at h2; exact h2)) (by rw [HM.out]; exact hkm)
          rw [← HR.out, this]
          exact ⟨rfl, rfl⟩
        · have hnb : (p1 && p2) = false := by cases p1 <;> cases p2 <;> simp_all
          by_cases hxn : x ≤ n
          · have hxi : (x : Int) ≤ (n : Int) := by omega
            cases p1 with
            | false =>
              go_wp2_with (first
                | (go_at_call 25; ((with_reducible refine A1.out.mono ?_); rintro e w1 ⟨rfl, rfl⟩))
                | (go_at_call 25; ((with_reducible refine A2.out.mono ?_); rintro e w2 ⟨rfl, rfl⟩)))
              go_roundw
              case rel =>
                refine ⟨(x : Int) - 1, by go_num, by omega, by first | rfl | trivial, fun _ => by omega, Lib.hid fun j h1 h2 => ?_⟩
                by_cases hjx : j = x
                · subst hjx; rw [HP1.out]; simp
                · exact HK.out j (by omega) h2
              case measure => simp [intOf]; omega
            | true =>
              obtain rfl : p2 = false := by simpa using hnb
              go_wp2_with (first
                | (go_at_call 25; ((with_reducible refine A1.out.mono ?_); rintro e w1 ⟨rfl, rfl⟩))
                | (go_at_call 25; ((with_reducible refine A2.out.mono ?_); rintro e w2 ⟨rfl, rfl⟩)))
              go_roundw
              case rel =>
                refine ⟨(x : Int) - 1, by go_num, by omega, by first | rfl | trivial, fun _ => by omega, Lib.hid fun j h1 h2 => ?_⟩
                by_cases hjx : j = x
                · subst hjx; rw [HP2.out]; simp
                · exact HK.out j (by omega) h2
              case measure => simp [intOf]; omega
          · have hxi : (n : Int) < (x : Int) := by omega
            have hz : baseP cs a b = 0 := by
              have hxm : (x : Int) = m := by omega
              refine base_zero fun j h1 h2 hj => ?_
              have h3 := HM.out
              have h4 := hj.1
              have h5 := hj.2
              unfold anc at h4 h5
              simp only [Bool.and_eq_true, inR_iff] at h4 h5
              have := HN.out
              omega
            have hr0 : R = 0 := HR.out.symm.trans hz
            clear hz
            subst hr0
            cases p1 with
            | false =>
              go_wp2_with (first
                | (go_at_call 25; ((with_reducible refine A1.out.mono ?_); rintro e w1 ⟨rfl, rfl⟩))
                | (go_at_call 25; ((with_reducible refine A2.out.mono ?_); rintro e w2 ⟨rfl, rfl⟩)))
              go_ret
              exact ⟨rfl, rfl⟩
            | true =>
              obtain rfl : p2 = false := by simpa using hnb
              go_wp2_with (first
                | (go_at_call 25; ((with_reducible refine A1.out.mono ?_); rintro e w1 ⟨rfl, rfl⟩))
                | (go_at_call 25; ((with_reducible refine A2.out.mono ?_); rintro e w2 ⟨rfl, rfl⟩)))
              go_ret
              exact ⟨rfl, rfl⟩
      · have h1' : k < 1 := by omega
        have hz : baseP cs a b = 0 := base_zero fun j h1 h2 => HK.out j (by omega) (by rw [HM.out] at h2; exact h2)
        have hr0 : R = 0 := HR.out.symm.trans hz
        clear hz
        subst hr0
        go_wp2
        go_ret
        exact ⟨rfl, rfl⟩
end
end Go.Proofs.Ytiikbekboapphaa
