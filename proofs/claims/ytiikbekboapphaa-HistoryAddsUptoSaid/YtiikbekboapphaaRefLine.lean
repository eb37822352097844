/- The reference's Line. -/
import Derived.Test.YtiikbekboapphaaRefL
import Derived.Test.YtiikbekboapphaaLineP
namespace Go.Proofs.Ytiikbekboapphaa
set_option maxRecDepth 100000
open Go.RowKit
theorem desc_pair (R : Nat → Bool) : ∀ n, (desc R n).Pairwise (· > ·)
  | 0 => List.Pairwise.nil
  | n + 1 => by
    unfold desc
    split
    · exact List.pairwise_cons.2 ⟨fun k hk => by have := (desc_mem.1 hk).2.1; omega, desc_pair R n⟩
    · exact desc_pair R n
theorem chain {lead : Nat → List Nat} (hd : Down lead) (h1 : ∀ b, (lead b).length ≤ 1) : ∀ b a c, rch lead b a = true → rch lead b c = true → c ≤ a → rch lead a c = true := by
  intro b
  induction b using Nat.strongRecOn with
  | ind b ih =>
    intro a c ha hc hle
    rcases (rch_iff hd b a).1 ha with rfl | ⟨p, hp, hra⟩
    · exact hc
    · have hpb := hd b p hp
      have hap := rch_le hd _ _ hra
      rcases (rch_iff hd b c).1 hc with rfl | ⟨p', hp', hrc⟩
      · omega
      · have : p = p' := by
          have hl := h1 b
          cases e : lead b with
          | nil => rw [e] at hp; cases hp
          | cons x t =>
            rw [e] at hl hp hp'
            simp at hl
            subst hl
            simp at hp hp'
            omega
        subst this
        exact ih p hpb.2 a c hra hrc hle
theorem first_next {cs : List Cm} (hg : Good cs) {y t p : Nat} (hR : rch (firsts cs) y t = true) (hp : firsts cs t = [p]) : rch (firsts cs) y p = true ∧ 1 ≤ p ∧ p < t ∧ desc (rch (firsts cs) y) (t - 1) = p :: desc (rch (firsts cs) y) (p - 1) := by
  have hd := firsts_down hg
  have hpt := hd t p (by rw [hp]; simp)
  have hRp : rch (firsts cs) y p = true := rch_trans hd _ _ _ hR ((rch_iff hd t p).2 (.inr ⟨p, by rw [hp]; simp, rch_self _ _⟩))
  have htop : top (rch (firsts cs) y) (t - 1) = p := by
    refine top_eq (by omega) (fun _ => hRp) fun k h1 h2 => ?_
    cases e : rch (firsts cs) y k with
    | false => rfl
    | true =>
      have := chain hd (fun b => by unfold firsts; rw [List.length_take]; omega) y t k hR e (by omega)
      rcases (rch_iff hd t k).1 this with h3 | ⟨p', hp', hr⟩
      · omega
      · rw [hp] at hp'
        have : p' = p := by simpa using hp'
        subst this
        have := rch_le hd _ _ hr
        omega
  refine ⟨hRp, hpt.1, hpt.2, ?_⟩
  rw [desc_top _ _ (by omega), htop]
theorem IsR.par_cells {B : Nat} {w : World} {q : Nat} {cs : List Cm} {F : Nat → Prop} (h : IsR B w q cs F) : ∃ g c, w.cell? ⟨q, 0, none⟩ = some (.slice (some ⟨g, 0, none⟩) cs.length c) ∧ ∀ id, 1 < id → id ≤ cs.length → ∃ ad m d p, w.cell? ⟨g, (id - 1) * 5, none⟩ = some (.slice (some ad) m d) ∧ 0 < m ∧ w.cell? ad = some (.int .i64 ((p : Nat) : Int)) ∧ firsts cs id = [p] := by
  obtain ⟨v, s, In, h⟩ := h
  obtain ⟨vs, hvl, hown, hints⟩ := h.obs
  obtain ⟨g, c, rfl, hgl, hle, _⟩ := own_some hown h.pos
  refine ⟨g, c, h.full.cell 0, fun id h1 h2 => ?_⟩
  have hk : id - 1 < cs.length := by omega
  obtain ⟨cm, hcm⟩ : ∃ cm, cs[id - 1] = cm := ⟨_, rfl⟩
  have hcs : cs[id - 1]? = some cm := by rw [List.getElem?_eq_getElem hk, hcm]
  obtain ⟨u, hu⟩ : ∃ u, vs[id - 1]'(by omega) = u := ⟨_, rfl⟩
  have hus : vs[id - 1]? = some u := by rw [List.getElem?_eq_getElem (by omega), hu]
  obtain ⟨⟨A, d, hA, hr⟩, _⟩ := hints _ _ _ hcs hus
  obtain ⟨hi1, hi2⟩ := ints_nat h.good hcs
  obtain ⟨p, t, hpt⟩ := leads_some h.good h1 h2
  have hm : 0 < cm.ps.length := by rw [← hi2, hpt]; simp
  obtain ⟨ad, rfl, _, hc⟩ := hr.2.2.2 0 (.int .i64 (p : Int)) (by rw [hi1, hpt]; rfl)
  refine ⟨ad, cm.ps.length, d, p, ?_, hm, hc, by unfold firsts; rw [hpt]; rfl⟩
  have hx := cmsC_at hvl hk (j := 0) (by omega)
  rw [(own_cell hown (by omega)).1]
  have : (id - 1) * 5 + 0 = (id - 1) * 5 := by omega
  rw [this] at hx
  rw [hx, hcm, hu]
  exact congrArg some hA
/-- the reference's walk along first parents stands at t -/
structure FI (w W : World) (v : Value) (cs : List Cm) (x y t : Nat) (acc : List Nat) : Prop where
  ci : CI w W v acc
  all : acc ++ (t :: desc (rch (firsts cs) y) (t - 1)) = desc (rch (firsts cs) y) y
  rt : rch (firsts cs) y t = true
  no : x ∉ acc
theorem FI.none {w W : World} {v : Value} {cs : List Cm} {x y : Nat} {acc : List Nat} (hg : Good cs) (h : FI w W v cs x y 1 acc) (h1 : 1 ≤ x) (hx : x ≠ 1) : rch (firsts cs) y x = false := by
  cases e : rch (firsts cs) y x with
  | false => rfl
  | true =>
    have hm : x ∈ desc (rch (firsts cs) y) y := desc_mem.2 ⟨h1, rch_le (firsts_down hg) _ _ e, e⟩
    rw [← h.all] at hm
    rcases List.mem_append.1 hm with hm | hm
    · exact absurd hm h.no
    · simp [desc] at hm; omega
theorem FI.yes {w W : World} {v : Value} {cs : List Cm} {x y : Nat} {acc : List Nat} (h1 : 1 ≤ x) (h : FI w W v cs x y x acc) : rch (firsts cs) y x = true ∧ lineR cs x y = acc.reverse := by
  refine line_yes h1 (by unfold restL; rw [if_neg (by omega)]; exact h.all) fun k hk => ?_
  have hp := desc_pair (rch (firsts cs) y) y
  rw [← h.all] at hp
  exact (List.pairwise_append.1 hp).2.2 k hk x (by simp)
set_option maxHeartbeats 8000000 in
theorem refLine_any {B : Nat} {w : World} {q : Nat} {cs : List Cm} {F : Nat → Prop} (h : IsR B w q cs F) (hs : cs.length ≤ 1000) (a b : Int) :
    Calls Try.prog 29 #[.pointer (some ⟨q, 0, none⟩), .int .i64 a, .int .i64 b] w (LineOut w (lineOk cs a b) (lineP cs a b)) := by
  have HA := Lib.hid (refHas_any h a)
  have HB := Lib.hid (refHas_any h b)
  obtain ⟨i3, hi, hz0, hz1, hz2⟩ := info_parts info3
  cases ha : inR cs.length a with
  | false =>
    rw [ha] at HA
    have h1 : lineOk cs a b = false := by unfold lineOk; rw [ha]; rfl
    rw [show lineP cs a b = [] by unfold lineP; rw [h1]; rfl, h1]
    clear h ha h1
    go_enter Try.func29, Try.ntmps29
    go_wp2_with (first
      | (go_at_call 39; ((with_reducible refine HA.out.mono ?_); rintro e w1 ⟨rfl, rfl⟩))
      | (go_at_call 39; ((with_reducible refine HB.out.mono ?_); rintro e w2 ⟨rfl, rfl⟩)))
    refine bodyPost_ret (v := .tuple #[.slice none 0 0, .bool false]) (by simp [results, Try.results29, go_sem]) rfl ?_
    exact line_none (Below.refl _ _)
  | true =>
    cases hb : inR cs.length b with
    | false =>
      rw [ha] at HA
      rw [hb] at HB
      have h1 : lineOk cs a b = false := by unfold lineOk; rw [ha, hb]; rfl
      rw [show lineP cs a b = [] by unfold lineP; rw [h1]; rfl, h1]
      clear h ha hb h1
      go_enter Try.func29, Try.ntmps29
      go_wp2_with (first
        | (go_at_call 39; ((with_reducible refine HA.out.mono ?_); rintro e w1 ⟨rfl, rfl⟩))
        | (go_at_call 39; ((with_reducible refine HB.out.mono ?_); rintro e w2 ⟨rfl, rfl⟩)))
      refine bodyPost_ret (v := .tuple #[.slice none 0 0, .bool false]) (by simp [results, Try.results29, go_sem]) rfl ?_
      exact line_none (Below.refl _ _)
    | true =>
      have ha' := inR_iff.1 ha
      have hb' := inR_iff.1 hb
      obtain ⟨x, rfl⟩ : ∃ x : Nat, a = x := ⟨a.toNat, by omega⟩
      obtain ⟨y, rfl⟩ : ∃ y : Nat, b = y := ⟨b.toNat, by omega⟩
      rw [ha] at HA
      rw [hb] at HB
      have hok : lineOk cs (x : Int) (y : Int) = rch (firsts cs) y x := by unfold lineOk; rw [ha, hb]; simp
      have hP : lineP cs (x : Int) (y : Int) = if rch (firsts cs) y x then lineR cs x y else [] := by unfold lineP; rw [hok]; simp
      rw [hok, hP]
      have hg := h.good
      have HG := Lib.hid hg
      have CELLS := Lib.hid (fun (W : World) (hb : Below w.heap.size w W) => (h.on hb).par_cells)
      obtain ⟨OK, hOK⟩ : ∃ OK, rch (firsts cs) y x = OK := ⟨_, rfl⟩
      have HOK := Lib.hid hOK
      rw [hOK]
      obtain ⟨RES, hRES⟩ : ∃ RES, (if OK = true then lineR cs x y else []) = RES := ⟨_, rfl⟩
      have HRES := Lib.hid hRES
      rw [hRES]
      have hx0 : 1 ≤ x := by omega
      have hy0 : 1 ≤ y := by omega
      have HD0 := Lib.hid (show y :: desc (rch (firsts cs) y) (y - 1) = desc (rch (firsts cs) y) y from by
        have e : top (rch (firsts cs) y) y = y := top_self (rch_self _ _)
        have := desc_top (rch (firsts cs) y) y (by omega)
        rw [e] at this
        exact this.symm)
      obtain ⟨N, hN⟩ : ∃ N, cs.length = N := ⟨_, rfl⟩
      rw [hN] at ha' hb' hs CELLS
      have hxN : x ≤ N := by omega
      have hyN : y ≤ N := by omega
      clear h ha hb ha' hb' hok hP hg hOK hRES hN
      go_enter Try.func29, Try.ntmps29
      go_wp2_with (first
        | (go_at_call 39; ((with_reducible refine HA.out.mono ?_); rintro e w1 ⟨rfl, rfl⟩))
        | (go_at_call 39; ((with_reducible refine HB.out.mono ?_); rintro e w2 ⟨rfl, rfl⟩)))
      go_loopw [10, 11] (fun v10 v11 wr => ∃ (A : Option Addr) (n c t : Nat) (acc : List Nat), v10 = .slice A n c ∧ v11 = .int .i64 (t : Int) ∧ n + t ≤ y ∧ 1 ≤ t ∧ Hid (FI w wr (.slice A n c) cs x y t acc ∧ acc.length = n)) (fun _ v11 _ => (intOf v11).toNat)
      case atStart => exact ⟨none, 0, 0, y, [], rfl, rfl, by omega, hy0, Lib.hid ⟨⟨⟨Below.refl _ _, World.ownsRow_nil _ _ _ _⟩, by rw [List.nil_append]; exact HD0.out, rch_self _ _, by simp⟩, rfl⟩⟩
      case round =>
        obtain ⟨A, n, c, t, acc, rfl, rfl, hnt, ht1, H⟩ := hrel
        by_cases htx : t = x
        · subst htx
          have HY := Lib.hid (H.out.1.yes hx0)
          have hrow := H.out.1.ci.row
          rw [H.out.2] at hrow
          have HROW := Lib.hid (Row.own hrow)
          have HCI := Lib.hid H.out.1.ci
          have HLN := Lib.hid H.out.2
          have hn1 : n ≤ 1000 := by omega
          clear hrow
          go_wp2_with fail
          go_loopw [12, 13] (fun v12 v13 wq => ∃ (A2 : Option Addr) (c2 i : Nat), v12 = .slice A2 i c2 ∧ v13 = .int .i64 ((n : Int) - 1 - (i : Int)) ∧ i ≤ n ∧ Hid (CI wr wq (.slice A2 i c2) (acc.reverse.take i))) (fun v12 _ _ => n - (match v12 with | .slice _ i _ => i | _ => 0))
          case atStart => exact ⟨none, 0, 0, rfl, by simp, by omega, Lib.hid ⟨Below.refl _ _, by rw [List.take_zero]; exact World.ownsRow_nil _ _ _ _⟩⟩
          case round =>
            obtain ⟨A2, c2, i, rfl, rfl, hin, HC⟩ := hrel
            have htl : (acc.reverse.take i).length = i := by rw [List.length_take, List.length_reverse, HLN.out]; omega
            have HTL := Lib.hid htl
            by_cases hil : i < n
            · have hge : (0 : Int) ≤ (n : Int) - 1 - (i : Int) := by omega
              have hR2 := Row.below HROW.out HC.out.below (Nat.le_refl _)
              obtain ⟨j, hj⟩ : ∃ j, n - 1 - i = j := ⟨_, rfl⟩
              have ej : (n : Int) - 1 - (i : Int) = (j : Int) := by omega
              rw [ej] at hge ⊢
              have j1 : (j : Int) < (n : Int) := by omega
              have hjl : j < acc.length := by rw [HLN.out]; omega
              obtain ⟨ad, rfl, _, c1⟩ := hR2.2.2.2 j _ (natC_at acc j hjl)
              obtain ⟨z, hz⟩ : ∃ z, acc.getD j 0 = z := ⟨_, rfl⟩
              rw [hz] at c1
              have HZ := Lib.hid hz
              have HJ := Lib.hid hj
              have hown := HC.out.row
              rw [htl] at hown
              have HO := Lib.hid hown
              have hsz := HC.out.below.size
              clear hR2 hown htl hz hj
              go_wp2_with (at_builtin; refine wpList_append_lies _ rfl _ _ 23 rfl _ 3 i3 _ 1 8 Try.underlying23 hi hz0 hz1 hz2 rfl (by decide) (.slice A2 i c2) i _ rfl (HO.out.alloc _) ⟨wr.heap.size, 0, none⟩ 1 1 [.int .i64 (z : Int)] rfl rfl (cell_one_new _ _ _) (by simp [Value.oneCell']) (by omega) (by unfold maxLen; omega) (by omega) (by simp; omega) (wr.heap.size + 1) (by simp) ?_; intro g5 c5 w5 hown5 hgrow5 hat5 hlt5)
              go_roundw
              case rel =>
                have hadd := HC.out.add HTL.out hown5 hgrow5
                refine ⟨some ⟨g5, 0, none⟩, c5, i + 1, rfl, by have := HJ.out; first | (congr 1; omega) | (congr 1; go_num; omega), by omega, Lib.hid ?_⟩
                have e1 : acc.reverse.take (i + 1) = acc.reverse.take i ++ [z] := by
                  rw [List.take_succ_eq_append_getElem (by rw [List.length_reverse, HLN.out]; exact hil)]
                  congr 2
                  rw [List.getElem_reverse]
                  have := HZ.out
                  have h2 : acc.length - 1 - i = j := by rw [HLN.out]; exact HJ.out
                  rw [← this]
                  simp [h2, hjl]
                rw [e1]
                exact hadd
              case measure => first | (simp; done) | (simp; omega)
            · obtain rfl : i = n := by omega
              have hlt : (i : Int) - 1 - (i : Int) < 0 := by omega
              go_wp2
              refine bodyPost_ret (v := .tuple #[.slice A2 i c2, .bool true]) (by simp [results, Try.results29, go_sem]) rfl ?_
              have e0 : acc.reverse.take i = acc.reverse := List.take_of_length_le (by rw [List.length_reverse, HLN.out]; exact Nat.le_refl _)
              have hfin := HC.out
              rw [e0] at hfin
              have hOKt : OK = true := HOK.out.symm.trans HY.out.1
              rw [← HRES.out, hOKt, if_pos rfl, HY.out.2]
              have hl : acc.reverse.length = i := by rw [List.length_reverse, HLN.out]
              have hr := hfin.row
              rw [hl] at hr
              refine ⟨A2, c2, by rw [hl], ?_, Below.then_ HCI.out.below hfin.below⟩
              rw [hl]
              exact owns_base hr fun g e => Nat.le_trans HCI.out.below.size (row_ge hr g e)
        · have hne : ((t : Int) == (x : Int)) = false := by simp; omega
          by_cases ht0 : t = 1
          · subst ht0
            have HNO := Lib.hid (H.out.1.none HG.out hx0 (fun e => htx e.symm))
            have hne2 : ((1 : Int) == (x : Int)) = false := by simp; omega
            go_wp2
            refine bodyPost_ret (v := .tuple #[.slice none 0 0, .bool false]) (by simp [results, Try.results29, go_sem]) rfl ?_
            have hOKf : OK = false := HOK.out.symm.trans HNO.out
            rw [← HRES.out, hOKf]
            exact line_none H.out.1.ci.below
          · have hn1 : ((t : Int) == 1) = false := by simp; omega
            have hown := H.out.1.ci.row
            rw [H.out.2] at hown
            have HO := Lib.hid hown
            have hsz := H.out.1.ci.below.size
            have HB5 := Lib.hid (fun (w5 : World) (hgrow5 : (wr.alloc (.cells #[.int .i64 (t : Int)] 3)).grownBy w5 (Value.slice A n c).ownBlock) => (show Below w.heap.size w w5 from (H.out.1.ci.below.alloc H.out.1.ci.below.size _).grown hgrow5 (by simp; omega) (row_ge H.out.1.ci.row)))
            have i0 : (0 : Int) ≤ (t : Int) - 1 := by omega
            have i1 : (t : Int) - 1 < (N : Int) := by omega
            clear hown
            go_wp2_with (at_builtin; refine wpList_append_lies _ rfl _ _ 23 rfl w.heap.size 3 i3 _ 1 8 Try.underlying23 hi hz0 hz1 hz2 rfl (by decide) (.slice A n c) n _ rfl (HO.out.alloc _) ⟨wr.heap.size, 0, none⟩ 1 1 [.int .i64 (t : Int)] rfl rfl (cell_one_new _ _ _) (by simp [Value.oneCell']) (by omega) (by unfold maxLen; omega) (by omega) (by simp; omega) (wr.heap.size + 1) (by simp) ?_; intro g5 c5 w5 hown5 hgrow5 hat5 hlt5; (obtain ⟨gq, cq, d1, dset⟩ := CELLS.out w5 (HB5.out w5 hgrow5)); (obtain ⟨adp, mp, dp, pp, d2, dm, d3, dfp⟩ := dset t (by omega) (by omega)); (have HFP := Lib.hid dfp); (have dmi : (0 : Int) < (mp : Int) := by omega); clear dset dfp)
            go_roundw
            case rel =>
              obtain ⟨k1, k2, k3, k4⟩ := first_next HG.out H.out.1.rt HFP.out
              refine ⟨some ⟨g5, 0, none⟩, n + 1, c5, pp, acc ++ [t], rfl, rfl, by omega, k2, Lib.hid ⟨⟨H.out.1.ci.add H.out.2 hown5 hgrow5, ?_, k1, ?_⟩, by rw [List.length_append, H.out.2]; rfl⟩⟩
              · rw [List.append_assoc, ← k4]
                exact H.out.1.all
              · intro hm
                rcases List.mem_append.1 hm with hm | hm
                · exact H.out.1.no hm
                · have : x = t := by simpa using hm
                  exact htx this.symm
            case measure =>
              obtain ⟨k1, k2, k3, k4⟩ := first_next HG.out H.out.1.rt HFP.out
              simp [intOf]; omega
end Go.Proofs.Ytiikbekboapphaa
