/- Under, the code's and the reference's. -/
import Derived.Test.YtdbikaffmpkgpaaDoorRefD
namespace Go.Proofs.YtdbikaffmpkgpaaDoor
open Go.RowKit

theorem segs_append (b : List UInt8) : ∀ (a cur : List UInt8), segsAcc cur (a ++ 47 :: b) = segsAcc cur a ++ segs b
  | [], cur => by
    have h : segsAcc cur (47 :: b) = cur :: segsAcc [] b := by rw [segsAcc, if_pos rfl]
    rw [List.nil_append, h]; rfl
  | c :: t, cur => by
    by_cases h : c = 47
    · have h1 : segsAcc cur (c :: (t ++ 47 :: b)) = cur :: segsAcc [] (t ++ 47 :: b) := by rw [segsAcc, if_pos h]
      have h2 : segsAcc cur (c :: t) = cur :: segsAcc [] t := by rw [segsAcc, if_pos h]
      rw [List.cons_append, h1, h2, segs_append b t []]; rfl
    · have h1 : segsAcc cur (c :: (t ++ 47 :: b)) = segsAcc (cur ++ [c]) (t ++ 47 :: b) := by rw [segsAcc, if_neg h]
      have h2 : segsAcc cur (c :: t) = segsAcc (cur ++ [c]) t := by rw [segsAcc, if_neg h]
      rw [List.cons_append, h1, h2, segs_append b t _]
theorem comps_append {p d t : ByteArray} (h : p.data.toList = d.data.toList ++ 47 :: t.data.toList) : comps p = comps d ++ comps t := by
  unfold comps segs
  rw [h, segs_append, List.map_append]
  rfl
theorem joinL_append : ∀ {D E : List ByteArray}, D ≠ [] → E ≠ [] → joinL (D ++ E) = joinL D ++ 47 :: joinL E
  | [], _, h, _ => absurd rfl h
  | [x], E, _, h => by rw [List.singleton_append, joinL_cons h]; rfl
  | x :: y :: t, E, _, h => by
    have ih := joinL_append (D := y :: t) (E := E) (by simp) h
    rw [show (x :: y :: t) ++ E = x :: ((y :: t) ++ E) from rfl, joinL_cons (by simp), ih, joinL_cons (x := x) (t := y :: t) (by simp)]
    simp
theorem under_prefix (p d : List UInt8) : underB p d = true ↔ (d = [] ∨ p = d ∨ ∃ t, p = d ++ 47 :: t) := by
  unfold underB
  rw [Bool.or_eq_true, Bool.or_eq_true, decide_eq_true_eq, decide_eq_true_eq, List.isPrefixOf_iff_prefix, or_assoc]
  refine or_congr_right (or_congr_right ⟨fun ⟨t, h⟩ => ⟨t, by rw [← h]; simp⟩, fun ⟨t, h⟩ => ⟨t, by rw [h]; simp⟩⟩)
/-- the components of the second are the first ones of the first -/
def prefB (P D : List ByteArray) : Bool := decide (P.take D.length = D)
theorem prefB_under (p d : ByteArray) : prefB (partsL p) (partsL d) = underS p d := by
  rw [Bool.eq_iff_iff]
  unfold prefB underS
  rw [decide_eq_true_eq, under_prefix]
  unfold partsL
  by_cases hd : d.data.toList = []
  · rw [if_pos hd]
    simp [hd]
  · rw [if_neg hd]
    have hdp := comps_pos d
    have hdn : comps d ≠ [] := fun e => by rw [e] at hdp; simp at hdp
    by_cases hp : p.data.toList = []
    · rw [if_pos hp, hp]
      constructor
      · intro h; simp at h; exact absurd h hdn
      · rintro (h | h | ⟨t, h⟩)
        · exact absurd h hd
        · exact absurd h.symm hd
        · simp at h
    · rw [if_neg hp]
      constructor
      · intro h
        have he := List.take_append_drop (comps d).length (comps p)
        rw [h] at he
        obtain ⟨E, hE⟩ : ∃ E, (comps p).drop (comps d).length = E := ⟨_, rfl⟩
        rw [hE] at he
        have hj := join_comps p
        rw [← he] at hj
        by_cases hn : E = []
        · subst hn
          rw [List.append_nil, join_comps] at hj
          exact .inr (.inl hj.symm)
        · rw [joinL_append hdn hn, join_comps] at hj
          exact .inr (.inr ⟨_, hj.symm⟩)
      · rintro (h | h | ⟨t, h⟩)
        · exact absurd h hd
        · have : p = d := Go.WideShapes.bytes_inj h
          subst this
          rw [List.take_length]
        · have hc := comps_append (t := str t) (p := p) (d := d) (by rw [h]; rfl)
          rw [hc, List.take_left' rfl]

set_option maxRecDepth 100000 in
set_option maxHeartbeats 2000000 in
theorem under_any (p d : ByteArray) (w : World) (hp : p.size ≤ maxLen) (hd : d.size ≤ maxLen) : Calls Tryd.prog 30 #[.string p, .string d] w fun e w' => e = .returned (.bool (underS p d)) ∧ w = w' := by
  unfold maxLen at hp hd
  have hu := under_prefix p.data.toList d.data.toList
  obtain ⟨R, HR⟩ : ∃ R, underS p d = R := ⟨_, rfl⟩
  change (underS p d = true ↔ _) at hu
  rw [HR] at hu ⊢
  clear HR
  have f0 : d = ByteArray.empty ↔ d.data.toList = [] := ⟨fun e => by rw [e]; rfl, fun e => Go.WideShapes.bytes_inj e⟩
  by_cases h0 : d.data.toList = []
  · have HR2 := Lib.hid (hu.2 (.inl h0))
    have h3 : d = ByteArray.empty := f0.2 h0
    subst h3
    clear hu f0 h0
    go_enter Tryd.func30, Tryd.ntmps30
    go_wp2
    go_ret
    exact ⟨by rw [HR2.out]; rfl, rfl⟩
  · have h3 : ¬ d = ByteArray.empty := fun e => h0 (f0.1 e)
    have h4 : ¬ d.toList = [] := by rw [ByteArray.toList_eq]; exact h0
    have h5 : d.toList.isEmpty = false := by rw [Bool.eq_false_iff]; intro e; exact h4 (List.isEmpty_iff.1 e)
    have bq := beq_str p d
    by_cases h1 : p.data.toList = d.data.toList
    · have HR2 := Lib.hid (hu.2 (.inr (.inl h1)))
      rw [decide_eq_true h1] at bq
      clear hu f0 h0 h1
      go_enter Tryd.func30, Tryd.ntmps30
      go_wp2
      go_ret
      exact ⟨by rw [HR2.out]; rfl, rfl⟩
    · rw [decide_eq_false h1] at bq
      by_cases h2 : d.size < p.size
      · have i1 : (d.size : Int) < (p.size : Int) := by omega
        have i2 : (d.size : Int) ≤ (p.size : Int) := by omega
        have i0 : (0 : Int) ≤ (d.size : Int) := Int.natCast_nonneg _
        have be := beq_str (p.extract 0 d.size) d
        have hx : (p.extract 0 d.size).data.toList = p.data.toList.take d.size := by rw [Lib.extract_data, List.drop_zero, Nat.sub_zero]
        obtain ⟨e, he⟩ : ∃ e, p.extract 0 d.size = e := ⟨_, rfl⟩
        rw [he] at be hx
        by_cases h6 : e.data.toList = d.data.toList
        · rw [decide_eq_true h6] at be
          have hda := drop_at p d.size h2
          have hsp := List.take_append_drop d.size p.data.toList
          rw [← hx, h6, hda] at hsp
          by_cases h47 : p[d.size] = 47
          · have k1 : p[d.size].toNat = 47 := by rw [h47]; rfl
            have k2 : ((p[d.size].toNat : Int) == 47) = true := by rw [k1]; rfl
            rw [h47] at hsp
            have HR2 := Lib.hid (hu.2 (.inr (.inr ⟨_, hsp.symm⟩)))
            clear hu f0 h0 h1 h6 hda hsp h47 hx
            go_enter Tryd.func30, Tryd.ntmps30
            go_wp2
            go_ret
            exact ⟨by rw [HR2.out]; rfl, rfl⟩
          · have k1 : ¬ p[d.size].toNat = 47 := fun e => h47 (UInt8.toNat_inj.1 e)
            have k2 : ((p[d.size].toNat : Int) == 47) = false := by rw [beq_eq_false_iff_ne]; omega
            have hR : R = false := by
              rw [Bool.eq_false_iff]
              intro hr
              rcases hu.1 hr with h | h | ⟨t, h⟩
              · exact h0 h
              · exact h1 h
              · rw [h] at hsp
                have := List.append_cancel_left hsp
                injection this with q1 _
                exact h47 q1
            have HR2 := Lib.hid hR
            clear hu f0 h0 h1 h6 hda hsp h47 hx hR
            go_enter Tryd.func30, Tryd.ntmps30
            go_wp2
            go_ret
            exact ⟨by rw [HR2.out]; rfl, rfl⟩
        · rw [decide_eq_false h6] at be
          have hR : R = false := by
            rw [Bool.eq_false_iff]
            intro hr
            rcases hu.1 hr with h | h | ⟨t, h⟩
            · exact h0 h
            · exact h1 h
            · apply h6
              rw [hx, h, List.take_left' (by rw [data_len])]
          have HR2 := Lib.hid hR
          clear hu f0 h0 h1 h6 hx hR
          go_enter Tryd.func30, Tryd.ntmps30
          go_wp2
          go_ret
          exact ⟨by rw [HR2.out]; rfl, rfl⟩
      · have i1 : ¬ (d.size : Int) < (p.size : Int) := by omega
        have hR : R = false := by
          rw [Bool.eq_false_iff]
          intro hr
          rcases hu.1 hr with h | h | ⟨t, h⟩
          · exact h0 h
          · exact h1 h
          · have := congrArg List.length h
            rw [data_len, List.length_append, data_len, List.length_cons] at this
            omega
        have HR2 := Lib.hid hR
        clear hu f0 h0 h1 hR
        go_enter Tryd.func30, Tryd.ntmps30
        go_wp2
        go_ret
        exact ⟨by rw [HR2.out]; rfl, rfl⟩

set_option maxRecDepth 100000 in
set_option maxHeartbeats 2000000 in
theorem refUnder_any (p d : ByteArray) (w : World) (hp : p.size ≤ 4398046511104) (hd : d.size ≤ 4398046511104) : Calls Tryd.prog 31 #[.string p, .string d] w (BoolB w (underS p d)) := by
  rw [← prefB_under]
  have P1 := fun W => refParts_any p W hp
  have P2 := fun W => refParts_any d W hd
  have l1 := partsL_len p
  have l2 := partsL_len d
  obtain ⟨P, HP⟩ : ∃ P, partsL p = P := ⟨_, rfl⟩
  obtain ⟨D, HD⟩ : ∃ D, partsL d = D := ⟨_, rfl⟩
  rw [HP] at P1 l1 ⊢
  rw [HD] at P2 l2 ⊢
  obtain ⟨R, HR⟩ : ∃ R, Hid (prefB P D = R) := ⟨_, Lib.hid rfl⟩
  rw [HR.out]
  have H1 := Lib.hid P1
  have H2 := Lib.hid P2
  clear HP HD P1 P2
  go_enter Tryd.func31, Tryd.ntmps31
  by_cases hlen : P.length < D.length
  · have i1 : (P.length : Int) < (D.length : Int) := by omega
    have hR : R = false := by
      rw [← HR.out]
      unfold prefB
      rw [decide_eq_false_iff_not]
      intro e
      have := congrArg List.length e
      rw [List.length_take] at this
      omega
    have HR2 := Lib.hid hR
    clear hR
    go_wp2_with (first
      | (go_at_call 25; ((with_reducible refine (H1.out _).mono ?_); rintro e w1 ⟨A, c, rfl, ho, hb⟩))
      | (go_at_call 25; ((with_reducible refine (H2.out _).mono ?_); rintro e w2 ⟨B, d, rfl, ho2, hb2⟩)))
    go_ret
    exact ⟨by rw [HR2.out]; rfl, Below.then_ hb hb2⟩
  · have i1 : ¬ (P.length : Int) < (D.length : Int) := by omega
    go_wp2_with (first
      | (go_at_call 25; ((with_reducible refine (H1.out _).mono ?_); rintro e w1 ⟨A, c, rfl, ho, hb⟩))
      | (go_at_call 25; ((with_reducible refine (H2.out _).mono ?_); rintro e w2 ⟨B, d, rfl, ho2, hb2⟩)))
    have hS1 := strs_on (Strs.own ho).2 hb2
    have hS2 := (Strs.own ho2).2
    have hB := Below.then_ hb hb2
    have hcapa := hS1.cap
    have hcapb := hS2.cap
    clear ho ho2 hb hb2
    go_loopw [7] (fun v7 wr => ∃ k q : Nat, k ≤ D.length ∧ v7 = .int .i64 k ∧ wr = w2.drewN q ∧ Hid (∀ j (h1 : j < P.length) (h2 : j < D.length), j < k → P[j] = D[j])) (fun v7 _ => D.length - (intOf v7).toNat)
    case atStart => exact ⟨0, 0, by omega, rfl, rfl, Lib.hid (fun j _ _ hj => by omega)⟩
    case round =>
      obtain ⟨k, q, hk, rfl, rfl, HE⟩ := hrel
      have hi0 : (0 : Int) ≤ (k : Int) := Int.natCast_nonneg _
      by_cases hlt : k < D.length
      · have hkp : k < P.length := by omega
        obtain ⟨ad, rfl, _, hca⟩ := hS1.at_ hkp
        obtain ⟨bd, rfl, _, hcb⟩ := hS2.at_ hlt
        obtain ⟨s, HS⟩ : ∃ s, Hid (P[k] = s) := ⟨_, Lib.hid rfl⟩
        obtain ⟨t, HT⟩ : ∃ t, Hid (D[k] = t) := ⟨_, Lib.hid rfl⟩
        rw [HS.out] at hca
        rw [HT.out] at hcb
        have hi1 : (k : Int) < (D.length : Int) := by omega
        have hi2 : (k : Int) < (P.length : Int) := by omega
        have bq := beq_str s t
        by_cases hst : s.data.toList = t.data.toList
        · rw [decide_eq_true hst] at bq
          have HST := Lib.hid (Go.WideShapes.bytes_inj hst : s = t)
          clear hst
          go_wp2_with fail
          go_quiet (fail)
          go_wp2
          go_roundw
          case rel =>
            refine ⟨k + 1, _, by omega, by go_num, rfl, Lib.hid (fun j h1 h2 hj => ?_)⟩
            rcases Nat.lt_or_ge j k with h | h
            · exact HE.out j h1 h2 h
            · obtain rfl : j = k := by omega
              rw [HS.out, HT.out]; exact HST.out
          case measure => simp [intOf]; omega
        · rw [decide_eq_false hst] at bq
          have hR : R = false := by
            rw [← HR.out]
            unfold prefB
            rw [decide_eq_false_iff_not]
            intro e
            apply hst
            have h1 : (P.take D.length)[k]'(by rw [List.length_take]; omega) = D[k] := by simp only [e]
            rw [List.getElem_take, HS.out, HT.out] at h1
            rw [h1]
          have HR2 := Lib.hid hR
          clear hst hR
          go_wp2_with fail
          go_quiet (fail)
          go_wp2
          go_ret
          exact ⟨by rw [HR2.out]; rfl, by rw [World.drewN_drewN]; exact Below.drewN_ hB _⟩
      · obtain rfl : k = D.length := by omega
        have hR : R = true := by
          rw [← HR.out]
          unfold prefB
          rw [decide_eq_true_eq]
          refine List.ext_getElem (by rw [List.length_take]; omega) fun j h1 h2 => ?_
          rw [List.getElem_take]
          exact HE.out j _ h2 h2
        have HR2 := Lib.hid hR
        clear hR
        go_wp2_with fail
        go_ret
        exact ⟨by rw [HR2.out]; rfl, Below.drewN_ hB q⟩

end Go.Proofs.YtdbikaffmpkgpaaDoor
