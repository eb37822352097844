/- The reference's Less. -/
import Derived.Test.YtdbikaffmpkgpaaDoorRefP
import Derived.Test.YtdbikaffmpkgpaaDoorOrder
import Derived.Deep.CutRange
namespace Go.Proofs.YtdbikaffmpkgpaaDoor
open Go.RowKit

def lessC : List (List UInt8) → List (List UInt8) → Bool
  | [], [] => false
  | [], _ :: _ => true
  | _ :: _, [] => false
  | x :: a, y :: b => if x = y then lessC a b else Op.bytesLess x y
/-- the bytes up to the first slash, and the components behind it -/
theorem segs_head : ∀ (l cur : List UInt8), ∃ h r, segsAcc cur l = (cur ++ h) :: r ∧ segs l = h :: r
  | [], cur => ⟨[], [], by simp [segsAcc], rfl⟩
  | c :: t, cur => by
    by_cases hc : c = 47
    · refine ⟨[], segs t, by rw [segsAcc, if_pos hc, List.append_nil]; rfl, ?_⟩
      unfold segs
      rw [segsAcc, if_pos hc]
    · obtain ⟨h, r, e1, e2⟩ := segs_head t (cur ++ [c])
      obtain ⟨h', r', e1', e2'⟩ := segs_head t [c]
      have : h' = h ∧ r' = r := by
        rw [e2] at e2'
        injection e2' with a b
        exact ⟨a.symm, b.symm⟩
      obtain ⟨rfl, rfl⟩ := this
      refine ⟨c :: h', r', by rw [segsAcc, if_neg hc, e1, List.append_assoc]; rfl, ?_⟩
      unfold segs
      rw [segsAcc, if_neg hc, List.nil_append, e1']
      rfl
theorem segs_cons_ne {c : UInt8} (hc : ¬ c = 47) (t : List UInt8) : ∃ h r, segs (c :: t) = (c :: h) :: r ∧ segs t = h :: r := by
  obtain ⟨h, r, e1, e2⟩ := segs_head t [c]
  refine ⟨h, r, ?_, e2⟩
  unfold segs
  rw [segsAcc, if_neg hc, List.nil_append, e1]; rfl
theorem segs_cons_eq (t : List UInt8) : segs (47 :: t) = [] :: segs t := by unfold segs; rw [segsAcc, if_pos rfl]
theorem lessC_segs : ∀ a b : List UInt8, lessC (segs a) (segs b) = lessB a b
  | [], [] => by simp [segs, segsAcc, lessC, lessB]
  | [], d :: b => by
    rw [lessB, show segs ([] : List UInt8) = [[]] from rfl]
    by_cases h : d = 47
    · subst h
      rw [segs_cons_eq, lessC, if_pos rfl]
      have := segs_pos b
      cases hb : segs b with
      | nil => rw [hb] at this; simp at this
      | cons => rfl
    · obtain ⟨h1, r, e, _⟩ := segs_cons_ne h b
      rw [e, lessC, if_neg (by simp)]; rfl
  | c :: a, [] => by
    rw [lessB, show segs ([] : List UInt8) = [[]] from rfl]
    by_cases h : c = 47
    · subst h
      rw [segs_cons_eq, lessC, if_pos rfl]
      have := segs_pos a
      cases hb : segs a with
      | nil => rw [hb] at this; simp at this
      | cons => rfl
    · obtain ⟨h1, r, e, _⟩ := segs_cons_ne h a
      rw [e, lessC, if_neg (by simp)]; rfl
  | c :: a, d :: b => by
    have ih := lessC_segs a b
    rw [lessB]
    by_cases hcd : c = d
    · rw [if_pos hcd]
      subst hcd
      by_cases h : c = 47
      · subst h
        rw [segs_cons_eq, segs_cons_eq, lessC, if_pos rfl, ih]
      · obtain ⟨h1, r1, e1, f1⟩ := segs_cons_ne h a
        obtain ⟨h2, r2, e2, f2⟩ := segs_cons_ne h b
        rw [f1, f2, lessC] at ih
        rw [e1, e2, lessC, ← ih]
        by_cases hh : h1 = h2
        · rw [if_pos hh, if_pos (by rw [hh])]
        · rw [if_neg hh, if_neg (by simpa using hh)]
          simp [Op.bytesLess]
    · rw [if_neg hcd]
      by_cases h : c = 47
      · subst h
        obtain ⟨h2, r2, e2, _⟩ := segs_cons_ne (fun e => hcd e.symm) b
        rw [segs_cons_eq, e2, lessC, if_neg (by simp), if_pos (.inl rfl), decide_eq_true rfl]
        rfl
      · by_cases h' : d = 47
        · subst h'
          obtain ⟨h1, r1, e1, _⟩ := segs_cons_ne h a
          rw [segs_cons_eq, e1, lessC, if_neg (by simp), if_pos (.inr rfl), decide_eq_false h]
          rfl
        · obtain ⟨h1, r1, e1, _⟩ := segs_cons_ne h a
          obtain ⟨h2, r2, e2, _⟩ := segs_cons_ne h' b
          rw [e1, e2, lessC, if_neg (by simp [hcd]), if_neg (by simp [h, h'])]
          simp [Op.bytesLess, hcd]
def dataL (L : List ByteArray) : List (List UInt8) := L.map (·.data.toList)
theorem data_comps (s : ByteArray) : dataL (comps s) = segs s.data.toList := by
  unfold dataL comps
  rw [List.map_map]
  conv => rhs; rw [← List.map_id (segs s.data.toList)]
  apply List.map_congr_left
  intro x _
  rfl
theorem less_parts (a b : ByteArray) : lessC (dataL (partsL a)) (dataL (partsL b)) = lessS a b := by
  unfold lessS partsL
  by_cases ha : a.data.toList = []
  · rw [if_pos ha, ha]
    by_cases hb : b.data.toList = []
    · rw [if_pos hb, hb]; rfl
    · rw [if_neg hb, data_comps]
      obtain ⟨c, t, e⟩ := List.exists_cons_of_ne_nil hb
      have := segs_pos b.data.toList
      cases hs : segs b.data.toList with
      | nil => rw [hs] at this; simp at this
      | cons => rw [e]; rfl
  · rw [if_neg ha, data_comps]
    by_cases hb : b.data.toList = []
    · rw [if_pos hb, hb]
      obtain ⟨c, t, e⟩ := List.exists_cons_of_ne_nil ha
      have := segs_pos a.data.toList
      cases hs : segs a.data.toList with
      | nil => rw [hs] at this; simp at this
      | cons => rw [e]; rfl
    · rw [if_neg hb, data_comps, lessC_segs]
theorem lessC_at {P N : List ByteArray} {k : Nat} (h1 : k < P.length) (h2 : k < N.length) (he : ∀ j (p : j < P.length) (n : j < N.length), j < k → P[j] = N[j]) : lessC (dataL P) (dataL N) = lessC (dataL (P.drop k)) (dataL (N.drop k)) := by
  induction k generalizing P N with
  | zero => rfl
  | succ k ih =>
    match P, N, h1, h2, he with
    | p :: P, n :: N, h1, h2, he =>
      have e : p = n := he 0 (by simp) (by simp) (by omega)
      subst e
      rw [List.drop_succ_cons, List.drop_succ_cons, ← ih (by simpa using h1) (by simpa using h2) (fun j q1 q2 q3 => he (j + 1) (by simpa using q1) (by simpa using q2) (by omega))]
      unfold dataL
      rw [List.map_cons, List.map_cons, lessC, if_pos rfl]
theorem lessC_ne {P N : List ByteArray} {k : Nat} (h1 : k < P.length) (h2 : k < N.length) (he : ∀ j (p : j < P.length) (n : j < N.length), j < k → P[j] = N[j]) (hne : ¬ P[k].data.toList = N[k].data.toList) : lessC (dataL P) (dataL N) = Op.bytesLess P[k].data.toList N[k].data.toList := by
  rw [lessC_at h1 h2 he, List.drop_eq_getElem_cons h1, List.drop_eq_getElem_cons h2]
  unfold dataL
  rw [List.map_cons, List.map_cons, lessC, if_neg hne]
theorem lessC_end : ∀ {P N : List ByteArray}, (∀ j (p : j < P.length) (n : j < N.length), P[j] = N[j]) → lessC (dataL P) (dataL N) = decide (P.length < N.length)
  | [], [], _ => rfl
  | [], _ :: _, _ => by simp [dataL, lessC]
  | _ :: _, [], _ => by simp [dataL, lessC]
  | p :: P, n :: N, he => by
    have e : p = n := he 0 (by simp) (by simp)
    subst e
    have ih := lessC_end (P := P) (N := N) (fun j q1 q2 => he (j + 1) (by simpa using q1) (by simpa using q2))
    unfold dataL at ih ⊢
    rw [List.map_cons, List.map_cons, lessC, if_pos rfl, ih]
    simp

set_option maxRecDepth 100000 in
set_option maxHeartbeats 2000000 in
theorem refLess_any (p d : ByteArray) (w : World) (hp : p.size ≤ 4398046511104) (hd : d.size ≤ 4398046511104) : Calls Tryd.prog 33 #[.string p, .string d] w (BoolB w (lessS p d)) := by
  rw [← less_parts]
  have P1 := fun W => refParts_any p W hp
  have P2 := fun W => refParts_any d W hd
  have l1 := partsL_len p
  have l2 := partsL_len d
  obtain ⟨P, HP⟩ : ∃ P, partsL p = P := ⟨_, rfl⟩
  obtain ⟨D, HD⟩ : ∃ D, partsL d = D := ⟨_, rfl⟩
  rw [HP] at P1 l1 ⊢
  rw [HD] at P2 l2 ⊢
  obtain ⟨R, HR⟩ : ∃ R, Hid (lessC (dataL P) (dataL D) = R) := ⟨_, Lib.hid rfl⟩
  rw [HR.out]
  have H1 := Lib.hid P1
  have H2 := Lib.hid P2
  clear HP HD P1 P2
  go_enter Tryd.func33, Tryd.ntmps33
  go_wp2_with (first
    | (go_at_call 25; ((with_reducible refine (H1.out _).mono ?_); rintro e w1 ⟨A, c, rfl, ho, hb⟩))
    | (go_at_call 25; ((with_reducible refine (H2.out _).mono ?_); rintro e w2 ⟨B, d, rfl, ho2, hb2⟩)))
  have hS1 := strs_on (Strs.own ho).2 hb2
  have hS2 := (Strs.own ho2).2
  have hB := Below.then_ hb hb2
  have hcapa := hS1.cap
  have hcapb := hS2.cap
  clear ho ho2 hb hb2
  go_loopw [7] (fun v7 wr => ∃ k q : Nat, k ≤ P.length ∧ k ≤ D.length ∧ v7 = .int .i64 k ∧ wr = w2.drewN q ∧ Hid (∀ j (h1 : j < P.length) (h2 : j < D.length), j < k → P[j] = D[j])) (fun v7 _ => D.length - (intOf v7).toNat)
  case atStart => exact ⟨0, 0, by omega, by omega, rfl, rfl, Lib.hid (fun j _ _ hj => by omega)⟩
  case round =>
    obtain ⟨k, q, hk, hk2, rfl, rfl, HE⟩ := hrel
    have hi0 : (0 : Int) ≤ (k : Int) := Int.natCast_nonneg _
    by_cases hlt : k < P.length ∧ k < D.length
    · obtain ⟨hkp, hkd⟩ := hlt
      obtain ⟨ad, rfl, _, hca⟩ := hS1.at_ hkp
      obtain ⟨bd, rfl, _, hcb⟩ := hS2.at_ hkd
      obtain ⟨s, HS⟩ : ∃ s, Hid (P[k] = s) := ⟨_, Lib.hid rfl⟩
      obtain ⟨t, HT⟩ : ∃ t, Hid (D[k] = t) := ⟨_, Lib.hid rfl⟩
      rw [HS.out] at hca
      rw [HT.out] at hcb
      have hi1 : (k : Int) < (D.length : Int) := by omega
      have hi2 : (k : Int) < (P.length : Int) := by omega
      have bq := beq_str s t
      by_cases hst : s.data.toList = t.data.toList
      · rw [decide_eq_true hst] at bq
        have HST := Lib.hid (Go.WideShapes.bytes_inj hst : s = t)
        clear hst
        go_wp2_with fail
        go_quiet (fail)
        go_wp2
        go_roundw
        case rel =>
          refine ⟨k + 1, _, by omega, by omega, by go_num, rfl, Lib.hid (fun j h1 h2 hj => ?_)⟩
          rcases Nat.lt_or_ge j k with h | h
          · exact HE.out j h1 h2 h
          · obtain rfl : j = k := by omega
            rw [HS.out, HT.out]; exact HST.out
        case measure => simp [intOf]; omega
      · rw [decide_eq_false hst] at bq
        have hR : R = Op.bytesLess s.toList t.toList := by
          rw [← HR.out, lessC_ne hkp hkd HE.out (by rw [HS.out, HT.out]; exact hst), HS.out, HT.out, ByteArray.toList_eq, ByteArray.toList_eq]
        have HR2 := Lib.hid hR
        clear hst hR
        go_wp2_with fail
        go_quiet (fail)
        go_wp2_with fail
        go_quiet (fail)
        go_wp2
        go_ret
        exact ⟨by rw [HR2.out]; rfl, by first | (rw [World.drewN_drewN, World.drewN_drewN]; exact Below.drewN_ hB _) | (rw [World.drewN_drewN]; exact Below.drewN_ hB _) | exact Below.drewN_ hB _⟩
    · have hR : R = decide (P.length < D.length) := by
        rw [← HR.out]
        exact lessC_end (fun j h1 h2 => HE.out j h1 h2 (by omega))
      have HR2 := Lib.hid hR
      clear hR
      by_cases hkp : k < P.length
      · have hi2 : (k : Int) < (P.length : Int) := by omega
        have hi1 : ¬ (k : Int) < (D.length : Int) := by omega
        clear hlt
        go_wp2_with fail
        go_ret
        exact ⟨by rw [HR2.out]; simp, Below.drewN_ hB q⟩
      · have hi2 : ¬ (k : Int) < (P.length : Int) := by omega
        clear hlt
        go_wp2_with fail
        go_ret
        exact ⟨by rw [HR2.out]; simp, Below.drewN_ hB q⟩

end Go.Proofs.YtdbikaffmpkgpaaDoor
