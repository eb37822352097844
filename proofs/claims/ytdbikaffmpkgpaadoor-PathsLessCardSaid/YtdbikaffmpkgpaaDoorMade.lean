/- Mod, Join, names, Made, odd. -/
import Derived.Test.YtdbikaffmpkgpaaDoorParts
namespace Go.Proofs.YtdbikaffmpkgpaaDoor
open Go.RowKit

def intC (zs : List Int) : List Value := zs.map (Value.int .i64 ·)
/-- the slice holds the integers zs -/
def Ints (w : World) (B : Nat) (A : Option Addr) (c : Nat) (zs : List Int) : Prop := Row w B 1 A zs.length c (intC zs)
theorem Ints.at_ {w : World} {B : Nat} {A : Option Addr} {c : Nat} {zs : List Int} (h : Ints w B A c zs) {k : Nat} (hk : k < zs.length) : ∃ ad, A = some ad ∧ ad.block < B ∧ w.cell? (ad.add k) = some (.int .i64 zs[k]) :=
  h.2.2.2 k _ (by unfold intC; rw [List.getElem?_map, List.getElem?_eq_getElem hk]; rfl)

def modN (x : Int) (m : Nat) : Nat := ((x.tmod m + m).tmod m).toNat
theorem modN_lt {x : Int} {m : Nat} (h : 0 < m) : modN x m < m := by
  have h1 := Int.lt_tmod_of_pos x (b := m) (by omega)
  have h2 := Int.tmod_lt_of_pos (x.tmod m + m) (b := m) (by omega)
  have h3 := Int.tmod_nonneg (a := x.tmod m + m) m (by omega)
  unfold modN
  omega
theorem modN_eq {x : Int} {m : Nat} (h : 0 < m) : (x.tmod m + m).tmod m = (modN x m : Int) := by
  have h1 := Int.lt_tmod_of_pos x (b := m) (by omega)
  have h3 := Int.tmod_nonneg (a := x.tmod m + m) m (by omega)
  unfold modN
  omega

set_option maxRecDepth 100000 in
theorem mod_any (x : Int) (m : Nat) (w : World) (h0 : 0 < m) (hm : m ≤ 4294967296) : Calls Tryd.prog 19 #[.int .i64 x, .int .i64 m] w fun e w' => e = .returned (.int .i64 (modN x m : Int)) ∧ w = w' := by
  have h1 := Int.lt_tmod_of_pos x (b := m) (by omega)
  have h2 := Int.tmod_lt_of_pos x (b := m) (by omega)
  have h3 := modN_eq (x := x) h0
  have h4 := modN_lt (x := x) h0
  obtain ⟨r, hr⟩ : ∃ r, x.tmod m = r := ⟨_, rfl⟩
  rw [hr] at h1 h2 h3
  have e1 : IntKind.i64.wrap r = r := by simp [IntKind.wrap, IntKind.bits, IntKind.signed]; omega
  have e2 : IntKind.i64.wrap (r + m) = r + m := by simp [IntKind.wrap, IntKind.bits, IntKind.signed]; omega
  have e3 : IntKind.i64.wrap (modN x m : Int) = (modN x m : Int) := by simp [IntKind.wrap, IntKind.bits, IntKind.signed]; omega
  obtain ⟨k, hk⟩ : ∃ k, modN x m = k := ⟨_, rfl⟩
  rw [hk] at h3 e3 ⊢
  have hm0 : ¬ (m : Int) = 0 := by omega
  have hm1 : ((m : Int) == 0) = false := by rw [beq_eq_false_iff_ne]; exact hm0
  have hm2 : ¬ m = 0 := by omega
  clear h4 hk
  go_enter Tryd.func19, Tryd.ntmps19
  go_wp2
  go_ret
  exact ⟨rfl, rfl⟩

/-- strings joined by slashes -/
def joinL : List ByteArray → List UInt8
  | [] => []
  | [x] => x.data.toList
  | x :: t => x.data.toList ++ 47 :: joinL t
theorem joinL_cons {x : ByteArray} {t : List ByteArray} (h : t ≠ []) : joinL (x :: t) = x.data.toList ++ 47 :: joinL t := by
  cases t with
  | nil => exact absurd rfl h
  | cons y t => rfl
theorem joinL_snoc (x : ByteArray) : ∀ {L : List ByteArray}, L ≠ [] → joinL (L ++ [x]) = joinL L ++ 47 :: x.data.toList
  | [], h => absurd rfl h
  | [y], _ => rfl
  | y :: z :: t, _ => by
    have ih := joinL_snoc x (L := z :: t) (by simp)
    rw [show (y :: z :: t) ++ [x] = y :: ((z :: t) ++ [x]) from rfl, joinL_cons (by simp), ih, joinL_cons (x := y) (t := z :: t) (by simp)]
    simp
theorem joinL_take_le (L : List ByteArray) : ∀ k, (joinL (L.take k)).length ≤ (joinL L).length := by
  induction L with
  | nil => intro k; simp
  | cons x t ih =>
    intro k
    cases k with
    | zero => simp [joinL]
    | succ k =>
      rw [List.take_succ_cons]
      by_cases ht : t = []
      · subst ht; simp
      · by_cases hk : t.take k = []
        · rw [hk, joinL_cons ht, joinL]; simp
        · rw [joinL_cons hk, joinL_cons ht]
          have := ih k
          simp; omega
theorem joinL_len {L : List ByteArray} {n : Nat} (h : ∀ x ∈ L, x.size ≤ n) : (joinL L).length ≤ (n + 1) * L.length := by
  induction L with
  | nil => simp [joinL]
  | cons x t ih =>
    have h1 := h x (by simp)
    have h2 := ih (fun y hy => h y (by simp [hy]))
    by_cases ht : t = []
    · subst ht
      rw [joinL, data_len]; simp; omega
    · rw [joinL_cons ht, List.length_append, data_len, List.length_cons, List.length_cons, Nat.mul_succ]
      omega
theorem segs_join : ∀ {L : List ByteArray}, L ≠ [] → (∀ x ∈ L, 47 ∉ x.data.toList) → segs (joinL L) = L.map (·.data.toList)
  | [], h, _ => absurd rfl h
  | [x], _, h => by
    rw [joinL, segs, segsAcc_last (h x (by simp))]
    rfl
  | x :: y :: t, _, h => by
    rw [joinL_cons (by simp), segs, segsAcc_cut (h x (by simp)), segs_join (by simp) (fun z hz => h z (by simp [hz]))]
    rfl
theorem comps_join {L : List ByteArray} (h : L ≠ []) (hf : ∀ x ∈ L, 47 ∉ x.data.toList) : comps (str (joinL L)) = L := by
  unfold comps
  rw [str_data, segs_join h hf, List.map_map]
  conv => rhs; rw [← List.map_id L]
  apply List.map_congr_left
  intro x _
  exact str_self x

set_option maxRecDepth 100000 in
set_option maxHeartbeats 1000000 in
theorem join_any (M : Nat) (A : Option Addr) (L : List ByteArray) (c : Nat) (w : World) (hA : Strs w M A c L) (hL : L.length ≤ 140737488355328) (hz : (joinL L).length ≤ 70368744177664) :
    Calls Tryd.prog 38 #[.slice A L.length c] w fun e w' => e = .returned (.string (str (joinL L))) ∧ w = w' := by
  obtain ⟨R, HR⟩ : ∃ R, Hid (str (joinL L) = R) := ⟨_, Lib.hid rfl⟩
  rw [HR.out]
  have hcap := hA.cap
  go_enter Tryd.func38, Tryd.ntmps38
  go_wp2
  go_loop [3, 4] (fun v3 v4 => ∃ (k : Nat) (S : ByteArray), k ≤ L.length ∧ v4 = .int .i64 k ∧ v3 = .string S ∧ Hid (S.data.toList = joinL (L.take k))) (fun _ v4 => L.length - (intOf v4).toNat)
  case atStart => exact ⟨0, ⟨#[]⟩, by omega, rfl, rfl, Lib.hid (by simp [joinL])⟩
  case round =>
    obtain ⟨k, S, hk, rfl, rfl, HS⟩ := hrel
    have hi0 : (0 : Int) ≤ (k : Int) := Int.natCast_nonneg _
    by_cases hlt : k < L.length
    · obtain ⟨ad, rfl, hadB, hca⟩ := hA.at_ hlt
      have hi1 : (k : Int) < (L.length : Int) := by omega
      have hct := List.take_succ_eq_append_getElem hlt
      have hle := joinL_take_le L (k + 1)
      obtain ⟨s, Hs⟩ : ∃ s, Hid (L[k] = s) := ⟨_, Lib.hid rfl⟩
      rw [Hs.out] at hca hct
      rcases Nat.eq_zero_or_pos k with h0 | h0
      · subst h0
        have hS : S = ByteArray.empty := Go.WideShapes.bytes_inj (by rw [HS.out]; rfl)
        subst hS
        have hap : s.data.toList = joinL (L.take (0 + 1)) := by rw [hct]; rfl
        have hsz := congrArg List.length hap
        rw [data_len] at hsz
        have hsz2 : s.size ≤ 70368744177664 := by omega
        have hca0 : w.cell? ad = some (.string s) := by
          have e : ad.add 0 = ad := by unfold Addr.add; simp
          rwa [e] at hca
        have hem : ByteArray.empty ++ s = s := ByteArray.empty_append
        have HAP := Lib.hid hap
        clear hct hap hsz hle
        go_wp2
        go_round
        case rel => exact ⟨1, s, by omega, rfl, by rw [← hem], HAP⟩
        case measure => simp [intOf]; omega
      · have hne : L.take k ≠ [] := fun e => by have := congrArg List.length e; rw [List.length_take, List.length_nil] at this; omega
        have hap : (S ++ (⟨#[47]⟩ : ByteArray) ++ s).data.toList = joinL (L.take (k + 1)) := by
          rw [app_data, app_data, HS.out, hct, joinL_snoc _ hne]
          simp
        have hsz := congrArg List.length hap
        rw [data_len, ByteArray.size_append, ByteArray.size_append] at hsz
        have h47 : (⟨#[47]⟩ : ByteArray).size = 1 := rfl
        rw [h47] at hsz
        have hsz2 : S.size + 1 + s.size ≤ 70368744177664 := by omega
        have hk0 : (0 : Int) < (k : Int) := by omega
        have HAP := Lib.hid hap
        clear hct hap hsz hle hne h47
        go_wp2
        go_round
        case rel => exact ⟨k + 1, S ++ (⟨#[47]⟩ : ByteArray) ++ s, by omega, by go_num, rfl, HAP⟩
        case measure => simp [intOf]; omega
    · obtain rfl : k = L.length := by omega
      have hS := HS.out
      rw [List.take_length] at hS
      have hR : R = S := by rw [← HR.out]; exact (str_eq hS).symm
      subst hR
      clear hS
      go_wp2
      go_ret
      exact ⟨rfl, rfl⟩

def namesL : List ByteArray := [⟨#[97]⟩, ⟨#[98]⟩, ⟨#[97, 98]⟩, ⟨#[115, 114, 99]⟩, ⟨#[109, 97, 105, 110, 46, 103, 111]⟩, ⟨#[66, 85, 73, 76, 68]⟩, ⟨#[79, 87, 78, 69, 82, 83]⟩, ⟨#[120, 45, 121]⟩, ⟨#[97, 46, 98]⟩, ⟨#[95]⟩, ⟨#[108, 105, 98]⟩, ⟨#[116, 101, 115, 116, 95, 49]⟩]

set_option maxRecDepth 100000 in
theorem names_any (w : World) : Calls Tryd.prog 42 #[] w fun e w' => ∃ ad, e = .returned (.slice (some ad) 12 12) ∧ Strs w' w'.heap.size (some ad) 12 namesL ∧ Below w.heap.size w w' := by
  have hF := Full.new w 9 (strC namesL)
  have hS : Strs (w.alloc (.cells (strC namesL).toArray 9)) (w.alloc (.cells (strC namesL).toArray 9)).heap.size (some ⟨w.heap.size, 0, none⟩) 12 namesL := hF.row 1 12 rfl 12 (Nat.le_refl _)
  have HS := Lib.hid hS
  clear hF hS
  go_enter Tryd.func42, Tryd.ntmps42
  go_wp2
  go_ret
  exact ⟨_, rfl, HS.out, (Below.refl _ w).alloc (Nat.le_refl _) _⟩

def nameOf (z : Int) : ByteArray := namesL.getD (modN z 12) ⟨#[97]⟩
def madeL (zs : List Int) : List ByteArray := (zs.take 6).map nameOf
/-- the path that numbers determine -/
def madeS (zs : List Int) : ByteArray := if zs = [] then ⟨#[97]⟩ else str (joinL (madeL zs))
theorem namesL_len : namesL.length = 12 := rfl
theorem nameOf_eq (z : Int) (h : modN z 12 < namesL.length) : nameOf z = namesL[modN z 12] := by
  unfold nameOf
  rw [List.getD_eq_getElem?_getD, List.getElem?_eq_getElem h, Option.getD_some]
theorem namesL_size : ∀ x ∈ namesL, x.size ≤ 7 := by decide +kernel
theorem namesL_pos : ∀ x ∈ namesL, 0 < x.size := by decide +kernel
theorem namesL_free : ∀ x ∈ namesL, 47 ∉ x.data.toList := by decide +kernel
theorem nameOf_mem (z : Int) : nameOf z ∈ namesL := by rw [nameOf_eq z (by rw [namesL_len]; exact modN_lt (by omega))]; exact List.getElem_mem _
theorem madeL_mem {zs : List Int} {x : ByteArray} (h : x ∈ madeL zs) : x ∈ namesL := by
  unfold madeL at h
  obtain ⟨z, _, rfl⟩ := List.mem_map.1 h
  exact nameOf_mem z
theorem madeL_len (zs : List Int) : (madeL zs).length ≤ 6 := by unfold madeL; simp; omega
theorem madeL_join (zs : List Int) : (joinL (madeL zs)).length ≤ 48 := by
  have h1 := joinL_len (L := madeL zs) (n := 7) (fun x hx => namesL_size x (madeL_mem hx))
  have h2 := madeL_len zs
  omega
theorem madeL_ne {zs : List Int} (h : zs ≠ []) : madeL zs ≠ [] := by
  unfold madeL
  cases zs with
  | nil => exact absurd rfl h
  | cons z t => simp
theorem madeS_size (zs : List Int) : 0 < (madeS zs).size ∧ (madeS zs).size ≤ 48 := by
  unfold madeS
  split
  · decide
  · next h =>
    rw [str_size]
    refine ⟨?_, madeL_join zs⟩
    have hne := madeL_ne h
    obtain ⟨x, t, e⟩ := List.exists_cons_of_ne_nil hne
    have hx := namesL_pos x (madeL_mem (by rw [e]; simp))
    rw [e]
    by_cases ht : t = []
    · subst ht; rw [joinL, data_len]; exact hx
    · rw [joinL_cons ht, List.length_append, data_len]; omega

set_option maxRecDepth 100000 in
set_option maxHeartbeats 2000000 in
theorem made_any (B : Nat) (A : Option Addr) (zs : List Int) (c : Nat) (w : World) (hA : Ints w B A c zs) (hB : B ≤ w.heap.size) (hn : zs.length ≤ maxLen) : Calls Tryd.prog 18 #[.slice A zs.length c] w (StrB w (madeS zs)) := by
  unfold maxLen at hn
  obtain ⟨i9, hi, hz0, hz1, hz2⟩ := info_parts info9
  have hcap : zs.length ≤ c := hA.2.1
  obtain ⟨R, HR⟩ : ∃ R, Hid (madeS zs = R) := ⟨_, Lib.hid rfl⟩
  rw [HR.out]
  go_enter Tryd.func18, Tryd.ntmps18
  go_wp2_with (go_at_call 42; ((with_reducible refine (names_any _).mono ?_); rintro e wn ⟨nd, rfl, hS, hb⟩))
  have hNB : Hid (∀ W, Below wn.heap.size wn W → ∀ k (hk : k < namesL.length), W.cell? (nd.add k) = some (.string namesL[k])) := Lib.hid (fun W hW k hk => by
    obtain ⟨ad, e, _, hc⟩ := (show Strs W wn.heap.size (some nd) 12 namesL from Row.below hS hW (Nat.le_refl _)).at_ (k := k) hk
    injection e with e
    subst e
    exact hc)
  clear hS
  go_loopw [4, 5] (fun v4 v5 wr => ∃ (k : Nat) (L : List ByteArray) (D : Option Addr) (d : Nat), k ≤ zs.length ∧ k ≤ 6 ∧ L.length ≤ k ∧ v5 = .int .i64 k ∧ v4 = .slice D L.length d ∧ wr.ownsRow wn.heap.size 9 1 (.slice D L.length d) L.length (strC L) ∧
      Hid (L = (zs.take k).map nameOf) ∧ Below wn.heap.size wn wr) (fun _ v5 _ => zs.length - (intOf v5).toNat)
  case atStart => exact ⟨0, [], none, 0, by omega, by omega, by simp, rfl, rfl, World.ownsRow_nil _ _ _ _, Lib.hid rfl, Below.refl _ _⟩
  case round =>
    obtain ⟨k, L, D, d, hk, hk6, hLk, rfl, rfl, hown, HL, hBw⟩ := hrel
    have hi0 : (0 : Int) ≤ (k : Int) := Int.natCast_nonneg _
    have hwn : Below w.heap.size w wr := Below.then_ hb hBw
    by_cases hlt : k < zs.length
    · have hi1 : (k : Int) < (zs.length : Int) := by omega
      by_cases h6 : k < 6
      · have hi6 : (k : Int) < 6 := by omega
        obtain ⟨ad, rfl, hadB, hca⟩ := (show Ints wr B A c zs from Row.below hA hwn hB).at_ hlt
        obtain ⟨z, HZ⟩ : ∃ z, Hid (zs[k] = z) := ⟨_, Lib.hid rfl⟩
        rw [HZ.out] at hca
        have hM := mod_any z 12 wr (by omega) (by omega)
        have hml := modN_lt (x := z) (m := 12) (by omega)
        have hno := nameOf_eq z hml
        have hnc := hNB.out wr hBw _ hml
        rw [← hno] at hnc
        obtain ⟨m, hm⟩ : ∃ m, modN z 12 = m := ⟨_, rfl⟩
        rw [hm] at hM hml hnc
        have HM := Lib.hid (show Calls Tryd.prog 19 #[.int .i64 z, .int .i64 12] wr fun e w' => e = .returned (.int .i64 (m : Int)) ∧ wr = w' from hM)
        obtain ⟨t, HTN⟩ : ∃ t, Hid (nameOf z = t) := ⟨_, Lib.hid rfl⟩
        rw [HTN.out] at hnc
        have hm0 : (0 : Int) ≤ (m : Int) := Int.natCast_nonneg _
        have hm1 : (m : Int) < 12 := by omega
        clear hM hno hm
        go_wp2_with (first
          | (go_at_call 19; ((with_reducible refine HM.out.mono ?_); rintro e w1 ⟨rfl, rfl⟩))
          | (at_builtin; refine wpList_append_own _ rfl _ _ 34 rfl wn.heap.size 9 i9 (.string ⟨#[]⟩) 1 16 Tryd.underlying34 hi hz0 hz1 hz2 rfl (by decide) (.slice D L.length d) _ _ rfl (hown.alloc _) ⟨wr.heap.size, 0, none⟩ 1 1 [.string t] rfl rfl (cell_one_new _ _ _) (by simp [Value.oneCell']) (by unfold maxLen; omega) (by omega) (by have := hBw.size; simp; omega) ?_; intro v' w3 hown3 hgrow3 _; obtain ⟨g', cap', rfl⟩ := own_succ hown3))
        go_roundw
        case rel =>
          refine ⟨k + 1, L ++ [t], _, cap', by omega, by omega, by simp; omega, by go_num, by rw [List.length_append]; rfl, ?_, Lib.hid ?_, (hBw.alloc hBw.size _).grown hgrow3 (by have := hBw.size; simp; omega) (row_ge hown)⟩
          · rw [strC_snoc, List.length_append]; exact hown3
          · rw [List.take_succ_eq_append_getElem hlt, List.map_append, ← HL.out, HZ.out, List.map_singleton, HTN.out]
        case measure => simp [intOf]; omega
      · obtain rfl : k = 6 := by omega
        have hLm : L = madeL zs := HL.out
        by_cases h0 : L = []
        · have hz : zs = [] := by
            rcases List.eq_nil_or_concat zs with h | ⟨_, _, h⟩
            · exact h
            · exact absurd (hLm.symm.trans h0) (madeL_ne (by rw [h]; simp))
          have hR : R = ⟨#[97]⟩ := by rw [← HR.out]; unfold madeS; rw [if_pos hz]
          have HR2 := Lib.hid hR
          subst h0
          clear hR hLm hz
          go_wp2
          go_ret
          exact ⟨by rw [HR2.out]; rfl, hwn⟩
        · have hz : zs ≠ [] := by
            rintro rfl
            apply h0
            rw [hLm]
            rfl
          have hR : R = str (joinL L) := by rw [← HR.out]; unfold madeS; rw [if_neg hz, hLm]
          have hlen : L.length ≠ 0 := fun e => h0 (List.eq_nil_of_length_eq_zero e)
          have hl1 : ¬ (L.length : Int) = 0 := by omega
          have hl2 : ((L.length : Int) == 0) = false := by rw [beq_eq_false_iff_ne]; exact hl1
          have hj := madeL_join zs
          rw [← hLm] at hj
          have hJ := join_any _ D L d wr (Strs.own hown).2 (by omega) (by omega)
          rw [← hR] at hJ
          have HJ := Lib.hid hJ
          clear hR hJ hLm h0 hz hj
          go_wp2_with (go_at_call 38; ((with_reducible refine HJ.out.mono ?_); rintro e w1 ⟨rfl, rfl⟩))
          go_ret
          exact ⟨rfl, hwn⟩
    · obtain rfl : k = zs.length := by omega
      have hi1 : ¬ (zs.length : Int) < (zs.length : Int) := by omega
      have hLm : L = madeL zs := by
        rw [HL.out]
        unfold madeL
        rw [List.take_length, List.take_of_length_le hk6]
      by_cases h0 : L = []
      · have hz : zs = [] := by
          rcases List.eq_nil_or_concat zs with h | ⟨_, _, h⟩
          · exact h
          · exact absurd (hLm.symm.trans h0) (madeL_ne (by rw [h]; simp))
        have hR : R = ⟨#[97]⟩ := by rw [← HR.out]; unfold madeS; rw [if_pos hz]
        have HR2 := Lib.hid hR
        subst h0
        clear hR hLm hz
        go_wp2
        go_ret
        exact ⟨by rw [HR2.out]; rfl, hwn⟩
      · have hz : zs ≠ [] := by
          rintro rfl
          apply h0
          rw [hLm]
          rfl
        have hR : R = str (joinL L) := by rw [← HR.out]; unfold madeS; rw [if_neg hz, hLm]
        have hlen : L.length ≠ 0 := fun e => h0 (List.eq_nil_of_length_eq_zero e)
        have hl1 : ¬ (L.length : Int) = 0 := by omega
        have hl2 : ((L.length : Int) == 0) = false := by rw [beq_eq_false_iff_ne]; exact hl1
        have hj := madeL_join zs
        rw [← hLm] at hj
        have hJ := join_any _ D L d wr (Strs.own hown).2 (by omega) (by omega)
        rw [← hR] at hJ
        have HJ := Lib.hid hJ
        clear hR hJ hLm h0 hz hj
        go_wp2_with (go_at_call 38; ((with_reducible refine HJ.out.mono ?_); rintro e w1 ⟨rfl, rfl⟩))
        go_ret
        exact ⟨rfl, hwn⟩

end Go.Proofs.YtdbikaffmpkgpaaDoor
