/- Pattern, spoilt. -/
import Derived.Test.YtdbikaffmpkgpaaDoorOdd
namespace Go.Proofs.YtdbikaffmpkgpaaDoor
open Go.RowKit

def litsL : List ByteArray := [⟨#[42]⟩, ⟨#[42, 42]⟩, ⟨#[63]⟩, ⟨#[97, 42]⟩, ⟨#[42, 46, 103, 111]⟩, ⟨#[63, 98]⟩, ⟨#[42, 45, 42]⟩, ⟨#[42, 42]⟩, ⟨#[115, 63, 99]⟩, ⟨#[42, 97, 42, 98]⟩]
def patsL : List ByteArray := litsL ++ namesL
def patOf (z : Int) : ByteArray := patsL.getD (modN z 22) ⟨#[42, 42]⟩
def patLL (zs : List Int) : List ByteArray := (zs.take 6).map patOf
/-- the path that numbers determine -/
def patternS (zs : List Int) : ByteArray := if zs = [] then ⟨#[42, 42]⟩ else str (joinL (patLL zs))
theorem patsL_len : patsL.length = 22 := rfl
theorem patOf_eq (z : Int) (h : modN z 22 < patsL.length) : patOf z = patsL[modN z 22] := by
  unfold patOf
  rw [List.getD_eq_getElem?_getD, List.getElem?_eq_getElem h, Option.getD_some]
theorem patsL_size : ∀ x ∈ patsL, x.size ≤ 7 := by decide +kernel
theorem patsL_pos : ∀ x ∈ patsL, 0 < x.size := by decide +kernel
theorem patsL_free : ∀ x ∈ patsL, 47 ∉ x.data.toList := by decide +kernel
theorem patOf_mem (z : Int) : patOf z ∈ patsL := by rw [patOf_eq z (by rw [patsL_len]; exact modN_lt (by omega))]; exact List.getElem_mem _
theorem patLL_mem {zs : List Int} {x : ByteArray} (h : x ∈ patLL zs) : x ∈ patsL := by
  unfold patLL at h
  obtain ⟨z, _, rfl⟩ := List.mem_map.1 h
  exact patOf_mem z
theorem patLL_len (zs : List Int) : (patLL zs).length ≤ 6 := by unfold patLL; simp; omega
theorem patLL_join (zs : List Int) : (joinL (patLL zs)).length ≤ 48 := by
  have h1 := joinL_len (L := patLL zs) (n := 7) (fun x hx => patsL_size x (patLL_mem hx))
  have h2 := patLL_len zs
  omega
theorem patLL_ne {zs : List Int} (h : zs ≠ []) : patLL zs ≠ [] := by
  unfold patLL
  cases zs with
  | nil => exact absurd rfl h
  | cons z t => simp
theorem patternS_size (zs : List Int) : 0 < (patternS zs).size ∧ (patternS zs).size ≤ 48 := by
  unfold patternS
  split
  · decide
  · next h =>
    rw [str_size]
    refine ⟨?_, patLL_join zs⟩
    have hne := patLL_ne h
    obtain ⟨x, t, e⟩ := List.exists_cons_of_ne_nil hne
    have hx := patsL_pos x (patLL_mem (by rw [e]; simp))
    rw [e]
    by_cases ht : t = []
    · subst ht; rw [joinL, data_len]; exact hx
    · rw [joinL_cons ht, List.length_append, data_len]; omega

set_option maxRecDepth 100000 in
set_option maxHeartbeats 2000000 in
theorem pattern_any (B : Nat) (A : Option Addr) (zs : List Int) (c : Nat) (w : World) (hA : Ints w B A c zs) (hB : B ≤ w.heap.size) (hn : zs.length ≤ maxLen) : Calls Tryd.prog 36 #[.slice A zs.length c] w (StrB w (patternS zs)) := by
  unfold maxLen at hn
  obtain ⟨i9, hi, hz0, hz1, hz2⟩ := info_parts info9
  have hcap : zs.length ≤ c := hA.2.1
  obtain ⟨R, HR⟩ : ∃ R, Hid (patternS zs = R) := ⟨_, Lib.hid rfl⟩
  rw [HR.out]
  go_enter Tryd.func36, Tryd.ntmps36
  have hown0 : ∀ W : World, (W.alloc (.cells (strC litsL).toArray 9)).ownsRow W.heap.size 9 1 (.slice (some ⟨W.heap.size, 0, none⟩) 10 10) 10 (strC litsL) := fun W =>
    ⟨rfl, .inr ⟨W.heap.size, 10, (strC litsL).toArray, rfl, Nat.le_refl _, Full.new W 9 (strC litsL), Nat.le_refl _, by decide, rfl, rfl⟩⟩
  have hown1 := hown0 w
  have HO := Lib.hid (show (w.alloc (.cells #[Value.string ⟨#[42]⟩, Value.string ⟨#[42, 42]⟩, Value.string ⟨#[63]⟩, Value.string ⟨#[97, 42]⟩, Value.string ⟨#[42, 46, 103, 111]⟩, Value.string ⟨#[63, 98]⟩, Value.string ⟨#[42, 45, 42]⟩, Value.string ⟨#[42, 42]⟩, Value.string ⟨#[115, 63, 99]⟩, Value.string ⟨#[42, 97, 42, 98]⟩] 9)).ownsRow w.heap.size 9 1 (.slice (some ⟨w.heap.size, 0, none⟩) 10 10) 10 (strC litsL) from hown1)
  clear hown0 hown1
  go_wp2_with (first
    | (go_at_call 42; ((with_reducible refine (names_any _).mono ?_); rintro e wq ⟨nd0, rfl, hSq, hbq⟩); (have hoq := own_keep HO.out hbq); (have hB0 : Below w.heap.size w (w.alloc (.cells #[Value.string ⟨#[42]⟩, Value.string ⟨#[42, 42]⟩, Value.string ⟨#[63]⟩, Value.string ⟨#[97, 42]⟩, Value.string ⟨#[42, 46, 103, 111]⟩, Value.string ⟨#[63, 98]⟩, Value.string ⟨#[42, 45, 42]⟩, Value.string ⟨#[42, 42]⟩, Value.string ⟨#[115, 63, 99]⟩, Value.string ⟨#[42, 97, 42, 98]⟩] 9)) := (Below.refl _ w).alloc (Nat.le_refl _) _); (have hBq := Below.then_ hB0 hbq); (have hcq : ∀ (j : Nat) (u : Value), (strC namesL)[j]? = some u → wq.cell? (nd0.add j) = some u := fun j u hj => (by obtain ⟨ad, e, _, hc⟩ := hSq.2.2.2 j u hj; injection e with e; subst e; exact hc)); (have HCQ := Lib.hid hcq); clear hcq hSq)
    | (at_builtin; refine wpList_append_own _ rfl _ _ 34 rfl w.heap.size 9 i9 (.string ⟨#[]⟩) 1 16 Tryd.underlying34 hi hz0 hz1 hz2 rfl (by decide) (.slice (some ⟨w.heap.size, 0, none⟩) 10 10) _ _ rfl hoq nd0 12 12 (strC namesL) rfl rfl HCQ.out (by decide) (by decide) (by decide) hBq.size ?_; intro v' wn hownn hgrown _; obtain ⟨g', cap', rfl⟩ := own_succ hownn))
  have hS : Strs wn wn.heap.size (some ⟨g', 0, none⟩) cap' patsL := (Strs.own (L := patsL) hownn).2
  have hb : Below w.heap.size w wn := hBq.grown hgrown hBq.size (row_ge hoq)
  have hNB : Hid (∀ W, Below wn.heap.size wn W → ∀ k (hk : k < patsL.length), W.cell? ⟨g', k, none⟩ = some (.string patsL[k])) := Lib.hid (fun W hW k hk => by
    obtain ⟨ad, e, _, hc⟩ := (show Strs W wn.heap.size (some ⟨g', 0, none⟩) cap' patsL from Row.below hS hW (Nat.le_refl _)).at_ (k := k) hk
    injection e with e
    subst e
    rw [Addr.add_lit, Nat.zero_add] at hc
    exact hc)
  clear hS
  go_loopw [4, 5] (fun v4 v5 wr => ∃ (k : Nat) (L : List ByteArray) (D : Option Addr) (d : Nat), k ≤ zs.length ∧ k ≤ 6 ∧ L.length ≤ k ∧ v5 = .int .i64 k ∧ v4 = .slice D L.length d ∧ wr.ownsRow wn.heap.size 9 1 (.slice D L.length d) L.length (strC L) ∧
      Hid (L = (zs.take k).map patOf) ∧ Below wn.heap.size wn wr) (fun _ v5 _ => zs.length - (intOf v5).toNat)
  case atStart => exact ⟨0, [], none, 0, by omega, by omega, by simp, rfl, rfl, World.ownsRow_nil _ _ _ _, Lib.hid rfl, Below.refl _ _⟩
  case round =>
    obtain ⟨k, L, D, d, hk, hk6, hLk, rfl, rfl, hown, HL, hBw⟩ := hrel
    have hi0 : (0 : Int) ≤ (k : Int) := Int.natCast_nonneg _
    have hwn : Below w.heap.size w wr := Below.then_ hb hBw
    by_cases hlt : k < zs.length
    · have hi1 : (k : Int) < (zs.length : Int) := by omega
      by_cases h6 : k < 6
      · have hi6 : (k : Int) < 6 := by omega
        obtain ⟨ad, rfl, hadB, hca⟩ := (show Ints wr B A c zs from Row.below hA hwn hB).at_ hlt
        obtain ⟨z, HZ⟩ : ∃ z, Hid (zs[k] = z) := ⟨_, Lib.hid rfl⟩
        rw [HZ.out] at hca
        have hM := mod_any z 22 wr (by omega) (by omega)
        have hml := modN_lt (x := z) (m := 22) (by omega)
        have hno := patOf_eq z hml
        have hnc := hNB.out wr hBw _ hml
        rw [← hno] at hnc
        obtain ⟨m, hm⟩ : ∃ m, modN z 22 = m := ⟨_, rfl⟩
        rw [hm] at hM hml hnc
        have HM := Lib.hid (show Calls Tryd.prog 19 #[.int .i64 z, .int .i64 22] wr fun e w' => e = .returned (.int .i64 (m : Int)) ∧ wr = w' from hM)
        obtain ⟨t, HTN⟩ : ∃ t, Hid (patOf z = t) := ⟨_, Lib.hid rfl⟩
        rw [HTN.out] at hnc
        have hm0 : (0 : Int) ≤ (m : Int) := Int.natCast_nonneg _
        have hm1 : (m : Int) < 22 := by omega
        clear hM hno hm
        go_wp2_with (first
          | (go_at_call 19; ((with_reducible refine HM.out.mono ?_); rintro e w1 ⟨rfl, rfl⟩))
          | (at_builtin; refine wpList_append_own _ rfl _ _ 34 rfl wn.heap.size 9 i9 (.string ⟨#[]⟩) 1 16 Tryd.underlying34 hi hz0 hz1 hz2 rfl (by decide) (.slice D L.length d) _ _ rfl (hown.alloc _) ⟨wr.heap.size, 0, none⟩ 1 1 [.string t] rfl rfl (cell_one_new _ _ _) (by simp [Value.oneCell']) (by unfold maxLen; omega) (by omega) (by have := hBw.size; simp; omega) ?_; intro v' w3 hown3 hgrow3 _; obtain ⟨g', cap', rfl⟩ := own_succ hown3))
        go_roundw
        case rel =>
          refine ⟨k + 1, L ++ [t], _, cap', by omega, by omega, by simp; omega, by go_num, by rw [List.length_append]; rfl, ?_, Lib.hid ?_, (hBw.alloc hBw.size _).grown hgrow3 (by have := hBw.size; simp; omega) (row_ge hown)⟩
          · rw [strC_snoc, List.length_append]; exact hown3
          · rw [List.take_succ_eq_append_getElem hlt, List.map_append, ← HL.out, HZ.out, List.map_singleton, HTN.out]
        case measure => simp [intOf]; omega
      · obtain rfl : k = 6 := by omega
        have hLm : L = patLL zs := HL.out
        by_cases h0 : L = []
        · have hz : zs = [] := by
            rcases List.eq_nil_or_concat zs with h | ⟨_, _, h⟩
            · exact h
            · exact absurd (hLm.symm.trans h0) (patLL_ne (by rw [h]; simp))
          have hR : R = ⟨#[42, 42]⟩ := by rw [← HR.out]; unfold patternS; rw [if_pos hz]
          have HR2 := Lib.hid hR
          subst h0
          clear hR hLm hz
          go_wp2
          go_ret
          exact ⟨by rw [HR2.out]; rfl, hwn⟩
        · have hz : zs ≠ [] := by
            rintro rfl
            apply h0
            rw [hLm]
            rfl
          have hR : R = str (joinL L) := by rw [← HR.out]; unfold patternS; rw [if_neg hz, hLm]
          have hlen : L.length ≠ 0 := fun e => h0 (List.eq_nil_of_length_eq_zero e)
          have hl1 : ¬ (L.length : Int) = 0 := by omega
          have hl2 : ((L.length : Int) == 0) = false := by rw [beq_eq_false_iff_ne]; exact hl1
          have hj := patLL_join zs
          rw [← hLm] at hj
          have hJ := join_any _ D L d wr (Strs.own hown).2 (by omega) (by omega)
          rw [← hR] at hJ
          have HJ := Lib.hid hJ
          clear hR hJ hLm h0 hz hj
          go_wp2_with (go_at_call 38; ((with_reducible refine HJ.out.mono ?_); rintro e w1 ⟨rfl, rfl⟩))
          go_ret
          exact ⟨rfl, hwn⟩
    · obtain rfl : k = zs.length := by omega
      have hi1 : ¬ (zs.length : Int) < (zs.length : Int) := by omega
      have hLm : L = patLL zs := by
        rw [HL.out]
        unfold patLL
        rw [List.take_length, List.take_of_length_le hk6]
      by_cases h0 : L = []
      · have hz : zs = [] := by
          rcases List.eq_nil_or_concat zs with h | ⟨_, _, h⟩
          · exact h
          · exact absurd (hLm.symm.trans h0) (patLL_ne (by rw [h]; simp))
        have hR : R = ⟨#[42, 42]⟩ := by rw [← HR.out]; unfold patternS; rw [if_pos hz]
        have HR2 := Lib.hid hR
        subst h0
        clear hR hLm hz
        go_wp2
        go_ret
        exact ⟨by rw [HR2.out]; rfl, hwn⟩
      · have hz : zs ≠ [] := by
          rintro rfl
          apply h0
          rw [hLm]
          rfl
        have hR : R = str (joinL L) := by rw [← HR.out]; unfold patternS; rw [if_neg hz, hLm]
        have hlen : L.length ≠ 0 := fun e => h0 (List.eq_nil_of_length_eq_zero e)
        have hl1 : ¬ (L.length : Int) = 0 := by omega
        have hl2 : ((L.length : Int) == 0) = false := by rw [beq_eq_false_iff_ne]; exact hl1
        have hj := patLL_join zs
        rw [← hLm] at hj
        have hJ := join_any _ D L d wr (Strs.own hown).2 (by omega) (by omega)
        rw [← hR] at hJ
        have HJ := Lib.hid hJ
        clear hR hJ hLm h0 hz hj
        go_wp2_with (go_at_call 38; ((with_reducible refine HJ.out.mono ?_); rintro e w1 ⟨rfl, rfl⟩))
        go_ret
        exact ⟨rfl, hwn⟩

end Go.Proofs.YtdbikaffmpkgpaaDoor
