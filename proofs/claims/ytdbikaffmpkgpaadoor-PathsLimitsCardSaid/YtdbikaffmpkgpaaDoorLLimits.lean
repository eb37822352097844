/- PathsLimits: paths and patterns are valid up to 20 components and 200 bytes, and not beyond. -/
import Derived.Test.YtdbikaffmpkgpaaDoorLaws
import Derived.Test.YtdbikaffmpkgpaaDoorSelf
namespace Go.Proofs.YtdbikaffmpkgpaaDoor.llimits
open Go.ChangeShapes Go.WideShapes Go.ChangeAt Go.RowKit

/-- the bytes of long -/
def frontL (n : Nat) : List UInt8 := (List.replicate n [97, 47]).flatten
def longL (n m : Nat) : List UInt8 := frontL n ++ List.replicate m 98
theorem frontL_succ (n : Nat) : frontL (n + 1) = frontL n ++ [97, 47] := by unfold frontL; rw [List.replicate_succ']; simp
theorem frontL_len (n : Nat) : (frontL n).length = 2 * n := by
  induction n with
  | zero => rfl
  | succ n ih => rw [frontL_succ, List.length_append, ih]; simp; omega
def longC (n m : Nat) : List ByteArray := List.replicate n ⟨#[97]⟩ ++ [str (List.replicate m 98)]
theorem long_join (m : Nat) : ∀ n, longL n m = joinL (longC n m)
  | 0 => by unfold longL longC frontL; simp [joinL, str_data]
  | n + 1 => by
    have ih := long_join m n
    have e1 : longL (n + 1) m = 97 :: 47 :: longL n m := by unfold longL frontL; simp [List.replicate_succ]
    have e2 : longC (n + 1) m = ⟨#[97]⟩ :: longC n m := by unfold longC; simp [List.replicate_succ]
    rw [e1, e2, joinL_cons (by unfold longC; simp), ih]
    rfl
theorem long_comps (n m : Nat) : comps (str (longL n m)) = longC n m := by
  rw [long_join]
  refine comps_join (by unfold longC; simp) fun x hx => ?_
  unfold longC at hx
  rcases List.mem_append.1 hx with h | h
  · rw [List.eq_of_mem_replicate h]; decide
  · rw [List.mem_singleton.1 h, str_data]
    intro hm
    exact absurd (List.eq_of_mem_replicate hm) (by decide)
theorem name_b (m : Nat) : isName (str (List.replicate m 98)) = decide (0 < m) := by
  rcases Nat.eq_zero_or_pos m with h | h
  · subst h; kernel_rfl
  · rw [decide_eq_true h]
    unfold isName consists
    rw [str_data]
    have h1 : (List.replicate m (98 : UInt8)).all (fun b => decide (2 ≤ cls b)) = true := by
      rw [List.all_eq_true]
      intro x hx
      rw [List.eq_of_mem_replicate hx]
      decide +kernel
    rw [h1, decide_eq_false (by simp; omega), decide_eq_false, decide_eq_false]
    · rfl
    · intro e
      have : (46 : UInt8) ∈ List.replicate m (98 : UInt8) := by rw [e]; simp
      exact absurd (List.eq_of_mem_replicate this) (by decide)
    · intro e
      have : (46 : UInt8) ∈ List.replicate m (98 : UInt8) := by rw [e]; simp
      exact absurd (List.eq_of_mem_replicate this) (by decide)
theorem comp_b (m : Nat) : isComp (str (List.replicate m 98)) = decide (0 < m) := by
  rcases Nat.eq_zero_or_pos m with h | h
  · subst h; kernel_rfl
  · rw [decide_eq_true h]
    exact (name_free (by rw [name_b, decide_eq_true h])).2.2
def fineN (n m : Nat) : Bool := decide (n + 1 ≤ 20) && (decide (0 < m) && decide (2 * n + m ≤ 200))
theorem long_within (perm : ByteArray → Bool) (ha : perm ⟨#[97]⟩ = true) (n m : Nat) (hb : perm (str (List.replicate m 98)) = decide (0 < m)) : within perm (str (longL n m)) = fineN n m := by
  unfold within fineN
  rw [long_comps, str_size]
  have h1 : (longL n m).length = 2 * n + m := by unfold longL; rw [List.length_append, frontL_len, List.length_replicate]
  have h2 : (longC n m).length = n + 1 := by unfold longC; simp
  have h3 : (longC n m).all perm = decide (0 < m) := by
    unfold longC
    rw [List.all_append, List.all_eq_true.2 (fun x hx => by rw [List.eq_of_mem_replicate hx]; exact ha)]
    simp [hb]
  rw [h1, h2, h3]
  cases decide (2 * n + m ≤ 200) <;> cases decide (n + 1 ≤ 20) <;> cases decide (0 < m) <;> rfl
theorem long_valid (n m : Nat) : validS (str (longL n m)) = fineN n m := long_within isName (by decide +kernel) n m (name_b m)
theorem long_pat (n m : Nat) : patS (str (longL n m)) = fineN n m := long_within isComp (by decide +kernel) n m (comp_b m)
theorem long_match (n m : Nat) : matchS (str (longL n m)) (str (longL n m)) = fineN n m := by
  cases h : fineN n m with
  | true => exact match_self (by rw [long_valid, h])
  | false => unfold matchS; rw [long_pat, h]; rfl

set_option maxRecDepth 100000 in
set_option maxHeartbeats 1000000 in
theorem long_any (n m : Nat) (w : World) (hn : n ≤ 1000) (hm : m ≤ 1000) : Calls Tryd.prog 20 #[.int .i64 (n : Int), .int .i64 (m : Int)] w fun e w' => e = .returned (.string (str (longL n m))) ∧ w = w' := by
  obtain ⟨R, HR⟩ : ∃ R, Hid (str (longL n m) = R) := ⟨_, Lib.hid rfl⟩
  rw [HR.out]
  go_enter Tryd.func20, Tryd.ntmps20
  go_wp2
  go_loop [5, 6] (fun v5 v6 => ∃ (k : Nat) (S : ByteArray), k ≤ n ∧ v6 = .int .i64 k ∧ v5 = .string S ∧ S.size ≤ 2 * k ∧ Hid (S.data.toList = frontL k)) (fun _ v6 => n - (intOf v6).toNat)
  case atStart => exact ⟨0, ⟨#[]⟩, by omega, rfl, rfl, by decide, Lib.hid rfl⟩
  case round =>
    obtain ⟨k, S, hk, rfl, rfl, hS, HS⟩ := hrel
    have hi0 : (0 : Int) ≤ (k : Int) := Int.natCast_nonneg _
    by_cases hlt : k < n
    · have hi1 : (k : Int) < (n : Int) := by omega
      have hap : (S ++ (⟨#[97, 47]⟩ : ByteArray)).data.toList = frontL (k + 1) := by rw [app_data, HS.out, frontL_succ]
      have hsz : (S ++ (⟨#[97, 47]⟩ : ByteArray)).size ≤ 2 * (k + 1) := by
        rw [ByteArray.size_append]
        have : (⟨#[97, 47]⟩ : ByteArray).size = 2 := rfl
        omega
      have HAP := Lib.hid (And.intro hap hsz)
      clear hap hsz
      go_wp2
      go_round
      case rel => exact ⟨k + 1, S ++ (⟨#[97, 47]⟩ : ByteArray), by omega, by go_num, rfl, HAP.out.2, Lib.hid HAP.out.1⟩
      case measure => simp [intOf]; omega
    · obtain rfl : k = n := by omega
      go_wp2
      go_loop [5, 7] (fun v5 v7 => ∃ (j : Nat) (T : ByteArray), j ≤ m ∧ v7 = .int .i64 j ∧ v5 = .string T ∧ T.size ≤ 2 * k + j ∧ Hid (T.data.toList = longL k j)) (fun _ v7 => m - (intOf v7).toNat)
      case atStart => exact ⟨0, S, by omega, rfl, rfl, by omega, Lib.hid (by rw [HS.out]; simp [longL])⟩
      case round =>
        obtain ⟨j, T, hj, rfl, rfl, hT, HT⟩ := hrel
        have hj0 : (0 : Int) ≤ (j : Int) := Int.natCast_nonneg _
        by_cases hlt2 : j < m
        · have hi1 : (j : Int) < (m : Int) := by omega
          have hap : (T ++ (⟨#[98]⟩ : ByteArray)).data.toList = longL k (j + 1) := by
            rw [app_data, HT.out]
            unfold longL
            rw [List.replicate_succ', List.append_assoc]
          have hsz : (T ++ (⟨#[98]⟩ : ByteArray)).size ≤ 2 * k + (j + 1) := by
            rw [ByteArray.size_append]
            have : (⟨#[98]⟩ : ByteArray).size = 1 := rfl
            omega
          have HAP := Lib.hid (And.intro hap hsz)
          clear hap hsz
          go_wp2
          go_round
          case rel => exact ⟨j + 1, T ++ (⟨#[98]⟩ : ByteArray), by omega, by go_num, rfl, HAP.out.2, Lib.hid HAP.out.1⟩
          case measure => simp [intOf]; omega
        · obtain rfl : j = m := by omega
          have hR : R = T := by rw [← HR.out]; exact (str_eq HT.out).symm
          subst hR
          go_wp2
          go_ret
          exact ⟨rfl, rfl⟩

theorem beq_self (b : Bool) : (b == b) = true := by cases b <;> rfl

set_option maxRecDepth 100000 in
set_option maxHeartbeats 4000000 in
theorem walk (a b : Int) (w : World) (hT : Tab w) : Calls Tryd.prog 4 #[.int .i64 a, .int .i64 b] w (BoolB w true) := by
  have M1 := fun W => mod_any a 24 W (by omega) (by omega)
  have l1 := modN_lt (x := a) (m := 24) (by omega)
  obtain ⟨n, hn⟩ : ∃ n, modN a 24 = n := ⟨_, rfl⟩
  rw [hn] at M1 l1
  have M2 := fun W => mod_any b 210 W (by omega) (by omega)
  have l2 := modN_lt (x := b) (m := 210) (by omega)
  obtain ⟨m, hm⟩ : ∃ m, modN b 210 = m := ⟨_, rfl⟩
  rw [hm] at M2 l2
  have HM1 := Lib.hid (show ∀ W, Calls Tryd.prog 19 #[.int .i64 a, .int .i64 24] W fun e w' => e = .returned (.int .i64 (n : Int)) ∧ W = w' from M1)
  have HM2 := Lib.hid (show ∀ W, Calls Tryd.prog 19 #[.int .i64 b, .int .i64 210] W fun e w' => e = .returned (.int .i64 (m : Int)) ∧ W = w' from M2)
  have hsize : (str (longL n m)).size ≤ 300 := by
    rw [str_size]; unfold longL; rw [List.length_append, frontL_len, List.length_replicate]; omega
  have LO := fun W => long_any n m W (by omega) (by omega)
  have V := fun (W : World) (h : Tab W) => valid_any (str (longL n m)) W h (by unfold maxLen; omega)
  have P := fun (W : World) (h : Tab W) => pat_any (str (longL n m)) W h (by unfold maxLen; omega)
  have MM := fun (W : World) (h : Tab W) => match_any (str (longL n m)) (str (longL n m)) W h (by unfold maxLen; omega) (by unfold maxLen; omega)
  simp only [long_valid] at V
  simp only [long_pat] at P
  simp only [long_match] at MM
  obtain ⟨s, hs⟩ : ∃ s, str (longL n m) = s := ⟨_, rfl⟩
  rw [hs] at LO V P MM
  obtain ⟨f, hf⟩ : ∃ f, fineN n m = f := ⟨_, rfl⟩
  rw [hf] at V P MM
  unfold fineN at hf
  have HLO := Lib.hid LO
  have HV := Lib.hid V
  have HP := Lib.hid P
  have HMM := Lib.hid MM
  have n0 : (0 : Int) ≤ (n : Int) := Int.natCast_nonneg _
  have m0 : (0 : Int) ≤ (m : Int) := Int.natCast_nonneg _
  have e1 : IntKind.i64.wrap ((n : Int) + 1) = (n : Int) + 1 := by simp [IntKind.wrap, IntKind.bits, IntKind.signed]; omega
  have e2 : IntKind.i64.wrap (2 * (n : Int)) = 2 * (n : Int) := by simp [IntKind.wrap, IntKind.bits, IntKind.signed]; omega
  have e3 : IntKind.i64.wrap (2 * (n : Int) + (m : Int)) = 2 * (n : Int) + (m : Int) := by simp [IntKind.wrap, IntKind.bits, IntKind.signed]; omega
  have hw := Way.start hT
  clear hn hm hs M1 M2 LO V P MM hsize
  by_cases h1 : n + 1 ≤ 20
  · by_cases h2 : 0 < m
    · by_cases h3 : 2 * n + m ≤ 200
      · obtain rfl : f = true := by rw [← hf]; simp; omega
        have c0 : (n : Int) + 1 ≤ 20 := by omega
        have c1 : (0 : Int) < (m : Int) := by omega
        have c2 : 2 * (n : Int) + (m : Int) ≤ 200 := by omega
        clear hf
        go_enter Tryd.func4, Tryd.ntmps4
        go_wp2_with (first
            | (go_at_call 14; (with_reducible refine (sane_any _ ?_).mono ?_); exact hw.tab; rintro e w1 ⟨rfl, hb⟩; have hw := hw.on hb)
            | (go_at_call 19; ((with_reducible refine (HM1.out _).mono ?_); rintro e w2 ⟨rfl, rfl⟩))
            | (go_at_call 19; ((with_reducible refine (HM2.out _).mono ?_); rintro e w2 ⟨rfl, rfl⟩))
            | (go_at_call 20; ((with_reducible refine (HLO.out _).mono ?_); rintro e w2 ⟨rfl, rfl⟩))
            | (go_at_call 16; (with_reducible refine (HV.out _ hw.tab).mono ?_); rintro e w3 ⟨rfl, hq⟩; have hw := hw.on (below_drawn hq))
            | (go_at_call 21; (with_reducible refine (HP.out _ hw.tab).mono ?_); rintro e w3 ⟨rfl, hq⟩; have hw := hw.on (below_drawn hq))
            | (go_at_call 22; (with_reducible refine (HMM.out _ hw.tab).mono ?_); rintro e w3 ⟨rfl, hb⟩; have hw := hw.on hb))
        go_ret
        exact ⟨rfl, hw.below⟩
      · obtain rfl : f = false := by rw [← hf]; simp; omega
        have c0 : (n : Int) + 1 ≤ 20 := by omega
        have c1 : (0 : Int) < (m : Int) := by omega
        have c2 : ¬ 2 * (n : Int) + (m : Int) ≤ 200 := by omega
        have c3 : decide (2 * (n : Int) + (m : Int) ≤ 200) = false := by rw [decide_eq_false_iff_not]; omega
        clear hf
        go_enter Tryd.func4, Tryd.ntmps4
        go_wp2_with (first
            | (go_at_call 14; (with_reducible refine (sane_any _ ?_).mono ?_); exact hw.tab; rintro e w1 ⟨rfl, hb⟩; have hw := hw.on hb)
            | (go_at_call 19; ((with_reducible refine (HM1.out _).mono ?_); rintro e w2 ⟨rfl, rfl⟩))
            | (go_at_call 19; ((with_reducible refine (HM2.out _).mono ?_); rintro e w2 ⟨rfl, rfl⟩))
            | (go_at_call 20; ((with_reducible refine (HLO.out _).mono ?_); rintro e w2 ⟨rfl, rfl⟩))
            | (go_at_call 16; (with_reducible refine (HV.out _ hw.tab).mono ?_); rintro e w3 ⟨rfl, hq⟩; have hw := hw.on (below_drawn hq))
            | (go_at_call 21; (with_reducible refine (HP.out _ hw.tab).mono ?_); rintro e w3 ⟨rfl, hq⟩; have hw := hw.on (below_drawn hq))
            | (go_at_call 22; (with_reducible refine (HMM.out _ hw.tab).mono ?_); rintro e w3 ⟨rfl, hb⟩; have hw := hw.on hb))
        go_ret
        exact ⟨rfl, hw.below⟩
    · obtain rfl : f = false := by rw [← hf]; simp; omega
      have c0 : (n : Int) + 1 ≤ 20 := by omega
      have c1 : ¬ (0 : Int) < (m : Int) := by omega
      clear hf
      go_enter Tryd.func4, Tryd.ntmps4
      go_wp2_with (first
          | (go_at_call 14; (with_reducible refine (sane_any _ ?_).mono ?_); exact hw.tab; rintro e w1 ⟨rfl, hb⟩; have hw := hw.on hb)
          | (go_at_call 19; ((with_reducible refine (HM1.out _).mono ?_); rintro e w2 ⟨rfl, rfl⟩))
          | (go_at_call 19; ((with_reducible refine (HM2.out _).mono ?_); rintro e w2 ⟨rfl, rfl⟩))
          | (go_at_call 20; ((with_reducible refine (HLO.out _).mono ?_); rintro e w2 ⟨rfl, rfl⟩))
          | (go_at_call 16; (with_reducible refine (HV.out _ hw.tab).mono ?_); rintro e w3 ⟨rfl, hq⟩; have hw := hw.on (below_drawn hq))
          | (go_at_call 21; (with_reducible refine (HP.out _ hw.tab).mono ?_); rintro e w3 ⟨rfl, hq⟩; have hw := hw.on (below_drawn hq))
          | (go_at_call 22; (with_reducible refine (HMM.out _ hw.tab).mono ?_); rintro e w3 ⟨rfl, hb⟩; have hw := hw.on hb))
      go_ret
      exact ⟨rfl, hw.below⟩
  · obtain rfl : f = false := by rw [← hf]; simp; omega
    have c0 : ¬ (n : Int) + 1 ≤ 20 := by omega
    clear hf
    go_enter Tryd.func4, Tryd.ntmps4
    go_wp2_with (first
        | (go_at_call 14; (with_reducible refine (sane_any _ ?_).mono ?_); exact hw.tab; rintro e w1 ⟨rfl, hb⟩; have hw := hw.on hb)
        | (go_at_call 19; ((with_reducible refine (HM1.out _).mono ?_); rintro e w2 ⟨rfl, rfl⟩))
        | (go_at_call 19; ((with_reducible refine (HM2.out _).mono ?_); rintro e w2 ⟨rfl, rfl⟩))
        | (go_at_call 20; ((with_reducible refine (HLO.out _).mono ?_); rintro e w2 ⟨rfl, rfl⟩))
        | (go_at_call 16; (with_reducible refine (HV.out _ hw.tab).mono ?_); rintro e w3 ⟨rfl, hq⟩; have hw := hw.on (below_drawn hq))
        | (go_at_call 21; (with_reducible refine (HP.out _ hw.tab).mono ?_); rintro e w3 ⟨rfl, hq⟩; have hw := hw.on (below_drawn hq))
        | (go_at_call 22; (with_reducible refine (HMM.out _ hw.tab).mono ?_); rintro e w3 ⟨rfl, hb⟩; have hw := hw.on hb))
    go_ret
    exact ⟨rfl, hw.below⟩
theorem contract (H : Type) (enc : TypeId × Value → H) (W : World) (base : Nat) (args : Array Value) (ds gs : List (DataW H)) (before : List MemPlace)
    (hval : ∀ (j : Nat) t v, Tryd.f4.params[j]? = some t → args[j]? = some v → Value.okWide Tryd.prog W .any base t v)
    (hW : DataW.Whole enc Tryd.prog Tryd.f4.params.toList Rows.pathsLimitsSpec.vars false W args.toList ds gs before) (hT : Tab W) :
    Calls Tryd.prog 4 args W fun e W' => ∃ v, e = .returned v ∧ Rows.pathsLimitsSpec.post enc Tryd.prog Tryd.f4 false true false false W args v W' := by
  have hW' := hW
  obtain ⟨p, q, hA0, hV, rfl, hfz, hnd⟩ := hW
  have hA : DataW.TrodAll enc Tryd.prog W 0 (fun _ => true) true Tryd.f4.params.toList args.toList ds p := hA0
  rw [Tryd.params4] at hA hval
  obtain ⟨v0, vs0, d0, ds0, p0, q0, e0, rfl, rfl, h0, r0⟩ := trodAll_cons hA
  obtain ⟨v1, vs1, d1, ds1, p1, q1, e1, rfl, rfl, h1, r1⟩ := trodAll_cons r0
  obtain ⟨rfl, rfl, rfl⟩ := trodAll_nil r1
  obtain rfl : args = #[v0, v1] := by cases args; simp_all
  obtain ⟨rfl, rfl⟩ := trodVars_none hV
  obtain ⟨a, rfl, _, _, _⟩ := open_int Tryd.underlying3 (hval 0 3 v0 rfl rfl) h0
  obtain ⟨b, rfl, _, _, _⟩ := open_int Tryd.underlying3 (hval 1 3 v1 rfl rfl) h1
  refine (walk a b W hT).mono fun e W' ⟨he, hb⟩ => ⟨_, he, law_post rfl rfl ?_ rfl rfl rfl hW' hb⟩
  rw [Tryd.params4]
  intro t ht
  have ht' : t = 3 := by simpa using ht
  obtain rfl := ht'
  exact ⟨by kernel_rfl, of_decide_eq_true (by kernel_rfl)⟩

theorem laid_met (os : Os) : laidMet Tryd.prog Rows.pathsLimitsRow.laid ((laidWorld os).forCall (fun _ _ => 0) ⟨#[], #[.int .i64 0, .int .i64 0], []⟩).memory :=
  laidMet_of_run' 8 (by kernel_rfl) (by kernel_rfl)
theorem reads (os : Os) {H : Type} (enc : TypeId × Value → H) : ∃ ds places, DataW.whole enc Tryd.prog ((laidWorld os).forCall (fun _ _ => 0) ⟨#[], #[.int .i64 0, .int .i64 0], []⟩).memory Tryd.f4.params.toList Rows.pathsLimitsSpec.vars false (#[.int .i64 0, .int .i64 0] : Array Value).toList 8 = some (ds, [], places) ∧ Rows.uptoSmall H (ds ++ []) = true :=
  ⟨[.lit (.int .i64 0), .lit (.int .i64 0)], [], by kernel_rfl, by kernel_rfl⟩

set_option maxRecDepth 100000 in
theorem lifted (os : Os) (started : os.Started) (H : Type) (enc : TypeId × Value → H) (F : Stop.Interp) :
    ReturnsInHanded {} Tryd.checked os 4 .any ((OpenSpec.ofChange Rows.pathsLimitsSpec).preRow enc Tryd.prog Tryd.f4 Rows.pathsLimitsRow.domain false Rows.pathsLimitsRow.laid) (((OpenSpec.ofChange Rows.pathsLimitsSpec).at F).post enc Tryd.prog Tryd.f4 false true false false) := by
  obtain ⟨ds, places, hx, hsm⟩ := reads os enc
  refine returnsInHanded_of_row (C := Tryd.checked) (s := (OpenSpec.ofChange Rows.pathsLimitsSpec)) ownKnob_none started (by kernel_rfl) Tryd.func4
    (witness_row_at (enc := enc) (C := Tryd.checked) false (laidWorld os) #[.int .i64 0, .int .i64 0] rfl (by kernel_rfl) (by kernel_rfl) (by kernel_rfl)
      (OpenSpec.preRow_of_cond 8 hx (by kernel_rfl) (fun k hk => by cases hk) (by kernel_rfl) (laid_met os))) ?_
  intro W base args ds gs before hval hW _ _ _ hL _ _
  exact contract H enc W base args ds gs before hval hW (tab_of_laid hL)

theorem said : Rows.PathsLimitsSaid :=
  OpenClaim.holds_of_cond 4 Tryd.f4 rfl rfl rfl rfl rfl rfl rfl ⟨rfl, rfl, rfl, rfl, rfl⟩ rfl rfl rfl rfl rfl (by kernel_rfl) Tryd.func4 (by kernel_rfl)
    (of_decide_eq_true (by kernel_rfl)) (by unfold Func.isWrapper; first | (rw [if_pos (by decide +kernel)]; kernel_rfl) | (rw [if_neg (by decide +kernel)]; exact ⟨rfl, rfl⟩))
    (fun os started H enc _ F => by rw [OpenClaim.pre_eq_preRow]; exact lifted os started H enc F)

theorem plain (f : FuncId) (fn : Func) (hf : Tryd.pinned.checked.prog.funcNamed "mainline/mainlinelaw03.PathsLimits" = some f) (hfn : Tryd.pinned.checked.prog.funcs[f]? = some fn) :
    false = Tryd.pinned.checked.prog.looks [] ∧ ∀ (j : Nat) t, fn.params[j]? = some t → Tryd.pinned.checked.prog.wantsStandIn t = false := by
  obtain rfl : f = 4 := Option.some.inj ((show Tryd.prog.funcNamed "mainline/mainlinelaw03.PathsLimits" = some 4 by kernel_rfl).symm.trans hf) |>.symm
  obtain rfl : fn = Tryd.f4 := (Option.some.inj (Tryd.func4.symm.trans hfn)).symm
  refine ⟨by kernel_rfl, fun j t ht => ?_⟩
  rw [Tryd.params4] at ht
  have hm : t ∈ [3] := by have := Array.mem_of_getElem? ht; simpa using this
  have hall : ([3].all fun u => !Tryd.prog.wantsStandIn u) = true := by kernel_rfl
  exact (show Tryd.prog.wantsStandIn t = false by simpa using List.all_eq_true.1 hall t hm)

theorem card : Rows.PathsLimitsCardSaid :=
  Claim7.holds_tied_plain_at .later [] _ _ _ _ said (fun _ h => by cases h) (by kernel_rfl) (fun _ h => by cases h) pathsLimits_row_tie rfl ⟨rfl, rfl⟩ (by kernel_rfl) rfl plain (by kernel_rfl)

end Go.Proofs.YtdbikaffmpkgpaaDoor.llimits
