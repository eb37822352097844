/-
For every text of at most 1048576 bytes, the law LinesSplit returns true and leaves its argument as it was: the lines are the reference's, their concatenation is the text, and only the last one may lack a line feed. The bound is the row's own (bulk).
-/
import Derived.Test.YtmeoannheomdoaaLaw
import Derived.Test.YtmeoannheomdoaaSane
namespace Go.Proofs.Ytmeoannheomdoaa.lsplit
open Go.ChangeShapes Go.WideShapes Go.ChangeAt Go.RowKit
open Go.ChangeMaps (open_string)

theorem splitAcc_join : ∀ (l cur : List UInt8), (splitAcc cur l).flatten = cur ++ l
  | [], cur => by unfold splitAcc; split <;> simp_all
  | c :: t, cur => by
    unfold splitAcc
    split
    · rw [List.flatten_cons, splitAcc_join t []]; simp
    · rw [splitAcc_join t (cur ++ [c])]; simp
theorem splitAcc_end : ∀ (l cur : List UInt8) (i : Nat) (x : List UInt8), (splitAcc cur l)[i]? = some x → x ≠ [] ∧ (i + 1 < (splitAcc cur l).length → x.getLast? = some 10)
  | [], cur, i, x, h => by
    unfold splitAcc at h ⊢
    split at h
    · simp at h
    · rename_i hc
      cases i with
      | zero =>
        simp at h
        subst h
        refine ⟨hc, fun h => ?_⟩
        rw [if_neg hc] at h
        simp at h
      | succ i => simp at h
  | c :: t, cur, i, x, h => by
    unfold splitAcc at h ⊢
    split at h
    · rename_i hc
      cases i with
      | zero =>
        simp at h
        subst h
        exact ⟨by simp, fun _ => by rw [List.getLast?_concat, hc]⟩
      | succ i =>
        rw [List.getElem?_cons_succ] at h
        have := splitAcc_end t [] i x h
        rw [if_pos hc]
        refine ⟨this.1, fun hl => this.2 ?_⟩
        simp at hl
        omega
    · rename_i hc
      have := splitAcc_end t (cur ++ [c]) i x h
      rw [if_neg hc]
      exact this
theorem cat_split (s : ByteArray) : cat (splitS s) = s.data.toList := by
  unfold cat splitS splitL
  rw [List.flatMap_def, List.map_map]
  have : (fun x : ByteArray => x.data.toList) ∘ str = id := rfl
  rw [this, List.map_id, splitAcc_join]
  rfl
theorem line_end (s : ByteArray) (k : Nat) (hk : k < (splitS s).length) : 0 < (splitS s)[k].size ∧ (k + 1 < (splitS s).length → ∀ h : (splitS s)[k].size - 1 < (splitS s)[k].size, (splitS s)[k][(splitS s)[k].size - 1] = 10) := by
  have hl : (splitS s).length = (splitL s.data.toList).length := List.length_map ..
  have hx : (splitS s)[k] = str ((splitL s.data.toList)[k]'(by omega)) := List.getElem_map ..
  have he := splitAcc_end s.data.toList [] k _ (List.getElem?_eq_getElem (show k < (splitAcc [] s.data.toList).length by unfold splitL at hl; omega))
  obtain ⟨h1, h2⟩ := he
  obtain ⟨y, hy⟩ : ∃ y, (splitAcc [] s.data.toList)[k]'(by unfold splitL at hl; omega) = y := ⟨_, rfl⟩
  have hx' : (splitS s)[k] = str y := by rw [hx, ← hy]; rfl
  rw [hy] at h1 h2
  constructor
  · rw [hx', str_size]
    exact List.length_pos_iff.2 h1
  · intro hlt h
    have h3 := h2 (by unfold splitL at hl; omega)
    obtain ⟨X, hX⟩ : ∃ X, (splitS s)[k] = X := ⟨_, rfl⟩
    have h4 : ∀ (X : ByteArray) (hX : X = str y) (h : X.size - 1 < X.size), X[X.size - 1] = 10 := by
      rintro _ rfl h
      have : (str y)[(str y).size - 1] = y[y.length - 1]'(by have := str_size y; omega) := rfl
      rw [this]
      rw [List.getLast?_eq_getElem?] at h3
      have := List.getElem?_eq_some_iff.1 h3
      exact this.2
    exact h4 _ hx' h

set_option maxRecDepth 100000 in
set_option maxHeartbeats 2000000 in
theorem walk (s : ByteArray) (w : World) (hs : s.size ≤ 1048576) : Calls Try.prog 3 #[.string s] w fun e w' => e = .returned (.bool true) ∧ Below w.heap.size w w' := by
  have c1 := fun W => split_any s W (by omega)
  have c2 := fun W => refSplit_any s W (by omega)
  have hlen := splitS_len s
  have hend := line_end s
  have hcat := cat_split s
  have htx : textS (splitS s) false = s := by
    unfold textS
    rw [if_neg (by simp), hcat]
    exact (str_eq rfl).symm
  have hz : (cat (splitS s)).length ≤ 70368744177664 := by rw [hcat, data_len]; omega
  have t1 := fun M A c W h => text_any M A (splitS s) c false W h (by omega) hz
  rw [htx] at t1
  have s1 := fun M A B c d W h1 h2 => same_any M A B (splitS s) (splitS s) c d W h1 h2 (by omega) (by omega)
  rw [decide_eq_true rfl] at s1
  obtain ⟨R, HR⟩ : ∃ R, Hid (splitS s = R) := ⟨_, Lib.hid rfl⟩
  have hend' : ∀ (k : Nat) (hk : k < R.length), 0 < R[k].size ∧ (k + 1 < R.length → ∀ h : R[k].size - 1 < R[k].size, R[k][R[k].size - 1] = 10) := by
    have e := HR.out
    subst e
    exact hend
  have hsz : ∀ (k : Nat) (hk : k < R.length), R[k].size ≤ 1048576 := by
    have e := HR.out
    subst e
    intro k hk
    have := splitS_mem s _ (List.getElem_mem hk)
    omega
  rw [HR.out] at c1 c2 hlen t1 s1
  have C1 := Lib.hid c1
  have C2 := Lib.hid c2
  have T1 := Lib.hid t1
  have S1 := Lib.hid s1
  have HE := Lib.hid hend'
  have HS := Lib.hid hsz
  have hbeq : (s.toList == s.toList) = true := by simp
  clear c1 c2 t1 s1 hend' hend hcat htx hz hsz
  go_enter Try.func3, Try.ntmps3
  go_wp2_with (first
    | (go_at_call 15; ((with_reducible refine (sane_any _).mono ?_); rintro e w1 ⟨rfl, hb1⟩))
    | (go_at_call 16; ((with_reducible refine (C1.out _).mono ?_); rintro e w2 ⟨A, c, rfl, ho, hb2⟩)))
  have hS := (Strs.own ho).2
  have hcap := hS.cap
  have hB2 := Below.then_ hb1 hb2
  go_loop [12] (fun v12 => ∃ k : Nat, k ≤ R.length ∧ v12 = .int .i64 k) (fun v12 => R.length - (intOf v12).toNat)
  case atStart => exact ⟨0, by omega, rfl⟩
  case round =>
    obtain ⟨k, hk, rfl⟩ := hrel
    have hi0 : (0 : Int) ≤ (k : Int) := Int.natCast_nonneg _
    by_cases hlt : k < R.length
    · obtain ⟨ad, rfl, hadB, hca⟩ := hS.at_ hlt
      have hi1 : (k : Int) < (R.length : Int) := by omega
      have he := HE.out k hlt
      have hsx := HS.out k hlt
      have e2 : IntKind.i64.wrap ((R.length : Int) - 1) = ((R.length - 1 : Nat) : Int) := by simp [IntKind.wrap, IntKind.bits, IntKind.signed]; omega
      obtain ⟨x, HX⟩ : ∃ x, Hid (R[k] = x) := ⟨_, Lib.hid rfl⟩
      rw [HX.out] at hca he hsx
      obtain ⟨he1, he2⟩ := he
      have hne : (x.toList == (⟨#[]⟩ : ByteArray).toList) = false := by
        rw [beq_eq_false_iff_ne]
        intro e
        have := eq_of_data e
        subst this
        exact absurd he1 (by decide)
      have hne2 : ¬ x = ⟨#[]⟩ := by rintro rfl; exact absurd he1 (by decide)
      have hne3 : ¬ x = ByteArray.empty := hne2
      have hne5 : ¬ x.toList = [] := fun e => by
        rw [ByteArray.toList_eq] at e
        have := congrArg List.length e
        rw [data_len, List.length_nil] at this
        omega
      have hne4 : x.toList.isEmpty = false := by rw [Bool.eq_false_iff]; intro e; exact hne5 (List.isEmpty_iff.1 e)
      have e1 : IntKind.i64.wrap ((x.size : Int) - 1) = ((x.size - 1 : Nat) : Int) := by simp [IntKind.wrap, IntKind.bits, IntKind.signed]; omega
      have hi2 : (0 : Int) ≤ ((x.size - 1 : Nat) : Int) := Int.natCast_nonneg _
      have hi3 : ((x.size - 1 : Nat) : Int) < (x.size : Int) := by omega
      have hi4 : x.size - 1 < x.size := by omega
      by_cases hl : k < R.length - 1
      · have hl1 : (k : Int) < ((R.length - 1 : Nat) : Int) := by omega
        have hv := he2 (by omega) hi4
        have hv2 : x[x.size - 1].toNat = 10 := by rw [hv]; rfl
        have hv3 : ((x[x.size - 1].toNat : Int) == 10) = true := by rw [hv2]; rfl
        clear he2
        go_wp2
        go_round
        case rel => exact ⟨k + 1, by omega, by go_num⟩
        case measure => simp [intOf]; omega
      · have hl1 : ¬ (k : Int) < ((R.length - 1 : Nat) : Int) := by omega
        clear he2
        go_wp2
        go_round
        case rel => exact ⟨k + 1, by omega, by go_num⟩
        case measure => simp [intOf]; omega
    · obtain rfl : k = R.length := by omega
      go_wp2_with (first
        | (go_at_call 18; ((with_reducible refine (C2.out _).mono ?_); rintro e w3 ⟨B, d, rfl, hob, hb3⟩); have hS3 := strs_on hS hb3; have hSb := (Strs.own hob).2)
        | (go_at_call 17; ((with_reducible refine (S1.out _ _ _ _ _ _ hS3 hSb).mono ?_); rintro e w4 ⟨rfl, q, rfl⟩); have hS4 : Strs (w3.drewN q) w3.heap.size A c R := Row.drewN hS3 q)
        | (go_at_call 19; ((with_reducible refine (T1.out _ _ _ _ hS4).mono ?_); rintro e w5 ⟨rfl, rfl⟩)))
      go_ret
      exact ⟨rfl, Below.drewN_ (Below.then_ hB2 hb3) q⟩

theorem short {H : Type} {s : ByteArray} (hk : Rows.uptoSmall H [.lit (.string s.data.toList)] = true) : s.size ≤ 1048576 := by
  have h : Rows.uptoBulkAll [DataW.lit (H := H) (.string s.data.toList)] ≤ 1048576 := of_decide_eq_true hk
  simp only [Rows.uptoBulkAll, Rows.uptoBulk] at h
  have e : s.data.toList.length = s.size := by rw [Array.length_toList]; rfl
  omega

theorem contract (H : Type) (enc : TypeId × Value → H) (W : World) (base : Nat) (args : Array Value) (ds gs : List (DataW H)) (before : List MemPlace)
    (hval : ∀ (j : Nat) t v, Try.f3.params[j]? = some t → args[j]? = some v → Value.okWide Try.prog W .any base t v)
    (hW : DataW.Whole enc Try.prog Try.f3.params.toList Rows.linesSplitSpec.vars false W args.toList ds gs before) (hk : Rows.uptoSmall H (ds ++ gs) = true) :
    Calls Try.prog 3 args W fun e W' => ∃ v, e = .returned v ∧ Rows.linesSplitSpec.post enc Try.prog Try.f3 false true false false W args v W' := by
  have hW' := hW
  obtain ⟨p, q, hA0, hV, rfl, hfz, hnd⟩ := hW
  have hA : DataW.TrodAll enc Try.prog W 0 (fun _ => true) true Try.f3.params.toList args.toList ds p := hA0
  rw [Try.params3] at hA hval
  obtain ⟨v0, vs0, d0, ds0, p0, q0, hargs, rfl, rfl, h0, r0⟩ := trodAll_cons hA
  obtain ⟨rfl, rfl, rfl⟩ := trodAll_nil r0
  obtain rfl : args = #[v0] := by cases args; simp_all
  obtain ⟨rfl, rfl⟩ := trodVars_none hV
  obtain ⟨s, rfl, rfl, rfl, hs⟩ := open_string Try.underlying9 (hval 0 9 v0 rfl rfl) h0
  have hk' : Rows.uptoSmall H [.lit (.string s.data.toList)] = true := by simpa only [List.append_nil] using hk
  refine (walk s W (short hk')).mono fun e W' ⟨he, hb⟩ => ⟨_, he, law_post rfl rfl ?_ rfl rfl rfl hW' hb⟩
  rw [Try.params3]
  intro t ht
  obtain rfl : t = 9 := by simpa using ht
  exact ⟨by kernel_rfl, of_decide_eq_true (by kernel_rfl)⟩

set_option maxRecDepth 100000 in
theorem lifted (os : Os) (started : os.Started) (H : Type) (enc : TypeId × Value → H) (F : Stop.Interp) :
    ReturnsInHanded {} Try.checked os 3 .any ((Rows.OpenSpec.upto Rows.linesSplitSpec).pre6 enc Try.prog Try.f3 Rows.linesSplitUptoRow.domain false) (((Rows.OpenSpec.upto Rows.linesSplitSpec).at F).post enc Try.prog Try.f3 false true false false) := by
  refine returnsInHanded_of_cond (C := Try.checked) (s := Rows.OpenSpec.upto Rows.linesSplitSpec) (k := Rows.uptoSmall) rfl ownKnob_none started (by kernel_rfl) Try.func3
    (OpenSpec.witness (enc := enc) (C := Try.checked) (s := Rows.OpenSpec.upto Rows.linesSplitSpec) (k := Rows.uptoSmall) rfl false ⟨#[], #[.string .empty], []⟩ 8 (by kernel_rfl) (by kernel_rfl) (by kernel_rfl)
      (x := ([.lit (.string [])], [], [])) (by kernel_rfl) rfl (by kernel_rfl)) ?_
  intro W base args ds gs before hval hW _ hk _
  exact contract H enc W base args ds gs before hval hW hk

theorem proved : Rows.LinesSplitUptoSaid :=
  OpenClaim.holds_of_cond 3 Try.f3 rfl rfl rfl rfl rfl rfl rfl ⟨rfl, rfl, rfl, rfl, rfl⟩ rfl rfl rfl rfl rfl (by kernel_rfl) Try.func3 (by kernel_rfl)
    (of_decide_eq_true (by kernel_rfl)) (by unfold Func.isWrapper; first | (rw [if_pos (by decide +kernel)]; kernel_rfl) | (rw [if_neg (by decide +kernel)]; exact ⟨rfl, rfl⟩))
    (fun os started H enc _ F => lifted os started H enc F)

end Go.Proofs.Ytmeoannheomdoaa.lsplit
