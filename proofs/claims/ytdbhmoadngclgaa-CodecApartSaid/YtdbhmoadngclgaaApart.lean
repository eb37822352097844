/-
For every two lists of strings and every integer, the law CodecApart returns true and leaves its arguments as they were: no pack is the beginning of another one, and different lists have different packs. No condition.
-/
import Derived.Laws.AppendOwnNone
import Derived.Test.YtdbhmoadngclgaaPacks
namespace Go.Proofs.Ytdbhmoadngclgaa
open Go.ChangeShapes Go.WideShapes Go.ChangeAt Go.RowKit

theorem data_inj {X Y : List ByteArray} (h : X.map (·.data.toList) = Y.map (·.data.toList)) : X = Y :=
  List.map_inj_right (fun a b e => bytes_inj e) |>.1 h

/-- No pack is the beginning of another one. -/
theorem pack_prefix {X Y : List ByteArray} {t : List UInt8} (hx : X.length < 18446744073709551616) (hy : Y.length < 18446744073709551616) (hxs : ∀ s ∈ X, s.size < 18446744073709551616) (hys : ∀ s ∈ Y, s.size < 18446744073709551616)
    (h : pack Y = pack X ++ t) : X = Y := by
  have h1 := rd_numL hx (X.flatMap one ++ t)
  have h2 := rd_numL hy (Y.flatMap one)
  have e : numL Y.length ++ Y.flatMap one = numL X.length ++ (X.flatMap one ++ t) := by
    rw [← List.append_assoc]; exact h
  rw [e, h1] at h2
  injection h2 with hl h2
  rw [← hl] at e
  have e2 := List.append_cancel_left e
  have h3 := rlist_pack t X [] hxs
  have h4 := rlist_pack [] Y [] hys
  rw [List.append_nil, e2, ← hl, h3] at h4
  injection h4 with _ h4
  injection h4 with _ h4
  rw [List.nil_append, List.nil_append] at h4
  exact data_inj h4

/-- append of a list of strings that is nil, empty or neither. -/
theorem append_strs {w : World} {ops : Array Oper} {rest : List Oper} {o : Oper} {a : Act} {Q : Exit → Act → World → Prop} (hgd : o.guard = none) (s x : Operand)
    (ho : o.op = .call { callee := .builtin .append, args := #[s, x], argTypes := #[43, 43] })
    (base : Nat) (v : Value) (n : Nat) (xs : List Value) (hs : a.eval s = v) (hown : w.ownsRow base 9 1 v n xs)
    (B : Nat) (A : Option Addr) (k c : Nat) (L : List ByteArray) (hx : a.eval x = .slice A k c) (hS : Strs w B A L) (hk : L.length = k) (hAc : A = none → c = 0) (hn : n ≤ 1000) (hk2 : k ≤ 1000) (hbase : base ≤ w.heap.size)
    (h : ∀ v' w', w'.ownsRow base 9 1 v' (n + k) (xs ++ L.map Value.string) → w.grownBy w' v.ownBlock → wpList Try.prog ops Q rest (a.put o.dst v') w') : wpList Try.prog ops Q (o :: rest) a w := by
  obtain ⟨i9, hi, hz0, hz1, hz2⟩ := info_parts info9
  rcases A with _ | ad
  · obtain rfl := hAc rfl
    have hL : L = [] := by
      rcases L with _ | ⟨y, L⟩
      · rfl
      · obtain ⟨_, e, _⟩ := hS 0 y rfl
        cases e
    subst hL
    subst hk
    refine wpList_append_own_none hgd s x 43 ho base 9 i9 1 Try.underlying43 hi v n xs hs hown hx ?_
    exact h v w (by simpa using hown) (World.grownBy.refl w _)
  · refine wpList_append_own w hgd s x 43 ho base 9 i9 (.string ⟨#[]⟩) 1 16 Try.underlying43 hi hz0 hz1 hz2 rfl (by decide) v n xs hs hown ad k c (L.map Value.string) hx (by simp [hk]) (fun j u hu => ?_) (fun u hu => ?_) (by unfold maxLen; omega) (by omega) hbase fun v' w' h1 h2 _ => h v' w' h1 h2
    · rw [List.getElem?_map] at hu
      cases hj : L[j]? with
      | none => rw [hj] at hu; cases hu
      | some y =>
        rw [hj] at hu
        obtain ⟨ad', e, _, hc⟩ := hS j y hj
        injection e with e
        subst e
        rw [hc, ← hu]
        rfl
    · obtain ⟨y, _, rfl⟩ := List.mem_map.1 hu
      rfl

theorem Strs.take_ {w : World} {B : Nat} {A : Option Addr} {L : List ByteArray} (h : Strs w B A L) (k : Nat) : Strs w B A (L.take k) := fun j s hj => by
  refine h j s ?_
  rcases Nat.lt_or_ge j k with hlt | hge
  · rwa [List.getElem?_take_of_lt hlt] at hj
  · rw [List.getElem?_take_eq_none hge] at hj; cases hj
theorem own_empty (w : World) : (w.alloc (.cells #[] 9)).ownsRow w.heap.size 9 1 (.slice (some ⟨w.heap.size, 0, none⟩) 0 0) 0 [] :=
  ⟨rfl, .inr ⟨w.heap.size, 0, #[], rfl, Nat.le_refl _, World.alloc_heap_new w _, Nat.le_refl _, Nat.zero_le _, rfl, rfl⟩⟩
theorem own_keep {w w' : World} {base : Nat} {e : TypeId} {size n : Nat} {v : Value} {xs : List Value} (h : w.ownsRow base e size v n xs) (hb : Below w.heap.size w w') : w'.ownsRow base e size v n xs := by
  refine ⟨h.1, ?_⟩
  rcases h.2 with h0 | ⟨g, cap, cur, hv, hg, hh, h3⟩
  · exact .inl h0
  · exact .inr ⟨g, cap, cur, hv, hg, (hb.block g (Array.getElem?_eq_some_iff.1 hh).1).trans hh, h3⟩
theorem own_none {w : World} {base n c : Nat} {A : Option Addr} {e : TypeId} {xs : List Value} (h : w.ownsRow base e 1 (.slice A n c) n xs) : A = none → c = 0 := fun hA => by
  rcases h.2 with ⟨h, _⟩ | ⟨g, cap, cur, h, _⟩
  · injection h
  · injection h with h1 _ _
    rw [hA] at h1
    cases h1

theorem pack_pos (L : List ByteArray) : 0 < (pack L).length := by
  unfold pack
  rw [List.length_append]
  have := numL_pos L.length
  omega
theorem not_begin {X Y : ByteArray} {L M : List ByteArray} (hX : str (pack L) = X) (hY : str (pack M) = Y) (hl : L.length ≤ 1000) (hm : M.length ≤ 1000) (hlz : ∀ s ∈ L, s.size ≤ 700) (hmz : ∀ s ∈ M, s.size ≤ 700) (hne : L ≠ M) :
    ((Y.extract 0 X.size).toList == X.toList) = false := by
  rw [beq_eq_false_iff_ne]
  intro e
  rw [ByteArray.toList_eq, ByteArray.toList_eq, ext_take, ← hX, ← hY, str_data, str_data] at e
  refine hne (pack_prefix (t := (pack M).drop (str (pack L)).size) (by omega) (by omega) (fun s hs => by have := hlz s hs; omega) (fun s hs => by have := hmz s hs; omega) ?_)
  have := List.take_append_drop (str (pack L)).size (pack M)
  rw [e] at this
  exact this.symm

namespace apart

set_option maxRecDepth 100000 in
set_option maxHeartbeats 2000000 in
theorem walk (A0 B0 : Option Addr) (l m : List ByteArray) (ca cb : Nat) (same : Int) (w : World) (hSl : Strs w w.heap.size A0 l) (hca : l.length ≤ ca) (hl : l.length ≤ maxLen) (hlz : ∀ s ∈ l, s.size ≤ maxLen)
    (hSm : Strs w w.heap.size B0 m) (hcb : m.length ≤ cb) (hm : m.length ≤ maxLen) (hmz : ∀ s ∈ m, s.size ≤ maxLen) (hsm : -9223372036854775808 ≤ same ∧ same ≤ 9223372036854775807) :
    Calls Try.prog 11 #[.slice A0 l.length ca, .slice B0 m.length cb, .int .i64 same] w fun e w' => e = .returned (.bool true) ∧ Below w.heap.size w w' := by
  go_enter Try.func11, Try.ntmps11
  go_wp2_with (first
    | (go_at_call 13; refine (sane_any _).mono ?_; rintro e w1 ⟨rfl, hB1⟩; have hSl1 := hSl.on hB1; have hSm1 := hSm.on hB1)
    | (go_at_call 26; ((with_reducible refine (some_any A0 l ca 1 _ hSl1 hca hl hlz (by omega)).mono ?_); rintro e w2 ⟨A, na, c, La, rfl, hown, rfl, hna, hnc, hLa, hb2⟩; have hB2 := Below.then_ hB1 hb2; have hS2 := Strs.own hown; have hSm2 := hSm1.on hb2; have HLa := Lib.hid hLa; clear hLa; have hmod := (fun W => mod_any same ((La.length : Int) + 1) W hsm.1 hsm.2 (by omega) (by omega)); obtain ⟨k, HK⟩ : ∃ k : Nat, Hid (same % ((La.length : Int) + 1) = (k : Int)) := ⟨(same % ((La.length : Int) + 1)).toNat, Lib.hid (by have := Int.emod_nonneg same (show ((La.length : Int) + 1) ≠ 0 by omega); omega)⟩; have hkl : k ≤ La.length := (by have h1 := Int.emod_lt_of_pos same (show (0 : Int) < (La.length : Int) + 1 by omega); have h2 := HK.out; omega); rw [HK.out] at hmod))
    | (go_at_call 16; ((with_reducible refine (hmod _).mono ?_); rintro e w' ⟨rfl, rfl⟩; have hown0 := own_empty w2; have hBa := (Below.refl w2.heap.size w2).alloc (Nat.le_refl _) (.cells #[] 9); have hSt := Strs.take_ (hS2.below hBa (Nat.le_refl _)) k; have hcA := own_none hown; have tok1 : True := trivial))
    | (at_builtin; have _t := tok1; refine append_strs rfl _ _ rfl w2.heap.size (.slice (some ⟨w2.heap.size, 0, none⟩) 0 0) 0 [] rfl hown0 w2.heap.size A k c (La.take k) rfl hSt (by rw [List.length_take]; omega) hcA (by omega) (by omega) (by simp) ?_; intro v3 w3 hown3 hgrow3; simp only [Nat.zero_add, List.nil_append] at hown3; obtain ⟨A3, c3, rfl⟩ := own_form hown3; have hB3 := hBa.grown hgrow3 (by simp) (row_ge hown0); have hSm3 := (hSm2.below hB3 (Nat.le_refl _)).more hB3.size; clear tok1)
    | (go_at_call 26; ((with_reducible refine (some_any B0 m cb 1 _ hSm3 hcb hm hmz (by omega)).mono ?_); rintro e w4 ⟨B, nb, d, Lb, rfl, hownb, rfl, hnb, hnd, hLb, hb4⟩; have hB4 := hB3.trans (hb4.mono hB3.size); have hS4 := Strs.own hownb; have hown4 := own_keep hown3 hb4; have hcB := own_none hownb; have HLb := Lib.hid hLb; clear hLb; have tok2 : True := trivial))
    | (at_builtin; have _t := tok2; refine append_strs rfl _ _ rfl w2.heap.size (.slice A3 k c3) k _ rfl hown4 w4.heap.size B Lb.length d Lb rfl hS4 rfl hcB (by omega) (by omega) hB4.size ?_; intro v5 w5 hown5 hgrow5; have hB5 := hB4.grown hgrow5 hB4.size (row_ge hown4); rw [← List.map_append] at hown5; have hMl : k + Lb.length = (La.take k ++ Lb).length := (by rw [List.length_append, List.length_take]; omega); rw [hMl] at hown5; obtain ⟨M, HM⟩ : ∃ M, Hid (La.take k ++ Lb = M) := ⟨_, Lib.hid rfl⟩; rw [HM.out] at hown5 hMl; have hMn : M.length ≤ 82 := (by omega); have HMl := Lib.hid hMl; clear hMl; obtain ⟨A5, c5, rfl⟩ := own_form hown5; have hSM := Strs.own hown5; have hcM := own_cap hown5; have hSa := (hS2.below hB5 (Nat.le_refl _)).more hB5.size; have hMz : ∀ s ∈ M, s.size ≤ 700 := (fun s hs => by rw [← HM.out] at hs; rcases List.mem_append.1 hs with h | h; exact HLa.out s (List.mem_of_mem_take h); exact HLb.out s h); have hp1 := pack_len hna HLa.out (by omega) (by omega); have hp2 := pack_len hMn hMz (by omega) (by omega); have HMz := Lib.hid hMz; clear hMz tok2; obtain ⟨X, HX⟩ : ∃ X, Hid (str (pack La) = X) := ⟨_, Lib.hid rfl⟩; obtain ⟨Y, HY⟩ : ∃ Y, Hid (str (pack M) = Y) := ⟨_, Lib.hid rfl⟩; have hBw := Below.then_ hB2 hB5)
    | (go_at_call 27; ((with_reducible refine (pack_any A La c _ hSa hnc (by unfold maxLen; omega) (fun s hs => by have := HLa.out s hs; unfold maxLen; omega) (by omega)).mono ?_); rw [HX.out]; rintro e w6 ⟨rfl, hb6⟩; have hSa6 := hSa.on hb6; have hSM6 := hSM.on hb6; have hBw6 := Below.then_ hBw hb6))
    | (go_at_call 27; ((with_reducible refine (pack_any A5 M c5 _ hSM6 hcM (by unfold maxLen; omega) (fun s hs => by have := HMz.out s hs; unfold maxLen; omega) (by omega)).mono ?_); rw [HY.out]; rintro e w7 ⟨rfl, hb7⟩; have hSa7 := hSa6.on hb7; have hSM7 := hSM6.on hb7; have hBw7 := Below.then_ hBw6 hb7)))
  have hstr := strings_any A A5 La M c c5 _ hSa7 hSM7 hnc hcM (by unfold maxLen; omega) (by unfold maxLen; omega)
  have hXp : 0 < X.size := by rw [← HX.out, str_size]; exact pack_pos _
  have hYp : 0 < Y.size := by rw [← HY.out, str_size]; exact pack_pos _
  have hXz : X.size ≤ 100000 := by rw [← HX.out, str_size]; omega
  have hYz : Y.size ≤ 100000 := by rw [← HY.out, str_size]; omega
  have hXe : ¬ X = ByteArray.empty := fun e => by rw [e] at hXp; exact absurd hXp (by decide)
  have hYe : ¬ Y = ByteArray.empty := fun e => by rw [e] at hYp; exact absurd hYp (by decide)
  have hXb : ((X.size : Int) == 0) = false := by rw [beq_eq_false_iff_ne]; omega
  have hYb : ((Y.size : Int) == 0) = false := by rw [beq_eq_false_iff_ne]; omega
  by_cases hLM : La = M
  · have hXY : X = Y := by rw [← HX.out, ← HY.out, hLM]
    rw [decide_eq_true hLM] at hstr
    have hfull : (Y.extract 0 Y.size).toList = Y.toList := by rw [ByteArray.toList_eq, ByteArray.toList_eq, ext_take]; exact List.take_of_length_le (by simp)
    have HLM := Lib.hid hLM
    clear hLM
    subst hXY
    refine hstr.mono ?_
    rintro e w8 ⟨rfl, q, rfl⟩
    clear hstr
    go_wp2
    go_ret
    exact ⟨rfl, Below.drewN_ hBw7 _⟩
  · have hb1 := not_begin HX.out HY.out (by omega) (by omega) HLa.out HMz.out hLM
    have hb2 := not_begin HY.out HX.out (by omega) (by omega) HMz.out HLa.out (fun e => hLM e.symm)
    rw [decide_eq_false hLM] at hstr
    have HLM := Lib.hid hLM
    clear hLM
    by_cases h1 : X.size ≤ Y.size <;> by_cases h2 : Y.size ≤ X.size
    all_goals
      refine hstr.mono ?_
      rintro e w8 ⟨rfl, q, rfl⟩
      go_wp2
      go_ret
      exact ⟨rfl, Below.drewN_ hBw7 _⟩

theorem contract (H : Type) (enc : TypeId × Value → H) (W : World) (base : Nat) (args : Array Value) (ds gs : List (DataW H)) (before : List MemPlace)
    (hval : ∀ (j : Nat) t v, Try.f11.params[j]? = some t → args[j]? = some v → Value.okWide Try.prog W .any base t v)
    (hW : DataW.Whole enc Try.prog Try.f11.params.toList Rows.codecApartSpec.vars false W args.toList ds gs before) :
    Calls Try.prog 11 args W fun e W' => ∃ v, e = .returned v ∧ Rows.codecApartSpec.post enc Try.prog Try.f11 false true false false W args v W' := by
  have hW' := hW
  obtain ⟨p, q, hA0, hV, rfl, hfz, hnd⟩ := hW
  have hA : DataW.TrodAll enc Try.prog W 0 (fun _ => true) true Try.f11.params.toList args.toList ds p := hA0
  rw [Try.params11] at hA hval
  obtain ⟨v0, vs0, d0, ds0, p0, q0, e0, rfl, rfl, h0, r0⟩ := trodAll_cons hA
  obtain ⟨v1, vs1, d1, ds1, p1, q1, e1, rfl, rfl, h1, r1⟩ := trodAll_cons r0
  obtain ⟨v2, vs2, d2, ds2, p2, q2, e2, rfl, rfl, h2, r2⟩ := trodAll_cons r1
  obtain ⟨rfl, rfl, rfl⟩ := trodAll_nil r2
  obtain rfl : args = #[v0, v1, v2] := by cases args; simp_all
  obtain ⟨rfl, rfl⟩ := trodVars_none hV
  obtain ⟨A0, l, ca, rfl, hSl, hca, hl, hlz⟩ := open_list h0 (hval 0 43 v0 rfl rfl)
  obtain ⟨B0, m, cb, rfl, hSm, hcb, hm, hmz⟩ := open_list h1 (hval 1 43 v1 rfl rfl)
  obtain ⟨n, rfl, _, _, wn⟩ := open_int Try.underlying3 (hval 2 3 v2 rfl rfl) h2
  refine (walk A0 B0 l m ca cb n W hSl hca hl hlz hSm hcb hm hmz (bd_i64 wn)).mono fun e W' ⟨he, hb⟩ => ⟨_, he, law_post rfl rfl ?_ rfl rfl rfl hW' hb⟩
  rw [Try.params11]
  intro t ht
  have ht' : t = 43 ∨ t = 43 ∨ t = 3 := by simpa using ht
  rcases ht' with rfl | rfl | rfl <;> exact ⟨by kernel_rfl, of_decide_eq_true (by kernel_rfl)⟩

set_option maxRecDepth 100000 in
theorem lifted (os : Os) (started : os.Started) (H : Type) (enc : TypeId × Value → H) :
    ReturnsInHanded {} Try.checked os 11 .any (Rows.codecApartSpec.pre6 enc Try.prog Try.f11 Rows.codecApartRow.domain false) (Rows.codecApartSpec.post enc Try.prog Try.f11 false true false false) := by
  refine returnsInHanded_of_change (C := Try.checked) ownKnob_none started (by kernel_rfl) Try.func11
    (ChangeSpec.witness6 (enc := enc) (C := Try.checked) false ⟨#[], #[.slice none 0 0, .slice none 0 0, .int .i64 0], []⟩ 8 (by kernel_rfl) (by kernel_rfl) (by kernel_rfl) (by kernel_rfl)) ?_
  intro W base args ds gs before hval hW _ _
  exact contract H enc W base args ds gs before hval hW

theorem proved : Rows.CodecApartSaid :=
  OpenClaim.holds_of_wide 11 Try.f11 rfl rfl rfl rfl rfl rfl rfl ⟨rfl, rfl, rfl, rfl, rfl⟩ rfl rfl rfl rfl rfl (by kernel_rfl) Try.func11 (by kernel_rfl)
    (of_decide_eq_true (by kernel_rfl)) (by unfold Func.isWrapper; first | (rw [if_pos (by decide +kernel)]; kernel_rfl) | (rw [if_neg (by decide +kernel)]; exact ⟨rfl, rfl⟩))
    (fun os started H enc _ => lifted os started H enc)

end apart
end Go.Proofs.Ytdbhmoadngclgaa
