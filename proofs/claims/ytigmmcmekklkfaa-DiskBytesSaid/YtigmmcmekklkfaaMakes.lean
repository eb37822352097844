/- repeated; survive; Where; Long. -/
import Derived.Test.YtigmmcmekklkfaaRefPut
namespace Go.Proofs.Ytigmmcmekklkfaa
set_option maxRecDepth 100000
open Go.RowKit
def repC (k n : Nat) (x : UInt8) : List Value := List.replicate k (enc8 x) ++ List.replicate (n - k) (enc8 0)
theorem repC_set (k n : Nat) (x : UInt8) (h : k < n) : (repC k n x).set k (enc8 x) = repC (k + 1) n x := by
  unfold repC
  rw [List.set_append, if_neg (by simp), List.length_replicate, Nat.sub_self]
  obtain ⟨m, hm⟩ : ∃ m, n - k = m + 1 := ⟨n - k - 1, by omega⟩
  rw [hm, List.replicate_succ, List.set_cons_zero, show n - (k + 1) = m by omega, List.replicate_succ' (n := k), List.append_assoc]
  rfl
theorem repC_at (k n : Nat) (x : UInt8) (h : k < n) : (repC k n x)[k]? = some (enc8 0) := by
  unfold repC
  rw [List.getElem?_append_right (by simp), List.length_replicate, Nat.sub_self, List.getElem?_replicate, if_pos (by omega)]
set_option maxHeartbeats 1000000 in
theorem repeated_any (x : UInt8) (n : Nat) (w : World) (hn : n ≤ 100000) : Calls Try.prog 26 #[.int .u8 (x.toNat : Int), .int .i64 (n : Int)] w (StrB w (str (List.replicate n x))) := by
  unfold StrB
  have MK := made_one 56 5 (.int .u8 0) 1 Try.underlying56 info5 rfl n (by omega) (by omega) w
  obtain ⟨w1, hw1⟩ : ∃ w1, w.alloc (.cells (List.replicate n (Value.int .u8 0)).toArray 5) = w1 := ⟨_, rfl⟩
  have hb1 : Below w.heap.size w w1 := by rw [← hw1]; exact (Below.refl _ w).alloc (Nat.le_refl _) _
  have hF1 : Full w1 w.heap.size 5 (repC 0 n x) := by
    rw [← hw1]
    unfold repC
    exact Full.new w 5 _
  rw [hw1] at MK
  have H0 := Lib.hid (show Full w1 w.heap.size 5 (repC 0 n x) ∧ Below w.heap.size w w1 from ⟨hF1, hb1⟩)
  obtain ⟨b, hb⟩ : ∃ b : Int, (x.toNat : Int) = b := ⟨_, rfl⟩
  have HB := Lib.hid hb
  rw [hb]
  obtain ⟨g, hg⟩ : ∃ g, w.heap.size = g := ⟨_, rfl⟩
  rw [hg] at MK H0 ⊢
  have n0 : (0 : Int) ≤ (n : Int) := Int.natCast_nonneg _
  have n1 : (n : Int) ≤ 100000 := by omega
  clear hw1 hb1 hF1 hb hg
  go_enter Try.func26, Try.ntmps26
  go_wp2
  go_loopw [6] (fun v6 wr => ∃ k : Nat, v6 = .int .i64 (k : Int) ∧ k ≤ n ∧ Hid (Full wr g 5 (repC k n x) ∧ Below g w wr)) (fun v6 _ => n - (intOf v6).toNat)
  case atStart => exact ⟨0, rfl, by omega, H0⟩
  case round =>
    obtain ⟨k, rfl, hk, H⟩ := hrel
    have k0 : (0 : Int) ≤ (k : Int) := Int.natCast_nonneg _
    by_cases hkn : k < n
    · have k1 : (k : Int) < (n : Int) := by omega
      have c0 : wr.cell? ⟨g, k, none⟩ = some (.int .u8 0) := (H.out.1.cell k).trans (repC_at k n x hkn)
      have f0 : wr.frozen? ⟨g, k, none⟩ = false := H.out.1.frozen k
      have H2 := Lib.hid (show Full (wr.setCell ⟨g, k, none⟩ (.int .u8 b)) g 5 (repC (k + 1) n x) ∧ Below g w (wr.setCell ⟨g, k, none⟩ (.int .u8 b)) from by
        refine ⟨?_, H.out.2.setCell (Nat.le_refl _) _⟩
        rw [← repC_set k n x hkn, ← HB.out]
        exact H.out.1.set_ k _)
      clear H
      go_wp2
      go_roundw
      case rel => exact ⟨k + 1, by go_num, by omega, H2⟩
      case measure => simp [intOf]; omega
    · obtain rfl : k = n := by omega
      have hF := H.out.1
      have e : repC k k x = bytC (List.replicate k x) := by unfold repC bytC; simp
      rw [e] at hF
      have CV : (convert 56 9 (.slice (some ⟨g, 0, none⟩) k k)).run Try.prog wr = .ok (.string (str (List.replicate k x))) wr := by
        have h := run_convert_bytes_back (P := Try.prog) wr 56 9 5 ⟨g, 0, none⟩ k (List.replicate k x) Try.underlying56 Try.underlying5 Try.underlying9 fun j hj => by
          rw [Addr.add_lit, Nat.zero_add, hF.cell j]
          exact bytC_at _ j hj
        rw [List.length_replicate] at h
        exact h
      obtain ⟨S, hS⟩ : ∃ S, str (List.replicate k x) = S := ⟨_, rfl⟩
      rw [hS] at CV
      have HS := Lib.hid hS
      clear hF e hS
      go_wp2
      go_ret
      exact ⟨by rw [HS.out]; rfl, H.out.2⟩
/-- the list that a number determines -/
def survL (n : Int) : List Int := [n, n.tdiv 2, n.tdiv 3, n.tdiv 5, n.tdiv 7].take (modN n 6)
theorem survL_len (n : Int) : (survL n).length = modN n 6 := by
  have := modN_lt (x := n) (m := 6) (by omega)
  unfold survL
  simp
  omega
def SurvOut (w : World) (n : Int) (e : Ending) (w' : World) : Prop := ∃ A c, e = .returned (.slice A (modN n 6) c) ∧ Row w' w'.heap.size 1 A (modN n 6) c (intC (survL n)) ∧ Below w.heap.size w w'
set_option maxHeartbeats 1000000 in
theorem survive_any (n : Int) (w : World) (h0 : -9223372036854775808 ≤ n) (h1 : n ≤ 9223372036854775807) : Calls Try.prog 25 #[.int .i64 n] w (SurvOut w n) := by
  unfold SurvOut
  have M := Lib.hid (fun W => (show Calls Try.prog 22 #[.int .i64 n, .int .i64 6] W fun e w' => e = .returned (.int .i64 (modN n 6 : Int)) ∧ W = w' from mod_any n 6 W (by omega) (by omega)))
  have hl := survL_len n
  have hm := modN_lt (x := n) (m := 6) (by omega)
  have hrow : ∀ W : World, Row (W.alloc (.cells #[.int .i64 n, .int .i64 (n.tdiv 2), .int .i64 (n.tdiv 3), .int .i64 (n.tdiv 5), .int .i64 (n.tdiv 7)] 3)) (W.alloc (.cells #[.int .i64 n, .int .i64 (n.tdiv 2), .int .i64 (n.tdiv 3), .int .i64 (n.tdiv 5), .int .i64 (n.tdiv 7)] 3)).heap.size 1 (some ⟨W.heap.size, 0, none⟩) (modN n 6) 5 (intC (survL n)) := fun W => by
    have F := Full.new W 3 [.int .i64 n, .int .i64 (n.tdiv 2), .int .i64 (n.tdiv 3), .int .i64 (n.tdiv 5), .int .i64 (n.tdiv 7)]
    have r := (F.row 1 5 rfl 5 (Nat.le_refl _)).prefix_ (k := modN n 6) (by omega)
    have e : ([.int .i64 n, .int .i64 (n.tdiv 2), .int .i64 (n.tdiv 3), .int .i64 (n.tdiv 5), .int .i64 (n.tdiv 7)] : List Value).take (modN n 6) = intC (survL n) := by
      unfold intC survL
      rw [List.map_take]
      rfl
    rw [e] at r
    exact r
  have HR := Lib.hid hrow
  obtain ⟨m, hmm⟩ : ∃ m, modN n 6 = m := ⟨_, rfl⟩
  rw [hmm] at M HR hm ⊢
  clear hl hrow hmm
  go_enter Try.func25, Try.ntmps25
  go_wp2_with (go_at_call 22; ((with_reducible refine (M.out _).mono ?_); rintro e w1 ⟨rfl, rfl⟩))
  go_ret
  exact ⟨_, _, rfl, HR.out w, (Below.refl _ w).alloc (Nat.le_refl _) _⟩
/-- the offset of an act -/
def whereP (off : Int) : Int := if off < 0 ∨ 16777216 < off then off else (modN off 300 : Int)
theorem where_any (k off n : Int) (s : ByteArray) (w : World) : Calls Try.prog 34 #[.agg #[.int .i64 k, .int .i64 off, .int .i64 n, .string s]] w fun e w' => e = .returned (.int .i64 (whereP off)) ∧ Below w.heap.size w w' := by
  have M := Lib.hid (fun W => (show Calls Try.prog 22 #[.int .i64 off, .int .i64 300] W fun e w' => e = .returned (.int .i64 (modN off 300 : Int)) ∧ W = w' from mod_any off 300 W (by omega) (by omega)))
  have hb := Lib.hid (show Below w.heap.size w (w.alloc (.cells #[.int .i64 k, .int .i64 off, .int .i64 n, .string s] 33)) from (Below.refl _ w).alloc (Nat.le_refl _) _)
  unfold whereP
  by_cases h1 : off < 0
  · rw [if_pos (.inl h1)]
    go_enter Try.func34, Try.ntmps34
    go_wp2
    go_ret
    exact ⟨rfl, hb.out⟩
  · by_cases h2 : 16777216 < off
    · rw [if_pos (.inr h2)]
      go_enter Try.func34, Try.ntmps34
      go_wp2
      go_ret
      exact ⟨rfl, hb.out⟩
    · rw [if_neg (by omega)]
      go_enter Try.func34, Try.ntmps34
      go_wp2_with (go_at_call 22; ((with_reducible refine (M.out _).mono ?_); rintro e w1 ⟨rfl, rfl⟩))
      go_ret
      exact ⟨rfl, hb.out⟩
/-- the text of an act -/
def growL : Nat → List UInt8 → Nat → List UInt8 → List UInt8
  | 0, l, _, _ => l
  | f + 1, l, m, t => if 0 < l.length ∧ l.length < m then growL f (l ++ t) m t else l
theorem growL_end (f : Nat) (l t : List UInt8) (m : Nat) (h : ¬ (0 < l.length ∧ l.length < m)) : growL f l m t = l := by
  cases f with
  | zero => rfl
  | succ f => rw [growL, if_neg h]
def longL (n : Int) (t : List UInt8) : List UInt8 := (growL 200 t (modN n 200) t).take 200
theorem longL_len (n : Int) (t : List UInt8) : (longL n t).length ≤ 200 := by unfold longL; simp; omega
set_option maxHeartbeats 1000000 in
theorem long_any (k off n : Int) (t : List UInt8) (w : World) (ht : t.length ≤ maxLen) : Calls Try.prog 36 #[.agg #[.int .i64 k, .int .i64 off, .int .i64 n, .string (str t)]] w (StrB w (str (longL n t))) := by
  unfold StrB
  have M := Lib.hid (fun W => (show Calls Try.prog 22 #[.int .i64 n, .int .i64 200] W fun e w' => e = .returned (.int .i64 (modN n 200 : Int)) ∧ W = w' from mod_any n 200 W (by omega) (by omega)))
  have hb := Lib.hid (show Below w.heap.size w (w.alloc (.cells #[.int .i64 k, .int .i64 off, .int .i64 n, .string (str t)] 33)) from (Below.refl _ w).alloc (Nat.le_refl _) _)
  have hm := modN_lt (x := n) (m := 200) (by omega)
  unfold longL
  obtain ⟨m, hmm⟩ : ∃ m, modN n 200 = m := ⟨_, rfl⟩
  rw [hmm] at M hm ⊢
  obtain ⟨R, hR⟩ : ∃ R, growL 200 t m t = R := ⟨_, rfl⟩
  have HR := Lib.hid hR
  rw [hR]
  have zt := str_size t
  have hts := str_app
  obtain ⟨T, hT⟩ : ∃ T, str t = T := ⟨_, rfl⟩
  have HT := Lib.hid hT
  rw [hT] at hb zt ⊢
  have HZT := Lib.hid zt
  unfold maxLen at ht
  have F1 := Full.new w 33 [.int .i64 k, .int .i64 off, .int .i64 n, .string T]
  obtain ⟨w1, hw1⟩ : ∃ w1, w.alloc (.cells #[.int .i64 k, .int .i64 off, .int .i64 n, .string T] 33) = w1 := ⟨_, rfl⟩
  rw [hw1] at hb
  have F1' : Full w1 w.heap.size 33 [.int .i64 k, .int .i64 off, .int .i64 n, .string T] := by rw [← hw1]; exact F1
  obtain ⟨g, hg⟩ : ∃ g, w.heap.size = g := ⟨_, rfl⟩
  rw [hg] at F1' hb ⊢
  have c2 : w1.cell? ⟨g, 2, none⟩ = some (.int .i64 n) := F1'.cell 2
  have c3 : w1.cell? ⟨g, 3, none⟩ = some (.string T) := F1'.cell 3
  have m0 : (0 : Int) ≤ (m : Int) := Int.natCast_nonneg _
  have m1 : (m : Int) < 200 := by omega
  clear F1 F1' hmm hR hT zt hts
  go_enter Try.func36, Try.ntmps36
  go_upto_region 1 with fail
  clear hw1 hg
  go_wp2
  go_loopw [3] (fun v3 wr => ∃ (l : List UInt8) (S : ByteArray), v3 = .string S ∧ wr = w1 ∧ Hid (str l = S ∧ (∃ f, growL f l m t = R ∧ m ≤ f + l.length) ∧ (l.length < m → t.length ≤ l.length) ∧ (0 < l.length → 0 < t.length) ∧ l.length ≤ 9223372036854775807)) (fun v3 _ => match v3 with | .string s => 200 - s.size | _ => 0)
  case atStart => exact ⟨t, T, rfl, rfl, Lib.hid ⟨HT.out, ⟨200, HR.out, by omega⟩, fun _ => Nat.le_refl _, id, ht⟩⟩
  case round =>
    obtain ⟨l, S, rfl, rfl, H⟩ := hrel
    obtain ⟨hS, ⟨f, hf, hmf⟩, h1, h2, hmx⟩ := H.out
    have zl := str_size l
    rw [hS] at zl
    have hex := ext_cut (str l) 0
    rw [str_data, hS] at hex
    by_cases hgo : 0 < S.size ∧ S.size < m
    · obtain ⟨hg0, hg1⟩ := hgo
      have hg0' : (0 : Int) < (S.size : Int) := by omega
      have hg1' : (S.size : Int) < (m : Int) := by omega
      have t1 : T.size ≤ 200 := by rw [HZT.out]; have := h1 (by omega); omega
      have s1 : S.size ≤ 200 := by omega
      have happ := str_app l t
      rw [hS, HT.out] at happ
      have H2 := Lib.hid (show str (l ++ t) = S ++ T ∧ (∃ f, growL f (l ++ t) m t = R ∧ m ≤ f + (l ++ t).length) ∧ ((l ++ t).length < m → t.length ≤ (l ++ t).length) ∧ (0 < (l ++ t).length → 0 < t.length) ∧ (l ++ t).length ≤ 9223372036854775807 from by
        obtain ⟨f', rfl⟩ : ∃ f', f = f' + 1 := ⟨f - 1, by omega⟩
        rw [growL, if_pos (by omega)] at hf
        have := h2 (by omega)
        rw [HZT.out] at t1
        exact ⟨happ.symm, ⟨f', hf, by simp; omega⟩, fun _ => by simp, fun _ => this, by simp; omega⟩)
      have HME := Lib.hid (show 200 - (S ++ T).size < 200 - S.size from by
        have h3 := str_size (l ++ t)
        rw [H2.out.1, List.length_append] at h3
        have := h2 (by omega)
        omega)
      clear H hS hf hmf h1 h2 hmx zl hex happ
      go_wp2_with (go_at_call 22; ((with_reducible refine (M.out _).mono ?_); rintro e w2 ⟨rfl, rfl⟩))
      go_roundw
      case rel => exact ⟨l ++ t, S ++ T, rfl, by first | rfl | trivial, H2⟩
      case measure => exact HME.out
    · have hRl : R = l := by rw [← hf, growL_end f l t m (by omega)]
      have hs0 : (0 : Int) ≤ (S.size : Int) := Int.natCast_nonneg _
      have hsx : S.size ≤ 9223372036854775807 := by omega
      have HFIN := Lib.hid (show ∀ k, (k = 200 ∧ 200 ≤ S.size) ∨ (k = S.size ∧ S.size ≤ 200) → S.extract 0 k = str (R.take 200) from fun k hk => by
        rw [hex, hRl]
        unfold cutL
        congr 1
        simp only [List.drop_zero, Nat.sub_zero]
        rcases hk with ⟨rfl, _⟩ | ⟨rfl, hle⟩
        · rfl
        · rw [List.take_of_length_le (by omega), List.take_of_length_le (by omega)])
      have HF2 := Lib.hid (show S.size ≤ 200 → S = str (R.take 200) from fun hle => by
        rw [hRl, List.take_of_length_le (by omega), hS])
      have HF0 := Lib.hid (show S.size = 0 → ByteArray.empty = str (R.take 200) from fun hle => by
        rw [hRl, List.eq_nil_of_length_eq_zero (show l.length = 0 by omega)]
        rfl)
      clear H hS hf hmf h1 h2 hmx zl hex hRl
      by_cases h0 : S.size = 0
      · have hz : (S.size : Int) = 0 := by omega
        go_wp2
        go_ret
        exact ⟨by rw [← HF0.out h0]; rfl, hb.out⟩
      · have hz : (0 : Int) < (S.size : Int) := by omega
        have hz2 : 0 < S.size := by omega
        have hge : (m : Int) ≤ (S.size : Int) := by omega
        go_wp2_with (go_at_call 22; ((with_reducible refine (M.out _).mono ?_); rintro e w2 ⟨rfl, rfl⟩))
        · go_ret
          exact ⟨by rw [← HFIN.out 200 (.inl ⟨rfl, by omega⟩)]; rfl, hb.out⟩
        · go_ret
          exact ⟨by rw [← HF2.out (by omega)]; rfl, hb.out⟩
end Go.Proofs.Ytigmmcmekklkfaa
