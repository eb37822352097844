/- Unpack, the reference's. -/
import Derived.Test.YtdbhmoadngclgaaPacks
import Derived.Test.YtdbhmoadngclgaaReads
namespace Go.Proofs.Ytdbhmoadngclgaa
open Go.RowKit

theorem ext_mid (s : ByteArray) (a n : Nat) : (s.extract a (a + n)).data.toList = (s.data.toList.drop a).take n := by
  rw [Lib.extract_data, Nat.add_sub_cancel_left]

/-- One more text, by positions. -/
theorem rtext_parts (l : List UInt8) (v n e : Nat) (h : rd l = (v, n, e)) :
    rtext l = if e ≠ 0 then (e, [], l.drop n) else if (l.drop n).length < v then (20, [], l.drop n) else (0, (l.drop n).take v, (l.drop n).drop v) := by
  unfold rtext
  rw [h]

theorem own_kept {w w' : World} {base : Nat} {e : TypeId} {size n : Nat} {v : Value} {xs : List Value} (h : w.ownsRow base e size v n xs) (hb : Below w.heap.size w w') : w'.ownsRow base e size v n xs := by
  refine ⟨h.1, ?_⟩
  rcases h.2 with h0 | ⟨g, cap, cur, hv, hg, hh, h3⟩
  · exact .inl h0
  · exact .inr ⟨g, cap, cur, hv, hg, (hb.block g (Array.getElem?_eq_some_iff.1 hh).1).trans hh, h3⟩

set_option maxRecDepth 100000 in
set_option maxHeartbeats 2000000 in
theorem refUnpack_any (s : ByteArray) (w : World) (hs : s.size ≤ 4398046511104) :
    Calls Try.prog 36 #[.string s] w (UnpackPost w (unpack s.data.toList)) := by
  obtain ⟨U, HU⟩ : ∃ U, Hid (unpack s.data.toList = U) := ⟨_, Lib.hid rfl⟩
  rw [HU.out]
  obtain ⟨m, n0, e0, H0⟩ : ∃ v n e, Hid (rd s.data.toList = (v, n, e)) := ⟨_, _, _, Lib.hid rfl⟩
  have hm : m < 18446744073709551616 := by have := rd_lt s.data.toList; rw [H0.out] at this; exact this
  have he22 : e0 ≤ 22 := by have := rd_err s.data.toList; rw [H0.out] at this; exact this
  have hn0 : n0 ≤ s.size := by
    have := rd_size s.data.toList
    rw [H0.out] at this
    simpa using this
  obtain ⟨i9, hi, hz0, hz1, hz2⟩ := info_parts info9
  have hU := HU.out
  unfold unpack at hU
  rw [H0.out] at hU
  dsimp only at hU
  by_cases he : e0 = 0
  · subst he
    rw [if_neg (by omega)] at hU
    obtain ⟨R, HR⟩ : ∃ R, Hid (rlist m (s.data.toList.drop n0) [] = R) := ⟨_, Lib.hid rfl⟩
    rw [HR.out] at hU
    have HU2 := Lib.hid hU
    clear hU
    go_enter Try.func36, Try.ntmps36
    go_wp2_with (first
      | (go_at_call 34; refine (refRead_tuple s _ (by unfold maxLen; omega) m n0 0 H0).mono ?_; rintro e w1 ⟨rfl, hb1⟩))
    go_loopw [5, 7, 8] (fun at_ out i wr => ∃ (j p k c : Nat) (A : Option Addr) (xs : List (List UInt8)), i = .int .u64 j ∧ j ≤ m ∧ at_ = .int .i64 p ∧ p ≤ s.size ∧ out = .slice A k c ∧
      wr.ownsRow w.heap.size 9 1 (.slice A k c) k (xs.map strV) ∧ k ≤ p ∧ Hid (rlist (m - j) (s.data.toList.drop p) xs = R) ∧ Below w.heap.size w wr)
      (fun _ _ i _ => m - (intOf i).toNat)
    case atStart => exact ⟨0, n0, 0, 0, none, [], rfl, by omega, rfl, hn0, rfl, World.ownsRow_nil _ _ _ _, by omega, Lib.hid HR.out, hb1⟩
    case round =>
      obtain ⟨j, p, k, c, A, xs, rfl, hj, rfl, hp, rfl, hown, hkp, HQ, hB⟩ := hrel
      by_cases hjm : j < m
      · obtain ⟨v, n, e, H⟩ : ∃ v n e, Hid (rd (s.data.toList.drop p) = (v, n, e)) := ⟨_, _, _, Lib.hid rfl⟩
        have hv : v < 18446744073709551616 := by have := rd_lt (s.data.toList.drop p); rw [H.out] at this; exact this
        have he2 : e ≤ 22 := by have := rd_err (s.data.toList.drop p); rw [H.out] at this; exact this
        have hn : n ≤ s.size - p := by
          have := rd_size (s.data.toList.drop p)
          rw [H.out] at this
          simpa using this
        have hX := fun W => refRead_tuple (s.extract p s.size) W (by unfold maxLen; simp; omega) v n e (Lib.hid (by rw [ext_data]; exact H.out))
        have hrt := rtext_parts _ _ _ _ H.out
        have hdd : (s.data.toList.drop p).drop n = s.data.toList.drop (p + n) := by rw [List.drop_drop]
        have hdl : (s.data.toList.drop (p + n)).length = s.size - (p + n) := by simp
        rw [hdd, hdl] at hrt
        clear hdd hdl
        by_cases hez : e = 0
        · subst hez
          rw [if_neg (by omega)] at hrt
          have hnp : 0 < n := by
            rcases rd_cases (s.data.toList.drop p) with (h | h) | ⟨v', n', h, hpos, _⟩
            · rw [H.out] at h; simp at h
            · rw [H.out] at h; simp at h
            · rw [H.out] at h
              injection h with _ h
              injection h with h _
              omega
          by_cases hlt : s.size - (p + n) < v
          · rw [if_pos hlt] at hrt
            have hR : R = (20, s.data.toList.drop (p + n), xs) := by rw [← HQ.out]; exact rlist_stop (by omega) hrt (by omega)
            have hUf : U = (20, []) := by rw [← HU2.out, hR]; rfl
            have HUF := Lib.hid hUf
            have HRT := Lib.hid hrt
            clear hR hUf hrt
            go_wp2_with (first
              | (go_at_call 34; ((with_reducible refine (hX _).mono ?_); rintro e w3 ⟨rfl, hb3⟩)))
            go_ret2
            rw [HUF.out]
            exact ⟨none, 0, 0, rfl, World.ownsRow_nil _ _ _ _, hB.trans (hb3.mono hB.size)⟩
          · rw [if_neg hlt] at hrt
            have hq : rlist (m - (j + 1)) (s.data.toList.drop (p + n + v)) (xs ++ [(s.data.toList.drop (p + n)).take v]) = R := by
              rw [← HQ.out, rlist_on (by omega) hrt, List.drop_drop, show m - j - 1 = m - (j + 1) by omega]
            have hmid := ext_mid s (p + n) v
            have HQ2 := Lib.hid hq
            have HMID := Lib.hid hmid
            clear hq hmid hrt
            go_wp2_with (first
              | (go_at_call 34; ((with_reducible refine (hX _).mono ?_); rintro e w3 ⟨rfl, hb3⟩; have hown3 := own_kept hown hb3; have hB3 := hB.trans (hb3.mono hB.size)))
              | (at_builtin; refine wpList_append_own _ rfl _ _ 43 rfl w.heap.size 9 i9 (.string ⟨#[]⟩) 1 16 Try.underlying43 hi hz0 hz1 hz2 rfl (by decide) (.slice A k c) _ _ rfl (hown3.alloc _) ⟨w3.heap.size, 0, none⟩ 1 1 [.string (s.extract (p + n) (p + n + v))] rfl rfl (cell_one_new _ _ _) (by simp [Value.oneCell']) (by unfold maxLen; omega) (by omega) (by have := hB3.size; simp; omega) ?_; intro v' w4 hown4 hgrow4 _; obtain ⟨g', cap', rfl⟩ := ownsRow_succ hown4))
            go_roundw
            case rel =>
              refine ⟨j + 1, p + n + v, k + 1, cap', _, xs ++ [(s.data.toList.drop (p + n)).take v], by go_num, by omega, by go_num, by omega, rfl, ?_, by omega, Lib.hid HQ2.out, (hB3.alloc hB3.size _).grown hgrow4 (by have := hB3.size; simp; omega) (row_ge hown3)⟩
              have e : Value.string (s.extract (p + n) (p + n + v)) = strV ((s.data.toList.drop (p + n)).take v) := by
                unfold strV
                rw [str_eq HMID.out]
              rw [e] at hown4
              simpa using hown4
            case measure => simp [intOf]; omega
        · rw [if_pos hez] at hrt
          have hR : R = (e, s.data.toList.drop (p + n), xs) := by rw [← HQ.out]; exact rlist_stop (by omega) hrt hez
          have hUf : U = (e, []) := by rw [← HU2.out, hR]; exact if_pos hez
          have HUF := Lib.hid hUf
          clear hR hUf hrt
          go_wp2_with (first
            | (go_at_call 34; ((with_reducible refine (hX _).mono ?_); rintro e w3 ⟨rfl, hb3⟩)))
          go_ret2
          rw [HUF.out]
          exact ⟨none, 0, 0, rfl, World.ownsRow_nil _ _ _ _, hB.trans (hb3.mono hB.size)⟩
      · obtain rfl : j = m := by omega
        have hR : R = (0, s.data.toList.drop p, xs) := by rw [← HQ.out, Nat.sub_self]; rfl
        by_cases hpl : p < s.size
        · have hUf : U = (22, []) := by
            rw [← HU2.out, hR]
            rw [if_neg (by simp), if_pos]
            intro h
            have := congrArg List.length h
            simp at this
            omega
          have HUF := Lib.hid hUf
          clear hR hUf
          go_wp2
          go_ret2
          rw [HUF.out]
          exact ⟨none, 0, 0, rfl, World.ownsRow_nil _ _ _ _, hB⟩
        · have hUf : U = (0, xs) := by
            rw [← HU2.out, hR]
            rw [if_neg (by simp), if_neg]
            simp
            omega
          have HUF := Lib.hid hUf
          clear hR hUf
          go_wp2
          go_ret2
          rw [HUF.out]
          exact ⟨A, k, c, rfl, hown, hB⟩
  · rw [if_pos he] at hU
    have HUF := Lib.hid hU
    clear hU
    go_enter Try.func36, Try.ntmps36
    go_wp2_with (first
      | (go_at_call 34; refine (refRead_tuple s _ (by unfold maxLen; omega) m n0 e0 H0).mono ?_; rintro e w1 ⟨rfl, hb1⟩))
    go_ret2
    rw [← HUF.out]
    exact ⟨none, 0, 0, rfl, World.ownsRow_nil _ _ _ _, hb1⟩

end Go.Proofs.Ytdbhmoadngclgaa
