/- readBody. -/
import Derived.Test.YthhpnlobhffimaaJBody
namespace Go.Proofs.Ythhpnlobhffimaa
set_option maxRecDepth 100000
open Go.RowKit
/-- what readBody returns -/
def RBo (o : Option (List UInt8)) : Ending := match o with
  | none => .returned (.tuple #[.string ⟨#[]⟩, .bool false])
  | some r => .returned (.tuple #[.string (str r), .bool true])
theorem readNum_err (s : ByteArray) (w : World) (hs : s.size ≤ maxLen) (er : Nat) (h : rd s.data.toList = (0, 0, er)) :
    Calls Try.prog 64 #[.string s] w fun e w' => e = .returned (.tuple #[.int .u64 0, .int .i64 0, .int .i64 (er : Int)]) ∧ w = w' := by
  have := readNum_any s w hs
  rw [h] at this
  exact this
theorem readNum_ok (s : ByteArray) (w : World) (hs : s.size ≤ maxLen) (v n : Nat) (h : rd s.data.toList = (v, n, 0)) :
    Calls Try.prog 64 #[.string s] w fun e w' => e = .returned (.tuple #[.int .u64 (v : Int), .int .i64 (n : Int), .int .i64 0]) ∧ w = w' := by
  have := readNum_any s w hs
  rw [h] at this
  exact this
theorem readB_err {s : List UInt8} {er : Nat} (h : rd s = (0, 0, er)) (h0 : er ≠ 0) : readB s = none := by
  unfold readB; rw [h, if_pos (.inl h0)]
theorem readB_far {s : List UInt8} {v n : Nat} (h : rd s = (v, n, 0)) (h0 : s.length - n < v) : readB s = none := by
  unfold readB; rw [h, if_pos (.inr h0)]
theorem readB_ok {s : List UInt8} {v n : Nat} (h : rd s = (v, n, 0)) (h0 : ¬ s.length - n < v) : readB s = if (body ((s.drop n).take v)).isPrefixOf s then some ((s.drop n).take v) else none := by
  unfold readB
  rw [h, if_neg]
  rintro (h1 | h1)
  · exact h1 rfl
  · exact h0 h1
set_option maxHeartbeats 1000000 in
theorem readBody_any (s : ByteArray) (w : World) (hs : s.size ≤ 281474976710656) : Calls Try.prog 55 #[.string s] w fun e w' => e = RBo (readB s.data.toList) ∧ Below w.heap.size w w' := by
  have hsm : s.size ≤ maxLen := by unfold maxLen; omega
  rcases rd_cases s.data.toList with (h | h) | ⟨v, n, h, h1, h2, h3, h4⟩
  · have H := Lib.hid (readNum_err s w hsm 20 h)
    rw [readB_err h (by decide)]
    unfold RBo
    clear h
    go_enter Try.func55, Try.ntmps55
    go_wp2_with (go_at_call 64; ((with_reducible refine H.out.mono ?_); rintro e w1 ⟨rfl, rfl⟩))
    refine bodyPost_ret (by simp [results, Try.results55, go_sem]; rfl) rfl ?_
    exact ⟨rfl, Below.refl _ _⟩
  · have H := Lib.hid (readNum_err s w hsm 22 h)
    rw [readB_err h (by decide)]
    unfold RBo
    clear h
    go_enter Try.func55, Try.ntmps55
    go_wp2_with (go_at_call 64; ((with_reducible refine H.out.mono ?_); rintro e w1 ⟨rfl, rfl⟩))
    refine bodyPost_ret (by simp [results, Try.results55, go_sem]; rfl) rfl ?_
    exact ⟨rfl, Below.refl _ _⟩
  · have H := Lib.hid (readNum_ok s w hsm v n h)
    rw [data_len] at h2
    have i1 : (n : Int) ≤ (s.size : Int) := by omega
    by_cases h0 : s.size - n < v
    · rw [readB_far h (by rw [data_len]; exact h0)]
      unfold RBo
      have i2 : (s.size : Int) - (n : Int) < (v : Int) := by omega
      have i4 : (v : Int) ≤ 18446744073709551615 := by omega
      clear h
      go_enter Try.func55, Try.ntmps55
      go_wp2_with (go_at_call 64; ((with_reducible refine H.out.mono ?_); rintro e w1 ⟨rfl, rfl⟩))
      refine bodyPost_ret (by simp [results, Try.results55, go_sem]; rfl) rfl ?_
      exact ⟨rfl, Below.refl _ _⟩
    · rw [readB_ok h (by rw [data_len]; exact h0)]
      have i2 : (v : Int) ≤ (s.size : Int) - (n : Int) := by omega
      have hr : (s.extract n (n + v)).data.toList = (s.data.toList.drop n).take v := by rw [Lib.extract_data]; simp
      have hrs : (s.extract n (n + v)).size ≤ 281474976710656 := by simp; omega
      rw [← hr]
      obtain ⟨R, hR⟩ : ∃ R, s.extract n (n + v) = R := ⟨_, rfl⟩
      rw [hR] at hr hrs ⊢
      have HB := Lib.hid (fun w => body_any R w hrs)
      have HP := Lib.hid (fun w => hasPre s (str (body R.data.toList)) w)
      have hsr : str R.data.toList = R := (str_eq rfl).symm
      rw [str_data] at HP
      obtain ⟨Bd, hBd⟩ : ∃ Bd, str (body R.data.toList) = Bd := ⟨_, rfl⟩
      rw [hBd] at HB HP
      have i5 : (n : Int) + (v : Int) ≤ (s.size : Int) := by omega
      obtain ⟨nv, hnv⟩ : ∃ nv, n + v = nv := ⟨_, rfl⟩
      have i6 : (n : Int) + (v : Int) = (nv : Int) := by omega
      rw [hnv] at hR
      cases hp : (body R.data.toList).isPrefixOf s.data.toList with
      | false =>
        rw [hp] at HP
        rw [if_neg (by decide)]
        unfold RBo
        clear h hr hp hsr hBd
        go_enter Try.func55, Try.ntmps55
        go_wp2_with (first
          | (go_at_call 64; ((with_reducible refine H.out.mono ?_); rintro e w1 ⟨rfl, rfl⟩))
          | (go_at_call 38; ((with_reducible refine (HB.out _).mono ?_); rintro e w2 ⟨rfl, hb⟩))
          | (go_at_call 54; ((with_reducible refine (HP.out _).mono ?_); rintro e w3 ⟨rfl, rfl⟩))
          | (fail "arm"))
        refine bodyPost_ret (by simp [results, Try.results55, go_sem]; rfl) rfl ?_
        exact ⟨rfl, hb⟩
      | true =>
        rw [hp] at HP
        rw [if_pos rfl]
        unfold RBo
        dsimp only
        rw [hsr]
        clear h hr hp hsr hBd
        go_enter Try.func55, Try.ntmps55
        go_wp2_with (first
          | (go_at_call 64; ((with_reducible refine H.out.mono ?_); rintro e w1 ⟨rfl, rfl⟩))
          | (go_at_call 38; ((with_reducible refine (HB.out _).mono ?_); rintro e w2 ⟨rfl, hb⟩))
          | (go_at_call 54; ((with_reducible refine (HP.out _).mono ?_); rintro e w3 ⟨rfl, rfl⟩))
          | (fail "arm"))
        refine bodyPost_ret (by simp [results, Try.results55, go_sem]; rfl) rfl ?_
        exact ⟨rfl, hb⟩
end Go.Proofs.Ythhpnlobhffimaa
