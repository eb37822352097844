/- What the reference's Frames sees of a frame: when it stops, when it goes on. -/
import Derived.Test.YthhpnlobhffimaaJMath
namespace Go.Proofs.Ythhpnlobhffimaa
set_option maxRecDepth 100000
theorem frB_err {s : List UInt8} (h : (rd s).2.2 ≠ 0) : readB s = none := by
  unfold readB
  rw [if_pos (.inl h)]
/-- a length that reaches behind the end -/
theorem frB_short {s : List UInt8} {v u : Nat} (h : rd s = (v, u, 0)) (hl : s.length < u + v + 4) : readB s = none := by
  cases hr : readB s with
  | none => rfl
  | some r =>
    obtain ⟨h0, h1⟩ := rd_inv h
    unfold readB at hr
    rw [h] at hr
    split at hr
    · cases hr
    · next hn =>
      split at hr
      · next hp =>
        have hp := List.isPrefixOf_iff_prefix.1 hp
        have hle := hp.length_le
        have hv : v ≤ s.length - u := by
          have := hn
          simp only [ne_eq, not_true_eq_false, false_or, Nat.not_lt] at this
          exact this
        rw [body_len] at hle
        have hlen : ((s.drop u).take v).length = v := by rw [List.length_take, List.length_drop]; omega
        simp only at hle
        rw [hlen, h1, List.length_take] at hle
        omega
      · cases hr
/-- a length that fits: the frame is good where its bytes are the body's -/
theorem frB_fits {s : List UInt8} {v u : Nat} (h : rd s = (v, u, 0)) (hl : u + v + 4 ≤ s.length) :
    (body ((s.drop u).take v)).length = u + v + 4 ∧ readB s = if s.take (u + v + 4) = body ((s.drop u).take v) then some ((s.drop u).take v) else none := by
  obtain ⟨h0, h1⟩ := rd_inv h
  have hlen : ((s.drop u).take v).length = v := by rw [List.length_take, List.length_drop]; omega
  have hb : (body ((s.drop u).take v)).length = u + v + 4 := by
    rw [body_len, hlen, h1, List.length_take]; omega
  refine ⟨hb, ?_⟩
  unfold readB
  rw [h, if_neg (by simp only [ne_eq, not_true_eq_false, false_or, Nat.not_lt]; omega)]
  simp only
  by_cases he : s.take (u + v + 4) = body ((s.drop u).take v)
  · rw [if_pos he, if_pos]
    rw [List.isPrefixOf_iff_prefix, ← he]
    exact List.take_prefix _ _
  · rw [if_neg he, if_neg]
    intro hp
    have hp := List.isPrefixOf_iff_prefix.1 hp
    rw [List.prefix_iff_eq_take, hb] at hp
    exact he hp.symm
end Go.Proofs.Ythhpnlobhffimaa
