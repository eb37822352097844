/- The lists of LinesLong and their differences. -/
import Derived.Test.YtmeoannheomdoaaDiffMath
import Derived.Test.YtmeoannheomdoaaText
namespace Go.Proofs.Ytmeoannheomdoaa

def frontS : ByteArray := ⟨#[102, 114, 111, 110, 116]⟩
def middleS : ByteArray := ⟨#[109, 105, 100, 100, 108, 101]⟩
def backS : ByteArray := ⟨#[98, 97, 99, 107]⟩
def coreL (mark : ByteArray) (many : Nat) : List ByteArray := (List.range many).map fun k => if k = many / 2 then middleS else mark
def makeL (mark : ByteArray) (many f e : Nat) : List ByteArray := List.replicate f frontS ++ (coreL mark many ++ List.replicate e backS)
theorem coreL_eq (mark : ByteArray) (n k : Nat) (h : (n + 1 + k) / 2 = n) : coreL mark (n + 1 + k) = List.replicate n mark ++ middleS :: List.replicate k mark := by
  unfold coreL
  rw [h]
  apply List.ext_getElem
  · simp; omega
  · intro i h1 h2
    rw [List.getElem_map, List.getElem_range]
    by_cases hi : i < n
    · rw [if_neg (by omega), List.getElem_append_left (by simpa using hi), List.getElem_replicate]
    · rw [List.getElem_append_right (by simp; omega)]
      by_cases he : i = n
      · subst he; simp
      · rw [if_neg he]
        have : i - (List.replicate n mark).length = (i - n - 1) + 1 := by simp; omega
        simp only [this, List.getElem_cons_succ, List.getElem_replicate]
def aS : ByteArray := ⟨#[97]⟩
def bS : ByteArray := ⟨#[98]⟩
theorem a_ne_b : aS ≠ bS := by decide
theorem a_ne_m : aS ≠ middleS := by decide
theorem b_ne_m : bS ≠ middleS := by decide
theorem core_pre (n k n' k' : Nat) (s : List ByteArray) : pre ((List.replicate (n + 1) aS ++ middleS :: List.replicate k aS) ++ s) ((List.replicate (n' + 1) bS ++ middleS :: List.replicate k' bS) ++ s) = 0 := by
  rw [List.replicate_succ, List.replicate_succ]
  exact pre_ne a_ne_b
theorem core_suf (n k n' k' : Nat) : suf (List.replicate n aS ++ middleS :: List.replicate (k + 1) aS) (List.replicate n' bS ++ middleS :: List.replicate (k' + 1) bS) = 0 := by
  rw [List.replicate_succ' (n := k), List.replicate_succ' (n := k')]
  have e : ∀ (l r : List ByteArray) (x : ByteArray), l ++ middleS :: (r ++ [x]) = (l ++ middleS :: r) ++ [x] := fun l r x => by simp
  rw [e, e]
  exact suf_ne a_ne_b
theorem diff_long (f e : Nat) : diff (makeL aS 2001 f e) (makeL bS 2000 f e) = [⟨f, f + 2001, f, f + 2000⟩] := by
  unfold makeL
  have h := diff_parts (List.replicate f frontS) (coreL aS 2001) (coreL bS 2000) (List.replicate e backS)
    (by rw [show coreL aS 2001 = _ from coreL_eq aS 1000 1000 rfl, show coreL bS 2000 = _ from coreL_eq bS 1000 999 rfl]; exact core_pre 999 1000 999 999 _)
    (by rw [show coreL aS 2001 = _ from coreL_eq aS 1000 1000 rfl, show coreL bS 2000 = _ from coreL_eq bS 1000 999 rfl]; exact core_suf 1000 999 1000 998)
  rw [h]
  have l1 : (coreL aS 2001).length = 2001 := by unfold coreL; rw [List.length_map, List.length_range]
  have l2 : (coreL bS 2000).length = 2000 := by unfold coreL; rw [List.length_map, List.length_range]
  have hm : midPairs (coreL aS 2001) (coreL bS 2000) = [] := by unfold midPairs; rw [l1, l2, if_pos (by decide)]
  rw [hm, l1, l2, List.length_replicate]
  simp only [shift, List.map_nil, List.nil_append, gaps, List.append_nil]
  unfold gap
  rw [if_pos (.inl (by omega))]
theorem diff_short (f e : Nat) : diff (makeL aS 200 f e) (makeL bS 100 f e) = [⟨f, f + 100, f, f + 50⟩, ⟨f + 101, f + 200, f + 51, f + 100⟩] := by
  unfold makeL
  have e1 : coreL aS 200 = List.replicate 100 aS ++ middleS :: List.replicate 99 aS := coreL_eq aS 100 99 rfl
  have e2 : coreL bS 100 = List.replicate 50 bS ++ middleS :: List.replicate 49 bS := coreL_eq bS 50 49 rfl
  have h := diff_parts (List.replicate f frontS) (coreL aS 200) (coreL bS 100) (List.replicate e backS)
    (by rw [e1, e2]; exact core_pre 99 99 49 49 _)
    (by rw [e1, e2]; exact core_suf 100 98 50 48)
  rw [h]
  have l1 : (coreL aS 200).length = 200 := by unfold coreL; rw [List.length_map, List.length_range]
  have l2 : (coreL bS 100).length = 100 := by unfold coreL; rw [List.length_map, List.length_range]
  have hm : midPairs (coreL aS 200) (coreL bS 100) = [(100, 50)] := by
    unfold midPairs
    rw [l1, l2, if_neg (by decide), e1, e2]
    exact walk_mid a_ne_b a_ne_m b_ne_m 99 49 100 49
  rw [hm, l1, l2, List.length_replicate]
  simp only [shift, List.map_cons, List.map_nil, List.cons_append, List.nil_append, gaps, List.append_nil]
  unfold gap
  rw [if_pos (.inl (by omega)), if_pos (.inl (by omega))]
  rfl
end Go.Proofs.Ytmeoannheomdoaa
