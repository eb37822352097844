/- The reader: readNumber, readText. -/
import Derived.Lib.IndexBytes
import Derived.Test.YtdbhmoadngclgaaSpec
namespace Go.Proofs.Ytdbhmoadngclgaa
open Go.RowKit

theorem read_tuple (s : ByteArray) (w : World) (hs : s.size ≤ maxLen) (v n e : Nat) (h : Hid (rd s.data.toList = (v, n, e))) :
    Calls Try.prog 19 #[.string s] w fun en w' => en = .returned (.tuple #[.int .u64 (v : Int), .int .i64 (n : Int), .int .i64 (e : Int)]) ∧ w = w' := by
  have := read_any s w hs
  rwa [h.out] at this

/-- The unpacker in block g: what is left, and the list. -/
def Two (W : World) (g : Nat) (a b : Value) : Prop := W.heap[g]? = some (.cells #[a, b] 60 (0, 0))
section
variable {W W' : World} {g : Nat} {a b : Value}
theorem Two.lt (h : Two W g a b) : g < W.heap.size := (Array.getElem?_eq_some_iff.1 h).1
theorem Two.cell0 (h : Two W g a b) : W.cell? ⟨g, 0, none⟩ = some a := by simp [World.cell?, show W.heap[g]? = _ from h]
theorem Two.cell1 (h : Two W g a b) : W.cell? ⟨g, 1, none⟩ = some b := by simp [World.cell?, show W.heap[g]? = _ from h]
theorem Two.frozen0 (h : Two W g a b) : W.frozen? ⟨g, 0, none⟩ = false := by simp [World.frozen?, show W.heap[g]? = _ from h]
theorem Two.frozen1 (h : Two W g a b) : W.frozen? ⟨g, 1, none⟩ = false := by simp [World.frozen?, show W.heap[g]? = _ from h]
theorem Two.set0 (h : Two W g a b) (v : Value) : Two (W.setCell ⟨g, 0, none⟩ v) g v b := by
  obtain ⟨hlt, hk⟩ := Array.getElem?_eq_some_iff.1 h
  show (W.heap.modify g _)[g]? = _
  rw [Array.getElem?_eq_getElem (by rw [Array.size_modify]; exact hlt), Array.getElem_modify_self, hk]
  rfl
theorem Two.set1 (h : Two W g a b) (v : Value) : Two (W.setCell ⟨g, 1, none⟩ v) g a v := by
  obtain ⟨hlt, hk⟩ := Array.getElem?_eq_some_iff.1 h
  show (W.heap.modify g _)[g]? = _
  rw [Array.getElem?_eq_getElem (by rw [Array.size_modify]; exact hlt), Array.getElem_modify_self, hk]
  rfl
theorem Two.kept {row : Option Nat} (h : Two W g a b) (hg : W.grownBy W' row) (hne : some g ≠ row) : Two W' g a b := (hg.block g h.lt hne).trans h
theorem Two.alloc (h : Two W g a b) (o : Obj) : Two (W.alloc o) g a b := h.kept (World.grownBy_alloc W o none) (by simp)
theorem Two.not_row (h : Two W g a b) {base size k : Nat} {e : TypeId} (he : e ≠ 60) {v : Value} {xs : List Value} (hr : W.ownsRow base e size v k xs) : some g ≠ v.ownBlock := by
  rcases hr.2 with ⟨rfl, _⟩ | ⟨g', cap, cur, rfl, _, hgb, _⟩
  · simp [Value.ownBlock]
  · intro e'
    obtain rfl : g = g' := by simpa [Value.ownBlock] using e'
    have := (show W.heap[g]? = _ from h).symm.trans hgb
    simp at this
    exact he this.2.symm
end

theorem ext_data (s : ByteArray) (n : Nat) : (s.extract n s.size).data.toList = s.data.toList.drop n := Lib.extract_to_end s n
theorem ext_take (s : ByteArray) (n : Nat) : (s.extract 0 n).data.toList = s.data.toList.take n := by rw [Lib.extract_data]; simp

set_option maxHeartbeats 1000000 in
theorem readNumber_any (g : Nat) (s : ByteArray) (b : Value) (w : World) (hT : Two w g (.string s) b) (hs : s.size ≤ maxLen) (v n e : Nat) (h : Hid (rd s.data.toList = (v, n, e))) :
    Calls Try.prog 38 #[.pointer (some ⟨g, 0, none⟩)] w fun en w' => en = .returned (.tuple #[.int .u64 (v : Int), .int .i64 (e : Int)]) ∧ w' = w.setCell ⟨g, 0, none⟩ (.string (s.extract n s.size)) := by
  have hc := hT.cell0
  have hf := hT.frozen0
  have hn : n ≤ s.size := by
    have := rd_size s.data.toList
    rw [h.out] at this
    simpa using this
  have hs' := hs
  unfold maxLen at hs'
  go_enter Try.func38, Try.ntmps38
  go_wp2_with (go_at_call 19; refine (read_tuple s _ hs v n e h).mono ?_; rintro e w' ⟨rfl, rfl⟩)
  go_ret2
  exact ⟨rfl, rfl⟩

theorem grown_set (W : World) (g o : Nat) (v : Value) : W.grownBy (W.setCell ⟨g, o, none⟩ v) (some g) :=
  ⟨rfl, rfl, rfl, (KeepsWalks.setCell W _ v).size, fun k _ hk => Below.heap_setCell _ _ _ k (fun e => hk (by rw [e]))⟩
theorem grown_trans {a b c : World} {g : Nat} (h : a.grownBy b (some g)) (k : b.grownBy c (some g)) : a.grownBy c (some g) :=
  ⟨k.os.trans h.os, k.tape.trans h.tape, k.output.trans h.output, Nat.le_trans h.size k.size, fun i hi hne => (k.block i (Nat.lt_of_lt_of_le hi h.size) hne).trans (h.block i hi hne)⟩

def TextPost (w : World) (g : Nat) (b : Value) (er : Nat) (txt rest : List UInt8) (en : Ending) (w' : World) : Prop :=
  en = .returned (.tuple #[.string (str txt), .int .i64 (er : Int)]) ∧ ∃ s', s'.data.toList = rest ∧ Two w' g (.string s') b ∧ w.grownBy w' (some g)

theorem str_eq {s : ByteArray} {l : List UInt8} (h : s.data.toList = l) : s = str l := by
  apply Go.WideShapes.bytes_inj
  rw [h]; rfl

set_option maxHeartbeats 1000000 in
theorem readText_any (g : Nat) (s : ByteArray) (b : Value) (w : World) (hT : Two w g (.string s) b) (hs : s.size ≤ maxLen) (er : Nat) (txt rest : List UInt8) (h : Hid (rtext s.data.toList = (er, txt, rest))) :
    Calls Try.prog 39 #[.pointer (some ⟨g, 0, none⟩)] w (TextPost w g b er txt rest) := by
  have hs' := hs
  unfold maxLen at hs'
  obtain ⟨v, n, e, H⟩ : ∃ v n e, Hid (rd s.data.toList = (v, n, e)) := ⟨_, _, _, Lib.hid rfl⟩
  have hv : v < 18446744073709551616 := by have := rd_lt s.data.toList; rw [H.out] at this; exact this
  have hn : n ≤ s.size := by
    have := rd_size s.data.toList
    rw [H.out] at this
    simpa using this
  have he22 : e ≤ 22 := by have := rd_err s.data.toList; rw [H.out] at this; exact this
  obtain ⟨t, HT⟩ : ∃ t, Hid (s.extract n s.size = t) := ⟨_, Lib.hid rfl⟩
  have hT1 := hT.set0 (.string t)
  have hc := hT1.cell0
  have hf := hT1.frozen0
  have htl : t.data.toList = s.data.toList.drop n := by rw [← HT.out, ext_data]
  have htz : t.size = s.size - n := by
    have := congrArg List.length htl
    simpa using this
  have HTL := Lib.hid htl
  have HTZ := Lib.hid htz
  have htle : t.size ≤ s.size := by omega
  clear htl htz
  by_cases he : e = 0
  · subst he
    by_cases hlt : t.size < v
    · go_enter Try.func39, Try.ntmps39
      go_wp2_with (go_at_call 38; refine (readNumber_any g s b _ hT hs v n 0 H).mono ?_; rw [HT.out]; rintro e w' ⟨rfl, rfl⟩)
      go_ret2
      have h' := h.out
      unfold rtext at h'
      rw [H.out] at h'
      dsimp only at h'
      rw [if_neg (by omega), ← HTL.out, if_pos (by simpa using hlt)] at h'
      injection h' with h1 h'
      injection h' with h2 h3
      subst h1 h2 h3
      exact ⟨rfl, t, rfl, hT1, grown_set _ _ _ _⟩
    · have hb1 : (t.extract 0 v).data.toList = t.data.toList.take v := ext_take t v
      have hb2 : (t.extract v t.size).data.toList = t.data.toList.drop v := ext_data t v
      have HB1 := Lib.hid hb1
      have HB2 := Lib.hid hb2
      clear hb1 hb2
      go_enter Try.func39, Try.ntmps39
      go_wp2_with (go_at_call 38; refine (readNumber_any g s b _ hT hs v n 0 H).mono ?_; rw [HT.out]; rintro e w' ⟨rfl, rfl⟩)
      go_ret2
      have h' := h.out
      unfold rtext at h'
      rw [H.out] at h'
      dsimp only at h'
      rw [if_neg (by omega), ← HTL.out, if_neg (by simpa using hlt)] at h'
      injection h' with h1 h'
      injection h' with h2 h3
      subst h1 h2 h3
      rw [← HB2.out]
      refine ⟨?_, _, rfl, hT1.set0 _, grown_trans (grown_set _ _ _ _) (grown_set _ _ _ _)⟩
      rw [← str_eq HB1.out]
      rfl
  · go_enter Try.func39, Try.ntmps39
    go_wp2_with (go_at_call 38; refine (readNumber_any g s b _ hT hs v n e H).mono ?_; rw [HT.out]; rintro e w' ⟨rfl, rfl⟩)
    go_ret2
    have h' := h.out
    unfold rtext at h'
    rw [H.out] at h'
    dsimp only at h'
    rw [if_pos (by omega), ← HTL.out] at h'
    injection h' with h1 h'
    injection h' with h2 h3
    subst h1 h2 h3
    exact ⟨rfl, t, rfl, hT1, grown_set _ _ _ _⟩

end Go.Proofs.Ytdbhmoadngclgaa
