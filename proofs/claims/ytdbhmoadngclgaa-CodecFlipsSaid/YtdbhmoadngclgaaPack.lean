/- Pack, the code's. -/
import Derived.Lib.AppendStr
import Derived.Test.YtdbhmoadngclgaaRead3
namespace Go.Proofs.Ytdbhmoadngclgaa
open Go.RowKit

/-- The slice at A holds the strings l, in blocks below B. -/
def Strs (w : World) (B : Nat) (A : Option Addr) (l : List ByteArray) : Prop :=
  ∀ (j : Nat) (s : ByteArray), l[j]? = some s → ∃ ad, A = some ad ∧ ad.block < B ∧ w.cell? (ad.add j) = some (.string s)
theorem add_block (a : Addr) (n : Nat) : (a.add n).block = a.block := by unfold Addr.add; split <;> rfl
theorem Strs.below {w w' : World} {B B' : Nat} {A : Option Addr} {l : List ByteArray} (h : Strs w B A l) (hb : Below B' w w') (hB : B ≤ B') : Strs w' B A l := fun j s hj => by
  obtain ⟨ad, e, hlt, hc⟩ := h j s hj
  exact ⟨ad, e, hlt, (hb.cell (p := ad.add j) (by rw [add_block]; omega)).trans hc⟩
theorem Strs.more {w : World} {B B' : Nat} {A : Option Addr} {l : List ByteArray} (h : Strs w B A l) (hB : B ≤ B') : Strs w B' A l := fun j s hj => by
  obtain ⟨ad, e, hlt, hc⟩ := h j s hj
  exact ⟨ad, e, by omega, hc⟩
theorem Strs.nil (w : World) (B : Nat) (A : Option Addr) : Strs w B A [] := fun j s hj => by simp at hj
theorem Strs.own {w : World} {base n c : Nat} {A : Option Addr} {l : List ByteArray} (h : w.ownsRow base 9 1 (.slice A n c) n (l.map Value.string)) : Strs w w.heap.size A l := fun j s hj => by
  rcases h.2 with ⟨_, h0⟩ | ⟨g, cap, cur, hv, _, hg, _⟩
  · have := h.1
    subst h0
    have hl : l = [] := by simpa using this
    subst hl
    simp at hj
  · injection hv with hA _ _
    subst hA
    refine ⟨_, rfl, (Array.getElem?_eq_some_iff.1 hg).1, h.cells (g := g) rfl j _ ?_⟩
    rw [List.getElem?_map, hj]; rfl
theorem own_form {w : World} {base : Nat} {e : TypeId} {v : Value} {n : Nat} {xs : List Value} (h : w.ownsRow base e 1 v n xs) : ∃ A c, v = .slice A n c := by
  rcases h.2 with ⟨rfl, rfl⟩ | ⟨g, cap, _, rfl, _⟩
  · exact ⟨_, _, rfl⟩
  · exact ⟨_, _, rfl⟩

/-- a string in a pack: its length, its bytes -/
def one (s : ByteArray) : List UInt8 := numL s.size ++ s.data.toList
def pk (k : Nat) (l : List ByteArray) : List UInt8 := numL l.length ++ (l.take k).flatMap one
/-- the bytes of a pack -/
def pack (l : List ByteArray) : List UInt8 := numL l.length ++ l.flatMap one
theorem pk_all (l : List ByteArray) : pk l.length l = pack l := by unfold pk pack; rw [List.take_length]
theorem pk_succ {l : List ByteArray} {k : Nat} {s : ByteArray} (h : l[k]? = some s) : pk (k + 1) l = pk k l ++ one s := by
  unfold pk
  rw [List.take_add_one, h]
  simp [List.append_assoc]
theorem pk_le {l : List ByteArray} {k : Nat} (hk : k ≤ l.length) : (pk k l).length ≤ (pack l).length := by
  unfold pk pack
  conv => rhs; rw [← List.take_append_drop k l]
  rw [List.flatMap_append]
  simp

set_option maxRecDepth 100000 in
set_option maxHeartbeats 1000000 in
theorem pack_any (A : Option Addr) (l : List ByteArray) (c : Nat) (w : World) (hS : Strs w w.heap.size A l) (hcap : l.length ≤ c) (hl : l.length ≤ maxLen) (hz : ∀ s ∈ l, s.size ≤ maxLen)
    (hbig : (pack l).length ≤ 70368744177664) :
    Calls Try.prog 27 #[.slice A l.length c] w fun e w' => e = .returned (.string (str (pack l))) ∧ Below w.heap.size w w' := by
  unfold maxLen at hl
  have hpos := numL_pos l.length
  obtain ⟨i5, hi, hz0, hz1, hz2⟩ := info_parts info5
  have hfirst : (pk 0 l).length ≤ (pack l).length := pk_le (Nat.zero_le _)
  go_enter Try.func27, Try.ntmps27
  go_wp2_with (go_at_call 32; refine (append_any l.length (by omega) _ w.heap.size (Nat.le_refl _) none 0 0 [] (World.ownsRow_nil _ _ _ _) (by omega)).mono ?_; rintro e w1 ⟨v, rfl, hrow, hb1⟩; simp only [Nat.zero_add, List.nil_append] at hrow; obtain ⟨A1, c1, rfl⟩ := own_form hrow)
  go_loopw [3, 12] (fun v j wr => ∃ (k n : Nat) (A2 : Option Addr) (c2 : Nat) (xs : List UInt8), k ≤ l.length ∧ j = .int .i64 k ∧ v = .slice A2 n c2 ∧ wr.ownsRow w.heap.size 5 1 (.slice A2 n c2) n (xs.map enc8) ∧ Hid (xs = pk k l) ∧ Hid (n = xs.length) ∧ Below w.heap.size w wr)
    (fun _ j _ => l.length - (intOf j).toNat)
  case atStart => exact ⟨0, _, A1, c1, numL l.length, Nat.zero_le _, rfl, rfl, hrow, Lib.hid (by simp [pk]), Lib.hid rfl, hb1⟩
  case round =>
    obtain ⟨k, n, A2, c2, xs, hk, rfl, rfl, hown, HX, HN, hB⟩ := hrel
    have hple := pk_le hk
    have hn : n ≤ 70368744177664 := by rw [HN.out, HX.out]; omega
    by_cases hlt : k < l.length
    · have hls : l[k]? = some l[k] := List.getElem?_eq_getElem hlt
      obtain ⟨s, hs⟩ : ∃ s, s = l[k] := ⟨_, rfl⟩
      rw [← hs] at hls
      obtain ⟨ad, rfl, hlt2, hcell0⟩ := hS k s hls
      have hcell : wr.cell? (ad.add k) = some (.string s) := (hB.cell (p := ad.add k) (by rw [add_block]; exact hlt2)).trans hcell0
      have hsz : s.size ≤ maxLen := hz s (by rw [hs]; exact List.getElem_mem _)
      have HS := Lib.hid (pk_succ hls)
      have hpl2 := pk_le (l := l) (k := k + 1) (by omega)
      rw [HS.out, List.length_append] at hpl2
      unfold one at hpl2
      rw [List.length_append, ← HX.out, ← HN.out] at hpl2
      have hdl : s.data.toList.length = s.size := by simp
      rw [hdl] at hpl2
      have hn2 : n + (numL s.size).length + s.size ≤ 70368744177664 := by omega
      unfold maxLen at hsz
      clear hls hs hpl2 hdl hple hcell0 hlt2
      go_wp2_with (first
        | (go_at_call 32; refine (append_any s.size (by omega) _ w.heap.size hB.size A2 n c2 _ hown (by omega)).mono ?_; rintro e w2 ⟨v, rfl, hrow2, hb2⟩; obtain ⟨A3, c3, rfl⟩ := own_form hrow2)
        | (at_builtin; refine Lib.wpList_append_own_string _ rfl _ _ 27 9 rfl w.heap.size 5 i5 Try.underlying27 Try.underlying9 hi hz0 hz1 hz2 (.slice A3 (n + (numL s.size).length) c3) _ _ rfl hrow2 s rfl (by unfold maxLen; omega) (by omega) (Nat.le_trans hB.size hb2.size) ?_; intro v3 w3 hown3 hgrow3 _; obtain ⟨A4, c4, rfl⟩ := own_form hown3))
      go_roundw
      case rel =>
        refine ⟨k + 1, _, A4, c4, xs ++ one s, by omega, by go_num, rfl, ?_, Lib.hid (by rw [HS.out, HX.out]), Lib.hid ?_, ?_⟩
        · have e : (xs ++ one s).map enc8 = xs.map enc8 ++ (numL s.size).map enc8 ++ Lib.strCells s := by
            unfold one Lib.strCells; simp only [List.map_append, List.append_assoc]; rfl
          rw [e]; exact hown3
        · unfold one
          rw [List.length_append, List.length_append, HN.out]
          simp; omega
        · refine (hB.trans hb2).grown hgrow3 (Nat.le_trans hB.size hb2.size) fun j ej => ?_
          rcases hrow2.2 with ⟨h0, _⟩ | ⟨g, cap, cur, h0, hbg, _⟩
          · rw [h0] at ej; simp [Value.ownBlock] at ej
          · rw [h0] at ej
            obtain rfl : g = j := by simpa [Value.ownBlock] using ej
            exact hbg
      case measure => simp [intOf]; omega
    · obtain rfl : k = l.length := by omega
      rw [pk_all] at HX
      have hp : 0 < (pack l).length := by unfold pack; rw [List.length_append]; omega
      have hnl : n = (pack l).length := by rw [HN.out, HX.out]
      have hx : xs = pack l := HX.out
      obtain ⟨g, cap, hv, hcv⟩ := own_pos hp hown hnl (by rw [hx])
      injection hv with h1 h2 h3
      clear HX HN hple
      subst hx h1 h2 h3
      go_wp2
      go_ret
      exact ⟨rfl, hB⟩

end Go.Proofs.Ytdbhmoadngclgaa
