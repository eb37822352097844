/-
For every list of strings and integer, the law CodecPacks returns true and leaves its arguments as they were: Pack agrees with the reference on the list that the law makes of them, and Unpack undoes it. No condition.
-/
import Derived.Test.YtdbhmoadngclgaaRefPack
namespace Go.Proofs.Ytdbhmoadngclgaa
open Go.ChangeShapes Go.WideShapes Go.ChangeAt Go.RowKit

theorem Strs.on {w w' : World} {A : Option Addr} {l : List ByteArray} (h : Strs w w.heap.size A l) (hb : Below w.heap.size w w') : Strs w' w'.heap.size A l :=
  (h.below hb (Nat.le_refl _)).more hb.size
theorem Below.drewN_ {B : Nat} {a w : World} (h : Below B a w) (n : Nat) : Below B a (w.drewN n) := ⟨h.os, h.tape, h.output, h.size, h.block⟩
theorem Strs.drewN_ {w : World} {A : Option Addr} {l : List ByteArray} (h : Strs w w.heap.size A l) (n : Nat) : Strs (w.drewN n) (w.drewN n).heap.size A l := h
theorem Below.then_ {a b c : World} (h : Below a.heap.size a b) (k : Below b.heap.size b c) : Below a.heap.size a c := h.trans (k.mono h.size)

theorem flat_len {m : Nat} : ∀ (L : List ByteArray), (∀ s ∈ L, s.size ≤ m) → m < 18446744073709551616 → (L.flatMap one).length ≤ L.length * (m + 10)
  | [], _, _ => by simp
  | s :: L, h, hm => by
    have h1 := flat_len L (fun x hx => h x (List.mem_cons_of_mem _ hx)) hm
    have h2 := h s (List.mem_cons_self)
    have h3 := numL_ten (n := s.size) (by omega)
    rw [List.flatMap_cons, List.length_append, List.length_cons, Nat.succ_mul]
    have h4 : (one s).length ≤ m + 10 := by
      unfold one
      rw [List.length_append]
      have : s.data.toList.length = s.size := by simp
      omega
    omega
theorem pack_len {L : List ByteArray} {k m : Nat} (hL : L.length ≤ k) (hs : ∀ s ∈ L, s.size ≤ m) (hm : m < 18446744073709551616) (hk : k < 18446744073709551616) : (pack L).length ≤ k * (m + 10) + 10 := by
  have h1 := flat_len L hs hm
  have h2 := numL_ten (n := L.length) (by omega)
  have h3 := Nat.mul_le_mul_right (m + 10) hL
  unfold pack
  rw [List.length_append]
  omega

def UnpackOk (w : World) (L : List ByteArray) (e : Ending) (w' : World) : Prop :=
  ∃ A c, e = .returned (.tuple #[.slice A L.length c, .int .i64 0]) ∧ Strs w' w'.heap.size A L ∧ L.length ≤ c ∧ Below w.heap.size w w'
/-- Unpack gives back the list of a pack. -/
theorem unpack_of_pack (L : List ByteArray) (w : World) (h1 : L.length ≤ 41) (h2 : ∀ s ∈ L, s.size ≤ 1048576) : Calls Try.prog 28 #[.string (str (pack L))] w (UnpackOk w L) := by
  have hp := pack_len h1 h2 (by omega) (by omega)
  refine (unpack_any (str (pack L)) w (by rw [str_size]; omega)).mono ?_
  rintro e w' ⟨A, n, c, rfl, hown, hb⟩
  rw [str_data, unpack_pack L (by omega) (fun s hs => by have := h2 s hs; omega)] at hown ⊢
  have hm : (L.map (·.data.toList)).map strV = L.map Value.string := by
    rw [List.map_map]
    apply List.map_congr_left
    intro s _
    show Value.string (str s.data.toList) = Value.string s
    rw [← str_eq (s := s) rfl]
  dsimp only at hown
  rw [hm] at hown
  have hn : L.length = n := by simpa using hown.1
  subst hn
  exact ⟨A, c, rfl, Strs.own hown, own_cap hown, hb⟩

/-- A list of strings that came in. -/
theorem open_list {H : Type} {enc : TypeId × Value → H} {W : World} {b1 b2 : Nat} {sp : Nat → Bool} {held : Bool} {v : Value} {d : DataW H} {p : List MemPlace}
    (h : DataW.Trod enc Try.prog W b2 sp held 43 v d p) (hval : Value.okWide Try.prog W .any b1 43 v) :
    ∃ (A : Option Addr) (l : List ByteArray) (c : Nat), v = .slice A l.length c ∧ Strs W W.heap.size A l ∧ l.length ≤ c ∧ l.length ≤ maxLen ∧ ∀ s ∈ l, s.size ≤ maxLen := by
  obtain ⟨fuel, hf⟩ := h
  have hv : v.cells.toList = [v] := by
    obtain ⟨a, n, c, rfl⟩ := okWide_slice Try.underlying43 hval
    rfl
  rw [hv] at hf
  rcases open_strings Try.underlying43 Try.underlying9 (by kernel_rfl) hf with ⟨h0, _⟩ | ⟨a, len, cap, ss, h0, hb, hlc, hcm, hsl, _, hcs, hmx⟩
  · obtain rfl : v = .slice none 0 0 := by simpa using h0
    exact ⟨none, [], 0, rfl, Strs.nil _ _ _, Nat.le_refl _, Nat.zero_le _, fun s hs => by simp at hs⟩
  · obtain rfl : v = .slice (some a) len cap := by simpa using h0
    have hle : len ≤ ss.length := by rw [hsl]; split <;> omega
    have htl : (ss.take len).length = len := by simp; omega
    refine ⟨some a, ss.take len, cap, by rw [htl], fun j s hj => ?_, by omega, by omega, fun s hs => hmx s (List.mem_of_mem_take hs)⟩
    have hjl : j < len := by
      have := (List.getElem?_eq_some_iff.1 hj).1
      omega
    have hc := hcs j (by omega)
    have hg : ss.getD j ByteArray.empty = s := by
      rw [List.getElem?_take_of_lt hjl] at hj
      rw [List.getD, hj]; rfl
    rw [hg] at hc
    refine ⟨a, rfl, ?_, hc⟩
    have := World.block_lt_of_cell? W _ hc
    rwa [add_block] at this

namespace packs

set_option maxRecDepth 100000 in
set_option maxHeartbeats 1000000 in
theorem walk (A0 : Option Addr) (l : List ByteArray) (c0 : Nat) (many : Int) (w : World) (hS : Strs w w.heap.size A0 l) (hc0 : l.length ≤ c0) (hl : l.length ≤ maxLen) (hz : ∀ s ∈ l, s.size ≤ maxLen)
    (hm : -9223372036854775808 ≤ many ∧ many ≤ 9223372036854775807) :
    Calls Try.prog 9 #[.slice A0 l.length c0, .int .i64 many] w fun e w' => e = .returned (.bool true) ∧ Below w.heap.size w w' := by
  go_enter Try.func9, Try.ntmps9
  go_wp2_with (first
    | (go_at_call 13; refine (sane_any _).mono ?_; rintro e w0 ⟨rfl, hb0⟩)
    | (go_at_call 26; refine (some_any A0 l c0 many _ (hS.on hb0) hc0 hl hz hm).mono ?_; rintro e w1 ⟨A, n, c, L, rfl, hown, rfl, hn41, hnc, hLz, hb1⟩; have hb01 := Below.then_ hb0 hb1; have hS1 := Strs.own hown; have hpl := pack_len hn41 hLz (by omega) (by omega); have HLZ := Lib.hid hLz; clear hLz)
    | (go_at_call 27; refine (pack_any A L c _ hS1 hnc (by unfold maxLen; omega) (fun s hs => by have := HLZ.out s hs; unfold maxLen; omega) (by omega)).mono ?_; rintro e w2 ⟨rfl, hb2⟩; have hb02 := Below.then_ hb01 hb2; have hS2 := hS1.on hb2)
    | (go_at_call 28; refine (unpack_of_pack L _ hn41 (fun s hs => by have := HLZ.out s hs; omega)).mono ?_; rintro e w3 ⟨B, d, rfl, hS3, hd, hb3⟩; have hb03 := Below.then_ hb02 hb3; have hS4 := hS2.on hb3)
    | (go_at_call 29; refine (strings_any A B L L c d _ hS4 hS3 hnc hd (by unfold maxLen; omega) (by unfold maxLen; omega)).mono ?_; rw [decide_eq_true rfl]; rintro e w4 ⟨rfl, q, rfl⟩; have hb04 := Below.drewN_ hb03 q; have hS5 := Strs.drewN_ hS4 q)
    | (go_at_call 30; refine (refPack_any A L c _ hS5 hnc (by unfold maxLen; omega) (fun s hs => by have := HLZ.out s hs; unfold maxLen; omega) (by omega)).mono ?_; rintro e w5 ⟨rfl, hb5⟩))
  go_ret
  exact ⟨rfl, Below.then_ hb04 hb5⟩

theorem contract (H : Type) (enc : TypeId × Value → H) (W : World) (base : Nat) (args : Array Value) (ds gs : List (DataW H)) (before : List MemPlace)
    (hval : ∀ (j : Nat) t v, Try.f9.params[j]? = some t → args[j]? = some v → Value.okWide Try.prog W .any base t v)
    (hW : DataW.Whole enc Try.prog Try.f9.params.toList Rows.codecPacksSpec.vars false W args.toList ds gs before) :
    Calls Try.prog 9 args W fun e W' => ∃ v, e = .returned v ∧ Rows.codecPacksSpec.post enc Try.prog Try.f9 false true false false W args v W' := by
  have hW' := hW
  obtain ⟨p, q, hA0, hV, rfl, hfz, hnd⟩ := hW
  have hA : DataW.TrodAll enc Try.prog W 0 (fun _ => true) true Try.f9.params.toList args.toList ds p := hA0
  rw [Try.params9] at hA hval
  obtain ⟨v0, vs0, d0, ds0, p0, q0, e0, rfl, rfl, h0, r0⟩ := trodAll_cons hA
  obtain ⟨v1, vs1, d1, ds1, p1, q1, e1, rfl, rfl, h1, r1⟩ := trodAll_cons r0
  obtain ⟨rfl, rfl, rfl⟩ := trodAll_nil r1
  obtain rfl : args = #[v0, v1] := by cases args; simp_all
  obtain ⟨rfl, rfl⟩ := trodVars_none hV
  obtain ⟨A0, l, c0, rfl, hS, hc0, hl, hz⟩ := open_list h0 (hval 0 43 v0 rfl rfl)
  obtain ⟨m, rfl, _, _, wm⟩ := open_int Try.underlying3 (hval 1 3 v1 rfl rfl) h1
  refine (walk A0 l c0 m W hS hc0 hl hz (bd_i64 wm)).mono fun e W' ⟨he, hb⟩ => ⟨_, he, law_post rfl rfl ?_ rfl rfl rfl hW' hb⟩
  rw [Try.params9]
  intro t ht
  have ht' : t = 43 ∨ t = 3 := by simpa using ht
  rcases ht' with rfl | rfl <;> exact ⟨by kernel_rfl, of_decide_eq_true (by kernel_rfl)⟩

set_option maxRecDepth 100000 in
theorem lifted (os : Os) (started : os.Started) (H : Type) (enc : TypeId × Value → H) :
    ReturnsInHanded {} Try.checked os 9 .any (Rows.codecPacksSpec.pre6 enc Try.prog Try.f9 Rows.codecPacksRow.domain false) (Rows.codecPacksSpec.post enc Try.prog Try.f9 false true false false) := by
  refine returnsInHanded_of_change (C := Try.checked) ownKnob_none started (by kernel_rfl) Try.func9
    (ChangeSpec.witness6 (enc := enc) (C := Try.checked) false ⟨#[], #[.slice none 0 0, .int .i64 0], []⟩ 8 (by kernel_rfl) (by kernel_rfl) (by kernel_rfl) (by kernel_rfl)) ?_
  intro W base args ds gs before hval hW _ _
  exact contract H enc W base args ds gs before hval hW

theorem proved : Rows.CodecPacksSaid :=
  OpenClaim.holds_of_wide 9 Try.f9 rfl rfl rfl rfl rfl rfl rfl ⟨rfl, rfl, rfl, rfl, rfl⟩ rfl rfl rfl rfl rfl (by kernel_rfl) Try.func9 (by kernel_rfl)
    (of_decide_eq_true (by kernel_rfl)) (by unfold Func.isWrapper; first | (rw [if_pos (by decide +kernel)]; kernel_rfl) | (rw [if_neg (by decide +kernel)]; exact ⟨rfl, rfl⟩))
    (fun os started H enc _ => lifted os started H enc)

end packs
end Go.Proofs.Ytdbhmoadngclgaa
