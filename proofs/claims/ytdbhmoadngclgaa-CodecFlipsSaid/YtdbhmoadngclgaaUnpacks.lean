/-
For every list of strings, three integers and a string, the law CodecUnpacks returns true and leaves its arguments as they were: Unpack agrees with the reference on the strings that the law makes of them. No condition.
-/
import Derived.Test.YtdbhmoadngclgaaRefUnpack
import Derived.Test.YtdbhmoadngclgaaShortest
namespace Go.Proofs.Ytdbhmoadngclgaa
open Go.ChangeShapes Go.WideShapes Go.ChangeAt Go.RowKit

theorem own_max {w : World} {base n c : Nat} {A : Option Addr} {e : TypeId} {xs : List Value} (h : w.ownsRow base e 1 (.slice A n c) n xs) : n ≤ maxLen := by
  rcases h.2 with ⟨_, h0⟩ | ⟨g, cap, cur, h, _, _, hle, hm, _⟩
  · omega
  · omega

def ListTwo (w : World) (er : Nat) (L : List ByteArray) (e : Ending) (w' : World) : Prop :=
  ∃ A c, e = .returned (.tuple #[.slice A L.length c, .int .i64 (er : Int)]) ∧ Strs w' w'.heap.size A L ∧ L.length ≤ c ∧ L.length ≤ maxLen ∧ Below w.heap.size w w'
theorem list_two {w : World} {U : Nat × List (List UInt8)} {e : Ending} {w' : World} (h : UnpackPost w U e w') : ListTwo w U.1 (U.2.map str) e w' := by
  obtain ⟨A, n, c, rfl, hown, hb⟩ := h
  have hm : U.2.map strV = (U.2.map str).map Value.string := by rw [List.map_map]; rfl
  rw [hm] at hown
  have hn : (U.2.map str).length = n := by simpa using hown.1
  rw [← hn] at hown ⊢
  exact ⟨A, c, rfl, Strs.own hown, own_cap hown, own_max hown, hb⟩

set_option maxRecDepth 100000 in
set_option maxHeartbeats 1000000 in
theorem unpacks_any (s : ByteArray) (w : World) (hs : s.size ≤ 4398046511104) : Calls Try.prog 31 #[.string s] w fun e w' => e = .returned (.bool true) ∧ Below w.heap.size w w' := by
  obtain ⟨er, HE⟩ : ∃ er, Hid ((unpack s.data.toList).1 = er) := ⟨_, Lib.hid rfl⟩
  obtain ⟨L, HL⟩ : ∃ L, Hid ((unpack s.data.toList).2.map str = L) := ⟨_, Lib.hid rfl⟩
  have h1 := fun W => (unpack_any s W hs).mono fun _ _ h => list_two h
  have h2 := fun W => (refUnpack_any s W hs).mono fun _ _ h => list_two h
  rw [HE.out, HL.out] at h1 h2
  go_enter Try.func31, Try.ntmps31
  go_wp2_with (first
    | (go_at_call 28; refine (h1 _).mono ?_; rintro e w1 ⟨A, c, rfl, hS1, hc, hm1, hb1⟩)
    | (go_at_call 36; refine (h2 _).mono ?_; rintro e w2 ⟨B, d, rfl, hS2, hd, hm2, hb2⟩; have hS3 := hS1.on hb2; have hb3 := Below.then_ hb1 hb2)
    | (go_at_call 29; refine (strings_any A B L L c d _ hS3 hS2 hc hd hm1 hm2).mono ?_; rw [decide_eq_true rfl]; rintro e w4 ⟨rfl, q, rfl⟩; have hb4 := Below.drewN_ hb3 q))
  go_ret
  exact ⟨rfl, hb4⟩

/-- string(b), a byte of b having been set. -/
theorem back_set (w : World) (S : ByteArray) (k : Nat) (y : UInt8) (hk : k < S.size) (cap : Nat) :
    (convert 27 9 (.slice (some ⟨w.heap.size, 0, none⟩) S.size cap)).run Try.prog ((Lib.bytesWorld w 5 S).setCell ⟨w.heap.size, k, none⟩ (.int .u8 (y.toNat : Int))) =
      .ok (.string (str (S.data.toList.set k y))) ((Lib.bytesWorld w 5 S).setCell ⟨w.heap.size, k, none⟩ (.int .u8 (y.toNat : Int))) := by
  have hl : (S.data.toList.set k y).length = S.size := by simp
  have h := run_convert_bytes_back (P := Try.prog) ((Lib.bytesWorld w 5 S).setCell ⟨w.heap.size, k, none⟩ (.int .u8 (y.toNat : Int))) 27 9 5 ⟨w.heap.size, 0, none⟩ cap (S.data.toList.set k y) Try.underlying27 Try.underlying5 Try.underlying9 ?_
  · rw [hl] at h
    exact h
  · intro j hj
    rw [hl] at hj
    have ha : (⟨w.heap.size, 0, none⟩ : Addr).add j = ⟨w.heap.size, j, none⟩ := by rw [Addr.add_lit, Nat.zero_add]
    have hold := Lib.bytesWorld_cell w 5 S j hj
    rw [ha]
    by_cases hjk : j = k
    · subst hjk
      rw [World.cell?_setCell_same' _ _ _ (by rw [hold]; rfl)]
      simp
    · rw [World.cell?_setCell_other _ _ _ _ (by intro e; injection e with _ e _; omega), hold]
      rw [List.getElem_set_ne (fun e => hjk e.symm), List.getD, List.getElem?_eq_getElem (by simpa using hj)]
      rfl

theorem open_triple {H : Type} {enc : TypeId × Value → H} {W : World} {b1 b2 : Nat} {sp : Nat → Bool} {held : Bool} {v : Value} {d : DataW H} {p : List MemPlace}
    (hval : Value.okWide Try.prog W .any b1 50 v) (h : DataW.Trod enc Try.prog W b2 sp held 50 v d p) :
    ∃ a b c : Int, v = .agg #[.int .i64 a, .int .i64 b, .int .i64 c] ∧ (-9223372036854775808 ≤ a ∧ a ≤ 9223372036854775807) ∧ (-9223372036854775808 ≤ b ∧ b ≤ 9223372036854775807) ∧ (-9223372036854775808 ≤ c ∧ c ≤ 9223372036854775807) := by
  have hc50 : Try.prog.cellsOf 50 = 3 := by kernel_rfl
  have hc3 : Try.prog.cellsOf 3 = 1 := by kernel_rfl
  simp only [Value.okWide, Try.underlying50] at hval
  obtain ⟨cs, rfl, hsz, _⟩ := hval
  obtain ⟨c0, c1, c2, rfl⟩ := Joins.array3 (hsz.trans hc50)
  obtain ⟨fuel, hf⟩ := h
  obtain ⟨xs, m, rfl, _, _, hxl, hat⟩ := DataW.trod_array Try.underlying50 hf
  rw [hc3] at hat
  have h0 := hat 0 (by omega)
  have h1 := hat 1 (by omega)
  have h2 := hat 2 (by omega)
  rw [List.getElem?_eq_getElem (by omega)] at h0 h1 h2
  obtain ⟨a, ea, _, wa⟩ := DataW.trod_int (k := .i64) Try.underlying3 h0
  obtain ⟨b, eb, _, wb⟩ := DataW.trod_int (k := .i64) Try.underlying3 h1
  obtain ⟨c, ec, _, wc⟩ := DataW.trod_int (k := .i64) Try.underlying3 h2
  have ea' : c0 = .int .i64 a := by simpa [Value.cells] using ea
  have eb' : c1 = .int .i64 b := by simpa [Value.cells] using eb
  have ec' : c2 = .int .i64 c := by simpa [Value.cells] using ec
  subst ea' eb' ec'
  exact ⟨a, b, c, rfl, bd_i64 wa, bd_i64 wb, bd_i64 wc⟩

namespace unpacks

set_option maxRecDepth 100000 in
set_option maxHeartbeats 2000000 in
theorem walk (A0 : Option Addr) (l : List ByteArray) (cp : Nat) (a b c : Int) (t : ByteArray) (w : World) (hS : Strs w w.heap.size A0 l) (hc0 : l.length ≤ cp) (hl : l.length ≤ maxLen) (hz : ∀ s ∈ l, s.size ≤ maxLen)
    (ha : -9223372036854775808 ≤ a ∧ a ≤ 9223372036854775807) (hb : -9223372036854775808 ≤ b ∧ b ≤ 9223372036854775807) (hc : -9223372036854775808 ≤ c ∧ c ≤ 9223372036854775807) (ht : t.size ≤ maxLen) :
    Calls Try.prog 10 #[.slice A0 l.length cp, .agg #[.int .i64 a, .int .i64 b, .int .i64 c], .string t] w fun e w' => e = .returned (.bool true) ∧ Below w.heap.size w w' := by
  unfold maxLen at ht
  have hb0 : Below w.heap.size w (w.alloc (.cells #[.int .i64 a, .int .i64 b, .int .i64 c] 50)) := (Below.refl _ w).alloc (Nat.le_refl _) _
  obtain ⟨y, hy⟩ : ∃ y : UInt8, b % 256 = (y.toNat : Int) := ⟨UInt8.ofNat (b % 256).toNat, by
    have h1 := Int.emod_nonneg b (show (256 : Int) ≠ 0 by omega)
    have h2 := Int.emod_lt_of_pos b (show (0 : Int) < 256 by omega)
    simp; omega⟩
  have HY := Lib.hid hy
  by_cases h30 : t.size ≤ 30
  all_goals
    clear hy
    go_enter Try.func10, Try.ntmps10
    go_wp2_with (first
      | (go_at_call 13; refine (sane_any _).mono ?_; rintro e w1 ⟨rfl, hB1⟩)
      | (go_at_call 26; refine (some_any A0 l cp 1 _ ((hS.on hb0).on hB1) hc0 hl hz (by omega)).mono ?_; rintro e w2 ⟨A, n, d, L, rfl, hown, rfl, hn41, hnc, hLz, hb2⟩; have hB2 := Below.then_ hB1 hb2; have hS2 := Strs.own hown; have hpl := pack_len hn41 hLz (by omega) (by omega); have HLZ := Lib.hid hLz; clear hLz)
      | (go_at_call 30; refine (refPack_any A L d _ hS2 hnc (by unfold maxLen; omega) (fun s hs => by have := HLZ.out s hs; unfold maxLen; omega) (by omega)).mono ?_; rintro e w3 ⟨rfl, hb3⟩; have hB3 := Below.then_ hB2 hb3))
    obtain ⟨S, HS⟩ : ∃ S, Hid (str (pack L) = S) := ⟨_, Lib.hid rfl⟩
    rw [HS.out]
    have hSz : S.size ≤ 29120 := by rw [← HS.out, str_size]; omega
    have hSp : 0 < S.size := by
      rw [← HS.out, str_size]
      unfold pack
      rw [List.length_append]
      have := numL_pos L.length
      omega
    have hWs : w.heap.size < w3.heap.size := by have := hB3.size; simp at this; omega
    have hBb := below_bytes hB3 hB3.size S
    have hconv := Lib.run_convert_string_bytes (P := Try.prog) w3 9 27 5 S Try.underlying9 Try.underlying27 Try.underlying5
    obtain ⟨ka, HKA⟩ : ∃ ka : Nat, Hid (a % (S.size : Int) = (ka : Int)) := ⟨(a % (S.size : Int)).toNat, Lib.hid (by have := Int.emod_nonneg a (show (S.size : Int) ≠ 0 by omega); omega)⟩
    have hka : ka < S.size := by have := Int.emod_lt_of_pos a (show (0 : Int) < S.size by omega); have := HKA.out; omega
    have hma := fun W => mod_any a S.size W ha.1 ha.2 (by omega) (by omega)
    rw [HKA.out] at hma
    obtain ⟨kc, HKC⟩ : ∃ kc : Nat, Hid (c % ((S.size : Int) + 1) = (kc : Int)) := ⟨(c % ((S.size : Int) + 1)).toNat, Lib.hid (by have := Int.emod_nonneg c (show ((S.size : Int) + 1) ≠ 0 by omega); omega)⟩
    have hkc : kc ≤ S.size := by have := Int.emod_lt_of_pos c (show (0 : Int) < (S.size : Int) + 1 by omega); have := HKC.out; omega
    have hmc := fun W => mod_any c ((S.size : Int) + 1) W hc.1 hc.2 (by omega) (by omega)
    rw [HKC.out] at hmc
    have hcell := Lib.bytesWorld_cell w3 5 S ka hka
    have hfree := bytes_free w3 S ka hka
    have hy := HY.out
    have hback := fun (cap : Nat) => back_set w3 S ka y hka cap
    have c0 := hBb.cell (p := ⟨w.heap.size, 0, none⟩) (by simp)
    have c1 := hBb.cell (p := ⟨w.heap.size, 1, none⟩) (by simp)
    have hBs := hBb.setCell (p := ⟨w3.heap.size, ka, none⟩) hB3.size (.int .u8 (y.toNat : Int))
    obtain ⟨T, HT⟩ : ∃ T, Hid (str (S.data.toList.set ka y) = T) := ⟨_, Lib.hid rfl⟩
    rw [HT.out] at hback
    have hTz : T.size ≤ 29120 := by rw [← HT.out, str_size]; simp; omega
    go_simp
    go_wp2_with (first
      | (go_at_call 16; ((with_reducible refine (hma _).mono ?_); rintro e w' ⟨rfl, rfl⟩))
      | (go_at_call 16; ((with_reducible refine (hmc _).mono ?_); rintro e w' ⟨rfl, rfl⟩))
      | (go_at_call 31; refine (unpacks_any _ _ (by first | omega | (simp; omega))).mono ?_; rintro e w4 ⟨rfl, hb4⟩; have hBs := Below.then_ hBs hb4; have c2 := hBs.cell (p := ⟨w.heap.size, 2, none⟩) (by simp)))
    go_ret
    exact ⟨rfl, Below.then_ hb0 hBs⟩

theorem contract (H : Type) (enc : TypeId × Value → H) (W : World) (base : Nat) (args : Array Value) (ds gs : List (DataW H)) (before : List MemPlace)
    (hval : ∀ (j : Nat) t v, Try.f10.params[j]? = some t → args[j]? = some v → Value.okWide Try.prog W .any base t v)
    (hW : DataW.Whole enc Try.prog Try.f10.params.toList Rows.codecUnpacksSpec.vars false W args.toList ds gs before) :
    Calls Try.prog 10 args W fun e W' => ∃ v, e = .returned v ∧ Rows.codecUnpacksSpec.post enc Try.prog Try.f10 false true false false W args v W' := by
  have hW' := hW
  obtain ⟨p, q, hA0, hV, rfl, hfz, hnd⟩ := hW
  have hA : DataW.TrodAll enc Try.prog W 0 (fun _ => true) true Try.f10.params.toList args.toList ds p := hA0
  rw [Try.params10] at hA hval
  obtain ⟨v0, vs0, d0, ds0, p0, q0, e0, rfl, rfl, h0, r0⟩ := trodAll_cons hA
  obtain ⟨v1, vs1, d1, ds1, p1, q1, e1, rfl, rfl, h1, r1⟩ := trodAll_cons r0
  obtain ⟨v2, vs2, d2, ds2, p2, q2, e2, rfl, rfl, h2, r2⟩ := trodAll_cons r1
  obtain ⟨rfl, rfl, rfl⟩ := trodAll_nil r2
  obtain rfl : args = #[v0, v1, v2] := by cases args; simp_all
  obtain ⟨rfl, rfl⟩ := trodVars_none hV
  obtain ⟨A0, l, c0, rfl, hS, hc0, hl, hz⟩ := open_list h0 (hval 0 43 v0 rfl rfl)
  obtain ⟨a, b, c, rfl, ha, hb, hc⟩ := open_triple (hval 1 50 v1 rfl rfl) h1
  obtain ⟨t, rfl, _, _, ht⟩ := Go.ChangeMaps.open_string Try.underlying9 (hval 2 9 v2 rfl rfl) h2
  refine (walk A0 l c0 a b c t W hS hc0 hl hz ha hb hc ht).mono fun e W' ⟨he, hb⟩ => ⟨_, he, law_post rfl rfl ?_ rfl rfl rfl hW' hb⟩
  rw [Try.params10]
  intro t ht
  have ht' : t = 43 ∨ t = 50 ∨ t = 9 := by simpa using ht
  rcases ht' with rfl | rfl | rfl <;> exact ⟨by kernel_rfl, of_decide_eq_true (by kernel_rfl)⟩

set_option maxRecDepth 100000 in
theorem lifted (os : Os) (started : os.Started) (H : Type) (enc : TypeId × Value → H) :
    ReturnsInHanded {} Try.checked os 10 .any (Rows.codecUnpacksSpec.pre6 enc Try.prog Try.f10 Rows.codecUnpacksRow.domain false) (Rows.codecUnpacksSpec.post enc Try.prog Try.f10 false true false false) := by
  refine returnsInHanded_of_change (C := Try.checked) ownKnob_none started (by kernel_rfl) Try.func10
    (ChangeSpec.witness6 (enc := enc) (C := Try.checked) false ⟨#[], #[.slice none 0 0, .agg #[.int .i64 0, .int .i64 0, .int .i64 0], .string ⟨#[]⟩], []⟩ 8 (by kernel_rfl) (by kernel_rfl) (by kernel_rfl) (by kernel_rfl)) ?_
  intro W base args ds gs before hval hW _ _
  exact contract H enc W base args ds gs before hval hW

theorem proved : Rows.CodecUnpacksSaid :=
  OpenClaim.holds_of_wide 10 Try.f10 rfl rfl rfl rfl rfl rfl rfl ⟨rfl, rfl, rfl, rfl, rfl⟩ rfl rfl rfl rfl rfl (by kernel_rfl) Try.func10 (by kernel_rfl)
    (of_decide_eq_true (by kernel_rfl)) (by unfold Func.isWrapper; first | (rw [if_pos (by decide +kernel)]; kernel_rfl) | (rw [if_neg (by decide +kernel)]; exact ⟨rfl, rfl⟩))
    (fun os started H enc _ => lifted os started H enc)

end unpacks
end Go.Proofs.Ytdbhmoadngclgaa
