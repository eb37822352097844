/-
For every number and pair of integers, the law CodecShortest returns true and leaves its arguments as they were: with its last byte greater by 128, or with a further byte 0, the bytes of a number are not accepted. No condition.
-/
import Derived.Lib.ConvBytes
import Derived.Test.YtdbhmoadngclgaaSpec
import Derived.Test.YtdbhmoadngclgaaNumbers
namespace Go.Proofs.Ytdbhmoadngclgaa
open Go.ChangeShapes Go.WideShapes Go.ChangeAt Go.RowKit

theorem rd_high {h : List UInt8} (hh : High h) (hl : h.length ≤ 10) : rd h = (0, 0, if h.length < 10 then 20 else 22) := by
  have := rdFrom_pre [] h 0 0 hh (by omega)
  rw [List.append_nil, Nat.zero_add] at this
  unfold rd
  rw [this]
  by_cases h10 : h.length < 10
  · rw [rdFrom_nil h10, if_pos h10]
  · rw [show h.length = 10 by omega, rdFrom_ten, if_neg (by omega)]
theorem rd_high0 {h : List UInt8} (hh : High h) (hl : h.length ≤ 10) (hp : 0 < h.length) : rd (h ++ [0]) = (0, 0, 22) := by
  have := rdFrom_pre [0] h 0 0 hh (by omega)
  unfold rd
  rw [this, Nat.zero_add]
  by_cases h10 : h.length < 10
  · rw [rdFrom_bad h10 (by decide)]
    unfold lastB
    rw [decide_eq_false_iff_not]
    intro hc
    rcases hc with h | ⟨h, _⟩
    · omega
    · exact h rfl
  · rw [show h.length = 10 by omega, rdFrom_ten]

theorem bytes_free (w : World) (s : ByteArray) (j : Nat) (hj : j < s.size) : (Lib.bytesWorld w 5 s).frozen? ⟨w.heap.size, j, none⟩ = false := by
  have hsz : j < (Lib.bytesCells w 5 s).size := by
    unfold Lib.bytesCells
    rw [Array.size_append, Array.size_map]
    exact Nat.lt_of_lt_of_le hj (Nat.le_add_right _ _)
  simp only [World.frozen?, Lib.bytesWorld_at_new]
  have : ¬ (Lib.bytesCells w 5 s).size ≤ j := by omega
  simp [this]

theorem below_bytes {B : Nat} {a w : World} (h : Below B a w) (hB : B ≤ w.heap.size) (s : ByteArray) : Below B a (Lib.bytesWorld w 5 s) := by
  refine h.trans ⟨rfl, rfl, rfl, by rw [Lib.bytesWorld_size]; omega, fun k hk => Lib.bytesWorld_at_old w 5 s k (by omega)⟩

theorem high_byte {c : UInt8} (hc : c.toNat < 128) : (c + 128).toNat = c.toNat + 128 := by
  rw [UInt8.toNat_add]
  exact Nat.mod_eq_of_lt (by show c.toNat + 128 < 256; omega)

/-- string(b), the last byte of b having been raised. -/
theorem back_high (w : World) (S : ByteArray) (pre : List UInt8) (c : UInt8) (hS : S.data.toList = pre ++ [c]) (hc : c.toNat < 128) (cap : Nat) :
    (convert 27 9 (.slice (some ⟨w.heap.size, 0, none⟩) S.size cap)).run Try.prog ((Lib.bytesWorld w 5 S).setCell ⟨w.heap.size, S.size - 1, none⟩ (.int .u8 ((c.toNat : Int) + 128))) =
      .ok (.string (str (pre ++ [c + 128]))) ((Lib.bytesWorld w 5 S).setCell ⟨w.heap.size, S.size - 1, none⟩ (.int .u8 ((c.toNat : Int) + 128))) := by
  have hz : S.size = pre.length + 1 := by
    have := congrArg List.length hS
    simpa using this
  have hl : (pre ++ [c + 128]).length = S.size := by rw [hz]; simp
  have h := run_convert_bytes_back (P := Try.prog) ((Lib.bytesWorld w 5 S).setCell ⟨w.heap.size, S.size - 1, none⟩ (.int .u8 ((c.toNat : Int) + 128))) 27 9 5 ⟨w.heap.size, 0, none⟩ cap (pre ++ [c + 128]) Try.underlying27 Try.underlying5 Try.underlying9 ?_
  · rw [hl] at h
    exact h
  · intro j hj
    rw [hl, hz] at hj
    have ha : (⟨w.heap.size, 0, none⟩ : Addr).add j = ⟨w.heap.size, j, none⟩ := by rw [Addr.add_lit, Nat.zero_add]
    have hold := Lib.bytesWorld_cell w 5 S j (by omega)
    rw [ha]
    rcases Nat.lt_or_ge j pre.length with hlt | hge
    · rw [World.cell?_setCell_other _ _ _ _ (by intro e; injection e with _ e _; omega), hold, hS]
      simp [List.getD, List.getElem?_append_left hlt, List.getElem_append_left hlt, List.getElem?_eq_getElem hlt]
    · obtain rfl : j = pre.length := by omega
      rw [show S.size - 1 = pre.length by omega, World.cell?_setCell_same' _ _ _ (by rw [hold]; rfl)]
      simp only [List.getElem_append_right (Nat.le_refl _)]
      simp [high_byte hc]

namespace shortest

set_option maxRecDepth 100000 in
set_option maxHeartbeats 1000000 in
theorem walk (n : Nat) (a b : Int) (w : World) (hn : n < 18446744073709551616)
    (ha : -9223372036854775808 ≤ a ∧ a ≤ 9223372036854775807) (hb : -9223372036854775808 ≤ b ∧ b ≤ 9223372036854775807) :
    Calls Try.prog 7 #[.int .u64 (n : Int), .agg #[.int .i64 a, .int .i64 b]] w fun e w' => e = .returned (.bool true) ∧ Below w.heap.size w w' := by
  go_enter Try.func7, Try.ntmps7
  go_wp2_with (first
    | (go_at_call 13; refine (sane_any _).mono ?_; rintro e w1 ⟨rfl, hb1⟩; have c0 := hb1.cell (p := ⟨w.heap.size, 0, none⟩) (by simp); have c1 := hb1.cell (p := ⟨w.heap.size, 1, none⟩) (by simp))
    | (go_at_call 17; refine (near_any a b _ ha hb).mono ?_; rintro e w' ⟨x, hx, rfl, rfl⟩))
  have hcells := fun k (hk : k < 2) => pair_cell w1 n x w1.heap.size rfl (k := k) hk
  have hB0 : Below w.heap.size w (w1.alloc (.cells #[.int .u64 (n : Int), .int .u64 (x : Int)] 32)) :=
    (((Below.refl _ w).alloc (Nat.le_refl _) _).trans (hb1.mono (by simp))).alloc (by have := hb1.size; simp at this; omega) _
  obtain ⟨W2, hW2⟩ : ∃ W2, w1.alloc (.cells #[.int .u64 (n : Int), .int .u64 (x : Int)] 32) = W2 := ⟨_, rfl⟩
  have hL : w1.heap.size < W2.heap.size := by rw [← hW2]; simp
  rw [hW2] at hcells hB0
  rw [hW2]
  clear hW2 c0 c1
  obtain ⟨L, HL⟩ : ∃ L, Hid (w1.heap.size = L) := ⟨_, Lib.hid rfl⟩
  rw [HL.out] at hcells hL
  rw [HL.out]
  have HC := Lib.hid hcells
  clear hcells
  go_loopw [7] (fun i wr => ∃ k : Nat, k ≤ 2 ∧ i = .int .i64 k ∧ Below W2.heap.size W2 wr) (fun i _ => 2 - (intOf i).toNat)
  case atStart => exact ⟨0, by omega, rfl, Below.refl _ _⟩
  case round =>
    obtain ⟨k, hk, rfl, hB⟩ := hrel
    by_cases hlt : k < 2
    · obtain ⟨v, hv, hc0⟩ := HC.out k hlt
      have hv64 : v < 18446744073709551616 := by omega
      have hc := (hB.cell (p := ⟨L, k, none⟩) hL).trans hc0
      clear hc0 hv
      obtain ⟨pre, c, h1, h2, h3⟩ := numL_split v
      have h10 := numL_ten hv64
      have hnum := fun W => number_any v hv64 W
      obtain ⟨S, HS⟩ : ∃ S, Hid (str (numL v) = S) := ⟨_, Lib.hid rfl⟩
      rw [HS.out] at hnum
      have hSd : S.data.toList = pre ++ [c] := by rw [← HS.out, str_data, h1]
      have hSz : S.size = pre.length + 1 := by rw [← HS.out, str_size, h1]; simp
      have hSne : ¬ S.toList = [] := by rw [ByteArray.toList_eq, hSd]; simp
      have hSe : S.toList.isEmpty = false := by simpa using hSne
      have hconv := fun W : World => Lib.run_convert_string_bytes (P := Try.prog) W 9 27 5 S Try.underlying9 Try.underlying27 Try.underlying5
      have hSp : 0 < S.size := by omega
      have hidx : S.size - 1 < S.size := Nat.sub_lt hSp (by omega)
      have hlast : ((S[S.size - 1]'hidx).toNat : Int) ≤ 127 := by
        have h4 : S.data.toList[S.size - 1]? = some (S[S.size - 1]'hidx) := by rw [List.getElem?_eq_getElem (by simp; omega)]; rfl
        rw [hSd, List.getElem?_append_right (by omega)] at h4
        have h5 : S.size - 1 - pre.length = 0 := by omega
        have h6 : [c][S.size - 1 - pre.length]? = some c := by rw [h5]; rfl
        have : c = S[S.size - 1]'hidx := by rw [h6] at h4; exact Option.some.inj h4
        rw [← this]; omega
      have hlast2 : decide (127 < ((S[S.size - 1]'hidx).toNat : Int)) = false := by simp; omega
      have hS10 : S.size ≤ 10 := by rw [← HS.out, str_size]; exact h10
      obtain ⟨T, HTd⟩ : ∃ T, Hid (str (pre ++ [c + 128]) = T) := ⟨_, Lib.hid rfl⟩
      have hTh : High (pre ++ [c + 128]) := h2.snoc (by rw [high_byte h3]; omega)
      have hTz : T.size = S.size := by rw [← HTd.out, str_size, hSz]; simp
      have hTz2 : T.size ≤ 10 := by omega
      have hpl : (pre ++ [c + 128]).length ≤ 10 := by simp; omega
      obtain ⟨er, her, hT1⟩ : ∃ er : Nat, (er = 20 ∨ er = 22) ∧ Hid (rd T.data.toList = (0, 0, er)) := by
        refine ⟨_, ?_, Lib.hid (by rw [← HTd.out]; exact rd_high hTh hpl)⟩
        split
        · exact .inl rfl
        · exact .inr rfl
      have hT2 : Hid (rd (T ++ ⟨#[0]⟩).data.toList = (0, 0, 22)) := Lib.hid (by rw [append_data, ← HTd.out]; show rd ((pre ++ [c + 128]) ++ [0]) = _; exact rd_high0 hTh hpl (by simp))
      have hr1 := fun W => read_tuple T W (by unfold maxLen; omega) 0 0 er hT1
      have hr2 := fun W => read_tuple (T ++ ⟨#[0]⟩) W (by unfold maxLen; rw [ByteArray.size_append]; show T.size + 1 ≤ _; omega) 0 0 22 hT2
      have hone : (ByteArray.mk #[0]).size ≤ 1 := Nat.le_refl _
      have hback := fun (W : World) (cap : Nat) => back_high W S pre c hSd h3 cap
      rw [HTd.out] at hback
      have hcell := fun (W : World) => Lib.bytesWorld_cell W 5 S (S.size - 1) (by omega)
      have hgd : S.data.toList.getD (S.size - 1) 0 = c := by
        rw [hSd, List.getD, List.getElem?_append_right (by omega), show S.size - 1 - pre.length = 0 by omega]; rfl
      rw [hgd] at hcell
      have hfree := fun (W : World) => bytes_free W S (S.size - 1) (by omega)
      have hc128 : c.toNat ≤ 127 := by omega
      have HSD := Lib.hid hSd
      have HSZ := Lib.hid hSz
      have HTZ := Lib.hid hTz
      have HTH := Lib.hid hTh
      have H2 := Lib.hid h2
      clear h1 hSd hSz h10 hgd hTz hTh h2 hpl hT1 hT2 h3
      rcases her with rfl | rfl
      all_goals
        go_wp2_with (first
          | (go_at_call 18; ((with_reducible refine (hnum _).mono ?_); rintro e w3 ⟨rfl, hb3⟩; have hB3 := hB.trans (hb3.mono hB.size)))
          | (go_at_call 19; ((with_reducible refine (hr1 _).mono ?_); rintro e w' ⟨rfl, rfl⟩))
          | (go_at_call 19; ((with_reducible refine (hr2 _).mono ?_); rintro e w' ⟨rfl, rfl⟩)))
        go_roundw
        case rel => exact ⟨k + 1, by omega, by go_num, (below_bytes hB3 (Nat.le_trans hB.size hb3.size) S).setCell (p := ⟨w3.heap.size, S.size - 1, none⟩) (Nat.le_trans hB.size hb3.size) _⟩
        case measure => simp [intOf]; omega
    · obtain rfl : k = 2 := by omega
      go_wp2
      go_ret
      exact ⟨rfl, hB0.trans (hB.mono hB0.size)⟩

theorem contract (H : Type) (enc : TypeId × Value → H) (W : World) (base : Nat) (args : Array Value) (ds gs : List (DataW H)) (before : List MemPlace)
    (hval : ∀ (j : Nat) t v, Try.f7.params[j]? = some t → args[j]? = some v → Value.okWide Try.prog W .any base t v)
    (hW : DataW.Whole enc Try.prog Try.f7.params.toList Rows.codecShortestSpec.vars false W args.toList ds gs before) :
    Calls Try.prog 7 args W fun e W' => ∃ v, e = .returned v ∧ Rows.codecShortestSpec.post enc Try.prog Try.f7 false true false false W args v W' := by
  have hW' := hW
  obtain ⟨p, q, hA0, hV, rfl, hfz, hnd⟩ := hW
  have hA : DataW.TrodAll enc Try.prog W 0 (fun _ => true) true Try.f7.params.toList args.toList ds p := hA0
  rw [Try.params7] at hA hval
  obtain ⟨v0, vs0, d0, ds0, p0, q0, e0, rfl, rfl, h0, r0⟩ := trodAll_cons hA
  obtain ⟨v1, vs1, d1, ds1, p1, q1, e1, rfl, rfl, h1, r1⟩ := trodAll_cons r0
  obtain ⟨rfl, rfl, rfl⟩ := trodAll_nil r1
  obtain rfl : args = #[v0, v1] := by cases args; simp_all
  obtain ⟨rfl, rfl⟩ := trodVars_none hV
  obtain ⟨n, rfl, _, _, wn⟩ := open_int Try.underlying29 (hval 0 29 v0 rfl rfl) h0
  obtain ⟨a, b, rfl, ha, hb⟩ := open_pair (hval 1 30 v1 rfl rfl) h1
  have hn := bd_u64 wn
  obtain ⟨m, rfl⟩ : ∃ m : Nat, n = (m : Int) := ⟨n.toNat, by omega⟩
  refine (walk m a b W (by omega) ha hb).mono fun e W' ⟨he, hb⟩ => ⟨_, he, law_post rfl rfl ?_ rfl rfl rfl hW' hb⟩
  rw [Try.params7]
  intro t ht
  have ht' : t = 29 ∨ t = 30 := by simpa using ht
  rcases ht' with rfl | rfl <;> exact ⟨by kernel_rfl, of_decide_eq_true (by kernel_rfl)⟩

set_option maxRecDepth 100000 in
theorem lifted (os : Os) (started : os.Started) (H : Type) (enc : TypeId × Value → H) :
    ReturnsInHanded {} Try.checked os 7 .any (Rows.codecShortestSpec.pre6 enc Try.prog Try.f7 Rows.codecShortestRow.domain false) (Rows.codecShortestSpec.post enc Try.prog Try.f7 false true false false) := by
  refine returnsInHanded_of_change (C := Try.checked) ownKnob_none started (by kernel_rfl) Try.func7
    (ChangeSpec.witness6 (enc := enc) (C := Try.checked) false ⟨#[], #[.int .u64 0, .agg #[.int .i64 0, .int .i64 0]], []⟩ 8 (by kernel_rfl) (by kernel_rfl) (by kernel_rfl) (by kernel_rfl)) ?_
  intro W base args ds gs before hval hW _ _
  exact contract H enc W base args ds gs before hval hW

theorem proved : Rows.CodecShortestSaid :=
  OpenClaim.holds_of_wide 7 Try.f7 rfl rfl rfl rfl rfl rfl rfl ⟨rfl, rfl, rfl, rfl, rfl⟩ rfl rfl rfl rfl rfl (by kernel_rfl) Try.func7 (by kernel_rfl)
    (of_decide_eq_true (by kernel_rfl)) (by unfold Func.isWrapper; first | (rw [if_pos (by decide +kernel)]; kernel_rfl) | (rw [if_neg (by decide +kernel)]; exact ⟨rfl, rfl⟩))
    (fun os started H enc _ => lifted os started H enc)

end shortest
end Go.Proofs.Ytdbhmoadngclgaa
