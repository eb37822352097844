/-
For every two lists of strings and every number, the law CodecNests returns true and leaves its arguments as they were: a list of packs is packed and read back, behind a number that is read first. No condition.
-/
import Derived.Test.YtdbhmoadngclgaaPacks
import Derived.Test.YtdbhmoadngclgaaNumbers
namespace Go.Proofs.Ytdbhmoadngclgaa
open Go.ChangeShapes Go.WideShapes Go.ChangeAt Go.RowKit

theorem unpack_of (L : List ByteArray) (Q : ByteArray) (w : World) (h1 : L.length ≤ 41) (h2 : ∀ s ∈ L, s.size ≤ 1048576) (hQ : Hid (str (pack L) = Q)) : Calls Try.prog 28 #[.string Q] w (UnpackOk w L) := by
  rw [← hQ.out]
  exact unpack_of_pack L w h1 h2
theorem Strs.at_ {w : World} {B : Nat} {A : Option Addr} {L : List ByteArray} (h : Strs w B A L) {k : Nat} {s : ByteArray} (hk : L[k]? = some s) : ∃ ad, A = some ad ∧ w.cell? (ad.add k) = some (.string s) := by
  obtain ⟨ad, e, _, hc⟩ := h k s hk
  exact ⟨ad, e, hc⟩

theorem ext_tail (y R : ByteArray) : (y ++ R).extract y.size (y.size + R.size) = R := by
  apply bytes_inj
  rw [← ByteArray.size_append, ext_data, append_data]
  have : y.data.toList.length = y.size := by simp
  rw [← this, List.drop_left]
theorem pack_pair (w : World) (P Q R : ByteArray) (hP : P.size ≤ 100000) (hQ : Q.size ≤ 100000) (hR : Hid (str (pack [P, Q]) = R)) :
    Calls Try.prog 27 #[.slice (some ⟨w.heap.size, 0, none⟩) 2 2] (w.alloc (.cells #[.string P, .string Q] 9)) fun e w' => e = .returned (.string R) ∧ Below w.heap.size w w' := by
  have hz : ∀ s ∈ [P, Q], s.size ≤ 100000 := fun s hs => by
    simp at hs
    rcases hs with rfl | rfl <;> assumption
  have hp := pack_len (L := [P, Q]) (k := 2) (Nat.le_refl _) hz (by omega) (by omega)
  have h := pack_any (some ⟨w.heap.size, 0, none⟩) [P, Q] 2 (w.alloc (.cells #[.string P, .string Q] 9)) (by simpa using strs_two w P Q) (Nat.le_refl _) (by unfold maxLen; simp) (fun s hs => by have := hz s hs; unfold maxLen; omega) (by omega)
  rw [hR.out] at h
  exact h.mono fun e w' ⟨h1, h2⟩ => ⟨h1, ((Below.refl _ w).alloc (Nat.le_refl _) _).trans (h2.mono (by simp))⟩
def PairOut (w : World) (P Q : ByteArray) (e : Ending) (w' : World) : Prop :=
  ∃ ad c, e = .returned (.tuple #[.slice (some ad) 2 c, .int .i64 0]) ∧ 2 ≤ c ∧ w'.cell? ad = some (.string P) ∧ w'.cell? (ad.add 0) = some (.string P) ∧ w'.cell? ⟨ad.block, ad.off + 1, none⟩ = some (.string Q) ∧ ad.block < w'.heap.size ∧ Below w.heap.size w w'
theorem unpack_pair (w : World) (P Q R : ByteArray) (hP : P.size ≤ 100000) (hQ : Q.size ≤ 100000) (hR : Hid (str (pack [P, Q]) = R)) : Calls Try.prog 28 #[.string R] w (PairOut w P Q) := by
  refine (unpack_of [P, Q] R w (by simp) (fun s hs => ?_) hR).mono ?_
  · simp at hs
    rcases hs with rfl | rfl <;> omega
  · rintro e w' ⟨A, c, rfl, hS, hc, hb⟩
    obtain ⟨ad, rfl, hlt, h0⟩ := hS 0 P rfl
    obtain ⟨ad', e', _, h1⟩ := hS 1 Q rfl
    injection e' with e'
    subst e'
    have ha : ad.add 0 = ad := by unfold Addr.add; simp
    have hb1 : ad.add 1 = ⟨ad.block, ad.off + 1, none⟩ := by unfold Addr.add; simp
    rw [hb1] at h1
    exact ⟨ad, c, rfl, hc, by rw [← ha]; exact h0, h0, h1, hlt, hb⟩

namespace nests

set_option maxRecDepth 100000 in
set_option maxHeartbeats 2000000 in
theorem walk (A0 B0 : Option Addr) (l m : List ByteArray) (ca cb : Nat) (v : Nat) (w : World) (hSl : Strs w w.heap.size A0 l) (hca : l.length ≤ ca) (hl : l.length ≤ maxLen) (hlz : ∀ s ∈ l, s.size ≤ maxLen)
    (hSm : Strs w w.heap.size B0 m) (hcb : m.length ≤ cb) (hm : m.length ≤ maxLen) (hmz : ∀ s ∈ m, s.size ≤ maxLen) (hv : v < 18446744073709551616) :
    Calls Try.prog 12 #[.slice A0 l.length ca, .slice B0 m.length cb, .int .u64 (v : Int)] w fun e w' => e = .returned (.bool true) ∧ Below w.heap.size w w' := by
  have hnum := fun W => number_any v hv W
  obtain ⟨y, HY⟩ : ∃ y, Hid (str (numL v) = y) := ⟨_, Lib.hid rfl⟩
  rw [HY.out] at hnum
  have hyz : y.size ≤ 10 := by rw [← HY.out, str_size]; exact numL_ten hv
  have hyp : 0 < y.size := by rw [← HY.out, str_size]; exact numL_pos v
  have hread := fun (Q : ByteArray) (W : World) (h : Q.size ≤ 1048576) => read_back v hv Q W h
  rw [HY.out] at hread
  have hext := fun R => ext_tail y R
  go_enter Try.func12, Try.ntmps12
  go_wp2_with (first
    | (go_at_call 13; refine (sane_any _).mono ?_; rintro e w1 ⟨rfl, hB1⟩; have hSl1 := hSl.on hB1; have hSm1 := hSm.on hB1)
    | (go_at_call 26; ((with_reducible refine (some_any A0 l ca 1 _ hSl1 hca hl hlz (by omega)).mono ?_); rintro e w2 ⟨A, na, c, La, rfl, hown, rfl, hna, hnc, hLa, hb2⟩; have hB2 := Below.then_ hB1 hb2; have hS2 := Strs.own hown; have hSm2 := hSm1.on hb2; have hpl1 := pack_len hna hLa (by omega) (by omega); have HLa := Lib.hid hLa; clear hLa; obtain ⟨P, HP⟩ : ∃ P, Hid (str (pack La) = P) := ⟨_, Lib.hid rfl⟩; have hPz : P.size ≤ 100000 := (by rw [← HP.out, str_size]; omega)))
    | (go_at_call 26; ((with_reducible refine (some_any B0 m cb 2 _ hSm2 hcb hm hmz (by omega)).mono ?_); rintro e w3 ⟨B, nb, d, Lb, rfl, hownb, rfl, hnb, hnd, hLb, hb3⟩; have hB3 := Below.then_ hB2 hb3; have hS3 := Strs.own hownb; have hS23 := hS2.on hb3; have hpl2 := pack_len hnb hLb (by omega) (by omega); have HLb := Lib.hid hLb; clear hLb; obtain ⟨Q, HQ⟩ : ∃ Q, Hid (str (pack Lb) = Q) := ⟨_, Lib.hid rfl⟩; have hQz : Q.size ≤ 100000 := (by rw [← HQ.out, str_size]; omega); obtain ⟨R, HR⟩ : ∃ R, Hid (str (pack [P, Q]) = R) := ⟨_, Lib.hid rfl⟩; have hRz : R.size ≤ 1048576 := (by rw [← HR.out, str_size]; have := pack_len (L := [P, Q]) (k := 2) (m := 100000) (Nat.le_refl _) (fun s hs => by simp at hs; rcases hs with rfl | rfl <;> assumption) (by omega) (by omega); omega)))
    | (go_at_call 18; ((with_reducible refine (hnum _).mono ?_); rintro e w4 ⟨rfl, hb4⟩; have hB4 := Below.then_ hB3 hb4; have hS24 := hS23.on hb4; have hS34 := hS3.on hb4))
    | (go_at_call 27; ((with_reducible refine (pack_any A La c _ hS24 hnc (by unfold maxLen; omega) (fun s hs => by have := HLa.out s hs; unfold maxLen; omega) (by omega)).mono ?_); rw [HP.out]; rintro e w5 ⟨rfl, hb5⟩; have hB5 := Below.then_ hB4 hb5; have hS25 := hS24.on hb5; have hS35 := hS34.on hb5))
    | (go_at_call 27; ((with_reducible refine (pack_any B Lb d _ hS35 hnd (by unfold maxLen; omega) (fun s hs => by have := HLb.out s hs; unfold maxLen; omega) (by omega)).mono ?_); rw [HQ.out]; rintro e w6 ⟨rfl, hb6⟩; have hB6 := Below.then_ hB5 hb6; have hS26 := hS25.on hb6; have hS36 := hS35.on hb6))
    | (go_at_call 27; ((with_reducible refine (pack_pair w6 P Q R hPz hQz HR).mono ?_); rintro e w7 ⟨rfl, hb7⟩; have hB7 := Below.then_ hB6 hb7; have hS27 := hS26.on hb7; have hS37 := hS36.on hb7))
    | (go_at_call 19; ((with_reducible refine (hread R _ hRz).mono ?_); rintro e w' ⟨rfl, rfl⟩))
    | (go_at_call 28; ((with_reducible refine (unpack_pair w7 P Q R hPz hQz HR).mono ?_); rintro e w8 ⟨ad, c8, rfl, hc8, hx0, hx1, hx2, hx3, hb8⟩; have hB8 := Below.then_ hB7 hb8; have hS28 := hS27.on hb8; have hS38 := hS37.on hb8))
    | (go_at_call 28; ((with_reducible refine (unpack_of La P _ hna (fun s hs => by have := HLa.out s hs; omega) HP).mono ?_); rintro e w9 ⟨C, c9, rfl, hSC, hc9, hb9⟩; have hB9 := Below.then_ hB8 hb9; have hS29 := hS28.on hb9; have hS39 := hS38.on hb9; have hx4 := (hb9.cell (p := ⟨ad.block, ad.off + 1, none⟩) hx3).trans hx2))
    | (go_at_call 28; ((with_reducible refine (unpack_of Lb Q _ hnb (fun s hs => by have := HLb.out s hs; omega) HQ).mono ?_); rintro e w10 ⟨D, c10, rfl, hSD, hc10, hb10⟩; have hB10 := Below.then_ hB9 hb10; have hS210 := hS29.on hb10; have hS310 := hS39.on hb10; have hSC2 := hSC.on hb10))
    | (go_at_call 29; ((with_reducible refine (strings_any A C La La c c9 _ hS210 hSC2 hnc hc9 (by unfold maxLen; omega) (by unfold maxLen; omega)).mono ?_); rw [decide_eq_true rfl]; rintro e w11 ⟨rfl, q, rfl⟩; have hB11 := Below.drewN_ hB10 q; have hS311 := Strs.drewN_ hS310 q; have hSD2 := Strs.drewN_ hSD q))
    | (go_at_call 29; ((with_reducible refine (strings_any B D Lb Lb d c10 _ hS311 hSD2 hnd hc10 (by unfold maxLen; omega) (by unfold maxLen; omega)).mono ?_); rw [decide_eq_true rfl]; rintro e w12 ⟨rfl, q2, rfl⟩; have hB12 := Below.drewN_ hB11 q2)))
  go_ret
  exact ⟨rfl, Below.drewN_ hB10 _⟩

theorem contract (H : Type) (enc : TypeId × Value → H) (W : World) (base : Nat) (args : Array Value) (ds gs : List (DataW H)) (before : List MemPlace)
    (hval : ∀ (j : Nat) t v, Try.f12.params[j]? = some t → args[j]? = some v → Value.okWide Try.prog W .any base t v)
    (hW : DataW.Whole enc Try.prog Try.f12.params.toList Rows.codecNestsSpec.vars false W args.toList ds gs before) :
    Calls Try.prog 12 args W fun e W' => ∃ v, e = .returned v ∧ Rows.codecNestsSpec.post enc Try.prog Try.f12 false true false false W args v W' := by
  have hW' := hW
  obtain ⟨p, q, hA0, hV, rfl, hfz, hnd⟩ := hW
  have hA : DataW.TrodAll enc Try.prog W 0 (fun _ => true) true Try.f12.params.toList args.toList ds p := hA0
  rw [Try.params12] at hA hval
  obtain ⟨v0, vs0, d0, ds0, p0, q0, e0, rfl, rfl, h0, r0⟩ := trodAll_cons hA
  obtain ⟨v1, vs1, d1, ds1, p1, q1, e1, rfl, rfl, h1, r1⟩ := trodAll_cons r0
  obtain ⟨v2, vs2, d2, ds2, p2, q2, e2, rfl, rfl, h2, r2⟩ := trodAll_cons r1
  obtain ⟨rfl, rfl, rfl⟩ := trodAll_nil r2
  obtain rfl : args = #[v0, v1, v2] := by cases args; simp_all
  obtain ⟨rfl, rfl⟩ := trodVars_none hV
  obtain ⟨A0, l, ca, rfl, hSl, hca, hl, hlz⟩ := open_list h0 (hval 0 43 v0 rfl rfl)
  obtain ⟨B0, m, cb, rfl, hSm, hcb, hm, hmz⟩ := open_list h1 (hval 1 43 v1 rfl rfl)
  obtain ⟨n, rfl, _, _, wn⟩ := open_int Try.underlying29 (hval 2 29 v2 rfl rfl) h2
  have hn := bd_u64 wn
  obtain ⟨v, rfl⟩ : ∃ v : Nat, n = (v : Int) := ⟨n.toNat, by omega⟩
  refine (walk A0 B0 l m ca cb v W hSl hca hl hlz hSm hcb hm hmz (by omega)).mono fun e W' ⟨he, hb⟩ => ⟨_, he, law_post rfl rfl ?_ rfl rfl rfl hW' hb⟩
  rw [Try.params12]
  intro t ht
  have ht' : t = 43 ∨ t = 43 ∨ t = 29 := by simpa using ht
  rcases ht' with rfl | rfl | rfl <;> exact ⟨by kernel_rfl, of_decide_eq_true (by kernel_rfl)⟩

set_option maxRecDepth 100000 in
theorem lifted (os : Os) (started : os.Started) (H : Type) (enc : TypeId × Value → H) :
    ReturnsInHanded {} Try.checked os 12 .any (Rows.codecNestsSpec.pre6 enc Try.prog Try.f12 Rows.codecNestsRow.domain false) (Rows.codecNestsSpec.post enc Try.prog Try.f12 false true false false) := by
  refine returnsInHanded_of_change (C := Try.checked) ownKnob_none started (by kernel_rfl) Try.func12
    (ChangeSpec.witness6 (enc := enc) (C := Try.checked) false ⟨#[], #[.slice none 0 0, .slice none 0 0, .int .u64 0], []⟩ 8 (by kernel_rfl) (by kernel_rfl) (by kernel_rfl) (by kernel_rfl)) ?_
  intro W base args ds gs before hval hW _ _
  exact contract H enc W base args ds gs before hval hW

theorem proved : Rows.CodecNestsSaid :=
  OpenClaim.holds_of_wide 12 Try.f12 rfl rfl rfl rfl rfl rfl rfl ⟨rfl, rfl, rfl, rfl, rfl⟩ rfl rfl rfl rfl rfl (by kernel_rfl) Try.func12 (by kernel_rfl)
    (of_decide_eq_true (by kernel_rfl)) (by unfold Func.isWrapper; first | (rw [if_pos (by decide +kernel)]; kernel_rfl) | (rw [if_neg (by decide +kernel)]; exact ⟨rfl, rfl⟩))
    (fun os started H enc _ => lifted os started H enc)

end nests
end Go.Proofs.Ytdbhmoadngclgaa
