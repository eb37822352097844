/- Patch, for long lists of hunks that fit short lists of lines. -/
import Derived.Test.YtmeoannheomdoaaPatch
namespace Go.Proofs.Ytmeoannheomdoaa
open Go.RowKit

set_option maxRecDepth 100000 in
set_option maxHeartbeats 2000000 in
theorem fit_big (A B C : Option Addr) (n m p c d e : Nat) (H : List Hk) (w : World) (hC : Hks w w.heap.size C e H) (hF : FitL n m 0 H) (hp : H.length = p) (hn : n ≤ 1000000) (hm : m ≤ 1000000) (hp2 : p ≤ 2000000) :
    Calls Try.prog 43 #[.slice A n c, .slice B m d, .slice C p e] w (BoolB w true) := by
  have hcap : p ≤ e := by have := hC.cap; omega
  have HC := Lib.hid hC
  have HP := Lib.hid hp
  have HF := Lib.hid hF
  clear hC hp hF
  go_enter Try.func43, Try.ntmps43
  go_wp2
  go_loopw [7, 12] (fun v7 v12 wr => ∃ (k f : Nat), k ≤ p ∧ v12 = .int .i64 (k : Int) ∧ v7 = .int .i64 (f : Int) ∧ Hid (FitL n m f (H.drop k)) ∧ Below w.heap.size w wr) (fun _ v12 _ => p - (intOf v12).toNat)
  case atStart => exact ⟨0, 0, by omega, rfl, rfl, Lib.hid HF.out, Below.refl _ _⟩
  case round =>
    obtain ⟨k, f, hk, rfl, rfl, HK, hB⟩ := hrel
    have hi0 : (0 : Int) ≤ (k : Int) := Int.natCast_nonneg _
    by_cases hlt : k < p
    · have hi1 : (k : Int) < (p : Int) := by omega
      have hkl : k < H.length := by have := HP.out; omega
      obtain ⟨s1, s2, s3, s4, s5, s6⟩ := fit_step HK.out hkl
      obtain ⟨ad, rfl, q0, q1, q2, q3⟩ := hks_at (Row.below HC.out hB (Nat.le_refl _)) hkl
      obtain ⟨x, hx⟩ : ∃ x, H[k] = x := ⟨_, rfl⟩
      rw [hx] at s1 s2 s3 s4 s5 s6 q0 q1 q2 q3
      have HS := Lib.hid s6
      have g1 : ¬ (x.a0 : Int) < (f : Int) := by omega
      have g2 : ¬ (x.a1 : Int) < (x.a0 : Int) := by omega
      have g3 : ¬ (n : Int) < (x.a1 : Int) := by omega
      have g4 : ¬ (x.b0 : Int) < 0 := by omega
      have g5 : ¬ (x.b1 : Int) < (x.b0 : Int) := by omega
      have g6 : ¬ (m : Int) < (x.b1 : Int) := by omega
      clear s6 hx
      go_wp2
      go_roundw
      case rel => exact ⟨k + 1, x.a1, by omega, by go_num, rfl, HS, hB.alloc hB.size _⟩
      case measure => simp [intOf]; omega
    · obtain rfl : k = p := by omega
      go_wp2
      go_ret
      exact ⟨rfl, hB⟩

set_option maxRecDepth 100000 in
set_option maxHeartbeats 2000000 in
theorem size_big (a b : List ByteArray) (C : Option Addr) (n p e T : Nat) (H : List Hk) (w : World) (hC : Hks w w.heap.size C e H) (hF : FitL a.length b.length 0 H) (hp : H.length = p) (hn : a.length = n) (hT : (patchG a b 0 H).length = T) (hn2 : n ≤ 100) (hm2 : b.length ≤ 100) (hp2 : p ≤ 1048576) :
    Calls Try.prog 44 #[.int .i64 n, .slice C p e] w fun e' w' => e' = .returned (.int .i64 (T : Int)) ∧ Below w.heap.size w w' := by
  have hcap : p ≤ e := by have := hC.cap; omega
  have hsm := patch_small a b 100 hm2
  have HC := Lib.hid hC
  have HP := Lib.hid hp
  have H0 : Hid (∃ f, FitL a.length b.length f (H.drop 0) ∧ f ≤ n ∧ n + (patchG a b f (H.drop 0)).length = T + (n - f) ∧ (patchG a b f (H.drop 0)).length ≤ T) := Lib.hid ⟨0, hF, by omega, by show n + (patchG a b 0 H).length = _; omega, Nat.le_of_eq hT⟩
  have hT2 : T ≤ 200000000 := by
    have := hsm H 0 hF
    rw [hT, hp] at this
    have h2 := Nat.mul_le_mul_right 100 hp2
    omega
  have HSM := Lib.hid hsm
  have HN := Lib.hid hn
  clear hC hp hF hT hsm hn
  go_enter Try.func44, Try.ntmps44
  go_wp2
  go_loopw [0, 9] (fun v0 v9 wr => ∃ (k s : Nat), k ≤ p ∧ s ≤ 400000000 ∧ v9 = .int .i64 (k : Int) ∧ v0 = .int .i64 (s : Int) ∧ Hid (∃ f, FitL a.length b.length f (H.drop k) ∧ f ≤ n ∧ s + (patchG a b f (H.drop k)).length = T + (n - f) ∧ (patchG a b f (H.drop k)).length ≤ T) ∧ Below w.heap.size w wr) (fun _ v9 _ => p - (intOf v9).toNat)
  case atStart => exact ⟨0, n, by omega, by omega, rfl, rfl, H0, Below.refl _ _⟩
  case round =>
    obtain ⟨k, s, hk, hs, rfl, rfl, HK, hB⟩ := hrel
    have hi0 : (0 : Int) ≤ (k : Int) := Int.natCast_nonneg _
    by_cases hlt : k < p
    · have hi1 : (k : Int) < (p : Int) := by omega
      have hkl : k < H.length := by have := HP.out; omega
      obtain ⟨f, hf, hfn, hsum, hRT⟩ := HK.out
      have hl := patch_len a b (H.drop k) f hf H[k] (H.drop (k + 1)) (List.drop_eq_getElem_cons hkl)
      obtain ⟨s1, s2, s3, s4, s5, s6⟩ := fit_step hf hkl
      obtain ⟨ad, rfl, q0, q1, q2, q3⟩ := hks_at (Row.below HC.out hB (Nat.le_refl _)) hkl
      obtain ⟨x, hx⟩ : ∃ x, H[k] = x := ⟨_, rfl⟩
      rw [hx] at s1 s2 s3 s4 s5 s6 q0 q1 q2 q3 hl
      have hnn := HN.out
      have e1 : (s : Int) + ((x.b1 : Int) - (x.b0 : Int) - ((x.a1 : Int) - (x.a0 : Int))) = ((s + (x.b1 - x.b0) - (x.a1 - x.a0) : Nat) : Int) := by omega
      have HNX : Hid (∃ f, FitL a.length b.length f (H.drop (k + 1)) ∧ f ≤ n ∧ s + (x.b1 - x.b0) - (x.a1 - x.a0) + (patchG a b f (H.drop (k + 1))).length = T + (n - f) ∧ (patchG a b f (H.drop (k + 1))).length ≤ T) := Lib.hid ⟨x.a1, s6, by omega, by omega, by omega⟩
      have hs2 : s + (x.b1 - x.b0) - (x.a1 - x.a0) ≤ 400000000 := by omega
      have HE := Lib.hid e1
      have u1 : x.a1 ≤ 10000 := by omega
      have u2 : x.b1 ≤ 10000 := by omega
      clear hl hsum hRT hf s6 hx e1 hnn
      go_wp2
      go_roundw
      case rel => exact ⟨k + 1, s + (x.b1 - x.b0) - (x.a1 - x.a0), by omega, by omega, by go_num, by rw [← HE.out], HNX, hB.alloc hB.size _⟩
      case measure => simp [intOf]; omega
    · obtain rfl : k = p := by omega
      obtain ⟨f, hf, hfn, hsum, hRT⟩ := HK.out
      have hd : H.drop k = [] := List.drop_eq_nil_of_le (by have := HP.out; omega)
      rw [hd, patchG, List.length_drop] at hsum
      have hnn := HN.out
      have hsT : s = T := by omega
      subst hsT
      clear hf hd hsum hnn
      go_wp2
      go_ret
      exact ⟨rfl, hB⟩
set_option maxRecDepth 100000 in
set_option maxHeartbeats 4000000 in
theorem patch_big (A B C : Option Addr) (a b : List ByteArray) (H : List Hk) (n m p c d e T : Nat) (w : World) (hA : Strs w w.heap.size A c a) (hB : Strs w w.heap.size B d b) (hC : Hks w w.heap.size C e H) (hF : FitL a.length b.length 0 H)
    (hn : a.length = n) (hm : b.length = m) (hp : H.length = p) (hT : (patchG a b 0 H).length = T) (hn2 : n ≤ 100) (hm2 : m ≤ 100) (hp2 : p ≤ 1048576) :
    Calls Try.prog 25 #[.slice A n c, .slice B m d, .slice C p e] w (PatchOut w T (patchG a b 0 H)) := by
  have hT2 : T ≤ 200000000 := by
    have := patch_small a b 100 (by omega) H 0 hF
    rw [hT, hp] at this
    have h2 := Nat.mul_le_mul_right 100 hp2
    omega
  have hcA : n ≤ c := by have := hA.cap; omega
  have hcB : m ≤ d := by have := hB.cap; omega
  have hcC : p ≤ e := by have := hC.cap; omega
  have HA := Lib.hid hA
  have HBB := Lib.hid hB
  have HC := Lib.hid hC
  have HF := Lib.hid hF
  have HN := Lib.hid hn
  have HM := Lib.hid hm
  have HP := Lib.hid hp
  have K1 := Lib.hid (fit_big A B C n m p c d e H w hC (by rw [← hn, ← hm]; exact hF) hp (by omega) (by omega) (by omega))
  have K2 := Lib.hid (fun (W : World) (hW : Below w.heap.size w W) => size_big a b C n p e T H W (Row.on hC hW) hF hp hn hT hn2 (by omega) hp2)
  have hmk := made_one 23 9 (.string ⟨#[]⟩) 16 Try.underlying23 info9 rfl T (by omega) (by omega)
  obtain ⟨Z, HZ⟩ : ∃ Z, Hid (List.replicate T (Value.string ⟨#[]⟩) = Z) := ⟨_, Lib.hid rfl⟩
  have hZl : Z.length = T := by rw [← HZ.out]; simp
  rw [HZ.out] at hmk
  have HZL := Lib.hid hZl
  obtain ⟨X, HX⟩ : ∃ X, Hid (strC (patchG a b 0 H) = X) := ⟨_, Lib.hid rfl⟩
  have HXL : Hid (X.length = T) := Lib.hid (by rw [← HX.out, strC_len]; exact hT)
  clear hA hB hC hF hn hm hp hT hZl
  go_enter Try.func25, Try.ntmps25
  go_wp2_with (first
    | (go_at_call 43; ((with_reducible refine K1.out.mono ?_); rintro e' w1 ⟨rfl, hb1⟩))
    | (go_at_call 44; ((with_reducible refine (K2.out _ hb1).mono ?_); rintro e' w2 ⟨rfl, hb2⟩)))
  have hb3 : Below w.heap.size w (w2.alloc (.cells Z.toArray 9)) := (Below.then_ hb1 hb2).alloc (Below.then_ hb1 hb2).size _
  have hP0 : Pin (w2.alloc (.cells Z.toArray 9)) w2.heap.size T a b X H 0 0 0 := ⟨HF.out, by rw [← HX.out]; rfl, HXL.out, Nat.zero_le _, Z, heap_alloc_new w2 _, HZL.out, by simp⟩
  have hgw := (Below.then_ hb1 hb2).size
  obtain ⟨g, hg⟩ : ∃ g, w2.heap.size = g := ⟨_, rfl⟩
  obtain ⟨w3, hw3⟩ : ∃ w3, w2.alloc (.cells Z.toArray 9) = w3 := ⟨_, rfl⟩
  rw [hw3, hg] at hP0
  rw [hw3] at hb3 ⊢
  rw [hg] at hgw ⊢
  have hg3 : g < w3.heap.size := by rw [← hw3, ← hg]; simp
  clear hw3 hg hmk hb1 hb2
  have HP0 := Lib.hid hP0
  clear hP0
  go_loopw [8, 9, 24] (fun v8 v9 v24 wr => ∃ (k f dn : Nat), k ≤ p ∧ v24 = .int .i64 (k : Int) ∧ v8 = .int .i64 (f : Int) ∧ v9 = .int .i64 (dn : Int) ∧ Hid (Pin wr g T a b X H k f dn) ∧ Below w.heap.size w wr ∧ g < wr.heap.size) (fun _ _ v24 _ => p - (intOf v24).toNat)
  case atStart => exact ⟨0, 0, 0, by omega, rfl, rfl, rfl, HP0, hb3, hg3⟩
  case round =>
    obtain ⟨k, f, dn, hk, rfl, rfl, rfl, HI, hBw, hgl⟩ := hrel
    have hi0 : (0 : Int) ≤ (k : Int) := Int.natCast_nonneg _
    have hf0 : (0 : Int) ≤ (f : Int) := Int.natCast_nonneg _
    have hd0 : (0 : Int) ≤ (dn : Int) := Int.natCast_nonneg _
    have hfT := HI.out.le
    by_cases hlt : k < p
    · have hi1 : (k : Int) < (p : Int) := by omega
      have hkl : k < H.length := by have := HP.out; omega
      obtain ⟨s1, s2, s3, s4, s5, s6⟩ := fit_step HI.out.fit hkl
      have hkc := hks_at (Row.below HC.out hBw (Nat.le_refl _)) hkl
      have hrest := HI.out.rest
      rw [List.drop_eq_getElem_cons hkl] at hrest
      obtain ⟨x, hx⟩ : ∃ x, H[k] = x := ⟨_, rfl⟩
      rw [hx] at s1 s2 s3 s4 s5 s6 hkc hrest
      have HKC := Lib.hid hkc
      clear hkc
      rw [patchG, strC_apd, strC_apd] at hrest
      rw [HN.out] at s3
      rw [HM.out] at s5
      obtain ⟨cur, hcur, hcl, hct⟩ := HI.out.row
      obtain ⟨A0, r0, f0⟩ := cut_own g T f hfT
      have la := strs_lh A a c dn x.a0 s1 (by have := HN.out; omega) (by have := HN.out; omega)
      rw [HN.out] at la
      obtain ⟨A1, r1, l1, k1⟩ := la
      have lb := strs_lh B b d x.b0 x.b1 s4 (by have := HM.out; omega) (by have := HM.out; omega)
      rw [HM.out] at lb
      obtain ⟨A2, r2, l2, k2⟩ := lb
      obtain ⟨cs1, hc1⟩ : ∃ cs, strC ((a.drop dn).take (x.a0 - dn)) = cs := ⟨_, rfl⟩
      obtain ⟨cs2, hc2⟩ : ∃ cs, strC ((b.drop x.b0).take (x.b1 - x.b0)) = cs := ⟨_, rfl⟩
      have n1 : cs1.length = x.a0 - dn := by rw [← hc1, strC_len, l1]
      have n2 : cs2.length = x.b1 - x.b0 := by rw [← hc2, strC_len, l2]
      rw [hc1, hc2] at hrest
      have hXT := HI.out.lenX
      obtain ⟨v1, v2, v3, v4⟩ := splice_adv hrest hct (by rw [hcl, hXT]) (by rw [hXT]; exact hfT)
      obtain ⟨u1, u2, u3, u4⟩ := splice_adv v3 v2 v1 v4
      rw [hXT] at v1 v4 u1 u4
      obtain ⟨A3, r3, f3⟩ := cut_own g T (f + cs1.length) v4
      have HC1 := Lib.hid hc1
      have HC2 := Lib.hid hc2
      obtain ⟨q1', hq1'⟩ : ∃ q, cs1.length = q := ⟨_, rfl⟩
      obtain ⟨q2', hq2'⟩ : ∃ q, cs2.length = q := ⟨_, rfl⟩
      rw [hq1'] at v2 v3 v4 u1 u2 u3 u4 r3 f3
      rw [hq2'] at u2 u3 u4
      have r3 : ∀ W, (Instr.slice 23 (.slice (some ⟨g, 0, none⟩) T T) (some (.int .i64 ((f : Int) + (q1' : Int)))) none none).run Try.prog W = .ok (.slice A3 (T - (f + q1')) (T - (f + q1'))) W := r3
      have HN1 := Lib.hid n1
      have HN2 := Lib.hid n2
      have HQ1 := Lib.hid hq1'
      have HQ2 := Lib.hid hq2'
      have FR := Lib.hid s6
      have V1 := Lib.hid v1
      have U := Lib.hid (show (splice (splice cur f cs1) (f + q1') cs2).length = T ∧ (splice (splice cur f cs1) (f + q1') cs2).take (f + q1' + q2') = X.take (f + q1' + q2') ∧ X.drop (f + q1' + q2') = strC (patchG a b x.a1 (H.drop (k + 1))) from ⟨u1, u2, u3⟩)
      have hqe1 : q1' = x.a0 - dn := hq1'.symm.trans n1
      have hqe2 : q2' = x.b1 - x.b0 := hq2'.symm.trans n2
      have M1 : Hid (cs1.length = Nat.min (x.a0 - dn) (T - f)) := Lib.hid (by rw [n1]; exact (Nat.min_eq_left (by omega)).symm)
      have M2 : Hid (cs2.length = Nat.min (x.b1 - x.b0) (T - (f + q1'))) := Lib.hid (by rw [n2]; exact (Nat.min_eq_left (by omega)).symm)
      have O1 : Hid (∀ v ∈ cs1, v.oneCell' = true) := Lib.hid (by rw [← hc1]; exact strC_one _)
      have O2 : Hid (∀ v ∈ cs2, v.oneCell' = true) := Lib.hid (by rw [← hc2]; exact strC_one _)
      have S1 : Hid (∀ W, Below w.heap.size w W → 0 < cs1.length → A0 = some ⟨g, f, none⟩ ∧ ∃ ad, A1 = some ad ∧ ∀ j v, cs1[j]? = some v → W.cell? (ad.add j) = some v) := Lib.hid (fun W hW h0 => ⟨f0 (by omega), by
        have hr := k1 W w.heap.size (Row.below HA.out hW (Nat.le_refl _))
        have := row_src hr (by rw [hc1]; exact h0)
        rwa [hc1] at this⟩)
      have S2 : Hid (∀ W, Below w.heap.size w W → 0 < cs2.length → A3 = some ⟨g, f + q1', none⟩ ∧ ∃ ad, A2 = some ad ∧ ∀ j v, cs2[j]? = some v → W.cell? (ad.add j) = some v) := Lib.hid (fun W hW h0 => ⟨f3 (by omega), by
        have hr := k2 W w.heap.size (Row.below HBB.out hW (Nat.le_refl _))
        have := row_src hr (by rw [hc2]; exact h0)
        rwa [hc2] at this⟩)
      have I1 : Hid (f + cs1.length ≤ cur.length) := Lib.hid (by rw [hcl, hq1']; exact v4)
      have I2 : Hid (f + q1' + cs2.length ≤ (splice cur f cs1).length) := Lib.hid (by rw [v1, hq2']; exact u4)
      have hqT1 : f + q1' ≤ T := v4
      have hqT2 : f + q1' + q2' ≤ T := u4
      have hB4' := hBw.alloc hBw.size (.cells #[.int .i64 (x.a0 : Int), .int .i64 (x.a1 : Int), .int .i64 (x.b0 : Int), .int .i64 (x.b1 : Int)] 40)
      have hF4' := Full.new wr 40 [.int .i64 (x.a0 : Int), .int .i64 (x.a1 : Int), .int .i64 (x.b0 : Int), .int .i64 (x.b1 : Int)]
      change Full (wr.alloc (.cells #[.int .i64 (x.a0 : Int), .int .i64 (x.a1 : Int), .int .i64 (x.b0 : Int), .int .i64 (x.b1 : Int)] 40)) _ _ _ at hF4'
      have hG4' := (Below.heap_alloc wr (.cells #[.int .i64 (x.a0 : Int), .int .i64 (x.a1 : Int), .int .i64 (x.b0 : Int), .int .i64 (x.b1 : Int)] 40) g hgl).trans hcur
      clear n1 n2 hq1' hq2' hqe1 hqe2 v1 v2 v3 v4 u1 u2 u3 u4 hct hcl hcur f0 f3 k1 k2 s6 hrest hXT hx l1 l2 hc1 hc2
      obtain ⟨w4, hw4⟩ : ∃ w4, wr.alloc (.cells #[.int .i64 (x.a0 : Int), .int .i64 (x.a1 : Int), .int .i64 (x.b0 : Int), .int .i64 (x.b1 : Int)] 40) = w4 := ⟨_, rfl⟩
      have HW4 := Lib.hid hw4
      rw [hw4] at hB4' hF4' hG4'
      obtain ⟨gh, hgh⟩ : ∃ gh, wr.heap.size = gh := ⟨_, rfl⟩
      have HGH := Lib.hid hgh
      rw [hgh] at hF4'
      have hne : gh ≠ g := by omega
      have HB4 := Lib.hid hB4'
      have HF4 := Lib.hid hF4'
      have HG4 := Lib.hid hG4'
      clear hw4 hgh hB4' hF4' hG4' hBw
      obtain ⟨ad', rfl, q0, q1, q2, q3⟩ := HKC.out
      go_wp2_with fail
      rw [HW4.out, HGH.out]
      clear q0 q1 q2 q3
      have c0 : w4.cell? ⟨gh, 0, none⟩ = some (.int .i64 (x.a0 : Int)) := HF4.out.cell 0
      have i1 : (dn : Int) ≤ (x.a0 : Int) := by omega
      have i2 : (x.a0 : Int) ≤ (n : Int) := by omega
      have i3 : (f : Int) ≤ (T : Int) := by omega
      have hq1 := HQ1.out
      have hw1 : IntKind.i64.wrap ((f : Int) + (q1' : Int)) = (f : Int) + (q1' : Int) := by simp [IntKind.wrap, IntKind.bits, IntKind.signed]; omega
      have hw2 : IntKind.i64.wrap ((f : Int) + (q1' : Int) + (q2' : Int)) = (f : Int) + (q1' : Int) + (q2' : Int) := by simp [IntKind.wrap, IntKind.bits, IntKind.signed]; omega
      go_region_law (refine step_copy_at rfl (.tmp 31) (.tmp 36) 23 23 rfl 9 Try.underlying23 (by kernel_rfl) A0 A1 (T - f) (T - f) (x.a0 - dn) (c - dn) (by rfl) (by rfl) g f cur 9 HG4.out cs1 M1.out (S1.out w4 HB4.out) I1.out O1.out ?_; intro w5 hg5 hgr5)
      have hF5 : Full w5 gh 40 [.int .i64 (x.a0 : Int), .int .i64 (x.a1 : Int), .int .i64 (x.b0 : Int), .int .i64 (x.b1 : Int)] := HF4.out.drew.grown hgr5 (by simpa using hne)
      have hB5 : Below w.heap.size w w5 := HB4.out.drew.grown hgr5 HB4.out.size (fun j e => by have := Option.some.inj e; omega)
      have HB5 := Lib.hid hB5
      have HF5 := Lib.hid hF5
      have d0 : w5.cell? ⟨gh, 2, none⟩ = some (.int .i64 (x.b0 : Int)) := hF5.cell 2
      have d1 : w5.cell? ⟨gh, 3, none⟩ = some (.int .i64 (x.b1 : Int)) := hF5.cell 3
      clear hF5 hB5 hq1 c0
      have j1 : (x.b0 : Int) ≤ (x.b1 : Int) := by omega
      have j2 : (x.b1 : Int) ≤ (m : Int) := by omega
      have j3 : (f : Int) + (q1' : Int) ≤ (T : Int) := by omega
      have hq2 := HQ2.out
      go_wp2_with fail
      go_region_law (refine step_copy_at rfl (.tmp 42) (.tmp 48) 23 23 rfl 9 Try.underlying23 (by kernel_rfl) A3 A2 (T - (f + q1')) (T - (f + q1')) (x.b1 - x.b0) (d - x.b0) (by rfl) (by rfl) g (f + q1') (splice cur f cs1) 9 hg5.out cs2 M2.out (S2.out w5 HB5.out) I2.out O2.out ?_; intro w6 hg6 hgr6; have HF6 := Lib.hid (HF5.out.drew.grown hgr6 (by simpa using hne)); have e0 : w6.cell? ⟨gh, 1, none⟩ = some (.int .i64 (x.a1 : Int)) := HF6.out.cell 1)
      all_goals
        have hB6 : Below w.heap.size w w6 := HB5.out.drew.grown hgr6 HB5.out.size (fun j e => by have := Option.some.inj e; omega)
        have HB6 := Lib.hid hB6
        have hgl6 : g < w6.heap.size := (Array.getElem?_eq_some_iff.1 hg6.out).1
        clear hB6 hq2 d0 d1 hw1 hw2
        try go_wp2
        go_roundw
        case rel =>
          exact ⟨k + 1, f + q1' + q2', x.a1, by omega, by go_num, by first | rfl | (congr 1; omega), rfl, Lib.hid ⟨FR.out, U.out.2.2, HI.out.lenX, hqT2, _, hg6.out, U.out.1, U.out.2.1⟩, HB6.out, hgl6⟩
        case measure => simp [intOf]; omega
    · obtain rfl : k = p := by omega
      have hd : H.drop k = [] := List.drop_eq_nil_of_le (by have := HP.out; omega)
      have hrest := HI.out.rest
      rw [hd, patchG] at hrest
      obtain ⟨cur, hcur, hcl, hct⟩ := HI.out.row
      have hXT := HI.out.lenX
      have hdn : dn ≤ n := by have := HI.out.fit.le; have := HN.out; omega
      obtain ⟨A0, r0, f0⟩ := cut_own g T f hfT
      have la := strs_l A a c dn (by have := HN.out; omega) (by have := HN.out; omega)
      rw [HN.out] at la
      obtain ⟨A1, r1, l1, k1⟩ := la
      obtain ⟨cs1, hc1⟩ : ∃ cs, strC (a.drop dn) = cs := ⟨_, rfl⟩
      have n1 : cs1.length = n - dn := by rw [← hc1, strC_len, l1]
      rw [hc1] at hrest
      have hX0 : X.drop f = cs1 ++ [] := by rw [List.append_nil]; exact hrest
      obtain ⟨v1, v2, v3, v4⟩ := splice_adv hX0 hct (by rw [hcl, hXT]) (by rw [hXT]; exact hfT)
      have hfull : f + cs1.length = T := by
        have := congrArg List.length v3
        rw [List.length_drop, List.length_nil] at this
        omega
      have M1 : Hid (cs1.length = Nat.min (n - dn) (T - f)) := Lib.hid (by rw [n1]; exact (Nat.min_eq_left (by omega)).symm)
      have O1 : Hid (∀ v ∈ cs1, v.oneCell' = true) := Lib.hid (by rw [← hc1]; exact strC_one _)
      have S1 : Hid (∀ W, Below w.heap.size w W → 0 < cs1.length → A0 = some ⟨g, f, none⟩ ∧ ∃ ad, A1 = some ad ∧ ∀ j v, cs1[j]? = some v → W.cell? (ad.add j) = some v) := Lib.hid (fun W hW h0 => ⟨f0 (by omega), by
        have hr := k1 W w.heap.size (Row.below HA.out hW (Nat.le_refl _))
        have := row_src hr (by rw [hc1]; exact h0)
        rwa [hc1] at this⟩)
      have I1 : Hid (f + cs1.length ≤ cur.length) := Lib.hid (by rw [hcl]; omega)
      have FIN : Hid (splice cur f cs1 = X) := Lib.hid (by
        rw [hfull, List.take_of_length_le (by omega), List.take_of_length_le (by omega)] at v2
        exact v2)
      have HCUR := Lib.hid hcur
      have HBW := Lib.hid hBw
      clear v1 v2 v3 v4 hX0 hfull n1 hc1 l1 k1 f0 hrest hct hcl hcur hXT hd hBw
      have i1 : (dn : Int) ≤ (n : Int) := by omega
      have i3 : (f : Int) ≤ (T : Int) := by omega
      go_wp2_with fail
      go_region_law (refine step_copy_at rfl (.tmp 56) (.tmp 59) 23 23 rfl 9 Try.underlying23 (by kernel_rfl) A0 A1 (T - f) (T - f) (n - dn) (c - dn) (by rfl) (by rfl) g f cur 9 HCUR.out cs1 M1.out (S1.out wr HBW.out) I1.out O1.out ?_; intro w5 hg5 hgr5)
      all_goals
        try go_wp2
        go_ret
        exact patch_end HX.out HXL.out FIN.out hg5.out hgw (HBW.out.drew.grown hgr5 HBW.out.size (fun j e => by have := Option.some.inj e; omega))
end Go.Proofs.Ytmeoannheomdoaa
