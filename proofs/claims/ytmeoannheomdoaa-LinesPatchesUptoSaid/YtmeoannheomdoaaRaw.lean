/- Patches by hunks of any numbers: where they do not fit, there is nothing. -/
import Derived.Test.YtmeoannheomdoaaBig
import Derived.Test.YtmeoannheomdoaaRefPart
namespace Go.Proofs.Ytmeoannheomdoaa
open Go.RowKit

/-- a hunk of any numbers -/
structure Hz where
  z0 : Int
  z1 : Int
  z2 : Int
  z3 : Int
def hzC (x : Hz) : List Value := [.int .i64 x.z0, .int .i64 x.z1, .int .i64 x.z2, .int .i64 x.z3]
theorem hzC_len (x : Hz) : (hzC x).length = 4 := rfl
def hzsC (L : List Hz) : List Value := L.flatMap hzC
def Hzs (w : World) (B : Nat) (A : Option Addr) (c : Nat) (L : List Hz) : Prop := Row w B 4 A L.length c (hzsC L)
def toZ (h : Hk) : Hz := ⟨h.a0, h.a1, h.b0, h.b1⟩
theorem hz_map (H : List Hk) : hzsC (H.map toZ) = hksC H := by unfold hzsC hksC; rw [List.flatMap_map]; rfl
theorem Hzs.hks {w : World} {B : Nat} {A : Option Addr} {c : Nat} {H : List Hk} (h : Hzs w B A c (H.map toZ)) : Hks w B A c H := by
  unfold Hzs at h
  rw [hz_map, List.length_map] at h
  exact h
theorem Hks.hzs {w : World} {B : Nat} {A : Option Addr} {c : Nat} {H : List Hk} (h : Hks w B A c H) : Hzs w B A c (H.map toZ) := by
  unfold Hzs
  rw [hz_map, List.length_map]
  exact h
theorem hzs_at {w : World} {B : Nat} {A : Option Addr} {c : Nat} {L : List Hz} (h : Hzs w B A c L) {k : Nat} (hk : k < L.length) : ∃ ad, A = some ad ∧ w.cell? (ad.add (k * 4)) = some (.int .i64 L[k].z0) ∧ w.cell? ⟨(ad.add (k * 4)).block, (ad.add (k * 4)).off + 1, none⟩ = some (.int .i64 L[k].z1) ∧
    w.cell? ⟨(ad.add (k * 4)).block, (ad.add (k * 4)).off + 2, none⟩ = some (.int .i64 L[k].z2) ∧ w.cell? ⟨(ad.add (k * 4)).block, (ad.add (k * 4)).off + 3, none⟩ = some (.int .i64 L[k].z3) := by
  have hf := fun j hj => flat_at hzC 4 hzC_len L k j hk hj
  obtain ⟨ad, e, _, h0⟩ := h.2.2.2 (k * 4 + 0) _ (hf 0 (by omega))
  obtain ⟨ad1, e1, _, h1⟩ := h.2.2.2 (k * 4 + 1) _ (hf 1 (by omega))
  obtain ⟨ad2, e2, _, h2⟩ := h.2.2.2 (k * 4 + 2) _ (hf 2 (by omega))
  obtain ⟨ad3, e3, _, h3⟩ := h.2.2.2 (k * 4 + 3) _ (hf 3 (by omega))
  rw [e] at e1 e2 e3
  injection e1 with e1
  injection e2 with e2
  injection e3 with e3
  subst e1 e2 e3
  rw [← add_twice] at h1 h2 h3
  exact ⟨ad, e, h0, h1, h2, h3⟩
/-- a hunk that does not fit behind place d -/
def Bad (n m : Nat) (d : Int) (x : Hz) : Prop := x.z0 < d ∨ x.z1 < x.z0 ∨ (n : Int) < x.z1 ∨ x.z2 < 0 ∨ x.z3 < x.z2 ∨ (m : Int) < x.z3
def FitZ (n m : Nat) : Int → List Hz → Prop
  | _, [] => True
  | d, x :: t => ¬ Bad n m d x ∧ FitZ n m x.z1 t
theorem fit_nat {n m : Nat} : ∀ (H : List Hz) (d : Nat), d ≤ n → FitZ n m d H → ∃ H' : List Hk, H = H'.map toZ ∧ FitL n m d H'
  | [], d, hd, _ => ⟨[], rfl, hd⟩
  | x :: t, d, hd, h => by
    obtain ⟨h1, h2⟩ := h
    unfold Bad at h1
    obtain ⟨z0, z1, z2, z3⟩ := x
    dsimp only at h1 h2
    obtain ⟨a0, rfl⟩ : ∃ a : Nat, z0 = a := ⟨z0.toNat, by omega⟩
    obtain ⟨a1, rfl⟩ : ∃ a : Nat, z1 = a := ⟨z1.toNat, by omega⟩
    obtain ⟨b0, rfl⟩ : ∃ a : Nat, z2 = a := ⟨z2.toNat, by omega⟩
    obtain ⟨b1, rfl⟩ : ∃ a : Nat, z3 = a := ⟨z3.toNat, by omega⟩
    obtain ⟨T, e, hT⟩ := fit_nat t a1 (by omega) h2
    exact ⟨⟨a0, a1, b0, b1⟩ :: T, by rw [List.map_cons, ← e]; rfl, show d ≤ a0 by omega, show a0 ≤ a1 by omega, show a1 ≤ n by omega, show b0 ≤ b1 by omega, show b1 ≤ m by omega, hT⟩
theorem fitL_fitZ {n m : Nat} : ∀ (H : List Hk) (d : Nat), FitL n m d H → FitZ n m d (H.map toZ)
  | [], _, _ => trivial
  | x :: t, d, h => by
    obtain ⟨h1, h2, h3, h4, h5, h6⟩ := h
    refine ⟨?_, fitL_fitZ t x.a1 h6⟩
    unfold Bad toZ
    dsimp only
    omega

set_option maxRecDepth 100000 in
set_option maxHeartbeats 4000000 in
theorem nofit_any (A B C : Option Addr) (n m p c d e : Nat) (H : List Hz) (w : World) (hC : Hzs w w.heap.size C e H) (hF : ¬ FitZ n m 0 H) (hp : H.length = p) (hn : n ≤ 1000000) (hm : m ≤ 1000000) (hp2 : p ≤ 2000000) :
    Calls Try.prog 43 #[.slice A n c, .slice B m d, .slice C p e] w (BoolB w false) := by
  have hcap : p ≤ e := by have := hC.2.1; omega
  have HC := Lib.hid hC
  have HP := Lib.hid hp
  have HF := Lib.hid hF
  clear hC hp hF
  go_enter Try.func43, Try.ntmps43
  go_wp2
  go_loopw [7, 12] (fun v7 v12 wr => ∃ (k : Nat) (f : Int), k ≤ p ∧ v12 = .int .i64 (k : Int) ∧ v7 = .int .i64 f ∧ Hid (¬ FitZ n m f (H.drop k)) ∧ Below w.heap.size w wr) (fun _ v12 _ => p - (intOf v12).toNat)
  case atStart => exact ⟨0, 0, by omega, rfl, rfl, Lib.hid HF.out, Below.refl _ _⟩
  case round =>
    obtain ⟨k, f, hk, rfl, rfl, HK, hB⟩ := hrel
    have hi0 : (0 : Int) ≤ (k : Int) := Int.natCast_nonneg _
    by_cases hlt : k < p
    · have hi1 : (k : Int) < (p : Int) := by omega
      have hkl : k < H.length := by have := HP.out; omega
      have hd := HK.out
      rw [List.drop_eq_getElem_cons hkl] at hd
      obtain ⟨ad, rfl, q0, q1, q2, q3⟩ := hzs_at (Row.below HC.out hB (Nat.le_refl _)) hkl
      obtain ⟨x, hx⟩ : ∃ x, H[k] = x := ⟨_, rfl⟩
      rw [hx] at q0 q1 q2 q3 hd
      have HD := Lib.hid hd
      clear hx hd hkl
      by_cases g0 : x.z0 < f
      · have d0 : decide (x.z0 < f) = true := by simpa using g0
        go_wp2_with fail
        go_ret
        exact ⟨rfl, hB.alloc hB.size _⟩
      · have d0 : decide (x.z0 < f) = false := decide_eq_false g0
        by_cases g1 : x.z1 < x.z0
        · have d1 : decide (x.z1 < x.z0) = true := by simpa using g1
          go_wp2_with fail
          go_ret
          exact ⟨rfl, hB.alloc hB.size _⟩
        · have d1 : decide (x.z1 < x.z0) = false := decide_eq_false g1
          by_cases g2 : (n : Int) < x.z1
          · have d2 : decide ((n : Int) < x.z1) = true := by simpa using g2
            go_wp2_with fail
            go_ret
            exact ⟨rfl, hB.alloc hB.size _⟩
          · have d2 : decide ((n : Int) < x.z1) = false := decide_eq_false g2
            by_cases g3 : x.z2 < 0
            · have d3 : decide (x.z2 < 0) = true := by simpa using g3
              go_wp2_with fail
              go_ret
              exact ⟨rfl, hB.alloc hB.size _⟩
            · have d3 : decide (x.z2 < 0) = false := decide_eq_false g3
              by_cases g4 : x.z3 < x.z2
              · have d4 : decide (x.z3 < x.z2) = true := by simpa using g4
                go_wp2_with fail
                go_ret
                exact ⟨rfl, hB.alloc hB.size _⟩
              · have d4 : decide (x.z3 < x.z2) = false := decide_eq_false g4
                by_cases g5 : (m : Int) < x.z3
                · have d5 : decide ((m : Int) < x.z3) = true := by simpa using g5
                  go_wp2_with fail
                  go_ret
                  exact ⟨rfl, hB.alloc hB.size _⟩
                · have d5 : decide ((m : Int) < x.z3) = false := decide_eq_false g5
                  have HD2 : Hid (¬ FitZ n m x.z1 (H.drop (k + 1))) := Lib.hid (fun h => HD.out ⟨fun hb => by unfold Bad at hb; omega, h⟩)
                  go_wp2_with fail
                  go_roundw
                  case rel => exact ⟨k + 1, x.z1, by omega, by go_num, rfl, HD2, hB.alloc hB.size _⟩
                  case measure => simp [intOf]; omega
    · obtain rfl : k = p := by omega
      have hd : H.drop k = [] := List.drop_eq_nil_of_le (Nat.le_of_eq HP.out)
      have := HK.out
      rw [hd] at this
      exact absurd trivial this

set_option maxRecDepth 100000 in
set_option maxHeartbeats 2000000 in
theorem patch_none (A B C : Option Addr) (n m p c d e : Nat) (H : List Hz) (w : World) (hC : Hzs w w.heap.size C e H) (hF : ¬ FitZ n m 0 H) (hp : H.length = p) (hn : n ≤ 1000000) (hm : m ≤ 1000000) (hp2 : p ≤ 2000000) :
    Calls Try.prog 25 #[.slice A n c, .slice B m d, .slice C p e] w (ListOut w 0 []) := by
  have K := Lib.hid (nofit_any A B C n m p c d e H w hC hF hp hn hm hp2)
  clear hC hF hp
  go_enter Try.func25, Try.ntmps25
  go_wp2_with (go_at_call 43; ((with_reducible refine K.out.mono ?_); rintro e' w1 ⟨rfl, hb1⟩))
  go_ret
  exact ⟨none, 0, rfl, Row.empty _ _ _, hb1⟩

/-- the outcome of ref.Patch -/
def RawOut (w : World) (F : Prop) (q : Nat) (P : List ByteArray) (e : Ending) (w' : World) : Prop := ∃ v, e = .returned v ∧ Below w.heap.size w w' ∧ ((F ∧ ∃ A c, v = .slice A q c ∧ Strs w' w'.heap.size A c P) ∨ (¬ F ∧ v = .slice none 0 0))

set_option maxRecDepth 100000 in
set_option maxHeartbeats 8000000 in
theorem refPatch_any (A B C : Option Addr) (a b : List ByteArray) (H : List Hz) (n m p c d e q : Nat) (P : List ByteArray) (w : World) (hA : Strs w w.heap.size A c a) (hB : Strs w w.heap.size B d b) (hC : Hzs w w.heap.size C e H)
    (hn : a.length = n) (hm : b.length = m) (hp : H.length = p) (hn2 : n ≤ 40) (hm2 : m ≤ 40) (hp2 : p ≤ 1048576) (hP : ∀ H', H = H'.map toZ → patchG a b 0 H' = P) (hq : P.length = q) :
    Calls Try.prog 26 #[.slice A n c, .slice B m d, .slice C p e] w (RawOut w (FitZ n m 0 H) q P) := by
  have hcA : n ≤ c := by have := hA.cap; omega
  have hcB : m ≤ d := by have := hB.cap; omega
  have hcC : p ≤ e := by have := hC.2.1; omega
  have HA := Lib.hid hA
  have HB := Lib.hid hB
  have HC := Lib.hid hC
  have HN := Lib.hid hn
  have HM := Lib.hid hm
  have HP := Lib.hid hp
  have HPP := Lib.hid hP
  have HQ := Lib.hid hq
  clear hA hB hC hn hm hp hP hq
  go_enter Try.func26, Try.ntmps26
  go_wp2
  go_loopw [7, 8, 9] (fun v7 v8 v9 wr => ∃ (k dn : Nat) (L : List ByteArray), k ≤ p ∧ dn ≤ n ∧ L.length ≤ 80 * k ∧ v9 = .int .i64 (k : Int) ∧ v7 = .int .i64 (dn : Int) ∧ Hid (FitZ n m 0 H ↔ FitZ n m dn (H.drop k)) ∧ Hid (∀ T, H.drop k = T.map toZ → L ++ patchG a b dn T = P) ∧ Hid (wr.ownsRow w.heap.size 9 1 v8 L.length (strC L)) ∧ Hid (Below w.heap.size w wr)) (fun _ _ v9 _ => p - (intOf v9).toNat)
  case atStart => exact ⟨0, 0, [], Nat.zero_le _, Nat.zero_le _, Nat.zero_le _, rfl, rfl, Lib.hid Iff.rfl, Lib.hid (fun T hT => HPP.out T hT), Lib.hid ⟨rfl, .inl ⟨rfl, rfl⟩⟩, Lib.hid (Below.refl _ _)⟩
  case round =>
    obtain ⟨k, dn, L, hk, hdn, hL, rfl, rfl, HFI, HPA, HO, HBW⟩ := hrel
    have hi0 : (0 : Int) ≤ (k : Int) := Int.natCast_nonneg _
    have hd0 : (0 : Int) ≤ (dn : Int) := Int.natCast_nonneg _
    by_cases hlt : k < p
    · have hi1 : (k : Int) < (p : Int) := by omega
      have hkl : k < H.length := by have := HP.out; omega
      have hfi := HFI.out
      have hpa := HPA.out
      rw [List.drop_eq_getElem_cons hkl] at hfi hpa
      obtain ⟨ad, rfl, q0, q1, q2, q3⟩ := hzs_at (Row.below HC.out HBW.out (Nat.le_refl _)) hkl
      obtain ⟨x, hx⟩ : ∃ x, H[k] = x := ⟨_, rfl⟩
      rw [hx] at q0 q1 q2 q3 hfi hpa
      have HFX := Lib.hid hfi
      have HPX := Lib.hid hpa
      clear hx hfi hpa hkl
      obtain ⟨f, hf⟩ : ∃ f, (dn : Int) = f := ⟨_, rfl⟩
      by_cases g0 : x.z0 < f
      · have d0 : decide (x.z0 < f) = true := by simpa using g0
        have hno : ¬ FitZ n m 0 H := fun h => (HFX.out.1 h).1 (by unfold Bad; omega)
        have HNO := Lib.hid hno
        subst hf
        clear hno
        go_wp2_with fail
        go_ret
        exact ⟨_, rfl, HBW.out.alloc HBW.out.size _, .inr ⟨HNO.out, rfl⟩⟩
      · have d0 : decide (x.z0 < f) = false := decide_eq_false g0
        by_cases g1 : x.z1 < x.z0
        · have d1 : decide (x.z1 < x.z0) = true := by simpa using g1
          have hno : ¬ FitZ n m 0 H := fun h => (HFX.out.1 h).1 (by unfold Bad; omega)
          have HNO := Lib.hid hno
          subst hf
          clear hno
          go_wp2_with fail
          go_ret
          exact ⟨_, rfl, HBW.out.alloc HBW.out.size _, .inr ⟨HNO.out, rfl⟩⟩
        · have d1 : decide (x.z1 < x.z0) = false := decide_eq_false g1
          by_cases g2 : (n : Int) < x.z1
          · have d2 : decide ((n : Int) < x.z1) = true := by simpa using g2
            have hno : ¬ FitZ n m 0 H := fun h => (HFX.out.1 h).1 (by unfold Bad; omega)
            have HNO := Lib.hid hno
            subst hf
            clear hno
            go_wp2_with fail
            go_ret
            exact ⟨_, rfl, HBW.out.alloc HBW.out.size _, .inr ⟨HNO.out, rfl⟩⟩
          · have d2 : decide ((n : Int) < x.z1) = false := decide_eq_false g2
            by_cases g3 : x.z2 < 0
            · have d3 : decide (x.z2 < 0) = true := by simpa using g3
              have hno : ¬ FitZ n m 0 H := fun h => (HFX.out.1 h).1 (by unfold Bad; omega)
              have HNO := Lib.hid hno
              subst hf
              clear hno
              go_wp2_with fail
              go_ret
              exact ⟨_, rfl, HBW.out.alloc HBW.out.size _, .inr ⟨HNO.out, rfl⟩⟩
            · have d3 : decide (x.z2 < 0) = false := decide_eq_false g3
              by_cases g4 : x.z3 < x.z2
              · have d4 : decide (x.z3 < x.z2) = true := by simpa using g4
                have hno : ¬ FitZ n m 0 H := fun h => (HFX.out.1 h).1 (by unfold Bad; omega)
                have HNO := Lib.hid hno
                subst hf
                clear hno
                go_wp2_with fail
                go_ret
                exact ⟨_, rfl, HBW.out.alloc HBW.out.size _, .inr ⟨HNO.out, rfl⟩⟩
              · have d4 : decide (x.z3 < x.z2) = false := decide_eq_false g4
                by_cases g5 : (m : Int) < x.z3
                · have d5 : decide ((m : Int) < x.z3) = true := by simpa using g5
                  have hno : ¬ FitZ n m 0 H := fun h => (HFX.out.1 h).1 (by unfold Bad; omega)
                  have HNO := Lib.hid hno
                  subst hf
                  clear hno
                  go_wp2_with fail
                  go_ret
                  exact ⟨_, rfl, HBW.out.alloc HBW.out.size _, .inr ⟨HNO.out, rfl⟩⟩
                · have d5 : decide ((m : Int) < x.z3) = false := decide_eq_false g5
                  obtain ⟨z0, z1, z2, z3⟩ := x
                  dsimp only at q0 q1 q2 q3 g0 g1 g2 g3 g4 g5 d0 d1 d2 d3 d4 d5 HFX HPX
                  subst hf
                  obtain ⟨a0, rfl⟩ : ∃ a : Nat, z0 = a := ⟨z0.toNat, by omega⟩
                  obtain ⟨a1, rfl⟩ : ∃ a : Nat, z1 = a := ⟨z1.toNat, by omega⟩
                  obtain ⟨b0, rfl⟩ : ∃ a : Nat, z2 = a := ⟨z2.toNat, by omega⟩
                  obtain ⟨b1, rfl⟩ : ∃ a : Nat, z3 = a := ⟨z3.toNat, by omega⟩
                  have hnb : ¬ Bad n m (dn : Int) ⟨a0, a1, b0, b1⟩ := fun h => by unfold Bad at h; dsimp only at h; omega
                  have HFI2 : Hid (FitZ n m 0 H ↔ FitZ n m (a1 : Int) (H.drop (k + 1))) := Lib.hid (HFX.out.trans ⟨fun h => h.2, fun h => ⟨hnb, h⟩⟩)
                  have la := strs_lh A a c dn a0 (by omega) (by rw [HN.out]; omega) (by rw [HN.out]; omega)
                  rw [HN.out] at la
                  obtain ⟨A1, r1, l1, K1⟩ := la
                  have lb := strs_lh B b d b0 b1 (by omega) (by rw [HM.out]; omega) (by rw [HM.out]; omega)
                  rw [HM.out] at lb
                  obtain ⟨B1, r2, l2, K2⟩ := lb
                  have hpn : ∀ T, H.drop (k + 1) = T.map toZ → L ++ ((a.drop dn).take (a0 - dn) ++ ((b.drop b0).take (b1 - b0) ++ patchG a b a1 T)) = P := fun T hT => HPX.out (⟨a0, a1, b0, b1⟩ :: T) (by rw [List.map_cons, ← hT]; rfl)
                  obtain ⟨S1, hS1⟩ : ∃ S, (a.drop dn).take (a0 - dn) = S := ⟨_, rfl⟩
                  obtain ⟨S2, hS2⟩ : ∃ S, (b.drop b0).take (b1 - b0) = S := ⟨_, rfl⟩
                  rw [hS1] at l1 K1 hpn
                  rw [hS2] at l2 K2 hpn
                  have HPA2 : Hid (∀ T, H.drop (k + 1) = T.map toZ → (L ++ S1 ++ S2) ++ patchG a b a1 T = P) := Lib.hid (fun T hT => by rw [← hpn T hT]; simp only [List.append_assoc])
                  have HKA := Lib.hid (fun (W : World) (hW : Below w.heap.size w W) => K1 W w.heap.size (Row.below HA.out hW (Nat.le_refl _)))
                  have HKB := Lib.hid (fun (W : World) (hW : Below w.heap.size w W) => K2 W w.heap.size (Row.below HB.out hW (Nat.le_refl _)))
                  have HL1 := Lib.hid l1
                  have HL2 := Lib.hid l2
                  have i1 : (dn : Int) ≤ (a0 : Int) := by omega
                  have i2 : (a0 : Int) ≤ (n : Int) := by omega
                  have i3 : (b0 : Int) ≤ (b1 : Int) := by omega
                  have i4 : (b1 : Int) ≤ (m : Int) := by omega
                  have s1 : a0 - dn ≤ 40 := by omega
                  have s2 : b1 - b0 ≤ 40 := by omega
                  have ha1n : a1 ≤ n := by omega
                  have hF := Full.new wr 40 [.int .i64 (a0 : Int), .int .i64 (a1 : Int), .int .i64 (b0 : Int), .int .i64 (b1 : Int)]
                  change Full (wr.alloc (.cells #[.int .i64 (a0 : Int), .int .i64 (a1 : Int), .int .i64 (b0 : Int), .int .i64 (b1 : Int)] 40)) _ _ _ at hF
                  have hB1 := HBW.out.alloc HBW.out.size (.cells #[.int .i64 (a0 : Int), .int .i64 (a1 : Int), .int .i64 (b0 : Int), .int .i64 (b1 : Int)] 40)
                  have hO1 := HO.out.alloc (.cells #[.int .i64 (a0 : Int), .int .i64 (a1 : Int), .int .i64 (b0 : Int), .int .i64 (b1 : Int)] 40)
                  obtain ⟨gh, hgh⟩ : ∃ g, wr.heap.size = g := ⟨_, rfl⟩
                  rw [hgh] at hF
                  obtain ⟨W1, hW1⟩ : ∃ W, wr.alloc (.cells #[.int .i64 (a0 : Int), .int .i64 (a1 : Int), .int .i64 (b0 : Int), .int .i64 (b1 : Int)] 40) = W := ⟨_, rfl⟩
                  rw [hW1] at hF hB1 hO1
                  have HF := Lib.hid hF
                  have HB1 := Lib.hid hB1
                  have HO1 := Lib.hid hO1
                  have HW1 := Lib.hid hW1
                  have HGH := Lib.hid hgh
                  clear hnb hpn hS1 hS2 K1 K2 l1 l2 hF hB1 hO1 hW1 hgh
                  go_upto_region 9 with fail
                  rw [HW1.out, HGH.out]
                  have e0 : W1.cell? ⟨gh, 0, none⟩ = some (.int .i64 (a0 : Int)) := HF.out.cell 0
                  clear q0 q1 q2 q3
                  go_upto_region 10 with (at_builtin; refine append_strs rfl _ _ rfl w.heap.size u8 L.length (strC L) rfl HO1.out A1 (a0 - dn) (c - dn) w.heap.size S1 (by rfl) (HKA.out W1 HB1.out) HL1.out (by omega) HB1.out.size ?_; intro v1 w1 ho1 hg1; have hF1 := HF.out.grown hg1 (HF.out.not_row HO1.out (by decide)); have hb1 := HB1.out.grown hg1 HB1.out.size (row_ge HO1.out); have e2 : w1.cell? ⟨gh, 2, none⟩ = some (.int .i64 (b0 : Int)) := hF1.cell 2; have e3 : w1.cell? ⟨gh, 3, none⟩ = some (.int .i64 (b1 : Int)) := hF1.cell 3)
                  have HFF := Lib.hid hF1
                  have HBB := Lib.hid hb1
                  have HOO := Lib.hid ho1
                  clear hF1 hb1 ho1 hg1 e0
                  go_wp2_with (at_builtin; refine append_strs rfl _ _ rfl w.heap.size v1 (L.length + (a0 - dn)) (strC L ++ strC S1) rfl HOO.out B1 (b1 - b0) (d - b0) w.heap.size S2 (by rfl) (HKB.out w1 HBB.out) HL2.out (by omega) HBB.out.size ?_; intro v2 w2 ho2 hg2; have hF2 := HFF.out.grown hg2 (HFF.out.not_row HOO.out (by decide)); have hb2 := HBB.out.grown hg2 HBB.out.size (row_ge HOO.out); have e1 : w2.cell? ⟨gh, 1, none⟩ = some (.int .i64 (a1 : Int)) := hF2.cell 1)
                  go_roundw
                  case rel =>
                    exact ⟨k + 1, a1, L ++ S1 ++ S2, by omega, ha1n, by rw [List.length_append, List.length_append, HL1.out, HL2.out]; omega, by go_num, rfl, HFI2, HPA2, Lib.hid (own_eq ho2 rfl (by rw [List.length_append, List.length_append, HL1.out, HL2.out]) (by rw [strC_apd, strC_apd])), Lib.hid hb2⟩
                  case measure => simp [intOf]; omega
    · obtain rfl : k = p := by omega
      have hdr : H.drop k = [] := List.drop_eq_nil_of_le (Nat.le_of_eq HP.out)
      have hfit : FitZ n m 0 H := by
        refine HFI.out.2 ?_
        rw [hdr]
        trivial
      have hpe := HPA.out [] (by rw [hdr]; rfl)
      rw [patchG] at hpe
      have la := strs_l A a c dn (by rw [HN.out]; exact hdn) (by rw [HN.out]; omega)
      rw [HN.out] at la
      obtain ⟨A1, r1, l1, K1⟩ := la
      obtain ⟨S1, hS1⟩ : ∃ S, a.drop dn = S := ⟨_, rfl⟩
      rw [hS1] at l1 K1 hpe
      have HKA := Lib.hid (fun (W : World) (hW : Below w.heap.size w W) => K1 W w.heap.size (Row.below HA.out hW (Nat.le_refl _)))
      have HL1 := Lib.hid l1
      have HPE := Lib.hid hpe
      have HFT := Lib.hid hfit
      have i1 : (dn : Int) ≤ (n : Int) := by omega
      clear hdr hfit hpe hS1 K1 l1
      go_wp2_with (at_builtin; refine append_strs rfl _ _ rfl w.heap.size u8 L.length (strC L) rfl HO.out A1 (n - dn) (c - dn) w.heap.size S1 (by rfl) (HKA.out wr HBW.out) HL1.out (by omega) HBW.out.size ?_; intro v1 w1 ho1 hg1)
      obtain ⟨A9, c9, rfl, hS9⟩ := strs_own (q := q) (L := P) (by rw [← HPE.out, strC_apd]; exact ho1) HQ.out
      go_ret
      exact ⟨_, rfl, HBW.out.grown hg1 HBW.out.size (row_ge HO.out), .inl ⟨HFT.out, A9, c9, rfl, hS9⟩⟩
end Go.Proofs.Ytmeoannheomdoaa
