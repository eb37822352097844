/- Hunks that fit: fit, patchedSize; what Patch makes of them. -/
import Derived.Test.YtmeoannheomdoaaSidesMath
import Derived.Test.YtmeoannheomdoaaSame
import Derived.Test.YtmeoannheomdoaaMerge
import Derived.Test.YtmeoannheomdoaaSane
namespace Go.Proofs.Ytmeoannheomdoaa
open Go.RowKit

/-- From the line done on, the hunks fit lists of n and m lines. -/
def FitL (n m : Nat) : Nat → List Hk → Prop
  | d, [] => d ≤ n
  | d, h :: t => d ≤ h.a0 ∧ h.a0 ≤ h.a1 ∧ h.a1 ≤ n ∧ h.b0 ≤ h.b1 ∧ h.b1 ≤ m ∧ FitL n m h.a1 t
def patchG {α : Type} (a b : List α) : Nat → List Hk → List α
  | d, [] => a.drop d
  | d, h :: t => (a.drop d).take (h.a0 - d) ++ ((b.drop h.b0).take (h.b1 - h.b0) ++ patchG a b h.a1 t)
theorem Ok.fit : ∀ {H : List Hk} {n m i j d : Nat}, Ok n m i j H → d ≤ i → FitL n m d H
  | [], _, _, _, _, _, h, hd => Nat.le_trans hd h.1
  | _ :: _, _, _, _, _, _, h, hd => ⟨Nat.le_trans hd h.1, h.2.2.1, h.2.2.2.2.2.1, h.2.2.2.1, h.2.2.2.2.2.2.1, Ok.fit h.2.2.2.2.2.2.2.2 (Nat.le_refl _)⟩
theorem diff_fit {α : Type} [DecidableEq α] (a b : List α) : FitL a.length b.length 0 (diff a b) := (diff_ok a b).fit (Nat.le_refl _)
/-- what Patch makes of the hunks of a difference -/
theorem patch_fits {α : Type} (a b : List α) : ∀ (H : List Hk) (i j : Nat), Fits a b i j H → patchG a b i H = b.drop j
  | [], _, _, h => h
  | x :: t, i, j, h => by
    obtain ⟨h1, h2, h3, h4, h5, h6, h7, h8⟩ := h
    rw [patchG, patch_fits a b t _ _ h8, h3]
    have e1 : (b.drop x.b0).take (x.b1 - x.b0) ++ b.drop x.b1 = b.drop x.b0 := by
      have := List.take_append_drop (x.b1 - x.b0) (b.drop x.b0)
      rwa [List.drop_drop, show x.b0 + (x.b1 - x.b0) = x.b1 by omega] at this
    have e2 : (b.drop j).take (x.b0 - j) ++ b.drop x.b0 = b.drop j := by
      have := List.take_append_drop (x.b0 - j) (b.drop j)
      rwa [List.drop_drop, show j + (x.b0 - j) = x.b0 by omega] at this
    rw [e1, e2]
theorem patch_diff {α : Type} [DecidableEq α] (a b : List α) : patchG a b 0 (diff a b) = b := by
  rw [patch_fits a b _ 0 0 (diff_fits0 a b)]; rfl
theorem FitL.le : ∀ {H : List Hk} {n m d : Nat}, FitL n m d H → d ≤ n
  | [], _, _, _, h => h
  | _ :: _, _, _, _, h => by obtain ⟨h1, h2, h3, _⟩ := h; omega
theorem fit_step {n m d k : Nat} {H : List Hk} (h : FitL n m d (H.drop k)) (hk : k < H.length) : d ≤ H[k].a0 ∧ H[k].a0 ≤ H[k].a1 ∧ H[k].a1 ≤ n ∧ H[k].b0 ≤ H[k].b1 ∧ H[k].b1 ≤ m ∧ FitL n m H[k].a1 (H.drop (k + 1)) := by
  rw [List.drop_eq_getElem_cons hk] at h
  exact h
set_option maxRecDepth 100000 in
set_option maxHeartbeats 2000000 in
theorem fit_any (A B C : Option Addr) (n m p c d e : Nat) (H : List Hk) (w : World) (hC : Hks w w.heap.size C e H) (hF : FitL n m 0 H) (hp : H.length = p) (hn : n ≤ 1000000) (hm : m ≤ 1000000) (hp2 : p ≤ 1000000) :
    Calls Try.prog 43 #[.slice A n c, .slice B m d, .slice C p e] w (BoolB w true) := by
  have hcap : p ≤ e := by have := hC.cap; omega
  have HC := Lib.hid hC
  have HP := Lib.hid hp
  have HF := Lib.hid hF
  clear hC hp hF
  go_enter Try.func43, Try.ntmps43
  go_wp2
  go_loopw [7, 12] (fun v7 v12 wr => ∃ (k f : Nat), k ≤ p ∧ v12 = .int .i64 (k : Int) ∧ v7 = .int .i64 (f : Int) ∧ Hid (FitL n m f (H.drop k)) ∧ Below w.heap.size w wr) (fun _ v12 _ => p - (intOf v12).toNat)
  case atStart => exact ⟨0, 0, by omega, rfl, rfl, Lib.hid HF.out, Below.refl _ _⟩
  case round =>
    obtain ⟨k, f, hk, rfl, rfl, HK, hB⟩ := hrel
    have hi0 : (0 : Int) ≤ (k : Int) := Int.natCast_nonneg _
    by_cases hlt : k < p
    · have hi1 : (k : Int) < (p : Int) := by omega
      have hkl : k < H.length := by have := HP.out; omega
      obtain ⟨s1, s2, s3, s4, s5, s6⟩ := fit_step HK.out hkl
      obtain ⟨ad, rfl, q0, q1, q2, q3⟩ := hks_at (Row.below HC.out hB (Nat.le_refl _)) hkl
      obtain ⟨x, hx⟩ : ∃ x, H[k] = x := ⟨_, rfl⟩
      rw [hx] at s1 s2 s3 s4 s5 s6 q0 q1 q2 q3
      have HS := Lib.hid s6
      have g1 : ¬ (x.a0 : Int) < (f : Int) := by omega
      have g2 : ¬ (x.a1 : Int) < (x.a0 : Int) := by omega
      have g3 : ¬ (n : Int) < (x.a1 : Int) := by omega
      have g4 : ¬ (x.b0 : Int) < 0 := by omega
      have g5 : ¬ (x.b1 : Int) < (x.b0 : Int) := by omega
      have g6 : ¬ (m : Int) < (x.b1 : Int) := by omega
      clear s6 hx
      go_wp2
      go_roundw
      case rel => exact ⟨k + 1, x.a1, by omega, by go_num, rfl, HS, hB.alloc hB.size _⟩
      case measure => simp [intOf]; omega
    · obtain rfl : k = p := by omega
      go_wp2
      go_ret
      exact ⟨rfl, hB⟩

theorem patch_len {α : Type} (a b : List α) : ∀ (H : List Hk) (d : Nat), FitL a.length b.length d H → ∀ h t, H = h :: t → (patchG a b d H).length = (h.a0 - d) + (h.b1 - h.b0) + (patchG a b h.a1 t).length
  := by
  intro H d hF h t e
  subst e
  obtain ⟨h1, h2, h3, h4, h5, h6⟩ := hF
  rw [patchG]
  simp only [List.length_append, List.length_take, List.length_drop]
  omega
/-- a bound -/
theorem patch_small {α : Type} (a b : List α) (M : Nat) (hb : b.length ≤ M) : ∀ (H : List Hk) (d : Nat), FitL a.length b.length d H → (patchG a b d H).length ≤ a.length - d + H.length * M
  | [], d, _ => by simp [patchG]
  | h :: t, d, hF => by
    have := patch_len a b (h :: t) d hF h t rfl
    obtain ⟨h1, h2, h3, h4, h5, h6⟩ := hF
    have ih := patch_small a b M hb t h.a1 h6
    rw [this, List.length_cons, Nat.succ_mul]
    omega
set_option maxRecDepth 100000 in
set_option maxHeartbeats 2000000 in
theorem size_any (a b : List ByteArray) (C : Option Addr) (n p e T : Nat) (H : List Hk) (w : World) (hC : Hks w w.heap.size C e H) (hF : FitL a.length b.length 0 H) (hp : H.length = p) (hn : a.length = n) (hT : (patchG a b 0 H).length = T) (hn2 : n ≤ 10000) (hm2 : b.length ≤ 10000) (hp2 : p ≤ 10000) :
    Calls Try.prog 44 #[.int .i64 n, .slice C p e] w fun e' w' => e' = .returned (.int .i64 (T : Int)) ∧ Below w.heap.size w w' := by
  have hcap : p ≤ e := by have := hC.cap; omega
  have hsm := patch_small a b 10000 hm2
  have HC := Lib.hid hC
  have HP := Lib.hid hp
  have H0 : Hid (∃ f, FitL a.length b.length f (H.drop 0) ∧ f ≤ n ∧ n + (patchG a b f (H.drop 0)).length = T + (n - f) ∧ (patchG a b f (H.drop 0)).length ≤ T) := Lib.hid ⟨0, hF, by omega, by show n + (patchG a b 0 H).length = _; omega, Nat.le_of_eq hT⟩
  have hT2 : T ≤ 200000000 := by
    have := hsm H 0 hF
    rw [hT, hp] at this
    have h2 := Nat.mul_le_mul_right 10000 hp2
    omega
  have HSM := Lib.hid hsm
  have HN := Lib.hid hn
  clear hC hp hF hT hsm hn
  go_enter Try.func44, Try.ntmps44
  go_wp2
  go_loopw [0, 9] (fun v0 v9 wr => ∃ (k s : Nat), k ≤ p ∧ s ≤ 400000000 ∧ v9 = .int .i64 (k : Int) ∧ v0 = .int .i64 (s : Int) ∧ Hid (∃ f, FitL a.length b.length f (H.drop k) ∧ f ≤ n ∧ s + (patchG a b f (H.drop k)).length = T + (n - f) ∧ (patchG a b f (H.drop k)).length ≤ T) ∧ Below w.heap.size w wr) (fun _ v9 _ => p - (intOf v9).toNat)
  case atStart => exact ⟨0, n, by omega, by omega, rfl, rfl, H0, Below.refl _ _⟩
  case round =>
    obtain ⟨k, s, hk, hs, rfl, rfl, HK, hB⟩ := hrel
    have hi0 : (0 : Int) ≤ (k : Int) := Int.natCast_nonneg _
    by_cases hlt : k < p
    · have hi1 : (k : Int) < (p : Int) := by omega
      have hkl : k < H.length := by have := HP.out; omega
      obtain ⟨f, hf, hfn, hsum, hRT⟩ := HK.out
      have hl := patch_len a b (H.drop k) f hf H[k] (H.drop (k + 1)) (List.drop_eq_getElem_cons hkl)
      obtain ⟨s1, s2, s3, s4, s5, s6⟩ := fit_step hf hkl
      obtain ⟨ad, rfl, q0, q1, q2, q3⟩ := hks_at (Row.below HC.out hB (Nat.le_refl _)) hkl
      obtain ⟨x, hx⟩ : ∃ x, H[k] = x := ⟨_, rfl⟩
      rw [hx] at s1 s2 s3 s4 s5 s6 q0 q1 q2 q3 hl
      have hnn := HN.out
      have e1 : (s : Int) + ((x.b1 : Int) - (x.b0 : Int) - ((x.a1 : Int) - (x.a0 : Int))) = ((s + (x.b1 - x.b0) - (x.a1 - x.a0) : Nat) : Int) := by omega
      have HNX : Hid (∃ f, FitL a.length b.length f (H.drop (k + 1)) ∧ f ≤ n ∧ s + (x.b1 - x.b0) - (x.a1 - x.a0) + (patchG a b f (H.drop (k + 1))).length = T + (n - f) ∧ (patchG a b f (H.drop (k + 1))).length ≤ T) := Lib.hid ⟨x.a1, s6, by omega, by omega, by omega⟩
      have hs2 : s + (x.b1 - x.b0) - (x.a1 - x.a0) ≤ 400000000 := by omega
      have HE := Lib.hid e1
      have u1 : x.a1 ≤ 10000 := by omega
      have u2 : x.b1 ≤ 10000 := by omega
      clear hl hsum hRT hf s6 hx e1 hnn
      go_wp2
      go_roundw
      case rel => exact ⟨k + 1, s + (x.b1 - x.b0) - (x.a1 - x.a0), by omega, by omega, by go_num, by rw [← HE.out], HNX, hB.alloc hB.size _⟩
      case measure => simp [intOf]; omega
    · obtain rfl : k = p := by omega
      obtain ⟨f, hf, hfn, hsum, hRT⟩ := HK.out
      have hd : H.drop k = [] := List.drop_eq_nil_of_le (by have := HP.out; omega)
      rw [hd, patchG, List.length_drop] at hsum
      have hnn := HN.out
      have hsT : s = T := by omega
      subst hsT
      clear hf hd hsum hnn
      go_wp2
      go_ret
      exact ⟨rfl, hB⟩
end Go.Proofs.Ytmeoannheomdoaa
