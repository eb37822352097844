/- ref.Lines, list. -/
import Derived.Test.YtmeoannheomdoaaText
namespace Go.Proofs.Ytmeoannheomdoaa
open Go.RowKit

def intC (zs : List Int) : List Value := zs.map (Value.int .i64 ·)
/-- the slice holds the integers zs -/
def Ints (w : World) (B : Nat) (A : Option Addr) (c : Nat) (zs : List Int) : Prop := Row w B 1 A zs.length c (intC zs)
theorem Ints.at_ {w : World} {B : Nat} {A : Option Addr} {c : Nat} {zs : List Int} (h : Ints w B A c zs) {k : Nat} (hk : k < zs.length) : ∃ ad, A = some ad ∧ ad.block < B ∧ w.cell? (ad.add k) = some (.int .i64 zs[k]) :=
  h.2.2.2 k _ (by unfold intC; rw [List.getElem?_map, List.getElem?_eq_getElem hk]; rfl)
def digitOf (z : Int) : Nat := ((z.tmod 12 + 12).tmod 12).toNat
theorem tmod12 (z : Int) : -12 < z.tmod 12 ∧ z.tmod 12 < 12 := by
  have h1 := Int.tmod_lt_of_pos z (b := 12) (by omega)
  have h2 := Int.lt_tmod_of_pos z (b := 12) (by omega)
  omega
theorem digit_eq (z : Int) : (z.tmod 12 + 12).tmod 12 = (digitOf z : Int) ∧ digitOf z < 12 := by
  have h := tmod12 z
  have h1 := Int.tmod_lt_of_pos (z.tmod 12 + 12) (b := 12) (by omega)
  have h2 := Int.tmod_nonneg (a := z.tmod 12 + 12) 12 (by omega)
  unfold digitOf
  omega
def letters12 : ByteArray := ⟨#[97, 98, 99, 100, 101, 102, 103, 104, 105, 106, 107, 108]⟩
def lineI (z : Int) : ByteArray := letters12.extract (digitOf z) (digitOf z + 1) ++ ⟨#[10]⟩

set_option maxRecDepth 100000 in
set_option maxHeartbeats 200000 in
theorem refLines_any (B : Nat) (A : Option Addr) (zs : List Int) (c : Nat) (w : World) (hA : Ints w B A c zs) (hB : B ≤ w.heap.size) (hl : zs.length ≤ 1048576) : Calls Try.prog 37 #[.slice A zs.length c] w (StrsOut w (zs.map lineI)) := by
  obtain ⟨R, HR⟩ : ∃ R, Hid (zs.map lineI = R) := ⟨_, Lib.hid rfl⟩
  rw [HR.out]
  obtain ⟨i9, hi, hz0, hz1, hz2⟩ := info_parts info9
  have hcap : zs.length ≤ c := hA.2.1
  go_enter Try.func37, Try.ntmps37
  go_wp2
  go_loopw [3, 4] (fun v3 v4 wr => ∃ (k : Nat) (L : List ByteArray) (D : Option Addr) (d : Nat), k ≤ zs.length ∧ L.length ≤ k ∧ v4 = .int .i64 k ∧ v3 = .slice D L.length d ∧ wr.ownsRow w.heap.size 9 1 (.slice D L.length d) L.length (strC L) ∧
      Hid (L = (zs.take k).map lineI) ∧ Below w.heap.size w wr) (fun _ v4 _ => zs.length - (intOf v4).toNat)
  case atStart => exact ⟨0, [], none, 0, by omega, by simp, rfl, rfl, World.ownsRow_nil _ _ _ _, Lib.hid rfl, Below.refl _ _⟩
  case round =>
    obtain ⟨k, L, D, d, hk, hLk, rfl, rfl, hown, HL, hBw⟩ := hrel
    have hi0 : (0 : Int) ≤ (k : Int) := Int.natCast_nonneg _
    by_cases hlt : k < zs.length
    · obtain ⟨ad, rfl, hadB, hca⟩ := (show Ints wr B A c zs from Row.below hA hBw hB).at_ hlt
      have hi1 : (k : Int) < (zs.length : Int) := by omega
      obtain ⟨z, HZ⟩ : ∃ z, Hid (zs[k] = z) := ⟨_, Lib.hid rfl⟩
      rw [HZ.out] at hca
      obtain ⟨hd1, hd2⟩ := digit_eq z
      have ht := tmod12 z
      have e1 : IntKind.i64.wrap (z.tmod 12) = z.tmod 12 := by simp [IntKind.wrap, IntKind.bits, IntKind.signed]; omega
      have e2 : IntKind.i64.wrap (z.tmod 12 + 12) = z.tmod 12 + 12 := by simp [IntKind.wrap, IntKind.bits, IntKind.signed]; omega
      obtain ⟨j, HJ⟩ : ∃ j, Hid (digitOf z = j) := ⟨_, Lib.hid rfl⟩
      rw [HJ.out] at hd1 hd2
      have e3 : IntKind.i64.wrap (j : Int) = (j : Int) := by simp [IntKind.wrap, IntKind.bits, IntKind.signed]; omega
      have hj0 : (0 : Int) ≤ (j : Int) := Int.natCast_nonneg _
      have hj1 : (j : Int) ≤ 12 := by omega
      have hj2 : (j : Int) + 1 ≤ 12 := by omega
      have hj3 : (j : Int) ≤ (j : Int) + 1 := by omega
      have hli : lineI z = (⟨#[97, 98, 99, 100, 101, 102, 103, 104, 105, 106, 107, 108]⟩ : ByteArray).extract j (j + 1) ++ ⟨#[10]⟩ := by unfold lineI letters12; rw [HJ.out]
      obtain ⟨t, HTT⟩ : ∃ t, Hid ((⟨#[97, 98, 99, 100, 101, 102, 103, 104, 105, 106, 107, 108]⟩ : ByteArray).extract j (j + 1) ++ ⟨#[10]⟩ = t) := ⟨_, Lib.hid rfl⟩
      rw [HTT.out] at hli
      have HLI := Lib.hid hli
      have hsub := HTT.out
      clear hli
      go_wp2_with (at_builtin; refine wpList_append_own _ rfl _ _ 23 rfl w.heap.size 9 i9 (.string ⟨#[]⟩) 1 16 Try.underlying23 hi hz0 hz1 hz2 rfl (by decide) (.slice D L.length d) _ _ rfl (hown.alloc _) ⟨wr.heap.size, 0, none⟩ 1 1 [.string t] rfl rfl (cell_one_new _ _ _) (by simp [Value.oneCell']) (by unfold maxLen; omega) (by omega) (by have := hBw.size; simp; omega) ?_; intro v' w3 hown3 hgrow3 _; obtain ⟨g', cap', rfl⟩ := ownsRow_succ hown3)
      go_roundw
      case rel =>
        refine ⟨k + 1, L ++ [lineI z], _, cap', by omega, by simp; omega, by go_num, by rw [List.length_append]; rfl, ?_, Lib.hid ?_, (hBw.alloc hBw.size _).grown hgrow3 (by have := hBw.size; simp; omega) (row_ge hown)⟩
        · rw [strC_snoc, List.length_append, HLI.out]; exact hown3
        · rw [List.take_succ_eq_append_getElem hlt, List.map_append, ← HL.out, HZ.out]; rfl
      case measure => simp [intOf]; omega
    · obtain rfl : k = zs.length := by omega
      have hR : L = R := by rw [HL.out, List.take_length]; exact HR.out
      subst hR
      go_wp2
      go_ret
      exact ⟨D, d, rfl, hown, hBw⟩

/-- the list of the numbers -/
def listL (zs : List Int) : List ByteArray := (zs.take 40).map lineI
theorem listL_len (zs : List Int) : (listL zs).length ≤ 40 := by unfold listL; simp; omega
theorem Ints.take {w : World} {B : Nat} {A : Option Addr} {c : Nat} {zs : List Int} (k : Nat) (hk : k ≤ zs.length) (h : Ints w B A c zs) : ∃ A', (∀ W, (Instr.slice 28 (.slice A zs.length c) none (some (.int .i64 (k : Int))) none).run Try.prog W = .ok (.slice A' k c) W) ∧ Ints w B A' c (zs.take k) := by
  obtain ⟨A', h1, h2⟩ := cut_h 28 3 1 Try.underlying28 (fun _ => by kernel_rfl) A zs.length c k hk h.2.1
  refine ⟨A', h1, ?_⟩
  have := h2 w B _ h
  unfold Ints intC
  rw [List.length_take, Nat.min_eq_left hk, List.map_take, ← Nat.mul_one k]
  simpa [intC] using this

set_option maxRecDepth 100000 in
set_option maxHeartbeats 1000000 in
theorem list_any (B : Nat) (A : Option Addr) (zs : List Int) (c : Nat) (w : World) (hA : Ints w B A c zs) (hB : B ≤ w.heap.size) (hn : zs.length ≤ maxLen) : Calls Try.prog 20 #[.slice A zs.length c] w (StrsOut w (listL zs)) := by
  unfold maxLen at hn
  have hcap : zs.length ≤ c := hA.2.1
  obtain ⟨m, hm⟩ : ∃ m, min zs.length 40 = m := ⟨_, rfl⟩
  have hm1 : m ≤ zs.length := by omega
  have hm2 : m ≤ 40 := by omega
  obtain ⟨A', hcut, hA'⟩ := hA.take m hm1
  have hlm : (zs.take m).length = m := by rw [List.length_take]; omega
  have hc := fun W (h : Ints W B A' c (zs.take m)) (hB' : B ≤ W.heap.size) => refLines_any B A' (zs.take m) c W h hB' (by omega)
  rw [hlm] at hc
  have hlist : (zs.take m).map lineI = listL zs := by
    unfold listL
    congr 1
    rw [← hm]
    rcases Nat.le_total zs.length 40 with h | h
    · rw [Nat.min_eq_left h, List.take_length, List.take_of_length_le h]
    · rw [Nat.min_eq_right h]
  rw [hlist] at hc
  have hmi : (if (40 : Int) < (zs.length : Int) then (40 : Int) else (zs.length : Int)) = (m : Int) := by split <;> omega
  have hmi2 : (if 40 < zs.length then (40 : Int) else (zs.length : Int)) = (m : Int) := by split <;> omega
  have hmi3 : (if zs.length ≤ 40 then (zs.length : Int) else (40 : Int)) = (m : Int) := by split <;> omega
  have hmn : min (zs.length : Int) 40 = (m : Int) := by omega
  have HC := Lib.hid (hc w hA' hB)
  clear hm hlist hlm hc
  go_enter Try.func20, Try.ntmps20
  go_wp2_with (go_at_call 37; ((with_reducible refine HC.out.mono ?_); rintro e w1 ⟨D, d, rfl, ho, hb⟩))
  go_ret
  exact ⟨D, d, rfl, ho, hb⟩

end Go.Proofs.Ytmeoannheomdoaa
