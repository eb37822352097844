/- Texts of lines that differ. -/
import Derived.Test.YtmeoannheomdoaaApartMath
import Derived.Test.YtmeoannheomdoaaLaw
import Derived.Lib.IndexBytes
namespace Go.Proofs.Ytmeoannheomdoaa
open Go.RowKit

def lineN (k : Nat) : ByteArray := (⟨#[108, 105, 110, 101, 32]⟩ ++ str [UInt8.ofNat (48 + k / 10), UInt8.ofNat (48 + k % 10)]) ++ ⟨#[10]⟩
def numL (n : Nat) : List ByteArray := (List.range n).map lineN
theorem numL_len (n : Nat) : (numL n).length = n := by unfold numL; simp
theorem numL_at (n k : Nat) (h : k < (numL n).length) : (numL n)[k] = lineN k := by simp [numL]
theorem bytes_two (w : World) (b c : Nat) (x y : UInt8) (h0 : w.cell? ⟨b, 0, none⟩ = some (.int .u8 (x.toNat : Int))) (h1 : w.cell? ⟨b, 1, none⟩ = some (.int .u8 (y.toNat : Int))) :
    (convert 83 9 (.slice (some ⟨b, 0, none⟩) 2 c)).run Try.prog w = .ok (.string (str [x, y])) w := by
  refine run_convert_bytes_back w 83 9 5 ⟨b, 0, none⟩ c [x, y] Try.underlying83 Try.underlying5 Try.underlying9 fun j hj => ?_
  have hj : j < 2 := hj
  rcases (show j = 0 ∨ j = 1 by omega) with rfl | rfl
  · exact h0
  · exact h1
theorem lineN_data : ∀ k, k < 100 → (lineN k).data.toList = [108, 105, 110, 101, 32, UInt8.ofNat (48 + k / 10), UInt8.ofNat (48 + k % 10)] ++ [10] := by
  intro k _
  unfold lineN
  rw [app_data, app_data]
  rfl
theorem lineN_line (k : Nat) (h : k < 100) : IsLine (lineN k) := by
  refine ⟨_, lineN_data k h, ?_⟩
  intro hm
  have h1 : (UInt8.ofNat (48 + k / 10)).toNat = 48 + k / 10 := by rw [UInt8.toNat_ofNat']; omega
  have h2 : (UInt8.ofNat (48 + k % 10)).toNat = 48 + k % 10 := by rw [UInt8.toNat_ofNat']; omega
  have hne : ∀ u : UInt8, u.toNat ≠ 10 → ¬ (10 : UInt8) = u := by rintro _ hu rfl; exact hu rfl
  simp only [List.mem_cons, List.not_mem_nil, or_false] at hm
  rcases hm with h | h | h | h | h | h | h
  · exact absurd h (by decide)
  · exact absurd h (by decide)
  · exact absurd h (by decide)
  · exact absurd h (by decide)
  · exact absurd h (by decide)
  · exact hne _ (by omega) h
  · exact hne _ (by omega) h
theorem lineN_inj {j k : Nat} (hj : j < 100) (hk : k < 100) (h : lineN j = lineN k) : j = k := by
  have e := congrArg (fun s : ByteArray => s.data.toList) h
  rw [lineN_data j hj, lineN_data k hk] at e
  simp only [List.cons_append, List.nil_append, List.cons.injEq, and_true, true_and] at e
  have h1 : (UInt8.ofNat (48 + j / 10)).toNat = 48 + j / 10 := by rw [UInt8.toNat_ofNat']; omega
  have h2 : (UInt8.ofNat (48 + j % 10)).toNat = 48 + j % 10 := by rw [UInt8.toNat_ofNat']; omega
  have h3 : (UInt8.ofNat (48 + k / 10)).toNat = 48 + k / 10 := by rw [UInt8.toNat_ofNat']; omega
  have h4 : (UInt8.ofNat (48 + k % 10)).toNat = 48 + k % 10 := by rw [UInt8.toNat_ofNat']; omega
  have e1 := congrArg UInt8.toNat e.1
  have e2 := congrArg UInt8.toNat e.2
  omega
theorem lineN_size (k : Nat) (h : k < 100) : (lineN k).size = 8 := by
  rw [← data_len, lineN_data k h]; rfl
theorem numL_lines (n : Nat) (hn : n ≤ 99) : ∀ x ∈ numL n, IsLine x := by
  intro x hx
  unfold numL at hx
  obtain ⟨k, hk, rfl⟩ := List.mem_map.1 hx
  have := List.mem_range.1 hk
  exact lineN_line k (by omega)
theorem numL_size (n : Nat) (hn : n ≤ 99) : ∀ x ∈ numL n, x.size = 8 := by
  intro x hx
  unfold numL at hx
  obtain ⟨k, hk, rfl⟩ := List.mem_map.1 hx
  have := List.mem_range.1 hk
  exact lineN_size k (by omega)

set_option maxRecDepth 100000 in
set_option maxHeartbeats 2000000 in
theorem numbered_any (n : Nat) (w : World) (hn : n ≤ 99) : Calls Try.prog 32 #[.int .i64 n] w (StrsOut w (numL n)) := by
  obtain ⟨R, HR⟩ : ∃ R, Hid (numL n = R) := ⟨_, Lib.hid rfl⟩
  rw [HR.out]
  obtain ⟨i9, hi, hz0, hz1, hz2⟩ := info_parts info9
  go_enter Try.func32, Try.ntmps32
  go_wp2
  go_loopw [3, 4] (fun v3 v4 wr => ∃ (k m : Nat) (L : List ByteArray) (A : Option Addr) (c : Nat), k ≤ n ∧ m ≤ k ∧ v4 = .int .i64 k ∧ v3 = .slice A m c ∧ wr.ownsRow w.heap.size 9 1 (.slice A m c) m (strC L) ∧
      Hid (L = numL k) ∧ Below w.heap.size w wr) (fun _ v4 _ => n - (intOf v4).toNat)
  case atStart => exact ⟨0, 0, [], none, 0, by omega, by omega, rfl, rfl, World.ownsRow_nil _ _ _ _, Lib.hid rfl, Below.refl _ _⟩
  case round =>
    obtain ⟨k, m, L, A, c, hk, hm, rfl, rfl, hown, HL, hB⟩ := hrel
    have hi0 : (0 : Int) ≤ (k : Int) := Int.natCast_nonneg _
    by_cases hlt : k < n
    · have hi1 : (k : Int) < (n : Int) := by omega
      obtain ⟨p, hp⟩ : ∃ p : Nat, k / 10 = p := ⟨_, rfl⟩
      obtain ⟨q, hq⟩ : ∃ q : Nat, k % 10 = q := ⟨_, rfl⟩
      have hp9 : p ≤ 9 := by omega
      have hq9 : q ≤ 9 := by omega
      have hpI : (k : Int) / 10 = (p : Int) := by omega
      have hqI : (k : Int) % 10 = (q : Int) := by omega
      have h1 : (UInt8.ofNat (48 + p)).toNat = 48 + p := by rw [UInt8.toNat_ofNat']; omega
      have h2 : (UInt8.ofNat (48 + q)).toNat = 48 + q := by rw [UInt8.toNat_ofNat']; omega
      have hF := Full.new wr 5 [.int .u8 (48 + (p : Int)), .int .u8 (48 + (q : Int))]
      have hcv := bytes_two (wr.alloc (.cells #[.int .u8 (48 + (p : Int)), .int .u8 (48 + (q : Int))] 5)) wr.heap.size 2 (UInt8.ofNat (48 + p)) (UInt8.ofNat (48 + q)) (by rw [h1]; exact hF.cell 0) (by rw [h2]; exact hF.cell 1)
      obtain ⟨sB, hsB⟩ : ∃ s, str [UInt8.ofNat (48 + p), UInt8.ofNat (48 + q)] = s := ⟨_, rfl⟩
      rw [hsB] at hcv
      have hsz : sB.size = 2 := by rw [← hsB]; rfl
      obtain ⟨n0, hn0⟩ : ∃ n0, (⟨#[108, 105, 110, 101, 32]⟩ : ByteArray) ++ sB = n0 := ⟨_, rfl⟩
      have hsz0 : n0.size = 7 := by rw [← hn0, ByteArray.size_append, hsz]; rfl
      obtain ⟨nm, hnm⟩ : ∃ nm, n0 ++ (⟨#[10]⟩ : ByteArray) = nm := ⟨_, rfl⟩
      have HNM : Hid (numL (k + 1) = L ++ [nm]) := by
        refine Lib.hid ?_
        have hl : lineN k = nm := by unfold lineN; rw [hp, hq, hsB, hn0, hnm]
        unfold numL
        rw [List.range_succ, List.map_append, HL.out, List.map_singleton, hl]
        rfl
      clear hp hq h1 h2 hF hsB
      go_wp2_with (at_builtin; refine wpList_append_own _ rfl _ _ 23 rfl w.heap.size 9 i9 (.string ⟨#[]⟩) 1 16 Try.underlying23 hi hz0 hz1 hz2 rfl (by decide) (.slice A m c) _ _ rfl ((hown.alloc _).alloc _) ⟨wr.heap.size + 1, 0, none⟩ 1 1 [.string nm] rfl rfl (by have := cell_one_new (wr.alloc (.cells #[.int .u8 (48 + (p : Int)), .int .u8 (48 + (q : Int))] 5)) (.string nm) 9; rw [World.size_alloc] at this; exact this) (by simp [Value.oneCell']) (by unfold maxLen; omega) (by omega) (by have := hB.size; simp; omega) ?_; intro v' w3 hown3 hgrow3 _; obtain ⟨g', cap', rfl⟩ := ownsRow_succ hown3)
      go_roundw
      case rel =>
        refine ⟨k + 1, m + 1, L ++ [nm], _, cap', by omega, by omega, by go_num, rfl, ?_, Lib.hid HNM.out.symm, ((hB.alloc hB.size _).alloc (by have := hB.size; simp; omega) _).grown hgrow3 (by have := hB.size; simp; omega) (row_ge hown)⟩
        rw [strC_snoc]; exact hown3
      case measure => simp [intOf]; omega
    · obtain rfl : k = n := by omega
      have hR : L = R := HL.out.trans HR.out
      have hn2 : m = R.length := by rw [← hR]; exact (Strs.own hown).1
      subst hR
      have HN := Lib.hid hn2
      clear hn2 HL
      go_wp2
      go_ret
      exact ⟨A, c, by rw [← HN.out]; rfl, by rw [← HN.out]; exact hown, hB⟩
end Go.Proofs.Ytmeoannheomdoaa
