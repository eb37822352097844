/- some: a list of at most 41 strings of at most 700 bytes. -/
import Derived.Deep.RegionHeld3
import Derived.Deep.AppendLies
import Derived.Deep.OwnRows
import Derived.Test.YtdbhmoadngclgaaSane
import Derived.Test.YtdbhmoadngclgaaLaw
namespace Go.Proofs.Ytdbhmoadngclgaa
open Go.ChangeShapes Go.WideShapes Go.ChangeAt Go.RowKit

def ListOut (w : World) (e : Ending) (w' : World) : Prop :=
  ∃ (A : Option Addr) (n c : Nat) (L : List ByteArray), e = .returned (.slice A n c) ∧ w'.ownsRow w.heap.size 9 1 (.slice A n c) n (L.map Value.string) ∧ n = L.length ∧ n ≤ 41 ∧ n ≤ c ∧ (∀ s ∈ L, s.size ≤ 700) ∧ Below w.heap.size w w'

theorem own_cap {w : World} {base n c : Nat} {A : Option Addr} {e : TypeId} {xs : List Value} (h : w.ownsRow base e 1 (.slice A n c) n xs) : n ≤ c := by
  rcases h.2 with ⟨h, h0⟩ | ⟨g, cap, cur, h, _, _, hle, _⟩
  · omega
  · injection h with _ _ h3
    omega

/-- string(make([]byte, m)). -/
theorem zero_string (W : World) (m : Nat) : (convert 27 9 (.slice (some ⟨W.heap.size, 0, none⟩) m m)).run Try.prog (W.alloc (.cells (madeCells #[.int .u8 0] m) 5)) = .ok (.string (str (List.replicate m 0))) (W.alloc (.cells (madeCells #[.int .u8 0] m) 5)) := by
  have h := run_convert_bytes_back (P := Try.prog) (W.alloc (.cells (madeCells #[.int .u8 0] m) 5)) 27 9 5 ⟨W.heap.size, 0, none⟩ m (List.replicate m 0) Try.underlying27 Try.underlying5 Try.underlying9 fun j hj => by
    have hj' : j < m := by simpa using hj
    have ha : (⟨W.heap.size, 0, none⟩ : Addr).add j = ⟨W.heap.size, j, none⟩ := by rw [Addr.add_lit, Nat.zero_add]
    rw [ha]
    have hc := World.cell?_alloc_mark W (madeCells #[.int .u8 0] m) 5 (0, 0) j
    refine hc.trans ?_
    rw [← Array.getElem?_toList, toList_madeCells_one]
    simp [List.getElem?_replicate, hj']
  rwa [List.length_replicate] at h

set_option maxRecDepth 100000 in
set_option maxHeartbeats 1000000 in
theorem some_any (A0 : Option Addr) (l : List ByteArray) (c0 : Nat) (many : Int) (w : World) (hS : Strs w w.heap.size A0 l) (hc0 : l.length ≤ c0) (hl : l.length ≤ maxLen) (hz : ∀ s ∈ l, s.size ≤ maxLen)
    (hm : -9223372036854775808 ≤ many ∧ many ≤ 9223372036854775807) :
    Calls Try.prog 26 #[.slice A0 l.length c0, .int .i64 many] w (ListOut w) := by
  unfold maxLen at hl
  obtain ⟨i9, hi, hz0, hz1, hz2⟩ := info_parts info9
  go_enter Try.func26, Try.ntmps26
  go_wp2
  go_loopw [5, 6] (fun v i wr => ∃ (k n c : Nat) (A : Option Addr) (L : List ByteArray), k ≤ l.length ∧ k ≤ 40 ∧ i = .int .i64 k ∧ v = .slice A n c ∧ wr.ownsRow w.heap.size 9 1 (.slice A n c) n (L.map Value.string) ∧
      Hid (n = L.length) ∧ n ≤ k ∧ Hid (∀ s ∈ L, s.size ≤ 700) ∧ Below w.heap.size w wr) (fun _ i _ => l.length - (intOf i).toNat)
  case atStart => exact ⟨0, 0, 0, none, [], by omega, by omega, rfl, rfl, World.ownsRow_nil _ _ _ _, Lib.hid rfl, by omega, Lib.hid (fun s hs => by simp at hs), Below.refl _ _⟩
  case round =>
    obtain ⟨k, n, c, A, L, hk, hk40, rfl, rfl, hown, HN, hnk, HL, hB⟩ := hrel
    by_cases hlt : k < l.length ∧ k < 40
    · obtain ⟨hlt, hlt40⟩ := hlt
      have hls : l[k]? = some l[k] := List.getElem?_eq_getElem hlt
      obtain ⟨s, hs⟩ : ∃ s, s = l[k] := ⟨_, rfl⟩
      rw [← hs] at hls
      obtain ⟨ad, rfl, hlt2, hcell0⟩ := hS k s hls
      have hcell : wr.cell? (ad.add k) = some (.string s) := (hB.cell (p := ad.add k) (by rw [add_block]; exact hlt2)).trans hcell0
      have hsz : s.size ≤ maxLen := hz s (by rw [hs]; exact List.getElem_mem _)
      unfold maxLen at hsz
      clear hls hs hcell0
      have hi0 : (0 : Int) ≤ (k : Int) := Int.natCast_nonneg _
      have hi1 : (k : Int) < (l.length : Int) := by omega
      have habk : (ad.add k).block < wr.heap.size := by rw [add_block]; have := hB.size; omega
      have hne : some (ad.add k).block ≠ (Value.slice A n c).ownBlock := fun e => by
        have := row_ge hown _ e.symm
        rw [add_block] at this
        omega
      have hrg := row_ge hown
      have HRG := Lib.hid hrg
      clear hrg
      have hnn : (0 : Int) ≤ (s.size : Int) := Int.natCast_nonneg _
      by_cases h150 : s.size ≤ 150
      · have h150i : (s.size : Int) ≤ 150 := by omega
        have h150j : ¬ (150 : Int) < (s.size : Int) := by omega
        have hif : (if (150 : Int) < (s.size : Int) then (150 : Int) else (s.size : Int)) = (s.size : Int) := if_neg h150j
        have hle : (s.size : Int) ≤ (s.size : Int) := Int.le_refl _
        go_wp2_with fail
        go_region_held3 (fun w' => w'.cell? (ad.add k) = some (.string s))
          (first | go_keep | (go_split_ands; (rw [hgrow.cell_far _ (by simp; omega) hne]; assumption)))
          ((refine step_append_lies _ (by rfl) _ _ _ (by rfl) w.heap.size 9 i9 _ 1 16 Try.underlying43 hi hz0 hz1 hz2 rfl (by omega) (.slice A n c) n _ (by rfl) ((hown.alloc _).drew) ⟨wr.heap.size, 0, none⟩ 1 1 [.string s] (by rfl) (by rfl) (World.news_of_block (cs := #[.string s]) (t := 9) (fr := (0, 0)) (heap_alloc_new wr _)) (by simp [Value.oneCell']) (by omega) (by unfold maxLen; omega) (by omega) (by simp; have := hB.size; omega) (wr.heap.size + 1) (by simp) ?_; intro gg cap w1 hown1 hgrow hat hlt))
        go_wp2
        go_roundw
        case rel =>
          refine ⟨k + 1, n + 1, cap, _, L ++ [s], by omega, by omega, by go_num, rfl, by simpa using hown1, Lib.hid (by rw [List.length_append, HN.out]; rfl), by omega, Lib.hid (fun x hx => ?_), ((hB.alloc hB.size _).drew).grown hgrow (by have := hB.size; simp; omega) HRG.out⟩
          rcases List.mem_append.1 hx with h | h
          · exact HL.out x h
          · obtain rfl : x = s := by simpa using h
            omega
        case measure => simp [intOf]; omega
      · have h150i : (150 : Int) ≤ (s.size : Int) := by omega
        have h150j : ¬ (s.size : Int) ≤ 150 := by omega
        have h150k : (150 : Int) < (s.size : Int) := by omega
        go_wp2_with fail
        go_region_held3 (fun w' => w'.cell? (ad.add k) = some (.string s))
          (first | go_keep | (go_split_ands; (rw [hgrow.cell_far _ (by simp; omega) hne]; assumption)))
          ((refine step_append_lies _ (by rfl) _ _ _ (by rfl) w.heap.size 9 i9 _ 1 16 Try.underlying43 hi hz0 hz1 hz2 rfl (by omega) (.slice A n c) n _ (by rfl) ((hown.alloc _).drew) ⟨wr.heap.size, 0, none⟩ 1 1 [.string (s.extract 0 150)] (by rfl) (by rfl) (World.news_of_block (cs := #[.string (s.extract 0 150)]) (t := 9) (fr := (0, 0)) (heap_alloc_new wr _)) (by simp [Value.oneCell']) (by omega) (by unfold maxLen; omega) (by omega) (by simp; have := hB.size; omega) (wr.heap.size + 1) (by simp) ?_; intro gg cap w1 hown1 hgrow hat hlt))
        go_wp2
        go_roundw
        case rel =>
          refine ⟨k + 1, n + 1, cap, _, L ++ [s.extract 0 150], by omega, by omega, by go_num, rfl, by simpa using hown1, Lib.hid (by rw [List.length_append, HN.out]; rfl), by omega, Lib.hid (fun x hx => ?_), ((hB.alloc hB.size _).drew).grown hgrow (by have := hB.size; simp; omega) HRG.out⟩
          rcases List.mem_append.1 hx with h | h
          · exact HL.out x h
          · obtain rfl : x = s.extract 0 150 := by simpa using h
            (simp; omega)
        case measure => simp [intOf]; omega
    · have hn40 : n ≤ 40 := by omega
      by_cases hm4 : many.tmod 4 = 0
      · have hm4b : (many.tmod 4 == 0) = true := by simpa using hm4
        obtain ⟨m, HM⟩ : ∃ m : Nat, Hid (many % 700 = (m : Int)) := ⟨(many % 700).toNat, Lib.hid (by have := Int.emod_nonneg many (show (700 : Int) ≠ 0 by omega); omega)⟩
        have hm700 : m < 700 := by have := HM.out; omega
        have hmod := fun W => mod_any many 700 W hm.1 hm.2 (by omega) (by omega)
        rw [HM.out] at hmod
        have hmk := fun W => run_make_row' (P := Try.prog) 27 5 (.int .u8 0) 1 Try.underlying27 info5 rfl .i64 .i64 m (by omega) (by omega) W
        have hzs := fun W => zero_string W m
        obtain ⟨S, HS⟩ : ∃ S, Hid (str (List.replicate m 0) = S) := ⟨_, Lib.hid rfl⟩
        rw [HS.out] at hzs
        have hSz : S.size ≤ 700 := by rw [← HS.out, str_size]; simp; omega
        go_wp2_with (first
          | (go_at_call 16; ((with_reducible refine (hmod _).mono ?_); rintro e w' ⟨rfl, rfl⟩))
          | (at_builtin; refine wpList_append_own _ rfl _ _ 43 rfl w.heap.size 9 i9 (.string ⟨#[]⟩) 1 16 Try.underlying43 hi hz0 hz1 hz2 rfl (by decide) (.slice A n c) _ _ rfl ((hown.alloc _).alloc _) ⟨wr.heap.size + 1, 0, none⟩ 1 1 [.string S] rfl rfl (by have := cell_one_new (wr.alloc (.cells (madeCells #[.int .u8 0] m) 5)) (.string S) 9; rw [World.size_alloc] at this; exact this) (by simp [Value.oneCell']) (by unfold maxLen; omega) (by omega) (by have := hB.size; simp; omega) ?_; intro v' w3 hown3 hgrow3 _; obtain ⟨g', cap', rfl⟩ := ownsRow_succ hown3))
        all_goals
          go_ret
          refine ⟨_, n + 1, cap', L ++ [S], rfl, by simpa using hown3, by rw [List.length_append, HN.out]; rfl, by omega, own_cap hown3, fun x hx => ?_, ((hB.alloc hB.size _).alloc (by have := hB.size; simp; omega) _).grown hgrow3 (by have := hB.size; simp; omega) (row_ge hown)⟩
          rcases List.mem_append.1 hx with h | h
          · exact HL.out x h
          · obtain rfl : x = S := by simpa using h
            exact hSz
      · have hm4b : (many.tmod 4 == 0) = false := by simpa using hm4
        go_wp2
        all_goals
          go_ret
          exact ⟨A, n, c, L, rfl, hown, HN.out, by omega, own_cap hown, HL.out, hB⟩

end Go.Proofs.Ytdbhmoadngclgaa
