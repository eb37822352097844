/- join: the concatenation of the lines. -/
import Derived.Lib.BufferWrite
import Derived.Lib.SlBuf
import Derived.Laws.IdiomStrings
import Derived.Test.YtmeoannheomdoaaSplit
namespace Go.Proofs.Ytmeoannheomdoaa
open Go.RowKit

/-- the bytes of lines, one behind the other -/
def cat (L : List ByteArray) : List UInt8 := L.flatMap (·.data.toList)
theorem cat_snoc (L : List ByteArray) (s : ByteArray) : cat (L ++ [s]) = cat L ++ s.data.toList := by simp [cat]
theorem cat_take {L : List ByteArray} {k : Nat} (hk : k < L.length) : cat (L.take (k + 1)) = cat (L.take k) ++ L[k].data.toList := by
  rw [List.take_succ_eq_append_getElem hk, cat_snoc]
theorem cat_take_le (L : List ByteArray) (k : Nat) : (cat (L.take k)).length ≤ (cat L).length := by
  conv => rhs; rw [← List.take_append_drop k L]
  unfold cat
  rw [List.flatMap_append]
  simp
theorem data_len (s : ByteArray) : s.data.toList.length = s.size := by simp
def enc8 (b : UInt8) : Value := .int .u8 (b.toNat : Int)
theorem info5 : (Try.prog.info? 5).map (fun i => (i.zero, i.size, i.bytes)) = some (some (.int .u8 0), 1, 1) := by kernel_rfl
/-- the bytes that are there; behind them, zeros -/
def bytesTo (l : List UInt8) (n : Nat) : List Value := l.map enc8 ++ List.replicate (n - l.length) (.int .u8 0)
theorem Full.setRow {w : World} {g : Nat} {t : TypeId} {cs : List Value} (h : Full w g t cs) (ds : List Value) : Full (w.setRow g ds.toArray) g t ds := by
  unfold Full at h ⊢
  simp [World.setRow, Array.getElem?_modify, h]
theorem below_setRow (w : World) (g : Nat) (ds : Array Value) (B : Nat) (h : B ≤ g) : Below B w (w.setRow g ds) :=
  ⟨rfl, rfl, rfl, by simp [World.setRow], fun i hi => by simp only [World.setRow, Array.getElem?_modify]; rw [if_neg (by omega)]⟩

theorem copy_str (w : World) (g N f : Nat) (l : List UInt8) (s : ByteArray) (hF : Full w g 5 (bytesTo l N)) (hf : l.length = f) (h : f + s.size ≤ N) (d : Option Addr) (c : Nat) (hd : 0 < s.size → d = some ⟨g, f, none⟩) :
    ∃ w', (Builtin.copy_ #[83, 9] 3 #[.slice d (N - f) c, .string s]).run Try.prog w = .ok (goInt s.size) w' ∧ Full w' g 5 (bytesTo (l ++ s.data.toList) N) ∧ ∀ B w0, Below B w0 w → B ≤ g → Below B w0 w' := by
  rcases Nat.eq_zero_or_pos s.size with h0 | h0
  · refine ⟨w, ?_, ?_, fun _ _ hb _ => hb⟩
    · rw [Lib.run_copy_empty_string w 83 9 3 5 d (N - f) c s Try.underlying83 (by obtain ⟨i, h1, _, _, _⟩ := info_parts info5; rw [h1]; rfl) h0, h0]
      rfl
    · have : s.data.toList = [] := List.eq_nil_of_length_eq_zero (by rw [data_len, h0])
      rw [this, List.append_nil]; exact hF
  · rw [hd h0]
    have hsz : (Try.prog.info? 5).map (·.size) = some 1 := by obtain ⟨i, h1, _, h3, _⟩ := info_parts info5; rw [h1]; simp [h3]
    have hl : (bytesTo l N).length = N := by simp [bytesTo]; omega
    refine ⟨_, Lib.run_copy_row_string w 83 9 3 5 g f (N - f) c s (bytesTo l N).toArray 5 Try.underlying83 hsz hF (by omega) (by simp [hl]; exact h), ?_, fun B w0 hb hB => hb.trans (below_setRow _ _ _ _ hB)⟩
    have e : (bytesTo l N).toArray.toList.take f ++ Lib.byteCells s.data.toList ++ (bytesTo l N).toArray.toList.drop (f + s.size) = bytesTo (l ++ s.data.toList) N := by
      have e1 : (bytesTo l N).take f = l.map enc8 := by
        unfold bytesTo
        rw [List.take_left' (by simp [hf])]
      have e2 : (bytesTo l N).drop (f + s.size) = List.replicate (N - (l ++ s.data.toList).length) (.int .u8 0) := by
        unfold bytesTo
        rw [← List.drop_drop, List.drop_left' (by simp [hf]), List.drop_replicate]
        congr 1
        simp; omega
      simp only []
      rw [e1, e2]
      unfold bytesTo Lib.byteCells
      rw [List.map_append]
      rfl
    rw [e]
    exact hF.setRow _

theorem cut_bytes (g f f' : Nat) (h : f' ≤ f) : ∃ A', (∀ W, (Instr.slice 83 (.slice (some ⟨g, 0, none⟩) f f) (some (.int .i64 (f' : Int))) none none).run Try.prog W = .ok (.slice A' (f - f') (f - f')) W) ∧ (f' < f → A' = some ⟨g, f', none⟩) := by
  refine ⟨if f = f' then some ⟨g, 0, none⟩ else some ⟨g, f', none⟩, fun W => ?_, fun hlt => by rw [if_neg (by omega)]⟩
  have he : Try.prog.elem 83 = 5 := by simp [Program.elem, Try.underlying83]
  rw [run_slice_l W 83 (some ⟨g, 0, none⟩) f f (by rw [he]; exact Try.underlying83) _ _ (by omega) (by omega), he]
  have hz : (Go.sizeOf 5).run Try.prog W = .ok 1 W := by kernel_rfl
  rw [hz]
  simp only [Result.andThen, sliced, Int.toNat_natCast, Nat.mul_one, Option.map_some, Addr.add_lit, Nat.zero_add]

set_option maxRecDepth 100000 in
set_option maxHeartbeats 2000000 in
theorem join_any (A : Option Addr) (L : List ByteArray) (c : Nat) (w : World) (hA : Strs w w.heap.size A c L) (hL : L.length ≤ 140737488355328) (hz : (cat L).length ≤ 70368744177664) :
    Calls Try.prog 47 #[.slice A L.length c] w fun e w' => e = .returned (.string (str (cat L))) ∧ Below w.heap.size w w' := by
  obtain ⟨N, hN⟩ : ∃ N, (cat L).length = N := ⟨_, rfl⟩
  rw [hN] at hz
  have hmk := made_one 83 5 (.int .u8 0) 1 Try.underlying83 info5 rfl N (by omega) (by omega)
  have hcap := hA.cap
  obtain ⟨Z, HZ⟩ : ∃ Z, Hid (List.replicate N (Value.int .u8 0) = Z) := ⟨_, Lib.hid rfl⟩
  rw [HZ.out] at hmk
  have HN := Lib.hid hN
  clear hN
  go_enter Try.func47, Try.ntmps47
  go_wp2
  go_loop [3, 12] (fun v3 v12 => ∃ k f : Nat, k ≤ L.length ∧ v12 = .int .i64 k ∧ v3 = .int .i64 f ∧ f ≤ N ∧ Hid ((cat (L.take k)).length = f)) (fun _ v12 => L.length - (intOf v12).toNat)
  case atStart => exact ⟨0, 0, by omega, rfl, rfl, by omega, Lib.hid (by simp [cat])⟩
  case round =>
    obtain ⟨k, f, hk, rfl, rfl, hf, HF⟩ := hrel
    have hi0 : (0 : Int) ≤ (k : Int) := Int.natCast_nonneg _
    by_cases hlt : k < L.length
    · obtain ⟨ad, rfl, hadB, hca⟩ := hA.at_ hlt
      have hi1 : (k : Int) < (L.length : Int) := by omega
      have hct := cat_take hlt
      have hle := cat_take_le L (k + 1)
      obtain ⟨s, HS⟩ : ∃ s, Hid (L[k] = s) := ⟨_, Lib.hid rfl⟩
      rw [HS.out] at hca hct
      have hl2 := congrArg List.length hct
      rw [List.length_append, HF.out, data_len] at hl2
      rw [hl2, HN.out] at hle
      have HL2 := Lib.hid hl2
      clear hct hl2
      go_wp2
      go_round
      case rel => exact ⟨k + 1, f + s.size, by omega, by go_num, by go_num, hle, HL2⟩
      case measure => simp [intOf]; omega
    · obtain rfl : k = L.length := by omega
      have hfN : f = N := by rw [← HF.out, List.take_length, HN.out]
      subst hfN
      have hF0 := Full.new w 5 Z
      have hB0 : Below w.heap.size w (w.alloc (.cells Z.toArray 5)) := (Below.refl _ w).alloc (Nat.le_refl _) _
      obtain ⟨g, hg⟩ : ∃ g, w.heap.size = g := ⟨_, rfl⟩
      go_wp2
      rw [hg] at hF0
      go_loopw [7, 25] (fun v7 v25 wr => ∃ k f' : Nat, k ≤ L.length ∧ v25 = .int .i64 k ∧ v7 = .int .i64 f' ∧ f' ≤ f ∧ Hid ((cat (L.take k)).length = f') ∧ Full wr g 5 (bytesTo (cat (L.take k)) f) ∧ Below w.heap.size w wr) (fun _ v25 _ => L.length - (intOf v25).toNat)
      case atStart =>
        refine ⟨0, 0, by omega, rfl, rfl, by omega, Lib.hid (by simp [cat]), ?_, hB0⟩
        have e : bytesTo (cat (L.take 0)) f = Z := by rw [← HZ.out]; simp [bytesTo, cat]
        rw [e]; exact hF0
      case round =>
        obtain ⟨k, f', hk, rfl, rfl, hf', HF', hFr, hBr⟩ := hrel
        have hi0 : (0 : Int) ≤ (k : Int) := Int.natCast_nonneg _
        by_cases hlt : k < L.length
        · obtain ⟨ad, rfl, hadB, hca⟩ := hA.at_ hlt
          have hca1 := (hBr.cell (p := ad.add k) (by rw [add_block]; exact hadB)).trans hca
          have hi1 : (k : Int) < (L.length : Int) := by omega
          have hct := cat_take hlt
          have hle := cat_take_le L (k + 1)
          obtain ⟨s, HS⟩ : ∃ s, Hid (L[k] = s) := ⟨_, Lib.hid rfl⟩
          rw [HS.out] at hca1 hct
          have hl2 := congrArg List.length hct
          rw [List.length_append, HF'.out, data_len] at hl2
          rw [hl2, HN.out] at hle
          obtain ⟨A', hr, hA'⟩ := cut_bytes g f f' hf'
          obtain ⟨w2, hcp, hF2, hB2⟩ := copy_str wr g f f' (cat (L.take k)) s hFr HF'.out hle A' (f - f') (fun h0 => hA' (by omega))
          have hB3 := hB2 _ _ hBr (by omega)
          rw [← hct] at hF2
          have HL2 := Lib.hid hl2
          clear hct hl2 hA' hB2
          go_wp2_with (with_reducible refine Lib.wpList_copy_run _ rfl _ _ _ _ rfl _ _ rfl rfl hcp ?_)
          go_roundw
          case rel => exact ⟨k + 1, f' + s.size, by omega, by go_num, by go_num, hle, HL2, hF2, hB3⟩
          case measure => simp [intOf]; omega
        · obtain rfl : k = L.length := by omega
          rw [List.take_length] at HF' hFr
          have hff : f' = f := by rw [← HF'.out, HN.out]
          subst hff
          have hcv : (convert 83 9 (.slice (some ⟨g, 0, none⟩) f' f')).run Try.prog wr = .ok (.string (str (cat L))) wr := by
            have h1 := run_convert_bytes_back (P := Try.prog) wr 83 9 5 ⟨g, 0, none⟩ f' (cat L) Try.underlying83 Try.underlying5 Try.underlying9 fun j hj => by
              rw [Addr.add_lit, Nat.zero_add, hFr.cell]
              unfold bytesTo
              rw [List.getElem?_append_left (by simpa using hj), List.getElem?_map, List.getElem?_eq_getElem hj]
              rfl
            rw [HF'.out] at h1
            exact h1
          go_wp2
          go_ret
          exact ⟨rfl, hBr⟩

end Go.Proofs.Ytmeoannheomdoaa
