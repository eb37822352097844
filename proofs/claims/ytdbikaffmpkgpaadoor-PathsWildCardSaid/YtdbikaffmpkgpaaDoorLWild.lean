/- PathsWild: for all names and patterns of one component, Match is the reference's. -/
import Derived.Test.YtdbikaffmpkgpaaDoorLaws
import Derived.Test.YtdbikaffmpkgpaaDoorRefMatch
import Derived.Deep.CutRange
namespace Go.Proofs.YtdbikaffmpkgpaaDoor.lwild
open Go.ChangeShapes Go.WideShapes Go.ChangeAt Go.RowKit

def byteC (zs : List Int) : List Value := zs.map (Value.int .u8 ·)
/-- the slice holds the bytes zs -/
def Bts (w : World) (B : Nat) (A : Option Addr) (c : Nat) (zs : List Int) : Prop := Row w B 1 A zs.length c (byteC zs)
theorem Bts.at_ {w : World} {B : Nat} {A : Option Addr} {c : Nat} {zs : List Int} (h : Bts w B A c zs) {k : Nat} (hk : k < zs.length) : ∃ ad, A = some ad ∧ ad.block < B ∧ w.cell? (ad.add k) = some (.int .u8 zs[k]) :=
  h.2.2.2 k _ (by unfold byteC; rw [List.getElem?_map, List.getElem?_eq_getElem hk]; rfl)
theorem open_bytes {H : Type} {enc : TypeId × Value → H} {W : World} {b1 b2 : Nat} {sp : Nat → Bool} {held : Bool} {v : Value} {d : DataW H} {p : List MemPlace}
    (h : DataW.Trod enc Tryd.prog W b2 sp held 42 v d p) (hval : Value.okWide Tryd.prog W .any b1 42 v) :
    ∃ (A : Option Addr) (l : List Int) (c : Nat), v = .slice A l.length c ∧ Bts W W.heap.size A c l ∧ l.length ≤ maxLen ∧ ∀ z ∈ l, 0 ≤ z ∧ z ≤ 255 := by
  obtain ⟨fuel, hf⟩ := h
  have hv : v.cells.toList = [v] := by
    obtain ⟨a, n, c, rfl⟩ := okWide_slice Tryd.underlying42 hval
    rfl
  rw [hv] at hf
  rcases open_ints (k := .u8) Tryd.underlying42 Tryd.underlying5 (by kernel_rfl) hf with ⟨h0, _⟩ | ⟨a, len, cap, zs, h0, hb, hlc, hcm, hsl, _, hcs, hmx⟩
  · obtain rfl : v = .slice none 0 0 := by simpa using h0
    exact ⟨none, [], 0, rfl, Row.empty _ _ _, Nat.zero_le _, fun z hz => by cases hz⟩
  · obtain rfl : v = .slice (some a) len cap := by simpa using h0
    have hle : len ≤ zs.length := by rw [hsl]; split <;> omega
    have htl : (zs.take len).length = len := by simp; omega
    refine ⟨some a, zs.take len, cap, by rw [htl], ⟨by simp [byteC], by omega, fun e => (by cases e), fun j u hj => ?_⟩, by omega, fun z hz => bd_u8 (hmx z (List.mem_of_mem_take hz))⟩
    unfold byteC at hj
    rw [List.getElem?_map] at hj
    obtain ⟨z, hz, rfl⟩ := Option.map_eq_some_iff.1 hj
    have hjl : j < len := by
      have := (List.getElem?_eq_some_iff.1 hz).1
      omega
    have hc := hcs j (by omega)
    have hg : zs.getD j 0 = z := by
      rw [List.getElem?_take_of_lt hjl] at hz
      rw [List.getD, hz]; rfl
    rw [hg] at hc
    refine ⟨a, rfl, ?_, hc⟩
    have := World.block_lt_of_cell? W _ hc
    rwa [add_block] at this

theorem comps_len (s : ByteArray) : (comps s).length ≤ s.size + 1 := by
  unfold comps segs
  rw [List.length_map]
  have := segsAcc_len s.data.toList []
  rwa [data_len] at this
def xS : ByteArray := ⟨#[120]⟩
theorem xS_comps : comps xS = [xS] := comps_last (by decide)
theorem within_x {perm : ByteArray → Bool} (hx : perm xS = true) {p : ByteArray} (hp : p.size ≤ 18) : within perm (jn xS p) = within perm p := by
  have h1 := comps_len p
  have hs : xS.size = 1 := rfl
  unfold within
  rw [jn_size, jn_comps, xS_comps, List.length_append, List.length_singleton, List.all_append, List.all_cons, hx, List.all_nil, decide_eq_true (by omega), decide_eq_true (by omega), decide_eq_true (by omega), decide_eq_true (by omega)]
  rfl
theorem match_x {p s : ByteArray} (hp : p.size ≤ 18) (hs : s.size ≤ 18) : matchS (jn xS p) (jn xS s) = matchS p s := by
  have e1 : patS (jn xS p) = patS p := within_x (by decide +kernel) hp
  have e2 : validS (jn xS s) = validS s := within_x (by decide +kernel) hs
  unfold matchS
  rw [e1, e2]
  cases h1 : patS p with
  | false => rfl
  | true =>
    cases h2 : validS s with
    | false => rfl
    | true =>
      rw [jn_ne, jn_ne, jn_comps, jn_comps, xS_comps, pat_ne h1, valid_ne h2, List.singleton_append, List.singleton_append, mt_cons_one (by decide)]
      have : oneS xS xS = true := wm_self (by decide)
      rw [this]; rfl
theorem x_cat (p : ByteArray) : (⟨#[120, 47]⟩ : ByteArray) ++ p = jn xS p := by
  refine Go.WideShapes.bytes_inj ?_
  rw [app_data, jn_data]; rfl

set_option maxRecDepth 100000 in
set_option maxHeartbeats 8000000 in
theorem walk (A : Option Addr) (zs : List Int) (c : Nat) (A2 : Option Addr) (ms : List Int) (c2 : Nat) (w : World) (hT : Tab w) (hA : Bts w w.heap.size A c zs) (hn : zs.length ≤ maxLen) (hz : ∀ z ∈ zs, 0 ≤ z ∧ z ≤ 255) (hA2 : Bts w w.heap.size A2 c2 ms) (hn2 : ms.length ≤ maxLen) (hz2 : ∀ z ∈ ms, 0 ≤ z ∧ z ≤ 255) :
    Calls Tryd.prog 11 #[.slice A zs.length c, .slice A2 ms.length c2] w (BoolB w true) := by
  unfold maxLen at hn hn2
  have hcap : zs.length ≤ c := hA.2.1
  have hcap2 : ms.length ≤ c2 := hA2.2.1
  have HZ := Lib.hid (And.intro hz hz2)
  have hcv : ∀ (W : World) (b : UInt8), (convert 42 9 (.slice (some ⟨W.heap.size, 0, none⟩) 1 1)).run Tryd.prog (W.alloc (.cells #[.int .u8 (b.toNat : Int)] 5)) = .ok (.string (str [b])) (W.alloc (.cells #[.int .u8 (b.toNat : Int)] 5)) := fun W b =>
    run_convert_bytes_back (P := Tryd.prog) (W.alloc (.cells #[.int .u8 (b.toNat : Int)] 5)) 42 9 5 ⟨W.heap.size, 0, none⟩ 1 [b] Tryd.underlying42 Tryd.underlying5 Tryd.underlying9 fun j hj => by
      obtain rfl : j = 0 := by simpa using hj
      exact (Full.new W 5 [.int .u8 (b.toNat : Int)]).cell 0
  have cv0 : ∀ W : World, (convert 42 9 (.slice (some ⟨W.heap.size, 0, none⟩) 1 1)).run Tryd.prog (W.alloc (.cells #[.int .u8 97] 5)) = .ok (.string ⟨#[97]⟩) (W.alloc (.cells #[.int .u8 97] 5)) := fun W => hcv W 97
  have cv1 : ∀ W : World, (convert 42 9 (.slice (some ⟨W.heap.size, 0, none⟩) 1 1)).run Tryd.prog (W.alloc (.cells #[.int .u8 98] 5)) = .ok (.string ⟨#[98]⟩) (W.alloc (.cells #[.int .u8 98] 5)) := fun W => hcv W 98
  have cv2 : ∀ W : World, (convert 42 9 (.slice (some ⟨W.heap.size, 0, none⟩) 1 1)).run Tryd.prog (W.alloc (.cells #[.int .u8 42] 5)) = .ok (.string ⟨#[42]⟩) (W.alloc (.cells #[.int .u8 42] 5)) := fun W => hcv W 42
  have cv3 : ∀ W : World, (convert 42 9 (.slice (some ⟨W.heap.size, 0, none⟩) 1 1)).run Tryd.prog (W.alloc (.cells #[.int .u8 63] 5)) = .ok (.string ⟨#[63]⟩) (W.alloc (.cells #[.int .u8 63] 5)) := fun W => hcv W 63
  have cv4 : ∀ W : World, (convert 42 9 (.slice (some ⟨W.heap.size, 0, none⟩) 1 1)).run Tryd.prog (W.alloc (.cells #[.int .u8 45] 5)) = .ok (.string ⟨#[45]⟩) (W.alloc (.cells #[.int .u8 45] 5)) := fun W => hcv W 45
  have hw := Way.start hT
  clear hcv hz hz2
  go_enter Tryd.func11, Tryd.ntmps11
  go_wp2_with (go_at_call 14; (with_reducible refine (sane_any _ hw.tab).mono ?_); rintro e w1 ⟨rfl, hb⟩; have hw := hw.on hb)
  go_loopw [6, 8, 9] (fun v6 v8 v9 wr => ∃ (k : Nat) (p : ByteArray) (l : Int), k ≤ zs.length ∧ k ≤ 12 ∧ v9 = .int .i64 k ∧ v6 = .string p ∧ p.size ≤ k ∧ v8 = .int .u8 l ∧ Way w wr) (fun _ _ v9 _ => zs.length - (intOf v9).toNat)
  case atStart => exact ⟨0, ⟨#[]⟩, 0, by omega, by omega, rfl, rfl, by decide, rfl, hw⟩
  case round =>
    obtain ⟨k, p, l, hk, hk12, rfl, rfl, hp, rfl, hw⟩ := hrel
    have k0 : (0 : Int) ≤ (k : Int) := Int.natCast_nonneg _
    by_cases hlt : k < zs.length
    · have k1 : (k : Int) < (zs.length : Int) := by omega
      by_cases h12 : k < 12
      · have k2 : (k : Int) < 12 := by omega
        obtain ⟨ad, rfl, _, hca⟩ := (show Bts wr w.heap.size A c zs from Row.below hA hw.below (Nat.le_refl _)).at_ hlt
        have hzz := HZ.out.1 zs[k] (List.getElem_mem hlt)
        obtain ⟨z, ez⟩ : ∃ z, zs[k] = z := ⟨_, rfl⟩
        rw [ez] at hca hzz
        have hr : z % 5 = 0 ∨ z % 5 = 1 ∨ z % 5 = 2 ∨ z % 5 = 3 ∨ z % 5 = 4 := by omega
        have htm : z.tmod 5 = z % 5 := Int.tmod_eq_emod_of_nonneg hzz.1
        clear ez hzz
        rcases hr with hr | hr | hr | hr | hr
        · rw [hr] at htm
          have hlit : (({ data := #[97, 98, 42, 63, 45] } : ByteArray)[0]'(by decide)).toNat = 97 := rfl
          go_wp2_with fail
          go_roundw
          case rel => exact ⟨k + 1, p ++ (⟨#[97]⟩ : ByteArray), 97, by omega, by omega, by go_num, rfl, by rw [ByteArray.size_append]; have e : (⟨#[97]⟩ : ByteArray).size = 1 := rfl; omega, rfl, hw.alloc _⟩
          case measure => simp [intOf]; omega
        · rw [hr] at htm
          have hlit : (({ data := #[97, 98, 42, 63, 45] } : ByteArray)[1]'(by decide)).toNat = 98 := rfl
          go_wp2_with fail
          go_roundw
          case rel => exact ⟨k + 1, p ++ (⟨#[98]⟩ : ByteArray), 98, by omega, by omega, by go_num, rfl, by rw [ByteArray.size_append]; have e : (⟨#[98]⟩ : ByteArray).size = 1 := rfl; omega, rfl, hw.alloc _⟩
          case measure => simp [intOf]; omega
        · rw [hr] at htm
          have hlit : (({ data := #[97, 98, 42, 63, 45] } : ByteArray)[2]'(by decide)).toNat = 42 := rfl
          by_cases hl : l = 42
          · subst hl
            go_wp2_with fail
            go_roundw
            case rel => exact ⟨k + 1, p, 42, by omega, by omega, by go_num, rfl, by omega, rfl, hw⟩
            case measure => simp [intOf]; omega
          · have hl2 : (l == 42) = false := by rw [beq_eq_false_iff_ne]; exact hl
            go_wp2_with fail
            go_roundw
            case rel => exact ⟨k + 1, p ++ (⟨#[42]⟩ : ByteArray), 42, by omega, by omega, by go_num, rfl, by rw [ByteArray.size_append]; have e : (⟨#[42]⟩ : ByteArray).size = 1 := rfl; omega, rfl, hw.alloc _⟩
            case measure => simp [intOf]; omega
        · rw [hr] at htm
          have hlit : (({ data := #[97, 98, 42, 63, 45] } : ByteArray)[3]'(by decide)).toNat = 63 := rfl
          go_wp2_with fail
          go_roundw
          case rel => exact ⟨k + 1, p ++ (⟨#[63]⟩ : ByteArray), 63, by omega, by omega, by go_num, rfl, by rw [ByteArray.size_append]; have e : (⟨#[63]⟩ : ByteArray).size = 1 := rfl; omega, rfl, hw.alloc _⟩
          case measure => simp [intOf]; omega
        · rw [hr] at htm
          have hlit : (({ data := #[97, 98, 42, 63, 45] } : ByteArray)[4]'(by decide)).toNat = 45 := rfl
          go_wp2_with fail
          go_roundw
          case rel => exact ⟨k + 1, p ++ (⟨#[45]⟩ : ByteArray), 45, by omega, by omega, by go_num, rfl, by rw [ByteArray.size_append]; have e : (⟨#[45]⟩ : ByteArray).size = 1 := rfl; omega, rfl, hw.alloc _⟩
          case measure => simp [intOf]; omega
      · obtain rfl : k = 12 := by omega
        have k2 : ¬ (12 : Int) < 12 := by omega
        go_wp2_with fail
        go_loopw [7, 11] (fun v7 v11 wx => ∃ (j : Nat) (s : ByteArray), j ≤ ms.length ∧ j ≤ 14 ∧ v11 = .int .i64 j ∧ v7 = .string s ∧ s.size ≤ j ∧ Way w wx) (fun _ v11 _ => ms.length - (intOf v11).toNat)
        case atStart => exact ⟨0, ⟨#[]⟩, by omega, by omega, rfl, rfl, by decide, hw⟩
        case round =>
          clear hw
          obtain ⟨j, s, hj, hj14, rfl, rfl, hs, hw⟩ := hrel
          have j0 : (0 : Int) ≤ (j : Int) := Int.natCast_nonneg _
          by_cases hlt2 : j < ms.length
          · have j1 : (j : Int) < (ms.length : Int) := by omega
            by_cases h14 : j < 14
            · have j2 : (j : Int) < 14 := by omega
              obtain ⟨ad2, rfl, _, hca2⟩ := (show Bts wr w.heap.size A2 c2 ms from Row.below hA2 hw.below (Nat.le_refl _)).at_ hlt2
              have hzz := HZ.out.2 ms[j] (List.getElem_mem hlt2)
              obtain ⟨z, ez⟩ : ∃ z, ms[j] = z := ⟨_, rfl⟩
              rw [ez] at hca2 hzz
              have hr : z % 3 = 0 ∨ z % 3 = 1 ∨ z % 3 = 2 := by omega
              have htm : z.tmod 3 = z % 3 := Int.tmod_eq_emod_of_nonneg hzz.1
              clear ez hzz
              rcases hr with hr | hr | hr
              · rw [hr] at htm
                go_wp2_with fail
                go_roundw
                case rel => exact ⟨j + 1, s ++ (⟨#[97]⟩ : ByteArray), by omega, by omega, by go_num, rfl, by rw [ByteArray.size_append]; have e : (⟨#[97]⟩ : ByteArray).size = 1 := rfl; omega, hw⟩
                case measure => simp [intOf]; omega
              · rw [hr] at htm
                go_wp2_with fail
                go_roundw
                case rel => exact ⟨j + 1, s ++ (⟨#[98]⟩ : ByteArray), by omega, by omega, by go_num, rfl, by rw [ByteArray.size_append]; have e : (⟨#[98]⟩ : ByteArray).size = 1 := rfl; omega, hw⟩
                case measure => simp [intOf]; omega
              · rw [hr] at htm
                go_wp2_with fail
                go_roundw
                case rel => exact ⟨j + 1, s ++ (⟨#[45]⟩ : ByteArray), by omega, by omega, by go_num, rfl, by rw [ByteArray.size_append]; have e : (⟨#[45]⟩ : ByteArray).size = 1 := rfl; omega, hw⟩
                case measure => simp [intOf]; omega
            · obtain rfl : j = 14 := by omega
              have j2 : ¬ (14 : Int) < 14 := by omega
              have hps : p.size ≤ 18 := by omega
              have hss : s.size ≤ 18 := by omega
              have hm := match_x hps hss
              have q1 := x_cat p
              have q2 := x_cat s
              have z1 := jn_size xS p
              have z2 := jn_size xS s
              have hx1 : xS.size = 1 := rfl
              obtain ⟨xp, ep⟩ : ∃ z, jn xS p = z := ⟨_, rfl⟩
              obtain ⟨xs, es⟩ : ∃ z, jn xS s = z := ⟨_, rfl⟩
              rw [ep] at hm q1 z1
              rw [es] at hm q2 z2
              have M1 := fun (W : World) (h : Tab W) => match_any p s W h (by unfold maxLen; omega) (by unfold maxLen; omega)
              have M2 := fun (W : World) (h : Tab W) => match_any xp xs W h (by unfold maxLen; omega) (by unfold maxLen; omega)
              have RM := fun (W : World) => refMatch_any p s W (by omega) (by omega)
              rw [hm] at M2
              obtain ⟨r, er⟩ : ∃ r, matchS p s = r := ⟨_, rfl⟩
              rw [er] at M1 M2 RM
              have hrr : (r == r) = true := by cases r <;> rfl
              have H1 := Lib.hid M1
              have H2 := Lib.hid M2
              have H3 := Lib.hid RM
              have g1 : 2 + p.size ≤ 100 := by omega
              have g2 : 2 + s.size ≤ 100 := by omega
              clear hm ep es M1 M2 RM er hx1 z1 z2
              go_wp2_with (first
                | (go_at_call 22; (with_reducible refine (H1.out _ hw.tab).mono ?_); rintro e wa ⟨rfl, hb⟩; have hw := hw.on hb)
                | (go_at_call 37; (with_reducible refine (H3.out _).mono ?_); rintro e wa ⟨rfl, hb⟩; have hw := hw.on hb)
                | (go_at_call 22; (with_reducible refine (H2.out _ hw.tab).mono ?_); rintro e wa ⟨rfl, hb⟩; have hw := hw.on hb))
              go_ret
              exact ⟨rfl, hw.below⟩
          · obtain rfl : j = ms.length := by omega
            have j1 : ¬ (ms.length : Int) < (ms.length : Int) := by omega
            have hps : p.size ≤ 18 := by omega
            have hss : s.size ≤ 18 := by omega
            have hm := match_x hps hss
            have q1 := x_cat p
            have q2 := x_cat s
            have z1 := jn_size xS p
            have z2 := jn_size xS s
            have hx1 : xS.size = 1 := rfl
            obtain ⟨xp, ep⟩ : ∃ z, jn xS p = z := ⟨_, rfl⟩
            obtain ⟨xs, es⟩ : ∃ z, jn xS s = z := ⟨_, rfl⟩
            rw [ep] at hm q1 z1
            rw [es] at hm q2 z2
            have M1 := fun (W : World) (h : Tab W) => match_any p s W h (by unfold maxLen; omega) (by unfold maxLen; omega)
            have M2 := fun (W : World) (h : Tab W) => match_any xp xs W h (by unfold maxLen; omega) (by unfold maxLen; omega)
            have RM := fun (W : World) => refMatch_any p s W (by omega) (by omega)
            rw [hm] at M2
            obtain ⟨r, er⟩ : ∃ r, matchS p s = r := ⟨_, rfl⟩
            rw [er] at M1 M2 RM
            have hrr : (r == r) = true := by cases r <;> rfl
            have H1 := Lib.hid M1
            have H2 := Lib.hid M2
            have H3 := Lib.hid RM
            have g1 : 2 + p.size ≤ 100 := by omega
            have g2 : 2 + s.size ≤ 100 := by omega
            clear hm ep es M1 M2 RM er hx1 z1 z2
            go_wp2_with (first
              | (go_at_call 22; (with_reducible refine (H1.out _ hw.tab).mono ?_); rintro e wa ⟨rfl, hb⟩; have hw := hw.on hb)
              | (go_at_call 37; (with_reducible refine (H3.out _).mono ?_); rintro e wa ⟨rfl, hb⟩; have hw := hw.on hb)
              | (go_at_call 22; (with_reducible refine (H2.out _ hw.tab).mono ?_); rintro e wa ⟨rfl, hb⟩; have hw := hw.on hb))
            go_ret
            exact ⟨rfl, hw.below⟩
    · obtain rfl : k = zs.length := by omega
      have k1 : ¬ (zs.length : Int) < (zs.length : Int) := by omega
      go_wp2_with fail
      go_loopw [7, 11] (fun v7 v11 wx => ∃ (j : Nat) (s : ByteArray), j ≤ ms.length ∧ j ≤ 14 ∧ v11 = .int .i64 j ∧ v7 = .string s ∧ s.size ≤ j ∧ Way w wx) (fun _ v11 _ => ms.length - (intOf v11).toNat)
      case atStart => exact ⟨0, ⟨#[]⟩, by omega, by omega, rfl, rfl, by decide, hw⟩
      case round =>
        clear hw
        obtain ⟨j, s, hj, hj14, rfl, rfl, hs, hw⟩ := hrel
        have j0 : (0 : Int) ≤ (j : Int) := Int.natCast_nonneg _
        by_cases hlt2 : j < ms.length
        · have j1 : (j : Int) < (ms.length : Int) := by omega
          by_cases h14 : j < 14
          · have j2 : (j : Int) < 14 := by omega
            obtain ⟨ad2, rfl, _, hca2⟩ := (show Bts wr w.heap.size A2 c2 ms from Row.below hA2 hw.below (Nat.le_refl _)).at_ hlt2
            have hzz := HZ.out.2 ms[j] (List.getElem_mem hlt2)
            obtain ⟨z, ez⟩ : ∃ z, ms[j] = z := ⟨_, rfl⟩
            rw [ez] at hca2 hzz
            have hr : z % 3 = 0 ∨ z % 3 = 1 ∨ z % 3 = 2 := by omega
            have htm : z.tmod 3 = z % 3 := Int.tmod_eq_emod_of_nonneg hzz.1
            clear ez hzz
            rcases hr with hr | hr | hr
            · rw [hr] at htm
              go_wp2_with fail
              go_roundw
              case rel => exact ⟨j + 1, s ++ (⟨#[97]⟩ : ByteArray), by omega, by omega, by go_num, rfl, by rw [ByteArray.size_append]; have e : (⟨#[97]⟩ : ByteArray).size = 1 := rfl; omega, hw⟩
              case measure => simp [intOf]; omega
            · rw [hr] at htm
              go_wp2_with fail
              go_roundw
              case rel => exact ⟨j + 1, s ++ (⟨#[98]⟩ : ByteArray), by omega, by omega, by go_num, rfl, by rw [ByteArray.size_append]; have e : (⟨#[98]⟩ : ByteArray).size = 1 := rfl; omega, hw⟩
              case measure => simp [intOf]; omega
            · rw [hr] at htm
              go_wp2_with fail
              go_roundw
              case rel => exact ⟨j + 1, s ++ (⟨#[45]⟩ : ByteArray), by omega, by omega, by go_num, rfl, by rw [ByteArray.size_append]; have e : (⟨#[45]⟩ : ByteArray).size = 1 := rfl; omega, hw⟩
              case measure => simp [intOf]; omega
          · obtain rfl : j = 14 := by omega
            have j2 : ¬ (14 : Int) < 14 := by omega
            have hps : p.size ≤ 18 := by omega
            have hss : s.size ≤ 18 := by omega
            have hm := match_x hps hss
            have q1 := x_cat p
            have q2 := x_cat s
            have z1 := jn_size xS p
            have z2 := jn_size xS s
            have hx1 : xS.size = 1 := rfl
            obtain ⟨xp, ep⟩ : ∃ z, jn xS p = z := ⟨_, rfl⟩
            obtain ⟨xs, es⟩ : ∃ z, jn xS s = z := ⟨_, rfl⟩
            rw [ep] at hm q1 z1
            rw [es] at hm q2 z2
            have M1 := fun (W : World) (h : Tab W) => match_any p s W h (by unfold maxLen; omega) (by unfold maxLen; omega)
            have M2 := fun (W : World) (h : Tab W) => match_any xp xs W h (by unfold maxLen; omega) (by unfold maxLen; omega)
            have RM := fun (W : World) => refMatch_any p s W (by omega) (by omega)
            rw [hm] at M2
            obtain ⟨r, er⟩ : ∃ r, matchS p s = r := ⟨_, rfl⟩
            rw [er] at M1 M2 RM
            have hrr : (r == r) = true := by cases r <;> rfl
            have H1 := Lib.hid M1
            have H2 := Lib.hid M2
            have H3 := Lib.hid RM
            have g1 : 2 + p.size ≤ 100 := by omega
            have g2 : 2 + s.size ≤ 100 := by omega
            clear hm ep es M1 M2 RM er hx1 z1 z2
            go_wp2_with (first
              | (go_at_call 22; (with_reducible refine (H1.out _ hw.tab).mono ?_); rintro e wa ⟨rfl, hb⟩; have hw := hw.on hb)
              | (go_at_call 37; (with_reducible refine (H3.out _).mono ?_); rintro e wa ⟨rfl, hb⟩; have hw := hw.on hb)
              | (go_at_call 22; (with_reducible refine (H2.out _ hw.tab).mono ?_); rintro e wa ⟨rfl, hb⟩; have hw := hw.on hb))
            go_ret
            exact ⟨rfl, hw.below⟩
        · obtain rfl : j = ms.length := by omega
          have j1 : ¬ (ms.length : Int) < (ms.length : Int) := by omega
          have hps : p.size ≤ 18 := by omega
          have hss : s.size ≤ 18 := by omega
          have hm := match_x hps hss
          have q1 := x_cat p
          have q2 := x_cat s
          have z1 := jn_size xS p
          have z2 := jn_size xS s
          have hx1 : xS.size = 1 := rfl
          obtain ⟨xp, ep⟩ : ∃ z, jn xS p = z := ⟨_, rfl⟩
          obtain ⟨xs, es⟩ : ∃ z, jn xS s = z := ⟨_, rfl⟩
          rw [ep] at hm q1 z1
          rw [es] at hm q2 z2
          have M1 := fun (W : World) (h : Tab W) => match_any p s W h (by unfold maxLen; omega) (by unfold maxLen; omega)
          have M2 := fun (W : World) (h : Tab W) => match_any xp xs W h (by unfold maxLen; omega) (by unfold maxLen; omega)
          have RM := fun (W : World) => refMatch_any p s W (by omega) (by omega)
          rw [hm] at M2
          obtain ⟨r, er⟩ : ∃ r, matchS p s = r := ⟨_, rfl⟩
          rw [er] at M1 M2 RM
          have hrr : (r == r) = true := by cases r <;> rfl
          have H1 := Lib.hid M1
          have H2 := Lib.hid M2
          have H3 := Lib.hid RM
          have g1 : 2 + p.size ≤ 100 := by omega
          have g2 : 2 + s.size ≤ 100 := by omega
          clear hm ep es M1 M2 RM er hx1 z1 z2
          go_wp2_with (first
            | (go_at_call 22; (with_reducible refine (H1.out _ hw.tab).mono ?_); rintro e wa ⟨rfl, hb⟩; have hw := hw.on hb)
            | (go_at_call 37; (with_reducible refine (H3.out _).mono ?_); rintro e wa ⟨rfl, hb⟩; have hw := hw.on hb)
            | (go_at_call 22; (with_reducible refine (H2.out _ hw.tab).mono ?_); rintro e wa ⟨rfl, hb⟩; have hw := hw.on hb))
          go_ret
          exact ⟨rfl, hw.below⟩

theorem contract (H : Type) (enc : TypeId × Value → H) (W : World) (base : Nat) (args : Array Value) (ds gs : List (DataW H)) (before : List MemPlace)
    (hval : ∀ (j : Nat) t v, Tryd.f11.params[j]? = some t → args[j]? = some v → Value.okWide Tryd.prog W .any base t v)
    (hW : DataW.Whole enc Tryd.prog Tryd.f11.params.toList Rows.pathsWildSpec.vars false W args.toList ds gs before) (hT : Tab W) :
    Calls Tryd.prog 11 args W fun e W' => ∃ v, e = .returned v ∧ Rows.pathsWildSpec.post enc Tryd.prog Tryd.f11 false true false false W args v W' := by
  have hW' := hW
  obtain ⟨p, q, hA0, hV, rfl, hfz, hnd⟩ := hW
  have hA : DataW.TrodAll enc Tryd.prog W 0 (fun _ => true) true Tryd.f11.params.toList args.toList ds p := hA0
  rw [Tryd.params11] at hA hval
  obtain ⟨v0, vs0, d0, ds0, p0, q0, e0, rfl, rfl, h0, r0⟩ := trodAll_cons hA
  obtain ⟨v1, vs1, d1, ds1, p1, q1, e1, rfl, rfl, h1, r1⟩ := trodAll_cons r0
  obtain ⟨rfl, rfl, rfl⟩ := trodAll_nil r1
  obtain rfl : args = #[v0, v1] := by cases args; simp_all
  obtain ⟨rfl, rfl⟩ := trodVars_none hV
  obtain ⟨A, zs, c, rfl, hI, hn, hz⟩ := open_bytes h0 (hval 0 42 v0 rfl rfl)
  obtain ⟨A2, ms, c2, rfl, hI2, hn2, hz2⟩ := open_bytes h1 (hval 1 42 v1 rfl rfl)
  refine (walk A zs c A2 ms c2 W hT hI hn hz hI2 hn2 hz2).mono fun e W' ⟨he, hb⟩ => ⟨_, he, law_post rfl rfl ?_ rfl rfl rfl hW' hb⟩
  rw [Tryd.params11]
  intro t ht
  have ht' : t = 42 := by simpa using ht
  obtain rfl := ht'
  exact ⟨by kernel_rfl, of_decide_eq_true (by kernel_rfl)⟩

theorem laid_met (os : Os) : laidMet Tryd.prog Rows.pathsWildRow.laid ((laidWorld os).forCall (fun _ _ => 0) ⟨#[], #[.slice none 0 0, .slice none 0 0], []⟩).memory :=
  laidMet_of_run' 8 (by kernel_rfl) (by kernel_rfl)
theorem reads (os : Os) {H : Type} (enc : TypeId × Value → H) : ∃ ds places, DataW.whole enc Tryd.prog ((laidWorld os).forCall (fun _ _ => 0) ⟨#[], #[.slice none 0 0, .slice none 0 0], []⟩).memory Tryd.f11.params.toList Rows.pathsWildSpec.vars false (#[.slice none 0 0, .slice none 0 0] : Array Value).toList 8 = some (ds, [], places) ∧ Rows.uptoSmall H (ds ++ []) = true :=
  ⟨[.nil, .nil], [], by kernel_rfl, by kernel_rfl⟩

set_option maxRecDepth 100000 in
theorem lifted (os : Os) (started : os.Started) (H : Type) (enc : TypeId × Value → H) (F : Stop.Interp) :
    ReturnsInHanded {} Tryd.checked os 11 .any ((OpenSpec.ofChange Rows.pathsWildSpec).preRow enc Tryd.prog Tryd.f11 Rows.pathsWildRow.domain false Rows.pathsWildRow.laid) (((OpenSpec.ofChange Rows.pathsWildSpec).at F).post enc Tryd.prog Tryd.f11 false true false false) := by
  obtain ⟨ds, places, hx, hsm⟩ := reads os enc
  refine returnsInHanded_of_row (C := Tryd.checked) (s := (OpenSpec.ofChange Rows.pathsWildSpec)) ownKnob_none started (by kernel_rfl) Tryd.func11
    (witness_row_at (enc := enc) (C := Tryd.checked) false (laidWorld os) #[.slice none 0 0, .slice none 0 0] rfl (by kernel_rfl) (by kernel_rfl) (by kernel_rfl)
      (OpenSpec.preRow_of_cond 8 hx (by kernel_rfl) (fun k hk => by cases hk) (by kernel_rfl) (laid_met os))) ?_
  intro W base args ds gs before hval hW _ _ _ hL _ _
  exact contract H enc W base args ds gs before hval hW (tab_of_laid hL)

theorem said : Rows.PathsWildSaid :=
  OpenClaim.holds_of_cond 11 Tryd.f11 rfl rfl rfl rfl rfl rfl rfl ⟨rfl, rfl, rfl, rfl, rfl⟩ rfl rfl rfl rfl rfl (by kernel_rfl) Tryd.func11 (by kernel_rfl)
    (of_decide_eq_true (by kernel_rfl)) (by unfold Func.isWrapper; first | (rw [if_pos (by decide +kernel)]; kernel_rfl) | (rw [if_neg (by decide +kernel)]; exact ⟨rfl, rfl⟩))
    (fun os started H enc _ F => by rw [OpenClaim.pre_eq_preRow]; exact lifted os started H enc F)

theorem plain (f : FuncId) (fn : Func) (hf : Tryd.pinned.checked.prog.funcNamed "mainline/mainlinelaw03.PathsWild" = some f) (hfn : Tryd.pinned.checked.prog.funcs[f]? = some fn) :
    false = Tryd.pinned.checked.prog.looks [] ∧ ∀ (j : Nat) t, fn.params[j]? = some t → Tryd.pinned.checked.prog.wantsStandIn t = false := by
  obtain rfl : f = 11 := Option.some.inj ((show Tryd.prog.funcNamed "mainline/mainlinelaw03.PathsWild" = some 11 by kernel_rfl).symm.trans hf) |>.symm
  obtain rfl : fn = Tryd.f11 := (Option.some.inj (Tryd.func11.symm.trans hfn)).symm
  refine ⟨by kernel_rfl, fun j t ht => ?_⟩
  rw [Tryd.params11] at ht
  have hm : t ∈ [42] := by have := Array.mem_of_getElem? ht; simpa using this
  have hall : ([42].all fun u => !Tryd.prog.wantsStandIn u) = true := by kernel_rfl
  exact (show Tryd.prog.wantsStandIn t = false by simpa using List.all_eq_true.1 hall t hm)

theorem card : Rows.PathsWildCardSaid :=
  Claim7.holds_tied_plain_at .later [] _ _ _ _ said (fun _ h => by cases h) (by kernel_rfl) (fun _ h => by cases h) pathsWild_row_tie rfl ⟨rfl, rfl⟩ (by kernel_rfl) rfl plain (by kernel_rfl)

end Go.Proofs.YtdbikaffmpkgpaaDoor.lwild
