/- The reference's List. -/
import Derived.Test.YthnlldojidocoaaDoorName
import Derived.Test.YthnlldojidocoaaDoorAdd
namespace Go.Proofs.YthnlldojidocoaaDoor
open Go.RowKit

abbrev Trip := Int × Int × Int
def tripC (q : Trip) : List Value := [.int .i64 q.1, .int .i64 q.2.1, .int .i64 q.2.2]
theorem tripC_len (q : Trip) : (tripC q).length = 3 := rfl
def tripsC (qs : List Trip) : List Value := qs.flatMap tripC
def Trips (w : World) (B : Nat) (A : Option Addr) (c : Nat) (qs : List Trip) : Prop := Row w B 3 A qs.length c (tripsC qs)
def actE (many : Nat) (q : Trip) : Ent := (nameOf q.1, modN q.2.1 2 == 1, (modN q.2.2 (many + 3) : Int) - 1)
def actL (many : Nat) (qs : List Trip) : List Ent := (qs.take 6).map (actE many)

theorem owns_on {w w' : World} {base size n : Nat} {e : TypeId} {v : Value} {xs : List Value} (h : w.ownsRow base e size v n xs) (hb : Below w.heap.size w w') : w'.ownsRow base e size v n xs :=
  owns_keep h fun g hg => hb.block g (owns_lt h g hg)

def ListOut (w : World) (es : List Ent) (e : Ending) (w' : World) : Prop :=
  ∃ A c, e = .returned (.slice A es.length c) ∧ RowF w' (fun g => w.heap.size ≤ g ∧ g < w'.heap.size) 3 A es.length c (entsC es) ∧ Below w.heap.size w w'

set_option maxRecDepth 100000 in
set_option maxHeartbeats 4000000 in
theorem list_any (B : Nat) (A : Option Addr) (qs : List Trip) (c : Nat) (w : World) (tr : Bool) (tx : ByteArray) (many : Nat) (hm : many ≤ 1048576) (hA : Trips w B A c qs) (hB : B ≤ w.heap.size) (hn : qs.length ≤ maxLen) :
    Calls Tryd.prog 26 #[.agg #[.bool tr, .string tx, .slice A qs.length c], .int .i64 many] w (ListOut w (actL many qs)) := by
  unfold maxLen at hn
  obtain ⟨i48, hi, hz0, hz1, hz2⟩ := info_parts info48
  have hcap : qs.length ≤ c := hA.2.1
  have HQ := Lib.hid hA
  have HM2 := Lib.hid (fun (x : Int) (W : World) => (show Calls Tryd.prog 40 #[.int .i64 x, .int .i64 2] W fun e w' => e = .returned (.int .i64 (modN x 2 : Int)) ∧ W = w' from mod_any x 2 W (by omega) (by omega)))
  have HM3 := Lib.hid (fun (x : Int) (W : World) => (show Calls Tryd.prog 40 #[.int .i64 x, .int .i64 ((many : Int) + 3)] W fun e w' => e = .returned (.int .i64 (modN x (many + 3) : Int)) ∧ W = w' from mod_any x (many + 3) W (by omega) (by omega)))
  have HN := Lib.hid (fun (x : Int) (W : World) => name_of x W)
  have wm3 : IntKind.i64.wrap ((many : Int) + 3) = (many : Int) + 3 := by simp [IntKind.wrap, IntKind.bits, IntKind.signed]; omega
  obtain ⟨n, hnn⟩ : ∃ n, qs.length = n := ⟨_, rfl⟩
  have HNN := Lib.hid hnn
  rw [hnn] at hn hcap ⊢
  have hF0 := Full.new w 64 [.bool tr, .string tx, .slice A n c]
  have HF0 := Lib.hid hF0
  have HB0 : Hid (Below w.heap.size w (w.alloc (.cells #[.bool tr, .string tx, .slice A n c] 64))) := Lib.hid ((Below.refl _ w).alloc (Nat.le_refl _) _)
  clear hA hnn hF0
  go_enter Tryd.func26, Tryd.ntmps26
  go_wp2_with fail
  obtain ⟨w0, hw0⟩ : ∃ w0, w.alloc (.cells #[.bool tr, .string tx, .slice A n c] 64) = w0 := ⟨_, rfl⟩
  rw [hw0] at HF0 HB0 ⊢
  clear hw0
  go_loopw [5, 6] (fun v5 v6 wr => ∃ (k : Nat) (D : Option Addr) (d : Nat), k ≤ n ∧ k ≤ 6 ∧ v6 = .int .i64 (k : Int) ∧ v5 = .slice D k d ∧ wr.ownsRow w0.heap.size 48 3 (.slice D k d) k (entsC ((qs.take k).map (actE many))) ∧ Below w0.heap.size w0 wr) (fun _ v6 _ => n - (intOf v6).toNat)
  case atStart => exact ⟨0, none, 0, by omega, by omega, rfl, rfl, World.ownsRow_nil _ _ _ _, Below.refl _ _⟩
  case round =>
    obtain ⟨k, D, d, hk, hk6, rfl, rfl, hown, hb⟩ := hrel
    have hi0 : (0 : Int) ≤ (k : Int) := Int.natCast_nonneg _
    have hbw : Below w.heap.size w wr := Below.then_ HB0.out hb
    have f2 : wr.cell? ⟨w.heap.size, 2, none⟩ = some (.slice A n c) := (HF0.out.on hb).cell 2
    by_cases hlt : k < n ∧ k < 6
    · obtain ⟨hlt, h6⟩ := hlt
      have hi1 : (k : Int) < (n : Int) := by omega
      have hi6 : (k : Int) < 6 := by omega
      have hkl : k < qs.length := by have := HNN.out; omega
      obtain ⟨q, hq⟩ : ∃ q, qs[k] = q := ⟨_, rfl⟩
      have hR := Row.below HQ.out hbw hB
      have t0 := flat_at tripC 3 tripC_len qs k 0 hkl (by omega)
      have t1 := flat_at tripC 3 tripC_len qs k 1 hkl (by omega)
      have t2 := flat_at tripC 3 tripC_len qs k 2 hkl (by omega)
      obtain ⟨a, b, z⟩ := q
      rw [hq] at t0 t1 t2
      obtain ⟨ld, rfl, _, z0, z1, z2⟩ := row3 hR t0 t1 t2
      have hent : entsC ((qs.take (k + 1)).map (actE many)) = entsC ((qs.take k).map (actE many)) ++ entC (actE many (a, b, z)) := by
        rw [List.take_succ_eq_append_getElem hkl, List.map_append, hq]
        unfold entsC
        rw [List.flatMap_append]; simp
      rw [show actE many (a, b, z) = (nameOf a, modN b 2 == 1, (modN z (many + 3) : Int) - 1) from rfl] at hent
      have hN := HN.out a
      have hM2 := HM2.out b
      have hM3 := HM3.out z
      obtain ⟨t, ht⟩ : ∃ t, nameOf a = t := ⟨_, rfl⟩
      obtain ⟨x, hx⟩ : ∃ x, modN b 2 = x := ⟨_, rfl⟩
      have hx2 := modN_lt (x := b) (m := 2) (by omega)
      have hy2 := modN_lt (x := z) (m := many + 3) (by omega)
      obtain ⟨y, hy⟩ : ∃ y, modN z (many + 3) = y := ⟨_, rfl⟩
      rw [ht] at hN hent
      rw [hx] at hM2 hx2 hent
      rw [hy] at hM3 hy2 hent
      have HENT := Lib.hid hent
      have HCN := Lib.hid hN
      have HCB := Lib.hid hM2
      have HCZ := Lib.hid hM3
      have wy : IntKind.i64.wrap ((y : Int) - 1) = (y : Int) - 1 := by simp [IntKind.wrap, IntKind.bits, IntKind.signed]; omega
      have hFq := Full.new wr 80 [.int .i64 a, .int .i64 b, .int .i64 z]
      have HFQ := Lib.hid hFq
      have n0 : (wr.alloc (.cells #[.int .i64 a, .int .i64 b, .int .i64 z] 80)).cell? ⟨wr.heap.size, 0, none⟩ = some (.int .i64 a) := hFq.cell 0
      have n1 : (wr.alloc (.cells #[.int .i64 a, .int .i64 b, .int .i64 z] 80)).cell? ⟨wr.heap.size, 1, none⟩ = some (.int .i64 b) := hFq.cell 1
      have n2 : (wr.alloc (.cells #[.int .i64 a, .int .i64 b, .int .i64 z] 80)).cell? ⟨wr.heap.size, 2, none⟩ = some (.int .i64 z) := hFq.cell 2
      have HOWN := Lib.hid hown
      clear hR t0 t1 t2 hent hN hM2 hM3 ht hx hy hq hFq
      have hgb : w0.heap.size ≤ wr.heap.size := hb.size
      have HBQ : Hid (Below w0.heap.size w0 (wr.alloc (.cells #[.int .i64 a, .int .i64 b, .int .i64 z] 80))) := Lib.hid (hb.alloc hb.size _)
      have HOWNQ := Lib.hid (hown.alloc (.cells #[.int .i64 a, .int .i64 b, .int .i64 z] 80))
      have hqs : (wr.alloc (.cells #[.int .i64 a, .int .i64 b, .int .i64 z] 80)).heap.size = wr.heap.size + 1 := by simp
      obtain ⟨g, hg⟩ : ∃ g, wr.heap.size = g := ⟨_, rfl⟩
      rw [hg] at HFQ n0 n1 n2 hgb hqs
      clear hown HOWN
      obtain rfl | rfl : x = 0 ∨ x = 1 := by omega
      · go_wp2_with fail
        try rw [hg]
        obtain ⟨wq, hwq⟩ : ∃ wq, wr.alloc (.cells #[.int .i64 a, .int .i64 b, .int .i64 z] 80) = wq := ⟨_, rfl⟩
        rw [hwq] at HFQ HBQ HOWNQ n0 n1 n2 hqs ⊢
        clear hwq hg n0 n1 n2
        have HFD := Lib.hid HFQ.out.drew
        have HBD : Hid (Below w0.heap.size w0 wq.drew) := Lib.hid (Below.drewN_ HBQ.out 1)
        have HOWND := Lib.hid (HOWNQ.out.drew)
        have n0 : wq.drew.cell? ⟨g, 0, none⟩ = some (.int .i64 a) := HFD.out.cell 0
        have n1 : wq.drew.cell? ⟨g, 1, none⟩ = some (.int .i64 b) := HFD.out.cell 1
        have n2 : wq.drew.cell? ⟨g, 2, none⟩ = some (.int .i64 z) := HFD.out.cell 2
        go_region_held3 (fun w' => w'.cell? ⟨g, 0, none⟩ = some (.int .i64 a) ∧ w'.cell? ⟨g, 1, none⟩ = some (.int .i64 b) ∧ w'.cell? ⟨g, 2, none⟩ = some (.int .i64 z))
          (first | (with_reducible exact ⟨n0, n1, n2⟩) | (with_reducible exact ⟨m0, m1, m2⟩) | (with_reducible exact HAL.out _) | (refine ⟨?_, ?_, ?_⟩ <;> with_reducible assumption))
          (first
            | (go_at_call 39; ((with_reducible refine (HCN.out _).mono ?_); rintro e w1 ⟨rfl, hb1⟩; (have hF1 := HFD.out.on hb1); (have hs1 : w0.heap.size ≤ w1.heap.size := Nat.le_trans HBD.out.size hb1.size); (have hown1 := owns_on (HOWND.out) hb1); (have m0 : w1.cell? ⟨g, 0, none⟩ = some (.int .i64 a) := hF1.cell 0); (have m1 : w1.cell? ⟨g, 1, none⟩ = some (.int .i64 b) := hF1.cell 1); (have m2 : w1.cell? ⟨g, 2, none⟩ = some (.int .i64 z) := hF1.cell 2); (have HAL := Lib.hid (fun ob => (show (w1.alloc ob).cell? ⟨g, 0, none⟩ = some (.int .i64 a) ∧ (w1.alloc ob).cell? ⟨g, 1, none⟩ = some (.int .i64 b) ∧ (w1.alloc ob).cell? ⟨g, 2, none⟩ = some (.int .i64 z) from ⟨(hF1.alloc ob).cell 0, (hF1.alloc ob).cell 1, (hF1.alloc ob).cell 2⟩)))))
            | (go_at_call 40; ((with_reducible refine (HCB.out _).mono ?_); rintro e w2 ⟨rfl, rfl⟩))
            | (go_at_call 40; ((with_reducible refine (HCZ.out _).mono ?_); rintro e w2 ⟨rfl, rfl⟩))
            | ((refine step_append_lies _ (by rfl) _ _ _ (by rfl) w0.heap.size 48 i48 _ 3 32 Tryd.underlying46 hi hz0 hz1 hz2 rfl (by omega) (.slice D k d) k _ (by rfl) (hown1.alloc _) ⟨w1.heap.size, 0, none⟩ 1 1 [.string t, .bool false, .int .i64 ((y : Int) - 1)] (by rfl) (by rfl) (World.news_of_block (cs := #[.string t, .bool false, .int .i64 ((y : Int) - 1)]) (t := 48) (fr := (0, 0)) (heap_alloc_new w1 _)) (by simp [Value.oneCell']) (by omega) (by unfold maxLen; omega) (by omega) (by simp; omega) (w1.heap.size + 1) (by simp) ?_; intro gg cap w5 hown5 hgrow hat hlt5; have hF5 := (hF1.alloc (.cells #[.string t, .bool false, .int .i64 ((y : Int) - 1)] 48)).grown hgrow (hF1.not_row hown1 (by decide)); have p0 : w5.cell? ⟨g, 0, none⟩ = some (.int .i64 a) := hF5.cell 0; have p1 : w5.cell? ⟨g, 1, none⟩ = some (.int .i64 b) := hF5.cell 1; have p2 : w5.cell? ⟨g, 2, none⟩ = some (.int .i64 z) := hF5.cell 2)))
        go_wp2
        go_roundw
        case rel =>
          refine ⟨k + 1, _, cap, by omega, by omega, by go_num, rfl, ?_, ?_⟩
          · rw [HENT.out]; exact hown5
          · exact ((Below.then_ HBD.out hb1).alloc (Nat.le_trans HBD.out.size hb1.size) _).grown hgrow (by have := HBD.out.size; have := hb1.size; simp; omega) (row_ge hown1)
        case measure => simp [intOf]; omega
      · go_wp2_with fail
        try rw [hg]
        obtain ⟨wq, hwq⟩ : ∃ wq, wr.alloc (.cells #[.int .i64 a, .int .i64 b, .int .i64 z] 80) = wq := ⟨_, rfl⟩
        rw [hwq] at HFQ HBQ HOWNQ n0 n1 n2 hqs ⊢
        clear hwq hg n0 n1 n2
        have HFD := Lib.hid HFQ.out.drew
        have HBD : Hid (Below w0.heap.size w0 wq.drew) := Lib.hid (Below.drewN_ HBQ.out 1)
        have HOWND := Lib.hid (HOWNQ.out.drew)
        have n0 : wq.drew.cell? ⟨g, 0, none⟩ = some (.int .i64 a) := HFD.out.cell 0
        have n1 : wq.drew.cell? ⟨g, 1, none⟩ = some (.int .i64 b) := HFD.out.cell 1
        have n2 : wq.drew.cell? ⟨g, 2, none⟩ = some (.int .i64 z) := HFD.out.cell 2
        go_region_held3 (fun w' => w'.cell? ⟨g, 0, none⟩ = some (.int .i64 a) ∧ w'.cell? ⟨g, 1, none⟩ = some (.int .i64 b) ∧ w'.cell? ⟨g, 2, none⟩ = some (.int .i64 z))
          (first | (with_reducible exact ⟨n0, n1, n2⟩) | (with_reducible exact ⟨m0, m1, m2⟩) | (with_reducible exact HAL.out _) | (refine ⟨?_, ?_, ?_⟩ <;> with_reducible assumption))
          (first
            | (go_at_call 39; ((with_reducible refine (HCN.out _).mono ?_); rintro e w1 ⟨rfl, hb1⟩; (have hF1 := HFD.out.on hb1); (have hs1 : w0.heap.size ≤ w1.heap.size := Nat.le_trans HBD.out.size hb1.size); (have hown1 := owns_on (HOWND.out) hb1); (have m0 : w1.cell? ⟨g, 0, none⟩ = some (.int .i64 a) := hF1.cell 0); (have m1 : w1.cell? ⟨g, 1, none⟩ = some (.int .i64 b) := hF1.cell 1); (have m2 : w1.cell? ⟨g, 2, none⟩ = some (.int .i64 z) := hF1.cell 2); (have HAL := Lib.hid (fun ob => (show (w1.alloc ob).cell? ⟨g, 0, none⟩ = some (.int .i64 a) ∧ (w1.alloc ob).cell? ⟨g, 1, none⟩ = some (.int .i64 b) ∧ (w1.alloc ob).cell? ⟨g, 2, none⟩ = some (.int .i64 z) from ⟨(hF1.alloc ob).cell 0, (hF1.alloc ob).cell 1, (hF1.alloc ob).cell 2⟩)))))
            | (go_at_call 40; ((with_reducible refine (HCB.out _).mono ?_); rintro e w2 ⟨rfl, rfl⟩))
            | (go_at_call 40; ((with_reducible refine (HCZ.out _).mono ?_); rintro e w2 ⟨rfl, rfl⟩))
            | ((refine step_append_lies _ (by rfl) _ _ _ (by rfl) w0.heap.size 48 i48 _ 3 32 Tryd.underlying46 hi hz0 hz1 hz2 rfl (by omega) (.slice D k d) k _ (by rfl) (hown1.alloc _) ⟨w1.heap.size, 0, none⟩ 1 1 [.string t, .bool true, .int .i64 ((y : Int) - 1)] (by rfl) (by rfl) (World.news_of_block (cs := #[.string t, .bool true, .int .i64 ((y : Int) - 1)]) (t := 48) (fr := (0, 0)) (heap_alloc_new w1 _)) (by simp [Value.oneCell']) (by omega) (by unfold maxLen; omega) (by omega) (by simp; omega) (w1.heap.size + 1) (by simp) ?_; intro gg cap w5 hown5 hgrow hat hlt5; have hF5 := (hF1.alloc (.cells #[.string t, .bool true, .int .i64 ((y : Int) - 1)] 48)).grown hgrow (hF1.not_row hown1 (by decide)); have p0 : w5.cell? ⟨g, 0, none⟩ = some (.int .i64 a) := hF5.cell 0; have p1 : w5.cell? ⟨g, 1, none⟩ = some (.int .i64 b) := hF5.cell 1; have p2 : w5.cell? ⟨g, 2, none⟩ = some (.int .i64 z) := hF5.cell 2)))
        go_wp2
        go_roundw
        case rel =>
          refine ⟨k + 1, _, cap, by omega, by omega, by go_num, rfl, ?_, ?_⟩
          · rw [HENT.out]; exact hown5
          · exact ((Below.then_ HBD.out hb1).alloc (Nat.le_trans HBD.out.size hb1.size) _).grown hgrow (by have := HBD.out.size; have := hb1.size; simp; omega) (row_ge hown1)
        case measure => simp [intOf]; omega
    · by_cases hlt2 : k < n
      · obtain rfl : k = 6 := by omega
        have hi1 : ((6 : Nat) : Int) < (n : Int) := by omega
        have hl : ((qs.take 6).map (actE many)).length = 6 := by have := HNN.out; simp; omega
        go_wp2
        go_ret
        refine ⟨D, d, ?_, ?_, hbw⟩
        · unfold actL; rw [hl]; rfl
        · unfold actL; rw [hl]; exact owns_row hown (fun g hg => ⟨Nat.le_trans HB0.out.size (row_ge hown g hg), owns_lt hown g hg⟩)
      · obtain rfl : k = n := by omega
        have hl : ((qs.take 6).map (actE many)).length = k := by have := HNN.out; simp; omega
        have ht : qs.take k = qs.take 6 := by rw [List.take_of_length_le (by have := HNN.out; omega), List.take_of_length_le (by have := HNN.out; omega)]
        rw [ht] at hown
        go_wp2
        go_ret
        refine ⟨D, d, ?_, ?_, hbw⟩
        · unfold actL; rw [hl]; rfl
        · unfold actL; rw [hl]; exact owns_row hown (fun g hg => ⟨Nat.le_trans HB0.out.size (row_ge hown g hg), owns_lt hown g hg⟩)
end Go.Proofs.YthnlldojidocoaaDoor
