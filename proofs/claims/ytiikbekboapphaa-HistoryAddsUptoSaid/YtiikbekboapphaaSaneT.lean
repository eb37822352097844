/- sanity. -/
import Derived.Test.YtiikbekboapphaaHk
namespace Go.Proofs.Ytiikbekboapphaa
set_option maxRecDepth 100000
open Go.RowKit
def c7 : Cm := ⟨[], 7, ⟨#[]⟩, [], false⟩
def cs5 : List Cm := [c7, chC [1], chC [1], chC [2, 3], chC [3]]
theorem cs5_anc1 : anc cs5 3 4 = true := by decide
theorem cs5_anc2 : anc cs5 2 5 = false := by decide
theorem cs5_base1 : baseP cs5 4 5 = 3 := by decide
theorem cs5_base2 : baseP cs5 2 3 = 1 := by decide
theorem cs5_base3 : baseP cs5 5 3 = 3 := by decide
theorem cs5_log : logP cs5 4 = [4, 3, 2, 1] := by decide
theorem cs5_line1 : lineOk cs5 1 4 = true ∧ lineP cs5 1 4 = [2, 4] := by decide
theorem cs5_line2 : lineOk cs5 3 4 = false ∧ lineP cs5 3 4 = [] := by decide
theorem cs5_line3 : lineOk cs5 3 5 = true ∧ lineP cs5 3 5 = [5] := by decide
theorem cs5_get : getC cs5 1 = c7 ∧ inR cs5.length 1 = true := ⟨rfl, by decide⟩
theorem cs5_can : canBe 1 [1] = true ∧ canBe 2 [1] = true ∧ canBe 3 [2, 3] = true ∧ canBe 4 [3] = true ∧ canBe 5 [2, 2] = false ∧ canBe 5 [] = false ∧ canBe 5 [9] = false := by decide
theorem Full.rowF {W : World} {g n : Nat} {t : TypeId} {cs : List Value} {K : Nat → Prop} (h : Full W g t cs) (hK : K g) (hn : cs.length = n) : RowF W K 1 (some ⟨g, 0, none⟩) n n cs :=
  ⟨by omega, Nat.le_refl _, fun e => (by cases e), fun j u hj => ⟨_, rfl, hK, by rw [Addr.add_lit, Nat.zero_add, h.cell, hj]⟩⟩
theorem empty_row (W : World) : Row W W.heap.size 1 none 0 0 (intC []) := Row.empty _ _ _
/-- a commit that can be added: its parents lie in a block of K -/
theorem HK.addk {w W0 W : World} {p g n m : Nat} {cs : List Cm} {K : Nat → Prop} (h : HK w W0 W p cs K) (hs : cs.length ≤ 1000) (l : List Int) (hF : Full W0 g 3 (intC l)) (hK : K g) (hn : l.length = n) (hc : canBe cs.length l = true) (hm : cs.length + 1 = m) :
    Calls Try.prog 16 #[.pointer (some ⟨p, 0, none⟩), .agg #[.slice (some ⟨g, 0, none⟩) n n, .int .i64 0, .string ⟨#[]⟩, .slice none 0 0, .bool false]] W fun e W' => e = .returned (.tuple #[.int .i64 (m : Int), .int .i64 0]) ∧ HK w W0 W' p (cs ++ [chC l]) K := by
  have hl := canBe_len hc
  refine (h.add hs (h.row (hF.rowF hK (by rw [intC_len]; exact hn))) (empty_row W) (by omega) (by omega)).mono ?_
  rintro e W' (⟨_, rfl, k⟩ | ⟨k1, _⟩)
  · exact ⟨by rw [← hm]; rfl, k⟩
  · dsimp only at k1; rw [hc] at k1; cases k1
/-- one that cannot -/
theorem HK.addn {w W0 W : World} {p n c : Nat} {A : Option Addr} {cs : List Cm} {K : Nat → Prop} (h : HK w W0 W p cs K) (hs : cs.length ≤ 1000) (l : List Int) (hr : Row W W.heap.size 1 A n c (intC l)) (hn : n ≤ 1000) (hc : canBe cs.length l = false) :
    Calls Try.prog 16 #[.pointer (some ⟨p, 0, none⟩), .agg #[.slice A n c, .int .i64 0, .string ⟨#[]⟩, .slice none 0 0, .bool false]] W fun e W' => e = .returned (.tuple #[.int .i64 0, .int .i64 1]) ∧ HK w W0 W' p cs K := by
  refine (h.add hs hr (empty_row W) (by omega) (by omega)).mono ?_
  rintro e W' (⟨k1, _⟩ | ⟨_, rfl, k⟩)
  · dsimp only at k1; rw [hc] at k1; cases k1
  · exact ⟨rfl, k⟩
theorem HK.anc_ {w W0 W : World} {p : Nat} {cs : List Cm} {K : Nat → Prop} (h : HK w W0 W p cs K) (hs : cs.length ≤ 1000) (a b : Int) : Calls Try.prog 24 #[.pointer (some ⟨p, 0, none⟩), .int .i64 a, .int .i64 b] W (BoolB W (anc cs a b)) := by
  obtain ⟨F, h1, h2⟩ := h.his
  exact anc_any h1 hs a b
theorem HK.base_ {w W0 W : World} {p : Nat} {cs : List Cm} {K : Nat → Prop} (h : HK w W0 W p cs K) (hs : cs.length ≤ 1000) (a b : Int) : Calls Try.prog 26 #[.pointer (some ⟨p, 0, none⟩), .int .i64 a, .int .i64 b] W fun e w' => e = .returned (.int .i64 ((baseP cs a b : Nat) : Int)) ∧ Below W.heap.size W w' := by
  obtain ⟨F, h1, h2⟩ := h.his
  exact base_any h1 hs a b
theorem HK.log_ {w W0 W : World} {p : Nat} {cs : List Cm} {K : Nat → Prop} (h : HK w W0 W p cs K) (hs : cs.length ≤ 1000) (a : Int) : Calls Try.prog 31 #[.pointer (some ⟨p, 0, none⟩), .int .i64 a] W (IntsOut W (logP cs a)) := by
  obtain ⟨F, h1, h2⟩ := h.his
  exact log_any h1 hs a
theorem HK.line_ {w W0 W : World} {p : Nat} {cs : List Cm} {K : Nat → Prop} (h : HK w W0 W p cs K) (hs : cs.length ≤ 1000) (a b : Int) : Calls Try.prog 28 #[.pointer (some ⟨p, 0, none⟩), .int .i64 a, .int .i64 b] W (LineOut W (lineOk cs a b) (lineP cs a b)) := by
  obtain ⟨F, h1, h2⟩ := h.his
  exact line_any h1 hs a b
theorem HK.get_ {w W0 W : World} {p : Nat} {cs : List Cm} {K : Nat → Prop} (h : HK w W0 W p cs K) (hs : cs.length ≤ 1000) (hch : ∀ c ∈ cs, c.ch.length ≤ 1099511627776) (id : Int) : Calls Try.prog 20 #[.pointer (some ⟨p, 0, none⟩), .int .i64 id] W (GetOut W (getC cs id) (inR cs.length id)) := by
  obtain ⟨F, h1, h2⟩ := h.his
  exact get_any h1 hs hch id
theorem HK.many_ {w W0 W : World} {p : Nat} {cs : List Cm} {K : Nat → Prop} (h : HK w W0 W p cs K) : Calls Try.prog 23 #[.pointer (some ⟨p, 0, none⟩)] W fun e w' => e = .returned (.int .i64 (cs.length : Int)) ∧ W = w' := by
  obtain ⟨F, h1, h2⟩ := h.his
  exact many_any h1
theorem below_of_draw {B : Nat} {v W W' : World} {q : Nat} (h : Below B v W) (e : W' = W.drewN q) : Below B v W' := by rw [e]; exact Below.drewN_ h q
/-- Ints of a row that lies there and a literal -/
theorem ints_lit {v W : World} {B g n c : Nat} {A : Option Addr} {l : List Int} (h : Row v B 1 A n c (intC l)) (hB : B ≤ v.heap.size) (hb : Below v.heap.size v W) (hf : Full W g 3 (intC l)) (hn : n ≤ 1000) : Calls Try.prog 30 #[.slice A n c, .slice (some ⟨g, 0, none⟩) n n] W (QBool W true) := by
  have hl : l.length = n := len_of h
  have := ints_any (w := W) (B := W.heap.size) ((Row.below h hb hB).more (Nat.le_trans hB hb.size)) (hf.row 1 n (by rw [intC_len]; omega) n (Nat.le_refl _)) (by omega) (by omega)
  rwa [show decide (l = l) = true by simp] at this
set_option maxHeartbeats 16000000 in
theorem sane_any (w : World) : Calls Try.prog 14 #[] w (BoolB w true) := by
  unfold BoolB
  have NE := Lib.hid (new_any w 7)
  unfold NewOut at NE
  go_enter Try.func14, Try.ntmps14
  go_wp2_with (first
    | (go_at_call 34; ((with_reducible refine NE.out.mono ?_); rintro e w1 ⟨p, F, rfl, hI, hb1⟩))
    | (go_at_call 35; ((with_reducible refine (child_any (some ⟨w1.heap.size, 0, none⟩) 1 1 _).mono ?_); rintro e w2 ⟨rfl, hb2⟩))
    | (go_at_call 35; ((with_reducible refine (child_any (some ⟨w2.heap.size, 0, none⟩) 1 1 _).mono ?_); rintro e w3 ⟨rfl, hb3⟩))
    | (go_at_call 35; ((with_reducible refine (child_any (some ⟨w3.heap.size, 0, none⟩) 2 2 _).mono ?_); rintro e w4 ⟨rfl, hb4⟩))
    | (go_at_call 35; ((with_reducible refine (child_any (some ⟨w4.heap.size, 0, none⟩) 1 1 _).mono ?_); rintro e w5 ⟨rfl, hb5⟩))
    | (fail "arm"))
  have G1 := (Full.new w1 3 [.int .i64 1]).on hb2
  have G2 := (Full.new w2 3 [.int .i64 1]).on hb3
  have G3 := (Full.new w3 3 [.int .i64 2, .int .i64 3]).on hb4
  have G4 := (Full.new w4 3 [.int .i64 3]).on hb5
  have t2 := Below.then_ ((Below.refl _ w1).alloc (Nat.le_refl _) (.cells #[.int .i64 1] 3)) hb2
  have t3 := Below.then_ ((Below.refl _ w2).alloc (Nat.le_refl _) (.cells #[.int .i64 1] 3)) hb3
  have t4 := Below.then_ ((Below.refl _ w3).alloc (Nat.le_refl _) (.cells #[.int .i64 2, .int .i64 3] 3)) hb4
  have t5 := Below.then_ ((Below.refl _ w4).alloc (Nat.le_refl _) (.cells #[.int .i64 3] 3)) hb5
  have z2 := hb2.size
  have z3 := hb3.size
  have z4 := hb4.size
  have z5 := hb5.size
  simp only [World.size_alloc] at z2 z3 z4 z5
  obtain ⟨ob, hob⟩ : ∃ ob, Obj.cells #[Value.slice (some ⟨w1.heap.size, 0, none⟩) 1 1, Value.int .i64 0, Value.string ⟨#[]⟩, Value.slice none 0 0, Value.bool false, Value.slice (some ⟨w2.heap.size, 0, none⟩) 1 1, Value.int .i64 0, Value.string ⟨#[]⟩, Value.slice none 0 0, Value.bool false, Value.slice (some ⟨w3.heap.size, 0, none⟩) 2 2, Value.int .i64 0, Value.string ⟨#[]⟩, Value.slice none 0 0, Value.bool false, Value.slice (some ⟨w4.heap.size, 0, none⟩) 1 1, Value.int .i64 0, Value.string ⟨#[]⟩, Value.slice none 0 0, Value.bool false] 25 = ob := ⟨_, rfl⟩
  obtain ⟨W0, hW0⟩ : ∃ W0, w5.alloc ob = W0 := ⟨_, rfl⟩
  have G5 : Full W0 w5.heap.size 25 [Value.slice (some ⟨w1.heap.size, 0, none⟩) 1 1, Value.int .i64 0, Value.string ⟨#[]⟩, Value.slice none 0 0, Value.bool false, Value.slice (some ⟨w2.heap.size, 0, none⟩) 1 1, Value.int .i64 0, Value.string ⟨#[]⟩, Value.slice none 0 0, Value.bool false, Value.slice (some ⟨w3.heap.size, 0, none⟩) 2 2, Value.int .i64 0, Value.string ⟨#[]⟩, Value.slice none 0 0, Value.bool false, Value.slice (some ⟨w4.heap.size, 0, none⟩) 1 1, Value.int .i64 0, Value.string ⟨#[]⟩, Value.slice none 0 0, Value.bool false] := by
    rw [← hW0, ← hob]
    exact Full.new w5 25 _
  have t6 : Below w5.heap.size w5 W0 := by rw [← hW0]; exact (Below.refl _ w5).alloc (Nat.le_refl _) _
  have z6 : W0.heap.size = w5.heap.size + 1 := by rw [← hW0]; simp
  have g1 := Lib.hid ((((G1.on t3).on t4).on t5).on t6)
  have g2 := Lib.hid (((G2.on t4).on t5).on t6)
  have g3 := Lib.hid ((G3.on t5).on t6)
  have g4 := Lib.hid (G4.on t6)
  have g5 := Lib.hid G5
  have HM := Lib.hid ((HK.start hb1 hI).mark (Below.then_ (Below.then_ (Below.then_ (Below.then_ t2 t3) t4) t5) t6))
  obtain ⟨K, hK⟩ : ∃ K : Nat → Prop, (fun g => w1.heap.size ≤ g ∧ g < W0.heap.size) = K := ⟨_, rfl⟩
  rw [hK] at HM
  have hKK : ∀ g, w1.heap.size ≤ g → g < W0.heap.size → K g := fun g h1 h2 => by rw [← hK]; exact ⟨h1, h2⟩
  have K1 := Lib.hid (hKK w1.heap.size (by omega) (by omega))
  have K2 := Lib.hid (hKK w2.heap.size (by omega) (by omega))
  have K3 := Lib.hid (hKK w3.heap.size (by omega) (by omega))
  have K4 := Lib.hid (hKK w4.heap.size (by omega) (by omega))
  have K5 := Lib.hid (hKK w5.heap.size (by omega) (by omega))
  rw [hob, hW0]
  obtain ⟨b1, e1⟩ : ∃ b, w1.heap.size = b := ⟨_, rfl⟩
  obtain ⟨b2, e2⟩ : ∃ b, w2.heap.size = b := ⟨_, rfl⟩
  obtain ⟨b3, e3⟩ : ∃ b, w3.heap.size = b := ⟨_, rfl⟩
  obtain ⟨b4, e4⟩ : ∃ b, w4.heap.size = b := ⟨_, rfl⟩
  obtain ⟨b5, e5⟩ : ∃ b, w5.heap.size = b := ⟨_, rfl⟩
  rw [e1] at g1 g5 K1 ⊢
  rw [e2] at g2 g5 K2 ⊢
  rw [e3] at g3 g5 K3 ⊢
  rw [e4] at g4 g5 K4 ⊢
  rw [e5] at g5 K5 ⊢
  clear hb1 hb2 hb3 hb4 hb5 G1 G2 G3 G4 G5 t2 t3 t4 t5 t6 z2 z3 z4 z5 z6 hob hW0 hK hKK hI e1 e2 e3 e4 e5
  go_loopw [35] (fun v35 wr => ∃ k : Nat, v35 = .int .i64 (k : Int) ∧ k ≤ 4 ∧ Hid (HK w W0 wr p (cs5.take (k + 1)) K)) (fun v35 _ => 4 - (intOf v35).toNat)
  case atStart => exact ⟨0, rfl, by omega, HM⟩
  case round =>
    obtain ⟨k, rfl, hk, H⟩ := hrel
    have hcases : k = 0 ∨ k = 1 ∨ k = 2 ∨ k = 3 ∨ k = 4 := by omega
    rcases hcases with rfl | rfl | rfl | rfl | rfl
    · have AD := Lib.hid (show Calls Try.prog 16 #[.pointer (some ⟨p, 0, none⟩), .agg #[.slice (some ⟨b1, 0, none⟩) 1 1, .int .i64 0, .string ⟨#[]⟩, .slice none 0 0, .bool false]] (wr.alloc (.cells #[.slice (some ⟨b1, 0, none⟩) 1 1, .int .i64 0, .string ⟨#[]⟩, .slice none 0 0, .bool false] 25)) fun e W' => e = .returned (.tuple #[.int .i64 2, .int .i64 0]) ∧ HK w W0 W' p (cs5.take 2) K from
        (H.out.on ((Below.refl _ wr).alloc (Nat.le_refl _) (.cells #[.slice (some ⟨b1, 0, none⟩) 1 1, .int .i64 0, .string ⟨#[]⟩, .slice none 0 0, .bool false] 25))).addk (m := 2) (by decide) [1] g1.out K1.out rfl (by decide) rfl)
      have f := H.out.full g5.out K5.out
      have f0 : wr.cell? ⟨b5, 0, none⟩ = some (.slice (some ⟨b1, 0, none⟩) 1 1) := f.cell 0
      have f1 : wr.cell? ⟨b5, 1, none⟩ = some (.int .i64 0) := f.cell 1
      have f2 : wr.cell? ⟨b5, 2, none⟩ = some (.string ⟨#[]⟩) := f.cell 2
      have f3 : wr.cell? ⟨b5, 3, none⟩ = some (.slice none 0 0) := f.cell 3
      have f4 : wr.cell? ⟨b5, 4, none⟩ = some (.bool false) := f.cell 4
      clear f
      go_wp2_with (first | (go_at_call 16; ((with_reducible refine AD.out.mono ?_); rintro e w6 ⟨rfl, H6⟩)) | (fail "arm"))
      go_roundw
      case rel => exact ⟨1, rfl, by omega, Lib.hid H6⟩
      case measure => simp [intOf]
    · have AD := Lib.hid (show Calls Try.prog 16 #[.pointer (some ⟨p, 0, none⟩), .agg #[.slice (some ⟨b2, 0, none⟩) 1 1, .int .i64 0, .string ⟨#[]⟩, .slice none 0 0, .bool false]] (wr.alloc (.cells #[.slice (some ⟨b2, 0, none⟩) 1 1, .int .i64 0, .string ⟨#[]⟩, .slice none 0 0, .bool false] 25)) fun e W' => e = .returned (.tuple #[.int .i64 3, .int .i64 0]) ∧ HK w W0 W' p (cs5.take 3) K from
        (H.out.on ((Below.refl _ wr).alloc (Nat.le_refl _) (.cells #[.slice (some ⟨b2, 0, none⟩) 1 1, .int .i64 0, .string ⟨#[]⟩, .slice none 0 0, .bool false] 25))).addk (m := 3) (by decide) [1] g2.out K2.out rfl (by decide) rfl)
      have f := H.out.full g5.out K5.out
      have f0 : wr.cell? ⟨b5, 5, none⟩ = some (.slice (some ⟨b2, 0, none⟩) 1 1) := f.cell 5
      have f1 : wr.cell? ⟨b5, 6, none⟩ = some (.int .i64 0) := f.cell 6
      have f2 : wr.cell? ⟨b5, 7, none⟩ = some (.string ⟨#[]⟩) := f.cell 7
      have f3 : wr.cell? ⟨b5, 8, none⟩ = some (.slice none 0 0) := f.cell 8
      have f4 : wr.cell? ⟨b5, 9, none⟩ = some (.bool false) := f.cell 9
      clear f
      go_wp2_with (first | (go_at_call 16; ((with_reducible refine AD.out.mono ?_); rintro e w6 ⟨rfl, H6⟩)) | (fail "arm"))
      go_roundw
      case rel => exact ⟨2, rfl, by omega, Lib.hid H6⟩
      case measure => simp [intOf]
    · have AD := Lib.hid (show Calls Try.prog 16 #[.pointer (some ⟨p, 0, none⟩), .agg #[.slice (some ⟨b3, 0, none⟩) 2 2, .int .i64 0, .string ⟨#[]⟩, .slice none 0 0, .bool false]] (wr.alloc (.cells #[.slice (some ⟨b3, 0, none⟩) 2 2, .int .i64 0, .string ⟨#[]⟩, .slice none 0 0, .bool false] 25)) fun e W' => e = .returned (.tuple #[.int .i64 4, .int .i64 0]) ∧ HK w W0 W' p (cs5.take 4) K from
        (H.out.on ((Below.refl _ wr).alloc (Nat.le_refl _) (.cells #[.slice (some ⟨b3, 0, none⟩) 2 2, .int .i64 0, .string ⟨#[]⟩, .slice none 0 0, .bool false] 25))).addk (m := 4) (by decide) [2, 3] g3.out K3.out rfl (by decide) rfl)
      have f := H.out.full g5.out K5.out
      have f0 : wr.cell? ⟨b5, 10, none⟩ = some (.slice (some ⟨b3, 0, none⟩) 2 2) := f.cell 10
      have f1 : wr.cell? ⟨b5, 11, none⟩ = some (.int .i64 0) := f.cell 11
      have f2 : wr.cell? ⟨b5, 12, none⟩ = some (.string ⟨#[]⟩) := f.cell 12
      have f3 : wr.cell? ⟨b5, 13, none⟩ = some (.slice none 0 0) := f.cell 13
      have f4 : wr.cell? ⟨b5, 14, none⟩ = some (.bool false) := f.cell 14
      clear f
      go_wp2_with (first | (go_at_call 16; ((with_reducible refine AD.out.mono ?_); rintro e w6 ⟨rfl, H6⟩)) | (fail "arm"))
      go_roundw
      case rel => exact ⟨3, rfl, by omega, Lib.hid H6⟩
      case measure => simp [intOf]
    · have AD := Lib.hid (show Calls Try.prog 16 #[.pointer (some ⟨p, 0, none⟩), .agg #[.slice (some ⟨b4, 0, none⟩) 1 1, .int .i64 0, .string ⟨#[]⟩, .slice none 0 0, .bool false]] (wr.alloc (.cells #[.slice (some ⟨b4, 0, none⟩) 1 1, .int .i64 0, .string ⟨#[]⟩, .slice none 0 0, .bool false] 25)) fun e W' => e = .returned (.tuple #[.int .i64 5, .int .i64 0]) ∧ HK w W0 W' p (cs5.take 5) K from
        (H.out.on ((Below.refl _ wr).alloc (Nat.le_refl _) (.cells #[.slice (some ⟨b4, 0, none⟩) 1 1, .int .i64 0, .string ⟨#[]⟩, .slice none 0 0, .bool false] 25))).addk (m := 5) (by decide) [3] g4.out K4.out rfl (by decide) rfl)
      have f := H.out.full g5.out K5.out
      have f0 : wr.cell? ⟨b5, 15, none⟩ = some (.slice (some ⟨b4, 0, none⟩) 1 1) := f.cell 15
      have f1 : wr.cell? ⟨b5, 16, none⟩ = some (.int .i64 0) := f.cell 16
      have f2 : wr.cell? ⟨b5, 17, none⟩ = some (.string ⟨#[]⟩) := f.cell 17
      have f3 : wr.cell? ⟨b5, 18, none⟩ = some (.slice none 0 0) := f.cell 18
      have f4 : wr.cell? ⟨b5, 19, none⟩ = some (.bool false) := f.cell 19
      clear f
      go_wp2_with (first | (go_at_call 16; ((with_reducible refine AD.out.mono ?_); rintro e w6 ⟨rfl, H6⟩)) | (fail "arm"))
      go_roundw
      case rel => exact ⟨4, rfl, by omega, Lib.hid H6⟩
      case measure => simp [intOf]
    · have H4 := Lib.hid (show HK w W0 wr p cs5 K from H.out)
      clear H g1 g2 g3 g4 g5 K1 K2 K3 K4 K5 HM NE
      have e22 : canBe cs5.length [2, 2] = false := by decide
      have e0 : canBe cs5.length [] = false := by decide
      have e9 : canBe cs5.length [9] = false := by decide
      go_upto_region 15 with (first
        | (go_at_call 35; ((with_reducible refine (child_any (some ⟨wr.heap.size, 0, none⟩) 2 2 _).mono ?_); rintro e v1 ⟨rfl, hbv1⟩; (have HV1 := (H4.out.on ((Below.refl _ wr).alloc (Nat.le_refl _) (.cells #[.int .i64 2, .int .i64 2] 3))).on hbv1); (have rv1 : Row v1 v1.heap.size 1 (some ⟨wr.heap.size, 0, none⟩) 2 2 (intC [2, 2]) := ((Full.new wr 3 [.int .i64 2, .int .i64 2]).on hbv1).row 1 2 rfl 2 (Nat.le_refl _))))
        | (go_at_call 16; ((with_reducible refine (HV1.addn (by decide) [2, 2] rv1 (by omega) e22).mono ?_); rintro e v2 ⟨rfl, HV2⟩))
        | (go_at_call 35; ((with_reducible refine (child_any none 0 0 _).mono ?_); rintro e v3 ⟨rfl, hbv3⟩; (have HV3 := HV2.on hbv3)))
        | (go_at_call 16; ((with_reducible refine (HV3.addn (by decide) [] (empty_row v3) (by omega) e0).mono ?_); rintro e v4 ⟨rfl, HV4⟩))
        | (go_at_call 35; ((with_reducible refine (child_any (some ⟨v4.heap.size, 0, none⟩) 1 1 _).mono ?_); rintro e v5 ⟨rfl, hbv5⟩; (have HV5 := (HV4.on ((Below.refl _ v4).alloc (Nat.le_refl _) (.cells #[.int .i64 9] 3))).on hbv5); (have rv5 : Row v5 v5.heap.size 1 (some ⟨v4.heap.size, 0, none⟩) 1 1 (intC [9]) := ((Full.new v4 3 [.int .i64 9]).on hbv5).row 1 1 rfl 1 (Nat.le_refl _))))
        | (go_at_call 16; ((with_reducible refine (HV5.addn (by decide) [9] rv5 (by omega) e9).mono ?_); rintro e v6 ⟨rfl, HV6⟩))
        | (fail "arm"))
      have HL := Lib.hid (fun (W : World) (h : HK w W0 W p cs5 K) (a b : Int) => h.line_ (by decide) a b)
      have L14 := Lib.hid (fun (W : World) (h : HK w W0 W p cs5 K) => (show Calls Try.prog 28 #[.pointer (some ⟨p, 0, none⟩), .int .i64 1, .int .i64 4] W (LineOut W true [2, 4]) from by
        have := HL.out W h 1 4
        rwa [cs5_line1.1, cs5_line1.2] at this))
      have L34 := Lib.hid (fun (W : World) (h : HK w W0 W p cs5 K) => (show Calls Try.prog 28 #[.pointer (some ⟨p, 0, none⟩), .int .i64 3, .int .i64 4] W (LineOut W false []) from by
        have := HL.out W h 3 4
        rwa [cs5_line2.1, cs5_line2.2] at this))
      have L35 := Lib.hid (fun (W : World) (h : HK w W0 W p cs5 K) => (show Calls Try.prog 28 #[.pointer (some ⟨p, 0, none⟩), .int .i64 3, .int .i64 5] W (LineOut W true [5]) from by
        have := HL.out W h 3 5
        rwa [cs5_line3.1, cs5_line3.2] at this))
      have GE1 := Lib.hid (fun (W : World) (h : HK w W0 W p cs5 K) => (show Calls Try.prog 20 #[.pointer (some ⟨p, 0, none⟩), .int .i64 1] W (fun e w' => ∃ A5 c5 A6 c6, e = .returned (.tuple #[.agg #[.slice A5 0 c5, .int .i64 7, .string ⟨#[]⟩, .slice A6 0 c6, .bool false], .bool true]) ∧ Below W.heap.size W w') from by
        have := h.get_ (by decide) (fun c hc => by
          have : c.ch = [] := by
            unfold cs5 at hc
            simp [c7, chC] at hc
            rcases hc with rfl | rfl | rfl | rfl <;> rfl
          rw [this]; simp) 1
        rw [cs5_get.1, cs5_get.2] at this
        refine this.mono ?_
        rintro e w' ⟨A5, c5, A6, c6, rfl, _, _, _, hb⟩
        exact ⟨A5, c5, A6, c6, rfl, hb⟩))
      have A34 := Lib.hid (fun (W : World) (h : HK w W0 W p cs5 K) => (show Calls Try.prog 24 #[.pointer (some ⟨p, 0, none⟩), .int .i64 3, .int .i64 4] W (BoolB W true) from by
        have := h.anc_ (by decide) 3 4
        rwa [cs5_anc1] at this))
      have A25 := Lib.hid (fun (W : World) (h : HK w W0 W p cs5 K) => (show Calls Try.prog 24 #[.pointer (some ⟨p, 0, none⟩), .int .i64 2, .int .i64 5] W (BoolB W false) from by
        have := h.anc_ (by decide) 2 5
        rwa [cs5_anc2] at this))
      have B45 := Lib.hid (fun (W : World) (h : HK w W0 W p cs5 K) => (show Calls Try.prog 26 #[.pointer (some ⟨p, 0, none⟩), .int .i64 4, .int .i64 5] W (fun e w' => e = .returned (.int .i64 3) ∧ Below W.heap.size W w') from by
        have := h.base_ (by decide) 4 5
        rwa [cs5_base1] at this))
      have B23 := Lib.hid (fun (W : World) (h : HK w W0 W p cs5 K) => (show Calls Try.prog 26 #[.pointer (some ⟨p, 0, none⟩), .int .i64 2, .int .i64 3] W (fun e w' => e = .returned (.int .i64 1) ∧ Below W.heap.size W w') from by
        have := h.base_ (by decide) 2 3
        rwa [cs5_base2] at this))
      have B53 := Lib.hid (fun (W : World) (h : HK w W0 W p cs5 K) => (show Calls Try.prog 26 #[.pointer (some ⟨p, 0, none⟩), .int .i64 5, .int .i64 3] W (fun e w' => e = .returned (.int .i64 3) ∧ Below W.heap.size W w') from by
        have := h.base_ (by decide) 5 3
        rwa [cs5_base3] at this))
      have LG4 := Lib.hid (fun (W : World) (h : HK w W0 W p cs5 K) => (show Calls Try.prog 31 #[.pointer (some ⟨p, 0, none⟩), .int .i64 4] W (IntsOut W [4, 3, 2, 1]) from by
        have := h.log_ (by decide) 4
        rwa [cs5_log] at this))
      unfold LineOut at L14 L34 L35
      unfold BoolB at A34 A25
      unfold IntsOut at LG4
      clear HL H4 HV1 HV2 HV3 HV4 HV5 rv1 rv5 hbv1 hbv3 hbv5 e22 e0 e9
      go_upto_region 18 with (first
        | (go_at_call 28; ((with_reducible refine (L14.out _ HV6).mono ?_); rintro e v7 ⟨X7, x7, rfl, ro7, hbv7⟩; (have HV7 := HV6.on hbv7)))
        | (go_at_call 28; ((with_reducible refine (L34.out _ HV7).mono ?_); rintro e v8 ⟨X8, x8, rfl, ro8, hbv8⟩; (have HV8 := HV7.on hbv8)))
        | (go_at_call 28; ((with_reducible refine (L35.out _ HV8).mono ?_); rintro e v9 ⟨X9, x9, rfl, ro9, hbv9⟩; (have HV9 := HV8.on hbv9)))
        | (fail "arm"))
      have r7 := Lib.hid (((Row.own ro7).on hbv8).on hbv9)
      have r9 := Lib.hid (Row.own ro9)
      clear ro7 ro8 ro9
      go_wp2_with (first
        | (go_at_call 20; ((with_reducible refine (GE1.out _ HV9).mono ?_); rintro e v10 ⟨X10, x10, Y10, y10, rfl, hbv10⟩; (have HV10 := HV9.on hbv10); (have hbV : Below v10.heap.size v10 (v10.alloc (.cells [.slice X10 0 x10, .int .i64 7, .string ⟨#[]⟩, .slice Y10 0 y10, .bool false].toArray 25)) := (Below.refl _ v10).alloc (Nat.le_refl _) _); (have HVV := HV10.on hbV); (have FV := Full.new v10 25 [.slice X10 0 x10, .int .i64 7, .string ⟨#[]⟩, .slice Y10 0 y10, .bool false])))
        | (go_at_call 24; ((with_reducible refine (A34.out _ HVV).mono ?_); rintro e v11 ⟨rfl, hbv11⟩; (have HV11 := HVV.on hbv11)))
        | (go_at_call 24; ((with_reducible refine (A25.out _ HV11).mono ?_); rintro e v12 ⟨rfl, hbv12⟩; (have HV12 := HV11.on hbv12)))
        | (go_at_call 26; ((with_reducible refine (B45.out _ HV12).mono ?_); rintro e v13 ⟨rfl, hbv13⟩; (have HV13 := HV12.on hbv13)))
        | (go_at_call 26; ((with_reducible refine (B23.out _ HV13).mono ?_); rintro e v14 ⟨rfl, hbv14⟩; (have HV14 := HV13.on hbv14)))
        | (go_at_call 26; ((with_reducible refine (B53.out _ HV14).mono ?_); rintro e v15 ⟨rfl, hbv15⟩; (have HV15 := HV14.on hbv15)))
        | (go_at_call 31; ((with_reducible refine (LG4.out _ HV15).mono ?_); rintro e v16 ⟨L16, l16, rfl, ro16, hbv16⟩; (have bV := Below.then_ (Below.then_ (Below.then_ (Below.then_ (Below.then_ hbv11 hbv12) hbv13) hbv14) hbv15) hbv16); (have b9 := Below.then_ (Below.then_ hbv10 hbV) bV); (have HV16 := HV15.on hbv16); (have r16 : Row v16 v16.heap.size 1 L16 4 l16 (intC [4, 3, 2, 1]) := Row.own ro16); (have r716 : Row v16 v16.heap.size 1 X7 2 x7 (intC [2, 4]) := r7.out.on b9); (have r916 : Row v16 v16.heap.size 1 X9 1 x9 (intC [5]) := r9.out.on b9); (have FV16 := FV.on bV)))
        | (go_at_call 30; ((with_reducible refine (ints_lit r16 (Nat.le_refl _) ((Below.refl _ v16).alloc (Nat.le_refl _) (.cells [.int .i64 4, .int .i64 3, .int .i64 2, .int .i64 1].toArray 3)) (Full.new v16 3 [.int .i64 4, .int .i64 3, .int .i64 2, .int .i64 1]) (by omega)).mono ?_); rintro e v17 ⟨rfl, q1, hq1⟩; (have b17 := below_of_draw ((Below.refl _ v16).alloc (Nat.le_refl _) (.cells [.int .i64 4, .int .i64 3, .int .i64 2, .int .i64 1].toArray 3)) hq1); clear hq1))
        | (go_at_call 30; ((with_reducible refine (ints_lit (r716.on b17) (Nat.le_refl _) ((Below.refl _ v17).alloc (Nat.le_refl _) (.cells [.int .i64 2, .int .i64 4].toArray 3)) (Full.new v17 3 [.int .i64 2, .int .i64 4]) (by omega)).mono ?_); rintro e v18 ⟨rfl, q2, hq2⟩; (have b18 := Below.then_ b17 (below_of_draw ((Below.refl _ v17).alloc (Nat.le_refl _) (.cells [.int .i64 2, .int .i64 4].toArray 3)) hq2)); clear hq2))
        | (go_at_call 30; ((with_reducible refine (ints_lit (r916.on b18) (Nat.le_refl _) ((Below.refl _ v18).alloc (Nat.le_refl _) (.cells [.int .i64 5].toArray 3)) (Full.new v18 3 [.int .i64 5]) (by omega)).mono ?_); rintro e v19 ⟨rfl, q3, hq3⟩; (have b19 := Below.then_ b18 (below_of_draw ((Below.refl _ v18).alloc (Nat.le_refl _) (.cells [.int .i64 5].toArray 3)) hq3)); (have k19 : v19.cell? ⟨v10.heap.size, 1, none⟩ = some (.int .i64 7) := (FV16.on b19).cell 1); clear hq3))
        | (fail "arm"))
      go_ret
      exact ⟨rfl, Below.then_ HV16.below b19⟩
end Go.Proofs.Ytiikbekboapphaa
