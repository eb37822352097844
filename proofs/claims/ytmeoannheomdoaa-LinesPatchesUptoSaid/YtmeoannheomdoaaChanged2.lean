/- ref.Changed: some list of short lines. -/
import Derived.Test.YtmeoannheomdoaaList
import Derived.Test.YtmeoannheomdoaaInsert
namespace Go.Proofs.Ytmeoannheomdoaa
open Go.RowKit

theorem and_small (z : Int) (m : Nat) (hm : m < 4294967296) : ∃ r : Nat, r ≤ m ∧ bits .and .i64 z (m : Int) = (r : Int) := by
  refine ⟨(BitVec.ofInt 64 z).toNat &&& m, Nat.and_le_right, ?_⟩
  have h := Nat.and_le_right (n := (BitVec.ofInt 64 z).toNat) (m := m)
  have hb : (BitVec.ofInt 64 (m : Int)).toNat = m := by
    rw [BitVec.ofInt_natCast, BitVec.toNat_ofNat]
    exact Nat.mod_eq_of_lt (by omega)
  show IntKind.i64.wrap (((BitVec.ofInt 64 z) &&& (BitVec.ofInt 64 (m : Int))).toNat : Int) = _
  rw [BitVec.toNat_and, hb, IntKind.wrap_i64]
  omega

abbrev Trip := Int × Int × Int
def tripC (q : Trip) : List Value := [.int .i64 q.1, .int .i64 q.2.1, .int .i64 q.2.2]
theorem tripC_len (q : Trip) : (tripC q).length = 3 := rfl
def tripsC (qs : List Trip) : List Value := qs.flatMap tripC
def Trips (w : World) (B : Nat) (A : Option Addr) (c : Nat) (qs : List Trip) : Prop := Row w B 3 A qs.length c (tripsC qs)
theorem row3 {w : World} {B : Nat} {A : Option Addr} {n c : Nat} {xs : List Value} (h : Row w B 3 A n c xs) {k : Nat} {u0 u1 u2 : Value} (h0 : xs[k * 3 + 0]? = some u0) (h1 : xs[k * 3 + 1]? = some u1) (h2 : xs[k * 3 + 2]? = some u2) :
    ∃ ad, A = some ad ∧ ad.block < B ∧ w.cell? (ad.add (k * 3)) = some u0 ∧ w.cell? ⟨(ad.add (k * 3)).block, (ad.add (k * 3)).off + 1, none⟩ = some u1 ∧ w.cell? ⟨(ad.add (k * 3)).block, (ad.add (k * 3)).off + 2, none⟩ = some u2 := by
  obtain ⟨ad, e, hb, c0⟩ := h.2.2.2 _ _ h0
  obtain ⟨ad1, e1, _, c1⟩ := h.2.2.2 _ _ h1
  obtain ⟨ad2, e2, _, c2⟩ := h.2.2.2 _ _ h2
  rw [e] at e1 e2
  injection e1 with e1
  injection e2 with e2
  subst e1 e2
  rw [← add_twice] at c1 c2
  exact ⟨ad, e, hb, c0, c1, c2⟩
theorem lineI_size (z : Int) : (lineI z).size = 2 := by
  have := (digit_eq z).2
  unfold lineI
  rw [ByteArray.size_append]
  have h : (letters12.extract (digitOf z) (digitOf z + 1)).size = 1 := by
    have : letters12.size = 12 := rfl
    simp
    omega
  rw [h]; rfl
/-- short lines -/
def Shorts (L : List ByteArray) : Prop := ∀ x ∈ L, x.size ≤ 2
def SomeOut (w : World) (n : Nat) (e : Ending) (w' : World) : Prop := ∃ A c m L, e = .returned (.slice A m c) ∧ m ≤ n ∧ L.length = m ∧ Shorts L ∧ Strs w' w'.heap.size A c L ∧ Below w.heap.size w w'
def LineOut (w : World) (x : ByteArray) (e : Ending) (w' : World) : Prop := ∃ g c, e = .returned (.slice (some ⟨g, 0, none⟩) 1 c) ∧ w'.cell? ⟨g, 0, none⟩ = some (.string x) ∧ Below w.heap.size w w'
theorem line_one (z : Int) (W : World) : Calls Try.prog 37 #[.slice (some ⟨W.heap.size, 0, none⟩) 1 1] (W.alloc (.cells #[.int .i64 z] 3)) (LineOut W (lineI z)) := by
  have hI : Ints (W.alloc (.cells #[.int .i64 z] 3)) (W.heap.size + 1) (some ⟨W.heap.size, 0, none⟩) 1 [z] := by
    refine ⟨rfl, Nat.le_refl _, fun e => (by cases e), fun j u hj => ⟨_, rfl, Nat.lt_succ_self _, ?_⟩⟩
    exact cell_one_new W (.int .i64 z) 3 j u hj
  refine (refLines_any (W.heap.size + 1) (some ⟨W.heap.size, 0, none⟩) [z] 1 _ hI (by simp) (by simp)).mono ?_
  rintro e w' ⟨A, c, rfl, ho, hb⟩
  obtain ⟨g, cap, hv, _, _⟩ := ho.form (by simp)
  rw [hv] at ho
  refine ⟨g, cap, congrArg Ending.returned hv, ?_, Below.then_ ((Below.refl _ W).alloc (Nat.le_refl _) _) hb⟩
  exact ho.cellAt 0 (by simp)
theorem nil_h (W : World) : (Instr.slice 23 (.slice none 0 0) none (some (.int .i64 0)) none).run Try.prog W = .ok (.slice none 0 0) W := by
  obtain ⟨A', h, _⟩ := cut_h 23 9 1 Try.underlying23 (fun _ => by kernel_rfl) none 0 0 0 (Nat.le_refl _) (Nat.le_refl _)
  have he : Try.prog.elem 23 = 9 := by simp [Program.elem, Try.underlying23]
  have := run_slice_h W 23 none 0 0 (by rw [he]; exact Try.underlying23) .i64 0 (by omega) (by omega)
  rw [he, show (Go.sizeOf 9).run Try.prog W = .ok 1 W from by kernel_rfl] at this
  exact this
theorem nil_l (W : World) : (Instr.slice 23 (.slice none 0 0) (some (.int .i64 0)) none none).run Try.prog W = .ok (.slice none 0 0) W := by
  have he : Try.prog.elem 23 = 9 := by simp [Program.elem, Try.underlying23]
  have := run_slice_l W 23 none 0 0 (by rw [he]; exact Try.underlying23) .i64 0 (by omega) (by omega)
  rw [he, show (Go.sizeOf 9).run Try.prog W = .ok 1 W from by kernel_rfl] at this
  exact this
theorem strC_app (a b : List ByteArray) : strC (a ++ b) = strC a ++ strC b := by unfold strC; rw [List.map_append]
theorem own_val {w : World} {base n : Nat} {v : Value} {xs : List Value} (h : w.ownsRow base 9 1 v n xs) : ∃ A c, v = .slice A n c := by
  rcases h.2 with ⟨rfl, rfl⟩ | ⟨g, cap, _, rfl, _⟩
  · exact ⟨_, _, rfl⟩
  · exact ⟨_, _, rfl⟩
theorem own_row {w : World} {base n c : Nat} {A : Option Addr} {xs : List Value} (h : w.ownsRow base 9 1 (.slice A n c) n xs) : (A = none ∧ n = 0 ∧ c = 0) ∨ ∃ g, A = some ⟨g, 0, none⟩ ∧ n ≤ c := by
  rcases h.2 with ⟨hv, h0⟩ | ⟨g, cap, cur, hv, _, _, hle, _⟩
  · injection hv with h1 h2 h3
    exact .inl ⟨h1, h0, h3⟩
  · injection hv with h1 h2 h3
    subst h3
    exact .inr ⟨g, h1, hle⟩
theorem own_grow {w W W' : World} {n : Nat} {v : Value} {xs : List Value} (hB : Below w.heap.size w W) (h : W.ownsRow w.heap.size 9 1 v n xs) (hg : W.grownBy W' v.ownBlock) : Below w.heap.size w W' := hB.grown hg hB.size (row_ge h)
theorem own_apart {w4 : World} {base n c g : Nat} {u : Value} {xs : List Value} (h : w4.ownsRow base 9 1 (.slice (some ⟨g, 0, none⟩) n c) n xs) (hl : u.ownBlock = (Value.slice none 0 0).ownBlock ∨ u.ownBlock = some w4.heap.size) : (Value.slice (some ⟨g, 0, none⟩) n c).ownBlock ≠ u.ownBlock := by
  have hlt : g < w4.heap.size := by
    rcases h.2 with ⟨hv, _⟩ | ⟨g', cap, cur, hv, _, hg, _⟩
    · cases hv
    · obtain ⟨rfl, _⟩ : g = g' ∧ c = cap := by simpa using hv
      exact (Array.getElem?_eq_some_iff.1 hg).1
  intro e
  rcases hl with hl | hl
  · rw [hl] at e
    simp [Value.ownBlock] at e
  · rw [hl] at e
    have e' : g = w4.heap.size := by simpa [Value.ownBlock] using e
    omega
/-- the row of the loop -/
structure Some1 (w wr : World) (m c n : Nat) (A : Option Addr) : Prop where
  le : m ≤ n
  row : ∃ L, Shorts L ∧ wr.ownsRow w.heap.size 9 1 (.slice A m c) m (strC L)
  below : Below w.heap.size w wr
theorem some1_of {w wr : World} {m c n : Nat} {A : Option Addr} {xs : List Value} {L : List ByteArray} (h : wr.ownsRow w.heap.size 9 1 (.slice A m c) m xs) (e : xs = strC L) (hL : Shorts L) (hm : m ≤ n) (hb : Below w.heap.size w wr) : Some1 w wr m c n A := ⟨hm, ⟨L, hL, e ▸ h⟩, hb⟩
theorem own_len {w : World} {base n m c : Nat} {A : Option Addr} {xs : List Value} (h : w.ownsRow base 9 1 (.slice A n c) n xs) (e : n = m) : w.ownsRow base 9 1 (.slice A m c) m xs := e ▸ h
theorem some1_out {w wr : World} {m c n k : Nat} {A : Option Addr} (h : Some1 w wr m c (n + k) A) (hk : k ≤ 6) : SomeOut w (n + 6) (.returned (.slice A m c)) wr := by
  obtain ⟨L, hL, ho⟩ := h.row
  have := h.le
  exact ⟨A, c, m, L, rfl, by omega, (Strs.own ho).1.symm, hL, (Strs.own ho).2, h.below⟩
theorem shorts_app {a b : List ByteArray} (ha : Shorts a) (hb : Shorts b) : Shorts (a ++ b) := fun x hx => (List.mem_append.1 hx).elim (ha x) (hb x)
theorem shorts_take {a : List ByteArray} (ha : Shorts a) (k : Nat) : Shorts (a.take k) := fun x hx => ha x (List.mem_of_mem_take hx)
theorem shorts_drop {a : List ByteArray} (ha : Shorts a) (k : Nat) : Shorts (a.drop k) := fun x hx => ha x (List.mem_of_mem_drop hx)
theorem shorts_one {x : ByteArray} (h : x.size ≤ 2) : Shorts [x] := fun y hy => by rw [List.mem_singleton.1 hy]; exact h
theorem strC_take (L : List ByteArray) (k : Nat) : (strC L).take k = strC (L.take k) := by unfold strC; rw [List.map_take]
theorem strC_drop1 (L : List ByteArray) (k : Nat) : (strC L).drop k = strC (L.drop k) := by unfold strC; rw [List.map_drop]
set_option maxRecDepth 100000 in
set_option maxHeartbeats 8000000 in
theorem refChanged_any (B : Nat) (A : Option Addr) (l : List ByteArray) (c n : Nat) (Q : Option Addr) (qs : List Trip) (d p : Nat) (w : World) (hS : Strs w w.heap.size A c l) (hl : Shorts l) (hn : l.length = n) (hn2 : n ≤ 100)
    (hQ : Trips w B Q d qs) (hB : B ≤ w.heap.size) (hp : qs.length = p) (hp2 : p ≤ maxLen) :
    Calls Try.prog 21 #[.slice A n c, .slice Q p d] w (SomeOut w (n + 6)) := by
  unfold maxLen at hp2
  obtain ⟨i9, hi, hz0, hz1, hz2⟩ := info_parts info9
  have hcap : n ≤ c := by have := hS.cap; omega
  have hcapQ : p ≤ d := by have := hQ.2.1; omega
  have HQ := Lib.hid hQ
  have HP := Lib.hid hp
  have HLQ := Lib.hid hl
  have HN := Lib.hid hn
  have RL := Lib.hid (fun (z : Int) (W : World) => line_one z W)
  clear hQ hp hl hn
  cases A with
  | none =>
    obtain rfl : c = 0 := hS.nil_ rfl
    obtain rfl : n = 0 := by omega
    clear hS
    go_enter Try.func21, Try.ntmps21
    go_wp2_with (at_builtin; refine wpList_append_own_none rfl _ _ 23 rfl w.heap.size 9 i9 1 Try.underlying23 hi (.slice (some ⟨w.heap.size, 0, none⟩) 0 0) 0 [] rfl (empty_row w) rfl ?_)
    have h0 : Some1 w (w.alloc (.cells #[] 9)) 0 0 0 (some ⟨w.heap.size, 0, none⟩) := ⟨Nat.le_refl _, ⟨[], (fun x h => by cases h), empty_row w⟩, (Below.refl _ w).alloc (Nat.le_refl _) _⟩
    go_loopw [5, 6] (fun v5 v6 wr => ∃ (k m : Nat) (A : Option Addr) (c : Nat), k ≤ p ∧ k ≤ 6 ∧ v6 = .int .i64 (k : Int) ∧ v5 = .slice A m c ∧ Some1 w wr m c (0 + k) A) (fun _ v6 _ => p - (intOf v6).toNat)
    case atStart => exact ⟨0, 0, _, 0, by omega, by omega, rfl, rfl, h0⟩
    case round =>
      obtain ⟨k, m, A, c, hk, hk6, rfl, rfl, hs⟩ := hrel
      have hi0 : (0 : Int) ≤ (k : Int) := Int.natCast_nonneg _
      by_cases hlt : k < p ∧ k < 6
      · obtain ⟨hlt, h6⟩ := hlt
        have hi1 : (k : Int) < (p : Int) := by omega
        have hi6 : (k : Int) < 6 := by omega
        have hkl : k < qs.length := by have := HP.out; omega
        obtain ⟨⟨z0, z1, z2⟩, hq⟩ : ∃ q, qs[k] = q := ⟨_, rfl⟩
        have t0 := flat_at tripC 3 tripC_len qs k 0 hkl (by omega)
        have t1 := flat_at tripC 3 tripC_len qs k 1 hkl (by omega)
        have t2 := flat_at tripC 3 tripC_len qs k 2 hkl (by omega)
        rw [hq] at t0 t1 t2
        obtain ⟨qd, hQd, hqb, q0, q1, q2⟩ := row3 (Row.below HQ.out hs.below hB) t0 t1 t2
        subst hQd
        obtain ⟨r, hr, er⟩ := and_small z1 65535 (by decide)
        obtain ⟨r0, hr0, er0⟩ := and_small z0 3 (by decide)
        have er : bits .and .i64 z1 65535 = (r : Int) := er
        have er0 : bits .and .i64 z0 3 = (r0 : Int) := er0
        have hm6 := hs.le
        obtain ⟨t, ht, et⟩ : ∃ t : Nat, t ≤ m ∧ (r : Int) % ((m : Int) + 1) = (t : Int) := by
          have h1 := Int.emod_nonneg (r : Int) (b := (m : Int) + 1) (by omega)
          have h2 := Int.emod_lt_of_pos (r : Int) (b := (m : Int) + 1) (by omega)
          exact ⟨((r : Int) % ((m : Int) + 1)).toNat, by omega, by omega⟩
        obtain ⟨L, hLs, how⟩ := hs.row
        have HBW := Lib.hid hs.below
        have QC := Lib.hid (fun (W : World) (hW : Below w.heap.size w W) => (show W.cell? (qd.add (k * 3)) = some (.int .i64 z0) from (row3 (Row.below HQ.out hW hB) t0 t1 t2).elim (fun ad' h => by have e := Option.some.inj h.1; rw [e]; exact h.2.2.1)))
        obtain ⟨x, HX⟩ : ∃ x, Hid (lineI z2 = x) := ⟨_, Lib.hid rfl⟩
        have hxs : x.size ≤ 2 := by rw [← HX.out, lineI_size]; omega
        have hLm : L.length = m := (Strs.own how).1.symm
        clear hs t0 t1 t2 hq
        rcases own_row how with ⟨rfl, rfl, rfl⟩ | ⟨g2, rfl, hmc⟩
        · obtain rfl : t = 0 := by omega
          have r1 := nil_h
          have r2 := nil_l
          have HOW := Lib.hid how
          have SH : Hid (Shorts [x]) := Lib.hid (shorts_one hxs)
          clear how hLm et
          by_cases h2 : r0 < 2
          · have i2 : (r0 : Int) < 2 := by omega
            by_cases h5 : 0 < r0
            · have i3 : (0 : Int) < (r0 : Int) := by omega
              go_wp2_with (first
                | (go_at_call 37; ((with_reducible refine (RL.out _ _).mono ?_); rintro e' w4 ⟨g4, c4, rfl, hx4, hb4⟩); (rw [HX.out] at hx4); (have hB4 := Below.then_ HBW.out hb4); (have q04 : w4.cell? (qd.add (k * 3)) = some (.int .i64 z0) := QC.out w4 hB4))
                | (at_builtin; refine wpList_append_own_at _ rfl _ _ 23 rfl w.heap.size 9 i9 _ 1 16 Try.underlying23 hi hz0 hz1 hz2 rfl (by decide) (.slice none 0 0) 0 [] rfl (World.ownsRow_nil _ _ _ _) ⟨w4.heap.size, 0, none⟩ 1 1 [.string x] rfl rfl (cell_one_new w4 (.string x) 9) (by simp [Value.oneCell']) (by unfold maxLen; omega) (by omega) (by have := hB4.size; simp; omega) ?_; intro v6 w6 ho6 hg6 _ _; rw [Nat.zero_add, List.nil_append] at ho6; obtain ⟨A6, c6, rfl⟩ := own_val ho6; have hb6 : Below w.heap.size w w6 := (hB4.alloc hB4.size (.cells #[.string x] 9)).grown hg6 (by have := hB4.size; simp; omega) (by simp [Value.ownBlock]); have q06 : w6.cell? (qd.add (k * 3)) = some (.int .i64 z0) := QC.out w6 hb6)
                | (at_builtin; refine wpList_append_own_none rfl _ _ 23 rfl w.heap.size 9 i9 1 Try.underlying23 hi (.slice A6 1 c6) 1 [.string x] rfl ho6 rfl ?_))
              go_roundw
              case rel => exact ⟨k + 1, 1, A6, c6, by omega, by omega, by go_num, rfl, some1_of (L := [x]) ho6 rfl SH.out (by omega) hb6⟩
              case measure => simp [intOf]; omega
            · have i3 : ¬ (0 : Int) < (r0 : Int) := by omega
              go_wp2_with (first
                | (go_at_call 37; ((with_reducible refine (RL.out _ _).mono ?_); rintro e' w4 ⟨g4, c4, rfl, hx4, hb4⟩); (rw [HX.out] at hx4); (have hB4 := Below.then_ HBW.out hb4); (have q04 : w4.cell? (qd.add (k * 3)) = some (.int .i64 z0) := QC.out w4 hB4))
                | (at_builtin; refine wpList_append_own_at _ rfl _ _ 23 rfl w.heap.size 9 i9 _ 1 16 Try.underlying23 hi hz0 hz1 hz2 rfl (by decide) (.slice none 0 0) 0 [] rfl (World.ownsRow_nil _ _ _ _) ⟨w4.heap.size, 0, none⟩ 1 1 [.string x] rfl rfl (cell_one_new w4 (.string x) 9) (by simp [Value.oneCell']) (by unfold maxLen; omega) (by omega) (by have := hB4.size; simp; omega) ?_; intro v6 w6 ho6 hg6 _ _; rw [Nat.zero_add, List.nil_append] at ho6; obtain ⟨A6, c6, rfl⟩ := own_val ho6; have hb6 : Below w.heap.size w w6 := (hB4.alloc hB4.size (.cells #[.string x] 9)).grown hg6 (by have := hB4.size; simp; omega) (by simp [Value.ownBlock]); have q06 : w6.cell? (qd.add (k * 3)) = some (.int .i64 z0) := QC.out w6 hb6)
                | (at_builtin; refine wpList_append_own_none rfl _ _ 23 rfl w.heap.size 9 i9 1 Try.underlying23 hi (.slice A6 1 c6) 1 [.string x] rfl ho6 rfl ?_))
              go_roundw
              case rel => exact ⟨k + 1, 1, A6, c6, by omega, by omega, by go_num, rfl, some1_of (L := [x]) ho6 rfl SH.out (by omega) hb6⟩
              case measure => simp [intOf]; omega
          · have i2 : ¬ (r0 : Int) < 2 := by omega
            have i3 : (0 : Int) < (r0 : Int) := by omega
            go_wp2_with (first
              | (go_at_call 37; ((with_reducible refine (RL.out _ _).mono ?_); rintro e' w4 ⟨g4, c4, rfl, hx4, hb4⟩); (rw [HX.out] at hx4); (have hB4 := Below.then_ HBW.out hb4); (have q04 : w4.cell? (qd.add (k * 3)) = some (.int .i64 z0) := QC.out w4 hB4)))
            go_roundw
            case rel => exact ⟨k + 1, 0, none, 0, by omega, by omega, by go_num, rfl, some1_of (L := []) (World.ownsRow_nil _ _ _ _) rfl (fun x h => by cases h) (by omega) hB4⟩
            case measure => simp [intOf]; omega
        · obtain ⟨a1, r1, f1⟩ := cut_h_some ⟨g2, 0, none⟩ m c t ht hmc
          have F1 := Lib.hid f1
          have HOW := Lib.hid how
          have HL1 : Hid ((strC (L.take t)).length = t * 1) := Lib.hid (by rw [strC_len, List.length_take, hLm]; omega)
          clear f1 how
          by_cases h2 : r0 < 2
          · have i2 : (r0 : Int) < 2 := by omega
            by_cases h3 : 0 < r0 ∧ t < m
            · obtain ⟨h3, h4⟩ := h3
              have i3 : (0 : Int) < (r0 : Int) := by omega
              have i4 : (t : Int) < (m : Int) := by omega
              have SH : Hid (Shorts (L.take t ++ [x] ++ L.drop (t + 1))) := Lib.hid (shorts_app (shorts_app (shorts_take hLs _) (shorts_one hxs)) (shorts_drop hLs _))
              obtain ⟨a2, r2, f2⟩ := cut_l_some ⟨g2, 0, none⟩ m c (t + 1) (by omega) hmc
              have r2 : ∀ W, (Instr.slice 23 (.slice (some ⟨g2, 0, none⟩) m c) (some (.int .i64 ((t : Int) + 1))) none none).run Try.prog W = .ok (.slice (some a2) (m - (t + 1)) (c - (t + 1))) W := r2
              have F2 := Lib.hid f2
              have HL2 : Hid ((strC (L.drop (t + 1))).length = (m - (t + 1)) * 1) := Lib.hid (by rw [strC_len, List.length_drop, hLm]; omega)
              clear f2 hLm
              go_wp2_with (first
                | (go_at_call 37; ((with_reducible refine (RL.out _ _).mono ?_); rintro e' w4 ⟨g4, c4, rfl, hx4, hb4⟩); (rw [HX.out] at hx4); (have ho4 := own_keep HOW.out hb4); (have hB4 := Below.then_ HBW.out hb4); (have q04 : w4.cell? (qd.add (k * 3)) = some (.int .i64 z0) := QC.out w4 hB4))
                | (at_builtin; refine wpList_append_own_at _ rfl _ _ 23 rfl w.heap.size 9 i9 _ 1 16 Try.underlying23 hi hz0 hz1 hz2 rfl (by decide) (.slice none 0 0) 0 [] rfl (World.ownsRow_nil _ _ _ _) a1 t c (strC (L.take t)) rfl HL1.out (fun j u hj => (F1.out w4 w4.heap.size (strC L) (Row.own ho4) j u (by rw [strC_take]; exact hj)).2) (strC_one _) (by unfold maxLen; omega) (by omega) (by have := hB4.size; omega) ?_; intro v5 w5 ho5 hg5 _ hl5; rw [Nat.zero_add, List.nil_append] at ho5; obtain ⟨A5, c5, rfl⟩ := own_val ho5; have ho45 := ho4.kept hg5 (.inr (by simp [Value.ownBlock])); have hb5 : Below w.heap.size w w5 := hB4.grown hg5 hB4.size (by simp [Value.ownBlock]); have q05 : w5.cell? (qd.add (k * 3)) = some (.int .i64 z0) := QC.out w5 hb5)
                | (at_builtin; (refine wpList_append_own_at _ rfl _ _ 23 rfl w.heap.size 9 i9 _ 1 16 Try.underlying23 hi hz0 hz1 hz2 rfl (by decide) (.slice A5 t c5) t (strC (L.take t)) rfl (ho5.alloc _) ⟨w5.heap.size, 0, none⟩ 1 1 [.string x] rfl rfl (cell_one_new w5 (.string x) 9) (by simp [Value.oneCell']) (by unfold maxLen; omega) (by omega) (by have := hb5.size; simp; omega) ?_; intro v6 w6 ho6 hg6 _ _; obtain ⟨A6, c6, rfl⟩ := own_val ho6; have ho46 := (ho45.alloc (.cells #[.string x] 9)).kept hg6 (.inr (own_apart ho4 hl5)); have hb6 := own_grow (hb5.alloc hb5.size _) (ho5.alloc _) hg6; have q06 : w6.cell? (qd.add (k * 3)) = some (.int .i64 z0) := QC.out w6 hb6))
                | (at_builtin; refine wpList_append_own_at _ rfl _ _ 23 rfl w.heap.size 9 i9 _ 1 16 Try.underlying23 hi hz0 hz1 hz2 rfl (by decide) (.slice A6 (t + 1) c6) (t + 1) (strC (L.take t) ++ [.string x]) rfl ho6 a2 (m - (t + 1)) (c - (t + 1)) (strC (L.drop (t + 1))) rfl HL2.out (fun j u hj => (F2.out w6 w6.heap.size (strC L) (Row.own ho46) j u (by rw [strC_drop1]; exact hj)).2) (strC_one _) (by unfold maxLen; omega) (by omega) (by have := hb6.size; omega) ?_; intro v7 w7 ho7 hg7 _ _; obtain ⟨A7, c7, rfl⟩ := own_val ho7; have hb7 := own_grow hb6 ho6 hg7))
              go_roundw
              case rel => exact ⟨k + 1, _, A7, c7, by omega, by omega, by go_num, rfl, some1_of ho7 (by rw [strC_app, strC_app]; rfl) (SH.out) (by omega) hb7⟩
              case measure => simp [intOf]; omega
            · by_cases h5 : 0 < r0
              · have i3 : (0 : Int) < (r0 : Int) := by omega
                have i4 : ¬ (t : Int) < (m : Int) := by omega
                have SH : Hid (Shorts (L.take t ++ [x] ++ L.drop t)) := Lib.hid (shorts_app (shorts_app (shorts_take hLs _) (shorts_one hxs)) (shorts_drop hLs _))
                obtain ⟨a2, r2, f2⟩ := cut_l_some ⟨g2, 0, none⟩ m c t (by omega) hmc
                have F2 := Lib.hid f2
                have HL2 : Hid ((strC (L.drop t)).length = (m - t) * 1) := Lib.hid (by rw [strC_len, List.length_drop, hLm]; omega)
                clear f2 hLm
                go_wp2_with (first
                  | (go_at_call 37; ((with_reducible refine (RL.out _ _).mono ?_); rintro e' w4 ⟨g4, c4, rfl, hx4, hb4⟩); (rw [HX.out] at hx4); (have ho4 := own_keep HOW.out hb4); (have hB4 := Below.then_ HBW.out hb4); (have q04 : w4.cell? (qd.add (k * 3)) = some (.int .i64 z0) := QC.out w4 hB4))
                  | (at_builtin; refine wpList_append_own_at _ rfl _ _ 23 rfl w.heap.size 9 i9 _ 1 16 Try.underlying23 hi hz0 hz1 hz2 rfl (by decide) (.slice none 0 0) 0 [] rfl (World.ownsRow_nil _ _ _ _) a1 t c (strC (L.take t)) rfl HL1.out (fun j u hj => (F1.out w4 w4.heap.size (strC L) (Row.own ho4) j u (by rw [strC_take]; exact hj)).2) (strC_one _) (by unfold maxLen; omega) (by omega) (by have := hB4.size; omega) ?_; intro v5 w5 ho5 hg5 _ hl5; rw [Nat.zero_add, List.nil_append] at ho5; obtain ⟨A5, c5, rfl⟩ := own_val ho5; have ho45 := ho4.kept hg5 (.inr (by simp [Value.ownBlock])); have hb5 : Below w.heap.size w w5 := hB4.grown hg5 hB4.size (by simp [Value.ownBlock]); have q05 : w5.cell? (qd.add (k * 3)) = some (.int .i64 z0) := QC.out w5 hb5)
                  | (at_builtin; refine wpList_append_own_at _ rfl _ _ 23 rfl w.heap.size 9 i9 _ 1 16 Try.underlying23 hi hz0 hz1 hz2 rfl (by decide) (.slice A5 t c5) t (strC (L.take t)) rfl (ho5.alloc _) ⟨w5.heap.size, 0, none⟩ 1 1 [.string x] rfl rfl (cell_one_new w5 (.string x) 9) (by simp [Value.oneCell']) (by unfold maxLen; omega) (by omega) (by have := hb5.size; simp; omega) ?_; intro v6 w6 ho6 hg6 _ _; obtain ⟨A6, c6, rfl⟩ := own_val ho6; have ho46 := (ho45.alloc (.cells #[.string x] 9)).kept hg6 (.inr (own_apart ho4 hl5)); have hb6 := own_grow (hb5.alloc hb5.size _) (ho5.alloc _) hg6; have q06 : w6.cell? (qd.add (k * 3)) = some (.int .i64 z0) := QC.out w6 hb6)
                  | (at_builtin; refine wpList_append_own_at _ rfl _ _ 23 rfl w.heap.size 9 i9 _ 1 16 Try.underlying23 hi hz0 hz1 hz2 rfl (by decide) (.slice A6 (t + 1) c6) (t + 1) (strC (L.take t) ++ [.string x]) rfl ho6 a2 (m - t) (c - t) (strC (L.drop t)) rfl HL2.out (fun j u hj => (F2.out w6 w6.heap.size (strC L) (Row.own ho46) j u (by rw [strC_drop1]; exact hj)).2) (strC_one _) (by unfold maxLen; omega) (by omega) (by have := hb6.size; omega) ?_; intro v7 w7 ho7 hg7 _ _; obtain ⟨A7, c7, rfl⟩ := own_val ho7; have hb7 := own_grow hb6 ho6 hg7))
                go_roundw
                case rel => exact ⟨k + 1, _, A7, c7, by omega, by omega, by go_num, rfl, some1_of ho7 (by rw [strC_app, strC_app]; rfl) (SH.out) (by omega) hb7⟩
                case measure => simp [intOf]; omega
              · have i3 : ¬ (0 : Int) < (r0 : Int) := by omega
                have SH : Hid (Shorts (L.take t ++ [x] ++ L.drop t)) := Lib.hid (shorts_app (shorts_app (shorts_take hLs _) (shorts_one hxs)) (shorts_drop hLs _))
                obtain ⟨a2, r2, f2⟩ := cut_l_some ⟨g2, 0, none⟩ m c t (by omega) hmc
                have F2 := Lib.hid f2
                have HL2 : Hid ((strC (L.drop t)).length = (m - t) * 1) := Lib.hid (by rw [strC_len, List.length_drop, hLm]; omega)
                clear f2 hLm
                go_wp2_with (first
                  | (go_at_call 37; ((with_reducible refine (RL.out _ _).mono ?_); rintro e' w4 ⟨g4, c4, rfl, hx4, hb4⟩); (rw [HX.out] at hx4); (have ho4 := own_keep HOW.out hb4); (have hB4 := Below.then_ HBW.out hb4); (have q04 : w4.cell? (qd.add (k * 3)) = some (.int .i64 z0) := QC.out w4 hB4))
                  | (at_builtin; refine wpList_append_own_at _ rfl _ _ 23 rfl w.heap.size 9 i9 _ 1 16 Try.underlying23 hi hz0 hz1 hz2 rfl (by decide) (.slice none 0 0) 0 [] rfl (World.ownsRow_nil _ _ _ _) a1 t c (strC (L.take t)) rfl HL1.out (fun j u hj => (F1.out w4 w4.heap.size (strC L) (Row.own ho4) j u (by rw [strC_take]; exact hj)).2) (strC_one _) (by unfold maxLen; omega) (by omega) (by have := hB4.size; omega) ?_; intro v5 w5 ho5 hg5 _ hl5; rw [Nat.zero_add, List.nil_append] at ho5; obtain ⟨A5, c5, rfl⟩ := own_val ho5; have ho45 := ho4.kept hg5 (.inr (by simp [Value.ownBlock])); have hb5 : Below w.heap.size w w5 := hB4.grown hg5 hB4.size (by simp [Value.ownBlock]); have q05 : w5.cell? (qd.add (k * 3)) = some (.int .i64 z0) := QC.out w5 hb5)
                  | (at_builtin; refine wpList_append_own_at _ rfl _ _ 23 rfl w.heap.size 9 i9 _ 1 16 Try.underlying23 hi hz0 hz1 hz2 rfl (by decide) (.slice A5 t c5) t (strC (L.take t)) rfl (ho5.alloc _) ⟨w5.heap.size, 0, none⟩ 1 1 [.string x] rfl rfl (cell_one_new w5 (.string x) 9) (by simp [Value.oneCell']) (by unfold maxLen; omega) (by omega) (by have := hb5.size; simp; omega) ?_; intro v6 w6 ho6 hg6 _ _; obtain ⟨A6, c6, rfl⟩ := own_val ho6; have ho46 := (ho45.alloc (.cells #[.string x] 9)).kept hg6 (.inr (own_apart ho4 hl5)); have hb6 := own_grow (hb5.alloc hb5.size _) (ho5.alloc _) hg6; have q06 : w6.cell? (qd.add (k * 3)) = some (.int .i64 z0) := QC.out w6 hb6)
                  | (at_builtin; refine wpList_append_own_at _ rfl _ _ 23 rfl w.heap.size 9 i9 _ 1 16 Try.underlying23 hi hz0 hz1 hz2 rfl (by decide) (.slice A6 (t + 1) c6) (t + 1) (strC (L.take t) ++ [.string x]) rfl ho6 a2 (m - t) (c - t) (strC (L.drop t)) rfl HL2.out (fun j u hj => (F2.out w6 w6.heap.size (strC L) (Row.own ho46) j u (by rw [strC_drop1]; exact hj)).2) (strC_one _) (by unfold maxLen; omega) (by omega) (by have := hb6.size; omega) ?_; intro v7 w7 ho7 hg7 _ _; obtain ⟨A7, c7, rfl⟩ := own_val ho7; have hb7 := own_grow hb6 ho6 hg7))
                go_roundw
                case rel => exact ⟨k + 1, _, A7, c7, by omega, by omega, by go_num, rfl, some1_of ho7 (by rw [strC_app, strC_app]; rfl) (SH.out) (by omega) hb7⟩
                case measure => simp [intOf]; omega
          · have i2 : ¬ (r0 : Int) < 2 := by omega
            have i3 : (0 : Int) < (r0 : Int) := by omega
            by_cases h4 : t < m
            · have i4 : (t : Int) < (m : Int) := by omega
              have SH : Hid (Shorts (L.take t ++ L.drop (t + 1))) := Lib.hid (shorts_app (shorts_take hLs _) (shorts_drop hLs _))
              obtain ⟨a2, r2, f2⟩ := cut_l_some ⟨g2, 0, none⟩ m c (t + 1) (by omega) hmc
              have r2 : ∀ W, (Instr.slice 23 (.slice (some ⟨g2, 0, none⟩) m c) (some (.int .i64 ((t : Int) + 1))) none none).run Try.prog W = .ok (.slice (some a2) (m - (t + 1)) (c - (t + 1))) W := r2
              have F2 := Lib.hid f2
              have HL2 : Hid ((strC (L.drop (t + 1))).length = (m - (t + 1)) * 1) := Lib.hid (by rw [strC_len, List.length_drop, hLm]; omega)
              clear f2 hLm
              go_wp2_with (first
                | (go_at_call 37; ((with_reducible refine (RL.out _ _).mono ?_); rintro e' w4 ⟨g4, c4, rfl, hx4, hb4⟩); (rw [HX.out] at hx4); (have ho4 := own_keep HOW.out hb4); (have hB4 := Below.then_ HBW.out hb4); (have q04 : w4.cell? (qd.add (k * 3)) = some (.int .i64 z0) := QC.out w4 hB4))
                | (at_builtin; refine wpList_append_own_at _ rfl _ _ 23 rfl w.heap.size 9 i9 _ 1 16 Try.underlying23 hi hz0 hz1 hz2 rfl (by decide) (.slice none 0 0) 0 [] rfl (World.ownsRow_nil _ _ _ _) a1 t c (strC (L.take t)) rfl HL1.out (fun j u hj => (F1.out w4 w4.heap.size (strC L) (Row.own ho4) j u (by rw [strC_take]; exact hj)).2) (strC_one _) (by unfold maxLen; omega) (by omega) (by have := hB4.size; omega) ?_; intro v5 w5 ho5 hg5 _ hl5; rw [Nat.zero_add, List.nil_append] at ho5; obtain ⟨A5, c5, rfl⟩ := own_val ho5; have ho45 := ho4.kept hg5 (.inr (by simp [Value.ownBlock])); have hb5 : Below w.heap.size w w5 := hB4.grown hg5 hB4.size (by simp [Value.ownBlock]); have q05 : w5.cell? (qd.add (k * 3)) = some (.int .i64 z0) := QC.out w5 hb5)
                | (at_builtin; refine wpList_append_own_at _ rfl _ _ 23 rfl w.heap.size 9 i9 _ 1 16 Try.underlying23 hi hz0 hz1 hz2 rfl (by decide) (.slice A5 t c5) t (strC (L.take t)) rfl ho5 a2 (m - (t + 1)) (c - (t + 1)) (strC (L.drop (t + 1))) rfl HL2.out (fun j u hj => (F2.out w5 w5.heap.size (strC L) (Row.own ho45) j u (by rw [strC_drop1]; exact hj)).2) (strC_one _) (by unfold maxLen; omega) (by omega) (by have := hb5.size; omega) ?_; intro v7 w7 ho7 hg7 _ _; obtain ⟨A7, c7, rfl⟩ := own_val ho7; have hb7 := own_grow hb5 ho5 hg7))
              go_roundw
              case rel => exact ⟨k + 1, _, A7, c7, by omega, by omega, by go_num, rfl, some1_of ho7 (by rw [strC_app]) (SH.out) (by omega) hb7⟩
              case measure => simp [intOf]; omega
            · have i4 : ¬ (t : Int) < (m : Int) := by omega
              have SH : Hid (Shorts (L.take t ++ L.drop t)) := Lib.hid (shorts_app (shorts_take hLs _) (shorts_drop hLs _))
              obtain ⟨a2, r2, f2⟩ := cut_l_some ⟨g2, 0, none⟩ m c t (by omega) hmc
              have F2 := Lib.hid f2
              have HL2 : Hid ((strC (L.drop t)).length = (m - t) * 1) := Lib.hid (by rw [strC_len, List.length_drop, hLm]; omega)
              clear f2 hLm
              go_wp2_with (first
                | (go_at_call 37; ((with_reducible refine (RL.out _ _).mono ?_); rintro e' w4 ⟨g4, c4, rfl, hx4, hb4⟩); (rw [HX.out] at hx4); (have ho4 := own_keep HOW.out hb4); (have hB4 := Below.then_ HBW.out hb4); (have q04 : w4.cell? (qd.add (k * 3)) = some (.int .i64 z0) := QC.out w4 hB4))
                | (at_builtin; refine wpList_append_own_at _ rfl _ _ 23 rfl w.heap.size 9 i9 _ 1 16 Try.underlying23 hi hz0 hz1 hz2 rfl (by decide) (.slice none 0 0) 0 [] rfl (World.ownsRow_nil _ _ _ _) a1 t c (strC (L.take t)) rfl HL1.out (fun j u hj => (F1.out w4 w4.heap.size (strC L) (Row.own ho4) j u (by rw [strC_take]; exact hj)).2) (strC_one _) (by unfold maxLen; omega) (by omega) (by have := hB4.size; omega) ?_; intro v5 w5 ho5 hg5 _ hl5; rw [Nat.zero_add, List.nil_append] at ho5; obtain ⟨A5, c5, rfl⟩ := own_val ho5; have ho45 := ho4.kept hg5 (.inr (by simp [Value.ownBlock])); have hb5 : Below w.heap.size w w5 := hB4.grown hg5 hB4.size (by simp [Value.ownBlock]); have q05 : w5.cell? (qd.add (k * 3)) = some (.int .i64 z0) := QC.out w5 hb5)
                | (at_builtin; refine wpList_append_own_at _ rfl _ _ 23 rfl w.heap.size 9 i9 _ 1 16 Try.underlying23 hi hz0 hz1 hz2 rfl (by decide) (.slice A5 t c5) t (strC (L.take t)) rfl ho5 a2 (m - t) (c - t) (strC (L.drop t)) rfl HL2.out (fun j u hj => (F2.out w5 w5.heap.size (strC L) (Row.own ho45) j u (by rw [strC_drop1]; exact hj)).2) (strC_one _) (by unfold maxLen; omega) (by omega) (by have := hb5.size; omega) ?_; intro v7 w7 ho7 hg7 _ _; obtain ⟨A7, c7, rfl⟩ := own_val ho7; have hb7 := own_grow hb5 ho5 hg7))
              go_roundw
              case rel => exact ⟨k + 1, _, A7, c7, by omega, by omega, by go_num, rfl, some1_of (own_len ho7 (by omega)) (by rw [strC_app]) (SH.out) (by omega) hb7⟩
              case measure => simp [intOf]; omega
      · by_cases hlt2 : k < p
        · obtain rfl : k = 6 := by omega
          have hi1 : ((6 : Nat) : Int) < (p : Int) := by omega
          have HSM := Lib.hid hs
          clear hs
          go_wp2
          go_ret
          exact some1_out HSM.out (by omega)
        · obtain rfl : k = p := by omega
          have HSM := Lib.hid hs
          clear hs
          go_wp2
          go_ret
          exact some1_out HSM.out hk6
  | some ad =>
    have HS := Lib.hid hS
    clear hS
    go_enter Try.func21, Try.ntmps21
    go_wp2_with (at_builtin; refine wpList_append_own_at _ rfl _ _ 23 rfl w.heap.size 9 i9 _ 1 16 Try.underlying23 hi hz0 hz1 hz2 rfl (by decide) (.slice (some ⟨w.heap.size, 0, none⟩) 0 0) 0 [] rfl (empty_row w) ad n c (strC l) rfl (by rw [strC_len, HN.out, Nat.mul_one]) (strs_cells HS.out (Nat.le_refl _) _) (strC_one _) (by unfold maxLen; omega) (by omega) (by simp) ?_; intro v3 w3 ho3 hg3 hn3 _; obtain ⟨g, c3, rfl, hM, hb3⟩ := copy_step ho3 hg3 hn3)
    have h0 : Some1 w w3 n c3 n (some ⟨g, 0, none⟩) := ⟨Nat.le_refl _, ⟨l, HLQ.out, hM.own⟩, hb3⟩
    clear ho3 hg3 hn3 hM hb3
    go_loopw [5, 6] (fun v5 v6 wr => ∃ (k m : Nat) (A : Option Addr) (c : Nat), k ≤ p ∧ k ≤ 6 ∧ v6 = .int .i64 (k : Int) ∧ v5 = .slice A m c ∧ Some1 w wr m c (n + k) A) (fun _ v6 _ => p - (intOf v6).toNat)
    case atStart => exact ⟨0, n, _, c3, by omega, by omega, rfl, rfl, h0⟩
    case round =>
      obtain ⟨k, m, A, c, hk, hk6, rfl, rfl, hs⟩ := hrel
      have hi0 : (0 : Int) ≤ (k : Int) := Int.natCast_nonneg _
      by_cases hlt : k < p ∧ k < 6
      · obtain ⟨hlt, h6⟩ := hlt
        have hi1 : (k : Int) < (p : Int) := by omega
        have hi6 : (k : Int) < 6 := by omega
        have hkl : k < qs.length := by have := HP.out; omega
        obtain ⟨⟨z0, z1, z2⟩, hq⟩ : ∃ q, qs[k] = q := ⟨_, rfl⟩
        have t0 := flat_at tripC 3 tripC_len qs k 0 hkl (by omega)
        have t1 := flat_at tripC 3 tripC_len qs k 1 hkl (by omega)
        have t2 := flat_at tripC 3 tripC_len qs k 2 hkl (by omega)
        rw [hq] at t0 t1 t2
        obtain ⟨qd, hQd, hqb, q0, q1, q2⟩ := row3 (Row.below HQ.out hs.below hB) t0 t1 t2
        subst hQd
        obtain ⟨r, hr, er⟩ := and_small z1 65535 (by decide)
        obtain ⟨r0, hr0, er0⟩ := and_small z0 3 (by decide)
        have er : bits .and .i64 z1 65535 = (r : Int) := er
        have er0 : bits .and .i64 z0 3 = (r0 : Int) := er0
        have hm6 := hs.le
        obtain ⟨t, ht, et⟩ : ∃ t : Nat, t ≤ m ∧ (r : Int) % ((m : Int) + 1) = (t : Int) := by
          have h1 := Int.emod_nonneg (r : Int) (b := (m : Int) + 1) (by omega)
          have h2 := Int.emod_lt_of_pos (r : Int) (b := (m : Int) + 1) (by omega)
          exact ⟨((r : Int) % ((m : Int) + 1)).toNat, by omega, by omega⟩
        obtain ⟨L, hLs, how⟩ := hs.row
        have HBW := Lib.hid hs.below
        have QC := Lib.hid (fun (W : World) (hW : Below w.heap.size w W) => (show W.cell? (qd.add (k * 3)) = some (.int .i64 z0) from (row3 (Row.below HQ.out hW hB) t0 t1 t2).elim (fun ad' h => by have e := Option.some.inj h.1; rw [e]; exact h.2.2.1)))
        obtain ⟨x, HX⟩ : ∃ x, Hid (lineI z2 = x) := ⟨_, Lib.hid rfl⟩
        have hxs : x.size ≤ 2 := by rw [← HX.out, lineI_size]; omega
        have hLm : L.length = m := (Strs.own how).1.symm
        clear hs t0 t1 t2 hq
        rcases own_row how with ⟨rfl, rfl, rfl⟩ | ⟨g2, rfl, hmc⟩
        · obtain rfl : t = 0 := by omega
          have r1 := nil_h
          have r2 := nil_l
          have HOW := Lib.hid how
          have SH : Hid (Shorts [x]) := Lib.hid (shorts_one hxs)
          clear how hLm et
          by_cases h2 : r0 < 2
          · have i2 : (r0 : Int) < 2 := by omega
            by_cases h5 : 0 < r0
            · have i3 : (0 : Int) < (r0 : Int) := by omega
              go_wp2_with (first
                | (go_at_call 37; ((with_reducible refine (RL.out _ _).mono ?_); rintro e' w4 ⟨g4, c4, rfl, hx4, hb4⟩); (rw [HX.out] at hx4); (have hB4 := Below.then_ HBW.out hb4); (have q04 : w4.cell? (qd.add (k * 3)) = some (.int .i64 z0) := QC.out w4 hB4))
                | (at_builtin; refine wpList_append_own_at _ rfl _ _ 23 rfl w.heap.size 9 i9 _ 1 16 Try.underlying23 hi hz0 hz1 hz2 rfl (by decide) (.slice none 0 0) 0 [] rfl (World.ownsRow_nil _ _ _ _) ⟨w4.heap.size, 0, none⟩ 1 1 [.string x] rfl rfl (cell_one_new w4 (.string x) 9) (by simp [Value.oneCell']) (by unfold maxLen; omega) (by omega) (by have := hB4.size; simp; omega) ?_; intro v6 w6 ho6 hg6 _ _; rw [Nat.zero_add, List.nil_append] at ho6; obtain ⟨A6, c6, rfl⟩ := own_val ho6; have hb6 : Below w.heap.size w w6 := (hB4.alloc hB4.size (.cells #[.string x] 9)).grown hg6 (by have := hB4.size; simp; omega) (by simp [Value.ownBlock]); have q06 : w6.cell? (qd.add (k * 3)) = some (.int .i64 z0) := QC.out w6 hb6)
                | (at_builtin; refine wpList_append_own_none rfl _ _ 23 rfl w.heap.size 9 i9 1 Try.underlying23 hi (.slice A6 1 c6) 1 [.string x] rfl ho6 rfl ?_))
              go_roundw
              case rel => exact ⟨k + 1, 1, A6, c6, by omega, by omega, by go_num, rfl, some1_of (L := [x]) ho6 rfl SH.out (by omega) hb6⟩
              case measure => simp [intOf]; omega
            · have i3 : ¬ (0 : Int) < (r0 : Int) := by omega
              go_wp2_with (first
                | (go_at_call 37; ((with_reducible refine (RL.out _ _).mono ?_); rintro e' w4 ⟨g4, c4, rfl, hx4, hb4⟩); (rw [HX.out] at hx4); (have hB4 := Below.then_ HBW.out hb4); (have q04 : w4.cell? (qd.add (k * 3)) = some (.int .i64 z0) := QC.out w4 hB4))
                | (at_builtin; refine wpList_append_own_at _ rfl _ _ 23 rfl w.heap.size 9 i9 _ 1 16 Try.underlying23 hi hz0 hz1 hz2 rfl (by decide) (.slice none 0 0) 0 [] rfl (World.ownsRow_nil _ _ _ _) ⟨w4.heap.size, 0, none⟩ 1 1 [.string x] rfl rfl (cell_one_new w4 (.string x) 9) (by simp [Value.oneCell']) (by unfold maxLen; omega) (by omega) (by have := hB4.size; simp; omega) ?_; intro v6 w6 ho6 hg6 _ _; rw [Nat.zero_add, List.nil_append] at ho6; obtain ⟨A6, c6, rfl⟩ := own_val ho6; have hb6 : Below w.heap.size w w6 := (hB4.alloc hB4.size (.cells #[.string x] 9)).grown hg6 (by have := hB4.size; simp; omega) (by simp [Value.ownBlock]); have q06 : w6.cell? (qd.add (k * 3)) = some (.int .i64 z0) := QC.out w6 hb6)
                | (at_builtin; refine wpList_append_own_none rfl _ _ 23 rfl w.heap.size 9 i9 1 Try.underlying23 hi (.slice A6 1 c6) 1 [.string x] rfl ho6 rfl ?_))
              go_roundw
              case rel => exact ⟨k + 1, 1, A6, c6, by omega, by omega, by go_num, rfl, some1_of (L := [x]) ho6 rfl SH.out (by omega) hb6⟩
              case measure => simp [intOf]; omega
          · have i2 : ¬ (r0 : Int) < 2 := by omega
            have i3 : (0 : Int) < (r0 : Int) := by omega
            go_wp2_with (first
              | (go_at_call 37; ((with_reducible refine (RL.out _ _).mono ?_); rintro e' w4 ⟨g4, c4, rfl, hx4, hb4⟩); (rw [HX.out] at hx4); (have hB4 := Below.then_ HBW.out hb4); (have q04 : w4.cell? (qd.add (k * 3)) = some (.int .i64 z0) := QC.out w4 hB4)))
            go_roundw
            case rel => exact ⟨k + 1, 0, none, 0, by omega, by omega, by go_num, rfl, some1_of (L := []) (World.ownsRow_nil _ _ _ _) rfl (fun x h => by cases h) (by omega) hB4⟩
            case measure => simp [intOf]; omega
        · obtain ⟨a1, r1, f1⟩ := cut_h_some ⟨g2, 0, none⟩ m c t ht hmc
          have F1 := Lib.hid f1
          have HOW := Lib.hid how
          have HL1 : Hid ((strC (L.take t)).length = t * 1) := Lib.hid (by rw [strC_len, List.length_take, hLm]; omega)
          clear f1 how
          by_cases h2 : r0 < 2
          · have i2 : (r0 : Int) < 2 := by omega
            by_cases h3 : 0 < r0 ∧ t < m
            · obtain ⟨h3, h4⟩ := h3
              have i3 : (0 : Int) < (r0 : Int) := by omega
              have i4 : (t : Int) < (m : Int) := by omega
              have SH : Hid (Shorts (L.take t ++ [x] ++ L.drop (t + 1))) := Lib.hid (shorts_app (shorts_app (shorts_take hLs _) (shorts_one hxs)) (shorts_drop hLs _))
              obtain ⟨a2, r2, f2⟩ := cut_l_some ⟨g2, 0, none⟩ m c (t + 1) (by omega) hmc
              have r2 : ∀ W, (Instr.slice 23 (.slice (some ⟨g2, 0, none⟩) m c) (some (.int .i64 ((t : Int) + 1))) none none).run Try.prog W = .ok (.slice (some a2) (m - (t + 1)) (c - (t + 1))) W := r2
              have F2 := Lib.hid f2
              have HL2 : Hid ((strC (L.drop (t + 1))).length = (m - (t + 1)) * 1) := Lib.hid (by rw [strC_len, List.length_drop, hLm]; omega)
              clear f2 hLm
              go_wp2_with (first
                | (go_at_call 37; ((with_reducible refine (RL.out _ _).mono ?_); rintro e' w4 ⟨g4, c4, rfl, hx4, hb4⟩); (rw [HX.out] at hx4); (have ho4 := own_keep HOW.out hb4); (have hB4 := Below.then_ HBW.out hb4); (have q04 : w4.cell? (qd.add (k * 3)) = some (.int .i64 z0) := QC.out w4 hB4))
                | (at_builtin; refine wpList_append_own_at _ rfl _ _ 23 rfl w.heap.size 9 i9 _ 1 16 Try.underlying23 hi hz0 hz1 hz2 rfl (by decide) (.slice none 0 0) 0 [] rfl (World.ownsRow_nil _ _ _ _) a1 t c (strC (L.take t)) rfl HL1.out (fun j u hj => (F1.out w4 w4.heap.size (strC L) (Row.own ho4) j u (by rw [strC_take]; exact hj)).2) (strC_one _) (by unfold maxLen; omega) (by omega) (by have := hB4.size; omega) ?_; intro v5 w5 ho5 hg5 _ hl5; rw [Nat.zero_add, List.nil_append] at ho5; obtain ⟨A5, c5, rfl⟩ := own_val ho5; have ho45 := ho4.kept hg5 (.inr (by simp [Value.ownBlock])); have hb5 : Below w.heap.size w w5 := hB4.grown hg5 hB4.size (by simp [Value.ownBlock]); have q05 : w5.cell? (qd.add (k * 3)) = some (.int .i64 z0) := QC.out w5 hb5)
                | (at_builtin; (refine wpList_append_own_at _ rfl _ _ 23 rfl w.heap.size 9 i9 _ 1 16 Try.underlying23 hi hz0 hz1 hz2 rfl (by decide) (.slice A5 t c5) t (strC (L.take t)) rfl (ho5.alloc _) ⟨w5.heap.size, 0, none⟩ 1 1 [.string x] rfl rfl (cell_one_new w5 (.string x) 9) (by simp [Value.oneCell']) (by unfold maxLen; omega) (by omega) (by have := hb5.size; simp; omega) ?_; intro v6 w6 ho6 hg6 _ _; obtain ⟨A6, c6, rfl⟩ := own_val ho6; have ho46 := (ho45.alloc (.cells #[.string x] 9)).kept hg6 (.inr (own_apart ho4 hl5)); have hb6 := own_grow (hb5.alloc hb5.size _) (ho5.alloc _) hg6; have q06 : w6.cell? (qd.add (k * 3)) = some (.int .i64 z0) := QC.out w6 hb6))
                | (at_builtin; refine wpList_append_own_at _ rfl _ _ 23 rfl w.heap.size 9 i9 _ 1 16 Try.underlying23 hi hz0 hz1 hz2 rfl (by decide) (.slice A6 (t + 1) c6) (t + 1) (strC (L.take t) ++ [.string x]) rfl ho6 a2 (m - (t + 1)) (c - (t + 1)) (strC (L.drop (t + 1))) rfl HL2.out (fun j u hj => (F2.out w6 w6.heap.size (strC L) (Row.own ho46) j u (by rw [strC_drop1]; exact hj)).2) (strC_one _) (by unfold maxLen; omega) (by omega) (by have := hb6.size; omega) ?_; intro v7 w7 ho7 hg7 _ _; obtain ⟨A7, c7, rfl⟩ := own_val ho7; have hb7 := own_grow hb6 ho6 hg7))
              go_roundw
              case rel => exact ⟨k + 1, _, A7, c7, by omega, by omega, by go_num, rfl, some1_of ho7 (by rw [strC_app, strC_app]; rfl) (SH.out) (by omega) hb7⟩
              case measure => simp [intOf]; omega
            · by_cases h5 : 0 < r0
              · have i3 : (0 : Int) < (r0 : Int) := by omega
                have i4 : ¬ (t : Int) < (m : Int) := by omega
                have SH : Hid (Shorts (L.take t ++ [x] ++ L.drop t)) := Lib.hid (shorts_app (shorts_app (shorts_take hLs _) (shorts_one hxs)) (shorts_drop hLs _))
                obtain ⟨a2, r2, f2⟩ := cut_l_some ⟨g2, 0, none⟩ m c t (by omega) hmc
                have F2 := Lib.hid f2
                have HL2 : Hid ((strC (L.drop t)).length = (m - t) * 1) := Lib.hid (by rw [strC_len, List.length_drop, hLm]; omega)
                clear f2 hLm
                go_wp2_with (first
                  | (go_at_call 37; ((with_reducible refine (RL.out _ _).mono ?_); rintro e' w4 ⟨g4, c4, rfl, hx4, hb4⟩); (rw [HX.out] at hx4); (have ho4 := own_keep HOW.out hb4); (have hB4 := Below.then_ HBW.out hb4); (have q04 : w4.cell? (qd.add (k * 3)) = some (.int .i64 z0) := QC.out w4 hB4))
                  | (at_builtin; refine wpList_append_own_at _ rfl _ _ 23 rfl w.heap.size 9 i9 _ 1 16 Try.underlying23 hi hz0 hz1 hz2 rfl (by decide) (.slice none 0 0) 0 [] rfl (World.ownsRow_nil _ _ _ _) a1 t c (strC (L.take t)) rfl HL1.out (fun j u hj => (F1.out w4 w4.heap.size (strC L) (Row.own ho4) j u (by rw [strC_take]; exact hj)).2) (strC_one _) (by unfold maxLen; omega) (by omega) (by have := hB4.size; omega) ?_; intro v5 w5 ho5 hg5 _ hl5; rw [Nat.zero_add, List.nil_append] at ho5; obtain ⟨A5, c5, rfl⟩ := own_val ho5; have ho45 := ho4.kept hg5 (.inr (by simp [Value.ownBlock])); have hb5 : Below w.heap.size w w5 := hB4.grown hg5 hB4.size (by simp [Value.ownBlock]); have q05 : w5.cell? (qd.add (k * 3)) = some (.int .i64 z0) := QC.out w5 hb5)
                  | (at_builtin; refine wpList_append_own_at _ rfl _ _ 23 rfl w.heap.size 9 i9 _ 1 16 Try.underlying23 hi hz0 hz1 hz2 rfl (by decide) (.slice A5 t c5) t (strC (L.take t)) rfl (ho5.alloc _) ⟨w5.heap.size, 0, none⟩ 1 1 [.string x] rfl rfl (cell_one_new w5 (.string x) 9) (by simp [Value.oneCell']) (by unfold maxLen; omega) (by omega) (by have := hb5.size; simp; omega) ?_; intro v6 w6 ho6 hg6 _ _; obtain ⟨A6, c6, rfl⟩ := own_val ho6; have ho46 := (ho45.alloc (.cells #[.string x] 9)).kept hg6 (.inr (own_apart ho4 hl5)); have hb6 := own_grow (hb5.alloc hb5.size _) (ho5.alloc _) hg6; have q06 : w6.cell? (qd.add (k * 3)) = some (.int .i64 z0) := QC.out w6 hb6)
                  | (at_builtin; refine wpList_append_own_at _ rfl _ _ 23 rfl w.heap.size 9 i9 _ 1 16 Try.underlying23 hi hz0 hz1 hz2 rfl (by decide) (.slice A6 (t + 1) c6) (t + 1) (strC (L.take t) ++ [.string x]) rfl ho6 a2 (m - t) (c - t) (strC (L.drop t)) rfl HL2.out (fun j u hj => (F2.out w6 w6.heap.size (strC L) (Row.own ho46) j u (by rw [strC_drop1]; exact hj)).2) (strC_one _) (by unfold maxLen; omega) (by omega) (by have := hb6.size; omega) ?_; intro v7 w7 ho7 hg7 _ _; obtain ⟨A7, c7, rfl⟩ := own_val ho7; have hb7 := own_grow hb6 ho6 hg7))
                go_roundw
                case rel => exact ⟨k + 1, _, A7, c7, by omega, by omega, by go_num, rfl, some1_of ho7 (by rw [strC_app, strC_app]; rfl) (SH.out) (by omega) hb7⟩
                case measure => simp [intOf]; omega
              · have i3 : ¬ (0 : Int) < (r0 : Int) := by omega
                have SH : Hid (Shorts (L.take t ++ [x] ++ L.drop t)) := Lib.hid (shorts_app (shorts_app (shorts_take hLs _) (shorts_one hxs)) (shorts_drop hLs _))
                obtain ⟨a2, r2, f2⟩ := cut_l_some ⟨g2, 0, none⟩ m c t (by omega) hmc
                have F2 := Lib.hid f2
                have HL2 : Hid ((strC (L.drop t)).length = (m - t) * 1) := Lib.hid (by rw [strC_len, List.length_drop, hLm]; omega)
                clear f2 hLm
                go_wp2_with (first
                  | (go_at_call 37; ((with_reducible refine (RL.out _ _).mono ?_); rintro e' w4 ⟨g4, c4, rfl, hx4, hb4⟩); (rw [HX.out] at hx4); (have ho4 := own_keep HOW.out hb4); (have hB4 := Below.then_ HBW.out hb4); (have q04 : w4.cell? (qd.add (k * 3)) = some (.int .i64 z0) := QC.out w4 hB4))
                  | (at_builtin; refine wpList_append_own_at _ rfl _ _ 23 rfl w.heap.size 9 i9 _ 1 16 Try.underlying23 hi hz0 hz1 hz2 rfl (by decide) (.slice none 0 0) 0 [] rfl (World.ownsRow_nil _ _ _ _) a1 t c (strC (L.take t)) rfl HL1.out (fun j u hj => (F1.out w4 w4.heap.size (strC L) (Row.own ho4) j u (by rw [strC_take]; exact hj)).2) (strC_one _) (by unfold maxLen; omega) (by omega) (by have := hB4.size; omega) ?_; intro v5 w5 ho5 hg5 _ hl5; rw [Nat.zero_add, List.nil_append] at ho5; obtain ⟨A5, c5, rfl⟩ := own_val ho5; have ho45 := ho4.kept hg5 (.inr (by simp [Value.ownBlock])); have hb5 : Below w.heap.size w w5 := hB4.grown hg5 hB4.size (by simp [Value.ownBlock]); have q05 : w5.cell? (qd.add (k * 3)) = some (.int .i64 z0) := QC.out w5 hb5)
                  | (at_builtin; refine wpList_append_own_at _ rfl _ _ 23 rfl w.heap.size 9 i9 _ 1 16 Try.underlying23 hi hz0 hz1 hz2 rfl (by decide) (.slice A5 t c5) t (strC (L.take t)) rfl (ho5.alloc _) ⟨w5.heap.size, 0, none⟩ 1 1 [.string x] rfl rfl (cell_one_new w5 (.string x) 9) (by simp [Value.oneCell']) (by unfold maxLen; omega) (by omega) (by have := hb5.size; simp; omega) ?_; intro v6 w6 ho6 hg6 _ _; obtain ⟨A6, c6, rfl⟩ := own_val ho6; have ho46 := (ho45.alloc (.cells #[.string x] 9)).kept hg6 (.inr (own_apart ho4 hl5)); have hb6 := own_grow (hb5.alloc hb5.size _) (ho5.alloc _) hg6; have q06 : w6.cell? (qd.add (k * 3)) = some (.int .i64 z0) := QC.out w6 hb6)
                  | (at_builtin; refine wpList_append_own_at _ rfl _ _ 23 rfl w.heap.size 9 i9 _ 1 16 Try.underlying23 hi hz0 hz1 hz2 rfl (by decide) (.slice A6 (t + 1) c6) (t + 1) (strC (L.take t) ++ [.string x]) rfl ho6 a2 (m - t) (c - t) (strC (L.drop t)) rfl HL2.out (fun j u hj => (F2.out w6 w6.heap.size (strC L) (Row.own ho46) j u (by rw [strC_drop1]; exact hj)).2) (strC_one _) (by unfold maxLen; omega) (by omega) (by have := hb6.size; omega) ?_; intro v7 w7 ho7 hg7 _ _; obtain ⟨A7, c7, rfl⟩ := own_val ho7; have hb7 := own_grow hb6 ho6 hg7))
                go_roundw
                case rel => exact ⟨k + 1, _, A7, c7, by omega, by omega, by go_num, rfl, some1_of ho7 (by rw [strC_app, strC_app]; rfl) (SH.out) (by omega) hb7⟩
                case measure => simp [intOf]; omega
          · have i2 : ¬ (r0 : Int) < 2 := by omega
            have i3 : (0 : Int) < (r0 : Int) := by omega
            by_cases h4 : t < m
            · have i4 : (t : Int) < (m : Int) := by omega
              have SH : Hid (Shorts (L.take t ++ L.drop (t + 1))) := Lib.hid (shorts_app (shorts_take hLs _) (shorts_drop hLs _))
              obtain ⟨a2, r2, f2⟩ := cut_l_some ⟨g2, 0, none⟩ m c (t + 1) (by omega) hmc
              have r2 : ∀ W, (Instr.slice 23 (.slice (some ⟨g2, 0, none⟩) m c) (some (.int .i64 ((t : Int) + 1))) none none).run Try.prog W = .ok (.slice (some a2) (m - (t + 1)) (c - (t + 1))) W := r2
              have F2 := Lib.hid f2
              have HL2 : Hid ((strC (L.drop (t + 1))).length = (m - (t + 1)) * 1) := Lib.hid (by rw [strC_len, List.length_drop, hLm]; omega)
              clear f2 hLm
              go_wp2_with (first
                | (go_at_call 37; ((with_reducible refine (RL.out _ _).mono ?_); rintro e' w4 ⟨g4, c4, rfl, hx4, hb4⟩); (rw [HX.out] at hx4); (have ho4 := own_keep HOW.out hb4); (have hB4 := Below.then_ HBW.out hb4); (have q04 : w4.cell? (qd.add (k * 3)) = some (.int .i64 z0) := QC.out w4 hB4))
                | (at_builtin; refine wpList_append_own_at _ rfl _ _ 23 rfl w.heap.size 9 i9 _ 1 16 Try.underlying23 hi hz0 hz1 hz2 rfl (by decide) (.slice none 0 0) 0 [] rfl (World.ownsRow_nil _ _ _ _) a1 t c (strC (L.take t)) rfl HL1.out (fun j u hj => (F1.out w4 w4.heap.size (strC L) (Row.own ho4) j u (by rw [strC_take]; exact hj)).2) (strC_one _) (by unfold maxLen; omega) (by omega) (by have := hB4.size; omega) ?_; intro v5 w5 ho5 hg5 _ hl5; rw [Nat.zero_add, List.nil_append] at ho5; obtain ⟨A5, c5, rfl⟩ := own_val ho5; have ho45 := ho4.kept hg5 (.inr (by simp [Value.ownBlock])); have hb5 : Below w.heap.size w w5 := hB4.grown hg5 hB4.size (by simp [Value.ownBlock]); have q05 : w5.cell? (qd.add (k * 3)) = some (.int .i64 z0) := QC.out w5 hb5)
                | (at_builtin; refine wpList_append_own_at _ rfl _ _ 23 rfl w.heap.size 9 i9 _ 1 16 Try.underlying23 hi hz0 hz1 hz2 rfl (by decide) (.slice A5 t c5) t (strC (L.take t)) rfl ho5 a2 (m - (t + 1)) (c - (t + 1)) (strC (L.drop (t + 1))) rfl HL2.out (fun j u hj => (F2.out w5 w5.heap.size (strC L) (Row.own ho45) j u (by rw [strC_drop1]; exact hj)).2) (strC_one _) (by unfold maxLen; omega) (by omega) (by have := hb5.size; omega) ?_; intro v7 w7 ho7 hg7 _ _; obtain ⟨A7, c7, rfl⟩ := own_val ho7; have hb7 := own_grow hb5 ho5 hg7))
              go_roundw
              case rel => exact ⟨k + 1, _, A7, c7, by omega, by omega, by go_num, rfl, some1_of ho7 (by rw [strC_app]) (SH.out) (by omega) hb7⟩
              case measure => simp [intOf]; omega
            · have i4 : ¬ (t : Int) < (m : Int) := by omega
              have SH : Hid (Shorts (L.take t ++ L.drop t)) := Lib.hid (shorts_app (shorts_take hLs _) (shorts_drop hLs _))
              obtain ⟨a2, r2, f2⟩ := cut_l_some ⟨g2, 0, none⟩ m c t (by omega) hmc
              have F2 := Lib.hid f2
              have HL2 : Hid ((strC (L.drop t)).length = (m - t) * 1) := Lib.hid (by rw [strC_len, List.length_drop, hLm]; omega)
              clear f2 hLm
              go_wp2_with (first
                | (go_at_call 37; ((with_reducible refine (RL.out _ _).mono ?_); rintro e' w4 ⟨g4, c4, rfl, hx4, hb4⟩); (rw [HX.out] at hx4); (have ho4 := own_keep HOW.out hb4); (have hB4 := Below.then_ HBW.out hb4); (have q04 : w4.cell? (qd.add (k * 3)) = some (.int .i64 z0) := QC.out w4 hB4))
                | (at_builtin; refine wpList_append_own_at _ rfl _ _ 23 rfl w.heap.size 9 i9 _ 1 16 Try.underlying23 hi hz0 hz1 hz2 rfl (by decide) (.slice none 0 0) 0 [] rfl (World.ownsRow_nil _ _ _ _) a1 t c (strC (L.take t)) rfl HL1.out (fun j u hj => (F1.out w4 w4.heap.size (strC L) (Row.own ho4) j u (by rw [strC_take]; exact hj)).2) (strC_one _) (by unfold maxLen; omega) (by omega) (by have := hB4.size; omega) ?_; intro v5 w5 ho5 hg5 _ hl5; rw [Nat.zero_add, List.nil_append] at ho5; obtain ⟨A5, c5, rfl⟩ := own_val ho5; have ho45 := ho4.kept hg5 (.inr (by simp [Value.ownBlock])); have hb5 : Below w.heap.size w w5 := hB4.grown hg5 hB4.size (by simp [Value.ownBlock]); have q05 : w5.cell? (qd.add (k * 3)) = some (.int .i64 z0) := QC.out w5 hb5)
                | (at_builtin; refine wpList_append_own_at _ rfl _ _ 23 rfl w.heap.size 9 i9 _ 1 16 Try.underlying23 hi hz0 hz1 hz2 rfl (by decide) (.slice A5 t c5) t (strC (L.take t)) rfl ho5 a2 (m - t) (c - t) (strC (L.drop t)) rfl HL2.out (fun j u hj => (F2.out w5 w5.heap.size (strC L) (Row.own ho45) j u (by rw [strC_drop1]; exact hj)).2) (strC_one _) (by unfold maxLen; omega) (by omega) (by have := hb5.size; omega) ?_; intro v7 w7 ho7 hg7 _ _; obtain ⟨A7, c7, rfl⟩ := own_val ho7; have hb7 := own_grow hb5 ho5 hg7))
              go_roundw
              case rel => exact ⟨k + 1, _, A7, c7, by omega, by omega, by go_num, rfl, some1_of (own_len ho7 (by omega)) (by rw [strC_app]) (SH.out) (by omega) hb7⟩
              case measure => simp [intOf]; omega
      · by_cases hlt2 : k < p
        · obtain rfl : k = 6 := by omega
          have hi1 : ((6 : Nat) : Int) < (p : Int) := by omega
          have HSM := Lib.hid hs
          clear hs
          go_wp2
          go_ret
          exact some1_out HSM.out (by omega)
        · obtain rfl : k = p := by omega
          have HSM := Lib.hid hs
          clear hs
          go_wp2
          go_ret
          exact some1_out HSM.out hk6
end Go.Proofs.Ytmeoannheomdoaa
