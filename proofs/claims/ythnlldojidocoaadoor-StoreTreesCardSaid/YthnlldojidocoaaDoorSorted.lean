/- The reference's Sorted: some list of small entries. -/
import Derived.Test.YthnlldojidocoaaDoorPlaysS
namespace Go.Proofs.YthnlldojidocoaaDoor
open Go.RowKit Go.Maps

theorem sort_list {w w0 wr : World} {D : Option Addr} {k d : Nat} {es : List Ent} (h0 : Below w.heap.size w w0) (hb : Below w0.heap.size w0 wr) (ho : wr.ownsRow w0.heap.size 48 3 (.slice D k d) k (entsC es)) (hk : es.length = k) : ListOut w es (.returned (.slice D k d)) wr := by
  subst hk
  exact ⟨D, d, rfl, owns_row ho (fun g hg => ⟨Nat.le_trans h0.size (row_ge ho g hg), owns_lt ho g hg⟩), Below.then_ h0 hb⟩
theorem sort_obj {B0 : Nat} {w w0 : World} {q N cL y : Nat} {os : List Ob} {G : Nat → Prop} {Lp : Option Addr} {In : Nat → Prop} (h : RefH B0 w q os G (.slice Lp os.length cL) In) (h0 : Below w.heap.size w w0) (hN : os.length = N) (hy : y < N) :
    ∃ (ld : Addr) (od : Bool) (Ae : Option Addr) (ne ce : Nat), Lp = some ld ∧ Hid (∀ W, Below w0.heap.size w0 W → W.cell? (ld.add (y * 3)) = some (.bool od) ∧ W.cell? ⟨(ld.add (y * 3)).block, (ld.add (y * 3)).off + 2, none⟩ = some (.slice Ae ne ce)) := by
  obtain ⟨ld, c, Ae, ce, hv, _, z0, _, z2, _⟩ := ref_at h (k := y) (by omega)
  injection hv with h1 h2 h3
  have hyo : y < os.length := by omega
  refine ⟨ld, os[y].1, Ae, os[y].2.2.length, ce, h1, Lib.hid fun W hW => ?_⟩
  have hb := World.block_lt_of_cell? _ _ z0
  have hbW := Below.then_ h0 hW
  exact ⟨(hbW.cell hb).trans z0, (hbW.cell (p := ⟨(ld.add (y * 3)).block, (ld.add (y * 3)).off + 2, none⟩) hb).trans z2⟩
theorem sort_last {W : World} {base k d : Nat} {D : Option Addr} {es : List Ent} (h : W.ownsRow base 48 3 (.slice D k d) k (entsC es)) (hl : es.length = k) (hk : 0 < k) : ∃ dd last, D = some dd ∧ W.cell? (dd.add ((k - 1) * 3)) = some (.string last) := by
  have t0 := flat_at entC 3 entC_len es (k - 1) 0 (by omega) (by omega)
  obtain ⟨ad, e, _, hc⟩ := (Row.own h).2.2.2 _ _ (t0.trans rfl)
  exact ⟨ad, _, e, hc⟩
/-- what Sorted reads at the loop's head: best is the block gb -/
structure SortIn (w0 wi : World) (gb : Nat) (D : Option Addr) (k d : Nat) (es : List Ent) (t : ByteArray) (b : Bool) (id : Int) : Prop where
  best : Full wi gb 48 [.string t, .bool b, .int .i64 id]
  size : t.size ≤ 5
  lo : 0 ≤ id
  hi : id ≤ 1048577
  own : wi.ownsRow w0.heap.size 48 3 (.slice D k d) k (entsC es)
  below : Below w0.heap.size w0 wi
theorem SortIn.on {w0 wi w' : World} {gb : Nat} {D : Option Addr} {k d : Nat} {es : List Ent} {t : ByteArray} {b : Bool} {id : Int} (h : SortIn w0 wi gb D k d es t b id) (hb : Below wi.heap.size wi w') : SortIn w0 w' gb D k d es t b id :=
  ⟨h.best.on hb, h.size, h.lo, h.hi, owns_on h.own hb, Below.then_ h.below hb⟩
theorem own_set {w : World} {base n : Nat} {v : Value} {xs : List Value} (h : w.ownsRow base 48 3 v n xs) (p : Addr) (u : Value) (hp : ∀ j, v.ownBlock = some j → j ≠ p.block) : (w.setCell p u).ownsRow base 48 3 v n xs :=
  owns_keep h fun g hg => Below.heap_setCell w p u g (hp g hg)
theorem SortIn.put {w0 wi : World} {gb : Nat} {D : Option Addr} {k d : Nat} {es : List Ent} {t : ByteArray} {b : Bool} {id : Int} (h : SortIn w0 wi gb D k d es t b id) (hl : ∀ j, (Value.slice D k d).ownBlock = some j → j < gb) (hg : w0.heap.size ≤ gb) (nm : ByteArray) (od : Bool) (i : Int) (h5 : nm.size ≤ 5) (h0 : 0 ≤ i) (h1 : i ≤ 1048577) :
    SortIn w0 (((wi.setCell ⟨gb, 0, none⟩ (.string nm)).setCell ⟨gb, 1, none⟩ (.bool od)).setCell ⟨gb, 2, none⟩ (.int .i64 i)) gb D k d es nm od i :=
  have hp : ∀ (o : Nat) j, (Value.slice D k d).ownBlock = some j → j ≠ (⟨gb, o, none⟩ : Addr).block := fun o j e => by have := hl j e; show j ≠ gb; omega
  ⟨((h.best.set_ 0 (.string nm)).set_ 1 (.bool od)).set_ 2 (.int .i64 i), h5, h0, h1, own_set (own_set (own_set h.own _ _ (hp 0)) _ _ (hp 1)) _ _ (hp 2), ((h.below.setCell hg _).setCell hg _).setCell hg _⟩
theorem SortIn.far {w0 wi : World} {gb : Nat} {D : Option Addr} {k d : Nat} {es : List Ent} {t : ByteArray} {b : Bool} {id : Int} (h : SortIn w0 wi gb D k d es t b id) (hl : ∀ j, (Value.slice D k d).ownBlock = some j → j < gb) (hg : w0.heap.size ≤ gb) (ge o : Nat) (hge : gb < ge) (u : Value) :
    SortIn w0 (wi.setCell ⟨ge, o, none⟩ u) gb D k d es t b id :=
  ⟨h.best.far (show gb ≠ ge by omega) u, h.size, h.lo, h.hi, own_set h.own _ _ (fun j e => by have := hl j e; show j ≠ ge; omega), h.below.setCell (show w0.heap.size ≤ ge by omega) u⟩
set_option maxRecDepth 100000 in
set_option maxHeartbeats 8000000 in
theorem sorted_any {B0 : Nat} {w : World} {q : Nat} {os : List Ob} {G : Nat → Prop} (hr : IsRef B0 w q os G) (hos : os.length ≤ 40) (B : Nat) (A : Option Addr) (qs : List Trip) (c : Nat) (tr : Bool) (tx : ByteArray) (hA : Trips w B A c qs) (hB : B ≤ w.heap.size) (hn : qs.length ≤ maxLen) :
    Calls Tryd.prog 28 #[.pointer (some ⟨q, 0, none⟩), .agg #[.bool tr, .string tx, .slice A qs.length c]] w (SortOut w) := by
  unfold maxLen at hn
  obtain ⟨v, In, h⟩ := hr
  obtain ⟨i48, hi, hz0, hz1, hz2⟩ := info_parts info48
  have hcap : qs.length ≤ c := hA.2.1
  obtain ⟨Lp, cL, rfl⟩ := ref_form h
  have HR := Lib.hid h
  have HQ := Lib.hid hA
  obtain ⟨N, hN⟩ : ∃ N, os.length = N := ⟨_, rfl⟩
  have HN := Lib.hid hN
  have hM8 := Lib.hid (fun (x : Int) (W : World) => (show Calls Tryd.prog 40 #[.int .i64 x, .int .i64 8] W fun e w' => e = .returned (.int .i64 (modN x 8 : Int)) ∧ W = w' from mod_any x 8 W (by omega) (by omega)))
  have HNM := Lib.hid (fun (x : Int) (W : World) => name_of x W)
  obtain ⟨n, hnn⟩ : ∃ n, qs.length = n := ⟨_, rfl⟩
  have HNN := Lib.hid hnn
  have hN40 : N ≤ 40 := by omega
  have HC := Lib.hid (show w.cell? ⟨q, 0, none⟩ = some (.slice Lp N cL) from by rw [← hN]; exact h.full.cell 0)
  rw [hnn] at hn hcap ⊢
  have HF0 := Lib.hid (Full.new w 64 [.bool tr, .string tx, .slice A n c])
  have HB0 : Hid (Below w.heap.size w (w.alloc (.cells #[.bool tr, .string tx, .slice A n c] 64))) := Lib.hid ((Below.refl _ w).alloc (Nat.le_refl _) _)
  clear hA hnn h hN hos
  go_enter Tryd.func28, Tryd.ntmps28
  go_wp2_with fail
  obtain ⟨w0, hw0⟩ : ∃ w0, w.alloc (.cells #[.bool tr, .string tx, .slice A n c] 64) = w0 := ⟨_, rfl⟩
  rw [hw0] at HF0 HB0 ⊢
  clear hw0
  go_loopw [5, 6] (fun v5 v6 wr => ∃ (k : Nat) (es : List Ent) (D : Option Addr) (d : Nat), k ≤ 8 ∧ v6 = .int .i64 (k : Int) ∧ v5 = .slice D k d ∧ wr.ownsRow w0.heap.size 48 3 (.slice D k d) k (entsC es) ∧ Hid (es.length = k ∧ SoundS es) ∧ Below w0.heap.size w0 wr) (fun _ v6 _ => 8 - (intOf v6).toNat)
  case atStart => exact ⟨0, [], none, 0, by omega, rfl, rfl, World.ownsRow_nil _ _ _ _, Lib.hid ⟨rfl, fun e h => by cases h⟩, Below.refl _ _⟩
  case round =>
    obtain ⟨k, es, D, d, hk, rfl, rfl, hown, HE, hb⟩ := hrel
    have hi0 : (0 : Int) ≤ (k : Int) := Int.natCast_nonneg _
    have HBW := Lib.hid (Below.then_ HB0.out hb)
    by_cases hlt : k < 8
    · have hi1 : (k : Int) < 8 := by omega
      have hOW := Lib.hid hown
      clear hown
      go_wp2_with fail
      obtain ⟨gb, hgb⟩ : ∃ gb, wr.heap.size = gb := ⟨_, rfl⟩
      have hLT : ∀ j, (Value.slice D k d).ownBlock = some j → j < gb := fun j e => by rw [← hgb]; exact owns_lt hOW.out j e
      have hS0 : SortIn w0 (wr.alloc (.cells #[.string ⟨#[]⟩, .bool false, .int .i64 0] 48)) gb D k d es ⟨#[]⟩ false 0 :=
        ⟨hgb ▸ Full.new wr 48 [.string ⟨#[]⟩, .bool false, .int .i64 0], by decide, Int.le_refl _, by omega, hOW.out.alloc _, hb.alloc hb.size _⟩
      have hgw : w0.heap.size ≤ gb := by rw [← hgb]; exact hb.size
      obtain ⟨w1, hw1⟩ : ∃ w1, wr.alloc (.cells #[.string ⟨#[]⟩, .bool false, .int .i64 0] 48) = w1 := ⟨_, rfl⟩
      rw [hw1] at hS0 ⊢
      rw [hgb]
      clear hw1 hgb hOW HBW hb
      have HS0 := Lib.hid hS0
      have HLT := Lib.hid hLT
      clear hS0 hLT
      go_loopw [8] (fun v8 wi => ∃ (j : Nat) (t : ByteArray) (b : Bool) (id : Int), j ≤ n ∧ j ≤ 8 ∧ v8 = .int .i64 (j : Int) ∧ Hid (SortIn w0 wi gb D k d es t b id)) (fun v8 _ => n - (intOf v8).toNat)
      case atStart => exact ⟨0, ⟨#[]⟩, false, 0, by omega, by omega, rfl, HS0⟩
      case round =>
        obtain ⟨j, t, b, id, hj, hj8, rfl, HI⟩ := hrel
        have hj0 : (0 : Int) ≤ (j : Int) := Int.natCast_nonneg _
        have f2 : wr.cell? ⟨w.heap.size, 2, none⟩ = some (.slice A n c) := (HF0.out.on HI.out.below).cell 2
        by_cases hjn : j < n ∧ j < 8
        · obtain ⟨hjn, hj7⟩ := hjn
          have i1 : (j : Int) < (n : Int) := by omega
          have i2 : (j : Int) < 8 := by omega
          have hjl : j < qs.length := by have := HNN.out; omega
          obtain ⟨⟨z0, z1, z2⟩, hq⟩ : ∃ q, qs[j] = q := ⟨_, rfl⟩
          have hBi : Below w.heap.size w wr := Below.then_ HB0.out HI.out.below
          have t0 := flat_at tripC 3 tripC_len qs j 0 hjl (by omega)
          have t1 := flat_at tripC 3 tripC_len qs j 1 hjl (by omega)
          have t2 := flat_at tripC 3 tripC_len qs j 2 hjl (by omega)
          rw [hq] at t0 t1 t2
          obtain ⟨qd, hQd, hqb, q0, q1, q2⟩ := row3 (Row.below HQ.out hBi hB) t0 t1 t2
          subst hQd
          clear t0 t1 t2 hq
          obtain ⟨u0, hu0⟩ : ∃ u, modN z0 8 = u := ⟨_, rfl⟩
          obtain ⟨nm, hnm⟩ : ∃ nm, nameOf (u0 : Int) = nm := ⟨_, rfl⟩
          have hnm5 : nm.size ≤ 5 := by rw [← hnm]; exact nameOf_size _
          obtain ⟨mx, hmx⟩ : ∃ mx, max N 1 = mx := ⟨_, rfl⟩
          have hmI : max (N : Int) 1 = (mx : Int) := by omega
          have hm0 : 0 < mx := by omega
          obtain ⟨y, hy⟩ : ∃ y, modN z2 mx = y := ⟨_, rfl⟩
          have hyl : y < mx := by rw [← hy]; exact modN_lt hm0
          have c1 := hM8.out z0
          rw [hu0] at c1
          have c2 := HNM.out (u0 : Int)
          rw [hnm] at c2
          have c3 := fun (W : World) => (show Calls Tryd.prog 40 #[.int .i64 z2, .int .i64 (mx : Int)] W fun e w' => e = .returned (.int .i64 (modN z2 mx : Int)) ∧ W = w' from mod_any z2 mx W hm0 (by omega))
          rw [hy] at c3
          have K1 := Lib.hid c1
          have K2 := Lib.hid c2
          have K3 := Lib.hid c3
          have hFq := Full.new wr 80 [.int .i64 z0, .int .i64 z1, .int .i64 z2]
          have hIq := HI.out.on ((Below.refl _ wr).alloc (Nat.le_refl _) (.cells #[.int .i64 z0, .int .i64 z1, .int .i64 z2] 80))
          have hwy : IntKind.i64.wrap (1 + (y : Int)) = 1 + (y : Int) := by simp [IntKind.wrap, IntKind.bits, IntKind.signed]; omega
          clear c1 c2 c3 hu0 hnm hmx hy hBi
          go_wp2_with fail
          obtain ⟨gq, hgq⟩ : ∃ gq, wr.heap.size = gq := ⟨_, rfl⟩
          obtain ⟨wq, hwq⟩ : ∃ wq, wr.alloc (.cells #[.int .i64 z0, .int .i64 z1, .int .i64 z2] 80) = wq := ⟨_, rfl⟩
          change Full (wr.alloc (.cells #[.int .i64 z0, .int .i64 z1, .int .i64 z2] 80)) _ _ _ at hFq
          rw [hwq, hgq] at hFq
          rw [hwq] at hIq ⊢
          rw [hgq]
          have hgq2 : gq < wq.heap.size := hFq.lt
          have HFQ := Lib.hid hFq
          have HIQ := Lib.hid hIq
          have HP := Lib.hid (fun (W : World) (hW : Below w0.heap.size w0 W) => (show W.cell? ⟨q, 0, none⟩ = some (.slice Lp N cL) from ((Below.then_ HB0.out hW).cell (p := ⟨q, 0, none⟩) (World.block_lt_of_cell? _ _ HC.out)).trans HC.out))
          clear hwq hgq hFq hIq HI f2 q0 q1 q2
          go_cut [10] from 16 to 109 (fun s10 wx => ∃ ge, s10 = .pointer (some ⟨ge, 0, none⟩) ∧ Full wx ge 48 [.string nm, .bool false, .int .i64 (1 + (y : Int))] ∧ wq.heap.size ≤ ge ∧ Below wq.heap.size wq wx)
          case first =>
            have n0 : wq.drew.cell? ⟨gq, 0, none⟩ = some (.int .i64 z0) := HFQ.out.cell 0
            have n2 : wq.drew.cell? ⟨gq, 2, none⟩ = some (.int .i64 z2) := HFQ.out.cell 2
            have np : wq.drew.cell? ⟨q, 0, none⟩ = some (.slice Lp N cL) := HP.out wq HIQ.out.below
            have bq : Below wq.heap.size wq wq.drew := (Below.refl _ wq).drew
            have BQ := Lib.hid bq
            clear bq
            have BZ : Hid (Below wq.heap.size wq (wq.alloc (.cells #[.string ⟨#[]⟩, .bool false, .int .i64 0] 48)).drew) := Lib.hid (((Below.refl _ wq).alloc (Nat.le_refl _) _).drew)
            have FZ : Hid (Full (wq.alloc (.cells #[.string ⟨#[]⟩, .bool false, .int .i64 0] 48)).drew wq.heap.size 48 [.string ⟨#[]⟩, .bool false, .int .i64 0]) := Lib.hid (Full.new wq 48 [.string ⟨#[]⟩, .bool false, .int .i64 0])
            have HK := Lib.hid (fun (W : World) (hW : Below wq.heap.size wq W) => (show W.cell? ⟨gq, 0, none⟩ = some (.int .i64 z0) ∧ W.cell? ⟨gq, 2, none⟩ = some (.int .i64 z2) ∧ W.cell? ⟨q, 0, none⟩ = some (.slice Lp N cL) from ⟨(HFQ.out.on hW).cell 0, (HFQ.out.on hW).cell 2, HP.out _ (Below.then_ HIQ.out.below hW)⟩))
            go_region_held3 (fun w' => w'.cell? ⟨gq, 0, none⟩ = some (.int .i64 z0) ∧ w'.cell? ⟨gq, 2, none⟩ = some (.int .i64 z2) ∧ w'.cell? ⟨q, 0, none⟩ = some (.slice Lp N cL))
              (first | (with_reducible exact ⟨n0, n2, np⟩) | (with_reducible exact ⟨m0, m2, mp⟩) | (exact HK.out _ BZ.out) | (exact HK.out _ (((HBX.out.setCell (Nat.le_refl _) _).setCell (Nat.le_refl _) _).setCell (Nat.le_refl _) _)) | (exact HK.out _ (HBX.out.alloc HBX.out.size _)))
              (first
                | (go_at_call 40; ((with_reducible refine (K1.out _).mono ?_); rintro e w2 ⟨rfl, rfl⟩))
                | (go_at_call 40; ((with_reducible refine (K3.out _).mono ?_); rintro e w2 ⟨rfl, rfl⟩))
                | (go_at_call 39; ((with_reducible refine (K2.out wq.drew).mono ?_); rintro e w1 ⟨rfl, hb1⟩; (have HBX := Lib.hid (Below.then_ BQ.out hb1)); (have hk1 := HK.out w1 HBX.out); (have m0 := hk1.1); (have m2 := hk1.2.1); (have mp := hk1.2.2)))
                | (go_at_call 39; ((with_reducible refine (K2.out (wq.alloc (.cells #[.string ⟨#[]⟩, .bool false, .int .i64 0] 48)).drew).mono ?_); rintro e w1 ⟨rfl, hb1⟩; (have HBX := Lib.hid (Below.then_ BZ.out hb1)); (have hk1 := HK.out w1 HBX.out); (have m0 := hk1.1); (have m2 := hk1.2.1); (have mp := hk1.2.2); (have hf1 := FZ.out.on hb1); (have HF1 := Lib.hid hf1); (have e0 : w1.cell? ⟨wq.heap.size, 0, none⟩ = some (.string ⟨#[]⟩) := hf1.cell 0); (have e1 : w1.cell? ⟨wq.heap.size, 1, none⟩ = some (.bool false) := hf1.cell 1); (have e2 : w1.cell? ⟨wq.heap.size, 2, none⟩ = some (.int .i64 0) := hf1.cell 2); (have y0 := hf1.frozen 0); (have y1 := hf1.frozen 1); (have y2 := hf1.frozen 2); clear hf1)))
            all_goals (go_wp2_with fail; go_meet)
            all_goals
              first
                | exact ⟨_, rfl, Full.new w1 48 [.string nm, .bool false, .int .i64 (1 + (y : Int))], HBX.out.size, HBX.out.alloc HBX.out.size _⟩
                | exact ⟨_, rfl, ((HF1.out.set_ 0 (.string nm)).set_ 1 (.bool false)).set_ 2 (.int .i64 (1 + (y : Int))), Nat.le_refl _, ((HBX.out.setCell (Nat.le_refl _) _).setCell (Nat.le_refl _) _).setCell (Nat.le_refl _) _⟩
          case rest =>
            obtain ⟨ge, rfl, hFe, hge, hbc⟩ := hcut
            have HI := Lib.hid (HIQ.out.on hbc)
            have hgbe : gb < ge := Nat.lt_of_lt_of_le HIQ.out.best.lt hge
            have x0 : wc.cell? ⟨ge, 0, none⟩ = some (.string nm) := hFe.cell 0
            have x1 : wc.cell? ⟨ge, 1, none⟩ = some (.bool false) := hFe.cell 1
            have x2 : wc.cell? ⟨ge, 2, none⟩ = some (.int .i64 (1 + (y : Int))) := hFe.cell 2
            have xb0 : wc.cell? ⟨gb, 0, none⟩ = some (.string t) := HI.out.best.cell 0
            have xb2 : wc.cell? ⟨gb, 2, none⟩ = some (.int .i64 id) := HI.out.best.cell 2
            have xp : wc.cell? ⟨q, 0, none⟩ = some (.slice Lp N cL) := HP.out _ HI.out.below
            have hid0 := HI.out.lo
            by_cases hN0 : N = 0
            · subst hN0
              have lc : True := trivial
              go_wp2_with fail
              go_quiet (fail)
              go_wp2
              go_roundw
              case rel => exact ⟨j + 1, t, b, id, by omega, by omega, by go_num, Lib.hid (HI.out.on (Below.drewN_ (Below.refl _ wc) nq))⟩
              case measure => simp [intOf]; omega
            · have n0 : ¬ (N : Int) = 0 := by omega
              have n1 : ((N : Int) == 0) = false := by rw [beq_eq_false_iff_ne]; exact n0
              have hyN : y < N := by omega
              obtain ⟨ld, od, Ae, ne, ce, hLd, HOB⟩ := sort_obj HR.out HB0.out HN.out hyN
              subst hLd
              have y0 : (0 : Int) ≤ (y : Int) := Int.natCast_nonneg _
              have y1 : (y : Int) < (N : Int) := by omega
              have y2 : IntKind.i64.wrap (1 + (y : Int) - 1) = (y : Int) := by simp [IntKind.wrap, IntKind.bits, IntKind.signed]; omega
              have y3 : IntKind.i64.wrap (y : Int) = (y : Int) := by simp [IntKind.wrap, IntKind.bits, IntKind.signed]; omega
              by_cases hk0 : 0 < k
              · have k1 : (0 : Int) < (k : Int) := by omega
                have k2 : IntKind.i64.wrap ((k : Int) - 1) = ((k - 1 : Nat) : Int) := by simp [IntKind.wrap, IntKind.bits, IntKind.signed]; omega
                have k3 : (0 : Int) ≤ ((k - 1 : Nat) : Int) := by omega
                have k4 : ((k - 1 : Nat) : Int) < (k : Int) := by omega
                obtain ⟨dd, last, hDd, lc⟩ : ∃ dd last, D = some dd ∧ wc.cell? (dd.add ((k - 1) * 3)) = some (.string last) := sort_last HI.out.own HE.out.1 hk0
                subst hDd
                by_cases hb1 : (Op.bytesLess nm.toList last.toList || nm.toList == last.toList) = false
                · by_cases hid : 0 < id
                  · by_cases hb2 : Op.bytesLess nm.toList t.toList = true
                    · skip
                      go_wp2_with fail
                      go_quiet (fail)
                      obtain ⟨w5, hw5⟩ : ∃ w5, wc.drewN nq = w5 := ⟨_, rfl⟩
                      have b5 : Below wc.heap.size wc (wc.drewN nq) := Below.drewN_ (Below.refl _ wc) nq
                      rw [hw5] at b5 ⊢
                      clear hw5 x0 x1 x2 xb0 xb2 xp lc
                      have HI5 := Lib.hid (HI.out.on b5)
                      have HF5 := Lib.hid (hFe.on b5)
                      have p5 : w5.cell? ⟨q, 0, none⟩ = some (.slice (some ld) N cL) := HP.out _ HI5.out.below
                      have e1 : w5.cell? ⟨ge, 1, none⟩ = some (.bool false) := HF5.out.cell 1
                      have e2 : w5.cell? ⟨ge, 2, none⟩ = some (.int .i64 (1 + (y : Int))) := HF5.out.cell 2
                      have z5 := HF5.out.frozen 1
                      have o0 := (HOB.out w5 HI5.out.below).1
                      clear hFe
                      go_wp2_with fail
                      go_region
                      have HI6' : SortIn w0 (w5.setCell ⟨ge, 1, none⟩ (.bool od)).drew gb (some dd) k d es t b id := (HI5.out.far HLT.out hgw ge 1 hgbe (.bool od)).on ((Below.refl _ _).drew)
                      have HF6' : Full (w5.setCell ⟨ge, 1, none⟩ (.bool od)).drew ge 48 [.string nm, .bool od, .int .i64 (1 + (y : Int))] := HF5.out.set_ 1 (.bool od)
                      obtain ⟨w6, hw6⟩ : ∃ w6, (w5.setCell ⟨ge, 1, none⟩ (.bool od)).drew = w6 := ⟨_, rfl⟩
                      rw [hw6] at HI6' HF6' ⊢
                      clear hw6 p5 e1 e2 z5 o0 b5
                      have HI6 := Lib.hid HI6'
                      have HF6 := Lib.hid HF6'
                      clear HI6' HF6'
                      have d1 : w6.cell? ⟨ge, 1, none⟩ = some (.bool od) := HF6.out.cell 1
                      have d2 : w6.cell? ⟨ge, 2, none⟩ = some (.int .i64 (1 + (y : Int))) := HF6.out.cell 2
                      have p6 : w6.cell? ⟨q, 0, none⟩ = some (.slice (some ld) N cL) := HP.out _ HI6.out.below
                      have o2 := (HOB.out w6 HI6.out.below).2
                      cases od with
                      | false =>
                        go_wp2_with fail
                        go_quiet (fail)
                        obtain ⟨w7, hw7⟩ : ∃ w7, w6.drewN nq = w7 := ⟨_, rfl⟩
                        have b7 : Below w6.heap.size w6 (w6.drewN nq) := Below.drewN_ (Below.refl _ w6) nq
                        rw [hw7] at b7 ⊢
                        clear hw7 d1 d2 p6 o2
                        have HI7 := Lib.hid (HI6.out.on b7)
                        have HF7 := Lib.hid (HF6.out.on b7)
                        have q0 : w7.cell? ⟨ge, 0, none⟩ = some (.string nm) := HF7.out.cell 0
                        have q1 : w7.cell? ⟨ge, 1, none⟩ = some (.bool false) := HF7.out.cell 1
                        have q2 : w7.cell? ⟨ge, 2, none⟩ = some (.int .i64 (1 + (y : Int))) := HF7.out.cell 2
                        have r0 : w7.cell? ⟨gb, 0, none⟩ = some (.string t) := HI7.out.best.cell 0
                        have r1 : w7.cell? ⟨gb, 1, none⟩ = some (.bool b) := HI7.out.best.cell 1
                        have r2 : w7.cell? ⟨gb, 2, none⟩ = some (.int .i64 id) := HI7.out.best.cell 2
                        have s0 := HI7.out.best.frozen 0
                        have s1 := HI7.out.best.frozen 1
                        have s2 := HI7.out.best.frozen 2
                        go_wp2
                        go_roundw
                        case rel => exact ⟨j + 1, nm, false, 1 + (y : Int), by omega, by omega, by go_num, Lib.hid (HI7.out.put HLT.out hgw nm false (1 + (y : Int)) hnm5 (by omega) (by omega))⟩
                        case measure => simp [intOf]; omega
                      | true =>
                        by_cases hne : ne = 0
                        · subst hne
                          go_wp2_with fail
                          go_quiet (fail)
                          go_wp2
                          go_roundw
                          case rel => exact ⟨j + 1, t, b, id, by omega, by omega, by go_num, Lib.hid (HI6.out.on (Below.drewN_ (Below.refl _ w6) nq))⟩
                          case measure => simp [intOf]; omega
                        · have g0 : ¬ (ne : Int) = 0 := by omega
                          have g1 : ((ne : Int) == 0) = false := by rw [beq_eq_false_iff_ne]; exact g0
                          go_wp2_with fail
                          go_quiet (fail)
                          obtain ⟨w7, hw7⟩ : ∃ w7, w6.drewN nq = w7 := ⟨_, rfl⟩
                          have b7 : Below w6.heap.size w6 (w6.drewN nq) := Below.drewN_ (Below.refl _ w6) nq
                          rw [hw7] at b7 ⊢
                          clear hw7 d1 d2 p6 o2
                          have HI7 := Lib.hid (HI6.out.on b7)
                          have HF7 := Lib.hid (HF6.out.on b7)
                          have q0 : w7.cell? ⟨ge, 0, none⟩ = some (.string nm) := HF7.out.cell 0
                          have q1 : w7.cell? ⟨ge, 1, none⟩ = some (.bool true) := HF7.out.cell 1
                          have q2 : w7.cell? ⟨ge, 2, none⟩ = some (.int .i64 (1 + (y : Int))) := HF7.out.cell 2
                          have r0 : w7.cell? ⟨gb, 0, none⟩ = some (.string t) := HI7.out.best.cell 0
                          have r1 : w7.cell? ⟨gb, 1, none⟩ = some (.bool b) := HI7.out.best.cell 1
                          have r2 : w7.cell? ⟨gb, 2, none⟩ = some (.int .i64 id) := HI7.out.best.cell 2
                          have s0 := HI7.out.best.frozen 0
                          have s1 := HI7.out.best.frozen 1
                          have s2 := HI7.out.best.frozen 2
                          go_wp2
                          go_roundw
                          case rel => exact ⟨j + 1, nm, true, 1 + (y : Int), by omega, by omega, by go_num, Lib.hid (HI7.out.put HLT.out hgw nm true (1 + (y : Int)) hnm5 (by omega) (by omega))⟩
                          case measure => simp [intOf]; omega
                    · have hb2 : Op.bytesLess nm.toList t.toList = false := by simpa using hb2
                      go_wp2_with fail
                      go_quiet (fail)
                      go_wp2
                      go_roundw
                      case rel => exact ⟨j + 1, t, b, id, by omega, by omega, by go_num, Lib.hid (HI.out.on (Below.drewN_ (Below.refl _ wc) nq))⟩
                      case measure => simp [intOf]; omega
                  · have hid : ¬ 0 < id := hid
                    have hid' : decide (0 < id) = false := by simpa using hid
                    go_wp2_with fail
                    go_quiet (fail)
                    obtain ⟨w5, hw5⟩ : ∃ w5, wc.drewN nq = w5 := ⟨_, rfl⟩
                    have b5 : Below wc.heap.size wc (wc.drewN nq) := Below.drewN_ (Below.refl _ wc) nq
                    rw [hw5] at b5 ⊢
                    clear hw5 x0 x1 x2 xb0 xb2 xp lc
                    have HI5 := Lib.hid (HI.out.on b5)
                    have HF5 := Lib.hid (hFe.on b5)
                    have p5 : w5.cell? ⟨q, 0, none⟩ = some (.slice (some ld) N cL) := HP.out _ HI5.out.below
                    have e1 : w5.cell? ⟨ge, 1, none⟩ = some (.bool false) := HF5.out.cell 1
                    have e2 : w5.cell? ⟨ge, 2, none⟩ = some (.int .i64 (1 + (y : Int))) := HF5.out.cell 2
                    have z5 := HF5.out.frozen 1
                    have o0 := (HOB.out w5 HI5.out.below).1
                    clear hFe
                    go_wp2_with fail
                    go_region
                    have HI6' : SortIn w0 (w5.setCell ⟨ge, 1, none⟩ (.bool od)).drew gb (some dd) k d es t b id := (HI5.out.far HLT.out hgw ge 1 hgbe (.bool od)).on ((Below.refl _ _).drew)
                    have HF6' : Full (w5.setCell ⟨ge, 1, none⟩ (.bool od)).drew ge 48 [.string nm, .bool od, .int .i64 (1 + (y : Int))] := HF5.out.set_ 1 (.bool od)
                    obtain ⟨w6, hw6⟩ : ∃ w6, (w5.setCell ⟨ge, 1, none⟩ (.bool od)).drew = w6 := ⟨_, rfl⟩
                    rw [hw6] at HI6' HF6' ⊢
                    clear hw6 p5 e1 e2 z5 o0 b5
                    have HI6 := Lib.hid HI6'
                    have HF6 := Lib.hid HF6'
                    clear HI6' HF6'
                    have d1 : w6.cell? ⟨ge, 1, none⟩ = some (.bool od) := HF6.out.cell 1
                    have d2 : w6.cell? ⟨ge, 2, none⟩ = some (.int .i64 (1 + (y : Int))) := HF6.out.cell 2
                    have p6 : w6.cell? ⟨q, 0, none⟩ = some (.slice (some ld) N cL) := HP.out _ HI6.out.below
                    have o2 := (HOB.out w6 HI6.out.below).2
                    cases od with
                    | false =>
                      go_wp2_with fail
                      go_quiet (fail)
                      obtain ⟨w7, hw7⟩ : ∃ w7, w6.drewN nq = w7 := ⟨_, rfl⟩
                      have b7 : Below w6.heap.size w6 (w6.drewN nq) := Below.drewN_ (Below.refl _ w6) nq
                      rw [hw7] at b7 ⊢
                      clear hw7 d1 d2 p6 o2
                      have HI7 := Lib.hid (HI6.out.on b7)
                      have HF7 := Lib.hid (HF6.out.on b7)
                      have q0 : w7.cell? ⟨ge, 0, none⟩ = some (.string nm) := HF7.out.cell 0
                      have q1 : w7.cell? ⟨ge, 1, none⟩ = some (.bool false) := HF7.out.cell 1
                      have q2 : w7.cell? ⟨ge, 2, none⟩ = some (.int .i64 (1 + (y : Int))) := HF7.out.cell 2
                      have r0 : w7.cell? ⟨gb, 0, none⟩ = some (.string t) := HI7.out.best.cell 0
                      have r1 : w7.cell? ⟨gb, 1, none⟩ = some (.bool b) := HI7.out.best.cell 1
                      have r2 : w7.cell? ⟨gb, 2, none⟩ = some (.int .i64 id) := HI7.out.best.cell 2
                      have s0 := HI7.out.best.frozen 0
                      have s1 := HI7.out.best.frozen 1
                      have s2 := HI7.out.best.frozen 2
                      go_wp2
                      go_roundw
                      case rel => exact ⟨j + 1, nm, false, 1 + (y : Int), by omega, by omega, by go_num, Lib.hid (HI7.out.put HLT.out hgw nm false (1 + (y : Int)) hnm5 (by omega) (by omega))⟩
                      case measure => simp [intOf]; omega
                    | true =>
                      by_cases hne : ne = 0
                      · subst hne
                        go_wp2_with fail
                        go_quiet (fail)
                        go_wp2
                        go_roundw
                        case rel => exact ⟨j + 1, t, b, id, by omega, by omega, by go_num, Lib.hid (HI6.out.on (Below.drewN_ (Below.refl _ w6) nq))⟩
                        case measure => simp [intOf]; omega
                      · have g0 : ¬ (ne : Int) = 0 := by omega
                        have g1 : ((ne : Int) == 0) = false := by rw [beq_eq_false_iff_ne]; exact g0
                        go_wp2_with fail
                        go_quiet (fail)
                        obtain ⟨w7, hw7⟩ : ∃ w7, w6.drewN nq = w7 := ⟨_, rfl⟩
                        have b7 : Below w6.heap.size w6 (w6.drewN nq) := Below.drewN_ (Below.refl _ w6) nq
                        rw [hw7] at b7 ⊢
                        clear hw7 d1 d2 p6 o2
                        have HI7 := Lib.hid (HI6.out.on b7)
                        have HF7 := Lib.hid (HF6.out.on b7)
                        have q0 : w7.cell? ⟨ge, 0, none⟩ = some (.string nm) := HF7.out.cell 0
                        have q1 : w7.cell? ⟨ge, 1, none⟩ = some (.bool true) := HF7.out.cell 1
                        have q2 : w7.cell? ⟨ge, 2, none⟩ = some (.int .i64 (1 + (y : Int))) := HF7.out.cell 2
                        have r0 : w7.cell? ⟨gb, 0, none⟩ = some (.string t) := HI7.out.best.cell 0
                        have r1 : w7.cell? ⟨gb, 1, none⟩ = some (.bool b) := HI7.out.best.cell 1
                        have r2 : w7.cell? ⟨gb, 2, none⟩ = some (.int .i64 id) := HI7.out.best.cell 2
                        have s0 := HI7.out.best.frozen 0
                        have s1 := HI7.out.best.frozen 1
                        have s2 := HI7.out.best.frozen 2
                        go_wp2
                        go_roundw
                        case rel => exact ⟨j + 1, nm, true, 1 + (y : Int), by omega, by omega, by go_num, Lib.hid (HI7.out.put HLT.out hgw nm true (1 + (y : Int)) hnm5 (by omega) (by omega))⟩
                        case measure => simp [intOf]; omega
                · have hb1 : (Op.bytesLess nm.toList last.toList || nm.toList == last.toList) = true := by rw [← Bool.not_eq_false]; exact hb1
                  go_wp2_with fail
                  go_quiet (fail)
                  go_wp2
                  go_roundw
                  case rel => exact ⟨j + 1, t, b, id, by omega, by omega, by go_num, Lib.hid (HI.out.on (Below.drewN_ (Below.refl _ wc) nq))⟩
                  case measure => simp [intOf]; omega
              · have k1 : ¬ (0 : Int) < (k : Int) := by omega
                have k1' : decide ((0 : Int) < (k : Int)) = false := by simpa using k1
                have lc : True := trivial
                by_cases hid : 0 < id
                · by_cases hb2 : Op.bytesLess nm.toList t.toList = true
                  · skip
                    go_wp2_with fail
                    go_quiet (fail)
                    obtain ⟨w5, hw5⟩ : ∃ w5, wc.drewN nq = w5 := ⟨_, rfl⟩
                    have b5 : Below wc.heap.size wc (wc.drewN nq) := Below.drewN_ (Below.refl _ wc) nq
                    rw [hw5] at b5 ⊢
                    clear hw5 x0 x1 x2 xb0 xb2 xp lc
                    have HI5 := Lib.hid (HI.out.on b5)
                    have HF5 := Lib.hid (hFe.on b5)
                    have p5 : w5.cell? ⟨q, 0, none⟩ = some (.slice (some ld) N cL) := HP.out _ HI5.out.below
                    have e1 : w5.cell? ⟨ge, 1, none⟩ = some (.bool false) := HF5.out.cell 1
                    have e2 : w5.cell? ⟨ge, 2, none⟩ = some (.int .i64 (1 + (y : Int))) := HF5.out.cell 2
                    have z5 := HF5.out.frozen 1
                    have o0 := (HOB.out w5 HI5.out.below).1
                    clear hFe
                    go_wp2_with fail
                    go_region
                    have HI6' : SortIn w0 (w5.setCell ⟨ge, 1, none⟩ (.bool od)).drew gb D k d es t b id := (HI5.out.far HLT.out hgw ge 1 hgbe (.bool od)).on ((Below.refl _ _).drew)
                    have HF6' : Full (w5.setCell ⟨ge, 1, none⟩ (.bool od)).drew ge 48 [.string nm, .bool od, .int .i64 (1 + (y : Int))] := HF5.out.set_ 1 (.bool od)
                    obtain ⟨w6, hw6⟩ : ∃ w6, (w5.setCell ⟨ge, 1, none⟩ (.bool od)).drew = w6 := ⟨_, rfl⟩
                    rw [hw6] at HI6' HF6' ⊢
                    clear hw6 p5 e1 e2 z5 o0 b5
                    have HI6 := Lib.hid HI6'
                    have HF6 := Lib.hid HF6'
                    clear HI6' HF6'
                    have d1 : w6.cell? ⟨ge, 1, none⟩ = some (.bool od) := HF6.out.cell 1
                    have d2 : w6.cell? ⟨ge, 2, none⟩ = some (.int .i64 (1 + (y : Int))) := HF6.out.cell 2
                    have p6 : w6.cell? ⟨q, 0, none⟩ = some (.slice (some ld) N cL) := HP.out _ HI6.out.below
                    have o2 := (HOB.out w6 HI6.out.below).2
                    cases od with
                    | false =>
                      go_wp2_with fail
                      go_quiet (fail)
                      obtain ⟨w7, hw7⟩ : ∃ w7, w6.drewN nq = w7 := ⟨_, rfl⟩
                      have b7 : Below w6.heap.size w6 (w6.drewN nq) := Below.drewN_ (Below.refl _ w6) nq
                      rw [hw7] at b7 ⊢
                      clear hw7 d1 d2 p6 o2
                      have HI7 := Lib.hid (HI6.out.on b7)
                      have HF7 := Lib.hid (HF6.out.on b7)
                      have q0 : w7.cell? ⟨ge, 0, none⟩ = some (.string nm) := HF7.out.cell 0
                      have q1 : w7.cell? ⟨ge, 1, none⟩ = some (.bool false) := HF7.out.cell 1
                      have q2 : w7.cell? ⟨ge, 2, none⟩ = some (.int .i64 (1 + (y : Int))) := HF7.out.cell 2
                      have r0 : w7.cell? ⟨gb, 0, none⟩ = some (.string t) := HI7.out.best.cell 0
                      have r1 : w7.cell? ⟨gb, 1, none⟩ = some (.bool b) := HI7.out.best.cell 1
                      have r2 : w7.cell? ⟨gb, 2, none⟩ = some (.int .i64 id) := HI7.out.best.cell 2
                      have s0 := HI7.out.best.frozen 0
                      have s1 := HI7.out.best.frozen 1
                      have s2 := HI7.out.best.frozen 2
                      go_wp2
                      go_roundw
                      case rel => exact ⟨j + 1, nm, false, 1 + (y : Int), by omega, by omega, by go_num, Lib.hid (HI7.out.put HLT.out hgw nm false (1 + (y : Int)) hnm5 (by omega) (by omega))⟩
                      case measure => simp [intOf]; omega
                    | true =>
                      by_cases hne : ne = 0
                      · subst hne
                        go_wp2_with fail
                        go_quiet (fail)
                        go_wp2
                        go_roundw
                        case rel => exact ⟨j + 1, t, b, id, by omega, by omega, by go_num, Lib.hid (HI6.out.on (Below.drewN_ (Below.refl _ w6) nq))⟩
                        case measure => simp [intOf]; omega
                      · have g0 : ¬ (ne : Int) = 0 := by omega
                        have g1 : ((ne : Int) == 0) = false := by rw [beq_eq_false_iff_ne]; exact g0
                        go_wp2_with fail
                        go_quiet (fail)
                        obtain ⟨w7, hw7⟩ : ∃ w7, w6.drewN nq = w7 := ⟨_, rfl⟩
                        have b7 : Below w6.heap.size w6 (w6.drewN nq) := Below.drewN_ (Below.refl _ w6) nq
                        rw [hw7] at b7 ⊢
                        clear hw7 d1 d2 p6 o2
                        have HI7 := Lib.hid (HI6.out.on b7)
                        have HF7 := Lib.hid (HF6.out.on b7)
                        have q0 : w7.cell? ⟨ge, 0, none⟩ = some (.string nm) := HF7.out.cell 0
                        have q1 : w7.cell? ⟨ge, 1, none⟩ = some (.bool true) := HF7.out.cell 1
                        have q2 : w7.cell? ⟨ge, 2, none⟩ = some (.int .i64 (1 + (y : Int))) := HF7.out.cell 2
                        have r0 : w7.cell? ⟨gb, 0, none⟩ = some (.string t) := HI7.out.best.cell 0
                        have r1 : w7.cell? ⟨gb, 1, none⟩ = some (.bool b) := HI7.out.best.cell 1
                        have r2 : w7.cell? ⟨gb, 2, none⟩ = some (.int .i64 id) := HI7.out.best.cell 2
                        have s0 := HI7.out.best.frozen 0
                        have s1 := HI7.out.best.frozen 1
                        have s2 := HI7.out.best.frozen 2
                        go_wp2
                        go_roundw
                        case rel => exact ⟨j + 1, nm, true, 1 + (y : Int), by omega, by omega, by go_num, Lib.hid (HI7.out.put HLT.out hgw nm true (1 + (y : Int)) hnm5 (by omega) (by omega))⟩
                        case measure => simp [intOf]; omega
                  · have hb2 : Op.bytesLess nm.toList t.toList = false := by simpa using hb2
                    go_wp2_with fail
                    go_quiet (fail)
                    go_wp2
                    go_roundw
                    case rel => exact ⟨j + 1, t, b, id, by omega, by omega, by go_num, Lib.hid (HI.out.on (Below.drewN_ (Below.refl _ wc) nq))⟩
                    case measure => simp [intOf]; omega
                · have hid' : decide (0 < id) = false := by simpa using hid
                  go_wp2_with fail
                  go_quiet (fail)
                  obtain ⟨w5, hw5⟩ : ∃ w5, wc.drewN nq = w5 := ⟨_, rfl⟩
                  have b5 : Below wc.heap.size wc (wc.drewN nq) := Below.drewN_ (Below.refl _ wc) nq
                  rw [hw5] at b5 ⊢
                  clear hw5 x0 x1 x2 xb0 xb2 xp lc
                  have HI5 := Lib.hid (HI.out.on b5)
                  have HF5 := Lib.hid (hFe.on b5)
                  have p5 : w5.cell? ⟨q, 0, none⟩ = some (.slice (some ld) N cL) := HP.out _ HI5.out.below
                  have e1 : w5.cell? ⟨ge, 1, none⟩ = some (.bool false) := HF5.out.cell 1
                  have e2 : w5.cell? ⟨ge, 2, none⟩ = some (.int .i64 (1 + (y : Int))) := HF5.out.cell 2
                  have z5 := HF5.out.frozen 1
                  have o0 := (HOB.out w5 HI5.out.below).1
                  clear hFe
                  go_wp2_with fail
                  go_region
                  have HI6' : SortIn w0 (w5.setCell ⟨ge, 1, none⟩ (.bool od)).drew gb D k d es t b id := (HI5.out.far HLT.out hgw ge 1 hgbe (.bool od)).on ((Below.refl _ _).drew)
                  have HF6' : Full (w5.setCell ⟨ge, 1, none⟩ (.bool od)).drew ge 48 [.string nm, .bool od, .int .i64 (1 + (y : Int))] := HF5.out.set_ 1 (.bool od)
                  obtain ⟨w6, hw6⟩ : ∃ w6, (w5.setCell ⟨ge, 1, none⟩ (.bool od)).drew = w6 := ⟨_, rfl⟩
                  rw [hw6] at HI6' HF6' ⊢
                  clear hw6 p5 e1 e2 z5 o0 b5
                  have HI6 := Lib.hid HI6'
                  have HF6 := Lib.hid HF6'
                  clear HI6' HF6'
                  have d1 : w6.cell? ⟨ge, 1, none⟩ = some (.bool od) := HF6.out.cell 1
                  have d2 : w6.cell? ⟨ge, 2, none⟩ = some (.int .i64 (1 + (y : Int))) := HF6.out.cell 2
                  have p6 : w6.cell? ⟨q, 0, none⟩ = some (.slice (some ld) N cL) := HP.out _ HI6.out.below
                  have o2 := (HOB.out w6 HI6.out.below).2
                  cases od with
                  | false =>
                    go_wp2_with fail
                    go_quiet (fail)
                    obtain ⟨w7, hw7⟩ : ∃ w7, w6.drewN nq = w7 := ⟨_, rfl⟩
                    have b7 : Below w6.heap.size w6 (w6.drewN nq) := Below.drewN_ (Below.refl _ w6) nq
                    rw [hw7] at b7 ⊢
                    clear hw7 d1 d2 p6 o2
                    have HI7 := Lib.hid (HI6.out.on b7)
                    have HF7 := Lib.hid (HF6.out.on b7)
                    have q0 : w7.cell? ⟨ge, 0, none⟩ = some (.string nm) := HF7.out.cell 0
                    have q1 : w7.cell? ⟨ge, 1, none⟩ = some (.bool false) := HF7.out.cell 1
                    have q2 : w7.cell? ⟨ge, 2, none⟩ = some (.int .i64 (1 + (y : Int))) := HF7.out.cell 2
                    have r0 : w7.cell? ⟨gb, 0, none⟩ = some (.string t) := HI7.out.best.cell 0
                    have r1 : w7.cell? ⟨gb, 1, none⟩ = some (.bool b) := HI7.out.best.cell 1
                    have r2 : w7.cell? ⟨gb, 2, none⟩ = some (.int .i64 id) := HI7.out.best.cell 2
                    have s0 := HI7.out.best.frozen 0
                    have s1 := HI7.out.best.frozen 1
                    have s2 := HI7.out.best.frozen 2
                    go_wp2
                    go_roundw
                    case rel => exact ⟨j + 1, nm, false, 1 + (y : Int), by omega, by omega, by go_num, Lib.hid (HI7.out.put HLT.out hgw nm false (1 + (y : Int)) hnm5 (by omega) (by omega))⟩
                    case measure => simp [intOf]; omega
                  | true =>
                    by_cases hne : ne = 0
                    · subst hne
                      go_wp2_with fail
                      go_quiet (fail)
                      go_wp2
                      go_roundw
                      case rel => exact ⟨j + 1, t, b, id, by omega, by omega, by go_num, Lib.hid (HI6.out.on (Below.drewN_ (Below.refl _ w6) nq))⟩
                      case measure => simp [intOf]; omega
                    · have g0 : ¬ (ne : Int) = 0 := by omega
                      have g1 : ((ne : Int) == 0) = false := by rw [beq_eq_false_iff_ne]; exact g0
                      go_wp2_with fail
                      go_quiet (fail)
                      obtain ⟨w7, hw7⟩ : ∃ w7, w6.drewN nq = w7 := ⟨_, rfl⟩
                      have b7 : Below w6.heap.size w6 (w6.drewN nq) := Below.drewN_ (Below.refl _ w6) nq
                      rw [hw7] at b7 ⊢
                      clear hw7 d1 d2 p6 o2
                      have HI7 := Lib.hid (HI6.out.on b7)
                      have HF7 := Lib.hid (HF6.out.on b7)
                      have q0 : w7.cell? ⟨ge, 0, none⟩ = some (.string nm) := HF7.out.cell 0
                      have q1 : w7.cell? ⟨ge, 1, none⟩ = some (.bool true) := HF7.out.cell 1
                      have q2 : w7.cell? ⟨ge, 2, none⟩ = some (.int .i64 (1 + (y : Int))) := HF7.out.cell 2
                      have r0 : w7.cell? ⟨gb, 0, none⟩ = some (.string t) := HI7.out.best.cell 0
                      have r1 : w7.cell? ⟨gb, 1, none⟩ = some (.bool b) := HI7.out.best.cell 1
                      have r2 : w7.cell? ⟨gb, 2, none⟩ = some (.int .i64 id) := HI7.out.best.cell 2
                      have s0 := HI7.out.best.frozen 0
                      have s1 := HI7.out.best.frozen 1
                      have s2 := HI7.out.best.frozen 2
                      go_wp2
                      go_roundw
                      case rel => exact ⟨j + 1, nm, true, 1 + (y : Int), by omega, by omega, by go_num, Lib.hid (HI7.out.put HLT.out hgw nm true (1 + (y : Int)) hnm5 (by omega) (by omega))⟩
                      case measure => simp [intOf]; omega
        · have best0 : wr.cell? ⟨gb, 0, none⟩ = some (.string t) := HI.out.best.cell 0
          have best1 : wr.cell? ⟨gb, 1, none⟩ = some (.bool b) := HI.out.best.cell 1
          have best2 : wr.cell? ⟨gb, 2, none⟩ = some (.int .i64 id) := HI.out.best.cell 2
          have hid0 := HI.out.lo
          have hid1 := HI.out.hi
          have htz := HI.out.size
          have hws := HI.out.below.size
          have hl3 : (entsC es).length = k * 3 := by rw [entsC_len, HE.out.1]
          have HOW := Lib.hid HI.out.own
          have HBW := Lib.hid HI.out.below
          have hHE := HE.out
          have HENT : Hid (entsC (es ++ [(t, b, id)]) = entsC es ++ [.string t, .bool b, .int .i64 id]) := Lib.hid (by unfold entsC; rw [List.flatMap_append]; rfl)
          have HSO : Hid ((es ++ [(t, b, id)]).length = k + 1 ∧ SoundS (es ++ [(t, b, id)])) := by
            refine Lib.hid ⟨by rw [List.length_append, hHE.1]; rfl, fun e he => ?_⟩
            rcases List.mem_append.1 he with he | he
            · exact hHE.2 e he
            · rw [List.mem_singleton.1 he]
              exact ⟨by show t.size ≤ _; omega, (show (Lit.int .i64 id).wf = true from WalkArith.wf_i64 (by omega))⟩
          clear hHE hl3
          by_cases hj1 : j < n
          · obtain rfl : j = 8 := by omega
            have i1 : ((8 : Nat) : Int) < (n : Int) := by omega
            by_cases hid2 : id = 0
            · subst hid2
              go_wp2
              go_ret
              exact ⟨es, by rw [HE.out.1]; omega, HE.out.2, sort_list HB0.out HBW.out HOW.out HE.out.1⟩
            · have i3 : (id == 0) = false := by rw [beq_eq_false_iff_ne]; exact hid2
              go_wp2_with (at_builtin; refine wpList_append_own_at _ rfl _ _ 46 rfl w0.heap.size 48 i48 _ 3 32 Tryd.underlying46 hi hz0 hz1 hz2 rfl (by decide) (.slice D k d) k (entsC es) rfl (HOW.out.alloc _) ⟨wr.heap.size, 0, none⟩ 1 1 [.string t, .bool b, .int .i64 id] rfl rfl (World.news_of_block (cs := #[.string t, .bool b, .int .i64 id]) (t := 48) (fr := (0, 0)) (heap_alloc_new wr _)) (by simp [Value.oneCell']) (by unfold maxLen; omega) (by omega) (by simp; omega) ?_; intro v' w5 hown5 hgrow5 _ hloc; obtain ⟨A5, c5, rfl⟩ := own_form hown5)
              go_roundw
              case rel => exact ⟨k + 1, es ++ [(t, b, id)], A5, c5, by omega, by go_num, rfl, by rw [HENT.out]; exact hown5, HSO, (HBW.out.alloc HBW.out.size _).grown hgrow5 (by have := HBW.out.size; simp; omega) (row_ge HOW.out)⟩
              case measure => simp [intOf]; omega
          · obtain rfl : j = n := by omega
            by_cases hid2 : id = 0
            · subst hid2
              go_wp2
              go_ret
              exact ⟨es, by rw [HE.out.1]; omega, HE.out.2, sort_list HB0.out HBW.out HOW.out HE.out.1⟩
            · have i3 : (id == 0) = false := by rw [beq_eq_false_iff_ne]; exact hid2
              go_wp2_with (at_builtin; refine wpList_append_own_at _ rfl _ _ 46 rfl w0.heap.size 48 i48 _ 3 32 Tryd.underlying46 hi hz0 hz1 hz2 rfl (by decide) (.slice D k d) k (entsC es) rfl (HOW.out.alloc _) ⟨wr.heap.size, 0, none⟩ 1 1 [.string t, .bool b, .int .i64 id] rfl rfl (World.news_of_block (cs := #[.string t, .bool b, .int .i64 id]) (t := 48) (fr := (0, 0)) (heap_alloc_new wr _)) (by simp [Value.oneCell']) (by unfold maxLen; omega) (by omega) (by simp; omega) ?_; intro v' w5 hown5 hgrow5 _ hloc; obtain ⟨A5, c5, rfl⟩ := own_form hown5)
              go_roundw
              case rel => exact ⟨k + 1, es ++ [(t, b, id)], A5, c5, by omega, by go_num, rfl, by rw [HENT.out]; exact hown5, HSO, (HBW.out.alloc HBW.out.size _).grown hgrow5 (by have := HBW.out.size; simp; omega) (row_ge HOW.out)⟩
              case measure => simp [intOf]; omega
    · obtain rfl : k = 8 := by omega
      have hOW := Lib.hid hown
      have hbw := Lib.hid hb
      clear hown hb
      go_wp2
      go_ret
      exact ⟨es, by rw [HE.out.1]; omega, HE.out.2, sort_list HB0.out hbw.out hOW.out HE.out.1⟩
end Go.Proofs.YthnlldojidocoaaDoor
