/- isValid. -/
import Derived.Test.YthnlldojidocoaaDoorHold
namespace Go.Proofs.YthnlldojidocoaaDoor
open Go.RowKit Go.Maps

theorem geq_run (t : TypeId) (a b : ByteArray) : binOp .geq t (.string a) (.string b) = pure (.bool !(Op.bytesLess a.toList b.toList)) := by simp [binOp, Op.stringOp]
/-- the entries in a slice -/
def Ents (w : World) (B : Nat) (A : Option Addr) (c : Nat) (es : List Ent) : Prop := Row w B 3 A es.length c (entsC es)
theorem Ents.at_ {w : World} {B : Nat} {A : Option Addr} {c : Nat} {es : List Ent} (h : Ents w B A c es) {k : Nat} (hk : k < es.length) : ∃ ad, A = some ad ∧ ad.block < B ∧ w.cell? (ad.add (k * 3)) = some (.string es[k].1) ∧
    w.cell? ⟨(ad.add (k * 3)).block, (ad.add (k * 3)).off + 1, none⟩ = some (.bool es[k].2.1) ∧ w.cell? ⟨(ad.add (k * 3)).block, (ad.add (k * 3)).off + 2, none⟩ = some (.int .i64 es[k].2.2) :=
  row3 h (entsC_at es hk (j := 0) (by omega)) (entsC_at es hk (j := 1) (by omega)) (entsC_at es hk (j := 2) (by omega))
/-- what every entry that a program has is -/
def Sound (es : List Ent) : Prop := ∀ e ∈ es, e.1.size ≤ maxLen ∧ (Lit.int .i64 e.2.2).wf = true

set_option maxRecDepth 100000 in
set_option maxHeartbeats 2000000 in
theorem isValid_any {B : Nat} {w : World} {p : Nat} {os : List Ob} {F : Nat → Prop} {v : Value} {m : Option Nat} {In : Nat → Prop} (h : StoreH B w p os F v m In) (hn : os.length ≤ 1073741824) (hT : Tab w)
    (M : Nat) (A : Option Addr) (es : List Ent) (c : Nat) (hA : Ents w M A c es) (hM : M ≤ w.heap.size) (hS : Sound es) (hl : es.length ≤ maxLen) :
    Calls Tryd.prog 34 #[.pointer (some ⟨p, 0, none⟩), .slice A es.length c] w (BoolB w (treeOk os es)) := by
  unfold maxLen at hl
  obtain ⟨R, HR⟩ : ∃ R, Hid (treeOk os es = R) := ⟨_, Lib.hid rfl⟩
  rw [HR.out]
  have hcap := hA.2.1
  obtain ⟨n, HN⟩ : ∃ n, Hid (es.length = n) := ⟨_, Lib.hid rfl⟩
  rw [HN.out] at hl hcap ⊢
  have NM := Lib.hid (fun (W : World) (hW : Below w.heap.size w W) (e : Ent) (he : e ∈ es) => name_any e.1 W (hT.on hW) (hS e he).1)
  have CH := Lib.hid (fun (W : World) (hW : Below w.heap.size w W) (e : Ent) (he : e ∈ es) => canHold_any (h.on hW) hn e (hS e he).2)
  clear h hT hS
  go_enter Tryd.func34, Tryd.ntmps34
  go_wp2
  go_loopw [9] (fun i wr => ∃ k : Nat, k ≤ n ∧ i = .int .i64 k ∧ Hid (∀ j (hj : j < es.length), j < k → fineAt os es j hj) ∧ Below w.heap.size w wr) (fun i _ => n - (intOf i).toNat)
  case atStart => exact ⟨0, by omega, rfl, Lib.hid (fun j _ hj => by omega), Below.refl _ _⟩
  case round =>
    obtain ⟨k, hk, rfl, HK, hBw⟩ := hrel
    have hi0 : (0 : Int) ≤ (k : Int) := Int.natCast_nonneg _
    by_cases hlt : k < n
    · have hi1 : (k : Int) < (n : Int) := by omega
      have hkl : k < es.length := by have := HN.out; omega
      obtain ⟨ad, rfl, hadB, x0, x1, x2⟩ := (show Ents wr M A c es from Row.below hA hBw hM).at_ hkl
      have hmem := List.getElem_mem hkl
      have HK1 : Hid (fineAt os es k hkl → ∀ j (hj : j < es.length), j < k + 1 → fineAt os es j hj) := Lib.hid (fun h j hj hjk => by
        rcases Nat.lt_or_ge j k with h' | h'
        · exact HK.out j hj h'
        · obtain rfl : j = k := by omega
          exact h)
      have HR1 : Hid (¬ fineAt os es k hkl → R = false) := Lib.hid (fun h => by
        rw [← HR.out, Bool.eq_false_iff]
        intro e
        exact h ((treeOk_iff os es).1 e k hkl))
      obtain ⟨e, he⟩ : ∃ e, es[k] = e := ⟨_, rfl⟩
      have HE := Lib.hid he
      rw [he] at x0 x1 x2 hmem
      have hlad : (ad.add (k * 3)).block < wr.heap.size := by rw [add_block]; have := hBw.size; omega
      obtain ⟨en, ed, ei⟩ := e
      dsimp only at x0 x1 x2
      have NM1 := Lib.hid (fun (W : World) (hW : Below w.heap.size w W) => (show Calls Tryd.prog 41 #[.string en] W (BoolB W (nameOk en)) from NM.out W hW _ hmem))
      have CH1 := Lib.hid (fun (W : World) (hW : Below w.heap.size w W) => (show Calls Tryd.prog 42 #[.pointer (some ⟨p, 0, none⟩), .agg #[.string en, .bool ed, .int .i64 ei]] W (BoolB W (canHold os (en, ed, ei))) from CH.out W hW _ hmem))
      have hbN : Below w.heap.size w (wr.alloc (.cells #[.string en, .bool ed, .int .i64 ei] 48)) := hBw.alloc hBw.size _
      have HFN := Lib.hid (Full.new wr 48 [.string en, .bool ed, .int .i64 ei])
      have hbB := hBw.size
      by_cases h0 : 0 < k
      · have h0i : (0 : Int) < (k : Int) := by omega
        have hd : decide ((0 : Int) < (k : Int)) = true := by simp; omega
        obtain ⟨bd, e1, _, y0, _, _⟩ := (show Ents wr M (some ad) c es from Row.below hA hBw hM).at_ (k := k - 1) (by omega)
        injection e1 with e1
        subst e1
        have hpl : k - 1 < es.length := by omega
        obtain ⟨pe, hpe⟩ : ∃ pe, (es[k - 1]'hpl).1 = pe := ⟨_, rfl⟩
        rw [hpe] at y0
        have hlad2 : (ad.add ((k - 1) * 3)).block < wr.heap.size := by rw [add_block]; rw [add_block] at hlad; exact hlad
        have Y0 : (wr.alloc (.cells #[.string en, .bool ed, .int .i64 ei] 48)).cell? (ad.add ((k - 1) * 3)) = some (.string pe) := (World.cell?_alloc_lt wr _ _ hlad2).trans y0
        have hk1 : IntKind.i64.wrap ((k : Int) - 1) = ((k - 1 : Nat) : Int) := by simp [IntKind.wrap, IntKind.bits, IntKind.signed]; omega
        have hj0 : (0 : Int) ≤ ((k - 1 : Nat) : Int) := Int.natCast_nonneg _
        have hj1 : ((k - 1 : Nat) : Int) < (n : Int) := by omega
        by_cases hor : Op.bytesLess pe.toList en.toList = true
        · have HOR := Lib.hid hor
          have hor2 := hor
          have HPE := Lib.hid hpe
          by_cases hno : nameOk en = true
          · rw [hno] at NM1
            by_cases hch : canHold os (en, ed, ei) = true
            · have hfine : fineAt os es k hkl := ⟨fun _ => by rw [hpe, he]; exact hor, by rw [he]; unfold entOk; rw [hno, hch]; rfl⟩
              have HF1 := Lib.hid hfine
              rw [hch] at CH1
              clear hfine hno hch he
              go_wp2_with fail
              go_quiet (fail)
              go_wp2_with (first
                | (go_at_call 41; ((with_reducible refine (NM1.out _ ?_).mono ?_); exact Below.drewN_ hbN _; rintro e w1 ⟨rfl, hb1⟩; have hB1 := Below.then_ (Below.drewN_ hbN _) hb1; have hF2 := (HFN.out.drewN _).on hb1; have c0 : w1.cell? ⟨wr.heap.size, 0, none⟩ = some (.string en) := hF2.cell 0; have c1 : w1.cell? ⟨wr.heap.size, 1, none⟩ = some (.bool ed) := hF2.cell 1; have c2 : w1.cell? ⟨wr.heap.size, 2, none⟩ = some (.int .i64 ei) := hF2.cell 2; clear hF2))
                | (go_at_call 42; ((with_reducible refine (CH1.out _ ?_).mono ?_); exact hB1; rintro e w2 ⟨rfl, hb2⟩)))
              go_roundw
              case rel => exact ⟨k + 1, by omega, by go_num, Lib.hid (HK1.out HF1.out), Below.then_ hB1 hb2⟩
              case measure => simp [intOf]; omega
            · have hR : R = false := HR1.out fun h => by
                have h2 := h.2
                rw [he] at h2
                unfold entOk at h2
                rw [Bool.and_eq_true] at h2
                exact hch h2.2
              have HR2 := Lib.hid hR
              have hch' : canHold os (en, ed, ei) = false := by simpa using hch
              rw [hch'] at CH1
              clear hno hch hch' he hR
              go_wp2_with fail
              go_quiet (fail)
              go_wp2_with (first
                | (go_at_call 41; ((with_reducible refine (NM1.out _ ?_).mono ?_); exact Below.drewN_ hbN _; rintro e w1 ⟨rfl, hb1⟩; have hB1 := Below.then_ (Below.drewN_ hbN _) hb1; have hF2 := (HFN.out.drewN _).on hb1; have c0 : w1.cell? ⟨wr.heap.size, 0, none⟩ = some (.string en) := hF2.cell 0; have c1 : w1.cell? ⟨wr.heap.size, 1, none⟩ = some (.bool ed) := hF2.cell 1; have c2 : w1.cell? ⟨wr.heap.size, 2, none⟩ = some (.int .i64 ei) := hF2.cell 2; clear hF2))
                | (go_at_call 42; ((with_reducible refine (CH1.out _ ?_).mono ?_); exact hB1; rintro e w2 ⟨rfl, hb2⟩)))
              go_ret
              exact ⟨by rw [HR2.out]; rfl, Below.then_ hB1 hb2⟩
          · have hR : R = false := HR1.out fun h => by
              have h2 := h.2
              rw [he] at h2
              unfold entOk at h2
              rw [Bool.and_eq_true] at h2
              exact hno h2.1
            have HR2 := Lib.hid hR
            have hno' : nameOk en = false := by simpa using hno
            rw [hno'] at NM1
            clear hno hno' he hR
            go_wp2_with fail
            go_quiet (fail)
            go_wp2_with (go_at_call 41; ((with_reducible refine (NM1.out _ ?_).mono ?_); exact Below.drewN_ hbN _; rintro e w1 ⟨rfl, hb1⟩; have hB1 := Below.then_ (Below.drewN_ hbN _) hb1; have hF2 := (HFN.out.drewN _).on hb1; have c0 : w1.cell? ⟨wr.heap.size, 0, none⟩ = some (.string en) := hF2.cell 0; have c1 : w1.cell? ⟨wr.heap.size, 1, none⟩ = some (.bool ed) := hF2.cell 1; have c2 : w1.cell? ⟨wr.heap.size, 2, none⟩ = some (.int .i64 ei) := hF2.cell 2; clear hF2))
            go_ret
            exact ⟨by rw [HR2.out]; rfl, hB1⟩
        · have hR : R = false := HR1.out fun h => by
            have h2 := h.1 h0
            rw [hpe, he] at h2
            exact hor h2
          have HR2 := Lib.hid hR
          have hor' : Op.bytesLess pe.toList en.toList = false := by simpa using hor
          clear hor he hR
          go_wp2_with fail
          go_quiet (fail)
          go_wp2
          go_ret
          exact ⟨by rw [HR2.out]; rfl, Below.drewN_ hbN _⟩
      · have h0i : ¬ (0 : Int) < (k : Int) := by omega
        have hd : decide ((0 : Int) < (k : Int)) = false := by simp; omega
        by_cases hno : nameOk en = true
        · rw [hno] at NM1
          by_cases hch : canHold os (en, ed, ei) = true
          · have hfine : fineAt os es k hkl := ⟨fun h => absurd h h0, by rw [he]; unfold entOk; rw [hno, hch]; rfl⟩
            have HF1 := Lib.hid hfine
            rw [hch] at CH1
            clear hfine hno hch he
            go_wp2_with fail
            go_quiet (fail)
            go_wp2_with (first
              | (go_at_call 41; ((with_reducible refine (NM1.out _ ?_).mono ?_); exact Below.drewN_ hbN _; rintro e w1 ⟨rfl, hb1⟩; have hB1 := Below.then_ (Below.drewN_ hbN _) hb1; have hF2 := (HFN.out.drewN _).on hb1; have c0 : w1.cell? ⟨wr.heap.size, 0, none⟩ = some (.string en) := hF2.cell 0; have c1 : w1.cell? ⟨wr.heap.size, 1, none⟩ = some (.bool ed) := hF2.cell 1; have c2 : w1.cell? ⟨wr.heap.size, 2, none⟩ = some (.int .i64 ei) := hF2.cell 2; clear hF2))
              | (go_at_call 42; ((with_reducible refine (CH1.out _ ?_).mono ?_); exact hB1; rintro e w2 ⟨rfl, hb2⟩)))
            go_roundw
            case rel => exact ⟨k + 1, by omega, by go_num, Lib.hid (HK1.out HF1.out), Below.then_ hB1 hb2⟩
            case measure => simp [intOf]; omega
          · have hR : R = false := HR1.out fun h => by
              have h2 := h.2
              rw [he] at h2
              unfold entOk at h2
              rw [Bool.and_eq_true] at h2
              exact hch h2.2
            have HR2 := Lib.hid hR
            have hch' : canHold os (en, ed, ei) = false := by simpa using hch
            rw [hch'] at CH1
            clear hno hch hch' he hR
            go_wp2_with fail
            go_quiet (fail)
            go_wp2_with (first
              | (go_at_call 41; ((with_reducible refine (NM1.out _ ?_).mono ?_); exact Below.drewN_ hbN _; rintro e w1 ⟨rfl, hb1⟩; have hB1 := Below.then_ (Below.drewN_ hbN _) hb1; have hF2 := (HFN.out.drewN _).on hb1; have c0 : w1.cell? ⟨wr.heap.size, 0, none⟩ = some (.string en) := hF2.cell 0; have c1 : w1.cell? ⟨wr.heap.size, 1, none⟩ = some (.bool ed) := hF2.cell 1; have c2 : w1.cell? ⟨wr.heap.size, 2, none⟩ = some (.int .i64 ei) := hF2.cell 2; clear hF2))
              | (go_at_call 42; ((with_reducible refine (CH1.out _ ?_).mono ?_); exact hB1; rintro e w2 ⟨rfl, hb2⟩)))
            go_ret
            exact ⟨by rw [HR2.out]; rfl, Below.then_ hB1 hb2⟩
        · have hR : R = false := HR1.out fun h => by
            have h2 := h.2
            rw [he] at h2
            unfold entOk at h2
            rw [Bool.and_eq_true] at h2
            exact hno h2.1
          have HR2 := Lib.hid hR
          have hno' : nameOk en = false := by simpa using hno
          rw [hno'] at NM1
          clear hno hno' he hR
          go_wp2_with fail
          go_quiet (fail)
          go_wp2_with (go_at_call 41; ((with_reducible refine (NM1.out _ ?_).mono ?_); exact Below.drewN_ hbN _; rintro e w1 ⟨rfl, hb1⟩; have hB1 := Below.then_ (Below.drewN_ hbN _) hb1; have hF2 := (HFN.out.drewN _).on hb1; have c0 : w1.cell? ⟨wr.heap.size, 0, none⟩ = some (.string en) := hF2.cell 0; have c1 : w1.cell? ⟨wr.heap.size, 1, none⟩ = some (.bool ed) := hF2.cell 1; have c2 : w1.cell? ⟨wr.heap.size, 2, none⟩ = some (.int .i64 ei) := hF2.cell 2; clear hF2))
          go_ret
          exact ⟨by rw [HR2.out]; rfl, hB1⟩
    · obtain rfl : k = n := by omega
      have hR : R = true := by
        rw [← HR.out]
        exact (treeOk_iff os es).2 fun j hj => HK.out j hj (by rw [← HN.out]; exact hj)
      have HR2 := Lib.hid hR
      clear hR
      go_wp2
      go_ret
      exact ⟨by rw [HR2.out]; rfl, hBw⟩
end Go.Proofs.YthnlldojidocoaaDoor
