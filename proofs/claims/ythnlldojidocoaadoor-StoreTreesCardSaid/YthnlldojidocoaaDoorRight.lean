/- The reference's Right. -/
import Derived.Test.YthnlldojidocoaaDoorOne
import Derived.Test.YthnlldojidocoaaDoorIsValid
namespace Go.Proofs.YthnlldojidocoaaDoor
open Go.RowKit Go.Maps

def SoundS (es : List Ent) : Prop := ∀ e ∈ es, e.1.size ≤ 140737488355328 ∧ (Lit.int .i64 e.2.2).wf = true
set_option maxRecDepth 100000 in
set_option maxHeartbeats 8000000 in
theorem right_any {B : Nat} {w : World} {p : Nat} {os : List Ob} {F : Nat → Prop} {v : Value} {In : Nat → Prop} (h : RefH B w p os F v In) (hn : os.length ≤ 1073741824)
    (M : Nat) (A : Option Addr) (es : List Ent) (c : Nat) (hA : Ents w M A c es) (hM : M ≤ w.heap.size) (hS : SoundS es) (hl : es.length ≤ maxLen) :
    Calls Tryd.prog 23 #[.pointer (some ⟨p, 0, none⟩), .slice A es.length c] w (BoolB w (treeOk os es)) := by
  unfold maxLen at hl
  obtain ⟨R, HR⟩ : ∃ R, Hid (treeOk os es = R) := ⟨_, Lib.hid rfl⟩
  rw [HR.out]
  have hcap := hA.2.1
  obtain ⟨n, HN⟩ : ∃ n, Hid (es.length = n) := ⟨_, Lib.hid rfl⟩
  rw [HN.out] at hl hcap ⊢
  obtain ⟨vs, hvl, hown, hents⟩ := h.obs
  obtain ⟨L, d, rfl⟩ := own_form hown
  have HRow := Lib.hid (show Row w w.heap.size 3 L os.length d (obsC os vs) from Row.own hown)
  have hcapL := HRow.out.2.1
  have HF := Lib.hid h.full
  have HE := Lib.hid (fun (i : Nat) (o : Ob) (u : Value) (h1 : os[i]? = some o) (h2 : vs[i]? = some u) => (show ∃ A c, u = .slice A o.2.2.length c from by obtain ⟨A, c, e, _⟩ := hents i o u h1 h2; exact ⟨A, c, e⟩))
  have HVL := Lib.hid hvl
  have HS := Lib.hid hS
  obtain ⟨N, HNN⟩ : ∃ N, Hid (os.length = N) := ⟨_, Lib.hid rfl⟩
  rw [HNN.out] at HF hn HRow hcapL
  clear h hS hvl hown hents
  go_enter Tryd.func23, Tryd.ntmps23
  go_wp2
  go_loopw [5] (fun i wr => ∃ k : Nat, k ≤ n ∧ i = .int .i64 k ∧ Hid (∀ j (hj : j < es.length), j < k → fineAt os es j hj) ∧ Below w.heap.size w wr) (fun i _ => n - (intOf i).toNat)
  case atStart => exact ⟨0, by omega, rfl, Lib.hid (fun j _ hj => by omega), Below.refl _ _⟩
  case round =>
    obtain ⟨k, hk, rfl, HK, hBw⟩ := hrel
    have hi0 : (0 : Int) ≤ (k : Int) := Int.natCast_nonneg _
    by_cases hlt : k < n
    · have hi1 : (k : Int) < (n : Int) := by omega
      have hkl : k < es.length := by have := HN.out; omega
      obtain ⟨ad, rfl, hadB, x0, x1, x2⟩ := (show Ents wr M A c es from Row.below hA hBw hM).at_ hkl
      have hmem := List.getElem_mem hkl
      have HK1 : Hid (fineAt os es k hkl → ∀ j (hj : j < es.length), j < k + 1 → fineAt os es j hj) := Lib.hid (fun h j hj hjk => by
        rcases Nat.lt_or_ge j k with h' | h'
        · exact HK.out j hj h'
        · obtain rfl : j = k := by omega
          exact h)
      have HR1 : Hid (¬ fineAt os es k hkl → R = false) := Lib.hid (fun h => by
        rw [← HR.out, Bool.eq_false_iff]
        intro e
        exact h ((treeOk_iff os es).1 e k hkl))
      obtain ⟨e, he⟩ : ∃ e, es[k] = e := ⟨_, rfl⟩
      rw [he] at x0 x1 x2 hmem
      obtain ⟨en, ed, ei⟩ := e
      dsimp only at x0 x1 x2
      obtain ⟨hsz, hwf⟩ := HS.out _ hmem
      dsimp only at hsz hwf
      have hei := bd_i64 hwf
      have ONE := Lib.hid (fun (W : World) => one_any en W hsz)
      have hlad : (ad.add (k * 3)).block < wr.heap.size := by rw [add_block]; have := hBw.size; omega
      have hbN : Below w.heap.size w (wr.alloc (.cells #[.string en, .bool ed, .int .i64 ei] 48)) := hBw.alloc hBw.size _
      have HFN := Lib.hid (Full.new wr 48 [.string en, .bool ed, .int .i64 ei])
      have hbB := hBw.size
      have hEqOk : entOk os es[k] = (nameOk en && canHold os (en, ed, ei)) := by rw [he]; rfl
      have HEO := Lib.hid hEqOk
      have HAL := Lib.hid hA
      obtain ⟨be, hbe⟩ : ∃ be, wr.heap.size = be := ⟨_, rfl⟩
      rw [hbe] at HFN
      clear hEqOk hmem hsz hwf hA
      go_wp2_with (go_at_call 38; ((with_reducible refine (ONE.out _).mono ?_); rintro e w1 ⟨rfl, hb1⟩))
      have hB1 : Below w.heap.size w w1 := Below.then_ hbN hb1
      have hF2 := HFN.out.on hb1
      have c0 : w1.cell? ⟨be, 0, none⟩ = some (.string en) := hF2.cell 0
      have c1 : w1.cell? ⟨be, 1, none⟩ = some (.bool ed) := hF2.cell 1
      have c2 : w1.cell? ⟨be, 2, none⟩ = some (.int .i64 ei) := hF2.cell 2
      have l0 : w1.cell? ⟨p, 0, none⟩ = some (.slice L N d) := (HF.out.on hB1).cell 0
      have hR1 : Row w1 w1.heap.size 3 L N d (obsC os vs) := (Row.below HRow.out hB1 (Nat.le_refl _)).more hB1.size
      have hbl := hF2.lt
      have HR1w := Lib.hid hR1
      clear hF2 hR1 hb1 hbN x0 x1 x2
      by_cases hno : nameOk en = true
      · have HYthnlldojidocoaaDoor := Lib.hid hno
        by_cases h0 : 0 < k
        · have h0i : (0 : Int) < (k : Int) := by omega
          have hd0 : decide ((0 : Int) < (k : Int)) = true := by simp; omega
          obtain ⟨bd, e1, _, y0, _, _⟩ := (show Ents w1 M (some ad) c es from Row.below HAL.out hB1 hM).at_ (k := k - 1) (by omega)
          injection e1 with e1
          subst e1
          have hpl : k - 1 < es.length := by omega
          obtain ⟨pe, hpe⟩ : ∃ pe, (es[k - 1]'hpl).1 = pe := ⟨_, rfl⟩
          rw [hpe] at y0
          have hk1 : IntKind.i64.wrap ((k : Int) - 1) = ((k - 1 : Nat) : Int) := by simp [IntKind.wrap, IntKind.bits, IntKind.signed]; omega
          have hj0 : (0 : Int) ≤ ((k - 1 : Nat) : Int) := Int.natCast_nonneg _
          have hj1 : ((k - 1 : Nat) : Int) < (n : Int) := by omega
          have HPE := Lib.hid hpe
          clear hpe
          by_cases hor : Op.bytesLess pe.toList en.toList = true
          · have hfo : ∀ h0 : 0 < k, Op.bytesLess (es[k - 1]'(by omega)).1.toList es[k].1.toList = true := fun _ => by rw [HPE.out, he]; exact hor
            have HFO := Lib.hid hfo
            clear hfo
            by_cases hlo : ei < 1
            · have HBAD : Hid (¬ fineAt os es k hkl) := Lib.hid (fun h => by
                have h2 := h.2
                rw [HEO.out, Bool.and_eq_true] at h2
                have h3 := h2.2
                unfold canHold getO at h3
                rw [if_neg (by show ¬ 1 ≤ ei; omega)] at h3
                cases h3)
              have hR : R = false := HR1.out HBAD.out
              have HR2 := Lib.hid hR
              clear hR he
              go_wp2_with fail
              go_quiet (fail)
              go_wp2
              go_ret
              exact ⟨by rw [HR2.out]; rfl, Below.drewN_ hB1 _⟩
            · have hlo2 : decide (ei < 1) = false := by simp; omega
              by_cases hhi : (N : Int) < ei
              · have HBAD : Hid (¬ fineAt os es k hkl) := Lib.hid (fun h => by
                  have h2 := h.2
                  rw [HEO.out, Bool.and_eq_true] at h2
                  have h3 := h2.2
                  unfold canHold getO at h3
                  rw [if_pos (by show 1 ≤ ei; omega), List.getElem?_eq_none (by have := HNN.out; show os.length ≤ (ei - 1).toNat; omega)] at h3
                  cases h3)
                have hR : R = false := HR1.out HBAD.out
                have HR2 := Lib.hid hR
                clear hR he
                go_wp2_with fail
                go_quiet (fail)
                go_wp2
                go_ret
                exact ⟨by rw [HR2.out]; rfl, Below.drewN_ hB1 _⟩
              · have hhi2 : decide ((N : Int) < ei) = false := by simp; omega
                obtain ⟨m, rfl⟩ : ∃ m : Nat, ei = (m : Int) + 1 := ⟨(ei - 1).toNat, by omega⟩
                have hmN : m < N := by omega
                have hml : m < os.length := by have := HNN.out; omega
                have hmv : m < vs.length := by have := HVL.out; omega
                obtain ⟨ob, hob⟩ : ∃ ob, os[m] = ob := ⟨_, rfl⟩
                have hg : getO os ((m : Int) + 1) = some ob := by
                  unfold getO
                  rw [if_pos (by omega), show ((m : Int) + 1 - 1).toNat = m by omega, List.getElem?_eq_getElem hml, hob]
                obtain ⟨Ae, ce, hu⟩ := HE.out m ob vs[m] (by rw [List.getElem?_eq_getElem hml, hob]) (List.getElem?_eq_getElem hmv)
                have t0 := obsC_at HVL.out hml (j := 0) (by omega)
                have t1 := obsC_at HVL.out hml (j := 1) (by omega)
                have t2 := obsC_at HVL.out hml (j := 2) (by omega)
                rw [hob, hu] at t0 t1 t2
                obtain ⟨ld, hL, hlb, z0, z1, z2⟩ := row3 HR1w.out t0 t1 t2
                subst hL
                obtain ⟨od, ot, oe⟩ := ob
                dsimp only at z0 z1 z2
                obtain ⟨ne, hne⟩ : ∃ ne, oe.length = ne := ⟨_, rfl⟩
                rw [hne] at z2
                have hch : canHold os (en, ed, (m : Int) + 1) = ((od == ed) && (!od || !decide (ne = 0))) := by
                  unfold canHold
                  dsimp only
                  rw [hg]
                  dsimp only
                  rw [← hne]
                  cases oe <;> simp
                have HCH := Lib.hid hch
                have w1x : IntKind.i64.wrap ((m : Int) + 1 - 1) = (m : Int) := by simp [IntKind.wrap, IntKind.bits, IntKind.signed]; omega
                have w1y : IntKind.i64.wrap (m : Int) = (m : Int) := by simp [IntKind.wrap, IntKind.bits, IntKind.signed]; omega
                have hm0 : (0 : Int) ≤ (m : Int) := Int.natCast_nonneg _
                have hm1 : (m : Int) < (N : Int) := by omega
                clear hob hg hu t0 t1 t2 hne hch hei
                go_wp2_with fail
                go_quiet (fail)
                obtain ⟨w2, hw2⟩ : ∃ w2, w1.drewN nq = w2 := ⟨_, rfl⟩
                have hB2 : Below w.heap.size w (w1.drewN nq) := Below.drewN_ hB1 _
                have c0' : (w1.drewN nq).cell? ⟨be, 0, none⟩ = some (.string en) := c0
                have c1' : (w1.drewN nq).cell? ⟨be, 1, none⟩ = some (.bool ed) := c1
                have c2' : (w1.drewN nq).cell? ⟨be, 2, none⟩ = some (.int .i64 ((m : Int) + 1)) := c2
                have l0' : (w1.drewN nq).cell? ⟨p, 0, none⟩ = some (.slice (some ld) N d) := l0
                have z0' : (w1.drewN nq).cell? (ld.add (m * 3)) = some (.bool od) := z0
                have z1' : (w1.drewN nq).cell? ⟨(ld.add (m * 3)).block, (ld.add (m * 3)).off + 1, none⟩ = some (.string ot) := z1
                have z2' : (w1.drewN nq).cell? ⟨(ld.add (m * 3)).block, (ld.add (m * 3)).off + 2, none⟩ = some (.slice Ae ne ce) := z2
                have hbl' : be < (w1.drewN nq).heap.size := hbl
                rw [hw2] at hB2 c0' c1' c2' l0' z0' z1' z2' hbl' ⊢
                have e1 : (w2.drew.alloc (.cells #[.bool od, .string ot, .slice Ae ne ce] 79)).cell? ⟨be, 1, none⟩ = some (.bool ed) := (World.cell?_alloc_lt w2.drew _ ⟨be, 1, none⟩ hbl').trans c1'
                have hB3 : Below w.heap.size w (w2.drew.alloc (.cells #[.bool od, .string ot, .slice Ae ne ce] 79)) := (Below.drewN_ hB2 1).alloc hB2.size _
                have hpl' : p < w2.heap.size := Nat.lt_of_lt_of_le (World.block_lt_of_cell? _ _ l0') (Nat.le_refl _)
                have hld' : (ld.add (m * 3)).block < w2.heap.size := World.block_lt_of_cell? _ _ z0'
                have ez : ∀ (q : Addr), q.block < w2.heap.size → (w2.alloc (.cells #[.bool false, .string ⟨#[]⟩, .slice none 0 0] 79)).cell? q = w2.cell? q := fun q hq => World.cell?_alloc_lt w2 _ q hq
                have l0z := (ez ⟨p, 0, none⟩ hpl').trans l0'
                have c1z := (ez ⟨be, 1, none⟩ hbl').trans c1'
                have c2z := (ez ⟨be, 2, none⟩ hbl').trans c2'
                have z0z := (ez (ld.add (m * 3)) hld').trans z0'
                have z1z := (ez ⟨(ld.add (m * 3)).block, (ld.add (m * 3)).off + 1, none⟩ hld').trans z1'
                have z2z := (ez ⟨(ld.add (m * 3)).block, (ld.add (m * 3)).off + 2, none⟩ hld').trans z2'
                have e1z : (w2.alloc (.cells #[.bool od, .string ot, .slice Ae ne ce] 79)).cell? ⟨be, 1, none⟩ = some (.bool ed) := (World.cell?_alloc_lt w2 _ ⟨be, 1, none⟩ hbl').trans c1'
                have hB4 : Below w.heap.size w (w2.alloc (.cells #[.bool od, .string ot, .slice Ae ne ce] 79)).drew := Below.drewN_ (hB2.alloc hB2.size _) 1
                clear c0 c1 c2 l0 z0 z1 z2 hw2 hbl ez
                by_cases hd : od = ed
                · subst hd
                  cases od with
                  | false =>
                    have hfine : fineAt os es k hkl := ⟨HFO.out, by rw [HEO.out, HYthnlldojidocoaaDoor.out, HCH.out]; rfl⟩
                    have HF1 := Lib.hid hfine
                    clear hfine he
                    go_wp2_with fail
                    go_region
                    all_goals
                      go_wp2
                      go_roundw
                      case rel => exact ⟨k + 1, by omega, by go_num, Lib.hid (HK1.out HF1.out), by first | exact hB3 | exact hB4 | exact ((Below.drewN_ hB2 1).alloc hB2.size _)⟩
                      case measure => simp [intOf]; omega
                  | true =>
                    by_cases h0e : ne = 0
                    · subst h0e
                      have hR : R = false := HR1.out fun h => by
                        have h2 := h.2
                        rw [HEO.out, HCH.out, HYthnlldojidocoaaDoor.out] at h2
                        cases h2
                      have HR2 := Lib.hid hR
                      clear hR he
                      go_wp2_with fail
                      go_region
                      all_goals
                        go_wp2
                        go_ret
                        exact ⟨by rw [HR2.out]; rfl, by first | exact hB3 | exact hB4 | exact ((Below.drewN_ hB2 1).alloc hB2.size _)⟩
                    · have hfine : fineAt os es k hkl := ⟨HFO.out, by rw [HEO.out, HYthnlldojidocoaaDoor.out, HCH.out, decide_eq_false h0e]; rfl⟩
                      have HF1 := Lib.hid hfine
                      have h0i : ¬ (ne : Int) = 0 := by omega
                      have h0b : ((ne : Int) == 0) = false := by rw [beq_eq_false_iff_ne]; exact h0i
                      clear hfine he
                      go_wp2_with fail
                      go_region
                      all_goals
                        go_wp2
                        go_roundw
                        case rel => exact ⟨k + 1, by omega, by go_num, Lib.hid (HK1.out HF1.out), by first | exact hB3 | exact hB4 | exact ((Below.drewN_ hB2 1).alloc hB2.size _)⟩
                        case measure => simp [intOf]; omega
                · have hR : R = false := HR1.out fun h => by
                    have h2 := h.2
                    rw [HEO.out, HCH.out, HYthnlldojidocoaaDoor.out, Bool.true_and, Bool.and_eq_true] at h2
                    exact hd (by simpa using h2.1)
                  have HR2 := Lib.hid hR
                  clear hR he
                  cases od <;> cases ed
                  case false.false => exact absurd rfl hd
                  case true.true => exact absurd rfl hd
                  all_goals
                    clear hd
                    go_wp2_with fail
                    go_region
                    all_goals
                      go_wp2
                      go_ret
                      exact ⟨by rw [HR2.out]; rfl, by first | exact hB3 | exact hB4 | exact ((Below.drewN_ hB2 1).alloc hB2.size _)⟩
          · have HBAD : Hid (¬ fineAt os es k hkl) := Lib.hid (fun h => by
              have h2 := h.1 h0
              rw [HPE.out, he] at h2
              exact hor h2)
            have hor' : Op.bytesLess pe.toList en.toList = false := by simpa using hor
            clear hor
            have hR : R = false := HR1.out HBAD.out
            have HR2 := Lib.hid hR
            clear hR he
            go_wp2_with fail
            go_quiet (fail)
            go_wp2
            go_ret
            exact ⟨by rw [HR2.out]; rfl, Below.drewN_ hB1 _⟩
        · have h0i : ¬ (0 : Int) < (k : Int) := by omega
          have hd0 : decide ((0 : Int) < (k : Int)) = false := by simp; omega
          by_cases hlo : ei < 1
          · have HBAD : Hid (¬ fineAt os es k hkl) := Lib.hid (fun h => by
              have h2 := h.2
              rw [HEO.out, Bool.and_eq_true] at h2
              have h3 := h2.2
              unfold canHold getO at h3
              rw [if_neg (by show ¬ 1 ≤ ei; omega)] at h3
              cases h3)
            have hR : R = false := HR1.out HBAD.out
            have HR2 := Lib.hid hR
            clear hR he
            go_wp2_with fail
            go_quiet (fail)
            go_wp2
            go_ret
            exact ⟨by rw [HR2.out]; rfl, Below.drewN_ hB1 _⟩
          · have hlo2 : decide (ei < 1) = false := by simp; omega
            by_cases hhi : (N : Int) < ei
            · have HBAD : Hid (¬ fineAt os es k hkl) := Lib.hid (fun h => by
                have h2 := h.2
                rw [HEO.out, Bool.and_eq_true] at h2
                have h3 := h2.2
                unfold canHold getO at h3
                rw [if_pos (by show 1 ≤ ei; omega), List.getElem?_eq_none (by have := HNN.out; show os.length ≤ (ei - 1).toNat; omega)] at h3
                cases h3)
              have hR : R = false := HR1.out HBAD.out
              have HR2 := Lib.hid hR
              clear hR he
              go_wp2_with fail
              go_quiet (fail)
              go_wp2
              go_ret
              exact ⟨by rw [HR2.out]; rfl, Below.drewN_ hB1 _⟩
            · have hhi2 : decide ((N : Int) < ei) = false := by simp; omega
              obtain ⟨m, rfl⟩ : ∃ m : Nat, ei = (m : Int) + 1 := ⟨(ei - 1).toNat, by omega⟩
              have hmN : m < N := by omega
              have hml : m < os.length := by have := HNN.out; omega
              have hmv : m < vs.length := by have := HVL.out; omega
              obtain ⟨ob, hob⟩ : ∃ ob, os[m] = ob := ⟨_, rfl⟩
              have hg : getO os ((m : Int) + 1) = some ob := by
                unfold getO
                rw [if_pos (by omega), show ((m : Int) + 1 - 1).toNat = m by omega, List.getElem?_eq_getElem hml, hob]
              obtain ⟨Ae, ce, hu⟩ := HE.out m ob vs[m] (by rw [List.getElem?_eq_getElem hml, hob]) (List.getElem?_eq_getElem hmv)
              have t0 := obsC_at HVL.out hml (j := 0) (by omega)
              have t1 := obsC_at HVL.out hml (j := 1) (by omega)
              have t2 := obsC_at HVL.out hml (j := 2) (by omega)
              rw [hob, hu] at t0 t1 t2
              obtain ⟨ld, hL, hlb, z0, z1, z2⟩ := row3 HR1w.out t0 t1 t2
              subst hL
              obtain ⟨od, ot, oe⟩ := ob
              dsimp only at z0 z1 z2
              obtain ⟨ne, hne⟩ : ∃ ne, oe.length = ne := ⟨_, rfl⟩
              rw [hne] at z2
              have hch : canHold os (en, ed, (m : Int) + 1) = ((od == ed) && (!od || !decide (ne = 0))) := by
                unfold canHold
                dsimp only
                rw [hg]
                dsimp only
                rw [← hne]
                cases oe <;> simp
              have HCH := Lib.hid hch
              have w1x : IntKind.i64.wrap ((m : Int) + 1 - 1) = (m : Int) := by simp [IntKind.wrap, IntKind.bits, IntKind.signed]; omega
              have w1y : IntKind.i64.wrap (m : Int) = (m : Int) := by simp [IntKind.wrap, IntKind.bits, IntKind.signed]; omega
              have hm0 : (0 : Int) ≤ (m : Int) := Int.natCast_nonneg _
              have hm1 : (m : Int) < (N : Int) := by omega
              clear hob hg hu t0 t1 t2 hne hch hei
              go_wp2_with fail
              go_quiet (fail)
              obtain ⟨w2, hw2⟩ : ∃ w2, w1.drewN nq = w2 := ⟨_, rfl⟩
              have hB2 : Below w.heap.size w (w1.drewN nq) := Below.drewN_ hB1 _
              have c0' : (w1.drewN nq).cell? ⟨be, 0, none⟩ = some (.string en) := c0
              have c1' : (w1.drewN nq).cell? ⟨be, 1, none⟩ = some (.bool ed) := c1
              have c2' : (w1.drewN nq).cell? ⟨be, 2, none⟩ = some (.int .i64 ((m : Int) + 1)) := c2
              have l0' : (w1.drewN nq).cell? ⟨p, 0, none⟩ = some (.slice (some ld) N d) := l0
              have z0' : (w1.drewN nq).cell? (ld.add (m * 3)) = some (.bool od) := z0
              have z1' : (w1.drewN nq).cell? ⟨(ld.add (m * 3)).block, (ld.add (m * 3)).off + 1, none⟩ = some (.string ot) := z1
              have z2' : (w1.drewN nq).cell? ⟨(ld.add (m * 3)).block, (ld.add (m * 3)).off + 2, none⟩ = some (.slice Ae ne ce) := z2
              have hbl' : be < (w1.drewN nq).heap.size := hbl
              rw [hw2] at hB2 c0' c1' c2' l0' z0' z1' z2' hbl' ⊢
              have e1 : (w2.drew.alloc (.cells #[.bool od, .string ot, .slice Ae ne ce] 79)).cell? ⟨be, 1, none⟩ = some (.bool ed) := (World.cell?_alloc_lt w2.drew _ ⟨be, 1, none⟩ hbl').trans c1'
              have hB3 : Below w.heap.size w (w2.drew.alloc (.cells #[.bool od, .string ot, .slice Ae ne ce] 79)) := (Below.drewN_ hB2 1).alloc hB2.size _
              have hpl' : p < w2.heap.size := Nat.lt_of_lt_of_le (World.block_lt_of_cell? _ _ l0') (Nat.le_refl _)
              have hld' : (ld.add (m * 3)).block < w2.heap.size := World.block_lt_of_cell? _ _ z0'
              have ez : ∀ (q : Addr), q.block < w2.heap.size → (w2.alloc (.cells #[.bool false, .string ⟨#[]⟩, .slice none 0 0] 79)).cell? q = w2.cell? q := fun q hq => World.cell?_alloc_lt w2 _ q hq
              have l0z := (ez ⟨p, 0, none⟩ hpl').trans l0'
              have c1z := (ez ⟨be, 1, none⟩ hbl').trans c1'
              have c2z := (ez ⟨be, 2, none⟩ hbl').trans c2'
              have z0z := (ez (ld.add (m * 3)) hld').trans z0'
              have z1z := (ez ⟨(ld.add (m * 3)).block, (ld.add (m * 3)).off + 1, none⟩ hld').trans z1'
              have z2z := (ez ⟨(ld.add (m * 3)).block, (ld.add (m * 3)).off + 2, none⟩ hld').trans z2'
              have e1z : (w2.alloc (.cells #[.bool od, .string ot, .slice Ae ne ce] 79)).cell? ⟨be, 1, none⟩ = some (.bool ed) := (World.cell?_alloc_lt w2 _ ⟨be, 1, none⟩ hbl').trans c1'
              have hB4 : Below w.heap.size w (w2.alloc (.cells #[.bool od, .string ot, .slice Ae ne ce] 79)).drew := Below.drewN_ (hB2.alloc hB2.size _) 1
              clear c0 c1 c2 l0 z0 z1 z2 hw2 hbl ez
              by_cases hd : od = ed
              · subst hd
                cases od with
                | false =>
                  have hfine : fineAt os es k hkl := ⟨(fun h => absurd h h0), by rw [HEO.out, HYthnlldojidocoaaDoor.out, HCH.out]; rfl⟩
                  have HF1 := Lib.hid hfine
                  clear hfine he
                  go_wp2_with fail
                  go_region
                  all_goals
                    go_wp2
                    go_roundw
                    case rel => exact ⟨k + 1, by omega, by go_num, Lib.hid (HK1.out HF1.out), by first | exact hB3 | exact hB4 | exact ((Below.drewN_ hB2 1).alloc hB2.size _)⟩
                    case measure => simp [intOf]; omega
                | true =>
                  by_cases h0e : ne = 0
                  · subst h0e
                    have hR : R = false := HR1.out fun h => by
                      have h2 := h.2
                      rw [HEO.out, HCH.out, HYthnlldojidocoaaDoor.out] at h2
                      cases h2
                    have HR2 := Lib.hid hR
                    clear hR he
                    go_wp2_with fail
                    go_region
                    all_goals
                      go_wp2
                      go_ret
                      exact ⟨by rw [HR2.out]; rfl, by first | exact hB3 | exact hB4 | exact ((Below.drewN_ hB2 1).alloc hB2.size _)⟩
                  · have hfine : fineAt os es k hkl := ⟨(fun h => absurd h h0), by rw [HEO.out, HYthnlldojidocoaaDoor.out, HCH.out, decide_eq_false h0e]; rfl⟩
                    have HF1 := Lib.hid hfine
                    have h0i : ¬ (ne : Int) = 0 := by omega
                    have h0b : ((ne : Int) == 0) = false := by rw [beq_eq_false_iff_ne]; exact h0i
                    clear hfine he
                    go_wp2_with fail
                    go_region
                    all_goals
                      go_wp2
                      go_roundw
                      case rel => exact ⟨k + 1, by omega, by go_num, Lib.hid (HK1.out HF1.out), by first | exact hB3 | exact hB4 | exact ((Below.drewN_ hB2 1).alloc hB2.size _)⟩
                      case measure => simp [intOf]; omega
              · have hR : R = false := HR1.out fun h => by
                  have h2 := h.2
                  rw [HEO.out, HCH.out, HYthnlldojidocoaaDoor.out, Bool.true_and, Bool.and_eq_true] at h2
                  exact hd (by simpa using h2.1)
                have HR2 := Lib.hid hR
                clear hR he
                cases od <;> cases ed
                case false.false => exact absurd rfl hd
                case true.true => exact absurd rfl hd
                all_goals
                  clear hd
                  go_wp2_with fail
                  go_region
                  all_goals
                    go_wp2
                    go_ret
                    exact ⟨by rw [HR2.out]; rfl, by first | exact hB3 | exact hB4 | exact ((Below.drewN_ hB2 1).alloc hB2.size _)⟩
      · have HBAD : Hid (¬ fineAt os es k hkl) := Lib.hid (fun h => by
          have h2 := h.2
          rw [HEO.out, Bool.and_eq_true] at h2
          exact hno h2.1)
        have hno' : nameOk en = false := by simpa using hno
        clear hno
        have hR : R = false := HR1.out HBAD.out
        have HR2 := Lib.hid hR
        clear hR he
        go_wp2_with fail
        go_quiet (fail)
        go_wp2
        go_ret
        exact ⟨by rw [HR2.out]; rfl, Below.drewN_ hB1 _⟩
    · obtain rfl : k = n := by omega
      have hR : R = true := by
        rw [← HR.out]
        exact (treeOk_iff os es).2 fun j hj => HK.out j hj (by rw [← HN.out]; exact hj)
      have HR2 := Lib.hid hR
      clear hR
      go_wp2
      go_ret
      exact ⟨by rw [HR2.out]; rfl, hBw⟩
    end Go.Proofs.YthnlldojidocoaaDoor
