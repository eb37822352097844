/- The reference's Write. -/
import Derived.Test.YthhpnlobhffimaaRefPut
import Derived.Test.YthhpnlobhffimaaFit
import Derived.Deep.AppendLies
namespace Go.Proofs.Ythhpnlobhffimaa
set_option maxRecDepth 100000
open Go.RowKit
theorem row_q {w : World} {q : Nat} {cs : List Value} (hf : Full w q 46 cs) {b1 s1 n1 : Nat} {e1 : TypeId} {v1 : Value} {xs : List Value} (h1 : w.ownsRow b1 e1 s1 v1 n1 xs) (hne : 46 ≠ e1) : ∀ g, v1.ownBlock = some g → g ≠ q := by
  rintro g hg rfl
  exact hf.not_row h1 hne hg.symm
/-- The reference's disk in the midst of a call. -/
structure RMid (w w' : World) (q : Nat) (F : Nat → Prop) (now syn : ByteArray) (ps : List Pc) (c : Value) (N lf : Int) (lm : Bool) : Prop where
  full : Full w' q 46 [.string now, .string syn, c, .int .i64 N, .int .i64 lf, .bool lm]
  ps : w'.ownsRow 0 101 2 c ps.length (pcC ps)
  self : F q
  turn : Turn F w w'
  row : ∀ g, c.ownBlock = some g → F g ∨ w.heap.size ≤ g
  in_ : ∀ g, F g → g < w.heap.size
section
variable {B : Nat} {w w' w2 : World} {q : Nat} {d d' : Dk} {F : Nat → Prop} {c : Value} {now syn : ByteArray} {ps : List Pc} {N lf : Int} {lm : Bool}
theorem RefH.mid (h : RefH B w q d F c lf lm) : RMid w w q F (str d.now) (str d.syn) (allParts d.ps) c (d.calls : Int) lf lm where
  full := h.full
  ps := h.ps
  self := h.self
  turn := Turn.refl _ _
  row := fun g hg => .inl (h.row g hg)
  in_ := fun g hg => (h.in_ g hg).2
theorem RMid.below (h : RMid w w' q F now syn ps c N lf lm) (hb : Below w'.heap.size w' w2) : RMid w w2 q F now syn ps c N lf lm where
  full := h.full.on hb
  ps := own_keep h.ps hb
  self := h.self
  turn := h.turn.trans_ (Turn.of hb)
  row := h.row
  in_ := h.in_
/-- other values in the cells -/
theorem RMid.nums (h : RMid w w' q F now syn ps c N lf lm) {now' syn' : ByteArray} {N' lf' : Int} {lm' : Bool} (ht : Turn (fun g => g = q) w' w2) (hf : Full w2 q 46 [.string now', .string syn', c, .int .i64 N', .int .i64 lf', .bool lm']) : RMid w w2 q F now' syn' ps c N' lf' lm' where
  full := hf
  ps := owns_turn h.ps ht (row_q h.full h.ps (by decide))
  self := h.self
  turn := h.turn.late ht fun g e => .inl (by rw [e]; exact h.self)
  row := h.row
  in_ := h.in_
theorem RMid.added_full (h : RMid w w' q F now syn ps c N lf lm) {ob : Obj} (hg : (w'.alloc ob).grownBy w2 c.ownBlock) : Full w2 q 46 [.string now, .string syn, c, .int .i64 N, .int .i64 lf, .bool lm] :=
  (h.full.alloc ob).grown hg fun e => row_q h.full h.ps (by decide) q e.symm rfl
theorem RMid.added (h : RMid w w' q F now syn ps c N lf lm) {ob : Obj} (hg : (w'.alloc ob).grownBy w2 c.ownBlock) {v : Value} {l : List Pc} (hv : w2.ownsRow 0 101 2 v l.length (pcC l))
    (hat : v.ownBlock = c.ownBlock ∨ ∃ g, v.ownBlock = some g ∧ w'.heap.size ≤ g) : RMid w (w2.setCell ⟨q, 2, none⟩ v) q F now syn l v N lf lm := by
  have hf := h.added_full hg
  have ht : Turn (fun g => c.ownBlock = some g) w' w2 := (Turn.of ((Below.refl _ w').alloc (Nat.le_refl _) ob)).late (Turn.grown (F := fun g => c.ownBlock = some g) hg (fun g e => .inl e)) (fun g e => .inl e)
  have tp : Turn (fun g => g = q) w2 (w2.setCell ⟨q, 2, none⟩ v) := Turn.set_ (F := fun g => g = q) (a := ⟨q, 2, none⟩) rfl v
  have hsz := h.turn.size
  exact {
    full := hf.set_ 2 v
    ps := owns_turn hv tp (row_q hf hv (by decide))
    self := h.self
    turn := (h.turn.late ht fun g e => h.row g e).late tp fun g e => .inl (by rw [e]; exact h.self)
    row := by
      intro g hg
      rcases hat with e | ⟨g', e, hl⟩
      · exact h.row g (e ▸ hg)
      · rw [e] at hg; injection hg with hg; subst hg; right; omega
    in_ := h.in_ }
theorem RMid.end_ (h : RMid w w' q F (str d'.now) (str d'.syn) (allParts d'.ps) c (d'.calls : Int) lf lm) (hl : limOk d'.pw lm lf) (hbn : -1 - (d'.calls : Int) ≤ lf ∧ lf ≤ 1000000) (hg : d'.Good) (hB : ∀ g, F g → B ≤ g) (hBw : B ≤ w.heap.size) : ∃ F', IsR B w' q d' F' ∧ Goes F w w' F' := by
  refine ⟨fun g => F g ∨ (w.heap.size ≤ g ∧ g < w'.heap.size), ⟨c, lf, lm, ?_⟩, h.turn, fun g hg => hg.imp id And.left⟩
  exact {
    full := h.full
    lok := hl
    bnd := hbn
    ps := h.ps
    self := .inl h.self
    row := fun g hg => (h.row g hg).imp id fun hl => ⟨hl, owns_lt h.ps g hg⟩
    good := hg
    in_ := by
      rintro g (hg | hg)
      · exact ⟨hB g hg, Nat.lt_of_lt_of_le (h.in_ g hg) h.turn.size⟩
      · exact ⟨by omega, hg.2⟩ }
end
def RWriteOut (B : Nat) (w : World) (q : Nat) (d : Dk) (F : Nat → Prop) (off : Int) (s : List UInt8) (e : Ending) (w' : World) : Prop :=
  e = .returned (.int .i64 (d.wErr off s)) ∧ ∃ F', IsR B w' q (d.write off s) F' ∧ Goes F w w' F'
theorem allParts_wrote (d : Dk) (o : Nat) (s : List UInt8) : allParts (d.wrote o s).ps = allParts d.ps ++ partsOf (o, s) := allParts_snoc _ _
set_option maxHeartbeats 8000000 in
theorem rwrite_any {B : Nat} {w : World} {q : Nat} {d : Dk} {F : Nat → Prop} (hd : IsR B w q d F) (hc : d.calls ≤ 100000) (off : Int) (sl : List UInt8) (ho : off ≤ 9223372036854775807) (hs : sl.length ≤ 1099511627776) :
    Calls Try.prog 32 #[.pointer (some ⟨q, 0, none⟩), .int .i64 off, .string (str sl)] w (RWriteOut B w q d F off sl) := by
  unfold RWriteOut
  have HD := Lib.hid hd
  obtain ⟨c, lf, lm, h⟩ := hd
  have e0 : d.wErr off sl = if Dk.canW off sl.length = false then 1 else if offO d.pw then 30 else 0 := by unfold Dk.wErr Dk.isOff; rfl
  have zs := str_size sl
  have hexs := ext_cut (str sl)
  rw [str_data] at hexs
  obtain ⟨S, hS⟩ : ∃ S, str sl = S := ⟨_, rfl⟩
  have HS := Lib.hid hS
  rw [hS] at zs hexs ⊢
  rw [← zs] at hs e0
  have HZ := Lib.hid zs
  have HEX := Lib.hid hexs
  have z0 : (0 : Int) ≤ (S.size : Int) := Int.natCast_nonneg _
  clear hS zs hexs
  by_cases h1 : off < 0
  · have e1 : d.wErr off sl = 1 := by rw [e0, if_pos]; simp [Dk.canW]; omega
    have e2 : d.write off sl = d := by unfold Dk.write; rw [if_neg]; rw [e1]; decide
    rw [e1, e2]
    clear h e0 e1 e2
    go_enter Try.func32, Try.ntmps32
    go_wp2
    go_ret
    exact ⟨rfl, F, HD.out, Goes.refl _ _⟩
  · have h1' : 0 ≤ off := by omega
    by_cases h2 : (16777216 : Int) < off
    · have e1 : d.wErr off sl = 1 := by rw [e0, if_pos]; simp [Dk.canW]; omega
      have e2 : d.write off sl = d := by unfold Dk.write; rw [if_neg]; rw [e1]; decide
      rw [e1, e2]
      clear h e0 e1 e2
      go_enter Try.func32, Try.ntmps32
      go_wp2
      go_ret
      exact ⟨rfl, F, HD.out, Goes.refl _ _⟩
    · by_cases h3 : (16777216 : Int) < off + (S.size : Int)
      · have e1 : d.wErr off sl = 1 := by rw [e0, if_pos]; simp [Dk.canW]; omega
        have e2 : d.write off sl = d := by unfold Dk.write; rw [if_neg]; rw [e1]; decide
        rw [e1, e2]
        clear h e0 e1 e2
        go_enter Try.func32, Try.ntmps32
        go_wp2
        go_ret
        exact ⟨rfl, F, HD.out, Goes.refl _ _⟩
      · have hcw : Dk.canW off S.size = true := by simp [Dk.canW]; omega
        rw [if_neg (by rw [hcw]; decide)] at e0
        cases hof : offO d.pw with
        | true =>
          have e1 : d.wErr off sl = 30 := by rw [e0, if_pos hof]
          have e2 : d.write off sl = d := by unfold Dk.write; rw [if_neg]; rw [e1]; decide
          have RO := Lib.hid (roff_off h.full h.lok hof)
          rw [e1, e2]
          clear h e0 e1 e2 hcw hof
          go_enter Try.func32, Try.ntmps32
          go_wp2_with (go_at_call 51; ((with_reducible refine RO.out.mono ?_); rintro e w1 ⟨rfl, rfl⟩))
          go_ret
          exact ⟨rfl, F, HD.out, Goes.refl _ _⟩
        | false =>
          have e1 : d.wErr off sl = 0 := by rw [e0, if_neg (by simp [hof])]
          have e2 : d.write off sl = d.wrote off.toNat sl := by unfold Dk.write; rw [if_pos e1]
          rw [e1, e2]
          obtain ⟨o, rfl⟩ : ∃ o : Nat, off = (o : Int) := ⟨off.toNat, by omega⟩
          rw [Int.toNat_natCast]
          have hbn := h.bnd
          have RO := Lib.hid (roff_on h.full h.lok hof ⟨Int.natCast_nonneg _, by omega⟩ ⟨by omega, hbn.2⟩)
          unfold OnOut at RO
          have hso : o + S.size ≤ 16777216 := by omega
          have RP := Lib.hid (fun W => (show Calls Try.prog 52 #[.string (str d.now), .int .i64 (o : Int), .string S] W (StrB W (str (put d.now o sl))) from HS.out ▸ rput_any d.now sl o W h.good.now (by rw [HZ.out] at hso; unfold lim; omega)))
          unfold StrB at RP
          have HH := Lib.hid h
          have HM0 := Lib.hid h.mid
          have HOF := Lib.hid hof
          obtain ⟨N, hN⟩ : ∃ N : Int, (d.calls : Int) = N := ⟨_, rfl⟩
          have HNN := Lib.hid hN
          obtain ⟨sn, hsn⟩ : ∃ sn, str d.now = sn := ⟨_, rfl⟩
          obtain ⟨ss, hss⟩ : ∃ ss, str d.syn = ss := ⟨_, rfl⟩
          obtain ⟨s2, hs2⟩ : ∃ s2, str (put d.now o sl) = s2 := ⟨_, rfl⟩
          have HS2 := Lib.hid (show s2 = str (d.wrote o sl).now by rw [Dk.wrote_now, hs2])
          have HSS := Lib.hid (show ss = str (d.wrote o sl).syn from hss.symm)
          rw [hN, hsn, hss] at RO HM0
          rw [hsn, hs2] at RP
          have hps : (allParts d.ps).length ≤ 100000 * lim := Nat.le_trans (allParts_few lim _ h.good.ps) (Nat.mul_le_mul_right _ (by have := h.good.few; omega))
          unfold lim at hps
          clear h e0 e1 e2 hcw h1 h2 h3 hof hN hsn hss hs2 hbn
          go_enter Try.func32, Try.ntmps32
          go_upto_region 7 with (first
            | (go_at_call 51; ((with_reducible refine RO.out.mono ?_); rintro e w1 ⟨rfl, F1, T1⟩; (have HM1 := Lib.hid (HM0.out.nums T1 F1)); (have x0 : w1.cell? ⟨q, 0, none⟩ = some (.string sn) := F1.cell 0)))
            | (go_at_call 52; ((with_reducible refine (RP.out _).mono ?_); rintro e w2 ⟨rfl, hb2⟩; (have HM2 := Lib.hid (HM1.out.below hb2)); (have y0 : w2.cell? ⟨q, 0, none⟩ = some (.string sn) := HM2.out.full.cell 0); (have y1 : w2.frozen? ⟨q, 0, none⟩ = false := HM2.out.full.frozen 0)))
            | (fail "arm"))
          have HM3 := Lib.hid (HM2.out.nums (Turn.set_ (F := fun g => g = q) (a := ⟨q, 0, none⟩) rfl (.string s2)) (HM2.out.full.set_ 0 (.string s2)))
          obtain ⟨w3, hw3⟩ : ∃ w3, w2.setCell ⟨q, 0, none⟩ (.string s2) = w3 := ⟨_, rfl⟩
          rw [hw3] at HM3 ⊢
          obtain ⟨i76, hi, hz0', hz1, hz2⟩ := info_parts info76
          clear hw3 HM1 HM2 x0 y0 y1 F1 T1 hb2
          go_wp2
          go_loopw [8] (fun v8 wr => ∃ (k : Nat) (P : List Pc) (c : Value), v8 = .int .i64 (k : Int) ∧ k ≤ S.size ∧ Hid (RMid w wr q F s2 ss (allParts d.ps ++ P) c (N + 1) (lf - 1) lm) ∧ Hid (partsOf (o, sl) = P ++ partsOf (o + k, sl.drop k)) ∧ P.length ≤ k) (fun v8 _ => S.size - (intOf v8).toNat)
          case atStart => exact ⟨0, [], c, rfl, by omega, by rw [List.append_nil]; exact HM3, Lib.hid (by simp), by simp⟩
          case round =>
            obtain ⟨k, P, ck, rfl, hk, HM, HP, hPk⟩ := hrel
            have k0 : (0 : Int) ≤ (k : Int) := Int.natCast_nonneg _
            by_cases hkn : k < S.size
            · have k1 : (k : Int) < (S.size : Int) := by omega
              obtain ⟨z, hzz⟩ : ∃ z, 64 - (o + k) % 64 = z := ⟨_, rfl⟩
              obtain ⟨n, hn⟩ : ∃ n, min z (S.size - k) = n := ⟨_, rfl⟩
              have e1 : (64 : Int) - ((o : Int) + (k : Int)) % 64 = (z : Int) := by omega
              have e2 : min (z : Int) ((S.size : Int) - (k : Int)) = (n : Int) := by omega
              have e3 : (if (S.size : Int) - (k : Int) < (z : Int) then (S.size : Int) - (k : Int) else (z : Int)) = (n : Int) := by split <;> omega
              have hx := HEX.out k (k + n)
              unfold cutL at hx
              rw [Nat.add_sub_cancel_left] at hx
              have htk : (sl.drop k).take n = (sl.drop k).take z := by
                rcases Nat.le_total z (S.size - k) with h | h
                · rw [← hn, Nat.min_eq_left h]
                · have := HZ.out
                  rw [← hn, Nat.min_eq_right h, List.take_of_length_le (by rw [List.length_drop]; omega), List.take_of_length_le (by rw [List.length_drop]; omega)]
              have hdk : (sl.drop k).drop z = sl.drop (k + n) := by
                rw [List.drop_drop]
                rcases Nat.le_total z (S.size - k) with h | h
                · rw [← hn, Nat.min_eq_left h]
                · have := HZ.out
                  rw [List.drop_eq_nil_of_le (by omega), List.drop_eq_nil_of_le (by omega)]
              have hcons := partsOf_cons (o + k) (sl.drop k) (by rw [List.length_drop]; have := HZ.out; omega)
              rw [hzz, List.length_drop, ← HZ.out, hn, hdk, ← htk] at hcons
              have HP2 := Lib.hid (show partsOf (o, sl) = (P ++ [(o + k, (sl.drop k).take n)]) ++ partsOf (o + (k + n), sl.drop (k + n)) from by
                rw [HP.out, hcons, List.append_assoc, Nat.add_assoc]
                rfl)
              have hV : pcV (o + k, (sl.drop k).take n) = [.int .i64 ((o : Int) + (k : Int)), .string (S.extract k (k + n))] := by rw [hx]; rfl
              obtain ⟨X, hX⟩ : ∃ X, S.extract k (k + n) = X := ⟨_, rfl⟩
              rw [hX] at hV
              have HV := Lib.hid (show pcC (allParts d.ps ++ (P ++ [(o + k, (sl.drop k).take n)])) = pcC (allParts d.ps ++ P) ++ [.int .i64 ((o : Int) + (k : Int)), .string X] from by
                rw [← List.append_assoc, pcC_snoc, hV])
              obtain ⟨A, cc, rfl⟩ := own_form HM.out.ps
              obtain ⟨m, hm⟩ : ∃ m, (allParts d.ps ++ P).length = m := ⟨_, rfl⟩
              have hmb : m ≤ 1677740000000 := by rw [← hm, List.length_append]; omega
              have HMM := Lib.hid hm
              rw [hm] at HM
              have HPS := Lib.hid HM.out.ps
              rw [hm] at HPS
              have g2 : wr.cell? ⟨q, 2, none⟩ = some (.slice A m cc) := HM.out.full.cell 2
              have g3 : (wr.alloc (.cells #[.int .i64 ((o : Int) + (k : Int)), .string X] 101)).cell? ⟨q, 2, none⟩ = some (.slice A m cc) := (HM.out.full.alloc _).cell 2
              have n0 : (0 : Int) ≤ (n : Int) := Int.natCast_nonneg _
              have nk : (k : Int) + (n : Int) ≤ (S.size : Int) := by omega
              have np : 0 < n := by omega
              have kn0 : (0 : Int) ≤ (k : Int) + (n : Int) := by omega
              have kn1 : (k : Int) ≤ (k : Int) + (n : Int) := by omega
              have ok : (o : Int) + (k : Int) ≤ 16777216 := by omega
              have ok0 : (0 : Int) ≤ (o : Int) + (k : Int) := by omega
              have ew1 : IntKind.i64.wrap ((o : Int) + (k : Int)) = (o : Int) + (k : Int) := by simp [IntKind.wrap, IntKind.bits, IntKind.signed]; omega
              have ew2 : IntKind.i64.wrap ((k : Int) + (n : Int)) = (k : Int) + (n : Int) := by simp [IntKind.wrap, IntKind.bits, IntKind.signed]; omega
              have et : ((k : Int) + (n : Int)).toNat = k + n := by omega
              clear hx htk hdk hcons hV hzz hn hm
              go_upto_region 10 with fail
              go_region_law
                (first
                  | (refine step_append_lies _ (by rfl) _ _ _ (by rfl) 0 101 i76 _ 2 24 Try.underlying44 hi hz0' hz1 hz2 rfl (by omega) (.slice A m cc) m _ (by rfl) (HPS.out.alloc (.cells #[.int .i64 ((o : Int) + (k : Int)), .string X] 101)) ⟨wr.heap.size, 0, none⟩ 1 1 [.int .i64 ((o : Int) + (k : Int)), .string X] (by rfl) (by rfl) (World.news_of_block (cs := #[.int .i64 ((o : Int) + (k : Int)), .string X]) (t := 101) (fr := (0, 0)) (heap_alloc_new wr _)) (by simp [Value.oneCell']) (by omega) (by unfold maxLen; omega) (by omega) (by omega) (wr.heap.size + 1) (by simp) ?_; intro gg cap w5 hown5 hgrow5 hat5 hlt5; (have hgrow5' : (wr.alloc (.cells #[.int .i64 ((o : Int) + (k : Int)), .string X] 101)).grownBy w5 (Value.slice A m cc).ownBlock := ⟨hgrow5.os, hgrow5.tape, hgrow5.output, hgrow5.size, hgrow5.block⟩); (have FY := HM.out.added_full hgrow5'); (have y2 : w5.cell? ⟨q, 2, none⟩ = some (.slice A m cc) := FY.cell 2); (have z2 : w5.frozen? ⟨q, 2, none⟩ = false := FY.frozen 2))
                  | (fail "arm"))
              all_goals
                have HM5 := Lib.hid (HM.out.added hgrow5' (v := .slice (some ⟨gg, 0, none⟩) (m + 1) cap) (l := allParts d.ps ++ (P ++ [(o + k, (sl.drop k).take n)])) (by
                  rw [HV.out, show (allParts d.ps ++ (P ++ [(o + k, (sl.drop k).take n)])).length = m + 1 by rw [← List.append_assoc, List.length_append, HMM.out]; rfl]
                  exact hown5) (hat5.imp (fun e => e.symm) fun e => ⟨gg, rfl, by omega⟩))
                clear hown5 hgrow5 hgrow5' hat5 hlt5 FY y2 z2
                go_wp2
                go_roundw
                case rel => exact ⟨k + n, P ++ [(o + k, (sl.drop k).take n)], _, by go_num, by omega, HM5, HP2, by simp; omega⟩
                case measure => simp [intOf]; omega
            · obtain rfl : k = S.size := by omega
              have hPe : partsOf (o, sl) = P := by
                have := HP.out
                rw [List.drop_eq_nil_of_le (by rw [HZ.out]; exact Nat.le_refl _), partsOf_nil, List.append_nil] at this
                exact this
              have HE := Lib.hid (show ∃ F', IsR B wr q (d.wrote o sl) F' ∧ Goes F w wr F' from by
                refine RMid.end_ (d' := d.wrote o sl) (c := ck) (lf := lf - 1) (lm := lm) ?_ (limOk_less HH.out.lok HOF.out) ?_ (Dk.wrote_good HH.out.good (by rw [HZ.out] at hso; exact hso)) (fun g hg => (HH.out.in_ g hg).1) (Nat.le_trans (HH.out.in_ q HH.out.self).1 (Nat.le_of_lt (HH.out.in_ q HH.out.self).2))
                · rw [← HS2.out, ← HSS.out, allParts_wrote, hPe]
                  have := HM.out
                  rw [← HNN.out] at this
                  exact this
                · have := HH.out.bnd
                  have e : (((d.wrote o sl).calls : Nat) : Int) = (d.calls : Int) + 1 := by simp [Dk.wrote]
                  rw [e]
                  omega)
              clear HM HP hPe
              go_wp2
              go_ret
              exact ⟨rfl, HE.out⟩
end Go.Proofs.Ythhpnlobhffimaa
