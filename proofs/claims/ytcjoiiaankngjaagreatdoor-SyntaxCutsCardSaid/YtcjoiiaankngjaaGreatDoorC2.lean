/- The Syntax seat, part 2: contracts of the program and of the reference. -/
import Derived.Test.YtcjoiiaankngjaaGreatDoorC1
import Derived.Deep.AppendLies
import Derived.Deep.DeepCutAuto
import Derived.Outline
import Derived.Deep.RegionLaw
namespace Go.Proofs.YtcjoiiaankngjaaGreatDoor
set_option maxRecDepth 100000
open Go.RowKit
def kw : Nat → List UInt8
 | 1 => [108, 105, 98]
 | 2 => [98, 105, 110]
 | 3 => [116, 101, 115, 116]
 | 4 => [103, 101, 110]
 | _ => []
def pKinds : Nat → Pst × Tgt → Pst × Tgt
 | 0, r => (pRefuse r.1, r.2)
 | f + 1, r => if (pTake (kw (4 - f)) r.1).1 then (pExpect [59] (pTake (kw (4 - f)) r.1).2, { r.2 with kind := ((4 - f : Nat) : Int) }) else pKinds f r
def pKind (t : Tok) (r : Pst × Tgt) : Pst × Tgt := pKinds 4 (pHad t r)
theorem take_no {x : List UInt8} {σ : Pst} (h : (pTake x σ).1 = false) : (pTake x σ).2 = σ := by
 cases σ with
 | bad e l => rfl
 | ok ts =>
   cases ts with
   | nil => rfl
   | cons t r =>
     rw [show pTake x (.ok (t :: r)) = if t.txt = x then (true, .ok r) else (false, .ok (t :: r)) from rfl] at h ⊢
     by_cases e : t.txt = x
     · rw [if_pos e] at h; cases h
     · rw [if_neg e]
theorem Laid.kw {w : World} (h : Laid w) (k : Nat) (h1 : 1 ≤ k) (h4 : k ≤ 4) : w.cell? ⟨0, k, none⟩ = some (.string (str (kw k))) := by
 obtain rfl | rfl | rfl | rfl : k = 1 ∨ k = 2 ∨ k = 3 ∨ k = 4 := by omega
 · exact h.k1
 · exact h.k2
 · exact h.k3
 · exact h.k4
theorem kw_first (k : Nat) (h1 : 1 ≤ k) (h4 : k ≤ 4) : 2 ≤ (first (kw k)).1 := by
 obtain rfl | rfl | rfl | rfl : k = 1 ∨ k = 2 ∨ k = 3 ∨ k = 4 := by omega
 all_goals decide
set_option maxHeartbeats 4000000 in
theorem kind_any {w : World} {b a m h base k : Nat} {σ : Pst} {T : Tgt} (S : TS w b a m h base (k + 1) σ T) (hL : Laid w) (hb9 : 9 ≤ b) (hh9 : 9 ≤ h) (t : Tok) (ht : t.txt.length ≤ 4294967000) :
   Calls Tryz.prog 66 #[.pointer (some ⟨b, 0, none⟩), tokV t] w (TOut w b a m h base k (pKind t (σ, T))) := by
 unfold TOut pKind
 obtain ⟨x, hx⟩ : ∃ x, str t.txt = x := ⟨_, rfl⟩
 obtain ⟨l, hl⟩ : ∃ l : Nat, t.ln = l := ⟨_, rfl⟩
 obtain ⟨c, hc⟩ : ∃ l : Nat, t.cls = l := ⟨_, rfl⟩
 obtain ⟨w1, hw1⟩ : ∃ w1, w.alloc (.cells #[.int .i64 (c : Int), .string x, .int .i64 (l : Int)] 91) = w1 := ⟨_, rfl⟩
 have hb1 : Below w.heap.size w w1 := by rw [← hw1]; exact (Below.refl _ w).alloc (Nat.le_refl _) _
 have F1 : Full w1 w.heap.size 91 [.int .i64 (c : Int), .string x, .int .i64 (l : Int)] := by rw [← hw1]; exact Full.new w 91 _
 obtain ⟨u, hu⟩ : ∃ u, w.heap.size = u := ⟨_, rfl⟩
 rw [hu] at F1
 have S1 := S.on hb1
 have HA := had_any S1.drew t ht
 unfold tokV at HA
 rw [hx, hl, hc] at HA
 unfold TOut at HA
 obtain ⟨r, hr⟩ : ∃ r, pHad t (σ, T) = r := ⟨_, rfl⟩
 obtain ⟨σ1, T1⟩ := r
 rw [hr] at HA
 rw [hr]
 dsimp only at HA
 obtain ⟨r9, h9⟩ : ∃ r, pKinds 4 (σ1, T1) = r := ⟨_, rfl⟩
 obtain ⟨σ9, T9⟩ := r9
 rw [h9]
 dsimp only
 unfold tokV
 rw [hx, hl, hc]
 have HA := Lib.hid HA
 obtain ⟨vs, hP1, _⟩ := S1.ps
 have k8 : w1.drew.cell? ⟨b, 18, none⟩ = some (.map (some h)) := (ts_cell hP1 11).1
 have u0 : w1.drew.cell? ⟨u, 0, none⟩ = some (.int .i64 (c : Int)) := F1.cell 0
 have u1 : w1.drew.cell? ⟨u, 1, none⟩ = some (.string x) := F1.cell 1
 have u2 : w1.drew.cell? ⟨u, 2, none⟩ = some (.int .i64 (l : Int)) := F1.cell 2
 have hbb := S.bb
 have HLd := Lib.hid (fun (W : World) (hT : Turn (FT b h base) w W) => hL.turn hT (FT.lo hb9 hh9 hbb))
 have HT1 := Lib.hid (show Turn (FT b h base) w w1.drew from (Turn.of hb1).drew)
 have H9 := Lib.hid h9
 clear hx hl hc hr hP1 F1 hb1 S1 S ht hL h9
 go_enter Tryz.func66, Tryz.ntmps66
 go_upto_region 1 with fail
 go_region_with (first
   | (go_at_call 102; ((with_reducible refine HA.out.mono ?_); rintro en w2 ⟨rfl, hS2, hT2⟩))
   | (fail "arm"))
 all_goals
   have HT2 := Lib.hid (HT1.out.trans_ hT2)
   have HS2 := Lib.hid hS2
   clear hS2 hT2
   go_upto_region 3 with fail
   go_loopw [4] (fun v4 wr => ∃ (q f : Nat), v4 = .int .i64 (q : Int) ∧ q + f = 5 ∧ 1 ≤ q ∧ Hid (pKinds f (σ1, T1) = (σ9, T9)) ∧ Hid (TS wr b a m h base k σ1 T1) ∧ Hid (Turn (FT b h base) w wr)) (fun v4 _ => match v4 with | .int _ k => 5 - k.toNat | _ => 0)
   case atStart => exact ⟨1, 4, rfl, rfl, Nat.le_refl _, H9, HS2, HT2⟩
   case round =>
     obtain ⟨q, f, rfl, hqf, hq1, HK, HS, HT⟩ := hrel
     cases f with
     | zero =>
       obtain rfl : q = 5 := by omega
       have e9 := HK.out
       rw [pKinds] at e9
       injection e9 with e1 e2
       dsimp only at e1 e2
       subst e2
       have RF := Lib.hid (TS.call (σ' := σ9) (by rw [← e1]; exact pRefuse_le _) HS.out (v := .tuple #[]) (fun R hP => (by
         have z := refuse_any hP
         unfold StOut at z
         rw [e1] at z
         exact z)) : Calls Tryz.prog 104 #[.pointer (some ⟨b, 0, none⟩)] wr fun en w' => en = .returned (.tuple #[]) ∧ TS w' b a m h base k σ9 T1 ∧ Turn (fun g => g = b) wr w')
       clear e1
       go_wp2_with (first
         | (go_at_call 104; ((with_reducible refine RF.out.mono ?_); rintro en w5 ⟨rfl, hS5, hT5⟩))
         | (fail "arm"))
       go_end0
       exact ⟨rfl, hS5, HT.out.trans_ hT5.ftb⟩
     | succ f =>
       have hq4 : q ≤ 4 := by omega
       have hqe : 4 - f = q := by omega
       have e9 := HK.out
       rw [pKinds, hqe] at e9
       dsimp only at e9
       have hc := (HLd.out wr HT.out).kw q hq1 hq4
       have TK := (fun R (hP : PS wr b σ1 R) => take_any hP (kw q) (kw_first q hq1 hq4))
       unfold TakeOut at TK
       obtain ⟨X, hX⟩ : ∃ X, str (kw q) = X := ⟨_, rfl⟩
       rw [hX] at hc TK
       cases ht : (pTake (kw q) σ1).1 with
       | false =>
         rw [ht, if_neg (by decide)] at e9
         rw [ht, take_no ht] at TK
         have HK' := Lib.hid e9
         have CT := Lib.hid (TS.call (σ' := σ1) (Nat.le_refl _) HS.out (v := .bool false) (fun R hP => TK R hP) : Calls Tryz.prog 74 #[.pointer (some ⟨b, 0, none⟩), .string X] wr fun en w' => en = .returned (.bool false) ∧ TS w' b a m h base k σ1 T1 ∧ Turn (fun g => g = b) wr w')
         clear e9 TK ht hX hqe HK
         go_wp2_with (first
           | (go_at_call 74; ((with_reducible refine CT.out.mono ?_); rintro en w5 ⟨rfl, hS5, hT5⟩))
           | (fail "arm"))
         have HS5 := Lib.hid hS5
         have HT5 := Lib.hid (HT.out.trans_ hT5.ftb)
         clear hS5 hT5
         go_roundw
         case rel => exact ⟨q + 1, f, by simp, by omega, by omega, HK', HS5, HT5⟩
         case measure => show 5 - ((q : Int) + 1).toNat < 5 - (q : Int).toNat; omega
       | true =>
         rw [ht, if_pos rfl] at e9
         rw [ht] at TK
         obtain ⟨σ4, h4⟩ : ∃ s, (pTake (kw q) σ1).2 = s := ⟨_, rfl⟩
         have hle := pTake_le (kw q) σ1
         rw [h4] at e9 TK hle
         injection e9 with e1 e2
         subst e2
         have CT := Lib.hid (TS.call (σ' := σ4) hle HS.out (v := .bool true) (fun R hP => TK R hP) : Calls Tryz.prog 74 #[.pointer (some ⟨b, 0, none⟩), .string X] wr fun en w' => en = .returned (.bool true) ∧ TS w' b a m h base k σ4 T1 ∧ Turn (fun g => g = b) wr w')
         have EX := Lib.hid (fun (W : World) (S : TS W b a m h base k σ4 { T1 with kind := (q : Int) }) => (TS.call (σ' := σ9) (by rw [← e1]; exact pExpect_le _ _) S (v := .tuple #[]) (fun R hP => (by
           have z := expect_any hP [59] (by decide)
           unfold StOut at z
           rw [e1] at z
           exact z)) : Calls Tryz.prog 103 #[.pointer (some ⟨b, 0, none⟩), .string ⟨#[59]⟩] W fun en w' => en = .returned (.tuple #[]) ∧ TS w' b a m h base k σ9 { T1 with kind := (q : Int) } ∧ Turn (fun g => g = b) W w'))
         clear e1 TK ht hX hqe HK h4 hle
         go_wp2_with (first
           | (go_at_call 74; ((with_reducible refine CT.out.mono ?_); rintro en w3 ⟨rfl, hS3, hT3⟩; (obtain ⟨vs3, hP3, _⟩ := hS3.ps); (have z1 : w3.cell? ⟨b, 10, none⟩ = some (.int .i64 T1.kind) := (ts_cell hP3 3).1); (have z2 : w3.frozen? ⟨b, 10, none⟩ = false := (ts_cell hP3 3).2); (have HS4 := Lib.hid (show TS (w3.setCell ⟨b, 10, none⟩ (.int .i64 (q : Int))) b a m h base k σ4 { T1 with kind := (q : Int) } from hS3.put (Turn.set_ (F := fun g => g = b) (a := ⟨b, 10, none⟩) rfl _) (fun vs z => ps_set z 3 _) rfl rfl)); (have HT4 := Lib.hid ((HT.out.trans_ hT3.ftb).trans_ (Turn.set_ (F := FT b h base) (a := ⟨b, 10, none⟩) (.inl rfl) (.int .i64 (q : Int))))); clear hP3 hS3 hT3))
           | (go_at_call 103; ((with_reducible refine (EX.out _ HS4.out).mono ?_); rintro en w5 ⟨rfl, hS5, hT5⟩))
           | (fail "arm"))
         refine bodyPost_ret (results_none (by rfl) _ _ _) rfl ?_
         exact ⟨rfl, hS5, HT4.out.trans_ hT5.ftb⟩
theorem pMore_sum (el : Pst → Itm × Pst) (hel : ∀ σ, plen (el σ).2 ≤ plen σ) : ∀ (f : Nat) (σ : Pst), (pMore el (pTake [44]) f σ).1.length + plen (pMore el (pTake [44]) f σ).2 ≤ plen σ
 | 0, σ => by simp [pMore]
 | f + 1, σ => by
   rw [pMore]
   split
   · rename_i h
     have h1 := pTake_less [44] σ h
     have h2 := hel (pTake [44] σ).2
     have h3 := pMore_sum el hel f (el (pTake [44] σ).2).2
     simp only [List.length_cons]
     omega
   · have := pTake_le [44] σ
     simp only [List.length_nil]
     omega
theorem pList_sum (el : Pst → Itm × Pst) (hel : ∀ σ, plen (el σ).2 ≤ plen σ) (σ : Pst) :
   0 < (pList el (pTake [44]) (pExpect [59]) plen σ).1.length ∧ (pList el (pTake [44]) (pExpect [59]) plen σ).1.length + plen (pList el (pTake [44]) (pExpect [59]) plen σ).2 ≤ 1 + plen σ := by
 unfold pList
 have h1 := pMore_sum el hel (plen (el σ).2 + 1) (el σ).2
 have h2 := hel σ
 have h3 := pExpect_le [59] (pMore el (pTake [44]) (plen (el σ).2 + 1) (el σ).2).2
 simp only [List.length_cons]
 omega
theorem pPlat_le (σ : Pst) : plen (pPlat σ).2 ≤ plen σ := by
 cases σ with
 | bad e l => exact Nat.le_refl _
 | ok ts =>
   cases ts with
   | nil => exact Nat.le_refl _
   | cons t r =>
     show plen (if pAheadP (.ok (t :: r)) then (t.txt, Pst.ok r) else ([], .ok (t :: r))).2 ≤ _
     by_cases e : pAheadP (.ok (t :: r)) = true
     · rw [if_pos e]; simp [plen]
     · rw [if_neg e]; simp [plen]
theorem pLimited_sum (ls : Pst → List Itm × Pst) (h : ∀ σ, 0 < (ls σ).1.length ∧ (ls σ).1.length + plen (ls σ).2 ≤ 1 + plen σ) (σ : Pst) : 0 < (pLimited ls σ).1.length ∧ (pLimited ls σ).1.length + plen (pLimited ls σ).2 ≤ 1 + plen σ := by
 unfold pLimited
 have h1 := h (pPlat σ).2
 have h2 := pPlat_le σ
 simp only [List.length_map]
 omega
theorem tR_set (a m h : Nat) (T : Tgt) (vs : Nat → Value) (ls : Nat → List Itm) (i : Nat) (hi : i < 4) (v : Value) : (tR a m h T vs).set (5 + i) v = tR a m h { T with rows := ls } (upd vs i v) := by
 obtain rfl | rfl | rfl | rfl : i = 0 ∨ i = 1 ∨ i = 2 ∨ i = 3 := by omega
 all_goals rfl
def pGrow (i : Nat) (ls : Pst → List Itm × Pst) (r : Pst × Tgt) : Pst × Tgt := ((ls r.1).2, { r.2 with rows := upd r.2.rows i (r.2.rows i ++ (ls r.1).1) })
theorem row_end {w2 w3 : World} {b a m h base k n : Nat} {σ2 : Pst} {T : Tgt} {vs : Nat → Value} {l : List Itm} (hP : PS w2 b σ2 (tR a m h T vs)) (hR : Rows4 w2 base T.rows vs) (hN : Names w2 h n T.had) (hn : n + k + plen σ2 ≤ XL)
   (hlen : ∀ i, i < 4 → (T.rows i).length + k + plen σ2 ≤ XL) (i : Nat) (hi : i < 4) (hl : (T.rows i).length + l.length + k + plen σ2 ≤ XL) (hbb : b < base) (hhb : h < base) (hne : h ≠ b) (hsz : base ≤ w2.heap.size)
   {v' : Value} (ho : w3.ownsRow base 52 4 v' ((T.rows i).length + l.length) (itmsC (T.rows i) ++ itmsC l)) (hg : w2.grownBy w3 (vs i).ownBlock) (hat : ∀ g, v'.ownBlock = some g → (vs i).ownBlock = some g ∨ w2.heap.size ≤ g) (q : Nat) (hq : q = 7 + (5 + i)) :
   (w3.cell? ⟨b, q, none⟩ = some (vs i) ∧ w3.frozen? ⟨b, q, none⟩ = false) ∧ TS (w3.setCell ⟨b, q, none⟩ v') b a m h base k σ2 { T with rows := upd T.rows i (T.rows i ++ l) } ∧ Turn (FT b h base) w2 (w3.setCell ⟨b, q, none⟩ v') := by
 subst hq
 have hrow : ∀ g, (vs i).ownBlock = some g → base ≤ g := row_ge (hR.own i hi)
 have hT3 : Turn (fun g => base ≤ g) w2 w3 := Turn.grown hg fun g e => .inl (hrow g e)
 have hP3 := hP.farT hT3 (by omega)
 have hN3 := hN.far hT3 (by omega)
 have hTs : Turn (fun g => g = b) w3 (w3.setCell ⟨b, 7 + (5 + i), none⟩ v') := Turn.set_ (F := fun g => g = b) (a := ⟨b, 7 + (5 + i), none⟩) rfl v'
 have hs3 := hg.size
 have happ : itmsC (T.rows i) ++ itmsC l = itmsC (T.rows i ++ l) := by unfold itmsC; rw [List.flatMap_append]
 have hR3 : Rows4 w3 base (upd T.rows i (T.rows i ++ l)) (upd vs i v') := hR.grow i hi (by rw [← happ, List.length_append]; exact ho) hg hat
 have hz := ts_cell hP3 (5 + i)
 refine ⟨⟨?_, hz.2⟩, ⟨⟨upd vs i v', ?_, hR3.turn hTs (fun g e => by rw [e]; exact hbb)⟩, ⟨n, hN3.far hTs (fun e => hne e), hn⟩, fun j hj => ?_, hbb, hhb, hne, Nat.le_trans hsz (Nat.le_trans hs3 hTs.size)⟩, (hT3.mono fun g e => .inr (.inr e)).trans_ hTs.ftb⟩
 · rw [hz.1]
   obtain rfl | rfl | rfl | rfl : i = 0 ∨ i = 1 ∨ i = 2 ∨ i = 3 := by omega
   all_goals rfl
 · rw [← tR_set a m h T vs (upd T.rows i (T.rows i ++ l)) i hi v']
   exact ps_set hP3 (5 + i) v'
 · show (upd T.rows i (T.rows i ++ l) j).length + k + plen σ2 ≤ XL
   unfold upd
   by_cases e : j = i
   · rw [if_pos e, List.length_append]; exact hl
   · rw [if_neg e]; exact hlen j hj
theorem own_news {w : World} {base n c g : Nat} {xs : List Value} (h : w.ownsRow base 52 4 (.slice (some ⟨g, 0, none⟩) n c) n xs) : ∀ j u, xs[j]? = some u → w.cell? ((⟨g, 0, none⟩ : Addr).add j) = some u := fun j u hj => by
 obtain ⟨ad, e, _, hc⟩ := (Row.own h).2.2.2 j u hj
 injection e with e
 subst e
 exact hc
theorem itms_one (l : List Itm) : ∀ u ∈ itmsC l, u.oneCell' = true := fun u hu => by
 obtain ⟨it, _, hu⟩ := List.mem_flatMap.1 hu
 exact itmC_one it u hu
theorem lies_at {A : Option Addr} {n c m d g3 H : Nat} (h : (Value.slice A n c).ownBlock = some g3 ∨ g3 = H) : ∀ g, (Value.slice (some ⟨g3, 0, none⟩) m d).ownBlock = some g → (Value.slice A n c).ownBlock = some g ∨ H ≤ g := fun g e => by
 injection e with e
 subst e
 exact h.imp id (fun e => by rw [e]; exact Nat.le_refl _)
theorem step_call_fn {P : Program} {ops : Array Oper} {o : Oper} {a : Act} {w : World} {K : Act → World → Prop} {Q : Exit → Act → World → Prop} {E : Prop}
   (hg : o.guard = none) (f : FuncId) (xs : Array Operand) (ats : Array TypeId) (hop : o.op = Op.call { callee := Callee.value (Operand.func f), args := xs, argTypes := ats })
   (vs : Array Value) (hx : xs.toList.map a.eval = vs.toList) (he : ∀ args w, (callFunc f args).run P w = .ok (.enter f args) w) {R : Ending → World → Prop} (C : Calls P f vs w R) (hR : ∀ e w', R e w' → ∃ v, e = .returned v ∧ K (a.put o.dst v) w') :
   if Region.wanted o (yielded ops a.tmps) = true then Oper.wp P o a w K Q else E := by
 have hw : Region.wanted o (yielded ops a.tmps) = true := by simp [Region.wanted, hg]
 rw [if_pos hw]
 obtain ⟨dst, op, ty, pos, after, guard⟩ := o
 dsimp only at hop
 subst hop
 have e1 : execOp a.eval { dst, op := .call { callee := .value (.func f), args := xs, argTypes := ats }, type := ty, pos, after, guard } = callFunc f (#[] ++ xs.map a.eval ++ #[]) := rfl
 unfold Oper.wp
 have hx' : xs.map a.eval = vs := Array.toList_inj.1 (by rw [Array.toList_map]; exact hx)
 rw [e1, hx', show #[] ++ vs ++ #[] = vs by simp, he]
 refine C.mono fun e w' h => ?_
 obtain ⟨v, rfl, hk⟩ := hR e w' h
 exact hk
theorem step_append_run {P : Program} {ops : Array Oper} {o : Oper} {a : Act} {w : World} {K : Act → World → Prop} {Q : Exit → Act → World → Prop} {E : Prop}
   (hg : o.guard = none) (d x : Operand) (dT sT : TypeId) (hop : o.op = Op.call { callee := Callee.builtin Builtin.append, args := #[d, x], argTypes := #[dT, sT] })
   (v u : Value) (hd : a.eval d = v) (hx : a.eval x = u) {v' : Value} {w' : World} (hr : (Builtin.append_ #[dT, sT] o.type #[v, u]).run P w = .ok v' w') (hK : K (a.put o.dst v') w') :
   if Region.wanted o (yielded ops a.tmps) = true then Oper.wp P o a w K Q else E := by
 have hw : Region.wanted o (yielded ops a.tmps) = true := by simp [Region.wanted, hg]
 rw [if_pos hw]
 unfold Oper.wp
 simp [execOp, hop, resolve, invoke, builtin, hd, hx, hr, Result.andThen]
 exact hK
set_option maxHeartbeats 4000000 in
theorem srcs_any {w : World} {b a m h base k : Nat} {σ : Pst} {T : Tgt} (S : TS w b a m h base (k + 1) σ T) (t : Tok) :
   Calls Tryz.prog 67 #[.pointer (some ⟨b, 0, none⟩), tokV t] w (TOut w b a m h base k (pGrow 0 (pLimited pSources) (σ, T))) := by
 unfold TOut pGrow
 obtain ⟨i0, hi, hz0, hz1, hz2⟩ := info_parts info52
 obtain ⟨x, hx⟩ : ∃ x, str t.txt = x := ⟨_, rfl⟩
 obtain ⟨l0, hl0⟩ : ∃ l : Nat, t.ln = l := ⟨_, rfl⟩
 obtain ⟨c0, hc0⟩ : ∃ l : Nat, t.cls = l := ⟨_, rfl⟩
 obtain ⟨w1, hw1⟩ : ∃ w1, w.alloc (.cells #[.int .i64 (c0 : Int), .string x, .int .i64 (l0 : Int)] 91) = w1 := ⟨_, rfl⟩
 have hb1 : Below w.heap.size w w1 := by rw [← hw1]; exact (Below.refl _ w).alloc (Nat.le_refl _) _
 have S1 := (S.on hb1).drew
 obtain ⟨⟨vs, hP1, hR1⟩, ⟨n, hN, hn⟩, hlen, hbb, hhb, hne, hsz⟩ := S1
 have hsum : 0 < ((pLimited pSources) σ).1.length ∧ ((pLimited pSources) σ).1.length + plen ((pLimited pSources) σ).2 ≤ 1 + plen σ := pLimited_sum pSources (pList_sum pSource pSource_le) σ
 obtain ⟨l, hl⟩ : ∃ l, ((pLimited pSources) σ).1 = l := ⟨_, rfl⟩
 obtain ⟨σ2, h2⟩ : ∃ s, ((pLimited pSources) σ).2 = s := ⟨_, rfl⟩
 have LC := limited_any hP1 (.func (.func 106) #[.pointer (some ⟨b, 0, none⟩)] #[]) pSources (by have := (pList_sum pSource pSource_le (pPlat σ).2).2; have := pPlat_le σ; have := hP1.plen_le; show (pList pSource (pTake [44]) (pExpect [59]) plen (pPlat σ).2).1.length ≤ _; omega) (fun W s h => sources_any h)
 unfold ListOut at LC
 rw [hl, h2] at LC hsum
 dsimp only
 rw [hl, h2]
 unfold tokV
 rw [hx, hl0, hc0]
 obtain ⟨v, hv⟩ : ∃ v, vs 0 = v := ⟨_, rfl⟩
 obtain ⟨ml, hml⟩ : ∃ ml, l.length = ml := ⟨_, rfl⟩
 obtain ⟨nl, hnl⟩ : ∃ nl, (T.rows 0).length = nl := ⟨_, rfl⟩
 have hown := hR1.own 0 (by decide)
 rw [hv, hnl] at hown
 obtain ⟨A, c, rfl⟩ := own_form hown
 have k1 : w1.drew.cell? ⟨b, 12, none⟩ = some (.slice A nl c) := by
   have := (ts_cell hP1 (5 + 0)).1
   rw [← hv]
   exact this
 have hln := hlen 0 (by decide)
 rw [hnl] at hln
 have hXL : nl + ml ≤ 8589934593 := by unfold XL at hln; omega
 have hm0 : 0 < ml := by omega
 have hle2 : plen σ2 ≤ plen σ := by omega
 have hnn : n + k + plen σ2 ≤ XL := by omega
 have hll : nl + ml + k + plen σ2 ≤ XL := by omega
 rw [hml] at LC
 have HT1 := Lib.hid (show Turn (FT b h base) w w1.drew from (Turn.of hb1).drew)
 have HLC := Lib.hid LC
 have HR1 := Lib.hid hR1
 have HN := Lib.hid hN
 have HLEN := Lib.hid hlen
 have HEQ := Lib.hid (And.intro hml (And.intro hnl hv))
 have HK2 := Lib.hid (fun (W : World) (hP : PS W b σ2 (tR a m h T vs)) => (show W.cell? ⟨b, 12, none⟩ = some (.slice A nl c) by
   have := (ts_cell hP (5 + 0)).1
   rw [← hv]
   exact this))
 have HOWN := Lib.hid (fun (W : World) (hT : Turn (fun g => g = b) w1.drew W) => own_turn hown hT (fun g e => by rw [e]; exact hbb))
 clear hx hl0 hc0 hl h2 hsum hP1 hR1 hN hlen hown hb1 S LC hn hv hml hnl
 go_enter Tryz.func67, Tryz.ntmps67
 go_upto_region 1 with fail
 go_region_law (first
   | (refine step_call_fn rfl 105 _ _ rfl #[.pointer (some ⟨b, 0, none⟩), .func (.func 106) #[.pointer (some ⟨b, 0, none⟩)] #[]] (by rfl) (enters_of Tryz.func105 (by kernel_rfl) rfl) HLC.out ?_; rintro en w2 ⟨A2, c2, rfl, hO2, hP2, hT2⟩; refine ⟨_, rfl, ?_⟩; (have k2 := HK2.out w2 hP2); (unfold OwnI at hO2); (rw [HEQ.out.1] at hO2); (obtain ⟨g2, c2', hv2, hg2, _, _⟩ := own_some hO2 hm0); (injection hv2 with e1 _ e3); subst e1; (have hnews := own_news hO2); (have HNW := Lib.hid hnews); (have HO2 := Lib.hid hO2); (have HP2 := Lib.hid hP2); (have HT2 := Lib.hid hT2); (have hs2 := hT2.size); clear hnews hO2 hP2 hT2 e3; (obtain ⟨g3, c3, w3, hap, hown3, hgrow3, hat3, hlt3⟩ := run_append_lies w2 25 25 base 52 i0 (.agg #[.string ⟨#[]⟩, .bool false, .string ⟨#[]⟩, .int .i64 0]) 4 48 Tryz.underlying25 hi hz0 hz1 hz2 rfl (by decide) (.slice A nl c) nl (itmsC (T.rows 0)) (HOWN.out w2 HT2.out) ⟨g2, 0, none⟩ ml c2 (itmsC l) HO2.out.1 HNW.out (itms_one l) hm0 (by unfold maxLen; omega) (by omega) (Nat.le_trans hsz hs2) w2.heap.size rfl); (obtain ⟨⟨z1, z2⟩, HTS, hTF⟩ := row_end (w2 := w2) (w3 := w3) (k := k) (l := l) HP2.out (HR1.out.turn HT2.out (fun g e => by rw [e]; exact hbb)) (HN.out.far HT2.out (fun e => hne e)) hnn (fun i hi => by have := HLEN.out i hi; omega) 0 (by decide) (by rw [HEQ.out.1, HEQ.out.2.1]; exact hll) hbb hhb hne (Nat.le_trans hsz hs2) (v' := .slice (some ⟨g3, 0, none⟩) (nl + ml) c3) (by rw [HEQ.out.1, HEQ.out.2.1]; exact hown3) (by rw [HEQ.out.2.2]; exact hgrow3) (by rw [HEQ.out.2.2]; exact lies_at hat3) 12 rfl); (rw [HEQ.out.2.2] at z1); (have HTS := Lib.hid HTS); (have HTF := Lib.hid ((HT1.out.trans_ HT2.out.ftb).trans_ hTF)); clear hTF hown3 hgrow3 hat3 hlt3)
   | (refine step_append_run rfl _ _ 25 25 rfl (.slice A nl c) (.slice (some ⟨g2, 0, none⟩) ml c2) (by simp [Act.eval]) (by simp [Act.eval]) hap ?_))
 all_goals (go_wp2; go_end0; exact ⟨rfl, HTS.out, HTF.out⟩)
set_option maxHeartbeats 4000000 in
theorem deps_any {w : World} {b a m h base k : Nat} {σ : Pst} {T : Tgt} (S : TS w b a m h base (k + 1) σ T) (t : Tok) :
   Calls Tryz.prog 68 #[.pointer (some ⟨b, 0, none⟩), tokV t] w (TOut w b a m h base k (pGrow 1 (pLimited pTexts) (σ, T))) := by
 unfold TOut pGrow
 obtain ⟨i0, hi, hz0, hz1, hz2⟩ := info_parts info52
 obtain ⟨x, hx⟩ : ∃ x, str t.txt = x := ⟨_, rfl⟩
 obtain ⟨l0, hl0⟩ : ∃ l : Nat, t.ln = l := ⟨_, rfl⟩
 obtain ⟨c0, hc0⟩ : ∃ l : Nat, t.cls = l := ⟨_, rfl⟩
 obtain ⟨w1, hw1⟩ : ∃ w1, w.alloc (.cells #[.int .i64 (c0 : Int), .string x, .int .i64 (l0 : Int)] 91) = w1 := ⟨_, rfl⟩
 have hb1 : Below w.heap.size w w1 := by rw [← hw1]; exact (Below.refl _ w).alloc (Nat.le_refl _) _
 have S1 := (S.on hb1).drew
 obtain ⟨⟨vs, hP1, hR1⟩, ⟨n, hN, hn⟩, hlen, hbb, hhb, hne, hsz⟩ := S1
 have hsum : 0 < ((pLimited pTexts) σ).1.length ∧ ((pLimited pTexts) σ).1.length + plen ((pLimited pTexts) σ).2 ≤ 1 + plen σ := pLimited_sum pTexts (pList_sum pText pText_le) σ
 obtain ⟨l, hl⟩ : ∃ l, ((pLimited pTexts) σ).1 = l := ⟨_, rfl⟩
 obtain ⟨σ2, h2⟩ : ∃ s, ((pLimited pTexts) σ).2 = s := ⟨_, rfl⟩
 have LC := limited_any hP1 (.func (.func 107) #[.pointer (some ⟨b, 0, none⟩)] #[]) pTexts (by have := (pList_sum pText pText_le (pPlat σ).2).2; have := pPlat_le σ; have := hP1.plen_le; show (pList pText (pTake [44]) (pExpect [59]) plen (pPlat σ).2).1.length ≤ _; omega) (fun W s h => texts_any h)
 unfold ListOut at LC
 rw [hl, h2] at LC hsum
 dsimp only
 rw [hl, h2]
 unfold tokV
 rw [hx, hl0, hc0]
 obtain ⟨v, hv⟩ : ∃ v, vs 1 = v := ⟨_, rfl⟩
 obtain ⟨ml, hml⟩ : ∃ ml, l.length = ml := ⟨_, rfl⟩
 obtain ⟨nl, hnl⟩ : ∃ nl, (T.rows 1).length = nl := ⟨_, rfl⟩
 have hown := hR1.own 1 (by decide)
 rw [hv, hnl] at hown
 obtain ⟨A, c, rfl⟩ := own_form hown
 have k1 : w1.drew.cell? ⟨b, 13, none⟩ = some (.slice A nl c) := by
   have := (ts_cell hP1 (5 + 1)).1
   rw [← hv]
   exact this
 have hln := hlen 1 (by decide)
 rw [hnl] at hln
 have hXL : nl + ml ≤ 8589934593 := by unfold XL at hln; omega
 have hm0 : 0 < ml := by omega
 have hle2 : plen σ2 ≤ plen σ := by omega
 have hnn : n + k + plen σ2 ≤ XL := by omega
 have hll : nl + ml + k + plen σ2 ≤ XL := by omega
 rw [hml] at LC
 have HT1 := Lib.hid (show Turn (FT b h base) w w1.drew from (Turn.of hb1).drew)
 have HLC := Lib.hid LC
 have HR1 := Lib.hid hR1
 have HN := Lib.hid hN
 have HLEN := Lib.hid hlen
 have HEQ := Lib.hid (And.intro hml (And.intro hnl hv))
 have HK2 := Lib.hid (fun (W : World) (hP : PS W b σ2 (tR a m h T vs)) => (show W.cell? ⟨b, 13, none⟩ = some (.slice A nl c) by
   have := (ts_cell hP (5 + 1)).1
   rw [← hv]
   exact this))
 have HOWN := Lib.hid (fun (W : World) (hT : Turn (fun g => g = b) w1.drew W) => own_turn hown hT (fun g e => by rw [e]; exact hbb))
 clear hx hl0 hc0 hl h2 hsum hP1 hR1 hN hlen hown hb1 S LC hn hv hml hnl
 go_enter Tryz.func68, Tryz.ntmps68
 go_upto_region 1 with fail
 go_region_law (first
   | (refine step_call_fn rfl 105 _ _ rfl #[.pointer (some ⟨b, 0, none⟩), .func (.func 107) #[.pointer (some ⟨b, 0, none⟩)] #[]] (by rfl) (enters_of Tryz.func105 (by kernel_rfl) rfl) HLC.out ?_; rintro en w2 ⟨A2, c2, rfl, hO2, hP2, hT2⟩; refine ⟨_, rfl, ?_⟩; (have k2 := HK2.out w2 hP2); (unfold OwnI at hO2); (rw [HEQ.out.1] at hO2); (obtain ⟨g2, c2', hv2, hg2, _, _⟩ := own_some hO2 hm0); (injection hv2 with e1 _ e3); subst e1; (have hnews := own_news hO2); (have HNW := Lib.hid hnews); (have HO2 := Lib.hid hO2); (have HP2 := Lib.hid hP2); (have HT2 := Lib.hid hT2); (have hs2 := hT2.size); clear hnews hO2 hP2 hT2 e3; (obtain ⟨g3, c3, w3, hap, hown3, hgrow3, hat3, hlt3⟩ := run_append_lies w2 25 25 base 52 i0 (.agg #[.string ⟨#[]⟩, .bool false, .string ⟨#[]⟩, .int .i64 0]) 4 48 Tryz.underlying25 hi hz0 hz1 hz2 rfl (by decide) (.slice A nl c) nl (itmsC (T.rows 1)) (HOWN.out w2 HT2.out) ⟨g2, 0, none⟩ ml c2 (itmsC l) HO2.out.1 HNW.out (itms_one l) hm0 (by unfold maxLen; omega) (by omega) (Nat.le_trans hsz hs2) w2.heap.size rfl); (obtain ⟨⟨z1, z2⟩, HTS, hTF⟩ := row_end (w2 := w2) (w3 := w3) (k := k) (l := l) HP2.out (HR1.out.turn HT2.out (fun g e => by rw [e]; exact hbb)) (HN.out.far HT2.out (fun e => hne e)) hnn (fun i hi => by have := HLEN.out i hi; omega) 1 (by decide) (by rw [HEQ.out.1, HEQ.out.2.1]; exact hll) hbb hhb hne (Nat.le_trans hsz hs2) (v' := .slice (some ⟨g3, 0, none⟩) (nl + ml) c3) (by rw [HEQ.out.1, HEQ.out.2.1]; exact hown3) (by rw [HEQ.out.2.2]; exact hgrow3) (by rw [HEQ.out.2.2]; exact lies_at hat3) 13 rfl); (rw [HEQ.out.2.2] at z1); (have HTS := Lib.hid HTS); (have HTF := Lib.hid ((HT1.out.trans_ HT2.out.ftb).trans_ hTF)); clear hTF hown3 hgrow3 hat3 hlt3)
   | (refine step_append_run rfl _ _ 25 25 rfl (.slice A nl c) (.slice (some ⟨g2, 0, none⟩) ml c2) (by simp [Act.eval]) (by simp [Act.eval]) hap ?_))
 all_goals (go_wp2; go_end0; exact ⟨rfl, HTS.out, HTF.out⟩)
set_option maxHeartbeats 4000000 in
theorem outs_any {w : World} {b a m h base k : Nat} {σ : Pst} {T : Tgt} (S : TS w b a m h base (k + 1) σ T) (t : Tok) :
   Calls Tryz.prog 69 #[.pointer (some ⟨b, 0, none⟩), tokV t] w (TOut w b a m h base k (pGrow 2 pTexts (σ, T))) := by
 unfold TOut pGrow
 obtain ⟨i0, hi, hz0, hz1, hz2⟩ := info_parts info52
 obtain ⟨x, hx⟩ : ∃ x, str t.txt = x := ⟨_, rfl⟩
 obtain ⟨l0, hl0⟩ : ∃ l : Nat, t.ln = l := ⟨_, rfl⟩
 obtain ⟨c0, hc0⟩ : ∃ l : Nat, t.cls = l := ⟨_, rfl⟩
 obtain ⟨w1, hw1⟩ : ∃ w1, w.alloc (.cells #[.int .i64 (c0 : Int), .string x, .int .i64 (l0 : Int)] 91) = w1 := ⟨_, rfl⟩
 have hb1 : Below w.heap.size w w1 := by rw [← hw1]; exact (Below.refl _ w).alloc (Nat.le_refl _) _
 have S1 := (S.on hb1).drew
 obtain ⟨⟨vs, hP1, hR1⟩, ⟨n, hN, hn⟩, hlen, hbb, hhb, hne, hsz⟩ := S1
 have hsum : 0 < (pTexts σ).1.length ∧ (pTexts σ).1.length + plen (pTexts σ).2 ≤ 1 + plen σ := pList_sum pText pText_le σ
 obtain ⟨l, hl⟩ : ∃ l, (pTexts σ).1 = l := ⟨_, rfl⟩
 obtain ⟨σ2, h2⟩ : ∃ s, (pTexts σ).2 = s := ⟨_, rfl⟩
 have LC := texts_any hP1
 unfold ListOut at LC
 rw [hl, h2] at LC hsum
 dsimp only
 rw [hl, h2]
 unfold tokV
 rw [hx, hl0, hc0]
 obtain ⟨v, hv⟩ : ∃ v, vs 2 = v := ⟨_, rfl⟩
 obtain ⟨ml, hml⟩ : ∃ ml, l.length = ml := ⟨_, rfl⟩
 obtain ⟨nl, hnl⟩ : ∃ nl, (T.rows 2).length = nl := ⟨_, rfl⟩
 have hown := hR1.own 2 (by decide)
 rw [hv, hnl] at hown
 obtain ⟨A, c, rfl⟩ := own_form hown
 have k1 : w1.drew.cell? ⟨b, 14, none⟩ = some (.slice A nl c) := by
   have := (ts_cell hP1 (5 + 2)).1
   rw [← hv]
   exact this
 have hln := hlen 2 (by decide)
 rw [hnl] at hln
 have hXL : nl + ml ≤ 8589934593 := by unfold XL at hln; omega
 have hm0 : 0 < ml := by omega
 have hle2 : plen σ2 ≤ plen σ := by omega
 have hnn : n + k + plen σ2 ≤ XL := by omega
 have hll : nl + ml + k + plen σ2 ≤ XL := by omega
 rw [hml] at LC
 have HT1 := Lib.hid (show Turn (FT b h base) w w1.drew from (Turn.of hb1).drew)
 have HLC := Lib.hid LC
 have HR1 := Lib.hid hR1
 have HN := Lib.hid hN
 have HLEN := Lib.hid hlen
 have HEQ := Lib.hid (And.intro hml (And.intro hnl hv))
 have HK2 := Lib.hid (fun (W : World) (hP : PS W b σ2 (tR a m h T vs)) => (show W.cell? ⟨b, 14, none⟩ = some (.slice A nl c) by
   have := (ts_cell hP (5 + 2)).1
   rw [← hv]
   exact this))
 have HOWN := Lib.hid (fun (W : World) (hT : Turn (fun g => g = b) w1.drew W) => own_turn hown hT (fun g e => by rw [e]; exact hbb))
 clear hx hl0 hc0 hl h2 hsum hP1 hR1 hN hlen hown hb1 S LC hn hv hml hnl
 go_enter Tryz.func69, Tryz.ntmps69
 go_upto_region 1 with fail
 go_region_law (first
   | (refine step_call_fn rfl 108 _ _ rfl #[.pointer (some ⟨b, 0, none⟩), .func (.func 107) #[.pointer (some ⟨b, 0, none⟩)] #[]] (by rfl) (enters_of Tryz.func108 (by kernel_rfl) rfl) HLC.out ?_; rintro en w2 ⟨A2, c2, rfl, hO2, hP2, hT2⟩; refine ⟨_, rfl, ?_⟩; (have k2 := HK2.out w2 hP2); (unfold OwnI at hO2); (rw [HEQ.out.1] at hO2); (obtain ⟨g2, c2', hv2, hg2, _, _⟩ := own_some hO2 hm0); (injection hv2 with e1 _ e3); subst e1; (have hnews := own_news hO2); (have HNW := Lib.hid hnews); (have HO2 := Lib.hid hO2); (have HP2 := Lib.hid hP2); (have HT2 := Lib.hid hT2); (have hs2 := hT2.size); clear hnews hO2 hP2 hT2 e3; (obtain ⟨g3, c3, w3, hap, hown3, hgrow3, hat3, hlt3⟩ := run_append_lies w2 25 25 base 52 i0 (.agg #[.string ⟨#[]⟩, .bool false, .string ⟨#[]⟩, .int .i64 0]) 4 48 Tryz.underlying25 hi hz0 hz1 hz2 rfl (by decide) (.slice A nl c) nl (itmsC (T.rows 2)) (HOWN.out w2 HT2.out) ⟨g2, 0, none⟩ ml c2 (itmsC l) HO2.out.1 HNW.out (itms_one l) hm0 (by unfold maxLen; omega) (by omega) (Nat.le_trans hsz hs2) w2.heap.size rfl); (obtain ⟨⟨z1, z2⟩, HTS, hTF⟩ := row_end (w2 := w2) (w3 := w3) (k := k) (l := l) HP2.out (HR1.out.turn HT2.out (fun g e => by rw [e]; exact hbb)) (HN.out.far HT2.out (fun e => hne e)) hnn (fun i hi => by have := HLEN.out i hi; omega) 2 (by decide) (by rw [HEQ.out.1, HEQ.out.2.1]; exact hll) hbb hhb hne (Nat.le_trans hsz hs2) (v' := .slice (some ⟨g3, 0, none⟩) (nl + ml) c3) (by rw [HEQ.out.1, HEQ.out.2.1]; exact hown3) (by rw [HEQ.out.2.2]; exact hgrow3) (by rw [HEQ.out.2.2]; exact lies_at hat3) 14 rfl); (rw [HEQ.out.2.2] at z1); (have HTS := Lib.hid HTS); (have HTF := Lib.hid ((HT1.out.trans_ HT2.out.ftb).trans_ hTF)); clear hTF hown3 hgrow3 hat3 hlt3)
   | (refine step_append_run rfl _ _ 25 25 rfl (.slice A nl c) (.slice (some ⟨g2, 0, none⟩) ml c2) (by simp [Act.eval]) (by simp [Act.eval]) hap ?_))
 all_goals (go_wp2; go_end0; exact ⟨rfl, HTS.out, HTF.out⟩)
set_option maxHeartbeats 4000000 in
theorem visible_any {w : World} {b a m h base k : Nat} {σ : Pst} {T : Tgt} (S : TS w b a m h base (k + 1) σ T) (t : Tok) :
   Calls Tryz.prog 70 #[.pointer (some ⟨b, 0, none⟩), tokV t] w (TOut w b a m h base k (pGrow 3 pTexts (σ, T))) := by
 unfold TOut pGrow
 obtain ⟨i0, hi, hz0, hz1, hz2⟩ := info_parts info52
 obtain ⟨x, hx⟩ : ∃ x, str t.txt = x := ⟨_, rfl⟩
 obtain ⟨l0, hl0⟩ : ∃ l : Nat, t.ln = l := ⟨_, rfl⟩
 obtain ⟨c0, hc0⟩ : ∃ l : Nat, t.cls = l := ⟨_, rfl⟩
 obtain ⟨w1, hw1⟩ : ∃ w1, w.alloc (.cells #[.int .i64 (c0 : Int), .string x, .int .i64 (l0 : Int)] 91) = w1 := ⟨_, rfl⟩
 have hb1 : Below w.heap.size w w1 := by rw [← hw1]; exact (Below.refl _ w).alloc (Nat.le_refl _) _
 have S1 := (S.on hb1).drew
 obtain ⟨⟨vs, hP1, hR1⟩, ⟨n, hN, hn⟩, hlen, hbb, hhb, hne, hsz⟩ := S1
 have hsum : 0 < (pTexts σ).1.length ∧ (pTexts σ).1.length + plen (pTexts σ).2 ≤ 1 + plen σ := pList_sum pText pText_le σ
 obtain ⟨l, hl⟩ : ∃ l, (pTexts σ).1 = l := ⟨_, rfl⟩
 obtain ⟨σ2, h2⟩ : ∃ s, (pTexts σ).2 = s := ⟨_, rfl⟩
 have LC := texts_any hP1
 unfold ListOut at LC
 rw [hl, h2] at LC hsum
 dsimp only
 rw [hl, h2]
 unfold tokV
 rw [hx, hl0, hc0]
 obtain ⟨v, hv⟩ : ∃ v, vs 3 = v := ⟨_, rfl⟩
 obtain ⟨ml, hml⟩ : ∃ ml, l.length = ml := ⟨_, rfl⟩
 obtain ⟨nl, hnl⟩ : ∃ nl, (T.rows 3).length = nl := ⟨_, rfl⟩
 have hown := hR1.own 3 (by decide)
 rw [hv, hnl] at hown
 obtain ⟨A, c, rfl⟩ := own_form hown
 have k1 : w1.drew.cell? ⟨b, 15, none⟩ = some (.slice A nl c) := by
   have := (ts_cell hP1 (5 + 3)).1
   rw [← hv]
   exact this
 have hln := hlen 3 (by decide)
 rw [hnl] at hln
 have hXL : nl + ml ≤ 8589934593 := by unfold XL at hln; omega
 have hm0 : 0 < ml := by omega
 have hle2 : plen σ2 ≤ plen σ := by omega
 have hnn : n + k + plen σ2 ≤ XL := by omega
 have hll : nl + ml + k + plen σ2 ≤ XL := by omega
 rw [hml] at LC
 have HT1 := Lib.hid (show Turn (FT b h base) w w1.drew from (Turn.of hb1).drew)
 have HLC := Lib.hid LC
 have HR1 := Lib.hid hR1
 have HN := Lib.hid hN
 have HLEN := Lib.hid hlen
 have HEQ := Lib.hid (And.intro hml (And.intro hnl hv))
 have HK2 := Lib.hid (fun (W : World) (hP : PS W b σ2 (tR a m h T vs)) => (show W.cell? ⟨b, 15, none⟩ = some (.slice A nl c) by
   have := (ts_cell hP (5 + 3)).1
   rw [← hv]
   exact this))
 have HOWN := Lib.hid (fun (W : World) (hT : Turn (fun g => g = b) w1.drew W) => own_turn hown hT (fun g e => by rw [e]; exact hbb))
 clear hx hl0 hc0 hl h2 hsum hP1 hR1 hN hlen hown hb1 S LC hn hv hml hnl
 go_enter Tryz.func70, Tryz.ntmps70
 go_upto_region 1 with fail
 go_region_law (first
   | (refine step_call_fn rfl 108 _ _ rfl #[.pointer (some ⟨b, 0, none⟩), .func (.func 107) #[.pointer (some ⟨b, 0, none⟩)] #[]] (by rfl) (enters_of Tryz.func108 (by kernel_rfl) rfl) HLC.out ?_; rintro en w2 ⟨A2, c2, rfl, hO2, hP2, hT2⟩; refine ⟨_, rfl, ?_⟩; (have k2 := HK2.out w2 hP2); (unfold OwnI at hO2); (rw [HEQ.out.1] at hO2); (obtain ⟨g2, c2', hv2, hg2, _, _⟩ := own_some hO2 hm0); (injection hv2 with e1 _ e3); subst e1; (have hnews := own_news hO2); (have HNW := Lib.hid hnews); (have HO2 := Lib.hid hO2); (have HP2 := Lib.hid hP2); (have HT2 := Lib.hid hT2); (have hs2 := hT2.size); clear hnews hO2 hP2 hT2 e3; (obtain ⟨g3, c3, w3, hap, hown3, hgrow3, hat3, hlt3⟩ := run_append_lies w2 25 25 base 52 i0 (.agg #[.string ⟨#[]⟩, .bool false, .string ⟨#[]⟩, .int .i64 0]) 4 48 Tryz.underlying25 hi hz0 hz1 hz2 rfl (by decide) (.slice A nl c) nl (itmsC (T.rows 3)) (HOWN.out w2 HT2.out) ⟨g2, 0, none⟩ ml c2 (itmsC l) HO2.out.1 HNW.out (itms_one l) hm0 (by unfold maxLen; omega) (by omega) (Nat.le_trans hsz hs2) w2.heap.size rfl); (obtain ⟨⟨z1, z2⟩, HTS, hTF⟩ := row_end (w2 := w2) (w3 := w3) (k := k) (l := l) HP2.out (HR1.out.turn HT2.out (fun g e => by rw [e]; exact hbb)) (HN.out.far HT2.out (fun e => hne e)) hnn (fun i hi => by have := HLEN.out i hi; omega) 3 (by decide) (by rw [HEQ.out.1, HEQ.out.2.1]; exact hll) hbb hhb hne (Nat.le_trans hsz hs2) (v' := .slice (some ⟨g3, 0, none⟩) (nl + ml) c3) (by rw [HEQ.out.1, HEQ.out.2.1]; exact hown3) (by rw [HEQ.out.2.2]; exact hgrow3) (by rw [HEQ.out.2.2]; exact lies_at hat3) 15 rfl); (rw [HEQ.out.2.2] at z1); (have HTS := Lib.hid HTS); (have HTF := Lib.hid ((HT1.out.trans_ HT2.out.ftb).trans_ hTF)); clear hTF hown3 hgrow3 hat3 hlt3)
   | (refine step_append_run rfl _ _ 25 25 rfl (.slice A nl c) (.slice (some ⟨g2, 0, none⟩) ml c2) (by simp [Act.eval]) (by simp [Act.eval]) hap ?_))
 all_goals (go_wp2; go_end0; exact ⟨rfl, HTS.out, HTF.out⟩)
end Go.Proofs.YtcjoiiaankngjaaGreatDoor
namespace Go.Proofs.YtcjoiiaankngjaaGreatDoor
set_option maxRecDepth 100000
open Go.RowKit Go.Maps Go.ChangeMaps Go.MapKept Go.WideShapes
def wKind : List UInt8 := [107, 105, 110, 100]
def wSrcs : List UInt8 := [115, 114, 99, 115]
def wDeps : List UInt8 := [100, 101, 112, 115]
def wOut : List UInt8 := [111, 117, 116]
def wVis : List UInt8 := [118, 105, 115, 105, 98, 108, 101]
def wCost : List UInt8 := [99, 111, 115, 116]
def wRetry : List UInt8 := [114, 101, 116, 114, 121]
def fnOf (s : List UInt8) : Option Nat :=
 if s = wKind then some 66 else if s = wSrcs then some 67 else if s = wDeps then some 68 else if s = wOut then some 69 else if s = wVis then some 70 else if s = wCost then some 71 else if s = wRetry then some 72 else none
theorem fnOf_some {s : List UInt8} {n : Nat} (h : fnOf s = some n) : (n = 66 ∨ n = 67 ∨ n = 68 ∨ n = 69 ∨ n = 70 ∨ n = 71 ∨ n = 72) ∧ (first s).1 = 2 := by
 unfold fnOf at h
 by_cases h1 : s = wKind
 · rw [if_pos h1] at h; injection h with h; subst h h1; exact ⟨by decide, by decide⟩
 · rw [if_neg h1] at h
   by_cases h2 : s = wSrcs
   · rw [if_pos h2] at h; injection h with h; subst h h2; exact ⟨by decide, by decide⟩
   · rw [if_neg h2] at h
     by_cases h3 : s = wDeps
     · rw [if_pos h3] at h; injection h with h; subst h h3; exact ⟨by decide, by decide⟩
     · rw [if_neg h3] at h
       by_cases h4 : s = wOut
       · rw [if_pos h4] at h; injection h with h; subst h h4; exact ⟨by decide, by decide⟩
       · rw [if_neg h4] at h
         by_cases h5 : s = wVis
         · rw [if_pos h5] at h; injection h with h; subst h h5; exact ⟨by decide, by decide⟩
         · rw [if_neg h5] at h
           by_cases h6 : s = wCost
           · rw [if_pos h6] at h; injection h with h; subst h h6; exact ⟨by decide, by decide⟩
           · rw [if_neg h6] at h
             by_cases h7 : s = wRetry
             · rw [if_pos h7] at h; injection h with h; subst h h7; exact ⟨by decide, by decide⟩
             · rw [if_neg h7] at h; cases h
def fnElem (b : Nat) (v : Value) : Option (DataW Unit × List MemPlace) :=
 match v with
 | .nilFunc => some (.lit (.int .i64 0), [])
 | .func (.func n) f c => if f.toList.map (fun u => (match u with | .pointer (some a) => decide (a = ⟨b, 0, none⟩) | _ => false)) = [true] ∧ c.size = 0 then some (.lit (.int .i64 (n : Int)), []) else none
 | _ => none
def fnV (b n : Nat) : Value := .func (.func n) #[.pointer (some ⟨b, 0, none⟩)] #[]
theorem fnElem_fn (b n : Nat) : fnElem b (fnV b n) = some (.lit (.int .i64 (n : Int)), []) := by
 unfold fnElem fnV
 simp
theorem fnElem_inv {b : Nat} {v : Value} {n : Nat} {ps : List MemPlace} (h : fnElem b v = some (.lit (.int .i64 (n : Int)), ps)) (hn : n ≠ 0) : v = fnV b n := by
 unfold fnElem at h
 cases v with
 | nilFunc =>
   simp at h
   omega
 | func fn f c =>
   cases fn with
   | func m =>
     simp only at h
     by_cases hc : f.toList.map (fun u => (match u with | .pointer (some a) => decide (a = ⟨b, 0, none⟩) | _ => false)) = [true] ∧ c.size = 0
     · rw [if_pos hc] at h
       obtain ⟨h1, h2⟩ := hc
       injection h with h
       injection h with h _
       injection h with h
       injection h with _ h
       have hmn : m = n := by exact_mod_cast h
       subst hmn
       have hc0 : c = #[] := Array.eq_empty_of_size_eq_zero h2
       subst hc0
       unfold fnV
       obtain ⟨l⟩ := f
       cases l with
       | nil => simp at h1
       | cons u q =>
         cases q with
         | cons u2 q => simp at h1
         | nil =>
           simp at h1
           split at h1
           · rename_i a
             have e := of_decide_eq_true h1
             subst e
             rfl
           · cases h1
     · rw [if_neg hc] at h; cases h
   | _ => simp at h
 | _ => simp at h
def Attrs (w : World) (a b : Nat) : Prop := ∃ (D : DataW Unit) (n : Nat), w.ownsMap Tryz.prog 9 (fnElem b) a n D ∧ IsMap D ∧ ∀ s : ByteArray, has D (klS s) = (fnOf s.data.toList).isSome ∧ ∀ n, fnOf s.data.toList = some n → ∀ z, D.atKey (klS s) z = .lit (.int .i64 (n : Int))
theorem zero121 (w : World) : (zeroValue 121).run Tryz.prog w = .ok .nilFunc w := by kernel_rfl
theorem Attrs.look {w : World} {a b : Nat} (h : Attrs w a b) (s : ByteArray) (hs : s.size ≤ maxLen) : ∃ v, (Instr.lookup 92 (.map (some a)) (.string s) true).run Tryz.prog w = .ok (.tuple #[v, .bool (fnOf s.data.toList).isSome]) w ∧ ∀ n, fnOf s.data.toList = some n → v = fnV b n := by
 obtain ⟨D, m, hm, _, hD⟩ := h
 have hk : keyOf Tryz.prog 9 (.string s) = some (klS s) := WideMaps.keyOf_string_mk (P := Tryz.prog) Tryz.underlying9 hs
 obtain ⟨v, ps, hr, hv⟩ := hm.look_ok law9 Tryz.underlying92 (zero121 w) (show fnElem b .nilFunc = some (.lit (.int .i64 0), []) from rfl) hk
 obtain ⟨h1, h2⟩ := hD s
 refine ⟨v, by rw [hr, h1], fun n hn => ?_⟩
 rw [h2 n hn] at hv
 exact fnElem_inv hv (by have := (fnOf_some hn).1; omega)
theorem Attrs.keep {w w' : World} {a b : Nat} (h : Attrs w a b) (hb : w'.heap[a]? = w.heap[a]?) : Attrs w' a b := by
 obtain ⟨D, n, hm, hD⟩ := h
 exact ⟨D, n, ownsMap_keep hm hb, hD⟩
theorem Attrs.lt {w : World} {a b : Nat} (h : Attrs w a b) : a < w.heap.size := by
 obtain ⟨D, n, hm, hD⟩ := h
 exact hm.lt
theorem Attrs.far {F : Nat → Prop} {w w' : World} {a b : Nat} (h : Attrs w a b) (ht : Turn F w w') (hF : ¬ F a) : Attrs w' a b := h.keep (ht.block a h.lt hF)
def pRun (n : Nat) (t : Tok) (r : Pst × Tgt) : Pst × Tgt :=
 if n = 66 then pKind t r else if n = 67 then pGrow 0 (pLimited pSources) r else if n = 68 then pGrow 1 (pLimited pTexts) r else if n = 69 then pGrow 2 pTexts r else if n = 70 then pGrow 3 pTexts r else if n = 71 then pCost t r else pRetry t r
def pAttr : Pst × Tgt → Bool × Pst × Tgt
 | (.ok (t :: r), T) => match fnOf t.txt with
   | some n => (true, pRun n t (.ok r, T))
   | none => (false, .ok (t :: r), T)
 | (σ, T) => (false, σ, T)
def pTx : Pst → List UInt8
 | .ok (t :: _) => t.txt
 | _ => []
theorem ps_tx {w : World} {b : Nat} {σ : Pst} {R : List Value} (h : PS w b σ R) : w.cell? ⟨b, 3, none⟩ = some (.string (str (pTx σ))) ∧ (pTx σ).length ≤ 4294967000 ∧ (∀ t r, σ = .ok (t :: r) → TokOk t) := by
 obtain ⟨s, n, c, tx, tl, e, el, hP, hs, hC⟩ := h
 rw [Full.cell hP 3]
 show some (Value.string tx) = _ ∧ _
 cases σ with
 | bad e' l' =>
   obtain ⟨_, _, _, _, h5, _⟩ := hC
   rw [h5]; exact ⟨rfl, Nat.zero_le _, fun t r e => by cases e⟩
 | ok ts =>
   obtain ⟨t, r, hts, _, htx, _, hok, _⟩ := ok_cons hC
   rw [hts, htx]
   exact ⟨rfl, hok.2, fun t' r' e => by injection e with e; injection e with e1 _; rw [← e1]; exact hok⟩
theorem TS.adv {w : World} {b a m h base k : Nat} {t : Tok} {r : List Tok} {T : Tgt} (S : TS w b a m h base k (.ok (t :: r)) T) (ht : 2 ≤ t.cls) :
   Calls Tryz.prog 112 #[.pointer (some ⟨b, 0, none⟩)] w fun en w' => en = .returned (tokV t) ∧ TS w' b a m h base (k + 1) (.ok r) T ∧ Turn (fun g => g = b) w w' := by
 obtain ⟨⟨vs, hP, hR⟩, ⟨n, hN, hn⟩, hlen, hbb, hhb, hne, hsz⟩ := S
 refine (adv_any hP ht).mono ?_
 rintro en w' ⟨he, hP', hT⟩
 have e : plen (.ok (t :: r)) = plen (.ok r) + 1 := by simp [plen]
 exact ⟨he, ⟨⟨vs, hP', hR.turn hT (fun g e => by rw [e]; exact hbb)⟩, ⟨n, hN.far hT (fun e => hne e), by omega⟩, fun i hi => (by have := hlen i hi; omega), hbb, hhb, hne, Nat.le_trans hsz hT.size⟩, hT⟩
def AttrOut (w : World) (b a m h base : Nat) (r : Bool × Pst × Tgt) (en : Ending) (w' : World) : Prop := en = .returned (.bool r.1) ∧ TS w' b a m h base 0 r.2.1 r.2.2 ∧ Turn (FT b h base) w w'
theorem pAttr_no {σ : Pst} {T : Tgt} (h : fnOf (pTx σ) = none) : pAttr (σ, T) = (false, σ, T) := by
 cases σ with
 | bad e l => rfl
 | ok ts =>
   cases ts with
   | nil => rfl
   | cons t r =>
     have e : fnOf t.txt = none := h
     show (match fnOf t.txt with
       | some n => (true, pRun n t (.ok r, T))
       | none => (false, .ok (t :: r), T)) = _
     rw [e]
theorem pAttr_yes {σ : Pst} {T : Tgt} {n : Nat} (h : fnOf (pTx σ) = some n) : ∃ t r, σ = .ok (t :: r) ∧ fnOf t.txt = some n ∧ pAttr (σ, T) = (true, pRun n t (.ok r, T)) := by
 cases σ with
 | bad e l => exact absurd (show (none : Option Nat) = some n from h) (by simp)
 | ok ts =>
   cases ts with
   | nil => exact absurd (show (none : Option Nat) = some n from h) (by simp)
   | cons t r =>
     refine ⟨t, r, rfl, h, ?_⟩
     have e : fnOf t.txt = some n := h
     show (match fnOf t.txt with
       | some n => (true, pRun n t (.ok r, T))
       | none => (false, .ok (t :: r), T)) = _
     rw [e]
set_option maxHeartbeats 4000000 in
theorem attr_66 {w : World} {b a m h base : Nat} {t : Tok} {r : List Tok} {T : Tgt} (S : TS w b a m h base 0 (.ok (t :: r)) T) (hA : Attrs w a b) (hL : Laid w) (hb9 : 9 ≤ b) (hh9 : 9 ≤ h) (hf : fnOf t.txt = some 66) (ht : 2 ≤ t.cls) (htl : t.txt.length ≤ 4294967000) (r' : Pst × Tgt) (hr' : pRun 66 t (.ok r, T) = r') :
   Calls Tryz.prog 115 #[.pointer (some ⟨b, 0, none⟩)] w (AttrOut w b a m h base (true, r')) := by
 unfold AttrOut
 obtain ⟨vs, hP, hR⟩ := S.ps
 have k3 : w.drew.cell? ⟨b, 3, none⟩ = some (.string (str t.txt)) := (ps_tx hP).1
 have k7 : w.drew.cell? ⟨b, 7, none⟩ = some (.map (some a)) := (ts_cell hP 0).1
 obtain ⟨v, hlk, hv⟩ := Attrs.look (hA.keep rfl : Attrs w.drew a b) (str t.txt) (by rw [str_size]; unfold maxLen; omega)
 rw [str_data, hf] at hlk hv
 have hv := hv 66 rfl
 subst hv
 unfold fnV at hlk
 dsimp only [Option.isSome] at hlk
 obtain ⟨X, hX⟩ : ∃ X, str t.txt = X := ⟨_, rfl⟩
 rw [hX] at k3 hlk
 have AD := Lib.hid (TS.adv S.drew ht)
 have CF := Lib.hid (fun (W : World) (hT : Turn (fun g => g = b) w W) (S : TS W b a m h base 1 (.ok r) T) => ((by rw [← hr']; exact kind_any S (hL.turn hT (fun g e => by omega)) hb9 hh9 t htl) : Calls Tryz.prog 66 #[.pointer (some ⟨b, 0, none⟩), tokV t] W (TOut W b a m h base 0 r')))
 unfold TOut at CF
 obtain ⟨tv, htv⟩ : ∃ tv, tokV t = tv := ⟨_, rfl⟩
 rw [htv] at AD CF
 have HT0 := Lib.hid (show Turn (fun g => g = b) w w.drew from (Turn.refl _ w).drew)
 clear hX htv S hA hL hP hR hr' hf
 go_enter Tryz.func115, Tryz.ntmps115
 go_upto_region 1 with fail
 go_region
 all_goals
   go_wp2_with (first
     | (go_at_call 112; ((with_reducible refine AD.out.mono ?_); rintro en w1 ⟨rfl, hS1, hT1⟩; (have HT1 := Lib.hid (HT0.out.trans_ hT1))))
     | (go_at_call 66; ((with_reducible refine (CF.out w1 HT1.out hS1).mono ?_); rintro en w2 ⟨rfl, hS2, hT2⟩))
     | (fail "arm"))
   go_ret
   exact ⟨rfl, hS2, HT1.out.ftb.trans_ hT2⟩
set_option maxHeartbeats 4000000 in
theorem attr_67 {w : World} {b a m h base : Nat} {t : Tok} {r : List Tok} {T : Tgt} (S : TS w b a m h base 0 (.ok (t :: r)) T) (hA : Attrs w a b) (_hL : Laid w) (_hb9 : 9 ≤ b) (_hh9 : 9 ≤ h) (hf : fnOf t.txt = some 67) (ht : 2 ≤ t.cls) (htl : t.txt.length ≤ 4294967000) (r' : Pst × Tgt) (hr' : pRun 67 t (.ok r, T) = r') :
   Calls Tryz.prog 115 #[.pointer (some ⟨b, 0, none⟩)] w (AttrOut w b a m h base (true, r')) := by
 unfold AttrOut
 obtain ⟨vs, hP, hR⟩ := S.ps
 have k3 : w.drew.cell? ⟨b, 3, none⟩ = some (.string (str t.txt)) := (ps_tx hP).1
 have k7 : w.drew.cell? ⟨b, 7, none⟩ = some (.map (some a)) := (ts_cell hP 0).1
 obtain ⟨v, hlk, hv⟩ := Attrs.look (hA.keep rfl : Attrs w.drew a b) (str t.txt) (by rw [str_size]; unfold maxLen; omega)
 rw [str_data, hf] at hlk hv
 have hv := hv 67 rfl
 subst hv
 unfold fnV at hlk
 dsimp only [Option.isSome] at hlk
 obtain ⟨X, hX⟩ : ∃ X, str t.txt = X := ⟨_, rfl⟩
 rw [hX] at k3 hlk
 have AD := Lib.hid (TS.adv S.drew ht)
 have CF := Lib.hid (fun (W : World) (hT : Turn (fun g => g = b) w W) (S : TS W b a m h base 1 (.ok r) T) => ((by rw [← hr']; exact srcs_any S t) : Calls Tryz.prog 67 #[.pointer (some ⟨b, 0, none⟩), tokV t] W (TOut W b a m h base 0 r')))
 unfold TOut at CF
 obtain ⟨tv, htv⟩ : ∃ tv, tokV t = tv := ⟨_, rfl⟩
 rw [htv] at AD CF
 have HT0 := Lib.hid (show Turn (fun g => g = b) w w.drew from (Turn.refl _ w).drew)
 clear hX htv S hA _hL hP hR hr' hf
 go_enter Tryz.func115, Tryz.ntmps115
 go_upto_region 1 with fail
 go_region
 all_goals
   go_wp2_with (first
     | (go_at_call 112; ((with_reducible refine AD.out.mono ?_); rintro en w1 ⟨rfl, hS1, hT1⟩; (have HT1 := Lib.hid (HT0.out.trans_ hT1))))
     | (go_at_call 67; ((with_reducible refine (CF.out w1 HT1.out hS1).mono ?_); rintro en w2 ⟨rfl, hS2, hT2⟩))
     | (fail "arm"))
   go_ret
   exact ⟨rfl, hS2, HT1.out.ftb.trans_ hT2⟩
set_option maxHeartbeats 4000000 in
theorem attr_68 {w : World} {b a m h base : Nat} {t : Tok} {r : List Tok} {T : Tgt} (S : TS w b a m h base 0 (.ok (t :: r)) T) (hA : Attrs w a b) (_hL : Laid w) (_hb9 : 9 ≤ b) (_hh9 : 9 ≤ h) (hf : fnOf t.txt = some 68) (ht : 2 ≤ t.cls) (htl : t.txt.length ≤ 4294967000) (r' : Pst × Tgt) (hr' : pRun 68 t (.ok r, T) = r') :
   Calls Tryz.prog 115 #[.pointer (some ⟨b, 0, none⟩)] w (AttrOut w b a m h base (true, r')) := by
 unfold AttrOut
 obtain ⟨vs, hP, hR⟩ := S.ps
 have k3 : w.drew.cell? ⟨b, 3, none⟩ = some (.string (str t.txt)) := (ps_tx hP).1
 have k7 : w.drew.cell? ⟨b, 7, none⟩ = some (.map (some a)) := (ts_cell hP 0).1
 obtain ⟨v, hlk, hv⟩ := Attrs.look (hA.keep rfl : Attrs w.drew a b) (str t.txt) (by rw [str_size]; unfold maxLen; omega)
 rw [str_data, hf] at hlk hv
 have hv := hv 68 rfl
 subst hv
 unfold fnV at hlk
 dsimp only [Option.isSome] at hlk
 obtain ⟨X, hX⟩ : ∃ X, str t.txt = X := ⟨_, rfl⟩
 rw [hX] at k3 hlk
 have AD := Lib.hid (TS.adv S.drew ht)
 have CF := Lib.hid (fun (W : World) (hT : Turn (fun g => g = b) w W) (S : TS W b a m h base 1 (.ok r) T) => ((by rw [← hr']; exact deps_any S t) : Calls Tryz.prog 68 #[.pointer (some ⟨b, 0, none⟩), tokV t] W (TOut W b a m h base 0 r')))
 unfold TOut at CF
 obtain ⟨tv, htv⟩ : ∃ tv, tokV t = tv := ⟨_, rfl⟩
 rw [htv] at AD CF
 have HT0 := Lib.hid (show Turn (fun g => g = b) w w.drew from (Turn.refl _ w).drew)
 clear hX htv S hA _hL hP hR hr' hf
 go_enter Tryz.func115, Tryz.ntmps115
 go_upto_region 1 with fail
 go_region
 all_goals
   go_wp2_with (first
     | (go_at_call 112; ((with_reducible refine AD.out.mono ?_); rintro en w1 ⟨rfl, hS1, hT1⟩; (have HT1 := Lib.hid (HT0.out.trans_ hT1))))
     | (go_at_call 68; ((with_reducible refine (CF.out w1 HT1.out hS1).mono ?_); rintro en w2 ⟨rfl, hS2, hT2⟩))
     | (fail "arm"))
   go_ret
   exact ⟨rfl, hS2, HT1.out.ftb.trans_ hT2⟩
set_option maxHeartbeats 4000000 in
theorem attr_69 {w : World} {b a m h base : Nat} {t : Tok} {r : List Tok} {T : Tgt} (S : TS w b a m h base 0 (.ok (t :: r)) T) (hA : Attrs w a b) (_hL : Laid w) (_hb9 : 9 ≤ b) (_hh9 : 9 ≤ h) (hf : fnOf t.txt = some 69) (ht : 2 ≤ t.cls) (htl : t.txt.length ≤ 4294967000) (r' : Pst × Tgt) (hr' : pRun 69 t (.ok r, T) = r') :
   Calls Tryz.prog 115 #[.pointer (some ⟨b, 0, none⟩)] w (AttrOut w b a m h base (true, r')) := by
 unfold AttrOut
 obtain ⟨vs, hP, hR⟩ := S.ps
 have k3 : w.drew.cell? ⟨b, 3, none⟩ = some (.string (str t.txt)) := (ps_tx hP).1
 have k7 : w.drew.cell? ⟨b, 7, none⟩ = some (.map (some a)) := (ts_cell hP 0).1
 obtain ⟨v, hlk, hv⟩ := Attrs.look (hA.keep rfl : Attrs w.drew a b) (str t.txt) (by rw [str_size]; unfold maxLen; omega)
 rw [str_data, hf] at hlk hv
 have hv := hv 69 rfl
 subst hv
 unfold fnV at hlk
 dsimp only [Option.isSome] at hlk
 obtain ⟨X, hX⟩ : ∃ X, str t.txt = X := ⟨_, rfl⟩
 rw [hX] at k3 hlk
 have AD := Lib.hid (TS.adv S.drew ht)
 have CF := Lib.hid (fun (W : World) (hT : Turn (fun g => g = b) w W) (S : TS W b a m h base 1 (.ok r) T) => ((by rw [← hr']; exact outs_any S t) : Calls Tryz.prog 69 #[.pointer (some ⟨b, 0, none⟩), tokV t] W (TOut W b a m h base 0 r')))
 unfold TOut at CF
 obtain ⟨tv, htv⟩ : ∃ tv, tokV t = tv := ⟨_, rfl⟩
 rw [htv] at AD CF
 have HT0 := Lib.hid (show Turn (fun g => g = b) w w.drew from (Turn.refl _ w).drew)
 clear hX htv S hA _hL hP hR hr' hf
 go_enter Tryz.func115, Tryz.ntmps115
 go_upto_region 1 with fail
 go_region
 all_goals
   go_wp2_with (first
     | (go_at_call 112; ((with_reducible refine AD.out.mono ?_); rintro en w1 ⟨rfl, hS1, hT1⟩; (have HT1 := Lib.hid (HT0.out.trans_ hT1))))
     | (go_at_call 69; ((with_reducible refine (CF.out w1 HT1.out hS1).mono ?_); rintro en w2 ⟨rfl, hS2, hT2⟩))
     | (fail "arm"))
   go_ret
   exact ⟨rfl, hS2, HT1.out.ftb.trans_ hT2⟩
set_option maxHeartbeats 4000000 in
theorem attr_70 {w : World} {b a m h base : Nat} {t : Tok} {r : List Tok} {T : Tgt} (S : TS w b a m h base 0 (.ok (t :: r)) T) (hA : Attrs w a b) (_hL : Laid w) (_hb9 : 9 ≤ b) (_hh9 : 9 ≤ h) (hf : fnOf t.txt = some 70) (ht : 2 ≤ t.cls) (htl : t.txt.length ≤ 4294967000) (r' : Pst × Tgt) (hr' : pRun 70 t (.ok r, T) = r') :
   Calls Tryz.prog 115 #[.pointer (some ⟨b, 0, none⟩)] w (AttrOut w b a m h base (true, r')) := by
 unfold AttrOut
 obtain ⟨vs, hP, hR⟩ := S.ps
 have k3 : w.drew.cell? ⟨b, 3, none⟩ = some (.string (str t.txt)) := (ps_tx hP).1
 have k7 : w.drew.cell? ⟨b, 7, none⟩ = some (.map (some a)) := (ts_cell hP 0).1
 obtain ⟨v, hlk, hv⟩ := Attrs.look (hA.keep rfl : Attrs w.drew a b) (str t.txt) (by rw [str_size]; unfold maxLen; omega)
 rw [str_data, hf] at hlk hv
 have hv := hv 70 rfl
 subst hv
 unfold fnV at hlk
 dsimp only [Option.isSome] at hlk
 obtain ⟨X, hX⟩ : ∃ X, str t.txt = X := ⟨_, rfl⟩
 rw [hX] at k3 hlk
 have AD := Lib.hid (TS.adv S.drew ht)
 have CF := Lib.hid (fun (W : World) (hT : Turn (fun g => g = b) w W) (S : TS W b a m h base 1 (.ok r) T) => ((by rw [← hr']; exact visible_any S t) : Calls Tryz.prog 70 #[.pointer (some ⟨b, 0, none⟩), tokV t] W (TOut W b a m h base 0 r')))
 unfold TOut at CF
 obtain ⟨tv, htv⟩ : ∃ tv, tokV t = tv := ⟨_, rfl⟩
 rw [htv] at AD CF
 have HT0 := Lib.hid (show Turn (fun g => g = b) w w.drew from (Turn.refl _ w).drew)
 clear hX htv S hA _hL hP hR hr' hf
 go_enter Tryz.func115, Tryz.ntmps115
 go_upto_region 1 with fail
 go_region
 all_goals
   go_wp2_with (first
     | (go_at_call 112; ((with_reducible refine AD.out.mono ?_); rintro en w1 ⟨rfl, hS1, hT1⟩; (have HT1 := Lib.hid (HT0.out.trans_ hT1))))
     | (go_at_call 70; ((with_reducible refine (CF.out w1 HT1.out hS1).mono ?_); rintro en w2 ⟨rfl, hS2, hT2⟩))
     | (fail "arm"))
   go_ret
   exact ⟨rfl, hS2, HT1.out.ftb.trans_ hT2⟩
set_option maxHeartbeats 4000000 in
theorem attr_71 {w : World} {b a m h base : Nat} {t : Tok} {r : List Tok} {T : Tgt} (S : TS w b a m h base 0 (.ok (t :: r)) T) (hA : Attrs w a b) (hL : Laid w) (hb9 : 9 ≤ b) (hh9 : 9 ≤ h) (hf : fnOf t.txt = some 71) (ht : 2 ≤ t.cls) (htl : t.txt.length ≤ 4294967000) (r' : Pst × Tgt) (hr' : pRun 71 t (.ok r, T) = r') :
   Calls Tryz.prog 115 #[.pointer (some ⟨b, 0, none⟩)] w (AttrOut w b a m h base (true, r')) := by
 unfold AttrOut
 obtain ⟨vs, hP, hR⟩ := S.ps
 have k3 : w.drew.cell? ⟨b, 3, none⟩ = some (.string (str t.txt)) := (ps_tx hP).1
 have k7 : w.drew.cell? ⟨b, 7, none⟩ = some (.map (some a)) := (ts_cell hP 0).1
 obtain ⟨v, hlk, hv⟩ := Attrs.look (hA.keep rfl : Attrs w.drew a b) (str t.txt) (by rw [str_size]; unfold maxLen; omega)
 rw [str_data, hf] at hlk hv
 have hv := hv 71 rfl
 subst hv
 unfold fnV at hlk
 dsimp only [Option.isSome] at hlk
 obtain ⟨X, hX⟩ : ∃ X, str t.txt = X := ⟨_, rfl⟩
 rw [hX] at k3 hlk
 have AD := Lib.hid (TS.adv S.drew ht)
 have CF := Lib.hid (fun (W : World) (hT : Turn (fun g => g = b) w W) (S : TS W b a m h base 1 (.ok r) T) => ((by rw [← hr']; exact cost_any S (hL.turn hT (fun g e => by omega)) hb9 hh9 t htl) : Calls Tryz.prog 71 #[.pointer (some ⟨b, 0, none⟩), tokV t] W (TOut W b a m h base 0 r')))
 unfold TOut at CF
 obtain ⟨tv, htv⟩ : ∃ tv, tokV t = tv := ⟨_, rfl⟩
 rw [htv] at AD CF
 have HT0 := Lib.hid (show Turn (fun g => g = b) w w.drew from (Turn.refl _ w).drew)
 clear hX htv S hA hL hP hR hr' hf
 go_enter Tryz.func115, Tryz.ntmps115
 go_upto_region 1 with fail
 go_region
 all_goals
   go_wp2_with (first
     | (go_at_call 112; ((with_reducible refine AD.out.mono ?_); rintro en w1 ⟨rfl, hS1, hT1⟩; (have HT1 := Lib.hid (HT0.out.trans_ hT1))))
     | (go_at_call 71; ((with_reducible refine (CF.out w1 HT1.out hS1).mono ?_); rintro en w2 ⟨rfl, hS2, hT2⟩))
     | (fail "arm"))
   go_ret
   exact ⟨rfl, hS2, HT1.out.ftb.trans_ hT2⟩
set_option maxHeartbeats 4000000 in
theorem attr_72 {w : World} {b a m h base : Nat} {t : Tok} {r : List Tok} {T : Tgt} (S : TS w b a m h base 0 (.ok (t :: r)) T) (hA : Attrs w a b) (hL : Laid w) (hb9 : 9 ≤ b) (hh9 : 9 ≤ h) (hf : fnOf t.txt = some 72) (ht : 2 ≤ t.cls) (htl : t.txt.length ≤ 4294967000) (r' : Pst × Tgt) (hr' : pRun 72 t (.ok r, T) = r') :
   Calls Tryz.prog 115 #[.pointer (some ⟨b, 0, none⟩)] w (AttrOut w b a m h base (true, r')) := by
 unfold AttrOut
 obtain ⟨vs, hP, hR⟩ := S.ps
 have k3 : w.drew.cell? ⟨b, 3, none⟩ = some (.string (str t.txt)) := (ps_tx hP).1
 have k7 : w.drew.cell? ⟨b, 7, none⟩ = some (.map (some a)) := (ts_cell hP 0).1
 obtain ⟨v, hlk, hv⟩ := Attrs.look (hA.keep rfl : Attrs w.drew a b) (str t.txt) (by rw [str_size]; unfold maxLen; omega)
 rw [str_data, hf] at hlk hv
 have hv := hv 72 rfl
 subst hv
 unfold fnV at hlk
 dsimp only [Option.isSome] at hlk
 obtain ⟨X, hX⟩ : ∃ X, str t.txt = X := ⟨_, rfl⟩
 rw [hX] at k3 hlk
 have AD := Lib.hid (TS.adv S.drew ht)
 have CF := Lib.hid (fun (W : World) (hT : Turn (fun g => g = b) w W) (S : TS W b a m h base 1 (.ok r) T) => ((by rw [← hr']; exact retry_any S (hL.turn hT (fun g e => by omega)) hb9 hh9 t htl) : Calls Tryz.prog 72 #[.pointer (some ⟨b, 0, none⟩), tokV t] W (TOut W b a m h base 0 r')))
 unfold TOut at CF
 obtain ⟨tv, htv⟩ : ∃ tv, tokV t = tv := ⟨_, rfl⟩
 rw [htv] at AD CF
 have HT0 := Lib.hid (show Turn (fun g => g = b) w w.drew from (Turn.refl _ w).drew)
 clear hX htv S hA hL hP hR hr' hf
 go_enter Tryz.func115, Tryz.ntmps115
 go_upto_region 1 with fail
 go_region
 all_goals
   go_wp2_with (first
     | (go_at_call 112; ((with_reducible refine AD.out.mono ?_); rintro en w1 ⟨rfl, hS1, hT1⟩; (have HT1 := Lib.hid (HT0.out.trans_ hT1))))
     | (go_at_call 72; ((with_reducible refine (CF.out w1 HT1.out hS1).mono ?_); rintro en w2 ⟨rfl, hS2, hT2⟩))
     | (fail "arm"))
   go_ret
   exact ⟨rfl, hS2, HT1.out.ftb.trans_ hT2⟩
set_option maxHeartbeats 4000000 in
theorem attr_no {w : World} {b a m h base : Nat} {σ : Pst} {T : Tgt} (S : TS w b a m h base 0 σ T) (hA : Attrs w a b) (hf : fnOf (pTx σ) = none) :
   Calls Tryz.prog 115 #[.pointer (some ⟨b, 0, none⟩)] w (AttrOut w b a m h base (false, σ, T)) := by
 unfold AttrOut
 obtain ⟨vs, hP, hR⟩ := S.ps
 have hx := ps_tx hP
 have k3 : w.drew.cell? ⟨b, 3, none⟩ = some (.string (str (pTx σ))) := hx.1
 have k7 : w.drew.cell? ⟨b, 7, none⟩ = some (.map (some a)) := (ts_cell hP 0).1
 obtain ⟨v, hlk, hv⟩ := Attrs.look (hA.keep rfl : Attrs w.drew a b) (str (pTx σ)) (by rw [str_size]; have := hx.2.1; unfold maxLen; omega)
 rw [str_data, hf] at hlk
 dsimp only [Option.isSome] at hlk
 obtain ⟨X, hX⟩ : ∃ X, str (pTx σ) = X := ⟨_, rfl⟩
 rw [hX] at k3 hlk
 have HS := Lib.hid S.drew
 have HT0 := Lib.hid (show Turn (FT b h base) w w.drew from (Turn.refl _ w).drew)
 clear hX S hA hP hR hv hx hf
 go_enter Tryz.func115, Tryz.ntmps115
 go_upto_region 1 with fail
 go_region
 all_goals
   go_wp2
   go_ret
   exact ⟨rfl, HS.out, HT0.out⟩
theorem attribute_any {w : World} {b a m h base : Nat} {σ : Pst} {T : Tgt} (S : TS w b a m h base 0 σ T) (hA : Attrs w a b) (hL : Laid w) (hb9 : 9 ≤ b) (hh9 : 9 ≤ h) :
   Calls Tryz.prog 115 #[.pointer (some ⟨b, 0, none⟩)] w (AttrOut w b a m h base (pAttr (σ, T))) := by
 cases hf : fnOf (pTx σ) with
 | none => rw [pAttr_no hf]; exact attr_no S hA hf
 | some n =>
   obtain ⟨t, r, rfl, hf', e⟩ := pAttr_yes (T := T) hf
   rw [e]
   obtain ⟨vs, hP, _⟩ := S.ps
   have hok := (ps_tx hP).2.2 t r rfl
   have h2 := fnOf_some hf'
   have ht : 2 ≤ t.cls := by
     have := hok.1
     rw [this] at h2
     dsimp only at h2
     omega
   obtain ⟨rfl | rfl | rfl | rfl | rfl | rfl | rfl, _⟩ := h2
   · exact attr_66 S hA hL hb9 hh9 hf' ht hok.2 _ rfl
   · exact attr_67 S hA hL hb9 hh9 hf' ht hok.2 _ rfl
   · exact attr_68 S hA hL hb9 hh9 hf' ht hok.2 _ rfl
   · exact attr_69 S hA hL hb9 hh9 hf' ht hok.2 _ rfl
   · exact attr_70 S hA hL hb9 hh9 hf' ht hok.2 _ rfl
   · exact attr_71 S hA hL hb9 hh9 hf' ht hok.2 _ rfl
   · exact attr_72 S hA hL hb9 hh9 hf' ht hok.2 _ rfl
end Go.Proofs.YtcjoiiaankngjaaGreatDoor
namespace Go.Proofs.YtcjoiiaankngjaaGreatDoor
set_option maxRecDepth 100000
open Go.RowKit
theorem store9 {w : World} {r : Nat} {t : TypeId} {x0 x1 x2 x3 x4 x5 x6 x7 x8 : Value} (F : Full w r t [x0, x1, x2, x3, x4, x5, x6, x7, x8]) (y0 y1 y2 y3 y4 y5 y6 y7 y8 : Value) :
   (w.cell? ⟨r, 0, none⟩ = some x0 ∧ w.frozen? ⟨r, 0, none⟩ = false) ∧ ((w.setCell ⟨r, 0, none⟩ y0).cell? ⟨r, 1, none⟩ = some x1 ∧ (w.setCell ⟨r, 0, none⟩ y0).frozen? ⟨r, 1, none⟩ = false) ∧ (((w.setCell ⟨r, 0, none⟩ y0).setCell ⟨r, 1, none⟩ y1).cell? ⟨r, 2, none⟩ = some x2 ∧ ((w.setCell ⟨r, 0, none⟩ y0).setCell ⟨r, 1, none⟩ y1).frozen? ⟨r, 2, none⟩ = false) ∧ ((((w.setCell ⟨r, 0, none⟩ y0).setCell ⟨r, 1, none⟩ y1).setCell ⟨r, 2, none⟩ y2).cell? ⟨r, 3, none⟩ = some x3 ∧ (((w.setCell ⟨r, 0, none⟩ y0).setCell ⟨r, 1, none⟩ y1).setCell ⟨r, 2, none⟩ y2).frozen? ⟨r, 3, none⟩ = false) ∧ (((((w.setCell ⟨r, 0, none⟩ y0).setCell ⟨r, 1, none⟩ y1).setCell ⟨r, 2, none⟩ y2).setCell ⟨r, 3, none⟩ y3).cell? ⟨r, 4, none⟩ = some x4 ∧ ((((w.setCell ⟨r, 0, none⟩ y0).setCell ⟨r, 1, none⟩ y1).setCell ⟨r, 2, none⟩ y2).setCell ⟨r, 3, none⟩ y3).frozen? ⟨r, 4, none⟩ = false) ∧ ((((((w.setCell ⟨r, 0, none⟩ y0).setCell ⟨r, 1, none⟩ y1).setCell ⟨r, 2, none⟩ y2).setCell ⟨r, 3, none⟩ y3).setCell ⟨r, 4, none⟩ y4).cell? ⟨r, 5, none⟩ = some x5 ∧ (((((w.setCell ⟨r, 0, none⟩ y0).setCell ⟨r, 1, none⟩ y1).setCell ⟨r, 2, none⟩ y2).setCell ⟨r, 3, none⟩ y3).setCell ⟨r, 4, none⟩ y4).frozen? ⟨r, 5, none⟩ = false) ∧ (((((((w.setCell ⟨r, 0, none⟩ y0).setCell ⟨r, 1, none⟩ y1).setCell ⟨r, 2, none⟩ y2).setCell ⟨r, 3, none⟩ y3).setCell ⟨r, 4, none⟩ y4).setCell ⟨r, 5, none⟩ y5).cell? ⟨r, 6, none⟩ = some x6 ∧ ((((((w.setCell ⟨r, 0, none⟩ y0).setCell ⟨r, 1, none⟩ y1).setCell ⟨r, 2, none⟩ y2).setCell ⟨r, 3, none⟩ y3).setCell ⟨r, 4, none⟩ y4).setCell ⟨r, 5, none⟩ y5).frozen? ⟨r, 6, none⟩ = false) ∧ ((((((((w.setCell ⟨r, 0, none⟩ y0).setCell ⟨r, 1, none⟩ y1).setCell ⟨r, 2, none⟩ y2).setCell ⟨r, 3, none⟩ y3).setCell ⟨r, 4, none⟩ y4).setCell ⟨r, 5, none⟩ y5).setCell ⟨r, 6, none⟩ y6).cell? ⟨r, 7, none⟩ = some x7 ∧ (((((((w.setCell ⟨r, 0, none⟩ y0).setCell ⟨r, 1, none⟩ y1).setCell ⟨r, 2, none⟩ y2).setCell ⟨r, 3, none⟩ y3).setCell ⟨r, 4, none⟩ y4).setCell ⟨r, 5, none⟩ y5).setCell ⟨r, 6, none⟩ y6).frozen? ⟨r, 7, none⟩ = false) ∧ (((((((((w.setCell ⟨r, 0, none⟩ y0).setCell ⟨r, 1, none⟩ y1).setCell ⟨r, 2, none⟩ y2).setCell ⟨r, 3, none⟩ y3).setCell ⟨r, 4, none⟩ y4).setCell ⟨r, 5, none⟩ y5).setCell ⟨r, 6, none⟩ y6).setCell ⟨r, 7, none⟩ y7).cell? ⟨r, 8, none⟩ = some x8 ∧ ((((((((w.setCell ⟨r, 0, none⟩ y0).setCell ⟨r, 1, none⟩ y1).setCell ⟨r, 2, none⟩ y2).setCell ⟨r, 3, none⟩ y3).setCell ⟨r, 4, none⟩ y4).setCell ⟨r, 5, none⟩ y5).setCell ⟨r, 6, none⟩ y6).setCell ⟨r, 7, none⟩ y7).frozen? ⟨r, 8, none⟩ = false) ∧ Full (((((((((w.setCell ⟨r, 0, none⟩ y0).setCell ⟨r, 1, none⟩ y1).setCell ⟨r, 2, none⟩ y2).setCell ⟨r, 3, none⟩ y3).setCell ⟨r, 4, none⟩ y4).setCell ⟨r, 5, none⟩ y5).setCell ⟨r, 6, none⟩ y6).setCell ⟨r, 7, none⟩ y7).setCell ⟨r, 8, none⟩ y8) r t [y0, y1, y2, y3, y4, y5, y6, y7, y8] := ⟨⟨F.cell 0, F.frozen 0⟩, ⟨(F.set_ 0 y0).cell 1, (F.set_ 0 y0).frozen 1⟩, ⟨((F.set_ 0 y0).set_ 1 y1).cell 2, ((F.set_ 0 y0).set_ 1 y1).frozen 2⟩, ⟨(((F.set_ 0 y0).set_ 1 y1).set_ 2 y2).cell 3, (((F.set_ 0 y0).set_ 1 y1).set_ 2 y2).frozen 3⟩, ⟨((((F.set_ 0 y0).set_ 1 y1).set_ 2 y2).set_ 3 y3).cell 4, ((((F.set_ 0 y0).set_ 1 y1).set_ 2 y2).set_ 3 y3).frozen 4⟩, ⟨(((((F.set_ 0 y0).set_ 1 y1).set_ 2 y2).set_ 3 y3).set_ 4 y4).cell 5, (((((F.set_ 0 y0).set_ 1 y1).set_ 2 y2).set_ 3 y3).set_ 4 y4).frozen 5⟩, ⟨((((((F.set_ 0 y0).set_ 1 y1).set_ 2 y2).set_ 3 y3).set_ 4 y4).set_ 5 y5).cell 6, ((((((F.set_ 0 y0).set_ 1 y1).set_ 2 y2).set_ 3 y3).set_ 4 y4).set_ 5 y5).frozen 6⟩, ⟨(((((((F.set_ 0 y0).set_ 1 y1).set_ 2 y2).set_ 3 y3).set_ 4 y4).set_ 5 y5).set_ 6 y6).cell 7, (((((((F.set_ 0 y0).set_ 1 y1).set_ 2 y2).set_ 3 y3).set_ 4 y4).set_ 5 y5).set_ 6 y6).frozen 7⟩, ⟨((((((((F.set_ 0 y0).set_ 1 y1).set_ 2 y2).set_ 3 y3).set_ 4 y4).set_ 5 y5).set_ 6 y6).set_ 7 y7).cell 8, ((((((((F.set_ 0 y0).set_ 1 y1).set_ 2 y2).set_ 3 y3).set_ 4 y4).set_ 5 y5).set_ 6 y6).set_ 7 y7).frozen 8⟩, (((((((((F.set_ 0 y0).set_ 1 y1).set_ 2 y2).set_ 3 y3).set_ 4 y4).set_ 5 y5).set_ 6 y6).set_ 7 y7).set_ 8 y8)⟩
theorem Turn.set9b {G : Nat → Prop} {w w' : World} {b : Nat} (h : Turn G w w') (hb : G b) (y0 y1 y2 y3 y4 y5 y6 y7 y8 : Value) : Turn G w (((((((((w'.setCell ⟨b, 9, none⟩ y0).setCell ⟨b, 10, none⟩ y1).setCell ⟨b, 11, none⟩ y2).setCell ⟨b, 12, none⟩ y3).setCell ⟨b, 13, none⟩ y4).setCell ⟨b, 14, none⟩ y5).setCell ⟨b, 15, none⟩ y6).setCell ⟨b, 16, none⟩ y7).setCell ⟨b, 17, none⟩ y8) := (((((((((h.setb hb 9 y0).setb hb 10 y1).setb hb 11 y2).setb hb 12 y3).setb hb 13 y4).setb hb 14 y5).setb hb 15 y6).setb hb 16 y7).setb hb 17 y8)
theorem ps_unique {w : World} {b : Nat} {σ σ' : Pst} {R R' : List Value} (h : PS w b σ R) (h' : PS w b σ' R') : plen σ = plen σ' := by
 obtain ⟨s, n, c, tx, tl, e, el, hP, hs, hC⟩ := h
 obtain ⟨s', n', c', tx', tl', e', el', hP', hs', hC'⟩ := h'
 have E : some (Obj.cells _ 95 (0, 0)) = some (Obj.cells _ 95 (0, 0)) := (show w.heap[b]? = some _ from hP).symm.trans (show w.heap[b]? = some _ from hP')
 injection E with E
 injection E with E _ _
 have E := congrArg Array.toList E
 simp only [List.cons.injEq] at E
 obtain ⟨e1, e2, e3, e4, e5, e6, e7, _⟩ := E
 injection e1 with e1
 injection e2 with _ e2
 injection e3 with _ e3
 injection e6 with _ e6
 have e2 : n = n' := by exact_mod_cast e2
 subst e1 e2 e3 e6
 cases σ with
 | bad x l =>
   cases σ' with
   | bad x' l' => rfl
   | ok ts =>
     obtain ⟨a1, _, a3, _⟩ := hC
     obtain ⟨a0, _⟩ := hC'
     omega
 | ok ts =>
   cases σ' with
   | bad x' l' =>
     obtain ⟨a1, _, a3, _⟩ := hC'
     obtain ⟨a0, _⟩ := hC
     omega
   | ok ts' =>
     obtain ⟨_, t, hc, _, _, _, hts⟩ := hC
     obtain ⟨_, t', hc', _, _, _, hts'⟩ := hC'
     have : t.cls = t'.cls := by omega
     unfold plen
     dsimp only
     rw [hts, hts', this]
     split <;> rfl
open Classical in
noncomputable def wlen (b : Nat) (w : World) : Nat := if h : ∃ σ, ∃ R, PS w b σ R then plen h.choose else 0
theorem wlen_eq {w : World} {b : Nat} {σ : Pst} {R : List Value} (h : PS w b σ R) : wlen b w = plen σ := by
 have hx : ∃ σ, ∃ R, PS w b σ R := ⟨σ, R, h⟩
 unfold wlen
 rw [dif_pos hx]
 obtain ⟨R', h'⟩ := hx.choose_spec
 exact ps_unique h' h
theorem pKinds_le : ∀ (f : Nat) (r : Pst × Tgt), plen (pKinds f r).1 ≤ plen r.1
 | 0, r => pRefuse_le r.1
 | f + 1, r => by
   rw [pKinds]
   split
   · exact Nat.le_trans (pExpect_le _ _) (pTake_le _ _)
   · exact pKinds_le f r
theorem pGrow_le (i : Nat) (ls : Pst → List Itm × Pst) (h : ∀ σ, 0 < (ls σ).1.length ∧ (ls σ).1.length + plen (ls σ).2 ≤ 1 + plen σ) (r : Pst × Tgt) : plen (pGrow i ls r).1 ≤ plen r.1 := by
 have := h r.1
 show plen (ls r.1).2 ≤ _
 omega
theorem pRun_le (n : Nat) (t : Tok) (r : Pst × Tgt) : plen (pRun n t r).1 ≤ plen r.1 := by
 unfold pRun
 have h0 : plen (pHad t r).1 ≤ plen r.1 := pOnce_le _ _ _
 split
 · exact Nat.le_trans (pKinds_le 4 _) h0
 · split
   · exact pGrow_le _ _ (pLimited_sum pSources (pList_sum pSource pSource_le)) r
   · split
     · exact pGrow_le _ _ (pLimited_sum pTexts (pList_sum pText pText_le)) r
     · split
       · exact pGrow_le _ _ (pList_sum pText pText_le) r
       · split
         · exact pGrow_le _ _ (pList_sum pText pText_le) r
         · split
           · exact Nat.le_trans (pExpect_le _ _) (Nat.le_trans (pNum_le _ _ _) h0)
           · exact Nat.le_trans (pExpect_le _ _) (Nat.le_trans (pNum_le _ _ _) h0)
theorem pAttr_less {σ : Pst} {T : Tgt} (h : (pAttr (σ, T)).1 = true) : plen (pAttr (σ, T)).2.1 < plen σ := by
 cases hf : fnOf (pTx σ) with
 | none => rw [pAttr_no hf] at h; cases h
 | some n =>
   obtain ⟨t, r, rfl, _, e⟩ := pAttr_yes (T := T) hf
   rw [e]
   have := pRun_le n t (.ok r, T)
   have e2 : plen (.ok (t :: r)) = plen (.ok r) + 1 := by simp [plen]
   show plen (pRun n t (.ok r, T)).1 < _
   rw [e2]
   exact Nat.lt_succ_of_le this
def pAttrs : Nat → Pst × Tgt → Pst × Tgt
 | 0, r => r
 | f + 1, r => if (pAttr r).1 then pAttrs f (pAttr r).2 else (pAttr r).2
def tgt0 (l rl : Nat) : Tgt := ⟨[], 1, l, fun _ => [], 1, 0, rl, fun _ => false⟩
def pBody (l rl : Nat) (K : Kn) (σ : Pst) : Pst × Tgt :=
 pAttrs (plen (pExpect [123] (pOnce K (pAny 2 σ).1 (pAny 2 σ).2)) + 1) (pExpect [123] (pOnce K (pAny 2 σ).1 (pAny 2 σ).2), { tgt0 l rl with name := (pAny 2 σ).1.txt })
def pCheck (T : Tgt) (σ : Pst) : Pst := if T.retry ≠ 0 ∧ T.kind ≠ 3 then pFail (T.rl : Int) 41 σ else σ
def pWhole (l rl : Nat) (K : Kn) (σ : Pst) : Pst × Tgt × Kn :=
 (pCheck (pBody l rl K σ).2 (pExpect [125] (pBody l rl K σ).1), (pBody l rl K σ).2, kPut K (pAny 2 σ).1.txt)
theorem names_any {w : World} {b a m h base k n : Nat} {σ : Pst} {T : Tgt} {K : Kn} (S : TS w b a m h base k σ T) (hN : Names w m n K) (hmb : m ≠ b) (hmh : m ≠ h) (hmB : m < base) (hn : n < maxLen) (t : Tok) (ht : t.txt.length ≤ 4294967000) :
   Calls Tryz.prog 102 #[.pointer (some ⟨b, 0, none⟩), .map (some m), tokV t] w fun en w' => en = .returned (.tuple #[]) ∧ TS w' b a m h base k (pOnce K t σ) T ∧ Names w' m (n + 1) (kPut K t.txt) ∧ Turn (fun g => g = b ∨ g = m) w w' := by
 obtain ⟨⟨vs, hP, hR⟩, ⟨n0, hN0, hn0⟩, hlen, hbb, hhb, hne, hsz⟩ := S
 have hle := pOnce_le K t σ
 refine (once_any hP hN hmb hn t ht).mono ?_
 rintro en w' ⟨he, hP', hN', hT⟩
 refine ⟨he, ⟨⟨vs, hP', hR.turn hT (fun g e => by rcases e with rfl | rfl <;> assumption)⟩, ⟨n0, hN0.far hT (fun e => by rcases e with e | e; exact hne e; exact hmh e.symm), by omega⟩, fun i hi => (by have := hlen i hi; omega), hbb, hhb, hne, Nat.le_trans hsz hT.size⟩, hN', hT⟩
theorem TS.fresh {w : World} {b a m h base l rl : Nat} {σ : Pst} (hP : PS w b σ (tR a m h (tgt0 l rl) (fun _ => .slice none 0 0))) (hN : Names w h 0 (fun _ => false)) (hbb : b < base) (hhb : h < base) (hne : h ≠ b) (hsz : base ≤ w.heap.size) : TS w b a m h base 0 σ (tgt0 l rl) := by
 have hp := hP.plen_le
 refine ⟨⟨_, hP, ⟨fun i _ => ⟨rfl, .inl ⟨rfl, rfl⟩⟩, fun i j _ _ _ g e => by cases e⟩⟩, ⟨0, hN, by unfold XL; omega⟩, fun i _ => (by show 0 + 0 + plen σ ≤ XL; unfold XL; omega), hbb, hhb, hne, hsz⟩
theorem ps_store9y {w : World} {b a m hh : Nat} {σ : Pst} {T : Tgt} {vs : Nat → Value} (h : PS w b σ (tR a m hh T vs)) (y0 y1 y2 y3 y4 y5 y6 y7 y8 : Value) :
   (w.cell? ⟨b, 9, none⟩ = some (.string (str T.name)) ∧ w.frozen? ⟨b, 9, none⟩ = false) ∧ ((w.setCell ⟨b, 9, none⟩ y0).cell? ⟨b, 10, none⟩ = some (.int .i64 T.kind) ∧ (w.setCell ⟨b, 9, none⟩ y0).frozen? ⟨b, 10, none⟩ = false) ∧ (((w.setCell ⟨b, 9, none⟩ y0).setCell ⟨b, 10, none⟩ y1).cell? ⟨b, 11, none⟩ = some (.int .i64 (T.line : Int)) ∧ ((w.setCell ⟨b, 9, none⟩ y0).setCell ⟨b, 10, none⟩ y1).frozen? ⟨b, 11, none⟩ = false) ∧ ((((w.setCell ⟨b, 9, none⟩ y0).setCell ⟨b, 10, none⟩ y1).setCell ⟨b, 11, none⟩ y2).cell? ⟨b, 12, none⟩ = some (vs 0) ∧ (((w.setCell ⟨b, 9, none⟩ y0).setCell ⟨b, 10, none⟩ y1).setCell ⟨b, 11, none⟩ y2).frozen? ⟨b, 12, none⟩ = false) ∧ (((((w.setCell ⟨b, 9, none⟩ y0).setCell ⟨b, 10, none⟩ y1).setCell ⟨b, 11, none⟩ y2).setCell ⟨b, 12, none⟩ y3).cell? ⟨b, 13, none⟩ = some (vs 1) ∧ ((((w.setCell ⟨b, 9, none⟩ y0).setCell ⟨b, 10, none⟩ y1).setCell ⟨b, 11, none⟩ y2).setCell ⟨b, 12, none⟩ y3).frozen? ⟨b, 13, none⟩ = false) ∧ ((((((w.setCell ⟨b, 9, none⟩ y0).setCell ⟨b, 10, none⟩ y1).setCell ⟨b, 11, none⟩ y2).setCell ⟨b, 12, none⟩ y3).setCell ⟨b, 13, none⟩ y4).cell? ⟨b, 14, none⟩ = some (vs 2) ∧ (((((w.setCell ⟨b, 9, none⟩ y0).setCell ⟨b, 10, none⟩ y1).setCell ⟨b, 11, none⟩ y2).setCell ⟨b, 12, none⟩ y3).setCell ⟨b, 13, none⟩ y4).frozen? ⟨b, 14, none⟩ = false) ∧ (((((((w.setCell ⟨b, 9, none⟩ y0).setCell ⟨b, 10, none⟩ y1).setCell ⟨b, 11, none⟩ y2).setCell ⟨b, 12, none⟩ y3).setCell ⟨b, 13, none⟩ y4).setCell ⟨b, 14, none⟩ y5).cell? ⟨b, 15, none⟩ = some (vs 3) ∧ ((((((w.setCell ⟨b, 9, none⟩ y0).setCell ⟨b, 10, none⟩ y1).setCell ⟨b, 11, none⟩ y2).setCell ⟨b, 12, none⟩ y3).setCell ⟨b, 13, none⟩ y4).setCell ⟨b, 14, none⟩ y5).frozen? ⟨b, 15, none⟩ = false) ∧ ((((((((w.setCell ⟨b, 9, none⟩ y0).setCell ⟨b, 10, none⟩ y1).setCell ⟨b, 11, none⟩ y2).setCell ⟨b, 12, none⟩ y3).setCell ⟨b, 13, none⟩ y4).setCell ⟨b, 14, none⟩ y5).setCell ⟨b, 15, none⟩ y6).cell? ⟨b, 16, none⟩ = some (.int .i64 T.cost) ∧ (((((((w.setCell ⟨b, 9, none⟩ y0).setCell ⟨b, 10, none⟩ y1).setCell ⟨b, 11, none⟩ y2).setCell ⟨b, 12, none⟩ y3).setCell ⟨b, 13, none⟩ y4).setCell ⟨b, 14, none⟩ y5).setCell ⟨b, 15, none⟩ y6).frozen? ⟨b, 16, none⟩ = false) ∧ (((((((((w.setCell ⟨b, 9, none⟩ y0).setCell ⟨b, 10, none⟩ y1).setCell ⟨b, 11, none⟩ y2).setCell ⟨b, 12, none⟩ y3).setCell ⟨b, 13, none⟩ y4).setCell ⟨b, 14, none⟩ y5).setCell ⟨b, 15, none⟩ y6).setCell ⟨b, 16, none⟩ y7).cell? ⟨b, 17, none⟩ = some (.int .i64 T.retry) ∧ ((((((((w.setCell ⟨b, 9, none⟩ y0).setCell ⟨b, 10, none⟩ y1).setCell ⟨b, 11, none⟩ y2).setCell ⟨b, 12, none⟩ y3).setCell ⟨b, 13, none⟩ y4).setCell ⟨b, 14, none⟩ y5).setCell ⟨b, 15, none⟩ y6).setCell ⟨b, 16, none⟩ y7).frozen? ⟨b, 17, none⟩ = false) ∧ PS (((((((((w.setCell ⟨b, 9, none⟩ y0).setCell ⟨b, 10, none⟩ y1).setCell ⟨b, 11, none⟩ y2).setCell ⟨b, 12, none⟩ y3).setCell ⟨b, 13, none⟩ y4).setCell ⟨b, 14, none⟩ y5).setCell ⟨b, 15, none⟩ y6).setCell ⟨b, 16, none⟩ y7).setCell ⟨b, 17, none⟩ y8) b σ [.map (some a), .map (some m), y0, y1, y2, y3, y4, y5, y6, y7, y8, .map (some hh), .int .i64 (T.rl : Int)] :=
 ⟨⟨(ts_cell h 2).1, (ts_cell h 2).2⟩, ⟨(ts_cell (ps_set h 2 y0) 3).1, (ts_cell (ps_set h 2 y0) 3).2⟩, ⟨(ts_cell (ps_set (ps_set h 2 y0) 3 y1) 4).1, (ts_cell (ps_set (ps_set h 2 y0) 3 y1) 4).2⟩, ⟨(ts_cell (ps_set (ps_set (ps_set h 2 y0) 3 y1) 4 y2) 5).1, (ts_cell (ps_set (ps_set (ps_set h 2 y0) 3 y1) 4 y2) 5).2⟩, ⟨(ts_cell (ps_set (ps_set (ps_set (ps_set h 2 y0) 3 y1) 4 y2) 5 y3) 6).1, (ts_cell (ps_set (ps_set (ps_set (ps_set h 2 y0) 3 y1) 4 y2) 5 y3) 6).2⟩, ⟨(ts_cell (ps_set (ps_set (ps_set (ps_set (ps_set h 2 y0) 3 y1) 4 y2) 5 y3) 6 y4) 7).1, (ts_cell (ps_set (ps_set (ps_set (ps_set (ps_set h 2 y0) 3 y1) 4 y2) 5 y3) 6 y4) 7).2⟩, ⟨(ts_cell (ps_set (ps_set (ps_set (ps_set (ps_set (ps_set h 2 y0) 3 y1) 4 y2) 5 y3) 6 y4) 7 y5) 8).1, (ts_cell (ps_set (ps_set (ps_set (ps_set (ps_set (ps_set h 2 y0) 3 y1) 4 y2) 5 y3) 6 y4) 7 y5) 8).2⟩, ⟨(ts_cell (ps_set (ps_set (ps_set (ps_set (ps_set (ps_set (ps_set h 2 y0) 3 y1) 4 y2) 5 y3) 6 y4) 7 y5) 8 y6) 9).1, (ts_cell (ps_set (ps_set (ps_set (ps_set (ps_set (ps_set (ps_set h 2 y0) 3 y1) 4 y2) 5 y3) 6 y4) 7 y5) 8 y6) 9).2⟩, ⟨(ts_cell (ps_set (ps_set (ps_set (ps_set (ps_set (ps_set (ps_set (ps_set h 2 y0) 3 y1) 4 y2) 5 y3) 6 y4) 7 y5) 8 y6) 9 y7) 10).1, (ts_cell (ps_set (ps_set (ps_set (ps_set (ps_set (ps_set (ps_set (ps_set h 2 y0) 3 y1) 4 y2) 5 y3) 6 y4) 7 y5) 8 y6) 9 y7) 10).2⟩, (ps_set (ps_set (ps_set (ps_set (ps_set (ps_set (ps_set (ps_set (ps_set h 2 y0) 3 y1) 4 y2) 5 y3) 6 y4) 7 y5) 8 y6) 9 y7) 10 y8)⟩
theorem Turn.set9r (w' : World) (r : Nat) (y0 y1 y2 y3 y4 y5 y6 y7 y8 : Value) : Turn (fun g => g = r) w' (((((((((w'.setCell ⟨r, 0, none⟩ y0).setCell ⟨r, 1, none⟩ y1).setCell ⟨r, 2, none⟩ y2).setCell ⟨r, 3, none⟩ y3).setCell ⟨r, 4, none⟩ y4).setCell ⟨r, 5, none⟩ y5).setCell ⟨r, 6, none⟩ y6).setCell ⟨r, 7, none⟩ y7).setCell ⟨r, 8, none⟩ y8) := ((((((((((Turn.refl (fun g => g = r) w').setb rfl 0 y0).setb rfl 1 y1).setb rfl 2 y2).setb rfl 3 y3).setb rfl 4 y4).setb rfl 5 y5).setb rfl 6 y6).setb rfl 7 y7).setb rfl 8 y8)
def tgtV (T : Tgt) (vs : Nat → Value) : Value := .agg #[.string (str T.name), .int .i64 T.kind, .int .i64 (T.line : Int), vs 0, vs 1, vs 2, vs 3, .int .i64 T.cost, .int .i64 T.retry]
def GB (b m hh : Nat) : Nat → Prop := fun g => g = b ∨ g = hh ∨ g = m
def WholeOut (w : World) (b a m hh n : Nat) (r : Pst × Tgt × Kn) (en : Ending) (w' : World) : Prop :=
 ∃ vs, en = .returned (tgtV r.2.1 vs) ∧ PS w' b r.1 (tR a m hh r.2.1 vs) ∧ Rows4 w' w.heap.size r.2.1.rows vs ∧ Names w' m (n + 1) r.2.2 ∧ (∃ nh, Names w' hh nh r.2.1.had) ∧ Turn (GB b m hh) w w'
theorem tgt_cells {W : World} {b a m hh : Nat} {σ : Pst} {T : Tgt} {vs : Nat → Value} {sn : ByteArray} {kd co rt : Int} {ln : Nat} (hP : PS W b σ (tR a m hh T vs)) (e0 : str T.name = sn) (e1 : T.kind = kd) (e2 : T.line = ln) (e7 : T.cost = co) (e8 : T.retry = rt) :
   W.cell? ⟨b, 9, none⟩ = some (.string sn) ∧ W.cell? ⟨b, 10, none⟩ = some (.int .i64 kd) ∧ W.cell? ⟨b, 11, none⟩ = some (.int .i64 (ln : Int)) ∧ W.cell? ⟨b, 12, none⟩ = some (vs 0) ∧ W.cell? ⟨b, 13, none⟩ = some (vs 1) ∧ W.cell? ⟨b, 14, none⟩ = some (vs 2) ∧ W.cell? ⟨b, 15, none⟩ = some (vs 3) ∧
   W.cell? ⟨b, 16, none⟩ = some (.int .i64 co) ∧ W.cell? ⟨b, 17, none⟩ = some (.int .i64 rt) := by
 subst e0 e1 e2 e7 e8
 exact ⟨(ts_cell hP 2).1, (ts_cell hP 3).1, (ts_cell hP 4).1, (ts_cell hP 5).1, (ts_cell hP 6).1, (ts_cell hP 7).1, (ts_cell hP 8).1, (ts_cell hP 9).1, (ts_cell hP 10).1⟩
theorem gb_ft {w w1 w2 : World} {b m hh base : Nat} (t : Turn (GB b m hh) w w1) (k : Turn (FT b hh base) w1 w2) (hb : w.heap.size ≤ base) : Turn (GB b m hh) w w2 :=
 t.late k fun g e => by
   rcases e with e | e | e
   · exact .inl (.inl e)
   · exact .inl (.inr (.inl e))
   · exact .inr (by omega)
theorem gb_b {w w1 w2 : World} {b m hh : Nat} (t : Turn (GB b m hh) w w1) (k : Turn (fun g => g = b) w1 w2) : Turn (GB b m hh) w w2 := t.trans_ (k.mono fun _ e => .inl e)
theorem whole_end {w w2 : World} {b a m hh n base r : Nat} {σ : Pst} {T9 : Tgt} {K : Kn} {vs9 : Nat → Value} (hP : PS w2 b σ (tR a m hh T9 vs9)) (hR : Rows4 w2 base T9.rows vs9) (hH : ∃ nh, Names w2 hh nh T9.had) (hN : Names w2 m n K) (hT : Turn (GB b m hh) w w2)
   (hr : w.heap.size ≤ r) (hrb : b < r) (hrm : m < r) (hrh : hh < r) (hrB : r < base) (hB : w.heap.size ≤ base) (y0 y1 y2 y3 y4 y5 y6 y7 y8 : Value) :
   PS (((((((((w2.setCell ⟨r, 0, none⟩ y0).setCell ⟨r, 1, none⟩ y1).setCell ⟨r, 2, none⟩ y2).setCell ⟨r, 3, none⟩ y3).setCell ⟨r, 4, none⟩ y4).setCell ⟨r, 5, none⟩ y5).setCell ⟨r, 6, none⟩ y6).setCell ⟨r, 7, none⟩ y7).setCell ⟨r, 8, none⟩ y8) b σ (tR a m hh T9 vs9) ∧ Rows4 (((((((((w2.setCell ⟨r, 0, none⟩ y0).setCell ⟨r, 1, none⟩ y1).setCell ⟨r, 2, none⟩ y2).setCell ⟨r, 3, none⟩ y3).setCell ⟨r, 4, none⟩ y4).setCell ⟨r, 5, none⟩ y5).setCell ⟨r, 6, none⟩ y6).setCell ⟨r, 7, none⟩ y7).setCell ⟨r, 8, none⟩ y8) w.heap.size T9.rows vs9 ∧ Names (((((((((w2.setCell ⟨r, 0, none⟩ y0).setCell ⟨r, 1, none⟩ y1).setCell ⟨r, 2, none⟩ y2).setCell ⟨r, 3, none⟩ y3).setCell ⟨r, 4, none⟩ y4).setCell ⟨r, 5, none⟩ y5).setCell ⟨r, 6, none⟩ y6).setCell ⟨r, 7, none⟩ y7).setCell ⟨r, 8, none⟩ y8) m n K ∧ (∃ nh, Names (((((((((w2.setCell ⟨r, 0, none⟩ y0).setCell ⟨r, 1, none⟩ y1).setCell ⟨r, 2, none⟩ y2).setCell ⟨r, 3, none⟩ y3).setCell ⟨r, 4, none⟩ y4).setCell ⟨r, 5, none⟩ y5).setCell ⟨r, 6, none⟩ y6).setCell ⟨r, 7, none⟩ y7).setCell ⟨r, 8, none⟩ y8) hh nh T9.had) ∧ Turn (GB b m hh) w (((((((((w2.setCell ⟨r, 0, none⟩ y0).setCell ⟨r, 1, none⟩ y1).setCell ⟨r, 2, none⟩ y2).setCell ⟨r, 3, none⟩ y3).setCell ⟨r, 4, none⟩ y4).setCell ⟨r, 5, none⟩ y5).setCell ⟨r, 6, none⟩ y6).setCell ⟨r, 7, none⟩ y7).setCell ⟨r, 8, none⟩ y8) := by
 have t := Turn.set9r w2 r y0 y1 y2 y3 y4 y5 y6 y7 y8
 refine ⟨hP.farT t (by omega), ?_, hN.far t (by omega), hH.imp fun nh q => q.far t (by omega), hT.late t fun g e => .inr (by omega)⟩
 have q := hR.turn t (fun g e => by omega)
 exact ⟨fun i hi => own_base (q.own i hi) hB, q.apart⟩
theorem rt0_no {rt : Int} (z : rt = 0) (b : (rt == 0) = false) : False := by rw [z] at b; exact absurd b (by decide)
theorem bne_no {rt kd : Int} (z : (rt != 0) = false ∨ (kd != 3) = false) (b1 : (rt == 0) = false) (b2 : (kd == 3) = false) : False := by rcases z with z | z <;> simp_all [bne]
set_option maxHeartbeats 8000000 in
theorem whole_any {w : World} {b a m hh n nh : Nat} {t : Tok} {r : List Tok} {T0 : Tgt} {vs0 : Nat → Value} {Km K0 : Kn} (h : PS w b (.ok (t :: r)) (tR a m hh T0 vs0)) (hN : Names w m n Km) (hH : Names w hh nh K0) (hA : Attrs w a b) (hL : Laid w)
   (hb9 : 9 ≤ b) (hh9 : 9 ≤ hh) (hm9 : 9 ≤ m) (hmb : m ≠ b) (hmh : m ≠ hh) (hne : hh ≠ b) (hab : a ≠ b) (hah : a ≠ hh) (ham : a ≠ m) (hn : n < maxLen) (ht : 2 ≤ t.cls) :
   Calls Tryz.prog 76 #[.pointer (some ⟨b, 0, none⟩)] w (WholeOut w b a m hh n (pWhole t.ln T0.rl Km (.ok r))) := by
 unfold WholeOut pWhole pBody
 obtain ⟨l, hl⟩ : ∃ l, t.ln = l := ⟨_, rfl⟩
 obtain ⟨rl, hrl⟩ : ∃ l, T0.rl = l := ⟨_, rfl⟩
 obtain ⟨nm, hnm⟩ : ∃ x, (pAny 2 (.ok r)).1 = x := ⟨_, rfl⟩
 obtain ⟨σ2, h2⟩ : ∃ x, (pAny 2 (.ok r)).2 = x := ⟨_, rfl⟩
 rw [hl, hrl, hnm, h2]
 obtain ⟨σ3, h3⟩ : ∃ x, pOnce Km nm σ2 = x := ⟨_, rfl⟩
 obtain ⟨σ4, h4⟩ : ∃ x, pExpect [123] σ3 = x := ⟨_, rfl⟩
 obtain ⟨T2, hT2⟩ : ∃ x, ({ tgt0 l rl with name := nm.txt } : Tgt) = x := ⟨_, rfl⟩
 rw [h3, h4, hT2]
 obtain ⟨r9, h9⟩ : ∃ x, pAttrs (plen σ4 + 1) (σ4, T2) = x := ⟨_, rfl⟩
 obtain ⟨σ5, T9⟩ := r9
 rw [h9]
 dsimp only
 obtain ⟨σ6, h6⟩ : ∃ x, pExpect [125] σ5 = x := ⟨_, rfl⟩
 obtain ⟨K9, hK9⟩ : ∃ x, kPut Km nm.txt = x := ⟨_, rfl⟩
 rw [h6, hK9]
 obtain ⟨tx, htx⟩ : ∃ l, str t.txt = l := ⟨_, rfl⟩
 obtain ⟨tc, htc⟩ : ∃ l : Nat, t.cls = l := ⟨_, rfl⟩
 obtain ⟨nx, hnx⟩ : ∃ l, str nm.txt = l := ⟨_, rfl⟩
 obtain ⟨nl, hnl⟩ : ∃ l : Nat, nm.ln = l := ⟨_, rfl⟩
 obtain ⟨nc, hnc⟩ : ∃ l : Nat, nm.cls = l := ⟨_, rfl⟩
 obtain ⟨w1, hw1⟩ : ∃ w1, w.alloc (.cells #[.string ⟨#[]⟩, .int .i64 0, .int .i64 0, .slice none 0 0, .slice none 0 0, .slice none 0 0, .slice none 0 0, .int .i64 0, .int .i64 0] 50) = w1 := ⟨_, rfl⟩
 have hb1 : Below w.heap.size w w1 := by rw [← hw1]; exact (Below.refl _ w).alloc (Nat.le_refl _) _
 have F1 : Full w1 w.heap.size 50 [.string ⟨#[]⟩, .int .i64 0, .int .i64 0, .slice none 0 0, .slice none 0 0, .slice none 0 0, .slice none 0 0, .int .i64 0, .int .i64 0] := by rw [← hw1]; exact Full.new w 50 _
 have AD := adv_any (h.on hb1) ht
 unfold tokV at AD
 rw [htx, htc, hl] at AD
 obtain ⟨q, hq⟩ : ∃ q, w.heap.size = q := ⟨_, rfl⟩
 have hbq : b < q := by rw [← hq]; exact h.lt
 have hmq : m < q := by rw [← hq]; exact hN.lt
 have hhq : hh < q := by rw [← hq]; exact hH.lt
 have haq : a < q := by rw [← hq]; exact hA.lt
 rw [hq] at F1
 have FD := Lib.hid (fun W => (by kernel_rfl : (Instr.field 91 (.agg #[.int .i64 (tc : Int), .string tx, .int .i64 (l : Int)]) 2).run Tryz.prog W = .ok (.int .i64 (l : Int)) W))
 have HAD := Lib.hid AD
 have hwq : w.heap.size ≤ q := by omega
 have HF1 := Lib.hid F1
 have HB1 := Lib.hid hb1
 have HN := Lib.hid hN
 have HH := Lib.hid hH
 have HA := Lib.hid (fun (W : World) (g : Turn (GB b m hh) w W) => hA.far g (fun e => by rcases e with e | e | e; exact hab e; exact hah e; exact ham e))
 have HL := Lib.hid (fun (W : World) (g : Turn (GB b m hh) w W) => hL.turn g (fun g e => by rcases e with e | e | e <;> omega))
 have HE := Lib.hid (And.intro hnm (And.intro h2 (And.intro h3 (And.intro h4 (And.intro hT2 (And.intro h9 (And.intro h6 (And.intro hK9 (And.intro hrl (And.intro hnx (And.intro hnl (And.intro hnc hq))))))))))))
 clear hnm h2 h3 h4 hT2 h9 h6 hK9 htx htc hnx hnl hnc hl hrl AD F1 hb1 hN hH hA hL h ht
 go_enter Tryz.func76, Tryz.ntmps76
 go_upto_region 2 with (first
   | (go_at_call 112; ((with_reducible refine HAD.out.mono ?_); rintro en w2 ⟨rfl, hP2, hT2⟩; (have hfd := FD.out w2); (obtain ⟨⟨z0, zf0⟩, ⟨z1, zf1⟩, ⟨z2, zf2⟩, ⟨z3, zf3⟩, ⟨z4, zf4⟩, ⟨z5, zf5⟩, ⟨z6, zf6⟩, ⟨z7, zf7⟩, ⟨z8, zf8⟩, hP3⟩ := ps_store9y hP2 (.string ⟨#[]⟩) (.int .i64 1) (.int .i64 (l : Int)) (.slice none 0 0) (.slice none 0 0) (.slice none 0 0) (.slice none 0 0) (.int .i64 1) (.int .i64 0))))
   | (fail "arm"))
 clear hq
 obtain ⟨w3, hw3⟩ : ∃ w3, (((((((((w2.setCell ⟨b, 9, none⟩ (.string ⟨#[]⟩)).setCell ⟨b, 10, none⟩ (.int .i64 1)).setCell ⟨b, 11, none⟩ (.int .i64 (l : Int))).setCell ⟨b, 12, none⟩ (.slice none 0 0)).setCell ⟨b, 13, none⟩ (.slice none 0 0)).setCell ⟨b, 14, none⟩ (.slice none 0 0)).setCell ⟨b, 15, none⟩ (.slice none 0 0)).setCell ⟨b, 16, none⟩ (.int .i64 1)).setCell ⟨b, 17, none⟩ (.int .i64 0)) = w3 := ⟨_, rfl⟩
 have hT13 : Turn (fun g => g = b) w1 w3 := by
   rw [← hw3]
   exact Turn.set9b hT2 rfl (.string ⟨#[]⟩) (.int .i64 1) (.int .i64 (l : Int)) (.slice none 0 0) (.slice none 0 0) (.slice none 0 0) (.slice none 0 0) (.int .i64 1) (.int .i64 0)
 have hT3 : Turn (fun g => g = b) w w3 := (Turn.of HB1.out).trans_ hT13
 have F3 := hT13.far HF1.out (by omega)
 rw [hw3] at hP3 ⊢
 have hP3 : PS w3 b (.ok r) (tR a m hh (tgt0 l rl) (fun _ => .slice none 0 0)) := by
   have e := HE.out.2.2.2.2.2.2.2.2.1
   rw [e] at hP3
   exact hP3
 have z18 : w3.cell? ⟨b, 18, none⟩ = some (.map (some hh)) := (ts_cell hP3 11).1
 obtain ⟨w4, hcl, hH4, hT4⟩ := (HH.out.far hT3 (fun e => hne e)).clear
 have hP4 := hP3.farT hT4 (fun e => hne e.symm)
 have F4 := hT4.far F3 (by omega)
 have hg4 : Turn (GB b m hh) w w4 := (hT3.mono fun _ e => .inl e).trans_ (hT4.mono fun _ e => .inr (.inl e))
 have hN4 := (HN.out.far hT3 hmb).far hT4 hmh
 have HQ4 := Lib.hid (And.intro hP4 (And.intro F4 (And.intro hg4 (And.intro hH4 hN4))))
 have AN := any_any hP4 2 (by decide)
 rw [show ((2 : Nat) : Int) = 2 from rfl] at AN
 unfold AnyOut tokV at AN
 rw [HE.out.1, HE.out.2.1, HE.out.2.2.2.2.2.2.2.2.2.1, HE.out.2.2.2.2.2.2.2.2.2.2.1, HE.out.2.2.2.2.2.2.2.2.2.2.2.1] at AN
 have HAN := Lib.hid AN
 clear hP2 hT2 z0 zf0 z1 zf1 z2 zf2 z3 zf3 z4 zf4 z5 zf5 z6 zf6 z7 zf7 z8 zf8 hw1 hw3 hP3 F3 hT3 hT13 hN4 hH4 hT4 hP4 F4 hg4 AN hfd
 go_upto_region 3 with fail
 clear hcl z18
 go_upto_region 4 with (first
   | (go_at_call 77; ((with_reducible refine HAN.out.mono ?_); rintro en w5 ⟨rfl, hP5, hT5, htl, _⟩))
   | (fail "arm"))
 obtain ⟨w6, hw6⟩ : ∃ w6, w5.alloc (.cells #[.int .i64 (nc : Int), .string nx, .int .i64 (nl : Int)] 91) = w6 := ⟨_, rfl⟩
 have hb6 : Below w5.heap.size w5 w6 := by rw [← hw6]; exact (Below.refl _ w5).alloc (Nat.le_refl _) _
 have F6 : Full w6 w5.heap.size 91 [.int .i64 (nc : Int), .string nx, .int .i64 (nl : Int)] := by rw [← hw6]; exact Full.new w5 91 _
 obtain ⟨u, hu⟩ : ∃ u, w5.heap.size = u := ⟨_, rfl⟩
 have hs6 : w6.heap.size = u + 1 := by rw [← hw6, ← hu]; exact World.size_alloc _ _
 have hq5 : q < w5.heap.size := (hT5.far HQ4.out.2.1 (by omega)).lt
 have hqu : q < u := by omega
 have Fq6 := (hT5.far HQ4.out.2.1 (by omega)).on hb6
 have hP6 := hP5.on hb6
 have hg6 : Turn (GB b m hh) w w6 := (gb_b HQ4.out.2.2.1 hT5).trans_ (Turn.of hb6)
 have hN6 := (HQ4.out.2.2.2.2.far hT5 hmb).on hb6
 have S6 : TS w6 b a m hh (u + 1) 0 σ2 (tgt0 l rl) := TS.fresh hP6 ((HQ4.out.2.2.2.1.far hT5 (fun e => hne e)).on hb6) (by omega) (by omega) hne (by omega)
 rw [hu] at F6
 rw [hw6, hu]
 have NA := names_any S6.drew (hN6.keep rfl : Names w6.drew m n Km) hmb hmh (by omega) hn nm htl
 unfold tokV at NA
 rw [HE.out.2.2.1, HE.out.2.2.2.2.2.2.2.1, HE.out.2.2.2.2.2.2.2.2.2.1, HE.out.2.2.2.2.2.2.2.2.2.2.1, HE.out.2.2.2.2.2.2.2.2.2.2.2.1] at NA
 have HNA := Lib.hid NA
 have k8 : w6.drew.cell? ⟨b, 8, none⟩ = some (.map (some m)) := (ts_cell hP6 1).1
 have u0 : w6.drew.cell? ⟨u, 0, none⟩ = some (.int .i64 (nc : Int)) := F6.cell 0
 have u1 : w6.drew.cell? ⟨u, 1, none⟩ = some (.string nx) := F6.cell 1
 have u2 : w6.drew.cell? ⟨u, 2, none⟩ = some (.int .i64 (nl : Int)) := F6.cell 2
 have HQ6 := Lib.hid (And.intro F6 (And.intro Fq6 hg6))
 clear hw6 hb6 hs6 hq5 Fq6 hP6 hg6 hN6 S6 F6 hP5 hT5 htl NA HAN HQ4 hu
 go_region_with (first
   | (go_at_call 102; ((with_reducible refine HNA.out.mono ?_); rintro en w7 ⟨rfl, hS7, hN7, hT7⟩))
   | (fail "arm"))
 all_goals
   have F7 := hT7.far (show Full w6.drew u 91 _ from HQ6.out.1) (fun e => by rcases e with e | e <;> omega)
   have Fq7 := hT7.far (show Full w6.drew q 50 _ from HQ6.out.2.1) (fun e => by rcases e with e | e <;> omega)
   have hg7 : Turn (GB b m hh) w w7 := (HQ6.out.2.2.drew).trans_ (hT7.mono fun g e => e.imp id .inr)
   have v1 : w7.cell? ⟨u, 1, none⟩ = some (.string nx) := F7.cell 1
   obtain ⟨vs7, hP7, _⟩ := hS7.ps
   have v9 : w7.cell? ⟨b, 9, none⟩ = some (.string ⟨#[]⟩) := (ts_cell hP7 2).1
   have f9 : w7.frozen? ⟨b, 9, none⟩ = false := (ts_cell hP7 2).2
   have hT8 : Turn (fun g => g = b) w7 (w7.setCell ⟨b, 9, none⟩ (.string nx)) := Turn.set_ (F := fun g => g = b) (a := ⟨b, 9, none⟩) rfl _
   have hS8 : TS (w7.setCell ⟨b, 9, none⟩ (.string nx)) b a m hh (u + 1) 0 σ3 T2 := by
     rw [← HE.out.2.2.2.2.1]
     refine hS7.put hT8 (fun vs z => ?_) rfl rfl
     rw [← HE.out.2.2.2.2.2.2.2.2.2.1]
     exact ps_set z 2 _
   obtain ⟨w8, hw8⟩ : ∃ w8, w7.setCell ⟨b, 9, none⟩ (.string nx) = w8 := ⟨_, rfl⟩
   rw [hw8] at hS8 hT8
   have hq8 := hT8.far Fq7 (by omega)
   have hg8 := gb_b hg7 hT8
   have hN8 := hN7.far hT8 hmb
   have HX4 := Lib.hid (TS.call (σ' := σ4) (by rw [← HE.out.2.2.2.1]; exact pExpect_le _ _) hS8 (v := .tuple #[]) (fun R hP => (by
     have z := expect_any hP [123] (by decide)
     unfold StOut at z
     rw [HE.out.2.2.2.1] at z
     exact z)) : Calls Tryz.prog 103 #[.pointer (some ⟨b, 0, none⟩), .string ⟨#[123]⟩] w8 fun en w' => en = .returned (.tuple #[]) ∧ TS w' b a m hh (u + 1) 0 σ4 T2 ∧ Turn (fun g => g = b) w8 w')
   have HQ8 := Lib.hid (And.intro hq8 (And.intro hg8 hN8))
   clear hP7 hS7 hN7 hT7 F7 Fq7 hg7 hT8 hS8 hq8 hg8 hN8
   go_upto_region 7 with (first
     | (go_at_call 103; ((with_reducible refine HX4.out.mono ?_); rintro en w9 ⟨rfl, hS9, hT9⟩))
     | (fail "arm"))
   have Hs9 := Lib.hid hS9
   have Hq9 := Lib.hid (hT9.far HQ8.out.1 (by omega))
   have Hg9 := Lib.hid (gb_b HQ8.out.2.1 hT9)
   have Hn9 := Lib.hid (HQ8.out.2.2.far hT9 hmb)
   clear hS9 hT9 HX4 HQ8 hw8 v1 v9 f9
   go_loopw [33] (fun _ wr => ∃ (f : Nat) (σ' : Pst) (T' : Tgt), Hid (plen σ' < f) ∧ Hid (pAttrs f (σ', T') = (σ5, T9)) ∧ Hid (TS wr b a m hh (u + 1) 0 σ' T') ∧ Hid (Full wr q 50 [.string ⟨#[]⟩, .int .i64 0, .int .i64 0, .slice none 0 0, .slice none 0 0, .slice none 0 0, .slice none 0 0, .int .i64 0, .int .i64 0]) ∧ Hid (Turn (GB b m hh) w wr) ∧ Hid (Names wr m (n + 1) K9)) (fun _ wr => wlen b wr)
   case atStart => exact ⟨plen σ4 + 1, σ4, T2, Lib.hid (Nat.lt_succ_self _), Lib.hid HE.out.2.2.2.2.2.1, Hs9, Hq9, Hg9, Hn9⟩
   case round =>
     obtain ⟨f, σ', T', Hf, HP, HS, HF, HG, HNm⟩ := hrel
     obtain ⟨f, rfl⟩ : ∃ k, f = k + 1 := ⟨f - 1, by have := Hf.out; omega⟩
     have AT := attribute_any HS.out (HA.out wr HG.out) (HL.out wr HG.out) hb9 hh9
     unfold AttrOut at AT
     have hP := HP.out
     rw [pAttrs] at hP
     cases hat : (pAttr (σ', T')).1 with
     | true =>
       have hless := pAttr_less hat
       rw [if_pos hat] at hP
       rw [hat] at AT
       obtain ⟨⟨σ7, T7⟩, e7⟩ : ∃ x, (pAttr (σ', T')).2 = x := ⟨_, rfl⟩
       rw [e7] at hP hless AT
       have HAT := Lib.hid AT
       have HP' := Lib.hid hP
       have Hl := Lib.hid hless
       clear hP hless AT hat e7
       go_wp2_with (first
         | (go_at_call 115; ((with_reducible refine HAT.out.mono ?_); rintro en w10 ⟨rfl, hS10, hT10⟩; (have HS10 := Lib.hid hS10); (have HT10 := Lib.hid hT10); clear hS10 hT10))
         | (fail "arm"))
       go_roundw
       case rel => exact ⟨f, σ7, T7, Lib.hid (by have := Hf.out; have := Hl.out; omega), HP', HS10, Lib.hid (HT10.out.far HF.out (fun e => by rcases e with e | e | e <;> omega)), Lib.hid (gb_ft HG.out HT10.out (by omega)), Lib.hid (HNm.out.far HT10.out (fun e => by rcases e with e | e | e; exact hmb e; exact hmh e; omega))⟩
       case measure =>
         obtain ⟨va, hPa, _⟩ := HS10.out.ps
         obtain ⟨vb, hPb, _⟩ := HS.out.ps
         show wlen b w10 < wlen b wr
         rw [wlen_eq hPa, wlen_eq hPb]
         exact Hl.out
     | false =>
       rw [if_neg (by rw [hat]; decide)] at hP
       rw [hat, hP] at AT
       have HAT := Lib.hid AT
       clear hP AT hat
       have HX6 := Lib.hid (fun (W : World) (S : TS W b a m hh (u + 1) 0 σ5 T9) => (TS.call (σ' := σ6) (by rw [← HE.out.2.2.2.2.2.2.1]; exact pExpect_le _ _) S (v := .tuple #[]) (fun R hP => (by
         have z := expect_any hP [125] (by decide)
         unfold StOut at z
         rw [HE.out.2.2.2.2.2.2.1] at z
         exact z)) : Calls Tryz.prog 103 #[.pointer (some ⟨b, 0, none⟩), .string ⟨#[125]⟩] W fun en w' => en = .returned (.tuple #[]) ∧ TS w' b a m hh (u + 1) 0 σ6 T9 ∧ Turn (fun g => g = b) W w'))
       obtain ⟨sn, e0⟩ : ∃ x, str T9.name = x := ⟨_, rfl⟩
       obtain ⟨kd, e1⟩ : ∃ x, T9.kind = x := ⟨_, rfl⟩
       obtain ⟨ln, e2⟩ : ∃ x, T9.line = x := ⟨_, rfl⟩
       obtain ⟨co, e7⟩ : ∃ x, T9.cost = x := ⟨_, rfl⟩
       obtain ⟨rt, e8⟩ : ∃ x, T9.retry = x := ⟨_, rfl⟩
       obtain ⟨rl9, e9⟩ : ∃ x, T9.rl = x := ⟨_, rfl⟩
       have HV := Lib.hid (And.intro e0 (And.intro e1 (And.intro e2 (And.intro e7 e8))))
       by_cases hck : rt ≠ 0 ∧ kd ≠ 3
       · obtain ⟨σ7, h7⟩ : ∃ x, pFail (rl9 : Int) 41 σ6 = x := ⟨_, rfl⟩
         have hchk : pCheck T9 σ6 = σ7 := by unfold pCheck; rw [if_pos (by rw [e8, e1]; exact hck), e9, h7]
         have HCK := Lib.hid hchk
         have HX7 := Lib.hid (fun (W : World) (S : TS W b a m hh (u + 1) 0 σ6 T9) => (TS.call (σ' := σ7) (by rw [← h7]; exact pFail_le _ _ _) S (v := .tuple #[]) (fun R hP => (by
           have z := fail_any hP (rl9 : Int) 41 (by decide)
           unfold StOut at z
           rw [h7] at z
           exact z)) : Calls Tryz.prog 116 #[.pointer (some ⟨b, 0, none⟩), .int .i64 (rl9 : Int), .int .i64 41] W fun en w' => en = .returned (.tuple #[]) ∧ TS w' b a m hh (u + 1) 0 σ7 T9 ∧ Turn (fun g => g = b) W w'))
         have HRL := Lib.hid e9
         have b1 : (rt == 0) = false := by simpa using hck.1
         have b2 : (kd == 3) = false := by simpa using hck.2
         clear hchk h7 e0 e1 e2 e7 e8 e9 hck
         go_upto_region 11 with (first
           | (go_at_call 115; ((with_reducible refine HAT.out.mono ?_); rintro en w10 ⟨rfl, hS10, hT10⟩; (have HS10 := Lib.hid hS10); (have HT10 := Lib.hid hT10); clear hS10 hT10))
           | (go_at_call 103; ((with_reducible refine (HX6.out w10 HS10.out).mono ?_); rintro en w11 ⟨rfl, hS11, hT11⟩; (obtain ⟨vs11, hP11, _⟩ := hS11.ps); (have y17 : w11.cell? ⟨b, 17, none⟩ = some (.int .i64 rt) := (tgt_cells hP11 HV.out.1 HV.out.2.1 HV.out.2.2.1 HV.out.2.2.2.1 HV.out.2.2.2.2).2.2.2.2.2.2.2.2); (have y10 : w11.cell? ⟨b, 10, none⟩ = some (.int .i64 kd) := (tgt_cells hP11 HV.out.1 HV.out.2.1 HV.out.2.2.1 HV.out.2.2.2.1 HV.out.2.2.2.2).2.1); (have y19 : w11.cell? ⟨b, 19, none⟩ = some (.int .i64 (rl9 : Int)) := (by rw [← HRL.out]; exact (ts_cell hP11 12).1)); (have HS11 := Lib.hid hS11); (have HT11 := Lib.hid hT11); clear hP11 hS11 hT11))
           | (go_at_call 116; ((with_reducible refine (HX7.out w11 HS11.out).mono ?_); rintro en w12 ⟨rfl, hS12, hT12⟩; (have HSX := Lib.hid hS12); (have HFX := Lib.hid (hT12.far (HT11.out.far (HT10.out.far HF.out (fun e => by rcases e with e | e | e <;> omega)) (by omega)) (by omega))); (have HGX := Lib.hid (gb_b (gb_b (gb_ft HG.out HT10.out (by omega)) HT11.out) hT12)); (have HNX := Lib.hid (((HNm.out.far HT10.out (fun e => by rcases e with e | e | e; exact hmb e; exact hmh e; omega)).far HT11.out hmb).far hT12 hmb)); clear hS12 hT12 y17 y10 y19))
           | (fail "arm"))
         all_goals (first | (have hxx := HSX.out; clear hxx) | (exfalso; first | (rename_i zz; exact rt0_no zz b1) | (rename_i zz _; exact rt0_no zz b1) | (rename_i zz _ _; exact rt0_no zz b1) | (rename_i zz _ _ _; exact rt0_no zz b1) | (rename_i zz _ _ _ _; exact rt0_no zz b1) | (rename_i zz _ _ _ _ _; exact rt0_no zz b1) | (rename_i zz _ _ _ _ _ _; exact rt0_no zz b1) | (rename_i zz _ _ _ _ _ _ _; exact rt0_no zz b1) | (rename_i zz _ _ _ _ _ _ _ _; exact rt0_no zz b1) | (rename_i zz _ _ _ _ _ _ _ _ _; exact rt0_no zz b1) | (rename_i zz _ _ _ _ _ _ _ _ _ _; exact rt0_no zz b1) | (rename_i zz _ _ _ _ _ _ _ _ _ _ _; exact rt0_no zz b1) | (rename_i zz _ _ _ _ _ _ _ _ _ _ _ _; exact rt0_no zz b1) | (rename_i zz _ _ _ _ _ _ _ _ _ _ _ _ _; exact rt0_no zz b1) | (rename_i zz; exact bne_no zz b1 b2) | (rename_i zz _; exact bne_no zz b1 b2) | (rename_i zz _ _; exact bne_no zz b1 b2) | (rename_i zz _ _ _; exact bne_no zz b1 b2) | (rename_i zz _ _ _ _; exact bne_no zz b1 b2) | (rename_i zz _ _ _ _ _; exact bne_no zz b1 b2) | (rename_i zz _ _ _ _ _ _; exact bne_no zz b1 b2) | (rename_i zz _ _ _ _ _ _ _; exact bne_no zz b1 b2) | (rename_i zz _ _ _ _ _ _ _ _; exact bne_no zz b1 b2) | (rename_i zz _ _ _ _ _ _ _ _ _; exact bne_no zz b1 b2) | (rename_i zz _ _ _ _ _ _ _ _ _ _; exact bne_no zz b1 b2) | (rename_i zz _ _ _ _ _ _ _ _ _ _ _; exact bne_no zz b1 b2) | (rename_i zz _ _ _ _ _ _ _ _ _ _ _ _; exact bne_no zz b1 b2) | (rename_i zz _ _ _ _ _ _ _ _ _ _ _ _ _; exact bne_no zz b1 b2)))
         all_goals
           obtain ⟨vs9, hP9, hR9⟩ := HSX.out.ps
           obtain ⟨x0, x1, x2, x3, x4, x5, x6, x7, x8⟩ := tgt_cells hP9 HV.out.1 HV.out.2.1 HV.out.2.2.1 HV.out.2.2.2.1 HV.out.2.2.2.2
           obtain ⟨A0, k0, g0⟩ := own_form (hR9.own 0 (by decide))
           obtain ⟨A1, k1, g1⟩ := own_form (hR9.own 1 (by decide))
           obtain ⟨A2, k2, g2⟩ := own_form (hR9.own 2 (by decide))
           obtain ⟨A3, k3, g3⟩ := own_form (hR9.own 3 (by decide))
           rw [g0] at x3
           rw [g1] at x4
           rw [g2] at x5
           rw [g3] at x6
           obtain ⟨⟨c0, cf0⟩, ⟨c1, cf1⟩, ⟨c2, cf2⟩, ⟨c3, cf3⟩, ⟨c4, cf4⟩, ⟨c5, cf5⟩, ⟨c6, cf6⟩, ⟨c7, cf7⟩, ⟨c8, cf8⟩, FE⟩ := store9 HFX.out (.string sn) (.int .i64 kd) (.int .i64 (ln : Int)) (.slice A0 (T9.rows 0).length k0) (.slice A1 (T9.rows 1).length k1) (.slice A2 (T9.rows 2).length k2) (.slice A3 (T9.rows 3).length k3) (.int .i64 co) (.int .i64 rt)
           have HP9 := Lib.hid (And.intro hP9 hR9)
           have HFE := Lib.hid FE
           have HGG := Lib.hid (And.intro g0 (And.intro g1 (And.intro g2 g3)))
           clear hP9 hR9 FE g0 g1 g2 g3
           go_wp2
           obtain ⟨wz, hwz⟩ : ∃ wz, (((((((((w12.setCell ⟨q, 0, none⟩ (.string sn)).setCell ⟨q, 1, none⟩ (.int .i64 kd)).setCell ⟨q, 2, none⟩ (.int .i64 (ln : Int))).setCell ⟨q, 3, none⟩ (.slice A0 (T9.rows 0).length k0)).setCell ⟨q, 4, none⟩ (.slice A1 (T9.rows 1).length k1)).setCell ⟨q, 5, none⟩ (.slice A2 (T9.rows 2).length k2)).setCell ⟨q, 6, none⟩ (.slice A3 (T9.rows 3).length k3)).setCell ⟨q, 7, none⟩ (.int .i64 co)).setCell ⟨q, 8, none⟩ (.int .i64 rt)) = wz := ⟨_, rfl⟩
           have hend := whole_end HP9.out.1 HP9.out.2 (HSX.out.had.imp fun nh z => z.1) HNX.out HGX.out (r := q) (base := u + 1) (by omega) hbq hmq hhq (by omega) (by omega) (.string sn) (.int .i64 kd) (.int .i64 (ln : Int)) (.slice A0 (T9.rows 0).length k0) (.slice A1 (T9.rows 1).length k1) (.slice A2 (T9.rows 2).length k2) (.slice A3 (T9.rows 3).length k3) (.int .i64 co) (.int .i64 rt)
           have FE := HFE.out
           rw [hwz] at hend FE ⊢
           have q0 := FE.cell 0
           have q1 := FE.cell 1
           have q2 := FE.cell 2
           have q3 := FE.cell 3
           have q4 := FE.cell 4
           have q5 := FE.cell 5
           have q6 := FE.cell 6
           have q7 := FE.cell 7
           have q8 := FE.cell 8
           dsimp only [List.getElem?_cons_zero, List.getElem?_cons_succ] at q0 q1 q2 q3 q4 q5 q6 q7 q8
           refine bodyPost_ret (v := .agg #[.string sn, .int .i64 kd, .int .i64 (ln : Int), .slice A0 (T9.rows 0).length k0, .slice A1 (T9.rows 1).length k1, .slice A2 (T9.rows 2).length k2, .slice A3 (T9.rows 3).length k3, .int .i64 co, .int .i64 rt]) (by simp [results, Tryz.results76, go_sem, q0, q1, q2, q3, q4, q5, q6, q7, q8]) rfl ?_
           refine ⟨vs9, ?_, (by rw [HCK.out]; exact hend.1), hend.2.1, hend.2.2.1, hend.2.2.2.1, hend.2.2.2.2⟩
           unfold tgtV
           rw [HV.out.1, HV.out.2.1, HV.out.2.2.1, HV.out.2.2.2.1, HV.out.2.2.2.2, HGG.out.1, HGG.out.2.1, HGG.out.2.2.1, HGG.out.2.2.2]
       · have hchk : pCheck T9 σ6 = σ6 := by unfold pCheck; rw [if_neg (by rw [e8, e1]; exact hck)]
         have HCK := Lib.hid hchk
         have b9 : (rt = 0) ∨ (rt ≠ 0 ∧ kd = 3) := by
           by_cases z : rt = 0
           · exact .inl z
           · exact .inr ⟨z, Decidable.byContradiction fun e => hck ⟨z, e⟩⟩
         clear hchk e0 e1 e2 e7 e8 e9 hck
         have HB9 : ((rt == 0) = true ∧ decide (rt = 0) = true) ∨ (((rt == 0) = false ∧ decide (rt = 0) = false) ∧ ((kd == 3) = true ∧ decide (kd = 3) = true)) := by
           rcases b9 with z | ⟨z1, z2⟩
           · exact .inl ⟨by simpa using z, by simpa using z⟩
           · exact .inr ⟨⟨by simpa using z1, by simpa using z1⟩, by simpa using z2, by simpa using z2⟩
         clear b9
         rcases HB9 with ⟨b1, b3⟩ | ⟨⟨b1, b3⟩, b2, b4⟩
         · obtain rfl : rt = 0 := of_decide_eq_true b3
           clear b1 b3
           all_goals
             go_upto_region 11 with (first
               | (go_at_call 115; ((with_reducible refine HAT.out.mono ?_); rintro en w10 ⟨rfl, hS10, hT10⟩; (have HS10 := Lib.hid hS10); (have HT10 := Lib.hid hT10); clear hS10 hT10))
               | (go_at_call 103; ((with_reducible refine (HX6.out w10 HS10.out).mono ?_); rintro en w12 ⟨rfl, hS12, hT12⟩; (have HSX := Lib.hid hS12); (have HFX := Lib.hid (hT12.far (HT10.out.far HF.out (fun e => by rcases e with e | e | e <;> omega)) (by omega))); (have HGX := Lib.hid (gb_b (gb_ft HG.out HT10.out (by omega)) hT12)); (have HNX := Lib.hid ((HNm.out.far HT10.out (fun e => by rcases e with e | e | e; exact hmb e; exact hmh e; omega)).far hT12 hmb)); (obtain ⟨vs12, hP12, _⟩ := hS12.ps); (have y17 : w12.cell? ⟨b, 17, none⟩ = some (.int .i64 0) := (tgt_cells hP12 HV.out.1 HV.out.2.1 HV.out.2.2.1 HV.out.2.2.2.1 HV.out.2.2.2.2).2.2.2.2.2.2.2.2); (have y10 : w12.cell? ⟨b, 10, none⟩ = some (.int .i64 kd) := (tgt_cells hP12 HV.out.1 HV.out.2.1 HV.out.2.2.1 HV.out.2.2.2.1 HV.out.2.2.2.2).2.1); clear hS12 hT12 hP12))
               | (fail "arm"))
           all_goals (have hxx := HSX.out; clear hxx)
           all_goals
             obtain ⟨vs9, hP9, hR9⟩ := HSX.out.ps
             obtain ⟨x0, x1, x2, x3, x4, x5, x6, x7, x8⟩ := tgt_cells hP9 HV.out.1 HV.out.2.1 HV.out.2.2.1 HV.out.2.2.2.1 HV.out.2.2.2.2
             obtain ⟨A0, k0, g0⟩ := own_form (hR9.own 0 (by decide))
             obtain ⟨A1, k1, g1⟩ := own_form (hR9.own 1 (by decide))
             obtain ⟨A2, k2, g2⟩ := own_form (hR9.own 2 (by decide))
             obtain ⟨A3, k3, g3⟩ := own_form (hR9.own 3 (by decide))
             rw [g0] at x3
             rw [g1] at x4
             rw [g2] at x5
             rw [g3] at x6
             obtain ⟨⟨c0, cf0⟩, ⟨c1, cf1⟩, ⟨c2, cf2⟩, ⟨c3, cf3⟩, ⟨c4, cf4⟩, ⟨c5, cf5⟩, ⟨c6, cf6⟩, ⟨c7, cf7⟩, ⟨c8, cf8⟩, FE⟩ := store9 HFX.out (.string sn) (.int .i64 kd) (.int .i64 (ln : Int)) (.slice A0 (T9.rows 0).length k0) (.slice A1 (T9.rows 1).length k1) (.slice A2 (T9.rows 2).length k2) (.slice A3 (T9.rows 3).length k3) (.int .i64 co) (.int .i64 0)
             have HP9 := Lib.hid (And.intro hP9 hR9)
             have HFE := Lib.hid FE
             have HGG := Lib.hid (And.intro g0 (And.intro g1 (And.intro g2 g3)))
             clear hP9 hR9 FE g0 g1 g2 g3
             go_wp2
             obtain ⟨wz, hwz⟩ : ∃ wz, (((((((((w12.setCell ⟨q, 0, none⟩ (.string sn)).setCell ⟨q, 1, none⟩ (.int .i64 kd)).setCell ⟨q, 2, none⟩ (.int .i64 (ln : Int))).setCell ⟨q, 3, none⟩ (.slice A0 (T9.rows 0).length k0)).setCell ⟨q, 4, none⟩ (.slice A1 (T9.rows 1).length k1)).setCell ⟨q, 5, none⟩ (.slice A2 (T9.rows 2).length k2)).setCell ⟨q, 6, none⟩ (.slice A3 (T9.rows 3).length k3)).setCell ⟨q, 7, none⟩ (.int .i64 co)).setCell ⟨q, 8, none⟩ (.int .i64 0)) = wz := ⟨_, rfl⟩
             have hend := whole_end HP9.out.1 HP9.out.2 (HSX.out.had.imp fun nh z => z.1) HNX.out HGX.out (r := q) (base := u + 1) (by omega) hbq hmq hhq (by omega) (by omega) (.string sn) (.int .i64 kd) (.int .i64 (ln : Int)) (.slice A0 (T9.rows 0).length k0) (.slice A1 (T9.rows 1).length k1) (.slice A2 (T9.rows 2).length k2) (.slice A3 (T9.rows 3).length k3) (.int .i64 co) (.int .i64 0)
             have FE := HFE.out
             rw [hwz] at hend FE ⊢
             have q0 := FE.cell 0
             have q1 := FE.cell 1
             have q2 := FE.cell 2
             have q3 := FE.cell 3
             have q4 := FE.cell 4
             have q5 := FE.cell 5
             have q6 := FE.cell 6
             have q7 := FE.cell 7
             have q8 := FE.cell 8
             dsimp only [List.getElem?_cons_zero, List.getElem?_cons_succ] at q0 q1 q2 q3 q4 q5 q6 q7 q8
             refine bodyPost_ret (v := .agg #[.string sn, .int .i64 kd, .int .i64 (ln : Int), .slice A0 (T9.rows 0).length k0, .slice A1 (T9.rows 1).length k1, .slice A2 (T9.rows 2).length k2, .slice A3 (T9.rows 3).length k3, .int .i64 co, .int .i64 0]) (by simp [results, Tryz.results76, go_sem, q0, q1, q2, q3, q4, q5, q6, q7, q8]) rfl ?_
             refine ⟨vs9, ?_, (by rw [HCK.out]; exact hend.1), hend.2.1, hend.2.2.1, hend.2.2.2.1, hend.2.2.2.2⟩
             unfold tgtV
             rw [HV.out.1, HV.out.2.1, HV.out.2.2.1, HV.out.2.2.2.1, HV.out.2.2.2.2, HGG.out.1, HGG.out.2.1, HGG.out.2.2.1, HGG.out.2.2.2]
         · obtain rfl : kd = 3 := of_decide_eq_true b4
           clear b2 b4 b3
           all_goals
             go_upto_region 11 with (first
               | (go_at_call 115; ((with_reducible refine HAT.out.mono ?_); rintro en w10 ⟨rfl, hS10, hT10⟩; (have HS10 := Lib.hid hS10); (have HT10 := Lib.hid hT10); clear hS10 hT10))
               | (go_at_call 103; ((with_reducible refine (HX6.out w10 HS10.out).mono ?_); rintro en w12 ⟨rfl, hS12, hT12⟩; (have HSX := Lib.hid hS12); (have HFX := Lib.hid (hT12.far (HT10.out.far HF.out (fun e => by rcases e with e | e | e <;> omega)) (by omega))); (have HGX := Lib.hid (gb_b (gb_ft HG.out HT10.out (by omega)) hT12)); (have HNX := Lib.hid ((HNm.out.far HT10.out (fun e => by rcases e with e | e | e; exact hmb e; exact hmh e; omega)).far hT12 hmb)); (obtain ⟨vs12, hP12, _⟩ := hS12.ps); (have y17 : w12.cell? ⟨b, 17, none⟩ = some (.int .i64 rt) := (tgt_cells hP12 HV.out.1 HV.out.2.1 HV.out.2.2.1 HV.out.2.2.2.1 HV.out.2.2.2.2).2.2.2.2.2.2.2.2); (have y10 : w12.cell? ⟨b, 10, none⟩ = some (.int .i64 3) := (tgt_cells hP12 HV.out.1 HV.out.2.1 HV.out.2.2.1 HV.out.2.2.2.1 HV.out.2.2.2.2).2.1); clear hS12 hT12 hP12))
               | (fail "arm"))
           all_goals (first | (exfalso; first | (rename_i zz; exact rt0_no zz b1) | (rename_i zz _; exact rt0_no zz b1) | (rename_i zz _ _; exact rt0_no zz b1) | (rename_i zz _ _ _; exact rt0_no zz b1) | (rename_i zz _ _ _ _; exact rt0_no zz b1) | (rename_i zz _ _ _ _ _; exact rt0_no zz b1) | (rename_i zz _ _ _ _ _ _; exact rt0_no zz b1) | (rename_i zz _ _ _ _ _ _ _; exact rt0_no zz b1) | (rename_i zz _ _ _ _ _ _ _ _; exact rt0_no zz b1) | (rename_i zz _ _ _ _ _ _ _ _ _; exact rt0_no zz b1) | (rename_i zz _ _ _ _ _ _ _ _ _ _; exact rt0_no zz b1) | (rename_i zz _ _ _ _ _ _ _ _ _ _ _; exact rt0_no zz b1) | (rename_i zz _ _ _ _ _ _ _ _ _ _ _ _; exact rt0_no zz b1) | (rename_i zz _ _ _ _ _ _ _ _ _ _ _ _ _; exact rt0_no zz b1)) | (have hxx := HSX.out; clear hxx))
           all_goals
             obtain ⟨vs9, hP9, hR9⟩ := HSX.out.ps
             obtain ⟨x0, x1, x2, x3, x4, x5, x6, x7, x8⟩ := tgt_cells hP9 HV.out.1 HV.out.2.1 HV.out.2.2.1 HV.out.2.2.2.1 HV.out.2.2.2.2
             obtain ⟨A0, k0, g0⟩ := own_form (hR9.own 0 (by decide))
             obtain ⟨A1, k1, g1⟩ := own_form (hR9.own 1 (by decide))
             obtain ⟨A2, k2, g2⟩ := own_form (hR9.own 2 (by decide))
             obtain ⟨A3, k3, g3⟩ := own_form (hR9.own 3 (by decide))
             rw [g0] at x3
             rw [g1] at x4
             rw [g2] at x5
             rw [g3] at x6
             obtain ⟨⟨c0, cf0⟩, ⟨c1, cf1⟩, ⟨c2, cf2⟩, ⟨c3, cf3⟩, ⟨c4, cf4⟩, ⟨c5, cf5⟩, ⟨c6, cf6⟩, ⟨c7, cf7⟩, ⟨c8, cf8⟩, FE⟩ := store9 HFX.out (.string sn) (.int .i64 3) (.int .i64 (ln : Int)) (.slice A0 (T9.rows 0).length k0) (.slice A1 (T9.rows 1).length k1) (.slice A2 (T9.rows 2).length k2) (.slice A3 (T9.rows 3).length k3) (.int .i64 co) (.int .i64 rt)
             have HP9 := Lib.hid (And.intro hP9 hR9)
             have HFE := Lib.hid FE
             have HGG := Lib.hid (And.intro g0 (And.intro g1 (And.intro g2 g3)))
             clear hP9 hR9 FE g0 g1 g2 g3
             go_wp2
             obtain ⟨wz, hwz⟩ : ∃ wz, (((((((((w12.setCell ⟨q, 0, none⟩ (.string sn)).setCell ⟨q, 1, none⟩ (.int .i64 3)).setCell ⟨q, 2, none⟩ (.int .i64 (ln : Int))).setCell ⟨q, 3, none⟩ (.slice A0 (T9.rows 0).length k0)).setCell ⟨q, 4, none⟩ (.slice A1 (T9.rows 1).length k1)).setCell ⟨q, 5, none⟩ (.slice A2 (T9.rows 2).length k2)).setCell ⟨q, 6, none⟩ (.slice A3 (T9.rows 3).length k3)).setCell ⟨q, 7, none⟩ (.int .i64 co)).setCell ⟨q, 8, none⟩ (.int .i64 rt)) = wz := ⟨_, rfl⟩
             have hend := whole_end HP9.out.1 HP9.out.2 (HSX.out.had.imp fun nh z => z.1) HNX.out HGX.out (r := q) (base := u + 1) (by omega) hbq hmq hhq (by omega) (by omega) (.string sn) (.int .i64 3) (.int .i64 (ln : Int)) (.slice A0 (T9.rows 0).length k0) (.slice A1 (T9.rows 1).length k1) (.slice A2 (T9.rows 2).length k2) (.slice A3 (T9.rows 3).length k3) (.int .i64 co) (.int .i64 rt)
             have FE := HFE.out
             rw [hwz] at hend FE ⊢
             have q0 := FE.cell 0
             have q1 := FE.cell 1
             have q2 := FE.cell 2
             have q3 := FE.cell 3
             have q4 := FE.cell 4
             have q5 := FE.cell 5
             have q6 := FE.cell 6
             have q7 := FE.cell 7
             have q8 := FE.cell 8
             dsimp only [List.getElem?_cons_zero, List.getElem?_cons_succ] at q0 q1 q2 q3 q4 q5 q6 q7 q8
             refine bodyPost_ret (v := .agg #[.string sn, .int .i64 3, .int .i64 (ln : Int), .slice A0 (T9.rows 0).length k0, .slice A1 (T9.rows 1).length k1, .slice A2 (T9.rows 2).length k2, .slice A3 (T9.rows 3).length k3, .int .i64 co, .int .i64 rt]) (by simp [results, Tryz.results76, go_sem, q0, q1, q2, q3, q4, q5, q6, q7, q8]) rfl ?_
             refine ⟨vs9, ?_, (by rw [HCK.out]; exact hend.1), hend.2.1, hend.2.2.1, hend.2.2.2.1, hend.2.2.2.2⟩
             unfold tgtV
             rw [HV.out.1, HV.out.2.1, HV.out.2.2.1, HV.out.2.2.2.1, HV.out.2.2.2.2, HGG.out.1, HGG.out.2.1, HGG.out.2.2.1, HGG.out.2.2.2]
structure PI (b d bp bd : Nat) (R : List Value) (W : World) (x : Pst × Kn) : Prop where
 ps : PS W b x.1 R
 nm : ∃ n, Names W d n x.2 ∧ n + plen x.1 ≤ XL
 vp : Full W bp 84 [.pointer (some ⟨b, 0, none⟩)]
 vd : Full W bd 93 [.map (some d)]
def FPl (b d : Nat) : Nat → Prop := fun g => g = b ∨ g = d
theorem PI.keep {b d bp bd : Nat} {R : List Value} {W W' : World} {x : Pst × Kn} {F : Nat → Prop} (h : PI b d bp bd R W x) (ht : Turn F W W') (h1 : ¬ F b) (h2 : ¬ F d) (h3 : ¬ F bp) (h4 : ¬ F bd) : PI b d bp bd R W' x :=
 ⟨h.ps.farT ht h1, h.nm.imp fun _n z => ⟨z.1.far ht h2, z.2⟩, ht.far h.vp h3, ht.far h.vd h4⟩
theorem PI.on {b d bp bd : Nat} {R : List Value} {W W' : World} {x : Pst × Kn} (h : PI b d bp bd R W x) (hb : Below W.heap.size W W') : PI b d bp bd R W' x :=
 ⟨h.ps.on hb, h.nm.imp fun _n z => ⟨z.1.on hb, z.2⟩, h.vp.on hb, h.vd.on hb⟩
def itm0 : Itm := ⟨[], false, [], 0⟩
def pPlatI (x : Pst × Kn) : Itm × (Pst × Kn) :=
 if pAheadP x.1 then (match x.1 with
   | .ok (t :: r) => (⟨t.txt, false, [], t.ln⟩, (pOnce x.2 t (.ok r), kPut x.2 t.txt))
   | s => (itm0, (s, x.2)))
 else (itm0, (pRefuse x.1, x.2))
theorem pAheadP_yes {σ : Pst} (h : pAheadP σ = true) : ∃ t r, σ = .ok (t :: r) ∧ t.cls = 2 := by
 cases σ with
 | bad e l => simp [pAheadP] at h
 | ok ts =>
   cases ts with
   | nil => simp [pAheadP] at h
   | cons t r => exact ⟨t, r, rfl, by unfold pAheadP at h; simp at h; exact h.1⟩
theorem pPlatI_le (x : Pst × Kn) : plen (pPlatI x).2.1 ≤ plen x.1 := by
 unfold pPlatI
 split
 · rename_i h
   obtain ⟨t, r, e, _⟩ := pAheadP_yes h
   rw [e]
   have := pOnce_le x.2 t (.ok r)
   show plen (pOnce x.2 t (.ok r)) ≤ _
   simp [plen] at this ⊢
   omega
 · exact pRefuse_le _
def PlOut (b d bp bd : Nat) (R : List Value) (w : World) (r : Itm × (Pst × Kn)) (en : Ending) (w' : World) : Prop :=
 en = .returned (itmV r.1) ∧ PI b d bp bd R w' r.2 ∧ Turn (FPl b d) w w'
set_option maxHeartbeats 4000000 in
theorem plat_no {w : World} {b d bp bd : Nat} {R : List Value} {x : Pst × Kn} (h : PI b d bp bd R w x) (hdb : d ≠ b) (hpb : bp ≠ b) (hqb : bd ≠ b) (_hpd : bp ≠ d) (_hqd : bd ≠ d) (ha : pAheadP x.1 = false) :
   Calls Tryz.prog 113 #[.pointer (some ⟨bp, 0, none⟩), .pointer (some ⟨bd, 0, none⟩)] w (PlOut b d bp bd R w (itm0, (pRefuse x.1, x.2))) := by
 unfold PlOut
 obtain ⟨w1, hw1⟩ : ∃ w1, w.alloc (.cells #[.string ⟨#[]⟩, .bool false, .string ⟨#[]⟩, .int .i64 0] 52) = w1 := ⟨_, rfl⟩
 have hb1 : Below w.heap.size w w1 := by rw [← hw1]; exact (Below.refl _ w).alloc (Nat.le_refl _) _
 have F1 : Full w1 w.heap.size 52 [.string ⟨#[]⟩, .bool false, .string ⟨#[]⟩, .int .i64 0] := by rw [← hw1]; exact Full.new w 52 _
 have h1 := h.on hb1
 have AH := ahead_any h1.ps
 rw [ha] at AH
 have AH := Lib.hid AH
 have RF := Lib.hid (refuse_any h1.ps)
 unfold StOut at RF
 obtain ⟨r, hr⟩ : ∃ r, w.heap.size = r := ⟨_, rfl⟩
 have hbr : b < r := by rw [← hr]; exact h.ps.lt
 have hdr : d < r := by rw [← hr]; obtain ⟨n, z, _⟩ := h.nm; exact z.lt
 have hpr : bp < r := by rw [← hr]; exact h.vp.lt
 have hqr : bd < r := by rw [← hr]; exact h.vd.lt
 rw [hr] at F1
 have u1 : w1.cell? ⟨bp, 0, none⟩ = some (.pointer (some ⟨b, 0, none⟩)) := h1.vp.cell 0
 obtain ⟨σ', hσ⟩ : ∃ s, pRefuse x.1 = s := ⟨_, rfl⟩
 have hle : plen σ' ≤ plen x.1 := by rw [← hσ]; exact pRefuse_le _
 rw [hσ] at RF ⊢
 have HQ := Lib.hid (And.intro F1 (And.intro h1 (And.intro hb1 hle)))
 clear hσ h1 F1 hb1 h ha
 unfold itmV itm0
 dsimp only
 go_enter Tryz.func113, Tryz.ntmps113
 go_upto_region 3 with (first
   | (go_at_call 114; ((with_reducible refine AH.out.mono ?_); rintro en w2 ⟨rfl, rfl⟩))
   | (go_at_call 104; ((with_reducible refine RF.out.mono ?_); rintro en w3 ⟨rfl, hP3, hT3⟩; (have HP3 := Lib.hid hP3); (have HT3 := Lib.hid hT3); clear hP3 hT3))
   | (fail "arm"))
 have F3 := HT3.out.far HQ.out.1 (by omega)
 obtain ⟨⟨v0, v0f⟩, ⟨v1, v1f⟩, ⟨v2, v2f⟩, ⟨v3, v3f⟩, F6⟩ := store4 F3 (.string ⟨#[]⟩) (.bool false) (.string ⟨#[]⟩) (.int .i64 0)
 have hT6 : Turn (FPl b d) w ((((w3.setCell ⟨r, 0, none⟩ (.string ⟨#[]⟩)).setCell ⟨r, 1, none⟩ (.bool false)).setCell ⟨r, 2, none⟩ (.string ⟨#[]⟩)).setCell ⟨r, 3, none⟩ (.int .i64 0)) :=
   (Turn.trans_ (Turn.of HQ.out.2.2.1) (HT3.out.mono fun _ e => .inl e)).set4 (by omega) _ _ _ _
 have hT36 : Turn (fun g => g = r) w3 ((((w3.setCell ⟨r, 0, none⟩ (.string ⟨#[]⟩)).setCell ⟨r, 1, none⟩ (.bool false)).setCell ⟨r, 2, none⟩ (.string ⟨#[]⟩)).setCell ⟨r, 3, none⟩ (.int .i64 0)) :=
   ((((Turn.refl (fun g => g = r) w3).setb rfl 0 _).setb rfl 1 _).setb rfl 2 _).setb rfl 3 _
 have HF6 := Lib.hid F6
 have HT6 := Lib.hid hT6
 have HT36 := Lib.hid hT36
 clear hT6 hT36 F3
 go_wp2
 obtain ⟨w8, hw8⟩ : ∃ w8, (((w3.setCell ⟨r, 0, none⟩ (.string ⟨#[]⟩)).setCell ⟨r, 1, none⟩ (.bool false)).setCell ⟨r, 2, none⟩ (.string ⟨#[]⟩)).setCell ⟨r, 3, none⟩ (.int .i64 0) = w8 := ⟨_, rfl⟩
 have f6 := HF6.out
 have t6 := HT6.out
 have t36 := HT36.out
 rw [hw8] at f6 t6 t36 ⊢
 have q0 : w8.cell? ⟨r, 0, none⟩ = some (.string ⟨#[]⟩) := f6.cell 0
 have q1 : w8.cell? ⟨r, 1, none⟩ = some (.bool false) := f6.cell 1
 have q2 : w8.cell? ⟨r, 2, none⟩ = some (.string ⟨#[]⟩) := f6.cell 2
 have q3 : w8.cell? ⟨r, 3, none⟩ = some (.int .i64 0) := f6.cell 3
 refine bodyPost_ret (v := .agg #[.string ⟨#[]⟩, .bool false, .string ⟨#[]⟩, .int .i64 0]) (by simp [results, Tryz.results113, go_sem, q0, q1, q2, q3]) rfl ?_
 obtain ⟨n, hn1, hn2⟩ := HQ.out.2.1.nm
 have hq3 : PI b d bp bd R w3 (σ', x.2) := ⟨HP3.out, ⟨n, hn1.far HT3.out hdb, (by have := HQ.out.2.2.2; show n + plen σ' ≤ XL; omega)⟩, HT3.out.far HQ.out.2.1.vp hpb, HT3.out.far HQ.out.2.1.vd hqb⟩
 exact ⟨rfl, hq3.keep t36 (by omega) (by omega) (by omega) (by omega), t6⟩
set_option maxHeartbeats 4000000 in
theorem plat_yes {w : World} {b d bp bd : Nat} {R : List Value} {t : Tok} {ts : List Tok} {K : Kn} (h : PI b d bp bd R w (.ok (t :: ts), K)) (hdb : d ≠ b) (hpb : bp ≠ b) (hqb : bd ≠ b) (hpd : bp ≠ d) (hqd : bd ≠ d) (ha : pAheadP (.ok (t :: ts)) = true) (ht : t.cls = 2) :
   Calls Tryz.prog 113 #[.pointer (some ⟨bp, 0, none⟩), .pointer (some ⟨bd, 0, none⟩)] w (PlOut b d bp bd R w (⟨t.txt, false, [], t.ln⟩, (pOnce K t (.ok ts), kPut K t.txt))) := by
 unfold PlOut
 obtain ⟨w1, hw1⟩ : ∃ w1, w.alloc (.cells #[.string ⟨#[]⟩, .bool false, .string ⟨#[]⟩, .int .i64 0] 52) = w1 := ⟨_, rfl⟩
 have hb1 : Below w.heap.size w w1 := by rw [← hw1]; exact (Below.refl _ w).alloc (Nat.le_refl _) _
 have F1 : Full w1 w.heap.size 52 [.string ⟨#[]⟩, .bool false, .string ⟨#[]⟩, .int .i64 0] := by rw [← hw1]; exact Full.new w 52 _
 have h1 := h.on hb1
 have AH := ahead_any h1.ps
 rw [ha] at AH
 have AH := Lib.hid AH
 have AD := adv_any h1.ps (t := t) (r := ts) (by omega)
 have htl : t.txt.length ≤ 4294967000 := ((ps_tx h1.ps).2.2 t ts rfl).2
 obtain ⟨tx, htx⟩ : ∃ l, str t.txt = l := ⟨_, rfl⟩
 obtain ⟨tc, htc⟩ : ∃ l : Nat, t.cls = l := ⟨_, rfl⟩
 obtain ⟨l, hl⟩ : ∃ l : Nat, t.ln = l := ⟨_, rfl⟩
 unfold tokV at AD
 rw [htx, htc, hl] at AD
 have AD := Lib.hid AD
 obtain ⟨r, hr⟩ : ∃ r, w.heap.size = r := ⟨_, rfl⟩
 have hbr : b < r := by rw [← hr]; exact h.ps.lt
 have hdr : d < r := by rw [← hr]; obtain ⟨n, z, _⟩ := h.nm; exact z.lt
 have hpr : bp < r := by rw [← hr]; exact h.vp.lt
 have hqr : bd < r := by rw [← hr]; exact h.vd.lt
 rw [hr] at F1
 have u1 : w1.cell? ⟨bp, 0, none⟩ = some (.pointer (some ⟨b, 0, none⟩)) := h1.vp.cell 0
 obtain ⟨σ', hσ⟩ : ∃ s, pOnce K t (.ok ts) = s := ⟨_, rfl⟩
 have hle : plen σ' ≤ plen (.ok ts) := by rw [← hσ]; exact pOnce_le _ _ _
 have OC := Lib.hid (fun (W : World) (n : Nat) (hP : PS W b (.ok ts) R) (hN : Names W d n K) (hn : n < maxLen) => (by
   have z := once_any hP hN hdb hn t htl
   unfold OnceOut tokV at z
   rw [htx, htc, hl, hσ] at z
   exact z : Calls Tryz.prog 102 #[.pointer (some ⟨b, 0, none⟩), .map (some d), .agg #[.int .i64 (tc : Int), .string tx, .int .i64 (l : Int)]] W fun en w' => en = .returned (.tuple #[]) ∧ PS w' b σ' R ∧ Names w' d (n + 1) (kPut K t.txt) ∧ Turn (fun g => g = b ∨ g = d) W w'))
 rw [hσ]
 obtain ⟨K', hK⟩ : ∃ K', kPut K t.txt = K' := ⟨_, rfl⟩
 rw [hK] at OC ⊢
 unfold itmV
 dsimp only
 rw [htx, hl, show str [] = ⟨#[]⟩ from rfl]
 have HQ := Lib.hid (And.intro F1 (And.intro h1 (And.intro hb1 hle)))
 clear hσ h1 F1 hb1 h ha ht htl htx htc hl hK
 go_enter Tryz.func113, Tryz.ntmps113
 go_upto_region 5 with (first
   | (go_at_call 114; ((with_reducible refine AH.out.mono ?_); rintro en w2 ⟨rfl, rfl⟩))
   | (go_at_call 112; ((with_reducible refine AD.out.mono ?_); rintro en w3 ⟨rfl, hP3, hT3⟩; (have HP3 := Lib.hid hP3); (have HT3 := Lib.hid hT3); clear hP3 hT3))
   | (fail "arm"))
 obtain ⟨w4, hw4⟩ : ∃ w4, w3.alloc (.cells #[.int .i64 (tc : Int), .string tx, .int .i64 (l : Int)] 91) = w4 := ⟨_, rfl⟩
 have hb4 : Below w3.heap.size w3 w4 := by rw [← hw4]; exact (Below.refl _ w3).alloc (Nat.le_refl _) _
 have F4 : Full w4 w3.heap.size 91 [.int .i64 (tc : Int), .string tx, .int .i64 (l : Int)] := by rw [← hw4]; exact Full.new w3 91 _
 obtain ⟨u, hu⟩ : ∃ u, w3.heap.size = u := ⟨_, rfl⟩
 have Fr3 := HT3.out.far HQ.out.1 (by omega)
 have hru : r < u := by rw [← hu]; exact Fr3.lt
 have Fr4 := Fr3.on hb4
 have hP4 := HP3.out.on hb4
 rw [hu] at F4
 rw [hw4, hu]
 obtain ⟨n, hn1, hn2⟩ := HQ.out.2.1.nm
 have hN4 := (hn1.far HT3.out hdb).on hb4
 have V4 := (HT3.out.far HQ.out.2.1.vp hpb).on hb4
 have D4 := (HT3.out.far HQ.out.2.1.vd hqb).on hb4
 have hT4 : Turn (FPl b d) w w4 := (Turn.trans_ (Turn.of HQ.out.2.2.1) (HT3.out.mono fun _ e => .inl e)).trans_ (Turn.of hb4)
 have hn3 : n + 1 + plen (.ok ts) ≤ XL := by
   simp [plen] at hn2 ⊢
   omega
 have OC4 := Lib.hid (OC.out w4 n hP4 hN4 (by unfold XL at hn3; unfold maxLen; omega))
 have v1 : w4.cell? ⟨bp, 0, none⟩ = some (.pointer (some ⟨b, 0, none⟩)) := V4.cell 0
 have v2 : w4.cell? ⟨bd, 0, none⟩ = some (.map (some d)) := D4.cell 0
 have v3 : w4.cell? ⟨u, 0, none⟩ = some (.int .i64 (tc : Int)) := F4.cell 0
 have v4 : w4.cell? ⟨u, 1, none⟩ = some (.string tx) := F4.cell 1
 have v5 : w4.cell? ⟨u, 2, none⟩ = some (.int .i64 (l : Int)) := F4.cell 2
 have HQ4 := Lib.hid (And.intro F4 (And.intro Fr4 (And.intro V4 (And.intro D4 (And.intro hT4 hn3)))))
 clear hw4 hb4 F4 Fr3 Fr4 V4 D4 hT4 hN4 hP4 hn1 hn2 hn3 hw1 hu u1
 go_upto_region 6 with (first
   | (go_at_call 102; ((with_reducible refine OC4.out.mono ?_); rintro en w5 ⟨rfl, hP5, hN5, hT5⟩; (have HP5 := Lib.hid hP5); (have HN5 := Lib.hid hN5); (have HT5 := Lib.hid hT5); clear hP5 hN5 hT5))
   | (fail "arm"))
 have F5 := HT5.out.far HQ4.out.1 (by omega)
 have p1 : w5.cell? ⟨u, 1, none⟩ = some (.string tx) := F5.cell 1
 have p2 : w5.cell? ⟨u, 2, none⟩ = some (.int .i64 (l : Int)) := F5.cell 2
 have Fr5 := HT5.out.far HQ4.out.2.1 (by omega)
 obtain ⟨⟨y0, y0f⟩, ⟨y1, y1f⟩, ⟨y2, y2f⟩, ⟨y3, y3f⟩, F6⟩ := store4 Fr5 (.string tx) (.bool false) (.string ⟨#[]⟩) (.int .i64 (l : Int))
 have HF6 := Lib.hid F6
 have HT6 := Lib.hid ((HQ4.out.2.2.2.2.1.trans_ HT5.out).set4 (r := r) (by omega) (.string tx) (.bool false) (.string ⟨#[]⟩) (.int .i64 (l : Int)))
 have HT36 := Lib.hid (((((Turn.refl (fun g => g = r) w5).setb rfl 0 (.string tx)).setb rfl 1 (.bool false)).setb rfl 2 (.string ⟨#[]⟩)).setb rfl 3 (.int .i64 (l : Int)))
 have HV5 := Lib.hid (HT5.out.far HQ4.out.2.2.1 (by rintro (e | e); exact hpb e; exact hpd e))
 have HD5 := Lib.hid (HT5.out.far HQ4.out.2.2.2.1 (by rintro (e | e); exact hqb e; exact hqd e))
 clear F6 F5 Fr5
 go_wp2
 obtain ⟨w8, hw8⟩ : ∃ w8, (((w5.setCell ⟨r, 0, none⟩ (.string tx)).setCell ⟨r, 1, none⟩ (.bool false)).setCell ⟨r, 2, none⟩ (.string ⟨#[]⟩)).setCell ⟨r, 3, none⟩ (.int .i64 (l : Int)) = w8 := ⟨_, rfl⟩
 have f6 := HF6.out
 have t6 := HT6.out
 have t36 := HT36.out
 rw [hw8] at f6 t6 t36 ⊢
 have q0 : w8.cell? ⟨r, 0, none⟩ = some (.string tx) := f6.cell 0
 have q1 : w8.cell? ⟨r, 1, none⟩ = some (.bool false) := f6.cell 1
 have q2 : w8.cell? ⟨r, 2, none⟩ = some (.string ⟨#[]⟩) := f6.cell 2
 have q3 : w8.cell? ⟨r, 3, none⟩ = some (.int .i64 (l : Int)) := f6.cell 3
 refine bodyPost_ret (v := .agg #[.string tx, .bool false, .string ⟨#[]⟩, .int .i64 (l : Int)]) (by simp [results, Tryz.results113, go_sem, q0, q1, q2, q3]) rfl ?_
 have hq5 : PI b d bp bd R w5 (σ', K') := ⟨HP5.out, ⟨n + 1, HN5.out, (by have := HQ.out.2.2.2; have := HQ4.out.2.2.2.2.2; show n + 1 + plen σ' ≤ XL; omega)⟩, HV5.out, HD5.out⟩
 exact ⟨rfl, hq5.keep t36 (by omega) (by omega) (by omega) (by omega), t6⟩
theorem plat_any {w : World} {b d bp bd : Nat} {R : List Value} {x : Pst × Kn} (h : PI b d bp bd R w x) (hdb : d ≠ b) (hpb : bp ≠ b) (hqb : bd ≠ b) (hpd : bp ≠ d) (hqd : bd ≠ d) :
   Calls Tryz.prog 113 #[.pointer (some ⟨bp, 0, none⟩), .pointer (some ⟨bd, 0, none⟩)] w (PlOut b d bp bd R w (pPlatI x)) := by
 obtain ⟨σ, K⟩ := x
 cases ha : pAheadP σ with
 | false =>
   have := plat_no h hdb hpb hqb hpd hqd ha
   unfold pPlatI
   rw [if_neg (by rw [ha]; decide)]
   exact this
 | true =>
   obtain ⟨t, ts, rfl, ht⟩ := pAheadP_yes ha
   have := plat_yes h hdb hpb hqb hpd hqd ha ht
   unfold pPlatI
   rw [if_pos ha]
   exact this
def pPlats (σ : Pst) : List Itm × (Pst × Kn) :=
 pList pPlatI (fun x => ((pTake [44] x.1).1, ((pTake [44] x.1).2, x.2))) (fun x => (pExpect [59] x.1, x.2)) (fun x => plen x.1) (σ, fun _ => false)
theorem env_pl {b d bp bd B : Nat} (R : List Value) (hb : b < B) (hd : d < B) (hp : bp < B) (hq : bd < B) (hdb : d ≠ b) (hpb : bp ≠ b) (hqb : bd ≠ b) :
   LEnv (Pst × Kn) (PI b d bp bd R) (FPl b d) B b pPlatI (fun x => ((pTake [44] x.1).1, ((pTake [44] x.1).2, x.2))) (fun x => (pExpect [59] x.1, x.2)) (fun x => plen x.1) where
 lt := fun g e => by rcases e with e | e <;> omega
 on := fun W W' σ h ht => h.keep ht (by omega) (by omega) (by omega) (by omega)
 cT := fun W σ h => (take_any h.ps [44] (by decide)).mono fun en W' k => by
   obtain ⟨he, hP, hT⟩ := k
   have hl := pTake_le [44] σ.1
   exact ⟨he, ⟨hP, h.nm.imp fun n z => ⟨z.1.far hT hdb, by show n + plen (pTake [44] σ.1).2 ≤ XL; have := z.2; omega⟩, hT.far h.vp hpb, hT.far h.vd hqb⟩, hT.mono fun _ e => .inl e⟩
 cE := fun W σ h => (expect_any h.ps [59] (by decide)).mono fun en W' k => by
   obtain ⟨he, hP, hT⟩ := k
   have hl := pExpect_le [59] σ.1
   exact ⟨he, ⟨hP, h.nm.imp fun n z => ⟨z.1.far hT hdb, by show n + plen (pExpect [59] σ.1) ≤ XL; have := z.2; omega⟩, hT.far h.vp hpb, hT.far h.vd hqb⟩, hT.mono fun _ e => .inl e⟩
 bound := fun W σ h => by have := h.ps.plen_le; show plen σ.1 ≤ _; omega
 less := fun σ h => pTake_less [44] σ.1 h
 le := pPlatI_le
def PlsOut (w : World) (b : Nat) (r : List Itm × Pst) (R : List Value) (en : Ending) (w' : World) : Prop :=
 ∃ A c, en = .returned (.slice A r.1.length c) ∧ OwnI w' w.heap.size A c r.1 ∧ PS w' b r.2 R ∧ Turn (fun g => g = b) w w'
theorem plats_call {W : World} {b d bp bd : Nat} {σ : Pst} {R : List Value} {w : World} (h : PI b d bp bd R W (σ, fun _ => false)) (hdb : d ≠ b) (hpb : bp ≠ b) (hqb : bd ≠ b) (hpd : bp ≠ d) (hqd : bd ≠ d)
   (hw : Turn (fun g => g = b) w W) (hd : w.heap.size ≤ d) :
   Calls Tryz.prog 108 #[.pointer (some ⟨b, 0, none⟩), .func (.func 113) #[] #[.pointer (some ⟨bp, 0, none⟩), .pointer (some ⟨bd, 0, none⟩)]] W (PlsOut w b ((pPlats σ).1, (pPlats σ).2.1) R) := by
 obtain ⟨n, hn, _⟩ := h.nm
 refine (list_P (env_pl R h.ps.lt hn.lt h.vp.lt h.vd.lt hdb hpb hqb) (fun W σ h => plat_any h hdb hpb hqb hpd hqd) (Nat.le_refl _) h).mono ?_
 rintro en w' ⟨A, c, he, hO, hI, hT⟩
 exact ⟨A, c, he, own_base hO hw.size, hI.ps, hw.late hT fun g e => by rcases e with e | e; exact .inl e; exact .inr (by omega)⟩
set_option maxHeartbeats 4000000 in
theorem platforms_any {w : World} {b : Nat} {σ : Pst} {R : List Value} (h : PS w b σ R) : Calls Tryz.prog 75 #[.pointer (some ⟨b, 0, none⟩)] w (PlsOut w b ((pPlats σ).1, (pPlats σ).2.1) R) := by
 obtain ⟨w1, hw1⟩ : ∃ w1, w.alloc (.cells #[.pointer (some ⟨b, 0, none⟩)] 84) = w1 := ⟨_, rfl⟩
 have hb1 : Below w.heap.size w w1 := by rw [← hw1]; exact (Below.refl _ w).alloc (Nat.le_refl _) _
 have F1 : Full w1 w.heap.size 84 [.pointer (some ⟨b, 0, none⟩)] := by rw [← hw1]; exact Full.new w 84 _
 have s1 : w1.heap.size = w.heap.size + 1 := by rw [← hw1]; exact World.size_alloc _ _
 obtain ⟨w2, hw2⟩ : ∃ w2, w1.alloc (.map #[] 0) = w2 := ⟨_, rfl⟩
 have hb2 : Below w1.heap.size w1 w2 := by rw [← hw2]; exact (Below.refl _ w1).alloc (Nat.le_refl _) _
 have N2 : Names w2 w1.heap.size 0 (fun _ => false) := by rw [← hw2]; exact Names.made w1
 have s2 : w2.heap.size = w1.heap.size + 1 := by rw [← hw2]; exact World.size_alloc _ _
 obtain ⟨w3, hw3⟩ : ∃ w3, w2.alloc (.cells #[.map none] 93) = w3 := ⟨_, rfl⟩
 have hb3 : Below w2.heap.size w2 w3 := by rw [← hw3]; exact (Below.refl _ w2).alloc (Nat.le_refl _) _
 have F3 : Full w3 w2.heap.size 93 [.map none] := by rw [← hw3]; exact Full.new w2 93 _
 have hbw : b < w.heap.size := h.lt
 obtain ⟨p, hp⟩ : ∃ p, w.heap.size = p := ⟨_, rfl⟩
 obtain ⟨d, hd⟩ : ∃ d, w1.heap.size = d := ⟨_, rfl⟩
 obtain ⟨e, he⟩ : ∃ e, w2.heap.size = e := ⟨_, rfl⟩
 have P3 := ((h.on hb1).on hb2).on hb3
 have V3 := (F1.on hb2).on hb3
 have D3 := N2.on hb3
 rw [hp] at V3
 rw [hd] at D3
 rw [he] at F3
 have e1 := F3.cell 0
 have e2 := F3.frozen 0
 have hT4 : Turn (fun g => g = b) w (w3.setCell ⟨e, 0, none⟩ (.map (some d))) :=
   (((Turn.of (F := fun g => g = b) hb1).trans_ (Turn.of hb2)).trans_ (Turn.of hb3)).late (Turn.set_ (F := fun g => g = e) (a := ⟨e, 0, none⟩) rfl _) fun g q => .inr (by omega)
 have I4 : PI b d p e R (w3.setCell ⟨e, 0, none⟩ (.map (some d))) (σ, fun _ => false) := by
   have t := Turn.set_ (w := w3) (F := fun g => g = e) (a := ⟨e, 0, none⟩) rfl (.map (some d))
   refine ⟨P3.farT t (by omega), ⟨0, D3.far t (by omega), ?_⟩, t.far V3 (by omega), F3.set_ 0 _⟩
   have := h.plen_le
   show 0 + plen σ ≤ XL
   unfold XL
   omega
 have PC := Lib.hid (plats_call I4 (by omega) (by omega) (by omega) (by omega) (by omega) hT4 (by omega))
 have v4 := I4.vp.cell 0
 have v5 := I4.vd.cell 0
 dsimp only [List.getElem?_cons_zero] at v4 v5 e1
 obtain ⟨Q, hQ⟩ : ∃ Q, PlsOut w b ((pPlats σ).1, (pPlats σ).2.1) R = Q := ⟨_, rfl⟩
 rw [hQ] at PC ⊢
 have HQ := Lib.hid hQ
 clear s1 s2 P3 V3 D3 F3 hT4 I4 F1 N2 h hQ hb1 hb2 hb3
 have hmk : (Instr.makeMap 93 none).run Tryz.prog w1 = .ok (.map (some d)) w2 := by rw [run_makeMap, hd, hw2]
 go_enter Tryz.func75, Tryz.ntmps75
 go_upto_region 2 with fail
 go_wp2_with (first
   | (go_at_call 108; ((with_reducible refine PC.out.mono ?_); intro en w5 hq; rw [← HQ.out] at hq; obtain ⟨A, c, rfl, h5⟩ := hq; (have H5 := Lib.hid h5); clear h5))
   | (fail "arm"))
 rw [← HQ.out]
 exact ⟨A, c, rfl, H5.out⟩
def wTarget : List UInt8 := [116, 97, 114, 103, 101, 116]
def wPlats : List UInt8 := [112, 108, 97, 116, 102, 111, 114, 109, 115]
theorem info50 : (Tryz.prog.info? 50).map (fun i => (i.zero, i.size, i.bytes)) = some (some (.agg #[.string ⟨#[]⟩, .int .i64 0, .int .i64 0, .slice none 0 0, .slice none 0 0, .slice none 0 0, .slice none 0 0, .int .i64 0, .int .i64 0]), 9, 144) := by kernel_rfl
def pTgts : Nat → Nat → Kn → Pst → List Tgt × Pst
 | 0, _, _, σ => ([], σ)
 | f + 1, rl, K, .ok (t :: r) =>
   if t.txt = wTarget then
     ((pWhole t.ln rl K (.ok r)).2.1 :: (pTgts f (pWhole t.ln rl K (.ok r)).2.1.rl (pWhole t.ln rl K (.ok r)).2.2 (pWhole t.ln rl K (.ok r)).1).1,
       (pTgts f (pWhole t.ln rl K (.ok r)).2.1.rl (pWhole t.ln rl K (.ok r)).2.2 (pWhole t.ln rl K (.ok r)).1).2)
   else ([], .ok (t :: r))
 | _ + 1, _, _, σ => ([], σ)
def pHead (σ : Pst) : List Itm × Pst := if (pTake wPlats σ).1 then ((pPlats (pTake wPlats σ).2).1, (pPlats (pTake wPlats σ).2).2.1) else ([], (pTake wPlats σ).2)
theorem pAttrs_le : ∀ (f : Nat) (r : Pst × Tgt), plen (pAttrs f r).1 ≤ plen r.1
 | 0, r => Nat.le_refl _
 | f + 1, (σ, T) => by
   rw [pAttrs]
   split
   · rename_i h
     have := pAttr_less h
     exact Nat.le_trans (pAttrs_le f _) (Nat.le_of_lt this)
   · rename_i h
     cases hf : fnOf (pTx σ) with
     | none => rw [pAttr_no hf]; exact Nat.le_refl _
     | some n =>
       obtain ⟨t, r, rfl, _, e⟩ := pAttr_yes (T := T) hf
       rw [e] at h
       exact absurd rfl h
theorem pWhole_le (l rl : Nat) (K : Kn) (σ : Pst) : plen (pWhole l rl K σ).1 ≤ plen σ := by
 have h1 : plen (pBody l rl K σ).1 ≤ plen σ := by
   unfold pBody
   refine Nat.le_trans (pAttrs_le _ _) ?_
   exact Nat.le_trans (pExpect_le _ _) (Nat.le_trans (pOnce_le _ _ _) (pAny_le _ _))
 have h2 : plen (pCheck (pBody l rl K σ).2 (pExpect [125] (pBody l rl K σ).1)) ≤ plen (pExpect [125] (pBody l rl K σ).1) := by
   unfold pCheck
   split
   · exact pFail_le _ _ _
   · exact Nat.le_refl _
 exact Nat.le_trans h2 (Nat.le_trans (pExpect_le _ _) h1)
theorem pList_len_le {S : Type} (el : S → Itm × S) (tk : S → Bool × S) (ex : S → S) (len : S → Nat) (less : ∀ σ, (tk σ).1 = true → len (tk σ).2 < len σ) (le : ∀ σ, len (el σ).2 ≤ len σ) (tke : ∀ σ, len (tk σ).2 ≤ len σ) (exe : ∀ σ, len (ex σ) ≤ len σ) (σ : S) :
   (pList el tk ex len σ).1.length + len (pList el tk ex len σ).2 ≤ 1 + len σ := by
 have more : ∀ (f : Nat) (σ : S), (pMore el tk f σ).1.length + len (pMore el tk f σ).2 ≤ len σ := by
   intro f
   induction f with
   | zero => intro σ; simp [pMore]
   | succ f ih =>
     intro σ
     rw [pMore]
     split
     · rename_i h
       have h1 := less σ h
       have h2 := le (tk σ).2
       have h3 := ih (el (tk σ).2).2
       simp only [List.length_cons]
       omega
     · have := tke σ
       simp only [List.length_nil]
       omega
 unfold pList
 have h1 := more (len (el σ).2 + 1) (el σ).2
 have h2 := le σ
 have h3 := exe (pMore el tk (len (el σ).2 + 1) (el σ).2).2
 simp only [List.length_cons]
 omega
theorem pPlats_sum (σ : Pst) : (pPlats σ).1.length + plen (pPlats σ).2.1 ≤ 1 + plen σ :=
 pList_len_le pPlatI (fun x => ((pTake [44] x.1).1, ((pTake [44] x.1).2, x.2))) (fun x => (pExpect [59] x.1, x.2)) (fun x => plen x.1) (fun x h => pTake_less [44] x.1 h) pPlatI_le (fun x => pTake_le [44] x.1) (fun x => pExpect_le [59] x.1) (σ, fun _ => false)
def tgtC (p : Tgt × (Nat → Value)) : List Value := [.string (str p.1.name), .int .i64 p.1.kind, .int .i64 (p.1.line : Int), p.2 0, p.2 1, p.2 2, p.2 3, .int .i64 p.1.cost, .int .i64 p.1.retry]
def tgtsC (l : List (Tgt × (Nat → Value))) : List Value := l.flatMap tgtC
theorem tgtsC_snoc (l : List (Tgt × (Nat → Value))) (p : Tgt × (Nat → Value)) : tgtsC (l ++ [p]) = tgtsC l ++ tgtC p := by unfold tgtsC; rw [List.flatMap_append]; simp
def TG (w : World) (base : Nat) (p : Tgt × (Nat → Value)) : Prop := ∀ i, i < 4 → w.ownsRow base 52 4 (p.2 i) (p.1.rows i).length (itmsC (p.1.rows i))
theorem own_ty_ne {w : World} {b1 b2 e1 e2 s1 s2 n1 n2 : Nat} {v1 v2 : Value} {x1 x2 : List Value} (h1 : w.ownsRow b1 e1 s1 v1 n1 x1) (h2 : w.ownsRow b2 e2 s2 v2 n2 x2) (hne : e1 ≠ e2) : ∀ g, v1.ownBlock = some g → v2.ownBlock ≠ some g := by
 intro g q1 q2
 rcases h1.2 with ⟨rfl, _⟩ | ⟨g1, c1, cur1, rfl, _, k1, _⟩
 · cases q1
 · rcases h2.2 with ⟨rfl, _⟩ | ⟨g2, c2, cur2, rfl, _, k2, _⟩
   · cases q2
   · injection q1 with q1
     injection q2 with q2
     subst q1
     subst q2
     rw [k1] at k2
     injection k2 with k2
     injection k2 with _ k2
     exact hne k2
theorem TG.turn {F : Nat → Prop} {w w' : World} {base : Nat} {p : Tgt × (Nat → Value)} (h : TG w base p) (ht : Turn F w w') (hF : ∀ g, F g → g < base) : TG w' base p := fun i hi => own_turn (h i hi) ht hF
theorem TG.grown {w w' : World} {base b2 s2 n2 : Nat} {p : Tgt × (Nat → Value)} {v : Value} {xs : List Value} (h : TG w base p) (ho : w.ownsRow b2 50 s2 v n2 xs) (hg : w.grownBy w' v.ownBlock) : TG w' base p := fun i hi => own_far (h i hi) hg (own_ty_ne (h i hi) ho (by decide))
theorem own_off {w w' : World} {F : Nat → Prop} {base : Nat} {e : TypeId} {size n : Nat} {v : Value} {xs : List Value} (h : w.ownsRow base e size v n xs) (ht : Turn F w w') (hF : ∀ g, v.ownBlock = some g → ¬ F g) : w'.ownsRow base e size v n xs := by
 obtain ⟨h1, h2⟩ := h
 refine ⟨h1, h2.imp id ?_⟩
 rintro ⟨g, cap, cur, rfl, hb, hg', r⟩
 exact ⟨g, cap, cur, rfl, hb, (ht.block g (Array.getElem?_eq_some_iff.1 hg').1 (hF g rfl)).trans hg', r⟩
theorem own_full_ne {w : World} {g : Nat} {t : TypeId} {cs : List Value} {base : Nat} {e : TypeId} {size n : Nat} {v : Value} {xs : List Value} (h : w.ownsRow base e size v n xs) (f : Full w g t cs) (hne : t ≠ e) : ∀ k, v.ownBlock = some k → k ≠ g := fun k hk e' => by
 subst e'
 exact f.not_row h hne hk.symm
theorem tgt_append {w2 : World} {base n c : Nat} {A : Option Addr} {xs : List Value} (hO : w2.ownsRow base 50 9 (.slice A n c) n xs) (hn : n ≤ 8589934592) (hb : base ≤ w2.heap.size) (y0 y1 y2 y3 y4 y5 y6 y7 y8 : Value) (h1 : ∀ u ∈ [y0, y1, y2, y3, y4, y5, y6, y7, y8], u.oneCell' = true) :
   ∃ g3 c3 w3, (Builtin.append_ #[26, 26] 26 #[.slice A n c, .slice (some ⟨w2.heap.size, 0, none⟩) 1 1]).run Tryz.prog (w2.alloc (.cells #[y0, y1, y2, y3, y4, y5, y6, y7, y8] 50)) = .ok (.slice (some ⟨g3, 0, none⟩) (n + 1) c3) w3 ∧
     w3.ownsRow base 50 9 (.slice (some ⟨g3, 0, none⟩) (n + 1) c3) (n + 1) (xs ++ [y0, y1, y2, y3, y4, y5, y6, y7, y8]) ∧ (w2.alloc (.cells #[y0, y1, y2, y3, y4, y5, y6, y7, y8] 50)).grownBy w3 (Value.slice A n c).ownBlock := by
 obtain ⟨i0, hi, hz0, hz1, hz2⟩ := info_parts info50
 have hba : Below w2.heap.size w2 (w2.alloc (.cells #[y0, y1, y2, y3, y4, y5, y6, y7, y8] 50)) := (Below.refl _ w2).alloc (Nat.le_refl _) _
 obtain ⟨g3, c3, w3, hap, hown3, hgrow3, _, _⟩ := run_append_lies (P := Tryz.prog) (w2.alloc (.cells #[y0, y1, y2, y3, y4, y5, y6, y7, y8] 50)) 26 26 base 50 i0 _ 9 144 Tryz.underlying26 hi hz0 hz1 hz2 rfl (by decide) (.slice A n c) n xs (own_keep hO hba) ⟨w2.heap.size, 0, none⟩ 1 1 [y0, y1, y2, y3, y4, y5, y6, y7, y8] rfl (fun j u hj => by
   obtain ⟨ad, e, _, hc⟩ := ((Full.new w2 50 [y0, y1, y2, y3, y4, y5, y6, y7, y8]).row 9 1 rfl 1 (Nat.le_refl _)).2.2.2 j u hj
   injection e with e
   subst e
   exact hc) h1 (by decide) (by unfold maxLen; omega) (by omega) (Nat.le_trans hb hba.size) _ rfl
 exact ⟨g3, c3, w3, hap, hown3, hgrow3⟩
structure FS (w0 : World) (b a m hh q r : Nat) (Vp : Value) (pl : List Itm) (w : World) (σ : Pst) (K : Kn) (T : Tgt) (vs : Nat → Value) (l : List (Tgt × (Nat → Value))) (A : Option Addr) (n c : Nat) : Prop where
 ps : PS w b σ (tR a m hh T vs)
 nm : ∃ k, Names w m k K ∧ k + plen σ ≤ XL
 hd : ∃ k, Names w hh k T.had
 fq : Full w q 28 [Vp, .slice A n c]
 fr : Full w r 28 [.slice none 0 0, .slice none 0 0]
 tg : w.ownsRow w0.heap.size 50 9 (.slice A n c) n (tgtsC l)
 ln : n = l.length ∧ n + plen σ ≤ XL
 rows : ∀ p ∈ l, TG w w0.heap.size p
 pl : w.ownsRow w0.heap.size 52 4 Vp pl.length (itmsC pl)
 tn : Turn (GB b m hh) w0 w
structure FB (w0 : World) (b m hh q r : Nat) : Prop where
 lb : b < w0.heap.size
 lm : m < w0.heap.size
 lh : hh < w0.heap.size
 lq : w0.heap.size ≤ q
 lr : w0.heap.size ≤ r
 qr : q ≠ r
theorem FS.drew {w0 w : World} {b a m hh q r n c : Nat} {Vp : Value} {pl : List Itm} {σ : Pst} {K : Kn} {T : Tgt} {vs : Nat → Value} {l : List (Tgt × (Nat → Value))} {A : Option Addr} (h : FS w0 b a m hh q r Vp pl w σ K T vs l A n c) : FS w0 b a m hh q r Vp pl w.drew σ K T vs l A n c :=
 ⟨h.ps.drew, h.nm.imp fun _k z => ⟨z.1.keep rfl, z.2⟩, h.hd.imp fun _k z => z.keep rfl, h.fq, h.fr, own_turn h.tg (Turn.refl (fun _ => False) w).drew (fun _ e => e.elim), h.ln, fun p hp => (h.rows p hp).turn (Turn.refl (fun _ => False) w).drew (fun _ e => e.elim), own_turn h.pl (Turn.refl (fun _ => False) w).drew (fun _ e => e.elim), h.tn.drew⟩
theorem FS.grow {w0 w w2 : World} {b a m hh q r n c k : Nat} {Vp : Value} {pl : List Itm} {t : Tok} {ts : List Tok} {σ' : Pst} {K K' : Kn} {T T' : Tgt} {vs vs' : Nat → Value} {l : List (Tgt × (Nat → Value))} {A : Option Addr} (D : FB w0 b m hh q r)
   (h : FS w0 b a m hh q r Vp pl w (.ok (t :: ts)) K T vs l A n c) (hP : PS w2 b σ' (tR a m hh T' vs')) (hR : Rows4 w2 w.heap.size T'.rows vs') (hk : k + plen (.ok (t :: ts)) ≤ XL) (hN : Names w2 m (k + 1) K') (hH : ∃ nh, Names w2 hh nh T'.had) (hT : Turn (GB b m hh) w w2) (hle : plen σ' ≤ plen (.ok ts))
   (y0 y1 y2 y3 y4 y5 y6 y7 y8 : Value) (hy : tgtC (T', vs') = [y0, y1, y2, y3, y4, y5, y6, y7, y8]) :
   ∃ g3 c3 w3, (Builtin.append_ #[26, 26] 26 #[.slice A n c, .slice (some ⟨w2.heap.size, 0, none⟩) 1 1]).run Tryz.prog (w2.alloc (.cells #[y0, y1, y2, y3, y4, y5, y6, y7, y8] 50)) = .ok (.slice (some ⟨g3, 0, none⟩) (n + 1) c3) w3 ∧
     (w3.cell? ⟨q, 1, none⟩ = some (.slice A n c) ∧ w3.frozen? ⟨q, 1, none⟩ = false) ∧
     FS w0 b a m hh q r Vp pl (w3.setCell ⟨q, 1, none⟩ (.slice (some ⟨g3, 0, none⟩) (n + 1) c3)) σ' K' T' vs' (l ++ [(T', vs')]) (some ⟨g3, 0, none⟩) (n + 1) c3 := by
 have hB := h.tn.size
 have hB2 : w0.heap.size ≤ w2.heap.size := Nat.le_trans hB hT.size
 have hfar : ∀ g, GB b m hh g → g < w0.heap.size := fun g e => by
   rcases e with e | e | e
   · rw [e]; exact D.lb
   · rw [e]; exact D.lh
   · rw [e]; exact D.lm
 have hlen : plen (.ok (t :: ts)) = plen (.ok ts) + 1 := by simp [plen]
 have hO2 := own_turn h.tg hT hfar
 have hln := h.ln
 obtain ⟨g3, c3, w3, hap, hO3, hG⟩ := tgt_append hO2 (by have := hln.2; unfold XL at this; omega) hB2 y0 y1 y2 y3 y4 y5 y6 y7 y8 (by
   rw [← hy]
   intro u hu
   simp [tgtC] at hu
   rcases hu with rfl | rfl | rfl | rfl | rfl | rfl | rfl | rfl | rfl
   · rfl
   · rfl
   · rfl
   · obtain ⟨_, _, e⟩ := own_form (hR.own 0 (by decide)); rw [e]; rfl
   · obtain ⟨_, _, e⟩ := own_form (hR.own 1 (by decide)); rw [e]; rfl
   · obtain ⟨_, _, e⟩ := own_form (hR.own 2 (by decide)); rw [e]; rfl
   · obtain ⟨_, _, e⟩ := own_form (hR.own 3 (by decide)); rw [e]; rfl
   · rfl
   · rfl)
 refine ⟨g3, c3, w3, hap, ?_⟩
 have hba : Below w2.heap.size w2 (w2.alloc (.cells #[y0, y1, y2, y3, y4, y5, y6, y7, y8] 50)) := (Below.refl _ w2).alloc (Nat.le_refl _) _
 obtain ⟨wa, hwa⟩ : ∃ wa, w2.alloc (.cells #[y0, y1, y2, y3, y4, y5, y6, y7, y8] 50) = wa := ⟨_, rfl⟩
 rw [hwa] at hba hG
 have hOa := own_keep hO2 hba
 have hrow : ∀ g, (Value.slice A n c).ownBlock = some g → w0.heap.size ≤ g := row_ge hOa
 have fq2 := ((hT.far h.fq (fun e => by have := hfar _ e; have := D.lq; omega)).on hba)
 have fr2 := ((hT.far h.fr (fun e => by have := hfar _ e; have := D.lr; omega)).on hba)
 have fq3 := fq2.grown hG (fq2.not_row hOa (by decide))
 have fr3 := fr2.grown hG (fr2.not_row hOa (by decide))
 have hTg : Turn (fun g => w0.heap.size ≤ g) wa w3 := Turn.grown hG fun g e => .inl (hrow g e)
 have hTs : Turn (fun g => g = q) w3 (w3.setCell ⟨q, 1, none⟩ (.slice (some ⟨g3, 0, none⟩) (n + 1) c3)) := Turn.set_ (F := fun g => g = q) (a := ⟨q, 1, none⟩) rfl _
 have hrow2 : ∀ p, TG wa w0.heap.size p → TG (w3.setCell ⟨q, 1, none⟩ (.slice (some ⟨g3, 0, none⟩) (n + 1) c3)) w0.heap.size p := fun p hp i hi => by
   have z := hp.grown hOa hG
   exact own_off (z i hi) hTs (own_full_ne (z i hi) fq3 (by decide))
 refine ⟨⟨fq3.cell 1, fq3.frozen 1⟩, ⟨?_, ?_, ?_, fq3.set_ 1 _, fr3.far (p := ⟨q, 1, none⟩) (fun e => D.qr e.symm) _, ?_, ?_, ?_, ?_, ?_⟩⟩
 · exact ((hP.on hba).farT hTg (by have := D.lb; omega)).farT hTs (by have := D.lb; have := D.lq; omega)
 · exact ⟨k + 1, ((hN.on hba).far hTg (by have := D.lm; omega)).far hTs (by have := D.lm; have := D.lq; omega), by omega⟩
 · exact hH.imp fun nh z => ((z.on hba).far hTg (by have := D.lh; omega)).far hTs (by have := D.lh; have := D.lq; omega)
 · rw [tgtsC_snoc, hy]
   exact own_off hO3 hTs (own_full_ne hO3 fq3 (by decide))
 · rw [List.length_append]
   exact ⟨by rw [hln.1]; rfl, by have := hln.2; omega⟩
 · intro p hp
   rcases List.mem_append.1 hp with hp | hp
   · exact hrow2 p (fun i hi => own_keep (own_turn (h.rows p hp i hi) hT hfar) hba)
   · obtain rfl : p = (T', vs') := by simpa using hp
     exact hrow2 _ (fun i hi => own_keep (own_base (hR.own i hi) hB) hba)
 · have z := own_far (own_keep (own_turn h.pl hT hfar) hba) hG (own_ty_ne (own_keep (own_turn h.pl hT hfar) hba) hOa (by decide))
   exact own_off z hTs (own_full_ne z fq3 (by decide))
 · exact (((h.tn.trans_ hT).trans_ (Turn.of hba)).late hTg (fun g e => .inr e)).late hTs fun g e => .inr (by rw [e]; exact D.lq)
theorem tgts_yes {f rl : Nat} {K : Kn} {t : Tok} {ts : List Tok} (h : t.txt = wTarget) : pTgts (f + 1) rl K (.ok (t :: ts)) =
   ((pWhole t.ln rl K (.ok ts)).2.1 :: (pTgts f (pWhole t.ln rl K (.ok ts)).2.1.rl (pWhole t.ln rl K (.ok ts)).2.2 (pWhole t.ln rl K (.ok ts)).1).1,
       (pTgts f (pWhole t.ln rl K (.ok ts)).2.1.rl (pWhole t.ln rl K (.ok ts)).2.2 (pWhole t.ln rl K (.ok ts)).1).2) := by
 rw [pTgts, if_pos h]
theorem tgts_no {f rl : Nat} {K : Kn} {σ : Pst} (h : pTx σ ≠ wTarget) : pTgts (f + 1) rl K σ = ([], σ) := by
 cases σ with
 | bad e l => rfl
 | ok ts =>
   cases ts with
   | nil => rfl
   | cons t r => rw [pTgts, if_neg (show ¬ t.txt = wTarget from h)]
theorem ok_of_tx {σ : Pst} (h : pTx σ = wTarget) : ∃ t ts, σ = .ok (t :: ts) ∧ t.txt = wTarget := by
 cases σ with
 | bad e l => exact absurd (show ([] : List UInt8) = wTarget from h) (by decide)
 | ok ts =>
   cases ts with
   | nil => exact absurd (show ([] : List UInt8) = wTarget from h) (by decide)
   | cons t r => exact ⟨t, r, rfl, h⟩
def BuildAt (w : World) (base : Nat) (v : Value) (pl : List Itm) (L : List Tgt) : Prop :=
 ∃ Vp A n c tl, v = .agg #[Vp, .slice A n c] ∧ w.ownsRow base 50 9 (.slice A n c) n (tgtsC tl) ∧ n = tl.length ∧ tl.map Prod.fst = L ∧ (∀ p ∈ tl, TG w base p) ∧ w.ownsRow base 52 4 Vp pl.length (itmsC pl)
def FileOut (w : World) (b m hh : Nat) (pl : List Itm) (L : List Tgt) (σ2 : Pst) (en : Ending) (w' : World) : Prop :=
 ∃ v σe R, en = .returned v ∧ BuildAt w' w.heap.size v pl L ∧ pEnd σ2 σe ∧ PS w' b σe R ∧ Turn (GB b m hh) w w'
theorem FS.start {w w2 : World} {b a m hh q r k : Nat} {σ : Pst} {K : Kn} {T : Tgt} {vs : Nat → Value} (hP : PS w2 b σ (tR a m hh T vs)) (hN : Names w2 m k K) (hk : k + plen σ ≤ XL) (hH : ∃ kh, Names w2 hh kh T.had)
   (hq : Full w2 q 28 [.slice none 0 0, .slice none 0 0]) (hr : Full w2 r 28 [.slice none 0 0, .slice none 0 0]) (ht : Turn (GB b m hh) w w2) (hl : plen σ ≤ XL) : FS w b a m hh q r (.slice none 0 0) [] w2 σ K T vs [] none 0 0 :=
 ⟨hP, ⟨k, hN, hk⟩, hH, hq, hr, ⟨rfl, .inl ⟨rfl, rfl⟩⟩, ⟨rfl, by omega⟩, fun p hp => (by cases hp), ⟨rfl, .inl ⟨rfl, rfl⟩⟩, ht⟩
theorem FS.plats {w0 w w2 : World} {b a m hh q r : Nat} {σ σ' : Pst} {K : Kn} {T : Tgt} {vs : Nat → Value} (D : FB w0 b m hh q r) (hmb : m ≠ b) (hhb : hh ≠ b) (h : FS w0 b a m hh q r (.slice none 0 0) [] w σ K T vs [] none 0 0) {A : Option Addr} {n c : Nat} {pl : List Itm} (hO : w2.ownsRow w0.heap.size 52 4 (.slice A n c) pl.length (itmsC pl)) (hP : PS w2 b σ' (tR a m hh T vs)) (hT : Turn (fun g => g = b) w w2) (hle : plen σ' ≤ plen σ) :
   (w2.cell? ⟨q, 0, none⟩ = some (.slice none 0 0) ∧ w2.frozen? ⟨q, 0, none⟩ = false) ∧ FS w0 b a m hh q r (.slice A n c) pl (w2.setCell ⟨q, 0, none⟩ (.slice A n c)) σ' K T vs [] none 0 0 := by
 have fq2 := hT.far h.fq (by have := D.lb; have := D.lq; omega)
 have fr2 := hT.far h.fr (by have := D.lb; have := D.lr; omega)
 have hTs : Turn (fun g => g = q) w2 (w2.setCell ⟨q, 0, none⟩ (.slice A n c)) := Turn.set_ (F := fun g => g = q) (a := ⟨q, 0, none⟩) rfl _
 refine ⟨⟨fq2.cell 0, fq2.frozen 0⟩, ⟨hP.farT hTs (by have := D.lb; have := D.lq; omega), ?_, ?_, fq2.set_ 0 _, fr2.far (p := ⟨q, 0, none⟩) (fun e => D.qr e.symm) _, ⟨rfl, .inl ⟨rfl, rfl⟩⟩, ⟨rfl, by have := h.ln.2; omega⟩, fun p hp => (by cases hp), own_off hO hTs (own_full_ne hO fq2 (by decide)), ?_⟩⟩
 · exact h.nm.imp fun k z => ⟨(z.1.far hT (fun e => hmb e)).far hTs (by have := D.lm; have := D.lq; omega), by have := z.2; omega⟩
 · exact h.hd.imp fun k z => (z.far hT (fun e => hhb e)).far hTs (by have := D.lh; have := D.lq; omega)
 · exact (h.tn.trans_ (hT.mono fun _ e => .inl e)).late hTs fun g e => .inr (by rw [e]; exact D.lq)
theorem FS.end_ {w0 w w2 : World} {b a m hh q r n c : Nat} {Vp : Value} {pl : List Itm} {σ σe : Pst} {K : Kn} {T : Tgt} {vs : Nat → Value} {l : List (Tgt × (Nat → Value))} {A : Option Addr} {L : List Tgt} (D : FB w0 b m hh q r) (h : FS w0 b a m hh q r Vp pl w σ K T vs l A n c)
   (hP : PS w2 b σe (tR a m hh T vs)) (hE : pEnd σ σe) (hT : Turn (fun g => g = b) w w2) (hL : l.map Prod.fst = L) :
   (w2.cell? ⟨q, 0, none⟩ = some Vp ∧ w2.cell? ⟨q, 1, none⟩ = some (.slice A n c)) ∧ (w2.cell? ⟨r, 0, none⟩ = some (.slice none 0 0) ∧ w2.frozen? ⟨r, 0, none⟩ = false) ∧
   ((w2.setCell ⟨r, 0, none⟩ Vp).cell? ⟨r, 1, none⟩ = some (.slice none 0 0) ∧ (w2.setCell ⟨r, 0, none⟩ Vp).frozen? ⟨r, 1, none⟩ = false) ∧
   Full ((w2.setCell ⟨r, 0, none⟩ Vp).setCell ⟨r, 1, none⟩ (.slice A n c)) r 28 [Vp, .slice A n c] ∧
   FileOut w0 b m hh pl L σ (.returned (.agg #[Vp, .slice A n c])) ((w2.setCell ⟨r, 0, none⟩ Vp).setCell ⟨r, 1, none⟩ (.slice A n c)) := by
 have fq2 := hT.far h.fq (by have := D.lb; have := D.lq; omega)
 have fr2 := hT.far h.fr (by have := D.lb; have := D.lr; omega)
 have hTs : Turn (fun g => g = r) w2 ((w2.setCell ⟨r, 0, none⟩ Vp).setCell ⟨r, 1, none⟩ (.slice A n c)) := ((Turn.refl (fun g => g = r) w2).setb rfl 0 Vp).setb rfl 1 (.slice A n c)
 have hlt : ∀ g, (fun g => g = b) g → g < w0.heap.size := fun g e => by rw [e]; exact D.lb
 refine ⟨⟨fq2.cell 0, fq2.cell 1⟩, ⟨fr2.cell 0, fr2.frozen 0⟩, ⟨(fr2.set_ 0 Vp).cell 1, (fr2.set_ 0 Vp).frozen 1⟩, (fr2.set_ 0 Vp).set_ 1 _, ⟨_, σe, _, rfl, ⟨Vp, A, n, c, l, rfl, ?_, h.ln.1, hL, ?_, ?_⟩, hE, hP.farT hTs (by have := D.lb; have := D.lr; omega), ?_⟩⟩
 · have z := own_turn h.tg hT hlt
   exact own_off z hTs (own_full_ne z fr2 (by decide))
 · intro p hp i hi
   have z := own_turn (h.rows p hp i hi) hT hlt
   exact own_off z hTs (own_full_ne z fr2 (by decide))
 · have z := own_turn h.pl hT hlt
   exact own_off z hTs (own_full_ne z fr2 (by decide))
 · exact (h.tn.trans_ (hT.mono fun _ e => .inl e)).late hTs fun g e => .inr (by rw [e]; exact D.lr)
set_option maxHeartbeats 8000000 in
theorem file_any {w : World} {b a m hh kh : Nat} {σ : Pst} {T0 : Tgt} {vs0 : Nat → Value} (h : PS w b σ (tR a m hh T0 vs0)) (hN : Names w m 0 (fun _ => false)) (hH : Names w hh kh T0.had) (hA : Attrs w a b) (hL : Laid w)
   (hb9 : 9 ≤ b) (hh9 : 9 ≤ hh) (hm9 : 9 ≤ m) (hmb : m ≠ b) (hmh : m ≠ hh) (hne : hh ≠ b) (hab : a ≠ b) (hah : a ≠ hh) (ham : a ≠ m) :
   Calls Tryz.prog 43 #[.pointer (some ⟨b, 0, none⟩)] w (FileOut w b m hh (pHead σ).1 (pTgts (plen (pHead σ).2 + 1) T0.rl (fun _ => false) (pHead σ).2).1 (pTgts (plen (pHead σ).2 + 1) T0.rl (fun _ => false) (pHead σ).2).2) := by
 obtain ⟨σ1, h1⟩ : ∃ x, (pHead σ).2 = x := ⟨_, rfl⟩
 obtain ⟨pl, hpl⟩ : ∃ x, (pHead σ).1 = x := ⟨_, rfl⟩
 rw [h1, hpl]
 obtain ⟨L, hLL⟩ : ∃ x, (pTgts (plen σ1 + 1) T0.rl (fun _ => false) σ1).1 = x := ⟨_, rfl⟩
 obtain ⟨σ2, h2⟩ : ∃ x, (pTgts (plen σ1 + 1) T0.rl (fun _ => false) σ1).2 = x := ⟨_, rfl⟩
 rw [hLL, h2]
 obtain ⟨w1, hw1⟩ : ∃ w1, w.alloc (.cells #[.slice none 0 0, .slice none 0 0] 28) = w1 := ⟨_, rfl⟩
 have hb1 : Below w.heap.size w w1 := by rw [← hw1]; exact (Below.refl _ w).alloc (Nat.le_refl _) _
 have F1 : Full w1 w.heap.size 28 [.slice none 0 0, .slice none 0 0] := by rw [← hw1]; exact Full.new w 28 _
 have s1 : w1.heap.size = w.heap.size + 1 := by rw [← hw1]; exact World.size_alloc _ _
 obtain ⟨w2, hw2⟩ : ∃ w2, w1.alloc (.cells #[.slice none 0 0, .slice none 0 0] 28) = w2 := ⟨_, rfl⟩
 have hb2 : Below w1.heap.size w1 w2 := by rw [← hw2]; exact (Below.refl _ w1).alloc (Nat.le_refl _) _
 have F2 : Full w2 w1.heap.size 28 [.slice none 0 0, .slice none 0 0] := by rw [← hw2]; exact Full.new w1 28 _
 have F12 := F1.on hb2
 obtain ⟨r, hr⟩ : ∃ r, w.heap.size = r := ⟨_, rfl⟩
 obtain ⟨q, hq⟩ : ∃ q, w1.heap.size = q := ⟨_, rfl⟩
 rw [hq] at F2
 have D : FB w b m hh q r := ⟨h.lt, hN.lt, hH.lt, by omega, by omega, by omega⟩
 rw [hr] at F12
 have hpl0 : plen σ ≤ XL := by have := h.plen_le; unfold XL; omega
 have S2 : FS w b a m hh q r (.slice none 0 0) [] w2 σ (fun _ => false) T0 vs0 [] none 0 0 :=
   FS.start ((h.on hb1).on hb2) ((hN.on hb1).on hb2) (by omega) ⟨kh, (hH.on hb1).on hb2⟩ F2 F12 ((Turn.of hb1).trans_ (Turn.of hb2)) hpl0
 have HA := Lib.hid (fun (W : World) (g : Turn (GB b m hh) w W) => hA.far g (fun e => by rcases e with e | e | e; exact hab e; exact hah e; exact ham e))
 have HLa := Lib.hid (fun (W : World) (g : Turn (GB b m hh) w W) => hL.turn g (fun g e => by rcases e with e | e | e <;> omega))
 have TK := take_any S2.ps wPlats (by decide)
 unfold TakeOut at TK
 have HE := Lib.hid (And.intro hLL h2)
 have HD := Lib.hid D
 have HS2 := Lib.hid S2
 have LOOP : ∀ (x6 x7 x8 : Value) (W : World) (Vp : Value), True := fun _ _ _ _ _ => trivial
 clear LOOP
 have hle1 : plen (pTake wPlats σ).2 ≤ plen σ := pTake_le _ _
 cases htk : (pTake wPlats σ).1 with
 | true =>
   rw [htk] at TK
   have e1 : pHead σ = ((pPlats (pTake wPlats σ).2).1, (pPlats (pTake wPlats σ).2).2.1) := by unfold pHead; rw [if_pos htk]
   rw [e1] at h1 hpl
   obtain ⟨σ0, h0⟩ : ∃ x, (pTake wPlats σ).2 = x := ⟨_, rfl⟩
   rw [h0] at TK h1 hpl hle1
   dsimp only at h1 hpl
   have hs0 := pPlats_sum σ0
   rw [hpl, h1] at hs0
   have PL := Lib.hid (fun (W : World) (hP : PS W b σ0 (tR a m hh T0 vs0)) => (by
     have z := platforms_any hP
     unfold PlsOut at z
     rw [hpl, h1] at z
     exact z : Calls Tryz.prog 75 #[.pointer (some ⟨b, 0, none⟩)] W fun en w' => ∃ A c, en = .returned (.slice A pl.length c) ∧ OwnI w' W.heap.size A c pl ∧ PS w' b σ1 (tR a m hh T0 vs0) ∧ Turn (fun g => g = b) W w'))
   have TK := Lib.hid (show Calls Tryz.prog 74 #[.pointer (some ⟨b, 0, none⟩), .string ⟨#[112, 108, 97, 116, 102, 111, 114, 109, 115]⟩] w2 _ from TK)
   have hle2 := Lib.hid (show plen σ1 ≤ plen σ by
     have z := pPlats_sum σ0
     have z2 := pTake_less wPlats σ htk
     rw [h0] at z2
     rw [h1, hpl] at z
     omega)
   obtain ⟨np, hnp⟩ : ∃ k, pl.length = k := ⟨_, rfl⟩
   rw [hnp] at PL
   have HNP := Lib.hid hnp
   clear hnp e1 h1 hpl h0 htk hs0 hle1 S2 D h hN hH hA hL hLL h2 F1 F2 F12 hb1 hb2 s1 hpl0
   go_enter Tryz.func43, Tryz.ntmps43
   go_upto_region 3 with (first
     | (go_at_call 74; ((with_reducible refine TK.out.mono ?_); rintro en w5 ⟨rfl, hP5, hT5⟩; (have HP5 := Lib.hid hP5); (have HT5 := Lib.hid hT5); clear hP5 hT5))
     | (fail "arm"))
   go_upto_region 4 with (first
     | (go_at_call 75; ((with_reducible refine (PL.out w5 HP5.out).mono ?_); rintro en w6 ⟨Ap, cp, rfl, hO6, hP6, hT6⟩; (obtain ⟨⟨z1, z2⟩, hFS⟩ := FS.plats HD.out hmb hne HS2.out (A := Ap) (n := np) (c := cp) (pl := pl) (by have q1 := own_base hO6 (Nat.le_trans HS2.out.tn.size HT5.out.size); rw [HNP.out] at q1 ⊢; exact q1) hP6 (HT5.out.trans_ hT6) hle2.out); (have HFS := Lib.hid hFS); clear hFS hO6 hP6 hT6))
     | (fail "arm"))
   go_loopw [14] (fun _ wr => ∃ (f : Nat) (σ' : Pst) (K' : Kn) (T : Tgt) (vs : Nat → Value) (l : List (Tgt × (Nat → Value))) (A : Option Addr) (n c : Nat), Hid (plen σ' < f) ∧ Hid (l.map Prod.fst ++ (pTgts f T.rl K' σ').1 = L) ∧ Hid ((pTgts f T.rl K' σ').2 = σ2) ∧ Hid (FS w b a m hh q r (.slice Ap np cp) pl wr σ' K' T vs l A n c)) (fun _ wr => wlen b wr)
   case atStart => exact ⟨plen σ1 + 1, σ1, fun _ => false, T0, vs0, [], none, 0, 0, Lib.hid (Nat.lt_succ_self _), Lib.hid HE.out.1, Lib.hid HE.out.2, HFS⟩
   case round =>
     obtain ⟨f, σ', K', T, vs, l, A, n, c, Hf, HL, HS, HF⟩ := hrel
     obtain ⟨f, rfl⟩ : ∃ k, f = k + 1 := ⟨f - 1, by have := Hf.out; omega⟩
     clear HFS
     have k3 := (ps_tx HF.out.ps).1
     by_cases htx : pTx σ' = wTarget
     · obtain ⟨t, ts, rfl, ht⟩ := ok_of_tx htx
       have hL := HL.out
       have h2 := HS.out
       rw [tgts_yes ht] at hL h2
       have tok := (ps_tx HF.out.ps).2.2 t ts rfl
       have hcls : 2 ≤ t.cls := by
         have e0 := tok.1
         rw [ht] at e0
         have e : first wTarget = (2, 6) := by decide
         rw [e] at e0
         injection e0 with e1 _
         omega
       obtain ⟨k, hk1, hk2⟩ := HF.out.nm
       obtain ⟨kh, hkh⟩ := HF.out.hd
       have WH := whole_any HF.out.drew.ps (n := k) (nh := kh) (hk1.keep rfl : Names wr.drew m k K') (hkh.keep rfl : Names wr.drew hh kh T.had) (HA.out wr.drew HF.out.tn.drew) (HLa.out wr.drew HF.out.tn.drew) hb9 hh9 hm9 hmb hmh hne hab hah ham (by unfold XL at hk2; unfold maxLen; omega) hcls
       have hle7 := pWhole_le t.ln T.rl K' (.ok ts)
       obtain ⟨⟨σ7, T7, K7⟩, e7⟩ : ∃ x, pWhole t.ln T.rl K' (.ok ts) = x := ⟨_, rfl⟩
       rw [e7] at WH hL h2 hle7
       dsimp only at hL h2 hle7
       unfold WholeOut tgtV at WH
       dsimp only at WH
       have heq : ((str (pTx (.ok (t :: ts)))).toList == [116, 97, 114, 103, 101, 116]) = true := by rw [htx, Lib.toList_data, str_data]; decide
       obtain ⟨X, hX⟩ : ∃ X, str (pTx (.ok (t :: ts))) = X := ⟨_, rfl⟩
       rw [hX] at heq k3
       have u1 : wr.drew.cell? ⟨q, 1, none⟩ = some (.slice A n c) := HF.out.fq.cell 1
       have HWH := Lib.hid WH
       have HL2 := Lib.hid (And.intro hL (And.intro h2 (And.intro hle7 hk2)))
       obtain ⟨x0, hx0⟩ : ∃ x, str T7.name = x := ⟨_, rfl⟩
       rw [hx0] at HWH
       have HX0 := Lib.hid hx0
       have HGR := Lib.hid (fun (w2 : World) (vs' : Nat → Value) (hP : PS w2 b σ7 (tR a m hh T7 vs')) (hR : Rows4 w2 wr.drew.heap.size T7.rows vs') (hN : Names w2 m (k + 1) K7) (hH : ∃ nh, Names w2 hh nh T7.had) (hT : Turn (GB b m hh) wr.drew w2) => FS.grow (t := t) (ts := ts) HD.out HF.out.drew hP hR hk2 hN hH hT hle7)
       have HFQ := Lib.hid (fun (w2 : World) (hT : Turn (GB b m hh) wr.drew w2) => hT.far HF.out.drew.fq (fun e => by have := HD.out.lb; have := HD.out.lm; have := HD.out.lh; have := HD.out.lq; rcases e with e | e | e <;> omega))
       clear hX htx ht hL h2 tok hcls hk1 hk2 hkh WH hle7 e7 hx0 HL HS
       go_upto_region 5 with fail
       go_region_law (first
         | (refine step_call_fn rfl 76 _ _ rfl #[.pointer (some ⟨b, 0, none⟩)] (by rfl) (enters_of Tryz.func76 (by kernel_rfl) rfl) HWH.out ?_; rintro en w8 ⟨vs7, rfl, hP8, hR8, hN8, hH8, hT8⟩; refine ⟨_, rfl, ?_⟩; (obtain ⟨A0, k0, g0⟩ := own_form (hR8.own 0 (by decide))); (obtain ⟨A1, k1, g1⟩ := own_form (hR8.own 1 (by decide))); (obtain ⟨A2, k2, g2⟩ := own_form (hR8.own 2 (by decide))); (obtain ⟨A3, k4, g3⟩ := own_form (hR8.own 3 (by decide))); (have F8 := HFQ.out w8 hT8); (obtain ⟨g9, c9, w9, hap, ⟨z1, z2⟩, hFS9⟩ := HGR.out w8 vs7 hP8 hR8 hN8 hH8 hT8 (.string x0) (.int .i64 T7.kind) (.int .i64 (T7.line : Int)) (.slice A0 (T7.rows 0).length k0) (.slice A1 (T7.rows 1).length k1) (.slice A2 (T7.rows 2).length k2) (.slice A3 (T7.rows 3).length k4) (.int .i64 T7.cost) (.int .i64 T7.retry) (by unfold tgtC; rw [HX0.out]; dsimp only; rw [g0, g1, g2, g3])); (rw [g0, g1, g2, g3]); (have k8 : w8.cell? ⟨q, 1, none⟩ = some (.slice A n c) := F8.cell 1); (have k9 := ((F8.alloc (.cells #[.string x0, .int .i64 T7.kind, .int .i64 (T7.line : Int), .slice A0 (T7.rows 0).length k0, .slice A1 (T7.rows 1).length k1, .slice A2 (T7.rows 2).length k2, .slice A3 (T7.rows 3).length k4, .int .i64 T7.cost, .int .i64 T7.retry] 50)).cell 1)); (dsimp only [List.getElem?_cons_zero, List.getElem?_cons_succ] at k9); (have HFS9 := Lib.hid hFS9); clear g0 g1 g2 g3 hP8 hR8 hN8 hH8 hT8 F8 hFS9)
         | (refine step_append_run rfl _ _ 26 26 rfl (.slice A n c) (.slice (some ⟨w8.heap.size, 0, none⟩) 1 1) (by simp [Act.eval]) (by simp [Act.eval]) hap ?_))
       all_goals
         go_wp2
         go_roundw
         case rel => exact ⟨f, σ7, K7, T7, vs7, l ++ [(T7, vs7)], some ⟨g9, 0, none⟩, n + 1, c9, Lib.hid (by have := Hf.out; have := HL2.out.2.2.1; simp [plen] at *; omega), Lib.hid (by have := HL2.out.1; rw [List.map_append, List.append_assoc]; exact this), Lib.hid HL2.out.2.1, HFS9⟩
         case measure =>
           show wlen b _ < wlen b wr
           rw [wlen_eq HFS9.out.ps, wlen_eq HF.out.ps]
           have := HL2.out.2.2.1
           simp [plen] at this ⊢
           omega
     · have hL := HL.out
       have h2 := HS.out
       rw [tgts_no htx] at hL h2
       rw [List.append_nil] at hL
       dsimp only at h2
       subst h2
       have heq : ((str (pTx σ')).toList == [116, 97, 114, 103, 101, 116]) = false := by
         rw [Lib.toList_data, str_data]
         rw [beq_eq_false_iff_ne]
         exact htx
       obtain ⟨X, hX⟩ : ∃ X, str (pTx σ') = X := ⟨_, rfl⟩
       rw [hX] at heq k3
       have HEN := Lib.hid (any_end HF.out.ps)
       have HEE := Lib.hid (fun (w2 : World) (σe : Pst) (hP : PS w2 b σe (tR a m hh T vs)) (hE : pEnd σ' σe) (hT : Turn (fun g => g = b) wr w2) => FS.end_ HD.out HF.out hP hE hT hL)
       clear hX htx hL HL HS
       go_upto_region 7 with (first
         | (go_at_call 77; ((with_reducible refine HEN.out.mono ?_); rintro en w8 ⟨v8, σe, rfl, hP8, hE8, hT8⟩; (obtain ⟨⟨y1, y2⟩, ⟨y3, y4⟩, ⟨y5, y6⟩, hF8, hO8⟩ := HEE.out w8 σe hP8 hE8 hT8); (have HF8 := Lib.hid hF8); (have HO8 := Lib.hid hO8); clear hF8 hO8 hP8 hE8 hT8))
         | (fail "arm"))
       go_wp2
       have f8 := HF8.out
       have o8 := HO8.out
       obtain ⟨w10, hw10⟩ : ∃ w10, (w8.setCell ⟨r, 0, none⟩ (.slice Ap np cp)).setCell ⟨r, 1, none⟩ (.slice A n c) = w10 := ⟨_, rfl⟩
       rw [hw10] at f8 o8 ⊢
       have q0 := f8.cell 0
       have q1 := f8.cell 1
       dsimp only [List.getElem?_cons_zero, List.getElem?_cons_succ] at q0 q1
       exact bodyPost_ret (v := .agg #[.slice Ap np cp, .slice A n c]) (by simp [results, Tryz.results43, go_sem, q0, q1]) rfl o8
 | false =>
   rw [htk] at TK
   have e1 : pHead σ = ([], (pTake wPlats σ).2) := by unfold pHead; rw [if_neg (by rw [htk]; decide)]
   rw [e1] at h1 hpl
   dsimp only at h1 hpl
   subst hpl
   rw [h1] at TK hle1
   have TK := Lib.hid (show Calls Tryz.prog 74 #[.pointer (some ⟨b, 0, none⟩), .string ⟨#[112, 108, 97, 116, 102, 111, 114, 109, 115]⟩] w2 _ from TK)
   have HLE := Lib.hid hle1
   clear e1 h1 htk S2 D h hN hH hA hL hLL h2 F1 F2 F12 hb1 hb2 s1 hpl0 hle1
   obtain ⟨Ap, hAp⟩ : ∃ x : Option Addr, (none : Option Addr) = x := ⟨_, rfl⟩
   obtain ⟨np, hnp⟩ : ∃ x : Nat, 0 = x := ⟨_, rfl⟩
   obtain ⟨cp, hcp⟩ : ∃ x : Nat, 0 = x := ⟨_, rfl⟩
   obtain ⟨pl, hpl⟩ : ∃ x : List Itm, [] = x := ⟨_, rfl⟩
   have HPL := Lib.hid (And.intro hAp (And.intro hnp (And.intro hcp hpl)))
   rw [hpl]
   clear hAp hnp hcp hpl
   go_enter Tryz.func43, Tryz.ntmps43
   go_upto_region 4 with (first
     | (go_at_call 74; ((with_reducible refine TK.out.mono ?_); rintro en w5 ⟨rfl, hP5, hT5⟩; (have HFS := Lib.hid (show FS w b a m hh q r (.slice Ap np cp) pl w5 σ1 (fun _ => false) T0 vs0 [] none 0 0 from by
         rw [← HPL.out.1, ← HPL.out.2.1, ← HPL.out.2.2.1, ← HPL.out.2.2.2]
         have S := HS2.out
         exact ⟨hP5, S.nm.imp fun k z => ⟨z.1.far hT5 (fun e => hmb e), by have := z.2; have := HLE.out; omega⟩, S.hd.imp fun k z => z.far hT5 (fun e => hne e), hT5.far S.fq (by have := HD.out.lb; have := HD.out.lq; omega), hT5.far S.fr (by have := HD.out.lb; have := HD.out.lr; omega), ⟨rfl, .inl ⟨rfl, rfl⟩⟩, ⟨rfl, by have := S.ln.2; have := HLE.out; omega⟩, fun p hp => (by cases hp), ⟨rfl, .inl ⟨rfl, rfl⟩⟩, S.tn.trans_ (hT5.mono fun _ e => .inl e)⟩)); clear hP5 hT5))
     | (fail "arm"))
   go_loopw [14] (fun _ wr => ∃ (f : Nat) (σ' : Pst) (K' : Kn) (T : Tgt) (vs : Nat → Value) (l : List (Tgt × (Nat → Value))) (A : Option Addr) (n c : Nat), Hid (plen σ' < f) ∧ Hid (l.map Prod.fst ++ (pTgts f T.rl K' σ').1 = L) ∧ Hid ((pTgts f T.rl K' σ').2 = σ2) ∧ Hid (FS w b a m hh q r (.slice Ap np cp) pl wr σ' K' T vs l A n c)) (fun _ wr => wlen b wr)
   case atStart => exact ⟨plen σ1 + 1, σ1, fun _ => false, T0, vs0, [], none, 0, 0, Lib.hid (Nat.lt_succ_self _), Lib.hid HE.out.1, Lib.hid HE.out.2, HFS⟩
   case round =>
     obtain ⟨f, σ', K', T, vs, l, A, n, c, Hf, HL, HS, HF⟩ := hrel
     obtain ⟨f, rfl⟩ : ∃ k, f = k + 1 := ⟨f - 1, by have := Hf.out; omega⟩
     clear HFS
     have k3 := (ps_tx HF.out.ps).1
     by_cases htx : pTx σ' = wTarget
     · obtain ⟨t, ts, rfl, ht⟩ := ok_of_tx htx
       have hL := HL.out
       have h2 := HS.out
       rw [tgts_yes ht] at hL h2
       have tok := (ps_tx HF.out.ps).2.2 t ts rfl
       have hcls : 2 ≤ t.cls := by
         have e0 := tok.1
         rw [ht] at e0
         have e : first wTarget = (2, 6) := by decide
         rw [e] at e0
         injection e0 with e1 _
         omega
       obtain ⟨k, hk1, hk2⟩ := HF.out.nm
       obtain ⟨kh, hkh⟩ := HF.out.hd
       have WH := whole_any HF.out.drew.ps (n := k) (nh := kh) (hk1.keep rfl : Names wr.drew m k K') (hkh.keep rfl : Names wr.drew hh kh T.had) (HA.out wr.drew HF.out.tn.drew) (HLa.out wr.drew HF.out.tn.drew) hb9 hh9 hm9 hmb hmh hne hab hah ham (by unfold XL at hk2; unfold maxLen; omega) hcls
       have hle7 := pWhole_le t.ln T.rl K' (.ok ts)
       obtain ⟨⟨σ7, T7, K7⟩, e7⟩ : ∃ x, pWhole t.ln T.rl K' (.ok ts) = x := ⟨_, rfl⟩
       rw [e7] at WH hL h2 hle7
       dsimp only at hL h2 hle7
       unfold WholeOut tgtV at WH
       dsimp only at WH
       have heq : ((str (pTx (.ok (t :: ts)))).toList == [116, 97, 114, 103, 101, 116]) = true := by rw [htx, Lib.toList_data, str_data]; decide
       obtain ⟨X, hX⟩ : ∃ X, str (pTx (.ok (t :: ts))) = X := ⟨_, rfl⟩
       rw [hX] at heq k3
       have u1 : wr.drew.cell? ⟨q, 1, none⟩ = some (.slice A n c) := HF.out.fq.cell 1
       have HWH := Lib.hid WH
       have HL2 := Lib.hid (And.intro hL (And.intro h2 (And.intro hle7 hk2)))
       obtain ⟨x0, hx0⟩ : ∃ x, str T7.name = x := ⟨_, rfl⟩
       rw [hx0] at HWH
       have HX0 := Lib.hid hx0
       have HGR := Lib.hid (fun (w2 : World) (vs' : Nat → Value) (hP : PS w2 b σ7 (tR a m hh T7 vs')) (hR : Rows4 w2 wr.drew.heap.size T7.rows vs') (hN : Names w2 m (k + 1) K7) (hH : ∃ nh, Names w2 hh nh T7.had) (hT : Turn (GB b m hh) wr.drew w2) => FS.grow (t := t) (ts := ts) HD.out HF.out.drew hP hR hk2 hN hH hT hle7)
       have HFQ := Lib.hid (fun (w2 : World) (hT : Turn (GB b m hh) wr.drew w2) => hT.far HF.out.drew.fq (fun e => by have := HD.out.lb; have := HD.out.lm; have := HD.out.lh; have := HD.out.lq; rcases e with e | e | e <;> omega))
       clear hX htx ht hL h2 tok hcls hk1 hk2 hkh WH hle7 e7 hx0 HL HS
       go_upto_region 5 with fail
       go_region_law (first
         | (refine step_call_fn rfl 76 _ _ rfl #[.pointer (some ⟨b, 0, none⟩)] (by rfl) (enters_of Tryz.func76 (by kernel_rfl) rfl) HWH.out ?_; rintro en w8 ⟨vs7, rfl, hP8, hR8, hN8, hH8, hT8⟩; refine ⟨_, rfl, ?_⟩; (obtain ⟨A0, k0, g0⟩ := own_form (hR8.own 0 (by decide))); (obtain ⟨A1, k1, g1⟩ := own_form (hR8.own 1 (by decide))); (obtain ⟨A2, k2, g2⟩ := own_form (hR8.own 2 (by decide))); (obtain ⟨A3, k4, g3⟩ := own_form (hR8.own 3 (by decide))); (have F8 := HFQ.out w8 hT8); (obtain ⟨g9, c9, w9, hap, ⟨z1, z2⟩, hFS9⟩ := HGR.out w8 vs7 hP8 hR8 hN8 hH8 hT8 (.string x0) (.int .i64 T7.kind) (.int .i64 (T7.line : Int)) (.slice A0 (T7.rows 0).length k0) (.slice A1 (T7.rows 1).length k1) (.slice A2 (T7.rows 2).length k2) (.slice A3 (T7.rows 3).length k4) (.int .i64 T7.cost) (.int .i64 T7.retry) (by unfold tgtC; rw [HX0.out]; dsimp only; rw [g0, g1, g2, g3])); (rw [g0, g1, g2, g3]); (have k8 : w8.cell? ⟨q, 1, none⟩ = some (.slice A n c) := F8.cell 1); (have k9 := ((F8.alloc (.cells #[.string x0, .int .i64 T7.kind, .int .i64 (T7.line : Int), .slice A0 (T7.rows 0).length k0, .slice A1 (T7.rows 1).length k1, .slice A2 (T7.rows 2).length k2, .slice A3 (T7.rows 3).length k4, .int .i64 T7.cost, .int .i64 T7.retry] 50)).cell 1)); (dsimp only [List.getElem?_cons_zero, List.getElem?_cons_succ] at k9); (have HFS9 := Lib.hid hFS9); clear g0 g1 g2 g3 hP8 hR8 hN8 hH8 hT8 F8 hFS9)
         | (refine step_append_run rfl _ _ 26 26 rfl (.slice A n c) (.slice (some ⟨w8.heap.size, 0, none⟩) 1 1) (by simp [Act.eval]) (by simp [Act.eval]) hap ?_))
       all_goals
         go_wp2
         go_roundw
         case rel => exact ⟨f, σ7, K7, T7, vs7, l ++ [(T7, vs7)], some ⟨g9, 0, none⟩, n + 1, c9, Lib.hid (by have := Hf.out; have := HL2.out.2.2.1; simp [plen] at *; omega), Lib.hid (by have := HL2.out.1; rw [List.map_append, List.append_assoc]; exact this), Lib.hid HL2.out.2.1, HFS9⟩
         case measure =>
           show wlen b _ < wlen b wr
           rw [wlen_eq HFS9.out.ps, wlen_eq HF.out.ps]
           have := HL2.out.2.2.1
           simp [plen] at this ⊢
           omega
     · have hL := HL.out
       have h2 := HS.out
       rw [tgts_no htx] at hL h2
       rw [List.append_nil] at hL
       dsimp only at h2
       subst h2
       have heq : ((str (pTx σ')).toList == [116, 97, 114, 103, 101, 116]) = false := by
         rw [Lib.toList_data, str_data]
         rw [beq_eq_false_iff_ne]
         exact htx
       obtain ⟨X, hX⟩ : ∃ X, str (pTx σ') = X := ⟨_, rfl⟩
       rw [hX] at heq k3
       have HEN := Lib.hid (any_end HF.out.ps)
       have HEE := Lib.hid (fun (w2 : World) (σe : Pst) (hP : PS w2 b σe (tR a m hh T vs)) (hE : pEnd σ' σe) (hT : Turn (fun g => g = b) wr w2) => FS.end_ HD.out HF.out hP hE hT hL)
       clear hX htx hL HL HS
       go_upto_region 7 with (first
         | (go_at_call 77; ((with_reducible refine HEN.out.mono ?_); rintro en w8 ⟨v8, σe, rfl, hP8, hE8, hT8⟩; (obtain ⟨⟨y1, y2⟩, ⟨y3, y4⟩, ⟨y5, y6⟩, hF8, hO8⟩ := HEE.out w8 σe hP8 hE8 hT8); (have HF8 := Lib.hid hF8); (have HO8 := Lib.hid hO8); clear hF8 hO8 hP8 hE8 hT8))
         | (fail "arm"))
       go_wp2
       have f8 := HF8.out
       have o8 := HO8.out
       obtain ⟨w10, hw10⟩ : ∃ w10, (w8.setCell ⟨r, 0, none⟩ (.slice Ap np cp)).setCell ⟨r, 1, none⟩ (.slice A n c) = w10 := ⟨_, rfl⟩
       rw [hw10] at f8 o8 ⊢
       have q0 := f8.cell 0
       have q1 := f8.cell 1
       dsimp only [List.getElem?_cons_zero, List.getElem?_cons_succ] at q0 q1
       exact bodyPost_ret (v := .agg #[.slice Ap np cp, .slice A n c]) (by simp [results, Tryz.results43, go_sem, q0, q1]) rfl o8
end Go.Proofs.YtcjoiiaankngjaaGreatDoor
namespace Go.Proofs.YtcjoiiaankngjaaGreatDoor
set_option maxRecDepth 100000
open Go.RowKit Go.Maps Go.ChangeMaps Go.MapKept Go.WideShapes
def AttrsP (w : World) (a b n : Nat) (f : List UInt8 → Option Nat) : Prop := ∃ D : DataW Unit, w.ownsMap Tryz.prog 9 (fnElem b) a n D ∧ IsMap D ∧ ∀ s : ByteArray, has D (klS s) = (f s.data.toList).isSome ∧ ∀ n, f s.data.toList = some n → ∀ z, D.atKey (klS s) z = .lit (.int .i64 (n : Int))
theorem AttrsP.made (w : World) (b : Nat) : AttrsP (w.alloc (.map #[] 0)) w.heap.size b 0 (fun _ => none) :=
 ⟨.map [], ⟨#[], 0, (MapKept.heap_alloc w _).1, ⟨by simp, stamped_empty 0, by simp⟩, Nat.le_refl _, rfl⟩, isMap_empty, fun _ => ⟨rfl, fun n h => by cases h⟩⟩
def fPut (f : List UInt8 → Option Nat) (s : List UInt8) (n : Nat) : List UInt8 → Option Nat := fun x => if x = s then some n else f x
theorem AttrsP.put {w : World} {a b n : Nat} {f : List UInt8 → Option Nat} (h : AttrsP w a b n f) (s : ByteArray) (hs : s.size ≤ maxLen) (hn : n < maxLen) (k : Nat) :
   ∃ w', (Instr.mapUpdate 92 (.map (some a)) (.string s) (fnV b k)).run Tryz.prog w = .ok () w' ∧ AttrsP w' a b (n + 1) (fPut f s.data.toList k) ∧ Turn (fun g => g = a) w w' := by
 obtain ⟨D, hm, hi, hD⟩ := h
 have hk : keyOf Tryz.prog 9 (.string s) = some (klS s) := WideMaps.keyOf_string_mk (P := Tryz.prog) Tryz.underlying9 hs
 obtain ⟨w', hr, h1, h2⟩ := hm.update law9 Tryz.underlying92 hn hk (fnElem_fn b k)
 refine ⟨w', hr, ⟨_, h1, hi.put _ _, fun x => ?_⟩, ⟨h2.os, h2.tape, h2.output, h2.size, fun g hg hne => h2.block g hg (fun e => hne (by injection e))⟩⟩
 unfold fPut
 by_cases hx : x = s
 · subst hx
   rw [if_pos rfl]
   exact ⟨by rw [has_put_same hi (klS_key x)]; rfl, fun m hm z => by injection hm with hm; subst hm; exact atKey_put_same hi (klS_key x) _ _⟩
 · have hne : klS x ≠ klS s := fun e => hx (klS_inj e)
   rw [if_neg (fun e => hx (Go.WideShapes.bytes_inj e))]
   obtain ⟨q1, q2⟩ := hD x
   exact ⟨by rw [has_put_other hne]; exact q1, fun m hm z => by rw [atKey_put_other hne]; exact q2 m hm z⟩
theorem AttrsP.done {w : World} {a b n : Nat} {f : List UInt8 → Option Nat} (h : AttrsP w a b n f) (hf : ∀ s, f s = fnOf s) : Attrs w a b := by
 obtain ⟨D, hm, hi, hD⟩ := h
 exact ⟨D, n, hm, hi, fun s => by rw [← hf]; exact hD s⟩
theorem AttrsP.lt {w : World} {a b n : Nat} {f : List UInt8 → Option Nat} (h : AttrsP w a b n f) : a < w.heap.size := h.choose_spec.1.lt
theorem attrs_made (w : World) (b : Nat) : ∃ W1 W2 W3 W4 W5 W6 W7,
   (Instr.mapUpdate 92 (.map (some w.heap.size)) (.string ⟨#[107, 105, 110, 100]⟩) (fnV b 66)).run Tryz.prog (w.alloc (.map #[] 0)) = .ok () W1 ∧
   (Instr.mapUpdate 92 (.map (some w.heap.size)) (.string ⟨#[115, 114, 99, 115]⟩) (fnV b 67)).run Tryz.prog W1 = .ok () W2 ∧
   (Instr.mapUpdate 92 (.map (some w.heap.size)) (.string ⟨#[100, 101, 112, 115]⟩) (fnV b 68)).run Tryz.prog W2 = .ok () W3 ∧
   (Instr.mapUpdate 92 (.map (some w.heap.size)) (.string ⟨#[111, 117, 116]⟩) (fnV b 69)).run Tryz.prog W3 = .ok () W4 ∧
   (Instr.mapUpdate 92 (.map (some w.heap.size)) (.string ⟨#[118, 105, 115, 105, 98, 108, 101]⟩) (fnV b 70)).run Tryz.prog W4 = .ok () W5 ∧
   (Instr.mapUpdate 92 (.map (some w.heap.size)) (.string ⟨#[99, 111, 115, 116]⟩) (fnV b 71)).run Tryz.prog W5 = .ok () W6 ∧
   (Instr.mapUpdate 92 (.map (some w.heap.size)) (.string ⟨#[114, 101, 116, 114, 121]⟩) (fnV b 72)).run Tryz.prog W6 = .ok () W7 ∧
   Attrs W7 w.heap.size b ∧ Turn (fun g => g = w.heap.size) (w.alloc (.map #[] 0)) W7 := by
 have h0 := AttrsP.made w b
 obtain ⟨W1, r1, h1, t1⟩ := h0.put ⟨#[107, 105, 110, 100]⟩ (by decide) (by decide) 66
 obtain ⟨W2, r2, h2, t2⟩ := h1.put ⟨#[115, 114, 99, 115]⟩ (by decide) (by decide) 67
 obtain ⟨W3, r3, h3, t3⟩ := h2.put ⟨#[100, 101, 112, 115]⟩ (by decide) (by decide) 68
 obtain ⟨W4, r4, h4, t4⟩ := h3.put ⟨#[111, 117, 116]⟩ (by decide) (by decide) 69
 obtain ⟨W5, r5, h5, t5⟩ := h4.put ⟨#[118, 105, 115, 105, 98, 108, 101]⟩ (by decide) (by decide) 70
 obtain ⟨W6, r6, h6, t6⟩ := h5.put ⟨#[99, 111, 115, 116]⟩ (by decide) (by decide) 71
 obtain ⟨W7, r7, h7, t7⟩ := h6.put ⟨#[114, 101, 116, 114, 121]⟩ (by decide) (by decide) 72
 refine ⟨W1, W2, W3, W4, W5, W6, W7, r1, r2, r3, r4, r5, r6, r7, h7.done fun s => ?_, t1.trans_ (t2.trans_ (t3.trans_ (t4.trans_ (t5.trans_ (t6.trans_ t7)))))⟩
 unfold fPut fnOf
 have e1 : (⟨#[107, 105, 110, 100]⟩ : ByteArray).data.toList = wKind := rfl
 have e2 : (⟨#[115, 114, 99, 115]⟩ : ByteArray).data.toList = wSrcs := rfl
 have e3 : (⟨#[100, 101, 112, 115]⟩ : ByteArray).data.toList = wDeps := rfl
 have e4 : (⟨#[111, 117, 116]⟩ : ByteArray).data.toList = wOut := rfl
 have e5 : (⟨#[118, 105, 115, 105, 98, 108, 101]⟩ : ByteArray).data.toList = wVis := rfl
 have e6 : (⟨#[99, 111, 115, 116]⟩ : ByteArray).data.toList = wCost := rfl
 have e7 : (⟨#[114, 101, 116, 114, 121]⟩ : ByteArray).data.toList = wRetry := rfl
 rw [e1, e2, e3, e4, e5, e6, e7]
 by_cases h1 : s = wKind
 · rw [h1]; decide
 by_cases h2 : s = wSrcs
 · rw [h2]; decide
 by_cases h3 : s = wDeps
 · rw [h3]; decide
 by_cases h4 : s = wOut
 · rw [h4]; decide
 by_cases h5 : s = wVis
 · rw [h5]; decide
 by_cases h6 : s = wCost
 · rw [h6]; decide
 by_cases h7 : s = wRetry
 · rw [h7]; decide
 rw [if_neg h7, if_neg h6, if_neg h5, if_neg h4, if_neg h3, if_neg h2, if_neg h1]
 rw [if_neg h1, if_neg h2, if_neg h3, if_neg h4, if_neg h5, if_neg h6, if_neg h7]
def tgtZ : Tgt := ⟨[], 0, 0, fun _ => [], 0, 0, 0, fun _ => false⟩
def NewOut (w : World) (s : ByteArray) (en : Ending) (w' : World) : Prop :=
 ∃ b a m hh, en = .returned (.pointer (some ⟨b, 0, none⟩)) ∧ w.heap.size ≤ b ∧ w.heap.size ≤ m ∧ w.heap.size ≤ hh ∧ m ≠ b ∧ m ≠ hh ∧ hh ≠ b ∧ a ≠ b ∧ a ≠ hh ∧ a ≠ m ∧
   PS w' b (.ok (toks s.data.toList 1)) (tR a m hh tgtZ (fun _ => .slice none 0 0)) ∧ Names w' m 0 (fun _ => false) ∧ Names w' hh 0 (fun _ => false) ∧ Attrs w' a b ∧ Turn (fun _ => False) w w'
set_option maxHeartbeats 4000000 in
theorem newParser_any (w : World) (s : ByteArray) (ha : Asc s.data.toList) (hs : s.size ≤ 4294967000) : Calls Tryz.prog 42 #[.string s] w (NewOut w s) := by
 obtain ⟨w1, hw1⟩ : ∃ w1, w.alloc (.map #[] 0) = w1 := ⟨_, rfl⟩
 have hb1 : Below w.heap.size w w1 := by rw [← hw1]; exact (Below.refl _ w).alloc (Nat.le_refl _) _
 have N1 : Names w1 w.heap.size 0 (fun _ => false) := by rw [← hw1]; exact Names.made w
 have s1 : w1.heap.size = w.heap.size + 1 := by rw [← hw1]; exact World.size_alloc _ _
 obtain ⟨w2, hw2⟩ : ∃ w2, w1.alloc (.map #[] 0) = w2 := ⟨_, rfl⟩
 have hb2 : Below w1.heap.size w1 w2 := by rw [← hw2]; exact (Below.refl _ w1).alloc (Nat.le_refl _) _
 have N2 : Names w2 w1.heap.size 0 (fun _ => false) := by rw [← hw2]; exact Names.made w1
 have s2 : w2.heap.size = w1.heap.size + 1 := by rw [← hw2]; exact World.size_alloc _ _
 obtain ⟨m, hm⟩ : ∃ x, w.heap.size = x := ⟨_, rfl⟩
 obtain ⟨hh, hhh⟩ : ∃ x, w1.heap.size = x := ⟨_, rfl⟩
 obtain ⟨b, hb⟩ : ∃ x, w2.heap.size = x := ⟨_, rfl⟩
 obtain ⟨w3, hw3⟩ : ∃ w3, w2.alloc (.cells #[.string s, .int .i64 1, .int .i64 0, .string ⟨#[]⟩, .int .i64 0, .int .i64 0, .int .i64 0, .map none, .map (some m), .string ⟨#[]⟩, .int .i64 0, .int .i64 0, .slice none 0 0, .slice none 0 0, .slice none 0 0, .slice none 0 0, .int .i64 0, .int .i64 0, .map (some hh), .int .i64 0] 95) = w3 := ⟨_, rfl⟩
 have hb3 : Below w2.heap.size w2 w3 := by rw [← hw3]; exact (Below.refl _ w2).alloc (Nat.le_refl _) _
 have F3 : Full w3 b 95 [.string s, .int .i64 1, .int .i64 0, .string ⟨#[]⟩, .int .i64 0, .int .i64 0, .int .i64 0, .map none, .map (some m), .string ⟨#[]⟩, .int .i64 0, .int .i64 0, .slice none 0 0, .slice none 0 0, .slice none 0 0, .slice none 0 0, .int .i64 0, .int .i64 0, .map (some hh), .int .i64 0] := by rw [← hw3, ← hb]; exact Full.new w2 95 _
 have s3 : w3.heap.size = w2.heap.size + 1 := by rw [← hw3]; exact World.size_alloc _ _
 obtain ⟨a, hha⟩ : ∃ x, w3.heap.size = x := ⟨_, rfl⟩
 obtain ⟨w4, hw4⟩ : ∃ w4, w3.alloc (.map #[] 0) = w4 := ⟨_, rfl⟩
 have hb4 : Below w3.heap.size w3 w4 := by rw [← hw4]; exact (Below.refl _ w3).alloc (Nat.le_refl _) _
 obtain ⟨W1, W2, W3, W4, W5, W6, W7, r1, r2, r3, r4, r5, r6, r7, hA7, hT7⟩ := attrs_made w3 b
 rw [hw4, hha] at r1
 rw [hha] at r2 r3 r4 r5 r6 r7 hA7 hT7
 rw [hw4] at hT7
 unfold fnV at r1 r2 r3 r4 r5 r6 r7
 have M1 := ((N1.on hb2).on hb3).on hb4
 have M2 := (N2.on hb3).on hb4
 rw [hm] at M1
 rw [hhh] at M2
 have F7 := hT7.far (F3.on hb4) (by omega)
 have hm1 := M1.far hT7 (by omega)
 have hm2 := M2.far hT7 (by omega)
 have z1 : W7.cell? ⟨b, 7, none⟩ = some (.map none) := F7.cell 7
 have z2 := F7.frozen 7
 have hTs : Turn (fun g => g = b) W7 (W7.setCell ⟨b, 7, none⟩ (.map (some a))) := Turn.set_ (F := fun g => g = b) (a := ⟨b, 7, none⟩) rfl _
 have F8 := F7.set_ 7 (.map (some a))
 have hP8 : Pm (W7.setCell ⟨b, 7, none⟩ (.map (some a))) b s 1 0 ⟨#[]⟩ 0 0 0 (tR a m hh tgtZ (fun _ => .slice none 0 0)) := F8
 have NX := next_any hP8.sc ha hs (by omega)
 unfold NextOut at NX
 have hT8 : Turn (fun _ => False) w (W7.setCell ⟨b, 7, none⟩ (.map (some a))) :=
   ((((Turn.of hb1).trans_ (Turn.of hb2)).trans_ (Turn.of hb3)).trans_ (Turn.of hb4)).late (hT7.mono (G := fun g => g = a ∨ g = b) fun g e => .inl e) (fun g e => .inr (by omega)) |>.late hTs fun g e => .inr (by omega)
 have HQ := Lib.hid (And.intro (hm1.far hTs (by omega)) (And.intro (hm2.far hTs (by omega)) (And.intro (hA7.far hTs (by omega)) (And.intro hT8 (And.intro ha hs)))))
 have HNE := Lib.hid (show w.heap.size ≤ b ∧ w.heap.size ≤ m ∧ w.heap.size ≤ hh ∧ m ≠ b ∧ m ≠ hh ∧ hh ≠ b ∧ a ≠ b ∧ a ≠ hh ∧ a ≠ m from ⟨by omega, by omega, by omega, by omega, by omega, by omega, by omega, by omega, by omega⟩)
 obtain ⟨t', rest', n', hnx⟩ : ∃ t' rest' n', next s.data.toList 1 = (t', rest', n') := ⟨_, _, _, rfl⟩
 have HNX := Lib.hid hnx
 rw [hnx] at NX
 dsimp only at NX
 obtain ⟨c', hc'⟩ : ∃ c' : Nat, t'.cls = c' := ⟨_, rfl⟩
 obtain ⟨l', hl'⟩ : ∃ c' : Nat, t'.ln = c' := ⟨_, rfl⟩
 obtain ⟨x', hx'⟩ : ∃ c', str t'.txt = c' := ⟨_, rfl⟩
 unfold tokV at NX
 rw [hc', hl', hx'] at NX
 have HTK := Lib.hid (And.intro hc' (And.intro hl' hx'))
 have NX := Lib.hid NX
 have hmk1 : (Instr.makeMap 93 none).run Tryz.prog w = .ok (.map (some m)) w1 := by rw [run_makeMap, hm, hw1]
 have hmk2 : (Instr.makeMap 93 none).run Tryz.prog w1 = .ok (.map (some hh)) w2 := by rw [run_makeMap, hhh, hw2]
 have hmk3 : (Instr.makeMap 92 none).run Tryz.prog w3 = .ok (.map (some a)) w4 := by rw [run_makeMap, hha, hw4]
 clear hb1 N1 s1 hb2 N2 s2 hb3 F3 s3 hb4 M1 M2 hm1 hm2 hA7 hT7 hTs F7 F8 hP8 hT8 hnx hc' hl' hx' ha hs hm hhh hha
 go_enter Tryz.func42, Tryz.ntmps42
 go_upto_region 2 with fail
 go_upto_region 3 with fail
 clear r1 r2 r3 r4 r5 r6 r7 z1 z2 hmk1 hmk2 hmk3 hw1 hw2 hw3 hw4 hb
 go_upto_region 4 with (first
   | (go_at_call 73; ((with_reducible refine NX.out.mono ?_); rintro en w9 ⟨rfl, hS9, hT9⟩; (obtain ⟨⟨v0, v0f⟩, ⟨v1, v1f⟩, ⟨v2, v2f⟩, hP⟩ := Pm.ahead (w := w9) (b := b) (s := str rest') (n := n') (c := 0) (tx := ⟨#[]⟩) (tl := 0) (e := 0) (el := 0) (R := tR a m hh tgtZ (fun _ => .slice none 0 0)) hS9 (c' : Int) x' (l' : Int)); (have HP := Lib.hid hP); (have HT9 := Lib.hid hT9); clear hP hT9 hS9))
   | (fail "arm"))
 have hTs : Turn (fun g => g = b) w9 (((w9.setCell ⟨b, 2, none⟩ (.int .i64 (c' : Int))).setCell ⟨b, 3, none⟩ (.string x')).setCell ⟨b, 4, none⟩ (.int .i64 (l' : Int))) := (((Turn.refl (fun g => g = b) w9).setb rfl 2 _).setb rfl 3 _).setb rfl 4 _
 obtain ⟨w10, hw10⟩ : ∃ w10, ((w9.setCell ⟨b, 2, none⟩ (.int .i64 (c' : Int))).setCell ⟨b, 3, none⟩ (.string x')).setCell ⟨b, 4, none⟩ (.int .i64 (l' : Int)) = w10 := ⟨_, rfl⟩
 have hp := HP.out
 rw [hw10] at hp hTs ⊢
 clear HP
 have hT := HT9.out.trans_ hTs
 have HOUT := Lib.hid (show NewOut w s (.returned (.pointer (some ⟨b, 0, none⟩))) w10 from by
   refine ⟨b, a, m, hh, rfl, HNE.out.1, HNE.out.2.1, HNE.out.2.2.1, HNE.out.2.2.2.1, HNE.out.2.2.2.2.1, HNE.out.2.2.2.2.2.1, HNE.out.2.2.2.2.2.2.1, HNE.out.2.2.2.2.2.2.2.1, HNE.out.2.2.2.2.2.2.2.2, ?_, HQ.out.1.far hT HNE.out.2.2.2.1, HQ.out.2.1.far hT HNE.out.2.2.2.2.2.1, HQ.out.2.2.1.far hT HNE.out.2.2.2.2.2.2.1, HQ.out.2.2.2.1.late hT fun g e => .inr (by rw [e]; exact HNE.out.1)⟩
   have e := HNX.out
   refine ps_next (el := 0) ⟨HQ.out.2.2.2.2.1, HQ.out.2.2.2.2.2, by have := HQ.out.2.2.2.2.2; omega⟩ ?_
   rw [e]
   dsimp only
   rw [HTK.out.1, HTK.out.2.1, HTK.out.2.2]
   exact hp)
 clear hp hTs hT hw10
 go_wp2
 go_ret
 exact HOUT.out
end Go.Proofs.YtcjoiiaankngjaaGreatDoor
namespace Go.Proofs.YtcjoiiaankngjaaGreatDoor
set_option maxRecDepth 100000
open Go.RowKit
def pEndF : Pst → Option (Int × Int)
 | .ok (t :: _) => if t.cls = 1 then none else some (40, (t.ln : Int))
 | .ok [] => none
 | .bad e l => some (e, l)
def pFile (s : List UInt8) : (List Itm × List Tgt) × Pst :=
 (((pHead (.ok (toks s 1))).1, (pTgts (plen (pHead (.ok (toks s 1))).2 + 1) 0 (fun _ => false) (pHead (.ok (toks s 1))).2).1), (pTgts (plen (pHead (.ok (toks s 1))).2 + 1) 0 (fun _ => false) (pHead (.ok (toks s 1))).2).2)
def pParse (s : List UInt8) : (List Itm × List Tgt) × (Int × Int) :=
 match pEndF (pFile s).2 with
 | none => ((pFile s).1, (0, 0))
 | some (e, l) => (([], []), (l, e))
theorem ps_fault {w : World} {b : Nat} {σ : Pst} {R : List Value} (h : PS w b σ R) : ∃ e el, w.cell? ⟨b, 5, none⟩ = some (.int .i64 e) ∧ w.cell? ⟨b, 6, none⟩ = some (.int .i64 el) ∧ (∀ ts, σ = .ok ts → e = 0) ∧ (∀ e' l', σ = .bad e' l' → e = e' ∧ el = l' ∧ e ≠ 0) := by
 obtain ⟨s, n, c, tx, tl, e, el, hP, hs, hC⟩ := h
 refine ⟨e, el, Full.cell hP 5, Full.cell hP 6, fun ts h => ?_, fun e' l' h => ?_⟩
 · subst h; exact hC.1
 · subst h; exact ⟨hC.1, hC.2.1, by rw [hC.1]; exact hC.2.2.1⟩
def ParseOut (w : World) (r : (List Itm × List Tgt) × (Int × Int)) (en : Ending) (w' : World) : Prop :=
 ∃ v, en = .returned (.tuple #[v, .int .i64 r.2.1, .int .i64 r.2.2]) ∧ BuildAt w' w.heap.size v r.1.1 r.1.2 ∧ Turn (fun _ => False) w w'
theorem BuildAt.base {w : World} {b b' : Nat} {v : Value} {pl : List Itm} {L : List Tgt} (h : BuildAt w b v pl L) (hb : b' ≤ b) : BuildAt w b' v pl L := by
 obtain ⟨Vp, A, n, c, tl, e, h1, h2, h3, h4, h5⟩ := h
 exact ⟨Vp, A, n, c, tl, e, own_base h1 hb, h2, h3, fun p hp i hi => own_base (h4 p hp i hi) hb, own_base h5 hb⟩
theorem BuildAt.zero (w : World) (base : Nat) : BuildAt w base (.agg #[.slice none 0 0, .slice none 0 0]) [] [] :=
 ⟨_, none, 0, 0, [], rfl, ⟨rfl, .inl ⟨rfl, rfl⟩⟩, rfl, rfl, fun p hp => (by cases hp), ⟨rfl, .inl ⟨rfl, rfl⟩⟩⟩
theorem BuildAt.off {F : Nat → Prop} {w w' : World} {base : Nat} {v : Value} {pl : List Itm} {L : List Tgt} (h : BuildAt w base v pl L) (ht : Turn F w w') (hF : ∀ g, F g → g < base ∨ ∃ t cs, Full w g t cs ∧ t ≠ 50 ∧ t ≠ 52) : BuildAt w' base v pl L := by
 obtain ⟨Vp, A, n, c, tl, e, h1, h2, h3, h4, h5⟩ := h
 have off : ∀ {e' : TypeId} {size n : Nat} {v : Value} {xs : List Value}, w.ownsRow base e' size v n xs → (e' = 50 ∨ e' = 52) → w'.ownsRow base e' size v n xs := fun {e' size n v xs} h he => own_off h ht fun g hg f => by
   rcases hF g f with z | ⟨t, cs, z, z1, z2⟩
   · have := row_ge h g hg
     omega
   · exact own_full_ne h z (by rcases he with rfl | rfl <;> assumption) g hg rfl
 exact ⟨Vp, A, n, c, tl, e, off h1 (.inl rfl), h2, h3, fun p hp i hi => off (h4 p hp i hi) (.inr rfl), off h5 (.inr rfl)⟩
theorem pEndF_ok {σ : Pst} {ts : List Tok} (h : pEnd σ (.ok ts)) : pEndF σ = none := by
 cases σ with
 | bad e l => exact absurd (show Pst.ok ts = .bad e l from h) (by simp)
 | ok us =>
   cases us with
   | nil => exact (show False from h).elim
   | cons t r =>
     have h : (if t.cls = 1 then ∃ x, Pst.ok ts = .ok x else Pst.ok ts = .bad 40 (t.ln : Int)) := h
     by_cases e : t.cls = 1
     · show (if t.cls = 1 then none else some (40, (t.ln : Int))) = none
       rw [if_pos e]
     · rw [if_neg e] at h; cases h
theorem pEndF_bad {σ : Pst} {e l : Int} (h : pEnd σ (.bad e l)) : pEndF σ = some (e, l) := by
 cases σ with
 | bad e' l' =>
   have h : Pst.bad e l = .bad e' l' := h
   injection h with h1 h2
   subst h1 h2
   rfl
 | ok us =>
   cases us with
   | nil => exact (show False from h).elim
   | cons t r =>
     have h : (if t.cls = 1 then ∃ x, Pst.bad e l = .ok x else Pst.bad e l = .bad 40 (t.ln : Int)) := h
     by_cases e' : t.cls = 1
     · rw [if_pos e'] at h; obtain ⟨x, h⟩ := h; cases h
     · rw [if_neg e'] at h
       injection h with h1 h2
       subst h1 h2
       show (if t.cls = 1 then none else some (40, (t.ln : Int))) = _
       rw [if_neg e']
set_option maxHeartbeats 8000000 in
theorem parse_any {w : World} (s : ByteArray) (hL : Laid w) (h9 : 9 ≤ w.heap.size) (ha : Asc s.data.toList) (hs : s.size ≤ 4294967000) : Calls Tryz.prog 26 #[.string s] w (ParseOut w (pParse s.data.toList)) := by
 unfold ParseOut
 obtain ⟨res, hres⟩ : ∃ x, pParse s.data.toList = x := ⟨_, rfl⟩
 obtain ⟨⟨⟨pl, L⟩, σ2⟩, hfl⟩ : ∃ x, pFile s.data.toList = x := ⟨_, rfl⟩
 have hpr : res = (match pEndF σ2 with
   | none => ((pl, L), (0, 0))
   | some (e, l) => (([], []), (l, e))) := by rw [← hres, pParse, hfl]
 rw [hres]
 obtain ⟨w1, hw1⟩ : ∃ w1, w.alloc (.cells #[.slice none 0 0, .slice none 0 0] 28) = w1 := ⟨_, rfl⟩
 have hb1 : Below w.heap.size w w1 := by rw [← hw1]; exact (Below.refl _ w).alloc (Nat.le_refl _) _
 have F1 : Full w1 w.heap.size 28 [.slice none 0 0, .slice none 0 0] := by rw [← hw1]; exact Full.new w 28 _
 have NP := Lib.hid (newParser_any w1 s ha hs)
 unfold NewOut at NP
 obtain ⟨r, hr⟩ : ∃ r, w.heap.size = r := ⟨_, rfl⟩
 rw [hr] at F1
 have HF1 := Lib.hid F1
 have HB1 := Lib.hid hb1
 have HLa := Lib.hid hL
 have HFL := Lib.hid (And.intro hfl hpr)
 clear hres hfl hpr F1 hb1 hL ha hs
 go_enter Tryz.func26, Tryz.ntmps26
 go_upto_region 2 with (first
   | (go_at_call 42; ((with_reducible refine NP.out.mono ?_); rintro en w2 ⟨b, a, m, hh, rfl, n1, n2, n3, n4, n5, n6, n7, n8, n9, hP2, hN2, hH2, hA2, hT2⟩))
   | (fail "arm"))
 have hs1 : r < w1.heap.size := HF1.out.lt
 have F2 := hT2.far HF1.out (fun e => e)
 have FA := file_any hP2 hN2 hH2 hA2 ((HLa.out.turn (Turn.of (F := fun _ => False) HB1.out) (fun g e => e.elim)).turn hT2 (fun g e => e.elim)) (by omega) (by omega) (by omega) n4 n5 n6 n7 n8 n9
 have hfl := HFL.out.1
 unfold pFile at hfl
 injection hfl with hf1 hf2
 injection hf1 with hf0 hf1
 rw [show tgtZ.rl = 0 from rfl, hf0, hf1, hf2] at FA
 unfold FileOut at FA
 have HFA := Lib.hid FA
 have HQ := Lib.hid (And.intro F2 (And.intro hP2.lt (And.intro ((Turn.of (F := fun _ => False) HB1.out).trans_ hT2) (And.intro hN2.lt hH2.lt))))
 clear F2 FA hf0 hf1 hf2 hP2 hN2 hH2 hA2 hT2 NP hw1
 go_upto_region 3 with (first
   | (go_at_call 43; ((with_reducible refine HFA.out.mono ?_); rintro en w5 ⟨v, σe, R, rfl, hB5, hE5, hP5, hT5⟩; (obtain ⟨Vp, A, n, c, tl, rfl, k1, k2, k3, k4, k5⟩ := hB5); (obtain ⟨Ap, cp, rfl⟩ := own_form k5); (have HB5 := Lib.hid (show BuildAt w5 w2.heap.size (.agg #[.slice Ap pl.length cp, .slice A n c]) pl L from ⟨_, A, n, c, tl, rfl, k1, k2, k3, k4, k5⟩)); (have HE5 := Lib.hid (And.intro hE5 (And.intro hP5 hT5))); clear k1 k2 k3 k4 k5 hE5 hP5 hT5))
   | (fail "arm"))
 obtain ⟨w6, hw6⟩ : ∃ w6, w5.alloc (.cells #[.slice Ap pl.length cp, .slice A n c] 28) = w6 := ⟨_, rfl⟩
 have hb6 : Below w5.heap.size w5 w6 := by rw [← hw6]; exact (Below.refl _ w5).alloc (Nat.le_refl _) _
 have F6 : Full w6 w5.heap.size 28 [.slice Ap pl.length cp, .slice A n c] := by rw [← hw6]; exact Full.new w5 28 _
 obtain ⟨hE, hP5, hT5⟩ := HE5.out
 have hP6 := hP5.on hb6
 have hlt := HQ.out.2.2.2
 have hlb := HQ.out.2.1
 have F5r := hT5.far HQ.out.1 (fun e => by rcases e with e | e | e <;> omega)
 have F6r := F5r.on hb6
 obtain ⟨u, hu⟩ : ∃ u, w5.heap.size = u := ⟨_, rfl⟩
 have hru : r < u := by rw [← hu]; exact F5r.lt
 rw [hu] at F6
 have hT6 : Turn (fun _ => False) w w6 := (HQ.out.2.2.1.late hT5 (fun g e => by rcases e with e | e | e <;> (right; omega))).trans_ (Turn.of hb6)
 have hB6 : BuildAt w6 w2.heap.size (.agg #[.slice Ap pl.length cp, .slice A n c]) pl L := HB5.out.off (Turn.of (F := fun _ => False) hb6) (fun g e => e.elim)
 have hsz2 : w.heap.size ≤ w2.heap.size := HQ.out.2.2.1.size
 rw [hw6, hu]
 obtain ⟨e, el, e5, e6, eok, ebad⟩ := ps_fault hP6
 have x0 := F6.cell 0
 have x1 := F6.cell 1
 have y0 := F6r.cell 0
 have y1 := F6r.cell 1
 dsimp only [List.getElem?_cons_zero, List.getElem?_cons_succ] at x0 x1 y0 y1
 have yf := F6r.frozen 0
 cases hσ : σe with
 | ok ts =>
   have he0 := eok ts hσ
   subst he0
   rw [hσ] at hE
   have hpr := HFL.out.2
   rw [pEndF_ok hE] at hpr
   dsimp only at hpr
   have z1 := (F6r.set_ 0 (.slice Ap pl.length cp)).cell 1
   dsimp only [List.set_cons_zero, List.getElem?_cons_zero, List.getElem?_cons_succ] at z1
   have z2 := (F6r.set_ 0 (.slice Ap pl.length cp)).frozen 1
   have F7 := (F6r.set_ 0 (.slice Ap pl.length cp)).set_ 1 (.slice A n c)
   have hTs : Turn (fun g => g = r) w6 ((w6.setCell ⟨r, 0, none⟩ (.slice Ap pl.length cp)).setCell ⟨r, 1, none⟩ (.slice A n c)) := ((Turn.refl (fun g => g = r) w6).setb rfl 0 _).setb rfl 1 _
   have HO := Lib.hid (show Full ((w6.setCell ⟨r, 0, none⟩ (.slice Ap pl.length cp)).setCell ⟨r, 1, none⟩ (.slice A n c)) r 28 [.slice Ap pl.length cp, .slice A n c] ∧ BuildAt ((w6.setCell ⟨r, 0, none⟩ (.slice Ap pl.length cp)).setCell ⟨r, 1, none⟩ (.slice A n c)) w.heap.size (.agg #[.slice Ap pl.length cp, .slice A n c]) pl L ∧ Turn (fun _ => False) w ((w6.setCell ⟨r, 0, none⟩ (.slice Ap pl.length cp)).setCell ⟨r, 1, none⟩ (.slice A n c)) from
     ⟨F7, (hB6.off hTs (fun g e => .inr ⟨28, [.slice none 0 0, .slice none 0 0], (by rw [e]; exact F6r), by decide, by decide⟩)).base hsz2, hT6.late hTs fun g e => .inr (by omega)⟩)
   have HR := Lib.hid hpr
   clear hB6 hT6 hTs F7 F6 F6r F5r hP5 hP6 hT5 hE hpr hb6 HB5 HE5 HQ HFL hw6 hu eok ebad hσ hlt HFA
   go_wp2
   obtain ⟨w8, hw8⟩ : ∃ w8, (w6.setCell ⟨r, 0, none⟩ (.slice Ap pl.length cp)).setCell ⟨r, 1, none⟩ (.slice A n c) = w8 := ⟨_, rfl⟩
   have ho := HO.out
   rw [hw8] at ho ⊢
   have q0 := ho.1.cell 0
   have q1 := ho.1.cell 1
   dsimp only [List.getElem?_cons_zero, List.getElem?_cons_succ] at q0 q1
   refine bodyPost_ret (v := .tuple #[.agg #[.slice Ap pl.length cp, .slice A n c], .int .i64 0, .int .i64 0]) (by simp [results, Tryz.results26, go_sem, q0, q1]) rfl ?_
   rw [HR.out]
   exact ⟨_, rfl, ho.2.1, ho.2.2⟩
 | bad e' l' =>
   obtain ⟨he1, he2, he0⟩ := ebad e' l' hσ
   subst he1 he2
   rw [hσ] at hE
   have hpr := HFL.out.2
   rw [pEndF_bad hE] at hpr
   dsimp only at hpr
   have hne : (e != 0) = true := by simpa using he0
   have z1 := (F6r.set_ 0 (.slice none 0 0)).cell 1
   dsimp only [List.set_cons_zero, List.getElem?_cons_zero, List.getElem?_cons_succ] at z1
   have z2 := (F6r.set_ 0 (.slice none 0 0)).frozen 1
   have HR := Lib.hid hpr
   have HF6r := Lib.hid F6r
   have HT6 := Lib.hid hT6
   clear hB6 hT6 F6 F6r F5r hP5 hP6 hT5 hE hpr hb6 HB5 HE5 HQ HFL hw6 hu eok ebad hσ hlt HFA he0
   go_upto_region 4 with fail
   have HO := Lib.hid (show Full ((w6.setCell ⟨r, 0, none⟩ (.slice none 0 0)).setCell ⟨r, 1, none⟩ (.slice none 0 0)) r 28 [.slice none 0 0, .slice none 0 0] ∧ Turn (fun _ => False) w ((w6.setCell ⟨r, 0, none⟩ (.slice none 0 0)).setCell ⟨r, 1, none⟩ (.slice none 0 0)) from
     ⟨(HF6r.out.set_ 0 _).set_ 1 _, HT6.out.late (((Turn.refl (fun g => g = r) w6).setb rfl 0 (.slice none 0 0)).setb rfl 1 (.slice none 0 0)) fun g e => .inr (by omega)⟩)
   go_region
   go_wp2
   all_goals
     obtain ⟨w8, hw8⟩ : ∃ w8, ((w6.setCell ⟨r, 0, none⟩ (.slice none 0 0)).setCell ⟨r, 1, none⟩ (.slice none 0 0)).drew = w8 := ⟨_, rfl⟩
     have ho : Full w8 r 28 [.slice none 0 0, .slice none 0 0] ∧ Turn (fun _ => False) w w8 := by
       rw [← hw8]
       exact ⟨HO.out.1, HO.out.2.drew⟩
     rw [hw8]
     have q0 := ho.1.cell 0
     have q1 := ho.1.cell 1
     dsimp only [List.getElem?_cons_zero, List.getElem?_cons_succ] at q0 q1
     refine bodyPost_ret (v := .tuple #[.agg #[.slice none 0 0, .slice none 0 0], .int .i64 el, .int .i64 e]) (by simp [results, Tryz.results26, go_sem, q0, q1]) rfl ?_
     rw [HR.out]
     exact ⟨_, rfl, BuildAt.zero w8 _, ho.2⟩
def isWordB (s : List UInt8) : Bool := decide ((first s).1 = 2) && decide ((first s).2 = s.length)
def isPlatB (s : List UInt8) : Bool := isWordB s && !(s == globS)
def isTextB (s : List UInt8) : Bool := decide (run (fun c => !notStr c) s = s.length)
def StrOk (s : List UInt8) : Prop := Asc s ∧ s.length ≤ 4294967000
theorem isWord_any (s : ByteArray) (hs : StrOk s.data.toList) (w : World) : Calls Tryz.prog 95 #[.string s] w (BoolB w (isWordB s.data.toList)) := by
 unfold BoolB isWordB
 have hl := data_len s
 have FA := first_any s (by rw [← hl]; exact hs.2) hs.1 w
 unfold FirstOut at FA
 obtain ⟨c, hc⟩ : ∃ c, (first s.data.toList).1 = c := ⟨_, rfl⟩
 obtain ⟨n, hn⟩ : ∃ c, (first s.data.toList).2 = c := ⟨_, rfl⟩
 rw [hc, hn] at FA
 rw [hc, hn, hl]
 have FA := Lib.hid FA
 have ext : ∀ W, (Instr.extract (.tuple #[.int .i64 (c : Int), .int .i64 (n : Int)]) 0).run Tryz.prog W = .ok (.int .i64 (c : Int)) W := fun W => by kernel_rfl
 by_cases h2 : c = 2
 · by_cases h3 : n = s.size
   · have e1 : ((c : Int) == 2) = true := by rw [h2]; rfl
     have e2 : ((n : Int) == (s.size : Int)) = true := by rw [h3]; simp
     have er : (decide (c = 2) && decide (n = s.size)) = true := by rw [h2, h3]; simp
     rw [er]
     clear ext hc hn h2 h3
     go_enter Tryz.func95, Tryz.ntmps95
     go_wp2_with (first
       | (go_at_call 111; ((with_reducible refine FA.out.mono ?_); rintro en w2 ⟨rfl, hb⟩))
       | (fail "arm"))
     go_ret
     exact ⟨rfl, hb⟩
   · have e1 : ((c : Int) == 2) = true := by rw [h2]; rfl
     have e2 : ((n : Int) == (s.size : Int)) = false := by simp; omega
     have er : (decide (c = 2) && decide (n = s.size)) = false := by simp [h3]
     rw [er]
     clear ext hc hn h2 h3
     go_enter Tryz.func95, Tryz.ntmps95
     go_wp2_with (first
       | (go_at_call 111; ((with_reducible refine FA.out.mono ?_); rintro en w2 ⟨rfl, hb⟩))
       | (fail "arm"))
     go_ret
     exact ⟨rfl, hb⟩
 · have e1 : ((c : Int) == 2) = false := by simp; omega
   have er : (decide (c = 2) && decide (n = s.size)) = false := by simp [h2]
   rw [er]
   clear ext hc hn h2
   go_enter Tryz.func95, Tryz.ntmps95
   go_wp2_with (first
     | (go_at_call 111; ((with_reducible refine FA.out.mono ?_); rintro en w2 ⟨rfl, hb⟩))
     | (fail "arm"))
   go_ret
   exact ⟨rfl, hb⟩
theorem isPlatform_any (s : ByteArray) (hs : StrOk s.data.toList) (w : World) : Calls Tryz.prog 92 #[.string s] w (BoolB w (isPlatB s.data.toList)) := by
 unfold isPlatB
 have WA := isWord_any s hs w
 unfold BoolB at WA ⊢
 obtain ⟨x, hx⟩ : ∃ x, isWordB s.data.toList = x := ⟨_, rfl⟩
 obtain ⟨y, hy⟩ : ∃ y, (s.data.toList == globS) = y := ⟨_, rfl⟩
 rw [hx] at WA
 rw [hx, hy]
 have hy2 : (s.toList == [103, 108, 111, 98]) = y := by rw [Lib.toList_data]; exact hy
 have WA := Lib.hid WA
 clear hx hy hs
 cases x <;> cases y
 all_goals
   go_enter Tryz.func92, Tryz.ntmps92
   go_wp2_with (first
     | (go_at_call 95; ((with_reducible refine WA.out.mono ?_); rintro en w2 ⟨rfl, hb⟩))
     | (fail "arm"))
   all_goals (go_ret; exact ⟨rfl, hb⟩)
theorem isText_any (s : ByteArray) (hs : StrOk s.data.toList) (w : World) : Calls Tryz.prog 126 #[.string s] w (BoolB w (isTextB s.data.toList)) := by
 unfold BoolB isTextB
 have hl := data_len s
 have hq := hs.2
 have IA := Tryz.strings_ContainsAny_laid s ⟨#[34, 10]⟩ w (by omega) (by decide) (fun j b hj => hs.1 b (List.mem_of_getElem? hj)) (fun j b hj => by
   have := List.mem_of_getElem? hj
   simp at this
   rcases this with rfl | rfl <;> decide)
 have e : Lib.containsAny s.data.toList (⟨#[34, 10]⟩ : ByteArray).data.toList = !(decide (run (fun c => !notStr c) s.data.toList = s.data.toList.length)) := by
   show decide (0 ≤ Lib.indexAny s.data.toList [34, 10]) = _
   rw [str_idx]
   have hr := run_le (fun c => !notStr c) s.data.toList
   split
   · rename_i h
     rw [decide_eq_false (p := _ = _) (by omega)]
     simp
   · rename_i h
     rw [decide_eq_true (p := run _ _ = _) (by omega)]
     rfl
 rw [e] at IA
 obtain ⟨x, hx⟩ : ∃ x, decide (run (fun c => !notStr c) s.data.toList = s.data.toList.length) = x := ⟨_, rfl⟩
 rw [hx] at IA
 rw [hx]
 have IA := Lib.hid IA
 clear hx e hs
 cases x
 all_goals
   go_enter Tryz.func126, Tryz.ntmps126
   go_wp2_with (first
     | (go_at_call 140; ((with_reducible refine IA.out.mono ?_); rintro en w2 ⟨rfl, hb⟩))
     | (fail "arm"))
   all_goals (go_ret; exact ⟨rfl, hb⟩)
def ItmOk (i : Itm) : Prop := StrOk i.tx ∧ StrOk i.pl
theorem strOk_str {s : List UInt8} (h : StrOk s) : StrOk (str s).data.toList := by rw [str_data]; exact h
def rPlat (i : Itm) : Bool := isPlatB i.tx && !i.gl && (i.pl == [])
def rSource (i : Itm) : Bool := isTextB i.tx && ((i.pl == []) || isPlatB i.pl)
def rDep (i : Itm) : Bool := rSource i && !i.gl
def rText (i : Itm) : Bool := rDep i && (i.pl == [])
theorem empty_eq (s : List UInt8) : ((str s).toList == []) = (s == []) := by rw [Lib.toList_data, str_data]
theorem bare_any (i : Itm) (w : World) : Calls Tryz.prog 54 #[itmV i] w (StrB w (str i.tx)) := by
 unfold StrB itmV
 obtain ⟨x0, hx0⟩ : ∃ x, str i.tx = x := ⟨_, rfl⟩
 obtain ⟨x2, hx2⟩ : ∃ x, str i.pl = x := ⟨_, rfl⟩
 obtain ⟨g, hg⟩ : ∃ x, i.gl = x := ⟨_, rfl⟩
 obtain ⟨l, hl⟩ : ∃ x : Nat, i.ln = x := ⟨_, rfl⟩
 rw [hx0, hx2, hg, hl]
 clear hx0 hx2 hg hl
 obtain ⟨w1, hw1⟩ : ∃ w1, w.alloc (.cells #[.string x0, .bool g, .string x2, .int .i64 (l : Int)] 52) = w1 := ⟨_, rfl⟩
 have hb1 : Below w.heap.size w w1 := by rw [← hw1]; exact (Below.refl _ w).alloc (Nat.le_refl _) _
 have F1 : Full w1 w.heap.size 52 [.string x0, .bool g, .string x2, .int .i64 (l : Int)] := by rw [← hw1]; exact Full.new w 52 _
 have c0 : w1.cell? ⟨w.heap.size, 0, none⟩ = some (.string x0) := F1.cell 0
 have HB := Lib.hid hb1
 clear F1 hb1
 go_enter Tryz.func54, Tryz.ntmps54
 go_wp2
 go_ret
 exact ⟨rfl, HB.out⟩
theorem rightPlatform_any (i : Itm) (hi : ItmOk i) (w : World) : Calls Tryz.prog 57 #[itmV i] w (BoolB w (rPlat i)) := by
 unfold BoolB itmV
 obtain ⟨x0, hx0⟩ : ∃ x, str i.tx = x := ⟨_, rfl⟩
 obtain ⟨x2, hx2⟩ : ∃ x, str i.pl = x := ⟨_, rfl⟩
 obtain ⟨g, hg⟩ : ∃ x, i.gl = x := ⟨_, rfl⟩
 obtain ⟨l, hl⟩ : ∃ x : Nat, i.ln = x := ⟨_, rfl⟩
 have e2 := empty_eq i.pl
 rw [hx2] at e2
 obtain ⟨z, hz⟩ : ∃ z, (i.pl == []) = z := ⟨_, rfl⟩
 rw [hz] at e2
 obtain ⟨w1, hw1⟩ : ∃ w1, w.alloc (.cells #[.string x0, .bool g, .string x2, .int .i64 (l : Int)] 52) = w1 := ⟨_, rfl⟩
 have hb1 : Below w.heap.size w w1 := by rw [← hw1]; exact (Below.refl _ w).alloc (Nat.le_refl _) _
 have F1 : Full w1 w.heap.size 52 [.string x0, .bool g, .string x2, .int .i64 (l : Int)] := by rw [← hw1]; exact Full.new w 52 _
 obtain ⟨r, hr⟩ : ∃ r, w.heap.size = r := ⟨_, rfl⟩
 rw [hr] at F1
 have c0 : w1.cell? ⟨r, 0, none⟩ = some (.string x0) := F1.cell 0
 have c1 : w1.cell? ⟨r, 1, none⟩ = some (.bool g) := F1.cell 1
 have c2 : w1.cell? ⟨r, 2, none⟩ = some (.string x2) := F1.cell 2
 have c3 : w1.cell? ⟨r, 3, none⟩ = some (.int .i64 (l : Int)) := F1.cell 3
 have PA := isPlatform_any (str i.tx) (strOk_str hi.1) w1
 rw [str_data, hx0] at PA
 unfold BoolB at PA
 unfold rPlat
 rw [hx0, hx2, hg, hl, hz]
 obtain ⟨y, hy⟩ : ∃ y, isPlatB i.tx = y := ⟨_, rfl⟩
 rw [hy] at PA
 rw [hy]
 have PA := Lib.hid PA
 have F1H := Lib.hid F1
 have HB1 := Lib.hid hb1
 clear hx0 hx2 hg hl hz hy F1 hb1 hi
 cases y <;> cases g <;> cases z
 all_goals
   go_enter Tryz.func57, Tryz.ntmps57
   go_wp2_with (first
     | (go_at_call 92; ((with_reducible refine PA.out.mono ?_); rintro en w2 ⟨rfl, hb2⟩; (have F2 := F1H.out.on hb2); (have d1 := F2.cell 1); (have d2 := F2.cell 2); (dsimp only [List.getElem?_cons_zero, List.getElem?_cons_succ] at d1 d2); (have HB2 := Lib.hid (HB1.out.trans (hb2.mono HB1.out.size)))))
     | (fail "arm"))
   all_goals (go_ret; exact ⟨rfl, HB2.out⟩)
set_option maxHeartbeats 1000000 in
theorem rightSource_any (i : Itm) (hi : ItmOk i) (w : World) : Calls Tryz.prog 98 #[itmV i] w (BoolB w (rSource i)) := by
 unfold BoolB itmV
 obtain ⟨x0, hx0⟩ : ∃ x, str i.tx = x := ⟨_, rfl⟩
 obtain ⟨x2, hx2⟩ : ∃ x, str i.pl = x := ⟨_, rfl⟩
 obtain ⟨g, hg⟩ : ∃ x, i.gl = x := ⟨_, rfl⟩
 obtain ⟨l, hl⟩ : ∃ x : Nat, i.ln = x := ⟨_, rfl⟩
 have e2 := empty_eq i.pl
 rw [hx2] at e2
 obtain ⟨z, hz⟩ : ∃ z, (i.pl == []) = z := ⟨_, rfl⟩
 rw [hz] at e2
 obtain ⟨w1, hw1⟩ : ∃ w1, w.alloc (.cells #[.string x0, .bool g, .string x2, .int .i64 (l : Int)] 52) = w1 := ⟨_, rfl⟩
 have hb1 : Below w.heap.size w w1 := by rw [← hw1]; exact (Below.refl _ w).alloc (Nat.le_refl _) _
 have F1 : Full w1 w.heap.size 52 [.string x0, .bool g, .string x2, .int .i64 (l : Int)] := by rw [← hw1]; exact Full.new w 52 _
 obtain ⟨r, hr⟩ : ∃ r, w.heap.size = r := ⟨_, rfl⟩
 rw [hr] at F1
 have c0 : w1.cell? ⟨r, 0, none⟩ = some (.string x0) := F1.cell 0
 have c1 : w1.cell? ⟨r, 1, none⟩ = some (.bool g) := F1.cell 1
 have c2 : w1.cell? ⟨r, 2, none⟩ = some (.string x2) := F1.cell 2
 have c3 : w1.cell? ⟨r, 3, none⟩ = some (.int .i64 (l : Int)) := F1.cell 3
 have TA := isText_any (str i.tx) (strOk_str hi.1) w1
 rw [str_data, hx0] at TA
 have PA := fun W => isPlatform_any (str i.pl) (strOk_str hi.2) W
 rw [str_data, hx2] at PA
 unfold BoolB at PA TA
 unfold rSource
 rw [hx0, hx2, hg, hl, hz]
 obtain ⟨y, hy⟩ : ∃ y, isTextB i.tx = y := ⟨_, rfl⟩
 obtain ⟨u, hu⟩ : ∃ y, isPlatB i.pl = y := ⟨_, rfl⟩
 rw [hy] at TA
 rw [hu] at PA
 rw [hy, hu]
 have PA := Lib.hid PA
 have TA := Lib.hid TA
 have F1H := Lib.hid F1
 have HB1 := Lib.hid hb1
 clear hx0 hx2 hg hl hz hy hu F1 hb1 hi
 cases y <;> cases z <;> cases u
 all_goals
   go_enter Tryz.func98, Tryz.ntmps98
   go_wp2_with (first
     | (go_at_call 126; ((with_reducible refine TA.out.mono ?_); rintro en w2 ⟨rfl, hb2⟩; (have F2 := F1H.out.on hb2); (have d1 := F2.cell 1); (have d2 := F2.cell 2); (dsimp only [List.getElem?_cons_zero, List.getElem?_cons_succ] at d1 d2); (have HB2 := Lib.hid (HB1.out.trans (hb2.mono HB1.out.size)))))
     | (go_at_call 92; ((with_reducible refine (PA.out _).mono ?_); rintro en w3 ⟨rfl, hb3⟩; (have HB3 := Lib.hid (HB2.out.trans (hb3.mono (HB2.out.size))))))
     | (fail "arm"))
   all_goals (go_ret; first | exact ⟨rfl, HB3.out⟩ | exact ⟨rfl, HB2.out⟩)
theorem rightDep_any (i : Itm) (hi : ItmOk i) (w : World) : Calls Tryz.prog 99 #[itmV i] w (BoolB w (rDep i)) := by
 unfold BoolB itmV
 obtain ⟨x0, hx0⟩ : ∃ x, str i.tx = x := ⟨_, rfl⟩
 obtain ⟨x2, hx2⟩ : ∃ x, str i.pl = x := ⟨_, rfl⟩
 obtain ⟨g, hg⟩ : ∃ x, i.gl = x := ⟨_, rfl⟩
 obtain ⟨l, hl⟩ : ∃ x : Nat, i.ln = x := ⟨_, rfl⟩
 have e2 := empty_eq i.pl
 rw [hx2] at e2
 obtain ⟨z, hz⟩ : ∃ z, (i.pl == []) = z := ⟨_, rfl⟩
 rw [hz] at e2
 obtain ⟨w1, hw1⟩ : ∃ w1, w.alloc (.cells #[.string x0, .bool g, .string x2, .int .i64 (l : Int)] 52) = w1 := ⟨_, rfl⟩
 have hb1 : Below w.heap.size w w1 := by rw [← hw1]; exact (Below.refl _ w).alloc (Nat.le_refl _) _
 have F1 : Full w1 w.heap.size 52 [.string x0, .bool g, .string x2, .int .i64 (l : Int)] := by rw [← hw1]; exact Full.new w 52 _
 obtain ⟨r, hr⟩ : ∃ r, w.heap.size = r := ⟨_, rfl⟩
 rw [hr] at F1
 have c0 : w1.cell? ⟨r, 0, none⟩ = some (.string x0) := F1.cell 0
 have c1 : w1.cell? ⟨r, 1, none⟩ = some (.bool g) := F1.cell 1
 have c2 : w1.cell? ⟨r, 2, none⟩ = some (.string x2) := F1.cell 2
 have c3 : w1.cell? ⟨r, 3, none⟩ = some (.int .i64 (l : Int)) := F1.cell 3
 have PA := rightSource_any i hi w1
 unfold itmV at PA
 rw [hx0, hx2, hg, hl] at PA
 unfold BoolB at PA
 unfold rDep
 rw [hx0, hx2, hg, hl]
 first | rw [hg] | rw [hz] | skip
 obtain ⟨y, hy⟩ : ∃ y, rSource i = y := ⟨_, rfl⟩
 rw [hy] at PA
 rw [hy]
 have PA := Lib.hid PA
 have F1H := Lib.hid F1
 have HB1 := Lib.hid hb1
 clear hx0 hx2 hg hl hz hy F1 hb1 hi
 cases y <;> cases g <;> cases z
 all_goals
   go_enter Tryz.func99, Tryz.ntmps99
   go_wp2_with (first
     | (go_at_call 98; ((with_reducible refine PA.out.mono ?_); rintro en w2 ⟨rfl, hb2⟩; (have F2 := F1H.out.on hb2); (have d1 := F2.cell 1); (have d2 := F2.cell 2); (dsimp only [List.getElem?_cons_zero, List.getElem?_cons_succ] at d1 d2); (have HB2 := Lib.hid (HB1.out.trans (hb2.mono HB1.out.size)))))
     | (fail "arm"))
   all_goals (go_ret; exact ⟨rfl, HB2.out⟩)
theorem rightText_any (i : Itm) (hi : ItmOk i) (w : World) : Calls Tryz.prog 100 #[itmV i] w (BoolB w (rText i)) := by
 unfold BoolB itmV
 obtain ⟨x0, hx0⟩ : ∃ x, str i.tx = x := ⟨_, rfl⟩
 obtain ⟨x2, hx2⟩ : ∃ x, str i.pl = x := ⟨_, rfl⟩
 obtain ⟨g, hg⟩ : ∃ x, i.gl = x := ⟨_, rfl⟩
 obtain ⟨l, hl⟩ : ∃ x : Nat, i.ln = x := ⟨_, rfl⟩
 have e2 := empty_eq i.pl
 rw [hx2] at e2
 obtain ⟨z, hz⟩ : ∃ z, (i.pl == []) = z := ⟨_, rfl⟩
 rw [hz] at e2
 obtain ⟨w1, hw1⟩ : ∃ w1, w.alloc (.cells #[.string x0, .bool g, .string x2, .int .i64 (l : Int)] 52) = w1 := ⟨_, rfl⟩
 have hb1 : Below w.heap.size w w1 := by rw [← hw1]; exact (Below.refl _ w).alloc (Nat.le_refl _) _
 have F1 : Full w1 w.heap.size 52 [.string x0, .bool g, .string x2, .int .i64 (l : Int)] := by rw [← hw1]; exact Full.new w 52 _
 obtain ⟨r, hr⟩ : ∃ r, w.heap.size = r := ⟨_, rfl⟩
 rw [hr] at F1
 have c0 : w1.cell? ⟨r, 0, none⟩ = some (.string x0) := F1.cell 0
 have c1 : w1.cell? ⟨r, 1, none⟩ = some (.bool g) := F1.cell 1
 have c2 : w1.cell? ⟨r, 2, none⟩ = some (.string x2) := F1.cell 2
 have c3 : w1.cell? ⟨r, 3, none⟩ = some (.int .i64 (l : Int)) := F1.cell 3
 have PA := rightDep_any i hi w1
 unfold itmV at PA
 rw [hx0, hx2, hg, hl] at PA
 unfold BoolB at PA
 unfold rText
 rw [hx0, hx2, hg, hl]
 first | rw [hg] | rw [hz] | skip
 obtain ⟨y, hy⟩ : ∃ y, rDep i = y := ⟨_, rfl⟩
 rw [hy] at PA
 rw [hy]
 have PA := Lib.hid PA
 have F1H := Lib.hid F1
 have HB1 := Lib.hid hb1
 clear hx0 hx2 hg hl hz hy F1 hb1 hi
 cases y <;> cases g <;> cases z
 all_goals
   go_enter Tryz.func100, Tryz.ntmps100
   go_wp2_with (first
     | (go_at_call 99; ((with_reducible refine PA.out.mono ?_); rintro en w2 ⟨rfl, hb2⟩; (have F2 := F1H.out.on hb2); (have d1 := F2.cell 1); (have d2 := F2.cell 2); (dsimp only [List.getElem?_cons_zero, List.getElem?_cons_succ] at d1 d2); (have HB2 := Lib.hid (HB1.out.trans (hb2.mono HB1.out.size)))))
     | (fail "arm"))
   all_goals (go_ret; exact ⟨rfl, HB2.out⟩)
def Itms (w : World) (B : Nat) (A : Option Addr) (c : Nat) (l : List Itm) : Prop := Row w B 4 A l.length c (itmsC l)
theorem Row.cell_at {w : World} {B size n c : Nat} {A : Option Addr} {xs : List Value} (h : Row w B size A n c xs) {k : Nat} {u : Value} (hu : xs[k]? = some u) : ∃ ad, A = some ad ∧ ad.block < B ∧ w.cell? (ad.add k) = some u := h.2.2.2 k u hu
theorem add_off (ad : Addr) (k j : Nat) (hj : 0 < j) : ad.add (k + j) = ⟨(ad.add k).block, (ad.add k).off + j, none⟩ := by
 rw [← add_twice]
 unfold Addr.add
 by_cases hk : k = 0 <;> simp [hk] <;> omega
theorem Itms.at_ {w : World} {B : Nat} {A : Option Addr} {c : Nat} {l : List Itm} (h : Itms w B A c l) {k : Nat} (hk : k < l.length) : ∃ ad, A = some ad ∧ ad.block < B ∧ w.cell? (ad.add (k * 4)) = some (.string (str l[k].tx)) ∧
   w.cell? ⟨(ad.add (k * 4)).block, (ad.add (k * 4)).off + 1, none⟩ = some (.bool l[k].gl) ∧ w.cell? ⟨(ad.add (k * 4)).block, (ad.add (k * 4)).off + 2, none⟩ = some (.string (str l[k].pl)) ∧ w.cell? ⟨(ad.add (k * 4)).block, (ad.add (k * 4)).off + 3, none⟩ = some (.int .i64 (l[k].ln : Int)) := by
 have e := fun j hj => flat_at itmC 4 (fun i => rfl) l k j hk hj
 obtain ⟨ad, rfl, hb, h0⟩ := Row.cell_at h (e 0 (by decide))
 obtain ⟨_, e1, _, h1⟩ := Row.cell_at h (e 1 (by decide))
 obtain ⟨_, e2, _, h2⟩ := Row.cell_at h (e 2 (by decide))
 obtain ⟨_, e3, _, h3⟩ := Row.cell_at h (e 3 (by decide))
 injection e1 with e1
 injection e2 with e2
 injection e3 with e3
 subst e1 e2 e3
 rw [add_off _ _ _ (by decide)] at h1 h2 h3
 exact ⟨ad, rfl, hb, h0, h1, h2, h3⟩
def Tgts (w : World) (B : Nat) (A : Option Addr) (c : Nat) (l : List (Tgt × (Nat → Value))) : Prop := Row w B 9 A l.length c (tgtsC l)
theorem Tgts.at_ {w : World} {B : Nat} {A : Option Addr} {c : Nat} {l : List (Tgt × (Nat → Value))} (h : Tgts w B A c l) {k : Nat} (hk : k < l.length) : ∃ ad, A = some ad ∧ ad.block < B ∧ w.cell? (ad.add (k * 9)) = some (.string (str l[k].1.name)) ∧
   w.cell? ⟨(ad.add (k * 9)).block, (ad.add (k * 9)).off + 1, none⟩ = some (.int .i64 l[k].1.kind) ∧ w.cell? ⟨(ad.add (k * 9)).block, (ad.add (k * 9)).off + 2, none⟩ = some (.int .i64 (l[k].1.line : Int)) ∧ w.cell? ⟨(ad.add (k * 9)).block, (ad.add (k * 9)).off + 3, none⟩ = some (l[k].2 0) ∧ w.cell? ⟨(ad.add (k * 9)).block, (ad.add (k * 9)).off + 4, none⟩ = some (l[k].2 1) ∧ w.cell? ⟨(ad.add (k * 9)).block, (ad.add (k * 9)).off + 5, none⟩ = some (l[k].2 2) ∧ w.cell? ⟨(ad.add (k * 9)).block, (ad.add (k * 9)).off + 6, none⟩ = some (l[k].2 3) ∧ w.cell? ⟨(ad.add (k * 9)).block, (ad.add (k * 9)).off + 7, none⟩ = some (.int .i64 l[k].1.cost) ∧ w.cell? ⟨(ad.add (k * 9)).block, (ad.add (k * 9)).off + 8, none⟩ = some (.int .i64 l[k].1.retry) := by
 have e := fun j hj => flat_at tgtC 9 (fun i => rfl) l k j hk hj
 obtain ⟨ad, rfl, hb, h0⟩ := Row.cell_at h (e 0 (by decide))
 obtain ⟨_, e1, _, h1⟩ := Row.cell_at h (e 1 (by decide))
 obtain ⟨_, e2, _, h2⟩ := Row.cell_at h (e 2 (by decide))
 obtain ⟨_, e3, _, h3⟩ := Row.cell_at h (e 3 (by decide))
 obtain ⟨_, e4, _, h4⟩ := Row.cell_at h (e 4 (by decide))
 obtain ⟨_, e5, _, h5⟩ := Row.cell_at h (e 5 (by decide))
 obtain ⟨_, e6, _, h6⟩ := Row.cell_at h (e 6 (by decide))
 obtain ⟨_, e7, _, h7⟩ := Row.cell_at h (e 7 (by decide))
 obtain ⟨_, e8, _, h8⟩ := Row.cell_at h (e 8 (by decide))
 injection e1 with e1
 injection e2 with e2
 injection e3 with e3
 injection e4 with e4
 injection e5 with e5
 injection e6 with e6
 injection e7 with e7
 injection e8 with e8
 subst e1 e2 e3 e4 e5 e6 e7 e8
 rw [add_off _ _ _ (by decide)] at h1 h2 h3 h4 h5 h6 h7 h8
 exact ⟨ad, rfl, hb, h0, h1, h2, h3, h4, h5, h6, h7, h8⟩
def lead {α : Type} (P : α → Bool) : List α → Nat
 | [] => 0
 | x :: t => if P x then 0 else lead P t + 1
theorem lead_le {α : Type} (P : α → Bool) : ∀ l : List α, lead P l ≤ l.length
 | [] => Nat.le_refl _
 | x :: t => by
   rw [lead]
   have := lead_le P t
   split
   · simp
   · simp; omega
theorem lead_hit {α : Type} (P : α → Bool) : ∀ (l : List α) (k : Nat) (hk : k < l.length), k ≤ lead P l → P l[k] = true → lead P l = k
 | [], k, hk, _, _ => by simp at hk
 | x :: t, 0, _, _, h => by rw [lead, if_pos (show P x = true from h)]
 | x :: t, k + 1, hk, hl, h => by
   rw [lead] at hl ⊢
   by_cases hx : P x = true
   · rw [if_pos hx] at hl; omega
   · rw [if_neg hx] at hl ⊢
     rw [lead_hit P t k (by simpa using hk) (by omega) h]
theorem lead_miss {α : Type} (P : α → Bool) : ∀ (l : List α) (k : Nat) (hk : k < l.length), k ≤ lead P l → P l[k] = false → k + 1 ≤ lead P l
 | [], k, hk, _, _ => by simp at hk
 | x :: t, 0, _, _, h => by rw [lead, if_neg (show ¬ P x = true by rw [show P x = false from h]; decide)]; omega
 | x :: t, k + 1, hk, hl, h => by
   rw [lead] at hl ⊢
   by_cases hx : P x = true
   · rw [if_pos hx] at hl; omega
   · rw [if_neg hx] at hl ⊢
     have := lead_miss P t k (by simpa using hk) (by omega) h
     omega
theorem lead_all {α : Type} (P : α → Bool) : ∀ l : List α, decide (lead P l < l.length) = l.any P
 | [] => rfl
 | x :: t => by
   rw [lead, List.any_cons]
   by_cases hx : P x = true
   · rw [if_pos hx, hx]; simp
   · rw [if_neg hx]
     have := lead_all P t
     rw [show P x = false by simpa using hx, Bool.false_or, ← this]
     simp
def idxV (k n : Nat) : Int := if k < n then (k : Int) else -1
def IdxOut (w : World) (r : Int) (en : Ending) (w' : World) : Prop := en = .returned (.int .i64 r) ∧ Below w.heap.size w w'
set_option maxHeartbeats 2000000 in
theorem index_91 {w : World} {B c : Nat} {A : Option Addr} {l : List Itm} (hA : Itms w B A c l) (hB : B ≤ w.heap.size) (hl : l.length ≤ maxLen) (xp : Addr) (P : Itm → Bool)
   (EL : ∀ W, Below w.heap.size w W → ∀ i ∈ l, Calls Tryz.prog 91 #[itmV i, .pointer (some xp)] W (BoolB W (P i))) :
   Calls Tryz.prog 124 #[.slice A l.length c, .func (.func 91) #[] #[.pointer (some xp)]] w (IdxOut w (idxV (lead P l) l.length)) := by
 unfold maxLen at hl
 unfold IdxOut
 obtain ⟨n, hn⟩ : ∃ n, l.length = n := ⟨_, rfl⟩
 obtain ⟨m, hm⟩ : ∃ n, lead P l = n := ⟨_, rfl⟩
 have hmn := lead_le P l
 have hcap := hA.2.1
 rw [hn] at hl hcap hmn ⊢
 rw [hm] at hmn ⊢
 have HNM := Lib.hid (And.intro hn hm)
 have HEL := Lib.hid EL
 clear EL hn hm
 go_enter Tryz.func124, Tryz.ntmps124
 go_upto_region 2 with fail
 go_loopw [8] (fun i wr => ∃ k : Nat, i = .int .i64 (k : Int) ∧ k ≤ n ∧ k ≤ m ∧ Below w.heap.size w wr) (fun i _ => n - (intOf i).toNat)
 case atStart => exact ⟨0, rfl, Nat.zero_le _, Nat.zero_le _, Below.refl _ _⟩
 case round =>
   obtain ⟨k, rfl, hk, hkm, hBw⟩ := hrel
   have hi0 : (0 : Int) ≤ (k : Int) := Int.natCast_nonneg _
   by_cases hlt : k < n
   · have hi1 : (k : Int) < (n : Int) := by omega
     have hd : decide ((k : Int) < (n : Int)) = true := by simp; omega
     have hkl : k < l.length := by have := HNM.out.1; omega
     obtain ⟨ad, rfl, hadB, x0, x1, x2, x3⟩ := (show Itms wr B A c l from Row.below hA hBw hB).at_ hkl
     have EL1 := HEL.out wr hBw l[k] (List.getElem_mem hkl)
     unfold itmV BoolB at EL1
     obtain ⟨y0, hy0⟩ : ∃ y, str l[k].tx = y := ⟨_, rfl⟩
     obtain ⟨y1, hy1⟩ : ∃ y, l[k].gl = y := ⟨_, rfl⟩
     obtain ⟨y2, hy2⟩ : ∃ y, str l[k].pl = y := ⟨_, rfl⟩
     obtain ⟨y3, hy3⟩ : ∃ y : Nat, l[k].ln = y := ⟨_, rfl⟩
     obtain ⟨p, hp⟩ : ∃ p, P l[k] = p := ⟨_, rfl⟩
     rw [hy0] at x0 EL1
     rw [hy1] at x1 EL1
     rw [hy2] at x2 EL1
     rw [hy3] at x3 EL1
     rw [hp] at EL1
     have EL1 := Lib.hid EL1
     have hcap' : n ≤ c := hcap
     cases p with
     | true =>
       have HM := Lib.hid (lead_hit P l k hkl (by rw [HNM.out.2]; exact hkm) hp)
       clear hy0 hy1 hy2 hy3 hp
       go_wp2_with (first
         | (go_at_call 91; ((with_reducible refine EL1.out.mono ?_); rintro en w2 ⟨rfl, hb⟩; (have HB2 := Lib.hid (hBw.trans (hb.mono hBw.size)))))
         | (fail "arm"))
       go_ret
       have e := HM.out
       rw [HNM.out.2] at e
       subst e
       refine ⟨?_, HB2.out⟩
       unfold idxV
       rw [if_pos hlt]
       rfl
     | false =>
       have HM := Lib.hid (lead_miss P l k hkl (by rw [HNM.out.2]; exact hkm) hp)
       rw [HNM.out.2] at HM
       clear hy0 hy1 hy2 hy3 hp
       go_wp2_with (first
         | (go_at_call 91; ((with_reducible refine EL1.out.mono ?_); rintro en w2 ⟨rfl, hb⟩; (have HB2 := Lib.hid (hBw.trans (hb.mono hBw.size)))))
         | (fail "arm"))
       go_roundw
       case rel => exact ⟨k + 1, by simp, hlt, HM.out, HB2.out⟩
       case measure => show n - ((k : Int) + 1).toNat < n - (k : Int).toNat; omega
   · obtain rfl : k = n := by omega
     have hd : decide ((k : Int) < (k : Int)) = false := by simp
     have hm2 : m = k := by omega
     subst hm2
     have HB2 := Lib.hid hBw
     go_wp2
     go_ret
     refine ⟨?_, HB2.out⟩
     unfold idxV
     rw [if_neg (by omega)]
     rfl
end Go.Proofs.YtcjoiiaankngjaaGreatDoor
