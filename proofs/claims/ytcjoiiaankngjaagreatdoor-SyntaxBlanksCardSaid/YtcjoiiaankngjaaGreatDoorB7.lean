/- The Syntax seat, part 7: contracts of the program and of the reference. -/
import Derived.Test.YtcjoiiaankngjaaGreatDoorB6
namespace Go.Proofs.YtcjoiiaankngjaaGreatDoor
set_option maxRecDepth 100000
open Go.RowKit
def ctCost (T : Tgt) : List Ct := if T.cost = 1 then [] else [(1, wCost), (2, itoaB T.cost), (4, [59])]
def ctRetry (T : Tgt) : List Ct := if T.retry = 0 then [] else [(1, wRetry), (2, itoaB T.retry), (4, [59])]
def tTgt (T : Tgt) : List Ct := (1, wTarget) :: (1, T.name) :: (4, [123]) :: (1, wKind) :: (1, kw T.kind.toNat) :: (4, [59]) ::
 (tAttr wSrcs (T.rows 0) ++ (tAttr wDeps (T.rows 1) ++ (tAttr wOut (T.rows 2) ++ (tAttr wVis (T.rows 3) ++ (ctCost T ++ (ctRetry T ++ [(4, [125])]))))))
def plT (T : Tgt) : Tgt := ⟨T.name, T.kind, 0, fun i => if i < 4 then (T.rows i).map plI else [], T.cost, T.retry, 0, fun _ => false⟩
structure Fit (T : Tgt) : Prop where
 kind : 1 ≤ T.kind ∧ T.kind ≤ 4
 srcs : ∀ y ∈ T.rows 0, y.pl ≠ globS
 deps : ∀ y ∈ T.rows 1, y.gl = false ∧ y.pl ≠ globS
 outs : ∀ y ∈ T.rows 2, y.gl = false ∧ y.pl = []
 viss : ∀ y ∈ T.rows 3, y.gl = false ∧ y.pl = []
 cost : 1 ≤ T.cost ∧ T.cost ≤ 1000
 retry : 0 ≤ T.retry ∧ T.retry ≤ 5 ∧ (T.retry = 0 ∨ T.kind = 3)
section
variable {l : List RTok} {ts : List Ct}
theorem tcost_step {k : Nat} {T T0 : Tgt} {sn : Nat → Bool} (hF : Fit T) (h0 : T0.cost = 1) (hs : sn 1 = false) (h2 : sn 2 = false) (h : Mt l k (ctCost T ++ ts)) :
   ∃ r sn', r ≤ (ctCost T).length ∧ sn' 2 = false ∧ ∀ f, rLoop l (f + r) ⟨At k, T0, sn⟩ = rLoop l f ⟨At (k + (ctCost T).length), { T0 with cost := T.cost }, sn'⟩ := by
 unfold ctCost at h ⊢
 by_cases e : T.cost = 1
 · rw [if_pos e] at h ⊢
   refine ⟨0, sn, Nat.le_refl _, h2, fun f => ?_⟩
   rw [e, ← h0]
   rfl
 · rw [if_neg e] at h ⊢
   refine ⟨1, upd sn 1 true, by simp, ?_, fun f => cost_hit hF.cost.1 hF.cost.2 hs h f⟩
   unfold upd
   rw [if_neg (by decide), h2]
theorem tretry_step {k : Nat} {T T0 : Tgt} {sn : Nat → Bool} (hF : Fit T) (h0 : T0.retry = 0) (h2 : sn 2 = false) (h : Mt l k (ctRetry T ++ ts)) :
   ∃ r sn' ln, r ≤ (ctRetry T).length ∧ ∀ f, rLoop l (f + r) ⟨At k, T0, sn⟩ = rLoop l f ⟨At (k + (ctRetry T).length), { T0 with retry := T.retry, rl := ln }, sn'⟩ := by
 unfold ctRetry at h ⊢
 by_cases e : T.retry = 0
 · rw [if_pos e] at h ⊢
   refine ⟨0, sn, T0.rl, Nat.le_refl _, fun f => ?_⟩
   rw [e, ← h0]
   rfl
 · rw [if_neg e] at h ⊢
   obtain ⟨ln, hl⟩ := retry_hit (T := T0) hF.retry.1 hF.retry.2.1 h2 h
   exact ⟨1, upd sn 2 true, ln, by simp, hl⟩
theorem loop_end {k f : Nat} {T : Tgt} {sn : Nat → Bool} (h : Mt l k ((4, [125]) :: ts)) : rLoop l (f + 1) ⟨At k, T, sn⟩ = ⟨At (k + 1), T, sn⟩ := by
 rw [rLoop, if_pos rfl]
 dsimp only
 rw [take_hit h, if_pos rfl]
theorem tgt_hit {k line : Nat} {T : Tgt} {bf : List (List UInt8)} (hF : Fit T) (hb : T.name ∉ bf) (h : Mt l k (tTgt T ++ ts)) :
   ∃ T', rTgtF l line bf (At (k + 1)) = (T', At (k + (tTgt T).length)) ∧ plT T' = plT T ∧ T'.line = line := by
 have hlen : k + (tTgt T).length ≤ l.length := by
   obtain ⟨r, h⟩ := h
   have e := congrArg List.length h
   simp only [List.length_map, List.length_drop, List.length_append] at e
   have : 1 ≤ (tTgt T).length := by unfold tTgt; simp
   omega
 unfold tTgt at h hlen ⊢
 simp only [List.cons_append, List.append_assoc] at h
 have h1 := h.cons.2.2.2
 have h2 := h1.cons.2.2.2
 have h3 := h2.cons.2.2.2
 have h4 := h3.cons.2.2.2.cons.2.2.2.cons.2.2.2
 obtain ⟨kp, hkp⟩ : ∃ z, k + 1 + 1 + 1 + 1 + 1 + 1 = z := ⟨_, rfl⟩
 rw [hkp] at h4
 obtain ⟨r0, g0, s0, e0, f0⟩ := rows_hit wrd0 (sn := upd (fun _ => false) 0 true) _ (T.rows 0) kp { rT0 T.name line with kind := T.kind } (Nat.le_refl _) (fun y hy => ⟨fun _ => rfl, fun _ => ⟨rfl, hF.srcs y hy⟩⟩) h4
 have h5 := h4.app.2
 obtain ⟨r1, g1, s1, e1, f1⟩ := rows_hit wrd1 (sn := upd (fun _ => false) 0 true) _ (T.rows 1) _ { rT0 T.name line with kind := T.kind, rows := upd (rT0 T.name line).rows 0 ((rT0 T.name line).rows 0 ++ g0) } (Nat.le_refl _) (fun y hy => ⟨fun q => absurd q (by rw [(hF.deps y hy).1]; decide), fun _ => ⟨rfl, (hF.deps y hy).2⟩⟩) h5
 have h6 := h5.app.2
 obtain ⟨R1, hR1⟩ : ∃ z, upd (upd (rT0 T.name line).rows 0 ((rT0 T.name line).rows 0 ++ g0)) 1 (upd (rT0 T.name line).rows 0 ((rT0 T.name line).rows 0 ++ g0) 1 ++ g1) = z := ⟨_, rfl⟩
 obtain ⟨r2, g2, s2, e2, f2⟩ := rows_hit wrd2 (sn := upd (fun _ => false) 0 true) _ (T.rows 2) _ { rT0 T.name line with kind := T.kind, rows := R1 } (Nat.le_refl _) (fun y hy => ⟨fun q => absurd q (by rw [(hF.outs y hy).1]; decide), fun q => absurd (hF.outs y hy).2 q⟩) h6
 have h7 := h6.app.2
 obtain ⟨R2, hR2⟩ : ∃ z, upd R1 2 (R1 2 ++ g2) = z := ⟨_, rfl⟩
 obtain ⟨r3, g3, s3, e3, f3⟩ := rows_hit wrd3 (sn := upd (fun _ => false) 0 true) _ (T.rows 3) _ { rT0 T.name line with kind := T.kind, rows := R2 } (Nat.le_refl _) (fun y hy => ⟨fun q => absurd q (by rw [(hF.viss y hy).1]; decide), fun q => absurd (hF.viss y hy).2 q⟩) h7
 have h8 := h7.app.2
 obtain ⟨R3, hR3⟩ : ∃ z, upd R2 3 (R2 3 ++ g3) = z := ⟨_, rfl⟩
 obtain ⟨r4, sn4, s4, q4, f4⟩ := tcost_step (T0 := { rT0 T.name line with kind := T.kind, rows := R3 }) (sn := upd (fun _ => false) 0 true) hF rfl rfl rfl h8
 have h9 := h8.app.2
 obtain ⟨r5, sn5, ln, s5, f5⟩ := tretry_step (T0 := { rT0 T.name line with kind := T.kind, rows := R3, cost := T.cost }) (sn := sn4) hF rfl q4 h9
 have h10 := h9.app.2
 refine ⟨{ rT0 T.name line with kind := T.kind, rows := R3, cost := T.cost, retry := T.retry, rl := ln }, ?_, ?_, rfl⟩
 · have hname : (hdT l (k + 1)).tx = T.name := h1.cons.2.2.1
   have hdup : rDup bf (hdT l (k + 1)) (At (k + 2)) = At (k + 2) := by
     unfold rDup
     rw [if_neg]
     intro q
     simp only [List.any_eq_true, beq_iff_eq] at q
     obtain ⟨n, hn, e⟩ := q
     rw [hname] at e
     exact hb (e ▸ hn)
   have hbody : rBody l line bf (At (k + 1)) = ⟨At (k + (tTgt T).length), { rT0 T.name line with kind := T.kind, rows := R3, cost := T.cost, retry := T.retry, rl := ln }, sn5⟩ := by
     unfold rBody
     rw [any_hit h1, hname, hdup, need_hit h2]
     obtain ⟨fu, hfu⟩ : ∃ fu, l.length + 1 = fu + 1 + r5 + r4 + r3 + r2 + r1 + r0 + 1 := by
       simp only [List.length_cons, List.length_append, List.length_nil] at hlen
       exact ⟨l.length + 1 - (1 + r5 + r4 + r3 + r2 + r1 + r0 + 1), by omega⟩
     rw [hfu, kind_hit hF.kind.1 hF.kind.2 rfl h3, show k + 1 + 1 + 1 + 3 = kp by omega, f0, f1]
     dsimp only
     rw [hR1, f2]
     dsimp only
     rw [hR2, f3]
     dsimp only
     rw [hR3, f4, f5, loop_end h10]
     congr 2
     unfold tTgt
     simp only [List.length_cons, List.length_append, List.length_nil]
     omega
   unfold rTgtF
   rw [hbody]
   unfold rCheck
   dsimp only
   rw [if_neg (by have := hF.retry.2.2; omega)]
   unfold tTgt
   rfl
 · unfold plT
   dsimp only
   congr 1
   funext i
   split
   · rename_i hi
     obtain rfl | rfl | rfl | rfl : i = 0 ∨ i = 1 ∨ i = 2 ∨ i = 3 := by omega
     · rw [← e0, ← hR3, ← hR2, ← hR1]; simp [upd, rT0]
     · rw [← e1, ← hR3, ← hR2, ← hR1]; simp [upd, rT0]
     · rw [← e2, ← hR3, ← hR2, ← hR1]; simp [upd, rT0]
     · rw [← e3, ← hR3, ← hR2, ← hR1]; simp [upd, rT0]
   · rfl
def tPlMore (t : List Itm) : List Ct := t.flatMap fun y => [(4, [44]), (1, y.tx)]
def tPlats (pl : List Itm) : List Ct := match pl with
 | [] => []
 | x :: t => (1, wPlats) :: (1, x.tx) :: (tPlMore t ++ [(4, [59])])
theorem pls_hit : ∀ (t : List Itm) (x : Itm) (k f : Nat) (a : List Itm), t.length < f → (∀ y ∈ x :: t, y.gl = false ∧ y.pl = [] ∧ y.tx ≠ globS) → ((a ++ x :: t).map Itm.tx).Nodup → Mt l k ((1, x.tx) :: (tPlMore t ++ (4, [59]) :: ts)) →
   ∃ g, rPls l f a (At k) = (a ++ g, At (k + 1 + (tPlMore t).length)) ∧ g.map plI = (x :: t).map plI
 | t, x, k, 0, a, hf, _, _, _ => absurd hf (Nat.not_lt_zero _)
 | t, x, k, f + 1, a, hf, hy, hd, h => by
   have hx := hy x (by simp)
   have htx := h.cons.2.2.1
   have hp : rPlatform l (At k) = (hdT l k, At (k + 1)) := by
     unfold rPlatform rPlGate rIs
     rw [if_neg (by
       simp only [Bool.and_eq_true, beq_iff_eq]
       rintro ⟨_, q⟩
       exact hx.2.2 (htx.symm.trans q)), any_hit h]
   have ho : rPlOne l a (At k) = At (k + 1) := by
     unfold rPlOne
     rw [hp]
     dsimp only
     rw [if_neg]
     intro q
     unfold rHas at q
     simp only [List.any_eq_true, beq_iff_eq] at q
     obtain ⟨n, hn, e⟩ := q
     rw [htx] at e
     rw [List.map_append, List.nodup_append] at hd
     exact hd.2.2 _ (List.mem_map_of_mem hn) _ (by simp) e
   have hpi : plI ⟨(hdT l k).tx, false, [], (hdT l k).ln⟩ = plI x := by
     unfold plI
     rw [htx, hx.1, hx.2.1]
   rw [rPls, if_pos rfl, ho, hp]
   dsimp only
   match t, hf, hy, hd, h with
   | [], _, _, _, h =>
     have h2 := h.cons.2.2.2
     rw [take_miss (.inr (by
       have := h2.cons.2.2.1
       rw [this]
       show ([59] : List UInt8) ≠ [44]
       decide)), if_neg (by simp)]
     exact ⟨_, rfl, by rw [List.map_cons, hpi]; rfl⟩
   | y :: s, hf, hy, hd, h =>
     have h2 := h.cons.2.2.2
     have e : tPlMore (y :: s) = [(4, [44]), (1, y.tx)] ++ tPlMore s := rfl
     rw [e] at h2 ⊢
     simp only [List.cons_append, List.nil_append] at h2
     rw [take_hit h2, if_pos rfl]
     obtain ⟨g, hg, hg2⟩ := pls_hit s y (k + 1 + 1) f (a ++ [⟨(hdT l k).tx, false, [], (hdT l k).ln⟩]) (by simp at hf; omega) (fun z hz => hy z (List.mem_cons_of_mem _ hz)) (by
       have e2 : ((a ++ [(⟨(hdT l k).tx, false, [], (hdT l k).ln⟩ : Itm)] ++ y :: s).map Itm.tx) = ((a ++ x :: y :: s).map Itm.tx) := by simp [htx]
       rw [e2]; exact hd) h2.cons.2.2.2
     refine ⟨_ :: g, ?_, by rw [List.map_cons, hpi, hg2]; rfl⟩
     rw [hg]
     simp only [List.append_assoc, List.cons_append, List.nil_append, List.length_cons]
     congr 2
     omega
theorem head_hit {pl : List Itm} (hy : ∀ y ∈ pl, y.gl = false ∧ y.pl = [] ∧ y.tx ≠ globS) (hd : (pl.map Itm.tx).Nodup) (hts : ∃ c cs, ts = c :: cs ∧ c ≠ (1, wPlats)) (h : Mt l 0 (tPlats pl ++ ts)) :
   ∃ g, rHead l = (g, At (tPlats pl).length) ∧ g.map plI = pl.map plI := by
 unfold rHead
 match pl, hy, hd, h with
 | [], _, _, h =>
   obtain ⟨c, cs, rfl, hc⟩ := hts
   have e : rTake 1 wPlats l (At 0) = (false, At 0) := take_miss (by
     by_cases q : (hdT l 0).kd = 1
     · right
       intro q2
       apply hc
       rw [h.cons.2.1] at q
       rw [h.cons.2.2.1] at q2
       exact Prod.ext q q2
     · exact .inl q)
   rw [e, if_neg Bool.false_ne_true]
   exact ⟨[], rfl, rfl⟩
 | x :: t, hy, hd, h =>
   have h' : Mt l 0 ((1, wPlats) :: (1, x.tx) :: (tPlMore t ++ (4, [59]) :: ts)) := by
     have e : tPlats (x :: t) ++ ts = (1, wPlats) :: (1, x.tx) :: (tPlMore t ++ (4, [59]) :: ts) := by simp [tPlats]
     rw [← e]; exact h
   have hlen : t.length < l.length + 1 := by
     have hm : t.length ≤ (tPlMore t).length := by
       clear h h' hy hd
       induction t with
       | nil => simp
       | cons y s ih => simp [tPlMore] at ih ⊢; omega
     obtain ⟨r, h'⟩ := h'
     have e := congrArg List.length h'
     simp only [List.length_map, List.length_drop, List.length_append, List.length_cons] at e
     omega
   rw [take_hit h', if_pos rfl]
   obtain ⟨g, hg, hg2⟩ := pls_hit t x 1 (l.length + 1) [] hlen hy (by simpa using hd) h'.cons.2.2.2
   dsimp only
   unfold rPlats
   rw [hg]
   dsimp only
   rw [need_hit (h'.cons.2.2.2.cons.2.2.2.app.2)]
   refine ⟨[] ++ g, ?_, hg2⟩
   congr 2
   simp [tPlats]
   omega
theorem tgts_hit : ∀ (L : List Tgt) (k f : Nat) (a : List Tgt), L.length < f → (∀ T ∈ L, Fit T) → ((a ++ L).map Tgt.name).Nodup → Mt l k (L.flatMap tTgt ++ [(0, [])]) →
   ∃ L', rTgts l f a (At k) = (a ++ L', At (k + (L.flatMap tTgt).length)) ∧ L'.map plT = L.map plT
 | _, _, 0, _, hf, _, _, _ => absurd hf (Nat.not_lt_zero _)
 | [], k, f + 1, a, _, _, _, h => by
   rw [rTgts, if_neg (by
     rintro ⟨_, q⟩
     exact q h.cons.2.1)]
   exact ⟨[], by simp, rfl⟩
 | T :: L, k, f + 1, a, hf, hF, hd, h => by
   have e : (T :: L).flatMap tTgt = tTgt T ++ L.flatMap tTgt := rfl
   rw [e, List.append_assoc] at h
   have hh : Mt l k ((1, wTarget) :: (tTgt T ++ (L.flatMap tTgt ++ [(0, [])])).tail) := h
   rw [rTgts, if_pos ⟨rfl, by rw [hh.cons.2.1]; show (1 : Int) ≠ 0; decide⟩, need_hit hh, if_pos rfl]
   obtain ⟨T', hT, hp, _⟩ := tgt_hit (line := (hdT l k).ln) (bf := a.map (·.name)) (hF T (by simp)) (by
     intro q
     rw [List.map_append, List.nodup_append] at hd
     exact hd.2.2 _ q _ (by simp) rfl) h
   rw [hT]
   dsimp only
   have hn : T'.name = T.name := by have := congrArg Tgt.name hp; exact this
   obtain ⟨L', hL, hq⟩ := tgts_hit L (k + (tTgt T).length) f (a ++ [T']) (by simp at hf; omega) (fun z hz => hF z (List.mem_cons_of_mem _ hz)) (by
     have e2 : ((a ++ [T'] ++ L).map Tgt.name) = ((a ++ T :: L).map Tgt.name) := by simp [hn]
     rw [e2]; exact hd) h.app.2
   refine ⟨T' :: L', ?_, by rw [List.map_cons, List.map_cons, hp, hq]⟩
   rw [hL, e, List.length_append]
   simp only [List.append_assoc, List.cons_append, List.nil_append]
   congr 2
   omega
def tFile (pl : List Itm) (L : List Tgt) : List Ct := tPlats pl ++ (L.flatMap tTgt ++ [(0, [])])
structure FitB (pl : List Itm) (L : List Tgt) : Prop where
 pls : ∀ y ∈ pl, y.gl = false ∧ y.pl = [] ∧ y.tx ≠ globS
 dis : (pl.map Itm.tx).Nodup
 tg : ∀ T ∈ L, Fit T
 nam : (L.map Tgt.name).Nodup
theorem parse_of {pl : List Itm} {L : List Tgt} (hF : FitB pl L) (h : Mt l 0 (tFile pl L)) :
   ∃ pl' L', rParse l = ((pl', L'), (0, 0)) ∧ pl'.map plI = pl.map plI ∧ L'.map plT = L.map plT := by
 unfold tFile at h
 obtain ⟨g, hg, hg2⟩ := head_hit hF.pls hF.dis (by
   match L with
   | [] => exact ⟨_, _, rfl, by decide⟩
   | T :: L => exact ⟨(1, wTarget), _, rfl, by decide⟩) h
 have h2 := h.app.2
 rw [Nat.zero_add] at h2
 have hlen : L.length < l.length + 1 := by
   have hm : L.length ≤ (L.flatMap tTgt).length := by
     clear hF h h2
     induction L with
     | nil => simp
     | cons y s ih =>
       rw [List.flatMap_cons, List.length_append, List.length_cons]
       have hp1 : 1 ≤ (tTgt y).length := (by unfold tTgt; simp)
       omega
   obtain ⟨r, h2⟩ := h2
   have e := congrArg List.length h2
   simp only [List.length_map, List.length_drop, List.length_append, List.length_cons] at e
   omega
 obtain ⟨L', hL, hq⟩ := tgts_hit L _ (l.length + 1) [] hlen hF.tg hF.nam h2
 refine ⟨g, [] ++ L', ?_, hg2, hq⟩
 unfold rParse rAll
 rw [hg]
 dsimp only
 rw [hL]
 dsimp only
 rw [if_pos rfl]
end
theorem pDis_nodup : ∀ (K : Kn) (l : List (List UInt8)), pDis K l = true → l.Nodup ∧ ∀ x ∈ l, K x = false
 | _, [], _ => ⟨List.nodup_nil, fun _ h => absurd h (by simp)⟩
 | K, x :: t, h => by
   rw [pDis, Bool.and_eq_true] at h
   obtain ⟨h1, h2⟩ := pDis_nodup (kPut K x) t h.2
   refine ⟨List.nodup_cons.2 ⟨fun q => ?_, h1⟩, fun y hy => ?_⟩
   · have := h2 x q
     simp [kPut] at this
   · rcases List.mem_cons.1 hy with rfl | hy
     · simpa using h.1
     · have := h2 y hy
       unfold kPut at this
       rw [Bool.or_eq_false_iff] at this
       exact this.2
theorem plat_ne {p : List UInt8} (h : isPlatB p = true) : p ≠ globS := by
 unfold isPlatB at h
 simp only [Bool.and_eq_true, Bool.not_eq_true', beq_eq_false_iff_ne] at h
 exact h.2
theorem fit_of {pl : List Itm} {L : List Tgt} (h : rBuild pl L = true) : FitB pl L := by
 unfold rBuild at h
 simp only [Bool.and_eq_true, List.all_eq_true] at h
 obtain ⟨⟨h1, h2⟩, h3, h4⟩ := h
 refine ⟨fun y hy => ?_, (pDis_nodup _ _ h2).1, fun T hT => ?_, (pDis_nodup _ _ h4).1⟩
 · have := h1 y hy
   unfold rPlat at this
   simp only [Bool.and_eq_true, Bool.not_eq_true', beq_iff_eq] at this
   exact ⟨this.1.2, this.2, plat_ne this.1.1⟩
 · have := h3 T hT
   unfold rTarget rKind rNums at this
   simp only [Bool.and_eq_true, List.all_eq_true, decide_eq_true_eq, Bool.or_eq_true] at this
   obtain ⟨⟨⟨⟨⟨⟨_, k1, k2⟩, ⟨⟨⟨c1, c2⟩, r1⟩, r2⟩, r3⟩, s⟩, d⟩, o⟩, v⟩ := this
   have hsrc : ∀ y : Itm, rSource y = true → y.pl ≠ globS := fun y q => by
     unfold rSource at q
     simp only [Bool.and_eq_true, Bool.or_eq_true, beq_iff_eq] at q
     rcases q.2 with q | q
     · rw [q]; decide
     · exact plat_ne q
   have htx : ∀ y : Itm, rText y = true → y.gl = false ∧ y.pl = [] := fun y q => by
     unfold rText rDep at q
     simp only [Bool.and_eq_true, Bool.not_eq_true', beq_iff_eq] at q
     exact ⟨q.1.2, q.2⟩
   refine ⟨⟨k1, k2⟩, fun y hy => hsrc y (s y hy), fun y hy => ?_, fun y hy => htx y (o y hy), fun y hy => htx y (v y hy), ⟨c1, c2⟩, r1, r2, r3⟩
   have q := d y hy
   unfold rDep at q
   simp only [Bool.and_eq_true, Bool.not_eq_true'] at q
   exact ⟨q.2, hsrc y q.1⟩
def Lx (s : List UInt8) (cs : List Ct) (rest : List UInt8) : Prop := ∀ n, ∃ ts, rToks (s ++ rest) n = ts ++ rToks rest (n + s.count 10) ∧ ts.map ctOf = cs
theorem Lx.nil {rest : List UInt8} : Lx [] [] rest := fun n => ⟨[], by simp, rfl⟩
theorem Lx.app {s s' rest : List UInt8} {cs cs' : List Ct} (h : Lx s cs (s' ++ rest)) (h' : Lx s' cs' rest) : Lx (s ++ s') (cs ++ cs') rest := fun n => by
 obtain ⟨t1, e1, c1⟩ := h n
 obtain ⟨t2, e2, c2⟩ := h' (n + s.count 10)
 refine ⟨t1 ++ t2, ?_, by rw [List.map_append, c1, c2]⟩
 rw [List.append_assoc, e1, e2, List.append_assoc, List.count_append, Nat.add_assoc]
theorem Lx.app3 {s s' rest x : List UInt8} {cs cs' : List Ct} (h : Lx s cs x) (h' : Lx s' cs' rest) (e : x = s' ++ rest) : Lx (s ++ s') (cs ++ cs') rest := Lx.app (e ▸ h) h'
theorem Lx.blank {c : UInt8} {rest : List UInt8} (h : c = 32 ∨ c = 9 ∨ c = 13) : Lx [c] [] rest := fun n => ⟨[], by
 have e : skip false ([c] ++ rest) n = skip false rest n := by
   show skip false (c :: rest) n = _
   rw [skip, if_neg (by rcases h with rfl | rfl | rfl <;> decide), if_pos h]
 have e2 : ([c] : List UInt8).count 10 = 0 := by rcases h with rfl | rfl | rfl <;> decide
 rw [rToks_skip e, e2]
 rfl, rfl⟩
theorem Lx.feed {rest : List UInt8} : Lx [10] [] rest := fun n => ⟨[], by
 have e : skip false ([10] ++ rest) n = skip false rest (n + 1) := by
   show skip false (10 :: rest) n = _
   rw [skip, if_pos rfl]
 rw [rToks_skip e]
 rfl, rfl⟩
theorem skip_note : ∀ (t rest : List UInt8) (n : Nat), 10 ∉ t → skip true (t ++ 10 :: rest) n = skip false rest (n + 1)
 | [], rest, n, _ => by show skip true (10 :: rest) n = _; rw [skip, if_pos rfl]
 | c :: t, rest, n, h => by
   simp only [List.mem_cons, not_or] at h
   show skip true (c :: (t ++ 10 :: rest)) n = _
   rw [skip, if_neg (fun e => h.1 e.symm), skip_note t rest n h.2]
theorem Lx.note {t rest : List UInt8} (h : 10 ∉ t) : Lx (35 :: (t ++ [10])) [] rest := fun n => ⟨[], by
 have e : skip false (35 :: (t ++ [10]) ++ rest) n = skip false rest (n + 1) := by
   show skip false (35 :: (t ++ [10] ++ rest)) n = _
   rw [skip, if_neg (by decide), if_neg (by decide), if_pos rfl, List.append_assoc]
   exact skip_note t rest n h
 have e2 : (35 :: (t ++ [10]) : List UInt8).count 10 = 1 := by
   rw [List.count_cons, List.count_append, List.count_eq_zero_of_not_mem h]
   rfl
 rw [rToks_skip e, e2]
 rfl, rfl⟩
theorem run_appI (f : UInt8 → Bool) : ∀ (a b : List UInt8), (∀ c ∈ a, f c = true) → run f (a ++ b) = a.length + run f b
 | [], b, _ => by simp
 | c :: t, b, h => by
   show run f (c :: (t ++ b)) = _
   rw [run, if_pos (h c (by simp)), run_appI f t b (fun x hx => h x (List.mem_cons_of_mem _ hx)), List.length_cons]
   omega
theorem run_allI {f : UInt8 → Bool} : ∀ {a : List UInt8}, run f a = a.length → ∀ c ∈ a, f c = true
 | [], _, _, h => absurd h (by simp)
 | x :: t, h, c, hc => by
   by_cases e : f x = true
   · rw [run, if_pos e, List.length_cons] at h
     rcases List.mem_cons.1 hc with rfl | hc
     · exact e
     · exact run_allI (by omega) c hc
   · rw [run, if_neg e] at h
     simp at h
theorem run_zero {f : UInt8 → Bool} {rest : List UInt8} (h : ∀ c ∈ rest.head?, f c = false) : run f rest = 0 := by
 cases rest with
 | nil => rfl
 | cons c t => rw [run, if_neg (by rw [h c (by simp)]; decide)]
theorem lx_tok {s rest : List UInt8} {cls : Nat} (hc : 2 ≤ cls) (h0 : ∀ n, skip false (s ++ rest) n = (s ++ rest, n)) (hf : first (s ++ rest) = (cls, s.length)) (h10 : 10 ∉ s) : Lx s [(kindOf cls, if cls = 4 then (s.drop 1).take (s.length - 2) else s)] rest := fun n => by
 have e : next (s ++ rest) n = (⟨cls, s, n⟩, rest, n) := by
   unfold next
   rw [h0]
   dsimp only
   rw [hf]
   dsimp only
   rw [List.take_left, List.drop_left]
 refine ⟨[convT ⟨cls, s, n⟩], ?_, ?_⟩
 · unfold rToks
   rw [toks_eq, e]
   dsimp only
   rw [if_neg (by omega), List.count_eq_zero_of_not_mem h10]
   rfl
 · rfl
theorem skip_no {c : UInt8} {t : List UInt8} (h1 : c ≠ 10) (h2 : c ≠ 32) (h3 : c ≠ 9) (h4 : c ≠ 13) (h5 : c ≠ 35) (n : Nat) : skip false (c :: t) n = (c :: t, n) := by
 rw [skip, if_neg h1, if_neg (by simp [h2, h3, h4]), if_neg h5]
theorem let_no {c : UInt8} (h : isLet c = true) : c ≠ 10 ∧ c ≠ 32 ∧ c ≠ 9 ∧ c ≠ 13 ∧ c ≠ 35 := by
 refine ⟨?_, ?_, ?_, ?_, ?_⟩ <;> (rintro rfl; revert h; decide)
theorem cont_no {c : UInt8} (h : isCont c = true) : c ≠ 10 := by rintro rfl; revert h; decide
theorem dig_no {c : UInt8} (h : isDig c = true) : c ≠ 10 ∧ c ≠ 32 ∧ c ≠ 9 ∧ c ≠ 13 ∧ c ≠ 35 := by
 refine ⟨?_, ?_, ?_, ?_, ?_⟩ <;> (rintro rfl; revert h; decide)
theorem word_parts {s : List UInt8} (h : isWordB s = true) : ∃ c t, s = c :: t ∧ isLet c = true ∧ ∀ x ∈ s, isCont x = true := by
 unfold isWordB at h
 simp only [Bool.and_eq_true, decide_eq_true_eq] at h
 obtain ⟨h1, h2⟩ := h
 cases s with
 | nil => simp [first] at h1
 | cons c t =>
   by_cases hc : isLet c = true
   · rw [first, if_pos hc] at h2
     exact ⟨c, t, rfl, hc, run_allI h2⟩
   · exfalso
     rw [first, if_neg hc] at h1
     split at h1
     · simp at h1
     · split at h1
       · simp at h1
       · split at h1 <;> simp at h1
theorem Lx.word {s rest : List UInt8} (h : isWordB s = true) (hr : ∀ c ∈ rest.head?, isCont c = false) : Lx s [(1, s)] rest := by
 obtain ⟨c, t, rfl, hc, ha⟩ := word_parts h
 obtain ⟨a1, a2, a3, a4, a5⟩ := let_no hc
 exact lx_tok (cls := 2) (by decide) (fun n => skip_no a1 a2 a3 a4 a5 n) (by
   show first (c :: (t ++ rest)) = _
   rw [first, if_pos hc]
   have := run_appI isCont (c :: t) rest ha
   rw [run_zero hr] at this
   exact Prod.ext rfl (by simpa using this)) (fun q => cont_no (ha _ q) rfl)
theorem dig_let {c : UInt8} (h : isDig c = true) : isLet c = false := by
 unfold isDig at h
 unfold isLet
 simp only [Bool.and_eq_true, decide_eq_true_eq] at h
 simp only [Bool.or_eq_false_iff, Bool.and_eq_false_imp, decide_eq_true_eq, decide_eq_false_iff_not]
 omega
theorem Lx.num {s rest : List UInt8} (h0 : s ≠ []) (h : ∀ c ∈ s, isDig c = true) (hr : ∀ c ∈ rest.head?, isDig c = false) : Lx s [(2, s)] rest := by
 cases s with
 | nil => exact absurd rfl h0
 | cons c t =>
   have hc := h c (by simp)
   obtain ⟨a1, a2, a3, a4, a5⟩ := dig_no hc
   exact lx_tok (cls := 3) (by decide) (fun n => skip_no a1 a2 a3 a4 a5 n) (by
     show first (c :: (t ++ rest)) = _
     rw [first, if_neg (by rw [dig_let hc]; decide), if_pos hc]
     have := run_appI isDig (c :: t) rest h
     rw [run_zero hr] at this
     exact Prod.ext rfl (by simpa using this)) (fun q => (dig_no (h _ q)).1 rfl)
theorem sym_no {c : UInt8} (h : isSym c = true) : c ≠ 10 ∧ c ≠ 32 ∧ c ≠ 9 ∧ c ≠ 13 ∧ c ≠ 35 := by
 refine ⟨?_, ?_, ?_, ?_, ?_⟩ <;> (rintro rfl; revert h; decide)
theorem Lx.sym {c : UInt8} {rest : List UInt8} (h : isSym c = true) : Lx [c] [(4, [c])] rest := by
 obtain ⟨a1, a2, a3, a4, a5⟩ := sym_no h
 have hl : isLet c = false ∧ isDig c = false := by
   unfold isSym at h
   simp only [Bool.or_eq_true, beq_iff_eq] at h
   rcases h with ((((h | h) | h) | h) | h) | h <;> (rw [h]; decide)
 exact lx_tok (cls := 5) (by decide) (fun n => skip_no a1 a2 a3 a4 a5 n) (by
   show first (c :: rest) = _
   rw [first, if_neg (by rw [hl.1]; decide), if_neg (by rw [hl.2]; decide), if_pos h]
   rfl) (by simp [Ne.symm a1])
theorem Lx.str {t rest : List UInt8} (h : isTextB t = true) : Lx ([34] ++ t ++ [34]) [(3, t)] rest := by
 unfold isTextB at h
 rw [decide_eq_true_eq] at h
 have ha := run_allI h
 have hn : 10 ∉ t := fun q => by have := ha 10 q; revert this; decide
 have hs : strLen (t ++ 34 :: rest) = t.length + 2 := by
   unfold strLen
   have e : run (fun c => !notStr c) (t ++ 34 :: rest) = t.length := by
     rw [run_appI _ _ _ ha, run_zero (by intro c hc; simp at hc; subst hc; decide)]
     rfl
   dsimp only
   rw [e, if_pos (by simp)]
 have e : Lx ([34] ++ t ++ [34]) _ rest := lx_tok (cls := 4) (by decide) (fun n => by
   show skip false (34 :: (t ++ [34] ++ rest)) n = _
   exact skip_no (by decide) (by decide) (by decide) (by decide) (by decide) n) (by
   show first (34 :: (t ++ [34] ++ rest)) = _
   have q : t ++ [34] ++ rest = t ++ 34 :: rest := by simp
   rw [q, first, if_neg (by decide), if_neg (by decide), if_neg (by decide), if_pos ⟨rfl, by rw [hs]; omega⟩, hs]
   simp) (by simp [hn])
 rw [if_pos rfl] at e
 have q : (([34] ++ t ++ [34] : List UInt8).drop 1).take (([34] ++ t ++ [34] : List UInt8).length - 2) = t := by
   simp
 rw [q] at e
 exact e
theorem dec_digs (n : Nat) : Lib.decDigits n ≠ [] ∧ ∀ c ∈ Lib.decDigits n, isDig c = true := by
 induction n using Nat.strongRecOn with
 | _ n ih =>
   have hd : ∀ k, k < 10 → isDig (UInt8.ofNat (48 + k)) = true := fun k hk => by
     unfold isDig
     rw [UInt8.toNat_ofNat', show (48 + k) % 2 ^ 8 = 48 + k by omega]
     simp only [Bool.and_eq_true, decide_eq_true_eq]
     omega
   rw [Lib.decDigits]
   split
   · rename_i h1
     exact ⟨by simp, fun c hc => by simp at hc; rw [hc]; have := hd n h1; simpa using this⟩
   · rename_i h1
     refine ⟨by simp, fun c hc => ?_⟩
     rcases List.mem_append.1 hc with hc | hc
     · exact (ih (n / 10) (by omega)).2 c hc
     · rw [List.mem_singleton] at hc
       rw [hc]
       exact hd _ (by omega)
theorem itoa_digs {n : Int} (h : 0 ≤ n) : itoaB n ≠ [] ∧ ∀ c ∈ itoaB n, isDig c = true := by
 unfold itoaB Lib.itoa
 rw [if_neg (by omega)]
 exact dec_digs _
theorem Lx.item {x : Itm} {rest : List UInt8} (h : isTextB x.tx = true) : Lx (fSrc x) (tItm x) rest := by
 unfold fSrc tItm
 split
 · have e : Lx wGlobP [(1, globS), (4, [40])] (([34] ++ x.tx ++ [34]) ++ ([41] ++ rest)) := Lx.app (s := globS) (s' := [40]) (cs := [(1, globS)]) (cs' := [(4, [40])]) (Lx.word (by decide) (by intro c hc; simp at hc; subst hc; decide)) (Lx.sym (by decide))
   have e2 : Lx ([34] ++ x.tx ++ [34]) [(3, x.tx)] ([41] ++ rest) := Lx.str h
   have := Lx.app (rest := rest) (s := wGlobP ++ ([34] ++ x.tx ++ [34])) (s' := [41]) (Lx.app e e2) (Lx.sym (by decide))
   exact this
 · exact Lx.str h
def Pri (x : Itm) : Prop := isTextB x.tx = true ∧ (x.pl = [] ∨ isWordB x.pl = true)
theorem Lx.two_blanks {rest : List UInt8} : Lx [32, 32] [] rest := Lx.app (s := [32]) (s' := [32]) (cs := []) (cs' := []) (Lx.blank (.inl rfl)) (Lx.blank (.inl rfl))
theorem sp_cont {rest : List UInt8} : ∀ c ∈ ([32] ++ rest).head?, isCont c = false := by intro c hc; simp at hc; subst hc; decide
theorem Lx.word_sp {w rest : List UInt8} (h : isWordB w = true) : Lx (w ++ [32]) [(1, w)] rest := by
 have := Lx.app (rest := rest) (s' := [32]) (cs' := []) (Lx.word h sp_cont) (Lx.blank (.inl rfl))
 exact this
theorem Lx.go {word : List UInt8} (hw : isWordB word = true) : ∀ (l : List Itm) (p : Option (List UInt8)) (rest : List UInt8), (∀ x ∈ l, Pri x) → Lx (rGo word p l) (tGo word p l) rest
 | [], _, _, _ => Lx.nil
 | x :: t, p, rest, h => by
   have hx := h x (by simp)
   have ih := fun r => Lx.go hw t (some x.pl) r (fun y hy => h y (List.mem_cons_of_mem _ hy))
   have hi : ∀ r, Lx (fSrc x) (tItm x) r := fun r => Lx.item hx.1
   have hp : ∀ r, Lx (rPre word p x) (tPre word p x) r := fun r => by
     unfold rPre tPre
     by_cases e : p = some x.pl
     · rw [if_pos e, if_pos e]
       exact Lx.app (s := [44]) (s' := [32]) (cs := [(4, [44])]) (cs' := []) (Lx.sym (by decide)) (Lx.blank (.inl rfl))
     · rw [if_neg e, if_neg e]
       have e1 : ∀ r, Lx (if p = none then ([] : List UInt8) else [59, 10]) (if p = none then ([] : List Ct) else [(4, [59])]) r := fun r => by
         by_cases e2 : p = none
         · rw [if_pos e2, if_pos e2]; exact Lx.nil
         · rw [if_neg e2, if_neg e2]
           exact Lx.app (s := [59]) (s' := [10]) (cs := [(4, [59])]) (cs' := []) (Lx.sym (by decide)) Lx.feed
       have e3 : ∀ r, Lx (if x.pl = [] then ([] : List UInt8) else x.pl ++ [32]) (if x.pl = [] then ([] : List Ct) else [(1, x.pl)]) r := fun r => by
         by_cases e2 : x.pl = []
         · rw [if_pos e2, if_pos e2]; exact Lx.nil
         · rw [if_neg e2, if_neg e2]
           exact Lx.word_sp (hx.2.resolve_left e2)
       have e4 : ∀ r, Lx ([32, 32] ++ word ++ [32]) [(1, word)] r := fun r => by
         have := Lx.app (rest := r) (s := [32, 32]) (cs := []) Lx.two_blanks (Lx.word_sp hw)
         rw [← List.append_assoc] at this
         exact this
       exact Lx.app (e1 _) (Lx.app (s := [32, 32] ++ word ++ [32]) (cs := [(1, word)]) (e4 _) (e3 _))
   show Lx (rPre word p x ++ fSrc x ++ rGo word (some x.pl) t) (tPre word p x ++ (tItm x ++ tGo word (some x.pl) t)) rest
   rw [List.append_assoc]
   exact Lx.app (hp _) (Lx.app (hi _) (ih _))
theorem Lx.end_ {rest : List UInt8} : Lx [59, 10] [(4, [59])] rest := Lx.app (s := [59]) (s' := [10]) (cs := [(4, [59])]) (cs' := []) (Lx.sym (by decide)) Lx.feed
theorem Lx.attr {word : List UInt8} (hw : isWordB word = true) {l : List Itm} {rest : List UInt8} (h : ∀ x ∈ l, Pri x) : Lx (fItems word l) (tAttr word l) rest := by
 rw [← rAttr_eq]
 unfold rAttr tAttr
 split
 · exact Lx.nil
 · exact Lx.app (Lx.go hw l none _ h) Lx.end_
theorem Lx.number {word : List UInt8} (hw : isWordB word = true) {n : Int} (hn : 0 ≤ n) {rest : List UInt8} : Lx (fThree ([32, 32] ++ word ++ [32]) (itoaB n) [59]) [(1, word), (2, itoaB n), (4, [59])] rest := by
 obtain ⟨d1, d2⟩ := itoa_digs hn
 unfold fThree
 have a1 : ∀ r, Lx ([32, 32] ++ word ++ [32]) [(1, word)] r := fun r => by
   have := Lx.app (rest := r) (s := [32, 32]) (cs := []) Lx.two_blanks (Lx.word_sp hw)
   rw [← List.append_assoc] at this
   exact this
 have a2 : Lx (itoaB n) [(2, itoaB n)] ([59, 10] ++ rest) := Lx.num d1 d2 (by intro c hc; simp at hc; subst hc; decide)
 have := Lx.app (a1 _) (Lx.app a2 (Lx.end_ (rest := rest)))
 rw [List.append_assoc, List.append_assoc]
 exact this
theorem Lx.tgt {T : Tgt} (h : rTarget T = true) {rest : List UInt8} : Lx (fTarget T) (tTgt T) rest := by
 unfold rTarget rKind rNums at h
 simp only [Bool.and_eq_true, List.all_eq_true, decide_eq_true_eq, Bool.or_eq_true] at h
 obtain ⟨⟨⟨⟨⟨⟨hn, k1, k2⟩, ⟨⟨⟨c1, c2⟩, r1⟩, r2⟩, r3⟩, s⟩, d⟩, o⟩, v⟩ := h
 have hsrc : ∀ y : Itm, rSource y = true → Pri y := fun y q => by
   unfold rSource isPlatB at q
   simp only [Bool.and_eq_true, Bool.or_eq_true, beq_iff_eq] at q
   exact ⟨q.1, q.2.imp id (fun z => z.1)⟩
 have hdep : ∀ y : Itm, rDep y = true → Pri y := fun y q => by
   unfold rDep at q
   simp only [Bool.and_eq_true] at q
   exact hsrc y q.1
 have htx : ∀ y : Itm, rText y = true → Pri y := fun y q => by
   unfold rText at q
   simp only [Bool.and_eq_true] at q
   exact hdep y q.1
 have a1 : ∀ r, Lx (fThree wTargetS T.name wOpen) [(1, wTarget), (1, T.name), (4, [123])] r := fun r => by
   have b1 : Lx wTargetS [(1, wTarget)] (T.name ++ ([32] ++ ([123] ++ ([10] ++ r)))) := Lx.word_sp (w := wTarget) (by decide)
   have b2 : Lx T.name [(1, T.name)] ([32] ++ ([123] ++ ([10] ++ r))) := Lx.word hn sp_cont
   have b3 : Lx [32] [] ([123] ++ ([10] ++ r)) := Lx.blank (.inl rfl)
   have b4 : Lx [123] [(4, [123])] ([10] ++ r) := Lx.sym (by decide)
   have c4 := Lx.app b4 (Lx.feed (rest := r))
   have c3 : Lx ([32] ++ ([123] ++ [10])) [(4, [123])] r := Lx.app3 b3 c4 (by simp)
   have c2 : Lx (T.name ++ ([32] ++ ([123] ++ [10]))) [(1, T.name), (4, [123])] r := Lx.app3 b2 c3 (by simp)
   have c1 : Lx (wTargetS ++ (T.name ++ ([32] ++ ([123] ++ [10])))) [(1, wTarget), (1, T.name), (4, [123])] r := Lx.app3 b1 c2 (by simp)
   unfold fThree
   rw [List.append_assoc, List.append_assoc]
   exact c1
 have a2 : ∀ r, Lx (fThree wKindS (kw T.kind.toNat) [59]) [(1, wKind), (1, kw T.kind.toNat), (4, [59])] r := fun r => by
   have hk : isWordB (kw T.kind.toNat) = true := by
     obtain e | e | e | e : T.kind = 1 ∨ T.kind = 2 ∨ T.kind = 3 ∨ T.kind = 4 := by omega
     all_goals (rw [e]; decide)
   have b1 : Lx wKindS [(1, wKind)] (kw T.kind.toNat ++ ([59, 10] ++ r)) := by
     have := Lx.app (rest := kw T.kind.toNat ++ ([59, 10] ++ r)) (s := [32, 32]) (cs := []) Lx.two_blanks (Lx.word_sp (w := wKind) (by decide))
     exact this
   have b2 : Lx (kw T.kind.toNat) [(1, kw T.kind.toNat)] ([59, 10] ++ r) := Lx.word hk (by intro c hc; simp at hc; subst hc; decide)
   have c2 : Lx (kw T.kind.toNat ++ [59, 10]) [(1, kw T.kind.toNat), (4, [59])] r := Lx.app b2 (Lx.end_ (rest := r))
   have c1 : Lx (wKindS ++ (kw T.kind.toNat ++ [59, 10])) [(1, wKind), (1, kw T.kind.toNat), (4, [59])] r := Lx.app3 b1 c2 (by simp)
   unfold fThree
   rw [List.append_assoc, List.append_assoc]
   exact c1
 have a3 : ∀ r, Lx (if T.cost = 1 then [] else fThree wCostS (itoaB T.cost) [59]) (ctCost T) r := fun r => by
   unfold ctCost
   split
   · exact Lx.nil
   · exact Lx.number (word := wCost) (by decide) (by omega)
 have a4 : ∀ r, Lx (if T.retry = 0 then [] else fThree wRetryS (itoaB T.retry) [59]) (ctRetry T) r := fun r => by
   unfold ctRetry
   split
   · exact Lx.nil
   · exact Lx.number (word := wRetry) (by decide) r1
 have a5 : ∀ r, Lx ([125] ++ [10]) [(4, [125])] r := fun r => Lx.app (cs := [(4, [125])]) (cs' := []) (Lx.sym (by decide)) Lx.feed
 unfold fTarget
 exact Lx.app (a1 _) (Lx.app (a2 _) (Lx.app (Lx.attr (by decide) fun x hx => hsrc x (s x hx)) (Lx.app (Lx.attr (by decide) fun x hx => hdep x (d x hx)) (Lx.app (Lx.attr (by decide) fun x hx => htx x (o x hx)) (Lx.app (Lx.attr (by decide) fun x hx => htx x (v x hx)) (Lx.app (a3 _) (Lx.app (a4 _) (a5 _))))))))
theorem Lx.plMore : ∀ (t : List Itm) (rest : List UInt8), (∀ y ∈ t, isWordB y.tx = true) → (∀ c ∈ rest.head?, isCont c = false) → Lx (Lib.joinTail [44, 32] (t.map Itm.tx)) (tPlMore t) rest
 | [], _, _, _ => Lx.nil
 | y :: s, rest, h, hr => by
   have ih := Lx.plMore s rest (fun z hz => h z (List.mem_cons_of_mem _ hz)) hr
   have e : Lib.joinTail [44, 32] ((y :: s).map Itm.tx) = [44] ++ ([32] ++ (y.tx ++ Lib.joinTail [44, 32] (s.map Itm.tx))) := by simp [Lib.joinTail]
   rw [e]
   have hh : ∀ c ∈ (Lib.joinTail [44, 32] (s.map Itm.tx) ++ rest).head?, isCont c = false := by
     cases s with
     | nil => exact hr
     | cons z u => intro c hc; simp [Lib.joinTail] at hc; subst hc; decide
   exact Lx.app (cs := [(4, [44])]) (Lx.sym (by decide)) (Lx.app (cs := []) (Lx.blank (.inl rfl)) (Lx.app (cs := [(1, y.tx)]) (Lx.word (h y (by simp)) hh) ih))
theorem Lx.plats {pl : List Itm} {rest : List UInt8} (h : ∀ y ∈ pl, isWordB y.tx = true) : Lx (fPlats pl) (tPlats pl) rest := by
 cases pl with
 | nil => exact Lx.nil
 | cons x t =>
   unfold fPlats fThree
   rw [if_neg (by simp), List.map_cons, Lib.join_cons]
   have b1 : Lx wPlatS [(1, wPlats)] (x.tx ++ (Lib.joinTail [44, 32] (t.map Itm.tx) ++ ([59, 10] ++ rest))) := Lx.word_sp (w := wPlats) (by decide)
   have hh : ∀ c ∈ (Lib.joinTail [44, 32] (t.map Itm.tx) ++ ([59, 10] ++ rest)).head?, isCont c = false := by
     cases t with
     | nil => intro c hc; simp [Lib.joinTail] at hc; subst hc; decide
     | cons z u => intro c hc; simp [Lib.joinTail] at hc; subst hc; decide
   have b2 : Lx x.tx [(1, x.tx)] (Lib.joinTail [44, 32] (t.map Itm.tx) ++ ([59, 10] ++ rest)) := Lx.word (h x (by simp)) hh
   have b3 : Lx (Lib.joinTail [44, 32] (t.map Itm.tx)) (tPlMore t) ([59, 10] ++ rest) := Lx.plMore t _ (fun z hz => h z (List.mem_cons_of_mem _ hz)) (by intro c hc; simp at hc; subst hc; decide)
   have := Lx.app3 b1 (Lx.app3 b2 (Lx.app b3 (Lx.end_ (rest := rest))) (by simp)) (by simp)
   have e : wPlatS ++ (x.tx ++ Lib.joinTail [44, 32] (List.map Itm.tx t)) ++ [59] ++ [10] = wPlatS ++ (x.tx ++ (Lib.joinTail [44, 32] (List.map Itm.tx t) ++ [59, 10])) := by simp
   rw [e]
   exact this
theorem Lx.tgts : ∀ (L : List Tgt) (rest : List UInt8), (∀ T ∈ L, rTarget T = true) → Lx (L.flatMap fTarget) (L.flatMap tTgt) rest
 | [], _, _ => Lx.nil
 | T :: L, rest, h => Lx.app (s := fTarget T) (s' := L.flatMap fTarget) (Lx.tgt (h T (by simp))) (Lx.tgts L rest (fun z hz => h z (List.mem_cons_of_mem _ hz)))
theorem Lx.file {pl : List Itm} {L : List Tgt} {rest : List UInt8} (h : rBuild pl L = true) : Lx (fFile pl L) (tPlats pl ++ L.flatMap tTgt) rest := by
 unfold rBuild at h
 simp only [Bool.and_eq_true, List.all_eq_true] at h
 obtain ⟨⟨h1, _⟩, h3, _⟩ := h
 exact Lx.app (Lx.plats fun y hy => by
   have := h1 y hy
   unfold rPlat isPlatB at this
   simp only [Bool.and_eq_true] at this
   exact this.1.1.1) (Lx.tgts L rest h3)
theorem file_toks {pl : List Itm} {L : List Tgt} (h : rBuild pl L = true) : (rToks (fFile pl L) 1).map ctOf = tFile pl L := by
 obtain ⟨ts, e, hc⟩ := Lx.file (rest := []) h 1
 rw [List.append_nil] at e
 rw [e, rToks_end, List.map_append, hc]
 unfold tFile
 rw [List.append_assoc]
 rfl
theorem mt_all {l : List RTok} {ts : List Ct} (h : l.map ctOf = ts) : Mt l 0 ts := ⟨[], by rw [List.drop_zero, h, List.append_nil]⟩
def Ok1 (c : Ct) : Prop := (c.1 = 1 ∧ isWordB c.2 = true) ∨ (c.1 = 2 ∧ c.2 ≠ [] ∧ ∀ x ∈ c.2, isDig x = true) ∨ (c.1 = 3 ∧ isTextB c.2 = true) ∨ (c.1 = 4 ∧ ∃ x, c.2 = [x] ∧ isSym x = true)
theorem Lx.one {c : Ct} {rest : List UInt8} (h : Ok1 c) (hr : ∀ x ∈ rest.head?, isCont x = false) : Lx (spell c) [c] rest := by
 obtain ⟨k, t⟩ := c
 unfold Ok1 at h
 dsimp only at h
 rcases h with ⟨rfl, h⟩ | ⟨rfl, h1, h2⟩ | ⟨rfl, h⟩ | ⟨rfl, x, rfl, h⟩
 · exact Lx.word h hr
 · exact Lx.num h1 h2 (fun x hx => by
     have := hr x hx
     unfold isCont at this
     simp only [Bool.or_eq_false_iff] at this
     exact this.1.1.2)
 · exact Lx.str h
 · exact Lx.sym h
theorem wordB_of {c : UInt8} {t : List UInt8} (hc : isLet c = true) (ha : ∀ x ∈ c :: t, isCont x = true) : isWordB (c :: t) = true := by
 have := run_appI isCont (c :: t) [] ha
 rw [List.append_nil] at this
 unfold isWordB
 rw [first, if_pos hc, this]
 simp [run]
theorem run_pre {f : UInt8 → Bool} : ∀ (s : List UInt8), ∀ c ∈ s.take (run f s), f c = true
 | [], c, h => by simp at h
 | x :: t, c, h => by
   by_cases e : f x = true
   · rw [run, if_pos e, List.take_succ_cons, List.mem_cons] at h
     rcases h with rfl | h
     · exact e
     · exact run_pre t c h
   · rw [run, if_neg e] at h
     simp at h
theorem first_ok (s : List UInt8) (n : Nat) : 2 ≤ (first s).1 → Ok1 (ctOf (convT ⟨(first s).1, s.take (first s).2, n⟩)) := by
 cases s with
 | nil => intro h; simp [first] at h
 | cons c t =>
   rw [first]
   split
   · rename_i hc
     intro _
     have hp := run_pre (f := isCont) (c :: t)
     have hpos : run isCont (c :: t) = run isCont t + 1 := by rw [run, if_pos (by unfold isCont; rw [hc]; rfl)]
     left
     refine ⟨rfl, ?_⟩
     show isWordB ((c :: t).take (run isCont (c :: t))) = true
     rw [hpos, List.take_succ_cons] at hp ⊢
     exact wordB_of hc hp
   · split
     · rename_i _ hd
       intro _
       have hp := run_pre (f := isDig) (c :: t)
       have hpos : run isDig (c :: t) = run isDig t + 1 := by rw [run, if_pos hd]
       right; left
       refine ⟨rfl, ?_, hp⟩
       show (c :: t).take (run isDig (c :: t)) ≠ []
       rw [hpos, List.take_succ_cons]
       simp
     · split
       · rename_i _ _ hs
         intro _
         right; right; right
         exact ⟨rfl, c, rfl, hs⟩
       · split
         · rename_i h34
           intro _
           right; right; left
           refine ⟨rfl, ?_⟩
           obtain ⟨rfl, hl⟩ := h34
           have hl2 : strLen t = run (fun c => !notStr c) t + 2 := by
             unfold strLen at hl ⊢
             dsimp only at hl ⊢
             split
             · rfl
             · rename_i q
               rw [if_neg q] at hl
               exact absurd rfl hl
           have hlt : run (fun c => !notStr c) t < t.length := by
             unfold strLen at hl
             dsimp only at hl
             split at hl
             · rename_i q
               exact (List.getElem?_eq_some_iff.1 q).1
             · exact absurd rfl hl
           show isTextB (if (4 : Nat) = 4 then (((34 :: t).take (strLen t)).drop 1).take (((34 :: t).take (strLen t)).length - 2) else (34 :: t).take (strLen t)) = true
           rw [if_pos rfl, hl2]
           have e : (((34 :: t : List UInt8).take (run (fun c => !notStr c) t + 2)).drop 1).take (((34 :: t : List UInt8).take (run (fun c => !notStr c) t + 2)).length - 2) = t.take (run (fun c => !notStr c) t) := by
             rw [List.length_take, List.length_cons, show min (run (fun c => !notStr c) t + 2) (t.length + 1) - 2 = run (fun c => !notStr c) t by omega, show run (fun c => !notStr c) t + 2 = (run (fun c => !notStr c) t + 1) + 1 by omega, List.take_succ_cons, List.drop_succ_cons, List.drop_zero, List.take_take]
             congr 1
             omega
           rw [e]
           have hp := run_pre (f := fun c => !notStr c) t
           have := run_appI (fun c => !notStr c) _ [] hp
           rw [List.append_nil] at this
           unfold isTextB
           rw [this]
           simp [run]
         · intro h; simp at h
theorem toks_okI : ∀ (f : Nat) (s : List UInt8) (n : Nat), s.length < f → ∀ t ∈ rToks s n, t.kd = 0 ∨ t.kd = 5 ∨ Ok1 (ctOf t)
 | 0, _, _, h, _, _ => absurd h (Nat.not_lt_zero _)
 | f + 1, s, n, h, t, ht => by
   unfold rToks at ht
   rw [toks_eq] at ht
   split at ht
   · rename_i hc
     rw [List.map_singleton, List.mem_singleton] at ht
     rw [ht]
     rcases Nat.le_one_iff_eq_zero_or_eq_one.1 hc with e | e
     · right; left
       show kindOf (next s n).1.cls = 5
       rw [e]; rfl
     · left
       show kindOf (next s n).1.cls = 0
       rw [e]; rfl
   · rename_i hc
     rw [List.map_cons, List.mem_cons] at ht
     rcases ht with ht | ht
     · right; right
       rw [ht]
       exact first_ok (skip false s n).1 (skip false s n).2 (by
         have : (next s n).1.cls = (first (skip false s n).1).1 := rfl
         omega)
     · exact toks_okI f _ _ (by have := next_len s n (by omega); omega) t ht
theorem Lx.gap {s rest : List UInt8} (h : s ∈ gapsB) : Lx s [] rest := by
 have b := fun (r : List UInt8) => Lx.blank (c := 32) (rest := r) (.inl rfl)
 unfold gapsB at h
 simp only [List.mem_cons, List.not_mem_nil, or_false] at h
 rcases h with rfl | rfl | rfl | rfl | rfl | rfl
 · exact b _
 · exact Lx.feed
 · exact Lx.app (s := [32]) (s' := [32, 9]) (cs := []) (cs' := []) (b _) (Lx.app (s := [32]) (s' := [9]) (cs := []) (cs' := []) (b _) (Lx.blank (.inr (.inl rfl))))
 · exact Lx.app (s := [13]) (s' := [10]) (cs := []) (cs' := []) (Lx.blank (.inr (.inr rfl))) Lx.feed
 · exact Lx.app (s := [32]) (s' := [35, 32, 110, 111, 116, 101, 59, 32, 34, 32, 125, 10]) (cs := []) (cs' := []) (b _) (Lx.note (t := [32, 110, 111, 116, 101, 59, 32, 34, 32, 125]) (by decide))
 · exact Lx.app (s := [10]) (s' := [10]) (cs := []) (cs' := []) Lx.feed Lx.feed
theorem gap_head {s rest : List UInt8} (h : s ∈ gapsB) : ∀ x ∈ (s ++ rest).head?, isCont x = false := by
 unfold gapsB at h
 simp only [List.mem_cons, List.not_mem_nil, or_false] at h
 rcases h with rfl | rfl | rfl | rfl | rfl | rfl <;> (intro x hx; simp at hx; subst hx; decide)
theorem Lx.joined {g : List Int} : ∀ (cs : List Ct) (i : Nat) (rest : List UInt8), (∀ c ∈ cs, Ok1 c) → Lx (joinG g i (cs.map spell)) cs rest
 | [], _, _, _ => Lx.nil
 | c :: t, i, rest, h => by
   have ih := Lx.joined (g := g) t (i + 1) rest (fun z hz => h z (List.mem_cons_of_mem _ hz))
   have h1 : Lx (spell c) [c] (gapOf g i ++ (joinG g (i + 1) (t.map spell) ++ rest)) := Lx.one (h c (by simp)) (gap_head (gap_mem g i))
   have h2 : Lx (gapOf g i) [] (joinG g (i + 1) (t.map spell) ++ rest) := Lx.gap (gap_mem g i)
   show Lx (spell c ++ gapOf g i ++ joinG g (i + 1) (t.map spell)) ([c] ++ [] ++ t) rest
   exact Lx.app (Lx.app h1 h2) ih
theorem joined_toks {g : List Int} {cs : List Ct} (h : ∀ c ∈ cs, Ok1 c) : (rToks (joinG g 0 (cs.map spell)) 1).map ctOf = cs ++ [(0, [])] := by
 obtain ⟨ts, e, hc⟩ := Lx.joined (g := g) cs 0 [] h 1
 rw [List.append_nil] at e
 rw [e, rToks_end, List.map_append, hc]
 rfl
theorem mTs_names (l : List Int) : ∀ (k i a : Nat), i + k ≤ 8 → (mTs l k i a).map Tgt.name = (mNames.drop i).take k
 | 0, i, a, _ => by simp [mTs]
 | k + 1, i, a, h => by
   have hi : i < mNames.length := by show i < 8; omega
   have e : mNames.drop i = mNames[i] :: mNames.drop (i + 1) := List.drop_eq_getElem_cons hi
   rw [mTs, List.map_cons, mTs_names l k (i + 1) _ (by omega), (mTgt_ok l i a).name, e, List.take_succ_cons, List.getD_eq_getElem?_getD, List.getElem?_eq_getElem hi]
   rfl
theorem mItm_src {tx : List (List UInt8)} {lim glb : Bool} {x : Itm} (h : MItm tx lim glb x) (ht : ∀ t ∈ tx, isTextB t = true) : rSource x = true := by
 unfold rSource
 rw [ht _ h.tx, Bool.true_and, Bool.or_eq_true]
 rcases h.pl with e | ⟨_, e⟩
 · left; rw [e]; rfl
 · right
   have : ∀ t ∈ mAll.take 3, isPlatB t = true := by decide
   exact this _ e
theorem mTgt_right {i : Nat} {T : Tgt} (h : MTgt i T) (hi : i < 8) : rTarget T = true := by
 unfold rTarget rKind rNums
 simp only [Bool.and_eq_true, List.all_eq_true, decide_eq_true_eq, Bool.or_eq_true]
 refine ⟨⟨⟨⟨⟨⟨?_, h.kind⟩, ⟨⟨h.cost, h.retry.1⟩, h.retry.2.1⟩, h.retry.2.2⟩, fun x hx => mItm_src (h.srcs x hx) (by decide)⟩, fun x hx => ?_⟩, fun x hx => ?_⟩, fun x hx => ?_⟩
 · rw [h.name]
   have : ∀ t ∈ mNames, isWordB t = true := by decide
   exact this _ (getD_mem hi)
 · unfold rDep
   have g := h.deps x hx
   rw [mItm_src g (by decide)]
   cases e : x.gl with
   | false => rfl
   | true => exact absurd (g.gl e) (by decide)
 · unfold rText rDep
   have g := h.outs x hx
   rw [mItm_src g (by decide)]
   have e2 : x.pl = [] := g.pl.resolve_right (by rintro ⟨q, _⟩; exact absurd q (by decide))
   rw [e2]
   cases e : x.gl with
   | false => rfl
   | true => exact absurd (g.gl e) (by decide)
 · unfold rText rDep
   have g := h.viss x hx
   rw [mItm_src g (by decide)]
   have e2 : x.pl = [] := g.pl.resolve_right (by rintro ⟨q, _⟩; exact absurd q (by decide))
   rw [e2]
   cases e : x.gl with
   | false => rfl
   | true => exact absurd (g.gl e) (by decide)
theorem mMade_right (l : List Int) : rBuild (mMade l).1 (mMade l).2 = true := by
 unfold mMade
 dsimp only
 obtain ⟨n, hn⟩ : ∃ z, mNext l 0 4 = z := ⟨_, rfl⟩
 have h4 := mNext_lt (l := l) (a := 0) (n := 4) (by decide)
 rw [hn] at h4 ⊢
 obtain ⟨m, hm⟩ : ∃ z, mNext l n.2 6 = z := ⟨_, rfl⟩
 have h6 := mNext_lt (l := l) (a := n.2) (n := 6) (by decide)
 rw [hm] at h6 ⊢
 obtain ⟨n1, n2⟩ := n
 obtain ⟨m1, m2⟩ := m
 dsimp only at h4 h6 ⊢
 unfold rBuild
 simp only [Bool.and_eq_true]
 refine ⟨?_, ?_, ?_⟩
 · have : ∀ k, k < 4 → (((mPlats k).all rPlat && pDis (fun _ => false) ((mPlats k).map Itm.tx)) = true) := by decide
   have := this n1 h4
   rw [Bool.and_eq_true] at this
   exact this
 · rw [List.all_eq_true]
   intro T hT
   obtain ⟨j, hj, rfl⟩ := List.getElem_of_mem hT
   have hj' := hj
   rw [mTs_len] at hj'
   have := mTs_ok l m1 0 m2 j hj
   rw [Nat.zero_add] at this
   exact mTgt_right this (by omega)
 · rw [mTs_names l m1 0 m2 (by omega), List.drop_zero]
   have : ∀ k, k < 6 → pDis (fun _ => false) (mNames.take k) = true := by decide
   exact this m1 h6
theorem pcs_eq (l : List RTok) : pcs l = ((l.map ctOf).filter fun c => !(c.1 == 0)).map spell := by
 unfold pcs
 rw [List.filter_map, List.map_map]
 rfl
theorem toks_nobad {l : List RTok} {cs : List Ct} (h : l.map ctOf = cs ++ [(0, [])]) (h0 : ∀ c ∈ cs, c.1 ≠ 0) : pcs l = cs.map spell := by
 rw [pcs_eq, h, List.filter_append]
 have e : cs.filter (fun c => !(c.1 == 0)) = cs := List.filter_eq_self.2 fun c hc => by simp [h0 c hc]
 rw [e]
 simp
def K14 (cs : List Ct) : Prop := ∀ c ∈ cs, 1 ≤ c.1 ∧ c.1 ≤ 4
theorem K14.nil : K14 [] := fun c h => absurd h (by simp)
theorem K14.cons {k : Int} {t : List UInt8} {cs : List Ct} (h1 : 1 ≤ k) (h4 : k ≤ 4) (h : K14 cs) : K14 ((k, t) :: cs) := fun c hc => by
 rcases List.mem_cons.1 hc with rfl | hc
 · exact ⟨h1, h4⟩
 · exact h c hc
theorem K14.app {a b : List Ct} (h : K14 a) (h' : K14 b) : K14 (a ++ b) := fun c hc => (List.mem_append.1 hc).elim (h c) (h' c)
theorem tItm_k (x : Itm) : K14 (tItm x) := by
 unfold tItm
 split
 · exact .cons (by decide) (by decide) (.cons (by decide) (by decide) (.cons (by decide) (by decide) (.cons (by decide) (by decide) .nil)))
 · exact .cons (by decide) (by decide) .nil
theorem tPre_k (word : List UInt8) (p : Option (List UInt8)) (x : Itm) : K14 (tPre word p x) := by
 unfold tPre
 split
 · exact .cons (by decide) (by decide) .nil
 · refine .app ?_ (.cons (by decide) (by decide) ?_)
   · split
     · exact .nil
     · exact .cons (by decide) (by decide) .nil
   · split
     · exact .nil
     · exact .cons (by decide) (by decide) .nil
theorem tGo_k (word : List UInt8) : ∀ (l : List Itm) (p : Option (List UInt8)), K14 (tGo word p l)
 | [], _ => .nil
 | x :: t, p => .app (tPre_k word p x) (.app (tItm_k x) (tGo_k word t _))
theorem tAttr_k (word : List UInt8) (l : List Itm) : K14 (tAttr word l) := by
 unfold tAttr
 split
 · exact .nil
 · exact .app (tGo_k word l none) (.cons (by decide) (by decide) .nil)
theorem tTgt_k (T : Tgt) : K14 (tTgt T) := by
 unfold tTgt
 refine .cons (by decide) (by decide) (.cons (by decide) (by decide) (.cons (by decide) (by decide) (.cons (by decide) (by decide) (.cons (by decide) (by decide) (.cons (by decide) (by decide) ?_)))))
 refine .app (tAttr_k _ _) (.app (tAttr_k _ _) (.app (tAttr_k _ _) (.app (tAttr_k _ _) (.app ?_ (.app ?_ (.cons (by decide) (by decide) .nil))))))
 · unfold ctCost
   split
   · exact .nil
   · exact .cons (by decide) (by decide) (.cons (by decide) (by decide) (.cons (by decide) (by decide) .nil))
 · unfold ctRetry
   split
   · exact .nil
   · exact .cons (by decide) (by decide) (.cons (by decide) (by decide) (.cons (by decide) (by decide) .nil))
theorem tPlMore_k : ∀ t : List Itm, K14 (tPlMore t)
 | [] => .nil
 | y :: s => .cons (by decide) (by decide) (.cons (by decide) (by decide) (tPlMore_k s))
theorem tPlats_k (pl : List Itm) : K14 (tPlats pl) := by
 cases pl with
 | nil => exact .nil
 | cons x t => exact .cons (by decide) (by decide) (.cons (by decide) (by decide) (.app (tPlMore_k t) (.cons (by decide) (by decide) .nil)))
theorem tTgts_k : ∀ L : List Tgt, K14 (L.flatMap tTgt)
 | [] => .nil
 | T :: L => .app (tTgt_k T) (tTgts_k L)
def tBody (pl : List Itm) (L : List Tgt) : List Ct := tPlats pl ++ L.flatMap tTgt
theorem tBody_k (pl : List Itm) (L : List Tgt) : K14 (tBody pl L) := .app (tPlats_k pl) (tTgts_k L)
theorem tFile_body (pl : List Itm) (L : List Tgt) : tFile pl L = tBody pl L ++ [(0, [])] := by unfold tFile tBody; rw [List.append_assoc]
theorem body_ok {pl : List Itm} {L : List Tgt} (h : rBuild pl L = true) : ∀ c ∈ tBody pl L, Ok1 c := fun c hc => by
 have e := file_toks h
 rw [tFile_body] at e
 have hm : c ∈ (rToks (fFile pl L) 1).map ctOf := by rw [e]; exact List.mem_append_left _ hc
 obtain ⟨t, ht, rfl⟩ := List.mem_map.1 hm
 have hk := tBody_k pl L _ hc
 rcases toks_okI _ _ _ (Nat.lt_succ_self _) t ht with q | q | q
 · have hk1 : 1 ≤ t.kd := hk.1
   omega
 · have hk1 : t.kd ≤ 4 := hk.2
   omega
 · exact q
theorem pcs_file {pl : List Itm} {L : List Tgt} (h : rBuild pl L = true) : pcs (rToks (fFile pl L) 1) = (tBody pl L).map spell :=
 toks_nobad (by rw [file_toks h, tFile_body]) (fun c hc q => by have := (tBody_k pl L c hc).1; omega)
theorem joined_file {pl : List Itm} {L : List Tgt} (h : rBuild pl L = true) (g : List Int) : (rToks (joinG g 0 (pcs (rToks (fFile pl L) 1))) 1).map ctOf = tFile pl L := by
 rw [pcs_file h, joined_toks (body_ok h), tFile_body]
theorem joined_parse {pl : List Itm} {L : List Tgt} (h : rBuild pl L = true) (g : List Int) :
   ∃ pl' L', rParse (rToks (joinG g 0 (pcs (rToks (fFile pl L) 1))) 1) = ((pl', L'), (0, 0)) ∧ pl'.map plI = pl.map plI ∧ L'.map plT = L.map plT := parse_of (fit_of h) (mt_all (joined_file h g))
theorem unT_plT : unT = plT := rfl
theorem unl_plI (l : List Itm) : unl l = l.map plI := rfl
theorem map_plT {L M : List Tgt} (h : L.map strip = M.map strip) : L.map plT = M.map plT := by
 have e : ∀ K : List Tgt, K.map plT = (K.map strip).map plT := fun K => by rw [List.map_map]; rfl
 rw [e L, e M, h]
theorem plI_id {l : List Itm} (h : ∀ x ∈ l, x.ln = 0) : l.map plI = l := by
 have : ∀ x ∈ l, plI x = x := fun x hx => by unfold plI; rw [← h x hx]
 rw [List.map_congr_left this]
 simp
theorem sameT_pl : ∀ {L : List Tgt}, (∀ T ∈ L, T.line = 0 ∧ ∀ i, i < 4 → ∀ x ∈ T.rows i, x.ln = 0) → sameT (L.map plT) L = true
 | [], _ => rfl
 | T :: L, h => by
   obtain ⟨h1, h2⟩ := h T (by simp)
   have ih := sameT_pl (L := L) (fun x hx => h x (List.mem_cons_of_mem _ hx))
   rw [List.map_cons, sameT, ih, Bool.and_true]
   have r := fun i hi => plI_id (h2 i hi)
   have e : tgtEq (plT T) T = tgtEq T T := by
     unfold tgtEq
     show (sameI ((T.rows 0).map plI) (T.rows 0) && sameI ((T.rows 1).map plI) (T.rows 1) && sameI ((T.rows 2).map plI) (T.rows 2) && sameI ((T.rows 3).map plI) (T.rows 3) && (T.name == T.name) && (T.kind == T.kind) && (((0 : Nat) : Int) == (T.line : Int)) && (T.cost == T.cost) && (T.retry == T.retry)) = _
     rw [r 0 (by decide), r 1 (by decide), r 2 (by decide), r 3 (by decide), h1]
   rw [e]
   exact tgtEq_self T
theorem mMade_zero (l : List Int) : (∀ x ∈ (mMade l).1, x.ln = 0) ∧ ∀ T ∈ (mMade l).2, T.line = 0 ∧ ∀ i, i < 4 → (T.rows i).length ≤ 3 ∧ ∀ x ∈ T.rows i, x.ln = 0 := by
 unfold mMade
 dsimp only
 obtain ⟨n, hn⟩ : ∃ z, mNext l 0 4 = z := ⟨_, rfl⟩
 rw [hn]
 obtain ⟨m, hm⟩ : ∃ z, mNext l n.2 6 = z := ⟨_, rfl⟩
 rw [hm]
 refine ⟨fun x hx => ?_, fun T hT => ?_⟩
 · unfold mPlats at hx
   obtain ⟨t, _, rfl⟩ := List.mem_map.1 hx
   rfl
 · obtain ⟨j, hj, rfl⟩ := List.getElem_of_mem hT
   have h := mTs_ok l m.1 0 m.2 j hj
   refine ⟨h.line, fun i hi => ⟨h.len i, ?_⟩⟩
   obtain rfl | rfl | rfl | rfl : i = 0 ∨ i = 1 ∨ i = 2 ∨ i = 3 := by omega
   · exact fun x hx => (h.srcs x hx).ln
   · exact fun x hx => (h.deps x hx).ln
   · exact fun x hx => (h.outs x hx).ln
   · exact fun x hx => (h.viss x hx).ln
theorem blanks (l g : List Int) : ∃ X, joinG g 0 (pcs (rToks (fFile (mMade l).1 (mMade l).2) 1)) = X ∧ Asc X ∧ X.length ≤ 30000000 ∧ (pParse X).2 = (0, 0) ∧ (rParse (rToks X 1)).2 = (0, 0) ∧ sameB (unl (pParse X).1.1) ((pParse X).1.2.map unT) (mMade l).1 (mMade l).2 = true ∧
   (pParse X).1.1.length ≤ 4 ∧ (pParse X).1.2.length ≤ 6 ∧ ∀ T ∈ (pParse X).1.2, ∀ i, i < 4 → (T.rows i).length ≤ 3 := by
 obtain ⟨s1, s2, _⟩ := mMade_sml l
 obtain ⟨z1, z2⟩ := mMade_zero l
 have hr := mMade_right l
 obtain ⟨pl', L', e1, e2, e3⟩ := joined_parse hr g
 obtain ⟨X, hX⟩ : ∃ X, joinG g 0 (pcs (rToks (fFile (mMade l).1 (mMade l).2) 1)) = X := ⟨_, rfl⟩
 have hps := pcs_sub s1
 have ha : Asc X := by rw [← hX]; exact joinG_asc g _ 0 (fun p hp => (hps p hp).2)
 have hl : X.length ≤ 30000000 := by
   have h1 := joinG_len g 5002 (pcs (rToks (fFile (mMade l).1 (mMade l).2) 1)) 0 (fun p hp => by have := (hps p hp).1; omega)
   have h2 := pcs_len (rToks (fFile (mMade l).1 (mMade l).2) 1)
   have h3 := (rToks_len (fFile (mMade l).1 (mMade l).2) 1).2
   have h4 : (pcs (rToks (fFile (mMade l).1 (mMade l).2) 1)).length * (5002 + 13) ≤ 5001 * 5015 := Nat.mul_le_mul (by omega) (Nat.le_refl _)
   rw [hX] at h1
   omega
 rw [hX] at e1
 obtain ⟨p1, p2, p3⟩ := parse_same (toks_ok X.length X 1 (Nat.le_refl _) (by omega))
 rw [e1] at p1 p2 p3
 dsimp only at p1 p2 p3
 have q3 := map_plT p3
 have hpl : (pParse X).1.1.map plI = (mMade l).1 := by rw [← p2, e2, plI_id z1]
 have hL : (pParse X).1.2.map plT = (mMade l).2.map plT := by rw [← q3, e3]
 have n1 : (mMade l).1.length ≤ 4 ∧ (mMade l).2.length ≤ 6 := by
   have h4 := mNext_lt (l := l) (a := 0) (n := 4) (by decide)
   have h6 := mNext_lt (l := l) (a := (mNext l 0 4).2) (n := 6) (by decide)
   unfold mMade mPlats
   dsimp only
   rw [mTs_len, List.length_map, List.length_take]
   omega
 refine ⟨X, hX, ha, hl, p1.symm, by rw [e1], ?_, ?_, ?_, ?_⟩
 · unfold sameB
   rw [unl_plI, hpl, sameI_self, unT_plT, hL, Bool.true_and]
   exact sameT_pl (fun T hT => ⟨(z2 T hT).1, fun i hi => ((z2 T hT).2 i hi).2⟩)
 · have := congrArg List.length hpl
   rw [List.length_map] at this
   omega
 · have := congrArg List.length hL
   rw [List.length_map, List.length_map] at this
   omega
 · intro T hT i hi
   have hm : plT T ∈ (mMade l).2.map plT := by rw [← hL]; exact List.mem_map_of_mem hT
   obtain ⟨U, hU, e⟩ := List.mem_map.1 hm
   have h1 := ((z2 U hU).2 i hi).1
   have h2 := congrArg (fun V : Tgt => (V.rows i).length) e
   have h3 : ((U.rows i).map plI).length = ((T.rows i).map plI).length := by
     have f1 : (plT U).rows i = (U.rows i).map plI := by show (if i < 4 then (U.rows i).map plI else []) = _; rw [if_pos hi]
     have f2 : (plT T).rows i = (T.rows i).map plI := by show (if i < 4 then (T.rows i).map plI else []) = _; rw [if_pos hi]
     rw [← f1, ← f2]
     exact h2
   rw [List.length_map, List.length_map] at h3
   omega
end Go.Proofs.YtcjoiiaankngjaaGreatDoor
