/- The Syntax seat, part 7: contracts of the program and of the reference. -/
import Derived.Test.YtcjoiiaankngjaaGreatDoorC6
namespace Go.Proofs.YtcjoiiaankngjaaGreatDoor
set_option maxRecDepth 100000
open Go.RowKit
theorem mTs_names (l : List Int) : ∀ (k i a : Nat), i + k ≤ 8 → (mTs l k i a).map Tgt.name = (mNames.drop i).take k
 | 0, i, a, _ => by simp [mTs]
 | k + 1, i, a, h => by
   have hi : i < mNames.length := by show i < 8; omega
   have e : mNames.drop i = mNames[i] :: mNames.drop (i + 1) := List.drop_eq_getElem_cons hi
   rw [mTs, List.map_cons, mTs_names l k (i + 1) _ (by omega), (mTgt_ok l i a).name, e, List.take_succ_cons, List.getD_eq_getElem?_getD, List.getElem?_eq_getElem hi]
   rfl
theorem mItm_src {tx : List (List UInt8)} {lim glb : Bool} {x : Itm} (h : MItm tx lim glb x) (ht : ∀ t ∈ tx, isTextB t = true) : rSource x = true := by
 unfold rSource
 rw [ht _ h.tx, Bool.true_and, Bool.or_eq_true]
 rcases h.pl with e | ⟨_, e⟩
 · left; rw [e]; rfl
 · right
   have : ∀ t ∈ mAll.take 3, isPlatB t = true := by decide
   exact this _ e
theorem mTgt_right {i : Nat} {T : Tgt} (h : MTgt i T) (hi : i < 8) : rTarget T = true := by
 unfold rTarget rKind rNums
 simp only [Bool.and_eq_true, List.all_eq_true, decide_eq_true_eq, Bool.or_eq_true]
 refine ⟨⟨⟨⟨⟨⟨?_, h.kind⟩, ⟨⟨h.cost, h.retry.1⟩, h.retry.2.1⟩, h.retry.2.2⟩, fun x hx => mItm_src (h.srcs x hx) (by decide)⟩, fun x hx => ?_⟩, fun x hx => ?_⟩, fun x hx => ?_⟩
 · rw [h.name]
   have : ∀ t ∈ mNames, isWordB t = true := by decide
   exact this _ (getD_mem hi)
 · unfold rDep
   have g := h.deps x hx
   rw [mItm_src g (by decide)]
   cases e : x.gl with
   | false => rfl
   | true => exact absurd (g.gl e) (by decide)
 · unfold rText rDep
   have g := h.outs x hx
   rw [mItm_src g (by decide)]
   have e2 : x.pl = [] := g.pl.resolve_right (by rintro ⟨q, _⟩; exact absurd q (by decide))
   rw [e2]
   cases e : x.gl with
   | false => rfl
   | true => exact absurd (g.gl e) (by decide)
 · unfold rText rDep
   have g := h.viss x hx
   rw [mItm_src g (by decide)]
   have e2 : x.pl = [] := g.pl.resolve_right (by rintro ⟨q, _⟩; exact absurd q (by decide))
   rw [e2]
   cases e : x.gl with
   | false => rfl
   | true => exact absurd (g.gl e) (by decide)
theorem mMade_right (l : List Int) : rBuild (mMade l).1 (mMade l).2 = true := by
 unfold mMade
 dsimp only
 obtain ⟨n, hn⟩ : ∃ z, mNext l 0 4 = z := ⟨_, rfl⟩
 have h4 := mNext_lt (l := l) (a := 0) (n := 4) (by decide)
 rw [hn] at h4 ⊢
 obtain ⟨m, hm⟩ : ∃ z, mNext l n.2 6 = z := ⟨_, rfl⟩
 have h6 := mNext_lt (l := l) (a := n.2) (n := 6) (by decide)
 rw [hm] at h6 ⊢
 obtain ⟨n1, n2⟩ := n
 obtain ⟨m1, m2⟩ := m
 dsimp only at h4 h6 ⊢
 unfold rBuild
 simp only [Bool.and_eq_true]
 refine ⟨?_, ?_, ?_⟩
 · have : ∀ k, k < 4 → (((mPlats k).all rPlat && pDis (fun _ => false) ((mPlats k).map Itm.tx)) = true) := by decide
   have := this n1 h4
   rw [Bool.and_eq_true] at this
   exact this
 · rw [List.all_eq_true]
   intro T hT
   obtain ⟨j, hj, rfl⟩ := List.getElem_of_mem hT
   have hj' := hj
   rw [mTs_len] at hj'
   have := mTs_ok l m1 0 m2 j hj
   rw [Nat.zero_add] at this
   exact mTgt_right this (by omega)
 · rw [mTs_names l m1 0 m2 (by omega), List.drop_zero]
   have : ∀ k, k < 6 → pDis (fun _ => false) (mNames.take k) = true := by decide
   exact this m1 h6
theorem pcs_eq (l : List RTok) : pcs l = ((l.map ctOf).filter fun c => !(c.1 == 0)).map spell := by
 unfold pcs
 rw [List.filter_map, List.map_map]
 rfl
theorem toks_nobad {l : List RTok} {cs : List Ct} (h : l.map ctOf = cs ++ [(0, [])]) (h0 : ∀ c ∈ cs, c.1 ≠ 0) : pcs l = cs.map spell := by
 rw [pcs_eq, h, List.filter_append]
 have e : cs.filter (fun c => !(c.1 == 0)) = cs := List.filter_eq_self.2 fun c hc => by simp [h0 c hc]
 rw [e]
 simp
def K14 (cs : List Ct) : Prop := ∀ c ∈ cs, 1 ≤ c.1 ∧ c.1 ≤ 4
theorem K14.nil : K14 [] := fun c h => absurd h (by simp)
theorem K14.cons {k : Int} {t : List UInt8} {cs : List Ct} (h1 : 1 ≤ k) (h4 : k ≤ 4) (h : K14 cs) : K14 ((k, t) :: cs) := fun c hc => by
 rcases List.mem_cons.1 hc with rfl | hc
 · exact ⟨h1, h4⟩
 · exact h c hc
theorem K14.app {a b : List Ct} (h : K14 a) (h' : K14 b) : K14 (a ++ b) := fun c hc => (List.mem_append.1 hc).elim (h c) (h' c)
theorem tItm_k (x : Itm) : K14 (tItm x) := by
 unfold tItm
 split
 · exact .cons (by decide) (by decide) (.cons (by decide) (by decide) (.cons (by decide) (by decide) (.cons (by decide) (by decide) .nil)))
 · exact .cons (by decide) (by decide) .nil
theorem tPre_k (word : List UInt8) (p : Option (List UInt8)) (x : Itm) : K14 (tPre word p x) := by
 unfold tPre
 split
 · exact .cons (by decide) (by decide) .nil
 · refine .app ?_ (.cons (by decide) (by decide) ?_)
   · split
     · exact .nil
     · exact .cons (by decide) (by decide) .nil
   · split
     · exact .nil
     · exact .cons (by decide) (by decide) .nil
theorem tGo_k (word : List UInt8) : ∀ (l : List Itm) (p : Option (List UInt8)), K14 (tGo word p l)
 | [], _ => .nil
 | x :: t, p => .app (tPre_k word p x) (.app (tItm_k x) (tGo_k word t _))
theorem tAttr_k (word : List UInt8) (l : List Itm) : K14 (tAttr word l) := by
 unfold tAttr
 split
 · exact .nil
 · exact .app (tGo_k word l none) (.cons (by decide) (by decide) .nil)
theorem tTgt_k (T : Tgt) : K14 (tTgt T) := by
 unfold tTgt
 refine .cons (by decide) (by decide) (.cons (by decide) (by decide) (.cons (by decide) (by decide) (.cons (by decide) (by decide) (.cons (by decide) (by decide) (.cons (by decide) (by decide) ?_)))))
 refine .app (tAttr_k _ _) (.app (tAttr_k _ _) (.app (tAttr_k _ _) (.app (tAttr_k _ _) (.app ?_ (.app ?_ (.cons (by decide) (by decide) .nil))))))
 · unfold ctCost
   split
   · exact .nil
   · exact .cons (by decide) (by decide) (.cons (by decide) (by decide) (.cons (by decide) (by decide) .nil))
 · unfold ctRetry
   split
   · exact .nil
   · exact .cons (by decide) (by decide) (.cons (by decide) (by decide) (.cons (by decide) (by decide) .nil))
theorem tPlMore_k : ∀ t : List Itm, K14 (tPlMore t)
 | [] => .nil
 | y :: s => .cons (by decide) (by decide) (.cons (by decide) (by decide) (tPlMore_k s))
theorem tPlats_k (pl : List Itm) : K14 (tPlats pl) := by
 cases pl with
 | nil => exact .nil
 | cons x t => exact .cons (by decide) (by decide) (.cons (by decide) (by decide) (.app (tPlMore_k t) (.cons (by decide) (by decide) .nil)))
theorem tTgts_k : ∀ L : List Tgt, K14 (L.flatMap tTgt)
 | [] => .nil
 | T :: L => .app (tTgt_k T) (tTgts_k L)
def tBody (pl : List Itm) (L : List Tgt) : List Ct := tPlats pl ++ L.flatMap tTgt
theorem tBody_k (pl : List Itm) (L : List Tgt) : K14 (tBody pl L) := .app (tPlats_k pl) (tTgts_k L)
theorem tFile_body (pl : List Itm) (L : List Tgt) : tFile pl L = tBody pl L ++ [(0, [])] := by unfold tFile tBody; rw [List.append_assoc]
theorem body_ok {pl : List Itm} {L : List Tgt} (h : rBuild pl L = true) : ∀ c ∈ tBody pl L, Ok1 c := fun c hc => by
 have e := file_toks h
 rw [tFile_body] at e
 have hm : c ∈ (rToks (fFile pl L) 1).map ctOf := by rw [e]; exact List.mem_append_left _ hc
 obtain ⟨t, ht, rfl⟩ := List.mem_map.1 hm
 have hk := tBody_k pl L _ hc
 rcases toks_okI _ _ _ (Nat.lt_succ_self _) t ht with q | q | q
 · have hk1 : 1 ≤ t.kd := hk.1
   omega
 · have hk1 : t.kd ≤ 4 := hk.2
   omega
 · exact q
theorem pcs_file {pl : List Itm} {L : List Tgt} (h : rBuild pl L = true) : pcs (rToks (fFile pl L) 1) = (tBody pl L).map spell :=
 toks_nobad (by rw [file_toks h, tFile_body]) (fun c hc q => by have := (tBody_k pl L c hc).1; omega)
end Go.Proofs.YtcjoiiaankngjaaGreatDoor
namespace Go.Proofs.YtcjoiiaankngjaaGreatDoor
set_option maxRecDepth 100000
def Cu (l : List RTok) (k : Nat) (cs : List Ct) (N : Nat) : Prop := ∃ m, m < cs.length ∧ N = k + m ∧ Mt l k (cs.take m ++ [(0, [])])
abbrev Er (l : List RTok) (N : Nat) : RSt := ⟨N, 40, ((hdT l N).ln : Int)⟩
theorem er_ne {l : List RTok} {N : Nat} : (Er l N).e ≠ 0 := by show (40 : Int) ≠ 0; decide
section
variable {l : List RTok} {k N : Nat} {c : Ct} {cs a b : List Ct}
theorem Cu.cons (h : Cu l k (c :: cs) N) : N = k ∨ (Mt l k [c] ∧ Cu l (k + 1) cs N) := by
 obtain ⟨m, hm, hN, h⟩ := h
 cases m with
 | zero => exact .inl (by omega)
 | succ m =>
   rw [List.take_succ_cons] at h
   right
   refine ⟨(Mt.app (a := [c]) (b := cs.take m ++ [(0, [])]) h).1, m, by simp at hm; omega, by omega, h.cons.2.2.2⟩
theorem Cu.app (h : Cu l k (a ++ b) N) : Cu l k a N ∨ (Mt l k a ∧ Cu l (k + a.length) b N) := by
 obtain ⟨m, hm, hN, h⟩ := h
 by_cases hl : m < a.length
 · left
   rw [List.take_append_of_le_length (by omega)] at h
   exact ⟨m, hl, hN, h⟩
 · right
   rw [List.take_append, List.take_of_length_le (by omega), List.append_assoc] at h
   rw [List.length_append] at hm
   exact ⟨h.app.1, m - a.length, by omega, by omega, h.app.2⟩
theorem Cu.end_ (h : Cu l k cs N) : (hdT l N).kd = 0 := by
 obtain ⟨m, hm, hN, h⟩ := h
 have h2 := h.app.2
 rw [List.length_take, show min m cs.length = m by omega, ← hN] at h2
 exact h2.cons.2.1
theorem Cu.le (h : Cu l k cs N) : k ≤ N := by obtain ⟨m, _, hN, _⟩ := h; omega
end
theorem mt_len {l : List RTok} {k : Nat} {a : List Ct} (h : Mt l k a) (ha : a ≠ []) : k + a.length ≤ l.length := by
 obtain ⟨r, h⟩ := h
 have e := congrArg List.length h
 simp only [List.length_map, List.length_drop, List.length_append] at e
 have : 0 < a.length := List.length_pos_iff.2 ha
 omega
theorem cu_len {l : List RTok} {N k : Nat} {a : List Ct} (h : Cu l k a N) : N < l.length := by
 obtain ⟨m, hm, hN, h⟩ := h
 have := mt_len h (by simp)
 rw [List.length_append, List.length_take, List.length_singleton] at this
 omega
section
variable {l : List RTok} {x : RSt} (he : x.e ≠ 0)
include he
theorem e_fail (c : Int) (n : Int) : rFail c n x = x := by unfold rFail; rw [if_neg he]
theorem e_take (kd : Int) (tx : List UInt8) : rTake kd tx l x = (false, x) := by
 unfold rTake rIs
 rw [if_neg (by simp [he])]
theorem e_need (kd : Int) (tx : List UInt8) : rNeed kd tx l x = x := by
 unfold rNeed
 rw [e_take he, if_neg Bool.false_ne_true, e_fail he]
theorem e_any (kd : Int) : rAny kd l x = (rt0, x) := by
 unfold rAny
 rw [if_neg (fun q => he q.1), e_fail he]
theorem e_loop (f : Nat) (T : Tgt) (sn : Nat → Bool) : rLoop l f ⟨x, T, sn⟩ = ⟨x, T, sn⟩ := by
 cases f with
 | zero => rfl
 | succ f => rw [rLoop, if_neg he]
theorem e_tgts (f : Nat) (a : List Tgt) : rTgts l f a x = (a, x) := by
 cases f with
 | zero => rfl
 | succ f => rw [rTgts, if_neg (fun q => he q.1)]
end
section
variable {l : List RTok} {N : Nat} (h0 : (hdT l N).kd = 0)
include h0
theorem n_take {kd : Int} (hk : kd ≠ 0) (tx : List UInt8) : rTake kd tx l (At N) = (false, At N) := take_miss (.inl (by rw [h0]; exact Ne.symm hk))
theorem n_need {kd : Int} (hk : kd ≠ 0) (tx : List UInt8) : rNeed kd tx l (At N) = Er l N := by
 unfold rNeed
 rw [n_take h0 hk, if_neg Bool.false_ne_true]
 rfl
theorem n_any {kd : Int} (hk : kd ≠ 0) : rAny kd l (At N) = (rt0, Er l N) := by
 unfold rAny
 rw [if_neg (by rw [h0]; exact fun q => hk q.2.symm)]
 rfl
theorem n_one (gl : Bool) (pl : List UInt8) : (rOne gl pl l (At N)).2 = Er l N := by
 unfold rOne rGate rSh
 have e : (if gl = true then rTake 1 globS l (At N) else (false, At N)) = (false, At N) := by
   split
   · exact n_take h0 (by decide) _
   · rfl
 rw [e]
 dsimp only
 rw [if_neg Bool.false_ne_true, if_neg Bool.false_ne_true, n_any h0 (by decide)]
theorem n_more (gl : Bool) (pl : List UInt8) (f : Nat) (a : List Itm) : (rMore gl pl l (f + 1) a (At N)).2 = Er l N := by
 rw [rMore, if_pos rfl, n_one h0, e_take er_ne]
 rw [if_neg Bool.false_ne_true]
theorem n_loop (f : Nat) (T : Tgt) (sn : Nat → Bool) : (rLoop l (f + 1) ⟨At N, T, sn⟩).x = Er l N := by
 rw [rLoop, if_pos rfl]
 dsimp only
 rw [n_take h0 (by decide), if_neg Bool.false_ne_true]
 unfold rRound
 dsimp only
 rw [n_any h0 (by decide)]
 have hs : (rSeen rt0 ⟨Er l N, T, sn⟩) = ⟨Er l N, T, sn⟩ := rfl
 rw [hs]
 have h2 : rSet l rt0 ⟨Er l N, T, sn⟩ = ⟨Er l N, T, sn⟩ := by
   unfold rSet
   rw [if_neg (by decide), if_neg (by decide), if_neg (by decide), if_neg (by decide), if_neg (by decide), if_neg (by decide), if_neg (by decide), e_fail er_ne]
 rw [h2, e_loop er_ne]
end
section
variable {l : List RTok} {N : Nat}
theorem one_cut {k : Nat} {gl : Bool} {x : Itm} (pl : List UInt8) (hg : x.gl = true → gl = true) (h : Cu l k (tItm x) N) : (rOne gl pl l (At k)).2 = Er l N := by
 have h0 := h.end_
 unfold tItm at h
 cases hx : x.gl with
 | false =>
   rw [hx, if_neg Bool.false_ne_true] at h
   rcases h.cons with e | ⟨_, h⟩
   · rw [← e]; exact n_one h0 gl pl
   · obtain ⟨m, hm, _⟩ := h
     exact absurd hm (Nat.not_lt_zero _)
 | true =>
   rw [hx, if_pos rfl] at h
   have hgl := hg hx
   rcases h.cons with e | ⟨m1, h⟩
   · rw [← e]; exact n_one h0 gl pl
   · unfold rOne rGate rSh
     rw [if_pos hgl, take_hit m1]
     dsimp only
     rw [if_pos rfl, if_pos rfl]
     rcases h.cons with e | ⟨m2, h⟩
     · rw [← e, n_need h0 (by decide), e_any er_ne, e_need er_ne]
     · rw [need_hit m2]
       rcases h.cons with e | ⟨m3, h⟩
       · rw [← e, n_any h0 (by decide), e_need er_ne]
       · rw [any_hit m3]
         rcases h.cons with e | ⟨_, h⟩
         · rw [← e, n_need h0 (by decide)]
         · obtain ⟨m, hm, _⟩ := h
           exact absurd hm (Nat.not_lt_zero _)
theorem more_cut {gl : Bool} {pl : List UInt8} : ∀ (t : List Itm) (x : Itm) (k f : Nat) (a : List Itm), (∀ y ∈ x :: t, (y.gl = true → gl = true) ∧ y.pl = pl) → N < k + f → Cu l k (tItm x ++ (tMore t ++ [(4, [59])])) N →
   rNeed 4 [59] l (rMore gl pl l f a (At k)).2 = Er l N
 | _, _, _, 0, _, _, hf, h => absurd h.le (by omega)
 | t, x, k, f + 1, a, hy, hf, h => by
   have h0 := h.end_
   rcases h.app with h1 | ⟨m1, h2⟩
   · rw [rMore, if_pos rfl, one_cut pl (hy x (by simp)).1 h1, e_take er_ne, if_neg Bool.false_ne_true, e_need er_ne]
   · obtain ⟨i, hi, _⟩ := one_hit (ts := []) pl (hy x (by simp)).1 (by rw [List.append_nil]; exact m1)
     rw [rMore, if_pos rfl, hi]
     dsimp only
     match t, hy, hf, h2 with
     | [], _, _, h2 =>
       have h3 : Cu l (k + (tItm x).length) [(4, [59])] N := h2
       rcases h3.cons with e | ⟨_, h⟩
       · rw [← e, n_take h0 (by decide), if_neg Bool.false_ne_true, n_need h0 (by decide)]
       · obtain ⟨m, hm, _⟩ := h
         exact absurd hm (Nat.not_lt_zero _)
     | y :: s, hy, hf, h2 =>
       have h3 : Cu l (k + (tItm x).length) ((4, [44]) :: (tItm y ++ (tMore s ++ [(4, [59])]))) N := by
         have e : tMore (y :: s) ++ [(4, [59])] = (4, [44]) :: (tItm y ++ (tMore s ++ [(4, [59])])) := by simp [tMore]
         rw [← e]; exact h2
       rcases h3.cons with e | ⟨m2, h4⟩
       · rw [← e, n_take h0 (by decide), if_neg Bool.false_ne_true, n_need h0 (by decide)]
       · rw [take_hit m2, if_pos rfl]
         exact more_cut s y _ f _ (fun z hz => hy z (by simp at hz ⊢; exact .inr hz)) (by omega) h4
theorem items_cut {lim gl : Bool} {t : List Itm} {x : Itm} {k : Nat} {a : List Itm} (hy : ∀ y ∈ x :: t, (y.gl = true → gl = true) ∧ y.pl = x.pl) (hl : x.pl ≠ [] → lim = true ∧ x.pl ≠ globS) (h : Cu l k (tGrp x t) N) :
   (rItems lim gl l a (At k)).2 = Er l N := by
 have h0 := h.end_
 have hNl := cu_len h
 have hend : ∀ k, (hdT l k).kd = 0 → rLim lim gl l (At k) = ([], At k) := fun k hk => by
   unfold rLim
   rw [if_neg]
   rintro ⟨_, h1, _⟩
   rw [hk] at h1
   exact absurd h1 (by decide)
 have hfin : ∀ (q : List UInt8), rLim lim gl l (At N) = (q, At N) → (rItems lim gl l a (At N)).2 = Er l N := fun q hq => by
   unfold rItems
   rw [hq]
   dsimp only
   rw [n_more h0, e_need er_ne]
 unfold tGrp at h
 by_cases hp : x.pl = []
 · rw [if_pos hp, List.nil_append] at h
   have e : rLim lim gl l (At k) = ([], At k) := by
     rcases h.app with h1 | ⟨m1, _⟩
     · unfold tItm at h1
       have hc : ∀ c cs, Cu l k (c :: cs) N → (c.1 = 1 → c.2 = globS ∧ gl = true) → rLim lim gl l (At k) = ([], At k) := fun c cs hcu hcc => by
         rcases hcu.cons with e | ⟨mm, _⟩
         · rw [← e]; exact hend N h0
         · unfold rLim
           rw [if_neg]
           rintro ⟨_, q1, q2⟩
           rw [mm.cons.2.1] at q1
           obtain ⟨r1, r2⟩ := hcc q1
           rcases q2 with q2 | q2
           · rw [r2] at q2; exact Bool.false_ne_true q2.symm
           · exact q2 (by rw [mm.cons.2.2.1]; exact r1)
       cases hx : x.gl with
       | true =>
         rw [hx, if_pos rfl] at h1
         exact hc _ _ h1 (fun _ => ⟨rfl, (hy x (by simp)).1 hx⟩)
       | false =>
         rw [hx, if_neg Bool.false_ne_true] at h1
         exact hc _ _ h1 (fun q => absurd q (by show ¬ (3 : Int) = 1; decide))
     · unfold rLim
       rw [if_neg]
       rintro ⟨_, q1, q2⟩
       unfold tItm at m1
       cases hx : x.gl with
       | true =>
         rw [hx, if_pos rfl] at m1
         have := m1.cons.2.2.1
         rcases q2 with q2 | q2
         · have := (hy x (by simp)).1 hx
           rw [q2] at this
           exact Bool.false_ne_true this
         · exact q2 this
       | false =>
         rw [hx, if_neg Bool.false_ne_true] at m1
         have := m1.cons.2.1
         rw [q1] at this
         exact absurd this (show ¬ (1 : Int) = 3 by decide)
   unfold rItems
   rw [e]
   dsimp only
   exact more_cut t x k (l.length + 1) a (fun y hyy => ⟨(hy y hyy).1, by rw [(hy y hyy).2, hp]⟩) (by omega) h
 · rw [if_neg hp] at h
   have h' : Cu l k ((1, x.pl) :: (tItm x ++ (tMore t ++ [(4, [59])]))) N := h
   rcases h'.cons with e | ⟨m1, h2⟩
   · rw [← e]; exact hfin [] (hend N h0)
   · obtain ⟨l1, l2⟩ := hl hp
     have e1 := m1.cons.2.1
     have e2 := m1.cons.2.2.1
     have e : rLim lim gl l (At k) = (x.pl, At (k + 1)) := by
       unfold rLim
       rw [if_pos ⟨l1, e1, .inr (by rw [e2]; exact l2)⟩]
       unfold rPlatform rPlGate rIs
       rw [if_neg (by
         simp only [Bool.and_eq_true, beq_iff_eq]
         rintro ⟨_, q⟩
         exact l2 (e2.symm.trans q)), any_hit m1, e2]
     unfold rItems
     rw [e]
     dsimp only
     exact more_cut t x (k + 1) (l.length + 1) a hy (by omega) h2
end
end Go.Proofs.YtcjoiiaankngjaaGreatDoor
namespace Go.Proofs.YtcjoiiaankngjaaGreatDoor
set_option maxRecDepth 100000
open Go.RowKit
section
variable {l : List RTok} {N : Nat}
theorem mt_of {k : Nat} {a : List Ct} (h : Mt l k a) : Mt l k (a ++ []) := by rw [List.append_nil]; exact h
theorem rows_cut {w : List UInt8} {j : Nat} {lim gl : Bool} (W : Wrd w j lim gl) {sn : Nat → Bool} : ∀ (n : Nat) (g : List Itm) (k f : Nat) (T : Tgt), g.length ≤ n → (∀ y ∈ g, (y.gl = true → gl = true) ∧ (y.pl ≠ [] → lim = true ∧ y.pl ≠ globS)) → N < k + f → Cu l k (tAttr w g) N → (rLoop l f ⟨At k, T, sn⟩).x = Er l N
 | _, [], _, _, _, _, _, _, h => by obtain ⟨m, hm, _⟩ := h; exact absurd hm (Nat.not_lt_zero _)
 | 0, x :: t, _, _, _, hn, _, _, _ => by simp at hn
 | _, _ :: _, _, 0, _, _, _, hf, h => absurd h.le (by omega)
 | n + 1, x :: t, k, f + 1, T, hn, hy, hf, h => by
   have h0 := h.end_
   rw [tAttr_run] at h
   obtain ⟨t1, e1⟩ : ∃ z, t.take (lead (fun i => !(i.pl == x.pl)) t) = z := ⟨_, rfl⟩
   obtain ⟨t2, e2⟩ : ∃ z, t.drop (lead (fun i => !(i.pl == x.pl)) t) = z := ⟨_, rfl⟩
   have et : t = t1 ++ t2 := by rw [← e1, ← e2, List.take_append_drop]
   have ep : ∀ y ∈ t1, y.pl = x.pl := by rw [← e1]; exact lead_pl x.pl t
   have hl2 := congrArg List.length et
   simp only [List.length_append] at hl2
   rw [e1, e2] at h
   have hy1 : ∀ y ∈ x :: t1, (y.gl = true → gl = true) ∧ y.pl = x.pl := fun y hyy => by
     rcases List.mem_cons.1 hyy with rfl | hyy
     · exact ⟨(hy y (by simp)).1, rfl⟩
     · exact ⟨(hy y (by rw [et]; simp [hyy])).1, ep y hyy⟩
   rcases h.cons with e | ⟨m1, h2⟩
   · rw [← e]; exact n_loop h0 f T sn
   · have hs : rSeen (hdT l k) ⟨At (k + 1), T, sn⟩ = ⟨At (k + 1), T, sn⟩ := by
       unfold rSeen
       rw [m1.cons.2.2.1, W.one]
     rw [loop_word m1, hs, W.set_ l (hdT l k) _ m1.cons.2.2.1]
     dsimp only
     rcases h2.app with h3 | ⟨m2, h3⟩
     · rw [items_cut hy1 (hy x (by simp)).2 h3, e_loop er_ne]
     · obtain ⟨g1, hg, _⟩ := items_hit (lim := lim) (gl := gl) (a := T.rows j) (ts := []) hy1 (hy x (by simp)).2 (mt_of m2)
       rw [hg]
       dsimp only
       exact rows_cut W n t2 _ f _ (by simp at hn; omega) (fun y hyy => hy y (by rw [et]; simp [hyy])) (by omega) h3
theorem number_cut {k : Nat} {low high n : Int} {d : List UInt8} (hl : low ≤ n) (hh : n ≤ high) (hd : rVal d = n) (h : Cu l k [(2, d), (4, [59])] N) : (rNumber low high l (At k)).2 = Er l N := by
 have h0 := h.end_
 unfold rNumber rNum1
 rcases h.cons with e | ⟨m1, h2⟩
 · rw [← e, n_any h0 (by decide)]
   dsimp only
   rw [if_neg (fun q => absurd q.1 (by decide)), e_need er_ne]
 · rw [any_hit m1]
   dsimp only
   rw [m1.cons.2.2.1, hd, if_neg (by omega)]
   rcases h2.cons with e | ⟨_, h3⟩
   · rw [← e, n_need h0 (by decide)]
   · obtain ⟨m, hm, _⟩ := h3
     exact absurd hm (Nat.not_lt_zero _)
theorem n_kinds (h0 : (hdT l N).kd = 0) : ∀ f, (rKinds f l (At N)).2 = Er l N
 | 0 => rfl
 | f + 1 => by
   rw [rKinds, n_take h0 (by decide), if_neg Bool.false_ne_true]
   exact n_kinds h0 f
theorem kinds_cut {k : Nat} {K : Int} (h1 : 1 ≤ K) (h4 : K ≤ 4) (h : Cu l k [(1, kw K.toNat), (4, [59])] N) : (rKinds 4 l (At k)).2 = Er l N := by
 have h0 := h.end_
 rcases h.cons with e | ⟨m1, h2⟩
 · rw [← e]; exact n_kinds h0 4
 · have e := m1.cons.2.2.1
   have hfin : rNeed 4 [59] l (At (k + 1)) = Er l N := by
     rcases h2.cons with q | ⟨_, h3⟩
     · rw [← q, n_need h0 (by decide)]
     · obtain ⟨m, hm, _⟩ := h3
       exact absurd hm (Nat.not_lt_zero _)
   obtain rfl | rfl | rfl | rfl : K = 1 ∨ K = 2 ∨ K = 3 ∨ K = 4 := by omega
   · have h' : Mt l k [(1, kw (4 - 3))] := m1
     rw [rKinds, take_hit h']; dsimp only; rw [if_pos rfl]; exact hfin
   · have h' : Mt l k [(1, kw (4 - 2))] := m1
     rw [rKinds, take_miss (.inr (by rw [e]; decide)), if_neg Bool.false_ne_true]
     rw [rKinds, take_hit h']; dsimp only; rw [if_pos rfl]; exact hfin
   · have h' : Mt l k [(1, kw (4 - 1))] := m1
     rw [rKinds, take_miss (.inr (by rw [e]; decide)), if_neg Bool.false_ne_true]
     rw [rKinds, take_miss (.inr (by rw [e]; decide)), if_neg Bool.false_ne_true]
     rw [rKinds, take_hit h']; dsimp only; rw [if_pos rfl]; exact hfin
   · have h' : Mt l k [(1, kw (4 - 0))] := m1
     rw [rKinds, take_miss (.inr (by rw [e]; decide)), if_neg Bool.false_ne_true]
     rw [rKinds, take_miss (.inr (by rw [e]; decide)), if_neg Bool.false_ne_true]
     rw [rKinds, take_miss (.inr (by rw [e]; decide)), if_neg Bool.false_ne_true]
     rw [rKinds, take_hit h']; dsimp only; rw [if_pos rfl]; exact hfin
section
variable {k f : Nat} {T : Tgt} {sn : Nat → Bool}
theorem kind_cut {K : Int} (h1 : 1 ≤ K) (h4 : K ≤ 4) (hs : sn 0 = false) (h : Cu l k [(1, wKind), (1, kw K.toNat), (4, [59])] N) : (rLoop l (f + 1) ⟨At k, T, sn⟩).x = Er l N := by
 have h0 := h.end_
 rcases h.cons with e | ⟨m1, h2⟩
 · rw [← e]; exact n_loop h0 f T sn
 · rw [loop_word m1]
   unfold rSeen rSet
   rw [m1.cons.2.2.1, show wOnce wKind = some 0 by decide]
   dsimp only
   rw [if_pos rfl, if_neg (show ¬ sn 0 = true by rw [hs]; decide), kinds_cut h1 h4 h2, e_loop er_ne]
theorem cost_cut {n : Int} (h1 : 1 ≤ n) (h4 : n ≤ 1000) (hs : sn 1 = false) (h : Cu l k [(1, wCost), (2, itoaB n), (4, [59])] N) : (rLoop l (f + 1) ⟨At k, T, sn⟩).x = Er l N := by
 have h0 := h.end_
 rcases h.cons with e | ⟨m1, h2⟩
 · rw [← e]; exact n_loop h0 f T sn
 · rw [loop_word m1]
   unfold rSeen rSet
   rw [m1.cons.2.2.1, show wOnce wCost = some 1 by decide]
   dsimp only
   rw [if_neg (by decide), if_pos rfl, if_neg (show ¬ sn 1 = true by rw [hs]; decide), number_cut h1 h4 (val_itoa (by omega) (by omega)) h2, e_loop er_ne]
theorem retry_cut {n : Int} (h1 : 0 ≤ n) (h4 : n ≤ 5) (hs : sn 2 = false) (h : Cu l k [(1, wRetry), (2, itoaB n), (4, [59])] N) : (rLoop l (f + 1) ⟨At k, T, sn⟩).x = Er l N := by
 have h0 := h.end_
 rcases h.cons with e | ⟨m1, h2⟩
 · rw [← e]; exact n_loop h0 f T sn
 · rw [loop_word m1]
   unfold rSeen rSet
   rw [m1.cons.2.2.1, show wOnce wRetry = some 2 by decide]
   dsimp only
   rw [if_neg (by decide), if_neg (by decide), if_pos rfl, if_neg (show ¬ sn 2 = true by rw [hs]; decide), number_cut h1 h4 (val_itoa (by omega) (by omega)) h2, e_loop er_ne]
end
def tTail (T : Tgt) : List Ct := (1, T.name) :: (4, [123]) :: ([(1, wKind), (1, kw T.kind.toNat), (4, [59])] ++
 (tAttr wSrcs (T.rows 0) ++ (tAttr wDeps (T.rows 1) ++ (tAttr wOut (T.rows 2) ++ (tAttr wVis (T.rows 3) ++ (ctCost T ++ (ctRetry T ++ [(4, [125])])))))))
theorem tTgt_tail (T : Tgt) : tTgt T = (1, wTarget) :: tTail T := rfl
theorem tgt_cut {k line : Nat} {T : Tgt} {bf : List (List UInt8)} (hF : Fit T) (hb : T.name ∉ bf) (h : Cu l k (tTail T) N) : (rTgtF l line bf (At k)).2 = Er l N := by
 have h0 := h.end_
 have hNl := cu_len h
 have hx : (rBody l line bf (At k)).x = Er l N := by
   unfold rBody
   unfold tTail at h
   rcases h.cons with e | ⟨m1, h1⟩
   · rw [← e, n_any h0 (by decide)]
     dsimp only
     have hd : rDup bf rt0 (Er l N) = Er l N := by unfold rDup; split; exact e_fail er_ne _ _; rfl
     rw [hd, e_need er_ne, e_loop er_ne]
   · have hname : (hdT l k).tx = T.name := m1.cons.2.2.1
     have hdup : rDup bf (hdT l k) (At (k + 1)) = At (k + 1) := by
       unfold rDup
       rw [if_neg]
       intro q
       simp only [List.any_eq_true, beq_iff_eq] at q
       obtain ⟨n, hn, e⟩ := q
       rw [hname] at e
       exact hb (e ▸ hn)
     rw [any_hit m1, hname, hdup]
     rcases h1.cons with e | ⟨m2, h2⟩
     · rw [← e, n_need h0 (by decide), e_loop er_ne]
     · rw [need_hit m2]
       have hk2 := h2.le
       rcases h2.app with h3 | ⟨m3, h3⟩
       · exact kind_cut hF.kind.1 hF.kind.2 rfl h3
       · have hkl := mt_len m3 (by simp)
         obtain ⟨fu, hfu⟩ : ∃ fu, l.length + 1 = fu + 1 := ⟨l.length, rfl⟩
         rw [hfu, kind_hit hF.kind.1 hF.kind.2 rfl (mt_of m3)]
         have hF0 : N < (k + 1 + 1 + 3) + fu := by omega
         have h3' : Cu l (k + 1 + 1 + 3) _ N := h3
         obtain ⟨kp, hkp⟩ : ∃ z, k + 1 + 1 + 3 = z := ⟨_, rfl⟩
         rw [hkp] at h3' hF0 ⊢
         clear h3 hfu
         rcases h3'.app with q | ⟨n0, h4⟩
         · exact rows_cut wrd0 _ (T.rows 0) kp fu _ (Nat.le_refl _) (fun y hy => ⟨fun _ => rfl, fun _ => ⟨rfl, hF.srcs y hy⟩⟩) hF0 q
         obtain ⟨r0, g0, s0, _, f0⟩ := rows_hit wrd0 (sn := upd (fun _ => false) 0 true) (ts := []) _ (T.rows 0) kp { rT0 T.name line with kind := T.kind } (Nat.le_refl _) (fun y hy => ⟨fun _ => rfl, fun _ => ⟨rfl, hF.srcs y hy⟩⟩) (mt_of n0)
         have k4 := h4.le
         obtain ⟨f1, e1⟩ : ∃ z, fu = z + r0 := ⟨fu - r0, by omega⟩
         rw [e1, f0]
         have hF1 : N < kp + (tAttr wSrcs (T.rows 0)).length + f1 := by omega
         rcases h4.app with q | ⟨n1, h5⟩
         · exact rows_cut wrd1 _ (T.rows 1) _ f1 _ (Nat.le_refl _) (fun y hy => ⟨fun z => absurd z (by rw [(hF.deps y hy).1]; decide), fun _ => ⟨rfl, (hF.deps y hy).2⟩⟩) hF1 q
         obtain ⟨r1, g1, s1, _, f1'⟩ := rows_hit wrd1 (sn := upd (fun _ => false) 0 true) (ts := []) _ (T.rows 1) _ { rT0 T.name line with kind := T.kind, rows := upd (rT0 T.name line).rows 0 ((rT0 T.name line).rows 0 ++ g0) } (Nat.le_refl _) (fun y hy => ⟨fun z => absurd z (by rw [(hF.deps y hy).1]; decide), fun _ => ⟨rfl, (hF.deps y hy).2⟩⟩) (mt_of n1)
         have k5 := h5.le
         obtain ⟨f2, e2⟩ : ∃ z, f1 = z + r1 := ⟨f1 - r1, by omega⟩
         rw [e2, f1']
         dsimp only
         obtain ⟨R1, hR1⟩ : ∃ z, upd (upd (rT0 T.name line).rows 0 ((rT0 T.name line).rows 0 ++ g0)) 1 (upd (rT0 T.name line).rows 0 ((rT0 T.name line).rows 0 ++ g0) 1 ++ g1) = z := ⟨_, rfl⟩
         rw [hR1]
         have hF2 : N < kp + (tAttr wSrcs (T.rows 0)).length + (tAttr wDeps (T.rows 1)).length + f2 := by omega
         rcases h5.app with q | ⟨n2, h6⟩
         · exact rows_cut wrd2 _ (T.rows 2) _ f2 _ (Nat.le_refl _) (fun y hy => ⟨fun z => absurd z (by rw [(hF.outs y hy).1]; decide), fun z => absurd (hF.outs y hy).2 z⟩) hF2 q
         obtain ⟨r2, g2, s2, _, f2'⟩ := rows_hit wrd2 (sn := upd (fun _ => false) 0 true) (ts := []) _ (T.rows 2) _ { rT0 T.name line with kind := T.kind, rows := R1 } (Nat.le_refl _) (fun y hy => ⟨fun z => absurd z (by rw [(hF.outs y hy).1]; decide), fun z => absurd (hF.outs y hy).2 z⟩) (mt_of n2)
         have k6 := h6.le
         obtain ⟨f3, e3⟩ : ∃ z, f2 = z + r2 := ⟨f2 - r2, by omega⟩
         rw [e3, f2']
         dsimp only
         obtain ⟨R2, hR2⟩ : ∃ z, upd R1 2 (R1 2 ++ g2) = z := ⟨_, rfl⟩
         rw [hR2]
         have hF3 : N < kp + (tAttr wSrcs (T.rows 0)).length + (tAttr wDeps (T.rows 1)).length + (tAttr wOut (T.rows 2)).length + f3 := by omega
         rcases h6.app with q | ⟨n3, h7⟩
         · exact rows_cut wrd3 _ (T.rows 3) _ f3 _ (Nat.le_refl _) (fun y hy => ⟨fun z => absurd z (by rw [(hF.viss y hy).1]; decide), fun z => absurd (hF.viss y hy).2 z⟩) hF3 q
         obtain ⟨r3, g3, s3, _, f3'⟩ := rows_hit wrd3 (sn := upd (fun _ => false) 0 true) (ts := []) _ (T.rows 3) _ { rT0 T.name line with kind := T.kind, rows := R2 } (Nat.le_refl _) (fun y hy => ⟨fun z => absurd z (by rw [(hF.viss y hy).1]; decide), fun z => absurd (hF.viss y hy).2 z⟩) (mt_of n3)
         have k7 := h7.le
         obtain ⟨f4, e4⟩ : ∃ z, f3 = z + r3 := ⟨f3 - r3, by omega⟩
         rw [e4, f3']
         dsimp only
         obtain ⟨R3, hR3⟩ : ∃ z, upd R2 3 (R2 3 ++ g3) = z := ⟨_, rfl⟩
         rw [hR3]
         obtain ⟨k8, hk8⟩ : ∃ z, kp + (tAttr wSrcs (T.rows 0)).length + (tAttr wDeps (T.rows 1)).length + (tAttr wOut (T.rows 2)).length + (tAttr wVis (T.rows 3)).length = z := ⟨_, rfl⟩
         have hF4 : N < k8 + f4 := by omega
         rw [hk8] at h7 k7 ⊢
         obtain ⟨f5, e5⟩ : ∃ z, f4 = z + 1 := ⟨f4 - 1, by omega⟩
         rcases h7.app with q | ⟨n4, h8⟩
         · unfold ctCost at q
           split at q
           · obtain ⟨m, hm, _⟩ := q; exact absurd hm (Nat.not_lt_zero _)
           · rw [e5]; exact cost_cut hF.cost.1 hF.cost.2 rfl q
         obtain ⟨r4, sn4, s4, q4, f4'⟩ := tcost_step (T0 := { rT0 T.name line with kind := T.kind, rows := R3 }) (sn := upd (fun _ => false) 0 true) (ts := []) hF rfl rfl rfl (mt_of n4)
         have k9 := h8.le
         obtain ⟨f6, e6⟩ : ∃ z, f4 = z + r4 := ⟨f4 - r4, by omega⟩
         rw [e6, f4']
         have hF6 : N < k8 + (ctCost T).length + f6 := by omega
         obtain ⟨f7, e7⟩ : ∃ z, f6 = z + 1 := ⟨f6 - 1, by omega⟩
         rcases h8.app with q | ⟨n5, h9⟩
         · unfold ctRetry at q
           split at q
           · obtain ⟨m, hm, _⟩ := q; exact absurd hm (Nat.not_lt_zero _)
           · rw [e7]; exact retry_cut hF.retry.1 hF.retry.2.1 q4 q
         obtain ⟨r5, sn5, ln, s5, f5'⟩ := tretry_step (T0 := { rT0 T.name line with kind := T.kind, rows := R3, cost := T.cost }) (sn := sn4) (ts := []) hF rfl q4 (mt_of n5)
         have k10 := h9.le
         obtain ⟨f8, e8⟩ : ∃ z, f6 = z + r5 := ⟨f6 - r5, by omega⟩
         rw [e8, f5']
         have hF8 : N < k8 + (ctCost T).length + (ctRetry T).length + f8 := by omega
         obtain ⟨f9, e9⟩ : ∃ z, f8 = z + 1 := ⟨f8 - 1, by omega⟩
         rw [e9]
         rcases h9.cons with q | ⟨_, h10⟩
         · rw [← q]; exact n_loop h0 f9 _ _
         · obtain ⟨m, hm, _⟩ := h10
           exact absurd hm (Nat.not_lt_zero _)
 unfold rTgtF rCheck
 dsimp only
 rw [hx]
 split
 · exact e_fail er_ne _ _
 · rfl
end
section
variable {l : List RTok} {N : Nat}
theorem pls_cut : ∀ (t : List Itm) (x : Itm) (k f : Nat) (a : List Itm), N < k + f → (∀ y ∈ x :: t, y.tx ≠ globS) → ((a ++ x :: t).map Itm.tx).Nodup → Cu l k ((1, x.tx) :: (tPlMore t ++ [(4, [59])])) N → rNeed 4 [59] l (rPls l f a (At k)).2 = Er l N
 | _, _, _, 0, _, hf, _, _, h => absurd h.le (by omega)
 | t, x, k, f + 1, a, hf, hy, hd, h => by
   have h0 := h.end_
   rcases h.cons with e | ⟨m1, h2⟩
   · have hp : rPlatform l (At k) = (rt0, Er l N) := by
       unfold rPlatform rPlGate rIs
       rw [← e, if_neg (by rw [h0]; simp), n_any h0 (by decide)]
     have ho : rPlOne l a (At k) = Er l N := by
       unfold rPlOne
       rw [hp]
       dsimp only
       split
       · exact e_fail er_ne _ _
       · rfl
     rw [rPls, if_pos rfl, ho, hp, e_take er_ne, if_neg Bool.false_ne_true, e_need er_ne]
   · have htx := m1.cons.2.2.1
     have hp : rPlatform l (At k) = (hdT l k, At (k + 1)) := by
       unfold rPlatform rPlGate rIs
       rw [if_neg (by
         simp only [Bool.and_eq_true, beq_iff_eq]
         rintro ⟨_, q⟩
         exact hy x (by simp) (htx.symm.trans q)), any_hit m1]
     have ho : rPlOne l a (At k) = At (k + 1) := by
       unfold rPlOne
       rw [hp]
       dsimp only
       rw [if_neg]
       intro q
       unfold rHas at q
       simp only [List.any_eq_true, beq_iff_eq] at q
       obtain ⟨n, hn, e⟩ := q
       rw [htx] at e
       rw [List.map_append, List.nodup_append] at hd
       exact hd.2.2 _ (List.mem_map_of_mem hn) _ (by simp) e
     rw [rPls, if_pos rfl, ho, hp]
     dsimp only
     match t, hy, hd, h2 with
     | [], _, _, h2 =>
       have h3 : Cu l (k + 1) [(4, [59])] N := h2
       rcases h3.cons with e | ⟨_, h4⟩
       · rw [← e, n_take h0 (by decide), if_neg Bool.false_ne_true, n_need h0 (by decide)]
       · obtain ⟨m, hm, _⟩ := h4
         exact absurd hm (Nat.not_lt_zero _)
     | y :: s, hy, hd, h2 =>
       have h3 : Cu l (k + 1) ((4, [44]) :: (1, y.tx) :: (tPlMore s ++ [(4, [59])])) N := h2
       rcases h3.cons with e | ⟨m2, h4⟩
       · rw [← e, n_take h0 (by decide), if_neg Bool.false_ne_true, n_need h0 (by decide)]
       · rw [take_hit m2, if_pos rfl]
         refine pls_cut s y _ f _ (by omega) (fun z hz => hy z (List.mem_cons_of_mem _ hz)) ?_ h4
         have e2 : ((a ++ [(⟨(hdT l k).tx, false, [], (hdT l k).ln⟩ : Itm)] ++ y :: s).map Itm.tx) = ((a ++ x :: y :: s).map Itm.tx) := by simp [htx]
         rw [e2]; exact hd
theorem head_cut {pl : List Itm} (hy : ∀ y ∈ pl, y.tx ≠ globS) (hd : (pl.map Itm.tx).Nodup) (h : Cu l 0 (tPlats pl) N) (hN : N ≠ 0) : (rHead l).2 = Er l N := by
 have h0 := h.end_
 have hNl := cu_len h
 cases pl with
 | nil => obtain ⟨m, hm, _⟩ := h; exact absurd hm (Nat.not_lt_zero _)
 | cons x t =>
   have h' : Cu l 0 ((1, wPlats) :: (1, x.tx) :: (tPlMore t ++ [(4, [59])])) N := h
   rcases h'.cons with e | ⟨m1, h2⟩
   · exact absurd e hN
   · unfold rHead
     rw [take_hit m1, if_pos rfl]
     dsimp only
     unfold rPlats
     dsimp only
     exact pls_cut t x 1 (l.length + 1) [] (by omega) hy (by simpa using hd) h2
theorem tgts_cut : ∀ (L : List Tgt) (k f : Nat) (a : List Tgt), N < k + f → (∀ T ∈ L, Fit T) → ((a ++ L).map Tgt.name).Nodup → Cu l k (L.flatMap tTgt) N →
   (∃ L1 L2, L = L1 ++ L2 ∧ N = k + (L1.flatMap tTgt).length ∧ (rTgts l f a (At k)).2 = At N) ∨ (rTgts l f a (At k)).2 = Er l N
 | [], _, _, _, _, _, _, h => by obtain ⟨m, hm, _⟩ := h; exact absurd hm (Nat.not_lt_zero _)
 | _ :: _, _, 0, _, hf, _, _, h => absurd h.le (by omega)
 | T :: L, k, f + 1, a, hf, hF, hd, h => by
   have h0 := h.end_
   have e : (T :: L).flatMap tTgt = tTgt T ++ L.flatMap tTgt := rfl
   rw [e] at h
   have hb : T.name ∉ a.map (·.name) := by
     intro q
     rw [List.map_append, List.nodup_append] at hd
     exact hd.2.2 _ q _ (by simp) rfl
   rcases h.app with h1 | ⟨m1, h2⟩
   · rw [tTgt_tail] at h1
     rcases h1.cons with q | ⟨m2, h3⟩
     · left
       refine ⟨[], T :: L, rfl, by simp [q], ?_⟩
       rw [rTgts, if_neg (by rw [← q, h0]; exact fun z => z.2 rfl), q]
     · right
       rw [rTgts, if_pos ⟨rfl, by rw [m2.cons.2.1]; show (1 : Int) ≠ 0; decide⟩, need_hit m2, if_pos rfl, tgt_cut (hF T (by simp)) hb h3, e_tgts er_ne]
   · have hh : Mt l k ((1, wTarget) :: tTail T) := m1
     rw [rTgts, if_pos ⟨rfl, by rw [hh.cons.2.1]; show (1 : Int) ≠ 0; decide⟩, need_hit hh, if_pos rfl]
     obtain ⟨T', hT, hp, _⟩ := tgt_hit (line := (hdT l k).ln) (bf := a.map (·.name)) (ts := []) (hF T (by simp)) hb (mt_of m1)
     rw [hT]
     dsimp only
     have hn : T'.name = T.name := by have := congrArg Tgt.name hp; exact this
     have hk := mt_len m1 (by unfold tTgt; simp)
     have h1 : 1 ≤ (tTgt T).length := by unfold tTgt; simp
     have ih := tgts_cut L (k + (tTgt T).length) f (a ++ [T']) (by omega) (fun z hz => hF z (List.mem_cons_of_mem _ hz)) (by
       have e2 : ((a ++ [T'] ++ L).map Tgt.name) = ((a ++ T :: L).map Tgt.name) := by simp [hn]
       rw [e2]; exact hd) h2
     rcases ih with ⟨L1, L2, q1, q2, q3⟩ | ih
     · left
       refine ⟨T :: L1, L2, by rw [q1]; rfl, ?_, q3⟩
       rw [List.flatMap_cons, List.length_append]
       omega
     · exact .inr ih
def Bd (pl : List Itm) (L : List Tgt) (n : Nat) : Prop := n = 0 ∨ ∃ L1 L2, L = L1 ++ L2 ∧ n = (tPlats pl).length + (L1.flatMap tTgt).length
theorem parse_cut {pl : List Itm} {L : List Tgt} (hF : FitB pl L) {n : Nat} (hn : n ≤ (tBody pl L).length) (h : l.map ctOf = (tBody pl L).take n ++ [(0, [])]) :
   (Bd pl L n ∧ (rParse l).2 = (0, 0)) ∨ (rParse l).2 = (((hdT l n).ln : Int), 40) := by
 have hm := mt_all h
 rcases Nat.lt_or_ge n (tBody pl L).length with hlt | hge
 · have hc : Cu l 0 (tPlats pl ++ L.flatMap tTgt) n := ⟨n, hlt, by omega, hm⟩
   have h0 := hc.end_
   have hNl := cu_len hc
   have fin : ∀ {hd : List Itm}, rHead l = (hd, Er l n) → (rParse l).2 = (((hdT l n).ln : Int), 40) := fun {hd} q => by
     have ea : rAll l = ([], Er l n) := by unfold rAll; rw [q]; exact e_tgts er_ne _ _
     unfold rParse
     rw [ea]
     dsimp only
     rw [if_neg (show ¬ (40 : Int) = 0 by decide)]
   by_cases hz : n = 0
   · subst hz
     left
     refine ⟨.inl rfl, ?_⟩
     have e : rTake 1 wPlats l (At 0) = (false, At 0) := n_take h0 (by decide) _
     have q : rHead l = ([], At 0) := by unfold rHead; rw [e, if_neg Bool.false_ne_true]
     have ea : rAll l = ([], At 0) := by
       unfold rAll
       rw [q, rTgts, if_neg (by rw [h0]; exact fun z => z.2 rfl)]
     unfold rParse
     rw [ea]
     dsimp only
     rw [if_pos rfl]
   · rcases hc.app with h1 | ⟨m1, h2⟩
     · right
       have := head_cut (fun y hy => (hF.pls y hy).2.2) hF.dis h1 hz
       exact fin (hd := (rHead l).1) (Prod.ext rfl this)
     · rw [Nat.zero_add] at h2
       have hq : ∃ g, rHead l = (g, At (tPlats pl).length) := by
         obtain ⟨m, hm2, hN2, hm3⟩ := h2
         have hmt : Mt l 0 (tPlats pl ++ ((L.flatMap tTgt).take m ++ [(0, [])])) := by
           have e : (tBody pl L).take n = tPlats pl ++ (L.flatMap tTgt).take m := by
             unfold tBody
             rw [List.take_append, List.take_of_length_le (by omega), show n - (tPlats pl).length = m by omega]
           rw [e, List.append_assoc] at hm
           exact hm
         obtain ⟨g, hg, _⟩ := head_hit hF.pls hF.dis (by
           match L, m, hm2 with
           | [], _, hm2 => exact absurd hm2 (Nat.not_lt_zero _)
           | T :: L, 0, _ => exact ⟨(0, []), [], rfl, by decide⟩
           | T :: L, m + 1, _ => exact ⟨(1, wTarget), _, rfl, by decide⟩) hmt
         exact ⟨g, hg⟩
       obtain ⟨g, hq⟩ := hq
       rcases tgts_cut L (tPlats pl).length (l.length + 1) [] (by omega) hF.tg hF.nam h2 with ⟨L1, L2, q1, q2, q3⟩ | q
       · left
         refine ⟨.inr ⟨L1, L2, q1, q2⟩, ?_⟩
         unfold rParse rAll
         rw [hq]
         dsimp only
         rw [q3, if_pos rfl]
       · right
         unfold rParse rAll
         rw [hq]
         dsimp only
         rw [q, if_neg (show ¬ (40 : Int) = 0 by decide)]
 · left
   have hfull : n = (tBody pl L).length := by omega
   rw [List.take_of_length_le (by omega), ← tFile_body] at h
   obtain ⟨pl', L', e, _, _⟩ := parse_of hF (mt_all h)
   rw [e]
   refine ⟨.inr ⟨L, [], by simp, ?_⟩, rfl⟩
   rw [hfull]
   unfold tBody
   rw [List.length_append]
end
def NB (cs : List Ct) : Prop := ∀ c ∈ cs, c ≠ (4, [125])
theorem NB.nil : NB [] := fun c h => absurd h (by simp)
theorem NB.cons {c : Ct} {cs : List Ct} (h1 : c ≠ (4, [125])) (h : NB cs) : NB (c :: cs) := fun d hd => by
 rcases List.mem_cons.1 hd with rfl | hd
 · exact h1
 · exact h d hd
theorem NB.app {a b : List Ct} (h : NB a) (h' : NB b) : NB (a ++ b) := fun c hc => (List.mem_append.1 hc).elim (h c) (h' c)
theorem nb1 {k : Int} {t : List UInt8} (h : k ≠ 4) : ((k, t) : Ct) ≠ (4, [125]) := fun q => h (congrArg Prod.fst q)
theorem nb2 {t : List UInt8} (h : t ≠ [125]) : ((4, t) : Ct) ≠ (4, [125]) := fun q => h (congrArg Prod.snd q)
theorem tItm_nb (x : Itm) : NB (tItm x) := by
 unfold tItm
 split
 · exact .cons (nb1 (by decide)) (.cons (nb2 (by decide)) (.cons (nb1 (by decide)) (.cons (nb2 (by decide)) .nil)))
 · exact .cons (nb1 (by decide)) .nil
theorem tPre_nb (word : List UInt8) (p : Option (List UInt8)) (x : Itm) : NB (tPre word p x) := by
 unfold tPre
 split
 · exact .cons (nb2 (by decide)) .nil
 · refine .app ?_ (.cons (nb1 (by decide)) ?_)
   · split
     · exact .nil
     · exact .cons (nb2 (by decide)) .nil
   · split
     · exact .nil
     · exact .cons (nb1 (by decide)) .nil
theorem tGo_nb (word : List UInt8) : ∀ (l : List Itm) (p : Option (List UInt8)), NB (tGo word p l)
 | [], _ => .nil
 | x :: t, p => .app (tPre_nb word p x) (.app (tItm_nb x) (tGo_nb word t _))
theorem tAttr_nb (word : List UInt8) (l : List Itm) : NB (tAttr word l) := by
 unfold tAttr
 split
 · exact .nil
 · exact .app (tGo_nb word l none) (.cons (nb2 (by decide)) .nil)
theorem tPlMore_nb : ∀ t : List Itm, NB (tPlMore t)
 | [] => .nil
 | y :: s => .cons (nb2 (by decide)) (.cons (nb1 (by decide)) (tPlMore_nb s))
theorem tPlats_nb (pl : List Itm) : NB (tPlats pl) := by
 cases pl with
 | nil => exact .nil
 | cons x t => exact .cons (nb1 (by decide)) (.cons (nb1 (by decide)) (.app (tPlMore_nb t) (.cons (nb2 (by decide)) .nil)))
theorem tTgt_split (T : Tgt) : ∃ i, tTgt T = i ++ [(4, [125])] ∧ NB i := by
 refine ⟨(1, wTarget) :: (1, T.name) :: (4, [123]) :: (1, wKind) :: (1, kw T.kind.toNat) :: (4, [59]) :: (tAttr wSrcs (T.rows 0) ++ (tAttr wDeps (T.rows 1) ++ (tAttr wOut (T.rows 2) ++ (tAttr wVis (T.rows 3) ++ (ctCost T ++ ctRetry T))))), ?_, ?_⟩
 · unfold tTgt; simp
 · refine .cons (nb1 (by decide)) (.cons (nb1 (by decide)) (.cons (nb2 (by decide)) (.cons (nb1 (by decide)) (.cons (nb1 (by decide)) (.cons (nb2 (by decide)) ?_)))))
   refine .app (tAttr_nb _ _) (.app (tAttr_nb _ _) (.app (tAttr_nb _ _) (.app (tAttr_nb _ _) (.app ?_ ?_))))
   · unfold ctCost
     split
     · exact .nil
     · exact .cons (nb1 (by decide)) (.cons (nb1 (by decide)) (.cons (nb2 (by decide)) .nil))
   · unfold ctRetry
     split
     · exact .nil
     · exact .cons (nb1 (by decide)) (.cons (nb1 (by decide)) (.cons (nb2 (by decide)) .nil))
theorem brace_tgts : ∀ (L : List Tgt) (n : Nat), (L.flatMap tTgt)[n]? = some (4, [125]) → ∃ L1 L2, L = L1 ++ L2 ∧ n + 1 = (L1.flatMap tTgt).length
 | [], n, h => by simp at h
 | T :: L, n, h => by
   have e : (T :: L).flatMap tTgt = tTgt T ++ L.flatMap tTgt := rfl
   rw [e] at h
   obtain ⟨i, hi, hnb⟩ := tTgt_split T
   by_cases hn : n < (tTgt T).length
   · rw [List.getElem?_append_left hn] at h
     refine ⟨[T], L, rfl, ?_⟩
     rw [hi] at h hn
     rw [List.length_append, List.length_singleton] at hn
     rcases Nat.lt_or_ge n i.length with q | q
     · rw [List.getElem?_append_left q] at h
       exact absurd rfl (hnb _ (List.mem_of_getElem? h))
     · have : (([T] : List Tgt).flatMap tTgt).length = i.length + 1 := by simp [hi]
       omega
   · rw [List.getElem?_append_right (by omega)] at h
     obtain ⟨L1, L2, q1, q2⟩ := brace_tgts L _ h
     refine ⟨T :: L1, L2, by rw [q1]; rfl, ?_⟩
     rw [List.flatMap_cons, List.length_append]
     omega
theorem brace_bd {pl : List Itm} {L : List Tgt} {n : Nat} (h : (tBody pl L)[n]? = some (4, [125])) : Bd pl L (n + 1) := by
 unfold tBody at h
 rcases Nat.lt_or_ge n (tPlats pl).length with q | q
 · rw [List.getElem?_append_left q] at h
   exact absurd rfl (tPlats_nb pl _ (List.mem_of_getElem? h))
 · rw [List.getElem?_append_right q] at h
   obtain ⟨L1, L2, q1, q2⟩ := brace_tgts L _ h
   exact .inr ⟨L1, L2, q1, by omega⟩
theorem bd_brace {L : List Tgt} {n : Nat} (h : Bd [] L n) (hn : n ≠ 0) : ∃ m, n = m + 1 ∧ (tBody [] L)[m]? = some (4, [125]) := by
 rcases h with h | ⟨L1, L2, rfl, q⟩
 · exact absurd h hn
 · have q : n = (L1.flatMap tTgt).length := by simpa [tPlats] using q
   have hne : L1 ≠ [] := fun e => hn (by rw [q, e]; rfl)
   obtain ⟨L3, T, rfl⟩ : ∃ L3 T, L1 = L3 ++ [T] := ⟨L1.dropLast, L1.getLast hne, (List.dropLast_concat_getLast hne).symm⟩
   obtain ⟨i, hi, _⟩ := tTgt_split T
   refine ⟨(L3.flatMap tTgt).length + i.length, ?_, ?_⟩
   · rw [q, List.flatMap_append, List.length_append]
     simp [hi]
     omega
   · unfold tBody
     show ([] ++ ((L3 ++ [T]) ++ L2).flatMap tTgt)[_]? = _
     rw [List.nil_append, List.flatMap_append, List.flatMap_append, List.flatMap_singleton, hi, List.append_assoc, List.append_assoc, List.getElem?_append_right (by omega), show (L3.flatMap tTgt).length + i.length - (L3.flatMap tTgt).length = i.length by omega, List.getElem?_append_right (by omega)]
     simp

section
variable {w0 : World} {p u : Nat} {Vp : Value} {pl : List Itm} {W W' : World} {tl : List (Tgt × (Nat → Value))} {A' : Option Addr} {n c' : Nat}
end
theorem spell_brace {c : Ct} (h : Ok1 c) (e : spell c = [125]) : c = (4, [125]) := by
 obtain ⟨k, t⟩ := c
 unfold spell at e
 rcases h with ⟨hk, h⟩ | ⟨hk, _, h⟩ | ⟨hk, _⟩ | ⟨hk, _⟩
 · dsimp only at hk h e
   subst hk
   rw [if_neg (by decide)] at e
   subst e
   exact absurd h (by decide)
 · dsimp only at hk h e
   subst hk
   rw [if_neg (by decide)] at e
   subst e
   exact absurd (h 125 (by simp)) (by decide)
 · dsimp only at hk e
   subst hk
   rw [if_pos rfl] at e
   have := congrArg List.length e
   simp at this
 · dsimp only at hk e
   subst hk
   rw [if_neg (by decide)] at e
   rw [e]
theorem bd_ok {pl : List Itm} {L : List Tgt} (hF : FitB pl L) {n : Nat} (h : Bd pl L n) {l : List RTok} (hl : l.map ctOf = (tBody pl L).take n ++ [(0, [])]) : (rParse l).2 = (0, 0) := by
 rcases h with rfl | ⟨L1, L2, rfl, rfl⟩
 · have : l.map ctOf = tFile [] [] := by rw [hl]; rfl
   obtain ⟨_, _, e, _⟩ := parse_of (pl := []) (L := []) ⟨fun y hy => by simp at hy, .nil, fun T hT => by simp at hT, .nil⟩ (mt_all this)
   rw [e]
 · have : l.map ctOf = tFile pl L1 := by
     rw [hl, tFile_body]
     unfold tBody
     rw [List.flatMap_append, ← List.append_assoc, ← List.length_append, List.take_left]
   obtain ⟨_, _, e, _⟩ := parse_of (pl := pl) (L := L1) ⟨hF.pls, hF.dis, fun T hT => hF.tg T (List.mem_append_left _ hT), by have := hF.nam; rw [List.map_append] at this; exact (List.nodup_append.1 this).1⟩ (mt_all this)
   rw [e]
def Wh (T : List (List UInt8)) (n : Nat) (f : Int) : Prop := n = 0 ∨ (∃ h : n - 1 < T.length, T[n - 1] = [125]) ∨ ((∃ h : 0 < T.length, T[0] = wPlats) ∧ f = 0)
theorem cut_parse {pl : List Itm} {L : List Tgt} (h : rBuild pl L = true) (g : List Int) {n : Nat} (hn : n ≤ (pcs (rToks (fFile pl L) 1)).length) {X : List UInt8} (hX : joinG g 0 ((pcs (rToks (fFile pl L) 1)).take n) = X) :
   (Wh (pcs (rToks (fFile pl L) 1)) n (rParse (rToks X 1)).2.2 → (rParse (rToks X 1)).2 = (0, 0)) ∧ (¬ Wh (pcs (rToks (fFile pl L) 1)) n (rParse (rToks X 1)).2.2 → (rParse (rToks X 1)).2 = (((1 + X.count 10 : Nat) : Int), 40)) := by
 have hF := fit_of h
 have hok := body_ok h
 rw [pcs_file h] at hX hn ⊢
 rw [List.length_map] at hn
 rw [← List.map_take] at hX
 obtain ⟨ts, e, hc⟩ := Lx.joined (g := g) ((tBody pl L).take n) 0 [] (fun c hc => hok c (List.mem_of_mem_take hc)) 1
 rw [hX, List.append_nil, rToks_end] at e
 have hl : (rToks X 1).map ctOf = (tBody pl L).take n ++ [(0, [])] := by rw [e, List.map_append, hc]; rfl
 have hlen : ts.length = n := by
   have := congrArg List.length hc
   rw [List.length_map, List.length_take] at this
   omega
 have hln : (hdT (rToks X 1) n).ln = 1 + X.count 10 := by
   rw [e]
   unfold hdT
   rw [List.getElem?_append_right (by omega), hlen, Nat.sub_self]
   rfl
 have hp := parse_cut hF hn hl
 rw [hln] at hp
 refine ⟨fun hw => ?_, fun hw => ?_⟩
 · rcases hw with rfl | ⟨hi, hb⟩ | ⟨_, hf⟩
   · exact bd_ok hF (.inl rfl) hl
   · rw [List.length_map] at hi
     rw [List.getElem_map] at hb
     have hb2 := spell_brace (hok _ (List.getElem_mem hi)) hb
     rcases Nat.eq_zero_or_pos n with rfl | hpos
     · exact bd_ok hF (.inl rfl) hl
     · have := brace_bd (show (tBody pl L)[n - 1]? = some (4, [125]) from by rw [List.getElem?_eq_getElem hi, hb2])
       rw [show n - 1 + 1 = n by omega] at this
       exact bd_ok hF this hl
   · rcases hp with ⟨_, q⟩ | q
     · exact q
     · rw [q] at hf
       exact absurd hf (show ¬ (40 : Int) = 0 by decide)
 · rcases hp with ⟨hb, q⟩ | q
   · exfalso
     apply hw
     rcases Nat.eq_zero_or_pos n with h0 | hpos
     · exact .inl h0
     · cases pl with
       | nil =>
         obtain ⟨m, rfl, hm⟩ := bd_brace hb (by omega)
         refine .inr (.inl ?_)
         obtain ⟨hi, he⟩ := List.getElem?_eq_some_iff.1 hm
         refine ⟨by rw [List.length_map]; simpa using hi, ?_⟩
         rw [List.getElem_map]
         have : (tBody [] L)[m + 1 - 1]'(by simpa using hi) = (4, [125]) := by simpa using he
         rw [this]
         rfl
       | cons x t =>
         refine .inr (.inr ⟨⟨by rw [List.length_map]; omega, ?_⟩, by rw [q]⟩)
         rw [List.getElem_map]
         rfl
   · exact q
theorem cuts (l g : List Int) {n : Nat} (hn : n ≤ (pcs (rToks (fFile (mMade l).1 (mMade l).2) 1)).length) : ∃ X, joinG g 0 ((pcs (rToks (fFile (mMade l).1 (mMade l).2) 1)).take n) = X ∧ Asc X ∧ X.length ≤ 30000000 ∧
   (Wh (pcs (rToks (fFile (mMade l).1 (mMade l).2) 1)) n (rParse (rToks X 1)).2.2 → (pParse X).2 = (0, 0)) ∧ (¬ Wh (pcs (rToks (fFile (mMade l).1 (mMade l).2) 1)) n (rParse (rToks X 1)).2.2 → (pParse X).2 = (((1 + X.count 10 : Nat) : Int), 40)) := by
 obtain ⟨s1, s2, _⟩ := mMade_sml l
 have hr := mMade_right l
 obtain ⟨X, hX⟩ : ∃ X, joinG g 0 ((pcs (rToks (fFile (mMade l).1 (mMade l).2) 1)).take n) = X := ⟨_, rfl⟩
 obtain ⟨e1, e2⟩ := cut_parse hr g hn hX
 have hps := pcs_sub s1
 have ha : Asc X := by rw [← hX]; exact joinG_asc g _ 0 (fun p hp => (hps p (List.mem_of_mem_take hp)).2)
 have hl : X.length ≤ 30000000 := by
   have h1 := joinG_len g 5002 ((pcs (rToks (fFile (mMade l).1 (mMade l).2) 1)).take n) 0 (fun p hp => by have := (hps p (List.mem_of_mem_take hp)).1; omega)
   have h2 := pcs_len (rToks (fFile (mMade l).1 (mMade l).2) 1)
   have h3 := (rToks_len (fFile (mMade l).1 (mMade l).2) 1).2
   have h5 : ((pcs (rToks (fFile (mMade l).1 (mMade l).2) 1)).take n).length ≤ 5001 := by rw [List.length_take]; omega
   have h4 : ((pcs (rToks (fFile (mMade l).1 (mMade l).2) 1)).take n).length * (5002 + 13) ≤ 5001 * 5015 := Nat.mul_le_mul h5 (Nat.le_refl _)
   rw [hX] at h1
   omega
 have p1 := (parse_same (toks_ok X.length X 1 (Nat.le_refl _) (by omega))).1
 exact ⟨X, hX, ha, hl, fun q => p1.symm.trans (e1 q), fun q => p1.symm.trans (e2 q)⟩
end Go.Proofs.YtcjoiiaankngjaaGreatDoor
