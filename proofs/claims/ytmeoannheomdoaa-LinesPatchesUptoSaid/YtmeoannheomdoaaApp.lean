/- append of strings that may be nil; the merger's fields behind an append. -/
import Derived.Test.YtmeoannheomdoaaChanged
namespace Go.Proofs.Ytmeoannheomdoaa
open Go.RowKit

theorem wp_app {w : World} {o : Oper} {a : Act} {K : Act → World → Prop} {Q : Exit → Act → World → Prop} (s x : Operand) (ho : o.op = .call { callee := .builtin .append, args := #[s, x], argTypes := #[23, 23] })
    (base : Nat) (v : Value) (n : Nat) (xs : List Value) (hs : a.eval s = v) (hown : w.ownsRow base 9 1 v n xs) (B : Nat) (A : Option Addr) (k c : Nat) (L : List ByteArray) (hx : a.eval x = .slice A k c) (hk : k = L.length) (hS : Strs w B A c L)
    (hn : n + k ≤ 4398046511104) (hbase : base ≤ w.heap.size) (h : ∀ v' w', w'.ownsRow base 9 1 v' (n + k) (xs ++ strC L) → w.grownBy w' v.ownBlock → K (a.put o.dst v') w') : o.wp Try.prog a w K Q := by
  subst hk
  obtain ⟨i9, hi, hz0, hz1, hz2⟩ := info_parts info9
  rcases A with _ | ad
  · obtain rfl := hS.nil_ rfl
    have hL : L = [] := List.eq_nil_of_length_eq_zero (by have := hS.cap; omega)
    subst hL
    have hrun := run_append_owned_none (P := Try.prog) (w := w) base 23 o.type 9 i9 1 Try.underlying23 hi v n xs hown
    unfold Oper.wp
    simp only [execOp, ho, resolve, invoke, builtin, List.map_toArray, List.map_cons, List.map_nil, hs]
    have hx' : a.eval x = .slice none 0 0 := hx
    simp [hx', hrun, Result.andThen]
    exact h v w (by simpa [strC] using hown) (World.grownBy.refl w _)
  · refine wp_append_own w s x 23 ho base 9 i9 (.string ⟨#[]⟩) 1 16 Try.underlying23 hi hz0 hz1 hz2 rfl (by decide) v n xs hs hown ad L.length c (strC L) hx (by simp [strC]) (fun j u hu => ?_) (fun u hu => ?_) (by unfold maxLen; omega) (by omega) hbase fun v' w' h1 h2 _ => h v' w' h1 h2
    · obtain ⟨ad', e, _, hc⟩ := hS.2.2.2 j u hu
      injection e with e
      subst e
      exact hc
    · unfold strC at hu
      obtain ⟨y, _, rfl⟩ := List.mem_map.1 hu
      rfl
theorem wpList_app {w : World} {ops : Array Oper} {rest : List Oper} {o : Oper} {a : Act} {Q : Exit → Act → World → Prop} (hgd : o.guard = none) (s x : Operand) (ho : o.op = .call { callee := .builtin .append, args := #[s, x], argTypes := #[23, 23] })
    (base : Nat) (v : Value) (n : Nat) (xs : List Value) (hs : a.eval s = v) (hown : w.ownsRow base 9 1 v n xs) (B : Nat) (A : Option Addr) (k c : Nat) (L : List ByteArray) (hx : a.eval x = .slice A k c) (hk : k = L.length) (hS : Strs w B A c L)
    (hn : n + k ≤ 4398046511104) (hbase : base ≤ w.heap.size) (h : ∀ v' w', w'.ownsRow base 9 1 v' (n + k) (xs ++ strC L) → w.grownBy w' v.ownBlock → wpList Try.prog ops Q rest (a.put o.dst v') w') : wpList Try.prog ops Q (o :: rest) a w :=
  wpList_plain hgd fun _ hK => wp_app s x ho base v n xs hs hown B A k c L hx hk hS hn hbase fun v' w' h1 h2 => hK _ _ (h v' w' h1 h2)
theorem step_app {w : World} {ops : Array Oper} {o : Oper} {a : Act} {K : Act → World → Prop} {Q : Exit → Act → World → Prop} {E : Prop} (hgd : o.guard = none) (s x : Operand) (ho : o.op = .call { callee := .builtin .append, args := #[s, x], argTypes := #[23, 23] })
    (base : Nat) (v : Value) (n : Nat) (xs : List Value) (hs : a.eval s = v) (hown : w.ownsRow base 9 1 v n xs) (B : Nat) (A : Option Addr) (k c : Nat) (L : List ByteArray) (hx : a.eval x = .slice A k c) (hk : k = L.length) (hS : Strs w B A c L)
    (hn : n + k ≤ 4398046511104) (hbase : base ≤ w.heap.size) (h : ∀ v' w', w'.ownsRow base 9 1 v' (n + k) (xs ++ strC L) → w.grownBy w' v.ownBlock → K (a.put o.dst v') w') :
    if Region.wanted o (yielded ops a.tmps) = true then Oper.wp Try.prog o a w K Q else E := by
  have hw : Region.wanted o (yielded ops a.tmps) = true := by simp [Region.wanted, hgd]
  rw [if_pos hw]
  exact wp_app s x ho base v n xs hs hown B A k c L hx hk hS hn hbase h

theorem rows_ne {w : World} {b1 b2 s1 s2 n1 n2 : Nat} {e1 e2 : TypeId} {v1 v2 : Value} {x1 x2 : List Value} (h1 : w.ownsRow b1 e1 s1 v1 n1 x1) (h2 : w.ownsRow b2 e2 s2 v2 n2 x2) (he : e1 ≠ e2) : v1.ownBlock = none ∨ v1.ownBlock ≠ v2.ownBlock := by
  rcases h1.2 with ⟨rfl, _⟩ | ⟨g1, _, _, rfl, _, hg1, _⟩
  · exact .inl rfl
  · rcases h2.2 with ⟨rfl, _⟩ | ⟨g2, _, _, rfl, _, hg2, _⟩
    · exact .inr (by simp [Value.ownBlock])
    · refine .inr fun e => ?_
      obtain rfl : g1 = g2 := by simpa [Value.ownBlock] using e
      have := hg1.symm.trans hg2
      injection this with h
      injection h with _ h
      exact he h
theorem KeepsOthers.below {A B : World} (h : Below A.heap.size A B) : KeepsOthers A B := KeepsOthers.of_grownBy (grown_below h none) (fun j o e _ => by cases e)

/-- what a step of the merger keeps -/
def Kept (M : Nat) (w w' : World) : Prop := Below M w w' ∧ KeepT w w' ∧ KeepsOthers w w'
theorem Kept.refl (M : Nat) (w : World) : Kept M w w := ⟨Below.refl _ _, KeepT.refl _, KeepsOthers.refl _⟩
theorem Kept.trans {M : Nat} {a b c : World} (h : Kept M a b) (k : Kept M b c) : Kept M a c := ⟨h.1.trans k.1, h.2.1.trans k.2.1, h.2.2.trans k.2.2⟩
theorem Kept.below {M : Nat} {a b : World} (h : Below a.heap.size a b) (hM : M ≤ a.heap.size) : Kept M a b := ⟨h.mono hM, KeepT.below h, KeepsOthers.below h⟩
theorem Kept.own {M : Nat} {w w' : World} {size n : Nat} {e : TypeId} {v : Value} {xs : List Value} (hr : w.ownsRow M e size v n xs) (he : e ≠ 40 ∧ e ≠ 76) (hg : w.grownBy w' v.ownBlock) (hM : M ≤ w.heap.size) : Kept M w w' :=
  ⟨(Below.refl _ w).grown hg hM (row_ge hr), KeepT.own hr he hg, KeepsOthers.own hr hg⟩
theorem Kept.setM {M : Nat} {w : World} {cs : List Value} (h : Full w M 72 cs) (i : Nat) (v : Value) : Kept M w (w.setCell ⟨M, i, none⟩ v) :=
  ⟨(Below.refl _ w).setCell (p := ⟨M, i, none⟩) (Nat.le_refl _) v, KeepT.setCell h (by decide) i v, KeepsOthers.setCell _ _ _⟩

section
variable {M : Nat} {base left right : List ByteArray} {Ab Al Ar : Option Addr} {cb cl cr : Nat} {m : Ms ByteArray}
/-- The merger lies as it lay where only new blocks have come. -/
theorem Mer.on {w w' : World} (h : Mer w M base left right Ab Al Ar cb cl cr m) (hb : Below w.heap.size w w') : Mer w' M base left right Ab Al Ar cb cl cr m := by
  obtain ⟨Am, cm, Ac, cc, hF, h1, h2, h3, h4, h5⟩ := h
  exact ⟨Am, cm, Ac, cc, hF.on hb, own_keep h1 hb, own_keep h2 hb, h3.below hb (by have := hF.lt; omega), h4.below hb (by have := hF.lt; omega), h5.below hb (by have := hF.lt; omega)⟩
/-- m.merged = append(m.merged, l...). -/
theorem Mer.app {w w1 : World} {Am Ac : Option Addr} {cm cc : Nat} (hF : Full w M 72 [.slice Ab base.length cb, .slice Al left.length cl, .slice Ar right.length cr, .slice Am m.merged.length cm, .int .i64 (m.done : Int), .slice Ac m.conf.length cc])
    (h1 : w.ownsRow M 9 1 (.slice Am m.merged.length cm) m.merged.length (strC m.merged)) (h2 : w.ownsRow M 55 2 (.slice Ac m.conf.length cc) m.conf.length (spsC m.conf)) (h3 : Strs w M Ab cb base) (h4 : Strs w M Al cl left) (h5 : Strs w M Ar cr right)
    {l : List ByteArray} {k : Nat} (hk : k = l.length) {A' : Option Addr} {c' : Nat} (hown : w1.ownsRow M 9 1 (.slice A' (m.merged.length + k) c') (m.merged.length + k) (strC m.merged ++ strC l)) (hg : w.grownBy w1 (Value.slice Am m.merged.length cm).ownBlock) :
    Mer (w1.setCell ⟨M, 3, none⟩ (.slice A' (m.merged.length + k) c')) M base left right Ab Al Ar cb cl cr ⟨m.merged ++ l, m.done, m.conf⟩ ∧ Kept M w (w1.setCell ⟨M, 3, none⟩ (.slice A' (m.merged.length + k) c')) := by
  subst hk
  have hM := hF.lt
  have hF1 := hF.grown hg (hF.not_row h1 (by decide))
  have hK := Kept.own h1 (by decide) hg (by omega)
  have hl : (m.merged ++ l).length = m.merged.length + l.length := List.length_append
  have hc : strC (m.merged ++ l) = strC m.merged ++ strC l := by simp [strC]
  have h2' := h2.kept hg (rows_ne h2 h1 (by decide))
  have hb1 := (hK.1.setCell (p := ⟨M, 3, none⟩) (Nat.le_refl _) (.slice A' (m.merged.length + l.length) c'))
  refine ⟨⟨A', c', Ac, cc, ?_, ?_, own_set h2' hF1 (by decide) _ _, h3.below hb1 (Nat.le_refl _), h4.below hb1 (Nat.le_refl _), h5.below hb1 (Nat.le_refl _)⟩, hK.trans (Kept.setM hF1 3 _)⟩
  · dsimp only; rw [hl]; exact hF1.set_ 3 _
  · dsimp only; rw [hl, hc]; exact own_set hown hF1 (by decide) _ _
/-- m.conflicts = append(m.conflicts, span). -/
theorem Mer.conf_ {w w0 w1 : World} {Am Ac : Option Addr} {cm cc : Nat} (hF : Full w M 72 [.slice Ab base.length cb, .slice Al left.length cl, .slice Ar right.length cr, .slice Am m.merged.length cm, .int .i64 (m.done : Int), .slice Ac m.conf.length cc])
    (h1 : w.ownsRow M 9 1 (.slice Am m.merged.length cm) m.merged.length (strC m.merged)) (h2 : w.ownsRow M 55 2 (.slice Ac m.conf.length cc) m.conf.length (spsC m.conf)) (h3 : Strs w M Ab cb base) (h4 : Strs w M Al cl left) (h5 : Strs w M Ar cr right)
    (hb : Below w.heap.size w w0) {p : Nat × Nat} {g c' : Nat} (hown : w1.ownsRow M 55 2 (.slice (some ⟨g, 0, none⟩) (m.conf.length + 1) c') (m.conf.length + 1) (spsC m.conf ++ spC p)) (hg : w0.grownBy w1 (Value.slice Ac m.conf.length cc).ownBlock) :
    Mer (w1.setCell ⟨M, 5, none⟩ (.slice (some ⟨g, 0, none⟩) (m.conf.length + 1) c')) M base left right Ab Al Ar cb cl cr ⟨m.merged, m.done, m.conf ++ [p]⟩ ∧ Kept M w (w1.setCell ⟨M, 5, none⟩ (.slice (some ⟨g, 0, none⟩) (m.conf.length + 1) c')) := by
  have hM := hF.lt
  have hF0 := hF.on hb
  have h10 := own_keep h1 hb
  have h20 := own_keep h2 hb
  have hF1 := hF0.grown hg (hF0.not_row h20 (by decide))
  have hK := (Kept.below (M := M) hb (by omega)).trans (Kept.own h20 (by decide) hg (by have := hb.size; omega))
  have hl : (m.conf ++ [p]).length = m.conf.length + 1 := by simp
  have hc : spsC (m.conf ++ [p]) = spsC m.conf ++ spC p := by simp [spsC]
  have h1' := h10.kept hg (rows_ne h10 h20 (by decide))
  have hb1 := (hK.1.setCell (p := ⟨M, 5, none⟩) (Nat.le_refl _) (.slice (some ⟨g, 0, none⟩) (m.conf.length + 1) c'))
  refine ⟨⟨Am, cm, some ⟨g, 0, none⟩, c', ?_, own_set h1' hF1 (by decide) _ _, ?_, h3.below hb1 (Nat.le_refl _), h4.below hb1 (Nat.le_refl _), h5.below hb1 (Nat.le_refl _)⟩, hK.trans (Kept.setM hF1 5 _)⟩
  · dsimp only; rw [hl]; exact hF1.set_ 5 _
  · dsimp only; rw [hl, hc]; exact own_set hown hF1 (by decide) _ _
end

end Go.Proofs.Ytmeoannheomdoaa
