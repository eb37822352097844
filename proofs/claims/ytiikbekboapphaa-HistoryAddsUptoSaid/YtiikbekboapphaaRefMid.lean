/- The reference's Add. -/
import Derived.Test.YtiikbekboapphaaRefSet
import Derived.Test.YtiikbekboapphaaAddP
namespace Go.Proofs.Ytiikbekboapphaa
set_option maxRecDepth 100000
open Go.RowKit
theorem info64 : (Try.prog.info? 64).map (fun i => (i.zero, i.size, i.bytes)) = some (some (.slice none 0 0), 1, 24) := by kernel_rfl
def RAddOut (B : Nat) (w : World) (q : Nat) (cs : List Cm) (F : Nat → Prop) (c : Cm) (e : Ending) (w' : World) : Prop :=
  (canBe cs.length c.ps = true ∧ e = .returned (.tuple #[.int .i64 ((cs.length : Int) + 1), .int .i64 0]) ∧ ∃ F', IsR B w' q (cs ++ [c]) F' ∧ Goes F w w' F') ∨
  (canBe cs.length c.ps = false ∧ e = .returned (.tuple #[.int .i64 0, .int .i64 1]) ∧ Below w.heap.size w w')
/-- what the loops keep: the box of the commit and the new set -/
structure RS (w wr : World) (n : Nat) (box : List Value) (bits : List Bool) : Prop where
  below : Below w.heap.size w wr
  row : wr.ownsRow w.heap.size 4 1 (.slice (some ⟨w.heap.size + 1, 0, none⟩) (n + 1) (n + 1)) (n + 1) (boolC bits)
  box : Full wr w.heap.size 25 box
theorem RS.set_ {w wr : World} {n : Nat} {box : List Value} {bits : List Bool} (h : RS w wr n box bits) (j : Nat) (b : Bool) : RS w (wr.setCell ⟨w.heap.size + 1, j, none⟩ (.bool b)) n box (bits.set j b) :=
  ⟨h.below.setCell (by simp) _, by rw [boolC_set]; exact own_set h.row j _, h.box.far (by simp) _⟩
/-- behind the append to the commits -/
theorem ref_mid {B : Nat} {wx w5 : World} {q n c0 d0 g2 c2 : Nat} {cs : List Cm} {F : Nat → Prop} {A0 S0 : Option Addr} {In : Nat → Prop} {ob : Obj} {ss xs : List Value}
    (h : RefH B wx q cs F (.slice A0 n c0) (.slice S0 n d0) In) (hss : wx.ownsRow 0 64 1 (.slice S0 n d0) n ss)
    (hown5 : w5.ownsRow 0 25 5 (.slice (some ⟨g2, 0, none⟩) (n + 1) c2) (n + 1) xs) (hgrow : (wx.alloc ob).grownBy w5 (Value.slice A0 n c0).ownBlock) (hat : (Value.slice A0 n c0).ownBlock = some g2 ∨ g2 = wx.heap.size + 1) :
    Full (w5.setCell ⟨q, 0, none⟩ (.slice (some ⟨g2, 0, none⟩) (n + 1) c2)) q 67 [.slice (some ⟨g2, 0, none⟩) (n + 1) c2, .slice S0 n d0] ∧
      (w5.setCell ⟨q, 0, none⟩ (.slice (some ⟨g2, 0, none⟩) (n + 1) c2)).ownsRow 0 25 5 (.slice (some ⟨g2, 0, none⟩) (n + 1) c2) (n + 1) xs ∧
      (w5.setCell ⟨q, 0, none⟩ (.slice (some ⟨g2, 0, none⟩) (n + 1) c2)).ownsRow 0 64 1 (.slice S0 n d0) n ss ∧
      Turn (fun g => g = q ∨ (Value.slice A0 n c0).ownBlock = some g) wx (w5.setCell ⟨q, 0, none⟩ (.slice (some ⟨g2, 0, none⟩) (n + 1) c2)) ∧ wx.heap.size ≤ w5.heap.size := by
  have hqne : (Value.slice A0 n c0).ownBlock ≠ some q := fun e => (h.row q (.inl e)).2 rfl
  have hqs : (Value.slice S0 n d0).ownBlock ≠ some q := fun e => (h.row q (.inr e)).2 rfl
  have hF5 : Full w5 q 67 [.slice A0 n c0, .slice S0 n d0] := (h.full.alloc ob).grown hgrow (fun e => hqne e.symm)
  have hqg : q ≠ g2 := fun e => hF5.not_row hown5 (by decide) (by rw [e]; rfl)
  obtain ⟨vs, _, hownx, _⟩ := h.obs
  have hdis : ∀ g, (Value.slice S0 n d0).ownBlock = some g → (Value.slice A0 n c0).ownBlock ≠ some g := fun g e e' => by
    rcases hss.2 with ⟨h0, _⟩ | ⟨g', cap, cur, h0, _, hh, _⟩
    · rw [h0] at e; simp [Value.ownBlock] at e
    · rw [h0] at e
      obtain rfl : g' = g := by simpa [Value.ownBlock] using e
      exact (show Full wx g' 64 cur.toList from hh).not_row hownx (by decide) e'.symm
  have hs5 : w5.ownsRow 0 64 1 (.slice S0 n d0) n ss := owns_keep hss fun g e => (hgrow.block g (by have := owns_lt hss g e; simp; omega) (fun e' => hdis g e e'.symm)).trans (Below.heap_alloc _ _ _ (owns_lt hss g e))
  have hsz := hgrow.size
  simp only [World.size_alloc] at hsz
  refine ⟨hF5.set_ 0 _, owns_keep hown5 fun g e => Below.heap_setCell _ _ _ g (fun e' => hqg (by
      obtain rfl : g2 = g := by simpa [Value.ownBlock] using e
      exact e'.symm)), owns_keep hs5 fun g e => Below.heap_setCell _ _ _ g (fun e' => hqs (by rw [e]; exact congrArg some e')), ?_, by omega⟩
  have h1 : Turn (fun g => g = q ∨ (Value.slice A0 n c0).ownBlock = some g) wx (wx.alloc ob) := Turn.of ((Below.refl _ wx).alloc (Nat.le_refl _) _)
  have h2 := h1.late (Turn.grown (F := fun g => (Value.slice A0 n c0).ownBlock = some g) hgrow (fun g e => .inl e)) (fun g e => .inl (.inr e))
  exact h2.late (Turn.set_ (F := fun g => g = q) (a := ⟨q, 0, none⟩) rfl _) (fun g e => .inl (.inl e))
/-- behind the append to the sets -/
theorem ref_end {B : Nat} {w wx w6 w7 : World} {q n c0 d0 g2 c2 g3 c3 c5 c6 sb : Nat} {cs : List Cm} {F : Nat → Prop} {A0 S0 A5 A6 : Option Addr} {In : Nat → Prop} {c : Cm} {vs : List (Value × Value)} {ss : List Value} {ob : Obj}
    (h : RefH B wx q cs F (.slice A0 n c0) (.slice S0 n d0) In) (hn : cs.length = n) (hc : canBe cs.length c.ps = true) (hBw : B ≤ w.heap.size) (hFw : ∀ g, F g → g < w.heap.size) (hb : Below w.heap.size w wx)
    (hvl : vs.length = cs.length) (hints : ∀ (i : Nat) (c : Cm) (u : Value × Value), cs[i]? = some c → vs[i]? = some u → IntsF wx In u.1 c.ps ∧ IntsF wx In u.2 c.ch)
    (hsl : ss.length = cs.length) (hbits : ∀ (i : Nat) (u : Value), ss[i]? = some u → BoolsF wx In u (setL cs (i + 1)))
    (h5 : wx.ownsRow w.heap.size 3 1 (.slice A5 c.ps.length c5) c.ps.length (intC c.ps)) (h6 : wx.ownsRow w.heap.size 3 1 (.slice A6 c.ch.length c6) c.ch.length (intC c.ch))
    (hset : wx.ownsRow w.heap.size 4 1 (.slice (some ⟨sb, 0, none⟩) (n + 1) (n + 1)) (n + 1) (boolC (setK cs c.ps c.ps.length)))
    (hF6 : Full w6 q 67 [.slice (some ⟨g2, 0, none⟩) (n + 1) c2, .slice S0 n d0]) (hown6 : w6.ownsRow 0 25 5 (.slice (some ⟨g2, 0, none⟩) (n + 1) c2) (n + 1) (cmsC cs vs ++ cmC c (.slice A5 c.ps.length c5) (.slice A6 c.ch.length c6)))
    (ht6 : Turn (fun g => g = q ∨ (Value.slice A0 n c0).ownBlock = some g) wx w6) (hat2 : (Value.slice A0 n c0).ownBlock = some g2 ∨ wx.heap.size ≤ g2)
    (hss6 : w6.ownsRow 0 64 1 (.slice S0 n d0) n ss)
    (hown7 : w7.ownsRow 0 64 1 (.slice (some ⟨g3, 0, none⟩) (n + 1) c3) (n + 1) (ss ++ [.slice (some ⟨sb, 0, none⟩) (n + 1) (n + 1)])) (hgrow : (w6.alloc ob).grownBy w7 (Value.slice S0 n d0).ownBlock) (hat3 : (Value.slice S0 n d0).ownBlock = some g3 ∨ g3 = w6.heap.size + 1) :
    (w7.cell? ⟨q, 1, none⟩ = some (.slice S0 n d0) ∧ w7.frozen? ⟨q, 1, none⟩ = false ∧ (w7.setCell ⟨q, 1, none⟩ (.slice (some ⟨g3, 0, none⟩) (n + 1) c3)).cell? ⟨q, 0, none⟩ = some (.slice (some ⟨g2, 0, none⟩) (n + 1) c2)) ∧
    ∃ F', IsR B (w7.setCell ⟨q, 1, none⟩ (.slice (some ⟨g3, 0, none⟩) (n + 1) c3)) q (cs ++ [c]) F' ∧ Goes F w (w7.setCell ⟨q, 1, none⟩ (.slice (some ⟨g3, 0, none⟩) (n + 1) c3)) F' := by
  have hqs : (Value.slice S0 n d0).ownBlock ≠ some q := fun e => (h.row q (.inr e)).2 rfl
  have hF7 : Full w7 q 67 [.slice (some ⟨g2, 0, none⟩) (n + 1) c2, .slice S0 n d0] := (hF6.alloc ob).grown hgrow (fun e => hqs e.symm)
  have hq2 : q ≠ g2 := fun e => hF6.not_row hown6 (by decide) (by rw [e]; rfl)
  have hq3 : q ≠ g3 := fun e => hF7.not_row hown7 (by decide) (by rw [e]; rfl)
  have hsz6 := ht6.size
  have hg2l : g2 < w6.heap.size := owns_lt hown6 g2 rfl
  have hg2S : (Value.slice S0 n d0).ownBlock ≠ some g2 := fun e => by
    rcases hss6.2 with ⟨h0, _⟩ | ⟨g', cap, cur, h0, _, hh, _⟩
    · rw [h0] at e; simp [Value.ownBlock] at e
    · rw [h0] at e
      obtain rfl : g' = g2 := by simpa [Value.ownBlock] using e
      exact (show Full w6 g' 64 cur.toList from hh).not_row hown6 (by decide) rfl
  have hown8 : (w7.setCell ⟨q, 1, none⟩ (.slice (some ⟨g3, 0, none⟩) (n + 1) c3)).ownsRow 0 25 5 (.slice (some ⟨g2, 0, none⟩) (n + 1) c2) (n + 1) (cmsC cs vs ++ cmC c (.slice A5 c.ps.length c5) (.slice A6 c.ch.length c6)) := owns_keep hown6 fun g e => by
    obtain rfl : g2 = g := by simpa [Value.ownBlock] using e
    refine (Below.heap_setCell _ _ _ g2 (fun e' => hq2 e'.symm)).trans ?_
    exact (hgrow.block g2 (by simp; omega) (fun e' => hg2S e'.symm)).trans (Below.heap_alloc _ _ _ hg2l)
  have hF8 := hF7.set_ 1 (.slice (some ⟨g3, 0, none⟩) (n + 1) c3)
  have ht8 : Turn (fun g => g = q ∨ (Value.slice A0 n c0).ownBlock = some g ∨ (Value.slice S0 n d0).ownBlock = some g) wx (w7.setCell ⟨q, 1, none⟩ (.slice (some ⟨g3, 0, none⟩) (n + 1) c3)) := by
    have k1 := ht6.mono (G := fun g => g = q ∨ (Value.slice A0 n c0).ownBlock = some g ∨ (Value.slice S0 n d0).ownBlock = some g) (fun g hg => hg.imp id .inl)
    have k2 := k1.late (Turn.of (F := fun _ => False) ((Below.refl _ w6).alloc (Nat.le_refl _) ob)) (fun g e => e.elim)
    have k3 := k2.late (Turn.grown (F := fun g => (Value.slice S0 n d0).ownBlock = some g) hgrow (fun g e => .inl e)) (fun g e => .inl (.inr (.inr e)))
    exact k3.late (Turn.set_ (F := fun g => g = q) (a := ⟨q, 1, none⟩) rfl _) (fun g e => .inl (.inl e))
  refine ⟨⟨hF7.cell 1, hF7.frozen 1, hF8.cell 0⟩, ?_⟩
  have hG : ∀ g, ((Value.slice A5 c.ps.length c5).ownBlock = some g ∨ (Value.slice A6 c.ch.length c6).ownBlock = some g ∨ g = sb) → w.heap.size ≤ g ∧ g < wx.heap.size := fun g hg => by
    rcases hg with hg | hg | hg
    · exact ⟨row_ge h5 g hg, owns_lt h5 g hg⟩
    · exact ⟨row_ge h6 g hg, owns_lt h6 g hg⟩
    · subst hg
      exact ⟨row_ge hset g rfl, owns_lt hset g rfl⟩
  obtain ⟨F', k1, k2, k3⟩ := h.grow (G := fun g => (Value.slice A5 c.ps.length c5).ownBlock = some g ∨ (Value.slice A6 c.ch.length c6).ownBlock = some g ∨ g = sb) (u := (.slice A5 c.ps.length c5, .slice A6 c.ch.length c6)) (c := c) (vs := vs) (ss := ss) (sl := .slice (some ⟨sb, 0, none⟩) (n + 1) (n + 1)) ht8
    (fun g hg => ⟨fun hf => by have := hFw g hf; have := (hG g hg).1; omega, Nat.le_trans hBw (hG g hg).1, (hG g hg).2⟩) hvl hints ⟨IntsF.own h5 (fun g e => .inl e), IntsF.own h6 (fun g e => .inr (.inl e))⟩ hsl hbits
    (by
      refine ⟨some ⟨sb, 0, none⟩, n + 1, ?_, ?_⟩
      · rw [setL_len, hn]
      · rw [setL_len, ← setK_full h.good h.pos hc, hn]
        exact owns_row hset (fun g e => by
          obtain rfl : sb = g := by simpa [Value.ownBlock] using e
          exact .inr (.inr rfl)))
    hF8 (by rw [hn]; exact hown8) (by rw [hn]; exact owns_keep hown7 fun g e => Below.heap_setCell _ _ _ g (fun e' => hq3 (by
      obtain rfl : g3 = g := by simpa [Value.ownBlock] using e
      exact e'.symm))) (hat2.imp id fun e => ⟨g2, rfl, e⟩) (hat3.imp id fun e => ⟨g3, rfl, by omega⟩) hc
  refine ⟨F', k1, (Turn.of hb).late k2 (fun g hg => .inl hg), fun g hg => ?_⟩
  rcases k3 g hg with e | e | e
  · exact .inl e
  · exact .inr (hG g e).1
  · exact .inr (Nat.le_trans hb.size e)
end Go.Proofs.Ytiikbekboapphaa
