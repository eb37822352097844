/- (*Store).add. -/
import Derived.Deep.DeepCutAuto
import Derived.Test.YthnlldojidocoaaDoorGrow
namespace Go.Proofs.YthnlldojidocoaaDoor
open Go.RowKit Go.Maps

theorem info72 : (Tryd.prog.info? 72).map (fun i => (i.zero, i.size, i.bytes)) = some (some (.agg #[.bool false, .string ⟨#[]⟩, .slice none 0 0]), 3, 48) := by kernel_rfl
def AddOut (B : Nat) (w : World) (p : Nat) (os : List Ob) (F G : Nat → Prop) (o : Ob) (e : Ending) (w' : World) : Prop :=
  e = .returned (.int .i64 ((os.length : Int) + 1)) ∧ ∃ F', IsStore B w' p (os ++ [o]) F' ∧ Turn F w w' ∧ ∀ g, F' g → F g ∨ G g ∨ w.heap.size ≤ g

theorem map_not_row {w : World} {b n k size base : Nat} {e : TypeId} {D : DataW Unit} {v : Value} {xs : List Value} (hm : w.ownsMap Tryd.prog 68 (plainElem Tryd.prog 3) b n D) (hr : w.ownsRow base e size v k xs) : v.ownBlock ≠ some b := by
  obtain ⟨es, cl, hh, _⟩ := hm
  rcases hr.2 with ⟨rfl, _⟩ | ⟨g', cap, cur, rfl, _, hg, _⟩
  · simp [Value.ownBlock]
  · intro he
    obtain rfl : g' = b := by simpa [Value.ownBlock] using he
    have := hg.symm.trans hh
    injection this with h1
    cases h1
theorem map_not_full {w : World} {b n g : Nat} {t : TypeId} {cs : List Value} {D : DataW Unit} (hm : w.ownsMap Tryd.prog 68 (plainElem Tryd.prog 3) b n D) (hf : Full w g t cs) : g ≠ b := by
  rintro rfl
  obtain ⟨es, cl, hh, _⟩ := hm
  have := (show w.heap[g]? = _ from hf).symm.trans hh
  injection this with h1
  cases h1

theorem add_fit {w wx w2 : World} {p n c g2 c2 mb : Nat} {A : Option Addr} {m : Option Nat} {xs ys : List Value} {kc : List Value} {D : DataW Unit} {ob : Obj}
    (hFx : Full wx p 36 [.slice A n c, .map (some mb)]) (hKx : Full wx w.heap.size 68 kc) (hownx : wx.ownsRow 0 72 3 (.slice A n c) n xs) (hmapx : wx.ownsMap Tryd.prog 68 (plainElem Tryd.prog 3) mb n D)
    (htx : Turn (Own p (.slice A n c) m) w wx) (hat : (Value.slice A n c).ownBlock = some g2 ∨ g2 = wx.heap.size + 1) (hgrow : ((wx.alloc ob).drew).grownBy w2 (Value.slice A n c).ownBlock)
    (hown2 : w2.ownsRow 0 72 3 (.slice (some ⟨g2, 0, none⟩) (n + 1) c2) (n + 1) (xs ++ ys)) (hFy : Full w2 p 36 [.slice A n c, .map (some mb)]) (hsx : w.heap.size ≤ wx.heap.size) :
    ∃ g2' c2' : Nat, Full (w2.setCell ⟨p, 0, none⟩ (.slice (some ⟨g2, 0, none⟩) (n + 1) c2)) p 36 [.slice (some ⟨g2', 0, none⟩) (n + 1) c2', .map (some mb)] ∧ Full (w2.setCell ⟨p, 0, none⟩ (.slice (some ⟨g2, 0, none⟩) (n + 1) c2)) w.heap.size 68 kc ∧
      (w2.setCell ⟨p, 0, none⟩ (.slice (some ⟨g2, 0, none⟩) (n + 1) c2)).ownsRow 0 72 3 (.slice (some ⟨g2', 0, none⟩) (n + 1) c2') (n + 1) (xs ++ ys) ∧ ((Value.slice A n c).ownBlock = some g2' ∨ w.heap.size ≤ g2') ∧
      (w2.setCell ⟨p, 0, none⟩ (.slice (some ⟨g2, 0, none⟩) (n + 1) c2)).ownsMap Tryd.prog 68 (plainElem Tryd.prog 3) mb n D ∧ Turn (Own p (.slice A n c) m) w (w2.setCell ⟨p, 0, none⟩ (.slice (some ⟨g2, 0, none⟩) (n + 1) c2)) := by
  have hK2 := ((hKx.alloc ob).drew).grown hgrow (hKx.not_row hownx (by decide))
  have hpk : p ≠ w.heap.size := hFx.ne_ hKx (by decide)
  have hpm := map_not_full hmapx hFx
  have hmr := map_not_row hmapx hownx
  have hpr := hFy.not_row hown2 (by decide)
  have hm2 : w2.ownsMap Tryd.prog 68 (plainElem Tryd.prog 3) mb n D := ownsMap_keep (w := (wx.alloc ob).drew) ((hmapx.alloc ob).drew) (hgrow.block mb (by have := hmapx.lt; simp; omega) (fun e => hmr e.symm))
  refine ⟨g2, c2, hFy.set_ 0 _, hK2.far (fun e => hpk e.symm) _, owns_keep hown2 (fun g hg => Below.heap_setCell _ _ _ g (fun e => hpr (by rw [hg, e]))), hat.imp id (fun e => by omega), ownsMap_keep hm2 (Below.heap_setCell _ _ _ mb (fun e => hpm e.symm)), ?_⟩
  have h1 : Turn (Own p (.slice A n c) m) w (wx.alloc ob).drew := htx.late (G := fun _ => False) (Turn.of (((Below.refl _ wx).alloc (Nat.le_refl _) ob).drew)) (fun g h => h.elim)
  have h2 : Turn (Own p (.slice A n c) m) w w2 := h1.late (Turn.grown (F := fun g => (Value.slice A n c).ownBlock = some g) hgrow (fun g e => .inl e)) (fun g e => .inl (.inr (.inl e)))
  exact h2.late (Turn.set_ (F := fun g => g = p) (a := ⟨p, 0, none⟩) rfl _) (fun g e => .inl (.inl e))

set_option maxRecDepth 100000 in
set_option maxHeartbeats 4000000 in
theorem add_any {B : Nat} {w : World} {p : Nat} {os : List Ob} {F : Nat → Prop} {v : Value} {m : Option Nat} {In : Nat → Prop} (h : StoreH B w p os F v m In) (hn : os.length ≤ 1048576) (o : Ob) (G : Nat → Prop)
    (hG : ∀ g, G g → ¬ F g ∧ B ≤ g ∧ g < w.heap.size) (Ae : Option Addr) (ne ce : Nat) (hu : EntsF w G (.slice Ae ne ce) o.2.2) (hid : (ident o).size ≤ maxLen) (hnew : ∀ x ∈ os, klOf x ≠ klOf o) (hf : Fine (os ++ [o])) (S : ByteArray) (hS : ident o = S) :
    Calls Tryd.prog 32 #[.pointer (some ⟨p, 0, none⟩), .agg #[.bool o.1, .string S], .agg #[.bool o.1, .string o.2.1, .slice Ae ne ce]] w (AddOut B w p os F G o) := by
  obtain ⟨vs, hvl, hown, hents⟩ := h.obs
  obtain ⟨A, c, rfl⟩ := own_form hown
  have HG := Lib.hid (fun (w' : World) (v' : Value) (mb : Nat) (D' : DataW Unit) ht hfull hown' hv' hmb hmap hD => h.grow (w' := w') (G := G) (v' := v') (o := o) (u := .slice Ae ne ce) (mb := mb) (D' := D') ht hG hvl hents hu hfull hown' hv' hmb hmap hD hf)
  have hpB := h.in_ p h.self
  have hF := h.full
  have hmp := h.map
  have hrow := h.row
  have hcap : os.length ≤ c := (Row.own hown).2.1
  have hkey : keyOf Tryd.prog 68 (.agg #[.bool o.1, .string S]) = some (klOf o) := by rw [← hS]; exact keyOf_ob o hid
  clear h hents hf hG hu
  unfold AddOut
  obtain ⟨n, hn'⟩ : ∃ n, os.length = n := ⟨_, rfl⟩
  rw [hn'] at hown hF hn hcap HG hmp hrow ⊢
  obtain ⟨od, ot, oe⟩ := o
  dsimp only at *
  obtain ⟨i72, hi, hz0, hz1, hz2⟩ := info_parts info72
  have hmm := @run_makeMap Tryd.prog
  have hq1 : ∀ W, (binOp .eql 34 (.map none) (.map none)).run Tryd.prog W = .ok (.bool true) W := fun W => by kernel_rfl
  have hq2 : ∀ b W, (binOp .eql 34 (.map (some b)) (.map none)).run Tryd.prog W = .ok (.bool false) W := fun b W => by kernel_rfl
  have hK0 : Full (w.alloc (.cells #[.bool od, .string S] 68)) w.heap.size 68 [.bool od, .string S] := Full.new w 68 [.bool od, .string S]
  have hb1 : Below w.heap.size w (w.alloc (.cells #[.bool od, .string S] 68)) := (Below.refl _ w).alloc (Nat.le_refl _) _
  have hO0 : Full ((w.alloc (.cells #[.bool od, .string S] 68)).alloc (.cells #[.bool od, .string ot, .slice Ae ne ce] 72)) (w.heap.size + 1) 72 [.bool od, .string ot, .slice Ae ne ce] := by
    have := Full.new (w.alloc (.cells #[.bool od, .string S] 68)) 72 [.bool od, .string ot, .slice Ae ne ce]
    rw [World.size_alloc] at this
    exact this
  have hK1 : Full ((w.alloc (.cells #[.bool od, .string S] 68)).alloc (.cells #[.bool od, .string ot, .slice Ae ne ce] 72)) w.heap.size 68 [.bool od, .string S] := hK0.alloc _
  have hb2 : Below w.heap.size w ((w.alloc (.cells #[.bool od, .string S] 68)).alloc (.cells #[.bool od, .string ot, .slice Ae ne ce] 72)) := hb1.alloc (by simp) _
  obtain ⟨w1, hw1⟩ : ∃ w1, (w.alloc (.cells #[.bool od, .string S] 68)).alloc (.cells #[.bool od, .string ot, .slice Ae ne ce] 72) = w1 := ⟨_, rfl⟩
  have hs1 : w1.heap.size = w.heap.size + 2 := by rw [← hw1]; simp
  rw [hw1] at hO0 hK1 hb2
  have hF1 := hF.on hb2
  have hown1 := own_keep hown hb2
  have c1 : w1.cell? ⟨p, 1, none⟩ = some (.map m) := hF1.cell 1
  have f1 := hF1.frozen 1
  have hpw : p ≠ w.heap.size := by omega
  have hpw1 : p ≠ w.heap.size + 1 := by omega
  have HS1 := Lib.hid hs1
  clear hK0 hb1 hs1
  go_enter Tryd.func32, Tryd.ntmps32
  go_upto_region 1 with fail
  rcases hmp with ⟨rfl, hos⟩ | ⟨mb, D, rfl, hFm, hmap, hD⟩
  · have hosn : n = 0 := by rw [← hn', hos]; rfl
    obtain ⟨mb, hmbe⟩ : ∃ mb, w1.heap.size = mb := ⟨_, rfl⟩
    have c1' : (w1.alloc (.map #[] 0)).cell? ⟨p, 1, none⟩ = some (.map none) := (hF1.alloc _).cell 1
    have f1' := (hF1.alloc (.map #[] 0)).frozen 1
    go_upto_region 3 with fail
    have hs1 := HS1.out
    have hM2 : (w1.alloc (.map #[] 0)).ownsMap Tryd.prog 68 (plainElem Tryd.prog 3) (H := Unit) w1.heap.size 0 (.map []) := World.ownsMap_made _ _ _ _
    have hx1 : Full ((w1.alloc (.map #[] 0)).setCell ⟨p, 1, none⟩ (.map (some mb))) p 36 [.slice A n c, .map (some mb)] := (hF1.alloc _).set_ 1 _
    have hx2 := (hK1.alloc (.map #[] 0)).far (p := ⟨p, 1, none⟩) (fun e => hpw e.symm) (.map (some mb))
    have hx3 := (hO0.alloc (.map #[] 0)).far (p := ⟨p, 1, none⟩) (fun e => hpw1 e.symm) (.map (some mb))
    have hx4 : ((w1.alloc (.map #[] 0)).setCell ⟨p, 1, none⟩ (.map (some mb))).ownsRow 0 72 3 (.slice A n c) n (obsC os vs) := owns_keep (hown1.alloc _) (fun g hg => Below.heap_setCell _ _ _ g (hrow g hg).2)
    have hx5 : ((w1.alloc (.map #[] 0)).setCell ⟨p, 1, none⟩ (.map (some mb))).ownsMap Tryd.prog 68 (plainElem Tryd.prog 3) (H := Unit) mb n (.map []) := by
      rw [← hmbe, hosn]
      exact hM2.setCell (by simp; omega) _
    have hx6 : Turn (Own p (.slice A n c) none) w ((w1.alloc (.map #[] 0)).setCell ⟨p, 1, none⟩ (.map (some mb))) := ((Turn.of (hb2.alloc (by omega) (.map #[] 0))).trans_ (Turn.set_ (a := ⟨p, 1, none⟩) (.inl rfl) _))
    have hD : MapIs (.map []) os := by rw [hos]; exact MapIs.nil
    have hmbx : (none : Option Nat) = some mb ∨ w.heap.size ≤ mb := .inr (by omega)
    have hx7 : ((w1.alloc (.map #[] 0)).setCell ⟨p, 1, none⟩ (.map (some mb))).heap.size = w1.heap.size + 1 := by simp [World.setCell]
    try rw [hmbe]
    obtain ⟨wx, hwx⟩ : ∃ wx, (w1.alloc (.map #[] 0)).setCell ⟨p, 1, none⟩ (.map (some mb)) = wx := ⟨_, rfl⟩
    obtain ⟨D, hDD⟩ : ∃ D : DataW Unit, DataW.map [] = D := ⟨_, rfl⟩
    rw [hDD] at hx5 hD
    rw [hwx] at hx1 hx2 hx3 hx4 hx5 hx6 hx7 ⊢
    have hFx := hx1
    have hKx := hx2
    have hOx := hx3
    have hownx := hx4
    have hmapx := hx5
    have htx := hx6
    have hsx : w.heap.size ≤ wx.heap.size := by omega
    clear hx1 hx2 hx3 hx4 hx5 hx6 hx7 hM2 hwx hDD hF1 hown1 hK1 hO0 hb2 hF hown c1 f1 c1' f1' hw1 hmbe HS1 hs1 hosn hos
    have x0 : wx.cell? ⟨p, 0, none⟩ = some (.slice A n c) := hFx.cell 0
    have f0 := hFx.frozen 0
    have x0' : (wx.alloc (.cells #[.bool od, .string ot, .slice Ae ne ce] 72)).cell? ⟨p, 0, none⟩ = some (.slice A n c) := (hFx.alloc _).cell 0
    have o0 : wx.cell? ⟨w.heap.size + 1, 0, none⟩ = some (.bool od) := hOx.cell 0
    have o1 : wx.cell? ⟨w.heap.size + 1, 1, none⟩ = some (.string ot) := hOx.cell 1
    have o2 : wx.cell? ⟨w.heap.size + 1, 2, none⟩ = some (.slice Ae ne ce) := hOx.cell 2
    go_cut [] (fun wy => ∃ g2 c2 : Nat, Full wy p 36 [.slice (some ⟨g2, 0, none⟩) (n + 1) c2, .map (some mb)] ∧ Full wy w.heap.size 68 [.bool od, .string S] ∧ wy.ownsRow 0 72 3 (.slice (some ⟨g2, 0, none⟩) (n + 1) c2) (n + 1) (obsC os vs ++ [.bool od, .string ot, .slice Ae ne ce]) ∧ ((Value.slice A n c).ownBlock = some g2 ∨ w.heap.size ≤ g2) ∧ wy.ownsMap Tryd.prog 68 (plainElem Tryd.prog 3) mb n D ∧ Turn (Own p (.slice A n c) none) w wy)
    case first =>
      go_region_law
        ((refine step_append_lies _ (by rfl) _ _ _ (by rfl) 0 72 i72 _ 3 48 Tryd.underlying33 hi hz0 hz1 hz2 rfl (by omega) (.slice A n c) n _ (by rfl) ((hownx.alloc _).drew) ⟨wx.heap.size, 0, none⟩ 1 1 [.bool od, .string ot, .slice Ae ne ce] (by rfl) (by rfl) (World.news_of_block (cs := #[.bool od, .string ot, .slice Ae ne ce]) (t := 72) (fr := (0, 0)) (heap_alloc_new wx _)) (by simp [Value.oneCell']) (by omega) (by unfold maxLen; omega) (by omega) (by simp) (wx.heap.size + 1) (by simp) ?_; intro gg cap w2 hown2 hgrow hat hlt; have hFy := ((hFx.alloc (.cells #[.bool od, .string ot, .slice Ae ne ce] 72)).drew).grown hgrow (hFx.not_row hownx (by decide)); have z0 : w2.cell? ⟨p, 0, none⟩ = some (.slice A n c) := hFy.cell 0; have z1 := hFy.frozen 0))
      all_goals (go_wp2_with fail; go_meet)
      all_goals (case rel => exact add_fit hFx hKx hownx hmapx htx hat hgrow hown2 hFy hsx)
    case rest =>
      obtain ⟨g2, c2, hFy, hKy, howny, hat, hmapy, hty⟩ := hcut
      clear hFx hOx hKx hownx hmapx htx x0 x0' f0 o0 o1 o2
      obtain ⟨w3, hr3, hown3, hg3'⟩ := (hmapy.drew).update law68 Tryd.underlying34 (by unfold maxLen; omega) hkey (plainElem_int (q := .i64) (a := (n : Int) + 1) Tryd.underlying3 (WalkArith.wf_i64 (by omega)))
      have hg3 : wc.grownBy w3 (some mb) := ⟨hg3'.os, hg3'.tape, hg3'.output, hg3'.size, hg3'.block⟩
      have y0 : wc.cell? ⟨p, 0, none⟩ = some (.slice (some ⟨g2, 0, none⟩) (n + 1) c2) := hFy.cell 0
      have y1 : wc.cell? ⟨p, 1, none⟩ = some (.map (some mb)) := hFy.cell 1
      have k0 : wc.cell? ⟨w.heap.size, 0, none⟩ = some (.bool od) := hKy.cell 0
      have k1 : wc.cell? ⟨w.heap.size, 1, none⟩ = some (.string S) := hKy.cell 1
      have hF3 := hFy.grown hg3 (fun e => map_not_full hmapy hFy (by injection e))
      have j0 : w3.cell? ⟨p, 0, none⟩ = some (.slice (some ⟨g2, 0, none⟩) (n + 1) c2) := hF3.cell 0
      have ho3 := owns_keep (w' := w3) howny (fun g hg => hg3.block g (owns_lt howny g hg) (fun e => map_not_row hmapy howny (by rw [hg, e])))
      have hsm := hD.snoc (o := (od, ot, oe)) (klOf_key _) hnew
      rw [hn'] at hsm
      have ht3 : Turn (Own p (.slice A n c) none) w w3 := hty.late (Turn.grown (F := fun g => g = mb) hg3 (fun g e => .inl (by injection e with e; exact e.symm))) (fun g e => by subst e; exact hmbx.imp (fun e => .inr (.inr e)) id)
      have hfin := HG.out w3 (.slice (some ⟨g2, 0, none⟩) (n + 1) c2) mb _ ht3 hF3 ho3 (hat.imp id fun h => ⟨g2, rfl, h⟩) hmbx hown3 hsm
      have HFIN := Lib.hid hfin
      clear hfin hF3 hFy hKy howny hat hmapy hty hown3 ho3 hsm ht3 hg3 hg3'
      go_wp2_with fail
      go_region
      all_goals
        go_wp2
        go_ret
        exact ⟨rfl, HFIN.out⟩
  · go_upto_region 3 with fail
    have hFx := hF1
    have hKx := hK1
    have hOx := hO0
    have hownx := hown1
    have hmapx := ownsMap_keep hmap (hb2.block mb hmap.lt)
    have htx : Turn (Own p (.slice A n c) (some mb)) w w1 := Turn.of hb2
    have hmbx : (some mb : Option Nat) = some mb ∨ w.heap.size ≤ mb := .inl rfl
    obtain ⟨wx, hwx⟩ : ∃ wx, w1 = wx := ⟨_, rfl⟩
    have hs1 := HS1.out
    rw [hwx] at hFx hKx hOx hownx hmapx htx hs1 ⊢
    have hsx : w.heap.size ≤ wx.heap.size := by omega
    clear hs1 HS1 hwx hF1 hown1 hK1 hO0 hb2 hF hown c1 f1 hw1 hmap
    have x0 : wx.cell? ⟨p, 0, none⟩ = some (.slice A n c) := hFx.cell 0
    have f0 := hFx.frozen 0
    have x0' : (wx.alloc (.cells #[.bool od, .string ot, .slice Ae ne ce] 72)).cell? ⟨p, 0, none⟩ = some (.slice A n c) := (hFx.alloc _).cell 0
    have o0 : wx.cell? ⟨w.heap.size + 1, 0, none⟩ = some (.bool od) := hOx.cell 0
    have o1 : wx.cell? ⟨w.heap.size + 1, 1, none⟩ = some (.string ot) := hOx.cell 1
    have o2 : wx.cell? ⟨w.heap.size + 1, 2, none⟩ = some (.slice Ae ne ce) := hOx.cell 2
    go_cut [] (fun wy => ∃ g2 c2 : Nat, Full wy p 36 [.slice (some ⟨g2, 0, none⟩) (n + 1) c2, .map (some mb)] ∧ Full wy w.heap.size 68 [.bool od, .string S] ∧ wy.ownsRow 0 72 3 (.slice (some ⟨g2, 0, none⟩) (n + 1) c2) (n + 1) (obsC os vs ++ [.bool od, .string ot, .slice Ae ne ce]) ∧ ((Value.slice A n c).ownBlock = some g2 ∨ w.heap.size ≤ g2) ∧ wy.ownsMap Tryd.prog 68 (plainElem Tryd.prog 3) mb n D ∧ Turn (Own p (.slice A n c) (some mb)) w wy)
    case first =>
      go_region_law
        ((refine step_append_lies _ (by rfl) _ _ _ (by rfl) 0 72 i72 _ 3 48 Tryd.underlying33 hi hz0 hz1 hz2 rfl (by omega) (.slice A n c) n _ (by rfl) ((hownx.alloc _).drew) ⟨wx.heap.size, 0, none⟩ 1 1 [.bool od, .string ot, .slice Ae ne ce] (by rfl) (by rfl) (World.news_of_block (cs := #[.bool od, .string ot, .slice Ae ne ce]) (t := 72) (fr := (0, 0)) (heap_alloc_new wx _)) (by simp [Value.oneCell']) (by omega) (by unfold maxLen; omega) (by omega) (by simp) (wx.heap.size + 1) (by simp) ?_; intro gg cap w2 hown2 hgrow hat hlt; have hFy := ((hFx.alloc (.cells #[.bool od, .string ot, .slice Ae ne ce] 72)).drew).grown hgrow (hFx.not_row hownx (by decide)); have z0 : w2.cell? ⟨p, 0, none⟩ = some (.slice A n c) := hFy.cell 0; have z1 := hFy.frozen 0))
      all_goals (go_wp2_with fail; go_meet)
      all_goals (case rel => exact add_fit hFx hKx hownx hmapx htx hat hgrow hown2 hFy hsx)
    case rest =>
      obtain ⟨g2, c2, hFy, hKy, howny, hat, hmapy, hty⟩ := hcut
      clear hFx hOx hKx hownx hmapx htx x0 x0' f0 o0 o1 o2
      obtain ⟨w3, hr3, hown3, hg3'⟩ := (hmapy.drew).update law68 Tryd.underlying34 (by unfold maxLen; omega) hkey (plainElem_int (q := .i64) (a := (n : Int) + 1) Tryd.underlying3 (WalkArith.wf_i64 (by omega)))
      have hg3 : wc.grownBy w3 (some mb) := ⟨hg3'.os, hg3'.tape, hg3'.output, hg3'.size, hg3'.block⟩
      have y0 : wc.cell? ⟨p, 0, none⟩ = some (.slice (some ⟨g2, 0, none⟩) (n + 1) c2) := hFy.cell 0
      have y1 : wc.cell? ⟨p, 1, none⟩ = some (.map (some mb)) := hFy.cell 1
      have k0 : wc.cell? ⟨w.heap.size, 0, none⟩ = some (.bool od) := hKy.cell 0
      have k1 : wc.cell? ⟨w.heap.size, 1, none⟩ = some (.string S) := hKy.cell 1
      have hF3 := hFy.grown hg3 (fun e => map_not_full hmapy hFy (by injection e))
      have j0 : w3.cell? ⟨p, 0, none⟩ = some (.slice (some ⟨g2, 0, none⟩) (n + 1) c2) := hF3.cell 0
      have ho3 := owns_keep (w' := w3) howny (fun g hg => hg3.block g (owns_lt howny g hg) (fun e => map_not_row hmapy howny (by rw [hg, e])))
      have hsm := hD.snoc (o := (od, ot, oe)) (klOf_key _) hnew
      rw [hn'] at hsm
      have ht3 : Turn (Own p (.slice A n c) (some mb)) w w3 := hty.late (Turn.grown (F := fun g => g = mb) hg3 (fun g e => .inl (by injection e with e; exact e.symm))) (fun g e => by subst e; exact hmbx.imp (fun e => .inr (.inr e)) id)
      have hfin := HG.out w3 (.slice (some ⟨g2, 0, none⟩) (n + 1) c2) mb _ ht3 hF3 ho3 (hat.imp id fun h => ⟨g2, rfl, h⟩) hmbx hown3 hsm
      have HFIN := Lib.hid hfin
      clear hfin hF3 hFy hKy howny hat hmapy hty hown3 ho3 hsm ht3 hg3 hg3'
      go_wp2_with fail
      go_region
      all_goals
        go_wp2
        go_ret
        exact ⟨rfl, HFIN.out⟩
end Go.Proofs.YthnlldojidocoaaDoor
