/- The reference's put. -/
import Derived.Test.YthnlldojidocoaaDoorGrow
import Derived.Test.YthnlldojidocoaaDoorAdd
import Derived.Test.YthnlldojidocoaaDoorSame
namespace Go.Proofs.YthnlldojidocoaaDoor
open Go.RowKit Go.Maps

def Own2 (p : Nat) (v : Value) (g : Nat) : Prop := g = p ∨ v.ownBlock = some g
theorem RefH.grow {B : Nat} {w w' : World} {p : Nat} {os : List Ob} {F G : Nat → Prop} {v v' u : Value} {In : Nat → Prop} {o : Ob} {vs : List Value}
    (h : RefH B w p os F v In) (ht : Turn (Own2 p v) w w') (hG : ∀ g, G g → ¬ F g ∧ B ≤ g ∧ g < w.heap.size) (hvl : vs.length = os.length)
    (hents : ∀ (i : Nat) (o : Ob) (u : Value), os[i]? = some o → vs[i]? = some u → EntsF w In u o.2.2) (hu : EntsF w G u o.2.2)
    (hfull : Full w' p 29 [v']) (hown' : w'.ownsRow 0 79 3 v' (os.length + 1) (obsC os vs ++ obC (o, u)))
    (hv' : v.ownBlock = v'.ownBlock ∨ ∃ g, v'.ownBlock = some g ∧ w.heap.size ≤ g) :
    ∃ F', IsRef B w' p (os ++ [o]) F' ∧ Turn F w w' ∧ ∀ g, F' g → F g ∨ G g ∨ w.heap.size ≤ g := by
  have hOF : ∀ g, Own2 p v g → F g := by
    rintro g (rfl | hg)
    · exact h.self
    · exact (h.row g hg).1
  have hpB := h.in_ p h.self
  have hsz := ht.size
  have hvn : ∀ g, v'.ownBlock = some g → (F g ∧ g ≠ p) ∨ w.heap.size ≤ g := fun g hg => by
    rcases hv' with e | ⟨g', e, hl⟩
    · exact .inl (h.row g (e.trans hg))
    · rw [e] at hg; injection hg with hg; subst hg; exact .inr hl
  refine ⟨fun g => F g ∨ G g ∨ (w.heap.size ≤ g ∧ g < w'.heap.size), ⟨v', fun g => In g ∨ G g, ?_⟩, ht.mono hOF, fun g hg => hg.imp id (Or.imp id And.left)⟩
  have hkeep : ∀ g, In g ∨ G g → w'.heap[g]? = w.heap[g]? := by
    rintro g (hg | hg)
    · obtain ⟨h1, h2, h3⟩ := h.inn g hg
      exact ht.block g (h.in_ g h1).2 (fun e => e.elim h2 h3)
    · obtain ⟨h1, _, h3⟩ := hG g hg
      exact ht.block g h3 fun e => h1 (hOF g e)
  exact {
    full := hfull
    obs := obs_grow hvl hents hu hown' hkeep
    inn := by
      rintro g (hg | hg)
      · obtain ⟨h1, h2, h3⟩ := h.inn g hg
        have hgl := (h.in_ g h1).2
        refine ⟨.inl h1, h2, fun e => ?_⟩
        rcases hv' with e' | ⟨g', e', hl⟩
        · exact h3 (e'.trans e)
        · rw [e'] at e; injection e with e; omega
      · obtain ⟨h1, h2, h3⟩ := hG g hg
        refine ⟨.inr (.inl hg), fun e => h1 (e ▸ h.self), fun e => ?_⟩
        rcases hvn g e with e' | e'
        · exact h1 e'.1
        · omega
    self := .inl h.self
    row := fun g hg => by
      rcases hvn g hg with ⟨h1, h2⟩ | h1
      · exact ⟨.inl h1, h2⟩
      · exact ⟨.inr (.inr ⟨h1, owns_lt hown' g hg⟩), by omega⟩
    in_ := by
      rintro g (hg | hg | hg)
      · exact ⟨(h.in_ g hg).1, by have := (h.in_ g hg).2; omega⟩
      · exact ⟨(hG g hg).2.1, by have := (hG g hg).2.2; omega⟩
      · exact ⟨by omega, hg.2⟩ }
theorem num_first {os : List Ob} {o : Ob} (hnd : os.Nodup) {k : Nat} (hk : k < os.length) (h : os[k] = o) : num os o = k + 1 ∧ put os o = os := by
  have hm : o ∈ os := by rw [← h]; exact List.getElem_mem hk
  obtain ⟨i, hi, hn⟩ := num_at hm
  obtain ⟨hil, hie⟩ := List.getElem?_eq_some_iff.1 hi
  have : i = k := (List.getElem_inj hnd).1 (hie.trans h.symm)
  exact ⟨by rw [hn, this], by unfold put; rw [if_pos hm]⟩
theorem info79 : (Tryd.prog.info? 79).map (fun i => (i.zero, i.size, i.bytes)) = some (some (.agg #[.bool false, .string ⟨#[]⟩, .slice none 0 0]), 3, 48) := by kernel_rfl
theorem ref_fit {w wx w2 : World} {p n c g2 c2 : Nat} {A : Option Addr} {xs ys : List Value} {ob : Obj}
    (hFx : Full wx p 29 [.slice A n c]) (hownx : wx.ownsRow 0 79 3 (.slice A n c) n xs) (htx : Turn (Own2 p (.slice A n c)) w wx) (hat : (Value.slice A n c).ownBlock = some g2 ∨ g2 = wx.heap.size + 1)
    (hgrow : ((wx.alloc ob).drew).grownBy w2 (Value.slice A n c).ownBlock) (hown2 : w2.ownsRow 0 79 3 (.slice (some ⟨g2, 0, none⟩) (n + 1) c2) (n + 1) (xs ++ ys)) (hFy : Full w2 p 29 [.slice A n c]) (hsx : w.heap.size ≤ wx.heap.size) :
    Full (w2.setCell ⟨p, 0, none⟩ (.slice (some ⟨g2, 0, none⟩) (n + 1) c2)) p 29 [.slice (some ⟨g2, 0, none⟩) (n + 1) c2] ∧
      (w2.setCell ⟨p, 0, none⟩ (.slice (some ⟨g2, 0, none⟩) (n + 1) c2)).ownsRow 0 79 3 (.slice (some ⟨g2, 0, none⟩) (n + 1) c2) (n + 1) (xs ++ ys) ∧ ((Value.slice A n c).ownBlock = some g2 ∨ w.heap.size ≤ g2) ∧
      Turn (Own2 p (.slice A n c)) w (w2.setCell ⟨p, 0, none⟩ (.slice (some ⟨g2, 0, none⟩) (n + 1) c2)) := by
  have hpr := hFy.not_row hown2 (by decide)
  have hwx := htx.size
  refine ⟨hFy.set_ 0 _, owns_keep hown2 (fun g hg => Below.heap_setCell _ _ _ g (fun e => hpr (by rw [hg, e]))), hat.imp id (fun e => by omega), ?_⟩
  have h1 : Turn (Own2 p (.slice A n c)) w (wx.alloc ob).drew := htx.late (G := fun _ => False) (Turn.of (((Below.refl _ wx).alloc (Nat.le_refl _) ob).drew)) (fun g h => h.elim)
  have h2 : Turn (Own2 p (.slice A n c)) w w2 := h1.late (Turn.grown (F := fun g => (Value.slice A n c).ownBlock = some g) hgrow (fun g e => .inl e)) (fun g e => .inl (.inr e))
  exact h2.late (Turn.set_ (F := fun g => g = p) (a := ⟨p, 0, none⟩) rfl _) (fun g e => .inl (.inl e))

def RefPut (B : Nat) (w : World) (p : Nat) (os : List Ob) (F G : Nat → Prop) (o : Ob) (e : Ending) (w' : World) : Prop :=
  e = .returned (.int .i64 (num os o : Int)) ∧ ∃ F', IsRef B w' p (put os o) F' ∧ Turn F w w' ∧ ∀ g, F' g → F g ∨ G g ∨ w.heap.size ≤ g

set_option maxRecDepth 100000 in
set_option maxHeartbeats 8000000 in
theorem put_any {B : Nat} {w : World} {p : Nat} {os : List Ob} {F : Nat → Prop} {v : Value} {In : Nat → Prop} (h : RefH B w p os F v In) (hn : os.length ≤ 1048576) (hnd : os.Nodup) (hsz : ∀ x ∈ os, x.2.2.length ≤ 1048576) (o : Ob) (G : Nat → Prop)
    (hG : ∀ g, G g → ¬ F g ∧ B ≤ g ∧ g < w.heap.size) (Ae : Option Addr) (ce : Nat) (hu : EntsF w G (.slice Ae o.2.2.length ce) o.2.2) (hol : o.2.2.length ≤ 1048576) :
    Calls Tryd.prog 37 #[.pointer (some ⟨p, 0, none⟩), .agg #[.bool o.1, .string o.2.1, .slice Ae o.2.2.length ce]] w (RefPut B w p os F G o) := by
  have HH := Lib.hid h
  obtain ⟨vs, hvl, hown, hents⟩ := h.obs
  obtain ⟨A, c, rfl⟩ := own_form hown
  have HG := Lib.hid (fun (w' : World) (v' : Value) ht hfull hown' hv' => h.grow (w' := w') (G := G) (v' := v') (o := o) (u := .slice Ae o.2.2.length ce) ht hG hvl hents hu hfull hown' hv')
  have hpB := h.in_ p h.self
  have hF := h.full
  have hcap : os.length ≤ c := (Row.own hown).2.1
  have HENT := Lib.hid (fun (i : Nat) (x : Ob) (hx : os[i]? = some x) (u : Value) (hy : vs[i]? = some u) => (show ∃ A c, u = .slice A x.2.2.length c ∧ Ents w w.heap.size A c x.2.2 from by
    obtain ⟨A, c, e, hr⟩ := hents i x u hx hy
    exact ⟨A, c, e, hr.row fun g hg => (h.in_ g (h.inn g hg).1).2⟩))
  have HU : Hid (Ents w w.heap.size Ae ce o.2.2) := Lib.hid (by
    obtain ⟨A', c', e, hr⟩ := hu
    injection e with e1 _ e3
    subst e1 e3
    exact hr.row fun g hg => (hG g hg).2.2)
  have HVL := Lib.hid hvl
  have HSZ := Lib.hid hsz
  have HND := Lib.hid hnd
  have HOWN := Lib.hid hown
  obtain ⟨i79, hi, hz0, hz1, hz2⟩ := info_parts info79
  obtain ⟨od, ot, oe⟩ := o
  dsimp only at *
  obtain ⟨ne, hne⟩ : ∃ ne, oe.length = ne := ⟨_, rfl⟩
  have HNE := Lib.hid hne
  rw [hne] at HG hol ⊢
  obtain ⟨n, hn'⟩ : ∃ n, os.length = n := ⟨_, rfl⟩
  have HNN := Lib.hid hn'
  rw [hn'] at hF hn hcap HG HOWN
  have hb1 : Below w.heap.size w (w.alloc (.cells #[.bool od, .string ot, .slice Ae ne ce] 79)) := (Below.refl _ w).alloc (Nat.le_refl _) _
  have hO1 := Full.new w 79 [.bool od, .string ot, .slice Ae ne ce]
  obtain ⟨w1, hw1⟩ : ∃ w1, w.alloc (.cells #[.bool od, .string ot, .slice Ae ne ce] 79) = w1 := ⟨_, rfl⟩
  have hs1 : w1.heap.size = w.heap.size + 1 := by rw [← hw1]; simp
  have HS1 := Lib.hid hs1
  have hF1' := hF.on hb1
  have hO1' : Full (w.alloc (.cells #[.bool od, .string ot, .slice Ae ne ce] 79)) w.heap.size 79 [.bool od, .string ot, .slice Ae ne ce] := hO1
  rw [hw1] at hb1 hO1' hF1'
  obtain ⟨bo, hbo⟩ : ∃ bo, w.heap.size = bo := ⟨_, rfl⟩
  have HBO := Lib.hid hbo
  rw [hbo] at hO1'
  have l0 : w1.cell? ⟨p, 0, none⟩ = some (.slice A n c) := hF1'.cell 0
  have o0 : w1.cell? ⟨bo, 0, none⟩ = some (.bool od) := hO1'.cell 0
  have o1 : w1.cell? ⟨bo, 1, none⟩ = some (.string ot) := hO1'.cell 1
  have o2 : w1.cell? ⟨bo, 2, none⟩ = some (.slice Ae ne ce) := hO1'.cell 2
  have HB1 := Lib.hid hb1
  have HF1 := Lib.hid hF1'
  have HO1 := Lib.hid hO1'
  clear h hvl hown hents hF hu hG hsz hnd hO1 hn' hs1 hne hb1 hF1' hO1'
  unfold RefPut
  obtain ⟨rn, HRN⟩ : ∃ r, Hid (num os (od, ot, oe) = r) := ⟨_, Lib.hid rfl⟩
  obtain ⟨os', HPN⟩ : ∃ r, Hid (put os (od, ot, oe) = r) := ⟨_, Lib.hid rfl⟩
  rw [HRN.out, HPN.out]
  have HREF : Hid (IsRef B w p os F) := Lib.hid ⟨_, _, HH.out⟩
  go_enter Tryd.func37, Tryd.ntmps37
  go_wp2
  go_loopw [5] (fun v5 wr => ∃ k q : Nat, k ≤ n ∧ v5 = .int .i64 (k : Int) ∧ wr = w1.drewN q ∧ Hid (∀ j (h : j < os.length), j < k → os[j] ≠ (od, ot, oe))) (fun v5 _ => n - (intOf v5).toNat)
  case atStart => exact ⟨0, 0, by omega, rfl, rfl, Lib.hid (fun j _ hj => by omega)⟩
  case round =>
    obtain ⟨k, q, hk, rfl, hwr, HK⟩ := hrel
    have hi0 : (0 : Int) ≤ (k : Int) := Int.natCast_nonneg _
    have HWR := Lib.hid hwr
    have hBr : Below w.heap.size w wr := by rw [hwr]; exact Below.drewN_ HB1.out q
    have hFr : Full wr p 29 [.slice A n c] := by rw [hwr]; exact HF1.out.drewN q
    have hOr : Full wr bo 79 [.bool od, .string ot, .slice Ae ne ce] := by rw [hwr]; exact HO1.out.drewN q
    have l0r : wr.cell? ⟨p, 0, none⟩ = some (.slice A n c) := hFr.cell 0
    have o0r : wr.cell? ⟨bo, 0, none⟩ = some (.bool od) := hOr.cell 0
    have o1r : wr.cell? ⟨bo, 1, none⟩ = some (.string ot) := hOr.cell 1
    have o2r : wr.cell? ⟨bo, 2, none⟩ = some (.slice Ae ne ce) := hOr.cell 2
    clear l0 o0 o1 o2 hwr
    by_cases hlt : k < n
    · have hi1 : (k : Int) < (n : Int) := by omega
      have hkl : k < os.length := by have := HNN.out; omega
      have hkv : k < vs.length := by have := HVL.out; omega
      obtain ⟨x, hx⟩ : ∃ x, os[k] = x := ⟨_, rfl⟩
      obtain ⟨Ax, cx, hux, hEx⟩ := HENT.out k x (by rw [List.getElem?_eq_getElem hkl, hx]) vs[k] (List.getElem?_eq_getElem hkv)
      have t0 := obsC_at HVL.out hkl (j := 0) (by omega)
      have t1 := obsC_at HVL.out hkl (j := 1) (by omega)
      have t2 := obsC_at HVL.out hkl (j := 2) (by omega)
      rw [hx, hux] at t0 t1 t2
      obtain ⟨ld, hL, hlb, z0, z1, z2⟩ := row3 (Row.own (own_keep HOWN.out hBr)) t0 t1 t2
      subst hL
      have hxl := HSZ.out x (by rw [← hx]; exact List.getElem_mem hkl)
      have HX := Lib.hid hx
      obtain ⟨xd, xt, xe⟩ := x
      dsimp only at z0 z1 z2 hxl hEx
      have SM := Lib.hid (fun m => same_any w.heap.size w.heap.size Ax Ae xe oe cx ce (wr.drewN m) (Row.below hEx (Below.drewN_ hBr m) (Nat.le_refl _)) (Row.below HU.out (Below.drewN_ hBr m) (Nat.le_refl _)) hxl (by have := HNE.out; omega))
      obtain ⟨nx, hnx⟩ : ∃ nx, xe.length = nx := ⟨_, rfl⟩
      rw [hnx] at z2 SM
      have SM2 : Hid (∀ m, Calls Tryd.prog 25 #[.slice Ax nx cx, .slice Ae ne ce] (wr.drewN m) fun e w' => e = .returned (.bool (decide (xe = oe))) ∧ ∃ q', w' = (wr.drewN m).drewN q') := Lib.hid (fun m => by have := SM.out m; rw [HNE.out] at this; exact this)
      clear hx hux t0 t1 t2 hlb hEx hxl hnx SM
      by_cases hd : xd = od
      · subst hd
        have bd : (xd == xd) = true := by cases xd <;> rfl
        by_cases ht : xt = ot
        · subst ht
          have bt : (xt.toList == xt.toList) = true := by simp
          by_cases he : xe = oe
          · rw [decide_eq_true he] at SM2
            subst he
            obtain ⟨h1, h2⟩ := num_first HND.out hkl HX.out
            have HFIN : Hid (rn = k + 1 ∧ os' = os) := Lib.hid ⟨HRN.out.symm.trans h1, HPN.out.symm.trans h2⟩
            clear h1 h2
            go_wp2_with fail
            go_quiet ((go_at_call 25; exact Calls.quiet_of (SM2.out _)))
            go_wp2
            go_ret
            rw [HFIN.out.1, HFIN.out.2]
            exact ⟨rfl, F, HREF.out.on (Below.drewN_ hBr _), Turn.of (Below.drewN_ hBr _), fun g hg => .inl hg⟩
          · rw [decide_eq_false he] at SM2
            have HNO : Hid (os[k] ≠ (xd, xt, oe)) := Lib.hid (by rw [HX.out]; intro e; injection e with _ e; injection e with _ e; exact he e)
            go_wp2_with fail
            go_quiet ((go_at_call 25; exact Calls.quiet_of (SM2.out _)))
            go_wp2
            go_roundw
            case rel =>
              refine ⟨k + 1, _, by omega, by go_num, by rw [HWR.out, World.drewN_drewN], Lib.hid (fun j h hj => ?_)⟩
              rcases Nat.lt_or_ge j k with h' | h'
              · exact HK.out j h h'
              · obtain rfl : j = k := by omega
                exact HNO.out
            case measure => simp [intOf]; omega
        · have HNO : Hid (os[k] ≠ (xd, ot, oe)) := Lib.hid (by rw [HX.out]; intro e; injection e with _ e; injection e with e _; exact ht e)
          have bt1 : ¬ xt.toList = ot.toList := fun e => ht (eq_of_data e)
          have bt : (xt.toList == ot.toList) = false := by rw [beq_eq_false_iff_ne]; exact bt1
          clear ht
          go_wp2_with fail
          go_quiet (fail)
          go_wp2
          go_roundw
          case rel =>
            refine ⟨k + 1, _, by omega, by go_num, by rw [HWR.out, World.drewN_drewN], Lib.hid (fun j h hj => ?_)⟩
            rcases Nat.lt_or_ge j k with h' | h'
            · exact HK.out j h h'
            · obtain rfl : j = k := by omega
              exact HNO.out
          case measure => simp [intOf]; omega
      · have HNO : Hid (os[k] ≠ (od, ot, oe)) := Lib.hid (by rw [HX.out]; intro e; injection e with e _; exact hd e)
        cases xd <;> cases od
        case false.false => exact absurd rfl hd
        case true.true => exact absurd rfl hd
        all_goals
          clear hd
          go_wp2_with fail
          go_quiet (fail)
          go_wp2
          go_roundw
          case rel =>
            refine ⟨k + 1, _, by omega, by go_num, by rw [HWR.out, World.drewN_drewN], Lib.hid (fun j h hj => ?_)⟩
            rcases Nat.lt_or_ge j k with h' | h'
            · exact HK.out j h h'
            · obtain rfl : j = k := by omega
              exact HNO.out
          case measure => simp [intOf]; omega
    · obtain rfl : k = n := by omega
      have hnot : (od, ot, oe) ∉ os := by
        intro hm
        obtain ⟨j, hj, he⟩ := List.getElem_of_mem hm
        exact HK.out j hj (by have := HNN.out; omega) he
      have h1 := num_new hnot
      have h2 : put os (od, ot, oe) = os ++ [(od, ot, oe)] := by unfold put; rw [if_neg hnot]
      have HFIN : Hid (rn = k + 1 ∧ os' = os ++ [(od, ot, oe)]) := Lib.hid ⟨by rw [← HRN.out, h1, HNN.out], HPN.out.symm.trans h2⟩
      clear hnot h1 h2
      go_wp2_with fail
      obtain ⟨wx, hwx⟩ : ∃ wx, wr = wx := ⟨_, rfl⟩
      rw [hwx] at hBr hFr hOr
      have hBx := hBr
      have hFx := hFr
      have hOx := hOr
      have hownx := own_keep HOWN.out hBx
      rw [hwx]
      have x0 : wx.cell? ⟨p, 0, none⟩ = some (.slice A k c) := hFx.cell 0
      have f0 := hFx.frozen 0
      have x0' : (wx.alloc (.cells #[.bool od, .string ot, .slice Ae ne ce] 79)).cell? ⟨p, 0, none⟩ = some (.slice A k c) := (hFx.alloc _).cell 0
      have p0 : wx.cell? ⟨bo, 0, none⟩ = some (.bool od) := hOx.cell 0
      have p1 : wx.cell? ⟨bo, 1, none⟩ = some (.string ot) := hOx.cell 1
      have p2 : wx.cell? ⟨bo, 2, none⟩ = some (.slice Ae ne ce) := hOx.cell 2
      have hsx := hBx.size
      have htx : Turn (Own2 p (.slice A k c)) w wx := Turn.of hBx
      clear l0r o0r o1r o2r hwx hBr hFr hOr HWR
      go_region_law
        ((refine step_append_lies _ (by rfl) _ _ _ (by rfl) 0 79 i79 _ 3 48 Tryd.underlying27 hi hz0 hz1 hz2 rfl (by omega) (.slice A k c) k _ (by rfl) ((hownx.alloc _).drew) ⟨wx.heap.size, 0, none⟩ 1 1 [.bool od, .string ot, .slice Ae ne ce] (by rfl) (by rfl) (World.news_of_block (cs := #[.bool od, .string ot, .slice Ae ne ce]) (t := 79) (fr := (0, 0)) (heap_alloc_new wx _)) (by simp [Value.oneCell']) (by omega) (by unfold maxLen; omega) (by omega) (by simp) (wx.heap.size + 1) (by simp) ?_; intro gg cap w2 hown2 hgrow hat hlt2; have hFy := ((hFx.alloc (.cells #[.bool od, .string ot, .slice Ae ne ce] 79)).drew).grown hgrow (hFx.not_row hownx (by decide)); have y0 : w2.cell? ⟨p, 0, none⟩ = some (.slice A k c) := hFy.cell 0; have y1 := hFy.frozen 0))
      all_goals
        have hfit := ref_fit hFx hownx htx hat hgrow hown2 hFy hsx
        have j0 : (w2.setCell ⟨p, 0, none⟩ (.slice (some ⟨gg, 0, none⟩) (k + 1) cap)).cell? ⟨p, 0, none⟩ = some (.slice (some ⟨gg, 0, none⟩) (k + 1) cap) := hfit.1.cell 0
        go_wp2
        go_ret
        rw [HFIN.out.1, HFIN.out.2]
        exact ⟨rfl, HG.out _ _ hfit.2.2.2 hfit.1 hfit.2.1 (hfit.2.2.1.imp (fun e => by rw [e]; rfl) fun e => ⟨gg, rfl, e⟩)⟩
end Go.Proofs.YthnlldojidocoaaDoor
