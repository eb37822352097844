/- The reference's Text and Entries. -/
import Derived.Test.YthnlldojidocoaaDoorRefBlob
import Derived.Test.YthnlldojidocoaaDoorText
namespace Go.Proofs.YthnlldojidocoaaDoor
open Go.RowKit Go.Maps

/-- the object with this number, as it lies in the reference's store -/
theorem ref_at {B : Nat} {w : World} {p : Nat} {os : List Ob} {F : Nat → Prop} {v : Value} {In : Nat → Prop} (h : RefH B w p os F v In) {k : Nat} (hk : k < os.length) :
    ∃ ld c Ae ce, v = .slice (some ld) os.length c ∧ os.length ≤ c ∧ w.cell? (ld.add (k * 3)) = some (.bool os[k].1) ∧ w.cell? ⟨(ld.add (k * 3)).block, (ld.add (k * 3)).off + 1, none⟩ = some (.string os[k].2.1) ∧
      w.cell? ⟨(ld.add (k * 3)).block, (ld.add (k * 3)).off + 2, none⟩ = some (.slice Ae os[k].2.2.length ce) ∧ Ents w w.heap.size Ae ce os[k].2.2 := by
  obtain ⟨vs, hvl, hown, hents⟩ := h.obs
  obtain ⟨A, c, rfl⟩ := own_form hown
  have hkv : k < vs.length := by omega
  obtain ⟨Ae, ce, hu, hr⟩ := hents k os[k] vs[k] (List.getElem?_eq_getElem hk) (List.getElem?_eq_getElem hkv)
  have t0 := obsC_at hvl hk (j := 0) (by omega)
  have t1 := obsC_at hvl hk (j := 1) (by omega)
  have t2 := obsC_at hvl hk (j := 2) (by omega)
  rw [hu] at t0 t1 t2
  have hR : Row w w.heap.size 3 A os.length c (obsC os vs) := Row.own hown
  obtain ⟨ld, rfl, _, z0, z1, z2⟩ := row3 hR t0 t1 t2
  exact ⟨ld, c, Ae, ce, rfl, hR.2.1, z0, z1, z2, hr.row fun g hg => (h.in_ g (h.inn g hg).1).2⟩
theorem ref_form {B : Nat} {w : World} {p : Nat} {os : List Ob} {F : Nat → Prop} {v : Value} {In : Nat → Prop} (h : RefH B w p os F v In) : ∃ A c, v = .slice A os.length c := by
  obtain ⟨vs, hvl, hown, hents⟩ := h.obs
  exact own_form hown

set_option maxRecDepth 100000 in
set_option maxHeartbeats 2000000 in
theorem refText_any {B : Nat} {w : World} {p : Nat} {os : List Ob} {F : Nat → Prop} (h : IsRef B w p os F) (hn : os.length ≤ 1073741824) (id : Int) (hid : (Lit.int .i64 id).wf = true) :
    Calls Tryd.prog 30 #[.pointer (some ⟨p, 0, none⟩), .int .i64 id] w fun e w' => e = .returned (.tuple #[.string ((textR os id).getD ⟨#[]⟩), .bool (textR os id).isSome]) ∧ w = w' := by
  obtain ⟨v, In, h⟩ := h
  have hb := bd_i64 hid
  by_cases h1 : id < 1
  · have hr : textR os id = none := by unfold textR getO; rw [if_neg (by omega)]
    rw [hr]
    clear h hr
    go_enter Tryd.func30, Tryd.ntmps30
    go_wp2
    go_ret2
    exact ⟨rfl, rfl⟩
  · obtain ⟨k, rfl⟩ : ∃ k : Nat, id = (k : Int) + 1 := ⟨(id - 1).toNat, by omega⟩
    by_cases h2 : k < os.length
    · obtain ⟨ld, c, Ae, ce, rfl, hc, z0, z1, z2, _⟩ := ref_at h h2
      have c0 : w.cell? ⟨p, 0, none⟩ = some (.slice (some ld) os.length c) := h.full.cell 0
      obtain ⟨o, ho⟩ : ∃ o, os[k] = o := ⟨_, rfl⟩
      have hr : textR os ((k : Int) + 1) = if o.1 then none else some o.2.1 := by
        unfold textR getO
        rw [if_pos (by omega), show ((k : Int) + 1 - 1).toNat = k by omega, List.getElem?_eq_getElem h2, ho]
      rw [ho] at z0 z1 z2
      rw [hr]
      obtain ⟨n, hnn⟩ : ∃ n, os.length = n := ⟨_, rfl⟩
      rw [hnn] at c0 hc hn h2
      obtain ⟨od, ot, oe⟩ := o
      dsimp only at z0 z1 z2 ⊢
      have g1 : ¬ (k : Int) + 1 < 1 := by omega
      have g2 : ¬ (n : Int) < (k : Int) + 1 := by omega
      have g3 : IntKind.i64.wrap ((k : Int) + 1 - 1) = (k : Int) := by simp [IntKind.wrap, IntKind.bits, IntKind.signed]; omega
      have g4 : IntKind.i64.wrap (k : Int) = (k : Int) := by simp [IntKind.wrap, IntKind.bits, IntKind.signed]; omega
      have hi0 : (0 : Int) ≤ (k : Int) := Int.natCast_nonneg _
      have hi1 : (k : Int) < (n : Int) := by omega
      clear h ho hr hnn hid hb h1
      cases od
      all_goals
        go_enter Tryd.func30, Tryd.ntmps30
        go_wp2
        go_ret2
        exact ⟨rfl, rfl⟩
    · obtain ⟨A, c, rfl⟩ := ref_form h
      have c0 : w.cell? ⟨p, 0, none⟩ = some (.slice A os.length c) := h.full.cell 0
      have hr : textR os ((k : Int) + 1) = none := by
        unfold textR getO
        rw [if_pos (by omega), show ((k : Int) + 1 - 1).toNat = k by omega, List.getElem?_eq_none (by omega)]
      rw [hr]
      obtain ⟨n, hnn⟩ : ∃ n, os.length = n := ⟨_, rfl⟩
      rw [hnn] at c0 hn h2
      have g1 : ¬ (k : Int) + 1 < 1 := by omega
      have g2 : (n : Int) < (k : Int) + 1 := by omega
      clear h hr hnn
      go_enter Tryd.func30, Tryd.ntmps30
      go_wp2
      go_ret2
      exact ⟨rfl, rfl⟩

set_option maxRecDepth 100000 in
set_option maxHeartbeats 4000000 in
theorem refEnts_any {B : Nat} {w : World} {p : Nat} {os : List Ob} {F : Nat → Prop} (h : IsRef B w p os F) (hn : os.length ≤ 1073741824) (hsz : ∀ x ∈ os, x.2.2.length ≤ 1048576) (id : Int) (hid : (Lit.int .i64 id).wf = true) :
    Calls Tryd.prog 31 #[.pointer (some ⟨p, 0, none⟩), .int .i64 id] w (EntsOut w (entsR os id)) := by
  obtain ⟨v, In, h⟩ := h
  have hb := bd_i64 hid
  have hnone : ∀ w', Below w.heap.size w w' → RowF w' (fun g => w.heap.size ≤ g ∧ g < w'.heap.size) 3 none 0 0 (entsC []) := fun w' _ => ⟨rfl, Nat.le_refl _, fun _ => rfl, fun j u hj => by simp [entsC] at hj⟩
  unfold EntsOut
  by_cases h1 : id < 1
  · have hr : entsR os id = none := by unfold entsR getO; rw [if_neg (by omega)]
    rw [hr]
    clear h hr
    go_enter Tryd.func31, Tryd.ntmps31
    go_wp2
    go_ret2
    exact ⟨none, 0, rfl, hnone _ (Below.refl _ _), Below.refl _ _⟩
  · obtain ⟨k, rfl⟩ : ∃ k : Nat, id = (k : Int) + 1 := ⟨(id - 1).toNat, by omega⟩
    by_cases h2 : k < os.length
    · obtain ⟨ld, c, Ae, ce, rfl, hc, z0, z1, z2, hE⟩ := ref_at h h2
      have c0 : w.cell? ⟨p, 0, none⟩ = some (.slice (some ld) os.length c) := h.full.cell 0
      have hol := hsz _ (List.getElem_mem h2)
      obtain ⟨o, ho⟩ : ∃ o, os[k] = o := ⟨_, rfl⟩
      have hr : entsR os ((k : Int) + 1) = if o.1 then some o.2.2 else none := by
        unfold entsR getO
        rw [if_pos (by omega), show ((k : Int) + 1 - 1).toNat = k by omega, List.getElem?_eq_getElem h2, ho]
      rw [ho] at z0 z1 z2 hE hol
      rw [hr]
      obtain ⟨n, hnn⟩ : ∃ n, os.length = n := ⟨_, rfl⟩
      rw [hnn] at c0 hc hn h2
      obtain ⟨od, ot, oe⟩ := o
      dsimp only at z0 z1 z2 hE hol ⊢
      have g1 : ¬ (k : Int) + 1 < 1 := by omega
      have g2 : ¬ (n : Int) < (k : Int) + 1 := by omega
      have g3 : IntKind.i64.wrap ((k : Int) + 1 - 1) = (k : Int) := by simp [IntKind.wrap, IntKind.bits, IntKind.signed]; omega
      have g4 : IntKind.i64.wrap (k : Int) = (k : Int) := by simp [IntKind.wrap, IntKind.bits, IntKind.signed]; omega
      have hi0 : (0 : Int) ≤ (k : Int) := Int.natCast_nonneg _
      have hi1 : (k : Int) < (n : Int) := by omega
      cases od with
      | false =>
        clear h ho hr hnn hid hb h1
        go_enter Tryd.func31, Tryd.ntmps31
        go_wp2
        go_ret2
        exact ⟨none, 0, rfl, hnone _ (Below.refl _ _), Below.refl _ _⟩
      | true =>
        rw [if_pos rfl, Option.getD_some, Option.isSome_some]
        obtain ⟨i48, hi, hz0, hz1, hz2⟩ := info_parts info48
        have hb0 : Below w.heap.size w (w.alloc (.cells #[] 48)) := (Below.refl _ w).alloc (Nat.le_refl _) _
        have hW : (w.alloc (.cells #[] 48)).ownsRow w.heap.size 48 3 (.slice (some ⟨w.heap.size, 0, none⟩) 0 0) 0 [] := World.ownsRow_made w #[] 0 (Nat.le_refl _) (by unfold maxLen; omega) rfl
        have hl3 : (entsC oe).length = oe.length * 3 := entsC_len oe
        have hlt : ∀ a : Addr, (∃ u, w.cell? a = some u) → a.block < w.heap.size := fun a ⟨u, hu⟩ => World.block_lt_of_cell? w _ hu
        have y0 := (World.cell?_alloc_lt w (.cells #[] 48) ⟨p, 0, none⟩ (hlt _ ⟨_, c0⟩)).trans c0
        have y1 := (World.cell?_alloc_lt w (.cells #[] 48) (ld.add (k * 3)) (hlt _ ⟨_, z0⟩)).trans z0
        have y2 := (World.cell?_alloc_lt w (.cells #[] 48) ⟨(ld.add (k * 3)).block, (ld.add (k * 3)).off + 2, none⟩ (hlt _ ⟨_, z2⟩)).trans z2
        have hEw := Row.below hE hb0 (Nat.le_refl _)
        obtain ⟨ne, hne⟩ : ∃ ne, oe.length = ne := ⟨_, rfl⟩
        have HNE := Lib.hid hne
        rw [hne] at z2 y2 hl3 hol ⊢
        cases Ae with
        | none =>
          have hce : ce = 0 := hE.2.2.1 rfl
          have hn0 : ne = 0 := by have := hE.2.1; omega
          subst hce hn0
          have hoe : oe = [] := List.eq_nil_of_length_eq_zero hne
          subst hoe
          clear h ho hr hnn hid hb h1 hlt hE hEw hne
          go_enter Tryd.func31, Tryd.ntmps31
          go_wp2
          go_ret2
          exact ⟨some ⟨w.heap.size, 0, none⟩, 0, rfl, ⟨rfl, Nat.le_refl _, fun e => (by cases e), fun j u hj => by simp [entsC] at hj⟩, hb0⟩
        | some ad =>
          have hcells : ∀ j u, (entsC oe)[j]? = some u → (w.alloc (.cells #[] 48)).cell? (ad.add j) = some u := fun j u hj => by
            obtain ⟨ad', e, _, hc⟩ := hEw.2.2.2 j u hj
            have e := Option.some.inj e
            rw [e]
            exact hc
          have hec := hE.2.1
          clear h ho hr hnn hid hb h1 hlt hE hEw hne
          go_enter Tryd.func31, Tryd.ntmps31
          go_wp2_with (at_builtin; refine wpList_append_own_at _ rfl _ _ 46 rfl w.heap.size 48 i48 _ 3 32 Tryd.underlying46 hi hz0 hz1 hz2 rfl (by decide) (.slice (some ⟨w.heap.size, 0, none⟩) 0 0) 0 [] rfl hW ad ne ce (entsC oe) rfl hl3 hcells (entsC_one oe) (by unfold maxLen; omega) (by omega) (by simp) ?_; intro v' w5 hown5 hgrow5 _ hloc; rw [Nat.zero_add, List.nil_append] at hown5; obtain ⟨A5, c5, rfl⟩ := own_form hown5)
          go_ret2
          exact ⟨A5, c5, rfl, owns_row hown5 (fun g hg => ⟨row_ge hown5 g hg, owns_lt hown5 g hg⟩), hb0.grown hgrow5 (by simp) (fun j e => by have e' : w.heap.size = j := (by simpa [Value.ownBlock] using e); omega)⟩
    · obtain ⟨A, c, rfl⟩ := ref_form h
      have c0 : w.cell? ⟨p, 0, none⟩ = some (.slice A os.length c) := h.full.cell 0
      have hr : entsR os ((k : Int) + 1) = none := by
        unfold entsR getO
        rw [if_pos (by omega), show ((k : Int) + 1 - 1).toNat = k by omega, List.getElem?_eq_none (by omega)]
      rw [hr]
      obtain ⟨n, hnn⟩ : ∃ n, os.length = n := ⟨_, rfl⟩
      rw [hnn] at c0 hn h2
      have g1 : ¬ (k : Int) + 1 < 1 := by omega
      have g2 : (n : Int) < (k : Int) + 1 := by omega
      clear h hr hnn
      go_enter Tryd.func31, Tryd.ntmps31
      go_wp2
      go_ret2
      exact ⟨none, 0, rfl, hnone _ (Below.refl _ _), Below.refl _ _⟩
end Go.Proofs.YthnlldojidocoaaDoor
