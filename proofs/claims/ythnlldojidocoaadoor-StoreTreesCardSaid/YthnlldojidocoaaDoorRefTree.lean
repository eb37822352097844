/- The reference's Tree. -/
import Derived.Test.YthnlldojidocoaaDoorRefRead
import Derived.Test.YthnlldojidocoaaDoorRight
namespace Go.Proofs.YthnlldojidocoaaDoor
open Go.RowKit Go.Maps

set_option maxRecDepth 100000 in
set_option maxHeartbeats 2000000 in
theorem refTree_bad {B : Nat} {w : World} {p : Nat} {os : List Ob} {F : Nat → Prop} (h : IsRef B w p os F) (hn : os.length ≤ 1073741824)
    (M : Nat) (A : Option Addr) (es : List Ent) (c : Nat) (hA : Ents w M A c es) (hM : M ≤ w.heap.size) (hS : SoundS es) (hl : es.length ≤ maxLen) (hok : treeOk os es = false) :
    Calls Tryd.prog 29 #[.pointer (some ⟨p, 0, none⟩), .slice A es.length c] w (TreeBad w) := by
  obtain ⟨v, In, h⟩ := h
  have C := right_any h (by omega) M A es c hA hM hS hl
  rw [hok] at C
  have HC := Lib.hid C
  clear h hA C hok hS hl
  go_enter Tryd.func29, Tryd.ntmps29
  go_wp2_with (go_at_call 23; ((with_reducible refine HC.out.mono ?_); rintro e w1 ⟨rfl, hb⟩))
  go_ret2
  exact ⟨rfl, hb⟩

set_option maxRecDepth 100000 in
set_option maxHeartbeats 4000000 in
theorem refTree_any {B : Nat} {w : World} {p : Nat} {os : List Ob} {F : Nat → Prop} (h : IsRef B w p os F) (hn : os.length ≤ 1048576) (hf : Fine os)
    (M : Nat) (A : Option Addr) (es : List Ent) (c : Nat) (hA : Ents w M A c es) (hM : M ≤ w.heap.size) (hS : SoundS es) (hl : es.length ≤ 1048576) (hok : treeOk os es = true) :
    Calls Tryd.prog 29 #[.pointer (some ⟨p, 0, none⟩), .slice A es.length c] w (RefOut B w p os F (treeO es)) := by
  obtain ⟨v, In, h⟩ := h
  have hsz : ∀ x ∈ os, x.2.2.length ≤ 1048576 := fun x hx => by
    cases hd : x.1 with
    | false => rw [((hf.ok x hx).1 hd).1]; simp
    | true => exact ((hf.ok x hx).2 hd).2.2
  have C := right_any h (by omega) M A es c hA hM hS (by unfold maxLen; omega)
  rw [hok] at C
  have HC := Lib.hid C
  have CP := Lib.hid (fun (W : World) (hW : Below w.heap.size w W) (A' : Option Addr) (c' : Nat) (G : Nat → Prop) (hG : ∀ g, G g → w.heap.size ≤ g ∧ g < W.heap.size) (hR : RowF W G 3 A' es.length c' (entsC es)) =>
    (show Calls Tryd.prog 37 #[.pointer (some ⟨p, 0, none⟩), .agg #[.bool true, .string ⟨#[]⟩, .slice A' es.length c']] W (RefPut B W p os F G (treeO es)) from
      put_any (h.on hW) hn hf.nodup hsz (treeO es) G (fun g hg => ⟨fun e => (by have := (h.in_ g e).2; have := (hG g hg).1; omega), by have := (h.in_ p h.self); have := (hG g hg).1; omega, (hG g hg).2⟩) A' c' ⟨A', c', rfl, hR⟩ hl))
  unfold RefOut
  unfold RefPut at CP
  obtain ⟨r, HR⟩ : ∃ r, Hid (num os (treeO es) = r) := ⟨_, Lib.hid rfl⟩
  obtain ⟨o2, HO⟩ : ∃ r, Hid (put os (treeO es) = r) := ⟨_, Lib.hid rfl⟩
  rw [HR.out, HO.out] at CP ⊢
  obtain ⟨i48, hi, hz0, hz1, hz2⟩ := info_parts info48
  have hl3 : (entsC es).length = es.length * 3 := entsC_len es
  have HROW := Lib.hid (fun (W : World) (hW : Below w.heap.size w W) => Row.below hA hW hM)
  have hcap := hA.2.1
  have hnil := hA.2.2.1
  have hFl := h.in_ p h.self
  have HF := Lib.hid (fun g => h.in_ g)
  obtain ⟨n, hnn⟩ : ∃ n, es.length = n := ⟨_, rfl⟩
  have HNN := Lib.hid hnn
  rw [hnn] at HC CP hl hl3 hcap ⊢
  cases A with
  | none =>
    have hce : c = 0 := hnil rfl
    have hn0 : n = 0 := by omega
    subst hce hn0
    have hes : es = [] := List.eq_nil_of_length_eq_zero hnn
    clear h hsz hf C hA hl3 hok hcap hnn hnil
    go_enter Tryd.func29, Tryd.ntmps29
    go_wp2_with (first
      | (go_at_call 23; ((with_reducible refine HC.out.mono ?_); rintro e w1 ⟨rfl, hb⟩; (have hb1 : Below w.heap.size w (w1.alloc (.cells #[] 48)) := hb.alloc hb.size _)))
      | (go_at_call 37; go_loud ((with_reducible refine (CP.out _ hb1 (some ⟨w1.heap.size, 0, none⟩) 0 (fun _ => False) (fun _ h => h.elim) ?_).mono ?_); (exact ⟨by rw [hes]; rfl, Nat.le_refl _, fun e => (by cases e), fun j u hj => by rw [hes] at hj; simp [entsC] at hj⟩); rintro e w5 ⟨rfl, F', hS, hT, hF⟩)))
    go_ret2
    exact ⟨rfl, F', hS, Goes.of_add hb1 hT hF (fun _ h => h.elim)⟩
  | some ad =>
    clear h hsz hf C hA hok hnn hnil
    go_enter Tryd.func29, Tryd.ntmps29
    go_wp2_with (first
      | (go_at_call 23; ((with_reducible refine HC.out.mono ?_); rintro e w1 ⟨rfl, hb⟩; (have hb1 : Below w.heap.size w (w1.alloc (.cells #[] 48)) := hb.alloc hb.size _); (have hW : (w1.alloc (.cells #[] 48)).ownsRow w1.heap.size 48 3 (.slice (some ⟨w1.heap.size, 0, none⟩) 0 0) 0 [] := World.ownsRow_made w1 #[] 0 (Nat.le_refl _) (by unfold maxLen; omega) rfl); (have hcells : ∀ j u, (entsC es)[j]? = some u → (w1.alloc (.cells #[] 48)).cell? (ad.add j) = some u := fun j u hj => (by obtain ⟨ad', e, _, hc⟩ := (HROW.out _ hb1).2.2.2 j u hj; have e := Option.some.inj e; rw [e]; exact hc))))
      | (at_builtin; refine wpList_append_own_at _ rfl _ _ 46 rfl w1.heap.size 48 i48 _ 3 32 Tryd.underlying46 hi hz0 hz1 hz2 rfl (by decide) (.slice (some ⟨w1.heap.size, 0, none⟩) 0 0) 0 [] rfl hW ad n c (entsC es) rfl hl3 hcells (entsC_one es) (by unfold maxLen; omega) (by omega) (by simp) ?_; intro v' w5 hown5 hgrow5 _ hloc; rw [Nat.zero_add, List.nil_append] at hown5; obtain ⟨A5, c5, rfl⟩ := own_form hown5)
      | (go_at_call 37; ((with_reducible refine (CP.out _ (hb1.grown hgrow5 (by have := hb.size; simp; omega) (fun j e => by have e' : w1.heap.size = j := (by simpa [Value.ownBlock] using e); have := hb.size; omega)) A5 c5 (fun g => w1.heap.size ≤ g ∧ g < w5.heap.size) (fun g h => ⟨Nat.le_trans hb.size h.1, h.2⟩) (owns_row hown5 (fun g hg => ⟨row_ge hown5 g hg, owns_lt hown5 g hg⟩))).mono ?_); rintro e w6 ⟨rfl, F', hS, hT, hF⟩)))
    go_ret2
    exact ⟨rfl, F', hS, Goes.of_add (hb1.grown hgrow5 (by have := hb.size; simp; omega) (fun j e => by have e' : w1.heap.size = j := (by simpa [Value.ownBlock] using e); have := hb.size; omega)) hT hF (fun g h => Nat.le_trans hb.size h.1)⟩
end Go.Proofs.YthnlldojidocoaaDoor
