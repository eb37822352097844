/- (*Store).Blob. -/
import Derived.Test.YthnlldojidocoaaDoorAdd
namespace Go.Proofs.YthnlldojidocoaaDoor
open Go.RowKit Go.Maps

theorem zero3 (w : World) : (zeroValue 3).run Tryd.prog w = .ok (.int .i64 0) w := by kernel_rfl
theorem entOk_small {os : List Ob} {e : Ent} (hn : os.length ≤ 1048576) (h : entOk os e = true) : entSmall e := by
  refine ⟨entOk_fit h, ?_, ?_⟩
  · unfold entOk nameOk at h
    simp only [Bool.and_eq_true] at h
    exact of_decide_eq_true h.1.1
  · obtain ⟨o, ho, _⟩ := entOk_dir h
    unfold getO at ho
    split at ho
    · have := (List.getElem?_eq_some_iff.1 ho).1
      exact WalkArith.wf_i64 (by omega)
    · cases ho
theorem treeOk_small {os : List Ob} {es : List Ent} (hn : os.length ≤ 1048576) (h : treeOk os es = true) : ∀ e ∈ es, entSmall e := by
  unfold treeOk at h
  rw [Bool.and_eq_true, List.all_eq_true] at h
  exact fun e he => entOk_small hn (h.2 e he)
theorem ident_size {os : List Ob} {o : Ob} (hn : os.length ≤ 1048576) (h : obOk os o) : (ident o).size ≤ maxLen := by
  obtain ⟨d, t, es⟩ := o
  unfold ident maxLen
  cases d with
  | false =>
    have := (h.1 rfl).2
    simp only at this ⊢
    simp; omega
  | true =>
    obtain ⟨_, h2, h3⟩ := h.2 rfl
    simp only at h2 h3 ⊢
    have := asB_len (treeOk_small hn h2)
    simp only [if_true]
    rw [str_size]; omega

/-- the look-up of what is there, and of what is not -/
theorem look_known {B : Nat} {w W : World} {p : Nat} {os : List Ob} {F : Nat → Prop} {v : Value} {m : Option Nat} {In : Nat → Prop} (h : StoreH B w p os F v m In) (hW : Below w.heap.size w W) (hn : os.length ≤ 1048576) {o : Ob} (ho : o ∈ os) :
    (Instr.lookup 34 (.map m) (keyV o) true).run Tryd.prog W = .ok (.tuple #[.int .i64 (num os o : Int), .bool true]) W := by
  have hk := keyOf_ob o (ident_size hn (h.fine.ok o ho))
  rcases h.map with ⟨_, rfl⟩ | ⟨b, D, rfl, _, hm, hD⟩
  · cases ho
  · have hmW := ownsMap_keep hm (hW.block b hm.lt)
    obtain ⟨v, ps, hr, hv⟩ := hmW.look_ok law68 Tryd.underlying34 (zero3 W) (plainElem_int (q := .i64) (a := 0) Tryd.underlying3 (by decide)) hk
    obtain ⟨i, hi, hnum⟩ := num_at ho
    obtain ⟨h1, h2⟩ := hD.2.1 i o hi
    rw [h2] at hv
    obtain ⟨c, rfl, hc, _⟩ := plainElem_int_inv Tryd.underlying3 hv
    have hc' : (DataW.lit (.int .i64 ((i : Int) + 1)) : DataW Unit) = .lit (.int .i64 c) := congrArg Prod.fst hc
    injection hc' with hc'
    injection hc' with _ hc'
    rw [hr, h1, ← hc', hnum]
    rfl
theorem look_new {B : Nat} {w W : World} {p : Nat} {os : List Ob} {F : Nat → Prop} {v : Value} {m : Option Nat} {In : Nat → Prop} (h : StoreH B w p os F v m In) (hW : Below w.heap.size w W) {o : Ob} (hid : (ident o).size ≤ maxLen) (hnew : ∀ x ∈ os, klOf x ≠ klOf o) :
    (Instr.lookup 34 (.map m) (keyV o) true).run Tryd.prog W = .ok (.tuple #[.int .i64 0, .bool false]) W := by
  have hk := keyOf_ob o hid
  rcases h.map with ⟨rfl, _⟩ | ⟨b, D, rfl, _, hm, hD⟩
  · exact Maps.look_nil true law68 Tryd.underlying34 (zero3 W) hk
  · have hmW := ownsMap_keep hm (hW.block b hm.lt)
    obtain ⟨v, ps, hr, hv⟩ := hmW.look_ok law68 Tryd.underlying34 (zero3 W) (plainElem_int (q := .i64) (a := 0) Tryd.underlying3 (by decide)) hk
    have h1 : has D (klOf o) = false := by
      rw [Bool.eq_false_iff]
      intro e
      obtain ⟨x, hx, hxe⟩ := hD.2.2 _ e
      exact hnew x hx hxe
    rw [atKey_of_not_has h1] at hv
    obtain ⟨c, rfl, hc, _⟩ := plainElem_int_inv Tryd.underlying3 hv
    have hc' : (DataW.lit (.int .i64 0) : DataW Unit) = .lit (.int .i64 c) := congrArg Prod.fst hc
    injection hc' with hc'
    injection hc' with _ hc'
    rw [hr, h1, ← hc']
theorem new_key {os : List Ob} {o : Ob} (hn : os.length ≤ 1048576) (hf : Fine os) (ho : obOk os o) (h : o ∉ os) : ∀ x ∈ os, klOf x ≠ klOf o := fun x hx e =>
  h (klOf_inj (hf.ok x hx) ho (ident_size hn (hf.ok x hx)) (ident_size hn ho) e ▸ hx)

/-- the object has its number, and the store has it -/
def PutOut (B : Nat) (w : World) (p : Nat) (os : List Ob) (F : Nat → Prop) (o : Ob) (e : Ending) (w' : World) : Prop :=
  e = .returned (.tuple #[.int .i64 (num os o : Int), .int .i64 0]) ∧ ∃ F', IsStore B w' p (put os o) F' ∧ Goes F w w' F'
theorem Goes.of_add {w w1 w2 : World} {F F' G : Nat → Prop} (hb : Below w.heap.size w w1) (ht : Turn F w1 w2) (hF : ∀ g, F' g → F g ∨ G g ∨ w1.heap.size ≤ g) (hG : ∀ g, G g → w.heap.size ≤ g) : Goes F w w2 F' where
  turn := (Turn.of hb).trans_ ht
  back := fun g hg => by
    have := hb.size
    rcases hF g hg with h | h | h
    · exact .inl h
    · exact .inr (hG g h)
    · exact .inr (by omega)

set_option maxRecDepth 100000 in
set_option maxHeartbeats 2000000 in
theorem blob_any {B : Nat} {w : World} {p : Nat} {os : List Ob} {F : Nat → Prop} (h : IsStore B w p os F) (hn : os.length ≤ 1048575) (t : ByteArray) (ht : t.size ≤ 65536) :
    Calls Tryd.prog 18 #[.pointer (some ⟨p, 0, none⟩), .string t] w (PutOut B w p os F (blobO t)) := by
  obtain ⟨v, m, In, h⟩ := h
  have hob : obOk os (blobO t) := obOk_blob ht
  have hb1 : Below w.heap.size w (w.alloc (.cells #[.bool false, .string t] 68)) := (Below.refl _ w).alloc (Nat.le_refl _) _
  have hK1 := Full.new w 68 [.bool false, .string t]
  have c1 : (w.alloc (.cells #[.bool false, .string t] 68)).cell? ⟨p, 1, none⟩ = some (.map m) := (h.full.on hb1).cell 1
  have k0 : (w.alloc (.cells #[.bool false, .string t] 68)).cell? ⟨w.heap.size, 0, none⟩ = some (.bool false) := hK1.cell 0
  have k1 : (w.alloc (.cells #[.bool false, .string t] 68)).cell? ⟨w.heap.size, 1, none⟩ = some (.string t) := hK1.cell 1
  have hz : ¬ 65536 < (t.size : Int) := by omega
  unfold PutOut
  by_cases ho : blobO t ∈ os
  · have hlook : ∀ q, (Instr.lookup 34 (.map m) (.agg #[.bool false, .string t]) true).run Tryd.prog ((w.alloc (.cells #[.bool false, .string t] 68)).drewN q) = .ok (.tuple #[.int .i64 (num os (blobO t) : Int), .bool true]) ((w.alloc (.cells #[.bool false, .string t] 68)).drewN q) := fun q =>
      look_known h (Below.drewN_ hb1 q) (by omega) ho
    have hput : put os (blobO t) = os := by unfold put; rw [if_pos ho]
    rw [hput]
    obtain ⟨k, hk⟩ : ∃ k, num os (blobO t) = k := ⟨_, rfl⟩
    rw [hk] at hlook ⊢
    have HS : Hid (IsStore B w p os F) := Lib.hid ⟨v, m, In, h⟩
    have HB := Lib.hid hb1
    obtain ⟨w1, hw1⟩ : ∃ w1, w.alloc (.cells #[.bool false, .string t] 68) = w1 := ⟨_, rfl⟩
    rw [hw1] at hlook c1 k0 k1 HB
    clear h hK1 hb1 ho hput hk hob
    go_enter Tryd.func18, Tryd.ntmps18
    go_wp2_with fail
    go_quiet (fail)
    go_wp2
    go_ret2
    exact ⟨rfl, F, HS.out.on (Below.drewN_ HB.out _), Goes.of (Below.drewN_ HB.out _)⟩
  · have hnk := new_key (by omega) h.fine hob ho
    have hlook : ∀ q, (Instr.lookup 34 (.map m) (.agg #[.bool false, .string t]) true).run Tryd.prog ((w.alloc (.cells #[.bool false, .string t] 68)).drewN q) = .ok (.tuple #[.int .i64 0, .bool false]) ((w.alloc (.cells #[.bool false, .string t] 68)).drewN q) := fun q =>
      look_new h (Below.drewN_ hb1 q) (ident_size (by omega) hob) hnk
    have hput : put os (blobO t) = os ++ [blobO t] := by unfold put; rw [if_neg ho]
    have hnum := num_new ho
    have hfine : Fine (os ++ [blobO t]) := by rw [← hput]; exact h.fine.put hob
    rw [hput, hnum]
    have C := Lib.hid (fun (W : World) (hW : Below w.heap.size w W) => (show Calls Tryd.prog 32 #[.pointer (some ⟨p, 0, none⟩), .agg #[.bool false, .string t], .agg #[.bool false, .string t, .slice none 0 0]] W (AddOut B W p os F (fun _ => False) (blobO t)) from
      add_any (h.on hW) (by omega) (blobO t) (fun _ => False) (fun _ h => h.elim) none 0 0 ⟨none, 0, rfl, by simp [blobO, entsC], Nat.le_refl _, fun _ => rfl, fun j u hj => by simp [blobO, entsC] at hj⟩ (ident_size (by omega) hob) hnk hfine t rfl))
    have HB := Lib.hid hb1
    obtain ⟨n, hn'⟩ : ∃ n, os.length = n := ⟨_, rfl⟩
    have HNN := Lib.hid hn'
    obtain ⟨w1, hw1⟩ : ∃ w1, w.alloc (.cells #[.bool false, .string t] 68) = w1 := ⟨_, rfl⟩
    rw [hw1] at hlook c1 k0 k1 HB
    clear h hK1 hb1 ho hput hob hnk hnum hfine hn'
    go_enter Tryd.func18, Tryd.ntmps18
    go_wp2_with fail
    go_quiet (fail)
    go_wp2_with (go_at_call 32; ((with_reducible refine (C.out _ ?_).mono ?_); exact Below.drewN_ HB.out _; rintro e w2 ⟨rfl, F', hS, hT, hFF⟩))
    go_ret2
    exact ⟨rfl, F', hS, Goes.of_add (Below.drewN_ HB.out _) hT hFF (fun _ h => h.elim)⟩
set_option maxRecDepth 100000 in
theorem blob_big (p : Nat) (w : World) (t : ByteArray) (ht : 65536 < t.size) :
    Calls Tryd.prog 18 #[.pointer (some ⟨p, 0, none⟩), .string t] w fun e w' => e = .returned (.tuple #[.int .i64 0, .int .i64 2]) ∧ w = w' := by
  have hz : 65536 < (t.size : Int) := by omega
  go_enter Tryd.func18, Tryd.ntmps18
  go_wp2
  go_ret2
  exact ⟨rfl, rfl⟩
set_option maxRecDepth 100000 in
theorem blob_nil (w : World) (t : ByteArray) : Calls Tryd.prog 18 #[.pointer none, .string t] w fun e w' => e = .returned (.tuple #[.int .i64 0, .int .i64 1]) ∧ w = w' := by
  go_enter Tryd.func18, Tryd.ntmps18
  go_wp2
  go_ret2
  exact ⟨rfl, rfl⟩
end Go.Proofs.YthnlldojidocoaaDoor
