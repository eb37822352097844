/- (*Store).Text, Entries, New. -/
import Derived.Test.YthnlldojidocoaaDoorTree
namespace Go.Proofs.YthnlldojidocoaaDoor
open Go.RowKit Go.Maps

set_option maxRecDepth 100000 in
theorem new_any (w : World) : Calls Tryd.prog 15 #[] w fun e w' => e = .returned (.pointer (some ⟨w.heap.size, 0, none⟩)) ∧ w.alloc (.cells #[.slice none 0 0, .map none] 36) = w' := by
  go_enter Tryd.func15, Tryd.ntmps15
  go_wp2
  go_ret
  exact ⟨rfl, rfl⟩

set_option maxRecDepth 100000 in
set_option maxHeartbeats 1000000 in
theorem find_nil (w : World) (id : Int) (hid : (Lit.int .i64 id).wf = true) : Calls Tryd.prog 33 #[.pointer none, .int .i64 id] w (FoundNone w) := by
  have hb := bd_i64 hid
  unfold FoundNone noObV
  by_cases h1 : id < 1
  · go_enter Tryd.func33, Tryd.ntmps33
    go_wp2
    (try simp only [Exit.inBlock, Exit.then])
    refine bodyPost_ret (v := .tuple #[.agg #[.bool false, .string ⟨#[]⟩, .slice none 0 0], .bool false]) (by simp [results, Tryd.results33, go_sem]) rfl ?_
    exact ⟨rfl, (Below.refl _ w).alloc (Nat.le_refl _) _⟩
  · have h2 : (0 : Int) < id := by omega
    have C := Lib.hid (fun (W : World) => many_nil W)
    go_enter Tryd.func33, Tryd.ntmps33
    go_wp2_with (go_at_call 19; ((with_reducible refine (C.out _).mono ?_); rintro e w1 ⟨rfl, rfl⟩))
    (try simp only [Exit.inBlock, Exit.then])
    refine bodyPost_ret (v := .tuple #[.agg #[.bool false, .string ⟨#[]⟩, .slice none 0 0], .bool false]) (by simp [results, Tryd.results33, go_sem]) rfl ?_
    exact ⟨rfl, (Below.refl _ w).alloc (Nat.le_refl _) _⟩

def TextOut (w : World) (s : ByteArray) (b : Bool) (e : Ending) (w' : World) : Prop := e = .returned (.tuple #[.string s, .bool b]) ∧ Below w.heap.size w w'
def textR (os : List Ob) (id : Int) : Option ByteArray := match getO os id with
  | some o => if o.1 then none else some o.2.1
  | none => none
def entsR (os : List Ob) (id : Int) : Option (List Ent) := match getO os id with
  | some o => if o.1 then some o.2.2 else none
  | none => none

set_option maxRecDepth 100000 in
set_option maxHeartbeats 1000000 in
theorem text_found (q : Value) (id : Int) (o : Ob) (Ae : Option Addr) (ne ce : Nat) (w : World) (b : Bool) (C : Calls Tryd.prog 33 #[q, .int .i64 id] w fun e w' => e = .returned (.tuple #[.agg #[.bool o.1, .string o.2.1, .slice Ae ne ce], .bool b]) ∧ Below w.heap.size w w') :
    Calls Tryd.prog 20 #[q, .int .i64 id] w (TextOut w (if b && !o.1 then o.2.1 else ⟨#[]⟩) (b && !o.1)) := by
  obtain ⟨od, ot, oe⟩ := o
  dsimp only at C ⊢
  have HC := Lib.hid C
  clear C
  unfold TextOut
  cases b <;> cases od
  all_goals
    go_enter Tryd.func20, Tryd.ntmps20
    go_wp2_with (go_at_call 33; ((with_reducible refine HC.out.mono ?_); rintro e w1 ⟨rfl, hb⟩))
    go_ret2
    exact ⟨rfl, hb.alloc hb.size _⟩
theorem text_some {B : Nat} {w : World} {p : Nat} {os : List Ob} {F : Nat → Prop} (h : IsStore B w p os F) (hn : os.length ≤ 1073741824) (id : Int) (hid : (Lit.int .i64 id).wf = true) :
    Calls Tryd.prog 20 #[.pointer (some ⟨p, 0, none⟩), .int .i64 id] w (TextOut w ((textR os id).getD ⟨#[]⟩) (textR os id).isSome) := by
  obtain ⟨v, m, In, h⟩ := h
  unfold textR
  cases hg : getO os id with
  | none => exact text_found _ id (false, ⟨#[]⟩, []) none 0 0 w false (find_none h hn id hid hg)
  | some o =>
    obtain ⟨u, hu, C⟩ := find_some h hn id o hg
    obtain ⟨Ae, ce, rfl, _⟩ := hu
    have := text_found _ id o Ae _ ce w true C
    dsimp only
    cases ho : o.1 <;> rw [ho] at this <;> exact this
theorem text_nil (w : World) (id : Int) (hid : (Lit.int .i64 id).wf = true) : Calls Tryd.prog 20 #[.pointer none, .int .i64 id] w (TextOut w ⟨#[]⟩ false) :=
  text_found _ id (false, ⟨#[]⟩, []) none 0 0 w false (find_nil w id hid)

def EntsOut (w : World) (r : Option (List Ent)) (e : Ending) (w' : World) : Prop := ∃ A c, e = .returned (.tuple #[.slice A (r.getD []).length c, .bool r.isSome]) ∧ RowF w' (fun g => w.heap.size ≤ g ∧ g < w'.heap.size) 3 A (r.getD []).length c (entsC (r.getD [])) ∧ Below w.heap.size w w'
set_option maxRecDepth 100000 in
set_option maxHeartbeats 1000000 in
theorem ents_bad (q : Value) (id : Int) (o : Ob) (Ae : Option Addr) (ne ce : Nat) (w : World) (b : Bool) (hb0 : (b && o.1) = false) (C : Calls Tryd.prog 33 #[q, .int .i64 id] w fun e w' => e = .returned (.tuple #[.agg #[.bool o.1, .string o.2.1, .slice Ae ne ce], .bool b]) ∧ Below w.heap.size w w') :
    Calls Tryd.prog 24 #[q, .int .i64 id] w (EntsOut w none) := by
  obtain ⟨od, ot, oe⟩ := o
  dsimp only at C hb0
  have HC := Lib.hid C
  clear C
  unfold EntsOut
  cases b <;> cases od
  case true.true => cases hb0
  all_goals
    clear hb0
    go_enter Tryd.func24, Tryd.ntmps24
    go_wp2_with (go_at_call 33; ((with_reducible refine HC.out.mono ?_); rintro e w1 ⟨rfl, hb⟩))
    go_ret2
    exact ⟨none, 0, rfl, ⟨rfl, Nat.le_refl _, fun _ => rfl, fun j u hj => by simp [entsC] at hj⟩, hb.alloc hb.size _⟩
set_option maxRecDepth 100000 in
set_option maxHeartbeats 1000000 in
theorem ents_found (q : Value) (id : Int) (ot : ByteArray) (oe : List Ent) (Ae : Option Addr) (ce M : Nat) (w : World) (hA : Ents w M Ae ce oe) (hM : M ≤ w.heap.size) (hl : oe.length ≤ 1048576)
    (C : Calls Tryd.prog 33 #[q, .int .i64 id] w fun e w' => e = .returned (.tuple #[.agg #[.bool true, .string ot, .slice Ae oe.length ce], .bool true]) ∧ Below w.heap.size w w') :
    Calls Tryd.prog 24 #[q, .int .i64 id] w (EntsOut w (some oe)) := by
  have HC := Lib.hid C
  have C36 := Lib.hid (fun (W : World) (hW : Below w.heap.size w W) => copyOf_any M Ae oe ce W (Row.below hA hW hM) (Nat.le_trans hM hW.size) hl)
  clear C hA
  unfold EntsOut
  rw [Option.getD_some, Option.isSome_some]
  obtain ⟨n, HN⟩ : ∃ n, Hid (oe.length = n) := ⟨_, Lib.hid rfl⟩
  rw [HN.out] at HC
  have C36' : Hid (∀ (W : World) (hW : Below w.heap.size w W), Calls Tryd.prog 36 #[.slice Ae n ce] W (CopyOut W oe)) := Lib.hid (fun W hW => by rw [← HN.out]; exact C36.out W hW)
  clear C36
  go_enter Tryd.func24, Tryd.ntmps24
  go_wp2_with (first
    | (go_at_call 33; ((with_reducible refine HC.out.mono ?_); rintro e w1 ⟨rfl, hb⟩; (have hb1 : Below w.heap.size w (w1.alloc (.cells #[.bool true, .string ot, .slice Ae n ce] 72)) := hb.alloc hb.size _)))
    | (go_at_call 36; ((with_reducible refine (C36'.out _ hb1).mono ?_); rintro e w2 ⟨A', rfl, hR, hb2⟩)))
  go_ret2
  have hs := hb1.size
  exact ⟨A', oe.length, rfl, hR.keep (fun g hg => ⟨⟨by omega, hg.2⟩, rfl⟩), Below.then_ hb1 hb2⟩
theorem ents_some {B : Nat} {w : World} {p : Nat} {os : List Ob} {F : Nat → Prop} (h : IsStore B w p os F) (hn : os.length ≤ 1073741824) (id : Int) (hid : (Lit.int .i64 id).wf = true) :
    Calls Tryd.prog 24 #[.pointer (some ⟨p, 0, none⟩), .int .i64 id] w (EntsOut w (entsR os id)) := by
  obtain ⟨v, m, In, h⟩ := h
  unfold entsR
  cases hg : getO os id with
  | none => exact ents_bad _ id (false, ⟨#[]⟩, []) none 0 0 w false rfl (find_none h hn id hid hg)
  | some o =>
    obtain ⟨u, hu, C⟩ := find_some h hn id o hg
    obtain ⟨Ae, ce, rfl, hR⟩ := hu
    dsimp only
    cases ho : o.1 with
    | false => exact ents_bad _ id o Ae _ ce w true (by rw [ho]; rfl) C
    | true =>
      have hmem : o ∈ os := by
        unfold getO at hg
        split at hg
        · exact List.mem_of_getElem? hg
        · cases hg
      unfold Found obV at C
      rw [ho] at C
      exact ents_found _ id o.2.1 o.2.2 Ae ce w.heap.size w (hR.row fun g hg => (h.in_ g (h.inn g hg).1).2) (Nat.le_refl _) ((h.fine.ok o hmem).2 ho).2.2 C
theorem ents_nil (w : World) (id : Int) (hid : (Lit.int .i64 id).wf = true) : Calls Tryd.prog 24 #[.pointer none, .int .i64 id] w (EntsOut w none) :=
  ents_bad _ id (false, ⟨#[]⟩, []) none 0 0 w false rfl (find_nil w id hid)
theorem many_some {B : Nat} {w : World} {p : Nat} {os : List Ob} {F : Nat → Prop} (h : IsStore B w p os F) : Calls Tryd.prog 19 #[.pointer (some ⟨p, 0, none⟩)] w fun e w' => e = .returned (.int .i64 (os.length : Int)) ∧ w = w' := by
  obtain ⟨v, m, In, h⟩ := h
  obtain ⟨vs, hvl, hown, hents⟩ := h.obs
  obtain ⟨A, c, rfl⟩ := own_form hown
  exact many_any p A os.length c m w h.full
end Go.Proofs.YthnlldojidocoaaDoor
