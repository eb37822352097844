/- (*Store).Tree. -/
import Derived.Deep.RegionHeld3
import Derived.Test.YthnlldojidocoaaDoorBlob
namespace Go.Proofs.YthnlldojidocoaaDoor
open Go.RowKit Go.Maps

set_option maxRecDepth 100000 in
theorem tree_nil (w : World) (v : Value) : Calls Tryd.prog 21 #[.pointer none, v] w fun e w' => e = .returned (.tuple #[.int .i64 0, .int .i64 1]) ∧ w = w' := by
  go_enter Tryd.func21, Tryd.ntmps21
  go_wp2
  go_ret2
  exact ⟨rfl, rfl⟩

def TreeBad (w : World) (e : Ending) (w' : World) : Prop := e = .returned (.tuple #[.int .i64 0, .int .i64 1]) ∧ Below w.heap.size w w'
set_option maxRecDepth 100000 in
set_option maxHeartbeats 2000000 in
theorem tree_bad {B : Nat} {w : World} {p : Nat} {os : List Ob} {F : Nat → Prop} (h : IsStore B w p os F) (hn : os.length ≤ 1048575) (hT : Tab w)
    (M : Nat) (A : Option Addr) (es : List Ent) (c : Nat) (hA : Ents w M A c es) (hM : M ≤ w.heap.size) (hS : Sound es) (hl : es.length ≤ 1048576) (hok : treeOk os es = false) :
    Calls Tryd.prog 21 #[.pointer (some ⟨p, 0, none⟩), .slice A es.length c] w (TreeBad w) := by
  obtain ⟨v, m, In, h⟩ := h
  have C := isValid_any h (by omega) hT M A es c hA hM hS (by unfold maxLen; omega)
  rw [hok] at C
  have HC := Lib.hid C
  clear h hA C hok hS hl
  go_enter Tryd.func21, Tryd.ntmps21
  go_wp2_with (go_at_call 34; ((with_reducible refine HC.out.mono ?_); rintro e w1 ⟨rfl, hb⟩))
  go_ret2
  exact ⟨rfl, hb⟩

set_option maxRecDepth 100000 in
set_option maxHeartbeats 4000000 in
theorem tree_any {B : Nat} {w : World} {p : Nat} {os : List Ob} {F : Nat → Prop} (h : IsStore B w p os F) (hn : os.length ≤ 1048575) (hT : Tab w)
    (M : Nat) (A : Option Addr) (es : List Ent) (c : Nat) (hA : Ents w M A c es) (hM : M ≤ w.heap.size) (hl : es.length ≤ 1048576) (hok : treeOk os es = true) :
    Calls Tryd.prog 21 #[.pointer (some ⟨p, 0, none⟩), .slice A es.length c] w (PutOut B w p os F (treeO es)) := by
  obtain ⟨v, m, In, h⟩ := h
  have hsm := treeOk_small (by omega) hok
  have C34 := isValid_any h (by omega) hT M A es c hA hM (fun e he => ⟨by have := (hsm e he).2.1; unfold maxLen; omega, (hsm e he).2.2⟩) (by unfold maxLen; omega)
  rw [hok] at C34
  have HC34 := Lib.hid C34
  have hob : obOk os (treeO es) := obOk_tree hok hl
  have C35 := Lib.hid (fun (W : World) (hW : Below w.heap.size w W) => asBytes_any M A es c W (Row.below hA hW hM) (Nat.le_trans hM hW.size) hsm hl)
  have C36 := Lib.hid (fun (W : World) (hW : Below w.heap.size w W) => copyOf_any M A es c W (Row.below hA hW hM) (Nat.le_trans hM hW.size) hl)
  obtain ⟨S, hS⟩ : ∃ S, str (asB es) = S := ⟨_, rfl⟩
  have hid : ident (treeO es) = S := by rw [← hS]; rfl
  rw [hS] at C35
  have HF := Lib.hid h.full
  unfold PutOut
  by_cases ho : treeO es ∈ os
  · have LK := Lib.hid (fun (W : World) (hW : Below w.heap.size w W) => (show (Instr.lookup 34 (.map m) (.agg #[.bool true, .string S]) true).run Tryd.prog W = .ok (.tuple #[.int .i64 (num os (treeO es) : Int), .bool true]) W from by
      have := look_known h hW (by omega) ho
      unfold keyV at this
      rw [hid] at this
      exact this))
    have hput : put os (treeO es) = os := by unfold put; rw [if_pos ho]
    rw [hput]
    obtain ⟨k, hk⟩ : ∃ k, num os (treeO es) = k := ⟨_, rfl⟩
    rw [hk] at LK ⊢
    have HS : Hid (IsStore B w p os F) := Lib.hid ⟨v, m, In, h⟩
    clear h ho hput hk hob hA C34 hsm hS hid
    go_enter Tryd.func21, Tryd.ntmps21
    go_wp2_with (first
      | (go_at_call 34; ((with_reducible refine HC34.out.mono ?_); rintro e wv ⟨rfl, hbv⟩))
      | (go_at_call 35; ((with_reducible refine (C35.out _ hbv).mono ?_); rintro e ws ⟨rfl, hbs⟩; have hb := Below.then_ hbv hbs)))
    have hb1 : Below w.heap.size w (ws.alloc (.cells #[.bool true, .string S] 68)) := hb.alloc hb.size _
    have hK1 := Full.new ws 68 [.bool true, .string S]
    have c1 : (ws.alloc (.cells #[.bool true, .string S] 68)).cell? ⟨p, 1, none⟩ = some (.map m) := (HF.out.on hb1).cell 1
    have k0 : (ws.alloc (.cells #[.bool true, .string S] 68)).cell? ⟨ws.heap.size, 0, none⟩ = some (.bool true) := hK1.cell 0
    have k1 : (ws.alloc (.cells #[.bool true, .string S] 68)).cell? ⟨ws.heap.size, 1, none⟩ = some (.string S) := hK1.cell 1
    have hlook : ∀ q, _ := fun q => LK.out ((ws.alloc (.cells #[.bool true, .string S] 68)).drewN q) (Below.drewN_ hb1 q)
    have HB := Lib.hid hb1
    clear hK1 hb1 hb hbv hbs
    go_quiet (fail)
    go_wp2
    go_ret2
    exact ⟨rfl, F, HS.out.on (Below.drewN_ HB.out _), Goes.of (Below.drewN_ HB.out _)⟩
  · have hnk := new_key (by omega) h.fine hob ho
    have LK := Lib.hid (fun (W : World) (hW : Below w.heap.size w W) => (show (Instr.lookup 34 (.map m) (.agg #[.bool true, .string S]) true).run Tryd.prog W = .ok (.tuple #[.int .i64 0, .bool false]) W from by
      have := look_new h hW (ident_size (by omega) hob) hnk
      unfold keyV at this
      rw [hid] at this
      exact this))
    have hput : put os (treeO es) = os ++ [treeO es] := by unfold put; rw [if_neg ho]
    have hnum := num_new ho
    have hfine : Fine (os ++ [treeO es]) := by rw [← hput]; exact h.fine.put hob
    rw [hput, hnum]
    have hin := h.in_
    have C32 := Lib.hid (fun (W : World) (hW : Below w.heap.size w W) (A' : Option Addr) (G : Nat → Prop) (hG : ∀ g, G g → ¬ F g ∧ B ≤ g ∧ g < W.heap.size) (hR : RowF W G 3 A' es.length es.length (entsC es)) =>
      (show Calls Tryd.prog 32 #[.pointer (some ⟨p, 0, none⟩), .agg #[.bool true, .string S], .agg #[.bool true, .string ⟨#[]⟩, .slice A' es.length es.length]] W (AddOut B W p os F G (treeO es)) from
      add_any (h.on hW) (by omega) (treeO es) G hG A' es.length es.length ⟨A', es.length, rfl, hR⟩ (ident_size (by omega) hob) hnk hfine S hid))
    have hBw : B ≤ w.heap.size := by have := h.in_ p h.self; omega
    obtain ⟨n, hn'⟩ : ∃ n, os.length = n := ⟨_, rfl⟩
    have HNN := Lib.hid hn'
    have HIN := Lib.hid hin
    clear h ho hput hob hnk hnum hfine hn' hA C34 hsm hS hid hin
    go_enter Tryd.func21, Tryd.ntmps21
    go_wp2_with (first
      | (go_at_call 34; ((with_reducible refine HC34.out.mono ?_); rintro e wv ⟨rfl, hbv⟩))
      | (go_at_call 35; ((with_reducible refine (C35.out _ hbv).mono ?_); rintro e ws ⟨rfl, hbs⟩; have hb := Below.then_ hbv hbs)))
    have hws : w.heap.size ≤ ws.heap.size := hb.size
    have hb1 : Below w.heap.size w (ws.alloc (.cells #[.bool true, .string S] 68)) := hb.alloc hb.size _
    have hK1 := Full.new ws 68 [.bool true, .string S]
    have c1 : (ws.alloc (.cells #[.bool true, .string S] 68)).cell? ⟨p, 1, none⟩ = some (.map m) := (HF.out.on hb1).cell 1
    have k0 : (ws.alloc (.cells #[.bool true, .string S] 68)).cell? ⟨ws.heap.size, 0, none⟩ = some (.bool true) := hK1.cell 0
    have k1 : (ws.alloc (.cells #[.bool true, .string S] 68)).cell? ⟨ws.heap.size, 1, none⟩ = some (.string S) := hK1.cell 1
    have hlook : ∀ q, _ := fun q => LK.out ((ws.alloc (.cells #[.bool true, .string S] 68)).drewN q) (Below.drewN_ hb1 q)
    have HB := Lib.hid hb1
    have HK := Lib.hid hK1
    clear hK1 hb1 hb hbv hbs
    go_quiet (fail)
    go_wp2_with fail
    have hb7 : Below w.heap.size w ((ws.alloc (.cells #[.bool true, .string S] 68)).drewN nq) := Below.drewN_ HB.out _
    have hK7 : Full ((ws.alloc (.cells #[.bool true, .string S] 68)).drewN nq) ws.heap.size 68 [.bool true, .string S] := HK.out.drewN _
    obtain ⟨w7, hw7⟩ : ∃ w7, (ws.alloc (.cells #[.bool true, .string S] 68)).drewN nq = w7 := ⟨_, rfl⟩
    have hgw := HB.out.size
    have hgb : w.heap.size ≤ ws.heap.size := hws
    obtain ⟨gb, hgbe⟩ : ∃ gb, ws.heap.size = gb := ⟨_, rfl⟩
    rw [hgbe] at hK7 hgb ⊢
    rw [hw7] at hb7 hK7 ⊢
    have hb7d : Below w.heap.size w w7.drew := Below.drewN_ hb7 1
    have v0 : w7.drew.cell? ⟨gb, 0, none⟩ = some (.bool true) := hK7.drew.cell 0
    have v1 : w7.drew.cell? ⟨gb, 1, none⟩ = some (.string S) := hK7.drew.cell 1
    have HK7 := Lib.hid (show Full w7.drew gb 68 [.bool true, .string S] from hK7.drew)
    have hgF : ¬ F gb := fun e => by have := (HIN.out gb e).2; omega
    have HGF := Lib.hid hgF
    clear c1 k0 k1 hlook HB HK hw7 hgw hgbe hK7 hgF
    go_region_held3 (fun w' => w'.cell? ⟨gb, 0, none⟩ = some (.bool true) ∧ w'.cell? ⟨gb, 1, none⟩ = some (.string S))
      (first | (with_reducible exact ⟨v0, v1⟩) | (with_reducible exact ⟨n0, n1⟩) | (with_reducible exact ⟨m0, m1⟩))
      (first
        | (go_at_call 36; ((with_reducible refine (C36.out _ hb7d).mono ?_); rintro e w8 ⟨A', rfl, hR, hb8⟩; (have hK8 := HK7.out.on hb8); (have n0 : w8.cell? ⟨gb, 0, none⟩ = some (.bool true) := hK8.cell 0); (have n1 : w8.cell? ⟨gb, 1, none⟩ = some (.string S) := hK8.cell 1); (have hB8 := Below.then_ hb7d hb8); (have hl8 := hK8.lt)))
        | (go_at_call 32; ((with_reducible refine (C32.out _ hB8 A' (fun g => w7.drew.heap.size ≤ g ∧ g < w8.heap.size) ?_ hR).mono ?_); (exact fun g hg => ⟨fun e => (by have := (HIN.out g e).2; have := hb7d.size; omega), by have := hb7d.size; omega, hg.2⟩); rintro e w9 ⟨rfl, F', hSt, hT9, hFF⟩; (have m0 : w9.cell? ⟨gb, 0, none⟩ = some (.bool true) := (cell_of_heap (hT9.block gb hl8 HGF.out)).trans n0); (have m1 : w9.cell? ⟨gb, 1, none⟩ = some (.string S) := (cell_of_heap (hT9.block gb hl8 HGF.out)).trans n1))))
    go_wp2
    go_ret2
    exact ⟨rfl, F', hSt, Goes.of_add hB8 hT9 hFF (fun g hg => Nat.le_trans hb7d.size hg.1)⟩
end Go.Proofs.YthnlldojidocoaaDoor
