/- The reference's Blob and Many. -/
import Derived.Test.YthnlldojidocoaaDoorPut
import Derived.Test.YthnlldojidocoaaDoorBlob
namespace Go.Proofs.YthnlldojidocoaaDoor
open Go.RowKit Go.Maps

/-- what the reference's store leaves -/
def RefOut (B : Nat) (w : World) (p : Nat) (os : List Ob) (F : Nat → Prop) (o : Ob) (e : Ending) (w' : World) : Prop :=
  e = .returned (.tuple #[.int .i64 (num os o : Int), .int .i64 0]) ∧ ∃ F', IsRef B w' p (put os o) F' ∧ Goes F w w' F'
set_option maxRecDepth 100000 in
set_option maxHeartbeats 1000000 in
theorem refBlob_any {B : Nat} {w : World} {p : Nat} {os : List Ob} {F : Nat → Prop} (h : IsRef B w p os F) (hn : os.length ≤ 1048576) (hf : Fine os) (t : ByteArray) (ht : t.size ≤ 65536) :
    Calls Tryd.prog 22 #[.pointer (some ⟨p, 0, none⟩), .string t] w (RefOut B w p os F (blobO t)) := by
  obtain ⟨v, In, h⟩ := h
  have hsz : ∀ x ∈ os, x.2.2.length ≤ 1048576 := fun x hx => by
    cases hd : x.1 with
    | false => rw [((hf.ok x hx).1 hd).1]; simp
    | true => exact ((hf.ok x hx).2 hd).2.2
  have C := Lib.hid (show Calls Tryd.prog 37 #[.pointer (some ⟨p, 0, none⟩), .agg #[.bool false, .string t, .slice none 0 0]] w (RefPut B w p os F (fun _ => False) (blobO t)) from
    put_any h hn hf.nodup hsz (blobO t) (fun _ => False) (fun _ h => h.elim) none 0 ⟨none, 0, rfl, by simp [blobO, entsC], Nat.le_refl _, fun _ => rfl, fun j u hj => by simp [blobO, entsC] at hj⟩ (by simp [blobO]))
  have hz : ¬ 65536 < (t.size : Int) := by omega
  unfold RefOut
  unfold RefPut at C
  obtain ⟨r, HR⟩ : ∃ r, Hid (num os (blobO t) = r) := ⟨_, Lib.hid rfl⟩
  obtain ⟨o2, HO⟩ : ∃ r, Hid (put os (blobO t) = r) := ⟨_, Lib.hid rfl⟩
  rw [HR.out, HO.out] at C ⊢
  clear h hsz hf
  go_enter Tryd.func22, Tryd.ntmps22
  go_wp2_with (go_at_call 37; ((with_reducible refine C.out.mono ?_); rintro e w1 ⟨rfl, F', hS, hT, hF⟩))
  go_ret2
  exact ⟨rfl, F', hS, Goes.of_add (Below.refl _ _) hT hF (fun _ h => h.elim)⟩
set_option maxRecDepth 100000 in
theorem refBlob_big (p : Nat) (w : World) (t : ByteArray) (ht : 65536 < t.size) :
    Calls Tryd.prog 22 #[.pointer (some ⟨p, 0, none⟩), .string t] w fun e w' => e = .returned (.tuple #[.int .i64 0, .int .i64 2]) ∧ w = w' := by
  have hz : 65536 < (t.size : Int) := by omega
  go_enter Tryd.func22, Tryd.ntmps22
  go_wp2
  go_ret2
  exact ⟨rfl, rfl⟩
set_option maxRecDepth 100000 in
theorem refMany_any {B : Nat} {w : World} {p : Nat} {os : List Ob} {F : Nat → Prop} (h : IsRef B w p os F) : Calls Tryd.prog 27 #[.pointer (some ⟨p, 0, none⟩)] w fun e w' => e = .returned (.int .i64 (os.length : Int)) ∧ w = w' := by
  obtain ⟨v, In, h⟩ := h
  obtain ⟨vs, hvl, hown, hents⟩ := h.obs
  obtain ⟨A, c, rfl⟩ := own_form hown
  have c0 : w.cell? ⟨p, 0, none⟩ = some (.slice A os.length c) := h.full.cell 0
  obtain ⟨n, hn⟩ : ∃ n, os.length = n := ⟨_, rfl⟩
  rw [hn] at c0 ⊢
  clear h hvl hown hents hn
  go_enter Tryd.func27, Tryd.ntmps27
  go_wp2
  go_ret
  exact ⟨rfl, rfl⟩
end Go.Proofs.YthnlldojidocoaaDoor
