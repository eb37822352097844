/- The steps of Append. -/
import Derived.Test.YthhpnlobhffimaaJFrames
import Derived.Test.YthhpnlobhffimaaSide
namespace Go.Proofs.Ythhpnlobhffimaa
set_option maxRecDepth 100000
open Go.RowKit
/-- an addition -/
def addV (p e : Nat) (b : ByteArray) : Value := .agg #[.pointer (some ⟨p, 0, none⟩), .int .i64 (e : Int), .string b]
def stepsV (p e : Nat) (b : ByteArray) : List Value := [.func (.func 59) #[addV p e b] #[], .func (.func 56) #[.pointer (some ⟨p, 0, none⟩)] #[], .func (.func 60) #[addV p e b] #[], .func (.func 56) #[.pointer (some ⟨p, 0, none⟩)] #[]]
theorem steps_any (p e : Nat) (b : ByteArray) (w : World) : Calls Try.prog 39 #[addV p e b] w fun en w' => ∃ g, en = .returned (.slice (some ⟨g, 0, none⟩) 4 4) ∧ Full w' g 78 (stepsV p e b) ∧ w.heap.size ≤ g ∧ Below w.heap.size w w' := by
  unfold stepsV addV
  go_enter Try.func39, Try.ntmps39
  go_wp2
  go_ret
  have F := Full.new (w.alloc (.cells #[.pointer (some ⟨p, 0, none⟩), .int .i64 (e : Int), .string b] 81)) 78 [.func (.func 59) #[.agg #[.pointer (some ⟨p, 0, none⟩), .int .i64 (e : Int), .string b]] #[], .func (.func 56) #[.pointer (some ⟨p, 0, none⟩)] #[], .func (.func 60) #[.agg #[.pointer (some ⟨p, 0, none⟩), .int .i64 (e : Int), .string b]] #[], .func (.func 56) #[.pointer (some ⟨p, 0, none⟩)] #[]]
  rw [World.size_alloc] at F
  exact ⟨_, rfl, F, by simp, ((Below.refl _ w).alloc (Nat.le_refl _) _).alloc (by simp) _⟩
theorem behind_any (p e : Nat) (b : ByteArray) (w : World) (he : e ≤ 16777216) (hb : b.size ≤ 16777216) : Calls Try.prog 40 #[addV p e b] w fun en w' => en = .returned (.int .i64 ((e + 1 + b.size : Nat) : Int)) ∧ Below w.heap.size w w' := by
  unfold addV
  have i0 : (0 : Int) ≤ (e : Int) := Int.natCast_nonneg _
  have i1 : (e : Int) ≤ 16777216 := by omega
  have i2 : (b.size : Int) ≤ 16777216 := by omega
  go_enter Try.func40, Try.ntmps40
  go_wp2
  go_ret
  exact ⟨ret_int (by omega), (Below.refl _ w).alloc (Nat.le_refl _) _⟩
section
variable {w W : World} {p : Nat} {d : Dk} {X : Nat → Prop}
theorem SPost.pre {W' W2 : World} {d2 : Dk} (k : SPost w W' p d2 X W2) (h : Side w W p d X) (hb : Below W.heap.size W W') : SPost w W p d2 X W2 := (h.spost hb).trans k
theorem writeBody_any (h : Side w W p d X) (hc : d.calls ≤ 100000) (e : Nat) (b : ByteArray) (he : e ≤ 16777216) (hb : b.size ≤ 16777216) :
    Calls Try.prog 59 #[addV p e b] W fun en W' => en = .returned (.int .i64 (d.wErr ((e + 1 : Nat) : Int) (b.data.toList ++ [0]))) ∧ SPost w W p (d.write ((e + 1 : Nat) : Int) (b.data.toList ++ [0])) X W' := by
  have hbw : Below W.heap.size W (W.alloc (.cells #[.pointer (some ⟨p, 0, none⟩), .int .i64 (e : Int), .string b] 81)) := (Below.refl _ W).alloc (Nat.le_refl _) _
  have hd : (b ++ ⟨#[0]⟩).data.toList = b.data.toList ++ [0] := by rw [app_data]
  have hz : (b ++ ⟨#[0]⟩).size = b.size + 1 := by rw [ByteArray.size_append]; rfl
  have hw := (h.on hbw).write hc ((e + 1 : Nat) : Int) (b ++ ⟨#[0]⟩) (by omega) (by rw [hz]; unfold maxLen; omega)
  rw [hd] at hw
  have HW := Lib.hid (show Calls Try.prog 31 #[.pointer (some ⟨p, 0, none⟩), .int .i64 ((e + 1 : Nat) : Int), .string (b ++ ⟨#[0]⟩)] (W.alloc (.cells #[.pointer (some ⟨p, 0, none⟩), .int .i64 (e : Int), .string b] 81)) fun en W' => en = .returned (.int .i64 (d.wErr ((e + 1 : Nat) : Int) (b.data.toList ++ [0]))) ∧ SPost w W p (d.write ((e + 1 : Nat) : Int) (b.data.toList ++ [0])) X W' from hw.mono fun en W' h2 => ⟨h2.1, h2.2.pre h hbw⟩)
  rw [show ((e + 1 : Nat) : Int) = (e : Int) + 1 by omega] at HW ⊢
  unfold addV
  have i0 : (0 : Int) ≤ (e : Int) := Int.natCast_nonneg _
  have i1 : (e : Int) ≤ 16777216 := by omega
  have i2 : (b.size : Int) ≤ 16777216 := by omega
  have i3 : b.size ≤ 16777216 := by omega
  clear hw hbw h
  go_enter Try.func59, Try.ntmps59
  go_wp2_with (go_at_call 31; ((with_reducible refine HW.out.mono ?_); rintro en w3 ⟨rfl, hp⟩))
  go_ret
  exact ⟨rfl, hp⟩
theorem writeMark_any (h : Side w W p d X) (hc : d.calls ≤ 100000) (e : Nat) (b : ByteArray) (he : e ≤ 16777216) :
    Calls Try.prog 60 #[addV p e b] W fun en W' => en = .returned (.int .i64 (d.wErr (e : Int) [1])) ∧ SPost w W p (d.write (e : Int) [1]) X W' := by
  have hbw : Below W.heap.size W (W.alloc (.cells #[.pointer (some ⟨p, 0, none⟩), .int .i64 (e : Int), .string b] 81)) := (Below.refl _ W).alloc (Nat.le_refl _) _
  have hw := (h.on hbw).write hc (e : Int) ⟨#[1]⟩ (by omega) (by show 1 ≤ _; decide)
  have HW := Lib.hid (show Calls Try.prog 31 #[.pointer (some ⟨p, 0, none⟩), .int .i64 (e : Int), .string ⟨#[1]⟩] (W.alloc (.cells #[.pointer (some ⟨p, 0, none⟩), .int .i64 (e : Int), .string b] 81)) fun en W' => en = .returned (.int .i64 (d.wErr (e : Int) [1])) ∧ SPost w W p (d.write (e : Int) [1]) X W' from hw.mono fun en W' h2 => ⟨h2.1, h2.2.pre h hbw⟩)
  unfold addV
  clear hw hbw h
  go_enter Try.func60, Try.ntmps60
  go_wp2_with (go_at_call 31; ((with_reducible refine HW.out.mono ?_); rintro en w3 ⟨rfl, hp⟩))
  go_ret
  exact ⟨rfl, hp⟩
end
/-- what the disk is behind k calls of Append, and what the next call returns -/
def Jn.D (j : Jn) (r : List UInt8) (k : Nat) : Dk := if k = 0 then j.d else if k = 1 then j.d1 r else if k = 2 then j.d2 r else if k = 3 then j.d3 r else j.d4 r
def Jn.er (j : Jn) (r : List UInt8) (k : Nat) : Int := if k = 0 then j.d.wErr ((j.e + 1 : Nat) : Int) (body r ++ [0]) else if k = 1 then (j.d1 r).sErr else if k = 2 then (j.d2 r).wErr (j.e : Int) [1] else (j.d3 r).sErr
section
variable (j : Jn) (r : List UInt8)
theorem Jn.D0 : j.D r 0 = j.d := if_pos rfl
theorem Jn.D1 : j.D r 1 = j.d1 r := by unfold Jn.D; rw [if_neg (by decide), if_pos rfl]
theorem Jn.D2 : j.D r 2 = j.d2 r := by unfold Jn.D; rw [if_neg (by decide), if_neg (by decide), if_pos rfl]
theorem Jn.D3 : j.D r 3 = j.d3 r := by unfold Jn.D; rw [if_neg (by decide), if_neg (by decide), if_neg (by decide), if_pos rfl]
theorem Jn.D4 : j.D r 4 = j.d4 r := by unfold Jn.D; rw [if_neg (by decide), if_neg (by decide), if_neg (by decide), if_neg (by decide)]
theorem Jn.er0 : j.er r 0 = j.d.wErr ((j.e + 1 : Nat) : Int) (body r ++ [0]) := if_pos rfl
theorem Jn.er1 : j.er r 1 = (j.d1 r).sErr := by unfold Jn.er; rw [if_neg (by decide), if_pos rfl]
theorem Jn.er2 : j.er r 2 = (j.d2 r).wErr (j.e : Int) [1] := by unfold Jn.er; rw [if_neg (by decide), if_neg (by decide), if_pos rfl]
theorem Jn.er3 : j.er r 3 = (j.d3 r).sErr := by unfold Jn.er; rw [if_neg (by decide), if_neg (by decide), if_neg (by decide)]
end
theorem app_eq {j : Jn} {r : List UInt8} (hf : j.failed = false) (hl : j.tooLong r = false) : j.app r =
    if j.er r 0 ≠ 0 then (30, ⟨j.D r 1, j.rs, true⟩) else if j.er r 1 ≠ 0 then (30, ⟨j.D r 2, j.rs, true⟩) else if j.er r 2 ≠ 0 then (30, ⟨j.D r 3, j.rs, true⟩)
      else if j.er r 3 ≠ 0 then (30, ⟨j.D r 4, j.rs, true⟩) else (0, ⟨j.D r 4, j.rs ++ [r], false⟩) := by
  rw [Jn.er0, Jn.er1, Jn.er2, Jn.er3, Jn.D1, Jn.D2, Jn.D3, Jn.D4]
  unfold Jn.app
  rw [hf, hl, if_neg (by decide), if_neg (by decide)]
theorem app_stop {j : Jn} {r : List UInt8} (hf : j.failed = false) (hl : j.tooLong r = false) {k : Nat} (hk : k < 4) (h : ∀ i, i < k → j.er r i = 0) (h0 : j.er r k ≠ 0) : j.app r = (30, ⟨j.D r (k + 1), j.rs, true⟩) := by
  rw [app_eq hf hl]
  obtain rfl | rfl | rfl | rfl : k = 0 ∨ k = 1 ∨ k = 2 ∨ k = 3 := by omega
  · rw [if_pos h0]
  · rw [if_neg (fun x => x (h 0 (by omega))), if_pos h0]
  · rw [if_neg (fun x => x (h 0 (by omega))), if_neg (fun x => x (h 1 (by omega))), if_pos h0]
  · rw [if_neg (fun x => x (h 0 (by omega))), if_neg (fun x => x (h 1 (by omega))), if_neg (fun x => x (h 2 (by omega))), if_pos h0]
theorem app_done {j : Jn} {r : List UInt8} (hf : j.failed = false) (hl : j.tooLong r = false) (h : ∀ i, i < 4 → j.er r i = 0) : j.app r = (0, ⟨j.D r 4, j.rs ++ [r], false⟩) := by
  rw [app_eq hf hl, if_neg (fun x => x (h 0 (by omega))), if_neg (fun x => x (h 1 (by omega))), if_neg (fun x => x (h 2 (by omega))), if_neg (fun x => x (h 3 (by omega)))]
theorem write_calls (d : Dk) (off : Int) (s : List UInt8) : (d.write off s).calls ≤ d.calls + 1 := by
  unfold Dk.write
  split
  · exact Nat.le_refl _
  · omega
theorem sync_calls (d : Dk) : d.sync.calls ≤ d.calls + 1 := by
  unfold Dk.sync
  split
  · omega
  · exact Nat.le_refl _
theorem Jn.D_calls (j : Jn) (r : List UInt8) (k : Nat) : (j.D r k).calls ≤ j.d.calls + 4 := by
  have h1 : (j.d1 r).calls ≤ j.d.calls + 1 := write_calls _ _ _
  have h2 : (j.d2 r).calls ≤ (j.d1 r).calls + 1 := sync_calls _
  have h3 : (j.d3 r).calls ≤ (j.d2 r).calls + 1 := write_calls _ _ _
  have h4 : (j.d4 r).calls ≤ (j.d3 r).calls + 1 := sync_calls _
  unfold Jn.D
  split
  · omega
  · split
    · omega
    · split
      · omega
      · split <;> omega
end Go.Proofs.Ythhpnlobhffimaa
