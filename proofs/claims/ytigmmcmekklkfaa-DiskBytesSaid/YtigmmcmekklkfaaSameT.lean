/- same. -/
import Derived.Test.YtigmmcmekklkfaaBoth
import Derived.Deep.QuietTactic
import Derived.BigQuiet
namespace Go.Proofs.Ytigmmcmekklkfaa
set_option maxRecDepth 100000
open Go.RowKit
theorem flip_ {P : Program} {f : FuncId} {args : Array Value} {w : World} {v : Value} (h : Calls P f args w fun e w' => e = .returned v ∧ w = w') : Calls P f args w fun e w' => e = .returned v ∧ w' = w := h.mono fun _ _ ⟨a, b⟩ => ⟨a, b.symm⟩
set_option maxHeartbeats 4000000 in
theorem same_any {w W : World} {p q x : Nat} {d : Dk} {X : Nat → Prop} (h : Both w W p q d d X) (hx : Full W x 30 [.pointer (some ⟨p, 0, none⟩), .pointer (some ⟨q, 0, none⟩)]) :
    Calls Try.prog 21 #[.pointer (some ⟨x, 0, none⟩)] W fun e w' => e = .returned (.bool true) ∧ ∃ k, w' = W.drewN k := by
  have SZ := Lib.hid (fun n => flip_ (h.drewN n).size)
  have RSZ := Lib.hid (fun n => flip_ (h.drewN n).rsize)
  have CA := Lib.hid (fun n => flip_ (h.drewN n).calls)
  have RCA := Lib.hid (fun n => flip_ (h.drewN n).rcalls)
  have RE := Lib.hid (fun n => flip_ ((h.drewN n).read 0 33554432))
  have RRE := Lib.hid (fun n => (h.drewN n).rread 0 33554432)
  have c0 : W.cell? ⟨x, 0, none⟩ = some (.pointer (some ⟨p, 0, none⟩)) := hx.cell 0
  have c1 : W.cell? ⟨x, 1, none⟩ = some (.pointer (some ⟨q, 0, none⟩)) := hx.cell 1
  obtain ⟨N, hN⟩ : ∃ N : Int, (d.now.length : Int) = N := ⟨_, rfl⟩
  obtain ⟨C, hC⟩ : ∃ C : Int, (d.calls : Int) = C := ⟨_, rfl⟩
  obtain ⟨S, hS⟩ : ∃ S, str (d.read 0 33554432) = S := ⟨_, rfl⟩
  rw [hN] at SZ RSZ
  rw [hC] at CA RCA
  rw [hS] at RE RRE
  clear h hx hN hC hS
  go_enter Try.func21, Try.ntmps21
  go_upto_region 1 with fail
  go_quiet (first | (go_at_call 17; with_reducible exact Calls.quiet_of_same (SZ.out _)) | (go_at_call 18; with_reducible exact Calls.quiet_of_same (RSZ.out _)) | (go_at_call 19; with_reducible exact Calls.quiet_of_same (CA.out _)) | (go_at_call 20; with_reducible exact Calls.quiet_of_same (RCA.out _)) | (go_at_call 29; with_reducible exact Calls.quiet_of_same (RE.out _)) | (go_at_call 31; with_reducible exact Calls.quiet_of (RRE.out _)) | (fail "arm"))
  go_wp2
  go_ret
  exact ⟨rfl, _, rfl⟩
end Go.Proofs.Ytigmmcmekklkfaa
