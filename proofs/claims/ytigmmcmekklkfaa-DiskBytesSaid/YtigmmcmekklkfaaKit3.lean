/- Two disks beside each other. -/
import Derived.Test.YtigmmcmekklkfaaKit2
namespace Go.Proofs.Ytigmmcmekklkfaa
set_option maxRecDepth 100000
open Go.RowKit
structure Two (w W : World) (p q : Nat) (d c : Dk) : Prop where
  bel : Below w.heap.size w W
  his : ∃ F G, IsD w.heap.size W p d F ∧ IsD w.heap.size W q c G ∧ ∀ g, F g → ¬ G g
section
variable {w W W' : World} {p q : Nat} {d d' c : Dk} {X : Nat → Prop}
theorem Two.swap (h : Two w W p q d c) : Two w W q p c d := by
  obtain ⟨F, G, i1, i2, i3⟩ := h.his
  exact ⟨h.bel, G, F, i2, i1, fun g hg hf => i3 g hf hg⟩
theorem Two.callD (h : Two w W p q d c) {f : FuncId} {args : Array Value} {P : Ending → Prop}
    (hc : ∀ F, IsD w.heap.size W p d F → Calls Try.prog f args W fun e W' => P e ∧ ∃ F', IsD w.heap.size W' p d' F' ∧ Goes F W W' F') :
    Calls Try.prog f args W fun e W' => P e ∧ Two w W' p q d' c := by
  obtain ⟨F, G, i1, i2, i3⟩ := h.his
  refine (hc F i1).mono ?_
  rintro e W' ⟨he, F', j1, j2⟩
  refine ⟨he, h.bel.trans (j2.below (fun g hg => (i1.in_ g hg).1) h.bel.size), F', G, j1, i2.keep (fun g hg => j2.turn.block g (i2.in_ g hg).2 (fun e => i3 g e hg)) j2.turn.size, fun g hg hG => ?_⟩
  rcases j2.back g hg with e | e
  · exact i3 g e hG
  · have := (i2.in_ g hG).2; omega
theorem Two.write (h : Two w W p q d c) (hc : d.calls ≤ 100000) (off : Int) (s : ByteArray) (ho : off ≤ 9223372036854775807) (hs : s.size ≤ maxLen) :
    Calls Try.prog 27 #[.pointer (some ⟨p, 0, none⟩), .int .i64 off, .string s] W fun e W' => e = .returned (.int .i64 (d.wErr off s.data.toList)) ∧ Two w W' p q (d.write off s.data.toList) c :=
  h.callD fun _ hF => write_any hF hc off s ho hs
theorem Two.read (h : Two w W p q d c) (off n : Int) : Calls Try.prog 29 #[.pointer (some ⟨p, 0, none⟩), .int .i64 off, .int .i64 n] W fun e w' => e = .returned (.string (str (d.read off n))) ∧ W = w' := by
  obtain ⟨F, G, i1, i2, i3⟩ := h.his; exact read_any i1 off n
theorem Two.calls (h : Two w W p q d c) : Calls Try.prog 19 #[.pointer (some ⟨p, 0, none⟩)] W fun e w' => e = .returned (.int .i64 (d.calls : Int)) ∧ W = w' := by
  obtain ⟨F, G, i1, i2, i3⟩ := h.his; exact calls_any i1
theorem Side.crash2 (h : Side w W p d X) (hc : d.calls ≤ 100000) {B1 m c : Nat} {A : Option Addr} {l : List Int} (hq : Row W B1 1 A m c (intC l)) (hB1 : B1 ≤ W.heap.size) (hm : m ≤ maxLen) :
    Calls Try.prog 23 #[.pointer (some ⟨p, 0, none⟩), .slice A m c] W fun e W' => ∃ p', e = .returned (.pointer (some ⟨p', 0, none⟩)) ∧ Two w W' p p' d (d.crash l) := by
  obtain ⟨F, i1, i4⟩ := h.his
  refine (crash_any i1 hc hq hB1 hm).mono ?_
  rintro e W' ⟨p', F', rfl, j1, j2⟩
  exact ⟨p', rfl, Below.then_ h.bel j2, F, F', i1.on j2, j1.less h.bel.size, fun g hg e => by have := (i1.in_ g hg).2; have := (j1.in_ g e).1; omega⟩
end
/-- a write that is done -/
theorem wErr_ok {d : Dk} (h : d.pw = none) (off : Int) (s : List UInt8) (h0 : 0 ≤ off) (h1 : off + (s.length : Int) ≤ 16777216) : d.wErr off s = 0 ∧ (d.write off s) = ⟨d.syn, d.ps ++ [(off.toNat, s)], none, d.calls + 1⟩ := by
  have e : d.wErr off s = 0 := by
    unfold Dk.wErr Dk.isOff
    rw [if_neg (by rw [(Dk.canW_iff off s.length).2 ⟨h0, h1⟩]; simp), h]
    rfl
  refine ⟨e, ?_⟩
  unfold Dk.write
  rw [if_pos e]
  unfold Dk.wrote
  rw [h]; rfl
theorem sErr_ok {d : Dk} (h : d.pw = none) : d.sErr = 0 ∧ d.sync = ⟨d.now, [], none, d.calls + 1⟩ := by
  have e : d.isOff = false := by unfold Dk.isOff; rw [h]; rfl
  refine ⟨by unfold Dk.sErr; rw [e]; rfl, ?_⟩
  unfold Dk.sync
  rw [e]
  unfold Dk.synced
  rw [h]; rfl
end Go.Proofs.Ytigmmcmekklkfaa
