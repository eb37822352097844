/- A disk beside blocks that are left alone. -/
import Derived.Test.YthhpnlobhffimaaCrashT
import Derived.Test.YthhpnlobhffimaaReadT
namespace Go.Proofs.Ythhpnlobhffimaa
set_option maxRecDepth 100000
open Go.RowKit
/-- A disk at p holds d; the blocks of X are not its. -/
structure Side (w W : World) (p : Nat) (d : Dk) (X : Nat → Prop) : Prop where
  bel : Below w.heap.size w W
  his : ∃ F, IsD w.heap.size W p d F ∧ ∀ g, X g → ¬ F g ∧ g < W.heap.size
def SPost (w W : World) (p : Nat) (d : Dk) (X : Nat → Prop) (W' : World) : Prop := Side w W' p d X ∧ (∀ g, X g → W'.heap[g]? = W.heap[g]?) ∧ W.heap.size ≤ W'.heap.size
section
variable {w W W' : World} {p : Nat} {d d' : Dk} {X : Nat → Prop}
theorem Side.on (h : Side w W p d X) (hb : Below W.heap.size W W') : Side w W' p d X := by
  obtain ⟨F, h1, h4⟩ := h.his
  exact ⟨Below.then_ h.bel hb, F, h1.on hb, fun g hg => ⟨(h4 g hg).1, Nat.lt_of_lt_of_le (h4 g hg).2 hb.size⟩⟩
theorem Side.spost (h : Side w W p d X) (hb : Below W.heap.size W W') : SPost w W p d X W' := by
  obtain ⟨F, h1, h4⟩ := h.his
  exact ⟨h.on hb, fun g hg => hb.block g (h4 g hg).2, hb.size⟩
theorem SPost.trans {p' : Nat} {d2 : Dk} {A B C : World} (h : SPost w A p d X B) (k : SPost w B p' d2 X C) : SPost w A p' d2 X C := ⟨k.1, fun g hg => (k.2.1 g hg).trans (h.2.1 g hg), Nat.le_trans h.2.2 k.2.2⟩
theorem Side.callD (h : Side w W p d X) {f : FuncId} {args : Array Value} {P : Ending → Prop}
    (hc : ∀ F, IsD w.heap.size W p d F → Calls Try.prog f args W fun e W' => P e ∧ ∃ F', IsD w.heap.size W' p d' F' ∧ Goes F W W' F') :
    Calls Try.prog f args W fun e W' => P e ∧ SPost w W p d' X W' := by
  obtain ⟨F, i1, i4⟩ := h.his
  refine (hc F i1).mono ?_
  rintro e W' ⟨he, F', j1, j2⟩
  refine ⟨he, ⟨h.bel.trans (j2.below (fun g hg => (i1.in_ g hg).1) h.bel.size), F', j1, fun g hg => ?_⟩, fun g hg => j2.turn.block g (i4 g hg).2 (i4 g hg).1, j2.turn.size⟩
  obtain ⟨k1, k4⟩ := i4 g hg
  refine ⟨fun e => ?_, Nat.lt_of_lt_of_le k4 j2.turn.size⟩
  rcases j2.back g e with e | e
  · exact k1 e
  · omega
theorem Side.write (h : Side w W p d X) (hc : d.calls ≤ 100000) (off : Int) (s : ByteArray) (ho : off ≤ 9223372036854775807) (hs : s.size ≤ maxLen) :
    Calls Try.prog 31 #[.pointer (some ⟨p, 0, none⟩), .int .i64 off, .string s] W fun e W' => e = .returned (.int .i64 (d.wErr off s.data.toList)) ∧ SPost w W p (d.write off s.data.toList) X W' :=
  h.callD fun _ hF => write_any hF hc off s ho hs
theorem Side.sync (h : Side w W p d X) (hc : d.calls ≤ 100000) :
    Calls Try.prog 56 #[.pointer (some ⟨p, 0, none⟩)] W fun e W' => e = .returned (.int .i64 d.sErr) ∧ SPost w W p d.sync X W' :=
  h.callD fun _ hF => sync_any hF hc
theorem Side.fail (h : Side w W p d X) (x : Int) (hx : -1 ≤ x ∧ x ≤ 1000000) :
    Calls Try.prog 21 #[.pointer (some ⟨p, 0, none⟩), .int .i64 x] W fun e W' => e = .returned (.tuple #[]) ∧ SPost w W p (d.fail x) X W' :=
  h.callD fun F hF => (fail_any hF x hx).mono fun e W' ⟨he, h1, h2⟩ => ⟨he, F, h1, Goes.same (h2.mono fun g e => by subst e; exact hF.self)⟩
theorem Side.size (h : Side w W p d X) : Calls Try.prog 35 #[.pointer (some ⟨p, 0, none⟩)] W fun e w' => e = .returned (.int .i64 (d.now.length : Int)) ∧ W = w' := by
  obtain ⟨F, i1, i4⟩ := h.his; exact size_any i1
theorem Side.calls (h : Side w W p d X) : Calls Try.prog 24 #[.pointer (some ⟨p, 0, none⟩)] W fun e w' => e = .returned (.int .i64 (d.calls : Int)) ∧ W = w' := by
  obtain ⟨F, i1, i4⟩ := h.his; exact calls_any i1
theorem Side.read (h : Side w W p d X) (off n : Int) : Calls Try.prog 34 #[.pointer (some ⟨p, 0, none⟩), .int .i64 off, .int .i64 n] W fun e w' => e = .returned (.string (str (d.read off n))) ∧ W = w' := by
  obtain ⟨F, i1, i4⟩ := h.his; exact read_any i1 off n
/-- a disk that a crash left, as one more disk; the old one's blocks -/
theorem Side.crash (h : Side w W p d X) (hc : d.calls ≤ 100000) {B1 m c : Nat} {A : Option Addr} {l : List Int} (hq : Row W B1 1 A m c (intC l)) (hB1 : B1 ≤ W.heap.size) (hm : m ≤ maxLen) :
    Calls Try.prog 18 #[.pointer (some ⟨p, 0, none⟩), .slice A m c] W fun e W' => ∃ p', e = .returned (.pointer (some ⟨p', 0, none⟩)) ∧ Side w W' p' (d.crash l) (fun g => g < W.heap.size) ∧ Below W.heap.size W W' := by
  obtain ⟨F, i1, i4⟩ := h.his
  refine (crash_any i1 hc hq hB1 hm).mono ?_
  rintro e W' ⟨p', F', rfl, j1, j2⟩
  exact ⟨p', rfl, ⟨Below.then_ h.bel j2, F', j1.less h.bel.size, fun g hg => ⟨fun e => by have := (j1.in_ g e).1; omega, Nat.lt_of_lt_of_le hg j2.size⟩⟩, j2⟩
end
theorem new_side {w W : World} (hw : Below w.heap.size w W) : Calls Try.prog 13 #[] W fun e W' => ∃ p, e = .returned (.pointer (some ⟨p, 0, none⟩)) ∧ Side w W' p Dk.new (fun g => g < W.heap.size) ∧ Below W.heap.size W W' := by
  refine (new_any W).mono ?_
  rintro e W' ⟨p, rfl, h1, h2⟩
  exact ⟨p, rfl, ⟨Below.then_ hw h2, _, h1.less hw.size, fun g hg => ⟨fun e => by have := (h1.in_ g e).1; omega, Nat.lt_of_lt_of_le hg h2.size⟩⟩, h2⟩
/-- a disk whose blocks lie below what another's call leaves alone -/
theorem Side.apart {w W W' : World} {p p' : Nat} {d d' : Dk} {X : Nat → Prop} {B : Nat} (h : Side w W p d X) (hB : ∀ F, IsD w.heap.size W p d F → ∀ g, F g → g < B) (k : SPost w W p' d' (fun g => g < B) W') (hX : ∀ g, X g → g < B) : Side w W' p d X := by
  obtain ⟨F, i1, i4⟩ := h.his
  exact ⟨k.1.bel, F, i1.keep (fun g hg => k.2.1 g (hB F i1 g hg)) k.2.2, fun g hg => ⟨(i4 g hg).1, Nat.lt_of_lt_of_le (i4 g hg).2 k.2.2⟩⟩
theorem Side.less {w W : World} {p : Nat} {d : Dk} {X Y : Nat → Prop} (h : Side w W p d X) (hY : ∀ g, Y g → X g) : Side w W p d Y := by
  obtain ⟨F, i1, i4⟩ := h.his
  exact ⟨h.bel, F, i1, fun g hg => i4 g (hY g hg)⟩
end Go.Proofs.Ythhpnlobhffimaa
