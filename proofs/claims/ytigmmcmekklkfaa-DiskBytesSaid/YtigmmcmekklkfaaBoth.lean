/- A disk and the reference's disk in one memory. -/
import Derived.Test.YtigmmcmekklkfaaCrashT
import Derived.Test.YtigmmcmekklkfaaRefC
namespace Go.Proofs.Ytigmmcmekklkfaa
set_option maxRecDepth 100000
open Go.RowKit
def Keep (X : Nat → Prop) (W W' : World) : Prop := ∀ g, X g → W'.heap[g]? = W.heap[g]?
theorem Keep.trans {X : Nat → Prop} {A B C : World} (h : Keep X A B) (k : Keep X B C) : Keep X A C := fun g hg => (k g hg).trans (h g hg)
theorem Keep.full {X : Nat → Prop} {A B : World} (h : Keep X A B) {g : Nat} {t : TypeId} {cs : List Value} (hf : Full A g t cs) (hg : X g) : Full B g t cs := (h g hg).trans hf
/-- A disk at p and the reference's at q hold d1 and d2; blocks of X are of neither. -/
structure Both (w W : World) (p q : Nat) (d1 d2 : Dk) (X : Nat → Prop) : Prop where
  bel : Below w.heap.size w W
  his : ∃ F G, IsD w.heap.size W p d1 F ∧ IsR w.heap.size W q d2 G ∧ (∀ g, F g → ¬ G g) ∧ ∀ g, X g → ¬ F g ∧ ¬ G g ∧ w.heap.size ≤ g ∧ g < W.heap.size
section
variable {w W W' : World} {p q : Nat} {d1 d2 d' : Dk} {X : Nat → Prop}
theorem Both.on (h : Both w W p q d1 d2 X) (hb : Below W.heap.size W W') : Both w W' p q d1 d2 X := by
  obtain ⟨F, G, h1, h2, h3, h4⟩ := h.his
  exact ⟨Below.then_ h.bel hb, F, G, h1.on hb, h2.on hb, h3, fun g hg => ⟨(h4 g hg).1, (h4 g hg).2.1, (h4 g hg).2.2.1, Nat.lt_of_lt_of_le (h4 g hg).2.2.2 hb.size⟩⟩
theorem Both.keep_on (h : Both w W p q d1 d2 X) (hb : Below W.heap.size W W') : Keep X W W' := by
  obtain ⟨F, G, h1, h2, h3, h4⟩ := h.his
  exact fun g hg => hb.block g (h4 g hg).2.2.2
theorem Both.drewN (h : Both w W p q d1 d2 X) (k : Nat) : Both w (W.drewN k) p q d1 d2 X := h.on (Below.drewN_ (Below.refl _ W) k)
/-- one more block is kept -/
theorem Both.more (h : Both w W p q d1 d2 X) (hb : Below W.heap.size W W') {b : Nat} (h1 : W.heap.size ≤ b) (h2 : b < W'.heap.size) : Both w W' p q d1 d2 (fun g => X g ∨ g = b) := by
  obtain ⟨F, G, i1, i2, i3, i4⟩ := h.his
  have hw := h.bel.size
  refine ⟨Below.then_ h.bel hb, F, G, i1.on hb, i2.on hb, i3, ?_⟩
  rintro g (hg | rfl)
  · exact ⟨(i4 g hg).1, (i4 g hg).2.1, (i4 g hg).2.2.1, Nat.lt_of_lt_of_le (i4 g hg).2.2.2 hb.size⟩
  · exact ⟨fun e => by have := (i1.in_ g e).2; omega, fun e => by have := (i2.in_ g e).2; omega, by omega, h2⟩
theorem Both.less (h : Both w W p q d1 d2 X) {Y : Nat → Prop} (hY : ∀ g, Y g → X g) : Both w W p q d1 d2 Y := by
  obtain ⟨F, G, i1, i2, i3, i4⟩ := h.his
  exact ⟨h.bel, F, G, i1, i2, i3, fun g hg => i4 g (hY g hg)⟩
/-- a kept block is written -/
theorem Both.set_ (h : Both w W p q d1 d2 X) {a : Addr} (ha : X a.block) (u : Value) : Both w (W.setCell a u) p q d1 d2 X := by
  obtain ⟨F, G, i1, i2, i3, i4⟩ := h.his
  obtain ⟨k1, k2, k3, k4⟩ := i4 _ ha
  have hz : (W.setCell a u).heap.size = W.heap.size := by simp [World.setCell]
  exact ⟨h.bel.setCell k3 u, F, G, i1.keep (fun g hg => Below.heap_setCell _ _ _ _ (by rintro rfl; exact k1 hg)) (by rw [hz]; exact Nat.le_refl _), i2.keep (fun g hg => Below.heap_setCell _ _ _ _ (by rintro rfl; exact k2 hg)) (by rw [hz]; exact Nat.le_refl _), i3, fun g hg => by rw [hz]; exact i4 g hg⟩
def DPost (w W : World) (p q : Nat) (d1' d2' : Dk) (X : Nat → Prop) (W' : World) : Prop := Both w W' p q d1' d2' X ∧ Keep X W W'
/-- a call on the disk -/
theorem Both.callD (h : Both w W p q d1 d2 X) {f : FuncId} {args : Array Value} {P : Ending → Prop}
    (hc : ∀ F, IsD w.heap.size W p d1 F → Calls Try.prog f args W fun e W' => P e ∧ ∃ F', IsD w.heap.size W' p d' F' ∧ Goes F W W' F') :
    Calls Try.prog f args W fun e W' => P e ∧ DPost w W p q d' d2 X W' := by
  obtain ⟨F, G, i1, i2, i3, i4⟩ := h.his
  refine (hc F i1).mono ?_
  rintro e W' ⟨he, F', j1, j2⟩
  refine ⟨he, ⟨h.bel.trans (j2.below (fun g hg => (i1.in_ g hg).1) h.bel.size), F', G, j1, i2.apart j2.turn (fun g hg hf => i3 g hf hg), fun g hf hg => ?_, fun g hg => ?_⟩, fun g hg => j2.turn.block g (i4 g hg).2.2.2 (i4 g hg).1⟩
  · rcases j2.back g hf with e | e
    · exact i3 g e hg
    · have := (i2.in_ g hg).2; omega
  · obtain ⟨k1, k2, k3, k4⟩ := i4 g hg
    refine ⟨fun e => ?_, k2, k3, Nat.lt_of_lt_of_le k4 j2.turn.size⟩
    rcases j2.back g e with e | e
    · exact k1 e
    · omega
/-- a call on the reference's -/
theorem Both.callR (h : Both w W p q d1 d2 X) {f : FuncId} {args : Array Value} {P : Ending → Prop}
    (hc : ∀ G, IsR w.heap.size W q d2 G → Calls Try.prog f args W fun e W' => P e ∧ ∃ G', IsR w.heap.size W' q d' G' ∧ Goes G W W' G') :
    Calls Try.prog f args W fun e W' => P e ∧ DPost w W p q d1 d' X W' := by
  obtain ⟨F, G, i1, i2, i3, i4⟩ := h.his
  refine (hc G i2).mono ?_
  rintro e W' ⟨he, G', j1, j2⟩
  refine ⟨he, ⟨h.bel.trans (j2.below (fun g hg => (i2.in_ g hg).1) h.bel.size), F, G', i1.apart j2.turn (fun g hf hg => i3 g hf hg), j1, fun g hf hg => ?_, fun g hg => ?_⟩, fun g hg => j2.turn.block g (i4 g hg).2.2.2 (i4 g hg).2.1⟩
  · rcases j2.back g hg with e | e
    · exact i3 g hf e
    · have := (i1.in_ g hf).2; omega
  · obtain ⟨k1, k2, k3, k4⟩ := i4 g hg
    refine ⟨k1, fun e => ?_, k3, Nat.lt_of_lt_of_le k4 j2.turn.size⟩
    rcases j2.back g e with e | e
    · exact k2 e
    · omega
def ErrIs (n : Int) (e : Ending) : Prop := e = .returned (.int .i64 n)
theorem Both.write (h : Both w W p q d1 d2 X) (hc : d1.calls ≤ 100000) (off : Int) (s : ByteArray) (ho : off ≤ 9223372036854775807) (hs : s.size ≤ maxLen) :
    Calls Try.prog 27 #[.pointer (some ⟨p, 0, none⟩), .int .i64 off, .string s] W fun e W' => e = .returned (.int .i64 (d1.wErr off s.data.toList)) ∧ DPost w W p q (d1.write off s.data.toList) d2 X W' :=
  h.callD fun _ hF => write_any hF hc off s ho hs
theorem Both.rwrite (h : Both w W p q d1 d2 X) (hc : d2.calls ≤ 100000) (off : Int) (s : List UInt8) (ho : off ≤ 9223372036854775807) (hs : s.length ≤ 1099511627776) :
    Calls Try.prog 32 #[.pointer (some ⟨q, 0, none⟩), .int .i64 off, .string (str s)] W fun e W' => e = .returned (.int .i64 (d2.wErr off s)) ∧ DPost w W p q d1 (d2.write off s) X W' :=
  h.callR fun _ hG => rwrite_any hG hc off s ho hs
theorem Both.sync (h : Both w W p q d1 d2 X) (hc : d1.calls ≤ 100000) :
    Calls Try.prog 28 #[.pointer (some ⟨p, 0, none⟩)] W fun e W' => e = .returned (.int .i64 d1.sErr) ∧ DPost w W p q d1.sync d2 X W' :=
  h.callD fun _ hF => sync_any hF hc
theorem Both.rsync (h : Both w W p q d1 d2 X) (hc : d2.calls ≤ 100000) :
    Calls Try.prog 33 #[.pointer (some ⟨q, 0, none⟩)] W fun e W' => e = .returned (.int .i64 d2.sErr) ∧ DPost w W p q d1 d2.sync X W' :=
  h.callR fun G hG => (rsync_any hG (by omega)).mono fun e W' ⟨he, h1, h2⟩ => ⟨he, G, h1, Goes.same (h2.mono fun g e => by subst e; exact hG.self)⟩
theorem Both.fail (h : Both w W p q d1 d2 X) (x : Int) (hx : -1 ≤ x ∧ x ≤ 1000000) :
    Calls Try.prog 30 #[.pointer (some ⟨p, 0, none⟩), .int .i64 x] W fun e W' => e = .returned (.tuple #[]) ∧ DPost w W p q (d1.fail x) d2 X W' :=
  h.callD fun F hF => (fail_any hF x hx).mono fun e W' ⟨he, h1, h2⟩ => ⟨he, F, h1, Goes.same (h2.mono fun g e => by subst e; exact hF.self)⟩
theorem Both.rfail (h : Both w W p q d1 d2 X) (x : Int) (hx : -1 ≤ x ∧ x ≤ 1000000) :
    Calls Try.prog 35 #[.pointer (some ⟨q, 0, none⟩), .int .i64 x] W fun e W' => e = .returned (.tuple #[]) ∧ DPost w W p q d1 (d2.fail x) X W' :=
  h.callR fun G hG => (rfail_any hG x hx).mono fun e W' ⟨he, h1, h2⟩ => ⟨he, G, h1, Goes.same (h2.mono fun g e => by subst e; exact hG.self)⟩
theorem Both.size (h : Both w W p q d1 d2 X) : Calls Try.prog 17 #[.pointer (some ⟨p, 0, none⟩)] W fun e w' => e = .returned (.int .i64 (d1.now.length : Int)) ∧ W = w' := by
  obtain ⟨F, G, i1, i2, i3, i4⟩ := h.his; exact size_any i1
theorem Both.rsize (h : Both w W p q d1 d2 X) : Calls Try.prog 18 #[.pointer (some ⟨q, 0, none⟩)] W fun e w' => e = .returned (.int .i64 (d2.now.length : Int)) ∧ W = w' := by
  obtain ⟨F, G, i1, i2, i3, i4⟩ := h.his; exact rsize_any i2
theorem Both.calls (h : Both w W p q d1 d2 X) : Calls Try.prog 19 #[.pointer (some ⟨p, 0, none⟩)] W fun e w' => e = .returned (.int .i64 (d1.calls : Int)) ∧ W = w' := by
  obtain ⟨F, G, i1, i2, i3, i4⟩ := h.his; exact calls_any i1
theorem Both.rcalls (h : Both w W p q d1 d2 X) : Calls Try.prog 20 #[.pointer (some ⟨q, 0, none⟩)] W fun e w' => e = .returned (.int .i64 (d2.calls : Int)) ∧ W = w' := by
  obtain ⟨F, G, i1, i2, i3, i4⟩ := h.his; exact rcalls_any i2
theorem Both.read (h : Both w W p q d1 d2 X) (off n : Int) : Calls Try.prog 29 #[.pointer (some ⟨p, 0, none⟩), .int .i64 off, .int .i64 n] W fun e w' => e = .returned (.string (str (d1.read off n))) ∧ W = w' := by
  obtain ⟨F, G, i1, i2, i3, i4⟩ := h.his; exact read_any i1 off n
theorem Both.rread (h : Both w W p q d1 d2 X) (off n : Int) : Calls Try.prog 31 #[.pointer (some ⟨q, 0, none⟩), .int .i64 off, .int .i64 n] W fun e w' => e = .returned (.string (str (d2.read off n))) ∧ ∃ k, w' = W.drewN k := by
  obtain ⟨F, G, i1, i2, i3, i4⟩ := h.his; exact rread_any i2 off n
/-- the disk that a crash leaves, in place of the disk -/
def CPost (w W : World) (q : Nat) (d1' d2 : Dk) (X : Nat → Prop) (e : Ending) (W' : World) : Prop := ∃ p', e = .returned (.pointer (some ⟨p', 0, none⟩)) ∧ Both w W' p' q d1' d2 X ∧ Below W.heap.size W W'
theorem Both.crash (h : Both w W p q d1 d2 X) (hc : d1.calls ≤ 100000) {B1 m c : Nat} {A : Option Addr} {l : List Int} (hq : Row W B1 1 A m c (intC l)) (hB1 : B1 ≤ W.heap.size) (hm : m ≤ maxLen) :
    Calls Try.prog 23 #[.pointer (some ⟨p, 0, none⟩), .slice A m c] W (CPost w W q (d1.crash l) d2 X) := by
  obtain ⟨F, G, i1, i2, i3, i4⟩ := h.his
  refine (crash_any i1 hc hq hB1 hm).mono ?_
  rintro e W' ⟨p', F', rfl, j1, j2⟩
  refine ⟨p', rfl, ⟨Below.then_ h.bel j2, F', G, j1.less h.bel.size, i2.on j2, fun g hf hg => ?_, fun g hg => ?_⟩, j2⟩
  · have := (j1.in_ g hf).1; have := (i2.in_ g hg).2; omega
  · obtain ⟨k1, k2, k3, k4⟩ := i4 g hg
    exact ⟨fun e => by have := (j1.in_ g e).1; omega, k2, k3, Nat.lt_of_lt_of_le k4 j2.size⟩
def RCPost (w W : World) (p : Nat) (d1 d2' : Dk) (X : Nat → Prop) (e : Ending) (W' : World) : Prop := ∃ q', e = .returned (.pointer (some ⟨q', 0, none⟩)) ∧ Both w W' p q' d1 d2' X ∧ Below W.heap.size W W'
theorem Both.rcrash (h : Both w W p q d1 d2 X) (hc : d2.calls ≤ 100000) {B1 m c : Nat} {A : Option Addr} {l : List Int} (hq : Row W B1 1 A m c (intC l)) (hB1 : B1 ≤ W.heap.size) (hm : m ≤ maxLen) :
    Calls Try.prog 24 #[.pointer (some ⟨q, 0, none⟩), .slice A m c] W (RCPost w W p d1 (d2.crash l) X) := by
  obtain ⟨F, G, i1, i2, i3, i4⟩ := h.his
  refine (rcrash_any i2 hc hq hB1 hm).mono ?_
  rintro e W' ⟨q', G', rfl, j1, j2⟩
  refine ⟨q', rfl, ⟨Below.then_ h.bel j2, F, G', i1.on j2, j1.less h.bel.size, fun g hf hg => ?_, fun g hg => ?_⟩, j2⟩
  · have := (j1.in_ g hg).1; have := (i1.in_ g hf).2; omega
  · obtain ⟨k1, k2, k3, k4⟩ := i4 g hg
    exact ⟨k1, fun e => by have := (j1.in_ g e).1; omega, k3, Nat.lt_of_lt_of_le k4 j2.size⟩
end
end Go.Proofs.Ytigmmcmekklkfaa
