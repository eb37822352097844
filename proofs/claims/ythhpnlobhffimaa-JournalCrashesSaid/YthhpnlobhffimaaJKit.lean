/- What the laws share: good calls of Open and Append; several disks in one memory. -/
import Derived.Test.YthhpnlobhffimaaJOpen
import Derived.Test.YthhpnlobhffimaaJArgs
namespace Go.Proofs.Ythhpnlobhffimaa
set_option maxRecDepth 100000
open Go.RowKit
/-- blocks below B are as they were -/
structure Since (B : Nat) (W W' : World) : Prop where
  keep : ∀ g, g < B → W'.heap[g]? = W.heap[g]?
  size : W.heap.size ≤ W'.heap.size
theorem Since.trans {B : Nat} {A C D : World} (h : Since B A C) (k : Since B C D) : Since B A D := ⟨fun g hg => (k.keep g hg).trans (h.keep g hg), Nat.le_trans h.size k.size⟩
theorem Since.of {B : Nat} {A C : World} (h : Below A.heap.size A C) (hB : B ≤ A.heap.size) : Since B A C := ⟨fun g hg => h.block g (by omega), h.size⟩
theorem Since.less {B C : Nat} {W W' : World} (h : Since B W W') (hc : C ≤ B) : Since C W W' := ⟨fun g hg => h.keep g (by omega), h.size⟩
section
variable {w W W' : World} {p b : Nat} {d : Dk} {j : Jn} {X : Nat → Prop}
theorem SPost.since {B : Nat} (k : SPost w W p d X W') (hB : ∀ g, g < B → X g) : Since B W W' := ⟨fun g hg => k.2.1 g (hB g hg), k.2.2⟩
theorem JPost.since {B : Nat} (k : JPost w W p b j X W') (hB : ∀ g, g < B → X g) : Since B W W' := ⟨fun g hg => k.2.1 g (hB g hg), k.2.2⟩
theorem Side.since (h : Side w W p d X) (k : Since W.heap.size W W') (hb : Below w.heap.size w W') : Side w W' p d X := by
  obtain ⟨F, i1, i4⟩ := h.his
  exact ⟨hb, F, i1.keep (fun g hg => k.keep g (i1.in_ g hg).2) k.size, fun g hg => ⟨(i4 g hg).1, Nat.lt_of_lt_of_le (i4 g hg).2 k.size⟩⟩
theorem Jw.since (h : Jw w W p b j X) (k : Since W.heap.size W W') (hb : Below w.heap.size w W') : Jw w W' p b j X :=
  ⟨h.side.since k hb, (k.keep b h.full.lt).trans h.full, h.ge, h.out, h.few⟩
theorem Jw.bel (h : Jw w W p b j X) : Below w.heap.size w W := h.side.bel
theorem Jw.less {Y : Nat → Prop} (h : Jw w W p b j X) (hY : ∀ g, Y g → X g) : Jw w W p b j Y :=
  ⟨h.side.less (fun g hg => hg.imp id (hY g)), h.full, h.ge, fun e => h.out (hY _ e), h.few⟩
theorem Jw.xlt (h : Jw w W p b j X) {g : Nat} (hg : X g) : g < W.heap.size := by
  obtain ⟨F, i1, i4⟩ := h.side.his
  exact (i4 g (.inr hg)).2
theorem JPost.trans {p2 b2 : Nat} {j2 : Jn} {A B C : World} (h : JPost w A p b j X B) (k : JPost w B p2 b2 j2 X C) : JPost w A p2 b2 j2 X C := ⟨k.1, fun g hg => (k.2.1 g hg).trans (h.2.1 g hg), Nat.le_trans h.2.2 k.2.2⟩
/-- blocks of one's own are left alone too -/
theorem Jw.plus (h : Jw w W p b j X) {Y : Nat → Prop} (hb : Below W.heap.size W W') (hY : ∀ g, Y g → W.heap.size ≤ g ∧ g < W'.heap.size) : Jw w W' p b j (fun g => X g ∨ Y g) := by
  refine ⟨(h.side.plus hb hY).less fun g hg => ?_, h.full.on hb, h.ge, ?_, h.few⟩
  · rcases hg with rfl | hg | hg
    · exact .inl (.inl rfl)
    · exact .inl (.inr hg)
    · exact .inr hg
  · rintro (e | e)
    · exact h.out e
    · have := (hY _ e).1; have := h.full.lt; omega
/-- Fail -/
theorem Jw.fail (h : Jw w W p b j X) (x : Int) (hx : -1 ≤ x ∧ x ≤ 1000000) : Calls Try.prog 21 #[.pointer (some ⟨p, 0, none⟩), .int .i64 x] W fun e W' => e = .returned (.tuple #[]) ∧ JPost w W p b ⟨j.d.fail x, j.rs, j.failed⟩ X W' :=
  (h.side.fail x hx).mono fun e W' ⟨he, h1, h2, h3⟩ => ⟨he, ⟨h1, (h2 b (.inl rfl)).trans h.full, h.ge, h.out, h.few⟩, fun g hg => h2 g (.inr hg), h3⟩
theorem Jn.Idle.fail {j : Jn} (h : j.Idle) (x : Int) : (Jn.mk (j.d.fail x) j.rs j.failed).Idle := ⟨h.ok, h.ps, h.pre⟩
/-- Open of a disk with power -/
def OpenGood (w W : World) (p : Nat) (d : Dk) (X : Nat → Prop) (e : Ending) (W' : World) : Prop :=
  ∃ b A c j, e = .returned (.tuple #[.pointer (some ⟨b, 0, none⟩), .slice A (recs d.now).length c, .int .i64 0]) ∧ j.Idle ∧ j.rs = recs d.now ∧ j.d.pw = none ∧ j.d.calls ≤ d.calls + 2 ∧ j.d = (openD d).2 ∧
    JPost w W p b j X W' ∧ W.heap.size ≤ b ∧ Jw w W' p b j (fun g => X g ∨ (Value.slice A (recs d.now).length c).ownBlock = some g) ∧
    W'.ownsRow W.heap.size 9 1 (.slice A (recs d.now).length c) (recs d.now).length (strC ((recs d.now).map str))
theorem open_good (h : Side w W p d X) (hp : d.pw = none) (hc : d.calls ≤ 90000) : Calls Try.prog 14 #[.pointer (some ⟨p, 0, none⟩)] W (OpenGood w W p d X) := by
  obtain ⟨o1, o2, o3, o4, o5, o6⟩ := open_on h.good hp
  refine (open_any h hc).mono ?_
  rintro e W' (⟨h0, _⟩ | ⟨_, b, A, c, rfl, hj, hb, hj2, hr⟩)
  · exact (h0 o1).elim
  · exact ⟨b, A, c, _, rfl, o2, rfl, o4, o5, rfl, hj, hb, hj2, hr⟩
/-- Append with power for the four calls -/
def AppGood (w W : World) (p b : Nat) (j : Jn) (r : List UInt8) (X : Nat → Prop) (e : Ending) (W' : World) : Prop :=
  e = .returned (.int .i64 0) ∧ ∃ j', j' = ⟨j.d4 r, j.rs ++ [r], false⟩ ∧ j'.Idle ∧ j'.d.pw = lessN j.d.pw 4 ∧ j'.d.calls = j.d.calls + 4 ∧ JPost w W p b j' X W'
theorem app_good (h : Jw w W p b j X) (hi : j.Idle) (hp : lasts j.d.pw 4) (hc : j.d.calls ≤ 90000) (s : ByteArray) (hs : s.size ≤ 281474976710656) (hl : j.tooLong s.data.toList = false) :
    Calls Try.prog 16 #[.pointer (some ⟨b, 0, none⟩), .string s] W (AppGood w W p b j s.data.toList X) := by
  obtain ⟨a1, a2, a3, a4, a5⟩ := app_on hi h.side.good hl hp
  refine (app_any h hc s hs).mono ?_
  rintro e W' ⟨he, hP⟩
  rw [a1] at he hP
  exact ⟨he, _, rfl, a2, a4, a5, hP⟩
/-- Append that the power breaks off -/
def AppBad (w W : World) (p b : Nat) (j : Jn) (r : List UInt8) (m : Nat) (X : Nat → Prop) (e : Ending) (W' : World) : Prop :=
  e = .returned (.int .i64 30) ∧ ∃ d', Torn j r m d' ∧ d'.calls = j.d.calls + m ∧ JPost w W p b ⟨d', j.rs, true⟩ X W'
theorem app_bad (h : Jw w W p b j X) (hi : j.Idle) {m : Nat} (hp : j.d.pw = some m) (hm : m < 4) (hc : j.d.calls ≤ 90000) (s : ByteArray) (hs : s.size ≤ 281474976710656) (hl : j.tooLong s.data.toList = false) :
    Calls Try.prog 16 #[.pointer (some ⟨b, 0, none⟩), .string s] W (AppBad w W p b j s.data.toList m X) := by
  obtain ⟨d', a1, a2, a3, a4⟩ := app_off hi h.side.good hl hp hm
  refine (app_any h hc s hs).mono ?_
  rintro e W' ⟨he, hP⟩
  rw [a1] at he hP
  exact ⟨he, d', a3, a4, hP⟩
/-- one that follows it -/
theorem app_dead (h : Jw w W p b j X) (hf : j.failed = true) (s : ByteArray) :
    Calls Try.prog 16 #[.pointer (some ⟨b, 0, none⟩), .string s] W fun e W' => e = .returned (.int .i64 30) ∧ JPost w W p b j X W' := by
  have e0 : j.app s.data.toList = (30, j) := by unfold Jn.app; rw [if_pos hf]
  refine (app_failed h hf s).mono ?_
  rintro e W' ⟨he, hP⟩
  rw [e0] at he hP
  exact ⟨he, hP⟩
/-- Crash -/
theorem Jw.crash (h : Jw w W p b j X) (hc : j.d.calls ≤ 100000) {B1 m c : Nat} {A : Option Addr} {l : List Int} (hq : Row W B1 1 A m c (intC l)) (hB1 : B1 ≤ W.heap.size) (hm : m ≤ maxLen) :
    Calls Try.prog 18 #[.pointer (some ⟨p, 0, none⟩), .slice A m c] W fun e W' => ∃ p', e = .returned (.pointer (some ⟨p', 0, none⟩)) ∧ Side w W' p' (j.d.crash l) (fun g => g < W.heap.size) ∧ Below W.heap.size W W' :=
  h.side.crash hc hq hB1 hm
theorem tooLong_small {j : Jn} {r : List UInt8} {n : Nat} (he : j.e ≤ n) (hr : r.length ≤ 2000) (hn : n ≤ 1000000) : j.tooLong r = false := by
  unfold Jn.tooLong
  have := body_small r 2000 hr (by decide)
  simp; omega
theorem e_snoc {d d' : Dk} {rs : List (List UInt8)} {r : List UInt8} {f f' : Bool} (hr : r.length ≤ 2000) : (Jn.mk d' (rs ++ [r]) f').e ≤ (Jn.mk d rs f).e + 2015 := by
  show (fl (rs ++ [r])).length ≤ (fl rs).length + 2015
  rw [fl_snoc, List.length_append, frame_len]
  have := body_small r 2000 hr (by decide)
  omega
end
end Go.Proofs.Ythhpnlobhffimaa
