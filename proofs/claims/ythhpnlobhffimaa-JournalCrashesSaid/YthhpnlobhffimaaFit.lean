/- What changes of a disk's cells and rows make of it. -/
import Derived.Test.YthhpnlobhffimaaBasic2
namespace Go.Proofs.Ythhpnlobhffimaa
set_option maxRecDepth 100000
open Go.RowKit
theorem owns_turn {w w' : World} {G : Nat → Prop} {base size n : Nat} {e : TypeId} {v : Value} {xs : List Value} (h : w.ownsRow base e size v n xs) (ht : Turn G w w') (hG : ∀ g, v.ownBlock = some g → ¬ G g) : w'.ownsRow base e size v n xs :=
  owns_keep h fun g hg => ht.block g (owns_lt h g hg) (hG g hg)
theorem rows_ne {w : World} {b1 b2 s1 s2 n1 n2 : Nat} {e1 e2 : TypeId} {v1 v2 : Value} {xs ys : List Value} (h1 : w.ownsRow b1 e1 s1 v1 n1 xs) (h2 : w.ownsRow b2 e2 s2 v2 n2 ys) (hne : e1 ≠ e2) : ∀ g, v1.ownBlock = some g → v2.ownBlock ≠ some g := by
  intro g hg hg2
  rcases h1.2 with ⟨rfl, _⟩ | ⟨g1, c1, cur1, rfl, _, hh1, _⟩
  · simp [Value.ownBlock] at hg
  · rcases h2.2 with ⟨rfl, _⟩ | ⟨g2, c2, cur2, rfl, _, hh2, _⟩
    · simp [Value.ownBlock] at hg2
    · obtain rfl : g1 = g := by simpa [Value.ownBlock] using hg
      obtain rfl : g2 = g1 := by simpa [Value.ownBlock] using hg2
      rw [hh1] at hh2
      injection hh2 with hh2
      injection hh2 with _ hh2
      exact hne hh2
theorem row_p {w : World} {p : Nat} {cs : List Value} (hf : Full w p 71 cs) {b1 s1 n1 : Nat} {e1 : TypeId} {v1 : Value} {xs : List Value} (h1 : w.ownsRow b1 e1 s1 v1 n1 xs) (hne : 71 ≠ e1) : ∀ g, v1.ownBlock = some g → g ≠ p := by
  rintro g hg rfl
  exact hf.not_row h1 hne hg.symm
/-- A disk in the midst of a call: its cells and rows, without what they say of each other. -/
structure Mid (w w' : World) (p : Nat) (F : Nat → Prop) (now syn : List UInt8) (ps : List Pc) (a b c : Value) (pw lf cl : Int) : Prop where
  full : Full w' p 71 [a, b, c, .int .i64 pw, .int .i64 lf, .int .i64 cl]
  now : w'.ownsRow 0 5 1 a now.length (bytC now)
  syn : w'.ownsRow 0 5 1 b syn.length (bytC syn)
  ps : w'.ownsRow 0 86 2 c ps.length (pcC ps)
  apart : ∀ g, a.ownBlock = some g → b.ownBlock ≠ some g
  self : F p
  turn : Turn F w w'
  row : ∀ g, a.ownBlock = some g ∨ b.ownBlock = some g ∨ c.ownBlock = some g → F g ∨ w.heap.size ≤ g
  in_ : ∀ g, F g → g < w.heap.size
section
variable {B : Nat} {w w' w2 : World} {p : Nat} {d d' : Dk} {F : Nat → Prop} {a b c : Value} {now syn : List UInt8} {ps : List Pc} {pw lf cl : Int}
theorem DiskH.mid (h : DiskH B w p d F a b c lf) : Mid w w p F d.now d.syn d.ps a b c (pwN d.pw) lf (d.calls : Int) where
  full := h.full
  now := h.now
  syn := h.syn
  ps := h.ps
  apart := h.apart
  self := h.self
  turn := Turn.refl _ _
  row := fun g hg => .inl (h.row g hg)
  in_ := fun g hg => (h.in_ g hg).2
theorem Mid.below (h : Mid w w' p F now syn ps a b c pw lf cl) (hb : Below w'.heap.size w' w2) : Mid w w2 p F now syn ps a b c pw lf cl where
  full := h.full.on hb
  now := own_keep h.now hb
  syn := own_keep h.syn hb
  ps := own_keep h.ps hb
  apart := h.apart
  self := h.self
  turn := h.turn.trans_ (Turn.of hb)
  row := h.row
  in_ := h.in_
theorem Mid.ne_p (h : Mid w w' p F now syn ps a b c pw lf cl) : ∀ g, a.ownBlock = some g ∨ b.ownBlock = some g ∨ c.ownBlock = some g → g ≠ p := by
  rintro g (hg | hg | hg)
  · exact row_p h.full h.now (by decide) g hg
  · exact row_p h.full h.syn (by decide) g hg
  · exact row_p h.full h.ps (by decide) g hg
/-- other values in the number cells -/
theorem Mid.nums (h : Mid w w' p F now syn ps a b c pw lf cl) {pw' lf' cl' : Int} (ht : Turn (fun g => g = p) w' w2) (hf : Full w2 p 71 [a, b, c, .int .i64 pw', .int .i64 lf', .int .i64 cl']) : Mid w w2 p F now syn ps a b c pw' lf' cl' where
  full := hf
  now := owns_turn h.now ht fun g hg => h.ne_p g (.inl hg)
  syn := owns_turn h.syn ht fun g hg => h.ne_p g (.inr (.inl hg))
  ps := owns_turn h.ps ht fun g hg => h.ne_p g (.inr (.inr hg))
  apart := h.apart
  self := h.self
  turn := h.turn.late ht fun g e => .inl (by rw [e]; exact h.self)
  row := h.row
  in_ := h.in_
/-- the contents are written: in the row, ahead of the store into the disk's cell -/
theorem Mid.wrote_full (h : Mid w w' p F now syn ps a b c pw lf cl) (ht : Turn (fun g => a.ownBlock = some g) w' w2) : Full w2 p 71 [a, b, c, .int .i64 pw, .int .i64 lf, .int .i64 cl] :=
  ht.far h.full fun e => h.ne_p p (.inl e) rfl
theorem Mid.wrote (h : Mid w w' p F now syn ps a b c pw lf cl) (ht : Turn (fun g => a.ownBlock = some g) w' w2) {v : Value} {l : List UInt8} (hv : w2.ownsRow 0 5 1 v l.length (bytC l))
    (hat : v.ownBlock = a.ownBlock ∨ ∃ g, v.ownBlock = some g ∧ w'.heap.size ≤ g) : Mid w (w2.setCell ⟨p, 0, none⟩ v) p F l syn ps v b c pw lf cl := by
  have hf := h.wrote_full ht
  have hs2 := owns_turn h.syn ht fun g hg e => h.apart g e hg
  have hp2 := owns_turn h.ps ht fun g hg e => rows_ne h.now h.ps (by decide) g e hg
  have tp : Turn (fun g => g = p) w2 (w2.setCell ⟨p, 0, none⟩ v) := Turn.set_ (F := fun g => g = p) (a := ⟨p, 0, none⟩) rfl v
  have hsz := h.turn.size
  exact {
    full := hf.set_ 0 v
    now := owns_turn hv tp (row_p hf hv (by decide))
    syn := owns_turn hs2 tp (row_p hf hs2 (by decide))
    ps := owns_turn hp2 tp (row_p hf hp2 (by decide))
    apart := fun g hg hb => by
      rcases hat with e | ⟨g', e, hl⟩
      · exact h.apart g (e ▸ hg) hb
      · rw [e] at hg; injection hg with hg; subst hg
        have := owns_lt h.syn g' hb
        omega
    self := h.self
    turn := (h.turn.late ht fun g e => h.row g (.inl e)).late tp fun g e => .inl (by rw [e]; exact h.self)
    row := by
      rintro g (hg | hg)
      · rcases hat with e | ⟨g', e, hl⟩
        · exact h.row g (.inl (e ▸ hg))
        · rw [e] at hg; injection hg with hg; subst hg; right; omega
      · exact h.row g (.inr hg)
    in_ := h.in_ }
theorem Mid.wrote2_full (h : Mid w w' p F now syn ps a b c pw lf cl) (ht : Turn (fun g => b.ownBlock = some g) w' w2) : Full w2 p 71 [a, b, c, .int .i64 pw, .int .i64 lf, .int .i64 cl] :=
  ht.far h.full fun e => h.ne_p p (.inr (.inl e)) rfl
/-- .. and what was synced -/
theorem Mid.wrote2 (h : Mid w w' p F now syn ps a b c pw lf cl) (ht : Turn (fun g => b.ownBlock = some g) w' w2) {v : Value} {l : List UInt8} (hv : w2.ownsRow 0 5 1 v l.length (bytC l))
    (hat : v.ownBlock = b.ownBlock ∨ ∃ g, v.ownBlock = some g ∧ w'.heap.size ≤ g) : Mid w (w2.setCell ⟨p, 1, none⟩ v) p F now l ps a v c pw lf cl := by
  have hf := h.wrote2_full ht
  have hs2 := owns_turn h.now ht fun g hg e => h.apart g hg e
  have hp2 := owns_turn h.ps ht fun g hg e => rows_ne h.syn h.ps (by decide) g e hg
  have tp : Turn (fun g => g = p) w2 (w2.setCell ⟨p, 1, none⟩ v) := Turn.set_ (F := fun g => g = p) (a := ⟨p, 1, none⟩) rfl v
  have hsz := h.turn.size
  exact {
    full := hf.set_ 1 v
    now := owns_turn hs2 tp (row_p hf hs2 (by decide))
    syn := owns_turn hv tp (row_p hf hv (by decide))
    ps := owns_turn hp2 tp (row_p hf hp2 (by decide))
    apart := fun g ha hg => by
      rcases hat with e | ⟨g', e, hl⟩
      · exact h.apart g ha (e ▸ hg)
      · rw [e] at hg; injection hg with hg; subst hg
        have := owns_lt h.now g' ha
        omega
    self := h.self
    turn := (h.turn.late ht fun g e => h.row g (.inr (.inl e))).late tp fun g e => .inl (by rw [e]; exact h.self)
    row := by
      rintro g (hg | hg | hg)
      · exact h.row g (.inl hg)
      · rcases hat with e | ⟨g', e, hl⟩
        · exact h.row g (.inr (.inl (e ▸ hg)))
        · rw [e] at hg; injection hg with hg; subst hg; right; omega
      · exact h.row g (.inr (.inr hg))
    in_ := h.in_ }
/-- a piece is appended -/
theorem Mid.added_full (h : Mid w w' p F now syn ps a b c pw lf cl) {ob : Obj} (hg : (w'.alloc ob).grownBy w2 c.ownBlock) : Full w2 p 71 [a, b, c, .int .i64 pw, .int .i64 lf, .int .i64 cl] :=
  (h.full.alloc ob).grown hg fun e => h.ne_p p (.inr (.inr e.symm)) rfl
theorem Mid.added (h : Mid w w' p F now syn ps a b c pw lf cl) {ob : Obj} (hg : (w'.alloc ob).grownBy w2 c.ownBlock) {v : Value} {l : List Pc} (hv : w2.ownsRow 0 86 2 v l.length (pcC l))
    (hat : v.ownBlock = c.ownBlock ∨ ∃ g, v.ownBlock = some g ∧ w'.heap.size ≤ g) : Mid w (w2.setCell ⟨p, 2, none⟩ v) p F now syn l a b v pw lf cl := by
  have hf := h.added_full hg
  have ht : Turn (fun g => c.ownBlock = some g) w' w2 := (Turn.of ((Below.refl _ w').alloc (Nat.le_refl _) ob)).late (Turn.grown (F := fun g => c.ownBlock = some g) hg (fun g e => .inl e)) (fun g e => .inl e)
  have hn2 := owns_turn h.now ht fun g hg e => rows_ne h.now h.ps (by decide) g hg e
  have hs2 := owns_turn h.syn ht fun g hg e => rows_ne h.syn h.ps (by decide) g hg e
  have tp : Turn (fun g => g = p) w2 (w2.setCell ⟨p, 2, none⟩ v) := Turn.set_ (F := fun g => g = p) (a := ⟨p, 2, none⟩) rfl v
  have hsz := h.turn.size
  exact {
    full := hf.set_ 2 v
    now := owns_turn hn2 tp (row_p hf hn2 (by decide))
    syn := owns_turn hs2 tp (row_p hf hs2 (by decide))
    ps := owns_turn hv tp (row_p hf hv (by decide))
    apart := h.apart
    self := h.self
    turn := (h.turn.late ht fun g e => h.row g (.inr (.inr e))).late tp fun g e => .inl (by rw [e]; exact h.self)
    row := by
      rintro g (hg | hg | hg)
      · exact h.row g (.inl hg)
      · exact h.row g (.inr (.inl hg))
      · rcases hat with e | ⟨g', e, hl⟩
        · exact h.row g (.inr (.inr (e ▸ hg)))
        · rw [e] at hg; injection hg with hg; subst hg; right; omega
    in_ := h.in_ }
/-- no piece is left -/
theorem Mid.none_ (h : Mid w w' p F now syn ps a b c pw lf cl) : Mid w (w'.setCell ⟨p, 2, none⟩ (.slice none 0 0)) p F now syn [] a b (.slice none 0 0) pw lf cl := by
  have tp : Turn (fun g => g = p) w' (w'.setCell ⟨p, 2, none⟩ (.slice none 0 0)) := Turn.set_ (F := fun g => g = p) (a := ⟨p, 2, none⟩) rfl _
  exact {
    full := h.full.set_ 2 _
    now := owns_turn h.now tp fun g hg => h.ne_p g (.inl hg)
    syn := owns_turn h.syn tp fun g hg => h.ne_p g (.inr (.inl hg))
    ps := World.ownsRow_nil _ _ _ _
    apart := h.apart
    self := h.self
    turn := h.turn.late tp fun g e => .inl (by rw [e]; exact h.self)
    row := by
      rintro g (hg | hg | hg)
      · exact h.row g (.inl hg)
      · exact h.row g (.inr (.inl hg))
      · simp [Value.ownBlock] at hg
    in_ := h.in_ }
/-- a disk again -/
theorem Mid.end_ (h : Mid w w' p F d'.now d'.syn d'.ps a b c (pwN d'.pw) lf (d'.calls : Int)) (hl : leftOk d'.pw lf) (hg : d'.Good) (hB : ∀ g, F g → B ≤ g) (hBw : B ≤ w.heap.size) : ∃ F', IsD B w' p d' F' ∧ Goes F w w' F' := by
  refine ⟨fun g => F g ∨ (w.heap.size ≤ g ∧ g < w'.heap.size), ⟨a, b, c, lf, ?_⟩, h.turn, fun g hg => hg.imp id And.left⟩
  have hlt : ∀ g, a.ownBlock = some g ∨ b.ownBlock = some g ∨ c.ownBlock = some g → g < w'.heap.size := by
    rintro g (hg | hg | hg)
    · exact owns_lt h.now g hg
    · exact owns_lt h.syn g hg
    · exact owns_lt h.ps g hg
  exact {
    full := h.full
    lok := hl
    now := h.now
    syn := h.syn
    ps := h.ps
    apart := h.apart
    self := .inl h.self
    row := fun g hg => (h.row g hg).imp id fun hl => ⟨hl, hlt g hg⟩
    good := hg
    in_ := by
      rintro g (hg | hg)
      · exact ⟨hB g hg, Nat.lt_of_lt_of_le (h.in_ g hg) h.turn.size⟩
      · exact ⟨by omega, hg.2⟩ }
end
end Go.Proofs.Ythhpnlobhffimaa
