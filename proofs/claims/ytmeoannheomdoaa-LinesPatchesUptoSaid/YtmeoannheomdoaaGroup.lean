/- Groups of hunks, the reading of a slice of hunks, leastStart. -/
import Derived.Test.YtmeoannheomdoaaDiff
import Derived.Test.YtmeoannheomdoaaJoin
namespace Go.Proofs.Ytmeoannheomdoaa
open Go.RowKit

/-- a group of hunks of both sides, with its range in the base -/
structure Gp where
  lo : Nat
  hi : Nat
  left : List Hk
  right : List Hk
def least : List Hk → List Hk → Nat
  | [], [] => 0
  | [], h :: _ => h.a0
  | h :: _, [] => h.a0
  | h :: _, g :: _ => min h.a0 g.a0
def headIn (u : Nat) : List Hk → Option Hk
  | [] => none
  | h :: _ => if h.a0 ≤ u then some h else none
/-- the group's end, and how many hunks of each side belong u it -/
def grow : Nat → Nat → List Hk → List Hk → Nat × Nat × Nat
  | 0, u, _, _ => (u, 0, 0)
  | n + 1, u, l, r =>
    match headIn u l with
    | some h => ((grow n (max u h.a1) l.tail r).1, (grow n (max u h.a1) l.tail r).2.1 + 1, (grow n (max u h.a1) l.tail r).2.2)
    | none =>
      match headIn u r with
      | some h => ((grow n (max u h.a1) l r.tail).1, (grow n (max u h.a1) l r.tail).2.1, (grow n (max u h.a1) l r.tail).2.2 + 1)
      | none => (u, 0, 0)
def grown (l r : List Hk) : Nat × Nat × Nat := grow (l.length + r.length) (least l r) l r
def firstGp (l r : List Hk) : Gp := ⟨least l r, (grown l r).1, l.take (grown l r).2.1, r.take (grown l r).2.2⟩
def gps : Nat → List Hk → List Hk → List Gp
  | 0, _, _ => []
  | n + 1, l, r => if l.length + r.length = 0 then [] else firstGp l r :: gps n (l.drop (grown l r).2.1) (r.drop (grown l r).2.2)
theorem headIn_cons (u : Nat) (x : Hk) (t : List Hk) : headIn u (x :: t) = if x.a0 ≤ u then some x else none := rfl
theorem headIn_some {u : Nat} {l : List Hk} {h : Hk} (e : headIn u l = some h) : ∃ t, l = h :: t ∧ h.a0 ≤ u := by
  cases l with
  | nil => cases e
  | cons x t =>
    rw [headIn_cons] at e
    by_cases hx : x.a0 ≤ u
    · rw [if_pos hx] at e
      injection e with e
      subst e
      exact ⟨t, rfl, hx⟩
    · rw [if_neg hx] at e; cases e
theorem headIn_none {u : Nat} {h : Hk} {t : List Hk} (e : headIn u (h :: t) = none) : u < h.a0 := by
  rw [headIn_cons] at e
  by_cases hx : h.a0 ≤ u
  · rw [if_pos hx] at e; cases e
  · omega
theorem grow_le : ∀ (n u : Nat) (l r : List Hk), (grow n u l r).2.1 ≤ l.length ∧ (grow n u l r).2.2 ≤ r.length ∧ u ≤ (grow n u l r).1
  | 0, u, l, r => by simp [grow]
  | n + 1, u, l, r => by
    rw [grow]
    split
    · rename_i h e
      obtain ⟨t, rfl, _⟩ := headIn_some e
      have := grow_le n (max u h.a1) t r
      simp
      omega
    · split
      · rename_i h e
        obtain ⟨t, rfl, _⟩ := headIn_some e
        have := grow_le n (max u h.a1) l t
        simp
        omega
      · simp

/-- The slice holds hunks, in a block of hunks. -/
def HT (w : World) (A : Option Addr) (c : Nat) (L : List Hk) : Prop :=
  Hks w w.heap.size A c L ∧ ∀ ad, A = some ad → ∃ (cs : Array Value) (fr : Nat × Nat), w.heap[ad.block]? = some (Obj.cells cs 40 fr)
/-- What a round of Merge's loop keeps: blocks of hunks and of groups. -/
def KeepT (W W' : World) : Prop := W.heap.size ≤ W'.heap.size ∧ ∀ (k : Nat) (cs : Array Value) (t : TypeId) (fr : Nat × Nat), (t = 40 ∨ t = 76) → W.heap[k]? = some (Obj.cells cs t fr) → W'.heap[k]? = some (Obj.cells cs t fr)
theorem KeepT.refl (W : World) : KeepT W W := ⟨Nat.le_refl _, fun _ _ _ _ _ h => h⟩
theorem KeepT.trans {A B C : World} (h : KeepT A B) (k : KeepT B C) : KeepT A C := ⟨Nat.le_trans h.1 k.1, fun i cs t fr ht hf => k.2 i cs t fr ht (h.2 i cs t fr ht hf)⟩
theorem KeepT.below {A B : World} (h : Below A.heap.size A B) : KeepT A B := ⟨h.size, fun k cs t fr _ hf => (h.block k (Array.getElem?_eq_some_iff.1 hf).1).trans hf⟩
theorem KeepT.putObj (W : World) (l : Nat) (o o' : Obj) (h : W.heap[l]? = some o) (hc : o.isCells = false) : KeepT W (W.putObj l o') :=
  ⟨by simp, fun k cs t fr _ hf => by
    have hne : k ≠ l := by
      rintro rfl
      have := hf.symm.trans h
      injection this with h1
      rw [← h1] at hc
      cases hc
    exact (World.putObj_heap_other hne).trans hf⟩
theorem KeepT.setCell {w : World} {G : Nat} {t : TypeId} {cs : List Value} (h : Full w G t cs) (ht : t ≠ 40 ∧ t ≠ 76) (i : Nat) (v : Value) : KeepT w (w.setCell ⟨G, i, none⟩ v) :=
  ⟨by simp [World.setCell], fun k cs' t' fr ht' hf => by
    have hne : k ≠ G := by
      rintro rfl
      have := hf.symm.trans h
      injection this with h1
      injection h1 with _ h2
      subst h2
      rcases ht' with e | e
      · exact ht.1 e
      · exact ht.2 e
    exact (Below.heap_setCell w ⟨G, i, none⟩ v k hne).trans hf⟩
theorem KeepT.own {w w' : World} {base size n : Nat} {e : TypeId} {v : Value} {xs : List Value} (hr : w.ownsRow base e size v n xs) (he : e ≠ 40 ∧ e ≠ 76) (hg : w.grownBy w' v.ownBlock) : KeepT w w' :=
  ⟨hg.size, fun k cs t fr ht hf => (hg.block k (Array.getElem?_eq_some_iff.1 hf).1 (fun e' => by
    rcases hr.2 with ⟨rfl, _⟩ | ⟨g', cap, cur, rfl, _, hh, _⟩
    · simp [Value.ownBlock] at e'
    · obtain rfl : k = g' := by simpa [Value.ownBlock] using e'
      have := hf.symm.trans hh
      injection this with h1
      injection h1 with _ h2
      subst h2
      rcases ht with e | e
      · exact he.1 e
      · exact he.2 e)).trans hf⟩
theorem HT.keep {w w' : World} {A : Option Addr} {c : Nat} {L : List Hk} (h : HT w A c L) (hk : KeepT w w') : HT w' A c L := by
  refine ⟨⟨h.1.1, h.1.2.1, h.1.2.2.1, fun j u hj => ?_⟩, fun ad e => ?_⟩
  · obtain ⟨ad, e, hlt, hc⟩ := h.1.2.2.2 j u hj
    obtain ⟨cs, fr, hb⟩ := h.2 ad e
    refine ⟨ad, e, Nat.lt_of_lt_of_le hlt hk.1, ?_⟩
    have := hk.2 _ cs 40 fr (.inl rfl) hb
    exact (World.cell?_of_block (a := ad.add j) (by rw [add_block, this, hb])).trans hc
  · obtain ⟨cs, fr, hb⟩ := h.2 ad e
    exact ⟨cs, fr, hk.2 _ cs 40 fr (.inl rfl) hb⟩
theorem HT.own {w : World} {base n c : Nat} {A : Option Addr} {L : List Hk} (h : w.ownsRow base 40 4 (.slice A n c) n (hksC L)) (hn : n = L.length) : HT w A c L := by
  subst hn
  refine ⟨Row.own h, fun ad e => ?_⟩
  rcases h.2 with ⟨hv, _⟩ | ⟨g, cap, cur, hv, _, hg, _⟩
  · injection hv with h1 _ _
    rw [h1] at e; cases e
  · injection hv with h1 _ _
    rw [h1] at e
    injection e with e
    subst e
    exact ⟨_, _, hg⟩
theorem HT.cap {w : World} {A : Option Addr} {c : Nat} {L : List Hk} (h : HT w A c L) : L.length ≤ c := h.1.2.1
/-- the fields of a hunk in a slice -/
theorem HT.at_ {w : World} {A : Option Addr} {c : Nat} {L : List Hk} (h : HT w A c L) {k : Nat} (hk : k < L.length) : ∃ ad, A = some ad ∧ w.cell? (ad.add (k * 4)) = some (.int .i64 (L[k].a0 : Int)) ∧ w.cell? ⟨(ad.add (k * 4)).block, (ad.add (k * 4)).off + 1, none⟩ = some (.int .i64 (L[k].a1 : Int)) ∧
    w.cell? ⟨(ad.add (k * 4)).block, (ad.add (k * 4)).off + 2, none⟩ = some (.int .i64 (L[k].b0 : Int)) ∧ w.cell? ⟨(ad.add (k * 4)).block, (ad.add (k * 4)).off + 3, none⟩ = some (.int .i64 (L[k].b1 : Int)) := by
  have hf := fun j hj => flat_at hkC 4 hkC_len L k j hk hj
  obtain ⟨ad, e, _, h0⟩ := h.1.2.2.2 (k * 4 + 0) _ (hf 0 (by omega))
  obtain ⟨ad1, e1, _, h1⟩ := h.1.2.2.2 (k * 4 + 1) _ (hf 1 (by omega))
  obtain ⟨ad2, e2, _, h2⟩ := h.1.2.2.2 (k * 4 + 2) _ (hf 2 (by omega))
  obtain ⟨ad3, e3, _, h3⟩ := h.1.2.2.2 (k * 4 + 3) _ (hf 3 (by omega))
  rw [e] at e1 e2 e3
  injection e1 with e1
  injection e2 with e2
  injection e3 with e3
  subst e1 e2 e3
  rw [← add_twice] at h1 h2 h3
  exact ⟨ad, e, h0, h1, h2, h3⟩
theorem hksC_drop (L : List Hk) (l : Nat) : (hksC L).drop (l * 4) = hksC (L.drop l) := flat_drop hkC 4 hkC_len L l
theorem hksC_take (L : List Hk) (l : Nat) : (hksC L).take (l * 4) = hksC (L.take l) := flat_take hkC 4 hkC_len L l
/-- what a part of a slice of hunks is (behind a name: the walk does not take it as a rule) -/
def PartL (A A' : Option Addr) (c l : Nat) (L : List Hk) : Prop := (L.drop l).length = L.length - l ∧ ∀ w, HT w A c L → HT w A' (c - l) (L.drop l)
def PartH (A A' : Option Addr) (c k : Nat) (L : List Hk) : Prop := (L.take k).length = k ∧ ∀ w, HT w A c L → HT w A' c (L.take k)
theorem ht_l (A : Option Addr) (L : List Hk) (c l : Nat) (h2 : l ≤ L.length) (h3 : L.length ≤ c) :
    ∃ A', (∀ W, (Instr.slice 33 (.slice A L.length c) (some (.int .i64 (l : Int))) none none).run Try.prog W = .ok (.slice A' (L.length - l) (c - l)) W) ∧ PartL A A' c l L := by
  refine ⟨if c = l then A else A.map (·.add (l * 4)), fun W => ?_, List.length_drop, fun w h => ⟨?_, fun ad e => ?_⟩⟩
  · have he : Try.prog.elem 33 = 40 := by simp [Program.elem, Try.underlying33]
    have hz : (Go.sizeOf 40).run Try.prog W = .ok 4 W := by kernel_rfl
    rw [run_slice_l W 33 A L.length c (by rw [he]; exact Try.underlying33) _ _ (by omega) (by omega), he, hz]
    rfl
  · have := h.1.part h2 (Nat.le_refl _) h3 (Nat.le_refl _)
    unfold Hks
    rw [List.length_drop, ← hksC_drop]
    rwa [List.take_of_length_le (by rw [List.length_drop, h.1.1, Nat.sub_mul]; exact Nat.le_refl _)] at this
  · split at e
    · exact h.2 ad e
    · cases A with
      | none => cases e
      | some ad0 =>
        injection e with e
        subst e
        rw [add_block]
        exact h.2 ad0 rfl
theorem ht_h (A : Option Addr) (L : List Hk) (c k : Nat) (h2 : k ≤ L.length) (h3 : L.length ≤ c) :
    ∃ A', (∀ W, (Instr.slice 33 (.slice A L.length c) none (some (.int .i64 (k : Int))) none).run Try.prog W = .ok (.slice A' k c) W) ∧ PartH A A' c k L := by
  refine ⟨if c = 0 then A else A.map (·.add (0 * 4)), fun W => ?_, by simp; omega, fun w h => ⟨?_, fun ad e => ?_⟩⟩
  · have he : Try.prog.elem 33 = 40 := by simp [Program.elem, Try.underlying33]
    have hz : (Go.sizeOf 40).run Try.prog W = .ok 4 W := by kernel_rfl
    rw [run_slice_h W 33 A L.length c (by rw [he]; exact Try.underlying33) _ _ (by omega) (by omega), he, hz]
    rfl
  · have := h.1.part (Nat.zero_le k) h2 h3 (Nat.le_refl _)
    unfold Hks
    have hl : (L.take k).length = k := by simp; omega
    rw [hl, ← hksC_take]
    simpa using this
  · split at e
    · exact h.2 ad e
    · cases A with
      | none => cases e
      | some ad0 =>
        injection e with e
        subst e
        rw [add_block]
        exact h.2 ad0 rfl

def leastV (l r : List Hk) (w : World) (e : Ending) (w' : World) : Prop := e = .returned (.int .i64 (least l r : Int)) ∧ ∃ q, w' = w.drewN q

set_option maxRecDepth 100000 in
set_option maxHeartbeats 1000000 in
theorem least_any (A B : Option Addr) (l r : List Hk) (c d : Nat) (w : World) (hA : HT w A c l) (hB : HT w B d r) (h : 0 < l.length + r.length) :
    Calls Try.prog 58 #[.slice A l.length c, .slice B r.length d] w (leastV l r w) := by
  have hcA := hA.cap
  have hcB := hB.cap
  match l, r with
  | [], [] => simp at h
  | [], y :: t =>
    obtain ⟨bd, rfl, hb0, _⟩ := hB.at_ (k := 0) (by simp)
    simp only [List.getElem_cons_zero, Nat.zero_mul] at hb0
    rw [show bd.add 0 = bd from by simp [Addr.add]] at hb0
    have hl : (y :: t).length = t.length + 1 := rfl
    rw [hl]
    rw [hl] at hcB
    go_enter Try.func58, Try.ntmps58
    go_wp2
    go_ret
    exact ⟨rfl, 0, rfl⟩
  | x :: t, [] =>
    obtain ⟨ad, rfl, ha0, _⟩ := hA.at_ (k := 0) (by simp)
    simp only [List.getElem_cons_zero, Nat.zero_mul] at ha0
    rw [show ad.add 0 = ad from by simp [Addr.add]] at ha0
    have hl : (x :: t).length = t.length + 1 := rfl
    rw [hl]
    rw [hl] at hcA
    have hz : (((t.length + 1 : Nat) : Int) == 0) = false := by rw [beq_eq_false_iff_ne]; omega
    have hz2 : ((t.length : Int) + 1 == 0) = false := by rw [beq_eq_false_iff_ne]; omega
    go_enter Try.func58, Try.ntmps58
    go_wp2
    go_ret
    exact ⟨rfl, 0, rfl⟩
  | x :: t, y :: u =>
    obtain ⟨ad, rfl, ha0, _⟩ := hA.at_ (k := 0) (by simp)
    simp only [List.getElem_cons_zero, Nat.zero_mul] at ha0
    rw [show ad.add 0 = ad from by simp [Addr.add]] at ha0
    obtain ⟨bd, rfl, hb0, _⟩ := hB.at_ (k := 0) (by simp)
    simp only [List.getElem_cons_zero, Nat.zero_mul] at hb0
    rw [show bd.add 0 = bd from by simp [Addr.add]] at hb0
    have hl : (x :: t).length = t.length + 1 := rfl
    have hl2 : (y :: u).length = u.length + 1 := rfl
    rw [hl, hl2]
    rw [hl] at hcA
    rw [hl2] at hcB
    have hz : (((t.length + 1 : Nat) : Int) == 0) = false := by rw [beq_eq_false_iff_ne]; omega
    have hz2 : ((t.length : Int) + 1 == 0) = false := by rw [beq_eq_false_iff_ne]; omega
    have hz3 : (((u.length + 1 : Nat) : Int) == 0) = false := by rw [beq_eq_false_iff_ne]; omega
    have hz4 : ((u.length : Int) + 1 == 0) = false := by rw [beq_eq_false_iff_ne]; omega
    obtain ⟨m, hm⟩ : ∃ m, min x.a0 y.a0 = m := ⟨_, rfl⟩
    have hmif : min (x.a0 : Int) (y.a0 : Int) = (m : Int) := by omega
    have hR : least (x :: t) (y :: u) = m := hm
    have HR := Lib.hid hR
    clear hR hm
    go_enter Try.func58, Try.ntmps58
    go_wp2
    go_quiet (fail)
    go_wp2
    go_ret
    exact ⟨by rw [HR.out]; rfl, _, rfl⟩

end Go.Proofs.Ytmeoannheomdoaa
