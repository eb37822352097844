/- A journal under a power failure; a list that grows beside a journal. -/
import Derived.Test.YthhpnlobhffimaaJKit3
namespace Go.Proofs.Ythhpnlobhffimaa
set_option maxRecDepth 100000
open Go.RowKit
def SmallR (rs : List (List UInt8)) (k : Nat) : Prop := rs.length ≤ k ∧ ∀ r ∈ rs, r.length ≤ 300
/-- the journal behind k appends, whatever the power did -/
def Sm (j : Jn) (k : Nat) : Prop := j.d.calls ≤ 10 + 4 * k ∧ ((j.Idle ∧ SmallR j.rs k) ∨ (j.failed = true ∧ ∀ q : List Int, SmallR (recs (j.d.left q)) k))
theorem SmallR.more {rs : List (List UInt8)} {k k' : Nat} (h : SmallR rs k) (hk : k ≤ k') : SmallR rs k' := ⟨Nat.le_trans h.1 hk, h.2⟩
theorem SmallR.snoc {rs : List (List UInt8)} {k : Nat} {r : List UInt8} (h : SmallR rs k) (hr : r.length ≤ 300) : SmallR (rs ++ [r]) (k + 1) :=
  ⟨by rw [List.length_append]; have := h.1; simp; omega, fun x hx => by
    rcases List.mem_append.1 hx with hx | hx
    · exact h.2 x hx
    · simp at hx; subst hx; exact hr⟩
theorem SmallR.e_le {rs : List (List UInt8)} {k : Nat} (h : SmallR rs k) : (fl rs).length ≤ 2015 * k := by
  have hle : ∀ rs : List (List UInt8), (∀ r ∈ rs, r.length ≤ 300) → (fl rs).length ≤ 2015 * rs.length := by
    intro rs
    induction rs with
    | nil => intro _; simp [fl]
    | cons r t ih =>
      intro hr
      have a := body_small r 300 (hr r List.mem_cons_self) (by decide)
      have b := ih fun x hx => hr x (List.mem_cons_of_mem _ hx)
      rw [fl_cons, List.length_append, frame_len, List.length_cons]; omega
  have h1 := hle rs h.2
  have h2 := h.1
  exact Nat.le_trans h1 (Nat.mul_le_mul_left _ h2)
theorem Sm.left {j : Jn} {k : Nat} (h : Sm j k) (hg : j.d.Good) (q : List Int) : SmallR (recs (j.d.left q)) k := by
  rcases h.2 with ⟨h1, h2⟩ | ⟨_, h2⟩
  · rw [h1.left, h1.recs hg]; exact h2
  · exact h2 q
theorem sm_step {w W : World} {p b : Nat} {j : Jn} {X : Nat → Prop} (h : Jw w W p b j X) {k : Nat} (hs : Sm j k) (hk : k ≤ 100) (s : ByteArray) (hz : s.size ≤ 300) :
    Calls Try.prog 16 #[.pointer (some ⟨b, 0, none⟩), .string s] W fun e W' => ∃ v j', e = .returned (.int .i64 v) ∧ Sm j' (k + 1) ∧ JPost w W p b j' X W' := by
  obtain ⟨hc, ⟨h1, h2⟩ | ⟨h1, h2⟩⟩ := hs
  · have htl : j.tooLong s.data.toList = false := tooLong_small (n := 201500) (by have := h2.e_le; unfold Jn.e; omega) (by rw [data_len]; omega) (by omega)
    have hdl : s.data.toList.length ≤ 300 := by rw [data_len]; exact hz
    cases hp : j.d.pw with
    | none =>
      refine (app_good h h1 (by rw [hp]; trivial) (by omega) s (by omega) htl).mono ?_
      rintro e W' ⟨he, j', rfl, hi, _, hcc, hP⟩
      exact ⟨0, _, he, ⟨by omega, .inl ⟨hi, h2.snoc hdl⟩⟩, hP⟩
    | some m =>
      by_cases hm : m < 4
      · refine (app_bad h h1 hp hm (by omega) s (by omega) htl).mono ?_
        rintro e W' ⟨he, d', hT, hcc, hP⟩
        refine ⟨30, _, he, ⟨by show d'.calls ≤ _; omega, .inr ⟨rfl, fun q => ?_⟩⟩, hP⟩
        show SmallR (recs (d'.left q)) _
        rw [hT q]
        split
        · exact h2.snoc hdl
        · exact h2.more (by omega)
      · refine (app_good h h1 (by rw [hp]; show 4 ≤ m; omega) (by omega) s (by omega) htl).mono ?_
        rintro e W' ⟨he, j', rfl, hi, _, hcc, hP⟩
        exact ⟨0, _, he, ⟨by omega, .inl ⟨hi, h2.snoc hdl⟩⟩, hP⟩
  · refine (app_dead h h1 s).mono ?_
    rintro e W' ⟨he, hP⟩
    exact ⟨30, j, he, ⟨by omega, .inr ⟨h1, fun q => (h2 q).more (by omega)⟩⟩, hP⟩
theorem dat_map_str (rs : List (List UInt8)) : dat (rs.map str) = rs := by
  unfold dat
  rw [List.map_map]
  conv => rhs; rw [← List.map_id rs]
  exact List.map_congr_left fun s _ => rfl
section
variable {w W W' : World} {p b : Nat} {d : Dk} {j : Jn} {X : Nat → Prop}
theorem Side.grown (h : Side w W p d X) {row : Option Nat} (hg : W.grownBy W' row) (hr : ∀ g, row = some g → X g ∧ w.heap.size ≤ g) : Side w W' p d X := by
  obtain ⟨F, i1, i4⟩ := h.his
  refine ⟨h.bel.grown hg h.bel.size (fun g e => (hr g e).2), F, i1.keep (fun g hF => hg.block g (i1.in_ g hF).2 (fun e => (i4 g (hr g e.symm).1).1 hF)) hg.size, fun g hX => ⟨(i4 g hX).1, Nat.lt_of_lt_of_le (i4 g hX).2 hg.size⟩⟩
/-- a block that is new beside a journal -/
theorem Jw.grown (h : Jw w W p b j X) {row : Option Nat} (hg : W.grownBy W' row) (hr : ∀ g, row = some g → X g ∧ w.heap.size ≤ g) {Y : Nat → Prop} (hY : ∀ g, Y g → (X g ∨ W.heap.size ≤ g) ∧ g < W'.heap.size) : Jw w W' p b j Y := by
  have hs := h.side.grown hg (fun g e => ⟨.inr (hr g e).1, (hr g e).2⟩)
  obtain ⟨F, i1, i4⟩ := h.side.his
  have hb : some b ≠ row := fun e => h.out (hr b e.symm).1
  refine ⟨?_, (hg.block b h.full.lt hb).trans h.full, h.ge, fun e => ?_, h.few⟩
  · refine ⟨hs.bel, F, i1.keep (fun g hF => hg.block g (i1.in_ g hF).2 (fun e => (i4 g (.inr (hr g e.symm).1)).1 hF)) hg.size, fun g hX => ?_⟩
    rcases hX with rfl | hX
    · exact ⟨(i4 _ (.inl rfl)).1, Nat.lt_of_lt_of_le h.full.lt hg.size⟩
    · refine ⟨fun hF => ?_, (hY g hX).2⟩
      rcases (hY g hX).1 with h1 | h1
      · exact (i4 g (.inr h1)).1 hF
      · have := (i1.in_ g hF).2; omega
  · rcases (hY b e).1 with h1 | h1
    · exact h.out h1
    · have := h.full.lt; omega
end
end Go.Proofs.Ythhpnlobhffimaa
