/- New, Size, Calls, isOff, Fail, countCall; the reference's New, Size, Calls, off, Fail, Sync; Mod. -/
import Derived.Test.YthhpnlobhffimaaHeap
namespace Go.Proofs.Ythhpnlobhffimaa
set_option maxRecDepth 100000
open Go.RowKit

theorem new_any (w : World) : Calls Try.prog 13 #[] w fun e w' => ∃ p, e = .returned (.pointer (some ⟨p, 0, none⟩)) ∧ IsD w.heap.size w' p Dk.new (fun g => g = p) ∧ Below w.heap.size w w' := by
  go_enter Try.func13, Try.ntmps13
  go_wp2
  go_ret
  refine ⟨w.heap.size, rfl, ⟨.slice none 0 0, .slice none 0 0, .slice none 0 0, 0, ?_⟩, (Below.refl _ w).alloc (Nat.le_refl _) _⟩
  exact {
    full := Full.new w 71 [.slice none 0 0, .slice none 0 0, .slice none 0 0, .int .i64 0, .int .i64 0, .int .i64 0]
    lok := trivial
    now := World.ownsRow_nil _ _ _ _
    syn := World.ownsRow_nil _ _ _ _
    ps := World.ownsRow_nil _ _ _ _
    apart := fun g e => by simp [Value.ownBlock] at e
    self := rfl
    row := fun g e => by simp [Value.ownBlock] at e
    good := Dk.new_good
    in_ := fun g e => by subst e; simp }
theorem refNew_any (w : World) : Calls Try.prog 20 #[] w fun e w' => ∃ q, e = .returned (.pointer (some ⟨q, 0, none⟩)) ∧ IsR w.heap.size w' q Dk.new (fun g => g = q) ∧ Below w.heap.size w w' := by
  go_enter Try.func20, Try.ntmps20
  go_wp2
  go_ret
  refine ⟨w.heap.size, rfl, ⟨.slice none 0 0, 0, false, ?_⟩, (Below.refl _ w).alloc (Nat.le_refl _) _⟩
  exact {
    full := Full.new w 46 [.string ⟨#[]⟩, .string ⟨#[]⟩, .slice none 0 0, .int .i64 0, .int .i64 0, .bool false]
    lok := rfl
    bnd := by simp [Dk.new]
    ps := World.ownsRow_nil _ _ _ _
    self := rfl
    row := fun g e => by simp [Value.ownBlock] at e
    good := Dk.new_good
    in_ := fun g e => by subst e; simp }
section
variable {B : Nat} {w : World} {p : Nat} {d : Dk} {F : Nat → Prop}
theorem size_any (h : IsD B w p d F) : Calls Try.prog 35 #[.pointer (some ⟨p, 0, none⟩)] w fun e w' => e = .returned (.int .i64 (d.now.length : Int)) ∧ w = w' := by
  obtain ⟨a, b, c, lf, h⟩ := h
  obtain ⟨A, ca, rfl⟩ := own_form h.now
  have c0 : w.cell? ⟨p, 0, none⟩ = some (.slice A d.now.length ca) := h.full.cell 0
  obtain ⟨n, hn⟩ : ∃ n, d.now.length = n := ⟨_, rfl⟩
  rw [hn] at c0 ⊢
  clear h hn
  go_enter Try.func35, Try.ntmps35
  go_wp2
  go_ret
  exact ⟨rfl, rfl⟩
theorem size_nil (w : World) : Calls Try.prog 35 #[.pointer none] w fun e w' => e = .returned (.int .i64 0) ∧ w = w' := by
  go_enter Try.func35, Try.ntmps35
  go_wp2
  go_ret
  exact ⟨rfl, rfl⟩
theorem calls_any (h : IsD B w p d F) : Calls Try.prog 24 #[.pointer (some ⟨p, 0, none⟩)] w fun e w' => e = .returned (.int .i64 (d.calls : Int)) ∧ w = w' := by
  obtain ⟨a, b, c, lf, h⟩ := h
  have c0 : w.cell? ⟨p, 5, none⟩ = some (.int .i64 (d.calls : Int)) := h.full.cell 5
  obtain ⟨n, hn⟩ : ∃ n, d.calls = n := ⟨_, rfl⟩
  rw [hn] at c0 ⊢
  clear h hn
  go_enter Try.func24, Try.ntmps24
  go_wp2
  go_ret
  exact ⟨rfl, rfl⟩
theorem calls_nil (w : World) : Calls Try.prog 24 #[.pointer none] w fun e w' => e = .returned (.int .i64 0) ∧ w = w' := by
  go_enter Try.func24, Try.ntmps24
  go_wp2
  go_ret
  exact ⟨rfl, rfl⟩
theorem pwN_two (o : Option Nat) : (pwN o == 2) = offO o := by
  rcases o with _ | _ | n <;> rfl
theorem off_any {a b c : Value} {lf : Int} {n : Int} {o : Option Nat} (hf : Full w p 71 [a, b, c, .int .i64 (pwN o), .int .i64 lf, .int .i64 n]) :
    Calls Try.prog 49 #[.pointer (some ⟨p, 0, none⟩)] w fun e w' => e = .returned (.bool (offO o)) ∧ w = w' := by
  have c0 : w.cell? ⟨p, 3, none⟩ = some (.int .i64 (pwN o)) := hf.cell 3
  rw [← pwN_two]
  obtain ⟨m, hm⟩ : ∃ m, pwN o = m := ⟨_, rfl⟩
  rw [hm] at c0 ⊢
  clear hf hm
  go_enter Try.func49, Try.ntmps49
  go_wp2
  go_ret
  exact ⟨rfl, rfl⟩
theorem rcalls_any {q : Nat} (h : IsR B w q d F) : Calls Try.prog 25 #[.pointer (some ⟨q, 0, none⟩)] w fun e w' => e = .returned (.int .i64 (d.calls : Int)) ∧ w = w' := by
  obtain ⟨c, lf, lm, h⟩ := h
  have c0 : w.cell? ⟨q, 3, none⟩ = some (.int .i64 (d.calls : Int)) := h.full.cell 3
  obtain ⟨n, hn⟩ : ∃ n, d.calls = n := ⟨_, rfl⟩
  rw [hn] at c0 ⊢
  clear h hn
  go_enter Try.func25, Try.ntmps25
  go_wp2
  go_ret
  exact ⟨rfl, rfl⟩

theorem eqv_self (x : Value) : x = x := rfl
/-- a call that returned OK is counted, where the power is on -/
def CountOut (w : World) (p : Nat) (a b c : Value) (o : Option Nat) (n : Nat) (e : Ending) (w' : World) : Prop :=
  e = .returned (.tuple #[]) ∧ ∃ lf, leftOk (Dk.less o) lf ∧ Full w' p 71 [a, b, c, .int .i64 (pwN (Dk.less o)), .int .i64 lf, .int .i64 ((n : Int) + 1)] ∧ Turn (fun g => g = p) w w'
set_option maxHeartbeats 1000000 in
theorem count_any {a b c : Value} {lf : Int} {n : Nat} {o : Option Nat} (hf : Full w p 71 [a, b, c, .int .i64 (pwN o), .int .i64 lf, .int .i64 (n : Int)]) (hlf : leftOk o lf) (ho : offO o = false) (hn : n ≤ 1000000) (hm : ∀ m, o = some (m + 1) → m ≤ 1000000) :
    Calls Try.prog 50 #[.pointer (some ⟨p, 0, none⟩)] w (CountOut w p a b c o n) := by
  unfold CountOut
  have t1 : Turn (fun g => g = p) w (w.setCell ⟨p, 5, none⟩ (.int .i64 ((n : Int) + 1))) := Turn.set_ (F := fun g => g = p) (a := ⟨p, 5, none⟩) rfl _
  have f1 : Full (w.setCell ⟨p, 5, none⟩ (.int .i64 ((n : Int) + 1))) p 71 [a, b, c, .int .i64 (pwN o), .int .i64 lf, .int .i64 ((n : Int) + 1)] := hf.set_ 5 _
  have c5 : w.cell? ⟨p, 5, none⟩ = some (.int .i64 (n : Int)) := hf.cell 5
  have z5 : w.frozen? ⟨p, 5, none⟩ = false := hf.frozen 5
  have n0 : (0 : Int) ≤ (n : Int) := Int.natCast_nonneg _
  have n1 : (n : Int) ≤ 1000000 := by omega
  have d3 : (w.setCell ⟨p, 5, none⟩ (.int .i64 ((n : Int) + 1))).cell? ⟨p, 3, none⟩ = some (.int .i64 (pwN o)) := f1.cell 3
  have T1 := Lib.hid t1
  have F1 := Lib.hid f1
  rcases o with _ | _ | m
  · have d3' : (w.setCell ⟨p, 5, none⟩ (.int .i64 ((n : Int) + 1))).cell? ⟨p, 3, none⟩ = some (.int .i64 0) := d3
    clear t1 f1 hf d3 hlf ho hn
    go_enter Try.func50, Try.ntmps50
    go_wp2
    refine bodyPost_ret (v := .tuple #[]) (by simp [results, Try.results50, go_sem]) rfl ?_
    exact ⟨rfl, lf, trivial, F1.out, T1.out⟩
  · simp [offO] at ho
  · obtain rfl : lf = (m : Int) + 1 := hlf
    have d3' : (w.setCell ⟨p, 5, none⟩ (.int .i64 ((n : Int) + 1))).cell? ⟨p, 3, none⟩ = some (.int .i64 1) := d3
    have d4 : (w.setCell ⟨p, 5, none⟩ (.int .i64 ((n : Int) + 1))).cell? ⟨p, 4, none⟩ = some (.int .i64 ((m : Int) + 1)) := f1.cell 4
    have y4 : (w.setCell ⟨p, 5, none⟩ (.int .i64 ((n : Int) + 1))).frozen? ⟨p, 4, none⟩ = false := f1.frozen 4
    have T2 := Lib.hid (T1.out.trans_ (Turn.set_ (F := fun g => g = p) (a := ⟨p, 4, none⟩) rfl (.int .i64 (m : Int))))
    have F2 := Lib.hid (show Full ((w.setCell ⟨p, 5, none⟩ (.int .i64 ((n : Int) + 1))).setCell ⟨p, 4, none⟩ (.int .i64 (m : Int))) p 71 [a, b, c, .int .i64 1, .int .i64 (m : Int), .int .i64 ((n : Int) + 1)] from f1.set_ 4 _)
    have e4 : ((w.setCell ⟨p, 5, none⟩ (.int .i64 ((n : Int) + 1))).setCell ⟨p, 4, none⟩ (.int .i64 (m : Int))).cell? ⟨p, 4, none⟩ = some (.int .i64 (m : Int)) := F2.out.cell 4
    have e3 : ((w.setCell ⟨p, 5, none⟩ (.int .i64 ((n : Int) + 1))).setCell ⟨p, 4, none⟩ (.int .i64 (m : Int))).frozen? ⟨p, 3, none⟩ = false := F2.out.frozen 3
    have g3 : ((w.setCell ⟨p, 5, none⟩ (.int .i64 ((n : Int) + 1))).setCell ⟨p, 4, none⟩ (.int .i64 (m : Int))).cell? ⟨p, 3, none⟩ = some (.int .i64 1) := F2.out.cell 3
    have T3 := Lib.hid (T2.out.trans_ (Turn.set_ (F := fun g => g = p) (a := ⟨p, 3, none⟩) rfl (.int .i64 2)))
    have F3 := Lib.hid (show Full (((w.setCell ⟨p, 5, none⟩ (.int .i64 ((n : Int) + 1))).setCell ⟨p, 4, none⟩ (.int .i64 (m : Int))).setCell ⟨p, 3, none⟩ (.int .i64 2)) p 71 [a, b, c, .int .i64 2, .int .i64 (m : Int), .int .i64 ((n : Int) + 1)] from F2.out.set_ 3 _)
    have m0 : (0 : Int) ≤ (m : Int) := Int.natCast_nonneg _
    have m1 : (m : Int) ≤ 1000000 := by have := hm m rfl; omega
    have H3 : m = 0 → Hid (leftOk (Dk.less (some (m + 1))) (m : Int) ∧ pwN (Dk.less (some (m + 1))) = 2) := fun e => by subst e; exact ⟨trivial, rfl⟩
    have H2 : m ≠ 0 → Hid (leftOk (Dk.less (some (m + 1))) (m : Int) ∧ pwN (Dk.less (some (m + 1))) = 1) := fun e => by
      obtain ⟨j, rfl⟩ : ∃ j, m = j + 1 := ⟨m - 1, by omega⟩
      exact ⟨by show ((j + 1 : Nat) : Int) = (j : Int) + 1; omega, rfl⟩
    obtain ⟨O, hO⟩ : ∃ O, Dk.less (some (m + 1)) = O := ⟨_, rfl⟩
    rw [hO] at H2 H3 ⊢
    clear t1 f1 hf d3 ho hn hm hO
    by_cases hz : m = 0
    · have H := H3 hz
      obtain ⟨k, hk⟩ : ∃ k : Int, (m : Int) = k := ⟨_, rfl⟩
      have hk0 : k = 0 := by omega
      rw [hk] at F3 T3 e4 e3 g3 H d4
      subst hk0
      have d4' : (w.setCell ⟨p, 5, none⟩ (.int .i64 ((n : Int) + 1))).cell? ⟨p, 4, none⟩ = some (.int .i64 1) := d4
      clear H2 H3 F2 T2 hz hk d4 m0 m1
      go_enter Try.func50, Try.ntmps50
      go_wp2
      go_end0
      refine ⟨rfl, 0, H.1, ?_, T3.out⟩
      rw [H.2]; exact F3.out
    · have H := H2 hz
      obtain ⟨k, hk⟩ : ∃ k : Int, (m : Int) = k := ⟨_, rfl⟩
      have hne : (k == 0) = false := by simp; omega
      rw [hk] at F2 T2 e4 e3 g3 m0 m1 H d4
      clear H2 H3 F3 T3 hz hk
      go_enter Try.func50, Try.ntmps50
      go_wp2
      go_end0
      refine ⟨rfl, k, H.1, ?_, T2.out⟩
      rw [H.2]; exact F2.out
theorem fail_any (h : IsD B w p d F) (x : Int) (hx : -1 ≤ x ∧ x ≤ 1000000) : Calls Try.prog 21 #[.pointer (some ⟨p, 0, none⟩), .int .i64 x] w fun e w' => e = .returned (.tuple #[]) ∧ IsD B w' p (d.fail x) F ∧ Turn (fun g => g = p) w w' := by
  obtain ⟨a, b, c, lf, h⟩ := h
  have hf := h.full
  have hk := fun (w' : World) (pw : Int) (l : Int) (hp : pwN (d.fail x).pw = pw) (hl : leftOk (d.fail x).pw l) (hF : Full w' p 71 [a, b, c, .int .i64 pw, .int .i64 l, .int .i64 (d.calls : Int)]) (ht : Turn (fun g => g = p) w w') => (show IsD B w' p (d.fail x) F from by
    have hne : ∀ g, a.ownBlock = some g ∨ b.ownBlock = some g ∨ c.ownBlock = some g → g ≠ p := by
      rintro g hg rfl
      rcases hg with hg | hg | hg
      · exact hf.not_row h.now (by decide) hg.symm
      · exact hf.not_row h.syn (by decide) hg.symm
      · exact hf.not_row h.ps (by decide) hg.symm
    have hkk : ∀ g, a.ownBlock = some g ∨ b.ownBlock = some g ∨ c.ownBlock = some g → w'.heap[g]? = w.heap[g]? := fun g hg => ht.block g (h.in_ g (h.row g hg)).2 (hne g hg)
    exact ⟨a, b, c, l, {
      full := by rw [hp]; exact hF
      lok := hl
      now := owns_keep h.now fun g hg => hkk g (.inl hg)
      syn := owns_keep h.syn fun g hg => hkk g (.inr (.inl hg))
      ps := owns_keep h.ps fun g hg => hkk g (.inr (.inr hg))
      apart := h.apart
      self := h.self
      row := h.row
      good := Dk.fail_good h.good hx.2
      in_ := fun g hg => ⟨(h.in_ g hg).1, Nat.lt_of_lt_of_le (h.in_ g hg).2 ht.size⟩ }⟩)
  have HKK := Lib.hid hk
  have z3 : w.frozen? ⟨p, 3, none⟩ = false := hf.frozen 3
  have c3 : w.cell? ⟨p, 3, none⟩ = some (.int .i64 (pwN d.pw)) := hf.cell 3
  have hF := Lib.hid hf
  clear h hk hf
  obtain ⟨n, hn⟩ : ∃ n : Int, (d.calls : Int) = n := ⟨_, rfl⟩
  rw [hn] at HKK hF
  obtain ⟨y, hy⟩ : ∃ y, pwN d.pw = y := ⟨_, rfl⟩
  rw [hy] at c3 hF
  clear hn hy
  by_cases h1 : x < 0
  · have H1 := Lib.hid (HKK.out _ 0 lf (by simp [Dk.fail, h1, pwN]) (by simp [Dk.fail, h1, leftOk]) (hF.out.set_ 3 (.int .i64 0)) (Turn.set_ (F := fun g => g = p) (a := ⟨p, 3, none⟩) rfl _))
    go_enter Try.func21, Try.ntmps21
    go_wp2
    go_end0
    exact ⟨rfl, H1.out, Turn.set_ (F := fun g => g = p) (a := ⟨p, 3, none⟩) rfl _⟩
  · by_cases h2 : x = 0
    · subst h2
      have H1 := Lib.hid (HKK.out _ 2 lf (by simp [Dk.fail, pwN]) (by simp [Dk.fail, leftOk]) (hF.out.set_ 3 (.int .i64 2)) (Turn.set_ (F := fun g => g = p) (a := ⟨p, 3, none⟩) rfl _))
      go_enter Try.func21, Try.ntmps21
      go_wp2
      go_end0
      exact ⟨rfl, H1.out, Turn.set_ (F := fun g => g = p) (a := ⟨p, 3, none⟩) rfl _⟩
    · obtain ⟨m, hm⟩ : ∃ m : Nat, x = ((m + 1 : Nat) : Int) := ⟨(x - 1).toNat, by omega⟩
      have ht := (Turn.set_ (w := w) (F := fun g => g = p) (a := ⟨p, 3, none⟩) rfl (.int .i64 1)).trans_ (Turn.set_ (F := fun g => g = p) (a := ⟨p, 4, none⟩) rfl (.int .i64 x))
      have F1 : Full (w.setCell ⟨p, 3, none⟩ (.int .i64 1)) p 71 [a, b, c, .int .i64 1, .int .i64 lf, .int .i64 n] := hF.out.set_ 3 _
      have F2 : Full ((w.setCell ⟨p, 3, none⟩ (.int .i64 1)).setCell ⟨p, 4, none⟩ (.int .i64 x)) p 71 [a, b, c, .int .i64 1, .int .i64 x, .int .i64 n] := F1.set_ 4 _
      have hpw : (d.fail x).pw = some (m + 1) := by subst hm; simp [Dk.fail]; omega
      have H1 := Lib.hid (HKK.out _ 1 x (by rw [hpw]; rfl) (by rw [hpw]; show x = _; rw [hm]; simp) F2 ht)
      have c4 : (w.setCell ⟨p, 3, none⟩ (.int .i64 1)).cell? ⟨p, 4, none⟩ = some (.int .i64 lf) := F1.cell 4
      have z4 : (w.setCell ⟨p, 3, none⟩ (.int .i64 1)).frozen? ⟨p, 4, none⟩ = false := F1.frozen 4
      have HT := Lib.hid ht
      have e1 : (x == 0) = false := by simp [h2]
      clear ht F1 F2 hpw hm
      go_enter Try.func21, Try.ntmps21
      go_wp2
      go_end0
      exact ⟨rfl, H1.out, HT.out⟩
theorem fail_nil (w : World) (x : Int) : Calls Try.prog 21 #[.pointer none, .int .i64 x] w fun e w' => e = .returned (.tuple #[]) ∧ w = w' := by
  go_enter Try.func21, Try.ntmps21
  go_wp2
  go_end0
  exact ⟨rfl, rfl⟩
end
end Go.Proofs.Ythhpnlobhffimaa
