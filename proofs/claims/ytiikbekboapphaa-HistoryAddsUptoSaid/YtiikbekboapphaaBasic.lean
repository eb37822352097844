/- Many, has, parents, firstParent. -/
import Derived.Test.YtiikbekboapphaaHist
namespace Go.Proofs.Ytiikbekboapphaa
set_option maxRecDepth 100000
open Go.RowKit
theorem many_any {B : Nat} {w : World} {p : Nat} {cs : List Cm} {F : Nat → Prop} (h : IsH B w p cs F) : Calls Try.prog 23 #[.pointer (some ⟨p, 0, none⟩)] w fun e w' => e = .returned (.int .i64 (cs.length : Int)) ∧ w = w' := by
  obtain ⟨v, In, h⟩ := h
  obtain ⟨vs, hvl, hown, hints⟩ := h.obs
  obtain ⟨A, c, rfl⟩ := own_form hown
  have c0 : w.cell? ⟨p, 0, none⟩ = some (.slice A cs.length c) := h.full.cell 0
  clear h hown hints
  go_enter Try.func23, Try.ntmps23
  go_wp2
  go_ret
  exact ⟨rfl, rfl⟩
theorem many_nil (w : World) : Calls Try.prog 23 #[.pointer none] w fun e w' => e = .returned (.int .i64 0) ∧ w = w' := by
  go_enter Try.func23, Try.ntmps23
  go_wp2
  go_ret
  exact ⟨rfl, rfl⟩
theorem has_any {B : Nat} {w : World} {p : Nat} {cs : List Cm} {F : Nat → Prop} (h : IsH B w p cs F) (a : Int) : Calls Try.prog 41 #[.pointer (some ⟨p, 0, none⟩), .int .i64 a] w fun e w' => e = .returned (.bool (inR cs.length a)) ∧ w = w' := by
  have M := Lib.hid (many_any h)
  obtain ⟨n, hn⟩ : ∃ n, cs.length = n := ⟨_, rfl⟩
  rw [hn] at M ⊢
  clear h hn
  unfold inR
  by_cases h1 : 1 ≤ a
  · go_enter Try.func41, Try.ntmps41
    go_wp2_with (go_at_call 23; ((with_reducible refine M.out.mono ?_); rintro e w1 ⟨rfl, rfl⟩))
    go_ret
    exact ⟨by simp [h1], rfl⟩
  · have h1' : a < 1 := by omega
    go_enter Try.func41, Try.ntmps41
    go_wp2
    go_ret
    exact ⟨by simp; omega, rfl⟩
theorem has_nil (w : World) (a : Int) : Calls Try.prog 41 #[.pointer none, .int .i64 a] w fun e w' => e = .returned (.bool false) ∧ w = w' := by
  have M := Lib.hid (many_nil w)
  by_cases h1 : 1 ≤ a
  · have h2 : 0 < a := by omega
    go_enter Try.func41, Try.ntmps41
    go_wp2_with (go_at_call 23; ((with_reducible refine M.out.mono ?_); rintro e w1 ⟨rfl, rfl⟩))
    go_ret
    exact ⟨by simp; omega, rfl⟩
  · have h1' : a < 1 := by omega
    go_enter Try.func41, Try.ntmps41
    go_wp2
    go_ret
    exact ⟨by simp, rfl⟩
/-- the slice of a commit's parents, or of its first parent -/
def LeadOut (w : World) (F : Nat → Prop) (l : List Nat) (e : Ending) (w' : World) : Prop :=
  ∃ A c, e = .returned (.slice A l.length c) ∧ RowF w F 1 A l.length c (natC l) ∧ ∃ q, w' = w.drewN q
theorem ints_nat {cs : List Cm} (h : Good cs) {id : Nat} {c : Cm} (hc : cs[id - 1]? = some c) : intC c.ps = natC (leads cs id) ∧ (leads cs id).length = c.ps.length := by
  rw [leads_at hc]
  refine ⟨?_, by simp⟩
  unfold intC natC
  rw [List.map_map]
  refine List.map_congr_left fun z hz => ?_
  have : 1 ≤ z := by
    rcases Nat.eq_zero_or_pos (id - 1) with e | e
    · rw [e] at hc; rw [h.root c hc] at hz; cases hz
    · exact (canBe_in (h.rest _ c hc e) z hz).1
  simp
  omega
theorem parents_any {B : Nat} {w : World} {p : Nat} {cs : List Cm} {F : Nat → Prop} (h : IsH B w p cs F) (id : Nat) (h1 : 1 ≤ id) (h2 : id ≤ cs.length) (hs : cs.length ≤ 1000) :
    Calls Try.prog 43 #[.pointer (some ⟨p, 0, none⟩), .int .i64 (id : Int)] w (LeadOut w F (leads cs id)) := by
  obtain ⟨v, In, h⟩ := h
  obtain ⟨vs, hvl, hown, hints⟩ := h.obs
  obtain ⟨g, c, rfl, hgl, hle, _⟩ := own_some hown (by omega)
  have c0 : w.cell? ⟨p, 0, none⟩ = some (.slice (some ⟨g, 0, none⟩) cs.length c) := h.full.cell 0
  have hk : id - 1 < cs.length := by omega
  have hx := cmsC_at hvl hk (j := 0) (by omega)
  obtain ⟨cm, hcm⟩ : ∃ cm, cs[id - 1] = cm := ⟨_, rfl⟩
  have hcs : cs[id - 1]? = some cm := by rw [List.getElem?_eq_getElem hk, hcm]
  obtain ⟨u, hu⟩ : ∃ u, vs[id - 1]'(by omega) = u := ⟨_, rfl⟩
  have hus : vs[id - 1]? = some u := by rw [List.getElem?_eq_getElem (by omega), hu]
  obtain ⟨⟨A, d, hA, hr⟩, _⟩ := hints _ _ _ hcs hus
  obtain ⟨hi1, hi2⟩ := ints_nat h.good hcs
  have c1 : w.cell? ⟨g, (id - 1) * 5, none⟩ = some (.slice A (leads cs id).length d) := by
    rw [(own_cell hown (by omega)).1]
    have : (id - 1) * 5 + 0 = (id - 1) * 5 := by omega
    rw [this] at hx
    rw [hx, hcm, hu, hi2]
    exact congrArg some hA
  have HR := Lib.hid (show RowF w F 1 A (leads cs id).length d (natC (leads cs id)) from by
    rw [← hi1, hi2]
    exact hr.keep fun g hg => ⟨(h.inn g hg).1, rfl⟩)
  obtain ⟨l, hl⟩ : ∃ l, leads cs id = l := ⟨_, rfl⟩
  rw [hl] at HR c1 ⊢
  obtain ⟨n, hn⟩ : ∃ n, cs.length = n := ⟨_, rfl⟩
  rw [hn] at hk c0 h2 hs
  obtain ⟨m, hm⟩ : ∃ m, l.length = m := ⟨_, rfl⟩
  unfold LeadOut
  rw [hm] at HR c1 ⊢
  have i0 : (0 : Int) ≤ (id : Int) - 1 := by omega
  have i1 : (id : Int) - 1 < (n : Int) := by omega
  clear h hown hints hr hx hvl hm hl hn hi1 hi2 hA hus hcs hu hcm
  go_enter Try.func43, Try.ntmps43
  go_wp2
  go_ret
  exact ⟨A, d, rfl, HR.out, 0, rfl⟩
theorem RowF.take {w : World} {F : Nat → Prop} {A : Option Addr} {n c k : Nat} {xs : List Value} (h : RowF w F 1 A n c xs) (hk : k ≤ n) : RowF w F 1 A k c (xs.take k) := by
  obtain ⟨h1, h2, h3, h4⟩ := h
  refine ⟨by rw [List.length_take]; omega, by omega, h3, fun j u hj => ?_⟩
  have hlt := (List.getElem?_eq_some_iff.1 hj).1
  rw [List.length_take] at hlt
  rw [List.getElem?_take_of_lt (by omega)] at hj
  exact h4 j u hj
theorem cut_to (t e : TypeId) (size : Nat) (ht : Try.prog.underlying t = some (.slice e)) (hz : ∀ W, (Go.sizeOf e).run Try.prog W = .ok size W) (A : Option Addr) (n c k : Nat) (h2 : k ≤ n) (h3 : n ≤ c) :
    ∀ W, (Instr.slice t (.slice A n c) none (some (.int .i64 (k : Int))) none).run Try.prog W = .ok (.slice A k c) W := by
  intro W
  have he : Try.prog.elem t = e := by simp [Program.elem, ht]
  rw [run_slice_h W t A n c (by rw [he]; exact ht) _ _ (by omega) (by omega), he, hz]
  simp only [Result.andThen_ok, sliced]
  by_cases hc : c = 0 <;> simp [hc, Addr.add]
theorem first_any {B : Nat} {w : World} {p : Nat} {cs : List Cm} {F : Nat → Prop} (h : IsH B w p cs F) (id : Nat) (h1 : 1 ≤ id) (h2 : id ≤ cs.length) (hs : cs.length ≤ 1000) :
    Calls Try.prog 46 #[.pointer (some ⟨p, 0, none⟩), .int .i64 (id : Int)] w (LeadOut w F (firsts cs id)) := by
  have P := Lib.hid (parents_any h id h1 h2 hs)
  unfold LeadOut at P ⊢
  obtain ⟨l, hl⟩ : ∃ l, leads cs id = l := ⟨_, rfl⟩
  have hf : firsts cs id = l.take 1 := by unfold firsts; rw [hl]
  have hfew : l.length ≤ 2 := by rw [← hl]; exact leads_few h.good id
  rw [hl] at P
  rw [hf]
  obtain ⟨m, hm⟩ : ∃ m, l.length = m := ⟨_, rfl⟩
  rw [hm] at P hfew
  have hmin : (l.take 1).length = min 1 m := by rw [List.length_take, hm]
  have FX := Lib.hid (fun (w : World) (A : Option Addr) (c : Nat) (hr : RowF w F 1 A m c (natC l)) => (show RowF w F 1 A (l.take 1).length c (natC (l.take 1)) from by
    rw [hmin, natC_take]
    by_cases hm0 : m = 0
    · subst hm0
      have : l = [] := List.eq_nil_of_length_eq_zero hm
      subst this
      exact hr
    · have := hr.take (k := 1) (by omega)
      rwa [show min 1 m = 1 by omega]))
  have CUT := Lib.hid (fun (A : Option Addr) (c k : Nat) (h2 : k ≤ m) (h3 : m ≤ c) => cut_to 23 3 1 Try.underlying23 (fun _ => by kernel_rfl) A m c k h2 h3)
  rw [hmin] at FX ⊢
  have hs0 := CUT
  by_cases hm0 : m = 0
  · subst hm0
    clear hf hl hm h hmin
    go_enter Try.func46, Try.ntmps46
    go_wp2_with (go_at_call 43; ((with_reducible refine P.out.mono ?_); rintro e w1 ⟨A, c, rfl, hr, q, rfl⟩; (have hc : ∀ W, (Instr.slice 23 (.slice A 0 c) none (some (.int .i64 0)) none).run Try.prog W = .ok (.slice A 0 c) W := CUT.out A c 0 (by omega) hr.2.1)))
    go_ret
    exact ⟨A, c, rfl, FX.out _ _ _ hr, q, rfl⟩
  · have hk : min 1 m = 1 := by omega
    rw [hk] at FX ⊢
    have hm1 : (1 : Int) ≤ (m : Int) := by omega
    have hm2 : 1 ≤ m := by omega
    clear hf hl hm h hmin hk
    go_enter Try.func46, Try.ntmps46
    go_wp2_with (go_at_call 43; ((with_reducible refine P.out.mono ?_); rintro e w1 ⟨A, c, rfl, hr, q, rfl⟩; (have hc : ∀ W, (Instr.slice 23 (.slice A m c) none (some (.int .i64 1)) none).run Try.prog W = .ok (.slice A 1 c) W := CUT.out A c 1 (by omega) hr.2.1)))
    go_ret
    exact ⟨A, c, rfl, FX.out _ _ _ hr, q, rfl⟩
end Go.Proofs.Ytiikbekboapphaa
