/- Commits and their ancestors as plain mathematics: what a commit leads to, the greatest one below a bound, and a walk that visits them in decreasing order. -/
import Derived.Test.YtiikbekboapphaaHeapMath
namespace Go.Proofs.Ytiikbekboapphaa

/-- a is b, or is reached from b by steps of lead (f steps at most) -/
def rchF (lead : Nat → List Nat) : Nat → Nat → Nat → Bool
  | 0, b, a => b == a
  | f + 1, b, a => b == a || (lead b).any fun p => rchF lead f p a
def rch (lead : Nat → List Nat) (b a : Nat) : Bool := rchF lead b b a
/-- every commit leads to smaller ones, which are at least 1 -/
def Down (lead : Nat → List Nat) : Prop := ∀ b, ∀ p ∈ lead b, 1 ≤ p ∧ p < b

theorem rchF_more {lead : Nat → List Nat} (h : Down lead) (a : Nat) : ∀ f b, b ≤ f → rchF lead f b a = rchF lead b b a := by
  intro f
  induction f using Nat.strongRecOn with
  | ind f ih =>
    intro b hb
    cases b with
    | zero =>
      cases f with
      | zero => rfl
      | succ f =>
        have : lead 0 = [] := List.eq_nil_iff_forall_not_mem.2 fun p hp => by have := h 0 p hp; omega
        simp [rchF, this]
    | succ b =>
      cases f with
      | zero => omega
      | succ f =>
        show (_ || _) = (_ || _)
        congr 1
        rw [Bool.eq_iff_iff, List.any_eq_true, List.any_eq_true]
        have e : ∀ p ∈ lead (b + 1), rchF lead f p a = rchF lead b p a := fun p hp => by
          have := h _ p hp
          rw [ih f (by omega) p (by omega)]
          by_cases hbf : b = f
          · subst hbf; exact (ih b (by omega) p (by omega)).symm
          · exact (ih b (by omega) p (by omega)).symm
        exact ⟨fun ⟨p, hp, q⟩ => ⟨p, hp, (e p hp) ▸ q⟩, fun ⟨p, hp, q⟩ => ⟨p, hp, (e p hp).symm ▸ q⟩⟩
theorem rch_step {lead : Nat → List Nat} (h : Down lead) (b a : Nat) : rch lead b a = (b == a || (lead b).any fun p => rch lead p a) := by
  unfold rch
  cases b with
  | zero =>
    have : lead 0 = [] := List.eq_nil_iff_forall_not_mem.2 fun p hp => by have := h 0 p hp; omega
    simp [rchF, this]
  | succ b =>
    show (_ || _) = (_ || _)
    congr 1
    rw [Bool.eq_iff_iff, List.any_eq_true, List.any_eq_true]
    have e : ∀ p ∈ lead (b + 1), rchF lead b p a = rchF lead p p a := fun p hp => rchF_more h a b p (by have := h _ p hp; omega)
    exact ⟨fun ⟨p, hp, q⟩ => ⟨p, hp, (e p hp) ▸ q⟩, fun ⟨p, hp, q⟩ => ⟨p, hp, (e p hp).symm ▸ q⟩⟩
theorem rch_iff {lead : Nat → List Nat} (h : Down lead) (b a : Nat) : rch lead b a = true ↔ b = a ∨ ∃ p ∈ lead b, rch lead p a = true := by
  rw [rch_step h]; simp
theorem rch_self (lead : Nat → List Nat) (b : Nat) : rch lead b b = true := by unfold rch; cases b <;> simp [rchF]
theorem rch_le {lead : Nat → List Nat} (h : Down lead) : ∀ b a, rch lead b a = true → a ≤ b := by
  intro b
  induction b using Nat.strongRecOn with
  | ind b ih =>
    intro a ha
    rcases (rch_iff h b a).1 ha with rfl | ⟨p, hp, hr⟩
    · exact Nat.le_refl _
    · have := h b p hp
      have := ih p (by omega) a hr
      omega
theorem rch_trans {lead : Nat → List Nat} (h : Down lead) : ∀ c b a, rch lead c b = true → rch lead b a = true → rch lead c a = true := by
  intro c
  induction c using Nat.strongRecOn with
  | ind c ih =>
    intro b a hb ha
    rcases (rch_iff h c b).1 hb with rfl | ⟨p, hp, hr⟩
    · exact ha
    · exact (rch_iff h c a).2 (.inr ⟨p, hp, ih p (h c p hp).2 b a hr ha⟩)
theorem rch_pos {lead : Nat → List Nat} (h : Down lead) : ∀ b a, 1 ≤ b → rch lead b a = true → 1 ≤ a := by
  intro b
  induction b using Nat.strongRecOn with
  | ind b ih =>
    intro a hb ha
    rcases (rch_iff h b a).1 ha with rfl | ⟨p, hp, hr⟩
    · exact hb
    · exact ih p (h b p hp).2 a (h b p hp).1 hr

/-- the greatest number up to n for which R holds; 0 if there is none -/
def top (R : Nat → Bool) : Nat → Nat
  | 0 => 0
  | n + 1 => if R (n + 1) then n + 1 else top R n
theorem top_le (R : Nat → Bool) : ∀ n, top R n ≤ n
  | 0 => Nat.le_refl _
  | n + 1 => by unfold top; split <;> have := top_le R n <;> omega
theorem top_holds (R : Nat → Bool) : ∀ n, 0 < top R n → R (top R n) = true
  | 0, h => by simp [top] at h
  | n + 1, h => by
    unfold top at h ⊢
    split
    · assumption
    · rename_i hn; rw [if_neg hn] at h; exact top_holds R n h
theorem top_max (R : Nat → Bool) : ∀ n m, m ≤ n → R m = true → m ≤ top R n
  | 0, m, hm, _ => by omega
  | n + 1, m, hm, hr => by
    unfold top
    split
    · exact hm
    · rename_i hn
      have : m ≠ n + 1 := fun e => hn (e ▸ hr)
      exact top_max R n m (by omega) hr
theorem top_eq {R : Nat → Bool} {n m : Nat} (hm : m ≤ n) (hr : 0 < m → R m = true) (hx : ∀ k, m < k → k ≤ n → R k = false) : top R n = m := by
  have h1 := top_le R n
  have h2 : m ≤ top R n := by
    rcases Nat.eq_zero_or_pos m with h | h
    · omega
    · exact top_max R n m hm (hr h)
  rcases Nat.lt_or_ge m (top R n) with h | h
  · have := top_holds R n (by omega)
    rw [hx _ h h1] at this
    cases this
  · omega
theorem top_zero {R : Nat → Bool} {n : Nat} (h : top R n = 0) : ∀ k, 0 < k → k ≤ n → R k = false := fun k h0 hk => by
  cases e : R k with
  | false => rfl
  | true => have := top_max R n k hk e; omega
/-- what is between the greatest one up to n and n does not count -/
theorem top_skip {R : Nat → Bool} {n m : Nat} (h1 : top R n ≤ m) (h2 : m ≤ n) : top R m = top R n :=
  top_eq h1 (fun h => top_holds R n h) (fun k hk hkm => by
    cases e : R k with
    | false => rfl
    | true => have := top_max R n k (by omega) e; omega)
theorem top_congr {R S : Nat → Bool} : ∀ {n : Nat}, (∀ k, 0 < k → k ≤ n → R k = S k) → top R n = top S n
  | 0, _ => rfl
  | n + 1, h => by
    unfold top
    rw [h (n + 1) (by omega) (Nat.le_refl _), top_congr (n := n) fun k h0 hk => h k h0 (by omega)]

/-- The walk from head has visited all down to B (all numbers from B on); l waits. -/
structure WalkL (lead : Nat → List Nat) (head B : Nat) (l : List Nat) : Prop where
  heap : HeapN l l.length
  pos : ∀ x ∈ l, 1 ≤ x ∧ x ≤ B ∧ x ≤ head
  all : ∀ a, a < B → (rch lead head a = true ↔ ∃ x ∈ l, x < B ∧ rch lead x a = true)
  few : l.length + B ≤ head + 2
theorem WalkL.new (lead : Nat → List Nat) {head : Nat} (h : 1 ≤ head) : WalkL lead head (head + 1) [head] where
  heap := fun k h0 hk => by simp at hk; omega
  pos := fun x hx => by simp at hx; subst hx; omega
  all := fun a ha => by simp
  few := by simp; omega

theorem getD_mem {l : List Nat} {k : Nat} (hk : k < l.length) : l.getD k 0 ∈ l := by
  have : l.getD k 0 = l[k] := by simp [hk]
  rw [this]; exact List.getElem_mem hk
theorem mem_getD {l : List Nat} {x : Nat} (h : x ∈ l) : ∃ k, k < l.length ∧ l.getD k 0 = x := by
  obtain ⟨k, hk, e⟩ := List.mem_iff_getElem.1 h
  exact ⟨k, hk, by simp [hk, e]⟩
theorem HeapN.max_mem {l : List Nat} (h : HeapN l l.length) : ∀ x ∈ l, x ≤ l.getD 0 0 := fun x hx => by
  obtain ⟨k, hk, e⟩ := mem_getD hx
  rw [← e]; exact h.max k hk
section
variable {lead : Nat → List Nat} {head B : Nat} {l l' : List Nat}
/-- the greatest one was visited before -/
theorem WalkL.again (h : WalkL lead head B l) (hp : (B :: l').Perm l) (hh : HeapN l' l'.length) : WalkL lead head B l' where
  heap := hh
  pos := fun x hx => h.pos x (hp.mem_iff.1 (List.mem_cons_of_mem _ hx))
  all := fun a ha => by
    rw [h.all a ha]
    refine ⟨fun ⟨x, hx, hlt, hr⟩ => ⟨x, ?_, hlt, hr⟩, fun ⟨x, hx, hlt, hr⟩ => ⟨x, hp.mem_iff.1 (List.mem_cons_of_mem _ hx), hlt, hr⟩⟩
    rcases List.mem_cons.1 (hp.mem_iff.2 hx) with rfl | h1
    · omega
    · exact h1
  few := by have := h.few; have := hp.length_eq; simp at this; omega
/-- it is the next one -/
theorem WalkL.is_top (hd : Down lead) (h : WalkL lead head B l) {id : Nat} (hm : id ∈ l) (hx : ∀ x ∈ l, x ≤ id) (hB : id < B) : top (rch lead head) (B - 1) = id := by
  have h1 := (h.pos id hm).1
  refine top_eq (by omega) (fun _ => (h.all id hB).2 ⟨id, hm, hB, rch_self _ _⟩) fun k h0 hk => ?_
  cases e : rch lead head k with
  | false => rfl
  | true =>
    obtain ⟨x, hxl, _, hr⟩ := (h.all k (by omega)).1 e
    have := hx x hxl
    have := rch_le hd x k hr
    omega
theorem WalkL.none (h : WalkL lead head B []) : top (rch lead head) (B - 1) = 0 := by
  refine top_eq (by omega) (fun h => by omega) fun k h0 hk => ?_
  cases e : rch lead head k with
  | false => rfl
  | true =>
    obtain ⟨x, hxl, _, hr⟩ := (h.all k (by omega)).1 e
    simp at hxl
theorem WalkL.step (hd : Down lead) (h : WalkL lead head B l) {id : Nat} (hp : (id :: l').Perm l) (hx : ∀ x ∈ l, x ≤ id) (hB : id < B) {l2 : List Nat} (h2 : l2.Perm (lead id ++ l')) (hn : (lead id).length ≤ 2) (hh : HeapN l2 l2.length) : WalkL lead head id l2 where
  heap := hh
  pos := fun x hxl => by
    have hid := h.pos id (hp.mem_iff.1 (List.mem_cons_self))
    rcases List.mem_append.1 (h2.mem_iff.1 hxl) with h3 | h3
    · have := hd id x h3
      omega
    · have hm := hp.mem_iff.1 (List.mem_cons_of_mem _ h3)
      have := h.pos x hm
      have := hx x hm
      omega
  all := fun a ha => by
    rw [h.all a (by omega)]
    have key : (∃ x ∈ l2, x < id ∧ rch lead x a = true) → ∃ x ∈ l, x < B ∧ rch lead x a = true := fun ⟨x, hxl, hlt, hr⟩ => by
      rcases List.mem_append.1 (h2.mem_iff.1 hxl) with h3 | h3
      · exact ⟨id, hp.mem_iff.1 List.mem_cons_self, hB, (rch_iff hd id a).2 (.inr ⟨x, h3, hr⟩)⟩
      · exact ⟨x, hp.mem_iff.1 (List.mem_cons_of_mem _ h3), by omega, hr⟩
    have viaId : rch lead id a = true → ∃ x ∈ l2, x < id ∧ rch lead x a = true := fun hr => by
      rcases (rch_iff hd id a).1 hr with e | ⟨p, hpl, hr⟩
      · omega
      · exact ⟨p, h2.mem_iff.2 (List.mem_append.2 (.inl hpl)), (hd id p hpl).2, hr⟩
    refine ⟨fun ⟨x, hxl, _, hr⟩ => ?_, key⟩
    by_cases e : x = id
    · subst e; exact viaId hr
    · have := hx x hxl
      rcases List.mem_cons.1 (hp.mem_iff.2 hxl) with h3 | h3
      · exact absurd h3 e
      · exact ⟨x, h2.mem_iff.2 (List.mem_append.2 (.inr h3)), by omega, hr⟩
  few := by
    have := h.few
    have e1 := hp.length_eq
    have e2 := h2.length_eq
    simp at e1 e2
    omega
end
end Go.Proofs.Ytiikbekboapphaa
