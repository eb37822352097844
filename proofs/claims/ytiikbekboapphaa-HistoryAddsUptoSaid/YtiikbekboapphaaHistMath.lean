/- Histories as lists of commits: what the program and the reference answer, as plain mathematics. -/
import Derived.Test.YtiikbekboapphaaWalkMath
namespace Go.Proofs.Ytiikbekboapphaa

/-- a commit: parents, tree, author, changes, emergency -/
structure Cm where
  ps : List Int
  tree : Int
  au : ByteArray
  ch : List Int
  em : Bool

/-- the number of one of n commits -/
def inR (n : Nat) (a : Int) : Bool := decide (1 ≤ a) && decide (a ≤ (n : Int))
theorem inR_iff {n : Nat} {a : Int} : inR n a = true ↔ 1 ≤ a ∧ a ≤ n := by unfold inR; simp
theorem inR_nat {n k : Nat} : inR n (k : Int) = true ↔ 1 ≤ k ∧ k ≤ n := by rw [inR_iff]; omega
theorem inR_more {n m : Nat} {a : Int} (h : inR n a = true) (hm : n ≤ m) : inR m a = true := by
  rw [inR_iff] at h ⊢; omega
/-- what the parents of a commit behind n others can be -/
def canBe (n : Nat) : List Int → Bool
  | [a] => inR n a
  | [a, b] => inR n a && inR n b && (a != b)
  | _ => false
theorem canBe_in {n : Nat} {ps : List Int} (h : canBe n ps = true) : ∀ p ∈ ps, 1 ≤ p ∧ p ≤ (n : Int) := by
  unfold canBe at h
  split at h
  · intro p hp
    simp at hp; subst hp
    exact inR_iff.1 h
  · intro p hp
    simp only [Bool.and_eq_true] at h
    simp at hp
    rcases hp with rfl | rfl
    · exact inR_iff.1 h.1.1
    · exact inR_iff.1 h.1.2
  · cases h
theorem canBe_len {n : Nat} {ps : List Int} (h : canBe n ps = true) : 1 ≤ ps.length ∧ ps.length ≤ 2 := by
  unfold canBe at h
  split at h
  · simp
  · simp
  · cases h

/-- commit 1 has no parents; every other one has such as a commit behind those before it can have -/
structure Good (cs : List Cm) : Prop where
  root : ∀ c, cs[0]? = some c → c.ps = []
  rest : ∀ i c, cs[i]? = some c → 0 < i → canBe i c.ps = true
theorem Good.one {c : Cm} (h : c.ps = []) : Good [c] :=
  ⟨fun d hd => by simp at hd; subst hd; exact h, fun i d hd h0 => by rw [List.getElem?_eq_none (by simp; omega)] at hd; cases hd⟩
theorem Good.nil : Good [] := ⟨fun d hd => by simp at hd, fun i d hd _ => by simp at hd⟩
theorem Good.add {cs : List Cm} {c : Cm} (h : Good cs) (h0 : 0 < cs.length) (hc : canBe cs.length c.ps = true) : Good (cs ++ [c]) where
  root := fun d hd => h.root d (by rwa [List.getElem?_append_left h0] at hd)
  rest := fun i d hd hi => by
    rcases Nat.lt_or_ge i cs.length with hl | hl
    · exact h.rest i d (by rwa [List.getElem?_append_left hl] at hd) hi
    · have hlt := (List.getElem?_eq_some_iff.1 hd).1
      simp at hlt
      obtain rfl : i = cs.length := by omega
      simp at hd
      subst hd
      exact hc

/-- the parents of a commit; its first parent -/
def leads (cs : List Cm) (id : Nat) : List Nat := match cs[id - 1]? with | some c => c.ps.map Int.toNat | none => []
def firsts (cs : List Cm) (id : Nat) : List Nat := (leads cs id).take 1
theorem leads_at {cs : List Cm} {id : Nat} {c : Cm} (h : cs[id - 1]? = some c) : leads cs id = c.ps.map Int.toNat := by unfold leads; rw [h]
theorem leads_in {cs : List Cm} (h : Good cs) {id p : Nat} (hp : p ∈ leads cs id) : 1 < id ∧ id ≤ cs.length ∧ 1 ≤ p ∧ p < id := by
  unfold leads at hp
  split at hp
  · next c hc =>
    obtain ⟨z, hz, rfl⟩ := List.mem_map.1 hp
    rcases Nat.eq_zero_or_pos (id - 1) with e | e
    · rw [e] at hc
      rw [h.root c hc] at hz
      cases hz
    · have := canBe_in (h.rest _ c hc e) z hz
      have := (List.getElem?_eq_some_iff.1 hc).1
      omega
  · cases hp
theorem leads_down {cs : List Cm} (h : Good cs) : Down (leads cs) := fun b p hp => by have := leads_in h hp; omega
theorem firsts_down {cs : List Cm} (h : Good cs) : Down (firsts cs) := fun b p hp => leads_down h b p (List.mem_of_mem_take hp)
theorem leads_few {cs : List Cm} (h : Good cs) (id : Nat) : (leads cs id).length ≤ 2 := by
  unfold leads
  split
  · next c hc =>
    rw [List.length_map]
    rcases Nat.eq_zero_or_pos (id - 1) with e | e
    · rw [e] at hc; rw [h.root c hc]; simp
    · exact (canBe_len (h.rest _ c hc e)).2
  · simp
theorem firsts_few (cs : List Cm) (id : Nat) : (firsts cs id).length ≤ 2 := by unfold firsts; rw [List.length_take]; omega
theorem leads_some {cs : List Cm} (h : Good cs) {id : Nat} (h1 : 1 < id) (h2 : id ≤ cs.length) : ∃ p t, leads cs id = p :: t := by
  have hc : cs[id - 1]? = some cs[id - 1] := List.getElem?_eq_getElem (by omega)
  rw [leads_at hc]
  have := (canBe_len (h.rest _ _ hc (by omega))).1
  cases e : cs[id - 1].ps with
  | nil => rw [e] at this; simp at this
  | cons p t => exact ⟨_, _, rfl⟩
/-- both lead down to commit 1 -/
theorem to_one {cs : List Cm} (h : Good cs) {lead : Nat → List Nat} (hd : Down lead) (hs : ∀ id, 1 < id → id ≤ cs.length → ∃ p, p ∈ lead id) : ∀ b, 1 ≤ b → b ≤ cs.length → rch lead b 1 = true := by
  intro b
  induction b using Nat.strongRecOn with
  | ind b ih =>
    intro h1 h2
    rcases Nat.lt_or_ge 1 b with hb | hb
    · obtain ⟨p, hp⟩ := hs b hb h2
      have := hd b p hp
      exact (rch_iff hd b 1).2 (.inr ⟨p, hp, ih p this.2 this.1 (by omega)⟩)
    · obtain rfl : b = 1 := by omega
      exact rch_self _ _
theorem leads_one {cs : List Cm} (h : Good cs) {b : Nat} (h1 : 1 ≤ b) (h2 : b ≤ cs.length) : rch (leads cs) b 1 = true :=
  to_one h (leads_down h) (fun id i1 i2 => by obtain ⟨p, t, e⟩ := leads_some h i1 i2; exact ⟨p, by rw [e]; simp⟩) b h1 h2
theorem firsts_one {cs : List Cm} (h : Good cs) {b : Nat} (h1 : 1 ≤ b) (h2 : b ≤ cs.length) : rch (firsts cs) b 1 = true :=
  to_one h (firsts_down h) (fun id i1 i2 => by obtain ⟨p, t, e⟩ := leads_some h i1 i2; exact ⟨p, by unfold firsts; rw [e]; simp⟩) b h1 h2

/-- what is led to by small ones is the same for all histories that begin so -/
theorem rch_congr {f g : Nat → List Nat} (hf : Down f) (hg : Down g) (a : Nat) : ∀ b, (∀ k, k ≤ b → f k = g k) → rch f b a = rch g b a := by
  intro b
  induction b using Nat.strongRecOn with
  | ind b ih =>
    intro h
    rw [rch_step hf, rch_step hg, h b (Nat.le_refl _)]
    congr 1
    rw [Bool.eq_iff_iff, List.any_eq_true, List.any_eq_true]
    have e : ∀ p ∈ g b, rch f p a = rch g p a := fun p hp => by
      have := hg b p hp
      exact ih p this.2 fun k hk => h k (by omega)
    exact ⟨fun ⟨p, hp, q⟩ => ⟨p, hp, (e p hp) ▸ q⟩, fun ⟨p, hp, q⟩ => ⟨p, hp, (e p hp).symm ▸ q⟩⟩
theorem leads_app {cs ds : List Cm} {id : Nat} (h0 : 0 < cs.length) (h : id ≤ cs.length) : leads (cs ++ ds) id = leads cs id := by
  unfold leads
  rw [List.getElem?_append_left (by omega)]
theorem firsts_app {cs ds : List Cm} {id : Nat} (h0 : 0 < cs.length) (h : id ≤ cs.length) : firsts (cs ++ ds) id = firsts cs id := by
  unfold firsts
  rw [leads_app h0 h]
theorem rch_app {cs ds : List Cm} (h1 : Good cs) (h2 : Good (cs ++ ds)) (h0 : 0 < cs.length) {b : Nat} (hb : b ≤ cs.length) (a : Nat) : rch (leads (cs ++ ds)) b a = rch (leads cs) b a :=
  rch_congr (leads_down h2) (leads_down h1) a b fun k hk => leads_app h0 (by omega)
theorem rchF_app {cs ds : List Cm} (h1 : Good cs) (h2 : Good (cs ++ ds)) (h0 : 0 < cs.length) {b : Nat} (hb : b ≤ cs.length) (a : Nat) : rch (firsts (cs ++ ds)) b a = rch (firsts cs) b a :=
  rch_congr (firsts_down h2) (firsts_down h1) a b fun k hk => firsts_app h0 (by omega)

/-- the answers -/
def anc (cs : List Cm) (a b : Int) : Bool := inR cs.length a && inR cs.length b && rch (leads cs) b.toNat a.toNat
def both (cs : List Cm) (a b k : Nat) : Bool := rch (leads cs) a k && rch (leads cs) b k
def baseP (cs : List Cm) (a b : Int) : Nat := if inR cs.length a && inR cs.length b then top (both cs a.toNat b.toNat) (min a.toNat b.toNat) else 0
/-- those up to n for which R holds, in decreasing order -/
def desc (R : Nat → Bool) : Nat → List Nat
  | 0 => []
  | n + 1 => if R (n + 1) then (n + 1) :: desc R n else desc R n
def logP (cs : List Cm) (h : Int) : List Nat := if inR cs.length h then desc (rch (leads cs) h.toNat) h.toNat else []
def lineR (cs : List Cm) (a b : Nat) : List Nat := ((desc (rch (firsts cs) b) b).filter fun k => decide (a < k)).reverse
def lineOk (cs : List Cm) (a b : Int) : Bool := inR cs.length a && inR cs.length b && rch (firsts cs) b.toNat a.toNat
def lineP (cs : List Cm) (a b : Int) : List Nat := if lineOk cs a b then lineR cs a.toNat b.toNat else []

theorem desc_top (R : Nat → Bool) : ∀ n, 0 < top R n → desc R n = top R n :: desc R (top R n - 1)
  | 0, h => by simp [top] at h
  | n + 1, h => by
    by_cases hr : R (n + 1) = true
    · rw [show top R (n + 1) = n + 1 by unfold top; rw [if_pos hr], Nat.add_sub_cancel]
      show (if R (n + 1) then (n + 1) :: desc R n else desc R n) = _
      rw [if_pos hr]
    · have e : top R (n + 1) = top R n := by rw [top, if_neg hr]
      rw [e] at h ⊢
      show (if R (n + 1) then (n + 1) :: desc R n else desc R n) = _
      rw [if_neg hr]
      exact desc_top R n h
theorem desc_none (R : Nat → Bool) : ∀ n, top R n = 0 → desc R n = []
  | 0, _ => rfl
  | n + 1, h => by
    unfold desc
    unfold top at h
    split
    · next hr => rw [if_pos hr] at h; omega
    · next hr => rw [if_neg hr] at h; exact desc_none R n h
theorem desc_mem {R : Nat → Bool} : ∀ {n k : Nat}, k ∈ desc R n ↔ 1 ≤ k ∧ k ≤ n ∧ R k = true
  | 0, k => by simp [desc]; omega
  | n + 1, k => by
    unfold desc
    split
    · next hr =>
      rw [List.mem_cons, desc_mem]
      constructor
      · rintro (rfl | ⟨h1, h2, h3⟩)
        · exact ⟨by omega, Nat.le_refl _, hr⟩
        · exact ⟨h1, by omega, h3⟩
      · rintro ⟨h1, h2, h3⟩
        rcases Nat.lt_or_ge k (n + 1) with h | h
        · exact .inr ⟨h1, by omega, h3⟩
        · exact .inl (by omega)
    · next hr =>
      rw [desc_mem]
      constructor
      · rintro ⟨h1, h2, h3⟩; exact ⟨h1, by omega, h3⟩
      · rintro ⟨h1, h2, h3⟩
        refine ⟨h1, ?_, h3⟩
        rcases Nat.lt_or_ge k (n + 1) with h | h
        · omega
        · obtain rfl : k = n + 1 := by omega
          exact absurd h3 hr
theorem desc_len (R : Nat → Bool) : ∀ n, (desc R n).length ≤ n
  | 0 => by simp [desc]
  | n + 1 => by
    unfold desc
    have := desc_len R n
    split <;> simp <;> omega
theorem anc_refl (cs : List Cm) (a : Int) : anc cs a a = inR cs.length a := by
  unfold anc; rw [rch_self]; simp
theorem top_self {R : Nat → Bool} {n : Nat} (h : R n = true) : top R n = n := by
  have h1 := top_le R n
  rcases Nat.eq_zero_or_pos n with e | e
  · subst e; rfl
  · have := top_max R n n (Nat.le_refl _) h; omega
/-- Ancestor: the walk from b comes to a -/
theorem top_anc {lead : Nat → List Nat} (h : Down lead) {a b : Nat} (ha : 1 ≤ a) : decide (top (rch lead b) (min b a) = a) = rch lead b a := by
  rw [Bool.eq_iff_iff, decide_eq_true_iff]
  constructor
  · intro e
    have := top_holds (rch lead b) (min b a) (by omega)
    rwa [e] at this
  · intro e
    have hle := rch_le h b a e
    rw [show min b a = a by omega]
    exact top_self e
theorem baseP_comm (cs : List Cm) (a b : Int) : baseP cs a b = baseP cs b a := by
  unfold baseP
  rw [Bool.and_comm, Nat.min_comm]
  have : both cs a.toNat b.toNat = both cs b.toNat a.toNat := by funext k; unfold both; rw [Bool.and_comm]
  rw [this]
theorem baseP_le (cs : List Cm) (a b : Int) : baseP cs a b ≤ cs.length := by
  unfold baseP
  split
  · next h =>
    simp only [Bool.and_eq_true, inR_iff] at h
    have := top_le (both cs a.toNat b.toNat) (min a.toNat b.toNat)
    omega
  · omega
/-- Base(a, b) is a exactly if a is b or an ancestor of b -/
theorem baseP_anc {cs : List Cm} (h : Good cs) (a b : Int) (ha : 0 < a) : decide ((baseP cs a b : Int) = a) = anc cs a b := by
  unfold baseP anc
  cases h1 : inR cs.length a && inR cs.length b with
  | false => simp; omega
  | true =>
    simp only [if_true, Bool.true_and]
    obtain ⟨n, rfl⟩ : ∃ n : Nat, a = n := ⟨a.toNat, by omega⟩
    simp only [Int.toNat_natCast]
    rw [Bool.eq_iff_iff, decide_eq_true_iff]
    constructor
    · intro e
      have hh := top_holds (both cs n b.toNat) (min n b.toNat) (by omega)
      rw [show top (both cs n b.toNat) (min n b.toNat) = n by omega] at hh
      unfold both at hh
      rw [Bool.and_eq_true] at hh
      exact hh.2
    · intro e
      have := rch_le (leads_down h) _ _ e
      rw [show min n b.toNat = n by omega, top_self]
      unfold both
      rw [rch_self, e]; rfl
end Go.Proofs.Ytiikbekboapphaa
