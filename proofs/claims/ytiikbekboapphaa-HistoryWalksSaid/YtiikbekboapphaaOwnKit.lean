/- What HistoryOwns asks: a history with one commit more, and blocks that are written beside it. -/
import Derived.Test.YtiikbekboapphaaLawKit
namespace Go.Proofs.Ytiikbekboapphaa
set_option maxRecDepth 100000
open Go.RowKit
theorem logP_app {cs ds : List Cm} (hg : Good cs) (hg2 : Good (cs ++ ds)) (h0 : 0 < cs.length) {a : Int} (ha : a ≤ cs.length) : logP (cs ++ ds) a = logP cs a := by
  have hin : inR (cs ++ ds).length a = inR cs.length a := by
    rw [Bool.eq_iff_iff, inR_iff, inR_iff, List.length_append]
    constructor <;> intro h <;> omega
  unfold logP
  rw [hin]
  split
  · next h =>
    rw [inR_iff] at h
    have : rch (leads (cs ++ ds)) a.toNat = rch (leads cs) a.toNat := by
      funext k
      exact rch_app hg hg2 h0 (by omega) k
    rw [this]
  · rfl
/-- the history holds cs', the reference cs; the blocks of both lie below M, apart from the blocks from lo on up to hi -/
structure OS (w1 W : World) (p q : Nat) (cs cs' : List Cm) (K : Nat → Prop) : Prop where
  below : Below w1.heap.size w1 W
  his : ∃ F G, IsH w1.heap.size W p cs' F ∧ IsR w1.heap.size W q cs G ∧ ∀ x, K x → ¬ F x ∧ ¬ G x
  kl : ∀ x, K x → w1.heap.size ≤ x ∧ x < W.heap.size
theorem OS.on {w1 W W' : World} {p q : Nat} {cs cs' : List Cm} {K : Nat → Prop} (h : OS w1 W p q cs cs' K) (hb : Below W.heap.size W W') : OS w1 W' p q cs cs' (fun x => K x ∨ W.heap.size ≤ x ∧ x < W'.heap.size) := by
  obtain ⟨F, G, h1, h2, h3⟩ := h.his
  refine ⟨Below.then_ h.below hb, ⟨F, G, h1.on hb, h2.on hb, fun x hx => ?_⟩, fun x hx => ?_⟩
  · rcases hx with hx | hx
    · exact h3 x hx
    · exact ⟨fun hf => by have := (h1.in_ x hf).2; omega, fun hf => by have := (h2.in_ x hf).2; omega⟩
  · rcases hx with hx | hx
    · exact ⟨(h.kl x hx).1, Nat.lt_of_lt_of_le (h.kl x hx).2 hb.size⟩
    · exact ⟨Nat.le_trans h.below.size hx.1, hx.2⟩
theorem OS.set_ {w1 W : World} {p q : Nat} {cs cs' : List Cm} {K : Nat → Prop} (h : OS w1 W p q cs cs' K) {a : Addr} (ha : K a.block) (u : Value) : OS w1 (W.setCell a u) p q cs cs' K := by
  obtain ⟨F, G, h1, h2, h3⟩ := h.his
  have hs : (W.setCell a u).heap.size = W.heap.size := by simp [World.setCell]
  refine ⟨h.below.setCell (h.kl _ ha).1 u, ⟨F, G, h1.keep (fun x hx => Below.heap_setCell _ _ _ x (fun e => (h3 _ ha).1 (e ▸ hx))) (by omega), h2.keep (fun x hx => Below.heap_setCell _ _ _ x (fun e => (h3 _ ha).2 (e ▸ hx))) (by omega), h3⟩, fun x hx => ⟨(h.kl x hx).1, by rw [hs]; exact (h.kl x hx).2⟩⟩
theorem OS.drewN {w1 W : World} {p q : Nat} {cs cs' : List Cm} {K : Nat → Prop} (h : OS w1 W p q cs cs' K) (n : Nat) : OS w1 (W.drewN n) p q cs cs' K := by
  obtain ⟨F, G, h1, h2, h3⟩ := h.his
  exact ⟨Below.drewN_ h.below n, ⟨F, G, h1.on (Below.drewN_ (Below.refl _ W) n), h2.on (Below.drewN_ (Below.refl _ W) n), h3⟩, h.kl⟩
theorem OS.less {w1 W : World} {p q : Nat} {cs cs' : List Cm} {K K' : Nat → Prop} (h : OS w1 W p q cs cs' K) (hk : ∀ x, K' x → K x) : OS w1 W p q cs cs' K' := by
  obtain ⟨F, G, h1, h2, h3⟩ := h.his
  exact ⟨h.below, ⟨F, G, h1, h2, fun x hx => h3 x (hk x hx)⟩, fun x hx => h.kl x (hk x hx)⟩
section
variable {w1 W : World} {p q : Nat} {cs cs' : List Cm} {K : Nat → Prop}
theorem OS.get_ (h : OS w1 W p q cs cs' K) (hs : cs'.length ≤ 1000) (hch : ∀ c ∈ cs', c.ch.length ≤ 1099511627776) (id : Int) : Calls Try.prog 20 #[.pointer (some ⟨p, 0, none⟩), .int .i64 id] W (GetOut W (getC cs' id) (inR cs'.length id)) := by obtain ⟨F, G, h1, h2, h3⟩ := h.his; exact get_any h1 hs hch id
theorem OS.log_ (h : OS w1 W p q cs cs' K) (hs : cs'.length ≤ 1000) (a : Int) : Calls Try.prog 31 #[.pointer (some ⟨p, 0, none⟩), .int .i64 a] W (IntsOut W (logP cs' a)) := by obtain ⟨F, G, h1, h2, h3⟩ := h.his; exact log_any h1 hs a
theorem OS.rlog_ (h : OS w1 W p q cs cs' K) (hs : cs.length ≤ 1000) (a : Int) : Calls Try.prog 32 #[.pointer (some ⟨q, 0, none⟩), .int .i64 a] W (IntsOut W (logP cs a)) := by obtain ⟨F, G, h1, h2, h3⟩ := h.his; exact refLog_any h2 hs a
theorem OS.rmany_ (h : OS w1 W p q cs cs' K) : Calls Try.prog 19 #[.pointer (some ⟨q, 0, none⟩)] W fun e w' => e = .returned (.int .i64 (cs.length : Int)) ∧ W = w' := by obtain ⟨F, G, h1, h2, h3⟩ := h.his; exact refMany_any h2
end
/-- the commit that the law adds -/
def ownC : Cm := ⟨[1], 3, ⟨#[97]⟩, [4, 5], false⟩
theorem Two.own {w1 w2 W : World} {p q b1 b2 : Nat} {cs : List Cm} (h : Two w1 w2 p q cs) (hb : Below w2.heap.size w2 W) (hs : cs.length ≤ 100) (r1 : Row W W.heap.size 1 (some ⟨b1, 0, none⟩) 1 1 (intC [1])) (r2 : Row W W.heap.size 1 (some ⟨b2, 0, none⟩) 2 2 (intC [4, 5])) :
    Calls Try.prog 16 #[.pointer (some ⟨p, 0, none⟩), .agg #[.slice (some ⟨b1, 0, none⟩) 1 1, .int .i64 3, .string ⟨#[97]⟩, .slice (some ⟨b2, 0, none⟩) 2 2, .bool false]] W fun e W' => e = .returned (.tuple #[.int .i64 ((cs.length : Int) + 1), .int .i64 0]) ∧ OS w1 W' p q cs (cs ++ [ownC]) (fun x => w2.heap.size ≤ x ∧ x < W.heap.size) ∧ (∀ x, w2.heap.size ≤ x ∧ x < W.heap.size → W'.heap[x]? = W.heap[x]?) := by
  obtain ⟨F, G, h1, h2, h3⟩ := h.his
  have hF : ∀ x, F x → x < w2.heap.size := fun x hx => (h1.in_ x hx).2
  have hG : ∀ x, G x → x < w2.heap.size := fun x hx => (h2.in_ x hx).2
  have hpos := h1.pos
  have hc : canBe cs.length [1] = true := inR_iff.2 ⟨by omega, by omega⟩
  refine (add_any (h1.on hb) (by omega) r1 r2 (Nat.le_refl _) (by omega) (by omega)).mono ?_
  rintro e W' (⟨_, rfl, F', k2, k3⟩ | ⟨k1, _⟩)
  · have hw1 := h.below.size
    have hsz := hb.size
    refine ⟨rfl, ⟨(Below.then_ h.below hb).trans (k3.below (fun g hg => (h1.in_ g hg).1) (by omega)), ⟨F', G, k2, (h2.on hb).apart k3.turn (fun g hg hf => h3 g hf hg), fun x hx => ⟨fun hf => ?_, fun hg => ?_⟩⟩, fun x hx => ⟨by omega, Nat.lt_of_lt_of_le hx.2 k3.turn.size⟩⟩, fun x hx => k3.turn.block x hx.2 (fun hf => ?_)⟩
    · rcases k3.back x hf with e | e
      · have := hF x e; omega
      · omega
    · have := hG x hg; omega
    · have := hF x hf; omega
  · dsimp only at k1; rw [hc] at k1; cases k1
theorem get_own {cs : List Cm} : getC (cs ++ [ownC]) ((cs.length : Int) + 1) = ownC ∧ inR (cs ++ [ownC]).length ((cs.length : Int) + 1) = true := by
  have hin : inR (cs ++ [ownC]).length ((cs.length : Int) + 1) = true := by rw [inR_iff, List.length_append]; simp; omega
  refine ⟨?_, hin⟩
  unfold getC
  rw [if_pos hin]
  have : ((cs.length : Int) + 1).toNat - 1 = cs.length := by omega
  rw [this]
  simp
end Go.Proofs.Ytiikbekboapphaa
