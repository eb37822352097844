/- made: both histories hold the same commits. -/
import Derived.Test.YtiikbekboapphaaRefAdd
import Derived.Test.YtiikbekboapphaaCommitP
import Derived.Test.YtiikbekboapphaaRefGet
namespace Go.Proofs.Ytiikbekboapphaa
set_option maxRecDepth 100000
open Go.RowKit
/-- both histories hold the commits cs -/
structure Two (w W : World) (p q : Nat) (cs : List Cm) : Prop where
  below : Below w.heap.size w W
  his : ∃ F G, IsH w.heap.size W p cs F ∧ IsR w.heap.size W q cs G ∧ ∀ g, F g → ¬ G g
  few : ∀ c ∈ cs, c.ch.length ≤ 1
theorem Two.on {w W W' : World} {p q : Nat} {cs : List Cm} (h : Two w W p q cs) (hb : Below W.heap.size W W') : Two w W' p q cs := by
  obtain ⟨F, G, h1, h2, h3⟩ := h.his
  exact ⟨Below.then_ h.below hb, ⟨F, G, h1.on hb, h2.on hb, h3⟩, h.few⟩
/-- between the two calls of Add -/
structure Mid (w W : World) (p q : Nat) (cs : List Cm) (c : Cm) : Prop where
  below : Below w.heap.size w W
  his : ∃ F G, IsH w.heap.size W p (cs ++ [c]) F ∧ IsR w.heap.size W q cs G ∧ ∀ g, F g → ¬ G g
/-- the next commit lies there, in new blocks -/
structure BX (w wr wy : World) (p q : Nat) (cs : List Cm) (cm : Cm) (g : Nat) (A5 : Option Addr) (c5 : Nat) (A6 : Option Addr) (c6 : Nat) : Prop where
  two : Two w wy p q cs
  can : canBe cs.length cm.ps = true
  few : cm.ch.length ≤ 1
  full : Full wy g 25 [.slice A5 cm.ps.length c5, .int .i64 cm.tree, .string cm.au, .slice A6 cm.ch.length c6, .bool cm.em]
  low : wr.heap.size ≤ g
  r5 : RowF wy (fun x => wr.heap.size ≤ x ∧ x < wy.heap.size) 1 A5 cm.ps.length c5 (intC cm.ps)
  r6 : RowF wy (fun x => wr.heap.size ≤ x ∧ x < wy.heap.size) 1 A6 cm.ch.length c6 (intC cm.ch)
  ka : ∃ F G, IsH w.heap.size wy p cs F ∧ IsR w.heap.size wy q cs G ∧ (∀ g, F g → ¬ G g) ∧ ∀ x, wr.heap.size ≤ x → ¬ F x ∧ ¬ G x
theorem BX.of {w wr wy : World} {p q g c5 c6 : Nat} {cs : List Cm} {cm : Cm} {A5 A6 : Option Addr} (h : Two w wr p q cs) (hb : Below wr.heap.size wr wy) (can : canBe cs.length cm.ps = true) (few : cm.ch.length ≤ 1)
    (full : Full wy g 25 [.slice A5 cm.ps.length c5, .int .i64 cm.tree, .string cm.au, .slice A6 cm.ch.length c6, .bool cm.em]) (low : wr.heap.size ≤ g)
    (r5 : RowF wy (fun x => wr.heap.size ≤ x ∧ x < wy.heap.size) 1 A5 cm.ps.length c5 (intC cm.ps)) (r6 : RowF wy (fun x => wr.heap.size ≤ x ∧ x < wy.heap.size) 1 A6 cm.ch.length c6 (intC cm.ch)) : BX w wr wy p q cs cm g A5 c5 A6 c6 := by
  obtain ⟨F, G, h1, h2, h3⟩ := h.his
  exact ⟨h.on hb, can, few, full, low, r5, r6, ⟨F, G, h1.on hb, h2.on hb, h3, fun x hx => ⟨fun hf => by have := (h1.in_ x hf).2; omega, fun hg => by have := (h2.in_ x hg).2; omega⟩⟩⟩
theorem Two.add {w W : World} {p q : Nat} {cs : List Cm} (h : Two w W p q cs) (hs : cs.length ≤ 1000) {m1 d1 m2 d2 : Nat} {A1 A2 : Option Addr} {ps ch : List Int} {t : Int} {au : ByteArray} {em : Bool}
    (r1 : Row W W.heap.size 1 A1 m1 d1 (intC ps)) (r2 : Row W W.heap.size 1 A2 m2 d2 (intC ch)) (hm1 : m1 ≤ 1099511627776) (hm2 : m2 ≤ 1099511627776) (hc : canBe cs.length ps = true) (K : Nat → Prop) (hK : ∀ g, K g → w.heap.size ≤ g ∧ g < W.heap.size) (hKa : ∃ F G, IsH w.heap.size W p cs F ∧ IsR w.heap.size W q cs G ∧ (∀ g, F g → ¬ G g) ∧ ∀ g, K g → ¬ F g ∧ ¬ G g) :
    Calls Try.prog 16 #[.pointer (some ⟨p, 0, none⟩), .agg #[.slice A1 m1 d1, .int .i64 t, .string au, .slice A2 m2 d2, .bool em]] W fun e W' => e = .returned (.tuple #[.int .i64 ((cs.length : Int) + 1), .int .i64 0]) ∧ Mid w W' p q cs ⟨ps, t, au, ch, em⟩ ∧ (∀ g, K g → W'.heap[g]? = W.heap[g]?) ∧ W.heap.size ≤ W'.heap.size := by
  obtain ⟨F, G, h1, h2, h3, h4⟩ := hKa
  refine (add_any h1 hs r1 r2 (Nat.le_refl _) hm1 hm2).mono ?_
  rintro e W' (⟨_, rfl, F', k2, k3⟩ | ⟨k1, _⟩)
  · refine ⟨rfl, ⟨h.below.trans (k3.below (fun g hg => (h1.in_ g hg).1) h.below.size), ⟨F', G, k2, h2.apart k3.turn (fun g hg hf => h3 g hf hg), fun g hf hg => (k3.back g hf).elim (fun e => h3 g e hg) (fun e => by have := (h2.in_ g hg).2; omega)⟩⟩, fun g hg => k3.turn.block g (hK g hg).2 (h4 g hg).1, k3.turn.size⟩
  · dsimp only at k1; rw [hc] at k1; cases k1
theorem Mid.add {w W : World} {p q : Nat} {cs : List Cm} {m1 d1 m2 d2 : Nat} {A1 A2 : Option Addr} {ps ch : List Int} {t : Int} {au : ByteArray} {em : Bool} (h : Mid w W p q cs ⟨ps, t, au, ch, em⟩) (hs : cs.length ≤ 1000) (hfew : ∀ c ∈ cs, c.ch.length ≤ 1)
    (r1 : Row W W.heap.size 1 A1 m1 d1 (intC ps)) (r2 : Row W W.heap.size 1 A2 m2 d2 (intC ch)) (hm1 : m1 ≤ 1099511627776) (hm2 : m2 ≤ 1) (hc : canBe cs.length ps = true) :
    Calls Try.prog 17 #[.pointer (some ⟨q, 0, none⟩), .agg #[.slice A1 m1 d1, .int .i64 t, .string au, .slice A2 m2 d2, .bool em]] W fun e W' => e = .returned (.tuple #[.int .i64 ((cs.length : Int) + 1), .int .i64 0]) ∧ Two w W' p q (cs ++ [⟨ps, t, au, ch, em⟩]) := by
  obtain ⟨F, G, h1, h2, h3⟩ := h.his
  have hch := len_of r2
  refine (refAdd_any h2 hs r1 r2 (Nat.le_refl _) hm1 (by omega)).mono ?_
  rintro e W' (⟨_, rfl, G', k2, k3⟩ | ⟨k1, _⟩)
  · refine ⟨rfl, h.below.trans (k3.below (fun g hg => (h2.in_ g hg).1) h.below.size), ⟨F, G', h1.apart k3.turn h3, k2, fun g hf hg => (k3.back g hg).elim (h3 g hf) (fun e => by have := (h1.in_ g hf).2; omega)⟩, fun c hc => ?_⟩
    rcases List.mem_append.1 hc with hc | hc
    · exact hfew c hc
    · have : c = ⟨ps, t, au, ch, em⟩ := by simpa using hc
      rw [this]
      show ch.length ≤ 1
      omega
  · dsimp only at k1; rw [hc] at k1; cases k1
section
variable {w W : World} {p q : Nat} {cs : List Cm}
theorem Two.anc_ (h : Two w W p q cs) (hs : cs.length ≤ 1000) (a b : Int) : Calls Try.prog 24 #[.pointer (some ⟨p, 0, none⟩), .int .i64 a, .int .i64 b] W (BoolB W (anc cs a b)) := by obtain ⟨F, G, h1, h2, h3⟩ := h.his; exact anc_any h1 hs a b
theorem Two.ranc_ (h : Two w W p q cs) (hs : cs.length ≤ 1000) (a b : Int) : Calls Try.prog 25 #[.pointer (some ⟨q, 0, none⟩), .int .i64 a, .int .i64 b] W fun e w' => e = .returned (.bool (anc cs a b)) ∧ W = w' := by obtain ⟨F, G, h1, h2, h3⟩ := h.his; exact refAnc_any h2 hs a b
theorem Two.base_ (h : Two w W p q cs) (hs : cs.length ≤ 1000) (a b : Int) : Calls Try.prog 26 #[.pointer (some ⟨p, 0, none⟩), .int .i64 a, .int .i64 b] W fun e w' => e = .returned (.int .i64 ((baseP cs a b : Nat) : Int)) ∧ Below W.heap.size W w' := by obtain ⟨F, G, h1, h2, h3⟩ := h.his; exact base_any h1 hs a b
theorem Two.rbase_ (h : Two w W p q cs) (hs : cs.length ≤ 1000) (a b : Int) : Calls Try.prog 27 #[.pointer (some ⟨q, 0, none⟩), .int .i64 a, .int .i64 b] W fun e w' => e = .returned (.int .i64 ((baseP cs a b : Nat) : Int)) ∧ W = w' := by obtain ⟨F, G, h1, h2, h3⟩ := h.his; exact refBase_any h2 hs a b
theorem Two.many_ (h : Two w W p q cs) : Calls Try.prog 23 #[.pointer (some ⟨p, 0, none⟩)] W fun e w' => e = .returned (.int .i64 (cs.length : Int)) ∧ W = w' := by obtain ⟨F, G, h1, h2, h3⟩ := h.his; exact many_any h1
theorem Two.rmany_ (h : Two w W p q cs) : Calls Try.prog 19 #[.pointer (some ⟨q, 0, none⟩)] W fun e w' => e = .returned (.int .i64 (cs.length : Int)) ∧ W = w' := by obtain ⟨F, G, h1, h2, h3⟩ := h.his; exact refMany_any h2
theorem Two.log_ (h : Two w W p q cs) (hs : cs.length ≤ 1000) (a : Int) : Calls Try.prog 31 #[.pointer (some ⟨p, 0, none⟩), .int .i64 a] W (IntsOut W (logP cs a)) := by obtain ⟨F, G, h1, h2, h3⟩ := h.his; exact log_any h1 hs a
theorem Two.good (h : Two w W p q cs) : Good cs ∧ 0 < cs.length := by obtain ⟨F, G, h1, h2, h3⟩ := h.his; exact ⟨h1.good, h1.pos⟩
end
/-- a slice of pairs of numbers -/
def Prs (w : World) (B : Nat) (A : Option Addr) (c : Nat) (l : List (Int × Int)) : Prop := Row w B 2 A l.length c (l.flatMap fun x => [.int .i64 x.1, .int .i64 x.2]) ∧ ∀ x ∈ l, (Lit.int .i64 x.1).wf = true ∧ (Lit.int .i64 x.2).wf = true
theorem Prs.at_ {w : World} {B c : Nat} {A : Option Addr} {l : List (Int × Int)} (h : Prs w B A c l) {k : Nat} (hk : k < l.length) : ∃ ad x y, A = some ad ∧ ad.block < B ∧ w.cell? (ad.add (k * 2)) = some (.int .i64 x) ∧ w.cell? ⟨(ad.add (k * 2)).block, (ad.add (k * 2)).off + 1, none⟩ = some (.int .i64 y) ∧ (Lit.int .i64 x).wf = true ∧ (Lit.int .i64 y).wf = true := by
  have e := fun j (hj : j < 2) => flat_at (fun x : Int × Int => [Value.int .i64 x.1, Value.int .i64 x.2]) 2 (fun _ => rfl) l k j hk hj
  obtain ⟨ad, ea, hb, c0⟩ := h.1.2.2.2 (k * 2 + 0) _ ((e 0 (by omega)).trans rfl)
  obtain ⟨ad', ea', _, c1⟩ := h.1.2.2.2 (k * 2 + 1) _ ((e 1 (by omega)).trans rfl)
  obtain rfl : ad = ad' := by rw [ea] at ea'; injection ea'
  have hw := h.2 l[k] (List.getElem_mem hk)
  refine ⟨ad, l[k].1, l[k].2, ea, hb, c0, ?_, hw.1, hw.2⟩
  rw [← c1, ← add_twice]
  rfl
theorem Prs.on {w w' : World} {c : Nat} {A : Option Addr} {l : List (Int × Int)} {B : Nat} (h : Prs w B A c l) (hb : Below B w w') : Prs w' B A c l := ⟨h.1.below hb (Nat.le_refl _), h.2⟩
theorem lift5 {wr wx : World} {ob : Obj} {A : Option Addr} {n c : Nat} {xs : List Value} {v0 v1 v2 v3 v4 : Value} (h : RowF wx (fun z => (wr.alloc ob).drew.heap.size ≤ z ∧ z < wx.heap.size) 1 A n c xs) :
    RowF (put5 wx wr.heap.size v0 v1 v2 v3 v4) (fun z => wr.heap.size ≤ z ∧ z < (put5 wx wr.heap.size v0 v1 v2 v3 v4).heap.size) 1 A n c xs :=
  h.keep fun z hz => by
    have h1 : wr.heap.size + 1 ≤ z := by
      have := hz.1
      have e : (wr.alloc ob).drew.heap.size = (wr.alloc ob).heap.size := rfl
      rw [e, World.size_alloc] at this
      exact this
    have hs : (put5 wx wr.heap.size v0 v1 v2 v3 v4).heap.size = wx.heap.size := by simp [put5, World.setCell]
    exact ⟨⟨by omega, by rw [hs]; exact hz.2⟩, put5_heap _ _ _ _ _ _ _ z (by omega)⟩
def MadeOut (w : World) (e : Ending) (w' : World) : Prop := ∃ p q cs, e = .returned (.tuple #[.pointer (some ⟨p, 0, none⟩), .pointer (some ⟨q, 0, none⟩), .bool true]) ∧ cs.length ≤ 61 ∧ Two w w' p q cs
set_option maxHeartbeats 8000000 in
theorem made_any (w : World) (A : Option Addr) (l : List (Int × Int)) (c : Nat) (hA : Prs w w.heap.size A c l) (hl : l.length ≤ maxLen) : Calls Try.prog 15 #[.slice A l.length c] w (MadeOut w) := by
  unfold MadeOut maxLen at *
  have NE := Lib.hid (new_any w 1)
  have RN := Lib.hid (fun W => refNew_any W 1)
  unfold NewOut at NE
  unfold RNewOut at RN
  have HA := Lib.hid hA
  obtain ⟨n, hn⟩ : ∃ n, l.length = n := ⟨_, rfl⟩
  have HN := Lib.hid hn
  rw [hn] at hl ⊢
  clear hA hn
  go_enter Try.func15, Try.ntmps15
  go_wp2_with (first
    | (go_at_call 34; ((with_reducible refine NE.out.mono ?_); rintro e w1 ⟨p, F, rfl, hI, hb1⟩))
    | (go_at_call 36; ((with_reducible refine (RN.out _).mono ?_); rintro e w2 ⟨q, G, rfl, hJ, hG, hb2⟩))
    | (fail "arm"))
  have H0 := Lib.hid (show Two w w2 p q [⟨[], 1, ⟨#[]⟩, [], false⟩] from ⟨Below.then_ hb1 hb2, ⟨F, G, hI.on hb2, by
      obtain ⟨v, s, In, h⟩ := hJ
      exact ⟨v, s, In, { h with in_ := fun g hg => ⟨Nat.le_trans hb1.size (h.in_ g hg).1, (h.in_ g hg).2⟩ }⟩, fun g hf hg => by have := (hI.in_ g hf).2; have := hG g hg; omega⟩, fun c hc => by simp at hc; subst hc; simp⟩)
  clear hI hb1 hJ hG hb2
  go_loopw [7] (fun v7 wr => ∃ (k : Nat) (cs : List Cm), v7 = .int .i64 (k : Int) ∧ k ≤ n ∧ k ≤ 60 ∧ cs.length = k + 1 ∧ Hid (Two w wr p q cs)) (fun v7 _ => n - (intOf v7).toNat)
  case atStart => exact ⟨0, _, rfl, by omega, by omega, rfl, H0⟩
  case round =>
    obtain ⟨k, cs, rfl, hk, hk60, hcs, H⟩ := hrel
    have k0 : (0 : Int) ≤ (k : Int) := Int.natCast_nonneg _
    by_cases hlt : k < n ∧ k < 60
    · obtain ⟨hkn, hk6⟩ := hlt
      have k1 : (k : Int) < (n : Int) := by omega
      have k6 : (k : Int) < 60 := by omega
      go_upto_region 7 with fail
      obtain ⟨ad, x, y, rfl, hadl, a0, a1, wfx, wfy⟩ := (HA.out.on H.out.below).at_ (k := k) (by have := HN.out; omega)
      obtain ⟨m, hm⟩ : ∃ m, k + 1 = m := ⟨_, rfl⟩
      have HM := Lib.hid hm
      have M2 := Lib.hid (fun (W : World) (hb : Below wr.heap.size wr W) => (show Calls Try.prog 19 #[.pointer (some ⟨q, 0, none⟩)] W fun e w' => e = .returned (.int .i64 (m : Int)) ∧ W = w' from by
        have := (H.out.on hb).rmany_
        rwa [hcs, hm] at this))
      have CM := Lib.hid (fun (W : World) => commit_any W m (by omega) (by omega) x y wfx wfy k (by omega))
      unfold CommitOut at CM
      have bD : Below wr.heap.size wr wr.drew := (Below.refl _ wr).drew
      have bA : Below wr.heap.size wr (wr.alloc (.cells #[.slice none 0 0, .int .i64 0, .string ⟨#[]⟩, .slice none 0 0, .bool false] 25)).drew := ((Below.refl _ wr).alloc (Nat.le_refl _) _).drew
      have FA : Full (wr.alloc (.cells #[.slice none 0 0, .int .i64 0, .string ⟨#[]⟩, .slice none 0 0, .bool false] 25)).drew wr.heap.size 25 [.slice none 0 0, .int .i64 0, .string ⟨#[]⟩, .slice none 0 0, .bool false] := (Full.new wr 25 _).drew
      have hwl : ad.block < wr.heap.size := Nat.lt_of_lt_of_le hadl H.out.below.size
      have SX := Lib.hid (fun (W : World) (hb : Below wr.heap.size wr W) => (show W.cell? (ad.add (k * 2)) = some (.int .i64 x) ∧ W.cell? ⟨(ad.add (k * 2)).block, (ad.add (k * 2)).off + 1, none⟩ = some (.int .i64 y) from ⟨(hb.cell (by rw [add_block]; exact hwl)).trans a0, (hb.cell (by show (ad.add (k * 2)).block < _; rw [add_block]; exact hwl)).trans a1⟩))
      have SD : wr.drew.cell? (ad.add (k * 2)) = some (.int .i64 x) ∧ wr.drew.cell? ⟨(ad.add (k * 2)).block, (ad.add (k * 2)).off + 1, none⟩ = some (.int .i64 y) := SX.out _ bD
      have SA : (wr.alloc (.cells #[.slice none 0 0, .int .i64 0, .string ⟨#[]⟩, .slice none 0 0, .bool false] 25)).drew.cell? (ad.add (k * 2)) = some (.int .i64 x) ∧ (wr.alloc (.cells #[.slice none 0 0, .int .i64 0, .string ⟨#[]⟩, .slice none 0 0, .bool false] 25)).drew.cell? ⟨(ad.add (k * 2)).block, (ad.add (k * 2)).off + 1, none⟩ = some (.int .i64 y) := SX.out _ bA
      have hm61 : m ≤ 61 := by omega
      clear hm a0 a1 hadl
      go_cut [8] from 29 to 36 (fun v8 wy => ∃ (g : Nat) (cm : Cm) (A5 : Option Addr) (c5 : Nat) (A6 : Option Addr) (c6 : Nat), v8 = .pointer (some ⟨g, 0, none⟩) ∧ Hid (BX w wr wy p q cs cm g A5 c5 A6 c6))
      case first =>
        go_region_held3 (fun w' => w'.cell? (ad.add (k * 2)) = some (.int .i64 x) ∧ w'.cell? ⟨(ad.add (k * 2)).block, (ad.add (k * 2)).off + 1, none⟩ = some (.int .i64 y))
          (first | (with_reducible exact SD) | (with_reducible exact SA) | (with_reducible exact SXX) | (with_reducible exact SXA) | (with_reducible exact SXP) | (with_reducible exact SC1) | (with_reducible exact SC2) | (with_reducible exact SC3) | (with_reducible exact SC4) | (with_reducible exact SC5) | (fail "keep"))
          (first
            | (go_at_call 19; ((with_reducible refine (M2.out _ bD).mono ?_); rintro e v1 ⟨rfl, rfl⟩))
            | (go_at_call 19; ((with_reducible refine (M2.out _ bA).mono ?_); rintro e v1 ⟨rfl, rfl⟩))
            | (go_at_call 33; ((with_reducible refine (CM.out wr.drew).mono ?_); rintro e wx ⟨cm, A5, c5, A6, c6, rfl, hcan, hfew, hr5, hr6, hbx⟩; (have bX : Below wr.heap.size wr wx := Below.then_ bD hbx); (have SXX := SX.out _ bX); (have bXA : Below wr.heap.size wr (wx.alloc (.cells #[.slice none 0 0, .int .i64 0, .string ⟨#[]⟩, .slice none 0 0, .bool false] 25)) := bX.alloc bX.size _); (have SXA := SX.out _ bXA); (have bXP : Below wr.heap.size wr (wx.alloc (.cells #[.slice A5 cm.ps.length c5, .int .i64 cm.tree, .string cm.au, .slice A6 cm.ch.length c6, .bool cm.em] 25)) := bX.alloc bX.size _); (have SXP := SX.out _ bXP)))
            | (go_at_call 33; ((with_reducible refine (CM.out (wr.alloc (.cells #[.slice none 0 0, .int .i64 0, .string ⟨#[]⟩, .slice none 0 0, .bool false] 25)).drew).mono ?_); rintro e wx ⟨cm, A5, c5, A6, c6, rfl, hcan, hfew, hr5, hr6, hbx⟩; (have bX : Below wr.heap.size wr wx := Below.then_ bA hbx); (have SXX := SX.out _ bX); (obtain ⟨⟨r0, f0⟩, ⟨r1, f1⟩, ⟨r2, f2⟩, ⟨r3, f3⟩, ⟨r4, f4⟩, G9⟩ := (FA.on hbx).five (.slice A5 cm.ps.length c5) (.int .i64 cm.tree) (.string cm.au) (.slice A6 cm.ch.length c6) (.bool cm.em)); (have bC1 : Below wr.heap.size wr (wx.setCell ⟨wr.heap.size, 0, none⟩ (.slice A5 cm.ps.length c5)) := bX.setCell (Nat.le_refl _) _); (have bC2 : Below wr.heap.size wr ((wx.setCell ⟨wr.heap.size, 0, none⟩ (.slice A5 cm.ps.length c5)).setCell ⟨wr.heap.size, 1, none⟩ (.int .i64 cm.tree)) := bC1.setCell (Nat.le_refl _) _); (have bC3 : Below wr.heap.size wr (((wx.setCell ⟨wr.heap.size, 0, none⟩ (.slice A5 cm.ps.length c5)).setCell ⟨wr.heap.size, 1, none⟩ (.int .i64 cm.tree)).setCell ⟨wr.heap.size, 2, none⟩ (.string cm.au)) := bC2.setCell (Nat.le_refl _) _); (have bC4 : Below wr.heap.size wr ((((wx.setCell ⟨wr.heap.size, 0, none⟩ (.slice A5 cm.ps.length c5)).setCell ⟨wr.heap.size, 1, none⟩ (.int .i64 cm.tree)).setCell ⟨wr.heap.size, 2, none⟩ (.string cm.au)).setCell ⟨wr.heap.size, 3, none⟩ (.slice A6 cm.ch.length c6)) := bC3.setCell (Nat.le_refl _) _); (have bC5 : Below wr.heap.size wr (((((wx.setCell ⟨wr.heap.size, 0, none⟩ (.slice A5 cm.ps.length c5)).setCell ⟨wr.heap.size, 1, none⟩ (.int .i64 cm.tree)).setCell ⟨wr.heap.size, 2, none⟩ (.string cm.au)).setCell ⟨wr.heap.size, 3, none⟩ (.slice A6 cm.ch.length c6)).setCell ⟨wr.heap.size, 4, none⟩ (.bool cm.em)) := bC4.setCell (Nat.le_refl _) _); (have SC1 := SX.out _ bC1); (have SC2 := SX.out _ bC2); (have SC3 := SX.out _ bC3); (have SC4 := SX.out _ bC4); (have SC5 := SX.out _ bC5)))
            | (fail "arm"))
        all_goals (go_wp2_with fail; go_meet)
        all_goals
          case rel =>
            have hcan' : canBe cs.length cm.ps = true := by rw [hcs, HM.out]; exact hcan
            first
              | exact ⟨wx.heap.size, cm, A5, c5, A6, c6, rfl, Lib.hid (BX.of H.out bXP hcan' hfew (Full.new wx 25 _) bX.size
                  (hr5.keep fun z hz => ⟨⟨hz.1, by simp; omega⟩, Below.heap_alloc _ _ _ hz.2⟩) (hr6.keep fun z hz => ⟨⟨hz.1, by simp; omega⟩, Below.heap_alloc _ _ _ hz.2⟩))⟩
              | exact ⟨wr.heap.size, cm, A5, c5, A6, c6, rfl, Lib.hid (BX.of H.out bC5 hcan' hfew G9 (Nat.le_refl _) (lift5 hr5) (lift5 hr6))⟩
      case rest =>
        obtain ⟨g, cm, A5, c5, A6, c6, rfl, HBX⟩ := hcut
        obtain ⟨ps, t, au, ch, em⟩ := cm
        have hcan := HBX.out.can
        have hfew := HBX.out.few
        have hfull := HBX.out.full
        have h5 := HBX.out.r5
        have h6 := HBX.out.r6
        dsimp only at hcan hfew hfull h5 h6
        obtain ⟨n5, hn5⟩ : ∃ n5, ps.length = n5 := ⟨_, rfl⟩
        obtain ⟨n6, hn6⟩ : ∃ n6, ch.length = n6 := ⟨_, rfl⟩
        have hl2 := canBe_len hcan
        rw [hn5] at hfull h5 hl2
        rw [hn6] at hfull h6 hfew
        have hlow := HBX.out.low
        obtain ⟨F, G, ka⟩ := HBX.out.ka
        have AD := Lib.hid (HBX.out.two.add (t := t) (au := au) (em := em) (by omega) (h5.row fun x hx => hx.2) (h6.row fun x hx => hx.2) (by omega) (by omega) hcan (fun x => wr.heap.size ≤ x ∧ x < wc.heap.size) (fun x hx => ⟨Nat.le_trans H.out.below.size hx.1, hx.2⟩) ⟨F, G, ka.1, ka.2.1, ka.2.2.1, fun x hx => ka.2.2.2 x hx.1⟩)
        have AR := Lib.hid (fun (W : World) (hM : Mid w W p q cs ⟨ps, t, au, ch, em⟩) (hk : ∀ x, (wr.heap.size ≤ x ∧ x < wc.heap.size) → W.heap[x]? = wc.heap[x]?) (hsz : wc.heap.size ≤ W.heap.size) => hM.add (A1 := A5) (d1 := c5) (m1 := n5) (A2 := A6) (d2 := c6) (m2 := n6) (by omega) HBX.out.two.few
          ((h5.keep (w' := W) (G := fun x => x < W.heap.size) fun x hx => ⟨by omega, hk x hx⟩).row fun x hx => hx) ((h6.keep (w' := W) (G := fun x => x < W.heap.size) fun x hx => ⟨by omega, hk x hx⟩).row fun x hx => hx) (by omega) hfew hcan)
        rw [hcs] at AD AR
        have q0 : wc.cell? ⟨g, 0, none⟩ = some (.slice A5 n5 c5) := hfull.cell 0
        have q1 : wc.cell? ⟨g, 1, none⟩ = some (.int .i64 t) := hfull.cell 1
        have q2 : wc.cell? ⟨g, 2, none⟩ = some (.string au) := hfull.cell 2
        have q3 : wc.cell? ⟨g, 3, none⟩ = some (.slice A6 n6 c6) := hfull.cell 3
        have q4 : wc.cell? ⟨g, 4, none⟩ = some (.bool em) := hfull.cell 4
        have KF := Lib.hid (fun (W : World) (hk : ∀ x, (wr.heap.size ≤ x ∧ x < wc.heap.size) → W.heap[x]? = wc.heap[x]?) => (show Full W g 25 [.slice A5 n5 c5, .int .i64 t, .string au, .slice A6 n6 c6, .bool em] from (hk g ⟨hlow, hfull.lt⟩).trans hfull))
        clear hcan hfull h5 h6 hn5 hn6 hlow ka hl2 SD SA bD bA FA
        go_wp2_with (first
          | (go_at_call 16; ((with_reducible refine AD.out.mono ?_); rintro e v1 ⟨rfl, hMid, hkp, hsz⟩; (have kf := KF.out v1 hkp); (have s0 : v1.cell? ⟨g, 0, none⟩ = some (.slice A5 n5 c5) := kf.cell 0); (have s1 : v1.cell? ⟨g, 1, none⟩ = some (.int .i64 t) := kf.cell 1); (have s2 : v1.cell? ⟨g, 2, none⟩ = some (.string au) := kf.cell 2); (have s3 : v1.cell? ⟨g, 3, none⟩ = some (.slice A6 n6 c6) := kf.cell 3); (have s4 : v1.cell? ⟨g, 4, none⟩ = some (.bool em) := kf.cell 4)))
          | (go_at_call 17; ((with_reducible refine (AR.out v1 hMid hkp hsz).mono ?_); rintro e v2 ⟨rfl, hTwo⟩))
          | (fail "arm"))
        go_roundw
        case rel => exact ⟨k + 1, cs ++ [⟨ps, t, au, ch, em⟩], by go_num, by omega, by omega, by simp [hcs], Lib.hid hTwo⟩
        case measure => first | (simp [intOf]; done) | (simp [intOf]; omega)
    · have hb := H.out
      have M1 := Lib.hid hb.many_
      have M2 := Lib.hid hb.rmany_
      rw [hcs] at M1 M2
      clear hb
      by_cases hkn : k < n
      · obtain rfl : k = 60 := by omega
        have k1 : ((60 : Nat) : Int) < (n : Int) := by omega
        go_wp2_with (first
          | (go_at_call 23; ((with_reducible refine M1.out.mono ?_); rintro e v1 ⟨rfl, rfl⟩))
          | (go_at_call 19; ((with_reducible refine M2.out.mono ?_); rintro e v1 ⟨rfl, rfl⟩))
          | (fail "arm"))
        go_ret3
        exact ⟨p, q, cs, by simp, by omega, H.out⟩
      · obtain rfl : k = n := by omega
        go_wp2_with (first
          | (go_at_call 23; ((with_reducible refine M1.out.mono ?_); rintro e v1 ⟨rfl, rfl⟩))
          | (go_at_call 19; ((with_reducible refine M2.out.mono ?_); rintro e v1 ⟨rfl, rfl⟩))
          | (fail "arm"))
        go_ret3
        exact ⟨p, q, cs, by simp, by omega, H.out⟩
end Go.Proofs.Ytiikbekboapphaa
