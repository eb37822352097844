/- ref.Pairs: the partners of the lines. -/
import Derived.Test.YtmeoannheomdoaaLengths
import Derived.Test.YtmeoannheomdoaaPtrMath
import Derived.Test.YtmeoannheomdoaaPatch
import Derived.Test.YtmeoannheomdoaaList
import Derived.Deep.DeepCutAuto
namespace Go.Proofs.Ytmeoannheomdoaa
open Go.RowKit

theorem intC_set (l : List Int) (j : Nat) (z : Int) : (intC l).set j (.int .i64 z) = intC (l.set j z) := by unfold intC; rw [List.map_set]
theorem intC_at {l : List Int} {j : Nat} {z : Int} (h : l[j]? = some z) : (intC l)[j]? = some (.int .i64 z) := by unfold intC; rw [List.getElem?_map, h]; rfl
theorem int_at {wr : World} {g n j : Nat} {out : List Int} (hF : Full wr g 3 (intC out)) (hl : out.length = n) (hj : j < n) : ∃ z : Int, wr.cell? ⟨g, j, none⟩ = some (.int .i64 z) ∧ wr.frozen? ⟨g, j, none⟩ = false :=
  ⟨_, (hF.cell j).trans (intC_at (List.getElem?_eq_getElem (by omega))), hF.frozen j⟩
/-- the partners so far, at block g -/
def PInv (w wr : World) (g n : Nat) (D : List (Nat × Nat)) : Prop := ∃ out, Full wr g 3 (intC out) ∧ PtrOk out n D ∧ Below w.heap.size w wr
theorem PInv.below {w wr : World} {g n : Nat} {D : List (Nat × Nat)} (h : PInv w wr g n D) : Below w.heap.size w wr := by
  obtain ⟨_, _, _, h⟩ := h
  exact h
theorem PInv.lt {w wr : World} {g n : Nat} {D : List (Nat × Nat)} (h : PInv w wr g n D) : g < wr.heap.size := by
  obtain ⟨_, h, _, _⟩ := h
  exact h.lt
theorem PInv.at_ {w wr : World} {g n j : Nat} {D : List (Nat × Nat)} (h : PInv w wr g n D) (hj : j < n) : ∃ z : Int, wr.cell? ⟨g, j, none⟩ = some (.int .i64 z) ∧ wr.frozen? ⟨g, j, none⟩ = false := by
  obtain ⟨out, h1, h2, _⟩ := h
  exact int_at h1 h2.1 hj
theorem PInv.drewN {w wr : World} {g n : Nat} {D : List (Nat × Nat)} (h : PInv w wr g n D) (q : Nat) : PInv w (wr.drewN q) g n D := by
  obtain ⟨out, h1, h2, h3⟩ := h
  exact ⟨out, h1.drewN q, h2, Below.drewN_ h3 q⟩
theorem PInv.set_ {w wr : World} {g n x y : Nat} {A B : List (Nat × Nat)} (h : PInv w wr g n (A ++ B)) (hg : w.heap.size ≤ g) (hA : ∀ z ∈ A, z.1 ≠ x) (hx : x < n) : PInv w (wr.setCell ⟨g, x, none⟩ (.int .i64 (y : Int))) g n (A ++ (x, y) :: B) := by
  obtain ⟨out, h1, h2, h3⟩ := h
  refine ⟨out.set x (y : Int), ?_, h2.ins hA hx, h3.setCell (p := ⟨g, x, none⟩) hg _⟩
  rw [← intC_set]
  exact h1.set_ x _
theorem PInv.grow {w wr w2 : World} {g n : Nat} {D : List (Nat × Nat)} (h : PInv w wr g n D) (hb : Below wr.heap.size wr w2) : PInv w w2 g n D := by
  obtain ⟨out, h1, h2, h3⟩ := h
  exact ⟨out, h1.on hb, h2, Below.then_ h3 hb⟩
def PairsOut (w : World) (a b : List ByteArray) (n : Nat) (e : Ending) (w' : World) : Prop := ∃ g, e = .returned (.slice (some ⟨g, 0, none⟩) n n) ∧ PInv w w' g n (allP a b)
/-- the same line in both lists, or not -/
theorem line_at {w wr : World} {A : Option Addr} {a : List ByteArray} {c k : Nat} {s : ByteArray} (hA : Strs w w.heap.size A c a) (hb : Below w.heap.size w wr) (hk : k < a.length) (hs : a[k] = s) : ∃ ad, A = some ad ∧ wr.cell? (ad.add k) = some (.string s) := by
  obtain ⟨ad, e, hlt, hc⟩ := hA.at_ (k := k) hk
  rw [hs] at hc
  exact ⟨ad, e, (hb.cell (p := ad.add k) (by rw [add_block]; exact hlt)).trans hc⟩

theorem allP_eq {a b : List ByteArray} {t u x y : Nat} (hp : pre a b = t) (hs : suf (a.drop t) (b.drop t) = u) (hx : x + u = a.length) (hy : y + u = b.length) : allP a b = diag 0 0 t ++ (shift t (midPairs (mid a t u) (mid b t u)) ++ diag x y u) := by
  subst hp hs
  unfold allP
  rw [show a.length - suf (a.drop (pre a b)) (b.drop (pre a b)) = x by omega, show b.length - suf (a.drop (pre a b)) (b.drop (pre a b)) = y by omega]
theorem shift_cons (t : Nat) (q : Nat × Nat) (l : List (Nat × Nat)) : shift t (q :: l) = (t + q.1, t + q.2) :: shift t l := rfl
/-- the pairs so far and those to come -/
structure Mids (X Y : List ByteArray) (t i j I J : Nat) (M : List (Nat × Nat)) : Prop where
  eqs : shift t (midPairs X Y) = M ++ shift t (WW X Y i j)
  lts : ∀ z ∈ M, z.1 < I
  ei : t + i = I
  ej : t + j = J
theorem Mids.start {X Y : List ByteArray} {t : Nat} (h : X.length * Y.length ≤ 4000000) : Mids X Y t 0 0 t t [] := ⟨by
  unfold midPairs WW
  rw [if_neg (by omega)]
  rfl, fun z hz => by simp at hz, rfl, rfl⟩
theorem Mids.pair {X Y : List ByteArray} {t i j I J : Nat} {M : List (Nat × Nat)} (h : Mids X Y t i j I J M) (hi : i < X.length) (hj : j < Y.length) (he : X[i] = Y[j]) : Mids X Y t (i + 1) (j + 1) (I + 1) (J + 1) (M ++ [(I, J)]) := by
  refine ⟨?_, fun z hz => ?_, by have := h.ei; omega, by have := h.ej; omega⟩
  · rw [h.eqs, WW_step X Y hi hj, if_pos he, shift_cons, List.append_assoc]
    show M ++ ((t + i, t + j) :: _) = _
    rw [h.ei, h.ej]
    rfl
  · rcases List.mem_append.1 hz with hz | hz
    · have := h.lts z hz; omega
    · rw [List.mem_singleton.1 hz]; exact Nat.lt_succ_self _
theorem Mids.down {X Y : List ByteArray} {t i j I J : Nat} {M : List (Nat × Nat)} (h : Mids X Y t i j I J M) (hi : i < X.length) (hj : j < Y.length) (he : X[i] ≠ Y[j]) (hl : LL X Y i (j + 1) ≤ LL X Y (i + 1) j) : Mids X Y t (i + 1) j (I + 1) J M :=
  ⟨by rw [h.eqs, WW_step X Y hi hj, if_neg he, if_pos hl], fun z hz => by have := h.lts z hz; omega, by have := h.ei; omega, h.ej⟩
theorem Mids.right {X Y : List ByteArray} {t i j I J : Nat} {M : List (Nat × Nat)} (h : Mids X Y t i j I J M) (hi : i < X.length) (hj : j < Y.length) (he : X[i] ≠ Y[j]) (hl : ¬ LL X Y i (j + 1) ≤ LL X Y (i + 1) j) : Mids X Y t i (j + 1) I (J + 1) M :=
  ⟨by rw [h.eqs, WW_step X Y hi hj, if_neg he, if_neg hl], h.lts, h.ei, by have := h.ej; omega⟩
theorem Mids.done {X Y : List ByteArray} {t i j I J : Nat} {M : List (Nat × Nat)} (h : Mids X Y t i j I J M) (he : X.length ≤ i ∨ Y.length ≤ j) : shift t (midPairs X Y) = M := by
  rw [h.eqs]
  rcases he with he | he
  · rw [WW_end X Y j he]; simp [shift]
  · rw [WW_end' X Y i he]; simp [shift]

set_option maxRecDepth 100000 in
set_option maxHeartbeats 8000000 in
theorem partners_any (A B : Option Addr) (a b : List ByteArray) (n m c d : Nat) (w : World) (hA : Strs w w.heap.size A c a) (hB : Strs w w.heap.size B d b) (hn : a.length = n) (hm : b.length = m) (hn2 : n ≤ 200) (hm2 : m ≤ 200) :
    Calls Try.prog 42 #[.slice A n c, .slice B m d] w (PairsOut w a b n) := by
  have hcA : n ≤ c := by have := hA.cap; omega
  have hcB : m ≤ d := by have := hB.cap; omega
  obtain ⟨p, hp⟩ : ∃ p, pre a b = p := ⟨_, rfl⟩
  obtain ⟨p1, p2⟩ := pre_le a b
  obtain ⟨s, hs⟩ : ∃ s, suf (a.drop p) (b.drop p) = s := ⟨_, rfl⟩
  obtain ⟨s1, s2⟩ := suf_le (a.drop p) (b.drop p)
  rw [hs, List.length_drop] at s1 s2
  rw [hp, hn] at p1
  rw [hp, hm] at p2
  rw [hn] at s1
  rw [hm] at s2
  have HA := Lib.hid hA
  have HB := Lib.hid hB
  have HN := Lib.hid hn
  have HM := Lib.hid hm
  have HP := Lib.hid hp
  have HSF := Lib.hid hs
  have hmk := made_one 28 3 (.int .i64 0) 8 Try.underlying28 info3 rfl n (by omega) (by omega)
  obtain ⟨Z, HZ⟩ : ∃ Z, Hid (List.replicate n (Value.int .i64 0) = Z) := ⟨_, Lib.hid rfl⟩
  rw [HZ.out] at hmk
  clear hA hB hn hm hp hs
  go_enter Try.func42, Try.ntmps42
  go_wp2
  have hF0 := Full.new w 3 Z
  have hb0 := (Below.refl w.heap.size w).alloc (Nat.le_refl _) (.cells Z.toArray 3)
  have e0 : Z = intC (List.replicate n 0) := by rw [← HZ.out]; simp [intC]
  obtain ⟨g, hg⟩ : ∃ g, w.heap.size = g := ⟨_, rfl⟩
  obtain ⟨w0, hw0⟩ : ∃ w0, w.alloc (.cells Z.toArray 3) = w0 := ⟨_, rfl⟩
  rw [hw0] at hF0 hb0 ⊢
  have hgz : w.heap.size ≤ g := Nat.le_of_eq hg
  rw [hg] at hF0 ⊢
  rw [e0] at hF0
  have HF0 := Lib.hid hF0
  have HB0 := Lib.hid hb0
  clear hF0 hb0 hw0 hg e0 hmk HZ
  go_loopw [6] (fun v6 wr => ∃ k : Nat, k ≤ n ∧ v6 = .int .i64 (k : Int) ∧ Hid (∃ out : List Int, Full wr g 3 (intC out) ∧ out.length = n ∧ (∀ i, i < k → out[i]? = some (-1)) ∧ Below w.heap.size w wr)) (fun v6 _ => n - (intOf v6).toNat)
  case atStart => exact ⟨0, Nat.zero_le _, rfl, Lib.hid ⟨_, HF0.out, by simp, fun i hi => by omega, HB0.out⟩⟩
  case round =>
    obtain ⟨k, hk, rfl, HI⟩ := hrel
    have hk0 : (0 : Int) ≤ (k : Int) := Int.natCast_nonneg _
    by_cases hlt : k < n
    · have hk1 : (k : Int) < (n : Int) := by omega
      obtain ⟨out, o1, o2, o3, o4⟩ := HI.out
      obtain ⟨z, c1, c2⟩ := int_at o1 o2 hlt
      have HO1 := Lib.hid o1
      have HO3 := Lib.hid o3
      have HO4 := Lib.hid o4
      clear o1 o3 o4
      go_wp2_with fail
      go_roundw
      case rel =>
        refine ⟨k + 1, by omega, by go_num, Lib.hid ⟨out.set k (-1), ?_, by rw [List.length_set]; exact o2, fun i hi => ?_, HO4.out.setCell (p := ⟨g, k, none⟩) hgz _⟩⟩
        · rw [← intC_set]; exact HO1.out.set_ k _
        · by_cases e : k = i
          · subst e; rw [List.getElem?_set_self (by omega)]
          · rw [List.getElem?_set_ne e]; exact HO3.out i (by omega)
      case measure => simp [intOf]; omega
    · obtain rfl : k = n := by omega
      have HI0 : Hid (PInv w wr g k (diag 0 0 0 ++ [])) := Lib.hid (by
        obtain ⟨out, o1, o2, o3, o4⟩ := HI.out
        exact ⟨out, o1, ⟨o2, fun i hi => o3 i hi⟩, o4⟩)
      clear HI
      go_wp2
      go_loopw [7] (fun v7 wr => ∃ t : Nat, t ≤ p ∧ v7 = .int .i64 (t : Int) ∧ Hid (PInv w wr g k (diag 0 0 t ++ []))) (fun v7 _ => p - (intOf v7).toNat)
      case atStart => exact ⟨0, Nat.zero_le _, rfl, HI0⟩
      case round =>
        obtain ⟨t, ht, rfl, HI⟩ := hrel
        have ht0 : (0 : Int) ≤ (t : Int) := Int.natCast_nonneg _
        have htk : t < p → t < k ∧ t < m := fun h => by omega
        go_upto_region 7 with fail
        go_cut [45] (fun c wx => c = .bool (decide (t < p)) ∧ ∃ q, wx = wr.drewN q)
        case first =>
          have hbw := HI.out.below
          by_cases h1 : t < k
          · have i1 : (t : Int) < (k : Int) := by omega
            have d1 : decide ((t : Int) < (k : Int)) = true := by simpa using i1
            by_cases h2 : t < m
            · have i2 : (t : Int) < (m : Int) := by omega
              have d2 : decide ((t : Int) < (m : Int)) = true := by simpa using i2
              have h1a : t < a.length := by rw [HN.out]; exact h1
              have h2b : t < b.length := by rw [HM.out]; exact h2
              obtain ⟨x, hx⟩ : ∃ x, a[t] = x := ⟨_, rfl⟩
              obtain ⟨y, hy⟩ : ∃ y, b[t] = y := ⟨_, rfl⟩
              obtain ⟨ad, rfl, c1⟩ := line_at HA.out hbw h1a hx
              obtain ⟨bd, rfl, c2⟩ := line_at HB.out hbw h2b hy
              by_cases h3 : t < p
              · have he : (x.toList == y.toList) = true := by
                  have := pre_at (by rw [HP.out]; exact h3) h1a h2b
                  rw [hx, hy] at this
                  simp [this]
                go_quiet (fail)
                try go_wp2
                go_meet
                case rel => exact ⟨congrArg Value.bool (decide_eq_true (p := t < p) h3).symm, _, rfl⟩
              · have he : (x.toList == y.toList) = false := by
                  have e : t = pre a b := by rw [HP.out]; omega
                  have := pre_stop a b (by rw [← e]; exact h1a) (by rw [← e]; exact h2b)
                  simp only [← e] at this
                  rw [hx, hy] at this
                  exact by simpa using fun h => this (eq_of_data h)
                go_quiet (fail)
                try go_wp2
                go_meet
                case rel => exact ⟨congrArg Value.bool (decide_eq_false (p := t < p) h3).symm, _, rfl⟩
            · have i2 : ¬ (t : Int) < (m : Int) := by omega
              have d2 : decide ((t : Int) < (m : Int)) = false := by simpa using i2
              go_quiet (fail)
              try go_wp2
              go_meet
              case rel => exact ⟨congrArg Value.bool (decide_eq_false (p := t < p) (fun h => h2 (htk h).2)).symm, _, rfl⟩
          · have i1 : ¬ (t : Int) < (k : Int) := by omega
            have d1 : decide ((t : Int) < (k : Int)) = false := by simpa using i1
            go_quiet (fail)
            try go_wp2
            go_meet
            case rel => exact ⟨congrArg Value.bool (decide_eq_false (p := t < p) (fun h => h1 (htk h).1)).symm, _, rfl⟩
        case rest =>
          obtain ⟨rfl, q, rfl⟩ := hcut
          have HIq : Hid (PInv w (wr.drewN q) g k (diag 0 0 t ++ [])) := Lib.hid (HI.out.drewN q)
          obtain ⟨wq, hwq⟩ : ∃ wq, wr.drewN q = wq := ⟨_, rfl⟩
          rw [hwq] at HIq ⊢
          clear HI hwq
          by_cases h3 : t < p
          · have d3 : decide (t < p) = true := by simpa using h3
            have i1 : (t : Int) < (k : Int) := by omega
            obtain ⟨z, c1, c2⟩ := HIq.out.at_ (j := t) (by omega)
            rw [d3]
            go_wp2_with fail
            go_roundw
            case rel =>
              refine ⟨t + 1, by omega, by go_num, Lib.hid ?_⟩
              have := HIq.out.set_ (x := t) (y := t) hgz (fun z hz => by have := diag_mem hz; omega) (by omega)
              rw [diag_snoc, Nat.zero_add, List.append_assoc]
              exact this
            case measure => simp [intOf]; omega
          · obtain rfl : t = p := by omega
            have d3 : decide (t < t) = false := by simp
            rw [d3]
            go_wp2_with fail
            go_loopw [8, 9] (fun v8 v9 wr => ∃ u x y : Nat, u ≤ s ∧ x + u = k ∧ y + u = m ∧ v8 = .int .i64 (x : Int) ∧ v9 = .int .i64 (y : Int) ∧ Hid (PInv w wr g k (diag 0 0 t ++ diag x y u))) (fun v8 _ _ => (intOf v8).toNat)
            case atStart => exact ⟨0, k, m, Nat.zero_le _, rfl, rfl, rfl, rfl, HIq⟩
            case round =>
              obtain ⟨u, x, y, hu, hx, hy, rfl, rfl, HI⟩ := hrel
              have hus : u < s → t < x ∧ t < y := fun h => by omega
              go_upto_region 12 with fail
              go_cut [76] (fun c wx => c = .bool (decide (u < s)) ∧ ∃ q, wx = wr.drewN q)
              case first =>
                have hbw := HI.out.below
                by_cases h1 : t < x
                · have i1 : (t : Int) < (x : Int) := by omega
                  have d1 : decide ((t : Int) < (x : Int)) = true := by simpa using i1
                  obtain ⟨x', hx'⟩ : ∃ x', x' + 1 = x := ⟨x - 1, by omega⟩
                  have x1 : IntKind.i64.wrap ((x : Int) - 1) = (x' : Int) := by simp [IntKind.wrap, IntKind.bits, IntKind.signed]; omega
                  have x2 : (0 : Int) ≤ (x' : Int) := Int.natCast_nonneg _
                  have x3 : (x' : Int) < (k : Int) := by omega
                  by_cases h2 : t < y
                  · have i2 : (t : Int) < (y : Int) := by omega
                    have d2 : decide ((t : Int) < (y : Int)) = true := by simpa using i2
                    obtain ⟨y', hy'⟩ : ∃ y', y' + 1 = y := ⟨y - 1, by omega⟩
                    have y1 : IntKind.i64.wrap ((y : Int) - 1) = (y' : Int) := by simp [IntKind.wrap, IntKind.bits, IntKind.signed]; omega
                    have y2 : (0 : Int) ≤ (y' : Int) := Int.natCast_nonneg _
                    have y3 : (y' : Int) < (m : Int) := by omega
                    have h1a : x' < a.length := by rw [HN.out]; omega
                    have h2b : y' < b.length := by rw [HM.out]; omega
                    obtain ⟨sx, hsx⟩ : ∃ x, a[x'] = x := ⟨_, rfl⟩
                    obtain ⟨sy, hsy⟩ : ∃ y, b[y'] = y := ⟨_, rfl⟩
                    obtain ⟨ad, rfl, c1⟩ := line_at HA.out hbw h1a hsx
                    obtain ⟨bd, rfl, c2⟩ := line_at HB.out hbw h2b hsy
                    by_cases h3 : u < s
                    · have he : (sx.toList == sy.toList) = true := by
                        obtain ⟨_, _, _, _, hq⟩ := suf_at (a := a) (b := b) (p := t) (t := u) (x := x') (y := y') (by rw [HSF.out]; exact h3) (by rw [HN.out]; omega) (by rw [HM.out]; omega)
                        rw [hsx, hsy] at hq
                        simp [hq]
                      go_quiet (fail)
                      try go_wp2
                      go_meet
                      case rel => exact ⟨congrArg Value.bool (decide_eq_true (p := u < s) h3).symm, _, rfl⟩
                    · have he : (sx.toList == sy.toList) = false := by
                        have hq := suf_stop (a := a) (b := b) (p := t) (t := u) (x := x') (y := y') (by rw [HSF.out]; omega) (by rw [HN.out]; omega) (by rw [HM.out]; omega) (by omega) (by omega) h1a h2b
                        rw [hsx, hsy] at hq
                        exact by simpa using fun h => hq (eq_of_data h)
                      go_quiet (fail)
                      try go_wp2
                      go_meet
                      case rel => exact ⟨congrArg Value.bool (decide_eq_false (p := u < s) h3).symm, _, rfl⟩
                  · have i2 : ¬ (t : Int) < (y : Int) := by omega
                    have d2 : decide ((t : Int) < (y : Int)) = false := by simpa using i2
                    go_quiet (fail)
                    try go_wp2
                    go_meet
                    case rel => exact ⟨congrArg Value.bool (decide_eq_false (p := u < s) (fun h => h2 (hus h).2)).symm, _, rfl⟩
                · have i1 : ¬ (t : Int) < (x : Int) := by omega
                  have d1 : decide ((t : Int) < (x : Int)) = false := by simpa using i1
                  go_quiet (fail)
                  try go_wp2
                  go_meet
                  case rel => exact ⟨congrArg Value.bool (decide_eq_false (p := u < s) (fun h => h1 (hus h).1)).symm, _, rfl⟩
              case rest =>
                obtain ⟨rfl, q, rfl⟩ := hcut
                have HIq : Hid (PInv w (wr.drewN q) g k (diag 0 0 t ++ diag x y u)) := Lib.hid (HI.out.drewN q)
                obtain ⟨wq, hwq⟩ : ∃ wq, wr.drewN q = wq := ⟨_, rfl⟩
                rw [hwq] at HIq ⊢
                clear HI hwq
                by_cases h3 : u < s
                · have d3 : decide (u < s) = true := by simpa using h3
                  obtain ⟨k1, k2⟩ := hus h3
                  obtain ⟨x', hx'⟩ : ∃ x', x' + 1 = x := ⟨x - 1, by omega⟩
                  obtain ⟨y', hy'⟩ : ∃ y', y' + 1 = y := ⟨y - 1, by omega⟩
                  have x1 : IntKind.i64.wrap ((x : Int) - 1) = (x' : Int) := by simp [IntKind.wrap, IntKind.bits, IntKind.signed]; omega
                  have y1 : IntKind.i64.wrap ((y : Int) - 1) = (y' : Int) := by simp [IntKind.wrap, IntKind.bits, IntKind.signed]; omega
                  have x2 : (0 : Int) ≤ (x' : Int) := Int.natCast_nonneg _
                  have x3 : (x' : Int) < (k : Int) := by omega
                  obtain ⟨z, c1, c2⟩ := HIq.out.at_ (j := x') (by omega)
                  rw [d3]
                  go_wp2_with fail
                  go_roundw
                  case rel =>
                    refine ⟨u + 1, x', y', by omega, by omega, by omega, rfl, rfl, Lib.hid ?_⟩
                    have := HIq.out.set_ (x := x') (y := y') hgz (fun z hz => by have := diag_mem hz; omega) (by omega)
                    rw [diag_succ, hx', hy']
                    exact this
                  case measure => simp [intOf]; omega
                · obtain rfl : u = s := by omega
                  have d3 : decide (u < u) = false := by simp
                  rw [d3]
                  have hxk : x ≤ k := by omega
                  have hym : y ≤ m := by omega
                  have htx : t ≤ x := by omega
                  have hty : t ≤ y := by omega
                  obtain ⟨nX, hnX⟩ : ∃ nX, t + nX = x := ⟨x - t, by omega⟩
                  obtain ⟨mY, hmY⟩ : ∃ mY, t + mY = y := ⟨y - t, by omega⟩
                  obtain ⟨X, hX⟩ : ∃ X, mid a t u = X := ⟨_, rfl⟩
                  obtain ⟨Y, hY⟩ : ∃ Y, mid b t u = Y := ⟨_, rfl⟩
                  have hXl : X.length = nX := by rw [← hX, mid_len, HN.out]; omega
                  have hYl : Y.length = mY := by rw [← hY, mid_len, HM.out]; omega
                  have la := strs_lh A a c t x htx (by rw [HN.out]; omega) (by rw [HN.out]; omega)
                  rw [HN.out, show x - t = nX by omega, (show (a.drop t).take nX = X by rw [← hX]; unfold mid; rw [HN.out]; congr 1; omega)] at la
                  obtain ⟨A1, r1, l1, K1⟩ := la
                  have lb := strs_lh B b d t y hty (by rw [HM.out]; omega) (by rw [HM.out]; omega)
                  rw [HM.out, show y - t = mY by omega, (show (b.drop t).take mY = Y by rw [← hY]; unfold mid; rw [HM.out]; congr 1; omega)] at lb
                  obtain ⟨B1, r2, l2, K2⟩ := lb
                  have x1 : IntKind.i64.wrap ((x : Int) - (t : Int)) = (nX : Int) := by simp [IntKind.wrap, IntKind.bits, IntKind.signed]; omega
                  have y1 : IntKind.i64.wrap ((y : Int) - (t : Int)) = (mY : Int) := by simp [IntKind.wrap, IntKind.bits, IntKind.signed]; omega
                  obtain ⟨pr, hpr⟩ : ∃ pr, nX * mY = pr := ⟨_, rfl⟩
                  have hpr4 : pr ≤ 40000 := by have := Nat.mul_le_mul (show nX ≤ 200 by omega) (show mY ≤ 200 by omega); omega
                  have hpr1 : IntKind.i64.wrap ((nX : Int) * (mY : Int)) = (pr : Int) := by
                    rw [show (nX : Int) * (mY : Int) = (pr : Int) by rw [← hpr]; exact (Int.natCast_mul _ _).symm]
                    simp [IntKind.wrap, IntKind.bits, IntKind.signed]; omega
                  have hpr2 : ¬ (4000000 : Int) < (pr : Int) := by omega
                  have hall : allP a b = diag 0 0 t ++ (shift t (midPairs X Y) ++ diag x y u) := by
                    rw [← hX, ← hY]
                    exact allP_eq HP.out HSF.out (by rw [HN.out]; exact hx) (by rw [HM.out]; exact hy)
                  have HALL := Lib.hid hall
                  have hst : Mids X Y t 0 0 t t [] := Mids.start (by rw [hXl, hYl, hpr]; omega)
                  have HST := Lib.hid hst
                  have LG := Lib.hid (fun (W : World) (hW : Below w.heap.size w W) => lengths_any A1 B1 X Y nX mY (c - t) (d - t) W (K1 W W.heap.size (Row.more (Row.below HA.out hW (Nat.le_refl _)) hW.size)) (K2 W W.heap.size (Row.more (Row.below HB.out hW (Nat.le_refl _)) hW.size)) hXl hYl (by omega) (by omega))
                  have HXM : Hid (∀ i (h : i < X.length) (h2 : t + i < a.length), X[i] = a[t + i]) := Lib.hid (fun i h h2 => by
                    subst hX
                    exact mid_at a t u i h)
                  have HYM : Hid (∀ i (h : i < Y.length) (h2 : t + i < b.length), Y[i] = b[t + i]) := Lib.hid (fun i h h2 => by
                    subst hY
                    exact mid_at b t u i h)
                  have HXL := Lib.hid hXl
                  have HYL := Lib.hid hYl
                  have hI1 : Hid (PInv w wq.drew g k (diag 0 0 t ++ diag x y u)) := Lib.hid (HIq.out.drewN 1)
                  have HNX := Lib.hid hnX
                  have HMY := Lib.hid hmY
                  have i1 : (t : Int) ≤ (x : Int) := by omega
                  have i2 : (t : Int) ≤ (y : Int) := by omega
                  have i3 : (x : Int) ≤ (k : Int) := by omega
                  have i4 : (y : Int) ≤ (m : Int) := by omega
                  clear hX hY hXl hYl K1 K2 hall hst l1 l2 hpr hnX hmY
                  go_upto_region 18 with fail
                  go_still_tail 8, (by kernel_rfl)
                  change wpList _ _ _ _ _ wq.drew
                  obtain ⟨wd, hwd⟩ : ∃ wd, wq.drew = wd := ⟨_, rfl⟩
                  rw [hwd] at hI1 ⊢
                  clear hwd HIq
                  go_wp2_with (go_at_call 27; ((with_reducible refine (LG.out _ hI1.out.below).mono ?_); rintro e' w5 ⟨gt, rows, rfl, hT, hb⟩))
                  have hPw := hI1.out.grow hb
                  have hglt : g < wd.heap.size := hI1.out.lt
                  obtain ⟨lo, hlo⟩ : ∃ lo, wd.heap.size = lo := ⟨_, rfl⟩
                  obtain ⟨hi5, hhi⟩ : ∃ hi, w5.heap.size = hi := ⟨_, rfl⟩
                  rw [hlo, hhi] at hT
                  rw [hlo] at hglt
                  have HP5 := Lib.hid hPw
                  have HT5 := Lib.hid hT
                  clear hPw hT hb hI1 hlo hhi LG
                  go_loopw [11, 12] (fun v11 v12 wr => ∃ (i j I J : Nat) (M : List (Nat × Nat)), i ≤ nX ∧ j ≤ mY ∧ I ≤ x ∧ J ≤ y ∧ v11 = .int .i64 (I : Int) ∧ v12 = .int .i64 (J : Int) ∧ Hid (Mids X Y t i j I J M) ∧ Hid (PInv w wr g k ((diag 0 0 t ++ M) ++ diag x y u)) ∧ Hid (Tab wr gt lo hi5 X Y (-1) rows)) (fun v11 v12 _ => x + y - (intOf v11).toNat - (intOf v12).toNat)
                  case atStart => exact ⟨0, 0, t, t, [], Nat.zero_le _, Nat.zero_le _, htx, hty, rfl, rfl, HST, Lib.hid (by rw [List.append_nil]; exact HP5.out), HT5⟩
                  case round =>
                    obtain ⟨i, j, I, J, M, hi, hj, hIx, hJy, rfl, rfl, HM0, HI, HTB⟩ := hrel
                    have hI0 : (0 : Int) ≤ (I : Int) := Int.natCast_nonneg _
                    have hJ0 : (0 : Int) ≤ (J : Int) := Int.natCast_nonneg _
                    have eI := HM0.out.ei
                    have eJ := HM0.out.ej
                    have eX := HNX.out
                    have eY := HMY.out
                    by_cases h1 : I < x
                    · have n1 : (I : Int) < (x : Int) := by omega
                      have n1k : (I : Int) < (k : Int) := by omega
                      by_cases h2 : J < y
                      · have n2 : (J : Int) < (y : Int) := by omega
                        have n2m : (J : Int) < (m : Int) := by omega
                        have hiX : i < X.length := by rw [HXL.out]; omega
                        have hjY : j < Y.length := by rw [HYL.out]; omega
                        have hIa : I < a.length := by rw [HN.out]; omega
                        have hJb : J < b.length := by rw [HM.out]; omega
                        have hxa := HXM.out i hiX (by rw [eI]; exact hIa)
                        have hyb := HYM.out j hjY (by rw [eJ]; exact hJb)
                        simp only [eI] at hxa
                        simp only [eJ] at hyb
                        obtain ⟨sx, hsx⟩ : ∃ s, a[I] = s := ⟨_, rfl⟩
                        obtain ⟨sy, hsy⟩ : ∃ s, b[J] = s := ⟨_, rfl⟩
                        rw [hsx] at hxa
                        rw [hsy] at hyb
                        have hbw := HI.out.below
                        obtain ⟨ad, rfl, c1⟩ := line_at HA.out hbw hIa hsx
                        obtain ⟨bd, rfl, c2⟩ := line_at HB.out hbw hJb hsy
                        have HXA := Lib.hid hxa
                        have HYB := Lib.hid hyb
                        obtain ⟨z, c3, c4⟩ := HI.out.at_ (j := I) (by omega)
                        have hIt : I = t + i := eI.symm
                        have hm1 : i + 1 ≤ nX := by omega
                        have hm2 : j + 1 ≤ mY := by omega
                        have hno : ∀ z ∈ diag 0 0 t ++ M, z.1 ≠ I := fun z hz => by
                          rcases List.mem_append.1 hz with hz | hz
                          · have := diag_mem hz; omega
                          · have := HM0.out.lts z hz; omega
                        have HNO := Lib.hid hno
                        clear hxa hyb hsx hsy hno
                        by_cases hst : sx.toList = sy.toList
                        · have he : (sx.toList == sy.toList) = true := by simpa using hst
                          have HE := Lib.hid hst
                          clear hst eI eJ eX eY hIt
                          go_wp2_with fail
                          go_quiet (fail)
                          go_wp2
                          go_roundw
                          case rel =>
                            refine ⟨i + 1, j + 1, I + 1, J + 1, M ++ [(I, J)], hm1, hm2, by omega, by omega, by go_num, by go_num, Lib.hid (HM0.out.pair hiX hjY (by rw [HXA.out, HYB.out]; exact eq_of_data HE.out)), Lib.hid ?_, Lib.hid ((HTB.out.drewN _).far (p := ⟨g, I, none⟩) hglt _)⟩
                            have := (HI.out.drewN nq).set_ (x := I) (y := J) hgz HNO.out (by omega)
                            rw [← List.append_assoc, List.append_assoc _ [(I, J)]]
                            exact this
                          case measure => simp [intOf]; omega
                        · have he : (sx.toList == sy.toList) = false := by simpa using hst
                          have HE := Lib.hid hst
                          clear hst
                          obtain ⟨v1, hv1⟩ : ∃ v, LL X Y (i + 1) j = v := ⟨_, rfl⟩
                          obtain ⟨v2, hv2⟩ : ∃ v, LL X Y i (j + 1) = v := ⟨_, rfl⟩
                          obtain ⟨g1, q1, q2, q3⟩ := HTB.out.at_ (i := i + 1) (j := j) (by omega) (by omega) (by omega) hv1
                          obtain ⟨g2, q4, q5, q6⟩ := HTB.out.at_ (i := i) (j := j + 1) (by omega) (by omega) (by omega) hv2
                          rw [HYL.out] at q1 q4
                          have w1 : IntKind.i64.wrap ((I : Int) + 1) = (I : Int) + 1 := by simp [IntKind.wrap, IntKind.bits, IntKind.signed]; omega
                          have w2 : IntKind.i64.wrap ((J : Int) + 1) = (J : Int) + 1 := by simp [IntKind.wrap, IntKind.bits, IntKind.signed]; omega
                          have w3 : IntKind.i64.wrap ((I : Int) + 1 - (t : Int)) = (i : Int) + 1 := by simp [IntKind.wrap, IntKind.bits, IntKind.signed]; omega
                          have w4 : IntKind.i64.wrap ((J : Int) + 1 - (t : Int)) = (j : Int) + 1 := by simp [IntKind.wrap, IntKind.bits, IntKind.signed]; omega
                          have w6 : IntKind.i64.wrap ((I : Int) - (t : Int)) = (i : Int) := by simp [IntKind.wrap, IntKind.bits, IntKind.signed]; omega
                          have w7 : IntKind.i64.wrap ((J : Int) - (t : Int)) = (j : Int) := by simp [IntKind.wrap, IntKind.bits, IntKind.signed]; omega
                          have z1 : (0 : Int) ≤ (i : Int) := Int.natCast_nonneg _
                          have z2 : (0 : Int) ≤ (j : Int) := Int.natCast_nonneg _
                          have z3 : (i : Int) + 1 < (nX : Int) + 1 := by omega
                          have z4 : (j : Int) + 1 < (mY : Int) + 1 := by omega
                          have z5 : (i : Int) < (nX : Int) + 1 := by omega
                          have z6 : (j : Int) < (mY : Int) + 1 := by omega
                          have z7 : ((i : Int) + 1).toNat = i + 1 := by omega
                          have z8 : ((j : Int) + 1).toNat = j + 1 := by omega
                          have z9 : (0 : Int) ≤ (i : Int) + 1 := by omega
                          have z10 : (0 : Int) ≤ (j : Int) + 1 := by omega
                          have HV1 := Lib.hid hv1
                          have HV2 := Lib.hid hv2
                          clear hv1 hv2 eI eJ eX eY hIt q3 q6
                          by_cases hle : v2 ≤ v1
                          · have hl1 : (v2 : Int) ≤ (v1 : Int) := by omega
                            have hl2 : decide ((v2 : Int) ≤ (v1 : Int)) = true := by simpa using hl1
                            go_wp2_with fail
                            go_quiet (fail)
                            go_wp2
                            go_quiet (fail)
                            go_wp2
                            go_roundw
                            case rel =>
                              exact ⟨i + 1, j, I + 1, J, M, hm1, hj, by omega, by omega, by go_num, rfl, Lib.hid (HM0.out.down hiX hjY (by rw [HXA.out, HYB.out]; rintro rfl; exact HE.out rfl) (by rw [HV1.out, HV2.out]; exact hle)), Lib.hid (HI.out.drewN _), Lib.hid (HTB.out.drewN _)⟩
                            case measure => simp [intOf]; omega
                          · have hl1 : ¬ (v2 : Int) ≤ (v1 : Int) := by omega
                            have hl2 : decide ((v2 : Int) ≤ (v1 : Int)) = false := by simpa using hl1
                            go_wp2_with fail
                            go_quiet (fail)
                            go_wp2
                            go_quiet (fail)
                            go_wp2
                            go_roundw
                            case rel =>
                              exact ⟨i, j + 1, I, J + 1, M, hi, hm2, by omega, by omega, rfl, by go_num, Lib.hid (HM0.out.right hiX hjY (by rw [HXA.out, HYB.out]; rintro rfl; exact HE.out rfl) (by rw [HV1.out, HV2.out]; exact hle)), Lib.hid (HI.out.drewN _), Lib.hid (HTB.out.drewN _)⟩
                            case measure => simp [intOf]; omega
                      · have n2 : ¬ (J : Int) < (y : Int) := by omega
                        have hd := HM0.out.done (.inr (by rw [HYL.out]; omega))
                        have HD := Lib.hid hd
                        clear hd eI eJ eX eY
                        go_wp2_with fail
                        go_ret
                        refine ⟨g, rfl, ?_⟩
                        rw [HALL.out, HD.out, ← List.append_assoc]
                        exact HI.out
                    · have n1 : ¬ (I : Int) < (x : Int) := by omega
                      have hd := HM0.out.done (.inl (by rw [HXL.out]; omega))
                      have HD := Lib.hid hd
                      clear hd eI eJ eX eY
                      go_wp2_with fail
                      go_ret
                      refine ⟨g, rfl, ?_⟩
                      rw [HALL.out, HD.out, ← List.append_assoc]
                      exact HI.out
end Go.Proofs.Ytmeoannheomdoaa
