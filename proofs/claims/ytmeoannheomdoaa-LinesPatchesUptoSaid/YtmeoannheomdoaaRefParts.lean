/- ref.starts, ref.within, ref.grow. -/
import Derived.Test.YtmeoannheomdoaaRefMath
import Derived.Test.YtmeoannheomdoaaSame
namespace Go.Proofs.Ytmeoannheomdoaa
open Go.RowKit

def AskOut (w : World) (P : Prop) (e : Ending) (w' : World) : Prop := ∃ R : Bool, e = .returned (.bool R) ∧ (R = true ↔ P) ∧ w' = w

set_option maxRecDepth 100000 in
set_option maxHeartbeats 2000000 in
theorem starts_any (A : Option Addr) (H : List Hk) (c p i : Nat) (w : World) (hA : Hks w w.heap.size A c H) (hp : H.length = p) (hp2 : p ≤ 1000000) (hi : i ≤ 1000000) : Calls Try.prog 48 #[.slice A p c, .int .i64 (i : Int)] w (AskOut w (∃ h ∈ H, h.a0 = i)) := by
  have hcap := hA.cap
  have HA := Lib.hid hA
  have HP := Lib.hid hp
  clear hA hp
  go_enter Try.func48, Try.ntmps48
  go_wp2
  go_loopw [5] (fun v5 wr => ∃ k : Nat, k ≤ p ∧ v5 = .int .i64 (k : Int) ∧ wr = w ∧ Hid (∀ j (h : j < H.length), j < k → H[j].a0 ≠ i)) (fun v5 _ => p - (intOf v5).toNat)
  case atStart => exact ⟨0, Nat.zero_le _, rfl, rfl, Lib.hid (fun j _ hj => by omega)⟩
  case round =>
    obtain ⟨k, hk, rfl, rfl, HE⟩ := hrel
    have hk0 : (0 : Int) ≤ (k : Int) := Int.natCast_nonneg _
    by_cases hlt : k < p
    · have hk1 : (k : Int) < (p : Int) := by omega
      have hkl : k < H.length := by rw [HP.out]; exact hlt
      obtain ⟨ad, rfl, q0, q1, q2, q3⟩ := hks_at HA.out hkl
      have hmem := List.getElem_mem hkl
      obtain ⟨x, hx⟩ : ∃ x, H[k] = x := ⟨_, rfl⟩
      rw [hx] at q0 hmem
      have HX := Lib.hid hx
      have HME := Lib.hid hmem
      clear q1 q2 q3 hx hmem
      by_cases he : x.a0 = i
      · have hb : ((x.a0 : Int) == (i : Int)) = true := by rw [he]; simp
        have HEQ := Lib.hid he
        clear he
        go_wp2_with fail
        go_ret
        exact ⟨true, rfl, ⟨fun _ => ⟨x, HME.out, HEQ.out⟩, fun _ => rfl⟩, rfl⟩
      · have hb := beq_int he
        have HNE := Lib.hid he
        clear he
        go_wp2_with fail
        go_roundw
        case rel =>
          refine ⟨k + 1, by omega, by go_num, trivial, Lib.hid (fun j h hj => ?_)⟩
          rcases Nat.lt_or_ge j k with h' | h'
          · exact HE.out j h h'
          · obtain rfl : j = k := by omega
            rw [HX.out]; exact HNE.out
        case measure => simp [intOf]; omega
    · obtain rfl : k = p := by omega
      go_wp2_with fail
      go_ret
      refine ⟨false, rfl, ⟨(fun h => by cases h), fun ⟨h, hm, he⟩ => ?_⟩, rfl⟩
      obtain ⟨j, hj, rfl⟩ := List.getElem_of_mem hm
      exact absurd he (HE.out j hj (by rw [← HP.out]; exact hj))

set_option maxRecDepth 100000 in
set_option maxHeartbeats 2000000 in
theorem within_any (A : Option Addr) (H : List Hk) (c p i u : Nat) (w : World) (hA : Hks w w.heap.size A c H) (hp : H.length = p) (hp2 : p ≤ 1000000) (hi : i ≤ 1000000) (hu : u ≤ 1000000) : Calls Try.prog 51 #[.slice A p c, .int .i64 (i : Int), .int .i64 (u : Int)] w (AskOut w (∃ h ∈ H, i ≤ h.a0 ∧ h.a1 ≤ u)) := by
  have hcap := hA.cap
  have HA := Lib.hid hA
  have HP := Lib.hid hp
  clear hA hp
  go_enter Try.func51, Try.ntmps51
  go_wp2
  go_loopw [7] (fun v7 wr => ∃ k : Nat, k ≤ p ∧ v7 = .int .i64 (k : Int) ∧ wr = w ∧ Hid (∀ j (h : j < H.length), j < k → ¬ (i ≤ H[j].a0 ∧ H[j].a1 ≤ u))) (fun v7 _ => p - (intOf v7).toNat)
  case atStart => exact ⟨0, Nat.zero_le _, rfl, rfl, Lib.hid (fun j _ hj => by omega)⟩
  case round =>
    obtain ⟨k, hk, rfl, rfl, HE⟩ := hrel
    have hk0 : (0 : Int) ≤ (k : Int) := Int.natCast_nonneg _
    by_cases hlt : k < p
    · have hk1 : (k : Int) < (p : Int) := by omega
      have hkl : k < H.length := by rw [HP.out]; exact hlt
      obtain ⟨ad, rfl, q0, q1, q2, q3⟩ := hks_at HA.out hkl
      have hmem := List.getElem_mem hkl
      obtain ⟨x, hx⟩ : ∃ x, H[k] = x := ⟨_, rfl⟩
      rw [hx] at q0 q1 hmem
      have HX := Lib.hid hx
      have HME := Lib.hid hmem
      clear q2 q3 hx hmem
      have next : ¬ (i ≤ x.a0 ∧ x.a1 ≤ u) → ∀ j (h : j < H.length), j < k + 1 → ¬ (i ≤ H[j].a0 ∧ H[j].a1 ≤ u) := fun hn j h hj => by
        rcases Nat.lt_or_ge j k with h' | h'
        · exact HE.out j h h'
        · obtain rfl : j = k := by omega
          rw [HX.out]; exact hn
      have NX := Lib.hid next
      clear next
      by_cases h1 : i ≤ x.a0
      · have i1 : (i : Int) ≤ (x.a0 : Int) := by omega
        have d1 : decide ((i : Int) ≤ (x.a0 : Int)) = true := by simpa using i1
        by_cases h2 : x.a1 ≤ u
        · have i2 : (x.a1 : Int) ≤ (u : Int) := by omega
          have d2 : decide ((x.a1 : Int) ≤ (u : Int)) = true := by simpa using i2
          have HEQ := Lib.hid (And.intro h1 h2)
          clear h1 h2
          go_wp2_with fail
          go_ret
          exact ⟨true, rfl, ⟨fun _ => ⟨x, HME.out, HEQ.out⟩, fun _ => rfl⟩, rfl⟩
        · have i2 : ¬ (x.a1 : Int) ≤ (u : Int) := by omega
          have d2 : decide ((x.a1 : Int) ≤ (u : Int)) = false := decide_eq_false i2
          have HN := Lib.hid (NX.out (fun h => h2 h.2))
          clear h1 h2
          go_wp2_with fail
          go_roundw
          case rel => exact ⟨k + 1, by omega, by go_num, trivial, HN⟩
          case measure => simp [intOf]; omega
      · have i1 : ¬ (i : Int) ≤ (x.a0 : Int) := by omega
        have d1 : decide ((i : Int) ≤ (x.a0 : Int)) = false := decide_eq_false i1
        have HN := Lib.hid (NX.out (fun h => h1 h.1))
        clear h1
        go_wp2_with fail
        go_roundw
        case rel => exact ⟨k + 1, by omega, by go_num, trivial, HN⟩
        case measure => simp [intOf]; omega
    · obtain rfl : k = p := by omega
      go_wp2_with fail
      go_ret
      refine ⟨false, rfl, ⟨(fun h => by cases h), fun ⟨h, hm, he⟩ => ?_⟩, rfl⟩
      obtain ⟨j, hj, rfl⟩ := List.getElem_of_mem hm
      exact absurd he (HE.out j hj (by rw [← HP.out]; exact hj))

def againN (n : Nat) (v : Value) (u : Nat) : Nat := match v with | .bool true => n + 1 - u | _ => 0
def GrowOut (w : World) (X Y : List Hk) (i : Nat) (e : Ending) (w' : World) : Prop := ∃ T : Nat, e = .returned (.int .i64 (T : Int)) ∧ i ≤ T ∧ Shut X Y i T ∧ (∀ N, i ≤ N → Shut X Y i N → T ≤ N) ∧ Below w.heap.size w w'
/-- one pass: the hunks up to place k of both lists -/
structure Pass (X Y : List Hk) (i k u0 u : Nat) (again : Bool) : Prop where
  le : i ≤ u0
  ge : u0 ≤ u
  ag : again = true → u0 < u
  no : again = false → u = u0 ∧ ∀ j (h : j < (X ++ Y).length), j < k → i ≤ (X ++ Y)[j].a0 → (X ++ Y)[j].a0 ≤ u → (X ++ Y)[j].a1 ≤ u
  min : ∀ N, i ≤ N → Shut X Y i N → u ≤ N
theorem Pass.keep {X Y : List Hk} {i k u0 u : Nat} {again : Bool} (h : Pass X Y i k u0 u again) (hk : k < (X ++ Y).length) (hn : i ≤ (X ++ Y)[k].a0 → (X ++ Y)[k].a0 ≤ u → (X ++ Y)[k].a1 ≤ u) : Pass X Y i (k + 1) u0 u again :=
  ⟨h.le, h.ge, h.ag, fun ha => ⟨(h.no ha).1, fun j hj hlt h1 h2 => by
    rcases Nat.lt_or_ge j k with h' | h'
    · exact (h.no ha).2 j hj h' h1 h2
    · obtain rfl : j = k := by omega
      exact hn h1 h2⟩, h.min⟩
theorem Pass.more {X Y : List Hk} {i k u0 u v : Nat} {again : Bool} (h : Pass X Y i k u0 u again) (hk : k < (X ++ Y).length) (h1 : i ≤ (X ++ Y)[k].a0) (h2 : (X ++ Y)[k].a0 ≤ u) (h3 : u < v) (hv : (X ++ Y)[k].a1 = v) : Pass X Y i (k + 1) u0 v true :=
  ⟨h.le, (by have := h.ge; omega), fun _ => (by have := h.ge; omega), (fun e => by cases e), fun N hN hS => by
    have := h.min N hN hS
    have := hS (X ++ Y)[k] (List.mem_append.1 (List.getElem_mem hk)) h1 (by omega)
    omega⟩

set_option maxRecDepth 100000 in
set_option maxHeartbeats 4000000 in
theorem refGrow_any (A B : Option Addr) (X Y : List Hk) (c d p q i n : Nat) (w : World) (hA : Hks w w.heap.size A c X) (hB : Hks w w.heap.size B d Y) (hp : X.length = p) (hq : Y.length = q) (hp2 : p ≤ 1000000) (hq2 : q ≤ 1000000) (hi : i ≤ n) (hn : n ≤ 1000000) (hX : ∀ x ∈ X, x.a1 ≤ n) (hY : ∀ x ∈ Y, x.a1 ≤ n) :
    Calls Try.prog 49 #[.slice A p c, .slice B q d, .int .i64 (i : Int), .int .i64 (i : Int)] w (GrowOut w X Y i) := by
  have hcA := hA.cap
  have hcB := hB.cap
  have HA := Lib.hid hA
  have HB := Lib.hid hB
  have HP := Lib.hid hp
  have HQ := Lib.hid hq
  have hXY : ∀ j (h : j < (X ++ Y).length), (X ++ Y)[j].a1 ≤ n := fun j h => (List.mem_append.1 (List.getElem_mem h)).elim (hX _) (hY _)
  have HXY := Lib.hid hXY
  have HLen : Hid ((X ++ Y).length = p + q) := Lib.hid (by rw [List.length_append, hp, hq])
  clear hA hB hp hq hX hY hXY
  go_enter Try.func49, Try.ntmps49
  go_wp2
  go_loopw [3, 9] (fun v3 v9 wr => ∃ (u : Nat) (again : Bool), i ≤ u ∧ u ≤ n ∧ v3 = .int .i64 (u : Int) ∧ v9 = .bool again ∧ Hid (∀ N, i ≤ N → Shut X Y i N → u ≤ N) ∧ Hid (again = false → Shut X Y i u) ∧ Hid (Below w.heap.size w wr)) (fun v3 v9 _ => againN n v9 (intOf v3).toNat)
  case atStart => exact ⟨i, true, Nat.le_refl _, hi, rfl, rfl, Lib.hid (fun N h _ => h), Lib.hid (fun e => by cases e), Lib.hid (Below.refl _ _)⟩
  case round =>
    obtain ⟨u, again, hiu, hun, rfl, rfl, HMin, HSh, HBW⟩ := hrel
    cases again with
    | false =>
      have HS := Lib.hid (HSh.out rfl)
      go_wp2_with fail
      go_ret
      exact ⟨u, rfl, hiu, HS.out, HMin.out, HBW.out⟩
    | true =>
      obtain ⟨sz, hsz⟩ : ∃ sz, p + q = sz := ⟨_, rfl⟩
      have hw0 : IntKind.i64.wrap ((p : Int) + (q : Int)) = (sz : Int) := by simp [IntKind.wrap, IntKind.bits, IntKind.signed]; omega
      have HP0 : Hid (Pass X Y i 0 u u false) := Lib.hid ⟨hiu, Nat.le_refl _, (fun e => by cases e), fun _ => ⟨rfl, fun j h hj => by omega⟩, HMin.out⟩
      go_wp2_with fail
      go_loopw [3, 9, 10] (fun v3 v9 v10 wr => ∃ (k v : Nat) (ag : Bool), k ≤ sz ∧ v ≤ n ∧ v10 = .int .i64 (k : Int) ∧ v3 = .int .i64 (v : Int) ∧ v9 = .bool ag ∧ Hid (Pass X Y i k u v ag) ∧ Hid (Below w.heap.size w wr)) (fun _ _ v10 _ => sz - (intOf v10).toNat)
      case atStart => exact ⟨0, u, false, Nat.zero_le _, hun, rfl, rfl, rfl, HP0, HBW⟩
      case round =>
        obtain ⟨k, v, ag, hk, hvn, rfl, rfl, rfl, HPs, HB2⟩ := hrel
        have hk0 : (0 : Int) ≤ (k : Int) := Int.natCast_nonneg _
        by_cases hlt : k < sz
        · have hk1 : (k : Int) < (sz : Int) := by omega
          have hkl : k < (X ++ Y).length := by rw [HLen.out, hsz]; exact hlt
          by_cases hkp : k < p
          · have hk2 : (k : Int) < (p : Int) := by omega
            have hkX : k < X.length := by rw [HP.out]; exact hkp
            obtain ⟨ad, rfl, q0, q1, q2, q3⟩ := hks_at (Row.below HA.out (HB2.out.alloc HB2.out.size (.cells #[.int .i64 0, .int .i64 0, .int .i64 0, .int .i64 0] 40)) (Nat.le_refl _)) hkX
            obtain ⟨x, hx⟩ : ∃ x, X[k] = x := ⟨_, rfl⟩
            have hxy : (X ++ Y)[k] = x := by rw [List.getElem_append_left hkX]; exact hx
            rw [hx] at q0 q1 q2 q3
            clear hx hkX
            by_cases h1 : i ≤ x.a0
            · have i1 : (i : Int) ≤ (x.a0 : Int) := by omega
              have d1 : decide ((i : Int) ≤ (x.a0 : Int)) = true := by simpa using i1
              by_cases h2 : x.a0 ≤ v
              · have i2 : (x.a0 : Int) ≤ (v : Int) := by omega
                have d2 : decide ((x.a0 : Int) ≤ (v : Int)) = true := by simpa using i2
                by_cases h3 : v < x.a1
                · have i3 : (v : Int) < (x.a1 : Int) := by omega
                  have d3 : decide ((v : Int) < (x.a1 : Int)) = true := by simpa using i3
                  have HI2 := Lib.hid (HPs.out.more (v := x.a1) hkl (by rw [hxy]; exact h1) (by rw [hxy]; exact h2) h3 (by rw [hxy]))
                  have hxn : x.a1 ≤ n := by rw [← hxy]; exact HXY.out k hkl
                  have HXN := Lib.hid hxn
                  clear hxy h1 h2 h3 hxn hkl
                  go_wp2_with fail
                  go_roundw
                  case rel => exact ⟨k + 1, x.a1, true, by omega, HXN.out, by go_num, rfl, rfl, HI2, Lib.hid (HB2.out.alloc HB2.out.size _)⟩
                  case measure => simp [intOf]; omega
                · have i3 : ¬ (v : Int) < (x.a1 : Int) := by omega
                  have d3 : decide ((v : Int) < (x.a1 : Int)) = false := decide_eq_false i3
                  have HI2 := Lib.hid (HPs.out.keep hkl (fun _ _ => by rw [hxy]; omega))
                  clear hxy h1 h2 h3 hkl
                  go_wp2_with fail
                  go_roundw
                  case rel => exact ⟨k + 1, v, ag, by omega, hvn, by go_num, rfl, rfl, HI2, Lib.hid (HB2.out.alloc HB2.out.size _)⟩
                  case measure => simp [intOf]; omega
              · have i2 : ¬ (x.a0 : Int) ≤ (v : Int) := by omega
                have d2 : decide ((x.a0 : Int) ≤ (v : Int)) = false := decide_eq_false i2
                have HI2 := Lib.hid (HPs.out.keep hkl (fun _ h => by rw [hxy] at h; exact absurd h h2))
                clear hxy h1 h2 hkl
                go_wp2_with fail
                go_roundw
                case rel => exact ⟨k + 1, v, ag, by omega, hvn, by go_num, rfl, rfl, HI2, Lib.hid (HB2.out.alloc HB2.out.size _)⟩
                case measure => simp [intOf]; omega
            · have i1 : ¬ (i : Int) ≤ (x.a0 : Int) := by omega
              have d1 : decide ((i : Int) ≤ (x.a0 : Int)) = false := decide_eq_false i1
              have HI2 := Lib.hid (HPs.out.keep hkl (fun h _ => by rw [hxy] at h; exact absurd h h1))
              clear hxy h1 hkl
              go_wp2_with fail
              go_roundw
              case rel => exact ⟨k + 1, v, ag, by omega, hvn, by go_num, rfl, rfl, HI2, Lib.hid (HB2.out.alloc HB2.out.size _)⟩
              case measure => simp [intOf]; omega
          · have hk2 : ¬ (k : Int) < (p : Int) := by omega
            obtain ⟨t, ht⟩ : ∃ t, p + t = k := ⟨k - p, by omega⟩
            have hw1 : IntKind.i64.wrap ((k : Int) - (p : Int)) = (t : Int) := by simp [IntKind.wrap, IntKind.bits, IntKind.signed]; omega
            have ht0 : (0 : Int) ≤ (t : Int) := Int.natCast_nonneg _
            have ht1 : (t : Int) < (q : Int) := by omega
            have hkY : t < Y.length := by rw [HQ.out]; omega
            obtain ⟨ad, rfl, q0, q1, q2, q3⟩ := hks_at (Row.below HB.out (HB2.out.alloc HB2.out.size (.cells #[.int .i64 0, .int .i64 0, .int .i64 0, .int .i64 0] 40)) (Nat.le_refl _)) hkY
            obtain ⟨x, hx⟩ : ∃ x, Y[t] = x := ⟨_, rfl⟩
            have hxy : (X ++ Y)[k] = x := by
              rw [List.getElem_append_right (by rw [HP.out]; omega)]
              have e : k - X.length = t := by rw [HP.out]; omega
              simp only [e]
              exact hx
            rw [hx] at q0 q1 q2 q3
            clear hx hkY ht
            by_cases h1 : i ≤ x.a0
            · have i1 : (i : Int) ≤ (x.a0 : Int) := by omega
              have d1 : decide ((i : Int) ≤ (x.a0 : Int)) = true := by simpa using i1
              by_cases h2 : x.a0 ≤ v
              · have i2 : (x.a0 : Int) ≤ (v : Int) := by omega
                have d2 : decide ((x.a0 : Int) ≤ (v : Int)) = true := by simpa using i2
                by_cases h3 : v < x.a1
                · have i3 : (v : Int) < (x.a1 : Int) := by omega
                  have d3 : decide ((v : Int) < (x.a1 : Int)) = true := by simpa using i3
                  have HI2 := Lib.hid (HPs.out.more (v := x.a1) hkl (by rw [hxy]; exact h1) (by rw [hxy]; exact h2) h3 (by rw [hxy]))
                  have hxn : x.a1 ≤ n := by rw [← hxy]; exact HXY.out k hkl
                  have HXN := Lib.hid hxn
                  clear hxy h1 h2 h3 hxn hkl
                  go_wp2_with fail
                  go_roundw
                  case rel => exact ⟨k + 1, x.a1, true, by omega, HXN.out, by go_num, rfl, rfl, HI2, Lib.hid (HB2.out.alloc HB2.out.size _)⟩
                  case measure => simp [intOf]; omega
                · have i3 : ¬ (v : Int) < (x.a1 : Int) := by omega
                  have d3 : decide ((v : Int) < (x.a1 : Int)) = false := decide_eq_false i3
                  have HI2 := Lib.hid (HPs.out.keep hkl (fun _ _ => by rw [hxy]; omega))
                  clear hxy h1 h2 h3 hkl
                  go_wp2_with fail
                  go_roundw
                  case rel => exact ⟨k + 1, v, ag, by omega, hvn, by go_num, rfl, rfl, HI2, Lib.hid (HB2.out.alloc HB2.out.size _)⟩
                  case measure => simp [intOf]; omega
              · have i2 : ¬ (x.a0 : Int) ≤ (v : Int) := by omega
                have d2 : decide ((x.a0 : Int) ≤ (v : Int)) = false := decide_eq_false i2
                have HI2 := Lib.hid (HPs.out.keep hkl (fun _ h => by rw [hxy] at h; exact absurd h h2))
                clear hxy h1 h2 hkl
                go_wp2_with fail
                go_roundw
                case rel => exact ⟨k + 1, v, ag, by omega, hvn, by go_num, rfl, rfl, HI2, Lib.hid (HB2.out.alloc HB2.out.size _)⟩
                case measure => simp [intOf]; omega
            · have i1 : ¬ (i : Int) ≤ (x.a0 : Int) := by omega
              have d1 : decide ((i : Int) ≤ (x.a0 : Int)) = false := decide_eq_false i1
              have HI2 := Lib.hid (HPs.out.keep hkl (fun h _ => by rw [hxy] at h; exact absurd h h1))
              clear hxy h1 hkl
              go_wp2_with fail
              go_roundw
              case rel => exact ⟨k + 1, v, ag, by omega, hvn, by go_num, rfl, rfl, HI2, Lib.hid (HB2.out.alloc HB2.out.size _)⟩
              case measure => simp [intOf]; omega
        · obtain rfl : k = sz := by omega
          have hfin : ag = false → Shut X Y i v := fun ha => by
            obtain ⟨e, hall⟩ := HPs.out.no ha
            intro h hm h1 h2
            obtain ⟨j, hj, rfl⟩ := List.getElem_of_mem (List.mem_append.2 hm)
            exact hall j hj (by rw [← hsz, ← HLen.out]; exact hj) h1 h2
          have HFin := Lib.hid hfin
          have HMi := Lib.hid HPs.out.min
          have hiv : i ≤ v := Nat.le_trans HPs.out.le HPs.out.ge
          have hag := HPs.out.ag
          have HAG := Lib.hid hag
          clear hfin hag
          go_wp2_with fail
          go_roundw
          case rel => exact ⟨v, ag, hiv, hvn, rfl, rfl, HMi, HFin, HB2⟩
          case measure =>
            cases ag with
            | false => simp [againN, intOf]; omega
            | true => have := HAG.out rfl; simp [againN, intOf]; omega
end Go.Proofs.Ytmeoannheomdoaa
