/- A disk at rest; parts of lists. -/
import Derived.Test.YthhpnlobhffimaaJKit2
import Derived.Laws.AppendOwnNone
import Derived.Maps.AppendAt
namespace Go.Proofs.Ythhpnlobhffimaa
set_option maxRecDepth 100000
open Go.RowKit
theorem strC_len (L : List ByteArray) : (strC L).length = L.length := by simp [strC]
theorem strC_one (L : List ByteArray) : ∀ u ∈ strC L, u.oneCell' = true := fun u hu => by
  obtain ⟨x, _, rfl⟩ := List.mem_map.1 hu
  rfl
theorem strC_take (L : List ByteArray) (k : Nat) : strC (L.take k) = (strC L).take k := by simp [strC, List.map_take]
/-- append(l, x...), where x may be nil -/
theorem append_strs {w : World} {ops : Array Oper} {rest : List Oper} {o : Oper} {a : Act} {Q : Exit → Act → World → Prop} (hgd : o.guard = none) (s x : Operand)
    (ho : o.op = .call { callee := .builtin .append, args := #[s, x], argTypes := #[27, 27] }) (base : Nat) (v : Value) (n : Nat) (xs : List Value) (hs : a.eval s = v) (hown : w.ownsRow base 9 1 v n xs)
    (A : Option Addr) (m c B : Nat) (L : List ByteArray) (hx : a.eval x = .slice A m c) (hS : Strs w B A c L) (hm : L.length = m) (h63 : n + m ≤ 100000000) (hbase : base ≤ w.heap.size)
    (h : ∀ v' w', w'.ownsRow base 9 1 v' (n + m) (xs ++ strC L) → w.grownBy w' v.ownBlock → wpList Try.prog ops Q rest (a.put o.dst v') w') : wpList Try.prog ops Q (o :: rest) a w := by
  obtain ⟨i9, hi9, hz0, hz1, hz2⟩ := info_parts info9
  subst hm
  cases A with
  | none =>
    have hc : c = 0 := hS.2.2.1 rfl
    have hl : L.length = 0 := by have := hS.2.1; omega
    obtain rfl : L = [] := List.eq_nil_of_length_eq_zero hl
    subst hc
    refine wpList_append_own_none hgd s x 27 ho base 9 i9 1 Try.underlying27 hi9 v n xs hs hown hx (h v w ?_ ⟨rfl, rfl, rfl, Nat.le_refl _, fun _ _ _ => rfl⟩)
    simpa [strC] using hown
  | some ad =>
    exact wpList_append_own_at w hgd s x 27 ho base 9 i9 _ 1 16 Try.underlying27 hi9 hz0 hz1 hz2 rfl (by decide) v n xs hs hown ad L.length c (strC L) hx (by rw [strC_len, Nat.mul_one])
      (fun j u hj => by
        obtain ⟨ad', e, _, hc⟩ := hS.2.2.2 j u hj
        have e := Option.some.inj e
        subst e
        exact hc) (strC_one L) (by unfold maxLen; omega) (by omega) hbase (fun v' w' h1 h2 _ _ => h v' w' h1 h2)
theorem siz9 : ∀ W, (Go.sizeOf 9).run Try.prog W = .ok 1 W := fun W => by
  obtain ⟨i, hi, _, hs, _⟩ := info_parts info9
  simp [sizeOf, typeInfo, hi, hs, go_sem]
theorem info51 : (Try.prog.info? 51).map (fun i => (i.zero, i.size, i.bytes)) = some (some (.agg #[.int .i64 0, .int .i64 0]), 2, 16) := by kernel_rfl
theorem siz51 : ∀ W, (Go.sizeOf 51).run Try.prog W = .ok 2 W := fun W => by
  obtain ⟨i, hi, _, hs, _⟩ := info_parts info51
  simp [sizeOf, typeInfo, hi, hs, go_sem]
/-- the first strings of a list -/
theorem cut_strs (A : Option Addr) (n c k : Nat) (h2 : k ≤ n) (h3 : n ≤ c) :
    ∃ A', (∀ W, (Instr.slice 27 (.slice A n c) none (some (.int .i64 (k : Int))) none).run Try.prog W = .ok (.slice A' k c) W) ∧
      ∀ (w : World) (B : Nat) (L : List ByteArray), L.length = n → Strs w B A c L → Row w B 1 A' k c (strC (L.take k)) := by
  obtain ⟨A', h, hr⟩ := cut_h 27 9 1 Try.underlying27 siz9 A n c k h2 h3
  refine ⟨A', h, fun w B L hL hs => ?_⟩
  subst hL
  have := hr w B _ hs
  rw [Nat.mul_one] at this
  rw [strC_take]; exact this
theorem cut_prs (A : Option Addr) (n c k : Nat) (h2 : k ≤ n) (h3 : n ≤ c) :
    ∃ A', (∀ W, (Instr.slice 22 (.slice A n c) none (some (.int .i64 (k : Int))) none).run Try.prog W = .ok (.slice A' k c) W) ∧
      ∀ (w : World) (B : Nat) (l : List (Int × Int)), l.length = n → Prs w B A c l → Prs w B A' c (l.take k) := by
  obtain ⟨A', h, hr⟩ := cut_h 22 51 2 Try.underlying22 siz51 A n c k h2 h3
  refine ⟨A', h, fun w B l hl hs => ?_⟩
  subst hl
  have := hr w B _ hs.1
  rw [flat_take _ 2 (fun _ => rfl)] at this
  refine ⟨?_, fun x hx => hs.2 x (List.mem_of_mem_take hx)⟩
  rw [List.length_take, Nat.min_eq_left h2]
  exact this
/-- the records of the first pairs -/
theorem records_cut {w W : World} {B : Nat} {A : Option Addr} {l : List (Int × Int)} {n c k m0 : Nat} {A' : Option Addr} (hl : l.length = n) (hk : k ≤ n) (hP : Prs W B A' c (l.take k)) (hB : B ≤ W.heap.size) (hn : n ≤ maxLen) (hm0 : min k 10 = m0) :
    Calls Try.prog 15 #[.slice A' k c] W fun e W' => ∃ L : List ByteArray, L.length = m0 ∧ (∀ s ∈ L, s.size ≤ 300) ∧ ∃ A4 c4, e = .returned (.slice A4 m0 c4) ∧ W'.ownsRow W.heap.size 9 1 (.slice A4 m0 c4) m0 (strC L) ∧ Below W.heap.size W W' := by
  have hkl : (l.take k).length = k := by rw [List.length_take]; omega
  have := records_any W A' (l.take k) c hP hB (by omega)
  rw [hkl] at this
  refine this.mono ?_
  rintro e W' ⟨L, h1, h2, A4, c4, he, ho, hb⟩
  rw [hm0] at h1
  subst h1
  exact ⟨L, rfl, h2, A4, c4, he, ho, hb⟩
/-- a disk at rest that holds records -/
structure Rest (d : Dk) (rs : List (List UInt8)) (cl : Nat) : Prop where
  ps : d.ps = []
  pw : d.pw = none
  calls : d.calls ≤ cl
  rs : recs d.syn = rs
theorem Rest.now {d : Dk} {rs : List (List UInt8)} {cl : Nat} (h : Rest d rs cl) : recs d.now = rs := by
  unfold Dk.now; rw [h.ps]; exact h.rs
theorem Rest.left {d : Dk} {rs : List (List UInt8)} {cl : Nat} (h : Rest d rs cl) (q : List Int) : recs (d.crash q).now = rs := by
  rw [Dk.crash_now]; unfold Dk.left; rw [h.ps]; exact h.rs
theorem Got.rest {j : Jn} {rs : List (List UInt8)} {cl : Nat} (h : Got j rs cl) (hg : j.d.Good) : Rest j.d rs cl := ⟨h.idle.ps, h.pw, h.calls, by rw [h.idle.recs hg, h.rs]⟩
theorem crash_rest (d : Dk) (q : List Int) : Rest (d.crash q) (recs (d.left q)) 0 := ⟨rfl, rfl, Nat.le_refl _, rfl⟩
theorem small_dat {L : List ByteArray} {n : Nat} (h : ∀ s ∈ L, s.size ≤ n) (k : Nat) : ∀ r ∈ dat (L.take k), r.length ≤ n := fun r hr => by
  unfold dat at hr
  obtain ⟨s', hs', rfl⟩ := List.mem_map.1 hr
  have := h s' (List.mem_of_mem_take hs')
  rw [data_len]; exact this
end Go.Proofs.Ythhpnlobhffimaa
