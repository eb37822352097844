/- Lists of triples as arguments; the two disks of JournalOpens, opened. -/
import Derived.Test.YthhpnlobhffimaaJDuoR
import Derived.Test.YthhpnlobhffimaaJRefP
import Derived.Test.YthhpnlobhffimaaJBytK
namespace Go.Proofs.Ythhpnlobhffimaa
set_option maxRecDepth 100000
open Go.ChangeShapes Go.WideShapes Go.ChangeAt Go.RowKit Go.Maps

abbrev Trip := Int × Int × Int
def tripC (q : Trip) : List Value := [.int .i64 q.1, .int .i64 q.2.1, .int .i64 q.2.2]
theorem tripC_len (q : Trip) : (tripC q).length = 3 := rfl
def tripsC (qs : List Trip) : List Value := qs.flatMap tripC
def Trips (w : World) (B : Nat) (A : Option Addr) (c : Nat) (qs : List Trip) : Prop := Row w B 3 A qs.length c (tripsC qs)
theorem Trips.on {w w' : World} {c : Nat} {A : Option Addr} {l : List Trip} {B : Nat} (h : Trips w B A c l) (hb : Below B w w') : Trips w' B A c l := h.below hb (Nat.le_refl _)
theorem Trips.at_ {w : World} {B c : Nat} {A : Option Addr} {l : List Trip} (h : Trips w B A c l) {k : Nat} (hk : k < l.length) : ∃ ad x y z, A = some ad ∧ ad.block < B ∧ w.cell? (ad.add (k * 3)) = some (.int .i64 x) ∧ w.cell? ⟨(ad.add (k * 3)).block, (ad.add (k * 3)).off + 1, none⟩ = some (.int .i64 y) ∧ w.cell? ⟨(ad.add (k * 3)).block, (ad.add (k * 3)).off + 2, none⟩ = some (.int .i64 z) := by
  have e := fun j (hj : j < 3) => flat_at tripC 3 tripC_len l k j hk hj
  obtain ⟨ad, ea, hb, c0⟩ := h.2.2.2 (k * 3 + 0) _ ((e 0 (by omega)).trans rfl)
  have get : ∀ j u, j < 3 → (tripC l[k])[j]? = some u → w.cell? ((ad.add (k * 3)).add j) = some u := fun j u hj hu => by
    obtain ⟨ad', ea', _, c1⟩ := h.2.2.2 (k * 3 + j) _ ((e j hj).trans hu)
    obtain rfl : ad = ad' := by rw [ea] at ea'; injection ea'
    rw [add_twice]
    exact c1
  exact ⟨ad, l[k].1, l[k].2.1, l[k].2.2, ea, hb, c0, get 1 _ (by omega) rfl, get 2 _ (by omega) rfl⟩
section
variable {H : Type} {enc : TypeId × Value → H} {W : World} {b2 : Nat} {sp : Nat → Bool} {held : Bool}
theorem cellsT {a : Addr} {cs : List Value} (h : W.cells? b2 a 3 = some cs) : ∃ c0 c1 c2, cs = [c0, c1, c2] ∧ W.cell? a = some c0 ∧ W.cell? (a.add 1) = some c1 ∧ W.cell? (a.add 2) = some c2 := by
  obtain ⟨_, hl, hc⟩ := World.cells?_some h
  match cs, hl with
  | [c0, c1, c2], _ =>
    have h0 := hc 0 (by omega)
    rw [show a.add 0 = a by simp [Addr.add]] at h0
    exact ⟨c0, c1, c2, rfl, by simpa using h0, by simpa using hc 1 (by omega), by simpa using hc 2 (by omega)⟩
theorem open_trips {b1 : Nat} {v : Value} {d : DataW H} {p : List MemPlace} (h : DataW.Trod enc Try.prog W b2 sp held 48 v d p) (hval : Value.okWide Try.prog W .any b1 48 v) :
    ∃ (A : Option Addr) (qs : List Trip) (c : Nat), v = .slice A qs.length c ∧ Trips W W.heap.size A c qs ∧ qs.length ≤ maxLen := by
  obtain ⟨fuel, hf⟩ := h
  have hv : v.cells.toList = [v] := by
    obtain ⟨a, n, c, rfl⟩ := okWide_slice Try.underlying48 hval
    rfl
  rw [hv] at hf
  have hcE : Try.prog.cellsOf 50 = 3 := by kernel_rfl
  have hc3 : Try.prog.cellsOf 3 = 1 := by kernel_rfl
  rcases Go.Deep.open_slice Try.underlying48 hf with ⟨h0, _⟩ | ⟨a, len, cap, m, fu, D, Pl, h0, hb, hlc, hcm, hm, _, hel⟩
  · obtain rfl : v = .slice none 0 0 := by simpa using h0
    exact ⟨none, [], 0, rfl, Row.empty _ _ _, Nat.zero_le _⟩
  · obtain rfl : v = .slice (some a) len cap := by simpa using h0
    have hlm : len ≤ m := by rw [hm]; split <;> omega
    obtain ⟨qs, hql, hq⟩ := list_of len (fun i (q : Trip) => W.cell? (a.add (i * 3)) = some (.int .i64 q.1) ∧ W.cell? (a.add (i * 3 + 1)) = some (.int .i64 q.2.1) ∧ W.cell? (a.add (i * 3 + 2)) = some (.int .i64 q.2.2)) fun i hi => by
      obtain ⟨cs', hcs, ht⟩ := hel i (by omega)
      rw [hcE] at hcs
      obtain ⟨c0, c1, c2, rfl, k0, k1, k2⟩ := cellsT hcs
      obtain ⟨y0, y1, y2, n, _, t0, t1, t2⟩ := trod_array3 Try.underlying50 hc3 ht
      obtain ⟨x0, e0, _⟩ := DataW.trod_int (k := .i64) Try.underlying3 t0
      obtain ⟨x1, e1, _⟩ := DataW.trod_int (k := .i64) Try.underlying3 t1
      obtain ⟨x2, e2, _⟩ := DataW.trod_int (k := .i64) Try.underlying3 t2
      simp only [List.cons.injEq, and_true] at e0 e1 e2
      subst e0 e1 e2
      rw [Go.Deep.add_add] at k1 k2
      exact ⟨(x0, x1, x2), k0, k1, k2⟩
    refine ⟨some a, qs, cap, by rw [hql], ⟨flat_len tripC 3 tripC_len qs, by omega, fun e => (by cases e), fun j u hj => ?_⟩, by omega⟩
    have hjl : j < qs.length * 3 := by have := (List.getElem?_eq_some_iff.1 hj).1; rwa [show (tripsC qs).length = qs.length * 3 from flat_len tripC 3 tripC_len qs] at this
    have hk : j / 3 < qs.length := by omega
    have hr : j % 3 < 3 := Nat.mod_lt _ (by omega)
    have hfl : (tripsC qs)[j]? = (tripC qs[j / 3])[j % 3]? := by
      have := flat_at tripC 3 tripC_len qs (j / 3) (j % 3) hk hr
      rwa [show j / 3 * 3 + j % 3 = j by omega] at this
    rw [hfl] at hj
    obtain ⟨q0, q1, q2⟩ := hq (j / 3) hk
    have hc : W.cell? (a.add j) = some u := by
      rcases (show j % 3 = 0 ∨ j % 3 = 1 ∨ j % 3 = 2 by omega) with e | e | e
      · rw [e] at hj; rw [show j / 3 * 3 = j by omega] at q0; rw [q0, ← hj]; rfl
      · rw [e] at hj; rw [show j / 3 * 3 + 1 = j by omega] at q1; rw [q1, ← hj]; rfl
      · rw [e] at hj; rw [show j / 3 * 3 + 2 = j by omega] at q2; rw [q2, ← hj]; rfl
    refine ⟨a, rfl, ?_, hc⟩
    have := World.block_lt_of_cell? W _ hc
    rwa [add_block] at this
end
open lbytes
section
variable {w W W2 W3 : World} {p b q g : Nat} {d d1 d2 : Dk} {j j1 j2 : Jn} {X Y Z : Nat → Prop}
theorem duo_write (h : Duo0 w W p q d1 d2) (hc : d1.calls ≤ 100000) (s : ByteArray) (hs : s.size ≤ 1000000) (h0 : d1.wErr (0 : Int) s.data.toList = 0) : Calls Try.prog 31 #[.pointer (some ⟨p, 0, none⟩), .int .i64 0, .string s] W fun e W' => e = .returned (.int .i64 0) ∧ Duo0 w W' p q (d1.write 0 s.data.toList) d2 := by
  obtain ⟨G, h1, h2⟩ := h.left
  have hw := h1.write hc 0 s (by omega) (by unfold maxLen; omega)
  rw [h0] at hw
  exact hw.mono fun e W' k => ⟨k.1, h2 _ _ k.2⟩
theorem duo_rwrite (h : Duo0 w W p q d1 d2) (hc : d2.calls ≤ 100000) (s : ByteArray) (hs : s.size ≤ 1000000) (h0 : d2.wErr (0 : Int) s.data.toList = 0) : Calls Try.prog 32 #[.pointer (some ⟨q, 0, none⟩), .int .i64 0, .string s] W fun e W' => e = .returned (.int .i64 0) ∧ Duo0 w W' p q d1 (d2.write 0 s.data.toList) := by
  obtain ⟨G, h1, h2⟩ := h.right
  have hw := h1.write hc 0 s.data.toList (by omega) (by rw [data_len]; omega)
  rw [h0, ← str_eq rfl] at hw
  exact hw.mono fun e W' k => ⟨k.1, h2 _ _ k.2⟩
/-- the program's Open of a disk whose power lasts, beside the reference's disk -/
theorem duo_opens (h : Duo0 w W p q d d2) (hc : d.calls ≤ 90000) (h0 : (openD d).1 = 0) {n : Nat} (hn : (recs d.now).length = n) : Calls Try.prog 14 #[.pointer (some ⟨p, 0, none⟩)] W fun e W' => ∃ b A c Y, e = .returned (.tuple #[.pointer (some ⟨b, 0, none⟩), .slice A n c, .int .i64 0]) ∧ DuoR w W' p b q ⟨(openD d).2, recs d.now, false⟩ d2 Y ∧ W'.ownsRow W.heap.size 9 1 (.slice A n c) n (strC ((recs d.now).map str)) ∧ (∀ x, (Value.slice A n c).ownBlock = some x → Y x) ∧ Below w.heap.size w W' := by
  obtain ⟨G, h1, h2⟩ := h.rows
  refine (open_any h1 hc).mono ?_
  rintro e W' (⟨e0, _⟩ | ⟨_, b, A, c, he, k, hb, kj, hr⟩)
  · exact absurd h0 e0
  · rw [hn] at he kj hr
    exact ⟨b, A, c, _, he, h2 W' b _ _ k kj (fun x hx => row_ge hr x hx), hr, fun x hx => hx, kj.side.bel⟩
/-- the reference's Open beside the program's journal and its row -/
theorem duo_ropens (h : DuoR w W p b q j1 d Y) (hc : d.calls ≤ 90000) (h0 : (openD d).1 = 0) {n : Nat} (hn : (recs d.now).length = n) : Calls Try.prog 23 #[.pointer (some ⟨q, 0, none⟩)] W fun e W' => ∃ g A c Z, e = .returned (.tuple #[.pointer (some ⟨g, 0, none⟩), .slice A n c, .int .i64 0]) ∧ Duo2 w W' p b q g j1 ⟨(openD d).2, recs d.now, false⟩ Z ∧ W'.ownsRow W.heap.size 9 1 (.slice A n c) n (strC ((recs d.now).map str)) ∧ (∀ x, Y x → W'.heap[x]? = W.heap[x]?) := by
  obtain ⟨F, h1, hY, h2⟩ := h.opened
  refine (ropen_any h1 hc).mono ?_
  rintro e W' (⟨e0, _⟩ | ⟨_, g, A, c, he, k, kj, hr⟩)
  · exact absurd h0 e0
  · rw [hn] at he kj hr
    exact ⟨g, A, c, _, he, h2 W' g _ _ k kj (fun x hx => row_ge hr x hx), hr, fun x hx => k.2.1 x (hY x hx)⟩
end
end Go.Proofs.Ythhpnlobhffimaa
