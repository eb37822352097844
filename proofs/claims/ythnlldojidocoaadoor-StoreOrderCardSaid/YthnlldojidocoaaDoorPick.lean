/- The entries that bits pick out of eight names: in order, exchanged, repeated. -/
import Derived.Test.YthnlldojidocoaaDoorLaws4
namespace Go.Proofs.YthnlldojidocoaaDoor
def oTx : Ob := blobO ⟨#[116, 101, 120, 116]⟩
def nm8 : List ByteArray := [⟨#[65]⟩, ⟨#[66]⟩, ⟨#[95]⟩, ⟨#[97]⟩, ⟨#[97, 45]⟩, ⟨#[97, 46]⟩, ⟨#[97, 97]⟩, ⟨#[98]⟩]
def ent8 (k : Nat) : Ent := (nm8.getD k ByteArray.empty, false, 1)
def es8 (l : List Nat) : List Ent := l.map ent8
theorem es8_len (l : List Nat) : (es8 l).length = l.length := List.length_map ..
theorem es8_at (l : List Nat) {j : Nat} (h : j < l.length) : (es8 l)[j]'(by rw [es8_len]; exact h) = ent8 l[j] := List.getElem_map ..
/-- the places below n that z's bits hold -/
def idx8 (z n : Nat) : List Nat := (List.range n).filter fun k => z.testBit k
theorem idx8_succ (z n : Nat) : idx8 z (n + 1) = if z.testBit n then idx8 z n ++ [n] else idx8 z n := by
  unfold idx8
  rw [List.range_succ, List.filter_append]
  split
  · rename_i h; simp [h]
  · rename_i h; simp [h]
theorem idx8_lt (z n : Nat) : ∀ x ∈ idx8 z n, x < n := fun x hx => List.mem_range.1 (List.mem_filter.1 hx).1
theorem idx8_up (z n : Nat) : (idx8 z n).Pairwise (· < ·) := List.Pairwise.filter _ List.pairwise_lt_range
theorem less8 : ∀ a, a < 8 → ∀ b, b < 8 → Op.bytesLess (ent8 a).1.toList (ent8 b).1.toList = decide (a < b) := by decide +kernel
theorem fine8 : ∀ a, a < 8 → entOk [oTx] (ent8 a) = true := by decide +kernel
theorem small8 : ∀ a, a < 8 → (ent8 a).1.size ≤ 2 := by decide +kernel
/-- a store in which the entries are fine -/
def Ok8 (os : List Ob) : Prop := ∀ a, a < 8 → entOk os (ent8 a) = true
theorem Ok8.put {os : List Ob} (h : Ok8 os) (o : Ob) : Ok8 (put os o) := fun a ha => entOk_put (h a ha)
theorem ok8 {os : List Ob} (ho : Ok8 os) (l : List Nat) (h8 : ∀ x ∈ l, x < 8) : treeOk os (es8 l) = true ↔ ∀ j (h : j + 1 < l.length), l[j] < l[j + 1] := by
  unfold treeOk
  rw [Bool.and_eq_true, rising_iff]
  constructor
  · rintro ⟨h1, _⟩ j hj
    have := h1 j (by rw [es8_len]; exact hj)
    rw [es8_at l (j := j) (by omega), es8_at l hj, less8 _ (h8 _ (List.getElem_mem _)) _ (h8 _ (List.getElem_mem _))] at this
    exact of_decide_eq_true this
  · intro h
    refine ⟨fun j hj => ?_, List.all_eq_true.2 fun e he => ?_⟩
    · rw [es8_len] at hj
      rw [es8_at l (j := j) (by omega), es8_at l hj, less8 _ (h8 _ (List.getElem_mem _)) _ (h8 _ (List.getElem_mem _))]
      exact decide_eq_true (h j hj)
    · obtain ⟨x, hx, rfl⟩ := List.mem_map.1 he
      exact ho x (h8 x hx)
theorem up_ok {os : List Ob} (ho : Ok8 os) (l : List Nat) (h8 : ∀ x ∈ l, x < 8) (hp : l.Pairwise (· < ·)) : treeOk os (es8 l) = true :=
  (ok8 ho l h8).2 fun j hj => List.pairwise_iff_getElem.1 hp j (j + 1) (by omega) hj (by omega)
theorem all_up {m : List Nat} (h : ∀ j (h : j + 1 < m.length), m[j] < m[j + 1]) : ∀ (b a : Nat) (hb : b < m.length) (hab : a < b), m[a] < m[b]
  | 0, a, _, hab => by omega
  | b + 1, a, hb, hab => by
    rcases Nat.lt_or_ge a b with hlt | hge
    · exact Nat.lt_trans (all_up h b a (by omega) hlt) (h b hb)
    · obtain rfl : a = b := by omega
      exact h a hb
/-- two places exchanged -/
def swap8 (l : List Nat) (i j : Nat) : List Nat := (l.set i (l.getD j 0)).set j (l.getD i 0)
theorem swap8_len (l : List Nat) (i j : Nat) : (swap8 l i j).length = l.length := by unfold swap8; simp
theorem swap8_lt {l : List Nat} {i j : Nat} (hi : i < l.length) (hj : j < l.length) (h8 : ∀ x ∈ l, x < 8) : ∀ x ∈ swap8 l i j, x < 8 := fun x hx => by
  unfold swap8 at hx
  rcases List.mem_or_eq_of_mem_set hx with hx | rfl
  · rcases List.mem_or_eq_of_mem_set hx with hx | rfl
    · exact h8 x hx
    · rw [List.getD_eq_getElem?_getD, List.getElem?_eq_getElem hj]; exact h8 _ (List.getElem_mem hj)
  · rw [List.getD_eq_getElem?_getD, List.getElem?_eq_getElem hi]; exact h8 _ (List.getElem_mem hi)
theorem swap_ok {os : List Ob} (ho : Ok8 os) {l : List Nat} {i j : Nat} (hi : i < l.length) (hj : j < l.length) (h8 : ∀ x ∈ l, x < 8) (hp : l.Pairwise (· < ·)) : treeOk os (es8 (swap8 l i j)) = decide (i = j) := by
  have gi : l.getD i 0 = l[i] := by rw [List.getD_eq_getElem?_getD, List.getElem?_eq_getElem hi]; rfl
  have gj : l.getD j 0 = l[j] := by rw [List.getD_eq_getElem?_getD, List.getElem?_eq_getElem hj]; rfl
  by_cases e : i = j
  · subst e
    rw [decide_eq_true rfl]
    have : swap8 l i i = l := by unfold swap8; rw [gi, List.set_getElem_self, List.set_getElem_self]
    rw [this]
    exact up_ok ho l h8 hp
  · rw [decide_eq_false e, Bool.eq_false_iff]
    intro h
    have hall := all_up ((ok8 ho _ (swap8_lt hi hj h8)).1 h)
    have mi : (swap8 l i j)[i]'(by rw [swap8_len]; exact hi) = l[j] := by
      unfold swap8
      rw [List.getElem_set_ne (fun e' => e e'.symm), List.getElem_set_self, gj]
    have mj : (swap8 l i j)[j]'(by rw [swap8_len]; exact hj) = l[i] := by
      unfold swap8
      rw [List.getElem_set_self, gi]
    have hpw := List.pairwise_iff_getElem.1 hp
    rcases Nat.lt_or_gt_of_ne e with hlt | hgt
    · have h1 := hall j i (by rw [swap8_len]; exact hj) hlt
      rw [mi, mj] at h1
      have h2 := hpw i j hi hj hlt
      omega
    · have h1 := hall i j (by rw [swap8_len]; exact hi) hgt
      rw [mi, mj] at h1
      have h2 := hpw j i hj hi hgt
      omega
theorem rep_ok {os : List Ob} (ho : Ok8 os) {x : Nat} {m : List Nat} (h8 : ∀ y ∈ x :: m, y < 8) : treeOk os (es8 (x :: x :: m)) = false := by
  rw [Bool.eq_false_iff]
  intro h
  have h9 : ∀ y ∈ x :: x :: m, y < 8 := fun y hy => (List.mem_cons.1 hy).elim (fun e => e ▸ h8 x (by simp)) (fun hy => h8 y hy)
  have := (ok8 ho (x :: x :: m) h9).1 h 0 (by simp)
  simp at this
theorem sound8 {l : List Nat} (h8 : ∀ x ∈ l, x < 8) : Sound (es8 l) := fun e he => by
  obtain ⟨x, hx, rfl⟩ := List.mem_map.1 he
  exact ⟨by have := small8 x (h8 x hx); unfold maxLen; omega, rfl⟩
theorem u8_nat {z : Int} (h : (Lit.int .u8 z).wf = true) : ∃ k : Nat, z = (k : Int) ∧ k < 256 := by
  have := bd_u8 h
  exact ⟨z.toNat, by omega, by omega⟩
/-- an entry is written into a list's cells -/
theorem entsC_set (es : List Ent) (i : Nat) (e : Ent) (hi : i < es.length) : (((entsC es).set (i * 3) (.string e.1)).set (i * 3 + 1) (.bool e.2.1)).set (i * 3 + 2) (.int .i64 e.2.2) = entsC (es.set i e) := by
  refine List.ext_getElem? fun j => ?_
  have hl : (entsC es).length = es.length * 3 := entsC_len es
  by_cases e1 : j / 3 = i
  · obtain ⟨r, hr, rfl⟩ : ∃ r, r < 3 ∧ j = i * 3 + r := ⟨j % 3, by omega, by omega⟩
    have h1 := flat_at entC 3 entC_len (es.set i e) i r (by rw [List.length_set]; exact hi) hr
    rw [List.getElem_set_self] at h1
    show _ = ((es.set i e).flatMap entC)[i * 3 + r]?
    rw [h1]
    match r, hr with
    | 0, _ =>
      rw [List.getElem?_set_ne (by omega), List.getElem?_set_ne (by omega)]
      exact List.getElem?_set_self (by rw [hl]; omega)
    | 1, _ => rw [List.getElem?_set_ne (by omega), List.getElem?_set_self (by rw [List.length_set, hl]; omega)]; rfl
    | 2, _ => rw [List.getElem?_set_self (by rw [List.length_set, List.length_set, hl]; omega)]; rfl
  · rw [List.getElem?_set_ne (by omega), List.getElem?_set_ne (by omega), List.getElem?_set_ne (by omega)]
    by_cases hj : j < es.length * 3
    · have hk : j / 3 < es.length := by omega
      have hr : j % 3 < 3 := Nat.mod_lt _ (by omega)
      have h1 := flat_at entC 3 entC_len (es.set i e) (j / 3) (j % 3) (by rw [List.length_set]; exact hk) hr
      have h2 := flat_at entC 3 entC_len es (j / 3) (j % 3) hk hr
      rw [show j / 3 * 3 + j % 3 = j by omega] at h1 h2
      rw [List.getElem_set_ne (fun h => e1 h.symm)] at h1
      show (es.flatMap entC)[j]? = ((es.set i e).flatMap entC)[j]?
      rw [h1, h2]
    · rw [List.getElem?_eq_none (by rw [hl]; omega), List.getElem?_eq_none (by rw [entsC_len, List.length_set]; omega)]
theorem bit8 : ∀ z : Nat, z < 256 → ∀ k : Nat, k < 8 → bits .and .u8 ((z : Int) / 2 ^ k) 1 = if z.testBit k then 1 else 0 := by decide +kernel
theorem idx8_len (z n : Nat) : (idx8 z n).length ≤ n := by
  have := List.length_filter_le (fun k => z.testBit k) (List.range n)
  rw [List.length_range] at this
  exact this
theorem entsC_snoc (es : List Ent) (e : Ent) : entsC (es ++ [e]) = entsC es ++ entC e := by unfold entsC; simp
theorem ents_one (es : List Ent) : ∀ u ∈ entsC es, u.oneCell' = true := fun u hu => by
  unfold entsC at hu
  obtain ⟨x, _, hx⟩ := List.mem_flatMap.1 hu
  simp only [entC, List.mem_cons, List.not_mem_nil, or_false] at hx
  rcases hx with rfl | rfl | rfl <;> rfl
theorem own_cell {W : World} {base g n c size : Nat} {t : TypeId} {xs : List Value} (h : W.ownsRow base t size (.slice (some ⟨g, 0, none⟩) n c) n xs) {q : Nat} {u : Value} (hq : xs[q]? = some u) : W.cell? ⟨g, q, none⟩ = some u := by
  have := h.cells (g := g) rfl q u hq
  rwa [show (⟨g, 0, none⟩ : Addr).add q = ⟨g, q, none⟩ by unfold Addr.add; split <;> simp_all] at this
theorem ent_at (L : List Nat) {n j r : Nat} (hn : L.length = n) (hj : j < n) (hr : r < 3) : (entsC (es8 L))[j * 3 + r]? = (entC (ent8 (L.getD j 0)))[r]? := by
  have hjl : j < L.length := by omega
  have h := flat_at entC 3 entC_len (es8 L) j r (by rw [es8_len]; exact hjl) hr
  rw [es8_at L hjl] at h
  have g : L.getD j 0 = L[j] := by rw [List.getD_eq_getElem?_getD, List.getElem?_eq_getElem hjl]; rfl
  rw [g]
  exact h
theorem ent_at0 (L : List Nat) {n j : Nat} (hn : L.length = n) (hj : j < n) : (entsC (es8 L))[j * 3]? = some (.string (ent8 (L.getD j 0)).1) := ent_at L hn hj (r := 0) (by omega)
theorem ent_at1 (L : List Nat) {n j : Nat} (hn : L.length = n) (hj : j < n) : (entsC (es8 L))[j * 3 + 1]? = some (.bool false) := ent_at L hn hj (r := 1) (by omega)
theorem ent_at2 (L : List Nat) {n j : Nat} (hn : L.length = n) (hj : j < n) : (entsC (es8 L))[j * 3 + 2]? = some (.int .i64 1) := ent_at L hn hj (r := 2) (by omega)
theorem put_two (o : Ob) (h : o ≠ oTx) : put [oTx] o = [oTx, o] := by
  unfold put
  rw [if_neg (by simpa using h)]
  rfl
theorem tree_ne (es : List Ent) : treeO es ≠ oTx := by unfold treeO oTx blobO; simp
end Go.Proofs.YthnlldojidocoaaDoor
