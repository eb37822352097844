/- The store as a list of objects: what all contracts of this seat speak of. -/
import Derived.Test.YthnlldojidocoaaDoorOrder
import Derived.Test.YthnlldojidocoaaDoorValid
namespace Go.Proofs.YthnlldojidocoaaDoor
open Go.RowKit

/-- an entry: name, directory, number; an object: tree, text, entries -/
abbrev Ent := ByteArray × Bool × Int
abbrev Ob := Bool × ByteArray × List Ent
def entC (e : Ent) : List Value := [.string e.1, .bool e.2.1, .int .i64 e.2.2]
def entsC (es : List Ent) : List Value := es.flatMap entC
theorem entC_len (e : Ent) : (entC e).length = 3 := rfl
theorem entsC_len (es : List Ent) : (entsC es).length = es.length * 3 := flat_len entC 3 entC_len es

def nameOk (s : ByteArray) : Bool := decide (s.size ≤ 200) && isName s
def getO (os : List Ob) (id : Int) : Option Ob := if 1 ≤ id then os[(id - 1).toNat]? else none
def canHold (os : List Ob) (e : Ent) : Bool := match getO os e.2.2 with
  | some o => (o.1 == e.2.1) && (!o.1 || !o.2.2.isEmpty)
  | none => false
def entOk (os : List Ob) (e : Ent) : Bool := nameOk e.1 && canHold os e
/-- the names are in strictly increasing order of their bytes -/
def rising : List Ent → Bool
  | [] => true
  | [_] => true
  | a :: b :: t => Op.bytesLess a.1.toList b.1.toList && rising (b :: t)
def treeOk (os : List Ob) (es : List Ent) : Bool := rising es && es.all (entOk os)

/- the object o's number, and the objects, behind o has come -/
section
variable {α : Type} [DecidableEq α]
def num (os : List α) (o : α) : Nat := os.idxOf o + 1
def put (os : List α) (o : α) : List α := if o ∈ os then os else os ++ [o]
theorem num_pos (os : List α) (o : α) : 1 ≤ num os o := by unfold num; omega
theorem num_new {os : List α} {o : α} (h : o ∉ os) : num os o = os.length + 1 := by
  unfold num; rw [List.idxOf_eq_length h]
theorem num_le (os : List α) (o : α) : num os o ≤ (put os o).length := by
  unfold put
  split
  · next h => exact List.idxOf_lt_length_of_mem h
  · next h => rw [num_new h]; simp
theorem put_get (os : List α) (o : α) : (put os o)[num os o - 1]? = some o := by
  unfold put
  split
  · next h =>
    have hl := List.idxOf_lt_length_of_mem h
    unfold num
    rw [Nat.add_sub_cancel, List.getElem?_eq_getElem hl, List.getElem_idxOf]
  · next h =>
    rw [num_new h]
    simp
theorem put_len (os : List α) (o : α) : (put os o).length ≤ os.length + 1 := by unfold put; split <;> simp
theorem put_le (os : List α) (o : α) : os.length ≤ (put os o).length := by unfold put; split <;> simp
theorem put_pre (os : List α) (o : α) {k : Nat} (h : k < os.length) : (put os o)[k]? = os[k]? := by
  unfold put; split
  · rfl
  · rw [List.getElem?_append_left h]
theorem put_mem {os : List α} {o x : α} : x ∈ put os o ↔ x ∈ os ∨ x = o := by
  unfold put
  split
  · next h => exact ⟨.inl, fun hx => hx.elim id fun e => e ▸ h⟩
  · simp
theorem put_nodup {os : List α} {o : α} (h : os.Nodup) : (put os o).Nodup := by
  unfold put
  split
  · exact h
  · next hn => exact List.nodup_append.2 ⟨h, by simp, fun a ha b hb e => by rw [List.mem_singleton] at hb; subst hb; subst e; exact hn ha⟩
theorem num_at {os : List α} {o : α} (h : o ∈ os) : ∃ i : Nat, os[i]? = some o ∧ num os o = i + 1 := by
  have hl := List.idxOf_lt_length_of_mem h
  exact ⟨os.idxOf o, by rw [List.getElem?_eq_getElem hl, List.getElem_idxOf], rfl⟩
theorem num_inj {os : List α} {a b : α} (ha : a ∈ os) (h : num os a = num os b) : a = b := by
  unfold num at h
  have h1 := List.idxOf_lt_length_of_mem ha
  have h2 : os.idxOf a = os.idxOf b := by omega
  have h3 := List.getElem_idxOf h1
  have h4 : os.idxOf b < os.length := by omega
  have h5 := List.getElem_idxOf h4
  rw [← h3, ← h5]
  congr 1
theorem num_put {os : List α} {o x : α} (h : x ∈ os) : num (put os o) x = num os x := by
  unfold put num
  split
  · rfl
  · rw [List.idxOf_append, if_pos h]

end
def blobO (t : ByteArray) : Ob := (false, t, [])
def treeO (es : List Ent) : Ob := (true, ByteArray.empty, es)

theorem getO_put {os : List Ob} {o : Ob} {id : Int} {x : Ob} (h : getO os id = some x) : getO (put os o) id = some x := by
  unfold getO at h ⊢
  split at h
  · next h1 =>
    rw [if_pos h1]
    have := (List.getElem?_eq_some_iff.1 h).1
    rw [put_pre _ _ this]; exact h
  · cases h
theorem canHold_put {os : List Ob} {o : Ob} {e : Ent} (h : canHold os e = true) : canHold (put os o) e = true := by
  unfold canHold at h ⊢
  split at h
  · next x hx => rw [getO_put hx]; exact h
  · cases h
theorem entOk_put {os : List Ob} {o : Ob} {e : Ent} (h : entOk os e = true) : entOk (put os o) e = true := by
  unfold entOk at h ⊢
  rw [Bool.and_eq_true] at h ⊢
  exact ⟨h.1, canHold_put h.2⟩
theorem treeOk_put {os : List Ob} {o : Ob} {es : List Ent} (h : treeOk os es = true) : treeOk (put os o) es = true := by
  unfold treeOk at h ⊢
  rw [Bool.and_eq_true, List.all_eq_true] at h ⊢
  exact ⟨h.1, fun e he => entOk_put (h.2 e he)⟩

/-- a number's bytes, and those of a list of entries -/
def digs (n : Nat) : List UInt8 := if h : n = 0 then [] else UInt8.ofNat (128 + n % 128) :: digs (n / 128)
termination_by n
decreasing_by omega
theorem digs_zero : digs 0 = [] := by rw [digs]; simp
theorem digs_pos {n : Nat} (h : 0 < n) : digs n = UInt8.ofNat (128 + n % 128) :: digs (n / 128) := by rw [digs, dif_neg (by omega)]
def asB : List Ent → List UInt8
  | [] => []
  | e :: t => e.1.data.toList ++ (digs e.2.2.toNat ++ asB t)
theorem hi_nat (n : Nat) : (UInt8.ofNat (128 + n % 128)).toNat = 128 + n % 128 := by
  rw [UInt8.toNat_ofNat']; omega
theorem digs_hi : ∀ n, ∀ b ∈ digs n, 128 ≤ b.toNat := by
  intro n
  induction n using Nat.strongRecOn with
  | _ n ih =>
    intro b hb
    rcases Nat.eq_zero_or_pos n with rfl | hp
    · rw [digs_zero] at hb; cases hb
    · rw [digs_pos hp] at hb
      rcases List.mem_cons.1 hb with rfl | hb
      · rw [hi_nat]; omega
      · exact ih (n / 128) (by omega) b hb
theorem digs_len : ∀ n k, n < 128 ^ k → (digs n).length ≤ k
  | 0, k, _ => by rw [digs_zero]; simp
  | n + 1, 0, h => by simp at h
  | n + 1, k + 1, h => by
    rw [digs_pos (by omega), List.length_cons]
    have := digs_len ((n + 1) / 128) k (by rw [Nat.pow_succ] at h; omega)
    omega
/-- what begins with small bytes, and then goes on with great ones, is told apart -/
theorem split_small {a b : List UInt8} (ha : ∀ x ∈ a, x.toNat < 128) (hb : ∀ x ∈ b, x.toNat < 128) {s t : List UInt8}
    (hs : ∀ x, s.head? = some x → 128 ≤ x.toNat) (ht : ∀ x, t.head? = some x → 128 ≤ x.toNat) (h : a ++ s = b ++ t) : a = b ∧ s = t := by
  induction a generalizing b with
  | nil =>
    cases b with
    | nil => exact ⟨rfl, h⟩
    | cons y b =>
      have h1 := hs y (by rw [show s = y :: (b ++ t) from h]; rfl)
      have h2 := hb y (by simp)
      omega
  | cons x a ih =>
    cases b with
    | nil =>
      have h1 := ht x (by rw [← show x :: (a ++ s) = t from h]; rfl)
      have h2 := ha x (by simp)
      omega
    | cons y b =>
      injection h with h1 h2
      subst h1
      obtain ⟨rfl, h3⟩ := ih (fun z hz => ha z (by simp [hz])) (fun z hz => hb z (by simp [hz])) h2
      exact ⟨rfl, h3⟩
theorem digs_inj : ∀ {n m : Nat} {s t : List UInt8}, (∀ x, s.head? = some x → x.toNat < 128) → (∀ x, t.head? = some x → x.toNat < 128) → digs n ++ s = digs m ++ t → n = m ∧ s = t := by
  intro n
  induction n using Nat.strongRecOn with
  | _ n ih =>
    intro m s t hs ht h
    rcases Nat.eq_zero_or_pos n with rfl | hn
    · rcases Nat.eq_zero_or_pos m with rfl | hm
      · rw [digs_zero] at h; exact ⟨rfl, h⟩
      · rw [digs_zero, digs_pos hm, List.nil_append] at h
        have := hs _ (by rw [h]; rfl)
        rw [hi_nat] at this; omega
    · rcases Nat.eq_zero_or_pos m with rfl | hm
      · rw [digs_zero, digs_pos hn, List.nil_append] at h
        have := ht _ (by rw [← h]; rfl)
        rw [hi_nat] at this; omega
      · rw [digs_pos hn, digs_pos hm] at h
        injection h with h1 h2
        have h3 := congrArg UInt8.toNat h1
        rw [hi_nat, hi_nat] at h3
        obtain ⟨h4, h5⟩ := ih (n / 128) (by omega) hs ht h2
        exact ⟨by omega, h5⟩

/-- what tells objects apart -/
def entFit (e : Ent) : Prop := e.1.data.toList ≠ [] ∧ (∀ b ∈ e.1.data.toList, b.toNat < 128) ∧ 1 ≤ e.2.2
theorem asB_head {es : List Ent} (h : ∀ e ∈ es, entFit e) : ∀ x, (asB es).head? = some x → x.toNat < 128 := by
  intro x hx
  cases es with
  | nil => cases hx
  | cons e t =>
    obtain ⟨h1, h2, _⟩ := h e (by simp)
    obtain ⟨c, l, hc⟩ := List.exists_cons_of_ne_nil h1
    rw [asB, hc] at hx
    obtain rfl : c = x := by simpa using hx
    exact h2 _ (by rw [hc]; simp)
theorem asB_inj : ∀ {es fs : List Ent}, (∀ e ∈ es, entFit e) → (∀ e ∈ fs, entFit e) → asB es = asB fs → es.map (fun e => (e.1, e.2.2)) = fs.map (fun e => (e.1, e.2.2))
  | [], [], _, _, _ => rfl
  | [], f :: fs, _, hf, h => by
    obtain ⟨h1, _, _⟩ := hf f (by simp)
    rw [asB, asB] at h
    exact absurd (List.append_eq_nil_iff.1 h.symm).1 h1
  | e :: es, [], he, _, h => by
    obtain ⟨h1, _, _⟩ := he e (by simp)
    rw [asB, asB] at h
    exact absurd (List.append_eq_nil_iff.1 h).1 h1
  | e :: es, f :: fs, he, hf, h => by
    obtain ⟨a1, a2, a3⟩ := he e (by simp)
    obtain ⟨b1, b2, b3⟩ := hf f (by simp)
    rw [asB, asB] at h
    have hd : ∀ (n : Int) (s : List UInt8), 1 ≤ n → ∀ x, (digs n.toNat ++ s).head? = some x → 128 ≤ x.toNat := by
      intro n s hn x hx
      rw [digs_pos (by omega)] at hx
      obtain rfl : UInt8.ofNat (128 + n.toNat % 128) = x := by simpa only [List.cons_append, List.head?_cons, Option.some.injEq] using hx
      rw [hi_nat]
      omega
    obtain ⟨h1, h2⟩ := split_small a2 b2 (hd _ _ a3) (hd _ _ b3) h
    obtain ⟨h3, h4⟩ := digs_inj (asB_head fun x hx => he x (by simp [hx])) (asB_head fun x hx => hf x (by simp [hx])) h2
    have ih := asB_inj (fun x hx => he x (by simp [hx])) (fun x hx => hf x (by simp [hx])) h4
    rw [List.map_cons, List.map_cons, ih, Go.WideShapes.bytes_inj h1, show e.2.2 = f.2.2 by omega]

theorem isName_fit {s : ByteArray} (h : isName s = true) : s.data.toList ≠ [] ∧ (∀ b ∈ s.data.toList, b.toNat < 128) ∧ 47 ∉ s.data.toList := by
  unfold isName consists at h
  rw [Bool.and_eq_true, List.all_eq_true] at h
  obtain ⟨h1, h2⟩ := h
  refine ⟨fun e => by rw [e] at h2; simp at h2, fun b hb => ?_, fun hm => ?_⟩
  · have := of_decide_eq_true (h1 b hb)
    rcases Nat.lt_or_ge b.toNat 128 with h | h
    · exact h
    · rw [cls_hi (by omega)] at this; omega
  · have := of_decide_eq_true (h1 47 hm)
    have h47 : cls 47 = 0 := by kernel_rfl
    omega
theorem entOk_fit {os : List Ob} {e : Ent} (h : entOk os e = true) : entFit e := by
  unfold entOk nameOk at h
  simp only [Bool.and_eq_true] at h
  obtain ⟨⟨_, h1⟩, h2⟩ := h
  obtain ⟨a, b, _⟩ := isName_fit h1
  refine ⟨a, b, ?_⟩
  unfold canHold getO at h2
  split at h2
  · next h3 => split at h3; assumption; cases h3
  · cases h2
theorem entOk_dir {os : List Ob} {e : Ent} (h : entOk os e = true) : ∃ o, getO os e.2.2 = some o ∧ o.1 = e.2.1 := by
  unfold entOk at h
  rw [Bool.and_eq_true] at h
  have h2 := h.2
  unfold canHold at h2
  split at h2
  · next o ho =>
    rw [Bool.and_eq_true] at h2
    exact ⟨o, ho, by simpa using h2.1⟩
  · cases h2
theorem asB_ok {os : List Ob} : ∀ {es fs : List Ent}, es.all (entOk os) = true → fs.all (entOk os) = true → asB es = asB fs → es = fs := by
  intro es fs he hf h
  rw [List.all_eq_true] at he hf
  have hm := asB_inj (fun e h => entOk_fit (he e h)) (fun e h => entOk_fit (hf e h)) h
  have hl := congrArg List.length hm
  rw [List.length_map, List.length_map] at hl
  apply List.ext_getElem hl
  intro i h1 h2
  have hi : (es.map (fun e => (e.1, e.2.2)))[i]? = (fs.map (fun e => (e.1, e.2.2)))[i]? := by rw [hm]
  rw [List.getElem?_map, List.getElem?_map, List.getElem?_eq_getElem h1, List.getElem?_eq_getElem h2] at hi
  have hi' : (es[i].1, es[i].2.2) = (fs[i].1, fs[i].2.2) := by simpa using hi
  obtain ⟨e1, e2⟩ := Prod.mk.inj hi'
  obtain ⟨o1, g1, d1⟩ := entOk_dir (he _ (List.getElem_mem h1))
  obtain ⟨o2, g2, d2⟩ := entOk_dir (hf _ (List.getElem_mem h2))
  rw [e2, g2] at g1
  injection g1 with g1
  subst g1
  have e3 : es[i].2.1 = fs[i].2.1 := by rw [← d1, ← d2]
  exact Prod.ext e1 (Prod.ext e3 e2)

/-- the objects of a store: blobs have no entries, trees no text and valid entries, none stands twice -/
def obOk (os : List Ob) (o : Ob) : Prop := (o.1 = false → o.2.2 = [] ∧ o.2.1.size ≤ 65536) ∧ (o.1 = true → o.2.1 = ByteArray.empty ∧ treeOk os o.2.2 = true ∧ o.2.2.length ≤ 1048576)
structure Fine (os : List Ob) : Prop where
  nodup : os.Nodup
  ok : ∀ o ∈ os, obOk os o
theorem Fine.nil : Fine [] := ⟨by simp, fun o h => by cases h⟩
theorem obOk_put {os : List Ob} {o x : Ob} (h : obOk os x) : obOk (put os o) x := ⟨h.1, fun e => ⟨(h.2 e).1, treeOk_put (h.2 e).2.1, (h.2 e).2.2⟩⟩
theorem Fine.put {os : List Ob} {o : Ob} (h : Fine os) (ho : obOk os o) : Fine (put os o) :=
  ⟨put_nodup h.nodup, fun x hx => (put_mem.1 hx).elim (fun hx => obOk_put (h.ok x hx)) fun e => by rw [e]; exact obOk_put ho⟩
theorem obOk_blob {os : List Ob} {t : ByteArray} (h : t.size ≤ 65536) : obOk os (blobO t) := ⟨fun _ => ⟨rfl, h⟩, fun e => Bool.noConfusion e⟩
theorem obOk_tree {os : List Ob} {es : List Ent} (h : treeOk os es = true) (hl : es.length ≤ 1048576) : obOk os (treeO es) := ⟨fun e => Bool.noConfusion e, fun _ => ⟨rfl, h, hl⟩⟩

/-- what the map finds an object by -/
def ident (o : Ob) : ByteArray := if o.1 then str (asB o.2.2) else o.2.1
theorem ident_inj {os : List Ob} {a b : Ob} (ha : obOk os a) (hb : obOk os b) (h1 : a.1 = b.1) (h2 : ident a = ident b) : a = b := by
  obtain ⟨ad, at_, ae⟩ := a
  obtain ⟨bd, bt, be⟩ := b
  simp only at h1
  subst h1
  unfold ident at h2
  cases ad with
  | false =>
    have h3 := (ha.1 rfl).1
    have h4 := (hb.1 rfl).1
    simp only at h3 h4 h2
    simp at h2
    subst h3 h4 h2
    rfl
  | true =>
    obtain ⟨h3, h5, _⟩ := ha.2 rfl
    obtain ⟨h4, h6, _⟩ := hb.2 rfl
    simp only at h3 h4 h5 h6
    unfold treeOk at h5 h6
    rw [Bool.and_eq_true] at h5 h6
    have h7 : asB ae = asB be := by
      have := congrArg (fun s : ByteArray => s.data.toList) h2
      simpa [str_data] using this
    rw [asB_ok h5.2 h6.2 h7, h3, h4]

/-- names: the code's word and the reference's -/
theorem comps_len_free {s : ByteArray} (h : 47 ∉ s.data.toList) : comps s = [s] := comps_last h
theorem valid_free {s : ByteArray} (h : 47 ∉ s.data.toList) : validS s = nameOk s := by
  unfold validS within nameOk
  rw [comps_last h]
  simp
theorem nameOk_free {s : ByteArray} (h : nameOk s = true) : 47 ∉ s.data.toList := by
  unfold nameOk at h
  rw [Bool.and_eq_true] at h
  exact (isName_fit h.2).2.2
theorem nameOk_ref (s : ByteArray) : (decide (47 ∉ s.data.toList) && validS s) = nameOk s := by
  by_cases h : 47 ∉ s.data.toList
  · rw [valid_free h]; simp [h]
  · have : nameOk s = false := by
      rw [Bool.eq_false_iff]
      intro e
      exact h (nameOk_free e)
    rw [this]
    simp at h
    simp [h]
theorem rising_iff : ∀ (es : List Ent), rising es = true ↔ ∀ j (h : j + 1 < es.length), Op.bytesLess es[j].1.toList es[j + 1].1.toList = true
  | [] => by simp [rising]
  | [a] => by simp [rising]
  | a :: b :: t => by
    rw [rising, Bool.and_eq_true, rising_iff (b :: t)]
    constructor
    · rintro ⟨h1, h2⟩ j hj
      cases j with
      | zero => exact h1
      | succ j => exact h2 j (by simpa using hj)
    · intro h
      exact ⟨h 0 (by simp), fun j hj => h (j + 1) (by simpa using hj)⟩
/-- entry j is fine where it stands -/
def fineAt (os : List Ob) (es : List Ent) (j : Nat) (h : j < es.length) : Prop := (∀ h0 : 0 < j, Op.bytesLess (es[j - 1]'(by omega)).1.toList es[j].1.toList = true) ∧ entOk os es[j] = true
theorem treeOk_iff (os : List Ob) (es : List Ent) : treeOk os es = true ↔ ∀ j (h : j < es.length), fineAt os es j h := by
  unfold treeOk fineAt
  rw [Bool.and_eq_true, rising_iff, List.all_eq_true]
  constructor
  · rintro ⟨h1, h2⟩ j hj
    refine ⟨fun h0 => ?_, h2 _ (List.getElem_mem hj)⟩
    obtain ⟨i, rfl⟩ : ∃ i, j = i + 1 := ⟨j - 1, by omega⟩
    exact h1 i hj
  · intro h
    refine ⟨fun j hj => ?_, fun e he => ?_⟩
    · exact (h (j + 1) hj).1 (by omega)
    · obtain ⟨j, hj, rfl⟩ := List.getElem_of_mem he
      exact (h j hj).2
end Go.Proofs.YthnlldojidocoaaDoor
