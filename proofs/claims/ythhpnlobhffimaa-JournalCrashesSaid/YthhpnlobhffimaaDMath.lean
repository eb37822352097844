/- The mathematics of a disk: writing to contents, the parts of a piece, what a crash leaves, the power. -/
import Init
namespace Go.Proofs.Ythhpnlobhffimaa
set_option maxRecDepth 100000

/-- contents to which a string is written -/
def put (c : List UInt8) (off : Nat) (s : List UInt8) : List UInt8 :=
  (c ++ List.replicate (off + s.length - c.length) 0).take off ++ s ++ c.drop (off + s.length)
theorem put_len (c : List UInt8) (off : Nat) (s : List UInt8) : (put c off s).length = max c.length (off + s.length) := by
  unfold put; simp; omega
/-- as the program does it: zeros behind, then a copy -/
theorem put_prog (c : List UInt8) (off : Nat) (s : List UInt8) (m : Nat) (hm : m = off + s.length - c.length) :
    (c ++ List.replicate m 0).take off ++ s ++ (c ++ List.replicate m 0).drop (off + s.length) = put c off s := by
  subst hm
  unfold put
  congr 1
  rcases Nat.lt_or_ge c.length (off + s.length) with h | h
  · rw [List.drop_eq_nil_of_le (by simp; omega), List.drop_eq_nil_of_le (by omega)]
  · rw [show off + s.length - c.length = 0 by omega]; simp
/-- as the reference does it -/
theorem put_ref (c : List UInt8) (off : Nat) (s : List UInt8) :
    (c ++ List.replicate (off - c.length) 0).take off ++ s ++ (c ++ List.replicate (off - c.length) 0).drop (off + s.length) = put c off s := by
  unfold put
  have h1 : (c ++ List.replicate (off - c.length) (0 : UInt8)).take off = (c ++ List.replicate (off + s.length - c.length) 0).take off := by
    rw [List.take_append, List.take_append, List.take_replicate, List.take_replicate]
    congr 2; omega
  rw [h1]
  congr 1
  rcases Nat.lt_or_ge c.length off with h | h
  · rw [List.drop_eq_nil_of_le (by simp; omega), List.drop_eq_nil_of_le (by omega)]
  · rw [show off - c.length = 0 by omega]; simp
theorem put_at (c : List UInt8) (off : Nat) (s : List UInt8) (i : Nat) :
    (put c off s)[i]? = if i < off then (if i < c.length then c[i]? else if i < off + s.length then some 0 else none) else if i < off + s.length then s[i - off]? else c[i]? := by
  unfold put
  by_cases h1 : i < off
  · rw [if_pos h1, List.append_assoc, List.getElem?_append_left (by simp; omega), List.getElem?_take_of_lt h1]
    by_cases h2 : i < c.length
    · rw [if_pos h2, List.getElem?_append_left h2]
    · rw [if_neg h2, if_pos (by omega), List.getElem?_append_right (by omega), List.getElem?_replicate, if_pos (by omega)]
  · have hl : ((c ++ List.replicate (off + s.length - c.length) (0 : UInt8)).take off).length = off := by simp; omega
    rw [if_neg h1, List.append_assoc, List.getElem?_append_right (by omega), hl]
    by_cases h2 : i < off + s.length
    · rw [if_pos h2, List.getElem?_append_left (by omega)]
    · rw [if_neg h2, List.getElem?_append_right (by omega), List.getElem?_drop]
      congr 1; omega
theorem put_nil (c : List UInt8) (off : Nat) (h : off ≤ c.length) : put c off [] = c := by
  unfold put
  simp only [List.length_nil, Nat.add_zero, List.append_nil]
  rw [show off - c.length = 0 by omega]; simp

abbrev Pc := Nat × List UInt8
/-- the parts of a piece: s at the offset off, cut at the multiples of 64 -/
def parts : Nat → Nat → List UInt8 → List Pc
  | 0, _, _ => []
  | f + 1, off, s => if s.isEmpty then [] else (off, s.take (64 - off % 64)) :: parts f (off + min (64 - off % 64) s.length) (s.drop (64 - off % 64))
theorem parts_fuel : ∀ (f g off : Nat) (s : List UInt8), s.length ≤ f → s.length ≤ g → parts f off s = parts g off s
  | 0, 0, _, _, _, _ => rfl
  | 0, g + 1, off, s, h, _ => by
    obtain rfl : s = [] := List.eq_nil_of_length_eq_zero (by omega)
    simp [parts]
  | f + 1, 0, off, s, _, h => by
    obtain rfl : s = [] := List.eq_nil_of_length_eq_zero (by omega)
    simp [parts]
  | f + 1, g + 1, off, s, h1, h2 => by
    rw [parts, parts]
    split
    · rfl
    · next hs =>
      have : 0 < s.length := by
        cases s with
        | nil => simp at hs
        | cons => simp
      have hk : 0 < 64 - off % 64 := by omega
      rw [parts_fuel f g _ _ (by simp; omega) (by simp; omega)]
def partsOf (p : Pc) : List Pc := parts p.2.length p.1 p.2
theorem partsOf_nil (off : Nat) : partsOf (off, []) = [] := rfl
theorem partsOf_cons (off : Nat) (s : List UInt8) (h : 0 < s.length) : partsOf (off, s) = (off, s.take (64 - off % 64)) :: partsOf (off + min (64 - off % 64) s.length, s.drop (64 - off % 64)) := by
  unfold partsOf
  obtain ⟨f, hf⟩ : ∃ f, s.length = f + 1 := ⟨s.length - 1, by omega⟩
  show parts s.length off s = _
  rw [hf, parts, if_neg (by cases s with
    | nil => simp at h
    | cons => simp), ← hf]
  congr 1
  exact parts_fuel _ _ _ _ (by simp; omega) (by simp)
/-- the parts lie within the piece, and each byte of a part is the piece's -/
theorem parts_in : ∀ (f off : Nat) (s : List UInt8) (x : Pc), x ∈ parts f off s → off ≤ x.1 ∧ x.1 + x.2.length ≤ off + s.length ∧ 0 < x.2.length ∧ ∀ j, j < x.2.length → x.2[j]? = s[x.1 - off + j]?
  | 0, _, _, _, h => by simp [parts] at h
  | f + 1, off, s, x, h => by
    rw [parts] at h
    split at h
    · simp at h
    · next hs =>
      have hs' : 0 < s.length := by
        cases s with
        | nil => simp at hs
        | cons => simp
      have hk : 0 < 64 - off % 64 := by omega
      rcases List.mem_cons.1 h with rfl | h
      · refine ⟨Nat.le_refl _, by simp; omega, by simp; omega, fun j hj => ?_⟩
        simp at hj
        rw [List.getElem?_take_of_lt (by omega)]; simp
      · obtain ⟨h1, h2, h3, h4⟩ := parts_in f _ _ x h
        simp at h2
        refine ⟨by omega, ?_, h3, fun j hj => ?_⟩
        · rcases Nat.lt_or_ge (64 - off % 64) s.length with h | h
          · omega
          · omega
        · rw [h4 j hj, List.getElem?_drop]
          rcases Nat.lt_or_ge (64 - off % 64) s.length with h | h
          · congr 1; omega
          · omega
theorem partsOf_in {p x : Pc} (h : x ∈ partsOf p) : p.1 ≤ x.1 ∧ x.1 + x.2.length ≤ p.1 + p.2.length ∧ 0 < x.2.length ∧ ∀ j, j < x.2.length → x.2[j]? = p.2[x.1 - p.1 + j]? := parts_in _ _ _ _ h
theorem parts_few : ∀ (f off : Nat) (s : List UInt8), (parts f off s).length ≤ s.length
  | 0, _, _ => by simp [parts]
  | f + 1, off, s => by
    rw [parts]
    split
    · simp
    · next hs =>
      have hs' : 0 < s.length := by
        cases s with
        | nil => simp at hs
        | cons => simp
      have := parts_few f (off + min (64 - off % 64) s.length) (s.drop (64 - off % 64))
      simp at this ⊢
      omega
theorem partsOf_few (p : Pc) : (partsOf p).length ≤ p.2.length := parts_few _ _ _

/-- whether the part number k survives -/
def surv (q : List Int) (k : Nat) : Bool := decide (0 < q.length) && (q.getD (k % q.length) 0).tmod 2 != 0
/-- the surviving parts, from the number k on, written to c -/
def lay (q : List Int) : Nat → List UInt8 → List Pc → List UInt8
  | _, c, [] => c
  | k, c, p :: t => lay q (k + 1) (if surv q k then put c p.1 p.2 else c) t
theorem lay_app (q : List Int) : ∀ (a b : List Pc) (k : Nat) (c : List UInt8), lay q k c (a ++ b) = lay q (k + a.length) (lay q k c a) b
  | [], b, k, c => by simp [lay]
  | p :: a, b, k, c => by
    rw [List.cons_append, lay, lay_app q a b, lay, List.length_cons]
    congr 1; omega
theorem lay_snoc (q : List Int) (a : List Pc) (x : Pc) (k : Nat) (c : List UInt8) : lay q k c (a ++ [x]) = if surv q (k + a.length) then put (lay q k c a) x.1 x.2 else lay q k c a := by
  rw [lay_app]; rfl
theorem lay_none (k : Nat) (c : List UInt8) : ∀ l : List Pc, lay [] k c l = c := by
  intro l
  induction l generalizing k with
  | nil => rfl
  | cons p t ih => rw [lay]; simp [surv]; exact ih (k + 1)
theorem lay_len (q : List Int) (N : Nat) : ∀ (l : List Pc) (k : Nat) (c : List UInt8), (∀ x ∈ l, x.1 + x.2.length ≤ N) → c.length ≤ N → (lay q k c l).length ≤ N ∧ c.length ≤ (lay q k c l).length
  | [], _, c, _, hc => ⟨hc, Nat.le_refl _⟩
  | p :: t, k, c, h, hc => by
    rw [lay]
    have hp := h p (List.mem_cons_self)
    split
    · have hl := put_len c p.1 p.2
      have := lay_len q N t (k + 1) (put c p.1 p.2) (fun x hx => h x (List.mem_cons_of_mem _ hx)) (by omega)
      omega
    · exact lay_len q N t (k + 1) c (fun x hx => h x (List.mem_cons_of_mem _ hx)) hc
/-- all that was written -/
def putAll (c : List UInt8) (ps : List Pc) : List UInt8 := ps.foldl (fun c p => put c p.1 p.2) c
theorem putAll_snoc (c : List UInt8) (ps : List Pc) (p : Pc) : putAll c (ps ++ [p]) = put (putAll c ps) p.1 p.2 := by simp [putAll]
theorem putAll_cons (c : List UInt8) (ps : List Pc) (p : Pc) : putAll c (p :: ps) = putAll (put c p.1 p.2) ps := rfl
theorem putAll_len (N : Nat) : ∀ (ps : List Pc) (c : List UInt8), (∀ x ∈ ps, x.1 + x.2.length ≤ N) → c.length ≤ N → (putAll c ps).length ≤ N
  | [], _, _, h => h
  | p :: t, c, h, hc => by
    rw [putAll_cons]
    have := h p List.mem_cons_self
    exact putAll_len N t _ (fun x hx => h x (List.mem_cons_of_mem _ hx)) (by rw [put_len]; omega)
/-- all parts of all pieces -/
def allParts (ps : List Pc) : List Pc := ps.flatMap partsOf
theorem allParts_snoc (ps : List Pc) (p : Pc) : allParts (ps ++ [p]) = allParts ps ++ partsOf p := by simp [allParts]
theorem allParts_few (M : Nat) : ∀ ps : List Pc, (∀ x ∈ ps, x.1 + x.2.length ≤ M) → (allParts ps).length ≤ ps.length * M
  | [], _ => by simp [allParts]
  | p :: t, h => by
    have h1 := partsOf_few p
    have h2 := h p List.mem_cons_self
    have h3 := allParts_few M t (fun x hx => h x (List.mem_cons_of_mem _ hx))
    have : allParts (p :: t) = partsOf p ++ allParts t := rfl
    rw [this, List.length_append, List.length_cons, Nat.succ_mul]
    omega
theorem allParts_in {M : Nat} {ps : List Pc} (h : ∀ x ∈ ps, x.1 + x.2.length ≤ M) : ∀ x ∈ allParts ps, x.1 + x.2.length ≤ M := by
  intro x hx
  unfold allParts at hx
  obtain ⟨p, hp, hx⟩ := List.mem_flatMap.1 hx
  have := partsOf_in hx
  have := h p hp
  omega

/-- A disk: what was synced, what was written since, the calls that the power still lasts, the calls that returned OK. -/
structure Dk where
  syn : List UInt8
  ps : List Pc
  pw : Option Nat
  calls : Nat
def lim : Nat := 16777216
/-- whether the power is off -/
def offO : Option Nat → Bool
  | some 0 => true
  | _ => false
namespace Dk
def now (d : Dk) : List UInt8 := putAll d.syn d.ps
def new : Dk := ⟨[], [], none, 0⟩
structure Good (d : Dk) : Prop where
  syn : d.syn.length ≤ lim
  ps : ∀ x ∈ d.ps, x.1 + x.2.length ≤ lim
  few : d.ps.length ≤ d.calls
  pw : ∀ m, d.pw = some m → m ≤ 1000000
theorem Good.now {d : Dk} (h : d.Good) : d.now.length ≤ lim := putAll_len lim d.ps d.syn h.ps h.syn
/-- the power behind a call that returned OK -/
def less : Option Nat → Option Nat
  | none => none
  | some n => some (n - 1)
def isOff (d : Dk) : Bool := offO d.pw
def canW (off : Int) (n : Nat) : Bool := decide (0 ≤ off) && decide (off + (n : Int) ≤ 16777216)
/-- the number of Write's error -/
def wErr (d : Dk) (off : Int) (s : List UInt8) : Int := if canW off s.length = false then 1 else if d.isOff then 30 else 0
def wrote (d : Dk) (off : Nat) (s : List UInt8) : Dk := ⟨d.syn, d.ps ++ [(off, s)], less d.pw, d.calls + 1⟩
def write (d : Dk) (off : Int) (s : List UInt8) : Dk := if d.wErr off s = 0 then d.wrote off.toNat s else d
def sErr (d : Dk) : Int := if d.isOff then 30 else 0
def synced (d : Dk) : Dk := ⟨d.now, [], less d.pw, d.calls + 1⟩
def sync (d : Dk) : Dk := if d.isOff then d else d.synced
def fail (d : Dk) (n : Int) : Dk := { d with pw := if n < 0 then none else some n.toNat }
def left (d : Dk) (q : List Int) : List UInt8 := lay q 0 d.syn (allParts d.ps)
def crash (d : Dk) (q : List Int) : Dk := ⟨d.left q, [], none, 0⟩
def read (d : Dk) (off n : Int) : List UInt8 := if 0 ≤ off ∧ 1 ≤ n then (d.now.drop off.toNat).take n.toNat else []
theorem new_good : new.Good := ⟨by simp [new], by simp [new], by simp [new], by simp [new]⟩
theorem less_le {o : Option Nat} (h : ∀ m, o = some m → m ≤ 1000000) : ∀ m, less o = some m → m ≤ 1000000 := by
  intro m hm
  cases o with
  | none => cases hm
  | some n =>
    have := h n rfl
    simp [less] at hm
    omega
theorem wrote_good {d : Dk} (h : d.Good) {off : Nat} {s : List UInt8} (hs : off + s.length ≤ lim) : (d.wrote off s).Good :=
  ⟨h.syn, fun x hx => by
    rcases List.mem_append.1 hx with hx | hx
    · exact h.ps x hx
    · simp at hx; subst hx; exact hs, by have := h.few; simp [wrote]; omega, less_le h.pw⟩
theorem wrote_now (d : Dk) (off : Nat) (s : List UInt8) : (d.wrote off s).now = put d.now off s := by
  unfold now wrote; exact putAll_snoc _ _ _
theorem synced_good {d : Dk} (h : d.Good) : d.synced.Good := ⟨h.now, by simp [synced], by simp [synced], less_le h.pw⟩
theorem synced_now (d : Dk) : d.synced.now = d.now := rfl
theorem left_len {d : Dk} (h : d.Good) (q : List Int) : (d.left q).length ≤ lim ∧ d.syn.length ≤ (d.left q).length := lay_len q lim _ 0 _ (allParts_in h.ps) h.syn
theorem crash_good {d : Dk} (h : d.Good) (q : List Int) : (d.crash q).Good := ⟨(left_len h q).1, by simp [crash], by simp [crash], by simp [crash]⟩
theorem crash_now (d : Dk) (q : List Int) : (d.crash q).now = d.left q := rfl
theorem crash_crash (d : Dk) (q q' : List Int) : (d.crash q).crash q' = d.crash q := rfl
theorem fail_good {d : Dk} (h : d.Good) {n : Int} (hn : n ≤ 1000000) : (d.fail n).Good := ⟨h.syn, h.ps, h.few, fun m hm => by
  unfold fail at hm
  dsimp only at hm
  split at hm
  · cases hm
  · injection hm with hm; omega⟩
theorem canW_iff (off : Int) (n : Nat) : canW off n = true ↔ 0 ≤ off ∧ off + (n : Int) ≤ 16777216 := by simp [canW]
theorem write_good {d : Dk} (h : d.Good) (off : Int) (s : List UInt8) : (d.write off s).Good := by
  unfold write
  split
  · next e =>
    refine wrote_good h ?_
    unfold wErr at e
    split at e
    · cases e
    · next hc =>
      have := (canW_iff off s.length).1 (by simpa using hc)
      unfold lim; omega
  · exact h
theorem sync_good {d : Dk} (h : d.Good) : d.sync.Good := by
  unfold sync
  split
  · exact h
  · exact synced_good h
theorem read_len {d : Dk} (h : d.Good) (off n : Int) : (d.read off n).length ≤ lim := by
  have := h.now
  unfold read
  split
  · simp; omega
  · simp
end Dk
end Go.Proofs.Ythhpnlobhffimaa
