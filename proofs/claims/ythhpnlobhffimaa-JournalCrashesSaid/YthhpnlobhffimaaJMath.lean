/- The mathematics of a journal: frames and what a crash leaves of them. -/
import Derived.Test.YthhpnlobhffimaaCSpec
namespace Go.Proofs.Ythhpnlobhffimaa
set_option maxRecDepth 100000

theorem rdFrom_inv : ∀ (l : List UInt8) (pre : List UInt8) (v n : Nat), High pre → rdFrom l pre.length (hv pre) = (v, n, 0) → pre.length < n ∧ numL v = pre ++ l.take (n - pre.length)
  | [], pre, v, n, _, h => by
    rw [rdFrom] at h
    split at h <;> simp at h
  | b :: t, pre, v, n, hp, h => by
    by_cases h10 : 10 ≤ pre.length
    · rw [rdFrom, if_pos h10] at h; simp at h
    · by_cases hb : 128 ≤ b.toNat
      · rw [rdFrom_more (by omega) hb] at h
        have e1 : pre.length + 1 = (pre ++ [b]).length := by simp
        rw [e1, ← hv_snoc] at h
        obtain ⟨h1, h2⟩ := rdFrom_inv t (pre ++ [b]) v n (hp.snoc hb) h
        simp at h1
        refine ⟨by omega, ?_⟩
        rw [h2]
        have e2 : n - pre.length = (n - (pre.length + 1)) + 1 := by omega
        rw [e2, List.take_succ_cons]
        simp
      · by_cases hl : lastB b.toNat pre.length = true
        · rw [rdFrom_last (by omega) hb hl] at h
          simp only [Prod.mk.injEq] at h
          obtain ⟨rfl, rfl, _⟩ := h
          refine ⟨by omega, ?_⟩
          rw [numL_canon b (by omega) pre hp ?_]
          · simp
          · rcases pre with _ | ⟨x, p⟩
            · exact .inl rfl
            · right
              unfold lastB at hl
              simp only [decide_eq_true_eq] at hl
              rcases hl with hl | ⟨hl, _⟩
              · simp at hl; omega
              · omega
        · rw [rdFrom_bad (by omega) hb (by simpa using hl)] at h; simp at h
theorem rd_inv {l : List UInt8} {v n : Nat} (h : rd l = (v, n, 0)) : 0 < n ∧ numL v = l.take n := by
  have := rdFrom_inv l [] v n (fun x hx => by simp at hx) (by simpa [hv, rd] using h)
  simpa using this

/-- the sum's four bytes -/
def sum4 (l : List UInt8) : List UInt8 := [UInt8.ofNat (crc l), UInt8.ofNat (crc l / 256), UInt8.ofNat (crc l / 65536), UInt8.ofNat (crc l / 16777216)]
def body (r : List UInt8) : List UInt8 := numL r.length ++ r ++ sum4 (numL r.length ++ r)
def frame (r : List UInt8) : List UInt8 := 1 :: body r
def fl (rs : List (List UInt8)) : List UInt8 := rs.flatMap frame
theorem body_len (r : List UInt8) : (body r).length = (numL r.length).length + r.length + 4 := by simp [body, sum4]; omega
theorem frame_len (r : List UInt8) : (frame r).length = 1 + (body r).length := by simp [frame]; omega
theorem fl_snoc (rs : List (List UInt8)) (r : List UInt8) : fl (rs ++ [r]) = fl rs ++ frame r := by simp [fl]
theorem fl_cons (rs : List (List UInt8)) (r : List UInt8) : fl (r :: rs) = frame r ++ fl rs := by simp [fl]
theorem fl_mem {rs : List (List UInt8)} {r : List UInt8} (h : r ∈ rs) : r.length + 6 ≤ (fl rs).length := by
  induction rs with
  | nil => simp at h
  | cons x t ih =>
    rw [fl_cons, List.length_append]
    rcases List.mem_cons.1 h with rfl | h
    · have := numL_pos r.length
      rw [frame_len, body_len]; omega
    · have := ih h; omega
theorem fl_many (rs : List (List UInt8)) : 6 * rs.length ≤ (fl rs).length := by
  induction rs with
  | nil => simp [fl]
  | cons x t ih =>
    have := numL_pos x.length
    rw [fl_cons, List.length_append, frame_len, body_len, List.length_cons]; omega

/-- the record with whose body s begins -/
def readB (s : List UInt8) : Option (List UInt8) :=
  if (rd s).2.2 ≠ 0 ∨ s.length - (rd s).2.1 < (rd s).1 then none
  else if (body ((s.drop (rd s).2.1).take (rd s).1)).isPrefixOf s then some ((s.drop (rd s).2.1).take (rd s).1) else none
theorem readB_some {s r : List UInt8} (h : readB s = some r) : body r <+: s := by
  unfold readB at h
  split at h
  · cases h
  · split at h
    · next h2 => injection h with h; subst h; exact List.isPrefixOf_iff_prefix.1 h2
    · cases h
theorem readB_body {r : List UInt8} (hr : r.length < 18446744073709551616) (t : List UInt8) : readB (body r ++ t) = some r := by
  have e : body r ++ t = numL r.length ++ (r ++ (sum4 (numL r.length ++ r) ++ t)) := by simp [body]
  have hrd : rd (body r ++ t) = (r.length, (numL r.length).length, 0) := by rw [e]; exact rd_numL hr _
  have hd : ((body r ++ t).drop (numL r.length).length).take r.length = r := by rw [e]; simp
  unfold readB
  rw [hrd]
  dsimp only
  rw [hd, if_neg, if_pos]
  · exact List.isPrefixOf_iff_prefix.2 ⟨t, rfl⟩
  · have := body_len r
    simp; omega

def recsF : Nat → List UInt8 → List (List UInt8)
  | 0, _ => []
  | _ + 1, [] => []
  | f + 1, b :: s => if b = 1 then (match readB s with | none => [] | some r => r :: recsF f (s.drop (body r).length)) else []
theorem recsF_fuel : ∀ (f g : Nat) (c : List UInt8), c.length ≤ f → c.length ≤ g → recsF f c = recsF g c
  | 0, 0, _, _, _ => rfl
  | 0, g + 1, c, h, _ => by obtain rfl : c = [] := List.eq_nil_of_length_eq_zero (by omega); rfl
  | f + 1, 0, c, _, h => by obtain rfl : c = [] := List.eq_nil_of_length_eq_zero (by omega); rfl
  | f + 1, g + 1, [], _, _ => rfl
  | f + 1, g + 1, b :: s, h1, h2 => by
    rw [recsF, recsF]
    split
    · cases readB s with
      | none => rfl
      | some r =>
        dsimp only
        rw [recsF_fuel f g _ (by simp at h1 ⊢; omega) (by simp at h2 ⊢; omega)]
    · rfl
def recs (c : List UInt8) : List (List UInt8) := recsF c.length c
theorem recs_nil : recs [] = [] := rfl
theorem recs_not {b : UInt8} (s : List UInt8) (h : b ≠ 1) : recs (b :: s) = [] := by
  show recsF (s.length + 1) (b :: s) = []
  rw [recsF, if_neg h]
theorem recs_none {s : List UInt8} (h : readB s = none) : recs (1 :: s) = [] := by
  show recsF (s.length + 1) (1 :: s) = []
  rw [recsF, if_pos rfl, h]
theorem recs_some {s r : List UInt8} (h : readB s = some r) : recs (1 :: s) = r :: recs (s.drop (body r).length) := by
  show recsF (s.length + 1) (1 :: s) = _
  rw [recsF, if_pos rfl, h]
  dsimp only
  rw [recsF_fuel _ (s.drop (body r).length).length _ (by simp) (Nat.le_refl _)]
  rfl
def Stop (rest : List UInt8) : Prop := recs rest = []
theorem recs_app (rest : List UInt8) (hs : Stop rest) : ∀ rs : List (List UInt8), (∀ r ∈ rs, r.length < 18446744073709551616) → recs (fl rs ++ rest) = rs
  | [], _ => by simp only [fl, List.flatMap_nil, List.nil_append]; exact hs
  | r :: rs, h => by
    have e : fl (r :: rs) ++ rest = 1 :: (body r ++ (fl rs ++ rest)) := by rw [fl_cons]; simp [frame]
    rw [e, recs_some (readB_body (h r List.mem_cons_self) _), List.drop_left, recs_app rest hs rs (fun x hx => h x (List.mem_cons_of_mem _ hx))]
theorem recs_split : ∀ (n : Nat) (c : List UInt8), c.length ≤ n → ∃ rest, c = fl (recs c) ++ rest ∧ Stop rest
  | n, [], _ => ⟨[], by simp [recs_nil, fl], rfl⟩
  | 0, _ :: _, h => by simp at h
  | n + 1, b :: s, h => by
    by_cases hb : b = 1
    · subst hb
      cases hr : readB s with
      | none => exact ⟨1 :: s, by rw [recs_none hr]; simp [fl], recs_none hr⟩
      | some r =>
        obtain ⟨t, rfl⟩ := readB_some hr
        obtain ⟨rest, h1, h2⟩ := recs_split n t (by simp at h; omega)
        refine ⟨rest, ?_, h2⟩
        rw [recs_some hr, List.drop_left, fl_cons, List.append_assoc, ← h1]
        simp [frame]
    · exact ⟨b :: s, by rw [recs_not s hb]; simp [fl], recs_not s hb⟩
theorem recs_of (c : List UInt8) : ∃ rest, c = fl (recs c) ++ rest ∧ Stop rest := recs_split _ c (Nat.le_refl _)
theorem fl_recs_le (c : List UInt8) : (fl (recs c)).length ≤ c.length := by
  obtain ⟨rest, h, _⟩ := recs_of c
  have := congrArg List.length h
  simp at this; omega
theorem recs_take (c : List UInt8) : c.take (fl (recs c)).length = fl (recs c) := by
  obtain ⟨rest, h, _⟩ := recs_of c
  generalize recs c = R at h ⊢
  rw [h, List.take_left' rfl]

/-- the frames F, and behind them nothing or a zero -/
def Pre (F c : List UInt8) : Prop := ∃ rest, c = F ++ rest ∧ (rest = [] ∨ ∃ t, rest = 0 :: t)
theorem stop_pre {rest : List UInt8} (h : rest = [] ∨ ∃ t, rest = 0 :: t) : Stop rest := by
  rcases h with rfl | ⟨t, rfl⟩
  · rfl
  · exact recs_not t (by decide)
theorem Pre.recs {rs : List (List UInt8)} {c : List UInt8} (h : Pre (fl rs) c) (hc : c.length < 18446744073709551616) : recs c = rs := by
  obtain ⟨rest, rfl, h⟩ := h
  refine recs_app rest (stop_pre h) rs fun r hr => ?_
  have := fl_mem hr
  simp at hc; omega
theorem Pre.len {F c : List UInt8} (h : Pre F c) : F.length ≤ c.length := by
  obtain ⟨rest, rfl, h⟩ := h; simp
theorem Pre.put_ {F c : List UInt8} (h : Pre F c) {off : Nat} (ho : F.length + 1 ≤ off) (s : List UInt8) : Pre F (put c off s) := by
  obtain ⟨rest, rfl, h⟩ := h
  obtain ⟨k, rfl⟩ : ∃ k, off = F.length + (k + 1) := ⟨off - F.length - 1, by omega⟩
  refine ⟨(rest ++ List.replicate (F.length + (k + 1) + s.length - (F ++ rest).length) 0).take (k + 1) ++ s ++ rest.drop (k + 1 + s.length), ?_, ?_⟩
  · unfold put
    rw [List.append_assoc F rest, List.take_append, List.take_of_length_le (by omega), Nat.add_sub_cancel_left, List.drop_append, List.drop_eq_nil_of_le (by omega), show F.length + (k + 1) + s.length - F.length = k + 1 + s.length by omega]
    simp
  · right
    rcases h with rfl | ⟨t, rfl⟩
    · obtain ⟨m, hm⟩ : ∃ m, F.length + (k + 1) + s.length - (F ++ ([] : List UInt8)).length = m + 1 := ⟨k + s.length, by simp; omega⟩
      rw [hm, List.nil_append, List.replicate_succ, List.take_succ_cons]
      exact ⟨_, rfl⟩
    · exact ⟨_, rfl⟩
theorem Pre.lay_ {F : List UInt8} (q : List Int) : ∀ (l : List Pc) (k : Nat) (c : List UInt8), Pre F c → (∀ x ∈ l, F.length + 1 ≤ x.1) → Pre F (lay q k c l)
  | [], _, _, h, _ => h
  | p :: t, k, c, h, hl => by
    rw [lay]
    refine Pre.lay_ q t (k + 1) _ ?_ fun x hx => hl x (List.mem_cons_of_mem _ hx)
    split
    · exact h.put_ (hl p List.mem_cons_self) _
    · exact h
/-- the body is written -/
theorem Pre.mid {F c : List UInt8} (h : Pre F c) (b : List UInt8) : ∃ t, put c (F.length + 1) (b ++ [0]) = F ++ 0 :: (b ++ 0 :: t) := by
  obtain ⟨rest, rfl, h⟩ := h
  have e : ∀ m, (F ++ rest ++ List.replicate m (0 : UInt8)).take (F.length + 1) = F ++ (rest ++ List.replicate m 0).take 1 := by
    intro m
    rw [List.append_assoc F rest, List.take_append, List.take_of_length_le (by omega), Nat.add_sub_cancel_left]
  have e2 : ∃ m, F.length + 1 + (b ++ [0]).length - (F ++ rest).length = m ∧ (rest = [] → 1 ≤ m) := ⟨_, rfl, by rintro rfl; simp; omega⟩
  obtain ⟨m, hm, h1⟩ := e2
  have e3 : (rest ++ List.replicate m (0 : UInt8)).take 1 = [0] := by
    rcases h with rfl | ⟨t, rfl⟩
    · obtain ⟨j, rfl⟩ : ∃ j, m = j + 1 := ⟨m - 1, by have := h1 rfl; omega⟩
      simp [List.replicate_succ]
    · simp
  refine ⟨(F ++ rest).drop (F.length + 1 + (b ++ [0]).length), ?_⟩
  unfold put
  rw [hm, e, e3]
  simp
theorem put_one {F : List UInt8} (x y : UInt8) (t : List UInt8) : put (F ++ y :: t) F.length [x] = F ++ x :: t := by
  unfold put
  rw [show F.length + [x].length - (F ++ y :: t).length = 0 by simp]
  simp only [List.replicate_zero, List.append_nil, List.take_left']
  rw [List.drop_append, List.drop_eq_nil_of_le (by simp)]
  simp

/-- A journal: its disk, its records, whether a call within Append has failed. -/
structure Jn where
  d : Dk
  rs : List (List UInt8)
  failed : Bool
namespace Jn
def e (j : Jn) : Nat := (fl j.rs).length
def tooLong (j : Jn) (r : List UInt8) : Bool := decide (16777216 < j.e + (body r).length + 2)
/-- the four calls -/
def d1 (j : Jn) (r : List UInt8) : Dk := j.d.write ((j.e + 1 : Nat) : Int) (body r ++ [0])
def d2 (j : Jn) (r : List UInt8) : Dk := (j.d1 r).sync
def d3 (j : Jn) (r : List UInt8) : Dk := (j.d2 r).write (j.e : Int) [1]
def d4 (j : Jn) (r : List UInt8) : Dk := (j.d3 r).sync
def app (j : Jn) (r : List UInt8) : Int × Jn :=
  if j.failed then (30, j) else if j.tooLong r then (2, j)
  else if j.d.wErr ((j.e + 1 : Nat) : Int) (body r ++ [0]) ≠ 0 then (30, ⟨j.d1 r, j.rs, true⟩)
  else if (j.d1 r).sErr ≠ 0 then (30, ⟨j.d2 r, j.rs, true⟩)
  else if (j.d2 r).wErr (j.e : Int) [1] ≠ 0 then (30, ⟨j.d3 r, j.rs, true⟩)
  else if (j.d3 r).sErr ≠ 0 then (30, ⟨j.d4 r, j.rs, true⟩)
  else (0, ⟨j.d4 r, j.rs ++ [r], false⟩)
/-- nothing is under way -/
structure Idle (j : Jn) : Prop where
  ok : j.failed = false
  ps : j.d.ps = []
  pre : Pre (fl j.rs) j.d.syn
end Jn
/-- the power lasts k calls -/
def lasts (o : Option Nat) (k : Nat) : Prop := match o with | none => True | some m => k ≤ m
def lessN (o : Option Nat) (k : Nat) : Option Nat := match o with | none => none | some m => some (m - k)
theorem lessN_less (o : Option Nat) (k : Nat) : Dk.less (lessN o k) = lessN o (k + 1) := by
  cases o with
  | none => rfl
  | some m => simp [lessN, Dk.less]; omega
theorem lessN_zero (o : Option Nat) : lessN o 0 = o := by cases o <;> rfl
theorem lasts_off {o : Option Nat} {k : Nat} (h : lasts o (k + 1)) : offO (lessN o k) = false := by
  cases o with
  | none => rfl
  | some m =>
    obtain ⟨q, hq⟩ : ∃ q, m - k = q + 1 := ⟨m - k - 1, by have : k + 1 ≤ m := h; omega⟩
    simp [lessN, hq, offO]
theorem ends_off {m k : Nat} (h : m = k) : offO (lessN (some m) k) = true := by subst h; simp [lessN, offO]
section
variable {d : Dk}
theorem w_on (off : Nat) (s : List UInt8) (h : off + s.length ≤ 16777216) (ho : offO d.pw = false) : d.wErr (off : Int) s = 0 ∧ d.write (off : Int) s = d.wrote off s := by
  have hc : Dk.canW (off : Int) s.length = true := (Dk.canW_iff _ _).2 ⟨by omega, by omega⟩
  have e : d.wErr (off : Int) s = 0 := by unfold Dk.wErr Dk.isOff; rw [hc, ho]; simp
  refine ⟨e, ?_⟩
  unfold Dk.write
  rw [if_pos e]; simp
theorem w_off (off : Nat) (s : List UInt8) (h : off + s.length ≤ 16777216) (ho : offO d.pw = true) : d.wErr (off : Int) s = 30 ∧ d.write (off : Int) s = d := by
  have hc : Dk.canW (off : Int) s.length = true := (Dk.canW_iff _ _).2 ⟨by omega, by omega⟩
  have e : d.wErr (off : Int) s = 30 := by unfold Dk.wErr Dk.isOff; rw [hc, ho]; simp
  refine ⟨e, ?_⟩
  unfold Dk.write
  rw [if_neg (by rw [e]; decide)]
theorem s_on (ho : offO d.pw = false) : d.sErr = 0 ∧ d.sync = d.synced := by
  unfold Dk.sErr Dk.sync Dk.isOff
  rw [ho]; simp
theorem s_off (ho : offO d.pw = true) : d.sErr = 30 ∧ d.sync = d := by
  unfold Dk.sErr Dk.sync Dk.isOff
  rw [ho]; simp
end
theorem synced_pw (d : Dk) : d.synced.pw = Dk.less d.pw := rfl
theorem partsOf_off {p : Pc} : ∀ x ∈ partsOf p, p.1 ≤ x.1 := fun _ hx => (partsOf_in hx).1
theorem partsOf_one (off : Nat) (x : UInt8) : partsOf (off, [x]) = [(off, [x])] := by
  rw [partsOf_cons off [x] (by simp)]
  have h : 0 < 64 - off % 64 := by omega
  obtain ⟨k, hk⟩ : ∃ k, 64 - off % 64 = k + 1 := ⟨64 - off % 64 - 1, by omega⟩
  rw [hk]
  simp [partsOf_nil]
/-- what a crash leaves of a journal whose Append was broken off: its records, or, if three calls were done, one more -/
def Torn (j : Jn) (r : List UInt8) (k : Nat) (d : Dk) : Prop := ∀ q : List Int, recs (d.left q) = if k = 3 ∧ surv q 0 = true then j.rs ++ [r] else j.rs
section
variable {j : Jn} {r : List UInt8}
theorem Jn.Idle.now (h : j.Idle) : j.d.now = j.d.syn := by unfold Dk.now; rw [h.ps]; rfl
theorem Jn.Idle.left (h : j.Idle) (q : List Int) : j.d.left q = j.d.syn := by unfold Dk.left; rw [h.ps]; rfl
theorem Jn.Idle.recs (h : j.Idle) (hg : j.d.Good) : recs j.d.syn = j.rs := h.pre.recs (by have := hg.syn; unfold lim at this; omega)
/-- the four stages -/
theorem stages (h : j.Idle) (hg : j.d.Good) (hl : j.tooLong r = false) :
    (∀ k, lasts j.d.pw k → (1 ≤ k → j.d.wErr ((j.e + 1 : Nat) : Int) (body r ++ [0]) = 0 ∧ (j.d1 r).pw = lessN j.d.pw 1 ∧ (j.d1 r).Good ∧ (j.d1 r).calls = j.d.calls + 1 ∧ Torn j r 1 (j.d1 r)) ∧
      (2 ≤ k → (j.d1 r).sErr = 0 ∧ (j.d2 r).pw = lessN j.d.pw 2 ∧ (j.d2 r).Good ∧ (j.d2 r).calls = j.d.calls + 2 ∧ Torn j r 2 (j.d2 r)) ∧
      (3 ≤ k → (j.d2 r).wErr (j.e : Int) [1] = 0 ∧ (j.d3 r).pw = lessN j.d.pw 3 ∧ (j.d3 r).Good ∧ (j.d3 r).calls = j.d.calls + 3 ∧ Torn j r 3 (j.d3 r)) ∧
      (4 ≤ k → (j.d3 r).sErr = 0 ∧ (j.d4 r).pw = lessN j.d.pw 4 ∧ (j.d4 r).Good ∧ (j.d4 r).calls = j.d.calls + 4 ∧ (j.d4 r).ps = [] ∧ Pre (fl (j.rs ++ [r])) (j.d4 r).syn)) := by
  have hl' : j.e + (body r).length + 2 ≤ 16777216 := by unfold Jn.tooLong at hl; simpa using hl
  intro k hk
  have hk' : ∀ i, i ≤ k → lasts j.d.pw i := fun i hi => by
    unfold lasts at hk ⊢
    split <;> simp_all; omega
  have hsl : (body r ++ [(0 : UInt8)]).length = (body r).length + 1 := by simp
  have hlim : lim = 16777216 := rfl
  obtain ⟨t, ht⟩ := h.pre.mid (body r)
  -- what the disk is behind each call
  have A1 : 1 ≤ k → j.d.wErr ((j.e + 1 : Nat) : Int) (body r ++ [0]) = 0 ∧ j.d1 r = j.d.wrote (j.e + 1) (body r ++ [0]) := fun h1 => by
    have := w_on (d := j.d) (j.e + 1) (body r ++ [0]) (by omega) (by have := lasts_off (hk' 1 h1); rwa [lessN_zero] at this)
    exact this
  have B1 : 1 ≤ k → (j.d1 r).pw = lessN j.d.pw 1 ∧ (j.d1 r).Good ∧ (j.d1 r).calls = j.d.calls + 1 := fun h1 => by
    rw [(A1 h1).2]
    refine ⟨?_, Dk.wrote_good hg (by omega), rfl⟩
    have := lessN_less j.d.pw 0
    rw [lessN_zero] at this
    exact this
  have A2 : 2 ≤ k → (j.d1 r).sErr = 0 ∧ j.d2 r = (j.d1 r).synced := fun h2 => s_on (by rw [(B1 (by omega)).1]; exact lasts_off (hk' 2 h2))
  have N2 : 2 ≤ k → (j.d2 r).syn = fl j.rs ++ 0 :: (body r ++ 0 :: t) ∧ (j.d2 r).ps = [] := fun h2 => by
    rw [(A2 h2).2, (A1 (by omega)).2]
    refine ⟨?_, rfl⟩
    show (j.d.wrote (j.e + 1) (body r ++ [0])).now = _
    rw [Dk.wrote_now, h.now]
    exact ht
  have B2 : 2 ≤ k → (j.d2 r).pw = lessN j.d.pw 2 ∧ (j.d2 r).Good ∧ (j.d2 r).calls = j.d.calls + 2 := fun h2 => by
    obtain ⟨b1, b2, b3⟩ := B1 (by omega)
    rw [(A2 h2).2]
    refine ⟨?_, Dk.synced_good b2, by show (j.d1 r).calls + 1 = _; rw [b3]⟩
    show Dk.less (j.d1 r).pw = _
    rw [b1, lessN_less]
  have A3 : 3 ≤ k → (j.d2 r).wErr (j.e : Int) [1] = 0 ∧ j.d3 r = (j.d2 r).wrote j.e [1] := fun h3 => by
    have := w_on (d := j.d2 r) j.e [1] (by simp; omega) (by rw [(B2 (by omega)).1]; exact lasts_off (hk' 3 h3))
    exact this
  have B3 : 3 ≤ k → (j.d3 r).pw = lessN j.d.pw 3 ∧ (j.d3 r).Good ∧ (j.d3 r).calls = j.d.calls + 3 := fun h3 => by
    obtain ⟨b1, b2, b3⟩ := B2 (by omega)
    rw [(A3 h3).2]
    refine ⟨?_, Dk.wrote_good b2 (by simp; omega), by show (j.d2 r).calls + 1 = _; rw [b3]⟩
    show Dk.less (j.d2 r).pw = _
    rw [b1, lessN_less]
  have A4 : 4 ≤ k → (j.d3 r).sErr = 0 ∧ j.d4 r = (j.d3 r).synced := fun h4 => s_on (by rw [(B3 (by omega)).1]; exact lasts_off (hk' 4 h4))
  have N3 : fl j.rs ++ 1 :: (body r ++ 0 :: t) = fl (j.rs ++ [r]) ++ 0 :: t := by rw [fl_snoc]; simp [frame]
  have hrec : ∀ c, Pre (fl j.rs) c → c.length ≤ lim → recs c = j.rs := fun c hp hc => hp.recs (by omega)
  have hrec2 : ∀ c, c = fl (j.rs ++ [r]) ++ 0 :: t → c.length ≤ lim → recs c = j.rs ++ [r] := fun c hp hc => Pre.recs ⟨_, hp, .inr ⟨t, rfl⟩⟩ (by omega)
  have P2 : Pre (fl j.rs) (fl j.rs ++ 0 :: (body r ++ 0 :: t)) := ⟨_, rfl, .inr ⟨_, rfl⟩⟩
  refine ⟨fun h1 => ⟨(A1 h1).1, (B1 h1).1, (B1 h1).2.1, (B1 h1).2.2, fun q => (?_ : recs _ = _).trans (if_neg (by omega)).symm⟩, fun h2 => ⟨(A2 h2).1, (B2 h2).1, (B2 h2).2.1, (B2 h2).2.2, fun q => (?_ : recs _ = _).trans (if_neg (by omega)).symm⟩,
    fun h3 => ⟨(A3 h3).1, (B3 h3).1, (B3 h3).2.1, (B3 h3).2.2, fun q => ?_⟩, fun h4 => ⟨(A4 h4).1, ?_, ?_, ?_, ?_, ?_⟩⟩
  · refine hrec _ ?_ (Dk.left_len (B1 h1).2.1 q).1
    have e : (j.d1 r).left q = lay q 0 j.d.syn (partsOf (j.e + 1, body r ++ [0])) := by
      rw [(A1 h1).2]
      unfold Dk.left Dk.wrote allParts
      rw [h.ps]
      simp
    rw [e]
    exact Pre.lay_ q _ _ _ h.pre fun x hx => partsOf_off x hx
  · refine hrec _ ?_ (Dk.left_len (B2 h2).2.1 q).1
    have e : (j.d2 r).left q = (j.d2 r).syn := by unfold Dk.left; rw [(N2 h2).2]; rfl
    rw [e, (N2 h2).1]
    exact P2
  · have hn := N2 (by omega)
    have e : (j.d3 r).left q = if surv q 0 then fl j.rs ++ 1 :: (body r ++ 0 :: t) else fl j.rs ++ 0 :: (body r ++ 0 :: t) := by
      rw [(A3 h3).2]
      unfold Dk.left Dk.wrote allParts
      rw [hn.2, hn.1]
      simp only [List.nil_append, List.flatMap_cons, List.flatMap_nil, List.append_nil, partsOf_one]
      rw [lay, lay]
      split
      · exact put_one 1 0 _
      · rfl
    have hll := (Dk.left_len (B3 h3).2.1 q).1
    rw [e] at hll ⊢
    cases hs : surv q 0 with
    | true =>
      rw [hs, if_pos rfl] at hll
      rw [if_pos rfl, if_pos ⟨rfl, rfl⟩]
      exact hrec2 _ N3 hll
    | false =>
      rw [hs, if_neg (by decide)] at hll
      rw [if_neg (by decide), if_neg (by decide)]
      exact hrec _ P2 hll
  · obtain ⟨b1, b2, b3⟩ := B3 (by omega)
    rw [(A4 h4).2, synced_pw, b1, lessN_less]
  · rw [(A4 h4).2]; exact Dk.synced_good (B3 (by omega)).2.1
  · rw [(A4 h4).2]
    show (j.d3 r).calls + 1 = _
    rw [(B3 (by omega)).2.2]
  · rw [(A4 h4).2]; rfl
  · have hn := N2 (by omega)
    rw [(A4 h4).2, (A3 (by omega)).2]
    show Pre _ ((j.d2 r).wrote j.e [1]).now
    rw [Dk.wrote_now]
    have e : (j.d2 r).now = (j.d2 r).syn := by unfold Dk.now; rw [hn.2]; rfl
    rw [e, hn.1]
    refine ⟨0 :: t, ?_, .inr ⟨t, rfl⟩⟩
    rw [← N3]
    exact put_one 1 0 _
/-- Append, where the power lasts -/
theorem app_on (h : j.Idle) (hg : j.d.Good) (hl : j.tooLong r = false) (hp : lasts j.d.pw 4) :
    j.app r = (0, ⟨j.d4 r, j.rs ++ [r], false⟩) ∧ (Jn.mk (j.d4 r) (j.rs ++ [r]) false).Idle ∧ (j.d4 r).Good ∧ (j.d4 r).pw = lessN j.d.pw 4 ∧ (j.d4 r).calls = j.d.calls + 4 := by
  obtain ⟨s1, s2, s3, s4⟩ := stages h hg hl 4 hp
  have s1 := s1 (by omega)
  have s2 := s2 (by omega)
  have s3 := s3 (by omega)
  have s4 := s4 (by omega)
  refine ⟨?_, ⟨rfl, s4.2.2.2.2.1, s4.2.2.2.2.2⟩, s4.2.2.1, s4.2.1, s4.2.2.2.1⟩
  unfold Jn.app
  rw [h.ok, hl, s1.1, s2.1, s3.1, s4.1]
  simp
/-- Append, where the power goes off -/
theorem app_off (h : j.Idle) (hg : j.d.Good) (hl : j.tooLong r = false) {m : Nat} (hp : j.d.pw = some m) (hm : m < 4) :
    ∃ d', j.app r = (30, ⟨d', j.rs, true⟩) ∧ d'.Good ∧ Torn j r m d' ∧ d'.calls = j.d.calls + m := by
  have hl' : j.e + (body r).length + 2 ≤ 16777216 := by unfold Jn.tooLong at hl; simpa using hl
  have hsl : (body r ++ [(0 : UInt8)]).length = (body r).length + 1 := by simp
  obtain ⟨s1, s2, s3, s4⟩ := stages h hg hl m (by rw [hp]; exact Nat.le_refl _)
  rcases m with _ | _ | _ | _ | m
  · have hw := w_off (d := j.d) (j.e + 1) (body r ++ [0]) (by omega) (by rw [hp]; rfl)
    refine ⟨j.d, ?_, hg, fun q => by rw [if_neg (by omega), h.left q]; exact h.recs hg, rfl⟩
    unfold Jn.app
    rw [h.ok, hl, hw.1, show j.d1 r = j.d from hw.2]
    simp
  · have s1 := s1 (by omega)
    have ho := s_off (d := j.d1 r) (by rw [s1.2.1, hp]; rfl)
    refine ⟨j.d1 r, ?_, s1.2.2.1, s1.2.2.2.2, s1.2.2.2.1⟩
    unfold Jn.app
    rw [h.ok, hl, s1.1, ho.1, show j.d2 r = j.d1 r from ho.2]
    simp
  · have s1 := s1 (by omega)
    have s2 := s2 (by omega)
    have hw := w_off (d := j.d2 r) j.e [1] (by simp; omega) (by rw [s2.2.1, hp]; rfl)
    refine ⟨j.d2 r, ?_, s2.2.2.1, s2.2.2.2.2, s2.2.2.2.1⟩
    unfold Jn.app
    rw [h.ok, hl, s1.1, s2.1, hw.1, show j.d3 r = j.d2 r from hw.2]
    simp
  · have s1 := s1 (by omega)
    have s2 := s2 (by omega)
    have s3 := s3 (by omega)
    have ho := s_off (d := j.d3 r) (by rw [s3.2.1, hp]; rfl)
    refine ⟨j.d3 r, ?_, s3.2.2.1, s3.2.2.2.2, s3.2.2.2.1⟩
    unfold Jn.app
    rw [h.ok, hl, s1.1, s2.1, s3.1, ho.1, show j.d4 r = j.d3 r from ho.2]
    simp
  · omega
end
/-- Open: what settle does -/
def openD (d : Dk) : Int × Dk :=
  match d.now.drop (fl (recs d.now)).length with
  | [] => (d.sErr, d.sync)
  | b :: _ => if b = 0 then (d.sErr, d.sync)
    else if d.wErr ((fl (recs d.now)).length : Int) [0] ≠ 0 then (d.wErr ((fl (recs d.now)).length : Int) [0], d.write ((fl (recs d.now)).length : Int) [0])
    else ((d.write ((fl (recs d.now)).length : Int) [0]).sErr, (d.write ((fl (recs d.now)).length : Int) [0]).sync)
theorem open_on {d : Dk} (hg : d.Good) (hp : d.pw = none) :
    (openD d).1 = 0 ∧ (Jn.mk (openD d).2 (recs d.now) false).Idle ∧ (openD d).2.Good ∧ (openD d).2.pw = none ∧ (openD d).2.calls ≤ d.calls + 2 ∧
      (Pre (fl (recs d.now)) d.now → (openD d).2.calls = d.calls + 1 ∧ (openD d).2.now = d.now) := by
  have hnl := hg.now
  obtain ⟨rest, hr, hs⟩ := recs_of d.now
  have hlim : lim = 16777216 := rfl
  generalize hR : recs d.now = R at hr ⊢
  have hrl := congrArg List.length hr
  rw [List.length_append] at hrl
  have hd : d.now.drop (fl R).length = rest := by rw [hr, List.drop_left' rfl]
  have hso := s_on (d := d) (by rw [hp]; rfl)
  unfold openD
  rw [hR, hd]
  match rest, hr, hrl with
  | [], hr, hrl =>
    dsimp only
    rw [hso.1, hso.2]
    refine ⟨rfl, ⟨rfl, rfl, ⟨[], hr, .inl rfl⟩⟩, Dk.synced_good hg, by show Dk.less d.pw = none; rw [hp]; rfl, by show d.calls + 1 ≤ _; omega, fun _ => ⟨rfl, rfl⟩⟩
  | b :: t, hr, hrl =>
    dsimp only
    by_cases hb : b = 0
    · subst hb
      rw [if_pos rfl, hso.1, hso.2]
      refine ⟨rfl, ⟨rfl, rfl, ⟨0 :: t, hr, .inr ⟨t, rfl⟩⟩⟩, Dk.synced_good hg, by show Dk.less d.pw = none; rw [hp]; rfl, by show d.calls + 1 ≤ _; omega, fun _ => ⟨rfl, rfl⟩⟩
    · simp at hrl
      have hw := w_on (d := d) (fl R).length [0] (by simp; omega) (by rw [hp]; rfl)
      have hp2 : (d.wrote (fl R).length [0]).pw = none := by show Dk.less d.pw = none; rw [hp]; rfl
      have hs2 := s_on (d := d.wrote (fl R).length [0]) (by rw [hp2]; rfl)
      rw [if_neg hb, if_neg (by rw [hw.1]; simp), hw.2, hs2.1, hs2.2]
      refine ⟨rfl, ⟨rfl, rfl, ?_⟩, Dk.synced_good (Dk.wrote_good hg (by simp; omega)), by show Dk.less _ = none; rw [hp2]; rfl, by show d.calls + 1 + 1 ≤ _; omega, fun hpre => ?_⟩
      · show Pre _ (d.wrote (fl R).length [0]).now
        rw [Dk.wrote_now, hr]
        exact ⟨0 :: t, put_one 0 b t, .inr ⟨t, rfl⟩⟩
      · exfalso
        obtain ⟨r2, h2, h3⟩ := hpre
        rw [hr] at h2
        have := List.append_cancel_left h2
        subst this
        rcases h3 with h3 | ⟨t', h3⟩
        · cases h3
        · injection h3 with h3; exact hb h3
end Go.Proofs.Ythhpnlobhffimaa
