/-
For every string, integer and change, the law CodecFlips returns true and leaves its arguments as they were: a change of four consecutive bytes that is not 0 changes the checksum. No condition.
-/
import Derived.Deep.Cut
import Derived.RegionTactic
import Derived.Laws.BitsAllLaws
import Derived.Test.YtdbhmoadngclgaaUnpacks
namespace Go.Proofs.Ytdbhmoadngclgaa
open Go.ChangeShapes Go.WideShapes Go.ChangeAt Go.RowKit

theorem xor_cancel_r {a b c : Nat} (h : a ^^^ c = b ^^^ c) : a = b := by
  have := congrArg (· ^^^ c) h
  simpa [Nat.xor_assoc] using this
theorem xor_cancel_l {a b c : Nat} (h : c ^^^ a = c ^^^ b) : a = b := by
  rw [Nat.xor_comm c a, Nat.xor_comm c b] at h
  exact xor_cancel_r h
theorem crcBit_inj {a b : Nat} (ha : a < 4294967296) (hb : b < 4294967296) (h : crcBit a = crcBit b) : a = b := by
  have hP : (3988292384 : Nat).testBit 31 = true := by decide
  have top : ∀ x : Nat, x < 4294967296 → ((x / 2) ^^^ 3988292384).testBit 31 = true := fun x hx => by
    rw [Nat.testBit_xor, hP, Nat.testBit_lt_two_pow (by omega)]; rfl
  have low : ∀ x : Nat, x < 4294967296 → (x / 2).testBit 31 = false := fun x hx => Nat.testBit_lt_two_pow (by omega)
  unfold crcBit at h
  by_cases h1 : a % 2 = 1 <;> by_cases h2 : b % 2 = 1
  · rw [if_pos h1, if_pos h2] at h
    have := xor_cancel_r h
    omega
  · rw [if_pos h1, if_neg h2] at h
    have h3 := top a ha
    rw [h, low b hb] at h3
    cases h3
  · rw [if_neg h1, if_pos h2] at h
    have h3 := top b hb
    rw [← h, low a ha] at h3
    cases h3
  · rw [if_neg h1, if_neg h2] at h
    omega
theorem crcBits_inj {a b : Nat} (ha : a < 4294967296) (hb : b < 4294967296) : ∀ k, crcBits k a = crcBits k b → a = b
  | 0, h => h
  | k + 1, h => crcBits_inj ha hb k (crcBit_inj (crcBits_lt ha k) (crcBits_lt hb k) h)
theorem fold_inj : ∀ (t : List UInt8) {a b : Nat}, a < 4294967296 → b < 4294967296 → t.foldl crcByte a = t.foldl crcByte b → a = b
  | [], _, _, _, _, h => h
  | c :: t, a, b, ha, hb, h => by
    have h1 := fold_inj t (crcByte_lt ha c) (crcByte_lt hb c) h
    have hc := c.toNat_lt
    have h2 := crcBits_inj (Nat.xor_lt_two_pow (n := 32) (by omega) (by omega)) (Nat.xor_lt_two_pow (n := 32) (by omega) (by omega)) 8 h1
    exact xor_cancel_r h2
theorem crcBit_shift (x y : Nat) : crcBit (x ^^^ (y <<< 1)) = crcBit x ^^^ y := by
  have h1 : (x ^^^ (y <<< 1)) / 2 = x / 2 ^^^ y := by
    rw [Nat.xor_div_two, Nat.shiftLeft_eq]
    congr 1
    omega
  have h2 : (x ^^^ (y <<< 1)) % 2 = x % 2 := by
    have h3 := Nat.xor_mod_two_pow (a := x) (b := y <<< 1) (n := 1)
    have h4 : (y <<< 1) % 2 = 0 := by rw [Nat.shiftLeft_eq]; omega
    rw [show (2 : Nat) ^ 1 = 2 from rfl, h4, Nat.xor_zero] at h3
    exact h3
  unfold crcBit
  rw [h1, h2]
  split
  · rw [Nat.xor_assoc, Nat.xor_comm y, ← Nat.xor_assoc]
  · rfl
theorem crcBits_shift : ∀ (k x y : Nat), crcBits k (x ^^^ (y <<< k)) = crcBits k x ^^^ y
  | 0, x, y => by simp [crcBits]
  | k + 1, x, y => by
    have h := crcBits_shift k x (y <<< 1)
    rw [← Nat.shiftLeft_add, Nat.add_comm 1 k] at h
    rw [crcBits, h, crcBit_shift, crcBits]
theorem crcBits_add : ∀ (a b r : Nat), crcBits a (crcBits b r) = crcBits (a + b) r
  | 0, b, r => by simp [crcBits]
  | a + 1, b, r => by rw [crcBits, crcBits_add a b r, Nat.add_right_comm, crcBits]
/-- four bytes as one word -/
def word (a b c d : Nat) : Nat := a ^^^ (b <<< 8) ^^^ (c <<< 16) ^^^ (d <<< 24)
theorem four_bytes (r : Nat) (a b c d : UInt8) : crcByte (crcByte (crcByte (crcByte r a) b) c) d = crcBits 32 (r ^^^ word a.toNat b.toNat c.toNat d.toNat) := by
  unfold crcByte
  rw [← crcBits_shift 8 (r ^^^ a.toNat) b.toNat, crcBits_add, ← crcBits_shift 16, crcBits_add, ← crcBits_shift 24, crcBits_add]
  unfold word
  simp only [Nat.xor_assoc]
theorem word_lt {a b c d : Nat} (ha : a < 256) (hb : b < 256) (hc : c < 256) (hd : d < 256) : word a b c d < 4294967296 := by
  unfold word
  simp only [Nat.shiftLeft_eq]
  refine Nat.xor_lt_two_pow (n := 32) (Nat.xor_lt_two_pow (n := 32) (Nat.xor_lt_two_pow (n := 32) ?_ ?_) ?_) ?_ <;> omega
theorem sh_xor (x y k : Nat) : (x ^^^ y) <<< k = x <<< k ^^^ y <<< k := Nat.shiftLeft_xor_distrib
theorem word_xor (a b c d e f g h : Nat) : word (a ^^^ e) (b ^^^ f) (c ^^^ g) (d ^^^ h) = word a b c d ^^^ word e f g h := by
  unfold word
  rw [sh_xor b f 8, sh_xor c g 16, sh_xor d h 24]
  generalize b <<< 8 = b8
  generalize f <<< 8 = f8
  generalize c <<< 16 = c8
  generalize g <<< 16 = g8
  generalize d <<< 24 = d8
  generalize h <<< 24 = h8
  ac_rfl
theorem zero_parts {a y : Nat} (ha : a < 256) (h : a ^^^ (y <<< 8) = 0) : a = 0 ∧ y = 0 := by
  have h1 : a = y <<< 8 := by
    have := congrArg (· ^^^ (y <<< 8)) h
    simpa [Nat.xor_assoc] using this
  rw [Nat.shiftLeft_eq] at h1
  omega
theorem word_zero {a b c d : Nat} (ha : a < 256) (hb : b < 256) (hc : c < 256) (h : word a b c d = 0) : a = 0 ∧ b = 0 ∧ c = 0 ∧ d = 0 := by
  have e : word a b c d = a ^^^ ((b ^^^ ((c ^^^ (d <<< 8)) <<< 8)) <<< 8) := by
    unfold word
    rw [sh_xor b _ 8, sh_xor c _ 8, sh_xor (c <<< 8) _ 8, ← Nat.shiftLeft_add, ← Nat.shiftLeft_add, ← Nat.shiftLeft_add]
    simp only [Nat.xor_assoc]
  rw [e] at h
  obtain ⟨h1, h2⟩ := zero_parts ha h
  obtain ⟨h3, h4⟩ := zero_parts hb h2
  obtain ⟨h5, h6⟩ := zero_parts hc h4
  exact ⟨h1, h3, h5, h6⟩
/-- Four consecutive bytes that differ give another register. -/
theorem four_differ (p t : List UInt8) (a b c d a' b' c' d' : UInt8) (h : word a.toNat b.toNat c.toNat d.toNat ≠ word a'.toNat b'.toNat c'.toNat d'.toNat) :
    crcReg (p ++ (a :: b :: c :: d :: t)) ≠ crcReg (p ++ (a' :: b' :: c' :: d' :: t)) := by
  intro e
  unfold crcReg at e
  rw [List.foldl_append, List.foldl_append] at e
  have hr : p.foldl crcByte 4294967295 < 4294967296 := by
    have : ∀ (l : List UInt8) (r : Nat), r < 4294967296 → l.foldl crcByte r < 4294967296 := by
      intro l
      induction l with
      | nil => intro r h; exact h
      | cons b l ih => intro r h; exact ih _ (crcByte_lt h b)
    exact this p _ (by omega)
  generalize p.foldl crcByte 4294967295 = r at *
  simp only [List.foldl_cons] at e
  have h1 := fold_inj t (crcByte_lt (crcByte_lt (crcByte_lt (crcByte_lt hr _) _) _) _) (crcByte_lt (crcByte_lt (crcByte_lt (crcByte_lt hr _) _) _) _) e
  rw [four_bytes, four_bytes] at h1
  have hw : ∀ x y z u : UInt8, word x.toNat y.toNat z.toNat u.toNat < 4294967296 := fun x y z u => word_lt x.toNat_lt y.toNat_lt z.toNat_lt u.toNat_lt
  have h2 := crcBits_inj (Nat.xor_lt_two_pow (n := 32) (by omega) (hw _ _ _ _)) (Nat.xor_lt_two_pow (n := 32) (by omega) (hw _ _ _ _)) 32 h1
  exact h (xor_cancel_l h2)
/-- A change that is not 0 changes the word. -/
theorem word_change {n : Nat} (hn : n < 4294967296) (h0 : n ≠ 0) (a b c d : Nat) :
    word a b c d ≠ word (a ^^^ (n % 256)) (b ^^^ (n / 256 % 256)) (c ^^^ (n / 65536 % 256)) (d ^^^ (n / 16777216 % 256)) := by
  rw [word_xor]
  intro e
  have h1 : word (n % 256) (n / 256 % 256) (n / 65536 % 256) (n / 16777216 % 256) = 0 := by
    have : word a b c d ^^^ 0 = word a b c d ^^^ word (n % 256) (n / 256 % 256) (n / 65536 % 256) (n / 16777216 % 256) := by rw [Nat.xor_zero]; exact e
    exact (xor_cancel_l this).symm
  obtain ⟨h2, h3, h4, h5⟩ := word_zero (by omega) (by omega) (by omega) h1
  omega

/-- Block g holds the bytes l, none of them frozen. -/
def RowB (w : World) (g : Nat) (l : List UInt8) : Prop := ∀ (j : Nat) (b : UInt8), l[j]? = some b → w.cell? ⟨g, j, none⟩ = some (.int .u8 (b.toNat : Int)) ∧ w.frozen? ⟨g, j, none⟩ = false
theorem RowB.new (w : World) (S : ByteArray) : RowB (Lib.bytesWorld w 5 S) w.heap.size S.data.toList := fun j b hj => by
  have hlt : j < S.size := by
    have := (List.getElem?_eq_some_iff.1 hj).1
    simpa using this
  refine ⟨?_, bytes_free w S j hlt⟩
  rw [Lib.bytesWorld_cell w 5 S j hlt, List.getD, hj]
  rfl
theorem RowB.set_ {w : World} {g : Nat} {l : List UInt8} (h : RowB w g l) {j : Nat} (hj : j < l.length) (b : UInt8) : RowB (w.setCell ⟨g, j, none⟩ (.int .u8 (b.toNat : Int))) g (l.set j b) := fun i x hi => by
  have hold := h j _ (List.getElem?_eq_getElem hj)
  by_cases hij : i = j
  · subst hij
    rw [List.getElem?_set_self hj] at hi
    have e : b = x := Option.some.inj hi
    subst e
    exact ⟨World.cell?_setCell_same' _ _ _ (by rw [hold.1]; rfl), by rw [World.frozen?_setCell]; exact hold.2⟩
  · rw [List.getElem?_set_ne (fun e => hij e.symm)] at hi
    have h2 := h i x hi
    exact ⟨(World.cell?_setCell_other _ _ _ _ (by intro e; injection e with _ e _; omega)).trans h2.1, by rw [World.frozen?_setCell]; exact h2.2⟩
theorem RowB.back {w : World} {g : Nat} {l : List UInt8} (h : RowB w g l) {n : Nat} (hn : l.length = n) (cap : Nat) : (convert 27 9 (.slice (some ⟨g, 0, none⟩) n cap)).run Try.prog w = .ok (.string (str l)) w := by
  subst hn
  refine run_convert_bytes_back w 27 9 5 ⟨g, 0, none⟩ cap l Try.underlying27 Try.underlying5 Try.underlying9 fun j hj => ?_
  have ha : (⟨g, 0, none⟩ : Addr).add j = ⟨g, j, none⟩ := by rw [Addr.add_lit, Nat.zero_add]
  rw [ha]
  exact (h j _ (List.getElem?_eq_getElem hj)).1

/-- The list with the first j of the four bytes changed. -/
def fl (p t : List UInt8) (a b c d a' b' c' d' : UInt8) : Nat → List UInt8
  | 0 => p ++ (a :: b :: c :: d :: t)
  | 1 => p ++ (a' :: b :: c :: d :: t)
  | 2 => p ++ (a' :: b' :: c :: d :: t)
  | 3 => p ++ (a' :: b' :: c' :: d :: t)
  | _ => p ++ (a' :: b' :: c' :: d' :: t)
theorem fl_len (p t : List UInt8) (a b c d a' b' c' d' : UInt8) (j : Nat) : (fl p t a b c d a' b' c' d' j).length = p.length + 4 + t.length := by
  unfold fl
  split <;> simp <;> omega

section
variable (p t : List UInt8) (a b c d a' b' c' d' : UInt8)
theorem fl_at0 : (fl p t a b c d a' b' c' d' 0)[p.length]? = some a := by simp [fl]
theorem fl_at1 : (fl p t a b c d a' b' c' d' 1)[p.length + 1]? = some b := by simp [fl]
theorem fl_at2 : (fl p t a b c d a' b' c' d' 2)[p.length + 2]? = some c := by simp [fl]
theorem fl_at3 : (fl p t a b c d a' b' c' d' 3)[p.length + 3]? = some d := by simp [fl]
theorem fl_set0 : (fl p t a b c d a' b' c' d' 0).set p.length a' = fl p t a b c d a' b' c' d' 1 := by simp [fl]
theorem fl_set1 : (fl p t a b c d a' b' c' d' 1).set (p.length + 1) b' = fl p t a b c d a' b' c' d' 2 := by simp [fl]
theorem fl_set2 : (fl p t a b c d a' b' c' d' 2).set (p.length + 2) c' = fl p t a b c d a' b' c' d' 3 := by simp [fl]
theorem fl_set3 : (fl p t a b c d a' b' c' d' 3).set (p.length + 3) d' = fl p t a b c d a' b' c' d' 4 := by simp [fl]
end
theorem xor_byte {x y m : Nat} (hx : x < 256) (hm : m < 256) (h : y = x ^^^ m) : bits .xor .u8 (x : Int) (m : Int) = (y : Int) := by
  rw [h]; exact u8_xor_nat x m hx hm

theorem four_split : ∀ (k : Nat) (l : List UInt8), k + 4 ≤ l.length → ∃ p t a b c d, p.length = k ∧ l = p ++ (a :: b :: c :: d :: t)
  | 0, a :: b :: c :: d :: t, _ => ⟨[], t, a, b, c, d, rfl, rfl⟩
  | 0, [], h => by simp at h
  | 0, [_], h => by simp at h
  | 0, [_, _], h => by simp at h
  | 0, [_, _, _], h => by simp at h
  | k + 1, [], h => by simp at h
  | k + 1, x :: l, h => by
    obtain ⟨p, t, a, b, c, d, h1, h2⟩ := four_split k l (by simp at h; omega)
    exact ⟨x :: p, t, a, b, c, d, by simp [h1], by rw [h2]; rfl⟩

namespace flips

set_option maxRecDepth 100000 in
set_option maxHeartbeats 2000000 in
theorem walk (s : ByteArray) (pos : Int) (n : Nat) (w : World) (hs : s.size ≤ maxLen) (hpos : -9223372036854775808 ≤ pos ∧ pos ≤ 9223372036854775807) (hn : n < 4294967296) :
    Calls Try.prog 4 #[.string s, .int .i64 pos, .int .u32 (n : Int)] w fun e w' => e = .returned (.bool true) ∧ Below w.heap.size w w' := by
  have hs' := hs
  unfold maxLen at hs'
  have hfour : (ByteArray.mk #[102, 111, 117, 114]).size = 4 := rfl
  have hf4 : (ByteArray.mk #[102, 111, 117, 114]).size ≤ 4 := Nat.le_refl _
  have HF := Lib.hid hfour
  clear hfour
  by_cases hz : n = 0
  · by_cases h3 : s.size ≤ 300
    all_goals
      go_enter Try.func4, Try.ntmps4
      go_wp2_with (first
        | (go_at_call 13; refine (sane_any _).mono ?_; rintro e w1 ⟨rfl, hB⟩))
      go_ret
      exact ⟨rfl, hB⟩
  · obtain ⟨Xs, hXs⟩ : ∃ Xs : Int, (if (300 : Int) < (s.size : Int) then (300 : Int) else (s.size : Int)) = Xs := ⟨_, rfl⟩
    have hX0 : 0 ≤ Xs ∧ Xs ≤ (s.size : Int) ∧ Xs ≤ 300 := by rw [← hXs]; split <;> omega
    obtain ⟨hX1, hX2, hX3⟩ := hX0
    have hn0 : ((n : Int) == 0) = false := by rw [beq_eq_false_iff_ne]; omega
    go_enter Try.func4, Try.ntmps4
    go_upto_region 5 with (first
      | (go_at_call 13; refine (sane_any _).mono ?_; rintro e w1 ⟨rfl, hB⟩))
    obtain ⟨S, HS⟩ : ∃ S : ByteArray, Hid (s.extract 0 Xs.toNat ++ (ByteArray.mk #[102, 111, 117, 114]) = S) := ⟨_, Lib.hid rfl⟩
    rw [HS.out]
    have hS4 : 4 ≤ S.size := by rw [← HS.out, ByteArray.size_append, HF.out]; omega
    have hSz : S.size ≤ 304 := by rw [← HS.out, ByteArray.size_append, HF.out]; simp; omega
    have hm0 := Int.emod_nonneg pos (show (S.size : Int) - 3 ≠ 0 by omega)
    have hm1 := Int.emod_lt_of_pos pos (show (0 : Int) < (S.size : Int) - 3 by omega)
    obtain ⟨k, HK⟩ : ∃ k : Nat, Hid (pos % ((S.size : Int) - 3) = (k : Int)) := ⟨(pos % ((S.size : Int) - 3)).toNat, Lib.hid (by omega)⟩
    have hk : k + 4 ≤ S.size := by have := HK.out; omega
    clear hm0 hm1
    have hmod := fun W => mod_any pos ((S.size : Int) - 3) W hpos.1 hpos.2 (by omega) (by omega)
    rw [HK.out] at hmod
    have hconv := Lib.run_convert_string_bytes (P := Try.prog) w1 9 27 5 S Try.underlying9 Try.underlying27 Try.underlying5
    obtain ⟨p, t, a, b, c, d, hp, hl⟩ := four_split k S.data.toList (by simpa using hk)
    have hrow := RowB.new w1 S
    have hBb := below_bytes hB hB.size S
    go_wp2_with (first
      | (go_at_call 16; ((with_reducible refine (hmod _).mono ?_); rintro e w' ⟨rfl, rfl⟩)))
    obtain ⟨a', ha'⟩ : ∃ a' : UInt8, a'.toNat = a.toNat ^^^ (n % 256) := ⟨a ^^^ UInt8.ofNat (n % 256), by simp⟩
    obtain ⟨b', hb'⟩ : ∃ b' : UInt8, b'.toNat = b.toNat ^^^ (n / 256 % 256) := ⟨b ^^^ UInt8.ofNat (n / 256 % 256), by simp⟩
    obtain ⟨c', hc'⟩ : ∃ c' : UInt8, c'.toNat = c.toNat ^^^ (n / 65536 % 256) := ⟨c ^^^ UInt8.ofNat (n / 65536 % 256), by simp⟩
    obtain ⟨d', hd'⟩ : ∃ d' : UInt8, d'.toNat = d.toNat ^^^ (n / 16777216 % 256) := ⟨d ^^^ UInt8.ofNat (n / 16777216 % 256), by simp⟩
    have HA := Lib.hid ha'
    have HB := Lib.hid hb'
    have HC := Lib.hid hc'
    have HD := Lib.hid hd'
    have HP := Lib.hid hp
    have HL := Lib.hid hl
    obtain ⟨g, HG⟩ : ∃ g, Hid (w1.heap.size = g) := ⟨_, Lib.hid rfl⟩
    have hgs : w.heap.size ≤ g := by rw [← HG.out]; exact hB.size
    rw [HG.out] at hrow ⊢
    rw [HL.out] at hrow
    clear ha' hb' hc' hd' hp hl hconv
    obtain ⟨W0, hW0⟩ : ∃ W0, Lib.bytesWorld w1 5 S = W0 := ⟨_, rfl⟩
    rw [hW0] at hrow hBb ⊢
    clear hW0
    go_loopw [11] (fun i wr => ∃ j : Nat, j ≤ 4 ∧ i = .int .i64 j ∧ RowB wr g (fl p t a b c d a' b' c' d' j) ∧ Below w.heap.size w wr) (fun i _ => 4 - (intOf i).toNat)
    case atStart => exact ⟨0, by omega, rfl, hrow, hBb⟩
    case round =>
      obtain ⟨j, hj, rfl, hr, hBr⟩ := hrel
      by_cases hj4 : j < 4
      · have hj0 : j = 0 ∨ j = 1 ∨ j = 2 ∨ j = 3 := by omega
        rcases hj0 with rfl | rfl | rfl | rfl
        · obtain ⟨hcell, hfree⟩ := hr k a (by rw [← HP.out]; exact fl_at0 p t a b c d a' b' c' d')
          have hx := xor_byte (x := a.toNat) (m := n % 256) a.toNat_lt (Nat.mod_lt _ (by omega)) HA.out
          rw [show ((n % 256 : Nat) : Int) = (n : Int) % 256 from by omega] at hx
          have HX := Lib.hid hx
          clear hx
          go_wp2_with fail
          go_region
          go_wp2
          go_roundw
          case rel =>
            refine ⟨0 + 1, by omega, by go_num, ?_, (hBr.setCell (p := ⟨g, k, none⟩) hgs _).drew⟩
            rw [HX.out, ← fl_set0 p t a b c d a' b' c' d', HP.out]
            exact hr.set_ (by rw [fl_len, HP.out]; omega) a'
          case measure => simp [intOf]
        · obtain ⟨hcell, hfree⟩ := hr (k + 1) b (by rw [← HP.out]; exact fl_at1 p t a b c d a' b' c' d')
          have hx := xor_byte (x := b.toNat) (m := n / 256 % 256) b.toNat_lt (Nat.mod_lt _ (by omega)) HB.out
          rw [show ((n / 256 % 256 : Nat) : Int) = (n : Int) / 256 % 256 from by omega] at hx
          have HX := Lib.hid hx
          clear hx
          go_wp2_with fail
          go_region
          go_wp2
          go_roundw
          case rel =>
            refine ⟨1 + 1, by omega, by go_num, ?_, (hBr.setCell (p := ⟨g, (k + 1), none⟩) hgs _).drew⟩
            rw [HX.out, ← fl_set1 p t a b c d a' b' c' d', HP.out]
            exact hr.set_ (by rw [fl_len, HP.out]; omega) b'
          case measure => simp [intOf]
        · obtain ⟨hcell, hfree⟩ := hr (k + 2) c (by rw [← HP.out]; exact fl_at2 p t a b c d a' b' c' d')
          have hx := xor_byte (x := c.toNat) (m := n / 65536 % 256) c.toNat_lt (Nat.mod_lt _ (by omega)) HC.out
          rw [show ((n / 65536 % 256 : Nat) : Int) = (n : Int) / 65536 % 256 from by omega] at hx
          have HX := Lib.hid hx
          clear hx
          go_wp2_with fail
          go_region
          go_wp2
          go_roundw
          case rel =>
            refine ⟨2 + 1, by omega, by go_num, ?_, (hBr.setCell (p := ⟨g, (k + 2), none⟩) hgs _).drew⟩
            rw [HX.out, ← fl_set2 p t a b c d a' b' c' d', HP.out]
            exact hr.set_ (by rw [fl_len, HP.out]; omega) c'
          case measure => simp [intOf]
        · obtain ⟨hcell, hfree⟩ := hr (k + 3) d (by rw [← HP.out]; exact fl_at3 p t a b c d a' b' c' d')
          have hx := xor_byte (x := d.toNat) (m := n / 16777216 % 256) d.toNat_lt (Nat.mod_lt _ (by omega)) HD.out
          rw [show ((n / 16777216 % 256 : Nat) : Int) = (n : Int) / 16777216 from by omega] at hx
          have HX := Lib.hid hx
          clear hx
          go_wp2_with fail
          go_region
          go_wp2
          go_roundw
          case rel =>
            refine ⟨3 + 1, by omega, by go_num, ?_, (hBr.setCell (p := ⟨g, (k + 3), none⟩) hgs _).drew⟩
            rw [HX.out, ← fl_set3 p t a b c d a' b' c' d', HP.out]
            exact hr.set_ (by rw [fl_len, HP.out]; omega) d'
          case measure => simp [intOf]
      · obtain rfl : j = 4 := by omega
        have hlen : (fl p t a b c d a' b' c' d' 4).length = S.size := by
          have h1 := fl_len p t a b c d a' b' c' d' 0
          have h2 := fl_len p t a b c d a' b' c' d' 4
          have h3 := congrArg List.length HL.out
          have h4 : S.data.toList.length = S.size := by simp
          rw [h4] at h3
          have h5 : (p ++ a :: b :: c :: d :: t).length = (fl p t a b c d a' b' c' d' 0).length := rfl
          omega
        have hback := fun cap => hr.back hlen cap
        obtain ⟨T, HT⟩ : ∃ T, Hid (str (fl p t a b c d a' b' c' d' 4) = T) := ⟨_, Lib.hid rfl⟩
        rw [HT.out] at hback
        have hTz : T.size ≤ 304 := by rw [← HT.out, str_size]; omega
        have hne : crcReg T.data.toList ≠ crcReg S.data.toList := by
          rw [← HT.out, HL.out, str_data]
          refine (four_differ p t a b c d a' b' c' d' ?_).symm
          rw [HA.out, HB.out, HC.out, HD.out]
          exact word_change hn hz _ _ _ _
        have hl1 := crcReg_lt T.data.toList
        have hl2 := crcReg_lt S.data.toList
        have hne2 : ¬ ((crc T.data.toList : Int) = (crc S.data.toList : Int)) := by unfold crc; omega
        have hne3 : ((crc T.data.toList : Int) == (crc S.data.toList : Int)) = false := by rw [beq_eq_false_iff_ne]; exact hne2
        have hne4 : ((crc T.data.toList : Int) != (crc S.data.toList : Int)) = true := by rw [bne_iff_ne]; exact hne2
        have HNE := Lib.hid hne
        have HLEN := Lib.hid hlen
        clear hne hlen hl1 hl2
        go_wp2_with (first
          | (go_at_call 14; ((with_reducible refine (sum_any T _ (by unfold maxLen; omega)).mono ?_); rintro e w3 ⟨rfl, rfl⟩))
          | (go_at_call 14; ((with_reducible refine (sum_any S _ (by unfold maxLen; omega)).mono ?_); rintro e w3 ⟨rfl, rfl⟩)))
        go_ret
        exact ⟨rfl, hBr⟩

theorem contract (H : Type) (enc : TypeId × Value → H) (W : World) (base : Nat) (args : Array Value) (ds gs : List (DataW H)) (before : List MemPlace)
    (hval : ∀ (j : Nat) t v, Try.f4.params[j]? = some t → args[j]? = some v → Value.okWide Try.prog W .any base t v)
    (hW : DataW.Whole enc Try.prog Try.f4.params.toList Rows.codecFlipsSpec.vars false W args.toList ds gs before) :
    Calls Try.prog 4 args W fun e W' => ∃ v, e = .returned v ∧ Rows.codecFlipsSpec.post enc Try.prog Try.f4 false true false false W args v W' := by
  have hW' := hW
  obtain ⟨p, q, hA0, hV, rfl, hfz, hnd⟩ := hW
  have hA : DataW.TrodAll enc Try.prog W 0 (fun _ => true) true Try.f4.params.toList args.toList ds p := hA0
  rw [Try.params4] at hA hval
  obtain ⟨v0, vs0, d0, ds0, p0, q0, e0, rfl, rfl, h0, r0⟩ := trodAll_cons hA
  obtain ⟨v1, vs1, d1, ds1, p1, q1, e1, rfl, rfl, h1, r1⟩ := trodAll_cons r0
  obtain ⟨v2, vs2, d2, ds2, p2, q2, e2, rfl, rfl, h2, r2⟩ := trodAll_cons r1
  obtain ⟨rfl, rfl, rfl⟩ := trodAll_nil r2
  obtain rfl : args = #[v0, v1, v2] := by cases args; simp_all
  obtain ⟨rfl, rfl⟩ := trodVars_none hV
  obtain ⟨s, rfl, _, _, hs⟩ := Go.ChangeMaps.open_string Try.underlying9 (hval 0 9 v0 rfl rfl) h0
  obtain ⟨m, rfl, _, _, wm⟩ := open_int Try.underlying3 (hval 1 3 v1 rfl rfl) h1
  obtain ⟨c, rfl, _, _, wc⟩ := open_int Try.underlying23 (hval 2 23 v2 rfl rfl) h2
  have hc := bd_u32 wc
  obtain ⟨n, rfl⟩ : ∃ n : Nat, c = (n : Int) := ⟨c.toNat, by omega⟩
  refine (walk s m n W hs (bd_i64 wm) (by omega)).mono fun e W' ⟨he, hb⟩ => ⟨_, he, law_post rfl rfl ?_ rfl rfl rfl hW' hb⟩
  rw [Try.params4]
  intro t ht
  have ht' : t = 9 ∨ t = 3 ∨ t = 23 := by simpa using ht
  rcases ht' with rfl | rfl | rfl <;> exact ⟨by kernel_rfl, of_decide_eq_true (by kernel_rfl)⟩

set_option maxRecDepth 100000 in
theorem lifted (os : Os) (started : os.Started) (H : Type) (enc : TypeId × Value → H) :
    ReturnsInHanded {} Try.checked os 4 .any (Rows.codecFlipsSpec.pre6 enc Try.prog Try.f4 Rows.codecFlipsRow.domain false) (Rows.codecFlipsSpec.post enc Try.prog Try.f4 false true false false) := by
  refine returnsInHanded_of_change (C := Try.checked) ownKnob_none started (by kernel_rfl) Try.func4
    (ChangeSpec.witness6 (enc := enc) (C := Try.checked) false ⟨#[], #[.string ⟨#[]⟩, .int .i64 0, .int .u32 0], []⟩ 8 (by kernel_rfl) (by kernel_rfl) (by kernel_rfl) (by kernel_rfl)) ?_
  intro W base args ds gs before hval hW _ _
  exact contract H enc W base args ds gs before hval hW

theorem proved : Rows.CodecFlipsSaid :=
  OpenClaim.holds_of_wide 4 Try.f4 rfl rfl rfl rfl rfl rfl rfl ⟨rfl, rfl, rfl, rfl, rfl⟩ rfl rfl rfl rfl rfl (by kernel_rfl) Try.func4 (by kernel_rfl)
    (of_decide_eq_true (by kernel_rfl)) (by unfold Func.isWrapper; first | (rw [if_pos (by decide +kernel)]; kernel_rfl) | (rw [if_neg (by decide +kernel)]; exact ⟨rfl, rfl⟩))
    (fun os started H enc _ => lifted os started H enc)

end flips
end Go.Proofs.Ytdbhmoadngclgaa
