/- The chapter's examples: sanity returns true. -/
import Derived.Test.YtmeoannheomdoaaText
namespace Go.Proofs.Ytmeoannheomdoaa
open Go.RowKit

theorem ex_split : splitS ⟨#[97, 10, 10, 98]⟩ = [⟨#[97, 10]⟩, ⟨#[10]⟩, ⟨#[98]⟩] := by kernel_rfl
theorem ex_d1 : diff (lettersL ⟨#[97, 98, 99, 100]⟩) (lettersL ⟨#[97, 120, 99, 100, 101]⟩) = [⟨1, 2, 1, 2⟩, ⟨4, 4, 4, 5⟩] := by kernel_rfl
theorem ex_d2 : diff (lettersL ⟨#[97, 98]⟩) (lettersL ⟨#[98, 97]⟩) = [⟨0, 1, 0, 0⟩, ⟨2, 2, 1, 2⟩] := by kernel_rfl
def tx (l : List UInt8) : ByteArray := str (cat (lettersL ⟨l.toArray⟩))
theorem ex_m1 : mergeS (tx [97, 98, 99]) (tx [120, 98, 99]) (tx [97, 98, 121]) = (cat (lettersL ⟨#[120, 98, 121]⟩), []) := by kernel_rfl
theorem ex_m2 : mergeS (tx [97, 98, 99]) (tx [97, 120, 99]) (tx [97, 121, 99]) = ([], [(1, 2)]) := by kernel_rfl
theorem ex_m3 : mergeS (tx [97, 98]) (tx [97, 120, 98]) (tx [97, 121, 98]) = ([], [(1, 1)]) := by kernel_rfl
theorem ex_m4 : mergeS (tx [97, 98, 99]) (tx [97, 120, 99]) (tx [97, 98, 121]) = ([], [(1, 3)]) := by kernel_rfl

theorem lit_row (w : World) (e : TypeId) (size n : Nat) (xs : List Value) (h : xs.length = n * size) : Row (w.alloc (.cells xs.toArray e)) (w.heap.size + 1) size (some ⟨w.heap.size, 0, none⟩) n n xs := by
  refine ⟨h, Nat.le_refl _, (fun e => by cases e), fun j u hj => ⟨_, rfl, Nat.lt_succ_self _, ?_⟩⟩
  have := (Full.new w e xs).cell j
  rw [hj] at this
  rw [Addr.add_lit, Nat.zero_add]
  exact this

def LinesOut (w : World) (n : Nat) (L : List ByteArray) (e : Ending) (w' : World) : Prop := ∃ A c, e = .returned (.slice A n c) ∧ Strs w' w'.heap.size A c L ∧ Below w.heap.size w w'
def HksOut (w : World) (n : Nat) (L : List Hk) (e : Ending) (w' : World) : Prop := ∃ A c, e = .returned (.slice A n c) ∧ Hks w' w'.heap.size A c L ∧ Below w.heap.size w w'
def BoolB (w : World) (v : Bool) (e : Ending) (w' : World) : Prop := e = .returned (.bool v) ∧ Below w.heap.size w w'
def TextOut (w : World) (t : ByteArray) (e : Ending) (w' : World) : Prop := e = .returned (.string t) ∧ Below w.heap.size w w'
def MergeOut2 (w : World) (t : ByteArray) (n : Nat) (L : List (Nat × Nat)) (e : Ending) (w' : World) : Prop :=
  ∃ A c, e = .returned (.tuple #[.string t, .slice A n c]) ∧ Sps w' w'.heap.size A c L ∧ Below w.heap.size w w'
theorem lines_of {f : Nat} {s : ByteArray} {w : World} {R L : List ByteArray} {n : Nat} (h : Calls Try.prog f #[.string s] w (StrsOut w R)) (e : R = L) (hn : n = L.length) : Calls Try.prog f #[.string s] w (LinesOut w n L) := by
  subst e hn
  exact h.mono fun _ _ ⟨A, c, h1, h2, h3⟩ => ⟨A, c, h1, (Strs.own h2).2, h3⟩
theorem bool_of {w w' : World} {v : Bool} {e : Ending} (h : QBool w v e w') : BoolB w v e w' := by
  obtain ⟨h1, q, rfl⟩ := h
  exact ⟨h1, Below.drewN_ (Below.refl _ w) q⟩
theorem same2 (M na nb : Nat) (A B : Option Addr) (a : List ByteArray) (c d : Nat) (w : World) (hA : Strs w M A c a) (hB : Strs w M B d a) (hna : na = a.length) (hnb : nb = a.length) (ha : a.length ≤ 1000) : Calls Try.prog 17 #[.slice A na c, .slice B nb d] w (BoolB w true) := by
  subst hna hnb
  have h := same_any M A B a a c d w hA hB (by omega) (by omega)
  rw [decide_eq_true rfl] at h
  exact h.mono fun _ _ h => bool_of h
theorem hunks2 (M na nb : Nat) (A B : Option Addr) (a : List Hk) (c d : Nat) (w : World) (hA : Hks w M A c a) (hB : Hks w M B d a) (hna : na = a.length) (hnb : nb = a.length) (ha : a.length ≤ 1000) : Calls Try.prog 22 #[.slice A na c, .slice B nb d] w (BoolB w true) := by
  subst hna hnb
  have h := same_hunks M A B a a c d w hA hB (by omega) (by omega)
  rw [decide_eq_true rfl] at h
  exact h.mono fun _ _ h => bool_of h
theorem spans2 (M na nb : Nat) (A B : Option Addr) (a : List (Nat × Nat)) (c d : Nat) (w : World) (hA : Sps w M A c a) (hB : Sps w M B d a) (hna : na = a.length) (hnb : nb = a.length) (ha : a.length ≤ 1000) : Calls Try.prog 31 #[.slice A na c, .slice B nb d] w (BoolB w true) := by
  subst hna hnb
  have h := same_spans M A B a a c d w hA hB (by omega) (by omega)
  rw [decide_eq_true rfl] at h
  exact h.mono fun _ _ h => bool_of h
theorem diff2 (M na nb n : Nat) (A B : Option Addr) (a b : List ByteArray) (L : List Hk) (c d : Nat) (w : World) (hA : Strs w M A c a) (hB : Strs w M B d b) (hM : M ≤ w.heap.size) (hna : na = a.length) (hnb : nb = b.length) (ha : a.length ≤ 1000) (hb : b.length ≤ 1000) (hza : ∀ s ∈ a, s.size ≤ maxLen) (hzb : ∀ s ∈ b, s.size ≤ maxLen) (h : Hid (diff a b = L)) (hn : n = L.length) :
    Calls Try.prog 23 #[.slice A na c, .slice B nb d] w (HksOut w n L) := by
  subst hna hnb hn
  have := diff_any2 M A B a b c d w hA hB hM (by omega) (by omega) hza hzb
  rw [h.out] at this
  exact this.mono fun _ _ ⟨A, c, h1, h2, h3⟩ => ⟨A, c, h1, h2.1, h3⟩
theorem text36 (s : ByteArray) (w : World) (hs : s.size ≤ 1000) (hz : (cat (lettersL s)).length ≤ 1000000) : Calls Try.prog 36 #[.string s] w (TextOut w (str (cat (lettersL s)))) := by
  have h1 := letters_any s w (by omega)
  have hl : (lettersL s).length = s.size := by simp [lettersL]
  obtain ⟨L, HL⟩ : ∃ L, Hid (lettersL s = L) := ⟨_, Lib.hid rfl⟩
  rw [HL.out] at h1 hz hl ⊢
  have ht : textS L false = str (cat L) := by unfold textS; rw [if_neg (by simp)]
  have h2 := fun M A c W (h : Strs W M A c L) => text_any M A L c false W h (by omega) (by omega)
  rw [ht] at h2
  obtain ⟨T, HT⟩ : ∃ T, Hid (str (cat L) = T) := ⟨_, Lib.hid rfl⟩
  rw [HT.out] at h2 ⊢
  have H1 := Lib.hid h1
  have H2 := Lib.hid h2
  clear h1 h2 ht hl hz
  go_enter Try.func36, Try.ntmps36
  go_wp2_with (first
    | (go_at_call 35; ((with_reducible refine H1.out.mono ?_); rintro e w1 ⟨A, c, rfl, ho, hb⟩))
    | (go_at_call 19; ((refine (H2.out _ _ _ _ (Strs.own ho).2).mono ?_); rintro e w2 ⟨rfl, rfl⟩)))
  go_ret
  exact ⟨rfl, hb⟩
theorem merge2 (b l r t : ByteArray) (n : Nat) (L : List (Nat × Nat)) (R : List UInt8) (w : World) (h1 : b.size ≤ 1000) (h2 : l.size ≤ 1000) (h3 : r.size ≤ 1000) (h : mergeS b l r = (R, L)) (ht : str R = t) (hn : n = L.length) : Calls Try.prog 29 #[.string b, .string l, .string r] w (MergeOut2 w t n L) := by
  subst ht hn
  have := merge_any b l r w (by omega) (by omega) (by omega)
  rw [h] at this
  exact this

/-- what holds along the way: the rows that lie there, and that nothing old has turned -/
def Way (w W : World) (l : List (Option Addr × Nat × List (Nat × Nat))) : Prop := Below w.heap.size w W ∧ ∀ r ∈ l, Sps W W.heap.size r.1 r.2.1 r.2.2
theorem Way.on {w W W' : World} {l : List (Option Addr × Nat × List (Nat × Nat))} (h : Way w W l) (hb : Below W.heap.size W W') : Way w W' l := ⟨Below.then_ h.1 hb, fun r hr => Row.on (h.2 r hr) hb⟩
theorem Way.add {w W W' : World} {l : List (Option Addr × Nat × List (Nat × Nat))} (h : Way w W l) (hb : Below W.heap.size W W') {A : Option Addr} {c : Nat} {L : List (Nat × Nat)} (hs : Sps W' W'.heap.size A c L) : Way w W' ((A, c, L) :: l) :=
  ⟨Below.then_ h.1 hb, fun r hr => by
    rcases List.mem_cons.1 hr with rfl | hr
    · exact hs
    · exact (h.on hb).2 r hr⟩
theorem Way.new {w W : World} {l : List (Option Addr × Nat × List (Nat × Nat))} (h : Way w W l) (o : Obj) : Way w (W.alloc o) l := h.on ((Below.refl _ W).alloc (Nat.le_refl _) o)
theorem small_lines (s : ByteArray) (h : s.size ≤ 1000) : ∀ x ∈ lettersL s, x.size ≤ maxLen := by
  intro x hx
  unfold lettersL at hx
  obtain ⟨k, _, rfl⟩ := List.mem_map.1 hx
  unfold letterS maxLen
  rw [ByteArray.size_append]
  simp
  have : (⟨#[10]⟩ : ByteArray).size = 1 := rfl
  omega

theorem strs_on {w w' : World} {A : Option Addr} {c : Nat} {L : List ByteArray} (h : Strs w w.heap.size A c L) (hb : Below w.heap.size w w') : Strs w' w'.heap.size A c L := Row.on h hb

theorem sp_lit (W : World) (x y : Nat) : Sps (W.alloc (.cells #[.int .i64 (x : Int), .int .i64 (y : Int)] 55)) (W.heap.size + 1) (some ⟨W.heap.size, 0, none⟩) 1 [(x, y)] := lit_row W 55 2 1 (spsC [(x, y)]) rfl

set_option maxRecDepth 100000 in
set_option maxHeartbeats 2000000 in
theorem sane_any (w : World) : Calls Try.prog 15 #[] w (BoolB w true) := by
  have c1 : ∀ W, Calls Try.prog 16 #[.string ⟨#[97, 10, 10, 98]⟩] W (LinesOut W 3 [⟨#[97, 10]⟩, ⟨#[10]⟩, ⟨#[98]⟩]) := fun W => lines_of (split_any ⟨#[97, 10, 10, 98]⟩ W (by decide)) ex_split rfl
  have l1 : ∀ W, Calls Try.prog 35 #[.string ⟨#[97, 98, 99, 100]⟩] W (LinesOut W 4 (lettersL ⟨#[97, 98, 99, 100]⟩)) := fun W => lines_of (letters_any ⟨#[97, 98, 99, 100]⟩ W (by decide)) rfl rfl
  have l2 : ∀ W, Calls Try.prog 35 #[.string ⟨#[97, 120, 99, 100, 101]⟩] W (LinesOut W 5 (lettersL ⟨#[97, 120, 99, 100, 101]⟩)) := fun W => lines_of (letters_any ⟨#[97, 120, 99, 100, 101]⟩ W (by decide)) rfl rfl
  have l3 : ∀ W, Calls Try.prog 35 #[.string ⟨#[97, 98]⟩] W (LinesOut W 2 (lettersL ⟨#[97, 98]⟩)) := fun W => lines_of (letters_any ⟨#[97, 98]⟩ W (by decide)) rfl rfl
  have l4 : ∀ W, Calls Try.prog 35 #[.string ⟨#[98, 97]⟩] W (LinesOut W 2 (lettersL ⟨#[98, 97]⟩)) := fun W => lines_of (letters_any ⟨#[98, 97]⟩ W (by decide)) rfl rfl
  have d1 : ∀ (W : World) (M : Nat) (A B : Option Addr) (c d : Nat), Strs W M A c (lettersL ⟨#[97, 98, 99, 100]⟩) → Strs W M B d (lettersL ⟨#[97, 120, 99, 100, 101]⟩) → M ≤ W.heap.size → Calls Try.prog 23 #[.slice A 4 c, .slice B 5 d] W (HksOut W 2 [⟨1, 2, 1, 2⟩, ⟨4, 4, 4, 5⟩]) := fun W M A B c d hA hB hM =>
    diff2 M 4 5 2 A B _ _ _ c d W hA hB hM rfl rfl (by decide) (by decide) (small_lines _ (by decide)) (small_lines _ (by decide)) (Lib.hid ex_d1) rfl
  have d2 : ∀ (W : World) (M : Nat) (A B : Option Addr) (c d : Nat), Strs W M A c (lettersL ⟨#[97, 98]⟩) → Strs W M B d (lettersL ⟨#[98, 97]⟩) → M ≤ W.heap.size → Calls Try.prog 23 #[.slice A 2 c, .slice B 2 d] W (HksOut W 2 [⟨0, 1, 0, 0⟩, ⟨2, 2, 1, 2⟩]) := fun W M A B c d hA hB hM =>
    diff2 M 2 2 2 A B _ _ _ c d W hA hB hM rfl rfl (by decide) (by decide) (small_lines _ (by decide)) (small_lines _ (by decide)) (Lib.hid ex_d2) rfl
  have g1 : ∀ (W : World) (A : Option Addr) (c : Nat), Hks W W.heap.size A c [⟨1, 2, 1, 2⟩, ⟨4, 4, 4, 5⟩] → Calls Try.prog 22 #[.slice A 2 c, .slice (some ⟨W.heap.size, 0, none⟩) 2 2] (W.alloc (.cells #[.int .i64 1, .int .i64 2, .int .i64 1, .int .i64 2, .int .i64 4, .int .i64 4, .int .i64 4, .int .i64 5] 40)) (BoolB (W.alloc (.cells #[.int .i64 1, .int .i64 2, .int .i64 1, .int .i64 2, .int .i64 4, .int .i64 4, .int .i64 4, .int .i64 5] 40)) true) := fun W A c h =>
    hunks2 (W.heap.size + 1) 2 2 A _ _ c 2 _ (Row.more (Row.alloc h (Nat.le_refl _) _) (Nat.le_succ _)) (lit_row W 40 4 2 (hksC [⟨1, 2, 1, 2⟩, ⟨4, 4, 4, 5⟩]) rfl) rfl rfl (by decide)
  have g2 : ∀ (W : World) (A : Option Addr) (c : Nat), Hks W W.heap.size A c [⟨0, 1, 0, 0⟩, ⟨2, 2, 1, 2⟩] → Calls Try.prog 22 #[.slice A 2 c, .slice (some ⟨W.heap.size, 0, none⟩) 2 2] (W.alloc (.cells #[.int .i64 0, .int .i64 1, .int .i64 0, .int .i64 0, .int .i64 2, .int .i64 2, .int .i64 1, .int .i64 2] 40)) (BoolB (W.alloc (.cells #[.int .i64 0, .int .i64 1, .int .i64 0, .int .i64 0, .int .i64 2, .int .i64 2, .int .i64 1, .int .i64 2] 40)) true) := fun W A c h =>
    hunks2 (W.heap.size + 1) 2 2 A _ _ c 2 _ (Row.more (Row.alloc h (Nat.le_refl _) _) (Nat.le_succ _)) (lit_row W 40 4 2 (hksC [⟨0, 1, 0, 0⟩, ⟨2, 2, 1, 2⟩]) rfl) rfl rfl (by decide)
  have e1 : ∀ (W : World) (A : Option Addr) (c : Nat), Strs W W.heap.size A c [⟨#[97, 10]⟩, ⟨#[10]⟩, ⟨#[98]⟩] → Calls Try.prog 17 #[.slice A 3 c, .slice (some ⟨W.heap.size, 0, none⟩) 3 3] (W.alloc (.cells #[.string ⟨#[97, 10]⟩, .string ⟨#[10]⟩, .string ⟨#[98]⟩] 9)) (BoolB (W.alloc (.cells #[.string ⟨#[97, 10]⟩, .string ⟨#[10]⟩, .string ⟨#[98]⟩] 9)) true) := fun W A c h =>
    same2 (W.heap.size + 1) 3 3 A _ _ c 3 _ (Row.more (Row.alloc h (Nat.le_refl _) _) (Nat.le_succ _)) (lit_row W 9 1 3 (strC [⟨#[97, 10]⟩, ⟨#[10]⟩, ⟨#[98]⟩]) rfl) rfl rfl (by decide)
  have G1 := Lib.hid g1
  have G2 := Lib.hid g2
  have E1 := Lib.hid e1
  clear g1 g2 e1
  have C1 := Lib.hid c1
  have L1 := Lib.hid l1
  have L2 := Lib.hid l2
  have L3 := Lib.hid l3
  have L4 := Lib.hid l4
  have D1 := Lib.hid d1
  have D2 := Lib.hid d2
  clear c1 l1 l2 l3 l4 d1 d2
  obtain ⟨X1, HX1⟩ : ∃ X, Hid (lettersL ⟨#[97, 98, 99, 100]⟩ = X) := ⟨_, Lib.hid rfl⟩
  obtain ⟨X2, HX2⟩ : ∃ X, Hid (lettersL ⟨#[97, 120, 99, 100, 101]⟩ = X) := ⟨_, Lib.hid rfl⟩
  obtain ⟨X3, HX3⟩ : ∃ X, Hid (lettersL ⟨#[97, 98]⟩ = X) := ⟨_, Lib.hid rfl⟩
  obtain ⟨X4, HX4⟩ : ∃ X, Hid (lettersL ⟨#[98, 97]⟩ = X) := ⟨_, Lib.hid rfl⟩
  rw [HX1.out] at L1 D1
  rw [HX2.out] at L2 D1
  rw [HX3.out] at L3 D2
  rw [HX4.out] at L4 D2
  have t_abc : ∀ W, Calls Try.prog 36 #[.string ⟨#[97, 98, 99]⟩] W (TextOut W (tx [97, 98, 99])) := fun W => text36 ⟨#[97, 98, 99]⟩ W (by decide) (by decide)
  have t_xbc : ∀ W, Calls Try.prog 36 #[.string ⟨#[120, 98, 99]⟩] W (TextOut W (tx [120, 98, 99])) := fun W => text36 ⟨#[120, 98, 99]⟩ W (by decide) (by decide)
  have t_aby : ∀ W, Calls Try.prog 36 #[.string ⟨#[97, 98, 121]⟩] W (TextOut W (tx [97, 98, 121])) := fun W => text36 ⟨#[97, 98, 121]⟩ W (by decide) (by decide)
  have t_axc : ∀ W, Calls Try.prog 36 #[.string ⟨#[97, 120, 99]⟩] W (TextOut W (tx [97, 120, 99])) := fun W => text36 ⟨#[97, 120, 99]⟩ W (by decide) (by decide)
  have t_ayc : ∀ W, Calls Try.prog 36 #[.string ⟨#[97, 121, 99]⟩] W (TextOut W (tx [97, 121, 99])) := fun W => text36 ⟨#[97, 121, 99]⟩ W (by decide) (by decide)
  have t_ab : ∀ W, Calls Try.prog 36 #[.string ⟨#[97, 98]⟩] W (TextOut W (tx [97, 98])) := fun W => text36 ⟨#[97, 98]⟩ W (by decide) (by decide)
  have t_axb : ∀ W, Calls Try.prog 36 #[.string ⟨#[97, 120, 98]⟩] W (TextOut W (tx [97, 120, 98])) := fun W => text36 ⟨#[97, 120, 98]⟩ W (by decide) (by decide)
  have t_ayb : ∀ W, Calls Try.prog 36 #[.string ⟨#[97, 121, 98]⟩] W (TextOut W (tx [97, 121, 98])) := fun W => text36 ⟨#[97, 121, 98]⟩ W (by decide) (by decide)
  have t_xby : ∀ W, Calls Try.prog 36 #[.string ⟨#[120, 98, 121]⟩] W (TextOut W (tx [120, 98, 121])) := fun W => text36 ⟨#[120, 98, 121]⟩ W (by decide) (by decide)
  have m1 : ∀ W, Calls Try.prog 29 #[.string (tx [97, 98, 99]), .string (tx [120, 98, 99]), .string (tx [97, 98, 121])] W (MergeOut2 W (tx [120, 98, 121]) 0 []) := fun W => merge2 _ _ _ _ 0 [] _ W (by decide) (by decide) (by decide) ex_m1 rfl rfl
  have m2 : ∀ W, Calls Try.prog 29 #[.string (tx [97, 98, 99]), .string (tx [97, 120, 99]), .string (tx [97, 121, 99])] W (MergeOut2 W ⟨#[]⟩ 1 [(1, 2)]) := fun W => merge2 _ _ _ _ 1 [(1, 2)] _ W (by decide) (by decide) (by decide) ex_m2 rfl rfl
  have m3 : ∀ W, Calls Try.prog 29 #[.string (tx [97, 98]), .string (tx [97, 120, 98]), .string (tx [97, 121, 98])] W (MergeOut2 W ⟨#[]⟩ 1 [(1, 1)]) := fun W => merge2 _ _ _ _ 1 [(1, 1)] _ W (by decide) (by decide) (by decide) ex_m3 rfl rfl
  have m4 : ∀ W, Calls Try.prog 29 #[.string (tx [97, 98, 99]), .string (tx [97, 120, 99]), .string (tx [97, 98, 121])] W (MergeOut2 W ⟨#[]⟩ 1 [(1, 3)]) := fun W => merge2 _ _ _ _ 1 [(1, 3)] _ W (by decide) (by decide) (by decide) ex_m4 rfl rfl
  obtain ⟨Tabc, HTabc⟩ : ∃ T, Hid (tx [97, 98, 99] = T) := ⟨_, Lib.hid rfl⟩
  rw [HTabc.out] at t_abc m1 m2 m4
  obtain ⟨Txbc, HTxbc⟩ : ∃ T, Hid (tx [120, 98, 99] = T) := ⟨_, Lib.hid rfl⟩
  rw [HTxbc.out] at t_xbc m1
  obtain ⟨Taby, HTaby⟩ : ∃ T, Hid (tx [97, 98, 121] = T) := ⟨_, Lib.hid rfl⟩
  rw [HTaby.out] at t_aby m1 m4
  obtain ⟨Taxc, HTaxc⟩ : ∃ T, Hid (tx [97, 120, 99] = T) := ⟨_, Lib.hid rfl⟩
  rw [HTaxc.out] at t_axc m2 m4
  obtain ⟨Tayc, HTayc⟩ : ∃ T, Hid (tx [97, 121, 99] = T) := ⟨_, Lib.hid rfl⟩
  rw [HTayc.out] at t_ayc m2
  obtain ⟨Tab, HTab⟩ : ∃ T, Hid (tx [97, 98] = T) := ⟨_, Lib.hid rfl⟩
  rw [HTab.out] at t_ab m3
  obtain ⟨Taxb, HTaxb⟩ : ∃ T, Hid (tx [97, 120, 98] = T) := ⟨_, Lib.hid rfl⟩
  rw [HTaxb.out] at t_axb m3
  obtain ⟨Tayb, HTayb⟩ : ∃ T, Hid (tx [97, 121, 98] = T) := ⟨_, Lib.hid rfl⟩
  rw [HTayb.out] at t_ayb m3
  obtain ⟨Txby, HTxby⟩ : ∃ T, Hid (tx [120, 98, 121] = T) := ⟨_, Lib.hid rfl⟩
  rw [HTxby.out] at t_xby m1
  have TTabc := Lib.hid t_abc
  have TTxbc := Lib.hid t_xbc
  have TTaby := Lib.hid t_aby
  have TTaxc := Lib.hid t_axc
  have TTayc := Lib.hid t_ayc
  have TTab := Lib.hid t_ab
  have TTaxb := Lib.hid t_axb
  have TTayb := Lib.hid t_ayb
  have TTxby := Lib.hid t_xby
  have M1 := Lib.hid m1
  have M2 := Lib.hid m2
  have M3 := Lib.hid m3
  have M4 := Lib.hid m4
  have s2 : ∀ (W : World) (A : Option Addr) (c : Nat), Sps W W.heap.size A c [(1, 2)] → Calls Try.prog 31 #[.slice A 1 c, .slice (some ⟨W.heap.size, 0, none⟩) 1 1] (W.alloc (.cells #[.int .i64 1, .int .i64 2] 55)) (BoolB (W.alloc (.cells #[.int .i64 1, .int .i64 2] 55)) true) := fun W A c h =>
    spans2 (W.heap.size + 1) 1 1 A _ _ c 1 _ (Row.more (Row.alloc h (Nat.le_refl _) _) (Nat.le_succ _)) (sp_lit W 1 2) rfl rfl (by decide)
  have S2 := Lib.hid s2
  have s3 : ∀ (W : World) (A : Option Addr) (c : Nat), Sps W W.heap.size A c [(1, 1)] → Calls Try.prog 31 #[.slice A 1 c, .slice (some ⟨W.heap.size, 0, none⟩) 1 1] (W.alloc (.cells #[.int .i64 1, .int .i64 1] 55)) (BoolB (W.alloc (.cells #[.int .i64 1, .int .i64 1] 55)) true) := fun W A c h =>
    spans2 (W.heap.size + 1) 1 1 A _ _ c 1 _ (Row.more (Row.alloc h (Nat.le_refl _) _) (Nat.le_succ _)) (sp_lit W 1 1) rfl rfl (by decide)
  have S3 := Lib.hid s3
  have s4 : ∀ (W : World) (A : Option Addr) (c : Nat), Sps W W.heap.size A c [(1, 3)] → Calls Try.prog 31 #[.slice A 1 c, .slice (some ⟨W.heap.size, 0, none⟩) 1 1] (W.alloc (.cells #[.int .i64 1, .int .i64 3] 55)) (BoolB (W.alloc (.cells #[.int .i64 1, .int .i64 3] 55)) true) := fun W A c h =>
    spans2 (W.heap.size + 1) 1 1 A _ _ c 1 _ (Row.more (Row.alloc h (Nat.le_refl _) _) (Nat.le_succ _)) (sp_lit W 1 3) rfl rfl (by decide)
  have S4 := Lib.hid s4
  have hbeq : (Txby.toList == Txby.toList) = true := by simp
  clear t_abc t_xbc t_aby t_axc t_ayc t_ab t_axb t_ayb t_xby m1 m2 m3 m4 s2 s3 s4
  have hw : Way w w [] := ⟨Below.refl _ _, fun r hr => by cases hr⟩
  go_enter Try.func15, Try.ntmps15
  go_upto_region 3 with (first
    | (go_at_call 16; ((with_reducible refine (C1.out _).mono ?_); rintro e w1 ⟨A1, k1, rfl, hs1, hb⟩); have hw := hw.on hb)
    | (go_at_call 17; ((with_reducible refine (E1.out _ _ _ hs1).mono ?_); rintro e w2 ⟨rfl, hb⟩); have hw := (hw.new _).on hb)
    | (go_at_call 35; ((with_reducible refine (L1.out _).mono ?_); rintro e w3 ⟨A3, k3, rfl, hs3, hb⟩); have hw := hw.on hb)
    | (go_at_call 35; ((with_reducible refine (L2.out _).mono ?_); rintro e w4 ⟨A4, k4, rfl, hs4, hb⟩); have hs3 := strs_on hs3 hb; have hw := hw.on hb)
    | (go_at_call 35; ((with_reducible refine (L3.out _).mono ?_); rintro e w5 ⟨A5, k5, rfl, hs5, hb⟩); have hw := hw.on hb)
    | (go_at_call 35; ((with_reducible refine (L4.out _).mono ?_); rintro e w6 ⟨A6, k6, rfl, hs6, hb⟩); have hs5 := strs_on hs5 hb; have hw := hw.on hb)
    | (go_at_call 23; ((with_reducible refine (D1.out _ _ _ _ _ _ hs3 hs4 (Nat.le_refl _)).mono ?_); rintro e w7 ⟨A7, k7, rfl, hs7, hb⟩); have hw := hw.on hb)
    | (go_at_call 23; ((with_reducible refine (D2.out _ _ _ _ _ _ hs5 hs6 (Nat.le_refl _)).mono ?_); rintro e w8 ⟨A8, k8, rfl, hs8, hb⟩); have hw := hw.on hb)
    | (go_at_call 22; ((with_reducible refine (G1.out _ _ _ hs7).mono ?_); rintro e w9 ⟨rfl, hb⟩); have hw := (hw.new _).on hb)
    | (go_at_call 22; ((with_reducible refine (G2.out _ _ _ hs8).mono ?_); rintro e w10 ⟨rfl, hb⟩); have hw := (hw.new _).on hb))
  go_wp2_with (first
    | (go_at_call 36; ((with_reducible refine (TTabc.out _).mono ?_); rintro e wt ⟨rfl, hb⟩); have hw := hw.on hb)
    | (go_at_call 36; ((with_reducible refine (TTxbc.out _).mono ?_); rintro e wt ⟨rfl, hb⟩); have hw := hw.on hb)
    | (go_at_call 36; ((with_reducible refine (TTaby.out _).mono ?_); rintro e wt ⟨rfl, hb⟩); have hw := hw.on hb)
    | (go_at_call 36; ((with_reducible refine (TTaxc.out _).mono ?_); rintro e wt ⟨rfl, hb⟩); have hw := hw.on hb)
    | (go_at_call 36; ((with_reducible refine (TTayc.out _).mono ?_); rintro e wt ⟨rfl, hb⟩); have hw := hw.on hb)
    | (go_at_call 36; ((with_reducible refine (TTab.out _).mono ?_); rintro e wt ⟨rfl, hb⟩); have hw := hw.on hb)
    | (go_at_call 36; ((with_reducible refine (TTaxb.out _).mono ?_); rintro e wt ⟨rfl, hb⟩); have hw := hw.on hb)
    | (go_at_call 36; ((with_reducible refine (TTayb.out _).mono ?_); rintro e wt ⟨rfl, hb⟩); have hw := hw.on hb)
    | (go_at_call 36; ((with_reducible refine (TTxby.out _).mono ?_); rintro e wt ⟨rfl, hb⟩); have hw := hw.on hb)
    | (go_at_call 29; ((with_reducible refine (M1.out _).mono ?_); rintro e wm1 ⟨P1, q1, rfl, hsp, hb⟩); have hw := hw.add hb hsp)
    | (go_at_call 29; ((with_reducible refine (M2.out _).mono ?_); rintro e wm2 ⟨P2, q2, rfl, hsp, hb⟩); have hw := hw.add hb hsp)
    | (go_at_call 29; ((with_reducible refine (M3.out _).mono ?_); rintro e wm3 ⟨P3, q3, rfl, hsp, hb⟩); have hw := hw.add hb hsp)
    | (go_at_call 29; ((with_reducible refine (M4.out _).mono ?_); rintro e wm4 ⟨P4, q4, rfl, hsp, hb⟩); have hw := hw.add hb hsp)
    | (go_at_call 31; (with_reducible refine (S2.out _ P2 q2 ?_).mono ?_); exact hw.2 (P2, q2, [(1, 2)]) (by simp); rintro e ws ⟨rfl, hb⟩; have hw := (hw.new _).on hb)
    | (go_at_call 31; (with_reducible refine (S3.out _ P3 q3 ?_).mono ?_); exact hw.2 (P3, q3, [(1, 1)]) (by simp); rintro e ws ⟨rfl, hb⟩; have hw := (hw.new _).on hb)
    | (go_at_call 31; (with_reducible refine (S4.out _ P4 q4 ?_).mono ?_); exact hw.2 (P4, q4, [(1, 3)]) (by simp); rintro e ws ⟨rfl, hb⟩; have hw := (hw.new _).on hb))
  go_ret
  exact ⟨rfl, hw.1⟩

end Go.Proofs.Ytmeoannheomdoaa
