/- The Syntax seat, part 3: contracts of the program and of the reference. -/
import Derived.Test.YtcjoiiaankngjaaGreatDoorC2
import Derived.Lib.UnsafeStr
import Derived.Lib.Builder
import Derived.Lib.BufferWrite
import Derived.Laws.Externs
import Derived.Laws.StructEq
namespace Go.Proofs.YtcjoiiaankngjaaGreatDoor
set_option maxRecDepth 100000
open Go.RowKit
theorem all_not_any {α : Type} (P : α → Bool) : ∀ l : List α, l.all P = !(l.any fun i => !P i)
 | [] => rfl
 | x :: t => by
   rw [List.all_cons, List.any_cons, all_not_any P t]
   cases P x <;> cases (t.any fun i => !P i) <;> rfl
theorem contains_91 {w : World} {B c : Nat} {A : Option Addr} {l : List Itm} (hA : Itms w B A c l) (hB : B ≤ w.heap.size) (hl : l.length ≤ maxLen) (xp : Addr) (P : Itm → Bool)
   (EL : ∀ W, Below w.heap.size w W → ∀ i ∈ l, Calls Tryz.prog 91 #[itmV i, .pointer (some xp)] W (BoolB W (P i))) :
   Calls Tryz.prog 90 #[.slice A l.length c, .func (.func 91) #[] #[.pointer (some xp)]] w (BoolB w (l.any P)) := by
 have IX := index_91 hA hB hl xp P EL
 unfold IdxOut at IX
 unfold BoolB
 obtain ⟨r, hr⟩ : ∃ r, idxV (lead P l) l.length = r := ⟨_, rfl⟩
 have hd : decide (r ≥ 0) = l.any P := by
   rw [← lead_all, ← hr]
   unfold idxV
   have := lead_le P l
   by_cases h : lead P l < l.length
   · rw [if_pos h]; simp [h]
   · rw [if_neg h]; simp [h]
 obtain ⟨b, hb⟩ : ∃ b, l.any P = b := ⟨_, rfl⟩
 rw [hr] at IX
 rw [hb] at hd ⊢
 obtain ⟨n, hn⟩ : ∃ n, l.length = n := ⟨_, rfl⟩
 rw [hn] at IX ⊢
 have IX := Lib.hid IX
 clear hr hb hA EL hn hl
 have hd2 : decide (0 ≤ r) = b := hd
 go_enter Tryz.func90, Tryz.ntmps90
 go_wp2_with (first
   | (go_at_call 124; ((with_reducible refine IX.out.mono ?_); rintro en w2 ⟨rfl, hb2⟩; (have HB2 := Lib.hid hb2)))
   | (fail "arm"))
 go_ret
 exact ⟨by rw [← hd2]; rfl, HB2.out⟩
theorem each_57 {w : World} {bx : Nat} (F : Full w bx 114 [.func (.func 57) #[] #[]]) (i : Itm) (hi : ItmOk i) : Calls Tryz.prog 91 #[itmV i, .pointer (some ⟨bx, 0, none⟩)] w (BoolB w (!rPlat i)) := by
 unfold BoolB
 obtain ⟨x0, hx0⟩ : ∃ x, str i.tx = x := ⟨_, rfl⟩
 obtain ⟨x2, hx2⟩ : ∃ x, str i.pl = x := ⟨_, rfl⟩
 obtain ⟨g, hg⟩ : ∃ x, i.gl = x := ⟨_, rfl⟩
 obtain ⟨l, hl⟩ : ∃ x : Nat, i.ln = x := ⟨_, rfl⟩
 have RA := fun W => rightPlatform_any i hi W
 unfold itmV BoolB at RA
 unfold itmV
 rw [hx0, hx2, hg, hl] at RA
 rw [hx0, hx2, hg, hl]
 obtain ⟨y, hy⟩ : ∃ y, rPlat i = y := ⟨_, rfl⟩
 rw [hy] at RA
 rw [hy]
 obtain ⟨w1, hw1⟩ : ∃ w1, w.alloc (.cells #[.string x0, .bool g, .string x2, .int .i64 (l : Int)] 52) = w1 := ⟨_, rfl⟩
 have hb1 : Below w.heap.size w w1 := by rw [← hw1]; exact (Below.refl _ w).alloc (Nat.le_refl _) _
 have F1 : Full w1 w.heap.size 52 [.string x0, .bool g, .string x2, .int .i64 (l : Int)] := by rw [← hw1]; exact Full.new w 52 _
 have FB := F.on hb1
 have k0 : w1.cell? ⟨bx, 0, none⟩ = some (.func (.func 57) #[] #[]) := FB.cell 0
 obtain ⟨r, hr⟩ : ∃ r, w.heap.size = r := ⟨_, rfl⟩
 rw [hr] at F1
 have c0 : w1.cell? ⟨r, 0, none⟩ = some (.string x0) := F1.cell 0
 have c1 : w1.cell? ⟨r, 1, none⟩ = some (.bool g) := F1.cell 1
 have c2 : w1.cell? ⟨r, 2, none⟩ = some (.string x2) := F1.cell 2
 have c3 : w1.cell? ⟨r, 3, none⟩ = some (.int .i64 (l : Int)) := F1.cell 3
 have RA := Lib.hid RA
 have HB1 := Lib.hid hb1
 clear F F1 FB hb1 hi hy hx0 hx2 hg hl
 go_enter Tryz.func91, Tryz.ntmps91
 go_wp2_with (first
   | (go_at_call 57; ((with_reducible refine (RA.out _).mono ?_); rintro en w2 ⟨rfl, hb2⟩; (have HB2 := Lib.hid (HB1.out.trans (hb2.mono HB1.out.size)))))
   | (fail "arm"))
 go_ret
 exact ⟨rfl, HB2.out⟩
theorem every_57 {w : World} {B c : Nat} {A : Option Addr} {l : List Itm} (hA : Itms w B A c l) (hB : B ≤ w.heap.size) (hl : l.length ≤ maxLen) (hok : ∀ i ∈ l, ItmOk i) :
   Calls Tryz.prog 56 #[.slice A l.length c, .func (.func 57) #[] #[]] w (BoolB w (l.all rPlat)) := by
 obtain ⟨w1, hw1⟩ : ∃ w1, w.alloc (.cells #[.func (.func 57) #[] #[]] 114) = w1 := ⟨_, rfl⟩
 have hb1 : Below w.heap.size w w1 := by rw [← hw1]; exact (Below.refl _ w).alloc (Nat.le_refl _) _
 have F1 : Full w1 w.heap.size 114 [.func (.func 57) #[] #[]] := by rw [← hw1]; exact Full.new w 114 _
 have CF := contains_91 (show Itms w1 B A c l from Row.below hA hb1 hB) (Nat.le_trans hB hb1.size) hl ⟨w.heap.size, 0, none⟩ (fun i => !rPlat i) (fun W hW i hi => each_57 (F1.on hW) i (hok i hi))
 unfold BoolB at CF ⊢
 have e := all_not_any rPlat l
 rw [e]
 obtain ⟨b, hb⟩ : ∃ b, (l.any fun i => !rPlat i) = b := ⟨_, rfl⟩
 rw [hb] at CF ⊢
 obtain ⟨n, hn⟩ : ∃ n, l.length = n := ⟨_, rfl⟩
 rw [hn] at CF ⊢
 have CF := Lib.hid CF
 have HB1 := Lib.hid hb1
 clear hb hn e hA hB hl hok F1 hb1
 go_enter Tryz.func56, Tryz.ntmps56
 go_wp2_with (first
   | (go_at_call 90; ((with_reducible refine CF.out.mono ?_); rintro en w2 ⟨rfl, hb2⟩; (have HB2 := Lib.hid (HB1.out.trans (hb2.mono HB1.out.size)))))
   | (fail "arm"))
 go_ret
 exact ⟨rfl, HB2.out⟩
theorem each_98 {w : World} {bx : Nat} (F : Full w bx 114 [.func (.func 98) #[] #[]]) (i : Itm) (hi : ItmOk i) : Calls Tryz.prog 91 #[itmV i, .pointer (some ⟨bx, 0, none⟩)] w (BoolB w (!rSource i)) := by
 unfold BoolB
 obtain ⟨x0, hx0⟩ : ∃ x, str i.tx = x := ⟨_, rfl⟩
 obtain ⟨x2, hx2⟩ : ∃ x, str i.pl = x := ⟨_, rfl⟩
 obtain ⟨g, hg⟩ : ∃ x, i.gl = x := ⟨_, rfl⟩
 obtain ⟨l, hl⟩ : ∃ x : Nat, i.ln = x := ⟨_, rfl⟩
 have RA := fun W => rightSource_any i hi W
 unfold itmV BoolB at RA
 unfold itmV
 rw [hx0, hx2, hg, hl] at RA
 rw [hx0, hx2, hg, hl]
 obtain ⟨y, hy⟩ : ∃ y, rSource i = y := ⟨_, rfl⟩
 rw [hy] at RA
 rw [hy]
 obtain ⟨w1, hw1⟩ : ∃ w1, w.alloc (.cells #[.string x0, .bool g, .string x2, .int .i64 (l : Int)] 52) = w1 := ⟨_, rfl⟩
 have hb1 : Below w.heap.size w w1 := by rw [← hw1]; exact (Below.refl _ w).alloc (Nat.le_refl _) _
 have F1 : Full w1 w.heap.size 52 [.string x0, .bool g, .string x2, .int .i64 (l : Int)] := by rw [← hw1]; exact Full.new w 52 _
 have FB := F.on hb1
 have k0 : w1.cell? ⟨bx, 0, none⟩ = some (.func (.func 98) #[] #[]) := FB.cell 0
 obtain ⟨r, hr⟩ : ∃ r, w.heap.size = r := ⟨_, rfl⟩
 rw [hr] at F1
 have c0 : w1.cell? ⟨r, 0, none⟩ = some (.string x0) := F1.cell 0
 have c1 : w1.cell? ⟨r, 1, none⟩ = some (.bool g) := F1.cell 1
 have c2 : w1.cell? ⟨r, 2, none⟩ = some (.string x2) := F1.cell 2
 have c3 : w1.cell? ⟨r, 3, none⟩ = some (.int .i64 (l : Int)) := F1.cell 3
 have RA := Lib.hid RA
 have HB1 := Lib.hid hb1
 clear F F1 FB hb1 hi hy hx0 hx2 hg hl
 go_enter Tryz.func91, Tryz.ntmps91
 go_wp2_with (first
   | (go_at_call 98; ((with_reducible refine (RA.out _).mono ?_); rintro en w2 ⟨rfl, hb2⟩; (have HB2 := Lib.hid (HB1.out.trans (hb2.mono HB1.out.size)))))
   | (fail "arm"))
 go_ret
 exact ⟨rfl, HB2.out⟩
theorem every_98 {w : World} {B c : Nat} {A : Option Addr} {l : List Itm} (hA : Itms w B A c l) (hB : B ≤ w.heap.size) (hl : l.length ≤ maxLen) (hok : ∀ i ∈ l, ItmOk i) :
   Calls Tryz.prog 56 #[.slice A l.length c, .func (.func 98) #[] #[]] w (BoolB w (l.all rSource)) := by
 obtain ⟨w1, hw1⟩ : ∃ w1, w.alloc (.cells #[.func (.func 98) #[] #[]] 114) = w1 := ⟨_, rfl⟩
 have hb1 : Below w.heap.size w w1 := by rw [← hw1]; exact (Below.refl _ w).alloc (Nat.le_refl _) _
 have F1 : Full w1 w.heap.size 114 [.func (.func 98) #[] #[]] := by rw [← hw1]; exact Full.new w 114 _
 have CF := contains_91 (show Itms w1 B A c l from Row.below hA hb1 hB) (Nat.le_trans hB hb1.size) hl ⟨w.heap.size, 0, none⟩ (fun i => !rSource i) (fun W hW i hi => each_98 (F1.on hW) i (hok i hi))
 unfold BoolB at CF ⊢
 have e := all_not_any rSource l
 rw [e]
 obtain ⟨b, hb⟩ : ∃ b, (l.any fun i => !rSource i) = b := ⟨_, rfl⟩
 rw [hb] at CF ⊢
 obtain ⟨n, hn⟩ : ∃ n, l.length = n := ⟨_, rfl⟩
 rw [hn] at CF ⊢
 have CF := Lib.hid CF
 have HB1 := Lib.hid hb1
 clear hb hn e hA hB hl hok F1 hb1
 go_enter Tryz.func56, Tryz.ntmps56
 go_wp2_with (first
   | (go_at_call 90; ((with_reducible refine CF.out.mono ?_); rintro en w2 ⟨rfl, hb2⟩; (have HB2 := Lib.hid (HB1.out.trans (hb2.mono HB1.out.size)))))
   | (fail "arm"))
 go_ret
 exact ⟨rfl, HB2.out⟩
theorem each_99 {w : World} {bx : Nat} (F : Full w bx 114 [.func (.func 99) #[] #[]]) (i : Itm) (hi : ItmOk i) : Calls Tryz.prog 91 #[itmV i, .pointer (some ⟨bx, 0, none⟩)] w (BoolB w (!rDep i)) := by
 unfold BoolB
 obtain ⟨x0, hx0⟩ : ∃ x, str i.tx = x := ⟨_, rfl⟩
 obtain ⟨x2, hx2⟩ : ∃ x, str i.pl = x := ⟨_, rfl⟩
 obtain ⟨g, hg⟩ : ∃ x, i.gl = x := ⟨_, rfl⟩
 obtain ⟨l, hl⟩ : ∃ x : Nat, i.ln = x := ⟨_, rfl⟩
 have RA := fun W => rightDep_any i hi W
 unfold itmV BoolB at RA
 unfold itmV
 rw [hx0, hx2, hg, hl] at RA
 rw [hx0, hx2, hg, hl]
 obtain ⟨y, hy⟩ : ∃ y, rDep i = y := ⟨_, rfl⟩
 rw [hy] at RA
 rw [hy]
 obtain ⟨w1, hw1⟩ : ∃ w1, w.alloc (.cells #[.string x0, .bool g, .string x2, .int .i64 (l : Int)] 52) = w1 := ⟨_, rfl⟩
 have hb1 : Below w.heap.size w w1 := by rw [← hw1]; exact (Below.refl _ w).alloc (Nat.le_refl _) _
 have F1 : Full w1 w.heap.size 52 [.string x0, .bool g, .string x2, .int .i64 (l : Int)] := by rw [← hw1]; exact Full.new w 52 _
 have FB := F.on hb1
 have k0 : w1.cell? ⟨bx, 0, none⟩ = some (.func (.func 99) #[] #[]) := FB.cell 0
 obtain ⟨r, hr⟩ : ∃ r, w.heap.size = r := ⟨_, rfl⟩
 rw [hr] at F1
 have c0 : w1.cell? ⟨r, 0, none⟩ = some (.string x0) := F1.cell 0
 have c1 : w1.cell? ⟨r, 1, none⟩ = some (.bool g) := F1.cell 1
 have c2 : w1.cell? ⟨r, 2, none⟩ = some (.string x2) := F1.cell 2
 have c3 : w1.cell? ⟨r, 3, none⟩ = some (.int .i64 (l : Int)) := F1.cell 3
 have RA := Lib.hid RA
 have HB1 := Lib.hid hb1
 clear F F1 FB hb1 hi hy hx0 hx2 hg hl
 go_enter Tryz.func91, Tryz.ntmps91
 go_wp2_with (first
   | (go_at_call 99; ((with_reducible refine (RA.out _).mono ?_); rintro en w2 ⟨rfl, hb2⟩; (have HB2 := Lib.hid (HB1.out.trans (hb2.mono HB1.out.size)))))
   | (fail "arm"))
 go_ret
 exact ⟨rfl, HB2.out⟩
theorem every_99 {w : World} {B c : Nat} {A : Option Addr} {l : List Itm} (hA : Itms w B A c l) (hB : B ≤ w.heap.size) (hl : l.length ≤ maxLen) (hok : ∀ i ∈ l, ItmOk i) :
   Calls Tryz.prog 56 #[.slice A l.length c, .func (.func 99) #[] #[]] w (BoolB w (l.all rDep)) := by
 obtain ⟨w1, hw1⟩ : ∃ w1, w.alloc (.cells #[.func (.func 99) #[] #[]] 114) = w1 := ⟨_, rfl⟩
 have hb1 : Below w.heap.size w w1 := by rw [← hw1]; exact (Below.refl _ w).alloc (Nat.le_refl _) _
 have F1 : Full w1 w.heap.size 114 [.func (.func 99) #[] #[]] := by rw [← hw1]; exact Full.new w 114 _
 have CF := contains_91 (show Itms w1 B A c l from Row.below hA hb1 hB) (Nat.le_trans hB hb1.size) hl ⟨w.heap.size, 0, none⟩ (fun i => !rDep i) (fun W hW i hi => each_99 (F1.on hW) i (hok i hi))
 unfold BoolB at CF ⊢
 have e := all_not_any rDep l
 rw [e]
 obtain ⟨b, hb⟩ : ∃ b, (l.any fun i => !rDep i) = b := ⟨_, rfl⟩
 rw [hb] at CF ⊢
 obtain ⟨n, hn⟩ : ∃ n, l.length = n := ⟨_, rfl⟩
 rw [hn] at CF ⊢
 have CF := Lib.hid CF
 have HB1 := Lib.hid hb1
 clear hb hn e hA hB hl hok F1 hb1
 go_enter Tryz.func56, Tryz.ntmps56
 go_wp2_with (first
   | (go_at_call 90; ((with_reducible refine CF.out.mono ?_); rintro en w2 ⟨rfl, hb2⟩; (have HB2 := Lib.hid (HB1.out.trans (hb2.mono HB1.out.size)))))
   | (fail "arm"))
 go_ret
 exact ⟨rfl, HB2.out⟩
theorem each_100 {w : World} {bx : Nat} (F : Full w bx 114 [.func (.func 100) #[] #[]]) (i : Itm) (hi : ItmOk i) : Calls Tryz.prog 91 #[itmV i, .pointer (some ⟨bx, 0, none⟩)] w (BoolB w (!rText i)) := by
 unfold BoolB
 obtain ⟨x0, hx0⟩ : ∃ x, str i.tx = x := ⟨_, rfl⟩
 obtain ⟨x2, hx2⟩ : ∃ x, str i.pl = x := ⟨_, rfl⟩
 obtain ⟨g, hg⟩ : ∃ x, i.gl = x := ⟨_, rfl⟩
 obtain ⟨l, hl⟩ : ∃ x : Nat, i.ln = x := ⟨_, rfl⟩
 have RA := fun W => rightText_any i hi W
 unfold itmV BoolB at RA
 unfold itmV
 rw [hx0, hx2, hg, hl] at RA
 rw [hx0, hx2, hg, hl]
 obtain ⟨y, hy⟩ : ∃ y, rText i = y := ⟨_, rfl⟩
 rw [hy] at RA
 rw [hy]
 obtain ⟨w1, hw1⟩ : ∃ w1, w.alloc (.cells #[.string x0, .bool g, .string x2, .int .i64 (l : Int)] 52) = w1 := ⟨_, rfl⟩
 have hb1 : Below w.heap.size w w1 := by rw [← hw1]; exact (Below.refl _ w).alloc (Nat.le_refl _) _
 have F1 : Full w1 w.heap.size 52 [.string x0, .bool g, .string x2, .int .i64 (l : Int)] := by rw [← hw1]; exact Full.new w 52 _
 have FB := F.on hb1
 have k0 : w1.cell? ⟨bx, 0, none⟩ = some (.func (.func 100) #[] #[]) := FB.cell 0
 obtain ⟨r, hr⟩ : ∃ r, w.heap.size = r := ⟨_, rfl⟩
 rw [hr] at F1
 have c0 : w1.cell? ⟨r, 0, none⟩ = some (.string x0) := F1.cell 0
 have c1 : w1.cell? ⟨r, 1, none⟩ = some (.bool g) := F1.cell 1
 have c2 : w1.cell? ⟨r, 2, none⟩ = some (.string x2) := F1.cell 2
 have c3 : w1.cell? ⟨r, 3, none⟩ = some (.int .i64 (l : Int)) := F1.cell 3
 have RA := Lib.hid RA
 have HB1 := Lib.hid hb1
 clear F F1 FB hb1 hi hy hx0 hx2 hg hl
 go_enter Tryz.func91, Tryz.ntmps91
 go_wp2_with (first
   | (go_at_call 100; ((with_reducible refine (RA.out _).mono ?_); rintro en w2 ⟨rfl, hb2⟩; (have HB2 := Lib.hid (HB1.out.trans (hb2.mono HB1.out.size)))))
   | (fail "arm"))
 go_ret
 exact ⟨rfl, HB2.out⟩
theorem every_100 {w : World} {B c : Nat} {A : Option Addr} {l : List Itm} (hA : Itms w B A c l) (hB : B ≤ w.heap.size) (hl : l.length ≤ maxLen) (hok : ∀ i ∈ l, ItmOk i) :
   Calls Tryz.prog 56 #[.slice A l.length c, .func (.func 100) #[] #[]] w (BoolB w (l.all rText)) := by
 obtain ⟨w1, hw1⟩ : ∃ w1, w.alloc (.cells #[.func (.func 100) #[] #[]] 114) = w1 := ⟨_, rfl⟩
 have hb1 : Below w.heap.size w w1 := by rw [← hw1]; exact (Below.refl _ w).alloc (Nat.le_refl _) _
 have F1 : Full w1 w.heap.size 114 [.func (.func 100) #[] #[]] := by rw [← hw1]; exact Full.new w 114 _
 have CF := contains_91 (show Itms w1 B A c l from Row.below hA hb1 hB) (Nat.le_trans hB hb1.size) hl ⟨w.heap.size, 0, none⟩ (fun i => !rText i) (fun W hW i hi => each_100 (F1.on hW) i (hok i hi))
 unfold BoolB at CF ⊢
 have e := all_not_any rText l
 rw [e]
 obtain ⟨b, hb⟩ : ∃ b, (l.any fun i => !rText i) = b := ⟨_, rfl⟩
 rw [hb] at CF ⊢
 obtain ⟨n, hn⟩ : ∃ n, l.length = n := ⟨_, rfl⟩
 rw [hn] at CF ⊢
 have CF := Lib.hid CF
 have HB1 := Lib.hid hb1
 clear hb hn e hA hB hl hok F1 hb1
 go_enter Tryz.func56, Tryz.ntmps56
 go_wp2_with (first
   | (go_at_call 90; ((with_reducible refine CF.out.mono ?_); rintro en w2 ⟨rfl, hb2⟩; (have HB2 := Lib.hid (HB1.out.trans (hb2.mono HB1.out.size)))))
   | (fail "arm"))
 go_ret
 exact ⟨rfl, HB2.out⟩
end Go.Proofs.YtcjoiiaankngjaaGreatDoor
namespace Go.Proofs.YtcjoiiaankngjaaGreatDoor
set_option maxRecDepth 100000
open Go.RowKit Go.Maps Go.ChangeMaps Go.MapKept Go.WideShapes
def NamesZ (w : World) (b n : Nat) (K : Kn) (z : Nat) : Prop := ∃ D : DataW Unit, w.ownsMap Tryz.prog 9 (plainElem Tryz.prog 4) b n D ∧ Tidy D ∧ Maps.size D = z ∧ ∀ s : ByteArray, has D (klS s) = K s.data.toList
theorem NamesZ.made (w : World) : NamesZ (w.alloc (.map #[] 0)) w.heap.size 0 (fun _ => false) 0 :=
 ⟨.map [], ⟨#[], 0, (MapKept.heap_alloc w _).1, ⟨by simp, stamped_empty 0, by simp⟩, Nat.le_refl _, rfl⟩, tidy_empty, rfl, fun _ => rfl⟩
theorem NamesZ.put {w : World} {b n z : Nat} {K : Kn} (h : NamesZ w b n K z) (s : ByteArray) (hs : s.size ≤ maxLen) (hn : n < maxLen) :
   ∃ w', (Instr.mapUpdate 93 (.map (some b)) (.string s) (.bool true)).run Tryz.prog w = .ok () w' ∧ NamesZ w' b (n + 1) (kPut K s.data.toList) (z + if K s.data.toList then 0 else 1) ∧ Turn (fun g => g = b) w w' := by
 obtain ⟨D, hm, hi, hz, hD⟩ := h
 have hk : keyOf Tryz.prog 9 (.string s) = some (klS s) := WideMaps.keyOf_string_mk (P := Tryz.prog) Tryz.underlying9 hs
 obtain ⟨w', hr, h1, h2⟩ := hm.update law9 Tryz.underlying93 hn hk (plainElem_bool (x := true) Tryz.underlying4)
 refine ⟨w', hr, ⟨_, h1, hi.put (klS_key s) _, ?_, fun x => ?_⟩, ⟨h2.os, h2.tape, h2.output, h2.size, fun g hg hne => h2.block g hg (fun e => hne (by injection e))⟩⟩
 · rw [size_put hi, hz, hD s]
   split <;> rfl
 · unfold kPut
   by_cases hx : x = s
   · subst hx
     rw [has_put_same hi.isMap (klS_key x)]; simp
   · have hne : klS x ≠ klS s := fun e => hx (klS_inj e)
     have hd : decide (x.data.toList = s.data.toList) = false := by
       rw [decide_eq_false_iff_not]
       exact fun e => hx (Go.WideShapes.bytes_inj e)
     rw [hd, Bool.false_or, has_put_other hne]
     exact hD x
theorem NamesZ.lt {w : World} {b n z : Nat} {K : Kn} (h : NamesZ w b n K z) : b < w.heap.size := h.choose_spec.1.lt
theorem NamesZ.keep {w w' : World} {b n z : Nat} {K : Kn} (h : NamesZ w b n K z) (hb : w'.heap[b]? = w.heap[b]?) : NamesZ w' b n K z := by
 obtain ⟨D, hm, hD⟩ := h
 exact ⟨D, ownsMap_keep hm hb, hD⟩
theorem NamesZ.on {w w' : World} {b n z : Nat} {K : Kn} (h : NamesZ w b n K z) (hb : Below w.heap.size w w') : NamesZ w' b n K z := h.keep (hb.block b h.lt)
theorem NamesZ.len {w : World} {b n z : Nat} {K : Kn} (h : NamesZ w b n K z) (ty : TypeId) : (Builtin.len_ #[93] ty #[.map (some b)]).run Tryz.prog w = .ok (.int .i64 (z : Int)) w := by
 obtain ⟨D, hm, _, hz, _⟩ := h
 rw [hm.len Tryz.underlying93, hz]
def nNew : Kn → List (List UInt8) → Nat
 | _, [] => 0
 | K, x :: t => (if K x then 0 else 1) + nNew (kPut K x) t
def pDis : Kn → List (List UInt8) → Bool
 | _, [] => true
 | K, x :: t => !K x && pDis (kPut K x) t
theorem nNew_le : ∀ (K : Kn) (l : List (List UInt8)), nNew K l ≤ l.length
 | _, [] => Nat.le_refl _
 | K, x :: t => by
   rw [nNew]
   have := nNew_le (kPut K x) t
   simp only [List.length_cons]
   split <;> omega
theorem nNew_dis : ∀ (K : Kn) (l : List (List UInt8)), decide (nNew K l = l.length) = pDis K l
 | _, [] => rfl
 | K, x :: t => by
   rw [nNew, pDis, ← nNew_dis (kPut K x) t]
   have := nNew_le (kPut K x) t
   cases hK : K x with
   | true =>
     rw [if_pos rfl, decide_eq_false (by simp only [List.length_cons]; omega)]
     rfl
   | false =>
     rw [if_neg (by decide)]
     simp only [List.length_cons, Bool.not_false, Bool.true_and]
     rw [Bool.eq_iff_iff]
     simp
     omega
set_option maxHeartbeats 4000000 in
theorem distinct_items {w : World} {B c : Nat} {A : Option Addr} {l : List Itm} (hA : Itms w B A c l) (hB : B ≤ w.heap.size) (hl : l.length ≤ 17179869184) (hok : ∀ i ∈ l, (Itm.tx i).length ≤ 4294967000) :
   Calls Tryz.prog 58 #[.slice A l.length c, .func (.func 54) #[] #[]] w (BoolB w (pDis (fun _ => false) (l.map Itm.tx))) := by
 unfold BoolB
 obtain ⟨n, hn⟩ : ∃ n, l.length = n := ⟨_, rfl⟩
 obtain ⟨T, hT⟩ : ∃ n, nNew (fun _ => false) (l.map Itm.tx) = n := ⟨_, rfl⟩
 have hTn := nNew_le (fun _ => false) (l.map Itm.tx)
 have hcap := hA.2.1
 rw [← nNew_dis, List.length_map]
 rw [List.length_map] at hTn
 rw [hT] at hTn ⊢
 rw [hn] at hl hcap hTn ⊢
 have HN := Lib.hid (And.intro hn hT)
 have HOK := Lib.hid hok
 obtain ⟨w1, hw1⟩ : ∃ w1, w.alloc (.map #[] 0) = w1 := ⟨_, rfl⟩
 have hb1 : Below w.heap.size w w1 := by rw [← hw1]; exact (Below.refl _ w).alloc (Nat.le_refl _) _
 have N1 : NamesZ w1 w.heap.size 0 (fun _ => false) 0 := by rw [← hw1]; exact NamesZ.made w
 have s1 : w1.heap.size = w.heap.size + 1 := by rw [← hw1]; exact World.size_alloc _ _
 obtain ⟨d, hd⟩ : ∃ d, w.heap.size = d := ⟨_, rfl⟩
 rw [hd] at N1
 have hmk : (Instr.makeMap 93 none).run Tryz.prog w = .ok (.map (some d)) w1 := by rw [run_makeMap, hd, hw1]
 have HS := Lib.hid (show Hid (NamesZ w1 d 0 (fun _ => false) 0) ∧ 0 + nNew (fun _ => false) ((l.drop 0).map Itm.tx) = T ∧ Below w.heap.size w w1 from ⟨Lib.hid N1, by rw [List.drop_zero, hT, Nat.zero_add], hb1⟩)
 clear hn hT hok hb1 N1 s1
 go_enter Tryz.func58, Tryz.ntmps58
 go_upto_region 3 with fail
 clear hmk
 go_loopw [11] (fun i wr => ∃ (k : Nat) (K : Kn) (z : Nat), i = .int .i64 (k : Int) ∧ k ≤ n ∧ Hid (NamesZ wr d k K z) ∧ Hid (z + nNew K ((l.drop k).map Itm.tx) = T) ∧ Below w.heap.size w wr) (fun i _ => n - (intOf i).toNat)
 case atStart => exact ⟨0, fun _ => false, 0, rfl, Nat.zero_le _, HS.out.1, Lib.hid HS.out.2.1, HS.out.2.2⟩
 case round =>
   obtain ⟨k, K, z, rfl, hk, HM, HZ, hBw⟩ := hrel
   have hi0 : (0 : Int) ≤ (k : Int) := Int.natCast_nonneg _
   by_cases hlt : k < n
   · have hi1 : (k : Int) < (n : Int) := by omega
     have hdd : decide ((k : Int) < (n : Int)) = true := by simp; omega
     have hkl : k < l.length := by have := HN.out.1; omega
     obtain ⟨ad, rfl, hadB, x0, x1, x2, x3⟩ := (show Itms wr B A c l from Row.below hA hBw hB).at_ hkl
     have hmem := List.getElem_mem hkl
     have hszk := HOK.out l[k] hmem
     obtain ⟨y0, hy0⟩ : ∃ y, str l[k].tx = y := ⟨_, rfl⟩
     rw [hy0] at x0
     obtain ⟨y1, hy1⟩ : ∃ y, l[k].gl = y := ⟨_, rfl⟩
     rw [hy1] at x1
     obtain ⟨y2, hy2⟩ : ∃ y, str l[k].pl = y := ⟨_, rfl⟩
     rw [hy2] at x2
     obtain ⟨y3, hy3⟩ : ∃ y : Nat, l[k].ln = y := ⟨_, rfl⟩
     rw [hy3] at x3
     have hcap' : n ≤ c := hcap
     obtain ⟨w2, hw2⟩ : ∃ w2, wr.alloc (.cells #[.string y0, .bool y1, .string y2, .int .i64 (y3 : Int)] 52) = w2 := ⟨_, rfl⟩
     have hb2 : Below wr.heap.size wr w2 := by rw [← hw2]; exact (Below.refl _ wr).alloc (Nat.le_refl _) _
     have F2 : Full w2 wr.heap.size 52 [.string y0, .bool y1, .string y2, .int .i64 (y3 : Int)] := by rw [← hw2]; exact Full.new wr 52 _
     obtain ⟨u, hu⟩ : ∃ u, wr.heap.size = u := ⟨_, rfl⟩
     rw [hu] at F2
     have u0 : w2.cell? ⟨u, 0, none⟩ = some (.string y0) := F2.cell 0
     have u1 : w2.cell? ⟨u, 1, none⟩ = some (.bool y1) := F2.cell 1
     have u2 : w2.cell? ⟨u, 2, none⟩ = some (.string y2) := F2.cell 2
     have u3 : w2.cell? ⟨u, 3, none⟩ = some (.int .i64 (y3 : Int)) := F2.cell 3
     obtain ⟨S, hS⟩ : ∃ S, (Itm.tx l[k]) = S := ⟨_, rfl⟩
     have hys : y0.size ≤ maxLen := by
       rw [← hy0, str_size]
       unfold maxLen
       have q := hszk
       first | omega | (change (l[k].1.name).length ≤ _ at q; omega) | (change (l[k].tx).length ≤ _ at q; omega)
     rw [hS] at hszk
     have HYtcjoiiaankngjaaGreatDoor := Lib.hid (fun W => (by
       have z := bare_any l[k] W
       unfold itmV StrB at z
       rw [hy0, hy1, hy2, hy3] at z
       exact z : Calls Tryz.prog 54 #[.agg #[.string y0, .bool y1, .string y2, .int .i64 (y3 : Int)]] W (fun e w' => e = .returned (.string y0) ∧ Below W.heap.size W w')))
     have HUP := Lib.hid (fun (W : World) (hW : Below w2.heap.size w2 W) => (by
       have q := (((HM.out.on hb2).on hW).put y0 hys (by unfold maxLen; omega) : _)
       exact q))
     have hdk : l.drop k = l[k] :: l.drop (k + 1) := List.drop_eq_getElem_cons hkl
     have hZ := HZ.out
     rw [hdk, List.map_cons, nNew] at hZ
     have ey : y0.data.toList = Itm.tx l[k] := by rw [← hy0, str_data]
     have HZ2 := Lib.hid (show (z + if K y0.data.toList then 0 else 1) + nNew (kPut K y0.data.toList) ((l.drop (k + 1)).map Itm.tx) = T by rw [ey]; omega)
     have HB2 := Lib.hid (hBw.trans (hb2.mono hBw.size))
     clear hy0 hy1 hy2 hy3 hS hZ hdk ey hb2 F2 hmem
     go_wp2_with (first
       | (go_at_call 54; ((with_reducible refine (HYtcjoiiaankngjaaGreatDoor.out _).mono ?_); rintro en w3 ⟨rfl, hb3⟩; (obtain ⟨w4, hr4, hm4, hT4⟩ := HUP.out w3 hb3); (have HM4 := Lib.hid hm4); (have HB4 := Lib.hid (show Below w.heap.size w w4 from (HB2.out.trans (hb3.mono HB2.out.size)).trans ⟨hT4.os, hT4.tape, hT4.output, hT4.size, fun g hg => hT4.block g (Nat.lt_of_lt_of_le hg (Nat.le_trans HB2.out.size hb3.size)) (by omega)⟩)); clear hm4 hT4 hb3))
       | (fail "arm"))
     go_roundw
     case rel => exact ⟨k + 1, _, _, by simp, hlt, HM4, HZ2, HB4.out⟩
     case measure => show n - ((k : Int) + 1).toNat < n - (k : Int).toNat; omega
   · obtain rfl : k = n := by omega
     have hdd : decide ((k : Int) < (k : Int)) = false := by simp
     have e : z = T := by
       have q := HZ.out
       rw [List.drop_eq_nil_of_le (by rw [HN.out.1]; exact Nat.le_refl _)] at q
       simpa [nNew] using q
     subst e
     have HB2 := Lib.hid hBw
     have hlen := HM.out.len 3
     have hfin : ((z : Int) == (k : Int)) = decide (z = k) := by rw [Bool.eq_iff_iff]; simp; omega
     go_wp2
     go_ret
     refine ⟨?_, HB2.out⟩
     rw [← hfin]
     rfl
end Go.Proofs.YtcjoiiaankngjaaGreatDoor
namespace Go.Proofs.YtcjoiiaankngjaaGreatDoor
set_option maxRecDepth 100000
open Go.RowKit
def TR (w : World) (B : Nat) (p : Tgt × (Nat → Value)) : Prop := ∀ i, i < 4 → ∃ A c, p.2 i = .slice A (p.1.rows i).length c ∧ Itms w B A c (p.1.rows i)
theorem TR.below {w w' : World} {B B' : Nat} {p : Tgt × (Nat → Value)} (h : TR w B p) (hb : Below B' w w') (hB : B ≤ B') : TR w' B p := fun i hi => by
 obtain ⟨A, c, e, q⟩ := h i hi
 exact ⟨A, c, e, Row.below q hb hB⟩
structure TOk (T : Tgt) : Prop where
 name : StrOk T.name
 rows : ∀ i, i < 4 → (T.rows i).length ≤ 17179869184 ∧ ∀ x ∈ T.rows i, ItmOk x
def rKind (T : Tgt) : Bool := decide (1 ≤ T.kind) && decide (T.kind ≤ 4)
def rNums (T : Tgt) : Bool := decide (1 ≤ T.cost) && decide (T.cost ≤ 1000) && decide (0 ≤ T.retry) && decide (T.retry ≤ 5) && (decide (T.retry = 0) || decide (T.kind = 3))
def rTarget (T : Tgt) : Bool := isWordB T.name && rKind T && rNums T && (T.rows 0).all rSource && (T.rows 1).all rDep && (T.rows 2).all rText && (T.rows 3).all rText
theorem name_any62 (y0 : ByteArray) (y1 : Int) (y2 : Nat) (A0 A1 A2 A3 : Option Addr) (n0 c0 n1 c1 n2 c2 n3 c3 : Nat) (y7 y8 : Int) (w : World) : Calls Tryz.prog 62 #[.agg #[.string y0, .int .i64 y1, .int .i64 (y2 : Int), .slice A0 n0 c0, .slice A1 n1 c1, .slice A2 n2 c2, .slice A3 n3 c3, .int .i64 y7, .int .i64 y8]] w (fun e w' => e = .returned (.string y0) ∧ Below w.heap.size w w') := by
 obtain ⟨w1, hw1⟩ : ∃ w1, w.alloc (.cells #[.string y0, .int .i64 y1, .int .i64 (y2 : Int), .slice A0 n0 c0, .slice A1 n1 c1, .slice A2 n2 c2, .slice A3 n3 c3, .int .i64 y7, .int .i64 y8] 50) = w1 := ⟨_, rfl⟩
 have hb1 : Below w.heap.size w w1 := by rw [← hw1]; exact (Below.refl _ w).alloc (Nat.le_refl _) _
 have F1 : Full w1 w.heap.size 50 [.string y0, .int .i64 y1, .int .i64 (y2 : Int), .slice A0 n0 c0, .slice A1 n1 c1, .slice A2 n2 c2, .slice A3 n3 c3, .int .i64 y7, .int .i64 y8] := by rw [← hw1]; exact Full.new w 50 _
 obtain ⟨r, hr⟩ : ∃ r, w.heap.size = r := ⟨_, rfl⟩
 rw [hr] at F1
 have c_0 : w1.cell? ⟨r, 0, none⟩ = some (.string y0) := F1.cell 0
 have c_1 : w1.cell? ⟨r, 1, none⟩ = some (.int .i64 y1) := F1.cell 1
 have c_2 : w1.cell? ⟨r, 2, none⟩ = some (.int .i64 (y2 : Int)) := F1.cell 2
 have c_3 : w1.cell? ⟨r, 3, none⟩ = some (.slice A0 n0 c0) := F1.cell 3
 have c_4 : w1.cell? ⟨r, 4, none⟩ = some (.slice A1 n1 c1) := F1.cell 4
 have c_5 : w1.cell? ⟨r, 5, none⟩ = some (.slice A2 n2 c2) := F1.cell 5
 have c_6 : w1.cell? ⟨r, 6, none⟩ = some (.slice A3 n3 c3) := F1.cell 6
 have c_7 : w1.cell? ⟨r, 7, none⟩ = some (.int .i64 y7) := F1.cell 7
 have c_8 : w1.cell? ⟨r, 8, none⟩ = some (.int .i64 y8) := F1.cell 8
 have HB := Lib.hid hb1
 clear F1 hb1
 go_enter Tryz.func62, Tryz.ntmps62
 go_wp2
 go_ret
 exact ⟨rfl, HB.out⟩
theorem kind_any96 (y0 : ByteArray) (y1 : Int) (y2 : Nat) (A0 A1 A2 A3 : Option Addr) (n0 c0 n1 c1 n2 c2 n3 c3 : Nat) (y7 y8 : Int) (w : World) : Calls Tryz.prog 96 #[.agg #[.string y0, .int .i64 y1, .int .i64 (y2 : Int), .slice A0 n0 c0, .slice A1 n1 c1, .slice A2 n2 c2, .slice A3 n3 c3, .int .i64 y7, .int .i64 y8]] w (BoolB w (decide (1 ≤ y1) && decide (y1 ≤ 4))) := by
 unfold BoolB
 obtain ⟨w1, hw1⟩ : ∃ w1, w.alloc (.cells #[.string y0, .int .i64 y1, .int .i64 (y2 : Int), .slice A0 n0 c0, .slice A1 n1 c1, .slice A2 n2 c2, .slice A3 n3 c3, .int .i64 y7, .int .i64 y8] 50) = w1 := ⟨_, rfl⟩
 have hb1 : Below w.heap.size w w1 := by rw [← hw1]; exact (Below.refl _ w).alloc (Nat.le_refl _) _
 have F1 : Full w1 w.heap.size 50 [.string y0, .int .i64 y1, .int .i64 (y2 : Int), .slice A0 n0 c0, .slice A1 n1 c1, .slice A2 n2 c2, .slice A3 n3 c3, .int .i64 y7, .int .i64 y8] := by rw [← hw1]; exact Full.new w 50 _
 obtain ⟨r, hr⟩ : ∃ r, w.heap.size = r := ⟨_, rfl⟩
 rw [hr] at F1
 have c_0 : w1.cell? ⟨r, 0, none⟩ = some (.string y0) := F1.cell 0
 have c_1 : w1.cell? ⟨r, 1, none⟩ = some (.int .i64 y1) := F1.cell 1
 have c_2 : w1.cell? ⟨r, 2, none⟩ = some (.int .i64 (y2 : Int)) := F1.cell 2
 have c_3 : w1.cell? ⟨r, 3, none⟩ = some (.slice A0 n0 c0) := F1.cell 3
 have c_4 : w1.cell? ⟨r, 4, none⟩ = some (.slice A1 n1 c1) := F1.cell 4
 have c_5 : w1.cell? ⟨r, 5, none⟩ = some (.slice A2 n2 c2) := F1.cell 5
 have c_6 : w1.cell? ⟨r, 6, none⟩ = some (.slice A3 n3 c3) := F1.cell 6
 have c_7 : w1.cell? ⟨r, 7, none⟩ = some (.int .i64 y7) := F1.cell 7
 have c_8 : w1.cell? ⟨r, 8, none⟩ = some (.int .i64 y8) := F1.cell 8
 have HB := Lib.hid hb1
 obtain ⟨a, ha⟩ : ∃ a, decide ((1 : Int) ≤ y1) = a := ⟨_, rfl⟩
 obtain ⟨b, hb⟩ : ∃ a, decide (y1 ≤ (4 : Int)) = a := ⟨_, rfl⟩
 rw [ha, hb]
 clear F1 hb1
 cases a <;> cases b
 all_goals
   go_enter Tryz.func96, Tryz.ntmps96
   go_wp2
   all_goals (go_ret; exact ⟨rfl, HB.out⟩)
set_option maxHeartbeats 1000000 in
theorem nums_any97 (y0 : ByteArray) (y1 : Int) (y2 : Nat) (A0 A1 A2 A3 : Option Addr) (n0 c0 n1 c1 n2 c2 n3 c3 : Nat) (y7 y8 : Int) (w : World) : Calls Tryz.prog 97 #[.agg #[.string y0, .int .i64 y1, .int .i64 (y2 : Int), .slice A0 n0 c0, .slice A1 n1 c1, .slice A2 n2 c2, .slice A3 n3 c3, .int .i64 y7, .int .i64 y8]] w (BoolB w (decide (1 ≤ y7) && decide (y7 ≤ 1000) && decide (0 ≤ y8) && decide (y8 ≤ 5) && (decide (y8 = 0) || decide (y1 = 3)))) := by
 unfold BoolB
 obtain ⟨w1, hw1⟩ : ∃ w1, w.alloc (.cells #[.string y0, .int .i64 y1, .int .i64 (y2 : Int), .slice A0 n0 c0, .slice A1 n1 c1, .slice A2 n2 c2, .slice A3 n3 c3, .int .i64 y7, .int .i64 y8] 50) = w1 := ⟨_, rfl⟩
 have hb1 : Below w.heap.size w w1 := by rw [← hw1]; exact (Below.refl _ w).alloc (Nat.le_refl _) _
 have F1 : Full w1 w.heap.size 50 [.string y0, .int .i64 y1, .int .i64 (y2 : Int), .slice A0 n0 c0, .slice A1 n1 c1, .slice A2 n2 c2, .slice A3 n3 c3, .int .i64 y7, .int .i64 y8] := by rw [← hw1]; exact Full.new w 50 _
 obtain ⟨r, hr⟩ : ∃ r, w.heap.size = r := ⟨_, rfl⟩
 rw [hr] at F1
 have c_0 : w1.cell? ⟨r, 0, none⟩ = some (.string y0) := F1.cell 0
 have c_1 : w1.cell? ⟨r, 1, none⟩ = some (.int .i64 y1) := F1.cell 1
 have c_2 : w1.cell? ⟨r, 2, none⟩ = some (.int .i64 (y2 : Int)) := F1.cell 2
 have c_3 : w1.cell? ⟨r, 3, none⟩ = some (.slice A0 n0 c0) := F1.cell 3
 have c_4 : w1.cell? ⟨r, 4, none⟩ = some (.slice A1 n1 c1) := F1.cell 4
 have c_5 : w1.cell? ⟨r, 5, none⟩ = some (.slice A2 n2 c2) := F1.cell 5
 have c_6 : w1.cell? ⟨r, 6, none⟩ = some (.slice A3 n3 c3) := F1.cell 6
 have c_7 : w1.cell? ⟨r, 7, none⟩ = some (.int .i64 y7) := F1.cell 7
 have c_8 : w1.cell? ⟨r, 8, none⟩ = some (.int .i64 y8) := F1.cell 8
 have HB := Lib.hid hb1
 obtain ⟨b1, h1⟩ : ∃ a, decide ((1 : Int) ≤ y7) = a := ⟨_, rfl⟩
 obtain ⟨b2, h2⟩ : ∃ a, decide (y7 ≤ (1000 : Int)) = a := ⟨_, rfl⟩
 obtain ⟨b3, h3⟩ : ∃ a, decide ((0 : Int) ≤ y8) = a := ⟨_, rfl⟩
 obtain ⟨b4, h4⟩ : ∃ a, decide (y8 ≤ (5 : Int)) = a := ⟨_, rfl⟩
 obtain ⟨b5, h5⟩ : ∃ a, decide (y8 = (0 : Int)) = a := ⟨_, rfl⟩
 obtain ⟨b6, h6⟩ : ∃ a, decide (y1 = (3 : Int)) = a := ⟨_, rfl⟩
 have e5 : (y8 == 0) = b5 := by rw [← h5]; rw [Bool.eq_iff_iff]; simp
 have e6 : (y1 == 3) = b6 := by rw [← h6]; rw [Bool.eq_iff_iff]; simp
 rw [h1, h2, h3, h4, h5, h6]
 clear F1 hb1 h5 h6
 have WALK : ∀ v, v = (b1 && b2 && b3 && b4 && (b5 || b6)) → True := fun _ _ => trivial
 clear WALK
 cases b1 with
 | false => (go_enter Tryz.func97, Tryz.ntmps97; go_wp2; go_ret; exact ⟨by simp, HB.out⟩)
 | true =>
   cases b2 with
   | false => (go_enter Tryz.func97, Tryz.ntmps97; go_wp2; go_ret; exact ⟨by simp, HB.out⟩)
   | true =>
     cases b3 with
     | false => (go_enter Tryz.func97, Tryz.ntmps97; go_wp2; go_ret; exact ⟨by simp, HB.out⟩)
     | true =>
       cases b4 with
       | false => (go_enter Tryz.func97, Tryz.ntmps97; go_wp2; go_ret; exact ⟨by simp, HB.out⟩)
       | true =>
         cases b5 with
         | true => (go_enter Tryz.func97, Tryz.ntmps97; go_wp2; go_ret; exact ⟨by simp, HB.out⟩)
         | false =>
           cases b6 with
           | false => (go_enter Tryz.func97, Tryz.ntmps97; go_wp2; go_ret; exact ⟨by simp, HB.out⟩)
           | true => (go_enter Tryz.func97, Tryz.ntmps97; go_wp2; go_ret; exact ⟨by simp, HB.out⟩)
set_option maxHeartbeats 8000000 in
theorem target_any60 (y0 : ByteArray) (y1 : Int) (y2 : Nat) (A0 A1 A2 A3 : Option Addr) (n0 c0 n1 c1 n2 c2 n3 c3 : Nat) (y7 y8 : Int) (w : World) (b1 b2 b3 b4 b5 b6 b7 : Bool)
   (g1 : ∀ W, Calls Tryz.prog 95 #[.string y0] W (BoolB W b1)) (g2 : ∀ W, Calls Tryz.prog 96 #[.agg #[.string y0, .int .i64 y1, .int .i64 (y2 : Int), .slice A0 n0 c0, .slice A1 n1 c1, .slice A2 n2 c2, .slice A3 n3 c3, .int .i64 y7, .int .i64 y8]] W (BoolB W b2)) (g3 : ∀ W, Calls Tryz.prog 97 #[.agg #[.string y0, .int .i64 y1, .int .i64 (y2 : Int), .slice A0 n0 c0, .slice A1 n1 c1, .slice A2 n2 c2, .slice A3 n3 c3, .int .i64 y7, .int .i64 y8]] W (BoolB W b3))
   (g4 : ∀ W, Below w.heap.size w W → Calls Tryz.prog 56 #[.slice A0 n0 c0, .func (.func 98) #[] #[]] W (BoolB W b4)) (g5 : ∀ W, Below w.heap.size w W → Calls Tryz.prog 56 #[.slice A1 n1 c1, .func (.func 99) #[] #[]] W (BoolB W b5))
   (g6 : ∀ W, Below w.heap.size w W → Calls Tryz.prog 56 #[.slice A2 n2 c2, .func (.func 100) #[] #[]] W (BoolB W b6)) (g7 : ∀ W, Below w.heap.size w W → Calls Tryz.prog 56 #[.slice A3 n3 c3, .func (.func 100) #[] #[]] W (BoolB W b7)) :
   Calls Tryz.prog 60 #[.agg #[.string y0, .int .i64 y1, .int .i64 (y2 : Int), .slice A0 n0 c0, .slice A1 n1 c1, .slice A2 n2 c2, .slice A3 n3 c3, .int .i64 y7, .int .i64 y8]] w (BoolB w (b1 && b2 && b3 && b4 && b5 && b6 && b7)) := by
 unfold BoolB at g1 g2 g3 g4 g5 g6 g7 ⊢
 obtain ⟨w1, hw1⟩ : ∃ w1, w.alloc (.cells #[.string y0, .int .i64 y1, .int .i64 (y2 : Int), .slice A0 n0 c0, .slice A1 n1 c1, .slice A2 n2 c2, .slice A3 n3 c3, .int .i64 y7, .int .i64 y8] 50) = w1 := ⟨_, rfl⟩
 have hb1 : Below w.heap.size w w1 := by rw [← hw1]; exact (Below.refl _ w).alloc (Nat.le_refl _) _
 have F1 : Full w1 w.heap.size 50 [.string y0, .int .i64 y1, .int .i64 (y2 : Int), .slice A0 n0 c0, .slice A1 n1 c1, .slice A2 n2 c2, .slice A3 n3 c3, .int .i64 y7, .int .i64 y8] := by rw [← hw1]; exact Full.new w 50 _
 obtain ⟨r, hr⟩ : ∃ r, w.heap.size = r := ⟨_, rfl⟩
 rw [hr] at F1
 have c1_0 : w1.cell? ⟨r, 0, none⟩ = some (.string y0) := F1.cell 0
 have c1_1 : w1.cell? ⟨r, 1, none⟩ = some (.int .i64 y1) := F1.cell 1
 have c1_2 : w1.cell? ⟨r, 2, none⟩ = some (.int .i64 (y2 : Int)) := F1.cell 2
 have c1_3 : w1.cell? ⟨r, 3, none⟩ = some (.slice A0 n0 c0) := F1.cell 3
 have c1_4 : w1.cell? ⟨r, 4, none⟩ = some (.slice A1 n1 c1) := F1.cell 4
 have c1_5 : w1.cell? ⟨r, 5, none⟩ = some (.slice A2 n2 c2) := F1.cell 5
 have c1_6 : w1.cell? ⟨r, 6, none⟩ = some (.slice A3 n3 c3) := F1.cell 6
 have c1_7 : w1.cell? ⟨r, 7, none⟩ = some (.int .i64 y7) := F1.cell 7
 have c1_8 : w1.cell? ⟨r, 8, none⟩ = some (.int .i64 y8) := F1.cell 8
 have HB1 := Lib.hid hb1
 have H1 := Lib.hid g1
 have H2 := Lib.hid g2
 have H3 := Lib.hid g3
 have H4 := Lib.hid g4
 have H5 := Lib.hid g5
 have H6 := Lib.hid g6
 have H7 := Lib.hid g7
 clear hb1 g1 g2 g3 g4 g5 g6 g7
 cases b1 with
 | false => (go_enter Tryz.func60, Tryz.ntmps60; go_wp2_with (first | (go_at_call 95; ((with_reducible refine (H1.out w1).mono ?_); rintro en w2 ⟨rfl, hb2⟩; (have F2 := F1.on hb2); (have HB2 := Lib.hid (HB1.out.trans (hb2.mono HB1.out.size))); (have c2_0 : w2.cell? ⟨r, 0, none⟩ = some (.string y0) := F2.cell 0); (have c2_1 : w2.cell? ⟨r, 1, none⟩ = some (.int .i64 y1) := F2.cell 1); (have c2_2 : w2.cell? ⟨r, 2, none⟩ = some (.int .i64 (y2 : Int)) := F2.cell 2); (have c2_3 : w2.cell? ⟨r, 3, none⟩ = some (.slice A0 n0 c0) := F2.cell 3); (have c2_4 : w2.cell? ⟨r, 4, none⟩ = some (.slice A1 n1 c1) := F2.cell 4); (have c2_5 : w2.cell? ⟨r, 5, none⟩ = some (.slice A2 n2 c2) := F2.cell 5); (have c2_6 : w2.cell? ⟨r, 6, none⟩ = some (.slice A3 n3 c3) := F2.cell 6); (have c2_7 : w2.cell? ⟨r, 7, none⟩ = some (.int .i64 y7) := F2.cell 7); (have c2_8 : w2.cell? ⟨r, 8, none⟩ = some (.int .i64 y8) := F2.cell 8))) | (fail "arm")); go_ret; exact ⟨rfl, HB2.out⟩)
 | true =>
   cases b2 with
   | false => (go_enter Tryz.func60, Tryz.ntmps60; go_wp2_with (first | (go_at_call 95; ((with_reducible refine (H1.out w1).mono ?_); rintro en w2 ⟨rfl, hb2⟩; (have F2 := F1.on hb2); (have HB2 := Lib.hid (HB1.out.trans (hb2.mono HB1.out.size))); (have c2_0 : w2.cell? ⟨r, 0, none⟩ = some (.string y0) := F2.cell 0); (have c2_1 : w2.cell? ⟨r, 1, none⟩ = some (.int .i64 y1) := F2.cell 1); (have c2_2 : w2.cell? ⟨r, 2, none⟩ = some (.int .i64 (y2 : Int)) := F2.cell 2); (have c2_3 : w2.cell? ⟨r, 3, none⟩ = some (.slice A0 n0 c0) := F2.cell 3); (have c2_4 : w2.cell? ⟨r, 4, none⟩ = some (.slice A1 n1 c1) := F2.cell 4); (have c2_5 : w2.cell? ⟨r, 5, none⟩ = some (.slice A2 n2 c2) := F2.cell 5); (have c2_6 : w2.cell? ⟨r, 6, none⟩ = some (.slice A3 n3 c3) := F2.cell 6); (have c2_7 : w2.cell? ⟨r, 7, none⟩ = some (.int .i64 y7) := F2.cell 7); (have c2_8 : w2.cell? ⟨r, 8, none⟩ = some (.int .i64 y8) := F2.cell 8))) | (go_at_call 96; ((with_reducible refine (H2.out w2).mono ?_); rintro en w3 ⟨rfl, hb3⟩; (have F3 := F2.on hb3); (have HB3 := Lib.hid (HB2.out.trans (hb3.mono HB2.out.size))); (have c3_0 : w3.cell? ⟨r, 0, none⟩ = some (.string y0) := F3.cell 0); (have c3_1 : w3.cell? ⟨r, 1, none⟩ = some (.int .i64 y1) := F3.cell 1); (have c3_2 : w3.cell? ⟨r, 2, none⟩ = some (.int .i64 (y2 : Int)) := F3.cell 2); (have c3_3 : w3.cell? ⟨r, 3, none⟩ = some (.slice A0 n0 c0) := F3.cell 3); (have c3_4 : w3.cell? ⟨r, 4, none⟩ = some (.slice A1 n1 c1) := F3.cell 4); (have c3_5 : w3.cell? ⟨r, 5, none⟩ = some (.slice A2 n2 c2) := F3.cell 5); (have c3_6 : w3.cell? ⟨r, 6, none⟩ = some (.slice A3 n3 c3) := F3.cell 6); (have c3_7 : w3.cell? ⟨r, 7, none⟩ = some (.int .i64 y7) := F3.cell 7); (have c3_8 : w3.cell? ⟨r, 8, none⟩ = some (.int .i64 y8) := F3.cell 8))) | (fail "arm")); go_ret; exact ⟨rfl, HB3.out⟩)
   | true =>
     cases b3 with
     | false => (go_enter Tryz.func60, Tryz.ntmps60; go_wp2_with (first | (go_at_call 95; ((with_reducible refine (H1.out w1).mono ?_); rintro en w2 ⟨rfl, hb2⟩; (have F2 := F1.on hb2); (have HB2 := Lib.hid (HB1.out.trans (hb2.mono HB1.out.size))); (have c2_0 : w2.cell? ⟨r, 0, none⟩ = some (.string y0) := F2.cell 0); (have c2_1 : w2.cell? ⟨r, 1, none⟩ = some (.int .i64 y1) := F2.cell 1); (have c2_2 : w2.cell? ⟨r, 2, none⟩ = some (.int .i64 (y2 : Int)) := F2.cell 2); (have c2_3 : w2.cell? ⟨r, 3, none⟩ = some (.slice A0 n0 c0) := F2.cell 3); (have c2_4 : w2.cell? ⟨r, 4, none⟩ = some (.slice A1 n1 c1) := F2.cell 4); (have c2_5 : w2.cell? ⟨r, 5, none⟩ = some (.slice A2 n2 c2) := F2.cell 5); (have c2_6 : w2.cell? ⟨r, 6, none⟩ = some (.slice A3 n3 c3) := F2.cell 6); (have c2_7 : w2.cell? ⟨r, 7, none⟩ = some (.int .i64 y7) := F2.cell 7); (have c2_8 : w2.cell? ⟨r, 8, none⟩ = some (.int .i64 y8) := F2.cell 8))) | (go_at_call 96; ((with_reducible refine (H2.out w2).mono ?_); rintro en w3 ⟨rfl, hb3⟩; (have F3 := F2.on hb3); (have HB3 := Lib.hid (HB2.out.trans (hb3.mono HB2.out.size))); (have c3_0 : w3.cell? ⟨r, 0, none⟩ = some (.string y0) := F3.cell 0); (have c3_1 : w3.cell? ⟨r, 1, none⟩ = some (.int .i64 y1) := F3.cell 1); (have c3_2 : w3.cell? ⟨r, 2, none⟩ = some (.int .i64 (y2 : Int)) := F3.cell 2); (have c3_3 : w3.cell? ⟨r, 3, none⟩ = some (.slice A0 n0 c0) := F3.cell 3); (have c3_4 : w3.cell? ⟨r, 4, none⟩ = some (.slice A1 n1 c1) := F3.cell 4); (have c3_5 : w3.cell? ⟨r, 5, none⟩ = some (.slice A2 n2 c2) := F3.cell 5); (have c3_6 : w3.cell? ⟨r, 6, none⟩ = some (.slice A3 n3 c3) := F3.cell 6); (have c3_7 : w3.cell? ⟨r, 7, none⟩ = some (.int .i64 y7) := F3.cell 7); (have c3_8 : w3.cell? ⟨r, 8, none⟩ = some (.int .i64 y8) := F3.cell 8))) | (go_at_call 97; ((with_reducible refine (H3.out w3).mono ?_); rintro en w4 ⟨rfl, hb4⟩; (have F4 := F3.on hb4); (have HB4 := Lib.hid (HB3.out.trans (hb4.mono HB3.out.size))); (have c4_0 : w4.cell? ⟨r, 0, none⟩ = some (.string y0) := F4.cell 0); (have c4_1 : w4.cell? ⟨r, 1, none⟩ = some (.int .i64 y1) := F4.cell 1); (have c4_2 : w4.cell? ⟨r, 2, none⟩ = some (.int .i64 (y2 : Int)) := F4.cell 2); (have c4_3 : w4.cell? ⟨r, 3, none⟩ = some (.slice A0 n0 c0) := F4.cell 3); (have c4_4 : w4.cell? ⟨r, 4, none⟩ = some (.slice A1 n1 c1) := F4.cell 4); (have c4_5 : w4.cell? ⟨r, 5, none⟩ = some (.slice A2 n2 c2) := F4.cell 5); (have c4_6 : w4.cell? ⟨r, 6, none⟩ = some (.slice A3 n3 c3) := F4.cell 6); (have c4_7 : w4.cell? ⟨r, 7, none⟩ = some (.int .i64 y7) := F4.cell 7); (have c4_8 : w4.cell? ⟨r, 8, none⟩ = some (.int .i64 y8) := F4.cell 8))) | (fail "arm")); go_ret; exact ⟨rfl, HB4.out⟩)
     | true =>
       cases b4 with
       | false => (go_enter Tryz.func60, Tryz.ntmps60; go_wp2_with (first | (go_at_call 95; ((with_reducible refine (H1.out w1).mono ?_); rintro en w2 ⟨rfl, hb2⟩; (have F2 := F1.on hb2); (have HB2 := Lib.hid (HB1.out.trans (hb2.mono HB1.out.size))); (have c2_0 : w2.cell? ⟨r, 0, none⟩ = some (.string y0) := F2.cell 0); (have c2_1 : w2.cell? ⟨r, 1, none⟩ = some (.int .i64 y1) := F2.cell 1); (have c2_2 : w2.cell? ⟨r, 2, none⟩ = some (.int .i64 (y2 : Int)) := F2.cell 2); (have c2_3 : w2.cell? ⟨r, 3, none⟩ = some (.slice A0 n0 c0) := F2.cell 3); (have c2_4 : w2.cell? ⟨r, 4, none⟩ = some (.slice A1 n1 c1) := F2.cell 4); (have c2_5 : w2.cell? ⟨r, 5, none⟩ = some (.slice A2 n2 c2) := F2.cell 5); (have c2_6 : w2.cell? ⟨r, 6, none⟩ = some (.slice A3 n3 c3) := F2.cell 6); (have c2_7 : w2.cell? ⟨r, 7, none⟩ = some (.int .i64 y7) := F2.cell 7); (have c2_8 : w2.cell? ⟨r, 8, none⟩ = some (.int .i64 y8) := F2.cell 8))) | (go_at_call 96; ((with_reducible refine (H2.out w2).mono ?_); rintro en w3 ⟨rfl, hb3⟩; (have F3 := F2.on hb3); (have HB3 := Lib.hid (HB2.out.trans (hb3.mono HB2.out.size))); (have c3_0 : w3.cell? ⟨r, 0, none⟩ = some (.string y0) := F3.cell 0); (have c3_1 : w3.cell? ⟨r, 1, none⟩ = some (.int .i64 y1) := F3.cell 1); (have c3_2 : w3.cell? ⟨r, 2, none⟩ = some (.int .i64 (y2 : Int)) := F3.cell 2); (have c3_3 : w3.cell? ⟨r, 3, none⟩ = some (.slice A0 n0 c0) := F3.cell 3); (have c3_4 : w3.cell? ⟨r, 4, none⟩ = some (.slice A1 n1 c1) := F3.cell 4); (have c3_5 : w3.cell? ⟨r, 5, none⟩ = some (.slice A2 n2 c2) := F3.cell 5); (have c3_6 : w3.cell? ⟨r, 6, none⟩ = some (.slice A3 n3 c3) := F3.cell 6); (have c3_7 : w3.cell? ⟨r, 7, none⟩ = some (.int .i64 y7) := F3.cell 7); (have c3_8 : w3.cell? ⟨r, 8, none⟩ = some (.int .i64 y8) := F3.cell 8))) | (go_at_call 97; ((with_reducible refine (H3.out w3).mono ?_); rintro en w4 ⟨rfl, hb4⟩; (have F4 := F3.on hb4); (have HB4 := Lib.hid (HB3.out.trans (hb4.mono HB3.out.size))); (have c4_0 : w4.cell? ⟨r, 0, none⟩ = some (.string y0) := F4.cell 0); (have c4_1 : w4.cell? ⟨r, 1, none⟩ = some (.int .i64 y1) := F4.cell 1); (have c4_2 : w4.cell? ⟨r, 2, none⟩ = some (.int .i64 (y2 : Int)) := F4.cell 2); (have c4_3 : w4.cell? ⟨r, 3, none⟩ = some (.slice A0 n0 c0) := F4.cell 3); (have c4_4 : w4.cell? ⟨r, 4, none⟩ = some (.slice A1 n1 c1) := F4.cell 4); (have c4_5 : w4.cell? ⟨r, 5, none⟩ = some (.slice A2 n2 c2) := F4.cell 5); (have c4_6 : w4.cell? ⟨r, 6, none⟩ = some (.slice A3 n3 c3) := F4.cell 6); (have c4_7 : w4.cell? ⟨r, 7, none⟩ = some (.int .i64 y7) := F4.cell 7); (have c4_8 : w4.cell? ⟨r, 8, none⟩ = some (.int .i64 y8) := F4.cell 8))) | (go_at_call 56; ((with_reducible refine (H4.out w4 HB4.out).mono ?_); rintro en w5 ⟨rfl, hb5⟩; (have F5 := F4.on hb5); (have HB5 := Lib.hid (HB4.out.trans (hb5.mono HB4.out.size))); (have c5_0 : w5.cell? ⟨r, 0, none⟩ = some (.string y0) := F5.cell 0); (have c5_1 : w5.cell? ⟨r, 1, none⟩ = some (.int .i64 y1) := F5.cell 1); (have c5_2 : w5.cell? ⟨r, 2, none⟩ = some (.int .i64 (y2 : Int)) := F5.cell 2); (have c5_3 : w5.cell? ⟨r, 3, none⟩ = some (.slice A0 n0 c0) := F5.cell 3); (have c5_4 : w5.cell? ⟨r, 4, none⟩ = some (.slice A1 n1 c1) := F5.cell 4); (have c5_5 : w5.cell? ⟨r, 5, none⟩ = some (.slice A2 n2 c2) := F5.cell 5); (have c5_6 : w5.cell? ⟨r, 6, none⟩ = some (.slice A3 n3 c3) := F5.cell 6); (have c5_7 : w5.cell? ⟨r, 7, none⟩ = some (.int .i64 y7) := F5.cell 7); (have c5_8 : w5.cell? ⟨r, 8, none⟩ = some (.int .i64 y8) := F5.cell 8))) | (fail "arm")); go_ret; exact ⟨rfl, HB5.out⟩)
       | true =>
         cases b5 with
         | false => (go_enter Tryz.func60, Tryz.ntmps60; go_wp2_with (first | (go_at_call 95; ((with_reducible refine (H1.out w1).mono ?_); rintro en w2 ⟨rfl, hb2⟩; (have F2 := F1.on hb2); (have HB2 := Lib.hid (HB1.out.trans (hb2.mono HB1.out.size))); (have c2_0 : w2.cell? ⟨r, 0, none⟩ = some (.string y0) := F2.cell 0); (have c2_1 : w2.cell? ⟨r, 1, none⟩ = some (.int .i64 y1) := F2.cell 1); (have c2_2 : w2.cell? ⟨r, 2, none⟩ = some (.int .i64 (y2 : Int)) := F2.cell 2); (have c2_3 : w2.cell? ⟨r, 3, none⟩ = some (.slice A0 n0 c0) := F2.cell 3); (have c2_4 : w2.cell? ⟨r, 4, none⟩ = some (.slice A1 n1 c1) := F2.cell 4); (have c2_5 : w2.cell? ⟨r, 5, none⟩ = some (.slice A2 n2 c2) := F2.cell 5); (have c2_6 : w2.cell? ⟨r, 6, none⟩ = some (.slice A3 n3 c3) := F2.cell 6); (have c2_7 : w2.cell? ⟨r, 7, none⟩ = some (.int .i64 y7) := F2.cell 7); (have c2_8 : w2.cell? ⟨r, 8, none⟩ = some (.int .i64 y8) := F2.cell 8))) | (go_at_call 96; ((with_reducible refine (H2.out w2).mono ?_); rintro en w3 ⟨rfl, hb3⟩; (have F3 := F2.on hb3); (have HB3 := Lib.hid (HB2.out.trans (hb3.mono HB2.out.size))); (have c3_0 : w3.cell? ⟨r, 0, none⟩ = some (.string y0) := F3.cell 0); (have c3_1 : w3.cell? ⟨r, 1, none⟩ = some (.int .i64 y1) := F3.cell 1); (have c3_2 : w3.cell? ⟨r, 2, none⟩ = some (.int .i64 (y2 : Int)) := F3.cell 2); (have c3_3 : w3.cell? ⟨r, 3, none⟩ = some (.slice A0 n0 c0) := F3.cell 3); (have c3_4 : w3.cell? ⟨r, 4, none⟩ = some (.slice A1 n1 c1) := F3.cell 4); (have c3_5 : w3.cell? ⟨r, 5, none⟩ = some (.slice A2 n2 c2) := F3.cell 5); (have c3_6 : w3.cell? ⟨r, 6, none⟩ = some (.slice A3 n3 c3) := F3.cell 6); (have c3_7 : w3.cell? ⟨r, 7, none⟩ = some (.int .i64 y7) := F3.cell 7); (have c3_8 : w3.cell? ⟨r, 8, none⟩ = some (.int .i64 y8) := F3.cell 8))) | (go_at_call 97; ((with_reducible refine (H3.out w3).mono ?_); rintro en w4 ⟨rfl, hb4⟩; (have F4 := F3.on hb4); (have HB4 := Lib.hid (HB3.out.trans (hb4.mono HB3.out.size))); (have c4_0 : w4.cell? ⟨r, 0, none⟩ = some (.string y0) := F4.cell 0); (have c4_1 : w4.cell? ⟨r, 1, none⟩ = some (.int .i64 y1) := F4.cell 1); (have c4_2 : w4.cell? ⟨r, 2, none⟩ = some (.int .i64 (y2 : Int)) := F4.cell 2); (have c4_3 : w4.cell? ⟨r, 3, none⟩ = some (.slice A0 n0 c0) := F4.cell 3); (have c4_4 : w4.cell? ⟨r, 4, none⟩ = some (.slice A1 n1 c1) := F4.cell 4); (have c4_5 : w4.cell? ⟨r, 5, none⟩ = some (.slice A2 n2 c2) := F4.cell 5); (have c4_6 : w4.cell? ⟨r, 6, none⟩ = some (.slice A3 n3 c3) := F4.cell 6); (have c4_7 : w4.cell? ⟨r, 7, none⟩ = some (.int .i64 y7) := F4.cell 7); (have c4_8 : w4.cell? ⟨r, 8, none⟩ = some (.int .i64 y8) := F4.cell 8))) | (go_at_call 56; ((with_reducible refine (H4.out w4 HB4.out).mono ?_); rintro en w5 ⟨rfl, hb5⟩; (have F5 := F4.on hb5); (have HB5 := Lib.hid (HB4.out.trans (hb5.mono HB4.out.size))); (have c5_0 : w5.cell? ⟨r, 0, none⟩ = some (.string y0) := F5.cell 0); (have c5_1 : w5.cell? ⟨r, 1, none⟩ = some (.int .i64 y1) := F5.cell 1); (have c5_2 : w5.cell? ⟨r, 2, none⟩ = some (.int .i64 (y2 : Int)) := F5.cell 2); (have c5_3 : w5.cell? ⟨r, 3, none⟩ = some (.slice A0 n0 c0) := F5.cell 3); (have c5_4 : w5.cell? ⟨r, 4, none⟩ = some (.slice A1 n1 c1) := F5.cell 4); (have c5_5 : w5.cell? ⟨r, 5, none⟩ = some (.slice A2 n2 c2) := F5.cell 5); (have c5_6 : w5.cell? ⟨r, 6, none⟩ = some (.slice A3 n3 c3) := F5.cell 6); (have c5_7 : w5.cell? ⟨r, 7, none⟩ = some (.int .i64 y7) := F5.cell 7); (have c5_8 : w5.cell? ⟨r, 8, none⟩ = some (.int .i64 y8) := F5.cell 8))) | (go_at_call 56; ((with_reducible refine (H5.out w5 HB5.out).mono ?_); rintro en w6 ⟨rfl, hb6⟩; (have F6 := F5.on hb6); (have HB6 := Lib.hid (HB5.out.trans (hb6.mono HB5.out.size))); (have c6_0 : w6.cell? ⟨r, 0, none⟩ = some (.string y0) := F6.cell 0); (have c6_1 : w6.cell? ⟨r, 1, none⟩ = some (.int .i64 y1) := F6.cell 1); (have c6_2 : w6.cell? ⟨r, 2, none⟩ = some (.int .i64 (y2 : Int)) := F6.cell 2); (have c6_3 : w6.cell? ⟨r, 3, none⟩ = some (.slice A0 n0 c0) := F6.cell 3); (have c6_4 : w6.cell? ⟨r, 4, none⟩ = some (.slice A1 n1 c1) := F6.cell 4); (have c6_5 : w6.cell? ⟨r, 5, none⟩ = some (.slice A2 n2 c2) := F6.cell 5); (have c6_6 : w6.cell? ⟨r, 6, none⟩ = some (.slice A3 n3 c3) := F6.cell 6); (have c6_7 : w6.cell? ⟨r, 7, none⟩ = some (.int .i64 y7) := F6.cell 7); (have c6_8 : w6.cell? ⟨r, 8, none⟩ = some (.int .i64 y8) := F6.cell 8))) | (fail "arm")); go_ret; exact ⟨rfl, HB6.out⟩)
         | true =>
           cases b6 with
           | false => (go_enter Tryz.func60, Tryz.ntmps60; go_wp2_with (first | (go_at_call 95; ((with_reducible refine (H1.out w1).mono ?_); rintro en w2 ⟨rfl, hb2⟩; (have F2 := F1.on hb2); (have HB2 := Lib.hid (HB1.out.trans (hb2.mono HB1.out.size))); (have c2_0 : w2.cell? ⟨r, 0, none⟩ = some (.string y0) := F2.cell 0); (have c2_1 : w2.cell? ⟨r, 1, none⟩ = some (.int .i64 y1) := F2.cell 1); (have c2_2 : w2.cell? ⟨r, 2, none⟩ = some (.int .i64 (y2 : Int)) := F2.cell 2); (have c2_3 : w2.cell? ⟨r, 3, none⟩ = some (.slice A0 n0 c0) := F2.cell 3); (have c2_4 : w2.cell? ⟨r, 4, none⟩ = some (.slice A1 n1 c1) := F2.cell 4); (have c2_5 : w2.cell? ⟨r, 5, none⟩ = some (.slice A2 n2 c2) := F2.cell 5); (have c2_6 : w2.cell? ⟨r, 6, none⟩ = some (.slice A3 n3 c3) := F2.cell 6); (have c2_7 : w2.cell? ⟨r, 7, none⟩ = some (.int .i64 y7) := F2.cell 7); (have c2_8 : w2.cell? ⟨r, 8, none⟩ = some (.int .i64 y8) := F2.cell 8))) | (go_at_call 96; ((with_reducible refine (H2.out w2).mono ?_); rintro en w3 ⟨rfl, hb3⟩; (have F3 := F2.on hb3); (have HB3 := Lib.hid (HB2.out.trans (hb3.mono HB2.out.size))); (have c3_0 : w3.cell? ⟨r, 0, none⟩ = some (.string y0) := F3.cell 0); (have c3_1 : w3.cell? ⟨r, 1, none⟩ = some (.int .i64 y1) := F3.cell 1); (have c3_2 : w3.cell? ⟨r, 2, none⟩ = some (.int .i64 (y2 : Int)) := F3.cell 2); (have c3_3 : w3.cell? ⟨r, 3, none⟩ = some (.slice A0 n0 c0) := F3.cell 3); (have c3_4 : w3.cell? ⟨r, 4, none⟩ = some (.slice A1 n1 c1) := F3.cell 4); (have c3_5 : w3.cell? ⟨r, 5, none⟩ = some (.slice A2 n2 c2) := F3.cell 5); (have c3_6 : w3.cell? ⟨r, 6, none⟩ = some (.slice A3 n3 c3) := F3.cell 6); (have c3_7 : w3.cell? ⟨r, 7, none⟩ = some (.int .i64 y7) := F3.cell 7); (have c3_8 : w3.cell? ⟨r, 8, none⟩ = some (.int .i64 y8) := F3.cell 8))) | (go_at_call 97; ((with_reducible refine (H3.out w3).mono ?_); rintro en w4 ⟨rfl, hb4⟩; (have F4 := F3.on hb4); (have HB4 := Lib.hid (HB3.out.trans (hb4.mono HB3.out.size))); (have c4_0 : w4.cell? ⟨r, 0, none⟩ = some (.string y0) := F4.cell 0); (have c4_1 : w4.cell? ⟨r, 1, none⟩ = some (.int .i64 y1) := F4.cell 1); (have c4_2 : w4.cell? ⟨r, 2, none⟩ = some (.int .i64 (y2 : Int)) := F4.cell 2); (have c4_3 : w4.cell? ⟨r, 3, none⟩ = some (.slice A0 n0 c0) := F4.cell 3); (have c4_4 : w4.cell? ⟨r, 4, none⟩ = some (.slice A1 n1 c1) := F4.cell 4); (have c4_5 : w4.cell? ⟨r, 5, none⟩ = some (.slice A2 n2 c2) := F4.cell 5); (have c4_6 : w4.cell? ⟨r, 6, none⟩ = some (.slice A3 n3 c3) := F4.cell 6); (have c4_7 : w4.cell? ⟨r, 7, none⟩ = some (.int .i64 y7) := F4.cell 7); (have c4_8 : w4.cell? ⟨r, 8, none⟩ = some (.int .i64 y8) := F4.cell 8))) | (go_at_call 56; ((with_reducible refine (H4.out w4 HB4.out).mono ?_); rintro en w5 ⟨rfl, hb5⟩; (have F5 := F4.on hb5); (have HB5 := Lib.hid (HB4.out.trans (hb5.mono HB4.out.size))); (have c5_0 : w5.cell? ⟨r, 0, none⟩ = some (.string y0) := F5.cell 0); (have c5_1 : w5.cell? ⟨r, 1, none⟩ = some (.int .i64 y1) := F5.cell 1); (have c5_2 : w5.cell? ⟨r, 2, none⟩ = some (.int .i64 (y2 : Int)) := F5.cell 2); (have c5_3 : w5.cell? ⟨r, 3, none⟩ = some (.slice A0 n0 c0) := F5.cell 3); (have c5_4 : w5.cell? ⟨r, 4, none⟩ = some (.slice A1 n1 c1) := F5.cell 4); (have c5_5 : w5.cell? ⟨r, 5, none⟩ = some (.slice A2 n2 c2) := F5.cell 5); (have c5_6 : w5.cell? ⟨r, 6, none⟩ = some (.slice A3 n3 c3) := F5.cell 6); (have c5_7 : w5.cell? ⟨r, 7, none⟩ = some (.int .i64 y7) := F5.cell 7); (have c5_8 : w5.cell? ⟨r, 8, none⟩ = some (.int .i64 y8) := F5.cell 8))) | (go_at_call 56; ((with_reducible refine (H5.out w5 HB5.out).mono ?_); rintro en w6 ⟨rfl, hb6⟩; (have F6 := F5.on hb6); (have HB6 := Lib.hid (HB5.out.trans (hb6.mono HB5.out.size))); (have c6_0 : w6.cell? ⟨r, 0, none⟩ = some (.string y0) := F6.cell 0); (have c6_1 : w6.cell? ⟨r, 1, none⟩ = some (.int .i64 y1) := F6.cell 1); (have c6_2 : w6.cell? ⟨r, 2, none⟩ = some (.int .i64 (y2 : Int)) := F6.cell 2); (have c6_3 : w6.cell? ⟨r, 3, none⟩ = some (.slice A0 n0 c0) := F6.cell 3); (have c6_4 : w6.cell? ⟨r, 4, none⟩ = some (.slice A1 n1 c1) := F6.cell 4); (have c6_5 : w6.cell? ⟨r, 5, none⟩ = some (.slice A2 n2 c2) := F6.cell 5); (have c6_6 : w6.cell? ⟨r, 6, none⟩ = some (.slice A3 n3 c3) := F6.cell 6); (have c6_7 : w6.cell? ⟨r, 7, none⟩ = some (.int .i64 y7) := F6.cell 7); (have c6_8 : w6.cell? ⟨r, 8, none⟩ = some (.int .i64 y8) := F6.cell 8))) | (go_at_call 56; ((with_reducible refine (H6.out w6 HB6.out).mono ?_); rintro en w7 ⟨rfl, hb7⟩; (have F7 := F6.on hb7); (have HB7 := Lib.hid (HB6.out.trans (hb7.mono HB6.out.size))); (have c7_0 : w7.cell? ⟨r, 0, none⟩ = some (.string y0) := F7.cell 0); (have c7_1 : w7.cell? ⟨r, 1, none⟩ = some (.int .i64 y1) := F7.cell 1); (have c7_2 : w7.cell? ⟨r, 2, none⟩ = some (.int .i64 (y2 : Int)) := F7.cell 2); (have c7_3 : w7.cell? ⟨r, 3, none⟩ = some (.slice A0 n0 c0) := F7.cell 3); (have c7_4 : w7.cell? ⟨r, 4, none⟩ = some (.slice A1 n1 c1) := F7.cell 4); (have c7_5 : w7.cell? ⟨r, 5, none⟩ = some (.slice A2 n2 c2) := F7.cell 5); (have c7_6 : w7.cell? ⟨r, 6, none⟩ = some (.slice A3 n3 c3) := F7.cell 6); (have c7_7 : w7.cell? ⟨r, 7, none⟩ = some (.int .i64 y7) := F7.cell 7); (have c7_8 : w7.cell? ⟨r, 8, none⟩ = some (.int .i64 y8) := F7.cell 8))) | (fail "arm")); go_ret; exact ⟨rfl, HB7.out⟩)
           | true =>
             cases b7 with
             | false => (go_enter Tryz.func60, Tryz.ntmps60; go_wp2_with (first | (go_at_call 95; ((with_reducible refine (H1.out w1).mono ?_); rintro en w2 ⟨rfl, hb2⟩; (have F2 := F1.on hb2); (have HB2 := Lib.hid (HB1.out.trans (hb2.mono HB1.out.size))); (have c2_0 : w2.cell? ⟨r, 0, none⟩ = some (.string y0) := F2.cell 0); (have c2_1 : w2.cell? ⟨r, 1, none⟩ = some (.int .i64 y1) := F2.cell 1); (have c2_2 : w2.cell? ⟨r, 2, none⟩ = some (.int .i64 (y2 : Int)) := F2.cell 2); (have c2_3 : w2.cell? ⟨r, 3, none⟩ = some (.slice A0 n0 c0) := F2.cell 3); (have c2_4 : w2.cell? ⟨r, 4, none⟩ = some (.slice A1 n1 c1) := F2.cell 4); (have c2_5 : w2.cell? ⟨r, 5, none⟩ = some (.slice A2 n2 c2) := F2.cell 5); (have c2_6 : w2.cell? ⟨r, 6, none⟩ = some (.slice A3 n3 c3) := F2.cell 6); (have c2_7 : w2.cell? ⟨r, 7, none⟩ = some (.int .i64 y7) := F2.cell 7); (have c2_8 : w2.cell? ⟨r, 8, none⟩ = some (.int .i64 y8) := F2.cell 8))) | (go_at_call 96; ((with_reducible refine (H2.out w2).mono ?_); rintro en w3 ⟨rfl, hb3⟩; (have F3 := F2.on hb3); (have HB3 := Lib.hid (HB2.out.trans (hb3.mono HB2.out.size))); (have c3_0 : w3.cell? ⟨r, 0, none⟩ = some (.string y0) := F3.cell 0); (have c3_1 : w3.cell? ⟨r, 1, none⟩ = some (.int .i64 y1) := F3.cell 1); (have c3_2 : w3.cell? ⟨r, 2, none⟩ = some (.int .i64 (y2 : Int)) := F3.cell 2); (have c3_3 : w3.cell? ⟨r, 3, none⟩ = some (.slice A0 n0 c0) := F3.cell 3); (have c3_4 : w3.cell? ⟨r, 4, none⟩ = some (.slice A1 n1 c1) := F3.cell 4); (have c3_5 : w3.cell? ⟨r, 5, none⟩ = some (.slice A2 n2 c2) := F3.cell 5); (have c3_6 : w3.cell? ⟨r, 6, none⟩ = some (.slice A3 n3 c3) := F3.cell 6); (have c3_7 : w3.cell? ⟨r, 7, none⟩ = some (.int .i64 y7) := F3.cell 7); (have c3_8 : w3.cell? ⟨r, 8, none⟩ = some (.int .i64 y8) := F3.cell 8))) | (go_at_call 97; ((with_reducible refine (H3.out w3).mono ?_); rintro en w4 ⟨rfl, hb4⟩; (have F4 := F3.on hb4); (have HB4 := Lib.hid (HB3.out.trans (hb4.mono HB3.out.size))); (have c4_0 : w4.cell? ⟨r, 0, none⟩ = some (.string y0) := F4.cell 0); (have c4_1 : w4.cell? ⟨r, 1, none⟩ = some (.int .i64 y1) := F4.cell 1); (have c4_2 : w4.cell? ⟨r, 2, none⟩ = some (.int .i64 (y2 : Int)) := F4.cell 2); (have c4_3 : w4.cell? ⟨r, 3, none⟩ = some (.slice A0 n0 c0) := F4.cell 3); (have c4_4 : w4.cell? ⟨r, 4, none⟩ = some (.slice A1 n1 c1) := F4.cell 4); (have c4_5 : w4.cell? ⟨r, 5, none⟩ = some (.slice A2 n2 c2) := F4.cell 5); (have c4_6 : w4.cell? ⟨r, 6, none⟩ = some (.slice A3 n3 c3) := F4.cell 6); (have c4_7 : w4.cell? ⟨r, 7, none⟩ = some (.int .i64 y7) := F4.cell 7); (have c4_8 : w4.cell? ⟨r, 8, none⟩ = some (.int .i64 y8) := F4.cell 8))) | (go_at_call 56; ((with_reducible refine (H4.out w4 HB4.out).mono ?_); rintro en w5 ⟨rfl, hb5⟩; (have F5 := F4.on hb5); (have HB5 := Lib.hid (HB4.out.trans (hb5.mono HB4.out.size))); (have c5_0 : w5.cell? ⟨r, 0, none⟩ = some (.string y0) := F5.cell 0); (have c5_1 : w5.cell? ⟨r, 1, none⟩ = some (.int .i64 y1) := F5.cell 1); (have c5_2 : w5.cell? ⟨r, 2, none⟩ = some (.int .i64 (y2 : Int)) := F5.cell 2); (have c5_3 : w5.cell? ⟨r, 3, none⟩ = some (.slice A0 n0 c0) := F5.cell 3); (have c5_4 : w5.cell? ⟨r, 4, none⟩ = some (.slice A1 n1 c1) := F5.cell 4); (have c5_5 : w5.cell? ⟨r, 5, none⟩ = some (.slice A2 n2 c2) := F5.cell 5); (have c5_6 : w5.cell? ⟨r, 6, none⟩ = some (.slice A3 n3 c3) := F5.cell 6); (have c5_7 : w5.cell? ⟨r, 7, none⟩ = some (.int .i64 y7) := F5.cell 7); (have c5_8 : w5.cell? ⟨r, 8, none⟩ = some (.int .i64 y8) := F5.cell 8))) | (go_at_call 56; ((with_reducible refine (H5.out w5 HB5.out).mono ?_); rintro en w6 ⟨rfl, hb6⟩; (have F6 := F5.on hb6); (have HB6 := Lib.hid (HB5.out.trans (hb6.mono HB5.out.size))); (have c6_0 : w6.cell? ⟨r, 0, none⟩ = some (.string y0) := F6.cell 0); (have c6_1 : w6.cell? ⟨r, 1, none⟩ = some (.int .i64 y1) := F6.cell 1); (have c6_2 : w6.cell? ⟨r, 2, none⟩ = some (.int .i64 (y2 : Int)) := F6.cell 2); (have c6_3 : w6.cell? ⟨r, 3, none⟩ = some (.slice A0 n0 c0) := F6.cell 3); (have c6_4 : w6.cell? ⟨r, 4, none⟩ = some (.slice A1 n1 c1) := F6.cell 4); (have c6_5 : w6.cell? ⟨r, 5, none⟩ = some (.slice A2 n2 c2) := F6.cell 5); (have c6_6 : w6.cell? ⟨r, 6, none⟩ = some (.slice A3 n3 c3) := F6.cell 6); (have c6_7 : w6.cell? ⟨r, 7, none⟩ = some (.int .i64 y7) := F6.cell 7); (have c6_8 : w6.cell? ⟨r, 8, none⟩ = some (.int .i64 y8) := F6.cell 8))) | (go_at_call 56; ((with_reducible refine (H6.out w6 HB6.out).mono ?_); rintro en w7 ⟨rfl, hb7⟩; (have F7 := F6.on hb7); (have HB7 := Lib.hid (HB6.out.trans (hb7.mono HB6.out.size))); (have c7_0 : w7.cell? ⟨r, 0, none⟩ = some (.string y0) := F7.cell 0); (have c7_1 : w7.cell? ⟨r, 1, none⟩ = some (.int .i64 y1) := F7.cell 1); (have c7_2 : w7.cell? ⟨r, 2, none⟩ = some (.int .i64 (y2 : Int)) := F7.cell 2); (have c7_3 : w7.cell? ⟨r, 3, none⟩ = some (.slice A0 n0 c0) := F7.cell 3); (have c7_4 : w7.cell? ⟨r, 4, none⟩ = some (.slice A1 n1 c1) := F7.cell 4); (have c7_5 : w7.cell? ⟨r, 5, none⟩ = some (.slice A2 n2 c2) := F7.cell 5); (have c7_6 : w7.cell? ⟨r, 6, none⟩ = some (.slice A3 n3 c3) := F7.cell 6); (have c7_7 : w7.cell? ⟨r, 7, none⟩ = some (.int .i64 y7) := F7.cell 7); (have c7_8 : w7.cell? ⟨r, 8, none⟩ = some (.int .i64 y8) := F7.cell 8))) | (go_at_call 56; ((with_reducible refine (H7.out w7 HB7.out).mono ?_); rintro en w8 ⟨rfl, hb8⟩; (have F8 := F7.on hb8); (have HB8 := Lib.hid (HB7.out.trans (hb8.mono HB7.out.size))); (have c8_0 : w8.cell? ⟨r, 0, none⟩ = some (.string y0) := F8.cell 0); (have c8_1 : w8.cell? ⟨r, 1, none⟩ = some (.int .i64 y1) := F8.cell 1); (have c8_2 : w8.cell? ⟨r, 2, none⟩ = some (.int .i64 (y2 : Int)) := F8.cell 2); (have c8_3 : w8.cell? ⟨r, 3, none⟩ = some (.slice A0 n0 c0) := F8.cell 3); (have c8_4 : w8.cell? ⟨r, 4, none⟩ = some (.slice A1 n1 c1) := F8.cell 4); (have c8_5 : w8.cell? ⟨r, 5, none⟩ = some (.slice A2 n2 c2) := F8.cell 5); (have c8_6 : w8.cell? ⟨r, 6, none⟩ = some (.slice A3 n3 c3) := F8.cell 6); (have c8_7 : w8.cell? ⟨r, 7, none⟩ = some (.int .i64 y7) := F8.cell 7); (have c8_8 : w8.cell? ⟨r, 8, none⟩ = some (.int .i64 y8) := F8.cell 8))) | (fail "arm")); go_ret; exact ⟨rfl, HB8.out⟩)
             | true =>
               (go_enter Tryz.func60, Tryz.ntmps60; go_wp2_with (first | (go_at_call 95; ((with_reducible refine (H1.out w1).mono ?_); rintro en w2 ⟨rfl, hb2⟩; (have F2 := F1.on hb2); (have HB2 := Lib.hid (HB1.out.trans (hb2.mono HB1.out.size))); (have c2_0 : w2.cell? ⟨r, 0, none⟩ = some (.string y0) := F2.cell 0); (have c2_1 : w2.cell? ⟨r, 1, none⟩ = some (.int .i64 y1) := F2.cell 1); (have c2_2 : w2.cell? ⟨r, 2, none⟩ = some (.int .i64 (y2 : Int)) := F2.cell 2); (have c2_3 : w2.cell? ⟨r, 3, none⟩ = some (.slice A0 n0 c0) := F2.cell 3); (have c2_4 : w2.cell? ⟨r, 4, none⟩ = some (.slice A1 n1 c1) := F2.cell 4); (have c2_5 : w2.cell? ⟨r, 5, none⟩ = some (.slice A2 n2 c2) := F2.cell 5); (have c2_6 : w2.cell? ⟨r, 6, none⟩ = some (.slice A3 n3 c3) := F2.cell 6); (have c2_7 : w2.cell? ⟨r, 7, none⟩ = some (.int .i64 y7) := F2.cell 7); (have c2_8 : w2.cell? ⟨r, 8, none⟩ = some (.int .i64 y8) := F2.cell 8))) | (go_at_call 96; ((with_reducible refine (H2.out w2).mono ?_); rintro en w3 ⟨rfl, hb3⟩; (have F3 := F2.on hb3); (have HB3 := Lib.hid (HB2.out.trans (hb3.mono HB2.out.size))); (have c3_0 : w3.cell? ⟨r, 0, none⟩ = some (.string y0) := F3.cell 0); (have c3_1 : w3.cell? ⟨r, 1, none⟩ = some (.int .i64 y1) := F3.cell 1); (have c3_2 : w3.cell? ⟨r, 2, none⟩ = some (.int .i64 (y2 : Int)) := F3.cell 2); (have c3_3 : w3.cell? ⟨r, 3, none⟩ = some (.slice A0 n0 c0) := F3.cell 3); (have c3_4 : w3.cell? ⟨r, 4, none⟩ = some (.slice A1 n1 c1) := F3.cell 4); (have c3_5 : w3.cell? ⟨r, 5, none⟩ = some (.slice A2 n2 c2) := F3.cell 5); (have c3_6 : w3.cell? ⟨r, 6, none⟩ = some (.slice A3 n3 c3) := F3.cell 6); (have c3_7 : w3.cell? ⟨r, 7, none⟩ = some (.int .i64 y7) := F3.cell 7); (have c3_8 : w3.cell? ⟨r, 8, none⟩ = some (.int .i64 y8) := F3.cell 8))) | (go_at_call 97; ((with_reducible refine (H3.out w3).mono ?_); rintro en w4 ⟨rfl, hb4⟩; (have F4 := F3.on hb4); (have HB4 := Lib.hid (HB3.out.trans (hb4.mono HB3.out.size))); (have c4_0 : w4.cell? ⟨r, 0, none⟩ = some (.string y0) := F4.cell 0); (have c4_1 : w4.cell? ⟨r, 1, none⟩ = some (.int .i64 y1) := F4.cell 1); (have c4_2 : w4.cell? ⟨r, 2, none⟩ = some (.int .i64 (y2 : Int)) := F4.cell 2); (have c4_3 : w4.cell? ⟨r, 3, none⟩ = some (.slice A0 n0 c0) := F4.cell 3); (have c4_4 : w4.cell? ⟨r, 4, none⟩ = some (.slice A1 n1 c1) := F4.cell 4); (have c4_5 : w4.cell? ⟨r, 5, none⟩ = some (.slice A2 n2 c2) := F4.cell 5); (have c4_6 : w4.cell? ⟨r, 6, none⟩ = some (.slice A3 n3 c3) := F4.cell 6); (have c4_7 : w4.cell? ⟨r, 7, none⟩ = some (.int .i64 y7) := F4.cell 7); (have c4_8 : w4.cell? ⟨r, 8, none⟩ = some (.int .i64 y8) := F4.cell 8))) | (go_at_call 56; ((with_reducible refine (H4.out w4 HB4.out).mono ?_); rintro en w5 ⟨rfl, hb5⟩; (have F5 := F4.on hb5); (have HB5 := Lib.hid (HB4.out.trans (hb5.mono HB4.out.size))); (have c5_0 : w5.cell? ⟨r, 0, none⟩ = some (.string y0) := F5.cell 0); (have c5_1 : w5.cell? ⟨r, 1, none⟩ = some (.int .i64 y1) := F5.cell 1); (have c5_2 : w5.cell? ⟨r, 2, none⟩ = some (.int .i64 (y2 : Int)) := F5.cell 2); (have c5_3 : w5.cell? ⟨r, 3, none⟩ = some (.slice A0 n0 c0) := F5.cell 3); (have c5_4 : w5.cell? ⟨r, 4, none⟩ = some (.slice A1 n1 c1) := F5.cell 4); (have c5_5 : w5.cell? ⟨r, 5, none⟩ = some (.slice A2 n2 c2) := F5.cell 5); (have c5_6 : w5.cell? ⟨r, 6, none⟩ = some (.slice A3 n3 c3) := F5.cell 6); (have c5_7 : w5.cell? ⟨r, 7, none⟩ = some (.int .i64 y7) := F5.cell 7); (have c5_8 : w5.cell? ⟨r, 8, none⟩ = some (.int .i64 y8) := F5.cell 8))) | (go_at_call 56; ((with_reducible refine (H5.out w5 HB5.out).mono ?_); rintro en w6 ⟨rfl, hb6⟩; (have F6 := F5.on hb6); (have HB6 := Lib.hid (HB5.out.trans (hb6.mono HB5.out.size))); (have c6_0 : w6.cell? ⟨r, 0, none⟩ = some (.string y0) := F6.cell 0); (have c6_1 : w6.cell? ⟨r, 1, none⟩ = some (.int .i64 y1) := F6.cell 1); (have c6_2 : w6.cell? ⟨r, 2, none⟩ = some (.int .i64 (y2 : Int)) := F6.cell 2); (have c6_3 : w6.cell? ⟨r, 3, none⟩ = some (.slice A0 n0 c0) := F6.cell 3); (have c6_4 : w6.cell? ⟨r, 4, none⟩ = some (.slice A1 n1 c1) := F6.cell 4); (have c6_5 : w6.cell? ⟨r, 5, none⟩ = some (.slice A2 n2 c2) := F6.cell 5); (have c6_6 : w6.cell? ⟨r, 6, none⟩ = some (.slice A3 n3 c3) := F6.cell 6); (have c6_7 : w6.cell? ⟨r, 7, none⟩ = some (.int .i64 y7) := F6.cell 7); (have c6_8 : w6.cell? ⟨r, 8, none⟩ = some (.int .i64 y8) := F6.cell 8))) | (go_at_call 56; ((with_reducible refine (H6.out w6 HB6.out).mono ?_); rintro en w7 ⟨rfl, hb7⟩; (have F7 := F6.on hb7); (have HB7 := Lib.hid (HB6.out.trans (hb7.mono HB6.out.size))); (have c7_0 : w7.cell? ⟨r, 0, none⟩ = some (.string y0) := F7.cell 0); (have c7_1 : w7.cell? ⟨r, 1, none⟩ = some (.int .i64 y1) := F7.cell 1); (have c7_2 : w7.cell? ⟨r, 2, none⟩ = some (.int .i64 (y2 : Int)) := F7.cell 2); (have c7_3 : w7.cell? ⟨r, 3, none⟩ = some (.slice A0 n0 c0) := F7.cell 3); (have c7_4 : w7.cell? ⟨r, 4, none⟩ = some (.slice A1 n1 c1) := F7.cell 4); (have c7_5 : w7.cell? ⟨r, 5, none⟩ = some (.slice A2 n2 c2) := F7.cell 5); (have c7_6 : w7.cell? ⟨r, 6, none⟩ = some (.slice A3 n3 c3) := F7.cell 6); (have c7_7 : w7.cell? ⟨r, 7, none⟩ = some (.int .i64 y7) := F7.cell 7); (have c7_8 : w7.cell? ⟨r, 8, none⟩ = some (.int .i64 y8) := F7.cell 8))) | (go_at_call 56; ((with_reducible refine (H7.out w7 HB7.out).mono ?_); rintro en w8 ⟨rfl, hb8⟩; (have F8 := F7.on hb8); (have HB8 := Lib.hid (HB7.out.trans (hb8.mono HB7.out.size))); (have c8_0 : w8.cell? ⟨r, 0, none⟩ = some (.string y0) := F8.cell 0); (have c8_1 : w8.cell? ⟨r, 1, none⟩ = some (.int .i64 y1) := F8.cell 1); (have c8_2 : w8.cell? ⟨r, 2, none⟩ = some (.int .i64 (y2 : Int)) := F8.cell 2); (have c8_3 : w8.cell? ⟨r, 3, none⟩ = some (.slice A0 n0 c0) := F8.cell 3); (have c8_4 : w8.cell? ⟨r, 4, none⟩ = some (.slice A1 n1 c1) := F8.cell 4); (have c8_5 : w8.cell? ⟨r, 5, none⟩ = some (.slice A2 n2 c2) := F8.cell 5); (have c8_6 : w8.cell? ⟨r, 6, none⟩ = some (.slice A3 n3 c3) := F8.cell 6); (have c8_7 : w8.cell? ⟨r, 7, none⟩ = some (.int .i64 y7) := F8.cell 7); (have c8_8 : w8.cell? ⟨r, 8, none⟩ = some (.int .i64 y8) := F8.cell 8))) | (fail "arm")); go_ret; exact ⟨rfl, HB8.out⟩)
theorem right_any {w : World} {B : Nat} {p : Tgt × (Nat → Value)} (hT : TR w B p) (hB : B ≤ w.heap.size) (hok : TOk p.1) : Calls Tryz.prog 60 #[tgtV p.1 p.2] w (BoolB w (rTarget p.1)) := by
 obtain ⟨A0, c0, v0, q0⟩ := hT 0 (by decide)
 obtain ⟨A1, c1, v1, q1⟩ := hT 1 (by decide)
 obtain ⟨A2, c2, v2, q2⟩ := hT 2 (by decide)
 obtain ⟨A3, c3, v3, q3⟩ := hT 3 (by decide)
 have hl : ∀ i, i < 4 → (p.1.rows i).length ≤ maxLen := fun i hi => by have := (hok.rows i hi).1; unfold maxLen; omega
 unfold tgtV rTarget rKind rNums
 rw [v0, v1, v2, v3]
 exact target_any60 _ _ _ _ _ _ _ _ _ _ _ _ _ _ _ _ _ w _ _ _ _ _ _ _
   (fun W => (by have z := isWord_any (str p.1.name) (strOk_str hok.name) W; rw [str_data] at z; exact z)) (fun W => kind_any96 _ _ _ _ _ _ _ _ _ _ _ _ _ _ _ _ _ W) (fun W => nums_any97 _ _ _ _ _ _ _ _ _ _ _ _ _ _ _ _ _ W)
   (fun W hW => every_98 (Row.below q0 hW hB) (Nat.le_trans hB hW.size) (hl 0 (by decide)) (hok.rows 0 (by decide)).2)
   (fun W hW => every_99 (Row.below q1 hW hB) (Nat.le_trans hB hW.size) (hl 1 (by decide)) (hok.rows 1 (by decide)).2)
   (fun W hW => every_100 (Row.below q2 hW hB) (Nat.le_trans hB hW.size) (hl 2 (by decide)) (hok.rows 2 (by decide)).2)
   (fun W hW => every_100 (Row.below q3 hW hB) (Nat.le_trans hB hW.size) (hl 3 (by decide)) (hok.rows 3 (by decide)).2)
theorem each_60 {w : World} {bx B : Nat} (F : Full w bx 83 [.func (.func 60) #[] #[]]) {p : Tgt × (Nat → Value)} (hT : TR w B p) (hB : B ≤ w.heap.size) (hok : TOk p.1) : Calls Tryz.prog 94 #[tgtV p.1 p.2, .pointer (some ⟨bx, 0, none⟩)] w (BoolB w (!rTarget p.1)) := by
 have RA := fun W (hW : Below w.heap.size w W) => right_any (hT.below hW hB) (Nat.le_trans hB hW.size) hok
 unfold BoolB at RA ⊢
 unfold tgtV at RA ⊢
 obtain ⟨A0, c0, v0, _⟩ := hT 0 (by decide)
 obtain ⟨A1, c1, v1, _⟩ := hT 1 (by decide)
 obtain ⟨A2, c2, v2, _⟩ := hT 2 (by decide)
 obtain ⟨A3, c3, v3, _⟩ := hT 3 (by decide)
 obtain ⟨y0, hy0⟩ : ∃ y, str p.1.name = y := ⟨_, rfl⟩
 obtain ⟨y1, hy1⟩ : ∃ y, p.1.kind = y := ⟨_, rfl⟩
 obtain ⟨y2, hy2⟩ : ∃ y : Nat, p.1.line = y := ⟨_, rfl⟩
 obtain ⟨y7, hy7⟩ : ∃ y, p.1.cost = y := ⟨_, rfl⟩
 obtain ⟨y8, hy8⟩ : ∃ y, p.1.retry = y := ⟨_, rfl⟩
 obtain ⟨n0, hn0⟩ : ∃ y, (p.1.rows 0).length = y := ⟨_, rfl⟩
 rw [hn0] at v0
 obtain ⟨n1, hn1⟩ : ∃ y, (p.1.rows 1).length = y := ⟨_, rfl⟩
 rw [hn1] at v1
 obtain ⟨n2, hn2⟩ : ∃ y, (p.1.rows 2).length = y := ⟨_, rfl⟩
 rw [hn2] at v2
 obtain ⟨n3, hn3⟩ : ∃ y, (p.1.rows 3).length = y := ⟨_, rfl⟩
 rw [hn3] at v3
 rw [hy0, hy1, hy2, v0, v1, v2, v3, hy7, hy8] at RA
 rw [hy0, hy1, hy2, v0, v1, v2, v3, hy7, hy8]
 obtain ⟨y, hy⟩ : ∃ y, rTarget p.1 = y := ⟨_, rfl⟩
 rw [hy] at RA
 rw [hy]
 obtain ⟨w1, hw1⟩ : ∃ w1, w.alloc (.cells #[.string y0, .int .i64 y1, .int .i64 (y2 : Int), .slice A0 n0 c0, .slice A1 n1 c1, .slice A2 n2 c2, .slice A3 n3 c3, .int .i64 y7, .int .i64 y8] 50) = w1 := ⟨_, rfl⟩
 have hb1 : Below w.heap.size w w1 := by rw [← hw1]; exact (Below.refl _ w).alloc (Nat.le_refl _) _
 have F1 : Full w1 w.heap.size 50 [.string y0, .int .i64 y1, .int .i64 (y2 : Int), .slice A0 n0 c0, .slice A1 n1 c1, .slice A2 n2 c2, .slice A3 n3 c3, .int .i64 y7, .int .i64 y8] := by rw [← hw1]; exact Full.new w 50 _
 obtain ⟨r, hr⟩ : ∃ r, w.heap.size = r := ⟨_, rfl⟩
 rw [hr] at F1
 have FB := F.on hb1
 have k0 : w1.cell? ⟨bx, 0, none⟩ = some (.func (.func 60) #[] #[]) := FB.cell 0
 have c_0 : w1.cell? ⟨r, 0, none⟩ = some (.string y0) := F1.cell 0
 have c_1 : w1.cell? ⟨r, 1, none⟩ = some (.int .i64 y1) := F1.cell 1
 have c_2 : w1.cell? ⟨r, 2, none⟩ = some (.int .i64 (y2 : Int)) := F1.cell 2
 have c_3 : w1.cell? ⟨r, 3, none⟩ = some (.slice A0 n0 c0) := F1.cell 3
 have c_4 : w1.cell? ⟨r, 4, none⟩ = some (.slice A1 n1 c1) := F1.cell 4
 have c_5 : w1.cell? ⟨r, 5, none⟩ = some (.slice A2 n2 c2) := F1.cell 5
 have c_6 : w1.cell? ⟨r, 6, none⟩ = some (.slice A3 n3 c3) := F1.cell 6
 have c_7 : w1.cell? ⟨r, 7, none⟩ = some (.int .i64 y7) := F1.cell 7
 have c_8 : w1.cell? ⟨r, 8, none⟩ = some (.int .i64 y8) := F1.cell 8
 have RA := Lib.hid RA
 have HB1 := Lib.hid hb1
 clear F F1 FB hb1 hy hT hok hy0 hy1 hy2 hy7 hy8 hn0 hn1 hn2 hn3 v0 v1 v2 v3
 go_enter Tryz.func94, Tryz.ntmps94
 go_wp2_with (first
   | (go_at_call 60; ((with_reducible refine (RA.out _ HB1.out).mono ?_); rintro en w2 ⟨rfl, hb2⟩; (have HB2 := Lib.hid (HB1.out.trans (hb2.mono HB1.out.size)))))
   | (fail "arm"))
 go_ret
 exact ⟨rfl, HB2.out⟩
set_option maxHeartbeats 2000000 in
theorem index_94 {w : World} {B c : Nat} {A : Option Addr} {l : List (Tgt × (Nat → Value))} (hA : Tgts w B A c l) (hTR : ∀ p ∈ l, TR w B p) (hB : B ≤ w.heap.size) (hl : l.length ≤ maxLen) (xp : Addr) (P : Tgt × (Nat → Value) → Bool)
   (EL : ∀ W, Below w.heap.size w W → ∀ i ∈ l, Calls Tryz.prog 94 #[tgtV i.1 i.2, .pointer (some xp)] W (BoolB W (P i))) :
   Calls Tryz.prog 125 #[.slice A l.length c, .func (.func 94) #[] #[.pointer (some xp)]] w (IdxOut w (idxV (lead P l) l.length)) := by
 unfold maxLen at hl
 unfold IdxOut
 obtain ⟨n, hn⟩ : ∃ n, l.length = n := ⟨_, rfl⟩
 obtain ⟨m, hm⟩ : ∃ n, lead P l = n := ⟨_, rfl⟩
 have hmn := lead_le P l
 have hcap := hA.2.1
 rw [hn] at hl hcap hmn ⊢
 rw [hm] at hmn ⊢
 have HNM := Lib.hid (And.intro hn hm)
 have HEL := Lib.hid EL
 clear EL hn hm
 go_enter Tryz.func125, Tryz.ntmps125
 go_upto_region 2 with fail
 go_loopw [8] (fun i wr => ∃ k : Nat, i = .int .i64 (k : Int) ∧ k ≤ n ∧ k ≤ m ∧ Below w.heap.size w wr) (fun i _ => n - (intOf i).toNat)
 case atStart => exact ⟨0, rfl, Nat.zero_le _, Nat.zero_le _, Below.refl _ _⟩
 case round =>
   obtain ⟨k, rfl, hk, hkm, hBw⟩ := hrel
   have hi0 : (0 : Int) ≤ (k : Int) := Int.natCast_nonneg _
   by_cases hlt : k < n
   · have hi1 : (k : Int) < (n : Int) := by omega
     have hd : decide ((k : Int) < (n : Int)) = true := by simp; omega
     have hkl : k < l.length := by have := HNM.out.1; omega
     obtain ⟨ad, rfl, hadB, x0, x1, x2, x3, x4, x5, x6, x7, x8⟩ := (show Tgts wr B A c l from Row.below hA hBw hB).at_ hkl
     have EL1 := HEL.out wr hBw l[k] (List.getElem_mem hkl)
     unfold tgtV BoolB at EL1
     obtain ⟨A0, c0, v0, _⟩ := (hTR l[k] (List.getElem_mem hkl)) 0 (by decide)
     obtain ⟨A1, c1, v1, _⟩ := (hTR l[k] (List.getElem_mem hkl)) 1 (by decide)
     obtain ⟨A2, c2, v2, _⟩ := (hTR l[k] (List.getElem_mem hkl)) 2 (by decide)
     obtain ⟨A3, c3, v3, _⟩ := (hTR l[k] (List.getElem_mem hkl)) 3 (by decide)
     obtain ⟨y0, hy0⟩ : ∃ y, str l[k].1.name = y := ⟨_, rfl⟩
     obtain ⟨y1, hy1⟩ : ∃ y, l[k].1.kind = y := ⟨_, rfl⟩
     obtain ⟨y2, hy2⟩ : ∃ y : Nat, l[k].1.line = y := ⟨_, rfl⟩
     obtain ⟨y7, hy7⟩ : ∃ y, l[k].1.cost = y := ⟨_, rfl⟩
     obtain ⟨y8, hy8⟩ : ∃ y, l[k].1.retry = y := ⟨_, rfl⟩
     obtain ⟨n0, hn0⟩ : ∃ y, (l[k].1.rows 0).length = y := ⟨_, rfl⟩
     rw [hn0] at v0
     obtain ⟨n1, hn1⟩ : ∃ y, (l[k].1.rows 1).length = y := ⟨_, rfl⟩
     rw [hn1] at v1
     obtain ⟨n2, hn2⟩ : ∃ y, (l[k].1.rows 2).length = y := ⟨_, rfl⟩
     rw [hn2] at v2
     obtain ⟨n3, hn3⟩ : ∃ y, (l[k].1.rows 3).length = y := ⟨_, rfl⟩
     rw [hn3] at v3
     rw [hy0, hy1, hy2, v0, v1, v2, v3, hy7, hy8] at EL1
     rw [hy0] at x0
     rw [hy1] at x1
     rw [hy2] at x2
     rw [v0] at x3
     rw [v1] at x4
     rw [v2] at x5
     rw [v3] at x6
     rw [hy7] at x7
     rw [hy8] at x8
     obtain ⟨p, hp⟩ : ∃ p, P l[k] = p := ⟨_, rfl⟩
     rw [hp] at EL1
     have EL1 := Lib.hid EL1
     have hcap' : n ≤ c := hcap
     cases p with
     | true =>
       have HM := Lib.hid (lead_hit P l k hkl (by rw [HNM.out.2]; exact hkm) hp)
       clear hy0 hy1 hy2 hy7 hy8 hn0 hn1 hn2 hn3 v0 v1 v2 v3 hp
       go_wp2_with (first
         | (go_at_call 94; ((with_reducible refine EL1.out.mono ?_); rintro en w2 ⟨rfl, hb⟩; (have HB2 := Lib.hid (hBw.trans (hb.mono hBw.size)))))
         | (fail "arm"))
       go_ret
       have e := HM.out
       rw [HNM.out.2] at e
       subst e
       refine ⟨?_, HB2.out⟩
       unfold idxV
       rw [if_pos hlt]
       rfl
     | false =>
       have HM := Lib.hid (lead_miss P l k hkl (by rw [HNM.out.2]; exact hkm) hp)
       rw [HNM.out.2] at HM
       clear hy0 hy1 hy2 hy7 hy8 hn0 hn1 hn2 hn3 v0 v1 v2 v3 hp
       go_wp2_with (first
         | (go_at_call 94; ((with_reducible refine EL1.out.mono ?_); rintro en w2 ⟨rfl, hb⟩; (have HB2 := Lib.hid (hBw.trans (hb.mono hBw.size)))))
         | (fail "arm"))
       go_roundw
       case rel => exact ⟨k + 1, by simp, hlt, HM.out, HB2.out⟩
       case measure => show n - ((k : Int) + 1).toNat < n - (k : Int).toNat; omega
   · obtain rfl : k = n := by omega
     have hd : decide ((k : Int) < (k : Int)) = false := by simp
     have hm2 : m = k := by omega
     subst hm2
     have HB2 := Lib.hid hBw
     go_wp2
     go_ret
     refine ⟨?_, HB2.out⟩
     unfold idxV
     rw [if_neg (by omega)]
     rfl
theorem contains_94 {w : World} {B c : Nat} {A : Option Addr} {l : List (Tgt × (Nat → Value))} (hA : Tgts w B A c l) (hTR : ∀ p ∈ l, TR w B p) (hB : B ≤ w.heap.size) (hl : l.length ≤ maxLen) (xp : Addr) (P : Tgt × (Nat → Value) → Bool)
   (EL : ∀ W, Below w.heap.size w W → ∀ i ∈ l, Calls Tryz.prog 94 #[tgtV i.1 i.2, .pointer (some xp)] W (BoolB W (P i))) :
   Calls Tryz.prog 93 #[.slice A l.length c, .func (.func 94) #[] #[.pointer (some xp)]] w (BoolB w (l.any P)) := by
 have IX := index_94 hA hTR hB hl xp P EL
 unfold IdxOut at IX
 unfold BoolB
 obtain ⟨r, hr⟩ : ∃ r, idxV (lead P l) l.length = r := ⟨_, rfl⟩
 have hd : decide (r ≥ 0) = l.any P := by
   rw [← lead_all, ← hr]
   unfold idxV
   have := lead_le P l
   by_cases h : lead P l < l.length
   · rw [if_pos h]; simp [h]
   · rw [if_neg h]; simp [h]
 obtain ⟨b, hb⟩ : ∃ b, l.any P = b := ⟨_, rfl⟩
 rw [hr] at IX
 rw [hb] at hd ⊢
 obtain ⟨n, hn⟩ : ∃ n, l.length = n := ⟨_, rfl⟩
 rw [hn] at IX ⊢
 have IX := Lib.hid IX
 clear hr hb hA hTR EL hn hl
 have hd2 : decide (0 ≤ r) = b := hd
 go_enter Tryz.func93, Tryz.ntmps93
 go_wp2_with (first
   | (go_at_call 125; ((with_reducible refine IX.out.mono ?_); rintro en w2 ⟨rfl, hb2⟩; (have HB2 := Lib.hid hb2)))
   | (fail "arm"))
 go_ret
 exact ⟨by rw [← hd2]; rfl, HB2.out⟩
theorem every_60 {w : World} {B c : Nat} {A : Option Addr} {l : List (Tgt × (Nat → Value))} (hA : Tgts w B A c l) (hTR : ∀ p ∈ l, TR w B p) (hB : B ≤ w.heap.size) (hl : l.length ≤ maxLen) (hok : ∀ i ∈ l, TOk i.1) :
   Calls Tryz.prog 59 #[.slice A l.length c, .func (.func 60) #[] #[]] w (BoolB w (l.all fun p => rTarget p.1)) := by
 obtain ⟨w1, hw1⟩ : ∃ w1, w.alloc (.cells #[.func (.func 60) #[] #[]] 83) = w1 := ⟨_, rfl⟩
 have hb1 : Below w.heap.size w w1 := by rw [← hw1]; exact (Below.refl _ w).alloc (Nat.le_refl _) _
 have F1 : Full w1 w.heap.size 83 [.func (.func 60) #[] #[]] := by rw [← hw1]; exact Full.new w 83 _
 have hB1 := Nat.le_trans hB hb1.size
 have CF := contains_94 (show Tgts w1 B A c l from Row.below hA hb1 hB) (fun p hp => (hTR p hp).below hb1 hB) hB1 hl ⟨w.heap.size, 0, none⟩ (fun i => !rTarget i.1) (fun W hW i hi => each_60 (F1.on hW) (((hTR i hi).below hb1 hB).below hW hB1) (Nat.le_trans hB1 hW.size) (hok i hi))
 unfold BoolB at CF ⊢
 rw [all_not_any]
 obtain ⟨b, hb⟩ : ∃ b, (l.any fun i => !rTarget i.1) = b := ⟨_, rfl⟩
 rw [hb] at CF ⊢
 obtain ⟨n, hn⟩ : ∃ n, l.length = n := ⟨_, rfl⟩
 rw [hn] at CF ⊢
 have CF := Lib.hid CF
 have HB1 := Lib.hid hb1
 clear hb hn hA hB hl hok F1 hb1 hTR hB1
 go_enter Tryz.func59, Tryz.ntmps59
 go_wp2_with (first
   | (go_at_call 93; ((with_reducible refine CF.out.mono ?_); rintro en w2 ⟨rfl, hb2⟩; (have HB2 := Lib.hid (HB1.out.trans (hb2.mono HB1.out.size)))))
   | (fail "arm"))
 go_ret
 exact ⟨rfl, HB2.out⟩
abbrev nameT (p : Tgt × (Nat → Value)) : List UInt8 := p.1.name
set_option maxHeartbeats 4000000 in
theorem distinct_targets {w : World} {B c : Nat} {A : Option Addr} {l : List (Tgt × (Nat → Value))} (hA : Tgts w B A c l) (hB : B ≤ w.heap.size) (hl : l.length ≤ 17179869184) (hok : ∀ i ∈ l, (nameT i).length ≤ 4294967000) (hTR : ∀ p ∈ l, TR w B p) :
   Calls Tryz.prog 61 #[.slice A l.length c, .func (.func 62) #[] #[]] w (BoolB w (pDis (fun _ => false) (l.map nameT))) := by
 unfold BoolB
 obtain ⟨n, hn⟩ : ∃ n, l.length = n := ⟨_, rfl⟩
 obtain ⟨T, hT⟩ : ∃ n, nNew (fun _ => false) (l.map nameT) = n := ⟨_, rfl⟩
 have hTn := nNew_le (fun _ => false) (l.map nameT)
 have hcap := hA.2.1
 rw [← nNew_dis, List.length_map]
 rw [List.length_map] at hTn
 rw [hT] at hTn ⊢
 rw [hn] at hl hcap hTn ⊢
 have HN := Lib.hid (And.intro hn hT)
 have HOK := Lib.hid hok
 obtain ⟨w1, hw1⟩ : ∃ w1, w.alloc (.map #[] 0) = w1 := ⟨_, rfl⟩
 have hb1 : Below w.heap.size w w1 := by rw [← hw1]; exact (Below.refl _ w).alloc (Nat.le_refl _) _
 have N1 : NamesZ w1 w.heap.size 0 (fun _ => false) 0 := by rw [← hw1]; exact NamesZ.made w
 have s1 : w1.heap.size = w.heap.size + 1 := by rw [← hw1]; exact World.size_alloc _ _
 obtain ⟨d, hd⟩ : ∃ d, w.heap.size = d := ⟨_, rfl⟩
 rw [hd] at N1
 have hmk : (Instr.makeMap 93 none).run Tryz.prog w = .ok (.map (some d)) w1 := by rw [run_makeMap, hd, hw1]
 have HS := Lib.hid (show Hid (NamesZ w1 d 0 (fun _ => false) 0) ∧ 0 + nNew (fun _ => false) ((l.drop 0).map nameT) = T ∧ Below w.heap.size w w1 from ⟨Lib.hid N1, by rw [List.drop_zero, hT, Nat.zero_add], hb1⟩)
 clear hn hT hok hb1 N1 s1
 go_enter Tryz.func61, Tryz.ntmps61
 go_upto_region 3 with fail
 clear hmk
 go_loopw [11] (fun i wr => ∃ (k : Nat) (K : Kn) (z : Nat), i = .int .i64 (k : Int) ∧ k ≤ n ∧ Hid (NamesZ wr d k K z) ∧ Hid (z + nNew K ((l.drop k).map nameT) = T) ∧ Below w.heap.size w wr) (fun i _ => n - (intOf i).toNat)
 case atStart => exact ⟨0, fun _ => false, 0, rfl, Nat.zero_le _, HS.out.1, Lib.hid HS.out.2.1, HS.out.2.2⟩
 case round =>
   obtain ⟨k, K, z, rfl, hk, HM, HZ, hBw⟩ := hrel
   have hi0 : (0 : Int) ≤ (k : Int) := Int.natCast_nonneg _
   by_cases hlt : k < n
   · have hi1 : (k : Int) < (n : Int) := by omega
     have hdd : decide ((k : Int) < (n : Int)) = true := by simp; omega
     have hkl : k < l.length := by have := HN.out.1; omega
     obtain ⟨ad, rfl, hadB, x0, x1, x2, x3, x4, x5, x6, x7, x8⟩ := (show Tgts wr B A c l from Row.below hA hBw hB).at_ hkl
     have hmem := List.getElem_mem hkl
     have hszk := HOK.out l[k] hmem
     obtain ⟨A0, c0, v0, _⟩ := (hTR l[k] (List.getElem_mem hkl)) 0 (by decide)
     obtain ⟨A1, c1, v1, _⟩ := (hTR l[k] (List.getElem_mem hkl)) 1 (by decide)
     obtain ⟨A2, c2, v2, _⟩ := (hTR l[k] (List.getElem_mem hkl)) 2 (by decide)
     obtain ⟨A3, c3, v3, _⟩ := (hTR l[k] (List.getElem_mem hkl)) 3 (by decide)
     obtain ⟨y0, hy0⟩ : ∃ y, str l[k].1.name = y := ⟨_, rfl⟩
     obtain ⟨y1, hy1⟩ : ∃ y, l[k].1.kind = y := ⟨_, rfl⟩
     obtain ⟨y2, hy2⟩ : ∃ y : Nat, l[k].1.line = y := ⟨_, rfl⟩
     obtain ⟨y7, hy7⟩ : ∃ y, l[k].1.cost = y := ⟨_, rfl⟩
     obtain ⟨y8, hy8⟩ : ∃ y, l[k].1.retry = y := ⟨_, rfl⟩
     obtain ⟨n0, hn0⟩ : ∃ y, (l[k].1.rows 0).length = y := ⟨_, rfl⟩
     rw [hn0] at v0
     obtain ⟨n1, hn1⟩ : ∃ y, (l[k].1.rows 1).length = y := ⟨_, rfl⟩
     rw [hn1] at v1
     obtain ⟨n2, hn2⟩ : ∃ y, (l[k].1.rows 2).length = y := ⟨_, rfl⟩
     rw [hn2] at v2
     obtain ⟨n3, hn3⟩ : ∃ y, (l[k].1.rows 3).length = y := ⟨_, rfl⟩
     rw [hn3] at v3
     rw [hy0] at x0
     rw [hy1] at x1
     rw [hy2] at x2
     rw [v0] at x3
     rw [v1] at x4
     rw [v2] at x5
     rw [v3] at x6
     rw [hy7] at x7
     rw [hy8] at x8
     have hcap' : n ≤ c := hcap
     obtain ⟨w2, hw2⟩ : ∃ w2, wr.alloc (.cells #[.string y0, .int .i64 y1, .int .i64 (y2 : Int), .slice A0 n0 c0, .slice A1 n1 c1, .slice A2 n2 c2, .slice A3 n3 c3, .int .i64 y7, .int .i64 y8] 50) = w2 := ⟨_, rfl⟩
     have hb2 : Below wr.heap.size wr w2 := by rw [← hw2]; exact (Below.refl _ wr).alloc (Nat.le_refl _) _
     have F2 : Full w2 wr.heap.size 50 [.string y0, .int .i64 y1, .int .i64 (y2 : Int), .slice A0 n0 c0, .slice A1 n1 c1, .slice A2 n2 c2, .slice A3 n3 c3, .int .i64 y7, .int .i64 y8] := by rw [← hw2]; exact Full.new wr 50 _
     obtain ⟨u, hu⟩ : ∃ u, wr.heap.size = u := ⟨_, rfl⟩
     rw [hu] at F2
     have u_0 : w2.cell? ⟨u, 0, none⟩ = some (.string y0) := F2.cell 0
     have u_1 : w2.cell? ⟨u, 1, none⟩ = some (.int .i64 y1) := F2.cell 1
     have u_2 : w2.cell? ⟨u, 2, none⟩ = some (.int .i64 (y2 : Int)) := F2.cell 2
     have u_3 : w2.cell? ⟨u, 3, none⟩ = some (.slice A0 n0 c0) := F2.cell 3
     have u_4 : w2.cell? ⟨u, 4, none⟩ = some (.slice A1 n1 c1) := F2.cell 4
     have u_5 : w2.cell? ⟨u, 5, none⟩ = some (.slice A2 n2 c2) := F2.cell 5
     have u_6 : w2.cell? ⟨u, 6, none⟩ = some (.slice A3 n3 c3) := F2.cell 6
     have u_7 : w2.cell? ⟨u, 7, none⟩ = some (.int .i64 y7) := F2.cell 7
     have u_8 : w2.cell? ⟨u, 8, none⟩ = some (.int .i64 y8) := F2.cell 8
     obtain ⟨S, hS⟩ : ∃ S, (nameT l[k]) = S := ⟨_, rfl⟩
     have hys : y0.size ≤ maxLen := by
       rw [← hy0, str_size]
       unfold maxLen
       have q := hszk
       first | omega | (change (l[k].1.name).length ≤ _ at q; omega) | (change (l[k].tx).length ≤ _ at q; omega)
     rw [hS] at hszk
     have HYtcjoiiaankngjaaGreatDoor := Lib.hid (fun W => name_any62 y0 y1 y2 A0 A1 A2 A3 n0 c0 n1 c1 n2 c2 n3 c3 y7 y8 W)
     have HUP := Lib.hid (fun (W : World) (hW : Below w2.heap.size w2 W) => (by
       have q := (((HM.out.on hb2).on hW).put y0 hys (by unfold maxLen; omega) : _)
       exact q))
     have hdk : l.drop k = l[k] :: l.drop (k + 1) := List.drop_eq_getElem_cons hkl
     have hZ := HZ.out
     rw [hdk, List.map_cons, nNew] at hZ
     have ey : y0.data.toList = nameT l[k] := by rw [← hy0, str_data]
     have HZ2 := Lib.hid (show (z + if K y0.data.toList then 0 else 1) + nNew (kPut K y0.data.toList) ((l.drop (k + 1)).map nameT) = T by rw [ey]; omega)
     have HB2 := Lib.hid (hBw.trans (hb2.mono hBw.size))
     clear hy0 hy1 hy2 hy7 hy8 hn0 hn1 hn2 hn3 v0 v1 v2 v3 hS hZ hdk ey hb2 F2 hmem
     go_wp2_with (first
       | (go_at_call 62; ((with_reducible refine (HYtcjoiiaankngjaaGreatDoor.out _).mono ?_); rintro en w3 ⟨rfl, hb3⟩; (obtain ⟨w4, hr4, hm4, hT4⟩ := HUP.out w3 hb3); (have HM4 := Lib.hid hm4); (have HB4 := Lib.hid (show Below w.heap.size w w4 from (HB2.out.trans (hb3.mono HB2.out.size)).trans ⟨hT4.os, hT4.tape, hT4.output, hT4.size, fun g hg => hT4.block g (Nat.lt_of_lt_of_le hg (Nat.le_trans HB2.out.size hb3.size)) (by omega)⟩)); clear hm4 hT4 hb3))
       | (fail "arm"))
     go_roundw
     case rel => exact ⟨k + 1, _, _, by simp, hlt, HM4, HZ2, HB4.out⟩
     case measure => show n - ((k : Int) + 1).toNat < n - (k : Int).toNat; omega
   · obtain rfl : k = n := by omega
     have hdd : decide ((k : Int) < (k : Int)) = false := by simp
     have e : z = T := by
       have q := HZ.out
       rw [List.drop_eq_nil_of_le (by rw [HN.out.1]; exact Nat.le_refl _)] at q
       simpa [nNew] using q
     subst e
     have HB2 := Lib.hid hBw
     have hlen := HM.out.len 3
     have hfin : ((z : Int) == (k : Int)) = decide (z = k) := by rw [Bool.eq_iff_iff]; simp; omega
     go_wp2
     go_ret
     refine ⟨?_, HB2.out⟩
     rw [← hfin]
     rfl
theorem rightPlatforms_any {w : World} {B c : Nat} {A : Option Addr} {l : List Itm} (hA : Itms w B A c l) (hB : B ≤ w.heap.size) (hl : l.length ≤ 17179869184) (hok : ∀ i ∈ l, ItmOk i) :
   Calls Tryz.prog 37 #[.slice A l.length c] w (BoolB w (l.all rPlat && pDis (fun _ => false) (l.map Itm.tx))) := by
 have E := every_57 hA hB (by unfold maxLen; omega) hok
 have D := fun W (hW : Below w.heap.size w W) => distinct_items (show Itms W B A c l from Row.below hA hW hB) (Nat.le_trans hB hW.size) hl (fun i hi => (hok i hi).1.2)
 unfold BoolB at E D ⊢
 obtain ⟨x, hx⟩ : ∃ x, l.all rPlat = x := ⟨_, rfl⟩
 obtain ⟨y, hy⟩ : ∃ x, pDis (fun _ => false) (l.map Itm.tx) = x := ⟨_, rfl⟩
 rw [hx] at E
 rw [hy] at D
 rw [hx, hy]
 obtain ⟨n, hn⟩ : ∃ n, l.length = n := ⟨_, rfl⟩
 rw [hn] at E D ⊢
 have E := Lib.hid E
 have D := Lib.hid D
 clear hx hy hn hA hB hl hok
 cases x <;> cases y
 all_goals
   go_enter Tryz.func37, Tryz.ntmps37
   go_wp2_with (first
     | (go_at_call 56; ((with_reducible refine E.out.mono ?_); rintro en w2 ⟨rfl, hb2⟩; (have HB2 := Lib.hid hb2)))
     | (go_at_call 58; ((with_reducible refine (D.out _ HB2.out).mono ?_); rintro en w3 ⟨rfl, hb3⟩; (have HB3 := Lib.hid (HB2.out.trans (hb3.mono HB2.out.size)))))
     | (fail "arm"))
   all_goals (go_ret; first | exact ⟨rfl, HB3.out⟩ | exact ⟨rfl, HB2.out⟩)
theorem rightTargets_any {w : World} {B c : Nat} {A : Option Addr} {l : List (Tgt × (Nat → Value))} (hA : Tgts w B A c l) (hTR : ∀ p ∈ l, TR w B p) (hB : B ≤ w.heap.size) (hl : l.length ≤ 17179869184) (hok : ∀ i ∈ l, TOk i.1) :
   Calls Tryz.prog 38 #[.slice A l.length c] w (BoolB w ((l.all fun p => rTarget p.1) && pDis (fun _ => false) (l.map nameT))) := by
 have E := every_60 hA hTR hB (by unfold maxLen; omega) hok
 have D := fun W (hW : Below w.heap.size w W) => distinct_targets (show Tgts W B A c l from Row.below hA hW hB) (Nat.le_trans hB hW.size) hl (fun i hi => (hok i hi).name.2) (fun p hp => (hTR p hp).below hW hB)
 unfold BoolB at E D ⊢
 obtain ⟨x, hx⟩ : ∃ x, (l.all fun p => rTarget p.1) = x := ⟨_, rfl⟩
 obtain ⟨y, hy⟩ : ∃ x, pDis (fun _ => false) (l.map nameT) = x := ⟨_, rfl⟩
 rw [hx] at E
 rw [hy] at D
 rw [hx, hy]
 obtain ⟨n, hn⟩ : ∃ n, l.length = n := ⟨_, rfl⟩
 rw [hn] at E D ⊢
 have E := Lib.hid E
 have D := Lib.hid D
 clear hx hy hn hA hTR hB hl hok
 cases x <;> cases y
 all_goals
   go_enter Tryz.func38, Tryz.ntmps38
   go_wp2_with (first
     | (go_at_call 59; ((with_reducible refine E.out.mono ?_); rintro en w2 ⟨rfl, hb2⟩; (have HB2 := Lib.hid hb2)))
     | (go_at_call 61; ((with_reducible refine (D.out _ HB2.out).mono ?_); rintro en w3 ⟨rfl, hb3⟩; (have HB3 := Lib.hid (HB2.out.trans (hb3.mono HB2.out.size)))))
     | (fail "arm"))
   all_goals (go_ret; first | exact ⟨rfl, HB3.out⟩ | exact ⟨rfl, HB2.out⟩)
structure RB (w : World) (B : Nat) (Ap : Option Addr) (np cp : Nat) (A : Option Addr) (n c : Nat) (pl : List Itm) (tl : List (Tgt × (Nat → Value))) : Prop where
 hpl : Itms w B Ap cp pl
 hnp : pl.length = np
 htl : Tgts w B A c tl
 hn : tl.length = n
 rows : ∀ p ∈ tl, TR w B p
theorem RB.below {w w' : World} {B B' : Nat} {Ap : Option Addr} {np cp : Nat} {A : Option Addr} {n c : Nat} {pl : List Itm} {tl : List (Tgt × (Nat → Value))} (h : RB w B Ap np cp A n c pl tl) (hb : Below B' w w') (hB : B ≤ B') : RB w' B Ap np cp A n c pl tl :=
 ⟨Row.below h.hpl hb hB, h.hnp, Row.below h.htl hb hB, h.hn, fun p hp => (h.rows p hp).below hb hB⟩
structure BOk (pl : List Itm) (tl : List (Tgt × (Nat → Value))) : Prop where
 npl : pl.length ≤ 17179869184
 hpl : ∀ i ∈ pl, ItmOk i
 ntl : tl.length ≤ 17179869184
 htl : ∀ p ∈ tl, TOk p.1
def rBuild (pl : List Itm) (L : List Tgt) : Bool := (pl.all rPlat && pDis (fun _ => false) (pl.map Itm.tx)) && (L.all rTarget && pDis (fun _ => false) (L.map Tgt.name))
theorem Right_any {w : World} {B : Nat} {Ap : Option Addr} {np cp : Nat} {A : Option Addr} {n c : Nat} {pl : List Itm} {tl : List (Tgt × (Nat → Value))} (h : RB w B Ap np cp A n c pl tl) (hB : B ≤ w.heap.size) (hok : BOk pl tl) :
   Calls Tryz.prog 24 #[.agg #[.slice Ap np cp, .slice A n c]] w (BoolB w (rBuild pl (tl.map Prod.fst))) := by
 have e1 : ((tl.map Prod.fst).all rTarget) = (tl.all fun p => rTarget p.1) := by rw [List.all_map]; rfl
 have e2 : ((tl.map Prod.fst).map Tgt.name) = tl.map nameT := by rw [List.map_map]; rfl
 unfold rBuild
 rw [e1, e2]
 obtain ⟨w1, hw1⟩ : ∃ w1, w.alloc (.cells #[.slice Ap np cp, .slice A n c] 28) = w1 := ⟨_, rfl⟩
 have hb1 : Below w.heap.size w w1 := by rw [← hw1]; exact (Below.refl _ w).alloc (Nat.le_refl _) _
 have F1 : Full w1 w.heap.size 28 [.slice Ap np cp, .slice A n c] := by rw [← hw1]; exact Full.new w 28 _
 have h1 := h.below hb1 hB
 have hB1 := Nat.le_trans hB hb1.size
 have P := rightPlatforms_any h1.hpl hB1 hok.npl hok.hpl
 rw [h.hnp] at P
 have Q := fun W (hW : Below w1.heap.size w1 W) => (by
   have z := rightTargets_any (h1.below hW hB1).htl (h1.below hW hB1).rows (Nat.le_trans hB1 hW.size) hok.ntl hok.htl
   rw [h.hn] at z
   exact z : Calls Tryz.prog 38 #[.slice A n c] W (BoolB W ((tl.all fun p => rTarget p.1) && pDis (fun _ => false) (tl.map nameT))))
 unfold BoolB at P Q ⊢
 obtain ⟨x, hx⟩ : ∃ x, (pl.all rPlat && pDis (fun _ => false) (pl.map Itm.tx)) = x := ⟨_, rfl⟩
 obtain ⟨y, hy⟩ : ∃ x, ((tl.all fun p => rTarget p.1) && pDis (fun _ => false) (tl.map nameT)) = x := ⟨_, rfl⟩
 rw [hx] at P
 rw [hy] at Q
 rw [hx, hy]
 obtain ⟨r, hr⟩ : ∃ r, w.heap.size = r := ⟨_, rfl⟩
 rw [hr] at F1
 have k0 : w1.cell? ⟨r, 0, none⟩ = some (.slice Ap np cp) := F1.cell 0
 have F1H := Lib.hid F1
 have P := Lib.hid P
 have Q := Lib.hid Q
 have HB1 := Lib.hid hb1
 clear hx hy h h1 hB hB1 hok F1 hb1 e1 e2
 cases x <;> cases y
 all_goals
   go_enter Tryz.func24, Tryz.ntmps24
   go_wp2_with (first
     | (go_at_call 37; ((with_reducible refine P.out.mono ?_); rintro en w2 ⟨rfl, hb2⟩; (have HB2 := Lib.hid (HB1.out.trans (hb2.mono HB1.out.size))); (have HC2 := Lib.hid hb2); (have k1 : w2.cell? ⟨r, 1, none⟩ = some (.slice A n c) := (F1H.out.on hb2).cell 1)))
     | (go_at_call 38; ((with_reducible refine (Q.out _ HC2.out).mono ?_); rintro en w3 ⟨rfl, hb3⟩; (have HB3 := Lib.hid (HB2.out.trans (hb3.mono HB2.out.size)))))
     | (fail "arm"))
   all_goals (go_ret; first | exact ⟨rfl, HB3.out⟩ | exact ⟨rfl, HB2.out⟩)
def bytC (l : List UInt8) : List Value := l.map fun b => Value.int .u8 (b.toNat : Int)
def PBv (w : World) (B b : Nat) (p : Value) (l : List UInt8) : Prop := B ≤ b ∧ ∃ v, Full w b 77 [p, v] ∧ w.ownsRow B 5 1 v l.length (bytC l)
def PBd (w : World) (B b : Nat) (l : List UInt8) : Prop := PBv w B b (.pointer none) l ∨ PBv w B b (.pointer (some ⟨b, 0, none⟩)) l
abbrev uP (b : Nat) : Value := .pointer (some ⟨b, 0, none⟩)
theorem PBv.lt {w : World} {B b : Nat} {p : Value} {l : List UInt8} (h : PBv w B b p l) : b < w.heap.size := by obtain ⟨_, v, f, _⟩ := h; exact f.lt
def Tb (b : Nat) (w w' : World) : Prop := Turn (fun g => g = b ∨ ∃ cur fr, w.heap[g]? = some (.cells cur 5 fr)) w w'
theorem Tb.of {b : Nat} {w w' : World} (h : Below w.heap.size w w') : Tb b w w' := Turn.of h
theorem Tb.trans {b : Nat} {w w1 w2 : World} (h : Tb b w w1) (k : Tb b w1 w2) : Tb b w w2 := by
 refine ⟨k.os.trans h.os, k.tape.trans h.tape, k.output.trans h.output, Nat.le_trans h.size k.size, fun g hg hn => ?_⟩
 have e1 := h.block g hg hn
 refine (k.block g (Nat.lt_of_lt_of_le hg h.size) fun e => hn ?_).trans e1
 rcases e with e | ⟨cur, fr, e⟩
 · exact .inl e
 · exact .inr ⟨cur, fr, by rw [← e1]; exact e⟩
theorem Tb.full {b : Nat} {w w' : World} (h : Tb b w w') {g : Nat} {t : TypeId} {cs : List Value} (F : Full w g t cs) (hg : g ≠ b) (ht : t ≠ 5) : Full w' g t cs :=
 Turn.far h F fun e => by
   rcases e with e | ⟨cur, fr, e⟩
   · exact hg e
   · rw [show w.heap[g]? = some _ from F] at e
     injection e with e
     injection e with _ e
     exact ht e
theorem PBv.on {w w' : World} {B b : Nat} {p : Value} {l : List UInt8} (h : PBv w B b p l) (hb : Below w.heap.size w w') : PBv w' B b p l := by
 obtain ⟨h1, v, F, hO⟩ := h
 exact ⟨h1, v, F.on hb, own_keep hO hb⟩
theorem PBd.on {w w' : World} {B b : Nat} {l : List UInt8} (h : PBd w B b l) (hb : Below w.heap.size w w') : PBd w' B b l := h.imp (fun z => z.on hb) fun z => z.on hb
theorem PBd.drew {w : World} {B b : Nat} {l : List UInt8} (h : PBd w B b l) : PBd w.drew B b l := h.on (Below.drew (Below.refl _ w))
def WrOut (w : World) (B b : Nat) (l : List UInt8) (v : Value) (en : Ending) (w' : World) : Prop := en = .returned v ∧ PBv w' B b (uP b) l ∧ Below B w w' ∧ Tb b w w'
theorem full_shape {w : World} {g : Nat} {t : TypeId} {cs : List Value} (F : Full w g t cs) : w.shape? g = some (t, cs.length) := by
 unfold World.shape?
 rw [show w.heap[g]? = some _ from F]
 simp
theorem size75 : (Tryz.prog.info? 75).map (·.size) = some 2 := by kernel_rfl
theorem lies77 : liesAt Tryz.prog Tryz.prog.depth 77 (2 / Tryz.prog.cellsOf 77) 0 75 1 = true := by kernel_rfl
theorem copyCheck_any {w : World} {B b : Nat} {l : List UInt8} (h : PBd w B b l) : Calls Tryz.prog 118 #[.pointer (some ⟨b, 0, none⟩)] w (WrOut w B b l (.tuple #[])) := by
 unfold WrOut
 obtain ⟨j, hj, hjs⟩ := Option.map_eq_some_iff.1 size75
 rcases h with h | h
 · obtain ⟨hB, v, F, hO⟩ := h
   have k0 : w.cell? ⟨b, 0, none⟩ = some (.pointer none) := F.cell 0
   have kf := F.frozen 0
   have hsh := full_shape F
   have hTs : Turn (fun g => g = b) w (w.setCell ⟨b, 0, none⟩ (uP b)) := Turn.set_ (F := fun g => g = b) (a := ⟨b, 0, none⟩) rfl _
   have HO := Lib.hid (show PBv (w.setCell ⟨b, 0, none⟩ (uP b)) B b (uP b) l ∧ Below B w (w.setCell ⟨b, 0, none⟩ (uP b)) ∧ Tb b w (w.setCell ⟨b, 0, none⟩ (uP b)) from
     ⟨⟨hB, v, F.set_ 0 _, own_off hO hTs (own_full_ne hO F (by decide))⟩, (Below.refl B w).setCell (p := ⟨b, 0, none⟩) hB _, hTs.mono fun _ e => .inl e⟩)
   have c1 : (convert 72 160 (.pointer (some ⟨b, 0, none⟩))).run Tryz.prog w = .ok (.pointer (some ⟨b, 0, none⟩)) w := Lib.run_to_unsafe w ⟨b, 0, none⟩ Tryz.underlying72 Tryz.underlying160 hj (by rw [hjs]; decide) hsh (Nat.zero_lt_succ 1)
   have c2 : (convert 160 72 (.pointer (some ⟨b, 0, none⟩))).run Tryz.prog w = .ok (.pointer (some ⟨b, 0, none⟩)) w := Lib.run_from_unsafe w ⟨b, 0, none⟩ Tryz.underlying160 Tryz.underlying72 hj hsh lies77
   have c3 : (callFunc 136 #[.pointer (some ⟨b, 0, none⟩)]).run Tryz.prog w = .ok (.value (.pointer (some ⟨b, 0, none⟩))) w := by
     rw [run_callFunc_extern Tryz.func136 (by kernel_rfl) (by kernel_rfl) (by kernel_rfl) (e := Extern.AbiNoEscape.same) (by kernel_rfl), Lib.run_noEscape]
     rfl
   clear F hO hTs hsh
   go_enter Tryz.func118, Tryz.ntmps118
   go_wp2
   go_end0
   exact ⟨rfl, HO.out⟩
 · obtain ⟨hB, v, F, hO⟩ := h
   have k0 : w.cell? ⟨b, 0, none⟩ = some (.pointer (some ⟨b, 0, none⟩)) := F.cell 0
   have HO := Lib.hid (show PBv w B b (uP b) l ∧ Below B w w ∧ Tb b w w from ⟨⟨hB, v, F, hO⟩, Below.refl _ _, Turn.refl _ w⟩)
   clear F hO
   go_enter Tryz.func118, Tryz.ntmps118
   go_wp2
   rw [Lib.run_neq_ptr_same w _ Tryz.underlying72 hj]
   go_wp2
   go_end0
   exact ⟨rfl, HO.out⟩
theorem bytC_app (l m : List UInt8) : bytC l ++ bytC m = bytC (l ++ m) := by unfold bytC; rw [List.map_append]
theorem strCells_bytC (s : ByteArray) : Lib.strCells s = bytC s.data.toList := rfl
set_option maxHeartbeats 2000000 in
theorem writeString_any {w : World} {B b : Nat} {l : List UInt8} (h : PBd w B b l) (s : ByteArray) (hl : l.length + s.size ≤ 140737488355328) (hB : B ≤ w.heap.size) :
   Calls Tryz.prog 85 #[.pointer (some ⟨b, 0, none⟩), .string s] w (WrOut w B b (l ++ s.data.toList) (.tuple #[.int .i64 (s.size : Int), .nilIface])) := by
 unfold WrOut
 obtain ⟨i0, hi, hz0, hz1, hz2⟩ := info_parts (show (Tryz.prog.info? 5).map (fun i => (i.zero, i.size, i.bytes)) = some (some (.int .u8 0), 1, 1) by kernel_rfl)
 have CC := Lib.hid (copyCheck_any h)
 unfold WrOut at CC
 have hbl : ∀ {W : World} {p : Value}, PBv W B b p l → True := fun _ => trivial
 clear hbl h
 go_enter Tryz.func85, Tryz.ntmps85
 go_upto_region 2 with (first
   | (go_at_call 118; ((with_reducible refine CC.out.mono ?_); rintro en w1 ⟨rfl, ⟨hB1, v, F1, hO1⟩, hb1, ht1⟩))
   | (fail "arm"))
 obtain ⟨A, c, rfl⟩ := own_form hO1
 have k0 : w1.cell? ⟨b, 1, none⟩ = some (.slice A l.length c) := F1.cell 1
 have HF1 := Lib.hid F1
 have HO1 := Lib.hid hO1
 have HB1 := Lib.hid (And.intro hb1 ht1)
 have hs1 := hb1.size
 clear F1 hO1 hb1 ht1
 go_wp2_with (first
   | (at_builtin; go_loud (refine Lib.wpList_append_own_string _ rfl _ _ 73 9 rfl B 5 i0 Tryz.underlying73 Tryz.underlying9 hi hz0 hz1 hz2 (.slice A l.length c) _ _ rfl HO1.out s rfl (by unfold maxLen; omega) hl (by omega) ?_; intro v' w2 hown hgrow _; (have HO2 := Lib.hid hown); (have HG2 := Lib.hid hgrow); (have F2 := HF1.out.grown hgrow (HF1.out.not_row HO1.out (by decide))); (have z0 : w2.cell? ⟨b, 1, none⟩ = some (.slice A l.length c) := F2.cell 1); (have z1 := F2.frozen 1); (obtain ⟨A2, c2, rfl⟩ := own_form hown); (have HF2 := Lib.hid F2); clear hown hgrow F2))
   | (fail "arm"))
 have hrow : ∀ g, (Value.slice A l.length c).ownBlock = some g → B ≤ g := row_ge HO1.out
 have hTs : Turn (fun g => g = b) w2 (w2.setCell ⟨b, 1, none⟩ (.slice A2 (l.length + s.size) c2)) := Turn.set_ (F := fun g => g = b) (a := ⟨b, 1, none⟩) rfl _
 have hx : bytC l ++ Lib.strCells s = bytC (l ++ s.data.toList) := by rw [strCells_bytC, bytC_app]
 have ho := HO2.out
 rw [hx] at ho
 have hlen : (l ++ s.data.toList).length = l.length + s.size := by rw [List.length_append, data_len]
 have R1 : PBv (w2.setCell ⟨b, 1, none⟩ (.slice A2 (l.length + s.size) c2)) B b (uP b) (l ++ s.data.toList) := ⟨hB1, _, HF2.out.set_ 1 _, by rw [hlen]; exact own_off ho hTs (own_full_ne ho HF2.out (by decide))⟩
 have R2 : Below B w (w2.setCell ⟨b, 1, none⟩ (.slice A2 (l.length + s.size) c2)) := (HB1.out.1.grown HG2.out (by omega) (fun k hk => hrow k hk)).setCell (p := ⟨b, 1, none⟩) hB1 _
 have R3 : Tb b w (w2.setCell ⟨b, 1, none⟩ (.slice A2 (l.length + s.size) c2)) := by
   refine HB1.out.2.trans ?_
   have g1 : Turn (fun g => g = b ∨ ∃ cur fr, w1.heap[g]? = some (.cells cur 5 fr)) w1 w2 := Turn.grown HG2.out fun g hg => .inl (.inr (by
     rcases HO1.out.2 with ⟨e, _⟩ | ⟨g2, cap, cur, e, _, hh, _⟩
     · rw [e] at hg; cases hg
     · rw [e] at hg; injection hg with hg; subst hg; exact ⟨cur, _, hh⟩))
   exact g1.late hTs fun g e => .inl (.inl e)
 have HR := Lib.hid (And.intro R1 (And.intro R2 R3))
 clear R1 R2 R3 hTs ho hx
 go_wp2
 go_ret2
 exact ⟨rfl, HR.out⟩
set_option maxHeartbeats 2000000 in
theorem writeByte_any {w : World} {B b : Nat} {l : List UInt8} (h : PBd w B b l) (x : UInt8) (hl : l.length + 1 ≤ 140737488355328) (hB : B ≤ w.heap.size) :
   Calls Tryz.prog 86 #[.pointer (some ⟨b, 0, none⟩), .int .u8 (x.toNat : Int)] w (WrOut w B b (l ++ [x]) .nilIface) := by
 unfold WrOut
 obtain ⟨i0, hi, hz0, hz1, hz2⟩ := info_parts (show (Tryz.prog.info? 5).map (fun i => (i.zero, i.size, i.bytes)) = some (some (.int .u8 0), 1, 1) by kernel_rfl)
 have CC := Lib.hid (copyCheck_any h)
 unfold WrOut at CC
 obtain ⟨z, hz⟩ : ∃ z : Int, (x.toNat : Int) = z := ⟨_, rfl⟩
 rw [hz]
 have HZ := Lib.hid hz
 clear h hz
 go_enter Tryz.func86, Tryz.ntmps86
 go_upto_region 2 with (first
   | (go_at_call 118; ((with_reducible refine CC.out.mono ?_); rintro en w1 ⟨rfl, ⟨hB1, v, F1, hO1⟩, hb1, ht1⟩))
   | (fail "arm"))
 obtain ⟨A, c, rfl⟩ := own_form hO1
 have k0 : w1.cell? ⟨b, 1, none⟩ = some (.slice A l.length c) := F1.cell 1
 have hba : Below w1.heap.size w1 (w1.alloc (.cells #[.int .u8 z] 5)) := (Below.refl _ w1).alloc (Nat.le_refl _) _
 have HF1 := Lib.hid (F1.on hba)
 have HO1 := Lib.hid (own_keep hO1 hba)
 have HB1 := Lib.hid (And.intro (hb1.trans (hba.mono (by have := hb1.size; omega))) (ht1.trans (Tb.of hba)))
 have HC := Lib.hid (show ∀ j u, [Value.int .u8 z][j]? = some u → (w1.alloc (.cells #[.int .u8 z] 5)).cell? ((⟨w1.heap.size, 0, none⟩ : Addr).add j) = some u from fun j u hj => by
   obtain ⟨ad, e, _, hc⟩ := ((Full.new w1 5 [.int .u8 z]).row 1 1 rfl 1 (Nat.le_refl _)).2.2.2 j u hj
   injection e with e
   subst e
   exact hc)
 have hs1 := hb1.size
 have hsa := hba.size
 clear F1 hO1 hb1 ht1 hba
 go_wp2_with (first
   | (at_builtin; go_loud (refine wpList_append_own _ rfl _ _ 73 rfl B 5 i0 (.int .u8 0) 1 1 Tryz.underlying73 hi hz0 hz1 hz2 rfl (by decide) (.slice A l.length c) _ _ rfl HO1.out ⟨w1.heap.size, 0, none⟩ 1 1 [.int .u8 z] rfl rfl HC.out (by intro u hu; simp at hu; subst hu; rfl) (by unfold maxLen; omega) (by omega) (by simp; omega) ?_; intro v' w2 hown hgrow _; (have HO2 := Lib.hid hown); (have HG2 := Lib.hid hgrow); (have F2 := HF1.out.grown hgrow (HF1.out.not_row HO1.out (by decide))); (have z0 : w2.cell? ⟨b, 1, none⟩ = some (.slice A l.length c) := F2.cell 1); (have z1 := F2.frozen 1); (obtain ⟨A2, c2, rfl⟩ := own_form hown); (have HF2 := Lib.hid F2); clear hown hgrow F2))
   | (fail "arm"))
 have hrow : ∀ g, (Value.slice A l.length c).ownBlock = some g → B ≤ g := row_ge HO1.out
 have hTs : Turn (fun g => g = b) w2 (w2.setCell ⟨b, 1, none⟩ (.slice A2 (l.length + 1) c2)) := Turn.set_ (F := fun g => g = b) (a := ⟨b, 1, none⟩) rfl _
 have hx : bytC l ++ [Value.int .u8 z] = bytC (l ++ [x]) := by rw [← HZ.out, ← bytC_app]; rfl
 have ho := HO2.out
 rw [hx] at ho
 have hlen : (l ++ [x]).length = l.length + 1 := by simp
 have R1 : PBv (w2.setCell ⟨b, 1, none⟩ (.slice A2 (l.length + 1) c2)) B b (uP b) (l ++ [x]) := ⟨hB1, _, HF2.out.set_ 1 _, by rw [hlen]; exact own_off ho hTs (own_full_ne ho HF2.out (by decide))⟩
 have R2 : Below B w (w2.setCell ⟨b, 1, none⟩ (.slice A2 (l.length + 1) c2)) := (HB1.out.1.grown HG2.out (by omega) (fun k hk => hrow k hk)).setCell (p := ⟨b, 1, none⟩) hB1 _
 have R3 : Tb b w (w2.setCell ⟨b, 1, none⟩ (.slice A2 (l.length + 1) c2)) := by
   refine HB1.out.2.trans ?_
   have g1 : Turn (fun g => g = b ∨ ∃ cur fr, (w1.alloc (.cells #[.int .u8 z] 5)).heap[g]? = some (.cells cur 5 fr)) (w1.alloc (.cells #[.int .u8 z] 5)) w2 := Turn.grown HG2.out fun g hg => .inl (.inr (by
     rcases HO1.out.2 with ⟨e, _⟩ | ⟨g2, cap, cur, e, _, hh, _⟩
     · rw [e] at hg; cases hg
     · rw [e] at hg; injection hg with hg; subst hg; exact ⟨cur, _, hh⟩))
   exact g1.late hTs fun g e => .inl (.inl e)
 have HR := Lib.hid (And.intro R1 (And.intro R2 R3))
 clear R1 R2 R3 hTs ho hx
 go_wp2
 go_ret
 exact ⟨rfl, HR.out⟩
set_option maxHeartbeats 2000000 in
set_option maxHeartbeats 2000000 in
theorem string_some {w : World} {B b : Nat} {p : Value} {l : List UInt8} (h : PBv w B b p l) (h0 : l ≠ []) : Calls Tryz.prog 36 #[.pointer (some ⟨b, 0, none⟩)] w fun en w' => en = .returned (.string (str l)) ∧ Below B w w' := by
 obtain ⟨hB, v, F, hO⟩ := h
 have hl0 : l.length ≠ 0 := by simpa using h0
 obtain ⟨g, c, rfl, _, hnc, hcm⟩ := own_some hO (by omega)
 have hg : B ≤ g := row_ge hO g rfl
 obtain ⟨cur, hgc, hsz⟩ : ∃ cur : Array Value, w.heap[g]? = some (.cells cur 5 (0, 0)) ∧ l.length ≤ cur.size := by
   rcases hO.2 with ⟨e, _⟩ | ⟨g2, cap, cur, e, _, hh, hx, _, hy, _⟩
   · cases e
   · injection e with e1 _ e3
     injection e1 with e1
     injection e1 with e1
     subst e1
     exact ⟨cur, hh, by omega⟩
 have c1 : w.drew.cell? ⟨b, 1, none⟩ = some (.slice (some ⟨g, 0, none⟩) l.length c) := F.cell 1
 have hSD : (Builtin.unsafeSliceData_ #[73] 112 #[.slice (some ⟨g, 0, none⟩) l.length c]).run Tryz.prog w.drew = .ok (.pointer (some ⟨g, 0, none⟩)) w.drew := Lib.run_unsafeSliceData_row _ _ _ _ _ _ (by omega)
 have hUS : (Builtin.unsafeString_ #[112, 3] 9 #[.pointer (some ⟨g, 0, none⟩), .int .i64 (l.length : Int)]).run Tryz.prog w.drew = .ok (.string (str l)) (w.drew.freeze ⟨g, 0, none⟩ l.length) := by
   refine Lib.run_unsafeString_row w.drew 112 3 9 5 Tryz.underlying112 (by kernel_rfl) g cur.size (by have hg' : w.drew.heap[g]? = some (.cells cur 5 (0, 0)) := hgc; simp [World.shape?, hg']) l h0 hsz (by unfold maxLen at hcm; omega) ?_
   intro j x hx
   exact hO.cells (g := g) rfl j (.int .u8 (x.toNat : Int)) (by unfold bytC; simp [hx])
 have HB := Lib.hid (show Below B w (w.drew.freeze ⟨g, 0, none⟩ l.length) from Lib.below_freeze (Below.drew (Below.refl B w)) (p := ⟨g, 0, none⟩) hg _)
 obtain ⟨S, hS⟩ : ∃ S, str l = S := ⟨_, rfl⟩
 rw [hS] at hUS ⊢
 clear hO F hgc
 go_enter Tryz.func36, Tryz.ntmps36
 go_upto_region 1 with fail
 go_region
 all_goals (go_wp2; go_ret; exact ⟨rfl, HB.out⟩)
set_option maxHeartbeats 2000000 in
theorem string_none {w : World} {B b : Nat} {p : Value} (F : Full w b 77 [p, .slice none 0 0]) : Calls Tryz.prog 36 #[.pointer (some ⟨b, 0, none⟩)] w fun en w' => en = .returned (.string ⟨#[]⟩) ∧ Below B w w' := by
 have c1 : w.drew.cell? ⟨b, 1, none⟩ = some (.slice none 0 0) := F.cell 1
 have hSD : (Builtin.unsafeSliceData_ #[73] 112 #[.slice none 0 0]).run Tryz.prog w.drew = .ok (.pointer none) w.drew := rfl
 have hUS : (Builtin.unsafeString_ #[112, 3] 9 #[.pointer none, .int .i64 0]).run Tryz.prog w.drew = .ok (.string ⟨#[]⟩) w.drew := Lib.run_unsafeString_none w.drew _ _ _ none
 have HB := Lib.hid (show Below B w w.drew from Below.drew (Below.refl B w))
 clear F
 go_enter Tryz.func36, Tryz.ntmps36
 go_upto_region 1 with fail
 go_region
 all_goals (go_wp2; go_ret; exact ⟨rfl, HB.out⟩)
def catB (ps : List ByteArray) : List UInt8 := ps.flatMap fun s => s.data.toList
def PrOut (w : World) (B b : Nat) (l : List UInt8) (en : Ending) (w' : World) : Prop := en = .returned (.tuple #[]) ∧ PBv w' B b (uP b) l ∧ Below B w w' ∧ Tb b w w'
def lnC (ps : List ByteArray) : List Value := ps.map fun s => Value.string s
theorem lnC_at {w : World} {g : Nat} {ps : List ByteArray} (F : Full w g 9 (lnC ps)) {k : Nat} (hk : k < ps.length) : w.cell? ⟨g, k, none⟩ = some (.string ps[k]) := by
 rw [F.cell k]
 unfold lnC
 rw [List.getElem?_map, List.getElem?_eq_getElem hk]
 rfl
theorem catB_take (ps : List ByteArray) (k : Nat) (hk : k < ps.length) : catB (ps.take (k + 1)) = catB (ps.take k) ++ (ps[k]).data.toList := by
 unfold catB
 rw [List.take_succ_eq_append_getElem hk, List.flatMap_append]
 simp
theorem catB_le (ps : List ByteArray) (k : Nat) : (catB (ps.take k)).length ≤ (catB ps).length := by
 conv => rhs; rw [← List.take_append_drop k ps]
 unfold catB
 rw [List.flatMap_append, List.length_append]
 omega
set_option maxHeartbeats 4000000 in
theorem line_any {w : World} {B b g : Nat} {l : List UInt8} {ps : List ByteArray} (h : PBd w B b l) (F : Full w g 9 (lnC ps)) (hgb : g ≠ b) (hB : B ≤ w.heap.size) (hlen : l.length + (catB ps).length + 1 ≤ 140737488355328) (hn : ps.length ≤ 1000) :
   Calls Tryz.prog 52 #[.pointer (some ⟨b, 0, none⟩), .slice (some ⟨g, 0, none⟩) ps.length ps.length] w (PrOut w B b (l ++ catB ps ++ [10])) := by
 unfold PrOut
 obtain ⟨n, hnn⟩ : ∃ n, ps.length = n := ⟨_, rfl⟩
 rw [hnn] at hn ⊢
 have HN := Lib.hid hnn
 have HF := Lib.hid F
 have HS := Lib.hid (show Hid (PBd w B b (l ++ catB (ps.take 0))) ∧ Below B w w ∧ Tb b w w from ⟨Lib.hid (by rw [List.take_zero]; show PBd w B b (l ++ []); rw [List.append_nil]; exact h), Below.refl _ _, Turn.refl _ w⟩)
 clear hnn F h
 go_enter Tryz.func52, Tryz.ntmps52
 go_upto_region 1 with fail
 go_loopw [8] (fun i wr => ∃ k : Nat, i = .int .i64 (k : Int) ∧ k ≤ n ∧ Hid (PBd wr B b (l ++ catB (ps.take k))) ∧ Hid (Below B w wr) ∧ Hid (Tb b w wr)) (fun i _ => n - (intOf i).toNat)
 case atStart => exact ⟨0, rfl, Nat.zero_le _, HS.out.1, Lib.hid HS.out.2.1, Lib.hid HS.out.2.2⟩
 case round =>
   obtain ⟨k, rfl, hk, HP, HB, HT⟩ := hrel
   have hi0 : (0 : Int) ≤ (k : Int) := Int.natCast_nonneg _
   have hsz := HB.out.size
   by_cases hlt : k < n
   · have hi1 : (k : Int) < (n : Int) := by omega
     have hd : decide ((k : Int) < (n : Int)) = true := by simp; omega
     have hkl : k < ps.length := by have := HN.out; omega
     have x0 := lnC_at (HT.out.full HF.out hgb (by decide)) hkl
     have e1 := catB_take ps k hkl
     have e2 := catB_le ps (k + 1)
     obtain ⟨S, hS⟩ : ∃ S, ps[k] = S := ⟨_, rfl⟩
     rw [hS] at x0 e1
     have hl2 : (l ++ catB (ps.take k)).length + S.size ≤ 140737488355328 := by
       rw [e1, List.length_append, data_len] at e2
       rw [List.length_append]
       omega
     have WS := writeString_any HP.out S hl2 (by omega)
     unfold WrOut at WS
     rw [List.append_assoc, ← e1] at WS
     have WS := Lib.hid WS
     clear hS e1 e2 hl2
     go_wp2_with (first
       | (go_at_call 85; ((with_reducible refine WS.out.mono ?_); rintro en w2 ⟨rfl, hp2, hb2, ht2⟩; (have HP2 := Lib.hid (show PBd w2 B b _ from .inr hp2)); (have HB2 := Lib.hid (HB.out.trans hb2)); (have HT2 := Lib.hid (HT.out.trans ht2)); clear hp2 hb2 ht2))
       | (fail "arm"))
     go_roundw
     case rel => exact ⟨k + 1, by simp, hlt, HP2, HB2, HT2⟩
     case measure => show n - ((k : Int) + 1).toNat < n - (k : Int).toNat; omega
   · obtain rfl : k = n := by omega
     have hd : decide ((k : Int) < (k : Int)) = false := by simp
     have et : ps.take k = ps := List.take_of_length_le (by rw [HN.out]; exact Nat.le_refl _)
     have WB := writeByte_any HP.out 10 (by rw [et, List.length_append]; omega) (by omega)
     unfold WrOut at WB
     rw [et] at WB
     have WB := Lib.hid (show Calls Tryz.prog 86 #[.pointer (some ⟨b, 0, none⟩), .int .u8 10] wr _ from WB)
     clear et
     go_wp2_with (first
       | (go_at_call 86; ((with_reducible refine WB.out.mono ?_); rintro en w2 ⟨rfl, hp2, hb2, ht2⟩; (have HR := Lib.hid (And.intro hp2 (And.intro (HB.out.trans hb2) (HT.out.trans ht2)))); clear hp2 hb2 ht2))
       | (fail "arm"))
     go_end0
     exact ⟨rfl, HR.out⟩
def wGlobP : List UInt8 := [103, 108, 111, 98, 40]
def fSrc (i : Itm) : List UInt8 := if i.gl then wGlobP ++ ([34] ++ i.tx ++ [34]) ++ [41] else [34] ++ i.tx ++ [34]
def fLim (p : List UInt8) : List UInt8 := if p == [] then [] else [32] ++ p
theorem str_of {a : ByteArray} {l : List UInt8} (h : a.data.toList = l) : a = str l := by
 apply Go.WideShapes.bytes_inj
 rw [str_data]
 exact h
theorem limit_any (p : List UInt8) (hp : p.length ≤ 4294967000) (w : World) : Calls Tryz.prog 121 #[.string (str p)] w (fun e w' => e = .returned (.string (str (fLim p))) ∧ w' = w) := by
 unfold fLim
 have e2 := empty_eq p
 obtain ⟨z, hz⟩ : ∃ z, (p == []) = z := ⟨_, rfl⟩
 obtain ⟨x, hx⟩ : ∃ x, str p = x := ⟨_, rfl⟩
 rw [hz] at e2 ⊢
 rw [hx] at e2 ⊢
 have hxs : x.size ≤ 4294967000 := by rw [← hx, str_size]; exact hp
 have n1 : ¬ 9223372036854775807 < 1 + x.size := by omega
 clear hp
 cases z with
 | true =>
   rw [if_pos rfl]
   clear hz hx
   go_enter Tryz.func121, Tryz.ntmps121
   go_wp2
   go_ret
   exact ⟨rfl, rfl⟩
 | false =>
   rw [if_neg (by decide)]
   have HX := Lib.hid hx
   clear hz hx
   go_enter Tryz.func121, Tryz.ntmps121
   go_wp2
   go_ret
   refine ⟨?_, rfl⟩
   refine congrArg (fun z => Ending.returned (Value.string z)) (str_of ?_)
   rw [← HX.out]
   simp [str]
theorem inSource_any (i : Itm) (hi : i.tx.length ≤ 4294967000) (w : World) : Calls Tryz.prog 122 #[itmV i] w (StrB w (str (fSrc i))) := by
 unfold StrB itmV
 obtain ⟨x0, hx0⟩ : ∃ x, str i.tx = x := ⟨_, rfl⟩
 obtain ⟨x2, hx2⟩ : ∃ x, str i.pl = x := ⟨_, rfl⟩
 obtain ⟨g, hg⟩ : ∃ x, i.gl = x := ⟨_, rfl⟩
 obtain ⟨l, hl⟩ : ∃ x : Nat, i.ln = x := ⟨_, rfl⟩
 have HX := Lib.hid hx0
 unfold fSrc
 have hxs : x0.size ≤ 4294967000 := by rw [← hx0, str_size]; exact hi
 have n1 : ¬ 9223372036854775807 < 1 + x0.size := by omega
 have n2 : ¬ 9223372036854775807 < 1 + x0.size + 1 := by omega
 have n3 : ¬ 9223372036854775807 < 5 + (1 + x0.size + 1) := by omega
 have n4 : ¬ 9223372036854775807 < 5 + (1 + x0.size + 1) + 1 := by omega
 clear hi
 rw [hx0, hx2, hg, hl]
 clear hx0 hx2 hg hl
 obtain ⟨w1, hw1⟩ : ∃ w1, w.alloc (.cells #[.string x0, .bool g, .string x2, .int .i64 (l : Int)] 52) = w1 := ⟨_, rfl⟩
 have hb1 : Below w.heap.size w w1 := by rw [← hw1]; exact (Below.refl _ w).alloc (Nat.le_refl _) _
 have F1 : Full w1 w.heap.size 52 [.string x0, .bool g, .string x2, .int .i64 (l : Int)] := by rw [← hw1]; exact Full.new w 52 _
 have c0 : w1.cell? ⟨w.heap.size, 0, none⟩ = some (.string x0) := F1.cell 0
 have c1 : w1.cell? ⟨w.heap.size, 1, none⟩ = some (.bool g) := F1.cell 1
 have HB := Lib.hid hb1
 clear F1 hb1
 cases g with
 | true =>
   rw [if_pos rfl]
   go_enter Tryz.func122, Tryz.ntmps122
   go_wp2
   go_ret
   refine ⟨?_, HB.out⟩
   refine congrArg (fun z => Ending.returned (Value.string z)) (str_of ?_)
   rw [← HX.out]
   simp [str, wGlobP]
 | false =>
   rw [if_neg (by decide)]
   go_enter Tryz.func122, Tryz.ntmps122
   go_wp2
   go_ret
   refine ⟨?_, HB.out⟩
   refine congrArg (fun z => Ending.returned (Value.string z)) (str_of ?_)
   rw [← HX.out]
   simp [str]
set_option maxHeartbeats 2000000 in
theorem each_138 {w : World} {bx B n c : Nat} {A : Option Addr} {l : List Itm} (F : Full w bx 25 [.slice A n c]) (hA : Itms w B A c l) (hB : B ≤ w.heap.size) (hn : l.length = n) (h0 : 0 < l.length) (i : Itm) :
   Calls Tryz.prog 138 #[itmV i, .pointer (some ⟨bx, 0, none⟩)] w (BoolB w (!(i.pl == (l[0]).pl))) := by
 unfold BoolB itmV
 obtain ⟨x0, hx0⟩ : ∃ x, str i.tx = x := ⟨_, rfl⟩
 obtain ⟨x2, hx2⟩ : ∃ x, str i.pl = x := ⟨_, rfl⟩
 obtain ⟨g, hg⟩ : ∃ x, i.gl = x := ⟨_, rfl⟩
 obtain ⟨k, hk⟩ : ∃ x : Nat, i.ln = x := ⟨_, rfl⟩
 have hcap := hA.2.1
 rw [hn] at hcap
 have hn0 : 0 < n := by omega
 obtain ⟨w1, hw1⟩ : ∃ w1, w.alloc (.cells #[.string x0, .bool g, .string x2, .int .i64 (k : Int)] 52) = w1 := ⟨_, rfl⟩
 have hb1 : Below w.heap.size w w1 := by rw [← hw1]; exact (Below.refl _ w).alloc (Nat.le_refl _) _
 have F1 : Full w1 w.heap.size 52 [.string x0, .bool g, .string x2, .int .i64 (k : Int)] := by rw [← hw1]; exact Full.new w 52 _
 have F2 := F.on hb1
 obtain ⟨ad, rfl, _, z0, _, z2, _⟩ := (show Itms w1 B A c l from Row.below hA hb1 hB).at_ h0
 have e0 : ad.add (0 * 4) = ad := by simp [Addr.add]
 rw [e0] at z0 z2
 obtain ⟨y2, hy2⟩ : ∃ y, str (l[0]).pl = y := ⟨_, rfl⟩
 rw [hy2] at z2
 have hq : (x2.toList == y2.toList) = (i.pl == (l[0]).pl) := by rw [← hx2, ← hy2, Lib.toList_data, Lib.toList_data, str_data, str_data]
 obtain ⟨z, hz⟩ : ∃ z, (i.pl == (l[0]).pl) = z := ⟨_, rfl⟩
 rw [hz] at hq ⊢
 rw [hx0, hx2, hg, hk]
 obtain ⟨r, hr⟩ : ∃ r, w.heap.size = r := ⟨_, rfl⟩
 rw [hr] at F1
 have c2 : w1.drew.cell? ⟨r, 2, none⟩ = some (.string x2) := F1.cell 2
 have k0 : w1.drew.cell? ⟨bx, 0, none⟩ = some (.slice (some ad) n c) := F2.cell 0
 have z2' : w1.drew.cell? ⟨ad.block, ad.off + 2, none⟩ = some (.string y2) := z2
 have z0' : w1.drew.cell? ad = some (.string (str (l[0]).tx)) := z0
 have hi1 : (0 : Int) < (n : Int) := by omega
 have HB := Lib.hid hb1
 clear F F1 F2 hA hz hx0 hx2 hg hk hy2 hb1 z0 z2 e0
 cases z
 all_goals
   go_enter Tryz.func138, Tryz.ntmps138
   go_upto_region 1 with fail
   go_region
   all_goals (go_wp2; go_ret; exact ⟨rfl, (Below.drew HB.out)⟩)
set_option maxHeartbeats 2000000 in
theorem index_138 {w : World} {B c : Nat} {A : Option Addr} {l : List Itm} (hA : Itms w B A c l) (hB : B ≤ w.heap.size) (hl : l.length ≤ maxLen) (xp : Addr) (P : Itm → Bool)
   (EL : ∀ W, Below w.heap.size w W → ∀ i ∈ l, Calls Tryz.prog 138 #[itmV i, .pointer (some xp)] W (BoolB W (P i))) :
   Calls Tryz.prog 124 #[.slice A l.length c, .func (.func 138) #[] #[.pointer (some xp)]] w (IdxOut w (idxV (lead P l) l.length)) := by
 unfold maxLen at hl
 unfold IdxOut
 obtain ⟨n, hn⟩ : ∃ n, l.length = n := ⟨_, rfl⟩
 obtain ⟨m, hm⟩ : ∃ n, lead P l = n := ⟨_, rfl⟩
 have hmn := lead_le P l
 have hcap := hA.2.1
 rw [hn] at hl hcap hmn ⊢
 rw [hm] at hmn ⊢
 have HNM := Lib.hid (And.intro hn hm)
 have HEL := Lib.hid EL
 clear EL hn hm
 go_enter Tryz.func124, Tryz.ntmps124
 go_upto_region 2 with fail
 go_loopw [8] (fun i wr => ∃ k : Nat, i = .int .i64 (k : Int) ∧ k ≤ n ∧ k ≤ m ∧ Below w.heap.size w wr) (fun i _ => n - (intOf i).toNat)
 case atStart => exact ⟨0, rfl, Nat.zero_le _, Nat.zero_le _, Below.refl _ _⟩
 case round =>
   obtain ⟨k, rfl, hk, hkm, hBw⟩ := hrel
   have hi0 : (0 : Int) ≤ (k : Int) := Int.natCast_nonneg _
   by_cases hlt : k < n
   · have hi1 : (k : Int) < (n : Int) := by omega
     have hd : decide ((k : Int) < (n : Int)) = true := by simp; omega
     have hkl : k < l.length := by have := HNM.out.1; omega
     obtain ⟨ad, rfl, hadB, x0, x1, x2, x3⟩ := (show Itms wr B A c l from Row.below hA hBw hB).at_ hkl
     have EL1 := HEL.out wr hBw l[k] (List.getElem_mem hkl)
     unfold itmV BoolB at EL1
     obtain ⟨y0, hy0⟩ : ∃ y, str l[k].tx = y := ⟨_, rfl⟩
     obtain ⟨y1, hy1⟩ : ∃ y, l[k].gl = y := ⟨_, rfl⟩
     obtain ⟨y2, hy2⟩ : ∃ y, str l[k].pl = y := ⟨_, rfl⟩
     obtain ⟨y3, hy3⟩ : ∃ y : Nat, l[k].ln = y := ⟨_, rfl⟩
     obtain ⟨p, hp⟩ : ∃ p, P l[k] = p := ⟨_, rfl⟩
     rw [hy0] at x0 EL1
     rw [hy1] at x1 EL1
     rw [hy2] at x2 EL1
     rw [hy3] at x3 EL1
     rw [hp] at EL1
     have EL1 := Lib.hid EL1
     have hcap' : n ≤ c := hcap
     cases p with
     | true =>
       have HM := Lib.hid (lead_hit P l k hkl (by rw [HNM.out.2]; exact hkm) hp)
       clear hy0 hy1 hy2 hy3 hp
       go_wp2_with (first
         | (go_at_call 138; ((with_reducible refine EL1.out.mono ?_); rintro en w2 ⟨rfl, hb⟩; (have HB2 := Lib.hid (hBw.trans (hb.mono hBw.size)))))
         | (fail "arm"))
       go_ret
       have e := HM.out
       rw [HNM.out.2] at e
       subst e
       refine ⟨?_, HB2.out⟩
       unfold idxV
       rw [if_pos hlt]
       rfl
     | false =>
       have HM := Lib.hid (lead_miss P l k hkl (by rw [HNM.out.2]; exact hkm) hp)
       rw [HNM.out.2] at HM
       clear hy0 hy1 hy2 hy3 hp
       go_wp2_with (first
         | (go_at_call 138; ((with_reducible refine EL1.out.mono ?_); rintro en w2 ⟨rfl, hb⟩; (have HB2 := Lib.hid (hBw.trans (hb.mono hBw.size)))))
         | (fail "arm"))
       go_roundw
       case rel => exact ⟨k + 1, by simp, hlt, HM.out, HB2.out⟩
       case measure => show n - ((k : Int) + 1).toNat < n - (k : Int).toNat; omega
   · obtain rfl : k = n := by omega
     have hd : decide ((k : Int) < (k : Int)) = false := by simp
     have hm2 : m = k := by omega
     subst hm2
     have HB2 := Lib.hid hBw
     go_wp2
     go_ret
     refine ⟨?_, HB2.out⟩
     unfold idxV
     rw [if_neg (by omega)]
     rfl
def pSame (l : List Itm) : Nat := match l with
 | [] => 0
 | x :: t => lead (fun i => !(i.pl == x.pl)) (x :: t)
theorem same_any {w : World} {B c : Nat} {A : Option Addr} {l : List Itm} (hA : Itms w B A c l) (hB : B ≤ w.heap.size) (hl : l.length ≤ maxLen) (h0 : 0 < l.length) :
   Calls Tryz.prog 120 #[.slice A l.length c] w (IdxOut w (pSame l : Int)) := by
 unfold IdxOut
 obtain ⟨n, hn⟩ : ∃ n, l.length = n := ⟨_, rfl⟩
 obtain ⟨w1, hw1⟩ : ∃ w1, w.alloc (.cells #[.slice A n c] 25) = w1 := ⟨_, rfl⟩
 have hb1 : Below w.heap.size w w1 := by rw [← hw1]; exact (Below.refl _ w).alloc (Nat.le_refl _) _
 have F1 : Full w1 w.heap.size 25 [.slice A n c] := by rw [← hw1]; exact Full.new w 25 _
 obtain ⟨r, hr⟩ : ∃ r, w.heap.size = r := ⟨_, rfl⟩
 rw [hr] at F1
 have hB1 := Nat.le_trans hB hb1.size
 have h1 : Itms w1 B A c l := Row.below hA hb1 hB
 have IX := index_138 h1 hB1 hl ⟨r, 0, none⟩ (fun i => !(i.pl == (l[0]).pl)) (fun W hW i _ => each_138 (F1.on hW) (Row.below h1 hW hB1) (Nat.le_trans hB1 hW.size) hn h0 i)
 unfold IdxOut at IX
 have hps : pSame l = lead (fun i => !(i.pl == (l[0]).pl)) l := by
   cases l with
   | nil => simp at h0
   | cons x t => rfl
 have hle := lead_le (fun i => !(i.pl == (l[0]).pl)) l
 rw [hps]
 obtain ⟨m, hm⟩ : ∃ m, lead (fun i => !(i.pl == (l[0]).pl)) l = m := ⟨_, rfl⟩
 rw [hm, hn] at IX hle
 rw [hm, hn]
 have c0 : w1.cell? ⟨r, 0, none⟩ = some (.slice A n c) := F1.cell 0
 have HF1 := Lib.hid F1
 have HB1 := Lib.hid hb1
 clear hm hps h1 hA hB hl h0 hn F1 hb1 hB1
 by_cases hlt : m < n
 · have ei : idxV m n = (m : Int) := by unfold idxV; rw [if_pos hlt]
   rw [ei] at IX
   have IX := Lib.hid IX
   have hd : decide ((m : Int) < 0) = false := by simp
   clear ei
   go_enter Tryz.func120, Tryz.ntmps120
   go_wp2_with (first
     | (go_at_call 124; ((with_reducible refine IX.out.mono ?_); rintro en w2 ⟨rfl, hb2⟩; (have HB2 := Lib.hid (HB1.out.trans (hb2.mono HB1.out.size)))))
     | (fail "arm"))
   all_goals (go_ret; exact ⟨rfl, HB2.out⟩)
 · have hmn : m = n := by omega
   subst hmn
   have ei : idxV m m = -1 := by unfold idxV; rw [if_neg (by omega)]
   rw [ei] at IX
   have IX := Lib.hid IX
   clear ei
   go_enter Tryz.func120, Tryz.ntmps120
   go_wp2_with (first
     | (go_at_call 124; ((with_reducible refine IX.out.mono ?_); rintro en w2 ⟨rfl, hb2⟩; (have HB2 := Lib.hid (HB1.out.trans (hb2.mono HB1.out.size))); (have c2 : w2.cell? ⟨r, 0, none⟩ = some (.slice A m c) := (HF1.out.on hb2).cell 0)))
     | (fail "arm"))
   all_goals (go_ret; exact ⟨rfl, HB2.out⟩)
def fillC (f : Itm → List UInt8) (l : List Itm) (k : Nat) : List Value := (l.take k).map (fun i => Value.string (str (f i))) ++ List.replicate (l.length - k) (.string ⟨#[]⟩)
theorem fillC_zero (f : Itm → List UInt8) (l : List Itm) : fillC f l 0 = List.replicate l.length (.string ⟨#[]⟩) := by simp [fillC]
theorem fillC_all (f : Itm → List UInt8) (l : List Itm) : fillC f l l.length = l.map (fun i => Value.string (str (f i))) := by simp [fillC]
theorem fillC_at (f : Itm → List UInt8) (l : List Itm) {k : Nat} (hk : k < l.length) : (fillC f l k)[k]? = some (.string ⟨#[]⟩) := by
 unfold fillC
 have e1 : ((l.take k).map fun i => Value.string (str (f i))).length = k := by simp; omega
 rw [List.getElem?_append_right (by rw [e1]; exact Nat.le_refl _), e1, Nat.sub_self]
 obtain ⟨m, hm⟩ : ∃ m, l.length - k = m + 1 := ⟨l.length - k - 1, by omega⟩
 rw [hm, List.replicate_succ]
 rfl
theorem fillC_set (f : Itm → List UInt8) (l : List Itm) {k : Nat} (hk : k < l.length) : (fillC f l k).set k (.string (str (f l[k]))) = fillC f l (k + 1) := by
 unfold fillC
 have e1 : ((l.take k).map fun i => Value.string (str (f i))).length = k := by simp; omega
 rw [List.set_append_right _ _ (by rw [e1]; exact Nat.le_refl _), e1, Nat.sub_self, List.take_succ_eq_append_getElem hk, List.map_append]
 obtain ⟨m, hm⟩ : ∃ m, l.length - k = m + 1 := ⟨l.length - k - 1, by omega⟩
 rw [hm, show l.length - (k + 1) = m by omega, List.replicate_succ, List.set_cons_zero]
 simp
set_option maxHeartbeats 4000000 in
theorem joined_54 {w : World} {B c : Nat} {A : Option Addr} {l : List Itm} (hA : Itms w B A c l) (hB : B ≤ w.heap.size) (hl : l.length ≤ 17179869184) (hok : ∀ i ∈ l, i.tx.length ≤ 4294967000) (hj : (Lib.join (l.map Itm.tx) [44, 32]).length ≤ 140737488355328) :
   Calls Tryz.prog 53 #[.slice A l.length c, .func (.func 54) #[] #[]] w (StrB w (str (Lib.join (l.map Itm.tx) [44, 32]))) := by
 unfold StrB
 obtain ⟨n, hn⟩ : ∃ n, l.length = n := ⟨_, rfl⟩
 have hcap := hA.2.1
 have hmk := made_one 34 9 (.string ⟨#[]⟩) 16 Tryz.underlying34 info9 rfl n (by omega) (by omega) w
 obtain ⟨w1, hw1⟩ : ∃ w1, w.alloc (.cells (List.replicate n (.string ⟨#[]⟩)).toArray 9) = w1 := ⟨_, rfl⟩
 have hb1 : Below w.heap.size w w1 := by rw [← hw1]; exact (Below.refl _ w).alloc (Nat.le_refl _) _
 have F1 : Full w1 w.heap.size 9 (List.replicate n (.string ⟨#[]⟩)) := by rw [← hw1]; exact Full.new w 9 _
 obtain ⟨g, hg⟩ : ∃ g, w.heap.size = g := ⟨_, rfl⟩
 rw [hw1] at hmk
 rw [hg] at F1 hmk
 obtain ⟨R, hR⟩ : ∃ R, str (Lib.join (l.map Itm.tx) [44, 32]) = R := ⟨_, rfl⟩
 rw [hR]
 have HR := Lib.hid hR
 have HS := Lib.hid (show Full w1 g 9 (fillC Itm.tx l 0) ∧ Below w.heap.size w w1 from ⟨by rw [fillC_zero, hn]; exact F1, hb1⟩)
 have HJ := Lib.hid hj
 rw [hn] at hl hcap ⊢
 have HN := Lib.hid hn
 have HOK := Lib.hid hok
 clear hok hn hb1 F1 hR hj
 go_enter Tryz.func53, Tryz.ntmps53
 go_upto_region 3 with fail
 clear hmk
 go_loopw [13] (fun i wr => ∃ k : Nat, i = .int .i64 (k : Int) ∧ k ≤ n ∧ Hid (Full wr g 9 (fillC Itm.tx l k)) ∧ Below w.heap.size w wr) (fun i _ => n - (intOf i).toNat)
 case atStart => exact ⟨0, rfl, Nat.zero_le _, Lib.hid HS.out.1, HS.out.2⟩
 case round =>
   obtain ⟨k, rfl, hk, HF, hBw⟩ := hrel
   have hi0 : (0 : Int) ≤ (k : Int) := Int.natCast_nonneg _
   by_cases hlt : k < n
   · have hi1 : (k : Int) < (n : Int) := by omega
     have hd : decide ((k : Int) < (n : Int)) = true := by simp; omega
     have hkl : k < l.length := by have := HN.out; omega
     obtain ⟨ad, rfl, hadB, x0, x1, x2, x3⟩ := (show Itms wr B A c l from Row.below hA hBw hB).at_ hkl
     have hszk := HOK.out l[k] (List.getElem_mem hkl)
     obtain ⟨y0, hy0⟩ : ∃ y, str l[k].tx = y := ⟨_, rfl⟩
     obtain ⟨y1, hy1⟩ : ∃ y, l[k].gl = y := ⟨_, rfl⟩
     obtain ⟨y2, hy2⟩ : ∃ y, str l[k].pl = y := ⟨_, rfl⟩
     obtain ⟨y3, hy3⟩ : ∃ y : Nat, l[k].ln = y := ⟨_, rfl⟩
     rw [hy0] at x0
     rw [hy1] at x1
     rw [hy2] at x2
     rw [hy3] at x3
     have hcap' : n ≤ c := hcap
     obtain ⟨w2, hw2⟩ : ∃ w2, wr.alloc (.cells #[.string y0, .bool y1, .string y2, .int .i64 (y3 : Int)] 52) = w2 := ⟨_, rfl⟩
     have hb2 : Below wr.heap.size wr w2 := by rw [← hw2]; exact (Below.refl _ wr).alloc (Nat.le_refl _) _
     have F2 : Full w2 wr.heap.size 52 [.string y0, .bool y1, .string y2, .int .i64 (y3 : Int)] := by rw [← hw2]; exact Full.new wr 52 _
     have FG := HF.out.on hb2
     obtain ⟨u, hu⟩ : ∃ u, wr.heap.size = u := ⟨_, rfl⟩
     rw [hu] at F2
     have u0 : w2.cell? ⟨u, 0, none⟩ = some (.string y0) := F2.cell 0
     have u1 : w2.cell? ⟨u, 1, none⟩ = some (.bool y1) := F2.cell 1
     have u2 : w2.cell? ⟨u, 2, none⟩ = some (.string y2) := F2.cell 2
     have u3 : w2.cell? ⟨u, 3, none⟩ = some (.int .i64 (y3 : Int)) := F2.cell 3
     obtain ⟨V, hV⟩ : ∃ V, str (Itm.tx l[k]) = V := ⟨_, rfl⟩
     have NM := Lib.hid (by
       have z := bare_any l[k] w2
       unfold itmV StrB at z
       first
         | (rw [hy0, hy1, hy2, hy3, hV] at z; exact z)
         | (rw [hy0, hy1, hy2, hy3] at z; rw [show V = y0 from hV.symm.trans hy0]; exact z) : Calls Tryz.prog 54 #[.agg #[.string y0, .bool y1, .string y2, .int .i64 (y3 : Int)]] w2 (fun e w' => e = .returned (.string V) ∧ Below w2.heap.size w2 w'))
     have HB2 := Lib.hid (hBw.trans (hb2.mono hBw.size))
     have HFG := Lib.hid FG
     have HSET := Lib.hid (show (fillC Itm.tx l k).set k (.string V) = fillC Itm.tx l (k + 1) by rw [← hV]; exact fillC_set Itm.tx l hkl)
     have HAT := Lib.hid (fillC_at Itm.tx l hkl)
     have hgw : w.heap.size ≤ g := by omega
     clear hy0 hy1 hy2 hy3 hb2 F2 FG hV hszk
     go_wp2_with (first
       | (go_at_call 54; ((with_reducible refine NM.out.mono ?_); rintro en w3 ⟨rfl, hb3⟩; (have F3 := HFG.out.on hb3); (have z0 : w3.cell? ⟨g, k, none⟩ = some (.string ⟨#[]⟩) := by rw [F3.cell k, HAT.out]); (have z1 := F3.frozen k); (have HF4 := Lib.hid (show Full (w3.setCell ⟨g, k, none⟩ (.string V)) g 9 (fillC Itm.tx l (k + 1)) from by rw [← HSET.out]; exact F3.set_ k _)); (have HB4 := Lib.hid (show Below w.heap.size w (w3.setCell ⟨g, k, none⟩ (.string V)) from (HB2.out.trans (hb3.mono HB2.out.size)).setCell (p := ⟨g, k, none⟩) hgw _)); clear F3 hb3))
       | (fail "arm"))
     go_roundw
     case rel => exact ⟨k + 1, by simp, hlt, HF4, HB4.out⟩
     case measure => show n - ((k : Int) + 1).toNat < n - (k : Int).toNat; omega
   · obtain rfl : k = n := by omega
     have hd : decide ((k : Int) < (k : Int)) = false := by simp
     have ff := HF.out
     rw [← HN.out, fillC_all] at ff
     have JN := (by
       by_cases h0 : l.length = 0
       · have z := Tryz.strings_Join_none (some ⟨g, 0, none⟩) k ⟨#[44, 32]⟩ wr
         have hlnil : l = [] := List.eq_nil_of_length_eq_zero h0
         have hk0 : k = 0 := by rw [← HN.out]; exact h0
         rw [hk0]
         rw [hk0] at z
         refine z.mono ?_
         rintro en w' ⟨he, hw⟩
         refine ⟨?_, by rw [hw]; exact Below.refl _ _⟩
         rw [he, ← HR.out, hlnil]
         rfl
       · have z := Tryz.strings_Join g 0 k (l.map fun i => str (Itm.tx i)) ⟨#[44, 32]⟩ wr (fun j x hx => by
           rw [Nat.zero_add, ff.cell j, List.getElem?_map]
           rw [List.getElem?_map] at hx
           cases hq : l[j]? with
           | none => rw [hq] at hx; cases hx
           | some i => rw [hq] at hx; simp at hx ⊢; exact hx) ff.lt (by rw [List.length_map, HN.out]; omega) (by rw [List.length_map, HN.out]; exact Nat.le_refl _) (by
             rw [List.map_map]
             have := HJ.out
             rw [show (l.map ((fun x : ByteArray => x.data.toList) ∘ fun i => str (Itm.tx i))) = l.map Itm.tx from List.map_congr_left fun i _ => str_data _]
             exact this)
         rw [List.length_map, HN.out, List.map_map, show (l.map ((fun x : ByteArray => x.data.toList) ∘ fun i => str (Itm.tx i))) = l.map Itm.tx from List.map_congr_left fun i _ => str_data _] at z
         refine z.mono ?_
         rintro en w' ⟨he, hw⟩
         exact ⟨by rw [he, ← HR.out]; rfl, hw⟩ : Calls Tryz.prog 87 #[.slice (some ⟨g, 0, none⟩) k k, .string ⟨#[44, 32]⟩] wr fun en w' => en = .returned (.string R) ∧ Below wr.heap.size wr w')
     have JN := Lib.hid JN
     have HB5 := Lib.hid hBw
     clear ff
     go_wp2_with (first
       | (go_at_call 87; ((with_reducible refine JN.out.mono ?_); rintro en w2 ⟨rfl, hb2⟩; (have HB2 := Lib.hid (HB5.out.trans (hb2.mono HB5.out.size)))))
       | (fail "arm"))
     go_ret
     exact ⟨rfl, HB2.out⟩
set_option maxHeartbeats 4000000 in
theorem joined_122 {w : World} {B c : Nat} {A : Option Addr} {l : List Itm} (hA : Itms w B A c l) (hB : B ≤ w.heap.size) (hl : l.length ≤ 17179869184) (hok : ∀ i ∈ l, i.tx.length ≤ 4294967000) (hj : (Lib.join (l.map fSrc) [44, 32]).length ≤ 140737488355328) :
   Calls Tryz.prog 53 #[.slice A l.length c, .func (.func 122) #[] #[]] w (StrB w (str (Lib.join (l.map fSrc) [44, 32]))) := by
 unfold StrB
 obtain ⟨n, hn⟩ : ∃ n, l.length = n := ⟨_, rfl⟩
 have hcap := hA.2.1
 have hmk := made_one 34 9 (.string ⟨#[]⟩) 16 Tryz.underlying34 info9 rfl n (by omega) (by omega) w
 obtain ⟨w1, hw1⟩ : ∃ w1, w.alloc (.cells (List.replicate n (.string ⟨#[]⟩)).toArray 9) = w1 := ⟨_, rfl⟩
 have hb1 : Below w.heap.size w w1 := by rw [← hw1]; exact (Below.refl _ w).alloc (Nat.le_refl _) _
 have F1 : Full w1 w.heap.size 9 (List.replicate n (.string ⟨#[]⟩)) := by rw [← hw1]; exact Full.new w 9 _
 obtain ⟨g, hg⟩ : ∃ g, w.heap.size = g := ⟨_, rfl⟩
 rw [hw1] at hmk
 rw [hg] at F1 hmk
 obtain ⟨R, hR⟩ : ∃ R, str (Lib.join (l.map fSrc) [44, 32]) = R := ⟨_, rfl⟩
 rw [hR]
 have HR := Lib.hid hR
 have HS := Lib.hid (show Full w1 g 9 (fillC fSrc l 0) ∧ Below w.heap.size w w1 from ⟨by rw [fillC_zero, hn]; exact F1, hb1⟩)
 have HJ := Lib.hid hj
 rw [hn] at hl hcap ⊢
 have HN := Lib.hid hn
 have HOK := Lib.hid hok
 clear hok hn hb1 F1 hR hj
 go_enter Tryz.func53, Tryz.ntmps53
 go_upto_region 3 with fail
 clear hmk
 go_loopw [13] (fun i wr => ∃ k : Nat, i = .int .i64 (k : Int) ∧ k ≤ n ∧ Hid (Full wr g 9 (fillC fSrc l k)) ∧ Below w.heap.size w wr) (fun i _ => n - (intOf i).toNat)
 case atStart => exact ⟨0, rfl, Nat.zero_le _, Lib.hid HS.out.1, HS.out.2⟩
 case round =>
   obtain ⟨k, rfl, hk, HF, hBw⟩ := hrel
   have hi0 : (0 : Int) ≤ (k : Int) := Int.natCast_nonneg _
   by_cases hlt : k < n
   · have hi1 : (k : Int) < (n : Int) := by omega
     have hd : decide ((k : Int) < (n : Int)) = true := by simp; omega
     have hkl : k < l.length := by have := HN.out; omega
     obtain ⟨ad, rfl, hadB, x0, x1, x2, x3⟩ := (show Itms wr B A c l from Row.below hA hBw hB).at_ hkl
     have hszk := HOK.out l[k] (List.getElem_mem hkl)
     obtain ⟨y0, hy0⟩ : ∃ y, str l[k].tx = y := ⟨_, rfl⟩
     obtain ⟨y1, hy1⟩ : ∃ y, l[k].gl = y := ⟨_, rfl⟩
     obtain ⟨y2, hy2⟩ : ∃ y, str l[k].pl = y := ⟨_, rfl⟩
     obtain ⟨y3, hy3⟩ : ∃ y : Nat, l[k].ln = y := ⟨_, rfl⟩
     rw [hy0] at x0
     rw [hy1] at x1
     rw [hy2] at x2
     rw [hy3] at x3
     have hcap' : n ≤ c := hcap
     obtain ⟨w2, hw2⟩ : ∃ w2, wr.alloc (.cells #[.string y0, .bool y1, .string y2, .int .i64 (y3 : Int)] 52) = w2 := ⟨_, rfl⟩
     have hb2 : Below wr.heap.size wr w2 := by rw [← hw2]; exact (Below.refl _ wr).alloc (Nat.le_refl _) _
     have F2 : Full w2 wr.heap.size 52 [.string y0, .bool y1, .string y2, .int .i64 (y3 : Int)] := by rw [← hw2]; exact Full.new wr 52 _
     have FG := HF.out.on hb2
     obtain ⟨u, hu⟩ : ∃ u, wr.heap.size = u := ⟨_, rfl⟩
     rw [hu] at F2
     have u0 : w2.cell? ⟨u, 0, none⟩ = some (.string y0) := F2.cell 0
     have u1 : w2.cell? ⟨u, 1, none⟩ = some (.bool y1) := F2.cell 1
     have u2 : w2.cell? ⟨u, 2, none⟩ = some (.string y2) := F2.cell 2
     have u3 : w2.cell? ⟨u, 3, none⟩ = some (.int .i64 (y3 : Int)) := F2.cell 3
     obtain ⟨V, hV⟩ : ∃ V, str (fSrc l[k]) = V := ⟨_, rfl⟩
     have NM := Lib.hid (by
       have z := inSource_any l[k] hszk w2
       unfold itmV StrB at z
       first
         | (rw [hy0, hy1, hy2, hy3, hV] at z; exact z)
         | (rw [hy0, hy1, hy2, hy3] at z; rw [show V = y0 from hV.symm.trans hy0]; exact z) : Calls Tryz.prog 122 #[.agg #[.string y0, .bool y1, .string y2, .int .i64 (y3 : Int)]] w2 (fun e w' => e = .returned (.string V) ∧ Below w2.heap.size w2 w'))
     have HB2 := Lib.hid (hBw.trans (hb2.mono hBw.size))
     have HFG := Lib.hid FG
     have HSET := Lib.hid (show (fillC fSrc l k).set k (.string V) = fillC fSrc l (k + 1) by rw [← hV]; exact fillC_set fSrc l hkl)
     have HAT := Lib.hid (fillC_at fSrc l hkl)
     have hgw : w.heap.size ≤ g := by omega
     clear hy0 hy1 hy2 hy3 hb2 F2 FG hV hszk
     go_wp2_with (first
       | (go_at_call 122; ((with_reducible refine NM.out.mono ?_); rintro en w3 ⟨rfl, hb3⟩; (have F3 := HFG.out.on hb3); (have z0 : w3.cell? ⟨g, k, none⟩ = some (.string ⟨#[]⟩) := by rw [F3.cell k, HAT.out]); (have z1 := F3.frozen k); (have HF4 := Lib.hid (show Full (w3.setCell ⟨g, k, none⟩ (.string V)) g 9 (fillC fSrc l (k + 1)) from by rw [← HSET.out]; exact F3.set_ k _)); (have HB4 := Lib.hid (show Below w.heap.size w (w3.setCell ⟨g, k, none⟩ (.string V)) from (HB2.out.trans (hb3.mono HB2.out.size)).setCell (p := ⟨g, k, none⟩) hgw _)); clear F3 hb3))
       | (fail "arm"))
     go_roundw
     case rel => exact ⟨k + 1, by simp, hlt, HF4, HB4.out⟩
     case measure => show n - ((k : Int) + 1).toNat < n - (k : Int).toNat; omega
   · obtain rfl : k = n := by omega
     have hd : decide ((k : Int) < (k : Int)) = false := by simp
     have ff := HF.out
     rw [← HN.out, fillC_all] at ff
     have JN := (by
       by_cases h0 : l.length = 0
       · have z := Tryz.strings_Join_none (some ⟨g, 0, none⟩) k ⟨#[44, 32]⟩ wr
         have hlnil : l = [] := List.eq_nil_of_length_eq_zero h0
         have hk0 : k = 0 := by rw [← HN.out]; exact h0
         rw [hk0]
         rw [hk0] at z
         refine z.mono ?_
         rintro en w' ⟨he, hw⟩
         refine ⟨?_, by rw [hw]; exact Below.refl _ _⟩
         rw [he, ← HR.out, hlnil]
         rfl
       · have z := Tryz.strings_Join g 0 k (l.map fun i => str (fSrc i)) ⟨#[44, 32]⟩ wr (fun j x hx => by
           rw [Nat.zero_add, ff.cell j, List.getElem?_map]
           rw [List.getElem?_map] at hx
           cases hq : l[j]? with
           | none => rw [hq] at hx; cases hx
           | some i => rw [hq] at hx; simp at hx ⊢; exact hx) ff.lt (by rw [List.length_map, HN.out]; omega) (by rw [List.length_map, HN.out]; exact Nat.le_refl _) (by
             rw [List.map_map]
             have := HJ.out
             rw [show (l.map ((fun x : ByteArray => x.data.toList) ∘ fun i => str (fSrc i))) = l.map fSrc from List.map_congr_left fun i _ => str_data _]
             exact this)
         rw [List.length_map, HN.out, List.map_map, show (l.map ((fun x : ByteArray => x.data.toList) ∘ fun i => str (fSrc i))) = l.map fSrc from List.map_congr_left fun i _ => str_data _] at z
         refine z.mono ?_
         rintro en w' ⟨he, hw⟩
         exact ⟨by rw [he, ← HR.out]; rfl, hw⟩ : Calls Tryz.prog 87 #[.slice (some ⟨g, 0, none⟩) k k, .string ⟨#[44, 32]⟩] wr fun en w' => en = .returned (.string R) ∧ Below wr.heap.size wr w')
     have JN := Lib.hid JN
     have HB5 := Lib.hid hBw
     clear ff
     go_wp2_with (first
       | (go_at_call 87; ((with_reducible refine JN.out.mono ?_); rintro en w2 ⟨rfl, hb2⟩; (have HB2 := Lib.hid (HB5.out.trans (hb2.mono HB5.out.size)))))
       | (fail "arm"))
     go_ret
     exact ⟨rfl, HB2.out⟩
def fLine (word : List UInt8) (l : List Itm) (x : Itm) : List UInt8 := [32, 32] ++ word ++ fLim x.pl ++ [32] ++ Lib.join ((l.take (pSame l)).map fSrc) [44, 32] ++ [59] ++ [10]
def pItemsF : Nat → List UInt8 → List Itm → List UInt8
 | 0, _, _ => []
 | _ + 1, _, [] => []
 | f + 1, word, x :: t => fLine word (x :: t) x ++ pItemsF f word ((x :: t).drop (pSame (x :: t)))
def fItems (word : List UInt8) (l : List Itm) : List UInt8 := pItemsF (l.length + 1) word l
theorem pSame_pos (x : Itm) (t : List Itm) : 1 ≤ pSame (x :: t) := by
 show 1 ≤ lead (fun i => !(i.pl == x.pl)) (x :: t)
 rw [lead, if_neg (by simp)]
 omega
theorem pSame_le (l : List Itm) : pSame l ≤ l.length := by
 cases l with
 | nil => exact Nat.le_refl _
 | cons x t => exact lead_le _ _
theorem flat_takeI : ∀ (l : List Itm) (k : Nat), (itmsC l).take (k * 4) = itmsC (l.take k)
 | [], k => by simp [itmsC]
 | x :: t, 0 => by simp [itmsC]
 | x :: t, k + 1 => by
   have ih := flat_takeI t k
   show (itmC x ++ itmsC t).take ((k + 1) * 4) = itmC x ++ itmsC (t.take k)
   rw [← ih, show (k + 1) * 4 = (itmC x).length + k * 4 by rw [itmC_len, Nat.succ_mul, Nat.add_comm], List.take_length_add_append]
theorem flat_dropI : ∀ (l : List Itm) (k : Nat), (itmsC l).drop (k * 4) = itmsC (l.drop k)
 | [], k => by simp [itmsC]
 | x :: t, 0 => by simp
 | x :: t, k + 1 => by
   have ih := flat_dropI t k
   show (itmC x ++ itmsC t).drop ((k + 1) * 4) = itmsC (t.drop k)
   rw [← ih, show (k + 1) * 4 = (itmC x).length + k * 4 by rw [itmC_len, Nat.succ_mul, Nat.add_comm], List.drop_length_add_append]
theorem catB_line (word : List UInt8) (l : List Itm) (x : Itm) : catB [⟨#[32, 32]⟩, str word, str (fLim x.pl), ⟨#[32]⟩, str (Lib.join ((l.take (pSame l)).map fSrc) [44, 32]), ⟨#[59]⟩] ++ [10] = fLine word l x := by
 unfold catB fLine
 simp [str_data]
def TxOk (i : Itm) : Prop := i.tx.length ≤ 4294967000 ∧ i.pl.length ≤ 4294967000
set_option maxHeartbeats 8000000 in
theorem items_any {w : World} {B Bi b c : Nat} {A : Option Addr} {l0 : List UInt8} {l : List Itm} (h : PBd w B b l0) (hA : Itms w Bi A c l) (hBi : Bi ≤ B) (hB : B ≤ w.heap.size) (hl : l.length ≤ 17179869184) (hok : ∀ i ∈ l, TxOk i) (word : List UInt8) (hlen : l0.length + (fItems word l).length ≤ 140737488355328) :
   Calls Tryz.prog 88 #[.pointer (some ⟨b, 0, none⟩), .string (str word), .slice A l.length c] w (fun en w' => en = .returned (.tuple #[]) ∧ PBd w' B b (l0 ++ fItems word l) ∧ Below B w w' ∧ Tb b w w') := by
 obtain ⟨T, hT⟩ : ∃ T, fItems word l = T := ⟨_, rfl⟩
 rw [hT] at hlen ⊢
 obtain ⟨n, hn⟩ : ∃ n, l.length = n := ⟨_, rfl⟩
 obtain ⟨xw, hxw⟩ : ∃ x, str word = x := ⟨_, rfl⟩
 rw [hxw]
 have HW := Lib.hid hxw
 have HS := Lib.hid (show Hid (Itms w Bi A c l) ∧ Hid (l.length < n + 1) ∧ Hid ([] ++ pItemsF (n + 1) word l = T) ∧ Hid (PBd w B b (l0 ++ [])) ∧ Hid (Below B w w) ∧ Hid (Tb b w w) ∧ Hid (∀ i ∈ l, TxOk i) from ⟨Lib.hid hA, Lib.hid (by omega), Lib.hid (by rw [← hn]; exact hT), Lib.hid (by rw [List.append_nil]; exact h), Lib.hid (Below.refl _ _), Lib.hid (Turn.refl _ w), Lib.hid hok⟩)
 have HNN := Lib.hid hn.symm
 rw [hn] at hl ⊢
 clear hA h hT hxw hok hn
 go_enter Tryz.func88, Tryz.ntmps88
 go_upto_region 1 with fail
 go_loopw [6] (fun v wr => ∃ (A : Option Addr) (n c f : Nat) (rest : List Itm) (done : List UInt8), v = .slice A n c ∧ Hid (n = rest.length) ∧ n ≤ 17179869184 ∧ Hid (Itms wr Bi A c rest) ∧ Hid (rest.length < f) ∧ Hid (done ++ pItemsF f word rest = T) ∧ Hid (PBd wr B b (l0 ++ done)) ∧ Hid (Below B w wr) ∧ Hid (Tb b w wr) ∧ Hid (∀ i ∈ rest, TxOk i)) (fun v _ => match v with | .slice _ n _ => n | _ => 0)
 case atStart => exact ⟨A, n, c, n + 1, l, [], rfl, HNN, hl, HS.out.1, HS.out.2.1, HS.out.2.2.1, HS.out.2.2.2.1, HS.out.2.2.2.2.1, HS.out.2.2.2.2.2.1, HS.out.2.2.2.2.2.2⟩
 case round =>
   obtain ⟨A, n, c, f, rest, done, rfl, Hn, hnl, HA, Hf, HT, HP, HB, HTb, HOK⟩ := hrel
   obtain ⟨f, rfl⟩ : ∃ k, f = k + 1 := ⟨f - 1, by have := Hf.out; omega⟩
   have hsz := HB.out.size
   cases hre : rest with
   | nil =>
     have hn0 : n = 0 := by rw [Hn.out, hre]; rfl
     subst hn0
     have e := HT.out
     rw [hre, pItemsF, List.append_nil] at e
     have HR := Lib.hid (show PBd wr B b (l0 ++ T) ∧ Below B w wr ∧ Tb b w wr from ⟨by rw [← e]; exact HP.out, HB.out, HTb.out⟩)
     clear e
     go_wp2
     go_end0
     exact ⟨rfl, HR.out⟩
   | cons x t =>
     have hr0 : 0 < rest.length := by rw [hre]; simp
     have hmp : 1 ≤ pSame rest := by rw [hre]; exact pSame_pos x t
     have hml := pSame_le rest
     have SM := same_any (w := wr) HA.out (by omega) (by rw [← Hn.out]; unfold maxLen; omega) hr0
     unfold IdxOut at SM
     have hcap := HA.out.2.1
     obtain ⟨m, hm⟩ : ∃ m, pSame rest = m := ⟨_, rfl⟩
     rw [hm] at SM hmp hml
     rw [← Hn.out] at SM hml hcap
     have hxk : rest[0] = x := by simp [hre]
     have hxm : x ∈ rest := by rw [hre]; simp
     have hxok := HOK.out x hxm
     have hTT := HT.out
     rw [hre, pItemsF, ← hre, hm] at hTT
     have hfl := catB_line word rest x
     rw [hm, HW.out] at hfl
     obtain ⟨L, hL⟩ : ∃ L, fLine word rest x = L := ⟨_, rfl⟩
     rw [hL] at hTT hfl
     have hTlen : done.length + (L.length + (pItemsF f word (rest.drop m)).length) = T.length := by rw [← hTT]; simp
     have hfll := congrArg List.length hfl
     rw [List.length_append] at hfll
     obtain ⟨J, hJ⟩ : ∃ J, str (Lib.join ((rest.take m).map fSrc) [44, 32]) = J := ⟨_, rfl⟩
     have hJl : (Lib.join ((rest.take m).map fSrc) [44, 32]).length ≤ L.length := by
       rw [← hL]
       unfold fLine
       rw [hm]
       simp only [List.length_append]
       omega
     obtain ⟨Lx, hLx⟩ : ∃ J, str (fLim x.pl) = J := ⟨_, rfl⟩
     rw [hJ, hLx] at hfl hfll
     obtain ⟨A1, hc1, hc2⟩ := cut_h 25 52 4 Tryz.underlying25 Tryz.sizeOf52 A n c m hml hcap
     obtain ⟨A2, hc3, hc4⟩ := cut_l 25 52 4 Tryz.underlying25 Tryz.sizeOf52 A n c m hml hcap
     have HJN := Lib.hid (fun (W : World) (hW : Below wr.heap.size wr W) => (by
       have hr : Row W Bi 4 A1 m c ((itmsC rest).take (m * 4)) := hc2 W Bi _ (by have q := Row.below HA.out hW (by omega); rw [← Hn.out] at q; exact q)
       rw [flat_takeI] at hr
       have htl : (rest.take m).length = m := by rw [List.length_take, ← Hn.out]; omega
       have q := joined_122 (w := W) (l := rest.take m) (by unfold Itms; rw [htl]; exact hr) (by have := hW.size; omega) (by rw [htl]; omega) (fun i hi => (HOK.out i (List.mem_of_mem_take hi)).1) (by omega)
       rw [htl, hJ] at q
       unfold StrB at q
       exact q : Calls Tryz.prog 53 #[.slice A1 m c, .func (.func 122) #[] #[]] W (fun en w' => en = .returned (.string J) ∧ Below W.heap.size W w')))
     have HLM := Lib.hid (fun W => (by
       have q := limit_any x.pl hxok.2 W
       rw [hLx] at q
       exact q : Calls Tryz.prog 121 #[.string (str x.pl)] W (fun e w' => e = .returned (.string Lx) ∧ w' = W)))
     have HDR := Lib.hid (fun (W : World) (hW : Below B wr W) => (by
       have q := Row.below HA.out hW hBi
       rw [← Hn.out] at q
       have q2 := hc4 W Bi _ q
       rw [flat_dropI] at q2
       have hdl : (rest.drop m).length = n - m := by rw [List.length_drop, ← Hn.out]
       unfold Itms
       rw [hdl]
       exact q2 : Itms W Bi A2 (c - m) (rest.drop m)))
     have HLN := Lib.hid (fun (W : World) (hW : Below wr.heap.size wr W) => (by
       have hb4 : Below W.heap.size W (W.alloc (.cells #[.string ⟨#[32, 32]⟩, .string xw, .string Lx, .string ⟨#[32]⟩, .string J, .string ⟨#[59]⟩] 9)) := (Below.refl _ W).alloc (Nat.le_refl _) _
       have hblt : b < wr.heap.size := by rcases HP.out with z | z <;> exact z.lt
       have q := line_any (ps := [⟨#[32, 32]⟩, xw, Lx, ⟨#[32]⟩, J, ⟨#[59]⟩]) ((HP.out.on hW).on hb4) (Full.new W 9 _) (by have := hW.size; omega) (by have := hW.size; have := hb4.size; omega) (by rw [List.length_append]; rw [show ([10] : List UInt8).length = 1 from rfl] at hfll; omega) (by simp)
       rw [List.append_assoc (l0 ++ done), hfl, List.append_assoc] at q
       unfold PrOut at q
       refine q.mono ?_
       rintro en w' ⟨he, h1, h2, h3⟩
       have hWB : Below B wr W := hW.mono (by omega)
       exact ⟨he, .inr h1, (hWB.trans (hb4.mono (by have := hW.size; omega))).trans h2, ((Tb.of hW).trans (Tb.of hb4)).trans h3⟩ : Calls Tryz.prog 52 #[.pointer (some ⟨b, 0, none⟩), .slice (some ⟨W.heap.size, 0, none⟩) 6 6] (W.alloc (.cells #[.string ⟨#[32, 32]⟩, .string xw, .string Lx, .string ⟨#[32]⟩, .string J, .string ⟨#[59]⟩] 9)) (fun en w' => en = .returned (.tuple #[]) ∧ PBd w' B b (l0 ++ (done ++ L)) ∧ Below B wr w' ∧ Tb b wr w')))
     have HCELL := Lib.hid (fun (W : World) (hW : Below wr.heap.size wr W) => (show Itms W Bi A c rest from Row.below HA.out hW (by omega)).at_ hr0)
     rw [hxk] at HCELL
     obtain ⟨p, hp⟩ : ∃ p, str x.pl = p := ⟨_, rfl⟩
     rw [hp] at HCELL HLM
     have hn0 : (0 : Int) < (n : Int) := by omega
     have HSM := Lib.hid SM
     have HTT := Lib.hid hTT
     have HMM := Lib.hid (And.intro hmp hml)
     clear hre hr0 hmp hml SM hm hxk hxm hxok hTT hfl hL hTlen hfll hJ hJl hLx hc2 hc4 hp
     go_upto_region 3 with (first
       | (go_at_call 120; ((with_reducible refine HSM.out.mono ?_); rintro en wA ⟨rfl, hbA⟩; (have HBA := Lib.hid hbA); clear hbA))
       | (fail "arm"))
     obtain ⟨ad, rfl, _, _, _, x2, _⟩ := HCELL.out wA.drew (Below.drew HBA.out)
     have e0 : ad.add (0 * 4) = ad := by simp [Addr.add]
     rw [e0] at x2
     have hbd := Below.drew HBA.out
     have JN3 := Lib.hid (HJN.out wA.drew hbd)
     have hi1 : (0 : Int) ≤ 0 := Int.le_refl _
     clear HJN HCELL e0
     go_region_law (first
       | (refine step_call_fn rfl 121 _ _ rfl #[.string p] (by rfl) (enters_of Tryz.func121 (by kernel_rfl) rfl) (HLM.out _) ?_; rintro en w' ⟨rfl, rfl⟩; refine ⟨_, rfl, ?_⟩)
       | (refine step_call_fn rfl 53 _ _ rfl #[.slice A1 m c, .func (.func 122) #[] #[]] (by rfl) (enters_of Tryz.func53 (by kernel_rfl) rfl) JN3.out ?_; rintro en w3 ⟨rfl, hb3⟩; refine ⟨_, rfl, ?_⟩; (have HB3 := Lib.hid (hbd.trans (hb3.mono hbd.size))); (have x3 : w3.cell? ⟨ad.block, ad.off + 2, none⟩ = some (.string p) := by rw [← x2]; exact hb3.cell (World.block_lt_of_cell? _ _ x2)); (have LN3 := Lib.hid (HLN.out w3 HB3.out)); clear hb3)
       | (refine step_call_fn rfl 52 _ _ rfl #[.pointer (some ⟨b, 0, none⟩), .slice (some ⟨w3.heap.size, 0, none⟩) 6 6] (by rfl) (enters_of Tryz.func52 (by kernel_rfl) rfl) LN3.out ?_; rintro en w5 ⟨rfl, hP5, hb5, ht5⟩; refine ⟨_, rfl, ?_⟩; (have HP5 := Lib.hid hP5); (have HB5 := Lib.hid hb5); (have HT5 := Lib.hid ht5); clear hP5 hb5 ht5))
     all_goals
       go_wp2
       go_roundw
       case rel =>
         have h1 := HMM.out.1
         have h2 := HMM.out.2
         have hdl : (rest.drop m).length = n - m := by rw [List.length_drop, ← Hn.out]
         exact ⟨A2, n - m, c - m, f, rest.drop m, done ++ L, rfl, Lib.hid hdl.symm, by omega, Lib.hid (HDR.out w5 HB5.out), Lib.hid (by rw [hdl]; have := Hf.out; rw [← Hn.out] at this; omega), Lib.hid (by rw [List.append_assoc]; exact HTT.out), HP5, Lib.hid (HB.out.trans HB5.out), Lib.hid (HTb.out.trans HT5.out), Lib.hid (fun i hi => HOK.out i (List.mem_of_mem_drop hi))⟩
       case measure =>
         have h1 := HMM.out.1
         have h2 := HMM.out.2
         show n - m < n
         omega
def itoaB (n : Int) : List UInt8 := Lib.itoa n
def wTargetS : List UInt8 := [116, 97, 114, 103, 101, 116, 32]
def wOpen : List UInt8 := [32, 123]
def wKindS : List UInt8 := [32, 32, 107, 105, 110, 100, 32]
def wCostS : List UInt8 := [32, 32, 99, 111, 115, 116, 32]
def wRetryS : List UInt8 := [32, 32, 114, 101, 116, 114, 121, 32]
def fThree (a x c : List UInt8) : List UInt8 := a ++ x ++ c ++ [10]
def fTarget (T : Tgt) : List UInt8 :=
 fThree wTargetS T.name wOpen ++ (fThree wKindS (kw T.kind.toNat) [59] ++ (fItems wSrcs (T.rows 0) ++ (fItems wDeps (T.rows 1) ++ (fItems wOut (T.rows 2) ++ (fItems wVis (T.rows 3) ++
   ((if T.cost = 1 then [] else fThree wCostS (itoaB T.cost) [59]) ++ ((if T.retry = 0 then [] else fThree wRetryS (itoaB T.retry) [59]) ++ ([125] ++ [10]))))))))
structure Ito (w : World) : Prop where
 size : 9 ≤ w.heap.size
 tab : Lib.TabIs Tryz.prog w "internal/strconv.uint64pow10" .u64 Lib.pow10Tab
theorem g10 : Tryz.prog.globalNamed "internal/strconv.uint64pow10" = some 2 := by kernel_rfl
theorem Ito.below {w w' : World} {B : Nat} (h : Ito w) (hb : Below B w w') (hB : 9 ≤ B) : Ito w' := by
 refine ⟨Nat.le_trans h.size hb.size, ?_⟩
 have e := h.tab
 unfold Lib.TabIs World.var? at e ⊢
 rw [g10] at e ⊢
 have hh : w'.heap[2]? = w.heap[2]? := hb.block 2 (by omega)
 simp only [Option.bind_some] at e ⊢
 rw [hh]
 exact e
theorem itoa_any {w : World} (h : Ito w) (n : Int) (h0 : -9223372036854775808 ≤ n) (h1 : n ≤ 9223372036854775807) : Calls Tryz.prog 89 #[.int .i64 n] w (StrB w (str (itoaB n))) := by
 refine (Tryz.strconv_Itoa n h0 h1 w h.tab).mono ?_
 rintro en w' ⟨he, k, os, hw⟩
 refine ⟨he, ?_⟩
 rw [hw]
 refine ⟨rfl, rfl, rfl, ?_, fun g hg => ?_⟩
 · show w.heap.size ≤ (w.heap ++ os).size
   rw [Array.size_append]
   omega
 · show (w.heap ++ os)[g]? = w.heap[g]?
   exact Array.getElem?_append_left hg
def LnOut (W : World) (B b : Nat) (l : List UInt8) (en : Ending) (w' : World) : Prop := en = .returned (.tuple #[]) ∧ PBd w' B b l ∧ Below B W w' ∧ Tb b W w'
theorem line3 {W : World} {B b : Nat} {l : List UInt8} (h : PBd W B b l) (hB : B ≤ W.heap.size) (a x c : List UInt8) (hl : l.length + (fThree a x c).length ≤ 140737488355328) :
   Calls Tryz.prog 52 #[.pointer (some ⟨b, 0, none⟩), .slice (some ⟨W.heap.size, 0, none⟩) 3 3] (W.alloc (.cells #[.string (str a), .string (str x), .string (str c)] 9)) (LnOut W B b (l ++ fThree a x c)) := by
 have hb4 : Below W.heap.size W (W.alloc (.cells #[.string (str a), .string (str x), .string (str c)] 9)) := (Below.refl _ W).alloc (Nat.le_refl _) _
 have hblt : b < W.heap.size := by rcases h with z | z <;> exact z.lt
 have e : catB [str a, str x, str c] ++ [10] = fThree a x c := by unfold catB fThree; simp [str_data]
 have el := congrArg List.length e
 rw [List.length_append, show ([10] : List UInt8).length = 1 from rfl] at el
 have q := line_any (ps := [str a, str x, str c]) (h.on hb4) (Full.new W 9 _) (by omega) (by have := hb4.size; omega) (by omega) (by simp)
 rw [List.append_assoc, e] at q
 unfold PrOut at q
 refine q.mono ?_
 rintro en w' ⟨he, h1, h2, h3⟩
 exact ⟨he, .inr h1, (hb4.mono hB).trans h2, (Tb.of hb4).trans h3⟩
theorem line1 {W : World} {B b : Nat} {l : List UInt8} (h : PBd W B b l) (hB : B ≤ W.heap.size) (a : List UInt8) (hl : l.length + (a ++ [10]).length ≤ 140737488355328) :
   Calls Tryz.prog 52 #[.pointer (some ⟨b, 0, none⟩), .slice (some ⟨W.heap.size, 0, none⟩) 1 1] (W.alloc (.cells #[.string (str a)] 9)) (LnOut W B b (l ++ (a ++ [10]))) := by
 have hb4 : Below W.heap.size W (W.alloc (.cells #[.string (str a)] 9)) := (Below.refl _ W).alloc (Nat.le_refl _) _
 have hblt : b < W.heap.size := by rcases h with z | z <;> exact z.lt
 have e : catB [str a] = a := by unfold catB; simp [str_data]
 rw [List.length_append, show ([10] : List UInt8).length = 1 from rfl] at hl
 have q := line_any (ps := [str a]) (h.on hb4) (Full.new W 9 _) (by omega) (by have := hb4.size; omega) (by rw [e]; omega) (by simp)
 rw [e, List.append_assoc] at q
 unfold PrOut at q
 refine q.mono ?_
 rintro en w' ⟨he, h1, h2, h3⟩
 exact ⟨he, .inr h1, (hb4.mono hB).trans h2, (Tb.of hb4).trans h3⟩
structure TSt (w W : World) (B b r : Nat) (cs : List Value) (l : List UInt8) : Prop where
 pb : PBd W B b l
 bel : Below B w W
 tb : Tb b w W
 box : Full W r 50 cs
 sz : B ≤ W.heap.size
 rb : r ≠ b
theorem TSt.next {w W W' : World} {B b r : Nat} {cs : List Value} {l l' : List UInt8} (h : TSt w W B b r cs l) (k : PBd W' B b l' ∧ Below B W W' ∧ Tb b W W') : TSt w W' B b r cs l' :=
 ⟨k.1, h.bel.trans k.2.1, h.tb.trans k.2.2, k.2.2.full h.box h.rb (by decide), Nat.le_trans h.sz k.2.1.size, h.rb⟩
theorem TSt.on {w W W' : World} {B b r : Nat} {cs : List Value} {l : List UInt8} (h : TSt w W B b r cs l) (hb : Below W.heap.size W W') : TSt w W' B b r cs l :=
 h.next ⟨h.pb.on hb, hb.mono h.sz, Tb.of hb⟩
theorem line3t {w W : World} {B b r : Nat} {cs : List Value} {l : List UInt8} (h : TSt w W B b r cs l) (a x c : List UInt8) {s : List UInt8} (hs : fThree a x c = s) (hl : l.length + s.length ≤ 140737488355328) :
   Calls Tryz.prog 52 #[.pointer (some ⟨b, 0, none⟩), .slice (some ⟨W.heap.size, 0, none⟩) 3 3] (W.alloc (.cells #[.string (str a), .string (str x), .string (str c)] 9)) (fun en w' => en = .returned (.tuple #[]) ∧ TSt w w' B b r cs (l ++ s)) := by
 subst hs
 refine (line3 h.pb h.sz a x c hl).mono ?_
 rintro en w' ⟨he, k⟩
 exact ⟨he, h.next k⟩
theorem items_t {w W : World} {B Bi b r : Nat} {cs : List Value} {l : List UInt8} (h : TSt w W B b r cs l) {A : Option Addr} {n c : Nat} {its : List Itm} (hn : its.length = n) (hA : ∀ W, Below B w W → Itms W Bi A c its) (hBi : Bi ≤ B) (hl : its.length ≤ 17179869184) (hok : ∀ i ∈ its, TxOk i) (word : List UInt8) {s : List UInt8} (hs : fItems word its = s) (hlen : l.length + s.length ≤ 140737488355328) :
   Calls Tryz.prog 88 #[.pointer (some ⟨b, 0, none⟩), .string (str word), .slice A n c] W (fun en w' => en = .returned (.tuple #[]) ∧ TSt w w' B b r cs (l ++ s)) := by
 subst hs
 subst hn
 refine (items_any h.pb (hA W h.bel) hBi h.sz hl hok word hlen).mono ?_
 rintro en w' ⟨he, k⟩
 exact ⟨he, h.next k⟩
structure TPr (T : Tgt) : Prop where
 rows : ∀ i, i < 4 → (T.rows i).length ≤ 17179869184 ∧ ∀ x ∈ T.rows i, TxOk x
 kind : 1 ≤ T.kind ∧ T.kind ≤ 4
 cost : 0 ≤ T.cost ∧ T.cost ≤ 1000000
 retry : 0 ≤ T.retry ∧ T.retry ≤ 1000000
set_option maxHeartbeats 8000000 in
theorem target_any {w : World} {B Bi b : Nat} {l0 : List UInt8} (h : PBd w B b l0) (hB : B ≤ w.heap.size) (hB9 : 9 ≤ B) (hBi : Bi ≤ B) (hLa : Laid w) (hIt : Ito w) {p : Tgt × (Nat → Value)} (hT : TR w Bi p) (hP : TPr p.1) (hlen : l0.length + (fTarget p.1).length ≤ 140737488355328) :
   Calls Tryz.prog 55 #[.pointer (some ⟨b, 0, none⟩), tgtV p.1 p.2] w (LnOut w B b (l0 ++ fTarget p.1)) := by
 unfold LnOut tgtV
 obtain ⟨A0, c0, v0, q0⟩ := hT 0 (by decide)
 obtain ⟨A1, c1, v1, q1⟩ := hT 1 (by decide)
 obtain ⟨A2, c2, v2, q2⟩ := hT 2 (by decide)
 obtain ⟨A3, c3, v3, q3⟩ := hT 3 (by decide)
 rw [v0, v1, v2, v3]
 clear v0 v1 v2 v3 hT
 obtain ⟨K, hK⟩ : ∃ K : Nat, p.1.kind = (K : Int) := ⟨p.1.kind.toNat, by have := hP.kind.1; omega⟩
 have hK1 : 1 ≤ K := by have := hP.kind.1; omega
 have hK4 : K ≤ 4 := by have := hP.kind.2; omega
 have r0 := hP.rows 0 (by decide)
 have r1 := hP.rows 1 (by decide)
 have r2 := hP.rows 2 (by decide)
 have r3 := hP.rows 3 (by decide)
 have hco := hP.cost
 have hrt := hP.retry
 have hfT : fTarget p.1 = fTarget p.1 := rfl
 unfold fTarget at hfT hlen
 rw [show p.1.kind.toNat = K by rw [hK]; rfl] at hfT hlen
 rw [show fTarget p.1 = _ from (by unfold fTarget; rw [show p.1.kind.toNat = K by rw [hK]; rfl] : fTarget p.1 = fThree wTargetS p.1.name wOpen ++ (fThree wKindS (kw K) [59] ++ (fItems wSrcs (p.1.rows 0) ++ (fItems wDeps (p.1.rows 1) ++ (fItems wOut (p.1.rows 2) ++ (fItems wVis (p.1.rows 3) ++ ((if p.1.cost = 1 then [] else fThree wCostS (itoaB p.1.cost) [59]) ++ ((if p.1.retry = 0 then [] else fThree wRetryS (itoaB p.1.retry) [59]) ++ ([125] ++ [10])))))))))]
 clear hfT
 rw [hK]
 generalize p.1.rows 0 = L0 at *
 generalize p.1.rows 1 = L1 at *
 generalize p.1.rows 2 = L2 at *
 generalize p.1.rows 3 = L3 at *
 generalize p.1.cost = co at *
 generalize p.1.retry = rt at *
 generalize p.1.line = ln at *
 generalize p.1.name = nm at *
 obtain ⟨x0, hx0⟩ : ∃ x, str nm = x := ⟨_, rfl⟩
 obtain ⟨xk, hxk⟩ : ∃ x, str (kw K) = x := ⟨_, rfl⟩
 obtain ⟨n0, hn0⟩ : ∃ x, L0.length = x := ⟨_, rfl⟩
 obtain ⟨n1, hn1⟩ : ∃ x, L1.length = x := ⟨_, rfl⟩
 obtain ⟨n2, hn2⟩ : ∃ x, L2.length = x := ⟨_, rfl⟩
 obtain ⟨n3, hn3⟩ : ∃ x, L3.length = x := ⟨_, rfl⟩
 obtain ⟨s1, e1⟩ : ∃ x, fThree wTargetS nm wOpen = x := ⟨_, rfl⟩
 obtain ⟨s2, e2⟩ : ∃ x, fThree wKindS (kw K) [59] = x := ⟨_, rfl⟩
 obtain ⟨s3, e3⟩ : ∃ x, fItems wSrcs L0 = x := ⟨_, rfl⟩
 obtain ⟨s4, e4⟩ : ∃ x, fItems wDeps L1 = x := ⟨_, rfl⟩
 obtain ⟨s5, e5⟩ : ∃ x, fItems wOut L2 = x := ⟨_, rfl⟩
 obtain ⟨s6, e6⟩ : ∃ x, fItems wVis L3 = x := ⟨_, rfl⟩
 obtain ⟨s7, e7⟩ : ∃ x, (if co = 1 then [] else fThree wCostS (itoaB co) [59]) = x := ⟨_, rfl⟩
 obtain ⟨s8, e8⟩ : ∃ x, (if rt = 0 then [] else fThree wRetryS (itoaB rt) [59]) = x := ⟨_, rfl⟩
 rw [e1, e2, e3, e4, e5, e6, e7, e8] at hlen ⊢
 simp only [List.length_append] at hlen
 rw [show ([125] : List UInt8).length = 1 from rfl, show ([10] : List UInt8).length = 1 from rfl] at hlen
 rw [hx0, hn0, hn1, hn2, hn3]
 obtain ⟨w1, hw1⟩ : ∃ w1, w.alloc (.cells #[.string x0, .int .i64 (K : Int), .int .i64 (ln : Int), .slice A0 n0 c0, .slice A1 n1 c1, .slice A2 n2 c2, .slice A3 n3 c3, .int .i64 co, .int .i64 rt] 50) = w1 := ⟨_, rfl⟩
 have hb1 : Below w.heap.size w w1 := by rw [← hw1]; exact (Below.refl _ w).alloc (Nat.le_refl _) _
 have F1 : Full w1 w.heap.size 50 [.string x0, .int .i64 (K : Int), .int .i64 (ln : Int), .slice A0 n0 c0, .slice A1 n1 c1, .slice A2 n2 c2, .slice A3 n3 c3, .int .i64 co, .int .i64 rt] := by rw [← hw1]; exact Full.new w 50 _
 obtain ⟨r, hr⟩ : ∃ r, w.heap.size = r := ⟨_, rfl⟩
 have hblt : b < w.heap.size := by rcases h with z | z <;> exact z.lt
 rw [hr] at F1
 have S0 : TSt w w1 B b r [.string x0, .int .i64 (K : Int), .int .i64 (ln : Int), .slice A0 n0 c0, .slice A1 n1 c1, .slice A2 n2 c2, .slice A3 n3 c3, .int .i64 co, .int .i64 rt] l0 := ⟨h.on hb1, hb1.mono hB, Tb.of hb1, F1, Nat.le_trans hB hb1.size, by omega⟩
 have HS0 := Lib.hid S0
 have HR := Lib.hid (And.intro (fun W (hW : Below B w W) => (Row.below q0 hW hBi : Itms W Bi A0 c0 L0)) (And.intro (fun W (hW : Below B w W) => (Row.below q1 hW hBi : Itms W Bi A1 c1 L1)) (And.intro (fun W (hW : Below B w W) => (Row.below q2 hW hBi : Itms W Bi A2 c2 L2)) (fun W (hW : Below B w W) => (Row.below q3 hW hBi : Itms W Bi A3 c3 L3)))))
 have HKW := Lib.hid (fun W (hW : Below B w W) => (by
   have z := (hLa.turn (F := fun g => B ≤ g) ⟨hW.os, hW.tape, hW.output, hW.size, fun g hg hn => hW.block g (by omega)⟩ (fun g hg => by omega)).kw K hK1 hK4
   rw [hxk] at z
   exact z : W.cell? ⟨0, K, none⟩ = some (.string xk)))
 have HIT := Lib.hid (fun W (hW : Below B w W) (n : Int) (h0 : 0 ≤ n) (h1 : n ≤ 1000000) => itoa_any (hIt.below hW hB9) n (by omega) (by omega))
 have HROK := Lib.hid (And.intro r0 (And.intro r1 (And.intro r2 r3)))
 have HC := Lib.hid (And.intro hco hrt)
 have HE := Lib.hid (And.intro e1 (And.intro e2 (And.intro e3 (And.intro e4 (And.intro e5 (And.intro e6 (And.intro e7 e8)))))))
 have HX := Lib.hid (And.intro hx0 hxk)
 have HN := Lib.hid (And.intro hn0 (And.intro hn1 (And.intro hn2 hn3)))
 have H1 := Lib.hid (by
   have z := line3t HS0.out wTargetS nm wOpen HE.out.1 (by omega)
   rw [hx0] at z
   exact z : Calls Tryz.prog 52 #[.pointer (some ⟨b, 0, none⟩), .slice (some ⟨w1.heap.size, 0, none⟩) 3 3] (w1.alloc (.cells #[.string ⟨#[116, 97, 114, 103, 101, 116, 32]⟩, .string x0, .string ⟨#[32, 123]⟩] 9)) (fun en w' => en = .returned (.tuple #[]) ∧ TSt w w' B b r [.string x0, .int .i64 (K : Int), .int .i64 (ln : Int), .slice A0 n0 c0, .slice A1 n1 c1, .slice A2 n2 c2, .slice A3 n3 c3, .int .i64 co, .int .i64 rt] (l0 ++ s1)))
 have z0 : w1.cell? ⟨r, 0, none⟩ = some (.string x0) := HS0.out.box.cell 0
 clear S0 F1 hb1 h q0 q1 q2 q3 hP hLa hIt r0 r1 r2 r3 hco hrt e1 e2 e3 e4 e5 e6 e7 e8 hx0 hxk hn0 hn1 hn2 hn3
 go_enter Tryz.func55, Tryz.ntmps55
 go_upto_region 2 with (first
   | (go_at_call 52; ((with_reducible refine H1.out.mono ?_); rintro en w2 ⟨rfl, h2⟩; (have HS1 := Lib.hid h2); clear h2))
   | (fail "arm"))
 have H2 := Lib.hid (by
   have z := line3t HS1.out wKindS (kw K) [59] HE.out.2.1 (by rw [List.length_append]; omega)
   rw [HX.out.2] at z
   exact z : Calls Tryz.prog 52 #[.pointer (some ⟨b, 0, none⟩), .slice (some ⟨w2.heap.size, 0, none⟩) 3 3] (w2.alloc (.cells #[.string ⟨#[32, 32, 107, 105, 110, 100, 32]⟩, .string xk, .string ⟨#[59]⟩] 9)) (fun en w' => en = .returned (.tuple #[]) ∧ TSt w w' B b r [.string x0, .int .i64 (K : Int), .int .i64 (ln : Int), .slice A0 n0 c0, .slice A1 n1 c1, .slice A2 n2 c2, .slice A3 n3 c3, .int .i64 co, .int .i64 rt] (l0 ++ s1 ++ s2)))
 have z1 : w2.cell? ⟨r, 1, none⟩ = some (.int .i64 (K : Int)) := HS1.out.box.cell 1
 have zk := HKW.out w2 HS1.out.bel
 have hk0 : (0 : Int) ≤ (K : Int) := by omega
 have hk5 : (K : Int) < 5 := by omega
 go_upto_region 3 with (first
   | (go_at_call 52; ((with_reducible refine H2.out.mono ?_); rintro en w3 ⟨rfl, h3⟩; (have HS2 := Lib.hid h3); clear h3))
   | (fail "arm"))
 have z3 : w3.cell? ⟨r, 3, none⟩ = some (.slice A0 n0 c0) := HS2.out.box.cell 3
 have H3 := Lib.hid (by
   have z := items_t HS2.out HN.out.1 (HR.out.1) hBi HROK.out.1.1 HROK.out.1.2 wSrcs HE.out.2.2.1 (by simp only [List.length_append]; omega)
   exact z : Calls Tryz.prog 88 #[.pointer (some ⟨b, 0, none⟩), .string ⟨#[115, 114, 99, 115]⟩, .slice A0 n0 c0] w3 (fun en w' => en = .returned (.tuple #[]) ∧ TSt w w' B b r [.string x0, .int .i64 (K : Int), .int .i64 (ln : Int), .slice A0 n0 c0, .slice A1 n1 c1, .slice A2 n2 c2, .slice A3 n3 c3, .int .i64 co, .int .i64 rt] (l0 ++ s1 ++ s2 ++ s3)))
 go_upto_region 4 with (first
   | (go_at_call 88; ((with_reducible refine H3.out.mono ?_); rintro en w4 ⟨rfl, h4⟩; (have HS3 := Lib.hid h4); clear h4))
   | (fail "arm"))
 have z4 : w4.cell? ⟨r, 4, none⟩ = some (.slice A1 n1 c1) := HS3.out.box.cell 4
 have H4 := Lib.hid (by
   have z := items_t HS3.out HN.out.2.1 (HR.out.2.1) hBi HROK.out.2.1.1 HROK.out.2.1.2 wDeps HE.out.2.2.2.1 (by simp only [List.length_append]; omega)
   exact z : Calls Tryz.prog 88 #[.pointer (some ⟨b, 0, none⟩), .string ⟨#[100, 101, 112, 115]⟩, .slice A1 n1 c1] w4 (fun en w' => en = .returned (.tuple #[]) ∧ TSt w w' B b r [.string x0, .int .i64 (K : Int), .int .i64 (ln : Int), .slice A0 n0 c0, .slice A1 n1 c1, .slice A2 n2 c2, .slice A3 n3 c3, .int .i64 co, .int .i64 rt] (l0 ++ s1 ++ s2 ++ s3 ++ s4)))
 go_upto_region 5 with (first
   | (go_at_call 88; ((with_reducible refine H4.out.mono ?_); rintro en w5 ⟨rfl, h5⟩; (have HS4 := Lib.hid h5); clear h5))
   | (fail "arm"))
 have z5 : w5.cell? ⟨r, 5, none⟩ = some (.slice A2 n2 c2) := HS4.out.box.cell 5
 have H5 := Lib.hid (by
   have z := items_t HS4.out HN.out.2.2.1 (HR.out.2.2.1) hBi HROK.out.2.2.1.1 HROK.out.2.2.1.2 wOut HE.out.2.2.2.2.1 (by simp only [List.length_append]; omega)
   exact z : Calls Tryz.prog 88 #[.pointer (some ⟨b, 0, none⟩), .string ⟨#[111, 117, 116]⟩, .slice A2 n2 c2] w5 (fun en w' => en = .returned (.tuple #[]) ∧ TSt w w' B b r [.string x0, .int .i64 (K : Int), .int .i64 (ln : Int), .slice A0 n0 c0, .slice A1 n1 c1, .slice A2 n2 c2, .slice A3 n3 c3, .int .i64 co, .int .i64 rt] (l0 ++ s1 ++ s2 ++ s3 ++ s4 ++ s5)))
 go_upto_region 6 with (first
   | (go_at_call 88; ((with_reducible refine H5.out.mono ?_); rintro en w6 ⟨rfl, h6⟩; (have HS5 := Lib.hid h6); clear h6))
   | (fail "arm"))
 have z6 : w6.cell? ⟨r, 6, none⟩ = some (.slice A3 n3 c3) := HS5.out.box.cell 6
 have H6 := Lib.hid (by
   have z := items_t HS5.out HN.out.2.2.2 (HR.out.2.2.2) hBi HROK.out.2.2.2.1 HROK.out.2.2.2.2 wVis HE.out.2.2.2.2.2.1 (by simp only [List.length_append]; omega)
   exact z : Calls Tryz.prog 88 #[.pointer (some ⟨b, 0, none⟩), .string ⟨#[118, 105, 115, 105, 98, 108, 101]⟩, .slice A3 n3 c3] w6 (fun en w' => en = .returned (.tuple #[]) ∧ TSt w w' B b r [.string x0, .int .i64 (K : Int), .int .i64 (ln : Int), .slice A0 n0 c0, .slice A1 n1 c1, .slice A2 n2 c2, .slice A3 n3 c3, .int .i64 co, .int .i64 rt] (l0 ++ s1 ++ s2 ++ s3 ++ s4 ++ s5 ++ s6)))
 go_upto_region 7 with (first
   | (go_at_call 88; ((with_reducible refine H6.out.mono ?_); rintro en w7 ⟨rfl, h7⟩; (have HS6 := Lib.hid h7); clear h7))
   | (fail "arm"))
 have z7 : w7.cell? ⟨r, 7, none⟩ = some (.int .i64 co) := HS6.out.box.cell 7
 by_cases hco1 : co = 1
 · have hb7 : (co != 1) = false := by rw [hco1]; rfl
   have h7 := HE.out.2.2.2.2.2.2.1
   rw [if_pos hco1] at h7
   clear hco1
   subst h7
   go_upto_region 9 with fail
   have HS7 := HS6
   have z8 : w7.cell? ⟨r, 8, none⟩ = some (.int .i64 rt) := HS6.out.box.cell 8
   by_cases hrt0 : rt = 0
   · have hb8 : (rt != 0) = false := by rw [hrt0]; rfl
     have h8 := HE.out.2.2.2.2.2.2.2
     rw [if_pos hrt0] at h8
     clear hrt0
     subst h8
     have HL := Lib.hid (by
       have z := line1 (HS6.out).pb (HS6.out).sz [125] (by simp only [List.length_append]; rw [show ([125] : List UInt8).length = 1 from rfl, show ([10] : List UInt8).length = 1 from rfl]; omega)
       exact z : Calls Tryz.prog 52 #[.pointer (some ⟨b, 0, none⟩), .slice (some ⟨w7.heap.size, 0, none⟩) 1 1] (w7.alloc (.cells #[.string ⟨#[125]⟩] 9)) (LnOut w7 B b (l0 ++ s1 ++ s2 ++ s3 ++ s4 ++ s5 ++ s6 ++ ([125] ++ [10]))))
     unfold LnOut at HL
     go_upto_region 11 with fail
     go_wp2_with (first
       | (go_at_call 52; ((with_reducible refine HL.out.mono ?_); rintro en w20 ⟨rfl, h20⟩; (have HS20 := Lib.hid (HS6.out.next h20)); clear h20))
       | (fail "arm"))
     go_end0
     refine ⟨rfl, ?_, HS20.out.bel, HS20.out.tb⟩
     have q := HS20.out.pb
     simpa [List.append_assoc] using q
   · have hb8 : (rt != 0) = true := by simpa using hrt0
     have h8 := HE.out.2.2.2.2.2.2.2
     rw [if_neg hrt0] at h8
     clear hrt0
     have HI8 := Lib.hid (HIT.out w7 HS6.out.bel rt HC.out.2.1 HC.out.2.2)
     unfold StrB at HI8
     obtain ⟨xr, hxr⟩ : ∃ x, str (itoaB rt) = x := ⟨_, rfl⟩
     rw [hxr] at HI8
     have HXR := Lib.hid hxr
     have H88 := Lib.hid h8
     clear hxr h8
     go_upto_region 11 with (first
       | (go_at_call 89; ((with_reducible refine HI8.out.mono ?_); rintro en w15 ⟨rfl, h15⟩; (have HS15 := Lib.hid (HS6.out.on h15)); (have H15 := Lib.hid (by
           have z := line3t HS15.out wRetryS (itoaB rt) [59] H88.out (by simp only [List.length_append]; omega)
           rw [HXR.out] at z
           exact z : Calls Tryz.prog 52 #[.pointer (some ⟨b, 0, none⟩), .slice (some ⟨w15.heap.size, 0, none⟩) 3 3] (w15.alloc (.cells #[.string ⟨#[32, 32, 114, 101, 116, 114, 121, 32]⟩, .string xr, .string ⟨#[59]⟩] 9)) (fun en w' => en = .returned (.tuple #[]) ∧ TSt w w' B b r [.string x0, .int .i64 (K : Int), .int .i64 (ln : Int), .slice A0 n0 c0, .slice A1 n1 c1, .slice A2 n2 c2, .slice A3 n3 c3, .int .i64 co, .int .i64 rt] (l0 ++ s1 ++ s2 ++ s3 ++ s4 ++ s5 ++ s6 ++ s8)))); clear h15))
       | (go_at_call 52; ((with_reducible refine H15.out.mono ?_); rintro en w16 ⟨rfl, h16⟩; (have HS16 := Lib.hid h16); clear h16))
       | (fail "arm"))
     have HL := Lib.hid (by
       have z := line1 (HS16.out).pb (HS16.out).sz [125] (by simp only [List.length_append]; rw [show ([125] : List UInt8).length = 1 from rfl, show ([10] : List UInt8).length = 1 from rfl]; omega)
       exact z : Calls Tryz.prog 52 #[.pointer (some ⟨b, 0, none⟩), .slice (some ⟨w16.heap.size, 0, none⟩) 1 1] (w16.alloc (.cells #[.string ⟨#[125]⟩] 9)) (LnOut w16 B b (l0 ++ s1 ++ s2 ++ s3 ++ s4 ++ s5 ++ s6 ++ s8 ++ ([125] ++ [10]))))
     unfold LnOut at HL
     go_wp2_with (first
       | (go_at_call 52; ((with_reducible refine HL.out.mono ?_); rintro en w20 ⟨rfl, h20⟩; (have HS20 := Lib.hid (HS16.out.next h20)); clear h20))
       | (fail "arm"))
     go_end0
     refine ⟨rfl, ?_, HS20.out.bel, HS20.out.tb⟩
     have q := HS20.out.pb
     simpa [List.append_assoc] using q
 · have hb7 : (co != 1) = true := by simpa using hco1
   have h7 := HE.out.2.2.2.2.2.2.1
   rw [if_neg hco1] at h7
   clear hco1
   have HI7 := Lib.hid (HIT.out w7 HS6.out.bel co HC.out.1.1 HC.out.1.2)
   unfold StrB at HI7
   obtain ⟨xc, hxc⟩ : ∃ x, str (itoaB co) = x := ⟨_, rfl⟩
   rw [hxc] at HI7
   have HXC := Lib.hid hxc
   have H77 := Lib.hid h7
   clear hxc h7
   go_upto_region 9 with (first
     | (go_at_call 89; ((with_reducible refine HI7.out.mono ?_); rintro en w10 ⟨rfl, h10⟩; (have HS10 := Lib.hid (HS6.out.on h10)); (have H10 := Lib.hid (by
         have z := line3t HS10.out wCostS (itoaB co) [59] H77.out (by simp only [List.length_append]; omega)
         rw [HXC.out] at z
         exact z : Calls Tryz.prog 52 #[.pointer (some ⟨b, 0, none⟩), .slice (some ⟨w10.heap.size, 0, none⟩) 3 3] (w10.alloc (.cells #[.string ⟨#[32, 32, 99, 111, 115, 116, 32]⟩, .string xc, .string ⟨#[59]⟩] 9)) (fun en w' => en = .returned (.tuple #[]) ∧ TSt w w' B b r [.string x0, .int .i64 (K : Int), .int .i64 (ln : Int), .slice A0 n0 c0, .slice A1 n1 c1, .slice A2 n2 c2, .slice A3 n3 c3, .int .i64 co, .int .i64 rt] (l0 ++ s1 ++ s2 ++ s3 ++ s4 ++ s5 ++ s6 ++ s7)))); clear h10))
     | (go_at_call 52; ((with_reducible refine H10.out.mono ?_); rintro en w11 ⟨rfl, h11⟩; (have HS7 := Lib.hid h11); clear h11))
     | (fail "arm"))
   have z8 : w11.cell? ⟨r, 8, none⟩ = some (.int .i64 rt) := HS7.out.box.cell 8
   by_cases hrt0 : rt = 0
   · have hb8 : (rt != 0) = false := by rw [hrt0]; rfl
     have h8 := HE.out.2.2.2.2.2.2.2
     rw [if_pos hrt0] at h8
     clear hrt0
     subst h8
     have HL := Lib.hid (by
       have z := line1 (HS7.out).pb (HS7.out).sz [125] (by simp only [List.length_append]; rw [show ([125] : List UInt8).length = 1 from rfl, show ([10] : List UInt8).length = 1 from rfl]; omega)
       exact z : Calls Tryz.prog 52 #[.pointer (some ⟨b, 0, none⟩), .slice (some ⟨w11.heap.size, 0, none⟩) 1 1] (w11.alloc (.cells #[.string ⟨#[125]⟩] 9)) (LnOut w11 B b (l0 ++ s1 ++ s2 ++ s3 ++ s4 ++ s5 ++ s6 ++ s7 ++ ([125] ++ [10]))))
     unfold LnOut at HL
     go_upto_region 11 with fail
     go_wp2_with (first
       | (go_at_call 52; ((with_reducible refine HL.out.mono ?_); rintro en w20 ⟨rfl, h20⟩; (have HS20 := Lib.hid (HS7.out.next h20)); clear h20))
       | (fail "arm"))
     go_end0
     refine ⟨rfl, ?_, HS20.out.bel, HS20.out.tb⟩
     have q := HS20.out.pb
     simpa [List.append_assoc] using q
   · have hb8 : (rt != 0) = true := by simpa using hrt0
     have h8 := HE.out.2.2.2.2.2.2.2
     rw [if_neg hrt0] at h8
     clear hrt0
     have HI8 := Lib.hid (HIT.out w11 HS7.out.bel rt HC.out.2.1 HC.out.2.2)
     unfold StrB at HI8
     obtain ⟨xr, hxr⟩ : ∃ x, str (itoaB rt) = x := ⟨_, rfl⟩
     rw [hxr] at HI8
     have HXR := Lib.hid hxr
     have H88 := Lib.hid h8
     clear hxr h8
     go_upto_region 11 with (first
       | (go_at_call 89; ((with_reducible refine HI8.out.mono ?_); rintro en w15 ⟨rfl, h15⟩; (have HS15 := Lib.hid (HS7.out.on h15)); (have H15 := Lib.hid (by
           have z := line3t HS15.out wRetryS (itoaB rt) [59] H88.out (by simp only [List.length_append]; omega)
           rw [HXR.out] at z
           exact z : Calls Tryz.prog 52 #[.pointer (some ⟨b, 0, none⟩), .slice (some ⟨w15.heap.size, 0, none⟩) 3 3] (w15.alloc (.cells #[.string ⟨#[32, 32, 114, 101, 116, 114, 121, 32]⟩, .string xr, .string ⟨#[59]⟩] 9)) (fun en w' => en = .returned (.tuple #[]) ∧ TSt w w' B b r [.string x0, .int .i64 (K : Int), .int .i64 (ln : Int), .slice A0 n0 c0, .slice A1 n1 c1, .slice A2 n2 c2, .slice A3 n3 c3, .int .i64 co, .int .i64 rt] (l0 ++ s1 ++ s2 ++ s3 ++ s4 ++ s5 ++ s6 ++ s7 ++ s8)))); clear h15))
       | (go_at_call 52; ((with_reducible refine H15.out.mono ?_); rintro en w16 ⟨rfl, h16⟩; (have HS16 := Lib.hid h16); clear h16))
       | (fail "arm"))
     have HL := Lib.hid (by
       have z := line1 (HS16.out).pb (HS16.out).sz [125] (by simp only [List.length_append]; rw [show ([125] : List UInt8).length = 1 from rfl, show ([10] : List UInt8).length = 1 from rfl]; omega)
       exact z : Calls Tryz.prog 52 #[.pointer (some ⟨b, 0, none⟩), .slice (some ⟨w16.heap.size, 0, none⟩) 1 1] (w16.alloc (.cells #[.string ⟨#[125]⟩] 9)) (LnOut w16 B b (l0 ++ s1 ++ s2 ++ s3 ++ s4 ++ s5 ++ s6 ++ s7 ++ s8 ++ ([125] ++ [10]))))
     unfold LnOut at HL
     go_wp2_with (first
       | (go_at_call 52; ((with_reducible refine HL.out.mono ?_); rintro en w20 ⟨rfl, h20⟩; (have HS20 := Lib.hid (HS16.out.next h20)); clear h20))
       | (fail "arm"))
     go_end0
     refine ⟨rfl, ?_, HS20.out.bel, HS20.out.tb⟩
     have q := HS20.out.pb
     simpa [List.append_assoc] using q
def wPlatS : List UInt8 := [112, 108, 97, 116, 102, 111, 114, 109, 115, 32]
def fPlats (pl : List Itm) : List UInt8 := if pl.length = 0 then [] else fThree wPlatS (Lib.join (pl.map Itm.tx) [44, 32]) [59]
def fFile (pl : List Itm) (L : List Tgt) : List UInt8 := fPlats pl ++ L.flatMap fTarget
theorem fl_take (tl : List (Tgt × (Nat → Value))) (k : Nat) (hk : k < tl.length) : ((tl.take (k + 1)).map Prod.fst).flatMap fTarget = ((tl.take k).map Prod.fst).flatMap fTarget ++ fTarget tl[k].1 := by
 rw [List.take_succ_eq_append_getElem hk, List.map_append, List.flatMap_append]
 simp
theorem fl_le (tl : List (Tgt × (Nat → Value))) (k : Nat) : (((tl.take k).map Prod.fst).flatMap fTarget).length ≤ ((tl.map Prod.fst).flatMap fTarget).length := by
 conv => rhs; rw [← List.take_append_drop k tl]
 rw [List.map_append, List.flatMap_append, List.length_append]
 omega
structure BPr (pl : List Itm) (tl : List (Tgt × (Nat → Value))) : Prop where
 npl : pl.length ≤ 17179869184
 hpl : ∀ i ∈ pl, TxOk i
 ntl : tl.length ≤ 17179869184
 htl : ∀ p ∈ tl, TPr p.1
set_option maxHeartbeats 8000000 in
theorem file_pr {w : World} {B Bi b : Nat} {l0 : List UInt8} (h : PBd w B b l0) (hB : B ≤ w.heap.size) (hB9 : 9 ≤ B) (hBi : Bi ≤ B) (hLa : Laid w) (hIt : Ito w) {Ap : Option Addr} {np cp : Nat} {A : Option Addr} {n c : Nat} {pl : List Itm} {tl : List (Tgt × (Nat → Value))} (hR : RB w Bi Ap np cp A n c pl tl) (hP : BPr pl tl) (hlen : l0.length + (fFile pl (tl.map Prod.fst)).length ≤ 140737488355328) :
   Calls Tryz.prog 35 #[.pointer (some ⟨b, 0, none⟩), .agg #[.slice Ap np cp, .slice A n c]] w (LnOut w B b (l0 ++ fFile pl (tl.map Prod.fst))) := by
 unfold LnOut
 unfold fFile at hlen ⊢
 rw [List.length_append] at hlen
 obtain ⟨s0, hs0⟩ : ∃ s, fPlats pl = s := ⟨_, rfl⟩
 obtain ⟨R, hRR⟩ : ∃ s, (tl.map Prod.fst).flatMap fTarget = s := ⟨_, rfl⟩
 rw [hs0, hRR] at hlen ⊢
 have hcap := hR.htl.2.1
 rw [hR.hn] at hcap
 have hnl := hP.ntl
 rw [hR.hn] at hnl
 have hblt : b < w.heap.size := by rcases h with z | z <;> exact z.lt
 obtain ⟨w1, hw1⟩ : ∃ w1, w.alloc (.cells #[.slice Ap np cp, .slice A n c] 28) = w1 := ⟨_, rfl⟩
 have hb1 : Below w.heap.size w w1 := by rw [← hw1]; exact (Below.refl _ w).alloc (Nat.le_refl _) _
 have F1 : Full w1 w.heap.size 28 [.slice Ap np cp, .slice A n c] := by rw [← hw1]; exact Full.new w 28 _
 obtain ⟨r, hr⟩ : ∃ r, w.heap.size = r := ⟨_, rfl⟩
 rw [hr] at F1
 have z0 : w1.cell? ⟨r, 0, none⟩ = some (.slice Ap np cp) := F1.cell 0
 have z1 : w1.cell? ⟨r, 1, none⟩ = some (.slice A n c) := F1.cell 1
 have HF1 := Lib.hid F1
 have HB1 := Lib.hid hb1
 have HTL := Lib.hid (fun W (hW : Below B w W) => (Row.below hR.htl hW hBi : Tgts W Bi A c tl))
 have HTR := Lib.hid hR.rows
 have HTG := Lib.hid (fun (W : World) (hW : Below B w W) (k : Nat) (hk : k < tl.length) (l : List UInt8) (hb : PBd W B b l) (hsz : B ≤ W.heap.size) (hl : l.length + (fTarget tl[k].1).length ≤ 140737488355328) =>
   target_any (p := tl[k]) hb hsz hB9 hBi (hLa.turn (F := fun g => B ≤ g) ⟨hW.os, hW.tape, hW.output, hW.size, fun g hg hn => hW.block g (by omega)⟩ (fun g hg => by omega)) (hIt.below hW hB9) ((hR.rows tl[k] (List.getElem_mem hk)).below hW hBi) (hP.htl tl[k] (List.getElem_mem hk)) hl)
 have HS0 := Lib.hid (show PBd w1 B b l0 ∧ Below B w w1 ∧ Tb b w w1 ∧ B ≤ w1.heap.size from ⟨h.on hb1, hb1.mono hB, Tb.of hb1, Nat.le_trans hB hb1.size⟩)
 have HN := Lib.hid (And.intro hR.hn hRR)
 have JN := (joined_54 (w := w1) (Row.below hR.hpl hb1 (Nat.le_trans hBi hB) : Itms w1 Bi Ap cp pl) (by have := hb1.size; omega) hP.npl (fun i hi => (hP.hpl i hi).1))
 rw [hR.hnp] at JN
 unfold StrB at JN
 by_cases hp0 : np = 0
 · have hd : decide ((np : Int) > 0) = false := by simp; omega
   have hd2 : ((0 : Int) < (np : Int)) = False := by simp; omega
   have hs00 : s0 = [] := by rw [← hs0]; unfold fPlats; rw [if_pos (by rw [hR.hnp]; exact hp0)]
   have hnp0 : ¬ (0 : Int) < (np : Int) := by omega
   have HS1 := Lib.hid (show PBd w1 B b (l0 ++ s0) ∧ Below B w w1 ∧ Tb b w w1 ∧ B ≤ w1.heap.size from by rw [hs00, List.append_nil]; exact HS0.out)
   clear JN hs0 hs00 hP hR hLa hIt h hb1 F1 hRR hp0
   go_enter Tryz.func35, Tryz.ntmps35
   go_upto_region 4 with fail
   go_loopw [19] (fun i wr => ∃ k : Nat, i = .int .i64 (k : Int) ∧ k ≤ n ∧ Hid (PBd wr B b (l0 ++ s0 ++ ((tl.take k).map Prod.fst).flatMap fTarget)) ∧ Hid (Below B w wr) ∧ Hid (Tb b w wr) ∧ Hid (B ≤ wr.heap.size)) (fun i _ => n - (intOf i).toNat)
   case atStart => exact ⟨0, rfl, Nat.zero_le _, Lib.hid (by rw [List.take_zero, List.map_nil, List.flatMap_nil, List.append_nil]; exact HS1.out.1), Lib.hid HS1.out.2.1, Lib.hid HS1.out.2.2.1, Lib.hid HS1.out.2.2.2⟩
   case round =>
     obtain ⟨k, rfl, hk, HP, HB, HT, HZ⟩ := hrel
     have hi0 : (0 : Int) ≤ (k : Int) := Int.natCast_nonneg _
     by_cases hlt : k < n
     · have hi1 : (k : Int) < (n : Int) := by omega
       have hdd : decide ((k : Int) < (n : Int)) = true := by simp; omega
       have hkl : k < tl.length := by have := HN.out.1; omega
       have hmem := List.getElem_mem hkl
       obtain ⟨ad, rfl, hadB, x0, x1, x2, x3, x4, x5, x6, x7, x8⟩ := Tgts.at_ (HTL.out wr HB.out) hkl
       have hcap' : n ≤ c := hcap
       obtain ⟨A0, c0, v0, _⟩ := (HTR.out tl[k] hmem) 0 (by decide)
       obtain ⟨A1, c1, v1, _⟩ := (HTR.out tl[k] hmem) 1 (by decide)
       obtain ⟨A2, c2, v2, _⟩ := (HTR.out tl[k] hmem) 2 (by decide)
       obtain ⟨A3, c3, v3, _⟩ := (HTR.out tl[k] hmem) 3 (by decide)
       obtain ⟨y0, hy0⟩ : ∃ y, str tl[k].1.name = y := ⟨_, rfl⟩
       obtain ⟨y1, hy1⟩ : ∃ y, tl[k].1.kind = y := ⟨_, rfl⟩
       obtain ⟨y2, hy2⟩ : ∃ y : Nat, tl[k].1.line = y := ⟨_, rfl⟩
       obtain ⟨y7, hy7⟩ : ∃ y, tl[k].1.cost = y := ⟨_, rfl⟩
       obtain ⟨y8, hy8⟩ : ∃ y, tl[k].1.retry = y := ⟨_, rfl⟩
       obtain ⟨n0, hn0⟩ : ∃ y, (tl[k].1.rows 0).length = y := ⟨_, rfl⟩
       rw [hn0] at v0
       obtain ⟨n1, hn1⟩ : ∃ y, (tl[k].1.rows 1).length = y := ⟨_, rfl⟩
       rw [hn1] at v1
       obtain ⟨n2, hn2⟩ : ∃ y, (tl[k].1.rows 2).length = y := ⟨_, rfl⟩
       rw [hn2] at v2
       obtain ⟨n3, hn3⟩ : ∃ y, (tl[k].1.rows 3).length = y := ⟨_, rfl⟩
       rw [hn3] at v3
       rw [hy0] at x0
       rw [hy1] at x1
       rw [hy2] at x2
       rw [v0] at x3
       rw [v1] at x4
       rw [v2] at x5
       rw [v3] at x6
       rw [hy7] at x7
       rw [hy8] at x8
       obtain ⟨w2, hw2⟩ : ∃ w2, wr.alloc (.cells #[.string y0, .int .i64 y1, .int .i64 (y2 : Int), .slice A0 n0 c0, .slice A1 n1 c1, .slice A2 n2 c2, .slice A3 n3 c3, .int .i64 y7, .int .i64 y8] 50) = w2 := ⟨_, rfl⟩
       have hb2 : Below wr.heap.size wr w2 := by rw [← hw2]; exact (Below.refl _ wr).alloc (Nat.le_refl _) _
       have F2 : Full w2 wr.heap.size 50 [.string y0, .int .i64 y1, .int .i64 (y2 : Int), .slice A0 n0 c0, .slice A1 n1 c1, .slice A2 n2 c2, .slice A3 n3 c3, .int .i64 y7, .int .i64 y8] := by rw [← hw2]; exact Full.new wr 50 _
       obtain ⟨u, hu⟩ : ∃ u, wr.heap.size = u := ⟨_, rfl⟩
       rw [hu] at F2
       have u_0 : w2.cell? ⟨u, 0, none⟩ = some (.string y0) := F2.cell 0
       have u_1 : w2.cell? ⟨u, 1, none⟩ = some (.int .i64 y1) := F2.cell 1
       have u_2 : w2.cell? ⟨u, 2, none⟩ = some (.int .i64 (y2 : Int)) := F2.cell 2
       have u_3 : w2.cell? ⟨u, 3, none⟩ = some (.slice A0 n0 c0) := F2.cell 3
       have u_4 : w2.cell? ⟨u, 4, none⟩ = some (.slice A1 n1 c1) := F2.cell 4
       have u_5 : w2.cell? ⟨u, 5, none⟩ = some (.slice A2 n2 c2) := F2.cell 5
       have u_6 : w2.cell? ⟨u, 6, none⟩ = some (.slice A3 n3 c3) := F2.cell 6
       have u_7 : w2.cell? ⟨u, 7, none⟩ = some (.int .i64 y7) := F2.cell 7
       have u_8 : w2.cell? ⟨u, 8, none⟩ = some (.int .i64 y8) := F2.cell 8
       have e1 := fl_take tl k hkl
       have e2 := fl_le tl (k + 1)
       rw [HN.out.2] at e2
       have TG := HTG.out w2 (HB.out.trans (hb2.mono HZ.out)) k hkl _ (HP.out.on hb2) (Nat.le_trans HZ.out hb2.size) (by
         rw [e1, List.length_append] at e2
         rw [List.length_append, List.length_append]
         omega)
       unfold LnOut tgtV at TG
       rw [hy0, hy1, hy2, v0, v1, v2, v3, hy7, hy8, List.append_assoc (l0 ++ s0), ← e1] at TG
       have HTT := Lib.hid (And.intro (HB.out.trans (hb2.mono HZ.out)) (And.intro (HT.out.trans (Tb.of hb2)) (Nat.le_trans HZ.out hb2.size)))
       have TG := Lib.hid TG
       clear hy0 hy1 hy2 hy7 hy8 hn0 hn1 hn2 hn3 v0 v1 v2 v3 e1 e2 hb2 F2 hmem
       go_wp2_with (first
         | (go_at_call 55; ((with_reducible refine TG.out.mono ?_); rintro en w5 ⟨rfl, k1, k2, k3⟩; (have HP5 := Lib.hid k1); (have HB5 := Lib.hid (HTT.out.1.trans k2)); (have HT5 := Lib.hid (HTT.out.2.1.trans k3)); (have HZ5 := Lib.hid (Nat.le_trans HTT.out.2.2 k2.size)); clear k1 k2 k3))
         | (fail "arm"))
       go_roundw
       case rel => exact ⟨k + 1, by simp, hlt, HP5, HB5, HT5, HZ5⟩
       case measure => show n - ((k : Int) + 1).toNat < n - (k : Int).toNat; omega
     · obtain rfl : k = n := by omega
       have hdd : decide ((k : Int) < (k : Int)) = false := by simp
       have HO := Lib.hid (show PBd wr B b (l0 ++ (s0 ++ R)) ∧ Below B w wr ∧ Tb b w wr from by
         have q := HP.out
         rw [List.take_of_length_le (by rw [HN.out.1]; exact Nat.le_refl _), HN.out.2, List.append_assoc] at q
         exact ⟨q, HB.out, HT.out⟩)
       go_wp2
       go_end0
       exact ⟨rfl, HO.out⟩
 · have hpp : (0 : Int) < (np : Int) := by omega
   have e0 : fThree wPlatS (Lib.join (pl.map Itm.tx) [44, 32]) [59] = s0 := by rw [← hs0]; unfold fPlats; rw [if_neg (by rw [hR.hnp]; exact hp0)]
   have hj : (Lib.join (pl.map Itm.tx) [44, 32]).length ≤ 140737488355328 := by
     have := congrArg List.length e0
     unfold fThree at this
     simp only [List.length_append] at this
     omega
   have JN := JN hj
   obtain ⟨J, hJ⟩ : ∃ J, str (Lib.join (pl.map Itm.tx) [44, 32]) = J := ⟨_, rfl⟩
   rw [hJ] at JN
   have JN := Lib.hid JN
   have H3 := Lib.hid (fun (W : World) (hW : Below w1.heap.size w1 W) => (by
     have z := line3 (HS0.out.1.on hW) (Nat.le_trans HS0.out.2.2.2 hW.size) wPlatS (Lib.join (pl.map Itm.tx) [44, 32]) [59] (by rw [e0]; omega)
     rw [hJ, e0] at z
     unfold LnOut at z
     refine z.mono ?_
     rintro en w' ⟨he, k1, k2, k3⟩
     exact ⟨he, k1, HS0.out.2.1.trans ((hW.mono HS0.out.2.2.2).trans k2), HS0.out.2.2.1.trans ((Tb.of hW).trans k3), Nat.le_trans HS0.out.2.2.2 (Nat.le_trans hW.size k2.size), k3.full (HF1.out.on hW) (by omega) (by decide)⟩ : Calls Tryz.prog 52 #[.pointer (some ⟨b, 0, none⟩), .slice (some ⟨W.heap.size, 0, none⟩) 3 3] (W.alloc (.cells #[.string ⟨#[112, 108, 97, 116, 102, 111, 114, 109, 115, 32]⟩, .string J, .string ⟨#[59]⟩] 9)) (fun en w' => en = .returned (.tuple #[]) ∧ PBd w' B b (l0 ++ s0) ∧ Below B w w' ∧ Tb b w w' ∧ B ≤ w'.heap.size ∧ Full w' r 28 [.slice Ap np cp, .slice A n c])))
   clear hs0 hP hR hLa hIt h hb1 F1 hRR hJ e0 hj hp0
   go_enter Tryz.func35, Tryz.ntmps35
   go_upto_region 4 with (first
     | (go_at_call 53; ((with_reducible refine JN.out.mono ?_); rintro en w3 ⟨rfl, h3⟩; (have H33 := Lib.hid (H3.out w3 h3)); clear h3))
     | (go_at_call 52; ((with_reducible refine H33.out.mono ?_); rintro en w4 ⟨rfl, k1, k2, k3, k4, k5⟩; (have y1 : w4.cell? ⟨r, 1, none⟩ = some (.slice A n c) := k5.cell 1); (have HS1 := Lib.hid (show PBd w4 B b (l0 ++ s0) ∧ Below B w w4 ∧ Tb b w w4 ∧ B ≤ w4.heap.size from ⟨k1, k2, k3, k4⟩)); clear k1 k2 k3 k4 k5))
     | (fail "arm"))
   go_loopw [19] (fun i wr => ∃ k : Nat, i = .int .i64 (k : Int) ∧ k ≤ n ∧ Hid (PBd wr B b (l0 ++ s0 ++ ((tl.take k).map Prod.fst).flatMap fTarget)) ∧ Hid (Below B w wr) ∧ Hid (Tb b w wr) ∧ Hid (B ≤ wr.heap.size)) (fun i _ => n - (intOf i).toNat)
   case atStart => exact ⟨0, rfl, Nat.zero_le _, Lib.hid (by rw [List.take_zero, List.map_nil, List.flatMap_nil, List.append_nil]; exact HS1.out.1), Lib.hid HS1.out.2.1, Lib.hid HS1.out.2.2.1, Lib.hid HS1.out.2.2.2⟩
   case round =>
     obtain ⟨k, rfl, hk, HP, HB, HT, HZ⟩ := hrel
     have hi0 : (0 : Int) ≤ (k : Int) := Int.natCast_nonneg _
     by_cases hlt : k < n
     · have hi1 : (k : Int) < (n : Int) := by omega
       have hdd : decide ((k : Int) < (n : Int)) = true := by simp; omega
       have hkl : k < tl.length := by have := HN.out.1; omega
       have hmem := List.getElem_mem hkl
       obtain ⟨ad, rfl, hadB, x0, x1, x2, x3, x4, x5, x6, x7, x8⟩ := Tgts.at_ (HTL.out wr HB.out) hkl
       have hcap' : n ≤ c := hcap
       obtain ⟨A0, c0, v0, _⟩ := (HTR.out tl[k] hmem) 0 (by decide)
       obtain ⟨A1, c1, v1, _⟩ := (HTR.out tl[k] hmem) 1 (by decide)
       obtain ⟨A2, c2, v2, _⟩ := (HTR.out tl[k] hmem) 2 (by decide)
       obtain ⟨A3, c3, v3, _⟩ := (HTR.out tl[k] hmem) 3 (by decide)
       obtain ⟨y0, hy0⟩ : ∃ y, str tl[k].1.name = y := ⟨_, rfl⟩
       obtain ⟨y1, hy1⟩ : ∃ y, tl[k].1.kind = y := ⟨_, rfl⟩
       obtain ⟨y2, hy2⟩ : ∃ y : Nat, tl[k].1.line = y := ⟨_, rfl⟩
       obtain ⟨y7, hy7⟩ : ∃ y, tl[k].1.cost = y := ⟨_, rfl⟩
       obtain ⟨y8, hy8⟩ : ∃ y, tl[k].1.retry = y := ⟨_, rfl⟩
       obtain ⟨n0, hn0⟩ : ∃ y, (tl[k].1.rows 0).length = y := ⟨_, rfl⟩
       rw [hn0] at v0
       obtain ⟨n1, hn1⟩ : ∃ y, (tl[k].1.rows 1).length = y := ⟨_, rfl⟩
       rw [hn1] at v1
       obtain ⟨n2, hn2⟩ : ∃ y, (tl[k].1.rows 2).length = y := ⟨_, rfl⟩
       rw [hn2] at v2
       obtain ⟨n3, hn3⟩ : ∃ y, (tl[k].1.rows 3).length = y := ⟨_, rfl⟩
       rw [hn3] at v3
       rw [hy0] at x0
       rw [hy1] at x1
       rw [hy2] at x2
       rw [v0] at x3
       rw [v1] at x4
       rw [v2] at x5
       rw [v3] at x6
       rw [hy7] at x7
       rw [hy8] at x8
       obtain ⟨w2, hw2⟩ : ∃ w2, wr.alloc (.cells #[.string y0, .int .i64 y1, .int .i64 (y2 : Int), .slice A0 n0 c0, .slice A1 n1 c1, .slice A2 n2 c2, .slice A3 n3 c3, .int .i64 y7, .int .i64 y8] 50) = w2 := ⟨_, rfl⟩
       have hb2 : Below wr.heap.size wr w2 := by rw [← hw2]; exact (Below.refl _ wr).alloc (Nat.le_refl _) _
       have F2 : Full w2 wr.heap.size 50 [.string y0, .int .i64 y1, .int .i64 (y2 : Int), .slice A0 n0 c0, .slice A1 n1 c1, .slice A2 n2 c2, .slice A3 n3 c3, .int .i64 y7, .int .i64 y8] := by rw [← hw2]; exact Full.new wr 50 _
       obtain ⟨u, hu⟩ : ∃ u, wr.heap.size = u := ⟨_, rfl⟩
       rw [hu] at F2
       have u_0 : w2.cell? ⟨u, 0, none⟩ = some (.string y0) := F2.cell 0
       have u_1 : w2.cell? ⟨u, 1, none⟩ = some (.int .i64 y1) := F2.cell 1
       have u_2 : w2.cell? ⟨u, 2, none⟩ = some (.int .i64 (y2 : Int)) := F2.cell 2
       have u_3 : w2.cell? ⟨u, 3, none⟩ = some (.slice A0 n0 c0) := F2.cell 3
       have u_4 : w2.cell? ⟨u, 4, none⟩ = some (.slice A1 n1 c1) := F2.cell 4
       have u_5 : w2.cell? ⟨u, 5, none⟩ = some (.slice A2 n2 c2) := F2.cell 5
       have u_6 : w2.cell? ⟨u, 6, none⟩ = some (.slice A3 n3 c3) := F2.cell 6
       have u_7 : w2.cell? ⟨u, 7, none⟩ = some (.int .i64 y7) := F2.cell 7
       have u_8 : w2.cell? ⟨u, 8, none⟩ = some (.int .i64 y8) := F2.cell 8
       have e1 := fl_take tl k hkl
       have e2 := fl_le tl (k + 1)
       rw [HN.out.2] at e2
       have TG := HTG.out w2 (HB.out.trans (hb2.mono HZ.out)) k hkl _ (HP.out.on hb2) (Nat.le_trans HZ.out hb2.size) (by
         rw [e1, List.length_append] at e2
         rw [List.length_append, List.length_append]
         omega)
       unfold LnOut tgtV at TG
       rw [hy0, hy1, hy2, v0, v1, v2, v3, hy7, hy8, List.append_assoc (l0 ++ s0), ← e1] at TG
       have HTT := Lib.hid (And.intro (HB.out.trans (hb2.mono HZ.out)) (And.intro (HT.out.trans (Tb.of hb2)) (Nat.le_trans HZ.out hb2.size)))
       have TG := Lib.hid TG
       clear hy0 hy1 hy2 hy7 hy8 hn0 hn1 hn2 hn3 v0 v1 v2 v3 e1 e2 hb2 F2 hmem
       go_wp2_with (first
         | (go_at_call 55; ((with_reducible refine TG.out.mono ?_); rintro en w5 ⟨rfl, k1, k2, k3⟩; (have HP5 := Lib.hid k1); (have HB5 := Lib.hid (HTT.out.1.trans k2)); (have HT5 := Lib.hid (HTT.out.2.1.trans k3)); (have HZ5 := Lib.hid (Nat.le_trans HTT.out.2.2 k2.size)); clear k1 k2 k3))
         | (fail "arm"))
       go_roundw
       case rel => exact ⟨k + 1, by simp, hlt, HP5, HB5, HT5, HZ5⟩
       case measure => show n - ((k : Int) + 1).toNat < n - (k : Int).toNat; omega
     · obtain rfl : k = n := by omega
       have hdd : decide ((k : Int) < (k : Int)) = false := by simp
       have HO := Lib.hid (show PBd wr B b (l0 ++ (s0 ++ R)) ∧ Below B w wr ∧ Tb b w wr from by
         have q := HP.out
         rw [List.take_of_length_le (by rw [HN.out.1]; exact Nat.le_refl _), HN.out.2, List.append_assoc] at q
         exact ⟨q, HB.out, HT.out⟩)
       go_wp2
       go_end0
       exact ⟨rfl, HO.out⟩
theorem file_none {w : World} {b : Nat} {cs : List Value} (h : Full w b 77 cs) {Ap : Option Addr} {cp : Nat} {A : Option Addr} {c : Nat} :
   Calls Tryz.prog 35 #[.pointer (some ⟨b, 0, none⟩), .agg #[.slice Ap 0 cp, .slice A 0 c]] w (fun en w' => en = .returned (.tuple #[]) ∧ Full w' b 77 cs ∧ Below w.heap.size w w') := by
 obtain ⟨w1, hw1⟩ : ∃ w1, w.alloc (.cells #[.slice Ap 0 cp, .slice A 0 c] 28) = w1 := ⟨_, rfl⟩
 have hb1 : Below w.heap.size w w1 := by rw [← hw1]; exact (Below.refl _ w).alloc (Nat.le_refl _) _
 have F1 : Full w1 w.heap.size 28 [.slice Ap 0 cp, .slice A 0 c] := by rw [← hw1]; exact Full.new w 28 _
 obtain ⟨r, hr⟩ : ∃ r, w.heap.size = r := ⟨_, rfl⟩
 rw [hr] at F1
 have z0 : w1.cell? ⟨r, 0, none⟩ = some (.slice Ap 0 cp) := F1.cell 0
 have z1 : w1.cell? ⟨r, 1, none⟩ = some (.slice A 0 c) := F1.cell 1
 have HO := Lib.hid (And.intro (h.on hb1) hb1)
 clear h F1 hb1
 go_enter Tryz.func35, Tryz.ntmps35
 go_upto_region 4 with fail
 go_loopw [19] (fun i wr => i = .int .i64 0 ∧ wr = w1) (fun _ _ => 0)
 case atStart => exact ⟨rfl, rfl⟩
 case round =>
   obtain ⟨rfl, hww⟩ := hrel
   rw [hww]
   clear hww
   go_wp2
   go_end0
   exact ⟨rfl, HO.out⟩
def pPrint (pl : List Itm) (L : List Tgt) : List UInt8 := if rBuild pl L then fFile pl L else []
theorem PBd.some {w : World} {B b : Nat} {l : List UInt8} (h : PBd w B b l) : ∃ p, PBv w B b p l := Or.elim h (fun z => ⟨_, z⟩) (fun z => ⟨_, z⟩)
theorem fTarget_ne (T : Tgt) : fTarget T ≠ [] := by unfold fTarget; simp [fThree]
theorem fFile_ne {pl : List Itm} {L : List Tgt} (h : ¬ (pl.length = 0 ∧ L.length = 0)) : fFile pl L ≠ [] := by
 unfold fFile fPlats
 by_cases hp : pl.length = 0
 · rw [if_pos hp]
   cases L with
   | nil => exact absurd ⟨hp, rfl⟩ h
   | cons T t =>
     rw [List.flatMap_cons]
     intro e
     have := fTarget_ne T
     simp at e
     exact this e.1
 · rw [if_neg hp]
   simp [fThree]
theorem right_pr {pl : List Itm} {tl : List (Tgt × (Nat → Value))} (h : rBuild pl (tl.map Prod.fst) = true) (hok : BOk pl tl) : BPr pl tl := by
 unfold rBuild at h
 simp only [Bool.and_eq_true] at h
 refine ⟨hok.npl, fun i hi => ⟨(hok.hpl i hi).1.2, (hok.hpl i hi).2.2⟩, hok.ntl, fun p hp => ?_⟩
 have hr : rTarget p.1 = true := List.all_eq_true.1 h.2.1 p.1 (List.mem_map_of_mem hp)
 have ho := hok.htl p hp
 unfold rTarget at hr
 simp only [Bool.and_eq_true] at hr
 obtain ⟨⟨⟨⟨⟨⟨_, hk⟩, hn⟩, _⟩, _⟩, _⟩, _⟩ := hr
 unfold rKind at hk
 unfold rNums at hn
 simp only [Bool.and_eq_true, decide_eq_true_eq] at hk hn
 exact ⟨fun i hi => ⟨(ho.rows i hi).1, fun x hx => ⟨((ho.rows i hi).2 x hx).1.2, ((ho.rows i hi).2 x hx).2.2⟩⟩, hk, ⟨by omega, by omega⟩, ⟨by omega, by omega⟩⟩
set_option maxHeartbeats 8000000 in
theorem print_any {w : World} {B : Nat} (hB : B ≤ w.heap.size) (h9 : 9 ≤ w.heap.size) (hLa : Laid w) (hIt : Ito w) {Ap : Option Addr} {np cp : Nat} {A : Option Addr} {n c : Nat} {pl : List Itm} {tl : List (Tgt × (Nat → Value))} (hR : RB w B Ap np cp A n c pl tl) (hok : BOk pl tl) (hlen : (pPrint pl (tl.map Prod.fst)).length ≤ 140737488355328) :
   Calls Tryz.prog 22 #[.agg #[.slice Ap np cp, .slice A n c]] w (StrB w (str (pPrint pl (tl.map Prod.fst)))) := by
 unfold StrB
 obtain ⟨w1, hw1⟩ : ∃ w1, w.alloc (.cells #[.slice Ap np cp, .slice A n c] 28) = w1 := ⟨_, rfl⟩
 have hb1 : Below w.heap.size w w1 := by rw [← hw1]; exact (Below.refl _ w).alloc (Nat.le_refl _) _
 have F1 : Full w1 w.heap.size 28 [.slice Ap np cp, .slice A n c] := by rw [← hw1]; exact Full.new w 28 _
 have RA := Right_any (hR.below hb1 hB) (Nat.le_trans hB hb1.size) hok
 unfold BoolB at RA
 obtain ⟨r, hr⟩ : ∃ r, w.heap.size = r := ⟨_, rfl⟩
 rw [hr] at F1
 have z0 : w1.cell? ⟨r, 0, none⟩ = some (.slice Ap np cp) := F1.cell 0
 have z1 : w1.cell? ⟨r, 1, none⟩ = some (.slice A n c) := F1.cell 1
 have HF1 := Lib.hid F1
 have HB1 := Lib.hid hb1
 unfold pPrint at hlen ⊢
 cases hrb : rBuild pl (tl.map Prod.fst) with
 | false =>
   rw [hrb] at RA
   rw [if_neg (by decide)]
   have RA := Lib.hid RA
   clear hrb F1 hb1 hlen hok hR hLa hIt
   go_enter Tryz.func22, Tryz.ntmps22
   go_wp2_with (first
     | (go_at_call 24; ((with_reducible refine RA.out.mono ?_); rintro en w2 ⟨rfl, hb2⟩; (have HB2 := Lib.hid (HB1.out.trans (hb2.mono HB1.out.size)))))
     | (fail "arm"))
   go_ret
   exact ⟨rfl, HB2.out⟩
 | true =>
   rw [hrb] at RA hlen
   rw [if_pos rfl] at hlen ⊢
   have hpr := right_pr hrb hok
   have RA := Lib.hid RA
   have HRB := Lib.hid hR
   have HLA := Lib.hid (And.intro hLa hIt)
   have HPR := Lib.hid hpr
   obtain ⟨S, hS⟩ : ∃ S, str (fFile pl (tl.map Prod.fst)) = S := ⟨_, rfl⟩
   rw [hS]
   have HS := Lib.hid (And.intro hS hlen)
   clear hrb F1 hb1 hlen hok hR hLa hIt hpr hS
   go_enter Tryz.func22, Tryz.ntmps22
   go_upto_region 4 with (first
     | (go_at_call 24; ((with_reducible refine RA.out.mono ?_); rintro en w2 ⟨rfl, hb2⟩; (have HB2 := Lib.hid (HB1.out.trans (hb2.mono HB1.out.size))); (have HF2 := Lib.hid (HF1.out.on hb2)); clear hb2))
     | (fail "arm"))
   obtain ⟨w3, hw3⟩ : ∃ w3, w2.alloc (.cells #[.pointer none, .slice none 0 0] 77) = w3 := ⟨_, rfl⟩
   have hb3 : Below w2.heap.size w2 w3 := by rw [← hw3]; exact (Below.refl _ w2).alloc (Nat.le_refl _) _
   have F3 : Full w3 w2.heap.size 77 [.pointer none, .slice none 0 0] := by rw [← hw3]; exact Full.new w2 77 _
   obtain ⟨b, hb⟩ : ∃ b, w2.heap.size = b := ⟨_, rfl⟩
   have hsz2 := HB2.out.size
   rw [hb] at F3
   rw [hw3, hb]
   have hwb : w.heap.size ≤ b := by omega
   have HB3 := Lib.hid (HB2.out.trans (hb3.mono HB2.out.size))
   have y0 : w3.cell? ⟨r, 0, none⟩ = some (.slice Ap np cp) := (HF2.out.on hb3).cell 0
   have y1 : w3.cell? ⟨r, 1, none⟩ = some (.slice A n c) := (HF2.out.on hb3).cell 1
   have hb3s : b ≤ w3.heap.size := by have := F3.lt; omega
   have HF3 := Lib.hid F3
   have HR3 := Lib.hid (HRB.out.below HB3.out hB)
   have HLA3 := Lib.hid (And.intro (HLA.out.1.on HB3.out) (HLA.out.2.below HB3.out h9))
   clear F3 hb3 hw3 hb
   by_cases he : pl.length = 0 ∧ (tl.map Prod.fst).length = 0
   · have hnp : np = 0 := by rw [← HR3.out.hnp]; exact he.1
     have hn : n = 0 := by rw [← HR3.out.hn]; simpa using he.2
     subst hnp hn
     have hs0 : S = ⟨#[]⟩ := by
       rw [← HS.out.1]
       have h1 : tl = [] := by simpa using he.2
       have h2 : pl = [] := List.eq_nil_of_length_eq_zero he.1
       rw [h1, h2]
       rfl
     subst hs0
     have FN := Lib.hid (file_none HF3.out (Ap := Ap) (cp := cp) (A := A) (c := c))
     clear he
     go_wp2_with (first
       | (go_at_call 35; ((with_reducible refine FN.out.mono ?_); rintro en w4 ⟨rfl, hF4, hb4⟩; (have HSN := Lib.hid (string_none (B := w.heap.size) hF4)); (have HB4 := Lib.hid (HB3.out.trans (hb4.mono HB3.out.size))); clear hF4 hb4))
       | (go_at_call 36; ((with_reducible refine HSN.out.mono ?_); rintro en w5 ⟨rfl, hb5⟩; (have HB5 := Lib.hid (HB4.out.trans hb5)); clear hb5))
       | (fail "arm"))
     go_ret
     exact ⟨rfl, HB5.out⟩
   · have hne := fFile_ne he
     have FP := file_pr (w := w3) (B := b) (b := b) (l0 := []) (.inl ⟨Nat.le_refl _, _, HF3.out, rfl, .inl ⟨rfl, rfl⟩⟩) hb3s (by omega) (by omega) HLA3.out.1 HLA3.out.2 HR3.out HPR.out (by rw [List.length_nil, Nat.zero_add]; exact HS.out.2)
     unfold LnOut at FP
     rw [List.nil_append] at FP
     have FP := Lib.hid FP
     have HNE := Lib.hid hne
     clear he hne
     go_wp2_with (first
       | (go_at_call 35; ((with_reducible refine FP.out.mono ?_); rintro en w4 ⟨rfl, hP4, hb4, _⟩; (obtain ⟨p4, hP4⟩ := PBd.some hP4); (have hss := string_some hP4 HNE.out); (rw [HS.out.1] at hss); (have HSS := Lib.hid hss); (have HB4 := Lib.hid (HB3.out.trans (hb4.mono hwb))); clear hss hP4 hb4))
       | (go_at_call 36; ((with_reducible refine HSS.out.mono ?_); rintro en w5 ⟨rfl, hb5⟩; (have HB5 := Lib.hid (HB4.out.trans (hb5.mono hwb))); clear hb5))
       | (fail "arm"))
     go_ret
     exact ⟨rfl, HB5.out⟩
theorem fields52 : Tryz.prog.underlying 52 = some (.struct (Tryz.prog.fieldsOf 52)) := by
 have h := Tryz.underlying52
 unfold Program.fieldsOf
 rw [h]
theorem list52 : (Tryz.prog.fieldsOf 52).toList = [{ name := "Text", type := 9, offset := 0, embedded := false, tag := "", pkgPath := "", byteOffset := 0 }, { name := "Glob", type := 4, offset := 1, embedded := false, tag := "", pkgPath := "", byteOffset := 16 }, { name := "Platform", type := 9, offset := 2, embedded := false, tag := "", pkgPath := "", byteOffset := 24 }, { name := "Line", type := 3, offset := 3, embedded := false, tag := "", pkgPath := "", byteOffset := 40 }] := by
 have h := Tryz.underlying52
 unfold Program.fieldsOf
 rw [h]
theorem stood52 : Tryz.prog.stoodInHeld 52 = false := by kernel_rfl
theorem guard52 : Tryz.prog.eqGuardType Tryz.prog.depth 52 = false := by kernel_rfl
theorem neq52 (w : World) (a0 b0 : ByteArray) (a1 b1 : Bool) (a2 b2 : ByteArray) (a3 b3 : Int) :
   (binOp .neq 52 (.agg #[.string a0, .bool a1, .string a2, .int .i64 a3]) (.agg #[.string b0, .bool b1, .string b2, .int .i64 b3])).run Tryz.prog w = .ok (.bool (!(a0.toList == b0.toList && a1 == b1 && a2.toList == b2.toList && a3 == b3))) w := by
 rw [run_neq_struct, show (10000 : Nat) = 9999 + 1 from rfl, run_equalIn_struct w 9999 52 _ _ fields52 stood52, list52]
 have i9 := Tryz.isAgg9
 have i4 := Tryz.isAgg4
 have i3 := Tryz.isAgg3
 have q9 : ∀ d (a b : ByteArray) W, (Op.equalIn (d + 1) 9 (.string a) (.string b)).run Tryz.prog W = .ok (a.toList == b.toList) W := fun d a b W => run_equalIn_string W d 9 a b Tryz.underlying9
 have q4 : ∀ d (a b : Bool) W, (Op.equalIn (d + 1) 4 (.bool a) (.bool b)).run Tryz.prog W = .ok (a == b) W := fun d a b W => run_equalIn_bool W d 4 a b Tryz.underlying4
 have q3 : ∀ d (a b : Int) W, (Op.equalIn (d + 1) 3 (.int .i64 a) (.int .i64 b)).run Tryz.prog W = .ok (a == b) W := fun d a b W => run_equalIn_int W d 3 .i64 .i64 a b Tryz.underlying3
 obtain ⟨z0, h0⟩ : ∃ z, (a0.toList == b0.toList) = z := ⟨_, rfl⟩
 obtain ⟨z1, h1⟩ : ∃ z, (a1 == b1) = z := ⟨_, rfl⟩
 obtain ⟨z2, h2⟩ : ∃ z, (a2.toList == b2.toList) = z := ⟨_, rfl⟩
 obtain ⟨z3, h3⟩ : ∃ z, (a3 == b3) = z := ⟨_, rfl⟩
 rw [h0, h1, h2, h3]
 cases z0 <;> cases z1 <;> cases z2 <;> cases z3 <;> simp [Op.eqFields, Go.part, i9, i4, i3, q9 9998, q4 9998, q3 9998, h0, h1, h2, h3, Result.andThen]
def itmEq (i j : Itm) : Bool := i.tx == j.tx && i.gl == j.gl && i.pl == j.pl && ((i.ln : Int) == (j.ln : Int))
def sameI : List Itm → List Itm → Bool
 | [], [] => true
 | x :: t, y :: s => itmEq x y && sameI t s
 | _, _ => false
theorem sameI_len : ∀ (l m : List Itm), l.length ≠ m.length → sameI l m = false
 | [], [], h => absurd rfl h
 | [], y :: s, _ => rfl
 | x :: t, [], _ => rfl
 | x :: t, y :: s, h => by rw [sameI, sameI_len t s (by simpa using h), Bool.and_false]
set_option maxHeartbeats 4000000 in
theorem sameItems_any {w : World} {B c c' : Nat} {A A' : Option Addr} {l m : List Itm} (hA : Itms w B A c l) (hA' : Itms w B A' c' m) (hB : B ≤ w.heap.size) (hl : l.length ≤ maxLen) (_hm : m.length ≤ maxLen) :
   Calls Tryz.prog 44 #[.slice A l.length c, .slice A' m.length c'] w (BoolB w (sameI l m)) := by
 unfold BoolB
 unfold maxLen at hl _hm
 have hcap := hA.2.1
 have hcap' := hA'.2.1
 by_cases hlm : l.length = m.length
 · obtain ⟨n, hn⟩ : ∃ n, l.length = n := ⟨_, rfl⟩
   rw [← hlm] at hcap' ⊢
   rw [hn] at hcap hcap' hlm hl ⊢
   obtain ⟨R, hR⟩ : ∃ R, sameI l m = R := ⟨_, rfl⟩
   rw [hR]
   have HN := Lib.hid (And.intro hn hlm.symm)
   have HS := Lib.hid (show sameI (l.drop 0) (m.drop 0) = R from hR)
   have hne : ((n : Int) != (n : Int)) = false := by simp
   clear hn hlm hR _hm
   go_enter Tryz.func44, Tryz.ntmps44
   go_upto_region 4 with fail
   go_loopw [5] (fun i wr => ∃ k : Nat, i = .int .i64 (k : Int) ∧ k ≤ n ∧ Hid (sameI (l.drop k) (m.drop k) = R) ∧ Below w.heap.size w wr) (fun i _ => n - (intOf i).toNat)
   case atStart => exact ⟨0, rfl, Nat.zero_le _, HS, Below.refl _ _⟩
   case round =>
     obtain ⟨k, rfl, hk, HR, hBw⟩ := hrel
     have hi0 : (0 : Int) ≤ (k : Int) := Int.natCast_nonneg _
     by_cases hlt : k < n
     · have hi1 : (k : Int) < (n : Int) := by omega
       have hdd : decide ((k : Int) < (n : Int)) = true := by simp; omega
       have hkl : k < l.length := by have := HN.out.1; omega
       have hkm : k < m.length := by have := HN.out.2; omega
       obtain ⟨ad, rfl, _, x0, x1, x2, x3⟩ := (show Itms wr.drew B A c l from Row.below hA (Below.drew hBw) hB).at_ hkl
       obtain ⟨ae, rfl, _, y0, y1, y2, y3⟩ := (show Itms wr.drew B A' c' m from Row.below hA' (Below.drew hBw) hB).at_ hkm
       have hRR := HR.out
       rw [List.drop_eq_getElem_cons hkl, List.drop_eq_getElem_cons hkm, sameI] at hRR
       have NQ := neq52 wr.drew (str l[k].tx) (str m[k].tx) l[k].gl m[k].gl (str l[k].pl) (str m[k].pl) (l[k].ln : Int) (m[k].ln : Int)
       have eq : ((str l[k].tx).toList == (str m[k].tx).toList && l[k].gl == m[k].gl && (str l[k].pl).toList == (str m[k].pl).toList && (l[k].ln : Int) == (m[k].ln : Int)) = itmEq l[k] m[k] := by
         unfold itmEq
         rw [Lib.toList_data, Lib.toList_data, Lib.toList_data, Lib.toList_data, str_data, str_data, str_data, str_data]
       rw [eq] at NQ
       obtain ⟨q, hq⟩ : ∃ q, itmEq l[k] m[k] = q := ⟨_, rfl⟩
       rw [hq] at hRR eq
       clear hq NQ
       obtain ⟨a0, ha0⟩ : ∃ y, str l[k].tx = y := ⟨_, rfl⟩
       obtain ⟨a1, ha1⟩ : ∃ y, l[k].gl = y := ⟨_, rfl⟩
       obtain ⟨a2, ha2⟩ : ∃ y, str l[k].pl = y := ⟨_, rfl⟩
       obtain ⟨a3, ha3⟩ : ∃ y : Nat, l[k].ln = y := ⟨_, rfl⟩
       obtain ⟨b0, hb0⟩ : ∃ y, str m[k].tx = y := ⟨_, rfl⟩
       obtain ⟨b1, hb1⟩ : ∃ y, m[k].gl = y := ⟨_, rfl⟩
       obtain ⟨b2, hb2⟩ : ∃ y, str m[k].pl = y := ⟨_, rfl⟩
       obtain ⟨b3, hb3⟩ : ∃ y : Nat, m[k].ln = y := ⟨_, rfl⟩
       rw [ha0] at x0 eq
       rw [ha1] at x1 eq
       rw [ha2] at x2 eq
       rw [ha3] at x3 eq
       rw [hb0] at y0 eq
       rw [hb1] at y1 eq
       rw [hb2] at y2 eq
       rw [hb3] at y3 eq
       have HRR := Lib.hid hRR
       have HB := Lib.hid (Below.drew hBw)
       have eg : ∀ x y xs ys W, (eqGuard .neq 52 x y (.agg xs) (.agg ys)).run Tryz.prog W = .ok () W := fun x y xs ys W => run_eqGuard_agg W .neq 52 x y xs ys guard52
       have hc1 : n ≤ c := hcap
       have hc2 : n ≤ c' := hcap'
       clear ha0 ha1 ha2 ha3 hb0 hb1 hb2 hb3 hRR HR
       go_upto_region 6 with fail
       cases q with
       | true =>
         simp only [Bool.and_eq_true, beq_iff_eq] at eq
         obtain ⟨⟨⟨f0, f1⟩, f2⟩, f3⟩ := eq
         go_region
         all_goals
           go_wp2
           go_roundw
           case rel => exact ⟨k + 1, by simp, hlt, Lib.hid (by have := HRR.out; rw [Bool.true_and] at this; exact this), HB.out⟩
           case measure => show n - ((k : Int) + 1).toNat < n - (k : Int).toNat; omega
       | false =>
         by_cases f0 : a0.toList = b0.toList
         · by_cases f1 : a1 = b1
           · by_cases f2 : a2.toList = b2.toList
             · have f3 : ¬ (a3 : Int) = (b3 : Int) := by
                 intro f3
                 rw [f0, f1, f2, f3] at eq
                 simp at eq
               clear eq
               go_region
               all_goals
                 go_wp2
                 go_ret
                 have e := HRR.out
                 rw [Bool.false_and] at e
                 subst e
                 exact ⟨rfl, HB.out⟩
             · clear eq
               go_region
               all_goals
                 go_wp2
                 go_ret
                 have e := HRR.out
                 rw [Bool.false_and] at e
                 subst e
                 exact ⟨rfl, HB.out⟩
           · clear eq
             go_region
             all_goals
               go_wp2
               go_ret
               have e := HRR.out
               rw [Bool.false_and] at e
               subst e
               exact ⟨rfl, HB.out⟩
         · clear eq
           go_region
           all_goals
             go_wp2
             go_ret
             have e := HRR.out
             rw [Bool.false_and] at e
             subst e
             exact ⟨rfl, HB.out⟩
     · obtain rfl : k = n := by omega
       have hdd : decide ((k : Int) < (k : Int)) = false := by simp
       have e : R = true := by
         have q := HR.out
         rw [List.drop_eq_nil_of_le (by rw [HN.out.1]; exact Nat.le_refl _), List.drop_eq_nil_of_le (by rw [HN.out.2]; exact Nat.le_refl _)] at q
         exact q.symm
       subst e
       have HB := Lib.hid hBw
       go_wp2
       go_ret
       exact ⟨rfl, HB.out⟩
 · rw [sameI_len l m hlm]
   obtain ⟨n, hn⟩ : ∃ n, l.length = n := ⟨_, rfl⟩
   obtain ⟨n', hn'⟩ : ∃ n, m.length = n := ⟨_, rfl⟩
   rw [hn, hn'] at hlm ⊢
   have hne : ((n : Int) != (n' : Int)) = true := by simp; omega
   have HB := Lib.hid (Below.refl w.heap.size w)
   clear hn hn' hA hA' hcap hcap' hl _hm
   go_enter Tryz.func44, Tryz.ntmps44
   go_wp2
   go_ret
   exact ⟨rfl, HB.out⟩
end Go.Proofs.YtcjoiiaankngjaaGreatDoor
