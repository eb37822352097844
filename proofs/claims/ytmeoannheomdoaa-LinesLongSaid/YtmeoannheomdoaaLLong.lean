/- LinesLong: lists whose remaining lines are too many have one hunk; just below the limit common lines in the middle are found. For all arguments. -/
import Derived.Test.YtmeoannheomdoaaMake
import Derived.Test.YtmeoannheomdoaaSane
namespace Go.Proofs.Ytmeoannheomdoaa.llong
open Go.ChangeShapes Go.WideShapes Go.ChangeAt Go.RowKit

theorem make_mem (mark : ByteArray) (many f e : Nat) (hm : mark.size ≤ 10) : ∀ x ∈ makeL mark many f e, x.size ≤ maxLen := by
  intro x hx
  have h : x.size ≤ 10 := by
    unfold makeL at hx
    rcases List.mem_append.1 hx with h | h
    · rw [List.eq_of_mem_replicate h]; decide
    · rcases List.mem_append.1 h with h | h
      · unfold coreL at h
        obtain ⟨k, _, rfl⟩ := List.mem_map.1 h
        split
        · decide
        · exact hm
      · rw [List.eq_of_mem_replicate h]; decide
  unfold maxLen; omega
theorem make_len (mark : ByteArray) (many f e : Nat) : (makeL mark many f e).length = f + (many + e) := by unfold makeL coreL; simp
theorem hk1 (W : World) (f : Nat) : Hks (W.alloc (.cells #[.int .i64 (f : Int), .int .i64 ((f : Int) + 2001), .int .i64 (f : Int), .int .i64 ((f : Int) + 2000)] 40)) (W.heap.size + 1) (some ⟨W.heap.size, 0, none⟩) 1 [⟨f, f + 2001, f, f + 2000⟩] := lit_row W 40 4 1 (hksC [⟨f, f + 2001, f, f + 2000⟩]) rfl
theorem hk2 (W : World) (f : Nat) : Hks (W.alloc (.cells #[.int .i64 (f : Int), .int .i64 ((f : Int) + 100), .int .i64 (f : Int), .int .i64 ((f : Int) + 50), .int .i64 ((f : Int) + 101), .int .i64 ((f : Int) + 200), .int .i64 ((f : Int) + 51), .int .i64 ((f : Int) + 100)] 40)) (W.heap.size + 1) (some ⟨W.heap.size, 0, none⟩) 2 [⟨f, f + 100, f, f + 50⟩, ⟨f + 101, f + 200, f + 51, f + 100⟩] := lit_row W 40 4 2 (hksC [⟨f, f + 100, f, f + 50⟩, ⟨f + 101, f + 200, f + 51, f + 100⟩]) rfl
theorem diff3 (A B : Option Addr) (a b : List ByteArray) (L : List Hk) (c d n : Nat) (w : World) (hA : Strs w w.heap.size A c a) (hB : Strs w w.heap.size B d b) (ha : a.length ≤ 100000) (hb : b.length ≤ 100000) (hza : ∀ s ∈ a, s.size ≤ maxLen) (hzb : ∀ s ∈ b, s.size ≤ maxLen) (h : diff a b = L) (hn : n = L.length) :
    Calls Try.prog 23 #[.slice A a.length c, .slice B b.length d] w (HksOut w n L) := by
  subst hn
  have := diff_any2 w.heap.size A B a b c d w hA hB (Nat.le_refl _) (by omega) (by omega) hza hzb
  rw [h] at this
  exact this.mono fun _ _ ⟨A, c, h1, h2, h3⟩ => ⟨A, c, h1, h2.1, h3⟩
theorem hks_on {w w' : World} {A : Option Addr} {c : Nat} {L : List Hk} (h : Hks w w.heap.size A c L) (hb : Below w.heap.size w w') : Hks w' w'.heap.size A c L := Row.on h hb
theorem strs_own {w w' : World} {A : Option Addr} {c : Nat} {R : List ByteArray} (h : w'.ownsRow w.heap.size 9 1 (.slice A R.length c) R.length (strC R)) : Strs w' w'.heap.size A c R := (Strs.own h).2
set_option maxRecDepth 100000 in
set_option maxHeartbeats 4000000 in
theorem walk (x y : Int) (w : World) (hx : 0 ≤ x ∧ x ≤ 255) (hy : 0 ≤ y ∧ y ≤ 255) : Calls Try.prog 13 #[.int .u8 x, .int .u8 y] w (BoolB w true) := by
  obtain ⟨f, hf⟩ : ∃ f : Nat, (x % 9).toNat = f := ⟨_, rfl⟩
  obtain ⟨e, he⟩ : ∃ e : Nat, (y % 9).toNat = e := ⟨_, rfl⟩
  have hf9 : f ≤ 8 := by omega
  have he9 : e ≤ 8 := by omega
  have hx9 : x % 9 = (f : Int) := by omega
  have hy9 : y % 9 = (e : Int) := by omega
  have S := Lib.hid (fun W => sane_any W)
  have m1 := fun (gf ge : Nat) (W : World) (cf : W.cell? ⟨gf, 0, none⟩ = some (.int .i64 f)) (ce : W.cell? ⟨ge, 0, none⟩ = some (.int .i64 e)) => make_any aS 2001 f e gf ge W (by omega) (by omega) (by omega) cf ce
  have m2 := fun (gf ge : Nat) (W : World) (cf : W.cell? ⟨gf, 0, none⟩ = some (.int .i64 f)) (ce : W.cell? ⟨ge, 0, none⟩ = some (.int .i64 e)) => make_any bS 2000 f e gf ge W (by omega) (by omega) (by omega) cf ce
  have m3 := fun (gf ge : Nat) (W : World) (cf : W.cell? ⟨gf, 0, none⟩ = some (.int .i64 f)) (ce : W.cell? ⟨ge, 0, none⟩ = some (.int .i64 e)) => make_any aS 200 f e gf ge W (by omega) (by omega) (by omega) cf ce
  have m4 := fun (gf ge : Nat) (W : World) (cf : W.cell? ⟨gf, 0, none⟩ = some (.int .i64 f)) (ce : W.cell? ⟨ge, 0, none⟩ = some (.int .i64 e)) => make_any bS 100 f e gf ge W (by omega) (by omega) (by omega) cf ce
  have d1 := fun (W : World) (A B : Option Addr) (c d : Nat) (hA : Strs W W.heap.size A c (makeL aS 2001 f e)) (hB : Strs W W.heap.size B d (makeL bS 2000 f e)) =>
    diff3 A B _ _ _ c d 1 W hA hB (by rw [make_len]; omega) (by rw [make_len]; omega) (make_mem _ _ _ _ (by decide)) (make_mem _ _ _ _ (by decide)) (diff_long f e) rfl
  have d2 := fun (W : World) (A B : Option Addr) (c d : Nat) (hA : Strs W W.heap.size A c (makeL aS 200 f e)) (hB : Strs W W.heap.size B d (makeL bS 100 f e)) =>
    diff3 A B _ _ _ c d 2 W hA hB (by rw [make_len]; omega) (by rw [make_len]; omega) (make_mem _ _ _ _ (by decide)) (make_mem _ _ _ _ (by decide)) (diff_short f e) rfl
  obtain ⟨L1, HL1⟩ : ∃ L, Hid (makeL aS 2001 f e = L) := ⟨_, Lib.hid rfl⟩
  obtain ⟨L2, HL2⟩ : ∃ L, Hid (makeL bS 2000 f e = L) := ⟨_, Lib.hid rfl⟩
  obtain ⟨L3, HL3⟩ : ∃ L, Hid (makeL aS 200 f e = L) := ⟨_, Lib.hid rfl⟩
  obtain ⟨L4, HL4⟩ : ∃ L, Hid (makeL bS 100 f e = L) := ⟨_, Lib.hid rfl⟩
  rw [HL1.out] at m1 d1
  rw [HL2.out] at m2 d1
  rw [HL3.out] at m3 d2
  rw [HL4.out] at m4 d2
  have M1 := Lib.hid (fun (gf ge : Nat) (W : World) (cf : W.cell? ⟨gf, 0, none⟩ = some (.int .i64 f)) (ce : W.cell? ⟨ge, 0, none⟩ = some (.int .i64 e)) => (show Calls Try.prog 34 #[.string ⟨#[97]⟩, .int .i64 2001, .pointer (some ⟨gf, 0, none⟩), .pointer (some ⟨ge, 0, none⟩)] W (StrsOut W L1) from m1 gf ge W cf ce))
  have M2 := Lib.hid (fun (gf ge : Nat) (W : World) (cf : W.cell? ⟨gf, 0, none⟩ = some (.int .i64 f)) (ce : W.cell? ⟨ge, 0, none⟩ = some (.int .i64 e)) => (show Calls Try.prog 34 #[.string ⟨#[98]⟩, .int .i64 2000, .pointer (some ⟨gf, 0, none⟩), .pointer (some ⟨ge, 0, none⟩)] W (StrsOut W L2) from m2 gf ge W cf ce))
  have M3 := Lib.hid (fun (gf ge : Nat) (W : World) (cf : W.cell? ⟨gf, 0, none⟩ = some (.int .i64 f)) (ce : W.cell? ⟨ge, 0, none⟩ = some (.int .i64 e)) => (show Calls Try.prog 34 #[.string ⟨#[97]⟩, .int .i64 200, .pointer (some ⟨gf, 0, none⟩), .pointer (some ⟨ge, 0, none⟩)] W (StrsOut W L3) from m3 gf ge W cf ce))
  have M4 := Lib.hid (fun (gf ge : Nat) (W : World) (cf : W.cell? ⟨gf, 0, none⟩ = some (.int .i64 f)) (ce : W.cell? ⟨ge, 0, none⟩ = some (.int .i64 e)) => (show Calls Try.prog 34 #[.string ⟨#[98]⟩, .int .i64 100, .pointer (some ⟨gf, 0, none⟩), .pointer (some ⟨ge, 0, none⟩)] W (StrsOut W L4) from m4 gf ge W cf ce))
  have D1 := Lib.hid d1
  have D2 := Lib.hid d2
  have G1 := Lib.hid (fun (W : World) (A : Option Addr) (c : Nat) (h : Hks W W.heap.size A c [⟨f, f + 2001, f, f + 2000⟩]) =>
    (show Calls Try.prog 22 #[.slice A 1 c, .slice (some ⟨W.heap.size, 0, none⟩) 1 1] (W.alloc (.cells #[.int .i64 (f : Int), .int .i64 ((f : Int) + 2001), .int .i64 (f : Int), .int .i64 ((f : Int) + 2000)] 40)) (BoolB (W.alloc (.cells #[.int .i64 (f : Int), .int .i64 ((f : Int) + 2001), .int .i64 (f : Int), .int .i64 ((f : Int) + 2000)] 40)) true) from
      hunks2 (W.heap.size + 1) 1 1 A _ _ c 1 _ (Row.more (Row.alloc h (Nat.le_refl _) _) (Nat.le_succ _)) (hk1 W f) rfl rfl (by simp)))
  have G2 := Lib.hid (fun (W : World) (A : Option Addr) (c : Nat) (h : Hks W W.heap.size A c [⟨f, f + 100, f, f + 50⟩, ⟨f + 101, f + 200, f + 51, f + 100⟩]) =>
    (show Calls Try.prog 22 #[.slice A 2 c, .slice (some ⟨W.heap.size, 0, none⟩) 2 2] (W.alloc (.cells #[.int .i64 (f : Int), .int .i64 ((f : Int) + 100), .int .i64 (f : Int), .int .i64 ((f : Int) + 50), .int .i64 ((f : Int) + 101), .int .i64 ((f : Int) + 200), .int .i64 ((f : Int) + 51), .int .i64 ((f : Int) + 100)] 40)) (BoolB (W.alloc (.cells #[.int .i64 (f : Int), .int .i64 ((f : Int) + 100), .int .i64 (f : Int), .int .i64 ((f : Int) + 50), .int .i64 ((f : Int) + 101), .int .i64 ((f : Int) + 200), .int .i64 ((f : Int) + 51), .int .i64 ((f : Int) + 100)] 40)) true) from
      hunks2 (W.heap.size + 1) 2 2 A _ _ c 2 _ (Row.more (Row.alloc h (Nat.le_refl _) _) (Nat.le_succ _)) (hk2 W f) rfl rfl (by simp)))
  clear hf he m1 m2 m3 m4 d1 d2
  go_enter Try.func13, Try.ntmps13
  go_wp2_with (go_at_call 15; ((with_reducible refine (S.out _).mono ?_); rintro e' w1 ⟨rfl, hb1⟩))
  have F1 := (Full.new w1 3 [.int .i64 (f : Int)]).alloc (.cells #[.int .i64 (e : Int)] 3)
  have F2 := Full.new (w1.alloc (.cells #[.int .i64 (f : Int)] 3)) 3 [.int .i64 (e : Int)]
  have hw2 : Below w.heap.size w ((w1.alloc (.cells #[.int .i64 (f : Int)] 3)).alloc (.cells #[.int .i64 (e : Int)] 3)) := (hb1.alloc hb1.size _).alloc (Nat.le_trans hb1.size (by simp)) _
  rw [World.size_alloc] at F2
  obtain ⟨w2, hww⟩ : ∃ w2, ((w1.alloc (.cells #[.int .i64 (f : Int)] 3)).alloc (.cells #[.int .i64 (e : Int)] 3)) = w2 := ⟨_, rfl⟩
  change Full ((w1.alloc (.cells #[.int .i64 (f : Int)] 3)).alloc (.cells #[.int .i64 (e : Int)] 3)) _ _ _ at F1 F2
  rw [hww] at F1 F2 hw2 ⊢
  obtain ⟨g, hg⟩ : ∃ g, w1.heap.size = g := ⟨_, rfl⟩
  rw [hg] at F1 F2 ⊢
  clear hww hg
  have hB := Lib.hid hw2
  have HF1 := Lib.hid F1
  have HF2 := Lib.hid F2
  have c1 : w2.cell? ⟨g, 0, none⟩ = some (.int .i64 f) := F1.cell 0
  have c2 : w2.cell? ⟨g + 1, 0, none⟩ = some (.int .i64 e) := F2.cell 0
  clear F1 F2 hw2 hb1
  go_wp2_with (first
    | (go_at_call 34; ((with_reducible refine (M1.out _ _ _ c1 c2).mono ?_); rintro e' w3 ⟨A1, k1, rfl, ho, hb⟩); (have hs1 := strs_own ho); (have hB3 := Lib.hid (Below.then_ hB.out hb)); (have HF13 := Lib.hid (HF1.out.on hb)); (have HF23 := Lib.hid (HF2.out.on hb)); (have c1 : w3.cell? ⟨g, 0, none⟩ = some (.int .i64 f) := HF13.out.cell 0); (have c2 : w3.cell? ⟨g + 1, 0, none⟩ = some (.int .i64 e) := HF23.out.cell 0))
    | (go_at_call 34; ((with_reducible refine (M2.out _ _ _ c1 c2).mono ?_); rintro e' w4 ⟨A2, k2, rfl, ho, hb⟩); (have hs2 := strs_own ho); (have hs1 := strs_on hs1 hb); (have hB4 := Lib.hid (Below.then_ hB3.out hb)); (have HF14 := Lib.hid (HF13.out.on hb)); (have HF24 := Lib.hid (HF23.out.on hb)))
    | (go_at_call 23; ((with_reducible refine (D1.out _ _ _ _ _ hs1 hs2).mono ?_); rintro e' w5 ⟨A5, k5, rfl, hh1, hb⟩); (have hB5 := Lib.hid (Below.then_ hB4.out hb)); (have HF15 := Lib.hid (HF14.out.on hb)); (have HF25 := Lib.hid (HF24.out.on hb)); (have c1 : w5.cell? ⟨g, 0, none⟩ = some (.int .i64 f) := HF15.out.cell 0); (have c2 : w5.cell? ⟨g + 1, 0, none⟩ = some (.int .i64 e) := HF25.out.cell 0))
    | (go_at_call 34; ((with_reducible refine (M3.out _ _ _ c1 c2).mono ?_); rintro e' w6 ⟨A3, k3, rfl, ho, hb⟩); (have hs3 := strs_own ho); (have hh1 := hks_on hh1 hb); (have hB6 := Lib.hid (Below.then_ hB5.out hb)); (have HF16 := Lib.hid (HF15.out.on hb)); (have HF26 := Lib.hid (HF25.out.on hb)); (have c1 : w6.cell? ⟨g, 0, none⟩ = some (.int .i64 f) := HF16.out.cell 0); (have c2 : w6.cell? ⟨g + 1, 0, none⟩ = some (.int .i64 e) := HF26.out.cell 0))
    | (go_at_call 34; ((with_reducible refine (M4.out _ _ _ c1 c2).mono ?_); rintro e' w7 ⟨A4, k4, rfl, ho, hb⟩); (have hs4 := strs_own ho); (have hs3 := strs_on hs3 hb); (have hh1 := hks_on hh1 hb); (have hB7 := Lib.hid (Below.then_ hB6.out hb)); (have HF17 := Lib.hid (HF16.out.on hb)))
    | (go_at_call 23; ((with_reducible refine (D2.out _ _ _ _ _ hs3 hs4).mono ?_); rintro e' w8 ⟨A8, k8, rfl, hh2, hb⟩); (have hh1 := hks_on hh1 hb); (have hB8 := Lib.hid (Below.then_ hB7.out hb)); (have HF18 := Lib.hid (HF17.out.on hb)); (have c1 : w8.cell? ⟨g, 0, none⟩ = some (.int .i64 f) := HF18.out.cell 0))
    | (go_at_call 22; ((with_reducible refine (G1.out _ _ _ hh1).mono ?_); rintro e' w9 ⟨rfl, hb⟩); (have hb2 := Below.then_ ((Below.refl _ w8).alloc (Nat.le_refl _) _) hb); (have hh2 := hks_on hh2 hb2); (have hB9 := Lib.hid (Below.then_ hB8.out hb2)); (have HF19 := Lib.hid (HF18.out.on hb2)); (have c1 : w9.cell? ⟨g, 0, none⟩ = some (.int .i64 f) := HF19.out.cell 0))
    | (go_at_call 22; ((with_reducible refine (G2.out _ _ _ hh2).mono ?_); rintro e' w10 ⟨rfl, hb⟩); (have hb3 := Below.then_ ((Below.refl _ w9).alloc (Nat.le_refl _) _) hb); (have hB10 := Lib.hid (Below.then_ hB9.out hb3))))
  go_ret
  exact ⟨rfl, hB10.out⟩

theorem contract (H : Type) (enc : TypeId × Value → H) (W : World) (base : Nat) (args : Array Value) (ds gs : List (DataW H)) (before : List MemPlace)
    (hval : ∀ (j : Nat) t v, Try.f13.params[j]? = some t → args[j]? = some v → Value.okWide Try.prog W .any base t v)
    (hW : DataW.Whole enc Try.prog Try.f13.params.toList Rows.linesLongSpec.vars false W args.toList ds gs before) :
    Calls Try.prog 13 args W fun e W' => ∃ v, e = .returned v ∧ Rows.linesLongSpec.post enc Try.prog Try.f13 false true false false W args v W' := by
  have hW' := hW
  obtain ⟨p, q, hA0, hV, rfl, hfz, hnd⟩ := hW
  have hA : DataW.TrodAll enc Try.prog W 0 (fun _ => true) true Try.f13.params.toList args.toList ds p := hA0
  rw [Try.params13] at hA hval
  obtain ⟨v0, vs0, d0, ds0, p0, q0, e0, rfl, rfl, h0, r0⟩ := trodAll_cons hA
  obtain ⟨v1, vs1, d1, ds1, p1, q1, e1, rfl, rfl, h1, r1⟩ := trodAll_cons r0
  obtain ⟨rfl, rfl, rfl⟩ := trodAll_nil r1
  obtain rfl : args = #[v0, v1] := by cases args; simp_all
  obtain ⟨rfl, rfl⟩ := trodVars_none hV
  obtain ⟨x, rfl, rfl, rfl, hx⟩ := open_int Try.underlying5 (hval 0 5 v0 rfl rfl) h0
  obtain ⟨y, rfl, rfl, rfl, hy⟩ := open_int Try.underlying5 (hval 1 5 v1 rfl rfl) h1
  refine (walk x y W (bd_u8 hx) (bd_u8 hy)).mono fun e W' ⟨he, hb⟩ => ⟨_, he, law_post rfl rfl ?_ rfl rfl rfl hW' hb⟩
  rw [Try.params13]
  intro t ht
  have ht' : t = 5 ∨ t = 5 := by simpa using ht
  rcases ht' with rfl | rfl <;> exact ⟨by kernel_rfl, of_decide_eq_true (by kernel_rfl)⟩

set_option maxRecDepth 100000 in
theorem lifted (os : Os) (started : os.Started) (H : Type) (enc : TypeId × Value → H) :
    ReturnsInHanded {} Try.checked os 13 .any (Rows.linesLongSpec.pre6 enc Try.prog Try.f13 Rows.linesLongRow.domain false) (Rows.linesLongSpec.post enc Try.prog Try.f13 false true false false) := by
  refine returnsInHanded_of_change (C := Try.checked) ownKnob_none started (by kernel_rfl) Try.func13
    (ChangeSpec.witness6 (enc := enc) (C := Try.checked) false ⟨#[], #[.int .u8 0, .int .u8 0], []⟩ 8 (by kernel_rfl) (by kernel_rfl) (by kernel_rfl) (by kernel_rfl)) ?_
  intro W base args ds gs before hval hW _ _
  exact contract H enc W base args ds gs before hval hW

theorem proved : Rows.LinesLongSaid :=
  OpenClaim.holds_of_wide 13 Try.f13 rfl rfl rfl rfl rfl rfl rfl ⟨rfl, rfl, rfl, rfl, rfl⟩ rfl rfl rfl rfl rfl (by kernel_rfl) Try.func13 (by kernel_rfl)
    (of_decide_eq_true (by kernel_rfl)) (by unfold Func.isWrapper; first | (rw [if_pos (by decide +kernel)]; kernel_rfl) | (rw [if_neg (by decide +kernel)]; exact ⟨rfl, rfl⟩))
    (fun os started H enc _ => lifted os started H enc)

end Go.Proofs.Ytmeoannheomdoaa.llong
