/- HistoryOwns: what is passed to Add, and what Get and Log return, shares no memory with the history. For all arguments. -/
import Derived.Test.YtiikbekboapphaaOwnKit
namespace Go.Proofs.Ytiikbekboapphaa.lown
open Go.ChangeShapes Go.WideShapes Go.ChangeAt Go.RowKit


set_option maxRecDepth 100000 in
set_option maxHeartbeats 8000000 in
theorem walk1 (A : Option Addr) (l : List (Int × Int)) (c : Nat) (a : Int) (w : World) (hA : Prs w w.heap.size A c l) (hl : l.length ≤ maxLen) (ha : (Lit.int .i64 a).wf = true) (h0 : 0 ≤ a) :
    Calls Try.prog 12 #[.slice A l.length c, .int .i64 a] w (BoolB w true) := by
  have S := Lib.hid (sane_any w)
  have MD := Lib.hid (fun (W : World) (h : Below w.heap.size w W) => made_any W A l c ⟨(Row.below hA.1 h (Nat.le_refl _)).more h.size, hA.2⟩ hl)
  have NA := Lib.hid (fun (W : World) (n : Nat) (hn : n ≤ 1000) => number_any W n hn a ha)
  unfold BoolB at S ⊢
  unfold MadeOut at MD
  obtain ⟨m, hm⟩ : ∃ m, l.length = m := ⟨_, rfl⟩
  rw [hm] at MD ⊢
  clear hA hl ha hm
  go_enter Try.func12, Try.ntmps12
  go_upto_region 6 with (first
    | (go_at_call 14; ((with_reducible refine S.out.mono ?_); rintro e w1 ⟨rfl, hb1⟩))
    | (go_at_call 15; ((with_reducible refine (MD.out _ hb1).mono ?_); rintro e w2 ⟨p, q, cs, rfl, hcs, hT⟩))
    | (fail "arm"))
  have hpos := hT.good.2
  have hgd := hT.good.1
  obtain ⟨V, hV⟩ : ∃ V, numP cs.length a = V := ⟨_, rfl⟩
  have N1 := Lib.hid (fun W : World => (show Calls Try.prog 18 #[.int .i64 (cs.length : Int), .int .i64 a] W fun e w' => e = .returned (.int .i64 V) ∧ W = w' from hV ▸ NA.out W cs.length (by omega)))
  have hV0 : 0 ≤ V := by
    rw [← hV]
    unfold numP
    split
    · omega
    · exact Int.emod_nonneg _ (by omega)
  have hV1 : V < (cs.length : Int) + 2 := by rw [← hV]; exact numP_range _ _
  have hm0 : 0 ≤ V % (cs.length : Int) := Int.emod_nonneg _ (by omega)
  have hm1 : V % (cs.length : Int) < (cs.length : Int) := Int.emod_lt_of_pos _ (by omega)
  have hne0 : ¬ ((cs.length : Int) = 0) := by omega
  obtain ⟨t, ht⟩ : ∃ t : Nat, 1 + V % (cs.length : Int) = (t : Int) := ⟨(1 + V % (cs.length : Int)).toNat, by omega⟩
  have ht2 : (t : Int) ≤ cs.length := by omega
  -- the commit in memory
  obtain ⟨w3, hw3⟩ : ∃ w3, (((w2.alloc (.cells #[.int .i64 1] 3)).alloc (.cells #[.int .i64 4, .int .i64 5] 3)).alloc (.cells #[.slice (some ⟨w2.heap.size, 0, none⟩) 1 1, .int .i64 3, .string ⟨#[97]⟩, .slice (some ⟨w2.heap.size + 1, 0, none⟩) 2 2, .bool false] 25)) = w3 := ⟨_, rfl⟩
  have bw : Below w2.heap.size w2 w3 := by rw [← hw3]; exact (((Below.refl _ w2).alloc (Nat.le_refl _) _).alloc (by simp) _).alloc (by simp; omega) _
  have s3 : w3.heap.size = w2.heap.size + 3 := by rw [← hw3]; simp
  have f1 : Full w3 w2.heap.size 3 [.int .i64 1] := by rw [← hw3]; exact ((Full.new w2 3 [.int .i64 1]).alloc _).alloc _
  have f2 : Full w3 (w2.heap.size + 1) 3 [.int .i64 4, .int .i64 5] := by
    rw [← hw3]
    have := Full.new (w2.alloc (.cells #[.int .i64 1] 3)) 3 [.int .i64 4, .int .i64 5]
    rw [World.size_alloc] at this
    exact this.alloc _
  have f3 : Full w3 (w2.heap.size + 1 + 1) 25 [.slice (some ⟨w2.heap.size, 0, none⟩) 1 1, .int .i64 3, .string ⟨#[97]⟩, .slice (some ⟨w2.heap.size + 1, 0, none⟩) 2 2, .bool false] := by
    rw [← hw3]
    have := Full.new ((w2.alloc (.cells #[.int .i64 1] 3)).alloc (.cells #[.int .i64 4, .int .i64 5] 3)) 25 [.slice (some ⟨w2.heap.size, 0, none⟩) 1 1, .int .i64 3, .string ⟨#[97]⟩, .slice (some ⟨w2.heap.size + 1, 0, none⟩) 2 2, .bool false]
    rw [World.size_alloc, World.size_alloc] at this
    exact this
  rw [hw3]
  have AD := Lib.hid (hT.own bw (by omega) (f1.row 1 1 rfl 1 (Nat.le_refl _)) (f2.row 1 2 rfl 2 (Nat.le_refl _)))
  have LA := Lib.hid (fun (hg2 : Good (cs ++ [ownC])) => logP_app hgd hg2 hpos ht2)
  have GO := Lib.hid (get_own (cs := cs))
  have hch : ∀ d ∈ cs ++ [ownC], d.ch.length ≤ 1099511627776 := fun d hd => by
    rcases List.mem_append.1 hd with hd | hd
    · have := hT.few d hd; omega
    · have : d = ownC := by simpa using hd
      rw [this]; decide
  have hlen' : (cs ++ [ownC]).length ≤ 1000 := by rw [List.length_append]; simp; omega
  obtain ⟨cs', hcs'⟩ : ∃ cs', cs ++ [ownC] = cs' := ⟨_, rfl⟩
  rw [hcs'] at AD LA GO hch hlen'
  have HG2 := Lib.hid (show Good cs' from hcs' ▸ hgd.add hpos (inR_iff.2 ⟨by omega, by omega⟩))
  obtain ⟨b1, e1⟩ : ∃ b, w2.heap.size = b := ⟨_, rfl⟩
  obtain ⟨b2, e2⟩ : ∃ b, w2.heap.size + 1 = b := ⟨_, rfl⟩
  obtain ⟨b3, e3⟩ : ∃ b, w2.heap.size + 1 + 1 = b := ⟨_, rfl⟩
  have hb12 : b1 ≠ b2 := by omega
  have hKb : ∀ x, b1 ≤ x ∧ x < w3.heap.size → w2.heap.size ≤ x ∧ x < w3.heap.size := fun x hx => by omega
  rw [e3, e2, e1] at f3
  rw [e2] at f2
  rw [e1] at f1
  rw [e2, e1] at AD
  rw [e3, e2, e1]
  have HB1 := Lib.hid hb1
  have l1 : b1 < w3.heap.size := by omega
  have l2 : b2 < w3.heap.size := by omega
  have l3 : b3 < w3.heap.size := by omega
  have l12 : b1 ≤ b2 := by omega
  have l13 : b1 ≤ b3 := by omega
  have c30 : w3.cell? ⟨b3, 0, none⟩ = some (.slice (some ⟨b1, 0, none⟩) 1 1) := f3.cell 0
  have c31 : w3.cell? ⟨b3, 1, none⟩ = some (.int .i64 3) := f3.cell 1
  have c32 : w3.cell? ⟨b3, 2, none⟩ = some (.string ⟨#[97]⟩) := f3.cell 2
  have c33 : w3.cell? ⟨b3, 3, none⟩ = some (.slice (some ⟨b2, 0, none⟩) 2 2) := f3.cell 3
  have c34 : w3.cell? ⟨b3, 4, none⟩ = some (.bool false) := f3.cell 4
  have FF := Lib.hid (And.intro f1 (And.intro f2 f3))
  clear hw3 f1 f2 f3 hT hgd e1 e2 e3 hb1 hV s3 bw hKb hcs'
  go_upto_region 7 with (first
    | (go_at_call 16; ((with_reducible refine AD.out.mono ?_); rintro e w4 ⟨rfl, hO, hkp⟩))
    | (fail "arm"))
  have g1 : Full w4 b1 3 [.int .i64 1] := (hkp b1 ⟨Nat.le_refl _, l1⟩).trans FF.out.1
  have g2 : Full w4 b2 3 [.int .i64 4, .int .i64 5] := (hkp b2 ⟨l12, l2⟩).trans FF.out.2.1
  have g3 : Full w4 b3 25 [.slice (some ⟨b1, 0, none⟩) 1 1, .int .i64 3, .string ⟨#[97]⟩, .slice (some ⟨b2, 0, none⟩) 2 2, .bool false] := (hkp b3 ⟨l13, l3⟩).trans FF.out.2.2
  have d0 : w4.drew.cell? ⟨b3, 0, none⟩ = some (.slice (some ⟨b1, 0, none⟩) 1 1) := g3.cell 0
  have d3 : w4.drew.cell? ⟨b3, 3, none⟩ = some (.slice (some ⟨b2, 0, none⟩) 2 2) := g3.cell 3
  have d0' : w4.cell? ⟨b3, 0, none⟩ = some (.slice (some ⟨b1, 0, none⟩) 1 1) := g3.cell 0
  have d3' : w4.cell? ⟨b3, 3, none⟩ = some (.slice (some ⟨b2, 0, none⟩) 2 2) := g3.cell 3
  have e1 : w4.cell? ⟨b1, 0, none⟩ = some (.int .i64 1) := g1.cell 0
  have e1f : w4.frozen? ⟨b1, 0, none⟩ = false := g1.frozen 0
  have e2 : w4.cell? ⟨b2, 1, none⟩ = some (.int .i64 5) := g2.cell 1
  have e2f : w4.frozen? ⟨b2, 1, none⟩ = false := g2.frozen 1
  have n13 : b3 ≠ b1 := fun e => (g3.ne_ g1 (by decide)) e
  have n23 : b3 ≠ b2 := fun e => (g3.ne_ g2 (by decide)) e
  have p1 : (w4.setCell ⟨b1, 0, none⟩ (.int .i64 77)).cell? ⟨b2, 1, none⟩ = some (.int .i64 5) := (g2.far (p := ⟨b1, 0, none⟩) (fun e => hb12 e.symm) _).cell 1
  have p1f : (w4.setCell ⟨b1, 0, none⟩ (.int .i64 77)).frozen? ⟨b2, 1, none⟩ = false := (g2.far (p := ⟨b1, 0, none⟩) (fun e => hb12 e.symm) _).frozen 1
  have p2 : (w4.setCell ⟨b2, 1, none⟩ (.int .i64 78)).cell? ⟨b1, 0, none⟩ = some (.int .i64 1) := (g1.far (p := ⟨b2, 1, none⟩) hb12 _).cell 0
  have p2f : (w4.setCell ⟨b2, 1, none⟩ (.int .i64 78)).frozen? ⟨b1, 0, none⟩ = false := (g1.far (p := ⟨b2, 1, none⟩) hb12 _).frozen 0
  have p3 : (w4.setCell ⟨b1, 0, none⟩ (.int .i64 77)).cell? ⟨b3, 3, none⟩ = some (.slice (some ⟨b2, 0, none⟩) 2 2) := (g3.far (p := ⟨b1, 0, none⟩) n13 _).cell 3
  have p4 : (w4.setCell ⟨b2, 1, none⟩ (.int .i64 78)).cell? ⟨b3, 0, none⟩ = some (.slice (some ⟨b1, 0, none⟩) 1 1) := (g3.far (p := ⟨b2, 1, none⟩) n23 _).cell 0
  have HO := Lib.hid hO
  clear hkp g1 g2 g3 hO c30 c31 c32 c33 c34
  go_cut [] from 37 to 42 (fun wx => Hid (OS w1 wx p q cs cs' (fun x => b1 ≤ x ∧ x < w3.heap.size)))
  case first =>
    go_region
    all_goals (go_wp2_with fail; go_meet)
    all_goals
      case rel =>
        first
          | exact Lib.hid (((HO.out.set_ (a := ⟨b1, 0, none⟩) ⟨Nat.le_refl _, l1⟩ _).set_ (a := ⟨b2, 1, none⟩) ⟨l12, l2⟩ _).drewN 1)
          | exact Lib.hid (((HO.out.set_ (a := ⟨b2, 1, none⟩) ⟨l12, l2⟩ _).set_ (a := ⟨b1, 0, none⟩) ⟨Nat.le_refl _, l1⟩ _).drewN 1)
  case rest =>
    have H5 := Lib.hid hcut.out
    clear d0 d3 d0' d3' e1 e1f e2 e2f p1 p1f p2 p2f p3 p4 HO hcut n13 n23 hb12 l1 l2 l3 l12 l13
    have GT := Lib.hid (fun (W : World) (K : Nat → Prop) (h : OS w1 W p q cs cs' K) => (show Calls Try.prog 20 #[.pointer (some ⟨p, 0, none⟩), .int .i64 ((cs.length : Int) + 1)] W fun e w' => ∃ x1 c5 x2 c6, e = .returned (.tuple #[.agg #[.slice (some ⟨x1, 0, none⟩) 1 c5, .int .i64 3, .string ⟨#[97]⟩, .slice (some ⟨x2, 0, none⟩) 2 c6, .bool false], .bool true]) ∧ w'.ownsRow W.heap.size 3 1 (.slice (some ⟨x1, 0, none⟩) 1 c5) 1 (intC [1]) ∧ w'.ownsRow W.heap.size 3 1 (.slice (some ⟨x2, 0, none⟩) 2 c6) 2 (intC [4, 5]) ∧ x1 ≠ x2 ∧ Below W.heap.size W w' from by
      have h1 := h.get_ hlen' hch ((cs.length : Int) + 1)
      rw [GO.out.1, GO.out.2] at h1
      refine h1.mono ?_
      rintro e w' ⟨A5, c5, A6, c6, rfl, o5, o6, hap, hb⟩
      obtain ⟨x1, d1, q1, _⟩ := own_some o5 (show 0 < ownC.ps.length by decide)
      obtain ⟨x2, d2, q2, _⟩ := own_some o6 (show 0 < ownC.ch.length by decide)
      injection q1 with q1 _ q1'
      injection q2 with q2 _ q2'
      subst q1 q1' q2 q2'
      exact ⟨x1, c5, x2, c6, rfl, o5, o6, fun e => hap x1 rfl (by rw [e]; rfl), hb⟩))
    go_upto_region 9 with (first
      | (go_at_call 20; ((with_reducible refine (GT.out _ _ H5.out).mono ?_); rintro e v6 ⟨x1, c5, x2, c6, rfl, o5, o6, hx12, gb6⟩))
      | (fail "arm"))
    obtain ⟨w7, hw7⟩ : ∃ w7, v6.alloc (.cells #[.slice (some ⟨x1, 0, none⟩) 1 c5, .int .i64 3, .string ⟨#[97]⟩, .slice (some ⟨x2, 0, none⟩) 2 c6, .bool false] 25) = w7 := ⟨_, rfl⟩
    have b7 : Below v6.heap.size v6 w7 := by rw [← hw7]; exact (Below.refl _ v6).alloc (Nat.le_refl _) _
    have F7 : Full w7 v6.heap.size 25 [.slice (some ⟨x1, 0, none⟩) 1 c5, .int .i64 3, .string ⟨#[97]⟩, .slice (some ⟨x2, 0, none⟩) 2 c6, .bool false] := by rw [← hw7]; exact Full.new v6 25 _
    obtain ⟨g7, eg7⟩ : ∃ g7, v6.heap.size = g7 := ⟨_, rfl⟩
    have o5' := own_keep o5 b7
    have o6' := own_keep o6 b7
    have O7 := Lib.hid (((H5.out.on gb6).on b7).less (K' := fun x => x = x1 ∨ x = x2) (fun x hx => by
      have h1 := row_ge o5 x1 rfl
      have h2 := owns_lt o5 x1 rfl
      have h3 := row_ge o6 x2 rfl
      have h4 := owns_lt o6 x2 rfl
      rcases hx with rfl | rfl
      · exact .inl (.inr ⟨h1, h2⟩)
      · exact .inl (.inr ⟨h3, h4⟩)))
    rw [hw7]
    rw [eg7] at F7 ⊢
    have d0 : w7.cell? ⟨g7, 0, none⟩ = some (.slice (some ⟨x1, 0, none⟩) 1 c5) := F7.cell 0
    have d3 : w7.cell? ⟨g7, 3, none⟩ = some (.slice (some ⟨x2, 0, none⟩) 2 c6) := F7.cell 3
    have y1 : w7.cell? ⟨x1, 0, none⟩ = some (.int .i64 1) := (own_cell o5' (by omega)).1
    have y2 : w7.cell? ⟨x2, 1, none⟩ = some (.int .i64 5) := (own_cell o6' (by omega)).1
    have y20 : w7.cell? ⟨x2, 0, none⟩ = some (.int .i64 4) := (own_cell o6' (by omega)).1
    have y1f : w7.frozen? ⟨x1, 0, none⟩ = false := (own_cell o5' (by omega)).2
    have y20f : w7.frozen? ⟨x2, 0, none⟩ = false := (own_cell o6' (by omega)).2
    have n1 : g7 ≠ x1 := fun e => F7.not_row o5' (by decide) (by rw [e]; rfl)
    have n2 : g7 ≠ x2 := fun e => F7.not_row o6' (by decide) (by rw [e]; rfl)
    have o6s := owns_keep o6' (w' := w7.setCell ⟨x1, 0, none⟩ (.int .i64 55)) (fun g e => Below.heap_setCell _ _ _ g (fun e' => hx12 (by
      obtain rfl : x2 = g := by simpa [Value.ownBlock] using e
      exact e'.symm)))
    have o5s := owns_keep o5' (w' := w7.setCell ⟨x2, 0, none⟩ (.int .i64 56)) (fun g e => Below.heap_setCell _ _ _ g (fun e' => hx12 (by
      obtain rfl : x1 = g := by simpa [Value.ownBlock] using e
      exact e')))
    have p1 : (w7.setCell ⟨x1, 0, none⟩ (.int .i64 55)).cell? ⟨x2, 0, none⟩ = some (.int .i64 4) := (own_cell o6s (by omega)).1
    have p1f : (w7.setCell ⟨x1, 0, none⟩ (.int .i64 55)).frozen? ⟨x2, 0, none⟩ = false := (own_cell o6s (by omega)).2
    have p2 : (w7.setCell ⟨x2, 0, none⟩ (.int .i64 56)).cell? ⟨x1, 0, none⟩ = some (.int .i64 1) := (own_cell o5s (by omega)).1
    have p2f : (w7.setCell ⟨x2, 0, none⟩ (.int .i64 56)).frozen? ⟨x1, 0, none⟩ = false := (own_cell o5s (by omega)).2
    have p3 : (w7.setCell ⟨x1, 0, none⟩ (.int .i64 55)).cell? ⟨g7, 3, none⟩ = some (.slice (some ⟨x2, 0, none⟩) 2 c6) := (F7.far (p := ⟨x1, 0, none⟩) n1 _).cell 3
    have p4 : (w7.setCell ⟨x2, 0, none⟩ (.int .i64 56)).cell? ⟨g7, 0, none⟩ = some (.slice (some ⟨x1, 0, none⟩) 1 c5) := (F7.far (p := ⟨x2, 0, none⟩) n2 _).cell 0
    clear hw7 b7 F7 o5 o6 o5' o6' o6s o5s gb6 eg7
    go_upto_region 11 with fail
    go_cut [] from 77 to 82 (fun wx => Hid (OS w1 wx p q cs cs' (fun x => x = x1 ∨ x = x2)))
    case first =>
      go_region
      all_goals (go_wp2_with fail; go_meet)
      all_goals
        case rel =>
          first
            | exact Lib.hid (((O7.out.set_ (a := ⟨x1, 0, none⟩) (.inl rfl) _).set_ (a := ⟨x2, 0, none⟩) (.inr rfl) _).drewN 1)
            | exact Lib.hid (((O7.out.set_ (a := ⟨x2, 0, none⟩) (.inr rfl) _).set_ (a := ⟨x1, 0, none⟩) (.inl rfl) _).drewN 1)
    case rest =>
      have H8 := Lib.hid hcut.out
      clear d0 d3 y1 y2 y20 y1f y20f p1 p1f p2 p2f p3 p4 n1 n2 O7 hcut hx12
      go_upto_region 13 with (first
        | (go_at_call 20; ((with_reducible refine (GT.out _ _ H8.out).mono ?_); rintro e v9 ⟨y1, c7, y2, c8, rfl, o7, o8, hy12, gb9⟩))
        | (fail "arm"))
      obtain ⟨w10, hw10⟩ : ∃ w10, v9.alloc (.cells #[.slice (some ⟨y1, 0, none⟩) 1 c7, .int .i64 3, .string ⟨#[97]⟩, .slice (some ⟨y2, 0, none⟩) 2 c8, .bool false] 25) = w10 := ⟨_, rfl⟩
      have b10 : Below v9.heap.size v9 w10 := by rw [← hw10]; exact (Below.refl _ v9).alloc (Nat.le_refl _) _
      have F10 : Full w10 v9.heap.size 25 [.slice (some ⟨y1, 0, none⟩) 1 c7, .int .i64 3, .string ⟨#[97]⟩, .slice (some ⟨y2, 0, none⟩) 2 c8, .bool false] := by rw [← hw10]; exact Full.new v9 25 _
      obtain ⟨g10, eg10⟩ : ∃ g10, v9.heap.size = g10 := ⟨_, rfl⟩
      have o7' := Lib.hid (own_keep o7 b10)
      have o8' := Lib.hid (own_keep o8 b10)
      have O10 := Lib.hid ((H8.out.on gb9).on b10)
      rw [hw10]
      rw [eg10] at F10 ⊢
      have HF10 := Lib.hid F10
      have LG := Lib.hid (fun (W : World) (K : Nat → Prop) (h : OS w1 W p q cs cs' K) => (show Calls Try.prog 31 #[.pointer (some ⟨p, 0, none⟩), .int .i64 (t : Int)] W (IntsOut W (logP cs (t : Int))) from by
        have h1 := h.log_ hlen' (t : Int)
        rwa [LA.out HG2.out] at h1))
      have RG := Lib.hid (fun (W : World) (K : Nat → Prop) (h : OS w1 W p q cs cs' K) => h.rlog_ (by omega) (t : Int))
      have RM := Lib.hid (fun (W : World) (K : Nat → Prop) (h : OS w1 W p q cs cs' K) => h.rmany_)
      obtain ⟨GL, hGL⟩ : ∃ GL, logP cs (t : Int) = GL := ⟨_, rfl⟩
      have hGLl : GL.length ≤ 1000 := by rw [← hGL]; have := logP_len cs (t : Int); omega
      obtain ⟨n, hn⟩ : ∃ n, GL.length = n := ⟨_, rfl⟩
      unfold IntsOut at LG RG
      rw [hGL, hn] at LG RG
      rw [hn] at hGLl
      clear hw10 b10 F10 o7 o8 gb9 eg10 hGL hn
      go_wp2_with (first
        | (go_at_call 19; ((with_reducible refine (RM.out _ _ O10.out).mono ?_); rintro e v ⟨rfl, rfl⟩))
        | (go_at_call 18; ((with_reducible refine (N1.out _).mono ?_); rintro e v ⟨rfl, rfl⟩))
        | (go_at_call 31; ((with_reducible refine (LG.out _ _ O10.out).mono ?_); rintro e v11 ⟨AL, cl, rfl, o11, gb11⟩))
        | (fail "arm"))
      have HO11 := Lib.hid ((O10.out.on gb11).less (K' := fun x => w10.heap.size ≤ x ∧ x < v11.heap.size) (fun x hx => .inr hx))
      have HR11 := Lib.hid o11
      have hncl : n ≤ cl := (Row.own o11).2.1
      have HG11 := Lib.hid gb11
      clear o11 gb11
      go_loopw [103] (fun v103 wr => ∃ (k : Nat) (xs : List Value), v103 = .int .i64 (k : Int) ∧ k ≤ n ∧ Hid (OS w1 wr p q cs cs' (fun x => w10.heap.size ≤ x ∧ x < v11.heap.size) ∧ wr.ownsRow w10.heap.size 3 1 (.slice AL n cl) n xs ∧ Below w10.heap.size w10 wr)) (fun v103 _ => n - (intOf v103).toNat)
      case atStart => exact ⟨0, _, rfl, by omega, Lib.hid ⟨HO11.out, HR11.out, HG11.out⟩⟩
      case round =>
        obtain ⟨k, xs, rfl, hk, H⟩ := hrel
        have k0 : (0 : Int) ≤ (k : Int) := Int.natCast_nonneg _
        by_cases hkn : k < n
        · have k1 : (k : Int) < (n : Int) := by omega
          obtain ⟨gl, cl', eAL, _, _, _⟩ := own_some H.out.2.1 (by omega)
          obtain ⟨z, hz⟩ : ∃ z, xs[k]? = some z := ⟨_, List.getElem?_eq_getElem (by have := H.out.2.1.1; omega)⟩
          have EAL := Lib.hid (show AL = some ⟨gl, 0, none⟩ from by injection eAL)
          have hgK : w10.heap.size ≤ gl ∧ gl < v11.heap.size := by
            have h1 := row_ge H.out.2.1 gl (by rw [EAL.out]; rfl)
            have h2 := owns_lt HR11.out gl (by rw [EAL.out]; rfl)
            exact ⟨h1, h2⟩
          have hrow := H.out.2.1
          rw [EAL.out] at hrow ⊢
          have q1 : wr.cell? ⟨gl, k, none⟩ = some z := (own_cell hrow (by omega)).1.trans hz
          have q2 : wr.frozen? ⟨gl, k, none⟩ = false := (own_cell hrow (by omega)).2
          have HNX := Lib.hid (show OS w1 (wr.setCell ⟨gl, k, none⟩ (.int .i64 (-1))) p q cs cs' (fun x => w10.heap.size ≤ x ∧ x < v11.heap.size) ∧ (wr.setCell ⟨gl, k, none⟩ (.int .i64 (-1))).ownsRow w10.heap.size 3 1 (.slice (some ⟨gl, 0, none⟩) n cl) n (xs.set k (.int .i64 (-1))) ∧ Below w10.heap.size w10 (wr.setCell ⟨gl, k, none⟩ (.int .i64 (-1))) from
            ⟨H.out.1.set_ (a := ⟨gl, k, none⟩) hgK _, own_set hrow k _, H.out.2.2.setCell hgK.1 _⟩)
          clear hrow eAL
          go_wp2_with fail
          go_roundw
          case rel => exact ⟨k + 1, _, by go_num, by omega, HNX⟩
          case measure => first | (simp [intOf]; done) | (simp [intOf]; omega)
        · obtain rfl : k = n := by omega
          have F14 := HF10.out.on H.out.2.2
          have d0 : wr.cell? ⟨g10, 0, none⟩ = some (.slice (some ⟨y1, 0, none⟩) 1 c7) := F14.cell 0
          have d3 : wr.cell? ⟨g10, 3, none⟩ = some (.slice (some ⟨y2, 0, none⟩) 2 c8) := F14.cell 3
          have z1 : wr.cell? ⟨y1, 0, none⟩ = some (.int .i64 1) := (own_cell (own_keep o7'.out H.out.2.2) (by omega)).1
          have z2 : wr.cell? ⟨y2, 0, none⟩ = some (.int .i64 4) := (own_cell (own_keep o8'.out H.out.2.2) (by omega)).1
          clear F14
          go_wp2_with (first
            | (go_at_call 31; ((with_reducible refine (LG.out _ _ H.out.1).mono ?_); rintro e v20 ⟨A20, c20, rfl, o20, gb20⟩; (have O20 := H.out.1.on gb20)))
            | (go_at_call 32; ((with_reducible refine (RG.out _ _ O20).mono ?_); rintro e v21 ⟨A21, c21, rfl, o21, gb21⟩; (have O21 := O20.on gb21); (have r20 := (Row.own o20).on gb21); (have r21 := Row.own o21)))
            | (go_at_call 30; ((with_reducible refine (ints_two r20 r21 hGLl).mono ?_); rintro e v22 ⟨rfl, q22, hq22⟩; (have g22 : Below v21.heap.size v21 v22 := below_of_draw (Below.refl _ _) hq22); (have O22 := O21.on g22); clear hq22))
            | (fail "arm"))
          go_ret
          exact ⟨rfl, Below.then_ HB1.out O22.below⟩

set_option maxRecDepth 100000 in
set_option maxHeartbeats 8000000 in
theorem walk2 (A : Option Addr) (l : List (Int × Int)) (c : Nat) (a : Int) (w : World) (hA : Prs w w.heap.size A c l) (hl : l.length ≤ maxLen) (ha : (Lit.int .i64 a).wf = true) (h0 : a < 0) :
    Calls Try.prog 12 #[.slice A l.length c, .int .i64 a] w (BoolB w true) := by
  have S := Lib.hid (sane_any w)
  have MD := Lib.hid (fun (W : World) (h : Below w.heap.size w W) => made_any W A l c ⟨(Row.below hA.1 h (Nat.le_refl _)).more h.size, hA.2⟩ hl)
  have NA := Lib.hid (fun (W : World) (n : Nat) (hn : n ≤ 1000) => number_any W n hn 0 (by decide))
  unfold BoolB at S ⊢
  unfold MadeOut at MD
  obtain ⟨m, hm⟩ : ∃ m, l.length = m := ⟨_, rfl⟩
  rw [hm] at MD ⊢
  clear hA hl ha hm
  go_enter Try.func12, Try.ntmps12
  go_upto_region 6 with (first
    | (go_at_call 14; ((with_reducible refine S.out.mono ?_); rintro e w1 ⟨rfl, hb1⟩))
    | (go_at_call 15; ((with_reducible refine (MD.out _ hb1).mono ?_); rintro e w2 ⟨p, q, cs, rfl, hcs, hT⟩))
    | (fail "arm"))
  have hpos := hT.good.2
  have hgd := hT.good.1
  obtain ⟨V, hV⟩ : ∃ V, numP cs.length 0 = V := ⟨_, rfl⟩
  have N1 := Lib.hid (fun W : World => (show Calls Try.prog 18 #[.int .i64 (cs.length : Int), .int .i64 0] W fun e w' => e = .returned (.int .i64 V) ∧ W = w' from hV ▸ NA.out W cs.length (by omega)))
  have hV0 : 0 ≤ V := by
    rw [← hV]
    unfold numP
    split
    · omega
    · exact Int.emod_nonneg _ (by omega)
  have hV1 : V < (cs.length : Int) + 2 := by rw [← hV]; exact numP_range _ _
  have hm0 : 0 ≤ V % (cs.length : Int) := Int.emod_nonneg _ (by omega)
  have hm1 : V % (cs.length : Int) < (cs.length : Int) := Int.emod_lt_of_pos _ (by omega)
  have hne0 : ¬ ((cs.length : Int) = 0) := by omega
  obtain ⟨t, ht⟩ : ∃ t : Nat, 1 + V % (cs.length : Int) = (t : Int) := ⟨(1 + V % (cs.length : Int)).toNat, by omega⟩
  have ht2 : (t : Int) ≤ cs.length := by omega
  -- the commit in memory
  obtain ⟨w3, hw3⟩ : ∃ w3, (((w2.alloc (.cells #[.int .i64 1] 3)).alloc (.cells #[.int .i64 4, .int .i64 5] 3)).alloc (.cells #[.slice (some ⟨w2.heap.size, 0, none⟩) 1 1, .int .i64 3, .string ⟨#[97]⟩, .slice (some ⟨w2.heap.size + 1, 0, none⟩) 2 2, .bool false] 25)) = w3 := ⟨_, rfl⟩
  have bw : Below w2.heap.size w2 w3 := by rw [← hw3]; exact (((Below.refl _ w2).alloc (Nat.le_refl _) _).alloc (by simp) _).alloc (by simp; omega) _
  have s3 : w3.heap.size = w2.heap.size + 3 := by rw [← hw3]; simp
  have f1 : Full w3 w2.heap.size 3 [.int .i64 1] := by rw [← hw3]; exact ((Full.new w2 3 [.int .i64 1]).alloc _).alloc _
  have f2 : Full w3 (w2.heap.size + 1) 3 [.int .i64 4, .int .i64 5] := by
    rw [← hw3]
    have := Full.new (w2.alloc (.cells #[.int .i64 1] 3)) 3 [.int .i64 4, .int .i64 5]
    rw [World.size_alloc] at this
    exact this.alloc _
  have f3 : Full w3 (w2.heap.size + 1 + 1) 25 [.slice (some ⟨w2.heap.size, 0, none⟩) 1 1, .int .i64 3, .string ⟨#[97]⟩, .slice (some ⟨w2.heap.size + 1, 0, none⟩) 2 2, .bool false] := by
    rw [← hw3]
    have := Full.new ((w2.alloc (.cells #[.int .i64 1] 3)).alloc (.cells #[.int .i64 4, .int .i64 5] 3)) 25 [.slice (some ⟨w2.heap.size, 0, none⟩) 1 1, .int .i64 3, .string ⟨#[97]⟩, .slice (some ⟨w2.heap.size + 1, 0, none⟩) 2 2, .bool false]
    rw [World.size_alloc, World.size_alloc] at this
    exact this
  rw [hw3]
  have AD := Lib.hid (hT.own bw (by omega) (f1.row 1 1 rfl 1 (Nat.le_refl _)) (f2.row 1 2 rfl 2 (Nat.le_refl _)))
  have LA := Lib.hid (fun (hg2 : Good (cs ++ [ownC])) => logP_app hgd hg2 hpos ht2)
  have GO := Lib.hid (get_own (cs := cs))
  have hch : ∀ d ∈ cs ++ [ownC], d.ch.length ≤ 1099511627776 := fun d hd => by
    rcases List.mem_append.1 hd with hd | hd
    · have := hT.few d hd; omega
    · have : d = ownC := by simpa using hd
      rw [this]; decide
  have hlen' : (cs ++ [ownC]).length ≤ 1000 := by rw [List.length_append]; simp; omega
  obtain ⟨cs', hcs'⟩ : ∃ cs', cs ++ [ownC] = cs' := ⟨_, rfl⟩
  rw [hcs'] at AD LA GO hch hlen'
  have HG2 := Lib.hid (show Good cs' from hcs' ▸ hgd.add hpos (inR_iff.2 ⟨by omega, by omega⟩))
  obtain ⟨b1, e1⟩ : ∃ b, w2.heap.size = b := ⟨_, rfl⟩
  obtain ⟨b2, e2⟩ : ∃ b, w2.heap.size + 1 = b := ⟨_, rfl⟩
  obtain ⟨b3, e3⟩ : ∃ b, w2.heap.size + 1 + 1 = b := ⟨_, rfl⟩
  have hb12 : b1 ≠ b2 := by omega
  have hKb : ∀ x, b1 ≤ x ∧ x < w3.heap.size → w2.heap.size ≤ x ∧ x < w3.heap.size := fun x hx => by omega
  rw [e3, e2, e1] at f3
  rw [e2] at f2
  rw [e1] at f1
  rw [e2, e1] at AD
  rw [e3, e2, e1]
  have HB1 := Lib.hid hb1
  have l1 : b1 < w3.heap.size := by omega
  have l2 : b2 < w3.heap.size := by omega
  have l3 : b3 < w3.heap.size := by omega
  have l12 : b1 ≤ b2 := by omega
  have l13 : b1 ≤ b3 := by omega
  have c30 : w3.cell? ⟨b3, 0, none⟩ = some (.slice (some ⟨b1, 0, none⟩) 1 1) := f3.cell 0
  have c31 : w3.cell? ⟨b3, 1, none⟩ = some (.int .i64 3) := f3.cell 1
  have c32 : w3.cell? ⟨b3, 2, none⟩ = some (.string ⟨#[97]⟩) := f3.cell 2
  have c33 : w3.cell? ⟨b3, 3, none⟩ = some (.slice (some ⟨b2, 0, none⟩) 2 2) := f3.cell 3
  have c34 : w3.cell? ⟨b3, 4, none⟩ = some (.bool false) := f3.cell 4
  have FF := Lib.hid (And.intro f1 (And.intro f2 f3))
  clear hw3 f1 f2 f3 hT hgd e1 e2 e3 hb1 hV s3 bw hKb hcs'
  go_upto_region 7 with (first
    | (go_at_call 16; ((with_reducible refine AD.out.mono ?_); rintro e w4 ⟨rfl, hO, hkp⟩))
    | (fail "arm"))
  have g1 : Full w4 b1 3 [.int .i64 1] := (hkp b1 ⟨Nat.le_refl _, l1⟩).trans FF.out.1
  have g2 : Full w4 b2 3 [.int .i64 4, .int .i64 5] := (hkp b2 ⟨l12, l2⟩).trans FF.out.2.1
  have g3 : Full w4 b3 25 [.slice (some ⟨b1, 0, none⟩) 1 1, .int .i64 3, .string ⟨#[97]⟩, .slice (some ⟨b2, 0, none⟩) 2 2, .bool false] := (hkp b3 ⟨l13, l3⟩).trans FF.out.2.2
  have d0 : w4.drew.cell? ⟨b3, 0, none⟩ = some (.slice (some ⟨b1, 0, none⟩) 1 1) := g3.cell 0
  have d3 : w4.drew.cell? ⟨b3, 3, none⟩ = some (.slice (some ⟨b2, 0, none⟩) 2 2) := g3.cell 3
  have d0' : w4.cell? ⟨b3, 0, none⟩ = some (.slice (some ⟨b1, 0, none⟩) 1 1) := g3.cell 0
  have d3' : w4.cell? ⟨b3, 3, none⟩ = some (.slice (some ⟨b2, 0, none⟩) 2 2) := g3.cell 3
  have e1 : w4.cell? ⟨b1, 0, none⟩ = some (.int .i64 1) := g1.cell 0
  have e1f : w4.frozen? ⟨b1, 0, none⟩ = false := g1.frozen 0
  have e2 : w4.cell? ⟨b2, 1, none⟩ = some (.int .i64 5) := g2.cell 1
  have e2f : w4.frozen? ⟨b2, 1, none⟩ = false := g2.frozen 1
  have n13 : b3 ≠ b1 := fun e => (g3.ne_ g1 (by decide)) e
  have n23 : b3 ≠ b2 := fun e => (g3.ne_ g2 (by decide)) e
  have p1 : (w4.setCell ⟨b1, 0, none⟩ (.int .i64 77)).cell? ⟨b2, 1, none⟩ = some (.int .i64 5) := (g2.far (p := ⟨b1, 0, none⟩) (fun e => hb12 e.symm) _).cell 1
  have p1f : (w4.setCell ⟨b1, 0, none⟩ (.int .i64 77)).frozen? ⟨b2, 1, none⟩ = false := (g2.far (p := ⟨b1, 0, none⟩) (fun e => hb12 e.symm) _).frozen 1
  have p2 : (w4.setCell ⟨b2, 1, none⟩ (.int .i64 78)).cell? ⟨b1, 0, none⟩ = some (.int .i64 1) := (g1.far (p := ⟨b2, 1, none⟩) hb12 _).cell 0
  have p2f : (w4.setCell ⟨b2, 1, none⟩ (.int .i64 78)).frozen? ⟨b1, 0, none⟩ = false := (g1.far (p := ⟨b2, 1, none⟩) hb12 _).frozen 0
  have p3 : (w4.setCell ⟨b1, 0, none⟩ (.int .i64 77)).cell? ⟨b3, 3, none⟩ = some (.slice (some ⟨b2, 0, none⟩) 2 2) := (g3.far (p := ⟨b1, 0, none⟩) n13 _).cell 3
  have p4 : (w4.setCell ⟨b2, 1, none⟩ (.int .i64 78)).cell? ⟨b3, 0, none⟩ = some (.slice (some ⟨b1, 0, none⟩) 1 1) := (g3.far (p := ⟨b2, 1, none⟩) n23 _).cell 0
  have HO := Lib.hid hO
  clear hkp g1 g2 g3 hO c30 c31 c32 c33 c34
  go_cut [] from 37 to 42 (fun wx => Hid (OS w1 wx p q cs cs' (fun x => b1 ≤ x ∧ x < w3.heap.size)))
  case first =>
    go_region
    all_goals (go_wp2_with fail; go_meet)
    all_goals
      case rel =>
        first
          | exact Lib.hid (((HO.out.set_ (a := ⟨b1, 0, none⟩) ⟨Nat.le_refl _, l1⟩ _).set_ (a := ⟨b2, 1, none⟩) ⟨l12, l2⟩ _).drewN 1)
          | exact Lib.hid (((HO.out.set_ (a := ⟨b2, 1, none⟩) ⟨l12, l2⟩ _).set_ (a := ⟨b1, 0, none⟩) ⟨Nat.le_refl _, l1⟩ _).drewN 1)
  case rest =>
    have H5 := Lib.hid hcut.out
    clear d0 d3 d0' d3' e1 e1f e2 e2f p1 p1f p2 p2f p3 p4 HO hcut n13 n23 hb12 l1 l2 l3 l12 l13
    have GT := Lib.hid (fun (W : World) (K : Nat → Prop) (h : OS w1 W p q cs cs' K) => (show Calls Try.prog 20 #[.pointer (some ⟨p, 0, none⟩), .int .i64 ((cs.length : Int) + 1)] W fun e w' => ∃ x1 c5 x2 c6, e = .returned (.tuple #[.agg #[.slice (some ⟨x1, 0, none⟩) 1 c5, .int .i64 3, .string ⟨#[97]⟩, .slice (some ⟨x2, 0, none⟩) 2 c6, .bool false], .bool true]) ∧ w'.ownsRow W.heap.size 3 1 (.slice (some ⟨x1, 0, none⟩) 1 c5) 1 (intC [1]) ∧ w'.ownsRow W.heap.size 3 1 (.slice (some ⟨x2, 0, none⟩) 2 c6) 2 (intC [4, 5]) ∧ x1 ≠ x2 ∧ Below W.heap.size W w' from by
      have h1 := h.get_ hlen' hch ((cs.length : Int) + 1)
      rw [GO.out.1, GO.out.2] at h1
      refine h1.mono ?_
      rintro e w' ⟨A5, c5, A6, c6, rfl, o5, o6, hap, hb⟩
      obtain ⟨x1, d1, q1, _⟩ := own_some o5 (show 0 < ownC.ps.length by decide)
      obtain ⟨x2, d2, q2, _⟩ := own_some o6 (show 0 < ownC.ch.length by decide)
      injection q1 with q1 _ q1'
      injection q2 with q2 _ q2'
      subst q1 q1' q2 q2'
      exact ⟨x1, c5, x2, c6, rfl, o5, o6, fun e => hap x1 rfl (by rw [e]; rfl), hb⟩))
    go_upto_region 9 with (first
      | (go_at_call 20; ((with_reducible refine (GT.out _ _ H5.out).mono ?_); rintro e v6 ⟨x1, c5, x2, c6, rfl, o5, o6, hx12, gb6⟩))
      | (fail "arm"))
    obtain ⟨w7, hw7⟩ : ∃ w7, v6.alloc (.cells #[.slice (some ⟨x1, 0, none⟩) 1 c5, .int .i64 3, .string ⟨#[97]⟩, .slice (some ⟨x2, 0, none⟩) 2 c6, .bool false] 25) = w7 := ⟨_, rfl⟩
    have b7 : Below v6.heap.size v6 w7 := by rw [← hw7]; exact (Below.refl _ v6).alloc (Nat.le_refl _) _
    have F7 : Full w7 v6.heap.size 25 [.slice (some ⟨x1, 0, none⟩) 1 c5, .int .i64 3, .string ⟨#[97]⟩, .slice (some ⟨x2, 0, none⟩) 2 c6, .bool false] := by rw [← hw7]; exact Full.new v6 25 _
    obtain ⟨g7, eg7⟩ : ∃ g7, v6.heap.size = g7 := ⟨_, rfl⟩
    have o5' := own_keep o5 b7
    have o6' := own_keep o6 b7
    have O7 := Lib.hid (((H5.out.on gb6).on b7).less (K' := fun x => x = x1 ∨ x = x2) (fun x hx => by
      have h1 := row_ge o5 x1 rfl
      have h2 := owns_lt o5 x1 rfl
      have h3 := row_ge o6 x2 rfl
      have h4 := owns_lt o6 x2 rfl
      rcases hx with rfl | rfl
      · exact .inl (.inr ⟨h1, h2⟩)
      · exact .inl (.inr ⟨h3, h4⟩)))
    rw [hw7]
    rw [eg7] at F7 ⊢
    have d0 : w7.cell? ⟨g7, 0, none⟩ = some (.slice (some ⟨x1, 0, none⟩) 1 c5) := F7.cell 0
    have d3 : w7.cell? ⟨g7, 3, none⟩ = some (.slice (some ⟨x2, 0, none⟩) 2 c6) := F7.cell 3
    have y1 : w7.cell? ⟨x1, 0, none⟩ = some (.int .i64 1) := (own_cell o5' (by omega)).1
    have y2 : w7.cell? ⟨x2, 1, none⟩ = some (.int .i64 5) := (own_cell o6' (by omega)).1
    have y20 : w7.cell? ⟨x2, 0, none⟩ = some (.int .i64 4) := (own_cell o6' (by omega)).1
    have y1f : w7.frozen? ⟨x1, 0, none⟩ = false := (own_cell o5' (by omega)).2
    have y20f : w7.frozen? ⟨x2, 0, none⟩ = false := (own_cell o6' (by omega)).2
    have n1 : g7 ≠ x1 := fun e => F7.not_row o5' (by decide) (by rw [e]; rfl)
    have n2 : g7 ≠ x2 := fun e => F7.not_row o6' (by decide) (by rw [e]; rfl)
    have o6s := owns_keep o6' (w' := w7.setCell ⟨x1, 0, none⟩ (.int .i64 55)) (fun g e => Below.heap_setCell _ _ _ g (fun e' => hx12 (by
      obtain rfl : x2 = g := by simpa [Value.ownBlock] using e
      exact e'.symm)))
    have o5s := owns_keep o5' (w' := w7.setCell ⟨x2, 0, none⟩ (.int .i64 56)) (fun g e => Below.heap_setCell _ _ _ g (fun e' => hx12 (by
      obtain rfl : x1 = g := by simpa [Value.ownBlock] using e
      exact e')))
    have p1 : (w7.setCell ⟨x1, 0, none⟩ (.int .i64 55)).cell? ⟨x2, 0, none⟩ = some (.int .i64 4) := (own_cell o6s (by omega)).1
    have p1f : (w7.setCell ⟨x1, 0, none⟩ (.int .i64 55)).frozen? ⟨x2, 0, none⟩ = false := (own_cell o6s (by omega)).2
    have p2 : (w7.setCell ⟨x2, 0, none⟩ (.int .i64 56)).cell? ⟨x1, 0, none⟩ = some (.int .i64 1) := (own_cell o5s (by omega)).1
    have p2f : (w7.setCell ⟨x2, 0, none⟩ (.int .i64 56)).frozen? ⟨x1, 0, none⟩ = false := (own_cell o5s (by omega)).2
    have p3 : (w7.setCell ⟨x1, 0, none⟩ (.int .i64 55)).cell? ⟨g7, 3, none⟩ = some (.slice (some ⟨x2, 0, none⟩) 2 c6) := (F7.far (p := ⟨x1, 0, none⟩) n1 _).cell 3
    have p4 : (w7.setCell ⟨x2, 0, none⟩ (.int .i64 56)).cell? ⟨g7, 0, none⟩ = some (.slice (some ⟨x1, 0, none⟩) 1 c5) := (F7.far (p := ⟨x2, 0, none⟩) n2 _).cell 0
    clear hw7 b7 F7 o5 o6 o5' o6' o6s o5s gb6 eg7
    go_upto_region 11 with fail
    go_cut [] from 77 to 82 (fun wx => Hid (OS w1 wx p q cs cs' (fun x => x = x1 ∨ x = x2)))
    case first =>
      go_region
      all_goals (go_wp2_with fail; go_meet)
      all_goals
        case rel =>
          first
            | exact Lib.hid (((O7.out.set_ (a := ⟨x1, 0, none⟩) (.inl rfl) _).set_ (a := ⟨x2, 0, none⟩) (.inr rfl) _).drewN 1)
            | exact Lib.hid (((O7.out.set_ (a := ⟨x2, 0, none⟩) (.inr rfl) _).set_ (a := ⟨x1, 0, none⟩) (.inl rfl) _).drewN 1)
    case rest =>
      have H8 := Lib.hid hcut.out
      clear d0 d3 y1 y2 y20 y1f y20f p1 p1f p2 p2f p3 p4 n1 n2 O7 hcut hx12
      go_upto_region 13 with (first
        | (go_at_call 20; ((with_reducible refine (GT.out _ _ H8.out).mono ?_); rintro e v9 ⟨y1, c7, y2, c8, rfl, o7, o8, hy12, gb9⟩))
        | (fail "arm"))
      obtain ⟨w10, hw10⟩ : ∃ w10, v9.alloc (.cells #[.slice (some ⟨y1, 0, none⟩) 1 c7, .int .i64 3, .string ⟨#[97]⟩, .slice (some ⟨y2, 0, none⟩) 2 c8, .bool false] 25) = w10 := ⟨_, rfl⟩
      have b10 : Below v9.heap.size v9 w10 := by rw [← hw10]; exact (Below.refl _ v9).alloc (Nat.le_refl _) _
      have F10 : Full w10 v9.heap.size 25 [.slice (some ⟨y1, 0, none⟩) 1 c7, .int .i64 3, .string ⟨#[97]⟩, .slice (some ⟨y2, 0, none⟩) 2 c8, .bool false] := by rw [← hw10]; exact Full.new v9 25 _
      obtain ⟨g10, eg10⟩ : ∃ g10, v9.heap.size = g10 := ⟨_, rfl⟩
      have o7' := Lib.hid (own_keep o7 b10)
      have o8' := Lib.hid (own_keep o8 b10)
      have O10 := Lib.hid ((H8.out.on gb9).on b10)
      rw [hw10]
      rw [eg10] at F10 ⊢
      have HF10 := Lib.hid F10
      have LG := Lib.hid (fun (W : World) (K : Nat → Prop) (h : OS w1 W p q cs cs' K) => (show Calls Try.prog 31 #[.pointer (some ⟨p, 0, none⟩), .int .i64 (t : Int)] W (IntsOut W (logP cs (t : Int))) from by
        have h1 := h.log_ hlen' (t : Int)
        rwa [LA.out HG2.out] at h1))
      have RG := Lib.hid (fun (W : World) (K : Nat → Prop) (h : OS w1 W p q cs cs' K) => h.rlog_ (by omega) (t : Int))
      have RM := Lib.hid (fun (W : World) (K : Nat → Prop) (h : OS w1 W p q cs cs' K) => h.rmany_)
      obtain ⟨GL, hGL⟩ : ∃ GL, logP cs (t : Int) = GL := ⟨_, rfl⟩
      have hGLl : GL.length ≤ 1000 := by rw [← hGL]; have := logP_len cs (t : Int); omega
      obtain ⟨n, hn⟩ : ∃ n, GL.length = n := ⟨_, rfl⟩
      unfold IntsOut at LG RG
      rw [hGL, hn] at LG RG
      rw [hn] at hGLl
      clear hw10 b10 F10 o7 o8 gb9 eg10 hGL hn
      go_wp2_with (first
        | (go_at_call 19; ((with_reducible refine (RM.out _ _ O10.out).mono ?_); rintro e v ⟨rfl, rfl⟩))
        | (go_at_call 18; ((with_reducible refine (N1.out _).mono ?_); rintro e v ⟨rfl, rfl⟩))
        | (go_at_call 31; ((with_reducible refine (LG.out _ _ O10.out).mono ?_); rintro e v11 ⟨AL, cl, rfl, o11, gb11⟩))
        | (fail "arm"))
      have HO11 := Lib.hid ((O10.out.on gb11).less (K' := fun x => w10.heap.size ≤ x ∧ x < v11.heap.size) (fun x hx => .inr hx))
      have HR11 := Lib.hid o11
      have hncl : n ≤ cl := (Row.own o11).2.1
      have HG11 := Lib.hid gb11
      clear o11 gb11
      go_loopw [103] (fun v103 wr => ∃ (k : Nat) (xs : List Value), v103 = .int .i64 (k : Int) ∧ k ≤ n ∧ Hid (OS w1 wr p q cs cs' (fun x => w10.heap.size ≤ x ∧ x < v11.heap.size) ∧ wr.ownsRow w10.heap.size 3 1 (.slice AL n cl) n xs ∧ Below w10.heap.size w10 wr)) (fun v103 _ => n - (intOf v103).toNat)
      case atStart => exact ⟨0, _, rfl, by omega, Lib.hid ⟨HO11.out, HR11.out, HG11.out⟩⟩
      case round =>
        obtain ⟨k, xs, rfl, hk, H⟩ := hrel
        have k0 : (0 : Int) ≤ (k : Int) := Int.natCast_nonneg _
        by_cases hkn : k < n
        · have k1 : (k : Int) < (n : Int) := by omega
          obtain ⟨gl, cl', eAL, _, _, _⟩ := own_some H.out.2.1 (by omega)
          obtain ⟨z, hz⟩ : ∃ z, xs[k]? = some z := ⟨_, List.getElem?_eq_getElem (by have := H.out.2.1.1; omega)⟩
          have EAL := Lib.hid (show AL = some ⟨gl, 0, none⟩ from by injection eAL)
          have hgK : w10.heap.size ≤ gl ∧ gl < v11.heap.size := by
            have h1 := row_ge H.out.2.1 gl (by rw [EAL.out]; rfl)
            have h2 := owns_lt HR11.out gl (by rw [EAL.out]; rfl)
            exact ⟨h1, h2⟩
          have hrow := H.out.2.1
          rw [EAL.out] at hrow ⊢
          have q1 : wr.cell? ⟨gl, k, none⟩ = some z := (own_cell hrow (by omega)).1.trans hz
          have q2 : wr.frozen? ⟨gl, k, none⟩ = false := (own_cell hrow (by omega)).2
          have HNX := Lib.hid (show OS w1 (wr.setCell ⟨gl, k, none⟩ (.int .i64 (-1))) p q cs cs' (fun x => w10.heap.size ≤ x ∧ x < v11.heap.size) ∧ (wr.setCell ⟨gl, k, none⟩ (.int .i64 (-1))).ownsRow w10.heap.size 3 1 (.slice (some ⟨gl, 0, none⟩) n cl) n (xs.set k (.int .i64 (-1))) ∧ Below w10.heap.size w10 (wr.setCell ⟨gl, k, none⟩ (.int .i64 (-1))) from
            ⟨H.out.1.set_ (a := ⟨gl, k, none⟩) hgK _, own_set hrow k _, H.out.2.2.setCell hgK.1 _⟩)
          clear hrow eAL
          go_wp2_with fail
          go_roundw
          case rel => exact ⟨k + 1, _, by go_num, by omega, HNX⟩
          case measure => first | (simp [intOf]; done) | (simp [intOf]; omega)
        · obtain rfl : k = n := by omega
          have F14 := HF10.out.on H.out.2.2
          have d0 : wr.cell? ⟨g10, 0, none⟩ = some (.slice (some ⟨y1, 0, none⟩) 1 c7) := F14.cell 0
          have d3 : wr.cell? ⟨g10, 3, none⟩ = some (.slice (some ⟨y2, 0, none⟩) 2 c8) := F14.cell 3
          have z1 : wr.cell? ⟨y1, 0, none⟩ = some (.int .i64 1) := (own_cell (own_keep o7'.out H.out.2.2) (by omega)).1
          have z2 : wr.cell? ⟨y2, 0, none⟩ = some (.int .i64 4) := (own_cell (own_keep o8'.out H.out.2.2) (by omega)).1
          clear F14
          go_wp2_with (first
            | (go_at_call 31; ((with_reducible refine (LG.out _ _ H.out.1).mono ?_); rintro e v20 ⟨A20, c20, rfl, o20, gb20⟩; (have O20 := H.out.1.on gb20)))
            | (go_at_call 32; ((with_reducible refine (RG.out _ _ O20).mono ?_); rintro e v21 ⟨A21, c21, rfl, o21, gb21⟩; (have O21 := O20.on gb21); (have r20 := (Row.own o20).on gb21); (have r21 := Row.own o21)))
            | (go_at_call 30; ((with_reducible refine (ints_two r20 r21 hGLl).mono ?_); rintro e v22 ⟨rfl, q22, hq22⟩; (have g22 : Below v21.heap.size v21 v22 := below_of_draw (Below.refl _ _) hq22); (have O22 := O21.on g22); clear hq22))
            | (fail "arm"))
          go_ret
          exact ⟨rfl, Below.then_ HB1.out O22.below⟩

theorem walk (A : Option Addr) (l : List (Int × Int)) (c : Nat) (a : Int) (w : World) (hA : Prs w w.heap.size A c l) (hl : l.length ≤ maxLen) (ha : (Lit.int .i64 a).wf = true) : Calls Try.prog 12 #[.slice A l.length c, .int .i64 a] w (BoolB w true) := by
  by_cases h : 0 ≤ a
  · exact walk1 A l c a w hA hl ha h
  · exact walk2 A l c a w hA hl ha (by omega)

theorem contract (H : Type) (enc : TypeId × Value → H) (W : World) (base : Nat) (args : Array Value) (ds gs : List (DataW H)) (before : List MemPlace)
    (hval : ∀ (j : Nat) t v, Try.f12.params[j]? = some t → args[j]? = some v → Value.okWide Try.prog W .any base t v)
    (hW : DataW.Whole enc Try.prog Try.f12.params.toList Rows.historyOwnsSpec.vars false W args.toList ds gs before) :
    Calls Try.prog 12 args W fun e W' => ∃ v, e = .returned v ∧ Rows.historyOwnsSpec.post enc Try.prog Try.f12 false true false false W args v W' := by
  have hW' := hW
  obtain ⟨p, q, hA0, hV, rfl, hfz, hnd⟩ := hW
  have hA : DataW.TrodAll enc Try.prog W 0 (fun _ => true) true Try.f12.params.toList args.toList ds p := hA0
  rw [Try.params12] at hA hval
  obtain ⟨v0, vs0, d0, ds0, p0, q0, e0, rfl, rfl, h0, r0⟩ := trodAll_cons hA
  obtain ⟨v1, vs1, d1, ds1, p1, q1, e1, rfl, rfl, h1, r1⟩ := trodAll_cons r0
  obtain ⟨rfl, rfl, rfl⟩ := trodAll_nil r1
  obtain rfl : args = #[v0, v1] := by cases args; simp_all
  obtain ⟨rfl, rfl⟩ := trodVars_none hV
  obtain ⟨A, l, c, rfl, hP, hl⟩ := open_prs h0 (hval 0 22 v0 rfl rfl)
  obtain ⟨a, rfl, _, _, ha⟩ := open_int Try.underlying3 (hval 1 3 v1 rfl rfl) h1
  refine (walk A l c a W hP hl ha).mono fun e W' ⟨he, hb⟩ => ⟨_, he, law_post rfl rfl ?_ rfl rfl rfl hW' hb⟩
  rw [Try.params12]
  intro t ht
  have ht' : t = 22 ∨ t = 3 := by simpa using ht
  rcases ht' with rfl | rfl <;> exact ⟨by kernel_rfl, of_decide_eq_true (by kernel_rfl)⟩

set_option maxRecDepth 100000 in
theorem lifted (os : Os) (started : os.Started) (H : Type) (enc : TypeId × Value → H) :
    ReturnsInHanded {} Try.checked os 12 .any (Rows.historyOwnsSpec.pre6 enc Try.prog Try.f12 Rows.historyOwnsRow.domain false) (Rows.historyOwnsSpec.post enc Try.prog Try.f12 false true false false) := by
  refine returnsInHanded_of_change (C := Try.checked) ownKnob_none started (by kernel_rfl) Try.func12
    (ChangeSpec.witness6 (enc := enc) (C := Try.checked) false ⟨#[], #[.slice none 0 0, .int .i64 0], []⟩ 8 (by kernel_rfl) (by kernel_rfl) (by kernel_rfl) (by kernel_rfl)) ?_
  intro W base args ds gs before hval hW _ _
  exact contract H enc W base args ds gs before hval hW

theorem proved : Rows.HistoryOwnsSaid :=
  OpenClaim.holds_of_wide 12 Try.f12 rfl rfl rfl rfl rfl rfl rfl ⟨rfl, rfl, rfl, rfl, rfl⟩ rfl rfl rfl rfl rfl (by kernel_rfl) Try.func12 (by kernel_rfl)
    (of_decide_eq_true (by kernel_rfl)) (by unfold Func.isWrapper; first | (rw [if_pos (by decide +kernel)]; kernel_rfl) | (rw [if_neg (by decide +kernel)]; exact ⟨rfl, rfl⟩))
    (fun os started H enc _ => lifted os started H enc)

end Go.Proofs.Ytiikbekboapphaa.lown
