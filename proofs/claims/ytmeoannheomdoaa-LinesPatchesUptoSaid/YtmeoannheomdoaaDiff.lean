/- Diff. -/
import Derived.StillTailTactics
import Derived.Test.YtmeoannheomdoaaAdd
namespace Go.Proofs.Ytmeoannheomdoaa
open Go.RowKit Go.Shelf
attribute [local go_sem] Oper.semAt_some

theorem pairs_any (A B : Option Addr) (n m c d : Nat) (w : World) :
    Calls Try.prog 40 #[.slice A n c, .slice B m d] w fun e w' => e = .returned (.func (.func 52) #[] #[.pointer (some ⟨w.heap.size, 0, none⟩), .pointer (some ⟨w.heap.size + 1, 0, none⟩)]) ∧ w' = (w.alloc (.cells #[.slice A n c] 23)).alloc (.cells #[.slice B m d] 23) := by
  go_enter Try.func40, Try.ntmps40
  go_wp2
  go_ret
  exact ⟨rfl, rfl⟩

/-- the places behind the last pair -/
def gpos : Nat → Nat → List (Nat × Nat) → Nat × Nat
  | i, j, [] => (i, j)
  | _, _, q :: t => gpos (q.1 + 1) (q.2 + 1) t
theorem gpos_snoc (q : Nat × Nat) : ∀ (l : List (Nat × Nat)) (i j : Nat), gpos i j (l ++ [q]) = (q.1 + 1, q.2 + 1)
  | [], _, _ => rfl
  | x :: l, _, _ => gpos_snoc q l _ _
theorem gaps_snoc (q : Nat × Nat) : ∀ (l : List (Nat × Nat)) (i j : Nat), gaps i j (l ++ [q]) = gaps i j l ++ gap (gpos i j l).1 (gpos i j l).2 q.1 q.2
  | [], i, j => by simp [gaps, gpos]
  | x :: l, i, j => by rw [List.cons_append, gaps, gaps, gpos, gaps_snoc q l, List.append_assoc]
theorem gaps_len : ∀ (l : List (Nat × Nat)) (i j : Nat), (gaps i j l).length ≤ l.length
  | [], _, _ => by simp [gaps]
  | x :: l, i, j => by
    have := gaps_len l (x.1 + 1) (x.2 + 1)
    rw [gaps, List.length_append, List.length_cons]
    have : (gap i j x.1 x.2).length ≤ 1 := by unfold gap; split <;> simp
    omega
def shP (p : Nat) (l : List Pr) : List (Nat × Nat) := shift p (l.map (·.1))
theorem shP_snoc (p : Nat) (l : List Pr) (x : Pr) : shP p (l ++ [x]) = shP p l ++ [(p + x.1.1, p + x.1.2)] := by simp [shP, shift]
theorem shP_len (p : Nat) (l : List Pr) : (shP p l).length = l.length := by simp [shP, shift]

theorem full_keep {W W' : World} {row : Option Nat} {g : Nat} {t : TypeId} {cs : List Value} (h : Full W g t cs) (hg : W.grownBy W' row) (hr : ∀ r, row = some r → ∃ o : Obj, W.heap[r]? = some o ∧ o.isCells = false) : Full W' g t cs :=
  h.grown hg (fun e => by
    obtain ⟨o, ho, hc⟩ := hr g e.symm
    have := (show W.heap[g]? = _ from h).symm.trans ho
    injection this with h1
    rw [← h1] at hc
    cases hc)
theorem row_keep {W W' : World} {row : Option Nat} {base size n : Nat} {e : TypeId} {v : Value} {xs : List Value} (h : W.ownsRow base e size v n xs) (hg : W.grownBy W' row) (hr : ∀ r, row = some r → ∃ o : Obj, W.heap[r]? = some o ∧ o.isCells = false) : W'.ownsRow base e size v n xs :=
  h.kept hg (by
    rcases h.2 with ⟨rfl, _⟩ | ⟨g', cap, cur, rfl, _, hh, _⟩
    · exact .inl rfl
    · refine .inr fun e => ?_
      obtain ⟨o, ho, hc⟩ := hr g' e.symm
      rw [hh] at ho
      injection ho with ho
      rw [← ho] at hc
      cases hc)
theorem coll_own {β : Type} (G n₀ : Nat) (f g : β → Nat) (L : β → List Hk) : Own (fun s W => Coll W G n₀ (f s) (g s) (L s)) := by
  rintro s W W' row ⟨A, c, h1, h2⟩ hg hr
  exact ⟨A, c, full_keep h1 hg hr, row_keep h2 hg hr⟩
theorem full_own {β : Type} (G : Nat) (t : TypeId) (f : β → List Value) : Own (fun s W => Full W G t (f s)) := fun s W W' row h hg hr => full_keep h hg hr

def DiffPost (w : World) (M : List Hk) (e : Ending) (w' : World) : Prop :=
  ∃ A c, e = .returned (.slice A M.length c) ∧ w'.ownsRow w.heap.size 40 4 (.slice A M.length c) M.length (hksC M) ∧ Below w.heap.size w w'

set_option maxRecDepth 100000 in
set_option maxHeartbeats 2000000 in
theorem diff_any (A B : Option Addr) (a b : List ByteArray) (c d : Nat) (w : World) (hA : Strs w w.heap.size A c a) (hB : Strs w w.heap.size B d b) (ha : a.length ≤ 1073741824) (hb : b.length ≤ 1073741824)
    (hza : ∀ s ∈ a, s.size ≤ maxLen) (hzb : ∀ s ∈ b, s.size ≤ maxLen) :
    Calls Try.prog 23 #[.slice A a.length c, .slice B b.length d] w (DiffPost w (diff a b)) := by
  have hcA := hA.cap
  have hcB := hB.cap
  obtain ⟨p, hp⟩ : ∃ p, pre a b = p := ⟨_, rfl⟩
  obtain ⟨hpa, hpb⟩ := pre_le a b
  rw [hp] at hpa hpb
  have hst := fun W (h1 : Strs W W.heap.size A c a) (h2 : Strs W W.heap.size B d b) => start_any A B a b c d W h1 h2 (by unfold maxLen; omega) (by unfold maxLen; omega)
  rw [hp] at hst
  obtain ⟨A1, hr1, hl1, hS1⟩ := strs_l A a c p hpa hcA
  obtain ⟨B1, hr2, hl2, hS2⟩ := strs_l B b d p hpb hcB
  obtain ⟨s, hs⟩ : ∃ s, suf (a.drop p) (b.drop p) = s := ⟨_, rfl⟩
  obtain ⟨hsa, hsb⟩ := suf_le (a.drop p) (b.drop p)
  rw [hs, hl1] at hsa
  rw [hs, hl2] at hsb
  refine (callsIn_wide (n := 3)).1 (callsIn_of_wp_marks Try.func23 rfl trivial ?_ rfl)
  refine wpIn_wide.2 ?_
  simp only [Try.ntmps23, List.size_toArray, List.length_cons, List.length_nil, Nat.reduceAdd, Nat.reduceSub, Array.replicate_succ, Array.replicate_zero, List.push_toArray, List.append_toArray, List.nil_append, List.cons_append]
  have HP := Lib.hid hp
  have HS := Lib.hid hs
  clear hp hs
  go_wp2_with (go_at_call 38; refine (hst _ hA hB).mono ?_; rintro e w1 ⟨rfl, q1, hw1⟩; have hB1 : Below w.heap.size w w1 := (by rw [hw1]; exact Below.drewN_ (Below.refl _ _) q1); have HW1 := Lib.hid hw1; clear hw1)
  have hF2 := Full.new w1 3 [.int .i64 (p : Int)]
  obtain ⟨gs, hgs⟩ : ∃ gs, w1.heap.size = gs := ⟨_, rfl⟩
  have hgs2 := hB1.size
  rw [hgs] at hF2 hgs2 ⊢
  obtain ⟨w2, hw2⟩ : ∃ w2, w1.alloc (.cells #[.int .i64 (p : Int)] 3) = w2 := ⟨_, rfl⟩
  have hB2 : Below w.heap.size w w2 := by rw [← hw2]; exact hB1.alloc (by rw [hgs]; exact hgs2) _
  have hF2' : Full w2 gs 3 [.int .i64 (p : Int)] := by rw [← hw2]; exact hF2
  rw [hw2]
  have hA2 : Strs w2 w2.heap.size A c a := hA.on hB2
  have hBb2 : Strs w2 w2.heap.size B d b := hB.on hB2
  have hend : ∀ q, Calls Try.prog 39 #[.slice A1 (a.length - p) (c - p), .slice B1 (b.length - p) (d - p)] (w2.drewN q) fun e w' => e = .returned (.int .i64 (s : Int)) ∧ ∃ m, w' = (w2.drewN q).drewN m := by
    intro q
    have := end_any A1 B1 (a.drop p) (b.drop p) (c - p) (d - p) (w2.drewN q) (hS1 _ _ hA2) (hS2 _ _ hBb2) (by unfold maxLen; rw [hl1]; omega) (by unfold maxLen; rw [hl2]; omega)
    rw [HS.out, hl1, hl2] at this
    exact this
  have c2 : w2.cell? ⟨gs, 0, none⟩ = some (.int .i64 (p : Int)) := hF2'.cell 0
  clear hF2 hw2 hst
  go_quiet ((go_at_call 39; exact Calls.quiet_of (hend _)))
  obtain ⟨w3, hw3⟩ : ∃ w3, w2.drewN nq = w3 := ⟨_, rfl⟩
  rw [hw3]
  have hB3 : Below w.heap.size w w3 := by rw [← hw3]; exact Below.drewN_ hB2 nq
  have hF3 : Full w3 gs 3 [.int .i64 (p : Int)] := by rw [← hw3]; exact hF2'
  have c3 : w3.cell? ⟨gs, 0, none⟩ = some (.int .i64 (p : Int)) := hF3.cell 0
  clear hw3 hend c2 hF2' hA2 hBb2 hr1 hr2 hS1 hS2
  obtain ⟨ea, hea⟩ : ∃ ea, a.length - s = ea := ⟨_, rfl⟩
  obtain ⟨eb, heb⟩ : ∃ eb, b.length - s = eb := ⟨_, rfl⟩
  have hia : (a.length : Int) - (s : Int) = (ea : Int) := by omega
  have hib : (b.length : Int) - (s : Int) = (eb : Int) := by omega
  have hpe : p ≤ ea ∧ ea ≤ a.length := by omega
  have hpf : p ≤ eb ∧ eb ≤ b.length := by omega
  obtain ⟨A2, hr3, hl3, hS3⟩ := strs_lh A a c p ea hpe.1 hpe.2 hcA
  obtain ⟨B2, hr4, hl4, hS4⟩ := strs_lh B b d p eb hpf.1 hpf.2 hcB
  have HEA := Lib.hid hea
  have HEB := Lib.hid heb
  clear hea heb
  have hp0 : (0 : Int) ≤ (p : Int) := Int.natCast_nonneg _
  go_wp2
  obtain ⟨G, hG⟩ : ∃ G, w3.heap.size = G := ⟨_, rfl⟩
  have hGs := hB3.size
  have hFG := Full.new w3 64 [.int .i64 (p : Int), .int .i64 (p : Int), .slice none 0 0]
  rw [hG] at hFG hGs ⊢
  have hF4 := hF3.alloc (.cells #[.int .i64 (p : Int), .int .i64 (p : Int), .slice none 0 0] 64)
  obtain ⟨w4, hw4⟩ : ∃ w4, w3.alloc (.cells #[.int .i64 (p : Int), .int .i64 (p : Int), .slice none 0 0] 64) = w4 := ⟨_, rfl⟩
  have hB4 : Below w.heap.size w w4 := by rw [← hw4]; exact hB3.alloc (by omega) _
  have hFG4 : Full w4 G 64 [.int .i64 (p : Int), .int .i64 (p : Int), .slice none 0 0] := by rw [← hw4]; exact hFG
  rw [hw4] at hF4 ⊢
  have c4 : w4.cell? ⟨gs, 0, none⟩ = some (.int .i64 (p : Int)) := hF4.cell 0
  clear hw4 hFG c3 hF3 hG
  go_still_tail 8, (by kernel_rfl)
  change wpList _ _ _ _ _ w4.drew
  obtain ⟨w5, hw5⟩ : ∃ w5, w4.drew = w5 := ⟨_, rfl⟩
  rw [hw5]
  have hB5 : Below w.heap.size w w5 := by rw [← hw5]; exact hB4.drew
  have hF5 : Full w5 gs 3 [.int .i64 (p : Int)] := by rw [← hw5]; exact hF4
  have hFG5 : Full w5 G 64 [.int .i64 (p : Int), .int .i64 (p : Int), .slice none 0 0] := by rw [← hw5]; exact hFG4
  clear hw5 c4 hF4 hFG4
  go_wp2_with (go_at_call 40; refine (pairs_any _ _ _ _ _ _ _).mono ?_; rintro e w6 ⟨rfl, rfl⟩)
  have hw5 := hB5.size
  have hxa : Full ((w5.alloc (.cells #[.slice A2 (ea - p) (c - p)] 23)).alloc (.cells #[.slice B2 (eb - p) (d - p)] 23)) w5.heap.size 23 [.slice A2 (ea - p) (c - p)] := (Full.new w5 23 [.slice A2 (ea - p) (c - p)]).alloc _
  have hxb : Full ((w5.alloc (.cells #[.slice A2 (ea - p) (c - p)] 23)).alloc (.cells #[.slice B2 (eb - p) (d - p)] 23)) (w5.heap.size + 1) 23 [.slice B2 (eb - p) (d - p)] := by
    have := Full.new (w5.alloc (.cells #[.slice A2 (ea - p) (c - p)] 23)) 23 [.slice B2 (eb - p) (d - p)]
    rwa [World.size_alloc] at this
  have hF6 := (hF5.alloc (.cells #[.slice A2 (ea - p) (c - p)] 23)).alloc (.cells #[.slice B2 (eb - p) (d - p)] 23)
  have hFG6 := (hFG5.alloc (.cells #[.slice A2 (ea - p) (c - p)] 23)).alloc (.cells #[.slice B2 (eb - p) (d - p)] 23)
  have hB6 : Below w.heap.size w ((w5.alloc (.cells #[.slice A2 (ea - p) (c - p)] 23)).alloc (.cells #[.slice B2 (eb - p) (d - p)] 23)) := (hB5.alloc hw5 _).alloc (by simp; omega) _
  obtain ⟨w6, hw6⟩ : ∃ w6, (w5.alloc (.cells #[.slice A2 (ea - p) (c - p)] 23)).alloc (.cells #[.slice B2 (eb - p) (d - p)] 23) = w6 := ⟨_, rfl⟩
  rw [hw6] at hxa hxb hF6 hFG6 hB6 ⊢
  obtain ⟨Ba, hBa⟩ : ∃ Ba, w5.heap.size = Ba := ⟨_, rfl⟩
  rw [hBa] at hxa hxb ⊢
  clear hw6 hBa hF5 hFG5 hB5 hw5
  have hdA : (a.drop p).take (ea - p) = mid a p s := by unfold mid; rw [← HEA.out]; congr 1; omega
  have hdB : (b.drop p).take (eb - p) = mid b p s := by unfold mid; rw [← HEB.out]; congr 1; omega
  have hSA := hS3 w6 w6.heap.size (hA.on hB6)
  have hSB := hS4 w6 w6.heap.size (hB.on hB6)
  rw [hdA] at hSA hl3
  rw [hdB] at hSB hl4
  have hst := fun h1 h2 => pairs_stops 2 (by omega) Ba (Ba + 1) A2 B2 (mid a p s) (mid b p s) (c - p) (d - p) w6 h1 h2 hxa.lt hxb.lt hSA hSB (by rw [hl3]; omega) (by rw [hl4]; omega)
    (fun x hx => hza x (List.mem_of_mem_drop (List.mem_of_mem_take hx))) (fun x hx => hzb x (List.mem_of_mem_drop (List.mem_of_mem_take hx)))
  rw [hl3, hl4] at hst
  have hstops := hst (hxa.cell 0) (hxb.cell 0)
  have hlen := midPairs_len (mid a p s) (mid b p s)
  rw [hl3] at hlen
  obtain ⟨N, hN⟩ : ∃ N, (midPairs (mid a p s) (mid b p s)).length = N := ⟨_, rfl⟩
  rw [hN] at hstops hlen
  have hd : diff a b = gaps p p (shift p (midPairs (mid a p s) (mid b p s)) ++ [(ea, eb)]) := by
    unfold diff
    rw [HP.out, HS.out, HEA.out, HEB.out]
  have HD := Lib.hid hd
  have HNN := Lib.hid hN
  clear hd hst hdA hdB hSA hSB hS3 hS4 hr3 hr4 hl3 hl4 hN hza hzb
  have hn₀ : w.heap.size ≤ w6.heap.size := hB6.size
  refine wpIn_wide.1 (wpIn_rangeFunc_ownG (n := 3) rfl (by omega) (gf := 52) (lb := #[.pointer (some ⟨Ba, 0, none⟩), .pointer (some ⟨Ba + 1, 0, none⟩)]) rfl trivial (enters_of Try.func52 (by kernel_rfl) rfl)
    hstops (fun h k => KeepIB.trans h k) (fun W l o o' _ h hc _ => KeepIB.putObj W l o o' h hc) (Below.refl _ _) (fun _ => rfl)
    (fun (pre : List Pr) W => (Coll W G w.heap.size (gpos p p (shP p pre)).1 (gpos p p (shP p pre)).2 (gaps p p (shP p pre)) ∧ Full W gs 3 [.int .i64 (p : Int)]) ∧ Below w.heap.size w W)
    (fun _ _ _ => False)
    (OwnFrom.and (OwnFrom.and (Own.from (coll_own G w.heap.size (fun pre : List Pr => (gpos p p (shP p pre)).1) (fun pre : List Pr => (gpos p p (shP p pre)).2) (fun pre : List Pr => gaps p p (shP p pre))) _) (Own.from (full_own gs 3 (fun _ : List Pr => [.int .i64 (p : Int)])) _)) (ownFrom_below (Nat.le_refl _) hn₀))
    (fun _ _ _ _ _ hs _ _ => hs)
    ⟨⟨⟨none, 0, hFG6, World.ownsRow_nil _ _ _ _⟩, hF6⟩, hB6⟩
    (fun x => { tmps := #[.slice A a.length c, .slice B b.length d, undef, undef, .slice none 0 0, .pointer (some ⟨gs, 0, none⟩), .int .i64 (s : Int), .int .i64 (ea : Int), .int .i64 (eb : Int), .pointer (some ⟨G, 0, none⟩), .int .i64 (x.1.1 : Int), .int .i64 (x.1.2 : Int), .slice A a.length c, .slice B b.length d, .int .i64 (p : Int), .slice A a.length c, .int .i64 (p : Int), .slice A1 (a.length - p) (c - p), .slice B b.length d, .int .i64 (p : Int), .slice B1 (b.length - p) (d - p), .int .i64 (s : Int), .slice A a.length c, .int .i64 (a.length : Int), .int .i64 (s : Int), .int .i64 (ea : Int), .slice B b.length d, .int .i64 (b.length : Int), .int .i64 (s : Int), .int .i64 (eb : Int), .int .i64 (p : Int), .int .i64 (p : Int), .agg #[.int .i64 (p : Int), .int .i64 (p : Int), .slice none 0 0], .slice A a.length c, .int .i64 (p : Int), .int .i64 (ea : Int), .slice A2 (ea - p) (c - p), .slice B b.length d, .int .i64 (p : Int), .int .i64 (eb : Int), .slice B2 (eb - p) (d - p), .func (.func 52) #[] #[.pointer (some ⟨Ba, 0, none⟩), .pointer (some ⟨Ba + 1, 0, none⟩)], .int .i64 (x.1.1 : Int), .int .i64 (x.1.2 : Int), undef, undef, undef, undef, undef, undef, undef, undef, undef, undef, undef, undef], defers := [] }) ?assign ?body ?done ?stop)
  case assign =>
    intro l x W K hK
    gi_wp2
    exact hK
  case body =>
    rintro l pre ⟨⟨xi, xj⟩, hxi, hxj⟩ W ⟨⟨hC, hFs⟩, hB⟩ hlt
    dsimp only at hxi hxj
    have hfn : ∀ k, (Fence.wide.inRound l).fn k := fun _ => trivial
    have cs := hFs.cell 0
    have cs' : W.cell? ⟨gs, 0, none⟩ = some (.int .i64 (p : Int)) := cs
    have hgl := gaps_len (shP p pre) p p
    rw [shP_len] at hgl
    have hadd := fun h => add_any G w.heap.size _ _ (p + xi) (p + xj) _ W hC h (by omega) (by omega) (by omega)
    rw [show ((p + xi : Nat) : Int) = (p : Int) + (xi : Int) from Int.natCast_add p xi, show ((p + xj : Nat) : Int) = (p : Int) + (xj : Int) from Int.natCast_add p xj, ← gaps_snoc (p + xi, p + xj)] at hadd
    clear cs
    gi_wp2_with (gi_at_call 41; refine (((callsIn_wide (n := 0)).2 (hadd hGs)).inRound l).mono ?_; rintro e W2 ⟨⟨v, rfl⟩, hC2, hb2, hk2, ho2⟩)
    refine ⟨ho2.from _, hk2, ⟨?_, hk2 _ _ _ (.inl rfl) hFs⟩, hB.trans hb2⟩
    rw [shP_snoc, gpos_snoc]
    exact hC2
  case done =>
    rintro D ys W hD hys ⟨⟨hC, hFs⟩, hB⟩ hK
    have hL : ys.length ≤ 1073741824 := by
      have := congrArg List.length hys
      rw [List.length_map, HNN.out] at this
      omega
    have hgl := gaps_len (shP p ys) p p
    rw [shP_len] at hgl
    have hadd := fun h => add_any G w.heap.size _ _ ea eb _ W hC h (by omega) (by omega) (by omega)
    have hfin : gaps p p (shP p ys) ++ gap (gpos p p (shP p ys)).1 (gpos p p (shP p ys)).2 ea eb = diff a b := by
      rw [← gaps_snoc (ea, eb), HD.out]
      unfold shP
      rw [hys]
    rw [hfin] at hadd
    have HADD := Lib.hid hadd
    clear hfin hadd hgl hL
    go_wp2_with (go_at_call 41; refine (HADD.out hGs).mono ?_; rintro e W2 ⟨⟨v, rfl⟩, ⟨A3, c3, hF3, hown3⟩, hb2, hk2, ho2⟩; have cG : W2.cell? ⟨G, 2, none⟩ = some (.slice A3 (diff a b).length c3) := hF3.cell 2)
    have hK2 := ho2.same D _ hK rfl
    refine ⟨by simp, .inl ⟨_, _, rfl, run_takeDeferred hK2, ?_⟩⟩
    refine ⟨_, results_tmp rfl _ _ _, A3, c3, rfl, ownsRow_putObj hown3 _ hK2 rfl, (hB.trans hb2).trans (belowK_b (n₀ := w.heap.size) (w := w) (Nat.le_refl _) W2 D _ _ (Nat.le_trans hn₀ hD) hK2 rfl rfl)⟩
  case stop =>
    rintro D c pre W _ _ h _
    exact h.elim

end Go.Proofs.Ytmeoannheomdoaa
