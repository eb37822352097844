/- The function that inserts a line into a list. -/
import Derived.Test.YtmeoannheomdoaaInsMath
import Derived.Test.YtmeoannheomdoaaMine
import Derived.Deep.RegionLaw
import Derived.Deep.AppendLies
namespace Go.Proofs.Ytmeoannheomdoaa
open Go.RowKit

theorem step_append_at {P : Program} (w : World) {ops : Array Oper} {o : Oper} {a : Act} {K : Act → World → Prop} {Q : Exit → Act → World → Prop} {E : Prop} (hgd : o.guard = none) (s x : Operand) (t : TypeId)
    (ho : o.op = .call { callee := .builtin .append, args := #[s, x], argTypes := #[t, t] })
    (base : Nat) (e : TypeId) (i : TypeInfo) (z : Value) (size bytes : Nat) (ht : P.underlying t = some (.slice e)) (hi : P.info? e = some i) (hz : i.zero = some z)
    (hsize : i.size = size) (hby : i.bytes = bytes) (hzs : z.cells.size = size) (hsz : 0 < size)
    (v : Value) (n : Nat) (xs : List Value) (hs : a.eval s = v) (hown : w.ownsRow base e size v n xs)
    (ad : Addr) (m c : Nat) (news : List Value) (hx : a.eval x = .slice (some ad) m c) (hl : news.length = m * size) (hnews : ∀ j u, news[j]? = some u → w.cell? (ad.add j) = some u) (h1 : ∀ u ∈ news, u.oneCell' = true)
    (h63 : n + m ≤ maxLen) (hbytes : (n + m) * bytes ≤ 140737488355328) (hbase : base ≤ w.heap.size)
    (h : ∀ v' w', w'.ownsRow base e size v' (n + m) (xs ++ news) → w.grownBy w' v.ownBlock → (v' = .slice none 0 0 ↔ v = .slice none 0 0 ∧ m = 0) → (v'.ownBlock = v.ownBlock ∨ v'.ownBlock = some w.heap.size) → K (a.put o.dst v') w') :
    if Region.wanted o (yielded ops a.tmps) = true then Oper.wp P o a w K Q else E := by
  have hw : Region.wanted o (yielded ops a.tmps) = true := by simp [Region.wanted, hgd]
  rw [if_pos hw]
  obtain ⟨v', w', hr, h2, h3, h4, h5⟩ := run_append_own_at (P := P) w base t o.type e i z size bytes ht hi hz hsize hby hzs hsz v n xs hown ad m c news hl hnews h1 h63 hbytes hbase
  unfold Oper.wp execOp
  simp only [ho, resolve, invoke, builtin, Sem.run_bind, Sem.run_pure, Result.andThen_ok, List.map_toArray, List.map_cons, List.map_nil, hs, hx, hr]
  exact h v' w' h2 h3 h4 h5

theorem cut_h_some (ad : Addr) (n c k : Nat) (h2 : k ≤ n) (h3 : n ≤ c) : ∃ ad', (∀ W, (Instr.slice 23 (.slice (some ad) n c) none (some (.int .i64 (k : Int))) none).run Try.prog W = .ok (.slice (some ad') k c) W) ∧
    ∀ (w : World) (B : Nat) (xs : List Value), Row w B 1 (some ad) n c xs → ∀ j u, (xs.take k)[j]? = some u → ad'.block < B ∧ w.cell? (ad'.add j) = some u := by
  have he : Try.prog.elem 23 = 9 := by simp [Program.elem, Try.underlying23]
  refine ⟨if c = 0 then ad else ad.add 0, fun W => ?_, fun w B xs h j u hj => ?_⟩
  · rw [run_slice_h W 23 (some ad) n c (by rw [he]; exact Try.underlying23) _ _ (by omega) (by omega), he, show (Go.sizeOf 9).run Try.prog W = .ok 1 W from by kernel_rfl]
    show Result.ok (sliced (some ad) 0 (k : Int).toNat c 1) W = _
    unfold sliced
    by_cases e : c = 0
    · subst e; simp
    · simp [e]
  · have hjk : j < k := by
      have := (List.getElem?_eq_some_iff.1 hj).1
      rw [List.length_take] at this
      omega
    rw [List.getElem?_take_of_lt hjk] at hj
    obtain ⟨ad2, e, hb, hc⟩ := h.2.2.2 j u hj
    have e := Option.some.inj e
    subst e
    split
    · exact ⟨hb, hc⟩
    · rw [add_block, add_twice, Nat.zero_add]; exact ⟨hb, hc⟩
theorem cut_l_some (ad : Addr) (n c k : Nat) (h2 : k ≤ n) (h3 : n ≤ c) : ∃ ad', (∀ W, (Instr.slice 23 (.slice (some ad) n c) (some (.int .i64 (k : Int))) none none).run Try.prog W = .ok (.slice (some ad') (n - k) (c - k)) W) ∧
    ∀ (w : World) (B : Nat) (xs : List Value), Row w B 1 (some ad) n c xs → ∀ j u, (xs.drop k)[j]? = some u → ad'.block < B ∧ w.cell? (ad'.add j) = some u := by
  have he : Try.prog.elem 23 = 9 := by simp [Program.elem, Try.underlying23]
  refine ⟨if c = k then ad else ad.add k, fun W => ?_, fun w B xs h j u hj => ?_⟩
  · rw [run_slice_l W 23 (some ad) n c (by rw [he]; exact Try.underlying23) _ _ (by omega) (by omega), he, show (Go.sizeOf 9).run Try.prog W = .ok 1 W from by kernel_rfl]
    show Result.ok (sliced (some ad) (k : Int).toNat n c 1) W = _
    unfold sliced
    by_cases e : c = k
    · subst e; simp
    · simp [e]
  · rw [List.getElem?_drop] at hj
    obtain ⟨ad2, e, hb, hc⟩ := h.2.2.2 _ u hj
    have e := Option.some.inj e
    subst e
    have hlt : k + j < xs.length := (List.getElem?_eq_some_iff.1 hj).1
    have hl := h.1
    rw [if_neg (by omega), add_block, add_twice]
    exact ⟨hb, hc⟩

theorem ins_step {w W w3 : World} {g0 k : Nat} {v1 : Value} {ys : List Value} (hB : Below w.heap.size w W) (hown : w3.ownsRow w.heap.size 9 1 v1 (0 + k) ([] ++ ys)) (hgrow : W.grownBy w3 (Value.slice (some ⟨g0, 0, none⟩) 0 0).ownBlock)
    (hnil : v1 = .slice none 0 0 ↔ Value.slice (some ⟨g0, 0, none⟩) 0 0 = .slice none 0 0 ∧ k = 0) (hg : w.heap.size ≤ g0) : ∃ g c, v1 = .slice (some ⟨g, 0, none⟩) k c ∧ w3.ownsRow w.heap.size 9 1 (.slice (some ⟨g, 0, none⟩) k c) k ys ∧ Below w.heap.size w w3 := by
  rw [Nat.zero_add, List.nil_append] at hown
  obtain ⟨g, c, rfl⟩ := own_of_some hown (fun e => by have := (hnil.1 e).1; cases this)
  exact ⟨g, c, rfl, hown, hB.grown hgrow hB.size (fun j e => by have e' : g0 = j := (by simpa [Value.ownBlock] using e); omega)⟩
theorem ins_news {W w3 : World} {gs : Nat} {s : ByteArray} {row : Option Nat} (h : ∀ j u, [Value.string s][j]? = some u → W.cell? ((⟨gs, 0, none⟩ : Addr).add j) = some u) (hgrow : W.grownBy w3 row) (hne : some gs ≠ row) :
    ∀ j u, [Value.string s][j]? = some u → w3.cell? ((⟨gs, 0, none⟩ : Addr).add j) = some u := fun j u hj => hgrow.cell (h j u hj) (by rw [add_block]; exact hne)
theorem ins_step2 {w W w3 : World} {g0 n k c0 : Nat} {v1 : Value} {xs ys : List Value} (hB : Below w.heap.size w W) (hown : w3.ownsRow w.heap.size 9 1 v1 (n + k) (xs ++ ys)) (hgrow : W.grownBy w3 (Value.slice (some ⟨g0, 0, none⟩) n c0).ownBlock)
    (hnil : v1 = .slice none 0 0 ↔ Value.slice (some ⟨g0, 0, none⟩) n c0 = .slice none 0 0 ∧ k = 0) (hg : w.heap.size ≤ g0) : ∃ g c, v1 = .slice (some ⟨g, 0, none⟩) (n + k) c ∧ w3.ownsRow w.heap.size 9 1 (.slice (some ⟨g, 0, none⟩) (n + k) c) (n + k) (xs ++ ys) ∧ Below w.heap.size w w3 := by
  obtain ⟨g, c, rfl⟩ := own_of_some hown (fun e => by have := (hnil.1 e).1; cases this)
  exact ⟨g, c, rfl, hown, hB.grown hgrow hB.size (fun j e => by have e' : g0 = j := (by simpa [Value.ownBlock] using e); omega)⟩
theorem own_blk1 {w : World} {B g n c : Nat} {xs : List Value} (h : w.ownsRow B 9 1 (.slice (some ⟨g, 0, none⟩) n c) n xs) : B ≤ g := by
  rcases h.2 with ⟨hv, h0⟩ | ⟨g', cap, cur, hv, hge, hg, _⟩
  · cases hv
  · obtain ⟨rfl, _⟩ : g = g' ∧ c = cap := by simpa using hv
    exact hge
def InsOut (w : World) (n : Nat) (L : List ByteArray) (e : Ending) (w' : World) : Prop := ∃ g c, e = .returned (.slice (some ⟨g, 0, none⟩) n c) ∧ Strs w' w'.heap.size (some ⟨g, 0, none⟩) c L ∧ Below w.heap.size w w'
theorem ins_end {w w5 : World} {l : List ByteArray} {s : ByteArray} {k n g c : Nat} {X Y : List Value} (hX : (strC l).take k = X) (hY : (strC l).drop k = Y) (hn : l.length = n) (hk : k ≤ n)
    (h : w5.ownsRow w.heap.size 9 1 (.slice (some ⟨g, 0, none⟩) (k + 1 + (n - k)) c) (k + 1 + (n - k)) (X ++ [.string s] ++ Y)) (hb : Below w.heap.size w w5) : InsOut w (n + 1) (insL l k s) (.returned (.slice (some ⟨g, 0, none⟩) (k + 1 + (n - k)) c)) w5 := by
  have e : k + 1 + (n - k) = n + 1 := by omega
  rw [e] at h ⊢
  subst hX hY
  have e2 : (strC l).take k ++ [.string s] ++ (strC l).drop k = strC (insL l k s) := by
    unfold strC insL
    rw [List.map_append, List.map_cons, List.map_take, List.map_drop]
    simp
  rw [e2] at h
  exact ⟨g, c, rfl, (Strs.own h).2, hb⟩
set_option maxRecDepth 100000 in
set_option maxHeartbeats 4000000 in
theorem insert_any (l : List ByteArray) (ad : Addr) (c k n : Nat) (s : ByteArray) (w : World) (hS : Strs w w.heap.size (some ad) c l) (hn : l.length = n) (hk : k ≤ n) (hn2 : n ≤ 1000) :
    Calls Try.prog 33 #[.slice (some ad) n c, .int .i64 k, .string s] w (InsOut w (n + 1) (insL l k s)) := by
  obtain ⟨i9, hi, hz0, hz1, hz2⟩ := info_parts info9
  have hcap : n ≤ c := by have := hS.cap; omega
  obtain ⟨a1, r1, f1⟩ := cut_h_some ad n c k hk hcap
  obtain ⟨a2, r2, f2⟩ := cut_l_some ad n c k hk hcap
  have hR : Row w w.heap.size 1 (some ad) n c (strC l) := by have := hS; unfold Strs at this; rw [hn] at this; exact this
  have F1 := Lib.hid (f1 w w.heap.size (strC l) hR)
  have F2 := Lib.hid (f2 w w.heap.size (strC l) hR)
  have hlen : (strC l).length = n := by rw [strC_len]; exact hn
  have HLEN := Lib.hid hlen
  have hk0 : (0 : Int) ≤ (k : Int) := Int.natCast_nonneg _
  have hk1 : (k : Int) ≤ (n : Int) := by omega
  clear hS f1 f2 hR hlen
  go_enter Try.func33, Try.ntmps33
  go_wp2
  have hE1 : (w.drew.alloc (.cells #[] 9)).ownsRow w.heap.size 9 1 (.slice (some ⟨w.heap.size, 0, none⟩) 0 0) 0 [] := World.ownsRow_made w.drew #[] 0 (Nat.le_refl _) (by unfold maxLen; omega) rfl
  have hE2 := hE1.alloc (.cells #[.string s] 9)
  have hE3 : ((w.drew.alloc (.cells #[.string s] 9)).alloc (.cells #[] 9)).ownsRow w.heap.size 9 1 (.slice (some ⟨w.heap.size + 1, 0, none⟩) 0 0) 0 [] := by
    have := World.ownsRow_made (base := w.heap.size) (e := 9) (size := 1) (w.drew.alloc (.cells #[.string s] 9)) #[] 0 (by simp) (by unfold maxLen; omega) rfl
    rw [World.size_alloc] at this
    exact this
  have hb1 : Below w.heap.size w (w.drew.alloc (.cells #[] 9)) := (Below.drewN_ (Below.refl _ w) 1).alloc (Nat.le_refl _) _
  have hb2 : Below w.heap.size w ((w.drew.alloc (.cells #[] 9)).alloc (.cells #[.string s] 9)) := hb1.alloc (by simp) _
  have hb3 : Below w.heap.size w ((w.drew.alloc (.cells #[.string s] 9)).alloc (.cells #[] 9)) := ((Below.drewN_ (Below.refl _ w) 1).alloc (Nat.le_refl _) _).alloc (by simp) _
  have hN2 : ∀ j u, [Value.string s][j]? = some u → ((w.drew.alloc (.cells #[] 9)).alloc (.cells #[.string s] 9)).cell? ((⟨w.heap.size + 1, 0, none⟩ : Addr).add j) = some u := by
    have := cell_one_new (w.drew.alloc (.cells #[] 9)) (.string s) 9
    rw [World.size_alloc] at this
    exact this
  have hN3 : ∀ j u, [Value.string s][j]? = some u → ((w.drew.alloc (.cells #[.string s] 9)).alloc (.cells #[] 9)).cell? ((⟨w.heap.size, 0, none⟩ : Addr).add j) = some u := fun j u hj =>
    (World.cell?_alloc_lt _ _ _ (by rw [add_block]; simp)).trans (cell_one_new w.drew (.string s) 9 j u hj)
  have E1 := Lib.hid hE1
  have E2 := Lib.hid hE2
  have E3 := Lib.hid hE3
  have B1 := Lib.hid hb1
  have B2 := Lib.hid hb2
  have B3 := Lib.hid hb3
  have N2 := Lib.hid hN2
  have N3 := Lib.hid hN3
  have hlt : (strC l).length = n := HLEN.out
  have HT : Hid (((strC l).take k).length = k * 1) := Lib.hid (by rw [List.length_take, hlt]; omega)
  have HD : Hid (((strC l).drop k).length = (n - k) * 1) := Lib.hid (by rw [List.length_drop, hlt]; omega)
  have O1 : Hid (∀ u ∈ (strC l).take k, u.oneCell' = true) := Lib.hid (fun u hu => strC_one l u (List.mem_of_mem_take hu))
  have O2 : Hid (∀ u ∈ (strC l).drop k, u.oneCell' = true) := Lib.hid (fun u hu => strC_one l u (List.mem_of_mem_drop hu))
  have G1 := Lib.hid (fun (W : World) (hW : Below w.heap.size w W) (j : Nat) (u : Value) (hj : ((strC l).take k)[j]? = some u) => (show W.cell? (a1.add j) = some u from (hW.cell (by rw [add_block]; exact (F1.out j u hj).1)).trans (F1.out j u hj).2))
  have G2 := Lib.hid (fun (W : World) (hW : Below w.heap.size w W) (j : Nat) (u : Value) (hj : ((strC l).drop k)[j]? = some u) => (show W.cell? (a2.add j) = some u from (hW.cell (by rw [add_block]; exact (F2.out j u hj).1)).trans (F2.out j u hj).2))
  obtain ⟨X, HX⟩ : ∃ X, Hid ((strC l).take k = X) := ⟨_, Lib.hid rfl⟩
  obtain ⟨Y, HY⟩ : ∃ Y, Hid ((strC l).drop k = Y) := ⟨_, Lib.hid rfl⟩
  rw [HX.out] at HT O1 G1
  rw [HY.out] at HD O2 G2
  clear hE1 hE2 hE3 hb1 hb2 hb3 hN2 hN3 hlt
  go_region_law (first
    | ((with_reducible show @ite _ (Region.wanted _ _ = true) _ (Oper.wp _ _ _ (World.drew (World.alloc w (Obj.cells #[] 9))) _ _) _); refine step_append_at _ (by rfl) _ _ _ (by rfl) w.heap.size 9 i9 _ 1 16 Try.underlying23 hi hz0 hz1 hz2 rfl (by decide) (.slice (some ⟨w.heap.size, 0, none⟩) 0 0) 0 [] (by rfl) E1.out a1 k c X (by rfl) HT.out (G1.out _ B1.out) O1.out (by unfold maxLen; omega) (by omega) (by simp) ?_; intro v1 w3 ho1 hg1 hn1 _; obtain ⟨g1, c1, rfl, ho1, hb3⟩ := ins_step B1.out ho1 hg1 hn1 (Nat.le_refl _))
    | ((with_reducible show @ite _ (Region.wanted _ _ = true) _ (Oper.wp _ _ _ (World.drew (World.alloc (World.alloc w (Obj.cells #[] 9)) (Obj.cells #[Value.string s] 9))) _ _) _); refine step_append_at _ (by rfl) _ _ _ (by rfl) w.heap.size 9 i9 _ 1 16 Try.underlying23 hi hz0 hz1 hz2 rfl (by decide) (.slice (some ⟨w.heap.size, 0, none⟩) 0 0) 0 [] (by rfl) E2.out a1 k c X (by rfl) HT.out (G1.out _ B2.out) O1.out (by unfold maxLen; omega) (by omega) (by simp; omega) ?_; intro v1 w3 ho1 hg1 hn1 _; have hnw := ins_news N2.out hg1 (by simp [Value.ownBlock]); obtain ⟨g1, c1, rfl, ho1, hb3⟩ := ins_step B2.out ho1 hg1 hn1 (Nat.le_refl _))
    | ((with_reducible show @ite _ (Region.wanted _ _ = true) _ (Oper.wp _ _ _ (World.drew (World.alloc (World.alloc w (Obj.cells #[Value.string s] 9)) (Obj.cells #[] 9))) _ _) _); refine step_append_at _ (by rfl) _ _ _ (by rfl) w.heap.size 9 i9 _ 1 16 Try.underlying23 hi hz0 hz1 hz2 rfl (by decide) (.slice (some ⟨w.heap.size + 1, 0, none⟩) 0 0) 0 [] (by rfl) E3.out a1 k c X (by rfl) HT.out (G1.out _ B3.out) O1.out (by unfold maxLen; omega) (by omega) (by simp; omega) ?_; intro v1 w3 ho1 hg1 hn1 _; have hnw := ins_news N3.out hg1 (by simp [Value.ownBlock]); obtain ⟨g1, c1, rfl, ho1, hb3⟩ := ins_step B3.out ho1 hg1 hn1 (Nat.le_succ _))
    | ((with_reducible show @ite _ (Region.wanted _ _ = true) _ (Oper.wp _ _ _ (World.alloc w3 (Obj.cells #[Value.string s] 9)) _ _) _); refine step_append_at _ (by rfl) _ _ _ (by rfl) w.heap.size 9 i9 _ 1 16 Try.underlying23 hi hz0 hz1 hz2 rfl (by decide) (.slice (some ⟨g1, 0, none⟩) k c1) k X (by rfl) (ho1.alloc _) ⟨w3.heap.size, 0, none⟩ 1 1 [.string s] (by rfl) rfl (cell_one_new w3 (.string s) 9) (by simp [Value.oneCell']) (by unfold maxLen; omega) (by omega) (by have := hb3.size; simp; omega) ?_; intro v2 w4 ho2 hg2 hn2 _; obtain ⟨g2, c2, rfl, ho2, hb4⟩ := ins_step2 (hb3.alloc hb3.size _) ho2 hg2 hn2 (own_blk1 ho1))
    | ((with_reducible show @ite _ (Region.wanted _ _ = true) _ (Oper.wp _ _ _ (w3) _ _) _); refine step_append_at _ (by rfl) _ _ _ (by rfl) w.heap.size 9 i9 _ 1 16 Try.underlying23 hi hz0 hz1 hz2 rfl (by decide) (.slice (some ⟨g1, 0, none⟩) k c1) k X (by rfl) ho1 _ 1 1 [.string s] (by rfl) rfl hnw (by simp [Value.oneCell']) (by unfold maxLen; omega) (by omega) (by have := hb3.size; omega) ?_; intro v2 w4 ho2 hg2 hn2 _; obtain ⟨g2, c2, rfl, ho2, hb4⟩ := ins_step2 hb3 ho2 hg2 hn2 (own_blk1 ho1))
    | ((with_reducible show @ite _ (Region.wanted _ _ = true) _ (Oper.wp _ _ _ (w4) _ _) _); refine step_append_at _ (by rfl) _ _ _ (by rfl) w.heap.size 9 i9 _ 1 16 Try.underlying23 hi hz0 hz1 hz2 rfl (by decide) (.slice (some ⟨g2, 0, none⟩) (k + 1) c2) (k + 1) (X ++ [.string s]) (by rfl) ho2 a2 (n - k) (c - k) Y (by rfl) HD.out (G2.out _ hb4) O2.out (by unfold maxLen; omega) (by omega) (by have := hb4.size; omega) ?_; intro v3 w5 ho3 hg3 hn3 _; obtain ⟨g3, c3, rfl, ho3, hb5⟩ := ins_step2 hb4 ho3 hg3 hn3 (own_blk1 ho2))
    | fail)
  all_goals
    go_wp2
    go_ret
    exact ins_end HX.out HY.out hn hk ho3 hb5
end Go.Proofs.Ytmeoannheomdoaa
