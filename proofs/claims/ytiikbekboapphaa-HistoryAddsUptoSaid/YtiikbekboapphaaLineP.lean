/- Line. -/
import Derived.Test.YtiikbekboapphaaLogP
import Derived.Test.YtiikbekboapphaaNextF
namespace Go.Proofs.Ytiikbekboapphaa
set_option maxRecDepth 100000
open Go.RowKit
theorem rest_le {R : Nat → Bool} {t k : Nat} (h : k ∈ restL R t) : k ≤ t ∧ 0 < t := by
  unfold restL at h
  by_cases h0 : t = 0
  · rw [if_pos h0] at h; cases h
  · rw [if_neg h0] at h
    rcases List.mem_cons.1 h with e | e
    · omega
    · have := (desc_mem.1 e).2.1; omega
theorem line_no {cs : List Cm} (hg : Good cs) {x y t : Nat} {acc : List Nat} (h1 : 1 ≤ x) (h : acc ++ restL (rch (firsts cs) y) t = desc (rch (firsts cs) y) y) (ha : ∀ k ∈ acc, x < k) (ht : t < x) : rch (firsts cs) y x = false := by
  cases e : rch (firsts cs) y x with
  | false => rfl
  | true =>
    have hm : x ∈ desc (rch (firsts cs) y) y := desc_mem.2 ⟨h1, rch_le (firsts_down hg) _ _ e, e⟩
    rw [← h] at hm
    rcases List.mem_append.1 hm with hm | hm
    · have := ha x hm; omega
    · have := (rest_le hm).1; omega
theorem line_yes {cs : List Cm} {x y : Nat} {acc : List Nat} (h1 : 1 ≤ x) (h : acc ++ restL (rch (firsts cs) y) x = desc (rch (firsts cs) y) y) (ha : ∀ k ∈ acc, x < k) : rch (firsts cs) y x = true ∧ lineR cs x y = acc.reverse := by
  have e : restL (rch (firsts cs) y) x = x :: desc (rch (firsts cs) y) (x - 1) := by unfold restL; rw [if_neg (by omega)]
  rw [e] at h
  constructor
  · have : x ∈ desc (rch (firsts cs) y) y := by rw [← h]; simp
    exact (desc_mem.1 this).2.2
  · unfold lineR
    rw [← h, List.filter_append]
    have e1 : acc.filter (fun k => decide (x < k)) = acc := List.filter_eq_self.2 fun k hk => by simpa using ha k hk
    have e2 : (x :: desc (rch (firsts cs) y) (x - 1)).filter (fun k => decide (x < k)) = [] := by
      refine List.filter_eq_nil_iff.2 fun k hk => ?_
      rcases List.mem_cons.1 hk with e | e
      · simp; omega
      · have := (desc_mem.1 e).2.1; simp; omega
    rw [e1, e2, List.append_nil]
def LineOut (w : World) (ok : Bool) (R : List Nat) (e : Ending) (w' : World) : Prop :=
  ∃ A c, e = .returned (.tuple #[.slice A R.length c, .bool ok]) ∧ w'.ownsRow w.heap.size 3 1 (.slice A R.length c) R.length (natC R) ∧ Below w.heap.size w w'
theorem line_none {w w' : World} (h : Below w.heap.size w w') : LineOut w false [] (.returned (.tuple #[.slice none 0 0, .bool false])) w' := ⟨none, 0, rfl, World.ownsRow_nil _ _ _ _, h⟩
theorem LI.end {w W w3 : World} {k : Nat} {fv : Value} {lead : Nat → List Nat} {head t : Nat} {S : Nat → Prop} {v : Value} {acc : List Nat} (h : LI w W k fv lead head t S v acc) (ht : Turn (fun k => v.ownBlock = some k) W w3) : Below w.heap.size w w3 :=
  h.below.trans (ht.below (fun g e => row_ge h.row g e) h.below.size)
set_option maxHeartbeats 4000000 in
theorem line_any {B : Nat} {w : World} {p : Nat} {cs : List Cm} {F : Nat → Prop} (h : IsH B w p cs F) (hs : cs.length ≤ 1000) (a b : Int) :
    Calls Try.prog 28 #[.pointer (some ⟨p, 0, none⟩), .int .i64 a, .int .i64 b] w (LineOut w (lineOk cs a b) (lineP cs a b)) := by
  have hmf : ∀ fn first cap w, (Instr.makeFunc fn first cap).run Try.prog w = .ok (.func fn first cap) w := fun _ _ _ _ => rfl
  have HA := Lib.hid (has_any h a)
  have HB := Lib.hid (has_any h b)
  obtain ⟨i3, hi, hz0, hz1, hz2⟩ := info_parts info3
  cases ha : inR cs.length a with
  | false =>
    rw [ha] at HA
    have h1 : lineOk cs a b = false := by unfold lineOk; rw [ha]; rfl
    rw [show lineP cs a b = [] by unfold lineP; rw [h1]; rfl, h1]
    clear h ha h1
    go_enter Try.func28, Try.ntmps28
    go_wp2_with (go_at_call 41; ((with_reducible refine HA.out.mono ?_); rintro e w1 ⟨rfl, rfl⟩))
    refine bodyPost_ret (v := .tuple #[.slice none 0 0, .bool false]) (by simp [results, Try.results28, go_sem]) rfl ?_
    exact line_none (Below.refl _ _)
  | true =>
    cases hb : inR cs.length b with
    | false =>
      rw [ha] at HA
      rw [hb] at HB
      have h1 : lineOk cs a b = false := by unfold lineOk; rw [ha, hb]; rfl
      rw [show lineP cs a b = [] by unfold lineP; rw [h1]; rfl, h1]
      clear h ha hb h1
      go_enter Try.func28, Try.ntmps28
      go_wp2_with (first
        | (go_at_call 41; ((with_reducible refine HA.out.mono ?_); rintro e w1 ⟨rfl, rfl⟩))
        | (go_at_call 41; ((with_reducible refine HB.out.mono ?_); rintro e w2 ⟨rfl, rfl⟩)))
      refine bodyPost_ret (v := .tuple #[.slice none 0 0, .bool false]) (by simp [results, Try.results28, go_sem]) rfl ?_
      exact line_none (Below.refl _ _)
    | true =>
      have ha' := inR_iff.1 ha
      have hb' := inR_iff.1 hb
      obtain ⟨x, rfl⟩ : ∃ x : Nat, a = x := ⟨a.toNat, by omega⟩
      obtain ⟨y, rfl⟩ : ∃ y : Nat, b = y := ⟨b.toNat, by omega⟩
      rw [ha] at HA
      rw [hb] at HB
      have hok : lineOk cs (x : Int) (y : Int) = rch (firsts cs) y x := by unfold lineOk; rw [ha, hb]; simp
      have hP : lineP cs (x : Int) (y : Int) = if rch (firsts cs) y x then lineR cs x y else [] := by unfold lineP; rw [hok]; simp
      rw [hok, hP]
      have hg := h.good
      have HNO := Lib.hid (fun (t : Nat) (acc : List Nat) => line_no (x := x) (y := y) (t := t) (acc := acc) hg (by omega))
      have HYES := Lib.hid (fun (acc : List Nat) => line_yes (cs := cs) (x := x) (y := y) (acc := acc) (by omega))
      have WA := Lib.hid (fun (W : World) => from_any W 46 p (firsts cs) y (by omega))
      unfold FromOut at WA
      have NA := Lib.hid (fun (k t : Nat) (S : Nat → Prop) (w1 : World) (hk : IsWk w1 k (fnV 46 p) (firsts cs) y t S) (hS : ∀ x, S x → w.heap.size ≤ x) (hb : Below w.heap.size w w1) => nextF_any hk (h.on hb) (fun z h1 h2 => by have := (h.in_ z h1).2; have := hS z h2; omega) hs (by omega))
      unfold nextFOut at NA
      have ex : top (rch (firsts cs) y) (y + 1 - 1) = y := top_self (rch_self _ _)
      have NA0 := Lib.hid (fun (k : Nat) (S : Nat → Prop) (w1 : World) (hk : IsWk w1 k (fnV 46 p) (firsts cs) y (y + 1) S) (hS : ∀ x, S x → w.heap.size ≤ x) (hb : Below w.heap.size w w1) => (show Calls Try.prog 45 #[.pointer (some ⟨k, 0, none⟩)] w1 fun e w' => e = .returned (.int .i64 (y : Int)) ∧ ∃ S', Goes S w1 w' S' ∧ (0 < y → IsWk w' k (fnV 46 p) (firsts cs) y y S') from by
        have := NA.out k (y + 1) S w1 hk hS hb
        rwa [ex] at this))
      have e2 : top (rch (firsts cs) y) y = y := top_self (rch_self _ _)
      obtain ⟨LR, hLR⟩ : ∃ LR, lineR cs x y = LR := ⟨_, rfl⟩
      rw [hLR] at HYES ⊢
      obtain ⟨L, hL⟩ : ∃ L, firsts cs = L := ⟨_, rfl⟩
      rw [hL] at NA NA0 WA HNO HYES e2 ⊢
      obtain ⟨R, hR⟩ : ∃ R, rch L y = R := ⟨_, rfl⟩
      rw [hR] at NA HNO HYES e2 ⊢
      have HE2 := Lib.hid e2
      obtain ⟨OK, hOK⟩ : ∃ OK, R x = OK := ⟨_, rfl⟩
      have HOK := Lib.hid hOK
      rw [hOK]
      obtain ⟨RES, hRES⟩ : ∃ RES, (if OK = true then LR else []) = RES := ⟨_, rfl⟩
      have HRES := Lib.hid hRES
      rw [hRES]
      clear hOK hRES
      have hx0 : 1 ≤ x := by omega
      have hy0 : 1 ≤ y := by omega
      have hy1 : y ≤ 1000 := by omega
      have hx1 : x ≤ 1000 := by omega
      clear h ha hb ha' hb' hL hR ex e2 hok hP hg hLR
      go_enter Try.func28, Try.ntmps28
      go_wp2_with (first
        | (go_at_call 41; ((with_reducible refine HA.out.mono ?_); rintro e w1 ⟨rfl, rfl⟩))
        | (go_at_call 41; ((with_reducible refine HB.out.mono ?_); rintro e w2 ⟨rfl, rfl⟩))
        | (go_at_call 42; ((with_reducible refine (WA.out _).mono ?_); rintro e w3 ⟨k, S, rfl, hk, hS, hb3⟩))
        | (go_at_call 45; ((with_reducible refine (NA0.out _ _ _ hk hS hb3).mono ?_); rintro e w4 ⟨rfl, S4, hg4, hk4⟩)))
      have HLI := Lib.hid (show LI w w4 k (fnV 46 p) L y y S4 (.slice none 0 0) [] from ⟨hk4, goes_ge hb3 hS hg4, goes_below hb3 hS hg4, World.ownsRow_nil _ _ _ _, fun y hy => by simp [Value.ownBlock] at hy⟩)
      clear hk hS hb3 hg4 hk4
      go_loopw [8, 10] (fun v8 v10 wr => ∃ (A : Option Addr) (n c t : Nat) (acc : List Nat) (S : Nat → Prop), v8 = .slice A n c ∧ v10 = .int .i64 (t : Int) ∧ n + t ≤ 2000 ∧ Hid (LI w wr k (fnV 46 p) L y t S (.slice A n c) acc ∧ acc.length = n ∧ acc ++ restL R t = desc R y ∧ ∀ k ∈ acc, x < k)) (fun _ v10 _ => (intOf v10).toNat)
      case atStart => exact ⟨none, 0, 0, y, [], S4, rfl, rfl, by omega, Lib.hid ⟨HLI.out, rfl, by rw [rest_desc R y, HE2.out]; rfl, fun k hk => by cases hk⟩⟩
      case round =>
        obtain ⟨A, n, c, t, acc, S, rfl, rfl, hnt, H⟩ := hrel
        by_cases htx : t ≤ x
        · have hti : (t : Int) ≤ (x : Int) := by omega
          by_cases hte : t = x
          · subst hte
            have hy := HYES.out acc H.out.2.2.1 H.out.2.2.2
            have HYY := Lib.hid hy
            have RV := Lib.hid (rev_any H.out.1.row (by rw [H.out.2.1]; omega))
            rw [H.out.2.1] at RV
            unfold RevOut at RV
            clear hy
            go_wp2_with (go_at_call 47; ((with_reducible refine RV.out.mono ?_); rintro e w7 ⟨rfl, hr7, ht7⟩))
            refine bodyPost_ret (v := .tuple #[.slice A n c, .bool true]) (by simp [results, Try.results28, go_sem]) rfl ?_
            rw [← HRES.out, ← HOK.out, HYY.out.1, HYY.out.2, if_pos rfl]
            refine ⟨A, c, by rw [List.length_reverse, H.out.2.1], ?_, H.out.1.end ht7⟩
            rw [List.length_reverse, H.out.2.1]
            exact hr7
          · have hne : ((t : Int) == (x : Int)) = false := by simp; omega
            have hno := HNO.out t acc H.out.2.2.1 H.out.2.2.2 (by omega)
            have HNN := Lib.hid hno
            clear hno
            go_wp2
            refine bodyPost_ret (v := .tuple #[.slice none 0 0, .bool false]) (by simp [results, Try.results28, go_sem]) rfl ?_
            rw [← HRES.out, ← HOK.out, HNN.out]
            exact line_none H.out.1.below
        · have hti : (x : Int) < (t : Int) := by omega
          have htl := top_le R (t - 1)
          obtain ⟨t', ht'⟩ : ∃ t', top R (t - 1) = t' := ⟨_, rfl⟩
          have NN := Lib.hid (fun (w3 : World) (hk : IsWk w3 k (fnV 46 p) L y t S) (hb : Below w.heap.size w w3) => NA.out k t S w3 hk H.out.1.ge hb)
          rw [ht'] at NN htl
          have HT' := Lib.hid ht'
          have hown := H.out.1.row
          rw [H.out.2.1] at hown
          have HO := Lib.hid hown
          have hsz := H.out.1.below.size
          clear ht' hown
          go_wp2_with (first
            | (at_builtin; refine wpList_append_lies _ rfl _ _ 23 rfl w.heap.size 3 i3 _ 1 8 Try.underlying23 hi hz0 hz1 hz2 rfl (by decide) (.slice A n c) n _ rfl (HO.out.alloc _) ⟨wr.heap.size, 0, none⟩ 1 1 [.int .i64 (t : Int)] rfl rfl (cell_one_new _ _ _) (by simp [Value.oneCell']) (by omega) (by unfold maxLen; omega) (by omega) (by simp; omega) (wr.heap.size + 1) (by simp) ?_; intro g5 c5 w5 hown5 hgrow5 hat5 hlt5; (have hk5 := H.out.1.keepS (by omega) hgrow5); (have hb5 := H.out.1.below3 hgrow5))
            | (go_at_call 45; ((with_reducible refine (NN.out _ hk5 hb5).mono ?_); rintro e w6 ⟨rfl, S6, hg6, hk6⟩)))
          go_roundw
          case rel =>
            refine ⟨some ⟨g5, 0, none⟩, n + 1, c5, t', acc ++ [t], S6, rfl, rfl, by omega, Lib.hid ⟨H.out.1.add (by omega) H.out.2.1 hown5 hgrow5 hat5 hg6 hk6, by rw [List.length_append, H.out.2.1]; rfl, ?_, fun k hk => ?_⟩⟩
            · have hq := H.out.2.2.1
              rw [← hq, List.append_assoc]
              congr 1
              conv => rhs; unfold restL
              rw [if_neg (by omega), rest_desc R (t - 1), HT'.out]
              rfl
            · rcases List.mem_append.1 hk with hk | hk
              · exact H.out.2.2.2 k hk
              · have : k = t := by simpa using hk
                omega
          case measure => simp [intOf]; omega
end Go.Proofs.Ytiikbekboapphaa
