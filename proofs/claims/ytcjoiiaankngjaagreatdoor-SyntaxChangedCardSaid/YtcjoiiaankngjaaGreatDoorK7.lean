/- The Syntax seat, part 7: contracts of the program and of the reference. -/
import Derived.Test.YtcjoiiaankngjaaGreatDoorK6
import Derived.ChangeShapes
import Derived.Deep.DeepHandedRow
import Derived.Deep.Slices
/- joined. -/
namespace Go.Proofs.YtcjoiiaankngjaaGreatDoor
set_option maxRecDepth 100000
open Go.RowKit
theorem gap_len {s : List UInt8} (h : s ∈ gapsB) : s.length ≤ 13 ∧ Asc s := by
  unfold gapsB at h
  simp only [List.mem_cons, List.not_mem_nil, or_false] at h
  rcases h with rfl | rfl | rfl | rfl | rfl | rfl <;> exact ⟨by decide, by unfold Asc; decide⟩
theorem joinG_len (g : List Int) (b : Nat) : ∀ (L : List (List UInt8)) (i : Nat), (∀ p ∈ L, p.length ≤ b) → (joinG g i L).length ≤ L.length * (b + 13)
  | [], _, _ => by simp [joinG]
  | x :: t, i, h => by
    have ih := joinG_len g b t (i + 1) (fun y hy => h y (List.mem_cons_of_mem _ hy))
    have h1 := h x (by simp)
    have h2 := (gap_len (gap_mem g i)).1
    show (x ++ gapOf g i ++ joinG g (i + 1) t).length ≤ _
    rw [List.length_append, List.length_append, List.length_cons, Nat.add_mul]
    omega
theorem joinG_asc (g : List Int) : ∀ (L : List (List UInt8)) (i : Nat), (∀ p ∈ L, Asc p) → Asc (joinG g i L)
  | [], _, _ => fun b hb => by simp [joinG] at hb
  | x :: t, i, h => by
    have ih := joinG_asc g t (i + 1) (fun y hy => h y (List.mem_cons_of_mem _ hy))
    intro b hb
    rcases List.mem_append.1 hb with hb | hb
    · rcases List.mem_append.1 hb with hb | hb
      · exact h x (by simp) b hb
      · exact (gap_len (gap_mem g i)).2 b hb
    · exact ih b hb
def gapsC : List Value := [.string ⟨#[32]⟩, .string ⟨#[10]⟩, .string ⟨#[32, 32, 9]⟩, .string ⟨#[13, 10]⟩, .string ⟨#[32, 35, 32, 110, 111, 116, 101, 59, 32, 34, 32, 125, 10]⟩, .string ⟨#[10, 10]⟩]
set_option maxHeartbeats 16000000 in
theorem joined20_any {w : World} {B Bg c cg : Nat} {A Ag : Option Addr} {L : List (List UInt8)} {g : List Int} (hS : Row w B 1 A L.length c (txC L)) (hB : B ≤ w.heap.size) (hG : Row w Bg 1 Ag g.length cg (intsC g)) (hBg : Bg ≤ w.heap.size) (hg : g.length ≤ 9223372036854775807)
    (hl : L.length ≤ 1000000) (hx : ∀ p ∈ L, p.length ≤ 1000000000) : Calls Tryz.prog 20 #[.slice A L.length c, .slice Ag g.length cg] w (StrB w (str (joinG g 0 L))) := by
  unfold StrB
  have hcap := hS.2.1
  have hcg := hG.2.1
  obtain ⟨R, hR⟩ : ∃ z, joinG g 0 L = z := ⟨_, rfl⟩
  rw [hR]
  obtain ⟨n, hn⟩ : ∃ z, L.length = z := ⟨_, rfl⟩
  obtain ⟨m, hm⟩ : ∃ z, g.length = z := ⟨_, rfl⟩
  rw [hn] at hcap hl ⊢
  rw [hm] at hcg hg ⊢
  have HA := Lib.hid (And.intro hS (And.intro hB (And.intro hG (And.intro hBg (And.intro hn (And.intro hm hx))))))
  have HR := Lib.hid hR
  have HW := Lib.hid (show Full (w.alloc (.cells #[.string ⟨#[32]⟩, .string ⟨#[10]⟩, .string ⟨#[32, 32, 9]⟩, .string ⟨#[13, 10]⟩, .string ⟨#[32, 35, 32, 110, 111, 116, 101, 59, 32, 34, 32, 125, 10]⟩, .string ⟨#[10, 10]⟩] 9)) w.heap.size 9 (txC gapsB) ∧ Below w.heap.size w (w.alloc (.cells #[.string ⟨#[32]⟩, .string ⟨#[10]⟩, .string ⟨#[32, 32, 9]⟩, .string ⟨#[13, 10]⟩, .string ⟨#[32, 35, 32, 110, 111, 116, 101, 59, 32, 34, 32, 125, 10]⟩, .string ⟨#[10, 10]⟩] 9)) from ⟨Full.new w 9 _, (Below.refl _ w).alloc (Nat.le_refl _) _⟩)
  clear hS hB hG hBg hn hm hx hR
  go_enter Tryz.func20, Tryz.ntmps20
  go_upto_region 4 with fail
  obtain ⟨w1, hw1⟩ : ∃ z, w.alloc (.cells #[.string ⟨#[32]⟩, .string ⟨#[10]⟩, .string ⟨#[32, 32, 9]⟩, .string ⟨#[13, 10]⟩, .string ⟨#[32, 35, 32, 110, 111, 116, 101, 59, 32, 34, 32, 125, 10]⟩, .string ⟨#[10, 10]⟩] 9) = z := ⟨_, rfl⟩
  obtain ⟨q, hq⟩ : ∃ z, w.heap.size = z := ⟨_, rfl⟩
  rw [hw1] at HW ⊢
  rw [hq]
  have HQ := Lib.hid hq
  clear hw1 hq
  go_loopw [5, 7] (fun v5 v7 wr => ∃ (k : Nat) (x : ByteArray), v5 = .string x ∧ v7 = .int .i64 (k : Int) ∧ k ≤ n ∧ x.size ≤ k * 1000000013 ∧ Hid (x.data.toList ++ joinG g k (L.drop k) = R) ∧ Hid (Below w1.heap.size w1 wr)) (fun _ v7 _ => n - (intOf v7).toNat)
  case atStart => exact ⟨0, ⟨#[]⟩, rfl, rfl, Nat.zero_le _, Nat.zero_le _, HR, Lib.hid (Below.refl _ w1)⟩
  case round =>
    obtain ⟨k, x, rfl, rfl, hk, hxs, HX, HBW⟩ := hrel
    have k0 : (0 : Int) ≤ (k : Int) := Int.natCast_nonneg _
    by_cases hlt : k < n
    · have k1 : (k : Int) < (n : Int) := by omega
      have hd : decide ((k : Int) < (n : Int)) = true := by rw [decide_eq_true_eq]; exact k1
      obtain ⟨hS, hB, hG, hBg, hn, hm, hx⟩ := HA.out
      have hkl : k < L.length := by omega
      have hBW : Below w.heap.size w wr := Below.then_ HW.out.2 HBW.out
      have eS : (txC L)[k]? = some (.string (str L[k])) := by unfold txC; rw [List.getElem?_map, List.getElem?_eq_getElem hkl]; rfl
      obtain ⟨ad, rfl, _, a0⟩ := Row.cell_at (Row.below hS hBW hB) eS
      have hxk := hx L[k] (List.getElem_mem hkl)
      have hdr : L.drop k = L[k] :: L.drop (k + 1) := List.drop_eq_getElem_cons hkl
      have hX := HX.out
      rw [hdr] at hX
      obtain ⟨P, hP⟩ : ∃ z, str L[k] = z := ⟨_, rfl⟩
      have hPs : P.size ≤ 1000000000 := by rw [← hP, str_size]; exact hxk
      have hPd : P.data.toList = L[k] := by rw [← hP, str_data]
      rw [hP] at a0
      obtain ⟨v, hv⟩ : ∃ z, (if 0 < g.length then g.getD (k % g.length) 0 else 0) = z := ⟨_, rfl⟩
      have hj := modN_lt (x := v) (m := 6) (by decide)
      have MA := fun W => ((mod_any v 6 W (by decide) (by decide)).mono fun _ _ h => ⟨h.1, h.2.symm⟩ : Calls Tryz.prog 19 #[.int .i64 v, .int .i64 6] W fun e w' => e = .returned (.int .i64 (modN v 6 : Int)) ∧ w' = W)
      have hgap : gapOf g k = gapsB.getD (modN v 6) [] := by unfold gapOf; rw [hv]
      obtain ⟨j, hjj⟩ : ∃ z, modN v 6 = z := ⟨_, rfl⟩
      rw [hjj] at hj MA hgap
      have b0 : wr.cell? ⟨q, j, none⟩ = some (.string (str (gapsB.getD j []))) := txC_at (by rw [← HQ.out]; exact HW.out.1.on HBW.out) hj
      obtain ⟨S, hSS⟩ : ∃ z, str (gapsB.getD j []) = z := ⟨_, rfl⟩
      rw [hSS] at b0
      have hSs : S.size ≤ 13 := by rw [← hSS, str_size]; exact (gap_len (getD_mem (show j < gapsB.length from hj))).1
      have hSd : S.data.toList = gapOf g k := by rw [← hSS, str_data, hgap]
      have j0 : (0 : Int) ≤ (j : Int) := Int.natCast_nonneg _
      have j1 : (j : Int) < 6 := by have : j < 6 := hj; omega
      have n1 : ¬ 9223372036854775807 < x.size + P.size := by omega
      have n2 : ¬ 9223372036854775807 < x.size + P.size + S.size := by omega
      have hxs2 : x.size + P.size + S.size ≤ (k + 1) * 1000000013 := by omega
      have HXE := Lib.hid (show (x ++ P ++ S).data.toList ++ joinG g (k + 1) (L.drop (k + 1)) = R from by
        rw [← hX]
        show _ = x.data.toList ++ (L[k] ++ gapOf g k ++ joinG g (k + 1) (L.drop (k + 1)))
        rw [← hPd, ← hSd]
        simp)
      have HSZ := Lib.hid (show (x ++ P ++ S).size ≤ (k + 1) * 1000000013 from by simp only [ByteArray.size_append]; exact hxs2)
      have MA := Lib.hid (show ∀ W, Calls Tryz.prog 19 #[.int .i64 v, .int .i64 6] W fun e w' => e = .returned (.int .i64 (j : Int)) ∧ w' = W from MA)
      by_cases hm0 : m = 0
      · have d0 : decide ((0 : Int) < (m : Int)) = false := by rw [decide_eq_false_iff_not]; omega
        have dN : decide (0 < m) = false := by rw [decide_eq_false_iff_not]; omega
        have v0 : v = 0 := by rw [← hv, if_neg (by omega)]
        rw [v0] at MA
        clear hS hB hG hBg hn hm hx hkl hBW eS hxk hdr hX hP hPd hv hgap hjj hSS hSd hj hxs2 hPs hSs hxs hm0 v0
        go_upto_region 9 with fail
        go_quiet (first | (go_at_call 19; with_reducible exact Calls.quiet_of_same (MA.out _)) | (fail "arm"))
        go_wp2
        go_roundw
        case rel => exact ⟨k + 1, _, rfl, by go_num, by omega, HSZ.out, HXE, Lib.hid (Below.drewN_ HBW.out _)⟩
        case measure => simp [intOf]; omega
      · have hmp : 0 < g.length := by omega
        have d0 : decide ((0 : Int) < (m : Int)) = true := by rw [decide_eq_true_eq]; omega
        have g0 : ¬ (m : Int) = 0 := by omega
        have g1 : ((m : Int) == 0) = false := by rw [beq_eq_false_iff_ne]; exact g0
        obtain ⟨i, hi⟩ : ∃ z, k % m = z := ⟨_, rfl⟩
        have him : i < m := by rw [← hi]; exact Nat.mod_lt _ (by omega)
        have f1 : ((k : Int)).tmod (m : Int) = (i : Int) := by rw [← Int.ofNat_tmod, hi]
        have eG : (intsC g)[i]? = some (.int .i64 v) := by
          rw [if_pos hmp, hm, hi, List.getD_eq_getElem?_getD, List.getElem?_eq_getElem (by omega)] at hv
          unfold intsC
          rw [List.getElem?_map, List.getElem?_eq_getElem (by omega)]
          show some (Value.int .i64 g[i]) = _
          rw [← hv]
          rfl
        obtain ⟨ag, rfl, _, c0⟩ := Row.cell_at (Row.below hG hBW hBg) eG
        have i0 : (0 : Int) ≤ (i : Int) := Int.natCast_nonneg _
        have i1 : (i : Int) < (m : Int) := by omega
        have dN : decide (0 < m) = true := by rw [decide_eq_true_eq]; omega
        clear hS hB hG hBg hn hm hx hkl hBW eS hxk hdr hX hP hPd hv hgap hjj hSS hSd hj hmp hi him eG hxs2 hPs hSs hxs hm0
        go_upto_region 9 with fail
        go_quiet (first | (go_at_call 19; with_reducible exact Calls.quiet_of_same (MA.out _)) | (fail "arm"))
        go_wp2
        go_roundw
        case rel => exact ⟨k + 1, _, rfl, by go_num, by omega, HSZ.out, HXE, Lib.hid (Below.drewN_ HBW.out _)⟩
        case measure => simp [intOf]; omega
    · have hd : decide ((k : Int) < (n : Int)) = false := by rw [decide_eq_false_iff_not]; omega
      have HE := Lib.hid (show x = str R ∧ Below w.heap.size w wr from by
        refine ⟨str_of ?_, Below.then_ HW.out.2 HBW.out⟩
        have h := HX.out
        rw [List.drop_of_length_le (by have := HA.out.2.2.2.2.1; omega)] at h
        simpa [joinG] using h)
      go_wp2
      go_ret
      exact ⟨by rw [HE.out.1]; rfl, HE.out.2⟩
end Go.Proofs.YtcjoiiaankngjaaGreatDoor
/- What is printed of a build that the maker makes: short, and ASCII. -/
namespace Go.Proofs.YtcjoiiaankngjaaGreatDoor
set_option maxRecDepth 100000
open Go.RowKit
theorem ascApp {a b : List UInt8} (h1 : Asc a) (h2 : Asc b) : Asc (a ++ b) := fun x hx => (List.mem_append.mp hx).elim (h1 x) (h2 x)
theorem ascOf {l : List UInt8} (h : l.all (fun b => decide (b.toNat < 128)) = true) : Asc l := fun b hb => of_decide_eq_true (List.all_eq_true.mp h b hb)
/-- a short ASCII item -/
def Sml (x : Itm) : Prop := (Asc x.tx ∧ x.tx.length ≤ 20) ∧ Asc x.pl ∧ x.pl.length ≤ 20
theorem fSrc_asc {x : Itm} (h : Sml x) : Asc (fSrc x) := by
  unfold fSrc
  split
  · exact ascApp (ascApp (ascOf (by decide)) (ascApp (ascApp (ascOf (by decide)) h.1.1) (ascOf (by decide)))) (ascOf (by decide))
  · exact ascApp (ascApp (ascOf (by decide)) h.1.1) (ascOf (by decide))
theorem rPre_asc {word : List UInt8} (hw : Asc word) (p : Option (List UInt8)) {x : Itm} (h : Sml x) : Asc (rPre word p x) := by
  unfold rPre
  split
  · exact ascOf (by decide)
  · refine ascApp ?_ (ascApp (ascApp (ascApp (ascOf (by decide)) hw) (ascOf (by decide))) ?_)
    · split <;> exact ascOf (by decide)
    · split
      · exact ascOf (by decide)
      · exact ascApp h.2.1 (ascOf (by decide))
theorem rGo_sml {word : List UInt8} (hw : Asc word) : ∀ (l : List Itm) (p : Option (List UInt8)), (∀ x ∈ l, Sml x) → Asc (rGo word p l) ∧ (rGo word p l).length ≤ l.length * (54 + word.length)
  | [], _, _ => ⟨(fun b hb => by simp [rGo] at hb), by simp [rGo]⟩
  | x :: t, p, h => by
    obtain ⟨i1, i2⟩ := rGo_sml hw t (some x.pl) (fun y hy => h y (List.mem_cons_of_mem _ hy))
    have hx := h x (by simp)
    have h1 := fSrc_len x
    have h2 := rPre_len word p x
    have h3 := hx.1.2
    have h4 := hx.2.2
    refine ⟨ascApp (ascApp (rPre_asc hw p hx) (fSrc_asc hx)) i1, ?_⟩
    show (rPre word p x ++ fSrc x ++ rGo word (some x.pl) t).length ≤ _
    rw [List.length_append, List.length_append, List.length_cons, Nat.add_mul]
    omega
theorem fItems_sml {word : List UInt8} (hw : Asc word) (h10 : word.length ≤ 10) {l : List Itm} (hl : l.length ≤ 3) (h : ∀ x ∈ l, Sml x) : Asc (fItems word l) ∧ (fItems word l).length ≤ 194 := by
  rw [← rAttr_eq]
  unfold rAttr
  split
  · exact ⟨ascOf (by decide), by simp⟩
  · obtain ⟨a, b⟩ := rGo_sml hw l none h
    refine ⟨ascApp a (ascOf (by decide)), ?_⟩
    have h2 : l.length * (54 + word.length) ≤ 3 * 64 := Nat.mul_le_mul hl (by omega)
    simp
    omega
theorem itoa_asc {n : Int} (h0 : 0 ≤ n) (h : n ≤ 1000000) : Asc (itoaB n) := by
  have e := digL_itoa 7 n.toNat (by omega)
  have e2 : ∀ (f m : Nat), Asc (digL f m) := by
    intro f
    induction f with
    | zero =>
      intro m b hb
      rw [digL, List.mem_singleton] at hb
      rw [hb, UInt8.toNat_ofNat']
      omega
    | succ f ih =>
      intro m b hb
      rw [digL] at hb
      split at hb
      · rw [List.mem_singleton] at hb
        rw [hb, UInt8.toNat_ofNat']
        omega
      · rcases List.mem_append.1 hb with hb | hb
        · exact ih _ b hb
        · rw [List.mem_singleton] at hb
          rw [hb, UInt8.toNat_ofNat']
          omega
  unfold itoaB
  rw [show n = ((n.toNat : Nat) : Int) by omega, ← e]
  exact e2 _ _
theorem mItm_sml {tx : List (List UInt8)} {lim glb : Bool} {x : Itm} (h : MItm tx lim glb x) (ht : ∀ t ∈ tx, t.all (fun b => decide (b.toNat < 128)) = true ∧ t.length ≤ 20) : Sml x := by
  refine ⟨⟨ascOf (ht _ h.tx).1, (ht _ h.tx).2⟩, ?_⟩
  rcases h.pl with e | ⟨_, e⟩
  · rw [e]; exact ⟨ascOf (by decide), by decide⟩
  · have : ∀ t ∈ mAll.take 3, t.all (fun b => decide (b.toNat < 128)) = true ∧ t.length ≤ 20 := by decide
    exact ⟨ascOf (this _ e).1, (this _ e).2⟩
theorem mTgt_sml {i : Nat} {T : Tgt} (h : MTgt i T) (hi : i < 8) : Asc (fTarget T) ∧ (fTarget T).length ≤ 900 ∧ SrTgt T := by
  have s0 := fun x hx => mItm_sml (h.srcs x hx) (by decide)
  have s1 := fun x hx => mItm_sml (h.deps x hx) (by decide)
  have s2 := fun x hx => mItm_sml (h.outs x hx) (by decide)
  have s3 := fun x hx => mItm_sml (h.viss x hx) (by decide)
  obtain ⟨a0, b0⟩ := fItems_sml (word := wSrcs) (ascOf (by decide)) (by decide) (h.len 0) s0
  obtain ⟨a1, b1⟩ := fItems_sml (word := wDeps) (ascOf (by decide)) (by decide) (h.len 1) s1
  obtain ⟨a2, b2⟩ := fItems_sml (word := wOut) (ascOf (by decide)) (by decide) (h.len 2) s2
  obtain ⟨a3, b3⟩ := fItems_sml (word := wVis) (ascOf (by decide)) (by decide) (h.len 3) s3
  have hn : ∀ t ∈ mNames, t.all (fun b => decide (b.toNat < 128)) = true ∧ t.length ≤ 20 := by decide
  have hnm := hn _ (getD_mem (d := []) (show i < mNames.length from hi))
  rw [← h.name] at hnm
  have hc := h.cost
  have hr := h.retry
  have hk : Asc (kw T.kind.toNat) ∧ (kw T.kind.toNat).length ≤ 4 := by
    have := h.kind
    obtain e | e | e | e : T.kind = 1 ∨ T.kind = 2 ∨ T.kind = 3 ∨ T.kind = 4 := by omega
    all_goals (rw [e]; exact ⟨ascOf (by decide), by decide⟩)
  have ac := itoa_asc (n := T.cost) (by omega) (by omega)
  have ar := itoa_asc (n := T.retry) (by omega) (by omega)
  have lc := itoa_len (n := T.cost) (by omega) (by omega)
  have lr := itoa_len (n := T.retry) (by omega) (by omega)
  have c2 : Asc (if T.cost = 1 then [] else fThree wCostS (itoaB T.cost) [59]) ∧ (if T.cost = 1 then [] else fThree wCostS (itoaB T.cost) [59]).length ≤ 20 := by
    split
    · exact ⟨ascOf (by decide), by simp⟩
    · refine ⟨ascApp (ascApp (ascApp (ascOf (by decide)) ac) (ascOf (by decide))) (ascOf (by decide)), ?_⟩
      simp [fThree, wCostS]
      omega
  have q2 : Asc (if T.retry = 0 then [] else fThree wRetryS (itoaB T.retry) [59]) ∧ (if T.retry = 0 then [] else fThree wRetryS (itoaB T.retry) [59]).length ≤ 20 := by
    split
    · exact ⟨ascOf (by decide), by simp⟩
    · refine ⟨ascApp (ascApp (ascApp (ascOf (by decide)) ar) (ascOf (by decide))) (ascOf (by decide)), ?_⟩
      simp [fThree, wRetryS]
      omega
  refine ⟨?_, ?_, ?_⟩
  · unfold fTarget
    exact ascApp (ascApp (ascApp (ascApp (ascOf (by decide)) (ascOf hnm.1)) (ascOf (by decide))) (ascOf (by decide))) (ascApp (ascApp (ascApp (ascApp (ascOf (by decide)) hk.1) (ascOf (by decide))) (ascOf (by decide))) (ascApp a0 (ascApp a1 (ascApp a2 (ascApp a3 (ascApp c2.1 (ascApp q2.1 (ascOf (by decide)))))))))
  · have l1 := hnm.2
    have l2 := hk.2
    have l3 := c2.2
    have l4 := q2.2
    unfold fTarget
    simp only [List.length_append]
    simp only [fThree, wTargetS, wOpen, wKindS, List.length_append, List.length_cons, List.length_nil] at l3 l4 ⊢
    omega
  · refine ⟨by have := hnm.2; omega, fun j hj => ⟨by have := h.len j; omega, ?_⟩, h.kind, by omega, by omega⟩
    have sm : ∀ x, Sml x → TxOk x := fun x hx => ⟨by have := hx.1.2; omega, by have := hx.2.2; omega⟩
    obtain rfl | rfl | rfl | rfl : j = 0 ∨ j = 1 ∨ j = 2 ∨ j = 3 := by omega
    · exact fun x hx => sm x (s0 x hx)
    · exact fun x hx => sm x (s1 x hx)
    · exact fun x hx => sm x (s2 x hx)
    · exact fun x hx => sm x (s3 x hx)
theorem flat_sml : ∀ (L : List Tgt), (∀ T ∈ L, Asc (fTarget T) ∧ (fTarget T).length ≤ 900) → Asc (L.flatMap fTarget) ∧ (L.flatMap fTarget).length ≤ L.length * 900
  | [], _ => ⟨ascOf (by decide), by simp⟩
  | T :: L, h => by
    obtain ⟨a, b⟩ := h T (by simp)
    obtain ⟨c, d⟩ := flat_sml L (fun x hx => h x (List.mem_cons_of_mem _ hx))
    refine ⟨ascApp a c, ?_⟩
    rw [List.flatMap_cons, List.length_append, List.length_cons, Nat.add_mul]
    omega
theorem mMade_sml (l : List Int) : Asc (fFile (mMade l).1 (mMade l).2) ∧ (fFile (mMade l).1 (mMade l).2).length ≤ 5000 ∧ SrB (mMade l).1 (mMade l).2 := by
  unfold mMade
  dsimp only
  obtain ⟨n, hn⟩ : ∃ z, mNext l 0 4 = z := ⟨_, rfl⟩
  have h4 := mNext_lt (l := l) (a := 0) (n := 4) (by decide)
  rw [hn] at h4 ⊢
  obtain ⟨m, hm⟩ : ∃ z, mNext l n.2 6 = z := ⟨_, rfl⟩
  have h6 := mNext_lt (l := l) (a := n.2) (n := 6) (by decide)
  rw [hm] at h6 ⊢
  obtain ⟨n1, n2⟩ := n
  obtain ⟨m1, m2⟩ := m
  dsimp only at h4 h6 ⊢
  have hT : ∀ T ∈ mTs l m1 0 m2, Asc (fTarget T) ∧ (fTarget T).length ≤ 900 ∧ SrTgt T := by
    intro T hT
    obtain ⟨j, hj, rfl⟩ := List.getElem_of_mem hT
    have hj' := hj
    rw [mTs_len] at hj'
    have := mTs_ok l m1 0 m2 j hj
    rw [Nat.zero_add] at this
    exact mTgt_sml this (by omega)
  obtain ⟨f1, f2⟩ := flat_sml (mTs l m1 0 m2) (fun T h => ⟨(hT T h).1, (hT T h).2.1⟩)
  rw [mTs_len] at f2
  have hp : ∀ k, k < 4 → (fPlats (mPlats k)).all (fun b => decide (b.toNat < 128)) = true ∧ (fPlats (mPlats k)).length ≤ 100 ∧ (mPlats k).length ≤ 4 ∧ ∀ x ∈ mPlats k, x.tx.length ≤ 20 ∧ x.pl.length ≤ 20 := by
    intro k hk
    obtain rfl | rfl | rfl | rfl : k = 0 ∨ k = 1 ∨ k = 2 ∨ k = 3 := by omega
    all_goals decide
  obtain ⟨p1, p2, p3, p4⟩ := hp n1 h4
  refine ⟨ascApp (ascOf p1) f1, ?_, ?_⟩
  · unfold fFile
    rw [List.length_append]
    omega
  · exact ⟨by omega, fun x hx => ⟨by have := (p4 x hx).1; omega, by have := (p4 x hx).2; omega⟩, by rw [mTs_len]; omega, fun T h => (hT T h).2.2⟩
end Go.Proofs.YtcjoiiaankngjaaGreatDoor
/- The laws' arguments: lists of integers, three integers; a list of strings that grows. -/
namespace Go.Proofs.YtcjoiiaankngjaaGreatDoor
set_option maxRecDepth 100000
open Go.RowKit Go.ChangeShapes Go.WideShapes
theorem list_of {α : Type} : ∀ (n : Nat) (P : Nat → α → Prop), (∀ i, i < n → ∃ y, P i y) → ∃ l : List α, l.length = n ∧ ∀ i (h : i < l.length), P i l[i]
  | 0, P, _ => ⟨[], rfl, fun i h => by simp at h⟩
  | n + 1, P, h => by
    obtain ⟨l, hl, hP⟩ := list_of n P fun i hi => h i (by omega)
    obtain ⟨y, hy⟩ := h n (by omega)
    refine ⟨l ++ [y], by simp [hl], fun i hi => ?_⟩
    by_cases hin : i < l.length
    · rw [List.getElem_append_left hin]; exact hP i hin
    · have : i = l.length := by simp at hi; omega
      subst this
      simp
      rw [hl]; exact hy
theorem bd_i64z {n : Int} (h : (Lit.int .i64 n).wf = true) : -9223372036854775808 ≤ n ∧ n ≤ 9223372036854775807 := by
  simp [Lit.wf, IntKind.min, IntKind.max, IntKind.signed, IntKind.bits] at h
  omega
theorem addr_block (a : Addr) (i : Nat) : (a.add i).block = a.block := by unfold Addr.add; split <;> rfl
section
variable {H : Type} {enc : TypeId × Value → H} {W : World} {b2 : Nat} {sp : Nat → Bool} {held : Bool}
theorem cells1 {a : Addr} {cs : List Value} (h : W.cells? b2 a 1 = some cs) : ∃ c0, cs = [c0] ∧ W.cell? a = some c0 := by
  obtain ⟨_, hl, hc⟩ := World.cells?_some h
  match cs, hl with
  | [c0], _ =>
    have h0 := hc 0 (by omega)
    rw [show a.add 0 = a by simp [Addr.add]] at h0
    exact ⟨c0, rfl, by simpa using h0⟩
theorem open_ints {b1 : Nat} {v : Value} {d : DataW H} {p : List MemPlace} (h : DataW.Trod enc Tryz.prog W b2 sp held 22 v d p) (hval : Value.okWide Tryz.prog W .any b1 22 v) :
    ∃ (A : Option Addr) (zs : List Int) (c : Nat), v = .slice A zs.length c ∧ Row W W.heap.size 1 A zs.length c (intsC zs) ∧ zs.length ≤ 9223372036854775807 := by
  obtain ⟨fuel, hf⟩ := h
  have hv : v.cells.toList = [v] := by
    obtain ⟨a, n, c, rfl⟩ := okWide_slice Tryz.underlying22 hval
    rfl
  rw [hv] at hf
  have hc3 : Tryz.prog.cellsOf 3 = 1 := by kernel_rfl
  rcases Go.Deep.open_slice Tryz.underlying22 hf with ⟨h0, _⟩ | ⟨a, len, cap, m, fu, D, Pl, h0, hb, hlc, hcm, hm, _, hel⟩
  · obtain rfl : v = .slice none 0 0 := by simpa using h0
    exact ⟨none, [], 0, rfl, Row.empty _ _ _, Nat.zero_le _⟩
  · obtain rfl : v = .slice (some a) len cap := by simpa using h0
    have hlm : len ≤ m := by rw [hm]; split <;> omega
    obtain ⟨zs, hzl, hz⟩ := list_of len (fun i (z : Int) => W.cell? (a.add i) = some (.int .i64 z)) fun i hi => by
      obtain ⟨cs', hcs, ht⟩ := hel i (by omega)
      rw [hc3, Nat.mul_one] at hcs
      obtain ⟨c0, rfl, k0⟩ := cells1 hcs
      obtain ⟨x0, e0, _⟩ := DataW.trod_int (k := .i64) Tryz.underlying3 ht
      simp only [List.cons.injEq, and_true] at e0
      subst e0
      exact ⟨x0, k0⟩
    have hmx : len ≤ 9223372036854775807 := by unfold maxLen at *; omega
    refine ⟨some a, zs, cap, by rw [hzl], ⟨by unfold intsC; rw [List.length_map, Nat.mul_one], by omega, fun e => (by cases e), fun j u hj => ?_⟩, by omega⟩
    unfold intsC at hj
    rw [List.getElem?_map] at hj
    obtain ⟨z, hz1, rfl⟩ := Option.map_eq_some_iff.1 hj
    obtain ⟨hjl, rfl⟩ := List.getElem?_eq_some_iff.1 hz1
    have hc := hz j hjl
    refine ⟨a, rfl, ?_, hc⟩
    have := World.block_lt_of_cell? W _ hc
    rwa [addr_block] at this
theorem open_triple {b1 : Nat} {v : Value} {d : DataW H} {p : List MemPlace} (hval : Value.okWide Tryz.prog W .any b1 33 v) (h : DataW.Trod enc Tryz.prog W b2 sp held 33 v d p) :
    ∃ a b c : Int, v = .agg #[.int .i64 a, .int .i64 b, .int .i64 c] ∧ (-9223372036854775808 ≤ a ∧ a ≤ 9223372036854775807) ∧ (-9223372036854775808 ≤ b ∧ b ≤ 9223372036854775807) ∧ (-9223372036854775808 ≤ c ∧ c ≤ 9223372036854775807) := by
  have hc50 : Tryz.prog.cellsOf 33 = 3 := by kernel_rfl
  have hc3 : Tryz.prog.cellsOf 3 = 1 := by kernel_rfl
  simp only [Value.okWide, Tryz.underlying33] at hval
  obtain ⟨cs, rfl, hsz, _⟩ := hval
  obtain ⟨c0, c1, c2, rfl⟩ := Joins.array3 (hsz.trans hc50)
  obtain ⟨fuel, hf⟩ := h
  obtain ⟨xs, m, rfl, _, _, hxl, hat⟩ := DataW.trod_array Tryz.underlying33 hf
  rw [hc3] at hat
  have h0 := hat 0 (by omega)
  have h1 := hat 1 (by omega)
  have h2 := hat 2 (by omega)
  rw [List.getElem?_eq_getElem (by omega)] at h0 h1 h2
  obtain ⟨a, ea, _, wa⟩ := DataW.trod_int (k := .i64) Tryz.underlying3 h0
  obtain ⟨b, eb, _, wb⟩ := DataW.trod_int (k := .i64) Tryz.underlying3 h1
  obtain ⟨c, ec, _, wc⟩ := DataW.trod_int (k := .i64) Tryz.underlying3 h2
  have ea' : c0 = .int .i64 a := by simpa [Value.cells] using ea
  have eb' : c1 = .int .i64 b := by simpa [Value.cells] using eb
  have ec' : c2 = .int .i64 c := by simpa [Value.cells] using ec
  subst ea' eb' ec'
  exact ⟨a, b, c, rfl, bd_i64z wa, bd_i64z wb, bd_i64z wc⟩
end
theorem cut_some (a : Addr) (n c l : Nat) (h1 : l ≤ n) (h3 : n ≤ c) :
    ∃ a', (∀ W, (Instr.slice 34 (.slice (some a) n c) (some (.int .i64 (l : Int))) none none).run Tryz.prog W = .ok (.slice (some a') (n - l) (c - l)) W) ∧
      ∀ w B xs, Row w B 1 (some a) n c xs → Row w B 1 (some a') (n - l) (c - l) (xs.drop l) := by
  have ht : Tryz.prog.underlying 34 = some (.slice 9) := Tryz.underlying34
  have hz : ∀ W, (Go.sizeOf 9).run Tryz.prog W = .ok 1 W := fun _ => by kernel_rfl
  have he : Tryz.prog.elem 34 = 9 := by simp [Program.elem, ht]
  have e : (if c = l then some a else (some a).map (·.add (l * 1))) = some (if c = l then a else a.add (l * 1)) := by split <;> rfl
  refine ⟨if c = l then a else a.add (l * 1), fun W => ?_, fun w B xs h => ?_⟩
  · rw [run_slice_l W 34 (some a) n c (by rw [he]; exact ht) _ _ (by omega) (by omega), he, hz, ← e]
    rfl
  · have := h.part h1 (Nat.le_refl _) h3 (Nat.le_refl _)
    rw [Nat.mul_one] at this
    rw [← e, Nat.mul_one]
    rwa [List.take_of_length_le (by rw [List.length_drop, h.1, Nat.mul_one, Nat.mul_one]; exact Nat.le_refl _)] at this
/-- short ASCII strings in a row of one's own behind w5 -/
structure JX (w5 wx : World) (A : Option Addr) (m c : Nat) (acc : List (List UInt8)) : Prop where
  own : wx.ownsRow w5.heap.size 9 1 (.slice A m c) m (txC acc)
  below : Below w5.heap.size w5 wx
  len : m = acc.length
  sml : ∀ p ∈ acc, p.length ≤ 5002 ∧ Asc p
theorem JX.grow {w5 wx w8 w9 : World} {A : Option Addr} {m c k : Nat} {acc ps : List (List UInt8)} {v' : Value} (h : JX w5 wx A m c acc) (hb8 : Below wx.heap.size wx w8) (ho : w9.ownsRow w5.heap.size 9 1 v' (m + k) (txC acc ++ txC ps)) (hg : w8.grownBy w9 (Value.slice A m c).ownBlock)
    (hk : k = ps.length) (hs : ∀ p ∈ ps, p.length ≤ 5002 ∧ Asc p) : ∃ A9 c9, v' = .slice A9 (m + k) c9 ∧ JX w5 w9 A9 (m + k) c9 (acc ++ ps) := by
  obtain ⟨A9, c9, rfl⟩ := own_form ho
  refine ⟨A9, c9, rfl, ?_, (Below.then_ h.below hb8).grown hg (by have := h.below.size; have := hb8.size; omega) (row_ge h.own), by rw [List.length_append, ← h.len, hk], fun p hp => (List.mem_append.1 hp).elim (h.sml p) (hs p)⟩
  have : txC (acc ++ ps) = txC acc ++ txC ps := by unfold txC; rw [List.map_append]
  rw [this]
  exact ho
theorem JX.grow2 {w5 wx w8 w9 : World} {A A9 : Option Addr} {m c k c9 : Nat} {acc ps : List (List UInt8)} (h : JX w5 wx A m c acc) (hb8 : Below wx.heap.size wx w8) (ho : w9.ownsRow w5.heap.size 9 1 (.slice A9 (m + k) c9) (m + k) (txC acc ++ txC ps)) (hg : w8.grownBy w9 (Value.slice A m c).ownBlock)
    (hk : k = ps.length) (hs : ∀ p ∈ ps, p.length ≤ 5002 ∧ Asc p) : JX w5 w9 A9 (m + k) c9 (acc ++ ps) := by
  obtain ⟨A', c', e, J⟩ := h.grow hb8 ho hg hk hs
  injection e with e1 _ e2
  rw [e1, e2]
  exact J
end Go.Proofs.YtcjoiiaankngjaaGreatDoor
