/- ref.Diff. -/
import Derived.Test.YtmeoannheomdoaaPartner
import Derived.Test.YtmeoannheomdoaaKit
namespace Go.Proofs.Ytmeoannheomdoaa
open Go.RowKit

theorem pinv_open {w wr : World} {g n : Nat} {D : List (Nat × Nat)} (h : PInv w wr g n D) : ∃ out, Full wr g 3 (intC out) ∧ PtrOk out n D ∧ Below w.heap.size w wr := h
theorem out_at {wr : World} {g k : Nat} {out : List Int} {z : Int} (hF : Full wr g 3 (intC out)) (h : out[k]? = some z) : wr.cell? ⟨g, k, none⟩ = some (.int .i64 z) := (hF.cell k).trans (intC_at h)

theorem own_snoc {w : World} {B : Nat} {v : Value} {L : List Hk} {h : Hk} (ho : w.ownsRow B 40 4 v (L.length + 1) (hksC L ++ hkC h)) : w.ownsRow B 40 4 v (L ++ [h]).length (hksC (L ++ [h])) := by
  have e1 : (L ++ [h]).length = L.length + 1 := by simp
  have e2 : hksC (L ++ [h]) = hksC L ++ hkC h := by unfold hksC; simp
  rw [e1, e2]
  exact ho
theorem hks_own {w : World} {B r : Nat} {v : Value} {L : List Hk} (ho : w.ownsRow B 40 4 v L.length (hksC L)) (hr : L.length = r) : ∃ A c, v = .slice A r c ∧ Hks w w.heap.size A c L := by
  subst hr
  obtain ⟨A, c, rfl⟩ : ∃ A c, v = .slice A L.length c := by
    rcases ho.2 with ⟨rfl, h0⟩ | ⟨g', cap, cur, rfl, _⟩
    · exact ⟨none, 0, by rw [h0]⟩
    · exact ⟨_, _, rfl⟩
  exact ⟨A, c, rfl, Row.own ho⟩
theorem snoc_len {α : Type} {D L T : List α} {h : α} {r : Nat} (e : D = L ++ (h :: T)) (hr : D.length = r) : L.length + 1 ≤ r := by
  subst e
  simp at hr
  omega

set_option maxRecDepth 100000 in
set_option maxHeartbeats 8000000 in
theorem refDiff_any (A B : Option Addr) (a b : List ByteArray) (n m c d r : Nat) (w : World) (hA : Strs w w.heap.size A c a) (hB : Strs w w.heap.size B d b) (hn : a.length = n) (hm : b.length = m) (hn2 : n ≤ 200) (hm2 : m ≤ 200) (hr : (diff a b).length = r) :
    Calls Try.prog 24 #[.slice A n c, .slice B m d] w (HksOut w r (diff a b)) := by
  have hcA : n ≤ c := by have := hA.cap; omega
  have hcB : m ≤ d := by have := hB.cap; omega
  have hdl := diff_len a b
  rw [hr, hn] at hdl
  obtain ⟨i40, hi4, hz0, hz1, hz2⟩ := info_parts info40
  have PA := Lib.hid (partners_any A B a b n m c d w hA hB hn hm hn2 hm2)
  have hall := diff_all a b
  have hrs := fun (out : List Int) (h : PtrOk out n (allP a b)) => rest_start a b hn hm h
  rw [hn, hm] at hall
  have HALL := Lib.hid hall
  have HRS := Lib.hid hrs
  have HR := Lib.hid hr
  clear hA hB hn hm hall hrs hr
  go_enter Try.func24, Try.ntmps24
  go_wp2_with (go_at_call 42; ((with_reducible refine PA.out.mono ?_); rintro e' w1 ⟨g, rfl, hP⟩))
  obtain ⟨out, hF, hPO, hb1⟩ := pinv_open hP
  have HRS1 := Lib.hid (HRS.out out hPO)
  have HF := Lib.hid hF
  have HB1 := Lib.hid hb1
  have hg1 : g < w1.heap.size := hF.lt
  clear hP hF hPO hb1 PA
  go_loopw [6, 7, 8] (fun v6 v7 v8 wr => ∃ (i j : Nat) (R : List (Nat × Nat)) (L : List Hk), i ≤ n ∧ j ≤ m ∧ v7 = .int .i64 (i : Int) ∧ v8 = .int .i64 (j : Int) ∧ Hid (Rest out n m i j R) ∧ Hid (diff a b = L ++ gaps i j (R ++ [(n, m)])) ∧ Hid (wr.ownsRow w1.heap.size 40 4 v6 L.length (hksC L)) ∧ Hid (Below w1.heap.size w1 wr)) (fun _ v7 v8 _ => n + m - (intOf v7).toNat - (intOf v8).toNat)
  case atStart => exact ⟨0, 0, allP a b, [], Nat.zero_le _, Nat.zero_le _, rfl, rfl, HRS1, HALL, Lib.hid ⟨rfl, .inl ⟨rfl, rfl⟩⟩, Lib.hid (Below.refl _ _)⟩
  case round =>
    obtain ⟨i, j, R, L, hi, hj, rfl, rfl, HRe, HD, HO, HBW⟩ := hrel
    have hi0 : (0 : Int) ≤ (i : Int) := Int.natCast_nonneg _
    have hj0 : (0 : Int) ≤ (j : Int) := Int.natCast_nonneg _
    have hFw : Full wr g 3 (intC out) := HF.out.on HBW.out
    have HFW := Lib.hid hFw
    by_cases h1 : i < n
    · have n1 : (i : Int) < (n : Int) := by omega
      obtain ⟨z, hz⟩ : ∃ z, ptr R i = z := ⟨_, rfl⟩
      have ho := HRe.out.2.2.2.2.2 i (Nat.le_refl _) h1
      rw [hz] at ho
      have hc := out_at hFw ho
      by_cases h2 : z = (j : Int)
      · subst h2
        obtain ⟨R', rfl, hR'⟩ := HRe.out.pair h1 ho
        have HR' := Lib.hid hR'
        clear hz hFw hR' ho
        go_wp2_with fail
        go_roundw
        case rel => exact ⟨i + 1, j + 1, R', L, by omega, by have := HR'.out.2.2.2.1; omega, by go_num, by go_num, HR', Lib.hid (by rw [HD.out, gaps_pair]), HO, HBW⟩
        case measure => have := HR'.out.2.2.2.1; simp [intOf]; omega
      · have n2 : (z == (j : Int)) = false := by simpa using h2
        have HZ := Lib.hid ho
        clear hz hFw ho
        go_wp2_with fail
        go_loopw [7] (fun v7 wx => ∃ u : Nat, i ≤ u ∧ u ≤ n ∧ v7 = .int .i64 (u : Int) ∧ Hid (Free out i u) ∧ wx = wr.alloc (.cells #[.int .i64 (i : Int), .int .i64 0, .int .i64 (j : Int), .int .i64 0] 40)) (fun v7 _ => n - (intOf v7).toNat)
        case atStart => exact ⟨i, Nat.le_refl _, hi, rfl, Lib.hid (fun k h1 h2 => by omega), rfl⟩
        case round =>
          obtain ⟨u, hiu, hun, rfl, HFr, rfl⟩ := hrel
          have hu0 : (0 : Int) ≤ (u : Int) := Int.natCast_nonneg _
          by_cases h3 : u < n
          · have n3 : (u : Int) < (n : Int) := by omega
            have hou := HRe.out.2.2.2.2.2 u hiu h3
            rcases ptr_ge R u with hp | ⟨y, hp⟩
            · rw [hp] at hou
              have hcu := out_at (HFW.out.alloc (.cells #[.int .i64 (i : Int), .int .i64 0, .int .i64 (j : Int), .int .i64 0] 40)) hou
              have HOU := Lib.hid hou
              clear hou hp
              go_wp2_with fail
              go_roundw
              case rel => exact ⟨u + 1, by omega, by omega, by go_num, Lib.hid (fun k k1 k2 => (Nat.lt_or_ge k u).elim (fun h => HFr.out k k1 h) (fun h => by obtain rfl : k = u := (by omega); exact HOU.out)), trivial⟩
              case measure => simp [intOf]; omega
            · rw [hp] at hou
              have hcu := out_at (HFW.out.alloc (.cells #[.int .i64 (i : Int), .int .i64 0, .int .i64 (j : Int), .int .i64 0] 40)) hou
              have hcv := out_at (HFW.out.alloc (.cells #[.int .i64 (i : Int), .int .i64 (u : Int), .int .i64 (j : Int), .int .i64 0] 40)) hou
              obtain ⟨k1, k2, k3, k4⟩ := HRe.out.hunk hiu h3 HFr.out hou (fun ⟨e1, e2⟩ => by
                subst e1 e2
                rw [HZ.out] at hou
                exact h2 (Option.some.inj hou))
              have hnz : u = i → y ≠ j := fun e1 e2 => by
                subst e1 e2
                rw [HZ.out] at hou
                exact h2 (Option.some.inj hou)
              have hd := HD.out
              rw [k2] at hd
              have hlen := snoc_len hd HR.out
              have HD2 := Lib.hid hd
              obtain ⟨R2, hR2⟩ : ∃ R2, R2 = R := ⟨_, rfl⟩
              rw [← hR2] at k1
              have HR2 := Lib.hid k1
              rw [← hR2] at HD2
              have n4 : ¬ (y : Int) < 0 := by omega
              have n5 : decide ((y : Int) < 0) = false := decide_eq_false n4
              clear k1 k2 hd hou hp hR2
              go_wp2_with (at_builtin; refine wpList_append_own_at _ rfl _ _ 33 rfl w1.heap.size 40 i40 _ 4 32 Try.underlying33 hi4 hz0 hz1 hz2 rfl (by decide) u6 L.length (hksC L) rfl ((HO.out.alloc _).alloc _) ⟨wr.heap.size + 1, 0, none⟩ 1 1 (hkC ⟨i, u, j, y⟩) (by rfl) (by rfl) (World.news_of_block (cs := (hkC ⟨i, u, j, y⟩).toArray) (t := 40) (fr := (0, 0)) (by have := heap_alloc_new (wr.alloc (.cells (hkC ⟨i, u, j, y⟩).toArray 40)) (.cells (hkC ⟨i, u, j, y⟩).toArray 40); rwa [World.size_alloc] at this)) (by simp [Value.oneCell', hkC]) (by unfold maxLen; omega) (by omega) (by have := HBW.out.size; simp; omega) ?_; intro v5 w5 ho5 hg5 hn5 hat5)
              go_roundw
              case rel =>
                refine ⟨u, y, R2, L ++ [⟨i, u, j, y⟩], by omega, by omega, rfl, rfl, HR2, Lib.hid (by rw [HD2.out, List.append_assoc]; rfl), Lib.hid (own_snoc ho5), Lib.hid (((HBW.out.alloc HBW.out.size _).alloc (by have := HBW.out.size; simp; omega) _).grown hg5 (by have := HBW.out.size; simp; omega) (row_ge HO.out))⟩
              case measure => simp [intOf]; omega
          · obtain rfl : u = n := by omega
            have n3 : ¬ (u : Int) < (u : Int) := by omega
            obtain ⟨k1, k2⟩ := HRe.out.last HFr.out (by omega)
            have hd := HD.out
            rw [k2] at hd
            have hlen := snoc_len hd HR.out
            obtain ⟨R2, hR2⟩ : ∃ R2 : List (Nat × Nat), R2 = [] := ⟨_, rfl⟩
            have HD2 : Hid (diff a b = L ++ (⟨i, u, j, m⟩ :: gaps u m (R2 ++ [(u, m)]))) := Lib.hid (by rw [hR2]; exact hd)
            rw [← hR2] at k1
            have HR2 := Lib.hid k1
            clear k1 k2 hd hR2
            go_wp2_with (at_builtin; refine wpList_append_own_at _ rfl _ _ 33 rfl w1.heap.size 40 i40 _ 4 32 Try.underlying33 hi4 hz0 hz1 hz2 rfl (by decide) u6 L.length (hksC L) rfl ((HO.out.alloc _).alloc _) ⟨wr.heap.size + 1, 0, none⟩ 1 1 (hkC ⟨i, u, j, m⟩) (by rfl) (by rfl) (World.news_of_block (cs := (hkC ⟨i, u, j, m⟩).toArray) (t := 40) (fr := (0, 0)) (by have := heap_alloc_new (wr.alloc (.cells (hkC ⟨i, u, j, m⟩).toArray 40)) (.cells (hkC ⟨i, u, j, m⟩).toArray 40); rwa [World.size_alloc] at this)) (by simp [Value.oneCell', hkC]) (by unfold maxLen; omega) (by omega) (by have := HBW.out.size; simp; omega) ?_; intro v5 w5 ho5 hg5 hn5 hat5)
            go_roundw
            case rel =>
              refine ⟨u, m, R2, L ++ [⟨i, u, j, m⟩], by omega, by omega, rfl, rfl, HR2, Lib.hid (by rw [HD2.out, List.append_assoc]; rfl), Lib.hid (own_snoc ho5), Lib.hid (((HBW.out.alloc HBW.out.size _).alloc (by have := HBW.out.size; simp; omega) _).grown hg5 (by have := HBW.out.size; simp; omega) (row_ge HO.out))⟩
            case measure => simp [intOf]; omega
    · have n1 : ¬ (i : Int) < (n : Int) := by omega
      by_cases h2 : j < m
      · have n2 : (j : Int) < (m : Int) := by omega
        clear hFw
        go_wp2_with fail
        go_loopw [7] (fun v7 wx => ∃ u : Nat, i ≤ u ∧ u ≤ n ∧ v7 = .int .i64 (u : Int) ∧ Hid (Free out i u) ∧ wx = wr.alloc (.cells #[.int .i64 (i : Int), .int .i64 0, .int .i64 (j : Int), .int .i64 0] 40)) (fun v7 _ => n - (intOf v7).toNat)
        case atStart => exact ⟨i, Nat.le_refl _, hi, rfl, Lib.hid (fun k h1 h2 => by omega), rfl⟩
        case round =>
          obtain ⟨u, hiu, hun, rfl, HFr, rfl⟩ := hrel
          have hu0 : (0 : Int) ≤ (u : Int) := Int.natCast_nonneg _
          by_cases h3 : u < n
          · omega
          · obtain rfl : u = n := by omega
            have n3 : ¬ (u : Int) < (u : Int) := by omega
            obtain ⟨k1, k2⟩ := HRe.out.last HFr.out (by omega)
            have hd := HD.out
            rw [k2] at hd
            have hlen := snoc_len hd HR.out
            obtain ⟨R2, hR2⟩ : ∃ R2 : List (Nat × Nat), R2 = [] := ⟨_, rfl⟩
            have HD2 : Hid (diff a b = L ++ (⟨i, u, j, m⟩ :: gaps u m (R2 ++ [(u, m)]))) := Lib.hid (by rw [hR2]; exact hd)
            rw [← hR2] at k1
            have HR2 := Lib.hid k1
            clear k1 k2 hd hR2
            go_wp2_with (at_builtin; refine wpList_append_own_at _ rfl _ _ 33 rfl w1.heap.size 40 i40 _ 4 32 Try.underlying33 hi4 hz0 hz1 hz2 rfl (by decide) u6 L.length (hksC L) rfl ((HO.out.alloc _).alloc _) ⟨wr.heap.size + 1, 0, none⟩ 1 1 (hkC ⟨i, u, j, m⟩) (by rfl) (by rfl) (World.news_of_block (cs := (hkC ⟨i, u, j, m⟩).toArray) (t := 40) (fr := (0, 0)) (by have := heap_alloc_new (wr.alloc (.cells (hkC ⟨i, u, j, m⟩).toArray 40)) (.cells (hkC ⟨i, u, j, m⟩).toArray 40); rwa [World.size_alloc] at this)) (by simp [Value.oneCell', hkC]) (by unfold maxLen; omega) (by omega) (by have := HBW.out.size; simp; omega) ?_; intro v5 w5 ho5 hg5 hn5 hat5)
            go_roundw
            case rel =>
              refine ⟨u, m, R2, L ++ [⟨i, u, j, m⟩], by omega, by omega, rfl, rfl, HR2, Lib.hid (by rw [HD2.out, List.append_assoc]; rfl), Lib.hid (own_snoc ho5), Lib.hid (((HBW.out.alloc HBW.out.size _).alloc (by have := HBW.out.size; simp; omega) _).grown hg5 (by have := HBW.out.size; simp; omega) (row_ge HO.out))⟩
            case measure => simp [intOf]; omega
      · have n2 : ¬ (j : Int) < (m : Int) := by omega
        obtain rfl : i = n := by omega
        obtain rfl : j = m := by omega
        have hd := HD.out
        rw [HRe.out.done, List.append_nil] at hd
        obtain ⟨A6, c6, rfl, hH6⟩ := hks_own (r := r) HO.out (by rw [← hd]; exact HR.out)
        rw [← hd] at hH6
        have HH6 := Lib.hid hH6
        clear hd hH6 hFw
        go_wp2_with fail
        go_ret
        exact ⟨A6, c6, rfl, HH6.out, Below.then_ HB1.out HBW.out⟩
end Go.Proofs.Ytmeoannheomdoaa
