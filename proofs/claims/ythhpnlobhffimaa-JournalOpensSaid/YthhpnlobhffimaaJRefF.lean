/- The reference's Frames. -/
import Derived.Test.YthhpnlobhffimaaJFrR
import Derived.Test.YthhpnlobhffimaaJDuo
import Derived.Test.YthhpnlobhffimaaJArgs
namespace Go.Proofs.Ythhpnlobhffimaa
set_option maxRecDepth 100000
open Go.ChangeShapes Go.WideShapes Go.RowKit
def RFOut (c : List UInt8) (W : World) (e : Ending) (W' : World) : Prop := ∃ A cap, e = .returned (.tuple #[.slice A (recs c).length cap, .int .i64 ((fl (recs c)).length : Int)]) ∧
  W'.ownsRow W.heap.size 9 1 (.slice A (recs c).length cap) (recs c).length (strC ((recs c).map str)) ∧ Below W.heap.size W W'
/-- where Frames stands -/
structure FrI (c : List UInt8) (W wr : World) (p n cap : Nat) (A : Option Addr) (dn : List (List UInt8)) : Prop where
  len : dn.length = n
  at_ : p = (fl dn).length
  rest : recs c = dn ++ recs (c.drop p)
  row : wr.ownsRow W.heap.size 9 1 (.slice A n cap) n (strC (dn.map str))
  bel : Below W.heap.size W wr
theorem FrI.stop {c : List UInt8} {W wr W' : World} {p n cap : Nat} {A : Option Addr} {dn : List (List UInt8)} (h : FrI c W wr p n cap A dn) (hs : recs (c.drop p) = []) (hb : Below wr.heap.size wr W') : RFOut c W (.returned (.tuple #[.slice A n cap, .int .i64 (p : Int)])) W' := by
  have hr := h.rest
  rw [hs, List.append_nil] at hr
  unfold RFOut
  rw [hr, h.len, ← h.at_]
  exact ⟨A, cap, rfl, own_keep h.row hb, Below.then_ h.bel hb⟩
theorem drop_cons {c : ByteArray} {p : Nat} (hp : p < c.size) : c.data.toList.drop p = c[p] :: c.data.toList.drop (p + 1) := by
  rw [List.drop_eq_getElem_cons (by simpa using hp)]
  rfl
set_option maxHeartbeats 16000000 in
theorem rframes_any (c : ByteArray) (hc : c.size ≤ 1099511627776) (W : World) : Calls Try.prog 45 #[.string c] W (RFOut c.data.toList W) := by
  obtain ⟨i0, hi, hz0, hz1, hz2⟩ := info_parts info9
  have H0 : Hid (FrI c.data.toList W W 0 0 0 none []) := Lib.hid ⟨rfl, rfl, by simp, World.ownsRow_nil _ _ _ _, Below.refl _ W⟩
  have ST := Lib.hid (fun (p n cap : Nat) (A : Option Addr) (dn : List (List UInt8)) (wr W' : World) (h : FrI c.data.toList W wr p n cap A dn) (hs : recs (c.data.toList.drop p) = []) (hb : Below wr.heap.size wr W') => h.stop hs hb)
  obtain ⟨N, hN⟩ : ∃ N, c.size = N := ⟨_, rfl⟩
  have N0 : (0 : Int) ≤ (c.size : Int) := Int.natCast_nonneg _
  have hci : (c.size : Int) ≤ 281474976710656 := by omega
  clear hN
  go_enter Try.func45, Try.ntmps45
  go_upto_region 3 with fail
  go_loopw [4, 5, 6, 7, 8, 9, 10, 11, 12] (fun v4 v5 _ _ _ _ _ _ _ wr => ∃ (p n cap : Nat) (A : Option Addr) (dn : List (List UInt8)), v4 = .slice A n cap ∧ v5 = .int .i64 (p : Int) ∧ p ≤ c.size ∧ Hid (FrI c.data.toList W wr p n cap A dn)) (fun _ v5 _ _ _ _ _ _ _ _ => c.size - (intOf v5).toNat)
  case atStart => exact ⟨0, 0, 0, none, [], rfl, rfl, Nat.zero_le _, H0⟩
  case round =>
    obtain ⟨p, n, cap, A, dn, rfl, rfl, hp, HI⟩ := hrel
    have p0 : (0 : Int) ≤ (p : Int) := Int.natCast_nonneg _
    have STP := Lib.hid (fun (hs : recs (c.data.toList.drop p) = []) (W' : World) (hb : Below wr.heap.size wr W') => ST.out p n cap A dn wr W' HI.out hs hb)
    by_cases hlt : p < c.size
    · have p1 : (p : Int) < (c.size : Int) := by omega
      by_cases h1 : c[p] = 1
      · have e1 : ((c[p].toNat : Int) == 1) = true := by rw [h1]; rfl
        obtain ⟨s, hs⟩ : ∃ s, c.extract (p + 1) c.size = s := ⟨_, rfl⟩
        have hsl : s.data.toList = c.data.toList.drop (p + 1) := by rw [← hs, Lib.extract_data]; first | (rw [List.take_of_length_le (by simp)]) | (simp [List.take_of_length_le])
        have hsz : s.size = c.size - (p + 1) := by rw [← hs]; simp
        have RD := Lib.hid (fun W => refRead_any s W (by unfold maxLen; omega))
        have hc1 : c.data.toList.drop p = 1 :: s.data.toList := by rw [drop_cons hlt, h1, hsl]
        have p2 : (p : Int) + 1 ≤ (c.size : Int) := by omega
        have RDH : True := trivial
        rcases rd_cases s.data.toList with (h | h) | ⟨v, u, h, hu0, hu, hu10, hv⟩
        · rw [h] at RD
          unfold ret3 at RD
          have SS := Lib.hid (fun (W' : World) (hb : Below wr.heap.size wr W') => STP.out (by rw [hc1]; exact recs_none (frB_err (by rw [h]; decide))) W' hb)
          clear h hc1 hsl hsz RDH
          go_wp2_with (go_at_call 62; ((with_reducible refine (RD.out _).mono ?_); rintro e w1 ⟨rfl, hb1⟩))
          refine bodyPost_ret (v := .tuple #[.slice A n cap, .int .i64 (p : Int)]) (by simp [results, Try.results45, go_sem]) rfl ?_
          exact SS.out _ hb1
        · rw [h] at RD
          unfold ret3 at RD
          have SS := Lib.hid (fun (W' : World) (hb : Below wr.heap.size wr W') => STP.out (by rw [hc1]; exact recs_none (frB_err (by rw [h]; decide))) W' hb)
          clear h hc1 hsl hsz RDH
          go_wp2_with (go_at_call 62; ((with_reducible refine (RD.out _).mono ?_); rintro e w1 ⟨rfl, hb1⟩))
          refine bodyPost_ret (v := .tuple #[.slice A n cap, .int .i64 (p : Int)]) (by simp [results, Try.results45, go_sem]) rfl ?_
          exact SS.out _ hb1
        · rw [data_len] at hu
          rw [h] at RD
          unfold ret3 at RD
          have u0 : (0 : Int) ≤ (u : Int) := Int.natCast_nonneg _
          have v0 : (0 : Int) ≤ (v : Int) := Int.natCast_nonneg _
          have u1 : (u : Int) ≤ (c.size : Int) - (p : Int) - 1 := by omega
          have v1 : (v : Int) ≤ 18446744073709551615 := by omega
          by_cases hA : c.size < v
          · have a1 : (c.size : Int) < (v : Int) := by omega
            have SS := Lib.hid (fun (W' : World) (hb : Below wr.heap.size wr W') => STP.out (by rw [hc1]; exact recs_none (frB_short h (by rw [data_len]; omega))) W' hb)
            clear h hc1 hsl hsz RDH
            go_wp2_with (go_at_call 62; ((with_reducible refine (RD.out _).mono ?_); rintro e w1 ⟨rfl, hb1⟩))
            refine bodyPost_ret (v := .tuple #[.slice A n cap, .int .i64 (p : Int)]) (by simp [results, Try.results45, go_sem]) rfl ?_
            exact SS.out _ hb1
          · have a1 : ¬ (c.size : Int) < (v : Int) := by omega
            have a2 : (v : Int) ≤ 281474976710656 := by omega
            by_cases hB : s.size < u + v + 4
            · have b1 : (c.size : Int) - (p : Int) - 1 - (u : Int) < (v : Int) + 4 := by omega
              have SS := Lib.hid (fun (W' : World) (hb : Below wr.heap.size wr W') => STP.out (by rw [hc1]; exact recs_none (frB_short h (by rw [data_len]; omega))) W' hb)
              clear h hc1 hsl hsz RDH
              go_wp2_with (go_at_call 62; ((with_reducible refine (RD.out _).mono ?_); rintro e w1 ⟨rfl, hb1⟩))
              refine bodyPost_ret (v := .tuple #[.slice A n cap, .int .i64 (p : Int)]) (by simp [results, Try.results45, go_sem]) rfl ?_
              exact SS.out _ hb1
            · obtain ⟨hf1, hf2⟩ := frB_fits h (by rw [data_len]; omega)
              have b1 : ¬ (c.size : Int) - (p : Int) - 1 - (u : Int) < (v : Int) + 4 := by omega
              obtain ⟨R, hR⟩ : ∃ R, c.extract (p + 1 + u) (p + 1 + u + v) = R := ⟨_, rfl⟩
              have hRl : R.data.toList = (s.data.toList.drop u).take v := by
                rw [← hR, Lib.extract_data, hsl, List.drop_drop]
                simp
              have hRs : R.size ≤ 281474976710656 := by rw [← hR]; simp; omega
              have BD := Lib.hid (fun W => refBody_any R W hRs)
              unfold StrB at BD
              rw [← hRl] at hf1 hf2
              obtain ⟨Bl, hBl⟩ : ∃ Bl, body R.data.toList = Bl := ⟨_, rfl⟩
              rw [hBl] at hf1 hf2 BD
              obtain ⟨Bd, hBd⟩ : ∃ Bd, str Bl = Bd := ⟨_, rfl⟩
              have hBz : Bd.size = u + v + 4 := by rw [← hBd, str_size]; exact hf1
              rw [hBd] at BD
              have z1 : (p : Int) + 1 + (Bd.size : Int) ≤ (c.size : Int) := by omega
              have z0 : (0 : Int) ≤ (Bd.size : Int) := Int.natCast_nonneg _
              have z2 : (p : Int) + 1 + (u : Int) + (v : Int) ≤ (c.size : Int) := by omega
              obtain ⟨Xs, hXs⟩ : ∃ Xs, c.extract (p + 1) (p + 1 + Bd.size) = Xs := ⟨_, rfl⟩
              have hXl : Xs.data.toList = s.data.toList.take (u + v + 4) := by
                rw [← hXs, Lib.extract_data, hsl, hBz]
                simp
              rw [← hXl] at hf2
              by_cases hXB : Xs = Bd
              · have hgo : readB s.data.toList = some R.data.toList := by
                  rw [hf2, if_pos]
                  rw [hXB, ← hBd]; exact str_data _
                have hBs : Bd.size = (body R.data.toList).length := by rw [hBl, hBz]; exact hf1.symm
                have hnp : n ≤ p := by have := fl_many dn; have := HI.out.len; have := HI.out.at_; omega
                have NX := Lib.hid (fun (wr' : World) (A' : Option Addr) (cap' : Nat) (hrow : wr'.ownsRow W.heap.size 9 1 (.slice A' (n + 1) cap') (n + 1) (strC (dn.map str) ++ [.string R])) (hb : Below W.heap.size W wr') => (show FrI c.data.toList W wr' (p + 1 + Bd.size) (n + 1) cap' A' (dn ++ [R.data.toList]) from ⟨by rw [List.length_append, HI.out.len]; rfl, by rw [fl_snoc, List.length_append, frame_len, ← HI.out.at_, ← hBs]; omega, by
                    rw [HI.out.rest, hc1, recs_some hgo, ← hBs, hsl, List.drop_drop]
                    simp [Nat.add_assoc], by rw [List.map_append, show [R.data.toList].map str = [R] by rw [List.map_cons, List.map_nil, ← str_eq rfl], strC_snoc]; exact hrow, hb⟩))
                have x1 : (Bd.toList == Bd.toList) = true := by simp
                rw [hXB] at hXs
                have hrow := HI.out.row
                have hsB := HI.out.bel.size
                have np1 : n ≤ 1099511627776 := by omega
                clear hBz h hc1 hsl hsz RDH hRl hBl hBd hXl hf1 hf2 hgo hXB hBs
                go_wp2_with (first
                  | (go_at_call 62; ((with_reducible refine (RD.out _).mono ?_); rintro e w1 ⟨rfl, hb1⟩))
                  | (go_at_call 30; ((with_reducible refine (BD.out _).mono ?_); rintro e w2 ⟨rfl, hb2⟩; (have hrow2 := own_keep hrow (Below.then_ hb1 hb2))))
                  | (at_builtin; refine wpList_append_own _ rfl _ _ 27 rfl W.heap.size 9 i0 (.string ⟨#[]⟩) 1 16 Try.underlying27 hi hz0 hz1 hz2 rfl (by decide) (.slice A n cap) _ _ rfl (hrow2.alloc _) ⟨w2.heap.size, 0, none⟩ 1 1 [.string R] rfl rfl (cell_one_new _ _ _) (by simp [Value.oneCell']) (by unfold maxLen; omega) (by omega) (by have := hb1.size; have := hb2.size; simp; omega) ?_; intro v' w4 hown' hgrow _; obtain ⟨A4, c4, rfl⟩ := own_form hown')
                  | (fail "arm"))
                have hbb : Below W.heap.size W w4 := (Below.then_ (Below.then_ HI.out.bel hb1) hb2).trans ((((Below.refl _ w2).alloc (by have := hb1.size; have := hb2.size; omega) _).grown hgrow (by have := hb1.size; have := hb2.size; simp; omega) (fun g hg => row_ge hrow2 g hg)))
                have HF := Lib.hid (NX.out w4 A4 c4 hown' hbb)
                clear hbb hown' hgrow hrow2 hb1 hb2
                go_roundw
                case rel => exact ⟨p + 1 + Bd.size, n + 1, c4, A4, dn ++ [R.data.toList], rfl, by go_num, by omega, HF⟩
                case measure => simp [intOf]; omega
              · have hno : readB s.data.toList = none := by
                  rw [hf2, if_neg]
                  intro e
                  exact hXB (by rw [← hBd, ← e]; exact (str_eq rfl).symm)
                have SS := Lib.hid (fun (W' : World) (hb : Below wr.heap.size wr W') => STP.out (by rw [hc1]; exact recs_none hno) W' hb)
                have x1 : (Xs.toList == Bd.toList) = false := by
                  rw [beq_eq_false_iff_ne]; intro e; rw [ByteArray.toList_eq, ByteArray.toList_eq] at e; exact hXB (Go.WideShapes.bytes_inj e)
                clear hBz h hc1 hsl hsz RDH hRl hBl hBd hXl hf1 hf2 hno
                go_wp2_with (first
                  | (go_at_call 62; ((with_reducible refine (RD.out _).mono ?_); rintro e w1 ⟨rfl, hb1⟩))
                  | (go_at_call 30; ((with_reducible refine (BD.out _).mono ?_); rintro e w2 ⟨rfl, hb2⟩))
                  | (fail "arm"))
                refine bodyPost_ret (v := .tuple #[.slice A n cap, .int .i64 (p : Int)]) (by simp [results, Try.results45, go_sem]) rfl ?_
                exact SS.out _ (Below.then_ hb1 hb2)
      · have e1 : ((c[p].toNat : Int) == 1) = false := by
          have : c[p].toNat ≠ 1 := fun e => h1 (UInt8.toNat_inj.1 e)
          simp; omega
        have SS := Lib.hid (STP.out (by rw [drop_cons hlt]; exact recs_not _ h1) wr (Below.refl _ wr))
        go_wp2
        refine bodyPost_ret (v := .tuple #[.slice A n cap, .int .i64 (p : Int)]) (by simp [results, Try.results45, go_sem]) rfl ?_
        exact SS.out
    · have p1 : ¬ (p : Int) < (c.size : Int) := by omega
      have SS := Lib.hid (STP.out (by rw [List.drop_eq_nil_of_le (by simp; omega)]; rfl) wr (Below.refl _ wr))
      obtain rfl : p = c.size := by omega
      go_wp2
      refine bodyPost_ret (v := .tuple #[.slice A n cap, .int .i64 (c.size : Int)]) (by simp [results, Try.results45, go_sem]) rfl ?_
      exact SS.out
end Go.Proofs.Ythhpnlobhffimaa
