/- The reference's Open of any disk. -/
import Derived.Test.YthhpnlobhffimaaJRefO
namespace Go.Proofs.Ythhpnlobhffimaa
set_option maxRecDepth 100000
open Go.ChangeShapes Go.WideShapes Go.RowKit
set_option maxHeartbeats 8000000 in
theorem ropen_any {w W : World} {q : Nat} {d : Dk} {X : Nat → Prop} (h : RSide w W q d X) (hc : d.calls ≤ 90000) : Calls Try.prog 23 #[.pointer (some ⟨q, 0, none⟩)] W (ROOut w W q d X) := by
  have hnl : d.now.length ≤ lim := h.good.now
  have hlim : lim = 16777216 := rfl
  have hfl := fl_recs_le d.now
  obtain ⟨E, hE⟩ : ∃ E, (fl (recs d.now)).length = E := ⟨_, rfl⟩
  obtain ⟨n, hn⟩ : ∃ n, (recs d.now).length = n := ⟨_, rfl⟩
  obtain ⟨T, hT⟩ : ∃ T, str d.now = T := ⟨_, rfl⟩
  have hTd : T.data.toList = d.now := by rw [← hT]; rfl
  have hTz : T.size = d.now.length := by rw [← hT]; rfl
  have FN := Lib.hid (show Calls Try.prog 45 #[.string T] W (RFOut d.now W) from by rw [← hTd]; exact rframes_any T (by omega) W)
  unfold RFOut at FN
  rw [hE, hn] at FN
  have ER : Hid (∀ (D : Dk) (v : Int) (W1 W' : World) (Y : Nat → Prop), openD d = (v, D) → v ≠ 0 → Below W.heap.size W W1 → (∀ x, X x → Y x) → RS w W1 q D Y W' → ROOut w W q d X (.returned (.tuple #[.pointer none, .slice none 0 0, .int .i64 v])) W') :=
    Lib.hid fun D v W1 W' Y ho hv hb hY k => by
      obtain ⟨G, j1, j4⟩ := h.his
      exact ro_err ho hv (fun x hx => hb.block x (j4 x hx).2) hb.size hY k
  have OK : Hid (∀ (D : Dk) (W1 W' : World) (A : Option Addr) (cap : Nat), openD d = (0, D) → Below W.heap.size W W1 → W1.ownsRow W.heap.size 9 1 (.slice A n cap) n (strC ((recs d.now).map str)) → RS w W1 q D (fun x => X x ∨ (Value.slice A n cap).ownBlock = some x) W' → ROOut w W q d X (.returned (.tuple #[.pointer (some ⟨W'.heap.size, 0, none⟩), .slice A n cap, .int .i64 0])) (W'.alloc (.cells #[.pointer (some ⟨q, 0, none⟩), .int .i64 (E : Int), .int .i64 (n : Int), .bool false] 94))) :=
    Lib.hid fun D W1 W' A cap ho hb hrow k => ro_ok h ho hn hE (by omega) hb hrow k
  have S1 : Hid (∀ (W1 : World) (A : Option Addr) (cap : Nat), Below W.heap.size W W1 → W1.ownsRow W.heap.size 9 1 (.slice A n cap) n (strC ((recs d.now).map str)) → RSide w W1 q d (fun x => X x ∨ (Value.slice A n cap).ownBlock = some x)) :=
    Lib.hid fun W1 A cap hb hrow => h.plus hb fun x hx => ⟨row_ge hrow x hx, owns_lt hrow x hx⟩
  have NC : Hid (∀ (W1 : World) (Y : Nat → Prop), RSide w W1 q d Y → W1.cell? ⟨q, 0, none⟩ = some (.string T)) := Lib.hid fun W1 Y k => by rw [← hT]; exact k.now
  have c0 := NC.out W X h
  have SY := Lib.hid (fun (W1 : World) (Y : Nat → Prop) (k : RSide w W1 q d Y) => k.sync (by omega))
  have E0 : (0 : Int) ≤ (E : Int) := Int.natCast_nonneg _
  have hz0 : (T.size : Int) ≤ 16777216 := by omega
  by_cases hw : ∃ (hlt : E < T.size), T[E] ≠ 0
  · obtain ⟨hlt, hne0⟩ := hw
    have hdrop : d.now.drop E = T[E] :: d.now.drop (E + 1) := by rw [← hTd]; exact drop_cons hlt
    have e1 : ((T[E].toNat : Int) == 0) = false := by
      have : T[E].toNat ≠ 0 := fun e => hne0 (UInt8.toNat_inj.1 e)
      simp; omega
    have p1 : (E : Int) < (T.size : Int) := by omega
    have ho : openD d = if d.wErr (E : Int) [0] ≠ 0 then (d.wErr (E : Int) [0], d.write (E : Int) [0]) else ((d.write (E : Int) [0]).sErr, (d.write (E : Int) [0]).sync) := by
      unfold openD
      rw [hE, hdrop]
      dsimp only
      rw [if_neg hne0]
    have WR := Lib.hid (fun (W1 : World) (Y : Nat → Prop) (k : RSide w W1 q d Y) => (show Calls Try.prog 32 #[.pointer (some ⟨q, 0, none⟩), .int .i64 (E : Int), .string ⟨#[0]⟩] W1 fun e W' => e = .returned (.int .i64 (d.wErr (E : Int) [0])) ∧ RS w W1 q (d.write (E : Int) [0]) Y W' from k.write (by omega) (E : Int) [0] (by omega) (by simp)))
    have SW := Lib.hid (fun (W1 : World) (Y : Nat → Prop) (k : RSide w W1 q (d.write (E : Int) [0]) Y) => k.sync (by have := write_calls d (E : Int) [0]; omega))
    obtain ⟨u, hu⟩ : ∃ u, d.wErr (E : Int) [0] = u := ⟨_, rfl⟩
    obtain ⟨D1, hD1⟩ : ∃ D1, d.write (E : Int) [0] = D1 := ⟨_, rfl⟩
    rw [hu, hD1] at WR ho
    rw [hD1] at SW
    obtain ⟨v, hv⟩ : ∃ v, D1.sErr = v := ⟨_, rfl⟩
    obtain ⟨D2, hD2⟩ : ∃ D2, D1.sync = D2 := ⟨_, rfl⟩
    rw [hv, hD2] at SW ho
    rcases er_split u with rfl | hun
    · have ho' : openD d = (v, D2) := by rw [ho, if_neg (by simp)]
      have HO := Lib.hid ho'
      clear h hc hnl hlim hfl hE hn hT hTd hTz hne0 hdrop ho ho' hu hD1 hv hD2
      go_enter Try.func23, Try.ntmps23
      go_upto_region 7 with (first
        | (go_at_call 45; ((with_reducible refine FN.out.mono ?_); rintro e w1 ⟨A, cap, rfl, hrow, hb1⟩; (have k1 := S1.out w1 A cap hb1 hrow); (have n1 := NC.out w1 _ k1)))
        | (go_at_call 32; ((with_reducible refine (WR.out w1 _ k1).mono ?_); rintro e w2 ⟨rfl, k2⟩; (have k2s := k2.1)))
        | (go_at_call 46; ((with_reducible refine (SW.out w2 _ k2s).mono ?_); rintro e w3 ⟨rfl, k3⟩))
        | (fail "arm"))
      have HK := Lib.hid (k2.trans k3)
      have HR := Lib.hid (And.intro hb1 hrow)
      clear k1 k2 k2s k3 n1 hb1 hrow FN S1 NC SY WR SW
      rcases er_split v with rfl | hvn
      · go_wp2_with fail
        refine bodyPost_ret (v := .tuple #[.pointer (some ⟨w3.heap.size, 0, none⟩), .slice A n cap, .int .i64 0]) (by simp [results, Try.results23, go_sem]) rfl ?_
        exact OK.out _ _ _ A cap HO.out HR.out.1 HR.out.2 HK.out
      · go_wp2
        refine bodyPost_ret (v := .tuple #[.pointer none, .slice none 0 0, .int .i64 v]) (by simp [results, Try.results23, go_sem]) rfl ?_
        exact ER.out _ _ _ _ _ HO.out (fun e => by rw [e] at hvn; cases hvn) HR.out.1 (fun x hx => .inl hx) HK.out
    · have ho' : openD d = (u, D1) := by rw [ho, if_pos (fun e => by rw [e] at hun; cases hun)]
      have HO := Lib.hid ho'
      clear h hc hnl hlim hfl hE hn hT hTd hTz hne0 hdrop ho ho' hu hD1 hv hD2
      go_enter Try.func23, Try.ntmps23
      go_upto_region 5 with (first
        | (go_at_call 45; ((with_reducible refine FN.out.mono ?_); rintro e w1 ⟨A, cap, rfl, hrow, hb1⟩; (have k1 := S1.out w1 A cap hb1 hrow); (have n1 := NC.out w1 _ k1)))
        | (go_at_call 32; ((with_reducible refine (WR.out w1 _ k1).mono ?_); rintro e w2 ⟨rfl, k2⟩))
        | (fail "arm"))
      have HK := Lib.hid k2
      have HR := Lib.hid hb1
      clear k1 k2 n1 hb1 hrow FN S1 NC SY WR SW
      go_wp2
      refine bodyPost_ret (v := .tuple #[.pointer none, .slice none 0 0, .int .i64 u]) (by simp [results, Try.results23, go_sem]) rfl ?_
      exact ER.out _ _ _ _ _ HO.out (fun e => by rw [e] at hun; cases hun) HR.out (fun x hx => .inl hx) HK.out
  · have ho : openD d = (d.sErr, d.sync) := by
      unfold openD
      rw [hE]
      by_cases hlt : E < T.size
      · have : T[E] = 0 := Decidable.byContradiction fun e => hw ⟨hlt, e⟩
        rw [show d.now.drop E = T[E] :: d.now.drop (E + 1) by rw [← hTd]; exact drop_cons hlt, this]
        rfl
      · rw [List.drop_eq_nil_of_le (by omega)]
    have fact : (¬ (E : Int) < (T.size : Int)) ∨ ∃ (hlt : E < T.size), ((T[E].toNat : Int) == 0) = true := by
      by_cases hlt : E < T.size
      · exact .inr ⟨hlt, by rw [Decidable.byContradiction fun e => hw ⟨hlt, e⟩]; rfl⟩
      · exact .inl (by omega)
    obtain ⟨v, hv⟩ : ∃ v, d.sErr = v := ⟨_, rfl⟩
    obtain ⟨D2, hD2⟩ : ∃ D2, d.sync = D2 := ⟨_, rfl⟩
    rw [hv, hD2] at SY ho
    have HO := Lib.hid ho
    have hle : (E : Int) ≤ (T.size : Int) := by omega
    clear h hc hnl hlim hfl hE hn hT hTd hTz hw ho hv hD2
    rcases fact with fact | ⟨hlt, fact⟩
    all_goals
      first | (have p1 : (E : Int) < (T.size : Int) := by omega) | skip
      go_enter Try.func23, Try.ntmps23
      go_upto_region 7 with (first
        | (go_at_call 45; ((with_reducible refine FN.out.mono ?_); rintro e w1 ⟨A, cap, rfl, hrow, hb1⟩; (have k1 := S1.out w1 A cap hb1 hrow); (have n1 := NC.out w1 _ k1)))
        | (go_at_call 46; ((with_reducible refine (SY.out w1 _ k1).mono ?_); rintro e w3 ⟨rfl, k3⟩))
        | (fail "arm"))
      have HK := Lib.hid k3
      have HR := Lib.hid (And.intro hb1 hrow)
      clear k1 k3 n1 hb1 hrow FN S1 NC SY
      rcases er_split v with rfl | hvn
      · go_wp2_with fail
        refine bodyPost_ret (v := .tuple #[.pointer (some ⟨w3.heap.size, 0, none⟩), .slice A n cap, .int .i64 0]) (by simp [results, Try.results23, go_sem]) rfl ?_
        exact OK.out _ _ _ A cap HO.out HR.out.1 HR.out.2 HK.out
      · go_wp2
        refine bodyPost_ret (v := .tuple #[.pointer none, .slice none 0 0, .int .i64 v]) (by simp [results, Try.results23, go_sem]) rfl ?_
        exact ER.out _ _ _ _ _ HO.out (fun e => by rw [e] at hvn; cases hvn) HR.out.1 (fun x hx => .inl hx) HK.out
end Go.Proofs.Ythhpnlobhffimaa
