/- Sync. -/
import Derived.Test.YthhpnlobhffimaaWriteT
namespace Go.Proofs.Ythhpnlobhffimaa
set_option maxRecDepth 100000
open Go.RowKit
/-- a piece of a row of pieces -/
theorem pc_at {w : World} {B m c : Nat} {A : Option Addr} {l : List Pc} (h : Row w B 2 A m c (pcC l)) {k : Nat} (hk : k < l.length) : ∃ ad, A = some ad ∧ ad.block < B ∧ w.cell? (ad.add (k * 2)) = some (.int .i64 ((l[k].1 : Nat) : Int)) ∧ w.cell? ⟨(ad.add (k * 2)).block, (ad.add (k * 2)).off + 1, none⟩ = some (.string (str l[k].2)) := by
  have e := pcC_at l k hk
  obtain ⟨ad, ea, hb, c0⟩ := h.2.2.2 (k * 2) _ e.1
  obtain ⟨ad', ea', _, c1⟩ := h.2.2.2 (k * 2 + 1) _ e.2
  obtain rfl : ad = ad' := by rw [ea] at ea'; injection ea'
  refine ⟨ad, ea, hb, c0, ?_⟩
  rw [← c1, ← add_twice]
  rfl
def SyncOut (B : Nat) (w : World) (p : Nat) (d : Dk) (F : Nat → Prop) (e : Ending) (w' : World) : Prop :=
  e = .returned (.int .i64 d.sErr) ∧ ∃ F', IsD B w' p d.sync F' ∧ Goes F w w' F'
theorem sync_nil (w : World) : Calls Try.prog 56 #[.pointer none] w fun e w' => e = .returned (.int .i64 1) ∧ w = w' := by
  go_enter Try.func56, Try.ntmps56
  go_wp2
  go_ret
  exact ⟨rfl, rfl⟩
/-- Sync's loop: so many pieces are in what was synced -/
def SI (w wr : World) (p : Nat) (d : Dk) (F : Nat → Prop) (a c : Value) (lf : Int) (k : Nat) : Prop := ∃ b, Mid w wr p F d.now (putAll d.syn (d.ps.take k)) d.ps a b c (pwN d.pw) lf (d.calls : Int)
theorem putAll_take (c : List UInt8) (ps : List Pc) (k : Nat) (hk : k < ps.length) : putAll c (ps.take (k + 1)) = put (putAll c (ps.take k)) ps[k].1 ps[k].2 := by
  rw [List.take_succ_eq_append_getElem hk, putAll_snoc]
set_option maxHeartbeats 8000000 in
theorem sync_any {B : Nat} {w : World} {p : Nat} {d : Dk} {F : Nat → Prop} (hd : IsD B w p d F) (hc : d.calls ≤ 100000) :
    Calls Try.prog 56 #[.pointer (some ⟨p, 0, none⟩)] w (SyncOut B w p d F) := by
  unfold SyncOut
  have HD := Lib.hid hd
  obtain ⟨a, b, c, lf, h⟩ := hd
  have OF := Lib.hid (off_any h.full)
  cases hof : offO d.pw with
  | true =>
    have e1 : d.sErr = 30 := by unfold Dk.sErr Dk.isOff; rw [if_pos hof]
    have e2 : d.sync = d := by unfold Dk.sync Dk.isOff; rw [if_pos hof]
    rw [hof] at OF
    rw [e1, e2]
    clear h e1 e2 hof
    go_enter Try.func56, Try.ntmps56
    go_wp2_with (go_at_call 49; ((with_reducible refine OF.out.mono ?_); rintro e w1 ⟨rfl, rfl⟩))
    go_ret
    exact ⟨rfl, F, HD.out, Goes.refl _ _⟩
  | false =>
    have e1 : d.sErr = 0 := by unfold Dk.sErr Dk.isOff; rw [if_neg (by simp [hof])]
    have e2 : d.sync = d.synced := by unfold Dk.sync Dk.isOff; rw [if_neg (by simp [hof])]
    rw [hof] at OF
    rw [e1, e2]
    obtain ⟨m, hm⟩ : ∃ m, d.ps.length = m := ⟨_, rfl⟩
    obtain ⟨C, cc, rfl⟩ := own_form h.ps
    rw [hm] at h
    have HH := Lib.hid h
    have HM := Lib.hid hm
    have H0 := Lib.hid (show SI w w p d F a (.slice C m cc) lf 0 from ⟨b, h.mid⟩)
    have hnp := h.good.few
    rw [hm] at hnp
    have hps := h.good.ps
    have HPS := Lib.hid hps
    have HGs := Lib.hid h.good.syn
    have c2 : w.cell? ⟨p, 2, none⟩ = some (.slice C m cc) := h.full.cell 2
    have HOF := Lib.hid hof
    clear h e1 e2 hm hps hof HD
    go_enter Try.func56, Try.ntmps56
    go_wp2_with (go_at_call 49; ((with_reducible refine OF.out.mono ?_); rintro e w1 ⟨rfl, rfl⟩))
    go_loopw [16] (fun v16 wr => ∃ k : Nat, v16 = .int .i64 (k : Int) ∧ k ≤ m ∧ Hid (SI w wr p d F a (.slice C m cc) lf k)) (fun v16 _ => m - (intOf v16).toNat)
    case atStart => exact ⟨0, rfl, by omega, H0⟩
    case round =>
      obtain ⟨k, rfl, hk, H⟩ := hrel
      have k0 : (0 : Int) ≤ (k : Int) := Int.natCast_nonneg _
      by_cases hkm : k < m
      · have k1 : (k : Int) < (m : Int) := by omega
        have hkl : k < d.ps.length := by have := HM.out; omega
        obtain ⟨bk, HK⟩ := H.out
        obtain ⟨ad, hC, hadl, a0, a1⟩ := pc_at (Row.own (HM.out ▸ HK.ps)) hkl
        have hpl := HPS.out _ (List.getElem_mem hkl)
        have hpt := putAll_take d.syn d.ps k hkl
        obtain ⟨o, ho⟩ : ∃ o, d.ps[k].1 = o := ⟨_, rfl⟩
        obtain ⟨sl, hsl⟩ : ∃ sl, d.ps[k].2 = sl := ⟨_, rfl⟩
        rw [ho, hsl] at hpt hpl
        rw [ho] at a0
        rw [hsl] at a1
        obtain ⟨s, hs⟩ : ∃ s, str sl = s := ⟨_, rfl⟩
        have hsd : s.data.toList = sl := by rw [← hs]; rfl
        rw [hs] at a1
        rw [← hsd] at hpt hpl
        have hLlen : (putAll d.syn (d.ps.take k)).length ≤ lim := putAll_len lim _ _ (fun x hx => HPS.out x (List.mem_of_mem_take hx)) HGs.out
        obtain ⟨L, hL⟩ : ∃ L, putAll d.syn (d.ps.take k) = L := ⟨_, rfl⟩
        rw [hL] at HK hpt hLlen
        subst hC
        have hbw : Below wr.heap.size wr (wr.alloc (.cells #[.int .i64 (o : Int), .string s] 86)) := (Below.refl _ wr).alloc (Nat.le_refl _) _
        have M1 := HK.below hbw
        have KB0 := Full.new wr 86 [.int .i64 (o : Int), .string s]
        obtain ⟨w1, hw1⟩ : ∃ w1, wr.alloc (.cells #[.int .i64 (o : Int), .string s] 86) = w1 := ⟨_, rfl⟩
        rw [hw1] at M1 hbw
        have KB1 : Full w1 wr.heap.size 86 [.int .i64 (o : Int), .string s] := by rw [← hw1]; exact KB0
        have ON := Lib.hid (show Calls Try.prog 44 #[.agg #[.int .i64 (o : Int), .string s], bk] w1.drew (OntoOut w1.drew bk L o s) from onto_any (w := w1.drew) M1.syn (by rw [data_len] at hpl; exact hpl) hLlen)
        unfold OntoOut at ON
        have HM1 := Lib.hid M1
        have f1 : w1.cell? ⟨p, 1, none⟩ = some bk := M1.full.cell 1
        have b0 : w1.cell? ⟨wr.heap.size, 0, none⟩ = some (.int .i64 (o : Int)) := KB1.cell 0
        have b1 : w1.cell? ⟨wr.heap.size, 1, none⟩ = some (.string s) := KB1.cell 1
        have HPT := Lib.hid hpt
        clear HK M1 KB0 KB1 hbw hpt hLlen hL hsd hs ho hsl hpl H
        go_upto_region 8 with fail
        clear hw1
        go_region_law
          (first
            | (refine step_call_fn rfl 44 _ _ rfl #[.agg #[.int .i64 (o : Int), .string s], bk] (by rfl) (enters_of Try.func44 (by kernel_rfl) rfl) ON.out ?_; rintro e w2 ⟨v2, rfl, own2, turn2, at2⟩; refine ⟨_, rfl, ?_⟩; (obtain ⟨A2, c2', rfl⟩ := own_form own2); (have turn2' := Turn.from_drew (k := 1) turn2); (have FW := HM1.out.wrote2_full turn2'); (have x0 : w2.cell? ⟨p, 1, none⟩ = some bk := FW.cell 1); (have x1 : w2.frozen? ⟨p, 1, none⟩ = false := FW.frozen 1))
            | (fail "arm"))
        all_goals
          have HM2 := HM1.out.wrote2 turn2' own2 at2
          go_wp2
          go_roundw
          case rel => exact ⟨k + 1, by go_num, by omega, _, by rw [HPT.out]; exact HM2⟩
          case measure => simp [intOf]; omega
      · obtain rfl : k = m := by omega
        obtain ⟨bk, HK⟩ := H.out
        rw [← HM.out, List.take_length] at HK
        rw [HM.out] at HK
        have HN := Lib.hid HK.none_
        have y0 : wr.cell? ⟨p, 2, none⟩ = some (.slice C k cc) := HK.full.cell 2
        have y1 : wr.frozen? ⟨p, 2, none⟩ = false := HK.full.frozen 2
        have CN := Lib.hid (count_any HN.out.full HH.out.lok HOF.out (by omega) fun m' e => by have := HH.out.good.pw _ e; omega)
        unfold CountOut at CN
        have FIN := Lib.hid (fun (w6 : World) (lf' : Int) (hl' : leftOk (Dk.less d.pw) lf') (hF6 : Full w6 p 71 [a, bk, .slice none 0 0, .int .i64 (pwN (Dk.less d.pw)), .int .i64 lf', .int .i64 ((d.calls : Int) + 1)]) (ht6 : Turn (fun g => g = p) (wr.setCell ⟨p, 2, none⟩ (.slice none 0 0)) w6) => (show ∃ F', IsD B w6 p d.synced F' ∧ Goes F w w6 F' from by
          have hm6 := HN.out.nums ht6 hF6
          exact Mid.end_ (d' := d.synced) (a := a) (b := bk) (c := .slice none 0 0) (lf := lf') hm6 hl' (Dk.synced_good HH.out.good) (fun g hg => (HH.out.in_ g hg).1) (Nat.le_trans (HH.out.in_ p HH.out.self).1 (Nat.le_of_lt (HH.out.in_ p HH.out.self).2))))
        clear HK H H0
        go_wp2_with (go_at_call 50; ((with_reducible refine CN.out.mono ?_); rintro e w6 ⟨rfl, lf', hl', hF6, ht6⟩))
        go_ret
        exact ⟨rfl, FIN.out w6 lf' hl' hF6 ht6⟩
end Go.Proofs.Ythhpnlobhffimaa
