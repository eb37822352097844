/- next: the walk's next commit. -/
import Derived.Test.YtiikbekboapphaaWalkM
namespace Go.Proofs.Ytiikbekboapphaa
set_option maxRecDepth 100000
open Go.RowKit
/-- how many numbers wait -/
def lenAt (w : World) (g : Nat) : Nat := match w.cell? ⟨g, 0, none⟩ with | some (.slice _ n _) => n | _ => 0
theorem Hp.lenAt {w : World} {g : Nat} {v : Value} {l : List Nat} (h : Hp w g v l) : lenAt w g = l.length := by
  obtain ⟨A, c, rfl⟩ := h.form
  have := h.full.cell 0
  unfold Ytiikbekboapphaa.lenAt
  rw [this]
  rfl
/-- id was taken out of the walk; l waits -/
structure NJ (w W : World) (k g : Nat) (v v2 fv : Value) (id : Nat) (l : List Nat) : Prop where
  full : Full W k 80 [fv, .iface 73 (.pointer (some ⟨g, 0, none⟩)), .int .i64 (id : Int)]
  hp : Hp W g v2 l
  goes : Goes (WF k g v) w W (WF k g v2)
theorem NJ.drewN {w W : World} {k g : Nat} {v v2 fv : Value} {id : Nat} {l : List Nat} (h : NJ w W k g v v2 fv id l) (q : Nat) : NJ w (W.drewN q) k g v v2 fv id l := ⟨h.full.drewN q, h.hp.drewN q, h.goes.drewN_ q⟩

def nextOut (w : World) (k p : Nat) (cs : List Cm) (head B : Nat) (S : Nat → Prop) (e : Ending) (w' : World) : Prop :=
  e = .returned (.int .i64 ((top (rch (leads cs) head) (B - 1) : Nat) : Int)) ∧ ∃ S', Goes S w w' S' ∧ (0 < top (rch (leads cs) head) (B - 1) → IsWk w' k (fnV 43 p) (leads cs) head (top (rch (leads cs) head) (B - 1)) S')
set_option maxHeartbeats 8000000 in
theorem next_any {w : World} {B0 k p head B : Nat} {cs : List Cm} {F S : Nat → Prop} (hw : IsWk w k (fnV 43 p) (leads cs) head B S) (hist : IsH B0 w p cs F) (hd : ∀ x, F x → ¬ S x) (hs : cs.length ≤ 1000) (hh : head ≤ cs.length) :
    Calls Try.prog 45 #[.pointer (some ⟨k, 0, none⟩)] w (nextOut w k p cs head B S) := by
  obtain ⟨g, v, lt, l, rfl, h⟩ := hw
  unfold nextOut
  have hdown : Down (leads cs) := leads_down hist.good
  have HDN := Lib.hid hdown
  have HI := Lib.hid hist
  have HH := Lib.hid (fun (W : World) (S' : Nat → Prop) (hg : Goes (WF k g v) w W S') => hist.apart hg.turn hd)
  have HF2 := Lib.hid (fun (W W2 : World) (S1 S2 : Nat → Prop) (A : Option Addr) (m c : Nat) (xs : List Value) (hg : Goes (WF k g v) w W S1) (hr : RowF W F 1 A m c xs) (hg2 : Goes (WF k g v) w W2 S2) => (show RowF W2 F 1 A m c xs from
    hr.keep fun x hx => ⟨hx, (hg2.turn.block x (hist.in_ x hx).2 (hd x hx)).trans (hg.turn.block x (hist.in_ x hx).2 (hd x hx)).symm⟩))
  have H0 := Lib.hid (show Wk w k g v (fnV 43 p) (leads cs) head B lt l ∧ Goes (WF k g v) w w (WF k g v) from ⟨h, Goes.refl _ _⟩)
  have hta : ∀ (x : Nat) W, (Instr.typeAssert (.iface 3 (.int .i64 (x : Int))) 20 3 false).run Try.prog W = .ok (.int .i64 (x : Int)) W := fun x W => by kernel_rfl
  have PC := Lib.hid (fun (W : World) (S' : Nat → Prop) (hg : Goes (WF k g v) w W S') (id : Nat) (h1 : 1 ≤ id) (h2 : id ≤ cs.length) => (show Calls Try.prog 43 #[.pointer (some ⟨p, 0, none⟩), .int .i64 (id : Int)] W (LeadOut W F (leads cs id)) from parents_any (hist.apart hg.turn hd) id h1 h2 hs))
  obtain ⟨T, hT⟩ : ∃ T, top (rch (leads cs) head) (B - 1) = T := ⟨_, rfl⟩
  have HT := Lib.hid hT
  have HLEN := Lib.hid (fun id : Nat => (show (leads cs id).length ≤ 2 from leads_few hist.good id))
  obtain ⟨N, hN⟩ : ∃ N, cs.length = N := ⟨_, rfl⟩
  have HNN := Lib.hid hN
  rw [hN] at hh hs PC
  rw [hT]
  obtain ⟨L, hL⟩ : ∃ L, leads cs = L := ⟨_, rfl⟩
  rw [hL] at H0 HDN HT PC HLEN ⊢
  clear h hist hd hdown hT hN hL
  go_enter Try.func45, Try.ntmps45
  go_wp2_with fail
  go_loopw [] (fun wr => ∃ (v' : Value) (l' : List Nat), Hid (Wk wr k g v' (fnV 43 p) L head B lt l' ∧ Goes (WF k g v) w wr (WF k g v'))) (fun wr => lenAt wr g)
  case atStart => exact ⟨v, l, H0⟩
  case round =>
    obtain ⟨v', l', H⟩ := hrel
    have hfew := H.out.1.wl.few
    have k1 : wr.cell? ⟨k, 1, none⟩ = some (.iface 73 (.pointer (some ⟨g, 0, none⟩))) := H.out.1.full.cell 1
    have hml := H.out.1.hp.len_
    obtain ⟨A', c', hv'⟩ := H.out.1.hp.form
    obtain ⟨m, hm⟩ : ∃ m, l'.length = m := ⟨_, rfl⟩
    have LN := Lib.hid (show Calls Try.prog 69 #[v'] wr fun e w' => e = .returned (.int .i64 (m : Int)) ∧ wr = w' from by rw [hv', hm]; exact len_any A' m c' wr)
    have HM := Lib.hid hm
    rw [hm] at hfew
    clear hv'
    by_cases hm0 : m = 0
    · subst hm0
      have hl0 : l' = [] := List.eq_nil_of_length_eq_zero hm
      have HT0 := Lib.hid (show T = 0 from by
        have := H.out.1.wl
        rw [hl0] at this
        exact HT.out.symm.trans this.none)
      clear hm hl0
      go_wp2_with (go_at_call 69; ((with_reducible refine LN.out.mono ?_); rintro e w1 ⟨rfl, rfl⟩))
      go_ret
      have e0 := HT0.out
      subst e0
      exact ⟨rfl, WF k g v', H.out.2, fun h => absurd h (by omega)⟩
    · have hm1 : (0 : Int) < (m : Int) := by omega
      have PP := Lib.hid (hpop_any H.out.1.hp (by omega) H.out.1.wl.heap (by omega))
      unfold HPopOut at PP
      have hmem : l'.getD 0 0 ∈ l' := getD_mem (by omega)
      have hmax := H.out.1.wl.heap.max_mem
      obtain ⟨id, hid⟩ : ∃ id, l'.getD 0 0 = id := ⟨_, rfl⟩
      rw [hid] at PP hmem hmax
      have hpos := H.out.1.wl.pos id hmem
      have hlast := H.out.1.last
      have HX := Lib.hid hmax
      have HMEM := Lib.hid hmem
      have CELL := Lib.hid (fun (W : World) (v2 : Value) (hg : Goes (HF g v') wr W (HF g v2)) => (show Full W k 80 [fnV 43 p, .iface 73 (.pointer (some ⟨g, 0, none⟩)), .int .i64 (lt : Int)] from hg.turn.far H.out.1.full H.out.1.ne))
      have GO := Lib.hid (fun (W : World) (v2 : Value) (hg : Goes (HF g v') wr W (HF g v2)) => (show Goes (WF k g v) w W (WF k g v2) from by
        refine H.out.2.trans ⟨hg.turn.mono fun x e => .inr e, ?_⟩
        rintro x (e | e)
        · exact .inl (.inl e)
        · exact (hg.back x e).imp .inr (fun h => h)))
      clear hid hmem hmax
      by_cases hq : id = lt
      · subst hq
        have hB : id = B := by omega
        go_wp2_with (first
          | (go_at_call 69; ((with_reducible refine LN.out.mono ?_); rintro e w1 ⟨rfl, rfl⟩))
          | (go_at_call 49; ((with_reducible refine PP.out.mono ?_); rintro e w2 ⟨rfl, v2, l2, hpm2, hh2, hp2, hg2⟩; (have hf2 := CELL.out _ _ hg2); (have k2 : w2.cell? ⟨k, 2, none⟩ = some (.int .i64 (id : Int)) := hf2.cell 2))))
        go_roundw
        case rel => exact ⟨v2, l2, Lib.hid ⟨⟨hf2, hlast, hp2, H.out.1.wl.again (by rw [← hB]; exact hpm2) hh2⟩, GO.out _ _ hg2⟩⟩
        case measure =>
          have e1 := hpm2.length_eq
          rw [HM.out] at e1
          simp at e1
          rw [hp2.lenAt, H.out.1.hp.lenAt, HM.out]
          omega
      · have hqi : ((id : Int) == (lt : Int)) = false := by simp; omega
        have hlt : id < B := by omega
        have HTI := Lib.hid (show T = id from HT.out.symm.trans (H.out.1.wl.is_top HDN.out HMEM.out HX.out hlt))
        have hidn : id ≤ N := by omega
        have NJ0 := Lib.hid (fun (W : World) (v2 : Value) (l2 : List Nat) (hg : Goes (HF g v') wr W (HF g v2)) (hp2 : Hp W g v2 l2) => (show NJ w (W.setCell ⟨k, 2, none⟩ (.int .i64 (id : Int))) k g v v2 (fnV 43 p) id l2 from by
          have hf := CELL.out W v2 hg
          have hne : ¬ HF g v2 k := by
            rintro (e | e)
            · exact hf.ne_ hp2.full (by decide) e
            · exact hf.not_row hp2.row (by decide) e.symm
          refine ⟨hf.set_ 2 _, hp2.keep fun x hx => Below.heap_setCell _ _ _ x (fun e => hne (by rw [show x = k from e] at hx; exact hx)), (GO.out W v2 hg).trans (Goes.same (Turn.set_ (a := ⟨k, 2, none⟩) (.inl rfl) _))⟩))
        have HLL := Lib.hid (HLEN.out id)
        obtain ⟨Li, hLi⟩ : ∃ Li, L id = Li := ⟨_, rfl⟩
        obtain ⟨mi, hmi⟩ : ∃ mi, Li.length = mi := ⟨_, rfl⟩
        have P1 := Lib.hid (fun (W : World) (S' : Nat → Prop) (hg : Goes (WF k g v) w W S') => PC.out W S' hg id hpos.1 hidn)
        unfold LeadOut at P1
        rw [hLi] at P1 HLL
        rw [hmi] at P1 HLL
        have HLI := Lib.hid hLi
        have HMI := Lib.hid hmi
        have hmi2 : mi ≤ 2 := HLL.out
        clear hLi hmi
        go_wp2_with (first
          | (go_at_call 69; ((with_reducible refine LN.out.mono ?_); rintro e w1 ⟨rfl, rfl⟩))
          | (go_at_call 49; ((with_reducible refine PP.out.mono ?_); rintro e w2 ⟨rfl, v2, l2, hpm2, hh2, hp2, hg2⟩; (have hf2 := CELL.out _ _ hg2); (have k2 : w2.cell? ⟨k, 2, none⟩ = some (.int .i64 (lt : Int)) := hf2.cell 2); (have kf2 : w2.frozen? ⟨k, 2, none⟩ = false := hf2.frozen 2); (have J0 := Lib.hid (NJ0.out _ _ _ hg2 hp2)); (have k0 : (w2.setCell ⟨k, 2, none⟩ (.int .i64 (id : Int))).cell? ⟨k, 0, none⟩ = some (fnV 43 p) := J0.out.full.cell 0)))
          | (go_at_call 43; ((with_reducible refine (P1.out _ _ J0.out.goes).mono ?_); rintro e w3 ⟨A, ca, rfl, hr, q, rfl⟩)))
        have HR3 := Lib.hid hr
        have J1 := Lib.hid (show NJ w ((w2.setCell ⟨k, 2, none⟩ (.int .i64 (id : Int))).drewN q) k g v v2 (fnV 43 p) id l2 from J0.out.drewN q)
        have HP2 := Lib.hid hpm2
        have HH2 := Lib.hid hh2
        clear hf2 k2 kf2 k0 hr hpm2 hh2 hp2 hg2 k1 hml
        go_loopw [35] (fun v35 wr => ∃ (j : Nat) (v4 : Value) (l4 : List Nat), v35 = .int .i64 (j : Int) ∧ j ≤ mi ∧ Hid (NJ w wr k g v v4 (fnV 43 p) id l4 ∧ HeapN l4 l4.length ∧ l4.Perm (Li.take j ++ l2))) (fun v35 _ => mi - (intOf v35).toNat)
        case atStart => exact ⟨0, v2, l2, rfl, by omega, Lib.hid ⟨J1.out, HH2.out, by simp⟩⟩
        case round =>
          obtain ⟨j, v4, l4, rfl, hj, J⟩ := hrel
          have hj0 : (0 : Int) ≤ (j : Int) := Int.natCast_nonneg _
          by_cases hjm : j < mi
          · have hj1 : (j : Int) < (mi : Int) := by omega
            have hjl : j < Li.length := by have := HMI.out; omega
            have hRi := HF2.out _ _ _ _ _ _ _ _ J0.out.goes HR3.out J.out.1.goes
            obtain ⟨ad, rfl, _, hcell⟩ := hRi.2.2.2 j _ (natC_at Li j hjl)
            obtain ⟨x, hx⟩ : ∃ x, Li.getD j 0 = x := ⟨_, rfl⟩
            rw [hx] at hcell
            have HX2 := Lib.hid hx
            have hl4 := J.out.2.2.length_eq
            have hl2 := HP2.out.length_eq
            have ki : wr.cell? ⟨k, 1, none⟩ = some (.iface 73 (.pointer (some ⟨g, 0, none⟩))) := J.out.1.full.cell 1
            have PU := Lib.hid (hpush_any J.out.1.hp (by
              rw [List.length_append, List.length_take] at hl4
              rw [List.length_cons, HM.out] at hl2
              omega) J.out.2.1 x)
            unfold HPushOut at PU
            have NX := Lib.hid (fun (W : World) (v5 : Value) (l5 : List Nat) (hp5 : Hp W g v5 l5) (hg5 : Goes (HF g v4) wr W (HF g v5)) => (show NJ w W k g v v5 (fnV 43 p) id l5 from by
              have hne : ¬ HF g v4 k := by
                rintro (e | e)
                · exact J.out.1.full.ne_ J.out.1.hp.full (by decide) e
                · exact J.out.1.full.not_row J.out.1.hp.row (by decide) e.symm
              refine ⟨hg5.turn.far J.out.1.full hne, hp5, J.out.1.goes.trans ⟨hg5.turn.mono fun x e => .inr e, ?_⟩⟩
              rintro x (e | e)
              · exact .inl (.inl e)
              · exact (hg5.back x e).imp .inr (fun h => h)))
            clear hx hl4 hl2 hRi
            go_wp2_with (go_at_call 50; ((with_reducible refine PU.out.mono ?_); rintro e w5 ⟨rfl, v5, l5, hpm5, hh5, hp5, hg5⟩))
            go_roundw
            case rel =>
              refine ⟨j + 1, v5, l5, by go_num, by omega, Lib.hid ⟨NX.out _ _ _ hp5 hg5, hh5, ?_⟩⟩
              refine hpm5.trans ?_
              have e1 : Li.take (j + 1) = Li.take j ++ [x] := by
                rw [List.take_succ_eq_append_getElem hjl]
                congr 2
                have := HX2.out
                rw [← this]; simp [hjl]
              rw [e1, List.append_assoc]
              refine (List.Perm.cons x J.out.2.2).trans ?_
              exact (List.perm_middle (a := x) (l₁ := Li.take j) (l₂ := l2)).symm
            case measure => simp [intOf]; omega
          · obtain rfl : j = mi := by omega
            go_wp2
            go_ret
            have e0 := HTI.out
            subst e0
            have hstep := H.out.1.wl.step HDN.out HP2.out HX.out hlt (l2 := l4) (by
              have := J.out.2.2
              rw [HLI.out]
              rwa [List.take_of_length_le (by rw [HMI.out]; exact Nat.le_refl _)] at this) (by rw [HLI.out, HMI.out]; exact HLL.out) J.out.2.1
            exact ⟨rfl, WF k g v4, J.out.1.goes, fun _ => ⟨g, v4, T, l4, rfl, ⟨J.out.1.full, .inl rfl, J.out.1.hp, hstep⟩⟩⟩
end Go.Proofs.Ytiikbekboapphaa
