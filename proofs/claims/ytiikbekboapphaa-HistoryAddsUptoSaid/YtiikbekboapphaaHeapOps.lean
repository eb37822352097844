/- container/heap's Push and Pop. -/
import Derived.Test.YtiikbekboapphaaUp
import Derived.Test.YtiikbekboapphaaDownT
namespace Go.Proofs.Ytiikbekboapphaa
set_option maxRecDepth 100000
open Go.RowKit
def HPushOut (w : World) (g : Nat) (v : Value) (l : List Nat) (e : Ending) (w' : World) : Prop :=
  e = .returned (.tuple #[]) ∧ ∃ v' l', l'.Perm l ∧ HeapN l' l'.length ∧ Hp w' g v' l' ∧ Goes (HF g v) w w' (HF g v')
set_option maxHeartbeats 4000000 in
theorem hpush_any {w : World} {g : Nat} {v : Value} {l : List Nat} (h : Hp w g v l) (hl : l.length ≤ 1048570) (hh : HeapN l l.length) (x : Nat) :
    Calls Try.prog 50 #[.iface 73 (.pointer (some ⟨g, 0, none⟩)), .iface 3 (.int .i64 (x : Int))] w (HPushOut w g v (x :: l)) := by
  unfold HPushOut
  have P := Lib.hid (push_any h (by omega) x)
  unfold PushOut at P
  have hmP := fun W => m_push g W
  obtain ⟨n, hn⟩ : ∃ n, l.length = n := ⟨_, rfl⟩
  obtain ⟨l2, hl2⟩ : ∃ l2, l ++ [x] = l2 := ⟨_, rfl⟩
  have hn2 : l2.length = n + 1 := by rw [← hl2, ← hn]; simp
  have HU := Lib.hid (show UpN l2 l2.length n from by
    have := hh.push x
    rw [hl2, hn] at this
    rw [hn2]; exact this)
  have HPM := Lib.hid (show l2.Perm (x :: l) from by rw [← hl2]; exact (List.perm_append_comm (l₁ := l) (l₂ := [x])))
  rw [hl2] at P
  rw [hn] at hl
  have HN2 := Lib.hid hn2
  have U := Lib.hid (fun (W : World) (v' : Value) (hp : Hp W g v' l2) => up_any hp n (by rw [hn2]; omega) (by rw [hn2]; omega) HU.out)
  unfold UpOut at U
  have L1 := Lib.hid (fun (W : World) (v' : Value) (hp : Hp W g v' l2) => (show Calls Try.prog 69 #[v'] W fun e w' => e = .returned (.int .i64 ((n : Int) + 1)) ∧ W = w' from by
    obtain ⟨A, c, rfl⟩ := hp.form
    rw [hn2]
    have := len_any A (n + 1) c W
    rwa [show ((n + 1 : Nat) : Int) = (n : Int) + 1 by omega] at this))
  clear h hh hn hl2 hn2
  go_enter Try.func50, Try.ntmps50
  go_wp2_with (first
    | (go_at_call 72; ((with_reducible refine P.out.mono ?_); rintro e w1 ⟨rfl, v1, hp1, hg1⟩; (have hm1 := hp1.len_)))
    | (go_at_call 69; ((with_reducible refine (L1.out _ _ hp1).mono ?_); rintro e w2 ⟨rfl, rfl⟩))
    | (go_at_call 52; ((with_reducible refine (U.out _ _ hp1).mono ?_); rintro e w3 ⟨rfl, l3, hpm, hh3, hp3, ht3⟩)))
  go_end0
  exact ⟨rfl, v1, l3, hpm.trans HPM.out, hh3, hp3, hg1.trans (Goes.same ht3)⟩
def HPopOut (w : World) (g : Nat) (v : Value) (l : List Nat) (e : Ending) (w' : World) : Prop :=
  e = .returned (.iface 3 (.int .i64 ((l.getD 0 0 : Nat) : Int))) ∧ ∃ v' l', (l.getD 0 0 :: l').Perm l ∧ HeapN l' l'.length ∧ Hp w' g v' l' ∧ Goes (HF g v) w w' (HF g v')
set_option maxHeartbeats 4000000 in
theorem hpop_any {w : World} {g : Nat} {v : Value} {l : List Nat} (h : Hp w g v l) (hl : l.length ≤ 1048570) (hh : HeapN l l.length) (h0 : 0 < l.length) :
    Calls Try.prog 49 #[.iface 73 (.pointer (some ⟨g, 0, none⟩))] w (HPopOut w g v l) := by
  unfold HPopOut
  obtain ⟨n, hn⟩ : ∃ n, l.length = n + 1 := ⟨l.length - 1, by omega⟩
  have S := Lib.hid (show Calls Try.prog 73 #[v, .int .i64 0, .int .i64 (n : Int)] w (SwapOut w g v l 0 n) from swap_any h 0 n (by omega) (by omega))
  unfold SwapOut at S
  obtain ⟨x, hx⟩ : ∃ x, l.getD 0 0 = x := ⟨_, rfl⟩
  obtain ⟨ls, hls⟩ : ∃ ls, swapL l 0 n = ls := ⟨_, rfl⟩
  have hlsn : ls.length = n + 1 := by rw [← hls, swapL_len, hn]
  have hlsx : ls.getD n 0 = x := by rw [← hls, swapL_at _ _ _ _ (by omega) (by omega), if_pos rfl, hx]
  have hlsp : ls.Perm l := by rw [← hls]; exact swapL_perm _ _ _ (by omega) (by omega)
  have hdn : DownN ls n 0 := by rw [← hls]; exact HeapN.pop (by rw [← hn]; exact hh) (by omega)
  rw [hls] at S
  rw [hx]
  have D := Lib.hid (fun (W : World) (hp : Hp W g v ls) => down_any hp n (by omega) (by omega) hdn)
  unfold DownOut at D
  have E := Lib.hid (fun (W : World) (l' : List Nat) (hp : Hp W g v l') (h1 : l'.length = n + 1) (hv : l'.getD (n + 1 - 1) 0 = x) => (show Calls Try.prog 71 #[.pointer (some ⟨g, 0, none⟩)] W (PopOut W g v (l'.take n) x) from by
    have := popE_any hp (n + 1) h1 (by omega)
    rw [hv] at this; exact this))
  unfold PopOut at E
  have FX := Lib.hid (fun (l' : List Nat) (h1 : l'.Perm ls) (hs : ∀ k, n ≤ k → l'.getD k 0 = ls.getD k 0) => (show l'.getD (n + 1 - 1) 0 = x ∧ (x :: l'.take (n + 1 - 1)).Perm l from by
    have e1 : l'.getD n 0 = x := (hs n (Nat.le_refl _)).trans hlsx
    refine ⟨e1, ?_⟩
    have e2 := h1.length_eq
    have e3 : l' = l'.take n ++ [x] := by
      have hd : l'.drop n = [x] := by
        rw [List.drop_eq_getElem_cons (by omega), List.drop_eq_nil_of_le (by omega)]
        congr 1
        rw [← e1]; simp [show n < l'.length by omega]
      rw [← hd, List.take_append_drop]
    refine List.Perm.trans ?_ (h1.trans hlsp)
    show (x :: l'.take n).Perm l'
    conv => rhs; rw [e3]
    exact (List.perm_append_comm (l₁ := l'.take n) (l₂ := [x])).symm))
  have L1 := Lib.hid (show Calls Try.prog 69 #[v] w fun e w' => e = .returned (.int .i64 ((n : Int) + 1)) ∧ w = w' from by
    obtain ⟨A, c, rfl⟩ := h.form
    rw [hn]
    have := len_any A (n + 1) c w
    rwa [show ((n + 1 : Nat) : Int) = (n : Int) + 1 by omega] at this)
  have hm1 := h.len_
  have hm2 := h.swap_
  have hmP := fun W => m_pop g W
  have HLN := Lib.hid hlsn
  have hn20 : n ≤ 1048576 := by omega
  clear h hh hn hls hlsx hlsp hdn hx hlsn
  go_enter Try.func49, Try.ntmps49
  go_wp2_with (first
    | (go_at_call 69; ((with_reducible refine L1.out.mono ?_); rintro e w1 ⟨rfl, rfl⟩))
    | (go_at_call 73; ((with_reducible refine S.out.mono ?_); rintro e w2 ⟨rfl, hp2, ht2⟩))
    | (go_at_call 51; ((with_reducible refine (D.out _ hp2).mono ?_); rintro e w3 ⟨b3, l3, rfl, hpm3, hh3, hp3, ht3, hs3⟩; (have hl3 := hpm3.length_eq.trans HLN.out); (have hf := FX.out l3 hpm3 hs3)))
    | (go_at_call 71; ((with_reducible refine (E.out _ _ hp3 hl3 hf.1).mono ?_); rintro e w4 ⟨rfl, v4, hp4, hg4⟩)))
  go_ret
  refine ⟨rfl, v4, l3.take n, hf.2, ?_, hp4, (Goes.same (ht2.trans_ ht3)).trans hg4⟩
  rw [List.length_take, Nat.min_eq_left (by omega)]
  intro k k0 kn
  have := hh3 k k0 kn
  simp only [List.getD_eq_getElem?_getD] at this ⊢
  rw [List.getElem?_take_of_lt kn, List.getElem?_take_of_lt (by omega)]
  exact this
end Go.Proofs.Ytiikbekboapphaa
