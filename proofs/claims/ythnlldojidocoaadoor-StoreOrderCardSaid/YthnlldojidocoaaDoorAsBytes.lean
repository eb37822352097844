/- asBytes. -/
import Derived.Laws.IdiomStrings
import Derived.Test.YthnlldojidocoaaDoorIsValid
namespace Go.Proofs.YthnlldojidocoaaDoor
open Go.RowKit Go.Maps

def enc8 (b : UInt8) : Value := .int .u8 (b.toNat : Int)
theorem info5 : (Tryd.prog.info? 5).map (fun i => (i.zero, i.size, i.bytes)) = some (some (.int .u8 0), 1, 1) := by kernel_rfl
/-- string(b), of a row of the call's own. -/
theorem own_string (w : World) (n₀ g cap : Nat) (l : List UInt8) (h : w.ownsRow n₀ 5 1 (.slice (some ⟨g, 0, none⟩) l.length cap) l.length (l.map enc8)) :
    (convert 54 9 (.slice (some ⟨g, 0, none⟩) l.length cap)).run Tryd.prog w = .ok (.string (str l)) w := by
  refine run_convert_bytes_back w 54 9 5 ⟨g, 0, none⟩ cap l Tryd.underlying54 Tryd.underlying5 Tryd.underlying9 fun j hj => ?_
  refine h.cells (g := g) rfl j _ ?_
  rw [List.getElem?_map, List.getElem?_eq_getElem hj]
  rfl
theorem own_pos {w : World} {n₀ : Nat} {v : Value} {l : List UInt8} {k : Nat} {xs : List Value} (hl : 0 < l.length) (h : w.ownsRow n₀ 5 1 v k xs) (hk : k = l.length) (hx : xs = l.map enc8) :
    ∃ g cap, v = .slice (some ⟨g, 0, none⟩) l.length cap ∧ (convert 54 9 (.slice (some ⟨g, 0, none⟩) l.length cap)).run Tryd.prog w = .ok (.string (str l)) w := by
  subst hk
  subst hx
  rcases h.2 with ⟨_, h0⟩ | ⟨g, cap, _, rfl, _⟩
  · omega
  · exact ⟨g, cap, rfl, own_string _ _ _ _ _ h⟩

theorem asB_append (a b : List Ent) : asB (a ++ b) = asB a ++ asB b := by
  induction a with
  | nil => rfl
  | cons e t ih => rw [List.cons_append, asB, asB, ih]; simp
theorem asB_succ {es : List Ent} {k : Nat} (h : k < es.length) : asB (es.take (k + 1)) = asB (es.take k) ++ es[k].1.data.toList ++ digs es[k].2.2.toNat := by
  rw [List.take_succ_eq_append_getElem h, asB_append, asB, asB]
  simp
def entSmall (e : Ent) : Prop := entFit e ∧ e.1.size ≤ 200 ∧ (Lit.int .i64 e.2.2).wf = true
theorem asB_len : ∀ {es : List Ent}, (∀ e ∈ es, entSmall e) → (asB es).length ≤ es.length * 210
  | [], _ => by simp [asB]
  | e :: t, h => by
    have ih := asB_len (es := t) fun x hx => h x (by simp [hx])
    obtain ⟨_, h2, h3⟩ := h e (by simp)
    have h4 := bd_i64 h3
    have h5 := digs_len e.2.2.toNat 10 (by omega)
    rw [asB, List.length_append, List.length_append, data_len, List.length_cons]
    omega
theorem asB_take_le {es : List Ent} (h : ∀ e ∈ es, entSmall e) (k : Nat) : (asB (es.take k)).length ≤ es.length * 210 := by
  have h1 := asB_len (es := es.take k) fun x hx => h x (List.mem_of_mem_take hx)
  have h2 : (es.take k).length ≤ es.length := by rw [List.length_take]; omega
  have := Nat.mul_le_mul_right 210 h2
  omega

theorem conv_nil (w : World) : (convert 54 9 (.slice none 0 0)).run Tryd.prog w = .ok (.string ⟨#[]⟩) w := by kernel_rfl
theorem or128 : ∀ m : Nat, m < 256 → bits BinOp.or IntKind.u8 128 (m : Int) = ((128 + m % 128 : Nat) : Int) := by decide +kernel
theorem or_hi (r : Nat) : bits BinOp.or IntKind.u8 128 ((r : Int) % 256) = ((UInt8.ofNat (128 + r % 128)).toNat : Int) := by
  have h := or128 (r % 256) (by omega)
  rw [hi_nat, show ((r : Int) % 256) = ((r % 256 : Nat) : Int) by omega, h]
  omega

set_option maxRecDepth 100000 in
set_option maxHeartbeats 2000000 in
theorem asBytes_any (M : Nat) (A : Option Addr) (es : List Ent) (c : Nat) (w : World) (hA : Ents w M A c es) (hM : M ≤ w.heap.size) (hS : ∀ e ∈ es, entSmall e) (hl : es.length ≤ 1048576) :
    Calls Tryd.prog 35 #[.slice A es.length c] w (StrB w (str (asB es))) := by
  obtain ⟨i5, hi, hz0, hz1, hz2⟩ := info_parts info5
  have hcap := hA.2.1
  obtain ⟨R, HR⟩ : ∃ R, Hid (asB es = R) := ⟨_, Lib.hid rfl⟩
  rw [HR.out]
  have HT := Lib.hid (asB_take_le hS)
  have HS := Lib.hid hS
  have HSU := Lib.hid (fun k (h : k < es.length) => asB_succ h)
  obtain ⟨n, HN⟩ : ∃ n, Hid (es.length = n) := ⟨_, Lib.hid rfl⟩
  have HT2 : Hid (∀ k, (asB (es.take k)).length ≤ 220200960) := Lib.hid (fun k => by have := HT.out k; omega)
  rw [HN.out] at hl hcap ⊢
  clear hS HT
  go_enter Tryd.func35, Tryd.ntmps35
  go_wp2
  go_loopw [3, 9] (fun v i wr => ∃ (k t : Nat) (B : Option Addr) (d : Nat) (xs : List UInt8), k ≤ n ∧ i = .int .i64 k ∧ v = .slice B t d ∧ ((k = 0 ∧ B = none ∧ t = 0 ∧ d = 0) ∨ 0 < t) ∧ wr.ownsRow w.heap.size 5 1 (.slice B t d) t (xs.map enc8) ∧ Hid (xs = asB (es.take k)) ∧ Hid (t = xs.length) ∧ Below w.heap.size w wr) (fun _ i _ => n - (intOf i).toNat)
  case atStart => exact ⟨0, 0, none, 0, [], by omega, rfl, rfl, .inl ⟨rfl, rfl, rfl, rfl⟩, World.ownsRow_nil _ _ _ _, Lib.hid rfl, Lib.hid rfl, Below.refl _ _⟩
  case round =>
    obtain ⟨k, t, B, d, xs, hk, rfl, rfl, hz, hown, HX, HTX, hBw⟩ := hrel
    have hi0 : (0 : Int) ≤ (k : Int) := Int.natCast_nonneg _
    by_cases hlt : k < n
    · have hi1 : (k : Int) < (n : Int) := by omega
      have hkl : k < es.length := by have := HN.out; omega
      obtain ⟨ad, rfl, hadB, x0, x1, x2⟩ := (show Ents wr M A c es from Row.below hA hBw hM).at_ hkl
      have hsu := HSU.out k hkl
      obtain ⟨hfit, hsz, hwf⟩ := HS.out _ (List.getElem_mem hkl)
      have hle1 := HT2.out (k + 1)
      have hle0 := HT2.out k
      obtain ⟨e, he⟩ : ∃ e, es[k] = e := ⟨_, rfl⟩
      rw [he] at x0 x1 x2 hfit hsz hwf hsu
      obtain ⟨en, ed, ei⟩ := e
      obtain ⟨hf1, hf2, hf3⟩ := hfit
      dsimp only at x0 x1 x2 hf1 hf3 hsz hwf hsu
      have hb := bd_i64 hwf
      have hlad : (ad.add (k * 3)).block < wr.heap.size := by rw [add_block]; have := hBw.size; omega
      have hbB := hBw.size
      have hbN : Below w.heap.size w (wr.alloc (.cells #[.string en, .bool ed, .int .i64 ei] 48)) := hBw.alloc hBw.size _
      have HFN := Lib.hid (Full.new wr 48 [.string en, .bool ed, .int .i64 ei])
      have ht0 : t ≤ 220200960 := by rw [HTX.out, HX.out]; exact hle0
      have hownN := hown.alloc (.cells #[.string en, .bool ed, .int .i64 ei] 48)
      have HSU1 := Lib.hid hsu
      have HLE := Lib.hid hle1
      have HF1 := Lib.hid hf1
      clear hsu hle1 hle0 he hf1 hwf
      have hgne : ∀ j, (Value.slice B t d).ownBlock = some j → j ≠ wr.heap.size := fun j hj => by have := owns_lt hown j hj; omega
      go_wp2_with (at_builtin; refine Lib.wpList_append_own_string _ rfl _ _ 54 9 rfl w.heap.size 5 i5 Tryd.underlying54 Tryd.underlying9 hi hz0 hz1 hz2 (.slice B t d) _ _ rfl hownN en rfl (by unfold maxLen; omega) (by omega) (by have := hBw.size; simp; omega) ?_; intro v3 w3 hown3 hgrow3 _; obtain ⟨A4, c4, rfl⟩ := own_form hown3; have hF3 : Full w3 wr.heap.size 48 [.string en, .bool ed, .int .i64 ei] := (hgrow3.block wr.heap.size (by simp) (fun e => hgne _ e.symm rfl)).trans HFN.out; have c0 : w3.cell? ⟨wr.heap.size, 2, none⟩ = some (.int .i64 ei) := hF3.cell 2; clear hF3)
      have hB3 : Below w.heap.size w w3 := hbN.grown hgrow3 (by have := hBw.size; simp; omega) (row_ge hown)
      obtain ⟨T, HTT⟩ : ∃ T, Hid (asB (es.take (k + 1)) = T) := ⟨_, Lib.hid rfl⟩
      obtain ⟨r0, rfl⟩ : ∃ r0 : Nat, ei = (r0 : Int) := ⟨ei.toNat, by omega⟩
      have hT1 : (xs ++ en.data.toList) ++ digs r0 = T := by rw [← HTT.out, HSU1.out, ← HX.out]; rfl
      have hTl : T.length ≤ 220200960 := by rw [← HTT.out]; exact HLE.out
      have hens : 0 < en.size := by
        rcases Nat.eq_zero_or_pos en.size with h | h
        · exact absurd (List.eq_nil_of_length_eq_zero (by rw [data_len]; exact h)) HF1.out
        · exact h
      have HT1 := Lib.hid hT1
      have hown4 : w3.ownsRow w.heap.size 5 1 (.slice A4 (t + en.size) c4) (t + en.size) ((xs ++ en.data.toList).map enc8) := by rw [List.map_append]; exact hown3
      have HTY : Hid (t + en.size = (xs ++ en.data.toList).length) := Lib.hid (by rw [List.length_append, data_len, HTX.out])
      clear hT1 hown3 HSU1 HLE hown hownN hgne
      go_loopw [3, 6] (fun v r wi => ∃ (r' t2 : Nat) (B2 : Option Addr) (d2 : Nat) (ys : List UInt8), r = .int .i64 (r' : Int) ∧ v = .slice B2 t2 d2 ∧ wi.ownsRow w.heap.size 5 1 (.slice B2 t2 d2) t2 (ys.map enc8) ∧ Hid (ys ++ digs r' = T) ∧ Hid (t2 = ys.length) ∧ 0 < t2 ∧ r' ≤ 9223372036854775807 ∧ Below w.heap.size w wi) (fun _ r _ => (intOf r).toNat)
      case atStart => exact ⟨r0, _, A4, c4, _, rfl, rfl, hown4, HT1, HTY, by omega, by omega, hB3⟩
      case round =>
        obtain ⟨r', t2, B2, d2, ys, rfl, rfl, hown5, HY, HT2', ht2, hr', hB5⟩ := hrel
        by_cases hr0 : 0 < r'
        · have hr0i : (0 : Int) < (r' : Int) := by omega
          have hd := digs_pos hr0
          have hyl : t2 + 1 ≤ 220200960 := by
            have := congrArg List.length HY.out
            rw [hd, List.length_append, List.length_cons, ← HT2'.out] at this
            omega
          obtain ⟨x, hx⟩ : ∃ x, UInt8.ofNat (128 + r' % 128) = x := ⟨_, rfl⟩
          have hbit := or_hi r'
          rw [hx] at hd hbit
          obtain ⟨z, hz'⟩ : ∃ z : Int, (x.toNat : Int) = z := ⟨_, rfl⟩
          rw [hz'] at hbit
          have HZ := Lib.hid hz'
          have HD := Lib.hid hd
          clear hd hx hz'
          go_wp2_with (at_builtin; refine wpList_append_own _ rfl _ _ 54 rfl w.heap.size 5 i5 (.int .u8 0) 1 1 Tryd.underlying54 hi hz0 hz1 hz2 rfl (by decide) (.slice B2 t2 d2) _ _ rfl (hown5.alloc _) ⟨wr.heap.size, 0, none⟩ 1 1 [.int .u8 z] rfl rfl (cell_one_new _ _ _) (by simp [Value.oneCell']) (by unfold maxLen; omega) (by omega) (by have := hB5.size; simp; omega) ?_; intro v' w4 hown6 hgrow6 _; obtain ⟨A6, c6, rfl⟩ := own_form hown6)
          go_roundw
          case rel =>
            refine ⟨r' / 128, t2 + 1, A6, c6, ys ++ [x], by simp, rfl, ?_, Lib.hid ?_, Lib.hid ?_, by omega, by omega, (hB5.alloc hB5.size _).grown hgrow6 (by have := hB5.size; simp; omega) (row_ge hown5)⟩
            · rw [List.map_append, List.map_singleton]
              unfold enc8
              rw [HZ.out]
              exact hown6
            · rw [← HY.out, HD.out]; simp
            · rw [List.length_append, HT2'.out]; rfl
          case measure => simp [intOf]; omega
        · obtain rfl : r' = 0 := by omega
          have hyT : ys = asB (es.take (k + 1)) := by rw [HTT.out, ← HY.out, digs_zero, List.append_nil]
          have HYT := Lib.hid hyT
          clear hyT
          go_wp2
          go_roundw
          case rel => exact ⟨k + 1, t2, B2, d2, ys, by omega, by go_num, rfl, .inr ht2, hown5, HYT, HT2', hB5⟩
          case measure => simp [intOf]; omega
    · obtain rfl : k = n := by omega
      have hxR : xs = R := by
        have := HX.out
        rw [← HN.out, List.take_length, HR.out] at this
        exact this
      rcases hz with ⟨rfl, rfl, rfl, rfl⟩ | ht0
      · have hR : R = [] := by
          have h1 := HTX.out
          rw [← hxR]
          exact List.eq_nil_of_length_eq_zero h1.symm
        subst hR
        clear hxR
        have hcn := conv_nil wr
        go_wp2
        go_ret
        exact ⟨rfl, hBw⟩
      · have htl := HTX.out
        obtain ⟨g, cap, hv, hcv⟩ := own_pos (l := xs) (by omega) hown htl rfl
        injection hv with h1 h2 h3
        subst hxR
        subst h1 h2 h3
        clear htl HTX HX
        go_wp2
        go_ret
        exact ⟨rfl, hBw⟩
end Go.Proofs.YthnlldojidocoaaDoor
