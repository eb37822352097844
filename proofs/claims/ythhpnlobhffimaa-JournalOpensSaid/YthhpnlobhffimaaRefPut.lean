/- The reference's Put; repeated; survive. -/
import Derived.Test.YthhpnlobhffimaaReadT
namespace Go.Proofs.Ythhpnlobhffimaa
set_option maxRecDepth 100000
open Go.RowKit
/-- zeros as a string -/
theorem conv_zero (W : World) (N : Nat) (x : UInt8) : (convert 66 9 (.slice (some ⟨W.heap.size, 0, none⟩) N N)).run Try.prog (W.alloc (.cells (List.replicate N (enc8 x)).toArray 5)) = .ok (.string (str (List.replicate N x))) (W.alloc (.cells (List.replicate N (enc8 x)).toArray 5)) := by
  have h := run_convert_bytes_back (P := Try.prog) (W.alloc (.cells (List.replicate N (enc8 x)).toArray 5)) 66 9 5 ⟨W.heap.size, 0, none⟩ N (List.replicate N x) Try.underlying66 Try.underlying5 Try.underlying9 fun j hj => by
    rw [Addr.add_lit, Nat.zero_add, (Full.new W 5 (List.replicate N (enc8 x))).cell j]
    simp at hj
    simp [hj, enc8]
  rw [List.length_replicate] at h
  exact h
theorem str_app (a b : List UInt8) : str a ++ str b = str (a ++ b) := by
  apply str_eq
  rw [app_data, str_data, str_data]
set_option maxHeartbeats 2000000 in
theorem rput_any (c s : List UInt8) (o : Nat) (w : World) (hc : c.length ≤ lim) (hs : o + s.length ≤ lim) : Calls Try.prog 52 #[.string (str c), .int .i64 (o : Int), .string (str s)] w (StrB w (str (put c o s))) := by
  unfold StrB
  have hpr := put_ref c o s
  obtain ⟨R, hR⟩ : ∃ R, put c o s = R := ⟨_, rfl⟩
  rw [hR] at hpr ⊢
  obtain ⟨P, hP⟩ : ∃ P, c ++ List.replicate (o - c.length) 0 = P := ⟨_, rfl⟩
  rw [hP] at hpr
  have hPl : P.length = max c.length o := by rw [← hP]; simp; omega
  have hPc : o ≤ c.length → P = c := fun h => by rw [← hP, show o - c.length = 0 by omega]; simp
  unfold lim at hc hs
  have HPR := Lib.hid hpr
  have HPC := Lib.hid hPc
  have HP := Lib.hid hP
  have o0 : (0 : Int) ≤ (o : Int) := Int.natCast_nonneg _
  have o1 : (o : Int) ≤ 16777216 := by omega
  have z2 := str_size s
  obtain ⟨S, hS⟩ : ∃ S, str s = S := ⟨_, rfl⟩
  have HS := Lib.hid hS
  rw [hS] at z2 ⊢
  rw [← z2] at hs
  have HZ2 := Lib.hid z2
  clear hpr hPc hP hR hS z2
  go_enter Try.func52, Try.ntmps52
  go_wp2
  go_loopw [0] (fun v0 wr => ∃ l : List UInt8, v0 = .string (str l) ∧ Hid (l = c ∨ l = P) ∧ Hid (Below w.heap.size w wr)) (fun v0 _ => match v0 with | .string s => o - s.size | _ => 0)
  case atStart => exact ⟨c, rfl, Lib.hid (.inl rfl), Lib.hid (Below.refl _ _)⟩
  case round =>
    obtain ⟨l, rfl, hl, hb⟩ := hrel
    have z1 := str_size l
    by_cases hlt : l.length < o
    · obtain rfl : l = c := by
        rcases hl.out with e | e
        · exact e
        · subst e; omega
      have hap := str_app l (List.replicate (o - l.length) 0)
      rw [HP.out] at hap
      have z3 := str_size (List.replicate (o - l.length) (0 : UInt8))
      rw [List.length_replicate] at z3
      have z4 := str_size P
      obtain ⟨C, hC⟩ : ∃ C, str l = C := ⟨_, rfl⟩
      rw [hC] at z1 hap ⊢
      obtain ⟨m, hm⟩ : ∃ m, o - l.length = m := ⟨_, rfl⟩
      have MK := made_one 66 5 (.int .u8 0) 1 Try.underlying66 info5 rfl m (by omega) (by omega) wr
      have CZ := conv_zero wr m 0
      rw [hm] at z3 hap
      obtain ⟨Z, hZ⟩ : ∃ Z, str (List.replicate m (0 : UInt8)) = Z := ⟨_, rfl⟩
      rw [hZ] at z3 hap CZ
      obtain ⟨PS, hPS⟩ : ∃ PS, str P = PS := ⟨_, rfl⟩
      rw [hPS] at hap z4
      obtain ⟨ob, hob⟩ : ∃ ob, Obj.cells (List.replicate m (Value.int .u8 0)).toArray 5 = ob := ⟨_, rfl⟩
      have CZ' : (convert 66 9 (.slice (some ⟨wr.heap.size, 0, none⟩) m m)).run Try.prog (wr.alloc ob) = .ok (.string Z) (wr.alloc ob) := by rw [← hob]; exact CZ
      rw [hob] at MK
      have hmi : (o : Int) - (C.size : Int) = (m : Int) := by omega
      have m0 : (0 : Int) ≤ (m : Int) := Int.natCast_nonneg _
      have c1 : C.size ≤ 16777216 := by omega
      have z5 : Z.size ≤ 16777216 := by omega
      have cl : (C.size : Int) < (o : Int) := by omega
      have HB2 := Lib.hid (show Below w.heap.size w (wr.alloc ob) from hb.out.alloc hb.out.size _)
      have HZ4 := Lib.hid (show ¬ PS.size < o by omega)
      have HZ1 := Lib.hid z1
      have HPS := Lib.hid hPS
      have HC := Lib.hid (show C.size < o by omega)
      clear CZ hob hZ hPS hm z1 z3 z4 hC hb hl
      go_wp2
      go_roundw
      case rel => exact ⟨P, by rw [HPS.out], Lib.hid (.inr rfl), HB2⟩
      case measure =>
        have h4 := HZ4.out
        have h5 := HC.out
        simp
        omega
    · obtain rfl : l = P := by
        rcases hl.out with e | e
        · rw [e]; rw [e] at hlt; exact (HPC.out (by omega)).symm
        · exact e
      have hx1 := str_size l
      have hex := ext_cut (str l)
      rw [str_data] at hex
      obtain ⟨C, hC⟩ : ∃ C, str l = C := ⟨_, rfl⟩
      rw [hC] at z1 hex ⊢
      have c1 : C.size ≤ 16777216 := by omega
      have cl : (o : Int) ≤ (C.size : Int) := by omega
      have hs0 : (0 : Int) ≤ (S.size : Int) := Int.natCast_nonneg _
      have x1 : (C.extract 0 o).size = o := by rw [hex, str_size]; unfold cutL; simp; omega
      obtain ⟨X, hX⟩ : ∃ X, C.extract 0 o = X := ⟨_, rfl⟩
      rw [hX] at x1
      by_cases hge : C.size ≤ o + S.size
      · have hgi : (C.size : Int) ≤ (o : Int) + (S.size : Int) := by omega
        have HFIN := Lib.hid (show str R = X ++ S from by
          have hrr := HPR.out
          rw [List.drop_eq_nil_of_le (by rw [HZ2.out] at hge; omega), List.append_nil] at hrr
          rw [← hrr, ← str_app, HS.out, ← hX, hex]
          unfold cutL
          simp)
        have hx2 : X.size ≤ 16777216 := by omega
        have HX := Lib.hid hX
        have HX1 := Lib.hid x1
        have HZ1 := Lib.hid z1
        clear hl z1 hex hx1 x1 hC
        go_wp2
        go_ret
        exact ⟨by rw [HFIN.out]; rfl, hb.out⟩
      · have hgi : (o : Int) + (S.size : Int) < (C.size : Int) := by omega
        obtain ⟨Y, hY⟩ : ∃ Y, C.extract (o + S.size) C.size = Y := ⟨_, rfl⟩
        have hYe : Y = str (l.drop (o + S.size)) := by
          rw [← hY, hex, z1]
          congr 1
          unfold cutL
          rw [List.take_of_length_le (by simp)]
        have y1 : Y.size ≤ 16777216 := by rw [hYe, str_size]; simp; omega
        have HFIN := Lib.hid (show str R = X ++ S ++ Y from by
          rw [← HPR.out, ← str_app, ← str_app, HS.out, hYe, HZ2.out, ← hX, hex]
          unfold cutL
          simp)
        have HX1 := Lib.hid x1
        clear hl z1 hex hx1 hC hYe
        go_wp2
        go_quiet (fail)
        go_wp2
        go_ret
        exact ⟨by rw [HFIN.out]; rfl, Below.drewN_ hb.out _⟩
end Go.Proofs.Ythhpnlobhffimaa
