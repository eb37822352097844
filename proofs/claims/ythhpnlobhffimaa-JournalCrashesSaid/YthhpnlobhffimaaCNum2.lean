/- Number, the code's and the reference's: both return the bytes of the groups. -/
import Derived.Laws.IdiomStrings
import Derived.Deep.RegionWith
import Derived.Test.YthhpnlobhffimaaCNum
namespace Go.Proofs.Ythhpnlobhffimaa
set_option maxRecDepth 100000
open Go.RowKit

/-- string(b), of a row of the call's own. -/
theorem own_string (w : World) (n₀ g cap : Nat) (l : List UInt8) (h : w.ownsRow n₀ 5 1 (.slice (some ⟨g, 0, none⟩) l.length cap) l.length (l.map enc8)) :
    (convert 66 9 (.slice (some ⟨g, 0, none⟩) l.length cap)).run Try.prog w = .ok (.string (str l)) w := by
  refine run_convert_bytes_back w 66 9 5 ⟨g, 0, none⟩ cap l Try.underlying66 Try.underlying5 Try.underlying9 fun j hj => ?_
  refine h.cells (g := g) rfl j _ ?_
  rw [List.getElem?_map, List.getElem?_eq_getElem hj]
  rfl

/-- What the walk wants of a row that holds bytes: its value written out, and what its conversion gives. -/
theorem own_pos {w : World} {n₀ : Nat} {v : Value} {l : List UInt8} {k : Nat} {xs : List Value} (hl : 0 < l.length) (h : w.ownsRow n₀ 5 1 v k xs) (hk : k = l.length) (hx : xs = l.map enc8) :
    ∃ g cap, v = .slice (some ⟨g, 0, none⟩) l.length cap ∧ (convert 66 9 (.slice (some ⟨g, 0, none⟩) l.length cap)).run Try.prog w = .ok (.string (str l)) w := by
  subst hk
  subst hx
  rcases h.2 with ⟨_, h0⟩ | ⟨g, cap, _, rfl, _⟩
  · omega
  · exact ⟨g, cap, rfl, own_string _ _ _ _ _ h⟩

set_option maxHeartbeats 400000 in
theorem number_any (m : Nat) (hm : m < 18446744073709551616) (w : World) :
    Calls Try.prog 57 #[.int .u64 (m : Int)] w fun e w' => e = .returned (.string (str (numL m))) ∧ Below w.heap.size w w' := by
  have hpos := numL_pos m
  go_enter Try.func57, Try.ntmps57
  go_wp2_with (go_at_call 65; refine (append_any m hm _ w.heap.size (Nat.le_refl _) none 0 0 [] (World.ownsRow_nil _ _ _ _) (by omega)).mono ?_; rintro e w1 ⟨v, rfl, hrow, hb⟩; obtain ⟨g, cap, rfl, hcv⟩ := own_pos hpos hrow (Nat.zero_add _) (List.nil_append _))
  go_ret
  exact ⟨rfl, hb⟩

theorem str_append (a b : List UInt8) : str a ++ str b = str (a ++ b) := ByteArray.mk_append_mk a b
theorem byte_string (w : World) (b c : Nat) (x : UInt8) (hc : w.cell? ⟨b, 0, none⟩ = some (.int .u8 (x.toNat : Int))) :
    (convert 66 9 (.slice (some ⟨b, 0, none⟩) 1 c)).run Try.prog w = .ok (.string (str [x])) w := by
  refine run_convert_bytes_back w 66 9 5 ⟨b, 0, none⟩ c [x] Try.underlying66 Try.underlying5 Try.underlying9 fun j hj => ?_
  obtain rfl : j = 0 := by simpa using hj
  exact hc

set_option maxRecDepth 100000 in
set_option maxHeartbeats 400000 in
theorem refNumber_any (k : Nat) : ∀ (m : Nat) (w : World), m < 128 ^ (k + 1) → m < 18446744073709551616 →
    Calls Try.prog 47 #[.int .u64 (m : Int)] w fun e w' => e = .returned (.string (str (numL m))) ∧ Below w.heap.size w w' := by
  induction k with
  | zero =>
    intro m w hk hm
    have hlt : m < 128 := by simpa using hk
    have hcv := fun (W : World) (b c : Nat) (hc : W.cell? ⟨b, 0, none⟩ = some (.int .u8 (m : Int))) => byte_string W b c (UInt8.ofNat m) (by rw [hc]; simp [Nat.mod_eq_of_lt (show m < 256 by omega)])
    go_enter Try.func47, Try.ntmps47
    go_wp2
    go_ret
    exact ⟨by rw [numL_lt hlt]; rfl, (Below.refl _ _).alloc (Nat.le_refl _) _⟩
  | succ k ih =>
    intro m w hk hm
    by_cases hlt : m < 128
    · have hcv := fun (W : World) (b c : Nat) (hc : W.cell? ⟨b, 0, none⟩ = some (.int .u8 (m : Int))) => byte_string W b c (UInt8.ofNat m) (by rw [hc]; simp [Nat.mod_eq_of_lt (show m < 256 by omega)])
      go_enter Try.func47, Try.ntmps47
      go_wp2
      go_ret
      exact ⟨by rw [numL_lt hlt]; rfl, (Below.refl _ _).alloc (Nat.le_refl _) _⟩
    · obtain ⟨x, hx⟩ : ∃ x : UInt8, UInt8.ofNat (m % 128 + 128) = x := ⟨_, rfl⟩
      have hxn : (x.toNat : Int) = (m : Int) % 128 + 128 := by rw [← hx]; simp [Nat.mod_eq_of_lt (show m % 128 + 128 < 256 by omega)]
      have hcv := fun (W : World) (b c : Nat) (hc : W.cell? ⟨b, 0, none⟩ = some (.int .u8 ((m : Int) % 128 + 128))) => byte_string W b c x (by rw [hc, hxn])
      have hk2 : m / 128 < 128 ^ (k + 1) := by
        rw [Nat.div_lt_iff_lt_mul (by omega)]
        rwa [Nat.pow_succ] at hk
      have ih' := fun W => ih (m / 128) W hk2 (by omega)
      rw [show ((m / 128 : Nat) : Int) = (m : Int) / 128 from by omega] at ih'
      have e1 : (m : Int).tmod 128 = (m : Int) % 128 := Int.tmod_eq_emod_of_nonneg (by omega)
      have e2 : IntKind.u64.wrap ((m : Int) % 128 + 128) = (m : Int) % 128 + 128 := by simp [IntKind.wrap, IntKind.bits, IntKind.signed]; omega
      have e3 : IntKind.u8.wrap ((m : Int) % 128 + 128) = (m : Int) % 128 + 128 := by simp [IntKind.wrap, IntKind.bits, IntKind.signed]; omega
      have e4 : IntKind.u64.wrap ((m : Int) / 128) = (m : Int) / 128 := by simp [IntKind.wrap, IntKind.bits, IntKind.signed]; omega
      have hsz : (str [x]).size + (str (numL (m / 128))).size ≤ 9223372036854775807 := by
        have := numL_ten (n := m / 128) (by omega)
        rw [str_size, str_size]; simp; omega
      have hfin : str [x] ++ str (numL (m / 128)) = str (numL m) := by
        rw [str_append, numL_ge hlt, ← hx]; rfl
      have HFIN := Lib.hid hfin
      clear hfin hxn hx
      clear ih hk hk2
      go_enter Try.func47, Try.ntmps47
      go_wp2
      go_region_with (go_at_call 47; refine (ih' _).mono ?_; rintro e w1 ⟨rfl, hb⟩; have hc1 : w.heap.size < _ → w1.cell? ⟨w.heap.size, 0, none⟩ = _ := fun h => hb.cell h)
      all_goals
        go_wp2
        go_ret
        refine ⟨congrArg (fun s => Ending.returned (Value.string s)) HFIN.out, ?_⟩
      all_goals first
        | exact ((Below.refl _ w).drew.alloc (Nat.le_refl _) _).trans (hb.mono (by simp))
        | exact ((Below.refl _ w).drew.trans (hb.mono (by simp))).alloc (by simpa using hb.size) _
        | trace_state

theorem refNumber (m : Nat) (hm : m < 18446744073709551616) (w : World) :
    Calls Try.prog 47 #[.int .u64 (m : Int)] w fun e w' => e = .returned (.string (str (numL m))) ∧ Below w.heap.size w w' :=
  refNumber_any 9 m w (by omega) hm

end Go.Proofs.Ythhpnlobhffimaa
