/- Lists of records in memory. -/
import Derived.Test.YthhpnlobhffimaaJSane
namespace Go.Proofs.Ythhpnlobhffimaa
set_option maxRecDepth 100000
open Go.RowKit
def dat (L : List ByteArray) : List (List UInt8) := L.map fun s => s.data.toList
theorem dat_len (L : List ByteArray) : (dat L).length = L.length := by simp [dat]
theorem dat_str (L : List ByteArray) : (dat L).map str = L := by
  unfold dat
  rw [List.map_map]
  conv => rhs; rw [← List.map_id L]
  exact List.map_congr_left fun s _ => (str_eq rfl).symm
theorem dat_take (L : List ByteArray) (k : Nat) (h : k < L.length) : dat (L.take (k + 1)) = dat (L.take k) ++ [L[k].data.toList] := by
  rw [List.take_succ_eq_append_getElem h]; unfold dat; rw [List.map_append]; rfl
theorem idle_now {j : Jn} (h : j.Idle) (hg : j.d.Good) : recs j.d.now = j.rs := by rw [h.now]; exact h.recs hg
section
variable {w W W' : World} {p b : Nat} {d : Dk} {j : Jn} {X : Nat → Prop}
theorem own_since {base size n : Nat} {e : TypeId} {v : Value} {xs : List Value} {B : Nat} (h : W.ownsRow base e size v n xs) (k : Since B W W') (hB : ∀ g, v.ownBlock = some g → g < B) : W'.ownsRow base e size v n xs := owns_keep h fun g hg => k.keep g (hB g hg)
/-- Open of a disk that holds the records L -/
def OpenL (w W : World) (p : Nat) (d : Dk) (L : List ByteArray) (X : Nat → Prop) (e : Ending) (W' : World) : Prop :=
  ∃ b A c j, e = .returned (.tuple #[.pointer (some ⟨b, 0, none⟩), .slice A L.length c, .int .i64 0]) ∧ (j.Idle ∧ j.rs = dat L ∧ j.d.pw = none ∧ j.d.calls ≤ d.calls + 2) ∧
    JPost w W p b j X W' ∧ W.heap.size ≤ b ∧ Jw w W' p b j (fun g => X g ∨ (Value.slice A L.length c).ownBlock = some g) ∧ W'.ownsRow W.heap.size 9 1 (.slice A L.length c) L.length (strC L)
theorem open_list (h : Side w W p d X) (hp : d.pw = none) (hc : d.calls ≤ 90000) {L : List ByteArray} (hr : recs d.now = dat L) : Calls Try.prog 14 #[.pointer (some ⟨p, 0, none⟩)] W (OpenL w W p d L X) := by
  refine (open_good h hp hc).mono ?_
  rintro e W' ⟨b, A, c, j, he, h1, h2, h3, h4, _, h5, h6, h7, h8⟩
  rw [hr] at he h2 h7 h8
  rw [dat_str, dat_len] at h8
  rw [dat_len] at he h7
  exact ⟨b, A, c, j, he, ⟨h1, h2, h3, h4⟩, h5, h6, h7, h8⟩
/-- Same of two rows of strings -/
theorem same_rows {B1 B2 n m c1 c2 : Nat} {A1 A2 : Option Addr} {L1 L2 : List ByteArray} (h1 : W.ownsRow B1 9 1 (.slice A1 n c1) n (strC L1)) (h2 : W.ownsRow B2 9 1 (.slice A2 m c2) m (strC L2)) (hn : n ≤ 1000) (hm : m ≤ 1000) :
    Calls Try.prog 19 #[.slice A1 n c1, .slice A2 m c2] W (QBool W (decide (L1 = L2))) := by
  obtain ⟨e1, s1⟩ := Strs.own h1
  obtain ⟨e2, s2⟩ := Strs.own h2
  subst e1 e2
  exact same_any W.heap.size A1 A2 L1 L2 c1 c2 W s1 s2 (by omega) (by omega)
/-- the records that have been appended so far -/
structure Got (j : Jn) (rs : List (List UInt8)) (cl : Nat) : Prop where
  idle : j.Idle
  rs : j.rs = rs
  pw : j.d.pw = none
  calls : j.d.calls ≤ cl
theorem Got.e_le {j : Jn} {rs : List (List UInt8)} {cl : Nat} (h : Got j rs cl) (hs : ∀ r ∈ rs, r.length ≤ 2000) : j.e ≤ 2015 * rs.length := by
  unfold Jn.e
  rw [h.rs]
  clear h
  induction rs with
  | nil => simp [fl]
  | cons r t ih =>
    have h1 := body_small r 2000 (hs r List.mem_cons_self) (by decide)
    have h2 := ih fun x hx => hs x (List.mem_cons_of_mem _ hx)
    rw [fl_cons, List.length_append, frame_len, List.length_cons]
    omega
theorem append_got (h : Jw w W p b j X) {rs : List (List UInt8)} {cl : Nat} (hg : Got j rs cl) (hs : ∀ r ∈ rs, r.length ≤ 2000) (hn : rs.length ≤ 400) (hc : cl ≤ 80000) (s : ByteArray) (hz : s.size ≤ 2000) :
    Calls Try.prog 16 #[.pointer (some ⟨b, 0, none⟩), .string s] W fun e W' => e = .returned (.int .i64 0) ∧ ∃ j', Got j' (rs ++ [s.data.toList]) (cl + 4) ∧ JPost w W p b j' X W' := by
  have he := hg.e_le hs
  refine (app_good h hg.idle (by rw [hg.pw]; trivial) (by have := hg.calls; omega) s (by omega) (tooLong_small (n := 806000) (by omega) (by rw [data_len]; exact hz) (by omega))).mono ?_
  rintro e W' ⟨he, j', rfl, hi, hp, hc', hP⟩
  refine ⟨he, _, ⟨hi, ?_, by rw [hp, hg.pw]; rfl, by rw [hc']; have := hg.calls; omega⟩, hP⟩
  show j.rs ++ _ = _
  rw [hg.rs]
end
end Go.Proofs.Ythhpnlobhffimaa
