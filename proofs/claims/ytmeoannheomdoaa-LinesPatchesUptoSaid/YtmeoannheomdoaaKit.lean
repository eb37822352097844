/- What several laws share: the lists that numbers determine, and differences and patches of short lists. -/
import Derived.Test.YtmeoannheomdoaaPatch
import Derived.Test.YtmeoannheomdoaaLists
namespace Go.Proofs.Ytmeoannheomdoaa
open Go.RowKit

theorem hks_on {w w' : World} {A : Option Addr} {c : Nat} {L : List Hk} (h : Hks w w.heap.size A c L) (hb : Below w.heap.size w w') : Hks w' w'.heap.size A c L := Row.on h hb
theorem listL_short (zs : List Int) : Shorts (listL zs) ∧ (listL zs).length ≤ 40 := by
  unfold listL
  refine ⟨fun x hx => ?_, by simp; omega⟩
  obtain ⟨z, _, rfl⟩ := List.mem_map.1 hx
  rw [lineI_size]
  exact Nat.le_refl _
def ListOut (w : World) (n : Nat) (L : List ByteArray) (e : Ending) (w' : World) : Prop := ∃ A c, e = .returned (.slice A n c) ∧ Strs w' w'.heap.size A c L ∧ Below w.heap.size w w'
theorem list_at (B : Nat) (A : Option Addr) (zs : List Int) (c p n : Nat) (w : World) (hA : Ints w B A c zs) (hB : B ≤ w.heap.size) (hp : zs.length = p) (hn : (listL zs).length = n) (hm : p ≤ maxLen) : Calls Try.prog 20 #[.slice A p c] w (ListOut w n (listL zs)) := by
  subst hp hn
  refine (list_any B A zs c w hA hB hm).mono ?_
  rintro e w' ⟨A', c', rfl, ho, hb⟩
  exact ⟨A', c', rfl, (Strs.own ho).2, hb⟩
theorem diff_at (A B : Option Addr) (a b : List ByteArray) (c d n m q : Nat) (w : World) (hA : Strs w w.heap.size A c a) (hB : Strs w w.heap.size B d b) (hn : a.length = n) (hm : b.length = m) (ha : n ≤ 100) (hb : m ≤ 100) (hza : Shorts a) (hzb : Shorts b) (hq : (diff a b).length = q) :
    Calls Try.prog 23 #[.slice A n c, .slice B m d] w (HksOut w q (diff a b)) := by
  subst hn hm hq
  exact (diff_any2 w.heap.size A B a b c d w hA hB (Nat.le_refl _) (by omega) (by omega) (fun s hs => by have := hza s hs; unfold maxLen; omega) (fun s hs => by have := hzb s hs; unfold maxLen; omega)).mono fun _ _ ⟨A, c, h1, h2, h3⟩ => ⟨A, c, h1, h2.1, h3⟩
theorem patch_at (A B C : Option Addr) (a b : List ByteArray) (n m p c d e : Nat) (w : World) (hA : Strs w w.heap.size A c a) (hB : Strs w w.heap.size B d b) (hC : Hks w w.heap.size C e (diff a b)) (hn : a.length = n) (hm : b.length = m) (hp : (diff a b).length = p) (hn2 : n ≤ 100) (hm2 : m ≤ 100) (hp2 : p ≤ 1000) :
    Calls Try.prog 25 #[.slice A n c, .slice B m d, .slice C p e] w (PatchOut w m b) := by
  have := patch_any A B C a b (diff a b) n m p c d e m w hA hB hC (diff_fit a b) hn hm hp (by rw [patch_diff]; exact hm) (by omega) (by omega) (by omega)
  rwa [patch_diff] at this
theorem same_at (A B : Option Addr) (L : List ByteArray) (c d n : Nat) (w : World) (hA : Strs w w.heap.size A c L) (hB : Strs w w.heap.size B d L) (hn : L.length = n) (h : n ≤ 100) : Calls Try.prog 17 #[.slice A n c, .slice B n d] w (BoolB w true) :=
  same2 w.heap.size n n A B L c d w hA hB hn.symm hn.symm (by omega)
theorem hunks_at (A B : Option Addr) (L : List Hk) (c d n : Nat) (w : World) (hA : Hks w w.heap.size A c L) (hB : Hks w w.heap.size B d L) (hn : L.length = n) (h : n ≤ 1000) : Calls Try.prog 22 #[.slice A n c, .slice B n d] w (BoolB w true) :=
  hunks2 w.heap.size n n A B L c d w hA hB hn.symm hn.symm (by omega)
end Go.Proofs.Ytmeoannheomdoaa
