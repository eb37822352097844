/- Merges of short texts, by the program and by the reference. -/
import Derived.Test.YtmeoannheomdoaaRefMerge
import Derived.Test.YtmeoannheomdoaaSane
namespace Go.Proofs.Ytmeoannheomdoaa
open Go.RowKit

theorem sps_on {w w' : World} {A : Option Addr} {c : Nat} {L : List (Nat × Nat)} (h : Sps w w.heap.size A c L) (hb : Below w.heap.size w w') : Sps w' w'.heap.size A c L := Row.on h hb
theorem text_short {L : List ByteArray} (h : Shorts L) (hl : L.length ≤ 46) (cut : Bool) : (cat L).length ≤ 92 ∧ (textS L cut).size ≤ 92 := by
  have h1 := cat_len 2 L h
  have h2 : (cat L).length ≤ 92 := by omega
  refine ⟨h2, ?_⟩
  unfold textS
  split
  · have : (str (cat L)).size = (cat L).length := rfl
    simp
    omega
  · exact h2
theorem text_at {B : Nat} (A : Option Addr) (c : Nat) {L : List ByteArray} (n : Nat) (cut : Bool) (w : World) (hA : Strs w B A c L) (hn : L.length = n) (hs : Shorts L) (hn2 : n ≤ 46) :
    Calls Try.prog 19 #[.slice A n c, .bool cut] w fun e w' => e = .returned (.string (textS L cut)) ∧ w = w' := by
  subst hn
  have := text_short hs hn2 cut
  exact text_any B A L c cut w hA (by omega) (by omega)
theorem merge_some {b l r : ByteArray} {w : World} {U : List UInt8} {C : List (Nat × Nat)} {T : ByteArray} {n : Nat} (h1 : b.size ≤ 92) (h2 : l.size ≤ 92) (h3 : r.size ≤ 92) (h : mergeS b l r = (U, C)) (hT : str U = T) (hn : C.length = n) : Calls Try.prog 29 #[.string b, .string l, .string r] w (MergeOut2 w T n C) := by
  subst hT hn
  have := merge_any b l r w (by omega) (by omega) (by omega)
  rw [h] at this
  exact this
theorem conf_le (base left right : List ByteArray) : (mergeM base left right).conf.length ≤ (diff base left).length + (diff base right).length := by
  have h1 := diff_ok base left
  have h2 := diff_ok base right
  unfold mergeM
  generalize diff base left = l at h1 ⊢
  generalize diff base right = r at h2 ⊢
  have hg := gps_ok base.length left.length right.length (l.length + r.length) 0 0 0 l r (Nat.le_refl _) h1 h2
  have hl := gps_len (l.length + r.length) l r
  generalize gps (l.length + r.length) l r = T at hg hl ⊢
  obtain ⟨_, _, _, _, _, k3⟩ := merge_at (base := base) (left := left) (right := right) T 0 0 0 ⟨[], 0, []⟩ hg ⟨Nat.le_refl _, by simp⟩ T.length (Nat.le_refl _)
  rw [List.take_length] at k3
  have k4 : ([] : List (Nat × Nat)).length = 0 := rfl
  dsimp only at k3
  omega
theorem conf_len (base left right : ByteArray) (h1 : base.size ≤ 92) : (mergeS base left right).2.length ≤ 1000 := by
  have hc := conf_le (splitS base) (splitS left) (splitS right)
  have d1 := diff_len (splitS base) (splitS left)
  have d2 := diff_len (splitS base) (splitS right)
  have s1 := splitS_len base
  have hm : (mergeM (splitS base) (splitS left) (splitS right)).conf.length ≤ 1000 := Nat.le_trans hc (Nat.le_trans (Nat.add_le_add d1 d2) (by omega))
  clear hc d1 d2
  unfold mergeS mergeL
  generalize mergeM (splitS base) (splitS left) (splitS right) = m at hm ⊢
  split
  · exact Nat.zero_le _
  · exact hm

theorem refmerge_some {b l r : ByteArray} {w : World} {U : List UInt8} {C : List (Nat × Nat)} {T : ByteArray} {n : Nat} (h1 : b.size ≤ 92) (h2 : l.size ≤ 92) (h3 : r.size ≤ 92) (h : mergeS b l r = (U, C)) (hT : str U = T) (hn : C.length = n) : Calls Try.prog 30 #[.string b, .string l, .string r] w (MergeOut2 w T n C) := by
  subst hT hn
  have := refMerge_any b l r w (by omega) (by omega) (by omega)
  rw [h] at this
  exact this
/-- both merges of three short texts have the same text and the same conflicts -/
theorem two_merges (b l r : ByteArray) (h1 : b.size ≤ 92) (h2 : l.size ≤ 92) (h3 : r.size ≤ 92) : ∃ (T : ByteArray) (n : Nat) (C : List (Nat × Nat)), (∀ W, Calls Try.prog 29 #[.string b, .string l, .string r] W (MergeOut2 W T n C)) ∧ (∀ W, Calls Try.prog 30 #[.string b, .string l, .string r] W (MergeOut2 W T n C)) ∧
    ∀ (A B : Option Addr) (c d : Nat) (W : World), Sps W W.heap.size A c C → Sps W W.heap.size B d C → Calls Try.prog 31 #[.slice A n c, .slice B n d] W (BoolB W true) := by
  have hcl := conf_len b l r h1
  obtain ⟨⟨U, C⟩, hU⟩ : ∃ R, mergeS b l r = R := ⟨_, rfl⟩
  rw [hU] at hcl
  exact ⟨str U, C.length, C, fun W => merge_some h1 h2 h3 hU rfl rfl, fun W => refmerge_some h1 h2 h3 hU rfl rfl, fun A B c d W hA hB => spans2 W.heap.size C.length C.length A B C c d W hA hB rfl rfl hcl⟩
end Go.Proofs.Ytmeoannheomdoaa
