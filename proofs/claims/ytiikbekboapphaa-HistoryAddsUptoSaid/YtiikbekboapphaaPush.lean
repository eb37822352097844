/- (*greatestFirst): Push. -/
import Derived.Test.YtiikbekboapphaaHeap2
namespace Go.Proofs.Ytiikbekboapphaa
set_option maxRecDepth 100000
open Go.RowKit
def PushOut (w : World) (g : Nat) (v : Value) (l : List Nat) (e : Ending) (w' : World) : Prop :=
  e = .returned (.tuple #[]) ∧ ∃ v', Hp w' g v' l ∧ Goes (HF g v) w w' (HF g v')
set_option maxHeartbeats 4000000 in
theorem push_any {w : World} {g : Nat} {v : Value} {l : List Nat} (h : Hp w g v l) (hl : l.length ≤ 1048576) (x : Nat) :
    Calls Try.prog 72 #[.pointer (some ⟨g, 0, none⟩), .iface 3 (.int .i64 (x : Int))] w (PushOut w g v (l ++ [x])) := by
  obtain ⟨A, c, rfl⟩ := h.form
  have hgl := h.full.lt
  have hF := h.full
  have hown := h.row
  have hne := h.ne
  have hcap : l.length ≤ c := (Row.own hown).2.1
  unfold PushOut
  have HFIT := Lib.hid (fun (w2 : World) (g2 c2 : Nat) (hown2 : w2.ownsRow 0 3 1 (.slice (some ⟨g2, 0, none⟩) (l.length + 1) c2) (l.length + 1) (natC l ++ [.int .i64 (x : Int)])) (hFy : Full w2 g 76 [.slice A l.length c]) (hgrow : ((w.alloc (.cells #[.int .i64 (x : Int)] 3)).drew).grownBy w2 (Value.slice A l.length c).ownBlock) (hat : (Value.slice A l.length c).ownBlock = some g2 ∨ w.heap.size ≤ g2) =>
    (show ∃ v', Hp (w2.setCell ⟨g, 0, none⟩ (.slice (some ⟨g2, 0, none⟩) (l.length + 1) c2)) g v' (l ++ [x]) ∧ Goes (HF g (.slice A l.length c)) w (w2.setCell ⟨g, 0, none⟩ (.slice (some ⟨g2, 0, none⟩) (l.length + 1) c2)) (HF g v') from by
      have hg2 : g ≠ g2 := fun e => hFy.not_row hown2 (by decide) (by rw [e]; rfl)
      refine ⟨.slice (some ⟨g2, 0, none⟩) (l.length + 1) c2, ⟨hFy.set_ 0 _, ?_⟩, ?_, ?_⟩
      · rw [List.length_append, natC_snoc]
        exact owns_keep hown2 fun k e => Below.heap_setCell _ _ _ k (fun e' => hg2 (by
          obtain rfl : g2 = k := by simpa [Value.ownBlock] using e
          exact e'.symm))
      · have h1 : Turn (HF g (.slice A l.length c)) w (w.alloc (.cells #[.int .i64 (x : Int)] 3)).drew := Turn.of (((Below.refl _ w).alloc (Nat.le_refl _) _).drew)
        have h2 : Turn (HF g (.slice A l.length c)) w w2 := h1.late (Turn.grown (F := fun k => (Value.slice A l.length c).ownBlock = some k) hgrow (fun k e => .inl e)) (fun k e => .inl (.inr e))
        exact h2.late (Turn.set_ (F := fun k => k = g) (a := ⟨g, 0, none⟩) rfl _) (fun k e => .inl (.inl e))
      · rintro k (rfl | e)
        · exact .inl (.inl rfl)
        · obtain rfl : g2 = k := by simpa [Value.ownBlock] using e
          exact hat.imp (fun h => .inr h) id))
  obtain ⟨n, hn⟩ : ∃ n, l.length = n := ⟨_, rfl⟩
  rw [hn] at hl hF hown hne hcap HFIT ⊢
  have c0 : w.cell? ⟨g, 0, none⟩ = some (.slice A n c) := hF.cell 0
  have c0' : (w.alloc (.cells #[.int .i64 (x : Int)] 3)).cell? ⟨g, 0, none⟩ = some (.slice A n c) := (hF.alloc _).cell 0
  have f0 : w.frozen? ⟨g, 0, none⟩ = false := hF.frozen 0
  obtain ⟨i3, hi, hz0, hz1, hz2⟩ := info_parts info3
  have hta : ∀ W, (Instr.typeAssert (.iface 3 (.int .i64 (x : Int))) 20 3 false).run Try.prog W = .ok (.int .i64 (x : Int)) W := fun W => by kernel_rfl
  clear h hn
  go_enter Try.func72, Try.ntmps72
  go_wp2_with fail
  go_region_law
    ((refine step_append_lies _ (by rfl) _ _ _ (by rfl) 0 3 i3 _ 1 8 Try.underlying74 hi hz0 hz1 hz2 rfl (by omega) (.slice A n c) n _ (by rfl) ((hown.alloc _).drew) ⟨w.heap.size, 0, none⟩ 1 1 [.int .i64 (x : Int)] (by rfl) (by rfl) (World.news_of_block (cs := #[.int .i64 (x : Int)]) (t := 3) (fr := (0, 0)) (heap_alloc_new w _)) (by simp [Value.oneCell']) (by omega) (by unfold maxLen; omega) (by omega) (by simp) (w.heap.size + 1) (by simp) ?_; intro gg cap w2 hown2 hgrow hat hlt; have hFy := ((hF.alloc (.cells #[.int .i64 (x : Int)] 3)).drew).grown hgrow (fun e => hne e.symm); have z0 : w2.cell? ⟨g, 0, none⟩ = some (.slice A n c) := hFy.cell 0; have z1 := hFy.frozen 0))
  all_goals
    try go_wp2
    go_end0
    refine ⟨rfl, HFIT.out _ _ _ hown2 hFy hgrow (hat.imp id fun e => ?_)⟩
    omega
end Go.Proofs.Ytiikbekboapphaa
