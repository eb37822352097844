/- copyOf. -/
import Derived.Lib.SlBuf
import Derived.Laws.CopyOwn
import Derived.Test.YthnlldojidocoaaDoorAsBytes
namespace Go.Proofs.YthnlldojidocoaaDoor
open Go.RowKit Go.Maps

theorem info48 : (Tryd.prog.info? 48).map (fun i => (i.zero, i.size, i.bytes)) = some (some (.agg #[.string ⟨#[]⟩, .bool false, .int .i64 0]), 3, 32) := by kernel_rfl
theorem made_ents (n : Nat) (hn : n ≤ 1099511627776) : ∃ Z : List Value, Z.length = n * 3 ∧ ∀ W, (Instr.makeSlice 46 (.int .i64 (n : Int)) (.int .i64 (n : Int))).run Tryd.prog W = .ok (.slice (some ⟨W.heap.size, 0, none⟩) n n) (W.alloc (.cells Z.toArray 48)) := by
  obtain ⟨i, h1, h2, h3, h4⟩ := info_parts info48
  refine ⟨(madeCells (Value.agg #[.string ⟨#[]⟩, .bool false, .int .i64 0]).cells (n * 3)).toList, by simp [size_madeCells], fun W => ?_⟩
  have hr := run_make W 46 48 i _ Tryd.underlying46 h1 h2 .i64 .i64 (n : Int) (n : Int) (by omega) (by omega) (by rw [h4]; omega) (by omega)
  rw [hr, h3]
  simp only [Int.toNat_natCast, Array.toArray_toList]
theorem entsC_one (es : List Ent) : ∀ u ∈ entsC es, u.oneCell' = true := by
  intro u hu
  unfold entsC at hu
  obtain ⟨e, _, he⟩ := List.mem_flatMap.1 hu
  unfold entC at he
  simp only [List.mem_cons, List.not_mem_nil, or_false] at he
  rcases he with rfl | rfl | rfl <;> rfl
theorem copy_ents (w : World) (g n c : Nat) (A : Option Addr) (es : List Ent) (Z : List Value) (B : Nat) (hg : Full w g 48 Z) (hZ : Z.length = n * 3) (hA : Row w B 3 A n c (entsC es)) (hne : es.length = n) (ty : TypeId) :
    (Builtin.copy_ #[46, 46] ty #[.slice (some ⟨g, 0, none⟩) n n, .slice A n c]).run Tryd.prog w = .ok (.int .i64 (n : Int)) (w.setRow g (entsC es).toArray) := by
  obtain ⟨i, h1, h2, h3, h4⟩ := info_parts info48
  have hl : (entsC es).length = n * 3 := by rw [entsC_len, hne]
  have hmin : Nat.min n n = n := Nat.min_self n
  cases A with
  | none =>
    have hc : c = 0 := hA.2.2.1 rfl
    have hn0 : n = 0 := by have := hA.2.1; omega
    subst hn0
    have hZ0 : Z = [] := List.eq_nil_of_length_eq_zero (by simpa using hZ)
    have he0 : entsC es = [] := List.eq_nil_of_length_eq_zero (by simpa using hl)
    subst hZ0
    rw [he0]
    have hs := setRow_self w g #[] 48 (0, 0) hg
    simp [Builtin.copy_, run_underlying Tryd.underlying46, Builtin.lenOf, Builtin.firstCells, sizeOf, typeInfo, h1, h3, storeCells, hs, goInt]
  | some a =>
    have hload := run_loadCells_list (P := Tryd.prog) w a (entsC es) (fun j v hj => by
      obtain ⟨ad, e, _, hc⟩ := hA.2.2.2 j v hj
      injection e with e
      subst e
      exact hc)
    have hst := run_storeCells_at Tryd.prog g 0 48 (entsC es) 0 Z.toArray w hg (by simp [hl, hZ]) (entsC_one es)
    have hrow : (Z.toArray.toList.take (0 + 0) ++ entsC es ++ Z.toArray.toList.drop (0 + 0 + (entsC es).length)).toArray = (entsC es).toArray := by
      simp [hl, ← hZ]
    rw [hrow] at hst
    rw [hl] at hload
    simp [Builtin.copy_, run_underlying Tryd.underlying46, Builtin.lenOf, Builtin.firstCells, sizeOf, typeInfo, h1, h3, hload, hst, goInt]

/-- a new slice of the entries -/
def CopyOut (w : World) (es : List Ent) (e : Ending) (w' : World) : Prop :=
  ∃ A, e = .returned (.slice A es.length es.length) ∧ RowF w' (fun g => w.heap.size ≤ g ∧ g < w'.heap.size) 3 A es.length es.length (entsC es) ∧ Below w.heap.size w w'
theorem full_setRow {w : World} {g : Nat} {t : TypeId} {cs : List Value} (h : Full w g t cs) (xs : List Value) : Full (w.setRow g xs.toArray) g t xs := setRow_heap w g _ _ t _ h

set_option maxRecDepth 100000 in
set_option maxHeartbeats 1000000 in
theorem copyOf_any (M : Nat) (A : Option Addr) (es : List Ent) (c : Nat) (w : World) (hA : Ents w M A c es) (hM : M ≤ w.heap.size) (hl : es.length ≤ 1048576) :
    Calls Tryd.prog 36 #[.slice A es.length c] w (CopyOut w es) := by
  obtain ⟨n, hn⟩ : ∃ n, es.length = n := ⟨_, rfl⟩
  obtain ⟨Z, hZ, hmk⟩ := made_ents n (by omega)
  have hF := Full.new w 48 Z
  have hA1 : Row (w.alloc (.cells Z.toArray 48)) M 3 A n c (entsC es) := by
    have := Row.alloc hA hM (.cells Z.toArray 48)
    rwa [hn] at this
  have hcp := copy_ents _ w.heap.size n c A es Z M hF hZ hA1 hn
  have hF2 := full_setRow hF (entsC es)
  have hB : Below w.heap.size w ((w.alloc (.cells Z.toArray 48)).setRow w.heap.size (entsC es).toArray) := below_setRow ((Below.refl _ w).alloc (Nat.le_refl _) _) (Nat.le_refl _) _
  have hsz : ((w.alloc (.cells Z.toArray 48)).setRow w.heap.size (entsC es).toArray).heap.size = w.heap.size + 1 := by simp [World.setRow]
  obtain ⟨w2, hw2⟩ : ∃ w2, (w.alloc (.cells Z.toArray 48)).setRow w.heap.size (entsC es).toArray = w2 := ⟨_, rfl⟩
  rw [hw2] at hF2 hB hcp hsz
  unfold CopyOut
  have HN := Lib.hid hn
  rw [hn]
  have HF2 := Lib.hid hF2
  have HL := Lib.hid hl
  clear hF hA1 hF2 hA hZ hn hl hw2
  go_enter Tryd.func36, Tryd.ntmps36
  go_wp2_with (with_reducible refine Lib.wpList_copy_run _ rfl _ _ 46 46 rfl _ _ rfl rfl (hcp _) ?_)
  go_ret
  refine ⟨_, rfl, ⟨by rw [entsC_len, HN.out], Nat.le_refl _, fun h => (by cases h), fun j u hj => ⟨_, rfl, ⟨Nat.le_refl _, by rw [hsz]; exact Nat.lt_succ_self _⟩, ?_⟩⟩, hB⟩
  rw [show (⟨w.heap.size, 0, none⟩ : Addr).add j = ⟨w.heap.size, j, none⟩ by unfold Addr.add; split <;> simp_all]
  rw [HF2.out.cell]; exact hj
end Go.Proofs.YthnlldojidocoaaDoor
