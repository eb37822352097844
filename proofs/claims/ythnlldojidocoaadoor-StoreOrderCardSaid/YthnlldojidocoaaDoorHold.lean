/- isName, canHold. -/
import Derived.Test.YthnlldojidocoaaDoorFind
namespace Go.Proofs.YthnlldojidocoaaDoor
open Go.RowKit Go.Maps

theorem base_self {s : ByteArray} (h : 47 ∉ s.data.toList) : baseOf s = s := by
  unfold baseOf
  rw [lastP_free h]
  simp
theorem lastP_pos {l : List UInt8} (h : 47 ∈ l) : 0 < lastP l := by
  induction l with
  | nil => cases h
  | cons c t ih =>
    rw [lastP]
    split
    · omega
    · split
      · omega
      · next h1 h2 =>
        rcases List.mem_cons.1 h with e | e
        · exact absurd e.symm h2
        · exact absurd (ih e) h1
theorem base_other {s : ByteArray} (h : 47 ∈ s.data.toList) : ¬ baseOf s = s := by
  intro e
  have h1 := lastP_pos h
  have h2 := lastP_le s.data.toList
  rw [data_len] at h2
  have h3 := congrArg ByteArray.size e
  unfold baseOf at h3
  rw [ByteArray.size_extract] at h3
  omega
theorem nameOk_eq (s : ByteArray) : nameOk s = (validS s && decide (baseOf s = s)) := by
  by_cases h : 47 ∈ s.data.toList
  · have h1 : nameOk s = false := by
      rw [Bool.eq_false_iff]
      intro e
      exact nameOk_free e h
    rw [h1, decide_eq_false (base_other h), Bool.and_false]
  · rw [valid_free h, decide_eq_true (base_self h), Bool.and_true]

set_option maxRecDepth 100000 in
set_option maxHeartbeats 1000000 in
theorem name_any (s : ByteArray) (w : World) (hT : Tab w) (hs : s.size ≤ maxLen) : Calls Tryd.prog 41 #[.string s] w (BoolB w (nameOk s)) := by
  have V := valid_any s w hT hs
  have BA := Lib.hid (fun (W : World) => base_any s W hs)
  have hr := nameOk_eq s
  obtain ⟨R, HR⟩ : ∃ R, Hid (nameOk s = R) := ⟨_, Lib.hid rfl⟩
  rw [HR.out] at hr ⊢
  obtain ⟨v, hv⟩ : ∃ v, validS s = v := ⟨_, rfl⟩
  rw [hv] at V hr
  have HV := Lib.hid (show Calls Tryd.prog 44 #[.string s] w fun e w' => e = .returned (.bool v) ∧ ∃ q, w' = w.drewN q from V)
  clear V hv
  cases v with
  | false =>
    have hR : R = false := by rw [hr]; rfl
    have HR2 := Lib.hid hR
    clear hr hR
    go_enter Tryd.func41, Tryd.ntmps41
    go_wp2_with (go_at_call 44; ((with_reducible refine HV.out.mono ?_); rintro e w1 ⟨rfl, q, rfl⟩))
    go_ret
    exact ⟨by rw [HR2.out]; rfl, Below.drewN_ (Below.refl _ _) _⟩
  | true =>
    rw [Bool.true_and] at hr
    obtain ⟨b, hb⟩ : ∃ b, baseOf s = b := ⟨_, rfl⟩
    rw [hb] at hr BA
    by_cases hbs : b = s
    · have hR : R = true := by rw [hr, decide_eq_true hbs]
      have HR2 := Lib.hid hR
      have hbb : (b.toList == s.toList) = true := by rw [hbs]; simp
      have hbl : b.toList = s.toList := by rw [hbs]
      clear hr hR hb hbs
      go_enter Tryd.func41, Tryd.ntmps41
      go_wp2_with (first
        | (go_at_call 44; ((with_reducible refine HV.out.mono ?_); rintro e w1 ⟨rfl, q, rfl⟩))
        | (go_at_call 45; ((with_reducible refine (BA.out _).mono ?_); rintro e w1 ⟨rfl, rfl⟩)))
      go_ret
      exact ⟨by rw [HR2.out]; rfl, Below.drewN_ (Below.refl _ _) _⟩
    · have hR : R = false := by rw [hr, decide_eq_false hbs]
      have HR2 := Lib.hid hR
      have hbl : ¬ b.toList = s.toList := fun e => hbs (eq_of_data e)
      have hbb : (b.toList == s.toList) = false := by rw [beq_eq_false_iff_ne]; exact hbl
      clear hr hR hb hbs
      go_enter Tryd.func41, Tryd.ntmps41
      go_wp2_with (first
        | (go_at_call 44; ((with_reducible refine HV.out.mono ?_); rintro e w1 ⟨rfl, q, rfl⟩))
        | (go_at_call 45; ((with_reducible refine (BA.out _).mono ?_); rintro e w1 ⟨rfl, rfl⟩)))
      go_ret
      exact ⟨by rw [HR2.out]; rfl, Below.drewN_ (Below.refl _ _) _⟩

def entV (e : Ent) : Value := .agg #[.string e.1, .bool e.2.1, .int .i64 e.2.2]

set_option maxRecDepth 100000 in
set_option maxHeartbeats 1000000 in
theorem canHold_any {B : Nat} {w : World} {p : Nat} {os : List Ob} {F : Nat → Prop} {v : Value} {m : Option Nat} {In : Nat → Prop} (h : StoreH B w p os F v m In) (hn : os.length ≤ 1073741824) (e : Ent) (hid : (Lit.int .i64 e.2.2).wf = true) :
    Calls Tryd.prog 42 #[.pointer (some ⟨p, 0, none⟩), entV e] w (BoolB w (canHold os e)) := by
  obtain ⟨en, ed, ei⟩ := e
  unfold entV
  unfold canHold
  dsimp only at hid ⊢
  have hA : ∀ W, Below w.heap.size w W → StoreH B W p os F v m In := fun W hW => h.on hW
  cases hg : getO os ei with
  | none =>
    dsimp only
    have C := Lib.hid (fun W hW => find_none (hA W hW) hn ei hid hg)
    clear h hA hg
    go_enter Tryd.func42, Tryd.ntmps42
    go_wp2_with (go_at_call 33; ((with_reducible refine (C.out _ ?_).mono ?_); exact (Below.refl _ w).alloc (Nat.le_refl _) _; rintro e w1 ⟨rfl, hb⟩; unfold noObV))
    go_ret
    exact ⟨rfl, Below.then_ (Below.then_ ((Below.refl _ w).alloc (Nat.le_refl _) _) hb) ((Below.refl _ w1).alloc (Nat.le_refl _) _)⟩
  | some o =>
    dsimp only
    have hb0 : Below w.heap.size w (w.alloc (.cells #[.string en, .bool ed, .int .i64 ei] 48)) := (Below.refl _ w).alloc (Nat.le_refl _) _
    have hF0 : Full (w.alloc (.cells #[.string en, .bool ed, .int .i64 ei] 48)) w.heap.size 48 [.string en, .bool ed, .int .i64 ei] := Full.new w 48 [.string en, .bool ed, .int .i64 ei]
    obtain ⟨u, hu, C⟩ := find_some (hA _ hb0) hn ei o hg
    obtain ⟨Ae, ce, rfl, hre⟩ := hu
    obtain ⟨od, ot, oe⟩ := o
    unfold Found obV at C
    dsimp only at C ⊢
    have HC := Lib.hid C
    have HF0 := Lib.hid hF0
    clear h hA hg hre C hF0
    obtain ⟨R, HR⟩ : ∃ R, Hid (((od == ed) && (!od || !oe.isEmpty)) = R) := ⟨_, Lib.hid rfl⟩
    rw [HR.out]
    obtain ⟨n, hn'⟩ : ∃ n, oe.length = n := ⟨_, rfl⟩
    rw [hn'] at HC
    have hne : oe.isEmpty = decide (n = 0) := by
      rw [← hn']
      cases oe <;> simp
    have HR2 : Hid (((od == ed) && (!od || !decide (n = 0))) = R) := Lib.hid (by rw [← hne]; exact HR.out)
    clear HR hn' hne hb0
    by_cases hd : od = ed
    · subst hd
      cases od with
      | true =>
        by_cases h0 : 0 < n
        · have hR : R = true := by rw [← HR2.out]; simp; omega
          have h00 : (0 : Int) < (n : Int) := by omega
          have HR3 := Lib.hid hR
          clear hR HR2
          go_enter Tryd.func42, Tryd.ntmps42
          go_wp2_with (go_at_call 33; ((with_reducible refine HC.out.mono ?_); rintro e w1 ⟨rfl, hb⟩; have hF1 := HF0.out.on hb; have c1 : w1.cell? ⟨w.heap.size, 1, none⟩ = some (.bool true) := hF1.cell 1; have HF1 := Lib.hid hF1; have hl1 := hF1.lt; clear hF1))
          go_ret
          exact ⟨by rw [HR3.out]; rfl, Below.then_ (Below.then_ ((Below.refl _ w).alloc (Nat.le_refl _) _) hb) ((Below.refl _ w1).alloc (Nat.le_refl _) _)⟩
        · obtain rfl : n = 0 := by omega
          have hR : R = false := by rw [← HR2.out]; rfl
          have HR3 := Lib.hid hR
          clear hR HR2
          go_enter Tryd.func42, Tryd.ntmps42
          go_wp2_with (go_at_call 33; ((with_reducible refine HC.out.mono ?_); rintro e w1 ⟨rfl, hb⟩; have hF1 := HF0.out.on hb; have c1 : w1.cell? ⟨w.heap.size, 1, none⟩ = some (.bool true) := hF1.cell 1; have HF1 := Lib.hid hF1; have hl1 := hF1.lt; clear hF1))
          go_ret
          exact ⟨by rw [HR3.out]; rfl, Below.then_ (Below.then_ ((Below.refl _ w).alloc (Nat.le_refl _) _) hb) ((Below.refl _ w1).alloc (Nat.le_refl _) _)⟩
      | false =>
        have hR : R = true := by rw [← HR2.out]; rfl
        have HR3 := Lib.hid hR
        clear hR HR2
        go_enter Tryd.func42, Tryd.ntmps42
        go_wp2_with (go_at_call 33; ((with_reducible refine HC.out.mono ?_); rintro e w1 ⟨rfl, hb⟩; have hF1 := HF0.out.on hb; have c1 : w1.cell? ⟨w.heap.size, 1, none⟩ = some (.bool false) := hF1.cell 1; have HF1 := Lib.hid hF1; have hl1 := hF1.lt; clear hF1))
        go_ret
        exact ⟨by rw [HR3.out]; rfl, Below.then_ (Below.then_ ((Below.refl _ w).alloc (Nat.le_refl _) _) hb) ((Below.refl _ w1).alloc (Nat.le_refl _) _)⟩
    · have hR : R = false := by rw [← HR2.out]; cases od <;> cases ed <;> first | rfl | exact absurd rfl hd
      have HR3 := Lib.hid hR
      cases od with
      | true =>
        obtain rfl : ed = false := by cases ed; rfl; exact absurd rfl hd
        clear hR HR2 hd
        go_enter Tryd.func42, Tryd.ntmps42
        go_wp2_with (go_at_call 33; ((with_reducible refine HC.out.mono ?_); rintro e w1 ⟨rfl, hb⟩; have hF1 := HF0.out.on hb; have c1 : w1.cell? ⟨w.heap.size, 1, none⟩ = some (.bool false) := hF1.cell 1; have HF1 := Lib.hid hF1; have hl1 := hF1.lt; clear hF1))
        go_ret
        exact ⟨by rw [HR3.out]; rfl, Below.then_ (Below.then_ ((Below.refl _ w).alloc (Nat.le_refl _) _) hb) ((Below.refl _ w1).alloc (Nat.le_refl _) _)⟩
      | false =>
        obtain rfl : ed = true := by cases ed; exact absurd rfl hd; rfl
        clear hR HR2 hd
        go_enter Tryd.func42, Tryd.ntmps42
        go_wp2_with (go_at_call 33; ((with_reducible refine HC.out.mono ?_); rintro e w1 ⟨rfl, hb⟩; have hF1 := HF0.out.on hb; have c1 : w1.cell? ⟨w.heap.size, 1, none⟩ = some (.bool true) := hF1.cell 1; have HF1 := Lib.hid hF1; have hl1 := hF1.lt; clear hF1))
        go_ret
        exact ⟨by rw [HR3.out]; rfl, Below.then_ (Below.then_ ((Below.refl _ w).alloc (Nat.le_refl _) _) hb) ((Below.refl _ w1).alloc (Nat.le_refl _) _)⟩
end Go.Proofs.YthnlldojidocoaaDoor
