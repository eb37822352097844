/- StoreDeep: for all texts and depths: trees within trees are equal exactly if their files are. -/
import Derived.Test.YthnlldojidocoaaDoorLaws2
namespace Go.Proofs.YthnlldojidocoaaDoor.ldeep
open Go.ChangeShapes Go.WideShapes Go.ChangeAt Go.RowKit Go.Maps

theorem put_self {os : List Ob} (o : Ob) : o ∈ put os o := put_mem.2 (.inr rfl)
theorem put_more {os : List Ob} {o x : Ob} (h : x ∈ os) : x ∈ put os o := put_mem.2 (.inl h)
theorem num_self (os : List Ob) (o : Ob) : num (put os o) o = num os o := by
  unfold put
  split
  · rfl
  · next h =>
    rw [num_new h]
    have h2 := put_get os o
    have h3 : o ∈ os ++ [o] := by simp
    obtain ⟨i, hi, hn⟩ := num_at h3
    rw [hn]
    have hil := (List.getElem?_eq_some_iff.1 hi).1
    rcases Nat.lt_or_ge i os.length with hl | hl
    · rw [List.getElem?_append_left hl] at hi
      exact absurd (List.mem_of_getElem? hi) h
    · simp at hil; omega
/-- the two numbers, and what they stand for -/
structure Two (os : List Ob) (x y : Nat) (dir : Bool) (eq : Prop) : Prop where
  ex : ∃ X Y : Ob, X ∈ os ∧ Y ∈ os ∧ num os X = x ∧ num os Y = y ∧ X.1 = dir ∧ Y.1 = dir ∧ (dir = true → X.2.2 ≠ [] ∧ Y.2.2 ≠ []) ∧ (X = Y ↔ eq)
theorem Two.lt {os : List Ob} {x y : Nat} {dir : Bool} {eq : Prop} (h : Two os x y dir eq) : 1 ≤ x ∧ x ≤ os.length ∧ 1 ≤ y ∧ y ≤ os.length := by
  obtain ⟨X, Y, h1, h2, rfl, rfl, _⟩ := h.ex
  have a := num_le os X
  have b := num_le os Y
  unfold put at a b
  rw [if_pos h1] at a
  rw [if_pos h2] at b
  exact ⟨num_pos _ _, a, num_pos _ _, b⟩
theorem Two.eq_ {os : List Ob} {x y : Nat} {dir : Bool} {eq : Prop} (h : Two os x y dir eq) : x = y ↔ eq := by
  obtain ⟨X, Y, h1, h2, rfl, rfl, _, _, _, h3⟩ := h.ex
  exact ⟨fun e => h3.1 (num_inj h1 e), fun e => by rw [h3.2 e]⟩
def entD (dir : Bool) (x : Nat) : Ent := (⟨#[100]⟩, dir, (x : Int))
theorem hold_of {os : List Ob} {X : Ob} {dir : Bool} (h : X ∈ os) (hd : X.1 = dir) (he : dir = true → X.2.2 ≠ []) : treeOk os [entD dir (num os X)] = true := by
  have hg : getO os (num os X : Int) = some X := by
    obtain ⟨i, hi, hn⟩ := num_at h
    unfold getO
    rw [if_pos (by rw [hn]; omega), hn, show ((i + 1 : Nat) : Int) - 1 = (i : Int) by omega, Int.toNat_natCast, hi]
  have hc : canHold os (entD dir (num os X)) = true := by
    unfold canHold entD
    dsimp only
    rw [hg]
    dsimp only
    rw [hd]
    cases dir with
    | false => rfl
    | true =>
      have := he rfl
      cases hx : X.2.2 with
      | nil => exact absurd hx this
      | cons a t => rfl
  have hn : nameOk (entD dir (num os X)).1 = true := by show nameOk ⟨#[100]⟩ = true; kernel_rfl
  unfold treeOk entOk rising
  simp [hc, hn]
theorem Two.okx {os : List Ob} {x y : Nat} {dir : Bool} {eq : Prop} (h : Two os x y dir eq) : treeOk os [entD dir x] = true := by
  obtain ⟨X, Y, h1, _, rfl, _, h5, _, h7, _⟩ := h.ex
  exact hold_of h1 h5 fun e => (h7 e).1
theorem Two.oky {os : List Ob} {x y : Nat} {dir : Bool} {eq : Prop} (h : Two os x y dir eq) (o : Ob) : treeOk (put os o) [entD dir y] = true := by
  obtain ⟨X, Y, _, h2, _, rfl, _, h6, h7, _⟩ := h.ex
  have := hold_of (os := put os o) (put_more h2) h6 fun e => (h7 e).2
  rwa [num_put h2] at this
theorem Two.next {os : List Ob} {x y : Nat} {dir : Bool} {eq : Prop} (h : Two os x y dir eq) :
    Two (put (put os (treeO [entD dir x])) (treeO [entD dir y])) (num os (treeO [entD dir x])) (num (put os (treeO [entD dir x])) (treeO [entD dir y])) true eq :=
  ⟨treeO [entD dir x], treeO [entD dir y], put_more (put_self _), put_self _, by rw [num_put (put_self _), num_self], num_self _ _, rfl, rfl, fun _ => ⟨by simp [treeO], by simp [treeO]⟩, by
    rw [← h.eq_]
    constructor
    · intro e
      have h1 : [entD dir x] = [entD dir y] := congrArg (fun o : Ob => o.2.2) e
      have h2 : (entD dir x).2.2 = (entD dir y).2.2 := by injection h1 with h1; rw [h1]
      have h3 : (x : Int) = (y : Int) := h2
      omega
    · intro e; rw [e]⟩
theorem Two.start (a b : ByteArray) : Two (put (put [] (blobO a)) (blobO b)) (num [] (blobO a)) (num (put [] (blobO a)) (blobO b)) false (a = b) :=
  ⟨blobO a, blobO b, put_more (put_self _), put_self _, by rw [num_put (put_self _), num_self], num_self _ _, rfl, rfl, fun e => (by cases e), ⟨fun e => congrArg (fun o : Ob => o.2.1) e, fun e => by rw [e]⟩⟩

set_option maxRecDepth 100000 in
set_option maxHeartbeats 4000000 in
theorem walk (a b : ByteArray) (n : Int) (ha : a.size ≤ maxLen) (hb : b.size ≤ maxLen) (hn : 0 ≤ n ∧ n ≤ 255) (w : World) (hT : Tab w) : Calls Tryd.prog 12 #[.string a, .string b, .int .u8 n] w (BoolB w true) := by
  unfold maxLen at ha hb
  have S := Lib.hid (sane_any w hT)
  have NW := Lib.hid (newW hT)
  obtain ⟨r, hr, hr5⟩ : ∃ r : Nat, n % 50 = (r : Int) ∧ r < 50 := ⟨(n % 50).toNat, by omega, by omega⟩
  have tm : n.tmod 50 = (r : Int) := by rw [Int.tmod_eq_emod_of_nonneg (by omega), hr]
  obtain ⟨la, hla, hla1, hla2⟩ : ∃ la : Nat, min (a.size : Int) 100 = (la : Int) ∧ la ≤ a.size ∧ la ≤ 100 := ⟨min a.size 100, by omega, by omega, by omega⟩
  obtain ⟨lb, hlb, hlb1, hlb2⟩ : ∃ lb : Nat, min (b.size : Int) 100 = (lb : Int) ∧ lb ≤ b.size ∧ lb ≤ 100 := ⟨min b.size 100, by omega, by omega, by omega⟩
  have hla3 : (if 100 < (a.size : Int) then 100 else (a.size : Int)) = (la : Int) := by split <;> omega
  have hlb3 : (if 100 < (b.size : Int) then 100 else (b.size : Int)) = (lb : Int) := by split <;> omega
  obtain ⟨A, hA⟩ : ∃ A, a.extract 0 la = A := ⟨_, rfl⟩
  obtain ⟨B, hB⟩ : ∃ B, b.extract 0 lb = B := ⟨_, rfl⟩
  have hAs : A.size ≤ 65536 := by rw [← hA, ByteArray.size_extract]; omega
  have hBs : B.size ≤ 65536 := by rw [← hB, ByteArray.size_extract]; omega
  have BL := Lib.hid (fun (W : World) (p : Nat) (os : List Ob) (F : Nat → Prop) (h : StW w W p os F) (hn : os.length ≤ 1000) => (And.intro (blobW h (by omega) A hAs) (blobW h (by omega) B hBs)))
  have TR := Lib.hid (fun (W : World) (p : Nat) (os : List Ob) (F : Nat → Prop) (h : StW w W p os F) (hn : os.length ≤ 1000) (dir : Bool) (x : Nat) (hok : treeOk os [entD dir x] = true) =>
    (show Calls Tryd.prog 21 #[.pointer (some ⟨p, 0, none⟩), .slice (some ⟨W.heap.size, 0, none⟩) 1 1] (W.alloc (.cells #[.string ⟨#[100]⟩, .bool dir, .int .i64 (x : Int)] 48)) (PutW w (W.alloc (.cells #[.string ⟨#[100]⟩, .bool dir, .int .i64 (x : Int)] 48)) p os F (num os (treeO [entD dir x]) : Int) (put os (treeO [entD dir x]))) from treeL h (by omega) [entD dir x] 1 rfl (by omega) hok))
  have hi0 : (0 : Int) ≤ (la : Int) := Int.natCast_nonneg _
  have hi1 : (0 : Int) ≤ (lb : Int) := Int.natCast_nonneg _
  have hi2 : (la : Int) ≤ (a.size : Int) := by omega
  have hi3 : (lb : Int) ≤ (b.size : Int) := by omega
  clear hAs hBs
  go_enter Tryd.func12, Tryd.ntmps12
  go_wp2_with (first
    | (go_at_call 14; (with_reducible refine S.out.mono ?_); rintro e w1 ⟨rfl, hb1⟩)
    | (go_at_call 15; (with_reducible refine (NW.out _ hb1).mono ?_); rintro e w2 ⟨rfl, h2⟩; (obtain ⟨p, hp⟩ : ∃ p, w1.heap.size = p := ⟨_, rfl⟩); rw [hp] at h2)
    | (go_at_call 18; (with_reducible refine (BL.out _ _ _ _ h2 (Nat.zero_le _)).1.mono ?_); rintro e w3 ⟨rfl, F3, h3, -⟩)
    | (go_at_call 18; (with_reducible refine (BL.out _ _ _ _ h3 (Nat.le_trans (put_len _ _) (by simp))).2.mono ?_); rintro e w4 ⟨rfl, F4, h4, -⟩))
  have h5 := Two.start A B
  have hl5 : (put (put [] (blobO A)) (blobO B)).length ≤ 2 := Nat.le_trans (put_len _ _) (Nat.succ_le_succ (Nat.le_trans (put_len _ _) (by simp)))
  obtain ⟨x0, hx0⟩ : ∃ x, num [] (blobO A) = x := ⟨_, rfl⟩
  obtain ⟨y0, hy0⟩ : ∃ y, num (put [] (blobO A)) (blobO B) = y := ⟨_, rfl⟩
  obtain ⟨os0, hos0⟩ : ∃ os, put (put [] (blobO A)) (blobO B) = os := ⟨_, rfl⟩
  rw [hx0, hy0, hos0] at h5
  rw [hos0] at h4 hl5
  rw [hx0, hy0]
  clear hx0 hy0 hos0 h2 h3
  go_loopw [9, 11, 13, 14] (fun vx vy vd vk wr => ∃ (k x y : Nat) (dir : Bool) (os : List Ob) (F : Nat → Prop), k ≤ r + 1 ∧ vk = .int .i64 (k : Int) ∧ vx = .int .i64 (x : Int) ∧ vy = .int .i64 (y : Int) ∧ vd = .bool dir ∧ os.length ≤ 2 + 2 * k ∧ Two os x y dir (A = B) ∧ StW w wr p os F) (fun _ _ _ vk _ => r + 1 - (intOf vk).toNat)
  case atStart => exact ⟨0, x0, y0, false, os0, F4, by omega, rfl, rfl, rfl, rfl, by omega, h5, h4⟩
  case round =>
    obtain ⟨k, x, y, dir, os, F, hk, rfl, rfl, rfl, rfl, hos, h2w, hst⟩ := hrel
    have hlt0 := h2w.lt
    have e1 : (1 : Int) + (r : Int) = ((r + 1 : Nat) : Int) := by omega
    by_cases hlt : k < r + 1
    · have hki : (k : Int) < ((r + 1 : Nat) : Int) := by omega
      have hnx := h2w.next
      have C1 := Lib.hid (TR.out _ p os F hst (by omega) dir x h2w.okx)
      have C2 := Lib.hid (fun (W : World) (F' : Nat → Prop) (h : StW w W p (put os (treeO [entD dir x])) F') => TR.out W p _ F' h (Nat.le_trans (put_len _ _) (by omega)) dir y (h2w.oky _))
      have hl2 : (put (put os (treeO [entD dir x])) (treeO [entD dir y])).length ≤ 2 + 2 * (k + 1) := by
        have a1 := put_len os (treeO [entD dir x])
        have a2 := put_len (put os (treeO [entD dir x])) (treeO [entD dir y])
        omega
      obtain ⟨os1, hos1⟩ : ∃ o, put os (treeO [entD dir x]) = o := ⟨_, rfl⟩
      rw [hos1] at hnx C1 C2 hl2
      obtain ⟨os2, hos2⟩ : ∃ o, put os1 (treeO [entD dir y]) = o := ⟨_, rfl⟩
      rw [hos2] at hnx C2 hl2
      obtain ⟨x', hx'⟩ : ∃ x', num os (treeO [entD dir x]) = x' := ⟨_, rfl⟩
      obtain ⟨y', hy'⟩ : ∃ y', num os1 (treeO [entD dir y]) = y' := ⟨_, rfl⟩
      rw [hx', hy'] at hnx
      rw [hx'] at C1
      rw [hy'] at C2
      clear hos1 hos2 hx' hy' h2w hlt0 hst
      go_wp2_with (first
        | (go_at_call 21; (with_reducible refine C1.out.mono ?_); rintro e w5 ⟨rfl, F5, h5, -⟩)
        | (go_at_call 21; (with_reducible refine (C2.out _ _ h5).mono ?_); rintro e w6 ⟨rfl, F6, h6, -⟩))
      go_roundw
      case rel => exact ⟨k + 1, x', y', true, os2, F6, by omega, by go_num, rfl, rfl, rfl, hl2, hnx, h6⟩
      case measure => simp [intOf]; omega
    · obtain rfl : k = r + 1 := by omega
      have heq := h2w.eq_
      have hlen : x ≤ os.length ∧ y ≤ os.length := ⟨hlt0.2.1, hlt0.2.2.2⟩
      clear h2w hlt0
      by_cases hAB : A = B
      · have hxy : x = y := heq.2 hAB
        subst hxy
        have hbl : A.toList = B.toList := by rw [hAB]
        have hbb : (A.toList == B.toList) = true := by rw [hAB]; simp
        clear hAB heq
        go_wp2_with fail
        go_quiet (fail)
        go_wp2
        go_ret
        exact ⟨rfl, (hst.drewN _).below⟩
      · have hxy : ¬ x = y := fun e => hAB (heq.1 e)
        have hxyi : ¬ (x : Int) = (y : Int) := by omega
        have hxyb : ((x : Int) == (y : Int)) = false := by rw [beq_eq_false_iff_ne]; exact hxyi
        have hbl : ¬ A.toList = B.toList := fun e => hAB (eq_of_data e)
        have hbb : (A.toList == B.toList) = false := by rw [beq_eq_false_iff_ne]; exact hbl
        clear hAB heq
        go_wp2_with fail
        go_quiet (fail)
        go_wp2
        go_ret
        exact ⟨rfl, (hst.drewN _).below⟩

theorem contract (H : Type) (enc : TypeId × Value → H) (W : World) (base : Nat) (args : Array Value) (ds gs : List (DataW H)) (before : List MemPlace)
    (hval : ∀ (j : Nat) t v, Tryd.f12.params[j]? = some t → args[j]? = some v → Value.okWide Tryd.prog W .any base t v)
    (hW : DataW.Whole enc Tryd.prog Tryd.f12.params.toList Rows.storeDeepSpec.vars false W args.toList ds gs before) (hT : Tab W) :
    Calls Tryd.prog 12 args W fun e W' => ∃ v, e = .returned v ∧ Rows.storeDeepSpec.post enc Tryd.prog Tryd.f12 false true false false W args v W' := by
  have hW' := hW
  obtain ⟨p, q, hA0, hV, rfl, hfz, hnd⟩ := hW
  have hA : DataW.TrodAll enc Tryd.prog W 0 (fun _ => true) true Tryd.f12.params.toList args.toList ds p := hA0
  rw [Tryd.params12] at hA hval
  obtain ⟨v0, vs0, d0, ds0, p0, q0, e0, rfl, rfl, h0, r0⟩ := trodAll_cons hA
  obtain ⟨v1, vs1, d1, ds1, p1, q1, e1, rfl, rfl, h1, r1⟩ := trodAll_cons r0
  obtain ⟨v2, vs2, d2, ds2, p2, q2, e2, rfl, rfl, h2, r2⟩ := trodAll_cons r1
  obtain ⟨rfl, rfl, rfl⟩ := trodAll_nil r2
  obtain rfl : args = #[v0, v1, v2] := by cases args; simp_all
  obtain ⟨rfl, rfl⟩ := trodVars_none hV
  obtain ⟨a, rfl, rfl, rfl, ha⟩ := Go.ChangeMaps.open_string Tryd.underlying9 (hval 0 9 v0 rfl rfl) h0
  obtain ⟨b, rfl, rfl, rfl, hb⟩ := Go.ChangeMaps.open_string Tryd.underlying9 (hval 1 9 v1 rfl rfl) h1
  obtain ⟨n, rfl, _, _, hn⟩ := open_int Tryd.underlying5 (hval 2 5 v2 rfl rfl) h2
  refine (walk a b n ha hb (bd_u8 hn) W hT).mono fun e W' ⟨he, hb⟩ => ⟨_, he, law_post rfl rfl ?_ rfl rfl rfl hW' hb⟩
  rw [Tryd.params12]
  intro t ht
  have ht' : t = 9 ∨ t = 5 := by simpa using ht
  rcases ht' with rfl | rfl <;> exact ⟨by kernel_rfl, of_decide_eq_true (by kernel_rfl)⟩

theorem laid_met (os : Os) : laidMet Tryd.prog Rows.storeDeepRow.laid ((laidWorld os).forCall (fun _ _ => 0) ⟨#[], #[.string ⟨#[]⟩, .string ⟨#[]⟩, .int .u8 0], []⟩).memory :=
  laidMet_of_run' 8 (by kernel_rfl) (by kernel_rfl)
theorem reads (os : Os) {H : Type} (enc : TypeId × Value → H) : ∃ ds places, DataW.whole enc Tryd.prog ((laidWorld os).forCall (fun _ _ => 0) ⟨#[], #[.string ⟨#[]⟩, .string ⟨#[]⟩, .int .u8 0], []⟩).memory Tryd.f12.params.toList Rows.storeDeepSpec.vars false (#[.string ⟨#[]⟩, .string ⟨#[]⟩, .int .u8 0] : Array Value).toList 8 = some (ds, [], places) ∧ Rows.uptoSmall H (ds ++ []) = true :=
  ⟨[.lit (.string []), .lit (.string []), .lit (.int .u8 0)], [], by kernel_rfl, by kernel_rfl⟩

set_option maxRecDepth 100000 in
theorem lifted (os : Os) (started : os.Started) (H : Type) (enc : TypeId × Value → H) (F : Stop.Interp) :
    ReturnsInHanded {} Tryd.checked os 12 .any ((OpenSpec.ofChange Rows.storeDeepSpec).preRow enc Tryd.prog Tryd.f12 Rows.storeDeepRow.domain false Rows.storeDeepRow.laid) (((OpenSpec.ofChange Rows.storeDeepSpec).at F).post enc Tryd.prog Tryd.f12 false true false false) := by
  obtain ⟨ds, places, hx, hsm⟩ := reads os enc
  refine returnsInHanded_of_row (C := Tryd.checked) (s := (OpenSpec.ofChange Rows.storeDeepSpec)) ownKnob_none started (by kernel_rfl) Tryd.func12
    (witness_row_at (enc := enc) (C := Tryd.checked) false (laidWorld os) #[.string ⟨#[]⟩, .string ⟨#[]⟩, .int .u8 0] rfl (by kernel_rfl) (by kernel_rfl) (by kernel_rfl)
      (OpenSpec.preRow_of_cond 8 hx (by kernel_rfl) (fun k hk => by cases hk) (by kernel_rfl) (laid_met os))) ?_
  intro W base args ds gs before hval hW _ _ _ hL _ _
  exact contract H enc W base args ds gs before hval hW (tab_of_laid hL)

theorem said : Rows.StoreDeepSaid :=
  OpenClaim.holds_of_cond 12 Tryd.f12 rfl rfl rfl rfl rfl rfl rfl ⟨rfl, rfl, rfl, rfl, rfl⟩ rfl rfl rfl rfl rfl (by kernel_rfl) Tryd.func12 (by kernel_rfl)
    (of_decide_eq_true (by kernel_rfl)) (by unfold Func.isWrapper; first | (rw [if_pos (by decide +kernel)]; kernel_rfl) | (rw [if_neg (by decide +kernel)]; exact ⟨rfl, rfl⟩))
    (fun os started H enc _ F => by rw [OpenClaim.pre_eq_preRow]; exact lifted os started H enc F)

theorem plain (f : FuncId) (fn : Func) (hf : Tryd.pinned.checked.prog.funcNamed "mainline/mainlinelaw04.StoreDeep" = some f) (hfn : Tryd.pinned.checked.prog.funcs[f]? = some fn) :
    false = Tryd.pinned.checked.prog.looks [] ∧ ∀ (j : Nat) t, fn.params[j]? = some t → Tryd.pinned.checked.prog.wantsStandIn t = false := by
  obtain rfl : f = 12 := Option.some.inj ((show Tryd.prog.funcNamed "mainline/mainlinelaw04.StoreDeep" = some 12 by kernel_rfl).symm.trans hf) |>.symm
  obtain rfl : fn = Tryd.f12 := (Option.some.inj (Tryd.func12.symm.trans hfn)).symm
  refine ⟨by kernel_rfl, fun j t ht => ?_⟩
  rw [Tryd.params12] at ht
  have hm : t ∈ [9, 5] := by have := Array.mem_of_getElem? ht; simpa using this
  have hall : ([9, 5].all fun u => !Tryd.prog.wantsStandIn u) = true := by kernel_rfl
  exact (show Tryd.prog.wantsStandIn t = false by simpa using List.all_eq_true.1 hall t hm)

theorem card : Rows.StoreDeepCardSaid :=
  Claim7.holds_tied_plain_at .later [] _ _ _ _ said (fun _ h => by cases h) (by kernel_rfl) (fun _ h => by cases h) storeDeep_row_tie rfl ⟨rfl, rfl⟩ (by kernel_rfl) rfl plain (by kernel_rfl)

end Go.Proofs.YthnlldojidocoaaDoor.ldeep
