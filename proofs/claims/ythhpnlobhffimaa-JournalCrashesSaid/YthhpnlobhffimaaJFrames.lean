/- frames: the iterator over the frames of contents. -/
import Derived.Test.YthhpnlobhffimaaRuns
import Derived.Test.YthhpnlobhffimaaJRead
namespace Go.Proofs.Ythhpnlobhffimaa
set_option maxRecDepth 100000
open Go.RowKit Go.Shelf
attribute [local go_sem] Oper.semAt_some
theorem frames_new (s : ByteArray) (w : World) :
    Calls Try.prog 33 #[.string s] w fun e w' => e = .returned (.func (.func 53) #[] #[.pointer (some ⟨w.heap.size, 0, none⟩)]) ∧ w' = w.alloc (.cells #[.string s] 9) := by
  go_enter Try.func33, Try.ntmps33
  go_wp2
  go_ret
  exact ⟨rfl, rfl⟩
/-- what yield is given for a frame -/
def FV (x : List UInt8 × Nat) : Array Value := #[.string (str x.1), .int .i64 (x.2 : Int)]
/-- the records, each with the offset behind its frame -/
def offs : Nat → List (List UInt8) → List (List UInt8 × Nat)
  | _, [] => []
  | e, r :: t => (r, e + (1 + (body r).length)) :: offs (e + (1 + (body r).length)) t
theorem offs_len : ∀ (e : Nat) (l : List (List UInt8)), (offs e l).length = l.length
  | _, [] => rfl
  | e, r :: t => by rw [offs, List.length_cons, offs_len, List.length_cons]
theorem offs_fst : ∀ (e : Nat) (l : List (List UInt8)), (offs e l).map (·.1) = l
  | _, [] => rfl
  | e, r :: t => by rw [offs, List.map_cons, offs_fst]
/-- the offset behind the last of them -/
def lastE (e : Nat) (ys : List (List UInt8 × Nat)) : Nat := match ys.getLast? with | none => e | some x => x.2
theorem lastE_snoc (e : Nat) (ys : List (List UInt8 × Nat)) (x : List UInt8 × Nat) : lastE e (ys ++ [x]) = x.2 := by simp [lastE]
theorem lastE_cons (e : Nat) (x : List UInt8 × Nat) : ∀ ys : List (List UInt8 × Nat), lastE e (x :: ys) = lastE x.2 ys
  | [] => rfl
  | y :: ys => by
    unfold lastE
    rw [List.getLast?_cons_cons]
    cases h : (y :: ys).getLast? with
    | none => simp at h
    | some z => rfl
theorem lastE_offs : ∀ (l : List (List UInt8)) (e : Nat), lastE e (offs e l) = e + (fl l).length
  | [], e => by simp [offs, lastE, fl]
  | r :: t, e => by
    rw [offs, lastE_cons, lastE_offs t, fl_cons, List.length_append, frame_len]
    omega
theorem grown_below {w w' : World} (h : Below w.heap.size w w') : w.grownBy w' none := ⟨h.os, h.tape, h.output, h.size, fun g hg _ => h.block g hg⟩
theorem readBody_some (s : ByteArray) (w : World) (hs : s.size ≤ 281474976710656) {r : List UInt8} (h : readB s.data.toList = some r) : Calls Try.prog 55 #[.string s] w fun e w' => e = .returned (.tuple #[.string (str r), .bool true]) ∧ Below w.heap.size w w' := by
  have := readBody_any s w hs
  rw [h] at this
  exact this
theorem readBody_none (s : ByteArray) (w : World) (hs : s.size ≤ 281474976710656) (h : readB s.data.toList = none) : Calls Try.prog 55 #[.string s] w fun e w' => e = .returned (.tuple #[.string ⟨#[]⟩, .bool false]) ∧ Below w.heap.size w w' := by
  have := readBody_any s w hs
  rw [h] at this
  exact this
theorem pre_one (l : List UInt8) : ([1] : List UInt8).isPrefixOf l = true ↔ ∃ t, l = 1 :: t := by
  constructor
  · intro h
    obtain ⟨t, ht⟩ := List.isPrefixOf_iff_prefix.1 h
    exact ⟨t, ht.symm⟩
  · rintro ⟨t, rfl⟩
    exact List.isPrefixOf_iff_prefix.2 ⟨t, rfl⟩
set_option maxHeartbeats 2000000 in
theorem frames_stops (n : Nat) (hn : 1 ≤ n) (Bn : Nat) (c : ByteArray) (hc : c.size ≤ 16777216) (w : World) (hBn : Bn < w.heap.size) (h0 : w.cell? ⟨Bn, 0, none⟩ = some (.string c)) :
    SeqStopsK Fence.wide n Try.prog 53 #[.pointer (some ⟨Bn, 0, none⟩)] FV (KeepB Bn) (fun ys => ys = offs 0 (recs c.data.toList)) (fun _ => True) (recs c.data.toList).length w := by
  intro l J Jx W hW hJ hJx hY hJ0
  have hcW := (hW.cell (p := ⟨Bn, 0, none⟩) hBn).trans h0
  have hfn : ∀ k, Fence.wide.fn k := fun _ => trivial
  obtain ⟨T, HT⟩ : ∃ T, Hid (offs 0 (recs c.data.toList) = T) := ⟨_, Lib.hid rfl⟩
  have hTl : T.length = (recs c.data.toList).length := by rw [← HT.out, offs_len]
  rw [HT.out]
  rw [← hTl] at hY
  have HTL := Lib.hid hTl
  clear hTl
  refine callsIn_of_wp Try.func53 rfl trivial ?_ rfl
  simp only [Try.ntmps53, List.size_toArray, List.length_cons, List.length_nil, Nat.reduceAdd, Nat.reduceSub, Array.replicate_succ, Array.replicate_zero, List.push_toArray, List.append_toArray, List.nil_append, List.cons_append]
  have hBW : Bn < W.heap.size := Nat.lt_of_lt_of_le hBn hW.size
  have HK0 := Lib.hid (show W.cell? ⟨Bn, 0, none⟩ = some (.string c) ∧ Bn < W.heap.size from ⟨hcW, hBW⟩)
  have HJ0 := Lib.hid hJ0
  have HT0 := Lib.hid (show T = [] ++ offs 0 (recs (c.data.toList.drop 0)) from by rw [List.drop_zero]; exact HT.out.symm)
  clear hcW hJ0 h0 hBW
  gi_wp2
  gi_loopw [3] (fun p wr => ∃ (pre : List (List UInt8 × Nat)) (e : Nat), p = .int .i64 (e : Int) ∧ e ≤ c.size ∧ Hid (T = pre ++ offs e (recs (c.data.toList.drop e))) ∧ Hid (J pre wr) ∧ Hid (wr.cell? ⟨Bn, 0, none⟩ = some (.string c) ∧ Bn < wr.heap.size))
    (fun p _ => c.size - (intOf p).toNat)
  case atStart =>
    exact ⟨[], 0, rfl, Nat.zero_le _, HT0, HJ0, HK0⟩
  case round =>
    obtain ⟨pre, e, rfl, he, HTp, HJp, HKp⟩ := hrel
    have hcell := HKp.out.1
    have e0 : (0 : Int) ≤ (e : Int) := Int.natCast_nonneg _
    have e1 : (e : Int) ≤ (c.size : Int) := by omega
    have HP := Lib.hid (fun w => hasPre (c.extract e c.size) ⟨#[1]⟩ w)
    have hdr : (c.extract e c.size).data.toList = c.data.toList.drop e := by rw [ext_cut, cut_end, str_data]
    rw [hdr] at HP
    obtain ⟨S, hS⟩ : ∃ S, c.extract e c.size = S := ⟨_, rfl⟩
    rw [hS] at HP
    obtain ⟨L, HL⟩ : ∃ L, Hid (c.data.toList.drop e = L) := ⟨_, Lib.hid rfl⟩
    rw [HL.out] at HP HTp
    have hLl : L.length = c.size - e := by rw [← HL.out]; simp
    cases hp : ([1] : List UInt8).isPrefixOf L with
    | false =>
      rw [show (⟨#[1]⟩ : ByteArray).data.toList = [1] from rfl, hp] at HP
      have hr : recs L = [] := by
        cases L with
        | nil => rfl
        | cons b t =>
          refine recs_not t fun e => ?_
          subst e
          simp at hp
      rw [hr] at HTp
      have HTe := Lib.hid (show pre = T from by rw [HTp.out]; simp [offs])
      clear hp hr hdr hLl
      gi_wp2_with (first
        | (gi_at_call 54; refine (callsIn_wide.2 (HP.out _)).mono ?_; rintro e' w3 ⟨rfl, rfl⟩)
        | (fail "arm"))
      go_end0
      exact ⟨⟨_, rfl⟩, .inl ⟨T, rfl, HTe.out ▸ HJp.out⟩⟩
    | true =>
      rw [show (⟨#[1]⟩ : ByteArray).data.toList = [1] from rfl, hp] at HP
      obtain ⟨t, rfl⟩ := (pre_one L).1 hp
      simp at hLl
      have hdr1 : (c.extract (e + 1) c.size).data.toList = t := by
        rw [ext_cut, cut_end, str_data, ← List.drop_drop, HL.out]; rfl
      have hsz1 : (c.extract (e + 1) c.size).size ≤ 281474976710656 := by simp; omega
      obtain ⟨S1, hS1⟩ : ∃ S1, c.extract (e + 1) c.size = S1 := ⟨_, rfl⟩
      rw [hS1] at hdr1 hsz1
      have i1 : (e : Int) + 1 ≤ (c.size : Int) := by omega
      have i2 : (c.size : Int) ≤ 16777216 := by omega
      cases hrb : readB t with
      | none =>
        rw [recs_none hrb] at HTp
        have HTe := Lib.hid (show pre = T from by rw [HTp.out]; simp [offs])
        have HR := Lib.hid (fun w => readBody_none S1 w hsz1 (by rw [hdr1]; exact hrb))
        clear hp hdr hLl hdr1 hrb
        gi_wp2_with (first
          | (gi_at_call 54; refine (callsIn_wide.2 (HP.out _)).mono ?_; rintro e' w3 ⟨rfl, rfl⟩)
          | (gi_at_call 55; refine (callsIn_wide.2 (HR.out _)).mono ?_; rintro e' w4 ⟨rfl, hb4⟩)
          | (fail "arm"))
        refine bodyPost_ret (results_none rfl _ _ _) rfl ?_
        exact ⟨⟨_, rfl⟩, .inl ⟨T, rfl, HTe.out ▸ hJ _ _ _ none HJp.out (grown_below hb4) (fun r e => by cases e)⟩⟩
      | some r =>
        rw [recs_some hrb, offs] at HTp
        have HR := Lib.hid (fun w => readBody_some S1 w hsz1 (by rw [hdr1]; exact hrb))
        obtain ⟨tt, htt⟩ := readB_some hrb
        have hbl : (body r).length ≤ t.length := by rw [← htt]; simp
        have hrl : r.length ≤ 281474976710656 := by have := body_len r; omega
        have HBS := Lib.hid (fun w => bodySize_any (str r) w (by rw [str_size]; exact hrl))
        rw [str_data] at HBS
        obtain ⟨bl, hbl'⟩ : ∃ bl, (body r).length = bl := ⟨_, rfl⟩
        rw [hbl'] at HBS HTp hbl
        have i3 : (e : Int) + (1 + (bl : Int)) ≤ (c.size : Int) := by omega
        have hplen : pre.length < T.length := by rw [HTp.out]; simp
        have HTn := Lib.hid (show T = (pre ++ [(r, e + (1 + bl))]) ++ offs (e + (1 + bl)) (recs (c.data.toList.drop (e + (1 + bl)))) from by
          have hd2 : c.data.toList.drop (e + (1 + bl)) = t.drop bl := by
            rw [← List.drop_drop, HL.out, Nat.add_comm 1 bl, List.drop_succ_cons]
          rw [hd2, ← hbl']
          rw [← hbl'] at HTp
          rw [HTp.out]; simp)
        clear hp hdr hLl hdr1 hrb htt hbl hbl' HTp
        have HY := Lib.hid hY
        clear hY
        gi_wp2_with (first
          | (gi_at_call 54; refine (callsIn_wide.2 (HP.out _)).mono ?_; rintro e' w3 ⟨rfl, rfl⟩)
          | (gi_at_call 55; refine (callsIn_wide.2 (HR.out _)).mono ?_; rintro e' w4 ⟨rfl, hb4⟩)
          | (gi_at_call 37; refine (callsIn_wide.2 (HBS.out _)).mono ?_; rintro e' w5 ⟨rfl, hb5⟩)
          | (fail "arm"))
        have hb45 : Below wr.heap.size wr w5 := Below.then_ hb4 hb5
        have hJ5 : J pre w5 := hJ _ _ _ none HJp.out (grown_below hb45) (fun r e => by cases e)
        obtain ⟨fn, tmps, assign, bdy, hy, hR⟩ := HY.out pre (r, e + (1 + bl)) w5 hJ5 hplen
        unfold FV at hy
        dsimp only at hy
        rw [show ((e + (1 + bl) : Nat) : Int) = (e : Int) + (1 + (bl : Int)) from by omega] at hy
        have HK5 := Lib.hid (show w5.cell? ⟨Bn, 0, none⟩ = some (.string c) ∧ Bn < w5.heap.size from ⟨(hb45.cell (p := ⟨Bn, 0, none⟩) HKp.out.2).trans HKp.out.1, Nat.lt_of_lt_of_le HKp.out.2 hb45.size⟩)
        clear hcell hJ5
        go_simp
        refine hR.mono ?_
        rintro e' W3 (⟨rfl, hJ3, hk3⟩ | ⟨rfl, hJx3⟩)
        · have HJ3 := Lib.hid hJ3
          have HK3 := Lib.hid (show W3.cell? ⟨Bn, 0, none⟩ = some (.string c) ∧ Bn < W3.heap.size from ⟨(cell_of_heap hk3.1).trans HK5.out.1, Nat.lt_of_lt_of_le HK5.out.2 hk3.2⟩)
          clear hJ3 hk3
          gi_wp2
          go_roundw
          case rel => exact ⟨pre ++ [(r, e + (1 + bl))], e + (1 + bl), by congr 1, by omega, HTn, HJ3, HK3⟩
          case measure => simp [intOf]; omega
        · gi_wp2
          refine bodyPost_ret (results_none rfl _ _ _) rfl ?_
          exact ⟨⟨_, rfl⟩, .inr ⟨_, trivial, hJx3⟩⟩
end Go.Proofs.Ythhpnlobhffimaa
