/- ref.Merge. -/
import Derived.Test.YtmeoannheomdoaaRefPart
import Derived.Test.YtmeoannheomdoaaRefDiff
namespace Go.Proofs.Ytmeoannheomdoaa
open Go.RowKit

theorem cat_app (a b : List ByteArray) : cat (a ++ b) = cat a ++ cat b := by unfold cat; rw [List.flatMap_append]
/-- the reference's merge at place i of base -/
structure MI (B L R : List ByteArray) (F : Ms ByteArray) (X Y : List Hk) (i : Nat) (out : ByteArray) (m : Ms ByteArray) : Prop where
  st : (i ≤ B.length ∧ ∃ l r jl jr, RM B L R F X Y i m l r jl jr) ∨ (i = B.length + 1 ∧ F = m)
  dn : m.done ≤ i
  tx : m.conf = [] → out.data.toList = cat (m.merged ++ seg B m.done i)
  cf : m.conf.length ≤ i
section
variable {B L R : List ByteArray} {F m : Ms ByteArray} {X Y : List Hk} {i : Nat} {out : ByteArray}
theorem MI.rm (h : MI B L R F X Y i out m) (hi : i ≤ B.length) : ∃ l r jl jr, RM B L R F X Y i m l r jl jr := by
  rcases h.st with ⟨_, h⟩ | ⟨h, _⟩
  · exact h
  · omega
theorem MI.none_ (h : MI B L R F X Y i out m) (hi : i ≤ B.length) (hX : ¬ ∃ x ∈ X, x.a0 = i) (hY : ¬ ∃ x ∈ Y, x.a0 = i) (out' : ByteArray) (ho : out'.data.toList = out.data.toList ++ cat (seg B i (i + 1))) : MI B L R F X Y (i + 1) out' m := by
  obtain ⟨l, r, jl, jr, hr⟩ := h.rm hi
  have kX : ∀ x ∈ X, x.a0 ≠ i := fun x hx e => hX ⟨x, hx, e⟩
  have kY : ∀ x ∈ Y, x.a0 ≠ i := fun x hx e => hY ⟨x, hx, e⟩
  refine ⟨?_, by have := h.dn; omega, fun hc => ?_, by have := h.cf; omega⟩
  · rcases Nat.lt_or_ge i B.length with hlt | hge
    · exact .inl ⟨hlt, l, r, _, _, hr.none_ kX kY hlt⟩
    · obtain ⟨k1, k2⟩ := hr.later kX kY
      exact .inr ⟨by omega, hr.end_ (fun x hx => by have := k1 x hx; omega) (fun x hx => by have := k2 x hx; omega)⟩
  · rw [ho, h.tx hc, ← cat_app, List.append_assoc, seg_add B h.dn (Nat.le_succ _)]
theorem MI.conf_ {T : Nat} (h : MI B L R F X Y i out m) (hi : i ≤ B.length) (hs : (∃ x ∈ X, x.a0 = i) ∨ ∃ x ∈ Y, x.a0 = i) (h1 : i ≤ T) (h2 : Shut X Y i T) (h3 : ∀ N, i ≤ N → Shut X Y i N → T ≤ N)
    (hl : ∃ x ∈ X, i ≤ x.a0 ∧ x.a1 ≤ T) (hr : ∃ x ∈ Y, i ≤ x.a0 ∧ x.a1 ≤ T) (hne : partF B L T X i ≠ partF B R T Y i) : ∃ m', m'.conf = m.conf ++ [(i, T)] ∧ ∀ out', MI B L R F X Y (T + 1) out' m' := by
  obtain ⟨l, r, jl, jr, hrm⟩ := h.rm hi
  obtain ⟨m', k1, _, _, k4, _, _, k5, k6⟩ := hrm.group hs hi h1 h2 h3
  have e := k1 hl hr hne
  refine ⟨m', by rw [e], fun out' => ⟨?_, by rw [e]; have := h.dn; show m.done ≤ T + 1; omega, fun hc => by rw [e] at hc; simp at hc, by rw [e]; have := h.cf; show (m.conf ++ [(i, T)]).length ≤ T + 1; simp; omega⟩⟩
  rcases Nat.lt_or_ge T B.length with hlt | hge
  · exact .inl ⟨hlt, k5 hlt⟩
  · exact .inr ⟨by omega, k6 (by omega)⟩
theorem MI.join {T : Nat} {M : List ByteArray} (h : MI B L R F X Y i out m) (hi : i ≤ B.length) (hs : (∃ x ∈ X, x.a0 = i) ∨ ∃ x ∈ Y, x.a0 = i) (h1 : i ≤ T) (h2 : Shut X Y i T) (h3 : ∀ N, i ≤ N → Shut X Y i N → T ≤ N)
    (hM : ((∃ x ∈ X, i ≤ x.a0 ∧ x.a1 ≤ T) ∧ ((∃ x ∈ Y, i ≤ x.a0 ∧ x.a1 ≤ T) → partF B L T X i = partF B R T Y i) ∧ M = partF B L T X i) ∨ (¬ (∃ x ∈ X, i ≤ x.a0 ∧ x.a1 ≤ T) ∧ M = partF B R T Y i)) :
    ∃ m', m'.conf = m.conf ∧ ∀ out' : ByteArray, out'.data.toList = out.data.toList ++ cat M ++ cat (seg B T (T + 1)) → MI B L R F X Y (T + 1) out' m' := by
  obtain ⟨l, r, jl, jr, hrm⟩ := h.rm hi
  obtain ⟨m', _, k2, k3, k4, _, _, k5, k6⟩ := hrm.group hs hi h1 h2 h3
  have e : m' = ⟨m.merged ++ seg B m.done i ++ M, T, m.conf⟩ := by
    rcases hM with ⟨a1, a2, rfl⟩ | ⟨a1, rfl⟩
    · exact k2 a1 a2
    · exact k3 a1
  refine ⟨m', by rw [e], fun out' ho => ⟨?_, by rw [e]; exact Nat.le_succ T, fun hc => ?_, by rw [e]; have := h.cf; show m.conf.length ≤ T + 1; omega⟩⟩
  · rcases Nat.lt_or_ge T B.length with hlt | hge
    · exact .inl ⟨hlt, k5 hlt⟩
    · exact .inr ⟨by omega, k6 (by omega)⟩
  · rw [e] at hc
    rw [ho, e, h.tx hc]
    simp only [cat_app, List.append_assoc]
theorem MI.small {T : Nat} (h : MI B L R F X Y i out m) (hi : i ≤ B.length) (hs : (∃ x ∈ X, x.a0 = i) ∨ ∃ x ∈ Y, x.a0 = i) (h1 : i ≤ T) (h2 : Shut X Y i T) (h3 : ∀ N, i ≤ N → Shut X Y i N → T ≤ N) : T ≤ B.length ∧ (partF B L T X i).length ≤ L.length ∧ (partF B R T Y i).length ≤ R.length := by
  obtain ⟨l, r, jl, jr, hrm⟩ := h.rm hi
  obtain ⟨m', _, _, _, k4, k7, k8, _, _⟩ := hrm.group hs hi h1 h2 h3
  exact ⟨k4, k7, k8⟩
end
theorem below_q {w w' : World} {v : Bool} {e : Ending} (h : QBool w v e w') : BoolB w v e w' := bool_of h
theorem strs_out {w : World} {R : List ByteArray} {n f : Nat} {s : ByteArray} (h : Calls Try.prog f #[.string s] w (StrsOut w R)) (hn : R.length = n) : Calls Try.prog f #[.string s] w (ListOut w n R) := by
  subst hn
  refine h.mono ?_
  rintro e w' ⟨A, c, rfl, ho, hb⟩
  exact ⟨A, c, rfl, (Strs.own ho).2, hb⟩
theorem same_gen (A B : Option Addr) (a b : List ByteArray) (c d n m : Nat) (w : World) (hA : Strs w w.heap.size A c a) (hB : Strs w w.heap.size B d b) (hn : a.length = n) (hm : b.length = m) (h1 : n ≤ 1000) (h2 : m ≤ 1000) : Calls Try.prog 17 #[.slice A n c, .slice B m d] w (BoolB w (decide (a = b))) := by
  subst hn hm
  exact (same_any w.heap.size A B a b c d w hA hB (by omega) (by omega)).mono fun _ _ h => bool_of h
theorem sps_own {w : World} {B n : Nat} {v : Value} {L : List (Nat × Nat)} (ho : w.ownsRow B 55 2 v L.length (spsC L)) (hr : L.length = n) : ∃ A c, v = .slice A n c ∧ Sps w w.heap.size A c L := by
  subst hr
  obtain ⟨A, c, rfl⟩ : ∃ A c, v = .slice A L.length c := by
    rcases ho.2 with ⟨rfl, h0⟩ | ⟨g', cap, cur, rfl, _⟩
    · exact ⟨none, 0, by rw [h0]⟩
    · exact ⟨_, _, rfl⟩
  exact ⟨A, c, rfl, Row.own ho⟩
theorem span_snoc {w : World} {B : Nat} {v : Value} {L L' : List (Nat × Nat)} {h : Nat × Nat} (ho : w.ownsRow B 55 2 v (L.length + 1) (spsC L ++ spC h)) (e : L' = L ++ [h]) : w.ownsRow B 55 2 v L'.length (spsC L') := by
  subst e
  have e1 : (L ++ [h]).length = L.length + 1 := by simp
  have e2 : spsC (L ++ [h]) = spsC L ++ spC h := by unfold spsC; simp
  rw [e1, e2]
  exact ho

set_option maxRecDepth 100000 in
set_option maxHeartbeats 16000000 in
theorem refMerge_any (b l r : ByteArray) (w : World) (hb : b.size ≤ 150) (hl : l.size ≤ 150) (hr : r.size ≤ 150) : Calls Try.prog 30 #[.string b, .string l, .string r] w (MergeOut w (mergeS b l r)) := by
  obtain ⟨i55, hi5, hz0, hz1, hz2⟩ := info_parts info55
  unfold mergeS
  have zb := splitS_len b
  have zl := splitS_len l
  have zr := splitS_len r
  have sb := fun (n : Nat) (W : World) (hn : (splitS b).length = n) => strs_out (refSplit_any b W (by omega)) hn
  have sl := fun (n : Nat) (W : World) (hn : (splitS l).length = n) => strs_out (refSplit_any l W (by omega)) hn
  have sr := fun (n : Nat) (W : World) (hn : (splitS r).length = n) => strs_out (refSplit_any r W (by omega)) hn
  have mb : ∀ x ∈ splitS b, x.size ≤ 150 := fun x hx => by have := splitS_mem b x hx; omega
  have ml : ∀ x ∈ splitS l, x.size ≤ 150 := fun x hx => by have := splitS_mem l x hx; omega
  have mr : ∀ x ∈ splitS r, x.size ≤ 150 := fun x hx => by have := splitS_mem r x hx; omega
  obtain ⟨Bs, hBs⟩ : ∃ L, splitS b = L := ⟨_, rfl⟩
  obtain ⟨Ls, hLs⟩ : ∃ L, splitS l = L := ⟨_, rfl⟩
  obtain ⟨Rs, hRs⟩ : ∃ L, splitS r = L := ⟨_, rfl⟩
  rw [hBs] at zb sb mb ⊢
  rw [hLs] at zl sl ml ⊢
  rw [hRs] at zr sr mr ⊢
  have MB := Lib.hid mb
  have ML := Lib.hid ml
  have MR := Lib.hid mr
  clear mb ml mr
  clear hBs hLs hRs
  obtain ⟨n, hn⟩ : ∃ n, Bs.length = n := ⟨_, rfl⟩
  obtain ⟨m1, hm1⟩ : ∃ n, Ls.length = n := ⟨_, rfl⟩
  obtain ⟨m2, hm2⟩ : ∃ n, Rs.length = n := ⟨_, rfl⟩
  rw [hn] at zb
  rw [hm1] at zl
  rw [hm2] at zr
  have SB := Lib.hid (fun W => sb n W hn)
  have SL := Lib.hid (fun W => sl m1 W hm1)
  have SR := Lib.hid (fun W => sr m2 W hm2)
  have zx := diff_len Bs Ls
  have zy := diff_len Bs Rs
  obtain ⟨p, hp⟩ : ∃ p, (diff Bs Ls).length = p := ⟨_, rfl⟩
  obtain ⟨q, hq⟩ : ∃ q, (diff Bs Rs).length = q := ⟨_, rfl⟩
  rw [hp, hn] at zx
  rw [hq, hn] at zy
  have D1 := Lib.hid (fun (c d : Nat) (A B : Option Addr) (W : World) (hA : Strs W W.heap.size A c Bs) (hB : Strs W W.heap.size B d Ls) => refDiff_any A B Bs Ls n m1 c d p W hA hB hn hm1 (by omega) (by omega) hp)
  have D2 := Lib.hid (fun (c d : Nat) (A B : Option Addr) (W : World) (hA : Strs W W.heap.size A c Bs) (hB : Strs W W.heap.size B d Rs) => refDiff_any A B Bs Rs n m2 c d q W hA hB hn hm2 (by omega) (by omega) hq)
  have okx := diff_ok Bs Ls
  have oky := diff_ok Bs Rs
  have hst := rm_start Bs Ls Rs
  have hfin : mergeL Bs Ls Rs = if (mergeM Bs Ls Rs).conf.length = 0 then (cat ((mergeM Bs Ls Rs).merged ++ Bs.drop (mergeM Bs Ls Rs).done), []) else ([], (mergeM Bs Ls Rs).conf) := rfl
  obtain ⟨F, hF⟩ : ∃ F, mergeM Bs Ls Rs = F := ⟨_, rfl⟩
  obtain ⟨X, hX⟩ : ∃ X, diff Bs Ls = X := ⟨_, rfl⟩
  obtain ⟨Y, hY⟩ : ∃ Y, diff Bs Rs = Y := ⟨_, rfl⟩
  rw [hX, hY, hF] at hst
  rw [hF] at hfin
  rw [hX] at D1 okx hp
  rw [hY] at D2 oky hq
  have hxm := fun x hx => Ok.mem okx x hx
  have hym := fun x hx => Ok.mem oky x hx
  rw [hn, hm1] at hxm
  rw [hn, hm2] at hym
  have HXM := Lib.hid hxm
  have HYM := Lib.hid hym
  have HN := Lib.hid hn
  have HM1 := Lib.hid hm1
  have HM2 := Lib.hid hm2
  have HP := Lib.hid hp
  have HQ := Lib.hid hq
  have HFIN := Lib.hid hfin
  have hmi : MI Bs Ls Rs F X Y 0 ⟨#[]⟩ ⟨[], 0, []⟩ := ⟨.inl ⟨Nat.zero_le _, _, _, _, _, hst⟩, Nat.le_refl _, fun _ => by rw [seg_self]; rfl, Nat.le_refl _⟩
  have HMI0 := Lib.hid hmi
  have yn : n ≤ 151 := by omega
  have ym1 : m1 ≤ 151 := by omega
  have ym2 : m2 ≤ 151 := by omega
  have yp : p ≤ 152 := by omega
  have yq : q ≤ 152 := by omega
  clear zb zl zr zx zy
  clear sb sl sr hp hq hX hY hF okx oky hxm hym hn hm1 hm2 hfin hst hmi hb hl hr
  go_enter Try.func30, Try.ntmps30
  go_upto_region 9 with (first
    | (go_at_call 18; ((with_reducible refine (SB.out _).mono ?_); rintro e' w1 ⟨A1, k1, rfl, hS1, hb⟩); (have HB1 := Lib.hid hb))
    | (go_at_call 18; ((with_reducible refine (SL.out _).mono ?_); rintro e' w2 ⟨A2, k2, rfl, hS2, hb⟩); (have hS1 := strs_on hS1 hb); (have HB2 := Lib.hid (Below.then_ HB1.out hb)))
    | (go_at_call 18; ((with_reducible refine (SR.out _).mono ?_); rintro e' w3 ⟨A3, k3, rfl, hS3, hb⟩); (have hS1 := strs_on hS1 hb); (have hS2 := strs_on hS2 hb); (have HB3 := Lib.hid (Below.then_ HB2.out hb)))
    | (go_at_call 24; ((with_reducible refine (D1.out _ _ _ _ _ hS1 hS2).mono ?_); rintro e' w4 ⟨A4, k4, rfl, hH4, hb⟩); (have hS1 := strs_on hS1 hb); (have hS2 := strs_on hS2 hb); (have hS3 := strs_on hS3 hb); (have HB4 := Lib.hid (Below.then_ HB3.out hb)))
    | (go_at_call 24; ((with_reducible refine (D2.out _ _ _ _ _ hS1 hS3).mono ?_); rintro e' w5 ⟨A5, k5, rfl, hH5, hb⟩); (have hS1 := strs_on hS1 hb); (have hS2 := strs_on hS2 hb); (have hS3 := strs_on hS3 hb); (have hH4 := hks_on hH4 hb); (have HB5 := Lib.hid (Below.then_ HB4.out hb))))
  have kk1 := hS1.cap
  rw [HN.out] at kk1
  have HS1 := Lib.hid hS1
  have ST1 := Lib.hid (fun (i : Nat) (W : World) (hW : Below w5.heap.size w5 W) (hi : i ≤ 1000) => starts_any A4 X k4 p i W (Row.more (Row.below hH4 hW (Nat.le_refl _)) hW.size) HP.out (by omega) (by omega))
  have ST2 := Lib.hid (fun (i : Nat) (W : World) (hW : Below w5.heap.size w5 W) (hi : i ≤ 1000) => starts_any A5 Y k5 q i W (Row.more (Row.below hH5 hW (Nat.le_refl _)) hW.size) HQ.out (by omega) (by omega))
  have WI1 := Lib.hid (fun (i u : Nat) (W : World) (hW : Below w5.heap.size w5 W) (hi : i ≤ 1000) (hu : u ≤ 1000) => within_any A4 X k4 p i u W (Row.more (Row.below hH4 hW (Nat.le_refl _)) hW.size) HP.out (by omega) (by omega) (by omega))
  have WI2 := Lib.hid (fun (i u : Nat) (W : World) (hW : Below w5.heap.size w5 W) (hi : i ≤ 1000) (hu : u ≤ 1000) => within_any A5 Y k5 q i u W (Row.more (Row.below hH5 hW (Nat.le_refl _)) hW.size) HQ.out (by omega) (by omega) (by omega))
  have GR := Lib.hid (fun (i : Nat) (W : World) (hW : Below w5.heap.size w5 W) (hi : i ≤ n) => refGrow_any A4 A5 X Y k4 k5 p q i n W (Row.more (Row.below hH4 hW (Nat.le_refl _)) hW.size) (Row.more (Row.below hH5 hW (Nat.le_refl _)) hW.size) HP.out HQ.out (by omega) (by omega) hi (by omega) (fun x hx => (HXM.out x hx).1) (fun x hx => (HYM.out x hx).1))
  have PA1 := Lib.hid (fun (i u rr : Nat) (P : List ByteArray) (W : World) (hW : Below w5.heap.size w5 W) (h1 : i ≤ u) (h2 : u ≤ n) (hP : partF Bs Ls u X i = P) (hr : P.length = rr) (hr2 : rr ≤ 1000) => refPart_any A1 A2 A4 Bs Ls X n m1 p k1 k2 k4 i u rr P W (Row.more (Row.below hS1 hW (Nat.le_refl _)) hW.size) (Row.more (Row.below hS2 hW (Nat.le_refl _)) hW.size) (Row.more (Row.below hH4 hW (Nat.le_refl _)) hW.size) HN.out HM1.out HP.out (by omega) (by omega) (by omega) h1 h2 (fun x hx => ⟨(HXM.out x hx).2.2.2.1, (HXM.out x hx).2.2.2.2, (HXM.out x hx).2.1⟩) hP hr (by omega))
  have PA2 := Lib.hid (fun (i u rr : Nat) (P : List ByteArray) (W : World) (hW : Below w5.heap.size w5 W) (h1 : i ≤ u) (h2 : u ≤ n) (hP : partF Bs Rs u Y i = P) (hr : P.length = rr) (hr2 : rr ≤ 1000) => refPart_any A1 A3 A5 Bs Rs Y n m2 q k1 k3 k5 i u rr P W (Row.more (Row.below hS1 hW (Nat.le_refl _)) hW.size) (Row.more (Row.below hS3 hW (Nat.le_refl _)) hW.size) (Row.more (Row.below hH5 hW (Nat.le_refl _)) hW.size) HN.out HM2.out HQ.out (by omega) (by omega) (by omega) h1 h2 (fun x hx => ⟨(HYM.out x hx).2.2.2.1, (HYM.out x hx).2.2.2.2, (HYM.out x hx).2.1⟩) hP hr (by omega))
  clear hS1 hS2 hS3 hH4 hH5 hb HB1 HB2 HB3 HB4 SB SL SR D1 D2
  go_loopw [13, 14, 15] (fun v13 v14 v15 wr => ∃ (i : Nat) (out : ByteArray) (m : Ms ByteArray), i ≤ n + 1 ∧ v15 = .int .i64 (i : Int) ∧ v13 = .string out ∧ out.size ≤ 30000 * i ∧ Hid (MI Bs Ls Rs F X Y i out m) ∧ Hid (wr.ownsRow w5.heap.size 55 2 v14 m.conf.length (spsC m.conf)) ∧ Hid (Below w5.heap.size w5 wr)) (fun _ _ v15 _ => n + 1 - (intOf v15).toNat)
  case atStart => exact ⟨0, ⟨#[]⟩, _, Nat.zero_le _, rfl, rfl, Nat.le_refl _, HMI0, Lib.hid ⟨rfl, .inl ⟨rfl, rfl⟩⟩, Lib.hid (Below.refl _ _)⟩
  case round =>
    obtain ⟨i, out, m, hi, rfl, rfl, hos, HI, HO, HBW⟩ := hrel
    have hi0 : (0 : Int) ≤ (i : Int) := Int.natCast_nonneg _
    by_cases hin : i ≤ n
    · have n1 : (i : Int) ≤ (n : Int) := by omega
      have hline := fun (W : World) (hW : Below w5.heap.size w5 W) (k : Nat) (hk : k < Bs.length) => line_at HS1.out hW hk rfl
      have HLINE := Lib.hid hline
      clear hline
      go_upto_region 12 with (first
        | (go_at_call 48; ((with_reducible refine (ST1.out _ _ HBW.out (by omega)).mono ?_); rintro e' w6 ⟨I1, rfl, hI1, rfl⟩); (have HI1 := Lib.hid hI1))
        | (go_at_call 48; ((with_reducible refine (ST2.out _ _ HBW.out (by omega)).mono ?_); rintro e' w6 ⟨I2, rfl, hI2, rfl⟩); (have HI2 := Lib.hid hI2)))
      clear hI1 hI2
      have hcase : (I1 = false ∧ I2 = false) ∨ ((∃ x ∈ X, x.a0 = i) ∨ ∃ x ∈ Y, x.a0 = i) := by
        cases I1 with
        | true => exact .inr (.inl (HI1.out.1 rfl))
        | false =>
          cases I2 with
          | true => exact .inr (.inr (HI2.out.1 rfl))
          | false => exact .inl ⟨rfl, rfl⟩
      go_cut [52] (fun c wx => c = .bool (!I1 && !I2) ∧ wx = w6)
      case first =>
        cases I1 <;> cases I2
        all_goals
          go_wp2_with fail
          go_meet
          case rel => exact ⟨rfl, rfl⟩
      case rest =>
        obtain ⟨rfl, rfl⟩ := hcut
        have hin' : i ≤ Bs.length := by rw [HN.out]; exact hin
        rcases hcase with ⟨rfl, rfl⟩ | hs
        · have hX : ¬ ∃ x ∈ X, x.a0 = i := fun h => by have := HI1.out.2 h; cases this
          have hY : ¬ ∃ x ∈ Y, x.a0 = i := fun h => by have := HI2.out.2 h; cases this
          have hnx := HI.out.none_ hin' hX hY
          have HNX := Lib.hid hnx
          clear hnx hX hY HI1 HI2
          clear ST1 ST2 WI1 WI2 GR PA1 PA2 HXM HYM HFIN HM1 HM2 HP HQ ML MR HS1 HMI0 HB5
          by_cases h1 : i < n
          · have n2 : (i : Int) < (n : Int) := by omega
            have hiB : i < Bs.length := by rw [HN.out]; exact h1
            obtain ⟨ad1, rfl, cl⟩ := HLINE.out _ HBW.out i hiB
            obtain ⟨s, hsx⟩ : ∃ s, Bs[i] = s := ⟨_, rfl⟩
            rw [hsx] at cl
            have hss : s.size ≤ 150 := by rw [← hsx]; exact MB.out _ (List.getElem_mem hiB)
            have hos2 : out.size + s.size ≤ 30000 * (i + 1) := by omega
            have hfin := HNX.out (out ++ s) (by rw [app_data, seg_one Bs hiB, hsx]; simp [cat])
            have HFX := Lib.hid hfin
            clear hfin hsx hiB
            go_wp2_with fail
            go_roundw
            case rel => exact ⟨i + 1, out ++ s, m, by omega, by go_num, rfl, by rw [ByteArray.size_append]; exact hos2, HFX, HO, HBW⟩
            case measure => simp [intOf]; omega
          · have n2 : ¬ (i : Int) < (n : Int) := by omega
            have hfin := HNX.out out (by rw [seg_over Bs _ (by rw [HN.out]; omega)]; simp [cat])
            have HFX := Lib.hid hfin
            clear hfin
            go_wp2_with fail
            go_roundw
            case rel => exact ⟨i + 1, out, m, by omega, by go_num, rfl, by omega, HFX, HO, HBW⟩
            case measure => simp [intOf]; omega
        · have hnb : (!I1 && !I2) = false := by
            rcases hs with h | h
            · have := HI1.out.2 h; subst this; rfl
            · have := HI2.out.2 h; subst this; simp
          rw [hnb]
          clear HI1 HI2
          go_upto_region 17 with (go_at_call 49; ((with_reducible refine (GR.out _ _ HBW.out hin).mono ?_); rintro e' w7 ⟨T, rfl, hT1, hT2, hT3, hb⟩); (have HB7 := Lib.hid (Below.then_ HBW.out hb)); (have HO7 := Lib.hid (own_keep HO.out hb)))
          obtain ⟨t1, t2, t3⟩ := HI.out.small hin' hs hT1 hT2 hT3
          rw [HN.out] at t1
          rw [HM1.out] at t2
          rw [HM2.out] at t3
          obtain ⟨P1, hP1⟩ : ∃ P, partF Bs Ls T X i = P := ⟨_, rfl⟩
          obtain ⟨P2, hP2⟩ : ∃ P, partF Bs Rs T Y i = P := ⟨_, rfl⟩
          have zP1 : ∀ x ∈ P1, x.size ≤ 150 := fun x hx => by rw [← hP1] at hx; exact (part_mem _ _ _ _ _ x hx).elim (MB.out x) (ML.out x)
          have zP2 : ∀ x ∈ P2, x.size ≤ 150 := fun x hx => by rw [← hP2] at hx; exact (part_mem _ _ _ _ _ x hx).elim (MB.out x) (MR.out x)
          have HZP1 := Lib.hid zP1
          have HZP2 := Lib.hid zP2
          clear zP1 zP2
          rw [hP1] at t2
          rw [hP2] at t3
          obtain ⟨r1, hr1⟩ : ∃ r, P1.length = r := ⟨_, rfl⟩
          obtain ⟨r2, hr2⟩ : ∃ r, P2.length = r := ⟨_, rfl⟩
          rw [hr1] at t2
          rw [hr2] at t3
          have Q1 := Lib.hid (fun (W : World) (hW : Below w5.heap.size w5 W) => PA1.out i T r1 P1 W hW hT1 t1 hP1 hr1 (by omega))
          have Q2 := Lib.hid (fun (W : World) (hW : Below w5.heap.size w5 W) => PA2.out i T r2 P2 W hW hT1 t1 hP2 hr2 (by omega))
          have J1 := Lib.hid (fun (W : World) (hW : Below w5.heap.size w5 W) => WI1.out i T W hW (by omega) (by omega))
          have J2 := Lib.hid (fun (W : World) (hW : Below w5.heap.size w5 W) => WI2.out i T W hW (by omega) (by omega))
          have SQ := Lib.hid (fun (A B : Option Addr) (c d : Nat) (W : World) (hA : Strs W W.heap.size A c P1) (hB : Strs W W.heap.size B d P2) => same_gen A B P1 P2 c d r1 r2 W hA hB hr1 hr2 (by omega) (by omega))
          have Hr1 := Lib.hid hr1
          have Hr2 := Lib.hid hr2
          clear hr1 hr2 hb
          go_upto_region 22 with (first
            | (go_at_call 50; ((with_reducible refine (Q1.out _ HB7.out).mono ?_); rintro e' w8 ⟨A8, k8, rfl, hS8, hb⟩); (have HB8 := Lib.hid (Below.then_ HB7.out hb)); (have HO8 := Lib.hid (own_keep HO7.out hb)))
            | (go_at_call 50; ((with_reducible refine (Q2.out _ HB8.out).mono ?_); rintro e' w9 ⟨A9, k9, rfl, hS9, hb⟩); (have hS8 := own_keep hS8 hb); (have HB9 := Lib.hid (Below.then_ HB8.out hb)); (have HO9 := Lib.hid (own_keep HO8.out hb)))
            | (go_at_call 51; ((with_reducible refine (J1.out _ HB9.out).mono ?_); rintro e' wz ⟨IL, rfl, hIL, rfl⟩); (have HIL := Lib.hid hIL))
            | (go_at_call 51; ((with_reducible refine (J2.out _ HB9.out).mono ?_); rintro e' wz ⟨IR, rfl, hIR, rfl⟩); (have HIR := Lib.hid hIR))
            | (go_at_call 17; ((with_reducible refine (SQ.out _ _ _ _ _ (Strs.own hS8).2 (Strs.own hS9).2).mono ?_); rintro e' wB ⟨rfl, hb⟩); (have hS8 := own_keep hS8 hb); (have hS9 := own_keep hS9 hb); (have HBB := Lib.hid (Below.then_ HB9.out hb)); (have HOB := Lib.hid (own_keep HO9.out hb))))
          have HS8 := Lib.hid hS8
          have hS8 := Lib.hid (Strs.own hS8).2
          have hS9 := Lib.hid (Strs.own hS9).2
          clear hb hIL hIR
          cases IL with
          | false =>
            clear HIR
            obtain ⟨m', hc, hj⟩ := HI.out.join (M := P2) hin' hs hT1 hT2 hT3 (.inr ⟨fun h => (by have := HIL.out.2 h; cases this), hP2.symm⟩)
            have HJ := Lib.hid hj
            have HOm : Hid (wB.ownsRow w5.heap.size 55 2 u14 m'.conf.length (spsC m'.conf)) := Lib.hid (by rw [hc]; exact HOB.out)
            have HBm := HBB
            clear hc hj
            clear ST1 ST2 WI1 WI2 GR PA1 PA2 Q1 Q2 J1 J2 SQ HXM HYM HFIN HM1 HM2 HP HQ ML MR HS1 HMI0 HB5 hP1 hP2
            go_wp2_with fail
            go_loopw [13, 24] (fun v13 v24 wx => ∃ (k : Nat) (o2 : ByteArray), k ≤ r2 ∧ v24 = .int .i64 (k : Int) ∧ v13 = .string o2 ∧ Hid (o2.data.toList = out.data.toList ++ cat (P2.take k)) ∧ o2.size ≤ out.size + 150 * k ∧ wx = wB) (fun _ v24 _ => r2 - (intOf v24).toNat)
            case atStart => exact ⟨0, out, Nat.zero_le _, rfl, rfl, Lib.hid (by simp [cat]), Nat.le_refl _, rfl⟩
            case round =>
              obtain ⟨k, o2, hk, rfl, rfl, HTx, ho2, rfl⟩ := hrel
              have hk0 : (0 : Int) ≤ (k : Int) := Int.natCast_nonneg _
              by_cases hlt : k < r2
              · have hk1 : (k : Int) < (r2 : Int) := by omega
                have hkl : k < P2.length := by rw [Hr2.out]; exact hlt
                obtain ⟨ad2, rfl, -, cl⟩ := hS9.out.at_ (k := k) hkl
                obtain ⟨s, hsx⟩ : ∃ s, P2[k] = s := ⟨_, rfl⟩
                rw [hsx] at cl
                have hss : s.size ≤ 150 := by rw [← hsx]; exact HZP2.out _ (List.getElem_mem hkl)
                have ho3 : o2.size + s.size ≤ out.size + 150 * (k + 1) := by omega
                have HTy : Hid ((o2 ++ s).data.toList = out.data.toList ++ cat (P2.take (k + 1))) := Lib.hid (by rw [app_data, HTx.out, cat_take hkl, hsx, List.append_assoc])
                clear hsx hkl
                go_wp2_with fail
                go_roundw
                case rel => exact ⟨k + 1, o2 ++ s, by omega, by go_num, rfl, HTy, by rw [ByteArray.size_append]; exact ho3, trivial⟩
                case measure => simp [intOf]; omega
              · obtain rfl : k = r2 := by omega
                have hT0 : (0 : Int) ≤ (T : Int) := Int.natCast_nonneg _
                have hTx := HTx.out
                rw [List.take_of_length_le (Nat.le_of_eq Hr2.out)] at hTx
                have HTz := Lib.hid hTx
                clear hTx
                by_cases hTn : T < n
                · have n5 : (T : Int) < (n : Int) := by omega
                  have hTB : T < Bs.length := by rw [HN.out]; exact hTn
                  obtain ⟨ad3, rfl, cl⟩ := HLINE.out _ HBm.out T hTB
                  obtain ⟨s, hsx⟩ : ∃ s, Bs[T] = s := ⟨_, rfl⟩
                  rw [hsx] at cl
                  have hss : s.size ≤ 150 := by rw [← hsx]; exact MB.out _ (List.getElem_mem hTB)
                  have ho3 : o2.size + s.size ≤ 30000 * (T + 1) := by omega
                  have hfin := HJ.out (o2 ++ s) (by rw [app_data, HTz.out, seg_one Bs hTB, hsx]; simp [cat])
                  have HFX := Lib.hid hfin
                  clear hfin hsx hTB
                  go_wp2_with fail
                  go_roundw
                  case rel => exact ⟨T + 1, o2 ++ s, m', by omega, by go_num, rfl, by rw [ByteArray.size_append]; exact ho3, HFX, HOm, HBm⟩
                  case measure => simp [intOf]; omega
                · have n5 : ¬ (T : Int) < (n : Int) := by omega
                  have hfin := HJ.out o2 (by rw [HTz.out, seg_over Bs _ (by rw [HN.out]; omega)]; simp [cat])
                  have HFX := Lib.hid hfin
                  clear hfin
                  go_wp2_with fail
                  go_roundw
                  case rel => exact ⟨T + 1, o2, m', by omega, by go_num, rfl, by omega, HFX, HOm, HBm⟩
                  case measure => simp [intOf]; omega
          | true =>
            cases IR with
            | false =>
              obtain ⟨m', hc, hj⟩ := HI.out.join (M := P1) hin' hs hT1 hT2 hT3 (.inl ⟨HIL.out.1 rfl, fun h => (by have := HIR.out.2 h; cases this), hP1.symm⟩)
              have HJ := Lib.hid hj
              have HOm : Hid (wB.ownsRow w5.heap.size 55 2 u14 m'.conf.length (spsC m'.conf)) := Lib.hid (by rw [hc]; exact HOB.out)
              have HBm := HBB
              clear hc hj
              clear ST1 ST2 WI1 WI2 GR PA1 PA2 Q1 Q2 J1 J2 SQ HXM HYM HFIN HM1 HM2 HP HQ ML MR HS1 HMI0 HB5 hP1 hP2
              go_wp2_with fail
              go_loopw [13, 24] (fun v13 v24 wx => ∃ (k : Nat) (o2 : ByteArray), k ≤ r1 ∧ v24 = .int .i64 (k : Int) ∧ v13 = .string o2 ∧ Hid (o2.data.toList = out.data.toList ++ cat (P1.take k)) ∧ o2.size ≤ out.size + 150 * k ∧ wx = wB) (fun _ v24 _ => r1 - (intOf v24).toNat)
              case atStart => exact ⟨0, out, Nat.zero_le _, rfl, rfl, Lib.hid (by simp [cat]), Nat.le_refl _, rfl⟩
              case round =>
                obtain ⟨k, o2, hk, rfl, rfl, HTx, ho2, rfl⟩ := hrel
                have hk0 : (0 : Int) ≤ (k : Int) := Int.natCast_nonneg _
                by_cases hlt : k < r1
                · have hk1 : (k : Int) < (r1 : Int) := by omega
                  have hkl : k < P1.length := by rw [Hr1.out]; exact hlt
                  obtain ⟨ad2, rfl, -, cl⟩ := hS8.out.at_ (k := k) hkl
                  obtain ⟨s, hsx⟩ : ∃ s, P1[k] = s := ⟨_, rfl⟩
                  rw [hsx] at cl
                  have hss : s.size ≤ 150 := by rw [← hsx]; exact HZP1.out _ (List.getElem_mem hkl)
                  have ho3 : o2.size + s.size ≤ out.size + 150 * (k + 1) := by omega
                  have HTy : Hid ((o2 ++ s).data.toList = out.data.toList ++ cat (P1.take (k + 1))) := Lib.hid (by rw [app_data, HTx.out, cat_take hkl, hsx, List.append_assoc])
                  clear hsx hkl
                  go_wp2_with fail
                  go_roundw
                  case rel => exact ⟨k + 1, o2 ++ s, by omega, by go_num, rfl, HTy, by rw [ByteArray.size_append]; exact ho3, trivial⟩
                  case measure => simp [intOf]; omega
                · obtain rfl : k = r1 := by omega
                  have hT0 : (0 : Int) ≤ (T : Int) := Int.natCast_nonneg _
                  have hTx := HTx.out
                  rw [List.take_of_length_le (Nat.le_of_eq Hr1.out)] at hTx
                  have HTz := Lib.hid hTx
                  clear hTx
                  by_cases hTn : T < n
                  · have n5 : (T : Int) < (n : Int) := by omega
                    have hTB : T < Bs.length := by rw [HN.out]; exact hTn
                    obtain ⟨ad3, rfl, cl⟩ := HLINE.out _ HBm.out T hTB
                    obtain ⟨s, hsx⟩ : ∃ s, Bs[T] = s := ⟨_, rfl⟩
                    rw [hsx] at cl
                    have hss : s.size ≤ 150 := by rw [← hsx]; exact MB.out _ (List.getElem_mem hTB)
                    have ho3 : o2.size + s.size ≤ 30000 * (T + 1) := by omega
                    have hfin := HJ.out (o2 ++ s) (by rw [app_data, HTz.out, seg_one Bs hTB, hsx]; simp [cat])
                    have HFX := Lib.hid hfin
                    clear hfin hsx hTB
                    go_wp2_with fail
                    go_roundw
                    case rel => exact ⟨T + 1, o2 ++ s, m', by omega, by go_num, rfl, by rw [ByteArray.size_append]; exact ho3, HFX, HOm, HBm⟩
                    case measure => simp [intOf]; omega
                  · have n5 : ¬ (T : Int) < (n : Int) := by omega
                    have hfin := HJ.out o2 (by rw [HTz.out, seg_over Bs _ (by rw [HN.out]; omega)]; simp [cat])
                    have HFX := Lib.hid hfin
                    clear hfin
                    go_wp2_with fail
                    go_roundw
                    case rel => exact ⟨T + 1, o2, m', by omega, by go_num, rfl, by omega, HFX, HOm, HBm⟩
                    case measure => simp [intOf]; omega
            | true =>
              by_cases hpp : P1 = P2
              · have dpp : decide (P1 = P2) = true := by simpa using hpp
                rw [dpp]
                obtain ⟨m', hc, hj⟩ := HI.out.join (M := P1) hin' hs hT1 hT2 hT3 (.inl ⟨HIL.out.1 rfl, fun _ => (by rw [hP1, hP2]; exact hpp), hP1.symm⟩)
                have HJ := Lib.hid hj
                have HOm : Hid (wB.ownsRow w5.heap.size 55 2 u14 m'.conf.length (spsC m'.conf)) := Lib.hid (by rw [hc]; exact HOB.out)
                have HBm := HBB
                clear hc hj
                clear ST1 ST2 WI1 WI2 GR PA1 PA2 Q1 Q2 J1 J2 SQ HXM HYM HFIN HM1 HM2 HP HQ ML MR HS1 HMI0 HB5 hP1 hP2
                go_wp2_with fail
                go_loopw [13, 24] (fun v13 v24 wx => ∃ (k : Nat) (o2 : ByteArray), k ≤ r1 ∧ v24 = .int .i64 (k : Int) ∧ v13 = .string o2 ∧ Hid (o2.data.toList = out.data.toList ++ cat (P1.take k)) ∧ o2.size ≤ out.size + 150 * k ∧ wx = wB) (fun _ v24 _ => r1 - (intOf v24).toNat)
                case atStart => exact ⟨0, out, Nat.zero_le _, rfl, rfl, Lib.hid (by simp [cat]), Nat.le_refl _, rfl⟩
                case round =>
                  obtain ⟨k, o2, hk, rfl, rfl, HTx, ho2, rfl⟩ := hrel
                  have hk0 : (0 : Int) ≤ (k : Int) := Int.natCast_nonneg _
                  by_cases hlt : k < r1
                  · have hk1 : (k : Int) < (r1 : Int) := by omega
                    have hkl : k < P1.length := by rw [Hr1.out]; exact hlt
                    obtain ⟨ad2, rfl, -, cl⟩ := hS8.out.at_ (k := k) hkl
                    obtain ⟨s, hsx⟩ : ∃ s, P1[k] = s := ⟨_, rfl⟩
                    rw [hsx] at cl
                    have hss : s.size ≤ 150 := by rw [← hsx]; exact HZP1.out _ (List.getElem_mem hkl)
                    have ho3 : o2.size + s.size ≤ out.size + 150 * (k + 1) := by omega
                    have HTy : Hid ((o2 ++ s).data.toList = out.data.toList ++ cat (P1.take (k + 1))) := Lib.hid (by rw [app_data, HTx.out, cat_take hkl, hsx, List.append_assoc])
                    clear hsx hkl
                    go_wp2_with fail
                    go_roundw
                    case rel => exact ⟨k + 1, o2 ++ s, by omega, by go_num, rfl, HTy, by rw [ByteArray.size_append]; exact ho3, trivial⟩
                    case measure => simp [intOf]; omega
                  · obtain rfl : k = r1 := by omega
                    have hT0 : (0 : Int) ≤ (T : Int) := Int.natCast_nonneg _
                    have hTx := HTx.out
                    rw [List.take_of_length_le (Nat.le_of_eq Hr1.out)] at hTx
                    have HTz := Lib.hid hTx
                    clear hTx
                    by_cases hTn : T < n
                    · have n5 : (T : Int) < (n : Int) := by omega
                      have hTB : T < Bs.length := by rw [HN.out]; exact hTn
                      obtain ⟨ad3, rfl, cl⟩ := HLINE.out _ HBm.out T hTB
                      obtain ⟨s, hsx⟩ : ∃ s, Bs[T] = s := ⟨_, rfl⟩
                      rw [hsx] at cl
                      have hss : s.size ≤ 150 := by rw [← hsx]; exact MB.out _ (List.getElem_mem hTB)
                      have ho3 : o2.size + s.size ≤ 30000 * (T + 1) := by omega
                      have hfin := HJ.out (o2 ++ s) (by rw [app_data, HTz.out, seg_one Bs hTB, hsx]; simp [cat])
                      have HFX := Lib.hid hfin
                      clear hfin hsx hTB
                      go_wp2_with fail
                      go_roundw
                      case rel => exact ⟨T + 1, o2 ++ s, m', by omega, by go_num, rfl, by rw [ByteArray.size_append]; exact ho3, HFX, HOm, HBm⟩
                      case measure => simp [intOf]; omega
                    · have n5 : ¬ (T : Int) < (n : Int) := by omega
                      have hfin := HJ.out o2 (by rw [HTz.out, seg_over Bs _ (by rw [HN.out]; omega)]; simp [cat])
                      have HFX := Lib.hid hfin
                      clear hfin
                      go_wp2_with fail
                      go_roundw
                      case rel => exact ⟨T + 1, o2, m', by omega, by go_num, rfl, by omega, HFX, HOm, HBm⟩
                      case measure => simp [intOf]; omega
              · have dpp : decide (P1 = P2) = false := decide_eq_false hpp
                rw [dpp]
                obtain ⟨m', hc, hj⟩ := HI.out.conf_ hin' hs hT1 hT2 hT3 (HIL.out.1 rfl) (HIR.out.1 rfl) (by rw [hP1, hP2]; exact hpp)
                have HJ : Hid (∀ out' : ByteArray, out'.data.toList = out.data.toList ++ cat P1 ++ cat (seg Bs T (T + 1)) → MI Bs Ls Rs F X Y (T + 1) out' m') := Lib.hid (fun out' _ => hj out')
                have HC := Lib.hid hc
                have hcf := HI.out.cf
                have HBB2 := HBB.out.size
                clear hc hj
                go_upto_region 24 with (at_builtin; refine wpList_append_own_at _ rfl _ _ 46 rfl w5.heap.size 55 i55 _ 2 16 Try.underlying46 hi5 hz0 hz1 hz2 rfl (by decide) u14 m.conf.length (spsC m.conf) rfl (HOB.out.alloc _) ⟨wB.heap.size, 0, none⟩ 1 1 (spC (i, T)) (by rfl) (by rfl) (World.news_of_block (cs := (spC (i, T)).toArray) (t := 55) (fr := (0, 0)) (heap_alloc_new wB _)) (by simp [Value.oneCell', spC]) (by unfold maxLen; omega) (by omega) (by simp; omega) ?_; intro v5 wE ho5 hg5 hn5 hat5)
                have HOm : Hid (wE.ownsRow w5.heap.size 55 2 v5 m'.conf.length (spsC m'.conf)) := Lib.hid (span_snoc ho5 HC.out)
                have hS8 := Lib.hid (Strs.own ((HS8.out.alloc (.cells (spC (i, T)).toArray 55)).kept hg5 (rows_ne HS8.out HOB.out (by decide)))).2
                have HBm : Hid (Below w5.heap.size w5 wE) := Lib.hid (HBB.out.alloc HBB.out.size (.cells (spC (i, T)).toArray 55) |>.grown hg5 (by simp; omega) (row_ge HOB.out))
                clear ho5 hg5 hn5 hat5
                clear ST1 ST2 WI1 WI2 GR PA1 PA2 Q1 Q2 J1 J2 SQ HXM HYM HFIN HM1 HM2 HP HQ ML MR HS1 HMI0 HB5 hP1 hP2
                go_wp2_with fail
                go_loopw [13, 24] (fun v13 v24 wx => ∃ (k : Nat) (o2 : ByteArray), k ≤ r1 ∧ v24 = .int .i64 (k : Int) ∧ v13 = .string o2 ∧ Hid (o2.data.toList = out.data.toList ++ cat (P1.take k)) ∧ o2.size ≤ out.size + 150 * k ∧ wx = wE) (fun _ v24 _ => r1 - (intOf v24).toNat)
                case atStart => exact ⟨0, out, Nat.zero_le _, rfl, rfl, Lib.hid (by simp [cat]), Nat.le_refl _, rfl⟩
                case round =>
                  obtain ⟨k, o2, hk, rfl, rfl, HTx, ho2, rfl⟩ := hrel
                  have hk0 : (0 : Int) ≤ (k : Int) := Int.natCast_nonneg _
                  by_cases hlt : k < r1
                  · have hk1 : (k : Int) < (r1 : Int) := by omega
                    have hkl : k < P1.length := by rw [Hr1.out]; exact hlt
                    obtain ⟨ad2, rfl, -, cl⟩ := hS8.out.at_ (k := k) hkl
                    obtain ⟨s, hsx⟩ : ∃ s, P1[k] = s := ⟨_, rfl⟩
                    rw [hsx] at cl
                    have hss : s.size ≤ 150 := by rw [← hsx]; exact HZP1.out _ (List.getElem_mem hkl)
                    have ho3 : o2.size + s.size ≤ out.size + 150 * (k + 1) := by omega
                    have HTy : Hid ((o2 ++ s).data.toList = out.data.toList ++ cat (P1.take (k + 1))) := Lib.hid (by rw [app_data, HTx.out, cat_take hkl, hsx, List.append_assoc])
                    clear hsx hkl
                    go_wp2_with fail
                    go_roundw
                    case rel => exact ⟨k + 1, o2 ++ s, by omega, by go_num, rfl, HTy, by rw [ByteArray.size_append]; exact ho3, trivial⟩
                    case measure => simp [intOf]; omega
                  · obtain rfl : k = r1 := by omega
                    have hT0 : (0 : Int) ≤ (T : Int) := Int.natCast_nonneg _
                    have hTx := HTx.out
                    rw [List.take_of_length_le (Nat.le_of_eq Hr1.out)] at hTx
                    have HTz := Lib.hid hTx
                    clear hTx
                    by_cases hTn : T < n
                    · have n5 : (T : Int) < (n : Int) := by omega
                      have hTB : T < Bs.length := by rw [HN.out]; exact hTn
                      obtain ⟨ad3, rfl, cl⟩ := HLINE.out _ HBm.out T hTB
                      obtain ⟨s, hsx⟩ : ∃ s, Bs[T] = s := ⟨_, rfl⟩
                      rw [hsx] at cl
                      have hss : s.size ≤ 150 := by rw [← hsx]; exact MB.out _ (List.getElem_mem hTB)
                      have ho3 : o2.size + s.size ≤ 30000 * (T + 1) := by omega
                      have hfin := HJ.out (o2 ++ s) (by rw [app_data, HTz.out, seg_one Bs hTB, hsx]; simp [cat])
                      have HFX := Lib.hid hfin
                      clear hfin hsx hTB
                      go_wp2_with fail
                      go_roundw
                      case rel => exact ⟨T + 1, o2 ++ s, m', by omega, by go_num, rfl, by rw [ByteArray.size_append]; exact ho3, HFX, HOm, HBm⟩
                      case measure => simp [intOf]; omega
                    · have n5 : ¬ (T : Int) < (n : Int) := by omega
                      have hfin := HJ.out o2 (by rw [HTz.out, seg_over Bs _ (by rw [HN.out]; omega)]; simp [cat])
                      have HFX := Lib.hid hfin
                      clear hfin
                      go_wp2_with fail
                      go_roundw
                      case rel => exact ⟨T + 1, o2, m', by omega, by go_num, rfl, by omega, HFX, HOm, HBm⟩
                      case measure => simp [intOf]; omega
    · have hie : i = n + 1 := by omega
      have n1 : ¬ (i : Int) ≤ (n : Int) := by omega
      have n2 : decide ((i : Int) ≤ (n : Int)) = false := decide_eq_false n1
      have hFm : F = m := by
        rcases HI.out.st with ⟨h, _⟩ | ⟨_, h⟩
        · have := HN.out; omega
        · exact h
      have hfi := HFIN.out
      rw [hFm] at hfi
      by_cases hc : m.conf = []
      · have htx := HI.out.tx hc
        rw [seg_end Bs (by rw [HN.out]; omega)] at htx
        have hres : mergeL Bs Ls Rs = (out.data.toList, []) := by rw [hfi, if_pos (by rw [hc]; rfl), htx]
        obtain ⟨A6, c6, rfl, hS6⟩ := sps_own (n := 0) HO.out (by rw [hc]; rfl)
        have HRES := Lib.hid hres
        clear hfi htx hres hc hFm hS6 hie hos
        clear ST1 ST2 WI1 WI2 GR PA1 PA2 HXM HYM HFIN HM1 HM2 HP HQ MB ML MR HS1 HMI0
        go_wp2_with fail
        go_ret2
        rw [HRES.out]
        refine ⟨none, 0, ?_, Row.empty _ _ _, Below.then_ HB5.out HBW.out⟩
        show _ = Ending.returned (.tuple #[.string (str out.data.toList), .slice none 0 0])
        rw [show str out.data.toList = out from (str_eq rfl).symm]
        rfl
      · obtain ⟨z, hz⟩ : ∃ z, m.conf.length = z := ⟨_, rfl⟩
        have hz0 : ¬ m.conf.length = 0 := fun e => hc (List.eq_nil_of_length_eq_zero e)
        have n3 : (0 : Int) < (z : Int) := by omega
        have hres : mergeL Bs Ls Rs = ([], m.conf) := by rw [hfi, if_neg hz0]
        obtain ⟨A6, c6, rfl, hS6⟩ := sps_own (n := z) HO.out hz
        have HRES := Lib.hid hres
        have HZ := Lib.hid hz
        have HS6 := Lib.hid hS6
        clear hfi hres hc hFm hS6 hie hos hz hz0
        clear ST1 ST2 WI1 WI2 GR PA1 PA2 HXM HYM HFIN HM1 HM2 HP HQ MB ML MR HS1 HMI0
        go_wp2_with fail
        go_ret2
        rw [HRES.out]
        refine ⟨A6, c6, ?_, HS6.out, Below.then_ HB5.out HBW.out⟩
        show _ = Ending.returned (.tuple #[.string (str []), .slice A6 m.conf.length c6])
        rw [HZ.out]
        rfl
end Go.Proofs.Ytmeoannheomdoaa
