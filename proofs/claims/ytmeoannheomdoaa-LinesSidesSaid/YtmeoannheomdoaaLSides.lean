/- LinesSides: merging with an unchanged side yields the other one, equal sides yield that, and exchanging the sides changes nothing. For all arguments. -/
import Derived.Test.YtmeoannheomdoaaChanged2
import Derived.Test.YtmeoannheomdoaaSidesMath
import Derived.Test.YtmeoannheomdoaaLists
import Derived.Test.YtmeoannheomdoaaSane
namespace Go.Proofs.Ytmeoannheomdoaa.lsides
open Go.ChangeShapes Go.WideShapes Go.ChangeAt Go.RowKit

theorem splitAcc_join : ∀ (l cur : List UInt8), (splitAcc cur l).flatten = cur ++ l
  | [], cur => by unfold splitAcc; split <;> simp_all
  | c :: t, cur => by
    unfold splitAcc
    split
    · rw [List.flatten_cons, splitAcc_join t []]; simp
    · rw [splitAcc_join t (cur ++ [c])]; simp
theorem cat_split (s : ByteArray) : str (cat (splitS s)) = s := by
  have h : cat (splitS s) = s.data.toList := by
    unfold cat splitS splitL
    rw [List.flatMap_def, List.map_map]
    have : (fun x : ByteArray => x.data.toList) ∘ str = id := rfl
    rw [this, List.map_id, splitAcc_join]
    rfl
  rw [h]
  exact (str_eq rfl).symm
theorem sps_on {w w' : World} {A : Option Addr} {c : Nat} {L : List (Nat × Nat)} (h : Sps w w.heap.size A c L) (hb : Below w.heap.size w w') : Sps w' w'.heap.size A c L := Row.on h hb
theorem listL_short (zs : List Int) : Shorts (listL zs) ∧ (listL zs).length ≤ 40 := by
  unfold listL
  refine ⟨fun x hx => ?_, by simp; omega⟩
  obtain ⟨z, _, rfl⟩ := List.mem_map.1 hx
  rw [lineI_size]
  exact Nat.le_refl _
theorem text_short {L : List ByteArray} (h : Shorts L) (hl : L.length ≤ 46) (cut : Bool) : (cat L).length ≤ 92 ∧ (textS L cut).size ≤ 92 := by
  have h1 := cat_len 2 L h
  have h2 : (cat L).length ≤ 92 := by omega
  refine ⟨h2, ?_⟩
  unfold textS
  split
  · have : (str (cat L)).size = (cat L).length := rfl
    simp
    omega
  · exact h2
theorem text_at {B : Nat} (A : Option Addr) (c : Nat) {L : List ByteArray} (n : Nat) (cut : Bool) (w : World) (hA : Strs w B A c L) (hn : L.length = n) (hs : Shorts L) (hn2 : n ≤ 46) :
    Calls Try.prog 19 #[.slice A n c, .bool cut] w fun e w' => e = .returned (.string (textS L cut)) ∧ w = w' := by
  subst hn
  have := text_short hs hn2 cut
  exact text_any B A L c cut w hA (by omega) (by omega)
def ListOut (w : World) (n : Nat) (L : List ByteArray) (e : Ending) (w' : World) : Prop := ∃ A c, e = .returned (.slice A n c) ∧ Strs w' w'.heap.size A c L ∧ Below w.heap.size w w'
theorem list_at (B : Nat) (A : Option Addr) (zs : List Int) (c p n : Nat) (w : World) (hA : Ints w B A c zs) (hB : B ≤ w.heap.size) (hp : zs.length = p) (hn : (listL zs).length = n) (hm : p ≤ maxLen) : Calls Try.prog 20 #[.slice A p c] w (ListOut w n (listL zs)) := by
  subst hp hn
  refine (list_any B A zs c w hA hB hm).mono ?_
  rintro e w' ⟨A', c', rfl, ho, hb⟩
  exact ⟨A', c', rfl, (Strs.own ho).2, hb⟩
theorem merge_txt {b l r T : ByteArray} {w : World} {R : List UInt8} (hT : str R = T) (h1 : b.size ≤ 92) (h2 : l.size ≤ 92) (h3 : r.size ≤ 92) (h : mergeS b l r = (R, [])) : Calls Try.prog 29 #[.string b, .string l, .string r] w (MergeOut2 w T 0 []) := by
  subst hT
  have := merge_any b l r w (by omega) (by omega) (by omega)
  rw [h] at this
  exact this
theorem merge_some {b l r : ByteArray} {w : World} {U : List UInt8} {C : List (Nat × Nat)} {T : ByteArray} {n : Nat} (h1 : b.size ≤ 92) (h2 : l.size ≤ 92) (h3 : r.size ≤ 92) (h : mergeS b l r = (U, C)) (hT : str U = T) (hn : C.length = n) : Calls Try.prog 29 #[.string b, .string l, .string r] w (MergeOut2 w T n C) := by
  subst hT hn
  have := merge_any b l r w (by omega) (by omega) (by omega)
  rw [h] at this
  exact this
theorem conf_le (base left right : List ByteArray) : (mergeM base left right).conf.length ≤ (diff base left).length + (diff base right).length := by
  have h1 := diff_ok base left
  have h2 := diff_ok base right
  unfold mergeM
  generalize diff base left = l at h1 ⊢
  generalize diff base right = r at h2 ⊢
  have hg := gps_ok base.length left.length right.length (l.length + r.length) 0 0 0 l r (Nat.le_refl _) h1 h2
  have hl := gps_len (l.length + r.length) l r
  generalize gps (l.length + r.length) l r = T at hg hl ⊢
  obtain ⟨_, _, _, _, _, k3⟩ := merge_at (base := base) (left := left) (right := right) T 0 0 0 ⟨[], 0, []⟩ hg ⟨Nat.le_refl _, by simp⟩ T.length (Nat.le_refl _)
  rw [List.take_length] at k3
  have k4 : ([] : List (Nat × Nat)).length = 0 := rfl
  dsimp only at k3
  omega
theorem conf_len (base left right : ByteArray) (h1 : base.size ≤ 92) : (mergeS base left right).2.length ≤ 1000 := by
  have hc := conf_le (splitS base) (splitS left) (splitS right)
  have d1 := diff_len (splitS base) (splitS left)
  have d2 := diff_len (splitS base) (splitS right)
  have s1 := splitS_len base
  have hm : (mergeM (splitS base) (splitS left) (splitS right)).conf.length ≤ 1000 := Nat.le_trans hc (Nat.le_trans (Nat.add_le_add d1 d2) (by omega))
  clear hc d1 d2
  unfold mergeS mergeL
  generalize mergeM (splitS base) (splitS left) (splitS right) = m at hm ⊢
  split
  · exact Nat.zero_le _
  · exact hm

set_option maxRecDepth 100000 in
set_option maxHeartbeats 8000000 in
theorem walk (A : Option Addr) (zs : List Int) (a : Nat) (Q : Option Addr) (qs : List Trip) (d : Nat) (R : Option Addr) (rs : List Trip) (e : Nat) (w : World) (hA : Ints w w.heap.size A a zs) (hz : zs.length ≤ maxLen)
    (hQ : Trips w w.heap.size Q d qs) (hq : qs.length ≤ maxLen) (hR : Trips w w.heap.size R e rs) (hr : rs.length ≤ maxLen) :
    Calls Try.prog 10 #[.slice A zs.length a, .slice Q qs.length d, .slice R rs.length e] w (BoolB w true) := by
  have S := Lib.hid (fun W => sane_any W)
  obtain ⟨hsL, hnL⟩ := listL_short zs
  obtain ⟨p, hp⟩ : ∃ p, zs.length = p := ⟨_, rfl⟩
  obtain ⟨q, hqq⟩ : ∃ q, qs.length = q := ⟨_, rfl⟩
  obtain ⟨r, hrr⟩ : ∃ r, rs.length = r := ⟨_, rfl⟩
  obtain ⟨L, hL⟩ : ∃ L, listL zs = L := ⟨_, rfl⟩
  have li := fun (n : Nat) (W : World) (hW : Below w.heap.size w W) (hn : (listL zs).length = n) => list_at w.heap.size A zs a p n W (Row.below hA hW (Nat.le_refl _)) hW.size hp hn (by omega)
  rw [hL] at hsL hnL li
  obtain ⟨n, hn⟩ : ∃ n, L.length = n := ⟨_, rfl⟩
  have c1 := fun (A' : Option Addr) (c : Nat) (W : World) (hW : Below w.heap.size w W) (h : Strs W W.heap.size A' c L) => refChanged_any w.heap.size A' L c n Q qs d q W h hsL hn (by omega) (Row.below hQ hW (Nat.le_refl _)) hW.size hqq (by omega)
  have c2 := fun (A' : Option Addr) (c : Nat) (W : World) (hW : Below w.heap.size w W) (h : Strs W W.heap.size A' c L) => refChanged_any w.heap.size A' L c n R rs e r W h hsL hn (by omega) (Row.below hR hW (Nat.le_refl _)) hW.size hrr (by omega)
  have LI := Lib.hid (fun (W : World) (hW : Below w.heap.size w W) => li n W hW hn)
  have C1 := Lib.hid c1
  have C2 := Lib.hid c2
  have T := Lib.hid (fun (A' : Option Addr) (c m : Nat) (K : List ByteArray) (cut : Bool) (W : World) (h : Strs W W.heap.size A' c K) (hm : K.length = m) (hs : Shorts K) (h46 : m ≤ 46) => text_at A' c m cut W h hm hs h46)
  have HLn := Lib.hid hn
  have HLs := Lib.hid hsL
  rw [hn] at hnL
  rw [hqq] at hq ⊢
  rw [hrr] at hr ⊢
  rw [hp] at hz ⊢
  obtain ⟨b1, hb1⟩ : ∃ b, ((q : Int) % 3 == 2) = b := ⟨_, rfl⟩
  obtain ⟨b2, hb2⟩ : ∃ b, ((r : Int) % 3 == 2) = b := ⟨_, rfl⟩
  clear li c1 c2 hA hQ hR hp hqq hrr hL hn hsL
  go_enter Try.func10, Try.ntmps10
  go_upto_region 4 with (first
    | (go_at_call 15; ((with_reducible refine (S.out _).mono ?_); rintro e' w1 ⟨rfl, hb⟩); (have HB1 := Lib.hid hb))
    | (go_at_call 20; ((with_reducible refine (LI.out _ HB1.out).mono ?_); rintro e' w2 ⟨A2, k2, rfl, hS, hb⟩); (have HB2 := Lib.hid (Below.then_ HB1.out hb)))
    | (go_at_call 21; ((with_reducible refine (C1.out _ _ _ HB2.out hS).mono ?_); rintro e' w3 ⟨A3, k3, m3, L3, rfl, hm3, hl3, hs3, hS3, hb⟩); (have hS := strs_on hS hb); (have HB3 := Lib.hid (Below.then_ HB2.out hb)))
    | (go_at_call 21; ((with_reducible refine (C2.out _ _ _ HB3.out hS).mono ?_); rintro e' w4 ⟨A4, k4, m4, L4, rfl, hm4, hl4, hs4, hS4, hb⟩); (have HB4 := Lib.hid (Below.then_ HB3.out hb)))
    | (go_at_call 19; ((with_reducible refine (T.out _ _ _ _ _ _ hS HLn.out HLs.out (by omega)).mono ?_); rintro e' wt ⟨rfl, rfl⟩))
    | (go_at_call 19; ((with_reducible refine (T.out _ _ _ _ _ _ hS3 hl3 hs3 (by omega)).mono ?_); rintro e' wt ⟨rfl, rfl⟩))
    | (go_at_call 19; ((with_reducible refine (T.out _ _ _ _ _ _ hS4 hl4 hs4 (by omega)).mono ?_); rintro e' wt ⟨rfl, rfl⟩)))
  clear hb1 hb2 hS hS3 hS4 hb
  have z1 := (text_short HLs.out (by rw [HLn.out]; omega) false).2
  have z2 := (text_short hs3 (by omega) b1).2
  have z3 := (text_short hs4 (by omega) b2).2
  obtain ⟨TB, HTB⟩ : ∃ T, textS L false = T := ⟨_, rfl⟩
  obtain ⟨TL, HTL⟩ : ∃ T, textS L3 b1 = T := ⟨_, rfl⟩
  obtain ⟨TR, HTR⟩ : ∃ T, textS L4 b2 = T := ⟨_, rfl⟩
  rw [HTB, HTL, HTR]
  rw [HTB] at z1
  rw [HTL] at z2
  rw [HTR] at z3
  clear HTB HTL HTR hs3 hs4 hl3 hl4
  have m1 := fun W => merge_txt (w := W) (cat_split TR) z1 z1 z3 (mergeL_right (splitS TB) (splitS TR))
  have m2 := fun W => merge_txt (w := W) (cat_split TL) z1 z2 z1 (mergeL_left (splitS TB) (splitS TL))
  have m3 := fun W => merge_txt (w := W) (cat_split TL) z1 z2 z2 (mergeL_both (splitS TB) (splitS TL))
  have hcl := conf_len TB TL TR z1
  have hcc : (mergeS TB TL TR).2 = [] ∨ (mergeS TB TL TR).1 = [] := mergeL_conf (splitS TB) (splitS TL) (splitS TR)
  have hsw : mergeS TB TR TL = mergeS TB TL TR := mergeL_swap (splitS TB) (splitS TL) (splitS TR)
  obtain ⟨⟨U, C⟩, hU⟩ : ∃ R, mergeS TB TL TR = R := ⟨_, rfl⟩
  rw [hU] at hcl hcc hsw
  dsimp only at hcl hcc
  obtain ⟨TU, hTU⟩ : ∃ T, str U = T := ⟨_, rfl⟩
  obtain ⟨nC, hnC⟩ : ∃ n, C.length = n := ⟨_, rfl⟩
  have m4 := fun W => merge_some (w := W) z1 z2 z3 hU hTU hnC
  have m5 := fun W => merge_some (w := W) z1 z3 z2 hsw hTU hnC
  have s2 := fun (W : World) (A B : Option Addr) (c d : Nat) (hA : Sps W W.heap.size A c C) (hB : Sps W W.heap.size B d C) => spans2 W.heap.size nC nC A B C c d W hA hB hnC.symm hnC.symm hcl
  have e1 : (TR.toList == TR.toList) = true := by simp
  have e2 : (TL.toList == TL.toList) = true := by simp
  have e3 : (TU.toList == TU.toList) = true := by simp
  have M1 := Lib.hid m1
  have M2 := Lib.hid m2
  have M3 := Lib.hid m3
  by_cases hC : C = []
  · have h0 : nC = 0 := by rw [← hnC, hC]; rfl
    subst h0
    have M4 := Lib.hid m4
    have M5 := Lib.hid m5
    have S2 := Lib.hid s2
    clear m1 m2 m3 m4 m5 s2 hcl hcc hsw hU hTU hnC hC z1 z2 z3
    go_wp2_with (first
      | (go_at_call 29; ((with_reducible refine (M1.out _).mono ?_); rintro e' w5 ⟨A5, k5, rfl, hp5, hb⟩); (have HB5 := Lib.hid (Below.then_ HB4.out hb)))
      | (go_at_call 29; ((with_reducible refine (M2.out _).mono ?_); rintro e' w6 ⟨A6, k6, rfl, hp6, hb⟩); (have HB6 := Lib.hid (Below.then_ HB5.out hb)))
      | (go_at_call 29; ((with_reducible refine (M3.out _).mono ?_); rintro e' w7 ⟨A7, k7, rfl, hp7, hb⟩); (have HB7 := Lib.hid (Below.then_ HB6.out hb)))
      | (go_at_call 29; ((with_reducible refine (M4.out _).mono ?_); rintro e' w8 ⟨A8, k8, rfl, hp8, hb⟩); (have HB8 := Lib.hid (Below.then_ HB7.out hb)))
      | (go_at_call 29; ((with_reducible refine (M5.out _).mono ?_); rintro e' w9 ⟨A9, k9, rfl, hp9, hb⟩); (have hp8 := sps_on hp8 hb); (have HB9 := Lib.hid (Below.then_ HB8.out hb)))
      | (go_at_call 31; ((with_reducible refine (S2.out _ _ _ _ _ hp8 hp9).mono ?_); rintro e' ws ⟨rfl, hb⟩); (have HBX := Lib.hid (Below.then_ HB9.out hb))))
    go_ret
    exact ⟨rfl, HBX.out⟩
  · have hU0 : U = [] := hcc.resolve_left hC
    have hT0 : TU = ⟨#[]⟩ := by rw [← hTU, hU0]; rfl
    subst hT0
    have n0 : ¬ nC = 0 := fun e => hC (List.eq_nil_of_length_eq_zero (hnC.trans e))
    have n1 : ¬ (nC : Int) = 0 := by omega
    have n2 : ((nC : Int) == 0) = false := by rw [beq_eq_false_iff_ne]; exact n1
    have M4 := Lib.hid m4
    have M5 := Lib.hid m5
    have S2 := Lib.hid s2
    clear m1 m2 m3 m4 m5 s2 hcl hcc hsw hU hTU hnC hC hU0 z1 z2 z3
    go_wp2_with (first
      | (go_at_call 29; ((with_reducible refine (M1.out _).mono ?_); rintro e' w5 ⟨A5, k5, rfl, hp5, hb⟩); (have HB5 := Lib.hid (Below.then_ HB4.out hb)))
      | (go_at_call 29; ((with_reducible refine (M2.out _).mono ?_); rintro e' w6 ⟨A6, k6, rfl, hp6, hb⟩); (have HB6 := Lib.hid (Below.then_ HB5.out hb)))
      | (go_at_call 29; ((with_reducible refine (M3.out _).mono ?_); rintro e' w7 ⟨A7, k7, rfl, hp7, hb⟩); (have HB7 := Lib.hid (Below.then_ HB6.out hb)))
      | (go_at_call 29; ((with_reducible refine (M4.out _).mono ?_); rintro e' w8 ⟨A8, k8, rfl, hp8, hb⟩); (have HB8 := Lib.hid (Below.then_ HB7.out hb)))
      | (go_at_call 29; ((with_reducible refine (M5.out _).mono ?_); rintro e' w9 ⟨A9, k9, rfl, hp9, hb⟩); (have hp8 := sps_on hp8 hb); (have HB9 := Lib.hid (Below.then_ HB8.out hb)))
      | (go_at_call 31; ((with_reducible refine (S2.out _ _ _ _ _ hp8 hp9).mono ?_); rintro e' ws ⟨rfl, hb⟩); (have HBX := Lib.hid (Below.then_ HB9.out hb))))
    go_ret
    exact ⟨rfl, HBX.out⟩
theorem contract (H : Type) (enc : TypeId × Value → H) (W : World) (base : Nat) (args : Array Value) (ds gs : List (DataW H)) (before : List MemPlace)
    (hval : ∀ (j : Nat) t v, Try.f10.params[j]? = some t → args[j]? = some v → Value.okWide Try.prog W .any base t v)
    (hW : DataW.Whole enc Try.prog Try.f10.params.toList Rows.linesSidesSpec.vars false W args.toList ds gs before) :
    Calls Try.prog 10 args W fun e W' => ∃ v, e = .returned v ∧ Rows.linesSidesSpec.post enc Try.prog Try.f10 false true false false W args v W' := by
  have hW' := hW
  obtain ⟨p, q, hA0, hV, rfl, hfz, hnd⟩ := hW
  have hA : DataW.TrodAll enc Try.prog W 0 (fun _ => true) true Try.f10.params.toList args.toList ds p := hA0
  rw [Try.params10] at hA hval
  obtain ⟨v0, vs0, d0, ds0, p0, q0, e0, rfl, rfl, h0, r0⟩ := trodAll_cons hA
  obtain ⟨v1, vs1, d1, ds1, p1, q1, e1, rfl, rfl, h1, r1⟩ := trodAll_cons r0
  obtain ⟨v2, vs2, d2, ds2, p2, q2, e2, rfl, rfl, h2, r2⟩ := trodAll_cons r1
  obtain ⟨rfl, rfl, rfl⟩ := trodAll_nil r2
  obtain rfl : args = #[v0, v1, v2] := by cases args; simp_all
  obtain ⟨rfl, rfl⟩ := trodVars_none hV
  obtain ⟨A, zs, a, rfl, hA1, hz⟩ := open_nums h0 (hval 0 28 v0 rfl rfl)
  obtain ⟨Q, qs, d, rfl, hQ, hq⟩ := open_trips h1 (hval 1 29 v1 rfl rfl)
  obtain ⟨R, rs, e, rfl, hR, hr⟩ := open_trips h2 (hval 2 29 v2 rfl rfl)
  refine (walk A zs a Q qs d R rs e W hA1 hz hQ hq hR hr).mono fun e W' ⟨he, hb⟩ => ⟨_, he, law_post rfl rfl ?_ rfl rfl rfl hW' hb⟩
  rw [Try.params10]
  intro t ht
  have ht' : t = 28 ∨ t = 29 ∨ t = 29 := by simpa using ht
  rcases ht' with rfl | rfl | rfl <;> exact ⟨by kernel_rfl, of_decide_eq_true (by kernel_rfl)⟩

set_option maxRecDepth 100000 in
theorem lifted (os : Os) (started : os.Started) (H : Type) (enc : TypeId × Value → H) :
    ReturnsInHanded {} Try.checked os 10 .any (Rows.linesSidesSpec.pre6 enc Try.prog Try.f10 Rows.linesSidesRow.domain false) (Rows.linesSidesSpec.post enc Try.prog Try.f10 false true false false) := by
  refine returnsInHanded_of_change (C := Try.checked) ownKnob_none started (by kernel_rfl) Try.func10
    (ChangeSpec.witness6 (enc := enc) (C := Try.checked) false ⟨#[], #[.slice none 0 0, .slice none 0 0, .slice none 0 0], []⟩ 8 (by kernel_rfl) (by kernel_rfl) (by kernel_rfl) (by kernel_rfl)) ?_
  intro W base args ds gs before hval hW _ _
  exact contract H enc W base args ds gs before hval hW

theorem proved : Rows.LinesSidesSaid :=
  OpenClaim.holds_of_wide 10 Try.f10 rfl rfl rfl rfl rfl rfl rfl ⟨rfl, rfl, rfl, rfl, rfl⟩ rfl rfl rfl rfl rfl (by kernel_rfl) Try.func10 (by kernel_rfl)
    (of_decide_eq_true (by kernel_rfl)) (by unfold Func.isWrapper; first | (rw [if_pos (by decide +kernel)]; kernel_rfl) | (rw [if_neg (by decide +kernel)]; exact ⟨rfl, rfl⟩))
    (fun os started H enc _ => lifted os started H enc)

end Go.Proofs.Ytmeoannheomdoaa.lsides
