/- Merge. -/
import Derived.Test.YtmeoannheomdoaaAddG
import Derived.Test.YtmeoannheomdoaaMergeAt
namespace Go.Proofs.Ytmeoannheomdoaa
open Go.RowKit Go.Shelf
attribute [local go_sem] Oper.semAt_some

/-- the merger's end for three lists of lines -/
def mergeM (base left right : List ByteArray) : Ms ByteArray :=
  mergeG base left right (gps ((diff base left).length + (diff base right).length) (diff base left) (diff base right)) ⟨[], 0, []⟩
/-- what Merge returns: the text's bytes, the conflicts -/
def mergeL (base left right : List ByteArray) : List UInt8 × List (Nat × Nat) :=
  if (mergeM base left right).conf.length = 0 then (cat ((mergeM base left right).merged ++ base.drop (mergeM base left right).done), []) else ([], (mergeM base left right).conf)
def mergeS (base left right : ByteArray) : List UInt8 × List (Nat × Nat) := mergeL (splitS base) (splitS left) (splitS right)
theorem mergeG_snoc (base left right : List ByteArray) (g : Gp) : ∀ (l : List Gp) (m : Ms ByteArray), mergeG base left right (l ++ [g]) m = addG base left right (mergeG base left right l m) g
  | [], m => rfl
  | x :: l, m => mergeG_snoc base left right g l _

def MergeOut (w : World) (R : List UInt8 × List (Nat × Nat)) (e : Ending) (w' : World) : Prop :=
  ∃ A c, e = .returned (.tuple #[.string (str R.1), .slice A R.2.length c]) ∧ Sps w' w'.heap.size A c R.2 ∧ Below w.heap.size w w'

theorem splitAcc_len : ∀ (l cur : List UInt8), (splitAcc cur l).length ≤ l.length + 1
  | [], cur => by unfold splitAcc; split <;> simp
  | c :: t, cur => by
    unfold splitAcc
    split
    · have := splitAcc_len t []; simp; omega
    · have := splitAcc_len t (cur ++ [c]); simp; omega
theorem splitS_len (s : ByteArray) : (splitS s).length ≤ s.size + 1 := by
  unfold splitS splitL
  rw [List.length_map]
  have := splitAcc_len s.data.toList []
  simpa using this
theorem splitAcc_mem : ∀ (l cur : List UInt8), ∀ x ∈ splitAcc cur l, x.length ≤ cur.length + l.length
  | [], cur, x, hx => by
    unfold splitAcc at hx
    split at hx
    · simp at hx
    · simp at hx; subst hx; simp
  | c :: t, cur, x, hx => by
    unfold splitAcc at hx
    split at hx
    · rcases List.mem_cons.1 hx with rfl | hx
      · simp
      · have := splitAcc_mem t [] x hx; simp at this ⊢; omega
    · have := splitAcc_mem t (cur ++ [c]) x hx; simp at this ⊢; omega
theorem splitS_mem (s : ByteArray) : ∀ x ∈ splitS s, x.size ≤ s.size := by
  intro x hx
  unfold splitS splitL at hx
  obtain ⟨y, hy, rfl⟩ := List.mem_map.1 hx
  have := splitAcc_mem s.data.toList [] y hy
  rw [str_size]
  simpa using this

theorem rangeOf_mem {α : Type} (side : List α) (lo hi : Nat) (H : List Hk) : ∀ x ∈ rangeOf side lo hi H, x ∈ side := by
  intro x hx
  unfold rangeOf at hx
  split at hx
  · cases hx
  · exact List.mem_of_mem_drop (List.mem_of_mem_take hx)
theorem addG_mem (base left right : List ByteArray) (m : Ms ByteArray) (g : Gp) : ∀ x ∈ (addG base left right m g).merged, x ∈ m.merged ∨ x ∈ base ∨ x ∈ left ∨ x ∈ right := by
  intro x hx
  unfold addG at hx
  cases hc : changed left right g with
  | none => rw [hc] at hx; exact .inl hx
  | some l =>
    rw [hc] at hx
    have hl : ∀ y ∈ l, y ∈ left ∨ y ∈ right := by
      intro y hy
      unfold changed at hc
      split at hc
      · injection hc with hc; subst hc; exact .inl (rangeOf_mem _ _ _ _ y hy)
      · split at hc
        · injection hc with hc; subst hc; exact .inr (rangeOf_mem _ _ _ _ y hy)
        · split at hc
          · injection hc with hc; subst hc; exact .inl (rangeOf_mem _ _ _ _ y hy)
          · cases hc
    rcases List.mem_append.1 hx with h | h
    · rcases List.mem_append.1 h with h | h
      · exact .inl h
      · exact .inr (.inl (List.mem_of_mem_drop (List.mem_of_mem_take h)))
    · exact .inr (.inr (hl x h))
theorem mergeG_mem (base left right : List ByteArray) : ∀ (T : List Gp) (m : Ms ByteArray), ∀ x ∈ (mergeG base left right T m).merged, x ∈ m.merged ∨ x ∈ base ∨ x ∈ left ∨ x ∈ right
  | [], m, x, hx => .inl hx
  | g :: T, m, x, hx => by
    rcases mergeG_mem base left right T _ x hx with h | h
    · exact addG_mem base left right m g x h
    · exact .inr h
theorem cat_len (Z : Nat) : ∀ (L : List ByteArray), (∀ x ∈ L, x.size ≤ Z) → (cat L).length ≤ L.length * Z
  | [], _ => by simp [cat]
  | x :: L, h => by
    have h1 := h x (by simp)
    have h2 := cat_len Z L fun y hy => h y (by simp [hy])
    show (x.data.toList ++ cat L).length ≤ _
    rw [List.length_append, data_len, List.length_cons, Nat.succ_mul]
    omega

def DiffPost2 (w : World) (L : List Hk) (e : Ending) (w' : World) : Prop := ∃ A c, e = .returned (.slice A L.length c) ∧ HT w' A c L ∧ Below w.heap.size w w'
theorem diff_any2 (M : Nat) (A B : Option Addr) (a b : List ByteArray) (c d : Nat) (w : World) (hA : Strs w M A c a) (hB : Strs w M B d b) (hM : M ≤ w.heap.size) (ha : a.length ≤ 1073741824) (hb : b.length ≤ 1073741824) (hza : ∀ s ∈ a, s.size ≤ maxLen) (hzb : ∀ s ∈ b, s.size ≤ maxLen) :
    Calls Try.prog 23 #[.slice A a.length c, .slice B b.length d] w (DiffPost2 w (diff a b)) :=
  (diff_any A B a b c d w (hA.more hM) (hB.more hM) ha hb hza hzb).mono fun _ _ ⟨A', c', h1, h2, h3⟩ => ⟨A', c', h1, HT.own h2 rfl, h3⟩
def GroupsPost (w : World) (A : Option Addr) (n c : Nat) (B : Option Addr) (m d : Nat) (e : Ending) (w' : World) : Prop :=
  ∃ g, e = .returned (.func (.func 55) #[] #[.pointer (some ⟨g, 0, none⟩), .pointer (some ⟨g + 1, 0, none⟩)]) ∧ Full w' g 33 [.slice A n c] ∧ Full w' (g + 1) 33 [.slice B m d] ∧ Below w.heap.size w w'
theorem groups_new2 (A B : Option Addr) (n m c d : Nat) (w : World) : Calls Try.prog 45 #[.slice A n c, .slice B m d] w (GroupsPost w A n c B m d) := by
  refine (groups_new A B n m c d w).mono ?_
  rintro e w' ⟨rfl, rfl⟩
  refine ⟨w.heap.size, rfl, (Full.new w 33 [.slice A n c]).alloc _, ?_, ((Below.refl _ w).alloc (Nat.le_refl _) _).alloc (by simp) _⟩
  have := Full.new (w.alloc (.cells #[.slice A n c] 33)) 33 [.slice B m d]
  rwa [World.size_alloc] at this

theorem join_own (base n c : Nat) (A : Option Addr) (L1 L2 : List ByteArray) (w : World) (h : w.ownsRow base 9 1 (.slice A n c) n (strC L1 ++ strC L2)) (hL : (L1 ++ L2).length ≤ 140737488355328) (hz : (cat (L1 ++ L2)).length ≤ 70368744177664) :
    Calls Try.prog 47 #[.slice A n c] w fun e w' => e = .returned (.string (str (cat (L1 ++ L2)))) ∧ Below w.heap.size w w' := by
  have e : strC L1 ++ strC L2 = strC (L1 ++ L2) := (List.map_append).symm
  rw [e] at h
  obtain ⟨hn, hS⟩ := Strs.own h
  subst hn
  exact join_any A _ c w hS hL hz

set_option maxRecDepth 100000 in
set_option maxHeartbeats 400000 in
theorem merge_any (base left right : ByteArray) (w : World) (h1 : base.size ≤ 1048576) (h2 : left.size ≤ 1048576) (h3 : right.size ≤ 1048576) :
    Calls Try.prog 29 #[.string base, .string left, .string right] w (MergeOut w (mergeS base left right)) := by
  have hs1 := fun W => split_any base W (by omega)
  have hs2 := fun W => split_any left W (by omega)
  have hs3 := fun W => split_any right W (by omega)
  have hl1 := splitS_len base
  have hl2 := splitS_len left
  have hl3 := splitS_len right
  have hz1 : ∀ x ∈ splitS base, x.size ≤ maxLen := fun x hx => by have := splitS_mem base x hx; unfold maxLen; omega
  have hz2 : ∀ x ∈ splitS left, x.size ≤ maxLen := fun x hx => by have := splitS_mem left x hx; unfold maxLen; omega
  have hz3 : ∀ x ∈ splitS right, x.size ≤ maxLen := fun x hx => by have := splitS_mem right x hx; unfold maxLen; omega
  have hy1 : ∀ x ∈ splitS base, x.size ≤ 1048576 := fun x hx => by have := splitS_mem base x hx; omega
  have hy2 : ∀ x ∈ splitS left, x.size ≤ 1048576 := fun x hx => by have := splitS_mem left x hx; omega
  have hy3 : ∀ x ∈ splitS right, x.size ≤ 1048576 := fun x hx => by have := splitS_mem right x hx; omega
  have HY1 := Lib.hid hy1
  have HY2 := Lib.hid hy2
  have HY3 := Lib.hid hy3
  have HZ1 := Lib.hid hz1
  have HZ2 := Lib.hid hz2
  have HZ3 := Lib.hid hz3
  unfold mergeS
  obtain ⟨bs, HBS⟩ : ∃ bs, Hid (splitS base = bs) := ⟨_, Lib.hid rfl⟩
  obtain ⟨ls, HLS⟩ : ∃ ls, Hid (splitS left = ls) := ⟨_, Lib.hid rfl⟩
  obtain ⟨rs, HRS⟩ : ∃ rs, Hid (splitS right = rs) := ⟨_, Lib.hid rfl⟩
  rw [HBS.out] at hs1 hl1 HZ1 HY1 ⊢
  rw [HLS.out] at hs2 hl2 HZ2 HY2 ⊢
  rw [HRS.out] at hs3 hl3 HZ3 HY3 ⊢
  clear hz1 hz2 hz3 hy1 hy2 hy3
  obtain ⟨R, HR⟩ : ∃ R, Hid (mergeL bs ls rs = R) := ⟨_, Lib.hid rfl⟩
  rw [HR.out]
  refine (callsIn_wide (n := 3)).1 (callsIn_of_wp_marks Try.func29 rfl trivial ?_ rfl)
  refine wpIn_wide.2 ?_
  simp only [Try.ntmps29, List.size_toArray, List.length_cons, List.length_nil, Nat.reduceAdd, Nat.reduceSub, Array.replicate_succ, Array.replicate_zero, List.push_toArray, List.append_toArray, List.nil_append, List.cons_append]
  go_wp2_with (first
    | (go_at_call 16; ((with_reducible refine (hs1 _).mono ?_); rintro e w1 ⟨Ab, cb, rfl, hob, hB1⟩))
    | (go_at_call 16; ((with_reducible refine (hs2 _).mono ?_); rintro e w2 ⟨Al, cl, rfl, hol, hB2⟩))
    | (go_at_call 16; ((with_reducible refine (hs3 _).mono ?_); rintro e w3 ⟨Ar, cr, rfl, hor, hB3⟩)))
  have hb1 := (Strs.own hob).2
  have hb2 := (Strs.own (own_keep hob hB2)).2
  have hSb : Strs w3 w3.heap.size Ab cb bs := (Strs.own (own_keep (own_keep hob hB2) hB3)).2
  have hSl : Strs w3 w3.heap.size Al cl ls := (Strs.own (own_keep hol hB3)).2
  have hSr : Strs w3 w3.heap.size Ar cr rs := (Strs.own hor).2
  have hB03 : Below w.heap.size w w3 := Below.then_ (Below.then_ hB1 hB2) hB3
  have hFM := Full.new w3 72 [.slice Ab bs.length cb, .slice Al ls.length cl, .slice Ar rs.length cr, .slice none 0 0, .int .i64 0, .slice none 0 0]
  have hB04 : Below w.heap.size w (w3.alloc (.cells #[.slice Ab bs.length cb, .slice Al ls.length cl, .slice Ar rs.length cr, .slice none 0 0, .int .i64 0, .slice none 0 0] 72)) := hB03.alloc hB03.size _
  obtain ⟨M, hM⟩ : ∃ M, w3.heap.size = M := ⟨_, rfl⟩
  have hwM := hB03.size
  have hSb4 := hSb.alloc (Nat.le_refl _) (.cells #[.slice Ab bs.length cb, .slice Al ls.length cl, .slice Ar rs.length cr, .slice none 0 0, .int .i64 0, .slice none 0 0] 72)
  have hSl4 := hSl.alloc (Nat.le_refl _) (.cells #[.slice Ab bs.length cb, .slice Al ls.length cl, .slice Ar rs.length cr, .slice none 0 0, .int .i64 0, .slice none 0 0] 72)
  have hSr4 := hSr.alloc (Nat.le_refl _) (.cells #[.slice Ab bs.length cb, .slice Al ls.length cl, .slice Ar rs.length cr, .slice none 0 0, .int .i64 0, .slice none 0 0] 72)
  obtain ⟨w4, hw4⟩ : ∃ w4, w3.alloc (.cells #[.slice Ab bs.length cb, .slice Al ls.length cl, .slice Ar rs.length cr, .slice none 0 0, .int .i64 0, .slice none 0 0] 72) = w4 := ⟨_, rfl⟩
  rw [hw4] at hFM hB04 hSb4 hSl4 hSr4 ⊢
  rw [hM] at hFM hwM hSb4 hSl4 hSr4 ⊢
  have hm4 : Mer w4 M bs ls rs Ab Al Ar cb cl cr ⟨[], 0, []⟩ := ⟨none, 0, none, 0, hFM, World.ownsRow_nil _ _ _ _, World.ownsRow_nil _ _ _ _, hSb4, hSl4, hSr4⟩
  have hM4 := hFM.lt
  have c0 : w4.cell? ⟨M, 0, none⟩ = some (.slice Ab bs.length cb) := hFM.cell 0
  have c1 : w4.cell? ⟨M, 1, none⟩ = some (.slice Al ls.length cl) := hFM.cell 1
  have c2 : w4.cell? ⟨M, 2, none⟩ = some (.slice Ar rs.length cr) := hFM.cell 2
  have hdl : ∀ W, Below w4.heap.size w4 W → Calls Try.prog 23 #[.slice Ab bs.length cb, .slice Al ls.length cl] W (DiffPost2 W (diff bs ls)) := fun W hW =>
    diff_any2 M Ab Al bs ls cb cl W (Row.below hSb4 hW (by omega)) (Row.below hSl4 hW (by omega)) (by have := hW.size; omega) (by omega) (by omega) HZ1.out HZ2.out
  have hdr : ∀ W, Below w4.heap.size w4 W → Calls Try.prog 23 #[.slice Ab bs.length cb, .slice Ar rs.length cr] W (DiffPost2 W (diff bs rs)) := fun W hW =>
    diff_any2 M Ab Ar bs rs cb cr W (Row.below hSb4 hW (by omega)) (Row.below hSr4 hW (by omega)) (by have := hW.size; omega) (by omega) (by omega) HZ1.out HZ3.out
  have hlenl := diff_len bs ls
  have hlenr := diff_len bs rs
  have hokl := diff_ok bs ls
  have hokr := diff_ok bs rs
  have hR := HR.out
  unfold mergeL mergeM at hR
  obtain ⟨dl, HDL⟩ : ∃ dl, Hid (diff bs ls = dl) := ⟨_, Lib.hid rfl⟩
  obtain ⟨dr, HDR⟩ : ∃ dr, Hid (diff bs rs = dr) := ⟨_, Lib.hid rfl⟩
  rw [HDL.out] at hdl hlenl hokl hR
  rw [HDR.out] at hdr hlenr hokr hR
  have HR2 := Lib.hid hR
  have HOL := Lib.hid hokl
  have HOR := Lib.hid hokr
  clear hR hokl hokr hob hol hor hB1 hB2 hB3 hb1 hb2 hSb hSl hSr hw4 hM hB03 hs1 hs2 hs3
  go_cut [27] from 17 to 26 (fun s27 wx => ∃ (g : Nat) (A1 A2 : Option Addr) (d1 d2 : Nat), s27 = .func (.func 55) #[] #[.pointer (some ⟨g, 0, none⟩), .pointer (some ⟨g + 1, 0, none⟩)] ∧ Full wx g 33 [.slice A1 dl.length d1] ∧ Full wx (g + 1) 33 [.slice A2 dr.length d2] ∧ HT wx A1 d1 dl ∧ HT wx A2 d2 dr ∧ Below w4.heap.size w4 wx)
  case first =>
    have k0 : ∀ W, Below w4.heap.size w4 W → W.cell? ⟨M, 0, none⟩ = some (.slice Ab bs.length cb) := fun W h => (Full.below hFM h hM4).cell 0
    have k1 : ∀ W, Below w4.heap.size w4 W → W.cell? ⟨M, 1, none⟩ = some (.slice Al ls.length cl) := fun W h => (Full.below hFM h hM4).cell 1
    have k2 : ∀ W, Below w4.heap.size w4 W → W.cell? ⟨M, 2, none⟩ = some (.slice Ar rs.length cr) := fun W h => (Full.below hFM h hM4).cell 2
    have v0 := k0 _ (Below.refl _ w4).drew
    have v1 := k1 _ (Below.refl _ w4).drew
    have v2 := k2 _ (Below.refl _ w4).drew
    have u1 : Unit → Below w4.heap.size w4 w4.drew := fun _ => (Below.refl _ w4).drew
    clear c0 c1 c2
    have HK0 := Lib.hid k0
    have HK1 := Lib.hid k1
    have HK2 := Lib.hid k2
    have HHL := Lib.hid hdl
    have HHR := Lib.hid hdr
    clear k0 k1 k2 hdl hdr
    go_region_held3 (fun w' => w'.cell? ⟨M, 0, none⟩ = some (.slice Ab bs.length cb) ∧ w'.cell? ⟨M, 1, none⟩ = some (.slice Al ls.length cl) ∧ w'.cell? ⟨M, 2, none⟩ = some (.slice Ar rs.length cr))
      (first | (with_reducible exact ⟨v0, v1, v2⟩) | (with_reducible exact ⟨x0, x1, x2⟩) | (with_reducible exact ⟨y0, y1, y2⟩) | (with_reducible exact ⟨z0, z1, z2⟩))
      (first
        | (go_at_call 23; (with_reducible refine (HHL.out _ ?_).mono ?_); exact u1 (); rintro e wl ⟨A1, d1, rfl, hTl, hbl⟩; have uL : Unit → Below w4.heap.size w4 wl := fun _ => Below.then_ (u1 ()) hbl; have x0 := HK0.out _ (uL ()); have x1 := HK1.out _ (uL ()); have x2 := HK2.out _ (uL ()))
        | (go_at_call 23; (with_reducible refine (HHR.out _ ?_).mono ?_); exact uL (); rintro e wr ⟨A2, d2, rfl, hTr, hbr⟩; have uR : Unit → Below w4.heap.size w4 wr := fun _ => (uL ()).trans (hbr.mono (uL ()).size); have y0 := HK0.out _ (uR ()); have y1 := HK1.out _ (uR ()); have y2 := HK2.out _ (uR ()))
        | (go_at_call 45; refine (groups_new2 _ _ _ _ _ _ _).mono ?_; rintro e wg ⟨gB, rfl, hg1, hg2, hbg⟩; have uG : Unit → Below w4.heap.size w4 wg := fun _ => (uR ()).trans (hbg.mono (uR ()).size); have z0 := HK0.out _ (uG ()); have z1 := HK1.out _ (uG ()); have z2 := HK2.out _ (uG ())))
    all_goals (go_wp2_with fail; go_meet)
    go_goals
    case rel => exact ⟨_, A1, A2, d1, d2, rfl, hg1, hg2, hTl.keep ((KeepT.below hbr).trans (KeepT.below hbg)), hTr.keep (KeepT.below hbg), uG ()⟩
  case rest =>
    obtain ⟨g, A1, A2, d1, d2, rfl, hg1, hg2, hT1, hT2, hbc⟩ := hcut
    have hmc := hm4.on hbc
    have hwc : Below w.heap.size w wc := hB04.trans (hbc.mono hB04.size)
    have hgps := gps_ok bs.length ls.length rs.length (dl.length + dr.length) 0 0 0 dl dr (Nat.le_refl _) HOL.out HOR.out
    have hgl := gps_len (dl.length + dr.length) dl dr
    have hgm := gps_mem (dl.length + dr.length) dl dr
    have hruns := groups_runs 2 (by omega) g (g + 1) A1 A2 dl dr d1 d2 wc (hg1.cell 0) (hg2.cell 0) hg1.lt hg2.lt hT1 hT2 (by omega) (by omega)
    obtain ⟨T, HT'⟩ : ∃ T, Hid (gps (dl.length + dr.length) dl dr = T) := ⟨_, Lib.hid rfl⟩
    rw [HT'.out] at hgps hgl hgm hruns
    have hat := merge_at (base := bs) (left := ls) (right := rs) T 0 0 0 ⟨[], 0, []⟩ hgps ⟨Nat.le_refl _, Nat.le_refl _⟩
    have HAT := Lib.hid hat
    have HGM := Lib.hid hgm
    have hMc : M < wc.heap.size := by have := hbc.size; omega
    clear hat hgm hgps hm4 c0 c1 c2 hdl hdr
    go_wp2_with fail
    refine wpIn_wide.1 (range_runs (n := 3) rfl (by omega) (gf := 55) (lb := #[.pointer (some ⟨g, 0, none⟩), .pointer (some ⟨g + 1, 0, none⟩)]) rfl trivial (enters_of Try.func55 (by kernel_rfl) rfl)
      hruns (fun h k => KeepT.trans h k) (fun W l o o' h hc => KeepT.putObj W l o o' h hc) ?hps
      (fun k W => Mer W M bs ls rs Ab Al Ar cb cl cr (mergeG bs ls rs (T.take k) ⟨[], 0, []⟩) ∧ Below M w4 W) ?hI ⟨hmc, hbc.mono (Nat.le_of_lt hM4)⟩
      (fun k x a' W => ∃ (gB : Nat) (Ax Bx : Option Addr) (cx dx : Nat), a' = ({ tmps := #[.string base, .string left, .string right, undef, undef, undef, .string ⟨#[]⟩, .slice none 0 0, .pointer (some ⟨M, 0, none⟩), .pointer (some ⟨gB, 0, none⟩), .string base, .slice Ab bs.length cb, .string left, .slice Al ls.length cl, .string right, .slice Ar rs.length cr, .agg #[.slice Ab bs.length cb, .slice Al ls.length cl, .slice Ar rs.length cr, .slice none 0 0, .int .i64 0, .slice none 0 0], u17, u18, u19, u20, u21, u22, u23, u24, u25, u26, .func (.func 55) #[] #[.pointer (some ⟨g, 0, none⟩), .pointer (some ⟨g + 1, 0, none⟩)], .agg #[.int .i64 (x.lo : Int), .int .i64 (x.hi : Int), .slice Ax x.left.length cx, .slice Bx x.right.length dx], undef, undef, undef, undef, undef, undef, undef, undef, undef, undef, undef, undef, undef, undef, undef, undef, undef], defers := [] } : Act) ∧ Full W gB 76 [.int .i64 (x.lo : Int), .int .i64 (x.hi : Int), .slice Ax x.left.length cx, .slice Bx x.right.length dx] ∧ HT W Ax cx x.left ∧ HT W Bx dx x.right) ?hAx ?assign ?body ?done)
    case assign =>
      rintro l k x vs W K ⟨Ax, cx, Bx, dx, rfl, hx1, hx2⟩ hI hK
      unfold gpV
      gi_wp2
      refine hK _ _ ((KeepsOthers.alloc W _).from _) (KeepT.below ((Below.refl _ W).alloc (Nat.le_refl _) _)) ⟨hI.1.on ((Below.refl _ W).alloc (Nat.le_refl _) _), hI.2.alloc (by obtain ⟨⟨_, _, _, _, hF, _⟩, _⟩ := hI; have := hF.lt; omega) _⟩
        ⟨W.heap.size, Ax, Bx, cx, dx, rfl, Full.new W 76 _, hx1.keep (KeepT.below ((Below.refl _ W).alloc (Nat.le_refl _) _)), hx2.keep (KeepT.below ((Below.refl _ W).alloc (Nat.le_refl _) _))⟩
    case hps =>
      rintro k x vs W ⟨Ax, cx, Bx, dx, rfl, _, _⟩
      rfl
    case hI =>
      rintro k W W' row ⟨⟨Am, cm, Ac, cc, q1, q2, q3, q4, q5, q6⟩, hb⟩ hg hr
      have hM2 := q1.lt
      have hK := fun {p : Addr} (hp : p.block < M) => World.cell?_of_block (w := W) (w' := W') (a := p) (hg.block p.block (by omega) (fun e => by have := (hr _ e.symm).1; omega))
      refine ⟨⟨Am, cm, Ac, cc, full_keep q1 hg (fun r e => (hr r e).2), row_keep q2 hg (fun r e => (hr r e).2), row_keep q3 hg (fun r e => (hr r e).2), Row.keep q4 fun _ hp => hK hp, Row.keep q5 fun _ hp => hK hp, Row.keep q6 fun _ hp => hK hp⟩, hb.grown hg (by omega) (fun j e => by have := (hr j e).1; omega)⟩
    case hAx =>
      rintro k x a' s W W' row ⟨gB, Ax, Bx, cx, dx, e, q1, q2, q3⟩ hg hr
      have hk := KeepT.of_grown hg (fun r e => (hr r e).2)
      exact ⟨gB, Ax, Bx, cx, dx, e, full_keep q1 hg (fun r e => (hr r e).2), q2.keep hk, q3.keep hk⟩
    case body =>
      rintro l k x a' W hTk ⟨gB, Ax, Bx, cx, dx, rfl, hFg, hx1, hx2⟩ ⟨hMer, hbW⟩
      have hfn : ∀ k, (Fence.wide.inRound l).fn k := fun _ => trivial
      have hkT : k < T.length := by
        rcases Nat.lt_or_ge k T.length with h | h
        · exact h
        · rw [List.getElem?_eq_none h] at hTk; cases hTk
      obtain ⟨i', jl', jr', hG, ⟨hd, hml⟩, hcl⟩ := HAT.out k (by omega)
      have hx : T[k] = x := by rw [List.getElem?_eq_getElem hkT] at hTk; exact Option.some.inj hTk
      rw [List.drop_eq_getElem_cons hkT, hx] at hG
      obtain ⟨g1, g2, g3, g4, g5, g6, tl, tr, g7, g8, _, _, g11⟩ := hG
      have hmem := HGM.out x (by rw [← hx]; exact List.getElem_mem hkT)
      have hstep : mergeG bs ls rs (T.take (k + 1)) ⟨[], 0, []⟩ = addG bs ls rs (mergeG bs ls rs (T.take k) ⟨[], 0, []⟩) x := by rw [List.take_succ_eq_append_getElem hkT, mergeG_snoc, hx]
      obtain ⟨mk, hmk⟩ : ∃ mk, mergeG bs ls rs (T.take k) ⟨[], 0, []⟩ = mk := ⟨_, rfl⟩
      rw [hmk] at hMer hd hml hcl hstep
      have hts := g7.2.1
      have htr := g8.2.1
      have hss := g7.1
      have hsr := g8.1
      have hadd := addG_any M bs ls rs Ab Al Ar cb cl cr mk x Ax Bx cx dx (jl' + (x.lo - i')) tl (jr' + (x.lo - i')) tr W hMer hx1 hx2 g4 g7 g8 (fun y hy => by have := g5 y hy; omega) (fun y hy => by have := g6 y hy; omega) (by omega) (by omega) (by omega) (by omega) (by omega) (by omega) (by omega) (by omega) (by omega) (by simp at hcl; omega) (fun l2 hl2 => by
        have := changed_len g4 g7 g8 hl2; omega)
      unfold gpV at hadd
      rw [← hstep] at hadd
      have e0 : W.cell? ⟨gB, 0, none⟩ = some (.int .i64 (x.lo : Int)) := hFg.cell 0
      have e1 : W.cell? ⟨gB, 1, none⟩ = some (.int .i64 (x.hi : Int)) := hFg.cell 1
      have e2 : W.cell? ⟨gB, 2, none⟩ = some (.slice Ax x.left.length cx) := hFg.cell 2
      have e3 : W.cell? ⟨gB, 3, none⟩ = some (.slice Bx x.right.length dx) := hFg.cell 3
      have HADD := Lib.hid hadd
      clear hadd hstep hmk hMer hd hml hcl g5 g6 hmem hx hTk g7 g8 g11
      gi_wp2_with (gi_at_call 46; refine (((callsIn_wide (n := 0)).2 HADD.out).inRound l).mono ?_; rintro e W2 ⟨⟨v, rfl⟩, hm2, hk2⟩)
      exact ⟨hk2.2.2.from _, hk2.2.1, hm2, hbW.trans hk2.1⟩
    case done =>
      rintro D W hD ⟨hMer, hbW⟩ hK
      rw [List.take_length] at hMer
      have hmm := mergeG_mem bs ls rs T ⟨[], 0, []⟩
      obtain ⟨mk, HMK⟩ : ∃ mk, Hid (mergeG bs ls rs T ⟨[], 0, []⟩ = mk) := ⟨_, Lib.hid rfl⟩
      have hat' := HAT.out T.length (Nat.le_refl _)
      rw [List.take_length, List.drop_length, HMK.out] at hat'
      rw [HMK.out] at hMer hmm
      obtain ⟨i', jl', jr', ⟨hi1, hi2, hi3⟩, ⟨hd, hml⟩, hcl⟩ := hat'
      have hR := HR2.out
      rw [HT'.out, HMK.out] at hR
      have hdn : mk.done ≤ bs.length := by omega
      have hll : (mk.merged ++ bs.drop mk.done).length ≤ 4194308 := by rw [List.length_append, List.length_drop]; omega
      have hcat : (cat (mk.merged ++ bs.drop mk.done)).length ≤ 70368744177664 := by
        refine Nat.le_trans (cat_len 1048576 _ fun x hx => ?_) (Nat.le_trans (Nat.mul_le_mul_right _ hll) (by decide))
        rcases List.mem_append.1 hx with h | h
        · rcases hmm x h with h | h | h | h
          · cases h
          · exact HY1.out x h
          · exact HY2.out x h
          · exact HY3.out x h
        · exact HY1.out x (List.mem_of_mem_drop h)
      have HCAT := Lib.hid hcat
      have HLL := Lib.hid hll
      have hwW : w.heap.size ≤ W.heap.size := by have := hbW.size; omega
      have hBW : Below w.heap.size w W := hB04.trans ((hbW).mono hwM)
      obtain ⟨Am, cm, Ac, cc, hF, hr1, hr2, hS0, hS1, hS2⟩ := hMer
      have c0 : W.cell? ⟨M, 0, none⟩ = some (.slice Ab bs.length cb) := hF.cell 0
      have c3 : W.cell? ⟨M, 3, none⟩ = some (.slice Am mk.merged.length cm) := hF.cell 3
      have c4 : W.cell? ⟨M, 4, none⟩ = some (.int .i64 (mk.done : Int)) := hF.cell 4
      have c5 : W.cell? ⟨M, 5, none⟩ = some (.slice Ac mk.conf.length cc) := hF.cell 5
      by_cases hc0 : mk.conf.length = 0
      · rw [if_pos hc0] at hR
        have hcb := hS0.cap
        obtain ⟨A', hr, hpl, hpS⟩ := strs_l Ab bs cb mk.done hdn hcb
        obtain ⟨part, hpart⟩ : ∃ part, bs.drop mk.done = part := ⟨_, rfl⟩
        rw [hpart] at hpl hpS hR hcat hll
        have HPS := Lib.hid hpS
        have HPL := Lib.hid hpl
        have HC0 := Lib.hid hc0
        have HRR := Lib.hid hR
        have HCA := Lib.hid hcat
        have HLE := Lib.hid hll
        have hml2 : mk.merged.length ≤ 4194308 := by rw [List.length_append] at hll; omega
        have hbl2 : bs.length ≤ 1048577 := by omega
        have hz : decide ((mk.conf.length : Int) > 0) = false := by rw [decide_eq_false_iff_not]; omega
        have hz2 : ¬ (0 < mk.conf.length) := by omega
        have hz3 : ¬ ((0 : Int) < (mk.conf.length : Int)) := by omega
        clear hc0 hR hmm hcat hll hpl hpS hpart hruns hgl hg1 hg2 hT1 hT2 hmc hwc hbc hlenl hlenr hi1 hi2 hi3 hd hml hcl
        clear HR2 HAT HGM HCAT HLL HMK HT' HOL HOR HDL HDR HZ1 HZ2 HZ3 HY1 HY2 HY3 HR HBS HLS HRS
        dsimp only [Exit.inBlock, Exit.then]
        go_upto_region 7 with fail
        go_still_tail 7, (by kernel_rfl)
        change wpList _ _ _ _ _ W.drew
        obtain ⟨W1, hW1⟩ : ∃ W1, W.drew = W1 := ⟨_, rfl⟩
        rw [hW1]
        have hB1 : Below w.heap.size w W1 := by rw [← hW1]; exact hBW.drew
        have hr1' : W1.ownsRow M 9 1 (.slice Am mk.merged.length cm) mk.merged.length (strC mk.merged) := by rw [← hW1]; exact hr1.drew
        have hK1 : W1.heap[D]? = some (Obj.deferred (some [])) := by rw [← hW1]; exact hK
        have hS1' : Strs W1 M Ab cb bs := by rw [← hW1]; exact hS0.drew
        have hMW : M ≤ W1.heap.size := by rw [← hW1]; exact Nat.le_of_lt hF.lt
        clear hW1
        go_wp2_with (first
          | (at_builtin; refine wpList_app rfl _ _ rfl M (.slice Am mk.merged.length cm) mk.merged.length _ rfl hr1' M A' (bs.length - mk.done) (cb - mk.done) part rfl HPL.out.symm (HPS.out _ _ hS1') (by omega) hMW ?_; intro v' w2 hown2 hg2; obtain ⟨A2, c2, rfl⟩ := own_form hown2)
          | (go_at_call 47; refine (join_own _ _ _ _ _ _ _ hown2 (Nat.le_trans HLE.out (by decide)) HCA.out).mono ?_; rintro e w3 ⟨rfl, hb3⟩))
        have hK2 := (KeepsOthers.own hr1' hg2).same D _ hK1 rfl
        have hK3 := (KeepsOthers.below hb3).same D _ hK2 rfl
        have hBx : Below w.heap.size w w2 := hB1.trans (((Below.refl _ W1).grown hg2 hMW (row_ge hr1')).mono hwM)
        have hBy : Below w.heap.size w w3 := Below.then_ hBx hb3
        refine ⟨by simp, .inl ⟨_, _, rfl, run_takeDeferred hK3, ?_⟩⟩
        have e := HRR.out
        subst e
        refine ⟨_, results_tmp2 rfl _ _ _, none, 0, rfl, Row.own (World.ownsRow_nil _ 0 0 2), hBy.trans (belowK_b (n₀ := w.heap.size) (w := w) (Nat.le_refl _) w3 D _ _ (by omega) hK3 rfl rfl)⟩
      · rw [if_neg hc0] at hR
        have hgt : decide ((mk.conf.length : Int) > 0) = true := by rw [decide_eq_true_eq]; omega
        have hgt2 : (0 : Int) < (mk.conf.length : Int) := by omega
        have HRR := Lib.hid hR
        clear hR hmm hcat hll hruns hgl hg1 hg2 hT1 hT2 hmc hwc hbc hlenl hlenr hi1 hi2 hi3 hd hml hcl
        clear HR2 HAT HGM HCAT HLL HMK HT' HOL HOR HDL HDR HZ1 HZ2 HZ3 HY1 HY2 HY3 HR HBS HLS HRS
        dsimp only [Exit.inBlock, Exit.then]
        go_upto_region 6 with fail
        go_quiet (fail)
        go_wp2_with fail
        refine ⟨by simp, .inl ⟨_, _, rfl, run_takeDeferred hK, ?_⟩⟩
        have e := HRR.out
        subst e
        have hBq : Below w.heap.size w (W.drewN nq) := Below.drewN_ hBW nq
        refine ⟨_, results_tmp2 rfl _ _ _, Ac, cc, rfl, Row.own (ownsRow_putObj (W := W.drewN nq) hr2 _ hK rfl), hBq.trans (belowK_b (n₀ := w.heap.size) (w := w) (Nat.le_refl _) (W.drewN nq) D _ _ (by omega) hK rfl rfl)⟩

end Go.Proofs.Ytmeoannheomdoaa
