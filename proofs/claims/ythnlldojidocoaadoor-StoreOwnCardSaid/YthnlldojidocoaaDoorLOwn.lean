/- StoreOwn: for all numbers of names: neither changes of a list that was passed, nor of one that was returned, change the store. -/
import Derived.Deep.RegionLaw
import Derived.Test.YthnlldojidocoaaDoorLaws4
namespace Go.Proofs.YthnlldojidocoaaDoor.lown
open Go.ChangeShapes Go.WideShapes Go.ChangeAt Go.RowKit Go.Maps

def oT : Ob := blobO ⟨#[116, 101, 120, 116]⟩
def oO : Ob := blobO ⟨#[111, 116, 104, 101, 114]⟩
theorem byte_string (w : World) (b c : Nat) (x : UInt8) (hc : w.cell? ⟨b, 0, none⟩ = some (.int .u8 (x.toNat : Int))) :
    (convert 54 9 (.slice (some ⟨b, 0, none⟩) 1 c)).run Tryd.prog w = .ok (.string (str [x])) w := by
  refine run_convert_bytes_back w 54 9 5 ⟨b, 0, none⟩ c [x] Tryd.underlying54 Tryd.underlying5 Tryd.underlying9 fun j hj => ?_
  obtain rfl : j = 0 := by simpa using hj
  exact hc
theorem own_news (w : World) (a b : Obj) : ((w.alloc a).alloc b).drew.heap[w.heap.size + 1]? = some b := by
  have := heap_alloc_new (w.alloc a) b
  rw [World.size_alloc] at this
  exact this
theorem own_step {w W w5 : World} {p k d gg cap H : Nat} {os : List Ob} {F : Nat → Prop} {D : Option Addr} {xs ys : List Value} {ob : Obj} (hst : StW w W p os F) (hM : Mine w W (.slice D k d) 48 3 k xs F) (hgrow : ((W.alloc ob).drew).grownBy w5 (Value.slice D k d).ownBlock)
    (hown : w5.ownsRow w.heap.size 48 3 (.slice (some ⟨gg, 0, none⟩) (k + 1) cap) (k + 1) (xs ++ ys)) (hat : (Value.slice D k d).ownBlock = some gg ∨ gg = H) (hH : H = W.heap.size + 1) :
    StW w w5 p os F ∧ Mine w w5 (.slice (some ⟨gg, 0, none⟩) (k + 1) cap) 48 3 (k + 1) (xs ++ ys) F :=
  hM.app (ob := ob) hst ⟨hgrow.os, hgrow.tape, hgrow.output, hgrow.size, hgrow.block⟩ hown (hat.imp (fun e => by rw [e]; rfl) (fun e => by rw [e, hH]; simp [Value.ownBlock]))
theorem own_ne {wr : World} {ob : Obj} {g2 g k c2 : Nat} (hloc : (Value.slice (some ⟨g2, 0, none⟩) k c2).ownBlock = (Value.slice (some ⟨wr.heap.size, 0, none⟩) 0 0).ownBlock ∨ (Value.slice (some ⟨g2, 0, none⟩) k c2).ownBlock = some (wr.alloc ob).heap.size) (hgl : g < wr.heap.size) : g2 ≠ g := by
  have hs : (wr.alloc ob).heap.size = wr.heap.size + 1 := by simp
  rcases hloc with e | e
  · have e1 : g2 = wr.heap.size := by simpa [Value.ownBlock] using e
    omega
  · rw [hs] at e
    have e1 : g2 = wr.heap.size + 1 := by simpa [Value.ownBlock] using e
    omega
theorem full_ents {W : World} {g n : Nat} {es : List Ent} (h : Full W g 48 (entsC es)) (hn : es.length = n) : Ents W W.heap.size (some ⟨g, 0, none⟩) n es := by
  subst hn
  refine ⟨entsC_len es, Nat.le_refl _, fun e => (by cases e), fun j u hj => ⟨_, rfl, h.lt, ?_⟩⟩
  rw [show (⟨g, 0, none⟩ : Addr).add j = ⟨g, j, none⟩ by unfold Addr.add; split <;> simp_all]
  rw [h.cell]; exact hj
theorem treeOk_more {es : List Ent} (h : treeOk [oT, oO] es = true) : treeOk [oT, oO, treeO es] es = true := by
  have := treeOk_put (o := treeO es) h
  have h2 : put [oT, oO] (treeO es) = [oT, oO, treeO es] := by
    have h : treeO es ∉ [oT, oO] := by simp [treeO, oT, oO, blobO]
    unfold put; rw [if_neg h]; rfl
  rwa [h2] at this
/-- the k-th entry -/
def nmO (k : Nat) : ByteArray := str [110, UInt8.ofNat (97 + k)]
def entO (k : Nat) (z : Int) : Ent := (nmO k, false, 1 + z.tmod 2)
def esO (zs : List Int) : List Ent := zs.mapIdx entO
theorem esO_len (zs : List Int) : (esO zs).length = zs.length := by unfold esO; simp
theorem esO_snoc (zs : List Int) (z : Int) : esO (zs ++ [z]) = esO zs ++ [entO zs.length z] := by unfold esO; rw [List.mapIdx_concat]
theorem esO_at (zs : List Int) {j : Nat} (h : j < zs.length) : (esO zs)[j]'(by rw [esO_len]; exact h) = entO j zs[j] := by unfold esO; rw [List.getElem_mapIdx]
theorem nm_ok : ∀ k, k < 8 → nameOk (nmO k) = true := by decide +kernel
theorem nm_less : ∀ k, k < 8 → 0 < k → Op.bytesLess (nmO (k - 1)).toList (nmO k).toList = true := by decide +kernel
theorem esO_ok (zs : List Int) (h8 : zs.length ≤ 8) (hz : ∀ z ∈ zs, 0 ≤ z ∧ z ≤ 255) : treeOk [oT, oO] (esO zs) = true := by
  refine (treeOk_iff _ _).2 fun j hj => ?_
  rw [esO_len] at hj
  refine ⟨fun h0 => ?_, ?_⟩
  · rw [esO_at zs hj, esO_at zs (j := j - 1) (by omega)]
    exact nm_less j (by omega) h0
  · rw [esO_at zs hj]
    unfold entOk
    have hn : nameOk (entO j zs[j]).1 = true := nm_ok j (by omega)
    rw [hn, Bool.true_and]
    have hb := hz _ (List.getElem_mem hj)
    have h1 := Int.tmod_nonneg (a := zs[j]) 2 hb.1
    have h2 := Int.tmod_lt_of_pos zs[j] (b := 2) (by omega)
    unfold canHold entO getO
    dsimp only
    rw [if_pos (by omega)]
    rcases (show zs[j].tmod 2 = 0 ∨ zs[j].tmod 2 = 1 by omega) with e | e
    · rw [e]; rfl
    · rw [e]; rfl
theorem num_three (es : List Ent) : num [oT, oO] (treeO es) = 3 ∧ put [oT, oO] (treeO es) = [oT, oO, treeO es] := by
  have h : treeO es ∉ [oT, oO] := by simp [treeO, oT, oO, blobO]
  exact ⟨by rw [num_new h]; rfl, by unfold put; rw [if_neg h]; rfl⟩
theorem num_again (es : List Ent) : num [oT, oO, treeO es] (treeO es) = 3 ∧ put [oT, oO, treeO es] (treeO es) = [oT, oO, treeO es] := by
  have h := num_self [oT, oO] (treeO es)
  rw [(num_three es).1, (num_three es).2] at h
  exact ⟨h, by unfold put; rw [if_pos (by simp)]⟩

set_option maxRecDepth 100000 in
set_option maxHeartbeats 8000000 in
theorem walk (A : Option Addr) (zs : List Int) (c : Nat) (w : World) (hT : Tab w) (hA : Bts w w.heap.size A c zs) (hn : zs.length ≤ maxLen) (hz : ∀ z ∈ zs, 0 ≤ z ∧ z ≤ 255) : Calls Tryd.prog 11 #[.slice A zs.length c] w (BoolB w true) := by
  unfold maxLen at hn
  obtain ⟨i48, hi, hz0, hz1, hz2⟩ := info_parts info48
  have S := Lib.hid (sane_any w hT)
  have NW := Lib.hid (newW hT)
  have C0 := Lib.hid (fun (W : World) (p : Nat) (F : Nat → Prop) (h : StW w W p [] F) => (show Calls Tryd.prog 18 #[.pointer (some ⟨p, 0, none⟩), .string ⟨#[116, 101, 120, 116]⟩] W (PutW w W p [] F 1 [oT]) from blobW h (by simp) ⟨#[116, 101, 120, 116]⟩ (by decide)))
  have C1 := Lib.hid (fun (W : World) (p : Nat) (F : Nat → Prop) (h : StW w W p [oT] F) => (show Calls Tryd.prog 18 #[.pointer (some ⟨p, 0, none⟩), .string ⟨#[111, 116, 104, 101, 114]⟩] W (PutW w W p [oT] F 2 [oT, oO]) from blobW h (by simp) ⟨#[111, 116, 104, 101, 114]⟩ (by decide)))
  have hcap : zs.length ≤ c := hA.2.1
  have HZ := Lib.hid hz
  obtain ⟨n, HN⟩ : ∃ n, Hid (zs.length = n) := ⟨_, Lib.hid rfl⟩
  rw [HN.out] at hn hcap ⊢
  clear hz
  go_enter Tryd.func11, Tryd.ntmps11
  go_wp2_with (first
    | (go_at_call 14; (with_reducible refine S.out.mono ?_); rintro e w1 ⟨rfl, hb1⟩)
    | (go_at_call 15; (with_reducible refine (NW.out _ hb1).mono ?_); rintro e w2 ⟨rfl, h2⟩; (obtain ⟨p, hp⟩ : ∃ p, w1.heap.size = p := ⟨_, rfl⟩); rw [hp] at h2)
    | (go_at_call 18; (with_reducible refine (C0.out _ _ _ h2).mono ?_); rintro e w3 ⟨rfl, F3, h3, -⟩)
    | (go_at_call 18; (with_reducible refine (C1.out _ _ _ h3).mono ?_); rintro e w4 ⟨rfl, F, h4, -⟩))
  clear h2 h3
  go_loopw [5, 6] (fun v5 v6 wr => ∃ (k : Nat) (D : Option Addr) (d : Nat), k ≤ n ∧ k ≤ 8 ∧ v6 = .int .i64 (k : Int) ∧ v5 = .slice D k d ∧ ((k = 0 ∧ D = none ∧ d = 0) ∨ 0 < k) ∧ StW w wr p [oT, oO] F ∧ Mine w wr (.slice D k d) 48 3 k (entsC (esO (zs.take k))) F) (fun _ v6 _ => n - (intOf v6).toNat)
  case atStart => exact ⟨0, none, 0, by omega, by omega, rfl, rfl, .inl ⟨rfl, rfl, rfl⟩, h4, Mine.nil _ _ _ _ _⟩
  case round =>
    obtain ⟨k, D, d, hk, hk8, rfl, rfl, h0, hst, hM⟩ := hrel
    have hi0 : (0 : Int) ≤ (k : Int) := Int.natCast_nonneg _
    by_cases hlt : k < n ∧ k < 8
    · obtain ⟨hlt, h8⟩ := hlt
      have hi1 : (k : Int) < (n : Int) := by omega
      have hi8 : (k : Int) < 8 := by omega
      have hkl : k < zs.length := by have := HN.out; omega
      obtain ⟨ad, rfl, hadB, hca0⟩ := hA.at_ hkl
      have hca := (hst.below.cell (p := ad.add k) (by rw [add_block]; exact hadB)).trans hca0
      have hzb := HZ.out _ (List.getElem_mem hkl)
      obtain ⟨b, hb⟩ : ∃ b : UInt8, UInt8.ofNat (97 + k) = b := ⟨_, rfl⟩
      have hbn : b.toNat = 97 + k := by rw [← hb, UInt8.toNat_ofNat']; omega
      have e0 : IntKind.i64.wrap (97 + (k : Int)) = 97 + (k : Int) := by simp [IntKind.wrap, IntKind.bits, IntKind.signed]; omega
      obtain ⟨x, hx⟩ : ∃ x : Int, IntKind.u8.wrap (97 + (k : Int)) = x := ⟨_, rfl⟩
      have hxb : (b.toNat : Int) = x := by
        rw [hbn, ← hx]
        simp [IntKind.wrap, IntKind.bits, IntKind.signed]; omega
      have hF8 := Full.new wr 5 [.int .u8 x]
      have hcv := byte_string (wr.alloc (.cells #[.int .u8 x] 5)).drew wr.heap.size 1 b (by rw [hxb]; exact hF8.drew.cell 0)
      obtain ⟨sB, hsB⟩ : ∃ s, str [b] = s := ⟨_, rfl⟩
      rw [hsB] at hcv
      have hsz : sB.size = 1 := by rw [← hsB]; rfl
      obtain ⟨nm, hnm⟩ : ∃ nm, (⟨#[110]⟩ : ByteArray) ++ sB = nm := ⟨_, rfl⟩
      obtain ⟨z, hze⟩ : ∃ z, zs[k] = z := ⟨_, rfl⟩
      rw [hze] at hca hca0 hzb
      have r1 := Int.tmod_nonneg (a := z) 2 hzb.1
      have r2 := Int.tmod_lt_of_pos z (b := 2) (by omega)
      obtain ⟨r, hr⟩ : ∃ r, z.tmod 2 = r := ⟨_, rfl⟩
      rw [hr] at r1 r2
      have q1 : IntKind.i64.wrap r = r := by simp [IntKind.wrap, IntKind.bits, IntKind.signed]; omega
      have q2 : IntKind.i64.wrap (1 + r) = 1 + r := by simp [IntKind.wrap, IntKind.bits, IntKind.signed]; omega
      have hent : esO (zs.take (k + 1)) = esO (zs.take k) ++ [(nm, false, 1 + r)] := by
        have hl : (zs.take k).length = k := by rw [List.length_take]; omega
        rw [List.take_succ_eq_append_getElem hkl, esO_snoc, hze, hl]
        unfold entO nmO
        rw [hb, hr, ← hnm, ← hsB]
        rfl
      have HENT := Lib.hid hent
      have hwb := hst.below.size
      have hca' : (wr.alloc (.cells #[.int .u8 x] 5)).cell? (ad.add k) = some (.int .u8 z) := (World.cell?_alloc_lt wr _ _ (by rw [add_block]; omega)).trans hca
      clear hb hbn hxb hF8 hsB hze hca0 h0 hent
      have hM1 := hM.on ((Below.refl _ wr).alloc (Nat.le_refl _) (.cells #[.int .u8 x] 5))
      have hst1 := hst.alloc (.cells #[.int .u8 x] 5)
      go_wp2_with fail
      go_region_law
        ((refine step_append_lies _ (by rfl) _ _ _ (by rfl) w.heap.size 48 i48 _ 3 32 Tryd.underlying46 hi hz0 hz1 hz2 rfl (by omega) (.slice D k d) k _ (by rfl) ((hM1.own.alloc _).drew) ⟨wr.heap.size + 1, 0, none⟩ 1 1 [.string nm, .bool false, .int .i64 (1 + r)] (by rfl) (by rfl) (World.news_of_block (cs := #[.string nm, .bool false, .int .i64 (1 + r)]) (t := 48) (fr := (0, 0)) (own_news wr _ _)) (by simp [Value.oneCell']) (by omega) (by unfold maxLen; omega) (by omega) (by simp; omega) (wr.heap.size + 2) (by simp) ?_; intro gg cap w5 hown5 hgrow hat hlt5))
      all_goals
        go_wp2
        go_roundw
        case rel =>
          obtain ⟨a1, a2⟩ := own_step hst1 hM1 hgrow hown5 hat (by simp)
          refine ⟨k + 1, _, cap, by omega, by omega, by go_num, rfl, .inr (by omega), a1, ?_⟩
          rw [HENT.out]
          have e : entsC (esO (zs.take k) ++ [(nm, false, 1 + r)]) = entsC (esO (zs.take k)) ++ [.string nm, .bool false, .int .i64 (1 + r)] := by unfold entsC; rw [List.flatMap_append]; rfl
          rw [e]
          exact a2
        case measure => simp [intOf]; omega
    · by_cases hlt2 : k < n
      · obtain rfl : k = 8 := by omega
        have hi1 : ((8 : Nat) : Int) < (n : Int) := by omega
        have hnz := HN.out
        have hlen : (esO (zs.take 8)).length = 8 := by rw [esO_len, List.length_take]; omega
        have hok := esO_ok (zs.take 8) (by rw [List.length_take]; omega) (fun z hzm => HZ.out z (List.mem_of_mem_take hzm))
        obtain ⟨es, hes⟩ : ∃ es, esO (zs.take 8) = es := ⟨_, rfl⟩
        rw [hes] at hlen hok hM
        clear hes hnz
        have n3 := num_three es
        have n4 := num_again es
        have hg3 : getO [oT, oO, treeO es] 3 = some (treeO es) := rfl
        have hwb := hst.below.size
        have hMw : Mine w (wr.alloc (.cells #[] 48)) (.slice (some ⟨wr.heap.size, 0, none⟩) 0 0) 48 3 0 [] F :=
          ⟨World.ownsRow_made wr #[] 0 hwb (by unfold maxLen; omega) rfl, fun j e hF => by
            have e' : wr.heap.size = j := by simpa [Value.ownBlock] using e
            have := (hst.st.in_ j hF).2
            omega⟩
        have hst1 := hst.alloc (.cells #[] 48)
        have hM1 := hM.on ((Below.refl _ wr).alloc (Nat.le_refl _) (.cells #[] 48))
        obtain ⟨g, cap, hv, hcell⟩ := hM1.form (by omega)
        injection hv with hD _ hd
        subst hD hd
        have hgl : g < wr.heap.size := owns_lt hM.own g rfl
        have hl3 : (entsC es).length = 8 * 3 := by rw [entsC_len, hlen]
        have hcells : ∀ j u, (entsC es)[j]? = some u → (wr.alloc (.cells #[] 48)).cell? ((⟨g, 0, none⟩ : Addr).add j) = some u := fun j u hj => by
          rw [show (⟨g, 0, none⟩ : Addr).add j = ⟨g, j, none⟩ by unfold Addr.add; split <;> simp_all]
          exact hcell j u hj
        have HL := Lib.hid hlen
        clear hM hcell
        go_wp2_with (first
          | (at_builtin; refine wpList_append_own_at _ rfl _ _ 46 rfl w.heap.size 48 i48 _ 3 32 Tryd.underlying46 hi hz0 hz1 hz2 rfl (by decide) (.slice (some ⟨wr.heap.size, 0, none⟩) 0 0) 0 [] rfl hMw.own ⟨g, 0, none⟩ 8 d (entsC es) rfl hl3 hcells (entsC_one es) (by unfold maxLen; omega) (by omega) (by simp; omega) ?_; intro v' w5 hown5 hgrow5 _ hloc; rw [Nat.zero_add, List.nil_append] at hown5; obtain ⟨g2, c2, rfl, _, _⟩ := hown5.form (by omega); obtain ⟨h5, hW5⟩ := hMw.app0 hst1 hgrow5 hown5 hloc; (have hM5 := hM1.grown hgrow5 (fun j e e' => (by have e1 : g = j := (by simpa [Value.ownBlock] using e); have e2 : wr.heap.size = j := (by simpa [Value.ownBlock] using e'); omega))); (have hne : g2 ≠ g := own_ne hloc hgl); (have C21 := treeW h5 (by simp) _ es d (hM5.ents HL.out) (by rw [HL.out]; omega) hok); rw [n3.1, n3.2, HL.out] at C21; (have HC21 := Lib.hid C21); clear C21)
          | (go_at_call 21; (with_reducible refine HC21.out.mono ?_); rintro e w6 ⟨rfl, F6, h6, hg6⟩; (have hW6 := hW5.goes hg6); (have hM6 := hM5.goes hg6); obtain ⟨mc, hC6, hmc⟩ := Cells.of_own hM6.own; (have hgF := hM6.lt g rfl)))
        go_loopw [10] (fun v10 wi => ∃ j : Nat, j ≤ 8 ∧ v10 = .int .i64 (j : Int) ∧ StW w wi p [oT, oO, treeO es] F6 ∧ Mine w wi (.slice (some ⟨g2, 0, none⟩) 8 c2) 48 3 8 (entsC es) F6 ∧ Cells wi g 48 mc) (fun v10 _ => 8 - (intOf v10).toNat)
        case atStart => exact ⟨0, by omega, rfl, h6, hW6, hC6⟩
        case round =>
          obtain ⟨j, hj, rfl, hS, hWj, hCj⟩ := hrel
          have hj0 : (0 : Int) ≤ (j : Int) := Int.natCast_nonneg _
          by_cases hjk : j < 8
          · have hj1 : (j : Int) < (8 : Int) := by omega
            obtain ⟨⟨v0, hc0⟩, hf0⟩ := hCj.cell (i := j * 3) (by omega)
            go_wp2
            go_roundw
            case rel => exact ⟨j + 1, by omega, by go_num, hS.set_ (a := ⟨g, j * 3, none⟩) hgF.1 hgF.2.2 _, hWj.set_ (a := ⟨g, j * 3, none⟩) (by simpa [Value.ownBlock] using hne) _, hCj.set_ g (j * 3) _⟩
            case measure => simp [intOf]; omega
          · obtain rfl : j = 8 := by omega
            have C24 := Lib.hid (fun (W : World) (h : StW w W p [oT, oO, treeO es] F6) => ents_full h.st (by simp) 3 es hg3)
            have C24' : Hid (∀ (W : World) (h : StW w W p [oT, oO, treeO es] F6), Calls Tryd.prog 24 #[.pointer (some ⟨p, 0, none⟩), .int .i64 3] W fun e w' => ∃ g, e = .returned (.tuple #[.slice (some ⟨g, 0, none⟩) 8 8, .bool true]) ∧ Full w' g 48 (entsC es) ∧ W.heap.size ≤ g ∧ Below W.heap.size W w') := Lib.hid (fun W h => by
              have := C24.out W h
              unfold EntsFull at this
              rw [HL.out] at this
              exact this)
            clear C24
            go_wp2_with (go_at_call 24; (with_reducible refine (C24'.out _ hS).mono ?_); rintro e w7 ⟨g7, rfl, hF7, hg7, hb7⟩; (have h7 := hS.on hb7); (have hW7 := hWj.on hb7); (have hC7 := Cells.of_full hF7); rw [entsC_len, HL.out] at hC7; (have hn7 : ¬ F6 g7 := fun e => (by have := (hS.st.in_ g7 e).2; omega)); (have hw7 := hS.below.size); (have hne7 : g2 ≠ g7 := (by have := owns_lt hWj.own g2 rfl; omega)))
            clear hS hWj
            go_loopw [13] (fun v13 wi => ∃ i : Nat, i ≤ 8 ∧ v13 = .int .i64 (i : Int) ∧ StW w wi p [oT, oO, treeO es] F6 ∧ Mine w wi (.slice (some ⟨g2, 0, none⟩) 8 c2) 48 3 8 (entsC es) F6 ∧ Cells wi g7 48 (8 * 3)) (fun v13 _ => 8 - (intOf v13).toNat)
            case atStart => exact ⟨0, by omega, rfl, h7, hW7, hC7⟩
            case round =>
              obtain ⟨i, hi', rfl, hS, hWi, hCi⟩ := hrel
              have hi0' : (0 : Int) ≤ (i : Int) := Int.natCast_nonneg _
              by_cases hik : i < 8
              · have hi1' : (i : Int) < (8 : Int) := by omega
                obtain ⟨⟨v0, hc0⟩, hf0⟩ := hCi.cell (i := i * 3 + 2) (by omega)
                go_wp2
                go_roundw
                case rel => exact ⟨i + 1, by omega, by go_num, hS.set_ (a := ⟨g7, i * 3 + 2, none⟩) (by show w.heap.size ≤ g7; omega) hn7 _, hWi.set_ (a := ⟨g7, i * 3 + 2, none⟩) (by simpa [Value.ownBlock] using hne7) _, hCi.set_ g7 (i * 3 + 2) _⟩
                case measure => simp [intOf]; omega
              · obtain rfl : i = 8 := by omega
                go_wp2_with (first
                  | (go_at_call 24; (with_reducible refine (C24'.out _ hS).mono ?_); rintro e w8 ⟨g8, rfl, hF8, hg8, hb8⟩; (have h8 := hS.on hb8); (have hW8 := hWi.on hb8); (have hn8 : ¬ F6 g8 := fun e => (by have := (hS.st.in_ g8 e).2; omega)); (have C21b := treeW h8 (by simp) _ es c2 (hW8.ents HL.out) (by rw [HL.out]; omega) (treeOk_more hok)); rw [n4.1, n4.2, HL.out] at C21b; (have HC21b := Lib.hid C21b); clear C21b)
                  | (go_at_call 21; (with_reducible refine HC21b.out.mono ?_); rintro e w9 ⟨rfl, F9, h9, hg9⟩; (have hF9 : Full w9 g8 48 (entsC es) := (hg9.turn.block g8 hF8.lt hn8).trans hF8); (have hW9 := hW8.goes hg9); (have C25 := same_any w9.heap.size w9.heap.size _ _ es es 8 c2 w9 (full_ents hF9 HL.out) (hW9.ents HL.out) (by rw [HL.out]; omega) (by rw [HL.out]; omega)); rw [decide_eq_true rfl, HL.out] at C25; (have HC25 := Lib.hid C25); clear C25)
                  | (go_at_call 25; (with_reducible refine HC25.out.mono ?_); rintro e w10 ⟨rfl, q, rfl⟩))
                go_ret
                exact ⟨rfl, (h9.drewN q).below⟩
      · obtain rfl : k = n := by omega
        rcases h0 with ⟨rfl, rfl, rfl⟩ | h0
        · have hnz := HN.out
          have hlen : (esO (zs.take 0)).length = 0 := by rw [esO_len, List.length_take]; omega
          have hok := esO_ok (zs.take 0) (by rw [List.length_take]; omega) (fun z hzm => HZ.out z (List.mem_of_mem_take hzm))
          obtain ⟨es, hes⟩ : ∃ es, esO (zs.take 0) = es := ⟨_, rfl⟩
          rw [hes] at hlen hok hM
          clear hes hnz
          have n3 := num_three es
          have n4 := num_again es
          have hg3 : getO [oT, oO, treeO es] 3 = some (treeO es) := rfl
          have hwb := hst.below.size
          have hMw : Mine w (wr.alloc (.cells #[] 48)) (.slice (some ⟨wr.heap.size, 0, none⟩) 0 0) 48 3 0 [] F :=
            ⟨World.ownsRow_made wr #[] 0 hwb (by unfold maxLen; omega) rfl, fun j e hF => by
              have e' : wr.heap.size = j := by simpa [Value.ownBlock] using e
              have := (hst.st.in_ j hF).2
              omega⟩
          have hst1 := hst.alloc (.cells #[] 48)
          have HL := Lib.hid hlen
          obtain rfl : es = [] := List.eq_nil_of_length_eq_zero hlen
          have HC21 := Lib.hid (fun (W : World) (h : StW w W p [oT, oO] F) => (show Calls Tryd.prog 21 #[.pointer (some ⟨p, 0, none⟩), .slice none 0 0] W (PutW w W p [oT, oO] F 3 [oT, oO, treeO []]) from by
            have := treeW h (by simp) none [] 0 (ents_nil0 W) (by simp) hok
            rw [n3.1, n3.2] at this
            exact this))
          obtain ⟨g2, hg2⟩ : ∃ g2, wr.heap.size = g2 := ⟨_, rfl⟩
          have hW5 : Mine w (wr.alloc (.cells #[] 48)) (.slice (some ⟨g2, 0, none⟩) 0 0) 48 3 0 (entsC []) F := by rw [← hg2]; exact hMw
          clear hM hMw
          go_wp2_with (first
            | (go_at_call 21; (with_reducible refine (HC21.out _ hst1).mono ?_); rintro e w6 ⟨rfl, F6, h6, hg6⟩; (have hW6 := hW5.goes hg6)))
          go_loopw [10] (fun v10 wi => ∃ j : Nat, j ≤ 0 ∧ v10 = .int .i64 (j : Int) ∧ StW w wi p [oT, oO, treeO []] F6 ∧ Mine w wi (.slice (some ⟨g2, 0, none⟩) 0 0) 48 3 0 (entsC []) F6) (fun v10 _ => 0 - (intOf v10).toNat)
          case atStart => exact ⟨0, by omega, rfl, h6, hW6⟩
          case round =>
            obtain ⟨j, hj, rfl, hS, hWj⟩ := hrel
            have hj0 : (0 : Int) ≤ (j : Int) := Int.natCast_nonneg _
            by_cases hjk : j < 0
            · omega
            · obtain rfl : j = 0 := by omega
              have C24 := Lib.hid (fun (W : World) (h : StW w W p [oT, oO, treeO []] F6) => ents_full h.st (by simp) 3 [] hg3)
              have C24' : Hid (∀ (W : World) (h : StW w W p [oT, oO, treeO []] F6), Calls Tryd.prog 24 #[.pointer (some ⟨p, 0, none⟩), .int .i64 3] W fun e w' => ∃ g, e = .returned (.tuple #[.slice (some ⟨g, 0, none⟩) 0 0, .bool true]) ∧ Full w' g 48 (entsC []) ∧ W.heap.size ≤ g ∧ Below W.heap.size W w') := Lib.hid (fun W h => by
                have := C24.out W h
                unfold EntsFull at this
                rw [HL.out] at this
                exact this)
              clear C24
              go_wp2_with (go_at_call 24; (with_reducible refine (C24'.out _ hS).mono ?_); rintro e w7 ⟨g7, rfl, hF7, hg7, hb7⟩; (have h7 := hS.on hb7); (have hW7 := hWj.on hb7); (have hC7 := Cells.of_full hF7); rw [entsC_len, HL.out] at hC7; (have hn7 : ¬ F6 g7 := fun e => (by have := (hS.st.in_ g7 e).2; omega)); (have hw7 := hS.below.size); (have hne7 : g2 ≠ g7 := (by have := owns_lt hWj.own g2 rfl; omega)))
              clear hS hWj
              go_loopw [13] (fun v13 wi => ∃ i : Nat, i ≤ 0 ∧ v13 = .int .i64 (i : Int) ∧ StW w wi p [oT, oO, treeO []] F6 ∧ Mine w wi (.slice (some ⟨g2, 0, none⟩) 0 0) 48 3 0 (entsC []) F6 ∧ Cells wi g7 48 (0 * 3)) (fun v13 _ => 0 - (intOf v13).toNat)
              case atStart => exact ⟨0, by omega, rfl, h7, hW7, hC7⟩
              case round =>
                obtain ⟨i, hi', rfl, hS, hWi, hCi⟩ := hrel
                have hi0' : (0 : Int) ≤ (i : Int) := Int.natCast_nonneg _
                by_cases hik : i < 0
                · omega
                · obtain rfl : i = 0 := by omega
                  go_wp2_with (first
                    | (go_at_call 24; (with_reducible refine (C24'.out _ hS).mono ?_); rintro e w8 ⟨g8, rfl, hF8, hg8, hb8⟩; (have h8 := hS.on hb8); (have hW8 := hWi.on hb8); (have hn8 : ¬ F6 g8 := fun e => (by have := (hS.st.in_ g8 e).2; omega)); (have C21b := treeW h8 (by simp) _ [] 0 (hW8.ents HL.out) (by rw [HL.out]; omega) (treeOk_more hok)); rw [n4.1, n4.2, HL.out] at C21b; (have HC21b := Lib.hid C21b); clear C21b)
                    | (go_at_call 21; (with_reducible refine HC21b.out.mono ?_); rintro e w9 ⟨rfl, F9, h9, hg9⟩; (have hF9 : Full w9 g8 48 (entsC []) := (hg9.turn.block g8 hF8.lt hn8).trans hF8); (have hW9 := hW8.goes hg9); (have C25 := same_any w9.heap.size w9.heap.size _ _ [] [] 0 0 w9 (full_ents hF9 HL.out) (hW9.ents HL.out) (by rw [HL.out]; omega) (by rw [HL.out]; omega)); rw [decide_eq_true rfl, HL.out] at C25; (have HC25 := Lib.hid C25); clear C25)
                    | (go_at_call 25; (with_reducible refine HC25.out.mono ?_); rintro e w10 ⟨rfl, q, rfl⟩))
                  go_ret
                  exact ⟨rfl, (h9.drewN q).below⟩
        · have hnz := HN.out
          have hlen : (esO (zs.take k)).length = k := by rw [esO_len, List.length_take]; omega
          have hok := esO_ok (zs.take k) (by rw [List.length_take]; omega) (fun z hzm => HZ.out z (List.mem_of_mem_take hzm))
          obtain ⟨es, hes⟩ : ∃ es, esO (zs.take k) = es := ⟨_, rfl⟩
          rw [hes] at hlen hok hM
          clear hes hnz
          have n3 := num_three es
          have n4 := num_again es
          have hg3 : getO [oT, oO, treeO es] 3 = some (treeO es) := rfl
          have hwb := hst.below.size
          have hMw : Mine w (wr.alloc (.cells #[] 48)) (.slice (some ⟨wr.heap.size, 0, none⟩) 0 0) 48 3 0 [] F :=
            ⟨World.ownsRow_made wr #[] 0 hwb (by unfold maxLen; omega) rfl, fun j e hF => by
              have e' : wr.heap.size = j := by simpa [Value.ownBlock] using e
              have := (hst.st.in_ j hF).2
              omega⟩
          have hst1 := hst.alloc (.cells #[] 48)
          have hM1 := hM.on ((Below.refl _ wr).alloc (Nat.le_refl _) (.cells #[] 48))
          obtain ⟨g, cap, hv, hcell⟩ := hM1.form (by omega)
          injection hv with hD _ hd
          subst hD hd
          have hgl : g < wr.heap.size := owns_lt hM.own g rfl
          have hl3 : (entsC es).length = k * 3 := by rw [entsC_len, hlen]
          have hcells : ∀ j u, (entsC es)[j]? = some u → (wr.alloc (.cells #[] 48)).cell? ((⟨g, 0, none⟩ : Addr).add j) = some u := fun j u hj => by
            rw [show (⟨g, 0, none⟩ : Addr).add j = ⟨g, j, none⟩ by unfold Addr.add; split <;> simp_all]
            exact hcell j u hj
          have HL := Lib.hid hlen
          clear hM hcell
          go_wp2_with (first
            | (at_builtin; refine wpList_append_own_at _ rfl _ _ 46 rfl w.heap.size 48 i48 _ 3 32 Tryd.underlying46 hi hz0 hz1 hz2 rfl (by decide) (.slice (some ⟨wr.heap.size, 0, none⟩) 0 0) 0 [] rfl hMw.own ⟨g, 0, none⟩ k d (entsC es) rfl hl3 hcells (entsC_one es) (by unfold maxLen; omega) (by omega) (by simp; omega) ?_; intro v' w5 hown5 hgrow5 _ hloc; rw [Nat.zero_add, List.nil_append] at hown5; obtain ⟨g2, c2, rfl, _, _⟩ := hown5.form (by omega); obtain ⟨h5, hW5⟩ := hMw.app0 hst1 hgrow5 hown5 hloc; (have hM5 := hM1.grown hgrow5 (fun j e e' => (by have e1 : g = j := (by simpa [Value.ownBlock] using e); have e2 : wr.heap.size = j := (by simpa [Value.ownBlock] using e'); omega))); (have hne : g2 ≠ g := own_ne hloc hgl); (have C21 := treeW h5 (by simp) _ es d (hM5.ents HL.out) (by rw [HL.out]; omega) hok); rw [n3.1, n3.2, HL.out] at C21; (have HC21 := Lib.hid C21); clear C21)
            | (go_at_call 21; (with_reducible refine HC21.out.mono ?_); rintro e w6 ⟨rfl, F6, h6, hg6⟩; (have hW6 := hW5.goes hg6); (have hM6 := hM5.goes hg6); obtain ⟨mc, hC6, hmc⟩ := Cells.of_own hM6.own; (have hgF := hM6.lt g rfl)))
          go_loopw [10] (fun v10 wi => ∃ j : Nat, j ≤ k ∧ v10 = .int .i64 (j : Int) ∧ StW w wi p [oT, oO, treeO es] F6 ∧ Mine w wi (.slice (some ⟨g2, 0, none⟩) k c2) 48 3 k (entsC es) F6 ∧ Cells wi g 48 mc) (fun v10 _ => k - (intOf v10).toNat)
          case atStart => exact ⟨0, by omega, rfl, h6, hW6, hC6⟩
          case round =>
            obtain ⟨j, hj, rfl, hS, hWj, hCj⟩ := hrel
            have hj0 : (0 : Int) ≤ (j : Int) := Int.natCast_nonneg _
            by_cases hjk : j < k
            · have hj1 : (j : Int) < (k : Int) := by omega
              obtain ⟨⟨v0, hc0⟩, hf0⟩ := hCj.cell (i := j * 3) (by omega)
              go_wp2
              go_roundw
              case rel => exact ⟨j + 1, by omega, by go_num, hS.set_ (a := ⟨g, j * 3, none⟩) hgF.1 hgF.2.2 _, hWj.set_ (a := ⟨g, j * 3, none⟩) (by simpa [Value.ownBlock] using hne) _, hCj.set_ g (j * 3) _⟩
              case measure => simp [intOf]; omega
            · obtain rfl : j = k := by omega
              have C24 := Lib.hid (fun (W : World) (h : StW w W p [oT, oO, treeO es] F6) => ents_full h.st (by simp) 3 es hg3)
              have C24' : Hid (∀ (W : World) (h : StW w W p [oT, oO, treeO es] F6), Calls Tryd.prog 24 #[.pointer (some ⟨p, 0, none⟩), .int .i64 3] W fun e w' => ∃ g, e = .returned (.tuple #[.slice (some ⟨g, 0, none⟩) j j, .bool true]) ∧ Full w' g 48 (entsC es) ∧ W.heap.size ≤ g ∧ Below W.heap.size W w') := Lib.hid (fun W h => by
                have := C24.out W h
                unfold EntsFull at this
                rw [HL.out] at this
                exact this)
              clear C24
              go_wp2_with (go_at_call 24; (with_reducible refine (C24'.out _ hS).mono ?_); rintro e w7 ⟨g7, rfl, hF7, hg7, hb7⟩; (have h7 := hS.on hb7); (have hW7 := hWj.on hb7); (have hC7 := Cells.of_full hF7); rw [entsC_len, HL.out] at hC7; (have hn7 : ¬ F6 g7 := fun e => (by have := (hS.st.in_ g7 e).2; omega)); (have hw7 := hS.below.size); (have hne7 : g2 ≠ g7 := (by have := owns_lt hWj.own g2 rfl; omega)))
              clear hS hWj
              go_loopw [13] (fun v13 wi => ∃ i : Nat, i ≤ j ∧ v13 = .int .i64 (i : Int) ∧ StW w wi p [oT, oO, treeO es] F6 ∧ Mine w wi (.slice (some ⟨g2, 0, none⟩) j c2) 48 3 j (entsC es) F6 ∧ Cells wi g7 48 (j * 3)) (fun v13 _ => j - (intOf v13).toNat)
              case atStart => exact ⟨0, by omega, rfl, h7, hW7, hC7⟩
              case round =>
                obtain ⟨i, hi', rfl, hS, hWi, hCi⟩ := hrel
                have hi0' : (0 : Int) ≤ (i : Int) := Int.natCast_nonneg _
                by_cases hik : i < j
                · have hi1' : (i : Int) < (j : Int) := by omega
                  obtain ⟨⟨v0, hc0⟩, hf0⟩ := hCi.cell (i := i * 3 + 2) (by omega)
                  go_wp2
                  go_roundw
                  case rel => exact ⟨i + 1, by omega, by go_num, hS.set_ (a := ⟨g7, i * 3 + 2, none⟩) (by show w.heap.size ≤ g7; omega) hn7 _, hWi.set_ (a := ⟨g7, i * 3 + 2, none⟩) (by simpa [Value.ownBlock] using hne7) _, hCi.set_ g7 (i * 3 + 2) _⟩
                  case measure => simp [intOf]; omega
                · obtain rfl : i = j := by omega
                  go_wp2_with (first
                    | (go_at_call 24; (with_reducible refine (C24'.out _ hS).mono ?_); rintro e w8 ⟨g8, rfl, hF8, hg8, hb8⟩; (have h8 := hS.on hb8); (have hW8 := hWi.on hb8); (have hn8 : ¬ F6 g8 := fun e => (by have := (hS.st.in_ g8 e).2; omega)); (have C21b := treeW h8 (by simp) _ es c2 (hW8.ents HL.out) (by rw [HL.out]; omega) (treeOk_more hok)); rw [n4.1, n4.2, HL.out] at C21b; (have HC21b := Lib.hid C21b); clear C21b)
                    | (go_at_call 21; (with_reducible refine HC21b.out.mono ?_); rintro e w9 ⟨rfl, F9, h9, hg9⟩; (have hF9 : Full w9 g8 48 (entsC es) := (hg9.turn.block g8 hF8.lt hn8).trans hF8); (have hW9 := hW8.goes hg9); (have C25 := same_any w9.heap.size w9.heap.size _ _ es es i c2 w9 (full_ents hF9 HL.out) (hW9.ents HL.out) (by rw [HL.out]; omega) (by rw [HL.out]; omega)); rw [decide_eq_true rfl, HL.out] at C25; (have HC25 := Lib.hid C25); clear C25)
                    | (go_at_call 25; (with_reducible refine HC25.out.mono ?_); rintro e w10 ⟨rfl, q, rfl⟩))
                  go_ret
                  exact ⟨rfl, (h9.drewN q).below⟩

theorem contract (H : Type) (enc : TypeId × Value → H) (W : World) (base : Nat) (args : Array Value) (ds gs : List (DataW H)) (before : List MemPlace)
    (hval : ∀ (j : Nat) t v, Tryd.f11.params[j]? = some t → args[j]? = some v → Value.okWide Tryd.prog W .any base t v)
    (hW : DataW.Whole enc Tryd.prog Tryd.f11.params.toList Rows.storeOwnSpec.vars false W args.toList ds gs before) (hT : Tab W) :
    Calls Tryd.prog 11 args W fun e W' => ∃ v, e = .returned v ∧ Rows.storeOwnSpec.post enc Tryd.prog Tryd.f11 false true false false W args v W' := by
  have hW' := hW
  obtain ⟨p, q, hA0, hV, rfl, hfz, hnd⟩ := hW
  have hA : DataW.TrodAll enc Tryd.prog W 0 (fun _ => true) true Tryd.f11.params.toList args.toList ds p := hA0
  rw [Tryd.params11] at hA hval
  obtain ⟨v0, vs0, d0, ds0, p0, q0, e0, rfl, rfl, h0, r0⟩ := trodAll_cons hA
  obtain ⟨rfl, rfl, rfl⟩ := trodAll_nil r0
  obtain rfl : args = #[v0] := by cases args; simp_all
  obtain ⟨rfl, rfl⟩ := trodVars_none hV
  obtain ⟨A, zs, c, rfl, hI, hn, hz⟩ := open_bytes h0 (hval 0 54 v0 rfl rfl)
  refine (walk A zs c W hT hI hn hz).mono fun e W' ⟨he, hb⟩ => ⟨_, he, law_post rfl rfl ?_ rfl rfl rfl hW' hb⟩
  rw [Tryd.params11]
  intro t ht
  obtain rfl : t = 54 := by simpa using ht
  exact ⟨by kernel_rfl, of_decide_eq_true (by kernel_rfl)⟩

theorem laid_met (os : Os) : laidMet Tryd.prog Rows.storeOwnRow.laid ((laidWorld os).forCall (fun _ _ => 0) ⟨#[], #[.slice none 0 0], []⟩).memory :=
  laidMet_of_run' 8 (by kernel_rfl) (by kernel_rfl)
theorem reads (os : Os) {H : Type} (enc : TypeId × Value → H) : ∃ ds places, DataW.whole enc Tryd.prog ((laidWorld os).forCall (fun _ _ => 0) ⟨#[], #[.slice none 0 0], []⟩).memory Tryd.f11.params.toList Rows.storeOwnSpec.vars false (#[.slice none 0 0] : Array Value).toList 8 = some (ds, [], places) ∧ Rows.uptoSmall H (ds ++ []) = true :=
  ⟨[.nil], [], by kernel_rfl, by kernel_rfl⟩

set_option maxRecDepth 100000 in
theorem lifted (os : Os) (started : os.Started) (H : Type) (enc : TypeId × Value → H) (F : Stop.Interp) :
    ReturnsInHanded {} Tryd.checked os 11 .any ((OpenSpec.ofChange Rows.storeOwnSpec).preRow enc Tryd.prog Tryd.f11 Rows.storeOwnRow.domain false Rows.storeOwnRow.laid) (((OpenSpec.ofChange Rows.storeOwnSpec).at F).post enc Tryd.prog Tryd.f11 false true false false) := by
  obtain ⟨ds, places, hx, hsm⟩ := reads os enc
  refine returnsInHanded_of_row (C := Tryd.checked) (s := (OpenSpec.ofChange Rows.storeOwnSpec)) ownKnob_none started (by kernel_rfl) Tryd.func11
    (witness_row_at (enc := enc) (C := Tryd.checked) false (laidWorld os) #[.slice none 0 0] rfl (by kernel_rfl) (by kernel_rfl) (by kernel_rfl)
      (OpenSpec.preRow_of_cond 8 hx (by kernel_rfl) (fun k hk => by cases hk) (by kernel_rfl) (laid_met os))) ?_
  intro W base args ds gs before hval hW _ _ _ hL _ _
  exact contract H enc W base args ds gs before hval hW (tab_of_laid hL)

theorem said : Rows.StoreOwnSaid :=
  OpenClaim.holds_of_cond 11 Tryd.f11 rfl rfl rfl rfl rfl rfl rfl ⟨rfl, rfl, rfl, rfl, rfl⟩ rfl rfl rfl rfl rfl (by kernel_rfl) Tryd.func11 (by kernel_rfl)
    (of_decide_eq_true (by kernel_rfl)) (by unfold Func.isWrapper; first | (rw [if_pos (by decide +kernel)]; kernel_rfl) | (rw [if_neg (by decide +kernel)]; exact ⟨rfl, rfl⟩))
    (fun os started H enc _ F => by rw [OpenClaim.pre_eq_preRow]; exact lifted os started H enc F)

theorem plain (f : FuncId) (fn : Func) (hf : Tryd.pinned.checked.prog.funcNamed "mainline/mainlinelaw04.StoreOwn" = some f) (hfn : Tryd.pinned.checked.prog.funcs[f]? = some fn) :
    false = Tryd.pinned.checked.prog.looks [] ∧ ∀ (j : Nat) t, fn.params[j]? = some t → Tryd.pinned.checked.prog.wantsStandIn t = false := by
  obtain rfl : f = 11 := Option.some.inj ((show Tryd.prog.funcNamed "mainline/mainlinelaw04.StoreOwn" = some 11 by kernel_rfl).symm.trans hf) |>.symm
  obtain rfl : fn = Tryd.f11 := (Option.some.inj (Tryd.func11.symm.trans hfn)).symm
  refine ⟨by kernel_rfl, fun j t ht => ?_⟩
  rw [Tryd.params11] at ht
  have hm : t ∈ [54] := by have := Array.mem_of_getElem? ht; simpa using this
  have hall : ([54].all fun u => !Tryd.prog.wantsStandIn u) = true := by kernel_rfl
  exact (show Tryd.prog.wantsStandIn t = false by simpa using List.all_eq_true.1 hall t hm)

theorem card : Rows.StoreOwnCardSaid :=
  Claim7.holds_tied_plain_at .later [] _ _ _ _ said (fun _ h => by cases h) (by kernel_rfl) (fun _ h => by cases h) storeOwn_row_tie rfl ⟨rfl, rfl⟩ (by kernel_rfl) rfl plain (by kernel_rfl)

end Go.Proofs.YthnlldojidocoaaDoor.lown
