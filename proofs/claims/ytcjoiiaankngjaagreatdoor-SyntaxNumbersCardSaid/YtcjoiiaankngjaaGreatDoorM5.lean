/- The Syntax seat, part 5: contracts of the program and of the reference. -/
import Derived.Test.YtcjoiiaankngjaaGreatDoorM4
import Derived.Deep.AppendLies
/- The reference's Tokens. -/
namespace Go.Proofs.YtcjoiiaankngjaaGreatDoor
set_option maxRecDepth 100000
open Go.RowKit
theorem size_any (s : ByteArray) (hs : s.size ≤ 281474976710655) (hp : 0 < s.size) (w : World) : Calls Tryz.prog 51 #[.string s] w (SizeOut w (first s.data.toList)) := by
  have hcons : s.data.toList = s[0] :: s.data.toList.drop 1 := by have := drop_at s 0 hp; rwa [List.drop_zero] at this
  by_cases h1 : isLet s[0] = true
  · have e : first s.data.toList = (2, run isCont s.data.toList) := by
      rw [hcons, first, if_pos h1]
    rw [e]
    exact size_word s hs hp h1 w
  · have h1' : isLet s[0] = false := by simpa using h1
    by_cases h2 : isDig s[0] = true
    · have e : first s.data.toList = (3, run isDig s.data.toList) := by
        rw [hcons, first, if_neg h1, if_pos h2]
      rw [e]
      exact size_num s hs hp h1' h2 w
    · have h2' : isDig s[0] = false := by simpa using h2
      by_cases h4 : s[0] = 34
      · have e : first s.data.toList = if strLen (s.data.toList.drop 1) ≠ 0 then (4, strLen (s.data.toList.drop 1)) else (0, 1) := by
          conv => lhs; rw [hcons]
          rw [first, if_neg h1, if_neg h2, if_neg (by rw [h4]; decide)]
          by_cases hz : strLen (s.data.toList.drop 1) ≠ 0
          · rw [if_pos ⟨h4, hz⟩, if_pos hz]
          · rw [if_neg (fun h => hz h.2), if_neg hz]
        rw [e]
        exact size_str s hs hp h1' h2' h4 w
      · have e : first s.data.toList = if isSym s[0] then (5, 1) else (0, 1) := by
          conv => lhs; rw [hcons]
          rw [first, if_neg h1, if_neg h2]
          by_cases h3 : isSym s[0] = true
          · rw [if_pos h3, if_pos h3]
          · rw [if_neg h3, if_neg h3, if_neg (fun h => h4 h.1)]
        rw [e]
        exact size_sym s hs hp h1' h2' h4 w
/-- a token of the reference -/
structure RTok where
  kd : Int
  tx : List UInt8
  ln : Nat
def convT (t : Tok) : RTok := ⟨kindOf t.cls, if t.cls = 4 then (t.txt.drop 1).take (t.txt.length - 2) else t.txt, t.ln⟩
def rtC (t : RTok) : List Value := [.int .i64 t.kd, .string (str t.tx), .int .i64 (t.ln : Int)]
def rtsC (l : List RTok) : List Value := l.flatMap rtC
theorem rtsC_snoc (l : List RTok) (t : RTok) : rtsC (l ++ [t]) = rtsC l ++ rtC t := by unfold rtsC; rw [List.flatMap_append]; simp
def rToks (s : List UInt8) (n : Nat) : List RTok := (toks s n).map convT
theorem toks_skip {s t : List UInt8} {n m : Nat} (h : skip false s n = skip false t m) : toks s n = toks t m := by
  rw [toks_eq s n, toks_eq t m]
  have e : next s n = next t m := by unfold next; rw [h]
  rw [e]
theorem rToks_skip {s t : List UInt8} {n m : Nat} (h : skip false s n = skip false t m) : rToks s n = rToks t m := by unfold rToks; rw [toks_skip h]
theorem rToks_end (n : Nat) : rToks [] n = [⟨0, [], n⟩] := by
  unfold rToks
  rw [toks_eq]
  rfl
/-- a token that stands at once -/
theorem rToks_tok {c : UInt8} {t : List UInt8} {n : Nat} (h1 : c ≠ 10) (h2 : ¬ (c = 32 ∨ c = 9 ∨ c = 13)) (h3 : c ≠ 35) :
    rToks (c :: t) n = if (first (c :: t)).1 = 0 then [convT ⟨(first (c :: t)).1, (c :: t).take (first (c :: t)).2, n⟩] else convT ⟨(first (c :: t)).1, (c :: t).take (first (c :: t)).2, n⟩ :: rToks ((c :: t).drop (first (c :: t)).2) n := by
  have e : skip false (c :: t) n = (c :: t, n) := by rw [skip, if_neg h1, if_neg h2, if_neg h3]
  have hn : next (c :: t) n = (⟨(first (c :: t)).1, (c :: t).take (first (c :: t)).2, n⟩, (c :: t).drop (first (c :: t)).2, n) := by
    unfold next
    rw [e]
  have h11 : (first (c :: t)).1 ≠ 1 := by
    rw [first]
    repeat' split
    all_goals simp
  unfold rToks
  rw [toks_eq, hn]
  dsimp only
  by_cases h0 : (first (c :: t)).1 = 0
  · rw [if_pos (by omega), if_pos h0]
    rfl
  · rw [if_neg (by omega), if_neg h0]
    rfl
theorem first_pos1 {c : UInt8} {t : List UInt8} : 1 ≤ (first (c :: t)).2 := by
  rw [first]
  split
  · rename_i h
    dsimp only
    rw [run, if_pos (by unfold isCont; rw [h]; rfl)]
    omega
  · split
    · rename_i h
      dsimp only
      rw [run, if_pos h]
      omega
    · split
      · exact Nat.le_refl _
      · split
        · rename_i h
          have := h.2
          dsimp only
          omega
        · exact Nat.le_refl _
theorem info70 : (Tryz.prog.info? 70).map (fun i => (i.zero, i.size, i.bytes)) = some (some (.agg #[.int .i64 0, .string ⟨#[]⟩, .int .i64 0]), 3, 32) := by kernel_rfl
end Go.Proofs.YtcjoiiaankngjaaGreatDoor
/- The reference's Tokens. -/
namespace Go.Proofs.YtcjoiiaankngjaaGreatDoor
set_option maxRecDepth 100000
open Go.RowKit
theorem first_ne1 {c : UInt8} {t : List UInt8} : (first (c :: t)).1 ≠ 1 := by
  rw [first]
  repeat' split
  all_goals simp
theorem first_le5 {c : UInt8} {t : List UInt8} : (first (c :: t)).1 ≤ 5 := by
  rw [first]
  repeat' split
  all_goals simp
theorem first_four {c : UInt8} {t : List UInt8} : (first (c :: t)).1 = 4 → 2 ≤ (first (c :: t)).2 := by
  rw [first]
  split
  · simp
  · split
    · simp
    · split
      · simp
      · split
        · rename_i h
          intro _
          have h2 := h.2
          dsimp only
          unfold strLen at h2 ⊢
          dsimp only at h2 ⊢
          split at h2
          · rename_i h3; rw [if_pos h3]; omega
          · exact absurd rfl h2
        · simp
theorem kind_ne3 {c : Nat} (h : c ≠ 4) : (kindOf c == 3) = false := by
  unfold kindOf
  split <;> first | rfl | exact absurd rfl h
theorem kind_ne5 {c : Nat} (h0 : c ≠ 0) (h1 : c ≠ 1) (h5 : c ≤ 5) : (kindOf c == 5) = false := by
  obtain rfl | rfl | rfl | rfl : c = 2 ∨ c = 3 ∨ c = 4 ∨ c = 5 := by omega
  all_goals rfl
def TokensOut (w : World) (l : List RTok) (en : Ending) (w' : World) : Prop :=
  ∃ A c, en = .returned (.slice A l.length c) ∧ w'.ownsRow w.heap.size 70 3 (.slice A l.length c) l.length (rtsC l) ∧ Below w.heap.size w w'
set_option maxHeartbeats 16000000 in
theorem tokens_any (s : ByteArray) (hs : s.size ≤ 4294967000) (w : World) : Calls Tryz.prog 34 #[.string s] w (TokensOut w (rToks s.data.toList 1)) := by
  unfold TokensOut
  have hl0 := data_len s
  obtain ⟨i0, hi, hz0, hz1, hz2⟩ := info_parts info70
  obtain ⟨L, hL⟩ : ∃ L, rToks s.data.toList 1 = L := ⟨_, rfl⟩
  rw [hL]
  have HS := Lib.hid (show [] ++ rToks (s.data.toList.drop 0) 1 = L from hL)
  have HDR := Lib.hid (fun (k : Nat) (h : k < s.size) => drop_at s k h)
  have hsi : (s.size : Int) ≤ 4294967000 := by omega
  have h0W : w.ownsRow w.heap.size 70 3 (.slice none 0 0) 0 (rtsC []) := ⟨rfl, .inl ⟨rfl, rfl⟩⟩
  have HO0 := Lib.hid h0W
  clear hL h0W
  go_enter Tryz.func34, Tryz.ntmps34
  go_upto_region 4 with fail
  go_loopw [3, 4, 5] (fun v3 v4 v5 wr => ∃ (A : Option Addr) (m c k n : Nat) (acc : List RTok), v3 = .slice A m c ∧ v4 = .int .i64 (n : Int) ∧ v5 = .int .i64 (k : Int) ∧ k ≤ s.size ∧ n ≤ k + 1 ∧ m ≤ k ∧ Hid (m = acc.length) ∧ Hid (wr.ownsRow w.heap.size 70 3 (.slice A m c) m (rtsC acc)) ∧ Hid (acc ++ rToks (s.data.toList.drop k) n = L) ∧ Hid (Below w.heap.size w wr)) (fun _ _ v5 _ => s.size - (intOf v5).toNat)
  case atStart => exact ⟨none, 0, 0, 0, 1, [], rfl, rfl, rfl, Nat.zero_le _, Nat.le_refl _, Nat.le_refl _, Lib.hid rfl, HO0, HS, Lib.hid (Below.refl _ _)⟩
  case round =>
    obtain ⟨A, m, c, k, n, acc, rfl, rfl, rfl, hk, hn, hm, HM, HOW, HT, HB⟩ := hrel
    have k0 : (0 : Int) ≤ (k : Int) := Int.natCast_nonneg _
    have hsz := HB.out.size
    by_cases hks : k < s.size
    · have k1 : (k : Int) < (s.size : Int) := by omega
      have hdr := HDR.out k hks
      by_cases h10 : s[k] = 10
      · have e10 : ((s[k].toNat : Int) == 10) = true := by rw [h10]; rfl
        have HT2 := Lib.hid (show acc ++ rToks (s.data.toList.drop (k + 1)) (n + 1) = L from by
          have q := HT.out
          rw [hdr, rToks_skip (s := s[k] :: s.data.toList.drop (k + 1)) (t := s.data.toList.drop (k + 1)) (m := n + 1) (by rw [skip, if_pos h10])] at q
          exact q)
        clear h10 hdr
        go_wp2
        go_roundw
        case rel => exact ⟨A, m, c, k + 1, n + 1, acc, rfl, by go_num, by go_num, by omega, by omega, by omega, HM, HOW, HT2, HB⟩
        case measure => simp [intOf]; omega
      · have e10 : ((s[k].toNat : Int) == 10) = false := by
          have : s[k].toNat ≠ 10 := fun e => h10 (UInt8.toNat.inj (by rw [e]; rfl))
          simp; omega
        by_cases hbl : s[k] = 32 ∨ s[k] = 9 ∨ s[k] = 13
        · have HT2 := Lib.hid (show acc ++ rToks (s.data.toList.drop (k + 1)) n = L from by
            have q := HT.out
            rw [hdr, rToks_skip (s := s[k] :: s.data.toList.drop (k + 1)) (t := s.data.toList.drop (k + 1)) (m := n) (by rw [skip, if_neg h10, if_pos hbl])] at q
            exact q)
          obtain ⟨y1, e32⟩ : ∃ y, ((s[k].toNat : Int) == 32) = y := ⟨_, rfl⟩
          obtain ⟨y2, e9⟩ : ∃ y, ((s[k].toNat : Int) == 9) = y := ⟨_, rfl⟩
          obtain ⟨y3, e13⟩ : ∃ y, ((s[k].toNat : Int) == 13) = y := ⟨_, rfl⟩
          have hy : (y1 || (y2 || y3)) = true := by
            rcases hbl with h | h | h
            · rw [← e32, h]; rfl
            · rw [← e9, h]; simp
            · rw [← e13, h]; simp
          clear h10 hbl hdr
          cases y1 with
          | true => (go_wp2; go_roundw; (case rel => exact ⟨A, m, c, k + 1, n, acc, rfl, rfl, by go_num, by omega, by omega, by omega, HM, HOW, HT2, HB⟩); (case measure => simp [intOf]; omega))
          | false =>
            cases y2 with
            | true => (go_wp2; go_roundw; (case rel => exact ⟨A, m, c, k + 1, n, acc, rfl, rfl, by go_num, by omega, by omega, by omega, HM, HOW, HT2, HB⟩); (case measure => simp [intOf]; omega))
            | false =>
              cases y3 with
              | false => simp at hy
              | true => (go_wp2; go_roundw; (case rel => exact ⟨A, m, c, k + 1, n, acc, rfl, rfl, by go_num, by omega, by omega, by omega, HM, HOW, HT2, HB⟩); (case measure => simp [intOf]; omega))
        · have e32 : ((s[k].toNat : Int) == 32) = false := by
            have : s[k].toNat ≠ 32 := fun e => hbl (.inl (UInt8.toNat.inj (by rw [e]; rfl)))
            simp; omega
          have e9 : ((s[k].toNat : Int) == 9) = false := by
            have : s[k].toNat ≠ 9 := fun e => hbl (.inr (.inl (UInt8.toNat.inj (by rw [e]; rfl))))
            simp; omega
          have e13 : ((s[k].toNat : Int) == 13) = false := by
            have : s[k].toNat ≠ 13 := fun e => hbl (.inr (.inr (UInt8.toNat.inj (by rw [e]; rfl))))
            simp; omega
          by_cases h35 : s[k] = 35
          · have e35 : ((s[k].toNat : Int) == 35) = true := by rw [h35]; rfl
            have HSK := Lib.hid (show skip false (s.data.toList.drop k) n = skip true (s.data.toList.drop (k + 1)) n from by rw [hdr, skip, if_neg h10, if_neg hbl, if_pos h35])
            have e10n : ((s[k].toNat : Int) != 10) = true := by rw [bne, e10]; rfl
            clear h10 hbl h35 hdr
            go_upto_region 19 with fail
            go_loopw [5] (fun v5 wq => ∃ j : Nat, v5 = .int .i64 (j : Int) ∧ k ≤ j ∧ j ≤ s.size ∧ Hid (j = k ∨ skip false (s.data.toList.drop k) n = skip true (s.data.toList.drop j) n) ∧ wq = wr) (fun v5 _ => s.size - (intOf v5).toNat)
            case atStart => exact ⟨k, rfl, Nat.le_refl _, hk, Lib.hid (.inl rfl), rfl⟩
            case round =>
              obtain ⟨j, rfl, hj1, hj2, HJ, hww⟩ := hrel
              rw [hww]
              clear hww
              have j0 : (0 : Int) ≤ (j : Int) := Int.natCast_nonneg _
              by_cases hjs : j < s.size
              · have j1 : (j : Int) < (s.size : Int) := by omega
                have hdj := HDR.out j hjs
                by_cases hj10 : s[j] = 10
                · have ej : ((s[j].toNat : Int) != 10) = false := by rw [hj10]; rfl
                  have hjk : j ≠ k := fun e => by
                    subst e
                    rw [hj10] at e10n
                    exact absurd e10n (by decide)
                  have HT2 := Lib.hid (show acc ++ rToks (s.data.toList.drop j) n = L from by
                    have q := HT.out
                    have z := HJ.out.resolve_left hjk
                    rw [rToks_skip (t := s.data.toList.drop j) (m := n) (z.trans (by rw [hdj, skip, if_pos hj10, skip, if_pos hj10]))] at q
                    exact q)
                  clear hj10 hdj
                  go_wp2
                  go_roundw
                  case rel => exact ⟨A, m, c, j, n, acc, rfl, rfl, rfl, hj2, by omega, by omega, HM, HOW, HT2, HB⟩
                  case measure => simp [intOf]; omega
                · have ej : ((s[j].toNat : Int) != 10) = true := by
                    have : s[j].toNat ≠ 10 := fun e => hj10 (UInt8.toNat.inj (by rw [e]; rfl))
                    simp; omega
                  have HJ2 := Lib.hid (show j + 1 = k ∨ skip false (s.data.toList.drop k) n = skip true (s.data.toList.drop (j + 1)) n from by
                    right
                    rcases HJ.out with e | e
                    · subst e; exact HSK.out
                    · rw [e, hdj, skip, if_neg hj10])
                  clear hj10 hdj
                  go_wp2
                  go_roundw
                  case rel => exact ⟨j + 1, by go_num, by omega, by omega, HJ2, by simp⟩
                  case measure => simp [intOf]; omega
              · obtain rfl : j = s.size := by omega
                have j1 : ¬ ((s.size : Nat) : Int) < (s.size : Int) := by omega
                have hjk : s.size ≠ k := by omega
                have HT2 := Lib.hid (show acc ++ rToks (s.data.toList.drop s.size) n = L from by
                  have q := HT.out
                  have z := HJ.out.resolve_left hjk
                  rw [rToks_skip (t := s.data.toList.drop s.size) (m := n) (z.trans (by rw [List.drop_eq_nil_of_le (by rw [hl0]; exact Nat.le_refl _)]; rfl))] at q
                  exact q)
                go_wp2
                go_roundw
                case rel => exact ⟨A, m, c, s.size, n, acc, rfl, rfl, rfl, Nat.le_refl _, by omega, by omega, HM, HOW, HT2, HB⟩
                case measure => simp [intOf]; omega
          · have e35 : ((s[k].toNat : Int) == 35) = false := by
              have : s[k].toNat ≠ 35 := fun e => h35 (UInt8.toNat.inj (by rw [e]; rfl))
              simp; omega
            have hXd : (s.extract k s.size).data.toList = s.data.toList.drop k := by rw [ext_cut, str_data, cut_end]
            have hXs : (s.extract k s.size).size = s.size - k := by rw [ByteArray.size_extract]; omega
            have SZ := size_any (s.extract k s.size) (by rw [hXs]; omega) (by rw [hXs]; omega) wr
            unfold SizeOut at SZ
            rw [hXd] at SZ
            have hq := HT.out
            have hfp := first_pos1 (c := s[k]) (t := s.data.toList.drop (k + 1))
            have hfl := first_le (s[k] :: s.data.toList.drop (k + 1))
            have hf4 : (first (s[k] :: s.data.toList.drop (k + 1))).1 = 4 → 2 ≤ (first (s[k] :: s.data.toList.drop (k + 1))).2 := first_four
            rw [← hdr] at hfp hfl hf4
            rw [List.length_drop, hl0] at hfl
            rw [hdr, rToks_tok h10 hbl h35, ← hdr] at hq
            obtain ⟨cl, hcl⟩ : ∃ x, (first (s.data.toList.drop k)).1 = x := ⟨_, rfl⟩
            obtain ⟨z, hz⟩ : ∃ x, (first (s.data.toList.drop k)).2 = x := ⟨_, rfl⟩
            have hcl1 : cl ≠ 1 := by rw [← hcl, hdr]; exact first_ne1
            have hcl5 : cl ≤ 5 := by rw [← hcl, hdr]; exact first_le5
            rw [hcl, hz] at SZ hq
            rw [hz] at hfp hfl
            rw [hcl, hz] at hf4
            have hdd : (s.data.toList.drop k).drop z = s.data.toList.drop (k + z) := by rw [List.drop_drop]
            rw [hdd] at hq
            have kz : (k : Int) + (z : Int) ≤ (s.size : Int) := by omega
            have z1 : (1 : Int) ≤ (z : Int) := by omega
            have hTX : s.extract k (k + z) = str ((s.data.toList.drop k).take z) := by
              rw [ext_cut]
              congr 1
              unfold cutL
              rw [Nat.add_sub_cancel_left]
            have htl : ((s.data.toList.drop k).take z).length = z := by rw [List.length_take, List.length_drop, hl0]; omega
            obtain ⟨X, hX⟩ : ∃ X, s.extract k s.size = X := ⟨_, rfl⟩
            rw [hX] at SZ
            clear hdr hXd hXs hcl hz hdd h10 hbl h35
            obtain ⟨w2, hw2⟩ : ∃ w2, wr.alloc (.cells #[.int .i64 (kindOf cl), .string (s.extract k (k + z)), .int .i64 (n : Int)] 70) = w2 := ⟨_, rfl⟩
            have hb2 : Below wr.heap.size wr w2 := by rw [← hw2]; exact (Below.refl _ wr).alloc (Nat.le_refl _) _
            have F2 : Full w2 wr.heap.size 70 [.int .i64 (kindOf cl), .string (s.extract k (k + z)), .int .i64 (n : Int)] := by rw [← hw2]; exact Full.new wr 70 _
            obtain ⟨u, hu⟩ : ∃ u, wr.heap.size = u := ⟨_, rfl⟩
            rw [hu] at F2
            have hs2 : w2.heap.size = u + 1 := by rw [← hw2, ← hu]; exact World.size_alloc _ _
            have hO2 := own_keep HOW.out hb2
            have hB2 := HB.out.trans (hb2.mono hsz)
            obtain ⟨TX, hTT⟩ : ∃ T, s.extract k (k + z) = T := ⟨_, rfl⟩
            rw [hTT] at F2 hTX hw2
            by_cases h4 : cl = 4
            · subst h4
              have hzz2 := hf4 rfl
              rw [if_neg (by decide)] at hq
              have HL := Lib.hid (show (acc ++ [convT ⟨4, (s.data.toList.drop k).take z, n⟩]) ++ rToks (s.data.toList.drop (k + z)) n = L from by rw [List.append_assoc]; exact hq)
              have hT2 : s.extract (k + 1) (k + z - 1) = str (convT ⟨4, (s.data.toList.drop k).take z, n⟩).tx := by
                rw [ext_cut]
                congr 1
                unfold convT
                rw [if_pos rfl]
                dsimp only
                rw [htl]
                unfold cutL
                rw [List.drop_take, List.take_take, List.drop_drop]
                congr 1
                omega
              obtain ⟨T2, hTT2⟩ : ∃ T, s.extract (k + 1) (k + z - 1) = T := ⟨_, rfl⟩
              rw [hTT2] at hT2
              have F3 := F2.set_ 1 (.string T2)
              have b1 := F2.cell 1
              have b2 := F2.frozen 1
              dsimp only [List.set_cons_succ, List.set_cons_zero, List.getElem?_cons_zero, List.getElem?_cons_succ] at F3 b1
              have hTs : Turn (fun g => g = u) w2 (w2.setCell ⟨u, 1, none⟩ (.string T2)) := Turn.set_ (F := fun g => g = u) (a := ⟨u, 1, none⟩) rfl _
              have hO3 := own_off hO2 hTs (fun g hg => (by have := (HOW.out.lt g hg).2; omega))
              have hB3 : Below w.heap.size w (w2.setCell ⟨u, 1, none⟩ (.string T2)) := hB2.setCell (p := ⟨u, 1, none⟩) (by show w.heap.size ≤ u; omega) _
              obtain ⟨w3, hw3⟩ : ∃ w3, w2.setCell ⟨u, 1, none⟩ (.string T2) = w3 := ⟨_, rfl⟩
              rw [hw3] at F3 hO3 hB3
              have q0 := F3.cell 0
              have q1 := F3.cell 1
              have q2 := F3.cell 2
              dsimp only [List.getElem?_cons_zero, List.getElem?_cons_succ] at q0 q1 q2
              have hs3 : w3.heap.size = u + 1 := by
                rw [← hw3, ← hs2]
                simp [World.setCell]
              have kz1 : (k : Int) + 1 ≤ (k : Int) + (z : Int) - 1 := by omega
              have kz2 : (k : Int) + (z : Int) - 1 ≤ (s.size : Int) := by omega
              have e3 : (kindOf 4 == 3) = true := by decide
              have e5 : (kindOf 4 == 5) = false := by decide
              obtain ⟨kd, hkd⟩ : ∃ x, kindOf 4 = x := ⟨_, rfl⟩
              have HTOK := Lib.hid (show rtC (convT ⟨4, (s.data.toList.drop k).take z, n⟩) = [.int .i64 kd, .string T2, .int .i64 (n : Int)] from by unfold rtC; rw [← hT2, ← hkd]; rfl)
              rw [hkd] at SZ e3 e5 q0 hw2
              have HCN := Lib.hid (show ∀ j u', [Value.int .i64 kd, .string T2, .int .i64 (n : Int)][j]? = some u' → (w3.alloc (.cells #[.int .i64 kd, .string T2, .int .i64 (n : Int)] 70)).cell? ((⟨u + 1, 0, none⟩ : Addr).add j) = some u' from fun j u' hj => by
                obtain ⟨ad, e, _, hc⟩ := ((Full.new w3 70 [.int .i64 kd, .string T2, .int .i64 (n : Int)]).row 3 1 rfl 1 (Nat.le_refl _)).2.2.2 j u' hj
                injection e with e
                subst e
                rw [hs3] at hc
                exact hc)
              have hba : Below w3.heap.size w3 (w3.alloc (.cells #[.int .i64 kd, .string T2, .int .i64 (n : Int)] 70)) := (Below.refl _ w3).alloc (Nat.le_refl _) _
              have HOA := Lib.hid (own_keep hO3 hba)
              have HBA := Lib.hid (hB3.trans (hba.mono (by rw [hs3]; omega)))
              have hsa := hba.size
              rw [hs3] at hsa
              have HTL := Lib.hid (And.intro htl hTX)
              have SZ := Lib.hid SZ
              clear hba hO3 hB3 hO2 hB2 hb2 F2 hq hkd hT2 htl hTX hf4
              go_wp2_with (first
                | (go_at_call 51; ((with_reducible refine SZ.out.mono ?_); rintro en w5 ⟨rfl, rfl⟩))
                | (at_builtin; go_loud (refine wpList_append_own _ rfl _ _ 67 rfl w.heap.size 70 i0 (.agg #[.int .i64 0, .string ⟨#[]⟩, .int .i64 0]) 3 32 Tryz.underlying67 hi hz0 hz1 hz2 rfl (by decide) (.slice A m c) _ _ rfl HOA.out ⟨u + 1, 0, none⟩ 1 1 [.int .i64 kd, .string T2, .int .i64 (n : Int)] (by simp [Act.eval]) rfl HCN.out (by intro u hu; simp at hu; rcases hu with rfl | rfl | rfl <;> rfl) (by unfold maxLen; omega) (by omega) (by omega) ?_; intro v' w9 hown9 hgrow9 _; (have HO9 := Lib.hid hown9); (have HG9 := Lib.hid hgrow9); (obtain ⟨A9, c9, rfl⟩ := own_form hown9); (have HR1 := Lib.hid (show w9.ownsRow w.heap.size 70 3 (.slice A9 (m + 1) c9) (m + 1) (rtsC (acc ++ [convT ⟨4, (s.data.toList.drop k).take z, n⟩])) from by rw [rtsC_snoc, HTOK.out]; exact hown9)); (have HR2 := Lib.hid (HBA.out.grown hgrow9 (by omega) (row_ge HOA.out))); clear hown9 hgrow9))
                | (fail "arm"))
              go_roundw
              case rel => exact ⟨A9, m + 1, c9, k + z, n, acc ++ [convT ⟨4, (s.data.toList.drop k).take z, n⟩], rfl, rfl, by go_num, by omega, by omega, by omega, Lib.hid (by rw [List.length_append, ← HM.out]; rfl), HR1, HL, HR2⟩
              case measure => simp [intOf]; omega
            · have hcv : (convT ⟨cl, (s.data.toList.drop k).take z, n⟩).tx = (s.data.toList.drop k).take z := by unfold convT; rw [if_neg h4]
              have q0 := F2.cell 0
              have q1 := F2.cell 1
              have q2 := F2.cell 2
              dsimp only [List.getElem?_cons_zero, List.getElem?_cons_succ] at q0 q1 q2
              have hs3 := hs2
              have hO3 := hO2
              have hB3 := hB2
              obtain ⟨w3, hw3⟩ : ∃ w3, w2 = w3 := ⟨_, rfl⟩
              subst hw3
              by_cases h0 : cl = 0
              · subst h0
                rw [if_pos rfl] at hq
                have HL := Lib.hid hq
                have e3 : (kindOf 0 == 3) = false := by decide
                have e5 : (kindOf 0 == 5) = true := by decide
                have hT2 : TX = str (convT ⟨0, (s.data.toList.drop k).take z, n⟩).tx := by rw [hcv]; exact hTX
                obtain ⟨kd, hkd⟩ : ∃ x, kindOf 0 = x := ⟨_, rfl⟩
                have HTOK := Lib.hid (show rtC (convT ⟨0, (s.data.toList.drop k).take z, n⟩) = [.int .i64 kd, .string TX, .int .i64 (n : Int)] from by unfold rtC; rw [← hT2, ← hkd]; rfl)
                rw [hkd] at SZ e3 e5 q0 hw2
                have HCN := Lib.hid (show ∀ j u', [Value.int .i64 kd, .string TX, .int .i64 (n : Int)][j]? = some u' → (w2.alloc (.cells #[.int .i64 kd, .string TX, .int .i64 (n : Int)] 70)).cell? ((⟨u + 1, 0, none⟩ : Addr).add j) = some u' from fun j u' hj => by
                  obtain ⟨ad, e, _, hc⟩ := ((Full.new w2 70 [.int .i64 kd, .string TX, .int .i64 (n : Int)]).row 3 1 rfl 1 (Nat.le_refl _)).2.2.2 j u' hj
                  injection e with e
                  subst e
                  rw [hs3] at hc
                  exact hc)
                have hba : Below w2.heap.size w2 (w2.alloc (.cells #[.int .i64 kd, .string TX, .int .i64 (n : Int)] 70)) := (Below.refl _ w2).alloc (Nat.le_refl _) _
                have HOA := Lib.hid (own_keep hO3 hba)
                have HBA := Lib.hid (hB3.trans (hba.mono (by rw [hs3]; omega)))
                have hsa := hba.size
                rw [hs3] at hsa
                have HTL := Lib.hid (And.intro htl hTX)
                have SZ := Lib.hid SZ
                clear hba hO3 hB3 hO2 hB2 hb2 F2 hq hkd hT2 htl hTX hf4
                go_wp2_with (first
                  | (go_at_call 51; ((with_reducible refine SZ.out.mono ?_); rintro en w5 ⟨rfl, rfl⟩))
                  | (at_builtin; go_loud (refine wpList_append_own _ rfl _ _ 67 rfl w.heap.size 70 i0 (.agg #[.int .i64 0, .string ⟨#[]⟩, .int .i64 0]) 3 32 Tryz.underlying67 hi hz0 hz1 hz2 rfl (by decide) (.slice A m c) _ _ rfl HOA.out ⟨u + 1, 0, none⟩ 1 1 [.int .i64 kd, .string TX, .int .i64 (n : Int)] (by simp [Act.eval]) rfl HCN.out (by intro u hu; simp at hu; rcases hu with rfl | rfl | rfl <;> rfl) (by unfold maxLen; omega) (by omega) (by omega) ?_; intro v' w9 hown9 hgrow9 _; (have HO9 := Lib.hid hown9); (have HG9 := Lib.hid hgrow9); (obtain ⟨A9, c9, rfl⟩ := own_form hown9); (have HR1 := Lib.hid (show w9.ownsRow w.heap.size 70 3 (.slice A9 (m + 1) c9) (m + 1) (rtsC (acc ++ [convT ⟨0, (s.data.toList.drop k).take z, n⟩])) from by rw [rtsC_snoc, HTOK.out]; exact hown9)); (have HR2 := Lib.hid (HBA.out.grown hgrow9 (by omega) (row_ge HOA.out))); clear hown9 hgrow9))
                  | (fail "arm"))
                go_ret
                have hle : L.length = m + 1 := by rw [← HL.out, List.length_append, ← HM.out]; rfl
                rw [hle]
                exact ⟨A9, c9, rfl, by rw [← HL.out]; exact HR1.out, HR2.out⟩
              · rw [if_neg h0] at hq
                have HL := Lib.hid (show (acc ++ [convT ⟨cl, (s.data.toList.drop k).take z, n⟩]) ++ rToks (s.data.toList.drop (k + z)) n = L from by rw [List.append_assoc]; exact hq)
                have e3 : (kindOf cl == 3) = false := kind_ne3 h4
                have e5 : (kindOf cl == 5) = false := kind_ne5 h0 hcl1 hcl5
                have hT2 : TX = str (convT ⟨cl, (s.data.toList.drop k).take z, n⟩).tx := by rw [hcv]; exact hTX
                obtain ⟨kd, hkd⟩ : ∃ x, kindOf cl = x := ⟨_, rfl⟩
                have HTOK := Lib.hid (show rtC (convT ⟨cl, (s.data.toList.drop k).take z, n⟩) = [.int .i64 kd, .string TX, .int .i64 (n : Int)] from by unfold rtC; rw [← hT2, ← hkd]; rfl)
                rw [hkd] at SZ e3 e5 q0 hw2
                have HCN := Lib.hid (show ∀ j u', [Value.int .i64 kd, .string TX, .int .i64 (n : Int)][j]? = some u' → (w2.alloc (.cells #[.int .i64 kd, .string TX, .int .i64 (n : Int)] 70)).cell? ((⟨u + 1, 0, none⟩ : Addr).add j) = some u' from fun j u' hj => by
                  obtain ⟨ad, e, _, hc⟩ := ((Full.new w2 70 [.int .i64 kd, .string TX, .int .i64 (n : Int)]).row 3 1 rfl 1 (Nat.le_refl _)).2.2.2 j u' hj
                  injection e with e
                  subst e
                  rw [hs3] at hc
                  exact hc)
                have hba : Below w2.heap.size w2 (w2.alloc (.cells #[.int .i64 kd, .string TX, .int .i64 (n : Int)] 70)) := (Below.refl _ w2).alloc (Nat.le_refl _) _
                have HOA := Lib.hid (own_keep hO3 hba)
                have HBA := Lib.hid (hB3.trans (hba.mono (by rw [hs3]; omega)))
                have hsa := hba.size
                rw [hs3] at hsa
                have HTL := Lib.hid (And.intro htl hTX)
                have SZ := Lib.hid SZ
                clear hba hO3 hB3 hO2 hB2 hb2 F2 hq hkd hT2 htl hTX hf4
                go_wp2_with (first
                  | (go_at_call 51; ((with_reducible refine SZ.out.mono ?_); rintro en w5 ⟨rfl, rfl⟩))
                  | (at_builtin; go_loud (refine wpList_append_own _ rfl _ _ 67 rfl w.heap.size 70 i0 (.agg #[.int .i64 0, .string ⟨#[]⟩, .int .i64 0]) 3 32 Tryz.underlying67 hi hz0 hz1 hz2 rfl (by decide) (.slice A m c) _ _ rfl HOA.out ⟨u + 1, 0, none⟩ 1 1 [.int .i64 kd, .string TX, .int .i64 (n : Int)] (by simp [Act.eval]) rfl HCN.out (by intro u hu; simp at hu; rcases hu with rfl | rfl | rfl <;> rfl) (by unfold maxLen; omega) (by omega) (by omega) ?_; intro v' w9 hown9 hgrow9 _; (have HO9 := Lib.hid hown9); (have HG9 := Lib.hid hgrow9); (obtain ⟨A9, c9, rfl⟩ := own_form hown9); (have HR1 := Lib.hid (show w9.ownsRow w.heap.size 70 3 (.slice A9 (m + 1) c9) (m + 1) (rtsC (acc ++ [convT ⟨cl, (s.data.toList.drop k).take z, n⟩])) from by rw [rtsC_snoc, HTOK.out]; exact hown9)); (have HR2 := Lib.hid (HBA.out.grown hgrow9 (by omega) (row_ge HOA.out))); clear hown9 hgrow9))
                  | (fail "arm"))
                go_roundw
                case rel => exact ⟨A9, m + 1, c9, k + z, n, acc ++ [convT ⟨cl, (s.data.toList.drop k).take z, n⟩], rfl, rfl, by go_num, by omega, by omega, by omega, Lib.hid (by rw [List.length_append, ← HM.out]; rfl), HR1, HL, HR2⟩
                case measure => simp [intOf]; omega
    · obtain rfl : k = s.size := by omega
      have k1 : ¬ ((s.size : Nat) : Int) < (s.size : Int) := by omega
      have HL := Lib.hid (show acc ++ [⟨0, [], n⟩] = L from by
        have q := HT.out
        rw [List.drop_eq_nil_of_le (by rw [hl0]; exact Nat.le_refl _), rToks_end] at q
        exact q)
      have HCN := Lib.hid (show ∀ j u, [Value.int .i64 0, .string ⟨#[]⟩, .int .i64 (n : Int)][j]? = some u → (wr.alloc (.cells #[.int .i64 0, .string ⟨#[]⟩, .int .i64 (n : Int)] 70)).cell? ((⟨wr.heap.size, 0, none⟩ : Addr).add j) = some u from fun j u hj => by
        obtain ⟨ad, e, _, hc⟩ := ((Full.new wr 70 [.int .i64 0, .string ⟨#[]⟩, .int .i64 (n : Int)]).row 3 1 rfl 1 (Nat.le_refl _)).2.2.2 j u hj
        injection e with e
        subst e
        exact hc)
      have hba : Below wr.heap.size wr (wr.alloc (.cells #[.int .i64 0, .string ⟨#[]⟩, .int .i64 (n : Int)] 70)) := (Below.refl _ wr).alloc (Nat.le_refl _) _
      have HOA := Lib.hid (own_keep HOW.out hba)
      have HBA := Lib.hid (HB.out.trans (hba.mono hsz))
      have hsa := hba.size
      clear hba
      go_wp2_with (first
        | (at_builtin; go_loud (refine wpList_append_own _ rfl _ _ 67 rfl w.heap.size 70 i0 (.agg #[.int .i64 0, .string ⟨#[]⟩, .int .i64 0]) 3 32 Tryz.underlying67 hi hz0 hz1 hz2 rfl (by decide) (.slice A m c) _ _ rfl HOA.out ⟨wr.heap.size, 0, none⟩ 1 1 [.int .i64 0, .string ⟨#[]⟩, .int .i64 (n : Int)] rfl rfl HCN.out (by intro u hu; simp at hu; rcases hu with rfl | rfl | rfl <;> rfl) (by unfold maxLen; omega) (by omega) (by simp; omega) ?_; intro v' w9 hown9 hgrow9 _; (have HO9 := Lib.hid hown9); (have HG9 := Lib.hid hgrow9); clear hown9 hgrow9))
        | (fail "arm"))
      obtain ⟨A9, c9, rfl⟩ := own_form HO9.out
      have HR := Lib.hid (show L.length = m + 1 ∧ w9.ownsRow w.heap.size 70 3 (.slice A9 (m + 1) c9) (m + 1) (rtsC L) ∧ Below w.heap.size w w9 from ⟨by rw [← HL.out, List.length_append, ← HM.out]; rfl, by rw [← HL.out, rtsC_snoc]; exact HO9.out, HBA.out.grown HG9.out (Nat.le_trans hsz hsa) (row_ge HOA.out)⟩)
      go_wp2
      go_ret
      rw [HR.out.1]
      exact ⟨A9, c9, rfl, HR.out.2.1, HR.out.2.2⟩
end Go.Proofs.YtcjoiiaankngjaaGreatDoor
/- The reference's reader: fail, is, take. -/
namespace Go.Proofs.YtcjoiiaankngjaaGreatDoor
set_option maxRecDepth 100000
open Go.RowKit
/-- where the reader stands: the place, the error, its line -/
structure RSt where
  at_ : Nat
  e : Int
  ln : Int
/-- the reader at b over the tokens l -/
structure RS (w : World) (bs b : Nat) (A : Option Addr) (c : Nat) (l : List RTok) (x : RSt) : Prop where
  fu : Full w b 100 [.slice A l.length c, .int .i64 (x.at_ : Int), .int .i64 x.e, .int .i64 x.ln]
  ow : w.ownsRow bs 70 3 (.slice A l.length c) l.length (rtsC l)
  lt : x.at_ < l.length
  le : l.length ≤ 4294967002
theorem RS.keep {F : Nat → Prop} {w w' : World} {bs b : Nat} {A : Option Addr} {c : Nat} {l : List RTok} {x : RSt} (h : RS w bs b A c l x) (ht : Turn F w w') (hb : ¬ F b) (ho : ∀ g, (Value.slice A l.length c).ownBlock = some g → ¬ F g) : RS w' bs b A c l x :=
  ⟨ht.far h.fu hb, own_off h.ow ht ho, h.lt, h.le⟩
theorem RS.on {w w' : World} {bs b : Nat} {A : Option Addr} {c : Nat} {l : List RTok} {x : RSt} (h : RS w bs b A c l x) (hb : Below w.heap.size w w') : RS w' bs b A c l x :=
  ⟨h.fu.on hb, own_keep h.ow hb, h.lt, h.le⟩
theorem RS.drew {w : World} {bs b : Nat} {A : Option Addr} {c : Nat} {l : List RTok} {x : RSt} (h : RS w bs b A c l x) : RS w.drew bs b A c l x := h.on (Below.drew (Below.refl _ w))
/-- a cell of the reader is written -/
theorem RS.set {w : World} {bs b : Nat} {A : Option Addr} {c : Nat} {l : List RTok} {x x' : RSt} (h : RS w bs b A c l x) (i : Nat) (u : Value) (hx : [.slice A l.length c, .int .i64 (x.at_ : Int), .int .i64 x.e, .int .i64 x.ln].set i u = [.slice A l.length c, .int .i64 (x'.at_ : Int), .int .i64 x'.e, .int .i64 x'.ln]) (hl : x'.at_ < l.length) : RS (w.setCell ⟨b, i, none⟩ u) bs b A c l x' := by
  have hTs : Turn (fun g => g = b) w (w.setCell ⟨b, i, none⟩ u) := Turn.set_ (F := fun g => g = b) (a := ⟨b, i, none⟩) rfl _
  refine ⟨?_, own_off h.ow hTs (own_full_ne h.ow h.fu (by decide)), hl, h.le⟩
  rw [← hx]
  exact h.fu.set_ i u
theorem RS.tok {w : World} {bs b : Nat} {A : Option Addr} {c : Nat} {l : List RTok} {x : RSt} (h : RS w bs b A c l x) : ∃ ad, A = some ad ∧ w.cell? (ad.add (x.at_ * 3)) = some (.int .i64 (l[x.at_]'h.lt).kd) ∧
    w.cell? ⟨(ad.add (x.at_ * 3)).block, (ad.add (x.at_ * 3)).off + 1, none⟩ = some (.string (str (l[x.at_]'h.lt).tx)) ∧ w.cell? ⟨(ad.add (x.at_ * 3)).block, (ad.add (x.at_ * 3)).off + 2, none⟩ = some (.int .i64 ((l[x.at_]'h.lt).ln : Int)) := by
  have hr : Row w w.heap.size 3 A l.length c (rtsC l) := Row.own h.ow
  have e := fun j hj => flat_at rtC 3 (fun i => rfl) l x.at_ j h.lt hj
  obtain ⟨ad, rfl, hb, h0⟩ := Row.cell_at hr (e 0 (by decide))
  obtain ⟨_, e1, _, h1⟩ := Row.cell_at hr (e 1 (by decide))
  obtain ⟨_, e2, _, h2⟩ := Row.cell_at hr (e 2 (by decide))
  injection e1 with e1
  injection e2 with e2
  subst e1 e2
  rw [add_off _ _ _ (by decide)] at h1 h2
  exact ⟨ad, rfl, h0, h1, h2⟩
theorem RS.cap {w : World} {bs b : Nat} {A : Option Addr} {c : Nat} {l : List RTok} {x : RSt} (h : RS w bs b A c l x) : l.length ≤ c := (Row.own h.ow).2.1
def rFail (code line : Int) (x : RSt) : RSt := if x.e = 0 then ⟨x.at_, code, line⟩ else x
def RdOut (w : World) (bs b : Nat) (A : Option Addr) (c : Nat) (l : List RTok) (x : RSt) (v : Value) (en : Ending) (w' : World) : Prop := en = .returned v ∧ RS w' bs b A c l x ∧ Turn (fun g => g = b) w w'
theorem rfail_any {w : World} {bs b : Nat} {A : Option Addr} {c : Nat} {l : List RTok} {x : RSt} (h : RS w bs b A c l x) (code line : Int) : Calls Tryz.prog 80 #[.pointer (some ⟨b, 0, none⟩), .int .i64 code, .int .i64 line] w (RdOut w bs b A c l (rFail code line x) (.tuple #[])) := by
  unfold RdOut rFail
  obtain ⟨a, e, ln⟩ := x
  dsimp only
  have c2 : w.cell? ⟨b, 2, none⟩ = some (.int .i64 e) := h.fu.cell 2
  have hf2 := h.fu.frozen 2
  by_cases he : e = 0
  · rw [if_pos he]
    subst he
    have h1 : RS (w.setCell ⟨b, 2, none⟩ (.int .i64 code)) bs b A c l ⟨a, code, ln⟩ := h.set 2 _ rfl h.lt
    have c3 := h1.fu.cell 3
    dsimp only [List.getElem?_cons_zero, List.getElem?_cons_succ] at c3
    have hf3 := h1.fu.frozen 3
    have HO := Lib.hid (show RS ((w.setCell ⟨b, 2, none⟩ (.int .i64 code)).setCell ⟨b, 3, none⟩ (.int .i64 line)) bs b A c l ⟨a, code, line⟩ ∧ Turn (fun g => g = b) w ((w.setCell ⟨b, 2, none⟩ (.int .i64 code)).setCell ⟨b, 3, none⟩ (.int .i64 line)) from
      ⟨h1.set 3 _ rfl h.lt, ((Turn.refl (fun g => g = b) w).setb rfl 2 _).setb rfl 3 _⟩)
    clear h h1
    go_enter Tryz.func80, Tryz.ntmps80
    go_wp2
    go_end0
    exact ⟨rfl, HO.out⟩
  · rw [if_neg he]
    have hq : (e == 0) = false := by simpa using he
    have HO := Lib.hid (And.intro h (Turn.refl (fun g => g = b) w))
    clear h he
    go_enter Tryz.func80, Tryz.ntmps80
    go_wp2
    go_end0
    exact ⟨rfl, HO.out⟩
end Go.Proofs.YtcjoiiaankngjaaGreatDoor
/- The reference's reader: is. -/
namespace Go.Proofs.YtcjoiiaankngjaaGreatDoor
set_option maxRecDepth 100000
open Go.RowKit
def rIs (kd : Int) (tx : List UInt8) (t : RTok) (e : Int) : Bool := decide (e = 0) && (t.kd == kd) && (t.tx == tx)
set_option maxHeartbeats 2000000 in
theorem ris_any {w : World} {bs b : Nat} {A : Option Addr} {c : Nat} {l : List RTok} {x : RSt} (h : RS w bs b A c l x) (kd : Int) (tx : List UInt8) :
    Calls Tryz.prog 78 #[.pointer (some ⟨b, 0, none⟩), .int .i64 kd, .string (str tx)] w (BoolB w (rIs kd tx (l[x.at_]'h.lt) x.e)) := by
  unfold BoolB rIs
  obtain ⟨ad, rfl, t0, t1, t2⟩ := h.drew.tok
  have hcap := h.cap
  have hlt := h.lt
  have hle := h.le
  have c0 : w.drew.cell? ⟨b, 0, none⟩ = some (.slice (some ad) l.length c) := h.fu.cell 0
  have c1 : w.drew.cell? ⟨b, 1, none⟩ = some (.int .i64 (x.at_ : Int)) := h.fu.cell 1
  obtain ⟨tk, htk⟩ : ∃ t, l[x.at_]'h.lt = t := ⟨_, rfl⟩
  rw [htk] at t0 t1 t2
  rw [htk]
  obtain ⟨X, hX⟩ : ∃ X, str tx = X := ⟨_, rfl⟩
  obtain ⟨Y, hY⟩ : ∃ X, str tk.tx = X := ⟨_, rfl⟩
  obtain ⟨kt, hkt⟩ : ∃ X, tk.kd = X := ⟨_, rfl⟩
  obtain ⟨lt, hlt'⟩ : ∃ X : Nat, tk.ln = X := ⟨_, rfl⟩
  rw [hkt] at t0
  rw [hY] at t1
  rw [hlt'] at t2
  rw [hX]
  have q3 : (Y.toList == X.toList) = (tk.tx == tx) := by rw [← hY, ← hX, Lib.toList_data, Lib.toList_data, str_data, str_data]
  rw [← q3, hkt]
  obtain ⟨w1, hw1⟩ : ∃ w1, w.alloc (.cells #[.int .i64 0, .string ⟨#[]⟩, .int .i64 0] 70) = w1 := ⟨_, rfl⟩
  have hb1 : Below w.heap.size w w1 := by rw [← hw1]; exact (Below.refl _ w).alloc (Nat.le_refl _) _
  have F1 : Full w1 w.heap.size 70 [.int .i64 0, .string ⟨#[]⟩, .int .i64 0] := by rw [← hw1]; exact Full.new w 70 _
  obtain ⟨u, hu⟩ : ∃ u, w.heap.size = u := ⟨_, rfl⟩
  rw [hu] at F1
  have hub : u ≠ b := by have := h.fu.lt; omega
  obtain ⟨ad', e', t0', t1', t2'⟩ := (h.on hb1).drew.tok
  injection e' with e'
  subst e'
  have c0' : w1.drew.cell? ⟨b, 0, none⟩ = some (.slice (some ad) l.length c) := (h.fu.on hb1).cell 0
  have c1' : w1.drew.cell? ⟨b, 1, none⟩ = some (.int .i64 (x.at_ : Int)) := (h.fu.on hb1).cell 1
  rw [htk] at t0' t1' t2'
  rw [hkt] at t0'
  rw [hY] at t1'
  rw [hlt'] at t2'
  have F1d : Full w1.drew u 70 [.int .i64 0, .string ⟨#[]⟩, .int .i64 0] := F1
  obtain ⟨_, _, _, F2⟩ := store3 F1 (.int .i64 kt) (.string Y) (.int .i64 (lt : Int))
  have a0 := F1.cell 0
  have a1 := F1.cell 1
  have a2 := F1.cell 2
  have a0f := F1.frozen 0
  have a1f := F1.frozen 1
  have a2f := F1.frozen 2
  have b0 := F1d.cell 0
  have b1 := F1d.cell 1
  have b2 := F1d.cell 2
  have b0f := F1d.frozen 0
  have b1f := F1d.frozen 1
  have b2f := F1d.frozen 2
  dsimp only [List.getElem?_cons_zero, List.getElem?_cons_succ] at a0 a1 a2 b0 b1 b2
  have hRb : Full (((w1.setCell ⟨u, 0, none⟩ (.int .i64 kt)).setCell ⟨u, 1, none⟩ (.string Y)).setCell ⟨u, 2, none⟩ (.int .i64 (lt : Int))).drew b 100 _ := (((h.fu.on hb1).far (p := ⟨u, 0, none⟩) hub.symm _).far (p := ⟨u, 1, none⟩) hub.symm _).far (p := ⟨u, 2, none⟩) hub.symm _
  have hb2 : Below w.heap.size w (((w1.setCell ⟨u, 0, none⟩ (.int .i64 kt)).setCell ⟨u, 1, none⟩ (.string Y)).setCell ⟨u, 2, none⟩ (.int .i64 (lt : Int))).drew := Below.drew (((hb1.setCell (p := ⟨u, 0, none⟩) (by show _ ≤ u; omega) _).setCell (p := ⟨u, 1, none⟩) (by show _ ≤ u; omega) _).setCell (p := ⟨u, 2, none⟩) (by show _ ≤ u; omega) _)
  have d2 := hRb.cell 2
  have F2d : Full (((w1.setCell ⟨u, 0, none⟩ (.int .i64 kt)).setCell ⟨u, 1, none⟩ (.string Y)).setCell ⟨u, 2, none⟩ (.int .i64 (lt : Int))).drew u 70 _ := F2
  have u0 := F2d.cell 0
  have u1 := F2d.cell 1
  dsimp only [List.getElem?_cons_zero, List.getElem?_cons_succ] at d2 u0 u1
  obtain ⟨e, he⟩ : ∃ e, x.e = e := ⟨_, rfl⟩
  rw [he] at d2 ⊢
  obtain ⟨n, hn⟩ : ∃ n, l.length = n := ⟨_, rfl⟩
  obtain ⟨k, hk⟩ : ∃ k, x.at_ = k := ⟨_, rfl⟩
  rw [hn] at c0 c0' hcap hlt hle
  rw [hk] at c1 c1' t0 t1 t2 t0' t1' t2' hlt
  have i0 : (0 : Int) ≤ (k : Int) := Int.natCast_nonneg _
  have i1 : (k : Int) < (n : Int) := by omega
  have eq1 : decide (e = 0) = (e == 0) := by rw [Bool.eq_iff_iff]; simp
  rw [eq1]
  obtain ⟨z1, hz1⟩ : ∃ z, (e == 0) = z := ⟨_, rfl⟩
  obtain ⟨z2, hz2⟩ : ∃ z, (kt == kd) = z := ⟨_, rfl⟩
  obtain ⟨z3, hz3⟩ : ∃ z, (Y.toList == X.toList) = z := ⟨_, rfl⟩
  rw [hz1, hz2, hz3]
  have HB := Lib.hid hb2
  clear F1 F1d F2 F2d hRb hb1 hb2 h q3 eq1 htk hkt hlt' hX hY he hn hk
  have WALK : True := trivial
  cases z1 with
  | false => (go_enter Tryz.func78, Tryz.ntmps78; go_upto_region 1 with fail; go_region; all_goals (go_wp2; all_goals go_ret; all_goals exact ⟨rfl, HB.out⟩))
  | true =>
    cases z2 with
    | false => (go_enter Tryz.func78, Tryz.ntmps78; go_upto_region 1 with fail; go_region; all_goals (go_wp2; all_goals go_ret; all_goals exact ⟨rfl, HB.out⟩))
    | true =>
      cases z3 with
      | false => (go_enter Tryz.func78, Tryz.ntmps78; go_upto_region 1 with fail; go_region; all_goals (go_wp2; all_goals go_ret; all_goals exact ⟨rfl, HB.out⟩))
      | true => (go_enter Tryz.func78, Tryz.ntmps78; go_upto_region 1 with fail; go_region; all_goals (go_wp2; all_goals go_ret; all_goals exact ⟨rfl, HB.out⟩))
end Go.Proofs.YtcjoiiaankngjaaGreatDoor
/- The reference's reader: take, need. -/
namespace Go.Proofs.YtcjoiiaankngjaaGreatDoor
set_option maxRecDepth 100000
open Go.RowKit
def hdT (l : List RTok) (i : Nat) : RTok := (l[i]?).getD ⟨0, [], 0⟩
theorem hdT_eq {l : List RTok} {i : Nat} (h : i < l.length) : hdT l i = l[i] := by unfold hdT; rw [List.getElem?_eq_getElem h]; rfl
/-- the last token is the end, or wrong -/
def LOk (l : List RTok) : Prop := ∀ i, i < l.length → (hdT l i).kd ≠ 0 → (hdT l i).kd ≠ 5 → i + 1 < l.length
def rTake (kd : Int) (tx : List UInt8) (l : List RTok) (x : RSt) : Bool × RSt := if rIs kd tx (hdT l x.at_) x.e then (true, ⟨x.at_ + 1, x.e, x.ln⟩) else (false, x)
def rNeed (kd : Int) (tx : List UInt8) (l : List RTok) (x : RSt) : RSt := if (rTake kd tx l x).1 then (rTake kd tx l x).2 else rFail 40 ((hdT l x.at_).ln : Int) x
theorem rtake_any {w : World} {bs b : Nat} {A : Option Addr} {c : Nat} {l : List RTok} {x : RSt} (h : RS w bs b A c l x) (hl : LOk l) (kd : Int) (h0 : kd ≠ 0) (h5 : kd ≠ 5) (tx : List UInt8) :
    Calls Tryz.prog 46 #[.pointer (some ⟨b, 0, none⟩), .int .i64 kd, .string (str tx)] w (RdOut w bs b A c l (rTake kd tx l x).2 (.bool (rTake kd tx l x).1)) := by
  unfold RdOut rTake
  have IS := ris_any h kd tx
  rw [← hdT_eq h.lt] at IS
  unfold BoolB at IS
  obtain ⟨X, hX⟩ : ∃ X, str tx = X := ⟨_, rfl⟩
  rw [hX] at IS ⊢
  cases hr : rIs kd tx (hdT l x.at_) x.e with
  | false =>
    rw [hr] at IS
    rw [if_neg (by decide)]
    have IS := Lib.hid IS
    have H := Lib.hid h
    clear h hr hX
    go_enter Tryz.func46, Tryz.ntmps46
    go_wp2_with (first
      | (go_at_call 78; ((with_reducible refine IS.out.mono ?_); rintro en w2 ⟨rfl, hb2⟩; (have HO := Lib.hid (And.intro (H.out.on hb2) (Turn.of (F := fun g => g = b) hb2)))))
      | (fail "arm"))
    go_ret
    exact ⟨rfl, HO.out⟩
  | true =>
    rw [hr] at IS
    rw [if_pos rfl]
    have hnx : x.at_ + 1 < l.length := by
      unfold rIs at hr
      simp only [Bool.and_eq_true, beq_iff_eq] at hr
      exact hl x.at_ h.lt (by rw [hr.1.2]; exact h0) (by rw [hr.1.2]; exact h5)
    obtain ⟨a, e, ln⟩ := x
    dsimp only at *
    have hle := h.le
    have IS := Lib.hid IS
    have H := Lib.hid h
    clear h hr hX
    go_enter Tryz.func46, Tryz.ntmps46
    go_wp2_with (first
      | (go_at_call 78; ((with_reducible refine IS.out.mono ?_); rintro en w2 ⟨rfl, hb2⟩; (have H2 := H.out.on hb2); (have z1 : w2.cell? ⟨b, 1, none⟩ = some (.int .i64 (a : Int)) := H2.fu.cell 1); (have z2 := H2.fu.frozen 1); (have HO := Lib.hid (And.intro (show RS (w2.setCell ⟨b, 1, none⟩ (.int .i64 ((a : Int) + 1))) bs b A c l ⟨a + 1, e, ln⟩ from H2.set 1 _ rfl hnx) ((Turn.of (F := fun g => g = b) hb2).setb rfl 1 (.int .i64 ((a : Int) + 1))))); clear H2))
      | (fail "arm"))
    go_ret
    exact ⟨rfl, HO.out⟩
set_option maxHeartbeats 2000000 in
theorem rneed_any {w : World} {bs b : Nat} {A : Option Addr} {c : Nat} {l : List RTok} {x : RSt} (h : RS w bs b A c l x) (hl : LOk l) (kd : Int) (h0 : kd ≠ 0) (h5 : kd ≠ 5) (tx : List UInt8) :
    Calls Tryz.prog 48 #[.pointer (some ⟨b, 0, none⟩), .int .i64 kd, .string (str tx)] w (RdOut w bs b A c l (rNeed kd tx l x) (.tuple #[])) := by
  have TK := rtake_any h hl kd h0 h5 tx
  unfold RdOut at TK ⊢
  unfold rNeed
  obtain ⟨X, hX⟩ : ∃ X, str tx = X := ⟨_, rfl⟩
  rw [hX] at TK ⊢
  cases hr : (rTake kd tx l x).1 with
  | true =>
    rw [hr] at TK
    rw [if_pos rfl]
    have TK := Lib.hid TK
    clear hr hX h
    go_enter Tryz.func48, Tryz.ntmps48
    go_wp2_with (first
      | (go_at_call 46; ((with_reducible refine TK.out.mono ?_); rintro en w2 ⟨rfl, hr2, ht2⟩; (have HO := Lib.hid (And.intro hr2 ht2)); clear hr2 ht2))
      | (fail "arm"))
    go_end0
    exact ⟨rfl, HO.out⟩
  | false =>
    have hx : (rTake kd tx l x).2 = x := by
      unfold rTake at hr ⊢
      split at hr
      · cases hr
      · rename_i hq; rw [if_neg hq]
    rw [hr, hx] at TK
    rw [if_neg (by decide)]
    have hlt := h.lt
    have hle := h.le
    have hcap := h.cap
    have i0 : (0 : Int) ≤ (x.at_ : Int) := Int.natCast_nonneg _
    have i1 : (x.at_ : Int) < (l.length : Int) := by omega
    have TK := Lib.hid TK
    have HF := Lib.hid (fun (W : World) (H : RS W bs b A c l x) => rfail_any H 40 ((hdT l x.at_).ln : Int))
    unfold RdOut at HF
    obtain ⟨n, hn⟩ : ∃ n : Nat, (hdT l x.at_).ln = n := ⟨_, rfl⟩
    rw [hn] at HF ⊢
    have HN := Lib.hid (show ∀ W, RS W bs b A c l x → ∃ ad, A = some ad ∧ W.cell? ⟨(ad.add (x.at_ * 3)).block, (ad.add (x.at_ * 3)).off + 2, none⟩ = some (.int .i64 (n : Int)) from fun W H => by
      obtain ⟨ad, e, _, _, q⟩ := H.tok
      rw [← hdT_eq H.lt, hn] at q
      exact ⟨ad, e, q⟩)
    clear hr hX h hx hn
    go_enter Tryz.func48, Tryz.ntmps48
    go_upto_region 2 with (first
      | (go_at_call 46; ((with_reducible refine TK.out.mono ?_); rintro en w2 ⟨rfl, hr2, ht2⟩; (have HR2 := Lib.hid hr2); (have HT2 := Lib.hid ht2); clear hr2 ht2))
      | (fail "arm"))
    have HRd := HR2.out.drew
    obtain ⟨ad, rfl, t2⟩ := HN.out w2.drew HRd
    have c0 : w2.drew.cell? ⟨b, 0, none⟩ = some (.slice (some ad) l.length c) := HRd.fu.cell 0
    have c1 : w2.drew.cell? ⟨b, 1, none⟩ = some (.int .i64 (x.at_ : Int)) := HRd.fu.cell 1
    have FL := Lib.hid (HF.out w2.drew HRd)
    have HTd := Lib.hid (HT2.out.drew)
    clear HRd
    go_region_with (first
      | (go_at_call 80; ((with_reducible refine FL.out.mono ?_); rintro en w3 ⟨rfl, hr3, ht3⟩; (have HO := Lib.hid (And.intro hr3 (HTd.out.trans_ ht3))); clear hr3 ht3))
      | (fail "arm"))
    all_goals (go_wp2; go_end0; exact ⟨rfl, HO.out⟩)
end Go.Proofs.YtcjoiiaankngjaaGreatDoor
/- The reference's reader: any. -/
namespace Go.Proofs.YtcjoiiaankngjaaGreatDoor
set_option maxRecDepth 100000
open Go.RowKit
def rt0 : RTok := ⟨0, [], 0⟩
def rAny (kd : Int) (l : List RTok) (x : RSt) : RTok × RSt := if x.e = 0 ∧ (hdT l x.at_).kd = kd then (hdT l x.at_, ⟨x.at_ + 1, x.e, x.ln⟩) else (rt0, rFail 40 ((hdT l x.at_).ln : Int) x)
def rtV (t : RTok) : Value := .agg #[.int .i64 t.kd, .string (str t.tx), .int .i64 (t.ln : Int)]
set_option maxHeartbeats 8000000 in
theorem rany_any {w : World} {bs b : Nat} {A : Option Addr} {c : Nat} {l : List RTok} {x : RSt} (h : RS w bs b A c l x) (hl : LOk l) (kd : Int) (h0 : kd ≠ 0) (h5 : kd ≠ 5) :
    Calls Tryz.prog 81 #[.pointer (some ⟨b, 0, none⟩), .int .i64 kd] w (RdOut w bs b A c l (rAny kd l x).2 (rtV (rAny kd l x).1)) := by
  unfold RdOut rtV
  obtain ⟨w0, hw0⟩ : ∃ w0, w.alloc (.cells #[.int .i64 0, .string ⟨#[]⟩, .int .i64 0] 70) = w0 := ⟨_, rfl⟩
  have hb0 : Below w.heap.size w w0 := by rw [← hw0]; exact (Below.refl _ w).alloc (Nat.le_refl _) _
  have F0 : Full w0 w.heap.size 70 [.int .i64 0, .string ⟨#[]⟩, .int .i64 0] := by rw [← hw0]; exact Full.new w 70 _
  obtain ⟨r, hr⟩ : ∃ r, w.heap.size = r := ⟨_, rfl⟩
  rw [hr] at F0
  have hrb : r ≠ b := by have := h.fu.lt; omega
  have hO := h.on hb0
  obtain ⟨ad, rfl, t0, t1, t2⟩ := hO.drew.tok
  have HGL := Lib.hid (show ∀ g, (Value.slice (some ad) l.length c).ownBlock = some g → g < r from fun g hg => by rw [← hr]; exact (h.ow.lt g hg).2)
  have hcap := h.cap
  have hlt := h.lt
  have hle := h.le
  have c0 : w0.drew.cell? ⟨b, 0, none⟩ = some (.slice (some ad) l.length c) := hO.fu.cell 0
  have c1 : w0.drew.cell? ⟨b, 1, none⟩ = some (.int .i64 (x.at_ : Int)) := hO.fu.cell 1
  have hh := hdT_eq hlt
  unfold rAny
  have hlk := hl x.at_ hlt
  obtain ⟨tk, htk⟩ : ∃ t, l[x.at_]'h.lt = t := ⟨_, rfl⟩
  rw [htk] at t0 t1 t2 hh
  rw [hh] at hlk ⊢
  obtain ⟨Y, hY⟩ : ∃ X, str tk.tx = X := ⟨_, rfl⟩
  obtain ⟨kt, hkt⟩ : ∃ X, tk.kd = X := ⟨_, rfl⟩
  obtain ⟨lt, hlt'⟩ : ∃ X : Nat, tk.ln = X := ⟨_, rfl⟩
  rw [hkt] at t0 hlk
  rw [hY] at t1
  rw [hlt'] at t2
  rw [hkt, hlt']
  obtain ⟨w1, hw1⟩ : ∃ w1, w0.alloc (.cells #[.int .i64 0, .string ⟨#[]⟩, .int .i64 0] 70) = w1 := ⟨_, rfl⟩
  have hb1 : Below w0.heap.size w0 w1 := by rw [← hw1]; exact (Below.refl _ w0).alloc (Nat.le_refl _) _
  have F1 : Full w1 w0.heap.size 70 [.int .i64 0, .string ⟨#[]⟩, .int .i64 0] := by rw [← hw1]; exact Full.new w0 70 _
  have F01 := F0.on hb1
  obtain ⟨u, hu⟩ : ∃ u, w0.heap.size = u := ⟨_, rfl⟩
  rw [hu] at F1
  have hub : u ≠ b := by have := hO.fu.lt; omega
  have hur : u ≠ r := by have := F0.lt; omega
  have h1 := hO.on hb1
  obtain ⟨ad', e', t0', t1', t2'⟩ := h1.drew.tok
  injection e' with e'
  subst e'
  have c0' : w1.drew.cell? ⟨b, 0, none⟩ = some (.slice (some ad) l.length c) := h1.fu.cell 0
  have c1' : w1.drew.cell? ⟨b, 1, none⟩ = some (.int .i64 (x.at_ : Int)) := h1.fu.cell 1
  rw [htk] at t0' t1' t2'
  rw [hkt] at t0'
  rw [hY] at t1'
  rw [hlt'] at t2'
  have F1d : Full w1.drew u 70 [.int .i64 0, .string ⟨#[]⟩, .int .i64 0] := F1
  obtain ⟨_, _, _, F2⟩ := store3 F1 (.int .i64 kt) (.string Y) (.int .i64 (lt : Int))
  have a0 := F1.cell 0
  have a1 := F1.cell 1
  have a2 := F1.cell 2
  have a0f := F1.frozen 0
  have a1f := F1.frozen 1
  have a2f := F1.frozen 2
  have b0 := F1d.cell 0
  have b1 := F1d.cell 1
  have b2 := F1d.cell 2
  have b0f := F1d.frozen 0
  have b1f := F1d.frozen 1
  have b2f := F1d.frozen 2
  dsimp only [List.getElem?_cons_zero, List.getElem?_cons_succ] at a0 a1 a2 b0 b1 b2
  obtain ⟨w2, hw2⟩ : ∃ w2, (((w1.setCell ⟨u, 0, none⟩ (.int .i64 kt)).setCell ⟨u, 1, none⟩ (.string Y)).setCell ⟨u, 2, none⟩ (.int .i64 (lt : Int))).drew = w2 := ⟨_, rfl⟩
  have hTu : Turn (fun g => g = u) w1 w2 := by
    rw [← hw2]
    exact ((((Turn.refl (fun g => g = u) w1).setb rfl 0 _).setb rfl 1 _).setb rfl 2 _).drew
  have H2 : RS w2 bs b (some ad) c l x := h1.keep hTu (by omega) (fun g hg => (by have := (hO.ow.lt g hg).2; omega))
  have FR2 : Full w2 r 70 [.int .i64 0, .string ⟨#[]⟩, .int .i64 0] := hTu.far F01 (by omega)
  have FU2 : Full w2 u 70 [.int .i64 kt, .string Y, .int .i64 (lt : Int)] := by rw [← hw2]; exact F2
  have hsz0 := hb0.size
  have hT2 : Turn (fun g => g = b) w w2 := ((Turn.of (F := fun g => g = b) hb0).trans_ (Turn.of hb1)).late hTu fun g e => .inr (by omega)
  obtain ⟨k, hk⟩ : ∃ k, x.at_ = k := ⟨_, rfl⟩
  have i0 : (0 : Int) ≤ (k : Int) := Int.natCast_nonneg _
  have i1 : (k : Int) < (l.length : Int) := by omega
  rw [hk] at c1 c1' t0 t1 t2 t0' t1' t2'
  have HH := Lib.hid (And.intro H2 (And.intro FR2 (And.intro FU2 hT2)))
  have d2 : w2.cell? ⟨b, 2, none⟩ = some (.int .i64 x.e) := H2.fu.cell 2
  have u0 : w2.cell? ⟨u, 0, none⟩ = some (.int .i64 kt) := FU2.cell 0
  have u2 : w2.cell? ⟨u, 2, none⟩ = some (.int .i64 (lt : Int)) := FU2.cell 2
  have HTK := Lib.hid (And.intro hY (And.intro hkt hlt'))
  clear H2 FR2 FU2 hT2 F0 F1 F01 F1d F2 hb0 hb1 hO h1 h hTu hh htk hY hkt hlt'
  by_cases hc : x.e = 0 ∧ kt = kd
  · rw [if_pos hc]
    have q1 : (x.e != 0) = false := by rw [hc.1]; rfl
    have q2 : (kt != kd) = false := by rw [hc.2]; simp
    have hnx : k + 1 < l.length := by
      have := hlk (by rw [hc.2]; exact h0) (by rw [hc.2]; exact h5)
      omega
    have d1 : w2.cell? ⟨b, 1, none⟩ = some (.int .i64 (k : Int)) := by rw [← hk]; exact HH.out.1.fu.cell 1
    have d1f := HH.out.1.fu.frozen 1
    have H3 : RS (w2.setCell ⟨b, 1, none⟩ (.int .i64 ((k : Int) + 1))) bs b (some ad) c l ⟨k + 1, x.e, x.ln⟩ := HH.out.1.set 1 _ rfl hnx
    have FU3 := HH.out.2.2.1.far (p := ⟨b, 1, none⟩) (by omega) (.int .i64 ((k : Int) + 1))
    have FR3 := HH.out.2.1.far (p := ⟨b, 1, none⟩) (by omega) (.int .i64 ((k : Int) + 1))
    have hT3 := HH.out.2.2.2.setb rfl 1 (.int .i64 ((k : Int) + 1))
    obtain ⟨w3, hw3⟩ : ∃ w3, w2.setCell ⟨b, 1, none⟩ (.int .i64 ((k : Int) + 1)) = w3 := ⟨_, rfl⟩
    rw [hw3] at H3 FU3 FR3 hT3
    have v0 := FU3.cell 0
    have v1 := FU3.cell 1
    have v2 := FU3.cell 2
    dsimp only [List.getElem?_cons_zero, List.getElem?_cons_succ] at v0 v1 v2
    obtain ⟨⟨p0, p0f⟩, ⟨p1, p1f⟩, ⟨p2, p2f⟩, F4⟩ := store3 FR3 (.int .i64 kt) (.string Y) (.int .i64 (lt : Int))
    have hTr : Turn (fun g => g = r) w3 (((w3.setCell ⟨r, 0, none⟩ (.int .i64 kt)).setCell ⟨r, 1, none⟩ (.string Y)).setCell ⟨r, 2, none⟩ (.int .i64 (lt : Int))) := (((Turn.refl (fun g => g = r) w3).setb rfl 0 _).setb rfl 1 _).setb rfl 2 _
    have HO := Lib.hid (show Full (((w3.setCell ⟨r, 0, none⟩ (.int .i64 kt)).setCell ⟨r, 1, none⟩ (.string Y)).setCell ⟨r, 2, none⟩ (.int .i64 (lt : Int))) r 70 [.int .i64 kt, .string Y, .int .i64 (lt : Int)] ∧ RS (((w3.setCell ⟨r, 0, none⟩ (.int .i64 kt)).setCell ⟨r, 1, none⟩ (.string Y)).setCell ⟨r, 2, none⟩ (.int .i64 (lt : Int))) bs b (some ad) c l ⟨k + 1, x.e, x.ln⟩ ∧ Turn (fun g => g = b) w (((w3.setCell ⟨r, 0, none⟩ (.int .i64 kt)).setCell ⟨r, 1, none⟩ (.string Y)).setCell ⟨r, 2, none⟩ (.int .i64 (lt : Int))) from
      ⟨F4, H3.keep hTr (by omega) (fun g hg e => by have := HGL.out g hg; omega), hT3.late hTr fun g e => .inr (by omega)⟩)
    clear F4 hTr H3 FU3 FR3 hT3 hc HH
    go_enter Tryz.func81, Tryz.ntmps81
    go_upto_region 1 with fail
    go_region
    all_goals
      go_wp2
      obtain ⟨w9, hw9⟩ : ∃ w9, ((w3.setCell ⟨r, 0, none⟩ (.int .i64 kt)).setCell ⟨r, 1, none⟩ (.string Y)).setCell ⟨r, 2, none⟩ (.int .i64 (lt : Int)) = w9 := ⟨_, rfl⟩
      have ho := HO.out
      rw [hw9] at ho ⊢
      have q0 := ho.1.cell 0
      have q1 := ho.1.cell 1
      have q2 := ho.1.cell 2
      dsimp only [List.getElem?_cons_zero, List.getElem?_cons_succ] at q0 q1 q2
      refine bodyPost_ret (v := .agg #[.int .i64 kt, .string Y, .int .i64 (lt : Int)]) (by simp [results, Tryz.results81, go_sem, q0, q1, q2]) rfl ?_
      refine ⟨by rw [HTK.out.1, HTK.out.2.1, HTK.out.2.2], ?_, ho.2.2⟩
      rw [hk]
      exact ho.2.1
  · rw [if_neg hc]
    dsimp only
    have FL := rfail_any HH.out.1 40 (lt : Int)
    unfold RdOut at FL
    have FL := Lib.hid FL
    have HN := Lib.hid hc
    obtain ⟨e, he⟩ : ∃ e, x.e = e := ⟨_, rfl⟩
    rw [he] at hc d2
    by_cases he0 : e = 0
    · have hkk : ¬ kt = kd := fun z => hc ⟨he0, z⟩
      have q1 : (e != 0) = false := by rw [he0]; rfl
      have q2 : (kt != kd) = true := by simpa using hkk
      clear hc he0 hkk he
      go_enter Tryz.func81, Tryz.ntmps81
      go_upto_region 1 with fail
      go_region
      all_goals
        go_upto_region 4 with (first
          | (go_at_call 80; ((with_reducible refine FL.out.mono ?_); rintro en w3 ⟨rfl, H3, hT3⟩; (have HR3 := Lib.hid H3); (have HT3 := Lib.hid (HH.out.2.2.2.trans_ hT3)); (have HFR := Lib.hid (hT3.far HH.out.2.1 (by omega))); clear H3 hT3))
          | (fail "arm"))
        obtain ⟨⟨p0, p0f⟩, ⟨p1, p1f⟩, ⟨p2, p2f⟩, F4⟩ := store3 HFR.out (.int .i64 0) (.string ⟨#[]⟩) (.int .i64 0)
        have hTr : Turn (fun g => g = r) w3 (((w3.setCell ⟨r, 0, none⟩ (.int .i64 0)).setCell ⟨r, 1, none⟩ (.string ⟨#[]⟩)).setCell ⟨r, 2, none⟩ (.int .i64 0)) := (((Turn.refl (fun g => g = r) w3).setb rfl 0 _).setb rfl 1 _).setb rfl 2 _
        have HO := Lib.hid (And.intro F4 (And.intro (HR3.out.keep hTr (by omega) (fun g hg e => by have := HGL.out g hg; omega)) (HT3.out.late hTr fun g e => .inr (by omega))))
        clear F4 hTr
        go_wp2
        obtain ⟨w9, hw9⟩ : ∃ w9, ((w3.setCell ⟨r, 0, none⟩ (.int .i64 0)).setCell ⟨r, 1, none⟩ (.string ⟨#[]⟩)).setCell ⟨r, 2, none⟩ (.int .i64 0) = w9 := ⟨_, rfl⟩
        have ho := HO.out
        rw [hw9] at ho ⊢
        have q0 := ho.1.cell 0
        have q1 := ho.1.cell 1
        have q2 := ho.1.cell 2
        dsimp only [List.getElem?_cons_zero, List.getElem?_cons_succ] at q0 q1 q2
        exact bodyPost_ret (v := .agg #[.int .i64 0, .string ⟨#[]⟩, .int .i64 0]) (by simp [results, Tryz.results81, go_sem, q0, q1, q2]) rfl ⟨rfl, ho.2.1, ho.2.2⟩
    · have q1 : (e != 0) = true := by simpa using he0
      clear hc he0 he
      go_enter Tryz.func81, Tryz.ntmps81
      go_upto_region 1 with fail
      go_region
      all_goals
        go_upto_region 4 with (first
          | (go_at_call 80; ((with_reducible refine FL.out.mono ?_); rintro en w3 ⟨rfl, H3, hT3⟩; (have HR3 := Lib.hid H3); (have HT3 := Lib.hid (HH.out.2.2.2.trans_ hT3)); (have HFR := Lib.hid (hT3.far HH.out.2.1 (by omega))); clear H3 hT3))
          | (fail "arm"))
        obtain ⟨⟨p0, p0f⟩, ⟨p1, p1f⟩, ⟨p2, p2f⟩, F4⟩ := store3 HFR.out (.int .i64 0) (.string ⟨#[]⟩) (.int .i64 0)
        have hTr : Turn (fun g => g = r) w3 (((w3.setCell ⟨r, 0, none⟩ (.int .i64 0)).setCell ⟨r, 1, none⟩ (.string ⟨#[]⟩)).setCell ⟨r, 2, none⟩ (.int .i64 0)) := (((Turn.refl (fun g => g = r) w3).setb rfl 0 _).setb rfl 1 _).setb rfl 2 _
        have HO := Lib.hid (And.intro F4 (And.intro (HR3.out.keep hTr (by omega) (fun g hg e => by have := HGL.out g hg; omega)) (HT3.out.late hTr fun g e => .inr (by omega))))
        clear F4 hTr
        go_wp2
        obtain ⟨w9, hw9⟩ : ∃ w9, ((w3.setCell ⟨r, 0, none⟩ (.int .i64 0)).setCell ⟨r, 1, none⟩ (.string ⟨#[]⟩)).setCell ⟨r, 2, none⟩ (.int .i64 0) = w9 := ⟨_, rfl⟩
        have ho := HO.out
        rw [hw9] at ho ⊢
        have q0 := ho.1.cell 0
        have q1 := ho.1.cell 1
        have q2 := ho.1.cell 2
        dsimp only [List.getElem?_cons_zero, List.getElem?_cons_succ] at q0 q1 q2
        exact bodyPost_ret (v := .agg #[.int .i64 0, .string ⟨#[]⟩, .int .i64 0]) (by simp [results, Tryz.results81, go_sem, q0, q1, q2]) rfl ⟨rfl, ho.2.1, ho.2.2⟩
end Go.Proofs.YtcjoiiaankngjaaGreatDoor
/- The reference's reader: platform. -/
namespace Go.Proofs.YtcjoiiaankngjaaGreatDoor
set_option maxRecDepth 100000
open Go.RowKit
def rPlGate (l : List RTok) (x : RSt) : RSt := if rIs 1 globS (hdT l x.at_) x.e then rFail 40 ((hdT l x.at_).ln : Int) x else x
def rPlatform (l : List RTok) (x : RSt) : RTok × RSt := rAny 1 l (rPlGate l x)
set_option maxHeartbeats 4000000 in
theorem rplatform_any {w : World} {bs b : Nat} {A : Option Addr} {c : Nat} {l : List RTok} {x : RSt} (h : RS w bs b A c l x) (hl : LOk l) :
    Calls Tryz.prog 79 #[.pointer (some ⟨b, 0, none⟩)] w (RdOut w bs b A c l (rPlatform l x).2 (rtV (rPlatform l x).1)) := by
  unfold RdOut rPlatform
  obtain ⟨w0, hw0⟩ : ∃ w0, w.alloc (.cells #[.int .i64 0, .string ⟨#[]⟩, .int .i64 0] 70) = w0 := ⟨_, rfl⟩
  have hb0 : Below w.heap.size w w0 := by rw [← hw0]; exact (Below.refl _ w).alloc (Nat.le_refl _) _
  have F0 : Full w0 w.heap.size 70 [.int .i64 0, .string ⟨#[]⟩, .int .i64 0] := by rw [← hw0]; exact Full.new w 70 _
  obtain ⟨r, hr⟩ : ∃ r, w.heap.size = r := ⟨_, rfl⟩
  rw [hr] at F0
  have hrb : r ≠ b := by have := h.fu.lt; omega
  have HGL := Lib.hid (show ∀ g, (Value.slice A l.length c).ownBlock = some g → g < r from fun g hg => by rw [← hr]; exact (h.ow.lt g hg).2)
  have hO := h.on hb0
  have IS := ris_any hO 1 globS
  rw [← hdT_eq hO.lt] at IS
  unfold BoolB at IS
  obtain ⟨x1, hx1⟩ : ∃ y, rPlGate l x = y := ⟨_, rfl⟩
  rw [hx1]
  have HAN := Lib.hid (fun (W : World) (H : RS W bs b A c l x1) => rany_any H hl 1 (by decide) (by decide))
  obtain ⟨⟨tk, x2⟩, hx2⟩ : ∃ y, rAny 1 l x1 = y := ⟨_, rfl⟩
  rw [hx2] at HAN ⊢
  unfold RdOut rtV at HAN
  unfold rtV
  dsimp only at HAN ⊢
  obtain ⟨y0, hy0⟩ : ∃ y, tk.kd = y := ⟨_, rfl⟩
  obtain ⟨y1, hy1⟩ : ∃ y, str tk.tx = y := ⟨_, rfl⟩
  obtain ⟨y2, hy2⟩ : ∃ y : Nat, tk.ln = y := ⟨_, rfl⟩
  rw [hy0, hy1, hy2] at HAN ⊢
  clear hy0 hy1 hy2 hx2
  have hT0 : Turn (fun g => g = b) w w0 := Turn.of hb0
  have HF0 := Lib.hid (And.intro F0 hT0)
  unfold rPlGate at hx1
  have TAIL : True := trivial
  cases hg : rIs 1 globS (hdT l x.at_) x.e with
  | false =>
    rw [hg] at IS hx1
    rw [if_neg (by decide)] at hx1
    subst hx1
    have IS := Lib.hid (show Calls Tryz.prog 78 #[.pointer (some ⟨b, 0, none⟩), .int .i64 1, .string ⟨#[103, 108, 111, 98]⟩] w0 _ from IS)
    have HO := Lib.hid hO
    clear hg h hO F0 hT0 hb0 TAIL
    go_enter Tryz.func79, Tryz.ntmps79
    go_upto_region 4 with (first
      | (go_at_call 78; ((with_reducible refine IS.out.mono ?_); rintro en w2 ⟨rfl, hb2⟩; (have H2 := Lib.hid (show RS w2 bs b A c l x ∧ Full w2 r 70 [.int .i64 0, .string ⟨#[]⟩, .int .i64 0] ∧ Turn (fun g => g = b) w w2 from ⟨HO.out.on hb2, HF0.out.1.on hb2, HF0.out.2.trans_ (Turn.of hb2)⟩)); clear hb2))
      | (fail "arm"))
    have AN := Lib.hid (HAN.out _ H2.out.1)
    go_wp2_with (first
      | (go_at_call 81; ((with_reducible refine AN.out.mono ?_); rintro en w4 ⟨rfl, h4, ht4⟩; (have F4 := ht4.far H2.out.2.1 (by omega)); (obtain ⟨⟨p0, p0f⟩, ⟨p1, p1f⟩, ⟨p2, p2f⟩, F5⟩ := store3 F4 (.int .i64 y0) (.string y1) (.int .i64 (y2 : Int))); (have HR4 := Lib.hid h4); (have HT4 := Lib.hid (H2.out.2.2.trans_ ht4)); (have HF5 := Lib.hid F5); clear h4 ht4 F4 F5))
      | (fail "arm"))
    have hTr : Turn (fun g => g = r) w4 (((w4.setCell ⟨r, 0, none⟩ (.int .i64 y0)).setCell ⟨r, 1, none⟩ (.string y1)).setCell ⟨r, 2, none⟩ (.int .i64 (y2 : Int))) := (((Turn.refl (fun g => g = r) w4).setb rfl 0 _).setb rfl 1 _).setb rfl 2 _
    have hRS := HR4.out.keep hTr (by omega) (fun g hg e => by have := HGL.out g hg; omega)
    have hTT := HT4.out.late hTr fun g e => .inr (by omega)
    have hF := HF5.out
    obtain ⟨w9, hw9⟩ : ∃ w9, ((w4.setCell ⟨r, 0, none⟩ (.int .i64 y0)).setCell ⟨r, 1, none⟩ (.string y1)).setCell ⟨r, 2, none⟩ (.int .i64 (y2 : Int)) = w9 := ⟨_, rfl⟩
    rw [hw9] at hRS hTT hF ⊢
    have q0 := hF.cell 0
    have q1 := hF.cell 1
    have q2 := hF.cell 2
    dsimp only [List.getElem?_cons_zero, List.getElem?_cons_succ] at q0 q1 q2
    exact bodyPost_ret (v := .agg #[.int .i64 y0, .string y1, .int .i64 (y2 : Int)]) (by simp [results, Tryz.results79, go_sem, q0, q1, q2]) rfl ⟨rfl, hRS, hTT⟩
  | true =>
    rw [hg] at IS hx1
    rw [if_pos rfl] at hx1
    have IS := Lib.hid (show Calls Tryz.prog 78 #[.pointer (some ⟨b, 0, none⟩), .int .i64 1, .string ⟨#[103, 108, 111, 98]⟩] w0 _ from IS)
    have HO := Lib.hid hO
    have hlt := h.lt
    have hle := h.le
    have hcap := h.cap
    have i0 : (0 : Int) ≤ (x.at_ : Int) := Int.natCast_nonneg _
    have i1 : (x.at_ : Int) < (l.length : Int) := by omega
    have HF := Lib.hid (fun (W : World) (H : RS W bs b A c l x) => rfail_any H 40 ((hdT l x.at_).ln : Int))
    unfold RdOut at HF
    rw [hx1] at HF
    obtain ⟨n, hn⟩ : ∃ n : Nat, (hdT l x.at_).ln = n := ⟨_, rfl⟩
    rw [hn] at HF
    have HN := Lib.hid (show ∀ W, RS W bs b A c l x → ∃ ad, A = some ad ∧ W.cell? ⟨(ad.add (x.at_ * 3)).block, (ad.add (x.at_ * 3)).off + 2, none⟩ = some (.int .i64 (n : Int)) from fun W H => by
      obtain ⟨ad, e, _, _, q⟩ := H.tok
      rw [← hdT_eq H.lt, hn] at q
      exact ⟨ad, e, q⟩)
    clear hg h hO F0 hT0 hb0 hn hx1 TAIL
    go_enter Tryz.func79, Tryz.ntmps79
    go_upto_region 3 with (first
      | (go_at_call 78; ((with_reducible refine IS.out.mono ?_); rintro en w2 ⟨rfl, hb2⟩; (have H2 := Lib.hid (show RS w2 bs b A c l x ∧ Full w2 r 70 [.int .i64 0, .string ⟨#[]⟩, .int .i64 0] ∧ Turn (fun g => g = b) w w2 from ⟨HO.out.on hb2, HF0.out.1.on hb2, HF0.out.2.trans_ (Turn.of hb2)⟩)); clear hb2))
      | (fail "arm"))
    have HRd := H2.out.1.drew
    obtain ⟨ad, rfl, t2⟩ := HN.out w2.drew HRd
    have c0 : w2.drew.cell? ⟨b, 0, none⟩ = some (.slice (some ad) l.length c) := HRd.fu.cell 0
    have c1 : w2.drew.cell? ⟨b, 1, none⟩ = some (.int .i64 (x.at_ : Int)) := HRd.fu.cell 1
    have FL := Lib.hid (HF.out w2.drew HRd)
    have HTd := Lib.hid (And.intro (H2.out.2.2.drew) (show Full w2.drew r 70 [.int .i64 0, .string ⟨#[]⟩, .int .i64 0] from H2.out.2.1))
    clear HRd H2
    go_region_with (first
      | (go_at_call 80; ((with_reducible refine FL.out.mono ?_); rintro en w2 ⟨rfl, hr3, ht3⟩; (have H2 := Lib.hid (show RS w2 bs b (some ad) c l x1 ∧ Full w2 r 70 [.int .i64 0, .string ⟨#[]⟩, .int .i64 0] ∧ Turn (fun g => g = b) w w2 from ⟨hr3, ht3.far HTd.out.2 (by omega), HTd.out.1.trans_ ht3⟩)); clear hr3 ht3))
      | (fail "arm"))
    all_goals
      have AN := Lib.hid (HAN.out _ H2.out.1)
      go_wp2_with (first
        | (go_at_call 81; ((with_reducible refine AN.out.mono ?_); rintro en w4 ⟨rfl, h4, ht4⟩; (have F4 := ht4.far H2.out.2.1 (by omega)); (obtain ⟨⟨p0, p0f⟩, ⟨p1, p1f⟩, ⟨p2, p2f⟩, F5⟩ := store3 F4 (.int .i64 y0) (.string y1) (.int .i64 (y2 : Int))); (have HR4 := Lib.hid h4); (have HT4 := Lib.hid (H2.out.2.2.trans_ ht4)); (have HF5 := Lib.hid F5); clear h4 ht4 F4 F5))
        | (fail "arm"))
      have hTr : Turn (fun g => g = r) w4 (((w4.setCell ⟨r, 0, none⟩ (.int .i64 y0)).setCell ⟨r, 1, none⟩ (.string y1)).setCell ⟨r, 2, none⟩ (.int .i64 (y2 : Int))) := (((Turn.refl (fun g => g = r) w4).setb rfl 0 _).setb rfl 1 _).setb rfl 2 _
      have hRS := HR4.out.keep hTr (by omega) (fun g hg e => by have := HGL.out g hg; omega)
      have hTT := HT4.out.late hTr fun g e => .inr (by omega)
      have hF := HF5.out
      obtain ⟨w9, hw9⟩ : ∃ w9, ((w4.setCell ⟨r, 0, none⟩ (.int .i64 y0)).setCell ⟨r, 1, none⟩ (.string y1)).setCell ⟨r, 2, none⟩ (.int .i64 (y2 : Int)) = w9 := ⟨_, rfl⟩
      rw [hw9] at hRS hTT hF ⊢
      have q0 := hF.cell 0
      have q1 := hF.cell 1
      have q2 := hF.cell 2
      dsimp only [List.getElem?_cons_zero, List.getElem?_cons_succ] at q0 q1 q2
      exact bodyPost_ret (v := .agg #[.int .i64 y0, .string y1, .int .i64 (y2 : Int)]) (by simp [results, Tryz.results79, go_sem, q0, q1, q2]) rfl ⟨rfl, hRS, hTT⟩
end Go.Proofs.YtcjoiiaankngjaaGreatDoor
/- The reference's value of a number. -/
namespace Go.Proofs.YtcjoiiaankngjaaGreatDoor
set_option maxRecDepth 100000
open Go.RowKit
def rValF : Int → List UInt8 → Int
  | a, [] => a
  | a, c :: t => rValF (min (10 * a + ((c.toNat : Int) - 48)) 1000000) t
def rVal (s : List UInt8) : Int := rValF 0 s
set_option maxHeartbeats 2000000 in
theorem value_any (s : ByteArray) (hs : s.size ≤ 281474976710655) (hd : ∀ b ∈ s.data.toList, isDig b = true) (w : World) : Calls Tryz.prog 117 #[.string s] w (fun e w' => e = .returned (.int .i64 (rVal s.data.toList)) ∧ w' = w) := by
  have hl0 := data_len s
  obtain ⟨R, hR⟩ : ∃ R, rVal s.data.toList = R := ⟨_, rfl⟩
  rw [hR]
  have HS := Lib.hid (show rValF 0 (s.data.toList.drop 0) = R from hR)
  have HD := Lib.hid (fun (k : Nat) (h : k < s.size) => (show 48 ≤ s[k].toNat ∧ s[k].toNat ≤ 57 from by
    have q := hd s[k] (by
      have : s[k] = s.data.toList[k]'(by rw [hl0]; exact h) := by simp; rfl
      rw [this]
      exact List.getElem_mem _)
    unfold isDig at q
    simp only [Bool.and_eq_true, decide_eq_true_eq] at q
    exact q))
  have HDR := Lib.hid (fun (k : Nat) (h : k < s.size) => drop_at s k h)
  have hsi : (s.size : Int) ≤ 281474976710655 := by omega
  clear hR hd
  go_enter Tryz.func117, Tryz.ntmps117
  go_upto_region 3 with fail
  go_loopw [3, 4] (fun v3 v4 wr => ∃ (a : Int) (k : Nat), v3 = .int .i64 a ∧ v4 = .int .i64 (k : Int) ∧ k ≤ s.size ∧ 0 ≤ a ∧ a ≤ 1000000 ∧ Hid (rValF a (s.data.toList.drop k) = R) ∧ wr = w) (fun _ v4 _ => s.size - (intOf v4).toNat)
  case atStart => exact ⟨0, 0, rfl, rfl, Nat.zero_le _, by omega, by omega, HS, rfl⟩
  case round =>
    obtain ⟨a, k, rfl, rfl, hk, ha0, ha1, HR, hww⟩ := hrel
    rw [hww]
    clear hww
    have k0 : (0 : Int) ≤ (k : Int) := Int.natCast_nonneg _
    by_cases hks : k < s.size
    · have k1 : (k : Int) < (s.size : Int) := by omega
      obtain ⟨d1, d2⟩ := HD.out k hks
      have HR2 := Lib.hid (show rValF (min (10 * a + ((s[k].toNat : Int) - 48)) 1000000) (s.data.toList.drop (k + 1)) = R from by
        have q := HR.out
        rw [HDR.out k hks, rValF] at q
        exact q)
      have d3 : (48 : Int) ≤ (s[k].toNat : Int) := by omega
      have d4 : (s[k].toNat : Int) ≤ 57 := by omega
      go_wp2
      go_roundw
      case rel => exact ⟨_, k + 1, rfl, by go_num, by omega, by omega, by omega, HR2, by simp⟩
      case measure => simp [intOf]; omega
    · obtain rfl : k = s.size := by omega
      have k1 : ¬ ((s.size : Nat) : Int) < (s.size : Int) := by omega
      have e : a = R := by
        have q := HR.out
        rw [List.drop_eq_nil_of_le (by rw [hl0]; exact Nat.le_refl _)] at q
        exact q
      subst e
      go_wp2
      go_ret
      exact ⟨rfl, rfl⟩
end Go.Proofs.YtcjoiiaankngjaaGreatDoor
/- The reference's reader: number. -/
namespace Go.Proofs.YtcjoiiaankngjaaGreatDoor
set_option maxRecDepth 100000
open Go.RowKit
/-- the text of a number is digits -/
def LDig (l : List RTok) : Prop := ∀ i, i < l.length → (hdT l i).kd = 2 → (hdT l i).tx.length ≤ 4294967000 ∧ ∀ b ∈ (hdT l i).tx, isDig b = true
def rNum1 (low high : Int) (l : List RTok) (x : RSt) : RSt :=
  if (rAny 2 l x).2.e = 0 ∧ (rVal (rAny 2 l x).1.tx < low ∨ high < rVal (rAny 2 l x).1.tx) then rFail 41 ((rAny 2 l x).1.ln : Int) (rAny 2 l x).2 else (rAny 2 l x).2
def rNumber (low high : Int) (l : List RTok) (x : RSt) : (Int × Nat) × RSt := ((rVal (rAny 2 l x).1.tx, (rAny 2 l x).1.ln), rNeed 4 [59] l (rNum1 low high l x))
set_option maxHeartbeats 8000000 in
theorem rnumber_any {w : World} {bs b : Nat} {A : Option Addr} {c : Nat} {l : List RTok} {x : RSt} (h : RS w bs b A c l x) (hl : LOk l) (hd : LDig l) (low high : Int) :
    Calls Tryz.prog 83 #[.pointer (some ⟨b, 0, none⟩), .int .i64 low, .int .i64 high] w (RdOut w bs b A c l (rNumber low high l x).2 (.tuple #[.int .i64 (rNumber low high l x).1.1, .int .i64 ((rNumber low high l x).1.2 : Int)])) := by
  unfold RdOut rNumber rNum1
  have AN := rany_any h hl 2 (by decide) (by decide)
  unfold RdOut rtV at AN
  have hdg : (rAny 2 l x).1.tx.length ≤ 4294967000 ∧ ∀ b ∈ (rAny 2 l x).1.tx, isDig b = true := by
    unfold rAny
    split
    · rename_i hq
      exact hd x.at_ h.lt hq.2
    · exact ⟨Nat.zero_le _, fun b hb => by cases hb⟩
  obtain ⟨⟨tk, x1⟩, hx1⟩ : ∃ y, rAny 2 l x = y := ⟨_, rfl⟩
  rw [hx1] at AN hdg ⊢
  dsimp only at AN hdg ⊢
  have VA := fun W => value_any (str tk.tx) (by rw [str_size]; omega) (by rw [str_data]; exact hdg.2) W
  rw [str_data] at VA
  obtain ⟨y0, hy0⟩ : ∃ y, tk.kd = y := ⟨_, rfl⟩
  obtain ⟨y1, hy1⟩ : ∃ y, str tk.tx = y := ⟨_, rfl⟩
  obtain ⟨y2, hy2⟩ : ∃ y : Nat, tk.ln = y := ⟨_, rfl⟩
  obtain ⟨n, hn⟩ : ∃ y, rVal tk.tx = y := ⟨_, rfl⟩
  rw [hy0, hy1, hy2] at AN
  rw [hy1, hn] at VA
  rw [hy2, hn]
  have AN := Lib.hid AN
  have VA := Lib.hid VA
  obtain ⟨x2, hx2⟩ : ∃ y, (if x1.e = 0 ∧ (n < low ∨ high < n) then rFail 41 (y2 : Int) x1 else x1) = y := ⟨_, rfl⟩
  rw [hx2]
  obtain ⟨x3, hx3⟩ : ∃ y, rNeed 4 [59] l x2 = y := ⟨_, rfl⟩
  rw [hx3]
  have HNE := Lib.hid (fun (W : World) (H : RS W bs b A c l x2) => (by
    have z := rneed_any H hl 4 (by decide) (by decide) [59]
    unfold RdOut at z
    rw [hx3] at z
    exact z : Calls Tryz.prog 48 #[.pointer (some ⟨b, 0, none⟩), .int .i64 4, .string ⟨#[59]⟩] W (fun en w' => en = .returned (.tuple #[]) ∧ RS w' bs b A c l x3 ∧ Turn (fun g => g = b) W w')))
  have HFL := Lib.hid (fun (W : World) (H : RS W bs b A c l x1) => rfail_any H 41 (y2 : Int))
  unfold RdOut at HFL
  clear hx1 hdg hy0 hy1 hy2 hn hx3 h
  obtain ⟨e, he⟩ : ∃ e, x1.e = e := ⟨_, rfl⟩
  rw [he] at hx2
  have HEX := Lib.hid he
  have WALKS : ∀ (q : Bool), True := fun _ => trivial
  clear WALKS he
  by_cases hc : e = 0 ∧ (n < low ∨ high < n)
  · rw [if_pos hc] at hx2
    rw [hx2] at HFL
    have q1 : (e == 0) = true := by rw [hc.1]; rfl
    by_cases hlow : n < low
    · have p1 : decide (n < low) = true := decide_eq_true hlow
      clear hc hx2
      go_enter Tryz.func83, Tryz.ntmps83
      go_upto_region 2 with (first
        | (go_at_call 81; ((with_reducible refine AN.out.mono ?_); rintro en w2 ⟨rfl, h2, ht2⟩; (have H2 := Lib.hid (And.intro h2 ht2)); clear h2 ht2))
        | (fail "arm"))
      obtain ⟨w3, hw3⟩ : ∃ w3, w2.alloc (.cells #[.int .i64 y0, .string y1, .int .i64 (y2 : Int)] 70) = w3 := ⟨_, rfl⟩
      have hb3 : Below w2.heap.size w2 w3 := by rw [← hw3]; exact (Below.refl _ w2).alloc (Nat.le_refl _) _
      have F3 : Full w3 w2.heap.size 70 [.int .i64 y0, .string y1, .int .i64 (y2 : Int)] := by rw [← hw3]; exact Full.new w2 70 _
      obtain ⟨u, hu⟩ : ∃ u, w2.heap.size = u := ⟨_, rfl⟩
      rw [hu] at F3
      have hub : u ≠ b := by have := H2.out.1.fu.lt; omega
      have R3 := H2.out.1.on hb3
      have v1 : w3.cell? ⟨u, 1, none⟩ = some (.string y1) := F3.cell 1
      have v2 : w3.cell? ⟨u, 2, none⟩ = some (.int .i64 (y2 : Int)) := F3.cell 2
      have v3 : w3.cell? ⟨b, 2, none⟩ = some (.int .i64 e) := by rw [← HEX.out]; exact R3.fu.cell 2
      have HR3 := Lib.hid (And.intro R3 (And.intro F3 (H2.out.2.trans_ (Turn.of hb3))))
      rw [hw3, hu]
      clear F3 R3 hb3 hw3 hu
      go_upto_region 6 with (first
        | (go_at_call 117; ((with_reducible refine (VA.out _).mono ?_); rintro en w4 ⟨rfl, rfl⟩))
        | (go_at_call 80; ((with_reducible refine (HFL.out _ HR3.out.1).mono ?_); rintro en w5 ⟨rfl, h5, ht5⟩; (have H5 := Lib.hid (And.intro h5 (And.intro (ht5.far HR3.out.2.1 hub) (HR3.out.2.2.trans_ ht5)))); clear h5 ht5))
        | (go_at_call 48; ((with_reducible refine (HNE.out _ H5.out.1).mono ?_); rintro en w6 ⟨rfl, h6, ht6⟩; (have H6 := Lib.hid (And.intro h6 (And.intro (ht6.far H5.out.2.1 hub) (H5.out.2.2.trans_ ht6)))); clear h6 ht6))
        | (fail "arm"))
      have z2 : w6.drew.cell? ⟨u, 2, none⟩ = some (.int .i64 (y2 : Int)) := H6.out.2.1.cell 2
      go_region
      all_goals (go_wp2; go_ret2; exact ⟨rfl, H6.out.1.drew, H6.out.2.2.drew⟩)
    · have p2 : high < n := hc.2.resolve_left hlow
      have p1 : decide (n < low) = false := decide_eq_false hlow
      have p3 : decide (n > high) = true := decide_eq_true p2
      clear hc hx2
      go_enter Tryz.func83, Tryz.ntmps83
      go_upto_region 2 with (first
        | (go_at_call 81; ((with_reducible refine AN.out.mono ?_); rintro en w2 ⟨rfl, h2, ht2⟩; (have H2 := Lib.hid (And.intro h2 ht2)); clear h2 ht2))
        | (fail "arm"))
      obtain ⟨w3, hw3⟩ : ∃ w3, w2.alloc (.cells #[.int .i64 y0, .string y1, .int .i64 (y2 : Int)] 70) = w3 := ⟨_, rfl⟩
      have hb3 : Below w2.heap.size w2 w3 := by rw [← hw3]; exact (Below.refl _ w2).alloc (Nat.le_refl _) _
      have F3 : Full w3 w2.heap.size 70 [.int .i64 y0, .string y1, .int .i64 (y2 : Int)] := by rw [← hw3]; exact Full.new w2 70 _
      obtain ⟨u, hu⟩ : ∃ u, w2.heap.size = u := ⟨_, rfl⟩
      rw [hu] at F3
      have hub : u ≠ b := by have := H2.out.1.fu.lt; omega
      have R3 := H2.out.1.on hb3
      have v1 : w3.cell? ⟨u, 1, none⟩ = some (.string y1) := F3.cell 1
      have v2 : w3.cell? ⟨u, 2, none⟩ = some (.int .i64 (y2 : Int)) := F3.cell 2
      have v3 : w3.cell? ⟨b, 2, none⟩ = some (.int .i64 e) := by rw [← HEX.out]; exact R3.fu.cell 2
      have HR3 := Lib.hid (And.intro R3 (And.intro F3 (H2.out.2.trans_ (Turn.of hb3))))
      rw [hw3, hu]
      clear F3 R3 hb3 hw3 hu
      go_upto_region 6 with (first
        | (go_at_call 117; ((with_reducible refine (VA.out _).mono ?_); rintro en w4 ⟨rfl, rfl⟩))
        | (go_at_call 80; ((with_reducible refine (HFL.out _ HR3.out.1).mono ?_); rintro en w5 ⟨rfl, h5, ht5⟩; (have H5 := Lib.hid (And.intro h5 (And.intro (ht5.far HR3.out.2.1 hub) (HR3.out.2.2.trans_ ht5)))); clear h5 ht5))
        | (go_at_call 48; ((with_reducible refine (HNE.out _ H5.out.1).mono ?_); rintro en w6 ⟨rfl, h6, ht6⟩; (have H6 := Lib.hid (And.intro h6 (And.intro (ht6.far H5.out.2.1 hub) (H5.out.2.2.trans_ ht6)))); clear h6 ht6))
        | (fail "arm"))
      have z2 : w6.drew.cell? ⟨u, 2, none⟩ = some (.int .i64 (y2 : Int)) := H6.out.2.1.cell 2
      go_region
      all_goals (go_wp2; go_ret2; exact ⟨rfl, H6.out.1.drew, H6.out.2.2.drew⟩)
  · rw [if_neg hc] at hx2
    subst hx2
    by_cases he0 : e = 0
    · have q1 : (e == 0) = true := by rw [he0]; rfl
      have hlow : ¬ n < low := fun z => hc ⟨he0, .inl z⟩
      have hhi : ¬ high < n := fun z => hc ⟨he0, .inr z⟩
      have p1 : decide (n < low) = false := decide_eq_false hlow
      have p3 : decide (n > high) = false := decide_eq_false hhi
      clear hc he0
      go_enter Tryz.func83, Tryz.ntmps83
      go_upto_region 2 with (first
        | (go_at_call 81; ((with_reducible refine AN.out.mono ?_); rintro en w2 ⟨rfl, h2, ht2⟩; (have H2 := Lib.hid (And.intro h2 ht2)); clear h2 ht2))
        | (fail "arm"))
      obtain ⟨w3, hw3⟩ : ∃ w3, w2.alloc (.cells #[.int .i64 y0, .string y1, .int .i64 (y2 : Int)] 70) = w3 := ⟨_, rfl⟩
      have hb3 : Below w2.heap.size w2 w3 := by rw [← hw3]; exact (Below.refl _ w2).alloc (Nat.le_refl _) _
      have F3 : Full w3 w2.heap.size 70 [.int .i64 y0, .string y1, .int .i64 (y2 : Int)] := by rw [← hw3]; exact Full.new w2 70 _
      obtain ⟨u, hu⟩ : ∃ u, w2.heap.size = u := ⟨_, rfl⟩
      rw [hu] at F3
      have hub : u ≠ b := by have := H2.out.1.fu.lt; omega
      have R3 := H2.out.1.on hb3
      have v1 : w3.cell? ⟨u, 1, none⟩ = some (.string y1) := F3.cell 1
      have v2 : w3.cell? ⟨u, 2, none⟩ = some (.int .i64 (y2 : Int)) := F3.cell 2
      have v3 : w3.cell? ⟨b, 2, none⟩ = some (.int .i64 e) := by rw [← HEX.out]; exact R3.fu.cell 2
      have HR3 := Lib.hid (And.intro R3 (And.intro F3 (H2.out.2.trans_ (Turn.of hb3))))
      rw [hw3, hu]
      clear F3 R3 hb3 hw3 hu
      go_upto_region 6 with (first
        | (go_at_call 117; ((with_reducible refine (VA.out _).mono ?_); rintro en w4 ⟨rfl, rfl⟩))
        | (go_at_call 48; ((with_reducible refine (HNE.out _ HR3.out.1).mono ?_); rintro en w6 ⟨rfl, h6, ht6⟩; (have H6 := Lib.hid (And.intro h6 (And.intro (ht6.far HR3.out.2.1 hub) (HR3.out.2.2.trans_ ht6)))); clear h6 ht6))
        | (fail "arm"))
      have z2 : w6.drew.cell? ⟨u, 2, none⟩ = some (.int .i64 (y2 : Int)) := H6.out.2.1.cell 2
      go_region
      all_goals (go_wp2; go_ret2; exact ⟨rfl, H6.out.1.drew, H6.out.2.2.drew⟩)
    · have q1 : (e == 0) = false := by simpa using he0
      clear hc he0
      go_enter Tryz.func83, Tryz.ntmps83
      go_upto_region 2 with (first
        | (go_at_call 81; ((with_reducible refine AN.out.mono ?_); rintro en w2 ⟨rfl, h2, ht2⟩; (have H2 := Lib.hid (And.intro h2 ht2)); clear h2 ht2))
        | (fail "arm"))
      obtain ⟨w3, hw3⟩ : ∃ w3, w2.alloc (.cells #[.int .i64 y0, .string y1, .int .i64 (y2 : Int)] 70) = w3 := ⟨_, rfl⟩
      have hb3 : Below w2.heap.size w2 w3 := by rw [← hw3]; exact (Below.refl _ w2).alloc (Nat.le_refl _) _
      have F3 : Full w3 w2.heap.size 70 [.int .i64 y0, .string y1, .int .i64 (y2 : Int)] := by rw [← hw3]; exact Full.new w2 70 _
      obtain ⟨u, hu⟩ : ∃ u, w2.heap.size = u := ⟨_, rfl⟩
      rw [hu] at F3
      have hub : u ≠ b := by have := H2.out.1.fu.lt; omega
      have R3 := H2.out.1.on hb3
      have v1 : w3.cell? ⟨u, 1, none⟩ = some (.string y1) := F3.cell 1
      have v2 : w3.cell? ⟨u, 2, none⟩ = some (.int .i64 (y2 : Int)) := F3.cell 2
      have v3 : w3.cell? ⟨b, 2, none⟩ = some (.int .i64 e) := by rw [← HEX.out]; exact R3.fu.cell 2
      have HR3 := Lib.hid (And.intro R3 (And.intro F3 (H2.out.2.trans_ (Turn.of hb3))))
      rw [hw3, hu]
      clear F3 R3 hb3 hw3 hu
      go_upto_region 6 with (first
        | (go_at_call 117; ((with_reducible refine (VA.out _).mono ?_); rintro en w4 ⟨rfl, rfl⟩))
        | (go_at_call 48; ((with_reducible refine (HNE.out _ HR3.out.1).mono ?_); rintro en w6 ⟨rfl, h6, ht6⟩; (have H6 := Lib.hid (And.intro h6 (And.intro (ht6.far HR3.out.2.1 hub) (HR3.out.2.2.trans_ ht6)))); clear h6 ht6))
        | (fail "arm"))
      have z2 : w6.drew.cell? ⟨u, 2, none⟩ = some (.int .i64 (y2 : Int)) := H6.out.2.1.cell 2
      go_region
      all_goals (go_wp2; go_ret2; exact ⟨rfl, H6.out.1.drew, H6.out.2.2.drew⟩)
end Go.Proofs.YtcjoiiaankngjaaGreatDoor
/- The reference's reader: kind. -/
namespace Go.Proofs.YtcjoiiaankngjaaGreatDoor
set_option maxRecDepth 100000
open Go.RowKit
def rKinds : Nat → List RTok → RSt → Int × RSt
  | 0, l, x => (0, rFail 40 ((hdT l x.at_).ln : Int) x)
  | f + 1, l, x => if (rTake 1 (kw (4 - f)) l x).1 then (((4 - f : Nat) : Int), rNeed 4 [59] l (rTake 1 (kw (4 - f)) l x).2) else rKinds f l x
def kwC : List Value := [.string ⟨#[108, 105, 98]⟩, .string ⟨#[98, 105, 110]⟩, .string ⟨#[116, 101, 115, 116]⟩, .string ⟨#[103, 101, 110]⟩]
theorem kwC_at {w : World} {u : Nat} (F : Full w u 9 kwC) (k : Nat) (hk : k < 4) : w.cell? ⟨u, k, none⟩ = some (.string (str (kw (k + 1)))) := by
  rw [F.cell k]
  obtain rfl | rfl | rfl | rfl : k = 0 ∨ k = 1 ∨ k = 2 ∨ k = 3 := by omega
  all_goals rfl
theorem rTake_no {kd : Int} {tx : List UInt8} {l : List RTok} {x : RSt} (h : (rTake kd tx l x).1 = false) : (rTake kd tx l x).2 = x := by
  unfold rTake at h ⊢
  split at h
  · cases h
  · rename_i hq; rw [if_neg hq]
set_option maxHeartbeats 8000000 in
theorem rkind_any {w : World} {bs b : Nat} {A : Option Addr} {c : Nat} {l : List RTok} {x : RSt} (h : RS w bs b A c l x) (hl : LOk l) :
    Calls Tryz.prog 82 #[.pointer (some ⟨b, 0, none⟩)] w (RdOut w bs b A c l (rKinds 4 l x).2 (.int .i64 (rKinds 4 l x).1)) := by
  unfold RdOut
  obtain ⟨⟨v, y⟩, hr⟩ : ∃ r, rKinds 4 l x = r := ⟨_, rfl⟩
  rw [hr]
  dsimp only
  obtain ⟨w1, hw1⟩ : ∃ w1, w.alloc (.cells #[.string ⟨#[108, 105, 98]⟩, .string ⟨#[98, 105, 110]⟩, .string ⟨#[116, 101, 115, 116]⟩, .string ⟨#[103, 101, 110]⟩] 9) = w1 := ⟨_, rfl⟩
  have hb1 : Below w.heap.size w w1 := by rw [← hw1]; exact (Below.refl _ w).alloc (Nat.le_refl _) _
  have F1 : Full w1 w.heap.size 9 kwC := by rw [← hw1]; exact Full.new w 9 _
  obtain ⟨u, hu⟩ : ∃ u, w.heap.size = u := ⟨_, rfl⟩
  rw [hu] at F1
  have hub : u ≠ b := by have := h.fu.lt; omega
  have HS := Lib.hid (show RS w1 bs b A c l x ∧ Full w1 u 9 kwC ∧ Turn (fun g => g = b) w w1 from ⟨h.on hb1, F1, Turn.of hb1⟩)
  have HTK := Lib.hid (fun (k : Nat) (W : World) (H : RS W bs b A c l x) => rtake_any H hl 1 (by decide) (by decide) (kw (k + 1)))
  have HND := Lib.hid (fun (z : RSt) (W : World) (H : RS W bs b A c l z) => (by
    have q := rneed_any H hl 4 (by decide) (by decide) [59]
    unfold RdOut at q
    exact q : Calls Tryz.prog 48 #[.pointer (some ⟨b, 0, none⟩), .int .i64 4, .string ⟨#[59]⟩] W (fun en w' => en = .returned (.tuple #[]) ∧ RS w' bs b A c l (rNeed 4 [59] l z) ∧ Turn (fun g => g = b) W w')))
  have HFL := Lib.hid (fun (W : World) (H : RS W bs b A c l x) => rfail_any H 40 ((hdT l x.at_).ln : Int))
  unfold RdOut at HFL HTK
  have hlt := h.lt
  have hle := h.le
  have hcap := h.cap
  have i0 : (0 : Int) ≤ (x.at_ : Int) := Int.natCast_nonneg _
  have i1 : (x.at_ : Int) < (l.length : Int) := by omega
  obtain ⟨n, hn⟩ : ∃ n : Nat, (hdT l x.at_).ln = n := ⟨_, rfl⟩
  rw [hn] at HFL
  have HN := Lib.hid (show ∀ W, RS W bs b A c l x → ∃ ad, A = some ad ∧ W.cell? ⟨(ad.add (x.at_ * 3)).block, (ad.add (x.at_ * 3)).off + 2, none⟩ = some (.int .i64 (n : Int)) from fun W H => by
    obtain ⟨ad, e, _, _, q⟩ := H.tok
    rw [← hdT_eq H.lt, hn] at q
    exact ⟨ad, e, q⟩)
  have HNN := Lib.hid hn
  have HR := Lib.hid hr
  clear h hb1 F1 hr hn
  go_enter Tryz.func82, Tryz.ntmps82
  go_upto_region 3 with fail
  go_loopw [4] (fun i wr => ∃ k : Nat, i = .int .i64 (k : Int) ∧ k ≤ 4 ∧ Hid (rKinds (4 - k) l x = (v, y)) ∧ Hid (RS wr bs b A c l x ∧ Full wr u 9 kwC ∧ Turn (fun g => g = b) w wr)) (fun i _ => 4 - (intOf i).toNat)
  case atStart => exact ⟨0, rfl, by omega, HR, HS⟩
  case round =>
    obtain ⟨k, rfl, hk, HK, HW⟩ := hrel
    have k0 : (0 : Int) ≤ (k : Int) := Int.natCast_nonneg _
    by_cases hlt4 : k < 4
    · have k1 : (k : Int) < 4 := by omega
      have hd4 : decide ((k : Int) < 4) = true := by simp; omega
      have z0 := kwC_at HW.out.2.1 k hlt4
      have TK := HTK.out k wr HW.out.1
      obtain ⟨X, hX⟩ : ∃ X, str (kw (k + 1)) = X := ⟨_, rfl⟩
      rw [hX] at z0 TK
      have hkk := HK.out
      obtain ⟨f, hf⟩ : ∃ f, 4 - k = f + 1 := ⟨3 - k, by omega⟩
      rw [hf, rKinds, show 4 - f = k + 1 by omega] at hkk
      cases htk : (rTake 1 (kw (k + 1)) l x).1 with
      | true =>
        rw [htk] at TK hkk
        rw [if_pos rfl] at hkk
        obtain ⟨x2, hx2⟩ : ∃ y, (rTake 1 (kw (k + 1)) l x).2 = y := ⟨_, rfl⟩
        rw [hx2] at TK hkk
        have TK := Lib.hid TK
        have HKK := Lib.hid hkk
        have ND := Lib.hid (HND.out x2)
        clear hX htk hx2 hkk
        go_wp2_with (first
          | (go_at_call 46; ((with_reducible refine TK.out.mono ?_); rintro en w2 ⟨rfl, h2, ht2⟩; (have H2 := Lib.hid (And.intro h2 (HW.out.2.2.trans_ ht2))); clear h2 ht2))
          | (go_at_call 48; ((with_reducible refine (ND.out _ H2.out.1).mono ?_); rintro en w3 ⟨rfl, h3, ht3⟩; (have H3 := Lib.hid (And.intro h3 (H2.out.2.trans_ ht3))); clear h3 ht3))
          | (fail "arm"))
        go_ret
        have e := HKK.out
        injection e with e1 e2
        subst e1 e2
        refine ⟨?_, H3.out.1, H3.out.2⟩
        show Ending.returned (Value.int .i64 (1 + (k : Int))) = _
        congr 2
        omega
      | false =>
        rw [htk, rTake_no htk] at TK
        rw [htk, if_neg (by decide)] at hkk
        have TK := Lib.hid TK
        have HK2 := Lib.hid (show rKinds (4 - (k + 1)) l x = (v, y) from by rw [show 4 - (k + 1) = f by omega]; exact hkk)
        clear hX htk hkk
        go_wp2_with (first
          | (go_at_call 46; ((with_reducible refine TK.out.mono ?_); rintro en w2 ⟨rfl, h2, ht2⟩; (have H2 := Lib.hid (And.intro h2 (And.intro (ht2.far HW.out.2.1 hub) (HW.out.2.2.trans_ ht2)))); clear h2 ht2))
          | (fail "arm"))
        go_roundw
        case rel => exact ⟨k + 1, by simp, hlt4, HK2, H2⟩
        case measure => show 4 - ((k : Int) + 1).toNat < 4 - (k : Int).toNat; omega
    · obtain rfl : k = 4 := by omega
      have hd4 : decide (((4 : Nat) : Int) < 4) = false := by decide
      have e := HK.out
      rw [show 4 - 4 = 0 from rfl, rKinds, HNN.out] at e
      injection e with e1 e2
      have HRd := HW.out.1.drew
      obtain ⟨ad, rfl, t2⟩ := HN.out wr.drew HRd
      have c0 : wr.drew.cell? ⟨b, 0, none⟩ = some (.slice (some ad) l.length c) := HRd.fu.cell 0
      have c1 : wr.drew.cell? ⟨b, 1, none⟩ = some (.int .i64 (x.at_ : Int)) := HRd.fu.cell 1
      have FL := HFL.out wr.drew HRd
      rw [e2] at FL
      have FL := Lib.hid FL
      have HTd := Lib.hid (HW.out.2.2.drew)
      have HE1 := Lib.hid e1
      clear HRd e1 e2
      go_upto_region 9 with fail
      go_region_with (first
        | (go_at_call 80; ((with_reducible refine FL.out.mono ?_); rintro en w3 ⟨rfl, hr3, ht3⟩; (have HO := Lib.hid (And.intro hr3 (HTd.out.trans_ ht3))); clear hr3 ht3))
        | (fail "arm"))
      all_goals (go_wp2; go_ret; exact ⟨by rw [← HE1.out]; rfl, HO.out⟩)
end Go.Proofs.YtcjoiiaankngjaaGreatDoor
/- The reference's tokens: the last one, numbers. -/
namespace Go.Proofs.YtcjoiiaankngjaaGreatDoor
set_option maxRecDepth 100000
open Go.RowKit
theorem toks_ne (s : List UInt8) (n : Nat) : 0 < (toks s n).length := by
  rw [toks_eq]
  split <;> simp
theorem toks_last : ∀ (f : Nat) (s : List UInt8) (n : Nat), s.length ≤ f → ∀ i, i < (toks s n).length → 2 ≤ ((toks s n)[i]?.getD tok0).cls → i + 1 < (toks s n).length
  | f, s, n, hf, i, hi, hc => by
    rw [toks_eq] at hi hc ⊢
    by_cases h : (next s n).1.cls ≤ 1
    · rw [if_pos h] at hi hc ⊢
      have hi0 : i = 0 := by simpa using hi
      subst hi0
      simp at hc
      omega
    · rw [if_neg h] at hi hc ⊢
      have hlen := next_len s n (by omega)
      cases i with
      | zero =>
        have := toks_ne (next s n).2.1 (next s n).2.2
        simp only [List.length_cons]
        omega
      | succ i =>
        simp only [List.length_cons, List.getElem?_cons_succ] at hi hc ⊢
        cases f with
        | zero => omega
        | succ f =>
          have := toks_last f (next s n).2.1 (next s n).2.2 (by omega) i (by omega) hc
          omega
theorem kd_cls {c : Nat} (h0 : kindOf c ≠ 0) (h5 : kindOf c ≠ 5) : 2 ≤ c := by
  rcases Nat.lt_or_ge c 2 with h | h
  · obtain rfl | rfl : c = 0 ∨ c = 1 := by omega
    · exact absurd rfl h5
    · exact absurd rfl h0
  · exact h
theorem hdT_toks (s : List UInt8) (n i : Nat) (hi : i < (rToks s n).length) : hdT (rToks s n) i = convT ((toks s n)[i]?.getD tok0) := by
  have h2 : i < (toks s n).length := by simpa [rToks] using hi
  unfold hdT rToks
  rw [List.getElem?_map, List.getElem?_eq_getElem h2]
  rfl
theorem rToks_lok (s : List UInt8) (n : Nat) : LOk (rToks s n) := fun i hi h0 h5 => by
  rw [hdT_toks s n i hi] at h0 h5
  have h2 : i < (toks s n).length := by simpa [rToks] using hi
  have := toks_last s.length s n (Nat.le_refl _) i h2 (kd_cls h0 h5)
  simpa [rToks] using this
theorem toks_num : ∀ (f : Nat) (s : List UInt8) (n : Nat), s.length ≤ f → s.length ≤ 4294967000 → ∀ i, i < (toks s n).length → ((toks s n)[i]?.getD tok0).cls = 3 → ((toks s n)[i]?.getD tok0).txt.length ≤ 4294967000 ∧ ∀ b ∈ ((toks s n)[i]?.getD tok0).txt, isDig b = true
  | f, s, n, hf, hs, i, hi, hc => by
    rw [toks_eq] at hi hc ⊢
    have head : (next s n).1.cls = 3 → (next s n).1.txt.length ≤ 4294967000 ∧ ∀ b ∈ (next s n).1.txt, isDig b = true := fun h3 => by
      have hsl := (skip_len false s n).1
      refine ⟨?_, ?_⟩
      · show ((skip false s n).1.take _).length ≤ _
        rw [List.length_take]
        omega
      · show ∀ b ∈ (skip false s n).1.take (first (skip false s n).1).2, _
        have h3 : (first (skip false s n).1).1 = 3 := h3
        obtain ⟨l, hl⟩ : ∃ l, (skip false s n).1 = l := ⟨_, rfl⟩
        rw [hl] at h3 ⊢
        cases l with
        | nil => simp [first] at h3
        | cons c t =>
          by_cases h1 : isLet c = true
          · rw [first, if_pos h1] at h3; simp at h3
          · by_cases h2 : isDig c = true
            · have e : first (c :: t) = (3, run isDig (c :: t)) := by rw [first, if_neg h1, if_pos h2]
              rw [e]
              intro b hb
              obtain ⟨j, hj, rfl⟩ := List.getElem_of_mem hb
              rw [List.length_take] at hj
              obtain ⟨_, q⟩ := run_at isDig (c :: t) j (by omega)
              rw [List.getElem_take]
              exact q
            · rw [first, if_neg h1, if_neg h2] at h3
              split at h3
              · simp at h3
              · split at h3 <;> simp at h3
    by_cases h : (next s n).1.cls ≤ 1
    · rw [if_pos h] at hi hc ⊢
      have hi0 : i = 0 := by simpa using hi
      subst hi0
      simp at hc
      omega
    · rw [if_neg h] at hi hc ⊢
      have hlen := next_len s n (by omega)
      cases i with
      | zero =>
        simp only [List.getElem?_cons_zero, Option.getD_some] at hc ⊢
        exact head hc
      | succ i =>
        simp only [List.length_cons, List.getElem?_cons_succ] at hi hc ⊢
        cases f with
        | zero => omega
        | succ f => exact toks_num f (next s n).2.1 (next s n).2.2 (by omega) (by omega) i (by omega) hc
theorem rToks_dig (s : List UInt8) (n : Nat) (hs : s.length ≤ 4294967000) : LDig (rToks s n) := fun i hi h => by
  have h2 : i < (toks s n).length := by simpa [rToks] using hi
  rw [hdT_toks s n i hi] at h ⊢
  have hc : ((toks s n)[i]?.getD tok0).cls = 3 := by
    have h : kindOf ((toks s n)[i]?.getD tok0).cls = 2 := h
    unfold kindOf at h
    split at h <;> first | (rename_i e; exact e) | (simp at h)
  have := toks_num s.length s n (Nat.le_refl _) hs i h2 hc
  unfold convT
  rw [if_neg (by rw [hc]; decide)]
  exact this
theorem rToks_len (s : List UInt8) (n : Nat) : 0 < (rToks s n).length ∧ (rToks s n).length ≤ s.length + 1 := by
  unfold rToks
  rw [List.length_map]
  exact ⟨toks_ne s n, toks_len (s.length + 1) s n⟩
end Go.Proofs.YtcjoiiaankngjaaGreatDoor
/- The reference's has: whether an item with a text is in a list. -/
namespace Go.Proofs.YtcjoiiaankngjaaGreatDoor
set_option maxRecDepth 100000
open Go.RowKit
def rHas (l : List Itm) (tx : List UInt8) : Bool := l.any fun i => i.tx == tx
set_option maxHeartbeats 4000000 in
theorem rhas_any {w : World} {B c : Nat} {A : Option Addr} {l : List Itm} (hA : Itms w B A c l) (hB : B ≤ w.heap.size) (hl : l.length ≤ maxLen) (tx : List UInt8) :
    Calls Tryz.prog 40 #[.slice A l.length c, .string (str tx)] w (BoolB w (rHas l tx)) := by
  unfold BoolB
  unfold maxLen at hl
  have hcap := hA.2.1
  obtain ⟨n, hn⟩ : ∃ n, l.length = n := ⟨_, rfl⟩
  rw [hn] at hcap hl ⊢
  obtain ⟨R, hR⟩ : ∃ R, rHas l tx = R := ⟨_, rfl⟩
  rw [hR]
  obtain ⟨X, hX⟩ : ∃ X, str tx = X := ⟨_, rfl⟩
  rw [hX]
  have HN := Lib.hid hn
  have HX := Lib.hid hX
  have HS := Lib.hid (show rHas (l.drop 0) tx = R from hR)
  clear hn hR hX
  go_enter Tryz.func40, Tryz.ntmps40
  go_upto_region 2 with fail
  go_loopw [5] (fun i wr => ∃ k : Nat, i = .int .i64 (k : Int) ∧ k ≤ n ∧ Hid (rHas (l.drop k) tx = R) ∧ Below w.heap.size w wr) (fun i _ => n - (intOf i).toNat)
  case atStart => exact ⟨0, rfl, Nat.zero_le _, HS, Below.refl _ _⟩
  case round =>
    obtain ⟨k, rfl, hk, HR, hBw⟩ := hrel
    have hi0 : (0 : Int) ≤ (k : Int) := Int.natCast_nonneg _
    by_cases hlt : k < n
    · have hi1 : (k : Int) < (n : Int) := by omega
      have hdd : decide ((k : Int) < (n : Int)) = true := by simp; omega
      have hkl : k < l.length := by have := HN.out; omega
      obtain ⟨ad, rfl, _, x0, x1, x2, x3⟩ := (show Itms wr B A c l from Row.below hA hBw hB).at_ hkl
      have hRR := HR.out
      rw [List.drop_eq_getElem_cons hkl, rHas, List.any_cons] at hRR
      have q3 : ((str l[k].tx).toList == X.toList) = (l[k].tx == tx) := by rw [← HX.out, Lib.toList_data, Lib.toList_data, str_data, str_data]
      rw [← q3] at hRR
      obtain ⟨a0, ha0⟩ : ∃ y, str l[k].tx = y := ⟨_, rfl⟩
      rw [ha0] at x0 hRR
      obtain ⟨q, hq⟩ : ∃ q, (a0.toList == X.toList) = q := ⟨_, rfl⟩
      rw [hq] at hRR
      clear q3 x1 x2 x3 ha0
      cases q with
      | true =>
        rw [Bool.true_or] at hRR
        subst hRR
        go_wp2
        go_ret
        exact ⟨rfl, hBw⟩
      | false =>
        rw [Bool.false_or] at hRR
        have HR2 := Lib.hid (show rHas (l.drop (k + 1)) tx = R from hRR)
        clear hRR
        go_wp2
        go_roundw
        case rel => exact ⟨k + 1, by simp, by omega, HR2, hBw⟩
        case measure => simp [intOf]; omega
    · obtain rfl : k = n := by omega
      have hdd : decide (((k : Nat) : Int) < (k : Int)) = false := by simp
      have hRR := HR.out
      rw [List.drop_eq_nil_of_le (by have := HN.out; omega)] at hRR
      subst hRR
      go_wp2
      go_ret
      exact ⟨rfl, hBw⟩
end Go.Proofs.YtcjoiiaankngjaaGreatDoor
/- The reference's parser as functions of its tokens. -/
namespace Go.Proofs.YtcjoiiaankngjaaGreatDoor
set_option maxRecDepth 100000
open Go.RowKit
/-! the reference's rows -/
def rLim (lim gl : Bool) (l : List RTok) (x : RSt) : List UInt8 × RSt :=
  if lim = true ∧ (hdT l x.at_).kd = 1 ∧ (gl = false ∨ (hdT l x.at_).tx ≠ globS) then ((rPlatform l x).1.tx, (rPlatform l x).2) else ([], x)
def rGate (gl : Bool) (l : List RTok) (x : RSt) : Bool × RSt := if gl then rTake 1 globS l x else (false, x)
def rSh (g : Bool) (tx : List UInt8) (l : List RTok) (x : RSt) : RSt := if g then rNeed 4 tx l x else x
def rOne (gl : Bool) (pl : List UInt8) (l : List RTok) (x : RSt) : Itm × RSt :=
  (⟨(rAny 3 l (rSh (rGate gl l x).1 [40] l (rGate gl l x).2)).1.tx, (rGate gl l x).1, pl, (rAny 3 l (rSh (rGate gl l x).1 [40] l (rGate gl l x).2)).1.ln⟩,
    rSh (rGate gl l x).1 [41] l (rAny 3 l (rSh (rGate gl l x).1 [40] l (rGate gl l x).2)).2)
def rMore (gl : Bool) (pl : List UInt8) (l : List RTok) : Nat → List Itm → RSt → List Itm × RSt
  | 0, a, x => (a, x)
  | f + 1, a, x => if x.e = 0 then
      (if (rTake 4 [44] l (rOne gl pl l x).2).1 then rMore gl pl l f (a ++ [(rOne gl pl l x).1]) (rTake 4 [44] l (rOne gl pl l x).2).2 else (a ++ [(rOne gl pl l x).1], (rTake 4 [44] l (rOne gl pl l x).2).2))
    else (a, x)
def rItems (lim gl : Bool) (l : List RTok) (a : List Itm) (x : RSt) : List Itm × RSt :=
  ((rMore gl (rLim lim gl l x).1 l (l.length + 1) a (rLim lim gl l x).2).1, rNeed 4 [59] l (rMore gl (rLim lim gl l x).1 l (l.length + 1) a (rLim lim gl l x).2).2)
/-! the reference's platforms -/
def rPlOne (l : List RTok) (a : List Itm) (x : RSt) : RSt := if rHas a (rPlatform l x).1.tx then rFail 42 ((rPlatform l x).1.ln : Int) (rPlatform l x).2 else (rPlatform l x).2
def rPls (l : List RTok) : Nat → List Itm → RSt → List Itm × RSt
  | 0, a, x => (a, x)
  | f + 1, a, x => if x.e = 0 then
      (if (rTake 4 [44] l (rPlOne l a x)).1 then rPls l f (a ++ [⟨(rPlatform l x).1.tx, false, [], (rPlatform l x).1.ln⟩]) (rTake 4 [44] l (rPlOne l a x)).2 else (a ++ [⟨(rPlatform l x).1.tx, false, [], (rPlatform l x).1.ln⟩], (rTake 4 [44] l (rPlOne l a x)).2))
    else (a, x)
def rPlats (l : List RTok) (x : RSt) : List Itm × RSt := ((rPls l (l.length + 1) [] x).1, rNeed 4 [59] l (rPls l (l.length + 1) [] x).2)
/-! the reference's target -/
structure RTg where
  x : RSt
  T : Tgt
  sn : Nat → Bool
def wOnce (t : List UInt8) : Option Nat := if t = wKind then some 0 else if t = wCost then some 1 else if t = wRetry then some 2 else none
def rSeen (a : RTok) (y : RTg) : RTg := match wOnce a.tx with
  | some i => ⟨if y.sn i then rFail 42 (a.ln : Int) y.x else y.x, y.T, upd y.sn i true⟩
  | none => y
def rSet (l : List RTok) (a : RTok) (y : RTg) : RTg :=
  if a.tx = wKind then ⟨(rKinds 4 l y.x).2, { y.T with kind := (rKinds 4 l y.x).1 }, y.sn⟩
  else if a.tx = wCost then ⟨(rNumber 1 1000 l y.x).2, { y.T with cost := (rNumber 1 1000 l y.x).1.1 }, y.sn⟩
  else if a.tx = wRetry then ⟨(rNumber 0 5 l y.x).2, { y.T with retry := (rNumber 0 5 l y.x).1.1, rl := (rNumber 0 5 l y.x).1.2 }, y.sn⟩
  else if a.tx = wSrcs then ⟨(rItems true true l (y.T.rows 0) y.x).2, { y.T with rows := upd y.T.rows 0 (rItems true true l (y.T.rows 0) y.x).1 }, y.sn⟩
  else if a.tx = wDeps then ⟨(rItems true false l (y.T.rows 1) y.x).2, { y.T with rows := upd y.T.rows 1 (rItems true false l (y.T.rows 1) y.x).1 }, y.sn⟩
  else if a.tx = wOut then ⟨(rItems false false l (y.T.rows 2) y.x).2, { y.T with rows := upd y.T.rows 2 (rItems false false l (y.T.rows 2) y.x).1 }, y.sn⟩
  else if a.tx = wVis then ⟨(rItems false false l (y.T.rows 3) y.x).2, { y.T with rows := upd y.T.rows 3 (rItems false false l (y.T.rows 3) y.x).1 }, y.sn⟩
  else ⟨rFail 40 (a.ln : Int) y.x, y.T, y.sn⟩
def rRound (l : List RTok) (y : RTg) : RTg := rSet l (rAny 1 l y.x).1 (rSeen (rAny 1 l y.x).1 { y with x := (rAny 1 l y.x).2 })
def rLoop (l : List RTok) : Nat → RTg → RTg
  | 0, y => y
  | f + 1, y => if y.x.e = 0 then (if (rTake 4 [125] l y.x).1 then { y with x := (rTake 4 [125] l y.x).2 } else rLoop l f (rRound l { y with x := (rTake 4 [125] l y.x).2 })) else y
def rDup (bf : List (List UInt8)) (t : RTok) (x : RSt) : RSt := if bf.any (fun n => n == t.tx) then rFail 42 (t.ln : Int) x else x
def rT0 (name : List UInt8) (line : Nat) : Tgt := ⟨name, 1, line, fun _ => [], 1, 0, 0, fun _ => false⟩
def rBody (l : List RTok) (line : Nat) (bf : List (List UInt8)) (x : RSt) : RTg :=
  rLoop l (l.length + 1) ⟨rNeed 4 [123] l (rDup bf (rAny 1 l x).1 (rAny 1 l x).2), rT0 (rAny 1 l x).1.tx line, fun _ => false⟩
def rCheck (y : RTg) : RSt := if 0 < y.T.retry ∧ y.T.kind ≠ 3 then rFail 41 (y.T.rl : Int) y.x else y.x
def rTgtF (l : List RTok) (line : Nat) (bf : List (List UInt8)) (x : RSt) : Tgt × RSt := ((rBody l line bf x).T, rCheck (rBody l line bf x))
/-! the reference's Parse -/
def rTgts (l : List RTok) : Nat → List Tgt → RSt → List Tgt × RSt
  | 0, a, x => (a, x)
  | f + 1, a, x => if x.e = 0 ∧ (hdT l x.at_).kd ≠ 0 then
      (if (rNeed 1 wTarget l x).e = 0 then rTgts l f (a ++ [(rTgtF l (hdT l x.at_).ln (a.map (·.name)) (rNeed 1 wTarget l x)).1]) (rTgtF l (hdT l x.at_).ln (a.map (·.name)) (rNeed 1 wTarget l x)).2
      else rTgts l f a (rNeed 1 wTarget l x))
    else (a, x)
def rHead (l : List RTok) : List Itm × RSt := if (rTake 1 wPlats l ⟨0, 0, 0⟩).1 then rPlats l (rTake 1 wPlats l ⟨0, 0, 0⟩).2 else ([], (rTake 1 wPlats l ⟨0, 0, 0⟩).2)
def rAll (l : List RTok) : List Tgt × RSt := rTgts l (l.length + 1) [] (rHead l).2
def rParse (l : List RTok) : (List Itm × List Tgt) × (Int × Int) :=
  if (rAll l).2.e = 0 then (((rHead l).1, (rAll l).1), (0, 0)) else (([], []), ((rAll l).2.ln, (rAll l).2.e))
end Go.Proofs.YtcjoiiaankngjaaGreatDoor
/- Both parsers at one token. -/
namespace Go.Proofs.YtcjoiiaankngjaaGreatDoor
set_option maxRecDepth 100000
open Go.RowKit
def TsOk : List Tok → Prop
  | [] => False
  | t :: r => TokOk t ∧ (if t.cls ≤ 1 then r = [] else TsOk r)
/-- the reference's reader and the program's parser stand at the same place -/
def Sim (l : List RTok) (x : RSt) : Pst → Prop
  | .ok ts => x.e = 0 ∧ TsOk ts ∧ l.drop x.at_ = ts.map convT
  | .bad e ln => e ≠ 0 ∧ x.e = e ∧ x.ln = ln
def isOk : Pst → Bool
  | .ok _ => true
  | .bad _ _ => false
theorem Sim.okE {l : List RTok} {x : RSt} {σ : Pst} (h : Sim l x σ) : x.e = 0 ↔ isOk σ = true := by
  cases σ with
  | ok ts => exact ⟨fun _ => rfl, fun _ => h.1⟩
  | bad e ln => exact ⟨fun z => absurd (h.2.1.symm.trans z) h.1, fun z => by cases z⟩
theorem Sim.hd {l : List RTok} {x : RSt} {t : Tok} {r : List Tok} (h : Sim l x (.ok (t :: r))) : hdT l x.at_ = convT t := by
  have q := h.2.2
  have e : l[x.at_]? = some (convT t) := by
    have := congrArg (fun z => z[0]?) q
    simpa using this
  unfold hdT
  rw [e]
  rfl
theorem Sim.ne {l : List RTok} {x : RSt} (h : Sim l x (.ok [])) : False := h.2.1
theorem Sim.nx {l : List RTok} {x : RSt} {t : Tok} {r : List Tok} (h : Sim l x (.ok (t :: r))) (hc : 2 ≤ t.cls) : Sim l ⟨x.at_ + 1, x.e, x.ln⟩ (.ok r) := by
  obtain ⟨h1, h2, h3⟩ := h
  refine ⟨h1, ?_, ?_⟩
  · have := h2.2
    rwa [if_neg (by omega)] at this
  · have := congrArg (List.drop 1) h3
    rw [List.drop_drop] at this
    simpa using this
theorem Sim.tok {l : List RTok} {x : RSt} {t : Tok} {r : List Tok} (h : Sim l x (.ok (t :: r))) : TokOk t := h.2.1.1
theorem first_cls (s : List UInt8) : (first s).1 ≤ 5 := by
  cases s with
  | nil => simp [first]
  | cons c t =>
    rw [first]
    repeat' split
    all_goals simp
theorem TokOk.cls {t : Tok} (h : TokOk t) : t.cls ≤ 5 := by
  have := first_cls t.txt
  rw [h.1] at this
  exact this
theorem kindOf_inj {a b : Nat} (ha : a ≤ 5) (hb : b ≤ 5) (h : kindOf a = kindOf b) : a = b := by
  have ha' : a = 0 ∨ a = 1 ∨ a = 2 ∨ a = 3 ∨ a = 4 ∨ a = 5 := by omega
  have hb' : b = 0 ∨ b = 1 ∨ b = 2 ∨ b = 3 ∨ b = 4 ∨ b = 5 := by omega
  rcases ha' with rfl | rfl | rfl | rfl | rfl | rfl <;> rcases hb' with rfl | rfl | rfl | rfl | rfl | rfl <;> first | rfl | (exact absurd h (by decide))
theorem sim_fail {l : List RTok} {x : RSt} {σ : Pst} (h : Sim l x σ) (c : Int) (hc : c ≠ 0) (n : Int) : Sim l (rFail c n x) (pFail n c σ) := by
  unfold rFail
  cases σ with
  | ok ts => rw [if_pos h.1]; exact ⟨hc, rfl, rfl⟩
  | bad e ln => rw [if_neg (by rw [h.2.1]; exact h.1)]; exact h
theorem pFail_ok {n c : Int} {σ : Pst} : isOk (pFail n c σ) = false := by cases σ <;> rfl
/-- a token of one text is taken -/
theorem sim_take {l : List RTok} {x : RSt} {σ : Pst} (h : Sim l x σ) (c : Nat) (w : List UInt8) (hc : c = 2 ∨ c = 5) (hw : first w = (c, w.length)) :
    (rTake (kindOf c) w l x).1 = (pTake w σ).1 ∧ Sim l (rTake (kindOf c) w l x).2 (pTake w σ).2 := by
  unfold rTake rIs
  cases σ with
  | bad e ln =>
    have : x.e ≠ 0 := by rw [h.2.1]; exact h.1
    rw [if_neg (by simp [this])]
    exact ⟨rfl, h⟩
  | ok ts =>
    cases ts with
    | nil => exact h.ne.elim
    | cons t r =>
      rw [h.hd]
      have hk := h.tok
      by_cases ht : t.txt = w
      · have hcl : t.cls = c := by
          have := hk.1
          rw [ht, hw] at this
          exact (congrArg Prod.fst this).symm
        have h4 : t.cls ≠ 4 := by omega
        rw [if_pos (by simp [h.1, convT, hcl, ht, show ¬ c = 4 by omega]), show pTake w (.ok (t :: r)) = (true, .ok r) by rw [pTake, if_pos ht]]
        exact ⟨rfl, h.nx (by omega)⟩
      · rw [show pTake w (.ok (t :: r)) = (false, .ok (t :: r)) by rw [pTake, if_neg ht], if_neg]
        · exact ⟨rfl, h⟩
        · intro z
          simp only [Bool.and_eq_true, beq_iff_eq, convT] at z
          have := kindOf_inj hk.cls (by omega) z.1.2
          rw [if_neg (by omega)] at z
          exact ht z.2
theorem sim_refuse {l : List RTok} {x : RSt} {σ : Pst} (h : Sim l x σ) : Sim l (rFail 40 ((hdT l x.at_).ln : Int) x) (pRefuse σ) := by
  cases σ with
  | bad e ln => exact sim_fail h 40 (by decide) _
  | ok ts =>
    cases ts with
    | nil => exact h.ne.elim
    | cons t r =>
      have := sim_fail h 40 (by decide) ((hdT l x.at_).ln : Int)
      rw [h.hd] at this ⊢
      exact this
theorem pRefuse_ok {σ : Pst} : isOk (pRefuse σ) = false := by
  cases σ with
  | bad e ln => rfl
  | ok ts => cases ts <;> rfl
theorem pTake_false {w : List UInt8} {σ : Pst} (h : (pTake w σ).1 = false) : (pTake w σ).2 = σ := by
  cases σ with
  | bad e ln => rfl
  | ok ts =>
    cases ts with
    | nil => rfl
    | cons t r =>
      rw [pTake] at h ⊢
      split at h
      · cases h
      · rename_i q
        rw [if_neg q]
theorem rTake_false {kd : Int} {w : List UInt8} {l : List RTok} {x : RSt} (h : (rTake kd w l x).1 = false) : (rTake kd w l x).2 = x := by
  unfold rTake at h ⊢
  split at h
  · cases h
  · rename_i q
    rw [if_neg q]
theorem sim_need {l : List RTok} {x : RSt} {σ : Pst} (h : Sim l x σ) (c : Nat) (w : List UInt8) (hc : c = 2 ∨ c = 5) (hw : first w = (c, w.length)) : Sim l (rNeed (kindOf c) w l x) (pExpect w σ) := by
  obtain ⟨h1, h2⟩ := sim_take h c w hc hw
  unfold rNeed pExpect
  rw [h1]
  cases hb : (pTake w σ).1 with
  | true => exact h2
  | false =>
    rw [pTake_false hb]
    exact sim_refuse h
theorem pExpect_ok {w : List UInt8} {σ : Pst} (h : isOk (pExpect w σ) = true) : isOk σ = true := by
  cases σ with
  | ok ts => rfl
  | bad e ln => cases h
theorem pTake_ok {w : List UInt8} {σ : Pst} (h : isOk (pTake w σ).2 = true) : isOk σ = true := by
  cases σ with
  | ok ts => rfl
  | bad e ln => cases h
/-- a token of one class -/
theorem sim_any {l : List RTok} {x : RSt} {σ : Pst} (h : Sim l x σ) (c : Nat) (hc : 2 ≤ c) (hc5 : c ≤ 5) :
    (rAny (kindOf c) l x).1.tx = (convT (pAny c σ).1).tx ∧ (rAny (kindOf c) l x).1.ln = (pAny c σ).1.ln ∧ Sim l (rAny (kindOf c) l x).2 (pAny c σ).2 ∧ (isOk (pAny c σ).2 = true → (pAny c σ).1.cls = c ∧ TokOk (pAny c σ).1) := by
  unfold rAny
  cases σ with
  | bad e ln =>
    rw [if_neg (by rw [h.2.1]; exact fun z => h.1 z.1)]
    exact ⟨rfl, rfl, sim_fail h 40 (by decide) _, fun z => by cases z⟩
  | ok ts =>
    cases ts with
    | nil => exact h.ne.elim
    | cons t r =>
      rw [h.hd, pAny]
      have hk := h.tok
      by_cases ht : t.cls = c
      · rw [if_pos ht, if_pos ⟨h.1, by rw [← ht]; rfl⟩]
        exact ⟨rfl, rfl, h.nx (by omega), fun _ => ⟨ht, hk⟩⟩
      · rw [if_neg ht, if_neg (fun z => ht (kindOf_inj hk.cls hc5 z.2))]
        have := sim_fail h 40 (by decide) ((convT t).ln : Int)
        exact ⟨rfl, rfl, this, fun z => by cases z⟩
theorem pAny_ok {c : Nat} {σ : Pst} (h : isOk (pAny c σ).2 = true) : isOk σ = true := by
  cases σ with
  | ok ts => rfl
  | bad e ln => cases h
/-! a text between quotation marks -/
theorem run_not {t : List UInt8} : ∀ k, k < run (fun c => !notStr c) t → ∃ c, t[k]? = some c ∧ notStr c = false := by
  induction t with
  | nil => intro k hk; simp [run] at hk
  | cons c t ih =>
    intro k hk
    rw [run] at hk
    split at hk
    · rename_i hc
      cases k with
      | zero => exact ⟨c, rfl, by simpa using hc⟩
      | succ k =>
        obtain ⟨d, h1, h2⟩ := ih k (by omega)
        exact ⟨d, by simpa using h1, h2⟩
    · omega
theorem quoted {s : List UInt8} (h : first s = (4, s.length)) : ∃ b : List UInt8, s = 34 :: (b ++ [34]) ∧ ∀ c ∈ b, c ≠ 34 := by
  cases s with
  | nil => cases h
  | cons c t =>
    rw [first] at h
    split at h
    · cases h
    · split at h
      · cases h
      · split at h
        · cases h
        · split at h
          · rename_i hq
            obtain ⟨rfl, hn⟩ := hq
            have hl : strLen t = t.length + 1 := congrArg Prod.snd h
            unfold strLen at hl hn
            dsimp only at hl hn
            split at hl
            · rename_i h34
              have hk : run (fun c => !notStr c) t + 1 = t.length := by omega
              refine ⟨t.take (run (fun c => !notStr c) t), ?_, ?_⟩
              · congr 1
                have e1 : t.drop (run (fun c => !notStr c) t) = [34] := by
                  have hlt : run (fun c => !notStr c) t < t.length := by omega
                  rw [List.drop_eq_getElem_cons hlt, List.drop_eq_nil_of_le (by omega)]
                  rw [List.getElem?_eq_getElem hlt] at h34
                  injection h34 with h34
                  rw [h34]
                conv => lhs; rw [← List.take_append_drop (run (fun c => !notStr c) t) t, e1]
              · intro c hc
                obtain ⟨i, hi, e⟩ := List.mem_iff_getElem.mp hc
                rw [List.length_take] at hi
                obtain ⟨d, d1, d2⟩ := run_not i (by omega : i < run (fun c => !notStr c) t)
                rw [List.getElem_take] at e
                rw [List.getElem?_eq_getElem (by omega : i < t.length)] at d1
                injection d1 with d1
                rw [← e, d1]
                intro z
                rw [z] at d2
                exact absurd d2 (by decide)
            · omega
          · cases h
theorem dropWhile_ne {b : List UInt8} (h : ∀ c ∈ b, c ≠ 34) (hb : b ≠ []) (r : List UInt8) : (b ++ r).dropWhile (· == 34) = b ++ r := by
  cases b with
  | nil => exact absurd rfl hb
  | cons c t => simp [h c (by simp)]
theorem trim_quoted {b : List UInt8} (h : ∀ c ∈ b, c ≠ 34) : Lib.trimB (34 :: (b ++ [34])) 34 = b := by
  unfold Lib.trimB Lib.trimLeftB Lib.trimRightB
  by_cases hb : b = []
  · subst hb
    decide
  · have hr : ∀ c ∈ b.reverse, c ≠ 34 := fun c hc => h c (by simpa using hc)
    have hr0 : b.reverse ≠ [] := by simpa using hb
    have e : (34 :: (b ++ [34]) : List UInt8).reverse = 34 :: (b.reverse ++ [34]) := by simp
    rw [e, List.dropWhile_cons_of_pos (by decide), dropWhile_ne hr hr0]
    rw [show (b.reverse ++ [34] : List UInt8).reverse = 34 :: b by simp, List.dropWhile_cons_of_pos (by decide)]
    have := dropWhile_ne h hb []
    rwa [List.append_nil] at this
theorem text_tok {t : Tok} (hk : TokOk t) (hc : t.cls = 4) : Lib.trimB t.txt 34 = (convT t).tx := by
  have h1 := hk.1
  rw [hc] at h1
  obtain ⟨b, hb, hn⟩ := quoted h1
  unfold convT
  dsimp only
  rw [if_pos hc, hb, trim_quoted hn]
  simp
/-! numbers -/
def dstep (a : Nat) (c : UInt8) : Nat := 10 * a + (c.toNat - 48)
def dval (a : Nat) (s : List UInt8) : Nat := s.foldl dstep a
theorem dval_nil (a : Nat) : dval a [] = a := rfl
theorem dval_cons (a : Nat) (c : UInt8) (t : List UInt8) : dval a (c :: t) = dval (10 * a + (c.toNat - 48)) t := by
  unfold dval
  rw [List.foldl_cons, dstep]
theorem dval_le (s : List UInt8) : ∀ (a : Nat), a ≤ dval a s := by
  induction s with
  | nil => intro a; rw [dval_nil]; exact Nat.le_refl _
  | cons c t ih =>
    intro a
    rw [dval_cons]
    have := ih (10 * a + (c.toNat - 48))
    omega
theorem rValF_eq (s : List UInt8) : ∀ (a : Nat) (v : Int), (∀ b ∈ s, isDig b = true) → v = min (a : Int) 1000000 → rValF v s = min (dval a s : Int) 1000000 := by
  induction s with
  | nil => intro a v _ hv; rw [dval_nil, rValF]; exact hv
  | cons c t ih =>
    intro a v h hv
    have hc := h c (by simp)
    unfold isDig at hc
    simp only [Bool.and_eq_true, decide_eq_true_eq] at hc
    rw [rValF, dval_cons]
    exact ih _ _ (fun b hb => h b (by simp [hb])) (by omega)
theorem rVal_eq {s : List UInt8} (h : ∀ b ∈ s, isDig b = true) : rVal s = min (dval 0 s : Int) 1000000 := rValF_eq s 0 0 h (by omega)
theorem parse10 (s : List UInt8) : ∀ (a : Nat), (∀ b ∈ s, isDig b = true) → a < 18446744073709551616 → Lib.parseUint10 a s = if dval a s < 18446744073709551616 then .ok (dval a s) else .range := by
  induction s with
  | nil => intro a _ ha; rw [Lib.parseUint10, dval_nil, if_pos ha]
  | cons c t ih =>
    intro a h ha
    have hc := h c (by simp)
    unfold isDig at hc
    simp only [Bool.and_eq_true, decide_eq_true_eq] at hc
    rw [Lib.parseUint10, if_pos hc, dval_cons]
    have hle := dval_le t (10 * a + (c.toNat - 48))
    by_cases h1 : 1844674407370955162 ≤ a
    · rw [if_pos h1, if_neg (by omega)]
    · rw [if_neg h1]
      by_cases h2 : 18446744073709551616 ≤ a * 10 + (c.toNat - 48)
      · rw [if_pos h2, if_neg (by omega)]
      · rw [if_neg h2, ih _ (fun b hb => h b (by simp [hb])) (by omega)]
        rw [show a * 10 + (c.toNat - 48) = 10 * a + (c.toNat - 48) by omega]
theorem atoi_dig {s : List UInt8} (h : ∀ b ∈ s, isDig b = true) (h0 : s ≠ []) : Lib.atoiAll s = if dval 0 s < 9223372036854775808 then .ok (dval 0 s : Int) else .range := by
  cases s with
  | nil => exact absurd rfl h0
  | cons c t =>
    have hc := h c (by simp)
    unfold isDig at hc
    simp only [Bool.and_eq_true, decide_eq_true_eq] at hc
    unfold Lib.atoiAll
    dsimp only
    rw [if_neg (by omega)]
    unfold Lib.parseMag
    rw [if_neg (by simp), parse10 _ _ h (by decide)]
    by_cases h1 : dval 0 (c :: t) < 18446744073709551616
    · rw [if_pos h1]
      dsimp only
      by_cases h2 : dval 0 (c :: t) < 9223372036854775808
      · rw [if_pos h2, if_neg (by omega), if_neg (by omega), if_neg (by omega)]
      · rw [if_neg h2, if_pos (by omega)]
    · rw [if_neg h1, if_neg (by omega)]
theorem digits_tok {t : Tok} (hk : TokOk t) (hc : t.cls = 3) : t.txt ≠ [] ∧ ∀ b ∈ t.txt, isDig b = true := by
  have h := hk.1
  rw [hc] at h
  obtain ⟨c, tx, ln⟩ := t
  dsimp only at *
  cases tx with
  | nil => cases h
  | cons c s =>
    rw [first] at h
    split at h
    · cases h
    · split at h
      · have hr : run isDig (c :: s) = (c :: s).length := congrArg Prod.snd h
        refine ⟨by simp, ?_⟩
        have gen : ∀ u : List UInt8, run isDig u = u.length → ∀ b ∈ u, isDig b = true := by
          intro u
          induction u with
          | nil => intro _ b hb; cases hb
          | cons d u ih =>
            intro hu b hb
            rw [run] at hu
            split at hu
            · rename_i hd
              simp only [List.length_cons] at hu
              rcases List.mem_cons.mp hb with rfl | hb
              · exact hd
              · exact ih (by omega) b hb
            · simp at hu
        exact gen _ hr
      · split at h
        · cases h
        · split at h <;> cases h
/-- a number in a range that ends below a million -/
theorem atoi_num {t : Tok} (hk : TokOk t) (hc : t.cls = 3) {lo hi : Int} (hh : hi < 1000000) :
    ((atoiR t.txt).2 && decide (lo ≤ (atoiR t.txt).1) && decide ((atoiR t.txt).1 ≤ hi)) = !(decide (rVal t.txt < lo) || decide (hi < rVal t.txt)) ∧
    (((atoiR t.txt).2 && decide (lo ≤ (atoiR t.txt).1) && decide ((atoiR t.txt).1 ≤ hi)) = true → (atoiR t.txt).1 = rVal t.txt) := by
  obtain ⟨hn, hd⟩ := digits_tok hk hc
  have e := atoi_dig hd hn
  have v := rVal_eq hd
  unfold atoiR
  rw [e, v]
  generalize dval 0 t.txt = n at *
  by_cases h1 : n < 9223372036854775808
  · rw [if_pos h1]
    dsimp only
    refine ⟨?_, fun z => ?_⟩
    · rw [Bool.eq_iff_iff]
      simp only [Bool.and_eq_true, Bool.not_eq_true', Bool.or_eq_false_iff, decide_eq_true_eq, decide_eq_false_iff_not, true_and]
      omega
    · simp only [Bool.and_eq_true, decide_eq_true_eq] at z
      omega
  · rw [if_neg h1]
    dsimp only
    rw [Bool.false_and, Bool.false_and]
    refine ⟨?_, fun z => by cases z⟩
    have : hi < min (n : Int) 1000000 := by omega
    rw [decide_eq_true this, Bool.or_true]
    rfl
end Go.Proofs.YtcjoiiaankngjaaGreatDoor
/- The reference's reader: items. -/
namespace Go.Proofs.YtcjoiiaankngjaaGreatDoor
set_option maxRecDepth 100000
open Go.RowKit
theorem own_types_ne {w : World} {b1 b2 s1 s2 n1 n2 : Nat} {e1 e2 : TypeId} {v1 v2 : Value} {x1 x2 : List Value} (h1 : w.ownsRow b1 e1 s1 v1 n1 x1) (h2 : w.ownsRow b2 e2 s2 v2 n2 x2) (he : e1 ≠ e2) : ∀ g, v1.ownBlock = some g → v2.ownBlock ≠ some g := by
  intro g hg hg2
  rcases h1.2 with ⟨rfl, _⟩ | ⟨g1, c1, u1, rfl, _, p1, _⟩
  · simp [Value.ownBlock] at hg
  · rcases h2.2 with ⟨rfl, _⟩ | ⟨g2, c2, u2, rfl, _, p2, _⟩
    · simp [Value.ownBlock] at hg2
    · have a1 : g1 = g := by simpa [Value.ownBlock] using hg
      have a2 : g2 = g := by simpa [Value.ownBlock] using hg2
      subst a1
      subst a2
      rw [p1] at p2
      injection p2 with p2
      injection p2 with _ p2
      exact he p2
/-- the reader, and a row of items that grows beside it -/
structure RI (w0 : World) (bs b base : Nat) (A : Option Addr) (c : Nat) (l : List RTok) (V : Value) (w : World) (x : RSt) (A' : Option Addr) (n c' : Nat) (acc : List Itm) : Prop where
  rs : RS w bs b A c l x
  row : w.ownsRow base 52 4 (.slice A' n c') n (itmsC acc)
  len : n = acc.length
  at_ : ∀ g, (Value.slice A' n c').ownBlock = some g → V.ownBlock = some g ∨ w0.heap.size ≤ g
  tn : Turn (fun g => g = b ∨ V.ownBlock = some g) w0 w
  bb : b < w0.heap.size
section
variable {w0 w w' : World} {bs b base : Nat} {A : Option Addr} {c : Nat} {l : List RTok} {V : Value} {x x' : RSt} {A' : Option Addr} {n c' : Nat} {acc : List Itm}
theorem RI.call (h : RI w0 bs b base A c l V w x A' n c' acc) (r : RS w' bs b A c l x') (t : Turn (fun g => g = b) w w') : RI w0 bs b base A c l V w' x' A' n c' acc :=
  ⟨r, own_off h.row t (own_full_ne h.row h.rs.fu (by decide)), h.len, h.at_, h.tn.trans_ (t.mono fun _ e => .inl e), h.bb⟩
theorem RI.on (h : RI w0 bs b base A c l V w x A' n c' acc) (hb : Below w.heap.size w w') : RI w0 bs b base A c l V w' x A' n c' acc := h.call (h.rs.on hb) (Turn.of hb)
theorem RI.grow (h : RI w0 bs b base A c l V w x A' n c' acc) {it : Itm} {g9 c9 : Nat} (ho : w'.ownsRow base 52 4 (.slice (some ⟨g9, 0, none⟩) (n + 1) c9) (n + 1) (itmsC acc ++ itmC it)) (hg : w.grownBy w' (Value.slice A' n c').ownBlock)
    (hat : (Value.slice A' n c').ownBlock = some g9 ∨ g9 = w.heap.size) : RI w0 bs b base A c l V w' x (some ⟨g9, 0, none⟩) (n + 1) c9 (acc ++ [it]) := by
  have t : Turn (fun g => (Value.slice A' n c').ownBlock = some g) w w' := Turn.grown hg fun g e => .inl e
  refine ⟨h.rs.keep t (fun e => own_full_ne h.row h.rs.fu (by decide) b e rfl) (fun g e => own_types_ne h.rs.ow h.row (by decide) g e), ?_, by simp [h.len], ?_, h.tn.late t fun g e => ?_, h.bb⟩
  · have : itmsC (acc ++ [it]) = itmsC acc ++ itmC it := by unfold itmsC; rw [List.flatMap_append]; simp
    rw [this]
    exact ho
  · intro g e
    have e : g9 = g := by simpa [Value.ownBlock] using e
    subst e
    rcases hat with e | e
    · exact h.at_ _ e
    · right
      rw [e]
      exact h.tn.size
  · rcases h.at_ g e with q | q
    · exact .inl (.inr q)
    · exact .inr q
end
theorem rFail_at (cd ln : Int) (x : RSt) : (rFail cd ln x).at_ = x.at_ := by unfold rFail; split <;> rfl
theorem rTake_at (kd : Int) (tx : List UInt8) (l : List RTok) (x : RSt) : (rTake kd tx l x).2.at_ = if (rTake kd tx l x).1 then x.at_ + 1 else x.at_ := by
  unfold rTake
  split <;> rfl
theorem rTake_le (kd : Int) (tx : List UInt8) (l : List RTok) (x : RSt) : x.at_ ≤ (rTake kd tx l x).2.at_ := by
  rw [rTake_at]; split <;> omega
theorem rNeed_le (kd : Int) (tx : List UInt8) (l : List RTok) (x : RSt) : x.at_ ≤ (rNeed kd tx l x).at_ := by
  unfold rNeed
  split
  · exact rTake_le kd tx l x
  · rw [rFail_at]; exact Nat.le_refl _
theorem rAny_le (kd : Int) (l : List RTok) (x : RSt) : x.at_ ≤ (rAny kd l x).2.at_ := by
  unfold rAny
  split
  · show x.at_ ≤ x.at_ + 1; omega
  · rw [rFail_at]; exact Nat.le_refl _
theorem rGate_le (gl : Bool) (l : List RTok) (x : RSt) : x.at_ ≤ (rGate gl l x).2.at_ := by
  unfold rGate
  split
  · exact rTake_le _ _ _ _
  · exact Nat.le_refl _
theorem rSh_le (g : Bool) (tx : List UInt8) (l : List RTok) (x : RSt) : x.at_ ≤ (rSh g tx l x).at_ := by
  unfold rSh
  split
  · exact rNeed_le _ _ _ _
  · exact Nat.le_refl _
theorem rOne_le (gl : Bool) (pl : List UInt8) (l : List RTok) (x : RSt) : x.at_ ≤ (rOne gl pl l x).2.at_ := by
  unfold rOne
  have h1 := rGate_le gl l x
  have h2 := rSh_le (rGate gl l x).1 [40] l (rGate gl l x).2
  have h3 := rAny_le 3 l (rSh (rGate gl l x).1 [40] l (rGate gl l x).2)
  have h4 := rSh_le (rGate gl l x).1 [41] l (rAny 3 l (rSh (rGate gl l x).1 [40] l (rGate gl l x).2)).2
  dsimp only
  omega

set_option maxHeartbeats 32000000 in
theorem ritems_any {w : World} {bs b base : Nat} {A : Option Addr} {c : Nat} {l : List RTok} {x : RSt} (h : RS w bs b A c l x) (hl : LOk l) (lim gl : Bool) {V : Value} {A0 : Option Addr} {n0 c0 : Nat} {L : List Itm} (hV : V = .slice A0 n0 c0) (hn0 : n0 = L.length) (hO : w.ownsRow base 52 4 (.slice A0 n0 c0) n0 (itmsC L))
    (hB : base ≤ w.heap.size) (hn : n0 + l.length ≤ 8589934590) :
    Calls Tryz.prog 84 #[.pointer (some ⟨b, 0, none⟩), .slice A0 n0 c0, .bool lim, .bool gl] w (fun en w' => ∃ A' n' c', en = .returned (.slice A' n' c') ∧ RI w bs b base A c l V w' (rItems lim gl l L x).2 A' n' c' (rItems lim gl l L x).1) := by
  obtain ⟨i0, hi, hz0, hz1, hz2⟩ := info_parts info52
  have h0 : RI w bs b base A c l V w x A0 n0 c0 L := ⟨h, hO, hn0, fun g e => .inl (by rw [hV]; exact e), Turn.refl _ _, h.fu.lt⟩
  unfold rItems
  dsimp only
  obtain ⟨⟨pl, x1⟩, hp⟩ : ∃ p, rLim lim gl l x = p := ⟨_, rfl⟩
  rw [hp]
  dsimp only
  obtain ⟨⟨RA, RX⟩, hr⟩ : ∃ p, rMore gl pl l (l.length + 1) L x1 = p := ⟨_, rfl⟩
  rw [hr]
  dsimp only
  obtain ⟨P, hP⟩ : ∃ P, str pl = P := ⟨_, rfl⟩
  obtain ⟨x9, hx9⟩ : ∃ y, rNeed 4 [59] l RX = y := ⟨_, rfl⟩
  rw [hx9]
  have HNE := Lib.hid (fun (W : World) (H : RS W bs b A c l RX) => (by
    have z := rneed_any H hl 4 (by decide) (by decide) [59]
    unfold RdOut at z
    rw [hx9] at z
    exact z : Calls Tryz.prog 48 #[.pointer (some ⟨b, 0, none⟩), .int .i64 4, .string ⟨#[59]⟩] W (fun en w' => en = .returned (.tuple #[]) ∧ RS w' bs b A c l x9 ∧ Turn (fun g => g = b) W w')))
  have HPL := Lib.hid (fun (W : World) (H : RS W bs b A c l x) => (by
    have z := rplatform_any H hl
    unfold RdOut rtV at z
    exact z : Calls Tryz.prog 79 #[.pointer (some ⟨b, 0, none⟩)] W (fun en w' => en = .returned (.agg #[.int .i64 (rPlatform l x).1.kd, .string (str (rPlatform l x).1.tx), .int .i64 ((rPlatform l x).1.ln : Int)]) ∧ RS w' bs b A c l (rPlatform l x).2 ∧ Turn (fun g => g = b) W w')))
  obtain ⟨ad, rfl, t0, t1, t2⟩ := h.tok
  have hdT' := hdT_eq h.lt
  have hlt := h.lt
  have hle := h.le
  have hcap := h.cap
  have k0 : w.cell? ⟨b, 0, none⟩ = some (.slice (some ad) l.length c) := h.fu.cell 0
  have k1 : w.cell? ⟨b, 1, none⟩ = some (.int .i64 (x.at_ : Int)) := h.fu.cell 1
  obtain ⟨tk, htk⟩ : ∃ t, l[x.at_]'h.lt = t := ⟨_, rfl⟩
  rw [htk] at t0 t1 t2 hdT'
  obtain ⟨kt, hkt⟩ : ∃ X, tk.kd = X := ⟨_, rfl⟩
  obtain ⟨Y, hY⟩ : ∃ X, str tk.tx = X := ⟨_, rfl⟩
  rw [hkt] at t0
  rw [hY] at t1
  obtain ⟨q, hq⟩ : ∃ q, (!(Y.toList == [103, 108, 111, 98])) = q := ⟨_, rfl⟩
  have HQ := Lib.hid (show q = true ↔ tk.tx ≠ globS by
    rw [← hq, ← hY, Lib.toList_data, str_data]
    simp [globS])
  have i0' : (0 : Int) ≤ (x.at_ : Int) := Int.natCast_nonneg _
  have i1 : (x.at_ : Int) < (l.length : Int) := by omega
  obtain ⟨kb, hkb⟩ : ∃ q, (kt == 1) = q := ⟨_, rfl⟩
  have HK := Lib.hid (show kb = true ↔ (hdT l x.at_).kd = 1 by rw [← hkb, hdT', hkt]; simp)
  have HQ2 := Lib.hid (show q = true ↔ (hdT l x.at_).tx ≠ globS by rw [hdT']; exact HQ.out)
  have HP := Lib.hid hp
  have HR := Lib.hid hr
  have HPP := Lib.hid hP
  have H0 := Lib.hid h0
  have HL := Lib.hid hl
  have HN0 := Lib.hid hn0
  obtain ⟨ka, hka⟩ : ∃ k : Nat, x.at_ = k := ⟨_, rfl⟩
  rw [hka] at k1 t0 t1 i0' i1
  clear hp hr hP h0 hdT' hkt t2 hO hx9 h hY hV htk hlt hka HQ hl hn0
  go_enter Tryz.func84, Tryz.ntmps84
  go_upto_region 2 with fail
  obtain ⟨B, hB'⟩ : ∃ B : Bool, (lim && (kb && (!gl || q))) = B := ⟨_, rfl⟩
  go_cut [45] from 13 to 45 (fun v45 wx => v45 = .bool B ∧ ∃ q', wx = w.drewN q')
  case first =>
    subst hB'
    cases lim with
    | false => (go_quiet (fail); try go_wp2; go_meet; exact ⟨rfl, _, rfl⟩)
    | true =>
      cases kb with
      | false => (go_quiet (fail); try go_wp2; go_meet; exact ⟨rfl, _, rfl⟩)
      | true =>
        cases gl with
        | false => (go_quiet (fail); try go_wp2; go_meet; exact ⟨rfl, _, rfl⟩)
        | true =>
          cases q with
          | false => (go_quiet (fail); try go_wp2; go_meet; exact ⟨rfl, _, rfl⟩)
          | true => (go_quiet (fail); try go_wp2; go_meet; exact ⟨rfl, _, rfl⟩)
  case rest =>
    obtain ⟨rfl, q', rfl⟩ := hcut
    obtain ⟨wd, hwd⟩ : ∃ x, w.drewN q' = x := ⟨_, rfl⟩
    have HD := Lib.hid (show RI w bs b base (some ad) c l V wd x A0 n0 c0 L by rw [← hwd]; exact H0.out.on (Below.drewN_ (Below.refl _ _) _))
    rw [hwd]
    have HBB := Lib.hid hB'
    clear hwd hB'
    go_upto_if 45 with fail
    go_cut [9] from 9 to 48 (fun v9 wx => v9 = .string P ∧ Hid (RI w bs b base (some ad) c l V wx x1 A0 n0 c0 L))
    case first =>
      have HNO := Lib.hid (show B = false → (Value.string ⟨#[]⟩ = .string P ∧ Hid (RI w bs b base (some ad) c l V wd x1 A0 n0 c0 L)) from fun hb => by
        have z := HP.out
        unfold rLim at z
        rw [if_neg (fun y => by
          have y2 := HK.out.mpr y.2.1
          have y3 : gl = false ∨ q = true := y.2.2.imp id HQ2.out.mpr
          have := HBB.out
          rw [hb, y.1, y2] at this
          rcases y3 with y3 | y3 <;> (rw [y3] at this; simp at this))] at z
        injection z with z1 z2
        subst z1
        subst z2
        exact ⟨by rw [← HPP.out]; rfl, Lib.hid HD.out⟩)
      have HYES := Lib.hid (show ∀ wx, B = true → RI w bs b base (some ad) c l V wx (rPlatform l x).2 A0 n0 c0 L → (Value.string (str (rPlatform l x).1.tx) = .string P ∧ Hid (RI w bs b base (some ad) c l V wx x1 A0 n0 c0 L)) from fun wx hb H => by
        have z := HP.out
        unfold rLim at z
        have hb2 := HBB.out
        rw [hb] at hb2
        simp only [Bool.and_eq_true, Bool.or_eq_true, Bool.not_eq_true'] at hb2
        rw [if_pos ⟨hb2.1, HK.out.mp hb2.2.1, hb2.2.2.imp id HQ2.out.mp⟩] at z
        injection z with z1 z2
        subst z1
        rw [← z2]
        exact ⟨by rw [← HPP.out], Lib.hid H⟩)
      obtain ⟨yk, hyk⟩ : ∃ y, (rPlatform l x).1.kd = y := ⟨_, rfl⟩
      obtain ⟨yt, hyt⟩ : ∃ y, str (rPlatform l x).1.tx = y := ⟨_, rfl⟩
      obtain ⟨yl, hyl⟩ : ∃ y : Nat, (rPlatform l x).1.ln = y := ⟨_, rfl⟩
      rw [hyk, hyt, hyl] at HPL
      rw [hyt] at HYES
      have HFD := Lib.hid (fun W => (by kernel_rfl : (Instr.field 70 (.agg #[.int .i64 yk, .string yt, .int .i64 (yl : Int)]) 1).run Tryz.prog W = .ok (.string yt) W))
      clear hyk hyt hyl
      cases B with
      | false => (go_wp2; go_meet; exact HNO.out (by trivial))
      | true =>
        go_wp2_with (first
          | (go_at_call 79; ((with_reducible refine (HPL.out _ HD.out.rs).mono ?_); rintro en w3 ⟨rfl, h3, ht3⟩; (have H3 := Lib.hid (HD.out.call h3 ht3)); (have hfd := HFD.out w3); clear h3 ht3))
          | (fail "arm"))
        go_meet
        exact HYES.out _ (by trivial) H3.out
    case rest =>
     obtain ⟨rfl, HR0⟩ := hcut
     clear HPL HK HQ2 HP k0 k1 t0 t1 hkb hq
     go_upto_region 4 with fail
     have hcl : l.length < 8589934591 := by omega
     go_loopw [1] (fun v1 wr => ∃ (A' : Option Addr) (n c' f : Nat) (acc : List Itm) (x' : RSt), v1 = .slice A' n c' ∧ n ≤ n0 + l.length ∧ Hid (RI w bs b base (some ad) c l V wr x' A' n c' acc) ∧ Hid (acc.length ≤ L.length + x'.at_) ∧ Hid (l.length < f + x'.at_) ∧ Hid (rMore gl pl l f acc x' = (RA, RX))) (fun v1 _ => match v1 with | .slice _ n _ => n0 + l.length + 1 - n | _ => 0)
     case atStart => exact ⟨A0, n0, c0, l.length + 1, L, x1, rfl, by omega, HR0, Lib.hid (Nat.le_add_right _ _), Lib.hid (by omega), HR⟩
     case round =>
       obtain ⟨A', n, c', f, acc, x', rfl, hnb, HI, HA1, HA2, HM⟩ := hrel
       obtain ⟨e, he⟩ : ∃ e, x'.e = e := ⟨_, rfl⟩
       have c2 : wr.cell? ⟨b, 2, none⟩ = some (.int .i64 e) := by rw [← he]; exact HI.out.rs.fu.cell 2
       obtain ⟨f, rfl⟩ : ∃ k, f = k + 1 := ⟨f - 1, by have := HA2.out; have := HI.out.rs.lt; omega⟩
       have hm := HM.out
       rw [rMore] at hm
       have hnl : n + 1 ≤ n0 + l.length := by
         have := HA1.out
         have := HI.out.len
         have := HI.out.rs.lt
         have := HN0.out
         omega
       by_cases e0 : e = 0
       · rw [if_pos (he.trans e0)] at hm
         have q1 : (e == 0) = true := by rw [e0]; rfl
         have hone := rOne_le gl pl l x'
         obtain ⟨it, hit⟩ : ∃ z, (rOne gl pl l x').1 = z := ⟨_, rfl⟩
         obtain ⟨x4, h4⟩ : ∃ z, (rOne gl pl l x').2 = z := ⟨_, rfl⟩
         rw [h4] at hone
         rw [hit, h4] at hm
         have htat := rTake_at 4 [44] l x4
         have HTC := Lib.hid (fun (W : World) (H : RS W bs b (some ad) c l x4) => (by
           have z := rtake_any H HL.out 4 (by decide) (by decide) [44]
           unfold RdOut at z
           exact z : Calls Tryz.prog 46 #[.pointer (some ⟨b, 0, none⟩), .int .i64 4, .string ⟨#[44]⟩] W (fun en w' => en = .returned (.bool (rTake 4 [44] l x4).1) ∧ RS w' bs b (some ad) c l (rTake 4 [44] l x4).2 ∧ Turn (fun g => g = b) W w')))
         obtain ⟨m, hmm⟩ : ∃ z, (rTake 4 [44] l x4).1 = z := ⟨_, rfl⟩
         obtain ⟨x5, h5⟩ : ∃ z, (rTake 4 [44] l x4).2 = z := ⟨_, rfl⟩
         rw [hmm, h5] at HTC htat hm
         have HAT := Lib.hid htat
         have HONE := Lib.hid hone
         have HM2 := Lib.hid hm
         clear htat hone hm hmm h5
         have HIT := Lib.hid hit
         have H4 := Lib.hid h4
         clear hit h4 HM
         cases gl with
         | false =>
           have HAN := Lib.hid (fun (W : World) (H : RS W bs b (some ad) c l x') => (by
             have z := rany_any H HL.out 3 (by decide) (by decide)
             unfold RdOut rtV at z
             exact z : Calls Tryz.prog 81 #[.pointer (some ⟨b, 0, none⟩), .int .i64 3] W (fun en w' => en = .returned (.agg #[.int .i64 (rAny 3 l x').1.kd, .string (str (rAny 3 l x').1.tx), .int .i64 ((rAny 3 l x').1.ln : Int)]) ∧ RS w' bs b (some ad) c l (rAny 3 l x').2 ∧ Turn (fun g => g = b) W w')))
           obtain ⟨y0, hy0⟩ : ∃ y, (rAny 3 l x').1.kd = y := ⟨_, rfl⟩
           obtain ⟨y1, hy1⟩ : ∃ y, str (rAny 3 l x').1.tx = y := ⟨_, rfl⟩
           obtain ⟨y2, hy2⟩ : ∃ y : Nat, (rAny 3 l x').1.ln = y := ⟨_, rfl⟩
           have HC := Lib.hid (show itmC it = [.string y1, .bool false, .string P, .int .i64 (y2 : Int)] by rw [← HIT.out, ← hy1, ← hy2, ← HPP.out]; rfl)
           rw [hy0, hy1, hy2] at HAN
           obtain ⟨x3, hx3⟩ : ∃ z, (rAny 3 l x').2 = z := ⟨_, rfl⟩
           rw [hx3] at HAN
           have h43 : x3 = x4 := by rw [← hx3, ← H4.out]; rfl
           subst h43
           have HCN := Lib.hid (fun (W : World) (g : Nat) (hg : W.heap.size = g) => show ∀ j u, [Value.string y1, .bool false, .string P, .int .i64 (y2 : Int)][j]? = some u → (W.alloc (.cells #[.string y1, .bool false, .string P, .int .i64 (y2 : Int)] 52)).cell? ((⟨g, 0, none⟩ : Addr).add j) = some u from fun j u hj => by
             subst hg
             obtain ⟨ad, e, _, hc⟩ := ((Full.new W 52 [.string y1, .bool false, .string P, .int .i64 (y2 : Int)]).row 4 1 rfl 1 (Nat.le_refl _)).2.2.2 j u hj
             injection e with e
             subst e
             exact hc)
           have HC1 := Lib.hid (show ∀ u ∈ [Value.string y1, .bool false, .string P, .int .i64 (y2 : Int)], u.oneCell' = true from by
             intro u hu
             simp at hu
             rcases hu with rfl | rfl | rfl | rfl <;> rfl)
           clear hy0 hy1 hy2 hx3 he
           go_upto_region 9 with (first
             | (go_at_call 81; ((with_reducible refine (HAN.out _ HI.out.rs).mono ?_); rintro en w3 ⟨rfl, h3, ht3⟩; (have H3 := Lib.hid (HI.out.call h3 ht3)); clear h3 ht3))
             | (fail "arm"))
           obtain ⟨w4, hw4⟩ : ∃ w4, w3.alloc (.cells #[.int .i64 y0, .string y1, .int .i64 (y2 : Int)] 70) = w4 := ⟨_, rfl⟩
           have hb4 : Below w3.heap.size w3 w4 := by rw [← hw4]; exact (Below.refl _ w3).alloc (Nat.le_refl _) _
           have F4 : Full w4 w3.heap.size 70 [.int .i64 y0, .string y1, .int .i64 (y2 : Int)] := by rw [← hw4]; exact Full.new w3 70 _
           obtain ⟨u, hu⟩ : ∃ u, w3.heap.size = u := ⟨_, rfl⟩
           rw [hu] at F4
           have hub : u ≠ b := by have := H3.out.rs.fu.lt; omega
           have HW4 := Lib.hid (And.intro (H3.out.on hb4) F4)
           have z1 : w4.cell? ⟨u, 1, none⟩ = some (.string y1) := F4.cell 1
           have z2 : w4.cell? ⟨u, 2, none⟩ = some (.int .i64 (y2 : Int)) := F4.cell 2
           rw [hw4, hu]
           clear hw4 hu hb4 F4 H3
           have HNEm := HNE
           cases m with
           | true =>
             have hm2 := HM2.out
             rw [if_pos rfl] at hm2
             have hat5 := HAT.out
             rw [if_pos rfl] at hat5
             have HMM := Lib.hid hm2
             clear hm2
             go_wp2_with (first
               | (at_builtin; go_loud (refine wpList_append_lies _ rfl _ _ 25 rfl base 52 i0 (.agg #[.string ⟨#[]⟩, .bool false, .string ⟨#[]⟩, .int .i64 0]) 4 48 Tryz.underlying25 hi hz0 hz1 hz2 rfl (by decide) (.slice A' n c') n (itmsC acc) rfl (HW4.out.1.row.alloc _) ⟨w4.heap.size, 0, none⟩ 1 1 [.string y1, .bool false, .string P, .int .i64 (y2 : Int)] rfl rfl (HCN.out w4 w4.heap.size rfl) HC1.out (by decide) (by unfold maxLen; omega) (by omega) (by have := HW4.out.1.tn.size; simp; omega) _ rfl ?_; intro g9 c9 w9 hown9 hgrow9 hat9 hlt9; (rw [← HC.out] at hown9); (have H9 := Lib.hid ((HW4.out.1.on ((Below.refl _ w4).alloc (Nat.le_refl _) _)).grow hown9 hgrow9 hat9)); clear hown9 hgrow9 hat9 hlt9))
               | (go_at_call 46; ((with_reducible refine (HTC.out _ H9.out.rs).mono ?_); rintro en w10 ⟨rfl, h10, ht10⟩; (have H10 := Lib.hid (H9.out.call h10 ht10)); clear h10 ht10))
               | (fail "arm"))
             go_roundw
             case rel => exact ⟨some ⟨g9, 0, none⟩, n + 1, c9, f, acc ++ [it], x5, rfl, hnl, H10, Lib.hid (by have := HA1.out; have := HONE.out; simp only [List.length_append, List.length_cons, List.length_nil]; omega), Lib.hid (by have := HA2.out; have := HONE.out; omega), HMM⟩
             case measure => show n0 + l.length + 1 - (n + 1) < n0 + l.length + 1 - n; omega
           | false =>
             have hm2 := HM2.out
             rw [if_neg Bool.false_ne_true] at hm2
             injection hm2 with e1 e2
             subst e1
             subst e2
             go_wp2_with (first
               | (at_builtin; go_loud (refine wpList_append_lies _ rfl _ _ 25 rfl base 52 i0 (.agg #[.string ⟨#[]⟩, .bool false, .string ⟨#[]⟩, .int .i64 0]) 4 48 Tryz.underlying25 hi hz0 hz1 hz2 rfl (by decide) (.slice A' n c') n (itmsC acc) rfl (HW4.out.1.row.alloc _) ⟨w4.heap.size, 0, none⟩ 1 1 [.string y1, .bool false, .string P, .int .i64 (y2 : Int)] rfl rfl (HCN.out w4 w4.heap.size rfl) HC1.out (by decide) (by unfold maxLen; omega) (by omega) (by have := HW4.out.1.tn.size; simp; omega) _ rfl ?_; intro g9 c9 w9 hown9 hgrow9 hat9 hlt9; (rw [← HC.out] at hown9); (have H9 := Lib.hid ((HW4.out.1.on ((Below.refl _ w4).alloc (Nat.le_refl _) _)).grow hown9 hgrow9 hat9)); clear hown9 hgrow9 hat9 hlt9))
               | (go_at_call 46; ((with_reducible refine (HTC.out _ H9.out.rs).mono ?_); rintro en w10 ⟨rfl, h10, ht10⟩; (have H10 := Lib.hid (H9.out.call h10 ht10)); clear h10 ht10))
               | (go_at_call 48; ((with_reducible refine (HNE.out _ H10.out.rs).mono ?_); rintro en w11 ⟨rfl, h11, ht11⟩; (have H11 := Lib.hid (H10.out.call h11 ht11)); clear h11 ht11))
               | (fail "arm"))
             go_ret
             exact ⟨some ⟨g9, 0, none⟩, n + 1, c9, rfl, H11.out⟩
         | true =>
           have HTG := Lib.hid (fun (W : World) (H : RS W bs b (some ad) c l x') => (by
             have z := rtake_any H HL.out 1 (by decide) (by decide) globS
             unfold RdOut at z
             exact z : Calls Tryz.prog 46 #[.pointer (some ⟨b, 0, none⟩), .int .i64 1, .string ⟨#[103, 108, 111, 98]⟩] W (fun en w' => en = .returned (.bool (rTake 1 globS l x').1) ∧ RS w' bs b (some ad) c l (rTake 1 globS l x').2 ∧ Turn (fun g => g = b) W w')))
           cases hgt : (rTake 1 globS l x').1 with
           | false =>
             rw [hgt, rTake_false hgt] at HTG
             have HAN := Lib.hid (fun (W : World) (H : RS W bs b (some ad) c l x') => (by
               have z := rany_any H HL.out 3 (by decide) (by decide)
               unfold RdOut rtV at z
               exact z : Calls Tryz.prog 81 #[.pointer (some ⟨b, 0, none⟩), .int .i64 3] W (fun en w' => en = .returned (.agg #[.int .i64 (rAny 3 l x').1.kd, .string (str (rAny 3 l x').1.tx), .int .i64 ((rAny 3 l x').1.ln : Int)]) ∧ RS w' bs b (some ad) c l (rAny 3 l x').2 ∧ Turn (fun g => g = b) W w')))
             obtain ⟨y0, hy0⟩ : ∃ y, (rAny 3 l x').1.kd = y := ⟨_, rfl⟩
             obtain ⟨y1, hy1⟩ : ∃ y, str (rAny 3 l x').1.tx = y := ⟨_, rfl⟩
             obtain ⟨y2, hy2⟩ : ∃ y : Nat, (rAny 3 l x').1.ln = y := ⟨_, rfl⟩
             have HC := Lib.hid (show itmC it = [.string y1, .bool false, .string P, .int .i64 (y2 : Int)] by rw [← HIT.out, ← hy1, ← hy2, ← HPP.out]; (unfold rOne rGate; rw [if_pos rfl, hgt, rTake_false hgt]; rfl))
             rw [hy0, hy1, hy2] at HAN
             obtain ⟨x3, hx3⟩ : ∃ z, (rAny 3 l x').2 = z := ⟨_, rfl⟩
             rw [hx3] at HAN
             have h43 : x3 = x4 := by rw [← hx3, ← H4.out]; unfold rOne rGate; rw [if_pos rfl, hgt, rTake_false hgt]; rfl
             subst h43
             clear hgt
             have HCN := Lib.hid (fun (W : World) (g : Nat) (hg : W.heap.size = g) => show ∀ j u, [Value.string y1, .bool false, .string P, .int .i64 (y2 : Int)][j]? = some u → (W.alloc (.cells #[.string y1, .bool false, .string P, .int .i64 (y2 : Int)] 52)).cell? ((⟨g, 0, none⟩ : Addr).add j) = some u from fun j u hj => by
               subst hg
               obtain ⟨ad, e, _, hc⟩ := ((Full.new W 52 [.string y1, .bool false, .string P, .int .i64 (y2 : Int)]).row 4 1 rfl 1 (Nat.le_refl _)).2.2.2 j u hj
               injection e with e
               subst e
               exact hc)
             have HC1 := Lib.hid (show ∀ u ∈ [Value.string y1, .bool false, .string P, .int .i64 (y2 : Int)], u.oneCell' = true from by
               intro u hu
               simp at hu
               rcases hu with rfl | rfl | rfl | rfl <;> rfl)
             clear hy0 hy1 hy2 hx3 he
             go_upto_region 9 with (first
               | (go_at_call 46; ((with_reducible refine (HTG.out _ HI.out.rs).mono ?_); rintro en w1 ⟨rfl, h1, ht1⟩; (have H1 := Lib.hid (HI.out.call h1 ht1)); clear h1 ht1))
               | (go_at_call 81; ((with_reducible refine (HAN.out _ H1.out.rs).mono ?_); rintro en w3 ⟨rfl, h3, ht3⟩; (have H3 := Lib.hid (H1.out.call h3 ht3)); clear h3 ht3))
               | (fail "arm"))
             obtain ⟨w4, hw4⟩ : ∃ w4, w3.alloc (.cells #[.int .i64 y0, .string y1, .int .i64 (y2 : Int)] 70) = w4 := ⟨_, rfl⟩
             have hb4 : Below w3.heap.size w3 w4 := by rw [← hw4]; exact (Below.refl _ w3).alloc (Nat.le_refl _) _
             have F4 : Full w4 w3.heap.size 70 [.int .i64 y0, .string y1, .int .i64 (y2 : Int)] := by rw [← hw4]; exact Full.new w3 70 _
             obtain ⟨u, hu⟩ : ∃ u, w3.heap.size = u := ⟨_, rfl⟩
             rw [hu] at F4
             have hub : u ≠ b := by have := H3.out.rs.fu.lt; omega
             have HW4 := Lib.hid (And.intro (H3.out.on hb4) F4)
             have z1 : w4.cell? ⟨u, 1, none⟩ = some (.string y1) := F4.cell 1
             have z2 : w4.cell? ⟨u, 2, none⟩ = some (.int .i64 (y2 : Int)) := F4.cell 2
             rw [hw4, hu]
             clear hw4 hu hb4 F4 H3
             have HNEm := HNE
             cases m with
             | true =>
               have hm2 := HM2.out
               rw [if_pos rfl] at hm2
               have hat5 := HAT.out
               rw [if_pos rfl] at hat5
               have HMM := Lib.hid hm2
               clear hm2
               go_wp2_with (first
                 | (at_builtin; go_loud (refine wpList_append_lies _ rfl _ _ 25 rfl base 52 i0 (.agg #[.string ⟨#[]⟩, .bool false, .string ⟨#[]⟩, .int .i64 0]) 4 48 Tryz.underlying25 hi hz0 hz1 hz2 rfl (by decide) (.slice A' n c') n (itmsC acc) rfl (HW4.out.1.row.alloc _) ⟨w4.heap.size, 0, none⟩ 1 1 [.string y1, .bool false, .string P, .int .i64 (y2 : Int)] rfl rfl (HCN.out w4 w4.heap.size rfl) HC1.out (by decide) (by unfold maxLen; omega) (by omega) (by have := HW4.out.1.tn.size; simp; omega) _ rfl ?_; intro g9 c9 w9 hown9 hgrow9 hat9 hlt9; (rw [← HC.out] at hown9); (have H9 := Lib.hid ((HW4.out.1.on ((Below.refl _ w4).alloc (Nat.le_refl _) _)).grow hown9 hgrow9 hat9)); clear hown9 hgrow9 hat9 hlt9))
                 | (go_at_call 46; ((with_reducible refine (HTC.out _ H9.out.rs).mono ?_); rintro en w10 ⟨rfl, h10, ht10⟩; (have H10 := Lib.hid (H9.out.call h10 ht10)); clear h10 ht10))
                 | (fail "arm"))
               go_roundw
               case rel => exact ⟨some ⟨g9, 0, none⟩, n + 1, c9, f, acc ++ [it], x5, rfl, hnl, H10, Lib.hid (by have := HA1.out; have := HONE.out; simp only [List.length_append, List.length_cons, List.length_nil]; omega), Lib.hid (by have := HA2.out; have := HONE.out; omega), HMM⟩
               case measure => show n0 + l.length + 1 - (n + 1) < n0 + l.length + 1 - n; omega
             | false =>
               have hm2 := HM2.out
               rw [if_neg Bool.false_ne_true] at hm2
               injection hm2 with e1 e2
               subst e1
               subst e2
               go_wp2_with (first
                 | (at_builtin; go_loud (refine wpList_append_lies _ rfl _ _ 25 rfl base 52 i0 (.agg #[.string ⟨#[]⟩, .bool false, .string ⟨#[]⟩, .int .i64 0]) 4 48 Tryz.underlying25 hi hz0 hz1 hz2 rfl (by decide) (.slice A' n c') n (itmsC acc) rfl (HW4.out.1.row.alloc _) ⟨w4.heap.size, 0, none⟩ 1 1 [.string y1, .bool false, .string P, .int .i64 (y2 : Int)] rfl rfl (HCN.out w4 w4.heap.size rfl) HC1.out (by decide) (by unfold maxLen; omega) (by omega) (by have := HW4.out.1.tn.size; simp; omega) _ rfl ?_; intro g9 c9 w9 hown9 hgrow9 hat9 hlt9; (rw [← HC.out] at hown9); (have H9 := Lib.hid ((HW4.out.1.on ((Below.refl _ w4).alloc (Nat.le_refl _) _)).grow hown9 hgrow9 hat9)); clear hown9 hgrow9 hat9 hlt9))
                 | (go_at_call 46; ((with_reducible refine (HTC.out _ H9.out.rs).mono ?_); rintro en w10 ⟨rfl, h10, ht10⟩; (have H10 := Lib.hid (H9.out.call h10 ht10)); clear h10 ht10))
                 | (go_at_call 48; ((with_reducible refine (HNE.out _ H10.out.rs).mono ?_); rintro en w11 ⟨rfl, h11, ht11⟩; (have H11 := Lib.hid (H10.out.call h11 ht11)); clear h11 ht11))
                 | (fail "arm"))
               go_ret
               exact ⟨some ⟨g9, 0, none⟩, n + 1, c9, rfl, H11.out⟩
           | true =>
             rw [hgt] at HTG
             obtain ⟨x1', hx1'⟩ : ∃ z, (rTake 1 globS l x').2 = z := ⟨_, rfl⟩
             rw [hx1'] at HTG
             have HN40 := Lib.hid (fun (W : World) (H : RS W bs b (some ad) c l x1') => (by
               have z := rneed_any H HL.out 4 (by decide) (by decide) [40]
               unfold RdOut at z
               exact z : Calls Tryz.prog 48 #[.pointer (some ⟨b, 0, none⟩), .int .i64 4, .string ⟨#[40]⟩] W (fun en w' => en = .returned (.tuple #[]) ∧ RS w' bs b (some ad) c l (rNeed 4 [40] l x1') ∧ Turn (fun g => g = b) W w')))
             obtain ⟨x2', hx2'⟩ : ∃ z, rNeed 4 [40] l x1' = z := ⟨_, rfl⟩
             rw [hx2'] at HN40
             have HAN := Lib.hid (fun (W : World) (H : RS W bs b (some ad) c l x2') => (by
               have z := rany_any H HL.out 3 (by decide) (by decide)
               unfold RdOut rtV at z
               exact z : Calls Tryz.prog 81 #[.pointer (some ⟨b, 0, none⟩), .int .i64 3] W (fun en w' => en = .returned (.agg #[.int .i64 (rAny 3 l x2').1.kd, .string (str (rAny 3 l x2').1.tx), .int .i64 ((rAny 3 l x2').1.ln : Int)]) ∧ RS w' bs b (some ad) c l (rAny 3 l x2').2 ∧ Turn (fun g => g = b) W w')))
             obtain ⟨y0, hy0⟩ : ∃ y, (rAny 3 l x2').1.kd = y := ⟨_, rfl⟩
             obtain ⟨y1, hy1⟩ : ∃ y, str (rAny 3 l x2').1.tx = y := ⟨_, rfl⟩
             obtain ⟨y2, hy2⟩ : ∃ y : Nat, (rAny 3 l x2').1.ln = y := ⟨_, rfl⟩
             have HC := Lib.hid (show itmC it = [.string y1, .bool true, .string P, .int .i64 (y2 : Int)] by rw [← HIT.out, ← hy1, ← hy2, ← HPP.out]; (unfold rOne rGate rSh; rw [if_pos rfl, hgt, if_pos rfl, hx1', hx2']; rfl))
             rw [hy0, hy1, hy2] at HAN
             obtain ⟨x3, hx3⟩ : ∃ z, (rAny 3 l x2').2 = z := ⟨_, rfl⟩
             rw [hx3] at HAN
             have HN41 := Lib.hid (fun (W : World) (H : RS W bs b (some ad) c l x3) => (by
               have z := rneed_any H HL.out 4 (by decide) (by decide) [41]
               unfold RdOut at z
               exact z : Calls Tryz.prog 48 #[.pointer (some ⟨b, 0, none⟩), .int .i64 4, .string ⟨#[41]⟩] W (fun en w' => en = .returned (.tuple #[]) ∧ RS w' bs b (some ad) c l (rNeed 4 [41] l x3) ∧ Turn (fun g => g = b) W w')))
             have h43 : rNeed 4 [41] l x3 = x4 := by rw [← hx3, ← H4.out]; unfold rOne rGate rSh; rw [if_pos rfl, hgt, if_pos rfl, if_pos rfl, hx1', hx2']
             rw [h43] at HN41
             clear hgt hx1' hx2'
             have HCN := Lib.hid (fun (W : World) (g : Nat) (hg : W.heap.size = g) => show ∀ j u, [Value.string y1, .bool true, .string P, .int .i64 (y2 : Int)][j]? = some u → (W.alloc (.cells #[.string y1, .bool true, .string P, .int .i64 (y2 : Int)] 52)).cell? ((⟨g, 0, none⟩ : Addr).add j) = some u from fun j u hj => by
               subst hg
               obtain ⟨ad, e, _, hc⟩ := ((Full.new W 52 [.string y1, .bool true, .string P, .int .i64 (y2 : Int)]).row 4 1 rfl 1 (Nat.le_refl _)).2.2.2 j u hj
               injection e with e
               subst e
               exact hc)
             have HC1 := Lib.hid (show ∀ u ∈ [Value.string y1, .bool true, .string P, .int .i64 (y2 : Int)], u.oneCell' = true from by
               intro u hu
               simp at hu
               rcases hu with rfl | rfl | rfl | rfl <;> rfl)
             clear hy0 hy1 hy2 hx3 he
             go_upto_region 9 with (first
               | (go_at_call 46; ((with_reducible refine (HTG.out _ HI.out.rs).mono ?_); rintro en w1 ⟨rfl, h1, ht1⟩; (have H1 := Lib.hid (HI.out.call h1 ht1)); clear h1 ht1))
               | (go_at_call 48; ((with_reducible refine (HN40.out _ H1.out.rs).mono ?_); rintro en w2 ⟨rfl, h2, ht2⟩; (have H2 := Lib.hid (H1.out.call h2 ht2)); clear h2 ht2))
               | (go_at_call 81; ((with_reducible refine (HAN.out _ H2.out.rs).mono ?_); rintro en w3 ⟨rfl, h3, ht3⟩; (have H3 := Lib.hid (H2.out.call h3 ht3)); clear h3 ht3))
               | (fail "arm"))
             obtain ⟨w4, hw4⟩ : ∃ w4, w3.alloc (.cells #[.int .i64 y0, .string y1, .int .i64 (y2 : Int)] 70) = w4 := ⟨_, rfl⟩
             have hb4 : Below w3.heap.size w3 w4 := by rw [← hw4]; exact (Below.refl _ w3).alloc (Nat.le_refl _) _
             have F4 : Full w4 w3.heap.size 70 [.int .i64 y0, .string y1, .int .i64 (y2 : Int)] := by rw [← hw4]; exact Full.new w3 70 _
             obtain ⟨u, hu⟩ : ∃ u, w3.heap.size = u := ⟨_, rfl⟩
             rw [hu] at F4
             have hub : u ≠ b := by have := H3.out.rs.fu.lt; omega
             have HW4 := Lib.hid (And.intro (H3.out.on hb4) F4)
             have z1 : w4.cell? ⟨u, 1, none⟩ = some (.string y1) := F4.cell 1
             have z2 : w4.cell? ⟨u, 2, none⟩ = some (.int .i64 (y2 : Int)) := F4.cell 2
             rw [hw4, hu]
             clear hw4 hu hb4 F4 H3
             have HNEm := HNE
             cases m with
             | true =>
               have hm2 := HM2.out
               rw [if_pos rfl] at hm2
               have hat5 := HAT.out
               rw [if_pos rfl] at hat5
               have HMM := Lib.hid hm2
               clear hm2
               go_wp2_with (first
                 | (go_at_call 48; ((with_reducible refine (HN41.out _ HW4.out.1.rs).mono ?_); rintro en w5 ⟨rfl, h5, ht5⟩; (have H5 := Lib.hid (HW4.out.1.call h5 ht5)); (have F5 := ht5.far HW4.out.2 hub); (have z1 : w5.cell? ⟨u, 1, none⟩ = some (.string y1) := F5.cell 1); (have z2 : w5.cell? ⟨u, 2, none⟩ = some (.int .i64 (y2 : Int)) := F5.cell 2); clear h5 ht5 F5))
                 | (at_builtin; go_loud (refine wpList_append_lies _ rfl _ _ 25 rfl base 52 i0 (.agg #[.string ⟨#[]⟩, .bool false, .string ⟨#[]⟩, .int .i64 0]) 4 48 Tryz.underlying25 hi hz0 hz1 hz2 rfl (by decide) (.slice A' n c') n (itmsC acc) rfl (H5.out.row.alloc _) ⟨w5.heap.size, 0, none⟩ 1 1 [.string y1, .bool true, .string P, .int .i64 (y2 : Int)] rfl rfl (HCN.out w5 w5.heap.size rfl) HC1.out (by decide) (by unfold maxLen; omega) (by omega) (by have := H5.out.tn.size; simp; omega) _ rfl ?_; intro g9 c9 w9 hown9 hgrow9 hat9 hlt9; (rw [← HC.out] at hown9); (have H9 := Lib.hid ((H5.out.on ((Below.refl _ w5).alloc (Nat.le_refl _) _)).grow hown9 hgrow9 hat9)); clear hown9 hgrow9 hat9 hlt9))
                 | (go_at_call 46; ((with_reducible refine (HTC.out _ H9.out.rs).mono ?_); rintro en w10 ⟨rfl, h10, ht10⟩; (have H10 := Lib.hid (H9.out.call h10 ht10)); clear h10 ht10))
                 | (fail "arm"))
               go_roundw
               case rel => exact ⟨some ⟨g9, 0, none⟩, n + 1, c9, f, acc ++ [it], x5, rfl, hnl, H10, Lib.hid (by have := HA1.out; have := HONE.out; simp only [List.length_append, List.length_cons, List.length_nil]; omega), Lib.hid (by have := HA2.out; have := HONE.out; omega), HMM⟩
               case measure => show n0 + l.length + 1 - (n + 1) < n0 + l.length + 1 - n; omega
             | false =>
               have hm2 := HM2.out
               rw [if_neg Bool.false_ne_true] at hm2
               injection hm2 with e1 e2
               subst e1
               subst e2
               go_wp2_with (first
                 | (go_at_call 48; ((with_reducible refine (HN41.out _ HW4.out.1.rs).mono ?_); rintro en w5 ⟨rfl, h5, ht5⟩; (have H5 := Lib.hid (HW4.out.1.call h5 ht5)); (have F5 := ht5.far HW4.out.2 hub); (have z1 : w5.cell? ⟨u, 1, none⟩ = some (.string y1) := F5.cell 1); (have z2 : w5.cell? ⟨u, 2, none⟩ = some (.int .i64 (y2 : Int)) := F5.cell 2); clear h5 ht5 F5))
                 | (at_builtin; go_loud (refine wpList_append_lies _ rfl _ _ 25 rfl base 52 i0 (.agg #[.string ⟨#[]⟩, .bool false, .string ⟨#[]⟩, .int .i64 0]) 4 48 Tryz.underlying25 hi hz0 hz1 hz2 rfl (by decide) (.slice A' n c') n (itmsC acc) rfl (H5.out.row.alloc _) ⟨w5.heap.size, 0, none⟩ 1 1 [.string y1, .bool true, .string P, .int .i64 (y2 : Int)] rfl rfl (HCN.out w5 w5.heap.size rfl) HC1.out (by decide) (by unfold maxLen; omega) (by omega) (by have := H5.out.tn.size; simp; omega) _ rfl ?_; intro g9 c9 w9 hown9 hgrow9 hat9 hlt9; (rw [← HC.out] at hown9); (have H9 := Lib.hid ((H5.out.on ((Below.refl _ w5).alloc (Nat.le_refl _) _)).grow hown9 hgrow9 hat9)); clear hown9 hgrow9 hat9 hlt9))
                 | (go_at_call 46; ((with_reducible refine (HTC.out _ H9.out.rs).mono ?_); rintro en w10 ⟨rfl, h10, ht10⟩; (have H10 := Lib.hid (H9.out.call h10 ht10)); clear h10 ht10))
                 | (go_at_call 48; ((with_reducible refine (HNE.out _ H10.out.rs).mono ?_); rintro en w11 ⟨rfl, h11, ht11⟩; (have H11 := Lib.hid (H10.out.call h11 ht11)); clear h11 ht11))
                 | (fail "arm"))
               go_ret
               exact ⟨some ⟨g9, 0, none⟩, n + 1, c9, rfl, H11.out⟩
       · rw [if_neg (fun z => e0 (he.symm.trans z))] at hm
         injection hm with h1 h2
         subst h1
         subst h2
         have q1 : (e == 0) = false := by simpa using e0
         clear e0 he HM
         go_wp2_with (first
           | (go_at_call 48; ((with_reducible refine (HNE.out _ HI.out.rs).mono ?_); rintro en w3 ⟨rfl, h3, ht3⟩; (have H3 := Lib.hid (HI.out.call h3 ht3)); clear h3 ht3))
           | (fail "arm"))
         go_ret
         exact ⟨A', n, c', rfl, H3.out⟩
end Go.Proofs.YtcjoiiaankngjaaGreatDoor
/- The reference's reader: platforms. -/
namespace Go.Proofs.YtcjoiiaankngjaaGreatDoor
set_option maxRecDepth 100000
open Go.RowKit
theorem rPlGate_at (l : List RTok) (x : RSt) : (rPlGate l x).at_ = x.at_ := by
  unfold rPlGate
  split
  · rw [rFail_at]
  · rfl
theorem rPlatform_le (l : List RTok) (x : RSt) : x.at_ ≤ (rPlatform l x).2.at_ := by
  unfold rPlatform
  have h := rAny_le 1 l (rPlGate l x)
  rw [rPlGate_at] at h
  exact h
theorem rPlOne_le (l : List RTok) (a : List Itm) (x : RSt) : x.at_ ≤ (rPlOne l a x).at_ := by
  unfold rPlOne
  have h := rPlatform_le l x
  split
  · rw [rFail_at]; exact h
  · exact h
set_option maxHeartbeats 32000000 in
theorem rplats_any {w : World} {bs b : Nat} {A : Option Addr} {c : Nat} {l : List RTok} {x : RSt} (h : RS w bs b A c l x) (hl : LOk l) (hn : l.length ≤ 8589934590) :
    Calls Tryz.prog 47 #[.pointer (some ⟨b, 0, none⟩)] w (fun en w' => ∃ A' n' c', en = .returned (.slice A' n' c') ∧ RI w bs b w.heap.size A c l (.slice none 0 0) w' (rPlats l x).2 A' n' c' (rPlats l x).1) := by
  obtain ⟨i0, hi, hz0, hz1, hz2⟩ := info_parts info52
  have H0 := Lib.hid (show RI w bs b w.heap.size A c l (.slice none 0 0) w x none 0 0 [] from ⟨h, ⟨rfl, .inl ⟨rfl, rfl⟩⟩, rfl, fun g e => .inl e, Turn.refl _ _, h.fu.lt⟩)
  unfold rPlats
  dsimp only
  obtain ⟨⟨RA, RX⟩, hr⟩ : ∃ p, rPls l (l.length + 1) [] x = p := ⟨_, rfl⟩
  rw [hr]
  dsimp only
  obtain ⟨x9, hx9⟩ : ∃ y, rNeed 4 [59] l RX = y := ⟨_, rfl⟩
  rw [hx9]
  have HNE := Lib.hid (fun (W : World) (H : RS W bs b A c l RX) => (by
    have z := rneed_any H hl 4 (by decide) (by decide) [59]
    unfold RdOut at z
    rw [hx9] at z
    exact z : Calls Tryz.prog 48 #[.pointer (some ⟨b, 0, none⟩), .int .i64 4, .string ⟨#[59]⟩] W (fun en w' => en = .returned (.tuple #[]) ∧ RS w' bs b A c l x9 ∧ Turn (fun g => g = b) W w')))
  have hle := h.le
  have HR := Lib.hid hr
  have HL := Lib.hid hl
  clear hr hx9 h hl
  go_enter Tryz.func47, Tryz.ntmps47
  go_upto_region 2 with fail
  go_loopw [3] (fun v3 wr => ∃ (A' : Option Addr) (n c' f : Nat) (acc : List Itm) (x' : RSt), v3 = .slice A' n c' ∧ n ≤ l.length ∧ Hid (RI w bs b w.heap.size A c l (.slice none 0 0) wr x' A' n c' acc) ∧ Hid (acc.length ≤ x'.at_) ∧ Hid (l.length < f + x'.at_) ∧ Hid (rPls l f acc x' = (RA, RX))) (fun v3 _ => match v3 with | .slice _ n _ => l.length + 1 - n | _ => 0)
  case atStart => exact ⟨none, 0, 0, l.length + 1, [], x, rfl, Nat.zero_le _, H0, Lib.hid (Nat.zero_le _), Lib.hid (by omega), HR⟩
  case round =>
    obtain ⟨A', n, c', f, acc, x', rfl, hnb, HI, HA1, HA2, HM⟩ := hrel
    obtain ⟨e, he⟩ : ∃ e, x'.e = e := ⟨_, rfl⟩
    have c2 : wr.cell? ⟨b, 2, none⟩ = some (.int .i64 e) := by rw [← he]; exact HI.out.rs.fu.cell 2
    obtain ⟨f, rfl⟩ : ∃ k, f = k + 1 := ⟨f - 1, by have := HA2.out; have := HI.out.rs.lt; omega⟩
    have hm := HM.out
    rw [rPls] at hm
    have hnl : n + 1 ≤ l.length := by
      have := HA1.out
      have := HI.out.len
      have := HI.out.rs.lt
      omega
    by_cases e0 : e = 0
    · rw [if_pos (he.trans e0)] at hm
      have q1 : (e == 0) = true := by rw [e0]; rfl
      have hone := rPlOne_le l acc x'
      have HPL := Lib.hid (fun (W : World) (H : RS W bs b A c l x') => (by
        have z := rplatform_any H HL.out
        unfold RdOut rtV at z
        exact z : Calls Tryz.prog 79 #[.pointer (some ⟨b, 0, none⟩)] W (fun en w' => en = .returned (.agg #[.int .i64 (rPlatform l x').1.kd, .string (str (rPlatform l x').1.tx), .int .i64 ((rPlatform l x').1.ln : Int)]) ∧ RS w' bs b A c l (rPlatform l x').2 ∧ Turn (fun g => g = b) W w')))
      obtain ⟨⟨tk, x2⟩, hx2⟩ : ∃ p, rPlatform l x' = p := ⟨_, rfl⟩
      have hpo : rPlOne l acc x' = if rHas acc tk.tx then rFail 42 (tk.ln : Int) x2 else x2 := by unfold rPlOne; rw [hx2]
      rw [hx2] at HPL hm
      dsimp only at HPL hm
      obtain ⟨x4, h4⟩ : ∃ z, rPlOne l acc x' = z := ⟨_, rfl⟩
      rw [h4] at hone hm hpo
      have htat := rTake_at 4 [44] l x4
      have HTC := Lib.hid (fun (W : World) (H : RS W bs b A c l x4) => (by
        have z := rtake_any H HL.out 4 (by decide) (by decide) [44]
        unfold RdOut at z
        exact z : Calls Tryz.prog 46 #[.pointer (some ⟨b, 0, none⟩), .int .i64 4, .string ⟨#[44]⟩] W (fun en w' => en = .returned (.bool (rTake 4 [44] l x4).1) ∧ RS w' bs b A c l (rTake 4 [44] l x4).2 ∧ Turn (fun g => g = b) W w')))
      obtain ⟨m, hmm⟩ : ∃ z, (rTake 4 [44] l x4).1 = z := ⟨_, rfl⟩
      obtain ⟨x5, h5⟩ : ∃ z, (rTake 4 [44] l x4).2 = z := ⟨_, rfl⟩
      rw [hmm, h5] at HTC htat hm
      obtain ⟨it, hit⟩ : ∃ i : Itm, (⟨tk.tx, false, [], tk.ln⟩ : Itm) = i := ⟨_, rfl⟩
      rw [hit] at hm
      obtain ⟨y0, hy0⟩ : ∃ y, tk.kd = y := ⟨_, rfl⟩
      obtain ⟨y1, hy1⟩ : ∃ y, str tk.tx = y := ⟨_, rfl⟩
      obtain ⟨y2, hy2⟩ : ∃ y : Nat, tk.ln = y := ⟨_, rfl⟩
      have HC := Lib.hid (show itmC it = [.string y1, .bool false, .string ⟨#[]⟩, .int .i64 (y2 : Int)] by rw [← hit, ← hy1, ← hy2]; rfl)
      obtain ⟨tw, htw⟩ : ∃ z, rHas acc tk.tx = z := ⟨_, rfl⟩
      have HHS := Lib.hid (fun (W : World) (x8 : RSt) (H : RI w bs b w.heap.size A c l (.slice none 0 0) W x8 A' n c' acc) => (by
        have hr : Itms W W.heap.size A' c' acc := by
          have z := Row.own H.row
          rw [H.len] at z
          exact z
        have z := rhas_any hr (Nat.le_refl _) (by have := H.len; unfold maxLen; omega) tk.tx
        unfold BoolB at z
        rw [htw, hy1, ← H.len] at z
        exact z : Calls Tryz.prog 40 #[.slice A' n c', .string y1] W (fun en w' => en = .returned (.bool tw) ∧ Below W.heap.size W w')))
      rw [hy0, hy1, hy2] at HPL
      rw [htw, hy2] at hpo
      have HFL := Lib.hid (fun (W : World) (H : RS W bs b A c l x2) => rfail_any H 42 (y2 : Int))
      unfold RdOut at HFL
      have HAT := Lib.hid htat
      have HONE := Lib.hid hone
      have HM2 := Lib.hid hm
      have HCN := Lib.hid (fun (W : World) (g : Nat) (hg : W.heap.size = g) => show ∀ j u, [Value.string y1, .bool false, .string ⟨#[]⟩, .int .i64 (y2 : Int)][j]? = some u → (W.alloc (.cells #[.string y1, .bool false, .string ⟨#[]⟩, .int .i64 (y2 : Int)] 52)).cell? ((⟨g, 0, none⟩ : Addr).add j) = some u from fun j u hj => by
        subst hg
        obtain ⟨ad, e, _, hc⟩ := ((Full.new W 52 [.string y1, .bool false, .string ⟨#[]⟩, .int .i64 (y2 : Int)]).row 4 1 rfl 1 (Nat.le_refl _)).2.2.2 j u hj
        injection e with e
        subst e
        exact hc)
      have HC1 := Lib.hid (show ∀ u ∈ [Value.string y1, .bool false, .string ⟨#[]⟩, .int .i64 (y2 : Int)], u.oneCell' = true from by
        intro u hu
        simp at hu
        rcases hu with rfl | rfl | rfl | rfl <;> rfl)
      clear htat hone hm hmm h5 hit hy0 hy1 hy2 htw h4 hx2 HM he
      go_upto_region 4 with (first
        | (go_at_call 79; ((with_reducible refine (HPL.out _ HI.out.rs).mono ?_); rintro en w3 ⟨rfl, h3, ht3⟩; (have H3 := Lib.hid (HI.out.call h3 ht3)); clear h3 ht3))
        | (fail "arm"))
      obtain ⟨w4, hw4⟩ : ∃ w4, w3.alloc (.cells #[.int .i64 y0, .string y1, .int .i64 (y2 : Int)] 70) = w4 := ⟨_, rfl⟩
      have hb4 : Below w3.heap.size w3 w4 := by rw [← hw4]; exact (Below.refl _ w3).alloc (Nat.le_refl _) _
      have F4 : Full w4 w3.heap.size 70 [.int .i64 y0, .string y1, .int .i64 (y2 : Int)] := by rw [← hw4]; exact Full.new w3 70 _
      obtain ⟨u, hu⟩ : ∃ u, w3.heap.size = u := ⟨_, rfl⟩
      rw [hu] at F4
      have hub : u ≠ b := by have := H3.out.rs.fu.lt; omega
      have HW4 := Lib.hid (And.intro (H3.out.on hb4) F4)
      have z1 : w4.cell? ⟨u, 1, none⟩ = some (.string y1) := F4.cell 1
      have z2 : w4.cell? ⟨u, 2, none⟩ = some (.int .i64 (y2 : Int)) := F4.cell 2
      rw [hw4, hu]
      clear hw4 hu hb4 F4 H3
      cases tw with
      | false =>
        rw [if_neg Bool.false_ne_true] at hpo
        subst hpo
        cases m with
        | true =>
          have hm2 := HM2.out
          rw [if_pos rfl] at hm2
          have hat5 := HAT.out
          rw [if_pos rfl] at hat5
          have HMM := Lib.hid hm2
          clear hm2
          go_wp2_with (first
            | (go_at_call 40; ((with_reducible refine (HHS.out _ _ HW4.out.1).mono ?_); rintro en w5 ⟨rfl, hb5⟩; (have H5 := Lib.hid (HW4.out.1.on hb5)); (have F5 := Lib.hid (HW4.out.2.on hb5)); (have z1 : w5.cell? ⟨u, 1, none⟩ = some (.string y1) := F5.out.cell 1); (have z2 : w5.cell? ⟨u, 2, none⟩ = some (.int .i64 (y2 : Int)) := F5.out.cell 2); clear hb5))
            | (at_builtin; go_loud (refine wpList_append_lies _ rfl _ _ 25 rfl w.heap.size 52 i0 (.agg #[.string ⟨#[]⟩, .bool false, .string ⟨#[]⟩, .int .i64 0]) 4 48 Tryz.underlying25 hi hz0 hz1 hz2 rfl (by decide) (.slice A' n c') n (itmsC acc) rfl (H5.out.row.alloc _) ⟨w5.heap.size, 0, none⟩ 1 1 [.string y1, .bool false, .string ⟨#[]⟩, .int .i64 (y2 : Int)] rfl rfl (HCN.out w5 w5.heap.size rfl) HC1.out (by decide) (by unfold maxLen; omega) (by omega) (by have := H5.out.tn.size; simp; omega) _ rfl ?_; intro g9 c9 w9 hown9 hgrow9 hat9 hlt9; (rw [← HC.out] at hown9); (have H9 := Lib.hid ((H5.out.on ((Below.refl _ w5).alloc (Nat.le_refl _) _)).grow hown9 hgrow9 hat9)); clear hown9 hgrow9 hat9 hlt9))
            | (go_at_call 46; ((with_reducible refine (HTC.out _ H9.out.rs).mono ?_); rintro en w10 ⟨rfl, h10, ht10⟩; (have H10 := Lib.hid (H9.out.call h10 ht10)); clear h10 ht10))
            | (fail "arm"))
          go_roundw
          case rel => exact ⟨some ⟨g9, 0, none⟩, n + 1, c9, f, acc ++ [it], x5, rfl, hnl, H10, Lib.hid (by have := HA1.out; have := HONE.out; simp only [List.length_append, List.length_cons, List.length_nil]; omega), Lib.hid (by have := HA2.out; have := HONE.out; omega), HMM⟩
          case measure => show l.length + 1 - (n + 1) < l.length + 1 - n; omega
        | false =>
          have hm2 := HM2.out
          rw [if_neg Bool.false_ne_true] at hm2
          injection hm2 with e1 e2
          subst e1
          subst e2
          go_wp2_with (first
            | (go_at_call 40; ((with_reducible refine (HHS.out _ _ HW4.out.1).mono ?_); rintro en w5 ⟨rfl, hb5⟩; (have H5 := Lib.hid (HW4.out.1.on hb5)); (have F5 := Lib.hid (HW4.out.2.on hb5)); (have z1 : w5.cell? ⟨u, 1, none⟩ = some (.string y1) := F5.out.cell 1); (have z2 : w5.cell? ⟨u, 2, none⟩ = some (.int .i64 (y2 : Int)) := F5.out.cell 2); clear hb5))
            | (at_builtin; go_loud (refine wpList_append_lies _ rfl _ _ 25 rfl w.heap.size 52 i0 (.agg #[.string ⟨#[]⟩, .bool false, .string ⟨#[]⟩, .int .i64 0]) 4 48 Tryz.underlying25 hi hz0 hz1 hz2 rfl (by decide) (.slice A' n c') n (itmsC acc) rfl (H5.out.row.alloc _) ⟨w5.heap.size, 0, none⟩ 1 1 [.string y1, .bool false, .string ⟨#[]⟩, .int .i64 (y2 : Int)] rfl rfl (HCN.out w5 w5.heap.size rfl) HC1.out (by decide) (by unfold maxLen; omega) (by omega) (by have := H5.out.tn.size; simp; omega) _ rfl ?_; intro g9 c9 w9 hown9 hgrow9 hat9 hlt9; (rw [← HC.out] at hown9); (have H9 := Lib.hid ((H5.out.on ((Below.refl _ w5).alloc (Nat.le_refl _) _)).grow hown9 hgrow9 hat9)); clear hown9 hgrow9 hat9 hlt9))
            | (go_at_call 46; ((with_reducible refine (HTC.out _ H9.out.rs).mono ?_); rintro en w10 ⟨rfl, h10, ht10⟩; (have H10 := Lib.hid (H9.out.call h10 ht10)); clear h10 ht10))
            | (go_at_call 48; ((with_reducible refine (HNE.out _ H10.out.rs).mono ?_); rintro en w11 ⟨rfl, h11, ht11⟩; (have H11 := Lib.hid (H10.out.call h11 ht11)); clear h11 ht11))
            | (fail "arm"))
          go_ret
          exact ⟨some ⟨g9, 0, none⟩, n + 1, c9, rfl, H11.out⟩
      | true =>
        rw [if_pos rfl] at hpo
        rw [← hpo] at HFL
        clear hpo
        cases m with
        | true =>
          have hm2 := HM2.out
          rw [if_pos rfl] at hm2
          have hat5 := HAT.out
          rw [if_pos rfl] at hat5
          have HMM := Lib.hid hm2
          clear hm2
          go_wp2_with (first
            | (go_at_call 40; ((with_reducible refine (HHS.out _ _ HW4.out.1).mono ?_); rintro en w5 ⟨rfl, hb5⟩; (have H5 := Lib.hid (HW4.out.1.on hb5)); (have F5 := Lib.hid (HW4.out.2.on hb5)); (have z1 : w5.cell? ⟨u, 1, none⟩ = some (.string y1) := F5.out.cell 1); (have z2 : w5.cell? ⟨u, 2, none⟩ = some (.int .i64 (y2 : Int)) := F5.out.cell 2); clear hb5))
            | (go_at_call 80; ((with_reducible refine (HFL.out _ H5.out.rs).mono ?_); rintro en w6 ⟨rfl, h6, ht6⟩; (have H6 := Lib.hid (H5.out.call h6 ht6)); (have F6 := ht6.far F5.out hub); (have z1 : w6.cell? ⟨u, 1, none⟩ = some (.string y1) := F6.cell 1); (have z2 : w6.cell? ⟨u, 2, none⟩ = some (.int .i64 (y2 : Int)) := F6.cell 2); clear h6 ht6 F6))
            | (at_builtin; go_loud (refine wpList_append_lies _ rfl _ _ 25 rfl w.heap.size 52 i0 (.agg #[.string ⟨#[]⟩, .bool false, .string ⟨#[]⟩, .int .i64 0]) 4 48 Tryz.underlying25 hi hz0 hz1 hz2 rfl (by decide) (.slice A' n c') n (itmsC acc) rfl (H6.out.row.alloc _) ⟨w6.heap.size, 0, none⟩ 1 1 [.string y1, .bool false, .string ⟨#[]⟩, .int .i64 (y2 : Int)] rfl rfl (HCN.out w6 w6.heap.size rfl) HC1.out (by decide) (by unfold maxLen; omega) (by omega) (by have := H6.out.tn.size; simp; omega) _ rfl ?_; intro g9 c9 w9 hown9 hgrow9 hat9 hlt9; (rw [← HC.out] at hown9); (have H9 := Lib.hid ((H6.out.on ((Below.refl _ w6).alloc (Nat.le_refl _) _)).grow hown9 hgrow9 hat9)); clear hown9 hgrow9 hat9 hlt9))
            | (go_at_call 46; ((with_reducible refine (HTC.out _ H9.out.rs).mono ?_); rintro en w10 ⟨rfl, h10, ht10⟩; (have H10 := Lib.hid (H9.out.call h10 ht10)); clear h10 ht10))
            | (fail "arm"))
          go_roundw
          case rel => exact ⟨some ⟨g9, 0, none⟩, n + 1, c9, f, acc ++ [it], x5, rfl, hnl, H10, Lib.hid (by have := HA1.out; have := HONE.out; simp only [List.length_append, List.length_cons, List.length_nil]; omega), Lib.hid (by have := HA2.out; have := HONE.out; omega), HMM⟩
          case measure => show l.length + 1 - (n + 1) < l.length + 1 - n; omega
        | false =>
          have hm2 := HM2.out
          rw [if_neg Bool.false_ne_true] at hm2
          injection hm2 with e1 e2
          subst e1
          subst e2
          go_wp2_with (first
            | (go_at_call 40; ((with_reducible refine (HHS.out _ _ HW4.out.1).mono ?_); rintro en w5 ⟨rfl, hb5⟩; (have H5 := Lib.hid (HW4.out.1.on hb5)); (have F5 := Lib.hid (HW4.out.2.on hb5)); (have z1 : w5.cell? ⟨u, 1, none⟩ = some (.string y1) := F5.out.cell 1); (have z2 : w5.cell? ⟨u, 2, none⟩ = some (.int .i64 (y2 : Int)) := F5.out.cell 2); clear hb5))
            | (go_at_call 80; ((with_reducible refine (HFL.out _ H5.out.rs).mono ?_); rintro en w6 ⟨rfl, h6, ht6⟩; (have H6 := Lib.hid (H5.out.call h6 ht6)); (have F6 := ht6.far F5.out hub); (have z1 : w6.cell? ⟨u, 1, none⟩ = some (.string y1) := F6.cell 1); (have z2 : w6.cell? ⟨u, 2, none⟩ = some (.int .i64 (y2 : Int)) := F6.cell 2); clear h6 ht6 F6))
            | (at_builtin; go_loud (refine wpList_append_lies _ rfl _ _ 25 rfl w.heap.size 52 i0 (.agg #[.string ⟨#[]⟩, .bool false, .string ⟨#[]⟩, .int .i64 0]) 4 48 Tryz.underlying25 hi hz0 hz1 hz2 rfl (by decide) (.slice A' n c') n (itmsC acc) rfl (H6.out.row.alloc _) ⟨w6.heap.size, 0, none⟩ 1 1 [.string y1, .bool false, .string ⟨#[]⟩, .int .i64 (y2 : Int)] rfl rfl (HCN.out w6 w6.heap.size rfl) HC1.out (by decide) (by unfold maxLen; omega) (by omega) (by have := H6.out.tn.size; simp; omega) _ rfl ?_; intro g9 c9 w9 hown9 hgrow9 hat9 hlt9; (rw [← HC.out] at hown9); (have H9 := Lib.hid ((H6.out.on ((Below.refl _ w6).alloc (Nat.le_refl _) _)).grow hown9 hgrow9 hat9)); clear hown9 hgrow9 hat9 hlt9))
            | (go_at_call 46; ((with_reducible refine (HTC.out _ H9.out.rs).mono ?_); rintro en w10 ⟨rfl, h10, ht10⟩; (have H10 := Lib.hid (H9.out.call h10 ht10)); clear h10 ht10))
            | (go_at_call 48; ((with_reducible refine (HNE.out _ H10.out.rs).mono ?_); rintro en w11 ⟨rfl, h11, ht11⟩; (have H11 := Lib.hid (H10.out.call h11 ht11)); clear h11 ht11))
            | (fail "arm"))
          go_ret
          exact ⟨some ⟨g9, 0, none⟩, n + 1, c9, rfl, H11.out⟩
    · rw [if_neg (fun z => e0 (he.symm.trans z))] at hm
      injection hm with h1 h2
      subst h1
      subst h2
      have q1 : (e == 0) = false := by simpa using e0
      clear e0 he HM
      go_wp2_with (first
        | (go_at_call 48; ((with_reducible refine (HNE.out _ HI.out.rs).mono ?_); rintro en w3 ⟨rfl, h3, ht3⟩; (have H3 := Lib.hid (HI.out.call h3 ht3)); clear h3 ht3))
        | (fail "arm"))
      go_ret
      exact ⟨A', n, c', rfl, H3.out⟩
end Go.Proofs.YtcjoiiaankngjaaGreatDoor
/- The reference's reader: what a target is while it is parsed. -/
namespace Go.Proofs.YtcjoiiaankngjaaGreatDoor
set_option maxRecDepth 100000
open Go.RowKit
theorem rFail_e {cd ln : Int} {x : RSt} (hc : cd ≠ 0) : (rFail cd ln x).e ≠ 0 := by
  unfold rFail
  split
  · exact hc
  · assumption
theorem rTake_e (kd : Int) (tx : List UInt8) (l : List RTok) (x : RSt) : (rTake kd tx l x).2.e = x.e := by unfold rTake; split <;> rfl
theorem rNeed_e0 {kd : Int} {tx : List UInt8} {l : List RTok} {x : RSt} (h : (rNeed kd tx l x).e = 0) : x.e = 0 := by
  unfold rNeed at h
  split at h
  · rwa [rTake_e] at h
  · exact absurd h (rFail_e (by decide))
theorem rAny_e0 {kd : Int} {l : List RTok} {x : RSt} (h : (rAny kd l x).2.e = 0) : x.e = 0 ∧ (rAny kd l x).2.at_ = x.at_ + 1 := by
  unfold rAny at h ⊢
  split at h
  · rename_i q
    rw [if_pos q]
    exact ⟨q.1, rfl⟩
  · exact absurd h (rFail_e (by decide))
theorem rSh_e0 {g : Bool} {tx : List UInt8} {l : List RTok} {x : RSt} (h : (rSh g tx l x).e = 0) : x.e = 0 := by
  unfold rSh at h
  split at h
  · exact rNeed_e0 h
  · exact h
theorem rGate_e (gl : Bool) (l : List RTok) (x : RSt) : (rGate gl l x).2.e = x.e := by
  unfold rGate
  split
  · exact rTake_e _ _ _ _
  · rfl
theorem rOne_e0 {gl : Bool} {pl : List UInt8} {l : List RTok} {x : RSt} (h : (rOne gl pl l x).2.e = 0) : x.e = 0 ∧ x.at_ + 1 ≤ (rOne gl pl l x).2.at_ := by
  unfold rOne at h ⊢
  dsimp only at h ⊢
  have h3 := rSh_e0 h
  obtain ⟨h2, e2⟩ := rAny_e0 h3
  have h1 := rSh_e0 h2
  rw [rGate_e] at h1
  have a1 := rGate_le gl l x
  have a2 := rSh_le (rGate gl l x).1 [40] l (rGate gl l x).2
  have a4 := rSh_le (rGate gl l x).1 [41] l (rAny 3 l (rSh (rGate gl l x).1 [40] l (rGate gl l x).2)).2
  exact ⟨h1, by omega⟩
theorem rMore_e0 {gl : Bool} {pl : List UInt8} {l : List RTok} : ∀ (f : Nat) (a : List Itm) (x : RSt), (rMore gl pl l f a x).2.e = 0 → x.e = 0 ∧ (rMore gl pl l f a x).1.length + x.at_ ≤ a.length + (rMore gl pl l f a x).2.at_
  | 0, a, x, h => ⟨h, Nat.le_refl _⟩
  | f + 1, a, x, h => by
    rw [rMore] at h ⊢
    by_cases e0 : x.e = 0
    · rw [if_pos e0] at h ⊢
      by_cases hm : (rTake 4 [44] l (rOne gl pl l x).2).1 = true
      · rw [if_pos hm] at h ⊢
        obtain ⟨i1, i2⟩ := rMore_e0 f _ _ h
        rw [rTake_e] at i1
        obtain ⟨o1, o2⟩ := rOne_e0 i1
        have ht := rTake_le 4 [44] l (rOne gl pl l x).2
        simp only [List.length_append, List.length_cons, List.length_nil] at i2
        exact ⟨e0, by omega⟩
      · rw [if_neg hm] at h ⊢
        rw [rTake_e] at h
        obtain ⟨o1, o2⟩ := rOne_e0 h
        have ht := rTake_le 4 [44] l (rOne gl pl l x).2
        simp only [List.length_append, List.length_cons, List.length_nil]
        exact ⟨e0, by omega⟩
    · rw [if_neg e0] at h
      exact absurd h e0
theorem rPlatform_e0 {l : List RTok} {x : RSt} (h : (rPlatform l x).2.e = 0) : x.e = 0 := by
  unfold rPlatform at h
  have h1 := (rAny_e0 h).1
  unfold rPlGate at h1
  split at h1
  · exact absurd h1 (rFail_e (by decide))
  · exact h1
theorem rLim_e0 {lim gl : Bool} {l : List RTok} {x : RSt} (h : (rLim lim gl l x).2.e = 0) : x.e = 0 ∧ x.at_ ≤ (rLim lim gl l x).2.at_ := by
  unfold rLim at h ⊢
  split at h
  · rename_i q
    rw [if_pos q]
    exact ⟨rPlatform_e0 h, rPlatform_le l x⟩
  · rename_i q
    rw [if_neg q]
    exact ⟨h, Nat.le_refl _⟩
theorem rItems_e0 {lim gl : Bool} {l : List RTok} {a : List Itm} {x : RSt} (h : (rItems lim gl l a x).2.e = 0) : x.e = 0 ∧ (rItems lim gl l a x).1.length + x.at_ ≤ a.length + (rItems lim gl l a x).2.at_ := by
  unfold rItems at h ⊢
  dsimp only at h ⊢
  obtain ⟨m1, m2⟩ := rMore_e0 _ _ _ (rNeed_e0 h)
  obtain ⟨l1, l2⟩ := rLim_e0 m1
  have hn := rNeed_le 4 [59] l (rMore gl (rLim lim gl l x).1 l (l.length + 1) a (rLim lim gl l x).2).2
  exact ⟨l1, by omega⟩
theorem rMore_le {gl : Bool} {pl : List UInt8} {l : List RTok} : ∀ (f : Nat) (a : List Itm) (x : RSt), x.at_ ≤ (rMore gl pl l f a x).2.at_
  | 0, a, x => Nat.le_refl _
  | f + 1, a, x => by
    rw [rMore]
    have h1 := rOne_le gl pl l x
    have h2 := rTake_le 4 [44] l (rOne gl pl l x).2
    split
    · split
      · have := rMore_le (gl := gl) (pl := pl) (l := l) f (a ++ [(rOne gl pl l x).1]) (rTake 4 [44] l (rOne gl pl l x).2).2
        omega
      · dsimp only
        omega
    · exact Nat.le_refl _
theorem rLim_le {lim gl : Bool} {l : List RTok} {x : RSt} : x.at_ ≤ (rLim lim gl l x).2.at_ := by
  unfold rLim
  split
  · exact rPlatform_le l x
  · exact Nat.le_refl _
theorem rItems_le {lim gl : Bool} {l : List RTok} {a : List Itm} {x : RSt} : x.at_ ≤ (rItems lim gl l a x).2.at_ := by
  unfold rItems
  dsimp only
  have h1 := rLim_le (lim := lim) (gl := gl) (l := l) (x := x)
  have h2 := rMore_le (gl := gl) (pl := (rLim lim gl l x).1) (l := l) (l.length + 1) a (rLim lim gl l x).2
  have h3 := rNeed_le 4 [59] l (rMore gl (rLim lim gl l x).1 l (l.length + 1) a (rLim lim gl l x).2).2
  omega
theorem rKinds_e0 {l : List RTok} {x : RSt} : ∀ f, (rKinds f l x).2.e = 0 → x.e = 0 ∧ x.at_ ≤ (rKinds f l x).2.at_
  | 0, h => absurd h (by rw [rKinds]; exact rFail_e (by decide))
  | f + 1, h => by
    rw [rKinds] at h ⊢
    split at h
    · rename_i q
      rw [if_pos q]
      dsimp only at h ⊢
      have h1 := rNeed_e0 h
      rw [rTake_e] at h1
      have a1 := rTake_le 1 (kw (4 - f)) l x
      have a2 := rNeed_le 4 [59] l (rTake 1 (kw (4 - f)) l x).2
      exact ⟨h1, by omega⟩
    · rename_i q
      rw [if_neg q]
      exact rKinds_e0 f h
theorem rNum1_e0 {lo hi : Int} {l : List RTok} {x : RSt} (h : (rNum1 lo hi l x).e = 0) : x.e = 0 ∧ x.at_ ≤ (rNum1 lo hi l x).at_ := by
  unfold rNum1 at h ⊢
  split at h
  · exact absurd h (rFail_e (by decide))
  · rename_i q
    rw [if_neg q]
    exact ⟨(rAny_e0 h).1, rAny_le 2 l x⟩
theorem rNumber_e0 {lo hi : Int} {l : List RTok} {x : RSt} (h : (rNumber lo hi l x).2.e = 0) : x.e = 0 ∧ x.at_ ≤ (rNumber lo hi l x).2.at_ := by
  unfold rNumber at h ⊢
  dsimp only at h ⊢
  obtain ⟨n1, n2⟩ := rNum1_e0 (rNeed_e0 h)
  have := rNeed_le 4 [59] l (rNum1 lo hi l x)
  exact ⟨n1, by omega⟩
theorem rDup_at (bf : List (List UInt8)) (t : RTok) (x : RSt) : (rDup bf t x).at_ = x.at_ := by
  unfold rDup
  split
  · rw [rFail_at]
  · rfl
theorem rDup_step (a b : List (List UInt8)) (t : RTok) (x : RSt) : rDup (a ++ b) t x = rDup b t (rDup a t x) := by
  unfold rDup
  rw [List.any_append]
  cases a.any (fun n => n == t.tx) with
  | false => simp
  | true =>
    simp only [Bool.true_or, if_true]
    split
    · unfold rFail
      by_cases e : x.e = 0
      · rw [if_pos e]; simp
      · rw [if_neg e, if_neg e]
    · rfl
def tgC (T : Tgt) (vs : Nat → Value) : List Value := [.string (str T.name), .int .i64 T.kind, .int .i64 (T.line : Int), vs 0, vs 1, vs 2, vs 3, .int .i64 T.cost, .int .i64 T.retry]
theorem Rows4.off {F : Nat → Prop} {w w' : World} {base : Nat} {ls : Nat → List Itm} {vs : Nat → Value} (h : Rows4 w base ls vs) (t : Turn F w w') (hF : ∀ i, i < 4 → ∀ g, (vs i).ownBlock = some g → ¬ F g) : Rows4 w' base ls vs :=
  ⟨fun i hi => own_off (h.own i hi) t (hF i hi), h.apart⟩
/-- the target in block p, what was seen in block q, the reader at b -/
structure RG (w0 : World) (bs b p q : Nat) (A : Option Addr) (c : Nat) (l : List RTok) (W : World) (y : RTg) (vs : Nat → Value) : Prop where
  rs : RS W bs b A c l y.x
  tg : Full W p 50 (tgC y.T vs)
  sn : Full W q 128 [.bool (y.sn 0), .bool (y.sn 1), .bool (y.sn 2)]
  rows : Rows4 W w0.heap.size y.T.rows vs
  tn : Turn (fun g => g = b) w0 W
  bb : b < w0.heap.size
  pp : w0.heap.size ≤ p
  qq : w0.heap.size ≤ q
  pq : p ≠ q
  lens : y.x.e = 0 → ∀ i, i < 4 → (y.T.rows i).length ≤ y.x.at_
section
variable {w0 : World} {bs b p q : Nat} {A : Option Addr} {c : Nat} {l : List RTok} {W W' : World} {y : RTg} {vs : Nat → Value}
theorem RG.call (h : RG w0 bs b p q A c l W y vs) {x' : RSt} (r : RS W' bs b A c l x') (t : Turn (fun g => g = b) W W') (hm : x'.e = 0 → y.x.e = 0 ∧ y.x.at_ ≤ x'.at_) : RG w0 bs b p q A c l W' ⟨x', y.T, y.sn⟩ vs :=
  ⟨r, t.far h.tg (by have := h.bb; have := h.pp; omega), t.far h.sn (by have := h.bb; have := h.qq; omega), h.rows.turn t (fun g e => by rw [e]; exact h.bb), h.tn.trans_ t, h.bb, h.pp, h.qq, h.pq,
    fun e i hi => Nat.le_trans (h.lens (hm e).1 i hi) (hm e).2⟩
theorem RG.on (h : RG w0 bs b p q A c l W y vs) (hb : Below W.heap.size W W') : RG w0 bs b p q A c l W' y vs := h.call (h.rs.on hb) (Turn.of hb) (fun e => ⟨e, Nat.le_refl _⟩)
/-- a cell of the target is written that is no row -/
theorem RG.put (h : RG w0 bs b p q A c l W y vs) (i : Nat) (u : Value) {T' : Tgt} (hx : (tgC y.T vs).set i u = tgC T' vs) (hr : T'.rows = y.T.rows) : RG w0 bs b p q A c l (W.setCell ⟨p, i, none⟩ u) ⟨y.x, T', y.sn⟩ vs := by
  have t : Turn (fun g => g = p) W (W.setCell ⟨p, i, none⟩ u) := Turn.set_ (F := fun g => g = p) (a := ⟨p, i, none⟩) rfl u
  refine ⟨h.rs.keep t (by have := h.bb; have := h.pp; omega) (own_full_ne h.rs.ow h.tg (by decide)), ?_, t.far h.sn (fun e => h.pq e.symm), ?_, h.tn.late t (fun g e => .inr (by rw [e]; exact h.pp)), h.bb, h.pp, h.qq, h.pq, fun e => ?_⟩
  · show Full _ p 50 (tgC T' vs)
    rw [← hx]
    exact h.tg.set_ i u
  · show Rows4 _ _ T'.rows vs
    rw [hr]
    exact h.rows.off t (fun j hj g e => own_full_ne (h.rows.own j hj) h.tg (by decide) g e)
  · show ∀ i, i < 4 → (T'.rows i).length ≤ _
    rw [hr]
    exact h.lens e
/-- an attribute is seen -/
theorem RG.see (h : RG w0 bs b p q A c l W y vs) (i : Nat) (hi : i < 3) : RG w0 bs b p q A c l (W.setCell ⟨q, i, none⟩ (.bool true)) ⟨y.x, y.T, upd y.sn i true⟩ vs := by
  have t : Turn (fun g => g = q) W (W.setCell ⟨q, i, none⟩ (.bool true)) := Turn.set_ (F := fun g => g = q) (a := ⟨q, i, none⟩) rfl _
  refine ⟨h.rs.keep t (by have := h.bb; have := h.qq; omega) (own_full_ne h.rs.ow h.sn (by decide)), t.far h.tg (fun e => h.pq e), ?_, h.rows.off t (fun j hj g e => own_full_ne (h.rows.own j hj) h.sn (by decide) g e), h.tn.late t (fun g e => .inr (by rw [e]; exact h.qq)), h.bb, h.pp, h.qq, h.pq, h.lens⟩
  have := h.sn.set_ i (.bool true)
  obtain rfl | rfl | rfl : i = 0 ∨ i = 1 ∨ i = 2 := by omega
  all_goals exact this
/-- a row of items has grown, and is laid into the target -/
theorem RG.items (h : RG w0 bs b p q A c l W y vs) {x' : RSt} {A' : Option Addr} {n' c' : Nat} {acc : List Itm} (i : Nat) (hi : i < 4) (r : RI W bs b w0.heap.size A c l (vs i) W' x' A' n' c' acc) (hm : x'.e = 0 → y.x.e = 0 ∧ y.x.at_ ≤ x'.at_ ∧ acc.length + y.x.at_ ≤ (y.T.rows i).length + x'.at_) :
    (W'.cell? ⟨p, 3 + i, none⟩ = some (vs i) ∧ W'.frozen? ⟨p, 3 + i, none⟩ = false) ∧ RG w0 bs b p q A c l (W'.setCell ⟨p, 3 + i, none⟩ (.slice A' n' c')) ⟨x', { y.T with rows := upd y.T.rows i acc }, y.sn⟩ (upd vs i (.slice A' n' c')) := by
  have hF : ∀ g, (g = b ∨ (vs i).ownBlock = some g) → g = b ∨ w0.heap.size ≤ g := fun g e => e.imp id (fun e => row_ge (h.rows.own i hi) g e)
  have nb : ∀ j, j < 4 → ∀ g, (vs j).ownBlock = some g → g ≠ b := fun j hj g e z => by
    have := row_ge (h.rows.own j hj) g e
    have := h.bb
    omega
  have tgW : Full W' p 50 (tgC y.T vs) := r.tn.far h.tg (by
    rintro (e | e)
    · have := h.bb; have := h.pp; omega
    · exact own_full_ne (h.rows.own i hi) h.tg (by decide) p e rfl)
  have snW : Full W' q 128 [.bool (y.sn 0), .bool (y.sn 1), .bool (y.sn 2)] := r.tn.far h.sn (by
    rintro (e | e)
    · have := h.bb; have := h.qq; omega
    · exact own_full_ne (h.rows.own i hi) h.sn (by decide) q e rfl)
  have t : Turn (fun g => g = p) W' (W'.setCell ⟨p, 3 + i, none⟩ (.slice A' n' c')) := Turn.set_ (F := fun g => g = p) (a := ⟨p, 3 + i, none⟩) rfl _
  have hrow := r.row
  have hlen := r.len
  refine ⟨⟨?_, tgW.frozen _⟩, ⟨r.rs.keep t (by have := h.bb; have := h.pp; omega) (own_full_ne r.rs.ow tgW (by decide)), ?_, t.far snW (fun e => h.pq e.symm), ⟨fun j hj => ?_, fun j k hj hk hne g => ?_⟩, ?_, h.bb, h.pp, h.qq, h.pq, fun e j hj => ?_⟩⟩
  · rw [tgW.cell]
    obtain rfl | rfl | rfl | rfl : i = 0 ∨ i = 1 ∨ i = 2 ∨ i = 3 := by omega
    all_goals rfl
  · have := tgW.set_ (3 + i) (.slice A' n' c')
    obtain rfl | rfl | rfl | rfl : i = 0 ∨ i = 1 ∨ i = 2 ∨ i = 3 := by omega
    all_goals exact this
  · show World.ownsRow _ _ 52 4 (upd vs i (.slice A' n' c') j) (upd y.T.rows i acc j).length (itmsC (upd y.T.rows i acc j))
    unfold upd
    by_cases e : j = i
    · rw [if_pos e, if_pos e, ← hlen]
      exact own_off hrow t (own_full_ne hrow tgW (by decide))
    · rw [if_neg e, if_neg e]
      have hj' := own_off (h.rows.own j hj) r.tn (fun g e1 => by
        rintro (e2 | e2)
        · exact nb j hj g e1 e2
        · exact h.rows.apart j i hj hi e g e1 e2)
      exact own_off hj' t (own_full_ne hj' tgW (by decide))
  · have lt : ∀ j, j < 4 → ∀ g, (vs j).ownBlock = some g → g < W.heap.size := fun j hj g e => ((h.rows.own j hj).lt g e).2
    show (upd vs i (.slice A' n' c') j).ownBlock = some g → (upd vs i (.slice A' n' c') k).ownBlock ≠ some g
    unfold upd
    by_cases e : j = i
    · rw [if_pos e, if_neg (fun e' => hne (e.trans e'.symm))]
      intro z z'
      rcases r.at_ g z with q2 | q2
      · exact h.rows.apart i k hi hk (fun e' => hne (e.trans e')) g q2 z'
      · have := lt k hk g z'; omega
    · rw [if_neg e]
      by_cases e' : k = i
      · rw [if_pos e']
        intro z z'
        rcases r.at_ g z' with q2 | q2
        · exact h.rows.apart i j hi hj (fun e2 => e e2.symm) g q2 z
        · have := lt j hj g z; omega
      · rw [if_neg e']
        exact h.rows.apart j k hj hk hne g
  · refine (h.tn.late r.tn fun g e => hF g e).late t fun g e => .inr (by rw [e]; exact h.pp)
  · obtain ⟨e1, e3, e2⟩ := hm e
    show (upd y.T.rows i acc j).length ≤ x'.at_
    unfold upd
    have := h.lens e1 j hj
    have li := h.lens e1 i hi
    by_cases ej : j = i
    · rw [if_pos ej]; omega
    · rw [if_neg ej]; omega
end
end Go.Proofs.YtcjoiiaankngjaaGreatDoor
/- Both parsers: numbers, kinds, items. -/
namespace Go.Proofs.YtcjoiiaankngjaaGreatDoor
set_option maxRecDepth 100000
open Go.RowKit
theorem sim_number {l : List RTok} {x : RSt} {σ : Pst} (h : Sim l x σ) {lo hi : Int} (hh : hi < 1000000) :
    Sim l (rNumber lo hi l x).2 (pExpect [59] (pNum lo hi σ).2) ∧ (isOk (pExpect [59] (pNum lo hi σ).2) = true → (rNumber lo hi l x).1.1 = (pNum lo hi σ).1 ∧ (rNumber lo hi l x).1.2 = pLn σ ∧ lo ≤ (pNum lo hi σ).1) := by
  obtain ⟨a1, a2, a3, a4⟩ := sim_any h 3 (by decide) (by decide)
  have hK : kindOf 3 = 2 := rfl
  rw [hK] at a1 a2 a3
  have hpl : isOk (pAny 3 σ).2 = true → (pAny 3 σ).1.ln = pLn σ := by
    intro z
    cases σ with
    | bad e ln => cases z
    | ok ts =>
      cases ts with
      | nil => exact h.ne.elim
      | cons t r =>
        rw [pAny] at z ⊢
        split at z
        · rename_i q; rw [if_pos q]; rfl
        · cases z
  have key : Sim l (rNum1 lo hi l x) (pNum lo hi σ).2 ∧ (isOk (pNum lo hi σ).2 = true → isOk (pAny 3 σ).2 = true ∧ rVal (rAny 2 l x).1.tx = (pNum lo hi σ).1 ∧ lo ≤ (pNum lo hi σ).1) := by
    unfold rNum1 pNum
    dsimp only
    by_cases ho : isOk (pAny 3 σ).2 = true
    · obtain ⟨b1, b2⟩ := a4 ho
      have e0 : (rAny 2 l x).2.e = 0 := a3.okE.mpr ho
      have htx : (convT (pAny 3 σ).1).tx = (pAny 3 σ).1.txt := by unfold convT; dsimp only; rw [if_neg (by omega)]
      rw [htx] at a1
      obtain ⟨c1, c2⟩ := atoi_num b2 b1 (lo := lo) hh
      rw [a1, a2]
      by_cases hr : rVal (pAny 3 σ).1.txt < lo ∨ hi < rVal (pAny 3 σ).1.txt
      · have hb : (decide (rVal (pAny 3 σ).1.txt < lo) || decide (hi < rVal (pAny 3 σ).1.txt)) = true := by simpa using hr
        rw [hb] at c1
        rw [if_pos ⟨e0, hr⟩, c1, if_neg (by decide)]
        exact ⟨sim_fail a3 41 (by decide) _, fun z => by rw [pFail_ok] at z; cases z⟩
      · have hb : (decide (rVal (pAny 3 σ).1.txt < lo) || decide (hi < rVal (pAny 3 σ).1.txt)) = false := by simpa using hr
        rw [hb] at c1
        rw [if_neg (fun z => hr z.2), c1, if_pos (by decide)]
        refine ⟨a3, fun _ => ⟨ho, ?_⟩⟩
        have c3 := c2 c1
        rw [c3]
        exact ⟨rfl, by omega⟩
    · have e0 : ¬ (rAny 2 l x).2.e = 0 := fun z => ho (a3.okE.mp z)
      rw [if_neg (fun z => e0 z.1)]
      have hbad : ∃ e n, (pAny 3 σ).2 = .bad e n := by
        cases hq : (pAny 3 σ).2 with
        | ok ts => rw [hq] at ho; exact absurd rfl ho
        | bad e n => exact ⟨e, n, rfl⟩
      obtain ⟨e, n, hq⟩ := hbad
      rw [hq] at a3 ⊢
      split
      · exact ⟨a3, fun z => by cases z⟩
      · exact ⟨a3, fun z => by cases z⟩
  unfold rNumber
  refine ⟨sim_need key.1 5 [59] (.inr rfl) rfl, fun z => ?_⟩
  obtain ⟨k1, k2, k3⟩ := key.2 (pExpect_ok z)
  dsimp only
  exact ⟨k2, by rw [a2]; exact hpl k1, k3⟩
theorem kw_firstT {k : Nat} (h1 : 1 ≤ k) (h4 : k ≤ 4) : first (kw k) = (2, (kw k).length) := by
  obtain rfl | rfl | rfl | rfl : k = 1 ∨ k = 2 ∨ k = 3 ∨ k = 4 := by omega
  all_goals decide
theorem sim_kinds {l : List RTok} {x : RSt} : ∀ (f : Nat) (r : Pst × Tgt), f ≤ 4 → Sim l x r.1 → Sim l (rKinds f l x).2 (pKinds f r).1 ∧ (isOk (pKinds f r).1 = true → (pKinds f r).2 = { r.2 with kind := (rKinds f l x).1 })
  | 0, r, _, h => by
    rw [rKinds, pKinds]
    exact ⟨sim_refuse h, fun z => by rw [pRefuse_ok] at z; cases z⟩
  | f + 1, r, hf, h => by
    obtain ⟨t1, t2⟩ := sim_take h 2 (kw (4 - f)) (.inl rfl) (kw_firstT (by omega) (by omega))
    have hK : kindOf 2 = 1 := rfl
    rw [hK] at t1 t2
    rw [rKinds, pKinds, t1]
    cases hb : (pTake (kw (4 - f)) r.1).1 with
    | true =>
      rw [if_pos rfl, if_pos rfl]
      exact ⟨sim_need t2 5 [59] (.inr rfl) rfl, fun _ => rfl⟩
    | false =>
      rw [if_neg (by decide), if_neg (by decide)]
      exact sim_kinds f r (by omega) h
/-! items -/
def elG (gl : Bool) : Pst → Itm × Pst := if gl then pSource else pText
theorem elG_le (gl : Bool) (σ : Pst) : plen (elG gl σ).2 ≤ plen σ := by
  cases gl
  · exact pText_le σ
  · exact pSource_le σ
theorem elG_ok {gl : Bool} {σ : Pst} (h : isOk (elG gl σ).2 = true) : isOk σ = true := by
  cases σ with
  | ok ts => rfl
  | bad e ln => cases gl <;> cases h
theorem sim_text {l : List RTok} {x : RSt} {σ : Pst} (h : Sim l x σ) : Sim l (rAny 3 l x).2 (pText σ).2 ∧ (isOk (pText σ).2 = true → (rAny 3 l x).1.tx = (pText σ).1.tx ∧ (rAny 3 l x).1.ln = (pText σ).1.ln) := by
  obtain ⟨a1, a2, a3, a4⟩ := sim_any h 4 (by decide) (by decide)
  refine ⟨a3, fun z => ?_⟩
  obtain ⟨b1, b2⟩ := a4 z
  refine ⟨?_, a2⟩
  rw [show rAny 3 l x = rAny (kindOf 4) l x from rfl, a1]
  exact (text_tok b2 b1).symm
theorem sim_one {l : List RTok} {x : RSt} {σ : Pst} (h : Sim l x σ) (gl : Bool) (pl : List UInt8) : Sim l (rOne gl pl l x).2 (elG gl σ).2 ∧ (isOk (elG gl σ).2 = true → (rOne gl pl l x).1 = setPl pl (elG gl σ).1) := by
  cases gl with
  | false =>
    obtain ⟨a1, a2⟩ := sim_text h
    refine ⟨a1, fun z => ?_⟩
    obtain ⟨b1, b2⟩ := a2 z
    show (⟨(rAny 3 l x).1.tx, false, pl, (rAny 3 l x).1.ln⟩ : Itm) = _
    rw [b1, b2]
    rfl
  | true =>
    obtain ⟨t1, t2⟩ := sim_take h 2 globS (.inl rfl) (by decide)
    have hK : kindOf 2 = 1 := rfl
    rw [hK] at t1 t2
    show Sim l (rOne true pl l x).2 (pSource σ).2 ∧ (isOk (pSource σ).2 = true → (rOne true pl l x).1 = setPl pl (pSource σ).1)
    unfold rOne rGate pSource
    rw [if_pos rfl, t1]
    cases hb : (pTake globS σ).1 with
    | true =>
      rw [if_pos rfl]
      have n1 := sim_need t2 5 [40] (.inr rfl) rfl
      obtain ⟨a1, a2⟩ := sim_text n1
      have n2 := sim_need a1 5 [41] (.inr rfl) rfl
      unfold rSh
      rw [if_pos rfl, if_pos rfl]
      refine ⟨n2, fun z => ?_⟩
      obtain ⟨b1, b2⟩ := a2 (pExpect_ok z)
      have hK5 : kindOf 5 = 4 := rfl
      rw [hK5] at b1 b2
      rw [b1, b2]
      rfl
    | false =>
      rw [if_neg (by decide)]
      obtain ⟨a1, a2⟩ := sim_text t2
      unfold rSh
      rw [if_neg (by decide), if_neg (by decide)]
      refine ⟨a1, fun z => ?_⟩
      obtain ⟨b1, b2⟩ := a2 z
      rw [b1, b2]
      rfl
theorem sim_more {l : List RTok} (gl : Bool) (pl : List UInt8) : ∀ (f f' : Nat) (a : List Itm) (x : RSt) (σ : Pst), Sim l x σ → isOk σ = true → plen σ < f → plen (elG gl σ).2 < f' →
    Sim l (rMore gl pl l f a x).2 (pMore (elG gl) (pTake [44]) f' (elG gl σ).2).2 ∧ (isOk (pMore (elG gl) (pTake [44]) f' (elG gl σ).2).2 = true → (rMore gl pl l f a x).1 = a ++ ((elG gl σ).1 :: (pMore (elG gl) (pTake [44]) f' (elG gl σ).2).1).map (setPl pl))
  | 0, _, _, _, _, _, _, hf, _ => absurd hf (Nat.not_lt_zero _)
  | f + 1, 0, _, _, _, _, _, _, hf' => absurd hf' (Nat.not_lt_zero _)
  | f + 1, f' + 1, a, x, σ, h, ho, hf, hf' => by
    obtain ⟨o1, o2⟩ := sim_one h gl pl
    obtain ⟨t1, t2⟩ := sim_take o1 5 [44] (.inr rfl) rfl
    have hK5 : kindOf 5 = 4 := rfl
    rw [hK5] at t1 t2
    rw [rMore, if_pos (h.okE.mpr ho), pMore, t1]
    have hle := elG_le gl σ
    cases hb : (pTake [44] (elG gl σ).2).1 with
    | true =>
      rw [if_pos rfl, if_pos rfl]
      have hlt := pTake_less [44] _ hb
      have hok2 : isOk (pTake [44] (elG gl σ).2).2 = true ∧ isOk (elG gl σ).2 = true := by
        cases hq : (elG gl σ).2 with
        | bad e n => rw [hq] at hb; cases hb
        | ok ts =>
          cases ts with
          | nil => rw [hq] at hb; cases hb
          | cons t r =>
            rw [hq] at hb
            rw [pTake] at hb ⊢
            split at hb
            · rename_i q; rw [if_pos q]; exact ⟨rfl, rfl⟩
            · cases hb
      have hle2 := elG_le gl (pTake [44] (elG gl σ).2).2
      obtain ⟨i1, i2⟩ := sim_more gl pl f f' (a ++ [(rOne gl pl l x).1]) _ _ t2 hok2.1 (by omega) (by omega)
      refine ⟨i1, fun z => ?_⟩
      rw [i2 z, o2 hok2.2]
      simp
    | false =>
      rw [if_neg (by decide), if_neg (by decide)]
      refine ⟨t2, fun z => ?_⟩
      rw [o2 (pTake_ok z)]
      simp
def plsG (gl : Bool) : Pst → List Itm × Pst := if gl then pSources else pTexts
theorem plsG_eq (gl : Bool) (σ : Pst) : plsG gl σ = pList (elG gl) (pTake [44]) (pExpect [59]) plen σ := by cases gl <;> rfl
def pLs (lim gl : Bool) : Pst → List Itm × Pst := if lim then pLimited (plsG gl) else plsG gl
theorem Sim.plen_le {l : List RTok} {x : RSt} {σ : Pst} (h : Sim l x σ) : plen σ ≤ l.length := by
  cases σ with
  | bad e n => exact Nat.zero_le _
  | ok ts =>
    have := congrArg List.length h.2.2
    rw [List.length_drop, List.length_map] at this
    show ts.length ≤ _
    omega
theorem rMore_off {l : List RTok} {gl : Bool} {pl : List UInt8} {a : List Itm} {x : RSt} (h : x.e ≠ 0) : ∀ f, rMore gl pl l f a x = (a, x)
  | 0 => rfl
  | f + 1 => by rw [rMore, if_neg h]
theorem rNeed_off {l : List RTok} {kd : Int} {w : List UInt8} {x : RSt} (h : x.e ≠ 0) : rNeed kd w l x = x := by
  have : rTake kd w l x = (false, x) := by unfold rTake rIs; rw [if_neg (by simp [h])]
  unfold rNeed
  rw [this, if_neg Bool.false_ne_true]
  unfold rFail
  rw [if_neg h]
theorem pMore_bad {S : Type} {el : S → Itm × S} {tk : S → Bool × S} {σ : S} (h : tk σ = (false, σ)) : ∀ f, pMore el tk f σ = ([], σ)
  | 0 => rfl
  | f + 1 => by rw [pMore, h, if_neg Bool.false_ne_true]
theorem plsG_bad (gl : Bool) (e n : Int) : (plsG gl (.bad e n)).2 = .bad e n := by
  rw [plsG_eq]
  unfold pList
  have h1 : (elG gl (.bad e n)).2 = .bad e n := by cases gl <;> rfl
  rw [h1, pMore_bad (tk := pTake [44]) (σ := .bad e n) rfl]
  rfl
theorem rAny_off {l : List RTok} {kd : Int} {x : RSt} (h : x.e ≠ 0) : rAny kd l x = (rt0, x) := by
  unfold rAny
  rw [if_neg (fun z => h z.1)]
  unfold rFail
  rw [if_neg h]
theorem rIs_off {kd : Int} {w : List UInt8} {t : RTok} {e : Int} (h : e ≠ 0) : rIs kd w t e = false := by unfold rIs; simp [h]
theorem rPlatform_off {l : List RTok} {x : RSt} (h : x.e ≠ 0) : rPlatform l x = (rt0, x) := by
  unfold rPlatform rPlGate
  rw [rIs_off h, if_neg (by decide), rAny_off h]
/-- a platform's word, or an error -/
theorem sim_plat {l : List RTok} {x : RSt} {t : Tok} {r : List Tok} (h : Sim l x (.ok (t :: r))) :
    (pAheadP (.ok (t :: r)) = true → rPlatform l x = (convT t, ⟨x.at_ + 1, x.e, x.ln⟩) ∧ (convT t).tx = t.txt ∧ (hdT l x.at_).kd = 1 ∧ (hdT l x.at_).tx ≠ globS ∧ Sim l ⟨x.at_ + 1, x.e, x.ln⟩ (.ok r)) ∧
    (pAheadP (.ok (t :: r)) = false → Sim l (rPlatform l x).2 (.bad 40 (t.ln : Int)) ∧ ((hdT l x.at_).kd = 1 → (hdT l x.at_).tx = globS)) := by
  have hk := h.tok
  have he : x.e = 0 := h.1
  have hd := h.hd
  have kd1 : (convT t).kd = 1 ↔ t.cls = 2 := ⟨fun z => kindOf_inj hk.cls (by decide) z, fun z => by show kindOf t.cls = 1; rw [z]; rfl⟩
  have htx : t.cls = 2 → (convT t).tx = t.txt := fun z => by unfold convT; dsimp only; rw [if_neg (by omega)]
  constructor
  · intro z
    replace z : (decide (t.cls = 2) && !(t.txt == globS)) = true := z
    simp only [Bool.and_eq_true, decide_eq_true_eq, Bool.not_eq_true', beq_eq_false_iff_ne] at z
    have e1 : rIs 1 globS (convT t) x.e = false := by
      unfold rIs
      rw [htx z.1]
      have : (t.txt == globS) = false := beq_eq_false_iff_ne.mpr z.2
      rw [this, Bool.and_false]
    have e2 : rPlatform l x = (convT t, ⟨x.at_ + 1, x.e, x.ln⟩) := by
      unfold rPlatform rPlGate
      rw [hd, e1, if_neg (by decide)]
      unfold rAny
      rw [hd, if_pos ⟨he, kd1.mpr z.1⟩]
    exact ⟨e2, htx z.1, by rw [hd]; exact kd1.mpr z.1, by rw [hd, htx z.1]; exact z.2, h.nx (by omega)⟩
  · intro z
    have hbad : Sim l (rFail 40 ((hdT l x.at_).ln : Int) x) (.bad 40 (t.ln : Int)) := sim_refuse h
    have hfe : rFail 40 ((hdT l x.at_).ln : Int) x = ⟨x.at_, 40, ((hdT l x.at_).ln : Int)⟩ := by unfold rFail; rw [if_pos he]
    by_cases hc : t.cls = 2
    · have hg : t.txt = globS := by
        replace z : (decide (t.cls = 2) && !(t.txt == globS)) = false := z
        rw [decide_eq_true hc, Bool.true_and, Bool.not_eq_false'] at z
        exact beq_iff_eq.mp z
      have e1 : rIs 1 globS (convT t) x.e = true := by
        unfold rIs
        rw [htx hc, hg, he, kd1.mpr hc]
        decide
      refine ⟨?_, fun _ => by rw [hd, htx hc, hg]⟩
      unfold rPlatform rPlGate
      rw [hd, e1, if_pos rfl]
      rw [hd] at hbad hfe
      rw [hfe] at hbad ⊢
      rw [rAny_off (by show (40 : Int) ≠ 0; decide)]
      exact hbad
    · have hk1 : ¬ (convT t).kd = 1 := fun q => hc (kd1.mp q)
      refine ⟨?_, fun q => absurd (by rwa [hd] at q) hk1⟩
      have e1 : rIs 1 globS (convT t) x.e = false := by
        unfold rIs
        have : ((convT t).kd == 1) = false := by simpa using hk1
        rw [this, Bool.and_false, Bool.false_and]
      unfold rPlatform rPlGate
      rw [hd, e1, if_neg (by decide)]
      unfold rAny
      rw [if_neg (fun q => hk1 (by rw [hd] at q; exact q.2))]
      exact hbad
theorem pls_body {l : List RTok} (gl : Bool) (pl : List UInt8) (a : List Itm) {x : RSt} {σ : Pst} (h : Sim l x σ) :
    Sim l (rNeed 4 [59] l (rMore gl pl l (l.length + 1) a x).2) (plsG gl σ).2 ∧ (isOk (plsG gl σ).2 = true → (rMore gl pl l (l.length + 1) a x).1 = a ++ (plsG gl σ).1.map (setPl pl)) := by
  cases hσ : isOk σ with
  | false =>
    cases σ with
    | ok ts => cases hσ
    | bad e n =>
      have he : x.e ≠ 0 := by rw [h.2.1]; exact h.1
      rw [rMore_off he, rNeed_off he, plsG_bad]
      exact ⟨h, fun z => by cases z⟩
  | true =>
    have hlen := h.plen_le
    obtain ⟨m1, m2⟩ := sim_more gl pl (l.length + 1) (plen (elG gl σ).2 + 1) a x σ h hσ (by omega) (by omega)
    rw [plsG_eq]
    unfold pList
    dsimp only
    exact ⟨sim_need m1 5 [59] (.inr rfl) rfl, fun z => m2 (pExpect_ok z)⟩
theorem setPl_id {i : Itm} (h : i.pl = []) : setPl [] i = i := by
  obtain ⟨a, b, c, d⟩ := i
  dsimp only at h
  rw [h]
  rfl
theorem elG_pl (gl : Bool) (σ : Pst) : (elG gl σ).1.pl = [] := by
  cases gl with
  | false => rfl
  | true =>
    show (pSource σ).1.pl = []
    unfold pSource
    split <;> rfl
theorem setPl_more {gl : Bool} : ∀ (f : Nat) (σ : Pst), (pMore (elG gl) (pTake [44]) f σ).1.map (setPl []) = (pMore (elG gl) (pTake [44]) f σ).1
  | 0, _ => rfl
  | f + 1, σ => by
    rw [pMore]
    split
    · rw [List.map_cons, setPl_more f, setPl_id (elG_pl gl _)]
    · rfl
theorem setPl_nil {gl : Bool} {σ : Pst} : (plsG gl σ).1.map (setPl []) = (plsG gl σ).1 := by
  rw [plsG_eq]
  unfold pList
  rw [List.map_cons, setPl_more, setPl_id (elG_pl gl _)]
theorem sim_items {l : List RTok} (lim gl : Bool) (a : List Itm) {x : RSt} {σ : Pst} (h : Sim l x σ) :
    Sim l (rItems lim gl l a x).2 (pLs lim gl σ).2 ∧ (isOk (pLs lim gl σ).2 = true → (rItems lim gl l a x).1 = a ++ (pLs lim gl σ).1) := by
  unfold rItems
  dsimp only
  cases lim with
  | false =>
    have e : rLim false gl l x = ([], x) := by unfold rLim; rw [if_neg (fun z => by cases z.1)]
    rw [e]
    obtain ⟨b1, b2⟩ := pls_body gl [] a h
    show Sim l _ (plsG gl σ).2 ∧ (isOk (plsG gl σ).2 = true → _ = a ++ (plsG gl σ).1)
    rw [setPl_nil] at b2
    exact ⟨b1, b2⟩
  | true =>
    show Sim l _ (pLimited (plsG gl) σ).2 ∧ (isOk (pLimited (plsG gl) σ).2 = true → _ = a ++ (pLimited (plsG gl) σ).1)
    unfold pLimited
    dsimp only
    cases σ with
    | bad e n =>
      have he : x.e ≠ 0 := by rw [h.2.1]; exact h.1
      have e2 : (rLim true gl l x).2 = x := by
        unfold rLim
        split
        · rw [rPlatform_off he]
        · rfl
      rw [e2, rMore_off he, rNeed_off he]
      show Sim l x (plsG gl (.bad e n)).2 ∧ (isOk (plsG gl (.bad e n)).2 = true → _)
      rw [plsG_bad]
      exact ⟨h, fun z => by cases z⟩
    | ok ts =>
      cases ts with
      | nil => exact h.ne.elim
      | cons t r =>
        obtain ⟨s1, s2⟩ := sim_plat h
        cases hp : pAheadP (.ok (t :: r)) with
        | true =>
          obtain ⟨q1, q2, q3, q4, q5⟩ := s1 hp
          have e : rLim true gl l x = (t.txt, ⟨x.at_ + 1, x.e, x.ln⟩) := by
            unfold rLim
            rw [if_pos ⟨rfl, q3, .inr q4⟩, q1]
            dsimp only
            rw [q2]
          have e' : pPlat (.ok (t :: r)) = (t.txt, .ok r) := by rw [pPlat, if_pos hp]
          rw [e, e']
          exact pls_body gl t.txt a q5
        | false =>
          obtain ⟨q1, q2⟩ := s2 hp
          have e' : pPlat (.ok (t :: r)) = ([], .ok (t :: r)) := by rw [pPlat, if_neg (by rw [hp]; decide)]
          rw [e']
          dsimp only
          by_cases hc : (hdT l x.at_).kd = 1 ∧ gl = false
          · obtain ⟨hc1, rfl⟩ := hc
            have e : rLim true false l x = ((rPlatform l x).1.tx, (rPlatform l x).2) := by
              unfold rLim
              rw [if_pos ⟨rfl, hc1, .inl rfl⟩]
            have he : (rPlatform l x).2.e ≠ 0 := by rw [q1.2.1]; decide
            rw [e]
            dsimp only
            rw [rMore_off he, rNeed_off he]
            have hcls : t.cls = 2 := by
              rw [h.hd] at hc1
              exact kindOf_inj h.tok.cls (by decide) hc1
            have hp2 : (plsG false (.ok (t :: r))).2 = .bad 40 (t.ln : Int) := by
              rw [plsG_eq]
              unfold pList
              have h1 : (elG false (.ok (t :: r))).2 = .bad 40 (t.ln : Int) := by
                show (pAny 4 (.ok (t :: r))).2 = _
                rw [pAny, if_neg (by omega)]
              rw [h1, pMore_bad (tk := pTake [44]) (σ := .bad 40 (t.ln : Int)) rfl]
              rfl
            rw [hp2]
            exact ⟨q1, fun z => by cases z⟩
          · have e : rLim true gl l x = ([], x) := by
              unfold rLim
              rw [if_neg]
              rintro ⟨_, z1, z2⟩
              rcases z2 with z2 | z2
              · exact hc ⟨z1, z2⟩
              · exact z2 (q2 z1)
            rw [e]
            exact pls_body gl [] a h
end Go.Proofs.YtcjoiiaankngjaaGreatDoor
