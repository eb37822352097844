/- SyntaxNumbers is proved: a cost from 1 to 1000, a retry from 0 to 5, each attribute once, in any order. For every input; the package's variables are what the card lists. -/
import Derived.Test.YtcjoiiaankngjaaGreatDoorM6
import Derived.ChangeShapes
import Derived.Deep.DeepHandedRow
import Derived.Test.YtcjoiiaankngjaaGreatDoorTie
namespace Go.Proofs.YtcjoiiaankngjaaGreatDoor.lnum
set_option maxRecDepth 100000
open Go.RowKit Go.ChangeShapes Go.WideShapes
theorem bd_u16 {n : Int} (h : (Lit.int .u16 n).wf = true) : 0 ≤ n ∧ n ≤ 65535 := by
  simp [Lit.wf, IntKind.min, IntKind.max, IntKind.signed, IntKind.bits] at h
  omega
theorem bd_i64 {n : Int} (h : (Lit.int .i64 n).wf = true) : -9223372036854775808 ≤ n ∧ n ≤ 9223372036854775807 := by
  simp [Lit.wf, IntKind.min, IntKind.max, IntKind.signed, IntKind.bits] at h
  omega
theorem open_pair16 {H : Type} {enc : TypeId × Value → H} {W : World} {b1 b2 : Nat} {sp : Nat → Bool} {held : Bool} {v : Value} {d : DataW H} {p : List MemPlace}
    (hval : Value.okWide Tryz.prog W .any b1 56 v) (h : DataW.Trod enc Tryz.prog W b2 sp held 56 v d p) :
    ∃ a b : Nat, v = .agg #[.int .u16 (a : Int), .int .u16 (b : Int)] ∧ a ≤ 65535 ∧ b ≤ 65535 := by
  have hc52 : Tryz.prog.cellsOf 56 = 2 := by kernel_rfl
  have hc5 : Tryz.prog.cellsOf 55 = 1 := by kernel_rfl
  simp only [Value.okWide, Tryz.underlying56] at hval
  obtain ⟨cs, rfl, hsz, _⟩ := hval
  obtain ⟨c0, c1, rfl⟩ := Joins.array2 (hsz.trans hc52)
  obtain ⟨fuel, hf⟩ := h
  obtain ⟨xs, m, rfl, _, _, hxl, hat⟩ := DataW.trod_array Tryz.underlying56 hf
  rw [hc5] at hat
  have h0 := hat 0 (by omega)
  have h1 := hat 1 (by omega)
  rw [List.getElem?_eq_getElem (by omega)] at h0 h1
  obtain ⟨a, ea, _, wa⟩ := DataW.trod_int (k := .u16) Tryz.underlying55 h0
  obtain ⟨b, eb, _, wb⟩ := DataW.trod_int (k := .u16) Tryz.underlying55 h1
  have ea' : c0 = .int .u16 a := by simpa [Value.cells] using ea
  have eb' : c1 = .int .u16 b := by simpa [Value.cells] using eb
  subst ea' eb'
  have h1 := bd_u16 wa
  have h2 := bd_u16 wb
  obtain ⟨a', rfl⟩ := Int.eq_ofNat_of_zero_le h1.1
  obtain ⟨b', rfl⟩ := Int.eq_ofNat_of_zero_le h2.1
  exact ⟨a', b', rfl, by omega, by omega⟩
theorem asc_dig {l : List UInt8} (h : ∀ b ∈ l, isDig b = true) : Asc l := fun b hb => by
  have := h b hb
  unfold isDig at this
  simp only [Bool.and_eq_true, decide_eq_true_eq] at this
  omega
theorem asc_app {a b : List UInt8} (h1 : Asc a) (h2 : Asc b) : Asc (a ++ b) := fun x hx => (List.mem_append.mp hx).elim (h1 x) (h2 x)
theorem asc_of {l : List UInt8} (h : l.all (fun b => decide (b.toNat < 128)) = true) : Asc l := fun b hb => of_decide_eq_true (List.all_eq_true.mp h b hb)
theorem kw_asc (k : Nat) : Asc (kw k) ∧ (kw k).length ≤ 4 := by
  unfold kw
  split <;> exact ⟨asc_of (by decide), by decide⟩
theorem aAt_asc (k c r i : Nat) : Asc (aAt k c r i) ∧ (aAt k c r i).length ≤ 100 := by
  unfold aAt
  split
  · unfold aKind
    refine ⟨asc_app (asc_app (asc_of (by decide)) (kw_asc _).1) (asc_of (by decide)), ?_⟩
    have := (kw_asc (k + 1)).2
    simp only [List.length_append, List.length_cons, List.length_nil]
    omega
  · unfold aCost
    refine ⟨asc_app (asc_app (asc_of (by decide)) (asc_dig (digL_dig 18 c))) (asc_of (by decide)), ?_⟩
    have := (digL_lenT 18 c).2
    simp only [List.length_append, List.length_cons, List.length_nil]
    omega
  · unfold aRetry
    refine ⟨asc_app (asc_app (asc_of (by decide)) (asc_dig (digL_dig 18 r))) (asc_of (by decide)), ?_⟩
    have := (digL_lenT 18 r).2
    simp only [List.length_append, List.length_cons, List.length_nil]
    omega
theorem wrap_small {x : Int} (h : -9223372036854775808 ≤ x ∧ x ≤ 9223372036854775807) : IntKind.i64.wrap x = x := by
  simp [IntKind.wrap, IntKind.bits, IntKind.signed]; omega
theorem wrap_u16 {x : Nat} (h : x ≤ 65535) : IntKind.u16.wrap (x : Int) = (x : Int) := by
  simp [IntKind.wrap, IntKind.bits, IntKind.signed]; omega
theorem tdiv3 {x : Int} (h : -9223372036854775808 ≤ x ∧ x ≤ 9223372036854775807) : -9223372036854775808 ≤ x.tdiv 3 ∧ x.tdiv 3 ≤ 9223372036854775807 := by
  rcases Int.le_total 0 x with h0 | h0
  · rw [Int.tdiv_eq_ediv_of_nonneg h0]; omega
  · have : x.tdiv 3 = -((-x).tdiv 3) := by rw [Int.neg_tdiv, Int.neg_neg]
    rw [this, Int.tdiv_eq_ediv_of_nonneg (by omega)]; omega
theorem tmod_nat (a m : Nat) : (a : Int).tmod (m : Int) = ((a % m : Nat) : Int) := by rw [Int.ofNat_tmod]
set_option maxHeartbeats 32000000 in
theorem walk (na nb : Nat) (kx ox : Int) {w : World} (hL : Laid w) (hI : Ito w) (ha : na ≤ 65535) (hb : nb ≤ 65535) (hox : -9223372036854775808 ≤ ox ∧ ox ≤ 9223372036854775807) :
    Calls Tryz.prog 10 #[.agg #[.int .u16 (na : Int), .int .u16 (nb : Int)], .int .i64 kx, .int .i64 ox] w (BoolB w true) := by
  unfold BoolB
  obtain ⟨w1, hw1⟩ : ∃ v, w.alloc (.cells #[.int .u16 (na : Int), .int .u16 (nb : Int)] 56) = v := ⟨_, rfl⟩
  have hb1 : Below w.heap.size w w1 := by rw [← hw1]; exact (Below.refl _ w).alloc (Nat.le_refl _) _
  have F1 : Full w1 w.heap.size 56 [.int .u16 (na : Int), .int .u16 (nb : Int)] := by rw [← hw1]; exact Full.new w 56 _
  obtain ⟨g0, hg0⟩ : ∃ g, w.heap.size = g := ⟨_, rfl⟩
  have HL := Lib.hid hL
  have HI := Lib.hid hI
  have HB1 := Lib.hid hb1
  have h9 := hL.size
  have HSN := Lib.hid (sanity_any (hL.on hb1) (hI.below hb1 h9))
  unfold BoolB at HSN
  rw [hg0] at F1
  have HF1 := Lib.hid F1
  have HG0 := Lib.hid hg0
  clear F1 hb1 hL hI
  go_enter Tryz.func10, Tryz.ntmps10
  go_upto_region 2 with (first
    | (go_at_call 13; ((with_reducible refine HSN.out.mono ?_); rintro en w2 ⟨rfl, hb2⟩; (have F2 := HF1.out.on hb2); (have HW2 := Lib.hid (And.intro F2 (HB1.out.trans (hb2.mono HB1.out.size)))); (have x0 := F2.cell 0); (have x1 := F2.cell 1); clear hb2 F2))
    | (fail "arm"))
  dsimp only [List.getElem?_cons_zero, List.getElem?_cons_succ] at x0 x1
  clear hg0 hw1
  go_upto_region 4 with fail
  have hcc : ((na : Int) % 1100) = ((na % 1100 : Nat) : Int) := by omega
  have hrr : ((nb : Int) % 9) = ((nb % 9 : Nat) : Int) := by omega
  have hc9 : na % 1100 < 1100 := by omega
  have hr9 : nb % 9 < 9 := by omega
  obtain ⟨c, hc⟩ : ∃ c, na % 1100 = c := ⟨_, rfl⟩
  obtain ⟨r, hr⟩ : ∃ r, nb % 9 = r := ⟨_, rfl⟩
  rw [hc] at hcc hc9
  rw [hr] at hrr hr9
  rw [hcc, hrr]
  clear hc hr hcc hrr ha hb x0 x1
  go_upto_region 5 with fail
  obtain ⟨w3, hw3⟩ : ∃ v, w2.alloc (.cells #[.string ⟨#[108, 105, 98]⟩, .string ⟨#[98, 105, 110]⟩, .string ⟨#[116, 101, 115, 116]⟩, .string ⟨#[103, 101, 110]⟩] 9) = v := ⟨_, rfl⟩
  have hb3 : Below w2.heap.size w2 w3 := by rw [← hw3]; exact (Below.refl _ w2).alloc (Nat.le_refl _) _
  have F3 : Full w3 w2.heap.size 9 [.string ⟨#[108, 105, 98]⟩, .string ⟨#[98, 105, 110]⟩, .string ⟨#[116, 101, 115, 116]⟩, .string ⟨#[103, 101, 110]⟩] := by rw [← hw3]; exact Full.new w2 9 _
  obtain ⟨gk, hgk⟩ : ∃ g, w2.heap.size = g := ⟨_, rfl⟩
  rw [hgk] at F3
  have HW3 := Lib.hid (And.intro F3 (HW2.out.2.trans (hb3.mono HW2.out.2.size)))
  rw [hw3, hgk]
  clear hw3 hgk hb3 F3
  have HM4 := Lib.hid (fun W => (by exact mod_any kx 4 W (by decide) (by decide) : Calls Tryz.prog 19 #[.int .i64 kx, .int .i64 4] W fun e w' => e = .returned (.int .i64 (modN kx 4 : Int)) ∧ W = w'))
  have hk4 := modN_lt (x := kx) (m := 4) (by decide)
  obtain ⟨k, hk⟩ : ∃ k, modN kx 4 = k := ⟨_, rfl⟩
  rw [hk] at HM4 hk4
  clear hk
  go_upto_region 6 with (first
    | (go_at_call 19; ((with_reducible refine (HM4.out _).mono ?_); rintro en w4 ⟨rfl, rfl⟩))
    | (fail "arm"))
  obtain ⟨K, hK⟩ : ∃ K, str (kw (k + 1)) = K := ⟨_, rfl⟩
  obtain ⟨Dc, hDc⟩ : ∃ K, str (digL 18 c) = K := ⟨_, rfl⟩
  obtain ⟨Dr, hDr⟩ : ∃ K, str (digL 18 r) = K := ⟨_, rfl⟩
  have sK : K.size ≤ 4 := by rw [← hK, str_size]; exact (kw_asc _).2
  have sC : Dc.size ≤ 19 := by rw [← hDc, str_size]; exact (digL_lenT 18 c).2
  have sR : Dr.size ≤ 19 := by rw [← hDr, str_size]; exact (digL_lenT 18 r).2
  have HKC := Lib.hid (fun (W : World) (h : Below w3.heap.size w3 W) => show W.cell? ⟨gk, k, none⟩ = some (.string K) from by
    rw [(HW3.out.1.on h).cell k, ← hK]
    obtain rfl | rfl | rfl | rfl : k = 0 ∨ k = 1 ∨ k = 2 ∨ k = 3 := by omega
    all_goals rfl)
  have HDc := Lib.hid (fun W => (by
    have z := digits_any 18 c (by have : (10 : Nat) ^ (18 + 1) = 10000000000000000000 := by decide
                                  omega) (by decide) (by omega) W
    unfold StrB at z
    rw [hDc] at z
    exact z : Calls Tryz.prog 30 #[.int .i64 (c : Int)] W (fun e w' => e = .returned (.string Dc) ∧ Below W.heap.size W w')))
  have HDr := Lib.hid (fun W => (by
    have z := digits_any 18 r (by have : (10 : Nat) ^ (18 + 1) = 10000000000000000000 := by decide
                                  omega) (by decide) (by omega) W
    unfold StrB at z
    rw [hDr] at z
    exact z : Calls Tryz.prog 30 #[.int .i64 (r : Int)] W (fun e w' => e = .returned (.string Dr) ∧ Below W.heap.size W w')))
  have HS1 := Lib.hid (show (⟨#[107, 105, 110, 100, 32]⟩ : ByteArray) ++ K ++ ⟨#[59, 10]⟩ = str (aKind k) from by
    rw [← hK, show (⟨#[107, 105, 110, 100, 32]⟩ : ByteArray) = str [107, 105, 110, 100, 32] from rfl, show (⟨#[59, 10]⟩ : ByteArray) = str [59, 10] from rfl, str_app, str_app]
    rfl)
  have HS2 := Lib.hid (show (⟨#[99, 111, 115, 116, 32, 48]⟩ : ByteArray) ++ Dc ++ ⟨#[59, 10]⟩ = str (aCost c) from by
    rw [← hDc, show (⟨#[99, 111, 115, 116, 32, 48]⟩ : ByteArray) = str [99, 111, 115, 116, 32, 48] from rfl, show (⟨#[59, 10]⟩ : ByteArray) = str [59, 10] from rfl, str_app, str_app]
    rfl)
  have HS3 := Lib.hid (show (⟨#[114, 101, 116, 114, 121, 32]⟩ : ByteArray) ++ Dr ++ ⟨#[59, 10]⟩ = str (aRetry r) from by
    rw [← hDr, show (⟨#[114, 101, 116, 114, 121, 32]⟩ : ByteArray) = str [114, 101, 116, 114, 121, 32] from rfl, show (⟨#[59, 10]⟩ : ByteArray) = str [59, 10] from rfl, str_app, str_app]
    rfl)
  have HKK := Lib.hid hK
  clear hK hDc hDr
  have k0 : (0 : Int) ≤ (k : Int) := Int.natCast_nonneg _
  have k1 : (k : Int) < 4 := by omega
  have HB0 := Lib.hid (show Below w3.heap.size w3 w3.drew from (Below.refl _ w3).drew)
  go_cut [12] from 12 to 50 (fun v12 wx => ∃ gl, v12 = .slice (some ⟨gl, 0, none⟩) 3 3 ∧ Hid (Full wx gl 9 [.string (str (aKind k)), .string (str (aCost c)), .string (str (aRetry r))] ∧ Below w3.heap.size w3 wx))
  case first =>
    have m0 := HKC.out w3.drew HB0.out
    have j1 : ¬ 9223372036854775807 < 5 + K.size := by omega
    have j2 : ¬ 9223372036854775807 < 5 + K.size + 2 := by omega
    have j3 : ¬ 9223372036854775807 < 6 + Dc.size := by omega
    have j4 : ¬ 9223372036854775807 < 6 + Dc.size + 2 := by omega
    have j5 : ¬ 9223372036854775807 < 6 + Dr.size := by omega
    have j6 : ¬ 9223372036854775807 < 6 + Dr.size + 2 := by omega
    clear HL HI HB1 HSN HF1 HG0 HW2 HW3 HM4 HKK hox h9 hc9 hr9 hk4
    go_region_held3 (fun w' => w'.cell? ⟨gk, k, none⟩ = some (.string K))
      (first | (with_reducible exact m0) | (with_reducible exact mc) | (with_reducible exact mr) | (exact HKC.out _ (HBR.out.alloc HBR.out.size _)) | (exact HKC.out _ (HBC.out.alloc HBC.out.size _)) | (fail "keep"))
      (first
        | (go_at_call 30; ((with_reducible refine (HDc.out _).mono ?_); rintro en wc ⟨rfl, hbx⟩; (first | (have HBC := Lib.hid (Below.then_ HBR.out hbx)) | (have HBC := Lib.hid (Below.then_ HB0.out hbx))); (have mc := HKC.out wc HBC.out); clear hbx))
        | (go_at_call 30; ((with_reducible refine (HDr.out _).mono ?_); rintro en wd ⟨rfl, hbx⟩; (first | (have HBR := Lib.hid (Below.then_ HBC.out hbx)) | (have HBR := Lib.hid (Below.then_ HB0.out hbx))); (have mr := HKC.out wd HBR.out); clear hbx))
        | (fail "arm"))
    all_goals (go_wp2; go_meet)
    all_goals
      rw [HS1.out, HS2.out, HS3.out]
      first
        | exact ⟨_, rfl, Lib.hid ⟨Full.new wd 9 _, HBR.out.alloc HBR.out.size _⟩⟩
        | exact ⟨_, rfl, Lib.hid ⟨Full.new wc 9 _, HBC.out.alloc HBC.out.size _⟩⟩
  case rest =>
    obtain ⟨gl, rfl, HW5⟩ := hcut
    obtain ⟨wB, rfl⟩ : ∃ z, z = wc := ⟨_, rfl⟩
    clear HB0
    have HWC := Lib.hid (show Below w.heap.size w wB from HW3.out.2.trans (HW5.out.2.mono HW3.out.2.size))
    have HM3 := Lib.hid (fun W => (by exact mod_any ox 3 W (by decide) (by decide) : Calls Tryz.prog 19 #[.int .i64 ox, .int .i64 3] W fun e w' => e = .returned (.int .i64 (modN ox 3 : Int)) ∧ W = w'))
    have hn3 := modN_lt (x := ox) (m := 3) (by decide)
    obtain ⟨n, hn⟩ : ∃ k, modN ox 3 = k := ⟨_, rfl⟩
    rw [hn] at HM3 hn3
    clear hn
    go_upto_region 8 with (first
      | (go_at_call 19; ((with_reducible refine (HM3.out _).mono ?_); rintro en w4 ⟨rfl, rfl⟩))
      | (fail "arm"))
    have HCL := Lib.hid (fun (W : World) (h : Below wB.heap.size wB W) (i : Nat) (hi : i < 3) => show W.cell? ⟨gl, i, none⟩ = some (.string (str (aAt k c r i))) from by
      rw [(HW5.out.1.on h).cell i]
      obtain rfl | rfl | rfl : i = 0 ∨ i = 1 ∨ i = 2 := by omega
      all_goals rfl)
    obtain ⟨n1, hn1⟩ : ∃ x, (n + 1) % 3 = x := ⟨_, rfl⟩
    obtain ⟨n2, hn2⟩ : ∃ x, (n + 2) % 3 = x := ⟨_, rfl⟩
    have f1 : ((n : Int) + 1).tmod 3 = (n1 : Int) := by rw [show ((n : Int) + 1) = ((n + 1 : Nat) : Int) from by omega, show (3 : Int) = ((3 : Nat) : Int) from rfl, tmod_nat, hn1]
    have f2 : ((n : Int) + 2).tmod 3 = (n2 : Int) := by rw [show ((n : Int) + 2) = ((n + 2 : Nat) : Int) from by omega, show (3 : Int) = ((3 : Nat) : Int) from rfl, tmod_nat, hn2]
    have b1 : n1 < 3 := by omega
    have b2 : n2 < 3 := by omega
    have z0 := HCL.out wB (Below.refl _ _) n hn3
    have z1 := HCL.out wB (Below.refl _ _) n1 b1
    have z2 := HCL.out wB (Below.refl _ _) n2 b2
    obtain ⟨S0, hS0⟩ : ∃ S, str (aAt k c r n) = S := ⟨_, rfl⟩
    obtain ⟨S1, hS1⟩ : ∃ S, str (aAt k c r n1) = S := ⟨_, rfl⟩
    obtain ⟨S2, hS2⟩ : ∃ S, str (aAt k c r n2) = S := ⟨_, rfl⟩
    have l0 : S0.size ≤ 100 := by rw [← hS0, str_size]; exact (aAt_asc k c r n).2
    have l1 : S1.size ≤ 100 := by rw [← hS1, str_size]; exact (aAt_asc k c r n1).2
    have l2 : S2.size ≤ 100 := by rw [← hS2, str_size]; exact (aAt_asc k c r n2).2
    rw [hS0] at z0
    rw [hS1] at z1
    rw [hS2] at z2
    have n0 : (0 : Int) ≤ (n : Int) := Int.natCast_nonneg _
    have n0' : (n : Int) < 3 := by omega
    have n10 : (0 : Int) ≤ (n1 : Int) := Int.natCast_nonneg _
    have n11 : (n1 : Int) < 3 := by omega
    have n20 : (0 : Int) ≤ (n2 : Int) := Int.natCast_nonneg _
    have n21 : (n2 : Int) < 3 := by omega
    have HSS := Lib.hid (And.intro hS0 (And.intro hS1 (And.intro hS2 (And.intro hn1 hn2))))
    clear hS0 hS1 hS2 hn1 hn2
    go_quiet (fail)
    obtain ⟨w5, hw5⟩ : ∃ z, wB.drewN nq = z := ⟨_, rfl⟩
    have HW6 := Lib.hid (show Below wB.heap.size wB w5 by rw [← hw5]; exact Below.drewN_ (Below.refl _ _) _)
    rw [hw5]
    clear hw5 z0 z1 z2
    obtain ⟨F, hF⟩ : ∃ F, S0 ++ S1 ++ S2 = F := ⟨_, rfl⟩
    have hFs : F.size ≤ 300 := by rw [← hF, ByteArray.size_append, ByteArray.size_append]; omega
    have hFa : F = str (aAt k c r n ++ aAt k c r n1 ++ aAt k c r n2) := by rw [← hF, ← HSS.out.1, ← HSS.out.2.1, ← HSS.out.2.2.1, str_app, str_app]
    rw [hF]
    clear hF l0 l1 l2 f1 f2 n0 n0' n10 n11 n20 n21
    have hFasc : Asc (aAt k c r n ++ aAt k c r n1 ++ aAt k c r n2) := asc_app (asc_app (aAt_asc k c r n).1 (aAt_asc k c r n1).1) (aAt_asc k c r n2).1
    have hX1 : (⟨#[116, 97, 114, 103, 101, 116, 32, 116, 32, 123, 10]⟩ : ByteArray) ++ F ++ ⟨#[125]⟩ = str (src3 k c r n n1 n2) := by
      rw [hFa, show (⟨#[116, 97, 114, 103, 101, 116, 32, 116, 32, 123, 10]⟩ : ByteArray) = str aHead from rfl, show (⟨#[125]⟩ : ByteArray) = str [125] from rfl, str_app, str_app]
      unfold src3
      simp only [List.append_assoc]
    have hA3 : Asc (src3 k c r n n1 n2) ∧ (src3 k c r n n1 n2).length ≤ 400 := by
      have := (aAt_asc k c r n).2
      have := (aAt_asc k c r n1).2
      have := (aAt_asc k c r n2).2
      refine ⟨asc_app (asc_of (by decide)) (asc_app (aAt_asc k c r n).1 (asc_app (aAt_asc k c r n1).1 (asc_app (aAt_asc k c r n2).1 (asc_of (by decide))))), ?_⟩
      unfold src3
      have : aHead.length = 11 := rfl
      simp only [List.length_append, List.length_cons, List.length_nil]
      omega
    have HLW := Lib.hid (fun (W : World) (h : Below wB.heap.size wB W) => show Laid W from HL.out.on (HWC.out.trans (h.mono HWC.out.size)))
    have HAG := Lib.hid (fun (W : World) (h : Below wB.heap.size wB W) => (by
      have z := agrees_any (HLW.out W h) (str (src3 k c r n n1 n2)) (by rw [str_data]; exact hA3.1) (by rw [str_size]; omega)
      unfold BoolB at z
      rw [← hX1] at z
      exact z : Calls Tryz.prog 16 #[.string ((⟨#[116, 97, 114, 103, 101, 116, 32, 116, 32, 123, 10]⟩ : ByteArray) ++ F ++ ⟨#[125]⟩)] W (fun e w' => e = .returned (.bool true) ∧ Below W.heap.size W w')))
    have HPA := Lib.hid (fun (W : World) (h : Below wB.heap.size wB W) => (by
      have z := parsed_any (HLW.out W h) (str (src3 k c r n n1 n2)) (by rw [str_data]; exact hA3.1) (by rw [str_size]; omega)
      unfold ParsedOut at z
      rw [← hX1, show ((⟨#[116, 97, 114, 103, 101, 116, 32, 116, 32, 123, 10]⟩ : ByteArray) ++ F ++ ⟨#[125]⟩).data.toList = src3 k c r n n1 n2 from by rw [hX1, str_data]] at z
      refine z.mono ?_
      rintro en w' ⟨Ap, np, cp, A, n', c', tl, rfl, _, _, hb⟩
      exact ⟨Ap, np, cp, A, n', c', rfl, hb⟩ : Calls Tryz.prog 26 #[.string ((⟨#[116, 97, 114, 103, 101, 116, 32, 116, 32, 123, 10]⟩ : ByteArray) ++ F ++ ⟨#[125]⟩)] W (fun en w' => ∃ Ap np cp A n' c', en = .returned (.tuple #[.agg #[.slice Ap np cp, .slice A n' c'], .int .i64 (pParse (src3 k c r n n1 n2)).2.1, .int .i64 (pParse (src3 k c r n n1 n2)).2.2]) ∧ Below W.heap.size W w')))
    have e9 : IntKind.i64.wrap (ox.tdiv 3) = ox.tdiv 3 := wrap_small (tdiv3 hox)
    have HMq := Lib.hid (fun W => (by exact mod_any (ox.tdiv 3) 3 W (by decide) (by decide) : Calls Tryz.prog 19 #[.int .i64 (ox.tdiv 3), .int .i64 3] W fun e w' => e = .returned (.int .i64 (modN (ox.tdiv 3) 3 : Int)) ∧ W = w'))
    have hm3 := modN_lt (x := ox.tdiv 3) (m := 3) (by decide)
    obtain ⟨m, hm⟩ : ∃ k, modN (ox.tdiv 3) 3 = k := ⟨_, rfl⟩
    rw [hm] at HMq hm3
    clear hm
    obtain ⟨Sm, hSm⟩ : ∃ S, str (aAt k c r m) = S := ⟨_, rfl⟩
    have lm : Sm.size ≤ 100 := by rw [← hSm, str_size]; exact (aAt_asc k c r m).2
    have HAG2 := Lib.hid (fun (W : World) (h : Below wB.heap.size wB W) => (by
      have e : (⟨#[116, 97, 114, 103, 101, 116, 32, 116, 32, 123, 10]⟩ : ByteArray) ++ F ++ Sm ++ ⟨#[125]⟩ = str (aHead ++ (aAt k c r n ++ aAt k c r n1 ++ aAt k c r n2) ++ aAt k c r m ++ [125]) := by
        rw [hFa, ← hSm, show (⟨#[116, 97, 114, 103, 101, 116, 32, 116, 32, 123, 10]⟩ : ByteArray) = str aHead from rfl, show (⟨#[125]⟩ : ByteArray) = str [125] from rfl, str_app, str_app, str_app]
      have z := agrees_any (HLW.out W h) (str (aHead ++ (aAt k c r n ++ aAt k c r n1 ++ aAt k c r n2) ++ aAt k c r m ++ [125])) (by
        rw [str_data]
        exact asc_app (asc_app (asc_app (asc_of (by decide)) hFasc) (aAt_asc k c r m).1) (asc_of (by decide))) (by
        rw [← e, ByteArray.size_append, ByteArray.size_append, ByteArray.size_append]
        have : (⟨#[116, 97, 114, 103, 101, 116, 32, 116, 32, 123, 10]⟩ : ByteArray).size = 11 := rfl
        have : (⟨#[125]⟩ : ByteArray).size = 1 := rfl
        omega)
      unfold BoolB at z
      rw [← e] at z
      exact z : Calls Tryz.prog 16 #[.string ((⟨#[116, 97, 114, 103, 101, 116, 32, 116, 32, 123, 10]⟩ : ByteArray) ++ F ++ Sm ++ ⟨#[125]⟩)] W (fun e w' => e = .returned (.bool true) ∧ Below W.heap.size W w')))
    have HZM := Lib.hid (fun (W : World) (h : Below wB.heap.size wB W) => (by rw [← hSm]; exact HCL.out W h m hm3 : W.cell? ⟨gl, m, none⟩ = some (.string Sm)))
    have m0 : (0 : Int) ≤ (m : Int) := Int.natCast_nonneg _
    have m1 : (m : Int) < 3 := by omega
    clear hX1 hA3 hFasc hSm hFa
    go_upto_region 10 with (first
      | (go_at_call 16; ((with_reducible refine (HAG.out _ HW6.out).mono ?_); rintro en w6 ⟨rfl, hb6⟩; (have HW7 := Lib.hid (Below.then_ HW6.out hb6)); clear hb6))
      | (fail "arm"))
    have zm := HZM.out w6 HW7.out
    go_upto_region 11 with (first
      | (go_at_call 19; ((with_reducible refine (HMq.out _).mono ?_); rintro en w7 ⟨rfl, rfl⟩))
      | (go_at_call 16; ((with_reducible refine (HAG2.out _ HW7.out).mono ?_); rintro en w8 ⟨rfl, hb8⟩; (have HW8 := Lib.hid (Below.then_ HW7.out hb8)); clear hb8))
      | (fail "arm"))
    clear zm
    obtain ⟨pe, hpe⟩ : ∃ z, (pParse (src3 k c r n n1 n2)).2.2 = z := ⟨_, rfl⟩
    obtain ⟨pln, hpl⟩ : ∃ z, (pParse (src3 k c r n n1 n2)).2.1 = z := ⟨_, rfl⟩
    rw [hpe, hpl] at HPA
    have HPE := Lib.hid hpe
    clear hpe hpl
    go_upto_region 12 with (first
      | (go_at_call 26; ((with_reducible refine (HPA.out _ HW8.out).mono ?_); rintro en w9 ⟨Ap, np, cp, A, n', c', rfl, hb9⟩; (have HW9 := Lib.hid (Below.then_ HW8.out hb9)); clear hb9))
      | (fail "arm"))
    obtain ⟨wz, hwz⟩ : ∃ z, w9.alloc (.cells #[.slice Ap np cp, .slice A n' c'] 28) = z := ⟨_, rfl⟩
    have HWZ := Lib.hid (show Below wB.heap.size wB wz by rw [← hwz]; exact HW9.out.alloc HW9.out.size _)
    rw [hwz]
    clear hwz HAG HPA HAG2 HMq HM3 HZM
    have HNO := Lib.hid (show (decide (NumOk k c r)) = decide (NumOk k c r) from rfl)
    go_cut [20] from 20 to 111 (fun v20 wx => v20 = .bool (decide (NumOk k c r)) ∧ wx = wz)
    case first =>
      have P : NumOk k c r ↔ ((1 ≤ c ∧ c ≤ 1000) ∧ r ≤ 5 ∧ (r = 0 ∨ k = 2)) := Iff.rfl
      have HP := Lib.hid P
      clear P
      by_cases c1 : 1 ≤ c
      · have d1 : decide ((c : Int) ≥ 1) = true := decide_eq_true (by omega)
        by_cases c2 : c ≤ 1000
        · have d2 : decide ((c : Int) ≤ 1000) = true := decide_eq_true (by omega)
          by_cases c3 : r ≤ 5
          · have d3 : decide ((r : Int) ≤ 5) = true := decide_eq_true (by omega)
            by_cases c4 : r = 0
            · have d4 : ((r : Int) == 0) = true := by rw [c4]; rfl
              have HQ := Lib.hid (show decide (NumOk k c r) = true from decide_eq_true (HP.out.mpr ⟨⟨c1, c2⟩, c3, .inl c4⟩))
              clear c1 c2 c3 c4
              go_wp2
              go_meet
              exact ⟨by rw [HQ.out], rfl⟩
            · have d4 : ((r : Int) == 0) = false := by simpa using c4
              by_cases c5 : k = 2
              · have d5 : ((k : Int) == 2) = true := by rw [c5]; rfl
                have HQ := Lib.hid (show decide (NumOk k c r) = true from decide_eq_true (HP.out.mpr ⟨⟨c1, c2⟩, c3, .inr c5⟩))
                clear c1 c2 c3 c4 c5
                go_wp2
                go_meet
                exact ⟨by rw [HQ.out], rfl⟩
              · have d5 : ((k : Int) == 2) = false := by
                  rw [beq_eq_false_iff_ne]; omega
                have HQ := Lib.hid (show decide (NumOk k c r) = false from decide_eq_false (fun z => (HP.out.mp z).2.2.elim c4 c5))
                clear c1 c2 c3 c4 c5
                go_wp2
                go_meet
                exact ⟨by rw [HQ.out], rfl⟩
          · have d3 : decide ((r : Int) ≤ 5) = false := decide_eq_false (by omega)
            have HQ := Lib.hid (show decide (NumOk k c r) = false from decide_eq_false (fun z => c3 (HP.out.mp z).2.1))
            clear c1 c2 c3
            go_wp2
            go_meet
            exact ⟨by rw [HQ.out], rfl⟩
        · have d2 : decide ((c : Int) ≤ 1000) = false := decide_eq_false (by omega)
          have HQ := Lib.hid (show decide (NumOk k c r) = false from decide_eq_false (fun z => c2 (HP.out.mp z).1.2))
          clear c1 c2
          go_wp2
          go_meet
          exact ⟨by rw [HQ.out], rfl⟩
      · have d1 : decide ((c : Int) ≥ 1) = false := decide_eq_false (by omega)
        have HQ := Lib.hid (show decide (NumOk k c r) = false from decide_eq_false (fun z => c1 (HP.out.mp z).1.1))
        clear c1
        go_wp2
        go_meet
        exact ⟨by rw [HQ.out], rfl⟩
    case rest =>
      obtain ⟨rfl, hwz2⟩ := hcut
      rw [hwz2]
      clear HNO hwz2
      have hpe2 : pe = if NumOk k c r then 0 else 41 := by
        rw [← HPE.out]
        exact num_parse hk4 (by omega) (by omega) hn3 b1 b2 (by have := HSS.out.2.2.2; omega) (by have := HSS.out.2.2.2; omega) (by have := HSS.out.2.2.2; omega)
      obtain ⟨R, hR⟩ : ∃ R, str (aRetry r) = R := ⟨_, rfl⟩
      have lR : R.size ≤ 100 := by rw [← hR, str_size]; exact (aAt_asc k c r 2).2
      have hX4 : (⟨#[116, 97, 114, 103, 101, 116, 32, 116, 32, 123, 10, 107, 105, 110, 100, 32]⟩ : ByteArray) ++ K ++ ⟨#[59, 32, 99, 111, 115, 116, 32, 49, 59, 32]⟩ ++ R ++ R ++ ⟨#[125]⟩ = str (src4 k r) := by
        rw [← hR, ← HKK.out, show (⟨#[116, 97, 114, 103, 101, 116, 32, 116, 32, 123, 10, 107, 105, 110, 100, 32]⟩ : ByteArray) = str (aHead ++ [107, 105, 110, 100, 32]) from rfl, show (⟨#[59, 32, 99, 111, 115, 116, 32, 49, 59, 32]⟩ : ByteArray) = str [59, 32, 99, 111, 115, 116, 32, 49, 59, 32] from rfl, show (⟨#[125]⟩ : ByteArray) = str [125] from rfl, str_app, str_app, str_app, str_app, str_app]
        unfold src4 aOne
        simp only [List.append_assoc]
      have hs4 : Asc (src4 k r) ∧ (src4 k r).length ≤ 400 := by
        have a1 := (kw_asc (k + 1)).2
        have a2 := (aAt_asc k c r 2)
        have a2 : Asc (aRetry r) ∧ (aRetry r).length ≤ 100 := a2
        refine ⟨asc_app (asc_of (by decide)) (asc_app (asc_app (asc_of (by decide)) (asc_app (kw_asc (k + 1)).1 (asc_of (by decide)))) (asc_app a2.1 (asc_app a2.1 (asc_of (by decide))))), ?_⟩
        have h11 : aHead.length = 11 := rfl
        unfold src4 aOne
        simp only [List.length_append, List.length_cons, List.length_nil]
        omega
      have HPB := Lib.hid (fun (W : World) (h : Below wB.heap.size wB W) => (by
        have z := parsed_any (HLW.out W h) (str (src4 k r)) (by rw [str_data]; exact hs4.1) (by rw [str_size]; omega)
        unfold ParsedOut at z
        rw [← hX4, show ((⟨#[116, 97, 114, 103, 101, 116, 32, 116, 32, 123, 10, 107, 105, 110, 100, 32]⟩ : ByteArray) ++ K ++ ⟨#[59, 32, 99, 111, 115, 116, 32, 49, 59, 32]⟩ ++ R ++ R ++ ⟨#[125]⟩).data.toList = src4 k r from by rw [hX4, str_data]] at z
        refine z.mono ?_
        rintro en w' ⟨Ap, np, cp, A, n', c', tl, rfl, _, _, hb⟩
        exact ⟨Ap, np, cp, A, n', c', rfl, hb⟩ : Calls Tryz.prog 26 #[.string ((⟨#[116, 97, 114, 103, 101, 116, 32, 116, 32, 123, 10, 107, 105, 110, 100, 32]⟩ : ByteArray) ++ K ++ ⟨#[59, 32, 99, 111, 115, 116, 32, 49, 59, 32]⟩ ++ R ++ R ++ ⟨#[125]⟩)] W (fun en w' => ∃ Ap np cp A n' c', en = .returned (.tuple #[.agg #[.slice Ap np cp, .slice A n' c'], .int .i64 (pParse (src4 k r)).2.1, .int .i64 (pParse (src4 k r)).2.2]) ∧ Below W.heap.size W w')))
      have htw : r ≤ 5 → (pParse (src4 k r)).2.2 = 42 := fun h => twice_parse hk4 h
      obtain ⟨qe, hqe⟩ : ∃ z, (pParse (src4 k r)).2.2 = z := ⟨_, rfl⟩
      obtain ⟨qln, hql⟩ : ∃ z, (pParse (src4 k r)).2.1 = z := ⟨_, rfl⟩
      rw [hqe, hql] at HPB
      rw [hqe] at htw
      have kc : wz.cell? ⟨gk, k, none⟩ = some (.string K) := HKC.out wz (HW5.out.2.trans (HWZ.out.mono HW5.out.2.size))
      have rc : wz.cell? ⟨gl, 2, none⟩ = some (.string R) := by rw [← hR]; exact HCL.out wz HWZ.out 2 (by decide)
      have hq5 : decide ((r : Int) > 5) = !decide (r ≤ 5) := by
        rw [Bool.eq_iff_iff]
        simp only [decide_eq_true_eq, Bool.not_eq_true', decide_eq_false_iff_not]
        omega
      obtain ⟨B5, hB5⟩ : ∃ b, decide (r ≤ 5) = b := ⟨_, rfl⟩
      obtain ⟨NB, hNB⟩ : ∃ b, decide (NumOk k c r) = b := ⟨_, rfl⟩
      have hpe3 : pe = if NB = true then 0 else 41 := by rw [hpe2, ← hNB]; simp
      have htw3 : B5 = true → qe = 42 := fun h => htw (of_decide_eq_true (hB5.trans h))
      rw [hNB]
      rw [hB5] at hq5
      have HRS := Lib.hid hR
      clear hpe2 htw hX4 hs4 hqe hql hR hB5 hNB HSS HPE HKK
      have FIN : ∀ wy : World, Below wB.heap.size wB wy → Below w.heap.size w wy := fun wy h => HWC.out.trans (h.mono HWC.out.size)
      have HFIN := Lib.hid FIN
      clear FIN
      have HPE3 := Lib.hid hpe3
      have HTW3 := Lib.hid htw3
      clear hpe3 htw3 kc rc
      have HKR := Lib.hid (fun (W : World) (h : Below wB.heap.size wB W) => show W.cell? ⟨gk, k, none⟩ = some (.string K) ∧ W.cell? ⟨gl, 2, none⟩ = some (.string R) from ⟨HKC.out W (HW5.out.2.trans (h.mono HW5.out.2.size)), by rw [← HRS.out]; exact HCL.out W h 2 (by decide)⟩)
      clear HKC HCL
      go_upto_region 13 with fail
      go_cut [23] from 21 to 131 (fun v23 wx => v23 = .int .i64 qe ∧ Hid (Below wB.heap.size wB wx))
      case first =>
        have HBz := Lib.hid (show Below wB.heap.size wB wz.drew from HWZ.out.drew)
        have m0 := HKR.out wz.drew HBz.out
        have HAz := Lib.hid (show Below wB.heap.size wB (wz.alloc (.cells #[.slice none 0 0, .slice none 0 0] 28)).drew from (HWZ.out.alloc HWZ.out.size _).drew)
        have HFz := Lib.hid (show Full (wz.alloc (.cells #[.slice none 0 0, .slice none 0 0] 28)).drew wz.heap.size 28 [.slice none 0 0, .slice none 0 0] from Full.new wz 28 _)
        have HZS := Lib.hid HWZ.out.size
        have j1 : ¬ 9223372036854775807 < 16 + K.size := by omega
        have j2 : ¬ 9223372036854775807 < 16 + K.size + 10 := by omega
        have j3 : ¬ 9223372036854775807 < 16 + K.size + 10 + R.size := by omega
        have j4 : ¬ 9223372036854775807 < 16 + K.size + 10 + R.size + R.size := by omega
        have j5 : ¬ 9223372036854775807 < 16 + K.size + 10 + R.size + R.size + 1 := by omega
        clear HL HI HB1 HSN HF1 HG0 HW2 HW3 hox h9 hc9 hr9 hk4 HDc HDr HS1 HS2 HS3 HW5 HWC HLW HFIN HPE3 HTW3 HW6 HW7 HW8 HW9 HWZ hq5 sC sR
        go_region_held3 (fun w' => w'.cell? ⟨gk, k, none⟩ = some (.string K) ∧ w'.cell? ⟨gl, 2, none⟩ = some (.string R))
          (first | (with_reducible exact m0) | (with_reducible exact mk) | (exact HKR.out _ HAz.out) | (exact HKR.out _ (HBY.out.alloc HBY.out.size _)) | (exact HKR.out _ ((HBV.out.setCell HZS.out _).setCell HZS.out _)) | (fail "keep"))
          (first
            | (go_at_call 26; ((with_reducible refine (HPB.out _ HBz.out).mono ?_); rintro en wy ⟨Ap, np, cp, A, n', c', rfl, hby⟩; (have HBY := Lib.hid (Below.then_ HBz.out hby)); (have mk := HKR.out wy HBY.out); clear hby))
            | (go_at_call 26; ((with_reducible refine (HPB.out _ HAz.out).mono ?_); rintro en wy ⟨Ap, np, cp, A, n', c', rfl, hby⟩; (have HBV := Lib.hid (Below.then_ HAz.out hby)); (have FY := HFz.out.on hby); (have mk := HKR.out wy HBV.out); (obtain ⟨p0, p1⟩ : (wy.cell? ⟨wz.heap.size, 0, none⟩ = some (.slice none 0 0) ∧ wy.frozen? ⟨wz.heap.size, 0, none⟩ = false) ∧ ((wy.setCell ⟨wz.heap.size, 0, none⟩ (.slice Ap np cp)).cell? ⟨wz.heap.size, 1, none⟩ = some (.slice none 0 0) ∧ (wy.setCell ⟨wz.heap.size, 0, none⟩ (.slice Ap np cp)).frozen? ⟨wz.heap.size, 1, none⟩ = false) := ⟨⟨FY.cell 0, FY.frozen 0⟩, ⟨(FY.set_ 0 _).cell 1, (FY.set_ 0 _).frozen 1⟩⟩); (obtain ⟨p0, p0f⟩ := p0); (obtain ⟨p1, p1f⟩ := p1); clear hby FY))
            | (fail "arm"))
        all_goals (go_wp2; go_meet)
        all_goals
          first
            | exact ⟨rfl, Lib.hid (HBY.out.alloc HBY.out.size _)⟩
            | exact ⟨rfl, Lib.hid ((HBV.out.setCell HZS.out _).setCell HZS.out _)⟩
      case rest =>
        obtain ⟨rfl, HWF⟩ := hcut
        have h1 := HPE3.out
        have h2 := HTW3.out
        clear HPE3 HTW3 HPB HKR HLW
        cases NB with
        | true =>
          rw [if_pos rfl] at h1
          subst h1
          cases B5 with
          | true =>
            have h3 := h2 rfl
            subst h3
            have hq6 : decide ((r : Int) > 5) = false := hq5
            clear hq5 h2
            go_wp2
            go_ret
            exact ⟨rfl, HFIN.out _ HWF.out⟩
          | false =>
            have hq6 : decide ((r : Int) > 5) = true := hq5
            clear hq5 h2
            go_wp2
            go_ret
            exact ⟨rfl, HFIN.out _ HWF.out⟩
        | false =>
          rw [if_neg Bool.false_ne_true] at h1
          subst h1
          cases B5 with
          | true =>
            have h3 := h2 rfl
            subst h3
            have hq6 : decide ((r : Int) > 5) = false := hq5
            clear hq5 h2
            go_wp2
            go_ret
            exact ⟨rfl, HFIN.out _ HWF.out⟩
          | false =>
            have hq6 : decide ((r : Int) > 5) = true := hq5
            clear hq5 h2
            go_wp2
            go_ret
            exact ⟨rfl, HFIN.out _ HWF.out⟩
theorem contract (H : Type) (enc : TypeId × Value → H) (W : World) (base : Nat) (args : Array Value) (ds gs : List (DataW H)) (before : List MemPlace)
    (hval : ∀ (j : Nat) t v, Tryz.f10.params[j]? = some t → args[j]? = some v → Value.okWide Tryz.prog W .any base t v)
    (hW : DataW.Whole enc Tryz.prog Tryz.f10.params.toList Rows.syntaxNumbersSpec.vars false W args.toList ds gs before) (hT : Laid W ∧ Ito W) :
    Calls Tryz.prog 10 args W fun e W' => ∃ v, e = .returned v ∧ Rows.syntaxNumbersSpec.post enc Tryz.prog Tryz.f10 false true false false W args v W' := by
  have hW' := hW
  obtain ⟨p, q, hA0, hV, rfl, hfz, hnd⟩ := hW
  have hA : DataW.TrodAll enc Tryz.prog W 0 (fun _ => true) true Tryz.f10.params.toList args.toList ds p := hA0
  rw [Tryz.params10] at hA hval
  obtain ⟨v0, vs0, d0, ds0, p0, q0, e0, rfl, rfl, h0, r0⟩ := trodAll_cons hA
  obtain ⟨v1, vs1, d1, ds1, p1, q1, e1, rfl, rfl, h1, r1⟩ := trodAll_cons r0
  obtain ⟨v2, vs2, d2, ds2, p2, q2, e2, rfl, rfl, h2, r2⟩ := trodAll_cons r1
  obtain ⟨rfl, rfl, rfl⟩ := trodAll_nil r2
  obtain rfl : args = #[v0, v1, v2] := by cases args; simp_all
  obtain ⟨rfl, rfl⟩ := trodVars_none hV
  obtain ⟨a, b, rfl, ha, hb⟩ := open_pair16 (hval 0 56 v0 rfl rfl) h0
  obtain ⟨kx, rfl, _, _, _⟩ := open_int Tryz.underlying3 (hval 1 3 v1 rfl rfl) h1
  obtain ⟨ox, rfl, _, _, hox⟩ := open_int Tryz.underlying3 (hval 2 3 v2 rfl rfl) h2
  refine (walk a b kx ox hT.1 hT.2 ha hb (bd_i64 hox)).mono fun e W' ⟨he, hb⟩ => ⟨_, he, law_post rfl rfl ?_ rfl rfl rfl hW' hb⟩
  rw [Tryz.params10]
  intro t ht
  have ht' : t = 56 ∨ t = 3 := by simpa using ht
  rcases ht' with rfl | rfl <;> exact ⟨by kernel_rfl, of_decide_eq_true (by kernel_rfl)⟩

theorem laid_met (os : Os) : laidMet Tryz.prog Rows.syntaxNumbersRow.laid ((laidWorld os).forCall (fun _ _ => 0) ⟨#[], #[.agg #[.int .u16 0, .int .u16 0], .int .i64 0, .int .i64 0], []⟩).memory := laid_run os #[.agg #[.int .u16 0, .int .u16 0], .int .i64 0, .int .i64 0]
theorem reads (os : Os) {H : Type} (enc : TypeId × Value → H) : ∃ ds places, DataW.whole enc Tryz.prog ((laidWorld os).forCall (fun _ _ => 0) ⟨#[], #[.agg #[.int .u16 0, .int .u16 0], .int .i64 0, .int .i64 0], []⟩).memory Tryz.f10.params.toList Rows.syntaxNumbersSpec.vars false (#[.agg #[.int .u16 0, .int .u16 0], .int .i64 0, .int .i64 0] : Array Value).toList 8 = some (ds, [], places) ∧ Rows.uptoSmall H (ds ++ []) = true :=
  ⟨[.agg [.lit (.int .u16 0), .lit (.int .u16 0)], .lit (.int .i64 0), .lit (.int .i64 0)], [], by kernel_rfl, by kernel_rfl⟩

set_option maxRecDepth 100000 in
theorem lifted (os : Os) (started : os.Started) (H : Type) (enc : TypeId × Value → H) (F : Stop.Interp) :
    ReturnsInHanded {} Tryz.checked os 10 .any ((OpenSpec.ofChange Rows.syntaxNumbersSpec).preRow enc Tryz.prog Tryz.f10 Rows.syntaxNumbersRow.domain false Rows.syntaxNumbersRow.laid) (((OpenSpec.ofChange Rows.syntaxNumbersSpec).at F).post enc Tryz.prog Tryz.f10 false true false false) := by
  obtain ⟨ds, places, hx, hsm⟩ := reads os enc
  refine returnsInHanded_of_row (C := Tryz.checked) (s := (OpenSpec.ofChange Rows.syntaxNumbersSpec)) ownKnob_none started (by kernel_rfl) Tryz.func10
    (witness_row_at (enc := enc) (C := Tryz.checked) false (laidWorld os) #[.agg #[.int .u16 0, .int .u16 0], .int .i64 0, .int .i64 0] rfl (by kernel_rfl) (by kernel_rfl) (by kernel_rfl)
      (OpenSpec.preRow_of_cond 8 hx (by kernel_rfl) (fun k hk => by cases hk) (by kernel_rfl) (laid_met os))) ?_
  intro W base args ds gs before hval hW _ _ _ hL _ _
  exact contract H enc W base args ds gs before hval hW (laid_both (show laidMet Tryz.prog theLaid W from hL))

theorem said : Rows.SyntaxNumbersSaid :=
  OpenClaim.holds_of_cond 10 Tryz.f10 rfl rfl rfl rfl rfl rfl rfl ⟨rfl, rfl, rfl, rfl, rfl⟩ rfl rfl rfl rfl rfl (by kernel_rfl) Tryz.func10 (by kernel_rfl)
    (of_decide_eq_true (by kernel_rfl)) (by unfold Func.isWrapper; first | (rw [if_pos (by decide +kernel)]; kernel_rfl) | (rw [if_neg (by decide +kernel)]; exact ⟨rfl, rfl⟩))
    (fun os started H enc _ F => by rw [OpenClaim.pre_eq_preRow]; exact lifted os started H enc F)

theorem plain (f : FuncId) (fn : Func) (hf : Tryz.pinned.checked.prog.funcNamed "mainline/mainlinelaw11.SyntaxNumbers" = some f) (hfn : Tryz.pinned.checked.prog.funcs[f]? = some fn) :
    true = Tryz.pinned.checked.prog.looks [] ∧ ∀ (j : Nat) t, fn.params[j]? = some t → Tryz.pinned.checked.prog.wantsStandIn t = false := by
  obtain rfl : f = 10 := Option.some.inj ((show Tryz.prog.funcNamed "mainline/mainlinelaw11.SyntaxNumbers" = some 10 by kernel_rfl).symm.trans hf) |>.symm
  obtain rfl : fn = Tryz.f10 := (Option.some.inj (Tryz.func10.symm.trans hfn)).symm
  refine ⟨by kernel_rfl, fun j t ht => ?_⟩
  rw [Tryz.params10] at ht
  have hm : t ∈ [56, 3] := by have := Array.mem_of_getElem? ht; simpa using this
  have hall : ([56, 3].all fun u => !Tryz.prog.wantsStandIn u) = true := by kernel_rfl
  exact (show Tryz.prog.wantsStandIn t = false by simpa using List.all_eq_true.1 hall t hm)

theorem card : Rows.SyntaxNumbersCardSaid :=
  Claim7.holds_tied_plain_at .later [] _ _ _ _ said (fun _ h => by cases h) (by kernel_rfl) (fun _ h => by cases h) syntaxNumbers_row_tie rfl ⟨rfl, rfl⟩ (by kernel_rfl) rfl plain (by kernel_rfl)

end Go.Proofs.YtcjoiiaankngjaaGreatDoor.lnum
