/- The program's journal and the reference's in one memory. -/
import Derived.Test.YthhpnlobhffimaaJRefJ
import Derived.Test.YthhpnlobhffimaaJSame
import Derived.Test.YthhpnlobhffimaaJOpen
namespace Go.Proofs.Ythhpnlobhffimaa
set_option maxRecDepth 100000
open Go.RowKit
section
variable {w W W' : World} {p b q g : Nat} {d1 d2 : Dk} {j1 j2 : Jn} {X : Nat → Prop}
/-- two disks -/
def Duo0 (w W : World) (p q : Nat) (d1 d2 : Dk) : Prop := ∃ G, Side w W p d1 G ∧ IsR w.heap.size W q d2 G
theorem Duo0.left (h : Duo0 w W p q d1 d2) : ∃ G, Side w W p d1 G ∧ ∀ W' d1', SPost w W p d1' G W' → Duo0 w W' p q d1' d2 := by
  obtain ⟨G, h1, h2⟩ := h
  exact ⟨G, h1, fun W' d1' k => ⟨G, k.1, h2.keep k.2.1 k.2.2⟩⟩
theorem Duo0.right (h : Duo0 w W p q d1 d2) : ∃ F, RSide w W q d2 F ∧ ∀ W' d2', RS w W q d2' F W' → Duo0 w W' p q d1 d2' := by
  obtain ⟨G, h1, h2⟩ := h
  obtain ⟨F, i1, i4⟩ := h1.his
  refine ⟨F, ⟨h1.bel, G, h2, fun x hx => ⟨fun e => (i4 x e).1 hx, (i1.in_ x hx).2⟩⟩, fun W' d2' k => ?_⟩
  obtain ⟨G', k1, k4⟩ := k.1.his
  exact ⟨G', ⟨k.1.bel, F, i1.keep k.2.1 k.2.2, fun x hx => ⟨fun e => (k4 x e).1 hx, (k1.in_ x hx).2⟩⟩, k1⟩
/-- a journal and the reference's disk -/
def Duo1 (w W : World) (p b q : Nat) (j1 : Jn) (d2 : Dk) : Prop := ∃ G, Jw w W p b j1 G ∧ IsR w.heap.size W q d2 G
/-- two journals -/
def Duo2 (w W : World) (p b q g : Nat) (j1 j2 : Jn) (X : Nat → Prop) : Prop :=
  ∃ G, Jw w W p b j1 (fun h => (G h ∨ h = g) ∨ X h) ∧ IsR w.heap.size W q j2.d G ∧ ¬ G g ∧ (∀ h, X h → ¬ G h ∧ h ≠ g) ∧ Full W g 94 (jV q j2) ∧ w.heap.size ≤ g ∧ j2.e ≤ 16777216
theorem Duo0.opened (h : Duo0 w W p q d1 d2) : ∃ G, Side w W p d1 G ∧ (∀ W' d1', SPost w W p d1' G W' → Duo0 w W' p q d1' d2) ∧ ∀ W' b j1, JPost w W p b j1 G W' → Duo1 w W' p b q j1 d2 := by
  obtain ⟨G, h1, h2⟩ := h
  exact ⟨G, h1, fun W' d1' k => ⟨G, k.1, h2.keep k.2.1 k.2.2⟩, fun W' b j1 k => ⟨G, k.1, h2.keep k.2.1 k.2.2⟩⟩
theorem Duo1.opened (h : Duo1 w W p b q j1 d2) : ∃ F, RSide w W q d2 F ∧ ∀ W' g j2, RP w W q g j2 F W' → Duo2 w W' p b q g j1 j2 (fun _ => False) := by
  obtain ⟨G, h1, h2⟩ := h
  obtain ⟨F, i1, i4⟩ := h1.side.his
  have hbs : b < W.heap.size := (i4 b (.inl rfl)).2
  refine ⟨fun x => F x ∨ x = b, ⟨h1.side.bel, G, h2, ?_⟩, fun W' g j2 k => ?_⟩
  · rintro x (hx | rfl)
    · exact ⟨fun e => (i4 x (.inr e)).1 hx, (i1.in_ x hx).2⟩
    · exact ⟨h1.out, hbs⟩
  · obtain ⟨G', k1, k4⟩ := k.1.side.his
    have hgb : b ≠ g := fun e => k.1.out (.inr e.symm)
    refine ⟨G', ⟨⟨k.1.side.bel, F, i1.keep (fun x hx => k.2.1 x (.inl hx)) k.2.2, ?_⟩, (k.2.1 b (.inr rfl)).trans h1.full, h1.ge, ?_, h1.few⟩, k1, (k4 g (.inl rfl)).1, fun _ h => h.elim, k.1.full, k.1.ge, k.1.few⟩
    · rintro x (rfl | (hx | rfl) | hx)
      · exact ⟨(i4 x (.inl rfl)).1, Nat.lt_of_lt_of_le hbs k.2.2⟩
      · exact ⟨fun e => (k4 x (.inr (.inl e))).1 hx, (k1.in_ x hx).2⟩
      · exact ⟨fun e => k.1.out (.inl e), (k4 x (.inl rfl)).2⟩
      · exact hx.elim
    · rintro ((hx | rfl) | hx)
      · exact (k4 b (.inr (.inr rfl))).1 hx
      · exact hgb rfl
      · exact hx
theorem Duo2.left (h : Duo2 w W p b q g j1 j2 X) : ∃ Y, Jw w W p b j1 Y ∧ (∀ x, X x → Y x) ∧ ∀ W' j1', JPost w W p b j1' Y W' → Duo2 w W' p b q g j1' j2 X := by
  obtain ⟨G, h1, h2, h3, h4, h5, h6, h7⟩ := h
  exact ⟨_, h1, fun x hx => .inr hx, fun W' j1' k => ⟨G, k.1, h2.keep (fun x hx => k.2.1 x (.inl (.inl hx))) k.2.2, h3, h4, (k.2.1 g (.inl (.inr rfl))).trans h5, h6, h7⟩⟩
theorem Duo2.right (h : Duo2 w W p b q g j1 j2 X) : ∃ Y, RJ w W q g j2 Y ∧ (∀ x, X x → Y x) ∧ ∀ W' j2', RP w W q g j2' Y W' → Duo2 w W' p b q g j1 j2' X := by
  obtain ⟨G, h1, h2, h3, h4, h5, h6, h7⟩ := h
  obtain ⟨F, i1, i4⟩ := h1.side.his
  have hbs : b < W.heap.size := (i4 b (.inl rfl)).2
  have hbo := h1.out
  refine ⟨fun x => (F x ∨ x = b) ∨ X x, ⟨⟨h1.side.bel, G, h2, ?_⟩, h5, h6, ?_, h7⟩, fun x hx => .inr hx, fun W' j2' k => ?_⟩
  · rintro x (rfl | (hx | rfl) | hx)
    · exact ⟨h3, (i4 x (.inr (.inl (.inr rfl)))).2⟩
    · exact ⟨fun e => (i4 x (.inr (.inl (.inl e)))).1 hx, (i1.in_ x hx).2⟩
    · exact ⟨fun e => hbo (.inl (.inl e)), hbs⟩
    · exact ⟨(h4 x hx).1, (i4 x (.inr (.inr hx))).2⟩
  · rintro ((hx | rfl) | hx)
    · exact (i4 g (.inr (.inl (.inr rfl)))).1 hx
    · exact hbo (.inl (.inr rfl))
    · exact (h4 g hx).2 rfl
  · obtain ⟨G', k1, k4⟩ := k.1.side.his
    refine ⟨G', ⟨⟨k.1.side.bel, F, i1.keep (fun x hx => k.2.1 x (.inl (.inl hx))) k.2.2, ?_⟩, (k.2.1 b (.inl (.inr rfl))).trans h1.full, h1.ge, ?_, h1.few⟩, k1, (k4 g (.inl rfl)).1, fun x hx => ⟨(k4 x (.inr (.inr hx))).1, (h4 x hx).2⟩, k.1.full, k.1.ge, k.1.few⟩
    · rintro x (rfl | (hx | rfl) | hx)
      · exact ⟨(i4 x (.inl rfl)).1, Nat.lt_of_lt_of_le hbs k.2.2⟩
      · exact ⟨fun e => (k4 x (.inr (.inl (.inl e)))).1 hx, (k1.in_ x hx).2⟩
      · exact ⟨(i4 x (.inr (.inl (.inr rfl)))).1, (k4 x (.inl rfl)).2⟩
      · exact ⟨(i4 x (.inr (.inr hx))).1, Nat.lt_of_lt_of_le (i4 x (.inr (.inr hx))).2 k.2.2⟩
    · rintro ((hx | rfl) | hx)
      · exact (k4 b (.inr (.inl (.inr rfl)))).1 hx
      · exact hbo (.inl (.inr rfl))
      · exact hbo (.inr hx)
theorem Duo2.plus (h : Duo2 w W p b q g j1 j2 (fun _ => False)) {Y : Nat → Prop} (hb : Below W.heap.size W W') (hY : ∀ x, Y x → W.heap.size ≤ x ∧ x < W'.heap.size) : Duo2 w W' p b q g j1 j2 Y := by
  obtain ⟨G, h1, h2, h3, h4, h5, h6, h7⟩ := h
  obtain ⟨F, i1, i4⟩ := h1.side.his
  have hbs : b < W.heap.size := (i4 b (.inl rfl)).2
  have hgs : g < W.heap.size := (i4 g (.inr (.inl (.inr rfl)))).2
  refine ⟨G, ⟨⟨Below.then_ h1.side.bel hb, F, i1.on hb, ?_⟩, h1.full.on hb, h1.ge, ?_, h1.few⟩, h2.on hb, h3, fun x hx => ⟨fun e => ?_, ?_⟩, h5.on hb, h6, h7⟩
  · rintro x (rfl | (hx | rfl) | hx)
    · exact ⟨(i4 x (.inl rfl)).1, Nat.lt_of_lt_of_le hbs hb.size⟩
    · exact ⟨(i4 x (.inr (.inl (.inl hx)))).1, Nat.lt_of_lt_of_le (h2.in_ x hx).2 hb.size⟩
    · exact ⟨(i4 x (.inr (.inl (.inr rfl)))).1, Nat.lt_of_lt_of_le hgs hb.size⟩
    · exact ⟨fun e => by have := (i1.in_ x e).2; have := (hY x hx).1; omega, (hY x hx).2⟩
  · rintro ((hx | rfl) | hx)
    · exact h1.out (.inl (.inl hx))
    · exact h1.out (.inl (.inr rfl))
    · have := (hY b hx).1; omega
  · have := (h2.in_ x e).2; have := (hY x hx).1; omega
  · have := (hY x hx).1; omega
end
/-- the reference's Frames of no byte -/
theorem rframes_nil (w : World) : Calls Try.prog 45 #[.string ⟨#[]⟩] w fun e w' => e = .returned (.tuple #[.slice none 0 0, .int .i64 0]) ∧ w = w' := by
  go_enter Try.func45, Try.ntmps45
  go_upto_region 3 with fail
  go_loopw [4, 5] (fun v4 v5 wr => v4 = .slice none 0 0 ∧ v5 = .int .i64 0 ∧ wr = w) (fun _ _ _ => 0)
  case atStart => exact ⟨rfl, rfl, rfl⟩
  case round =>
    obtain ⟨rfl, rfl, rfl⟩ := hrel
    go_wp2
    refine bodyPost_ret (v := .tuple #[.slice none 0 0, .int .i64 0]) (by simp [results, Try.results45, go_sem]) rfl ?_
    exact ⟨rfl, rfl⟩
/-- the reference's Open of a disk without a byte -/
def ROpenOut (w W : World) (q : Nat) (d : Dk) (X : Nat → Prop) (e : Ending) (W' : World) : Prop :=
  (d.sErr ≠ 0 ∧ e = .returned (.tuple #[.pointer none, .slice none 0 0, .int .i64 d.sErr]) ∧ RS w W q d.sync X W') ∨
  (d.sErr = 0 ∧ ∃ g, e = .returned (.tuple #[.pointer (some ⟨g, 0, none⟩), .slice none 0 0, .int .i64 0]) ∧ RP w W q g ⟨d.sync, [], false⟩ X W')
theorem ropen_new {w W : World} {q : Nat} {d : Dk} {X : Nat → Prop} (h : RSide w W q d X) (hn : d.now = []) (hc : d.calls ≤ 90000) : Calls Try.prog 23 #[.pointer (some ⟨q, 0, none⟩)] W (ROpenOut w W q d X) := by
  have FN := Lib.hid (fun W => rframes_nil W)
  have SY := Lib.hid (h.sync (by omega))
  have c0 : W.cell? ⟨q, 0, none⟩ = some (.string ⟨#[]⟩) := by
    obtain ⟨G, ⟨c, lf, lm, hR⟩, _⟩ := h.his
    have := hR.full.cell 0
    rw [hn] at this
    exact this
  have F1 : Hid (∀ W', RS w W q d.sync X W' → d.sErr ≠ 0 → ROpenOut w W q d X (.returned (.tuple #[.pointer none, .slice none 0 0, .int .i64 d.sErr])) W') := Lib.hid fun W' k hne => .inl ⟨hne, rfl, k⟩
  have F2 : Hid (∀ W', RS w W q d.sync X W' → d.sErr = 0 → ROpenOut w W q d X (.returned (.tuple #[.pointer (some ⟨W'.heap.size, 0, none⟩), .slice none 0 0, .int .i64 0])) (W'.alloc (.cells #[.pointer (some ⟨q, 0, none⟩), .int .i64 0, .int .i64 0, .bool false] 94))) := Lib.hid fun W' k h0 => by
    refine .inr ⟨h0, _, rfl, ⟨?_, Full.new W' 94 _, k.1.bel.size, fun e => ?_, Nat.zero_le _⟩, fun x hx => ?_, ?_⟩
    · obtain ⟨G, i1, i4⟩ := k.1.his
      refine ⟨k.1.bel.alloc k.1.bel.size _, G, i1.on ((Below.refl _ W').alloc (Nat.le_refl _) _), ?_⟩
      rintro x (rfl | hx)
      · exact ⟨fun e => by have := (i1.in_ _ e).2; omega, by simp⟩
      · exact ⟨(i4 x hx).1, by have := (i4 x hx).2; simp; omega⟩
    · obtain ⟨G, i1, i4⟩ := k.1.his
      have := (i4 _ e).2; omega
    · obtain ⟨G, i1, i4⟩ := k.1.his
      exact (((Below.refl _ W').alloc (Nat.le_refl _) _).block x (i4 x hx).2).trans (k.2.1 x hx)
    · have := k.2.2; simp; omega
  obtain ⟨v, hv⟩ : ∃ v, d.sErr = v := ⟨_, rfl⟩
  obtain ⟨D, hD⟩ : ∃ D, d.sync = D := ⟨_, rfl⟩
  rw [hv] at SY F1 F2
  rw [hD] at SY F1 F2
  clear h hn hc hv hD
  go_enter Try.func23, Try.ntmps23
  go_upto_region 7 with (first
    | (go_at_call 45; ((with_reducible refine (FN.out W).mono ?_); rintro e w1 ⟨rfl, rfl⟩))
    | (go_at_call 46; ((with_reducible refine SY.out.mono ?_); rintro e W2 ⟨rfl, hk⟩))
    | (fail "arm"))
  have HK := Lib.hid hk
  clear hk SY
  rcases er_split v with rfl | hne
  · go_wp2_with fail
    refine bodyPost_ret (v := .tuple #[.pointer (some ⟨W2.heap.size, 0, none⟩), .slice none 0 0, .int .i64 0]) (by simp [results, Try.results23, go_sem]) rfl ?_
    exact F2.out _ HK.out (by trivial)
  · go_wp2
    refine bodyPost_ret (v := .tuple #[.pointer none, .slice none 0 0, .int .i64 v]) (by simp [results, Try.results23, go_sem]) rfl ?_
    exact F1.out _ HK.out (fun e => by rw [e] at hne; cases hne)
end Go.Proofs.Ythhpnlobhffimaa
