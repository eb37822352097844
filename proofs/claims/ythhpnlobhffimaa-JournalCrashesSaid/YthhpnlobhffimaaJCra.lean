/- JournalCrashes: a journal behind some appends, with the records that are sure and those that are torn. -/
import Derived.Test.YthhpnlobhffimaaJRound
namespace Go.Proofs.Ythhpnlobhffimaa
set_option maxRecDepth 100000
open Go.RowKit
def AllSm (S : List ByteArray) : Prop := ∀ s ∈ S, s.size ≤ 300
theorem AllSm.snoc {S : List ByteArray} {s : ByteArray} (h : AllSm S) (hs : s.size ≤ 300) : AllSm (S ++ [s]) := fun x hx => by
  rcases List.mem_append.1 hx with hx | hx
  · exact h x hx
  · simp at hx; subst hx; exact hs
theorem AllSm.dat {S : List ByteArray} (h : AllSm S) : ∀ r ∈ dat S, r.length ≤ 300 := fun r hr => by
  unfold Go.Proofs.Ythhpnlobhffimaa.dat at hr
  obtain ⟨s', hs', rfl⟩ := List.mem_map.1 hr
  rw [data_len]; exact h s' hs'
theorem fl_small {rs : List (List UInt8)} (h : ∀ r ∈ rs, r.length ≤ 300) : (fl rs).length ≤ 2015 * rs.length := SmallR.e_le (rs := rs) (k := rs.length) ⟨Nat.le_refl _, h⟩
theorem dat_snoc (S : List ByteArray) (s : ByteArray) : dat (S ++ [s]) = dat S ++ [s.data.toList] := by unfold dat; rw [List.map_append]; rfl
/-- behind k appends -/
structure Cr (j : Jn) (S T : List ByteArray) (k : Nat) : Prop where
  calls : j.d.calls ≤ 10 + 4 * k
  small : AllSm S ∧ AllSm T
  few : S.length ≤ 60 + k ∧ T.length ≤ k
  st : (T = [] ∧ j.Idle ∧ j.rs = dat S) ∨ (∃ t T', T = t :: T' ∧ j.failed = true ∧ ∀ q : List Int, recs (j.d.left q) = dat S ∨ recs (j.d.left q) = dat (S ++ [t]))
theorem cr_step {w W : World} {p b : Nat} {j : Jn} {X : Nat → Prop} (h : Jw w W p b j X) {S T : List ByteArray} {k : Nat} (hc : Cr j S T k) (hk : k ≤ 10) (s : ByteArray) (hz : s.size ≤ 300) :
    Calls Try.prog 16 #[.pointer (some ⟨b, 0, none⟩), .string s] W fun e W' => ∃ v j', e = .returned (.int .i64 v) ∧ JPost w W p b j' X W' ∧ ((v = 0 ∧ T = [] ∧ Cr j' (S ++ [s]) [] (k + 1)) ∨ (v = 30 ∧ Cr j' S (T ++ [s]) (k + 1))) := by
  have hcl := hc.calls
  rcases hc.st with ⟨rfl, h1, h2⟩ | ⟨t, T', rfl, h1, h2⟩
  · have he : j.e ≤ 2015 * 70 := by
      have := fl_small hc.small.1.dat
      rw [dat_len] at this
      unfold Jn.e
      rw [h2]
      have := hc.few.1
      omega
    have htl : j.tooLong s.data.toList = false := tooLong_small (n := 201500) (by omega) (by rw [data_len]; omega) (by omega)
    have good : ∀ (e : Ending) (W' : World), (e = .returned (.int .i64 0) ∧ ∃ j', j'.rs = j.rs ++ [s.data.toList] ∧ j'.Idle ∧ j'.d.calls = j.d.calls + 4 ∧ JPost w W p b j' X W') → ∃ v j', e = .returned (.int .i64 v) ∧ JPost w W p b j' X W' ∧ ((v = 0 ∧ ([] : List ByteArray) = [] ∧ Cr j' (S ++ [s]) [] (k + 1)) ∨ (v = 30 ∧ Cr j' S ([] ++ [s]) (k + 1))) := by
      rintro e W' ⟨he, j', hj, hi, hcc, hP⟩
      refine ⟨0, j', he, hP, .inl ⟨rfl, rfl, ⟨by omega, ⟨hc.small.1.snoc hz, hc.small.2⟩, ⟨by rw [List.length_append]; have := hc.few.1; simp; omega, Nat.zero_le _⟩, .inl ⟨rfl, hi, ?_⟩⟩⟩⟩
      rw [hj, dat_snoc, h2]
    cases hp : j.d.pw with
    | none =>
      refine (app_good h h1 (by rw [hp]; trivial) (by omega) s (by omega) htl).mono ?_
      rintro e W' ⟨he, j', hj, hi, _, hcc, hP⟩
      exact good e W' ⟨he, j', by rw [hj], hi, hcc, hP⟩
    | some m =>
      by_cases hm : m < 4
      · refine (app_bad h h1 hp hm (by omega) s (by omega) htl).mono ?_
        rintro e W' ⟨he, d', hT, hcc, hP⟩
        refine ⟨30, _, he, hP, .inr ⟨rfl, ⟨by show d'.calls ≤ _; omega, ⟨hc.small.1, AllSm.snoc hc.small.2 hz⟩, ⟨by have := hc.few.1; omega, by simp⟩, .inr ⟨s, [], rfl, rfl, fun q => ?_⟩⟩⟩⟩
        show recs (d'.left q) = _ ∨ recs (d'.left q) = _
        rw [hT q, dat_snoc, h2]
        split
        · exact .inr rfl
        · exact .inl rfl
      · refine (app_good h h1 (by rw [hp]; show 4 ≤ m; omega) (by omega) s (by omega) htl).mono ?_
        rintro e W' ⟨he, j', hj, hi, _, hcc, hP⟩
        exact good e W' ⟨he, j', by rw [hj], hi, hcc, hP⟩
  · refine (app_dead h h1 s).mono ?_
    rintro e W' ⟨he, hP⟩
    exact ⟨30, j, he, hP, .inr ⟨rfl, ⟨by omega, ⟨hc.small.1, hc.small.2.snoc hz⟩, ⟨by have := hc.few.1; omega, by rw [List.length_append]; have := hc.few.2; simp at this ⊢; omega⟩, .inr ⟨t, T' ++ [s], rfl, h1, h2⟩⟩⟩⟩
/-- what a crash leaves -/
theorem Cr.left {j : Jn} {S T : List ByteArray} {k : Nat} (h : Cr j S T k) (hg : j.d.Good) (q : List Int) : recs (j.d.left q) = dat S ∨ ∃ t T', T = t :: T' ∧ recs (j.d.left q) = dat (S ++ [t]) := by
  rcases h.st with ⟨_, h1, h2⟩ | ⟨t, T', rfl, _, h2⟩
  · rw [h1.left, h1.recs hg, h2]; exact .inl rfl
  · rcases h2 q with h | h
    · exact .inl h
    · exact .inr ⟨t, T', rfl, h⟩
end Go.Proofs.Ythhpnlobhffimaa
