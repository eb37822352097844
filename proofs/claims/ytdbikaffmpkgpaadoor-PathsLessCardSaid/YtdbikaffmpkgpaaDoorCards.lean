/-
  DERIVED. GIVEN WITH THE SEED: THE CARDS: each row of YtdbikaffmpkgpaaDoorRows.lean that lists a variable, with what it lists TIED to the program's text (the seventh form; the later family's looks); each row that meets fmt, with fmt's text TOLD by the authors' own Lean function (tested against real Go, not proved from fmt's source: count such statements apart). THE CARD IS WHAT COUNTS. Prove the row's statement (the work); the ties are given (YtdbikaffmpkgpaaDoorTie.lean); close each card by the builder's one call (the guide's Derived/Test/ToyasCard.lean, 'card_holds'). Laid BY PROGRAM, IN A SANDBOX (cutbox-door.mjs). By AI agents, Wed Nov 11 2026. No macro, syntax, notation, axiom, sorry.
-/
import Derived.Test.YtdbikaffmpkgpaaDoorRows
import GoSem.ClaimSeven
namespace Go.Proofs.YtdbikaffmpkgpaaDoor
namespace Rows

/-- THE TIED CARD OF 'mainlinelaw03.PathsValid'. -/
def pathsValidCard : Claim7 := { stood := { row := pathsValidRow, standIns := [], harness := (true, "1673ce5e886c5aa1f1585b2033efed636a1a2feaa08db122095624c6d37e4020"), looks := false }, kinds := [], alts := [], laidByText := true, laidKinds := [.data], laidTests := true, laidLooks := .later }
def PathsValidCardSaid : Prop := Claim7.holds Tryd.pinned (.plain (OpenSpec.ofChange pathsValidSpec)) pathsValidCard

/-- THE TIED CARD OF 'mainlinelaw03.PathsLimits'. -/
def pathsLimitsCard : Claim7 := { stood := { row := pathsLimitsRow, standIns := [], harness := (true, "1673ce5e886c5aa1f1585b2033efed636a1a2feaa08db122095624c6d37e4020"), looks := false }, kinds := [], alts := [], laidByText := true, laidKinds := [.data], laidTests := true, laidLooks := .later }
def PathsLimitsCardSaid : Prop := Claim7.holds Tryd.pinned (.plain (OpenSpec.ofChange pathsLimitsSpec)) pathsLimitsCard

/-- THE TIED CARD OF 'mainlinelaw03.PathsParts'. -/
def pathsPartsCard : Claim7 := { stood := { row := pathsPartsRow, standIns := [], harness := (true, "1673ce5e886c5aa1f1585b2033efed636a1a2feaa08db122095624c6d37e4020"), looks := false }, kinds := [], alts := [], laidByText := true, laidKinds := [.data], laidTests := true, laidLooks := .later }
def PathsPartsCardSaid : Prop := Claim7.holds Tryd.pinned (.plain (OpenSpec.ofChange pathsPartsSpec)) pathsPartsCard

/-- THE TIED CARD OF 'mainlinelaw03.PathsUnder'. -/
def pathsUnderCard : Claim7 := { stood := { row := pathsUnderRow, standIns := [], harness := (true, "1673ce5e886c5aa1f1585b2033efed636a1a2feaa08db122095624c6d37e4020"), looks := false }, kinds := [], alts := [], laidByText := true, laidKinds := [.data], laidTests := true, laidLooks := .later }
def PathsUnderCardSaid : Prop := Claim7.holds Tryd.pinned (.plain (OpenSpec.ofChange pathsUnderSpec)) pathsUnderCard

/-- THE TIED CARD OF 'mainlinelaw03.PathsLess'. -/
def pathsLessCard : Claim7 := { stood := { row := pathsLessRow, standIns := [], harness := (true, "1673ce5e886c5aa1f1585b2033efed636a1a2feaa08db122095624c6d37e4020"), looks := false }, kinds := [], alts := [], laidByText := true, laidKinds := [.data], laidTests := true, laidLooks := .later }
def PathsLessCardSaid : Prop := Claim7.holds Tryd.pinned (.plain (OpenSpec.ofChange pathsLessSpec)) pathsLessCard

/-- THE TIED CARD OF 'mainlinelaw03.PathsFollow'. -/
def pathsFollowCard : Claim7 := { stood := { row := pathsFollowRow, standIns := [], harness := (true, "1673ce5e886c5aa1f1585b2033efed636a1a2feaa08db122095624c6d37e4020"), looks := false }, kinds := [], alts := [], laidByText := true, laidKinds := [.data], laidTests := true, laidLooks := .later }
def PathsFollowCardSaid : Prop := Claim7.holds Tryd.pinned (.plain (OpenSpec.ofChange pathsFollowSpec)) pathsFollowCard

/-- THE TIED CARD OF 'mainlinelaw03.PathsPatterns'. -/
def pathsPatternsCard : Claim7 := { stood := { row := pathsPatternsRow, standIns := [], harness := (true, "1673ce5e886c5aa1f1585b2033efed636a1a2feaa08db122095624c6d37e4020"), looks := false }, kinds := [], alts := [], laidByText := true, laidKinds := [.data], laidTests := true, laidLooks := .later }
def PathsPatternsCardSaid : Prop := Claim7.holds Tryd.pinned (.plain (OpenSpec.ofChange pathsPatternsSpec)) pathsPatternsCard

/-- THE TIED CARD OF 'mainlinelaw03.PathsMatches'. -/
def pathsMatchesCard : Claim7 := { stood := { row := pathsMatchesRow, standIns := [], harness := (true, "1673ce5e886c5aa1f1585b2033efed636a1a2feaa08db122095624c6d37e4020"), looks := false }, kinds := [], alts := [], laidByText := true, laidKinds := [.data], laidTests := true, laidLooks := .later }
def PathsMatchesCardSaid : Prop := Claim7.holds Tryd.pinned (.plain (OpenSpec.ofChange pathsMatchesSpec)) pathsMatchesCard

/-- THE TIED CARD OF 'mainlinelaw03.PathsWild'. -/
def pathsWildCard : Claim7 := { stood := { row := pathsWildRow, standIns := [], harness := (true, "1673ce5e886c5aa1f1585b2033efed636a1a2feaa08db122095624c6d37e4020"), looks := false }, kinds := [], alts := [], laidByText := true, laidKinds := [.data], laidTests := true, laidLooks := .later }
def PathsWildCardSaid : Prop := Claim7.holds Tryd.pinned (.plain (OpenSpec.ofChange pathsWildSpec)) pathsWildCard

/-- THE TIED CARD OF 'mainlinelaw03.PathsLiteral'. -/
def pathsLiteralCard : Claim7 := { stood := { row := pathsLiteralRow, standIns := [], harness := (true, "1673ce5e886c5aa1f1585b2033efed636a1a2feaa08db122095624c6d37e4020"), looks := false }, kinds := [], alts := [], laidByText := true, laidKinds := [.data], laidTests := true, laidLooks := .later }
def PathsLiteralCardSaid : Prop := Claim7.holds Tryd.pinned (.plain (OpenSpec.ofChange pathsLiteralSpec)) pathsLiteralCard

/-- THE TIED CARD OF 'mainlinelaw03.PathsStars'. -/
def pathsStarsCard : Claim7 := { stood := { row := pathsStarsRow, standIns := [], harness := (true, "1673ce5e886c5aa1f1585b2033efed636a1a2feaa08db122095624c6d37e4020"), looks := false }, kinds := [], alts := [], laidByText := true, laidKinds := [.data], laidTests := true, laidLooks := .later }
def PathsStarsCardSaid : Prop := Claim7.holds Tryd.pinned (.plain (OpenSpec.ofChange pathsStarsSpec)) pathsStarsCard

/-- THE SECOND FORM's CARD OF 'mainlinelaw03.PathsValid'. -/
def pathsValidUptoCard : Claim7 := { stood := { row := pathsValidUptoRow, standIns := [], harness := (true, "1673ce5e886c5aa1f1585b2033efed636a1a2feaa08db122095624c6d37e4020"), looks := false }, kinds := [], alts := [], laidByText := true, laidKinds := [.data], laidTests := true, laidLooks := .later }
def PathsValidUptoCardSaid : Prop := Claim7.holds Tryd.pinned (.plain (OpenSpec.upto pathsValidSpec)) pathsValidUptoCard

/-- THE SECOND FORM's CARD OF 'mainlinelaw03.PathsLimits'. -/
def pathsLimitsUptoCard : Claim7 := { stood := { row := pathsLimitsUptoRow, standIns := [], harness := (true, "1673ce5e886c5aa1f1585b2033efed636a1a2feaa08db122095624c6d37e4020"), looks := false }, kinds := [], alts := [], laidByText := true, laidKinds := [.data], laidTests := true, laidLooks := .later }
def PathsLimitsUptoCardSaid : Prop := Claim7.holds Tryd.pinned (.plain (OpenSpec.upto pathsLimitsSpec)) pathsLimitsUptoCard

/-- THE SECOND FORM's CARD OF 'mainlinelaw03.PathsParts'. -/
def pathsPartsUptoCard : Claim7 := { stood := { row := pathsPartsUptoRow, standIns := [], harness := (true, "1673ce5e886c5aa1f1585b2033efed636a1a2feaa08db122095624c6d37e4020"), looks := false }, kinds := [], alts := [], laidByText := true, laidKinds := [.data], laidTests := true, laidLooks := .later }
def PathsPartsUptoCardSaid : Prop := Claim7.holds Tryd.pinned (.plain (OpenSpec.upto pathsPartsSpec)) pathsPartsUptoCard

/-- THE SECOND FORM's CARD OF 'mainlinelaw03.PathsUnder'. -/
def pathsUnderUptoCard : Claim7 := { stood := { row := pathsUnderUptoRow, standIns := [], harness := (true, "1673ce5e886c5aa1f1585b2033efed636a1a2feaa08db122095624c6d37e4020"), looks := false }, kinds := [], alts := [], laidByText := true, laidKinds := [.data], laidTests := true, laidLooks := .later }
def PathsUnderUptoCardSaid : Prop := Claim7.holds Tryd.pinned (.plain (OpenSpec.upto pathsUnderSpec)) pathsUnderUptoCard

/-- THE SECOND FORM's CARD OF 'mainlinelaw03.PathsLess'. -/
def pathsLessUptoCard : Claim7 := { stood := { row := pathsLessUptoRow, standIns := [], harness := (true, "1673ce5e886c5aa1f1585b2033efed636a1a2feaa08db122095624c6d37e4020"), looks := false }, kinds := [], alts := [], laidByText := true, laidKinds := [.data], laidTests := true, laidLooks := .later }
def PathsLessUptoCardSaid : Prop := Claim7.holds Tryd.pinned (.plain (OpenSpec.upto pathsLessSpec)) pathsLessUptoCard

/-- THE SECOND FORM's CARD OF 'mainlinelaw03.PathsFollow'. -/
def pathsFollowUptoCard : Claim7 := { stood := { row := pathsFollowUptoRow, standIns := [], harness := (true, "1673ce5e886c5aa1f1585b2033efed636a1a2feaa08db122095624c6d37e4020"), looks := false }, kinds := [], alts := [], laidByText := true, laidKinds := [.data], laidTests := true, laidLooks := .later }
def PathsFollowUptoCardSaid : Prop := Claim7.holds Tryd.pinned (.plain (OpenSpec.upto pathsFollowSpec)) pathsFollowUptoCard

/-- THE SECOND FORM's CARD OF 'mainlinelaw03.PathsPatterns'. -/
def pathsPatternsUptoCard : Claim7 := { stood := { row := pathsPatternsUptoRow, standIns := [], harness := (true, "1673ce5e886c5aa1f1585b2033efed636a1a2feaa08db122095624c6d37e4020"), looks := false }, kinds := [], alts := [], laidByText := true, laidKinds := [.data], laidTests := true, laidLooks := .later }
def PathsPatternsUptoCardSaid : Prop := Claim7.holds Tryd.pinned (.plain (OpenSpec.upto pathsPatternsSpec)) pathsPatternsUptoCard

/-- THE SECOND FORM's CARD OF 'mainlinelaw03.PathsMatches'. -/
def pathsMatchesUptoCard : Claim7 := { stood := { row := pathsMatchesUptoRow, standIns := [], harness := (true, "1673ce5e886c5aa1f1585b2033efed636a1a2feaa08db122095624c6d37e4020"), looks := false }, kinds := [], alts := [], laidByText := true, laidKinds := [.data], laidTests := true, laidLooks := .later }
def PathsMatchesUptoCardSaid : Prop := Claim7.holds Tryd.pinned (.plain (OpenSpec.upto pathsMatchesSpec)) pathsMatchesUptoCard

/-- THE SECOND FORM's CARD OF 'mainlinelaw03.PathsWild'. -/
def pathsWildUptoCard : Claim7 := { stood := { row := pathsWildUptoRow, standIns := [], harness := (true, "1673ce5e886c5aa1f1585b2033efed636a1a2feaa08db122095624c6d37e4020"), looks := false }, kinds := [], alts := [], laidByText := true, laidKinds := [.data], laidTests := true, laidLooks := .later }
def PathsWildUptoCardSaid : Prop := Claim7.holds Tryd.pinned (.plain (OpenSpec.upto pathsWildSpec)) pathsWildUptoCard

/-- THE SECOND FORM's CARD OF 'mainlinelaw03.PathsLiteral'. -/
def pathsLiteralUptoCard : Claim7 := { stood := { row := pathsLiteralUptoRow, standIns := [], harness := (true, "1673ce5e886c5aa1f1585b2033efed636a1a2feaa08db122095624c6d37e4020"), looks := false }, kinds := [], alts := [], laidByText := true, laidKinds := [.data], laidTests := true, laidLooks := .later }
def PathsLiteralUptoCardSaid : Prop := Claim7.holds Tryd.pinned (.plain (OpenSpec.upto pathsLiteralSpec)) pathsLiteralUptoCard

/-- THE SECOND FORM's CARD OF 'mainlinelaw03.PathsStars'. -/
def pathsStarsUptoCard : Claim7 := { stood := { row := pathsStarsUptoRow, standIns := [], harness := (true, "1673ce5e886c5aa1f1585b2033efed636a1a2feaa08db122095624c6d37e4020"), looks := false }, kinds := [], alts := [], laidByText := true, laidKinds := [.data], laidTests := true, laidLooks := .later }
def PathsStarsUptoCardSaid : Prop := Claim7.holds Tryd.pinned (.plain (OpenSpec.upto pathsStarsSpec)) pathsStarsUptoCard
end Rows
end Go.Proofs.YtdbikaffmpkgpaaDoor
