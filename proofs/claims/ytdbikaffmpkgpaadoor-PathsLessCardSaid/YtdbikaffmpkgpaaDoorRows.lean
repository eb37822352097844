/-
  NARROWER THAN 'FOR EVERY INPUT', by the rows' own cells (each row's printed sentence says how): PathsValid: laid · PathsLimits: laid · PathsParts: laid · PathsUnder: laid · PathsLess: laid · PathsFollow: laid · PathsPatterns: laid · PathsMatches: laid · PathsWild: laid · PathsLiteral: laid · PathsStars: laid.
  DERIVED. THE GIVEN ROWS OF THIS SEAT. 11 by the template 'for every input the law returns true; each argument reads behind the call as it read before'; 0 by the template 'total and deterministic' (their statements: YtdbikaffmpkgpaaDoorTotals.lean).
  GIVEN WITH THE SEED: the statements are not yours to turn. If you find one false, say at which input.
  Laid BY PROGRAM, IN A SANDBOX (cutbox-rows.mjs): the forced cells as the released guide's own fill.sh prints them over the translation e26edeb3b6fcfab4… (all of the seat's roots in one cut). By AI agents, Wed Nov 11 2026. No macro, syntax, notation, axiom, sorry.
-/
import Derived.Test.YtdbikaffmpkgpaaDoorChecked
import GoSem.Claim
import GoSem.ClaimJoined
import GoSem.ClaimMapViews
import Derived.JoinedTies
import Derived.KernelRfl
namespace Go.Proofs.YtdbikaffmpkgpaaDoor
/- THE CELL 'sum', in the pinned program and in every row, IS THE sha256 OF THE DUMP (.gsa) THAT YtdbikaffmpkgpaaDoorProg.lean LOADS. Nothing in Lean hashes anything: it is a label: what it is worth is what the hold of that sum in a sandbox is worth. -/
noncomputable def Tryd.pinned : Pinned := { name := "ytdbikaffmpkgpaadoor", sum := "e26edeb3b6fcfab4548ca98eeee35a050c52a5c496ba588dbd496f9f0e612a42", checked := Tryd.checked }
namespace Rows
def none {H : Type} : Left H := { results := [], args := [] }

/- WHAT THE LISTED PACKAGE-LEVEL VARIABLES READ AS WHEN THE CALL BEGINS. Each datum BY PROGRAM (the guide's laid-datum.mjs) off the statement by which the dump's own 'gosem.cut.vars' lays the variable. In a bare row this is a premise. The card (YtdbikaffmpkgpaaDoorCards.lean) ties it to the program's text. -/
def laid_mainline_paths_classes {H : Type} : DataW H := .agg [.lit (.int .u8 0), .lit (.int .u8 0), .lit (.int .u8 0), .lit (.int .u8 0), .lit (.int .u8 0), .lit (.int .u8 0), .lit (.int .u8 0), .lit (.int .u8 0), .lit (.int .u8 0), .lit (.int .u8 0), .lit (.int .u8 0), .lit (.int .u8 0), .lit (.int .u8 0), .lit (.int .u8 0), .lit (.int .u8 0), .lit (.int .u8 0), .lit (.int .u8 0), .lit (.int .u8 0), .lit (.int .u8 0), .lit (.int .u8 0), .lit (.int .u8 0), .lit (.int .u8 0), .lit (.int .u8 0), .lit (.int .u8 0), .lit (.int .u8 0), .lit (.int .u8 0), .lit (.int .u8 0), .lit (.int .u8 0), .lit (.int .u8 0), .lit (.int .u8 0), .lit (.int .u8 0), .lit (.int .u8 0), .lit (.int .u8 0), .lit (.int .u8 0), .lit (.int .u8 0), .lit (.int .u8 0), .lit (.int .u8 0), .lit (.int .u8 0), .lit (.int .u8 0), .lit (.int .u8 0), .lit (.int .u8 0), .lit (.int .u8 0), .lit (.int .u8 1), .lit (.int .u8 0), .lit (.int .u8 0), .lit (.int .u8 2), .lit (.int .u8 2), .lit (.int .u8 0), .lit (.int .u8 2), .lit (.int .u8 2), .lit (.int .u8 2), .lit (.int .u8 2), .lit (.int .u8 2), .lit (.int .u8 2), .lit (.int .u8 2), .lit (.int .u8 2), .lit (.int .u8 2), .lit (.int .u8 2), .lit (.int .u8 0), .lit (.int .u8 0), .lit (.int .u8 0), .lit (.int .u8 0), .lit (.int .u8 0), .lit (.int .u8 1), .lit (.int .u8 0), .lit (.int .u8 2), .lit (.int .u8 2), .lit (.int .u8 2), .lit (.int .u8 2), .lit (.int .u8 2), .lit (.int .u8 2), .lit (.int .u8 2), .lit (.int .u8 2), .lit (.int .u8 2), .lit (.int .u8 2), .lit (.int .u8 2), .lit (.int .u8 2), .lit (.int .u8 2), .lit (.int .u8 2), .lit (.int .u8 2), .lit (.int .u8 2), .lit (.int .u8 2), .lit (.int .u8 2), .lit (.int .u8 2), .lit (.int .u8 2), .lit (.int .u8 2), .lit (.int .u8 2), .lit (.int .u8 2), .lit (.int .u8 2), .lit (.int .u8 2), .lit (.int .u8 2), .lit (.int .u8 0), .lit (.int .u8 0), .lit (.int .u8 0), .lit (.int .u8 0), .lit (.int .u8 2), .lit (.int .u8 0), .lit (.int .u8 2), .lit (.int .u8 2), .lit (.int .u8 2), .lit (.int .u8 2), .lit (.int .u8 2), .lit (.int .u8 2), .lit (.int .u8 2), .lit (.int .u8 2), .lit (.int .u8 2), .lit (.int .u8 2), .lit (.int .u8 2), .lit (.int .u8 2), .lit (.int .u8 2), .lit (.int .u8 2), .lit (.int .u8 2), .lit (.int .u8 2), .lit (.int .u8 2), .lit (.int .u8 2), .lit (.int .u8 2), .lit (.int .u8 2), .lit (.int .u8 2), .lit (.int .u8 2), .lit (.int .u8 2), .lit (.int .u8 2), .lit (.int .u8 2), .lit (.int .u8 2), .lit (.int .u8 0), .lit (.int .u8 0), .lit (.int .u8 0), .lit (.int .u8 0), .lit (.int .u8 0)]

/-- 'mainlinelaw03.PathsValid': WHATEVER THE INPUT: true; the input reads as it did. -/
def pathsValidSpec : ChangeSpec := { name := "pathsValid", fn := fun _ => fun
  | [d1, d2, d3] => { results := [.lit (.bool true)], args := [d1, d2, d3] }
  | _ => none }
def pathsValidRow : OpenClaim := { program := "ytdbikaffmpkgpaadoor", sum := "e26edeb3b6fcfab4548ca98eeee35a050c52a5c496ba588dbd496f9f0e612a42", func := "mainline/mainlinelaw03.PathsValid", spec := "pathsValid", unfollowed := true, recurses := true, named := ["mainline/paths.classes"], apart := false, laid := [("mainline/paths.classes", laid_mainline_paths_classes)] }
def PathsValidSaid : Prop := pathsValidRow.holds Tryd.pinned (OpenSpec.ofChange pathsValidSpec)

/-- ITS FALSE NEIGHBOUR: 'it returns false'. Refute it at one input. -/
def pathsValidWrong : ChangeSpec := { name := "pathsValid", fn := fun _ => fun
  | [d1, d2, d3] => { results := [.lit (.bool false)], args := [d1, d2, d3] }
  | _ => none }
def PathsValidWrongFalsely : Prop := pathsValidRow.holds Tryd.pinned (OpenSpec.ofChange pathsValidWrong)

/-- 'mainlinelaw03.PathsLimits': WHATEVER THE INPUT: true; the input reads as it did. -/
def pathsLimitsSpec : ChangeSpec := { name := "pathsLimits", fn := fun _ => fun
  | [d1, d2] => { results := [.lit (.bool true)], args := [d1, d2] }
  | _ => none }
def pathsLimitsRow : OpenClaim := { program := "ytdbikaffmpkgpaadoor", sum := "e26edeb3b6fcfab4548ca98eeee35a050c52a5c496ba588dbd496f9f0e612a42", func := "mainline/mainlinelaw03.PathsLimits", spec := "pathsLimits", unfollowed := true, recurses := true, named := ["mainline/paths.classes"], apart := false, laid := [("mainline/paths.classes", laid_mainline_paths_classes)] }
def PathsLimitsSaid : Prop := pathsLimitsRow.holds Tryd.pinned (OpenSpec.ofChange pathsLimitsSpec)

/-- ITS FALSE NEIGHBOUR: 'it returns false'. Refute it at one input. -/
def pathsLimitsWrong : ChangeSpec := { name := "pathsLimits", fn := fun _ => fun
  | [d1, d2] => { results := [.lit (.bool false)], args := [d1, d2] }
  | _ => none }
def PathsLimitsWrongFalsely : Prop := pathsLimitsRow.holds Tryd.pinned (OpenSpec.ofChange pathsLimitsWrong)

/-- 'mainlinelaw03.PathsParts': WHATEVER THE INPUT: true; the input reads as it did. -/
def pathsPartsSpec : ChangeSpec := { name := "pathsParts", fn := fun _ => fun
  | [d1, d2, d3] => { results := [.lit (.bool true)], args := [d1, d2, d3] }
  | _ => none }
def pathsPartsRow : OpenClaim := { program := "ytdbikaffmpkgpaadoor", sum := "e26edeb3b6fcfab4548ca98eeee35a050c52a5c496ba588dbd496f9f0e612a42", func := "mainline/mainlinelaw03.PathsParts", spec := "pathsParts", unfollowed := true, recurses := true, named := ["mainline/paths.classes"], apart := false, laid := [("mainline/paths.classes", laid_mainline_paths_classes)] }
def PathsPartsSaid : Prop := pathsPartsRow.holds Tryd.pinned (OpenSpec.ofChange pathsPartsSpec)

/-- ITS FALSE NEIGHBOUR: 'it returns false'. Refute it at one input. -/
def pathsPartsWrong : ChangeSpec := { name := "pathsParts", fn := fun _ => fun
  | [d1, d2, d3] => { results := [.lit (.bool false)], args := [d1, d2, d3] }
  | _ => none }
def PathsPartsWrongFalsely : Prop := pathsPartsRow.holds Tryd.pinned (OpenSpec.ofChange pathsPartsWrong)

/-- 'mainlinelaw03.PathsUnder': WHATEVER THE INPUT: true; the input reads as it did. -/
def pathsUnderSpec : ChangeSpec := { name := "pathsUnder", fn := fun _ => fun
  | [d1, d2, d3] => { results := [.lit (.bool true)], args := [d1, d2, d3] }
  | _ => none }
def pathsUnderRow : OpenClaim := { program := "ytdbikaffmpkgpaadoor", sum := "e26edeb3b6fcfab4548ca98eeee35a050c52a5c496ba588dbd496f9f0e612a42", func := "mainline/mainlinelaw03.PathsUnder", spec := "pathsUnder", unfollowed := true, recurses := true, named := ["mainline/paths.classes"], apart := false, laid := [("mainline/paths.classes", laid_mainline_paths_classes)] }
def PathsUnderSaid : Prop := pathsUnderRow.holds Tryd.pinned (OpenSpec.ofChange pathsUnderSpec)

/-- ITS FALSE NEIGHBOUR: 'it returns false'. Refute it at one input. -/
def pathsUnderWrong : ChangeSpec := { name := "pathsUnder", fn := fun _ => fun
  | [d1, d2, d3] => { results := [.lit (.bool false)], args := [d1, d2, d3] }
  | _ => none }
def PathsUnderWrongFalsely : Prop := pathsUnderRow.holds Tryd.pinned (OpenSpec.ofChange pathsUnderWrong)

/-- 'mainlinelaw03.PathsLess': WHATEVER THE INPUT: true; the input reads as it did. -/
def pathsLessSpec : ChangeSpec := { name := "pathsLess", fn := fun _ => fun
  | [d1, d2, d3] => { results := [.lit (.bool true)], args := [d1, d2, d3] }
  | _ => none }
def pathsLessRow : OpenClaim := { program := "ytdbikaffmpkgpaadoor", sum := "e26edeb3b6fcfab4548ca98eeee35a050c52a5c496ba588dbd496f9f0e612a42", func := "mainline/mainlinelaw03.PathsLess", spec := "pathsLess", unfollowed := true, recurses := true, named := ["mainline/paths.classes"], apart := false, laid := [("mainline/paths.classes", laid_mainline_paths_classes)] }
def PathsLessSaid : Prop := pathsLessRow.holds Tryd.pinned (OpenSpec.ofChange pathsLessSpec)

/-- ITS FALSE NEIGHBOUR: 'it returns false'. Refute it at one input. -/
def pathsLessWrong : ChangeSpec := { name := "pathsLess", fn := fun _ => fun
  | [d1, d2, d3] => { results := [.lit (.bool false)], args := [d1, d2, d3] }
  | _ => none }
def PathsLessWrongFalsely : Prop := pathsLessRow.holds Tryd.pinned (OpenSpec.ofChange pathsLessWrong)

/-- 'mainlinelaw03.PathsFollow': WHATEVER THE INPUT: true; the input reads as it did. -/
def pathsFollowSpec : ChangeSpec := { name := "pathsFollow", fn := fun _ => fun
  | [d1, d2, d3] => { results := [.lit (.bool true)], args := [d1, d2, d3] }
  | _ => none }
def pathsFollowRow : OpenClaim := { program := "ytdbikaffmpkgpaadoor", sum := "e26edeb3b6fcfab4548ca98eeee35a050c52a5c496ba588dbd496f9f0e612a42", func := "mainline/mainlinelaw03.PathsFollow", spec := "pathsFollow", unfollowed := true, recurses := true, named := ["mainline/paths.classes"], apart := false, laid := [("mainline/paths.classes", laid_mainline_paths_classes)] }
def PathsFollowSaid : Prop := pathsFollowRow.holds Tryd.pinned (OpenSpec.ofChange pathsFollowSpec)

/-- ITS FALSE NEIGHBOUR: 'it returns false'. Refute it at one input. -/
def pathsFollowWrong : ChangeSpec := { name := "pathsFollow", fn := fun _ => fun
  | [d1, d2, d3] => { results := [.lit (.bool false)], args := [d1, d2, d3] }
  | _ => none }
def PathsFollowWrongFalsely : Prop := pathsFollowRow.holds Tryd.pinned (OpenSpec.ofChange pathsFollowWrong)

/-- 'mainlinelaw03.PathsPatterns': WHATEVER THE INPUT: true; the input reads as it did. -/
def pathsPatternsSpec : ChangeSpec := { name := "pathsPatterns", fn := fun _ => fun
  | [d1, d2, d3] => { results := [.lit (.bool true)], args := [d1, d2, d3] }
  | _ => none }
def pathsPatternsRow : OpenClaim := { program := "ytdbikaffmpkgpaadoor", sum := "e26edeb3b6fcfab4548ca98eeee35a050c52a5c496ba588dbd496f9f0e612a42", func := "mainline/mainlinelaw03.PathsPatterns", spec := "pathsPatterns", unfollowed := true, recurses := true, named := ["mainline/paths.classes"], apart := false, laid := [("mainline/paths.classes", laid_mainline_paths_classes)] }
def PathsPatternsSaid : Prop := pathsPatternsRow.holds Tryd.pinned (OpenSpec.ofChange pathsPatternsSpec)

/-- ITS FALSE NEIGHBOUR: 'it returns false'. Refute it at one input. -/
def pathsPatternsWrong : ChangeSpec := { name := "pathsPatterns", fn := fun _ => fun
  | [d1, d2, d3] => { results := [.lit (.bool false)], args := [d1, d2, d3] }
  | _ => none }
def PathsPatternsWrongFalsely : Prop := pathsPatternsRow.holds Tryd.pinned (OpenSpec.ofChange pathsPatternsWrong)

/-- 'mainlinelaw03.PathsMatches': WHATEVER THE INPUT: true; the input reads as it did. -/
def pathsMatchesSpec : ChangeSpec := { name := "pathsMatches", fn := fun _ => fun
  | [d1, d2, d3] => { results := [.lit (.bool true)], args := [d1, d2, d3] }
  | _ => none }
def pathsMatchesRow : OpenClaim := { program := "ytdbikaffmpkgpaadoor", sum := "e26edeb3b6fcfab4548ca98eeee35a050c52a5c496ba588dbd496f9f0e612a42", func := "mainline/mainlinelaw03.PathsMatches", spec := "pathsMatches", unfollowed := true, recurses := true, named := ["mainline/paths.classes"], apart := false, laid := [("mainline/paths.classes", laid_mainline_paths_classes)] }
def PathsMatchesSaid : Prop := pathsMatchesRow.holds Tryd.pinned (OpenSpec.ofChange pathsMatchesSpec)

/-- ITS FALSE NEIGHBOUR: 'it returns false'. Refute it at one input. -/
def pathsMatchesWrong : ChangeSpec := { name := "pathsMatches", fn := fun _ => fun
  | [d1, d2, d3] => { results := [.lit (.bool false)], args := [d1, d2, d3] }
  | _ => none }
def PathsMatchesWrongFalsely : Prop := pathsMatchesRow.holds Tryd.pinned (OpenSpec.ofChange pathsMatchesWrong)

/-- 'mainlinelaw03.PathsWild': WHATEVER THE INPUT: true; the input reads as it did. -/
def pathsWildSpec : ChangeSpec := { name := "pathsWild", fn := fun _ => fun
  | [d1, d2] => { results := [.lit (.bool true)], args := [d1, d2] }
  | _ => none }
def pathsWildRow : OpenClaim := { program := "ytdbikaffmpkgpaadoor", sum := "e26edeb3b6fcfab4548ca98eeee35a050c52a5c496ba588dbd496f9f0e612a42", func := "mainline/mainlinelaw03.PathsWild", spec := "pathsWild", unfollowed := true, recurses := true, named := ["mainline/paths.classes"], apart := false, laid := [("mainline/paths.classes", laid_mainline_paths_classes)] }
def PathsWildSaid : Prop := pathsWildRow.holds Tryd.pinned (OpenSpec.ofChange pathsWildSpec)

/-- ITS FALSE NEIGHBOUR: 'it returns false'. Refute it at one input. -/
def pathsWildWrong : ChangeSpec := { name := "pathsWild", fn := fun _ => fun
  | [d1, d2] => { results := [.lit (.bool false)], args := [d1, d2] }
  | _ => none }
def PathsWildWrongFalsely : Prop := pathsWildRow.holds Tryd.pinned (OpenSpec.ofChange pathsWildWrong)

/-- 'mainlinelaw03.PathsLiteral': WHATEVER THE INPUT: true; the input reads as it did. -/
def pathsLiteralSpec : ChangeSpec := { name := "pathsLiteral", fn := fun _ => fun
  | [d1, d2, d3] => { results := [.lit (.bool true)], args := [d1, d2, d3] }
  | _ => none }
def pathsLiteralRow : OpenClaim := { program := "ytdbikaffmpkgpaadoor", sum := "e26edeb3b6fcfab4548ca98eeee35a050c52a5c496ba588dbd496f9f0e612a42", func := "mainline/mainlinelaw03.PathsLiteral", spec := "pathsLiteral", unfollowed := true, recurses := true, named := ["mainline/paths.classes"], apart := false, laid := [("mainline/paths.classes", laid_mainline_paths_classes)] }
def PathsLiteralSaid : Prop := pathsLiteralRow.holds Tryd.pinned (OpenSpec.ofChange pathsLiteralSpec)

/-- ITS FALSE NEIGHBOUR: 'it returns false'. Refute it at one input. -/
def pathsLiteralWrong : ChangeSpec := { name := "pathsLiteral", fn := fun _ => fun
  | [d1, d2, d3] => { results := [.lit (.bool false)], args := [d1, d2, d3] }
  | _ => none }
def PathsLiteralWrongFalsely : Prop := pathsLiteralRow.holds Tryd.pinned (OpenSpec.ofChange pathsLiteralWrong)

/-- 'mainlinelaw03.PathsStars': WHATEVER THE INPUT: true; the input reads as it did. -/
def pathsStarsSpec : ChangeSpec := { name := "pathsStars", fn := fun _ => fun
  | [d1, d2, d3] => { results := [.lit (.bool true)], args := [d1, d2, d3] }
  | _ => none }
def pathsStarsRow : OpenClaim := { program := "ytdbikaffmpkgpaadoor", sum := "e26edeb3b6fcfab4548ca98eeee35a050c52a5c496ba588dbd496f9f0e612a42", func := "mainline/mainlinelaw03.PathsStars", spec := "pathsStars", unfollowed := true, recurses := true, named := ["mainline/paths.classes"], apart := false, laid := [("mainline/paths.classes", laid_mainline_paths_classes)] }
def PathsStarsSaid : Prop := pathsStarsRow.holds Tryd.pinned (OpenSpec.ofChange pathsStarsSpec)

/-- ITS FALSE NEIGHBOUR: 'it returns false'. Refute it at one input. -/
def pathsStarsWrong : ChangeSpec := { name := "pathsStars", fn := fun _ => fun
  | [d1, d2, d3] => { results := [.lit (.bool false)], args := [d1, d2, d3] }
  | _ => none }
def PathsStarsWrongFalsely : Prop := pathsStarsRow.holds Tryd.pinned (OpenSpec.ofChange pathsStarsWrong)

/- THE SECOND FORM. 'bulk': how many values and letters a reading holds, each counted each time it is reached (what is shared counts as often as it is met; a slice's spare places count too). A statement '..UptoSaid' is the law's where the arguments, and the package variables that the reading takes, are together of bulk at most 1048576: NARROWER than '..Said'. Prove '..Said' where nothing that the law and all that it calls make is longer than what came in: it says more and counts as full. Else prove '..UptoSaid'. A law counts once. -/
mutual
def uptoBulk {H : Type} : DataW H → Nat
  | .lit (.string bytes) => bytes.length + 1
  | .lit _ => 1
  | .nil => 1
  | .ptr d => uptoBulk d + 1
  | .slice elems spare => uptoBulkAll elems + uptoBulkAll spare + 1
  | .agg parts => uptoBulkAll parts + 1
  | .iface _ d => uptoBulk d + 1
  | .map entries => uptoBulkEntries entries + 1
  | .held _ => 1
def uptoBulkAll {H : Type} : List (DataW H) → Nat
  | [] => 0
  | d :: r => uptoBulk d + uptoBulkAll r
def uptoBulkEntries {H : Type} : List (Lit × DataW H) → Nat
  | [] => 0
  | x :: r => uptoBulkEntry x + uptoBulkEntries r
def uptoBulkEntry {H : Type} : Lit × DataW H → Nat
  | (.string bytes, d) => bytes.length + uptoBulk d + 1
  | (_, d) => uptoBulk d + 1
 end
def uptoSmall : (H : Type) → List (DataW H) → Bool := fun _ ds => decide (uptoBulkAll ds ≤ 1048576)
def OpenSpec.upto (s : _root_.Go.ChangeSpec) : _root_.Go.OpenSpec := { _root_.Go.OpenSpec.ofChange s with cond := some uptoSmall }

/-- 'mainlinelaw03.PathsValid', WHERE WHAT IT READS IS OF BULK AT MOST 1048576: true; the input reads as it did. -/
def pathsValidUptoRow : OpenClaim := { program := "ytdbikaffmpkgpaadoor", sum := "e26edeb3b6fcfab4548ca98eeee35a050c52a5c496ba588dbd496f9f0e612a42", func := "mainline/mainlinelaw03.PathsValid", spec := "pathsValid", unfollowed := true, recurses := true, named := ["mainline/paths.classes"], apart := false, laid := [("mainline/paths.classes", laid_mainline_paths_classes)], narrowed := true }
def PathsValidUptoSaid : Prop := pathsValidUptoRow.holds Tryd.pinned (OpenSpec.upto pathsValidSpec)

/-- 'mainlinelaw03.PathsLimits', WHERE WHAT IT READS IS OF BULK AT MOST 1048576: true; the input reads as it did. -/
def pathsLimitsUptoRow : OpenClaim := { program := "ytdbikaffmpkgpaadoor", sum := "e26edeb3b6fcfab4548ca98eeee35a050c52a5c496ba588dbd496f9f0e612a42", func := "mainline/mainlinelaw03.PathsLimits", spec := "pathsLimits", unfollowed := true, recurses := true, named := ["mainline/paths.classes"], apart := false, laid := [("mainline/paths.classes", laid_mainline_paths_classes)], narrowed := true }
def PathsLimitsUptoSaid : Prop := pathsLimitsUptoRow.holds Tryd.pinned (OpenSpec.upto pathsLimitsSpec)

/-- 'mainlinelaw03.PathsParts', WHERE WHAT IT READS IS OF BULK AT MOST 1048576: true; the input reads as it did. -/
def pathsPartsUptoRow : OpenClaim := { program := "ytdbikaffmpkgpaadoor", sum := "e26edeb3b6fcfab4548ca98eeee35a050c52a5c496ba588dbd496f9f0e612a42", func := "mainline/mainlinelaw03.PathsParts", spec := "pathsParts", unfollowed := true, recurses := true, named := ["mainline/paths.classes"], apart := false, laid := [("mainline/paths.classes", laid_mainline_paths_classes)], narrowed := true }
def PathsPartsUptoSaid : Prop := pathsPartsUptoRow.holds Tryd.pinned (OpenSpec.upto pathsPartsSpec)

/-- 'mainlinelaw03.PathsUnder', WHERE WHAT IT READS IS OF BULK AT MOST 1048576: true; the input reads as it did. -/
def pathsUnderUptoRow : OpenClaim := { program := "ytdbikaffmpkgpaadoor", sum := "e26edeb3b6fcfab4548ca98eeee35a050c52a5c496ba588dbd496f9f0e612a42", func := "mainline/mainlinelaw03.PathsUnder", spec := "pathsUnder", unfollowed := true, recurses := true, named := ["mainline/paths.classes"], apart := false, laid := [("mainline/paths.classes", laid_mainline_paths_classes)], narrowed := true }
def PathsUnderUptoSaid : Prop := pathsUnderUptoRow.holds Tryd.pinned (OpenSpec.upto pathsUnderSpec)

/-- 'mainlinelaw03.PathsLess', WHERE WHAT IT READS IS OF BULK AT MOST 1048576: true; the input reads as it did. -/
def pathsLessUptoRow : OpenClaim := { program := "ytdbikaffmpkgpaadoor", sum := "e26edeb3b6fcfab4548ca98eeee35a050c52a5c496ba588dbd496f9f0e612a42", func := "mainline/mainlinelaw03.PathsLess", spec := "pathsLess", unfollowed := true, recurses := true, named := ["mainline/paths.classes"], apart := false, laid := [("mainline/paths.classes", laid_mainline_paths_classes)], narrowed := true }
def PathsLessUptoSaid : Prop := pathsLessUptoRow.holds Tryd.pinned (OpenSpec.upto pathsLessSpec)

/-- 'mainlinelaw03.PathsFollow', WHERE WHAT IT READS IS OF BULK AT MOST 1048576: true; the input reads as it did. -/
def pathsFollowUptoRow : OpenClaim := { program := "ytdbikaffmpkgpaadoor", sum := "e26edeb3b6fcfab4548ca98eeee35a050c52a5c496ba588dbd496f9f0e612a42", func := "mainline/mainlinelaw03.PathsFollow", spec := "pathsFollow", unfollowed := true, recurses := true, named := ["mainline/paths.classes"], apart := false, laid := [("mainline/paths.classes", laid_mainline_paths_classes)], narrowed := true }
def PathsFollowUptoSaid : Prop := pathsFollowUptoRow.holds Tryd.pinned (OpenSpec.upto pathsFollowSpec)

/-- 'mainlinelaw03.PathsPatterns', WHERE WHAT IT READS IS OF BULK AT MOST 1048576: true; the input reads as it did. -/
def pathsPatternsUptoRow : OpenClaim := { program := "ytdbikaffmpkgpaadoor", sum := "e26edeb3b6fcfab4548ca98eeee35a050c52a5c496ba588dbd496f9f0e612a42", func := "mainline/mainlinelaw03.PathsPatterns", spec := "pathsPatterns", unfollowed := true, recurses := true, named := ["mainline/paths.classes"], apart := false, laid := [("mainline/paths.classes", laid_mainline_paths_classes)], narrowed := true }
def PathsPatternsUptoSaid : Prop := pathsPatternsUptoRow.holds Tryd.pinned (OpenSpec.upto pathsPatternsSpec)

/-- 'mainlinelaw03.PathsMatches', WHERE WHAT IT READS IS OF BULK AT MOST 1048576: true; the input reads as it did. -/
def pathsMatchesUptoRow : OpenClaim := { program := "ytdbikaffmpkgpaadoor", sum := "e26edeb3b6fcfab4548ca98eeee35a050c52a5c496ba588dbd496f9f0e612a42", func := "mainline/mainlinelaw03.PathsMatches", spec := "pathsMatches", unfollowed := true, recurses := true, named := ["mainline/paths.classes"], apart := false, laid := [("mainline/paths.classes", laid_mainline_paths_classes)], narrowed := true }
def PathsMatchesUptoSaid : Prop := pathsMatchesUptoRow.holds Tryd.pinned (OpenSpec.upto pathsMatchesSpec)

/-- 'mainlinelaw03.PathsWild', WHERE WHAT IT READS IS OF BULK AT MOST 1048576: true; the input reads as it did. -/
def pathsWildUptoRow : OpenClaim := { program := "ytdbikaffmpkgpaadoor", sum := "e26edeb3b6fcfab4548ca98eeee35a050c52a5c496ba588dbd496f9f0e612a42", func := "mainline/mainlinelaw03.PathsWild", spec := "pathsWild", unfollowed := true, recurses := true, named := ["mainline/paths.classes"], apart := false, laid := [("mainline/paths.classes", laid_mainline_paths_classes)], narrowed := true }
def PathsWildUptoSaid : Prop := pathsWildUptoRow.holds Tryd.pinned (OpenSpec.upto pathsWildSpec)

/-- 'mainlinelaw03.PathsLiteral', WHERE WHAT IT READS IS OF BULK AT MOST 1048576: true; the input reads as it did. -/
def pathsLiteralUptoRow : OpenClaim := { program := "ytdbikaffmpkgpaadoor", sum := "e26edeb3b6fcfab4548ca98eeee35a050c52a5c496ba588dbd496f9f0e612a42", func := "mainline/mainlinelaw03.PathsLiteral", spec := "pathsLiteral", unfollowed := true, recurses := true, named := ["mainline/paths.classes"], apart := false, laid := [("mainline/paths.classes", laid_mainline_paths_classes)], narrowed := true }
def PathsLiteralUptoSaid : Prop := pathsLiteralUptoRow.holds Tryd.pinned (OpenSpec.upto pathsLiteralSpec)

/-- 'mainlinelaw03.PathsStars', WHERE WHAT IT READS IS OF BULK AT MOST 1048576: true; the input reads as it did. -/
def pathsStarsUptoRow : OpenClaim := { program := "ytdbikaffmpkgpaadoor", sum := "e26edeb3b6fcfab4548ca98eeee35a050c52a5c496ba588dbd496f9f0e612a42", func := "mainline/mainlinelaw03.PathsStars", spec := "pathsStars", unfollowed := true, recurses := true, named := ["mainline/paths.classes"], apart := false, laid := [("mainline/paths.classes", laid_mainline_paths_classes)], narrowed := true }
def PathsStarsUptoSaid : Prop := pathsStarsUptoRow.holds Tryd.pinned (OpenSpec.upto pathsStarsSpec)

end Rows
end Go.Proofs.YtdbikaffmpkgpaaDoor
