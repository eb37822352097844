/-
  No cell of these rows narrows 'for every input' (looked for: loops, veiled, ifaces, maps, wideKeys, modest, calm, conditions, laid).
  DERIVED. THE GIVEN ROWS OF THIS SEAT. 11 by the template 'for every input the law returns true; each argument reads behind the call as it read before'; 0 by the template 'total and deterministic' (their statements: YtiikbekboapphaaTotals.lean).
  GIVEN WITH THE SEED: the statements are not yours to turn. If you find one false, say at which input.
  Laid BY PROGRAM, IN A SANDBOX (cutbox-rows.mjs): the forced cells as the released guide's own fill.sh prints them over the translation aec7adab1702ec26… (all of the seat's roots in one cut). By AI agents, Wed Nov 11 2026. No macro, syntax, notation, axiom, sorry.
-/
import Derived.Test.YtiikbekboapphaaChecked
import GoSem.Claim
import GoSem.ClaimJoined
import GoSem.ClaimMapViews
import Derived.JoinedTies
import Derived.KernelRfl
namespace Go.Proofs.Ytiikbekboapphaa
/- THE CELL 'sum', in the pinned program and in every row, IS THE sha256 OF THE DUMP (.gsa) THAT YtiikbekboapphaaProg.lean LOADS. Nothing in Lean hashes anything: it is a label: what it is worth is what the hold of that sum in a sandbox is worth. -/
noncomputable def Try.pinned : Pinned := { name := "ytiikbekboapphaa", sum := "aec7adab1702ec2627ef622dab8365ec47397e7dc65106a8507c38451207a2ee", checked := Try.checked }
namespace Rows
def none {H : Type} : Left H := { results := [], args := [] }

/-- 'mainlinelaw08.HistoryAdds': WHATEVER THE INPUT: true; the input reads as it did. -/
def historyAddsSpec : ChangeSpec := { name := "historyAdds", fn := fun _ => fun
  | [d1, d2, d3] => { results := [.lit (.bool true)], args := [d1, d2, d3] }
  | _ => none }
def historyAddsRow : OpenClaim := { program := "ytiikbekboapphaa", sum := "aec7adab1702ec2627ef622dab8365ec47397e7dc65106a8507c38451207a2ee", func := "mainline/mainlinelaw08.HistoryAdds", spec := "historyAdds", unfollowed := true, recurses := true, apart := false }
def HistoryAddsSaid : Prop := historyAddsRow.holds Try.pinned (OpenSpec.ofChange historyAddsSpec)

/-- ITS FALSE NEIGHBOUR: 'it returns false'. Refute it at one input. -/
def historyAddsWrong : ChangeSpec := { name := "historyAdds", fn := fun _ => fun
  | [d1, d2, d3] => { results := [.lit (.bool false)], args := [d1, d2, d3] }
  | _ => none }
def HistoryAddsWrongFalsely : Prop := historyAddsRow.holds Try.pinned (OpenSpec.ofChange historyAddsWrong)

/-- 'mainlinelaw08.HistoryParents': WHATEVER THE INPUT: true; the input reads as it did. -/
def historyParentsSpec : ChangeSpec := { name := "historyParents", fn := fun _ => fun
  | [d1, d2] => { results := [.lit (.bool true)], args := [d1, d2] }
  | _ => none }
def historyParentsRow : OpenClaim := { program := "ytiikbekboapphaa", sum := "aec7adab1702ec2627ef622dab8365ec47397e7dc65106a8507c38451207a2ee", func := "mainline/mainlinelaw08.HistoryParents", spec := "historyParents", unfollowed := true, recurses := true, apart := false }
def HistoryParentsSaid : Prop := historyParentsRow.holds Try.pinned (OpenSpec.ofChange historyParentsSpec)

/-- ITS FALSE NEIGHBOUR: 'it returns false'. Refute it at one input. -/
def historyParentsWrong : ChangeSpec := { name := "historyParents", fn := fun _ => fun
  | [d1, d2] => { results := [.lit (.bool false)], args := [d1, d2] }
  | _ => none }
def HistoryParentsWrongFalsely : Prop := historyParentsRow.holds Try.pinned (OpenSpec.ofChange historyParentsWrong)

/-- 'mainlinelaw08.HistoryAncestors': WHATEVER THE INPUT: true; the input reads as it did. -/
def historyAncestorsSpec : ChangeSpec := { name := "historyAncestors", fn := fun _ => fun
  | [d1, d2, d3] => { results := [.lit (.bool true)], args := [d1, d2, d3] }
  | _ => none }
def historyAncestorsRow : OpenClaim := { program := "ytiikbekboapphaa", sum := "aec7adab1702ec2627ef622dab8365ec47397e7dc65106a8507c38451207a2ee", func := "mainline/mainlinelaw08.HistoryAncestors", spec := "historyAncestors", unfollowed := true, recurses := true, apart := false }
def HistoryAncestorsSaid : Prop := historyAncestorsRow.holds Try.pinned (OpenSpec.ofChange historyAncestorsSpec)

/-- ITS FALSE NEIGHBOUR: 'it returns false'. Refute it at one input. -/
def historyAncestorsWrong : ChangeSpec := { name := "historyAncestors", fn := fun _ => fun
  | [d1, d2, d3] => { results := [.lit (.bool false)], args := [d1, d2, d3] }
  | _ => none }
def HistoryAncestorsWrongFalsely : Prop := historyAncestorsRow.holds Try.pinned (OpenSpec.ofChange historyAncestorsWrong)

/-- 'mainlinelaw08.HistoryBases': WHATEVER THE INPUT: true; the input reads as it did. -/
def historyBasesSpec : ChangeSpec := { name := "historyBases", fn := fun _ => fun
  | [d1, d2, d3] => { results := [.lit (.bool true)], args := [d1, d2, d3] }
  | _ => none }
def historyBasesRow : OpenClaim := { program := "ytiikbekboapphaa", sum := "aec7adab1702ec2627ef622dab8365ec47397e7dc65106a8507c38451207a2ee", func := "mainline/mainlinelaw08.HistoryBases", spec := "historyBases", unfollowed := true, recurses := true, apart := false }
def HistoryBasesSaid : Prop := historyBasesRow.holds Try.pinned (OpenSpec.ofChange historyBasesSpec)

/-- ITS FALSE NEIGHBOUR: 'it returns false'. Refute it at one input. -/
def historyBasesWrong : ChangeSpec := { name := "historyBases", fn := fun _ => fun
  | [d1, d2, d3] => { results := [.lit (.bool false)], args := [d1, d2, d3] }
  | _ => none }
def HistoryBasesWrongFalsely : Prop := historyBasesRow.holds Try.pinned (OpenSpec.ofChange historyBasesWrong)

/-- 'mainlinelaw08.HistoryLogs': WHATEVER THE INPUT: true; the input reads as it did. -/
def historyLogsSpec : ChangeSpec := { name := "historyLogs", fn := fun _ => fun
  | [d1, d2, d3] => { results := [.lit (.bool true)], args := [d1, d2, d3] }
  | _ => none }
def historyLogsRow : OpenClaim := { program := "ytiikbekboapphaa", sum := "aec7adab1702ec2627ef622dab8365ec47397e7dc65106a8507c38451207a2ee", func := "mainline/mainlinelaw08.HistoryLogs", spec := "historyLogs", unfollowed := true, recurses := true, apart := false }
def HistoryLogsSaid : Prop := historyLogsRow.holds Try.pinned (OpenSpec.ofChange historyLogsSpec)

/-- ITS FALSE NEIGHBOUR: 'it returns false'. Refute it at one input. -/
def historyLogsWrong : ChangeSpec := { name := "historyLogs", fn := fun _ => fun
  | [d1, d2, d3] => { results := [.lit (.bool false)], args := [d1, d2, d3] }
  | _ => none }
def HistoryLogsWrongFalsely : Prop := historyLogsRow.holds Try.pinned (OpenSpec.ofChange historyLogsWrong)

/-- 'mainlinelaw08.HistoryWalks': WHATEVER THE INPUT: true; the input reads as it did. -/
def historyWalksSpec : ChangeSpec := { name := "historyWalks", fn := fun _ => fun
  | [d1, d2, d3] => { results := [.lit (.bool true)], args := [d1, d2, d3] }
  | _ => none }
def historyWalksRow : OpenClaim := { program := "ytiikbekboapphaa", sum := "aec7adab1702ec2627ef622dab8365ec47397e7dc65106a8507c38451207a2ee", func := "mainline/mainlinelaw08.HistoryWalks", spec := "historyWalks", unfollowed := true, recurses := true, apart := false }
def HistoryWalksSaid : Prop := historyWalksRow.holds Try.pinned (OpenSpec.ofChange historyWalksSpec)

/-- ITS FALSE NEIGHBOUR: 'it returns false'. Refute it at one input. -/
def historyWalksWrong : ChangeSpec := { name := "historyWalks", fn := fun _ => fun
  | [d1, d2, d3] => { results := [.lit (.bool false)], args := [d1, d2, d3] }
  | _ => none }
def HistoryWalksWrongFalsely : Prop := historyWalksRow.holds Try.pinned (OpenSpec.ofChange historyWalksWrong)

/-- 'mainlinelaw08.HistoryOrder': WHATEVER THE INPUT: true; the input reads as it did. -/
def historyOrderSpec : ChangeSpec := { name := "historyOrder", fn := fun _ => fun
  | [d1, d2] => { results := [.lit (.bool true)], args := [d1, d2] }
  | _ => none }
def historyOrderRow : OpenClaim := { program := "ytiikbekboapphaa", sum := "aec7adab1702ec2627ef622dab8365ec47397e7dc65106a8507c38451207a2ee", func := "mainline/mainlinelaw08.HistoryOrder", spec := "historyOrder", unfollowed := true, recurses := true, apart := false }
def HistoryOrderSaid : Prop := historyOrderRow.holds Try.pinned (OpenSpec.ofChange historyOrderSpec)

/-- ITS FALSE NEIGHBOUR: 'it returns false'. Refute it at one input. -/
def historyOrderWrong : ChangeSpec := { name := "historyOrder", fn := fun _ => fun
  | [d1, d2] => { results := [.lit (.bool false)], args := [d1, d2] }
  | _ => none }
def HistoryOrderWrongFalsely : Prop := historyOrderRow.holds Try.pinned (OpenSpec.ofChange historyOrderWrong)

/-- 'mainlinelaw08.HistoryLines': WHATEVER THE INPUT: true; the input reads as it did. -/
def historyLinesSpec : ChangeSpec := { name := "historyLines", fn := fun _ => fun
  | [d1, d2] => { results := [.lit (.bool true)], args := [d1, d2] }
  | _ => none }
def historyLinesRow : OpenClaim := { program := "ytiikbekboapphaa", sum := "aec7adab1702ec2627ef622dab8365ec47397e7dc65106a8507c38451207a2ee", func := "mainline/mainlinelaw08.HistoryLines", spec := "historyLines", unfollowed := true, recurses := true, apart := false }
def HistoryLinesSaid : Prop := historyLinesRow.holds Try.pinned (OpenSpec.ofChange historyLinesSpec)

/-- ITS FALSE NEIGHBOUR: 'it returns false'. Refute it at one input. -/
def historyLinesWrong : ChangeSpec := { name := "historyLines", fn := fun _ => fun
  | [d1, d2] => { results := [.lit (.bool false)], args := [d1, d2] }
  | _ => none }
def HistoryLinesWrongFalsely : Prop := historyLinesRow.holds Try.pinned (OpenSpec.ofChange historyLinesWrong)

/-- 'mainlinelaw08.HistoryGrows': WHATEVER THE INPUT: true; the input reads as it did. -/
def historyGrowsSpec : ChangeSpec := { name := "historyGrows", fn := fun _ => fun
  | [d1, d2, d3] => { results := [.lit (.bool true)], args := [d1, d2, d3] }
  | _ => none }
def historyGrowsRow : OpenClaim := { program := "ytiikbekboapphaa", sum := "aec7adab1702ec2627ef622dab8365ec47397e7dc65106a8507c38451207a2ee", func := "mainline/mainlinelaw08.HistoryGrows", spec := "historyGrows", unfollowed := true, recurses := true, apart := false }
def HistoryGrowsSaid : Prop := historyGrowsRow.holds Try.pinned (OpenSpec.ofChange historyGrowsSpec)

/-- ITS FALSE NEIGHBOUR: 'it returns false'. Refute it at one input. -/
def historyGrowsWrong : ChangeSpec := { name := "historyGrows", fn := fun _ => fun
  | [d1, d2, d3] => { results := [.lit (.bool false)], args := [d1, d2, d3] }
  | _ => none }
def HistoryGrowsWrongFalsely : Prop := historyGrowsRow.holds Try.pinned (OpenSpec.ofChange historyGrowsWrong)

/-- 'mainlinelaw08.HistoryOwns': WHATEVER THE INPUT: true; the input reads as it did. -/
def historyOwnsSpec : ChangeSpec := { name := "historyOwns", fn := fun _ => fun
  | [d1, d2] => { results := [.lit (.bool true)], args := [d1, d2] }
  | _ => none }
def historyOwnsRow : OpenClaim := { program := "ytiikbekboapphaa", sum := "aec7adab1702ec2627ef622dab8365ec47397e7dc65106a8507c38451207a2ee", func := "mainline/mainlinelaw08.HistoryOwns", spec := "historyOwns", unfollowed := true, recurses := true, apart := false }
def HistoryOwnsSaid : Prop := historyOwnsRow.holds Try.pinned (OpenSpec.ofChange historyOwnsSpec)

/-- ITS FALSE NEIGHBOUR: 'it returns false'. Refute it at one input. -/
def historyOwnsWrong : ChangeSpec := { name := "historyOwns", fn := fun _ => fun
  | [d1, d2] => { results := [.lit (.bool false)], args := [d1, d2] }
  | _ => none }
def HistoryOwnsWrongFalsely : Prop := historyOwnsRow.holds Try.pinned (OpenSpec.ofChange historyOwnsWrong)

/-- 'mainlinelaw08.HistoryNil': WHATEVER THE INPUT: true; the input reads as it did. -/
def historyNilSpec : ChangeSpec := { name := "historyNil", fn := fun _ => fun
  | [d1, d2] => { results := [.lit (.bool true)], args := [d1, d2] }
  | _ => none }
def historyNilRow : OpenClaim := { program := "ytiikbekboapphaa", sum := "aec7adab1702ec2627ef622dab8365ec47397e7dc65106a8507c38451207a2ee", func := "mainline/mainlinelaw08.HistoryNil", spec := "historyNil", unfollowed := true, recurses := true, apart := false }
def HistoryNilSaid : Prop := historyNilRow.holds Try.pinned (OpenSpec.ofChange historyNilSpec)

/-- ITS FALSE NEIGHBOUR: 'it returns false'. Refute it at one input. -/
def historyNilWrong : ChangeSpec := { name := "historyNil", fn := fun _ => fun
  | [d1, d2] => { results := [.lit (.bool false)], args := [d1, d2] }
  | _ => none }
def HistoryNilWrongFalsely : Prop := historyNilRow.holds Try.pinned (OpenSpec.ofChange historyNilWrong)

/- THE SECOND FORM. 'bulk': how many values and letters a reading holds, each counted each time it is reached (what is shared counts as often as it is met; a slice's spare places count too). A statement '..UptoSaid' is the law's where the arguments, and the package variables that the reading takes, are together of bulk at most 1048576: NARROWER than '..Said'. Prove '..Said' where nothing that the law and all that it calls make is longer than what came in: it says more and counts as full. Else prove '..UptoSaid'. A law counts once. -/
mutual
def uptoBulk {H : Type} : DataW H → Nat
  | .lit (.string bytes) => bytes.length + 1
  | .lit _ => 1
  | .nil => 1
  | .ptr d => uptoBulk d + 1
  | .slice elems spare => uptoBulkAll elems + uptoBulkAll spare + 1
  | .agg parts => uptoBulkAll parts + 1
  | .iface _ d => uptoBulk d + 1
  | .map entries => uptoBulkEntries entries + 1
  | .held _ => 1
def uptoBulkAll {H : Type} : List (DataW H) → Nat
  | [] => 0
  | d :: r => uptoBulk d + uptoBulkAll r
def uptoBulkEntries {H : Type} : List (Lit × DataW H) → Nat
  | [] => 0
  | x :: r => uptoBulkEntry x + uptoBulkEntries r
def uptoBulkEntry {H : Type} : Lit × DataW H → Nat
  | (.string bytes, d) => bytes.length + uptoBulk d + 1
  | (_, d) => uptoBulk d + 1
 end
def uptoSmall : (H : Type) → List (DataW H) → Bool := fun _ ds => decide (uptoBulkAll ds ≤ 1048576)
def OpenSpec.upto (s : _root_.Go.ChangeSpec) : _root_.Go.OpenSpec := { _root_.Go.OpenSpec.ofChange s with cond := some uptoSmall }

/-- 'mainlinelaw08.HistoryAdds', WHERE WHAT IT READS IS OF BULK AT MOST 1048576: true; the input reads as it did. -/
def historyAddsUptoRow : OpenClaim := { program := "ytiikbekboapphaa", sum := "aec7adab1702ec2627ef622dab8365ec47397e7dc65106a8507c38451207a2ee", func := "mainline/mainlinelaw08.HistoryAdds", spec := "historyAdds", unfollowed := true, recurses := true, apart := false, narrowed := true }
def HistoryAddsUptoSaid : Prop := historyAddsUptoRow.holds Try.pinned (OpenSpec.upto historyAddsSpec)

/-- 'mainlinelaw08.HistoryParents', WHERE WHAT IT READS IS OF BULK AT MOST 1048576: true; the input reads as it did. -/
def historyParentsUptoRow : OpenClaim := { program := "ytiikbekboapphaa", sum := "aec7adab1702ec2627ef622dab8365ec47397e7dc65106a8507c38451207a2ee", func := "mainline/mainlinelaw08.HistoryParents", spec := "historyParents", unfollowed := true, recurses := true, apart := false, narrowed := true }
def HistoryParentsUptoSaid : Prop := historyParentsUptoRow.holds Try.pinned (OpenSpec.upto historyParentsSpec)

/-- 'mainlinelaw08.HistoryAncestors', WHERE WHAT IT READS IS OF BULK AT MOST 1048576: true; the input reads as it did. -/
def historyAncestorsUptoRow : OpenClaim := { program := "ytiikbekboapphaa", sum := "aec7adab1702ec2627ef622dab8365ec47397e7dc65106a8507c38451207a2ee", func := "mainline/mainlinelaw08.HistoryAncestors", spec := "historyAncestors", unfollowed := true, recurses := true, apart := false, narrowed := true }
def HistoryAncestorsUptoSaid : Prop := historyAncestorsUptoRow.holds Try.pinned (OpenSpec.upto historyAncestorsSpec)

/-- 'mainlinelaw08.HistoryBases', WHERE WHAT IT READS IS OF BULK AT MOST 1048576: true; the input reads as it did. -/
def historyBasesUptoRow : OpenClaim := { program := "ytiikbekboapphaa", sum := "aec7adab1702ec2627ef622dab8365ec47397e7dc65106a8507c38451207a2ee", func := "mainline/mainlinelaw08.HistoryBases", spec := "historyBases", unfollowed := true, recurses := true, apart := false, narrowed := true }
def HistoryBasesUptoSaid : Prop := historyBasesUptoRow.holds Try.pinned (OpenSpec.upto historyBasesSpec)

/-- 'mainlinelaw08.HistoryLogs', WHERE WHAT IT READS IS OF BULK AT MOST 1048576: true; the input reads as it did. -/
def historyLogsUptoRow : OpenClaim := { program := "ytiikbekboapphaa", sum := "aec7adab1702ec2627ef622dab8365ec47397e7dc65106a8507c38451207a2ee", func := "mainline/mainlinelaw08.HistoryLogs", spec := "historyLogs", unfollowed := true, recurses := true, apart := false, narrowed := true }
def HistoryLogsUptoSaid : Prop := historyLogsUptoRow.holds Try.pinned (OpenSpec.upto historyLogsSpec)

/-- 'mainlinelaw08.HistoryWalks', WHERE WHAT IT READS IS OF BULK AT MOST 1048576: true; the input reads as it did. -/
def historyWalksUptoRow : OpenClaim := { program := "ytiikbekboapphaa", sum := "aec7adab1702ec2627ef622dab8365ec47397e7dc65106a8507c38451207a2ee", func := "mainline/mainlinelaw08.HistoryWalks", spec := "historyWalks", unfollowed := true, recurses := true, apart := false, narrowed := true }
def HistoryWalksUptoSaid : Prop := historyWalksUptoRow.holds Try.pinned (OpenSpec.upto historyWalksSpec)

/-- 'mainlinelaw08.HistoryOrder', WHERE WHAT IT READS IS OF BULK AT MOST 1048576: true; the input reads as it did. -/
def historyOrderUptoRow : OpenClaim := { program := "ytiikbekboapphaa", sum := "aec7adab1702ec2627ef622dab8365ec47397e7dc65106a8507c38451207a2ee", func := "mainline/mainlinelaw08.HistoryOrder", spec := "historyOrder", unfollowed := true, recurses := true, apart := false, narrowed := true }
def HistoryOrderUptoSaid : Prop := historyOrderUptoRow.holds Try.pinned (OpenSpec.upto historyOrderSpec)

/-- 'mainlinelaw08.HistoryLines', WHERE WHAT IT READS IS OF BULK AT MOST 1048576: true; the input reads as it did. -/
def historyLinesUptoRow : OpenClaim := { program := "ytiikbekboapphaa", sum := "aec7adab1702ec2627ef622dab8365ec47397e7dc65106a8507c38451207a2ee", func := "mainline/mainlinelaw08.HistoryLines", spec := "historyLines", unfollowed := true, recurses := true, apart := false, narrowed := true }
def HistoryLinesUptoSaid : Prop := historyLinesUptoRow.holds Try.pinned (OpenSpec.upto historyLinesSpec)

/-- 'mainlinelaw08.HistoryGrows', WHERE WHAT IT READS IS OF BULK AT MOST 1048576: true; the input reads as it did. -/
def historyGrowsUptoRow : OpenClaim := { program := "ytiikbekboapphaa", sum := "aec7adab1702ec2627ef622dab8365ec47397e7dc65106a8507c38451207a2ee", func := "mainline/mainlinelaw08.HistoryGrows", spec := "historyGrows", unfollowed := true, recurses := true, apart := false, narrowed := true }
def HistoryGrowsUptoSaid : Prop := historyGrowsUptoRow.holds Try.pinned (OpenSpec.upto historyGrowsSpec)

/-- 'mainlinelaw08.HistoryOwns', WHERE WHAT IT READS IS OF BULK AT MOST 1048576: true; the input reads as it did. -/
def historyOwnsUptoRow : OpenClaim := { program := "ytiikbekboapphaa", sum := "aec7adab1702ec2627ef622dab8365ec47397e7dc65106a8507c38451207a2ee", func := "mainline/mainlinelaw08.HistoryOwns", spec := "historyOwns", unfollowed := true, recurses := true, apart := false, narrowed := true }
def HistoryOwnsUptoSaid : Prop := historyOwnsUptoRow.holds Try.pinned (OpenSpec.upto historyOwnsSpec)

/-- 'mainlinelaw08.HistoryNil', WHERE WHAT IT READS IS OF BULK AT MOST 1048576: true; the input reads as it did. -/
def historyNilUptoRow : OpenClaim := { program := "ytiikbekboapphaa", sum := "aec7adab1702ec2627ef622dab8365ec47397e7dc65106a8507c38451207a2ee", func := "mainline/mainlinelaw08.HistoryNil", spec := "historyNil", unfollowed := true, recurses := true, apart := false, narrowed := true }
def HistoryNilUptoSaid : Prop := historyNilUptoRow.holds Try.pinned (OpenSpec.upto historyNilSpec)

end Rows
end Go.Proofs.Ytiikbekboapphaa
