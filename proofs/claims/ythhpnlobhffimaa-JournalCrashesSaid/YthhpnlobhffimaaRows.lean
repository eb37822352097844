/-
  No cell of these rows narrows 'for every input' (looked for: loops, veiled, ifaces, maps, wideKeys, modest, calm, conditions, laid).
  DERIVED. THE GIVEN ROWS OF THIS SEAT. 9 by the template 'for every input the law returns true; each argument reads behind the call as it read before'; 0 by the template 'total and deterministic' (their statements: YthhpnlobhffimaaTotals.lean).
  GIVEN WITH THE SEED: the statements are not yours to turn. If you find one false, say at which input.
  Laid BY PROGRAM, IN A SANDBOX (cutbox-rows.mjs): the forced cells as the released guide's own fill.sh prints them over the translation d98b9a748aff7b56… (all of the seat's roots in one cut). By AI agents, Wed Nov 11 2026. No macro, syntax, notation, axiom, sorry.
-/
import Derived.Test.YthhpnlobhffimaaChecked
import GoSem.Claim
import GoSem.ClaimJoined
import GoSem.ClaimMapViews
import Derived.JoinedTies
import Derived.KernelRfl
namespace Go.Proofs.Ythhpnlobhffimaa
/- THE CELL 'sum', in the pinned program and in every row, IS THE sha256 OF THE DUMP (.gsa) THAT YthhpnlobhffimaaProg.lean LOADS. Nothing in Lean hashes anything: it is a label: what it is worth is what the hold of that sum in a sandbox is worth. -/
noncomputable def Try.pinned : Pinned := { name := "ythhpnlobhffimaa", sum := "d98b9a748aff7b567fe99089a9695b8eb1b7bf21f7e4ce3f58728b27dc7be8cc", checked := Try.checked }
namespace Rows
def none {H : Type} : Left H := { results := [], args := [] }

/-- 'mainlinelaw10.JournalBack': WHATEVER THE INPUT: true; the input reads as it did. -/
def journalBackSpec : ChangeSpec := { name := "journalBack", fn := fun _ => fun
  | [d1, d2] => { results := [.lit (.bool true)], args := [d1, d2] }
  | _ => none }
def journalBackRow : OpenClaim := { program := "ythhpnlobhffimaa", sum := "d98b9a748aff7b567fe99089a9695b8eb1b7bf21f7e4ce3f58728b27dc7be8cc", func := "mainline/mainlinelaw10.JournalBack", spec := "journalBack", unfollowed := true, recurses := true, apart := false }
def JournalBackSaid : Prop := journalBackRow.holds Try.pinned (OpenSpec.ofChange journalBackSpec)

/-- ITS FALSE NEIGHBOUR: 'it returns false'. Refute it at one input. -/
def journalBackWrong : ChangeSpec := { name := "journalBack", fn := fun _ => fun
  | [d1, d2] => { results := [.lit (.bool false)], args := [d1, d2] }
  | _ => none }
def JournalBackWrongFalsely : Prop := journalBackRow.holds Try.pinned (OpenSpec.ofChange journalBackWrong)

/-- 'mainlinelaw10.JournalBytes': WHATEVER THE INPUT: true; the input reads as it did. -/
def journalBytesSpec : ChangeSpec := { name := "journalBytes", fn := fun _ => fun
  | [d1, d2] => { results := [.lit (.bool true)], args := [d1, d2] }
  | _ => none }
def journalBytesRow : OpenClaim := { program := "ythhpnlobhffimaa", sum := "d98b9a748aff7b567fe99089a9695b8eb1b7bf21f7e4ce3f58728b27dc7be8cc", func := "mainline/mainlinelaw10.JournalBytes", spec := "journalBytes", unfollowed := true, recurses := true, apart := false }
def JournalBytesSaid : Prop := journalBytesRow.holds Try.pinned (OpenSpec.ofChange journalBytesSpec)

/-- ITS FALSE NEIGHBOUR: 'it returns false'. Refute it at one input. -/
def journalBytesWrong : ChangeSpec := { name := "journalBytes", fn := fun _ => fun
  | [d1, d2] => { results := [.lit (.bool false)], args := [d1, d2] }
  | _ => none }
def JournalBytesWrongFalsely : Prop := journalBytesRow.holds Try.pinned (OpenSpec.ofChange journalBytesWrong)

/-- 'mainlinelaw10.JournalOpens': WHATEVER THE INPUT: true; the input reads as it did. -/
def journalOpensSpec : ChangeSpec := { name := "journalOpens", fn := fun _ => fun
  | [d1, d2] => { results := [.lit (.bool true)], args := [d1, d2] }
  | _ => none }
def journalOpensRow : OpenClaim := { program := "ythhpnlobhffimaa", sum := "d98b9a748aff7b567fe99089a9695b8eb1b7bf21f7e4ce3f58728b27dc7be8cc", func := "mainline/mainlinelaw10.JournalOpens", spec := "journalOpens", unfollowed := true, recurses := true, apart := false }
def JournalOpensSaid : Prop := journalOpensRow.holds Try.pinned (OpenSpec.ofChange journalOpensSpec)

/-- ITS FALSE NEIGHBOUR: 'it returns false'. Refute it at one input. -/
def journalOpensWrong : ChangeSpec := { name := "journalOpens", fn := fun _ => fun
  | [d1, d2] => { results := [.lit (.bool false)], args := [d1, d2] }
  | _ => none }
def JournalOpensWrongFalsely : Prop := journalOpensRow.holds Try.pinned (OpenSpec.ofChange journalOpensWrong)

/-- 'mainlinelaw10.JournalCrashes': WHATEVER THE INPUT: true; the input reads as it did. -/
def journalCrashesSpec : ChangeSpec := { name := "journalCrashes", fn := fun _ => fun
  | [d] => { results := [.lit (.bool true)], args := [d] }
  | _ => none }
def journalCrashesRow : OpenClaim := { program := "ythhpnlobhffimaa", sum := "d98b9a748aff7b567fe99089a9695b8eb1b7bf21f7e4ce3f58728b27dc7be8cc", func := "mainline/mainlinelaw10.JournalCrashes", spec := "journalCrashes", unfollowed := true, recurses := true, apart := false }
def JournalCrashesSaid : Prop := journalCrashesRow.holds Try.pinned (OpenSpec.ofChange journalCrashesSpec)

/-- ITS FALSE NEIGHBOUR: 'it returns false'. Refute it at one input. -/
def journalCrashesWrong : ChangeSpec := { name := "journalCrashes", fn := fun _ => fun
  | [d] => { results := [.lit (.bool false)], args := [d] }
  | _ => none }
def JournalCrashesWrongFalsely : Prop := journalCrashesRow.holds Try.pinned (OpenSpec.ofChange journalCrashesWrong)

/-- 'mainlinelaw10.JournalEveryCall': WHATEVER THE INPUT: true; the input reads as it did. -/
def journalEveryCallSpec : ChangeSpec := { name := "journalEveryCall", fn := fun _ => fun
  | [d1, d2] => { results := [.lit (.bool true)], args := [d1, d2] }
  | _ => none }
def journalEveryCallRow : OpenClaim := { program := "ythhpnlobhffimaa", sum := "d98b9a748aff7b567fe99089a9695b8eb1b7bf21f7e4ce3f58728b27dc7be8cc", func := "mainline/mainlinelaw10.JournalEveryCall", spec := "journalEveryCall", unfollowed := true, recurses := true, apart := false }
def JournalEveryCallSaid : Prop := journalEveryCallRow.holds Try.pinned (OpenSpec.ofChange journalEveryCallSpec)

/-- ITS FALSE NEIGHBOUR: 'it returns false'. Refute it at one input. -/
def journalEveryCallWrong : ChangeSpec := { name := "journalEveryCall", fn := fun _ => fun
  | [d1, d2] => { results := [.lit (.bool false)], args := [d1, d2] }
  | _ => none }
def JournalEveryCallWrongFalsely : Prop := journalEveryCallRow.holds Try.pinned (OpenSpec.ofChange journalEveryCallWrong)

/-- 'mainlinelaw10.JournalAfter': WHATEVER THE INPUT: true; the input reads as it did. -/
def journalAfterSpec : ChangeSpec := { name := "journalAfter", fn := fun _ => fun
  | [d1, d2, d3] => { results := [.lit (.bool true)], args := [d1, d2, d3] }
  | _ => none }
def journalAfterRow : OpenClaim := { program := "ythhpnlobhffimaa", sum := "d98b9a748aff7b567fe99089a9695b8eb1b7bf21f7e4ce3f58728b27dc7be8cc", func := "mainline/mainlinelaw10.JournalAfter", spec := "journalAfter", unfollowed := true, recurses := true, apart := false }
def JournalAfterSaid : Prop := journalAfterRow.holds Try.pinned (OpenSpec.ofChange journalAfterSpec)

/-- ITS FALSE NEIGHBOUR: 'it returns false'. Refute it at one input. -/
def journalAfterWrong : ChangeSpec := { name := "journalAfter", fn := fun _ => fun
  | [d1, d2, d3] => { results := [.lit (.bool false)], args := [d1, d2, d3] }
  | _ => none }
def JournalAfterWrongFalsely : Prop := journalAfterRow.holds Try.pinned (OpenSpec.ofChange journalAfterWrong)

/-- 'mainlinelaw10.JournalStale': WHATEVER THE INPUT: true; the input reads as it did. -/
def journalStaleSpec : ChangeSpec := { name := "journalStale", fn := fun _ => fun
  | [d1, d2, d3] => { results := [.lit (.bool true)], args := [d1, d2, d3] }
  | _ => none }
def journalStaleRow : OpenClaim := { program := "ythhpnlobhffimaa", sum := "d98b9a748aff7b567fe99089a9695b8eb1b7bf21f7e4ce3f58728b27dc7be8cc", func := "mainline/mainlinelaw10.JournalStale", spec := "journalStale", unfollowed := true, recurses := true, apart := false }
def JournalStaleSaid : Prop := journalStaleRow.holds Try.pinned (OpenSpec.ofChange journalStaleSpec)

/-- ITS FALSE NEIGHBOUR: 'it returns false'. Refute it at one input. -/
def journalStaleWrong : ChangeSpec := { name := "journalStale", fn := fun _ => fun
  | [d1, d2, d3] => { results := [.lit (.bool false)], args := [d1, d2, d3] }
  | _ => none }
def JournalStaleWrongFalsely : Prop := journalStaleRow.holds Try.pinned (OpenSpec.ofChange journalStaleWrong)

/-- 'mainlinelaw10.JournalLimit': WHATEVER THE INPUT: true; the input reads as it did. -/
def journalLimitSpec : ChangeSpec := { name := "journalLimit", fn := fun _ => fun
  | [] => { results := [.lit (.bool true)], args := [] }
  | _ => none }
def journalLimitRow : OpenClaim := { program := "ythhpnlobhffimaa", sum := "d98b9a748aff7b567fe99089a9695b8eb1b7bf21f7e4ce3f58728b27dc7be8cc", func := "mainline/mainlinelaw10.JournalLimit", spec := "journalLimit", unfollowed := true, recurses := true, apart := false }
def JournalLimitSaid : Prop := journalLimitRow.holds Try.pinned (OpenSpec.ofChange journalLimitSpec)

/-- ITS FALSE NEIGHBOUR: 'it returns false'. Refute it at one input. -/
def journalLimitWrong : ChangeSpec := { name := "journalLimit", fn := fun _ => fun
  | [] => { results := [.lit (.bool false)], args := [] }
  | _ => none }
def JournalLimitWrongFalsely : Prop := journalLimitRow.holds Try.pinned (OpenSpec.ofChange journalLimitWrong)

/-- 'mainlinelaw10.JournalNil': WHATEVER THE INPUT: true; the input reads as it did. -/
def journalNilSpec : ChangeSpec := { name := "journalNil", fn := fun _ => fun
  | [d] => { results := [.lit (.bool true)], args := [d] }
  | _ => none }
def journalNilRow : OpenClaim := { program := "ythhpnlobhffimaa", sum := "d98b9a748aff7b567fe99089a9695b8eb1b7bf21f7e4ce3f58728b27dc7be8cc", func := "mainline/mainlinelaw10.JournalNil", spec := "journalNil", unfollowed := true, recurses := true, apart := false }
def JournalNilSaid : Prop := journalNilRow.holds Try.pinned (OpenSpec.ofChange journalNilSpec)

/-- ITS FALSE NEIGHBOUR: 'it returns false'. Refute it at one input. -/
def journalNilWrong : ChangeSpec := { name := "journalNil", fn := fun _ => fun
  | [d] => { results := [.lit (.bool false)], args := [d] }
  | _ => none }
def JournalNilWrongFalsely : Prop := journalNilRow.holds Try.pinned (OpenSpec.ofChange journalNilWrong)

/- THE SECOND FORM. 'bulk': how many values and letters a reading holds, each counted each time it is reached (what is shared counts as often as it is met; a slice's spare places count too). A statement '..UptoSaid' is the law's where the arguments, and the package variables that the reading takes, are together of bulk at most 1048576: NARROWER than '..Said'. Prove '..Said' where nothing that the law and all that it calls make is longer than what came in: it says more and counts as full. Else prove '..UptoSaid'. A law counts once. -/
mutual
def uptoBulk {H : Type} : DataW H → Nat
  | .lit (.string bytes) => bytes.length + 1
  | .lit _ => 1
  | .nil => 1
  | .ptr d => uptoBulk d + 1
  | .slice elems spare => uptoBulkAll elems + uptoBulkAll spare + 1
  | .agg parts => uptoBulkAll parts + 1
  | .iface _ d => uptoBulk d + 1
  | .map entries => uptoBulkEntries entries + 1
  | .held _ => 1
def uptoBulkAll {H : Type} : List (DataW H) → Nat
  | [] => 0
  | d :: r => uptoBulk d + uptoBulkAll r
def uptoBulkEntries {H : Type} : List (Lit × DataW H) → Nat
  | [] => 0
  | x :: r => uptoBulkEntry x + uptoBulkEntries r
def uptoBulkEntry {H : Type} : Lit × DataW H → Nat
  | (.string bytes, d) => bytes.length + uptoBulk d + 1
  | (_, d) => uptoBulk d + 1
 end
def uptoSmall : (H : Type) → List (DataW H) → Bool := fun _ ds => decide (uptoBulkAll ds ≤ 1048576)
def OpenSpec.upto (s : _root_.Go.ChangeSpec) : _root_.Go.OpenSpec := { _root_.Go.OpenSpec.ofChange s with cond := some uptoSmall }

/-- 'mainlinelaw10.JournalBack', WHERE WHAT IT READS IS OF BULK AT MOST 1048576: true; the input reads as it did. -/
def journalBackUptoRow : OpenClaim := { program := "ythhpnlobhffimaa", sum := "d98b9a748aff7b567fe99089a9695b8eb1b7bf21f7e4ce3f58728b27dc7be8cc", func := "mainline/mainlinelaw10.JournalBack", spec := "journalBack", unfollowed := true, recurses := true, apart := false, narrowed := true }
def JournalBackUptoSaid : Prop := journalBackUptoRow.holds Try.pinned (OpenSpec.upto journalBackSpec)

/-- 'mainlinelaw10.JournalBytes', WHERE WHAT IT READS IS OF BULK AT MOST 1048576: true; the input reads as it did. -/
def journalBytesUptoRow : OpenClaim := { program := "ythhpnlobhffimaa", sum := "d98b9a748aff7b567fe99089a9695b8eb1b7bf21f7e4ce3f58728b27dc7be8cc", func := "mainline/mainlinelaw10.JournalBytes", spec := "journalBytes", unfollowed := true, recurses := true, apart := false, narrowed := true }
def JournalBytesUptoSaid : Prop := journalBytesUptoRow.holds Try.pinned (OpenSpec.upto journalBytesSpec)

/-- 'mainlinelaw10.JournalOpens', WHERE WHAT IT READS IS OF BULK AT MOST 1048576: true; the input reads as it did. -/
def journalOpensUptoRow : OpenClaim := { program := "ythhpnlobhffimaa", sum := "d98b9a748aff7b567fe99089a9695b8eb1b7bf21f7e4ce3f58728b27dc7be8cc", func := "mainline/mainlinelaw10.JournalOpens", spec := "journalOpens", unfollowed := true, recurses := true, apart := false, narrowed := true }
def JournalOpensUptoSaid : Prop := journalOpensUptoRow.holds Try.pinned (OpenSpec.upto journalOpensSpec)

/-- 'mainlinelaw10.JournalCrashes', WHERE WHAT IT READS IS OF BULK AT MOST 1048576: true; the input reads as it did. -/
def journalCrashesUptoRow : OpenClaim := { program := "ythhpnlobhffimaa", sum := "d98b9a748aff7b567fe99089a9695b8eb1b7bf21f7e4ce3f58728b27dc7be8cc", func := "mainline/mainlinelaw10.JournalCrashes", spec := "journalCrashes", unfollowed := true, recurses := true, apart := false, narrowed := true }
def JournalCrashesUptoSaid : Prop := journalCrashesUptoRow.holds Try.pinned (OpenSpec.upto journalCrashesSpec)

/-- 'mainlinelaw10.JournalEveryCall', WHERE WHAT IT READS IS OF BULK AT MOST 1048576: true; the input reads as it did. -/
def journalEveryCallUptoRow : OpenClaim := { program := "ythhpnlobhffimaa", sum := "d98b9a748aff7b567fe99089a9695b8eb1b7bf21f7e4ce3f58728b27dc7be8cc", func := "mainline/mainlinelaw10.JournalEveryCall", spec := "journalEveryCall", unfollowed := true, recurses := true, apart := false, narrowed := true }
def JournalEveryCallUptoSaid : Prop := journalEveryCallUptoRow.holds Try.pinned (OpenSpec.upto journalEveryCallSpec)

/-- 'mainlinelaw10.JournalAfter', WHERE WHAT IT READS IS OF BULK AT MOST 1048576: true; the input reads as it did. -/
def journalAfterUptoRow : OpenClaim := { program := "ythhpnlobhffimaa", sum := "d98b9a748aff7b567fe99089a9695b8eb1b7bf21f7e4ce3f58728b27dc7be8cc", func := "mainline/mainlinelaw10.JournalAfter", spec := "journalAfter", unfollowed := true, recurses := true, apart := false, narrowed := true }
def JournalAfterUptoSaid : Prop := journalAfterUptoRow.holds Try.pinned (OpenSpec.upto journalAfterSpec)

/-- 'mainlinelaw10.JournalStale', WHERE WHAT IT READS IS OF BULK AT MOST 1048576: true; the input reads as it did. -/
def journalStaleUptoRow : OpenClaim := { program := "ythhpnlobhffimaa", sum := "d98b9a748aff7b567fe99089a9695b8eb1b7bf21f7e4ce3f58728b27dc7be8cc", func := "mainline/mainlinelaw10.JournalStale", spec := "journalStale", unfollowed := true, recurses := true, apart := false, narrowed := true }
def JournalStaleUptoSaid : Prop := journalStaleUptoRow.holds Try.pinned (OpenSpec.upto journalStaleSpec)

/-- 'mainlinelaw10.JournalLimit', WHERE WHAT IT READS IS OF BULK AT MOST 1048576: true; the input reads as it did. -/
def journalLimitUptoRow : OpenClaim := { program := "ythhpnlobhffimaa", sum := "d98b9a748aff7b567fe99089a9695b8eb1b7bf21f7e4ce3f58728b27dc7be8cc", func := "mainline/mainlinelaw10.JournalLimit", spec := "journalLimit", unfollowed := true, recurses := true, apart := false, narrowed := true }
def JournalLimitUptoSaid : Prop := journalLimitUptoRow.holds Try.pinned (OpenSpec.upto journalLimitSpec)

/-- 'mainlinelaw10.JournalNil', WHERE WHAT IT READS IS OF BULK AT MOST 1048576: true; the input reads as it did. -/
def journalNilUptoRow : OpenClaim := { program := "ythhpnlobhffimaa", sum := "d98b9a748aff7b567fe99089a9695b8eb1b7bf21f7e4ce3f58728b27dc7be8cc", func := "mainline/mainlinelaw10.JournalNil", spec := "journalNil", unfollowed := true, recurses := true, apart := false, narrowed := true }
def JournalNilUptoSaid : Prop := journalNilUptoRow.holds Try.pinned (OpenSpec.upto journalNilSpec)

end Rows
end Go.Proofs.Ythhpnlobhffimaa
