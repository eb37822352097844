/-
  No cell of these rows narrows 'for every input' (looked for: loops, veiled, ifaces, maps, wideKeys, modest, calm, conditions, laid).
  DERIVED. THE GIVEN ROWS OF THIS SEAT. 12 by the template 'for every input the law returns true; each argument reads behind the call as it read before'; 0 by the template 'total and deterministic' (their statements: YtmeoannheomdoaaTotals.lean).
  GIVEN WITH THE SEED: the statements are not yours to turn. If you find one false, say at which input.
  Laid BY PROGRAM, IN A SANDBOX (cutbox-rows.mjs): the forced cells as the released guide's own fill.sh prints them over the translation 8d9ef46b6f5cdef8… (all of the seat's roots in one cut). By AI agents, Wed Nov 11 2026. No macro, syntax, notation, axiom, sorry.
-/
import Derived.Test.YtmeoannheomdoaaChecked
import GoSem.Claim
import GoSem.ClaimJoined
import GoSem.ClaimMapViews
import Derived.JoinedTies
import Derived.KernelRfl
namespace Go.Proofs.Ytmeoannheomdoaa
/- THE CELL 'sum', in the pinned program and in every row, IS THE sha256 OF THE DUMP (.gsa) THAT YtmeoannheomdoaaProg.lean LOADS. Nothing in Lean hashes anything: it is a label: what it is worth is what the hold of that sum in a sandbox is worth. -/
noncomputable def Try.pinned : Pinned := { name := "ytmeoannheomdoaa", sum := "8d9ef46b6f5cdef8b35661a0531725788eb8644ff59ddd07c4838ce607817f70", checked := Try.checked }
namespace Rows
def none {H : Type} : Left H := { results := [], args := [] }

/-- 'mainlinelaw02.LinesSplit': WHATEVER THE INPUT: true; the input reads as it did. -/
def linesSplitSpec : ChangeSpec := { name := "linesSplit", fn := fun _ => fun
  | [d] => { results := [.lit (.bool true)], args := [d] }
  | _ => none }
def linesSplitRow : OpenClaim := { program := "ytmeoannheomdoaa", sum := "8d9ef46b6f5cdef8b35661a0531725788eb8644ff59ddd07c4838ce607817f70", func := "mainline/mainlinelaw02.LinesSplit", spec := "linesSplit", unfollowed := true, recurses := true, apart := false }
def LinesSplitSaid : Prop := linesSplitRow.holds Try.pinned (OpenSpec.ofChange linesSplitSpec)

/-- ITS FALSE NEIGHBOUR: 'it returns false'. Refute it at one input. -/
def linesSplitWrong : ChangeSpec := { name := "linesSplit", fn := fun _ => fun
  | [d] => { results := [.lit (.bool false)], args := [d] }
  | _ => none }
def LinesSplitWrongFalsely : Prop := linesSplitRow.holds Try.pinned (OpenSpec.ofChange linesSplitWrong)

/-- 'mainlinelaw02.LinesDiff': WHATEVER THE INPUT: true; the input reads as it did. -/
def linesDiffSpec : ChangeSpec := { name := "linesDiff", fn := fun _ => fun
  | [d1, d2, d3] => { results := [.lit (.bool true)], args := [d1, d2, d3] }
  | _ => none }
def linesDiffRow : OpenClaim := { program := "ytmeoannheomdoaa", sum := "8d9ef46b6f5cdef8b35661a0531725788eb8644ff59ddd07c4838ce607817f70", func := "mainline/mainlinelaw02.LinesDiff", spec := "linesDiff", unfollowed := true, recurses := true, apart := false }
def LinesDiffSaid : Prop := linesDiffRow.holds Try.pinned (OpenSpec.ofChange linesDiffSpec)

/-- ITS FALSE NEIGHBOUR: 'it returns false'. Refute it at one input. -/
def linesDiffWrong : ChangeSpec := { name := "linesDiff", fn := fun _ => fun
  | [d1, d2, d3] => { results := [.lit (.bool false)], args := [d1, d2, d3] }
  | _ => none }
def LinesDiffWrongFalsely : Prop := linesDiffRow.holds Try.pinned (OpenSpec.ofChange linesDiffWrong)

/-- 'mainlinelaw02.LinesPatches': WHATEVER THE INPUT: true; the input reads as it did. -/
def linesPatchesSpec : ChangeSpec := { name := "linesPatches", fn := fun _ => fun
  | [d1, d2, d3] => { results := [.lit (.bool true)], args := [d1, d2, d3] }
  | _ => none }
def linesPatchesRow : OpenClaim := { program := "ytmeoannheomdoaa", sum := "8d9ef46b6f5cdef8b35661a0531725788eb8644ff59ddd07c4838ce607817f70", func := "mainline/mainlinelaw02.LinesPatches", spec := "linesPatches", unfollowed := true, recurses := true, apart := false }
def LinesPatchesSaid : Prop := linesPatchesRow.holds Try.pinned (OpenSpec.ofChange linesPatchesSpec)

/-- ITS FALSE NEIGHBOUR: 'it returns false'. Refute it at one input. -/
def linesPatchesWrong : ChangeSpec := { name := "linesPatches", fn := fun _ => fun
  | [d1, d2, d3] => { results := [.lit (.bool false)], args := [d1, d2, d3] }
  | _ => none }
def LinesPatchesWrongFalsely : Prop := linesPatchesRow.holds Try.pinned (OpenSpec.ofChange linesPatchesWrong)

/-- 'mainlinelaw02.LinesBack': WHATEVER THE INPUT: true; the input reads as it did. -/
def linesBackSpec : ChangeSpec := { name := "linesBack", fn := fun _ => fun
  | [d1, d2, d3] => { results := [.lit (.bool true)], args := [d1, d2, d3] }
  | _ => none }
def linesBackRow : OpenClaim := { program := "ytmeoannheomdoaa", sum := "8d9ef46b6f5cdef8b35661a0531725788eb8644ff59ddd07c4838ce607817f70", func := "mainline/mainlinelaw02.LinesBack", spec := "linesBack", unfollowed := true, recurses := true, apart := false }
def LinesBackSaid : Prop := linesBackRow.holds Try.pinned (OpenSpec.ofChange linesBackSpec)

/-- ITS FALSE NEIGHBOUR: 'it returns false'. Refute it at one input. -/
def linesBackWrong : ChangeSpec := { name := "linesBack", fn := fun _ => fun
  | [d1, d2, d3] => { results := [.lit (.bool false)], args := [d1, d2, d3] }
  | _ => none }
def LinesBackWrongFalsely : Prop := linesBackRow.holds Try.pinned (OpenSpec.ofChange linesBackWrong)

/-- 'mainlinelaw02.LinesLongest': WHATEVER THE INPUT: true; the input reads as it did. -/
def linesLongestSpec : ChangeSpec := { name := "linesLongest", fn := fun _ => fun
  | [d1, d2] => { results := [.lit (.bool true)], args := [d1, d2] }
  | _ => none }
def linesLongestRow : OpenClaim := { program := "ytmeoannheomdoaa", sum := "8d9ef46b6f5cdef8b35661a0531725788eb8644ff59ddd07c4838ce607817f70", func := "mainline/mainlinelaw02.LinesLongest", spec := "linesLongest", unfollowed := true, recurses := true, apart := false }
def LinesLongestSaid : Prop := linesLongestRow.holds Try.pinned (OpenSpec.ofChange linesLongestSpec)

/-- ITS FALSE NEIGHBOUR: 'it returns false'. Refute it at one input. -/
def linesLongestWrong : ChangeSpec := { name := "linesLongest", fn := fun _ => fun
  | [d1, d2] => { results := [.lit (.bool false)], args := [d1, d2] }
  | _ => none }
def LinesLongestWrongFalsely : Prop := linesLongestRow.holds Try.pinned (OpenSpec.ofChange linesLongestWrong)

/-- 'mainlinelaw02.LinesMerges': WHATEVER THE INPUT: true; the input reads as it did. -/
def linesMergesSpec : ChangeSpec := { name := "linesMerges", fn := fun _ => fun
  | [d1, d2, d3] => { results := [.lit (.bool true)], args := [d1, d2, d3] }
  | _ => none }
def linesMergesRow : OpenClaim := { program := "ytmeoannheomdoaa", sum := "8d9ef46b6f5cdef8b35661a0531725788eb8644ff59ddd07c4838ce607817f70", func := "mainline/mainlinelaw02.LinesMerges", spec := "linesMerges", unfollowed := true, recurses := true, apart := false }
def LinesMergesSaid : Prop := linesMergesRow.holds Try.pinned (OpenSpec.ofChange linesMergesSpec)

/-- ITS FALSE NEIGHBOUR: 'it returns false'. Refute it at one input. -/
def linesMergesWrong : ChangeSpec := { name := "linesMerges", fn := fun _ => fun
  | [d1, d2, d3] => { results := [.lit (.bool false)], args := [d1, d2, d3] }
  | _ => none }
def LinesMergesWrongFalsely : Prop := linesMergesRow.holds Try.pinned (OpenSpec.ofChange linesMergesWrong)

/-- 'mainlinelaw02.LinesRaw': WHATEVER THE INPUT: true; the input reads as it did. -/
def linesRawSpec : ChangeSpec := { name := "linesRaw", fn := fun _ => fun
  | [d1, d2, d3] => { results := [.lit (.bool true)], args := [d1, d2, d3] }
  | _ => none }
def linesRawRow : OpenClaim := { program := "ytmeoannheomdoaa", sum := "8d9ef46b6f5cdef8b35661a0531725788eb8644ff59ddd07c4838ce607817f70", func := "mainline/mainlinelaw02.LinesRaw", spec := "linesRaw", unfollowed := true, recurses := true, apart := false }
def LinesRawSaid : Prop := linesRawRow.holds Try.pinned (OpenSpec.ofChange linesRawSpec)

/-- ITS FALSE NEIGHBOUR: 'it returns false'. Refute it at one input. -/
def linesRawWrong : ChangeSpec := { name := "linesRaw", fn := fun _ => fun
  | [d1, d2, d3] => { results := [.lit (.bool false)], args := [d1, d2, d3] }
  | _ => none }
def LinesRawWrongFalsely : Prop := linesRawRow.holds Try.pinned (OpenSpec.ofChange linesRawWrong)

/-- 'mainlinelaw02.LinesSides': WHATEVER THE INPUT: true; the input reads as it did. -/
def linesSidesSpec : ChangeSpec := { name := "linesSides", fn := fun _ => fun
  | [d1, d2, d3] => { results := [.lit (.bool true)], args := [d1, d2, d3] }
  | _ => none }
def linesSidesRow : OpenClaim := { program := "ytmeoannheomdoaa", sum := "8d9ef46b6f5cdef8b35661a0531725788eb8644ff59ddd07c4838ce607817f70", func := "mainline/mainlinelaw02.LinesSides", spec := "linesSides", unfollowed := true, recurses := true, apart := false }
def LinesSidesSaid : Prop := linesSidesRow.holds Try.pinned (OpenSpec.ofChange linesSidesSpec)

/-- ITS FALSE NEIGHBOUR: 'it returns false'. Refute it at one input. -/
def linesSidesWrong : ChangeSpec := { name := "linesSides", fn := fun _ => fun
  | [d1, d2, d3] => { results := [.lit (.bool false)], args := [d1, d2, d3] }
  | _ => none }
def LinesSidesWrongFalsely : Prop := linesSidesRow.holds Try.pinned (OpenSpec.ofChange linesSidesWrong)

/-- 'mainlinelaw02.LinesApart': WHATEVER THE INPUT: true; the input reads as it did. -/
def linesApartSpec : ChangeSpec := { name := "linesApart", fn := fun _ => fun
  | [d1, d2] => { results := [.lit (.bool true)], args := [d1, d2] }
  | _ => none }
def linesApartRow : OpenClaim := { program := "ytmeoannheomdoaa", sum := "8d9ef46b6f5cdef8b35661a0531725788eb8644ff59ddd07c4838ce607817f70", func := "mainline/mainlinelaw02.LinesApart", spec := "linesApart", unfollowed := true, recurses := true, apart := false }
def LinesApartSaid : Prop := linesApartRow.holds Try.pinned (OpenSpec.ofChange linesApartSpec)

/-- ITS FALSE NEIGHBOUR: 'it returns false'. Refute it at one input. -/
def linesApartWrong : ChangeSpec := { name := "linesApart", fn := fun _ => fun
  | [d1, d2] => { results := [.lit (.bool false)], args := [d1, d2] }
  | _ => none }
def LinesApartWrongFalsely : Prop := linesApartRow.holds Try.pinned (OpenSpec.ofChange linesApartWrong)

/-- 'mainlinelaw02.LinesInserted': WHATEVER THE INPUT: true; the input reads as it did. -/
def linesInsertedSpec : ChangeSpec := { name := "linesInserted", fn := fun _ => fun
  | [d1, d2, d3] => { results := [.lit (.bool true)], args := [d1, d2, d3] }
  | _ => none }
def linesInsertedRow : OpenClaim := { program := "ytmeoannheomdoaa", sum := "8d9ef46b6f5cdef8b35661a0531725788eb8644ff59ddd07c4838ce607817f70", func := "mainline/mainlinelaw02.LinesInserted", spec := "linesInserted", unfollowed := true, recurses := true, apart := false }
def LinesInsertedSaid : Prop := linesInsertedRow.holds Try.pinned (OpenSpec.ofChange linesInsertedSpec)

/-- ITS FALSE NEIGHBOUR: 'it returns false'. Refute it at one input. -/
def linesInsertedWrong : ChangeSpec := { name := "linesInserted", fn := fun _ => fun
  | [d1, d2, d3] => { results := [.lit (.bool false)], args := [d1, d2, d3] }
  | _ => none }
def LinesInsertedWrongFalsely : Prop := linesInsertedRow.holds Try.pinned (OpenSpec.ofChange linesInsertedWrong)

/-- 'mainlinelaw02.LinesLong': WHATEVER THE INPUT: true; the input reads as it did. -/
def linesLongSpec : ChangeSpec := { name := "linesLong", fn := fun _ => fun
  | [d1, d2] => { results := [.lit (.bool true)], args := [d1, d2] }
  | _ => none }
def linesLongRow : OpenClaim := { program := "ytmeoannheomdoaa", sum := "8d9ef46b6f5cdef8b35661a0531725788eb8644ff59ddd07c4838ce607817f70", func := "mainline/mainlinelaw02.LinesLong", spec := "linesLong", unfollowed := true, recurses := true, apart := false }
def LinesLongSaid : Prop := linesLongRow.holds Try.pinned (OpenSpec.ofChange linesLongSpec)

/-- ITS FALSE NEIGHBOUR: 'it returns false'. Refute it at one input. -/
def linesLongWrong : ChangeSpec := { name := "linesLong", fn := fun _ => fun
  | [d1, d2] => { results := [.lit (.bool false)], args := [d1, d2] }
  | _ => none }
def LinesLongWrongFalsely : Prop := linesLongRow.holds Try.pinned (OpenSpec.ofChange linesLongWrong)

/-- 'mainlinelaw02.LinesKeeps': WHATEVER THE INPUT: true; the input reads as it did. -/
def linesKeepsSpec : ChangeSpec := { name := "linesKeeps", fn := fun _ => fun
  | [d1, d2] => { results := [.lit (.bool true)], args := [d1, d2] }
  | _ => none }
def linesKeepsRow : OpenClaim := { program := "ytmeoannheomdoaa", sum := "8d9ef46b6f5cdef8b35661a0531725788eb8644ff59ddd07c4838ce607817f70", func := "mainline/mainlinelaw02.LinesKeeps", spec := "linesKeeps", unfollowed := true, recurses := true, apart := false }
def LinesKeepsSaid : Prop := linesKeepsRow.holds Try.pinned (OpenSpec.ofChange linesKeepsSpec)

/-- ITS FALSE NEIGHBOUR: 'it returns false'. Refute it at one input. -/
def linesKeepsWrong : ChangeSpec := { name := "linesKeeps", fn := fun _ => fun
  | [d1, d2] => { results := [.lit (.bool false)], args := [d1, d2] }
  | _ => none }
def LinesKeepsWrongFalsely : Prop := linesKeepsRow.holds Try.pinned (OpenSpec.ofChange linesKeepsWrong)

/- THE SECOND FORM. 'bulk': how many values and letters a reading holds, each counted each time it is reached (what is shared counts as often as it is met; a slice's spare places count too). A statement '..UptoSaid' is the law's where the arguments, and the package variables that the reading takes, are together of bulk at most 1048576: NARROWER than '..Said'. Prove '..Said' where nothing that the law and all that it calls make is longer than what came in: it says more and counts as full. Else prove '..UptoSaid'. A law counts once. -/
mutual
def uptoBulk {H : Type} : DataW H → Nat
  | .lit (.string bytes) => bytes.length + 1
  | .lit _ => 1
  | .nil => 1
  | .ptr d => uptoBulk d + 1
  | .slice elems spare => uptoBulkAll elems + uptoBulkAll spare + 1
  | .agg parts => uptoBulkAll parts + 1
  | .iface _ d => uptoBulk d + 1
  | .map entries => uptoBulkEntries entries + 1
  | .held _ => 1
def uptoBulkAll {H : Type} : List (DataW H) → Nat
  | [] => 0
  | d :: r => uptoBulk d + uptoBulkAll r
def uptoBulkEntries {H : Type} : List (Lit × DataW H) → Nat
  | [] => 0
  | x :: r => uptoBulkEntry x + uptoBulkEntries r
def uptoBulkEntry {H : Type} : Lit × DataW H → Nat
  | (.string bytes, d) => bytes.length + uptoBulk d + 1
  | (_, d) => uptoBulk d + 1
 end
def uptoSmall : (H : Type) → List (DataW H) → Bool := fun _ ds => decide (uptoBulkAll ds ≤ 1048576)
def OpenSpec.upto (s : _root_.Go.ChangeSpec) : _root_.Go.OpenSpec := { _root_.Go.OpenSpec.ofChange s with cond := some uptoSmall }

/-- 'mainlinelaw02.LinesSplit', WHERE WHAT IT READS IS OF BULK AT MOST 1048576: true; the input reads as it did. -/
def linesSplitUptoRow : OpenClaim := { program := "ytmeoannheomdoaa", sum := "8d9ef46b6f5cdef8b35661a0531725788eb8644ff59ddd07c4838ce607817f70", func := "mainline/mainlinelaw02.LinesSplit", spec := "linesSplit", unfollowed := true, recurses := true, apart := false, narrowed := true }
def LinesSplitUptoSaid : Prop := linesSplitUptoRow.holds Try.pinned (OpenSpec.upto linesSplitSpec)

/-- 'mainlinelaw02.LinesDiff', WHERE WHAT IT READS IS OF BULK AT MOST 1048576: true; the input reads as it did. -/
def linesDiffUptoRow : OpenClaim := { program := "ytmeoannheomdoaa", sum := "8d9ef46b6f5cdef8b35661a0531725788eb8644ff59ddd07c4838ce607817f70", func := "mainline/mainlinelaw02.LinesDiff", spec := "linesDiff", unfollowed := true, recurses := true, apart := false, narrowed := true }
def LinesDiffUptoSaid : Prop := linesDiffUptoRow.holds Try.pinned (OpenSpec.upto linesDiffSpec)

/-- 'mainlinelaw02.LinesPatches', WHERE WHAT IT READS IS OF BULK AT MOST 1048576: true; the input reads as it did. -/
def linesPatchesUptoRow : OpenClaim := { program := "ytmeoannheomdoaa", sum := "8d9ef46b6f5cdef8b35661a0531725788eb8644ff59ddd07c4838ce607817f70", func := "mainline/mainlinelaw02.LinesPatches", spec := "linesPatches", unfollowed := true, recurses := true, apart := false, narrowed := true }
def LinesPatchesUptoSaid : Prop := linesPatchesUptoRow.holds Try.pinned (OpenSpec.upto linesPatchesSpec)

/-- 'mainlinelaw02.LinesBack', WHERE WHAT IT READS IS OF BULK AT MOST 1048576: true; the input reads as it did. -/
def linesBackUptoRow : OpenClaim := { program := "ytmeoannheomdoaa", sum := "8d9ef46b6f5cdef8b35661a0531725788eb8644ff59ddd07c4838ce607817f70", func := "mainline/mainlinelaw02.LinesBack", spec := "linesBack", unfollowed := true, recurses := true, apart := false, narrowed := true }
def LinesBackUptoSaid : Prop := linesBackUptoRow.holds Try.pinned (OpenSpec.upto linesBackSpec)

/-- 'mainlinelaw02.LinesLongest', WHERE WHAT IT READS IS OF BULK AT MOST 1048576: true; the input reads as it did. -/
def linesLongestUptoRow : OpenClaim := { program := "ytmeoannheomdoaa", sum := "8d9ef46b6f5cdef8b35661a0531725788eb8644ff59ddd07c4838ce607817f70", func := "mainline/mainlinelaw02.LinesLongest", spec := "linesLongest", unfollowed := true, recurses := true, apart := false, narrowed := true }
def LinesLongestUptoSaid : Prop := linesLongestUptoRow.holds Try.pinned (OpenSpec.upto linesLongestSpec)

/-- 'mainlinelaw02.LinesMerges', WHERE WHAT IT READS IS OF BULK AT MOST 1048576: true; the input reads as it did. -/
def linesMergesUptoRow : OpenClaim := { program := "ytmeoannheomdoaa", sum := "8d9ef46b6f5cdef8b35661a0531725788eb8644ff59ddd07c4838ce607817f70", func := "mainline/mainlinelaw02.LinesMerges", spec := "linesMerges", unfollowed := true, recurses := true, apart := false, narrowed := true }
def LinesMergesUptoSaid : Prop := linesMergesUptoRow.holds Try.pinned (OpenSpec.upto linesMergesSpec)

/-- 'mainlinelaw02.LinesRaw', WHERE WHAT IT READS IS OF BULK AT MOST 1048576: true; the input reads as it did. -/
def linesRawUptoRow : OpenClaim := { program := "ytmeoannheomdoaa", sum := "8d9ef46b6f5cdef8b35661a0531725788eb8644ff59ddd07c4838ce607817f70", func := "mainline/mainlinelaw02.LinesRaw", spec := "linesRaw", unfollowed := true, recurses := true, apart := false, narrowed := true }
def LinesRawUptoSaid : Prop := linesRawUptoRow.holds Try.pinned (OpenSpec.upto linesRawSpec)

/-- 'mainlinelaw02.LinesSides', WHERE WHAT IT READS IS OF BULK AT MOST 1048576: true; the input reads as it did. -/
def linesSidesUptoRow : OpenClaim := { program := "ytmeoannheomdoaa", sum := "8d9ef46b6f5cdef8b35661a0531725788eb8644ff59ddd07c4838ce607817f70", func := "mainline/mainlinelaw02.LinesSides", spec := "linesSides", unfollowed := true, recurses := true, apart := false, narrowed := true }
def LinesSidesUptoSaid : Prop := linesSidesUptoRow.holds Try.pinned (OpenSpec.upto linesSidesSpec)

/-- 'mainlinelaw02.LinesApart', WHERE WHAT IT READS IS OF BULK AT MOST 1048576: true; the input reads as it did. -/
def linesApartUptoRow : OpenClaim := { program := "ytmeoannheomdoaa", sum := "8d9ef46b6f5cdef8b35661a0531725788eb8644ff59ddd07c4838ce607817f70", func := "mainline/mainlinelaw02.LinesApart", spec := "linesApart", unfollowed := true, recurses := true, apart := false, narrowed := true }
def LinesApartUptoSaid : Prop := linesApartUptoRow.holds Try.pinned (OpenSpec.upto linesApartSpec)

/-- 'mainlinelaw02.LinesInserted', WHERE WHAT IT READS IS OF BULK AT MOST 1048576: true; the input reads as it did. -/
def linesInsertedUptoRow : OpenClaim := { program := "ytmeoannheomdoaa", sum := "8d9ef46b6f5cdef8b35661a0531725788eb8644ff59ddd07c4838ce607817f70", func := "mainline/mainlinelaw02.LinesInserted", spec := "linesInserted", unfollowed := true, recurses := true, apart := false, narrowed := true }
def LinesInsertedUptoSaid : Prop := linesInsertedUptoRow.holds Try.pinned (OpenSpec.upto linesInsertedSpec)

/-- 'mainlinelaw02.LinesLong', WHERE WHAT IT READS IS OF BULK AT MOST 1048576: true; the input reads as it did. -/
def linesLongUptoRow : OpenClaim := { program := "ytmeoannheomdoaa", sum := "8d9ef46b6f5cdef8b35661a0531725788eb8644ff59ddd07c4838ce607817f70", func := "mainline/mainlinelaw02.LinesLong", spec := "linesLong", unfollowed := true, recurses := true, apart := false, narrowed := true }
def LinesLongUptoSaid : Prop := linesLongUptoRow.holds Try.pinned (OpenSpec.upto linesLongSpec)

/-- 'mainlinelaw02.LinesKeeps', WHERE WHAT IT READS IS OF BULK AT MOST 1048576: true; the input reads as it did. -/
def linesKeepsUptoRow : OpenClaim := { program := "ytmeoannheomdoaa", sum := "8d9ef46b6f5cdef8b35661a0531725788eb8644ff59ddd07c4838ce607817f70", func := "mainline/mainlinelaw02.LinesKeeps", spec := "linesKeeps", unfollowed := true, recurses := true, apart := false, narrowed := true }
def LinesKeepsUptoSaid : Prop := linesKeepsUptoRow.holds Try.pinned (OpenSpec.upto linesKeepsSpec)

end Rows
end Go.Proofs.Ytmeoannheomdoaa
