/-
  NARROWER THAN 'FOR EVERY INPUT', by the rows' own cells (each row's printed sentence says how): StorePlays: laid · StoreTrees: laid · StoreEqual: laid · StoreNumbers: laid · StoreOrder: laid · StoreNames: laid · StoreKinds: laid · StoreLong: laid · StoreOwn: laid · StoreDeep: laid · StoreNil: laid.
  DERIVED. THE GIVEN ROWS OF THIS SEAT. 11 by the template 'for every input the law returns true; each argument reads behind the call as it read before'; 0 by the template 'total and deterministic' (their statements: YthnlldojidocoaaDoorTotals.lean).
  GIVEN WITH THE SEED: the statements are not yours to turn. If you find one false, say at which input.
  Laid BY PROGRAM, IN A SANDBOX (cutbox-rows.mjs): the forced cells as the released guide's own fill.sh prints them over the translation 89437fabc448dc75… (all of the seat's roots in one cut). By AI agents, Wed Nov 11 2026. No macro, syntax, notation, axiom, sorry.
-/
import Derived.Test.YthnlldojidocoaaDoorChecked
import GoSem.Claim
import GoSem.ClaimJoined
import GoSem.ClaimMapViews
import Derived.JoinedTies
import Derived.KernelRfl
namespace Go.Proofs.YthnlldojidocoaaDoor
/- THE CELL 'sum', in the pinned program and in every row, IS THE sha256 OF THE DUMP (.gsa) THAT YthnlldojidocoaaDoorProg.lean LOADS. Nothing in Lean hashes anything: it is a label: what it is worth is what the hold of that sum in a sandbox is worth. -/
noncomputable def Tryd.pinned : Pinned := { name := "ythnlldojidocoaadoor", sum := "89437fabc448dc7569869e2ef1fe276596cda478de8d0fb1db39be7deb9741e3", checked := Tryd.checked }
namespace Rows
def none {H : Type} : Left H := { results := [], args := [] }

/- WHAT THE LISTED PACKAGE-LEVEL VARIABLES READ AS WHEN THE CALL BEGINS. Each datum BY PROGRAM (the guide's laid-datum.mjs) off the statement by which the dump's own 'gosem.cut.vars' lays the variable. In a bare row this is a premise. The card (YthnlldojidocoaaDoorCards.lean) ties it to the program's text. -/
def laid_mainline_paths_classes {H : Type} : DataW H := .agg [.lit (.int .u8 0), .lit (.int .u8 0), .lit (.int .u8 0), .lit (.int .u8 0), .lit (.int .u8 0), .lit (.int .u8 0), .lit (.int .u8 0), .lit (.int .u8 0), .lit (.int .u8 0), .lit (.int .u8 0), .lit (.int .u8 0), .lit (.int .u8 0), .lit (.int .u8 0), .lit (.int .u8 0), .lit (.int .u8 0), .lit (.int .u8 0), .lit (.int .u8 0), .lit (.int .u8 0), .lit (.int .u8 0), .lit (.int .u8 0), .lit (.int .u8 0), .lit (.int .u8 0), .lit (.int .u8 0), .lit (.int .u8 0), .lit (.int .u8 0), .lit (.int .u8 0), .lit (.int .u8 0), .lit (.int .u8 0), .lit (.int .u8 0), .lit (.int .u8 0), .lit (.int .u8 0), .lit (.int .u8 0), .lit (.int .u8 0), .lit (.int .u8 0), .lit (.int .u8 0), .lit (.int .u8 0), .lit (.int .u8 0), .lit (.int .u8 0), .lit (.int .u8 0), .lit (.int .u8 0), .lit (.int .u8 0), .lit (.int .u8 0), .lit (.int .u8 1), .lit (.int .u8 0), .lit (.int .u8 0), .lit (.int .u8 2), .lit (.int .u8 2), .lit (.int .u8 0), .lit (.int .u8 2), .lit (.int .u8 2), .lit (.int .u8 2), .lit (.int .u8 2), .lit (.int .u8 2), .lit (.int .u8 2), .lit (.int .u8 2), .lit (.int .u8 2), .lit (.int .u8 2), .lit (.int .u8 2), .lit (.int .u8 0), .lit (.int .u8 0), .lit (.int .u8 0), .lit (.int .u8 0), .lit (.int .u8 0), .lit (.int .u8 1), .lit (.int .u8 0), .lit (.int .u8 2), .lit (.int .u8 2), .lit (.int .u8 2), .lit (.int .u8 2), .lit (.int .u8 2), .lit (.int .u8 2), .lit (.int .u8 2), .lit (.int .u8 2), .lit (.int .u8 2), .lit (.int .u8 2), .lit (.int .u8 2), .lit (.int .u8 2), .lit (.int .u8 2), .lit (.int .u8 2), .lit (.int .u8 2), .lit (.int .u8 2), .lit (.int .u8 2), .lit (.int .u8 2), .lit (.int .u8 2), .lit (.int .u8 2), .lit (.int .u8 2), .lit (.int .u8 2), .lit (.int .u8 2), .lit (.int .u8 2), .lit (.int .u8 2), .lit (.int .u8 2), .lit (.int .u8 0), .lit (.int .u8 0), .lit (.int .u8 0), .lit (.int .u8 0), .lit (.int .u8 2), .lit (.int .u8 0), .lit (.int .u8 2), .lit (.int .u8 2), .lit (.int .u8 2), .lit (.int .u8 2), .lit (.int .u8 2), .lit (.int .u8 2), .lit (.int .u8 2), .lit (.int .u8 2), .lit (.int .u8 2), .lit (.int .u8 2), .lit (.int .u8 2), .lit (.int .u8 2), .lit (.int .u8 2), .lit (.int .u8 2), .lit (.int .u8 2), .lit (.int .u8 2), .lit (.int .u8 2), .lit (.int .u8 2), .lit (.int .u8 2), .lit (.int .u8 2), .lit (.int .u8 2), .lit (.int .u8 2), .lit (.int .u8 2), .lit (.int .u8 2), .lit (.int .u8 2), .lit (.int .u8 2), .lit (.int .u8 0), .lit (.int .u8 0), .lit (.int .u8 0), .lit (.int .u8 0), .lit (.int .u8 0)]

/-- 'mainlinelaw04.StorePlays': WHATEVER THE INPUT: true; the input reads as it did. -/
def storePlaysSpec : ChangeSpec := { name := "storePlays", fn := fun _ => fun
  | [d] => { results := [.lit (.bool true)], args := [d] }
  | _ => none }
def storePlaysRow : OpenClaim := { program := "ythnlldojidocoaadoor", sum := "89437fabc448dc7569869e2ef1fe276596cda478de8d0fb1db39be7deb9741e3", func := "mainline/mainlinelaw04.StorePlays", spec := "storePlays", unfollowed := true, recurses := true, named := ["mainline/paths.classes"], plainKeys := false, apart := false, laid := [("mainline/paths.classes", laid_mainline_paths_classes)] }
def StorePlaysSaid : Prop := storePlaysRow.holds Tryd.pinned (OpenSpec.ofChange storePlaysSpec)

/-- ITS FALSE NEIGHBOUR: 'it returns false'. Refute it at one input. -/
def storePlaysWrong : ChangeSpec := { name := "storePlays", fn := fun _ => fun
  | [d] => { results := [.lit (.bool false)], args := [d] }
  | _ => none }
def StorePlaysWrongFalsely : Prop := storePlaysRow.holds Tryd.pinned (OpenSpec.ofChange storePlaysWrong)

/-- 'mainlinelaw04.StoreTrees': WHATEVER THE INPUT: true; the input reads as it did. -/
def storeTreesSpec : ChangeSpec := { name := "storeTrees", fn := fun _ => fun
  | [d] => { results := [.lit (.bool true)], args := [d] }
  | _ => none }
def storeTreesRow : OpenClaim := { program := "ythnlldojidocoaadoor", sum := "89437fabc448dc7569869e2ef1fe276596cda478de8d0fb1db39be7deb9741e3", func := "mainline/mainlinelaw04.StoreTrees", spec := "storeTrees", unfollowed := true, recurses := true, named := ["mainline/paths.classes"], plainKeys := false, apart := false, laid := [("mainline/paths.classes", laid_mainline_paths_classes)] }
def StoreTreesSaid : Prop := storeTreesRow.holds Tryd.pinned (OpenSpec.ofChange storeTreesSpec)

/-- ITS FALSE NEIGHBOUR: 'it returns false'. Refute it at one input. -/
def storeTreesWrong : ChangeSpec := { name := "storeTrees", fn := fun _ => fun
  | [d] => { results := [.lit (.bool false)], args := [d] }
  | _ => none }
def StoreTreesWrongFalsely : Prop := storeTreesRow.holds Tryd.pinned (OpenSpec.ofChange storeTreesWrong)

/-- 'mainlinelaw04.StoreEqual': WHATEVER THE INPUT: true; the input reads as it did. -/
def storeEqualSpec : ChangeSpec := { name := "storeEqual", fn := fun _ => fun
  | [d] => { results := [.lit (.bool true)], args := [d] }
  | _ => none }
def storeEqualRow : OpenClaim := { program := "ythnlldojidocoaadoor", sum := "89437fabc448dc7569869e2ef1fe276596cda478de8d0fb1db39be7deb9741e3", func := "mainline/mainlinelaw04.StoreEqual", spec := "storeEqual", unfollowed := true, recurses := true, named := ["mainline/paths.classes"], plainKeys := false, apart := false, laid := [("mainline/paths.classes", laid_mainline_paths_classes)] }
def StoreEqualSaid : Prop := storeEqualRow.holds Tryd.pinned (OpenSpec.ofChange storeEqualSpec)

/-- ITS FALSE NEIGHBOUR: 'it returns false'. Refute it at one input. -/
def storeEqualWrong : ChangeSpec := { name := "storeEqual", fn := fun _ => fun
  | [d] => { results := [.lit (.bool false)], args := [d] }
  | _ => none }
def StoreEqualWrongFalsely : Prop := storeEqualRow.holds Tryd.pinned (OpenSpec.ofChange storeEqualWrong)

/-- 'mainlinelaw04.StoreNumbers': WHATEVER THE INPUT: true; the input reads as it did. -/
def storeNumbersSpec : ChangeSpec := { name := "storeNumbers", fn := fun _ => fun
  | [d] => { results := [.lit (.bool true)], args := [d] }
  | _ => none }
def storeNumbersRow : OpenClaim := { program := "ythnlldojidocoaadoor", sum := "89437fabc448dc7569869e2ef1fe276596cda478de8d0fb1db39be7deb9741e3", func := "mainline/mainlinelaw04.StoreNumbers", spec := "storeNumbers", unfollowed := true, recurses := true, named := ["mainline/paths.classes"], plainKeys := false, apart := false, laid := [("mainline/paths.classes", laid_mainline_paths_classes)] }
def StoreNumbersSaid : Prop := storeNumbersRow.holds Tryd.pinned (OpenSpec.ofChange storeNumbersSpec)

/-- ITS FALSE NEIGHBOUR: 'it returns false'. Refute it at one input. -/
def storeNumbersWrong : ChangeSpec := { name := "storeNumbers", fn := fun _ => fun
  | [d] => { results := [.lit (.bool false)], args := [d] }
  | _ => none }
def StoreNumbersWrongFalsely : Prop := storeNumbersRow.holds Tryd.pinned (OpenSpec.ofChange storeNumbersWrong)

/-- 'mainlinelaw04.StoreOrder': WHATEVER THE INPUT: true; the input reads as it did. -/
def storeOrderSpec : ChangeSpec := { name := "storeOrder", fn := fun _ => fun
  | [d1, d2, d3] => { results := [.lit (.bool true)], args := [d1, d2, d3] }
  | _ => none }
def storeOrderRow : OpenClaim := { program := "ythnlldojidocoaadoor", sum := "89437fabc448dc7569869e2ef1fe276596cda478de8d0fb1db39be7deb9741e3", func := "mainline/mainlinelaw04.StoreOrder", spec := "storeOrder", unfollowed := true, recurses := true, named := ["mainline/paths.classes"], plainKeys := false, apart := false, laid := [("mainline/paths.classes", laid_mainline_paths_classes)] }
def StoreOrderSaid : Prop := storeOrderRow.holds Tryd.pinned (OpenSpec.ofChange storeOrderSpec)

/-- ITS FALSE NEIGHBOUR: 'it returns false'. Refute it at one input. -/
def storeOrderWrong : ChangeSpec := { name := "storeOrder", fn := fun _ => fun
  | [d1, d2, d3] => { results := [.lit (.bool false)], args := [d1, d2, d3] }
  | _ => none }
def StoreOrderWrongFalsely : Prop := storeOrderRow.holds Tryd.pinned (OpenSpec.ofChange storeOrderWrong)

/-- 'mainlinelaw04.StoreNames': WHATEVER THE INPUT: true; the input reads as it did. -/
def storeNamesSpec : ChangeSpec := { name := "storeNames", fn := fun _ => fun
  | [d] => { results := [.lit (.bool true)], args := [d] }
  | _ => none }
def storeNamesRow : OpenClaim := { program := "ythnlldojidocoaadoor", sum := "89437fabc448dc7569869e2ef1fe276596cda478de8d0fb1db39be7deb9741e3", func := "mainline/mainlinelaw04.StoreNames", spec := "storeNames", unfollowed := true, recurses := true, named := ["mainline/paths.classes"], plainKeys := false, apart := false, laid := [("mainline/paths.classes", laid_mainline_paths_classes)] }
def StoreNamesSaid : Prop := storeNamesRow.holds Tryd.pinned (OpenSpec.ofChange storeNamesSpec)

/-- ITS FALSE NEIGHBOUR: 'it returns false'. Refute it at one input. -/
def storeNamesWrong : ChangeSpec := { name := "storeNames", fn := fun _ => fun
  | [d] => { results := [.lit (.bool false)], args := [d] }
  | _ => none }
def StoreNamesWrongFalsely : Prop := storeNamesRow.holds Tryd.pinned (OpenSpec.ofChange storeNamesWrong)

/-- 'mainlinelaw04.StoreKinds': WHATEVER THE INPUT: true; the input reads as it did. -/
def storeKindsSpec : ChangeSpec := { name := "storeKinds", fn := fun _ => fun
  | [d1, d2] => { results := [.lit (.bool true)], args := [d1, d2] }
  | _ => none }
def storeKindsRow : OpenClaim := { program := "ythnlldojidocoaadoor", sum := "89437fabc448dc7569869e2ef1fe276596cda478de8d0fb1db39be7deb9741e3", func := "mainline/mainlinelaw04.StoreKinds", spec := "storeKinds", unfollowed := true, recurses := true, named := ["mainline/paths.classes"], plainKeys := false, apart := false, laid := [("mainline/paths.classes", laid_mainline_paths_classes)] }
def StoreKindsSaid : Prop := storeKindsRow.holds Tryd.pinned (OpenSpec.ofChange storeKindsSpec)

/-- ITS FALSE NEIGHBOUR: 'it returns false'. Refute it at one input. -/
def storeKindsWrong : ChangeSpec := { name := "storeKinds", fn := fun _ => fun
  | [d1, d2] => { results := [.lit (.bool false)], args := [d1, d2] }
  | _ => none }
def StoreKindsWrongFalsely : Prop := storeKindsRow.holds Tryd.pinned (OpenSpec.ofChange storeKindsWrong)

/-- 'mainlinelaw04.StoreLong': WHATEVER THE INPUT: true; the input reads as it did. -/
def storeLongSpec : ChangeSpec := { name := "storeLong", fn := fun _ => fun
  | [d] => { results := [.lit (.bool true)], args := [d] }
  | _ => none }
def storeLongRow : OpenClaim := { program := "ythnlldojidocoaadoor", sum := "89437fabc448dc7569869e2ef1fe276596cda478de8d0fb1db39be7deb9741e3", func := "mainline/mainlinelaw04.StoreLong", spec := "storeLong", unfollowed := true, recurses := true, named := ["mainline/paths.classes"], plainKeys := false, apart := false, laid := [("mainline/paths.classes", laid_mainline_paths_classes)] }
def StoreLongSaid : Prop := storeLongRow.holds Tryd.pinned (OpenSpec.ofChange storeLongSpec)

/-- ITS FALSE NEIGHBOUR: 'it returns false'. Refute it at one input. -/
def storeLongWrong : ChangeSpec := { name := "storeLong", fn := fun _ => fun
  | [d] => { results := [.lit (.bool false)], args := [d] }
  | _ => none }
def StoreLongWrongFalsely : Prop := storeLongRow.holds Tryd.pinned (OpenSpec.ofChange storeLongWrong)

/-- 'mainlinelaw04.StoreOwn': WHATEVER THE INPUT: true; the input reads as it did. -/
def storeOwnSpec : ChangeSpec := { name := "storeOwn", fn := fun _ => fun
  | [d] => { results := [.lit (.bool true)], args := [d] }
  | _ => none }
def storeOwnRow : OpenClaim := { program := "ythnlldojidocoaadoor", sum := "89437fabc448dc7569869e2ef1fe276596cda478de8d0fb1db39be7deb9741e3", func := "mainline/mainlinelaw04.StoreOwn", spec := "storeOwn", unfollowed := true, recurses := true, named := ["mainline/paths.classes"], plainKeys := false, apart := false, laid := [("mainline/paths.classes", laid_mainline_paths_classes)] }
def StoreOwnSaid : Prop := storeOwnRow.holds Tryd.pinned (OpenSpec.ofChange storeOwnSpec)

/-- ITS FALSE NEIGHBOUR: 'it returns false'. Refute it at one input. -/
def storeOwnWrong : ChangeSpec := { name := "storeOwn", fn := fun _ => fun
  | [d] => { results := [.lit (.bool false)], args := [d] }
  | _ => none }
def StoreOwnWrongFalsely : Prop := storeOwnRow.holds Tryd.pinned (OpenSpec.ofChange storeOwnWrong)

/-- 'mainlinelaw04.StoreDeep': WHATEVER THE INPUT: true; the input reads as it did. -/
def storeDeepSpec : ChangeSpec := { name := "storeDeep", fn := fun _ => fun
  | [d1, d2, d3] => { results := [.lit (.bool true)], args := [d1, d2, d3] }
  | _ => none }
def storeDeepRow : OpenClaim := { program := "ythnlldojidocoaadoor", sum := "89437fabc448dc7569869e2ef1fe276596cda478de8d0fb1db39be7deb9741e3", func := "mainline/mainlinelaw04.StoreDeep", spec := "storeDeep", unfollowed := true, recurses := true, named := ["mainline/paths.classes"], plainKeys := false, apart := false, laid := [("mainline/paths.classes", laid_mainline_paths_classes)] }
def StoreDeepSaid : Prop := storeDeepRow.holds Tryd.pinned (OpenSpec.ofChange storeDeepSpec)

/-- ITS FALSE NEIGHBOUR: 'it returns false'. Refute it at one input. -/
def storeDeepWrong : ChangeSpec := { name := "storeDeep", fn := fun _ => fun
  | [d1, d2, d3] => { results := [.lit (.bool false)], args := [d1, d2, d3] }
  | _ => none }
def StoreDeepWrongFalsely : Prop := storeDeepRow.holds Tryd.pinned (OpenSpec.ofChange storeDeepWrong)

/-- 'mainlinelaw04.StoreNil': WHATEVER THE INPUT: true; the input reads as it did. -/
def storeNilSpec : ChangeSpec := { name := "storeNil", fn := fun _ => fun
  | [d1, d2] => { results := [.lit (.bool true)], args := [d1, d2] }
  | _ => none }
def storeNilRow : OpenClaim := { program := "ythnlldojidocoaadoor", sum := "89437fabc448dc7569869e2ef1fe276596cda478de8d0fb1db39be7deb9741e3", func := "mainline/mainlinelaw04.StoreNil", spec := "storeNil", unfollowed := true, recurses := true, named := ["mainline/paths.classes"], plainKeys := false, apart := false, laid := [("mainline/paths.classes", laid_mainline_paths_classes)] }
def StoreNilSaid : Prop := storeNilRow.holds Tryd.pinned (OpenSpec.ofChange storeNilSpec)

/-- ITS FALSE NEIGHBOUR: 'it returns false'. Refute it at one input. -/
def storeNilWrong : ChangeSpec := { name := "storeNil", fn := fun _ => fun
  | [d1, d2] => { results := [.lit (.bool false)], args := [d1, d2] }
  | _ => none }
def StoreNilWrongFalsely : Prop := storeNilRow.holds Tryd.pinned (OpenSpec.ofChange storeNilWrong)

/- THE SECOND FORM. 'bulk': how many values and letters a reading holds, each counted each time it is reached (what is shared counts as often as it is met; a slice's spare places count too). A statement '..UptoSaid' is the law's where the arguments, and the package variables that the reading takes, are together of bulk at most 1048576: NARROWER than '..Said'. Prove '..Said' where nothing that the law and all that it calls make is longer than what came in: it says more and counts as full. Else prove '..UptoSaid'. A law counts once. -/
mutual
def uptoBulk {H : Type} : DataW H → Nat
  | .lit (.string bytes) => bytes.length + 1
  | .lit _ => 1
  | .nil => 1
  | .ptr d => uptoBulk d + 1
  | .slice elems spare => uptoBulkAll elems + uptoBulkAll spare + 1
  | .agg parts => uptoBulkAll parts + 1
  | .iface _ d => uptoBulk d + 1
  | .map entries => uptoBulkEntries entries + 1
  | .held _ => 1
def uptoBulkAll {H : Type} : List (DataW H) → Nat
  | [] => 0
  | d :: r => uptoBulk d + uptoBulkAll r
def uptoBulkEntries {H : Type} : List (Lit × DataW H) → Nat
  | [] => 0
  | x :: r => uptoBulkEntry x + uptoBulkEntries r
def uptoBulkEntry {H : Type} : Lit × DataW H → Nat
  | (.string bytes, d) => bytes.length + uptoBulk d + 1
  | (_, d) => uptoBulk d + 1
 end
def uptoSmall : (H : Type) → List (DataW H) → Bool := fun _ ds => decide (uptoBulkAll ds ≤ 1048576)
def OpenSpec.upto (s : _root_.Go.ChangeSpec) : _root_.Go.OpenSpec := { _root_.Go.OpenSpec.ofChange s with cond := some uptoSmall }

/-- 'mainlinelaw04.StorePlays', WHERE WHAT IT READS IS OF BULK AT MOST 1048576: true; the input reads as it did. -/
def storePlaysUptoRow : OpenClaim := { program := "ythnlldojidocoaadoor", sum := "89437fabc448dc7569869e2ef1fe276596cda478de8d0fb1db39be7deb9741e3", func := "mainline/mainlinelaw04.StorePlays", spec := "storePlays", unfollowed := true, recurses := true, named := ["mainline/paths.classes"], plainKeys := false, apart := false, laid := [("mainline/paths.classes", laid_mainline_paths_classes)], narrowed := true }
def StorePlaysUptoSaid : Prop := storePlaysUptoRow.holds Tryd.pinned (OpenSpec.upto storePlaysSpec)

/-- 'mainlinelaw04.StoreTrees', WHERE WHAT IT READS IS OF BULK AT MOST 1048576: true; the input reads as it did. -/
def storeTreesUptoRow : OpenClaim := { program := "ythnlldojidocoaadoor", sum := "89437fabc448dc7569869e2ef1fe276596cda478de8d0fb1db39be7deb9741e3", func := "mainline/mainlinelaw04.StoreTrees", spec := "storeTrees", unfollowed := true, recurses := true, named := ["mainline/paths.classes"], plainKeys := false, apart := false, laid := [("mainline/paths.classes", laid_mainline_paths_classes)], narrowed := true }
def StoreTreesUptoSaid : Prop := storeTreesUptoRow.holds Tryd.pinned (OpenSpec.upto storeTreesSpec)

/-- 'mainlinelaw04.StoreEqual', WHERE WHAT IT READS IS OF BULK AT MOST 1048576: true; the input reads as it did. -/
def storeEqualUptoRow : OpenClaim := { program := "ythnlldojidocoaadoor", sum := "89437fabc448dc7569869e2ef1fe276596cda478de8d0fb1db39be7deb9741e3", func := "mainline/mainlinelaw04.StoreEqual", spec := "storeEqual", unfollowed := true, recurses := true, named := ["mainline/paths.classes"], plainKeys := false, apart := false, laid := [("mainline/paths.classes", laid_mainline_paths_classes)], narrowed := true }
def StoreEqualUptoSaid : Prop := storeEqualUptoRow.holds Tryd.pinned (OpenSpec.upto storeEqualSpec)

/-- 'mainlinelaw04.StoreNumbers', WHERE WHAT IT READS IS OF BULK AT MOST 1048576: true; the input reads as it did. -/
def storeNumbersUptoRow : OpenClaim := { program := "ythnlldojidocoaadoor", sum := "89437fabc448dc7569869e2ef1fe276596cda478de8d0fb1db39be7deb9741e3", func := "mainline/mainlinelaw04.StoreNumbers", spec := "storeNumbers", unfollowed := true, recurses := true, named := ["mainline/paths.classes"], plainKeys := false, apart := false, laid := [("mainline/paths.classes", laid_mainline_paths_classes)], narrowed := true }
def StoreNumbersUptoSaid : Prop := storeNumbersUptoRow.holds Tryd.pinned (OpenSpec.upto storeNumbersSpec)

/-- 'mainlinelaw04.StoreOrder', WHERE WHAT IT READS IS OF BULK AT MOST 1048576: true; the input reads as it did. -/
def storeOrderUptoRow : OpenClaim := { program := "ythnlldojidocoaadoor", sum := "89437fabc448dc7569869e2ef1fe276596cda478de8d0fb1db39be7deb9741e3", func := "mainline/mainlinelaw04.StoreOrder", spec := "storeOrder", unfollowed := true, recurses := true, named := ["mainline/paths.classes"], plainKeys := false, apart := false, laid := [("mainline/paths.classes", laid_mainline_paths_classes)], narrowed := true }
def StoreOrderUptoSaid : Prop := storeOrderUptoRow.holds Tryd.pinned (OpenSpec.upto storeOrderSpec)

/-- 'mainlinelaw04.StoreNames', WHERE WHAT IT READS IS OF BULK AT MOST 1048576: true; the input reads as it did. -/
def storeNamesUptoRow : OpenClaim := { program := "ythnlldojidocoaadoor", sum := "89437fabc448dc7569869e2ef1fe276596cda478de8d0fb1db39be7deb9741e3", func := "mainline/mainlinelaw04.StoreNames", spec := "storeNames", unfollowed := true, recurses := true, named := ["mainline/paths.classes"], plainKeys := false, apart := false, laid := [("mainline/paths.classes", laid_mainline_paths_classes)], narrowed := true }
def StoreNamesUptoSaid : Prop := storeNamesUptoRow.holds Tryd.pinned (OpenSpec.upto storeNamesSpec)

/-- 'mainlinelaw04.StoreKinds', WHERE WHAT IT READS IS OF BULK AT MOST 1048576: true; the input reads as it did. -/
def storeKindsUptoRow : OpenClaim := { program := "ythnlldojidocoaadoor", sum := "89437fabc448dc7569869e2ef1fe276596cda478de8d0fb1db39be7deb9741e3", func := "mainline/mainlinelaw04.StoreKinds", spec := "storeKinds", unfollowed := true, recurses := true, named := ["mainline/paths.classes"], plainKeys := false, apart := false, laid := [("mainline/paths.classes", laid_mainline_paths_classes)], narrowed := true }
def StoreKindsUptoSaid : Prop := storeKindsUptoRow.holds Tryd.pinned (OpenSpec.upto storeKindsSpec)

/-- 'mainlinelaw04.StoreLong', WHERE WHAT IT READS IS OF BULK AT MOST 1048576: true; the input reads as it did. -/
def storeLongUptoRow : OpenClaim := { program := "ythnlldojidocoaadoor", sum := "89437fabc448dc7569869e2ef1fe276596cda478de8d0fb1db39be7deb9741e3", func := "mainline/mainlinelaw04.StoreLong", spec := "storeLong", unfollowed := true, recurses := true, named := ["mainline/paths.classes"], plainKeys := false, apart := false, laid := [("mainline/paths.classes", laid_mainline_paths_classes)], narrowed := true }
def StoreLongUptoSaid : Prop := storeLongUptoRow.holds Tryd.pinned (OpenSpec.upto storeLongSpec)

/-- 'mainlinelaw04.StoreOwn', WHERE WHAT IT READS IS OF BULK AT MOST 1048576: true; the input reads as it did. -/
def storeOwnUptoRow : OpenClaim := { program := "ythnlldojidocoaadoor", sum := "89437fabc448dc7569869e2ef1fe276596cda478de8d0fb1db39be7deb9741e3", func := "mainline/mainlinelaw04.StoreOwn", spec := "storeOwn", unfollowed := true, recurses := true, named := ["mainline/paths.classes"], plainKeys := false, apart := false, laid := [("mainline/paths.classes", laid_mainline_paths_classes)], narrowed := true }
def StoreOwnUptoSaid : Prop := storeOwnUptoRow.holds Tryd.pinned (OpenSpec.upto storeOwnSpec)

/-- 'mainlinelaw04.StoreDeep', WHERE WHAT IT READS IS OF BULK AT MOST 1048576: true; the input reads as it did. -/
def storeDeepUptoRow : OpenClaim := { program := "ythnlldojidocoaadoor", sum := "89437fabc448dc7569869e2ef1fe276596cda478de8d0fb1db39be7deb9741e3", func := "mainline/mainlinelaw04.StoreDeep", spec := "storeDeep", unfollowed := true, recurses := true, named := ["mainline/paths.classes"], plainKeys := false, apart := false, laid := [("mainline/paths.classes", laid_mainline_paths_classes)], narrowed := true }
def StoreDeepUptoSaid : Prop := storeDeepUptoRow.holds Tryd.pinned (OpenSpec.upto storeDeepSpec)

/-- 'mainlinelaw04.StoreNil', WHERE WHAT IT READS IS OF BULK AT MOST 1048576: true; the input reads as it did. -/
def storeNilUptoRow : OpenClaim := { program := "ythnlldojidocoaadoor", sum := "89437fabc448dc7569869e2ef1fe276596cda478de8d0fb1db39be7deb9741e3", func := "mainline/mainlinelaw04.StoreNil", spec := "storeNil", unfollowed := true, recurses := true, named := ["mainline/paths.classes"], plainKeys := false, apart := false, laid := [("mainline/paths.classes", laid_mainline_paths_classes)], narrowed := true }
def StoreNilUptoSaid : Prop := storeNilUptoRow.holds Tryd.pinned (OpenSpec.upto storeNilSpec)

end Rows
end Go.Proofs.YthnlldojidocoaaDoor
