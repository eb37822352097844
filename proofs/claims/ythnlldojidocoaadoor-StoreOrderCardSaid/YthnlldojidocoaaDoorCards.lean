/-
  DERIVED. GIVEN WITH THE SEED: THE CARDS: each row of YthnlldojidocoaaDoorRows.lean that lists a variable, with what it lists TIED to the program's text (the seventh form; the later family's looks); each row that meets fmt, with fmt's text TOLD by the authors' own Lean function (tested against real Go, not proved from fmt's source: count such statements apart). THE CARD IS WHAT COUNTS. Prove the row's statement (the work); the ties are given (YthnlldojidocoaaDoorTie.lean); close each card by the builder's one call (the guide's Derived/Test/ToyasCard.lean, 'card_holds'). Laid BY PROGRAM, IN A SANDBOX (cutbox-door.mjs). By AI agents, Wed Nov 11 2026. No macro, syntax, notation, axiom, sorry.
-/
import Derived.Test.YthnlldojidocoaaDoorRows
import GoSem.ClaimSeven
namespace Go.Proofs.YthnlldojidocoaaDoor
namespace Rows

/-- THE TIED CARD OF 'mainlinelaw04.StorePlays'. -/
def storePlaysCard : Claim7 := { stood := { row := storePlaysRow, standIns := [], harness := (true, "60459f1066f7a24629d9fd2bc16e6b6aaba62e42a2cfff0d42551fc2a3d0082f"), looks := false }, kinds := [], alts := [], laidByText := true, laidKinds := [.data], laidTests := true, laidLooks := .later }
def StorePlaysCardSaid : Prop := Claim7.holds Tryd.pinned (.plain (OpenSpec.ofChange storePlaysSpec)) storePlaysCard

/-- THE TIED CARD OF 'mainlinelaw04.StoreTrees'. -/
def storeTreesCard : Claim7 := { stood := { row := storeTreesRow, standIns := [], harness := (true, "60459f1066f7a24629d9fd2bc16e6b6aaba62e42a2cfff0d42551fc2a3d0082f"), looks := false }, kinds := [], alts := [], laidByText := true, laidKinds := [.data], laidTests := true, laidLooks := .later }
def StoreTreesCardSaid : Prop := Claim7.holds Tryd.pinned (.plain (OpenSpec.ofChange storeTreesSpec)) storeTreesCard

/-- THE TIED CARD OF 'mainlinelaw04.StoreEqual'. -/
def storeEqualCard : Claim7 := { stood := { row := storeEqualRow, standIns := [], harness := (true, "60459f1066f7a24629d9fd2bc16e6b6aaba62e42a2cfff0d42551fc2a3d0082f"), looks := false }, kinds := [], alts := [], laidByText := true, laidKinds := [.data], laidTests := true, laidLooks := .later }
def StoreEqualCardSaid : Prop := Claim7.holds Tryd.pinned (.plain (OpenSpec.ofChange storeEqualSpec)) storeEqualCard

/-- THE TIED CARD OF 'mainlinelaw04.StoreNumbers'. -/
def storeNumbersCard : Claim7 := { stood := { row := storeNumbersRow, standIns := [], harness := (true, "60459f1066f7a24629d9fd2bc16e6b6aaba62e42a2cfff0d42551fc2a3d0082f"), looks := false }, kinds := [], alts := [], laidByText := true, laidKinds := [.data], laidTests := true, laidLooks := .later }
def StoreNumbersCardSaid : Prop := Claim7.holds Tryd.pinned (.plain (OpenSpec.ofChange storeNumbersSpec)) storeNumbersCard

/-- THE TIED CARD OF 'mainlinelaw04.StoreOrder'. -/
def storeOrderCard : Claim7 := { stood := { row := storeOrderRow, standIns := [], harness := (true, "60459f1066f7a24629d9fd2bc16e6b6aaba62e42a2cfff0d42551fc2a3d0082f"), looks := false }, kinds := [], alts := [], laidByText := true, laidKinds := [.data], laidTests := true, laidLooks := .later }
def StoreOrderCardSaid : Prop := Claim7.holds Tryd.pinned (.plain (OpenSpec.ofChange storeOrderSpec)) storeOrderCard

/-- THE TIED CARD OF 'mainlinelaw04.StoreNames'. -/
def storeNamesCard : Claim7 := { stood := { row := storeNamesRow, standIns := [], harness := (true, "60459f1066f7a24629d9fd2bc16e6b6aaba62e42a2cfff0d42551fc2a3d0082f"), looks := false }, kinds := [], alts := [], laidByText := true, laidKinds := [.data], laidTests := true, laidLooks := .later }
def StoreNamesCardSaid : Prop := Claim7.holds Tryd.pinned (.plain (OpenSpec.ofChange storeNamesSpec)) storeNamesCard

/-- THE TIED CARD OF 'mainlinelaw04.StoreKinds'. -/
def storeKindsCard : Claim7 := { stood := { row := storeKindsRow, standIns := [], harness := (true, "60459f1066f7a24629d9fd2bc16e6b6aaba62e42a2cfff0d42551fc2a3d0082f"), looks := false }, kinds := [], alts := [], laidByText := true, laidKinds := [.data], laidTests := true, laidLooks := .later }
def StoreKindsCardSaid : Prop := Claim7.holds Tryd.pinned (.plain (OpenSpec.ofChange storeKindsSpec)) storeKindsCard

/-- THE TIED CARD OF 'mainlinelaw04.StoreLong'. -/
def storeLongCard : Claim7 := { stood := { row := storeLongRow, standIns := [], harness := (true, "60459f1066f7a24629d9fd2bc16e6b6aaba62e42a2cfff0d42551fc2a3d0082f"), looks := false }, kinds := [], alts := [], laidByText := true, laidKinds := [.data], laidTests := true, laidLooks := .later }
def StoreLongCardSaid : Prop := Claim7.holds Tryd.pinned (.plain (OpenSpec.ofChange storeLongSpec)) storeLongCard

/-- THE TIED CARD OF 'mainlinelaw04.StoreOwn'. -/
def storeOwnCard : Claim7 := { stood := { row := storeOwnRow, standIns := [], harness := (true, "60459f1066f7a24629d9fd2bc16e6b6aaba62e42a2cfff0d42551fc2a3d0082f"), looks := false }, kinds := [], alts := [], laidByText := true, laidKinds := [.data], laidTests := true, laidLooks := .later }
def StoreOwnCardSaid : Prop := Claim7.holds Tryd.pinned (.plain (OpenSpec.ofChange storeOwnSpec)) storeOwnCard

/-- THE TIED CARD OF 'mainlinelaw04.StoreDeep'. -/
def storeDeepCard : Claim7 := { stood := { row := storeDeepRow, standIns := [], harness := (true, "60459f1066f7a24629d9fd2bc16e6b6aaba62e42a2cfff0d42551fc2a3d0082f"), looks := false }, kinds := [], alts := [], laidByText := true, laidKinds := [.data], laidTests := true, laidLooks := .later }
def StoreDeepCardSaid : Prop := Claim7.holds Tryd.pinned (.plain (OpenSpec.ofChange storeDeepSpec)) storeDeepCard

/-- THE TIED CARD OF 'mainlinelaw04.StoreNil'. -/
def storeNilCard : Claim7 := { stood := { row := storeNilRow, standIns := [], harness := (true, "60459f1066f7a24629d9fd2bc16e6b6aaba62e42a2cfff0d42551fc2a3d0082f"), looks := false }, kinds := [], alts := [], laidByText := true, laidKinds := [.data], laidTests := true, laidLooks := .later }
def StoreNilCardSaid : Prop := Claim7.holds Tryd.pinned (.plain (OpenSpec.ofChange storeNilSpec)) storeNilCard

/-- THE SECOND FORM's CARD OF 'mainlinelaw04.StorePlays'. -/
def storePlaysUptoCard : Claim7 := { stood := { row := storePlaysUptoRow, standIns := [], harness := (true, "60459f1066f7a24629d9fd2bc16e6b6aaba62e42a2cfff0d42551fc2a3d0082f"), looks := false }, kinds := [], alts := [], laidByText := true, laidKinds := [.data], laidTests := true, laidLooks := .later }
def StorePlaysUptoCardSaid : Prop := Claim7.holds Tryd.pinned (.plain (OpenSpec.upto storePlaysSpec)) storePlaysUptoCard

/-- THE SECOND FORM's CARD OF 'mainlinelaw04.StoreTrees'. -/
def storeTreesUptoCard : Claim7 := { stood := { row := storeTreesUptoRow, standIns := [], harness := (true, "60459f1066f7a24629d9fd2bc16e6b6aaba62e42a2cfff0d42551fc2a3d0082f"), looks := false }, kinds := [], alts := [], laidByText := true, laidKinds := [.data], laidTests := true, laidLooks := .later }
def StoreTreesUptoCardSaid : Prop := Claim7.holds Tryd.pinned (.plain (OpenSpec.upto storeTreesSpec)) storeTreesUptoCard

/-- THE SECOND FORM's CARD OF 'mainlinelaw04.StoreEqual'. -/
def storeEqualUptoCard : Claim7 := { stood := { row := storeEqualUptoRow, standIns := [], harness := (true, "60459f1066f7a24629d9fd2bc16e6b6aaba62e42a2cfff0d42551fc2a3d0082f"), looks := false }, kinds := [], alts := [], laidByText := true, laidKinds := [.data], laidTests := true, laidLooks := .later }
def StoreEqualUptoCardSaid : Prop := Claim7.holds Tryd.pinned (.plain (OpenSpec.upto storeEqualSpec)) storeEqualUptoCard

/-- THE SECOND FORM's CARD OF 'mainlinelaw04.StoreNumbers'. -/
def storeNumbersUptoCard : Claim7 := { stood := { row := storeNumbersUptoRow, standIns := [], harness := (true, "60459f1066f7a24629d9fd2bc16e6b6aaba62e42a2cfff0d42551fc2a3d0082f"), looks := false }, kinds := [], alts := [], laidByText := true, laidKinds := [.data], laidTests := true, laidLooks := .later }
def StoreNumbersUptoCardSaid : Prop := Claim7.holds Tryd.pinned (.plain (OpenSpec.upto storeNumbersSpec)) storeNumbersUptoCard

/-- THE SECOND FORM's CARD OF 'mainlinelaw04.StoreOrder'. -/
def storeOrderUptoCard : Claim7 := { stood := { row := storeOrderUptoRow, standIns := [], harness := (true, "60459f1066f7a24629d9fd2bc16e6b6aaba62e42a2cfff0d42551fc2a3d0082f"), looks := false }, kinds := [], alts := [], laidByText := true, laidKinds := [.data], laidTests := true, laidLooks := .later }
def StoreOrderUptoCardSaid : Prop := Claim7.holds Tryd.pinned (.plain (OpenSpec.upto storeOrderSpec)) storeOrderUptoCard

/-- THE SECOND FORM's CARD OF 'mainlinelaw04.StoreNames'. -/
def storeNamesUptoCard : Claim7 := { stood := { row := storeNamesUptoRow, standIns := [], harness := (true, "60459f1066f7a24629d9fd2bc16e6b6aaba62e42a2cfff0d42551fc2a3d0082f"), looks := false }, kinds := [], alts := [], laidByText := true, laidKinds := [.data], laidTests := true, laidLooks := .later }
def StoreNamesUptoCardSaid : Prop := Claim7.holds Tryd.pinned (.plain (OpenSpec.upto storeNamesSpec)) storeNamesUptoCard

/-- THE SECOND FORM's CARD OF 'mainlinelaw04.StoreKinds'. -/
def storeKindsUptoCard : Claim7 := { stood := { row := storeKindsUptoRow, standIns := [], harness := (true, "60459f1066f7a24629d9fd2bc16e6b6aaba62e42a2cfff0d42551fc2a3d0082f"), looks := false }, kinds := [], alts := [], laidByText := true, laidKinds := [.data], laidTests := true, laidLooks := .later }
def StoreKindsUptoCardSaid : Prop := Claim7.holds Tryd.pinned (.plain (OpenSpec.upto storeKindsSpec)) storeKindsUptoCard

/-- THE SECOND FORM's CARD OF 'mainlinelaw04.StoreLong'. -/
def storeLongUptoCard : Claim7 := { stood := { row := storeLongUptoRow, standIns := [], harness := (true, "60459f1066f7a24629d9fd2bc16e6b6aaba62e42a2cfff0d42551fc2a3d0082f"), looks := false }, kinds := [], alts := [], laidByText := true, laidKinds := [.data], laidTests := true, laidLooks := .later }
def StoreLongUptoCardSaid : Prop := Claim7.holds Tryd.pinned (.plain (OpenSpec.upto storeLongSpec)) storeLongUptoCard

/-- THE SECOND FORM's CARD OF 'mainlinelaw04.StoreOwn'. -/
def storeOwnUptoCard : Claim7 := { stood := { row := storeOwnUptoRow, standIns := [], harness := (true, "60459f1066f7a24629d9fd2bc16e6b6aaba62e42a2cfff0d42551fc2a3d0082f"), looks := false }, kinds := [], alts := [], laidByText := true, laidKinds := [.data], laidTests := true, laidLooks := .later }
def StoreOwnUptoCardSaid : Prop := Claim7.holds Tryd.pinned (.plain (OpenSpec.upto storeOwnSpec)) storeOwnUptoCard

/-- THE SECOND FORM's CARD OF 'mainlinelaw04.StoreDeep'. -/
def storeDeepUptoCard : Claim7 := { stood := { row := storeDeepUptoRow, standIns := [], harness := (true, "60459f1066f7a24629d9fd2bc16e6b6aaba62e42a2cfff0d42551fc2a3d0082f"), looks := false }, kinds := [], alts := [], laidByText := true, laidKinds := [.data], laidTests := true, laidLooks := .later }
def StoreDeepUptoCardSaid : Prop := Claim7.holds Tryd.pinned (.plain (OpenSpec.upto storeDeepSpec)) storeDeepUptoCard

/-- THE SECOND FORM's CARD OF 'mainlinelaw04.StoreNil'. -/
def storeNilUptoCard : Claim7 := { stood := { row := storeNilUptoRow, standIns := [], harness := (true, "60459f1066f7a24629d9fd2bc16e6b6aaba62e42a2cfff0d42551fc2a3d0082f"), looks := false }, kinds := [], alts := [], laidByText := true, laidKinds := [.data], laidTests := true, laidLooks := .later }
def StoreNilUptoCardSaid : Prop := Claim7.holds Tryd.pinned (.plain (OpenSpec.upto storeNilSpec)) storeNilUptoCard
end Rows
end Go.Proofs.YthnlldojidocoaaDoor
