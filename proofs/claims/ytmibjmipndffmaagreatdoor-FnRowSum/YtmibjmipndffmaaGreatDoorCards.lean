/-
  DERIVED. GIVEN WITH THE SEED: THE CARDS: each row of YtmibjmipndffmaaGreatDoorRows.lean that lists a variable, with what it lists TIED to the program's text (the seventh form; the later family's looks); each row that meets fmt, with fmt's text TOLD by the authors' own Lean function (tested against real Go, not proved from fmt's source: count such statements apart). THE CARD IS WHAT COUNTS. Prove the row's statement (the work); the ties are given (YtmibjmipndffmaaGreatDoorTie.lean); close each card by the builder's one call (the guide's Derived/Test/ToyasCard.lean, 'card_holds'). Laid BY PROGRAM, IN A SANDBOX (cutbox-door.mjs). By AI agents, Wed Nov 11 2026. No macro, syntax, notation, axiom, sorry.
-/
import Derived.Test.YtmibjmipndffmaaGreatDoorRows
import GoSem.ClaimSeven
namespace Go.Proofs.YtmibjmipndffmaaGreatDoor
namespace Rows

/-- THE TIED CARD OF 'laws.FnPath'. -/
def fnPathCard : Claim7 := { stood := { row := fnPathRow, standIns := [], harness := (true, "9b1986737bee09ec99795cb524e01095583fe434d3ed0499ac1ee502d3c95228"), looks := true }, kinds := [], alts := [], laidByText := true, laidKinds := [.handle], laidTests := true, laidLooks := .later }
def FnPathCardSaid : Prop := Claim7.holds Tryz.pinned (.plain (OpenSpec.ofChange fnPathSpec)) fnPathCard

/-- THE TIED CARD OF 'laws.FnPathTwo'. -/
def fnPathTwoCard : Claim7 := { stood := { row := fnPathTwoRow, standIns := [], harness := (true, "9b1986737bee09ec99795cb524e01095583fe434d3ed0499ac1ee502d3c95228"), looks := true }, kinds := [], alts := [], laidByText := true, laidKinds := [.handle], laidTests := true, laidLooks := .later }
def FnPathTwoCardSaid : Prop := Claim7.holds Tryz.pinned (.plain (OpenSpec.ofChange fnPathTwoSpec)) fnPathTwoCard

/-- THE TIED CARD OF 'laws.FnPathCat'. -/
def fnPathCatCard : Claim7 := { stood := { row := fnPathCatRow, standIns := [], harness := (true, "9b1986737bee09ec99795cb524e01095583fe434d3ed0499ac1ee502d3c95228"), looks := true }, kinds := [], alts := [], laidByText := true, laidKinds := [.handle], laidTests := true, laidLooks := .later }
def FnPathCatCardSaid : Prop := Claim7.holds Tryz.pinned (.plain (OpenSpec.ofChange fnPathCatSpec)) fnPathCatCard

/-- THE TIED CARD OF 'laws.FnPathOne'. -/
def fnPathOneCard : Claim7 := { stood := { row := fnPathOneRow, standIns := [], harness := (true, "9b1986737bee09ec99795cb524e01095583fe434d3ed0499ac1ee502d3c95228"), looks := true }, kinds := [], alts := [], laidByText := true, laidKinds := [.handle], laidTests := true, laidLooks := .later }
def FnPathOneCardSaid : Prop := Claim7.holds Tryz.pinned (.plain (OpenSpec.ofChange fnPathOneSpec)) fnPathOneCard

/-- THE TIED CARD OF 'laws.FnRowSum'. -/
def fnRowSumCard : Claim7 := { stood := { row := fnRowSumRow, standIns := [], harness := (true, "9b1986737bee09ec99795cb524e01095583fe434d3ed0499ac1ee502d3c95228"), looks := true }, kinds := [], alts := [], laidByText := true, laidKinds := [.handle], laidTests := true, laidLooks := .later }
def FnRowSumCardSaid : Prop := Claim7.holds Tryz.pinned (.plain (OpenSpec.ofChange fnRowSumSpec)) fnRowSumCard

/-- THE TIED CARD OF 'laws.FnExactPathPut'. -/
def fnExactPathPutCard : Claim7 := { stood := { row := fnExactPathPutRow, standIns := [], harness := (true, "9b1986737bee09ec99795cb524e01095583fe434d3ed0499ac1ee502d3c95228"), looks := true }, kinds := [], alts := [], laidByText := true, laidKinds := [.handle], laidTests := true, laidLooks := .later }
def FnExactPathPutCardSaid : Prop := Claim7.holds Tryz.pinned (.plain (OpenSpec.ofChange fnExactPathPutSpec)) fnExactPathPutCard

/-- THE SECOND FORM's CARD OF 'laws.FnPath'. -/
def fnPathUptoCard : Claim7 := { stood := { row := fnPathUptoRow, standIns := [], harness := (true, "9b1986737bee09ec99795cb524e01095583fe434d3ed0499ac1ee502d3c95228"), looks := true }, kinds := [], alts := [], laidByText := true, laidKinds := [.handle], laidTests := true, laidLooks := .later }
def FnPathUptoCardSaid : Prop := Claim7.holds Tryz.pinned (.plain (OpenSpec.upto fnPathSpec)) fnPathUptoCard

/-- THE SECOND FORM's CARD OF 'laws.FnPathTwo'. -/
def fnPathTwoUptoCard : Claim7 := { stood := { row := fnPathTwoUptoRow, standIns := [], harness := (true, "9b1986737bee09ec99795cb524e01095583fe434d3ed0499ac1ee502d3c95228"), looks := true }, kinds := [], alts := [], laidByText := true, laidKinds := [.handle], laidTests := true, laidLooks := .later }
def FnPathTwoUptoCardSaid : Prop := Claim7.holds Tryz.pinned (.plain (OpenSpec.upto fnPathTwoSpec)) fnPathTwoUptoCard

/-- THE SECOND FORM's CARD OF 'laws.FnPathCat'. -/
def fnPathCatUptoCard : Claim7 := { stood := { row := fnPathCatUptoRow, standIns := [], harness := (true, "9b1986737bee09ec99795cb524e01095583fe434d3ed0499ac1ee502d3c95228"), looks := true }, kinds := [], alts := [], laidByText := true, laidKinds := [.handle], laidTests := true, laidLooks := .later }
def FnPathCatUptoCardSaid : Prop := Claim7.holds Tryz.pinned (.plain (OpenSpec.upto fnPathCatSpec)) fnPathCatUptoCard

/-- THE SECOND FORM's CARD OF 'laws.FnPathOne'. -/
def fnPathOneUptoCard : Claim7 := { stood := { row := fnPathOneUptoRow, standIns := [], harness := (true, "9b1986737bee09ec99795cb524e01095583fe434d3ed0499ac1ee502d3c95228"), looks := true }, kinds := [], alts := [], laidByText := true, laidKinds := [.handle], laidTests := true, laidLooks := .later }
def FnPathOneUptoCardSaid : Prop := Claim7.holds Tryz.pinned (.plain (OpenSpec.upto fnPathOneSpec)) fnPathOneUptoCard

/-- THE SECOND FORM's CARD OF 'laws.FnRowSum'. -/
def fnRowSumUptoCard : Claim7 := { stood := { row := fnRowSumUptoRow, standIns := [], harness := (true, "9b1986737bee09ec99795cb524e01095583fe434d3ed0499ac1ee502d3c95228"), looks := true }, kinds := [], alts := [], laidByText := true, laidKinds := [.handle], laidTests := true, laidLooks := .later }
def FnRowSumUptoCardSaid : Prop := Claim7.holds Tryz.pinned (.plain (OpenSpec.upto fnRowSumSpec)) fnRowSumUptoCard

/-- THE SECOND FORM's CARD OF 'laws.FnExactPathPut'. -/
def fnExactPathPutUptoCard : Claim7 := { stood := { row := fnExactPathPutUptoRow, standIns := [], harness := (true, "9b1986737bee09ec99795cb524e01095583fe434d3ed0499ac1ee502d3c95228"), looks := true }, kinds := [], alts := [], laidByText := true, laidKinds := [.handle], laidTests := true, laidLooks := .later }
def FnExactPathPutUptoCardSaid : Prop := Claim7.holds Tryz.pinned (.plain (OpenSpec.upto fnExactPathPutSpec)) fnExactPathPutUptoCard
end Rows
end Go.Proofs.YtmibjmipndffmaaGreatDoor
