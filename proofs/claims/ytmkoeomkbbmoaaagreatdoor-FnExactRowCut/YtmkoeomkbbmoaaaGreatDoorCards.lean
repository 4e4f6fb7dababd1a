/-
  DERIVED. GIVEN WITH THE SEED: THE CARDS: each row of YtmkoeomkbbmoaaaGreatDoorRows.lean that lists a variable, with what it lists TIED to the program's text (the seventh form; the later family's looks); each row that meets fmt, with fmt's text TOLD by the authors' own Lean function (tested against real Go, not proved from fmt's source: count such statements apart). THE CARD IS WHAT COUNTS. Prove the row's statement (the work); the ties are given (YtmkoeomkbbmoaaaGreatDoorTie.lean); close each card by the builder's one call (the guide's Derived/Test/ToyasCard.lean, 'card_holds'). Laid BY PROGRAM, IN A SANDBOX (cutbox-door.mjs). By AI agents, Wed Nov 11 2026. No macro, syntax, notation, axiom, sorry.
-/
import Derived.Test.YtmkoeomkbbmoaaaGreatDoorRows
import GoSem.ClaimSeven
namespace Go.Proofs.YtmkoeomkbbmoaaaGreatDoor
namespace Rows

/-- THE TIED CARD OF 'laws.FnExactPartPut'. -/
def fnExactPartPutCard : Claim7 := { stood := { row := fnExactPartPutRow, standIns := [], harness := (true, "d04c278fc7f34c96c2d7ff0d9325381a7166d645863e7492a09764068eb4c66e"), looks := true }, kinds := [], alts := [], laidByText := true, laidKinds := [.handle], laidTests := true, laidLooks := .later }
def FnExactPartPutCardSaid : Prop := Claim7.holds Tryz.pinned (.plain (OpenSpec.ofChange fnExactPartPutSpec)) fnExactPartPutCard

/-- THE TIED CARD OF 'laws.FnExactRowFlat'. -/
def fnExactRowFlatCard : Claim7 := { stood := { row := fnExactRowFlatRow, standIns := [], harness := (true, "d04c278fc7f34c96c2d7ff0d9325381a7166d645863e7492a09764068eb4c66e"), looks := true }, kinds := [], alts := [], laidByText := true, laidKinds := [.handle], laidTests := true, laidLooks := .later }
def FnExactRowFlatCardSaid : Prop := Claim7.holds Tryz.pinned (.plain (OpenSpec.ofChange fnExactRowFlatSpec)) fnExactRowFlatCard

/-- THE TIED CARD OF 'laws.FnExactRowCut'. -/
def fnExactRowCutCard : Claim7 := { stood := { row := fnExactRowCutRow, standIns := [], harness := (true, "d04c278fc7f34c96c2d7ff0d9325381a7166d645863e7492a09764068eb4c66e"), looks := true }, kinds := [], alts := [], laidByText := true, laidKinds := [.handle], laidTests := true, laidLooks := .later }
def FnExactRowCutCardSaid : Prop := Claim7.holds Tryz.pinned (.plain (OpenSpec.ofChange fnExactRowCutSpec)) fnExactRowCutCard

/-- THE TIED CARD OF 'laws.FnExactRowPairs'. -/
def fnExactRowPairsCard : Claim7 := { stood := { row := fnExactRowPairsRow, standIns := [], harness := (true, "d04c278fc7f34c96c2d7ff0d9325381a7166d645863e7492a09764068eb4c66e"), looks := true }, kinds := [], alts := [], laidByText := true, laidKinds := [.handle], laidTests := true, laidLooks := .later }
def FnExactRowPairsCardSaid : Prop := Claim7.holds Tryz.pinned (.plain (OpenSpec.ofChange fnExactRowPairsSpec)) fnExactRowPairsCard

/-- THE SECOND FORM's CARD OF 'laws.FnExactPartPut'. -/
def fnExactPartPutUptoCard : Claim7 := { stood := { row := fnExactPartPutUptoRow, standIns := [], harness := (true, "d04c278fc7f34c96c2d7ff0d9325381a7166d645863e7492a09764068eb4c66e"), looks := true }, kinds := [], alts := [], laidByText := true, laidKinds := [.handle], laidTests := true, laidLooks := .later }
def FnExactPartPutUptoCardSaid : Prop := Claim7.holds Tryz.pinned (.plain (OpenSpec.upto fnExactPartPutSpec)) fnExactPartPutUptoCard

/-- THE SECOND FORM's CARD OF 'laws.FnExactRowFlat'. -/
def fnExactRowFlatUptoCard : Claim7 := { stood := { row := fnExactRowFlatUptoRow, standIns := [], harness := (true, "d04c278fc7f34c96c2d7ff0d9325381a7166d645863e7492a09764068eb4c66e"), looks := true }, kinds := [], alts := [], laidByText := true, laidKinds := [.handle], laidTests := true, laidLooks := .later }
def FnExactRowFlatUptoCardSaid : Prop := Claim7.holds Tryz.pinned (.plain (OpenSpec.upto fnExactRowFlatSpec)) fnExactRowFlatUptoCard

/-- THE SECOND FORM's CARD OF 'laws.FnExactRowCut'. -/
def fnExactRowCutUptoCard : Claim7 := { stood := { row := fnExactRowCutUptoRow, standIns := [], harness := (true, "d04c278fc7f34c96c2d7ff0d9325381a7166d645863e7492a09764068eb4c66e"), looks := true }, kinds := [], alts := [], laidByText := true, laidKinds := [.handle], laidTests := true, laidLooks := .later }
def FnExactRowCutUptoCardSaid : Prop := Claim7.holds Tryz.pinned (.plain (OpenSpec.upto fnExactRowCutSpec)) fnExactRowCutUptoCard

/-- THE SECOND FORM's CARD OF 'laws.FnExactRowPairs'. -/
def fnExactRowPairsUptoCard : Claim7 := { stood := { row := fnExactRowPairsUptoRow, standIns := [], harness := (true, "d04c278fc7f34c96c2d7ff0d9325381a7166d645863e7492a09764068eb4c66e"), looks := true }, kinds := [], alts := [], laidByText := true, laidKinds := [.handle], laidTests := true, laidLooks := .later }
def FnExactRowPairsUptoCardSaid : Prop := Claim7.holds Tryz.pinned (.plain (OpenSpec.upto fnExactRowPairsSpec)) fnExactRowPairsUptoCard
end Rows
end Go.Proofs.YtmkoeomkbbmoaaaGreatDoor
