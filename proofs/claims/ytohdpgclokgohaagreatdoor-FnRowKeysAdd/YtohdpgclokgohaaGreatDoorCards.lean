/-
  DERIVED. GIVEN WITH THE SEED: THE CARDS: each row of YtohdpgclokgohaaGreatDoorRows.lean that lists a variable, with what it lists TIED to the program's text (the seventh form; the later family's looks); each row that meets fmt, with fmt's text TOLD by the authors' own Lean function (tested against real Go, not proved from fmt's source: count such statements apart). THE CARD IS WHAT COUNTS. Prove the row's statement (the work); the ties are given (YtohdpgclokgohaaGreatDoorTie.lean); close each card by the builder's one call (the guide's Derived/Test/ToyasCard.lean, 'card_holds'). Laid BY PROGRAM, IN A SANDBOX (cutbox-door.mjs). By AI agents, Wed Nov 11 2026. No macro, syntax, notation, axiom, sorry.
-/
import Derived.Test.YtohdpgclokgohaaGreatDoorRows
import GoSem.ClaimSeven
namespace Go.Proofs.YtohdpgclokgohaaGreatDoor
namespace Rows

/-- THE TIED CARD OF 'laws.FnRowCut'. -/
def fnRowCutCard : Claim7 := { stood := { row := fnRowCutRow, standIns := [], harness := (true, "2e1c4d2130575e9aec6ec193420a6af0f03ff4d99a73339ba5693891f2918482"), looks := true }, kinds := [], alts := [], laidByText := true, laidKinds := [.handle], laidTests := true, laidLooks := .later }
def FnRowCutCardSaid : Prop := Claim7.holds Tryz.pinned (.plain (OpenSpec.ofChange fnRowCutSpec)) fnRowCutCard

/-- THE TIED CARD OF 'laws.FnRowPairs'. -/
def fnRowPairsCard : Claim7 := { stood := { row := fnRowPairsRow, standIns := [], harness := (true, "2e1c4d2130575e9aec6ec193420a6af0f03ff4d99a73339ba5693891f2918482"), looks := true }, kinds := [], alts := [], laidByText := true, laidKinds := [.handle], laidTests := true, laidLooks := .later }
def FnRowPairsCardSaid : Prop := Claim7.holds Tryz.pinned (.plain (OpenSpec.ofChange fnRowPairsSpec)) fnRowPairsCard

/-- THE TIED CARD OF 'laws.FnRowBack'. -/
def fnRowBackCard : Claim7 := { stood := { row := fnRowBackRow, standIns := [], harness := (true, "2e1c4d2130575e9aec6ec193420a6af0f03ff4d99a73339ba5693891f2918482"), looks := true }, kinds := [], alts := [], laidByText := true, laidKinds := [.handle], laidTests := true, laidLooks := .later }
def FnRowBackCardSaid : Prop := Claim7.holds Tryz.pinned (.plain (OpenSpec.ofChange fnRowBackSpec)) fnRowBackCard

/-- THE TIED CARD OF 'laws.FnRowFlat'. -/
def fnRowFlatCard : Claim7 := { stood := { row := fnRowFlatRow, standIns := [], harness := (true, "2e1c4d2130575e9aec6ec193420a6af0f03ff4d99a73339ba5693891f2918482"), looks := true }, kinds := [], alts := [], laidByText := true, laidKinds := [.handle], laidTests := true, laidLooks := .later }
def FnRowFlatCardSaid : Prop := Claim7.holds Tryz.pinned (.plain (OpenSpec.ofChange fnRowFlatSpec)) fnRowFlatCard

/-- THE TIED CARD OF 'laws.FnRowKeysAdd'. -/
def fnRowKeysAddCard : Claim7 := { stood := { row := fnRowKeysAddRow, standIns := [], harness := (true, "2e1c4d2130575e9aec6ec193420a6af0f03ff4d99a73339ba5693891f2918482"), looks := true }, kinds := [], alts := [], laidByText := true, laidKinds := [.handle], laidTests := true, laidLooks := .later }
def FnRowKeysAddCardSaid : Prop := Claim7.holds Tryz.pinned (.plain (OpenSpec.ofChange fnRowKeysAddSpec)) fnRowKeysAddCard

/-- THE TIED CARD OF 'laws.FnRowPiece'. -/
def fnRowPieceCard : Claim7 := { stood := { row := fnRowPieceRow, standIns := [], harness := (true, "2e1c4d2130575e9aec6ec193420a6af0f03ff4d99a73339ba5693891f2918482"), looks := true }, kinds := [], alts := [], laidByText := true, laidKinds := [.handle], laidTests := true, laidLooks := .later }
def FnRowPieceCardSaid : Prop := Claim7.holds Tryz.pinned (.plain (OpenSpec.ofChange fnRowPieceSpec)) fnRowPieceCard

/-- THE SECOND FORM's CARD OF 'laws.FnRowCut'. -/
def fnRowCutUptoCard : Claim7 := { stood := { row := fnRowCutUptoRow, standIns := [], harness := (true, "2e1c4d2130575e9aec6ec193420a6af0f03ff4d99a73339ba5693891f2918482"), looks := true }, kinds := [], alts := [], laidByText := true, laidKinds := [.handle], laidTests := true, laidLooks := .later }
def FnRowCutUptoCardSaid : Prop := Claim7.holds Tryz.pinned (.plain (OpenSpec.upto fnRowCutSpec)) fnRowCutUptoCard

/-- THE SECOND FORM's CARD OF 'laws.FnRowPairs'. -/
def fnRowPairsUptoCard : Claim7 := { stood := { row := fnRowPairsUptoRow, standIns := [], harness := (true, "2e1c4d2130575e9aec6ec193420a6af0f03ff4d99a73339ba5693891f2918482"), looks := true }, kinds := [], alts := [], laidByText := true, laidKinds := [.handle], laidTests := true, laidLooks := .later }
def FnRowPairsUptoCardSaid : Prop := Claim7.holds Tryz.pinned (.plain (OpenSpec.upto fnRowPairsSpec)) fnRowPairsUptoCard

/-- THE SECOND FORM's CARD OF 'laws.FnRowBack'. -/
def fnRowBackUptoCard : Claim7 := { stood := { row := fnRowBackUptoRow, standIns := [], harness := (true, "2e1c4d2130575e9aec6ec193420a6af0f03ff4d99a73339ba5693891f2918482"), looks := true }, kinds := [], alts := [], laidByText := true, laidKinds := [.handle], laidTests := true, laidLooks := .later }
def FnRowBackUptoCardSaid : Prop := Claim7.holds Tryz.pinned (.plain (OpenSpec.upto fnRowBackSpec)) fnRowBackUptoCard

/-- THE SECOND FORM's CARD OF 'laws.FnRowFlat'. -/
def fnRowFlatUptoCard : Claim7 := { stood := { row := fnRowFlatUptoRow, standIns := [], harness := (true, "2e1c4d2130575e9aec6ec193420a6af0f03ff4d99a73339ba5693891f2918482"), looks := true }, kinds := [], alts := [], laidByText := true, laidKinds := [.handle], laidTests := true, laidLooks := .later }
def FnRowFlatUptoCardSaid : Prop := Claim7.holds Tryz.pinned (.plain (OpenSpec.upto fnRowFlatSpec)) fnRowFlatUptoCard

/-- THE SECOND FORM's CARD OF 'laws.FnRowKeysAdd'. -/
def fnRowKeysAddUptoCard : Claim7 := { stood := { row := fnRowKeysAddUptoRow, standIns := [], harness := (true, "2e1c4d2130575e9aec6ec193420a6af0f03ff4d99a73339ba5693891f2918482"), looks := true }, kinds := [], alts := [], laidByText := true, laidKinds := [.handle], laidTests := true, laidLooks := .later }
def FnRowKeysAddUptoCardSaid : Prop := Claim7.holds Tryz.pinned (.plain (OpenSpec.upto fnRowKeysAddSpec)) fnRowKeysAddUptoCard

/-- THE SECOND FORM's CARD OF 'laws.FnRowPiece'. -/
def fnRowPieceUptoCard : Claim7 := { stood := { row := fnRowPieceUptoRow, standIns := [], harness := (true, "2e1c4d2130575e9aec6ec193420a6af0f03ff4d99a73339ba5693891f2918482"), looks := true }, kinds := [], alts := [], laidByText := true, laidKinds := [.handle], laidTests := true, laidLooks := .later }
def FnRowPieceUptoCardSaid : Prop := Claim7.holds Tryz.pinned (.plain (OpenSpec.upto fnRowPieceSpec)) fnRowPieceUptoCard
end Rows
end Go.Proofs.YtohdpgclokgohaaGreatDoor
