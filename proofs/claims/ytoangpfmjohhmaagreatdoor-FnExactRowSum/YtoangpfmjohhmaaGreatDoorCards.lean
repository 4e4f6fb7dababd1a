/-
  DERIVED. GIVEN WITH THE SEED: THE CARDS: each row of YtoangpfmjohhmaaGreatDoorRows.lean that lists a variable, with what it lists TIED to the program's text (the seventh form; the later family's looks); each row that meets fmt, with fmt's text TOLD by the authors' own Lean function (tested against real Go, not proved from fmt's source: count such statements apart). THE CARD IS WHAT COUNTS. Prove the row's statement (the work); the ties are given (YtoangpfmjohhmaaGreatDoorTie.lean); close each card by the builder's one call (the guide's Derived/Test/ToyasCard.lean, 'card_holds'). Laid BY PROGRAM, IN A SANDBOX (cutbox-door.mjs). By AI agents, Wed Nov 11 2026. No macro, syntax, notation, axiom, sorry.
-/
import Derived.Test.YtoangpfmjohhmaaGreatDoorRows
import GoSem.ClaimSeven
namespace Go.Proofs.YtoangpfmjohhmaaGreatDoor
namespace Rows

/-- THE TIED CARD OF 'laws.FnPartAdd'. -/
def fnPartAddCard : Claim7 := { stood := { row := fnPartAddRow, standIns := [], harness := (true, "6117604e9840cdc787df19411422f6b8f85974968450331b9b5bdbd32f6b376c"), looks := true }, kinds := [], alts := [], laidByText := true, laidKinds := [.handle], laidTests := true, laidLooks := .later }
def FnPartAddCardSaid : Prop := Claim7.holds Tryz.pinned (.plain (OpenSpec.ofChange fnPartAddSpec)) fnPartAddCard

/-- THE TIED CARD OF 'laws.FnPartLen'. -/
def fnPartLenCard : Claim7 := { stood := { row := fnPartLenRow, standIns := [], harness := (true, "6117604e9840cdc787df19411422f6b8f85974968450331b9b5bdbd32f6b376c"), looks := true }, kinds := [], alts := [], laidByText := true, laidKinds := [.handle], laidTests := true, laidLooks := .later }
def FnPartLenCardSaid : Prop := Claim7.holds Tryz.pinned (.plain (OpenSpec.ofChange fnPartLenSpec)) fnPartLenCard

/-- THE TIED CARD OF 'laws.FnExactPartAdd'. -/
def fnExactPartAddCard : Claim7 := { stood := { row := fnExactPartAddRow, standIns := [], harness := (true, "6117604e9840cdc787df19411422f6b8f85974968450331b9b5bdbd32f6b376c"), looks := true }, kinds := [], alts := [], laidByText := true, laidKinds := [.handle], laidTests := true, laidLooks := .later }
def FnExactPartAddCardSaid : Prop := Claim7.holds Tryz.pinned (.plain (OpenSpec.ofChange fnExactPartAddSpec)) fnExactPartAddCard

/-- THE TIED CARD OF 'laws.FnExactPathPut'. -/
def fnExactPathPutCard : Claim7 := { stood := { row := fnExactPathPutRow, standIns := [], harness := (true, "6117604e9840cdc787df19411422f6b8f85974968450331b9b5bdbd32f6b376c"), looks := true }, kinds := [], alts := [], laidByText := true, laidKinds := [.handle], laidTests := true, laidLooks := .later }
def FnExactPathPutCardSaid : Prop := Claim7.holds Tryz.pinned (.plain (OpenSpec.ofChange fnExactPathPutSpec)) fnExactPathPutCard

/-- THE TIED CARD OF 'laws.FnExactRowSum'. -/
def fnExactRowSumCard : Claim7 := { stood := { row := fnExactRowSumRow, standIns := [], harness := (true, "6117604e9840cdc787df19411422f6b8f85974968450331b9b5bdbd32f6b376c"), looks := true }, kinds := [], alts := [], laidByText := true, laidKinds := [.handle], laidTests := true, laidLooks := .later }
def FnExactRowSumCardSaid : Prop := Claim7.holds Tryz.pinned (.plain (OpenSpec.ofChange fnExactRowSumSpec)) fnExactRowSumCard

/-- THE SECOND FORM's CARD OF 'laws.FnPartAdd'. -/
def fnPartAddUptoCard : Claim7 := { stood := { row := fnPartAddUptoRow, standIns := [], harness := (true, "6117604e9840cdc787df19411422f6b8f85974968450331b9b5bdbd32f6b376c"), looks := true }, kinds := [], alts := [], laidByText := true, laidKinds := [.handle], laidTests := true, laidLooks := .later }
def FnPartAddUptoCardSaid : Prop := Claim7.holds Tryz.pinned (.plain (OpenSpec.upto fnPartAddSpec)) fnPartAddUptoCard

/-- THE SECOND FORM's CARD OF 'laws.FnPartLen'. -/
def fnPartLenUptoCard : Claim7 := { stood := { row := fnPartLenUptoRow, standIns := [], harness := (true, "6117604e9840cdc787df19411422f6b8f85974968450331b9b5bdbd32f6b376c"), looks := true }, kinds := [], alts := [], laidByText := true, laidKinds := [.handle], laidTests := true, laidLooks := .later }
def FnPartLenUptoCardSaid : Prop := Claim7.holds Tryz.pinned (.plain (OpenSpec.upto fnPartLenSpec)) fnPartLenUptoCard

/-- THE SECOND FORM's CARD OF 'laws.FnExactPartAdd'. -/
def fnExactPartAddUptoCard : Claim7 := { stood := { row := fnExactPartAddUptoRow, standIns := [], harness := (true, "6117604e9840cdc787df19411422f6b8f85974968450331b9b5bdbd32f6b376c"), looks := true }, kinds := [], alts := [], laidByText := true, laidKinds := [.handle], laidTests := true, laidLooks := .later }
def FnExactPartAddUptoCardSaid : Prop := Claim7.holds Tryz.pinned (.plain (OpenSpec.upto fnExactPartAddSpec)) fnExactPartAddUptoCard

/-- THE SECOND FORM's CARD OF 'laws.FnExactPathPut'. -/
def fnExactPathPutUptoCard : Claim7 := { stood := { row := fnExactPathPutUptoRow, standIns := [], harness := (true, "6117604e9840cdc787df19411422f6b8f85974968450331b9b5bdbd32f6b376c"), looks := true }, kinds := [], alts := [], laidByText := true, laidKinds := [.handle], laidTests := true, laidLooks := .later }
def FnExactPathPutUptoCardSaid : Prop := Claim7.holds Tryz.pinned (.plain (OpenSpec.upto fnExactPathPutSpec)) fnExactPathPutUptoCard

/-- THE SECOND FORM's CARD OF 'laws.FnExactRowSum'. -/
def fnExactRowSumUptoCard : Claim7 := { stood := { row := fnExactRowSumUptoRow, standIns := [], harness := (true, "6117604e9840cdc787df19411422f6b8f85974968450331b9b5bdbd32f6b376c"), looks := true }, kinds := [], alts := [], laidByText := true, laidKinds := [.handle], laidTests := true, laidLooks := .later }
def FnExactRowSumUptoCardSaid : Prop := Claim7.holds Tryz.pinned (.plain (OpenSpec.upto fnExactRowSumSpec)) fnExactRowSumUptoCard
end Rows
end Go.Proofs.YtoangpfmjohhmaaGreatDoor
