/-
  DERIVED. GIVEN WITH THE SEED: THE CARDS: each row of YtlpembhdojdomaaGreatDoorRows.lean that lists a variable, with what it lists TIED to the program's text (the seventh form; the later family's looks); each row that meets fmt, with fmt's text TOLD by the authors' own Lean function (tested against real Go, not proved from fmt's source: count such statements apart). THE CARD IS WHAT COUNTS. Prove the row's statement (the work); the ties are given (YtlpembhdojdomaaGreatDoorTie.lean); close each card by the builder's one call (the guide's Derived/Test/ToyasCard.lean, 'card_holds'). Laid BY PROGRAM, IN A SANDBOX (cutbox-door.mjs). By AI agents, Wed Nov 11 2026. No macro, syntax, notation, axiom, sorry.
-/
import Derived.Test.YtlpembhdojdomaaGreatDoorRows
import GoSem.ClaimSeven
namespace Go.Proofs.YtlpembhdojdomaaGreatDoor
namespace Rows

/-- THE TIED CARD OF 'laws.FnExactPartAdd'. -/
def fnExactPartAddCard : Claim7 := { stood := { row := fnExactPartAddRow, standIns := [], harness := (true, "3d7eea896bf2a899581839a51736a1ac0618c0166b7c36b77eae19cf4eb8b8f8"), looks := true }, kinds := [], alts := [], laidByText := true, laidKinds := [.handle], laidTests := true, laidLooks := .later }
def FnExactPartAddCardSaid : Prop := Claim7.holds Tryz.pinned (.plain (OpenSpec.ofChange fnExactPartAddSpec)) fnExactPartAddCard

/-- THE TIED CARD OF 'laws.FnExactPartPut'. -/
def fnExactPartPutCard : Claim7 := { stood := { row := fnExactPartPutRow, standIns := [], harness := (true, "3d7eea896bf2a899581839a51736a1ac0618c0166b7c36b77eae19cf4eb8b8f8"), looks := true }, kinds := [], alts := [], laidByText := true, laidKinds := [.handle], laidTests := true, laidLooks := .later }
def FnExactPartPutCardSaid : Prop := Claim7.holds Tryz.pinned (.plain (OpenSpec.ofChange fnExactPartPutSpec)) fnExactPartPutCard

/-- THE TIED CARD OF 'laws.FnExactPartSet'. -/
def fnExactPartSetCard : Claim7 := { stood := { row := fnExactPartSetRow, standIns := [], harness := (true, "3d7eea896bf2a899581839a51736a1ac0618c0166b7c36b77eae19cf4eb8b8f8"), looks := true }, kinds := [], alts := [], laidByText := true, laidKinds := [.handle], laidTests := true, laidLooks := .later }
def FnExactPartSetCardSaid : Prop := Claim7.holds Tryz.pinned (.plain (OpenSpec.ofChange fnExactPartSetSpec)) fnExactPartSetCard

/-- THE TIED CARD OF 'laws.FnExactPathGet'. -/
def fnExactPathGetCard : Claim7 := { stood := { row := fnExactPathGetRow, standIns := [], harness := (true, "3d7eea896bf2a899581839a51736a1ac0618c0166b7c36b77eae19cf4eb8b8f8"), looks := true }, kinds := [], alts := [], laidByText := true, laidKinds := [.handle], laidTests := true, laidLooks := .later }
def FnExactPathGetCardSaid : Prop := Claim7.holds Tryz.pinned (.plain (OpenSpec.ofChange fnExactPathGetSpec)) fnExactPathGetCard

/-- THE TIED CARD OF 'laws.FnExactPathPut'. -/
def fnExactPathPutCard : Claim7 := { stood := { row := fnExactPathPutRow, standIns := [], harness := (true, "3d7eea896bf2a899581839a51736a1ac0618c0166b7c36b77eae19cf4eb8b8f8"), looks := true }, kinds := [], alts := [], laidByText := true, laidKinds := [.handle], laidTests := true, laidLooks := .later }
def FnExactPathPutCardSaid : Prop := Claim7.holds Tryz.pinned (.plain (OpenSpec.ofChange fnExactPathPutSpec)) fnExactPathPutCard

/-- THE SECOND FORM's CARD OF 'laws.FnExactPartAdd'. -/
def fnExactPartAddUptoCard : Claim7 := { stood := { row := fnExactPartAddUptoRow, standIns := [], harness := (true, "3d7eea896bf2a899581839a51736a1ac0618c0166b7c36b77eae19cf4eb8b8f8"), looks := true }, kinds := [], alts := [], laidByText := true, laidKinds := [.handle], laidTests := true, laidLooks := .later }
def FnExactPartAddUptoCardSaid : Prop := Claim7.holds Tryz.pinned (.plain (OpenSpec.upto fnExactPartAddSpec)) fnExactPartAddUptoCard

/-- THE SECOND FORM's CARD OF 'laws.FnExactPartPut'. -/
def fnExactPartPutUptoCard : Claim7 := { stood := { row := fnExactPartPutUptoRow, standIns := [], harness := (true, "3d7eea896bf2a899581839a51736a1ac0618c0166b7c36b77eae19cf4eb8b8f8"), looks := true }, kinds := [], alts := [], laidByText := true, laidKinds := [.handle], laidTests := true, laidLooks := .later }
def FnExactPartPutUptoCardSaid : Prop := Claim7.holds Tryz.pinned (.plain (OpenSpec.upto fnExactPartPutSpec)) fnExactPartPutUptoCard

/-- THE SECOND FORM's CARD OF 'laws.FnExactPartSet'. -/
def fnExactPartSetUptoCard : Claim7 := { stood := { row := fnExactPartSetUptoRow, standIns := [], harness := (true, "3d7eea896bf2a899581839a51736a1ac0618c0166b7c36b77eae19cf4eb8b8f8"), looks := true }, kinds := [], alts := [], laidByText := true, laidKinds := [.handle], laidTests := true, laidLooks := .later }
def FnExactPartSetUptoCardSaid : Prop := Claim7.holds Tryz.pinned (.plain (OpenSpec.upto fnExactPartSetSpec)) fnExactPartSetUptoCard

/-- THE SECOND FORM's CARD OF 'laws.FnExactPathGet'. -/
def fnExactPathGetUptoCard : Claim7 := { stood := { row := fnExactPathGetUptoRow, standIns := [], harness := (true, "3d7eea896bf2a899581839a51736a1ac0618c0166b7c36b77eae19cf4eb8b8f8"), looks := true }, kinds := [], alts := [], laidByText := true, laidKinds := [.handle], laidTests := true, laidLooks := .later }
def FnExactPathGetUptoCardSaid : Prop := Claim7.holds Tryz.pinned (.plain (OpenSpec.upto fnExactPathGetSpec)) fnExactPathGetUptoCard

/-- THE SECOND FORM's CARD OF 'laws.FnExactPathPut'. -/
def fnExactPathPutUptoCard : Claim7 := { stood := { row := fnExactPathPutUptoRow, standIns := [], harness := (true, "3d7eea896bf2a899581839a51736a1ac0618c0166b7c36b77eae19cf4eb8b8f8"), looks := true }, kinds := [], alts := [], laidByText := true, laidKinds := [.handle], laidTests := true, laidLooks := .later }
def FnExactPathPutUptoCardSaid : Prop := Claim7.holds Tryz.pinned (.plain (OpenSpec.upto fnExactPathPutSpec)) fnExactPathPutUptoCard
end Rows
end Go.Proofs.YtlpembhdojdomaaGreatDoor
