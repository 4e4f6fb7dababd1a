/-
  DERIVED. GIVEN WITH THE SEED: THE CARDS: each row of YtchekmjdmjhniaaGreatDoorRows.lean that lists a variable, with what it lists TIED to the program's text (the seventh form; the later family's looks); each row that meets fmt, with fmt's text TOLD by the authors' own Lean function (tested against real Go, not proved from fmt's source: count such statements apart). THE CARD IS WHAT COUNTS. Prove the row's statement (the work); the ties are given (YtchekmjdmjhniaaGreatDoorTie.lean); close each card by the builder's one call (the guide's Derived/Test/ToyasCard.lean, 'card_holds'). Laid BY PROGRAM, IN A SANDBOX (cutbox-door.mjs). By AI agents, Wed Nov 11 2026. No macro, syntax, notation, axiom, sorry.
-/
import Derived.Test.YtchekmjdmjhniaaGreatDoorRows
import GoSem.ClaimSeven
namespace Go.Proofs.YtchekmjdmjhniaaGreatDoor
namespace Rows

/-- THE TIED CARD OF 'laws.FnExactPartGet'. -/
def fnExactPartGetCard : Claim7 := { stood := { row := fnExactPartGetRow, standIns := [], harness := (true, "1a4818c1c1425613f61a7f0e0ae76e02582e37dc9f58cc9e39fcc85eaf37e2c7"), looks := true }, kinds := [], alts := [], laidByText := true, laidKinds := [.handle], laidTests := true, laidLooks := .later }
def FnExactPartGetCardSaid : Prop := Claim7.holds Tryz.pinned (.plain (OpenSpec.ofChange fnExactPartGetSpec)) fnExactPartGetCard

/-- THE TIED CARD OF 'laws.FnExactPartAt'. -/
def fnExactPartAtCard : Claim7 := { stood := { row := fnExactPartAtRow, standIns := [], harness := (true, "1a4818c1c1425613f61a7f0e0ae76e02582e37dc9f58cc9e39fcc85eaf37e2c7"), looks := true }, kinds := [], alts := [], laidByText := true, laidKinds := [.handle], laidTests := true, laidLooks := .later }
def FnExactPartAtCardSaid : Prop := Claim7.holds Tryz.pinned (.plain (OpenSpec.ofChange fnExactPartAtSpec)) fnExactPartAtCard

/-- THE TIED CARD OF 'laws.FnExactPartLen'. -/
def fnExactPartLenCard : Claim7 := { stood := { row := fnExactPartLenRow, standIns := [], harness := (true, "1a4818c1c1425613f61a7f0e0ae76e02582e37dc9f58cc9e39fcc85eaf37e2c7"), looks := true }, kinds := [], alts := [], laidByText := true, laidKinds := [.handle], laidTests := true, laidLooks := .later }
def FnExactPartLenCardSaid : Prop := Claim7.holds Tryz.pinned (.plain (OpenSpec.ofChange fnExactPartLenSpec)) fnExactPartLenCard

/-- THE TIED CARD OF 'laws.FnExactPartAdd'. -/
def fnExactPartAddCard : Claim7 := { stood := { row := fnExactPartAddRow, standIns := [], harness := (true, "1a4818c1c1425613f61a7f0e0ae76e02582e37dc9f58cc9e39fcc85eaf37e2c7"), looks := true }, kinds := [], alts := [], laidByText := true, laidKinds := [.handle], laidTests := true, laidLooks := .later }
def FnExactPartAddCardSaid : Prop := Claim7.holds Tryz.pinned (.plain (OpenSpec.ofChange fnExactPartAddSpec)) fnExactPartAddCard

/-- THE TIED CARD OF 'laws.FnExactPartPut'. -/
def fnExactPartPutCard : Claim7 := { stood := { row := fnExactPartPutRow, standIns := [], harness := (true, "1a4818c1c1425613f61a7f0e0ae76e02582e37dc9f58cc9e39fcc85eaf37e2c7"), looks := true }, kinds := [], alts := [], laidByText := true, laidKinds := [.handle], laidTests := true, laidLooks := .later }
def FnExactPartPutCardSaid : Prop := Claim7.holds Tryz.pinned (.plain (OpenSpec.ofChange fnExactPartPutSpec)) fnExactPartPutCard

/-- THE TIED CARD OF 'laws.FnExactPartSet'. -/
def fnExactPartSetCard : Claim7 := { stood := { row := fnExactPartSetRow, standIns := [], harness := (true, "1a4818c1c1425613f61a7f0e0ae76e02582e37dc9f58cc9e39fcc85eaf37e2c7"), looks := true }, kinds := [], alts := [], laidByText := true, laidKinds := [.handle], laidTests := true, laidLooks := .later }
def FnExactPartSetCardSaid : Prop := Claim7.holds Tryz.pinned (.plain (OpenSpec.ofChange fnExactPartSetSpec)) fnExactPartSetCard

/-- THE SECOND FORM's CARD OF 'laws.FnExactPartGet'. -/
def fnExactPartGetUptoCard : Claim7 := { stood := { row := fnExactPartGetUptoRow, standIns := [], harness := (true, "1a4818c1c1425613f61a7f0e0ae76e02582e37dc9f58cc9e39fcc85eaf37e2c7"), looks := true }, kinds := [], alts := [], laidByText := true, laidKinds := [.handle], laidTests := true, laidLooks := .later }
def FnExactPartGetUptoCardSaid : Prop := Claim7.holds Tryz.pinned (.plain (OpenSpec.upto fnExactPartGetSpec)) fnExactPartGetUptoCard

/-- THE SECOND FORM's CARD OF 'laws.FnExactPartAt'. -/
def fnExactPartAtUptoCard : Claim7 := { stood := { row := fnExactPartAtUptoRow, standIns := [], harness := (true, "1a4818c1c1425613f61a7f0e0ae76e02582e37dc9f58cc9e39fcc85eaf37e2c7"), looks := true }, kinds := [], alts := [], laidByText := true, laidKinds := [.handle], laidTests := true, laidLooks := .later }
def FnExactPartAtUptoCardSaid : Prop := Claim7.holds Tryz.pinned (.plain (OpenSpec.upto fnExactPartAtSpec)) fnExactPartAtUptoCard

/-- THE SECOND FORM's CARD OF 'laws.FnExactPartLen'. -/
def fnExactPartLenUptoCard : Claim7 := { stood := { row := fnExactPartLenUptoRow, standIns := [], harness := (true, "1a4818c1c1425613f61a7f0e0ae76e02582e37dc9f58cc9e39fcc85eaf37e2c7"), looks := true }, kinds := [], alts := [], laidByText := true, laidKinds := [.handle], laidTests := true, laidLooks := .later }
def FnExactPartLenUptoCardSaid : Prop := Claim7.holds Tryz.pinned (.plain (OpenSpec.upto fnExactPartLenSpec)) fnExactPartLenUptoCard

/-- THE SECOND FORM's CARD OF 'laws.FnExactPartAdd'. -/
def fnExactPartAddUptoCard : Claim7 := { stood := { row := fnExactPartAddUptoRow, standIns := [], harness := (true, "1a4818c1c1425613f61a7f0e0ae76e02582e37dc9f58cc9e39fcc85eaf37e2c7"), looks := true }, kinds := [], alts := [], laidByText := true, laidKinds := [.handle], laidTests := true, laidLooks := .later }
def FnExactPartAddUptoCardSaid : Prop := Claim7.holds Tryz.pinned (.plain (OpenSpec.upto fnExactPartAddSpec)) fnExactPartAddUptoCard

/-- THE SECOND FORM's CARD OF 'laws.FnExactPartPut'. -/
def fnExactPartPutUptoCard : Claim7 := { stood := { row := fnExactPartPutUptoRow, standIns := [], harness := (true, "1a4818c1c1425613f61a7f0e0ae76e02582e37dc9f58cc9e39fcc85eaf37e2c7"), looks := true }, kinds := [], alts := [], laidByText := true, laidKinds := [.handle], laidTests := true, laidLooks := .later }
def FnExactPartPutUptoCardSaid : Prop := Claim7.holds Tryz.pinned (.plain (OpenSpec.upto fnExactPartPutSpec)) fnExactPartPutUptoCard

/-- THE SECOND FORM's CARD OF 'laws.FnExactPartSet'. -/
def fnExactPartSetUptoCard : Claim7 := { stood := { row := fnExactPartSetUptoRow, standIns := [], harness := (true, "1a4818c1c1425613f61a7f0e0ae76e02582e37dc9f58cc9e39fcc85eaf37e2c7"), looks := true }, kinds := [], alts := [], laidByText := true, laidKinds := [.handle], laidTests := true, laidLooks := .later }
def FnExactPartSetUptoCardSaid : Prop := Claim7.holds Tryz.pinned (.plain (OpenSpec.upto fnExactPartSetSpec)) fnExactPartSetUptoCard
end Rows
end Go.Proofs.YtchekmjdmjhniaaGreatDoor
