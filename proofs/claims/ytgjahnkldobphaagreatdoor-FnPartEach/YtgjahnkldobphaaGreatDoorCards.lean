/-
  DERIVED. GIVEN WITH THE SEED: THE CARDS: each row of YtgjahnkldobphaaGreatDoorRows.lean that lists a variable, with what it lists TIED to the program's text (the seventh form; the later family's looks); each row that meets fmt, with fmt's text TOLD by the authors' own Lean function (tested against real Go, not proved from fmt's source: count such statements apart). THE CARD IS WHAT COUNTS. Prove the row's statement (the work); the ties are given (YtgjahnkldobphaaGreatDoorTie.lean); close each card by the builder's one call (the guide's Derived/Test/ToyasCard.lean, 'card_holds'). Laid BY PROGRAM, IN A SANDBOX (cutbox-door.mjs). By AI agents, Wed Nov 11 2026. No macro, syntax, notation, axiom, sorry.
-/
import Derived.Test.YtgjahnkldobphaaGreatDoorRows
import GoSem.ClaimSeven
namespace Go.Proofs.YtgjahnkldobphaaGreatDoor
namespace Rows

/-- THE TIED CARD OF 'laws.FnPart'. -/
def fnPartCard : Claim7 := { stood := { row := fnPartRow, standIns := [], harness := (true, "d0cbcd92e52aad50cbec30a9bdd3830ca91839eaa62ba75a42229f8f3bb794b6"), looks := true }, kinds := [], alts := [], laidByText := true, laidKinds := [.handle], laidTests := true, laidLooks := .later }
def FnPartCardSaid : Prop := Claim7.holds Tryz.pinned (.plain (OpenSpec.ofChange fnPartSpec)) fnPartCard

/-- THE TIED CARD OF 'laws.FnPartGet'. -/
def fnPartGetCard : Claim7 := { stood := { row := fnPartGetRow, standIns := [], harness := (true, "d0cbcd92e52aad50cbec30a9bdd3830ca91839eaa62ba75a42229f8f3bb794b6"), looks := true }, kinds := [], alts := [], laidByText := true, laidKinds := [.handle], laidTests := true, laidLooks := .later }
def FnPartGetCardSaid : Prop := Claim7.holds Tryz.pinned (.plain (OpenSpec.ofChange fnPartGetSpec)) fnPartGetCard

/-- THE TIED CARD OF 'laws.FnPartTwo'. -/
def fnPartTwoCard : Claim7 := { stood := { row := fnPartTwoRow, standIns := [], harness := (true, "d0cbcd92e52aad50cbec30a9bdd3830ca91839eaa62ba75a42229f8f3bb794b6"), looks := true }, kinds := [], alts := [], laidByText := true, laidKinds := [.handle], laidTests := true, laidLooks := .later }
def FnPartTwoCardSaid : Prop := Claim7.holds Tryz.pinned (.plain (OpenSpec.ofChange fnPartTwoSpec)) fnPartTwoCard

/-- THE TIED CARD OF 'laws.FnPartNone'. -/
def fnPartNoneCard : Claim7 := { stood := { row := fnPartNoneRow, standIns := [], harness := (true, "d0cbcd92e52aad50cbec30a9bdd3830ca91839eaa62ba75a42229f8f3bb794b6"), looks := true }, kinds := [], alts := [], laidByText := true, laidKinds := [.handle], laidTests := true, laidLooks := .later }
def FnPartNoneCardSaid : Prop := Claim7.holds Tryz.pinned (.plain (OpenSpec.ofChange fnPartNoneSpec)) fnPartNoneCard

/-- THE TIED CARD OF 'laws.FnPartAt'. -/
def fnPartAtCard : Claim7 := { stood := { row := fnPartAtRow, standIns := [], harness := (true, "d0cbcd92e52aad50cbec30a9bdd3830ca91839eaa62ba75a42229f8f3bb794b6"), looks := true }, kinds := [], alts := [], laidByText := true, laidKinds := [.handle], laidTests := true, laidLooks := .later }
def FnPartAtCardSaid : Prop := Claim7.holds Tryz.pinned (.plain (OpenSpec.ofChange fnPartAtSpec)) fnPartAtCard

/-- THE TIED CARD OF 'laws.FnPartEach'. -/
def fnPartEachCard : Claim7 := { stood := { row := fnPartEachRow, standIns := [], harness := (true, "d0cbcd92e52aad50cbec30a9bdd3830ca91839eaa62ba75a42229f8f3bb794b6"), looks := true }, kinds := [], alts := [], laidByText := true, laidKinds := [.handle], laidTests := true, laidLooks := .later }
def FnPartEachCardSaid : Prop := Claim7.holds Tryz.pinned (.plain (OpenSpec.ofChange fnPartEachSpec)) fnPartEachCard

/-- THE SECOND FORM's CARD OF 'laws.FnPart'. -/
def fnPartUptoCard : Claim7 := { stood := { row := fnPartUptoRow, standIns := [], harness := (true, "d0cbcd92e52aad50cbec30a9bdd3830ca91839eaa62ba75a42229f8f3bb794b6"), looks := true }, kinds := [], alts := [], laidByText := true, laidKinds := [.handle], laidTests := true, laidLooks := .later }
def FnPartUptoCardSaid : Prop := Claim7.holds Tryz.pinned (.plain (OpenSpec.upto fnPartSpec)) fnPartUptoCard

/-- THE SECOND FORM's CARD OF 'laws.FnPartGet'. -/
def fnPartGetUptoCard : Claim7 := { stood := { row := fnPartGetUptoRow, standIns := [], harness := (true, "d0cbcd92e52aad50cbec30a9bdd3830ca91839eaa62ba75a42229f8f3bb794b6"), looks := true }, kinds := [], alts := [], laidByText := true, laidKinds := [.handle], laidTests := true, laidLooks := .later }
def FnPartGetUptoCardSaid : Prop := Claim7.holds Tryz.pinned (.plain (OpenSpec.upto fnPartGetSpec)) fnPartGetUptoCard

/-- THE SECOND FORM's CARD OF 'laws.FnPartTwo'. -/
def fnPartTwoUptoCard : Claim7 := { stood := { row := fnPartTwoUptoRow, standIns := [], harness := (true, "d0cbcd92e52aad50cbec30a9bdd3830ca91839eaa62ba75a42229f8f3bb794b6"), looks := true }, kinds := [], alts := [], laidByText := true, laidKinds := [.handle], laidTests := true, laidLooks := .later }
def FnPartTwoUptoCardSaid : Prop := Claim7.holds Tryz.pinned (.plain (OpenSpec.upto fnPartTwoSpec)) fnPartTwoUptoCard

/-- THE SECOND FORM's CARD OF 'laws.FnPartNone'. -/
def fnPartNoneUptoCard : Claim7 := { stood := { row := fnPartNoneUptoRow, standIns := [], harness := (true, "d0cbcd92e52aad50cbec30a9bdd3830ca91839eaa62ba75a42229f8f3bb794b6"), looks := true }, kinds := [], alts := [], laidByText := true, laidKinds := [.handle], laidTests := true, laidLooks := .later }
def FnPartNoneUptoCardSaid : Prop := Claim7.holds Tryz.pinned (.plain (OpenSpec.upto fnPartNoneSpec)) fnPartNoneUptoCard

/-- THE SECOND FORM's CARD OF 'laws.FnPartAt'. -/
def fnPartAtUptoCard : Claim7 := { stood := { row := fnPartAtUptoRow, standIns := [], harness := (true, "d0cbcd92e52aad50cbec30a9bdd3830ca91839eaa62ba75a42229f8f3bb794b6"), looks := true }, kinds := [], alts := [], laidByText := true, laidKinds := [.handle], laidTests := true, laidLooks := .later }
def FnPartAtUptoCardSaid : Prop := Claim7.holds Tryz.pinned (.plain (OpenSpec.upto fnPartAtSpec)) fnPartAtUptoCard

/-- THE SECOND FORM's CARD OF 'laws.FnPartEach'. -/
def fnPartEachUptoCard : Claim7 := { stood := { row := fnPartEachUptoRow, standIns := [], harness := (true, "d0cbcd92e52aad50cbec30a9bdd3830ca91839eaa62ba75a42229f8f3bb794b6"), looks := true }, kinds := [], alts := [], laidByText := true, laidKinds := [.handle], laidTests := true, laidLooks := .later }
def FnPartEachUptoCardSaid : Prop := Claim7.holds Tryz.pinned (.plain (OpenSpec.upto fnPartEachSpec)) fnPartEachUptoCard
end Rows
end Go.Proofs.YtgjahnkldobphaaGreatDoor
