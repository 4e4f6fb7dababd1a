/-
  DERIVED. GIVEN WITH THE SEED: THE CARDS: each row of YtchekmjdmjhniaaDoorRows.lean that lists a variable, with what it lists TIED to the program's text (the seventh form; the later family's looks); each row that meets fmt, with fmt's text TOLD by the authors' own Lean function (tested against real Go, not proved from fmt's source: count such statements apart). THE CARD IS WHAT COUNTS. Prove the row's statement (the work); the ties are given (YtchekmjdmjhniaaDoorTie.lean); close each card by the builder's one call (the guide's Derived/Test/ToyasCard.lean, 'card_holds'). Laid BY PROGRAM, IN A SANDBOX (cutbox-door.mjs). By AI agents, Wed Nov 11 2026. No macro, syntax, notation, axiom, sorry.
-/
import Derived.Test.YtchekmjdmjhniaaDoorRows
import GoSem.ClaimSeven
namespace Go.Proofs.YtchekmjdmjhniaaDoor
namespace Rows

/-- THE TIED CARD OF 'laws.FnExactPartEach'. -/
def fnExactPartEachCard : Claim7 := { stood := { row := fnExactPartEachRow, standIns := [], harness := (true, "15c401eeb718b6d58e0b5edbce576f219aa93c22c13cd4e025e8e6658dffb97c"), looks := true }, kinds := [], alts := [], laidByText := true, laidKinds := [.handle], laidTests := true, laidLooks := .later }
def FnExactPartEachCardSaid : Prop := Claim7.holds Tryd.pinned (.plain (OpenSpec.ofChange fnExactPartEachSpec)) fnExactPartEachCard

/-- THE TIED CARD OF 'laws.FnExactPartKeys'. -/
def fnExactPartKeysCard : Claim7 := { stood := { row := fnExactPartKeysRow, standIns := [], harness := (true, "15c401eeb718b6d58e0b5edbce576f219aa93c22c13cd4e025e8e6658dffb97c"), looks := true }, kinds := [], alts := [], laidByText := true, laidKinds := [.handle], laidTests := true, laidLooks := .later }
def FnExactPartKeysCardSaid : Prop := Claim7.holds Tryd.pinned (.plain (OpenSpec.ofChange fnExactPartKeysSpec)) fnExactPartKeysCard

/-- THE SECOND FORM's CARD OF 'laws.FnExactPartEach'. -/
def fnExactPartEachUptoCard : Claim7 := { stood := { row := fnExactPartEachUptoRow, standIns := [], harness := (true, "15c401eeb718b6d58e0b5edbce576f219aa93c22c13cd4e025e8e6658dffb97c"), looks := true }, kinds := [], alts := [], laidByText := true, laidKinds := [.handle], laidTests := true, laidLooks := .later }
def FnExactPartEachUptoCardSaid : Prop := Claim7.holds Tryd.pinned (.plain (OpenSpec.upto fnExactPartEachSpec)) fnExactPartEachUptoCard

/-- THE SECOND FORM's CARD OF 'laws.FnExactPartKeys'. -/
def fnExactPartKeysUptoCard : Claim7 := { stood := { row := fnExactPartKeysUptoRow, standIns := [], harness := (true, "15c401eeb718b6d58e0b5edbce576f219aa93c22c13cd4e025e8e6658dffb97c"), looks := true }, kinds := [], alts := [], laidByText := true, laidKinds := [.handle], laidTests := true, laidLooks := .later }
def FnExactPartKeysUptoCardSaid : Prop := Claim7.holds Tryd.pinned (.plain (OpenSpec.upto fnExactPartKeysSpec)) fnExactPartKeysUptoCard
end Rows
end Go.Proofs.YtchekmjdmjhniaaDoor
