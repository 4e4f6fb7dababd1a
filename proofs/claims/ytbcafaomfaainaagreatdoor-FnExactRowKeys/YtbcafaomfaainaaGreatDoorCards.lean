/-
  DERIVED. GIVEN WITH THE SEED: THE CARDS: each row of YtbcafaomfaainaaGreatDoorRows.lean that lists a variable, with what it lists TIED to the program's text (the seventh form; the later family's looks); each row that meets fmt, with fmt's text TOLD by the authors' own Lean function (tested against real Go, not proved from fmt's source: count such statements apart). THE CARD IS WHAT COUNTS. Prove the row's statement (the work); the ties are given (YtbcafaomfaainaaGreatDoorTie.lean); close each card by the builder's one call (the guide's Derived/Test/ToyasCard.lean, 'card_holds'). Laid BY PROGRAM, IN A SANDBOX (cutbox-door.mjs). By AI agents, Wed Nov 11 2026. No macro, syntax, notation, axiom, sorry.
-/
import Derived.Test.YtbcafaomfaainaaGreatDoorRows
import GoSem.ClaimSeven
namespace Go.Proofs.YtbcafaomfaainaaGreatDoor
namespace Rows

/-- THE TIED CARD OF 'laws.FnExactRowKeys'. -/
def fnExactRowKeysCard : Claim7 := { stood := { row := fnExactRowKeysRow, standIns := [], harness := (true, "3e41c41a589b0cc8d00ff13dc67ffa2c8ab3bdab69296212434efef559d09afa"), looks := true }, kinds := [], alts := [], laidByText := true, laidKinds := [.handle], laidTests := true, laidLooks := .later }
def FnExactRowKeysCardSaid : Prop := Claim7.holds Tryz.pinned (.plain (OpenSpec.ofChange fnExactRowKeysSpec)) fnExactRowKeysCard

/-- THE SECOND FORM's CARD OF 'laws.FnExactRowKeys'. -/
def fnExactRowKeysUptoCard : Claim7 := { stood := { row := fnExactRowKeysUptoRow, standIns := [], harness := (true, "3e41c41a589b0cc8d00ff13dc67ffa2c8ab3bdab69296212434efef559d09afa"), looks := true }, kinds := [], alts := [], laidByText := true, laidKinds := [.handle], laidTests := true, laidLooks := .later }
def FnExactRowKeysUptoCardSaid : Prop := Claim7.holds Tryz.pinned (.plain (OpenSpec.upto fnExactRowKeysSpec)) fnExactRowKeysUptoCard
end Rows
end Go.Proofs.YtbcafaomfaainaaGreatDoor
