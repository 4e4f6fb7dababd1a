/-
  DERIVED. GIVEN WITH THE SEED: THE CARDS: each row of YtilgbnnjecpneaaGreatDoorRows.lean that lists a variable, with what it lists TIED to the program's text (the seventh form; the later family's looks); each row that meets fmt, with fmt's text TOLD by the authors' own Lean function (tested against real Go, not proved from fmt's source: count such statements apart). THE CARD IS WHAT COUNTS. Prove the row's statement (the work); the ties are given (YtilgbnnjecpneaaGreatDoorTie.lean); close each card by the builder's one call (the guide's Derived/Test/ToyasCard.lean, 'card_holds'). Laid BY PROGRAM, IN A SANDBOX (cutbox-door.mjs). By AI agents, Wed Nov 11 2026. No macro, syntax, notation, axiom, sorry.
-/
import Derived.Test.YtilgbnnjecpneaaGreatDoorRows
import GoSem.ClaimSeven
namespace Go.Proofs.YtilgbnnjecpneaaGreatDoor
namespace Rows

/-- THE TIED CARD OF 'laws.FnExactRowSort'. -/
def fnExactRowSortCard : Claim7 := { stood := { row := fnExactRowSortRow, standIns := [], harness := (true, "c46ebf24eecea24a581f629673a4925b22792dd9d403c73b4fba9a03c27cc3de"), looks := true }, kinds := [], alts := [], laidByText := true, laidKinds := [.handle], laidTests := true, laidLooks := .later }
def FnExactRowSortCardSaid : Prop := Claim7.holds Tryz.pinned (.plain (OpenSpec.ofChange fnExactRowSortSpec)) fnExactRowSortCard

/-- THE TIED CARD OF 'laws.FnExactRowOnce'. -/
def fnExactRowOnceCard : Claim7 := { stood := { row := fnExactRowOnceRow, standIns := [], harness := (true, "c46ebf24eecea24a581f629673a4925b22792dd9d403c73b4fba9a03c27cc3de"), looks := true }, kinds := [], alts := [], laidByText := true, laidKinds := [.handle], laidTests := true, laidLooks := .later }
def FnExactRowOnceCardSaid : Prop := Claim7.holds Tryz.pinned (.plain (OpenSpec.ofChange fnExactRowOnceSpec)) fnExactRowOnceCard

/-- THE TIED CARD OF 'laws.FnExactRowLeast'. -/
def fnExactRowLeastCard : Claim7 := { stood := { row := fnExactRowLeastRow, standIns := [], harness := (true, "c46ebf24eecea24a581f629673a4925b22792dd9d403c73b4fba9a03c27cc3de"), looks := true }, kinds := [], alts := [], laidByText := true, laidKinds := [.handle], laidTests := true, laidLooks := .later }
def FnExactRowLeastCardSaid : Prop := Claim7.holds Tryz.pinned (.plain (OpenSpec.ofChange fnExactRowLeastSpec)) fnExactRowLeastCard

/-- THE TIED CARD OF 'laws.FnRowSort'. -/
def fnRowSortCard : Claim7 := { stood := { row := fnRowSortRow, standIns := [], harness := (true, "c46ebf24eecea24a581f629673a4925b22792dd9d403c73b4fba9a03c27cc3de"), looks := true }, kinds := [], alts := [], laidByText := true, laidKinds := [.handle], laidTests := true, laidLooks := .later }
def FnRowSortCardSaid : Prop := Claim7.holds Tryz.pinned (.plain (OpenSpec.ofChange fnRowSortSpec)) fnRowSortCard

/-- THE TIED CARD OF 'laws.FnRowBack'. -/
def fnRowBackCard : Claim7 := { stood := { row := fnRowBackRow, standIns := [], harness := (true, "c46ebf24eecea24a581f629673a4925b22792dd9d403c73b4fba9a03c27cc3de"), looks := true }, kinds := [], alts := [], laidByText := true, laidKinds := [.handle], laidTests := true, laidLooks := .later }
def FnRowBackCardSaid : Prop := Claim7.holds Tryz.pinned (.plain (OpenSpec.ofChange fnRowBackSpec)) fnRowBackCard

/-- THE TIED CARD OF 'laws.FnRowLeast'. -/
def fnRowLeastCard : Claim7 := { stood := { row := fnRowLeastRow, standIns := [], harness := (true, "c46ebf24eecea24a581f629673a4925b22792dd9d403c73b4fba9a03c27cc3de"), looks := true }, kinds := [], alts := [], laidByText := true, laidKinds := [.handle], laidTests := true, laidLooks := .later }
def FnRowLeastCardSaid : Prop := Claim7.holds Tryz.pinned (.plain (OpenSpec.ofChange fnRowLeastSpec)) fnRowLeastCard

/-- THE SECOND FORM's CARD OF 'laws.FnExactRowSort'. -/
def fnExactRowSortUptoCard : Claim7 := { stood := { row := fnExactRowSortUptoRow, standIns := [], harness := (true, "c46ebf24eecea24a581f629673a4925b22792dd9d403c73b4fba9a03c27cc3de"), looks := true }, kinds := [], alts := [], laidByText := true, laidKinds := [.handle], laidTests := true, laidLooks := .later }
def FnExactRowSortUptoCardSaid : Prop := Claim7.holds Tryz.pinned (.plain (OpenSpec.upto fnExactRowSortSpec)) fnExactRowSortUptoCard

/-- THE SECOND FORM's CARD OF 'laws.FnExactRowOnce'. -/
def fnExactRowOnceUptoCard : Claim7 := { stood := { row := fnExactRowOnceUptoRow, standIns := [], harness := (true, "c46ebf24eecea24a581f629673a4925b22792dd9d403c73b4fba9a03c27cc3de"), looks := true }, kinds := [], alts := [], laidByText := true, laidKinds := [.handle], laidTests := true, laidLooks := .later }
def FnExactRowOnceUptoCardSaid : Prop := Claim7.holds Tryz.pinned (.plain (OpenSpec.upto fnExactRowOnceSpec)) fnExactRowOnceUptoCard

/-- THE SECOND FORM's CARD OF 'laws.FnExactRowLeast'. -/
def fnExactRowLeastUptoCard : Claim7 := { stood := { row := fnExactRowLeastUptoRow, standIns := [], harness := (true, "c46ebf24eecea24a581f629673a4925b22792dd9d403c73b4fba9a03c27cc3de"), looks := true }, kinds := [], alts := [], laidByText := true, laidKinds := [.handle], laidTests := true, laidLooks := .later }
def FnExactRowLeastUptoCardSaid : Prop := Claim7.holds Tryz.pinned (.plain (OpenSpec.upto fnExactRowLeastSpec)) fnExactRowLeastUptoCard

/-- THE SECOND FORM's CARD OF 'laws.FnRowSort'. -/
def fnRowSortUptoCard : Claim7 := { stood := { row := fnRowSortUptoRow, standIns := [], harness := (true, "c46ebf24eecea24a581f629673a4925b22792dd9d403c73b4fba9a03c27cc3de"), looks := true }, kinds := [], alts := [], laidByText := true, laidKinds := [.handle], laidTests := true, laidLooks := .later }
def FnRowSortUptoCardSaid : Prop := Claim7.holds Tryz.pinned (.plain (OpenSpec.upto fnRowSortSpec)) fnRowSortUptoCard

/-- THE SECOND FORM's CARD OF 'laws.FnRowBack'. -/
def fnRowBackUptoCard : Claim7 := { stood := { row := fnRowBackUptoRow, standIns := [], harness := (true, "c46ebf24eecea24a581f629673a4925b22792dd9d403c73b4fba9a03c27cc3de"), looks := true }, kinds := [], alts := [], laidByText := true, laidKinds := [.handle], laidTests := true, laidLooks := .later }
def FnRowBackUptoCardSaid : Prop := Claim7.holds Tryz.pinned (.plain (OpenSpec.upto fnRowBackSpec)) fnRowBackUptoCard

/-- THE SECOND FORM's CARD OF 'laws.FnRowLeast'. -/
def fnRowLeastUptoCard : Claim7 := { stood := { row := fnRowLeastUptoRow, standIns := [], harness := (true, "c46ebf24eecea24a581f629673a4925b22792dd9d403c73b4fba9a03c27cc3de"), looks := true }, kinds := [], alts := [], laidByText := true, laidKinds := [.handle], laidTests := true, laidLooks := .later }
def FnRowLeastUptoCardSaid : Prop := Claim7.holds Tryz.pinned (.plain (OpenSpec.upto fnRowLeastSpec)) fnRowLeastUptoCard
end Rows
end Go.Proofs.YtilgbnnjecpneaaGreatDoor
