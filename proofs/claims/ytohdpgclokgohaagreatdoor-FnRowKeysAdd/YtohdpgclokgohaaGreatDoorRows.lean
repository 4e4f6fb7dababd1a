/-
  NARROWER THAN 'FOR EVERY INPUT', by the rows' own cells (each row's printed sentence says how): FnRowCut: laid · FnRowPairs: laid · FnRowBack: laid · FnRowFlat: laid · FnRowKeysAdd: laid · FnRowPiece: laid.
  DERIVED. THE GIVEN ROWS OF THIS SEAT. 6 by the template 'for every input the law returns true; each argument reads behind the call as it read before'; 0 by the template 'total and deterministic' (their statements: YtohdpgclokgohaaGreatDoorTotals.lean).
  GIVEN WITH THE SEED: the statements are not yours to turn. If you find one false, say at which input.
  Laid BY PROGRAM, IN A SANDBOX (cutbox-rows.mjs): the forced cells as the released guide's own fill.sh prints them over the translation 450b2218f0f46bfa… (all of the seat's roots in one cut). By AI agents, Wed Nov 11 2026. No macro, syntax, notation, axiom, sorry.
-/
import Derived.Test.YtohdpgclokgohaaGreatDoorChecked
import GoSem.Claim
import GoSem.ClaimJoined
import GoSem.ClaimMapViews
import Derived.JoinedTies
import Derived.KernelRfl
namespace Go.Proofs.YtohdpgclokgohaaGreatDoor
/- THE CELL 'sum', in the pinned program and in every row, IS THE sha256 OF THE DUMP (.gsa) THAT YtohdpgclokgohaaGreatDoorProg.lean LOADS. Nothing in Lean hashes anything: it is a label: what it is worth is what the hold of that sum in a sandbox is worth. -/
noncomputable def Tryz.pinned : Pinned := { name := "ytohdpgclokgohaagreatdoor", sum := "450b2218f0f46bfa47a70d12f1e0677cbdf714f10f18655ef42622c47aa49ec3", checked := Tryz.checked }
namespace Rows
def none {H : Type} : Left H := { results := [], args := [] }

/- WHAT THE LISTED PACKAGE-LEVEL VARIABLES READ AS WHEN THE CALL BEGINS. Each datum BY PROGRAM (the guide's laid-datum.mjs) off the statement by which the dump's own 'gosem.cut.vars' lays the variable. In a bare row this is a premise. The card (YtohdpgclokgohaaGreatDoorCards.lean) ties it to the program's text. -/
def laid_errors_errorType {H : Type} : DataW H := .iface "internal/reflectlite.rtype" (.agg [.ptr (.lit (.string [101, 114, 114, 111, 114]))])

/-- 'laws.FnRowCut': WHATEVER THE INPUT: true; the input reads as it did. -/
def fnRowCutSpec : ChangeSpec := { name := "fnRowCut", fn := fun _ => fun
  | [d] => { results := [.lit (.bool true)], args := [d] }
  | _ => none }
def fnRowCutRow : OpenClaim := { program := "ytohdpgclokgohaagreatdoor", sum := "450b2218f0f46bfa47a70d12f1e0677cbdf714f10f18655ef42622c47aa49ec3", func := "loop.example/cribble/laws.FnRowCut", spec := "fnRowCut", inPlace := ["internal/reflectlite.ValueOf", "(internal/reflectlite.Value).Type", "(internal/reflectlite.Value).IsNil", "internal/reflectlite.TypeOf", "(internal/reflectlite.Value).Elem", "(internal/reflectlite.Value).Set"], unfollowed := true, recurses := true, named := ["errors.errorType"], plainKeys := false, apart := false, laid := [("errors.errorType", laid_errors_errorType)] }
def FnRowCutSaid : Prop := fnRowCutRow.holds Tryz.pinned (OpenSpec.ofChange fnRowCutSpec)

/-- ITS FALSE NEIGHBOUR: 'it returns false'. Refute it at one input. -/
def fnRowCutWrong : ChangeSpec := { name := "fnRowCut", fn := fun _ => fun
  | [d] => { results := [.lit (.bool false)], args := [d] }
  | _ => none }
def FnRowCutWrongFalsely : Prop := fnRowCutRow.holds Tryz.pinned (OpenSpec.ofChange fnRowCutWrong)

/-- 'laws.FnRowPairs': WHATEVER THE INPUT: true; the input reads as it did. -/
def fnRowPairsSpec : ChangeSpec := { name := "fnRowPairs", fn := fun _ => fun
  | [d] => { results := [.lit (.bool true)], args := [d] }
  | _ => none }
def fnRowPairsRow : OpenClaim := { program := "ytohdpgclokgohaagreatdoor", sum := "450b2218f0f46bfa47a70d12f1e0677cbdf714f10f18655ef42622c47aa49ec3", func := "loop.example/cribble/laws.FnRowPairs", spec := "fnRowPairs", inPlace := ["internal/reflectlite.ValueOf", "(internal/reflectlite.Value).Type", "(internal/reflectlite.Value).IsNil", "internal/reflectlite.TypeOf", "(internal/reflectlite.Value).Elem", "(internal/reflectlite.Value).Set"], unfollowed := true, recurses := true, named := ["errors.errorType"], plainKeys := false, apart := false, laid := [("errors.errorType", laid_errors_errorType)] }
def FnRowPairsSaid : Prop := fnRowPairsRow.holds Tryz.pinned (OpenSpec.ofChange fnRowPairsSpec)

/-- ITS FALSE NEIGHBOUR: 'it returns false'. Refute it at one input. -/
def fnRowPairsWrong : ChangeSpec := { name := "fnRowPairs", fn := fun _ => fun
  | [d] => { results := [.lit (.bool false)], args := [d] }
  | _ => none }
def FnRowPairsWrongFalsely : Prop := fnRowPairsRow.holds Tryz.pinned (OpenSpec.ofChange fnRowPairsWrong)

/-- 'laws.FnRowBack': WHATEVER THE INPUT: true; the input reads as it did. -/
def fnRowBackSpec : ChangeSpec := { name := "fnRowBack", fn := fun _ => fun
  | [d1, d2] => { results := [.lit (.bool true)], args := [d1, d2] }
  | _ => none }
def fnRowBackRow : OpenClaim := { program := "ytohdpgclokgohaagreatdoor", sum := "450b2218f0f46bfa47a70d12f1e0677cbdf714f10f18655ef42622c47aa49ec3", func := "loop.example/cribble/laws.FnRowBack", spec := "fnRowBack", inPlace := ["internal/reflectlite.ValueOf", "(internal/reflectlite.Value).Type", "(internal/reflectlite.Value).IsNil", "internal/reflectlite.TypeOf", "(internal/reflectlite.Value).Elem", "(internal/reflectlite.Value).Set"], unfollowed := true, recurses := true, named := ["errors.errorType"], plainKeys := false, apart := false, laid := [("errors.errorType", laid_errors_errorType)] }
def FnRowBackSaid : Prop := fnRowBackRow.holds Tryz.pinned (OpenSpec.ofChange fnRowBackSpec)

/-- ITS FALSE NEIGHBOUR: 'it returns false'. Refute it at one input. -/
def fnRowBackWrong : ChangeSpec := { name := "fnRowBack", fn := fun _ => fun
  | [d1, d2] => { results := [.lit (.bool false)], args := [d1, d2] }
  | _ => none }
def FnRowBackWrongFalsely : Prop := fnRowBackRow.holds Tryz.pinned (OpenSpec.ofChange fnRowBackWrong)

/-- 'laws.FnRowFlat': WHATEVER THE INPUT: true; the input reads as it did. -/
def fnRowFlatSpec : ChangeSpec := { name := "fnRowFlat", fn := fun _ => fun
  | [d] => { results := [.lit (.bool true)], args := [d] }
  | _ => none }
def fnRowFlatRow : OpenClaim := { program := "ytohdpgclokgohaagreatdoor", sum := "450b2218f0f46bfa47a70d12f1e0677cbdf714f10f18655ef42622c47aa49ec3", func := "loop.example/cribble/laws.FnRowFlat", spec := "fnRowFlat", inPlace := ["internal/reflectlite.ValueOf", "(internal/reflectlite.Value).Type", "(internal/reflectlite.Value).IsNil", "internal/reflectlite.TypeOf", "(internal/reflectlite.Value).Elem", "(internal/reflectlite.Value).Set"], unfollowed := true, recurses := true, named := ["errors.errorType"], plainKeys := false, apart := false, laid := [("errors.errorType", laid_errors_errorType)] }
def FnRowFlatSaid : Prop := fnRowFlatRow.holds Tryz.pinned (OpenSpec.ofChange fnRowFlatSpec)

/-- ITS FALSE NEIGHBOUR: 'it returns false'. Refute it at one input. -/
def fnRowFlatWrong : ChangeSpec := { name := "fnRowFlat", fn := fun _ => fun
  | [d] => { results := [.lit (.bool false)], args := [d] }
  | _ => none }
def FnRowFlatWrongFalsely : Prop := fnRowFlatRow.holds Tryz.pinned (OpenSpec.ofChange fnRowFlatWrong)

/-- 'laws.FnRowKeysAdd': WHATEVER THE INPUT: true; the input reads as it did. -/
def fnRowKeysAddSpec : ChangeSpec := { name := "fnRowKeysAdd", fn := fun _ => fun
  | [d1, d2] => { results := [.lit (.bool true)], args := [d1, d2] }
  | _ => none }
def fnRowKeysAddRow : OpenClaim := { program := "ytohdpgclokgohaagreatdoor", sum := "450b2218f0f46bfa47a70d12f1e0677cbdf714f10f18655ef42622c47aa49ec3", func := "loop.example/cribble/laws.FnRowKeysAdd", spec := "fnRowKeysAdd", inPlace := ["internal/reflectlite.ValueOf", "(internal/reflectlite.Value).Type", "(internal/reflectlite.Value).IsNil", "internal/reflectlite.TypeOf", "(internal/reflectlite.Value).Elem", "(internal/reflectlite.Value).Set"], unfollowed := true, recurses := true, named := ["errors.errorType"], plainKeys := false, apart := false, laid := [("errors.errorType", laid_errors_errorType)] }
def FnRowKeysAddSaid : Prop := fnRowKeysAddRow.holds Tryz.pinned (OpenSpec.ofChange fnRowKeysAddSpec)

/-- ITS FALSE NEIGHBOUR: 'it returns false'. Refute it at one input. -/
def fnRowKeysAddWrong : ChangeSpec := { name := "fnRowKeysAdd", fn := fun _ => fun
  | [d1, d2] => { results := [.lit (.bool false)], args := [d1, d2] }
  | _ => none }
def FnRowKeysAddWrongFalsely : Prop := fnRowKeysAddRow.holds Tryz.pinned (OpenSpec.ofChange fnRowKeysAddWrong)

/-- 'laws.FnRowPiece': WHATEVER THE INPUT: true; the input reads as it did. -/
def fnRowPieceSpec : ChangeSpec := { name := "fnRowPiece", fn := fun _ => fun
  | [d1, d2] => { results := [.lit (.bool true)], args := [d1, d2] }
  | _ => none }
def fnRowPieceRow : OpenClaim := { program := "ytohdpgclokgohaagreatdoor", sum := "450b2218f0f46bfa47a70d12f1e0677cbdf714f10f18655ef42622c47aa49ec3", func := "loop.example/cribble/laws.FnRowPiece", spec := "fnRowPiece", inPlace := ["internal/reflectlite.ValueOf", "(internal/reflectlite.Value).Type", "(internal/reflectlite.Value).IsNil", "internal/reflectlite.TypeOf", "(internal/reflectlite.Value).Elem", "(internal/reflectlite.Value).Set"], unfollowed := true, recurses := true, named := ["errors.errorType"], plainKeys := false, apart := false, laid := [("errors.errorType", laid_errors_errorType)] }
def FnRowPieceSaid : Prop := fnRowPieceRow.holds Tryz.pinned (OpenSpec.ofChange fnRowPieceSpec)

/-- ITS FALSE NEIGHBOUR: 'it returns false'. Refute it at one input. -/
def fnRowPieceWrong : ChangeSpec := { name := "fnRowPiece", fn := fun _ => fun
  | [d1, d2] => { results := [.lit (.bool false)], args := [d1, d2] }
  | _ => none }
def FnRowPieceWrongFalsely : Prop := fnRowPieceRow.holds Tryz.pinned (OpenSpec.ofChange fnRowPieceWrong)

/- THE SECOND FORM. 'bulk': how many values and letters a reading holds, each counted each time it is reached (what is shared counts as often as it is met; a slice's spare places count too). A statement '..UptoSaid' is the law's where the arguments, and the package variables that the reading takes, are together of bulk at most 1048576: NARROWER than '..Said'. Prove '..Said' where nothing that the law and all that it calls make is longer than what came in: it says more and counts as full. Else prove '..UptoSaid'. A law counts once. -/
mutual
def uptoBulk {H : Type} : DataW H → Nat
  | .lit (.string bytes) => bytes.length + 1
  | .lit _ => 1
  | .nil => 1
  | .ptr d => uptoBulk d + 1
  | .slice elems spare => uptoBulkAll elems + uptoBulkAll spare + 1
  | .agg parts => uptoBulkAll parts + 1
  | .iface _ d => uptoBulk d + 1
  | .map entries => uptoBulkEntries entries + 1
  | .held _ => 1
def uptoBulkAll {H : Type} : List (DataW H) → Nat
  | [] => 0
  | d :: r => uptoBulk d + uptoBulkAll r
def uptoBulkEntries {H : Type} : List (Lit × DataW H) → Nat
  | [] => 0
  | x :: r => uptoBulkEntry x + uptoBulkEntries r
def uptoBulkEntry {H : Type} : Lit × DataW H → Nat
  | (.string bytes, d) => bytes.length + uptoBulk d + 1
  | (_, d) => uptoBulk d + 1
 end
def uptoSmall : (H : Type) → List (DataW H) → Bool := fun _ ds => decide (uptoBulkAll ds ≤ 1048576)
def OpenSpec.upto (s : _root_.Go.ChangeSpec) : _root_.Go.OpenSpec := { _root_.Go.OpenSpec.ofChange s with cond := some uptoSmall }

/-- 'laws.FnRowCut', WHERE WHAT IT READS IS OF BULK AT MOST 1048576: true; the input reads as it did. -/
def fnRowCutUptoRow : OpenClaim := { program := "ytohdpgclokgohaagreatdoor", sum := "450b2218f0f46bfa47a70d12f1e0677cbdf714f10f18655ef42622c47aa49ec3", func := "loop.example/cribble/laws.FnRowCut", spec := "fnRowCut", inPlace := ["internal/reflectlite.ValueOf", "(internal/reflectlite.Value).Type", "(internal/reflectlite.Value).IsNil", "internal/reflectlite.TypeOf", "(internal/reflectlite.Value).Elem", "(internal/reflectlite.Value).Set"], unfollowed := true, recurses := true, named := ["errors.errorType"], plainKeys := false, apart := false, laid := [("errors.errorType", laid_errors_errorType)], narrowed := true }
def FnRowCutUptoSaid : Prop := fnRowCutUptoRow.holds Tryz.pinned (OpenSpec.upto fnRowCutSpec)

/-- 'laws.FnRowPairs', WHERE WHAT IT READS IS OF BULK AT MOST 1048576: true; the input reads as it did. -/
def fnRowPairsUptoRow : OpenClaim := { program := "ytohdpgclokgohaagreatdoor", sum := "450b2218f0f46bfa47a70d12f1e0677cbdf714f10f18655ef42622c47aa49ec3", func := "loop.example/cribble/laws.FnRowPairs", spec := "fnRowPairs", inPlace := ["internal/reflectlite.ValueOf", "(internal/reflectlite.Value).Type", "(internal/reflectlite.Value).IsNil", "internal/reflectlite.TypeOf", "(internal/reflectlite.Value).Elem", "(internal/reflectlite.Value).Set"], unfollowed := true, recurses := true, named := ["errors.errorType"], plainKeys := false, apart := false, laid := [("errors.errorType", laid_errors_errorType)], narrowed := true }
def FnRowPairsUptoSaid : Prop := fnRowPairsUptoRow.holds Tryz.pinned (OpenSpec.upto fnRowPairsSpec)

/-- 'laws.FnRowBack', WHERE WHAT IT READS IS OF BULK AT MOST 1048576: true; the input reads as it did. -/
def fnRowBackUptoRow : OpenClaim := { program := "ytohdpgclokgohaagreatdoor", sum := "450b2218f0f46bfa47a70d12f1e0677cbdf714f10f18655ef42622c47aa49ec3", func := "loop.example/cribble/laws.FnRowBack", spec := "fnRowBack", inPlace := ["internal/reflectlite.ValueOf", "(internal/reflectlite.Value).Type", "(internal/reflectlite.Value).IsNil", "internal/reflectlite.TypeOf", "(internal/reflectlite.Value).Elem", "(internal/reflectlite.Value).Set"], unfollowed := true, recurses := true, named := ["errors.errorType"], plainKeys := false, apart := false, laid := [("errors.errorType", laid_errors_errorType)], narrowed := true }
def FnRowBackUptoSaid : Prop := fnRowBackUptoRow.holds Tryz.pinned (OpenSpec.upto fnRowBackSpec)

/-- 'laws.FnRowFlat', WHERE WHAT IT READS IS OF BULK AT MOST 1048576: true; the input reads as it did. -/
def fnRowFlatUptoRow : OpenClaim := { program := "ytohdpgclokgohaagreatdoor", sum := "450b2218f0f46bfa47a70d12f1e0677cbdf714f10f18655ef42622c47aa49ec3", func := "loop.example/cribble/laws.FnRowFlat", spec := "fnRowFlat", inPlace := ["internal/reflectlite.ValueOf", "(internal/reflectlite.Value).Type", "(internal/reflectlite.Value).IsNil", "internal/reflectlite.TypeOf", "(internal/reflectlite.Value).Elem", "(internal/reflectlite.Value).Set"], unfollowed := true, recurses := true, named := ["errors.errorType"], plainKeys := false, apart := false, laid := [("errors.errorType", laid_errors_errorType)], narrowed := true }
def FnRowFlatUptoSaid : Prop := fnRowFlatUptoRow.holds Tryz.pinned (OpenSpec.upto fnRowFlatSpec)

/-- 'laws.FnRowKeysAdd', WHERE WHAT IT READS IS OF BULK AT MOST 1048576: true; the input reads as it did. -/
def fnRowKeysAddUptoRow : OpenClaim := { program := "ytohdpgclokgohaagreatdoor", sum := "450b2218f0f46bfa47a70d12f1e0677cbdf714f10f18655ef42622c47aa49ec3", func := "loop.example/cribble/laws.FnRowKeysAdd", spec := "fnRowKeysAdd", inPlace := ["internal/reflectlite.ValueOf", "(internal/reflectlite.Value).Type", "(internal/reflectlite.Value).IsNil", "internal/reflectlite.TypeOf", "(internal/reflectlite.Value).Elem", "(internal/reflectlite.Value).Set"], unfollowed := true, recurses := true, named := ["errors.errorType"], plainKeys := false, apart := false, laid := [("errors.errorType", laid_errors_errorType)], narrowed := true }
def FnRowKeysAddUptoSaid : Prop := fnRowKeysAddUptoRow.holds Tryz.pinned (OpenSpec.upto fnRowKeysAddSpec)

/-- 'laws.FnRowPiece', WHERE WHAT IT READS IS OF BULK AT MOST 1048576: true; the input reads as it did. -/
def fnRowPieceUptoRow : OpenClaim := { program := "ytohdpgclokgohaagreatdoor", sum := "450b2218f0f46bfa47a70d12f1e0677cbdf714f10f18655ef42622c47aa49ec3", func := "loop.example/cribble/laws.FnRowPiece", spec := "fnRowPiece", inPlace := ["internal/reflectlite.ValueOf", "(internal/reflectlite.Value).Type", "(internal/reflectlite.Value).IsNil", "internal/reflectlite.TypeOf", "(internal/reflectlite.Value).Elem", "(internal/reflectlite.Value).Set"], unfollowed := true, recurses := true, named := ["errors.errorType"], plainKeys := false, apart := false, laid := [("errors.errorType", laid_errors_errorType)], narrowed := true }
def FnRowPieceUptoSaid : Prop := fnRowPieceUptoRow.holds Tryz.pinned (OpenSpec.upto fnRowPieceSpec)

end Rows
end Go.Proofs.YtohdpgclokgohaaGreatDoor
