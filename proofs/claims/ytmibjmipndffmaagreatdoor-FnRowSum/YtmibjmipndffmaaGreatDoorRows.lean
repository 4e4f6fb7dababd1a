/-
  NARROWER THAN 'FOR EVERY INPUT', by the rows' own cells (each row's printed sentence says how): FnPath: laid · FnPathTwo: laid · FnPathCat: laid · FnPathOne: laid · FnRowSum: laid · FnExactPathPut: loops, laid.
  DERIVED. THE GIVEN ROWS OF THIS SEAT. 6 by the template 'for every input the law returns true; each argument reads behind the call as it read before'; 0 by the template 'total and deterministic' (their statements: YtmibjmipndffmaaGreatDoorTotals.lean).
  GIVEN WITH THE SEED: the statements are not yours to turn. If you find one false, say at which input.
  Laid BY PROGRAM, IN A SANDBOX (cutbox-rows.mjs): the forced cells as the released guide's own fill.sh prints them over the translation 028947d8de66fbbe… (all of the seat's roots in one cut). By AI agents, Wed Nov 11 2026. No macro, syntax, notation, axiom, sorry.
-/
import Derived.Test.YtmibjmipndffmaaGreatDoorChecked
import GoSem.Claim
import GoSem.ClaimJoined
import GoSem.ClaimMapViews
import Derived.JoinedTies
import Derived.KernelRfl
namespace Go.Proofs.YtmibjmipndffmaaGreatDoor
/- THE CELL 'sum', in the pinned program and in every row, IS THE sha256 OF THE DUMP (.gsa) THAT YtmibjmipndffmaaGreatDoorProg.lean LOADS. Nothing in Lean hashes anything: it is a label: what it is worth is what the hold of that sum in a sandbox is worth. -/
noncomputable def Tryz.pinned : Pinned := { name := "ytmibjmipndffmaagreatdoor", sum := "028947d8de66fbbeaf8bbaddd0dd14b3262d34f389764cb1e51d58fc738cfcd5", checked := Tryz.checked }
namespace Rows
def none {H : Type} : Left H := { results := [], args := [] }

/- WHAT THE LISTED PACKAGE-LEVEL VARIABLES READ AS WHEN THE CALL BEGINS. Each datum BY PROGRAM (the guide's laid-datum.mjs) off the statement by which the dump's own 'gosem.cut.vars' lays the variable. In a bare row this is a premise. The card (YtmibjmipndffmaaGreatDoorCards.lean) ties it to the program's text. -/
def laid_errors_errorType {H : Type} : DataW H := .iface "internal/reflectlite.rtype" (.agg [.ptr (.lit (.string [101, 114, 114, 111, 114]))])

/-- 'laws.FnPath': WHATEVER THE INPUT: true; the input reads as it did. -/
def fnPathSpec : ChangeSpec := { name := "fnPath", fn := fun _ => fun
  | [d1, d2] => { results := [.lit (.bool true)], args := [d1, d2] }
  | _ => none }
def fnPathRow : OpenClaim := { program := "ytmibjmipndffmaagreatdoor", sum := "028947d8de66fbbeaf8bbaddd0dd14b3262d34f389764cb1e51d58fc738cfcd5", func := "loop.example/cribble/laws.FnPath", spec := "fnPath", inPlace := ["internal/reflectlite.ValueOf", "(internal/reflectlite.Value).Type", "(internal/reflectlite.Value).IsNil", "internal/reflectlite.TypeOf", "(internal/reflectlite.Value).Elem", "(internal/reflectlite.Value).Set"], unfollowed := true, recurses := true, named := ["errors.errorType"], plainKeys := false, apart := false, laid := [("errors.errorType", laid_errors_errorType)] }
def FnPathSaid : Prop := fnPathRow.holds Tryz.pinned (OpenSpec.ofChange fnPathSpec)

/-- ITS FALSE NEIGHBOUR: 'it returns false'. Refute it at one input. -/
def fnPathWrong : ChangeSpec := { name := "fnPath", fn := fun _ => fun
  | [d1, d2] => { results := [.lit (.bool false)], args := [d1, d2] }
  | _ => none }
def FnPathWrongFalsely : Prop := fnPathRow.holds Tryz.pinned (OpenSpec.ofChange fnPathWrong)

/-- 'laws.FnPathTwo': WHATEVER THE INPUT: true; the input reads as it did. -/
def fnPathTwoSpec : ChangeSpec := { name := "fnPathTwo", fn := fun _ => fun
  | [d1, d2] => { results := [.lit (.bool true)], args := [d1, d2] }
  | _ => none }
def fnPathTwoRow : OpenClaim := { program := "ytmibjmipndffmaagreatdoor", sum := "028947d8de66fbbeaf8bbaddd0dd14b3262d34f389764cb1e51d58fc738cfcd5", func := "loop.example/cribble/laws.FnPathTwo", spec := "fnPathTwo", inPlace := ["internal/reflectlite.ValueOf", "(internal/reflectlite.Value).Type", "(internal/reflectlite.Value).IsNil", "internal/reflectlite.TypeOf", "(internal/reflectlite.Value).Elem", "(internal/reflectlite.Value).Set"], unfollowed := true, recurses := true, named := ["errors.errorType"], plainKeys := false, apart := false, laid := [("errors.errorType", laid_errors_errorType)] }
def FnPathTwoSaid : Prop := fnPathTwoRow.holds Tryz.pinned (OpenSpec.ofChange fnPathTwoSpec)

/-- ITS FALSE NEIGHBOUR: 'it returns false'. Refute it at one input. -/
def fnPathTwoWrong : ChangeSpec := { name := "fnPathTwo", fn := fun _ => fun
  | [d1, d2] => { results := [.lit (.bool false)], args := [d1, d2] }
  | _ => none }
def FnPathTwoWrongFalsely : Prop := fnPathTwoRow.holds Tryz.pinned (OpenSpec.ofChange fnPathTwoWrong)

/-- 'laws.FnPathCat': WHATEVER THE INPUT: true; the input reads as it did. -/
def fnPathCatSpec : ChangeSpec := { name := "fnPathCat", fn := fun _ => fun
  | [d1, d2] => { results := [.lit (.bool true)], args := [d1, d2] }
  | _ => none }
def fnPathCatRow : OpenClaim := { program := "ytmibjmipndffmaagreatdoor", sum := "028947d8de66fbbeaf8bbaddd0dd14b3262d34f389764cb1e51d58fc738cfcd5", func := "loop.example/cribble/laws.FnPathCat", spec := "fnPathCat", inPlace := ["internal/reflectlite.ValueOf", "(internal/reflectlite.Value).Type", "(internal/reflectlite.Value).IsNil", "internal/reflectlite.TypeOf", "(internal/reflectlite.Value).Elem", "(internal/reflectlite.Value).Set"], unfollowed := true, recurses := true, named := ["errors.errorType"], plainKeys := false, apart := false, laid := [("errors.errorType", laid_errors_errorType)] }
def FnPathCatSaid : Prop := fnPathCatRow.holds Tryz.pinned (OpenSpec.ofChange fnPathCatSpec)

/-- ITS FALSE NEIGHBOUR: 'it returns false'. Refute it at one input. -/
def fnPathCatWrong : ChangeSpec := { name := "fnPathCat", fn := fun _ => fun
  | [d1, d2] => { results := [.lit (.bool false)], args := [d1, d2] }
  | _ => none }
def FnPathCatWrongFalsely : Prop := fnPathCatRow.holds Tryz.pinned (OpenSpec.ofChange fnPathCatWrong)

/-- 'laws.FnPathOne': WHATEVER THE INPUT: true; the input reads as it did. -/
def fnPathOneSpec : ChangeSpec := { name := "fnPathOne", fn := fun _ => fun
  | [d] => { results := [.lit (.bool true)], args := [d] }
  | _ => none }
def fnPathOneRow : OpenClaim := { program := "ytmibjmipndffmaagreatdoor", sum := "028947d8de66fbbeaf8bbaddd0dd14b3262d34f389764cb1e51d58fc738cfcd5", func := "loop.example/cribble/laws.FnPathOne", spec := "fnPathOne", inPlace := ["internal/reflectlite.ValueOf", "(internal/reflectlite.Value).Type", "(internal/reflectlite.Value).IsNil", "internal/reflectlite.TypeOf", "(internal/reflectlite.Value).Elem", "(internal/reflectlite.Value).Set"], unfollowed := true, recurses := true, named := ["errors.errorType"], plainKeys := false, apart := false, laid := [("errors.errorType", laid_errors_errorType)] }
def FnPathOneSaid : Prop := fnPathOneRow.holds Tryz.pinned (OpenSpec.ofChange fnPathOneSpec)

/-- ITS FALSE NEIGHBOUR: 'it returns false'. Refute it at one input. -/
def fnPathOneWrong : ChangeSpec := { name := "fnPathOne", fn := fun _ => fun
  | [d] => { results := [.lit (.bool false)], args := [d] }
  | _ => none }
def FnPathOneWrongFalsely : Prop := fnPathOneRow.holds Tryz.pinned (OpenSpec.ofChange fnPathOneWrong)

/-- 'laws.FnRowSum': WHATEVER THE INPUT: true; the input reads as it did. -/
def fnRowSumSpec : ChangeSpec := { name := "fnRowSum", fn := fun _ => fun
  | [d] => { results := [.lit (.bool true)], args := [d] }
  | _ => none }
def fnRowSumRow : OpenClaim := { program := "ytmibjmipndffmaagreatdoor", sum := "028947d8de66fbbeaf8bbaddd0dd14b3262d34f389764cb1e51d58fc738cfcd5", func := "loop.example/cribble/laws.FnRowSum", spec := "fnRowSum", inPlace := ["internal/reflectlite.ValueOf", "(internal/reflectlite.Value).Type", "(internal/reflectlite.Value).IsNil", "internal/reflectlite.TypeOf", "(internal/reflectlite.Value).Elem", "(internal/reflectlite.Value).Set"], unfollowed := true, recurses := true, named := ["errors.errorType"], plainKeys := false, apart := false, laid := [("errors.errorType", laid_errors_errorType)] }
def FnRowSumSaid : Prop := fnRowSumRow.holds Tryz.pinned (OpenSpec.ofChange fnRowSumSpec)

/-- ITS FALSE NEIGHBOUR: 'it returns false'. Refute it at one input. -/
def fnRowSumWrong : ChangeSpec := { name := "fnRowSum", fn := fun _ => fun
  | [d] => { results := [.lit (.bool false)], args := [d] }
  | _ => none }
def FnRowSumWrongFalsely : Prop := fnRowSumRow.holds Tryz.pinned (OpenSpec.ofChange fnRowSumWrong)

/-- 'laws.FnExactPathPut': WHATEVER THE INPUT: true; the input reads as it did. -/
def fnExactPathPutSpec : ChangeSpec := { name := "fnExactPathPut", fn := fun _ => fun
  | [d1, d2, d3] => { results := [.lit (.bool true)], args := [d1, d2, d3] }
  | _ => none }
def fnExactPathPutRow : OpenClaim := { program := "ytmibjmipndffmaagreatdoor", sum := "028947d8de66fbbeaf8bbaddd0dd14b3262d34f389764cb1e51d58fc738cfcd5", func := "loop.example/cribble/laws.FnExactPathPut", spec := "fnExactPathPut", inPlace := ["internal/reflectlite.ValueOf", "(internal/reflectlite.Value).Type", "(internal/reflectlite.Value).IsNil", "internal/reflectlite.TypeOf", "(internal/reflectlite.Value).Elem", "(internal/reflectlite.Value).Set"], unfollowed := true, recurses := true, named := ["errors.errorType"], loops := true, plainKeys := false, apart := false, laid := [("errors.errorType", laid_errors_errorType)] }
def FnExactPathPutSaid : Prop := fnExactPathPutRow.holds Tryz.pinned (OpenSpec.ofChange fnExactPathPutSpec)

/-- ITS FALSE NEIGHBOUR: 'it returns false'. Refute it at one input. -/
def fnExactPathPutWrong : ChangeSpec := { name := "fnExactPathPut", fn := fun _ => fun
  | [d1, d2, d3] => { results := [.lit (.bool false)], args := [d1, d2, d3] }
  | _ => none }
def FnExactPathPutWrongFalsely : Prop := fnExactPathPutRow.holds Tryz.pinned (OpenSpec.ofChange fnExactPathPutWrong)

/- THE SECOND FORM. 'bulk': how many values and letters a reading holds, each counted each time it is reached (what is shared counts as often as it is met; a slice's spare places count too). A statement '..UptoSaid' is the law's where the arguments, and the package variables that the reading takes, are together of bulk at most 1048576: NARROWER than '..Said'. Prove '..Said' where nothing that the law and all that it calls make is longer than what came in: it says more and counts as full. Else prove '..UptoSaid'. A law counts once. -/
mutual
def uptoBulk {H : Type} : DataW H → Nat
  | .lit (.string bytes) => bytes.length + 1
  | .lit _ => 1
  | .nil => 1
  | .ptr d => uptoBulk d + 1
  | .slice elems spare => uptoBulkAll elems + uptoBulkAll spare + 1
  | .agg parts => uptoBulkAll parts + 1
  | .iface _ d => uptoBulk d + 1
  | .map entries => uptoBulkEntries entries + 1
  | .held _ => 1
def uptoBulkAll {H : Type} : List (DataW H) → Nat
  | [] => 0
  | d :: r => uptoBulk d + uptoBulkAll r
def uptoBulkEntries {H : Type} : List (Lit × DataW H) → Nat
  | [] => 0
  | x :: r => uptoBulkEntry x + uptoBulkEntries r
def uptoBulkEntry {H : Type} : Lit × DataW H → Nat
  | (.string bytes, d) => bytes.length + uptoBulk d + 1
  | (_, d) => uptoBulk d + 1
 end
def uptoSmall : (H : Type) → List (DataW H) → Bool := fun _ ds => decide (uptoBulkAll ds ≤ 1048576)
def OpenSpec.upto (s : _root_.Go.ChangeSpec) : _root_.Go.OpenSpec := { _root_.Go.OpenSpec.ofChange s with cond := some uptoSmall }

/-- 'laws.FnPath', WHERE WHAT IT READS IS OF BULK AT MOST 1048576: true; the input reads as it did. -/
def fnPathUptoRow : OpenClaim := { program := "ytmibjmipndffmaagreatdoor", sum := "028947d8de66fbbeaf8bbaddd0dd14b3262d34f389764cb1e51d58fc738cfcd5", func := "loop.example/cribble/laws.FnPath", spec := "fnPath", inPlace := ["internal/reflectlite.ValueOf", "(internal/reflectlite.Value).Type", "(internal/reflectlite.Value).IsNil", "internal/reflectlite.TypeOf", "(internal/reflectlite.Value).Elem", "(internal/reflectlite.Value).Set"], unfollowed := true, recurses := true, named := ["errors.errorType"], plainKeys := false, apart := false, laid := [("errors.errorType", laid_errors_errorType)], narrowed := true }
def FnPathUptoSaid : Prop := fnPathUptoRow.holds Tryz.pinned (OpenSpec.upto fnPathSpec)

/-- 'laws.FnPathTwo', WHERE WHAT IT READS IS OF BULK AT MOST 1048576: true; the input reads as it did. -/
def fnPathTwoUptoRow : OpenClaim := { program := "ytmibjmipndffmaagreatdoor", sum := "028947d8de66fbbeaf8bbaddd0dd14b3262d34f389764cb1e51d58fc738cfcd5", func := "loop.example/cribble/laws.FnPathTwo", spec := "fnPathTwo", inPlace := ["internal/reflectlite.ValueOf", "(internal/reflectlite.Value).Type", "(internal/reflectlite.Value).IsNil", "internal/reflectlite.TypeOf", "(internal/reflectlite.Value).Elem", "(internal/reflectlite.Value).Set"], unfollowed := true, recurses := true, named := ["errors.errorType"], plainKeys := false, apart := false, laid := [("errors.errorType", laid_errors_errorType)], narrowed := true }
def FnPathTwoUptoSaid : Prop := fnPathTwoUptoRow.holds Tryz.pinned (OpenSpec.upto fnPathTwoSpec)

/-- 'laws.FnPathCat', WHERE WHAT IT READS IS OF BULK AT MOST 1048576: true; the input reads as it did. -/
def fnPathCatUptoRow : OpenClaim := { program := "ytmibjmipndffmaagreatdoor", sum := "028947d8de66fbbeaf8bbaddd0dd14b3262d34f389764cb1e51d58fc738cfcd5", func := "loop.example/cribble/laws.FnPathCat", spec := "fnPathCat", inPlace := ["internal/reflectlite.ValueOf", "(internal/reflectlite.Value).Type", "(internal/reflectlite.Value).IsNil", "internal/reflectlite.TypeOf", "(internal/reflectlite.Value).Elem", "(internal/reflectlite.Value).Set"], unfollowed := true, recurses := true, named := ["errors.errorType"], plainKeys := false, apart := false, laid := [("errors.errorType", laid_errors_errorType)], narrowed := true }
def FnPathCatUptoSaid : Prop := fnPathCatUptoRow.holds Tryz.pinned (OpenSpec.upto fnPathCatSpec)

/-- 'laws.FnPathOne', WHERE WHAT IT READS IS OF BULK AT MOST 1048576: true; the input reads as it did. -/
def fnPathOneUptoRow : OpenClaim := { program := "ytmibjmipndffmaagreatdoor", sum := "028947d8de66fbbeaf8bbaddd0dd14b3262d34f389764cb1e51d58fc738cfcd5", func := "loop.example/cribble/laws.FnPathOne", spec := "fnPathOne", inPlace := ["internal/reflectlite.ValueOf", "(internal/reflectlite.Value).Type", "(internal/reflectlite.Value).IsNil", "internal/reflectlite.TypeOf", "(internal/reflectlite.Value).Elem", "(internal/reflectlite.Value).Set"], unfollowed := true, recurses := true, named := ["errors.errorType"], plainKeys := false, apart := false, laid := [("errors.errorType", laid_errors_errorType)], narrowed := true }
def FnPathOneUptoSaid : Prop := fnPathOneUptoRow.holds Tryz.pinned (OpenSpec.upto fnPathOneSpec)

/-- 'laws.FnRowSum', WHERE WHAT IT READS IS OF BULK AT MOST 1048576: true; the input reads as it did. -/
def fnRowSumUptoRow : OpenClaim := { program := "ytmibjmipndffmaagreatdoor", sum := "028947d8de66fbbeaf8bbaddd0dd14b3262d34f389764cb1e51d58fc738cfcd5", func := "loop.example/cribble/laws.FnRowSum", spec := "fnRowSum", inPlace := ["internal/reflectlite.ValueOf", "(internal/reflectlite.Value).Type", "(internal/reflectlite.Value).IsNil", "internal/reflectlite.TypeOf", "(internal/reflectlite.Value).Elem", "(internal/reflectlite.Value).Set"], unfollowed := true, recurses := true, named := ["errors.errorType"], plainKeys := false, apart := false, laid := [("errors.errorType", laid_errors_errorType)], narrowed := true }
def FnRowSumUptoSaid : Prop := fnRowSumUptoRow.holds Tryz.pinned (OpenSpec.upto fnRowSumSpec)

/-- 'laws.FnExactPathPut', WHERE WHAT IT READS IS OF BULK AT MOST 1048576: true; the input reads as it did. -/
def fnExactPathPutUptoRow : OpenClaim := { program := "ytmibjmipndffmaagreatdoor", sum := "028947d8de66fbbeaf8bbaddd0dd14b3262d34f389764cb1e51d58fc738cfcd5", func := "loop.example/cribble/laws.FnExactPathPut", spec := "fnExactPathPut", inPlace := ["internal/reflectlite.ValueOf", "(internal/reflectlite.Value).Type", "(internal/reflectlite.Value).IsNil", "internal/reflectlite.TypeOf", "(internal/reflectlite.Value).Elem", "(internal/reflectlite.Value).Set"], unfollowed := true, recurses := true, named := ["errors.errorType"], loops := true, plainKeys := false, apart := false, laid := [("errors.errorType", laid_errors_errorType)], narrowed := true }
def FnExactPathPutUptoSaid : Prop := fnExactPathPutUptoRow.holds Tryz.pinned (OpenSpec.upto fnExactPathPutSpec)

end Rows
end Go.Proofs.YtmibjmipndffmaaGreatDoor
