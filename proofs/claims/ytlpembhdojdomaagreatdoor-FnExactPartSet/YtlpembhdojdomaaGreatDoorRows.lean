/-
  NARROWER THAN 'FOR EVERY INPUT', by the rows' own cells (each row's printed sentence says how): FnExactPartAdd: loops, laid · FnExactPartPut: loops, laid · FnExactPartSet: loops, laid · FnExactPathGet: loops, laid · FnExactPathPut: loops, laid.
  DERIVED. THE GIVEN ROWS OF THIS SEAT. 5 by the template 'for every input the law returns true; each argument reads behind the call as it read before'; 0 by the template 'total and deterministic' (their statements: YtlpembhdojdomaaGreatDoorTotals.lean).
  GIVEN WITH THE SEED: the statements are not yours to turn. If you find one false, say at which input.
  Laid BY PROGRAM, IN A SANDBOX (cutbox-rows.mjs): the forced cells as the released guide's own fill.sh prints them over the translation d36da21715ae12be… (all of the seat's roots in one cut). By AI agents, Wed Nov 11 2026. No macro, syntax, notation, axiom, sorry.
-/
import Derived.Test.YtlpembhdojdomaaGreatDoorChecked
import GoSem.Claim
import GoSem.ClaimJoined
import GoSem.ClaimMapViews
import Derived.JoinedTies
import Derived.KernelRfl
namespace Go.Proofs.YtlpembhdojdomaaGreatDoor
/- THE CELL 'sum', in the pinned program and in every row, IS THE sha256 OF THE DUMP (.gsa) THAT YtlpembhdojdomaaGreatDoorProg.lean LOADS. Nothing in Lean hashes anything: it is a label: what it is worth is what the hold of that sum in a sandbox is worth. -/
noncomputable def Tryz.pinned : Pinned := { name := "ytlpembhdojdomaagreatdoor", sum := "d36da21715ae12bede927a5675193b52381299cbde267ad21151f724898ad316", checked := Tryz.checked }
namespace Rows
def none {H : Type} : Left H := { results := [], args := [] }

/- WHAT THE LISTED PACKAGE-LEVEL VARIABLES READ AS WHEN THE CALL BEGINS. Each datum BY PROGRAM (the guide's laid-datum.mjs) off the statement by which the dump's own 'gosem.cut.vars' lays the variable. In a bare row this is a premise. The card (YtlpembhdojdomaaGreatDoorCards.lean) ties it to the program's text. -/
def laid_errors_errorType {H : Type} : DataW H := .iface "internal/reflectlite.rtype" (.agg [.ptr (.lit (.string [101, 114, 114, 111, 114]))])

/-- 'laws.FnExactPartAdd': WHATEVER THE INPUT: true; the input reads as it did. -/
def fnExactPartAddSpec : ChangeSpec := { name := "fnExactPartAdd", fn := fun _ => fun
  | [d1, d2] => { results := [.lit (.bool true)], args := [d1, d2] }
  | _ => none }
def fnExactPartAddRow : OpenClaim := { program := "ytlpembhdojdomaagreatdoor", sum := "d36da21715ae12bede927a5675193b52381299cbde267ad21151f724898ad316", func := "loop.example/cribble/laws.FnExactPartAdd", spec := "fnExactPartAdd", inPlace := ["internal/reflectlite.ValueOf", "(internal/reflectlite.Value).Type", "(internal/reflectlite.Value).IsNil", "internal/reflectlite.TypeOf", "(internal/reflectlite.Value).Elem", "(internal/reflectlite.Value).Set"], unfollowed := true, recurses := true, named := ["errors.errorType"], loops := true, apart := false, laid := [("errors.errorType", laid_errors_errorType)] }
def FnExactPartAddSaid : Prop := fnExactPartAddRow.holds Tryz.pinned (OpenSpec.ofChange fnExactPartAddSpec)

/-- ITS FALSE NEIGHBOUR: 'it returns false'. Refute it at one input. -/
def fnExactPartAddWrong : ChangeSpec := { name := "fnExactPartAdd", fn := fun _ => fun
  | [d1, d2] => { results := [.lit (.bool false)], args := [d1, d2] }
  | _ => none }
def FnExactPartAddWrongFalsely : Prop := fnExactPartAddRow.holds Tryz.pinned (OpenSpec.ofChange fnExactPartAddWrong)

/-- 'laws.FnExactPartPut': WHATEVER THE INPUT: true; the input reads as it did. -/
def fnExactPartPutSpec : ChangeSpec := { name := "fnExactPartPut", fn := fun _ => fun
  | [d1, d2, d3] => { results := [.lit (.bool true)], args := [d1, d2, d3] }
  | _ => none }
def fnExactPartPutRow : OpenClaim := { program := "ytlpembhdojdomaagreatdoor", sum := "d36da21715ae12bede927a5675193b52381299cbde267ad21151f724898ad316", func := "loop.example/cribble/laws.FnExactPartPut", spec := "fnExactPartPut", inPlace := ["internal/reflectlite.ValueOf", "(internal/reflectlite.Value).Type", "(internal/reflectlite.Value).IsNil", "internal/reflectlite.TypeOf", "(internal/reflectlite.Value).Elem", "(internal/reflectlite.Value).Set"], unfollowed := true, recurses := true, named := ["errors.errorType"], loops := true, apart := false, laid := [("errors.errorType", laid_errors_errorType)] }
def FnExactPartPutSaid : Prop := fnExactPartPutRow.holds Tryz.pinned (OpenSpec.ofChange fnExactPartPutSpec)

/-- ITS FALSE NEIGHBOUR: 'it returns false'. Refute it at one input. -/
def fnExactPartPutWrong : ChangeSpec := { name := "fnExactPartPut", fn := fun _ => fun
  | [d1, d2, d3] => { results := [.lit (.bool false)], args := [d1, d2, d3] }
  | _ => none }
def FnExactPartPutWrongFalsely : Prop := fnExactPartPutRow.holds Tryz.pinned (OpenSpec.ofChange fnExactPartPutWrong)

/-- 'laws.FnExactPartSet': WHATEVER THE INPUT: true; the input reads as it did. -/
def fnExactPartSetSpec : ChangeSpec := { name := "fnExactPartSet", fn := fun _ => fun
  | [d1, d2, d3] => { results := [.lit (.bool true)], args := [d1, d2, d3] }
  | _ => none }
def fnExactPartSetRow : OpenClaim := { program := "ytlpembhdojdomaagreatdoor", sum := "d36da21715ae12bede927a5675193b52381299cbde267ad21151f724898ad316", func := "loop.example/cribble/laws.FnExactPartSet", spec := "fnExactPartSet", inPlace := ["internal/reflectlite.ValueOf", "(internal/reflectlite.Value).Type", "(internal/reflectlite.Value).IsNil", "internal/reflectlite.TypeOf", "(internal/reflectlite.Value).Elem", "(internal/reflectlite.Value).Set"], unfollowed := true, recurses := true, named := ["errors.errorType"], loops := true, apart := false, laid := [("errors.errorType", laid_errors_errorType)] }
def FnExactPartSetSaid : Prop := fnExactPartSetRow.holds Tryz.pinned (OpenSpec.ofChange fnExactPartSetSpec)

/-- ITS FALSE NEIGHBOUR: 'it returns false'. Refute it at one input. -/
def fnExactPartSetWrong : ChangeSpec := { name := "fnExactPartSet", fn := fun _ => fun
  | [d1, d2, d3] => { results := [.lit (.bool false)], args := [d1, d2, d3] }
  | _ => none }
def FnExactPartSetWrongFalsely : Prop := fnExactPartSetRow.holds Tryz.pinned (OpenSpec.ofChange fnExactPartSetWrong)

/-- 'laws.FnExactPathGet': WHATEVER THE INPUT: true; the input reads as it did. -/
def fnExactPathGetSpec : ChangeSpec := { name := "fnExactPathGet", fn := fun _ => fun
  | [d1, d2] => { results := [.lit (.bool true)], args := [d1, d2] }
  | _ => none }
def fnExactPathGetRow : OpenClaim := { program := "ytlpembhdojdomaagreatdoor", sum := "d36da21715ae12bede927a5675193b52381299cbde267ad21151f724898ad316", func := "loop.example/cribble/laws.FnExactPathGet", spec := "fnExactPathGet", inPlace := ["internal/reflectlite.ValueOf", "(internal/reflectlite.Value).Type", "(internal/reflectlite.Value).IsNil", "internal/reflectlite.TypeOf", "(internal/reflectlite.Value).Elem", "(internal/reflectlite.Value).Set"], unfollowed := true, recurses := true, named := ["errors.errorType"], loops := true, apart := false, laid := [("errors.errorType", laid_errors_errorType)] }
def FnExactPathGetSaid : Prop := fnExactPathGetRow.holds Tryz.pinned (OpenSpec.ofChange fnExactPathGetSpec)

/-- ITS FALSE NEIGHBOUR: 'it returns false'. Refute it at one input. -/
def fnExactPathGetWrong : ChangeSpec := { name := "fnExactPathGet", fn := fun _ => fun
  | [d1, d2] => { results := [.lit (.bool false)], args := [d1, d2] }
  | _ => none }
def FnExactPathGetWrongFalsely : Prop := fnExactPathGetRow.holds Tryz.pinned (OpenSpec.ofChange fnExactPathGetWrong)

/-- 'laws.FnExactPathPut': WHATEVER THE INPUT: true; the input reads as it did. -/
def fnExactPathPutSpec : ChangeSpec := { name := "fnExactPathPut", fn := fun _ => fun
  | [d1, d2, d3] => { results := [.lit (.bool true)], args := [d1, d2, d3] }
  | _ => none }
def fnExactPathPutRow : OpenClaim := { program := "ytlpembhdojdomaagreatdoor", sum := "d36da21715ae12bede927a5675193b52381299cbde267ad21151f724898ad316", func := "loop.example/cribble/laws.FnExactPathPut", spec := "fnExactPathPut", inPlace := ["internal/reflectlite.ValueOf", "(internal/reflectlite.Value).Type", "(internal/reflectlite.Value).IsNil", "internal/reflectlite.TypeOf", "(internal/reflectlite.Value).Elem", "(internal/reflectlite.Value).Set"], unfollowed := true, recurses := true, named := ["errors.errorType"], loops := true, apart := false, laid := [("errors.errorType", laid_errors_errorType)] }
def FnExactPathPutSaid : Prop := fnExactPathPutRow.holds Tryz.pinned (OpenSpec.ofChange fnExactPathPutSpec)

/-- ITS FALSE NEIGHBOUR: 'it returns false'. Refute it at one input. -/
def fnExactPathPutWrong : ChangeSpec := { name := "fnExactPathPut", fn := fun _ => fun
  | [d1, d2, d3] => { results := [.lit (.bool false)], args := [d1, d2, d3] }
  | _ => none }
def FnExactPathPutWrongFalsely : Prop := fnExactPathPutRow.holds Tryz.pinned (OpenSpec.ofChange fnExactPathPutWrong)

/- THE SECOND FORM. 'bulk': how many values and letters a reading holds, each counted each time it is reached (what is shared counts as often as it is met; a slice's spare places count too). A statement '..UptoSaid' is the law's where the arguments, and the package variables that the reading takes, are together of bulk at most 1048576: NARROWER than '..Said'. Prove '..Said' where nothing that the law and all that it calls make is longer than what came in: it says more and counts as full. Else prove '..UptoSaid'. A law counts once. -/
mutual
def uptoBulk {H : Type} : DataW H → Nat
  | .lit (.string bytes) => bytes.length + 1
  | .lit _ => 1
  | .nil => 1
  | .ptr d => uptoBulk d + 1
  | .slice elems spare => uptoBulkAll elems + uptoBulkAll spare + 1
  | .agg parts => uptoBulkAll parts + 1
  | .iface _ d => uptoBulk d + 1
  | .map entries => uptoBulkEntries entries + 1
  | .held _ => 1
def uptoBulkAll {H : Type} : List (DataW H) → Nat
  | [] => 0
  | d :: r => uptoBulk d + uptoBulkAll r
def uptoBulkEntries {H : Type} : List (Lit × DataW H) → Nat
  | [] => 0
  | x :: r => uptoBulkEntry x + uptoBulkEntries r
def uptoBulkEntry {H : Type} : Lit × DataW H → Nat
  | (.string bytes, d) => bytes.length + uptoBulk d + 1
  | (_, d) => uptoBulk d + 1
 end
def uptoSmall : (H : Type) → List (DataW H) → Bool := fun _ ds => decide (uptoBulkAll ds ≤ 1048576)
def OpenSpec.upto (s : _root_.Go.ChangeSpec) : _root_.Go.OpenSpec := { _root_.Go.OpenSpec.ofChange s with cond := some uptoSmall }

/-- 'laws.FnExactPartAdd', WHERE WHAT IT READS IS OF BULK AT MOST 1048576: true; the input reads as it did. -/
def fnExactPartAddUptoRow : OpenClaim := { program := "ytlpembhdojdomaagreatdoor", sum := "d36da21715ae12bede927a5675193b52381299cbde267ad21151f724898ad316", func := "loop.example/cribble/laws.FnExactPartAdd", spec := "fnExactPartAdd", inPlace := ["internal/reflectlite.ValueOf", "(internal/reflectlite.Value).Type", "(internal/reflectlite.Value).IsNil", "internal/reflectlite.TypeOf", "(internal/reflectlite.Value).Elem", "(internal/reflectlite.Value).Set"], unfollowed := true, recurses := true, named := ["errors.errorType"], loops := true, apart := false, laid := [("errors.errorType", laid_errors_errorType)], narrowed := true }
def FnExactPartAddUptoSaid : Prop := fnExactPartAddUptoRow.holds Tryz.pinned (OpenSpec.upto fnExactPartAddSpec)

/-- 'laws.FnExactPartPut', WHERE WHAT IT READS IS OF BULK AT MOST 1048576: true; the input reads as it did. -/
def fnExactPartPutUptoRow : OpenClaim := { program := "ytlpembhdojdomaagreatdoor", sum := "d36da21715ae12bede927a5675193b52381299cbde267ad21151f724898ad316", func := "loop.example/cribble/laws.FnExactPartPut", spec := "fnExactPartPut", inPlace := ["internal/reflectlite.ValueOf", "(internal/reflectlite.Value).Type", "(internal/reflectlite.Value).IsNil", "internal/reflectlite.TypeOf", "(internal/reflectlite.Value).Elem", "(internal/reflectlite.Value).Set"], unfollowed := true, recurses := true, named := ["errors.errorType"], loops := true, apart := false, laid := [("errors.errorType", laid_errors_errorType)], narrowed := true }
def FnExactPartPutUptoSaid : Prop := fnExactPartPutUptoRow.holds Tryz.pinned (OpenSpec.upto fnExactPartPutSpec)

/-- 'laws.FnExactPartSet', WHERE WHAT IT READS IS OF BULK AT MOST 1048576: true; the input reads as it did. -/
def fnExactPartSetUptoRow : OpenClaim := { program := "ytlpembhdojdomaagreatdoor", sum := "d36da21715ae12bede927a5675193b52381299cbde267ad21151f724898ad316", func := "loop.example/cribble/laws.FnExactPartSet", spec := "fnExactPartSet", inPlace := ["internal/reflectlite.ValueOf", "(internal/reflectlite.Value).Type", "(internal/reflectlite.Value).IsNil", "internal/reflectlite.TypeOf", "(internal/reflectlite.Value).Elem", "(internal/reflectlite.Value).Set"], unfollowed := true, recurses := true, named := ["errors.errorType"], loops := true, apart := false, laid := [("errors.errorType", laid_errors_errorType)], narrowed := true }
def FnExactPartSetUptoSaid : Prop := fnExactPartSetUptoRow.holds Tryz.pinned (OpenSpec.upto fnExactPartSetSpec)

/-- 'laws.FnExactPathGet', WHERE WHAT IT READS IS OF BULK AT MOST 1048576: true; the input reads as it did. -/
def fnExactPathGetUptoRow : OpenClaim := { program := "ytlpembhdojdomaagreatdoor", sum := "d36da21715ae12bede927a5675193b52381299cbde267ad21151f724898ad316", func := "loop.example/cribble/laws.FnExactPathGet", spec := "fnExactPathGet", inPlace := ["internal/reflectlite.ValueOf", "(internal/reflectlite.Value).Type", "(internal/reflectlite.Value).IsNil", "internal/reflectlite.TypeOf", "(internal/reflectlite.Value).Elem", "(internal/reflectlite.Value).Set"], unfollowed := true, recurses := true, named := ["errors.errorType"], loops := true, apart := false, laid := [("errors.errorType", laid_errors_errorType)], narrowed := true }
def FnExactPathGetUptoSaid : Prop := fnExactPathGetUptoRow.holds Tryz.pinned (OpenSpec.upto fnExactPathGetSpec)

/-- 'laws.FnExactPathPut', WHERE WHAT IT READS IS OF BULK AT MOST 1048576: true; the input reads as it did. -/
def fnExactPathPutUptoRow : OpenClaim := { program := "ytlpembhdojdomaagreatdoor", sum := "d36da21715ae12bede927a5675193b52381299cbde267ad21151f724898ad316", func := "loop.example/cribble/laws.FnExactPathPut", spec := "fnExactPathPut", inPlace := ["internal/reflectlite.ValueOf", "(internal/reflectlite.Value).Type", "(internal/reflectlite.Value).IsNil", "internal/reflectlite.TypeOf", "(internal/reflectlite.Value).Elem", "(internal/reflectlite.Value).Set"], unfollowed := true, recurses := true, named := ["errors.errorType"], loops := true, apart := false, laid := [("errors.errorType", laid_errors_errorType)], narrowed := true }
def FnExactPathPutUptoSaid : Prop := fnExactPathPutUptoRow.holds Tryz.pinned (OpenSpec.upto fnExactPathPutSpec)

end Rows
end Go.Proofs.YtlpembhdojdomaaGreatDoor
