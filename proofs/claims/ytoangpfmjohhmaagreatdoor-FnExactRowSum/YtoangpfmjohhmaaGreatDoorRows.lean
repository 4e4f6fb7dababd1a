/-
  NARROWER THAN 'FOR EVERY INPUT', by the rows' own cells (each row's printed sentence says how): FnPartAdd: laid · FnPartLen: laid · FnExactPartAdd: loops, laid · FnExactPathPut: loops, laid · FnExactRowSum: loops, laid.
  DERIVED. THE GIVEN ROWS OF THIS SEAT. 5 by the template 'for every input the law returns true; each argument reads behind the call as it read before'; 0 by the template 'total and deterministic' (their statements: YtoangpfmjohhmaaGreatDoorTotals.lean).
  GIVEN WITH THE SEED: the statements are not yours to turn. If you find one false, say at which input.
  Laid BY PROGRAM, IN A SANDBOX (cutbox-rows.mjs): the forced cells as the released guide's own fill.sh prints them over the translation d9f2b5e2cac7a1fe… (all of the seat's roots in one cut). By AI agents, Wed Nov 11 2026. No macro, syntax, notation, axiom, sorry.
-/
import Derived.Test.YtoangpfmjohhmaaGreatDoorChecked
import GoSem.Claim
import GoSem.ClaimJoined
import GoSem.ClaimMapViews
import Derived.JoinedTies
import Derived.KernelRfl
namespace Go.Proofs.YtoangpfmjohhmaaGreatDoor
/- THE CELL 'sum', in the pinned program and in every row, IS THE sha256 OF THE DUMP (.gsa) THAT YtoangpfmjohhmaaGreatDoorProg.lean LOADS. Nothing in Lean hashes anything: it is a label: what it is worth is what the hold of that sum in a sandbox is worth. -/
noncomputable def Tryz.pinned : Pinned := { name := "ytoangpfmjohhmaagreatdoor", sum := "d9f2b5e2cac7a1fe7fe6a9878f488503458ff5228cf2cf58fc78b8e48004ad27", checked := Tryz.checked }
namespace Rows
def none {H : Type} : Left H := { results := [], args := [] }

/- WHAT THE LISTED PACKAGE-LEVEL VARIABLES READ AS WHEN THE CALL BEGINS. Each datum BY PROGRAM (the guide's laid-datum.mjs) off the statement by which the dump's own 'gosem.cut.vars' lays the variable. In a bare row this is a premise. The card (YtoangpfmjohhmaaGreatDoorCards.lean) ties it to the program's text. -/
def laid_errors_errorType {H : Type} : DataW H := .iface "internal/reflectlite.rtype" (.agg [.ptr (.lit (.string [101, 114, 114, 111, 114]))])

/-- 'laws.FnPartAdd': WHATEVER THE INPUT: true; the input reads as it did. -/
def fnPartAddSpec : ChangeSpec := { name := "fnPartAdd", fn := fun _ => fun
  | [d1, d2] => { results := [.lit (.bool true)], args := [d1, d2] }
  | _ => none }
def fnPartAddRow : OpenClaim := { program := "ytoangpfmjohhmaagreatdoor", sum := "d9f2b5e2cac7a1fe7fe6a9878f488503458ff5228cf2cf58fc78b8e48004ad27", func := "loop.example/cribble/laws.FnPartAdd", spec := "fnPartAdd", inPlace := ["internal/reflectlite.ValueOf", "(internal/reflectlite.Value).Type", "(internal/reflectlite.Value).IsNil", "internal/reflectlite.TypeOf", "(internal/reflectlite.Value).Elem", "(internal/reflectlite.Value).Set"], unfollowed := true, recurses := true, named := ["errors.errorType"], plainKeys := false, apart := false, laid := [("errors.errorType", laid_errors_errorType)] }
def FnPartAddSaid : Prop := fnPartAddRow.holds Tryz.pinned (OpenSpec.ofChange fnPartAddSpec)

/-- ITS FALSE NEIGHBOUR: 'it returns false'. Refute it at one input. -/
def fnPartAddWrong : ChangeSpec := { name := "fnPartAdd", fn := fun _ => fun
  | [d1, d2] => { results := [.lit (.bool false)], args := [d1, d2] }
  | _ => none }
def FnPartAddWrongFalsely : Prop := fnPartAddRow.holds Tryz.pinned (OpenSpec.ofChange fnPartAddWrong)

/-- 'laws.FnPartLen': WHATEVER THE INPUT: true; the input reads as it did. -/
def fnPartLenSpec : ChangeSpec := { name := "fnPartLen", fn := fun _ => fun
  | [d] => { results := [.lit (.bool true)], args := [d] }
  | _ => none }
def fnPartLenRow : OpenClaim := { program := "ytoangpfmjohhmaagreatdoor", sum := "d9f2b5e2cac7a1fe7fe6a9878f488503458ff5228cf2cf58fc78b8e48004ad27", func := "loop.example/cribble/laws.FnPartLen", spec := "fnPartLen", inPlace := ["internal/reflectlite.ValueOf", "(internal/reflectlite.Value).Type", "(internal/reflectlite.Value).IsNil", "internal/reflectlite.TypeOf", "(internal/reflectlite.Value).Elem", "(internal/reflectlite.Value).Set"], unfollowed := true, recurses := true, named := ["errors.errorType"], plainKeys := false, apart := false, laid := [("errors.errorType", laid_errors_errorType)] }
def FnPartLenSaid : Prop := fnPartLenRow.holds Tryz.pinned (OpenSpec.ofChange fnPartLenSpec)

/-- ITS FALSE NEIGHBOUR: 'it returns false'. Refute it at one input. -/
def fnPartLenWrong : ChangeSpec := { name := "fnPartLen", fn := fun _ => fun
  | [d] => { results := [.lit (.bool false)], args := [d] }
  | _ => none }
def FnPartLenWrongFalsely : Prop := fnPartLenRow.holds Tryz.pinned (OpenSpec.ofChange fnPartLenWrong)

/-- 'laws.FnExactPartAdd': WHATEVER THE INPUT: true; the input reads as it did. -/
def fnExactPartAddSpec : ChangeSpec := { name := "fnExactPartAdd", fn := fun _ => fun
  | [d1, d2] => { results := [.lit (.bool true)], args := [d1, d2] }
  | _ => none }
def fnExactPartAddRow : OpenClaim := { program := "ytoangpfmjohhmaagreatdoor", sum := "d9f2b5e2cac7a1fe7fe6a9878f488503458ff5228cf2cf58fc78b8e48004ad27", func := "loop.example/cribble/laws.FnExactPartAdd", spec := "fnExactPartAdd", inPlace := ["internal/reflectlite.ValueOf", "(internal/reflectlite.Value).Type", "(internal/reflectlite.Value).IsNil", "internal/reflectlite.TypeOf", "(internal/reflectlite.Value).Elem", "(internal/reflectlite.Value).Set"], unfollowed := true, recurses := true, named := ["errors.errorType"], loops := true, plainKeys := false, apart := false, laid := [("errors.errorType", laid_errors_errorType)] }
def FnExactPartAddSaid : Prop := fnExactPartAddRow.holds Tryz.pinned (OpenSpec.ofChange fnExactPartAddSpec)

/-- ITS FALSE NEIGHBOUR: 'it returns false'. Refute it at one input. -/
def fnExactPartAddWrong : ChangeSpec := { name := "fnExactPartAdd", fn := fun _ => fun
  | [d1, d2] => { results := [.lit (.bool false)], args := [d1, d2] }
  | _ => none }
def FnExactPartAddWrongFalsely : Prop := fnExactPartAddRow.holds Tryz.pinned (OpenSpec.ofChange fnExactPartAddWrong)

/-- 'laws.FnExactPathPut': WHATEVER THE INPUT: true; the input reads as it did. -/
def fnExactPathPutSpec : ChangeSpec := { name := "fnExactPathPut", fn := fun _ => fun
  | [d1, d2, d3] => { results := [.lit (.bool true)], args := [d1, d2, d3] }
  | _ => none }
def fnExactPathPutRow : OpenClaim := { program := "ytoangpfmjohhmaagreatdoor", sum := "d9f2b5e2cac7a1fe7fe6a9878f488503458ff5228cf2cf58fc78b8e48004ad27", func := "loop.example/cribble/laws.FnExactPathPut", spec := "fnExactPathPut", inPlace := ["internal/reflectlite.ValueOf", "(internal/reflectlite.Value).Type", "(internal/reflectlite.Value).IsNil", "internal/reflectlite.TypeOf", "(internal/reflectlite.Value).Elem", "(internal/reflectlite.Value).Set"], unfollowed := true, recurses := true, named := ["errors.errorType"], loops := true, plainKeys := false, apart := false, laid := [("errors.errorType", laid_errors_errorType)] }
def FnExactPathPutSaid : Prop := fnExactPathPutRow.holds Tryz.pinned (OpenSpec.ofChange fnExactPathPutSpec)

/-- ITS FALSE NEIGHBOUR: 'it returns false'. Refute it at one input. -/
def fnExactPathPutWrong : ChangeSpec := { name := "fnExactPathPut", fn := fun _ => fun
  | [d1, d2, d3] => { results := [.lit (.bool false)], args := [d1, d2, d3] }
  | _ => none }
def FnExactPathPutWrongFalsely : Prop := fnExactPathPutRow.holds Tryz.pinned (OpenSpec.ofChange fnExactPathPutWrong)

/-- 'laws.FnExactRowSum': WHATEVER THE INPUT: true; the input reads as it did. -/
def fnExactRowSumSpec : ChangeSpec := { name := "fnExactRowSum", fn := fun _ => fun
  | [d] => { results := [.lit (.bool true)], args := [d] }
  | _ => none }
def fnExactRowSumRow : OpenClaim := { program := "ytoangpfmjohhmaagreatdoor", sum := "d9f2b5e2cac7a1fe7fe6a9878f488503458ff5228cf2cf58fc78b8e48004ad27", func := "loop.example/cribble/laws.FnExactRowSum", spec := "fnExactRowSum", inPlace := ["internal/reflectlite.ValueOf", "(internal/reflectlite.Value).Type", "(internal/reflectlite.Value).IsNil", "internal/reflectlite.TypeOf", "(internal/reflectlite.Value).Elem", "(internal/reflectlite.Value).Set"], unfollowed := true, recurses := true, named := ["errors.errorType"], loops := true, plainKeys := false, apart := false, laid := [("errors.errorType", laid_errors_errorType)] }
def FnExactRowSumSaid : Prop := fnExactRowSumRow.holds Tryz.pinned (OpenSpec.ofChange fnExactRowSumSpec)

/-- ITS FALSE NEIGHBOUR: 'it returns false'. Refute it at one input. -/
def fnExactRowSumWrong : ChangeSpec := { name := "fnExactRowSum", fn := fun _ => fun
  | [d] => { results := [.lit (.bool false)], args := [d] }
  | _ => none }
def FnExactRowSumWrongFalsely : Prop := fnExactRowSumRow.holds Tryz.pinned (OpenSpec.ofChange fnExactRowSumWrong)

/- THE SECOND FORM. 'bulk': how many values and letters a reading holds, each counted each time it is reached (what is shared counts as often as it is met; a slice's spare places count too). A statement '..UptoSaid' is the law's where the arguments, and the package variables that the reading takes, are together of bulk at most 1048576: NARROWER than '..Said'. Prove '..Said' where nothing that the law and all that it calls make is longer than what came in: it says more and counts as full. Else prove '..UptoSaid'. A law counts once. -/
mutual
def uptoBulk {H : Type} : DataW H → Nat
  | .lit (.string bytes) => bytes.length + 1
  | .lit _ => 1
  | .nil => 1
  | .ptr d => uptoBulk d + 1
  | .slice elems spare => uptoBulkAll elems + uptoBulkAll spare + 1
  | .agg parts => uptoBulkAll parts + 1
  | .iface _ d => uptoBulk d + 1
  | .map entries => uptoBulkEntries entries + 1
  | .held _ => 1
def uptoBulkAll {H : Type} : List (DataW H) → Nat
  | [] => 0
  | d :: r => uptoBulk d + uptoBulkAll r
def uptoBulkEntries {H : Type} : List (Lit × DataW H) → Nat
  | [] => 0
  | x :: r => uptoBulkEntry x + uptoBulkEntries r
def uptoBulkEntry {H : Type} : Lit × DataW H → Nat
  | (.string bytes, d) => bytes.length + uptoBulk d + 1
  | (_, d) => uptoBulk d + 1
 end
def uptoSmall : (H : Type) → List (DataW H) → Bool := fun _ ds => decide (uptoBulkAll ds ≤ 1048576)
def OpenSpec.upto (s : _root_.Go.ChangeSpec) : _root_.Go.OpenSpec := { _root_.Go.OpenSpec.ofChange s with cond := some uptoSmall }

/-- 'laws.FnPartAdd', WHERE WHAT IT READS IS OF BULK AT MOST 1048576: true; the input reads as it did. -/
def fnPartAddUptoRow : OpenClaim := { program := "ytoangpfmjohhmaagreatdoor", sum := "d9f2b5e2cac7a1fe7fe6a9878f488503458ff5228cf2cf58fc78b8e48004ad27", func := "loop.example/cribble/laws.FnPartAdd", spec := "fnPartAdd", inPlace := ["internal/reflectlite.ValueOf", "(internal/reflectlite.Value).Type", "(internal/reflectlite.Value).IsNil", "internal/reflectlite.TypeOf", "(internal/reflectlite.Value).Elem", "(internal/reflectlite.Value).Set"], unfollowed := true, recurses := true, named := ["errors.errorType"], plainKeys := false, apart := false, laid := [("errors.errorType", laid_errors_errorType)], narrowed := true }
def FnPartAddUptoSaid : Prop := fnPartAddUptoRow.holds Tryz.pinned (OpenSpec.upto fnPartAddSpec)

/-- 'laws.FnPartLen', WHERE WHAT IT READS IS OF BULK AT MOST 1048576: true; the input reads as it did. -/
def fnPartLenUptoRow : OpenClaim := { program := "ytoangpfmjohhmaagreatdoor", sum := "d9f2b5e2cac7a1fe7fe6a9878f488503458ff5228cf2cf58fc78b8e48004ad27", func := "loop.example/cribble/laws.FnPartLen", spec := "fnPartLen", inPlace := ["internal/reflectlite.ValueOf", "(internal/reflectlite.Value).Type", "(internal/reflectlite.Value).IsNil", "internal/reflectlite.TypeOf", "(internal/reflectlite.Value).Elem", "(internal/reflectlite.Value).Set"], unfollowed := true, recurses := true, named := ["errors.errorType"], plainKeys := false, apart := false, laid := [("errors.errorType", laid_errors_errorType)], narrowed := true }
def FnPartLenUptoSaid : Prop := fnPartLenUptoRow.holds Tryz.pinned (OpenSpec.upto fnPartLenSpec)

/-- 'laws.FnExactPartAdd', WHERE WHAT IT READS IS OF BULK AT MOST 1048576: true; the input reads as it did. -/
def fnExactPartAddUptoRow : OpenClaim := { program := "ytoangpfmjohhmaagreatdoor", sum := "d9f2b5e2cac7a1fe7fe6a9878f488503458ff5228cf2cf58fc78b8e48004ad27", func := "loop.example/cribble/laws.FnExactPartAdd", spec := "fnExactPartAdd", inPlace := ["internal/reflectlite.ValueOf", "(internal/reflectlite.Value).Type", "(internal/reflectlite.Value).IsNil", "internal/reflectlite.TypeOf", "(internal/reflectlite.Value).Elem", "(internal/reflectlite.Value).Set"], unfollowed := true, recurses := true, named := ["errors.errorType"], loops := true, plainKeys := false, apart := false, laid := [("errors.errorType", laid_errors_errorType)], narrowed := true }
def FnExactPartAddUptoSaid : Prop := fnExactPartAddUptoRow.holds Tryz.pinned (OpenSpec.upto fnExactPartAddSpec)

/-- 'laws.FnExactPathPut', WHERE WHAT IT READS IS OF BULK AT MOST 1048576: true; the input reads as it did. -/
def fnExactPathPutUptoRow : OpenClaim := { program := "ytoangpfmjohhmaagreatdoor", sum := "d9f2b5e2cac7a1fe7fe6a9878f488503458ff5228cf2cf58fc78b8e48004ad27", func := "loop.example/cribble/laws.FnExactPathPut", spec := "fnExactPathPut", inPlace := ["internal/reflectlite.ValueOf", "(internal/reflectlite.Value).Type", "(internal/reflectlite.Value).IsNil", "internal/reflectlite.TypeOf", "(internal/reflectlite.Value).Elem", "(internal/reflectlite.Value).Set"], unfollowed := true, recurses := true, named := ["errors.errorType"], loops := true, plainKeys := false, apart := false, laid := [("errors.errorType", laid_errors_errorType)], narrowed := true }
def FnExactPathPutUptoSaid : Prop := fnExactPathPutUptoRow.holds Tryz.pinned (OpenSpec.upto fnExactPathPutSpec)

/-- 'laws.FnExactRowSum', WHERE WHAT IT READS IS OF BULK AT MOST 1048576: true; the input reads as it did. -/
def fnExactRowSumUptoRow : OpenClaim := { program := "ytoangpfmjohhmaagreatdoor", sum := "d9f2b5e2cac7a1fe7fe6a9878f488503458ff5228cf2cf58fc78b8e48004ad27", func := "loop.example/cribble/laws.FnExactRowSum", spec := "fnExactRowSum", inPlace := ["internal/reflectlite.ValueOf", "(internal/reflectlite.Value).Type", "(internal/reflectlite.Value).IsNil", "internal/reflectlite.TypeOf", "(internal/reflectlite.Value).Elem", "(internal/reflectlite.Value).Set"], unfollowed := true, recurses := true, named := ["errors.errorType"], loops := true, plainKeys := false, apart := false, laid := [("errors.errorType", laid_errors_errorType)], narrowed := true }
def FnExactRowSumUptoSaid : Prop := fnExactRowSumUptoRow.holds Tryz.pinned (OpenSpec.upto fnExactRowSumSpec)

end Rows
end Go.Proofs.YtoangpfmjohhmaaGreatDoor
