/-
  NARROWER THAN 'FOR EVERY INPUT', by the rows' own cells (each row's printed sentence says how): FnExactRowSort: loops, laid · FnExactRowOnce: loops, laid · FnExactRowLeast: loops, laid · FnRowSort: laid · FnRowBack: laid · FnRowLeast: laid.
  DERIVED. THE GIVEN ROWS OF THIS SEAT. 6 by the template 'for every input the law returns true; each argument reads behind the call as it read before'; 0 by the template 'total and deterministic' (their statements: YtilgbnnjecpneaaGreatDoorTotals.lean).
  GIVEN WITH THE SEED: the statements are not yours to turn. If you find one false, say at which input.
  Laid BY PROGRAM, IN A SANDBOX (cutbox-rows.mjs): the forced cells as the released guide's own fill.sh prints them over the translation 41a1cae41837ba48… (all of the seat's roots in one cut). By AI agents, Wed Nov 11 2026. No macro, syntax, notation, axiom, sorry.
-/
import Derived.Test.YtilgbnnjecpneaaGreatDoorChecked
import GoSem.Claim
import GoSem.ClaimJoined
import GoSem.ClaimMapViews
import Derived.JoinedTies
import Derived.KernelRfl
namespace Go.Proofs.YtilgbnnjecpneaaGreatDoor
/- THE CELL 'sum', in the pinned program and in every row, IS THE sha256 OF THE DUMP (.gsa) THAT YtilgbnnjecpneaaGreatDoorProg.lean LOADS. Nothing in Lean hashes anything: it is a label: what it is worth is what the hold of that sum in a sandbox is worth. -/
noncomputable def Tryz.pinned : Pinned := { name := "ytilgbnnjecpneaagreatdoor", sum := "41a1cae41837ba4876f810539d84a9628874081c9cc0b5c667742703b575a5c1", checked := Tryz.checked }
namespace Rows
def none {H : Type} : Left H := { results := [], args := [] }

/- WHAT THE LISTED PACKAGE-LEVEL VARIABLES READ AS WHEN THE CALL BEGINS. Each datum BY PROGRAM (the guide's laid-datum.mjs) off the statement by which the dump's own 'gosem.cut.vars' lays the variable. In a bare row this is a premise. The card (YtilgbnnjecpneaaGreatDoorCards.lean) ties it to the program's text. -/
def laid_errors_errorType {H : Type} : DataW H := .iface "internal/reflectlite.rtype" (.agg [.ptr (.lit (.string [101, 114, 114, 111, 114]))])

/-- 'laws.FnExactRowSort': WHATEVER THE INPUT: true; the input reads as it did. -/
def fnExactRowSortSpec : ChangeSpec := { name := "fnExactRowSort", fn := fun _ => fun
  | [d] => { results := [.lit (.bool true)], args := [d] }
  | _ => none }
def fnExactRowSortRow : OpenClaim := { program := "ytilgbnnjecpneaagreatdoor", sum := "41a1cae41837ba4876f810539d84a9628874081c9cc0b5c667742703b575a5c1", func := "loop.example/cribble/laws.FnExactRowSort", spec := "fnExactRowSort", inPlace := ["internal/reflectlite.ValueOf", "(internal/reflectlite.Value).Type", "(internal/reflectlite.Value).IsNil", "internal/reflectlite.TypeOf", "(internal/reflectlite.Value).Elem", "(internal/reflectlite.Value).Set"], unfollowed := true, recurses := true, named := ["errors.errorType"], loops := true, plainKeys := false, apart := false, laid := [("errors.errorType", laid_errors_errorType)] }
def FnExactRowSortSaid : Prop := fnExactRowSortRow.holds Tryz.pinned (OpenSpec.ofChange fnExactRowSortSpec)

/-- ITS FALSE NEIGHBOUR: 'it returns false'. Refute it at one input. -/
def fnExactRowSortWrong : ChangeSpec := { name := "fnExactRowSort", fn := fun _ => fun
  | [d] => { results := [.lit (.bool false)], args := [d] }
  | _ => none }
def FnExactRowSortWrongFalsely : Prop := fnExactRowSortRow.holds Tryz.pinned (OpenSpec.ofChange fnExactRowSortWrong)

/-- 'laws.FnExactRowOnce': WHATEVER THE INPUT: true; the input reads as it did. -/
def fnExactRowOnceSpec : ChangeSpec := { name := "fnExactRowOnce", fn := fun _ => fun
  | [d] => { results := [.lit (.bool true)], args := [d] }
  | _ => none }
def fnExactRowOnceRow : OpenClaim := { program := "ytilgbnnjecpneaagreatdoor", sum := "41a1cae41837ba4876f810539d84a9628874081c9cc0b5c667742703b575a5c1", func := "loop.example/cribble/laws.FnExactRowOnce", spec := "fnExactRowOnce", inPlace := ["internal/reflectlite.ValueOf", "(internal/reflectlite.Value).Type", "(internal/reflectlite.Value).IsNil", "internal/reflectlite.TypeOf", "(internal/reflectlite.Value).Elem", "(internal/reflectlite.Value).Set"], unfollowed := true, recurses := true, named := ["errors.errorType"], loops := true, plainKeys := false, apart := false, laid := [("errors.errorType", laid_errors_errorType)] }
def FnExactRowOnceSaid : Prop := fnExactRowOnceRow.holds Tryz.pinned (OpenSpec.ofChange fnExactRowOnceSpec)

/-- ITS FALSE NEIGHBOUR: 'it returns false'. Refute it at one input. -/
def fnExactRowOnceWrong : ChangeSpec := { name := "fnExactRowOnce", fn := fun _ => fun
  | [d] => { results := [.lit (.bool false)], args := [d] }
  | _ => none }
def FnExactRowOnceWrongFalsely : Prop := fnExactRowOnceRow.holds Tryz.pinned (OpenSpec.ofChange fnExactRowOnceWrong)

/-- 'laws.FnExactRowLeast': WHATEVER THE INPUT: true; the input reads as it did. -/
def fnExactRowLeastSpec : ChangeSpec := { name := "fnExactRowLeast", fn := fun _ => fun
  | [d] => { results := [.lit (.bool true)], args := [d] }
  | _ => none }
def fnExactRowLeastRow : OpenClaim := { program := "ytilgbnnjecpneaagreatdoor", sum := "41a1cae41837ba4876f810539d84a9628874081c9cc0b5c667742703b575a5c1", func := "loop.example/cribble/laws.FnExactRowLeast", spec := "fnExactRowLeast", inPlace := ["internal/reflectlite.ValueOf", "(internal/reflectlite.Value).Type", "(internal/reflectlite.Value).IsNil", "internal/reflectlite.TypeOf", "(internal/reflectlite.Value).Elem", "(internal/reflectlite.Value).Set"], unfollowed := true, recurses := true, named := ["errors.errorType"], loops := true, plainKeys := false, apart := false, laid := [("errors.errorType", laid_errors_errorType)] }
def FnExactRowLeastSaid : Prop := fnExactRowLeastRow.holds Tryz.pinned (OpenSpec.ofChange fnExactRowLeastSpec)

/-- ITS FALSE NEIGHBOUR: 'it returns false'. Refute it at one input. -/
def fnExactRowLeastWrong : ChangeSpec := { name := "fnExactRowLeast", fn := fun _ => fun
  | [d] => { results := [.lit (.bool false)], args := [d] }
  | _ => none }
def FnExactRowLeastWrongFalsely : Prop := fnExactRowLeastRow.holds Tryz.pinned (OpenSpec.ofChange fnExactRowLeastWrong)

/-- 'laws.FnRowSort': WHATEVER THE INPUT: true; the input reads as it did. -/
def fnRowSortSpec : ChangeSpec := { name := "fnRowSort", fn := fun _ => fun
  | [d] => { results := [.lit (.bool true)], args := [d] }
  | _ => none }
def fnRowSortRow : OpenClaim := { program := "ytilgbnnjecpneaagreatdoor", sum := "41a1cae41837ba4876f810539d84a9628874081c9cc0b5c667742703b575a5c1", func := "loop.example/cribble/laws.FnRowSort", spec := "fnRowSort", inPlace := ["internal/reflectlite.ValueOf", "(internal/reflectlite.Value).Type", "(internal/reflectlite.Value).IsNil", "internal/reflectlite.TypeOf", "(internal/reflectlite.Value).Elem", "(internal/reflectlite.Value).Set"], unfollowed := true, recurses := true, named := ["errors.errorType"], plainKeys := false, apart := false, laid := [("errors.errorType", laid_errors_errorType)] }
def FnRowSortSaid : Prop := fnRowSortRow.holds Tryz.pinned (OpenSpec.ofChange fnRowSortSpec)

/-- ITS FALSE NEIGHBOUR: 'it returns false'. Refute it at one input. -/
def fnRowSortWrong : ChangeSpec := { name := "fnRowSort", fn := fun _ => fun
  | [d] => { results := [.lit (.bool false)], args := [d] }
  | _ => none }
def FnRowSortWrongFalsely : Prop := fnRowSortRow.holds Tryz.pinned (OpenSpec.ofChange fnRowSortWrong)

/-- 'laws.FnRowBack': WHATEVER THE INPUT: true; the input reads as it did. -/
def fnRowBackSpec : ChangeSpec := { name := "fnRowBack", fn := fun _ => fun
  | [d1, d2] => { results := [.lit (.bool true)], args := [d1, d2] }
  | _ => none }
def fnRowBackRow : OpenClaim := { program := "ytilgbnnjecpneaagreatdoor", sum := "41a1cae41837ba4876f810539d84a9628874081c9cc0b5c667742703b575a5c1", func := "loop.example/cribble/laws.FnRowBack", spec := "fnRowBack", inPlace := ["internal/reflectlite.ValueOf", "(internal/reflectlite.Value).Type", "(internal/reflectlite.Value).IsNil", "internal/reflectlite.TypeOf", "(internal/reflectlite.Value).Elem", "(internal/reflectlite.Value).Set"], unfollowed := true, recurses := true, named := ["errors.errorType"], plainKeys := false, apart := false, laid := [("errors.errorType", laid_errors_errorType)] }
def FnRowBackSaid : Prop := fnRowBackRow.holds Tryz.pinned (OpenSpec.ofChange fnRowBackSpec)

/-- ITS FALSE NEIGHBOUR: 'it returns false'. Refute it at one input. -/
def fnRowBackWrong : ChangeSpec := { name := "fnRowBack", fn := fun _ => fun
  | [d1, d2] => { results := [.lit (.bool false)], args := [d1, d2] }
  | _ => none }
def FnRowBackWrongFalsely : Prop := fnRowBackRow.holds Tryz.pinned (OpenSpec.ofChange fnRowBackWrong)

/-- 'laws.FnRowLeast': WHATEVER THE INPUT: true; the input reads as it did. -/
def fnRowLeastSpec : ChangeSpec := { name := "fnRowLeast", fn := fun _ => fun
  | [d1, d2] => { results := [.lit (.bool true)], args := [d1, d2] }
  | _ => none }
def fnRowLeastRow : OpenClaim := { program := "ytilgbnnjecpneaagreatdoor", sum := "41a1cae41837ba4876f810539d84a9628874081c9cc0b5c667742703b575a5c1", func := "loop.example/cribble/laws.FnRowLeast", spec := "fnRowLeast", inPlace := ["internal/reflectlite.ValueOf", "(internal/reflectlite.Value).Type", "(internal/reflectlite.Value).IsNil", "internal/reflectlite.TypeOf", "(internal/reflectlite.Value).Elem", "(internal/reflectlite.Value).Set"], unfollowed := true, recurses := true, named := ["errors.errorType"], plainKeys := false, apart := false, laid := [("errors.errorType", laid_errors_errorType)] }
def FnRowLeastSaid : Prop := fnRowLeastRow.holds Tryz.pinned (OpenSpec.ofChange fnRowLeastSpec)

/-- ITS FALSE NEIGHBOUR: 'it returns false'. Refute it at one input. -/
def fnRowLeastWrong : ChangeSpec := { name := "fnRowLeast", fn := fun _ => fun
  | [d1, d2] => { results := [.lit (.bool false)], args := [d1, d2] }
  | _ => none }
def FnRowLeastWrongFalsely : Prop := fnRowLeastRow.holds Tryz.pinned (OpenSpec.ofChange fnRowLeastWrong)

/- THE SECOND FORM. 'bulk': how many values and letters a reading holds, each counted each time it is reached (what is shared counts as often as it is met; a slice's spare places count too). A statement '..UptoSaid' is the law's where the arguments, and the package variables that the reading takes, are together of bulk at most 1048576: NARROWER than '..Said'. Prove '..Said' where nothing that the law and all that it calls make is longer than what came in: it says more and counts as full. Else prove '..UptoSaid'. A law counts once. -/
mutual
def uptoBulk {H : Type} : DataW H → Nat
  | .lit (.string bytes) => bytes.length + 1
  | .lit _ => 1
  | .nil => 1
  | .ptr d => uptoBulk d + 1
  | .slice elems spare => uptoBulkAll elems + uptoBulkAll spare + 1
  | .agg parts => uptoBulkAll parts + 1
  | .iface _ d => uptoBulk d + 1
  | .map entries => uptoBulkEntries entries + 1
  | .held _ => 1
def uptoBulkAll {H : Type} : List (DataW H) → Nat
  | [] => 0
  | d :: r => uptoBulk d + uptoBulkAll r
def uptoBulkEntries {H : Type} : List (Lit × DataW H) → Nat
  | [] => 0
  | x :: r => uptoBulkEntry x + uptoBulkEntries r
def uptoBulkEntry {H : Type} : Lit × DataW H → Nat
  | (.string bytes, d) => bytes.length + uptoBulk d + 1
  | (_, d) => uptoBulk d + 1
 end
def uptoSmall : (H : Type) → List (DataW H) → Bool := fun _ ds => decide (uptoBulkAll ds ≤ 1048576)
def OpenSpec.upto (s : _root_.Go.ChangeSpec) : _root_.Go.OpenSpec := { _root_.Go.OpenSpec.ofChange s with cond := some uptoSmall }

/-- 'laws.FnExactRowSort', WHERE WHAT IT READS IS OF BULK AT MOST 1048576: true; the input reads as it did. -/
def fnExactRowSortUptoRow : OpenClaim := { program := "ytilgbnnjecpneaagreatdoor", sum := "41a1cae41837ba4876f810539d84a9628874081c9cc0b5c667742703b575a5c1", func := "loop.example/cribble/laws.FnExactRowSort", spec := "fnExactRowSort", inPlace := ["internal/reflectlite.ValueOf", "(internal/reflectlite.Value).Type", "(internal/reflectlite.Value).IsNil", "internal/reflectlite.TypeOf", "(internal/reflectlite.Value).Elem", "(internal/reflectlite.Value).Set"], unfollowed := true, recurses := true, named := ["errors.errorType"], loops := true, plainKeys := false, apart := false, laid := [("errors.errorType", laid_errors_errorType)], narrowed := true }
def FnExactRowSortUptoSaid : Prop := fnExactRowSortUptoRow.holds Tryz.pinned (OpenSpec.upto fnExactRowSortSpec)

/-- 'laws.FnExactRowOnce', WHERE WHAT IT READS IS OF BULK AT MOST 1048576: true; the input reads as it did. -/
def fnExactRowOnceUptoRow : OpenClaim := { program := "ytilgbnnjecpneaagreatdoor", sum := "41a1cae41837ba4876f810539d84a9628874081c9cc0b5c667742703b575a5c1", func := "loop.example/cribble/laws.FnExactRowOnce", spec := "fnExactRowOnce", inPlace := ["internal/reflectlite.ValueOf", "(internal/reflectlite.Value).Type", "(internal/reflectlite.Value).IsNil", "internal/reflectlite.TypeOf", "(internal/reflectlite.Value).Elem", "(internal/reflectlite.Value).Set"], unfollowed := true, recurses := true, named := ["errors.errorType"], loops := true, plainKeys := false, apart := false, laid := [("errors.errorType", laid_errors_errorType)], narrowed := true }
def FnExactRowOnceUptoSaid : Prop := fnExactRowOnceUptoRow.holds Tryz.pinned (OpenSpec.upto fnExactRowOnceSpec)

/-- 'laws.FnExactRowLeast', WHERE WHAT IT READS IS OF BULK AT MOST 1048576: true; the input reads as it did. -/
def fnExactRowLeastUptoRow : OpenClaim := { program := "ytilgbnnjecpneaagreatdoor", sum := "41a1cae41837ba4876f810539d84a9628874081c9cc0b5c667742703b575a5c1", func := "loop.example/cribble/laws.FnExactRowLeast", spec := "fnExactRowLeast", inPlace := ["internal/reflectlite.ValueOf", "(internal/reflectlite.Value).Type", "(internal/reflectlite.Value).IsNil", "internal/reflectlite.TypeOf", "(internal/reflectlite.Value).Elem", "(internal/reflectlite.Value).Set"], unfollowed := true, recurses := true, named := ["errors.errorType"], loops := true, plainKeys := false, apart := false, laid := [("errors.errorType", laid_errors_errorType)], narrowed := true }
def FnExactRowLeastUptoSaid : Prop := fnExactRowLeastUptoRow.holds Tryz.pinned (OpenSpec.upto fnExactRowLeastSpec)

/-- 'laws.FnRowSort', WHERE WHAT IT READS IS OF BULK AT MOST 1048576: true; the input reads as it did. -/
def fnRowSortUptoRow : OpenClaim := { program := "ytilgbnnjecpneaagreatdoor", sum := "41a1cae41837ba4876f810539d84a9628874081c9cc0b5c667742703b575a5c1", func := "loop.example/cribble/laws.FnRowSort", spec := "fnRowSort", inPlace := ["internal/reflectlite.ValueOf", "(internal/reflectlite.Value).Type", "(internal/reflectlite.Value).IsNil", "internal/reflectlite.TypeOf", "(internal/reflectlite.Value).Elem", "(internal/reflectlite.Value).Set"], unfollowed := true, recurses := true, named := ["errors.errorType"], plainKeys := false, apart := false, laid := [("errors.errorType", laid_errors_errorType)], narrowed := true }
def FnRowSortUptoSaid : Prop := fnRowSortUptoRow.holds Tryz.pinned (OpenSpec.upto fnRowSortSpec)

/-- 'laws.FnRowBack', WHERE WHAT IT READS IS OF BULK AT MOST 1048576: true; the input reads as it did. -/
def fnRowBackUptoRow : OpenClaim := { program := "ytilgbnnjecpneaagreatdoor", sum := "41a1cae41837ba4876f810539d84a9628874081c9cc0b5c667742703b575a5c1", func := "loop.example/cribble/laws.FnRowBack", spec := "fnRowBack", inPlace := ["internal/reflectlite.ValueOf", "(internal/reflectlite.Value).Type", "(internal/reflectlite.Value).IsNil", "internal/reflectlite.TypeOf", "(internal/reflectlite.Value).Elem", "(internal/reflectlite.Value).Set"], unfollowed := true, recurses := true, named := ["errors.errorType"], plainKeys := false, apart := false, laid := [("errors.errorType", laid_errors_errorType)], narrowed := true }
def FnRowBackUptoSaid : Prop := fnRowBackUptoRow.holds Tryz.pinned (OpenSpec.upto fnRowBackSpec)

/-- 'laws.FnRowLeast', WHERE WHAT IT READS IS OF BULK AT MOST 1048576: true; the input reads as it did. -/
def fnRowLeastUptoRow : OpenClaim := { program := "ytilgbnnjecpneaagreatdoor", sum := "41a1cae41837ba4876f810539d84a9628874081c9cc0b5c667742703b575a5c1", func := "loop.example/cribble/laws.FnRowLeast", spec := "fnRowLeast", inPlace := ["internal/reflectlite.ValueOf", "(internal/reflectlite.Value).Type", "(internal/reflectlite.Value).IsNil", "internal/reflectlite.TypeOf", "(internal/reflectlite.Value).Elem", "(internal/reflectlite.Value).Set"], unfollowed := true, recurses := true, named := ["errors.errorType"], plainKeys := false, apart := false, laid := [("errors.errorType", laid_errors_errorType)], narrowed := true }
def FnRowLeastUptoSaid : Prop := fnRowLeastUptoRow.holds Tryz.pinned (OpenSpec.upto fnRowLeastSpec)

end Rows
end Go.Proofs.YtilgbnnjecpneaaGreatDoor
