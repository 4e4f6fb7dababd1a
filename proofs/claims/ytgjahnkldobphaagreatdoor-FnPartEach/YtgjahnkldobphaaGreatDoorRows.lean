/-
  NARROWER THAN 'FOR EVERY INPUT', by the rows' own cells (each row's printed sentence says how): FnPart: laid · FnPartGet: laid · FnPartTwo: laid · FnPartNone: laid · FnPartAt: laid · FnPartEach: laid.
  DERIVED. THE GIVEN ROWS OF THIS SEAT. 6 by the template 'for every input the law returns true; each argument reads behind the call as it read before'; 0 by the template 'total and deterministic' (their statements: YtgjahnkldobphaaGreatDoorTotals.lean).
  GIVEN WITH THE SEED: the statements are not yours to turn. If you find one false, say at which input.
  Laid BY PROGRAM, IN A SANDBOX (cutbox-rows.mjs): the forced cells as the released guide's own fill.sh prints them over the translation b52b97a23a8a563e… (all of the seat's roots in one cut). By AI agents, Wed Nov 11 2026. No macro, syntax, notation, axiom, sorry.
-/
import Derived.Test.YtgjahnkldobphaaGreatDoorChecked
import GoSem.Claim
import GoSem.ClaimJoined
import GoSem.ClaimMapViews
import Derived.JoinedTies
import Derived.KernelRfl
namespace Go.Proofs.YtgjahnkldobphaaGreatDoor
/- THE CELL 'sum', in the pinned program and in every row, IS THE sha256 OF THE DUMP (.gsa) THAT YtgjahnkldobphaaGreatDoorProg.lean LOADS. Nothing in Lean hashes anything: it is a label: what it is worth is what the hold of that sum in a sandbox is worth. -/
noncomputable def Tryz.pinned : Pinned := { name := "ytgjahnkldobphaagreatdoor", sum := "b52b97a23a8a563e962c1c1fa0524a3a71728ddaa105d5a178e8f42a6a35d70a", checked := Tryz.checked }
namespace Rows
def none {H : Type} : Left H := { results := [], args := [] }

/- WHAT THE LISTED PACKAGE-LEVEL VARIABLES READ AS WHEN THE CALL BEGINS. Each datum BY PROGRAM (the guide's laid-datum.mjs) off the statement by which the dump's own 'gosem.cut.vars' lays the variable. In a bare row this is a premise. The card (YtgjahnkldobphaaGreatDoorCards.lean) ties it to the program's text. -/
def laid_errors_errorType {H : Type} : DataW H := .iface "internal/reflectlite.rtype" (.agg [.ptr (.lit (.string [101, 114, 114, 111, 114]))])

/-- 'laws.FnPart': WHATEVER THE INPUT: true; the input reads as it did. -/
def fnPartSpec : ChangeSpec := { name := "fnPart", fn := fun _ => fun
  | [d] => { results := [.lit (.bool true)], args := [d] }
  | _ => none }
def fnPartRow : OpenClaim := { program := "ytgjahnkldobphaagreatdoor", sum := "b52b97a23a8a563e962c1c1fa0524a3a71728ddaa105d5a178e8f42a6a35d70a", func := "loop.example/cribble/laws.FnPart", spec := "fnPart", inPlace := ["internal/reflectlite.ValueOf", "(internal/reflectlite.Value).Type", "(internal/reflectlite.Value).IsNil", "internal/reflectlite.TypeOf", "(internal/reflectlite.Value).Elem", "(internal/reflectlite.Value).Set"], unfollowed := true, recurses := true, named := ["errors.errorType"], plainKeys := false, apart := false, laid := [("errors.errorType", laid_errors_errorType)] }
def FnPartSaid : Prop := fnPartRow.holds Tryz.pinned (OpenSpec.ofChange fnPartSpec)

/-- ITS FALSE NEIGHBOUR: 'it returns false'. Refute it at one input. -/
def fnPartWrong : ChangeSpec := { name := "fnPart", fn := fun _ => fun
  | [d] => { results := [.lit (.bool false)], args := [d] }
  | _ => none }
def FnPartWrongFalsely : Prop := fnPartRow.holds Tryz.pinned (OpenSpec.ofChange fnPartWrong)

/-- 'laws.FnPartGet': WHATEVER THE INPUT: true; the input reads as it did. -/
def fnPartGetSpec : ChangeSpec := { name := "fnPartGet", fn := fun _ => fun
  | [d] => { results := [.lit (.bool true)], args := [d] }
  | _ => none }
def fnPartGetRow : OpenClaim := { program := "ytgjahnkldobphaagreatdoor", sum := "b52b97a23a8a563e962c1c1fa0524a3a71728ddaa105d5a178e8f42a6a35d70a", func := "loop.example/cribble/laws.FnPartGet", spec := "fnPartGet", inPlace := ["internal/reflectlite.ValueOf", "(internal/reflectlite.Value).Type", "(internal/reflectlite.Value).IsNil", "internal/reflectlite.TypeOf", "(internal/reflectlite.Value).Elem", "(internal/reflectlite.Value).Set"], unfollowed := true, recurses := true, named := ["errors.errorType"], plainKeys := false, apart := false, laid := [("errors.errorType", laid_errors_errorType)] }
def FnPartGetSaid : Prop := fnPartGetRow.holds Tryz.pinned (OpenSpec.ofChange fnPartGetSpec)

/-- ITS FALSE NEIGHBOUR: 'it returns false'. Refute it at one input. -/
def fnPartGetWrong : ChangeSpec := { name := "fnPartGet", fn := fun _ => fun
  | [d] => { results := [.lit (.bool false)], args := [d] }
  | _ => none }
def FnPartGetWrongFalsely : Prop := fnPartGetRow.holds Tryz.pinned (OpenSpec.ofChange fnPartGetWrong)

/-- 'laws.FnPartTwo': WHATEVER THE INPUT: true; the input reads as it did. -/
def fnPartTwoSpec : ChangeSpec := { name := "fnPartTwo", fn := fun _ => fun
  | [d1, d2] => { results := [.lit (.bool true)], args := [d1, d2] }
  | _ => none }
def fnPartTwoRow : OpenClaim := { program := "ytgjahnkldobphaagreatdoor", sum := "b52b97a23a8a563e962c1c1fa0524a3a71728ddaa105d5a178e8f42a6a35d70a", func := "loop.example/cribble/laws.FnPartTwo", spec := "fnPartTwo", inPlace := ["internal/reflectlite.ValueOf", "(internal/reflectlite.Value).Type", "(internal/reflectlite.Value).IsNil", "internal/reflectlite.TypeOf", "(internal/reflectlite.Value).Elem", "(internal/reflectlite.Value).Set"], unfollowed := true, recurses := true, named := ["errors.errorType"], plainKeys := false, apart := false, laid := [("errors.errorType", laid_errors_errorType)] }
def FnPartTwoSaid : Prop := fnPartTwoRow.holds Tryz.pinned (OpenSpec.ofChange fnPartTwoSpec)

/-- ITS FALSE NEIGHBOUR: 'it returns false'. Refute it at one input. -/
def fnPartTwoWrong : ChangeSpec := { name := "fnPartTwo", fn := fun _ => fun
  | [d1, d2] => { results := [.lit (.bool false)], args := [d1, d2] }
  | _ => none }
def FnPartTwoWrongFalsely : Prop := fnPartTwoRow.holds Tryz.pinned (OpenSpec.ofChange fnPartTwoWrong)

/-- 'laws.FnPartNone': WHATEVER THE INPUT: true; the input reads as it did. -/
def fnPartNoneSpec : ChangeSpec := { name := "fnPartNone", fn := fun _ => fun
  | [d] => { results := [.lit (.bool true)], args := [d] }
  | _ => none }
def fnPartNoneRow : OpenClaim := { program := "ytgjahnkldobphaagreatdoor", sum := "b52b97a23a8a563e962c1c1fa0524a3a71728ddaa105d5a178e8f42a6a35d70a", func := "loop.example/cribble/laws.FnPartNone", spec := "fnPartNone", inPlace := ["internal/reflectlite.ValueOf", "(internal/reflectlite.Value).Type", "(internal/reflectlite.Value).IsNil", "internal/reflectlite.TypeOf", "(internal/reflectlite.Value).Elem", "(internal/reflectlite.Value).Set"], unfollowed := true, recurses := true, named := ["errors.errorType"], plainKeys := false, apart := false, laid := [("errors.errorType", laid_errors_errorType)] }
def FnPartNoneSaid : Prop := fnPartNoneRow.holds Tryz.pinned (OpenSpec.ofChange fnPartNoneSpec)

/-- ITS FALSE NEIGHBOUR: 'it returns false'. Refute it at one input. -/
def fnPartNoneWrong : ChangeSpec := { name := "fnPartNone", fn := fun _ => fun
  | [d] => { results := [.lit (.bool false)], args := [d] }
  | _ => none }
def FnPartNoneWrongFalsely : Prop := fnPartNoneRow.holds Tryz.pinned (OpenSpec.ofChange fnPartNoneWrong)

/-- 'laws.FnPartAt': WHATEVER THE INPUT: true; the input reads as it did. -/
def fnPartAtSpec : ChangeSpec := { name := "fnPartAt", fn := fun _ => fun
  | [d] => { results := [.lit (.bool true)], args := [d] }
  | _ => none }
def fnPartAtRow : OpenClaim := { program := "ytgjahnkldobphaagreatdoor", sum := "b52b97a23a8a563e962c1c1fa0524a3a71728ddaa105d5a178e8f42a6a35d70a", func := "loop.example/cribble/laws.FnPartAt", spec := "fnPartAt", inPlace := ["internal/reflectlite.ValueOf", "(internal/reflectlite.Value).Type", "(internal/reflectlite.Value).IsNil", "internal/reflectlite.TypeOf", "(internal/reflectlite.Value).Elem", "(internal/reflectlite.Value).Set"], unfollowed := true, recurses := true, named := ["errors.errorType"], plainKeys := false, apart := false, laid := [("errors.errorType", laid_errors_errorType)] }
def FnPartAtSaid : Prop := fnPartAtRow.holds Tryz.pinned (OpenSpec.ofChange fnPartAtSpec)

/-- ITS FALSE NEIGHBOUR: 'it returns false'. Refute it at one input. -/
def fnPartAtWrong : ChangeSpec := { name := "fnPartAt", fn := fun _ => fun
  | [d] => { results := [.lit (.bool false)], args := [d] }
  | _ => none }
def FnPartAtWrongFalsely : Prop := fnPartAtRow.holds Tryz.pinned (OpenSpec.ofChange fnPartAtWrong)

/-- 'laws.FnPartEach': WHATEVER THE INPUT: true; the input reads as it did. -/
def fnPartEachSpec : ChangeSpec := { name := "fnPartEach", fn := fun _ => fun
  | [d] => { results := [.lit (.bool true)], args := [d] }
  | _ => none }
def fnPartEachRow : OpenClaim := { program := "ytgjahnkldobphaagreatdoor", sum := "b52b97a23a8a563e962c1c1fa0524a3a71728ddaa105d5a178e8f42a6a35d70a", func := "loop.example/cribble/laws.FnPartEach", spec := "fnPartEach", inPlace := ["internal/reflectlite.ValueOf", "(internal/reflectlite.Value).Type", "(internal/reflectlite.Value).IsNil", "internal/reflectlite.TypeOf", "(internal/reflectlite.Value).Elem", "(internal/reflectlite.Value).Set"], unfollowed := true, recurses := true, named := ["errors.errorType"], plainKeys := false, apart := false, laid := [("errors.errorType", laid_errors_errorType)] }
def FnPartEachSaid : Prop := fnPartEachRow.holds Tryz.pinned (OpenSpec.ofChange fnPartEachSpec)

/-- ITS FALSE NEIGHBOUR: 'it returns false'. Refute it at one input. -/
def fnPartEachWrong : ChangeSpec := { name := "fnPartEach", fn := fun _ => fun
  | [d] => { results := [.lit (.bool false)], args := [d] }
  | _ => none }
def FnPartEachWrongFalsely : Prop := fnPartEachRow.holds Tryz.pinned (OpenSpec.ofChange fnPartEachWrong)

/- THE SECOND FORM. 'bulk': how many values and letters a reading holds, each counted each time it is reached (what is shared counts as often as it is met; a slice's spare places count too). A statement '..UptoSaid' is the law's where the arguments, and the package variables that the reading takes, are together of bulk at most 1048576: NARROWER than '..Said'. Prove '..Said' where nothing that the law and all that it calls make is longer than what came in: it says more and counts as full. Else prove '..UptoSaid'. A law counts once. -/
mutual
def uptoBulk {H : Type} : DataW H → Nat
  | .lit (.string bytes) => bytes.length + 1
  | .lit _ => 1
  | .nil => 1
  | .ptr d => uptoBulk d + 1
  | .slice elems spare => uptoBulkAll elems + uptoBulkAll spare + 1
  | .agg parts => uptoBulkAll parts + 1
  | .iface _ d => uptoBulk d + 1
  | .map entries => uptoBulkEntries entries + 1
  | .held _ => 1
def uptoBulkAll {H : Type} : List (DataW H) → Nat
  | [] => 0
  | d :: r => uptoBulk d + uptoBulkAll r
def uptoBulkEntries {H : Type} : List (Lit × DataW H) → Nat
  | [] => 0
  | x :: r => uptoBulkEntry x + uptoBulkEntries r
def uptoBulkEntry {H : Type} : Lit × DataW H → Nat
  | (.string bytes, d) => bytes.length + uptoBulk d + 1
  | (_, d) => uptoBulk d + 1
 end
def uptoSmall : (H : Type) → List (DataW H) → Bool := fun _ ds => decide (uptoBulkAll ds ≤ 1048576)
def OpenSpec.upto (s : _root_.Go.ChangeSpec) : _root_.Go.OpenSpec := { _root_.Go.OpenSpec.ofChange s with cond := some uptoSmall }

/-- 'laws.FnPart', WHERE WHAT IT READS IS OF BULK AT MOST 1048576: true; the input reads as it did. -/
def fnPartUptoRow : OpenClaim := { program := "ytgjahnkldobphaagreatdoor", sum := "b52b97a23a8a563e962c1c1fa0524a3a71728ddaa105d5a178e8f42a6a35d70a", func := "loop.example/cribble/laws.FnPart", spec := "fnPart", inPlace := ["internal/reflectlite.ValueOf", "(internal/reflectlite.Value).Type", "(internal/reflectlite.Value).IsNil", "internal/reflectlite.TypeOf", "(internal/reflectlite.Value).Elem", "(internal/reflectlite.Value).Set"], unfollowed := true, recurses := true, named := ["errors.errorType"], plainKeys := false, apart := false, laid := [("errors.errorType", laid_errors_errorType)], narrowed := true }
def FnPartUptoSaid : Prop := fnPartUptoRow.holds Tryz.pinned (OpenSpec.upto fnPartSpec)

/-- 'laws.FnPartGet', WHERE WHAT IT READS IS OF BULK AT MOST 1048576: true; the input reads as it did. -/
def fnPartGetUptoRow : OpenClaim := { program := "ytgjahnkldobphaagreatdoor", sum := "b52b97a23a8a563e962c1c1fa0524a3a71728ddaa105d5a178e8f42a6a35d70a", func := "loop.example/cribble/laws.FnPartGet", spec := "fnPartGet", inPlace := ["internal/reflectlite.ValueOf", "(internal/reflectlite.Value).Type", "(internal/reflectlite.Value).IsNil", "internal/reflectlite.TypeOf", "(internal/reflectlite.Value).Elem", "(internal/reflectlite.Value).Set"], unfollowed := true, recurses := true, named := ["errors.errorType"], plainKeys := false, apart := false, laid := [("errors.errorType", laid_errors_errorType)], narrowed := true }
def FnPartGetUptoSaid : Prop := fnPartGetUptoRow.holds Tryz.pinned (OpenSpec.upto fnPartGetSpec)

/-- 'laws.FnPartTwo', WHERE WHAT IT READS IS OF BULK AT MOST 1048576: true; the input reads as it did. -/
def fnPartTwoUptoRow : OpenClaim := { program := "ytgjahnkldobphaagreatdoor", sum := "b52b97a23a8a563e962c1c1fa0524a3a71728ddaa105d5a178e8f42a6a35d70a", func := "loop.example/cribble/laws.FnPartTwo", spec := "fnPartTwo", inPlace := ["internal/reflectlite.ValueOf", "(internal/reflectlite.Value).Type", "(internal/reflectlite.Value).IsNil", "internal/reflectlite.TypeOf", "(internal/reflectlite.Value).Elem", "(internal/reflectlite.Value).Set"], unfollowed := true, recurses := true, named := ["errors.errorType"], plainKeys := false, apart := false, laid := [("errors.errorType", laid_errors_errorType)], narrowed := true }
def FnPartTwoUptoSaid : Prop := fnPartTwoUptoRow.holds Tryz.pinned (OpenSpec.upto fnPartTwoSpec)

/-- 'laws.FnPartNone', WHERE WHAT IT READS IS OF BULK AT MOST 1048576: true; the input reads as it did. -/
def fnPartNoneUptoRow : OpenClaim := { program := "ytgjahnkldobphaagreatdoor", sum := "b52b97a23a8a563e962c1c1fa0524a3a71728ddaa105d5a178e8f42a6a35d70a", func := "loop.example/cribble/laws.FnPartNone", spec := "fnPartNone", inPlace := ["internal/reflectlite.ValueOf", "(internal/reflectlite.Value).Type", "(internal/reflectlite.Value).IsNil", "internal/reflectlite.TypeOf", "(internal/reflectlite.Value).Elem", "(internal/reflectlite.Value).Set"], unfollowed := true, recurses := true, named := ["errors.errorType"], plainKeys := false, apart := false, laid := [("errors.errorType", laid_errors_errorType)], narrowed := true }
def FnPartNoneUptoSaid : Prop := fnPartNoneUptoRow.holds Tryz.pinned (OpenSpec.upto fnPartNoneSpec)

/-- 'laws.FnPartAt', WHERE WHAT IT READS IS OF BULK AT MOST 1048576: true; the input reads as it did. -/
def fnPartAtUptoRow : OpenClaim := { program := "ytgjahnkldobphaagreatdoor", sum := "b52b97a23a8a563e962c1c1fa0524a3a71728ddaa105d5a178e8f42a6a35d70a", func := "loop.example/cribble/laws.FnPartAt", spec := "fnPartAt", inPlace := ["internal/reflectlite.ValueOf", "(internal/reflectlite.Value).Type", "(internal/reflectlite.Value).IsNil", "internal/reflectlite.TypeOf", "(internal/reflectlite.Value).Elem", "(internal/reflectlite.Value).Set"], unfollowed := true, recurses := true, named := ["errors.errorType"], plainKeys := false, apart := false, laid := [("errors.errorType", laid_errors_errorType)], narrowed := true }
def FnPartAtUptoSaid : Prop := fnPartAtUptoRow.holds Tryz.pinned (OpenSpec.upto fnPartAtSpec)

/-- 'laws.FnPartEach', WHERE WHAT IT READS IS OF BULK AT MOST 1048576: true; the input reads as it did. -/
def fnPartEachUptoRow : OpenClaim := { program := "ytgjahnkldobphaagreatdoor", sum := "b52b97a23a8a563e962c1c1fa0524a3a71728ddaa105d5a178e8f42a6a35d70a", func := "loop.example/cribble/laws.FnPartEach", spec := "fnPartEach", inPlace := ["internal/reflectlite.ValueOf", "(internal/reflectlite.Value).Type", "(internal/reflectlite.Value).IsNil", "internal/reflectlite.TypeOf", "(internal/reflectlite.Value).Elem", "(internal/reflectlite.Value).Set"], unfollowed := true, recurses := true, named := ["errors.errorType"], plainKeys := false, apart := false, laid := [("errors.errorType", laid_errors_errorType)], narrowed := true }
def FnPartEachUptoSaid : Prop := fnPartEachUptoRow.holds Tryz.pinned (OpenSpec.upto fnPartEachSpec)

end Rows
end Go.Proofs.YtgjahnkldobphaaGreatDoor
