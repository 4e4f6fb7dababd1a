/-
  No cell of these rows narrows 'for every input' (looked for: loops, veiled, ifaces, maps, wideKeys, modest, calm, conditions, laid).
  DERIVED. THE GIVEN ROWS OF THIS SEAT. 3 by the template 'for every input the law returns true; each argument reads behind the call as it read before'; 0 by the template 'total and deterministic' (their statements: YthbpfiandjggcaaTotals.lean).
  GIVEN WITH THE SEED: the statements are not yours to turn. If you find one false, say at which input.
  Laid BY PROGRAM, IN A SANDBOX (cutbox-rows.mjs): the forced cells as the released guide's own fill.sh prints them over the translation 002126a7ac9af5e0… (all of the seat's roots in one cut). By AI agents, Wed Nov 11 2026. No macro, syntax, notation, axiom, sorry.
-/
import Derived.Test.YthbpfiandjggcaaChecked
import GoSem.Claim
import GoSem.ClaimJoined
import GoSem.ClaimMapViews
import Derived.JoinedTies
import Derived.KernelRfl
namespace Go.Proofs.Ythbpfiandjggcaa
/- THE CELL 'sum', in the pinned program and in every row, IS THE sha256 OF THE DUMP (.gsa) THAT YthbpfiandjggcaaProg.lean LOADS. Nothing in Lean hashes anything: it is a label: what it is worth is what the hold of that sum in a sandbox is worth. -/
noncomputable def Try.pinned : Pinned := { name := "ythbpfiandjggcaa", sum := "002126a7ac9af5e05143aecea536a29e3a841748d680ad33d1a667fa653a393c", checked := Try.checked }
namespace Rows
def none {H : Type} : Left H := { results := [], args := [] }

/-- 'laws.FnValOrder': WHATEVER THE INPUT: true; the input reads as it did. -/
def fnValOrderSpec : ChangeSpec := { name := "fnValOrder", fn := fun _ => fun
  | [d1, d2] => { results := [.lit (.bool true)], args := [d1, d2] }
  | _ => none }
def fnValOrderRow : OpenClaim := { program := "ythbpfiandjggcaa", sum := "002126a7ac9af5e05143aecea536a29e3a841748d680ad33d1a667fa653a393c", func := "loop.example/cribble/laws.FnValOrder", spec := "fnValOrder", recurses := true, plainKeys := false, apart := false }
def FnValOrderSaid : Prop := fnValOrderRow.holds Try.pinned (OpenSpec.ofChange fnValOrderSpec)

/-- ITS FALSE NEIGHBOUR: 'it returns false'. Refute it at one input. -/
def fnValOrderWrong : ChangeSpec := { name := "fnValOrder", fn := fun _ => fun
  | [d1, d2] => { results := [.lit (.bool false)], args := [d1, d2] }
  | _ => none }
def FnValOrderWrongFalsely : Prop := fnValOrderRow.holds Try.pinned (OpenSpec.ofChange fnValOrderWrong)

/-- 'laws.FnValMany': WHATEVER THE INPUT: true; the input reads as it did. -/
def fnValManySpec : ChangeSpec := { name := "fnValMany", fn := fun _ => fun
  | [d] => { results := [.lit (.bool true)], args := [d] }
  | _ => none }
def fnValManyRow : OpenClaim := { program := "ythbpfiandjggcaa", sum := "002126a7ac9af5e05143aecea536a29e3a841748d680ad33d1a667fa653a393c", func := "loop.example/cribble/laws.FnValMany", spec := "fnValMany", unfollowed := true, recurses := true, plainKeys := false, apart := false }
def FnValManySaid : Prop := fnValManyRow.holds Try.pinned (OpenSpec.ofChange fnValManySpec)

/-- ITS FALSE NEIGHBOUR: 'it returns false'. Refute it at one input. -/
def fnValManyWrong : ChangeSpec := { name := "fnValMany", fn := fun _ => fun
  | [d] => { results := [.lit (.bool false)], args := [d] }
  | _ => none }
def FnValManyWrongFalsely : Prop := fnValManyRow.holds Try.pinned (OpenSpec.ofChange fnValManyWrong)

/-- 'laws.FnValRow': WHATEVER THE INPUT: true; the input reads as it did. -/
def fnValRowSpec : ChangeSpec := { name := "fnValRow", fn := fun _ => fun
  | [d1, d2] => { results := [.lit (.bool true)], args := [d1, d2] }
  | _ => none }
def fnValRowRow : OpenClaim := { program := "ythbpfiandjggcaa", sum := "002126a7ac9af5e05143aecea536a29e3a841748d680ad33d1a667fa653a393c", func := "loop.example/cribble/laws.FnValRow", spec := "fnValRow", recurses := true, plainKeys := false, apart := false }
def FnValRowSaid : Prop := fnValRowRow.holds Try.pinned (OpenSpec.ofChange fnValRowSpec)

/-- ITS FALSE NEIGHBOUR: 'it returns false'. Refute it at one input. -/
def fnValRowWrong : ChangeSpec := { name := "fnValRow", fn := fun _ => fun
  | [d1, d2] => { results := [.lit (.bool false)], args := [d1, d2] }
  | _ => none }
def FnValRowWrongFalsely : Prop := fnValRowRow.holds Try.pinned (OpenSpec.ofChange fnValRowWrong)

/- THE SECOND FORM. 'bulk': how many values and letters a reading holds, each counted each time it is reached (what is shared counts as often as it is met; a slice's spare places count too). A statement '..UptoSaid' is the law's where the arguments, and the package variables that the reading takes, are together of bulk at most 1048576: NARROWER than '..Said'. Prove '..Said' where nothing that the law and all that it calls make is longer than what came in: it says more and counts as full. Else prove '..UptoSaid'. A law counts once. -/
mutual
def uptoBulk {H : Type} : DataW H → Nat
  | .lit (.string bytes) => bytes.length + 1
  | .lit _ => 1
  | .nil => 1
  | .ptr d => uptoBulk d + 1
  | .slice elems spare => uptoBulkAll elems + uptoBulkAll spare + 1
  | .agg parts => uptoBulkAll parts + 1
  | .iface _ d => uptoBulk d + 1
  | .map entries => uptoBulkEntries entries + 1
  | .held _ => 1
def uptoBulkAll {H : Type} : List (DataW H) → Nat
  | [] => 0
  | d :: r => uptoBulk d + uptoBulkAll r
def uptoBulkEntries {H : Type} : List (Lit × DataW H) → Nat
  | [] => 0
  | x :: r => uptoBulkEntry x + uptoBulkEntries r
def uptoBulkEntry {H : Type} : Lit × DataW H → Nat
  | (.string bytes, d) => bytes.length + uptoBulk d + 1
  | (_, d) => uptoBulk d + 1
 end
def uptoSmall : (H : Type) → List (DataW H) → Bool := fun _ ds => decide (uptoBulkAll ds ≤ 1048576)
def OpenSpec.upto (s : _root_.Go.ChangeSpec) : _root_.Go.OpenSpec := { _root_.Go.OpenSpec.ofChange s with cond := some uptoSmall }

/-- 'laws.FnValOrder', WHERE WHAT IT READS IS OF BULK AT MOST 1048576: true; the input reads as it did. -/
def fnValOrderUptoRow : OpenClaim := { program := "ythbpfiandjggcaa", sum := "002126a7ac9af5e05143aecea536a29e3a841748d680ad33d1a667fa653a393c", func := "loop.example/cribble/laws.FnValOrder", spec := "fnValOrder", recurses := true, plainKeys := false, apart := false, narrowed := true }
def FnValOrderUptoSaid : Prop := fnValOrderUptoRow.holds Try.pinned (OpenSpec.upto fnValOrderSpec)

/-- 'laws.FnValMany', WHERE WHAT IT READS IS OF BULK AT MOST 1048576: true; the input reads as it did. -/
def fnValManyUptoRow : OpenClaim := { program := "ythbpfiandjggcaa", sum := "002126a7ac9af5e05143aecea536a29e3a841748d680ad33d1a667fa653a393c", func := "loop.example/cribble/laws.FnValMany", spec := "fnValMany", unfollowed := true, recurses := true, plainKeys := false, apart := false, narrowed := true }
def FnValManyUptoSaid : Prop := fnValManyUptoRow.holds Try.pinned (OpenSpec.upto fnValManySpec)

/-- 'laws.FnValRow', WHERE WHAT IT READS IS OF BULK AT MOST 1048576: true; the input reads as it did. -/
def fnValRowUptoRow : OpenClaim := { program := "ythbpfiandjggcaa", sum := "002126a7ac9af5e05143aecea536a29e3a841748d680ad33d1a667fa653a393c", func := "loop.example/cribble/laws.FnValRow", spec := "fnValRow", recurses := true, plainKeys := false, apart := false, narrowed := true }
def FnValRowUptoSaid : Prop := fnValRowUptoRow.holds Try.pinned (OpenSpec.upto fnValRowSpec)

end Rows
end Go.Proofs.Ythbpfiandjggcaa
