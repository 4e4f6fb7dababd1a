/-
  NARROWER THAN 'FOR EVERY INPUT', by the rows' own cells (each row's printed sentence says how): FnExactValOk: loops · FnExactValSame: loops · FnExactValOrder: loops · FnExactValMany: loops · FnExactValText: loops.
  DERIVED. THE GIVEN ROWS OF THIS SEAT. 5 by the template 'for every input the law returns true; each argument reads behind the call as it read before'; 0 by the template 'total and deterministic' (their statements: YtdmlpbkiomgloaaTotals.lean).
  GIVEN WITH THE SEED: the statements are not yours to turn. If you find one false, say at which input.
  Laid BY PROGRAM, IN A SANDBOX (cutbox-rows.mjs): the forced cells as the released guide's own fill.sh prints them over the translation 98888f705e5f912e… (all of the seat's roots in one cut). By AI agents, Wed Nov 11 2026. No macro, syntax, notation, axiom, sorry.
-/
import Derived.Test.YtdmlpbkiomgloaaChecked
import GoSem.Claim
import GoSem.ClaimJoined
import GoSem.ClaimMapViews
import Derived.JoinedTies
import Derived.KernelRfl
namespace Go.Proofs.Ytdmlpbkiomgloaa
/- THE CELL 'sum', in the pinned program and in every row, IS THE sha256 OF THE DUMP (.gsa) THAT YtdmlpbkiomgloaaProg.lean LOADS. Nothing in Lean hashes anything: it is a label: what it is worth is what the hold of that sum in a sandbox is worth. -/
noncomputable def Try.pinned : Pinned := { name := "ytdmlpbkiomgloaa", sum := "98888f705e5f912e7ba99535a30abb64d70926eba6c2f23fd0efef86f3e12420", checked := Try.checked }
namespace Rows
def none {H : Type} : Left H := { results := [], args := [] }

/-- 'laws.FnExactValOk': WHATEVER THE INPUT: true; the input reads as it did. -/
def fnExactValOkSpec : ChangeSpec := { name := "fnExactValOk", fn := fun _ => fun
  | [d] => { results := [.lit (.bool true)], args := [d] }
  | _ => none }
def fnExactValOkRow : OpenClaim := { program := "ytdmlpbkiomgloaa", sum := "98888f705e5f912e7ba99535a30abb64d70926eba6c2f23fd0efef86f3e12420", func := "loop.example/cribble/laws.FnExactValOk", spec := "fnExactValOk", recurses := true, loops := true, plainKeys := false, apart := false }
def FnExactValOkSaid : Prop := fnExactValOkRow.holds Try.pinned (OpenSpec.ofChange fnExactValOkSpec)

/-- ITS FALSE NEIGHBOUR: 'it returns false'. Refute it at one input. -/
def fnExactValOkWrong : ChangeSpec := { name := "fnExactValOk", fn := fun _ => fun
  | [d] => { results := [.lit (.bool false)], args := [d] }
  | _ => none }
def FnExactValOkWrongFalsely : Prop := fnExactValOkRow.holds Try.pinned (OpenSpec.ofChange fnExactValOkWrong)

/-- 'laws.FnExactValSame': WHATEVER THE INPUT: true; the input reads as it did. -/
def fnExactValSameSpec : ChangeSpec := { name := "fnExactValSame", fn := fun _ => fun
  | [d1, d2] => { results := [.lit (.bool true)], args := [d1, d2] }
  | _ => none }
def fnExactValSameRow : OpenClaim := { program := "ytdmlpbkiomgloaa", sum := "98888f705e5f912e7ba99535a30abb64d70926eba6c2f23fd0efef86f3e12420", func := "loop.example/cribble/laws.FnExactValSame", spec := "fnExactValSame", recurses := true, loops := true, plainKeys := false, apart := false }
def FnExactValSameSaid : Prop := fnExactValSameRow.holds Try.pinned (OpenSpec.ofChange fnExactValSameSpec)

/-- ITS FALSE NEIGHBOUR: 'it returns false'. Refute it at one input. -/
def fnExactValSameWrong : ChangeSpec := { name := "fnExactValSame", fn := fun _ => fun
  | [d1, d2] => { results := [.lit (.bool false)], args := [d1, d2] }
  | _ => none }
def FnExactValSameWrongFalsely : Prop := fnExactValSameRow.holds Try.pinned (OpenSpec.ofChange fnExactValSameWrong)

/-- 'laws.FnExactValOrder': WHATEVER THE INPUT: true; the input reads as it did. -/
def fnExactValOrderSpec : ChangeSpec := { name := "fnExactValOrder", fn := fun _ => fun
  | [d1, d2] => { results := [.lit (.bool true)], args := [d1, d2] }
  | _ => none }
def fnExactValOrderRow : OpenClaim := { program := "ytdmlpbkiomgloaa", sum := "98888f705e5f912e7ba99535a30abb64d70926eba6c2f23fd0efef86f3e12420", func := "loop.example/cribble/laws.FnExactValOrder", spec := "fnExactValOrder", recurses := true, loops := true, plainKeys := false, apart := false }
def FnExactValOrderSaid : Prop := fnExactValOrderRow.holds Try.pinned (OpenSpec.ofChange fnExactValOrderSpec)

/-- ITS FALSE NEIGHBOUR: 'it returns false'. Refute it at one input. -/
def fnExactValOrderWrong : ChangeSpec := { name := "fnExactValOrder", fn := fun _ => fun
  | [d1, d2] => { results := [.lit (.bool false)], args := [d1, d2] }
  | _ => none }
def FnExactValOrderWrongFalsely : Prop := fnExactValOrderRow.holds Try.pinned (OpenSpec.ofChange fnExactValOrderWrong)

/-- 'laws.FnExactValMany': WHATEVER THE INPUT: true; the input reads as it did. -/
def fnExactValManySpec : ChangeSpec := { name := "fnExactValMany", fn := fun _ => fun
  | [d] => { results := [.lit (.bool true)], args := [d] }
  | _ => none }
def fnExactValManyRow : OpenClaim := { program := "ytdmlpbkiomgloaa", sum := "98888f705e5f912e7ba99535a30abb64d70926eba6c2f23fd0efef86f3e12420", func := "loop.example/cribble/laws.FnExactValMany", spec := "fnExactValMany", unfollowed := true, recurses := true, loops := true, plainKeys := false, apart := false }
def FnExactValManySaid : Prop := fnExactValManyRow.holds Try.pinned (OpenSpec.ofChange fnExactValManySpec)

/-- ITS FALSE NEIGHBOUR: 'it returns false'. Refute it at one input. -/
def fnExactValManyWrong : ChangeSpec := { name := "fnExactValMany", fn := fun _ => fun
  | [d] => { results := [.lit (.bool false)], args := [d] }
  | _ => none }
def FnExactValManyWrongFalsely : Prop := fnExactValManyRow.holds Try.pinned (OpenSpec.ofChange fnExactValManyWrong)

/-- 'laws.FnExactValText': WHATEVER THE INPUT: true; the input reads as it did. -/
def fnExactValTextSpec : ChangeSpec := { name := "fnExactValText", fn := fun _ => fun
  | [d] => { results := [.lit (.bool true)], args := [d] }
  | _ => none }
def fnExactValTextRow : OpenClaim := { program := "ytdmlpbkiomgloaa", sum := "98888f705e5f912e7ba99535a30abb64d70926eba6c2f23fd0efef86f3e12420", func := "loop.example/cribble/laws.FnExactValText", spec := "fnExactValText", unfollowed := true, recurses := true, loops := true, plainKeys := false, apart := false }
def FnExactValTextSaid : Prop := fnExactValTextRow.holds Try.pinned (OpenSpec.ofChange fnExactValTextSpec)

/-- ITS FALSE NEIGHBOUR: 'it returns false'. Refute it at one input. -/
def fnExactValTextWrong : ChangeSpec := { name := "fnExactValText", fn := fun _ => fun
  | [d] => { results := [.lit (.bool false)], args := [d] }
  | _ => none }
def FnExactValTextWrongFalsely : Prop := fnExactValTextRow.holds Try.pinned (OpenSpec.ofChange fnExactValTextWrong)

/- THE SECOND FORM. 'bulk': how many values and letters a reading holds, each counted each time it is reached (what is shared counts as often as it is met; a slice's spare places count too). A statement '..UptoSaid' is the law's where the arguments, and the package variables that the reading takes, are together of bulk at most 1048576: NARROWER than '..Said'. Prove '..Said' where nothing that the law and all that it calls make is longer than what came in: it says more and counts as full. Else prove '..UptoSaid'. A law counts once. -/
mutual
def uptoBulk {H : Type} : DataW H → Nat
  | .lit (.string bytes) => bytes.length + 1
  | .lit _ => 1
  | .nil => 1
  | .ptr d => uptoBulk d + 1
  | .slice elems spare => uptoBulkAll elems + uptoBulkAll spare + 1
  | .agg parts => uptoBulkAll parts + 1
  | .iface _ d => uptoBulk d + 1
  | .map entries => uptoBulkEntries entries + 1
  | .held _ => 1
def uptoBulkAll {H : Type} : List (DataW H) → Nat
  | [] => 0
  | d :: r => uptoBulk d + uptoBulkAll r
def uptoBulkEntries {H : Type} : List (Lit × DataW H) → Nat
  | [] => 0
  | x :: r => uptoBulkEntry x + uptoBulkEntries r
def uptoBulkEntry {H : Type} : Lit × DataW H → Nat
  | (.string bytes, d) => bytes.length + uptoBulk d + 1
  | (_, d) => uptoBulk d + 1
 end
def uptoSmall : (H : Type) → List (DataW H) → Bool := fun _ ds => decide (uptoBulkAll ds ≤ 1048576)
def OpenSpec.upto (s : _root_.Go.ChangeSpec) : _root_.Go.OpenSpec := { _root_.Go.OpenSpec.ofChange s with cond := some uptoSmall }

/-- 'laws.FnExactValOk', WHERE WHAT IT READS IS OF BULK AT MOST 1048576: true; the input reads as it did. -/
def fnExactValOkUptoRow : OpenClaim := { program := "ytdmlpbkiomgloaa", sum := "98888f705e5f912e7ba99535a30abb64d70926eba6c2f23fd0efef86f3e12420", func := "loop.example/cribble/laws.FnExactValOk", spec := "fnExactValOk", recurses := true, loops := true, plainKeys := false, apart := false, narrowed := true }
def FnExactValOkUptoSaid : Prop := fnExactValOkUptoRow.holds Try.pinned (OpenSpec.upto fnExactValOkSpec)

/-- 'laws.FnExactValSame', WHERE WHAT IT READS IS OF BULK AT MOST 1048576: true; the input reads as it did. -/
def fnExactValSameUptoRow : OpenClaim := { program := "ytdmlpbkiomgloaa", sum := "98888f705e5f912e7ba99535a30abb64d70926eba6c2f23fd0efef86f3e12420", func := "loop.example/cribble/laws.FnExactValSame", spec := "fnExactValSame", recurses := true, loops := true, plainKeys := false, apart := false, narrowed := true }
def FnExactValSameUptoSaid : Prop := fnExactValSameUptoRow.holds Try.pinned (OpenSpec.upto fnExactValSameSpec)

/-- 'laws.FnExactValOrder', WHERE WHAT IT READS IS OF BULK AT MOST 1048576: true; the input reads as it did. -/
def fnExactValOrderUptoRow : OpenClaim := { program := "ytdmlpbkiomgloaa", sum := "98888f705e5f912e7ba99535a30abb64d70926eba6c2f23fd0efef86f3e12420", func := "loop.example/cribble/laws.FnExactValOrder", spec := "fnExactValOrder", recurses := true, loops := true, plainKeys := false, apart := false, narrowed := true }
def FnExactValOrderUptoSaid : Prop := fnExactValOrderUptoRow.holds Try.pinned (OpenSpec.upto fnExactValOrderSpec)

/-- 'laws.FnExactValMany', WHERE WHAT IT READS IS OF BULK AT MOST 1048576: true; the input reads as it did. -/
def fnExactValManyUptoRow : OpenClaim := { program := "ytdmlpbkiomgloaa", sum := "98888f705e5f912e7ba99535a30abb64d70926eba6c2f23fd0efef86f3e12420", func := "loop.example/cribble/laws.FnExactValMany", spec := "fnExactValMany", unfollowed := true, recurses := true, loops := true, plainKeys := false, apart := false, narrowed := true }
def FnExactValManyUptoSaid : Prop := fnExactValManyUptoRow.holds Try.pinned (OpenSpec.upto fnExactValManySpec)

/-- 'laws.FnExactValText', WHERE WHAT IT READS IS OF BULK AT MOST 1048576: true; the input reads as it did. -/
def fnExactValTextUptoRow : OpenClaim := { program := "ytdmlpbkiomgloaa", sum := "98888f705e5f912e7ba99535a30abb64d70926eba6c2f23fd0efef86f3e12420", func := "loop.example/cribble/laws.FnExactValText", spec := "fnExactValText", unfollowed := true, recurses := true, loops := true, plainKeys := false, apart := false, narrowed := true }
def FnExactValTextUptoSaid : Prop := fnExactValTextUptoRow.holds Try.pinned (OpenSpec.upto fnExactValTextSpec)

end Rows
end Go.Proofs.Ytdmlpbkiomgloaa
