/- What is asked of the model; numbers of the model. -/
import Derived.Test.YtbcafaomfaainaaGreatDoorWLenA
namespace Go.Proofs.YtbcafaomfaainaaGreatDoor
open Go.RowKit Go.Deep

/-- What is asked of a function of the model that tells a tree and whether it can. -/
def SpecQ (d : Nat) (t : Tr (d + 1)) (ok : Bool) (w : World) (e : Ending) (w' : World) : Prop :=
  ∃ v, e = .returned (.tuple #[v, .bool ok]) ∧ ValAt (Fresh w w') w' (d + 1) t v ∧ Below w.heap.size w w'

theorem numAt (d : Nat) (n : Int) (hn : I64 n) (S : Nat → Prop) (w : World) : ValAt S w (d + 1) (numT d n) (.agg #[.int .i64 3, .int .i64 n, .string ByteArray.empty, .slice none 0 0, .slice none 0 0]) :=
  ValOwn.at _ _ _ _ (valOwn_leaf d 3 n ByteArray.empty w S ⟨by omega, by omega⟩ hn (by decide))
theorem zeroAt (d : Nat) (S : Nat → Prop) (w : World) : ValAt S w (d + 1) (zeroT d) zeroVal := ValOwn.at _ _ _ _ (zeroVal_own d w S)

end Go.Proofs.YtbcafaomfaainaaGreatDoor
