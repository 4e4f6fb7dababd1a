/- Marks from 1 on. -/
import Derived.Test.YtmkoeomkbbmoaaaGreatDoorWHeld
namespace Go.Proofs.YtmkoeomkbbmoaaaGreatDoor
open Go.RowKit Go.Deep

theorem markVal_one (d : Nat) (S : Nat → Prop) (t : Tr (d + 1)) (v : Value) (w : World) (hv : ValOwn w (d + 1) S t v) (hS : Within S w) (h1 : 1 + wtT (d + 1) t ≤ 1099511627776) :
    Calls Tryz.prog 12 #[v, .int .i64 1] w fun e w' => e = .returned (.int .i64 (((markTop d t 1).2 : Nat) : Int)) ∧ ValOwn w' (d + 1) S (markTop d t 1).1 v ∧ Turn S w w' :=
  markVal_any d S t v 1 w hv hS (Nat.le_refl _) h1
theorem heldVal_one (d : Nat) (S : Nat → Prop) (t : Tr (d + 1)) (v : Value) (w : World) (hv : ValAt S w (d + 1) (markTop d t 1).1 v) (hS : Within S w) (h1 : 1 + wtT (d + 1) t ≤ 1099511627776) :
    Calls Tryz.prog 13 #[v, .int .i64 1] w fun e w' => e = .returned (.int .i64 (((markTop d t 1).2 : Nat) : Int)) ∧ Below w.heap.size w w' :=
  heldVal_any d S t v 1 w hv hS (Nat.le_refl _) h1
end Go.Proofs.YtmkoeomkbbmoaaaGreatDoor
