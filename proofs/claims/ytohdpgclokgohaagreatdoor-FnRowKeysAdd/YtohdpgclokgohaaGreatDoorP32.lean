/- Texts of the proof, put together by program: LAddI. -/
import Derived.Test.YtohdpgclokgohaaGreatDoorP27
import Derived.Test.YtohdpgclokgohaaGreatDoorP13
import Derived.Test.YtohdpgclokgohaaGreatDoorP31
/- The laws of PartAdd: what the program's calls give. -/
namespace Go.Proofs.YtohdpgclokgohaaGreatDoor
open Go.RowKit Go.Deep

theorem addI {d : Nat} {w W : World} {a b : Tr (d + 1)} {v u : Value} (h : ValAt (FreshP w W) W (d + 1) a v) (hx : ValAt (FreshP w W) W (d + 1) b u) (hg : ErrType W) (hl : w.heap.size ≤ W.heap.size) :
    Calls Tryz.prog 13 #[v, u] W (TQ w (d + 1) (partAddT d a b).1 (partAddT d a b).2 W) := (implPartAdd_any d _ a v _ b u W h within_P hx within_P hg).mono (fun _ _ h => tq_of hl h)
theorem okI_at {w W : World} {d : Nat} {t : Tr d} {v : Value} (h : ValAt (FreshP w W) W d t v) : Calls Tryz.prog 28 #[v] W fun e w' => e = .returned (.bool (okT d t)) ∧ Below W.heap.size W w' := by
  have hc := implValOk_any d _ t v W h within_P
  rw [treeP_okT] at hc
  exact hc
theorem wt_add {d : Nat} (a b : Tr (d + 1)) : wtT (d + 1) (partAddT d a b).1 ≤ 10000 := by have := wtT_ok (okT_partAdd d a b); omega
end Go.Proofs.YtohdpgclokgohaaGreatDoor
