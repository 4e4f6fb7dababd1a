/- Texts of the proof, put together by program: LAddC. -/
import Derived.Test.YtoangpfmjohhmaaGreatDoorP38
import Derived.Test.YtoangpfmjohhmaaGreatDoorP7
import Derived.Test.YtoangpfmjohhmaaGreatDoorP39
import Derived.Test.YtoangpfmjohhmaaGreatDoorP22
import Derived.Test.YtoangpfmjohhmaaGreatDoorP25
/- The laws of PartAdd: what its calls give. -/
namespace Go.Proofs.YtoangpfmjohhmaaGreatDoor
open Go.RowKit Go.Deep

theorem addI {d : Nat} {w W : World} {a b : Tr (d + 1)} {v u : Value} (h : ValAt (FreshP w W) W (d + 1) a v) (hx : ValAt (FreshP w W) W (d + 1) b u) (hg : ErrType W) (hl : w.heap.size ≤ W.heap.size) :
    Calls Tryz.prog 9 #[v, u] W (TQ w (d + 1) (partAddT d a b).1 (partAddT d a b).2 W) := (implPartAdd_any d _ a v _ b u W h within_P hx within_P hg).mono (fun _ _ h => tq_of hl h)
theorem addS {d : Nat} {w W : World} {a b : Tr (d + 2)} {v u : Value} (h : ValAt (FreshP w W) W (d + 2) a v) (hx : ValAt (FreshP w W) W (d + 2) b u) (hz : wtT (d + 2) a ≤ 10000) (hz' : wtT (d + 2) b ≤ 10000) (hl : w.heap.size ≤ W.heap.size) :
    Calls Tryz.prog 10 #[v, u] W (TQ w (d + 2) (partAddT (d + 1) a b).1 (partAddT (d + 1) a b).2 W) := (specPartAdd_own d _ a v _ b u W h within_P hx within_P (nodes_small hz) (nodes_small hz')).mono (fun _ _ h => tq_of hl h)
theorem okI_at {w W : World} {d : Nat} {t : Tr d} {v : Value} (h : ValAt (FreshP w W) W d t v) : Calls Tryz.prog 13 #[v] W fun e w' => e = .returned (.bool (okT d t)) ∧ Below W.heap.size W w' := by
  have hc := implValOk_any d _ t v W h within_P
  rw [treeP_okT] at hc
  exact hc
theorem wt_add {d : Nat} (a b : Tr (d + 1)) : wtT (d + 1) (partAddT d a b).1 ≤ 10000 := by have := wtT_ok (okT_partAdd d a b); omega
end Go.Proofs.YtoangpfmjohhmaaGreatDoor
