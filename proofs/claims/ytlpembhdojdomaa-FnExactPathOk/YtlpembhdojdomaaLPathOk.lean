/- FnExactPathOk: for all steps that lie in memory the law answers true. -/
import Derived.Test.YtlpembhdojdomaaWStepOk
namespace Go.Proofs.Ytlpembhdojdomaa
open Go.RowKit Go.Deep

set_option maxRecDepth 100000 in
set_option maxHeartbeats 4000000 in
theorem lawPathOk (S : Nat → Prop) (ps : List Stp) (v : Value) (w : World) (hv : StepsAt S w v ps) (hS : Within S w) :
    Calls Try.prog 3 #[v] w fun e w' => e = .returned (.bool true) ∧ Below w.heap.size w w' := by
  obtain ⟨a, cap, rfl, hlen⟩ := hv.open'
  go_enter Try.func3, Try.ntmps3
  go_wp2_with fail
  refine (szStepS_any S ps _ 1048576 w hv hS (by omega) (by omega)).mono ?_
  rintro e w1 ⟨rfl, hb1⟩
  by_cases hneg : szL szStp ps 1048576 < 0
  · go_wp2_with fail
    go_ret
    exact ⟨rfl, hb1⟩
  go_wp2_with fail
  refine (toStepS_own S ps _ w1 (hv.same (hS.same hb1)) (hS.later hb1.size)).mono ?_
  rintro e w2 ⟨u2, rfl, hu2, hb2⟩
  obtain ⟨a2, c2, rfl, _⟩ := hu2.at.open'
  have hB2 := below_trans hb1 hb2
  clear hb1 hb2
  go_wp2_with fail
  refine (specPathOk_any _ ps _ w2 hu2.at (Fresh.within _ _)).mono ?_
  rintro e w3 ⟨rfl, hb3⟩
  have hB3 := below_trans hB2 hb3
  clear hB2 hb3 hu2
  go_wp2_with fail
  refine (toStepS_own S ps _ w3 (hv.same (hS.same hB3)) (hS.later hB3.size)).mono ?_
  rintro e w4 ⟨u4, rfl, hu4, hb4⟩
  obtain ⟨a4, c4, rfl, _⟩ := hu4.at.open'
  have hB4 := below_trans hB3 hb4
  clear hB3 hb4
  go_wp2_with fail
  refine (implPathOk_any _ ps _ w4 hu4.at (Fresh.within _ _)).mono ?_
  rintro e w5 ⟨rfl, hb5⟩
  have hB5 := below_trans hB4 hb5
  have hx := hu4.at.same ((Fresh.within _ _).same hb5)
  have hWx : Within (Fresh w3 w4) w5 := (Fresh.within w3 w4).later hb5.size
  have hv5 := hv.same (hS.same hB5)
  have hS5 := hS.later hB5.size
  have hq : (pathOk ps != pathOk ps) = false := by simp
  clear hB4 hb5 hu4 hv
  go_wp2_with fail
  refine (toStepS_own S ps _ w5 hv5 hS5).mono ?_
  rintro e w6 ⟨u6, rfl, hu6, hb6⟩
  obtain ⟨a6, c6, rfl, _⟩ := hu6.at.open'
  have hB6 := below_trans hB5 hb6
  go_wp2_with fail
  refine (eqStepS_same (Fresh w3 w4) (Fresh w5 w6) ps _ _ w6 (hx.same (hWx.same hb6)) hu6.at (hWx.later hb6.size) (Fresh.within _ _)).mono ?_
  rintro e w7 ⟨rfl, hb7⟩
  have HB := hide (below_trans hB6 hb7)
  clear hB6 hb6 hb7 hx hv5 hu6
  go_wp2_with fail
  go_ret
  exact ⟨rfl, HB.out⟩
end Go.Proofs.Ytlpembhdojdomaa
