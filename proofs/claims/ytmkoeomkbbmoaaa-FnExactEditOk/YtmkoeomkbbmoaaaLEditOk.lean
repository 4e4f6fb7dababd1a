/- FnExactEditOk: for all edits that lie in memory the law answers true. -/
import Derived.Test.YtmkoeomkbbmoaaaWEdTS
import Derived.Test.YtmkoeomkbbmoaaaWEdEq
import Derived.Test.YtmkoeomkbbmoaaaWEdJ
namespace Go.Proofs.Ytmkoeomkbbmoaaa
open Go.RowKit Go.Deep

set_option maxRecDepth 100000 in
set_option maxHeartbeats 4000000 in
theorem lawEditOk {d : Nat} (S : Nat → Prop) (es : List (Ed d)) (v : Value) (w : World) (hv : EdsAt S w v es) (hS : Within S w) :
    Calls Try.prog 3 #[v] w fun e w' => e = .returned (.bool true) ∧ Below w.heap.size w w' := by
  obtain ⟨a, cap, rfl, hlen⟩ := hv.open'
  go_enter Try.func3, Try.ntmps3
  go_wp2_with fail
  refine (szEditS_any S es _ 1048576 w hv hS (by omega) (by omega)).mono ?_
  rintro e w1 ⟨rfl, hb1⟩
  by_cases hneg : szL szEd es 1048576 < 0
  · go_wp2_with fail
    go_ret
    exact ⟨rfl, hb1⟩
  have hsm := hide (szEds_nodes hneg)
  go_wp2_with fail
  refine (toEditS_any S es _ w1 (hv.same (hS.same hb1)) (hS.later hb1.size)).mono ?_
  rintro e w2 ⟨u2, rfl, hu2, hb2⟩
  obtain ⟨a2, c2, rfl, _⟩ := hu2.open'
  have hB2 := below_trans hb1 hb2
  clear hb1 hb2
  go_wp2_with fail
  refine (specEditOk_any _ es _ w2 hu2 (Fresh.within _ _) hsm.out).mono ?_
  rintro e w3 ⟨rfl, hb3⟩
  have hB3 := below_trans hB2 hb3
  clear hB2 hb3 hu2
  go_wp2_with fail
  refine (toEditS_any S es _ w3 (hv.same (hS.same hB3)) (hS.later hB3.size)).mono ?_
  rintro e w4 ⟨u4, rfl, hu4, hb4⟩
  obtain ⟨a4, c4, rfl, _⟩ := hu4.open'
  have hB4 := below_trans hB3 hb4
  clear hB3 hb4
  go_wp2_with fail
  refine (implEditOk_any _ es _ w4 hu4 (Fresh.within _ _)).mono ?_
  rintro e w5 ⟨rfl, hb5⟩
  have hB5 := below_trans hB4 hb5
  have hx := hu4.same ((Fresh.within _ _).same hb5)
  have hWx : Within (Fresh w3 w4) w5 := (Fresh.within w3 w4).later hb5.size
  have hv5 := hv.same (hS.same hB5)
  have hS5 := hS.later hB5.size
  have hq : (edsOk es != edsOk es) = false := by simp
  clear hB4 hb5 hu4 hv
  go_wp2_with fail
  refine (toEditS_any S es _ w5 hv5 hS5).mono ?_
  rintro e w6 ⟨u6, rfl, hu6, hb6⟩
  obtain ⟨a6, c6, rfl, _⟩ := hu6.open'
  have hB6 := below_trans hB5 hb6
  go_wp2_with fail
  refine (eqEditS_same (Fresh w3 w4) (Fresh w5 w6) es _ _ w6 (hx.same (hWx.same hb6)) hu6 (hWx.later hb6.size) (Fresh.within _ _)).mono ?_
  rintro e w7 ⟨rfl, hb7⟩
  have HB := hide (below_trans hB6 hb7)
  clear hB6 hb6 hb7 hx hv5 hu6
  go_wp2_with fail
  go_ret
  exact ⟨rfl, HB.out⟩
end Go.Proofs.Ytmkoeomkbbmoaaa
