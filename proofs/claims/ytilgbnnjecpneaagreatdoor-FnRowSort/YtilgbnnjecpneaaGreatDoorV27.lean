/- Texts of the proof, put together by program: WMrgO. -/
import Derived.Test.YtilgbnnjecpneaaGreatDoorV20
import Derived.Test.YtilgbnnjecpneaaGreatDoorV11
import Derived.Test.YtilgbnnjecpneaaGreatDoorV15
import Derived.Test.YtilgbnnjecpneaaGreatDoorV26
/- treeOrder of the program. -/
namespace Go.Proofs.YtilgbnnjecpneaaGreatDoor
open Go.RowKit Go.Deep

set_option maxRecDepth 100000 in
set_option maxHeartbeats 4000000 in
theorem treeOrder_any (d : Nat) (S : Nat → Prop) (x y : Tr (d + 1)) (u u' : Value) (w : World) (hu : TreeG S w (d + 1) x u) (hu' : TreeG S w (d + 1) y u') (hS : Within S w) (hsm : (nodes (d + 1) x : Int) ≤ 4194304) :
    Calls Tryz.prog 64 #[u, u'] w fun e w' => e = .returned (.int .i64 (ordT (d + 1) x y)) ∧ Below w.heap.size w w' := by
  obtain ⟨v, hval⟩ := val_all d S x u w hu hS
  obtain ⟨v', hval'⟩ := val_all d S y u' w hu' hS
  have hend : ∀ (w1 w2 : World) (xv yv : Value), Below w.heap.size w w1 → ValOwn w1 (d + 1) (Fresh w w1) x xv → Below w1.heap.size w1 w2 → ValOwn w2 (d + 1) (Fresh w1 w2) y yv → Calls Tryz.prog 23 #[xv, yv] w2 fun e w' => e = .returned (.int .i64 (ordT (d + 1) x y)) ∧ Below w2.heap.size w2 w' := by
    intro w1 w2 xv yv hb1 hx hb2 hy
    have h1 := own_plain (d + 1) _ x xv (hx.same ((Fresh.within w w1).same hb2))
    have h2 := own_plain (d + 1) _ y yv hy
    exact implOrder_any (d + 1) _ _ x y xv yv w2 h1 h2 (fun b hb => ⟨hb.2, by have := hb.1.2; have := hb2.size; omega⟩) (fun b hb => ⟨hb.2, hb.1.2⟩) hsm
  have HEND := hide hend
  clear hu hu' hend
  rcases hval with ⟨rfl, HV⟩ | ⟨rfl, HV⟩ | ⟨rfl, HV⟩ | ⟨rfl, HV⟩ | ⟨rfl, HV⟩
  all_goals
    replace HV := hide (HV w (Below.refl _ _))
    rcases hval' with ⟨rfl, HV2⟩ | ⟨rfl, HV2⟩ | ⟨rfl, HV2⟩ | ⟨rfl, HV2⟩ | ⟨rfl, HV2⟩
    all_goals
      replace HV2 := hide HV2
      go_enter Tryz.func64, Tryz.ntmps64
      go_wp2_with fail
      refine HV.out.mono ?_
      rintro e w1 ⟨xv, rfl, hx, hb1⟩
      have HX := hide (And.intro hb1 hx)
      obtain ⟨q0, q1, q2, q3, q4, q5, q6, q7, q8, rfl⟩ := (ValOwn.at _ _ _ _ hx).shape
      clear hx hb1
      go_wp2_with fail
      refine (HV2.out w1 HX.out.1).mono ?_
      rintro e w2 ⟨yv, rfl, hy, hb2⟩
      obtain ⟨c0, c1, c2, c3, c4, c5, c6, c7, c8, rfl⟩ := (ValOwn.at _ _ _ _ hy).shape
      have hc := hide (HEND.out w1 w2 _ _ HX.out.1 HX.out.2 hb2 hy)
      have HB := hide (below_trans HX.out.1 hb2)
      clear hy hb2 HX HV HV2
      go_wp2_with fail
      refine hc.out.mono ?_
      rintro e w3 ⟨rfl, hb3⟩
      have HB3 := hide (below_trans HB.out hb3)
      clear hb3 hc HB
      go_wp2_with fail
      go_ret
      exact ⟨rfl, HB3.out⟩
end Go.Proofs.YtilgbnnjecpneaaGreatDoor
