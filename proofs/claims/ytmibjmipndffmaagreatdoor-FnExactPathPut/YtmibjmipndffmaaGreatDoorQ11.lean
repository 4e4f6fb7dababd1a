/- Texts of the proof, put together by program: LPathPut. -/
import Derived.Test.YtmibjmipndffmaaGreatDoorQ6
import Derived.Test.YtmibjmipndffmaaGreatDoorQ5
import Derived.Test.YtmibjmipndffmaaGreatDoorQ7
import Derived.Test.YtmibjmipndffmaaGreatDoorQ3
import Derived.Test.YtmibjmipndffmaaGreatDoorQ1
import Derived.Test.YtmibjmipndffmaaGreatDoorQ8
import Derived.Test.YtmibjmipndffmaaGreatDoorQ10
import Derived.Deep.RegionHeld
/- FnExactPathPut: for every argument that lies in memory the law answers true. -/
namespace Go.Proofs.YtmibjmipndffmaaGreatDoor
open Go.RowKit Go.Deep

set_option maxRecDepth 100000 in
set_option maxHeartbeats 32000000 in
theorem lawPathPut (a0 a2 e : Nat) (S0 : Nat → Prop) (t0 : Tr (a0 + 1)) (v0 : Value) (S1 : Nat → Prop) (ps : List Stp) (v1 : Value) (S2 : Nat → Prop) (t2 : Tr (a2 + 1)) (v2 : Value) (R : Tr (e + 1) × Bool) (w : World) (hv0 : ValAt S0 w (a0 + 1) t0 v0) (hS0 : Within S0 w) (hv2 : ValAt S2 w (a2 + 1) t2 v2) (hS2 : Within S2 w) (hv1 : StepsAt S1 w v1 ps) (hS1 : Within S1 w) (hg : ErrType w) (hokT : okT (e + 1) R.1 = true)
    (hspec : Hid (∀ (S0 : Nat → Prop) (v0 : Value) (S2 : Nat → Prop) (v2 : Value) (S1 : Nat → Prop) (v1 : Value) (w : World), ValAt S0 w (a0 + 1) t0 v0 → Within S0 w → ValAt S2 w (a2 + 1) t2 v2 → Within S2 w → StepsAt S1 w v1 ps → Within S1 w → (∀ a n c, v1 = .slice a n c → n ≤ c) → (nodes (a0 + 1) t0 : Int) ≤ 4194304 → (nodes (a2 + 1) t2 : Int) ≤ 4194304 → Calls Tryz.prog 11 #[v0, v1, v2] w (SpecQ e R.1 R.2 w)))
    (himpl : Hid (∀ (S0 : Nat → Prop) (v0 : Value) (S2 : Nat → Prop) (v2 : Value) (S1 : Nat → Prop) (v1 : Value) (w : World), ValAt S0 w (a0 + 1) t0 v0 → Within S0 w → ValAt S2 w (a2 + 1) t2 v2 → Within S2 w → StepsAt S1 w v1 ps → Within S1 w → ErrType w → Calls Tryz.prog 10 #[v0, v1, v2] w (TellQ e R.1 R.2 w))) :
    Calls Tryz.prog 8 #[v0, v1, v2] w fun e w' => e = .returned (.bool true) ∧ Below w.heap.size w w' := by
  obtain ⟨c0_0, c0_1, c0_2, c0_3, c0_4, c0_5, c0_6, c0_7, c0_8, rfl⟩ := hv0.shape
  obtain ⟨c2_0, c2_1, c2_2, c2_3, c2_4, c2_5, c2_6, c2_7, c2_8, rfl⟩ := hv2.shape
  obtain ⟨pa, pc, rfl, hlen1⟩ := hv1.open'
  obtain ⟨W0, hW⟩ : ∃ W0, W0 = ((w.alloc (.cells #[.int .i64 c0_0, .int .i64 c0_1, .string c0_2, .slice c0_3 c0_4 c0_5, .slice c0_6 c0_7 c0_8] 51)).alloc (.cells #[.int .i64 c2_0, .int .i64 c2_1, .string c2_2, .slice c2_3 c2_4 c2_5, .slice c2_6 c2_7 c2_8] 51)) := ⟨_, rfl⟩
  have hA : Below w.heap.size w W0 := by rw [hW]; exact below_trans (below_alloc1 _ _) (below_alloc1 _ _)
  have k0 : Blk5 W0 w.heap.size 51 (.int .i64 c0_0) (.int .i64 c0_1) (.string c0_2) (.slice c0_3 c0_4 c0_5) (.slice c0_6 c0_7 c0_8) := by rw [hW]; exact (Blk5.new w _ _ _ _ _ _).alloc _
  have k2 : Blk5 W0 (w.heap.size + 1) 51 (.int .i64 c2_0) (.int .i64 c2_1) (.string c2_2) (.slice c2_3 c2_4 c2_5) (.slice c2_6 c2_7 c2_8) := by rw [hW]; have := Blk5.new (w.alloc (.cells #[.int .i64 c0_0, .int .i64 c0_1, .string c0_2, .slice c0_3 c0_4 c0_5, .slice c0_6 c0_7 c0_8] 51)) 51 (.int .i64 c2_0) (.int .i64 c2_1) (.string c2_2) (.slice c2_3 c2_4 c2_5) (.slice c2_6 c2_7 c2_8); rw [World.size_alloc] at this; exact this
  have hsw0 : w.heap.size + 2 = W0.heap.size := by rw [hW]; simp
  have HW := hide hW
  clear hW
  go_enter Tryz.func8, Tryz.ntmps8
  go_wp2_with fail
  rw [← HW.out]
  clear HW
  refine (szVal_any (a0 + 1) S0 t0 _ 1048576 _ (hv0.same (hS0.same hA)) (hS0.later hA.size) (by omega) (by omega)).mono ?_
  rintro e w10 ⟨rfl, hb1⟩
  replace k0 := k0.below hb1
  replace k2 := k2.below hb1
  have hB10 := below_trans hA hb1
  clear hb1
  by_cases hneg0 : szT (a0 + 1) t0 1048576 < 0
  · clear k0 k2
    go_wp2_with fail
    go_ret
    exact ⟨rfl, hB10⟩
  have hnodes0 := szT_nodes (a0 + 1) t0 1048576 (by omega) (by omega)
  have hwt0 := szT_wt (a0 + 1) t0 1048576 (by omega) (by omega)
  have hszle0 := szT_le (a0 + 1) t0 1048576 (by omega)
  go_wp2_with fail
  refine (szStepS_any S1 ps _ _ w10 (hv1.same (hS1.same hB10)) (hS1.later hB10.size) (by omega) (by omega)).mono ?_
  rintro e w11 ⟨rfl, hb1⟩
  replace k0 := k0.below hb1
  replace k2 := k2.below hb1
  have hB11 := below_trans hB10 hb1
  clear hb1
  by_cases hneg1 : szL szStp ps (szT (a0 + 1) t0 1048576) < 0
  · clear k0 k2
    go_wp2_with fail
    go_ret
    exact ⟨rfl, hB11⟩
  have hlps := szSteps_len hneg1
  have hszP : szL szStp ps (szT (a0 + 1) t0 1048576) ≤ szT (a0 + 1) t0 1048576 := szL_le szStp szStp_le ps _ (by omega)
  obtain ⟨x00, x01, x02, x03, x04⟩ := k2.cell
  go_wp2_with fail
  refine (szVal_any (a2 + 1) S2 t2 _ (szL szStp ps (szT (a0 + 1) t0 1048576)) _ (hv2.same (hS2.same hB11)) (hS2.later hB11.size) (by omega) (by omega)).mono ?_
  rintro e w12 ⟨rfl, hb1⟩
  replace k0 := k0.below hb1
  replace k2 := k2.below hb1
  have hB12 := below_trans hB11 hb1
  clear hb1
  clear x00 x01 x02 x03 x04
  by_cases hneg2 : szT (a2 + 1) t2 (szL szStp ps (szT (a0 + 1) t0 1048576)) < 0
  · clear k0 k2
    go_wp2_with fail
    go_ret
    exact ⟨rfl, hB12⟩
  have hnodes2 := szT_nodes (a2 + 1) t2 (szL szStp ps (szT (a0 + 1) t0 1048576)) (by omega) (by omega)
  have hwt2 := szT_wt (a2 + 1) t2 (szL szStp ps (szT (a0 + 1) t0 1048576)) (by omega) (by omega)
  have hszle2 := szT_le (a2 + 1) t2 (szL szStp ps (szT (a0 + 1) t0 1048576)) (by omega)
  have hno0 : (nodes (a0 + 1) t0 : Int) ≤ 4194304 := by omega
  have hwk0 : (wtT (a0 + 1) t0 : Int) ≤ 4194304 := by omega
  have hno2 : (nodes (a2 + 1) t2 : Int) ≤ 4194304 := by omega
  have hwk2 : (wtT (a2 + 1) t2 : Int) ≤ 4194304 := by omega
  have hlen20 : ps.length ≤ 1048576 := by omega
  clear hlps hszP hnodes0 hwt0 hszle0 hnodes2 hwt2 hszle2
  have hDr : Below w12.heap.size w12 w12.drew := ⟨rfl, rfl, rfl, Nat.le_refl _, fun _ _ => rfl⟩
  have HD := hide hDr
  go_upto_region 8 with fail
  go_cut [8, 9] (fun pv bv wc => ∃ b p0 p1 p2 p3 p4 p5 p6 p7 p8, pv = .pointer (some ⟨b, 0, none⟩) ∧ bv = .bool R.2 ∧ Hid (ToldIn e w12.heap.size b R.1 w12 wc p0 p1 p2 p3 p4 p5 p6 p7 p8))
  case first =>
    have T0 : Hid (∀ W, Below w12.heap.size w12 W → Calls Tryz.prog 33 #[.agg #[.int .i64 c0_0, .int .i64 c0_1, .string c0_2, .slice c0_3 c0_4 c0_5, .slice c0_6 c0_7 c0_8]] W fun e w' => ∃ u, e = .returned u ∧ ValAt (Fresh W w') w' (a0 + 1) t0 u ∧ Below W.heap.size W w') := fun W hW => toVal_any (a0 + 1) S0 t0 _ W (hv0.same (hS0.same (below_trans hB12 hW))) (hS0.later (below_trans hB12 hW).size)
    have T2 : Hid (∀ W, Below w12.heap.size w12 W → Calls Tryz.prog 33 #[.agg #[.int .i64 c2_0, .int .i64 c2_1, .string c2_2, .slice c2_3 c2_4 c2_5, .slice c2_6 c2_7 c2_8]] W fun e w' => ∃ u, e = .returned u ∧ ValAt (Fresh W w') w' (a2 + 1) t2 u ∧ Below W.heap.size W w') := fun W hW => toVal_any (a2 + 1) S2 t2 _ W (hv2.same (hS2.same (below_trans hB12 hW))) (hS2.later (below_trans hB12 hW).size)
    have TP : Hid (∀ W, Below w12.heap.size w12 W → Calls Tryz.prog 34 #[.slice pa ps.length pc] W fun e w' => ∃ u, e = .returned u ∧ StepsAt (Fresh W w') w' u ps ∧ Below W.heap.size W w' ∧ (∀ a n c, u = .slice a n c → n ≤ c)) := fun W hW => (toStepS_cap S1 ps _ W (hv1.same (hS1.same (below_trans hB12 hW))) (hS1.later (below_trans hB12 hW).size)).mono (fun _ _ ⟨u, h1, h2, h3, h4⟩ => ⟨u, h1, h2.at, h3, h4⟩)
    have KK : Hid (∀ W, Below w12.heap.size w12 W → ((W.cell? ⟨w.heap.size, 0, none⟩ = some (.int .i64 c0_0) ∧ W.cell? ⟨w.heap.size, 1, none⟩ = some (.int .i64 c0_1) ∧ W.cell? ⟨w.heap.size, 2, none⟩ = some (.string c0_2) ∧ W.cell? ⟨w.heap.size, 3, none⟩ = some (.slice c0_3 c0_4 c0_5) ∧ W.cell? ⟨w.heap.size, 4, none⟩ = some (.slice c0_6 c0_7 c0_8)) ∧ W.cell? ⟨(w.heap.size + 1), 0, none⟩ = some (.int .i64 c2_0) ∧ W.cell? ⟨(w.heap.size + 1), 1, none⟩ = some (.int .i64 c2_1) ∧ W.cell? ⟨(w.heap.size + 1), 2, none⟩ = some (.string c2_2) ∧ W.cell? ⟨(w.heap.size + 1), 3, none⟩ = some (.slice c2_3 c2_4 c2_5) ∧ W.cell? ⟨(w.heap.size + 1), 4, none⟩ = some (.slice c2_6 c2_7 c2_8))) := fun W hW => ⟨(k0.below hW).cell, (k2.below hW).cell⟩
    have hDa := below_drew1 (below_alloc1 w12 (.cells #[.int .i64 0, .int .i64 0, .string { data := #[] }, .slice none 0 0, .slice none 0 0] 26))
    have Hn0 := hide hno0
    have Hn2 := hide hno2
    clear hv0 hS0 k0 hno0 hwk0 hneg0 hv2 hS2 k2 hno2 hwk2 hneg2 hB12 hsw0 hg himpl hokT
    go_region_held3 (fun w' => ((w'.cell? ⟨w.heap.size, 0, none⟩ = some (.int .i64 c0_0) ∧ w'.cell? ⟨w.heap.size, 1, none⟩ = some (.int .i64 c0_1) ∧ w'.cell? ⟨w.heap.size, 2, none⟩ = some (.string c0_2) ∧ w'.cell? ⟨w.heap.size, 3, none⟩ = some (.slice c0_3 c0_4 c0_5) ∧ w'.cell? ⟨w.heap.size, 4, none⟩ = some (.slice c0_6 c0_7 c0_8)) ∧ w'.cell? ⟨(w.heap.size + 1), 0, none⟩ = some (.int .i64 c2_0) ∧ w'.cell? ⟨(w.heap.size + 1), 1, none⟩ = some (.int .i64 c2_1) ∧ w'.cell? ⟨(w.heap.size + 1), 2, none⟩ = some (.string c2_2) ∧ w'.cell? ⟨(w.heap.size + 1), 3, none⟩ = some (.slice c2_3 c2_4 c2_5) ∧ w'.cell? ⟨(w.heap.size + 1), 4, none⟩ = some (.slice c2_6 c2_7 c2_8)))
      ((refine KK.out _ ?_; with_reducible assumption))
      (first
        | (go_at_call 34; refine (TP.out _ ?_).mono ?_; (first | exact HA.out | exact HAa.out); rintro eP wP ⟨uP, rfl, hP, hbP, hcP⟩; obtain ⟨ya, yc, rfl, _⟩ := hP.open'; have HAP : Hid (Below wA.heap.size wA wP) := (by first | exact hbP | exact below_trans (below_alloc1 _ _) hbP); have HP := hide (below_trans HA.out HAP.out); have HPa := hide (below_trans HP.out (below_alloc1 wP (.cells #[.int .i64 0, .int .i64 0, .string { data := #[] }, .slice none 0 0, .slice none 0 0] 26))); have bP := HP.out; have bPa := HPa.out; (first | have zP := zA.below HAP.out | with_reducible (have zP := (Blk5.new wA 26 (.int .i64 0) (.int .i64 0) (.string { data := #[] }) (.slice none 0 0) (.slice none 0 0)).below hbP) | skip); have HvP := hide hP; have HcP := hide hcP; clear hP hbP hcP)
        | (go_at_call 33; have hseen := HP; clear hseen; refine (T2.out _ ?_).mono ?_; (first | exact HP.out | exact HPa.out); rintro eB wB ⟨uB, rfl, hB, hbB⟩; have HPB : Hid (Below wP.heap.size wP wB) := (by first | exact hbB | exact below_trans (below_alloc1 _ _) hbB); have HAB := hide (below_trans HAP.out HPB.out); have HB := hide (below_trans HA.out HAB.out); have HBa := hide (below_trans HB.out (below_alloc1 wB (.cells #[.int .i64 0, .int .i64 0, .string { data := #[] }, .slice none 0 0, .slice none 0 0] 26))); have bB := HB.out; have bBa := HBa.out; have HSp : Hid (∀ W, Below wB.heap.size wB W → Calls Tryz.prog 11 #[uA, .slice ya ps.length yc, uB] W (SpecQ e R.1 R.2 W)) := fun W hW => hspec.out _ _ _ _ _ _ W (HvA.out.same ((Fresh.within _ _).same (below_trans HAB.out hW))) ((Fresh.within _ _).later (below_trans HAB.out hW).size) (hB.same ((Fresh.within _ _).same hW)) ((Fresh.within _ _).later hW.size) (HvP.out.same ((Fresh.within _ _).same (below_trans HPB.out hW))) ((Fresh.within _ _).later (below_trans HPB.out hW).size) HcP.out Hn0.out Hn2.out; (first | have zB := zP.below HPB.out | with_reducible (have zB := (Blk5.new wP 26 (.int .i64 0) (.int .i64 0) (.string { data := #[] }) (.slice none 0 0) (.slice none 0 0)).below hbB) | skip); clear hB hbB)
        | (go_at_call 33; refine (T0.out _ ?_).mono ?_; (first | exact hDr | exact hDa); rintro eA wA ⟨uA, rfl, hA, hbA⟩; have HA : Hid (Below w12.heap.size w12 wA) := (by first | exact below_trans hDr hbA | exact below_trans hDa hbA); have HAa := hide (below_trans HA.out (below_alloc1 wA (.cells #[.int .i64 0, .int .i64 0, .string { data := #[] }, .slice none 0 0, .slice none 0 0] 26))); have bA := HA.out; have bAa := HAa.out; (first | with_reducible (have zA := Blk5.below (newDrew w12 26 (.int .i64 0) (.int .i64 0) (.string { data := #[] }) (.slice none 0 0) (.slice none 0 0)) hbA) | skip); have HvA := hide hA; clear hA hbA)
        | (go_at_call 11; refine Calls.mono (HSp.out _ ?_) ?_; (first | exact Below.refl _ _ | exact below_alloc1 _ _); rintro eC wC ⟨uC, rfl, hC, hbC⟩; obtain ⟨p0, p1, p2, p3, p4, p5, p6, p7, p8, rfl⟩ := hC.shape; have HBC : Hid (Below wB.heap.size wB wC) := (by first | exact hbC | exact below_trans (below_alloc1 _ _) hbC); have HC := hide (below_trans HB.out HBC.out); have bC := HC.out; have bCa := below_trans HC.out (below_alloc1 wC (.cells #[.int .i64 0, .int .i64 0, .string { data := #[] }, .slice none 0 0, .slice none 0 0] 26)); have bCp := below_trans HC.out (below_alloc1 wC (.cells #[.int .i64 p0, .int .i64 p1, .string p2, .slice p3 p4 p5, .slice p6 p7 p8] 26)); (first | have zC := zB.below HBC.out | with_reducible (have zC := (Blk5.new wB 26 (.int .i64 0) (.int .i64 0) (.string { data := #[] }) (.slice none 0 0) (.slice none 0 0)).below hbC) | skip); (first | (obtain ⟨y0, y1, y2, y3, y4⟩ := zC.cell; have yf := zC.frozen) | skip); (first | have bX := belowChain HC.out zC (Nat.le_refl _) (.int .i64 p0) (.int .i64 p1) (.string p2) (.slice p3 p4 p5) (.slice p6 p7 p8) | have bX := belowChain HC.out zC HA.out.size (.int .i64 p0) (.int .i64 p1) (.string p2) (.slice p3 p4 p5) (.slice p6 p7 p8) | have bX := belowChain HC.out zC HP.out.size (.int .i64 p0) (.int .i64 p1) (.string p2) (.slice p3 p4 p5) (.slice p6 p7 p8) | have bX := belowChain HC.out zC HB.out.size (.int .i64 p0) (.int .i64 p1) (.string p2) (.slice p3 p4 p5) (.slice p6 p7 p8) | skip); have HvC := hide hC; clear hC hbC))
    all_goals go_wp2_with fail
    all_goals go_meet
    · exact ⟨_, p0, p1, p2, p3, p4, p5, p6, p7, p8, rfl, rfl, told_new HC.out.size HC.out HvC.out (fun x hx => ⟨Nat.le_trans HB.out.size hx.1, hx.2⟩)⟩
    · exact ⟨_, p0, p1, p2, p3, p4, p5, p6, p7, p8, rfl, rfl, told_set zC HB.out.size HC.out HvC.out (fun x hx => ⟨by have := hx.1; have := HB.out.size; rw [World.size_alloc] at *; omega, hx.2, by have := hx.1; rw [World.size_alloc] at this; omega⟩)⟩
    · exact ⟨_, p0, p1, p2, p3, p4, p5, p6, p7, p8, rfl, rfl, told_set zC HP.out.size HC.out HvC.out (fun x hx => ⟨Nat.le_trans HB.out.size hx.1, hx.2, by have := hx.1; have := zB.lt; omega⟩)⟩
    · exact ⟨_, p0, p1, p2, p3, p4, p5, p6, p7, p8, rfl, rfl, told_set zC HA.out.size HC.out HvC.out (fun x hx => ⟨Nat.le_trans HB.out.size hx.1, hx.2, by have := hx.1; have := zP.lt; have := HPB.out.size; omega⟩)⟩
    · exact ⟨_, p0, p1, p2, p3, p4, p5, p6, p7, p8, rfl, rfl, told_set zC (Nat.le_refl _) HC.out HvC.out (fun x hx => ⟨Nat.le_trans HB.out.size hx.1, hx.2, by have := hx.1; have := zA.lt; have := HAB.out.size; omega⟩)⟩
  case rest =>
  rename World => w3
  obtain ⟨b3, p0, p1, p2, p3, p4, p5, p6, p7, p8, rfl, rfl, hin⟩ := hcut
  have hb3 := hin.out.below
  have kp := hin.out.var
  have ha3 := hin.out.val
  have hlo3 := hin.out.lob
  clear hin HD hDr
  have hWa : Within (fun x => w12.heap.size ≤ x ∧ x < w3.heap.size ∧ x ≠ b3) w3 := fun x hx => hx.2.1
  replace k0 := k0.below hb3
  replace k2 := k2.below hb3
  have hB3 := below_trans hB12 hb3
  have hs3 := hb3.size
  have hb3l : b3 < w3.heap.size := kp.lt
  have hlt3 : w.heap.size + 2 ≤ w3.heap.size := by have := k2.lt; omega
  clear hb3 hB12
  obtain ⟨x00, x01, x02, x03, x04⟩ := k0.cell
  go_wp2_with fail
  refine (toVal_own (a0 + 1) S0 t0 _ w3 (hv0.same (hS0.same hB3)) (hS0.later hB3.size)).mono ?_
  rintro e w40 ⟨u4, rfl, hx0, hb4⟩
  obtain ⟨q0_0, q0_1, q0_2, q0_3, q0_4, q0_5, q0_6, q0_7, q0_8, rfl⟩ := (ValOwn.at _ _ _ _ hx0).shape
  replace k0 := k0.below hb4
  replace k2 := k2.below hb4
  replace kp := kp.below hb4
  replace ha3 := ha3.same (hWa.same hb4)
  replace hWa := hWa.later hb4.size
  have hB40 := below_trans hB3 hb4
  have hz40 := hb4.size
  clear hb4 hB3 x00 x01 x02 x03 x04
  have hWx0 : Within (Fresh w3 w40) w40 := Fresh.within _ _
  obtain ⟨V0, hWW⟩ : ∃ V0, V0 = w40.alloc (.cells #[.int .i64 q0_0, .int .i64 q0_1, .string q0_2, .slice q0_3 q0_4 q0_5, .slice q0_6 q0_7 q0_8] 26) := ⟨_, rfl⟩
  have hAA : Below w40.heap.size w40 V0 := by rw [hWW]; exact below_alloc1 _ _
  have kq0 : Blk5 V0 w40.heap.size 26 (.int .i64 q0_0) (.int .i64 q0_1) (.string q0_2) (.slice q0_3 q0_4 q0_5) (.slice q0_6 q0_7 q0_8) := by rw [hWW]; exact Blk5.new _ _ _ _ _ _ _
  have hzzkq0 : V0.heap.size = w40.heap.size + 1 := by rw [hWW]; simp
  replace k0 := k0.below hAA
  replace k2 := k2.below hAA
  replace kp := kp.below hAA
  replace ha3 := ha3.same (hWa.same hAA)
  replace hx0 := hx0.same (hWx0.same hAA)
  replace hWa := hWa.later hAA.size
  replace hWx0 := hWx0.later hAA.size
  have hB40' := below_trans hB40 hAA
  have HV0 := hide hWW
  have HZkq0 := hide hzzkq0
  clear hWW hAA hzzkq0 hB40
  have kk := kq0
  rw [HV0.out] at kk
  obtain ⟨x00, x01, x02, x03, x04⟩ := kk.cell
  clear kk x00 x01 x02 x03 x04
  go_wp2_with fail
  rw [← HV0.out]
  clear HV0
  refine (toStepS_own S1 ps _ V0 (hv1.same (hS1.same hB40')) (hS1.later hB40'.size)).mono ?_
  rintro e w41 ⟨u4, rfl, hx1, hb4⟩
  obtain ⟨ya, yc, rfl, _⟩ := hx1.at.open'
  replace k0 := k0.below hb4
  replace k2 := k2.below hb4
  replace kp := kp.below hb4
  replace kq0 := kq0.below hb4
  replace ha3 := ha3.same (hWa.same hb4)
  replace hx0 := hx0.same (hWx0.same hb4)
  replace hWa := hWa.later hb4.size
  replace hWx0 := hWx0.later hb4.size
  have hB41 := below_trans hB40' hb4
  have hz41 := hb4.size
  clear hb4 hB40'
  have hWx1 : Within (Fresh V0 w41) w41 := Fresh.within _ _
  obtain ⟨x00, x01, x02, x03, x04⟩ := k2.cell
  go_wp2_with fail
  refine (toVal_own (a2 + 1) S2 t2 _ w41 (hv2.same (hS2.same hB41)) (hS2.later hB41.size)).mono ?_
  rintro e w42 ⟨u4, rfl, hx2, hb4⟩
  obtain ⟨q2_0, q2_1, q2_2, q2_3, q2_4, q2_5, q2_6, q2_7, q2_8, rfl⟩ := (ValOwn.at _ _ _ _ hx2).shape
  replace k0 := k0.below hb4
  replace k2 := k2.below hb4
  replace kp := kp.below hb4
  replace kq0 := kq0.below hb4
  replace ha3 := ha3.same (hWa.same hb4)
  replace hx0 := hx0.same (hWx0.same hb4)
  replace hx1 := hx1.same (hWx1.same hb4)
  replace hWa := hWa.later hb4.size
  replace hWx0 := hWx0.later hb4.size
  replace hWx1 := hWx1.later hb4.size
  have hB42 := below_trans hB41 hb4
  have hz42 := hb4.size
  clear hb4 hB41 x00 x01 x02 x03 x04
  have hWx2 : Within (Fresh w41 w42) w42 := Fresh.within _ _
  obtain ⟨V2, hWW⟩ : ∃ V2, V2 = w42.alloc (.cells #[.int .i64 q2_0, .int .i64 q2_1, .string q2_2, .slice q2_3 q2_4 q2_5, .slice q2_6 q2_7 q2_8] 26) := ⟨_, rfl⟩
  have hAA : Below w42.heap.size w42 V2 := by rw [hWW]; exact below_alloc1 _ _
  have kq2 : Blk5 V2 w42.heap.size 26 (.int .i64 q2_0) (.int .i64 q2_1) (.string q2_2) (.slice q2_3 q2_4 q2_5) (.slice q2_6 q2_7 q2_8) := by rw [hWW]; exact Blk5.new _ _ _ _ _ _ _
  have hzzkq2 : V2.heap.size = w42.heap.size + 1 := by rw [hWW]; simp
  replace k0 := k0.below hAA
  replace k2 := k2.below hAA
  replace kp := kp.below hAA
  replace kq0 := kq0.below hAA
  replace ha3 := ha3.same (hWa.same hAA)
  replace hx0 := hx0.same (hWx0.same hAA)
  replace hx1 := hx1.same (hWx1.same hAA)
  replace hx2 := hx2.same (hWx2.same hAA)
  replace hWa := hWa.later hAA.size
  replace hWx0 := hWx0.later hAA.size
  replace hWx1 := hWx1.later hAA.size
  replace hWx2 := hWx2.later hAA.size
  have hB42' := below_trans hB42 hAA
  have HV2 := hide hWW
  have HZkq2 := hide hzzkq2
  clear hWW hAA hzzkq2 hB42
  have kk0 := kq0
  rw [HV2.out] at kk0
  obtain ⟨x00, x01, x02, x03, x04⟩ := kk0.cell
  clear kk0
  go_wp2_with fail
  rw [← HV2.out]
  clear HV2
  refine Calls.mono (himpl.out _ _ _ _ _ _ V2 (ValOwn.at _ _ _ _ hx0) hWx0 (ValOwn.at _ _ _ _ hx2) hWx2 hx1.at hWx1 (hg.below hB42')) ?_
  rintro e w5 ⟨g5, rfl, hr, hb5⟩
  obtain ⟨r0, r1, r2, r3, r4, r5, r6, r7, r8, rfl⟩ := (ValOwn.at _ _ _ _ hr).shape
  clear x00 x01 x02 x03 x04
  replace k0 := k0.below hb5
  replace k2 := k2.below hb5
  replace kp := kp.below hb5
  replace kq0 := kq0.below hb5
  replace kq2 := kq2.below hb5
  replace ha3 := ha3.same (hWa.same hb5)
  replace hx0 := hx0.same (hWx0.same hb5)
  replace hx1 := hx1.same (hWx1.same hb5)
  replace hx2 := hx2.same (hWx2.same hb5)
  replace hWa := hWa.later hb5.size
  replace hWx0 := hWx0.later hb5.size
  replace hWx1 := hWx1.later hb5.size
  replace hWx2 := hWx2.later hb5.size
  have hB5 := below_trans hB42' hb5
  have hz5 := hb5.size
  clear hb5 hB42'
  have hWr : Within (Fresh V2 w5) w5 := Fresh.within _ _
  obtain ⟨W5, hWW⟩ : ∃ W5, W5 = w5.alloc (.cells #[.int .i64 r0, .int .i64 r1, .string r2, .slice r3 r4 r5, .slice r6 r7 r8] 26) := ⟨_, rfl⟩
  have hAA : Below w5.heap.size w5 W5 := by rw [hWW]; exact below_alloc1 _ _
  have kr : Blk5 W5 w5.heap.size 26 (.int .i64 r0) (.int .i64 r1) (.string r2) (.slice r3 r4 r5) (.slice r6 r7 r8) := by rw [hWW]; exact Blk5.new _ _ _ _ _ _ _
  have hzzkr : W5.heap.size = w5.heap.size + 1 := by rw [hWW]; simp
  replace k0 := k0.below hAA
  replace k2 := k2.below hAA
  replace kp := kp.below hAA
  replace kq0 := kq0.below hAA
  replace kq2 := kq2.below hAA
  replace ha3 := ha3.same (hWa.same hAA)
  replace hx0 := hx0.same (hWx0.same hAA)
  replace hx1 := hx1.same (hWx1.same hAA)
  replace hx2 := hx2.same (hWx2.same hAA)
  replace hr := hr.same (hWr.same hAA)
  replace hWa := hWa.later hAA.size
  replace hWx0 := hWx0.later hAA.size
  replace hWx1 := hWx1.later hAA.size
  replace hWx2 := hWx2.later hAA.size
  replace hWr := hWr.later hAA.size
  have hB5' := below_trans hB5 hAA
  have HW5 := hide hWW
  have HZkr := hide hzzkr
  clear hWW hAA hzzkr hB5
  have z40 := HZkq0.out
  have z42 := HZkq2.out
  have z5 := HZkr.out
  clear HZkr HZkq0 HZkq2
  have kk := kp
  rw [HW5.out] at kk
  obtain ⟨x00, x01, x02, x03, x04⟩ := kk.cell
  clear kk
  have hbb : (R.2 != R.2) = false := by simp
  go_wp2_with fail
  rw [← HW5.out]
  clear HW5
  refine (eqVal_any (e + 1) (Fresh V2 w5) _ R.1 R.1 _ _ W5 (ValOwn.at _ _ _ _ hr) ha3 hWr hWa).mono ?_
  rintro e6 w6 ⟨rfl, hb6⟩
  rw [eqT_refl]
  replace k0 := k0.below hb6
  replace k2 := k2.below hb6
  replace kp := kp.below hb6
  replace kq0 := kq0.below hb6
  replace kq2 := kq2.below hb6
  replace kr := kr.below hb6
  replace ha3 := ha3.same (hWa.same hb6)
  replace hx0 := hx0.same (hWx0.same hb6)
  replace hx1 := hx1.same (hWx1.same hb6)
  replace hx2 := hx2.same (hWx2.same hb6)
  replace hr := hr.same (hWr.same hb6)
  replace hWa := hWa.later hb6.size
  replace hWx0 := hWx0.later hb6.size
  replace hWx1 := hWx1.later hb6.size
  replace hWx2 := hWx2.later hb6.size
  replace hWr := hWr.later hb6.size
  have hB6 := below_trans hB5' hb6
  have hz6 := hb6.size
  clear hb6 hB5' x00 x01 x02 x03 x04
  have hv6 := hv0.same (hS0.same hB6)
  have hS6 := hS0.later hB6.size
  obtain ⟨x00, x01, x02, x03, x04⟩ := k0.cell
  obtain ⟨x10, x11, x12, x13, x14⟩ := kq0.cell
  have hNN := k0.lt
  have hMM := kq0.lt
  go_wp2_with fail
  go_region_held (fun w' => (w'.cell? ⟨w.heap.size, 0, none⟩ = some (.int .i64 c0_0) ∧ w'.cell? ⟨w.heap.size, 1, none⟩ = some (.int .i64 c0_1) ∧ w'.cell? ⟨w.heap.size, 2, none⟩ = some (.string c0_2) ∧ w'.cell? ⟨w.heap.size, 3, none⟩ = some (.slice c0_3 c0_4 c0_5) ∧ w'.cell? ⟨w.heap.size, 4, none⟩ = some (.slice c0_6 c0_7 c0_8)) ∧ w'.cell? ⟨w40.heap.size, 0, none⟩ = some (.int .i64 q0_0) ∧ w'.cell? ⟨w40.heap.size, 1, none⟩ = some (.int .i64 q0_1) ∧ w'.cell? ⟨w40.heap.size, 2, none⟩ = some (.string q0_2) ∧ w'.cell? ⟨w40.heap.size, 3, none⟩ = some (.slice q0_3 q0_4 q0_5) ∧ w'.cell? ⟨w40.heap.size, 4, none⟩ = some (.slice q0_6 q0_7 q0_8))
    (first | go_keep | exact ⟨k7.cell, m7.cell⟩ | exact ⟨k8.cell, m8.cell⟩)
    (first
      | (go_at_call 33; refine (toVal_any (a0 + 1) S0 t0 _ _ ?_ ?_).mono ?_; exact hv6.same (fun _ _ => rfl); exact hS6; rintro e7 w70 ⟨u7, rfl, hu7, hb7⟩; have k7 := k0.of_block (hb7.block _ hNN); have m7 := kq0.of_block (hb7.block _ hMM))
      | (go_at_call 35; refine (eqVal_any (a0 + 1) (Fresh w3 w40) (Fresh w6.drew w70) t0 t0 _ _ _ ?_ ?_ ?_ ?_).mono ?_; exact (ValOwn.at _ _ _ _ hx0).same (fun b hb => hb7.block b (hWx0 b hb)); exact hu7; exact hWx0.later hb7.size; exact Fresh.within _ _; rintro e8 w80 ⟨rfl, hb8⟩; have k8 := k7.of_block (hb8.block _ k7.lt); have m8 := m7.of_block (hb8.block _ m7.lt)))
  rw [eqT_refl]
  have hb68 : Below w6.heap.size w6 w80 := below_trans (show Below w6.heap.size w6 w70 from ⟨hb7.os, hb7.tape, hb7.output, hb7.size, hb7.block⟩) hb8
  clear hb7 hb8 k7 m7 k8 m8 hu7 hv6 hS6 x00 x01 x02 x03 x04 x10 x11 x12 x13 x14 hNN hMM
  replace k0 := k0.below hb68
  replace k2 := k2.below hb68
  replace kp := kp.below hb68
  replace kq0 := kq0.below hb68
  replace kq2 := kq2.below hb68
  replace kr := kr.below hb68
  replace ha3 := ha3.same (hWa.same hb68)
  replace hx0 := hx0.same (hWx0.same hb68)
  replace hx1 := hx1.same (hWx1.same hb68)
  replace hx2 := hx2.same (hWx2.same hb68)
  replace hr := hr.same (hWr.same hb68)
  replace hWa := hWa.later hb68.size
  replace hWx0 := hWx0.later hb68.size
  replace hWx1 := hWx1.later hb68.size
  replace hWx2 := hWx2.later hb68.size
  replace hWr := hWr.later hb68.size
  have hB80 := below_trans hB6 hb68
  have hz80 := hb68.size
  clear hb68 hB6
  go_wp2_with fail
  refine (toStepS_own S1 ps _ w80 (hv1.same (hS1.same hB80)) (hS1.later hB80.size)).mono ?_
  rintro e wt ⟨ut, rfl, hut, hbt⟩
  obtain ⟨ta, tc, rfl, _⟩ := hut.at.open'
  replace k0 := k0.below hbt
  replace k2 := k2.below hbt
  replace kp := kp.below hbt
  replace kq0 := kq0.below hbt
  replace kq2 := kq2.below hbt
  replace kr := kr.below hbt
  replace ha3 := ha3.same (hWa.same hbt)
  replace hx0 := hx0.same (hWx0.same hbt)
  replace hx1 := hx1.same (hWx1.same hbt)
  replace hx2 := hx2.same (hWx2.same hbt)
  replace hr := hr.same (hWr.same hbt)
  replace hWa := hWa.later hbt.size
  replace hWx0 := hWx0.later hbt.size
  replace hWx1 := hWx1.later hbt.size
  replace hWx2 := hWx2.later hbt.size
  replace hWr := hWr.later hbt.size
  have hBt := below_trans hB80 hbt
  have hzt := hbt.size
  clear hbt hB80
  go_wp2_with fail
  refine (eqStepS_same (Fresh V0 w41) (Fresh w80 wt) ps _ _ wt hx1.at hut.at hWx1 (Fresh.within _ _)).mono ?_
  rintro e we ⟨rfl, hbe⟩
  replace k0 := k0.below hbe
  replace k2 := k2.below hbe
  replace kp := kp.below hbe
  replace kq0 := kq0.below hbe
  replace kq2 := kq2.below hbe
  replace kr := kr.below hbe
  replace ha3 := ha3.same (hWa.same hbe)
  replace hx0 := hx0.same (hWx0.same hbe)
  replace hx1 := hx1.same (hWx1.same hbe)
  replace hx2 := hx2.same (hWx2.same hbe)
  replace hr := hr.same (hWr.same hbe)
  replace hWa := hWa.later hbe.size
  replace hWx0 := hWx0.later hbe.size
  replace hWx1 := hWx1.later hbe.size
  replace hWx2 := hWx2.later hbe.size
  replace hWr := hWr.later hbe.size
  have hBe := below_trans hBt hbe
  have hze := hbe.size
  clear hbe hBt hut
  have hv6 := hv2.same (hS2.same hBe)
  have hS6 := hS2.later hBe.size
  obtain ⟨x00, x01, x02, x03, x04⟩ := k2.cell
  obtain ⟨x10, x11, x12, x13, x14⟩ := kq2.cell
  have hNN := k2.lt
  have hMM := kq2.lt
  go_wp2_with fail
  go_region_held (fun w' => (w'.cell? ⟨(w.heap.size + 1), 0, none⟩ = some (.int .i64 c2_0) ∧ w'.cell? ⟨(w.heap.size + 1), 1, none⟩ = some (.int .i64 c2_1) ∧ w'.cell? ⟨(w.heap.size + 1), 2, none⟩ = some (.string c2_2) ∧ w'.cell? ⟨(w.heap.size + 1), 3, none⟩ = some (.slice c2_3 c2_4 c2_5) ∧ w'.cell? ⟨(w.heap.size + 1), 4, none⟩ = some (.slice c2_6 c2_7 c2_8)) ∧ w'.cell? ⟨w42.heap.size, 0, none⟩ = some (.int .i64 q2_0) ∧ w'.cell? ⟨w42.heap.size, 1, none⟩ = some (.int .i64 q2_1) ∧ w'.cell? ⟨w42.heap.size, 2, none⟩ = some (.string q2_2) ∧ w'.cell? ⟨w42.heap.size, 3, none⟩ = some (.slice q2_3 q2_4 q2_5) ∧ w'.cell? ⟨w42.heap.size, 4, none⟩ = some (.slice q2_6 q2_7 q2_8))
    (first | go_keep | exact ⟨k7.cell, m7.cell⟩ | exact ⟨k8.cell, m8.cell⟩)
    (first
      | (go_at_call 33; refine (toVal_any (a2 + 1) S2 t2 _ _ ?_ ?_).mono ?_; exact hv6.same (fun _ _ => rfl); exact hS6; rintro e7 w72 ⟨u7, rfl, hu7, hb7⟩; have k7 := k2.of_block (hb7.block _ hNN); have m7 := kq2.of_block (hb7.block _ hMM))
      | (go_at_call 35; refine (eqVal_any (a2 + 1) (Fresh w41 w42) (Fresh we.drew w72) t2 t2 _ _ _ ?_ ?_ ?_ ?_).mono ?_; exact (ValOwn.at _ _ _ _ hx2).same (fun b hb => hb7.block b (hWx2 b hb)); exact hu7; exact hWx2.later hb7.size; exact Fresh.within _ _; rintro e8 w82 ⟨rfl, hb8⟩; have k8 := k7.of_block (hb8.block _ k7.lt); have m8 := m7.of_block (hb8.block _ m7.lt)))
  rw [eqT_refl]
  have hb68 : Below we.heap.size we w82 := below_trans (show Below we.heap.size we w72 from ⟨hb7.os, hb7.tape, hb7.output, hb7.size, hb7.block⟩) hb8
  clear hb7 hb8 k7 m7 k8 m8 hu7 hv6 hS6 x00 x01 x02 x03 x04 x10 x11 x12 x13 x14 hNN hMM
  replace k0 := k0.below hb68
  replace k2 := k2.below hb68
  replace kp := kp.below hb68
  replace kq0 := kq0.below hb68
  replace kq2 := kq2.below hb68
  replace kr := kr.below hb68
  replace ha3 := ha3.same (hWa.same hb68)
  replace hx0 := hx0.same (hWx0.same hb68)
  replace hx1 := hx1.same (hWx1.same hb68)
  replace hx2 := hx2.same (hWx2.same hb68)
  replace hr := hr.same (hWr.same hb68)
  replace hWa := hWa.later hb68.size
  replace hWx0 := hWx0.later hb68.size
  replace hWx1 := hWx1.later hb68.size
  replace hWx2 := hWx2.later hb68.size
  replace hWr := hWr.later hb68.size
  have hB82 := below_trans hBe hb68
  have hz82 := hb68.size
  clear hb68 hBe
  -- marks into the copies
  obtain ⟨x00, x01, x02, x03, x04⟩ := kq0.cell
  go_wp2_with fail
  refine (markVal_any a0 (Fresh w3 w40) t0 _ 1 w82 hx0 hWx0 (Nat.le_refl _) (by omega)).mono ?_
  rintro e9 wm0 ⟨rfl, _, ht9⟩
  have hnx : ∀ b, b < w3.heap.size ∨ w40.heap.size ≤ b → ¬ Fresh w3 w40 b := fun b hb hf => by have := hf.1; have := hf.2; omega
  replace k0 := k0.of_block (ht9.block _ k0.lt (hnx _ (by omega)))
  replace k2 := k2.of_block (ht9.block _ k2.lt (hnx _ (by omega)))
  replace kp := kp.of_block (ht9.block _ kp.lt (hnx _ (by omega)))
  replace kq2 := kq2.of_block (ht9.block _ kq2.lt (hnx _ (by omega)))
  replace kr := kr.of_block (ht9.block _ kr.lt (hnx _ (by omega)))
  replace ha3 := ha3.same (ht9.same hWa (fun b hb => hnx b (by have := hb.1; have := hb.2; omega)))
  replace hx1 := hx1.same (ht9.same hWx1 (fun b hb => hnx b (by have := hb.1; have := hb.2; omega)))
  replace hx2 := hx2.same (ht9.same hWx2 (fun b hb => hnx b (by have := hb.1; have := hb.2; omega)))
  replace hr := hr.same (ht9.same hWr (fun b hb => hnx b (by have := hb.1; have := hb.2; omega)))
  replace hWa := hWa.later ht9.size
  replace hWx1 := hWx1.later ht9.size
  replace hWx2 := hWx2.later ht9.size
  replace hWr := hWr.later ht9.size
  have hBm0 := hB82.trans (ht9.below hB82.size (fun b hb => by have := hb.1; omega))
  have hz90 := ht9.size
  have hK1 : 1 ≤ (markTop a0 t0 1).2 ∧ (markTop a0 t0 1).2 ≤ 1 + wtT (a0 + 1) t0 := markTop_bd a0 t0 1
  generalize hK : (markTop a0 t0 1).2 = K8 at hK1 ⊢
  clear ht9 hB82 hx0 hWx0 x00 x01 x02 x03 x04 hK kq0 hnx
  go_wp2_with fail
  refine (markStepS_any (Fresh V0 w41) ps _ K8 wm0 hx1 hK1.1 (by omega)).mono ?_
  rintro e9 wm1 ⟨rfl, ht9⟩
  have hnx : ∀ b, b < V0.heap.size ∨ w41.heap.size ≤ b → ¬ Fresh V0 w41 b := fun b hb hf => by have := hf.1; have := hf.2; omega
  replace k0 := k0.of_block (ht9.block _ k0.lt (hnx _ (by omega)))
  replace k2 := k2.of_block (ht9.block _ k2.lt (hnx _ (by omega)))
  replace kp := kp.of_block (ht9.block _ kp.lt (hnx _ (by omega)))
  replace kq2 := kq2.of_block (ht9.block _ kq2.lt (hnx _ (by omega)))
  replace kr := kr.of_block (ht9.block _ kr.lt (hnx _ (by omega)))
  replace ha3 := ha3.same (ht9.same hWa (fun b hb => hnx b (by have := hb.1; have := hb.2; omega)))
  replace hx2 := hx2.same (ht9.same hWx2 (fun b hb => hnx b (by have := hb.1; have := hb.2; omega)))
  replace hr := hr.same (ht9.same hWr (fun b hb => hnx b (by have := hb.1; have := hb.2; omega)))
  replace hWa := hWa.later ht9.size
  replace hWx2 := hWx2.later ht9.size
  replace hWr := hWr.later ht9.size
  have hBm1 := hBm0.trans (ht9.below hBm0.size (fun b hb => by have := hb.1; omega))
  have hz91 := ht9.size
  clear ht9 hBm0 hx1 hWx1 hnx
  have hK3 : 1 ≤ K8 + 3 * ps.length ∧ K8 + 3 * ps.length ≤ 1 + wtT (a0 + 1) t0 + 3 * ps.length := ⟨by omega, by omega⟩
  generalize K8 + 3 * ps.length = K7 at hK3 ⊢
  clear hK1
  obtain ⟨x00, x01, x02, x03, x04⟩ := kq2.cell
  go_wp2_with fail
  refine (markVal_any a2 (Fresh w41 w42) t2 _ K7 wm1 hx2 hWx2 hK3.1 (by omega)).mono ?_
  rintro e9 wm2 ⟨rfl, _, ht9⟩
  have hnx : ∀ b, b < w41.heap.size ∨ w42.heap.size ≤ b → ¬ Fresh w41 w42 b := fun b hb hf => by have := hf.1; have := hf.2; omega
  replace k0 := k0.of_block (ht9.block _ k0.lt (hnx _ (by omega)))
  replace k2 := k2.of_block (ht9.block _ k2.lt (hnx _ (by omega)))
  replace kp := kp.of_block (ht9.block _ kp.lt (hnx _ (by omega)))
  replace kr := kr.of_block (ht9.block _ kr.lt (hnx _ (by omega)))
  replace ha3 := ha3.same (ht9.same hWa (fun b hb => hnx b (by have := hb.1; have := hb.2; omega)))
  replace hr := hr.same (ht9.same hWr (fun b hb => hnx b (by have := hb.1; have := hb.2; omega)))
  replace hWa := hWa.later ht9.size
  replace hWr := hWr.later ht9.size
  have hBm2 := hBm1.trans (ht9.below hBm1.size (fun b hb => by have := hb.1; omega))
  have hz92 := ht9.size
  have hK2 : K7 ≤ (markTop a2 t2 K7).2 ∧ (markTop a2 t2 K7).2 ≤ K7 + wtT (a2 + 1) t2 := markTop_bd a2 t2 K7
  generalize hK : (markTop a2 t2 K7).2 = K9 at hK2 ⊢
  clear ht9 hBm1 hx2 hWx2 x00 x01 x02 x03 x04 hK kq2 hnx
  have hk9 : ¬ (((K9 : Nat) : Int) < 0) := by omega
  obtain ⟨x00, x01, x02, x03, x04⟩ := kp.cell
  obtain ⟨x10, x11, x12, x13, x14⟩ := kr.cell
  go_wp2_with fail
  refine (eqVal_any (e + 1) (Fresh V2 w5) _ R.1 R.1 _ _ wm2 (ValOwn.at _ _ _ _ hr) ha3 hWr hWa).mono ?_
  rintro e10 w10 ⟨rfl, hb10⟩
  rw [eqT_refl]
  replace k0 := k0.below hb10
  replace k2 := k2.below hb10
  replace kp := kp.below hb10
  replace kr := kr.below hb10
  replace ha3 := ha3.same (hWa.same hb10)
  replace hr := hr.same (hWr.same hb10)
  replace hWa := hWa.later hb10.size
  replace hWr := hWr.later hb10.size
  have hB10 := below_trans hBm2 hb10
  have hz10 := hb10.size
  have hwr := wtT_ok hokT
  clear hb10 hBm2 x00 x01 x02 x03 x04 x10 x11 x12 x13 x14 hk9
  -- marks into the answer
  obtain ⟨x00, x01, x02, x03, x04⟩ := kr.cell
  go_wp2_with fail
  refine (markVal_one e (Fresh V2 w5) R.1 _ w10 hr hWr (by omega)).mono ?_
  rintro e11 w11 ⟨rfl, hr11, ht11⟩
  have hnr : ∀ b, b < V2.heap.size ∨ w5.heap.size ≤ b → ¬ Fresh V2 w5 b := fun b hb hf => by have := hf.1; have := hf.2; omega
  replace k0 := k0.of_block (ht11.block _ k0.lt (hnr _ (by omega)))
  replace k2 := k2.of_block (ht11.block _ k2.lt (hnr _ (by omega)))
  replace kp := kp.of_block (ht11.block _ kp.lt (hnr _ (by omega)))
  replace kr := kr.of_block (ht11.block _ kr.lt (hnr _ (by omega)))
  replace ha3 := ha3.same (ht11.same hWa (fun b hb => hnr b (by have := hb.2; omega)))
  replace hWa := hWa.later ht11.size
  replace hWr := hWr.later ht11.size
  have hB11 := hB10.trans (ht11.below hB10.size (fun b hb => by have := hb.1; omega))
  have hz11 := ht11.size
  have hrm := ValOwn.at _ _ _ _ hr11
  clear ht11 hB10 hr hr11 hnr x00 x01 x02 x03 x04
  obtain ⟨x00, x01, x02, x03, x04⟩ := kr.cell
  go_wp2_with fail
  refine (heldVal_one e (Fresh V2 w5) R.1 _ w11 hrm hWr (by omega)).mono ?_
  rintro e12 wz ⟨rfl, hb12⟩
  replace k0 := k0.below hb12
  replace k2 := k2.below hb12
  replace kp := kp.below hb12
  replace kr := kr.below hb12
  replace ha3 := ha3.same (hWa.same hb12)
  replace hrm := hrm.same (hWr.same hb12)
  replace hWa := hWa.later hb12.size
  replace hWr := hWr.later hb12.size
  have hB12 := below_trans hB11 hb12
  have hz12 := hb12.size
  have HM := hide (rfl : (markTop e R.1 1).2 = (markTop e R.1 1).2)
  have hk12 : ¬ (((((markTop e R.1 1).2 : Nat) : Int)) < 0) := by omega
  have hq12 : (((((markTop e R.1 1).2 : Nat) : Int)) != ((((markTop e R.1 1).2 : Nat) : Int))) = false := by simp
  clear hb12 hB11 x00 x01 x02 x03 x04
  -- the call once more
  clear HM
  have hDr : Below wz.heap.size wz wz.drew := ⟨rfl, rfl, rfl, Nat.le_refl _, fun _ _ => rfl⟩
  have HD := hide hDr
  go_upto_region 31 with fail
  go_cut [18, 19] (fun pv bv wc => ∃ b p0 p1 p2 p3 p4 p5 p6 p7 p8, pv = .pointer (some ⟨b, 0, none⟩) ∧ bv = .bool R.2 ∧ Hid (ToldIn e wz.heap.size b R.1 wz wc p0 p1 p2 p3 p4 p5 p6 p7 p8))
  case first =>
    have T0 : Hid (∀ W, Below wz.heap.size wz W → Calls Tryz.prog 33 #[.agg #[.int .i64 c0_0, .int .i64 c0_1, .string c0_2, .slice c0_3 c0_4 c0_5, .slice c0_6 c0_7 c0_8]] W fun e w' => ∃ u, e = .returned u ∧ ValAt (Fresh W w') w' (a0 + 1) t0 u ∧ Below W.heap.size W w') := fun W hW => toVal_any (a0 + 1) S0 t0 _ W (hv0.same (hS0.same (below_trans hB12 hW))) (hS0.later (below_trans hB12 hW).size)
    have T2 : Hid (∀ W, Below wz.heap.size wz W → Calls Tryz.prog 33 #[.agg #[.int .i64 c2_0, .int .i64 c2_1, .string c2_2, .slice c2_3 c2_4 c2_5, .slice c2_6 c2_7 c2_8]] W fun e w' => ∃ u, e = .returned u ∧ ValAt (Fresh W w') w' (a2 + 1) t2 u ∧ Below W.heap.size W w') := fun W hW => toVal_any (a2 + 1) S2 t2 _ W (hv2.same (hS2.same (below_trans hB12 hW))) (hS2.later (below_trans hB12 hW).size)
    have TP : Hid (∀ W, Below wz.heap.size wz W → Calls Tryz.prog 34 #[.slice pa ps.length pc] W fun e w' => ∃ u, e = .returned u ∧ StepsAt (Fresh W w') w' u ps ∧ Below W.heap.size W w' ∧ (∀ a n c, u = .slice a n c → n ≤ c)) := fun W hW => (toStepS_cap S1 ps _ W (hv1.same (hS1.same (below_trans hB12 hW))) (hS1.later (below_trans hB12 hW).size)).mono (fun _ _ ⟨u, h1, h2, h3, h4⟩ => ⟨u, h1, h2.at, h3, h4⟩)
    have KK : Hid (∀ W, Below wz.heap.size wz W → ((W.cell? ⟨w.heap.size, 0, none⟩ = some (.int .i64 c0_0) ∧ W.cell? ⟨w.heap.size, 1, none⟩ = some (.int .i64 c0_1) ∧ W.cell? ⟨w.heap.size, 2, none⟩ = some (.string c0_2) ∧ W.cell? ⟨w.heap.size, 3, none⟩ = some (.slice c0_3 c0_4 c0_5) ∧ W.cell? ⟨w.heap.size, 4, none⟩ = some (.slice c0_6 c0_7 c0_8)) ∧ W.cell? ⟨(w.heap.size + 1), 0, none⟩ = some (.int .i64 c2_0) ∧ W.cell? ⟨(w.heap.size + 1), 1, none⟩ = some (.int .i64 c2_1) ∧ W.cell? ⟨(w.heap.size + 1), 2, none⟩ = some (.string c2_2) ∧ W.cell? ⟨(w.heap.size + 1), 3, none⟩ = some (.slice c2_3 c2_4 c2_5) ∧ W.cell? ⟨(w.heap.size + 1), 4, none⟩ = some (.slice c2_6 c2_7 c2_8))) := fun W hW => ⟨(k0.below hW).cell, (k2.below hW).cell⟩
    have hDa := below_drew1 (below_alloc1 wz (.cells #[.int .i64 0, .int .i64 0, .string { data := #[] }, .slice none 0 0, .slice none 0 0] 26))
    have Hg := hide (hg.below hB12)
    clear hv0 hS0 k0 hwk0 hv2 hS2 k2 hwk2 hB12 hg hokT kp kr ha3 hWa hrm hWr hk12 hq12 hlt3
    go_region_held3 (fun w' => ((w'.cell? ⟨w.heap.size, 0, none⟩ = some (.int .i64 c0_0) ∧ w'.cell? ⟨w.heap.size, 1, none⟩ = some (.int .i64 c0_1) ∧ w'.cell? ⟨w.heap.size, 2, none⟩ = some (.string c0_2) ∧ w'.cell? ⟨w.heap.size, 3, none⟩ = some (.slice c0_3 c0_4 c0_5) ∧ w'.cell? ⟨w.heap.size, 4, none⟩ = some (.slice c0_6 c0_7 c0_8)) ∧ w'.cell? ⟨(w.heap.size + 1), 0, none⟩ = some (.int .i64 c2_0) ∧ w'.cell? ⟨(w.heap.size + 1), 1, none⟩ = some (.int .i64 c2_1) ∧ w'.cell? ⟨(w.heap.size + 1), 2, none⟩ = some (.string c2_2) ∧ w'.cell? ⟨(w.heap.size + 1), 3, none⟩ = some (.slice c2_3 c2_4 c2_5) ∧ w'.cell? ⟨(w.heap.size + 1), 4, none⟩ = some (.slice c2_6 c2_7 c2_8)))
      ((refine KK.out _ ?_; with_reducible assumption))
      (first
        | (go_at_call 34; refine (TP.out _ ?_).mono ?_; (first | exact HA.out | exact HAa.out); rintro eP wP ⟨uP, rfl, hP, hbP, hcP⟩; obtain ⟨ya, yc, rfl, _⟩ := hP.open'; have HAP : Hid (Below wA.heap.size wA wP) := (by first | exact hbP | exact below_trans (below_alloc1 _ _) hbP); have HP := hide (below_trans HA.out HAP.out); have HPa := hide (below_trans HP.out (below_alloc1 wP (.cells #[.int .i64 0, .int .i64 0, .string { data := #[] }, .slice none 0 0, .slice none 0 0] 26))); have bP := HP.out; have bPa := HPa.out; (first | have zP := zA.below HAP.out | with_reducible (have zP := (Blk5.new wA 26 (.int .i64 0) (.int .i64 0) (.string { data := #[] }) (.slice none 0 0) (.slice none 0 0)).below hbP) | skip); have HvP := hide hP; have HcP := hide hcP; clear hP hbP hcP)
        | (go_at_call 33; have hseen := HP; clear hseen; refine (T2.out _ ?_).mono ?_; (first | exact HP.out | exact HPa.out); rintro eB wB ⟨uB, rfl, hB, hbB⟩; have HPB : Hid (Below wP.heap.size wP wB) := (by first | exact hbB | exact below_trans (below_alloc1 _ _) hbB); have HAB := hide (below_trans HAP.out HPB.out); have HB := hide (below_trans HA.out HAB.out); have HBa := hide (below_trans HB.out (below_alloc1 wB (.cells #[.int .i64 0, .int .i64 0, .string { data := #[] }, .slice none 0 0, .slice none 0 0] 26))); have bB := HB.out; have bBa := HBa.out; have HSp : Hid (∀ W, Below wB.heap.size wB W → Calls Tryz.prog 10 #[uA, .slice ya ps.length yc, uB] W (TellQ e R.1 R.2 W)) := fun W hW => himpl.out _ _ _ _ _ _ W (HvA.out.same ((Fresh.within _ _).same (below_trans HAB.out hW))) ((Fresh.within _ _).later (below_trans HAB.out hW).size) (hB.same ((Fresh.within _ _).same hW)) ((Fresh.within _ _).later hW.size) (HvP.out.same ((Fresh.within _ _).same (below_trans HPB.out hW))) ((Fresh.within _ _).later (below_trans HPB.out hW).size) (Hg.out.below (below_trans HB.out hW)); (first | have zB := zP.below HPB.out | with_reducible (have zB := (Blk5.new wP 26 (.int .i64 0) (.int .i64 0) (.string { data := #[] }) (.slice none 0 0) (.slice none 0 0)).below hbB) | skip); clear hB hbB)
        | (go_at_call 33; refine (T0.out _ ?_).mono ?_; (first | exact hDr | exact hDa); rintro eA wA ⟨uA, rfl, hA, hbA⟩; have HA : Hid (Below wz.heap.size wz wA) := (by first | exact below_trans hDr hbA | exact below_trans hDa hbA); have HAa := hide (below_trans HA.out (below_alloc1 wA (.cells #[.int .i64 0, .int .i64 0, .string { data := #[] }, .slice none 0 0, .slice none 0 0] 26))); have bA := HA.out; have bAa := HAa.out; (first | with_reducible (have zA := Blk5.below (newDrew wz 26 (.int .i64 0) (.int .i64 0) (.string { data := #[] }) (.slice none 0 0) (.slice none 0 0)) hbA) | skip); have HvA := hide hA; clear hA hbA)
        | (go_at_call 10; refine Calls.mono (HSp.out _ ?_) ?_; (first | exact Below.refl _ _ | exact below_alloc1 _ _); rintro eC wC ⟨uC, rfl, hC, hbC⟩; obtain ⟨p0, p1, p2, p3, p4, p5, p6, p7, p8, rfl⟩ := (ValOwn.at _ _ _ _ hC).shape; have HBC : Hid (Below wB.heap.size wB wC) := (by first | exact hbC | exact below_trans (below_alloc1 _ _) hbC); have HC := hide (below_trans HB.out HBC.out); have bC := HC.out; have bCa := below_trans HC.out (below_alloc1 wC (.cells #[.int .i64 0, .int .i64 0, .string { data := #[] }, .slice none 0 0, .slice none 0 0] 26)); have bCp := below_trans HC.out (below_alloc1 wC (.cells #[.int .i64 p0, .int .i64 p1, .string p2, .slice p3 p4 p5, .slice p6 p7 p8] 26)); (first | have zC := zB.below HBC.out | with_reducible (have zC := (Blk5.new wB 26 (.int .i64 0) (.int .i64 0) (.string { data := #[] }) (.slice none 0 0) (.slice none 0 0)).below hbC) | skip); (first | (obtain ⟨y0, y1, y2, y3, y4⟩ := zC.cell; have yf := zC.frozen) | skip); (first | have bX := belowChain HC.out zC (Nat.le_refl _) (.int .i64 p0) (.int .i64 p1) (.string p2) (.slice p3 p4 p5) (.slice p6 p7 p8) | have bX := belowChain HC.out zC HA.out.size (.int .i64 p0) (.int .i64 p1) (.string p2) (.slice p3 p4 p5) (.slice p6 p7 p8) | have bX := belowChain HC.out zC HP.out.size (.int .i64 p0) (.int .i64 p1) (.string p2) (.slice p3 p4 p5) (.slice p6 p7 p8) | have bX := belowChain HC.out zC HB.out.size (.int .i64 p0) (.int .i64 p1) (.string p2) (.slice p3 p4 p5) (.slice p6 p7 p8) | skip); have HvC := hide hC; clear hC hbC))
    all_goals go_wp2_with fail
    all_goals go_meet
    · exact ⟨_, p0, p1, p2, p3, p4, p5, p6, p7, p8, rfl, rfl, told_new HC.out.size HC.out (ValOwn.at _ _ _ _ HvC.out) (fun x hx => ⟨Nat.le_trans HB.out.size hx.1, hx.2⟩)⟩
    · exact ⟨_, p0, p1, p2, p3, p4, p5, p6, p7, p8, rfl, rfl, told_set zC HB.out.size HC.out (ValOwn.at _ _ _ _ HvC.out) (fun x hx => ⟨by have := hx.1; have := HB.out.size; rw [World.size_alloc] at *; omega, hx.2, by have := hx.1; rw [World.size_alloc] at this; omega⟩)⟩
    · exact ⟨_, p0, p1, p2, p3, p4, p5, p6, p7, p8, rfl, rfl, told_set zC HP.out.size HC.out (ValOwn.at _ _ _ _ HvC.out) (fun x hx => ⟨Nat.le_trans HB.out.size hx.1, hx.2, by have := hx.1; have := zB.lt; omega⟩)⟩
    · exact ⟨_, p0, p1, p2, p3, p4, p5, p6, p7, p8, rfl, rfl, told_set zC HA.out.size HC.out (ValOwn.at _ _ _ _ HvC.out) (fun x hx => ⟨Nat.le_trans HB.out.size hx.1, hx.2, by have := hx.1; have := zP.lt; have := HPB.out.size; omega⟩)⟩
    · exact ⟨_, p0, p1, p2, p3, p4, p5, p6, p7, p8, rfl, rfl, told_set zC (Nat.le_refl _) HC.out (ValOwn.at _ _ _ _ HvC.out) (fun x hx => ⟨Nat.le_trans HB.out.size hx.1, hx.2, by have := hx.1; have := zA.lt; have := HAB.out.size; omega⟩)⟩
  case rest =>
  rename World => w14
  obtain ⟨b9, d0, d1, d2, d3, d4, d5, d6, d7, d8, rfl, rfl, hin⟩ := hcut
  have hb14 := hin.out.below
  have kd := hin.out.var
  have hhv := hin.out.val
  clear hin HD hDr
  have hWh : Within (fun x => wz.heap.size ≤ x ∧ x < w14.heap.size ∧ x ≠ b9) w14 := fun x hx => hx.2.1
  replace k0 := k0.below hb14
  replace k2 := k2.below hb14
  replace kp := kp.below hb14
  replace kr := kr.below hb14
  replace ha3 := ha3.same (hWa.same hb14)
  replace hrm := hrm.same (hWr.same hb14)
  replace hWa := hWa.later hb14.size
  replace hWr := hWr.later hb14.size
  have hB15 := below_trans hB12 hb14
  clear hb14 hB12
  obtain ⟨x10, x11, x12, x13, x14⟩ := kd.cell
  obtain ⟨x00, x01, x02, x03, x04⟩ := kp.cell
  go_wp2_with fail
  refine (eqVal_any (e + 1) _ _ R.1 R.1 _ _ _ hhv ha3 hWh hWa).mono ?_
  rintro e16 w16 ⟨rfl, hb16⟩
  rw [eqT_refl]
  replace k0 := k0.below hb16
  replace k2 := k2.below hb16
  replace kp := kp.below hb16
  replace kr := kr.below hb16
  replace ha3 := ha3.same (hWa.same hb16)
  replace hrm := hrm.same (hWr.same hb16)
  replace hWa := hWa.later hb16.size
  replace hWr := hWr.later hb16.size
  have hB16 := below_trans hB15 hb16
  clear hb16 hB15 x00 x01 x02 x03 x04 x10 x11 x12 x13 x14 kd hhv ha3 hWh hWa
  obtain ⟨x00, x01, x02, x03, x04⟩ := kr.cell
  go_wp2_with fail
  refine (heldVal_one e (Fresh V2 w5) R.1 _ w16 hrm hWr (by omega)).mono ?_
  rintro e17 w17 ⟨rfl, hb17⟩
  have HB := hide (below_trans hB16 hb17)
  clear hb17 hB16 x00 x01 x02 x03 x04 hrm hWr k0 k2 kp kr
  go_wp2_with fail
  go_ret
  exact ⟨rfl, HB.out⟩
end Go.Proofs.YtmibjmipndffmaaGreatDoor
