/- Texts of the proof, put together by program: LRowLeast. -/
import Derived.Test.YtilgbnnjecpneaaGreatDoorR20
import Derived.Test.YtilgbnnjecpneaaGreatDoorR28
import Derived.Test.YtilgbnnjecpneaaGreatDoorR29
import Derived.Test.YtilgbnnjecpneaaGreatDoorR15
import Derived.Deep.RegionHeld
/- FnExactRowLeast: for every argument that lies in memory the law answers true. -/
namespace Go.Proofs.YtilgbnnjecpneaaGreatDoor
open Go.RowKit Go.Deep

set_option maxRecDepth 100000 in
set_option maxHeartbeats 8000000 in
theorem lawRowLeast (d : Nat) (S : Nat → Prop) (t : Tr (d + 2)) (v : Value) (R : Tr (d + 1) × Bool) (w : World) (hv : ValAt S w (d + 2) t v) (hS : Within S w) (hg : ErrType w) (hokT : okT (d + 1) R.1 = true)
    (hspec : Hid (∀ (S : Nat → Prop) (v : Value) (w : World), ValAt S w (d + 2) t v → Within S w → (nodes (d + 2) t : Int) ≤ 4194304 → Calls Tryz.prog 18 #[v] w (SpecQ d R.1 R.2 w)))
    (himpl : Hid (∀ (S : Nat → Prop) (v : Value) (w : World), ValAt S w (d + 2) t v → Within S w → ErrType w → Calls Tryz.prog 19 #[v] w (TellQ d R.1 R.2 w))) :
    Calls Tryz.prog 5 #[v] w fun e w' => e = .returned (.bool true) ∧ Below w.heap.size w w' := by
  obtain ⟨k, n, s, ak, lk, ck, al, ll, cl, rfl⟩ := hv.shape
  have hA := below_alloc1 w (.cells #[.int .i64 k, .int .i64 n, .string s, .slice ak lk ck, .slice al ll cl] 25)
  have k0 := Blk5.new w 25 (.int .i64 k) (.int .i64 n) (.string s) (.slice ak lk ck) (.slice al ll cl)
  go_enter Tryz.func5, Tryz.ntmps5
  go_wp2_with fail
  refine (szVal_any (d + 2) S t _ 1048576 _ (hv.same (hS.same hA)) (hS.later hA.size) (by omega) (by omega)).mono ?_
  rintro e w1 ⟨rfl, hb1⟩
  replace k0 := k0.below hb1
  have hB1 := below_trans hA hb1
  clear hb1 hA
  by_cases hneg : szT (d + 2) t 1048576 < 0
  · clear k0
    go_wp2_with fail
    go_ret
    exact ⟨rfl, hB1⟩
  have hnodes := szT_nodes (d + 2) t 1048576 (by omega) (by omega)
  have hwt := szT_wt (d + 2) t 1048576 (by omega) (by omega)
  obtain ⟨x0, x1, x2, x3, x4⟩ := k0.cell
  go_wp2_with fail
  refine (toVal_any (d + 2) S t _ _ (hv.same (hS.same hB1)) (hS.later hB1.size)).mono ?_
  rintro e w2 ⟨u2, rfl, hu2, hb2⟩
  replace k0 := k0.below hb2
  have hB2 := below_trans hB1 hb2
  have k0l := k0.lt
  clear hb2 hB1 x0 x1 x2 x3 x4
  go_wp2_with fail
  refine Calls.mono (hspec.out _ _ _ hu2 (Fresh.within _ _) (by omega)) ?_
  rintro e w3 ⟨a3, rfl, ha3, hb3⟩
  obtain ⟨p0, p1, p2, p3, p4, p5, p6, p7, p8, rfl⟩ := ha3.shape
  replace k0 := k0.below hb3
  have hB3 := below_trans hB2 hb3
  have hs2 : w.heap.size < w2.heap.size := Nat.lt_of_lt_of_le k0l (Nat.le_refl _)
  have hs3 := hb3.size
  clear hb3 hB2 hu2
  obtain ⟨W3, hW3⟩ : ∃ W3, W3 = w3.alloc (.cells #[.int .i64 p0, .int .i64 p1, .string p2, .slice p3 p4 p5, .slice p6 p7 p8] 29) := ⟨_, rfl⟩
  have hA3 : Below w3.heap.size w3 W3 := by rw [hW3]; exact below_alloc1 _ _
  have kp : Blk5 W3 w3.heap.size 29 (.int .i64 p0) (.int .i64 p1) (.string p2) (.slice p3 p4 p5) (.slice p6 p7 p8) := by rw [hW3]; exact Blk5.new _ _ _ _ _ _ _
  have hz3 : W3.heap.size = w3.heap.size + 1 := by rw [hW3]; simp
  replace k0 := k0.below hA3
  have ha := ha3.same ((Fresh.within w2 w3).same hA3)
  have hB3' := below_trans hB3 hA3
  have hWa : Within (Fresh w2 w3) W3 := (Fresh.within w2 w3).later hA3.size
  have HW3 := hide hW3
  have HZ3 := hide hz3
  have hlt3 : w.heap.size < w3.heap.size := by
    have := k0.lt
    have := hz3
    have := hs2
    omega
  clear hW3 ha3 hB3 hA3 hz3
  have k0' := k0
  rw [HW3.out] at k0'
  obtain ⟨x0, x1, x2, x3, x4⟩ := k0'.cell
  clear k0'
  go_wp2_with fail
  rw [← HW3.out]
  refine (toVal_own (d + 2) S t _ W3 (hv.same (hS.same hB3')) (hS.later hB3'.size)).mono ?_
  rintro e w4 ⟨u4, rfl, hu4, hb4⟩
  obtain ⟨q0, q1, q2, q3, q4, q5, q6, q7, q8, rfl⟩ := (ValOwn.at _ _ _ _ hu4).shape
  replace k0 := k0.below hb4
  replace kp := kp.below hb4
  replace ha := ha.same (hWa.same hb4)
  have hB4 := below_trans hB3' hb4
  replace hWa := hWa.later hb4.size
  have hz34 := hb4.size
  obtain ⟨W4, hW4⟩ : ∃ W4, W4 = w4.alloc (.cells #[.int .i64 q0, .int .i64 q1, .string q2, .slice q3 q4 q5, .slice q6 q7 q8] 29) := ⟨_, rfl⟩
  have hA4 : Below w4.heap.size w4 W4 := by rw [hW4]; exact below_alloc1 _ _
  have kq : Blk5 W4 w4.heap.size 29 (.int .i64 q0) (.int .i64 q1) (.string q2) (.slice q3 q4 q5) (.slice q6 q7 q8) := by rw [hW4]; exact Blk5.new _ _ _ _ _ _ _
  have hz4 : W4.heap.size = w4.heap.size + 1 := by rw [hW4]; simp
  replace k0 := k0.below hA4
  replace kp := kp.below hA4
  replace ha := ha.same (hWa.same hA4)
  replace hWa := hWa.later hA4.size
  have hx := hu4.same ((Fresh.within W3 w4).same hA4)
  have hWx : Within (Fresh W3 w4) W4 := (Fresh.within W3 w4).later hA4.size
  have hB4' := below_trans hB4 hA4
  have HW4 := hide hW4
  have HZ4 := hide hz4
  clear hW4 hu4 hb4 hB4 hA4 hB3' x0 x1 x2 x3 x4 hz4 HW3
  go_wp2_with fail
  rw [← HW4.out]
  refine Calls.mono (himpl.out _ _ W4 (ValOwn.at _ _ _ _ hx) hWx (hg.below hB4')) ?_
  rintro e w5 ⟨g5, rfl, hg5, hb5⟩
  obtain ⟨r0, r1, r2, r3, r4, r5, r6, r7, r8, rfl⟩ := (ValOwn.at _ _ _ _ hg5).shape
  replace k0 := k0.below hb5
  replace kp := kp.below hb5
  replace kq := kq.below hb5
  replace ha := ha.same (hWa.same hb5)
  replace hx := hx.same (hWx.same hb5)
  have hB5 := below_trans hB4' hb5
  have hz45 := hb5.size
  obtain ⟨W5, hW5⟩ : ∃ W5, W5 = w5.alloc (.cells #[.int .i64 r0, .int .i64 r1, .string r2, .slice r3 r4 r5, .slice r6 r7 r8] 29) := ⟨_, rfl⟩
  have hA5 : Below w5.heap.size w5 W5 := by rw [hW5]; exact below_alloc1 _ _
  have kr : Blk5 W5 w5.heap.size 29 (.int .i64 r0) (.int .i64 r1) (.string r2) (.slice r3 r4 r5) (.slice r6 r7 r8) := by rw [hW5]; exact Blk5.new _ _ _ _ _ _ _
  have hz5 : W5.heap.size = w5.heap.size + 1 := by rw [hW5]; simp
  replace k0 := k0.below hA5
  replace kp := kp.below hA5
  replace kq := kq.below hA5
  have hb5' := below_trans hb5 hA5
  replace ha := ha.same ((hWa.later hb5.size).same hA5)
  replace hx := hx.same ((hWx.later hb5.size).same hA5)
  replace hWa := hWa.later hb5'.size
  replace hWx := hWx.later hb5'.size
  have hr := hg5.same ((Fresh.within W4 w5).same hA5)
  have hWr : Within (Fresh W4 w5) W5 := (Fresh.within W4 w5).later hA5.size
  have hB5' := below_trans hB5 hA5
  have HW5 := hide hW5
  have HZ5 := hide hz5
  clear hW5 hg5 hb5 hB5 hA5 hB4' hz5 HW4 hb5'
  have hz3 : w3.heap.size < W3.heap.size := by rw [HZ3.out]; omega
  have hz4 : w4.heap.size < W4.heap.size := by rw [HZ4.out]; omega
  have hz5 : w5.heap.size < W5.heap.size := by rw [HZ5.out]; omega
  have l1 : w.heap.size < w3.heap.size := hlt3
  clear HZ3 HZ4 HZ5
  -- what is held from here on: the argument, the model's answer, the variables
  have kp' := kp
  rw [HW5.out] at kp'
  obtain ⟨x0, x1, x2, x3, x4⟩ := kp'.cell
  clear kp'
  have hbb : (R.2 != R.2) = false := by simp
  go_wp2_with fail
  rw [← HW5.out]
  clear HW5
  refine (eqVal_any (d + 1) (Fresh W4 w5) (Fresh w2 w3) R.1 R.1 _ _ W5 (ValOwn.at _ _ _ _ hr) ha hWr hWa).mono ?_
  rintro e w6 ⟨rfl, hb6⟩
  rw [eqT_refl]
  replace k0 := k0.below hb6
  replace kp := kp.below hb6
  replace kq := kq.below hb6
  replace kr := kr.below hb6
  replace ha := ha.same (hWa.same hb6)
  replace hx := hx.same (hWx.same hb6)
  replace hr := hr.same (hWr.same hb6)
  replace hWa := hWa.later hb6.size
  replace hWx := hWx.later hb6.size
  replace hWr := hWr.later hb6.size
  have hB6 := below_trans hB5' hb6
  have hz6 := hb6.size
  clear hb6 hB5' x0 x1 x2 x3 x4
  have hv6 := hv.same (hS.same hB6)
  have hS6 := hS.later hB6.size
  obtain ⟨x0, x1, x2, x3, x4⟩ := k0.cell
  obtain ⟨y0, y1, y2, y3, y4⟩ := kq.cell
  have hNN := k0.lt
  have hMM := kq.lt
  go_wp2_with fail
  go_region_held (fun w' => (w'.cell? ⟨w.heap.size, 0, none⟩ = some (.int .i64 k) ∧ w'.cell? ⟨w.heap.size, 1, none⟩ = some (.int .i64 n) ∧ w'.cell? ⟨w.heap.size, 2, none⟩ = some (.string s) ∧ w'.cell? ⟨w.heap.size, 3, none⟩ = some (.slice ak lk ck) ∧ w'.cell? ⟨w.heap.size, 4, none⟩ = some (.slice al ll cl)) ∧ w'.cell? ⟨w4.heap.size, 0, none⟩ = some (.int .i64 q0) ∧ w'.cell? ⟨w4.heap.size, 1, none⟩ = some (.int .i64 q1) ∧ w'.cell? ⟨w4.heap.size, 2, none⟩ = some (.string q2) ∧ w'.cell? ⟨w4.heap.size, 3, none⟩ = some (.slice q3 q4 q5) ∧ w'.cell? ⟨w4.heap.size, 4, none⟩ = some (.slice q6 q7 q8))
    (first | go_keep | exact ⟨k7.cell, m7.cell⟩ | exact ⟨k8.cell, m8.cell⟩)
    (first
      | (go_at_call 11; refine (toVal_any (d + 2) S t _ _ ?_ ?_).mono ?_; exact hv6.same (fun _ _ => rfl); exact hS6; rintro e w7 ⟨u7, rfl, hu7, hb7⟩; have k7 := k0.of_block (hb7.block _ hNN); have m7 := kq.of_block (hb7.block _ hMM))
      | (go_at_call 13; refine (eqVal_any (d + 2) (Fresh W3 w4) (Fresh w6.drew w7) t t _ _ _ ?_ ?_ ?_ ?_).mono ?_; exact (ValOwn.at _ _ _ _ hx).same (fun b hb => hb7.block b (hWx b hb)); exact hu7; exact hWx.later hb7.size; exact Fresh.within _ _; rintro e w8 ⟨rfl, hb8⟩; have k8 := k7.of_block (hb8.block _ k7.lt); have m8 := m7.of_block (hb8.block _ m7.lt)))
  rw [eqT_refl]
  have hb68 : Below w6.heap.size w6 w8 := below_trans (show Below w6.heap.size w6 w7 from ⟨hb7.os, hb7.tape, hb7.output, hb7.size, hb7.block⟩) hb8
  clear hb7 hb8 k7 m7 k8 m8 hu7 hv6 hS6 x0 x1 x2 x3 x4 y0 y1 y2 y3 y4 hNN hMM
  replace k0 := k0.below hb68
  replace kp := kp.below hb68
  replace kq := kq.below hb68
  replace kr := kr.below hb68
  replace ha := ha.same (hWa.same hb68)
  replace hx := hx.same (hWx.same hb68)
  replace hr := hr.same (hWr.same hb68)
  replace hWa := hWa.later hb68.size
  replace hWx := hWx.later hb68.size
  replace hWr := hWr.later hb68.size
  have hB8 := below_trans hB6 hb68
  have hz8 := hb68.size
  clear hb68 hB6
  -- marks into the argument's copy
  obtain ⟨y0, y1, y2, y3, y4⟩ := kq.cell
  go_wp2_with fail
  have hwt' : (wtT (d + 1 + 1) t : Int) ≤ 3 + 3 * (1048576 - szT (d + 2) t 1048576) := hwt
  refine (markVal_one (d + 1) (Fresh W3 w4) t _ w8 hx hWx (by omega)).mono ?_
  rintro e w9 ⟨rfl, _, ht9⟩
  have hnx : ∀ b, b < W3.heap.size ∨ w4.heap.size ≤ b → ¬ Fresh W3 w4 b := fun b hb hf => by have := hf.1; have := hf.2; omega
  replace k0 := k0.of_block (ht9.block _ k0.lt (hnx _ (by omega)))
  replace kp := kp.of_block (ht9.block _ kp.lt (hnx _ (by omega)))
  replace kr := kr.of_block (ht9.block _ kr.lt (hnx _ (by omega)))
  replace ha := ha.same (ht9.same hWa (fun b hb => hnx b (by have := hb.2; omega)))
  replace hr := hr.same (ht9.same hWr (fun b hb => hnx b (by have := hb.1; omega)))
  replace hWa := hWa.later ht9.size
  replace hWr := hWr.later ht9.size
  have hB9 := hB8.trans (ht9.below hB8.size (fun b hb => by have := hb.1; omega))
  have hz9 := ht9.size
  generalize hK : (markTop (d + 1) t 1).2 = K9
  have hk9 : ¬ ((K9 : Int) < 0) := by omega
  clear ht9 hB8 hx hWx y0 y1 y2 y3 y4 hK kq hnx
  obtain ⟨x0, x1, x2, x3, x4⟩ := kp.cell
  obtain ⟨y0, y1, y2, y3, y4⟩ := kr.cell
  go_wp2_with fail
  refine (eqVal_any (d + 1) (Fresh W4 w5) (Fresh w2 w3) R.1 R.1 _ _ w9 (ValOwn.at _ _ _ _ hr) ha hWr hWa).mono ?_
  rintro e w10 ⟨rfl, hb10⟩
  rw [eqT_refl]
  replace k0 := k0.below hb10
  replace kp := kp.below hb10
  replace kr := kr.below hb10
  replace ha := ha.same (hWa.same hb10)
  replace hr := hr.same (hWr.same hb10)
  replace hWa := hWa.later hb10.size
  replace hWr := hWr.later hb10.size
  have hB10 := below_trans hB9 hb10
  have hz10 := hb10.size
  have hwr := wtT_ok hokT
  clear hb10 hB9 x0 x1 x2 x3 x4 y0 y1 y2 y3 y4 hk9
  -- marks into the answer
  obtain ⟨y0, y1, y2, y3, y4⟩ := kr.cell
  go_wp2_with fail
  refine (markVal_one d (Fresh W4 w5) R.1 _ w10 hr hWr (by omega)).mono ?_
  rintro e w11 ⟨rfl, hr11, ht11⟩
  have hnr : ∀ b, b < W4.heap.size ∨ w5.heap.size ≤ b → ¬ Fresh W4 w5 b := fun b hb hf => by have := hf.1; have := hf.2; omega
  replace k0 := k0.of_block (ht11.block _ k0.lt (hnr _ (by omega)))
  replace kp := kp.of_block (ht11.block _ kp.lt (hnr _ (by omega)))
  replace kr := kr.of_block (ht11.block _ kr.lt (hnr _ (by omega)))
  replace ha := ha.same (ht11.same hWa (fun b hb => hnr b (by have := hb.2; omega)))
  replace hWa := hWa.later ht11.size
  replace hWr := hWr.later ht11.size
  have hB11 := hB10.trans (ht11.below hB10.size (fun b hb => by have := hb.1; omega))
  have hz11 := ht11.size
  have hrm := ValOwn.at _ _ _ _ hr11
  clear ht11 hB10 hr hr11 hnr y0 y1 y2 y3 y4
  obtain ⟨y0, y1, y2, y3, y4⟩ := kr.cell
  go_wp2_with fail
  refine (heldVal_one d (Fresh W4 w5) R.1 _ w11 hrm hWr (by omega)).mono ?_
  rintro e w12 ⟨rfl, hb12⟩
  replace k0 := k0.below hb12
  replace kp := kp.below hb12
  replace kr := kr.below hb12
  replace ha := ha.same (hWa.same hb12)
  replace hrm := hrm.same (hWr.same hb12)
  replace hWa := hWa.later hb12.size
  replace hWr := hWr.later hb12.size
  have hB12 := below_trans hB11 hb12
  have hz12 := hb12.size
  have HM := hide (rfl : (markTop d R.1 1).2 = (markTop d R.1 1).2)
  have hk12 : ¬ (((((markTop d R.1 1).2 : Nat) : Int)) < 0) := by omega
  have hq12 : (((((markTop d R.1 1).2 : Nat) : Int)) != ((((markTop d R.1 1).2 : Nat) : Int))) = false := by simp
  clear hb12 hB11 y0 y1 y2 y3 y4
  -- the call once more
  obtain ⟨x0, x1, x2, x3, x4⟩ := k0.cell
  go_wp2_with fail
  refine (toVal_any (d + 2) S t _ _ (hv.same (hS.same hB12)) (hS.later hB12.size)).mono ?_
  rintro e w13 ⟨u13, rfl, hu13, hb13⟩
  replace k0 := k0.below hb13
  replace kp := kp.below hb13
  replace kr := kr.below hb13
  replace ha := ha.same (hWa.same hb13)
  replace hrm := hrm.same (hWr.same hb13)
  replace hWa := hWa.later hb13.size
  replace hWr := hWr.later hb13.size
  have hB13 := below_trans hB12 hb13
  clear hb13 hB12 x0 x1 x2 x3 x4
  go_wp2_with fail
  refine Calls.mono (himpl.out _ _ _ hu13 (Fresh.within _ _) (hg.below hB13)) ?_
  rintro e w14 ⟨h14, rfl, hh14, hb14⟩
  obtain ⟨b0, b1, b2, b3, b4, b5, b6, b7, b8, rfl⟩ := (ValOwn.at _ _ _ _ hh14).shape
  replace k0 := k0.below hb14
  replace kp := kp.below hb14
  replace kr := kr.below hb14
  replace ha := ha.same (hWa.same hb14)
  replace hrm := hrm.same (hWr.same hb14)
  replace hWa := hWa.later hb14.size
  replace hWr := hWr.later hb14.size
  have hB14 := below_trans hB13 hb14
  clear hb14 hB13 hu13
  have hA := below_alloc1 w14 (.cells #[.int .i64 b0, .int .i64 b1, .string b2, .slice b3 b4 b5, .slice b6 b7 b8] 29)
  replace k0 := k0.below hA
  replace kp := kp.below hA
  replace kr := kr.below hA
  replace ha := ha.same (hWa.same hA)
  replace hrm := hrm.same (hWr.same hA)
  have hhv := (ValOwn.at _ _ _ _ hh14).same ((Fresh.within w13 w14).same hA)
  have hWh : Within (Fresh w13 w14) _ := (Fresh.within w13 w14).later hA.size
  replace hWa := hWa.later hA.size
  replace hWr := hWr.later hA.size
  have hB15 := below_trans hB14 hA
  clear hB14 hA hh14
  obtain ⟨x0, x1, x2, x3, x4⟩ := kp.cell
  go_wp2_with fail
  refine (eqVal_any (d + 1) (Fresh w13 w14) (Fresh w2 w3) R.1 R.1 _ _ _ hhv ha hWh hWa).mono ?_
  rintro e w16 ⟨rfl, hb16⟩
  rw [eqT_refl]
  replace k0 := k0.below hb16
  replace kp := kp.below hb16
  replace kr := kr.below hb16
  replace hrm := hrm.same (hWr.same hb16)
  replace hWr := hWr.later hb16.size
  have hB16 := below_trans hB15 hb16
  clear hb16 hB15 x0 x1 x2 x3 x4 hhv ha hWh hWa
  obtain ⟨y0, y1, y2, y3, y4⟩ := kr.cell
  go_wp2_with fail
  refine (heldVal_one d (Fresh W4 w5) R.1 _ w16 hrm hWr (by omega)).mono ?_
  rintro e w17 ⟨rfl, hb17⟩
  have HB := hide (below_trans hB16 hb17)
  clear hb17 hB16 y0 y1 y2 y3 y4 hrm hWr k0 kp kr
  go_wp2_with fail
  go_ret
  exact ⟨rfl, HB.out⟩
end Go.Proofs.YtilgbnnjecpneaaGreatDoor
