/- FnExactPartEach: for every argument that lies in memory the law answers true. -/
import Derived.Test.YtchekmjdmjhniaaDoorWEachI
import Derived.Test.YtchekmjdmjhniaaDoorWToO
import Derived.Test.YtchekmjdmjhniaaDoorWOne
import Derived.Test.YtchekmjdmjhniaaDoorWEq
import Derived.Deep.RegionHeld
namespace Go.Proofs.YtchekmjdmjhniaaDoor
open Go.RowKit Go.Deep

theorem eqLT_refl (d : Nat) (xs : List (Tr d)) : eqL (eqT d) xs xs = true := eqL_refl (eqT_refl d) xs
theorem markValS_one (d : Nat) (S : Nat → Prop) (xs : List (Tr d)) (v : Value) (w : World) (hv : RowOwn w (fun P x u => ValOwn w d P x u) S v xs) (hS : Within S w) (h1 : 1 + (xs.map (wtT d)).sum ≤ 1099511627776) :
    Calls Tryd.prog 12 #[v, .int .i64 1] w fun e w' => e = .returned (.int .i64 (((markL (markT d) xs 1).2 : Nat) : Int)) ∧ RowOwn w' (fun P x u => ValOwn w' d P x u) S v (markL (markT d) xs 1).1 ∧ Turn S w w' :=
  markValS_any d S xs v 1 w hv hS (Nat.le_refl _) h1
theorem heldValS_one (d : Nat) (S : Nat → Prop) (xs : List (Tr d)) (v : Value) (w : World) (hv : RowAt S w (ValAt S w d) v (markL (markT d) xs 1).1) (hS : Within S w) (h1 : 1 + (xs.map (wtT d)).sum ≤ 1099511627776) :
    Calls Tryd.prog 13 #[v, .int .i64 1] w fun e w' => e = .returned (.int .i64 (((markL (markT d) xs 1).2 : Nat) : Int)) ∧ Below w.heap.size w w' :=
  heldValS_any d S xs v 1 w hv hS (Nat.le_refl _) h1

set_option maxRecDepth 100000 in
set_option maxHeartbeats 8000000 in
theorem lawPartEach (d : Nat) (S : Nat → Prop) (t : Tr (d + 1)) (v : Value) (R : List (Tr d) × Bool) (w : World) (hv : ValAt S w (d + 1) t v) (hS : Within S w) (hg : ErrType w) (hwr : (R.1.map (wtT d)).sum ≤ 4194304)
    (hspec : Hid (∀ (S : Nat → Prop) (v : Value) (w : World), ValAt S w (d + 1) t v → Within S w → (nodes (d + 1) t : Int) ≤ 4194304 → Calls Tryd.prog 6 #[v] w (SpecRQ d R.1 R.2 w)))
    (himpl : Hid (∀ (S : Nat → Prop) (v : Value) (w : World), ValAt S w (d + 1) t v → Within S w → ErrType w → Calls Tryd.prog 8 #[v] w (TellRQ d R.1 R.2 w))) :
    Calls Tryd.prog 3 #[v] w fun e w' => e = .returned (.bool true) ∧ Below w.heap.size w w' := by
  obtain ⟨k, n, s, ak, lk, ck, al, ll, cl, rfl⟩ := hv.shape
  have hA := below_alloc1 w (.cells #[.int .i64 k, .int .i64 n, .string s, .slice ak lk ck, .slice al ll cl] 25)
  have k0 := Blk5.new w 25 (.int .i64 k) (.int .i64 n) (.string s) (.slice ak lk ck) (.slice al ll cl)
  go_enter Tryd.func3, Tryd.ntmps3
  go_wp2_with fail
  refine (szVal_any (d + 1) S t _ 1048576 _ (hv.same (hS.same hA)) (hS.later hA.size) (by omega) (by omega)).mono ?_
  rintro e w1 ⟨rfl, hb1⟩
  replace k0 := k0.below hb1
  have hB1 := below_trans hA hb1
  clear hb1 hA
  by_cases hneg : szT (d + 1) t 1048576 < 0
  · clear k0
    go_wp2_with fail
    go_ret
    exact ⟨rfl, hB1⟩
  have hnodes := szT_nodes (d + 1) t 1048576 (by omega) (by omega)
  have hwt := szT_wt (d + 1) t 1048576 (by omega) (by omega)
  obtain ⟨x0, x1, x2, x3, x4⟩ := k0.cell
  go_wp2_with fail
  refine (toVal_any (d + 1) S t _ _ (hv.same (hS.same hB1)) (hS.later hB1.size)).mono ?_
  rintro e w2 ⟨u2, rfl, hu2, hb2⟩
  replace k0 := k0.below hb2
  have hB2 := below_trans hB1 hb2
  have hlt2 := k0.lt
  clear hb2 hB1 x0 x1 x2 x3 x4
  go_wp2_with fail
  refine Calls.mono (hspec.out _ _ _ hu2 (Fresh.within _ _) (by omega)) ?_
  rintro e w3 ⟨a3, rfl, ha, hb3⟩
  obtain ⟨pa, pc, rfl, _⟩ := ha.open'
  replace k0 := k0.below hb3
  have hB3 := below_trans hB2 hb3
  have hz23 := hb3.size
  have hWa := Fresh.within w2 w3
  clear hb3 hB2 hu2
  obtain ⟨x0, x1, x2, x3, x4⟩ := k0.cell
  go_wp2_with fail
  refine (toVal_own (d + 1) S t _ w3 (hv.same (hS.same hB3)) (hS.later hB3.size)).mono ?_
  rintro e w4 ⟨u4, rfl, hu4, hb4⟩
  obtain ⟨q0, q1, q2, q3, q4, q5, q6, q7, q8, rfl⟩ := (ValOwn.at _ _ _ _ hu4).shape
  replace k0 := k0.below hb4
  replace ha := ha.same (hWa.same hb4)
  have hB4 := below_trans hB3 hb4
  replace hWa := hWa.later hb4.size
  have hz34 := hb4.size
  obtain ⟨W4, hW4⟩ : ∃ W4, W4 = w4.alloc (.cells #[.int .i64 q0, .int .i64 q1, .string q2, .slice q3 q4 q5, .slice q6 q7 q8] 31) := ⟨_, rfl⟩
  have hA4 : Below w4.heap.size w4 W4 := by rw [hW4]; exact below_alloc1 _ _
  have kq : Blk5 W4 w4.heap.size 31 (.int .i64 q0) (.int .i64 q1) (.string q2) (.slice q3 q4 q5) (.slice q6 q7 q8) := by rw [hW4]; exact Blk5.new _ _ _ _ _ _ _
  have hz4 : W4.heap.size = w4.heap.size + 1 := by rw [hW4]; simp
  replace k0 := k0.below hA4
  replace ha := ha.same (hWa.same hA4)
  replace hWa := hWa.later hA4.size
  have hx := hu4.same ((Fresh.within w3 w4).same hA4)
  have hWx : Within (Fresh w3 w4) W4 := (Fresh.within w3 w4).later hA4.size
  have hB4' := below_trans hB4 hA4
  have HW4 := hide hW4
  have HZ4 := hide hz4
  clear hW4 hu4 hb4 hB4 hA4 hB3 x0 x1 x2 x3 x4 hz4
  go_wp2_with fail
  rw [← HW4.out]
  refine Calls.mono (himpl.out _ _ W4 (ValOwn.at _ _ _ _ hx) hWx (hg.below hB4')) ?_
  rintro e w5 ⟨g5, rfl, hr, hb5⟩
  obtain ⟨ra, rc, rfl, _⟩ := (rowOwn_at hr).open'
  replace k0 := k0.below hb5
  replace kq := kq.below hb5
  replace ha := ha.same (hWa.same hb5)
  replace hx := hx.same (hWx.same hb5)
  have hB5 := below_trans hB4' hb5
  have hz45 := hb5.size
  replace hWa := hWa.later hb5.size
  replace hWx := hWx.later hb5.size
  have hWr := Fresh.within W4 w5
  have hz4 : w4.heap.size < W4.heap.size := by rw [HZ4.out]; omega
  clear hb5 hB4' HW4 HZ4
  have hbb : (R.2 != R.2) = false := by simp
  go_wp2_with fail
  refine (eqValS_any d (eqVal_any d) (Fresh W4 w5) (Fresh w2 w3) R.1 R.1 _ _ w5 (rowOwn_at hr) ha hWr hWa).mono ?_
  rintro e w6 ⟨rfl, hb6⟩
  rw [eqLT_refl]
  replace k0 := k0.below hb6
  replace kq := kq.below hb6
  replace ha := ha.same (hWa.same hb6)
  replace hx := hx.same (hWx.same hb6)
  replace hr := hr.same (hWr.same hb6)
  replace hWa := hWa.later hb6.size
  replace hWx := hWx.later hb6.size
  replace hWr := hWr.later hb6.size
  have hB6 := below_trans hB5 hb6
  have hz6 := hb6.size
  clear hb6 hB5
  have hv6 := hv.same (hS.same hB6)
  have hS6 := hS.later hB6.size
  obtain ⟨x0, x1, x2, x3, x4⟩ := k0.cell
  obtain ⟨y0, y1, y2, y3, y4⟩ := kq.cell
  have hNN := k0.lt
  have hMM := kq.lt
  go_wp2_with fail
  go_region_held (fun w' => (w'.cell? ⟨w.heap.size, 0, none⟩ = some (.int .i64 k) ∧ w'.cell? ⟨w.heap.size, 1, none⟩ = some (.int .i64 n) ∧ w'.cell? ⟨w.heap.size, 2, none⟩ = some (.string s) ∧ w'.cell? ⟨w.heap.size, 3, none⟩ = some (.slice ak lk ck) ∧ w'.cell? ⟨w.heap.size, 4, none⟩ = some (.slice al ll cl)) ∧ w'.cell? ⟨w4.heap.size, 0, none⟩ = some (.int .i64 q0) ∧ w'.cell? ⟨w4.heap.size, 1, none⟩ = some (.int .i64 q1) ∧ w'.cell? ⟨w4.heap.size, 2, none⟩ = some (.string q2) ∧ w'.cell? ⟨w4.heap.size, 3, none⟩ = some (.slice q3 q4 q5) ∧ w'.cell? ⟨w4.heap.size, 4, none⟩ = some (.slice q6 q7 q8))
    (first | go_keep | exact ⟨k7.cell, m7.cell⟩ | exact ⟨k8.cell, m8.cell⟩)
    (first
      | (go_at_call 7; refine (toVal_any (d + 1) S t _ _ ?_ ?_).mono ?_; exact hv6.same (fun _ _ => rfl); exact hS6; rintro e w7 ⟨u7, rfl, hu7, hb7⟩; have k7 := k0.of_block (hb7.block _ hNN); have m7 := kq.of_block (hb7.block _ hMM))
      | (go_at_call 10; refine (eqVal_any (d + 1) (Fresh w3 w4) (Fresh w6.drew w7) t t _ _ _ ?_ ?_ ?_ ?_).mono ?_; exact (ValOwn.at _ _ _ _ hx).same (fun b hb => hb7.block b (hWx b hb)); exact hu7; exact hWx.later hb7.size; exact Fresh.within _ _; rintro e w8 ⟨rfl, hb8⟩; have k8 := k7.of_block (hb8.block _ k7.lt); have m8 := m7.of_block (hb8.block _ m7.lt)))
  rw [eqT_refl]
  have hb68 : Below w6.heap.size w6 w8 := below_trans (show Below w6.heap.size w6 w7 from ⟨hb7.os, hb7.tape, hb7.output, hb7.size, hb7.block⟩) hb8
  clear hb7 hb8 k7 m7 k8 m8 hu7 hv6 hS6 x0 x1 x2 x3 x4 y0 y1 y2 y3 y4 hNN hMM
  replace k0 := k0.below hb68
  replace kq := kq.below hb68
  replace ha := ha.same (hWa.same hb68)
  replace hx := hx.same (hWx.same hb68)
  replace hr := hr.same (hWr.same hb68)
  replace hWa := hWa.later hb68.size
  replace hWx := hWx.later hb68.size
  replace hWr := hWr.later hb68.size
  have hB8 := below_trans hB6 hb68
  have hz8 := hb68.size
  clear hb68 hB6
  obtain ⟨y0, y1, y2, y3, y4⟩ := kq.cell
  go_wp2_with fail
  refine (markVal_one (d) (Fresh w3 w4) t _ w8 hx hWx (by omega)).mono ?_
  rintro e w9 ⟨rfl, _, ht9⟩
  have hnx : ∀ b, b < w3.heap.size ∨ w4.heap.size ≤ b → ¬ Fresh w3 w4 b := fun b hb hf => by have := hf.1; have := hf.2; omega
  replace k0 := k0.of_block (ht9.block _ k0.lt (hnx _ (by omega)))
  replace ha := ha.same (ht9.same hWa (fun b hb => hnx b (by have := hb.2; omega)))
  replace hr := hr.same (ht9.same hWr (fun b hb => hnx b (by have := hb.1; omega)))
  replace hWa := hWa.later ht9.size
  replace hWr := hWr.later ht9.size
  have hB9 := hB8.trans (ht9.below hB8.size (fun b hb => by have := hb.1; omega))
  have hz9 := ht9.size
  generalize hK : (markTop (d) t 1).2 = K9
  have hk9 : ¬ ((K9 : Int) < 0) := by omega
  clear ht9 hB8 hx hWx y0 y1 y2 y3 y4 hK kq hnx
  go_wp2_with fail
  refine (eqValS_any d (eqVal_any d) (Fresh W4 w5) (Fresh w2 w3) R.1 R.1 _ _ w9 (rowOwn_at hr) ha hWr hWa).mono ?_
  rintro e w10 ⟨rfl, hb10⟩
  rw [eqLT_refl]
  replace k0 := k0.below hb10
  replace ha := ha.same (hWa.same hb10)
  replace hr := hr.same (hWr.same hb10)
  replace hWa := hWa.later hb10.size
  replace hWr := hWr.later hb10.size
  have hB10 := below_trans hB9 hb10
  have hz10 := hb10.size
  clear hb10 hB9 hk9
  go_wp2_with fail
  refine (markValS_one d (Fresh W4 w5) R.1 _ w10 hr hWr (by omega)).mono ?_
  rintro e w11 ⟨rfl, hr11, ht11⟩
  have hnr : ∀ b, b < W4.heap.size ∨ w5.heap.size ≤ b → ¬ Fresh W4 w5 b := fun b hb hf => by have := hf.1; have := hf.2; omega
  replace k0 := k0.of_block (ht11.block _ k0.lt (hnr _ (by omega)))
  replace ha := ha.same (ht11.same hWa (fun b hb => hnr b (by have := hb.2; omega)))
  replace hWa := hWa.later ht11.size
  replace hWr := hWr.later ht11.size
  have hB11 := hB10.trans (ht11.below hB10.size (fun b hb => by have := hb.1; omega))
  have hz11 := ht11.size
  have hrm := rowOwn_at hr11
  clear ht11 hB10 hr hr11 hnr
  go_wp2_with fail
  refine (heldValS_one d (Fresh W4 w5) R.1 _ w11 hrm hWr (by omega)).mono ?_
  rintro e w12 ⟨rfl, hb12⟩
  replace k0 := k0.below hb12
  replace ha := ha.same (hWa.same hb12)
  replace hrm := hrm.same (hWr.same hb12)
  replace hWa := hWa.later hb12.size
  replace hWr := hWr.later hb12.size
  have hB12 := below_trans hB11 hb12
  have hk12 : ¬ (((((markL (markT d) R.1 1).2 : Nat) : Int)) < 0) := by omega
  have hq12 : (((((markL (markT d) R.1 1).2 : Nat) : Int)) != ((((markL (markT d) R.1 1).2 : Nat) : Int))) = false := by simp
  clear hb12 hB11
  obtain ⟨x0, x1, x2, x3, x4⟩ := k0.cell
  go_wp2_with fail
  refine (toVal_any (d + 1) S t _ _ (hv.same (hS.same hB12)) (hS.later hB12.size)).mono ?_
  rintro e w13 ⟨u13, rfl, hu13, hb13⟩
  replace ha := ha.same (hWa.same hb13)
  replace hrm := hrm.same (hWr.same hb13)
  replace hWa := hWa.later hb13.size
  replace hWr := hWr.later hb13.size
  have hB13 := below_trans hB12 hb13
  clear hb13 hB12 x0 x1 x2 x3 x4 k0
  go_wp2_with fail
  refine Calls.mono (himpl.out _ _ _ hu13 (Fresh.within _ _) (hg.below hB13)) ?_
  rintro e w14 ⟨h14, rfl, hh14, hb14⟩
  obtain ⟨sa, sc, rfl, _⟩ := (rowOwn_at hh14).open'
  replace ha := ha.same (hWa.same hb14)
  replace hrm := hrm.same (hWr.same hb14)
  replace hWa := hWa.later hb14.size
  replace hWr := hWr.later hb14.size
  have hB14 := below_trans hB13 hb14
  clear hb14 hB13 hu13
  go_wp2_with fail
  refine (eqValS_any d (eqVal_any d) (Fresh w13 w14) (Fresh w2 w3) R.1 R.1 _ _ w14 (rowOwn_at hh14) ha (Fresh.within _ _) hWa).mono ?_
  rintro e w16 ⟨rfl, hb16⟩
  rw [eqLT_refl]
  replace hrm := hrm.same (hWr.same hb16)
  replace hWr := hWr.later hb16.size
  have hB16 := below_trans hB14 hb16
  clear hb16 hB14 hh14 ha hWa
  go_wp2_with fail
  refine (heldValS_one d (Fresh W4 w5) R.1 _ w16 hrm hWr (by omega)).mono ?_
  rintro e w17 ⟨rfl, hb17⟩
  have HB := hide (below_trans hB16 hb17)
  clear hb17 hB16 hrm hWr
  go_wp2_with fail
  go_ret
  exact ⟨rfl, HB.out⟩
theorem wt_each (d : Nat) (t : Tr (d + 1)) : ((eachT d t).1.map (wtT d)).sum ≤ 4194304 := by
  unfold eachT
  split
  · rename_i h
    have h1 := wtT_ok h.1
    have h2 : wtT (d + 1) t = 3 + (Nd.keys t).length + ((Nd.list t).map (wtT d)).sum := rfl
    show ((Nd.list t).map (wtT d)).sum ≤ _
    omega
  · simp
end Go.Proofs.YtchekmjdmjhniaaDoor
