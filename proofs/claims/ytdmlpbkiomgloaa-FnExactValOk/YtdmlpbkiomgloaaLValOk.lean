/- FnExactValOk: for every tree that lies in memory the law answers true. -/
import Derived.Test.YtdmlpbkiomgloaaWImplE
import Derived.Test.YtdmlpbkiomgloaaPureOk
import Derived.Deep.RegionHeld
namespace Go.Proofs.Ytdmlpbkiomgloaa
open Go.RowKit Go.Deep

set_option maxRecDepth 100000 in
set_option maxHeartbeats 4000000 in
theorem lawValOk (d : Nat) (S : Nat → Prop) (t : Tr d) (v : Value) (w : World) (hv : ValAt S w d t v) (hS : Within S w) :
    Calls Try.prog 3 #[v] w fun e w' => e = .returned (.bool true) ∧ Below w.heap.size w w' := by
  obtain ⟨k, n, s, ak, lk, ck, al, ll, cl, rfl⟩ := hv.shape
  have hA := below_alloc1 w (.cells #[.int .i64 k, .int .i64 n, .string s, .slice ak lk ck, .slice al ll cl] 25)
  have k0 := Blk5.new w 25 (.int .i64 k) (.int .i64 n) (.string s) (.slice ak lk ck) (.slice al ll cl)
  go_enter Try.func3, Try.ntmps3
  go_wp2_with fail
  refine (szVal_any d S t _ 1048576 _ (hv.same (hS.same hA)) (hS.later hA.size) (by omega) (by omega)).mono ?_
  rintro e w1 ⟨rfl, hb1⟩
  replace k0 := k0.below hb1
  have hB1 := below_trans hA hb1
  clear hb1 hA
  by_cases hneg : szT d t 1048576 < 0
  · clear k0
    go_wp2_with fail
    go_ret
    exact ⟨rfl, hB1⟩
  have hnodes := szT_nodes d t 1048576 (by omega) (by omega)
  obtain ⟨x0, x1, x2, x3, x4⟩ := k0.cell
  go_wp2_with fail
  refine (toVal_any d S t _ _ (hv.same (hS.same hB1)) (hS.later hB1.size)).mono ?_
  rintro e w2 ⟨u2, rfl, hu2, hb2⟩
  replace k0 := k0.below hb2
  have hB2 := below_trans hB1 hb2
  clear hb2 hB1 x0 x1 x2 x3 x4
  go_wp2_with fail
  refine (specValOk_any d _ t _ _ hu2 (Fresh.within _ _) (by omega)).mono ?_
  rintro e w3 ⟨rfl, hb3⟩
  replace k0 := k0.below hb3
  have hB3 := below_trans hB2 hb3
  clear hb3 hB2 hu2
  obtain ⟨x0, x1, x2, x3, x4⟩ := k0.cell
  go_wp2_with fail
  refine (toVal_any d S t _ _ (hv.same (hS.same hB3)) (hS.later hB3.size)).mono ?_
  rintro e w4 ⟨u4, rfl, hu4, hb4⟩
  replace k0 := k0.below hb4
  have hB4 := below_trans hB3 hb4
  clear hb4 hB3 x0 x1 x2 x3 x4
  obtain ⟨k', n', s', ak', lk', ck', al', ll', cl', rfl⟩ := hu4.shape
  have hA5 := below_alloc1 w4 (.cells #[.int .i64 k', .int .i64 n', .string s', .slice ak' lk' ck', .slice al' ll' cl'] 30)
  have m0 := Blk5.new w4 30 (.int .i64 k') (.int .i64 n') (.string s') (.slice ak' lk' ck') (.slice al' ll' cl')
  replace k0 := k0.below hA5
  have hB5 := below_trans hB4 hA5
  have hW4 := Fresh.within w3 w4
  have hu5 := hu4.same (hW4.same hA5)
  have hW5 := hW4.later hA5.size
  clear hA5 hB4 hu4 hW4
  go_wp2_with fail
  refine (implValOk_any d _ t _ _ hu5 hW5).mono ?_
  rintro e w6 ⟨rfl, hb6⟩
  rw [treeP_okT]
  replace k0 := k0.below hb6
  replace m0 := m0.below hb6
  have hB6 := below_trans hB5 hb6
  have hu6 := hu5.same (hW5.same hb6)
  have hW6 := hW5.later hb6.size
  clear hb6 hu5 hW5 hB5
  obtain ⟨x0, x1, x2, x3, x4⟩ := k0.cell
  obtain ⟨y0, y1, y2, y3, y4⟩ := m0.cell
  have hNN := k0.lt
  have hMM := m0.lt
  have hv6 := hv.same (hS.same hB6)
  have hS6 := hS.later hB6.size
  go_wp2_with fail
  go_region_held (fun w' => (w'.cell? ⟨w.heap.size, 0, none⟩ = some (.int .i64 k) ∧ w'.cell? ⟨w.heap.size, 1, none⟩ = some (.int .i64 n) ∧ w'.cell? ⟨w.heap.size, 2, none⟩ = some (.string s) ∧ w'.cell? ⟨w.heap.size, 3, none⟩ = some (.slice ak lk ck) ∧ w'.cell? ⟨w.heap.size, 4, none⟩ = some (.slice al ll cl)) ∧
      w'.cell? ⟨w4.heap.size, 0, none⟩ = some (.int .i64 k') ∧ w'.cell? ⟨w4.heap.size, 1, none⟩ = some (.int .i64 n') ∧ w'.cell? ⟨w4.heap.size, 2, none⟩ = some (.string s') ∧ w'.cell? ⟨w4.heap.size, 3, none⟩ = some (.slice ak' lk' ck') ∧ w'.cell? ⟨w4.heap.size, 4, none⟩ = some (.slice al' ll' cl'))
    (first | go_keep | exact ⟨k7.cell, m7.cell⟩ | exact ⟨k8.cell, m8.cell⟩)
    (first
      | (go_at_call 10; refine (toVal_any d S t _ _ ?_ ?_).mono ?_; exact hv6.same (fun _ _ => rfl); exact hS6; rintro e w7 ⟨u7, rfl, hu7, hb7⟩; have k7 := k0.of_block (hb7.block _ hNN); have m7 := m0.of_block (hb7.block _ hMM))
      | (go_at_call 12; refine (eqVal_any d (Fresh w3 w4) (Fresh w6.drew w7) t t _ _ _ ?_ ?_ ?_ ?_).mono ?_; exact hu6.same (fun b hb => hb7.block b (hW6 b hb)); exact hu7; exact hW6.later hb7.size; exact Fresh.within _ _; rintro e w8 ⟨rfl, hb8⟩; have k8 := k7.of_block (hb8.block _ k7.lt); have m8 := m7.of_block (hb8.block _ m7.lt)))
  rw [eqT_refl]
  have hB7 : Below w6.heap.size w6 w7 := ⟨hb7.os, hb7.tape, hb7.output, hb7.size, hb7.block⟩
  have HB : Hid (Below w.heap.size w w8) := below_trans (below_trans hB6 hB7) hb8
  clear hb7 hb8 k7 m7 k8 m8 hu7 hu6 hv6 hB6 hB7 hv x0 x1 x2 x3 x4 y0 y1 y2 y3 y4
  go_wp2_with fail
  go_ret
  exact ⟨rfl, HB.out⟩
end Go.Proofs.Ytdmlpbkiomgloaa
