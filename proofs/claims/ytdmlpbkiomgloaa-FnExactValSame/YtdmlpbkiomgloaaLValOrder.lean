/- FnExactValOrder: for all trees that lie in memory the law answers true. -/
import Derived.Test.YtdmlpbkiomgloaaWImplO
import Derived.Test.YtdmlpbkiomgloaaWTo
import Derived.Deep.RegionHeld
namespace Go.Proofs.Ytdmlpbkiomgloaa
open Go.RowKit Go.Deep

theorem under_freshP (w w' : World) : Under (FreshP w w') w' w'.heap.size := fun _ h => ⟨h.2, h.1.2⟩
theorem within_freshP (w w' : World) : Within (FreshP w w') w' := fun _ h => h.1.2
theorem Under.below {S : Nat → Prop} {w w' : World} (h : Under S w w.heap.size) (hb : Below w.heap.size w w') : Under S w' w'.heap.size := fun b hS => ⟨(h b hS).1.of_block (hb.block b (h b hS).2), Nat.lt_of_lt_of_le (h b hS).2 hb.size⟩

set_option maxRecDepth 100000 in
set_option maxHeartbeats 8000000 in
theorem lawValOrder (d : Nat) (S : Nat → Prop) (t t' : Tr d) (v v' : Value) (w : World) (hv : ValAt S w d t v) (hv' : ValAt S w d t' v') (hS : Within S w) :
    Calls Try.prog 5 #[v, v'] w fun e w' => e = .returned (.bool true) ∧ Below w.heap.size w w' := by
  obtain ⟨k, n, s, ak, lk, ck, al, ll, cl, rfl⟩ := hv.shape
  obtain ⟨k', n', s', ak', lk', ck', al', ll', cl', rfl⟩ := hv'.shape
  obtain ⟨k0, k1, hA⟩ := two_blocks w 25 (.int .i64 k) (.int .i64 n) (.string s) (.slice ak lk ck) (.slice al ll cl) (.int .i64 k') (.int .i64 n') (.string s') (.slice ak' lk' ck') (.slice al' ll' cl')
  go_enter Try.func5, Try.ntmps5
  go_wp2_with fail
  refine (szVal_any d S t _ 1048576 _ (hv.same (hS.same hA)) (hS.later hA.size) (by omega) (by omega)).mono ?_
  rintro e w1 ⟨rfl, hb1⟩
  replace k0 := k0.below hb1
  replace k1 := k1.below hb1
  have hB1 := below_trans hA hb1
  clear hb1 hA
  by_cases hneg : szT d t 1048576 < 0
  · clear k0 k1
    go_wp2_with fail
    go_ret
    exact ⟨rfl, hB1⟩
  have hnodes := szT_nodes d t 1048576 (by omega) (by omega)
  have hszle := szT_le d t 1048576 (by omega)
  obtain ⟨x0, x1, x2, x3, x4⟩ := k1.cell
  go_wp2_with fail
  refine (szVal_any d S t' _ _ _ (hv'.same (hS.same hB1)) (hS.later hB1.size) (by omega) (by omega)).mono ?_
  rintro e w2 ⟨rfl, hb2⟩
  replace k0 := k0.below hb2
  replace k1 := k1.below hb2
  have hB2 := below_trans hB1 hb2
  clear hb2 hB1 x0 x1 x2 x3 x4
  by_cases hneg2 : szT d t' (szT d t 1048576) < 0
  · clear k0 k1
    go_wp2_with fail
    go_ret
    exact ⟨rfl, hB2⟩
  have hv3 := hv.same (hS.same hB2)
  have hv3' := hv'.same (hS.same hB2)
  have hS3 := hS.later hB2.size
  obtain ⟨x0, x1, x2, x3, x4⟩ := k0.cell
  obtain ⟨y0, y1, y2, y3, y4⟩ := k1.cell
  clear hv hv' hS
  go_wp2_with fail
  go_region_held (fun w' => (w'.cell? ⟨w.heap.size, 0, none⟩ = some (.int .i64 k) ∧ w'.cell? ⟨w.heap.size, 1, none⟩ = some (.int .i64 n) ∧ w'.cell? ⟨w.heap.size, 2, none⟩ = some (.string s) ∧ w'.cell? ⟨w.heap.size, 3, none⟩ = some (.slice ak lk ck) ∧ w'.cell? ⟨w.heap.size, 4, none⟩ = some (.slice al ll cl)) ∧
      w'.cell? ⟨w.heap.size + 1, 0, none⟩ = some (.int .i64 k') ∧ w'.cell? ⟨w.heap.size + 1, 1, none⟩ = some (.int .i64 n') ∧ w'.cell? ⟨w.heap.size + 1, 2, none⟩ = some (.string s') ∧ w'.cell? ⟨w.heap.size + 1, 3, none⟩ = some (.slice ak' lk' ck') ∧ w'.cell? ⟨w.heap.size + 1, 4, none⟩ = some (.slice al' ll' cl'))
    (first | exact ⟨k0.cell, k1.cell⟩ | go_keep)
    (first
      | (go_at_call 10; refine (toVal_any d S t _ _ ?_ ?_).mono ?_; exact hv3.same (fun _ _ => rfl); exact hS3; rintro e wA ⟨uA, rfl, hA, hbA⟩; replace hv3 := hv3.same (fun b hb => hbA.block b (hS3 b hb)); replace hv3' := hv3'.same (fun b hb => hbA.block b (hS3 b hb)); replace k0 := k0.of_block (hbA.block _ k0.lt); replace k1 := k1.of_block (hbA.block _ k1.lt); replace hS3 := hS3.later hbA.size)
      | (go_at_call 10; refine (toVal_any d S t' _ _ ?_ ?_).mono ?_; exact hv3'.same (fun _ _ => rfl); exact hS3; rintro e wB ⟨uB, rfl, hB, hbB⟩; replace hv3 := hv3.same (fun b hb => hbB.block b (hS3 b hb)); replace hv3' := hv3'.same (fun b hb => hbB.block b (hS3 b hb)); replace k0 := k0.of_block (hbB.block _ k0.lt); replace k1 := k1.of_block (hbB.block _ k1.lt); replace hS3 := hS3.later hbB.size)
      | (go_at_call 15; (first | refine (specOrder_any d (Fresh w2.drew wA) (Fresh wA wB) t t' _ _ _ (hA.same (fun b hb => hbB.block b hb.2)) hB ((Fresh.within _ _).later hbB.size) (Fresh.within _ _)).mono ?_ | refine (specOrder_any d (Fresh wB wA) (Fresh w2.drew wB) t t' _ _ _ hA (hB.same (fun b hb => hbA.block b hb.2)) (Fresh.within _ _) ((Fresh.within _ _).later hbA.size)).mono ?_); rintro e wC ⟨rfl, hbC⟩; replace k0 := k0.of_block (hbC.block _ k0.lt); replace k1 := k1.of_block (hbC.block _ k1.lt)))
  all_goals
    have hB3 : Below w.heap.size w wC := by
      first
        | exact below_trans (below_trans (below_trans hB2 (show Below w2.heap.size w2 wA from ⟨hbA.os, hbA.tape, hbA.output, hbA.size, hbA.block⟩)) hbB) hbC
        | exact below_trans (below_trans (below_trans hB2 (show Below w2.heap.size w2 wB from ⟨hbB.os, hbB.tape, hbB.output, hbB.size, hbB.block⟩)) hbA) hbC
    have hv4 := hv3.same (fun b hb => hbC.block b (hS3 b hb))
    have hv4' := hv3'.same (fun b hb => hbC.block b (hS3 b hb))
    have hS4 := hS3.later hbC.size
    clear hv3 hv3' hS3 hA hB hbA hbB hbC hB2 x0 x1 x2 x3 x4 y0 y1 y2 y3 y4
    obtain ⟨x0, x1, x2, x3, x4⟩ := k0.cell
    go_wp2_with fail
    refine (toValP_any d S t _ _ hv4 hS4).mono ?_
    rintro e w5 ⟨u5, rfl, hu5, hb5⟩
    replace k0 := k0.below hb5
    replace k1 := k1.below hb5
    have hB5 := below_trans hB3 hb5
    have hv5 := hv4.same (hS4.same hb5)
    have hv5' := hv4'.same (hS4.same hb5)
    have hS5 := hS4.later hb5.size
    have hU5 := under_freshP wC w5
    clear hv4 hv4' hS4 hB3 hb5 x0 x1 x2 x3 x4
    obtain ⟨j, m, r, bk, mk, dk, bl, ml, dl, rfl⟩ := hu5.shape
    have hA6 := below_alloc1 w5 (.cells #[.int .i64 j, .int .i64 m, .string r, .slice bk mk dk, .slice bl ml dl] 30)
    have m0 := Blk5.new w5 30 (.int .i64 j) (.int .i64 m) (.string r) (.slice bk mk dk) (.slice bl ml dl)
    obtain ⟨y0, y1, y2, y3, y4⟩ := k1.cell
    have hk1l := k1.lt
    obtain ⟨W6, HE6⟩ : ∃ W6, Hid (W6 = w5.alloc (.cells #[.int .i64 j, .int .i64 m, .string r, .slice bk mk dk, .slice bl ml dl] 30)) := ⟨_, rfl⟩
    rw [← HE6.out] at hA6 m0
    replace k0 := k0.below hA6
    replace k1 := k1.below hA6
    have hB6 := below_trans hB5 hA6
    have hv6 := hv5.same (hS5.same hA6)
    have hv6' := hv5'.same (hS5.same hA6)
    have hS6 := hS5.later hA6.size
    have hu6 := hu5.same (fun b hb => hA6.block b (hU5 b hb).2)
    have hU6 := hU5.below hA6
    clear hv5 hv5' hS5 hB5 hA6 hu5 hU5
    go_wp2_with fail
    rw [← HE6.out]
    clear HE6
    refine (toValP_any d S t' _ _ hv6' hS6).mono ?_
    rintro e w7 ⟨u7, rfl, hu7, hb7⟩
    replace k0 := k0.below hb7
    replace k1 := k1.below hb7
    replace m0 := m0.below hb7
    have hB7 := below_trans hB6 hb7
    have hv7 := hv6.same (hS6.same hb7)
    have hv7' := hv6'.same (hS6.same hb7)
    have hS7 := hS6.later hb7.size
    have hub7 := hu6.same (fun b hb => hb7.block b (hU6 b hb).2)
    have hUa7 := hU6.below hb7
    have hUb7 := under_freshP W6 w7
    clear hv6 hv6' hS6 hB6 hb7 hu6 hU6 y0 y1 y2 y3 y4
    obtain ⟨j', m', r', bk', mk', dk', bl', ml', dl', rfl⟩ := hu7.shape
    have hA8 := below_alloc1 w7 (.cells #[.int .i64 j', .int .i64 m', .string r', .slice bk' mk' dk', .slice bl' ml' dl'] 30)
    have m1 := Blk5.new w7 30 (.int .i64 j') (.int .i64 m') (.string r') (.slice bk' mk' dk') (.slice bl' ml' dl')
    obtain ⟨W8, HE8⟩ : ∃ W8, Hid (W8 = w7.alloc (.cells #[.int .i64 j', .int .i64 m', .string r', .slice bk' mk' dk', .slice bl' ml' dl'] 30)) := ⟨_, rfl⟩
    rw [← HE8.out] at hA8 m1
    replace k0 := k0.below hA8
    replace k1 := k1.below hA8
    obtain ⟨z0, z1, z2, z3, z4⟩ := m0.cell
    have hm0l := m0.lt
    replace m0 := m0.below hA8
    have hB8 := below_trans hB7 hA8
    have hv8 := hv7.same (hS7.same hA8)
    have hv8' := hv7'.same (hS7.same hA8)
    have hS8 := hS7.later hA8.size
    have hua8 := hub7.same (fun b hb => hA8.block b (hUa7 b hb).2)
    have hub8 := hu7.same (fun b hb => hA8.block b (hUb7 b hb).2)
    have hUa8 := hUa7.below hA8
    have hUb8 := hUb7.below hA8
    clear hv7 hv7' hS7 hB7 hA8 hu7 hub7 hUa7 hUb7
    go_wp2_with fail
    rw [← HE8.out]
    clear HE8 z0 z1 z2 z3 z4
    refine (implOrder_any d _ _ t t' _ _ _ hua8 hub8 hUa8 hUb8 (by omega)).mono ?_
    rintro e w9 ⟨rfl, hb9⟩
    replace k0 := k0.below hb9
    replace k1 := k1.below hb9
    replace m0 := m0.below hb9
    replace m1 := m1.below hb9
    have hB9 := below_trans hB8 hb9
    have hv9 := hv8.same (hS8.same hb9)
    have hv9' := hv8'.same (hS8.same hb9)
    have hS9 := hS8.later hb9.size
    have hua9 := hua8.same (fun b hb => hb9.block b (hUa8 b hb).2)
    have hub9 := hub8.same (fun b hb => hb9.block b (hUb8 b hb).2)
    have hUa9 := hUa8.below hb9
    have hUb9 := hUb8.below hb9
    have hq : (ordT d t t' != ordT d t t') = false := by simp
    clear hv8 hv8' hS8 hB8 hb9 hua8 hub8 hUa8 hUb8
    obtain ⟨x0, x1, x2, x3, x4⟩ := k0.cell
    obtain ⟨y0, y1, y2, y3, y4⟩ := m0.cell
    go_wp2_with fail
    go_region_held (fun w' => (w'.cell? ⟨w.heap.size, 0, none⟩ = some (.int .i64 k) ∧ w'.cell? ⟨w.heap.size, 1, none⟩ = some (.int .i64 n) ∧ w'.cell? ⟨w.heap.size, 2, none⟩ = some (.string s) ∧ w'.cell? ⟨w.heap.size, 3, none⟩ = some (.slice ak lk ck) ∧ w'.cell? ⟨w.heap.size, 4, none⟩ = some (.slice al ll cl)) ∧ w'.cell? ⟨w5.heap.size, 0, none⟩ = some (.int .i64 j) ∧ w'.cell? ⟨w5.heap.size, 1, none⟩ = some (.int .i64 m) ∧ w'.cell? ⟨w5.heap.size, 2, none⟩ = some (.string r) ∧ w'.cell? ⟨w5.heap.size, 3, none⟩ = some (.slice bk mk dk) ∧ w'.cell? ⟨w5.heap.size, 4, none⟩ = some (.slice bl ml dl))
      (first | exact ⟨k0.cell, m0.cell⟩ | go_keep)
      (first
        | (go_at_call 10; refine (toVal_any d S t _ _ ?_ ?_).mono ?_; exact hv9.same (fun _ _ => rfl); exact hS9; rintro e wD ⟨uD, rfl, hD, hbD⟩; replace k0 := k0.of_block (hbD.block _ k0.lt); replace k1 := k1.of_block (hbD.block _ k1.lt); replace m0 := m0.of_block (hbD.block _ m0.lt); replace m1 := m1.of_block (hbD.block _ m1.lt))
        | (go_at_call 12; refine (eqVal_any d (FreshP wC w5) (Fresh w9.drew wD) t t _ _ _ (hua9.same (fun b hb => hbD.block b (hUa9 b hb).2)) hD (fun b hb => Nat.lt_of_lt_of_le (hUa9 b hb).2 hbD.size) (Fresh.within _ _)).mono ?_; rintro e wE ⟨rfl, hbE⟩; replace k0 := k0.of_block (hbE.block _ k0.lt); replace k1 := k1.of_block (hbE.block _ k1.lt); replace m0 := m0.of_block (hbE.block _ m0.lt); replace m1 := m1.of_block (hbE.block _ m1.lt)))
    rw [eqT_refl]
    have hBE : Below w9.heap.size w9 wE := below_trans (show Below w9.heap.size w9 wD from ⟨hbD.os, hbD.tape, hbD.output, hbD.size, hbD.block⟩) hbE
    have hB10 := below_trans hB9 hBE
    have hv10' := hv9'.same (hS9.same hBE)
    have hS10 := hS9.later hBE.size
    have hub10 := hub9.same (fun b hb => hBE.block b (hUb9 b hb).2)
    have hUb10 := hUb9.below hBE
    clear hv9 hv9' hS9 hua9 hub9 hUa9 hUb9 hBE hbD hbE hD hB9 x0 x1 x2 x3 x4 y0 y1 y2 y3 y4 k0 m0
    obtain ⟨x0, x1, x2, x3, x4⟩ := k1.cell
    obtain ⟨y0, y1, y2, y3, y4⟩ := m1.cell
    go_wp2_with fail
    go_region_held (fun w' => (w'.cell? ⟨w.heap.size + 1, 0, none⟩ = some (.int .i64 k') ∧ w'.cell? ⟨w.heap.size + 1, 1, none⟩ = some (.int .i64 n') ∧ w'.cell? ⟨w.heap.size + 1, 2, none⟩ = some (.string s') ∧ w'.cell? ⟨w.heap.size + 1, 3, none⟩ = some (.slice ak' lk' ck') ∧ w'.cell? ⟨w.heap.size + 1, 4, none⟩ = some (.slice al' ll' cl')) ∧ w'.cell? ⟨w7.heap.size, 0, none⟩ = some (.int .i64 j') ∧ w'.cell? ⟨w7.heap.size, 1, none⟩ = some (.int .i64 m') ∧ w'.cell? ⟨w7.heap.size, 2, none⟩ = some (.string r') ∧ w'.cell? ⟨w7.heap.size, 3, none⟩ = some (.slice bk' mk' dk') ∧ w'.cell? ⟨w7.heap.size, 4, none⟩ = some (.slice bl' ml' dl'))
      (first | exact ⟨k1.cell, m1.cell⟩ | go_keep)
      (first
        | (go_at_call 10; refine (toVal_any d S t' _ _ ?_ ?_).mono ?_; exact hv10'.same (fun _ _ => rfl); exact hS10; rintro e wF ⟨uF, rfl, hF, hbF⟩; replace k1 := k1.of_block (hbF.block _ k1.lt); replace m1 := m1.of_block (hbF.block _ m1.lt))
        | (go_at_call 12; refine (eqVal_any d (FreshP W6 w7) (Fresh wE.drew wF) t' t' _ _ _ (hub10.same (fun b hb => hbF.block b (hUb10 b hb).2)) hF (fun b hb => Nat.lt_of_lt_of_le (hUb10 b hb).2 hbF.size) (Fresh.within _ _)).mono ?_; rintro e wG ⟨rfl, hbG⟩; replace k1 := k1.of_block (hbG.block _ k1.lt); replace m1 := m1.of_block (hbG.block _ m1.lt)))
    rw [eqT_refl]
    have HB : Hid (Below w.heap.size w wG) := below_trans (below_trans hB10 (show Below wE.heap.size wE wF from ⟨hbF.os, hbF.tape, hbF.output, hbF.size, hbF.block⟩)) hbG
    clear hbF hbG hF hv10' hS10 hub10 hUb10 hB10 k1 m1 x0 x1 x2 x3 x4 y0 y1 y2 y3 y4
    go_wp2_with fail
    go_ret
    exact ⟨rfl, HB.out⟩
end Go.Proofs.Ytdmlpbkiomgloaa
