/- toEdit. -/
import Derived.Test.YtmkoeomkbbmoaaaWEd
import Derived.Deep.DeepCutAuto
namespace Go.Proofs.Ytmkoeomkbbmoaaa
open Go.RowKit Go.Deep

set_option maxRecDepth 100000 in
set_option maxHeartbeats 2000000 in
theorem toEdit_any {d : Nat} (S : Nat → Prop) (e : Ed d) (a0 : Option Addr) (a1 : Nat) (p0 p1 p2 p3 p4 p5 p6 p7 p8 q0 q1 q2 q3 q4 q5 q6 q7 q8) (w : World) (hp : EdParts S w e (.slice a0 e.path.length a1) (.agg #[.int .i64 p0, .int .i64 p1, .string p2, .slice p3 p4 p5, .slice p6 p7 p8]) (.agg #[.int .i64 q0, .int .i64 q1, .string q2, .slice q3 q4 q5, .slice q6 q7 q8])) (hS : Within S w) :
    Calls Try.prog 11 #[.agg #[.slice a0 e.path.length a1, .int .i64 p0, .int .i64 p1, .string p2, .slice p3 p4 p5, .slice p6 p7 p8, .bool e.had, .int .i64 q0, .int .i64 q1, .string q2, .slice q3 q4 q5, .slice q6 q7 q8, .bool e.has]] w fun en w' => ∃ b0 b1 r0 r1 r2 r3 r4 r5 r6 r7 r8 s0 s1 s2 s3 s4 s5 s6 s7 s8, en = .returned (.agg #[.slice b0 e.path.length b1, .int .i64 r0, .int .i64 r1, .string r2, .slice r3 r4 r5, .slice r6 r7 r8, .bool e.had, .int .i64 s0, .int .i64 s1, .string s2, .slice s3 s4 s5, .slice s6 s7 s8, .bool e.has]) ∧ EdParts (Fresh w w') w' e (.slice b0 e.path.length b1) (.agg #[.int .i64 r0, .int .i64 r1, .string r2, .slice r3 r4 r5, .slice r6 r7 r8]) (.agg #[.int .i64 s0, .int .i64 s1, .string s2, .slice s3 s4 s5, .slice s6 s7 s8]) ∧ Below w.heap.size w w' := by
  obtain ⟨W0, hW⟩ : ∃ W0, W0 = ((w.alloc (.cells #[.slice a0 e.path.length a1, .int .i64 p0, .int .i64 p1, .string p2, .slice p3 p4 p5, .slice p6 p7 p8, .bool e.had, .int .i64 q0, .int .i64 q1, .string q2, .slice q3 q4 q5, .slice q6 q7 q8, .bool e.has] 36)).alloc (.cells #[.slice none 0 0, .int .i64 0, .int .i64 0, .string { data := #[] }, .slice none 0 0, .slice none 0 0, .bool false, .int .i64 0, .int .i64 0, .string { data := #[] }, .slice none 0 0, .slice none 0 0, .bool false] 43)).alloc (.cells #[.slice none 0 0, .int .i64 0, .int .i64 0, .string { data := #[] }, .slice none 0 0, .slice none 0 0, .bool false, .int .i64 0, .int .i64 0, .string { data := #[] }, .slice none 0 0, .slice none 0 0, .bool false] 43) := ⟨_, rfl⟩
  have hz0 : W0.heap.size = w.heap.size + 3 := by rw [hW]; simp
  have hB0 : Below w.heap.size w W0 := by rw [hW]; exact below_trans (below_trans (below_alloc1 _ _) (below_alloc1 _ _)) (below_alloc1 _ _)
  have k0 : BlkL W0 w.heap.size 36 [.slice a0 e.path.length a1, .int .i64 p0, .int .i64 p1, .string p2, .slice p3 p4 p5, .slice p6 p7 p8, .bool e.had, .int .i64 q0, .int .i64 q1, .string q2, .slice q3 q4 q5, .slice q6 q7 q8, .bool e.has] := by rw [hW]; exact ((BlkL.new w _ _).alloc _).alloc _
  have k1 : BlkL W0 (w.heap.size + 1) 43 [.slice none 0 0, .int .i64 0, .int .i64 0, .string { data := #[] }, .slice none 0 0, .slice none 0 0, .bool false, .int .i64 0, .int .i64 0, .string { data := #[] }, .slice none 0 0, .slice none 0 0, .bool false] := by
    have h := (BlkL.new (w.alloc (.cells #[.slice a0 e.path.length a1, .int .i64 p0, .int .i64 p1, .string p2, .slice p3 p4 p5, .slice p6 p7 p8, .bool e.had, .int .i64 q0, .int .i64 q1, .string q2, .slice q3 q4 q5, .slice q6 q7 q8, .bool e.has] 36)) 43 [.slice none 0 0, .int .i64 0, .int .i64 0, .string { data := #[] }, .slice none 0 0, .slice none 0 0, .bool false, .int .i64 0, .int .i64 0, .string { data := #[] }, .slice none 0 0, .slice none 0 0, .bool false]).alloc (.cells #[.slice none 0 0, .int .i64 0, .int .i64 0, .string { data := #[] }, .slice none 0 0, .slice none 0 0, .bool false, .int .i64 0, .int .i64 0, .string { data := #[] }, .slice none 0 0, .slice none 0 0, .bool false] 43)
    rw [World.size_alloc] at h
    rw [hW]
    exact h
  have k2 : BlkL W0 (w.heap.size + 1 + 1) 43 [.slice none 0 0, .int .i64 0, .int .i64 0, .string { data := #[] }, .slice none 0 0, .slice none 0 0, .bool false, .int .i64 0, .int .i64 0, .string { data := #[] }, .slice none 0 0, .slice none 0 0, .bool false] := by
    have h := BlkL.new ((w.alloc (.cells #[.slice a0 e.path.length a1, .int .i64 p0, .int .i64 p1, .string p2, .slice p3 p4 p5, .slice p6 p7 p8, .bool e.had, .int .i64 q0, .int .i64 q1, .string q2, .slice q3 q4 q5, .slice q6 q7 q8, .bool e.has] 36)).alloc (.cells #[.slice none 0 0, .int .i64 0, .int .i64 0, .string { data := #[] }, .slice none 0 0, .slice none 0 0, .bool false, .int .i64 0, .int .i64 0, .string { data := #[] }, .slice none 0 0, .slice none 0 0, .bool false] 43)) 43 [.slice none 0 0, .int .i64 0, .int .i64 0, .string { data := #[] }, .slice none 0 0, .slice none 0 0, .bool false, .int .i64 0, .int .i64 0, .string { data := #[] }, .slice none 0 0, .slice none 0 0, .bool false]
    rw [World.size_alloc, World.size_alloc] at h
    rw [hW]
    exact h
  have HW := hide hW
  obtain ⟨hst, hw, hn⟩ := hp
  clear hW
  go_enter Try.func11, Try.ntmps11
  go_wp2_with fail
  rw [← HW.out]
  clear HW
  refine (toStepS_own S e.path _ W0 (hst.same (hS.same hB0)) (hS.later hB0.size)).mono ?_
  rintro en w1 ⟨u1, rfl, hu1, hb1⟩
  obtain ⟨b0, b1, rfl, _⟩ := hu1.at.open'
  have hu1' := hu1.at.mono (S' := After (w.heap.size + 2) w1) (fun b hb => ⟨by have := hb.1; omega, hb.2⟩)
  replace k0 := k0.below hb1
  replace k1 := k1.below hb1
  replace k2 := k2.below hb1
  have hB1 := below_trans hB0 hb1
  have hz1 : w.heap.size + 3 ≤ w1.heap.size := by have := hb1.size; omega
  clear hb1 hB0 hu1 hz0 hst
  -- the way is stored
  obtain ⟨W1, hW⟩ : ∃ W1, W1 = w1.setCell ⟨w.heap.size + 1 + 1, 0, none⟩ (.slice b0 e.path.length b1) := ⟨_, rfl⟩
  have hB1' : Below w.heap.size w W1 := by rw [hW]; exact hB1.setCell (by show w.heap.size ≤ w.heap.size + 1 + 1; omega) _
  have j0 : BlkL W1 w.heap.size 36 [.slice a0 e.path.length a1, .int .i64 p0, .int .i64 p1, .string p2, .slice p3 p4 p5, .slice p6 p7 p8, .bool e.had, .int .i64 q0, .int .i64 q1, .string q2, .slice q3 q4 q5, .slice q6 q7 q8, .bool e.has] := by rw [hW]; exact k0.of_block (Below.heap_setCell _ _ _ _ (by simp; omega))
  have j1 : BlkL W1 (w.heap.size + 1) 43 [.slice none 0 0, .int .i64 0, .int .i64 0, .string { data := #[] }, .slice none 0 0, .slice none 0 0, .bool false, .int .i64 0, .int .i64 0, .string { data := #[] }, .slice none 0 0, .slice none 0 0, .bool false] := by rw [hW]; exact k1.of_block (Below.heap_setCell _ _ _ _ (by simp))
  have j2 : BlkL W1 (w.heap.size + 1 + 1) 43 [.slice b0 e.path.length b1, .int .i64 0, .int .i64 0, .string { data := #[] }, .slice none 0 0, .slice none 0 0, .bool false, .int .i64 0, .int .i64 0, .string { data := #[] }, .slice none 0 0, .slice none 0 0, .bool false] := by rw [hW]; exact k2.set 0 _
  have hv1 : StepsAt (After (w.heap.size + 2) W1) W1 (.slice b0 e.path.length b1) e.path := by
    rw [hW]
    exact hu1'.moved (fun b hb => Below.heap_setCell _ _ _ _ (by have := hb.1; show b ≠ w.heap.size + 1 + 1; omega)) (fun b hb => ⟨hb.1, by rw [size_setCell1]; exact hb.2⟩)
  have hz1' : W1.heap.size = w1.heap.size := by rw [hW]; exact size_setCell1 _ _ _
  have HW := hide hW
  have x1 := k0.cell 1 rfl
  have x2 := k0.cell 2 rfl
  have x3 := k0.cell 3 rfl
  have x4 := k0.cell 4 rfl
  have x5 := k0.cell 5 rfl
  have y0 := k2.cell 0 rfl
  have yf := k2.frozen 0
  clear hW k0 k1 k2 hu1' hB1
  go_wp2_with fail
  rw [← HW.out]
  clear HW x1 x2 x3 x4 x5 y0 yf
  refine (toVal_any (d + 1) S e.was _ W1 (hw.same (hS.same hB1')) (hS.later hB1'.size)).mono ?_
  rintro en w2 ⟨u2, rfl, hu2, hb2⟩
  obtain ⟨r0, r1, r2, r3, r4, r5, r6, r7, r8, rfl⟩ := hu2.shape
  have hz2 : w.heap.size + 3 ≤ w2.heap.size := by have := hb2.size; omega
  have hu2' := hu2.mono (S' := After (w.heap.size + 2) w2) (fun b hb => ⟨by have := hb.1; omega, hb.2⟩)
  have hv1' : StepsAt (After (w.heap.size + 2) w2) w2 (.slice b0 e.path.length b1) e.path := hv1.moved (fun b hb => hb2.block b hb.2) (fun b hb => ⟨hb.1, Nat.lt_of_lt_of_le hb.2 hb2.size⟩)
  have k0 := j0.below hb2
  have k1 := j1.below hb2
  have k2 := j2.below hb2
  have hB2 := below_trans hB1' hb2
  clear hb2 hB1' hu2 hv1 j0 j1 j2 hw hz1 hz1'
  -- what was is stored, and whether it was
  obtain ⟨W2, hW⟩ : ∃ W2, W2 = setL w2 (w.heap.size + 1 + 1) 1 [.int .i64 r0, .int .i64 r1, .string r2, .slice r3 r4 r5, .slice r6 r7 r8, .bool e.had] := ⟨_, rfl⟩
  have hB2' : Below w.heap.size w W2 := by rw [hW]; exact below_setL (by omega) _ hB2 _
  have j0 : BlkL W2 w.heap.size 36 [.slice a0 e.path.length a1, .int .i64 p0, .int .i64 p1, .string p2, .slice p3 p4 p5, .slice p6 p7 p8, .bool e.had, .int .i64 q0, .int .i64 q1, .string q2, .slice q3 q4 q5, .slice q6 q7 q8, .bool e.has] := by rw [hW]; exact k0.of_block (setL_block _ _ (by omega) _ _ _)
  have j1 : BlkL W2 (w.heap.size + 1) 43 [.slice none 0 0, .int .i64 0, .int .i64 0, .string { data := #[] }, .slice none 0 0, .slice none 0 0, .bool false, .int .i64 0, .int .i64 0, .string { data := #[] }, .slice none 0 0, .slice none 0 0, .bool false] := by rw [hW]; exact k1.of_block (setL_block _ _ (by omega) _ _ _)
  have j2 : BlkL W2 (w.heap.size + 1 + 1) 43 [.slice b0 e.path.length b1, .int .i64 r0, .int .i64 r1, .string r2, .slice r3 r4 r5, .slice r6 r7 r8, .bool e.had, .int .i64 0, .int .i64 0, .string { data := #[] }, .slice none 0 0, .slice none 0 0, .bool false] := by rw [hW]; exact BlkL.setL _ k2 1
  have hmv : Same (After (w.heap.size + 2) w2) w2 W2 := fun b hb => by rw [hW]; exact setL_block _ _ (by have := hb.1; omega) _ _ _
  have hin : ∀ b, After (w.heap.size + 2) w2 b → After (w.heap.size + 2) W2 b := fun b hb => ⟨hb.1, by rw [hW, setL_size]; exact hb.2⟩
  have hv2 := hv1'.moved hmv hin
  have hu2 := ValAt.moved hmv hin _ _ _ hu2'
  have hz2' : W2.heap.size = w2.heap.size := by rw [hW]; exact setL_size _ _ _ _
  have HW := hide hW
  have x6 := k0.cell 6 rfl
  have x7 := k0.cell 7 rfl
  have x8 := k0.cell 8 rfl
  have x9 := k0.cell 9 rfl
  have x10 := k0.cell 10 rfl
  have x11 := k0.cell 11 rfl
  have y1 := k2.cell 1 rfl
  have y2 := k2.cell 2 rfl
  have y3 := k2.cell 3 rfl
  have y4 := k2.cell 4 rfl
  have y5 := k2.cell 5 rfl
  have y6 := k2.cell 6 rfl
  have z1 := k2.frozen 1
  have z2 := k2.frozen 2
  have z3 := k2.frozen 3
  have z4 := k2.frozen 4
  have z5 := k2.frozen 5
  have z6 := k2.frozen 6
  clear hW k0 k1 k2 hu2' hv1' hB2 hmv hin
  go_wp2_with fail
  have hchain := HW.out
  simp only [setL] at hchain
  rw [← hchain]
  clear HW hchain x6 x7 x8 x9 x10 x11 y1 z1 y2 z2 y3 z3 y4 z4 y5 z5 y6 z6
  refine (toVal_any (d + 1) S e.now _ W2 (hn.same (hS.same hB2')) (hS.later hB2'.size)).mono ?_
  rintro en w3 ⟨u3, rfl, hu3, hb3⟩
  obtain ⟨s0, s1, s2, s3, s4, s5, s6, s7, s8, rfl⟩ := hu3.shape
  have hz3 : w.heap.size + 3 ≤ w3.heap.size := by have := hb3.size; omega
  have hmv : Same (After (w.heap.size + 2) W2) W2 w3 := fun b hb => hb3.block b hb.2
  have hin : ∀ b, After (w.heap.size + 2) W2 b → After (w.heap.size + 2) w3 b := fun b hb => ⟨hb.1, Nat.lt_of_lt_of_le hb.2 hb3.size⟩
  have hall : EdParts (After (w.heap.size + 2) w3) w3 e (.slice b0 e.path.length b1) (.agg #[.int .i64 r0, .int .i64 r1, .string r2, .slice r3 r4 r5, .slice r6 r7 r8]) (.agg #[.int .i64 s0, .int .i64 s1, .string s2, .slice s3 s4 s5, .slice s6 s7 s8]) := ⟨hv2.moved hmv hin, ValAt.moved hmv hin _ _ _ hu2, hu3.mono (fun b hb => ⟨by have := hb.1; omega, hb.2⟩)⟩
  have k0 := j0.below hb3
  have k1 := j1.below hb3
  have k2 := j2.below hb3
  have hB3 := below_trans hB2' hb3
  clear hb3 hB2' hu3 hu2 hv2 j0 j1 j2 hn hz2 hz2' hmv hin
  have hend : Hid (∀ wF, wF = setL (setL w3 (w.heap.size + 1 + 1) 7 [.int .i64 s0, .int .i64 s1, .string s2, .slice s3 s4 s5, .slice s6 s7 s8, .bool e.has]) (w.heap.size + 1) 0 [.slice b0 e.path.length b1, .int .i64 r0, .int .i64 r1, .string r2, .slice r3 r4 r5, .slice r6 r7 r8, .bool e.had, .int .i64 s0, .int .i64 s1, .string s2, .slice s3 s4 s5, .slice s6 s7 s8, .bool e.has] →
      EdParts (Fresh w wF) wF e (.slice b0 e.path.length b1) (.agg #[.int .i64 r0, .int .i64 r1, .string r2, .slice r3 r4 r5, .slice r6 r7 r8]) (.agg #[.int .i64 s0, .int .i64 s1, .string s2, .slice s3 s4 s5, .slice s6 s7 s8]) ∧ Below w.heap.size w wF) := by
    intro wF hF
    rw [hF]
    refine ⟨hall.moved (fun b hb => (setL_block _ _ (by have := hb.1; omega) _ _ _).trans (setL_block _ _ (by have := hb.1; omega) _ _ _)) (fun b hb => ⟨by have := hb.1; omega, by rw [setL_size, setL_size]; exact hb.2⟩), ?_⟩
    exact below_setL (by omega) _ (below_setL (by omega) _ hB3 _) _
  obtain ⟨W3, hW⟩ : ∃ W3, W3 = setL w3 (w.heap.size + 1 + 1) 7 [.int .i64 s0, .int .i64 s1, .string s2, .slice s3 s4 s5, .slice s6 s7 s8, .bool e.has] := ⟨_, rfl⟩
  have j1 : BlkL W3 (w.heap.size + 1) 43 [.slice none 0 0, .int .i64 0, .int .i64 0, .string { data := #[] }, .slice none 0 0, .slice none 0 0, .bool false, .int .i64 0, .int .i64 0, .string { data := #[] }, .slice none 0 0, .slice none 0 0, .bool false] := by rw [hW]; exact k1.of_block (setL_block _ _ (by omega) _ _ _)
  have j2 : BlkL W3 (w.heap.size + 1 + 1) 43 [.slice b0 e.path.length b1, .int .i64 r0, .int .i64 r1, .string r2, .slice r3 r4 r5, .slice r6 r7 r8, .bool e.had, .int .i64 s0, .int .i64 s1, .string s2, .slice s3 s4 s5, .slice s6 s7 s8, .bool e.has] := by rw [hW]; exact BlkL.setL _ k2 7
  rw [← hW] at hend
  have HW := hide hW
  have x12 := k0.cell 12 rfl
  have y7 := k2.cell 7 rfl
  have y8 := k2.cell 8 rfl
  have y9 := k2.cell 9 rfl
  have y10 := k2.cell 10 rfl
  have y11 := k2.cell 11 rfl
  have y12 := k2.cell 12 rfl
  have z7 := k2.frozen 7
  have z8 := k2.frozen 8
  have z9 := k2.frozen 9
  have z10 := k2.frozen 10
  have z11 := k2.frozen 11
  have z12 := k2.frozen 12
  clear hW k0 k1 k2 hall hB3
  go_upto_region 7 with fail
  have hchain := HW.out
  simp only [setL] at hchain
  rw [← hchain]
  clear HW hchain x12 y7 z7 y8 z8 y9 z9 y10 z10 y11 z11 y12 z12
  have y0 := j2.cell 0 rfl
  have y1 := j2.cell 1 rfl
  have y2 := j2.cell 2 rfl
  have y3 := j2.cell 3 rfl
  have y4 := j2.cell 4 rfl
  have y5 := j2.cell 5 rfl
  have y6 := j2.cell 6 rfl
  have y7 := j2.cell 7 rfl
  have y8 := j2.cell 8 rfl
  have y9 := j2.cell 9 rfl
  have y10 := j2.cell 10 rfl
  have y11 := j2.cell 11 rfl
  have y12 := j2.cell 12 rfl
  have v0 := j1.cell 0 rfl
  have v1 := j1.cell 1 rfl
  have v2 := j1.cell 2 rfl
  have v3 := j1.cell 3 rfl
  have v4 := j1.cell 4 rfl
  have v5 := j1.cell 5 rfl
  have v6 := j1.cell 6 rfl
  have v7 := j1.cell 7 rfl
  have v8 := j1.cell 8 rfl
  have v9 := j1.cell 9 rfl
  have v10 := j1.cell 10 rfl
  have v11 := j1.cell 11 rfl
  have v12 := j1.cell 12 rfl
  have z0 := j1.frozen 0
  have z1 := j1.frozen 1
  have z2 := j1.frozen 2
  have z3 := j1.frozen 3
  have z4 := j1.frozen 4
  have z5 := j1.frozen 5
  have z6 := j1.frozen 6
  have z7 := j1.frozen 7
  have z8 := j1.frozen 8
  have z9 := j1.frozen 9
  have z10 := j1.frozen 10
  have z11 := j1.frozen 11
  have z12 := j1.frozen 12
  clear j1 j2
  go_wp2_with fail
  refine bodyPost_ret (v := .agg #[.slice b0 e.path.length b1, .int .i64 r0, .int .i64 r1, .string r2, .slice r3 r4 r5, .slice r6 r7 r8, .bool e.had, .int .i64 s0, .int .i64 s1, .string s2, .slice s3 s4 s5, .slice s6 s7 s8, .bool e.has]) (by simp [results, Try.results11, go_sem, v0, v1, v2, v3, v4, v5, v6, v7, v8, v9, v10, v11, v12]) rfl ⟨b0, b1, r0, r1, r2, r3, r4, r5, r6, r7, r8, s0, s1, s2, s3, s4, s5, s6, s7, s8, rfl, hend.out _ rfl⟩
end Go.Proofs.Ytmkoeomkbbmoaaa
