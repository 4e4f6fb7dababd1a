/- Texts of the proof, put together by program: LFnRow. -/
import Derived.Test.YthbpfiandjggcaaV31
/- FnValRow: for all bytes that lie in memory the law answers true. -/
namespace Go.Proofs.Ythbpfiandjggcaa
open Go.RowKit Go.Deep

set_option maxRecDepth 100000 in
set_option maxHeartbeats 1500000 in
theorem lawFnValRow (a : Option Addr) (n cap : Nat) (a' : Option Addr) (n' cap' : Nat) (w : World) (hcap : n ≤ cap) (hcap' : n' ≤ cap') (_hm : cap ≤ 9223372036854775807) (_hm' : cap' ≤ 9223372036854775807) (hB : BytesAt w.heap.size w a n) (hB' : BytesAt w.heap.size w a' n') :
    Calls Try.prog 5 #[.slice a n cap, .slice a' n' cap'] w fun e w' => e = .returned (.bool true) ∧ Below w.heap.size w w' := by
  by_cases hn : 1048576 < n
  · go_enter Try.func5, Try.ntmps5
    go_wp2_with fail
    go_ret
    exact ⟨rfl, Below.refl _ _⟩
  by_cases hn' : 1048576 < n'
  · go_enter Try.func5, Try.ntmps5
    go_wp2_with fail
    go_ret
    exact ⟨rfl, Below.refl _ _⟩
  go_enter Try.func5, Try.ntmps5
  go_wp2_with fail
  refine (drawValOrder_any a n cap w hcap hB).mono ?_
  rintro e w1 ⟨u, ta, u', tb, rfl, hv, hw, hv', hw', hb1⟩
  obtain ⟨v0, v1, v2, v3, v4, v5, v6, v7, v8, rfl⟩ := hv.shape
  obtain ⟨q0, q1, q2, q3, q4, q5, q6, q7, q8, rfl⟩ := hv'.shape
  obtain ⟨W2, HW⟩ : ∃ W2, Hid (W2 = (w1.alloc (.cells #[.int .i64 v0, .int .i64 v1, .string v2, .slice v3 v4 v5, .slice v6 v7 v8] 26)).alloc (.cells #[.int .i64 q0, .int .i64 q1, .string q2, .slice q3 q4 q5, .slice q6 q7 q8] 26)) := ⟨_, rfl⟩
  obtain ⟨ka, kb, hb2⟩ := two_blocks w1 26 (.int .i64 v0) (.int .i64 v1) (.string v2) (.slice v3 v4 v5) (.slice v6 v7 v8) (.int .i64 q0) (.int .i64 q1) (.string q2) (.slice q3 q4 q5) (.slice q6 q7 q8)
  have hz2 : w1.heap.size + 1 < W2.heap.size := by rw [HW.out]; simp
  rw [← HW.out] at ka kb hb2
  have hva := freshP_go hv hb2
  have hvb := freshP_go hv' hb2
  have hB2 := below_trans hb1 hb2
  have hBy := hB'.wider (r' := W2.heap.size) (fun b hb => hB2.block b hb) hB2.size
  clear hv hv' hb1 hb2 hB hB'
  go_wp2_with fail
  rw [← HW.out]
  clear HW
  refine (drawValOk_any a' n' cap' W2 hcap' hBy).mono ?_
  rintro e w3 ⟨u, tc, rfl, hv3, hw3, hb3⟩
  obtain ⟨r0, r1, r2, r3, r4, r5, r6, r7, r8, rfl⟩ := hv3.shape
  obtain ⟨W4, HW⟩ : ∃ W4, Hid (W4 = w3.alloc (.cells #[.int .i64 r0, .int .i64 r1, .string r2, .slice r3 r4 r5, .slice r6 r7 r8] 26)) := ⟨_, rfl⟩
  have hb4 : Below w3.heap.size w3 W4 := by rw [HW.out]; exact below_alloc1 _ _
  have kc : Blk5 W4 w3.heap.size 26 (.int .i64 r0) (.int .i64 r1) (.string r2) (.slice r3 r4 r5) (.slice r6 r7 r8) := by rw [HW.out]; exact Blk5.new w3 _ _ _ _ _ _
  have hz4 : w3.heap.size < W4.heap.size := by rw [HW.out]; simp
  have H3 : Three w W4 w1.heap.size (w1.heap.size + 1) w3.heap.size _ _ _ _ _ _ _ _ _ _ _ _ _ _ _ ta tb tc :=
    ⟨(ka.below hb3).below hb4, (kb.below hb3).below hb4, kc, freshP_go (freshP_go hva hb3) hb4, freshP_go (freshP_go hvb hb3) hb4, freshP_go (freshP_wide hv3 hB2.size) hb4, hw, hw', hw3, below_trans (below_trans hB2 hb3) hb4⟩
  have HT := hide H3
  have hB3 := hB2.size
  obtain ⟨x0, x1, x2, x3, x4⟩ := (ka.below hb3).cell
  obtain ⟨y0, y1, y2, y3, y4⟩ := (kb.below hb3).cell
  have xl := (ka.below hb3).lt
  have yl := (kb.below hb3).lt
  clear ka kb kc hva hvb hv3 hb3 hb4 hB2 hBy H3
  go_wp2_with fail
  rw [← HW.out]
  clear HW x0 x1 x2 x3 x4 y0 y1 y2 y3 y4
  obtain ⟨K, hK⟩ : ∃ K, Hid (ordT 11 ta tb = K) := ⟨_, rfl⟩
  have N3 := tri_ordT 11 ta tb
  rw [hK.out] at N3
  have hk1 : -1 ≤ K ∧ K ≤ 1 := by rcases N3 with h | h | h <;> omega
  obtain ⟨hk1, hk2⟩ := hk1
  clear N3
  have hc := ordI_any HT.out.va HT.out.vb HT.out.sa
  rw [hK.out] at hc
  refine hc.mono ?_
  clear hc
  rintro e w5 ⟨rfl, hb5⟩
  have HX := hide (HT.out.go hb5)
  clear HT hb5
  have HT := HX
  clear HX
  obtain ⟨x0, x1, x2, x3, x4⟩ := HT.out.ka.cell
  obtain ⟨y0, y1, y2, y3, y4⟩ := HT.out.kb.cell
  go_wp2_with fail
  clear x0 x1 x2 x3 x4 y0 y1 y2 y3 y4
  have hc := ordS_any HT.out.va HT.out.vb
  rw [hK.out] at hc
  refine hc.mono ?_
  clear hc
  rintro e w6 ⟨rfl, hb6⟩
  have HX := hide (HT.out.go hb6)
  clear HT hb6
  have HT := HX
  clear HX
  obtain ⟨x0, x1, x2, x3, x4⟩ := HT.out.ka.cell
  obtain ⟨y0, y1, y2, y3, y4⟩ := HT.out.kb.cell
  obtain ⟨z0, z1, z2, z3, z4⟩ := HT.out.kc.cell
  have xl := HT.out.ka.lt
  have yl := HT.out.kb.lt
  have zl := HT.out.kc.lt
  obtain ⟨U1, hU1⟩ : ∃ U1, Hid (w6.alloc (.cells #[.int .i64 v0, .int .i64 v1, .string v2, .slice v3 v4 v5, .slice v6 v7 v8, .int .i64 r0, .int .i64 r1, .string r2, .slice r3 r4 r5, .slice r6 r7 r8] 26) = U1) := ⟨_, rfl⟩
  have u1b : Below w6.heap.size w6 U1 := by rw [← hU1.out]; exact below_alloc1 _ _
  have u1z : U1.heap.size = w6.heap.size + 1 := by rw [← hU1.out]; simp
  have u1n : U1.heap[w6.heap.size]? = some (.cells #[.int .i64 v0, .int .i64 v1, .string v2, .slice v3 v4 v5, .slice v6 v7 v8, .int .i64 r0, .int .i64 r1, .string r2, .slice r3 r4 r5, .slice r6 r7 r8] 26 (0, 0)) := by have := heap_alloc_new w6 (.cells #[.int .i64 v0, .int .i64 v1, .string v2, .slice v3 v4 v5, .slice v6 v7 v8, .int .i64 r0, .int .i64 r1, .string r2, .slice r3 r4 r5, .slice r6 r7 r8] 26); rw [hU1.out] at this; exact this
  obtain ⟨U2, hU2⟩ : ∃ U2, Hid (U1.alloc (.cells #[.int .i64 5, .int .i64 0, .string { data := #[] }, .slice none 0 0, .slice (some ⟨w6.heap.size, 0, none⟩) 2 2] 26) = U2) := ⟨_, rfl⟩
  have u2b : Below U1.heap.size U1 U2 := by rw [← hU2.out]; exact below_alloc1 _ _
  have u2z : U2.heap.size = U1.heap.size + 1 := by rw [← hU2.out]; simp
  have u2n : U2.heap[w6.heap.size + 1]? = some (.cells #[.int .i64 5, .int .i64 0, .string { data := #[] }, .slice none 0 0, .slice (some ⟨w6.heap.size, 0, none⟩) 2 2] 26 (0, 0)) := by have := heap_alloc_new U1 (.cells #[.int .i64 5, .int .i64 0, .string { data := #[] }, .slice none 0 0, .slice (some ⟨w6.heap.size, 0, none⟩) 2 2] 26); rw [hU2.out] at this; rw [u1z] at this; exact this
  obtain ⟨U3, hU3⟩ : ∃ U3, Hid (U2.alloc (.cells #[.int .i64 q0, .int .i64 q1, .string q2, .slice q3 q4 q5, .slice q6 q7 q8, .int .i64 r0, .int .i64 r1, .string r2, .slice r3 r4 r5, .slice r6 r7 r8] 26) = U3) := ⟨_, rfl⟩
  have u3b : Below U2.heap.size U2 U3 := by rw [← hU3.out]; exact below_alloc1 _ _
  have u3z : U3.heap.size = U2.heap.size + 1 := by rw [← hU3.out]; simp
  have u3n : U3.heap[w6.heap.size + 1 + 1]? = some (.cells #[.int .i64 q0, .int .i64 q1, .string q2, .slice q3 q4 q5, .slice q6 q7 q8, .int .i64 r0, .int .i64 r1, .string r2, .slice r3 r4 r5, .slice r6 r7 r8] 26 (0, 0)) := by have := heap_alloc_new U2 (.cells #[.int .i64 q0, .int .i64 q1, .string q2, .slice q3 q4 q5, .slice q6 q7 q8, .int .i64 r0, .int .i64 r1, .string r2, .slice r3 r4 r5, .slice r6 r7 r8] 26); rw [hU3.out] at this; rw [u2z, u1z] at this; exact this
  obtain ⟨U4, hU4⟩ : ∃ U4, Hid (U3.alloc (.cells #[.int .i64 5, .int .i64 0, .string { data := #[] }, .slice none 0 0, .slice (some ⟨w6.heap.size + 1 + 1, 0, none⟩) 2 2] 26) = U4) := ⟨_, rfl⟩
  have u4b : Below U3.heap.size U3 U4 := by rw [← hU4.out]; exact below_alloc1 _ _
  have u4z : U4.heap.size = U3.heap.size + 1 := by rw [← hU4.out]; simp
  have u4n : U4.heap[w6.heap.size + 1 + 1 + 1]? = some (.cells #[.int .i64 5, .int .i64 0, .string { data := #[] }, .slice none 0 0, .slice (some ⟨w6.heap.size + 1 + 1, 0, none⟩) 2 2] 26 (0, 0)) := by have := heap_alloc_new U3 (.cells #[.int .i64 5, .int .i64 0, .string { data := #[] }, .slice none 0 0, .slice (some ⟨w6.heap.size + 1 + 1, 0, none⟩) 2 2] 26); rw [hU4.out] at this; rw [u3z, u2z, u1z] at this; exact this
  obtain ⟨U5, hU5⟩ : ∃ U5, Hid (U4.alloc (.cells #[.int .i64 v0, .int .i64 v1, .string v2, .slice v3 v4 v5, .slice v6 v7 v8] 26) = U5) := ⟨_, rfl⟩
  have u5b : Below U4.heap.size U4 U5 := by rw [← hU5.out]; exact below_alloc1 _ _
  have u5z : U5.heap.size = U4.heap.size + 1 := by rw [← hU5.out]; simp
  have u5n : U5.heap[w6.heap.size + 1 + 1 + 1 + 1]? = some (.cells #[.int .i64 v0, .int .i64 v1, .string v2, .slice v3 v4 v5, .slice v6 v7 v8] 26 (0, 0)) := by have := heap_alloc_new U4 (.cells #[.int .i64 v0, .int .i64 v1, .string v2, .slice v3 v4 v5, .slice v6 v7 v8] 26); rw [hU5.out] at this; rw [u4z, u3z, u2z, u1z] at this; exact this
  obtain ⟨U6, hU6⟩ : ∃ U6, Hid (U5.alloc (.cells #[.int .i64 5, .int .i64 0, .string { data := #[] }, .slice none 0 0, .slice (some ⟨w6.heap.size + 1 + 1 + 1 + 1, 0, none⟩) 1 1] 26) = U6) := ⟨_, rfl⟩
  have u6b : Below U5.heap.size U5 U6 := by rw [← hU6.out]; exact below_alloc1 _ _
  have u6z : U6.heap.size = U5.heap.size + 1 := by rw [← hU6.out]; simp
  have u6n : U6.heap[w6.heap.size + 1 + 1 + 1 + 1 + 1]? = some (.cells #[.int .i64 5, .int .i64 0, .string { data := #[] }, .slice none 0 0, .slice (some ⟨w6.heap.size + 1 + 1 + 1 + 1, 0, none⟩) 1 1] 26 (0, 0)) := by have := heap_alloc_new U5 (.cells #[.int .i64 5, .int .i64 0, .string { data := #[] }, .slice none 0 0, .slice (some ⟨w6.heap.size + 1 + 1 + 1 + 1, 0, none⟩) 1 1] 26); rw [hU6.out] at this; rw [u5z, u4z, u3z, u2z, u1z] at this; exact this
  have m1 : U6.heap[w6.heap.size]? = some (.cells #[.int .i64 v0, .int .i64 v1, .string v2, .slice v3 v4 v5, .slice v6 v7 v8, .int .i64 r0, .int .i64 r1, .string r2, .slice r3 r4 r5, .slice r6 r7 r8] 26 (0, 0)) := (u6b.block _ (by omega)).trans ((u5b.block _ (by omega)).trans ((u4b.block _ (by omega)).trans ((u3b.block _ (by omega)).trans ((u2b.block _ (by omega)).trans (u1n)))))
  have m2 : U6.heap[w6.heap.size + 1]? = some (.cells #[.int .i64 5, .int .i64 0, .string { data := #[] }, .slice none 0 0, .slice (some ⟨w6.heap.size, 0, none⟩) 2 2] 26 (0, 0)) := (u6b.block _ (by omega)).trans ((u5b.block _ (by omega)).trans ((u4b.block _ (by omega)).trans ((u3b.block _ (by omega)).trans (u2n))))
  have m3 : U6.heap[w6.heap.size + 1 + 1]? = some (.cells #[.int .i64 q0, .int .i64 q1, .string q2, .slice q3 q4 q5, .slice q6 q7 q8, .int .i64 r0, .int .i64 r1, .string r2, .slice r3 r4 r5, .slice r6 r7 r8] 26 (0, 0)) := (u6b.block _ (by omega)).trans ((u5b.block _ (by omega)).trans ((u4b.block _ (by omega)).trans (u3n)))
  have m4 : U6.heap[w6.heap.size + 1 + 1 + 1]? = some (.cells #[.int .i64 5, .int .i64 0, .string { data := #[] }, .slice none 0 0, .slice (some ⟨w6.heap.size + 1 + 1, 0, none⟩) 2 2] 26 (0, 0)) := (u6b.block _ (by omega)).trans ((u5b.block _ (by omega)).trans (u4n))
  have m5 : U6.heap[w6.heap.size + 1 + 1 + 1 + 1]? = some (.cells #[.int .i64 v0, .int .i64 v1, .string v2, .slice v3 v4 v5, .slice v6 v7 v8] 26 (0, 0)) := (u6b.block _ (by omega)).trans (u5n)
  have m6 : U6.heap[w6.heap.size + 1 + 1 + 1 + 1 + 1]? = some (.cells #[.int .i64 5, .int .i64 0, .string { data := #[] }, .slice none 0 0, .slice (some ⟨w6.heap.size + 1 + 1 + 1 + 1, 0, none⟩) 1 1] 26 (0, 0)) := u6n
  have bU : Below w6.heap.size w6 U6 := below_trans (below_trans (below_trans (below_trans (below_trans u1b u2b) u3b) u4b) u5b) u6b
  have H7 := HT.out.go bU
  have hw6 := HT.out.below.size
  have z6 : U6.heap.size = w6.heap.size + 1 + 1 + 1 + 1 + 1 + 1 := by omega
  have vx := rowD_at (S := FreshP w U6) (row2_at m1 ⟨⟨by omega, by omega⟩, ⟨_, _, m1⟩⟩ H7.va H7.vc)
  have vy := rowD_at (S := FreshP w U6) (row2_at m3 ⟨⟨by omega, by omega⟩, ⟨_, _, m3⟩⟩ H7.vb H7.vc)
  have vz := rowD_at (S := FreshP w U6) (row1_at m5 ⟨⟨by omega, by omega⟩, ⟨_, _, m5⟩⟩ H7.va)
  have HX := hide (And.intro H7 (And.intro vx (And.intro vy (And.intro vz (And.intro (show Blk5 U6 _ _ _ _ _ _ _ from m2) (And.intro (show Blk5 U6 _ _ _ _ _ _ _ from m4) (show Blk5 U6 _ _ _ _ _ _ _ from m6)))))))
  have xl1 : w1.heap.size < w6.heap.size + 1 := by omega
  have yl1 : w1.heap.size + 1 < w6.heap.size + 1 := by omega
  have zl1 : w3.heap.size < w6.heap.size + 1 := by omega
  have xl2 : w1.heap.size < w6.heap.size + 1 + 1 := by omega
  have yl2 : w1.heap.size + 1 < w6.heap.size + 1 + 1 := by omega
  have zl2 : w3.heap.size < w6.heap.size + 1 + 1 := by omega
  have xl3 : w1.heap.size < w6.heap.size + 1 + 1 + 1 := by omega
  have yl3 : w1.heap.size + 1 < w6.heap.size + 1 + 1 + 1 := by omega
  have zl3 : w3.heap.size < w6.heap.size + 1 + 1 + 1 := by omega
  have xl4 : w1.heap.size < w6.heap.size + 1 + 1 + 1 + 1 := by omega
  have yl4 : w1.heap.size + 1 < w6.heap.size + 1 + 1 + 1 + 1 := by omega
  have zl4 : w3.heap.size < w6.heap.size + 1 + 1 + 1 + 1 := by omega
  have xl5 : w1.heap.size < w6.heap.size + 1 + 1 + 1 + 1 + 1 := by omega
  have yl5 : w1.heap.size + 1 < w6.heap.size + 1 + 1 + 1 + 1 + 1 := by omega
  have zl5 : w3.heap.size < w6.heap.size + 1 + 1 + 1 + 1 + 1 := by omega
  clear H7 vx vy vz m1 m2 m3 m4 m5 m6 bU u1b u2b u3b u4b u5b u6b u1z u2z u3z u4z u5z u6z u1n u2n u3n u4n u5n u6n HT z6
  go_wp2_with fail
  rw [hU1.out, hU2.out, hU3.out, hU4.out, hU5.out, hU6.out]
  have o11 := ord_T 11
  have P1 : ordT 12 (rowD [ta, tc]) (rowD [tb, tc]) = K := by
    rw [ordT_rowD]; show orI (ordT 11 ta tb) (orI (ordT 11 tc tc) 0) = K; rw [hK.out, o11.self tc, orI_zero, orI_right]
  have P2 : ordT 12 (rowD [ta]) (rowD [ta, tc]) = -1 := by
    rw [ordT_rowD]; show orI (ordT 11 ta ta) (-1) = -1; rw [o11.self ta]; rfl
  have P3 : ordT 12 (rowD []) (rowD [ta]) = -1 := by rw [ordT_rowD]; rfl
  have Q1 : wtT 12 (rowD [ta, tc]) ≤ 10000 := by show 3 + 0 + (wtT 11 ta + (wtT 11 tc + 0)) ≤ 10000; have := HX.out.1.sa; have := HX.out.1.sc; omega
  have Q2 : wtT 12 (rowD [ta]) ≤ 10000 := by show 3 + 0 + (wtT 11 ta + 0) ≤ 10000; have := HX.out.1.sa; omega
  have Q3 : wtT 12 (rowD (d := 11) []) ≤ 10000 := by show 3 + 0 + 0 ≤ 10000; omega
  have V3 : ∀ W, ValAt (FreshP w W) W 12 (rowD []) (.agg #[.int .i64 5, .int .i64 0, .string { data := #[] }, .slice none 0 0, .slice none 0 0]) := fun W => rowD_at ⟨by simp, none, 0, rfl, Or.inl rfl⟩
  have e1 : Hid (∀ m : Ext U6, Calls Try.prog 8 #[.agg #[.int .i64 5, .int .i64 0, .string { data := #[] }, .slice none 0 0, .slice (some ⟨w6.heap.size, 0, none⟩) 2 2], .agg #[.int .i64 5, .int .i64 0, .string { data := #[] }, .slice none 0 0, .slice (some ⟨w6.heap.size + 1 + 1, 0, none⟩) 2 2]] m.now fun e w' => e = .returned (.int .i64 K) ∧ Below m.now.heap.size m.now w') := fun m => by
    have hc := ordI_at (freshP_go HX.out.2.1 m.from_) (freshP_go HX.out.2.2.1 m.from_) Q1; rw [P1] at hc; exact hc
  have e2 : Hid (∀ m : Ext U6, Calls Try.prog 8 #[.agg #[.int .i64 5, .int .i64 0, .string { data := #[] }, .slice none 0 0, .slice (some ⟨w6.heap.size + 1 + 1 + 1 + 1, 0, none⟩) 1 1], .agg #[.int .i64 5, .int .i64 0, .string { data := #[] }, .slice none 0 0, .slice (some ⟨w6.heap.size, 0, none⟩) 2 2]] m.now fun e w' => e = .returned (.int .i64 (-1)) ∧ Below m.now.heap.size m.now w') := fun m => by
    have hc := ordI_at (freshP_go HX.out.2.2.2.1 m.from_) (freshP_go HX.out.2.1 m.from_) Q2; rw [P2] at hc; exact hc
  have e3 : Hid (∀ m : Ext U6, Calls Try.prog 8 #[.agg #[.int .i64 5, .int .i64 0, .string { data := #[] }, .slice none 0 0, .slice none 0 0], .agg #[.int .i64 5, .int .i64 0, .string { data := #[] }, .slice none 0 0, .slice (some ⟨w6.heap.size + 1 + 1 + 1 + 1, 0, none⟩) 1 1]] m.now fun e w' => e = .returned (.int .i64 (-1)) ∧ Below m.now.heap.size m.now w') := fun m => by
    have hc := ordI_at (V3 m.now) (freshP_go HX.out.2.2.2.1 m.from_) Q3; rw [P3] at hc; exact hc
  have e4 : Hid (∀ m : Ext U6, Calls Try.prog 10 #[.agg #[.int .i64 5, .int .i64 0, .string { data := #[] }, .slice none 0 0, .slice (some ⟨w6.heap.size, 0, none⟩) 2 2], .agg #[.int .i64 5, .int .i64 0, .string { data := #[] }, .slice none 0 0, .slice (some ⟨w6.heap.size + 1 + 1, 0, none⟩) 2 2]] m.now fun e w' => e = .returned (.bool (K == 0)) ∧ Below m.now.heap.size m.now w') := fun m => by
    have hc := samI_at (freshP_go HX.out.2.1 m.from_) (freshP_go HX.out.2.2.1 m.from_) Q1; rw [P1] at hc; exact hc
  have e5 : Hid (∀ m : Ext U6, Calls Try.prog 10 #[.agg #[.int .i64 v0, .int .i64 v1, .string v2, .slice v3 v4 v5, .slice v6 v7 v8], .agg #[.int .i64 q0, .int .i64 q1, .string q2, .slice q3 q4 q5, .slice q6 q7 q8]] m.now fun e w' => e = .returned (.bool (K == 0)) ∧ Below m.now.heap.size m.now w') := fun m => by
    have hc := samI_any (HX.out.1.go m.from_).va (HX.out.1.go m.from_).vb hw; rw [hK.out] at hc; exact hc
  have gq : ((K == 0) == (K == 0)) = true := by simp
  have gk : (K == K) = true := by simp
  have hne := Ext.some U6
  have hbel := hide HX.out.1.below
  clear x0 x1 x2 x3 x4 y0 y1 y2 y3 y4 z0 z1 z2 z3 z4
  obtain ⟨cx0, cx1, cx2, cx3, cx4⟩ := (HX.out.2.2.2.2.1).cell
  have dx0 := fun m => ext_cell cx0 m
  have dx1 := fun m => ext_cell cx1 m
  have dx2 := fun m => ext_cell cx2 m
  have dx3 := fun m => ext_cell cx3 m
  have dx4 := fun m => ext_cell cx4 m
  clear cx0 cx1 cx2 cx3 cx4
  obtain ⟨cy0, cy1, cy2, cy3, cy4⟩ := (HX.out.2.2.2.2.2.1).cell
  have dy0 := fun m => ext_cell cy0 m
  have dy1 := fun m => ext_cell cy1 m
  have dy2 := fun m => ext_cell cy2 m
  have dy3 := fun m => ext_cell cy3 m
  have dy4 := fun m => ext_cell cy4 m
  clear cy0 cy1 cy2 cy3 cy4
  obtain ⟨cz0, cz1, cz2, cz3, cz4⟩ := (HX.out.2.2.2.2.2.2).cell
  have dz0 := fun m => ext_cell cz0 m
  have dz1 := fun m => ext_cell cz1 m
  have dz2 := fun m => ext_cell cz2 m
  have dz3 := fun m => ext_cell cz3 m
  have dz4 := fun m => ext_cell cz4 m
  clear cz0 cz1 cz2 cz3 cz4
  obtain ⟨cs0, cs1, cs2, cs3, cs4⟩ := (HX.out.1.ka).cell
  have ds0 := fun m => ext_cell cs0 m
  have ds1 := fun m => ext_cell cs1 m
  have ds2 := fun m => ext_cell cs2 m
  have ds3 := fun m => ext_cell cs3 m
  have ds4 := fun m => ext_cell cs4 m
  clear cs0 cs1 cs2 cs3 cs4
  obtain ⟨ct0, ct1, ct2, ct3, ct4⟩ := (HX.out.1.kb).cell
  have dt0 := fun m => ext_cell ct0 m
  have dt1 := fun m => ext_cell ct1 m
  have dt2 := fun m => ext_cell ct2 m
  have dt3 := fun m => ext_cell ct3 m
  have dt4 := fun m => ext_cell ct4 m
  clear ct0 ct1 ct2 ct3 ct4
  clear HX P1 P2 P3 Q1 Q2 Q3 V3 o11
  refine wp_region_ext (by kernel_rfl) (by kernel_rfl) ?_
  repeat (first | go_big_quiet_step ((first | (go_at_call 8; first | with_reducible exact Calls.ext_of (e1.out _) | with_reducible exact Calls.ext_of (e2.out _) | with_reducible exact Calls.ext_of (e3.out _)) | (go_at_call 10; first | with_reducible exact Calls.ext_of (e4.out _) | with_reducible exact Calls.ext_of (e5.out _)))) | quiet_step ((first | (go_at_call 8; first | with_reducible exact Calls.ext_of (e1.out _) | with_reducible exact Calls.ext_of (e2.out _) | with_reducible exact Calls.ext_of (e3.out _)) | (go_at_call 10; first | with_reducible exact Calls.ext_of (e4.out _) | with_reducible exact Calls.ext_of (e5.out _)))))
  refine wpQuiet_nil ?_
  intro w10 hw10
  obtain ⟨m, rfl⟩ := hw10
  go_wp2_with fail
  go_ret
  exact ⟨rfl, below_trans hbel.out m.from_⟩
end Go.Proofs.Ythbpfiandjggcaa
