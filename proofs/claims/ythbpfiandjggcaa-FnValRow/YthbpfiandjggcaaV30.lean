/- Texts of the proof, put together by program: LFnOrd. -/
import Derived.Test.YthbpfiandjggcaaV29
/- FnValOrder: for all bytes that lie in memory the law answers true. -/
namespace Go.Proofs.Ythbpfiandjggcaa
open Go.RowKit Go.Deep

/-- What stands when three trees are drawn: their cells, in variables; the trees themselves, in plain new blocks. -/
structure Three (w wX : World) (A B C : Nat) (a0 a1 a2 a3 a4 b0 b1 b2 b3 b4 c0 c1 c2 c3 c4 : Value) (ta tb tc : Tr 11) : Prop where
  ka : Blk5 wX A 26 a0 a1 a2 a3 a4
  kb : Blk5 wX B 26 b0 b1 b2 b3 b4
  kc : Blk5 wX C 26 c0 c1 c2 c3 c4
  va : ValAt (FreshP w wX) wX 11 ta (.agg #[a0, a1, a2, a3, a4])
  vb : ValAt (FreshP w wX) wX 11 tb (.agg #[b0, b1, b2, b3, b4])
  vc : ValAt (FreshP w wX) wX 11 tc (.agg #[c0, c1, c2, c3, c4])
  sa : wtT 11 ta ≤ 1000
  sb : wtT 11 tb ≤ 1000
  sc : wtT 11 tc ≤ 1000
  below : Below w.heap.size w wX

theorem freshP_go {w wX wY : World} {d : Nat} {t : Tr d} {u : Value} (h : ValAt (FreshP w wX) wX d t u) (hb : Below wX.heap.size wX wY) : ValAt (FreshP w wY) wY d t u := by
  have hs : Same (FreshP w wX) wX wY := fun b hb' => hb.block b hb'.1.2
  exact ValAt.moved hs (fun b hb' => ⟨⟨hb'.1.1, Nat.lt_of_lt_of_le hb'.1.2 hb.size⟩, hb'.2.of_block (hs b hb')⟩) d t u h
theorem freshP_wide {w W0 w1 : World} {d : Nat} {t : Tr d} {u : Value} (h : ValAt (FreshP W0 w1) w1 d t u) (h0 : w.heap.size ≤ W0.heap.size) : ValAt (FreshP w w1) w1 d t u := h.mono (fun _ hb => ⟨⟨Nat.le_trans h0 hb.1.1, hb.1.2⟩, hb.2⟩)
theorem Three.go {w wX wY : World} {A B C : Nat} {a0 a1 a2 a3 a4 b0 b1 b2 b3 b4 c0 c1 c2 c3 c4 : Value} {ta tb tc : Tr 11} (h : Three w wX A B C a0 a1 a2 a3 a4 b0 b1 b2 b3 b4 c0 c1 c2 c3 c4 ta tb tc) (hb : Below wX.heap.size wX wY) : Three w wY A B C a0 a1 a2 a3 a4 b0 b1 b2 b3 b4 c0 c1 c2 c3 c4 ta tb tc :=
  ⟨h.ka.below hb, h.kb.below hb, h.kc.below hb, freshP_go h.va hb, freshP_go h.vb hb, freshP_go h.vc hb, h.sa, h.sb, h.sc, below_trans h.below hb⟩
theorem under_P {w wX : World} : Under (FreshP w wX) wX wX.heap.size := fun _ h => ⟨h.2, h.1.2⟩
theorem within_P {w wX : World} : Within (FreshP w wX) wX := fun _ h => h.1.2

theorem ordI_any {w W : World} {t t' : Tr 11} {v v' : Value} (h : ValAt (FreshP w W) W 11 t v) (h' : ValAt (FreshP w W) W 11 t' v') (hs : wtT 11 t ≤ 1000) : Calls Try.prog 8 #[v, v'] W fun e w' => e = .returned (.int .i64 (ordT 11 t t')) ∧ Below W.heap.size W w' :=
  implOrder_any 11 _ _ t t' v v' W h h' under_P under_P (by have := nodes_wt' 11 t; omega)
theorem ordS_any {w W : World} {t t' : Tr 11} {v v' : Value} (h : ValAt (FreshP w W) W 11 t v) (h' : ValAt (FreshP w W) W 11 t' v') : Calls Try.prog 9 #[v, v'] W fun e w' => e = .returned (.int .i64 (ordT 11 t t')) ∧ Below W.heap.size W w' :=
  specOrder_any 11 _ _ t t' v v' W h h' within_P within_P
theorem samI_any {w W : World} {t t' : Tr 11} {v v' : Value} (h : ValAt (FreshP w W) W 11 t v) (h' : ValAt (FreshP w W) W 11 t' v') (hs : wtT 11 t ≤ 1000) : Calls Try.prog 10 #[v, v'] W fun e w' => e = .returned (.bool (ordT 11 t t' == 0)) ∧ Below W.heap.size W w' := by
  have e : eqT 11 t t' = (ordT 11 t t' == 0) := by rw [Bool.eq_iff_iff, beq_iff_eq]; exact (ordT_eqT 11 t t').symm
  rw [← e]
  exact implSame_any 11 _ _ t t' v v' W h h' under_P under_P (by have := nodes_wt' 11 t; omega)
theorem samS_any {w W : World} {t t' : Tr 11} {v v' : Value} (h : ValAt (FreshP w W) W 11 t v) (h' : ValAt (FreshP w W) W 11 t' v') : Calls Try.prog 11 #[v, v'] W fun e w' => e = .returned (.bool (ordT 11 t t' == 0)) ∧ Below W.heap.size W w' := by
  have e : eqT 11 t t' = (ordT 11 t t' == 0) := by rw [Bool.eq_iff_iff, beq_iff_eq]; exact (ordT_eqT 11 t t').symm
  rw [← e]
  exact specSame_any 11 _ _ t t' v v' W h h' within_P within_P

set_option maxRecDepth 100000 in
set_option maxHeartbeats 4000000 in
theorem lawFnValOrder (a : Option Addr) (n cap : Nat) (a' : Option Addr) (n' cap' : Nat) (w : World) (hcap : n ≤ cap) (hcap' : n' ≤ cap') (_hm : cap ≤ 9223372036854775807) (_hm' : cap' ≤ 9223372036854775807) (hB : BytesAt w.heap.size w a n) (hB' : BytesAt w.heap.size w a' n') :
    Calls Try.prog 3 #[.slice a n cap, .slice a' n' cap'] w fun e w' => e = .returned (.bool true) ∧ Below w.heap.size w w' := by
  by_cases hn : 1048576 < n
  · go_enter Try.func3, Try.ntmps3
    go_wp2_with fail
    go_ret
    exact ⟨rfl, Below.refl _ _⟩
  by_cases hn' : 1048576 < n'
  · go_enter Try.func3, Try.ntmps3
    go_wp2_with fail
    go_ret
    exact ⟨rfl, Below.refl _ _⟩
  go_enter Try.func3, Try.ntmps3
  go_wp2_with fail
  refine (drawValOrder_any a n cap w hcap hB).mono ?_
  rintro e w1 ⟨u, ta, u', tb, rfl, hv, hw, hv', hw', hb1⟩
  obtain ⟨v0, v1, v2, v3, v4, v5, v6, v7, v8, rfl⟩ := hv.shape
  obtain ⟨q0, q1, q2, q3, q4, q5, q6, q7, q8, rfl⟩ := hv'.shape
  obtain ⟨W2, HW⟩ : ∃ W2, Hid (W2 = (w1.alloc (.cells #[.int .i64 v0, .int .i64 v1, .string v2, .slice v3 v4 v5, .slice v6 v7 v8] 26)).alloc (.cells #[.int .i64 q0, .int .i64 q1, .string q2, .slice q3 q4 q5, .slice q6 q7 q8] 26)) := ⟨_, rfl⟩
  obtain ⟨ka, kb, hb2⟩ := two_blocks w1 26 (.int .i64 v0) (.int .i64 v1) (.string v2) (.slice v3 v4 v5) (.slice v6 v7 v8) (.int .i64 q0) (.int .i64 q1) (.string q2) (.slice q3 q4 q5) (.slice q6 q7 q8)
  have hz2 : w1.heap.size + 1 < W2.heap.size := by rw [HW.out]; simp
  rw [← HW.out] at ka kb hb2
  have hva := freshP_go hv hb2
  have hvb := freshP_go hv' hb2
  have hB2 := below_trans hb1 hb2
  have hBy := hB'.wider (r' := W2.heap.size) (fun b hb => hB2.block b hb) hB2.size
  clear hv hv' hb1 hb2 hB hB'
  go_wp2_with fail
  rw [← HW.out]
  clear HW
  refine (drawValOk_any a' n' cap' W2 hcap' hBy).mono ?_
  rintro e w3 ⟨u, tc, rfl, hv3, hw3, hb3⟩
  obtain ⟨r0, r1, r2, r3, r4, r5, r6, r7, r8, rfl⟩ := hv3.shape
  obtain ⟨W4, HW⟩ : ∃ W4, Hid (W4 = w3.alloc (.cells #[.int .i64 r0, .int .i64 r1, .string r2, .slice r3 r4 r5, .slice r6 r7 r8] 26)) := ⟨_, rfl⟩
  have hb4 : Below w3.heap.size w3 W4 := by rw [HW.out]; exact below_alloc1 _ _
  have kc : Blk5 W4 w3.heap.size 26 (.int .i64 r0) (.int .i64 r1) (.string r2) (.slice r3 r4 r5) (.slice r6 r7 r8) := by rw [HW.out]; exact Blk5.new w3 _ _ _ _ _ _
  have hz4 : w3.heap.size < W4.heap.size := by rw [HW.out]; simp
  have H3 : Three w W4 w1.heap.size (w1.heap.size + 1) w3.heap.size _ _ _ _ _ _ _ _ _ _ _ _ _ _ _ ta tb tc :=
    ⟨(ka.below hb3).below hb4, (kb.below hb3).below hb4, kc, freshP_go (freshP_go hva hb3) hb4, freshP_go (freshP_go hvb hb3) hb4, freshP_go (freshP_wide hv3 hB2.size) hb4, hw, hw', hw3, below_trans (below_trans hB2 hb3) hb4⟩
  have HT := hide H3
  have hB3 := hB2.size
  obtain ⟨x0, x1, x2, x3, x4⟩ := (ka.below hb3).cell
  obtain ⟨y0, y1, y2, y3, y4⟩ := (kb.below hb3).cell
  have xl := (ka.below hb3).lt
  have yl := (kb.below hb3).lt
  clear ka kb kc hva hvb hv3 hb3 hb4 hB2 hBy H3
  go_wp2_with fail
  rw [← HW.out]
  clear HW x0 x1 x2 x3 x4 y0 y1 y2 y3 y4
  have o := ord_T 11
  have N1 : ordT 11 tb ta = -ordT 11 ta tb := o.neg tb ta
  have N2 := o.self ta
  have N3 := tri_ordT 11 ta tb
  have N4 := o.trans ta tb tc
  obtain ⟨K, hK⟩ : ∃ K, Hid (ordT 11 ta tb = K) := ⟨_, rfl⟩
  rw [hK.out] at N1 N3 N4
  have hk1 : -1 ≤ K ∧ K ≤ 1 := by rcases N3 with h | h | h <;> omega
  obtain ⟨hk1, hk2⟩ := hk1
  have HN1 := hide N1
  have HN2 := hide N2
  have HN4 := hide N4
  clear N1 N2 N3 N4 o
  have hc := ordI_any HT.out.va HT.out.vb HT.out.sa
  rw [hK.out] at hc
  refine hc.mono ?_
  clear hc
  rintro e w5 ⟨rfl, hb5⟩
  have HX := hide (HT.out.go hb5)
  clear HT hb5
  have HT := HX
  clear HX
  obtain ⟨x0, x1, x2, x3, x4⟩ := HT.out.ka.cell
  obtain ⟨y0, y1, y2, y3, y4⟩ := HT.out.kb.cell
  go_wp2_with fail
  clear x0 x1 x2 x3 x4 y0 y1 y2 y3 y4
  have hc := ordS_any HT.out.va HT.out.vb
  rw [hK.out] at hc
  refine hc.mono ?_
  clear hc
  rintro e w6 ⟨rfl, hb6⟩
  have HX := hide (HT.out.go hb6)
  clear HT hb6
  have HT := HX
  clear HX
  obtain ⟨x0, x1, x2, x3, x4⟩ := HT.out.ka.cell
  obtain ⟨y0, y1, y2, y3, y4⟩ := HT.out.kb.cell
  go_wp2_with fail
  clear x0 x1 x2 x3 x4 y0 y1 y2 y3 y4
  have hc := ordI_any HT.out.vb HT.out.va HT.out.sb
  rw [HN1.out] at hc
  refine hc.mono ?_
  clear hc
  rintro e w7 ⟨rfl, hb7⟩
  have HX := hide (HT.out.go hb7)
  clear HT hb7
  have HT := HX
  clear HX
  obtain ⟨x0, x1, x2, x3, x4⟩ := HT.out.ka.cell
  obtain ⟨y0, y1, y2, y3, y4⟩ := HT.out.kb.cell
  go_wp2_with fail
  clear x0 x1 x2 x3 x4 y0 y1 y2 y3 y4
  have hc := ordI_any HT.out.va HT.out.va HT.out.sa
  rw [HN2.out] at hc
  refine hc.mono ?_
  clear hc
  rintro e w8 ⟨rfl, hb8⟩
  have HX := hide (HT.out.go hb8)
  clear HT hb8
  have HT := HX
  clear HX
  obtain ⟨x0, x1, x2, x3, x4⟩ := HT.out.ka.cell
  obtain ⟨y0, y1, y2, y3, y4⟩ := HT.out.kb.cell
  go_wp2_with fail
  have d1 : Hid (∀ m : Ext w8, Calls Try.prog 10 #[.agg #[.int .i64 v0, .int .i64 v1, .string v2, .slice v3 v4 v5, .slice v6 v7 v8], .agg #[.int .i64 q0, .int .i64 q1, .string q2, .slice q3 q4 q5, .slice q6 q7 q8]] m.now fun e w' => e = .returned (.bool (K == 0)) ∧ Below m.now.heap.size m.now w') := fun m => by have hc := samI_any (HT.out.go m.from_).va (HT.out.go m.from_).vb HT.out.sa; rw [hK.out] at hc; exact hc
  have d2 : Hid (∀ m : Ext w8, Calls Try.prog 11 #[.agg #[.int .i64 v0, .int .i64 v1, .string v2, .slice v3 v4 v5, .slice v6 v7 v8], .agg #[.int .i64 q0, .int .i64 q1, .string q2, .slice q3 q4 q5, .slice q6 q7 q8]] m.now fun e w' => e = .returned (.bool (K == 0)) ∧ Below m.now.heap.size m.now w') := fun m => by have hc := samS_any (HT.out.go m.from_).va (HT.out.go m.from_).vb; rw [hK.out] at hc; exact hc
  have gq : ((K == 0) != (K == 0)) = false := by simp
  have hne := Ext.some w8
  have ex0 := fun m => ext_cell x0 m
  have ex1 := fun m => ext_cell x1 m
  have ex2 := fun m => ext_cell x2 m
  have ex3 := fun m => ext_cell x3 m
  have ex4 := fun m => ext_cell x4 m
  have ey0 := fun m => ext_cell y0 m
  have ey1 := fun m => ext_cell y1 m
  have ey2 := fun m => ext_cell y2 m
  have ey3 := fun m => ext_cell y3 m
  have ey4 := fun m => ext_cell y4 m
  clear x0 x1 x2 x3 x4 y0 y1 y2 y3 y4
  refine wp_region_ext (by kernel_rfl) (by kernel_rfl) ?_
  repeat (first | go_big_quiet_step ((first | (go_at_call 10; exact Calls.ext_of (d1.out _)) | (go_at_call 11; exact Calls.ext_of (d2.out _)))) | quiet_step ((first | (go_at_call 10; exact Calls.ext_of (d1.out _)) | (go_at_call 11; exact Calls.ext_of (d2.out _)))))
  refine wpQuiet_nil ?_
  intro w10 hw10
  obtain ⟨m, rfl⟩ := hw10
  have HX := hide (HT.out.go m.from_)
  clear HT ex0 ex1 ex2 ex3 ex4 ey0 ey1 ey2 ey3 ey4 d1 d2 hne
  have HT := HX
  clear HX
  obtain ⟨W10, hW10⟩ : ∃ W10, Hid (m.now = W10) := ⟨_, rfl⟩
  rw [hW10.out] at HT ⊢
  obtain ⟨x0, x1, x2, x3, x4⟩ := HT.out.ka.cell
  obtain ⟨y0, y1, y2, y3, y4⟩ := HT.out.kb.cell
  obtain ⟨z0, z1, z2, z3, z4⟩ := HT.out.kc.cell
  clear hW10
  obtain ⟨M, hM⟩ : ∃ M, Hid (ordT 11 tb tc = M) := ⟨_, rfl⟩
  obtain ⟨L, hL⟩ : ∃ L, Hid (ordT 11 ta tc = L) := ⟨_, rfl⟩
  have HN5 : Hid (K ≤ 0 → M ≤ 0 → L ≤ 0) := by
    have := HN4.out
    rw [hM.out, hL.out] at this
    exact this
  clear HN4
  by_cases hK0 : K ≤ 0
  case neg =>
   go_wp2_with fail
   clear x0 x1 x2 x3 x4 y0 y1 y2 y3 y4 z0 z1 z2 z3 z4
   have hc := ordI_any HT.out.va HT.out.vb HT.out.sa
   rw [hK.out] at hc
   refine hc.mono ?_
   clear hc
   rintro e w11 ⟨rfl, hb11⟩
   have HX := hide (HT.out.go hb11)
   clear HT hb11
   have HT := HX
   clear HX
   go_wp2_with fail
   go_ret
   exact ⟨rfl, HT.out.below⟩
  case pos =>
   go_wp2_with fail
   clear x0 x1 x2 x3 x4 y0 y1 y2 y3 y4 z0 z1 z2 z3 z4
   have hc := ordI_any HT.out.va HT.out.vb HT.out.sa
   rw [hK.out] at hc
   refine hc.mono ?_
   clear hc
   rintro e w12 ⟨rfl, hb12⟩
   have HX := hide (HT.out.go hb12)
   clear HT hb12
   have HT := HX
   clear HX
   obtain ⟨x0, x1, x2, x3, x4⟩ := HT.out.ka.cell
   obtain ⟨y0, y1, y2, y3, y4⟩ := HT.out.kb.cell
   obtain ⟨z0, z1, z2, z3, z4⟩ := HT.out.kc.cell
   go_wp2_with fail
   by_cases hM0 : M ≤ 0
   case neg =>
    clear x0 x1 x2 x3 x4 y0 y1 y2 y3 y4 z0 z1 z2 z3 z4
    have hc := ordI_any HT.out.vb HT.out.vc HT.out.sb
    rw [hM.out] at hc
    refine hc.mono ?_
    clear hc
    rintro e w13 ⟨rfl, hb13⟩
    have HX := hide (HT.out.go hb13)
    clear HT hb13
    have HT := HX
    clear HX
    go_wp2_with fail
    go_ret
    exact ⟨rfl, HT.out.below⟩
   case pos =>
    have hL0 := HN5.out hK0 hM0
    clear x0 x1 x2 x3 x4 y0 y1 y2 y3 y4 z0 z1 z2 z3 z4
    have hc := ordI_any HT.out.vb HT.out.vc HT.out.sb
    rw [hM.out] at hc
    refine hc.mono ?_
    clear hc
    rintro e w12 ⟨rfl, hb12⟩
    have HX := hide (HT.out.go hb12)
    clear HT hb12
    have HT := HX
    clear HX
    obtain ⟨x0, x1, x2, x3, x4⟩ := HT.out.ka.cell
    obtain ⟨y0, y1, y2, y3, y4⟩ := HT.out.kb.cell
    obtain ⟨z0, z1, z2, z3, z4⟩ := HT.out.kc.cell
    go_wp2_with fail
    clear x0 x1 x2 x3 x4 y0 y1 y2 y3 y4 z0 z1 z2 z3 z4
    have hc := ordI_any HT.out.va HT.out.vc HT.out.sa
    rw [hL.out] at hc
    refine hc.mono ?_
    clear hc
    rintro e w13 ⟨rfl, hb13⟩
    have HX := hide (HT.out.go hb13)
    clear HT hb13
    have HT := HX
    clear HX
    go_wp2_with fail
    go_ret
    exact ⟨rfl, HT.out.below⟩
end Go.Proofs.Ythbpfiandjggcaa
