/- Texts of the proof, put together by program: LFnRowBack. -/
import Derived.Test.YtilgbnnjecpneaaGreatDoorU32
/- FnRowBack: for all bytes that lie in memory the law answers true. -/
namespace Go.Proofs.YtilgbnnjecpneaaGreatDoor
open Go.RowKit Go.Deep

set_option maxRecDepth 100000 in
set_option maxHeartbeats 16000000 in
theorem lawFnRowBack (a : Option Addr) (n cap : Nat) (a' : Option Addr) (n' cap' : Nat) (w : World) (hcap : n ≤ cap) (_hcap' : n' ≤ cap') (_hm : cap ≤ 9223372036854775807) (_hm' : cap' ≤ 9223372036854775807) (hB : BytesAt w.heap.size w a n) (_hB' : BytesAt w.heap.size w a' n') (hg : ErrType w) :
    Calls Tryz.prog 7 #[.slice a n cap, .slice a' n' cap'] w fun e w' => e = .returned (.bool true) ∧ Below w.heap.size w w' := by
  by_cases hn : 1048576 < n
  · go_enter Tryz.func7, Tryz.ntmps7
    go_wp2_with fail
    go_ret
    exact ⟨rfl, Below.refl _ _⟩
  by_cases hn' : 1048576 < n'
  · go_enter Tryz.func7, Tryz.ntmps7
    go_wp2_with fail
    go_ret
    exact ⟨rfl, Below.refl _ _⟩
  go_enter Tryz.func7, Tryz.ntmps7
  go_wp2_with fail
  refine (drawRowBack_any a n cap w hcap hB).mono ?_
  rintro e w1 ⟨u, V, rfl, hv, hv1, hbl⟩
  obtain ⟨v0, v1, v2, v3, v4, v5, v6, v7, v8, rfl⟩ := hv.shape
  have HE : Hid (Amid w w1) := ⟨hbl, hg.below hbl⟩
  have hzV : wtT 11 V ≤ 10000 := by omega
  clear hbl hB _hB' hv1
  obtain ⟨W2, HW2⟩ : ∃ W1, Hid (w1.alloc (.cells #[.int .i64 v0, .int .i64 v1, .string v2, .slice v3 v4 v5, .slice v6 v7 v8] 29) = W1) := ⟨_, rfl⟩
  have hA2 : Below w1.heap.size w1 W2 := by rw [← HW2.out]; exact below_alloc1 _ _
  have Hv : Hid (VarAt w W2 w1.heap.size v0 v1 v2 v3 v4 v5 v6 v7 v8 11 V) := by rw [← HW2.out]; exact VarAt.new hv
  clear hv
  go_wp2_with fail
  rw [HW2.out]
  clear HW2
  replace HE := hide (HE.out.go hA2)
  clear hA2
  obtain ⟨⟨Bk, o1⟩, hBk⟩ : ∃ r, Hid (rowTell (backF 10) V = r) := ⟨_, rfl⟩
  have hzB : wtT 11 Bk ≤ 10000 := by have := wtT_ok (okT_rowTell (backF 10) V); rw [hBk.out] at this; have h2 : wtT 11 Bk ≤ 300 := this; omega
  have hc := rbackI (d := 10) Hv.out.val HE.out.err HE.out.le
  rw [hBk.out] at hc; dsimp only at hc
  refine hc.mono ?_
  clear hc
  rintro e w3 ⟨b0, b1, b2, b3, b4, b5, b6, b7, b8, rfl, hu3, hb3⟩
  replace Hv := hide (Hv.out.go hb3)
  replace HE := hide (HE.out.go hb3)
  clear hb3
  obtain ⟨xv0, xv1, xv2, xv3, xv4⟩ := Hv.out.blk.cell
  have xvl := Hv.out.blk.lt
  obtain ⟨W4, HW4⟩ : ∃ W1, Hid (w3.alloc (.cells #[.int .i64 b0, .int .i64 b1, .string b2, .slice b3 b4 b5, .slice b6 b7 b8] 29) = W1) := ⟨_, rfl⟩
  have hA4 : Below w3.heap.size w3 W4 := by rw [← HW4.out]; exact below_alloc1 _ _
  have Hb : Hid (VarAt w W4 w3.heap.size b0 b1 b2 b3 b4 b5 b6 b7 b8 11 Bk) := by rw [← HW4.out]; exact VarAt.new hu3
  clear hu3
  go_wp2_with fail
  rw [HW4.out]
  clear HW4
  clear xv0 xv1 xv2 xv3 xv4 xvl
  replace Hv := hide (Hv.out.go hA4)
  replace HE := hide (HE.out.go hA4)
  clear hA4
  have hc := rbackS (d := 10) Hv.out.val hzV HE.out.le
  rw [hBk.out] at hc; dsimp only at hc
  refine hc.mono ?_
  clear hc
  rintro e w5 ⟨y0, y1, y2, y3, y4, y5, y6, y7, y8, rfl, hu5, hb5⟩
  replace Hv := hide (Hv.out.go hb5)
  replace Hb := hide (Hb.out.go hb5)
  replace HE := hide (HE.out.go hb5)
  clear hb5
  obtain ⟨xb0, xb1, xb2, xb3, xb4⟩ := Hb.out.blk.cell
  have xbl := Hb.out.blk.lt
  obtain ⟨W6, HW6⟩ : ∃ W1, Hid (w5.alloc (.cells #[.int .i64 y0, .int .i64 y1, .string y2, .slice y3 y4 y5, .slice y6 y7 y8] 29) = W1) := ⟨_, rfl⟩
  have hA6 : Below w5.heap.size w5 W6 := by rw [← HW6.out]; exact below_alloc1 _ _
  have Hy : Hid (VarAt w W6 w5.heap.size y0 y1 y2 y3 y4 y5 y6 y7 y8 11 Bk) := by rw [← HW6.out]; exact VarAt.new hu5
  clear hu5
  go_wp2_with fail
  rw [HW6.out]
  clear HW6
  clear xb0 xb1 xb2 xb3 xb4 xbl
  replace Hv := hide (Hv.out.go hA6)
  replace Hb := hide (Hb.out.go hA6)
  replace HE := hide (HE.out.go hA6)
  clear hA6
  have hc := samE Hb.out.val Hy.out.val hzB
  refine hc.mono ?_
  clear hc
  rintro e w7 ⟨rfl, hb7⟩
  replace Hv := hide (Hv.out.go hb7)
  replace Hb := hide (Hb.out.go hb7)
  replace Hy := hide (Hy.out.go hb7)
  replace HE := hide (HE.out.go hb7)
  clear hb7
  cases o1 with
  | false =>
    obtain ⟨xb0, xb1, xb2, xb3, xb4⟩ := Hb.out.blk.cell
    have xbl := Hb.out.blk.lt
    obtain ⟨xy0, xy1, xy2, xy3, xy4⟩ := Hy.out.blk.cell
    have xyl := Hy.out.blk.lt
    go_wp2_with fail
    clear xb0 xb1 xb2 xb3 xb4 xbl xy0 xy1 xy2 xy3 xy4 xyl
    have hc := samE Hb.out.val Hy.out.val hzB
    refine hc.mono ?_
    clear hc
    rintro e w8 ⟨rfl, hb8⟩
    replace Hv := hide (Hv.out.go hb8)
    replace Hb := hide (Hb.out.go hb8)
    replace Hy := hide (Hy.out.go hb8)
    replace HE := hide (HE.out.go hb8)
    clear hb8
    go_wp2_with fail
    go_ret
    exact ⟨rfl, HE.out.bel⟩
  | true =>
    clear Hy
    have hTO := tell_ok (f := backF 10) (t := V) (by rw [hBk.out])
    have okV := hTO.1
    have h5V := hTO.2.1
    clear hTO
    have okR : okT 11 (rowT 10 (Nd.list (α := Tr 10) V)) = true := by have h := okV; rw [row_self (d := 10) okV h5V] at h; exact h
    have hBe : Bk = rowT 10 (Nd.list (α := Tr 10) V).reverse := by have h := back_ok (d := 10) okV h5V; rw [hBk.out] at h; exact congrArg Prod.fst h
    subst hBe
    have hv7 : v7 = (Nd.list (α := Tr 10) V).length := (val_parts (d := 10) Hv.out.val).2.2.2.2.1
    have hv60 : v7 ≤ 60 := by rw [hv7]; exact (okT_kinds (d := 10) okV).2.1
    have HV7 := hide hv7
    clear hv7
    obtain ⟨kk, hkv, hmod, hwr, hne0, hne1, hik, hiv⟩ := mod_facts n' v7 hv60
    have okD := okT_rowDrop okR kk
    have okK := okT_take okR kk
    have hC1 : Hid (cutR 10 V 0 (kk : Int) = (rowT 10 ((Nd.list (α := Tr 10) V).take kk), true)) := cut_first (d := 10) okV h5V (by rw [← HV7.out]; exact hkv)
    have hC2 : Hid (cutR 10 V (kk : Int) (v7 : Int) = (rowT 10 ((Nd.list (α := Tr 10) V).drop kk), true)) := by have h := cut_last (d := 10) (k := kk) okV h5V (by rw [← HV7.out]; exact hkv) okD; rw [← HV7.out] at h; exact h
    have hB1 : Hid (rowTell (backF 10) (rowT 10 ((Nd.list (α := Tr 10) V).take kk)) = (rowT 10 ((Nd.list (α := Tr 10) V).take kk).reverse, true)) := back_row okK
    have hB2 : Hid (rowTell (backF 10) (rowT 10 ((Nd.list (α := Tr 10) V).drop kk)) = (rowT 10 ((Nd.list (α := Tr 10) V).drop kk).reverse, true)) := back_row okD
    have hrev : (Nd.list (α := Tr 10) V).reverse = ((Nd.list (α := Tr 10) V).drop kk).reverse ++ ((Nd.list (α := Tr 10) V).take kk).reverse := by rw [← List.reverse_append, List.take_append_drop]
    have hAD : Hid (partAddT 10 (rowT 10 ((Nd.list (α := Tr 10) V).drop kk).reverse) (rowT 10 ((Nd.list (α := Tr 10) V).take kk).reverse) = (rowT 10 (Nd.list (α := Tr 10) V).reverse, true)) := by show _ = _; rw [hrev]; exact add_rowT (okT_rowR okD (List.reverse_perm _)) (okT_rowR okK (List.reverse_perm _)) (by rw [← hrev]; exact okT_rowR okR (List.reverse_perm _))
    obtain ⟨M, hM0, okM⟩ := least_ok (d := 9) okR
    have hL1 : Hid (rowTell (leastF 9) V = (M, true)) := by show _ = _; rw [row_self (d := 10) okV h5V]; exact tell_of okR hM0 okM
    have hL2 : Hid (rowTell (leastF 9) (rowT 10 (Nd.list (α := Tr 10) V).reverse) = (M, true)) := tell_of (okT_rowR okR (List.reverse_perm _)) (by rw [least_perm (List.reverse_perm _)]; exact hM0) okM
    have hzM : wtT 10 M ≤ 10000 := wt_ok okM
    clear hrev hM0 okM okD okK okR
    obtain ⟨xv0, xv1, xv2, xv3, xv4⟩ := Hv.out.blk.cell
    have xvl := Hv.out.blk.lt
    go_wp2_with fail
    clear xv0 xv1 xv2 xv3 xv4 xvl
    have hc := rcutI' (d := 10) (i := 0) (j := (kk : Int)) i64_zero hik Hv.out.val HE.out.err HE.out.le
    rw [hC1.out] at hc; dsimp only at hc
    refine hc.mono ?_
    clear hc
    rintro e w8 ⟨p0, p1, p2, p3, p4, p5, p6, p7, p8, rfl, hu8, hb8⟩
    replace Hv := hide (Hv.out.go hb8)
    replace Hb := hide (Hb.out.go hb8)
    replace HE := hide (HE.out.go hb8)
    clear hb8
    obtain ⟨xv0, xv1, xv2, xv3, xv4⟩ := Hv.out.blk.cell
    have xvl := Hv.out.blk.lt
    obtain ⟨W9, HW9⟩ : ∃ W1, Hid (w8.alloc (.cells #[.int .i64 p0, .int .i64 p1, .string p2, .slice p3 p4 p5, .slice p6 p7 p8] 29) = W1) := ⟨_, rfl⟩
    have hA9 : Below w8.heap.size w8 W9 := by rw [← HW9.out]; exact below_alloc1 _ _
    have Hp : Hid (VarAt w W9 w8.heap.size p0 p1 p2 p3 p4 p5 p6 p7 p8 11 (rowT 10 ((Nd.list (α := Tr 10) V).take kk))) := by rw [← HW9.out]; exact VarAt.new hu8
    clear hu8
    go_wp2_with fail
    rw [HW9.out]
    clear HW9
    clear xv0 xv1 xv2 xv3 xv4 xvl
    replace Hv := hide (Hv.out.go hA9)
    replace Hb := hide (Hb.out.go hA9)
    replace HE := hide (HE.out.go hA9)
    clear hA9
    have hc := rcutI' (d := 10) (i := (kk : Int)) (j := (v7 : Int)) hik hiv Hv.out.val HE.out.err HE.out.le
    rw [hC2.out] at hc; dsimp only at hc
    refine hc.mono ?_
    clear hc
    rintro e w10 ⟨q0, q1, q2, q3, q4, q5, q6, q7, q8, rfl, hu10, hb10⟩
    replace Hv := hide (Hv.out.go hb10)
    replace Hb := hide (Hb.out.go hb10)
    replace Hp := hide (Hp.out.go hb10)
    replace HE := hide (HE.out.go hb10)
    clear hb10
    obtain ⟨xp0, xp1, xp2, xp3, xp4⟩ := Hp.out.blk.cell
    have xpl := Hp.out.blk.lt
    obtain ⟨W11, HW11⟩ : ∃ W1, Hid (w10.alloc (.cells #[.int .i64 q0, .int .i64 q1, .string q2, .slice q3 q4 q5, .slice q6 q7 q8] 29) = W1) := ⟨_, rfl⟩
    have hA11 : Below w10.heap.size w10 W11 := by rw [← HW11.out]; exact below_alloc1 _ _
    have Hq : Hid (VarAt w W11 w10.heap.size q0 q1 q2 q3 q4 q5 q6 q7 q8 11 (rowT 10 ((Nd.list (α := Tr 10) V).drop kk))) := by rw [← HW11.out]; exact VarAt.new hu10
    clear hu10
    go_wp2_with fail
    rw [HW11.out]
    clear HW11
    clear xp0 xp1 xp2 xp3 xp4 xpl
    replace Hv := hide (Hv.out.go hA11)
    replace Hb := hide (Hb.out.go hA11)
    replace Hp := hide (Hp.out.go hA11)
    replace HE := hide (HE.out.go hA11)
    clear hA11
    have hc := rbackI (d := 10) Hp.out.val HE.out.err HE.out.le
    rw [hB1.out] at hc; dsimp only at hc
    refine hc.mono ?_
    clear hc
    rintro e w12 ⟨r0, r1, r2, r3, r4, r5, r6, r7, r8, rfl, hu12, hb12⟩
    replace Hv := hide (Hv.out.go hb12)
    replace Hb := hide (Hb.out.go hb12)
    replace Hp := hide (Hp.out.go hb12)
    replace Hq := hide (Hq.out.go hb12)
    replace HE := hide (HE.out.go hb12)
    clear hb12
    clear Hp
    obtain ⟨xq0, xq1, xq2, xq3, xq4⟩ := Hq.out.blk.cell
    have xql := Hq.out.blk.lt
    obtain ⟨W13, HW13⟩ : ∃ W1, Hid (w12.alloc (.cells #[.int .i64 r0, .int .i64 r1, .string r2, .slice r3 r4 r5, .slice r6 r7 r8] 29) = W1) := ⟨_, rfl⟩
    have hA13 : Below w12.heap.size w12 W13 := by rw [← HW13.out]; exact below_alloc1 _ _
    have Hr : Hid (VarAt w W13 w12.heap.size r0 r1 r2 r3 r4 r5 r6 r7 r8 11 (rowT 10 ((Nd.list (α := Tr 10) V).take kk).reverse)) := by rw [← HW13.out]; exact VarAt.new hu12
    clear hu12
    go_wp2_with fail
    rw [HW13.out]
    clear HW13
    clear xq0 xq1 xq2 xq3 xq4 xql
    replace Hv := hide (Hv.out.go hA13)
    replace Hb := hide (Hb.out.go hA13)
    replace Hq := hide (Hq.out.go hA13)
    replace HE := hide (HE.out.go hA13)
    clear hA13
    have hc := rbackI (d := 10) Hq.out.val HE.out.err HE.out.le
    rw [hB2.out] at hc; dsimp only at hc
    refine hc.mono ?_
    clear hc
    rintro e w14 ⟨s0, s1, s2, s3, s4, s5, s6, s7, s8, rfl, hu14, hb14⟩
    replace Hv := hide (Hv.out.go hb14)
    replace Hb := hide (Hb.out.go hb14)
    replace Hq := hide (Hq.out.go hb14)
    replace Hr := hide (Hr.out.go hb14)
    replace HE := hide (HE.out.go hb14)
    clear hb14
    clear Hq
    obtain ⟨xr0, xr1, xr2, xr3, xr4⟩ := Hr.out.blk.cell
    have xrl := Hr.out.blk.lt
    obtain ⟨W15, HW15⟩ : ∃ W1, Hid (w14.alloc (.cells #[.int .i64 s0, .int .i64 s1, .string s2, .slice s3 s4 s5, .slice s6 s7 s8] 29) = W1) := ⟨_, rfl⟩
    have hA15 : Below w14.heap.size w14 W15 := by rw [← HW15.out]; exact below_alloc1 _ _
    have Hs : Hid (VarAt w W15 w14.heap.size s0 s1 s2 s3 s4 s5 s6 s7 s8 11 (rowT 10 ((Nd.list (α := Tr 10) V).drop kk).reverse)) := by rw [← HW15.out]; exact VarAt.new hu14
    clear hu14
    go_wp2_with fail
    rw [HW15.out]
    clear HW15
    clear xr0 xr1 xr2 xr3 xr4 xrl
    replace Hv := hide (Hv.out.go hA15)
    replace Hb := hide (Hb.out.go hA15)
    replace Hr := hide (Hr.out.go hA15)
    replace HE := hide (HE.out.go hA15)
    clear hA15
    have hc := addI (d := 10) Hs.out.val Hr.out.val HE.out.err HE.out.le
    rw [hAD.out] at hc; dsimp only at hc
    refine hc.mono ?_
    clear hc
    rintro e w16 ⟨t0, t1, t2, t3, t4, t5, t6, t7, t8, rfl, hu16, hb16⟩
    replace Hv := hide (Hv.out.go hb16)
    replace Hb := hide (Hb.out.go hb16)
    replace Hr := hide (Hr.out.go hb16)
    replace Hs := hide (Hs.out.go hb16)
    replace HE := hide (HE.out.go hb16)
    clear hb16
    clear Hs
    clear Hr
    obtain ⟨xv0, xv1, xv2, xv3, xv4⟩ := Hv.out.blk.cell
    have xvl := Hv.out.blk.lt
    obtain ⟨W17, HW17⟩ : ∃ W1, Hid (w16.alloc (.cells #[.int .i64 t0, .int .i64 t1, .string t2, .slice t3 t4 t5, .slice t6 t7 t8] 29) = W1) := ⟨_, rfl⟩
    have hA17 : Below w16.heap.size w16 W17 := by rw [← HW17.out]; exact below_alloc1 _ _
    have Ht : Hid (VarAt w W17 w16.heap.size t0 t1 t2 t3 t4 t5 t6 t7 t8 11 (rowT 10 (Nd.list (α := Tr 10) V).reverse)) := by rw [← HW17.out]; exact VarAt.new hu16
    clear hu16
    go_wp2_with fail
    rw [HW17.out]
    clear HW17
    clear xv0 xv1 xv2 xv3 xv4 xvl
    replace Hv := hide (Hv.out.go hA17)
    replace Hb := hide (Hb.out.go hA17)
    replace HE := hide (HE.out.go hA17)
    clear hA17
    have hc := rleastI (d := 9) Hv.out.val HE.out.err HE.out.le
    rw [hL1.out] at hc; dsimp only at hc
    refine hc.mono ?_
    clear hc
    rintro e w18 ⟨l0, l1, l2, l3, l4, l5, l6, l7, l8, rfl, hu18, hb18⟩
    replace Hv := hide (Hv.out.go hb18)
    replace Hb := hide (Hb.out.go hb18)
    replace Ht := hide (Ht.out.go hb18)
    replace HE := hide (HE.out.go hb18)
    clear hb18
    obtain ⟨xb0, xb1, xb2, xb3, xb4⟩ := Hb.out.blk.cell
    have xbl := Hb.out.blk.lt
    obtain ⟨W19, HW19⟩ : ∃ W1, Hid (w18.alloc (.cells #[.int .i64 l0, .int .i64 l1, .string l2, .slice l3 l4 l5, .slice l6 l7 l8] 29) = W1) := ⟨_, rfl⟩
    have hA19 : Below w18.heap.size w18 W19 := by rw [← HW19.out]; exact below_alloc1 _ _
    have Hl : Hid (VarAt w W19 w18.heap.size l0 l1 l2 l3 l4 l5 l6 l7 l8 10 M) := by rw [← HW19.out]; exact VarAt.new hu18
    clear hu18
    go_wp2_with fail
    rw [HW19.out]
    clear HW19
    clear xb0 xb1 xb2 xb3 xb4 xbl
    replace Hv := hide (Hv.out.go hA19)
    replace Hb := hide (Hb.out.go hA19)
    replace Ht := hide (Ht.out.go hA19)
    replace HE := hide (HE.out.go hA19)
    clear hA19
    have hc := rleastI (d := 9) Hb.out.val HE.out.err HE.out.le
    rw [hL2.out] at hc; dsimp only at hc
    refine hc.mono ?_
    clear hc
    rintro e w20 ⟨m0, m1, m2, m3, m4, m5, m6, m7, m8, rfl, hu20, hb20⟩
    replace Hv := hide (Hv.out.go hb20)
    replace Hb := hide (Hb.out.go hb20)
    replace Ht := hide (Ht.out.go hb20)
    replace Hl := hide (Hl.out.go hb20)
    replace HE := hide (HE.out.go hb20)
    clear hb20
    obtain ⟨xt0, xt1, xt2, xt3, xt4⟩ := Ht.out.blk.cell
    have xtl := Ht.out.blk.lt
    obtain ⟨xb0, xb1, xb2, xb3, xb4⟩ := Hb.out.blk.cell
    have xbl := Hb.out.blk.lt
    obtain ⟨xl0, xl1, xl2, xl3, xl4⟩ := Hl.out.blk.cell
    have xll := Hl.out.blk.lt
    obtain ⟨W21, HW21⟩ : ∃ W1, Hid (w20.alloc (.cells #[.int .i64 m0, .int .i64 m1, .string m2, .slice m3 m4 m5, .slice m6 m7 m8] 29) = W1) := ⟨_, rfl⟩
    have hA21 : Below w20.heap.size w20 W21 := by rw [← HW21.out]; exact below_alloc1 _ _
    have Hm : Hid (VarAt w W21 w20.heap.size m0 m1 m2 m3 m4 m5 m6 m7 m8 10 M) := by rw [← HW21.out]; exact VarAt.new hu20
    clear hu20
    go_wp2_with fail
    rw [HW21.out]
    clear HW21
    clear xt0 xt1 xt2 xt3 xt4 xtl xb0 xb1 xb2 xb3 xb4 xbl xl0 xl1 xl2 xl3 xl4 xll
    replace Hv := hide (Hv.out.go hA21)
    replace Hb := hide (Hb.out.go hA21)
    replace Ht := hide (Ht.out.go hA21)
    replace Hl := hide (Hl.out.go hA21)
    replace HE := hide (HE.out.go hA21)
    clear hA21
    have hc := samE Ht.out.val Hb.out.val hzB
    refine hc.mono ?_
    clear hc
    rintro e w22 ⟨rfl, hb22⟩
    replace Hv := hide (Hv.out.go hb22)
    replace Hb := hide (Hb.out.go hb22)
    replace Ht := hide (Ht.out.go hb22)
    replace Hl := hide (Hl.out.go hb22)
    replace Hm := hide (Hm.out.go hb22)
    replace HE := hide (HE.out.go hb22)
    clear hb22
    obtain ⟨xl0, xl1, xl2, xl3, xl4⟩ := Hl.out.blk.cell
    have xll := Hl.out.blk.lt
    obtain ⟨xm0, xm1, xm2, xm3, xm4⟩ := Hm.out.blk.cell
    have xml := Hm.out.blk.lt
    go_wp2_with fail
    clear xl0 xl1 xl2 xl3 xl4 xll xm0 xm1 xm2 xm3 xm4 xml
    have hc := samE Hl.out.val Hm.out.val hzM
    refine hc.mono ?_
    clear hc
    rintro e w23 ⟨rfl, hb23⟩
    replace Hv := hide (Hv.out.go hb23)
    replace Hb := hide (Hb.out.go hb23)
    replace Ht := hide (Ht.out.go hb23)
    replace Hl := hide (Hl.out.go hb23)
    replace Hm := hide (Hm.out.go hb23)
    replace HE := hide (HE.out.go hb23)
    clear hb23
    go_wp2_with fail
    go_ret
    exact ⟨rfl, HE.out.bel⟩
end Go.Proofs.YtilgbnnjecpneaaGreatDoor
