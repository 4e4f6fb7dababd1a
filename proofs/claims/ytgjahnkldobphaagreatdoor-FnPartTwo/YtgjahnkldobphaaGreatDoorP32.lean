/- Texts of the proof, put together by program: LFnPartTwo. -/
import Derived.Test.YtgjahnkldobphaaGreatDoorP31
/- FnPartTwo: for all bytes that lie in memory the law answers true. -/
namespace Go.Proofs.YtgjahnkldobphaaGreatDoor
open Go.RowKit Go.Deep

set_option maxRecDepth 100000 in
set_option maxHeartbeats 8000000 in
theorem lawFnPartTwo (a : Option Addr) (n cap : Nat) (a' : Option Addr) (n' cap' : Nat) (w : World) (hcap : n ≤ cap) (hcap' : n' ≤ cap') (_hm : cap ≤ 9223372036854775807) (_hm' : cap' ≤ 9223372036854775807) (hB : BytesAt w.heap.size w a n) (hB' : BytesAt w.heap.size w a' n') (hg : ErrType w) :
    Calls Tryz.prog 5 #[.slice a n cap, .slice a' n' cap'] w fun e w' => e = .returned (.bool true) ∧ Below w.heap.size w w' := by
  by_cases hn : 1048576 < n
  · go_enter Tryz.func5, Tryz.ntmps5
    go_wp2_with fail
    go_ret
    exact ⟨rfl, Below.refl _ _⟩
  by_cases hn' : 1048576 < n'
  · go_enter Tryz.func5, Tryz.ntmps5
    go_wp2_with fail
    go_ret
    exact ⟨rfl, Below.refl _ _⟩
  go_enter Tryz.func5, Tryz.ntmps5
  go_wp2_with fail
  refine (drawPartPut_any a n cap w hcap hB).mono ?_
  rintro e w1 ⟨u, tv, sa, u', tx, rfl, hsa, hv, hv1, hx, hx1, hb1⟩
  obtain ⟨v0, v1, v2, v3, v4, v5, v6, v7, v8, rfl⟩ := hv.shape
  obtain ⟨x0, x1, x2, x3, x4, x5, x6, x7, x8, rfl⟩ := hx.shape
  have HE : Hid (Amid w w1) := ⟨hb1, hg.below hb1⟩
  have hBy := hB'.wider (r' := w1.heap.size) (fun b hb => hb1.block b hb) hb1.size
  clear hb1 hB hB'
  go_wp2_with fail
  have hv12 := hv.upN 1
  have hz12 : wtT 12 (upN 11 1 tv) ≤ 10000 := Nat.le_trans (Nat.le_of_eq (wtT_upN 11 1 tv)) (by omega)
  have hzx : wtT 11 tx ≤ 10000 := by omega
  obtain ⟨V, hV⟩ : ∃ V : Tr 12, V = upN 11 1 tv := ⟨_, rfl⟩
  replace hv12 : ValAt (FreshP w w1) w1 12 V (.agg #[.int .i64 v0, .int .i64 v1, .string v2, .slice v3 v4 v5, .slice v6 v7 v8]) := by rw [hV]; exact hv12
  rw [← hV] at hz12
  obtain ⟨Hv, Hx, hA⟩ := VarAt.two hv12 hx
  obtain ⟨W2, HW⟩ : ∃ W2, Hid ((w1.alloc (.cells #[.int .i64 v0, .int .i64 v1, .string v2, .slice v3 v4 v5, .slice v6 v7 v8] 26)).alloc (.cells #[.int .i64 x0, .int .i64 x1, .string x2, .slice x3 x4 x5, .slice x6 x7 x8] 26) = W2) := ⟨_, rfl⟩
  rw [HW.out] at Hv Hx hA ⊢
  clear HW hv hx hv12 hV hv1 hx1
  replace Hv := hide Hv
  replace Hx := hide Hx
  replace HE := hide (HE.out.go hA)
  replace hBy := hBy.wider (r' := W2.heap.size) (fun b hb => hA.block b hb) hA.size
  clear hA
  refine (drawPartPut_any a' n' cap' W2 hcap' hBy).mono ?_
  rintro e w3 ⟨u, tu, sb, u', ty, rfl, hsb, hu, _, hy, hy1, hb3⟩
  obtain ⟨u0, u1, u2, u3, u4, u5, u6, u7, u8, rfl⟩ := hu.shape
  replace hu := freshP_wide hu HE.out.le
  obtain ⟨y0, y1, y2, y3, y4, y5, y6, y7, y8, rfl⟩ := hy.shape
  replace hy := freshP_wide hy HE.out.le
  have hzy : wtT 11 ty ≤ 10000 := by omega
  clear hBy hy1
  have hsa' : sa.size < 281474976710656 := by omega
  have hsb' : sb.size < 281474976710656 := by omega
  clear hsa hsb
  replace Hv := hide (Hv.out.go hb3)
  replace Hx := hide (Hx.out.go hb3)
  replace HE := hide (HE.out.go hb3)
  clear hb3
  obtain ⟨xv0, xv1, xv2, xv3, xv4⟩ := Hv.out.blk.cell
  have xvl := Hv.out.blk.lt
  obtain ⟨xx0, xx1, xx2, xx3, xx4⟩ := Hx.out.blk.cell
  have xxl := Hx.out.blk.lt
  obtain ⟨W4, HW4⟩ : ∃ W1, Hid ((w3.alloc (.cells #[.int .i64 u0, .int .i64 u1, .string u2, .slice u3 u4 u5, .slice u6 u7 u8] 26)).alloc (.cells #[.int .i64 y0, .int .i64 y1, .string y2, .slice y3 y4 y5, .slice y6 y7 y8] 26) = W1) := ⟨_, rfl⟩
  obtain ⟨Hu, Hy, hA4⟩ := VarAt.two hu hy
  rw [HW4.out] at Hu Hy hA4
  replace Hu := hide Hu
  replace Hy := hide Hy
  clear hu hy
  go_wp2_with fail
  rw [HW4.out]
  clear HW4
  clear xv0 xv1 xv2 xv3 xv4 xvl xx0 xx1 xx2 xx3 xx4 xxl
  replace Hv := hide (Hv.out.go hA4)
  replace Hx := hide (Hx.out.go hA4)
  replace HE := hide (HE.out.go hA4)
  clear hA4
  clear Hu
  obtain ⟨⟨P, b1⟩, hP⟩ : ∃ r, Hid (partPutT 10 V sa tx = r) := ⟨_, rfl⟩
  have hzP : wtT 12 P ≤ 10000 := by have := wtT_ok (okT_partPut 10 V sa tx); rw [hP.out] at this; have okP : wtT 12 P ≤ 300 := this; omega
  have hc := putI (d := 10) Hv.out.val Hx.out.val hsa' HE.out.err HE.out.le
  rw [hP.out] at hc; dsimp only at hc
  refine hc.mono ?_
  clear hc
  rintro e w5 ⟨p0, p1, p2, p3, p4, p5, p6, p7, p8, rfl, hu5, hb5⟩
  replace Hv := hide (Hv.out.go hb5)
  replace Hx := hide (Hx.out.go hb5)
  replace Hy := hide (Hy.out.go hb5)
  replace HE := hide (HE.out.go hb5)
  clear hb5
  obtain ⟨xv0, xv1, xv2, xv3, xv4⟩ := Hv.out.blk.cell
  have xvl := Hv.out.blk.lt
  obtain ⟨xx0, xx1, xx2, xx3, xx4⟩ := Hx.out.blk.cell
  have xxl := Hx.out.blk.lt
  obtain ⟨W6, HW6⟩ : ∃ W1, Hid (w5.alloc (.cells #[.int .i64 p0, .int .i64 p1, .string p2, .slice p3 p4 p5, .slice p6 p7 p8] 26) = W1) := ⟨_, rfl⟩
  have hA6 : Below w5.heap.size w5 W6 := by rw [← HW6.out]; exact below_alloc1 _ _
  have Hp : Hid (VarAt w W6 w5.heap.size p0 p1 p2 p3 p4 p5 p6 p7 p8 12 P) := by rw [← HW6.out]; exact VarAt.new hu5
  clear hu5
  go_wp2_with fail
  rw [HW6.out]
  clear HW6
  clear xv0 xv1 xv2 xv3 xv4 xvl xx0 xx1 xx2 xx3 xx4 xxl
  replace Hv := hide (Hv.out.go hA6)
  replace Hx := hide (Hx.out.go hA6)
  replace Hy := hide (Hy.out.go hA6)
  replace HE := hide (HE.out.go hA6)
  clear hA6
  have hc := putS (d := 10) Hv.out.val Hx.out.val hsa' hz12 hzx HE.out.le
  rw [hP.out] at hc; dsimp only at hc
  refine hc.mono ?_
  clear hc
  rintro e w7 ⟨q0, q1, q2, q3, q4, q5, q6, q7, q8, rfl, hu7, hb7⟩
  replace Hv := hide (Hv.out.go hb7)
  replace Hx := hide (Hx.out.go hb7)
  replace Hy := hide (Hy.out.go hb7)
  replace Hp := hide (Hp.out.go hb7)
  replace HE := hide (HE.out.go hb7)
  clear hb7
  obtain ⟨xp0, xp1, xp2, xp3, xp4⟩ := Hp.out.blk.cell
  have xpl := Hp.out.blk.lt
  obtain ⟨W8, HW8⟩ : ∃ W1, Hid (w7.alloc (.cells #[.int .i64 q0, .int .i64 q1, .string q2, .slice q3 q4 q5, .slice q6 q7 q8] 26) = W1) := ⟨_, rfl⟩
  have hA8 : Below w7.heap.size w7 W8 := by rw [← HW8.out]; exact below_alloc1 _ _
  have Hq : Hid (VarAt w W8 w7.heap.size q0 q1 q2 q3 q4 q5 q6 q7 q8 12 P) := by rw [← HW8.out]; exact VarAt.new hu7
  clear hu7
  go_wp2_with fail
  rw [HW8.out]
  clear HW8
  clear xp0 xp1 xp2 xp3 xp4 xpl
  replace Hv := hide (Hv.out.go hA8)
  replace Hx := hide (Hx.out.go hA8)
  replace Hy := hide (Hy.out.go hA8)
  replace Hp := hide (Hp.out.go hA8)
  replace HE := hide (HE.out.go hA8)
  clear hA8
  have hc := samE Hp.out.val Hq.out.val hzP
  refine hc.mono ?_
  clear hc
  rintro e w9 ⟨rfl, hb9⟩
  replace Hv := hide (Hv.out.go hb9)
  replace Hx := hide (Hx.out.go hb9)
  replace Hy := hide (Hy.out.go hb9)
  replace Hp := hide (Hp.out.go hb9)
  replace Hq := hide (Hq.out.go hb9)
  replace HE := hide (HE.out.go hb9)
  clear hb9
  cases b1 with
  | false =>
    obtain ⟨xp0, xp1, xp2, xp3, xp4⟩ := Hp.out.blk.cell
    have xpl := Hp.out.blk.lt
    obtain ⟨xq0, xq1, xq2, xq3, xq4⟩ := Hq.out.blk.cell
    have xql := Hq.out.blk.lt
    go_wp2_with fail
    clear xp0 xp1 xp2 xp3 xp4 xpl xq0 xq1 xq2 xq3 xq4 xql
    have hc := samE Hp.out.val Hq.out.val hzP
    refine hc.mono ?_
    clear hc
    rintro e w10 ⟨rfl, hb10⟩
    replace Hv := hide (Hv.out.go hb10)
    replace Hx := hide (Hx.out.go hb10)
    replace Hy := hide (Hy.out.go hb10)
    replace Hp := hide (Hp.out.go hb10)
    replace Hq := hide (Hq.out.go hb10)
    replace HE := hide (HE.out.go hb10)
    clear hb10
    go_wp2_with fail
    go_ret
    exact ⟨rfl, HE.out.bel⟩
  | true =>
    clear Hq
    have okP : (partPutT 10 V sa tx).2 = true := by rw [hP.out]
    have isP : (partPutT 10 V sa tx).1 = P := by rw [hP.out]
    have hG : partGetT 10 P sa = (tx, true) := by rw [← isP]; exact get_put okP
    have hH : partPutT 10 P sa tx = (P, true) := by have := put_same okP; rw [isP] at this; exact this
    have hzP2 := hzP
    obtain ⟨xp0, xp1, xp2, xp3, xp4⟩ := Hp.out.blk.cell
    have xpl := Hp.out.blk.lt
    go_wp2_with fail
    clear xp0 xp1 xp2 xp3 xp4 xpl
    have hc := getI (d := 10) Hp.out.val hsa' HE.out.err HE.out.le
    rw [hG] at hc; dsimp only at hc
    refine hc.mono ?_
    clear hc
    rintro e w10 ⟨g0, g1, g2, g3, g4, g5, g6, g7, g8, rfl, hu10, hb10⟩
    replace Hv := hide (Hv.out.go hb10)
    replace Hx := hide (Hx.out.go hb10)
    replace Hy := hide (Hy.out.go hb10)
    replace Hp := hide (Hp.out.go hb10)
    replace HE := hide (HE.out.go hb10)
    clear hb10
    obtain ⟨xp0, xp1, xp2, xp3, xp4⟩ := Hp.out.blk.cell
    have xpl := Hp.out.blk.lt
    obtain ⟨W11, HW11⟩ : ∃ W1, Hid (w10.alloc (.cells #[.int .i64 g0, .int .i64 g1, .string g2, .slice g3 g4 g5, .slice g6 g7 g8] 26) = W1) := ⟨_, rfl⟩
    have hA11 : Below w10.heap.size w10 W11 := by rw [← HW11.out]; exact below_alloc1 _ _
    have Hg : Hid (VarAt w W11 w10.heap.size g0 g1 g2 g3 g4 g5 g6 g7 g8 11 tx) := by rw [← HW11.out]; exact VarAt.new hu10
    clear hu10
    go_wp2_with fail
    rw [HW11.out]
    clear HW11
    clear xp0 xp1 xp2 xp3 xp4 xpl
    replace Hv := hide (Hv.out.go hA11)
    replace Hx := hide (Hx.out.go hA11)
    replace Hy := hide (Hy.out.go hA11)
    replace Hp := hide (Hp.out.go hA11)
    replace HE := hide (HE.out.go hA11)
    clear hA11
    have hc := putI (d := 10) Hp.out.val Hg.out.val hsa' HE.out.err HE.out.le
    rw [hH] at hc; dsimp only at hc
    refine hc.mono ?_
    clear hc
    rintro e w12 ⟨h0, h1, h2, h3, h4, h5, h6, h7, h8, rfl, hu12, hb12⟩
    replace Hv := hide (Hv.out.go hb12)
    replace Hx := hide (Hx.out.go hb12)
    replace Hy := hide (Hy.out.go hb12)
    replace Hp := hide (Hp.out.go hb12)
    replace Hg := hide (Hg.out.go hb12)
    replace HE := hide (HE.out.go hb12)
    clear hb12
    clear Hg
    obtain ⟨xp0, xp1, xp2, xp3, xp4⟩ := Hp.out.blk.cell
    have xpl := Hp.out.blk.lt
    obtain ⟨W13, HW13⟩ : ∃ W1, Hid (w12.alloc (.cells #[.int .i64 h0, .int .i64 h1, .string h2, .slice h3 h4 h5, .slice h6 h7 h8] 26) = W1) := ⟨_, rfl⟩
    have hA13 : Below w12.heap.size w12 W13 := by rw [← HW13.out]; exact below_alloc1 _ _
    have Hh : Hid (VarAt w W13 w12.heap.size h0 h1 h2 h3 h4 h5 h6 h7 h8 12 P) := by rw [← HW13.out]; exact VarAt.new hu12
    clear hu12
    go_wp2_with fail
    rw [HW13.out]
    clear HW13
    clear xp0 xp1 xp2 xp3 xp4 xpl
    replace Hv := hide (Hv.out.go hA13)
    replace Hx := hide (Hx.out.go hA13)
    replace Hy := hide (Hy.out.go hA13)
    replace Hp := hide (Hp.out.go hA13)
    replace HE := hide (HE.out.go hA13)
    clear hA13
    have hc := samE Hh.out.val Hp.out.val hzP
    refine hc.mono ?_
    clear hc
    rintro e w14 ⟨rfl, hb14⟩
    replace Hv := hide (Hv.out.go hb14)
    replace Hx := hide (Hx.out.go hb14)
    replace Hy := hide (Hy.out.go hb14)
    replace Hp := hide (Hp.out.go hb14)
    replace Hh := hide (Hh.out.go hb14)
    replace HE := hide (HE.out.go hb14)
    clear hb14
    clear Hh
    obtain ⟨xp0, xp1, xp2, xp3, xp4⟩ := Hp.out.blk.cell
    have xpl := Hp.out.blk.lt
    obtain ⟨xy0, xy1, xy2, xy3, xy4⟩ := Hy.out.blk.cell
    have xyl := Hy.out.blk.lt
    go_wp2_with fail
    obtain ⟨⟨R, b2⟩, hR⟩ : ∃ r, Hid (partPutT 10 P sb ty = r) := ⟨_, rfl⟩
    have hzR : wtT 12 R ≤ 10000 := by have := wtT_ok (okT_partPut 10 P sb ty); rw [hR.out] at this; have okP : wtT 12 R ≤ 300 := this; omega
    clear xp0 xp1 xp2 xp3 xp4 xpl xy0 xy1 xy2 xy3 xy4 xyl
    have hc := putI (d := 10) Hp.out.val Hy.out.val hsb' HE.out.err HE.out.le
    rw [hR.out] at hc; dsimp only at hc
    refine hc.mono ?_
    clear hc
    rintro e w15 ⟨r0, r1, r2, r3, r4, r5, r6, r7, r8, rfl, hu15, hb15⟩
    replace Hv := hide (Hv.out.go hb15)
    replace Hx := hide (Hx.out.go hb15)
    replace Hy := hide (Hy.out.go hb15)
    replace Hp := hide (Hp.out.go hb15)
    replace HE := hide (HE.out.go hb15)
    clear hb15
    clear Hp
    obtain ⟨xv0, xv1, xv2, xv3, xv4⟩ := Hv.out.blk.cell
    have xvl := Hv.out.blk.lt
    obtain ⟨xy0, xy1, xy2, xy3, xy4⟩ := Hy.out.blk.cell
    have xyl := Hy.out.blk.lt
    obtain ⟨W16, HW16⟩ : ∃ W1, Hid (w15.alloc (.cells #[.int .i64 r0, .int .i64 r1, .string r2, .slice r3 r4 r5, .slice r6 r7 r8] 26) = W1) := ⟨_, rfl⟩
    have hA16 : Below w15.heap.size w15 W16 := by rw [← HW16.out]; exact below_alloc1 _ _
    have Hr : Hid (VarAt w W16 w15.heap.size r0 r1 r2 r3 r4 r5 r6 r7 r8 12 R) := by rw [← HW16.out]; exact VarAt.new hu15
    clear hu15
    go_wp2_with fail
    rw [HW16.out]
    clear HW16
    clear xv0 xv1 xv2 xv3 xv4 xvl xy0 xy1 xy2 xy3 xy4 xyl
    replace Hv := hide (Hv.out.go hA16)
    replace Hx := hide (Hx.out.go hA16)
    replace Hy := hide (Hy.out.go hA16)
    replace HE := hide (HE.out.go hA16)
    clear hA16
    obtain ⟨⟨S3, b3⟩, hS⟩ : ∃ r, Hid (partPutT 10 V sb ty = r) := ⟨_, rfl⟩
    have hc := putI (d := 10) Hv.out.val Hy.out.val hsb' HE.out.err HE.out.le
    rw [hS.out] at hc; dsimp only at hc
    refine hc.mono ?_
    clear hc
    rintro e w17 ⟨s0, s1, s2, s3, s4, s5, s6, s7, s8, rfl, hu17, hb17⟩
    replace Hv := hide (Hv.out.go hb17)
    replace Hx := hide (Hx.out.go hb17)
    replace Hy := hide (Hy.out.go hb17)
    replace Hr := hide (Hr.out.go hb17)
    replace HE := hide (HE.out.go hb17)
    clear hb17
    clear Hv
    clear Hy
    obtain ⟨xx0, xx1, xx2, xx3, xx4⟩ := Hx.out.blk.cell
    have xxl := Hx.out.blk.lt
    obtain ⟨W18, HW18⟩ : ∃ W1, Hid (w17.alloc (.cells #[.int .i64 s0, .int .i64 s1, .string s2, .slice s3 s4 s5, .slice s6 s7 s8] 26) = W1) := ⟨_, rfl⟩
    have hA18 : Below w17.heap.size w17 W18 := by rw [← HW18.out]; exact below_alloc1 _ _
    have Hs : Hid (VarAt w W18 w17.heap.size s0 s1 s2 s3 s4 s5 s6 s7 s8 12 S3) := by rw [← HW18.out]; exact VarAt.new hu17
    clear hu17
    go_wp2_with fail
    rw [HW18.out]
    clear HW18
    clear xx0 xx1 xx2 xx3 xx4 xxl
    replace Hx := hide (Hx.out.go hA18)
    replace Hr := hide (Hr.out.go hA18)
    replace HE := hide (HE.out.go hA18)
    clear hA18
    obtain ⟨⟨T4, b4⟩, hT⟩ : ∃ r, Hid (partPutT 10 S3 sa tx = r) := ⟨_, rfl⟩
    have hc := putI (d := 10) Hs.out.val Hx.out.val hsa' HE.out.err HE.out.le
    rw [hT.out] at hc; dsimp only at hc
    refine hc.mono ?_
    clear hc
    rintro e w19 ⟨t0, t1, t2, t3, t4, t5, t6, t7, t8, rfl, hu19, hb19⟩
    replace Hx := hide (Hx.out.go hb19)
    replace Hr := hide (Hr.out.go hb19)
    replace Hs := hide (Hs.out.go hb19)
    replace HE := hide (HE.out.go hb19)
    clear hb19
    clear Hx
    by_cases hab : sa = sb
    ·
      subst hab
      have hRS : (R, b2) = (S3, b3) := by rw [← hR.out, ← hS.out, ← isP, put_twice okP]
      cases hRS
      obtain ⟨xr0, xr1, xr2, xr3, xr4⟩ := Hr.out.blk.cell
      have xrl := Hr.out.blk.lt
      obtain ⟨xs0, xs1, xs2, xs3, xs4⟩ := Hs.out.blk.cell
      have xsl := Hs.out.blk.lt
      obtain ⟨W20, HW20⟩ : ∃ W1, Hid (w19.alloc (.cells #[.int .i64 t0, .int .i64 t1, .string t2, .slice t3 t4 t5, .slice t6 t7 t8] 26) = W1) := ⟨_, rfl⟩
      have hA20 : Below w19.heap.size w19 W20 := by rw [← HW20.out]; exact below_alloc1 _ _
      have Ht : Hid (VarAt w W20 w19.heap.size t0 t1 t2 t3 t4 t5 t6 t7 t8 12 T4) := by rw [← HW20.out]; exact VarAt.new hu19
      clear hu19
      go_wp2_with fail
      rw [HW20.out]
      clear HW20
      clear xr0 xr1 xr2 xr3 xr4 xrl xs0 xs1 xs2 xs3 xs4 xsl
      replace Hr := hide (Hr.out.go hA20)
      replace Hs := hide (Hs.out.go hA20)
      replace HE := hide (HE.out.go hA20)
      clear hA20
      have hc := samE Hr.out.val Hs.out.val hzR
      refine hc.mono ?_
      clear hc
      rintro e w21 ⟨rfl, hb21⟩
      replace Hr := hide (Hr.out.go hb21)
      replace Hs := hide (Hs.out.go hb21)
      replace Ht := hide (Ht.out.go hb21)
      replace HE := hide (HE.out.go hb21)
      clear hb21
      go_wp2_with fail
      go_ret
      exact ⟨rfl, HE.out.bel⟩
    ·
      have hnb : (sa.toList == sb.toList) = false := toList_ne hab
      cases b2 with
      | false =>
        obtain ⟨xr0, xr1, xr2, xr3, xr4⟩ := Hr.out.blk.cell
        have xrl := Hr.out.blk.lt
        obtain ⟨W20, HW20⟩ : ∃ W1, Hid (w19.alloc (.cells #[.int .i64 t0, .int .i64 t1, .string t2, .slice t3 t4 t5, .slice t6 t7 t8] 26) = W1) := ⟨_, rfl⟩
        have hA20 : Below w19.heap.size w19 W20 := by rw [← HW20.out]; exact below_alloc1 _ _
        have Ht : Hid (VarAt w W20 w19.heap.size t0 t1 t2 t3 t4 t5 t6 t7 t8 12 T4) := by rw [← HW20.out]; exact VarAt.new hu19
        clear hu19
        go_wp2_with fail
        go_ret
        exact ⟨rfl, (HE.out.go (below_alloc1 _ _)).bel⟩
      | true =>
        cases b3 with
        | false =>
          obtain ⟨xr0, xr1, xr2, xr3, xr4⟩ := Hr.out.blk.cell
          have xrl := Hr.out.blk.lt
          obtain ⟨W20, HW20⟩ : ∃ W1, Hid (w19.alloc (.cells #[.int .i64 t0, .int .i64 t1, .string t2, .slice t3 t4 t5, .slice t6 t7 t8] 26) = W1) := ⟨_, rfl⟩
          have hA20 : Below w19.heap.size w19 W20 := by rw [← HW20.out]; exact below_alloc1 _ _
          have Ht : Hid (VarAt w W20 w19.heap.size t0 t1 t2 t3 t4 t5 t6 t7 t8 12 T4) := by rw [← HW20.out]; exact VarAt.new hu19
          clear hu19
          go_wp2_with fail
          go_ret
          exact ⟨rfl, (HE.out.go (below_alloc1 _ _)).bel⟩
        | true =>
          cases b4 with
          | false =>
            obtain ⟨xr0, xr1, xr2, xr3, xr4⟩ := Hr.out.blk.cell
            have xrl := Hr.out.blk.lt
            obtain ⟨W20, HW20⟩ : ∃ W1, Hid (w19.alloc (.cells #[.int .i64 t0, .int .i64 t1, .string t2, .slice t3 t4 t5, .slice t6 t7 t8] 26) = W1) := ⟨_, rfl⟩
            have hA20 : Below w19.heap.size w19 W20 := by rw [← HW20.out]; exact below_alloc1 _ _
            have Ht : Hid (VarAt w W20 w19.heap.size t0 t1 t2 t3 t4 t5 t6 t7 t8 12 T4) := by rw [← HW20.out]; exact VarAt.new hu19
            clear hu19
            go_wp2_with fail
            go_ret
            exact ⟨rfl, (HE.out.go (below_alloc1 _ _)).bel⟩
          | true =>
            have hRT : R = T4 := by have := put_swap (y := ty) okP (by rw [hS.out]) hab; rw [isP, hS.out, hR.out, hT.out] at this; exact this
            subst hRT
            obtain ⟨xr0, xr1, xr2, xr3, xr4⟩ := Hr.out.blk.cell
            have xrl := Hr.out.blk.lt
            obtain ⟨W20, HW20⟩ : ∃ W1, Hid (w19.alloc (.cells #[.int .i64 t0, .int .i64 t1, .string t2, .slice t3 t4 t5, .slice t6 t7 t8] 26) = W1) := ⟨_, rfl⟩
            have hA20 : Below w19.heap.size w19 W20 := by rw [← HW20.out]; exact below_alloc1 _ _
            have Ht : Hid (VarAt w W20 w19.heap.size t0 t1 t2 t3 t4 t5 t6 t7 t8 12 R) := by rw [← HW20.out]; exact VarAt.new hu19
            clear hu19
            go_wp2_with fail
            rw [HW20.out]
            clear HW20
            clear xr0 xr1 xr2 xr3 xr4 xrl
            replace Hr := hide (Hr.out.go hA20)
            replace Hs := hide (Hs.out.go hA20)
            replace HE := hide (HE.out.go hA20)
            clear hA20
            have hc := samE Hr.out.val Ht.out.val hzR
            refine hc.mono ?_
            clear hc
            rintro e w21 ⟨rfl, hb21⟩
            replace Hr := hide (Hr.out.go hb21)
            replace Hs := hide (Hs.out.go hb21)
            replace Ht := hide (Ht.out.go hb21)
            replace HE := hide (HE.out.go hb21)
            clear hb21
            go_wp2_with fail
            go_ret
            exact ⟨rfl, HE.out.bel⟩
end Go.Proofs.YtgjahnkldobphaaGreatDoor
