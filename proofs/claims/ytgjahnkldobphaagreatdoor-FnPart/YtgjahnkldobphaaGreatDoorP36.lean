/- Texts of the proof, put together by program: LFnPart. -/
import Derived.Test.YtgjahnkldobphaaGreatDoorP31
/- FnPart: for all bytes that lie in memory the law answers true. -/
namespace Go.Proofs.YtgjahnkldobphaaGreatDoor
open Go.RowKit Go.Deep

set_option maxRecDepth 100000 in
set_option maxHeartbeats 16000000 in
theorem lawFnPart (a : Option Addr) (n cap : Nat) (w : World) (hcap : n ≤ cap) (_hm : cap ≤ 9223372036854775807) (hB : BytesAt w.heap.size w a n) (hg : ErrType w) :
    Calls Tryz.prog 3 #[.slice a n cap] w fun e w' => e = .returned (.bool true) ∧ Below w.heap.size w w' := by
  by_cases hn : 1048576 < n
  · go_enter Tryz.func3, Tryz.ntmps3
    go_wp2_with fail
    go_ret
    exact ⟨rfl, Below.refl _ _⟩
  go_enter Tryz.func3, Tryz.ntmps3
  go_wp2_with fail
  refine (drawPartPut_any a n cap w hcap hB).mono ?_
  rintro e w1 ⟨u, tv, sk, u', tx, rfl, hsk, hv, hv1, hx, hx1, hb1⟩
  obtain ⟨v0, v1, v2, v3, v4, v5, v6, v7, v8, rfl⟩ := hv.shape
  obtain ⟨x0, x1, x2, x3, x4, x5, x6, x7, x8, rfl⟩ := hx.shape
  have HE : Hid (Amid w w1) := ⟨hb1, hg.below hb1⟩
  clear hb1
  have hv12 := hv.upN 1
  have hz12 : wtT 12 (upN 11 1 tv) ≤ 10000 := Nat.le_trans (Nat.le_of_eq (wtT_upN 11 1 tv)) (by omega)
  have hzx : wtT 11 tx ≤ 10000 := by omega
  obtain ⟨V, hV⟩ : ∃ V : Tr 12, V = upN 11 1 tv := ⟨_, rfl⟩
  replace hv12 : ValAt (FreshP w w1) w1 12 V (.agg #[.int .i64 v0, .int .i64 v1, .string v2, .slice v3 v4 v5, .slice v6 v7 v8]) := by rw [hV]; exact hv12
  rw [← hV] at hz12
  clear hV hv1 hx1 hv
  have hsk' : sk.size < 281474976710656 := by omega
  have hK := hide hB
  clear hB
  have hB := hK
  clear hK
  obtain ⟨W2, HW2⟩ : ∃ W1, Hid ((w1.alloc (.cells #[.int .i64 v0, .int .i64 v1, .string v2, .slice v3 v4 v5, .slice v6 v7 v8] 26)).alloc (.cells #[.int .i64 x0, .int .i64 x1, .string x2, .slice x3 x4 x5, .slice x6 x7 x8] 26) = W1) := ⟨_, rfl⟩
  obtain ⟨Hv, Hx, hA2⟩ := VarAt.two hv12 hx
  rw [HW2.out] at Hv Hx hA2
  replace Hv := hide Hv
  replace Hx := hide Hx
  clear hv12 hx
  go_wp2_with fail
  rw [HW2.out]
  clear HW2
  replace HE := hide (HE.out.go hA2)
  clear hA2
  obtain ⟨⟨P, b1⟩, hP⟩ : ∃ r, Hid (partPutT 10 V sk tx = r) := ⟨_, rfl⟩
  have hzP : wtT 12 P ≤ 10000 := by have := wtT_ok (okT_partPut 10 V sk tx); rw [hP.out] at this; have h2 : wtT 12 P ≤ 300 := this; omega
  have hc := putI (d := 10) Hv.out.val Hx.out.val hsk' HE.out.err HE.out.le
  rw [hP.out] at hc; dsimp only at hc
  refine hc.mono ?_
  clear hc
  rintro e w3 ⟨p0, p1, p2, p3, p4, p5, p6, p7, p8, rfl, hu3, hb3⟩
  replace Hv := hide (Hv.out.go hb3)
  replace Hx := hide (Hx.out.go hb3)
  replace HE := hide (HE.out.go hb3)
  clear hb3
  obtain ⟨xv0, xv1, xv2, xv3, xv4⟩ := Hv.out.blk.cell
  have xvl := Hv.out.blk.lt
  obtain ⟨xx0, xx1, xx2, xx3, xx4⟩ := Hx.out.blk.cell
  have xxl := Hx.out.blk.lt
  obtain ⟨W4, HW4⟩ : ∃ W1, Hid (w3.alloc (.cells #[.int .i64 p0, .int .i64 p1, .string p2, .slice p3 p4 p5, .slice p6 p7 p8] 26) = W1) := ⟨_, rfl⟩
  have hA4 : Below w3.heap.size w3 W4 := by rw [← HW4.out]; exact below_alloc1 _ _
  have Hp : Hid (VarAt w W4 w3.heap.size p0 p1 p2 p3 p4 p5 p6 p7 p8 12 P) := by rw [← HW4.out]; exact VarAt.new hu3
  clear hu3
  go_wp2_with fail
  rw [HW4.out]
  clear HW4
  clear xv0 xv1 xv2 xv3 xv4 xvl xx0 xx1 xx2 xx3 xx4 xxl
  replace Hv := hide (Hv.out.go hA4)
  replace Hx := hide (Hx.out.go hA4)
  replace HE := hide (HE.out.go hA4)
  clear hA4
  have hc := putS (d := 10) Hv.out.val Hx.out.val hsk' hz12 hzx HE.out.le
  rw [hP.out] at hc; dsimp only at hc
  refine hc.mono ?_
  clear hc
  rintro e w5 ⟨y0, y1, y2, y3, y4, y5, y6, y7, y8, rfl, hu5, hb5⟩
  replace Hv := hide (Hv.out.go hb5)
  replace Hx := hide (Hx.out.go hb5)
  replace Hp := hide (Hp.out.go hb5)
  replace HE := hide (HE.out.go hb5)
  clear hb5
  obtain ⟨xp0, xp1, xp2, xp3, xp4⟩ := Hp.out.blk.cell
  have xpl := Hp.out.blk.lt
  obtain ⟨W6, HW6⟩ : ∃ W1, Hid (w5.alloc (.cells #[.int .i64 y0, .int .i64 y1, .string y2, .slice y3 y4 y5, .slice y6 y7 y8] 26) = W1) := ⟨_, rfl⟩
  have hA6 : Below w5.heap.size w5 W6 := by rw [← HW6.out]; exact below_alloc1 _ _
  have Hy : Hid (VarAt w W6 w5.heap.size y0 y1 y2 y3 y4 y5 y6 y7 y8 12 P) := by rw [← HW6.out]; exact VarAt.new hu5
  clear hu5
  go_wp2_with fail
  rw [HW6.out]
  clear HW6
  clear xp0 xp1 xp2 xp3 xp4 xpl
  replace Hv := hide (Hv.out.go hA6)
  replace Hx := hide (Hx.out.go hA6)
  replace Hp := hide (Hp.out.go hA6)
  replace HE := hide (HE.out.go hA6)
  clear hA6
  have hc := samE Hp.out.val Hy.out.val hzP
  refine hc.mono ?_
  clear hc
  rintro e w7 ⟨rfl, hb7⟩
  replace Hv := hide (Hv.out.go hb7)
  replace Hx := hide (Hx.out.go hb7)
  replace Hp := hide (Hp.out.go hb7)
  replace Hy := hide (Hy.out.go hb7)
  replace HE := hide (HE.out.go hb7)
  clear hb7
  clear Hy
  cases b1 with
  | false =>
    go_wp2_with fail
    refine (drawPartSet_any a n cap w7 hcap (hB.out.wider (fun b hb => HE.out.bel.block b hb) HE.out.bel.size)).mono ?_
    rintro e w8 ⟨u, tr, i, u', tz, rfl, ⟨hi1, hi2⟩, hr, hr1, hzz, hzz1, hb8⟩
    obtain ⟨r0, r1, r2, r3, r4, r5, r6, r7, r8, rfl⟩ := hr.shape
    obtain ⟨z0, z1, z2, z3, z4, z5, z6, z7, z8, rfl⟩ := hzz.shape
    replace hr := (freshP_wide hr HE.out.le).upN 1
    replace hzz := freshP_wide hzz HE.out.le
    have hzr : wtT 12 (upN 11 1 tr) ≤ 10000 := Nat.le_trans (Nat.le_of_eq (wtT_upN 11 1 tr)) (by omega)
    have hzz2 : wtT 11 tz ≤ 10000 := by omega
    obtain ⟨R, hR⟩ : ∃ V : Tr 12, V = upN 11 1 tr := ⟨_, rfl⟩
    replace hr : ValAt (FreshP w w8) w8 12 R (.agg #[.int .i64 r0, .int .i64 r1, .string r2, .slice r3 r4 r5, .slice r6 r7 r8]) := by rw [hR]; exact hr
    rw [← hR] at hzr
    clear hR hr1 hzz1
    have hI : I64 i := ⟨by omega, by omega⟩
    replace HE := hide (HE.out.go hb8)
    clear hb8
    obtain ⟨W9, HW9⟩ : ∃ W1, Hid ((w8.alloc (.cells #[.int .i64 r0, .int .i64 r1, .string r2, .slice r3 r4 r5, .slice r6 r7 r8] 26)).alloc (.cells #[.int .i64 z0, .int .i64 z1, .string z2, .slice z3 z4 z5, .slice z6 z7 z8] 26) = W1) := ⟨_, rfl⟩
    obtain ⟨Hr, Hz, hA9⟩ := VarAt.two hr hzz
    rw [HW9.out] at Hr Hz hA9
    replace Hr := hide Hr
    replace Hz := hide Hz
    clear hr hzz
    go_wp2_with fail
    rw [HW9.out]
    clear HW9
    replace HE := hide (HE.out.go hA9)
    clear hA9
    obtain ⟨⟨S1, b2⟩, hS⟩ : ∃ r, Hid (partSetT 10 R i tz = r) := ⟨_, rfl⟩
    have hzS : wtT 12 S1 ≤ 10000 := by have := wtT_ok (okT_partSet 10 R i tz); rw [hS.out] at this; have h2 : wtT 12 S1 ≤ 300 := this; omega
    have hc := setI (d := 10) Hr.out.val Hz.out.val hI HE.out.err HE.out.le
    rw [hS.out] at hc; dsimp only at hc
    refine hc.mono ?_
    clear hc
    rintro e w10 ⟨s0, s1, s2, s3, s4, s5, s6, s7, s8, rfl, hu10, hb10⟩
    replace Hr := hide (Hr.out.go hb10)
    replace Hz := hide (Hz.out.go hb10)
    replace HE := hide (HE.out.go hb10)
    clear hb10
    obtain ⟨xr0, xr1, xr2, xr3, xr4⟩ := Hr.out.blk.cell
    have xrl := Hr.out.blk.lt
    obtain ⟨xz0, xz1, xz2, xz3, xz4⟩ := Hz.out.blk.cell
    have xzl := Hz.out.blk.lt
    obtain ⟨W11, HW11⟩ : ∃ W1, Hid (w10.alloc (.cells #[.int .i64 s0, .int .i64 s1, .string s2, .slice s3 s4 s5, .slice s6 s7 s8] 26) = W1) := ⟨_, rfl⟩
    have hA11 : Below w10.heap.size w10 W11 := by rw [← HW11.out]; exact below_alloc1 _ _
    have Hs : Hid (VarAt w W11 w10.heap.size s0 s1 s2 s3 s4 s5 s6 s7 s8 12 S1) := by rw [← HW11.out]; exact VarAt.new hu10
    clear hu10
    go_wp2_with fail
    rw [HW11.out]
    clear HW11
    clear xr0 xr1 xr2 xr3 xr4 xrl xz0 xz1 xz2 xz3 xz4 xzl
    replace Hr := hide (Hr.out.go hA11)
    replace Hz := hide (Hz.out.go hA11)
    replace HE := hide (HE.out.go hA11)
    clear hA11
    have hc := setS (d := 10) Hr.out.val Hz.out.val hI hzr hzz2 HE.out.le
    rw [hS.out] at hc; dsimp only at hc
    refine hc.mono ?_
    clear hc
    rintro e w12 ⟨q0, q1, q2, q3, q4, q5, q6, q7, q8, rfl, hu12, hb12⟩
    replace Hr := hide (Hr.out.go hb12)
    replace Hz := hide (Hz.out.go hb12)
    replace Hs := hide (Hs.out.go hb12)
    replace HE := hide (HE.out.go hb12)
    clear hb12
    obtain ⟨xs0, xs1, xs2, xs3, xs4⟩ := Hs.out.blk.cell
    have xsl := Hs.out.blk.lt
    obtain ⟨W13, HW13⟩ : ∃ W1, Hid (w12.alloc (.cells #[.int .i64 q0, .int .i64 q1, .string q2, .slice q3 q4 q5, .slice q6 q7 q8] 26) = W1) := ⟨_, rfl⟩
    have hA13 : Below w12.heap.size w12 W13 := by rw [← HW13.out]; exact below_alloc1 _ _
    have Hq : Hid (VarAt w W13 w12.heap.size q0 q1 q2 q3 q4 q5 q6 q7 q8 12 S1) := by rw [← HW13.out]; exact VarAt.new hu12
    clear hu12
    go_wp2_with fail
    rw [HW13.out]
    clear HW13
    clear xs0 xs1 xs2 xs3 xs4 xsl
    replace Hr := hide (Hr.out.go hA13)
    replace Hz := hide (Hz.out.go hA13)
    replace Hs := hide (Hs.out.go hA13)
    replace HE := hide (HE.out.go hA13)
    clear hA13
    have hc := samE Hs.out.val Hq.out.val hzS
    refine hc.mono ?_
    clear hc
    rintro e w14 ⟨rfl, hb14⟩
    replace Hr := hide (Hr.out.go hb14)
    replace Hz := hide (Hz.out.go hb14)
    replace Hs := hide (Hs.out.go hb14)
    replace Hq := hide (Hq.out.go hb14)
    replace HE := hide (HE.out.go hb14)
    clear hb14
    clear Hq
    cases b2 with
    | false =>
      have hS0 : S1 = zeroT 11 := by have := set_no (d := 10) (t := R) (i := i) (x := tz) (by rw [hS.out]); rw [hS.out] at this; exact this
      have hs0 : s0 = 0 := by have := (val_parts Hs.out.val).1; rw [hS0] at this; exact this
      obtain ⟨xs0, xs1, xs2, xs3, xs4⟩ := Hs.out.blk.cell
      have xsl := Hs.out.blk.lt
      go_wp2_with fail
      go_ret
      exact ⟨rfl, HE.out.bel⟩
    | true =>
      have okS : (partSetT 10 R i tz).2 = true := by rw [hS.out]
      have hG : partAtT 10 S1 i = (tz, true) := by have := at_set okS; rw [hS.out] at this; exact this
      obtain ⟨xs0, xs1, xs2, xs3, xs4⟩ := Hs.out.blk.cell
      have xsl := Hs.out.blk.lt
      go_wp2_with fail
      clear xs0 xs1 xs2 xs3 xs4 xsl
      have hc := atI (d := 10) Hs.out.val hI HE.out.err HE.out.le
      rw [hG] at hc; dsimp only at hc
      refine hc.mono ?_
      clear hc
      rintro e w15 ⟨g0, g1, g2, g3, g4, g5, g6, g7, g8, rfl, hu15, hb15⟩
      replace Hr := hide (Hr.out.go hb15)
      replace Hz := hide (Hz.out.go hb15)
      replace Hs := hide (Hs.out.go hb15)
      replace HE := hide (HE.out.go hb15)
      clear hb15
      obtain ⟨xs0, xs1, xs2, xs3, xs4⟩ := Hs.out.blk.cell
      have xsl := Hs.out.blk.lt
      obtain ⟨xr0, xr1, xr2, xr3, xr4⟩ := Hr.out.blk.cell
      have xrl := Hr.out.blk.lt
      obtain ⟨W16, HW16⟩ : ∃ W1, Hid (w15.alloc (.cells #[.int .i64 g0, .int .i64 g1, .string g2, .slice g3 g4 g5, .slice g6 g7 g8] 26) = W1) := ⟨_, rfl⟩
      have hA16 : Below w15.heap.size w15 W16 := by rw [← HW16.out]; exact below_alloc1 _ _
      have Hg : Hid (VarAt w W16 w15.heap.size g0 g1 g2 g3 g4 g5 g6 g7 g8 11 tz) := by rw [← HW16.out]; exact VarAt.new hu15
      clear hu15
      go_wp2_with fail
      rw [HW16.out]
      clear HW16
      clear xs0 xs1 xs2 xs3 xs4 xsl xr0 xr1 xr2 xr3 xr4 xrl
      replace Hr := hide (Hr.out.go hA16)
      replace Hz := hide (Hz.out.go hA16)
      replace Hs := hide (Hs.out.go hA16)
      replace HE := hide (HE.out.go hA16)
      clear hA16
      have HL7 := hide (val_parts Hr.out.val).2.2.2.2.1
      have HS7 := hide (val_parts Hs.out.val).2.2.2.2.1
      have hsl := set_len okS
      rw [hS.out] at hsl
      dsimp only at hsl
      have hn1 : (r7 : Int) ≤ (s7 : Int) := by rw [HL7.out, HS7.out]; have := hsl.1; omega
      have hn2 : i < 0 ∨ i < (s7 : Int) := by rw [HS7.out]; exact hsl.2
      have hr7 : (r7 : Int) ≤ 10000 := by rw [HL7.out]; have hq : (Nd.list (α := Tr 11) R).length ≤ wtT 12 R := wt_list (d := 10) R; omega
      clear hsl
      have HZ := hide (Since.start W16)
      go_loopw [25] (fun j wr => ∃ k : Nat, k ≤ r7 ∧ j = .int .i64 (k : Int) ∧ Hid (Since W16 wr)) (fun j _ => r7 - (intOf j).toNat)
      case atStart => exact ⟨0, Nat.zero_le _, rfl, HZ⟩
      case round =>
        clear HZ
        obtain ⟨k, hk, rfl, HZ⟩ := hrel
        have hbz := HZ.out.bel
        replace Hr := hide (Hr.out.go hbz)
        replace Hz := hide (Hz.out.go hbz)
        replace Hs := hide (Hs.out.go hbz)
        replace Hg := hide (Hg.out.go hbz)
        replace HE := hide (HE.out.go hbz)
        clear hbz
        by_cases hkl : k < r7
        ·
          have hkl2 : (k : Int) < (r7 : Int) := by omega
          obtain ⟨⟨O, ob⟩, hO⟩ : ∃ r, Hid (partAtT 10 S1 (k : Int) = r) := ⟨_, rfl⟩
          obtain ⟨xr0, xr1, xr2, xr3, xr4⟩ := Hr.out.blk.cell
          have xrl := Hr.out.blk.lt
          obtain ⟨xs0, xs1, xs2, xs3, xs4⟩ := Hs.out.blk.cell
          have xsl := Hs.out.blk.lt
          go_wp2_with fail
          clear xr0 xr1 xr2 xr3 xr4 xrl xs0 xs1 xs2 xs3 xs4 xsl
          have hc := atI (d := 10) Hs.out.val (i := (k : Int)) ⟨by omega, by omega⟩ HE.out.err HE.out.le
          rw [hO.out] at hc; dsimp only at hc
          refine hc.mono ?_
          clear hc
          rintro e w17 ⟨o0, o1, o2, o3, o4, o5, o6, o7, o8, rfl, hu17, hb17⟩
          replace Hr := hide (Hr.out.go hb17)
          replace Hz := hide (Hz.out.go hb17)
          replace Hs := hide (Hs.out.go hb17)
          replace Hg := hide (Hg.out.go hb17)
          replace HZ := hide (HZ.out.go hb17)
          replace HE := hide (HE.out.go hb17)
          clear hb17
          obtain ⟨W18, HW18⟩ : ∃ W1, Hid (w17.alloc (.cells #[.int .i64 o0, .int .i64 o1, .string o2, .slice o3 o4 o5, .slice o6 o7 o8] 26) = W1) := ⟨_, rfl⟩
          have hA18 : Below w17.heap.size w17 W18 := by rw [← HW18.out]; exact below_alloc1 _ _
          have Ho : Hid (VarAt w W18 w17.heap.size o0 o1 o2 o3 o4 o5 o6 o7 o8 11 O) := by rw [← HW18.out]; exact VarAt.new hu17
          clear hu17
          go_wp2_with fail
          rw [HW18.out]
          clear HW18
          replace Hr := hide (Hr.out.go hA18)
          replace Hz := hide (Hz.out.go hA18)
          replace Hs := hide (Hs.out.go hA18)
          replace Hg := hide (Hg.out.go hA18)
          replace HZ := hide (HZ.out.go hA18)
          replace HE := hide (HE.out.go hA18)
          clear hA18
          obtain ⟨lb, lo, y, l0, l1, l2, l3, l4, l5, l6, l7, l8, hla, hlB, hlx, el0, el1, el2, el3, el4, hly⟩ := row_elem (val_parts Hr.out.val).2.2.2.2.2.2 (k := k) (by rw [← HL7.out]; exact hkl)
          subst hla
          by_cases c1 : (k : Int) = i
          ·
            have c1' : ((k : Int) != i) = false := by simpa using c1
            clear c1
            obtain ⟨cr0, cr1, cr2, cr3, cr4⟩ := Hr.out.blk.cell
            have dr0 := fun m => ext_cell cr0 m
            have dr1 := fun m => ext_cell cr1 m
            have dr2 := fun m => ext_cell cr2 m
            have dr3 := fun m => ext_cell cr3 m
            have dr4 := fun m => ext_cell cr4 m
            clear cr0 cr1 cr2 cr3 cr4
            obtain ⟨co0, co1, co2, co3, co4⟩ := Ho.out.blk.cell
            have do0 := fun m => ext_cell co0 m
            have do1 := fun m => ext_cell co1 m
            have do2 := fun m => ext_cell co2 m
            have do3 := fun m => ext_cell co3 m
            have do4 := fun m => ext_cell co4 m
            clear co0 co1 co2 co3 co4
            have ddel0 := fun m => ext_cell el0 m
            have ddel1 := fun m => ext_cell el1 m
            have ddel2 := fun m => ext_cell el2 m
            have ddel3 := fun m => ext_cell el3 m
            have ddel4 := fun m => ext_cell el4 m
            clear el0 el1 el2 el3 el4
            have hne := Ext.some W18
            refine wp_region_ext (by kernel_rfl) (by kernel_rfl) ?_
            repeat (first | go_big_quiet_step (fail) | quiet_step (fail))
            refine wpQuiet_nil ?_
            intro w19 hw19
            obtain ⟨m, rfl⟩ := hw19
            obtain ⟨W19, hW19⟩ : ∃ W1, Hid (m.now = W1) := ⟨_, rfl⟩
            have hb19 := m.from_
            rw [hW19.out] at hb19 ⊢
            clear hW19 hne dr0 dr1 dr2 dr3 dr4 do0 do1 do2 do3 do4 ddel0 ddel1 ddel2 ddel3 ddel4
            replace Hr := hide (Hr.out.go hb19)
            replace Hz := hide (Hz.out.go hb19)
            replace Hs := hide (Hs.out.go hb19)
            replace Hg := hide (Hg.out.go hb19)
            replace HZ := hide (HZ.out.go hb19)
            replace Ho := hide (Ho.out.go hb19)
            replace HE := hide (HE.out.go hb19)
            clear hb19
            go_wp2_with fail
            go_roundw
            case rel =>
              first
                | exact ⟨k + 1, by omega, by go_num, HZ⟩
                | ((repeat apply Exists.intro); exact ⟨⟨k + 1, by omega, by go_num, HZ⟩, rfl⟩)
            case measure => simp [intOf]; omega
          ·
            have c1' : ((k : Int) != i) = true := by simpa using c1
            by_cases c2 : (k : Int) = i + (r7 : Int)
            ·
              have c2' : ((k : Int) != i + (r7 : Int)) = false := by simpa using c2
              clear c2
              obtain ⟨cr0, cr1, cr2, cr3, cr4⟩ := Hr.out.blk.cell
              have dr0 := fun m => ext_cell cr0 m
              have dr1 := fun m => ext_cell cr1 m
              have dr2 := fun m => ext_cell cr2 m
              have dr3 := fun m => ext_cell cr3 m
              have dr4 := fun m => ext_cell cr4 m
              clear cr0 cr1 cr2 cr3 cr4
              obtain ⟨co0, co1, co2, co3, co4⟩ := Ho.out.blk.cell
              have do0 := fun m => ext_cell co0 m
              have do1 := fun m => ext_cell co1 m
              have do2 := fun m => ext_cell co2 m
              have do3 := fun m => ext_cell co3 m
              have do4 := fun m => ext_cell co4 m
              clear co0 co1 co2 co3 co4
              have ddel0 := fun m => ext_cell el0 m
              have ddel1 := fun m => ext_cell el1 m
              have ddel2 := fun m => ext_cell el2 m
              have ddel3 := fun m => ext_cell el3 m
              have ddel4 := fun m => ext_cell el4 m
              clear el0 el1 el2 el3 el4
              have hne := Ext.some W18
              refine wp_region_ext (by kernel_rfl) (by kernel_rfl) ?_
              repeat (first | go_big_quiet_step (fail) | quiet_step (fail))
              refine wpQuiet_nil ?_
              intro w19 hw19
              obtain ⟨m, rfl⟩ := hw19
              obtain ⟨W19, hW19⟩ : ∃ W1, Hid (m.now = W1) := ⟨_, rfl⟩
              have hb19 := m.from_
              rw [hW19.out] at hb19 ⊢
              clear hW19 hne dr0 dr1 dr2 dr3 dr4 do0 do1 do2 do3 do4 ddel0 ddel1 ddel2 ddel3 ddel4
              replace Hr := hide (Hr.out.go hb19)
              replace Hz := hide (Hz.out.go hb19)
              replace Hs := hide (Hs.out.go hb19)
              replace Hg := hide (Hg.out.go hb19)
              replace HZ := hide (HZ.out.go hb19)
              replace Ho := hide (Ho.out.go hb19)
              replace HE := hide (HE.out.go hb19)
              clear hb19
              go_wp2_with fail
              go_roundw
              case rel =>
                first
                  | exact ⟨k + 1, by omega, by go_num, HZ⟩
                  | ((repeat apply Exists.intro); exact ⟨⟨k + 1, by omega, by go_num, HZ⟩, rfl⟩)
              case measure => simp [intOf]; omega
            ·
              have c2' : ((k : Int) != i + (r7 : Int)) = true := by simpa using c2
              have hOy : (O, ob) = (y, true) := by have := at_set_other okS hlx c1 (by rw [← HL7.out]; exact c2); rw [hS.out] at this; dsimp only at this; rw [← hO.out]; exact this
              cases hOy
              have hzy : wtT 11 O ≤ 10000 := by have := wt_mem (d := 11) hlx; have e : wtT 12 R = 3 + (Nd.keys (α := Tr 11) R).length + ((Nd.list (α := Tr 11) R).map (wtT 11)).sum := rfl; omega
              have e0 : Hid (∀ m : Ext W18, Calls Tryz.prog 12 #[.agg #[.int .i64 o0, .int .i64 o1, .string o2, .slice o3 o4 o5, .slice o6 o7 o8], .agg #[.int .i64 l0, .int .i64 l1, .string l2, .slice l3 l4 l5, .slice l6 l7 l8]] m.now fun e w' => e = .returned (.bool true) ∧ Below m.now.heap.size m.now w') := fun m => samE (freshP_go Ho.out.val m.from_) (freshP_go hly m.from_) hzy
              obtain ⟨cr0, cr1, cr2, cr3, cr4⟩ := Hr.out.blk.cell
              have dr0 := fun m => ext_cell cr0 m
              have dr1 := fun m => ext_cell cr1 m
              have dr2 := fun m => ext_cell cr2 m
              have dr3 := fun m => ext_cell cr3 m
              have dr4 := fun m => ext_cell cr4 m
              clear cr0 cr1 cr2 cr3 cr4
              obtain ⟨co0, co1, co2, co3, co4⟩ := Ho.out.blk.cell
              have do0 := fun m => ext_cell co0 m
              have do1 := fun m => ext_cell co1 m
              have do2 := fun m => ext_cell co2 m
              have do3 := fun m => ext_cell co3 m
              have do4 := fun m => ext_cell co4 m
              clear co0 co1 co2 co3 co4
              have ddel0 := fun m => ext_cell el0 m
              have ddel1 := fun m => ext_cell el1 m
              have ddel2 := fun m => ext_cell el2 m
              have ddel3 := fun m => ext_cell el3 m
              have ddel4 := fun m => ext_cell el4 m
              clear el0 el1 el2 el3 el4
              have hne := Ext.some W18
              refine wp_region_ext (by kernel_rfl) (by kernel_rfl) ?_
              repeat (first | go_big_quiet_step ((go_at_call 12; first | with_reducible exact Calls.ext_of (e0.out _))) | quiet_step ((go_at_call 12; first | with_reducible exact Calls.ext_of (e0.out _))))
              refine wpQuiet_nil ?_
              intro w19 hw19
              obtain ⟨m, rfl⟩ := hw19
              obtain ⟨W19, hW19⟩ : ∃ W1, Hid (m.now = W1) := ⟨_, rfl⟩
              have hb19 := m.from_
              rw [hW19.out] at hb19 ⊢
              clear hW19 hne e0 dr0 dr1 dr2 dr3 dr4 do0 do1 do2 do3 do4 ddel0 ddel1 ddel2 ddel3 ddel4
              replace Hr := hide (Hr.out.go hb19)
              replace Hz := hide (Hz.out.go hb19)
              replace Hs := hide (Hs.out.go hb19)
              replace Hg := hide (Hg.out.go hb19)
              replace HZ := hide (HZ.out.go hb19)
              replace Ho := hide (Ho.out.go hb19)
              replace HE := hide (HE.out.go hb19)
              clear hb19
              go_wp2_with fail
              go_roundw
              case rel =>
                first
                  | exact ⟨k + 1, by omega, by go_num, HZ⟩
                  | ((repeat apply Exists.intro); exact ⟨⟨k + 1, by omega, by go_num, HZ⟩, rfl⟩)
              case measure => simp [intOf]; omega
        ·
          obtain rfl : k = r7 := by omega
          by_cases hi0 : i < 0
          ·
            obtain ⟨xr0, xr1, xr2, xr3, xr4⟩ := Hr.out.blk.cell
            have xrl := Hr.out.blk.lt
            obtain ⟨xg0, xg1, xg2, xg3, xg4⟩ := Hg.out.blk.cell
            have xgl := Hg.out.blk.lt
            obtain ⟨xz0, xz1, xz2, xz3, xz4⟩ := Hz.out.blk.cell
            have xzl := Hz.out.blk.lt
            go_wp2_with fail
            clear xr0 xr1 xr2 xr3 xr4 xrl xg0 xg1 xg2 xg3 xg4 xgl xz0 xz1 xz2 xz3 xz4 xzl
            have hc := samE Hg.out.val Hz.out.val hzz2
            refine hc.mono ?_
            clear hc
            rintro e w17 ⟨rfl, hb17⟩
            replace Hr := hide (Hr.out.go hb17)
            replace Hz := hide (Hz.out.go hb17)
            replace Hs := hide (Hs.out.go hb17)
            replace Hg := hide (Hg.out.go hb17)
            replace HE := hide (HE.out.go hb17)
            clear hb17
            obtain ⟨xr0, xr1, xr2, xr3, xr4⟩ := Hr.out.blk.cell
            have xrl := Hr.out.blk.lt
            go_wp2_with fail
            go_ret
            exact ⟨rfl, HE.out.bel⟩
          ·
            have hi3 : i < (s7 : Int) := by omega
            obtain ⟨xr0, xr1, xr2, xr3, xr4⟩ := Hr.out.blk.cell
            have xrl := Hr.out.blk.lt
            obtain ⟨xg0, xg1, xg2, xg3, xg4⟩ := Hg.out.blk.cell
            have xgl := Hg.out.blk.lt
            obtain ⟨xz0, xz1, xz2, xz3, xz4⟩ := Hz.out.blk.cell
            have xzl := Hz.out.blk.lt
            go_wp2_with fail
            clear xr0 xr1 xr2 xr3 xr4 xrl xg0 xg1 xg2 xg3 xg4 xgl xz0 xz1 xz2 xz3 xz4 xzl
            have hc := samE Hg.out.val Hz.out.val hzz2
            refine hc.mono ?_
            clear hc
            rintro e w17 ⟨rfl, hb17⟩
            replace Hr := hide (Hr.out.go hb17)
            replace Hz := hide (Hz.out.go hb17)
            replace Hs := hide (Hs.out.go hb17)
            replace Hg := hide (Hg.out.go hb17)
            replace HE := hide (HE.out.go hb17)
            clear hb17
            obtain ⟨xr0, xr1, xr2, xr3, xr4⟩ := Hr.out.blk.cell
            have xrl := Hr.out.blk.lt
            go_wp2_with fail
            go_ret
            exact ⟨rfl, HE.out.bel⟩
  | true =>
    have okP : (partPutT 10 V sk tx).2 = true := by rw [hP.out]
    have hG : partGetT 10 P sk = (tx, true) := by have := get_put okP; rw [hP.out] at this; exact this
    obtain ⟨xp0, xp1, xp2, xp3, xp4⟩ := Hp.out.blk.cell
    have xpl := Hp.out.blk.lt
    go_wp2_with fail
    clear xp0 xp1 xp2 xp3 xp4 xpl
    have hc := getI (d := 10) Hp.out.val hsk' HE.out.err HE.out.le
    rw [hG] at hc; dsimp only at hc
    refine hc.mono ?_
    clear hc
    rintro e w8 ⟨g0, g1, g2, g3, g4, g5, g6, g7, g8, rfl, hu8, hb8⟩
    replace Hv := hide (Hv.out.go hb8)
    replace Hx := hide (Hx.out.go hb8)
    replace Hp := hide (Hp.out.go hb8)
    replace HE := hide (HE.out.go hb8)
    clear hb8
    obtain ⟨xx0, xx1, xx2, xx3, xx4⟩ := Hx.out.blk.cell
    have xxl := Hx.out.blk.lt
    obtain ⟨W9, HW9⟩ : ∃ W1, Hid (w8.alloc (.cells #[.int .i64 g0, .int .i64 g1, .string g2, .slice g3 g4 g5, .slice g6 g7 g8] 26) = W1) := ⟨_, rfl⟩
    have hA9 : Below w8.heap.size w8 W9 := by rw [← HW9.out]; exact below_alloc1 _ _
    have Hg : Hid (VarAt w W9 w8.heap.size g0 g1 g2 g3 g4 g5 g6 g7 g8 11 tx) := by rw [← HW9.out]; exact VarAt.new hu8
    clear hu8
    go_wp2_with fail
    rw [HW9.out]
    clear HW9
    clear xx0 xx1 xx2 xx3 xx4 xxl
    replace Hv := hide (Hv.out.go hA9)
    replace Hx := hide (Hx.out.go hA9)
    replace Hp := hide (Hp.out.go hA9)
    replace HE := hide (HE.out.go hA9)
    clear hA9
    have hc := samE Hg.out.val Hx.out.val hzx
    refine hc.mono ?_
    clear hc
    rintro e w10 ⟨rfl, hb10⟩
    replace Hv := hide (Hv.out.go hb10)
    replace Hx := hide (Hx.out.go hb10)
    replace Hp := hide (Hp.out.go hb10)
    replace Hg := hide (Hg.out.go hb10)
    replace HE := hide (HE.out.go hb10)
    clear hb10
    clear Hg
    obtain ⟨xv0, xv1, xv2, xv3, xv4⟩ := Hv.out.blk.cell
    have xvl := Hv.out.blk.lt
    go_wp2_with fail
    clear xv0 xv1 xv2 xv3 xv4 xvl
    have HK4 := hide (val_parts Hv.out.val).2.2.2.1
    have HL7 := hide (val_parts Hv.out.val).2.2.2.2.1
    have hv4 : (v4 : Int) ≤ 10000 := by rw [HK4.out]; have hq : (Nd.keys (α := Tr 11) V).length ≤ wtT 12 V := (by rw [wtT]; omega); omega
    have HZ := hide (Since.start w10)
    go_loopw [12] (fun j wr => ∃ k : Nat, k ≤ v4 ∧ j = .int .i64 (k : Int) ∧ Hid (Since w10 wr)) (fun j _ => v4 - (intOf j).toNat)
    case atStart => exact ⟨0, Nat.zero_le _, rfl, HZ⟩
    case round =>
      clear HZ
      obtain ⟨k, hk, rfl, HZ⟩ := hrel
      have hbz := HZ.out.bel
      replace Hv := hide (Hv.out.go hbz)
      replace Hx := hide (Hx.out.go hbz)
      replace Hp := hide (Hp.out.go hbz)
      replace HE := hide (HE.out.go hbz)
      clear hbz
      by_cases hkl : k < v4
      ·
        have hkl2 : (k : Int) < (v4 : Int) := by omega
        obtain ⟨kb, ko, kq, hka, hkB, hkx, hkz, hkc⟩ := key_elem (val_parts Hv.out.val).2.2.2.2.2.1 (k := k) (by rw [← HK4.out]; exact hkl)
        subst hka
        obtain ⟨xv0, xv1, xv2, xv3, xv4⟩ := Hv.out.blk.cell
        have xvl := Hv.out.blk.lt
        obtain ⟨xp0, xp1, xp2, xp3, xp4⟩ := Hp.out.blk.cell
        have xpl := Hp.out.blk.lt
        go_wp2_with fail
        clear xv0 xv1 xv2 xv3 xv4 xvl xp0 xp1 xp2 xp3 xp4 xpl
        obtain ⟨⟨O, ob⟩, hO⟩ : ∃ r, Hid (partGetT 10 P kq = r) := ⟨_, rfl⟩
        go_upto_region 15 with fail
        go_cut [13, 14] (fun pv bv wc => ∃ b o0 o1 o2 o3 o4 o5 o6 o7 o8, pv = .pointer (some ⟨b, 0, none⟩) ∧ bv = .bool ob ∧ Hid (VarAt w wc b o0 o1 o2 o3 o4 o5 o6 o7 o8 11 O ∧ Below wr.heap.size wr wc))
        case first =>
          obtain ⟨xv0, xv1, xv2, xv3, xv4⟩ := Hv.out.blk.cell
          have xvl := Hv.out.blk.lt
          obtain ⟨xp0, xp1, xp2, xp3, xp4⟩ := Hp.out.blk.cell
          have xpl := Hp.out.blk.lt
          have hcall : Hid (∀ W', Below wr.heap.size wr W' → Calls Tryz.prog 13 #[.agg #[.int .i64 p0, .int .i64 p1, .string p2, .slice p3 p4 p5, .slice p6 p7 p8], .string kq] W' fun e w' => ∃ u, e = .returned u ∧ (∃ o0 o1 o2 o3 o4 o5 o6 o7 o8, u = .tuple #[.agg #[.int .i64 o0, .int .i64 o1, .string o2, .slice o3 o4 o5, .slice o6 o7 o8], .bool ob] ∧ ValAt (FreshP W' w') w' 11 O (.agg #[.int .i64 o0, .int .i64 o1, .string o2, .slice o3 o4 o5, .slice o6 o7 o8]) ∧ Below W'.heap.size W' w')) := fun W' hW => Calls.mono ((by have hc := getG (d := 10) (freshP_go Hp.out.val hW) hkz (HE.out.err.below hW) (by have := HE.out.le; have := hW.size; omega); rw [hO.out] at hc; exact hc)) (fun e w' h => by obtain ⟨o0, o1, o2, o3, o4, o5, o6, o7, o8, he, hv', hb'⟩ := h; exact ⟨_, he, o0, o1, o2, o3, o4, o5, o6, o7, o8, rfl, hv', hb'⟩)
          have hle := HE.out.le
          have hleR : w.heap.size ≤ wr.drew.heap.size := hle
          have hDr : Below wr.heap.size wr wr.drew := ⟨rfl, rfl, rfl, Nat.le_refl _, fun _ _ => rfl⟩
          have hDa := below_drew1 (below_alloc1 wr (.cells #[.int .i64 0, .int .i64 0, .string { data := #[] }, .slice none 0 0, .slice none 0 0] 26))
          have hDb : Below wr.heap.size wr (wr.drew.alloc (.cells #[.int .i64 0, .int .i64 0, .string { data := #[] }, .slice none 0 0, .slice none 0 0] 26)) := below_trans hDr (below_alloc1 _ _)
          go_region_law ((refine step_call_run _ 13 _ (by rfl) (by go_simp) (hcall.out _ (by first | exact hDr | exact hDa | exact hDb)) ?_; rintro u w11 ⟨o0, o1, o2, o3, o4, o5, o6, o7, o8, rfl, hv', hb'⟩; (first | with_reducible (have zC := Blk5.below (newDrew wr 26 (.int .i64 0) (.int .i64 0) (.string { data := #[] }) (.slice none 0 0) (.slice none 0 0)) hb'; obtain ⟨y0, y1, y2, y3, y4⟩ := zC.cell; have yf := zC.frozen) | with_reducible (have zC := Blk5.below (Blk5.new wr.drew 26 (.int .i64 0) (.int .i64 0) (.string { data := #[] }) (.slice none 0 0) (.slice none 0 0)) hb'; obtain ⟨y0, y1, y2, y3, y4⟩ := zC.cell; have yf := zC.frozen) | skip)))
          all_goals go_wp2_with fail
          all_goals go_meet
          all_goals (first | (have hF := And.intro (var_set (w := w) zC (by simp) (by have := hle; simp; omega) hv') (below_set5 (below_trans (by first | with_reducible exact hDa | with_reducible exact hDb) hb') (Nat.le_refl _) 0 (.int .i64 o0) (.int .i64 o1) (.string o2) (.slice o3 o4 o5) (.slice o6 o7 o8)); unfold set5 at hF; simp only [Nat.zero_add] at hF; with_reducible exact ⟨_, o0, o1, o2, o3, o4, o5, o6, o7, o8, rfl, rfl, hide hF⟩) | with_reducible exact ⟨_, o0, o1, o2, o3, o4, o5, o6, o7, o8, rfl, rfl, hide (And.intro (var_new hleR hv') (below_trans (below_trans hDr hb') (below_alloc1 _ _)))⟩)
        case rest =>
        rename World => wX
        obtain ⟨bo, o0, o1, o2, o3, o4, o5, o6, o7, o8, rfl, rfl, hcx⟩ := hcut
        have hbx := hcx.out.2
        have Ho := hide hcx.out.1
        clear hcx
        replace Hv := hide (Hv.out.go hbx)
        replace Hx := hide (Hx.out.go hbx)
        replace Hp := hide (Hp.out.go hbx)
        replace HZ := hide (HZ.out.go hbx)
        replace HE := hide (HE.out.go hbx)
        clear hbx
        go_wp2_with fail
        obtain ⟨kb', ko', kq', hka', hkB', hkx', hkz', hkd⟩ := key_elem (val_parts Hv.out.val).2.2.2.2.2.1 (k := k) (by rw [← HK4.out]; exact hkl)
        cases hka'
        rw [hkx] at hkx'
        cases hkx'
        obtain ⟨lb, lo, y, l0, l1, l2, l3, l4, l5, l6, l7, l8, hla, hlB, hlx, el0, el1, el2, el3, el4, hly⟩ := row_elem (val_parts Hv.out.val).2.2.2.2.2.2 (k := k) (put_keys okP hkx)
        subst hla
        clear hkc hkB hkB' hkz'
        have hkv : (k : Int) < (v7 : Int) := by have := put_keys okP hkx; rw [HL7.out]; omega
        by_cases hne : kq = sk
        ·
          subst hne
          obtain ⟨cv0, cv1, cv2, cv3, cv4⟩ := Hv.out.blk.cell
          have dv0 := fun m => ext_cell cv0 m
          have dv1 := fun m => ext_cell cv1 m
          have dv2 := fun m => ext_cell cv2 m
          have dv3 := fun m => ext_cell cv3 m
          have dv4 := fun m => ext_cell cv4 m
          clear cv0 cv1 cv2 cv3 cv4
          obtain ⟨co0, co1, co2, co3, co4⟩ := Ho.out.blk.cell
          have do0 := fun m => ext_cell co0 m
          have do1 := fun m => ext_cell co1 m
          have do2 := fun m => ext_cell co2 m
          have do3 := fun m => ext_cell co3 m
          have do4 := fun m => ext_cell co4 m
          clear co0 co1 co2 co3 co4
          have ddhkd := fun m => ext_cell hkd m
          have ddel0 := fun m => ext_cell el0 m
          have ddel1 := fun m => ext_cell el1 m
          have ddel2 := fun m => ext_cell el2 m
          have ddel3 := fun m => ext_cell el3 m
          have ddel4 := fun m => ext_cell el4 m
          clear hkd el0 el1 el2 el3 el4
          have hne := Ext.some wX
          refine wp_region_ext (by kernel_rfl) (by kernel_rfl) ?_
          repeat (first | go_big_quiet_step (fail) | quiet_step (fail))
          refine wpQuiet_nil ?_
          intro w12 hw12
          obtain ⟨m, rfl⟩ := hw12
          obtain ⟨W12, hW12⟩ : ∃ W1, Hid (m.now = W1) := ⟨_, rfl⟩
          have hb12 := m.from_
          rw [hW12.out] at hb12 ⊢
          clear hW12 hne dv0 dv1 dv2 dv3 dv4 do0 do1 do2 do3 do4 ddhkd ddel0 ddel1 ddel2 ddel3 ddel4
          replace Hv := hide (Hv.out.go hb12)
          replace Hx := hide (Hx.out.go hb12)
          replace Hp := hide (Hp.out.go hb12)
          replace HZ := hide (HZ.out.go hb12)
          replace Ho := hide (Ho.out.go hb12)
          replace HE := hide (HE.out.go hb12)
          clear hb12
          go_wp2_with fail
          go_roundw
          case rel =>
            first
              | exact ⟨k + 1, by omega, by go_num, HZ⟩
              | ((repeat apply Exists.intro); exact ⟨⟨k + 1, by omega, by go_num, HZ⟩, rfl⟩)
          case measure => simp [intOf]; omega
        ·
          have hnb : (kq.toList == sk.toList) = false := toList_ne hne
          have hOy : (O, ob) = (y, true) := by have := get_put_other okP hkx hlx hne; rw [hP.out] at this; dsimp only at this; rw [← hO.out]; exact this
          cases hOy
          have hzy : wtT 11 O ≤ 10000 := by have := wt_mem (d := 11) hlx; have e : wtT 12 V = 3 + (Nd.keys (α := Tr 11) V).length + ((Nd.list (α := Tr 11) V).map (wtT 11)).sum := rfl; omega
          have e0 : Hid (∀ m : Ext wX, Calls Tryz.prog 12 #[.agg #[.int .i64 o0, .int .i64 o1, .string o2, .slice o3 o4 o5, .slice o6 o7 o8], .agg #[.int .i64 l0, .int .i64 l1, .string l2, .slice l3 l4 l5, .slice l6 l7 l8]] m.now fun e w' => e = .returned (.bool true) ∧ Below m.now.heap.size m.now w') := fun m => samE (freshP_go Ho.out.val m.from_) (freshP_go hly m.from_) hzy
          obtain ⟨cv0, cv1, cv2, cv3, cv4⟩ := Hv.out.blk.cell
          have dv0 := fun m => ext_cell cv0 m
          have dv1 := fun m => ext_cell cv1 m
          have dv2 := fun m => ext_cell cv2 m
          have dv3 := fun m => ext_cell cv3 m
          have dv4 := fun m => ext_cell cv4 m
          clear cv0 cv1 cv2 cv3 cv4
          obtain ⟨co0, co1, co2, co3, co4⟩ := Ho.out.blk.cell
          have do0 := fun m => ext_cell co0 m
          have do1 := fun m => ext_cell co1 m
          have do2 := fun m => ext_cell co2 m
          have do3 := fun m => ext_cell co3 m
          have do4 := fun m => ext_cell co4 m
          clear co0 co1 co2 co3 co4
          have ddhkd := fun m => ext_cell hkd m
          have ddel0 := fun m => ext_cell el0 m
          have ddel1 := fun m => ext_cell el1 m
          have ddel2 := fun m => ext_cell el2 m
          have ddel3 := fun m => ext_cell el3 m
          have ddel4 := fun m => ext_cell el4 m
          clear hkd el0 el1 el2 el3 el4
          have hne := Ext.some wX
          refine wp_region_ext (by kernel_rfl) (by kernel_rfl) ?_
          repeat (first | go_big_quiet_step ((go_at_call 12; first | with_reducible exact Calls.ext_of (e0.out _))) | quiet_step ((go_at_call 12; first | with_reducible exact Calls.ext_of (e0.out _))))
          refine wpQuiet_nil ?_
          intro w12 hw12
          obtain ⟨m, rfl⟩ := hw12
          obtain ⟨W12, hW12⟩ : ∃ W1, Hid (m.now = W1) := ⟨_, rfl⟩
          have hb12 := m.from_
          rw [hW12.out] at hb12 ⊢
          clear hW12 hne e0 dv0 dv1 dv2 dv3 dv4 do0 do1 do2 do3 do4 ddhkd ddel0 ddel1 ddel2 ddel3 ddel4
          replace Hv := hide (Hv.out.go hb12)
          replace Hx := hide (Hx.out.go hb12)
          replace Hp := hide (Hp.out.go hb12)
          replace HZ := hide (HZ.out.go hb12)
          replace Ho := hide (Ho.out.go hb12)
          replace HE := hide (HE.out.go hb12)
          clear hb12
          go_wp2_with fail
          go_roundw
          case rel =>
            first
              | exact ⟨k + 1, by omega, by go_num, HZ⟩
              | ((repeat apply Exists.intro); exact ⟨⟨k + 1, by omega, by go_num, HZ⟩, rfl⟩)
          case measure => simp [intOf]; omega
      ·
        obtain rfl : k = v4 := by omega
        obtain ⟨xv0, xv1, xv2, xv3, xv4⟩ := Hv.out.blk.cell
        have xvl := Hv.out.blk.lt
        go_wp2_with fail
        clear xv0 xv1 xv2 xv3 xv4 xvl
        refine (drawPartSet_any a n cap wr hcap (hB.out.wider (fun b hb => HE.out.bel.block b hb) HE.out.bel.size)).mono ?_
        rintro e w11 ⟨u, tr, i, u', tz, rfl, ⟨hi1, hi2⟩, hr, hr1, hzz, hzz1, hb11⟩
        obtain ⟨r0, r1, r2, r3, r4, r5, r6, r7, r8, rfl⟩ := hr.shape
        obtain ⟨z0, z1, z2, z3, z4, z5, z6, z7, z8, rfl⟩ := hzz.shape
        replace hr := (freshP_wide hr HE.out.le).upN 1
        replace hzz := freshP_wide hzz HE.out.le
        have hzr : wtT 12 (upN 11 1 tr) ≤ 10000 := Nat.le_trans (Nat.le_of_eq (wtT_upN 11 1 tr)) (by omega)
        have hzz2 : wtT 11 tz ≤ 10000 := by omega
        obtain ⟨R, hR⟩ : ∃ V : Tr 12, V = upN 11 1 tr := ⟨_, rfl⟩
        replace hr : ValAt (FreshP w w11) w11 12 R (.agg #[.int .i64 r0, .int .i64 r1, .string r2, .slice r3 r4 r5, .slice r6 r7 r8]) := by rw [hR]; exact hr
        rw [← hR] at hzr
        clear hR hr1 hzz1
        have hI : I64 i := ⟨by omega, by omega⟩
        replace HE := hide (HE.out.go hb11)
        clear hb11
        obtain ⟨W12, HW12⟩ : ∃ W1, Hid ((w11.alloc (.cells #[.int .i64 r0, .int .i64 r1, .string r2, .slice r3 r4 r5, .slice r6 r7 r8] 26)).alloc (.cells #[.int .i64 z0, .int .i64 z1, .string z2, .slice z3 z4 z5, .slice z6 z7 z8] 26) = W1) := ⟨_, rfl⟩
        obtain ⟨Hr, Hz, hA12⟩ := VarAt.two hr hzz
        rw [HW12.out] at Hr Hz hA12
        replace Hr := hide Hr
        replace Hz := hide Hz
        clear hr hzz
        go_wp2_with fail
        rw [HW12.out]
        clear HW12
        replace HE := hide (HE.out.go hA12)
        clear hA12
        obtain ⟨⟨S1, b2⟩, hS⟩ : ∃ r, Hid (partSetT 10 R i tz = r) := ⟨_, rfl⟩
        have hzS : wtT 12 S1 ≤ 10000 := by have := wtT_ok (okT_partSet 10 R i tz); rw [hS.out] at this; have h2 : wtT 12 S1 ≤ 300 := this; omega
        have hc := setI (d := 10) Hr.out.val Hz.out.val hI HE.out.err HE.out.le
        rw [hS.out] at hc; dsimp only at hc
        refine hc.mono ?_
        clear hc
        rintro e w13 ⟨s0, s1, s2, s3, s4, s5, s6, s7, s8, rfl, hu13, hb13⟩
        replace Hr := hide (Hr.out.go hb13)
        replace Hz := hide (Hz.out.go hb13)
        replace HE := hide (HE.out.go hb13)
        clear hb13
        obtain ⟨xr0, xr1, xr2, xr3, xr4⟩ := Hr.out.blk.cell
        have xrl := Hr.out.blk.lt
        obtain ⟨xz0, xz1, xz2, xz3, xz4⟩ := Hz.out.blk.cell
        have xzl := Hz.out.blk.lt
        obtain ⟨W14, HW14⟩ : ∃ W1, Hid (w13.alloc (.cells #[.int .i64 s0, .int .i64 s1, .string s2, .slice s3 s4 s5, .slice s6 s7 s8] 26) = W1) := ⟨_, rfl⟩
        have hA14 : Below w13.heap.size w13 W14 := by rw [← HW14.out]; exact below_alloc1 _ _
        have Hs : Hid (VarAt w W14 w13.heap.size s0 s1 s2 s3 s4 s5 s6 s7 s8 12 S1) := by rw [← HW14.out]; exact VarAt.new hu13
        clear hu13
        go_wp2_with fail
        rw [HW14.out]
        clear HW14
        clear xr0 xr1 xr2 xr3 xr4 xrl xz0 xz1 xz2 xz3 xz4 xzl
        replace Hr := hide (Hr.out.go hA14)
        replace Hz := hide (Hz.out.go hA14)
        replace HE := hide (HE.out.go hA14)
        clear hA14
        have hc := setS (d := 10) Hr.out.val Hz.out.val hI hzr hzz2 HE.out.le
        rw [hS.out] at hc; dsimp only at hc
        refine hc.mono ?_
        clear hc
        rintro e w15 ⟨q0, q1, q2, q3, q4, q5, q6, q7, q8, rfl, hu15, hb15⟩
        replace Hr := hide (Hr.out.go hb15)
        replace Hz := hide (Hz.out.go hb15)
        replace Hs := hide (Hs.out.go hb15)
        replace HE := hide (HE.out.go hb15)
        clear hb15
        obtain ⟨xs0, xs1, xs2, xs3, xs4⟩ := Hs.out.blk.cell
        have xsl := Hs.out.blk.lt
        obtain ⟨W16, HW16⟩ : ∃ W1, Hid (w15.alloc (.cells #[.int .i64 q0, .int .i64 q1, .string q2, .slice q3 q4 q5, .slice q6 q7 q8] 26) = W1) := ⟨_, rfl⟩
        have hA16 : Below w15.heap.size w15 W16 := by rw [← HW16.out]; exact below_alloc1 _ _
        have Hq : Hid (VarAt w W16 w15.heap.size q0 q1 q2 q3 q4 q5 q6 q7 q8 12 S1) := by rw [← HW16.out]; exact VarAt.new hu15
        clear hu15
        go_wp2_with fail
        rw [HW16.out]
        clear HW16
        clear xs0 xs1 xs2 xs3 xs4 xsl
        replace Hr := hide (Hr.out.go hA16)
        replace Hz := hide (Hz.out.go hA16)
        replace Hs := hide (Hs.out.go hA16)
        replace HE := hide (HE.out.go hA16)
        clear hA16
        have hc := samE Hs.out.val Hq.out.val hzS
        refine hc.mono ?_
        clear hc
        rintro e w17 ⟨rfl, hb17⟩
        replace Hr := hide (Hr.out.go hb17)
        replace Hz := hide (Hz.out.go hb17)
        replace Hs := hide (Hs.out.go hb17)
        replace Hq := hide (Hq.out.go hb17)
        replace HE := hide (HE.out.go hb17)
        clear hb17
        clear Hq
        cases b2 with
        | false =>
          have hS0 : S1 = zeroT 11 := by have := set_no (d := 10) (t := R) (i := i) (x := tz) (by rw [hS.out]); rw [hS.out] at this; exact this
          have hs0 : s0 = 0 := by have := (val_parts Hs.out.val).1; rw [hS0] at this; exact this
          obtain ⟨xs0, xs1, xs2, xs3, xs4⟩ := Hs.out.blk.cell
          have xsl := Hs.out.blk.lt
          go_wp2_with fail
          go_ret
          exact ⟨rfl, HE.out.bel⟩
        | true =>
          have okS : (partSetT 10 R i tz).2 = true := by rw [hS.out]
          have hG : partAtT 10 S1 i = (tz, true) := by have := at_set okS; rw [hS.out] at this; exact this
          obtain ⟨xs0, xs1, xs2, xs3, xs4⟩ := Hs.out.blk.cell
          have xsl := Hs.out.blk.lt
          go_wp2_with fail
          clear xs0 xs1 xs2 xs3 xs4 xsl
          have hc := atI (d := 10) Hs.out.val hI HE.out.err HE.out.le
          rw [hG] at hc; dsimp only at hc
          refine hc.mono ?_
          clear hc
          rintro e w18 ⟨g0, g1, g2, g3, g4, g5, g6, g7, g8, rfl, hu18, hb18⟩
          replace Hr := hide (Hr.out.go hb18)
          replace Hz := hide (Hz.out.go hb18)
          replace Hs := hide (Hs.out.go hb18)
          replace HE := hide (HE.out.go hb18)
          clear hb18
          obtain ⟨xs0, xs1, xs2, xs3, xs4⟩ := Hs.out.blk.cell
          have xsl := Hs.out.blk.lt
          obtain ⟨xr0, xr1, xr2, xr3, xr4⟩ := Hr.out.blk.cell
          have xrl := Hr.out.blk.lt
          obtain ⟨W19, HW19⟩ : ∃ W1, Hid (w18.alloc (.cells #[.int .i64 g0, .int .i64 g1, .string g2, .slice g3 g4 g5, .slice g6 g7 g8] 26) = W1) := ⟨_, rfl⟩
          have hA19 : Below w18.heap.size w18 W19 := by rw [← HW19.out]; exact below_alloc1 _ _
          have Hg : Hid (VarAt w W19 w18.heap.size g0 g1 g2 g3 g4 g5 g6 g7 g8 11 tz) := by rw [← HW19.out]; exact VarAt.new hu18
          clear hu18
          go_wp2_with fail
          rw [HW19.out]
          clear HW19
          clear xs0 xs1 xs2 xs3 xs4 xsl xr0 xr1 xr2 xr3 xr4 xrl
          replace Hr := hide (Hr.out.go hA19)
          replace Hz := hide (Hz.out.go hA19)
          replace Hs := hide (Hs.out.go hA19)
          replace HE := hide (HE.out.go hA19)
          clear hA19
          have HL7 := hide (val_parts Hr.out.val).2.2.2.2.1
          have HS7 := hide (val_parts Hs.out.val).2.2.2.2.1
          have hsl := set_len okS
          rw [hS.out] at hsl
          dsimp only at hsl
          have hn1 : (r7 : Int) ≤ (s7 : Int) := by rw [HL7.out, HS7.out]; have := hsl.1; omega
          have hn2 : i < 0 ∨ i < (s7 : Int) := by rw [HS7.out]; exact hsl.2
          have hr7 : (r7 : Int) ≤ 10000 := by rw [HL7.out]; have hq : (Nd.list (α := Tr 11) R).length ≤ wtT 12 R := wt_list (d := 10) R; omega
          clear hsl
          have HZ := hide (Since.start W19)
          go_loopw [25] (fun j wr => ∃ k : Nat, k ≤ r7 ∧ j = .int .i64 (k : Int) ∧ Hid (Since W19 wr)) (fun j _ => r7 - (intOf j).toNat)
          case atStart => exact ⟨0, Nat.zero_le _, rfl, HZ⟩
          case round =>
            clear HZ
            obtain ⟨k, hk, rfl, HZ⟩ := hrel
            have hbz := HZ.out.bel
            replace Hr := hide (Hr.out.go hbz)
            replace Hz := hide (Hz.out.go hbz)
            replace Hs := hide (Hs.out.go hbz)
            replace Hg := hide (Hg.out.go hbz)
            replace HE := hide (HE.out.go hbz)
            clear hbz
            by_cases hkl : k < r7
            ·
              have hkl2 : (k : Int) < (r7 : Int) := by omega
              obtain ⟨⟨O, ob⟩, hO⟩ : ∃ r, Hid (partAtT 10 S1 (k : Int) = r) := ⟨_, rfl⟩
              obtain ⟨xr0, xr1, xr2, xr3, xr4⟩ := Hr.out.blk.cell
              have xrl := Hr.out.blk.lt
              obtain ⟨xs0, xs1, xs2, xs3, xs4⟩ := Hs.out.blk.cell
              have xsl := Hs.out.blk.lt
              go_wp2_with fail
              clear xr0 xr1 xr2 xr3 xr4 xrl xs0 xs1 xs2 xs3 xs4 xsl
              have hc := atI (d := 10) Hs.out.val (i := (k : Int)) ⟨by omega, by omega⟩ HE.out.err HE.out.le
              rw [hO.out] at hc; dsimp only at hc
              refine hc.mono ?_
              clear hc
              rintro e w20 ⟨o0, o1, o2, o3, o4, o5, o6, o7, o8, rfl, hu20, hb20⟩
              replace Hr := hide (Hr.out.go hb20)
              replace Hz := hide (Hz.out.go hb20)
              replace Hs := hide (Hs.out.go hb20)
              replace Hg := hide (Hg.out.go hb20)
              replace HZ := hide (HZ.out.go hb20)
              replace HE := hide (HE.out.go hb20)
              clear hb20
              obtain ⟨W21, HW21⟩ : ∃ W1, Hid (w20.alloc (.cells #[.int .i64 o0, .int .i64 o1, .string o2, .slice o3 o4 o5, .slice o6 o7 o8] 26) = W1) := ⟨_, rfl⟩
              have hA21 : Below w20.heap.size w20 W21 := by rw [← HW21.out]; exact below_alloc1 _ _
              have Ho : Hid (VarAt w W21 w20.heap.size o0 o1 o2 o3 o4 o5 o6 o7 o8 11 O) := by rw [← HW21.out]; exact VarAt.new hu20
              clear hu20
              go_wp2_with fail
              rw [HW21.out]
              clear HW21
              replace Hr := hide (Hr.out.go hA21)
              replace Hz := hide (Hz.out.go hA21)
              replace Hs := hide (Hs.out.go hA21)
              replace Hg := hide (Hg.out.go hA21)
              replace HZ := hide (HZ.out.go hA21)
              replace HE := hide (HE.out.go hA21)
              clear hA21
              obtain ⟨lb, lo, y, l0, l1, l2, l3, l4, l5, l6, l7, l8, hla, hlB, hlx, el0, el1, el2, el3, el4, hly⟩ := row_elem (val_parts Hr.out.val).2.2.2.2.2.2 (k := k) (by rw [← HL7.out]; exact hkl)
              subst hla
              by_cases c1 : (k : Int) = i
              ·
                have c1' : ((k : Int) != i) = false := by simpa using c1
                clear c1
                obtain ⟨cr0, cr1, cr2, cr3, cr4⟩ := Hr.out.blk.cell
                have dr0 := fun m => ext_cell cr0 m
                have dr1 := fun m => ext_cell cr1 m
                have dr2 := fun m => ext_cell cr2 m
                have dr3 := fun m => ext_cell cr3 m
                have dr4 := fun m => ext_cell cr4 m
                clear cr0 cr1 cr2 cr3 cr4
                obtain ⟨co0, co1, co2, co3, co4⟩ := Ho.out.blk.cell
                have do0 := fun m => ext_cell co0 m
                have do1 := fun m => ext_cell co1 m
                have do2 := fun m => ext_cell co2 m
                have do3 := fun m => ext_cell co3 m
                have do4 := fun m => ext_cell co4 m
                clear co0 co1 co2 co3 co4
                have ddel0 := fun m => ext_cell el0 m
                have ddel1 := fun m => ext_cell el1 m
                have ddel2 := fun m => ext_cell el2 m
                have ddel3 := fun m => ext_cell el3 m
                have ddel4 := fun m => ext_cell el4 m
                clear el0 el1 el2 el3 el4
                have hne := Ext.some W21
                refine wp_region_ext (by kernel_rfl) (by kernel_rfl) ?_
                repeat (first | go_big_quiet_step (fail) | quiet_step (fail))
                refine wpQuiet_nil ?_
                intro w22 hw22
                obtain ⟨m, rfl⟩ := hw22
                obtain ⟨W22, hW22⟩ : ∃ W1, Hid (m.now = W1) := ⟨_, rfl⟩
                have hb22 := m.from_
                rw [hW22.out] at hb22 ⊢
                clear hW22 hne dr0 dr1 dr2 dr3 dr4 do0 do1 do2 do3 do4 ddel0 ddel1 ddel2 ddel3 ddel4
                replace Hr := hide (Hr.out.go hb22)
                replace Hz := hide (Hz.out.go hb22)
                replace Hs := hide (Hs.out.go hb22)
                replace Hg := hide (Hg.out.go hb22)
                replace HZ := hide (HZ.out.go hb22)
                replace Ho := hide (Ho.out.go hb22)
                replace HE := hide (HE.out.go hb22)
                clear hb22
                go_wp2_with fail
                go_roundw
                case rel =>
                  first
                    | exact ⟨k + 1, by omega, by go_num, HZ⟩
                    | ((repeat apply Exists.intro); exact ⟨⟨k + 1, by omega, by go_num, HZ⟩, rfl⟩)
                case measure => simp [intOf]; omega
              ·
                have c1' : ((k : Int) != i) = true := by simpa using c1
                by_cases c2 : (k : Int) = i + (r7 : Int)
                ·
                  have c2' : ((k : Int) != i + (r7 : Int)) = false := by simpa using c2
                  clear c2
                  obtain ⟨cr0, cr1, cr2, cr3, cr4⟩ := Hr.out.blk.cell
                  have dr0 := fun m => ext_cell cr0 m
                  have dr1 := fun m => ext_cell cr1 m
                  have dr2 := fun m => ext_cell cr2 m
                  have dr3 := fun m => ext_cell cr3 m
                  have dr4 := fun m => ext_cell cr4 m
                  clear cr0 cr1 cr2 cr3 cr4
                  obtain ⟨co0, co1, co2, co3, co4⟩ := Ho.out.blk.cell
                  have do0 := fun m => ext_cell co0 m
                  have do1 := fun m => ext_cell co1 m
                  have do2 := fun m => ext_cell co2 m
                  have do3 := fun m => ext_cell co3 m
                  have do4 := fun m => ext_cell co4 m
                  clear co0 co1 co2 co3 co4
                  have ddel0 := fun m => ext_cell el0 m
                  have ddel1 := fun m => ext_cell el1 m
                  have ddel2 := fun m => ext_cell el2 m
                  have ddel3 := fun m => ext_cell el3 m
                  have ddel4 := fun m => ext_cell el4 m
                  clear el0 el1 el2 el3 el4
                  have hne := Ext.some W21
                  refine wp_region_ext (by kernel_rfl) (by kernel_rfl) ?_
                  repeat (first | go_big_quiet_step (fail) | quiet_step (fail))
                  refine wpQuiet_nil ?_
                  intro w22 hw22
                  obtain ⟨m, rfl⟩ := hw22
                  obtain ⟨W22, hW22⟩ : ∃ W1, Hid (m.now = W1) := ⟨_, rfl⟩
                  have hb22 := m.from_
                  rw [hW22.out] at hb22 ⊢
                  clear hW22 hne dr0 dr1 dr2 dr3 dr4 do0 do1 do2 do3 do4 ddel0 ddel1 ddel2 ddel3 ddel4
                  replace Hr := hide (Hr.out.go hb22)
                  replace Hz := hide (Hz.out.go hb22)
                  replace Hs := hide (Hs.out.go hb22)
                  replace Hg := hide (Hg.out.go hb22)
                  replace HZ := hide (HZ.out.go hb22)
                  replace Ho := hide (Ho.out.go hb22)
                  replace HE := hide (HE.out.go hb22)
                  clear hb22
                  go_wp2_with fail
                  go_roundw
                  case rel =>
                    first
                      | exact ⟨k + 1, by omega, by go_num, HZ⟩
                      | ((repeat apply Exists.intro); exact ⟨⟨k + 1, by omega, by go_num, HZ⟩, rfl⟩)
                  case measure => simp [intOf]; omega
                ·
                  have c2' : ((k : Int) != i + (r7 : Int)) = true := by simpa using c2
                  have hOy : (O, ob) = (y, true) := by have := at_set_other okS hlx c1 (by rw [← HL7.out]; exact c2); rw [hS.out] at this; dsimp only at this; rw [← hO.out]; exact this
                  cases hOy
                  have hzy : wtT 11 O ≤ 10000 := by have := wt_mem (d := 11) hlx; have e : wtT 12 R = 3 + (Nd.keys (α := Tr 11) R).length + ((Nd.list (α := Tr 11) R).map (wtT 11)).sum := rfl; omega
                  have e0 : Hid (∀ m : Ext W21, Calls Tryz.prog 12 #[.agg #[.int .i64 o0, .int .i64 o1, .string o2, .slice o3 o4 o5, .slice o6 o7 o8], .agg #[.int .i64 l0, .int .i64 l1, .string l2, .slice l3 l4 l5, .slice l6 l7 l8]] m.now fun e w' => e = .returned (.bool true) ∧ Below m.now.heap.size m.now w') := fun m => samE (freshP_go Ho.out.val m.from_) (freshP_go hly m.from_) hzy
                  obtain ⟨cr0, cr1, cr2, cr3, cr4⟩ := Hr.out.blk.cell
                  have dr0 := fun m => ext_cell cr0 m
                  have dr1 := fun m => ext_cell cr1 m
                  have dr2 := fun m => ext_cell cr2 m
                  have dr3 := fun m => ext_cell cr3 m
                  have dr4 := fun m => ext_cell cr4 m
                  clear cr0 cr1 cr2 cr3 cr4
                  obtain ⟨co0, co1, co2, co3, co4⟩ := Ho.out.blk.cell
                  have do0 := fun m => ext_cell co0 m
                  have do1 := fun m => ext_cell co1 m
                  have do2 := fun m => ext_cell co2 m
                  have do3 := fun m => ext_cell co3 m
                  have do4 := fun m => ext_cell co4 m
                  clear co0 co1 co2 co3 co4
                  have ddel0 := fun m => ext_cell el0 m
                  have ddel1 := fun m => ext_cell el1 m
                  have ddel2 := fun m => ext_cell el2 m
                  have ddel3 := fun m => ext_cell el3 m
                  have ddel4 := fun m => ext_cell el4 m
                  clear el0 el1 el2 el3 el4
                  have hne := Ext.some W21
                  refine wp_region_ext (by kernel_rfl) (by kernel_rfl) ?_
                  repeat (first | go_big_quiet_step ((go_at_call 12; first | with_reducible exact Calls.ext_of (e0.out _))) | quiet_step ((go_at_call 12; first | with_reducible exact Calls.ext_of (e0.out _))))
                  refine wpQuiet_nil ?_
                  intro w22 hw22
                  obtain ⟨m, rfl⟩ := hw22
                  obtain ⟨W22, hW22⟩ : ∃ W1, Hid (m.now = W1) := ⟨_, rfl⟩
                  have hb22 := m.from_
                  rw [hW22.out] at hb22 ⊢
                  clear hW22 hne e0 dr0 dr1 dr2 dr3 dr4 do0 do1 do2 do3 do4 ddel0 ddel1 ddel2 ddel3 ddel4
                  replace Hr := hide (Hr.out.go hb22)
                  replace Hz := hide (Hz.out.go hb22)
                  replace Hs := hide (Hs.out.go hb22)
                  replace Hg := hide (Hg.out.go hb22)
                  replace HZ := hide (HZ.out.go hb22)
                  replace Ho := hide (Ho.out.go hb22)
                  replace HE := hide (HE.out.go hb22)
                  clear hb22
                  go_wp2_with fail
                  go_roundw
                  case rel =>
                    first
                      | exact ⟨k + 1, by omega, by go_num, HZ⟩
                      | ((repeat apply Exists.intro); exact ⟨⟨k + 1, by omega, by go_num, HZ⟩, rfl⟩)
                  case measure => simp [intOf]; omega
            ·
              obtain rfl : k = r7 := by omega
              by_cases hi0 : i < 0
              ·
                obtain ⟨xr0, xr1, xr2, xr3, xr4⟩ := Hr.out.blk.cell
                have xrl := Hr.out.blk.lt
                obtain ⟨xg0, xg1, xg2, xg3, xg4⟩ := Hg.out.blk.cell
                have xgl := Hg.out.blk.lt
                obtain ⟨xz0, xz1, xz2, xz3, xz4⟩ := Hz.out.blk.cell
                have xzl := Hz.out.blk.lt
                go_wp2_with fail
                clear xr0 xr1 xr2 xr3 xr4 xrl xg0 xg1 xg2 xg3 xg4 xgl xz0 xz1 xz2 xz3 xz4 xzl
                have hc := samE Hg.out.val Hz.out.val hzz2
                refine hc.mono ?_
                clear hc
                rintro e w20 ⟨rfl, hb20⟩
                replace Hr := hide (Hr.out.go hb20)
                replace Hz := hide (Hz.out.go hb20)
                replace Hs := hide (Hs.out.go hb20)
                replace Hg := hide (Hg.out.go hb20)
                replace HE := hide (HE.out.go hb20)
                clear hb20
                obtain ⟨xr0, xr1, xr2, xr3, xr4⟩ := Hr.out.blk.cell
                have xrl := Hr.out.blk.lt
                go_wp2_with fail
                go_ret
                exact ⟨rfl, HE.out.bel⟩
              ·
                have hi3 : i < (s7 : Int) := by omega
                obtain ⟨xr0, xr1, xr2, xr3, xr4⟩ := Hr.out.blk.cell
                have xrl := Hr.out.blk.lt
                obtain ⟨xg0, xg1, xg2, xg3, xg4⟩ := Hg.out.blk.cell
                have xgl := Hg.out.blk.lt
                obtain ⟨xz0, xz1, xz2, xz3, xz4⟩ := Hz.out.blk.cell
                have xzl := Hz.out.blk.lt
                go_wp2_with fail
                clear xr0 xr1 xr2 xr3 xr4 xrl xg0 xg1 xg2 xg3 xg4 xgl xz0 xz1 xz2 xz3 xz4 xzl
                have hc := samE Hg.out.val Hz.out.val hzz2
                refine hc.mono ?_
                clear hc
                rintro e w20 ⟨rfl, hb20⟩
                replace Hr := hide (Hr.out.go hb20)
                replace Hz := hide (Hz.out.go hb20)
                replace Hs := hide (Hs.out.go hb20)
                replace Hg := hide (Hg.out.go hb20)
                replace HE := hide (HE.out.go hb20)
                clear hb20
                obtain ⟨xr0, xr1, xr2, xr3, xr4⟩ := Hr.out.blk.cell
                have xrl := Hr.out.blk.lt
                go_wp2_with fail
                go_ret
                exact ⟨rfl, HE.out.bel⟩
end Go.Proofs.YtgjahnkldobphaaGreatDoor
