/- Texts of the proof, put together by program: LFnPartAt. -/
import Derived.Test.YtgjahnkldobphaaGreatDoorP31
/- FnPartAt: for all bytes that lie in memory the law answers true. -/
namespace Go.Proofs.YtgjahnkldobphaaGreatDoor
open Go.RowKit Go.Deep

set_option maxRecDepth 100000 in
set_option maxHeartbeats 8000000 in
theorem lawFnPartAt (a : Option Addr) (n cap : Nat) (w : World) (hcap : n ≤ cap) (_hm : cap ≤ 9223372036854775807) (hB : BytesAt w.heap.size w a n) (hg : ErrType w) :
    Calls Tryz.prog 7 #[.slice a n cap] w fun e w' => e = .returned (.bool true) ∧ Below w.heap.size w w' := by
  by_cases hn : 1048576 < n
  · go_enter Tryz.func7, Tryz.ntmps7
    go_wp2_with fail
    go_ret
    exact ⟨rfl, Below.refl _ _⟩
  go_enter Tryz.func7, Tryz.ntmps7
  go_wp2_with fail
  refine (drawPartAt_any a n cap w hcap hB).mono ?_
  rintro e w1 ⟨u, tv, i, rfl, hv, hv1, ⟨hi1, hi2⟩, hb1⟩
  obtain ⟨v0, v1, v2, v3, v4, v5, v6, v7, v8, rfl⟩ := hv.shape
  have HE : Hid (Amid w w1) := ⟨hb1, hg.below hb1⟩
  clear hb1 hB
  have hv12 := hv.upN 1
  have hz12 : wtT 12 (upN 11 1 tv) ≤ 10000 := Nat.le_trans (Nat.le_of_eq (wtT_upN 11 1 tv)) (by omega)
  obtain ⟨V, hV⟩ : ∃ V : Tr 12, V = upN 11 1 tv := ⟨_, rfl⟩
  replace hv12 : ValAt (FreshP w w1) w1 12 V (.agg #[.int .i64 v0, .int .i64 v1, .string v2, .slice v3 v4 v5, .slice v6 v7 v8]) := by rw [hV]; exact hv12
  rw [← hV] at hz12
  clear hv hV hv1
  have hI : I64 i := ⟨by omega, by omega⟩
  have hkind : v0 = Nd.kind V := by have := (parts_of (d := 11) hv12).1; cases this; rfl
  have hlen : v7 = (Nd.list V).length := by
    obtain ⟨_, _, hsl, _⟩ := (parts_of (d := 11) hv12).2.2.2.2.2.2.2.open'
    cases hsl
    rfl
  have hK := hide hkind
  have hL := hide hlen
  clear hkind hlen
  obtain ⟨W2, HW2⟩ : ∃ W1, Hid (w1.alloc (.cells #[.int .i64 v0, .int .i64 v1, .string v2, .slice v3 v4 v5, .slice v6 v7 v8] 26) = W1) := ⟨_, rfl⟩
  have hA2 : Below w1.heap.size w1 W2 := by rw [← HW2.out]; exact below_alloc1 _ _
  have Hv : Hid (VarAt w W2 w1.heap.size v0 v1 v2 v3 v4 v5 v6 v7 v8 12 V) := by rw [← HW2.out]; exact VarAt.new hv12
  clear hv12
  go_wp2_with fail
  rw [HW2.out]
  clear HW2
  replace HE := hide (HE.out.go hA2)
  clear hA2
  obtain ⟨⟨X, b1⟩, hX⟩ : ∃ r, Hid (partAtT 10 V i = r) := ⟨_, rfl⟩
  have hzX : wtT 11 X ≤ 10000 := by have := wtT_ok (okT_partAt 10 V i); rw [hX.out] at this; have h2 : wtT 11 X ≤ 300 := this; omega
  have hc := atI (d := 10) Hv.out.val hI HE.out.err HE.out.le
  rw [hX.out] at hc; dsimp only at hc
  refine hc.mono ?_
  clear hc
  rintro e w3 ⟨x0, x1, x2, x3, x4, x5, x6, x7, x8, rfl, hu3, hb3⟩
  replace Hv := hide (Hv.out.go hb3)
  replace HE := hide (HE.out.go hb3)
  clear hb3
  obtain ⟨xv0, xv1, xv2, xv3, xv4⟩ := Hv.out.blk.cell
  have xvl := Hv.out.blk.lt
  obtain ⟨W4, HW4⟩ : ∃ W1, Hid (w3.alloc (.cells #[.int .i64 x0, .int .i64 x1, .string x2, .slice x3 x4 x5, .slice x6 x7 x8] 26) = W1) := ⟨_, rfl⟩
  have hA4 : Below w3.heap.size w3 W4 := by rw [← HW4.out]; exact below_alloc1 _ _
  have Hx : Hid (VarAt w W4 w3.heap.size x0 x1 x2 x3 x4 x5 x6 x7 x8 11 X) := by rw [← HW4.out]; exact VarAt.new hu3
  clear hu3
  go_wp2_with fail
  rw [HW4.out]
  clear HW4
  clear xv0 xv1 xv2 xv3 xv4 xvl
  replace Hv := hide (Hv.out.go hA4)
  replace HE := hide (HE.out.go hA4)
  clear hA4
  have hc := atS (d := 10) Hv.out.val hI hz12 HE.out.le
  rw [hX.out] at hc; dsimp only at hc
  refine hc.mono ?_
  clear hc
  rintro e w5 ⟨y0, y1, y2, y3, y4, y5, y6, y7, y8, rfl, hu5, hb5⟩
  replace Hv := hide (Hv.out.go hb5)
  replace Hx := hide (Hx.out.go hb5)
  replace HE := hide (HE.out.go hb5)
  clear hb5
  obtain ⟨xx0, xx1, xx2, xx3, xx4⟩ := Hx.out.blk.cell
  have xxl := Hx.out.blk.lt
  obtain ⟨W6, HW6⟩ : ∃ W1, Hid (w5.alloc (.cells #[.int .i64 y0, .int .i64 y1, .string y2, .slice y3 y4 y5, .slice y6 y7 y8] 26) = W1) := ⟨_, rfl⟩
  have hA6 : Below w5.heap.size w5 W6 := by rw [← HW6.out]; exact below_alloc1 _ _
  have Hy : Hid (VarAt w W6 w5.heap.size y0 y1 y2 y3 y4 y5 y6 y7 y8 11 X) := by rw [← HW6.out]; exact VarAt.new hu5
  clear hu5
  go_wp2_with fail
  rw [HW6.out]
  clear HW6
  clear xx0 xx1 xx2 xx3 xx4 xxl
  replace Hv := hide (Hv.out.go hA6)
  replace Hx := hide (Hx.out.go hA6)
  replace HE := hide (HE.out.go hA6)
  clear hA6
  have hc := samE Hx.out.val Hy.out.val hzX
  refine hc.mono ?_
  clear hc
  rintro e w7 ⟨rfl, hb7⟩
  replace Hv := hide (Hv.out.go hb7)
  replace Hx := hide (Hx.out.go hb7)
  replace Hy := hide (Hy.out.go hb7)
  replace HE := hide (HE.out.go hb7)
  clear hb7
  cases b1 with
  | false =>
    obtain ⟨xx0, xx1, xx2, xx3, xx4⟩ := Hx.out.blk.cell
    have xxl := Hx.out.blk.lt
    obtain ⟨xy0, xy1, xy2, xy3, xy4⟩ := Hy.out.blk.cell
    have xyl := Hy.out.blk.lt
    go_wp2_with fail
    clear xx0 xx1 xx2 xx3 xx4 xxl xy0 xy1 xy2 xy3 xy4 xyl
    have hc := samE Hx.out.val Hy.out.val hzX
    refine hc.mono ?_
    clear hc
    rintro e w8 ⟨rfl, hb8⟩
    replace Hv := hide (Hv.out.go hb8)
    replace Hx := hide (Hx.out.go hb8)
    replace Hy := hide (Hy.out.go hb8)
    replace HE := hide (HE.out.go hb8)
    clear hb8
    go_wp2_with fail
    go_ret
    exact ⟨rfl, HE.out.bel⟩
  | true =>
    have okX : (partAtT 10 V i).2 = true := by rw [hX.out]
    by_cases h5 : v0 = 5
    ·
      clear Hy
      subst h5
      have hk5 : Nd.kind V = 5 := hK.out.symm
      have hok : okT 12 V = true := (at_ok okX).1
      have hm60 : (Nd.list V).length < 60 := by have := hok; rw [row_self hok hk5] at this; exact okT_rowlen this
      have hm : v7 < 60 := by rw [hL.out]; exact hm60
      by_cases hout : (v7 : Int) ≤ i ∨ i < -(v7 : Int)
      ·
        have hXz : X = zeroT 10 := by have := at_out (d := 10) hok hk5 (i := i) (by rw [← hL.out]; exact hout); rw [hX.out] at this; cases this; rfl
        have hx0 : x0 = 0 := by have := (parts_of (d := 10) Hx.out.val).1; rw [hXz] at this; cases this; rfl
        subst hx0
        have ho2 : (v7 : Int) ≤ i ∨ (¬ (v7 : Int) ≤ i ∧ i < -(v7 : Int)) := by omega
        rcases ho2 with ho | ⟨ho, ho2⟩
        all_goals
          obtain ⟨xv0, xv1, xv2, xv3, xv4⟩ := Hv.out.blk.cell
          have xvl := Hv.out.blk.lt
          obtain ⟨xx0, xx1, xx2, xx3, xx4⟩ := Hx.out.blk.cell
          have xxl := Hx.out.blk.lt
          go_wp2_with fail
          go_ret
          exact ⟨rfl, HE.out.bel⟩
      ·
        have n1 : ¬ (v7 : Int) ≤ i := fun e => hout (Or.inl e)
        have n2 : ¬ i < -(v7 : Int) := fun e => hout (Or.inr e)
        clear hout
        have hm' : (v7 : Int) < 60 := by omega
        have e1 : -((Nd.list V).length : Int) ≤ i := by rw [← hL.out]; omega
        have e2 : i < ((Nd.list V).length : Int) := by rw [← hL.out]; omega
        obtain ⟨hy, ho⟩ := set_yes (d := 10) hok hk5 e1 e2
        have hb := set_back (d := 10) hok hk5 e1 e2
        rw [hX.out, hy] at hb
        dsimp only at hb
        obtain ⟨S1, hS1⟩ : ∃ S1, Hid (rowT 11 ((Nd.list V).set (spotN i (Nd.list V).length) (yesT 10)) = S1) := ⟨_, rfl⟩
        rw [hS1.out] at hy hb ho
        have hzS : wtT 12 S1 ≤ 10000 := by have := wtT_ok ho; have h2 : wtT 12 S1 ≤ 300 := this; omega
        have hY := hide hy
        have hBk := hide hb
        clear hy hb ho hS1
        by_cases h0 : i < 0
        ·
          have hO : I64 (i + v7) := ⟨by omega, by omega⟩
          have hZ : Hid (partAtT 10 V (i + v7) = (X, true)) := by show partAtT 10 V (i + v7) = (X, true); rw [← hX.out]; exact at_other (d := 10) (by unfold placeI; rw [← hL.out]; rw [if_neg (by omega), if_neg (by omega), if_neg (by omega), if_pos (by omega)])
          have hT : Hid (partSetT 10 V (i + v7) (yesT 10) = (S1, true)) := by show partSetT 10 V (i + v7) (yesT 10) = (S1, true); rw [← hY.out]; exact set_other (d := 10) hm60 hk5 (by rw [← hL.out]; omega) (by rw [← hL.out]; omega) e1 e2 (by unfold spotN; rw [← hL.out]; rw [if_neg (by omega), if_pos (by omega)])
          clear e1 e2
          obtain ⟨xv0, xv1, xv2, xv3, xv4⟩ := Hv.out.blk.cell
          have xvl := Hv.out.blk.lt
          go_wp2_with fail
          clear xv0 xv1 xv2 xv3 xv4 xvl
          have hc := atI (d := 10) Hv.out.val hO HE.out.err HE.out.le
          rw [hZ.out] at hc; dsimp only at hc
          refine hc.mono ?_
          clear hc
          rintro e w8 ⟨z0, z1, z2, z3, z4, z5, z6, z7, z8, rfl, hu8, hb8⟩
          replace Hv := hide (Hv.out.go hb8)
          replace Hx := hide (Hx.out.go hb8)
          replace HE := hide (HE.out.go hb8)
          clear hb8
          obtain ⟨xv0, xv1, xv2, xv3, xv4⟩ := Hv.out.blk.cell
          have xvl := Hv.out.blk.lt
          obtain ⟨W9, HW9⟩ : ∃ W1, Hid (w8.alloc (.cells #[.int .i64 z0, .int .i64 z1, .string z2, .slice z3 z4 z5, .slice z6 z7 z8] 26) = W1) := ⟨_, rfl⟩
          have hA9 : Below w8.heap.size w8 W9 := by rw [← HW9.out]; exact below_alloc1 _ _
          have Hz : Hid (VarAt w W9 w8.heap.size z0 z1 z2 z3 z4 z5 z6 z7 z8 11 X) := by rw [← HW9.out]; exact VarAt.new hu8
          clear hu8
          go_wp2_with fail
          rw [HW9.out]
          clear HW9
          clear xv0 xv1 xv2 xv3 xv4 xvl
          replace Hv := hide (Hv.out.go hA9)
          replace Hx := hide (Hx.out.go hA9)
          replace HE := hide (HE.out.go hA9)
          clear hA9
          have hc := setI (d := 10) Hv.out.val (yes_at _ _ 10) hI HE.out.err HE.out.le
          rw [hY.out] at hc; dsimp only at hc
          refine hc.mono ?_
          clear hc
          rintro e w10 ⟨s0, s1, s2, s3, s4, s5, s6, s7, s8, rfl, hu10, hb10⟩
          replace Hv := hide (Hv.out.go hb10)
          replace Hx := hide (Hx.out.go hb10)
          replace Hz := hide (Hz.out.go hb10)
          replace HE := hide (HE.out.go hb10)
          clear hb10
          obtain ⟨xv0, xv1, xv2, xv3, xv4⟩ := Hv.out.blk.cell
          have xvl := Hv.out.blk.lt
          obtain ⟨W11, HW11⟩ : ∃ W1, Hid (w10.alloc (.cells #[.int .i64 s0, .int .i64 s1, .string s2, .slice s3 s4 s5, .slice s6 s7 s8] 26) = W1) := ⟨_, rfl⟩
          have hA11 : Below w10.heap.size w10 W11 := by rw [← HW11.out]; exact below_alloc1 _ _
          have Hs : Hid (VarAt w W11 w10.heap.size s0 s1 s2 s3 s4 s5 s6 s7 s8 12 S1) := by rw [← HW11.out]; exact VarAt.new hu10
          clear hu10
          go_wp2_with fail
          rw [HW11.out]
          clear HW11
          clear xv0 xv1 xv2 xv3 xv4 xvl
          replace Hv := hide (Hv.out.go hA11)
          replace Hx := hide (Hx.out.go hA11)
          replace Hz := hide (Hz.out.go hA11)
          replace HE := hide (HE.out.go hA11)
          clear hA11
          have hc := setI (d := 10) Hv.out.val (yes_at _ _ 10) hO HE.out.err HE.out.le
          rw [hT.out] at hc; dsimp only at hc
          refine hc.mono ?_
          clear hc
          rintro e w12 ⟨t0, t1, t2, t3, t4, t5, t6, t7, t8, rfl, hu12, hb12⟩
          replace Hv := hide (Hv.out.go hb12)
          replace Hx := hide (Hx.out.go hb12)
          replace Hz := hide (Hz.out.go hb12)
          replace Hs := hide (Hs.out.go hb12)
          replace HE := hide (HE.out.go hb12)
          clear hb12
          obtain ⟨xs0, xs1, xs2, xs3, xs4⟩ := Hs.out.blk.cell
          have xsl := Hs.out.blk.lt
          obtain ⟨xx0, xx1, xx2, xx3, xx4⟩ := Hx.out.blk.cell
          have xxl := Hx.out.blk.lt
          obtain ⟨W13, HW13⟩ : ∃ W1, Hid (w12.alloc (.cells #[.int .i64 t0, .int .i64 t1, .string t2, .slice t3 t4 t5, .slice t6 t7 t8] 26) = W1) := ⟨_, rfl⟩
          have hA13 : Below w12.heap.size w12 W13 := by rw [← HW13.out]; exact below_alloc1 _ _
          have Ht : Hid (VarAt w W13 w12.heap.size t0 t1 t2 t3 t4 t5 t6 t7 t8 12 S1) := by rw [← HW13.out]; exact VarAt.new hu12
          clear hu12
          go_wp2_with fail
          rw [HW13.out]
          clear HW13
          clear xs0 xs1 xs2 xs3 xs4 xsl xx0 xx1 xx2 xx3 xx4 xxl
          replace Hv := hide (Hv.out.go hA13)
          replace Hx := hide (Hx.out.go hA13)
          replace Hz := hide (Hz.out.go hA13)
          replace Hs := hide (Hs.out.go hA13)
          replace HE := hide (HE.out.go hA13)
          clear hA13
          have hc := setI (d := 10) Hs.out.val Hx.out.val hI HE.out.err HE.out.le
          rw [hBk.out] at hc; dsimp only at hc
          refine hc.mono ?_
          clear hc
          rintro e w14 ⟨bk0, bk1, bk2, bk3, bk4, bk5, bk6, bk7, bk8, rfl, hu14, hb14⟩
          replace Hv := hide (Hv.out.go hb14)
          replace Hx := hide (Hx.out.go hb14)
          replace Hz := hide (Hz.out.go hb14)
          replace Hs := hide (Hs.out.go hb14)
          replace Ht := hide (Ht.out.go hb14)
          replace HE := hide (HE.out.go hb14)
          clear hb14
          obtain ⟨xz0, xz1, xz2, xz3, xz4⟩ := Hz.out.blk.cell
          have xzl := Hz.out.blk.lt
          obtain ⟨xx0, xx1, xx2, xx3, xx4⟩ := Hx.out.blk.cell
          have xxl := Hx.out.blk.lt
          obtain ⟨W15, HW15⟩ : ∃ W1, Hid (w14.alloc (.cells #[.int .i64 bk0, .int .i64 bk1, .string bk2, .slice bk3 bk4 bk5, .slice bk6 bk7 bk8] 26) = W1) := ⟨_, rfl⟩
          have hA15 : Below w14.heap.size w14 W15 := by rw [← HW15.out]; exact below_alloc1 _ _
          have Hbk : Hid (VarAt w W15 w14.heap.size bk0 bk1 bk2 bk3 bk4 bk5 bk6 bk7 bk8 12 V) := by rw [← HW15.out]; exact VarAt.new hu14
          clear hu14
          go_wp2_with fail
          rw [HW15.out]
          clear HW15
          clear xz0 xz1 xz2 xz3 xz4 xzl xx0 xx1 xx2 xx3 xx4 xxl
          replace Hv := hide (Hv.out.go hA15)
          replace Hx := hide (Hx.out.go hA15)
          replace Hz := hide (Hz.out.go hA15)
          replace Hs := hide (Hs.out.go hA15)
          replace Ht := hide (Ht.out.go hA15)
          replace HE := hide (HE.out.go hA15)
          clear hA15
          have hc := samE Hz.out.val Hx.out.val hzX
          refine hc.mono ?_
          clear hc
          rintro e w16 ⟨rfl, hb16⟩
          replace Hv := hide (Hv.out.go hb16)
          replace Hx := hide (Hx.out.go hb16)
          replace Hz := hide (Hz.out.go hb16)
          replace Hs := hide (Hs.out.go hb16)
          replace Ht := hide (Ht.out.go hb16)
          replace Hbk := hide (Hbk.out.go hb16)
          replace HE := hide (HE.out.go hb16)
          clear hb16
          obtain ⟨xs0, xs1, xs2, xs3, xs4⟩ := Hs.out.blk.cell
          have xsl := Hs.out.blk.lt
          obtain ⟨xt0, xt1, xt2, xt3, xt4⟩ := Ht.out.blk.cell
          have xtl := Ht.out.blk.lt
          go_wp2_with fail
          clear xs0 xs1 xs2 xs3 xs4 xsl xt0 xt1 xt2 xt3 xt4 xtl
          have hc := samE Hs.out.val Ht.out.val hzS
          refine hc.mono ?_
          clear hc
          rintro e w17 ⟨rfl, hb17⟩
          replace Hv := hide (Hv.out.go hb17)
          replace Hx := hide (Hx.out.go hb17)
          replace Hz := hide (Hz.out.go hb17)
          replace Hs := hide (Hs.out.go hb17)
          replace Ht := hide (Ht.out.go hb17)
          replace Hbk := hide (Hbk.out.go hb17)
          replace HE := hide (HE.out.go hb17)
          clear hb17
          obtain ⟨xbk0, xbk1, xbk2, xbk3, xbk4⟩ := Hbk.out.blk.cell
          have xbkl := Hbk.out.blk.lt
          obtain ⟨xv0, xv1, xv2, xv3, xv4⟩ := Hv.out.blk.cell
          have xvl := Hv.out.blk.lt
          go_wp2_with fail
          clear xbk0 xbk1 xbk2 xbk3 xbk4 xbkl xv0 xv1 xv2 xv3 xv4 xvl
          have hc := samE Hbk.out.val Hv.out.val hz12
          refine hc.mono ?_
          clear hc
          rintro e w18 ⟨rfl, hb18⟩
          replace Hv := hide (Hv.out.go hb18)
          replace Hx := hide (Hx.out.go hb18)
          replace Hz := hide (Hz.out.go hb18)
          replace Hs := hide (Hs.out.go hb18)
          replace Ht := hide (Ht.out.go hb18)
          replace Hbk := hide (Hbk.out.go hb18)
          replace HE := hide (HE.out.go hb18)
          clear hb18
          go_wp2_with fail
          go_ret
          exact ⟨rfl, HE.out.bel⟩
        ·
          have hO : I64 (i - v7) := ⟨by omega, by omega⟩
          have hZ : Hid (partAtT 10 V (i - v7) = (X, true)) := by show partAtT 10 V (i - v7) = (X, true); rw [← hX.out]; exact at_other (d := 10) (by unfold placeI; rw [← hL.out]; rw [if_neg (by omega), if_pos (by omega), if_neg (by omega), if_neg (by omega)]; omega)
          have hT : Hid (partSetT 10 V (i - v7) (yesT 10) = (S1, true)) := by show partSetT 10 V (i - v7) (yesT 10) = (S1, true); rw [← hY.out]; exact set_other (d := 10) hm60 hk5 (by rw [← hL.out]; omega) (by rw [← hL.out]; omega) e1 e2 (by unfold spotN; rw [← hL.out]; rw [if_pos (by omega), if_neg (by omega)]; congr 1; omega)
          clear e1 e2
          obtain ⟨xv0, xv1, xv2, xv3, xv4⟩ := Hv.out.blk.cell
          have xvl := Hv.out.blk.lt
          go_wp2_with fail
          clear xv0 xv1 xv2 xv3 xv4 xvl
          have hc := atI (d := 10) Hv.out.val hO HE.out.err HE.out.le
          rw [hZ.out] at hc; dsimp only at hc
          refine hc.mono ?_
          clear hc
          rintro e w8 ⟨z0, z1, z2, z3, z4, z5, z6, z7, z8, rfl, hu8, hb8⟩
          replace Hv := hide (Hv.out.go hb8)
          replace Hx := hide (Hx.out.go hb8)
          replace HE := hide (HE.out.go hb8)
          clear hb8
          obtain ⟨xv0, xv1, xv2, xv3, xv4⟩ := Hv.out.blk.cell
          have xvl := Hv.out.blk.lt
          obtain ⟨W9, HW9⟩ : ∃ W1, Hid (w8.alloc (.cells #[.int .i64 z0, .int .i64 z1, .string z2, .slice z3 z4 z5, .slice z6 z7 z8] 26) = W1) := ⟨_, rfl⟩
          have hA9 : Below w8.heap.size w8 W9 := by rw [← HW9.out]; exact below_alloc1 _ _
          have Hz : Hid (VarAt w W9 w8.heap.size z0 z1 z2 z3 z4 z5 z6 z7 z8 11 X) := by rw [← HW9.out]; exact VarAt.new hu8
          clear hu8
          go_wp2_with fail
          rw [HW9.out]
          clear HW9
          clear xv0 xv1 xv2 xv3 xv4 xvl
          replace Hv := hide (Hv.out.go hA9)
          replace Hx := hide (Hx.out.go hA9)
          replace HE := hide (HE.out.go hA9)
          clear hA9
          have hc := setI (d := 10) Hv.out.val (yes_at _ _ 10) hI HE.out.err HE.out.le
          rw [hY.out] at hc; dsimp only at hc
          refine hc.mono ?_
          clear hc
          rintro e w10 ⟨s0, s1, s2, s3, s4, s5, s6, s7, s8, rfl, hu10, hb10⟩
          replace Hv := hide (Hv.out.go hb10)
          replace Hx := hide (Hx.out.go hb10)
          replace Hz := hide (Hz.out.go hb10)
          replace HE := hide (HE.out.go hb10)
          clear hb10
          obtain ⟨xv0, xv1, xv2, xv3, xv4⟩ := Hv.out.blk.cell
          have xvl := Hv.out.blk.lt
          obtain ⟨W11, HW11⟩ : ∃ W1, Hid (w10.alloc (.cells #[.int .i64 s0, .int .i64 s1, .string s2, .slice s3 s4 s5, .slice s6 s7 s8] 26) = W1) := ⟨_, rfl⟩
          have hA11 : Below w10.heap.size w10 W11 := by rw [← HW11.out]; exact below_alloc1 _ _
          have Hs : Hid (VarAt w W11 w10.heap.size s0 s1 s2 s3 s4 s5 s6 s7 s8 12 S1) := by rw [← HW11.out]; exact VarAt.new hu10
          clear hu10
          go_wp2_with fail
          rw [HW11.out]
          clear HW11
          clear xv0 xv1 xv2 xv3 xv4 xvl
          replace Hv := hide (Hv.out.go hA11)
          replace Hx := hide (Hx.out.go hA11)
          replace Hz := hide (Hz.out.go hA11)
          replace HE := hide (HE.out.go hA11)
          clear hA11
          have hc := setI (d := 10) Hv.out.val (yes_at _ _ 10) hO HE.out.err HE.out.le
          rw [hT.out] at hc; dsimp only at hc
          refine hc.mono ?_
          clear hc
          rintro e w12 ⟨t0, t1, t2, t3, t4, t5, t6, t7, t8, rfl, hu12, hb12⟩
          replace Hv := hide (Hv.out.go hb12)
          replace Hx := hide (Hx.out.go hb12)
          replace Hz := hide (Hz.out.go hb12)
          replace Hs := hide (Hs.out.go hb12)
          replace HE := hide (HE.out.go hb12)
          clear hb12
          obtain ⟨xs0, xs1, xs2, xs3, xs4⟩ := Hs.out.blk.cell
          have xsl := Hs.out.blk.lt
          obtain ⟨xx0, xx1, xx2, xx3, xx4⟩ := Hx.out.blk.cell
          have xxl := Hx.out.blk.lt
          obtain ⟨W13, HW13⟩ : ∃ W1, Hid (w12.alloc (.cells #[.int .i64 t0, .int .i64 t1, .string t2, .slice t3 t4 t5, .slice t6 t7 t8] 26) = W1) := ⟨_, rfl⟩
          have hA13 : Below w12.heap.size w12 W13 := by rw [← HW13.out]; exact below_alloc1 _ _
          have Ht : Hid (VarAt w W13 w12.heap.size t0 t1 t2 t3 t4 t5 t6 t7 t8 12 S1) := by rw [← HW13.out]; exact VarAt.new hu12
          clear hu12
          go_wp2_with fail
          rw [HW13.out]
          clear HW13
          clear xs0 xs1 xs2 xs3 xs4 xsl xx0 xx1 xx2 xx3 xx4 xxl
          replace Hv := hide (Hv.out.go hA13)
          replace Hx := hide (Hx.out.go hA13)
          replace Hz := hide (Hz.out.go hA13)
          replace Hs := hide (Hs.out.go hA13)
          replace HE := hide (HE.out.go hA13)
          clear hA13
          have hc := setI (d := 10) Hs.out.val Hx.out.val hI HE.out.err HE.out.le
          rw [hBk.out] at hc; dsimp only at hc
          refine hc.mono ?_
          clear hc
          rintro e w14 ⟨bk0, bk1, bk2, bk3, bk4, bk5, bk6, bk7, bk8, rfl, hu14, hb14⟩
          replace Hv := hide (Hv.out.go hb14)
          replace Hx := hide (Hx.out.go hb14)
          replace Hz := hide (Hz.out.go hb14)
          replace Hs := hide (Hs.out.go hb14)
          replace Ht := hide (Ht.out.go hb14)
          replace HE := hide (HE.out.go hb14)
          clear hb14
          obtain ⟨xz0, xz1, xz2, xz3, xz4⟩ := Hz.out.blk.cell
          have xzl := Hz.out.blk.lt
          obtain ⟨xx0, xx1, xx2, xx3, xx4⟩ := Hx.out.blk.cell
          have xxl := Hx.out.blk.lt
          obtain ⟨W15, HW15⟩ : ∃ W1, Hid (w14.alloc (.cells #[.int .i64 bk0, .int .i64 bk1, .string bk2, .slice bk3 bk4 bk5, .slice bk6 bk7 bk8] 26) = W1) := ⟨_, rfl⟩
          have hA15 : Below w14.heap.size w14 W15 := by rw [← HW15.out]; exact below_alloc1 _ _
          have Hbk : Hid (VarAt w W15 w14.heap.size bk0 bk1 bk2 bk3 bk4 bk5 bk6 bk7 bk8 12 V) := by rw [← HW15.out]; exact VarAt.new hu14
          clear hu14
          go_wp2_with fail
          rw [HW15.out]
          clear HW15
          clear xz0 xz1 xz2 xz3 xz4 xzl xx0 xx1 xx2 xx3 xx4 xxl
          replace Hv := hide (Hv.out.go hA15)
          replace Hx := hide (Hx.out.go hA15)
          replace Hz := hide (Hz.out.go hA15)
          replace Hs := hide (Hs.out.go hA15)
          replace Ht := hide (Ht.out.go hA15)
          replace HE := hide (HE.out.go hA15)
          clear hA15
          have hc := samE Hz.out.val Hx.out.val hzX
          refine hc.mono ?_
          clear hc
          rintro e w16 ⟨rfl, hb16⟩
          replace Hv := hide (Hv.out.go hb16)
          replace Hx := hide (Hx.out.go hb16)
          replace Hz := hide (Hz.out.go hb16)
          replace Hs := hide (Hs.out.go hb16)
          replace Ht := hide (Ht.out.go hb16)
          replace Hbk := hide (Hbk.out.go hb16)
          replace HE := hide (HE.out.go hb16)
          clear hb16
          obtain ⟨xs0, xs1, xs2, xs3, xs4⟩ := Hs.out.blk.cell
          have xsl := Hs.out.blk.lt
          obtain ⟨xt0, xt1, xt2, xt3, xt4⟩ := Ht.out.blk.cell
          have xtl := Ht.out.blk.lt
          go_wp2_with fail
          clear xs0 xs1 xs2 xs3 xs4 xsl xt0 xt1 xt2 xt3 xt4 xtl
          have hc := samE Hs.out.val Ht.out.val hzS
          refine hc.mono ?_
          clear hc
          rintro e w17 ⟨rfl, hb17⟩
          replace Hv := hide (Hv.out.go hb17)
          replace Hx := hide (Hx.out.go hb17)
          replace Hz := hide (Hz.out.go hb17)
          replace Hs := hide (Hs.out.go hb17)
          replace Ht := hide (Ht.out.go hb17)
          replace Hbk := hide (Hbk.out.go hb17)
          replace HE := hide (HE.out.go hb17)
          clear hb17
          obtain ⟨xbk0, xbk1, xbk2, xbk3, xbk4⟩ := Hbk.out.blk.cell
          have xbkl := Hbk.out.blk.lt
          obtain ⟨xv0, xv1, xv2, xv3, xv4⟩ := Hv.out.blk.cell
          have xvl := Hv.out.blk.lt
          go_wp2_with fail
          clear xbk0 xbk1 xbk2 xbk3 xbk4 xbkl xv0 xv1 xv2 xv3 xv4 xvl
          have hc := samE Hbk.out.val Hv.out.val hz12
          refine hc.mono ?_
          clear hc
          rintro e w18 ⟨rfl, hb18⟩
          replace Hv := hide (Hv.out.go hb18)
          replace Hx := hide (Hx.out.go hb18)
          replace Hz := hide (Hz.out.go hb18)
          replace Hs := hide (Hs.out.go hb18)
          replace Ht := hide (Ht.out.go hb18)
          replace Hbk := hide (Hbk.out.go hb18)
          replace HE := hide (HE.out.go hb18)
          clear hb18
          go_wp2_with fail
          go_ret
          exact ⟨rfl, HE.out.bel⟩
    ·
      have h5' : (v0 != 5) = true := by simpa using h5
      obtain ⟨xv0, xv1, xv2, xv3, xv4⟩ := Hv.out.blk.cell
      have xvl := Hv.out.blk.lt
      obtain ⟨xx0, xx1, xx2, xx3, xx4⟩ := Hx.out.blk.cell
      have xxl := Hx.out.blk.lt
      obtain ⟨xy0, xy1, xy2, xy3, xy4⟩ := Hy.out.blk.cell
      have xyl := Hy.out.blk.lt
      go_wp2_with fail
      clear xv0 xv1 xv2 xv3 xv4 xvl xx0 xx1 xx2 xx3 xx4 xxl xy0 xy1 xy2 xy3 xy4 xyl
      have hc := samE Hx.out.val Hy.out.val hzX
      refine hc.mono ?_
      clear hc
      rintro e w8 ⟨rfl, hb8⟩
      replace Hv := hide (Hv.out.go hb8)
      replace Hx := hide (Hx.out.go hb8)
      replace Hy := hide (Hy.out.go hb8)
      replace HE := hide (HE.out.go hb8)
      clear hb8
      go_wp2_with fail
      go_ret
      exact ⟨rfl, HE.out.bel⟩
end Go.Proofs.YtgjahnkldobphaaGreatDoor
