/- Texts of the proof, put together by program: LFnPartLen. -/
import Derived.Test.YtoangpfmjohhmaaGreatDoorP44
/- FnPartLen: for all bytes that lie in memory the law answers true. -/
namespace Go.Proofs.YtoangpfmjohhmaaGreatDoor
open Go.RowKit Go.Deep

set_option maxRecDepth 100000 in
set_option maxHeartbeats 16000000 in
theorem lawFnPartLen (a : Option Addr) (n cap : Nat) (w : World) (hcap : n ≤ cap) (_hm : cap ≤ 9223372036854775807) (hB : BytesAt w.heap.size w a n) (hg : ErrType w) :
    Calls Tryz.prog 4 #[.slice a n cap] w fun e w' => e = .returned (.bool true) ∧ Below w.heap.size w w' := by
  by_cases hn : 1048576 < n
  · go_enter Tryz.func4, Tryz.ntmps4
    go_wp2_with fail
    go_ret
    exact ⟨rfl, Below.refl _ _⟩
  go_enter Tryz.func4, Tryz.ntmps4
  go_wp2_with fail
  refine (drawPartAdd_any a n cap w hcap hB).mono ?_
  rintro e w1 ⟨u, A, u', B, rfl, ha, ha1, hb, hb1', hbl⟩
  obtain ⟨a0, a1, a2, a3, a4, a5, a6, a7, a8, rfl⟩ := ha.shape
  obtain ⟨b0, b1, b2, b3, b4, b5, b6, b7, b8, rfl⟩ := hb.shape
  have HE : Hid (Amid w w1) := ⟨hbl, hg.below hbl⟩
  have hBy := hB.wider (r' := w1.heap.size) (fun b hb => hbl.block b hb) hbl.size
  clear hbl hB ha1 hb1'
  obtain ⟨W2, HW2⟩ : ∃ W1, Hid ((w1.alloc (.cells #[.int .i64 a0, .int .i64 a1, .string a2, .slice a3 a4 a5, .slice a6 a7 a8] 26)).alloc (.cells #[.int .i64 b0, .int .i64 b1, .string b2, .slice b3 b4 b5, .slice b6 b7 b8] 26) = W1) := ⟨_, rfl⟩
  obtain ⟨Ha, Hb, hA2⟩ := VarAt.two ha hb
  rw [HW2.out] at Ha Hb hA2
  replace Ha := hide Ha
  replace Hb := hide Hb
  clear ha hb
  go_wp2_with fail
  rw [HW2.out]
  clear HW2
  replace hBy := hBy.wider (r' := W2.heap.size) (fun b hb => hA2.block b hb) hA2.size
  replace HE := hide (HE.out.go hA2)
  clear hA2
  refine (drawPartLen_any a n cap W2 hcap hBy).mono ?_
  rintro e w3 ⟨u, V, rfl, hv, hv1, hb3⟩
  obtain ⟨v0, v1, v2, v3, v4, v5, v6, v7, v8, rfl⟩ := hv.shape
  replace hv := freshP_wide hv HE.out.le
  have hzV : wtT 11 V ≤ 10000 := by omega
  clear hv1 hBy
  replace Ha := hide (Ha.out.go hb3)
  replace Hb := hide (Hb.out.go hb3)
  replace HE := hide (HE.out.go hb3)
  clear hb3
  obtain ⟨xa0, xa1, xa2, xa3, xa4⟩ := Ha.out.blk.cell
  have xal := Ha.out.blk.lt
  obtain ⟨xb0, xb1, xb2, xb3, xb4⟩ := Hb.out.blk.cell
  have xbl := Hb.out.blk.lt
  obtain ⟨W4, HW4⟩ : ∃ W1, Hid (w3.alloc (.cells #[.int .i64 v0, .int .i64 v1, .string v2, .slice v3 v4 v5, .slice v6 v7 v8] 26) = W1) := ⟨_, rfl⟩
  have hA4 : Below w3.heap.size w3 W4 := by rw [← HW4.out]; exact below_alloc1 _ _
  have Hv : Hid (VarAt w W4 w3.heap.size v0 v1 v2 v3 v4 v5 v6 v7 v8 11 V) := by rw [← HW4.out]; exact VarAt.new hv
  clear hv
  go_wp2_with fail
  rw [HW4.out]
  clear HW4
  clear xa0 xa1 xa2 xa3 xa4 xal xb0 xb1 xb2 xb3 xb4 xbl
  replace Ha := hide (Ha.out.go hA4)
  replace Hb := hide (Hb.out.go hA4)
  replace HE := hide (HE.out.go hA4)
  clear hA4
  obtain ⟨⟨X, o1⟩, hX⟩ : ∃ r, Hid (partAddT 10 A B = r) := ⟨_, rfl⟩
  have hc := addI (d := 10) Ha.out.val Hb.out.val HE.out.err HE.out.le
  rw [hX.out] at hc; dsimp only at hc
  refine hc.mono ?_
  clear hc
  rintro e w5 ⟨s0, s1, s2, s3, s4, s5, s6, s7, s8, rfl, hu5, hb5⟩
  replace Ha := hide (Ha.out.go hb5)
  replace Hb := hide (Hb.out.go hb5)
  replace Hv := hide (Hv.out.go hb5)
  replace HE := hide (HE.out.go hb5)
  clear hb5
  obtain ⟨xv0, xv1, xv2, xv3, xv4⟩ := Hv.out.blk.cell
  have xvl := Hv.out.blk.lt
  obtain ⟨W6, HW6⟩ : ∃ W1, Hid (w5.alloc (.cells #[.int .i64 s0, .int .i64 s1, .string s2, .slice s3 s4 s5, .slice s6 s7 s8] 26) = W1) := ⟨_, rfl⟩
  have hA6 : Below w5.heap.size w5 W6 := by rw [← HW6.out]; exact below_alloc1 _ _
  have Hs : Hid (VarAt w W6 w5.heap.size s0 s1 s2 s3 s4 s5 s6 s7 s8 11 X) := by rw [← HW6.out]; exact VarAt.new hu5
  clear hu5
  go_wp2_with fail
  rw [HW6.out]
  clear HW6
  clear xv0 xv1 xv2 xv3 xv4 xvl
  replace Ha := hide (Ha.out.go hA6)
  replace Hb := hide (Hb.out.go hA6)
  replace Hv := hide (Hv.out.go hA6)
  replace HE := hide (HE.out.go hA6)
  clear hA6
  obtain ⟨⟨L, o2⟩, hL⟩ : ∃ r, Hid (partLenT 10 V = r) := ⟨_, rfl⟩
  have hzL : wtT 11 L ≤ 10000 := by have := wtT_ok (okT_partLen 10 V); rw [hL.out] at this; have h2 : wtT 11 L ≤ 300 := this; omega
  have hc := lenI (d := 10) Hv.out.val HE.out.err HE.out.le
  rw [hL.out] at hc; dsimp only at hc
  refine hc.mono ?_
  clear hc
  rintro e w7 ⟨l0, l1, l2, l3, l4, l5, l6, l7, l8, rfl, hu7, hb7⟩
  replace Ha := hide (Ha.out.go hb7)
  replace Hb := hide (Hb.out.go hb7)
  replace Hv := hide (Hv.out.go hb7)
  replace Hs := hide (Hs.out.go hb7)
  replace HE := hide (HE.out.go hb7)
  clear hb7
  obtain ⟨xv0, xv1, xv2, xv3, xv4⟩ := Hv.out.blk.cell
  have xvl := Hv.out.blk.lt
  obtain ⟨W8, HW8⟩ : ∃ W1, Hid (w7.alloc (.cells #[.int .i64 l0, .int .i64 l1, .string l2, .slice l3 l4 l5, .slice l6 l7 l8] 26) = W1) := ⟨_, rfl⟩
  have hA8 : Below w7.heap.size w7 W8 := by rw [← HW8.out]; exact below_alloc1 _ _
  have Hl : Hid (VarAt w W8 w7.heap.size l0 l1 l2 l3 l4 l5 l6 l7 l8 11 L) := by rw [← HW8.out]; exact VarAt.new hu7
  clear hu7
  go_wp2_with fail
  rw [HW8.out]
  clear HW8
  clear xv0 xv1 xv2 xv3 xv4 xvl
  replace Ha := hide (Ha.out.go hA8)
  replace Hb := hide (Hb.out.go hA8)
  replace Hv := hide (Hv.out.go hA8)
  replace Hs := hide (Hs.out.go hA8)
  replace HE := hide (HE.out.go hA8)
  clear hA8
  have hc := lenS (d := 10) Hv.out.val hzV HE.out.le
  rw [hL.out] at hc; dsimp only at hc
  refine hc.mono ?_
  clear hc
  rintro e w9 ⟨m0, m1, m2, m3, m4, m5, m6, m7, m8, rfl, hu9, hb9⟩
  replace Ha := hide (Ha.out.go hb9)
  replace Hb := hide (Hb.out.go hb9)
  replace Hv := hide (Hv.out.go hb9)
  replace Hs := hide (Hs.out.go hb9)
  replace Hl := hide (Hl.out.go hb9)
  replace HE := hide (HE.out.go hb9)
  clear hb9
  obtain ⟨xl0, xl1, xl2, xl3, xl4⟩ := Hl.out.blk.cell
  have xll := Hl.out.blk.lt
  obtain ⟨W10, HW10⟩ : ∃ W1, Hid (w9.alloc (.cells #[.int .i64 m0, .int .i64 m1, .string m2, .slice m3 m4 m5, .slice m6 m7 m8] 26) = W1) := ⟨_, rfl⟩
  have hA10 : Below w9.heap.size w9 W10 := by rw [← HW10.out]; exact below_alloc1 _ _
  have Hm : Hid (VarAt w W10 w9.heap.size m0 m1 m2 m3 m4 m5 m6 m7 m8 11 L) := by rw [← HW10.out]; exact VarAt.new hu9
  clear hu9
  go_wp2_with fail
  rw [HW10.out]
  clear HW10
  clear xl0 xl1 xl2 xl3 xl4 xll
  replace Ha := hide (Ha.out.go hA10)
  replace Hb := hide (Hb.out.go hA10)
  replace Hv := hide (Hv.out.go hA10)
  replace Hs := hide (Hs.out.go hA10)
  replace Hl := hide (Hl.out.go hA10)
  replace HE := hide (HE.out.go hA10)
  clear hA10
  have hc := samE Hl.out.val Hm.out.val hzL
  refine hc.mono ?_
  clear hc
  rintro e w11 ⟨rfl, hb11⟩
  replace Ha := hide (Ha.out.go hb11)
  replace Hb := hide (Hb.out.go hb11)
  replace Hv := hide (Hv.out.go hb11)
  replace Hs := hide (Hs.out.go hb11)
  replace Hl := hide (Hl.out.go hb11)
  replace Hm := hide (Hm.out.go hb11)
  replace HE := hide (HE.out.go hb11)
  clear hb11
  clear Hm
  clear hzL hzV
  have hka : a0 = Nd.kind A := (val_parts (d := 10) Ha.out.val).1
  have hkb : b0 = Nd.kind B := (val_parts (d := 10) Hb.out.val).1
  have hcs : (o1 = true ∧ a0 = b0 ∧ a0 = 4) ∨ (o1 = true ∧ a0 = b0 ∧ a0 = 5) ∨ o1 = false ∨ (o1 = true ∧ a0 ≠ b0) ∨ (o1 = true ∧ a0 = b0 ∧ a0 ≠ 4 ∧ a0 ≠ 5) := by
    cases o1 with
    | false => exact Or.inr (Or.inr (Or.inl rfl))
    | true =>
      by_cases h : a0 = b0
      · by_cases h4 : a0 = 4
        · exact Or.inl ⟨rfl, h, h4⟩
        · by_cases h5 : a0 = 5
          · exact Or.inr (Or.inl ⟨rfl, h, h5⟩)
          · exact Or.inr (Or.inr (Or.inr (Or.inr ⟨rfl, h, h4, h5⟩)))
      · exact Or.inr (Or.inr (Or.inr (Or.inl ⟨rfl, h⟩)))
  have HKA := hide hka
  have HKB := hide hkb
  clear hka hkb
  rcases hcs with ⟨rfl, rfl, h4⟩ | ⟨rfl, rfl, h5⟩ | rfl | ⟨rfl, hn⟩ | ⟨rfl, rfl, h4, h5⟩
  ·
    have h45 : Nd.kind A = 4 ∨ Nd.kind A = 5 := by rw [← HKA.out, h4]; decide
    have hAB : Nd.kind A = Nd.kind B := by rw [← HKA.out, ← HKB.out]
    subst h4
    have hsum := len_sum (d := 10) (a := A) (b := B) (by rw [hX.out]) hAB h45
    rw [hX.out] at hsum
    have HSUM := hide hsum
    clear hsum h45 hAB
    obtain ⟨xa0, xa1, xa2, xa3, xa4⟩ := Ha.out.blk.cell
    have xal := Ha.out.blk.lt
    obtain ⟨xb0, xb1, xb2, xb3, xb4⟩ := Hb.out.blk.cell
    have xbl := Hb.out.blk.lt
    obtain ⟨xs0, xs1, xs2, xs3, xs4⟩ := Hs.out.blk.cell
    have xsl := Hs.out.blk.lt
    go_wp2_with fail
    obtain ⟨⟨LA, px⟩, hLA⟩ : ∃ r, Hid (partLenT 10 A = r) := ⟨_, rfl⟩
    clear xa0 xa1 xa2 xa3 xa4 xal xb0 xb1 xb2 xb3 xb4 xbl xs0 xs1 xs2 xs3 xs4 xsl
    have hc := lenI (d := 10) Ha.out.val HE.out.err HE.out.le
    rw [hLA.out] at hc; dsimp only at hc
    refine hc.mono ?_
    clear hc
    rintro e w12 ⟨x0, x1, x2, x3, x4, x5, x6, x7, x8, rfl, hu12, hb12⟩
    replace Ha := hide (Ha.out.go hb12)
    replace Hb := hide (Hb.out.go hb12)
    replace Hv := hide (Hv.out.go hb12)
    replace Hs := hide (Hs.out.go hb12)
    replace Hl := hide (Hl.out.go hb12)
    replace HE := hide (HE.out.go hb12)
    clear hb12
    clear Ha
    obtain ⟨xb0, xb1, xb2, xb3, xb4⟩ := Hb.out.blk.cell
    have xbl := Hb.out.blk.lt
    obtain ⟨W13, HW13⟩ : ∃ W1, Hid (w12.alloc (.cells #[.int .i64 x0, .int .i64 x1, .string x2, .slice x3 x4 x5, .slice x6 x7 x8] 26) = W1) := ⟨_, rfl⟩
    have hA13 : Below w12.heap.size w12 W13 := by rw [← HW13.out]; exact below_alloc1 _ _
    have Hx : Hid (VarAt w W13 w12.heap.size x0 x1 x2 x3 x4 x5 x6 x7 x8 11 LA) := by rw [← HW13.out]; exact VarAt.new hu12
    clear hu12
    go_wp2_with fail
    rw [HW13.out]
    clear HW13
    clear xb0 xb1 xb2 xb3 xb4 xbl
    replace Hb := hide (Hb.out.go hA13)
    replace Hv := hide (Hv.out.go hA13)
    replace Hs := hide (Hs.out.go hA13)
    replace Hl := hide (Hl.out.go hA13)
    replace HE := hide (HE.out.go hA13)
    clear hA13
    obtain ⟨⟨LB, py⟩, hLB⟩ : ∃ r, Hid (partLenT 10 B = r) := ⟨_, rfl⟩
    have hc := lenI (d := 10) Hb.out.val HE.out.err HE.out.le
    rw [hLB.out] at hc; dsimp only at hc
    refine hc.mono ?_
    clear hc
    rintro e w14 ⟨y0, y1, y2, y3, y4, y5, y6, y7, y8, rfl, hu14, hb14⟩
    replace Hb := hide (Hb.out.go hb14)
    replace Hv := hide (Hv.out.go hb14)
    replace Hs := hide (Hs.out.go hb14)
    replace Hl := hide (Hl.out.go hb14)
    replace Hx := hide (Hx.out.go hb14)
    replace HE := hide (HE.out.go hb14)
    clear hb14
    clear Hb
    obtain ⟨xs0, xs1, xs2, xs3, xs4⟩ := Hs.out.blk.cell
    have xsl := Hs.out.blk.lt
    obtain ⟨W15, HW15⟩ : ∃ W1, Hid (w14.alloc (.cells #[.int .i64 y0, .int .i64 y1, .string y2, .slice y3 y4 y5, .slice y6 y7 y8] 26) = W1) := ⟨_, rfl⟩
    have hA15 : Below w14.heap.size w14 W15 := by rw [← HW15.out]; exact below_alloc1 _ _
    have Hy : Hid (VarAt w W15 w14.heap.size y0 y1 y2 y3 y4 y5 y6 y7 y8 11 LB) := by rw [← HW15.out]; exact VarAt.new hu14
    clear hu14
    go_wp2_with fail
    rw [HW15.out]
    clear HW15
    clear xs0 xs1 xs2 xs3 xs4 xsl
    replace Hv := hide (Hv.out.go hA15)
    replace Hs := hide (Hs.out.go hA15)
    replace Hl := hide (Hl.out.go hA15)
    replace Hx := hide (Hx.out.go hA15)
    replace HE := hide (HE.out.go hA15)
    clear hA15
    obtain ⟨⟨LX, pz⟩, hLX⟩ : ∃ r, Hid (partLenT 10 X = r) := ⟨_, rfl⟩
    have hc := lenI (d := 10) Hs.out.val HE.out.err HE.out.le
    rw [hLX.out] at hc; dsimp only at hc
    refine hc.mono ?_
    clear hc
    rintro e w16 ⟨z0, z1, z2, z3, z4, z5, z6, z7, z8, rfl, hu16, hb16⟩
    replace Hv := hide (Hv.out.go hb16)
    replace Hs := hide (Hs.out.go hb16)
    replace Hl := hide (Hl.out.go hb16)
    replace Hx := hide (Hx.out.go hb16)
    replace Hy := hide (Hy.out.go hb16)
    replace HE := hide (HE.out.go hb16)
    clear hb16
    clear Hs
    obtain ⟨xx0, xx1, xx2, xx3, xx4⟩ := Hx.out.blk.cell
    have xxl := Hx.out.blk.lt
    obtain ⟨xy0, xy1, xy2, xy3, xy4⟩ := Hy.out.blk.cell
    have xyl := Hy.out.blk.lt
    obtain ⟨xv0, xv1, xv2, xv3, xv4⟩ := Hv.out.blk.cell
    have xvl := Hv.out.blk.lt
    obtain ⟨W17, HW17⟩ : ∃ W1, Hid (w16.alloc (.cells #[.int .i64 z0, .int .i64 z1, .string z2, .slice z3 z4 z5, .slice z6 z7 z8] 26) = W1) := ⟨_, rfl⟩
    have hA17 : Below w16.heap.size w16 W17 := by rw [← HW17.out]; exact below_alloc1 _ _
    have Hz : Hid (VarAt w W17 w16.heap.size z0 z1 z2 z3 z4 z5 z6 z7 z8 11 LX) := by rw [← HW17.out]; exact VarAt.new hu16
    clear hu16
    have hxyz : (wrap64 (x1 + y1) != z1) = false := by
      have q1 : x1 = Nd.num LA := (val_parts (d := 10) Hx.out.val).2.1
      have q2 : y1 = Nd.num LB := (val_parts (d := 10) Hy.out.val).2.1
      have q3 : z1 = Nd.num LX := (val_parts (d := 10) Hz.out.val).2.1
      have h := HSUM.out
      rw [hLA.out, hLB.out] at h
      have h : wrap64 (Nd.num LA + Nd.num LB) = Nd.num (partLenT 10 X).1 := h
      rw [hLX.out] at h
      rw [q1, q2, q3, h]
      simp
    go_wp2_with fail
    rw [HW17.out]
    clear HW17
    clear xx0 xx1 xx2 xx3 xx4 xxl xy0 xy1 xy2 xy3 xy4 xyl xv0 xv1 xv2 xv3 xv4 xvl
    replace Hv := hide (Hv.out.go hA17)
    replace Hl := hide (Hl.out.go hA17)
    replace Hx := hide (Hx.out.go hA17)
    replace Hy := hide (Hy.out.go hA17)
    replace HE := hide (HE.out.go hA17)
    clear hA17
    clear Hx
    clear Hy
    clear Hz
    have hc3 : (okT 11 V = true ∧ 5 ≤ Nd.kind V) ∨ ¬ (okT 11 V = true ∧ 5 ≤ Nd.kind V) := Classical.em _
    rcases hc3 with hok | hok
    ·
      have hKk : Hid (partKeysT 9 V = (rowK 9 (keyTs 9 V), true)) := by show partKeysT 9 V = _; unfold partKeysT; rw [if_pos hok]
      obtain ⟨KT, hKT⟩ : ∃ K : Tr 11, Hid (rowK 9 (keyTs 9 V) = K) := ⟨_, rfl⟩
      rw [hKT.out] at hKk
      have hzK : wtT 11 KT ≤ 10000 := by have := wtT_ok (okT_partKeys 9 V); rw [hKk.out] at this; have h2 : wtT 11 KT ≤ 300 := this; omega
      have hc := keysI (d := 9) Hv.out.val HE.out.err HE.out.le
      rw [hKk.out] at hc; dsimp only at hc
      refine hc.mono ?_
      clear hc
      rintro e w18 ⟨k0, k1, k2, k3, k4, k5, k6, k7, k8, rfl, hu18, hb18⟩
      replace Hv := hide (Hv.out.go hb18)
      replace Hl := hide (Hl.out.go hb18)
      replace HE := hide (HE.out.go hb18)
      clear hb18
      clear Hv
      obtain ⟨W19, HW19⟩ : ∃ W1, Hid (w18.alloc (.cells #[.int .i64 k0, .int .i64 k1, .string k2, .slice k3 k4 k5, .slice k6 k7 k8] 26) = W1) := ⟨_, rfl⟩
      have hA19 : Below w18.heap.size w18 W19 := by rw [← HW19.out]; exact below_alloc1 _ _
      have Hk : Hid (VarAt w W19 w18.heap.size k0 k1 k2 k3 k4 k5 k6 k7 k8 11 KT) := by rw [← HW19.out]; exact VarAt.new hu18
      clear hu18
      go_wp2_with fail
      rw [HW19.out]
      clear HW19
      replace Hl := hide (Hl.out.go hA19)
      replace HE := hide (HE.out.go hA19)
      clear hA19
      have hk7 : k7 = (Nd.list (α := Tr 10) KT).length := (val_parts (d := 10) Hk.out.val).2.2.2.2.1
      have hkl : (Nd.list (α := Tr 10) KT) = keyTs 9 V := by rw [← hKT.out]; rfl
      have hk60 : k7 ≤ 60 := by rw [hk7, hkl, keyTs_length (d := 9) hok]; exact (okT_kinds (d := 10) hok.1).2.1
      have HZK := hide hzK
      clear hzK
      have HZ := hide (Since.start W19)
      have HK7 := hide hk7
      have HKL := hide hkl
      clear hk7 hkl
      go_loopw [20] (fun j wr => ∃ q : Nat, (q = 0 ∨ q + 1 ≤ k7) ∧ j = .int .i64 ((q : Int) + 1) ∧ Hid (Since W19 wr)) (fun j _ => k7 + 1 - (intOf j).toNat)
      case atStart => exact ⟨0, Or.inl rfl, rfl, HZ⟩
      case round =>
        clear HZ
        obtain ⟨q, hq, rfl, HZ⟩ := hrel
        have hbz := HZ.out.bel
        replace Hl := hide (Hl.out.go hbz)
        replace Hk := hide (Hk.out.go hbz)
        replace HE := hide (HE.out.go hbz)
        clear hbz
        by_cases hql : q + 1 < k7
        ·
          obtain ⟨i1, i2, i3, i4, i5, i6, i7, i8, i9, i10⟩ := idx_facts q k7 hql hk60
          obtain ⟨xb, xo, tx, x0, x1, x2, x3, x4, x5, x6, x7, x8, hxa, hxB, hxx, ex0, ex1, ex2, ex3, ex4, hxv⟩ := row_elem (val_parts (d := 10) Hk.out.val).2.2.2.2.2.2 (k := q) (by rw [← HK7.out]; exact i7)
          subst hxa
          obtain ⟨yb, yo, ty, y0, y1, y2, y3, y4, y5, y6, y7, y8, hya, hyB, hyx, ey0, ey1, ey2, ey3, ey4, hyv⟩ := row_elem (val_parts (d := 10) Hk.out.val).2.2.2.2.2.2 (k := q + 1) (by rw [← HK7.out]; exact hql)
          cases hya
          have hord : ordT 10 tx ty = -1 := by rw [HKL.out] at hxx hyx; exact keyTs_order (d := 9) hok hxx hyx
          have hzx : wtT 10 tx ≤ 10000 := by have := wt_mem (d := 10) hxx; have e : wtT 11 KT = 3 + (Nd.keys (α := Tr 10) KT).length + ((Nd.list (α := Tr 10) KT).map (wtT 10)).sum := rfl; have h2 := HZK.out; omega
          obtain ⟨xk0, xk1, xk2, xk3, xk4⟩ := Hk.out.blk.cell
          have xkl := Hk.out.blk.lt
          go_wp2_with fail
          clear xk0 xk1 xk2 xk3 xk4 xkl
          have e0' : Hid (∀ m : Ext wr, Calls Tryz.prog 18 #[.agg #[.int .i64 x0, .int .i64 x1, .string x2, .slice x3 x4 x5, .slice x6 x7 x8], .agg #[.int .i64 y0, .int .i64 y1, .string y2, .slice y3 y4 y5, .slice y6 y7 y8]] m.now fun e w' => e = .returned (.int .i64 (-1)) ∧ Below m.now.heap.size m.now w') := fun m => ordI_at' (freshP_go hxv m.from_) (freshP_go hyv m.from_) hzx hord
          obtain ⟨ck0, ck1, ck2, ck3, ck4⟩ := Hk.out.blk.cell
          have dk0 := fun m => ext_cell ck0 m
          have dk1 := fun m => ext_cell ck1 m
          have dk2 := fun m => ext_cell ck2 m
          have dk3 := fun m => ext_cell ck3 m
          have dk4 := fun m => ext_cell ck4 m
          clear ck0 ck1 ck2 ck3 ck4
          have ddex0 := fun m => ext_cell ex0 m
          have ddex1 := fun m => ext_cell ex1 m
          have ddex2 := fun m => ext_cell ex2 m
          have ddex3 := fun m => ext_cell ex3 m
          have ddex4 := fun m => ext_cell ex4 m
          have ddey0 := fun m => ext_cell ey0 m
          have ddey1 := fun m => ext_cell ey1 m
          have ddey2 := fun m => ext_cell ey2 m
          have ddey3 := fun m => ext_cell ey3 m
          have ddey4 := fun m => ext_cell ey4 m
          clear ex0 ex1 ex2 ex3 ex4 ey0 ey1 ey2 ey3 ey4
          have hne := Ext.some wr
          refine wp_region_ext (by kernel_rfl) (by kernel_rfl) ?_
          repeat (first | go_big_quiet_step ((go_at_call 18; with_reducible exact Calls.ext_of (e0'.out _))) | quiet_step ((go_at_call 18; with_reducible exact Calls.ext_of (e0'.out _))))
          refine wpQuiet_nil ?_
          intro w20 hw20
          obtain ⟨m, rfl⟩ := hw20
          obtain ⟨W20, hW20⟩ : ∃ W1, Hid (m.now = W1) := ⟨_, rfl⟩
          have hb20 := m.from_
          rw [hW20.out] at hb20 ⊢
          clear hW20 hne e0' dk0 dk1 dk2 dk3 dk4 ddex0 ddex1 ddex2 ddex3 ddex4 ddey0 ddey1 ddey2 ddey3 ddey4
          replace Hl := hide (Hl.out.go hb20)
          replace Hk := hide (Hk.out.go hb20)
          replace HZ := hide (HZ.out.go hb20)
          replace HE := hide (HE.out.go hb20)
          clear hb20
          go_wp2_with fail
          go_roundw
          case rel => exact ⟨q + 1, Or.inr i10, by first | rfl | go_num, HZ⟩
          case measure => first | exact idx_meas q k7 hql | (simp only [intOf]; exact idx_meas q k7 hql) | (simp [intOf]; omega)
        ·
          have i1 := idx_out q k7 hql
          have hfin : (o2 = false) ∨ (o2 = true ∧ l0 = 3 ∧ 0 ≤ l1) := by
            cases o2 with
            | false => exact Or.inl rfl
            | true =>
              have h1 := len_ok (d := 10) (t := V) (by rw [hL.out])
              rw [hL.out] at h1
              have h2 := (val_parts (d := 10) Hl.out.val)
              exact Or.inr ⟨rfl, by rw [h2.1]; exact h1.1, by rw [h2.2.1]; exact h1.2⟩
          rcases hfin with rfl | ⟨rfl, rfl, hl1⟩
          ·
            obtain ⟨xl0, xl1, xl2, xl3, xl4⟩ := Hl.out.blk.cell
            have xll := Hl.out.blk.lt
            obtain ⟨xk0, xk1, xk2, xk3, xk4⟩ := Hk.out.blk.cell
            have xkl := Hk.out.blk.lt
            go_wp2_with fail
            go_ret
            exact ⟨rfl, HE.out.bel⟩
          ·
            obtain ⟨xl0, xl1, xl2, xl3, xl4⟩ := Hl.out.blk.cell
            have xll := Hl.out.blk.lt
            obtain ⟨xk0, xk1, xk2, xk3, xk4⟩ := Hk.out.blk.cell
            have xkl := Hk.out.blk.lt
            go_wp2_with fail
            go_ret
            exact ⟨rfl, HE.out.bel⟩
    ·
      have hKk : Hid (partKeysT 9 V = (zeroT 10, false)) := by show partKeysT 9 V = _; unfold partKeysT; rw [if_neg hok]
      obtain ⟨KT, hKT⟩ : ∃ K : Tr 11, Hid (zeroT 10 = K) := ⟨_, rfl⟩
      rw [hKT.out] at hKk
      have hzK : wtT 11 KT ≤ 10000 := by have := wtT_ok (okT_partKeys 9 V); rw [hKk.out] at this; have h2 : wtT 11 KT ≤ 300 := this; omega
      have hc := keysI (d := 9) Hv.out.val HE.out.err HE.out.le
      rw [hKk.out] at hc; dsimp only at hc
      refine hc.mono ?_
      clear hc
      rintro e w18 ⟨k0, k1, k2, k3, k4, k5, k6, k7, k8, rfl, hu18, hb18⟩
      replace Hv := hide (Hv.out.go hb18)
      replace Hl := hide (Hl.out.go hb18)
      replace HE := hide (HE.out.go hb18)
      clear hb18
      clear Hv
      obtain ⟨W19, HW19⟩ : ∃ W1, Hid (w18.alloc (.cells #[.int .i64 k0, .int .i64 k1, .string k2, .slice k3 k4 k5, .slice k6 k7 k8] 26) = W1) := ⟨_, rfl⟩
      have hA19 : Below w18.heap.size w18 W19 := by rw [← HW19.out]; exact below_alloc1 _ _
      have Hk : Hid (VarAt w W19 w18.heap.size k0 k1 k2 k3 k4 k5 k6 k7 k8 11 KT) := by rw [← HW19.out]; exact VarAt.new hu18
      clear hu18
      go_wp2_with fail
      rw [HW19.out]
      clear HW19
      replace Hl := hide (Hl.out.go hA19)
      replace HE := hide (HE.out.go hA19)
      clear hA19
      have hk7 : k7 = (Nd.list (α := Tr 10) KT).length := (val_parts (d := 10) Hk.out.val).2.2.2.2.1
      have hk0 : k7 = 0 := by rw [hk7, ← hKT.out]; rfl
      clear hk7
      have HZK := hide hzK
      clear hzK
      have HZ := hide (Since.start W19)
      subst hk0
      go_loopw [20] (fun j wr => ∃ q : Nat, (q = 0 ∨ q + 1 ≤ 0) ∧ j = .int .i64 ((q : Int) + 1) ∧ Hid (Since W19 wr)) (fun j _ => 0 + 1 - (intOf j).toNat)
      case atStart => exact ⟨0, Or.inl rfl, rfl, HZ⟩
      case round =>
        clear HZ
        obtain ⟨q, hq, rfl, HZ⟩ := hrel
        have hbz := HZ.out.bel
        replace Hl := hide (Hl.out.go hbz)
        replace Hk := hide (Hk.out.go hbz)
        replace HE := hide (HE.out.go hbz)
        clear hbz
        have i1 : ¬ ((q : Int) + 1 < ((0 : Nat) : Int)) := by omega
        have i2 : ¬ ((q : Int) + 1 < 0) := by omega
        have hfin : (o2 = false) ∨ (o2 = true ∧ l0 = 3 ∧ 0 ≤ l1) := by
          cases o2 with
          | false => exact Or.inl rfl
          | true =>
            have h1 := len_ok (d := 10) (t := V) (by rw [hL.out])
            rw [hL.out] at h1
            have h2 := (val_parts (d := 10) Hl.out.val)
            exact Or.inr ⟨rfl, by rw [h2.1]; exact h1.1, by rw [h2.2.1]; exact h1.2⟩
        rcases hfin with rfl | ⟨rfl, rfl, hl1⟩
        ·
          obtain ⟨xl0, xl1, xl2, xl3, xl4⟩ := Hl.out.blk.cell
          have xll := Hl.out.blk.lt
          obtain ⟨xk0, xk1, xk2, xk3, xk4⟩ := Hk.out.blk.cell
          have xkl := Hk.out.blk.lt
          go_wp2_with fail
          go_ret
          exact ⟨rfl, HE.out.bel⟩
        ·
          obtain ⟨xl0, xl1, xl2, xl3, xl4⟩ := Hl.out.blk.cell
          have xll := Hl.out.blk.lt
          obtain ⟨xk0, xk1, xk2, xk3, xk4⟩ := Hk.out.blk.cell
          have xkl := Hk.out.blk.lt
          go_wp2_with fail
          go_ret
          exact ⟨rfl, HE.out.bel⟩
  ·
    have h45 : Nd.kind A = 4 ∨ Nd.kind A = 5 := by rw [← HKA.out, h5]; decide
    have hAB : Nd.kind A = Nd.kind B := by rw [← HKA.out, ← HKB.out]
    subst h5
    have hsum := len_sum (d := 10) (a := A) (b := B) (by rw [hX.out]) hAB h45
    rw [hX.out] at hsum
    have HSUM := hide hsum
    clear hsum h45 hAB
    obtain ⟨xa0, xa1, xa2, xa3, xa4⟩ := Ha.out.blk.cell
    have xal := Ha.out.blk.lt
    obtain ⟨xb0, xb1, xb2, xb3, xb4⟩ := Hb.out.blk.cell
    have xbl := Hb.out.blk.lt
    obtain ⟨xs0, xs1, xs2, xs3, xs4⟩ := Hs.out.blk.cell
    have xsl := Hs.out.blk.lt
    go_wp2_with fail
    obtain ⟨⟨LA, px⟩, hLA⟩ : ∃ r, Hid (partLenT 10 A = r) := ⟨_, rfl⟩
    clear xa0 xa1 xa2 xa3 xa4 xal xb0 xb1 xb2 xb3 xb4 xbl xs0 xs1 xs2 xs3 xs4 xsl
    have hc := lenI (d := 10) Ha.out.val HE.out.err HE.out.le
    rw [hLA.out] at hc; dsimp only at hc
    refine hc.mono ?_
    clear hc
    rintro e w12 ⟨x0, x1, x2, x3, x4, x5, x6, x7, x8, rfl, hu12, hb12⟩
    replace Ha := hide (Ha.out.go hb12)
    replace Hb := hide (Hb.out.go hb12)
    replace Hv := hide (Hv.out.go hb12)
    replace Hs := hide (Hs.out.go hb12)
    replace Hl := hide (Hl.out.go hb12)
    replace HE := hide (HE.out.go hb12)
    clear hb12
    clear Ha
    obtain ⟨xb0, xb1, xb2, xb3, xb4⟩ := Hb.out.blk.cell
    have xbl := Hb.out.blk.lt
    obtain ⟨W13, HW13⟩ : ∃ W1, Hid (w12.alloc (.cells #[.int .i64 x0, .int .i64 x1, .string x2, .slice x3 x4 x5, .slice x6 x7 x8] 26) = W1) := ⟨_, rfl⟩
    have hA13 : Below w12.heap.size w12 W13 := by rw [← HW13.out]; exact below_alloc1 _ _
    have Hx : Hid (VarAt w W13 w12.heap.size x0 x1 x2 x3 x4 x5 x6 x7 x8 11 LA) := by rw [← HW13.out]; exact VarAt.new hu12
    clear hu12
    go_wp2_with fail
    rw [HW13.out]
    clear HW13
    clear xb0 xb1 xb2 xb3 xb4 xbl
    replace Hb := hide (Hb.out.go hA13)
    replace Hv := hide (Hv.out.go hA13)
    replace Hs := hide (Hs.out.go hA13)
    replace Hl := hide (Hl.out.go hA13)
    replace HE := hide (HE.out.go hA13)
    clear hA13
    obtain ⟨⟨LB, py⟩, hLB⟩ : ∃ r, Hid (partLenT 10 B = r) := ⟨_, rfl⟩
    have hc := lenI (d := 10) Hb.out.val HE.out.err HE.out.le
    rw [hLB.out] at hc; dsimp only at hc
    refine hc.mono ?_
    clear hc
    rintro e w14 ⟨y0, y1, y2, y3, y4, y5, y6, y7, y8, rfl, hu14, hb14⟩
    replace Hb := hide (Hb.out.go hb14)
    replace Hv := hide (Hv.out.go hb14)
    replace Hs := hide (Hs.out.go hb14)
    replace Hl := hide (Hl.out.go hb14)
    replace Hx := hide (Hx.out.go hb14)
    replace HE := hide (HE.out.go hb14)
    clear hb14
    clear Hb
    obtain ⟨xs0, xs1, xs2, xs3, xs4⟩ := Hs.out.blk.cell
    have xsl := Hs.out.blk.lt
    obtain ⟨W15, HW15⟩ : ∃ W1, Hid (w14.alloc (.cells #[.int .i64 y0, .int .i64 y1, .string y2, .slice y3 y4 y5, .slice y6 y7 y8] 26) = W1) := ⟨_, rfl⟩
    have hA15 : Below w14.heap.size w14 W15 := by rw [← HW15.out]; exact below_alloc1 _ _
    have Hy : Hid (VarAt w W15 w14.heap.size y0 y1 y2 y3 y4 y5 y6 y7 y8 11 LB) := by rw [← HW15.out]; exact VarAt.new hu14
    clear hu14
    go_wp2_with fail
    rw [HW15.out]
    clear HW15
    clear xs0 xs1 xs2 xs3 xs4 xsl
    replace Hv := hide (Hv.out.go hA15)
    replace Hs := hide (Hs.out.go hA15)
    replace Hl := hide (Hl.out.go hA15)
    replace Hx := hide (Hx.out.go hA15)
    replace HE := hide (HE.out.go hA15)
    clear hA15
    obtain ⟨⟨LX, pz⟩, hLX⟩ : ∃ r, Hid (partLenT 10 X = r) := ⟨_, rfl⟩
    have hc := lenI (d := 10) Hs.out.val HE.out.err HE.out.le
    rw [hLX.out] at hc; dsimp only at hc
    refine hc.mono ?_
    clear hc
    rintro e w16 ⟨z0, z1, z2, z3, z4, z5, z6, z7, z8, rfl, hu16, hb16⟩
    replace Hv := hide (Hv.out.go hb16)
    replace Hs := hide (Hs.out.go hb16)
    replace Hl := hide (Hl.out.go hb16)
    replace Hx := hide (Hx.out.go hb16)
    replace Hy := hide (Hy.out.go hb16)
    replace HE := hide (HE.out.go hb16)
    clear hb16
    clear Hs
    obtain ⟨xx0, xx1, xx2, xx3, xx4⟩ := Hx.out.blk.cell
    have xxl := Hx.out.blk.lt
    obtain ⟨xy0, xy1, xy2, xy3, xy4⟩ := Hy.out.blk.cell
    have xyl := Hy.out.blk.lt
    obtain ⟨xv0, xv1, xv2, xv3, xv4⟩ := Hv.out.blk.cell
    have xvl := Hv.out.blk.lt
    obtain ⟨W17, HW17⟩ : ∃ W1, Hid (w16.alloc (.cells #[.int .i64 z0, .int .i64 z1, .string z2, .slice z3 z4 z5, .slice z6 z7 z8] 26) = W1) := ⟨_, rfl⟩
    have hA17 : Below w16.heap.size w16 W17 := by rw [← HW17.out]; exact below_alloc1 _ _
    have Hz : Hid (VarAt w W17 w16.heap.size z0 z1 z2 z3 z4 z5 z6 z7 z8 11 LX) := by rw [← HW17.out]; exact VarAt.new hu16
    clear hu16
    have hxyz : (wrap64 (x1 + y1) != z1) = false := by
      have q1 : x1 = Nd.num LA := (val_parts (d := 10) Hx.out.val).2.1
      have q2 : y1 = Nd.num LB := (val_parts (d := 10) Hy.out.val).2.1
      have q3 : z1 = Nd.num LX := (val_parts (d := 10) Hz.out.val).2.1
      have h := HSUM.out
      rw [hLA.out, hLB.out] at h
      have h : wrap64 (Nd.num LA + Nd.num LB) = Nd.num (partLenT 10 X).1 := h
      rw [hLX.out] at h
      rw [q1, q2, q3, h]
      simp
    go_wp2_with fail
    rw [HW17.out]
    clear HW17
    clear xx0 xx1 xx2 xx3 xx4 xxl xy0 xy1 xy2 xy3 xy4 xyl xv0 xv1 xv2 xv3 xv4 xvl
    replace Hv := hide (Hv.out.go hA17)
    replace Hl := hide (Hl.out.go hA17)
    replace Hx := hide (Hx.out.go hA17)
    replace Hy := hide (Hy.out.go hA17)
    replace HE := hide (HE.out.go hA17)
    clear hA17
    clear Hx
    clear Hy
    clear Hz
    have hc3 : (okT 11 V = true ∧ 5 ≤ Nd.kind V) ∨ ¬ (okT 11 V = true ∧ 5 ≤ Nd.kind V) := Classical.em _
    rcases hc3 with hok | hok
    ·
      have hKk : Hid (partKeysT 9 V = (rowK 9 (keyTs 9 V), true)) := by show partKeysT 9 V = _; unfold partKeysT; rw [if_pos hok]
      obtain ⟨KT, hKT⟩ : ∃ K : Tr 11, Hid (rowK 9 (keyTs 9 V) = K) := ⟨_, rfl⟩
      rw [hKT.out] at hKk
      have hzK : wtT 11 KT ≤ 10000 := by have := wtT_ok (okT_partKeys 9 V); rw [hKk.out] at this; have h2 : wtT 11 KT ≤ 300 := this; omega
      have hc := keysI (d := 9) Hv.out.val HE.out.err HE.out.le
      rw [hKk.out] at hc; dsimp only at hc
      refine hc.mono ?_
      clear hc
      rintro e w18 ⟨k0, k1, k2, k3, k4, k5, k6, k7, k8, rfl, hu18, hb18⟩
      replace Hv := hide (Hv.out.go hb18)
      replace Hl := hide (Hl.out.go hb18)
      replace HE := hide (HE.out.go hb18)
      clear hb18
      clear Hv
      obtain ⟨W19, HW19⟩ : ∃ W1, Hid (w18.alloc (.cells #[.int .i64 k0, .int .i64 k1, .string k2, .slice k3 k4 k5, .slice k6 k7 k8] 26) = W1) := ⟨_, rfl⟩
      have hA19 : Below w18.heap.size w18 W19 := by rw [← HW19.out]; exact below_alloc1 _ _
      have Hk : Hid (VarAt w W19 w18.heap.size k0 k1 k2 k3 k4 k5 k6 k7 k8 11 KT) := by rw [← HW19.out]; exact VarAt.new hu18
      clear hu18
      go_wp2_with fail
      rw [HW19.out]
      clear HW19
      replace Hl := hide (Hl.out.go hA19)
      replace HE := hide (HE.out.go hA19)
      clear hA19
      have hk7 : k7 = (Nd.list (α := Tr 10) KT).length := (val_parts (d := 10) Hk.out.val).2.2.2.2.1
      have hkl : (Nd.list (α := Tr 10) KT) = keyTs 9 V := by rw [← hKT.out]; rfl
      have hk60 : k7 ≤ 60 := by rw [hk7, hkl, keyTs_length (d := 9) hok]; exact (okT_kinds (d := 10) hok.1).2.1
      have HZK := hide hzK
      clear hzK
      have HZ := hide (Since.start W19)
      have HK7 := hide hk7
      have HKL := hide hkl
      clear hk7 hkl
      go_loopw [20] (fun j wr => ∃ q : Nat, (q = 0 ∨ q + 1 ≤ k7) ∧ j = .int .i64 ((q : Int) + 1) ∧ Hid (Since W19 wr)) (fun j _ => k7 + 1 - (intOf j).toNat)
      case atStart => exact ⟨0, Or.inl rfl, rfl, HZ⟩
      case round =>
        clear HZ
        obtain ⟨q, hq, rfl, HZ⟩ := hrel
        have hbz := HZ.out.bel
        replace Hl := hide (Hl.out.go hbz)
        replace Hk := hide (Hk.out.go hbz)
        replace HE := hide (HE.out.go hbz)
        clear hbz
        by_cases hql : q + 1 < k7
        ·
          obtain ⟨i1, i2, i3, i4, i5, i6, i7, i8, i9, i10⟩ := idx_facts q k7 hql hk60
          obtain ⟨xb, xo, tx, x0, x1, x2, x3, x4, x5, x6, x7, x8, hxa, hxB, hxx, ex0, ex1, ex2, ex3, ex4, hxv⟩ := row_elem (val_parts (d := 10) Hk.out.val).2.2.2.2.2.2 (k := q) (by rw [← HK7.out]; exact i7)
          subst hxa
          obtain ⟨yb, yo, ty, y0, y1, y2, y3, y4, y5, y6, y7, y8, hya, hyB, hyx, ey0, ey1, ey2, ey3, ey4, hyv⟩ := row_elem (val_parts (d := 10) Hk.out.val).2.2.2.2.2.2 (k := q + 1) (by rw [← HK7.out]; exact hql)
          cases hya
          have hord : ordT 10 tx ty = -1 := by rw [HKL.out] at hxx hyx; exact keyTs_order (d := 9) hok hxx hyx
          have hzx : wtT 10 tx ≤ 10000 := by have := wt_mem (d := 10) hxx; have e : wtT 11 KT = 3 + (Nd.keys (α := Tr 10) KT).length + ((Nd.list (α := Tr 10) KT).map (wtT 10)).sum := rfl; have h2 := HZK.out; omega
          obtain ⟨xk0, xk1, xk2, xk3, xk4⟩ := Hk.out.blk.cell
          have xkl := Hk.out.blk.lt
          go_wp2_with fail
          clear xk0 xk1 xk2 xk3 xk4 xkl
          have e0' : Hid (∀ m : Ext wr, Calls Tryz.prog 18 #[.agg #[.int .i64 x0, .int .i64 x1, .string x2, .slice x3 x4 x5, .slice x6 x7 x8], .agg #[.int .i64 y0, .int .i64 y1, .string y2, .slice y3 y4 y5, .slice y6 y7 y8]] m.now fun e w' => e = .returned (.int .i64 (-1)) ∧ Below m.now.heap.size m.now w') := fun m => ordI_at' (freshP_go hxv m.from_) (freshP_go hyv m.from_) hzx hord
          obtain ⟨ck0, ck1, ck2, ck3, ck4⟩ := Hk.out.blk.cell
          have dk0 := fun m => ext_cell ck0 m
          have dk1 := fun m => ext_cell ck1 m
          have dk2 := fun m => ext_cell ck2 m
          have dk3 := fun m => ext_cell ck3 m
          have dk4 := fun m => ext_cell ck4 m
          clear ck0 ck1 ck2 ck3 ck4
          have ddex0 := fun m => ext_cell ex0 m
          have ddex1 := fun m => ext_cell ex1 m
          have ddex2 := fun m => ext_cell ex2 m
          have ddex3 := fun m => ext_cell ex3 m
          have ddex4 := fun m => ext_cell ex4 m
          have ddey0 := fun m => ext_cell ey0 m
          have ddey1 := fun m => ext_cell ey1 m
          have ddey2 := fun m => ext_cell ey2 m
          have ddey3 := fun m => ext_cell ey3 m
          have ddey4 := fun m => ext_cell ey4 m
          clear ex0 ex1 ex2 ex3 ex4 ey0 ey1 ey2 ey3 ey4
          have hne := Ext.some wr
          refine wp_region_ext (by kernel_rfl) (by kernel_rfl) ?_
          repeat (first | go_big_quiet_step ((go_at_call 18; with_reducible exact Calls.ext_of (e0'.out _))) | quiet_step ((go_at_call 18; with_reducible exact Calls.ext_of (e0'.out _))))
          refine wpQuiet_nil ?_
          intro w20 hw20
          obtain ⟨m, rfl⟩ := hw20
          obtain ⟨W20, hW20⟩ : ∃ W1, Hid (m.now = W1) := ⟨_, rfl⟩
          have hb20 := m.from_
          rw [hW20.out] at hb20 ⊢
          clear hW20 hne e0' dk0 dk1 dk2 dk3 dk4 ddex0 ddex1 ddex2 ddex3 ddex4 ddey0 ddey1 ddey2 ddey3 ddey4
          replace Hl := hide (Hl.out.go hb20)
          replace Hk := hide (Hk.out.go hb20)
          replace HZ := hide (HZ.out.go hb20)
          replace HE := hide (HE.out.go hb20)
          clear hb20
          go_wp2_with fail
          go_roundw
          case rel => exact ⟨q + 1, Or.inr i10, by first | rfl | go_num, HZ⟩
          case measure => first | exact idx_meas q k7 hql | (simp only [intOf]; exact idx_meas q k7 hql) | (simp [intOf]; omega)
        ·
          have i1 := idx_out q k7 hql
          have hfin : (o2 = false) ∨ (o2 = true ∧ l0 = 3 ∧ 0 ≤ l1) := by
            cases o2 with
            | false => exact Or.inl rfl
            | true =>
              have h1 := len_ok (d := 10) (t := V) (by rw [hL.out])
              rw [hL.out] at h1
              have h2 := (val_parts (d := 10) Hl.out.val)
              exact Or.inr ⟨rfl, by rw [h2.1]; exact h1.1, by rw [h2.2.1]; exact h1.2⟩
          rcases hfin with rfl | ⟨rfl, rfl, hl1⟩
          ·
            obtain ⟨xl0, xl1, xl2, xl3, xl4⟩ := Hl.out.blk.cell
            have xll := Hl.out.blk.lt
            obtain ⟨xk0, xk1, xk2, xk3, xk4⟩ := Hk.out.blk.cell
            have xkl := Hk.out.blk.lt
            go_wp2_with fail
            go_ret
            exact ⟨rfl, HE.out.bel⟩
          ·
            obtain ⟨xl0, xl1, xl2, xl3, xl4⟩ := Hl.out.blk.cell
            have xll := Hl.out.blk.lt
            obtain ⟨xk0, xk1, xk2, xk3, xk4⟩ := Hk.out.blk.cell
            have xkl := Hk.out.blk.lt
            go_wp2_with fail
            go_ret
            exact ⟨rfl, HE.out.bel⟩
    ·
      have hKk : Hid (partKeysT 9 V = (zeroT 10, false)) := by show partKeysT 9 V = _; unfold partKeysT; rw [if_neg hok]
      obtain ⟨KT, hKT⟩ : ∃ K : Tr 11, Hid (zeroT 10 = K) := ⟨_, rfl⟩
      rw [hKT.out] at hKk
      have hzK : wtT 11 KT ≤ 10000 := by have := wtT_ok (okT_partKeys 9 V); rw [hKk.out] at this; have h2 : wtT 11 KT ≤ 300 := this; omega
      have hc := keysI (d := 9) Hv.out.val HE.out.err HE.out.le
      rw [hKk.out] at hc; dsimp only at hc
      refine hc.mono ?_
      clear hc
      rintro e w18 ⟨k0, k1, k2, k3, k4, k5, k6, k7, k8, rfl, hu18, hb18⟩
      replace Hv := hide (Hv.out.go hb18)
      replace Hl := hide (Hl.out.go hb18)
      replace HE := hide (HE.out.go hb18)
      clear hb18
      clear Hv
      obtain ⟨W19, HW19⟩ : ∃ W1, Hid (w18.alloc (.cells #[.int .i64 k0, .int .i64 k1, .string k2, .slice k3 k4 k5, .slice k6 k7 k8] 26) = W1) := ⟨_, rfl⟩
      have hA19 : Below w18.heap.size w18 W19 := by rw [← HW19.out]; exact below_alloc1 _ _
      have Hk : Hid (VarAt w W19 w18.heap.size k0 k1 k2 k3 k4 k5 k6 k7 k8 11 KT) := by rw [← HW19.out]; exact VarAt.new hu18
      clear hu18
      go_wp2_with fail
      rw [HW19.out]
      clear HW19
      replace Hl := hide (Hl.out.go hA19)
      replace HE := hide (HE.out.go hA19)
      clear hA19
      have hk7 : k7 = (Nd.list (α := Tr 10) KT).length := (val_parts (d := 10) Hk.out.val).2.2.2.2.1
      have hk0 : k7 = 0 := by rw [hk7, ← hKT.out]; rfl
      clear hk7
      have HZK := hide hzK
      clear hzK
      have HZ := hide (Since.start W19)
      subst hk0
      go_loopw [20] (fun j wr => ∃ q : Nat, (q = 0 ∨ q + 1 ≤ 0) ∧ j = .int .i64 ((q : Int) + 1) ∧ Hid (Since W19 wr)) (fun j _ => 0 + 1 - (intOf j).toNat)
      case atStart => exact ⟨0, Or.inl rfl, rfl, HZ⟩
      case round =>
        clear HZ
        obtain ⟨q, hq, rfl, HZ⟩ := hrel
        have hbz := HZ.out.bel
        replace Hl := hide (Hl.out.go hbz)
        replace Hk := hide (Hk.out.go hbz)
        replace HE := hide (HE.out.go hbz)
        clear hbz
        have i1 : ¬ ((q : Int) + 1 < ((0 : Nat) : Int)) := by omega
        have i2 : ¬ ((q : Int) + 1 < 0) := by omega
        have hfin : (o2 = false) ∨ (o2 = true ∧ l0 = 3 ∧ 0 ≤ l1) := by
          cases o2 with
          | false => exact Or.inl rfl
          | true =>
            have h1 := len_ok (d := 10) (t := V) (by rw [hL.out])
            rw [hL.out] at h1
            have h2 := (val_parts (d := 10) Hl.out.val)
            exact Or.inr ⟨rfl, by rw [h2.1]; exact h1.1, by rw [h2.2.1]; exact h1.2⟩
        rcases hfin with rfl | ⟨rfl, rfl, hl1⟩
        ·
          obtain ⟨xl0, xl1, xl2, xl3, xl4⟩ := Hl.out.blk.cell
          have xll := Hl.out.blk.lt
          obtain ⟨xk0, xk1, xk2, xk3, xk4⟩ := Hk.out.blk.cell
          have xkl := Hk.out.blk.lt
          go_wp2_with fail
          go_ret
          exact ⟨rfl, HE.out.bel⟩
        ·
          obtain ⟨xl0, xl1, xl2, xl3, xl4⟩ := Hl.out.blk.cell
          have xll := Hl.out.blk.lt
          obtain ⟨xk0, xk1, xk2, xk3, xk4⟩ := Hk.out.blk.cell
          have xkl := Hk.out.blk.lt
          go_wp2_with fail
          go_ret
          exact ⟨rfl, HE.out.bel⟩
  ·
    obtain ⟨xa0, xa1, xa2, xa3, xa4⟩ := Ha.out.blk.cell
    have xal := Ha.out.blk.lt
    obtain ⟨xb0, xb1, xb2, xb3, xb4⟩ := Hb.out.blk.cell
    have xbl := Hb.out.blk.lt
    obtain ⟨xv0, xv1, xv2, xv3, xv4⟩ := Hv.out.blk.cell
    have xvl := Hv.out.blk.lt
    go_wp2_with fail
    clear Ha
    clear Hb
    clear Hs
    have hc3 : (okT 11 V = true ∧ 5 ≤ Nd.kind V) ∨ ¬ (okT 11 V = true ∧ 5 ≤ Nd.kind V) := Classical.em _
    rcases hc3 with hok | hok
    ·
      have hKk : Hid (partKeysT 9 V = (rowK 9 (keyTs 9 V), true)) := by show partKeysT 9 V = _; unfold partKeysT; rw [if_pos hok]
      obtain ⟨KT, hKT⟩ : ∃ K : Tr 11, Hid (rowK 9 (keyTs 9 V) = K) := ⟨_, rfl⟩
      rw [hKT.out] at hKk
      have hzK : wtT 11 KT ≤ 10000 := by have := wtT_ok (okT_partKeys 9 V); rw [hKk.out] at this; have h2 : wtT 11 KT ≤ 300 := this; omega
      clear xa0 xa1 xa2 xa3 xa4 xal xb0 xb1 xb2 xb3 xb4 xbl xv0 xv1 xv2 xv3 xv4 xvl
      have hc := keysI (d := 9) Hv.out.val HE.out.err HE.out.le
      rw [hKk.out] at hc; dsimp only at hc
      refine hc.mono ?_
      clear hc
      rintro e w12 ⟨k0, k1, k2, k3, k4, k5, k6, k7, k8, rfl, hu12, hb12⟩
      replace Hv := hide (Hv.out.go hb12)
      replace Hl := hide (Hl.out.go hb12)
      replace HE := hide (HE.out.go hb12)
      clear hb12
      clear Hv
      obtain ⟨W13, HW13⟩ : ∃ W1, Hid (w12.alloc (.cells #[.int .i64 k0, .int .i64 k1, .string k2, .slice k3 k4 k5, .slice k6 k7 k8] 26) = W1) := ⟨_, rfl⟩
      have hA13 : Below w12.heap.size w12 W13 := by rw [← HW13.out]; exact below_alloc1 _ _
      have Hk : Hid (VarAt w W13 w12.heap.size k0 k1 k2 k3 k4 k5 k6 k7 k8 11 KT) := by rw [← HW13.out]; exact VarAt.new hu12
      clear hu12
      go_wp2_with fail
      rw [HW13.out]
      clear HW13
      replace Hl := hide (Hl.out.go hA13)
      replace HE := hide (HE.out.go hA13)
      clear hA13
      have hk7 : k7 = (Nd.list (α := Tr 10) KT).length := (val_parts (d := 10) Hk.out.val).2.2.2.2.1
      have hkl : (Nd.list (α := Tr 10) KT) = keyTs 9 V := by rw [← hKT.out]; rfl
      have hk60 : k7 ≤ 60 := by rw [hk7, hkl, keyTs_length (d := 9) hok]; exact (okT_kinds (d := 10) hok.1).2.1
      have HZK := hide hzK
      clear hzK
      have HZ := hide (Since.start W13)
      have HK7 := hide hk7
      have HKL := hide hkl
      clear hk7 hkl
      go_loopw [20] (fun j wr => ∃ q : Nat, (q = 0 ∨ q + 1 ≤ k7) ∧ j = .int .i64 ((q : Int) + 1) ∧ Hid (Since W13 wr)) (fun j _ => k7 + 1 - (intOf j).toNat)
      case atStart => exact ⟨0, Or.inl rfl, rfl, HZ⟩
      case round =>
        clear HZ
        obtain ⟨q, hq, rfl, HZ⟩ := hrel
        have hbz := HZ.out.bel
        replace Hl := hide (Hl.out.go hbz)
        replace Hk := hide (Hk.out.go hbz)
        replace HE := hide (HE.out.go hbz)
        clear hbz
        by_cases hql : q + 1 < k7
        ·
          obtain ⟨i1, i2, i3, i4, i5, i6, i7, i8, i9, i10⟩ := idx_facts q k7 hql hk60
          obtain ⟨xb, xo, tx, x0, x1, x2, x3, x4, x5, x6, x7, x8, hxa, hxB, hxx, ex0, ex1, ex2, ex3, ex4, hxv⟩ := row_elem (val_parts (d := 10) Hk.out.val).2.2.2.2.2.2 (k := q) (by rw [← HK7.out]; exact i7)
          subst hxa
          obtain ⟨yb, yo, ty, y0, y1, y2, y3, y4, y5, y6, y7, y8, hya, hyB, hyx, ey0, ey1, ey2, ey3, ey4, hyv⟩ := row_elem (val_parts (d := 10) Hk.out.val).2.2.2.2.2.2 (k := q + 1) (by rw [← HK7.out]; exact hql)
          cases hya
          have hord : ordT 10 tx ty = -1 := by rw [HKL.out] at hxx hyx; exact keyTs_order (d := 9) hok hxx hyx
          have hzx : wtT 10 tx ≤ 10000 := by have := wt_mem (d := 10) hxx; have e : wtT 11 KT = 3 + (Nd.keys (α := Tr 10) KT).length + ((Nd.list (α := Tr 10) KT).map (wtT 10)).sum := rfl; have h2 := HZK.out; omega
          obtain ⟨xk0, xk1, xk2, xk3, xk4⟩ := Hk.out.blk.cell
          have xkl := Hk.out.blk.lt
          go_wp2_with fail
          clear xk0 xk1 xk2 xk3 xk4 xkl
          have e0' : Hid (∀ m : Ext wr, Calls Tryz.prog 18 #[.agg #[.int .i64 x0, .int .i64 x1, .string x2, .slice x3 x4 x5, .slice x6 x7 x8], .agg #[.int .i64 y0, .int .i64 y1, .string y2, .slice y3 y4 y5, .slice y6 y7 y8]] m.now fun e w' => e = .returned (.int .i64 (-1)) ∧ Below m.now.heap.size m.now w') := fun m => ordI_at' (freshP_go hxv m.from_) (freshP_go hyv m.from_) hzx hord
          obtain ⟨ck0, ck1, ck2, ck3, ck4⟩ := Hk.out.blk.cell
          have dk0 := fun m => ext_cell ck0 m
          have dk1 := fun m => ext_cell ck1 m
          have dk2 := fun m => ext_cell ck2 m
          have dk3 := fun m => ext_cell ck3 m
          have dk4 := fun m => ext_cell ck4 m
          clear ck0 ck1 ck2 ck3 ck4
          have ddex0 := fun m => ext_cell ex0 m
          have ddex1 := fun m => ext_cell ex1 m
          have ddex2 := fun m => ext_cell ex2 m
          have ddex3 := fun m => ext_cell ex3 m
          have ddex4 := fun m => ext_cell ex4 m
          have ddey0 := fun m => ext_cell ey0 m
          have ddey1 := fun m => ext_cell ey1 m
          have ddey2 := fun m => ext_cell ey2 m
          have ddey3 := fun m => ext_cell ey3 m
          have ddey4 := fun m => ext_cell ey4 m
          clear ex0 ex1 ex2 ex3 ex4 ey0 ey1 ey2 ey3 ey4
          have hne := Ext.some wr
          refine wp_region_ext (by kernel_rfl) (by kernel_rfl) ?_
          repeat (first | go_big_quiet_step ((go_at_call 18; with_reducible exact Calls.ext_of (e0'.out _))) | quiet_step ((go_at_call 18; with_reducible exact Calls.ext_of (e0'.out _))))
          refine wpQuiet_nil ?_
          intro w14 hw14
          obtain ⟨m, rfl⟩ := hw14
          obtain ⟨W14, hW14⟩ : ∃ W1, Hid (m.now = W1) := ⟨_, rfl⟩
          have hb14 := m.from_
          rw [hW14.out] at hb14 ⊢
          clear hW14 hne e0' dk0 dk1 dk2 dk3 dk4 ddex0 ddex1 ddex2 ddex3 ddex4 ddey0 ddey1 ddey2 ddey3 ddey4
          replace Hl := hide (Hl.out.go hb14)
          replace Hk := hide (Hk.out.go hb14)
          replace HZ := hide (HZ.out.go hb14)
          replace HE := hide (HE.out.go hb14)
          clear hb14
          go_wp2_with fail
          go_roundw
          case rel => exact ⟨q + 1, Or.inr i10, by first | rfl | go_num, HZ⟩
          case measure => first | exact idx_meas q k7 hql | (simp only [intOf]; exact idx_meas q k7 hql) | (simp [intOf]; omega)
        ·
          have i1 := idx_out q k7 hql
          have hfin : (o2 = false) ∨ (o2 = true ∧ l0 = 3 ∧ 0 ≤ l1) := by
            cases o2 with
            | false => exact Or.inl rfl
            | true =>
              have h1 := len_ok (d := 10) (t := V) (by rw [hL.out])
              rw [hL.out] at h1
              have h2 := (val_parts (d := 10) Hl.out.val)
              exact Or.inr ⟨rfl, by rw [h2.1]; exact h1.1, by rw [h2.2.1]; exact h1.2⟩
          rcases hfin with rfl | ⟨rfl, rfl, hl1⟩
          ·
            obtain ⟨xl0, xl1, xl2, xl3, xl4⟩ := Hl.out.blk.cell
            have xll := Hl.out.blk.lt
            obtain ⟨xk0, xk1, xk2, xk3, xk4⟩ := Hk.out.blk.cell
            have xkl := Hk.out.blk.lt
            go_wp2_with fail
            go_ret
            exact ⟨rfl, HE.out.bel⟩
          ·
            obtain ⟨xl0, xl1, xl2, xl3, xl4⟩ := Hl.out.blk.cell
            have xll := Hl.out.blk.lt
            obtain ⟨xk0, xk1, xk2, xk3, xk4⟩ := Hk.out.blk.cell
            have xkl := Hk.out.blk.lt
            go_wp2_with fail
            go_ret
            exact ⟨rfl, HE.out.bel⟩
    ·
      have hKk : Hid (partKeysT 9 V = (zeroT 10, false)) := by show partKeysT 9 V = _; unfold partKeysT; rw [if_neg hok]
      obtain ⟨KT, hKT⟩ : ∃ K : Tr 11, Hid (zeroT 10 = K) := ⟨_, rfl⟩
      rw [hKT.out] at hKk
      have hzK : wtT 11 KT ≤ 10000 := by have := wtT_ok (okT_partKeys 9 V); rw [hKk.out] at this; have h2 : wtT 11 KT ≤ 300 := this; omega
      clear xa0 xa1 xa2 xa3 xa4 xal xb0 xb1 xb2 xb3 xb4 xbl xv0 xv1 xv2 xv3 xv4 xvl
      have hc := keysI (d := 9) Hv.out.val HE.out.err HE.out.le
      rw [hKk.out] at hc; dsimp only at hc
      refine hc.mono ?_
      clear hc
      rintro e w12 ⟨k0, k1, k2, k3, k4, k5, k6, k7, k8, rfl, hu12, hb12⟩
      replace Hv := hide (Hv.out.go hb12)
      replace Hl := hide (Hl.out.go hb12)
      replace HE := hide (HE.out.go hb12)
      clear hb12
      clear Hv
      obtain ⟨W13, HW13⟩ : ∃ W1, Hid (w12.alloc (.cells #[.int .i64 k0, .int .i64 k1, .string k2, .slice k3 k4 k5, .slice k6 k7 k8] 26) = W1) := ⟨_, rfl⟩
      have hA13 : Below w12.heap.size w12 W13 := by rw [← HW13.out]; exact below_alloc1 _ _
      have Hk : Hid (VarAt w W13 w12.heap.size k0 k1 k2 k3 k4 k5 k6 k7 k8 11 KT) := by rw [← HW13.out]; exact VarAt.new hu12
      clear hu12
      go_wp2_with fail
      rw [HW13.out]
      clear HW13
      replace Hl := hide (Hl.out.go hA13)
      replace HE := hide (HE.out.go hA13)
      clear hA13
      have hk7 : k7 = (Nd.list (α := Tr 10) KT).length := (val_parts (d := 10) Hk.out.val).2.2.2.2.1
      have hk0 : k7 = 0 := by rw [hk7, ← hKT.out]; rfl
      clear hk7
      have HZK := hide hzK
      clear hzK
      have HZ := hide (Since.start W13)
      subst hk0
      go_loopw [20] (fun j wr => ∃ q : Nat, (q = 0 ∨ q + 1 ≤ 0) ∧ j = .int .i64 ((q : Int) + 1) ∧ Hid (Since W13 wr)) (fun j _ => 0 + 1 - (intOf j).toNat)
      case atStart => exact ⟨0, Or.inl rfl, rfl, HZ⟩
      case round =>
        clear HZ
        obtain ⟨q, hq, rfl, HZ⟩ := hrel
        have hbz := HZ.out.bel
        replace Hl := hide (Hl.out.go hbz)
        replace Hk := hide (Hk.out.go hbz)
        replace HE := hide (HE.out.go hbz)
        clear hbz
        have i1 : ¬ ((q : Int) + 1 < ((0 : Nat) : Int)) := by omega
        have i2 : ¬ ((q : Int) + 1 < 0) := by omega
        have hfin : (o2 = false) ∨ (o2 = true ∧ l0 = 3 ∧ 0 ≤ l1) := by
          cases o2 with
          | false => exact Or.inl rfl
          | true =>
            have h1 := len_ok (d := 10) (t := V) (by rw [hL.out])
            rw [hL.out] at h1
            have h2 := (val_parts (d := 10) Hl.out.val)
            exact Or.inr ⟨rfl, by rw [h2.1]; exact h1.1, by rw [h2.2.1]; exact h1.2⟩
        rcases hfin with rfl | ⟨rfl, rfl, hl1⟩
        ·
          obtain ⟨xl0, xl1, xl2, xl3, xl4⟩ := Hl.out.blk.cell
          have xll := Hl.out.blk.lt
          obtain ⟨xk0, xk1, xk2, xk3, xk4⟩ := Hk.out.blk.cell
          have xkl := Hk.out.blk.lt
          go_wp2_with fail
          go_ret
          exact ⟨rfl, HE.out.bel⟩
        ·
          obtain ⟨xl0, xl1, xl2, xl3, xl4⟩ := Hl.out.blk.cell
          have xll := Hl.out.blk.lt
          obtain ⟨xk0, xk1, xk2, xk3, xk4⟩ := Hk.out.blk.cell
          have xkl := Hk.out.blk.lt
          go_wp2_with fail
          go_ret
          exact ⟨rfl, HE.out.bel⟩
  ·
    have hnb : (a0 == b0) = false := by simpa using hn
    clear hn
    obtain ⟨xa0, xa1, xa2, xa3, xa4⟩ := Ha.out.blk.cell
    have xal := Ha.out.blk.lt
    obtain ⟨xb0, xb1, xb2, xb3, xb4⟩ := Hb.out.blk.cell
    have xbl := Hb.out.blk.lt
    obtain ⟨xv0, xv1, xv2, xv3, xv4⟩ := Hv.out.blk.cell
    have xvl := Hv.out.blk.lt
    go_wp2_with fail
    clear Ha
    clear Hb
    clear Hs
    have hc3 : (okT 11 V = true ∧ 5 ≤ Nd.kind V) ∨ ¬ (okT 11 V = true ∧ 5 ≤ Nd.kind V) := Classical.em _
    rcases hc3 with hok | hok
    ·
      have hKk : Hid (partKeysT 9 V = (rowK 9 (keyTs 9 V), true)) := by show partKeysT 9 V = _; unfold partKeysT; rw [if_pos hok]
      obtain ⟨KT, hKT⟩ : ∃ K : Tr 11, Hid (rowK 9 (keyTs 9 V) = K) := ⟨_, rfl⟩
      rw [hKT.out] at hKk
      have hzK : wtT 11 KT ≤ 10000 := by have := wtT_ok (okT_partKeys 9 V); rw [hKk.out] at this; have h2 : wtT 11 KT ≤ 300 := this; omega
      clear xa0 xa1 xa2 xa3 xa4 xal xb0 xb1 xb2 xb3 xb4 xbl xv0 xv1 xv2 xv3 xv4 xvl
      have hc := keysI (d := 9) Hv.out.val HE.out.err HE.out.le
      rw [hKk.out] at hc; dsimp only at hc
      refine hc.mono ?_
      clear hc
      rintro e w12 ⟨k0, k1, k2, k3, k4, k5, k6, k7, k8, rfl, hu12, hb12⟩
      replace Hv := hide (Hv.out.go hb12)
      replace Hl := hide (Hl.out.go hb12)
      replace HE := hide (HE.out.go hb12)
      clear hb12
      clear Hv
      obtain ⟨W13, HW13⟩ : ∃ W1, Hid (w12.alloc (.cells #[.int .i64 k0, .int .i64 k1, .string k2, .slice k3 k4 k5, .slice k6 k7 k8] 26) = W1) := ⟨_, rfl⟩
      have hA13 : Below w12.heap.size w12 W13 := by rw [← HW13.out]; exact below_alloc1 _ _
      have Hk : Hid (VarAt w W13 w12.heap.size k0 k1 k2 k3 k4 k5 k6 k7 k8 11 KT) := by rw [← HW13.out]; exact VarAt.new hu12
      clear hu12
      go_wp2_with fail
      rw [HW13.out]
      clear HW13
      replace Hl := hide (Hl.out.go hA13)
      replace HE := hide (HE.out.go hA13)
      clear hA13
      have hk7 : k7 = (Nd.list (α := Tr 10) KT).length := (val_parts (d := 10) Hk.out.val).2.2.2.2.1
      have hkl : (Nd.list (α := Tr 10) KT) = keyTs 9 V := by rw [← hKT.out]; rfl
      have hk60 : k7 ≤ 60 := by rw [hk7, hkl, keyTs_length (d := 9) hok]; exact (okT_kinds (d := 10) hok.1).2.1
      have HZK := hide hzK
      clear hzK
      have HZ := hide (Since.start W13)
      have HK7 := hide hk7
      have HKL := hide hkl
      clear hk7 hkl
      go_loopw [20] (fun j wr => ∃ q : Nat, (q = 0 ∨ q + 1 ≤ k7) ∧ j = .int .i64 ((q : Int) + 1) ∧ Hid (Since W13 wr)) (fun j _ => k7 + 1 - (intOf j).toNat)
      case atStart => exact ⟨0, Or.inl rfl, rfl, HZ⟩
      case round =>
        clear HZ
        obtain ⟨q, hq, rfl, HZ⟩ := hrel
        have hbz := HZ.out.bel
        replace Hl := hide (Hl.out.go hbz)
        replace Hk := hide (Hk.out.go hbz)
        replace HE := hide (HE.out.go hbz)
        clear hbz
        by_cases hql : q + 1 < k7
        ·
          obtain ⟨i1, i2, i3, i4, i5, i6, i7, i8, i9, i10⟩ := idx_facts q k7 hql hk60
          obtain ⟨xb, xo, tx, x0, x1, x2, x3, x4, x5, x6, x7, x8, hxa, hxB, hxx, ex0, ex1, ex2, ex3, ex4, hxv⟩ := row_elem (val_parts (d := 10) Hk.out.val).2.2.2.2.2.2 (k := q) (by rw [← HK7.out]; exact i7)
          subst hxa
          obtain ⟨yb, yo, ty, y0, y1, y2, y3, y4, y5, y6, y7, y8, hya, hyB, hyx, ey0, ey1, ey2, ey3, ey4, hyv⟩ := row_elem (val_parts (d := 10) Hk.out.val).2.2.2.2.2.2 (k := q + 1) (by rw [← HK7.out]; exact hql)
          cases hya
          have hord : ordT 10 tx ty = -1 := by rw [HKL.out] at hxx hyx; exact keyTs_order (d := 9) hok hxx hyx
          have hzx : wtT 10 tx ≤ 10000 := by have := wt_mem (d := 10) hxx; have e : wtT 11 KT = 3 + (Nd.keys (α := Tr 10) KT).length + ((Nd.list (α := Tr 10) KT).map (wtT 10)).sum := rfl; have h2 := HZK.out; omega
          obtain ⟨xk0, xk1, xk2, xk3, xk4⟩ := Hk.out.blk.cell
          have xkl := Hk.out.blk.lt
          go_wp2_with fail
          clear xk0 xk1 xk2 xk3 xk4 xkl
          have e0' : Hid (∀ m : Ext wr, Calls Tryz.prog 18 #[.agg #[.int .i64 x0, .int .i64 x1, .string x2, .slice x3 x4 x5, .slice x6 x7 x8], .agg #[.int .i64 y0, .int .i64 y1, .string y2, .slice y3 y4 y5, .slice y6 y7 y8]] m.now fun e w' => e = .returned (.int .i64 (-1)) ∧ Below m.now.heap.size m.now w') := fun m => ordI_at' (freshP_go hxv m.from_) (freshP_go hyv m.from_) hzx hord
          obtain ⟨ck0, ck1, ck2, ck3, ck4⟩ := Hk.out.blk.cell
          have dk0 := fun m => ext_cell ck0 m
          have dk1 := fun m => ext_cell ck1 m
          have dk2 := fun m => ext_cell ck2 m
          have dk3 := fun m => ext_cell ck3 m
          have dk4 := fun m => ext_cell ck4 m
          clear ck0 ck1 ck2 ck3 ck4
          have ddex0 := fun m => ext_cell ex0 m
          have ddex1 := fun m => ext_cell ex1 m
          have ddex2 := fun m => ext_cell ex2 m
          have ddex3 := fun m => ext_cell ex3 m
          have ddex4 := fun m => ext_cell ex4 m
          have ddey0 := fun m => ext_cell ey0 m
          have ddey1 := fun m => ext_cell ey1 m
          have ddey2 := fun m => ext_cell ey2 m
          have ddey3 := fun m => ext_cell ey3 m
          have ddey4 := fun m => ext_cell ey4 m
          clear ex0 ex1 ex2 ex3 ex4 ey0 ey1 ey2 ey3 ey4
          have hne := Ext.some wr
          refine wp_region_ext (by kernel_rfl) (by kernel_rfl) ?_
          repeat (first | go_big_quiet_step ((go_at_call 18; with_reducible exact Calls.ext_of (e0'.out _))) | quiet_step ((go_at_call 18; with_reducible exact Calls.ext_of (e0'.out _))))
          refine wpQuiet_nil ?_
          intro w14 hw14
          obtain ⟨m, rfl⟩ := hw14
          obtain ⟨W14, hW14⟩ : ∃ W1, Hid (m.now = W1) := ⟨_, rfl⟩
          have hb14 := m.from_
          rw [hW14.out] at hb14 ⊢
          clear hW14 hne e0' dk0 dk1 dk2 dk3 dk4 ddex0 ddex1 ddex2 ddex3 ddex4 ddey0 ddey1 ddey2 ddey3 ddey4
          replace Hl := hide (Hl.out.go hb14)
          replace Hk := hide (Hk.out.go hb14)
          replace HZ := hide (HZ.out.go hb14)
          replace HE := hide (HE.out.go hb14)
          clear hb14
          go_wp2_with fail
          go_roundw
          case rel => exact ⟨q + 1, Or.inr i10, by first | rfl | go_num, HZ⟩
          case measure => first | exact idx_meas q k7 hql | (simp only [intOf]; exact idx_meas q k7 hql) | (simp [intOf]; omega)
        ·
          have i1 := idx_out q k7 hql
          have hfin : (o2 = false) ∨ (o2 = true ∧ l0 = 3 ∧ 0 ≤ l1) := by
            cases o2 with
            | false => exact Or.inl rfl
            | true =>
              have h1 := len_ok (d := 10) (t := V) (by rw [hL.out])
              rw [hL.out] at h1
              have h2 := (val_parts (d := 10) Hl.out.val)
              exact Or.inr ⟨rfl, by rw [h2.1]; exact h1.1, by rw [h2.2.1]; exact h1.2⟩
          rcases hfin with rfl | ⟨rfl, rfl, hl1⟩
          ·
            obtain ⟨xl0, xl1, xl2, xl3, xl4⟩ := Hl.out.blk.cell
            have xll := Hl.out.blk.lt
            obtain ⟨xk0, xk1, xk2, xk3, xk4⟩ := Hk.out.blk.cell
            have xkl := Hk.out.blk.lt
            go_wp2_with fail
            go_ret
            exact ⟨rfl, HE.out.bel⟩
          ·
            obtain ⟨xl0, xl1, xl2, xl3, xl4⟩ := Hl.out.blk.cell
            have xll := Hl.out.blk.lt
            obtain ⟨xk0, xk1, xk2, xk3, xk4⟩ := Hk.out.blk.cell
            have xkl := Hk.out.blk.lt
            go_wp2_with fail
            go_ret
            exact ⟨rfl, HE.out.bel⟩
    ·
      have hKk : Hid (partKeysT 9 V = (zeroT 10, false)) := by show partKeysT 9 V = _; unfold partKeysT; rw [if_neg hok]
      obtain ⟨KT, hKT⟩ : ∃ K : Tr 11, Hid (zeroT 10 = K) := ⟨_, rfl⟩
      rw [hKT.out] at hKk
      have hzK : wtT 11 KT ≤ 10000 := by have := wtT_ok (okT_partKeys 9 V); rw [hKk.out] at this; have h2 : wtT 11 KT ≤ 300 := this; omega
      clear xa0 xa1 xa2 xa3 xa4 xal xb0 xb1 xb2 xb3 xb4 xbl xv0 xv1 xv2 xv3 xv4 xvl
      have hc := keysI (d := 9) Hv.out.val HE.out.err HE.out.le
      rw [hKk.out] at hc; dsimp only at hc
      refine hc.mono ?_
      clear hc
      rintro e w12 ⟨k0, k1, k2, k3, k4, k5, k6, k7, k8, rfl, hu12, hb12⟩
      replace Hv := hide (Hv.out.go hb12)
      replace Hl := hide (Hl.out.go hb12)
      replace HE := hide (HE.out.go hb12)
      clear hb12
      clear Hv
      obtain ⟨W13, HW13⟩ : ∃ W1, Hid (w12.alloc (.cells #[.int .i64 k0, .int .i64 k1, .string k2, .slice k3 k4 k5, .slice k6 k7 k8] 26) = W1) := ⟨_, rfl⟩
      have hA13 : Below w12.heap.size w12 W13 := by rw [← HW13.out]; exact below_alloc1 _ _
      have Hk : Hid (VarAt w W13 w12.heap.size k0 k1 k2 k3 k4 k5 k6 k7 k8 11 KT) := by rw [← HW13.out]; exact VarAt.new hu12
      clear hu12
      go_wp2_with fail
      rw [HW13.out]
      clear HW13
      replace Hl := hide (Hl.out.go hA13)
      replace HE := hide (HE.out.go hA13)
      clear hA13
      have hk7 : k7 = (Nd.list (α := Tr 10) KT).length := (val_parts (d := 10) Hk.out.val).2.2.2.2.1
      have hk0 : k7 = 0 := by rw [hk7, ← hKT.out]; rfl
      clear hk7
      have HZK := hide hzK
      clear hzK
      have HZ := hide (Since.start W13)
      subst hk0
      go_loopw [20] (fun j wr => ∃ q : Nat, (q = 0 ∨ q + 1 ≤ 0) ∧ j = .int .i64 ((q : Int) + 1) ∧ Hid (Since W13 wr)) (fun j _ => 0 + 1 - (intOf j).toNat)
      case atStart => exact ⟨0, Or.inl rfl, rfl, HZ⟩
      case round =>
        clear HZ
        obtain ⟨q, hq, rfl, HZ⟩ := hrel
        have hbz := HZ.out.bel
        replace Hl := hide (Hl.out.go hbz)
        replace Hk := hide (Hk.out.go hbz)
        replace HE := hide (HE.out.go hbz)
        clear hbz
        have i1 : ¬ ((q : Int) + 1 < ((0 : Nat) : Int)) := by omega
        have i2 : ¬ ((q : Int) + 1 < 0) := by omega
        have hfin : (o2 = false) ∨ (o2 = true ∧ l0 = 3 ∧ 0 ≤ l1) := by
          cases o2 with
          | false => exact Or.inl rfl
          | true =>
            have h1 := len_ok (d := 10) (t := V) (by rw [hL.out])
            rw [hL.out] at h1
            have h2 := (val_parts (d := 10) Hl.out.val)
            exact Or.inr ⟨rfl, by rw [h2.1]; exact h1.1, by rw [h2.2.1]; exact h1.2⟩
        rcases hfin with rfl | ⟨rfl, rfl, hl1⟩
        ·
          obtain ⟨xl0, xl1, xl2, xl3, xl4⟩ := Hl.out.blk.cell
          have xll := Hl.out.blk.lt
          obtain ⟨xk0, xk1, xk2, xk3, xk4⟩ := Hk.out.blk.cell
          have xkl := Hk.out.blk.lt
          go_wp2_with fail
          go_ret
          exact ⟨rfl, HE.out.bel⟩
        ·
          obtain ⟨xl0, xl1, xl2, xl3, xl4⟩ := Hl.out.blk.cell
          have xll := Hl.out.blk.lt
          obtain ⟨xk0, xk1, xk2, xk3, xk4⟩ := Hk.out.blk.cell
          have xkl := Hk.out.blk.lt
          go_wp2_with fail
          go_ret
          exact ⟨rfl, HE.out.bel⟩
  ·
    have h4b : (a0 == 4) = false := by simpa using h4
    have h5b : (a0 == 5) = false := by simpa using h5
    clear h4 h5
    obtain ⟨xa0, xa1, xa2, xa3, xa4⟩ := Ha.out.blk.cell
    have xal := Ha.out.blk.lt
    obtain ⟨xb0, xb1, xb2, xb3, xb4⟩ := Hb.out.blk.cell
    have xbl := Hb.out.blk.lt
    obtain ⟨xv0, xv1, xv2, xv3, xv4⟩ := Hv.out.blk.cell
    have xvl := Hv.out.blk.lt
    go_wp2_with fail
    clear Ha
    clear Hb
    clear Hs
    have hc3 : (okT 11 V = true ∧ 5 ≤ Nd.kind V) ∨ ¬ (okT 11 V = true ∧ 5 ≤ Nd.kind V) := Classical.em _
    rcases hc3 with hok | hok
    ·
      have hKk : Hid (partKeysT 9 V = (rowK 9 (keyTs 9 V), true)) := by show partKeysT 9 V = _; unfold partKeysT; rw [if_pos hok]
      obtain ⟨KT, hKT⟩ : ∃ K : Tr 11, Hid (rowK 9 (keyTs 9 V) = K) := ⟨_, rfl⟩
      rw [hKT.out] at hKk
      have hzK : wtT 11 KT ≤ 10000 := by have := wtT_ok (okT_partKeys 9 V); rw [hKk.out] at this; have h2 : wtT 11 KT ≤ 300 := this; omega
      clear xa0 xa1 xa2 xa3 xa4 xal xb0 xb1 xb2 xb3 xb4 xbl xv0 xv1 xv2 xv3 xv4 xvl
      have hc := keysI (d := 9) Hv.out.val HE.out.err HE.out.le
      rw [hKk.out] at hc; dsimp only at hc
      refine hc.mono ?_
      clear hc
      rintro e w12 ⟨k0, k1, k2, k3, k4, k5, k6, k7, k8, rfl, hu12, hb12⟩
      replace Hv := hide (Hv.out.go hb12)
      replace Hl := hide (Hl.out.go hb12)
      replace HE := hide (HE.out.go hb12)
      clear hb12
      clear Hv
      obtain ⟨W13, HW13⟩ : ∃ W1, Hid (w12.alloc (.cells #[.int .i64 k0, .int .i64 k1, .string k2, .slice k3 k4 k5, .slice k6 k7 k8] 26) = W1) := ⟨_, rfl⟩
      have hA13 : Below w12.heap.size w12 W13 := by rw [← HW13.out]; exact below_alloc1 _ _
      have Hk : Hid (VarAt w W13 w12.heap.size k0 k1 k2 k3 k4 k5 k6 k7 k8 11 KT) := by rw [← HW13.out]; exact VarAt.new hu12
      clear hu12
      go_wp2_with fail
      rw [HW13.out]
      clear HW13
      replace Hl := hide (Hl.out.go hA13)
      replace HE := hide (HE.out.go hA13)
      clear hA13
      have hk7 : k7 = (Nd.list (α := Tr 10) KT).length := (val_parts (d := 10) Hk.out.val).2.2.2.2.1
      have hkl : (Nd.list (α := Tr 10) KT) = keyTs 9 V := by rw [← hKT.out]; rfl
      have hk60 : k7 ≤ 60 := by rw [hk7, hkl, keyTs_length (d := 9) hok]; exact (okT_kinds (d := 10) hok.1).2.1
      have HZK := hide hzK
      clear hzK
      have HZ := hide (Since.start W13)
      have HK7 := hide hk7
      have HKL := hide hkl
      clear hk7 hkl
      go_loopw [20] (fun j wr => ∃ q : Nat, (q = 0 ∨ q + 1 ≤ k7) ∧ j = .int .i64 ((q : Int) + 1) ∧ Hid (Since W13 wr)) (fun j _ => k7 + 1 - (intOf j).toNat)
      case atStart => exact ⟨0, Or.inl rfl, rfl, HZ⟩
      case round =>
        clear HZ
        obtain ⟨q, hq, rfl, HZ⟩ := hrel
        have hbz := HZ.out.bel
        replace Hl := hide (Hl.out.go hbz)
        replace Hk := hide (Hk.out.go hbz)
        replace HE := hide (HE.out.go hbz)
        clear hbz
        by_cases hql : q + 1 < k7
        ·
          obtain ⟨i1, i2, i3, i4, i5, i6, i7, i8, i9, i10⟩ := idx_facts q k7 hql hk60
          obtain ⟨xb, xo, tx, x0, x1, x2, x3, x4, x5, x6, x7, x8, hxa, hxB, hxx, ex0, ex1, ex2, ex3, ex4, hxv⟩ := row_elem (val_parts (d := 10) Hk.out.val).2.2.2.2.2.2 (k := q) (by rw [← HK7.out]; exact i7)
          subst hxa
          obtain ⟨yb, yo, ty, y0, y1, y2, y3, y4, y5, y6, y7, y8, hya, hyB, hyx, ey0, ey1, ey2, ey3, ey4, hyv⟩ := row_elem (val_parts (d := 10) Hk.out.val).2.2.2.2.2.2 (k := q + 1) (by rw [← HK7.out]; exact hql)
          cases hya
          have hord : ordT 10 tx ty = -1 := by rw [HKL.out] at hxx hyx; exact keyTs_order (d := 9) hok hxx hyx
          have hzx : wtT 10 tx ≤ 10000 := by have := wt_mem (d := 10) hxx; have e : wtT 11 KT = 3 + (Nd.keys (α := Tr 10) KT).length + ((Nd.list (α := Tr 10) KT).map (wtT 10)).sum := rfl; have h2 := HZK.out; omega
          obtain ⟨xk0, xk1, xk2, xk3, xk4⟩ := Hk.out.blk.cell
          have xkl := Hk.out.blk.lt
          go_wp2_with fail
          clear xk0 xk1 xk2 xk3 xk4 xkl
          have e0' : Hid (∀ m : Ext wr, Calls Tryz.prog 18 #[.agg #[.int .i64 x0, .int .i64 x1, .string x2, .slice x3 x4 x5, .slice x6 x7 x8], .agg #[.int .i64 y0, .int .i64 y1, .string y2, .slice y3 y4 y5, .slice y6 y7 y8]] m.now fun e w' => e = .returned (.int .i64 (-1)) ∧ Below m.now.heap.size m.now w') := fun m => ordI_at' (freshP_go hxv m.from_) (freshP_go hyv m.from_) hzx hord
          obtain ⟨ck0, ck1, ck2, ck3, ck4⟩ := Hk.out.blk.cell
          have dk0 := fun m => ext_cell ck0 m
          have dk1 := fun m => ext_cell ck1 m
          have dk2 := fun m => ext_cell ck2 m
          have dk3 := fun m => ext_cell ck3 m
          have dk4 := fun m => ext_cell ck4 m
          clear ck0 ck1 ck2 ck3 ck4
          have ddex0 := fun m => ext_cell ex0 m
          have ddex1 := fun m => ext_cell ex1 m
          have ddex2 := fun m => ext_cell ex2 m
          have ddex3 := fun m => ext_cell ex3 m
          have ddex4 := fun m => ext_cell ex4 m
          have ddey0 := fun m => ext_cell ey0 m
          have ddey1 := fun m => ext_cell ey1 m
          have ddey2 := fun m => ext_cell ey2 m
          have ddey3 := fun m => ext_cell ey3 m
          have ddey4 := fun m => ext_cell ey4 m
          clear ex0 ex1 ex2 ex3 ex4 ey0 ey1 ey2 ey3 ey4
          have hne := Ext.some wr
          refine wp_region_ext (by kernel_rfl) (by kernel_rfl) ?_
          repeat (first | go_big_quiet_step ((go_at_call 18; with_reducible exact Calls.ext_of (e0'.out _))) | quiet_step ((go_at_call 18; with_reducible exact Calls.ext_of (e0'.out _))))
          refine wpQuiet_nil ?_
          intro w14 hw14
          obtain ⟨m, rfl⟩ := hw14
          obtain ⟨W14, hW14⟩ : ∃ W1, Hid (m.now = W1) := ⟨_, rfl⟩
          have hb14 := m.from_
          rw [hW14.out] at hb14 ⊢
          clear hW14 hne e0' dk0 dk1 dk2 dk3 dk4 ddex0 ddex1 ddex2 ddex3 ddex4 ddey0 ddey1 ddey2 ddey3 ddey4
          replace Hl := hide (Hl.out.go hb14)
          replace Hk := hide (Hk.out.go hb14)
          replace HZ := hide (HZ.out.go hb14)
          replace HE := hide (HE.out.go hb14)
          clear hb14
          go_wp2_with fail
          go_roundw
          case rel => exact ⟨q + 1, Or.inr i10, by first | rfl | go_num, HZ⟩
          case measure => first | exact idx_meas q k7 hql | (simp only [intOf]; exact idx_meas q k7 hql) | (simp [intOf]; omega)
        ·
          have i1 := idx_out q k7 hql
          have hfin : (o2 = false) ∨ (o2 = true ∧ l0 = 3 ∧ 0 ≤ l1) := by
            cases o2 with
            | false => exact Or.inl rfl
            | true =>
              have h1 := len_ok (d := 10) (t := V) (by rw [hL.out])
              rw [hL.out] at h1
              have h2 := (val_parts (d := 10) Hl.out.val)
              exact Or.inr ⟨rfl, by rw [h2.1]; exact h1.1, by rw [h2.2.1]; exact h1.2⟩
          rcases hfin with rfl | ⟨rfl, rfl, hl1⟩
          ·
            obtain ⟨xl0, xl1, xl2, xl3, xl4⟩ := Hl.out.blk.cell
            have xll := Hl.out.blk.lt
            obtain ⟨xk0, xk1, xk2, xk3, xk4⟩ := Hk.out.blk.cell
            have xkl := Hk.out.blk.lt
            go_wp2_with fail
            go_ret
            exact ⟨rfl, HE.out.bel⟩
          ·
            obtain ⟨xl0, xl1, xl2, xl3, xl4⟩ := Hl.out.blk.cell
            have xll := Hl.out.blk.lt
            obtain ⟨xk0, xk1, xk2, xk3, xk4⟩ := Hk.out.blk.cell
            have xkl := Hk.out.blk.lt
            go_wp2_with fail
            go_ret
            exact ⟨rfl, HE.out.bel⟩
    ·
      have hKk : Hid (partKeysT 9 V = (zeroT 10, false)) := by show partKeysT 9 V = _; unfold partKeysT; rw [if_neg hok]
      obtain ⟨KT, hKT⟩ : ∃ K : Tr 11, Hid (zeroT 10 = K) := ⟨_, rfl⟩
      rw [hKT.out] at hKk
      have hzK : wtT 11 KT ≤ 10000 := by have := wtT_ok (okT_partKeys 9 V); rw [hKk.out] at this; have h2 : wtT 11 KT ≤ 300 := this; omega
      clear xa0 xa1 xa2 xa3 xa4 xal xb0 xb1 xb2 xb3 xb4 xbl xv0 xv1 xv2 xv3 xv4 xvl
      have hc := keysI (d := 9) Hv.out.val HE.out.err HE.out.le
      rw [hKk.out] at hc; dsimp only at hc
      refine hc.mono ?_
      clear hc
      rintro e w12 ⟨k0, k1, k2, k3, k4, k5, k6, k7, k8, rfl, hu12, hb12⟩
      replace Hv := hide (Hv.out.go hb12)
      replace Hl := hide (Hl.out.go hb12)
      replace HE := hide (HE.out.go hb12)
      clear hb12
      clear Hv
      obtain ⟨W13, HW13⟩ : ∃ W1, Hid (w12.alloc (.cells #[.int .i64 k0, .int .i64 k1, .string k2, .slice k3 k4 k5, .slice k6 k7 k8] 26) = W1) := ⟨_, rfl⟩
      have hA13 : Below w12.heap.size w12 W13 := by rw [← HW13.out]; exact below_alloc1 _ _
      have Hk : Hid (VarAt w W13 w12.heap.size k0 k1 k2 k3 k4 k5 k6 k7 k8 11 KT) := by rw [← HW13.out]; exact VarAt.new hu12
      clear hu12
      go_wp2_with fail
      rw [HW13.out]
      clear HW13
      replace Hl := hide (Hl.out.go hA13)
      replace HE := hide (HE.out.go hA13)
      clear hA13
      have hk7 : k7 = (Nd.list (α := Tr 10) KT).length := (val_parts (d := 10) Hk.out.val).2.2.2.2.1
      have hk0 : k7 = 0 := by rw [hk7, ← hKT.out]; rfl
      clear hk7
      have HZK := hide hzK
      clear hzK
      have HZ := hide (Since.start W13)
      subst hk0
      go_loopw [20] (fun j wr => ∃ q : Nat, (q = 0 ∨ q + 1 ≤ 0) ∧ j = .int .i64 ((q : Int) + 1) ∧ Hid (Since W13 wr)) (fun j _ => 0 + 1 - (intOf j).toNat)
      case atStart => exact ⟨0, Or.inl rfl, rfl, HZ⟩
      case round =>
        clear HZ
        obtain ⟨q, hq, rfl, HZ⟩ := hrel
        have hbz := HZ.out.bel
        replace Hl := hide (Hl.out.go hbz)
        replace Hk := hide (Hk.out.go hbz)
        replace HE := hide (HE.out.go hbz)
        clear hbz
        have i1 : ¬ ((q : Int) + 1 < ((0 : Nat) : Int)) := by omega
        have i2 : ¬ ((q : Int) + 1 < 0) := by omega
        have hfin : (o2 = false) ∨ (o2 = true ∧ l0 = 3 ∧ 0 ≤ l1) := by
          cases o2 with
          | false => exact Or.inl rfl
          | true =>
            have h1 := len_ok (d := 10) (t := V) (by rw [hL.out])
            rw [hL.out] at h1
            have h2 := (val_parts (d := 10) Hl.out.val)
            exact Or.inr ⟨rfl, by rw [h2.1]; exact h1.1, by rw [h2.2.1]; exact h1.2⟩
        rcases hfin with rfl | ⟨rfl, rfl, hl1⟩
        ·
          obtain ⟨xl0, xl1, xl2, xl3, xl4⟩ := Hl.out.blk.cell
          have xll := Hl.out.blk.lt
          obtain ⟨xk0, xk1, xk2, xk3, xk4⟩ := Hk.out.blk.cell
          have xkl := Hk.out.blk.lt
          go_wp2_with fail
          go_ret
          exact ⟨rfl, HE.out.bel⟩
        ·
          obtain ⟨xl0, xl1, xl2, xl3, xl4⟩ := Hl.out.blk.cell
          have xll := Hl.out.blk.lt
          obtain ⟨xk0, xk1, xk2, xk3, xk4⟩ := Hk.out.blk.cell
          have xkl := Hk.out.blk.lt
          go_wp2_with fail
          go_ret
          exact ⟨rfl, HE.out.bel⟩
end Go.Proofs.YtoangpfmjohhmaaGreatDoor
