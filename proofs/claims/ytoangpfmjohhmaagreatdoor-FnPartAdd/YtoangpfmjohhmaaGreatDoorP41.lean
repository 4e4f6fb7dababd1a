/- Texts of the proof, put together by program: LFnPartAdd. -/
import Derived.Test.YtoangpfmjohhmaaGreatDoorP40
/- FnPartAdd: for all bytes that lie in memory the law answers true. -/
namespace Go.Proofs.YtoangpfmjohhmaaGreatDoor
open Go.RowKit Go.Deep

set_option maxRecDepth 100000 in
set_option maxHeartbeats 16000000 in
theorem lawFnPartAdd (a : Option Addr) (n cap : Nat) (a' : Option Addr) (n' cap' : Nat) (w : World) (hcap : n ≤ cap) (hcap' : n' ≤ cap') (_hm : cap ≤ 9223372036854775807) (_hm' : cap' ≤ 9223372036854775807) (hB : BytesAt w.heap.size w a n) (hB' : BytesAt w.heap.size w a' n') (hg : ErrType w) :
    Calls Tryz.prog 3 #[.slice a n cap, .slice a' n' cap'] w fun e w' => e = .returned (.bool true) ∧ Below w.heap.size w w' := by
  by_cases hn : 1048576 < n
  · go_enter Tryz.func3, Tryz.ntmps3
    go_wp2_with fail
    go_ret
    exact ⟨rfl, Below.refl _ _⟩
  by_cases hn' : 1048576 < n'
  · go_enter Tryz.func3, Tryz.ntmps3
    go_wp2_with fail
    go_ret
    exact ⟨rfl, Below.refl _ _⟩
  go_enter Tryz.func3, Tryz.ntmps3
  go_wp2_with fail
  refine (drawPartAdd_any a n cap w hcap hB).mono ?_
  rintro e w1 ⟨u, A, u', B, rfl, ha, ha1, hb, hb1', hbl⟩
  obtain ⟨a0, a1, a2, a3, a4, a5, a6, a7, a8, rfl⟩ := ha.shape
  obtain ⟨b0, b1, b2, b3, b4, b5, b6, b7, b8, rfl⟩ := hb.shape
  have HE : Hid (Amid w w1) := ⟨hbl, hg.below hbl⟩
  have hBy := hB'.wider (r' := w1.heap.size) (fun b hb => hbl.block b hb) hbl.size
  have hzA : wtT 11 A ≤ 10000 := by omega
  have hzB : wtT 11 B ≤ 10000 := by omega
  clear hbl hB hB' ha1 hb1'
  obtain ⟨W2, HW2⟩ : ∃ W1, Hid ((w1.alloc (.cells #[.int .i64 a0, .int .i64 a1, .string a2, .slice a3 a4 a5, .slice a6 a7 a8] 26)).alloc (.cells #[.int .i64 b0, .int .i64 b1, .string b2, .slice b3 b4 b5, .slice b6 b7 b8] 26) = W1) := ⟨_, rfl⟩
  obtain ⟨Ha, Hb, hA2⟩ := VarAt.two ha hb
  rw [HW2.out] at Ha Hb hA2
  replace Ha := hide Ha
  replace Hb := hide Hb
  clear ha hb
  go_wp2_with fail
  rw [HW2.out]
  clear HW2
  replace HE := hide (HE.out.go hA2)
  replace hBy := hBy.wider (r' := _) (fun b hb => hA2.block b hb) hA2.size
  clear hA2
  obtain ⟨⟨X, o1⟩, hX⟩ : ∃ r, Hid (partAddT 10 A B = r) := ⟨_, rfl⟩
  have hzX : wtT 11 X ≤ 10000 := by have := wt_add A B; rw [hX.out] at this; exact this
  obtain ⟨xa0, xa1, xa2, xa3, xa4⟩ := Ha.out.blk.cell
  have xal := Ha.out.blk.lt
  obtain ⟨xb0, xb1, xb2, xb3, xb4⟩ := Hb.out.blk.cell
  have xbl := Hb.out.blk.lt
  clear xa0 xa1 xa2 xa3 xa4 xal xb0 xb1 xb2 xb3 xb4 xbl
  have hc := addI (d := 10) Ha.out.val Hb.out.val HE.out.err HE.out.le
  rw [hX.out] at hc; dsimp only at hc
  refine hc.mono ?_
  clear hc
  rintro e w3 ⟨x0, x1, x2, x3, x4, x5, x6, x7, x8, rfl, hu3, hb3⟩
  replace Ha := hide (Ha.out.go hb3)
  replace Hb := hide (Hb.out.go hb3)
  replace HE := hide (HE.out.go hb3)
  replace hBy := hBy.wider (r' := _) (fun b hb => hb3.block b hb) hb3.size
  clear hb3
  obtain ⟨xa0, xa1, xa2, xa3, xa4⟩ := Ha.out.blk.cell
  have xal := Ha.out.blk.lt
  obtain ⟨xb0, xb1, xb2, xb3, xb4⟩ := Hb.out.blk.cell
  have xbl := Hb.out.blk.lt
  obtain ⟨W4, HW4⟩ : ∃ W1, Hid (w3.alloc (.cells #[.int .i64 x0, .int .i64 x1, .string x2, .slice x3 x4 x5, .slice x6 x7 x8] 26) = W1) := ⟨_, rfl⟩
  have hA4 : Below w3.heap.size w3 W4 := by rw [← HW4.out]; exact below_alloc1 _ _
  have Hx : Hid (VarAt w W4 w3.heap.size x0 x1 x2 x3 x4 x5 x6 x7 x8 11 X) := by rw [← HW4.out]; exact VarAt.new hu3
  clear hu3
  go_wp2_with fail
  rw [HW4.out]
  clear HW4
  clear xa0 xa1 xa2 xa3 xa4 xal xb0 xb1 xb2 xb3 xb4 xbl
  replace Ha := hide (Ha.out.go hA4)
  replace Hb := hide (Hb.out.go hA4)
  replace HE := hide (HE.out.go hA4)
  replace hBy := hBy.wider (r' := _) (fun b hb => hA4.block b hb) hA4.size
  clear hA4
  have hc := addS (d := 9) Ha.out.val Hb.out.val hzA hzB HE.out.le
  rw [hX.out] at hc; dsimp only at hc
  refine hc.mono ?_
  clear hc
  rintro e w5 ⟨y0, y1, y2, y3, y4, y5, y6, y7, y8, rfl, hu5, hb5⟩
  replace Ha := hide (Ha.out.go hb5)
  replace Hb := hide (Hb.out.go hb5)
  replace Hx := hide (Hx.out.go hb5)
  replace HE := hide (HE.out.go hb5)
  replace hBy := hBy.wider (r' := _) (fun b hb => hb5.block b hb) hb5.size
  clear hb5
  obtain ⟨xx0, xx1, xx2, xx3, xx4⟩ := Hx.out.blk.cell
  have xxl := Hx.out.blk.lt
  obtain ⟨W6, HW6⟩ : ∃ W1, Hid (w5.alloc (.cells #[.int .i64 y0, .int .i64 y1, .string y2, .slice y3 y4 y5, .slice y6 y7 y8] 26) = W1) := ⟨_, rfl⟩
  have hA6 : Below w5.heap.size w5 W6 := by rw [← HW6.out]; exact below_alloc1 _ _
  have Hy : Hid (VarAt w W6 w5.heap.size y0 y1 y2 y3 y4 y5 y6 y7 y8 11 X) := by rw [← HW6.out]; exact VarAt.new hu5
  clear hu5
  go_wp2_with fail
  rw [HW6.out]
  clear HW6
  clear xx0 xx1 xx2 xx3 xx4 xxl
  replace Ha := hide (Ha.out.go hA6)
  replace Hb := hide (Hb.out.go hA6)
  replace Hx := hide (Hx.out.go hA6)
  replace HE := hide (HE.out.go hA6)
  replace hBy := hBy.wider (r' := _) (fun b hb => hA6.block b hb) hA6.size
  clear hA6
  have hc := samE Hx.out.val Hy.out.val hzX
  refine hc.mono ?_
  clear hc
  rintro e w7 ⟨rfl, hb7⟩
  replace Ha := hide (Ha.out.go hb7)
  replace Hb := hide (Hb.out.go hb7)
  replace Hx := hide (Hx.out.go hb7)
  replace Hy := hide (Hy.out.go hb7)
  replace HE := hide (HE.out.go hb7)
  replace hBy := hBy.wider (r' := _) (fun b hb => hb7.block b hb) hb7.size
  clear hb7
  clear Hy
  obtain ⟨xa0, xa1, xa2, xa3, xa4⟩ := Ha.out.blk.cell
  have xal := Ha.out.blk.lt
  go_wp2_with fail
  clear xa0 xa1 xa2 xa3 xa4 xal
  have hc := okS_at Ha.out.val hzA
  refine hc.mono ?_
  clear hc
  rintro e w8 ⟨rfl, hb8⟩
  replace Ha := hide (Ha.out.go hb8)
  replace Hb := hide (Hb.out.go hb8)
  replace Hx := hide (Hx.out.go hb8)
  replace HE := hide (HE.out.go hb8)
  replace hBy := hBy.wider (r' := _) (fun b hb => hb8.block b hb) hb8.size
  clear hb8
  cases hok : okT 11 A with
  | false =>
    cases o1 with
    | false =>
      have hX0 : X = zeroT 10 := by have h := add_no (d := 10) (a := A) (b := B) (by rw [hX.out]); rw [hX.out] at h; exact h
      have hx0 : x0 = 0 := by have h := (val_parts (d := 10) Hx.out.val).1; rw [hX0] at h; exact h
      subst hx0
      obtain ⟨xx0, xx1, xx2, xx3, xx4⟩ := Hx.out.blk.cell
      have xxl := Hx.out.blk.lt
      go_wp2_with fail
      go_ret
      exact ⟨rfl, HE.out.bel⟩
    | true =>
      obtain ⟨xx0, xx1, xx2, xx3, xx4⟩ := Hx.out.blk.cell
      have xxl := Hx.out.blk.lt
      go_wp2_with fail
      clear xx0 xx1 xx2 xx3 xx4 xxl
      refine (drawPartAdd_any a' n' cap' _ hcap' hBy).mono ?_
      rintro e wD ⟨u, D, u2, C3, rfl, hd, _, hc, hc1, hbD⟩
      obtain ⟨d0, d1, d2, d3, d4, d5, d6, d7, d8, rfl⟩ := hd.shape
      obtain ⟨c0, c1, c2, c3, c4, c5, c6, c7, c8, rfl⟩ := hc.shape
      replace hd := freshP_wide hd HE.out.le
      replace hc := freshP_wide hc HE.out.le
      have hzC : wtT 11 C3 ≤ 10000 := by omega
      clear hc1 hBy
      replace Ha := hide (Ha.out.go hbD)
      replace Hb := hide (Hb.out.go hbD)
      replace Hx := hide (Hx.out.go hbD)
      replace HE := hide (HE.out.go hbD)
      clear hbD
      obtain ⟨xx0, xx1, xx2, xx3, xx4⟩ := Hx.out.blk.cell
      have xxl := Hx.out.blk.lt
      obtain ⟨W9, HW9⟩ : ∃ W1, Hid ((wD.alloc (.cells #[.int .i64 d0, .int .i64 d1, .string d2, .slice d3 d4 d5, .slice d6 d7 d8] 26)).alloc (.cells #[.int .i64 c0, .int .i64 c1, .string c2, .slice c3 c4 c5, .slice c6 c7 c8] 26) = W1) := ⟨_, rfl⟩
      obtain ⟨Hd, Hc, hA9⟩ := VarAt.two hd hc
      rw [HW9.out] at Hd Hc hA9
      replace Hd := hide Hd
      replace Hc := hide Hc
      clear hd hc
      go_wp2_with fail
      rw [HW9.out]
      clear HW9
      clear xx0 xx1 xx2 xx3 xx4 xxl
      replace Ha := hide (Ha.out.go hA9)
      replace Hb := hide (Hb.out.go hA9)
      replace Hx := hide (Hx.out.go hA9)
      replace HE := hide (HE.out.go hA9)
      clear hA9
      clear Hd
      obtain ⟨xx0, xx1, xx2, xx3, xx4⟩ := Hx.out.blk.cell
      have xxl := Hx.out.blk.lt
      obtain ⟨xc0, xc1, xc2, xc3, xc4⟩ := Hc.out.blk.cell
      have xcl := Hc.out.blk.lt
      obtain ⟨⟨P, o2⟩, hP⟩ : ∃ r, Hid (partAddT 10 X C3 = r) := ⟨_, rfl⟩
      have hzP : wtT 11 P ≤ 10000 := by have := wt_add X C3; rw [hP.out] at this; exact this
      clear xx0 xx1 xx2 xx3 xx4 xxl xc0 xc1 xc2 xc3 xc4 xcl
      have hc := addI (d := 10) Hx.out.val Hc.out.val HE.out.err HE.out.le
      rw [hP.out] at hc; dsimp only at hc
      refine hc.mono ?_
      clear hc
      rintro e w10 ⟨p0, p1, p2, p3, p4, p5, p6, p7, p8, rfl, hu10, hb10⟩
      replace Ha := hide (Ha.out.go hb10)
      replace Hb := hide (Hb.out.go hb10)
      replace Hx := hide (Hx.out.go hb10)
      replace Hc := hide (Hc.out.go hb10)
      replace HE := hide (HE.out.go hb10)
      clear hb10
      obtain ⟨xb0, xb1, xb2, xb3, xb4⟩ := Hb.out.blk.cell
      have xbl := Hb.out.blk.lt
      obtain ⟨xc0, xc1, xc2, xc3, xc4⟩ := Hc.out.blk.cell
      have xcl := Hc.out.blk.lt
      obtain ⟨W11, HW11⟩ : ∃ W1, Hid (w10.alloc (.cells #[.int .i64 p0, .int .i64 p1, .string p2, .slice p3 p4 p5, .slice p6 p7 p8] 26) = W1) := ⟨_, rfl⟩
      have hA11 : Below w10.heap.size w10 W11 := by rw [← HW11.out]; exact below_alloc1 _ _
      have Hp : Hid (VarAt w W11 w10.heap.size p0 p1 p2 p3 p4 p5 p6 p7 p8 11 P) := by rw [← HW11.out]; exact VarAt.new hu10
      clear hu10
      go_wp2_with fail
      rw [HW11.out]
      clear HW11
      clear xb0 xb1 xb2 xb3 xb4 xbl xc0 xc1 xc2 xc3 xc4 xcl
      replace Ha := hide (Ha.out.go hA11)
      replace Hb := hide (Hb.out.go hA11)
      replace Hx := hide (Hx.out.go hA11)
      replace Hc := hide (Hc.out.go hA11)
      replace HE := hide (HE.out.go hA11)
      clear hA11
      obtain ⟨⟨Q, o3⟩, hQ⟩ : ∃ r, Hid (partAddT 10 B C3 = r) := ⟨_, rfl⟩
      have hc := addI (d := 10) Hb.out.val Hc.out.val HE.out.err HE.out.le
      rw [hQ.out] at hc; dsimp only at hc
      refine hc.mono ?_
      clear hc
      rintro e w12 ⟨q0, q1, q2, q3, q4, q5, q6, q7, q8, rfl, hu12, hb12⟩
      replace Ha := hide (Ha.out.go hb12)
      replace Hb := hide (Hb.out.go hb12)
      replace Hx := hide (Hx.out.go hb12)
      replace Hc := hide (Hc.out.go hb12)
      replace Hp := hide (Hp.out.go hb12)
      replace HE := hide (HE.out.go hb12)
      clear hb12
      clear Hc
      obtain ⟨xa0, xa1, xa2, xa3, xa4⟩ := Ha.out.blk.cell
      have xal := Ha.out.blk.lt
      obtain ⟨W13, HW13⟩ : ∃ W1, Hid (w12.alloc (.cells #[.int .i64 q0, .int .i64 q1, .string q2, .slice q3 q4 q5, .slice q6 q7 q8] 26) = W1) := ⟨_, rfl⟩
      have hA13 : Below w12.heap.size w12 W13 := by rw [← HW13.out]; exact below_alloc1 _ _
      have Hq : Hid (VarAt w W13 w12.heap.size q0 q1 q2 q3 q4 q5 q6 q7 q8 11 Q) := by rw [← HW13.out]; exact VarAt.new hu12
      clear hu12
      go_wp2_with fail
      rw [HW13.out]
      clear HW13
      clear xa0 xa1 xa2 xa3 xa4 xal
      replace Ha := hide (Ha.out.go hA13)
      replace Hb := hide (Hb.out.go hA13)
      replace Hx := hide (Hx.out.go hA13)
      replace Hp := hide (Hp.out.go hA13)
      replace HE := hide (HE.out.go hA13)
      clear hA13
      obtain ⟨xa0, xa1, xa2, xa3, xa4⟩ := Ha.out.blk.cell
      have xal := Ha.out.blk.lt
      obtain ⟨xq0, xq1, xq2, xq3, xq4⟩ := Hq.out.blk.cell
      have xql := Hq.out.blk.lt
      obtain ⟨⟨R, o4⟩, hR⟩ : ∃ r, Hid (partAddT 10 A Q = r) := ⟨_, rfl⟩
      clear xa0 xa1 xa2 xa3 xa4 xal xq0 xq1 xq2 xq3 xq4 xql
      have hc := addI (d := 10) Ha.out.val Hq.out.val HE.out.err HE.out.le
      rw [hR.out] at hc; dsimp only at hc
      refine hc.mono ?_
      clear hc
      rintro e w14 ⟨r0, r1, r2, r3, r4, r5, r6, r7, r8, rfl, hu14, hb14⟩
      replace Ha := hide (Ha.out.go hb14)
      replace Hb := hide (Hb.out.go hb14)
      replace Hx := hide (Hx.out.go hb14)
      replace Hp := hide (Hp.out.go hb14)
      replace Hq := hide (Hq.out.go hb14)
      replace HE := hide (HE.out.go hb14)
      clear hb14
      clear Hq
      obtain ⟨xx0, xx1, xx2, xx3, xx4⟩ := Hx.out.blk.cell
      have xxl := Hx.out.blk.lt
      obtain ⟨W15, HW15⟩ : ∃ W1, Hid (w14.alloc (.cells #[.int .i64 r0, .int .i64 r1, .string r2, .slice r3 r4 r5, .slice r6 r7 r8] 26) = W1) := ⟨_, rfl⟩
      have hA15 : Below w14.heap.size w14 W15 := by rw [← HW15.out]; exact below_alloc1 _ _
      have Hr : Hid (VarAt w W15 w14.heap.size r0 r1 r2 r3 r4 r5 r6 r7 r8 11 R) := by rw [← HW15.out]; exact VarAt.new hu14
      clear hu14
      go_wp2_with fail
      rw [HW15.out]
      clear HW15
      clear xx0 xx1 xx2 xx3 xx4 xxl
      replace Ha := hide (Ha.out.go hA15)
      replace Hb := hide (Hb.out.go hA15)
      replace Hx := hide (Hx.out.go hA15)
      replace Hp := hide (Hp.out.go hA15)
      replace HE := hide (HE.out.go hA15)
      clear hA15
      have okX : okT 11 X = true := by have h := okT_partAdd 10 A B; rw [hX.out] at h; exact h
      have hc := okI_at Hx.out.val
      rw [okX] at hc
      refine hc.mono ?_
      clear hc
      rintro e w16 ⟨rfl, hb16⟩
      replace Ha := hide (Ha.out.go hb16)
      replace Hb := hide (Hb.out.go hb16)
      replace Hx := hide (Hx.out.go hb16)
      replace Hp := hide (Hp.out.go hb16)
      replace Hr := hide (Hr.out.go hb16)
      replace HE := hide (HE.out.go hb16)
      clear hb16
      have hka : a0 = Nd.kind A := (val_parts (d := 10) Ha.out.val).1
      have hkb : b0 = Nd.kind B := (val_parts (d := 10) Hb.out.val).1
      have hna : a1 = Nd.num A := (val_parts (d := 10) Ha.out.val).2.1
      have hnb : b1 = Nd.num B := (val_parts (d := 10) Hb.out.val).2.1
      have hnx : x1 = Nd.num X := (val_parts (d := 10) Hx.out.val).2.1
      have hall : a0 ≠ 3 ∨ (a0 = 3 ∧ b0 ≠ 3) ∨ (a0 = 3 ∧ b0 = 3 ∧ x1 = wrap64 (a1 + b1)) := by
        by_cases h3 : a0 = 3
        · by_cases h4 : b0 = 3
          · refine Or.inr (Or.inr ⟨h3, h4, ?_⟩)
            have hadd := add_num (d := 10) (a := A) (b := B) (by rw [hX.out]) (by rw [← hka, h3]) (by rw [← hkb, h4])
            obtain ⟨okA, okB, _⟩ := add_ok (d := 10) (a := A) (b := B) (by rw [hX.out])
            have ba := num_bounds okA (by rw [← hka, h3])
            have bb := num_bounds okB (by rw [← hkb, h4])
            rw [hX.out] at hadd
            rw [hnx, hna, hnb]
            have hadd : Nd.num X = Nd.num A + Nd.num B := hadd
            unfold wrap64
            omega
          · exact Or.inr (Or.inl ⟨h3, h4⟩)
        · exact Or.inl h3
      clear hka hkb hna hnb hnx okX
      have HALL := hide hall
      clear hall
      by_cases h234 : o2 = true ∧ o3 = true ∧ o4 = true
      ·
        obtain ⟨rfl, rfl, rfl⟩ := h234
        have hPR : P = R := by have h := add_assoc (d := 10) (a := A) (b := B) (c := C3) (by rw [hX.out]) (by rw [hX.out, hP.out]) (by rw [hQ.out]) (by rw [hQ.out, hR.out]); rw [hX.out, hQ.out, hP.out, hR.out] at h; exact h
        subst hPR
        obtain ⟨xp0, xp1, xp2, xp3, xp4⟩ := Hp.out.blk.cell
        have xpl := Hp.out.blk.lt
        obtain ⟨xr0, xr1, xr2, xr3, xr4⟩ := Hr.out.blk.cell
        have xrl := Hr.out.blk.lt
        obtain ⟨xa0, xa1, xa2, xa3, xa4⟩ := Ha.out.blk.cell
        have xal := Ha.out.blk.lt
        obtain ⟨xb0, xb1, xb2, xb3, xb4⟩ := Hb.out.blk.cell
        have xbl := Hb.out.blk.lt
        obtain ⟨xx0, xx1, xx2, xx3, xx4⟩ := Hx.out.blk.cell
        have xxl := Hx.out.blk.lt
        go_wp2_with fail
        clear xp0 xp1 xp2 xp3 xp4 xpl xr0 xr1 xr2 xr3 xr4 xrl xa0 xa1 xa2 xa3 xa4 xal xb0 xb1 xb2 xb3 xb4 xbl xx0 xx1 xx2 xx3 xx4 xxl
        have hc := samE Hp.out.val Hr.out.val hzP
        refine hc.mono ?_
        clear hc
        rintro e w17 ⟨rfl, hb17⟩
        replace Ha := hide (Ha.out.go hb17)
        replace Hb := hide (Hb.out.go hb17)
        replace Hx := hide (Hx.out.go hb17)
        replace Hp := hide (Hp.out.go hb17)
        replace Hr := hide (Hr.out.go hb17)
        replace HE := hide (HE.out.go hb17)
        clear hb17
        rcases HALL.out with h3 | ⟨h3, h4⟩ | ⟨h3, h4, h5⟩
        ·
          obtain ⟨xa0, xa1, xa2, xa3, xa4⟩ := Ha.out.blk.cell
          have xal := Ha.out.blk.lt
          obtain ⟨xb0, xb1, xb2, xb3, xb4⟩ := Hb.out.blk.cell
          have xbl := Hb.out.blk.lt
          obtain ⟨xx0, xx1, xx2, xx3, xx4⟩ := Hx.out.blk.cell
          have xxl := Hx.out.blk.lt
          have h3b : (a0 != 3) = true := by simpa using h3
          clear HALL h3
          go_wp2_with fail
          go_ret
          exact ⟨rfl, HE.out.bel⟩
        ·
          obtain ⟨xa0, xa1, xa2, xa3, xa4⟩ := Ha.out.blk.cell
          have xal := Ha.out.blk.lt
          obtain ⟨xb0, xb1, xb2, xb3, xb4⟩ := Hb.out.blk.cell
          have xbl := Hb.out.blk.lt
          obtain ⟨xx0, xx1, xx2, xx3, xx4⟩ := Hx.out.blk.cell
          have xxl := Hx.out.blk.lt
          have h3b : (a0 != 3) = false := by simpa using h3
          have h4b : (b0 != 3) = true := by simpa using h4
          clear HALL h3 h4
          go_wp2_with fail
          go_ret
          exact ⟨rfl, HE.out.bel⟩
        ·
          obtain ⟨xa0, xa1, xa2, xa3, xa4⟩ := Ha.out.blk.cell
          have xal := Ha.out.blk.lt
          obtain ⟨xb0, xb1, xb2, xb3, xb4⟩ := Hb.out.blk.cell
          have xbl := Hb.out.blk.lt
          obtain ⟨xx0, xx1, xx2, xx3, xx4⟩ := Hx.out.blk.cell
          have xxl := Hx.out.blk.lt
          have h3b : (a0 != 3) = false := by simpa using h3
          have h4b : (b0 != 3) = false := by simpa using h4
          have h5b : (x1 == wrap64 (a1 + b1)) = true := by rw [h5]; simp
          clear HALL h3 h4 h5
          go_wp2_with fail
          go_ret
          exact ⟨rfl, HE.out.bel⟩
      ·
        rcases HALL.out with h3 | ⟨h3, h4⟩ | ⟨h3, h4, h5⟩
        ·
          obtain ⟨xa0, xa1, xa2, xa3, xa4⟩ := Ha.out.blk.cell
          have xal := Ha.out.blk.lt
          obtain ⟨xb0, xb1, xb2, xb3, xb4⟩ := Hb.out.blk.cell
          have xbl := Hb.out.blk.lt
          obtain ⟨xx0, xx1, xx2, xx3, xx4⟩ := Hx.out.blk.cell
          have xxl := Hx.out.blk.lt
          obtain ⟨xp0, xp1, xp2, xp3, xp4⟩ := Hp.out.blk.cell
          have xpl := Hp.out.blk.lt
          obtain ⟨xr0, xr1, xr2, xr3, xr4⟩ := Hr.out.blk.cell
          have xrl := Hr.out.blk.lt
          have h3b : (a0 != 3) = true := by simpa using h3
          clear HALL h3
          cases o2 <;> cases o3 <;> cases o4 <;> first | (exact absurd ⟨rfl, rfl, rfl⟩ h234) | skip
          all_goals
            clear h234
            go_wp2_with fail
            go_ret
            exact ⟨rfl, HE.out.bel⟩
        ·
          obtain ⟨xa0, xa1, xa2, xa3, xa4⟩ := Ha.out.blk.cell
          have xal := Ha.out.blk.lt
          obtain ⟨xb0, xb1, xb2, xb3, xb4⟩ := Hb.out.blk.cell
          have xbl := Hb.out.blk.lt
          obtain ⟨xx0, xx1, xx2, xx3, xx4⟩ := Hx.out.blk.cell
          have xxl := Hx.out.blk.lt
          obtain ⟨xp0, xp1, xp2, xp3, xp4⟩ := Hp.out.blk.cell
          have xpl := Hp.out.blk.lt
          obtain ⟨xr0, xr1, xr2, xr3, xr4⟩ := Hr.out.blk.cell
          have xrl := Hr.out.blk.lt
          have h3b : (a0 != 3) = false := by simpa using h3
          have h4b : (b0 != 3) = true := by simpa using h4
          clear HALL h3 h4
          cases o2 <;> cases o3 <;> cases o4 <;> first | (exact absurd ⟨rfl, rfl, rfl⟩ h234) | skip
          all_goals
            clear h234
            go_wp2_with fail
            go_ret
            exact ⟨rfl, HE.out.bel⟩
        ·
          obtain ⟨xa0, xa1, xa2, xa3, xa4⟩ := Ha.out.blk.cell
          have xal := Ha.out.blk.lt
          obtain ⟨xb0, xb1, xb2, xb3, xb4⟩ := Hb.out.blk.cell
          have xbl := Hb.out.blk.lt
          obtain ⟨xx0, xx1, xx2, xx3, xx4⟩ := Hx.out.blk.cell
          have xxl := Hx.out.blk.lt
          obtain ⟨xp0, xp1, xp2, xp3, xp4⟩ := Hp.out.blk.cell
          have xpl := Hp.out.blk.lt
          obtain ⟨xr0, xr1, xr2, xr3, xr4⟩ := Hr.out.blk.cell
          have xrl := Hr.out.blk.lt
          have h3b : (a0 != 3) = false := by simpa using h3
          have h4b : (b0 != 3) = false := by simpa using h4
          have h5b : (x1 == wrap64 (a1 + b1)) = true := by rw [h5]; simp
          clear HALL h3 h4 h5
          cases o2 <;> cases o3 <;> cases o4 <;> first | (exact absurd ⟨rfl, rfl, rfl⟩ h234) | skip
          all_goals
            clear h234
            go_wp2_with fail
            go_ret
            exact ⟨rfl, HE.out.bel⟩
  | true =>
    obtain ⟨xa0, xa1, xa2, xa3, xa4⟩ := Ha.out.blk.cell
    have xal := Ha.out.blk.lt
    go_wp2_with fail
    clear xa0 xa1 xa2 xa3 xa4 xal
    have hc := addI (d := 10) Ha.out.val (zero_at _ _ 10) HE.out.err HE.out.le
    rw [add_none_right hok] at hc; dsimp only at hc
    refine hc.mono ?_
    clear hc
    rintro e w9 ⟨z0, z1, z2, z3, z4, z5, z6, z7, z8, rfl, hu9, hb9⟩
    replace Ha := hide (Ha.out.go hb9)
    replace Hb := hide (Hb.out.go hb9)
    replace Hx := hide (Hx.out.go hb9)
    replace HE := hide (HE.out.go hb9)
    replace hBy := hBy.wider (r' := _) (fun b hb => hb9.block b hb) hb9.size
    clear hb9
    obtain ⟨xa0, xa1, xa2, xa3, xa4⟩ := Ha.out.blk.cell
    have xal := Ha.out.blk.lt
    obtain ⟨W10, HW10⟩ : ∃ W1, Hid (w9.alloc (.cells #[.int .i64 z0, .int .i64 z1, .string z2, .slice z3 z4 z5, .slice z6 z7 z8] 26) = W1) := ⟨_, rfl⟩
    have hA10 : Below w9.heap.size w9 W10 := by rw [← HW10.out]; exact below_alloc1 _ _
    have Hz : Hid (VarAt w W10 w9.heap.size z0 z1 z2 z3 z4 z5 z6 z7 z8 11 A) := by rw [← HW10.out]; exact VarAt.new hu9
    clear hu9
    go_wp2_with fail
    rw [HW10.out]
    clear HW10
    clear xa0 xa1 xa2 xa3 xa4 xal
    replace Ha := hide (Ha.out.go hA10)
    replace Hb := hide (Hb.out.go hA10)
    replace Hx := hide (Hx.out.go hA10)
    replace HE := hide (HE.out.go hA10)
    replace hBy := hBy.wider (r' := _) (fun b hb => hA10.block b hb) hA10.size
    clear hA10
    have hc := addI (d := 10) (zero_at _ _ 10) Ha.out.val HE.out.err HE.out.le
    rw [add_none_left hok] at hc; dsimp only at hc
    refine hc.mono ?_
    clear hc
    rintro e w11 ⟨u0, u1, u2, u3, u4, u5, u6, u7, u8, rfl, hu11, hb11⟩
    replace Ha := hide (Ha.out.go hb11)
    replace Hb := hide (Hb.out.go hb11)
    replace Hx := hide (Hx.out.go hb11)
    replace Hz := hide (Hz.out.go hb11)
    replace HE := hide (HE.out.go hb11)
    replace hBy := hBy.wider (r' := _) (fun b hb => hb11.block b hb) hb11.size
    clear hb11
    obtain ⟨xa0, xa1, xa2, xa3, xa4⟩ := Ha.out.blk.cell
    have xal := Ha.out.blk.lt
    obtain ⟨xz0, xz1, xz2, xz3, xz4⟩ := Hz.out.blk.cell
    have xzl := Hz.out.blk.lt
    obtain ⟨W12, HW12⟩ : ∃ W1, Hid (w11.alloc (.cells #[.int .i64 u0, .int .i64 u1, .string u2, .slice u3 u4 u5, .slice u6 u7 u8] 26) = W1) := ⟨_, rfl⟩
    have hA12 : Below w11.heap.size w11 W12 := by rw [← HW12.out]; exact below_alloc1 _ _
    have Hu : Hid (VarAt w W12 w11.heap.size u0 u1 u2 u3 u4 u5 u6 u7 u8 11 A) := by rw [← HW12.out]; exact VarAt.new hu11
    clear hu11
    go_wp2_with fail
    rw [HW12.out]
    clear HW12
    clear xa0 xa1 xa2 xa3 xa4 xal xz0 xz1 xz2 xz3 xz4 xzl
    replace Ha := hide (Ha.out.go hA12)
    replace Hb := hide (Hb.out.go hA12)
    replace Hx := hide (Hx.out.go hA12)
    replace Hz := hide (Hz.out.go hA12)
    replace HE := hide (HE.out.go hA12)
    replace hBy := hBy.wider (r' := _) (fun b hb => hA12.block b hb) hA12.size
    clear hA12
    have hc := samE Hz.out.val Ha.out.val hzA
    refine hc.mono ?_
    clear hc
    rintro e w13 ⟨rfl, hb13⟩
    replace Ha := hide (Ha.out.go hb13)
    replace Hb := hide (Hb.out.go hb13)
    replace Hx := hide (Hx.out.go hb13)
    replace Hz := hide (Hz.out.go hb13)
    replace Hu := hide (Hu.out.go hb13)
    replace HE := hide (HE.out.go hb13)
    replace hBy := hBy.wider (r' := _) (fun b hb => hb13.block b hb) hb13.size
    clear hb13
    obtain ⟨xa0, xa1, xa2, xa3, xa4⟩ := Ha.out.blk.cell
    have xal := Ha.out.blk.lt
    obtain ⟨xu0, xu1, xu2, xu3, xu4⟩ := Hu.out.blk.cell
    have xul := Hu.out.blk.lt
    go_wp2_with fail
    clear xa0 xa1 xa2 xa3 xa4 xal xu0 xu1 xu2 xu3 xu4 xul
    have hc := samE Hu.out.val Ha.out.val hzA
    refine hc.mono ?_
    clear hc
    rintro e w14 ⟨rfl, hb14⟩
    replace Ha := hide (Ha.out.go hb14)
    replace Hb := hide (Hb.out.go hb14)
    replace Hx := hide (Hx.out.go hb14)
    replace Hz := hide (Hz.out.go hb14)
    replace Hu := hide (Hu.out.go hb14)
    replace HE := hide (HE.out.go hb14)
    replace hBy := hBy.wider (r' := _) (fun b hb => hb14.block b hb) hb14.size
    clear hb14
    clear Hu
    clear Hz
    cases o1 with
    | false =>
      have hX0 : X = zeroT 10 := by have h := add_no (d := 10) (a := A) (b := B) (by rw [hX.out]); rw [hX.out] at h; exact h
      have hx0 : x0 = 0 := by have h := (val_parts (d := 10) Hx.out.val).1; rw [hX0] at h; exact h
      subst hx0
      obtain ⟨xx0, xx1, xx2, xx3, xx4⟩ := Hx.out.blk.cell
      have xxl := Hx.out.blk.lt
      go_wp2_with fail
      go_ret
      exact ⟨rfl, HE.out.bel⟩
    | true =>
      obtain ⟨xx0, xx1, xx2, xx3, xx4⟩ := Hx.out.blk.cell
      have xxl := Hx.out.blk.lt
      go_wp2_with fail
      clear xx0 xx1 xx2 xx3 xx4 xxl
      refine (drawPartAdd_any a' n' cap' _ hcap' hBy).mono ?_
      rintro e wD ⟨u, D, u2, C3, rfl, hd, _, hc, hc1, hbD⟩
      obtain ⟨d0, d1, d2, d3, d4, d5, d6, d7, d8, rfl⟩ := hd.shape
      obtain ⟨c0, c1, c2, c3, c4, c5, c6, c7, c8, rfl⟩ := hc.shape
      replace hd := freshP_wide hd HE.out.le
      replace hc := freshP_wide hc HE.out.le
      have hzC : wtT 11 C3 ≤ 10000 := by omega
      clear hc1 hBy
      replace Ha := hide (Ha.out.go hbD)
      replace Hb := hide (Hb.out.go hbD)
      replace Hx := hide (Hx.out.go hbD)
      replace HE := hide (HE.out.go hbD)
      clear hbD
      obtain ⟨xx0, xx1, xx2, xx3, xx4⟩ := Hx.out.blk.cell
      have xxl := Hx.out.blk.lt
      obtain ⟨W15, HW15⟩ : ∃ W1, Hid ((wD.alloc (.cells #[.int .i64 d0, .int .i64 d1, .string d2, .slice d3 d4 d5, .slice d6 d7 d8] 26)).alloc (.cells #[.int .i64 c0, .int .i64 c1, .string c2, .slice c3 c4 c5, .slice c6 c7 c8] 26) = W1) := ⟨_, rfl⟩
      obtain ⟨Hd, Hc, hA15⟩ := VarAt.two hd hc
      rw [HW15.out] at Hd Hc hA15
      replace Hd := hide Hd
      replace Hc := hide Hc
      clear hd hc
      go_wp2_with fail
      rw [HW15.out]
      clear HW15
      clear xx0 xx1 xx2 xx3 xx4 xxl
      replace Ha := hide (Ha.out.go hA15)
      replace Hb := hide (Hb.out.go hA15)
      replace Hx := hide (Hx.out.go hA15)
      replace HE := hide (HE.out.go hA15)
      clear hA15
      clear Hd
      obtain ⟨xx0, xx1, xx2, xx3, xx4⟩ := Hx.out.blk.cell
      have xxl := Hx.out.blk.lt
      obtain ⟨xc0, xc1, xc2, xc3, xc4⟩ := Hc.out.blk.cell
      have xcl := Hc.out.blk.lt
      obtain ⟨⟨P, o2⟩, hP⟩ : ∃ r, Hid (partAddT 10 X C3 = r) := ⟨_, rfl⟩
      have hzP : wtT 11 P ≤ 10000 := by have := wt_add X C3; rw [hP.out] at this; exact this
      clear xx0 xx1 xx2 xx3 xx4 xxl xc0 xc1 xc2 xc3 xc4 xcl
      have hc := addI (d := 10) Hx.out.val Hc.out.val HE.out.err HE.out.le
      rw [hP.out] at hc; dsimp only at hc
      refine hc.mono ?_
      clear hc
      rintro e w16 ⟨p0, p1, p2, p3, p4, p5, p6, p7, p8, rfl, hu16, hb16⟩
      replace Ha := hide (Ha.out.go hb16)
      replace Hb := hide (Hb.out.go hb16)
      replace Hx := hide (Hx.out.go hb16)
      replace Hc := hide (Hc.out.go hb16)
      replace HE := hide (HE.out.go hb16)
      clear hb16
      obtain ⟨xb0, xb1, xb2, xb3, xb4⟩ := Hb.out.blk.cell
      have xbl := Hb.out.blk.lt
      obtain ⟨xc0, xc1, xc2, xc3, xc4⟩ := Hc.out.blk.cell
      have xcl := Hc.out.blk.lt
      obtain ⟨W17, HW17⟩ : ∃ W1, Hid (w16.alloc (.cells #[.int .i64 p0, .int .i64 p1, .string p2, .slice p3 p4 p5, .slice p6 p7 p8] 26) = W1) := ⟨_, rfl⟩
      have hA17 : Below w16.heap.size w16 W17 := by rw [← HW17.out]; exact below_alloc1 _ _
      have Hp : Hid (VarAt w W17 w16.heap.size p0 p1 p2 p3 p4 p5 p6 p7 p8 11 P) := by rw [← HW17.out]; exact VarAt.new hu16
      clear hu16
      go_wp2_with fail
      rw [HW17.out]
      clear HW17
      clear xb0 xb1 xb2 xb3 xb4 xbl xc0 xc1 xc2 xc3 xc4 xcl
      replace Ha := hide (Ha.out.go hA17)
      replace Hb := hide (Hb.out.go hA17)
      replace Hx := hide (Hx.out.go hA17)
      replace Hc := hide (Hc.out.go hA17)
      replace HE := hide (HE.out.go hA17)
      clear hA17
      obtain ⟨⟨Q, o3⟩, hQ⟩ : ∃ r, Hid (partAddT 10 B C3 = r) := ⟨_, rfl⟩
      have hc := addI (d := 10) Hb.out.val Hc.out.val HE.out.err HE.out.le
      rw [hQ.out] at hc; dsimp only at hc
      refine hc.mono ?_
      clear hc
      rintro e w18 ⟨q0, q1, q2, q3, q4, q5, q6, q7, q8, rfl, hu18, hb18⟩
      replace Ha := hide (Ha.out.go hb18)
      replace Hb := hide (Hb.out.go hb18)
      replace Hx := hide (Hx.out.go hb18)
      replace Hc := hide (Hc.out.go hb18)
      replace Hp := hide (Hp.out.go hb18)
      replace HE := hide (HE.out.go hb18)
      clear hb18
      clear Hc
      obtain ⟨xa0, xa1, xa2, xa3, xa4⟩ := Ha.out.blk.cell
      have xal := Ha.out.blk.lt
      obtain ⟨W19, HW19⟩ : ∃ W1, Hid (w18.alloc (.cells #[.int .i64 q0, .int .i64 q1, .string q2, .slice q3 q4 q5, .slice q6 q7 q8] 26) = W1) := ⟨_, rfl⟩
      have hA19 : Below w18.heap.size w18 W19 := by rw [← HW19.out]; exact below_alloc1 _ _
      have Hq : Hid (VarAt w W19 w18.heap.size q0 q1 q2 q3 q4 q5 q6 q7 q8 11 Q) := by rw [← HW19.out]; exact VarAt.new hu18
      clear hu18
      go_wp2_with fail
      rw [HW19.out]
      clear HW19
      clear xa0 xa1 xa2 xa3 xa4 xal
      replace Ha := hide (Ha.out.go hA19)
      replace Hb := hide (Hb.out.go hA19)
      replace Hx := hide (Hx.out.go hA19)
      replace Hp := hide (Hp.out.go hA19)
      replace HE := hide (HE.out.go hA19)
      clear hA19
      obtain ⟨xa0, xa1, xa2, xa3, xa4⟩ := Ha.out.blk.cell
      have xal := Ha.out.blk.lt
      obtain ⟨xq0, xq1, xq2, xq3, xq4⟩ := Hq.out.blk.cell
      have xql := Hq.out.blk.lt
      obtain ⟨⟨R, o4⟩, hR⟩ : ∃ r, Hid (partAddT 10 A Q = r) := ⟨_, rfl⟩
      clear xa0 xa1 xa2 xa3 xa4 xal xq0 xq1 xq2 xq3 xq4 xql
      have hc := addI (d := 10) Ha.out.val Hq.out.val HE.out.err HE.out.le
      rw [hR.out] at hc; dsimp only at hc
      refine hc.mono ?_
      clear hc
      rintro e w20 ⟨r0, r1, r2, r3, r4, r5, r6, r7, r8, rfl, hu20, hb20⟩
      replace Ha := hide (Ha.out.go hb20)
      replace Hb := hide (Hb.out.go hb20)
      replace Hx := hide (Hx.out.go hb20)
      replace Hp := hide (Hp.out.go hb20)
      replace Hq := hide (Hq.out.go hb20)
      replace HE := hide (HE.out.go hb20)
      clear hb20
      clear Hq
      obtain ⟨xx0, xx1, xx2, xx3, xx4⟩ := Hx.out.blk.cell
      have xxl := Hx.out.blk.lt
      obtain ⟨W21, HW21⟩ : ∃ W1, Hid (w20.alloc (.cells #[.int .i64 r0, .int .i64 r1, .string r2, .slice r3 r4 r5, .slice r6 r7 r8] 26) = W1) := ⟨_, rfl⟩
      have hA21 : Below w20.heap.size w20 W21 := by rw [← HW21.out]; exact below_alloc1 _ _
      have Hr : Hid (VarAt w W21 w20.heap.size r0 r1 r2 r3 r4 r5 r6 r7 r8 11 R) := by rw [← HW21.out]; exact VarAt.new hu20
      clear hu20
      go_wp2_with fail
      rw [HW21.out]
      clear HW21
      clear xx0 xx1 xx2 xx3 xx4 xxl
      replace Ha := hide (Ha.out.go hA21)
      replace Hb := hide (Hb.out.go hA21)
      replace Hx := hide (Hx.out.go hA21)
      replace Hp := hide (Hp.out.go hA21)
      replace HE := hide (HE.out.go hA21)
      clear hA21
      have okX : okT 11 X = true := by have h := okT_partAdd 10 A B; rw [hX.out] at h; exact h
      have hc := okI_at Hx.out.val
      rw [okX] at hc
      refine hc.mono ?_
      clear hc
      rintro e w22 ⟨rfl, hb22⟩
      replace Ha := hide (Ha.out.go hb22)
      replace Hb := hide (Hb.out.go hb22)
      replace Hx := hide (Hx.out.go hb22)
      replace Hp := hide (Hp.out.go hb22)
      replace Hr := hide (Hr.out.go hb22)
      replace HE := hide (HE.out.go hb22)
      clear hb22
      have hka : a0 = Nd.kind A := (val_parts (d := 10) Ha.out.val).1
      have hkb : b0 = Nd.kind B := (val_parts (d := 10) Hb.out.val).1
      have hna : a1 = Nd.num A := (val_parts (d := 10) Ha.out.val).2.1
      have hnb : b1 = Nd.num B := (val_parts (d := 10) Hb.out.val).2.1
      have hnx : x1 = Nd.num X := (val_parts (d := 10) Hx.out.val).2.1
      have hall : a0 ≠ 3 ∨ (a0 = 3 ∧ b0 ≠ 3) ∨ (a0 = 3 ∧ b0 = 3 ∧ x1 = wrap64 (a1 + b1)) := by
        by_cases h3 : a0 = 3
        · by_cases h4 : b0 = 3
          · refine Or.inr (Or.inr ⟨h3, h4, ?_⟩)
            have hadd := add_num (d := 10) (a := A) (b := B) (by rw [hX.out]) (by rw [← hka, h3]) (by rw [← hkb, h4])
            obtain ⟨okA, okB, _⟩ := add_ok (d := 10) (a := A) (b := B) (by rw [hX.out])
            have ba := num_bounds okA (by rw [← hka, h3])
            have bb := num_bounds okB (by rw [← hkb, h4])
            rw [hX.out] at hadd
            rw [hnx, hna, hnb]
            have hadd : Nd.num X = Nd.num A + Nd.num B := hadd
            unfold wrap64
            omega
          · exact Or.inr (Or.inl ⟨h3, h4⟩)
        · exact Or.inl h3
      clear hka hkb hna hnb hnx okX
      have HALL := hide hall
      clear hall
      by_cases h234 : o2 = true ∧ o3 = true ∧ o4 = true
      ·
        obtain ⟨rfl, rfl, rfl⟩ := h234
        have hPR : P = R := by have h := add_assoc (d := 10) (a := A) (b := B) (c := C3) (by rw [hX.out]) (by rw [hX.out, hP.out]) (by rw [hQ.out]) (by rw [hQ.out, hR.out]); rw [hX.out, hQ.out, hP.out, hR.out] at h; exact h
        subst hPR
        obtain ⟨xp0, xp1, xp2, xp3, xp4⟩ := Hp.out.blk.cell
        have xpl := Hp.out.blk.lt
        obtain ⟨xr0, xr1, xr2, xr3, xr4⟩ := Hr.out.blk.cell
        have xrl := Hr.out.blk.lt
        obtain ⟨xa0, xa1, xa2, xa3, xa4⟩ := Ha.out.blk.cell
        have xal := Ha.out.blk.lt
        obtain ⟨xb0, xb1, xb2, xb3, xb4⟩ := Hb.out.blk.cell
        have xbl := Hb.out.blk.lt
        obtain ⟨xx0, xx1, xx2, xx3, xx4⟩ := Hx.out.blk.cell
        have xxl := Hx.out.blk.lt
        go_wp2_with fail
        clear xp0 xp1 xp2 xp3 xp4 xpl xr0 xr1 xr2 xr3 xr4 xrl xa0 xa1 xa2 xa3 xa4 xal xb0 xb1 xb2 xb3 xb4 xbl xx0 xx1 xx2 xx3 xx4 xxl
        have hc := samE Hp.out.val Hr.out.val hzP
        refine hc.mono ?_
        clear hc
        rintro e w23 ⟨rfl, hb23⟩
        replace Ha := hide (Ha.out.go hb23)
        replace Hb := hide (Hb.out.go hb23)
        replace Hx := hide (Hx.out.go hb23)
        replace Hp := hide (Hp.out.go hb23)
        replace Hr := hide (Hr.out.go hb23)
        replace HE := hide (HE.out.go hb23)
        clear hb23
        rcases HALL.out with h3 | ⟨h3, h4⟩ | ⟨h3, h4, h5⟩
        ·
          obtain ⟨xa0, xa1, xa2, xa3, xa4⟩ := Ha.out.blk.cell
          have xal := Ha.out.blk.lt
          obtain ⟨xb0, xb1, xb2, xb3, xb4⟩ := Hb.out.blk.cell
          have xbl := Hb.out.blk.lt
          obtain ⟨xx0, xx1, xx2, xx3, xx4⟩ := Hx.out.blk.cell
          have xxl := Hx.out.blk.lt
          have h3b : (a0 != 3) = true := by simpa using h3
          clear HALL h3
          go_wp2_with fail
          go_ret
          exact ⟨rfl, HE.out.bel⟩
        ·
          obtain ⟨xa0, xa1, xa2, xa3, xa4⟩ := Ha.out.blk.cell
          have xal := Ha.out.blk.lt
          obtain ⟨xb0, xb1, xb2, xb3, xb4⟩ := Hb.out.blk.cell
          have xbl := Hb.out.blk.lt
          obtain ⟨xx0, xx1, xx2, xx3, xx4⟩ := Hx.out.blk.cell
          have xxl := Hx.out.blk.lt
          have h3b : (a0 != 3) = false := by simpa using h3
          have h4b : (b0 != 3) = true := by simpa using h4
          clear HALL h3 h4
          go_wp2_with fail
          go_ret
          exact ⟨rfl, HE.out.bel⟩
        ·
          obtain ⟨xa0, xa1, xa2, xa3, xa4⟩ := Ha.out.blk.cell
          have xal := Ha.out.blk.lt
          obtain ⟨xb0, xb1, xb2, xb3, xb4⟩ := Hb.out.blk.cell
          have xbl := Hb.out.blk.lt
          obtain ⟨xx0, xx1, xx2, xx3, xx4⟩ := Hx.out.blk.cell
          have xxl := Hx.out.blk.lt
          have h3b : (a0 != 3) = false := by simpa using h3
          have h4b : (b0 != 3) = false := by simpa using h4
          have h5b : (x1 == wrap64 (a1 + b1)) = true := by rw [h5]; simp
          clear HALL h3 h4 h5
          go_wp2_with fail
          go_ret
          exact ⟨rfl, HE.out.bel⟩
      ·
        rcases HALL.out with h3 | ⟨h3, h4⟩ | ⟨h3, h4, h5⟩
        ·
          obtain ⟨xa0, xa1, xa2, xa3, xa4⟩ := Ha.out.blk.cell
          have xal := Ha.out.blk.lt
          obtain ⟨xb0, xb1, xb2, xb3, xb4⟩ := Hb.out.blk.cell
          have xbl := Hb.out.blk.lt
          obtain ⟨xx0, xx1, xx2, xx3, xx4⟩ := Hx.out.blk.cell
          have xxl := Hx.out.blk.lt
          obtain ⟨xp0, xp1, xp2, xp3, xp4⟩ := Hp.out.blk.cell
          have xpl := Hp.out.blk.lt
          obtain ⟨xr0, xr1, xr2, xr3, xr4⟩ := Hr.out.blk.cell
          have xrl := Hr.out.blk.lt
          have h3b : (a0 != 3) = true := by simpa using h3
          clear HALL h3
          cases o2 <;> cases o3 <;> cases o4 <;> first | (exact absurd ⟨rfl, rfl, rfl⟩ h234) | skip
          all_goals
            clear h234
            go_wp2_with fail
            go_ret
            exact ⟨rfl, HE.out.bel⟩
        ·
          obtain ⟨xa0, xa1, xa2, xa3, xa4⟩ := Ha.out.blk.cell
          have xal := Ha.out.blk.lt
          obtain ⟨xb0, xb1, xb2, xb3, xb4⟩ := Hb.out.blk.cell
          have xbl := Hb.out.blk.lt
          obtain ⟨xx0, xx1, xx2, xx3, xx4⟩ := Hx.out.blk.cell
          have xxl := Hx.out.blk.lt
          obtain ⟨xp0, xp1, xp2, xp3, xp4⟩ := Hp.out.blk.cell
          have xpl := Hp.out.blk.lt
          obtain ⟨xr0, xr1, xr2, xr3, xr4⟩ := Hr.out.blk.cell
          have xrl := Hr.out.blk.lt
          have h3b : (a0 != 3) = false := by simpa using h3
          have h4b : (b0 != 3) = true := by simpa using h4
          clear HALL h3 h4
          cases o2 <;> cases o3 <;> cases o4 <;> first | (exact absurd ⟨rfl, rfl, rfl⟩ h234) | skip
          all_goals
            clear h234
            go_wp2_with fail
            go_ret
            exact ⟨rfl, HE.out.bel⟩
        ·
          obtain ⟨xa0, xa1, xa2, xa3, xa4⟩ := Ha.out.blk.cell
          have xal := Ha.out.blk.lt
          obtain ⟨xb0, xb1, xb2, xb3, xb4⟩ := Hb.out.blk.cell
          have xbl := Hb.out.blk.lt
          obtain ⟨xx0, xx1, xx2, xx3, xx4⟩ := Hx.out.blk.cell
          have xxl := Hx.out.blk.lt
          obtain ⟨xp0, xp1, xp2, xp3, xp4⟩ := Hp.out.blk.cell
          have xpl := Hp.out.blk.lt
          obtain ⟨xr0, xr1, xr2, xr3, xr4⟩ := Hr.out.blk.cell
          have xrl := Hr.out.blk.lt
          have h3b : (a0 != 3) = false := by simpa using h3
          have h4b : (b0 != 3) = false := by simpa using h4
          have h5b : (x1 == wrap64 (a1 + b1)) = true := by rw [h5]; simp
          clear HALL h3 h4 h5
          cases o2 <;> cases o3 <;> cases o4 <;> first | (exact absurd ⟨rfl, rfl, rfl⟩ h234) | skip
          all_goals
            clear h234
            go_wp2_with fail
            go_ret
            exact ⟨rfl, HE.out.bel⟩
end Go.Proofs.YtoangpfmjohhmaaGreatDoor
