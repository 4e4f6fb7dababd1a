/- Texts of the proof, put together by program: LFnPartNone. -/
import Derived.Test.YtgjahnkldobphaaGreatDoorP31
/- FnPartNone: for all bytes that lie in memory the law answers true. -/
namespace Go.Proofs.YtgjahnkldobphaaGreatDoor
open Go.RowKit Go.Deep

set_option maxRecDepth 100000 in
set_option maxHeartbeats 16000000 in
theorem lawFnPartNone (a : Option Addr) (n cap : Nat) (w : World) (hcap : n ≤ cap) (_hm : cap ≤ 9223372036854775807) (hB : BytesAt w.heap.size w a n) (hg : ErrType w) :
    Calls Tryz.prog 6 #[.slice a n cap] w fun e w' => e = .returned (.bool true) ∧ Below w.heap.size w w' := by
  by_cases hn : 1048576 < n
  · go_enter Tryz.func6, Tryz.ntmps6
    go_wp2_with fail
    go_ret
    exact ⟨rfl, Below.refl _ _⟩
  go_enter Tryz.func6, Tryz.ntmps6
  go_wp2_with fail
  refine (drawPartGet_any a n cap w hcap hB).mono ?_
  rintro e w1 ⟨u, tv, sk, rfl, hv, hv1, hsk, hb1⟩
  obtain ⟨v0, v1, v2, v3, v4, v5, v6, v7, v8, rfl⟩ := hv.shape
  have HE : Hid (Amid w w1) := ⟨hb1, hg.below hb1⟩
  have hBy := hB.wider (r' := w1.heap.size) (fun b hb => hb1.block b hb) hb1.size
  clear hb1 hB
  have hv12 := hv.upN 1
  have hz11 : wtT 11 tv ≤ 10000 := by omega
  have hz12 : wtT 12 (upN 11 1 tv) ≤ 10000 := Nat.le_trans (Nat.le_of_eq (wtT_upN 11 1 tv)) (by omega)
  obtain ⟨V, hV⟩ : ∃ V : Tr 12, V = upN 11 1 tv := ⟨_, rfl⟩
  replace hv12 : ValAt (FreshP w w1) w1 12 V (.agg #[.int .i64 v0, .int .i64 v1, .string v2, .slice v3 v4 v5, .slice v6 v7 v8]) := by rw [hV]; exact hv12
  rw [← hV] at hz12
  clear hV hv1
  have hsk' : sk.size < 281474976710656 := by omega
  have hkind : v0 = Nd.kind V := by have := (parts_of (d := 11) hv12).1; cases this; rfl
  have hK := hide hkind
  clear hkind
  obtain ⟨W2, HW2⟩ : ∃ W1, Hid (w1.alloc (.cells #[.int .i64 v0, .int .i64 v1, .string v2, .slice v3 v4 v5, .slice v6 v7 v8] 26) = W1) := ⟨_, rfl⟩
  have hA2 : Below w1.heap.size w1 W2 := by rw [← HW2.out]; exact below_alloc1 _ _
  have Hv : Hid (VarAt w W2 w1.heap.size v0 v1 v2 v3 v4 v5 v6 v7 v8 12 V) := by rw [← HW2.out]; exact VarAt.new hv12
  have Hvq : Hid (VarAt w W2 w1.heap.size v0 v1 v2 v3 v4 v5 v6 v7 v8 11 tv) := by rw [← HW2.out]; exact VarAt.new hv
  clear hv hv12
  go_wp2_with fail
  rw [HW2.out]
  clear HW2
  replace HE := hide (HE.out.go hA2)
  replace hBy := hBy.wider (r' := W2.heap.size) (fun b hb => hA2.block b hb) hA2.size
  clear hA2
  refine (drawPartAt_any a n cap W2 hcap hBy).mono ?_
  rintro e w3 ⟨u, tw, i, rfl, hw, hw1, ⟨hi1, hi2⟩, hb3⟩
  obtain ⟨q0, q1, q2, q3, q4, q5, q6, q7, q8, rfl⟩ := hw.shape
  replace hw := (freshP_wide hw HE.out.le).upN 1
  have hzw : wtT 12 (upN 11 1 tw) ≤ 10000 := Nat.le_trans (Nat.le_of_eq (wtT_upN 11 1 tw)) (by omega)
  obtain ⟨Q, hQ⟩ : ∃ V : Tr 12, V = upN 11 1 tw := ⟨_, rfl⟩
  replace hw : ValAt (FreshP w w3) w3 12 Q (.agg #[.int .i64 q0, .int .i64 q1, .string q2, .slice q3 q4 q5, .slice q6 q7 q8]) := by rw [hQ]; exact hw
  rw [← hQ] at hzw
  clear hQ hw1 hBy
  have hI : I64 i := ⟨by omega, by omega⟩
  replace Hv := hide (Hv.out.go hb3)
  replace Hvq := hide (Hvq.out.go hb3)
  replace HE := hide (HE.out.go hb3)
  clear hb3
  obtain ⟨xv0, xv1, xv2, xv3, xv4⟩ := Hv.out.blk.cell
  have xvl := Hv.out.blk.lt
  obtain ⟨W4, HW4⟩ : ∃ W1, Hid (w3.alloc (.cells #[.int .i64 q0, .int .i64 q1, .string q2, .slice q3 q4 q5, .slice q6 q7 q8] 26) = W1) := ⟨_, rfl⟩
  have hA4 : Below w3.heap.size w3 W4 := by rw [← HW4.out]; exact below_alloc1 _ _
  have Hq : Hid (VarAt w W4 w3.heap.size q0 q1 q2 q3 q4 q5 q6 q7 q8 12 Q) := by rw [← HW4.out]; exact VarAt.new hw
  clear hw
  go_wp2_with fail
  rw [HW4.out]
  clear HW4
  clear xv0 xv1 xv2 xv3 xv4 xvl
  replace Hv := hide (Hv.out.go hA4)
  replace Hvq := hide (Hvq.out.go hA4)
  replace HE := hide (HE.out.go hA4)
  clear hA4
  obtain ⟨⟨X, b1⟩, hX⟩ : ∃ r, Hid (partGetT 10 V sk = r) := ⟨_, rfl⟩
  have hzX : wtT 11 X ≤ 10000 := by have := wtT_ok (okT_partGet 10 V sk); rw [hX.out] at this; have h2 : wtT 11 X ≤ 300 := this; omega
  have hc := getI (d := 10) Hv.out.val hsk' HE.out.err HE.out.le
  rw [hX.out] at hc; dsimp only at hc
  refine hc.mono ?_
  clear hc
  rintro e w5 ⟨x0, x1, x2, x3, x4, x5, x6, x7, x8, rfl, hu5, hb5⟩
  replace Hv := hide (Hv.out.go hb5)
  replace Hvq := hide (Hvq.out.go hb5)
  replace Hq := hide (Hq.out.go hb5)
  replace HE := hide (HE.out.go hb5)
  clear hb5
  obtain ⟨xv0, xv1, xv2, xv3, xv4⟩ := Hv.out.blk.cell
  have xvl := Hv.out.blk.lt
  obtain ⟨W6, HW6⟩ : ∃ W1, Hid (w5.alloc (.cells #[.int .i64 x0, .int .i64 x1, .string x2, .slice x3 x4 x5, .slice x6 x7 x8] 26) = W1) := ⟨_, rfl⟩
  have hA6 : Below w5.heap.size w5 W6 := by rw [← HW6.out]; exact below_alloc1 _ _
  have Hx : Hid (VarAt w W6 w5.heap.size x0 x1 x2 x3 x4 x5 x6 x7 x8 11 X) := by rw [← HW6.out]; exact VarAt.new hu5
  clear hu5
  go_wp2_with fail
  rw [HW6.out]
  clear HW6
  clear xv0 xv1 xv2 xv3 xv4 xvl
  replace Hv := hide (Hv.out.go hA6)
  replace Hvq := hide (Hvq.out.go hA6)
  replace Hq := hide (Hq.out.go hA6)
  replace HE := hide (HE.out.go hA6)
  clear hA6
  have hc := getS (d := 10) Hv.out.val hsk' hz12 HE.out.le
  rw [hX.out] at hc; dsimp only at hc
  refine hc.mono ?_
  clear hc
  rintro e w7 ⟨y0, y1, y2, y3, y4, y5, y6, y7, y8, rfl, hu7, hb7⟩
  replace Hv := hide (Hv.out.go hb7)
  replace Hvq := hide (Hvq.out.go hb7)
  replace Hq := hide (Hq.out.go hb7)
  replace Hx := hide (Hx.out.go hb7)
  replace HE := hide (HE.out.go hb7)
  clear hb7
  obtain ⟨xq0, xq1, xq2, xq3, xq4⟩ := Hq.out.blk.cell
  have xql := Hq.out.blk.lt
  obtain ⟨W8, HW8⟩ : ∃ W1, Hid (w7.alloc (.cells #[.int .i64 y0, .int .i64 y1, .string y2, .slice y3 y4 y5, .slice y6 y7 y8] 26) = W1) := ⟨_, rfl⟩
  have hA8 : Below w7.heap.size w7 W8 := by rw [← HW8.out]; exact below_alloc1 _ _
  have Hy : Hid (VarAt w W8 w7.heap.size y0 y1 y2 y3 y4 y5 y6 y7 y8 11 X) := by rw [← HW8.out]; exact VarAt.new hu7
  clear hu7
  go_wp2_with fail
  rw [HW8.out]
  clear HW8
  clear xq0 xq1 xq2 xq3 xq4 xql
  replace Hv := hide (Hv.out.go hA8)
  replace Hvq := hide (Hvq.out.go hA8)
  replace Hq := hide (Hq.out.go hA8)
  replace Hx := hide (Hx.out.go hA8)
  replace HE := hide (HE.out.go hA8)
  clear hA8
  obtain ⟨⟨Z, b2⟩, hZ⟩ : ∃ r, Hid (partAtT 10 Q i = r) := ⟨_, rfl⟩
  have hzZ : wtT 11 Z ≤ 10000 := by have := wtT_ok (okT_partAt 10 Q i); rw [hZ.out] at this; have h2 : wtT 11 Z ≤ 300 := this; omega
  have hc := atI (d := 10) Hq.out.val hI HE.out.err HE.out.le
  rw [hZ.out] at hc; dsimp only at hc
  refine hc.mono ?_
  clear hc
  rintro e w9 ⟨z0, z1, z2, z3, z4, z5, z6, z7, z8, rfl, hu9, hb9⟩
  replace Hv := hide (Hv.out.go hb9)
  replace Hvq := hide (Hvq.out.go hb9)
  replace Hq := hide (Hq.out.go hb9)
  replace Hx := hide (Hx.out.go hb9)
  replace Hy := hide (Hy.out.go hb9)
  replace HE := hide (HE.out.go hb9)
  clear hb9
  obtain ⟨xq0, xq1, xq2, xq3, xq4⟩ := Hq.out.blk.cell
  have xql := Hq.out.blk.lt
  obtain ⟨W10, HW10⟩ : ∃ W1, Hid (w9.alloc (.cells #[.int .i64 z0, .int .i64 z1, .string z2, .slice z3 z4 z5, .slice z6 z7 z8] 26) = W1) := ⟨_, rfl⟩
  have hA10 : Below w9.heap.size w9 W10 := by rw [← HW10.out]; exact below_alloc1 _ _
  have Hz : Hid (VarAt w W10 w9.heap.size z0 z1 z2 z3 z4 z5 z6 z7 z8 11 Z) := by rw [← HW10.out]; exact VarAt.new hu9
  clear hu9
  go_wp2_with fail
  rw [HW10.out]
  clear HW10
  clear xq0 xq1 xq2 xq3 xq4 xql
  replace Hv := hide (Hv.out.go hA10)
  replace Hvq := hide (Hvq.out.go hA10)
  replace Hq := hide (Hq.out.go hA10)
  replace Hx := hide (Hx.out.go hA10)
  replace Hy := hide (Hy.out.go hA10)
  replace HE := hide (HE.out.go hA10)
  clear hA10
  have hc := atS (d := 10) Hq.out.val hI hzw HE.out.le
  rw [hZ.out] at hc; dsimp only at hc
  refine hc.mono ?_
  clear hc
  rintro e w11 ⟨u0, u1, u2, u3, u4, u5, u6, u7, u8, rfl, hu11, hb11⟩
  replace Hv := hide (Hv.out.go hb11)
  replace Hvq := hide (Hvq.out.go hb11)
  replace Hq := hide (Hq.out.go hb11)
  replace Hx := hide (Hx.out.go hb11)
  replace Hy := hide (Hy.out.go hb11)
  replace Hz := hide (Hz.out.go hb11)
  replace HE := hide (HE.out.go hb11)
  clear hb11
  obtain ⟨xx0, xx1, xx2, xx3, xx4⟩ := Hx.out.blk.cell
  have xxl := Hx.out.blk.lt
  obtain ⟨xy0, xy1, xy2, xy3, xy4⟩ := Hy.out.blk.cell
  have xyl := Hy.out.blk.lt
  obtain ⟨W12, HW12⟩ : ∃ W1, Hid (w11.alloc (.cells #[.int .i64 u0, .int .i64 u1, .string u2, .slice u3 u4 u5, .slice u6 u7 u8] 26) = W1) := ⟨_, rfl⟩
  have hA12 : Below w11.heap.size w11 W12 := by rw [← HW12.out]; exact below_alloc1 _ _
  have Hu : Hid (VarAt w W12 w11.heap.size u0 u1 u2 u3 u4 u5 u6 u7 u8 11 Z) := by rw [← HW12.out]; exact VarAt.new hu11
  clear hu11
  go_wp2_with fail
  rw [HW12.out]
  clear HW12
  clear xx0 xx1 xx2 xx3 xx4 xxl xy0 xy1 xy2 xy3 xy4 xyl
  replace Hv := hide (Hv.out.go hA12)
  replace Hvq := hide (Hvq.out.go hA12)
  replace Hq := hide (Hq.out.go hA12)
  replace Hx := hide (Hx.out.go hA12)
  replace Hy := hide (Hy.out.go hA12)
  replace Hz := hide (Hz.out.go hA12)
  replace HE := hide (HE.out.go hA12)
  clear hA12
  have hc := samE Hx.out.val Hy.out.val hzX
  refine hc.mono ?_
  clear hc
  rintro e w13 ⟨rfl, hb13⟩
  replace Hv := hide (Hv.out.go hb13)
  replace Hvq := hide (Hvq.out.go hb13)
  replace Hq := hide (Hq.out.go hb13)
  replace Hx := hide (Hx.out.go hb13)
  replace Hy := hide (Hy.out.go hb13)
  replace Hz := hide (Hz.out.go hb13)
  replace Hu := hide (Hu.out.go hb13)
  replace HE := hide (HE.out.go hb13)
  clear hb13
  clear Hx
  clear Hy
  obtain ⟨xz0, xz1, xz2, xz3, xz4⟩ := Hz.out.blk.cell
  have xzl := Hz.out.blk.lt
  obtain ⟨xu0, xu1, xu2, xu3, xu4⟩ := Hu.out.blk.cell
  have xul := Hu.out.blk.lt
  go_wp2_with fail
  clear xz0 xz1 xz2 xz3 xz4 xzl xu0 xu1 xu2 xu3 xu4 xul
  have hc := samE Hz.out.val Hu.out.val hzZ
  refine hc.mono ?_
  clear hc
  rintro e w14 ⟨rfl, hb14⟩
  replace Hv := hide (Hv.out.go hb14)
  replace Hvq := hide (Hvq.out.go hb14)
  replace Hq := hide (Hq.out.go hb14)
  replace Hz := hide (Hz.out.go hb14)
  replace Hu := hide (Hu.out.go hb14)
  replace HE := hide (HE.out.go hb14)
  clear hb14
  clear Hz
  clear Hu
  clear Hq
  obtain ⟨xv0, xv1, xv2, xv3, xv4⟩ := Hv.out.blk.cell
  have xvl := Hv.out.blk.lt
  go_wp2_with fail
  have hc3 : (okT 12 V = true ∧ 5 ≤ Nd.kind V) ∨ (okT 12 V = true ∧ ¬ 5 ≤ Nd.kind V) ∨ okT 12 V = false := by cases h : okT 12 V with | false => exact Or.inr (Or.inr rfl) | true => by_cases h5 : 5 ≤ Nd.kind V <;> simp [h5]
  rcases hc3 with ⟨hok, h5⟩ | ⟨hok, h5⟩ | hok
  ·

    have hk1 : (partKeysT 10 V).2 = true := by unfold partKeysT; rw [if_pos ⟨hok, h5⟩]
    have hk2 : (eachT 11 V).2 = true := by unfold eachT; rw [if_pos ⟨hok, h5⟩]
    have h5' : 5 ≤ v0 := by rw [hK.out]; exact h5
    clear xv0 xv1 xv2 xv3 xv4 xvl
    have hc := keysI (d := 10) Hv.out.val HE.out.err HE.out.le
    rw [hk1] at hc
    refine hc.mono ?_
    clear hc
    rintro e w15 ⟨kk0, kk1, kk2, kk3, kk4, kk5, kk6, kk7, kk8, rfl, hu15, hb15⟩
    replace Hv := hide (Hv.out.go hb15)
    replace Hvq := hide (Hvq.out.go hb15)
    replace HE := hide (HE.out.go hb15)
    clear hb15
    obtain ⟨xv0, xv1, xv2, xv3, xv4⟩ := Hv.out.blk.cell
    have xvl := Hv.out.blk.lt
    obtain ⟨W16, HW16⟩ : ∃ W1, Hid (w15.alloc (.cells #[.int .i64 kk0, .int .i64 kk1, .string kk2, .slice kk3 kk4 kk5, .slice kk6 kk7 kk8] 26) = W1) := ⟨_, rfl⟩
    have hA16 : Below w15.heap.size w15 W16 := by rw [← HW16.out]; exact below_alloc1 _ _
    have Hkk : Hid (VarAt w W16 w15.heap.size kk0 kk1 kk2 kk3 kk4 kk5 kk6 kk7 kk8 12 (partKeysT 10 V).1) := by rw [← HW16.out]; exact VarAt.new hu15
    clear hu15
    go_wp2_with fail
    rw [HW16.out]
    clear HW16
    clear xv0 xv1 xv2 xv3 xv4 xvl
    replace Hv := hide (Hv.out.go hA16)
    replace Hvq := hide (Hvq.out.go hA16)
    replace HE := hide (HE.out.go hA16)
    clear hA16
    clear Hkk
    have hc := eachI (d := 11) Hv.out.val HE.out.err HE.out.le
    rw [hk2] at hc
    refine hc.mono ?_
    clear hc
    rintro e w17 ⟨eea, eec, rfl, hu17, hb17⟩
    replace Hv := hide (Hv.out.go hb17)
    replace Hvq := hide (Hvq.out.go hb17)
    replace HE := hide (HE.out.go hb17)
    clear hb17
    clear hu17
    obtain ⟨xv0, xv1, xv2, xv3, xv4⟩ := Hv.out.blk.cell
    have xvl := Hv.out.blk.lt
    go_wp2_with fail
    clear xv0 xv1 xv2 xv3 xv4 xvl
    have hc := okS_at Hv.out.val hz12
    rw [hok] at hc
    refine hc.mono ?_
    clear hc
    rintro e w18 ⟨rfl, hb18⟩
    replace Hv := hide (Hv.out.go hb18)
    replace Hvq := hide (Hvq.out.go hb18)
    replace HE := hide (HE.out.go hb18)
    clear hb18
    obtain ⟨xv0, xv1, xv2, xv3, xv4⟩ := Hv.out.blk.cell
    have xvl := Hv.out.blk.lt
    go_wp2_with fail
    obtain ⟨⟨A1, p1⟩, hA1⟩ : ∃ r, Hid (partPutT 10 (zeroT 11) ⟨#[107]⟩ tv = r) := ⟨_, rfl⟩
    obtain ⟨⟨B1, p2⟩, hB1⟩ : ∃ r, Hid (partSetT 10 (zeroT 11) 0 tv = r) := ⟨_, rfl⟩
    have hG : Hid (partGetT 10 (zeroT 11) ⟨#[107]⟩ = (zeroT 10, true)) := none_get 10 (by decide)
    clear xv0 xv1 xv2 xv3 xv4 xvl
    have hc := putI (d := 10) (s := ⟨#[107]⟩) (zero_at _ _ 11) Hvq.out.val (by decide) HE.out.err HE.out.le
    rw [hA1.out] at hc; dsimp only at hc
    refine hc.mono ?_
    clear hc
    rintro e w19 ⟨aa0, aa1, aa2, aa3, aa4, aa5, aa6, aa7, aa8, rfl, hu19, hb19⟩
    replace Hv := hide (Hv.out.go hb19)
    replace Hvq := hide (Hvq.out.go hb19)
    replace HE := hide (HE.out.go hb19)
    clear hb19
    obtain ⟨xv0, xv1, xv2, xv3, xv4⟩ := Hv.out.blk.cell
    have xvl := Hv.out.blk.lt
    obtain ⟨W20, HW20⟩ : ∃ W1, Hid (w19.alloc (.cells #[.int .i64 aa0, .int .i64 aa1, .string aa2, .slice aa3 aa4 aa5, .slice aa6 aa7 aa8] 26) = W1) := ⟨_, rfl⟩
    have hA20 : Below w19.heap.size w19 W20 := by rw [← HW20.out]; exact below_alloc1 _ _
    have Haa : Hid (VarAt w W20 w19.heap.size aa0 aa1 aa2 aa3 aa4 aa5 aa6 aa7 aa8 12 A1) := by rw [← HW20.out]; exact VarAt.new hu19
    clear hu19
    go_wp2_with fail
    rw [HW20.out]
    clear HW20
    clear xv0 xv1 xv2 xv3 xv4 xvl
    replace Hv := hide (Hv.out.go hA20)
    replace Hvq := hide (Hvq.out.go hA20)
    replace HE := hide (HE.out.go hA20)
    clear hA20
    have hc := setI (d := 10) (i := 0) (zero_at _ _ 11) Hvq.out.val ⟨by omega, by omega⟩ HE.out.err HE.out.le
    rw [hB1.out] at hc; dsimp only at hc
    refine hc.mono ?_
    clear hc
    rintro e w21 ⟨bb0, bb1, bb2, bb3, bb4, bb5, bb6, bb7, bb8, rfl, hu21, hb21⟩
    replace Hv := hide (Hv.out.go hb21)
    replace Hvq := hide (Hvq.out.go hb21)
    replace Haa := hide (Haa.out.go hb21)
    replace HE := hide (HE.out.go hb21)
    clear hb21
    obtain ⟨W22, HW22⟩ : ∃ W1, Hid (w21.alloc (.cells #[.int .i64 bb0, .int .i64 bb1, .string bb2, .slice bb3 bb4 bb5, .slice bb6 bb7 bb8] 26) = W1) := ⟨_, rfl⟩
    have hA22 : Below w21.heap.size w21 W22 := by rw [← HW22.out]; exact below_alloc1 _ _
    have Hbb : Hid (VarAt w W22 w21.heap.size bb0 bb1 bb2 bb3 bb4 bb5 bb6 bb7 bb8 12 B1) := by rw [← HW22.out]; exact VarAt.new hu21
    clear hu21
    go_wp2_with fail
    rw [HW22.out]
    clear HW22
    replace Hv := hide (Hv.out.go hA22)
    replace Hvq := hide (Hvq.out.go hA22)
    replace Haa := hide (Haa.out.go hA22)
    replace HE := hide (HE.out.go hA22)
    clear hA22
    have hc := getI (d := 10) (s := ⟨#[107]⟩) (zero_at _ _ 11) (by decide) HE.out.err HE.out.le
    rw [hG.out] at hc; dsimp only at hc
    refine hc.mono ?_
    clear hc
    rintro e w23 ⟨nn0, nn1, nn2, nn3, nn4, nn5, nn6, nn7, nn8, rfl, hu23, hb23⟩
    replace Hv := hide (Hv.out.go hb23)
    replace Hvq := hide (Hvq.out.go hb23)
    replace Haa := hide (Haa.out.go hb23)
    replace Hbb := hide (Hbb.out.go hb23)
    replace HE := hide (HE.out.go hb23)
    clear hb23
    have hn0 : nn0 = 0 := by have := (parts_of (d := 10) hu23).1; cases this; rfl
    subst hn0
    cases p1 with
    | false =>
      cases p2 with
      | false =>
        obtain ⟨xaa0, xaa1, xaa2, xaa3, xaa4⟩ := Haa.out.blk.cell
        have xaal := Haa.out.blk.lt
        obtain ⟨xbb0, xbb1, xbb2, xbb3, xbb4⟩ := Hbb.out.blk.cell
        have xbbl := Hbb.out.blk.lt
        obtain ⟨W24, HW24⟩ : ∃ W1, Hid (w23.alloc (.cells #[.int .i64 (0), .int .i64 nn1, .string nn2, .slice nn3 nn4 nn5, .slice nn6 nn7 nn8] 26) = W1) := ⟨_, rfl⟩
        have hA24 : Below w23.heap.size w23 W24 := by rw [← HW24.out]; exact below_alloc1 _ _
        have Hnn : Hid (VarAt w W24 w23.heap.size (0) nn1 nn2 nn3 nn4 nn5 nn6 nn7 nn8 11 (zeroT 10)) := by rw [← HW24.out]; exact VarAt.new hu23
        clear hu23
        go_wp2_with fail
        rw [HW24.out]
        clear HW24
        clear xaa0 xaa1 xaa2 xaa3 xaa4 xaal xbb0 xbb1 xbb2 xbb3 xbb4 xbbl
        replace Hv := hide (Hv.out.go hA24)
        replace Hvq := hide (Hvq.out.go hA24)
        replace Haa := hide (Haa.out.go hA24)
        replace Hbb := hide (Hbb.out.go hA24)
        replace HE := hide (HE.out.go hA24)
        clear hA24
        have hne := Ext.some W24
        have hbel := hide HE.out.bel
        clear HE Hv Hvq Haa Hbb Hnn
        refine wp_region_ext (by kernel_rfl) (by kernel_rfl) ?_
        repeat (first | go_big_quiet_step (fail) | quiet_step (fail))
        refine wpQuiet_nil ?_
        intro w90 hw90
        obtain ⟨m, rfl⟩ := hw90
        go_wp2_with fail
        go_ret
        exact ⟨rfl, below_trans hbel.out m.from_⟩
      | true =>
        have hl2 : Nd.list (α := Tr 11) B1 = [tv] := by have := none_set (d := 10) (x := tv) (by rw [hB1.out]); rw [hB1.out] at this; exact this
        have hb7 : bb7 = 1 := by obtain ⟨_, _, hsl, _⟩ := (parts_of (d := 11) Hbb.out.val).2.2.2.2.2.2.2.open'; have := congrArg List.length hl2; cases hsl; exact this
        subst hb7
        obtain ⟨xaa0, xaa1, xaa2, xaa3, xaa4⟩ := Haa.out.blk.cell
        have xaal := Haa.out.blk.lt
        obtain ⟨xbb0, xbb1, xbb2, xbb3, xbb4⟩ := Hbb.out.blk.cell
        have xbbl := Hbb.out.blk.lt
        obtain ⟨W24, HW24⟩ : ∃ W1, Hid (w23.alloc (.cells #[.int .i64 (0), .int .i64 nn1, .string nn2, .slice nn3 nn4 nn5, .slice nn6 nn7 nn8] 26) = W1) := ⟨_, rfl⟩
        have hA24 : Below w23.heap.size w23 W24 := by rw [← HW24.out]; exact below_alloc1 _ _
        have Hnn : Hid (VarAt w W24 w23.heap.size (0) nn1 nn2 nn3 nn4 nn5 nn6 nn7 nn8 11 (zeroT 10)) := by rw [← HW24.out]; exact VarAt.new hu23
        clear hu23
        go_wp2_with fail
        rw [HW24.out]
        clear HW24
        clear xaa0 xaa1 xaa2 xaa3 xaa4 xaal xbb0 xbb1 xbb2 xbb3 xbb4 xbbl
        replace Hv := hide (Hv.out.go hA24)
        replace Hvq := hide (Hvq.out.go hA24)
        replace Haa := hide (Haa.out.go hA24)
        replace Hbb := hide (Hbb.out.go hA24)
        replace HE := hide (HE.out.go hA24)
        clear hA24
        have hne := Ext.some W24
        have hbel := hide HE.out.bel
        clear HE Hv Hvq Haa Hbb Hnn
        refine wp_region_ext (by kernel_rfl) (by kernel_rfl) ?_
        repeat (first | go_big_quiet_step (fail) | quiet_step (fail))
        refine wpQuiet_nil ?_
        intro w90 hw90
        obtain ⟨m, rfl⟩ := hw90
        go_wp2_with fail
        go_ret
        exact ⟨rfl, below_trans hbel.out m.from_⟩
    | true =>
      have hl1 : Nd.list (α := Tr 11) A1 = [tv] := by have := none_put (d := 10) (s := ⟨#[107]⟩) (x := tv) (by rw [hA1.out]); rw [hA1.out] at this; exact this
      have ha7 : aa7 = 1 := by obtain ⟨_, _, hsl, _⟩ := (parts_of (d := 11) Haa.out.val).2.2.2.2.2.2.2.open'; have := congrArg List.length hl1; cases hsl; exact this
      subst ha7
      cases p2 with
      | false =>
        obtain ⟨xaa0, xaa1, xaa2, xaa3, xaa4⟩ := Haa.out.blk.cell
        have xaal := Haa.out.blk.lt
        obtain ⟨xbb0, xbb1, xbb2, xbb3, xbb4⟩ := Hbb.out.blk.cell
        have xbbl := Hbb.out.blk.lt
        obtain ⟨W24, HW24⟩ : ∃ W1, Hid (w23.alloc (.cells #[.int .i64 (0), .int .i64 nn1, .string nn2, .slice nn3 nn4 nn5, .slice nn6 nn7 nn8] 26) = W1) := ⟨_, rfl⟩
        have hA24 : Below w23.heap.size w23 W24 := by rw [← HW24.out]; exact below_alloc1 _ _
        have Hnn : Hid (VarAt w W24 w23.heap.size (0) nn1 nn2 nn3 nn4 nn5 nn6 nn7 nn8 11 (zeroT 10)) := by rw [← HW24.out]; exact VarAt.new hu23
        clear hu23
        go_wp2_with fail
        rw [HW24.out]
        clear HW24
        clear xaa0 xaa1 xaa2 xaa3 xaa4 xaal xbb0 xbb1 xbb2 xbb3 xbb4 xbbl
        replace Hv := hide (Hv.out.go hA24)
        replace Hvq := hide (Hvq.out.go hA24)
        replace Haa := hide (Haa.out.go hA24)
        replace Hbb := hide (Hbb.out.go hA24)
        replace HE := hide (HE.out.go hA24)
        clear hA24
        obtain ⟨aab, aao, aax, aae0, aae1, aae2, aae3, aae4, haaa, haaS, haax, eaa0, eaa1, eaa2, eaa3, eaa4, hvaa⟩ := (parts_of (d := 11) Haa.out.val).2.2.2.2.2.2.2.cell (k := 0) (by rw [hl1]; exact Nat.zero_lt_one)
        rw [hl1] at haax
        obtain rfl : tv = aax := by simpa using haax
        subst haaa
        obtain ⟨aap0, aap1, aap2, aap3, aap4, aap5, aap6, aap7, aap8, hpaa⟩ := hvaa.shape
        cases hpaa
        simp only [Nat.zero_mul, Nat.add_zero] at eaa0 eaa1 eaa2 eaa3 eaa4
        have laa := haaS.1.2
        have e0 : Hid (∀ m : Ext W24, Calls Tryz.prog 12 #[.agg #[.int .i64 aap0, .int .i64 aap1, .string aap2, .slice aap3 aap4 aap5, .slice aap6 aap7 aap8], .agg #[.int .i64 v0, .int .i64 v1, .string v2, .slice v3 v4 v5, .slice v6 v7 v8]] m.now fun e w' => e = .returned (.bool true) ∧ Below m.now.heap.size m.now w') := fun m => samE (freshP_go hvaa m.from_) (freshP_go Hvq.out.val m.from_) hz11
        obtain ⟨caa0, caa1, caa2, caa3, caa4⟩ := Haa.out.blk.cell
        have daa0 := fun m => ext_cell caa0 m
        have daa1 := fun m => ext_cell caa1 m
        have daa2 := fun m => ext_cell caa2 m
        have daa3 := fun m => ext_cell caa3 m
        have daa4 := fun m => ext_cell caa4 m
        clear caa0 caa1 caa2 caa3 caa4
        obtain ⟨cv0, cv1, cv2, cv3, cv4⟩ := Hv.out.blk.cell
        have dv0 := fun m => ext_cell cv0 m
        have dv1 := fun m => ext_cell cv1 m
        have dv2 := fun m => ext_cell cv2 m
        have dv3 := fun m => ext_cell cv3 m
        have dv4 := fun m => ext_cell cv4 m
        clear cv0 cv1 cv2 cv3 cv4
        have ddeaa0 := fun m => ext_cell eaa0 m
        have ddeaa1 := fun m => ext_cell eaa1 m
        have ddeaa2 := fun m => ext_cell eaa2 m
        have ddeaa3 := fun m => ext_cell eaa3 m
        have ddeaa4 := fun m => ext_cell eaa4 m
        clear eaa0 eaa1 eaa2 eaa3 eaa4
        have hne := Ext.some W24
        have hbel := hide HE.out.bel
        clear HE Hv Hvq Haa Hbb Hnn hvaa haaS haax
        refine wp_region_ext (by kernel_rfl) (by kernel_rfl) ?_
        repeat (first | go_big_quiet_step ((go_at_call 12; first | with_reducible exact Calls.ext_of (e0.out _))) | quiet_step ((go_at_call 12; first | with_reducible exact Calls.ext_of (e0.out _))))
        refine wpQuiet_nil ?_
        intro w90 hw90
        obtain ⟨m, rfl⟩ := hw90
        go_wp2_with fail
        go_ret
        exact ⟨rfl, below_trans hbel.out m.from_⟩
      | true =>
        have hl2 : Nd.list (α := Tr 11) B1 = [tv] := by have := none_set (d := 10) (x := tv) (by rw [hB1.out]); rw [hB1.out] at this; exact this
        have hb7 : bb7 = 1 := by obtain ⟨_, _, hsl, _⟩ := (parts_of (d := 11) Hbb.out.val).2.2.2.2.2.2.2.open'; have := congrArg List.length hl2; cases hsl; exact this
        subst hb7
        obtain ⟨xaa0, xaa1, xaa2, xaa3, xaa4⟩ := Haa.out.blk.cell
        have xaal := Haa.out.blk.lt
        obtain ⟨xbb0, xbb1, xbb2, xbb3, xbb4⟩ := Hbb.out.blk.cell
        have xbbl := Hbb.out.blk.lt
        obtain ⟨W24, HW24⟩ : ∃ W1, Hid (w23.alloc (.cells #[.int .i64 (0), .int .i64 nn1, .string nn2, .slice nn3 nn4 nn5, .slice nn6 nn7 nn8] 26) = W1) := ⟨_, rfl⟩
        have hA24 : Below w23.heap.size w23 W24 := by rw [← HW24.out]; exact below_alloc1 _ _
        have Hnn : Hid (VarAt w W24 w23.heap.size (0) nn1 nn2 nn3 nn4 nn5 nn6 nn7 nn8 11 (zeroT 10)) := by rw [← HW24.out]; exact VarAt.new hu23
        clear hu23
        go_wp2_with fail
        rw [HW24.out]
        clear HW24
        clear xaa0 xaa1 xaa2 xaa3 xaa4 xaal xbb0 xbb1 xbb2 xbb3 xbb4 xbbl
        replace Hv := hide (Hv.out.go hA24)
        replace Hvq := hide (Hvq.out.go hA24)
        replace Haa := hide (Haa.out.go hA24)
        replace Hbb := hide (Hbb.out.go hA24)
        replace HE := hide (HE.out.go hA24)
        clear hA24
        obtain ⟨aab, aao, aax, aae0, aae1, aae2, aae3, aae4, haaa, haaS, haax, eaa0, eaa1, eaa2, eaa3, eaa4, hvaa⟩ := (parts_of (d := 11) Haa.out.val).2.2.2.2.2.2.2.cell (k := 0) (by rw [hl1]; exact Nat.zero_lt_one)
        rw [hl1] at haax
        obtain rfl : tv = aax := by simpa using haax
        subst haaa
        obtain ⟨aap0, aap1, aap2, aap3, aap4, aap5, aap6, aap7, aap8, hpaa⟩ := hvaa.shape
        cases hpaa
        simp only [Nat.zero_mul, Nat.add_zero] at eaa0 eaa1 eaa2 eaa3 eaa4
        have laa := haaS.1.2
        obtain ⟨bbb, bbo, bbx, bbe0, bbe1, bbe2, bbe3, bbe4, hbba, hbbS, hbbx, ebb0, ebb1, ebb2, ebb3, ebb4, hvbb⟩ := (parts_of (d := 11) Hbb.out.val).2.2.2.2.2.2.2.cell (k := 0) (by rw [hl2]; exact Nat.zero_lt_one)
        rw [hl2] at hbbx
        obtain rfl : tv = bbx := by simpa using hbbx
        subst hbba
        obtain ⟨bbp0, bbp1, bbp2, bbp3, bbp4, bbp5, bbp6, bbp7, bbp8, hpbb⟩ := hvbb.shape
        cases hpbb
        simp only [Nat.zero_mul, Nat.add_zero] at ebb0 ebb1 ebb2 ebb3 ebb4
        have lbb := hbbS.1.2
        have e0 : Hid (∀ m : Ext W24, Calls Tryz.prog 12 #[.agg #[.int .i64 aap0, .int .i64 aap1, .string aap2, .slice aap3 aap4 aap5, .slice aap6 aap7 aap8], .agg #[.int .i64 v0, .int .i64 v1, .string v2, .slice v3 v4 v5, .slice v6 v7 v8]] m.now fun e w' => e = .returned (.bool true) ∧ Below m.now.heap.size m.now w') := fun m => samE (freshP_go hvaa m.from_) (freshP_go Hvq.out.val m.from_) hz11
        have e1 : Hid (∀ m : Ext W24, Calls Tryz.prog 12 #[.agg #[.int .i64 bbp0, .int .i64 bbp1, .string bbp2, .slice bbp3 bbp4 bbp5, .slice bbp6 bbp7 bbp8], .agg #[.int .i64 v0, .int .i64 v1, .string v2, .slice v3 v4 v5, .slice v6 v7 v8]] m.now fun e w' => e = .returned (.bool true) ∧ Below m.now.heap.size m.now w') := fun m => samE (freshP_go hvbb m.from_) (freshP_go Hvq.out.val m.from_) hz11
        obtain ⟨caa0, caa1, caa2, caa3, caa4⟩ := Haa.out.blk.cell
        have daa0 := fun m => ext_cell caa0 m
        have daa1 := fun m => ext_cell caa1 m
        have daa2 := fun m => ext_cell caa2 m
        have daa3 := fun m => ext_cell caa3 m
        have daa4 := fun m => ext_cell caa4 m
        clear caa0 caa1 caa2 caa3 caa4
        obtain ⟨cv0, cv1, cv2, cv3, cv4⟩ := Hv.out.blk.cell
        have dv0 := fun m => ext_cell cv0 m
        have dv1 := fun m => ext_cell cv1 m
        have dv2 := fun m => ext_cell cv2 m
        have dv3 := fun m => ext_cell cv3 m
        have dv4 := fun m => ext_cell cv4 m
        clear cv0 cv1 cv2 cv3 cv4
        obtain ⟨cbb0, cbb1, cbb2, cbb3, cbb4⟩ := Hbb.out.blk.cell
        have dbb0 := fun m => ext_cell cbb0 m
        have dbb1 := fun m => ext_cell cbb1 m
        have dbb2 := fun m => ext_cell cbb2 m
        have dbb3 := fun m => ext_cell cbb3 m
        have dbb4 := fun m => ext_cell cbb4 m
        clear cbb0 cbb1 cbb2 cbb3 cbb4
        have ddeaa0 := fun m => ext_cell eaa0 m
        have ddeaa1 := fun m => ext_cell eaa1 m
        have ddeaa2 := fun m => ext_cell eaa2 m
        have ddeaa3 := fun m => ext_cell eaa3 m
        have ddeaa4 := fun m => ext_cell eaa4 m
        have ddebb0 := fun m => ext_cell ebb0 m
        have ddebb1 := fun m => ext_cell ebb1 m
        have ddebb2 := fun m => ext_cell ebb2 m
        have ddebb3 := fun m => ext_cell ebb3 m
        have ddebb4 := fun m => ext_cell ebb4 m
        clear eaa0 eaa1 eaa2 eaa3 eaa4 ebb0 ebb1 ebb2 ebb3 ebb4
        have hne := Ext.some W24
        have hbel := hide HE.out.bel
        clear HE Hv Hvq Haa Hbb Hnn hvaa haaS haax hvbb hbbS hbbx
        refine wp_region_ext (by kernel_rfl) (by kernel_rfl) ?_
        repeat (first | go_big_quiet_step ((go_at_call 12; first | with_reducible exact Calls.ext_of (e0.out _) | with_reducible exact Calls.ext_of (e1.out _))) | quiet_step ((go_at_call 12; first | with_reducible exact Calls.ext_of (e0.out _) | with_reducible exact Calls.ext_of (e1.out _))))
        refine wpQuiet_nil ?_
        intro w90 hw90
        obtain ⟨m, rfl⟩ := hw90
        go_wp2_with fail
        go_ret
        exact ⟨rfl, below_trans hbel.out m.from_⟩
  ·

    have hk1 : (partKeysT 10 V).2 = false := by unfold partKeysT; rw [if_neg (fun e => h5 e.2)]
    have hk2 : (eachT 11 V).2 = false := by unfold eachT; rw [if_neg (fun e => h5 e.2)]
    have h5' : ¬ 5 ≤ v0 := by rw [hK.out]; exact h5
    clear xv0 xv1 xv2 xv3 xv4 xvl
    have hc := keysI (d := 10) Hv.out.val HE.out.err HE.out.le
    rw [hk1] at hc
    refine hc.mono ?_
    clear hc
    rintro e w15 ⟨kk0, kk1, kk2, kk3, kk4, kk5, kk6, kk7, kk8, rfl, hu15, hb15⟩
    replace Hv := hide (Hv.out.go hb15)
    replace Hvq := hide (Hvq.out.go hb15)
    replace HE := hide (HE.out.go hb15)
    clear hb15
    obtain ⟨xv0, xv1, xv2, xv3, xv4⟩ := Hv.out.blk.cell
    have xvl := Hv.out.blk.lt
    obtain ⟨W16, HW16⟩ : ∃ W1, Hid (w15.alloc (.cells #[.int .i64 kk0, .int .i64 kk1, .string kk2, .slice kk3 kk4 kk5, .slice kk6 kk7 kk8] 26) = W1) := ⟨_, rfl⟩
    have hA16 : Below w15.heap.size w15 W16 := by rw [← HW16.out]; exact below_alloc1 _ _
    have Hkk : Hid (VarAt w W16 w15.heap.size kk0 kk1 kk2 kk3 kk4 kk5 kk6 kk7 kk8 12 (partKeysT 10 V).1) := by rw [← HW16.out]; exact VarAt.new hu15
    clear hu15
    go_wp2_with fail
    rw [HW16.out]
    clear HW16
    clear xv0 xv1 xv2 xv3 xv4 xvl
    replace Hv := hide (Hv.out.go hA16)
    replace Hvq := hide (Hvq.out.go hA16)
    replace HE := hide (HE.out.go hA16)
    clear hA16
    clear Hkk
    have hc := eachI (d := 11) Hv.out.val HE.out.err HE.out.le
    rw [hk2] at hc
    refine hc.mono ?_
    clear hc
    rintro e w17 ⟨eea, eec, rfl, hu17, hb17⟩
    replace Hv := hide (Hv.out.go hb17)
    replace Hvq := hide (Hvq.out.go hb17)
    replace HE := hide (HE.out.go hb17)
    clear hb17
    clear hu17
    obtain ⟨xv0, xv1, xv2, xv3, xv4⟩ := Hv.out.blk.cell
    have xvl := Hv.out.blk.lt
    go_wp2_with fail
    clear xv0 xv1 xv2 xv3 xv4 xvl
    have hc := okS_at Hv.out.val hz12
    rw [hok] at hc
    refine hc.mono ?_
    clear hc
    rintro e w18 ⟨rfl, hb18⟩
    replace Hv := hide (Hv.out.go hb18)
    replace Hvq := hide (Hvq.out.go hb18)
    replace HE := hide (HE.out.go hb18)
    clear hb18
    obtain ⟨xv0, xv1, xv2, xv3, xv4⟩ := Hv.out.blk.cell
    have xvl := Hv.out.blk.lt
    go_wp2_with fail
    obtain ⟨⟨A1, p1⟩, hA1⟩ : ∃ r, Hid (partPutT 10 (zeroT 11) ⟨#[107]⟩ tv = r) := ⟨_, rfl⟩
    obtain ⟨⟨B1, p2⟩, hB1⟩ : ∃ r, Hid (partSetT 10 (zeroT 11) 0 tv = r) := ⟨_, rfl⟩
    have hG : Hid (partGetT 10 (zeroT 11) ⟨#[107]⟩ = (zeroT 10, true)) := none_get 10 (by decide)
    clear xv0 xv1 xv2 xv3 xv4 xvl
    have hc := putI (d := 10) (s := ⟨#[107]⟩) (zero_at _ _ 11) Hvq.out.val (by decide) HE.out.err HE.out.le
    rw [hA1.out] at hc; dsimp only at hc
    refine hc.mono ?_
    clear hc
    rintro e w19 ⟨aa0, aa1, aa2, aa3, aa4, aa5, aa6, aa7, aa8, rfl, hu19, hb19⟩
    replace Hv := hide (Hv.out.go hb19)
    replace Hvq := hide (Hvq.out.go hb19)
    replace HE := hide (HE.out.go hb19)
    clear hb19
    obtain ⟨xv0, xv1, xv2, xv3, xv4⟩ := Hv.out.blk.cell
    have xvl := Hv.out.blk.lt
    obtain ⟨W20, HW20⟩ : ∃ W1, Hid (w19.alloc (.cells #[.int .i64 aa0, .int .i64 aa1, .string aa2, .slice aa3 aa4 aa5, .slice aa6 aa7 aa8] 26) = W1) := ⟨_, rfl⟩
    have hA20 : Below w19.heap.size w19 W20 := by rw [← HW20.out]; exact below_alloc1 _ _
    have Haa : Hid (VarAt w W20 w19.heap.size aa0 aa1 aa2 aa3 aa4 aa5 aa6 aa7 aa8 12 A1) := by rw [← HW20.out]; exact VarAt.new hu19
    clear hu19
    go_wp2_with fail
    rw [HW20.out]
    clear HW20
    clear xv0 xv1 xv2 xv3 xv4 xvl
    replace Hv := hide (Hv.out.go hA20)
    replace Hvq := hide (Hvq.out.go hA20)
    replace HE := hide (HE.out.go hA20)
    clear hA20
    have hc := setI (d := 10) (i := 0) (zero_at _ _ 11) Hvq.out.val ⟨by omega, by omega⟩ HE.out.err HE.out.le
    rw [hB1.out] at hc; dsimp only at hc
    refine hc.mono ?_
    clear hc
    rintro e w21 ⟨bb0, bb1, bb2, bb3, bb4, bb5, bb6, bb7, bb8, rfl, hu21, hb21⟩
    replace Hv := hide (Hv.out.go hb21)
    replace Hvq := hide (Hvq.out.go hb21)
    replace Haa := hide (Haa.out.go hb21)
    replace HE := hide (HE.out.go hb21)
    clear hb21
    obtain ⟨W22, HW22⟩ : ∃ W1, Hid (w21.alloc (.cells #[.int .i64 bb0, .int .i64 bb1, .string bb2, .slice bb3 bb4 bb5, .slice bb6 bb7 bb8] 26) = W1) := ⟨_, rfl⟩
    have hA22 : Below w21.heap.size w21 W22 := by rw [← HW22.out]; exact below_alloc1 _ _
    have Hbb : Hid (VarAt w W22 w21.heap.size bb0 bb1 bb2 bb3 bb4 bb5 bb6 bb7 bb8 12 B1) := by rw [← HW22.out]; exact VarAt.new hu21
    clear hu21
    go_wp2_with fail
    rw [HW22.out]
    clear HW22
    replace Hv := hide (Hv.out.go hA22)
    replace Hvq := hide (Hvq.out.go hA22)
    replace Haa := hide (Haa.out.go hA22)
    replace HE := hide (HE.out.go hA22)
    clear hA22
    have hc := getI (d := 10) (s := ⟨#[107]⟩) (zero_at _ _ 11) (by decide) HE.out.err HE.out.le
    rw [hG.out] at hc; dsimp only at hc
    refine hc.mono ?_
    clear hc
    rintro e w23 ⟨nn0, nn1, nn2, nn3, nn4, nn5, nn6, nn7, nn8, rfl, hu23, hb23⟩
    replace Hv := hide (Hv.out.go hb23)
    replace Hvq := hide (Hvq.out.go hb23)
    replace Haa := hide (Haa.out.go hb23)
    replace Hbb := hide (Hbb.out.go hb23)
    replace HE := hide (HE.out.go hb23)
    clear hb23
    have hn0 : nn0 = 0 := by have := (parts_of (d := 10) hu23).1; cases this; rfl
    subst hn0
    cases p1 with
    | false =>
      cases p2 with
      | false =>
        obtain ⟨xaa0, xaa1, xaa2, xaa3, xaa4⟩ := Haa.out.blk.cell
        have xaal := Haa.out.blk.lt
        obtain ⟨xbb0, xbb1, xbb2, xbb3, xbb4⟩ := Hbb.out.blk.cell
        have xbbl := Hbb.out.blk.lt
        obtain ⟨W24, HW24⟩ : ∃ W1, Hid (w23.alloc (.cells #[.int .i64 (0), .int .i64 nn1, .string nn2, .slice nn3 nn4 nn5, .slice nn6 nn7 nn8] 26) = W1) := ⟨_, rfl⟩
        have hA24 : Below w23.heap.size w23 W24 := by rw [← HW24.out]; exact below_alloc1 _ _
        have Hnn : Hid (VarAt w W24 w23.heap.size (0) nn1 nn2 nn3 nn4 nn5 nn6 nn7 nn8 11 (zeroT 10)) := by rw [← HW24.out]; exact VarAt.new hu23
        clear hu23
        go_wp2_with fail
        rw [HW24.out]
        clear HW24
        clear xaa0 xaa1 xaa2 xaa3 xaa4 xaal xbb0 xbb1 xbb2 xbb3 xbb4 xbbl
        replace Hv := hide (Hv.out.go hA24)
        replace Hvq := hide (Hvq.out.go hA24)
        replace Haa := hide (Haa.out.go hA24)
        replace Hbb := hide (Hbb.out.go hA24)
        replace HE := hide (HE.out.go hA24)
        clear hA24
        have hne := Ext.some W24
        have hbel := hide HE.out.bel
        clear HE Hv Hvq Haa Hbb Hnn
        refine wp_region_ext (by kernel_rfl) (by kernel_rfl) ?_
        repeat (first | go_big_quiet_step (fail) | quiet_step (fail))
        refine wpQuiet_nil ?_
        intro w90 hw90
        obtain ⟨m, rfl⟩ := hw90
        go_wp2_with fail
        go_ret
        exact ⟨rfl, below_trans hbel.out m.from_⟩
      | true =>
        have hl2 : Nd.list (α := Tr 11) B1 = [tv] := by have := none_set (d := 10) (x := tv) (by rw [hB1.out]); rw [hB1.out] at this; exact this
        have hb7 : bb7 = 1 := by obtain ⟨_, _, hsl, _⟩ := (parts_of (d := 11) Hbb.out.val).2.2.2.2.2.2.2.open'; have := congrArg List.length hl2; cases hsl; exact this
        subst hb7
        obtain ⟨xaa0, xaa1, xaa2, xaa3, xaa4⟩ := Haa.out.blk.cell
        have xaal := Haa.out.blk.lt
        obtain ⟨xbb0, xbb1, xbb2, xbb3, xbb4⟩ := Hbb.out.blk.cell
        have xbbl := Hbb.out.blk.lt
        obtain ⟨W24, HW24⟩ : ∃ W1, Hid (w23.alloc (.cells #[.int .i64 (0), .int .i64 nn1, .string nn2, .slice nn3 nn4 nn5, .slice nn6 nn7 nn8] 26) = W1) := ⟨_, rfl⟩
        have hA24 : Below w23.heap.size w23 W24 := by rw [← HW24.out]; exact below_alloc1 _ _
        have Hnn : Hid (VarAt w W24 w23.heap.size (0) nn1 nn2 nn3 nn4 nn5 nn6 nn7 nn8 11 (zeroT 10)) := by rw [← HW24.out]; exact VarAt.new hu23
        clear hu23
        go_wp2_with fail
        rw [HW24.out]
        clear HW24
        clear xaa0 xaa1 xaa2 xaa3 xaa4 xaal xbb0 xbb1 xbb2 xbb3 xbb4 xbbl
        replace Hv := hide (Hv.out.go hA24)
        replace Hvq := hide (Hvq.out.go hA24)
        replace Haa := hide (Haa.out.go hA24)
        replace Hbb := hide (Hbb.out.go hA24)
        replace HE := hide (HE.out.go hA24)
        clear hA24
        have hne := Ext.some W24
        have hbel := hide HE.out.bel
        clear HE Hv Hvq Haa Hbb Hnn
        refine wp_region_ext (by kernel_rfl) (by kernel_rfl) ?_
        repeat (first | go_big_quiet_step (fail) | quiet_step (fail))
        refine wpQuiet_nil ?_
        intro w90 hw90
        obtain ⟨m, rfl⟩ := hw90
        go_wp2_with fail
        go_ret
        exact ⟨rfl, below_trans hbel.out m.from_⟩
    | true =>
      have hl1 : Nd.list (α := Tr 11) A1 = [tv] := by have := none_put (d := 10) (s := ⟨#[107]⟩) (x := tv) (by rw [hA1.out]); rw [hA1.out] at this; exact this
      have ha7 : aa7 = 1 := by obtain ⟨_, _, hsl, _⟩ := (parts_of (d := 11) Haa.out.val).2.2.2.2.2.2.2.open'; have := congrArg List.length hl1; cases hsl; exact this
      subst ha7
      cases p2 with
      | false =>
        obtain ⟨xaa0, xaa1, xaa2, xaa3, xaa4⟩ := Haa.out.blk.cell
        have xaal := Haa.out.blk.lt
        obtain ⟨xbb0, xbb1, xbb2, xbb3, xbb4⟩ := Hbb.out.blk.cell
        have xbbl := Hbb.out.blk.lt
        obtain ⟨W24, HW24⟩ : ∃ W1, Hid (w23.alloc (.cells #[.int .i64 (0), .int .i64 nn1, .string nn2, .slice nn3 nn4 nn5, .slice nn6 nn7 nn8] 26) = W1) := ⟨_, rfl⟩
        have hA24 : Below w23.heap.size w23 W24 := by rw [← HW24.out]; exact below_alloc1 _ _
        have Hnn : Hid (VarAt w W24 w23.heap.size (0) nn1 nn2 nn3 nn4 nn5 nn6 nn7 nn8 11 (zeroT 10)) := by rw [← HW24.out]; exact VarAt.new hu23
        clear hu23
        go_wp2_with fail
        rw [HW24.out]
        clear HW24
        clear xaa0 xaa1 xaa2 xaa3 xaa4 xaal xbb0 xbb1 xbb2 xbb3 xbb4 xbbl
        replace Hv := hide (Hv.out.go hA24)
        replace Hvq := hide (Hvq.out.go hA24)
        replace Haa := hide (Haa.out.go hA24)
        replace Hbb := hide (Hbb.out.go hA24)
        replace HE := hide (HE.out.go hA24)
        clear hA24
        obtain ⟨aab, aao, aax, aae0, aae1, aae2, aae3, aae4, haaa, haaS, haax, eaa0, eaa1, eaa2, eaa3, eaa4, hvaa⟩ := (parts_of (d := 11) Haa.out.val).2.2.2.2.2.2.2.cell (k := 0) (by rw [hl1]; exact Nat.zero_lt_one)
        rw [hl1] at haax
        obtain rfl : tv = aax := by simpa using haax
        subst haaa
        obtain ⟨aap0, aap1, aap2, aap3, aap4, aap5, aap6, aap7, aap8, hpaa⟩ := hvaa.shape
        cases hpaa
        simp only [Nat.zero_mul, Nat.add_zero] at eaa0 eaa1 eaa2 eaa3 eaa4
        have laa := haaS.1.2
        have e0 : Hid (∀ m : Ext W24, Calls Tryz.prog 12 #[.agg #[.int .i64 aap0, .int .i64 aap1, .string aap2, .slice aap3 aap4 aap5, .slice aap6 aap7 aap8], .agg #[.int .i64 v0, .int .i64 v1, .string v2, .slice v3 v4 v5, .slice v6 v7 v8]] m.now fun e w' => e = .returned (.bool true) ∧ Below m.now.heap.size m.now w') := fun m => samE (freshP_go hvaa m.from_) (freshP_go Hvq.out.val m.from_) hz11
        obtain ⟨caa0, caa1, caa2, caa3, caa4⟩ := Haa.out.blk.cell
        have daa0 := fun m => ext_cell caa0 m
        have daa1 := fun m => ext_cell caa1 m
        have daa2 := fun m => ext_cell caa2 m
        have daa3 := fun m => ext_cell caa3 m
        have daa4 := fun m => ext_cell caa4 m
        clear caa0 caa1 caa2 caa3 caa4
        obtain ⟨cv0, cv1, cv2, cv3, cv4⟩ := Hv.out.blk.cell
        have dv0 := fun m => ext_cell cv0 m
        have dv1 := fun m => ext_cell cv1 m
        have dv2 := fun m => ext_cell cv2 m
        have dv3 := fun m => ext_cell cv3 m
        have dv4 := fun m => ext_cell cv4 m
        clear cv0 cv1 cv2 cv3 cv4
        have ddeaa0 := fun m => ext_cell eaa0 m
        have ddeaa1 := fun m => ext_cell eaa1 m
        have ddeaa2 := fun m => ext_cell eaa2 m
        have ddeaa3 := fun m => ext_cell eaa3 m
        have ddeaa4 := fun m => ext_cell eaa4 m
        clear eaa0 eaa1 eaa2 eaa3 eaa4
        have hne := Ext.some W24
        have hbel := hide HE.out.bel
        clear HE Hv Hvq Haa Hbb Hnn hvaa haaS haax
        refine wp_region_ext (by kernel_rfl) (by kernel_rfl) ?_
        repeat (first | go_big_quiet_step ((go_at_call 12; first | with_reducible exact Calls.ext_of (e0.out _))) | quiet_step ((go_at_call 12; first | with_reducible exact Calls.ext_of (e0.out _))))
        refine wpQuiet_nil ?_
        intro w90 hw90
        obtain ⟨m, rfl⟩ := hw90
        go_wp2_with fail
        go_ret
        exact ⟨rfl, below_trans hbel.out m.from_⟩
      | true =>
        have hl2 : Nd.list (α := Tr 11) B1 = [tv] := by have := none_set (d := 10) (x := tv) (by rw [hB1.out]); rw [hB1.out] at this; exact this
        have hb7 : bb7 = 1 := by obtain ⟨_, _, hsl, _⟩ := (parts_of (d := 11) Hbb.out.val).2.2.2.2.2.2.2.open'; have := congrArg List.length hl2; cases hsl; exact this
        subst hb7
        obtain ⟨xaa0, xaa1, xaa2, xaa3, xaa4⟩ := Haa.out.blk.cell
        have xaal := Haa.out.blk.lt
        obtain ⟨xbb0, xbb1, xbb2, xbb3, xbb4⟩ := Hbb.out.blk.cell
        have xbbl := Hbb.out.blk.lt
        obtain ⟨W24, HW24⟩ : ∃ W1, Hid (w23.alloc (.cells #[.int .i64 (0), .int .i64 nn1, .string nn2, .slice nn3 nn4 nn5, .slice nn6 nn7 nn8] 26) = W1) := ⟨_, rfl⟩
        have hA24 : Below w23.heap.size w23 W24 := by rw [← HW24.out]; exact below_alloc1 _ _
        have Hnn : Hid (VarAt w W24 w23.heap.size (0) nn1 nn2 nn3 nn4 nn5 nn6 nn7 nn8 11 (zeroT 10)) := by rw [← HW24.out]; exact VarAt.new hu23
        clear hu23
        go_wp2_with fail
        rw [HW24.out]
        clear HW24
        clear xaa0 xaa1 xaa2 xaa3 xaa4 xaal xbb0 xbb1 xbb2 xbb3 xbb4 xbbl
        replace Hv := hide (Hv.out.go hA24)
        replace Hvq := hide (Hvq.out.go hA24)
        replace Haa := hide (Haa.out.go hA24)
        replace Hbb := hide (Hbb.out.go hA24)
        replace HE := hide (HE.out.go hA24)
        clear hA24
        obtain ⟨aab, aao, aax, aae0, aae1, aae2, aae3, aae4, haaa, haaS, haax, eaa0, eaa1, eaa2, eaa3, eaa4, hvaa⟩ := (parts_of (d := 11) Haa.out.val).2.2.2.2.2.2.2.cell (k := 0) (by rw [hl1]; exact Nat.zero_lt_one)
        rw [hl1] at haax
        obtain rfl : tv = aax := by simpa using haax
        subst haaa
        obtain ⟨aap0, aap1, aap2, aap3, aap4, aap5, aap6, aap7, aap8, hpaa⟩ := hvaa.shape
        cases hpaa
        simp only [Nat.zero_mul, Nat.add_zero] at eaa0 eaa1 eaa2 eaa3 eaa4
        have laa := haaS.1.2
        obtain ⟨bbb, bbo, bbx, bbe0, bbe1, bbe2, bbe3, bbe4, hbba, hbbS, hbbx, ebb0, ebb1, ebb2, ebb3, ebb4, hvbb⟩ := (parts_of (d := 11) Hbb.out.val).2.2.2.2.2.2.2.cell (k := 0) (by rw [hl2]; exact Nat.zero_lt_one)
        rw [hl2] at hbbx
        obtain rfl : tv = bbx := by simpa using hbbx
        subst hbba
        obtain ⟨bbp0, bbp1, bbp2, bbp3, bbp4, bbp5, bbp6, bbp7, bbp8, hpbb⟩ := hvbb.shape
        cases hpbb
        simp only [Nat.zero_mul, Nat.add_zero] at ebb0 ebb1 ebb2 ebb3 ebb4
        have lbb := hbbS.1.2
        have e0 : Hid (∀ m : Ext W24, Calls Tryz.prog 12 #[.agg #[.int .i64 aap0, .int .i64 aap1, .string aap2, .slice aap3 aap4 aap5, .slice aap6 aap7 aap8], .agg #[.int .i64 v0, .int .i64 v1, .string v2, .slice v3 v4 v5, .slice v6 v7 v8]] m.now fun e w' => e = .returned (.bool true) ∧ Below m.now.heap.size m.now w') := fun m => samE (freshP_go hvaa m.from_) (freshP_go Hvq.out.val m.from_) hz11
        have e1 : Hid (∀ m : Ext W24, Calls Tryz.prog 12 #[.agg #[.int .i64 bbp0, .int .i64 bbp1, .string bbp2, .slice bbp3 bbp4 bbp5, .slice bbp6 bbp7 bbp8], .agg #[.int .i64 v0, .int .i64 v1, .string v2, .slice v3 v4 v5, .slice v6 v7 v8]] m.now fun e w' => e = .returned (.bool true) ∧ Below m.now.heap.size m.now w') := fun m => samE (freshP_go hvbb m.from_) (freshP_go Hvq.out.val m.from_) hz11
        obtain ⟨caa0, caa1, caa2, caa3, caa4⟩ := Haa.out.blk.cell
        have daa0 := fun m => ext_cell caa0 m
        have daa1 := fun m => ext_cell caa1 m
        have daa2 := fun m => ext_cell caa2 m
        have daa3 := fun m => ext_cell caa3 m
        have daa4 := fun m => ext_cell caa4 m
        clear caa0 caa1 caa2 caa3 caa4
        obtain ⟨cv0, cv1, cv2, cv3, cv4⟩ := Hv.out.blk.cell
        have dv0 := fun m => ext_cell cv0 m
        have dv1 := fun m => ext_cell cv1 m
        have dv2 := fun m => ext_cell cv2 m
        have dv3 := fun m => ext_cell cv3 m
        have dv4 := fun m => ext_cell cv4 m
        clear cv0 cv1 cv2 cv3 cv4
        obtain ⟨cbb0, cbb1, cbb2, cbb3, cbb4⟩ := Hbb.out.blk.cell
        have dbb0 := fun m => ext_cell cbb0 m
        have dbb1 := fun m => ext_cell cbb1 m
        have dbb2 := fun m => ext_cell cbb2 m
        have dbb3 := fun m => ext_cell cbb3 m
        have dbb4 := fun m => ext_cell cbb4 m
        clear cbb0 cbb1 cbb2 cbb3 cbb4
        have ddeaa0 := fun m => ext_cell eaa0 m
        have ddeaa1 := fun m => ext_cell eaa1 m
        have ddeaa2 := fun m => ext_cell eaa2 m
        have ddeaa3 := fun m => ext_cell eaa3 m
        have ddeaa4 := fun m => ext_cell eaa4 m
        have ddebb0 := fun m => ext_cell ebb0 m
        have ddebb1 := fun m => ext_cell ebb1 m
        have ddebb2 := fun m => ext_cell ebb2 m
        have ddebb3 := fun m => ext_cell ebb3 m
        have ddebb4 := fun m => ext_cell ebb4 m
        clear eaa0 eaa1 eaa2 eaa3 eaa4 ebb0 ebb1 ebb2 ebb3 ebb4
        have hne := Ext.some W24
        have hbel := hide HE.out.bel
        clear HE Hv Hvq Haa Hbb Hnn hvaa haaS haax hvbb hbbS hbbx
        refine wp_region_ext (by kernel_rfl) (by kernel_rfl) ?_
        repeat (first | go_big_quiet_step ((go_at_call 12; first | with_reducible exact Calls.ext_of (e0.out _) | with_reducible exact Calls.ext_of (e1.out _))) | quiet_step ((go_at_call 12; first | with_reducible exact Calls.ext_of (e0.out _) | with_reducible exact Calls.ext_of (e1.out _))))
        refine wpQuiet_nil ?_
        intro w90 hw90
        obtain ⟨m, rfl⟩ := hw90
        go_wp2_with fail
        go_ret
        exact ⟨rfl, below_trans hbel.out m.from_⟩
  ·

    have hk1 : (partKeysT 10 V).2 = false := by unfold partKeysT; rw [if_neg (fun e => by rw [hok] at e; cases e.1)]
    have hk2 : (eachT 11 V).2 = false := by unfold eachT; rw [if_neg (fun e => by rw [hok] at e; cases e.1)]
    clear xv0 xv1 xv2 xv3 xv4 xvl
    have hc := keysI (d := 10) Hv.out.val HE.out.err HE.out.le
    rw [hk1] at hc
    refine hc.mono ?_
    clear hc
    rintro e w15 ⟨kk0, kk1, kk2, kk3, kk4, kk5, kk6, kk7, kk8, rfl, hu15, hb15⟩
    replace Hv := hide (Hv.out.go hb15)
    replace Hvq := hide (Hvq.out.go hb15)
    replace HE := hide (HE.out.go hb15)
    clear hb15
    obtain ⟨xv0, xv1, xv2, xv3, xv4⟩ := Hv.out.blk.cell
    have xvl := Hv.out.blk.lt
    obtain ⟨W16, HW16⟩ : ∃ W1, Hid (w15.alloc (.cells #[.int .i64 kk0, .int .i64 kk1, .string kk2, .slice kk3 kk4 kk5, .slice kk6 kk7 kk8] 26) = W1) := ⟨_, rfl⟩
    have hA16 : Below w15.heap.size w15 W16 := by rw [← HW16.out]; exact below_alloc1 _ _
    have Hkk : Hid (VarAt w W16 w15.heap.size kk0 kk1 kk2 kk3 kk4 kk5 kk6 kk7 kk8 12 (partKeysT 10 V).1) := by rw [← HW16.out]; exact VarAt.new hu15
    clear hu15
    go_wp2_with fail
    rw [HW16.out]
    clear HW16
    clear xv0 xv1 xv2 xv3 xv4 xvl
    replace Hv := hide (Hv.out.go hA16)
    replace Hvq := hide (Hvq.out.go hA16)
    replace HE := hide (HE.out.go hA16)
    clear hA16
    clear Hkk
    have hc := eachI (d := 11) Hv.out.val HE.out.err HE.out.le
    rw [hk2] at hc
    refine hc.mono ?_
    clear hc
    rintro e w17 ⟨eea, eec, rfl, hu17, hb17⟩
    replace Hv := hide (Hv.out.go hb17)
    replace Hvq := hide (Hvq.out.go hb17)
    replace HE := hide (HE.out.go hb17)
    clear hb17
    clear hu17
    obtain ⟨xv0, xv1, xv2, xv3, xv4⟩ := Hv.out.blk.cell
    have xvl := Hv.out.blk.lt
    go_wp2_with fail
    clear xv0 xv1 xv2 xv3 xv4 xvl
    have hc := okS_at Hv.out.val hz12
    rw [hok] at hc
    refine hc.mono ?_
    clear hc
    rintro e w18 ⟨rfl, hb18⟩
    replace Hv := hide (Hv.out.go hb18)
    replace Hvq := hide (Hvq.out.go hb18)
    replace HE := hide (HE.out.go hb18)
    clear hb18
    obtain ⟨xv0, xv1, xv2, xv3, xv4⟩ := Hv.out.blk.cell
    have xvl := Hv.out.blk.lt
    go_wp2_with fail
    obtain ⟨⟨A1, p1⟩, hA1⟩ : ∃ r, Hid (partPutT 10 (zeroT 11) ⟨#[107]⟩ tv = r) := ⟨_, rfl⟩
    obtain ⟨⟨B1, p2⟩, hB1⟩ : ∃ r, Hid (partSetT 10 (zeroT 11) 0 tv = r) := ⟨_, rfl⟩
    have hG : Hid (partGetT 10 (zeroT 11) ⟨#[107]⟩ = (zeroT 10, true)) := none_get 10 (by decide)
    clear xv0 xv1 xv2 xv3 xv4 xvl
    have hc := putI (d := 10) (s := ⟨#[107]⟩) (zero_at _ _ 11) Hvq.out.val (by decide) HE.out.err HE.out.le
    rw [hA1.out] at hc; dsimp only at hc
    refine hc.mono ?_
    clear hc
    rintro e w19 ⟨aa0, aa1, aa2, aa3, aa4, aa5, aa6, aa7, aa8, rfl, hu19, hb19⟩
    replace Hv := hide (Hv.out.go hb19)
    replace Hvq := hide (Hvq.out.go hb19)
    replace HE := hide (HE.out.go hb19)
    clear hb19
    obtain ⟨xv0, xv1, xv2, xv3, xv4⟩ := Hv.out.blk.cell
    have xvl := Hv.out.blk.lt
    obtain ⟨W20, HW20⟩ : ∃ W1, Hid (w19.alloc (.cells #[.int .i64 aa0, .int .i64 aa1, .string aa2, .slice aa3 aa4 aa5, .slice aa6 aa7 aa8] 26) = W1) := ⟨_, rfl⟩
    have hA20 : Below w19.heap.size w19 W20 := by rw [← HW20.out]; exact below_alloc1 _ _
    have Haa : Hid (VarAt w W20 w19.heap.size aa0 aa1 aa2 aa3 aa4 aa5 aa6 aa7 aa8 12 A1) := by rw [← HW20.out]; exact VarAt.new hu19
    clear hu19
    go_wp2_with fail
    rw [HW20.out]
    clear HW20
    clear xv0 xv1 xv2 xv3 xv4 xvl
    replace Hv := hide (Hv.out.go hA20)
    replace Hvq := hide (Hvq.out.go hA20)
    replace HE := hide (HE.out.go hA20)
    clear hA20
    have hc := setI (d := 10) (i := 0) (zero_at _ _ 11) Hvq.out.val ⟨by omega, by omega⟩ HE.out.err HE.out.le
    rw [hB1.out] at hc; dsimp only at hc
    refine hc.mono ?_
    clear hc
    rintro e w21 ⟨bb0, bb1, bb2, bb3, bb4, bb5, bb6, bb7, bb8, rfl, hu21, hb21⟩
    replace Hv := hide (Hv.out.go hb21)
    replace Hvq := hide (Hvq.out.go hb21)
    replace Haa := hide (Haa.out.go hb21)
    replace HE := hide (HE.out.go hb21)
    clear hb21
    obtain ⟨W22, HW22⟩ : ∃ W1, Hid (w21.alloc (.cells #[.int .i64 bb0, .int .i64 bb1, .string bb2, .slice bb3 bb4 bb5, .slice bb6 bb7 bb8] 26) = W1) := ⟨_, rfl⟩
    have hA22 : Below w21.heap.size w21 W22 := by rw [← HW22.out]; exact below_alloc1 _ _
    have Hbb : Hid (VarAt w W22 w21.heap.size bb0 bb1 bb2 bb3 bb4 bb5 bb6 bb7 bb8 12 B1) := by rw [← HW22.out]; exact VarAt.new hu21
    clear hu21
    go_wp2_with fail
    rw [HW22.out]
    clear HW22
    replace Hv := hide (Hv.out.go hA22)
    replace Hvq := hide (Hvq.out.go hA22)
    replace Haa := hide (Haa.out.go hA22)
    replace HE := hide (HE.out.go hA22)
    clear hA22
    have hc := getI (d := 10) (s := ⟨#[107]⟩) (zero_at _ _ 11) (by decide) HE.out.err HE.out.le
    rw [hG.out] at hc; dsimp only at hc
    refine hc.mono ?_
    clear hc
    rintro e w23 ⟨nn0, nn1, nn2, nn3, nn4, nn5, nn6, nn7, nn8, rfl, hu23, hb23⟩
    replace Hv := hide (Hv.out.go hb23)
    replace Hvq := hide (Hvq.out.go hb23)
    replace Haa := hide (Haa.out.go hb23)
    replace Hbb := hide (Hbb.out.go hb23)
    replace HE := hide (HE.out.go hb23)
    clear hb23
    have hn0 : nn0 = 0 := by have := (parts_of (d := 10) hu23).1; cases this; rfl
    subst hn0
    cases p1 with
    | false =>
      cases p2 with
      | false =>
        obtain ⟨xaa0, xaa1, xaa2, xaa3, xaa4⟩ := Haa.out.blk.cell
        have xaal := Haa.out.blk.lt
        obtain ⟨xbb0, xbb1, xbb2, xbb3, xbb4⟩ := Hbb.out.blk.cell
        have xbbl := Hbb.out.blk.lt
        obtain ⟨W24, HW24⟩ : ∃ W1, Hid (w23.alloc (.cells #[.int .i64 (0), .int .i64 nn1, .string nn2, .slice nn3 nn4 nn5, .slice nn6 nn7 nn8] 26) = W1) := ⟨_, rfl⟩
        have hA24 : Below w23.heap.size w23 W24 := by rw [← HW24.out]; exact below_alloc1 _ _
        have Hnn : Hid (VarAt w W24 w23.heap.size (0) nn1 nn2 nn3 nn4 nn5 nn6 nn7 nn8 11 (zeroT 10)) := by rw [← HW24.out]; exact VarAt.new hu23
        clear hu23
        go_wp2_with fail
        rw [HW24.out]
        clear HW24
        clear xaa0 xaa1 xaa2 xaa3 xaa4 xaal xbb0 xbb1 xbb2 xbb3 xbb4 xbbl
        replace Hv := hide (Hv.out.go hA24)
        replace Hvq := hide (Hvq.out.go hA24)
        replace Haa := hide (Haa.out.go hA24)
        replace Hbb := hide (Hbb.out.go hA24)
        replace HE := hide (HE.out.go hA24)
        clear hA24
        have hne := Ext.some W24
        have hbel := hide HE.out.bel
        clear HE Hv Hvq Haa Hbb Hnn
        refine wp_region_ext (by kernel_rfl) (by kernel_rfl) ?_
        repeat (first | go_big_quiet_step (fail) | quiet_step (fail))
        refine wpQuiet_nil ?_
        intro w90 hw90
        obtain ⟨m, rfl⟩ := hw90
        go_wp2_with fail
        go_ret
        exact ⟨rfl, below_trans hbel.out m.from_⟩
      | true =>
        have hl2 : Nd.list (α := Tr 11) B1 = [tv] := by have := none_set (d := 10) (x := tv) (by rw [hB1.out]); rw [hB1.out] at this; exact this
        have hb7 : bb7 = 1 := by obtain ⟨_, _, hsl, _⟩ := (parts_of (d := 11) Hbb.out.val).2.2.2.2.2.2.2.open'; have := congrArg List.length hl2; cases hsl; exact this
        subst hb7
        obtain ⟨xaa0, xaa1, xaa2, xaa3, xaa4⟩ := Haa.out.blk.cell
        have xaal := Haa.out.blk.lt
        obtain ⟨xbb0, xbb1, xbb2, xbb3, xbb4⟩ := Hbb.out.blk.cell
        have xbbl := Hbb.out.blk.lt
        obtain ⟨W24, HW24⟩ : ∃ W1, Hid (w23.alloc (.cells #[.int .i64 (0), .int .i64 nn1, .string nn2, .slice nn3 nn4 nn5, .slice nn6 nn7 nn8] 26) = W1) := ⟨_, rfl⟩
        have hA24 : Below w23.heap.size w23 W24 := by rw [← HW24.out]; exact below_alloc1 _ _
        have Hnn : Hid (VarAt w W24 w23.heap.size (0) nn1 nn2 nn3 nn4 nn5 nn6 nn7 nn8 11 (zeroT 10)) := by rw [← HW24.out]; exact VarAt.new hu23
        clear hu23
        go_wp2_with fail
        rw [HW24.out]
        clear HW24
        clear xaa0 xaa1 xaa2 xaa3 xaa4 xaal xbb0 xbb1 xbb2 xbb3 xbb4 xbbl
        replace Hv := hide (Hv.out.go hA24)
        replace Hvq := hide (Hvq.out.go hA24)
        replace Haa := hide (Haa.out.go hA24)
        replace Hbb := hide (Hbb.out.go hA24)
        replace HE := hide (HE.out.go hA24)
        clear hA24
        have hne := Ext.some W24
        have hbel := hide HE.out.bel
        clear HE Hv Hvq Haa Hbb Hnn
        refine wp_region_ext (by kernel_rfl) (by kernel_rfl) ?_
        repeat (first | go_big_quiet_step (fail) | quiet_step (fail))
        refine wpQuiet_nil ?_
        intro w90 hw90
        obtain ⟨m, rfl⟩ := hw90
        go_wp2_with fail
        go_ret
        exact ⟨rfl, below_trans hbel.out m.from_⟩
    | true =>
      have hl1 : Nd.list (α := Tr 11) A1 = [tv] := by have := none_put (d := 10) (s := ⟨#[107]⟩) (x := tv) (by rw [hA1.out]); rw [hA1.out] at this; exact this
      have ha7 : aa7 = 1 := by obtain ⟨_, _, hsl, _⟩ := (parts_of (d := 11) Haa.out.val).2.2.2.2.2.2.2.open'; have := congrArg List.length hl1; cases hsl; exact this
      subst ha7
      cases p2 with
      | false =>
        obtain ⟨xaa0, xaa1, xaa2, xaa3, xaa4⟩ := Haa.out.blk.cell
        have xaal := Haa.out.blk.lt
        obtain ⟨xbb0, xbb1, xbb2, xbb3, xbb4⟩ := Hbb.out.blk.cell
        have xbbl := Hbb.out.blk.lt
        obtain ⟨W24, HW24⟩ : ∃ W1, Hid (w23.alloc (.cells #[.int .i64 (0), .int .i64 nn1, .string nn2, .slice nn3 nn4 nn5, .slice nn6 nn7 nn8] 26) = W1) := ⟨_, rfl⟩
        have hA24 : Below w23.heap.size w23 W24 := by rw [← HW24.out]; exact below_alloc1 _ _
        have Hnn : Hid (VarAt w W24 w23.heap.size (0) nn1 nn2 nn3 nn4 nn5 nn6 nn7 nn8 11 (zeroT 10)) := by rw [← HW24.out]; exact VarAt.new hu23
        clear hu23
        go_wp2_with fail
        rw [HW24.out]
        clear HW24
        clear xaa0 xaa1 xaa2 xaa3 xaa4 xaal xbb0 xbb1 xbb2 xbb3 xbb4 xbbl
        replace Hv := hide (Hv.out.go hA24)
        replace Hvq := hide (Hvq.out.go hA24)
        replace Haa := hide (Haa.out.go hA24)
        replace Hbb := hide (Hbb.out.go hA24)
        replace HE := hide (HE.out.go hA24)
        clear hA24
        obtain ⟨aab, aao, aax, aae0, aae1, aae2, aae3, aae4, haaa, haaS, haax, eaa0, eaa1, eaa2, eaa3, eaa4, hvaa⟩ := (parts_of (d := 11) Haa.out.val).2.2.2.2.2.2.2.cell (k := 0) (by rw [hl1]; exact Nat.zero_lt_one)
        rw [hl1] at haax
        obtain rfl : tv = aax := by simpa using haax
        subst haaa
        obtain ⟨aap0, aap1, aap2, aap3, aap4, aap5, aap6, aap7, aap8, hpaa⟩ := hvaa.shape
        cases hpaa
        simp only [Nat.zero_mul, Nat.add_zero] at eaa0 eaa1 eaa2 eaa3 eaa4
        have laa := haaS.1.2
        have e0 : Hid (∀ m : Ext W24, Calls Tryz.prog 12 #[.agg #[.int .i64 aap0, .int .i64 aap1, .string aap2, .slice aap3 aap4 aap5, .slice aap6 aap7 aap8], .agg #[.int .i64 v0, .int .i64 v1, .string v2, .slice v3 v4 v5, .slice v6 v7 v8]] m.now fun e w' => e = .returned (.bool true) ∧ Below m.now.heap.size m.now w') := fun m => samE (freshP_go hvaa m.from_) (freshP_go Hvq.out.val m.from_) hz11
        obtain ⟨caa0, caa1, caa2, caa3, caa4⟩ := Haa.out.blk.cell
        have daa0 := fun m => ext_cell caa0 m
        have daa1 := fun m => ext_cell caa1 m
        have daa2 := fun m => ext_cell caa2 m
        have daa3 := fun m => ext_cell caa3 m
        have daa4 := fun m => ext_cell caa4 m
        clear caa0 caa1 caa2 caa3 caa4
        obtain ⟨cv0, cv1, cv2, cv3, cv4⟩ := Hv.out.blk.cell
        have dv0 := fun m => ext_cell cv0 m
        have dv1 := fun m => ext_cell cv1 m
        have dv2 := fun m => ext_cell cv2 m
        have dv3 := fun m => ext_cell cv3 m
        have dv4 := fun m => ext_cell cv4 m
        clear cv0 cv1 cv2 cv3 cv4
        have ddeaa0 := fun m => ext_cell eaa0 m
        have ddeaa1 := fun m => ext_cell eaa1 m
        have ddeaa2 := fun m => ext_cell eaa2 m
        have ddeaa3 := fun m => ext_cell eaa3 m
        have ddeaa4 := fun m => ext_cell eaa4 m
        clear eaa0 eaa1 eaa2 eaa3 eaa4
        have hne := Ext.some W24
        have hbel := hide HE.out.bel
        clear HE Hv Hvq Haa Hbb Hnn hvaa haaS haax
        refine wp_region_ext (by kernel_rfl) (by kernel_rfl) ?_
        repeat (first | go_big_quiet_step ((go_at_call 12; first | with_reducible exact Calls.ext_of (e0.out _))) | quiet_step ((go_at_call 12; first | with_reducible exact Calls.ext_of (e0.out _))))
        refine wpQuiet_nil ?_
        intro w90 hw90
        obtain ⟨m, rfl⟩ := hw90
        go_wp2_with fail
        go_ret
        exact ⟨rfl, below_trans hbel.out m.from_⟩
      | true =>
        have hl2 : Nd.list (α := Tr 11) B1 = [tv] := by have := none_set (d := 10) (x := tv) (by rw [hB1.out]); rw [hB1.out] at this; exact this
        have hb7 : bb7 = 1 := by obtain ⟨_, _, hsl, _⟩ := (parts_of (d := 11) Hbb.out.val).2.2.2.2.2.2.2.open'; have := congrArg List.length hl2; cases hsl; exact this
        subst hb7
        obtain ⟨xaa0, xaa1, xaa2, xaa3, xaa4⟩ := Haa.out.blk.cell
        have xaal := Haa.out.blk.lt
        obtain ⟨xbb0, xbb1, xbb2, xbb3, xbb4⟩ := Hbb.out.blk.cell
        have xbbl := Hbb.out.blk.lt
        obtain ⟨W24, HW24⟩ : ∃ W1, Hid (w23.alloc (.cells #[.int .i64 (0), .int .i64 nn1, .string nn2, .slice nn3 nn4 nn5, .slice nn6 nn7 nn8] 26) = W1) := ⟨_, rfl⟩
        have hA24 : Below w23.heap.size w23 W24 := by rw [← HW24.out]; exact below_alloc1 _ _
        have Hnn : Hid (VarAt w W24 w23.heap.size (0) nn1 nn2 nn3 nn4 nn5 nn6 nn7 nn8 11 (zeroT 10)) := by rw [← HW24.out]; exact VarAt.new hu23
        clear hu23
        go_wp2_with fail
        rw [HW24.out]
        clear HW24
        clear xaa0 xaa1 xaa2 xaa3 xaa4 xaal xbb0 xbb1 xbb2 xbb3 xbb4 xbbl
        replace Hv := hide (Hv.out.go hA24)
        replace Hvq := hide (Hvq.out.go hA24)
        replace Haa := hide (Haa.out.go hA24)
        replace Hbb := hide (Hbb.out.go hA24)
        replace HE := hide (HE.out.go hA24)
        clear hA24
        obtain ⟨aab, aao, aax, aae0, aae1, aae2, aae3, aae4, haaa, haaS, haax, eaa0, eaa1, eaa2, eaa3, eaa4, hvaa⟩ := (parts_of (d := 11) Haa.out.val).2.2.2.2.2.2.2.cell (k := 0) (by rw [hl1]; exact Nat.zero_lt_one)
        rw [hl1] at haax
        obtain rfl : tv = aax := by simpa using haax
        subst haaa
        obtain ⟨aap0, aap1, aap2, aap3, aap4, aap5, aap6, aap7, aap8, hpaa⟩ := hvaa.shape
        cases hpaa
        simp only [Nat.zero_mul, Nat.add_zero] at eaa0 eaa1 eaa2 eaa3 eaa4
        have laa := haaS.1.2
        obtain ⟨bbb, bbo, bbx, bbe0, bbe1, bbe2, bbe3, bbe4, hbba, hbbS, hbbx, ebb0, ebb1, ebb2, ebb3, ebb4, hvbb⟩ := (parts_of (d := 11) Hbb.out.val).2.2.2.2.2.2.2.cell (k := 0) (by rw [hl2]; exact Nat.zero_lt_one)
        rw [hl2] at hbbx
        obtain rfl : tv = bbx := by simpa using hbbx
        subst hbba
        obtain ⟨bbp0, bbp1, bbp2, bbp3, bbp4, bbp5, bbp6, bbp7, bbp8, hpbb⟩ := hvbb.shape
        cases hpbb
        simp only [Nat.zero_mul, Nat.add_zero] at ebb0 ebb1 ebb2 ebb3 ebb4
        have lbb := hbbS.1.2
        have e0 : Hid (∀ m : Ext W24, Calls Tryz.prog 12 #[.agg #[.int .i64 aap0, .int .i64 aap1, .string aap2, .slice aap3 aap4 aap5, .slice aap6 aap7 aap8], .agg #[.int .i64 v0, .int .i64 v1, .string v2, .slice v3 v4 v5, .slice v6 v7 v8]] m.now fun e w' => e = .returned (.bool true) ∧ Below m.now.heap.size m.now w') := fun m => samE (freshP_go hvaa m.from_) (freshP_go Hvq.out.val m.from_) hz11
        have e1 : Hid (∀ m : Ext W24, Calls Tryz.prog 12 #[.agg #[.int .i64 bbp0, .int .i64 bbp1, .string bbp2, .slice bbp3 bbp4 bbp5, .slice bbp6 bbp7 bbp8], .agg #[.int .i64 v0, .int .i64 v1, .string v2, .slice v3 v4 v5, .slice v6 v7 v8]] m.now fun e w' => e = .returned (.bool true) ∧ Below m.now.heap.size m.now w') := fun m => samE (freshP_go hvbb m.from_) (freshP_go Hvq.out.val m.from_) hz11
        obtain ⟨caa0, caa1, caa2, caa3, caa4⟩ := Haa.out.blk.cell
        have daa0 := fun m => ext_cell caa0 m
        have daa1 := fun m => ext_cell caa1 m
        have daa2 := fun m => ext_cell caa2 m
        have daa3 := fun m => ext_cell caa3 m
        have daa4 := fun m => ext_cell caa4 m
        clear caa0 caa1 caa2 caa3 caa4
        obtain ⟨cv0, cv1, cv2, cv3, cv4⟩ := Hv.out.blk.cell
        have dv0 := fun m => ext_cell cv0 m
        have dv1 := fun m => ext_cell cv1 m
        have dv2 := fun m => ext_cell cv2 m
        have dv3 := fun m => ext_cell cv3 m
        have dv4 := fun m => ext_cell cv4 m
        clear cv0 cv1 cv2 cv3 cv4
        obtain ⟨cbb0, cbb1, cbb2, cbb3, cbb4⟩ := Hbb.out.blk.cell
        have dbb0 := fun m => ext_cell cbb0 m
        have dbb1 := fun m => ext_cell cbb1 m
        have dbb2 := fun m => ext_cell cbb2 m
        have dbb3 := fun m => ext_cell cbb3 m
        have dbb4 := fun m => ext_cell cbb4 m
        clear cbb0 cbb1 cbb2 cbb3 cbb4
        have ddeaa0 := fun m => ext_cell eaa0 m
        have ddeaa1 := fun m => ext_cell eaa1 m
        have ddeaa2 := fun m => ext_cell eaa2 m
        have ddeaa3 := fun m => ext_cell eaa3 m
        have ddeaa4 := fun m => ext_cell eaa4 m
        have ddebb0 := fun m => ext_cell ebb0 m
        have ddebb1 := fun m => ext_cell ebb1 m
        have ddebb2 := fun m => ext_cell ebb2 m
        have ddebb3 := fun m => ext_cell ebb3 m
        have ddebb4 := fun m => ext_cell ebb4 m
        clear eaa0 eaa1 eaa2 eaa3 eaa4 ebb0 ebb1 ebb2 ebb3 ebb4
        have hne := Ext.some W24
        have hbel := hide HE.out.bel
        clear HE Hv Hvq Haa Hbb Hnn hvaa haaS haax hvbb hbbS hbbx
        refine wp_region_ext (by kernel_rfl) (by kernel_rfl) ?_
        repeat (first | go_big_quiet_step ((go_at_call 12; first | with_reducible exact Calls.ext_of (e0.out _) | with_reducible exact Calls.ext_of (e1.out _))) | quiet_step ((go_at_call 12; first | with_reducible exact Calls.ext_of (e0.out _) | with_reducible exact Calls.ext_of (e1.out _))))
        refine wpQuiet_nil ?_
        intro w90 hw90
        obtain ⟨m, rfl⟩ := hw90
        go_wp2_with fail
        go_ret
        exact ⟨rfl, below_trans hbel.out m.from_⟩
end Go.Proofs.YtgjahnkldobphaaGreatDoor
