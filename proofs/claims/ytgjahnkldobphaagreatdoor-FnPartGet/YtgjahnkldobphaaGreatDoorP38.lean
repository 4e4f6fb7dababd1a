/- Texts of the proof, put together by program: LFnPartGet. -/
import Derived.Test.YtgjahnkldobphaaGreatDoorP37
/- FnPartGet: for all bytes that lie in memory the law answers true. -/
namespace Go.Proofs.YtgjahnkldobphaaGreatDoor
open Go.RowKit Go.Deep

set_option maxRecDepth 100000 in
set_option maxHeartbeats 16000000 in
theorem lawFnPartGet (a : Option Addr) (n cap : Nat) (w : World) (hcap : n ≤ cap) (_hm : cap ≤ 9223372036854775807) (hB : BytesAt w.heap.size w a n) (hg : ErrType w) :
    Calls Tryz.prog 4 #[.slice a n cap] w fun e w' => e = .returned (.bool true) ∧ Below w.heap.size w w' := by
  by_cases hn : 1048576 < n
  · go_enter Tryz.func4, Tryz.ntmps4
    go_wp2_with fail
    go_ret
    exact ⟨rfl, Below.refl _ _⟩
  go_enter Tryz.func4, Tryz.ntmps4
  go_wp2_with fail
  refine (drawPartEach_any a n cap w hcap hB).mono ?_
  rintro e w1 ⟨u, tv, rfl, hv, hv1, hb1⟩
  obtain ⟨v0, v1, v2, v3, v4, v5, v6, v7, v8, rfl⟩ := hv.shape
  have HE : Hid (Amid w w1) := ⟨hb1, hg.below hb1⟩
  clear hb1 hB
  have hv12 := hv.upN 1
  have hz12 : wtT 12 (upN 11 1 tv) ≤ 10000 := Nat.le_trans (Nat.le_of_eq (wtT_upN 11 1 tv)) (by omega)
  obtain ⟨V, hV⟩ : ∃ V : Tr 12, V = upN 11 1 tv := ⟨_, rfl⟩
  replace hv12 : ValAt (FreshP w w1) w1 12 V (.agg #[.int .i64 v0, .int .i64 v1, .string v2, .slice v3 v4 v5, .slice v6 v7 v8]) := by rw [hV]; exact hv12
  rw [← hV] at hz12
  clear hV hv1 hv
  have HK0 := hide (val_parts hv12).1
  have HL7 := hide (val_parts hv12).2.2.2.2.1
  obtain ⟨W2, HW2⟩ : ∃ W1, Hid (w1.alloc (.cells #[.int .i64 v0, .int .i64 v1, .string v2, .slice v3 v4 v5, .slice v6 v7 v8] 26) = W1) := ⟨_, rfl⟩
  have hA2 : Below w1.heap.size w1 W2 := by rw [← HW2.out]; exact below_alloc1 _ _
  have Hv : Hid (VarAt w W2 w1.heap.size v0 v1 v2 v3 v4 v5 v6 v7 v8 12 V) := by rw [← HW2.out]; exact VarAt.new hv12
  clear hv12
  go_wp2_with fail
  rw [HW2.out]
  clear HW2
  replace HE := hide (HE.out.go hA2)
  clear hA2
  have hc3 : (okT 12 V = true ∧ 5 ≤ Nd.kind V) ∨ ¬ (okT 12 V = true ∧ 5 ≤ Nd.kind V) := Classical.em _
  rcases hc3 with hok | hok
  ·
    have hE : Hid (eachT 11 V = (Nd.list V, true)) := by show eachT 11 V = _; unfold eachT; rw [if_pos hok]
    have hKk : Hid (partKeysT 10 V = (rowK 10 (keyTs 10 V), true)) := by show partKeysT 10 V = _; unfold partKeysT; rw [if_pos hok]
    have hc := eachI (d := 11) Hv.out.val HE.out.err HE.out.le
    rw [hE.out] at hc; dsimp only at hc
    refine hc.mono ?_
    clear hc
    rintro e w3 ⟨eaa, eac, rfl, hu3, hb3⟩
    replace Hv := hide (Hv.out.go hb3)
    replace HE := hide (HE.out.go hb3)
    clear hb3
    have Hea : Hid (RowsAt w w3 eaa eac 11 (Nd.list V)) := ⟨hu3⟩
    clear hu3
    obtain ⟨xv0, xv1, xv2, xv3, xv4⟩ := Hv.out.blk.cell
    have xvl := Hv.out.blk.lt
    go_wp2_with fail
    clear xv0 xv1 xv2 xv3 xv4 xvl
    have hc := eachS (d := 11) Hv.out.val hz12 HE.out.le
    rw [hE.out] at hc; dsimp only at hc
    refine hc.mono ?_
    clear hc
    rintro e w4 ⟨waa, wac, rfl, hu4, hb4⟩
    replace Hv := hide (Hv.out.go hb4)
    replace Hea := hide (Hea.out.go hb4)
    replace HE := hide (HE.out.go hb4)
    clear hb4
    have Hwa : Hid (RowsAt w w4 waa wac 11 (Nd.list V)) := ⟨hu4⟩
    clear hu4
    obtain ⟨xv0, xv1, xv2, xv3, xv4⟩ := Hv.out.blk.cell
    have xvl := Hv.out.blk.lt
    go_wp2_with fail
    obtain ⟨⟨L, lb⟩, hL⟩ : ∃ r, Hid (partLenT 11 V = r) := ⟨_, rfl⟩
    have hzL : wtT 12 L ≤ 10000 := by have := wtT_ok (okT_partLen 11 V); rw [hL.out] at this; have h2 : wtT 12 L ≤ 300 := this; omega
    clear xv0 xv1 xv2 xv3 xv4 xvl
    have hc := lenI (d := 11) Hv.out.val HE.out.err HE.out.le
    rw [hL.out] at hc; dsimp only at hc
    refine hc.mono ?_
    clear hc
    rintro e w5 ⟨l0, l1, l2, l3, l4, l5, l6, l7, l8, rfl, hu5, hb5⟩
    replace Hv := hide (Hv.out.go hb5)
    replace Hea := hide (Hea.out.go hb5)
    replace Hwa := hide (Hwa.out.go hb5)
    replace HE := hide (HE.out.go hb5)
    clear hb5
    obtain ⟨xv0, xv1, xv2, xv3, xv4⟩ := Hv.out.blk.cell
    have xvl := Hv.out.blk.lt
    obtain ⟨W6, HW6⟩ : ∃ W1, Hid (w5.alloc (.cells #[.int .i64 l0, .int .i64 l1, .string l2, .slice l3 l4 l5, .slice l6 l7 l8] 26) = W1) := ⟨_, rfl⟩
    have hA6 : Below w5.heap.size w5 W6 := by rw [← HW6.out]; exact below_alloc1 _ _
    have Hl : Hid (VarAt w W6 w5.heap.size l0 l1 l2 l3 l4 l5 l6 l7 l8 12 L) := by rw [← HW6.out]; exact VarAt.new hu5
    clear hu5
    go_wp2_with fail
    rw [HW6.out]
    clear HW6
    clear xv0 xv1 xv2 xv3 xv4 xvl
    replace Hv := hide (Hv.out.go hA6)
    replace Hea := hide (Hea.out.go hA6)
    replace Hwa := hide (Hwa.out.go hA6)
    replace HE := hide (HE.out.go hA6)
    clear hA6
    have hc := lenS (d := 11) Hv.out.val hz12 HE.out.le
    rw [hL.out] at hc; dsimp only at hc
    refine hc.mono ?_
    clear hc
    rintro e w7 ⟨m0, m1, m2, m3, m4, m5, m6, m7, m8, rfl, hu7, hb7⟩
    replace Hv := hide (Hv.out.go hb7)
    replace Hea := hide (Hea.out.go hb7)
    replace Hwa := hide (Hwa.out.go hb7)
    replace Hl := hide (Hl.out.go hb7)
    replace HE := hide (HE.out.go hb7)
    clear hb7
    obtain ⟨xv0, xv1, xv2, xv3, xv4⟩ := Hv.out.blk.cell
    have xvl := Hv.out.blk.lt
    obtain ⟨W8, HW8⟩ : ∃ W1, Hid (w7.alloc (.cells #[.int .i64 m0, .int .i64 m1, .string m2, .slice m3 m4 m5, .slice m6 m7 m8] 26) = W1) := ⟨_, rfl⟩
    have hA8 : Below w7.heap.size w7 W8 := by rw [← HW8.out]; exact below_alloc1 _ _
    have Hm : Hid (VarAt w W8 w7.heap.size m0 m1 m2 m3 m4 m5 m6 m7 m8 12 L) := by rw [← HW8.out]; exact VarAt.new hu7
    clear hu7
    go_wp2_with fail
    rw [HW8.out]
    clear HW8
    clear xv0 xv1 xv2 xv3 xv4 xvl
    replace Hv := hide (Hv.out.go hA8)
    replace Hea := hide (Hea.out.go hA8)
    replace Hwa := hide (Hwa.out.go hA8)
    replace Hl := hide (Hl.out.go hA8)
    replace HE := hide (HE.out.go hA8)
    clear hA8
    obtain ⟨KT, hKT⟩ : ∃ K : Tr 12, Hid (rowK 10 (keyTs 10 V) = K) := ⟨_, rfl⟩
    rw [hKT.out] at hKk
    have hzK : wtT 12 KT ≤ 10000 := by have := wtT_ok (okT_partKeys 10 V); rw [hKk.out] at this; have h2 : wtT 12 KT ≤ 300 := this; omega
    have hc := keysI (d := 10) Hv.out.val HE.out.err HE.out.le
    rw [hKk.out] at hc; dsimp only at hc
    refine hc.mono ?_
    clear hc
    rintro e w9 ⟨k0, k1, k2, k3, k4, k5, k6, k7, k8, rfl, hu9, hb9⟩
    replace Hv := hide (Hv.out.go hb9)
    replace Hea := hide (Hea.out.go hb9)
    replace Hwa := hide (Hwa.out.go hb9)
    replace Hl := hide (Hl.out.go hb9)
    replace Hm := hide (Hm.out.go hb9)
    replace HE := hide (HE.out.go hb9)
    clear hb9
    obtain ⟨xv0, xv1, xv2, xv3, xv4⟩ := Hv.out.blk.cell
    have xvl := Hv.out.blk.lt
    obtain ⟨W10, HW10⟩ : ∃ W1, Hid (w9.alloc (.cells #[.int .i64 k0, .int .i64 k1, .string k2, .slice k3 k4 k5, .slice k6 k7 k8] 26) = W1) := ⟨_, rfl⟩
    have hA10 : Below w9.heap.size w9 W10 := by rw [← HW10.out]; exact below_alloc1 _ _
    have Hk : Hid (VarAt w W10 w9.heap.size k0 k1 k2 k3 k4 k5 k6 k7 k8 12 KT) := by rw [← HW10.out]; exact VarAt.new hu9
    clear hu9
    go_wp2_with fail
    rw [HW10.out]
    clear HW10
    clear xv0 xv1 xv2 xv3 xv4 xvl
    replace Hv := hide (Hv.out.go hA10)
    replace Hea := hide (Hea.out.go hA10)
    replace Hwa := hide (Hwa.out.go hA10)
    replace Hl := hide (Hl.out.go hA10)
    replace Hm := hide (Hm.out.go hA10)
    replace HE := hide (HE.out.go hA10)
    clear hA10
    have hc := keysS (d := 10) Hv.out.val hz12 HE.out.le
    rw [hKk.out] at hc; dsimp only at hc
    refine hc.mono ?_
    clear hc
    rintro e w11 ⟨q0, q1, q2, q3, q4, q5, q6, q7, q8, rfl, hu11, hb11⟩
    replace Hv := hide (Hv.out.go hb11)
    replace Hea := hide (Hea.out.go hb11)
    replace Hwa := hide (Hwa.out.go hb11)
    replace Hl := hide (Hl.out.go hb11)
    replace Hm := hide (Hm.out.go hb11)
    replace Hk := hide (Hk.out.go hb11)
    replace HE := hide (HE.out.go hb11)
    clear hb11
    obtain ⟨xl0, xl1, xl2, xl3, xl4⟩ := Hl.out.blk.cell
    have xll := Hl.out.blk.lt
    obtain ⟨xm0, xm1, xm2, xm3, xm4⟩ := Hm.out.blk.cell
    have xml := Hm.out.blk.lt
    obtain ⟨W12, HW12⟩ : ∃ W1, Hid (w11.alloc (.cells #[.int .i64 q0, .int .i64 q1, .string q2, .slice q3 q4 q5, .slice q6 q7 q8] 26) = W1) := ⟨_, rfl⟩
    have hA12 : Below w11.heap.size w11 W12 := by rw [← HW12.out]; exact below_alloc1 _ _
    have Hq : Hid (VarAt w W12 w11.heap.size q0 q1 q2 q3 q4 q5 q6 q7 q8 12 KT) := by rw [← HW12.out]; exact VarAt.new hu11
    clear hu11
    go_wp2_with fail
    rw [HW12.out]
    clear HW12
    clear xl0 xl1 xl2 xl3 xl4 xll xm0 xm1 xm2 xm3 xm4 xml
    replace Hv := hide (Hv.out.go hA12)
    replace Hea := hide (Hea.out.go hA12)
    replace Hwa := hide (Hwa.out.go hA12)
    replace Hl := hide (Hl.out.go hA12)
    replace Hm := hide (Hm.out.go hA12)
    replace Hk := hide (Hk.out.go hA12)
    replace HE := hide (HE.out.go hA12)
    clear hA12
    have hc := samE Hl.out.val Hm.out.val hzL
    refine hc.mono ?_
    clear hc
    rintro e w13 ⟨rfl, hb13⟩
    replace Hv := hide (Hv.out.go hb13)
    replace Hea := hide (Hea.out.go hb13)
    replace Hwa := hide (Hwa.out.go hb13)
    replace Hl := hide (Hl.out.go hb13)
    replace Hm := hide (Hm.out.go hb13)
    replace Hk := hide (Hk.out.go hb13)
    replace Hq := hide (Hq.out.go hb13)
    replace HE := hide (HE.out.go hb13)
    clear hb13
    obtain ⟨xk0, xk1, xk2, xk3, xk4⟩ := Hk.out.blk.cell
    have xkl := Hk.out.blk.lt
    obtain ⟨xq0, xq1, xq2, xq3, xq4⟩ := Hq.out.blk.cell
    have xql := Hq.out.blk.lt
    go_wp2_with fail
    clear xk0 xk1 xk2 xk3 xk4 xkl xq0 xq1 xq2 xq3 xq4 xql
    have hc := samE Hk.out.val Hq.out.val hzK
    refine hc.mono ?_
    clear hc
    rintro e w14 ⟨rfl, hb14⟩
    replace Hv := hide (Hv.out.go hb14)
    replace Hea := hide (Hea.out.go hb14)
    replace Hwa := hide (Hwa.out.go hb14)
    replace Hl := hide (Hl.out.go hb14)
    replace Hm := hide (Hm.out.go hb14)
    replace Hk := hide (Hk.out.go hb14)
    replace Hq := hide (Hq.out.go hb14)
    replace HE := hide (HE.out.go hb14)
    clear hb14
    clear Hm
    clear Hq
    obtain ⟨xv0, xv1, xv2, xv3, xv4⟩ := Hv.out.blk.cell
    have xvl := Hv.out.blk.lt
    go_wp2_with fail
    clear xv0 xv1 xv2 xv3 xv4 xvl
    have hkind := kind_56 hok
    have hN60 : (((Nd.list (α := Tr 11) V).length : Nat) : Int) ≤ 60 := by have hq : (Nd.list (α := Tr 11) V).length ≤ 60 := (okT_kinds (d := 11) hok.1).2.1; omega
    have hLL : (L, lb) = (numT 11 ((Nd.list (α := Tr 11) V).length : Int), true) := by rw [← hL.out]; exact len_56 hok
    cases hLL
    have HZ := hide (Since.start w14)
    go_loopw [16] (fun j wr => ∃ k : Nat, k ≤ (Nd.list (α := Tr 11) V).length ∧ j = .int .i64 (k : Int) ∧ Hid (Since w14 wr)) (fun j _ => (Nd.list (α := Tr 11) V).length - (intOf j).toNat)
    case atStart => exact ⟨0, Nat.zero_le _, rfl, HZ⟩
    case round =>
      clear HZ
      obtain ⟨k, hk, rfl, HZ⟩ := hrel
      have hbz := HZ.out.bel
      replace Hv := hide (Hv.out.go hbz)
      replace Hea := hide (Hea.out.go hbz)
      replace Hwa := hide (Hwa.out.go hbz)
      replace Hl := hide (Hl.out.go hbz)
      replace Hk := hide (Hk.out.go hbz)
      replace HE := hide (HE.out.go hbz)
      clear hbz
      by_cases hkl : k < (Nd.list (α := Tr 11) V).length
      ·
        have hkl2 : (k : Int) < ((Nd.list (α := Tr 11) V).length : Int) := by omega
        obtain ⟨y, hy⟩ : ∃ y, (Nd.list (α := Tr 11) V)[k]? = some y := ⟨_, List.getElem?_eq_getElem hkl⟩
        have hzy : wtT 11 y ≤ 10000 := by have := wt_mem (d := 11) hy; have e : wtT 12 V = 3 + (Nd.keys (α := Tr 11) V).length + ((Nd.list (α := Tr 11) V).map (wtT 11)).sum := rfl; omega
        have Gv := Hv
        have Gea := Hea
        have Gwa := Hwa
        have Gl := Hl
        have Gk := Hk
        have GZ := HZ
        have GE := HE
        rcases hkind with h5 | h6
        ·
          obtain rfl : v0 = 5 := by rw [HK0.out]; exact h5
          have hX := hide (at_56 (d := 10) hok.1 h5 hy)
          clear Gv Gea Gwa Gl Gk GZ GE
          obtain ⟨xv0, xv1, xv2, xv3, xv4⟩ := Hv.out.blk.cell
          have xvl := Hv.out.blk.lt
          go_wp2_with fail
          clear xv0 xv1 xv2 xv3 xv4 xvl
          have hc := atI (d := 10) Hv.out.val (i := (k : Int)) ⟨by omega, by omega⟩ HE.out.err HE.out.le
          rw [hX.out] at hc; dsimp only at hc
          refine hc.mono ?_
          clear hc
          rintro e w15 ⟨x0, x1, x2, x3, x4, x5, x6, x7, x8, rfl, hu15, hb15⟩
          replace Hv := hide (Hv.out.go hb15)
          replace Hea := hide (Hea.out.go hb15)
          replace Hwa := hide (Hwa.out.go hb15)
          replace Hl := hide (Hl.out.go hb15)
          replace Hk := hide (Hk.out.go hb15)
          replace HZ := hide (HZ.out.go hb15)
          replace HE := hide (HE.out.go hb15)
          clear hb15
          obtain ⟨xv0, xv1, xv2, xv3, xv4⟩ := Hv.out.blk.cell
          have xvl := Hv.out.blk.lt
          obtain ⟨W16, HW16⟩ : ∃ W1, Hid (w15.alloc (.cells #[.int .i64 x0, .int .i64 x1, .string x2, .slice x3 x4 x5, .slice x6 x7 x8] 26) = W1) := ⟨_, rfl⟩
          have hA16 : Below w15.heap.size w15 W16 := by rw [← HW16.out]; exact below_alloc1 _ _
          have Hx : Hid (VarAt w W16 w15.heap.size x0 x1 x2 x3 x4 x5 x6 x7 x8 11 y) := by rw [← HW16.out]; exact VarAt.new hu15
          clear hu15
          go_wp2_with fail
          rw [HW16.out]
          clear HW16
          clear xv0 xv1 xv2 xv3 xv4 xvl
          replace Hv := hide (Hv.out.go hA16)
          replace Hea := hide (Hea.out.go hA16)
          replace Hwa := hide (Hwa.out.go hA16)
          replace Hl := hide (Hl.out.go hA16)
          replace Hk := hide (Hk.out.go hA16)
          replace HZ := hide (HZ.out.go hA16)
          replace HE := hide (HE.out.go hA16)
          clear hA16
          obtain ⟨lb2, lo, y2, l0, l1, l2, l3, l4, l5, l6, l7, l8, hla, hlB, hlx, el0, el1, el2, el3, el4, hly⟩ := row_elem Hea.out.row (k := k) hkl
          subst hla
          rw [hy] at hlx
          cases hlx
          obtain ⟨rb2, ro, y3, r0, r1, r2, r3, r4, r5, r6, r7, r8, hra, hrB, hrx, er0, er1, er2, er3, er4, hry⟩ := row_elem Hwa.out.row (k := k) hkl
          subst hra
          rw [hy] at hrx
          cases hrx
          have e0 : Hid (∀ m : Ext W16, Calls Tryz.prog 12 #[.agg #[.int .i64 x0, .int .i64 x1, .string x2, .slice x3 x4 x5, .slice x6 x7 x8], .agg #[.int .i64 l0, .int .i64 l1, .string l2, .slice l3 l4 l5, .slice l6 l7 l8]] m.now fun e w' => e = .returned (.bool true) ∧ Below m.now.heap.size m.now w') := fun m => samE (freshP_go Hx.out.val m.from_) (freshP_go hly m.from_) hzy
          have e1 : Hid (∀ m : Ext W16, Calls Tryz.prog 12 #[.agg #[.int .i64 x0, .int .i64 x1, .string x2, .slice x3 x4 x5, .slice x6 x7 x8], .agg #[.int .i64 r0, .int .i64 r1, .string r2, .slice r3 r4 r5, .slice r6 r7 r8]] m.now fun e w' => e = .returned (.bool true) ∧ Below m.now.heap.size m.now w') := fun m => samE (freshP_go Hx.out.val m.from_) (freshP_go hry m.from_) hzy
          obtain ⟨cx0, cx1, cx2, cx3, cx4⟩ := Hx.out.blk.cell
          have dx0 := fun m => ext_cell cx0 m
          have dx1 := fun m => ext_cell cx1 m
          have dx2 := fun m => ext_cell cx2 m
          have dx3 := fun m => ext_cell cx3 m
          have dx4 := fun m => ext_cell cx4 m
          clear cx0 cx1 cx2 cx3 cx4
          have ddel0 := fun m => ext_cell el0 m
          have ddel1 := fun m => ext_cell el1 m
          have ddel2 := fun m => ext_cell el2 m
          have ddel3 := fun m => ext_cell el3 m
          have ddel4 := fun m => ext_cell el4 m
          have dder0 := fun m => ext_cell er0 m
          have dder1 := fun m => ext_cell er1 m
          have dder2 := fun m => ext_cell er2 m
          have dder3 := fun m => ext_cell er3 m
          have dder4 := fun m => ext_cell er4 m
          clear el0 el1 el2 el3 el4 er0 er1 er2 er3 er4
          have hne := Ext.some W16
          refine wp_region_ext (by kernel_rfl) (by kernel_rfl) ?_
          repeat (first | go_big_quiet_step ((go_at_call 12; first | with_reducible exact Calls.ext_of (e0.out _) | with_reducible exact Calls.ext_of (e1.out _))) | quiet_step ((go_at_call 12; first | with_reducible exact Calls.ext_of (e0.out _) | with_reducible exact Calls.ext_of (e1.out _))))
          refine wpQuiet_nil ?_
          intro w17 hw17
          obtain ⟨m, rfl⟩ := hw17
          obtain ⟨W17, hW17⟩ : ∃ W1, Hid (m.now = W1) := ⟨_, rfl⟩
          have hb17 := m.from_
          rw [hW17.out] at hb17 ⊢
          clear hW17 hne e0 e1 dx0 dx1 dx2 dx3 dx4 ddel0 ddel1 ddel2 ddel3 ddel4 dder0 dder1 dder2 dder3 dder4
          replace Hv := hide (Hv.out.go hb17)
          replace Hea := hide (Hea.out.go hb17)
          replace Hwa := hide (Hwa.out.go hb17)
          replace Hl := hide (Hl.out.go hb17)
          replace Hk := hide (Hk.out.go hb17)
          replace HZ := hide (HZ.out.go hb17)
          replace Hx := hide (Hx.out.go hb17)
          replace HE := hide (HE.out.go hb17)
          clear hb17
          go_wp2_with fail
          go_roundw
          case rel =>
            first
              | exact ⟨k + 1, by omega, by go_num, HZ⟩
              | ((repeat apply Exists.intro); exact ⟨⟨k + 1, by omega, by go_num, HZ⟩, rfl⟩)
          case measure => simp [intOf]; omega
        ·
          obtain rfl : v0 = 6 := by rw [HK0.out]; exact h6
          have hX := hide (at_6 (d := 10) (i := (k : Int)) h6)
          have HR := hide (Since.start wr)
          obtain ⟨s, hs, hsz⟩ : ∃ s, (Nd.keys (α := Tr 11) V)[k]? = some s ∧ s.size < 281474976710656 := by obtain ⟨_, _, s, _, _, hs, hsz, _⟩ := key_elem (val_parts Hv.out.val).2.2.2.2.2.1 (k := k) (by rw [(val_parts Hv.out.val).2.2.2.1] at *; have := okT_keys (d := 11) hok.1 h6; omega); exact ⟨s, hs, hsz⟩
          obtain ⟨xv0, xv1, xv2, xv3, xv4⟩ := Hv.out.blk.cell
          have xvl := Hv.out.blk.lt
          go_wp2_with fail
          clear xv0 xv1 xv2 xv3 xv4 xvl
          have hc := atI (d := 10) Hv.out.val (i := (k : Int)) ⟨by omega, by omega⟩ HE.out.err HE.out.le
          rw [hX.out] at hc; dsimp only at hc
          refine hc.mono ?_
          clear hc
          rintro e w15 ⟨x0, x1, x2, x3, x4, x5, x6, x7, x8, rfl, hu15, hb15⟩
          replace Hv := hide (Hv.out.go hb15)
          replace Hea := hide (Hea.out.go hb15)
          replace Hwa := hide (Hwa.out.go hb15)
          replace Hl := hide (Hl.out.go hb15)
          replace Hk := hide (Hk.out.go hb15)
          replace HZ := hide (HZ.out.go hb15)
          replace HR := hide (HR.out.go hb15)
          replace HE := hide (HE.out.go hb15)
          clear hb15
          have HR0 : Hid (wr.heap.size ≤ w15.heap.size) := HR.out.bel.size
          obtain ⟨xv0, xv1, xv2, xv3, xv4⟩ := Hv.out.blk.cell
          have xvl := Hv.out.blk.lt
          obtain ⟨W16, HW16⟩ : ∃ W1, Hid (w15.alloc (.cells #[.int .i64 x0, .int .i64 x1, .string x2, .slice x3 x4 x5, .slice x6 x7 x8] 26) = W1) := ⟨_, rfl⟩
          have hA16 : Below w15.heap.size w15 W16 := by rw [← HW16.out]; exact below_alloc1 _ _
          have Hx : Hid (VarAt w W16 w15.heap.size x0 x1 x2 x3 x4 x5 x6 x7 x8 11 (zeroT 10)) := by rw [← HW16.out]; exact VarAt.new hu15
          clear hu15
          go_wp2_with fail
          rw [HW16.out]
          clear HW16
          clear xv0 xv1 xv2 xv3 xv4 xvl
          replace Hv := hide (Hv.out.go hA16)
          replace Hea := hide (Hea.out.go hA16)
          replace Hwa := hide (Hwa.out.go hA16)
          replace Hl := hide (Hl.out.go hA16)
          replace Hk := hide (Hk.out.go hA16)
          replace HZ := hide (HZ.out.go hA16)
          replace HR := hide (HR.out.go hA16)
          replace HE := hide (HE.out.go hA16)
          clear hA16
          obtain ⟨kb, ko, ke, p0, p1, p2, p3, p4, p5, p6, p7, p8, hka, hkB, hkx, ek0, ek1, ek2, ek3, ek4, hkv⟩ := row_elem (val_parts Hk.out.val).2.2.2.2.2.2 (k := k) (by rw [← hKT.out]; have := keyTs_length (d := 10) hok; show k < (keyTs 10 V).length; omega)
          subst hka
          have hke : ke = strT 10 s := by rw [← hKT.out] at hkx; have h1 : (keyTs 10 V)[k]? = some ke := hkx; rw [keyTs_at (d := 10) h6 hs] at h1; cases h1; rfl
          have hp2 : p2 = s := by have := (val_parts hkv).2.2.1; rw [hke] at this; exact this
          subst hp2
          clear hke hkv hkx
          have hk7 : (k : Int) < (k7 : Int) := by have h1 := (val_parts Hk.out.val).2.2.2.2.1; rw [← hKT.out] at h1; have h2 : k7 = (keyTs 10 V).length := h1; have := keyTs_length (d := 10) hok; omega
          have hY := get_6 (d := 10) hok.1 h6 hs hy
          go_upto_region 19 with fail
          go_cut [18] (fun bv wc => ∃ x0 x1 x2 x3 x4 x5 x6 x7 x8, bv = .bool true ∧ Hid (VarAt w wc w15.heap.size x0 x1 x2 x3 x4 x5 x6 x7 x8 11 y ∧ Below wr.heap.size wr wc))
          case first =>
            obtain ⟨xv0, xv1, xv2, xv3, xv4⟩ := Hv.out.blk.cell
            have xvl := Hv.out.blk.lt
            obtain ⟨xk0, xk1, xk2, xk3, xk4⟩ := Hk.out.blk.cell
            have xkl := Hk.out.blk.lt
            have hDr : Below W16.heap.size W16 W16.drew := ⟨rfl, rfl, rfl, Nat.le_refl _, fun _ _ => rfl⟩
            have hcall : Hid (Calls Tryz.prog 13 #[.agg #[.int .i64 6, .int .i64 v1, .string v2, .slice v3 v4 v5, .slice v6 v7 v8], .string p2] W16.drew fun e w' => ∃ u, e = .returned u ∧ (∃ x0 x1 x2 x3 x4 x5 x6 x7 x8, u = .tuple #[.agg #[.int .i64 x0, .int .i64 x1, .string x2, .slice x3 x4 x5, .slice x6 x7 x8], .bool true] ∧ ValAt (FreshP W16.drew w') w' 11 y (.agg #[.int .i64 x0, .int .i64 x1, .string x2, .slice x3 x4 x5, .slice x6 x7 x8]) ∧ Below W16.drew.heap.size W16.drew w')) := Calls.mono (by have hc := getG (d := 10) (freshP_go Hv.out.val hDr) hsz (HE.out.err.below hDr) (by have := HE.out.le; have := hDr.size; omega); rw [hY] at hc; exact hc) (fun e w' h => by obtain ⟨x0, x1, x2, x3, x4, x5, x6, x7, x8, he, hv', hb'⟩ := h; exact ⟨_, he, x0, x1, x2, x3, x4, x5, x6, x7, x8, rfl, hv', hb'⟩)
            have zx0 := Blk5.of_block Hx.out.blk (show W16.drew.heap[w15.heap.size]? = W16.heap[w15.heap.size]? from rfl)
            have zxl : w15.heap.size < W16.drew.heap.size := Hx.out.blk.lt
            have hleR : w.heap.size ≤ W16.drew.heap.size := HE.out.le
            have hRR := below_trans HR.out.bel hDr
            have hwb : wr.heap.size ≤ w15.heap.size := by have := HR0.out; omega
            go_region_law ((refine step_call_run _ 13 _ (by rfl) (by go_simp) hcall.out ?_; rintro u w17 ⟨x0, x1, x2, x3, x4, x5, x6, x7, x8, rfl, hv', hb'⟩; have zC := zx0.below hb'; obtain ⟨y0, y1, y2, y3, y4⟩ := zC.cell; have yf := zC.frozen))
            all_goals go_wp2_with fail
            all_goals go_meet
            all_goals (have hF := And.intro (var_set (w := w) zC zxl hleR hv') (below_set5 (below_trans hRR hb') hwb 0 (.int .i64 x0) (.int .i64 x1) (.string x2) (.slice x3 x4 x5) (.slice x6 x7 x8)); unfold set5 at hF; simp only [Nat.zero_add] at hF; with_reducible exact ⟨x0, x1, x2, x3, x4, x5, x6, x7, x8, rfl, hide hF⟩)
          case rest =>
          rename World => wX
          clear Hx
          obtain ⟨x0, x1, x2, x3, x4, x5, x6, x7, x8, rfl, hcx⟩ := hcut
          have hbx := hcx.out.2
          have Hx := hide hcx.out.1
          clear hcx
          clear Hv
          have Hv := hide (Gv.out.go hbx)
          clear Hea
          have Hea := hide (Gea.out.go hbx)
          clear Hwa
          have Hwa := hide (Gwa.out.go hbx)
          clear Hl
          have Hl := hide (Gl.out.go hbx)
          clear Hk
          have Hk := hide (Gk.out.go hbx)
          clear HZ
          have HZ := hide (GZ.out.go hbx)
          clear HE HR
          have HE := hide (GE.out.go hbx)
          clear hbx
          go_wp2_with fail
          obtain ⟨lb2, lo, y2, l0, l1, l2, l3, l4, l5, l6, l7, l8, hla, hlB, hlx, el0, el1, el2, el3, el4, hly⟩ := row_elem Hea.out.row (k := k) hkl
          subst hla
          rw [hy] at hlx
          cases hlx
          obtain ⟨rb2, ro, y3, r0, r1, r2, r3, r4, r5, r6, r7, r8, hra, hrB, hrx, er0, er1, er2, er3, er4, hry⟩ := row_elem Hwa.out.row (k := k) hkl
          subst hra
          rw [hy] at hrx
          cases hrx
          have e0 : Hid (∀ m : Ext wX, Calls Tryz.prog 12 #[.agg #[.int .i64 x0, .int .i64 x1, .string x2, .slice x3 x4 x5, .slice x6 x7 x8], .agg #[.int .i64 l0, .int .i64 l1, .string l2, .slice l3 l4 l5, .slice l6 l7 l8]] m.now fun e w' => e = .returned (.bool true) ∧ Below m.now.heap.size m.now w') := fun m => samE (freshP_go Hx.out.val m.from_) (freshP_go hly m.from_) hzy
          have e1 : Hid (∀ m : Ext wX, Calls Tryz.prog 12 #[.agg #[.int .i64 x0, .int .i64 x1, .string x2, .slice x3 x4 x5, .slice x6 x7 x8], .agg #[.int .i64 r0, .int .i64 r1, .string r2, .slice r3 r4 r5, .slice r6 r7 r8]] m.now fun e w' => e = .returned (.bool true) ∧ Below m.now.heap.size m.now w') := fun m => samE (freshP_go Hx.out.val m.from_) (freshP_go hry m.from_) hzy
          obtain ⟨cx0, cx1, cx2, cx3, cx4⟩ := Hx.out.blk.cell
          have dx0 := fun m => ext_cell cx0 m
          have dx1 := fun m => ext_cell cx1 m
          have dx2 := fun m => ext_cell cx2 m
          have dx3 := fun m => ext_cell cx3 m
          have dx4 := fun m => ext_cell cx4 m
          clear cx0 cx1 cx2 cx3 cx4
          have ddel0 := fun m => ext_cell el0 m
          have ddel1 := fun m => ext_cell el1 m
          have ddel2 := fun m => ext_cell el2 m
          have ddel3 := fun m => ext_cell el3 m
          have ddel4 := fun m => ext_cell el4 m
          have dder0 := fun m => ext_cell er0 m
          have dder1 := fun m => ext_cell er1 m
          have dder2 := fun m => ext_cell er2 m
          have dder3 := fun m => ext_cell er3 m
          have dder4 := fun m => ext_cell er4 m
          clear el0 el1 el2 el3 el4 er0 er1 er2 er3 er4
          have hne := Ext.some wX
          refine wp_region_ext (by kernel_rfl) (by kernel_rfl) ?_
          repeat (first | go_big_quiet_step ((go_at_call 12; first | with_reducible exact Calls.ext_of (e0.out _) | with_reducible exact Calls.ext_of (e1.out _))) | quiet_step ((go_at_call 12; first | with_reducible exact Calls.ext_of (e0.out _) | with_reducible exact Calls.ext_of (e1.out _))))
          refine wpQuiet_nil ?_
          intro w18 hw18
          obtain ⟨m, rfl⟩ := hw18
          obtain ⟨W18, hW18⟩ : ∃ W1, Hid (m.now = W1) := ⟨_, rfl⟩
          have hb18 := m.from_
          rw [hW18.out] at hb18 ⊢
          clear hW18 hne e0 e1 dx0 dx1 dx2 dx3 dx4 ddel0 ddel1 ddel2 ddel3 ddel4 dder0 dder1 dder2 dder3 dder4
          replace Hv := hide (Hv.out.go hb18)
          replace Hea := hide (Hea.out.go hb18)
          replace Hwa := hide (Hwa.out.go hb18)
          replace Hl := hide (Hl.out.go hb18)
          replace Hk := hide (Hk.out.go hb18)
          replace HZ := hide (HZ.out.go hb18)
          replace Hx := hide (Hx.out.go hb18)
          replace HE := hide (HE.out.go hb18)
          clear hb18
          go_wp2_with fail
          go_roundw
          case rel =>
            first
              | exact ⟨k + 1, by omega, by go_num, HZ⟩
              | ((repeat apply Exists.intro); exact ⟨⟨k + 1, by omega, by go_num, HZ⟩, rfl⟩)
          case measure => simp [intOf]; omega
      ·
        obtain rfl : k = (Nd.list (α := Tr 11) V).length := by omega
        have hl1 : l1 = ((Nd.list (α := Tr 11) V).length : Int) := (val_parts Hl.out.val).2.1
        have hk7 : (k7 : Int) = ((Nd.list (α := Tr 11) V).length : Int) := by have h1 := (val_parts Hk.out.val).2.2.2.2.1; rw [← hKT.out] at h1; have h2 : k7 = (keyTs 10 V).length := h1; have := keyTs_length (d := 10) hok; omega
        subst hl1
        obtain ⟨xl0, xl1, xl2, xl3, xl4⟩ := Hl.out.blk.cell
        have xll := Hl.out.blk.lt
        obtain ⟨xk0, xk1, xk2, xk3, xk4⟩ := Hk.out.blk.cell
        have xkl := Hk.out.blk.lt
        go_wp2_with fail
        go_ret
        exact ⟨rfl, HE.out.bel⟩
  ·
    have hE : Hid (eachT 11 V = ([], false)) := by show eachT 11 V = _; unfold eachT; rw [if_neg hok]
    have hKk : Hid (partKeysT 10 V = (zeroT 11, false)) := by show partKeysT 10 V = _; unfold partKeysT; rw [if_neg hok]
    have hc := eachI (d := 11) Hv.out.val HE.out.err HE.out.le
    rw [hE.out] at hc; dsimp only at hc
    refine hc.mono ?_
    clear hc
    rintro e w3 ⟨eaa, eac, rfl, hu3, hb3⟩
    replace Hv := hide (Hv.out.go hb3)
    replace HE := hide (HE.out.go hb3)
    clear hb3
    have Hea : Hid (RowsAt w w3 eaa eac 11 ([])) := ⟨hu3⟩
    clear hu3
    obtain ⟨xv0, xv1, xv2, xv3, xv4⟩ := Hv.out.blk.cell
    have xvl := Hv.out.blk.lt
    go_wp2_with fail
    clear xv0 xv1 xv2 xv3 xv4 xvl
    have hc := eachS (d := 11) Hv.out.val hz12 HE.out.le
    rw [hE.out] at hc; dsimp only at hc
    refine hc.mono ?_
    clear hc
    rintro e w4 ⟨waa, wac, rfl, hu4, hb4⟩
    replace Hv := hide (Hv.out.go hb4)
    replace Hea := hide (Hea.out.go hb4)
    replace HE := hide (HE.out.go hb4)
    clear hb4
    have Hwa : Hid (RowsAt w w4 waa wac 11 ([])) := ⟨hu4⟩
    clear hu4
    obtain ⟨xv0, xv1, xv2, xv3, xv4⟩ := Hv.out.blk.cell
    have xvl := Hv.out.blk.lt
    go_wp2_with fail
    obtain ⟨⟨L, lb⟩, hL⟩ : ∃ r, Hid (partLenT 11 V = r) := ⟨_, rfl⟩
    have hzL : wtT 12 L ≤ 10000 := by have := wtT_ok (okT_partLen 11 V); rw [hL.out] at this; have h2 : wtT 12 L ≤ 300 := this; omega
    clear xv0 xv1 xv2 xv3 xv4 xvl
    have hc := lenI (d := 11) Hv.out.val HE.out.err HE.out.le
    rw [hL.out] at hc; dsimp only at hc
    refine hc.mono ?_
    clear hc
    rintro e w5 ⟨l0, l1, l2, l3, l4, l5, l6, l7, l8, rfl, hu5, hb5⟩
    replace Hv := hide (Hv.out.go hb5)
    replace Hea := hide (Hea.out.go hb5)
    replace Hwa := hide (Hwa.out.go hb5)
    replace HE := hide (HE.out.go hb5)
    clear hb5
    obtain ⟨xv0, xv1, xv2, xv3, xv4⟩ := Hv.out.blk.cell
    have xvl := Hv.out.blk.lt
    obtain ⟨W6, HW6⟩ : ∃ W1, Hid (w5.alloc (.cells #[.int .i64 l0, .int .i64 l1, .string l2, .slice l3 l4 l5, .slice l6 l7 l8] 26) = W1) := ⟨_, rfl⟩
    have hA6 : Below w5.heap.size w5 W6 := by rw [← HW6.out]; exact below_alloc1 _ _
    have Hl : Hid (VarAt w W6 w5.heap.size l0 l1 l2 l3 l4 l5 l6 l7 l8 12 L) := by rw [← HW6.out]; exact VarAt.new hu5
    clear hu5
    go_wp2_with fail
    rw [HW6.out]
    clear HW6
    clear xv0 xv1 xv2 xv3 xv4 xvl
    replace Hv := hide (Hv.out.go hA6)
    replace Hea := hide (Hea.out.go hA6)
    replace Hwa := hide (Hwa.out.go hA6)
    replace HE := hide (HE.out.go hA6)
    clear hA6
    have hc := lenS (d := 11) Hv.out.val hz12 HE.out.le
    rw [hL.out] at hc; dsimp only at hc
    refine hc.mono ?_
    clear hc
    rintro e w7 ⟨m0, m1, m2, m3, m4, m5, m6, m7, m8, rfl, hu7, hb7⟩
    replace Hv := hide (Hv.out.go hb7)
    replace Hea := hide (Hea.out.go hb7)
    replace Hwa := hide (Hwa.out.go hb7)
    replace Hl := hide (Hl.out.go hb7)
    replace HE := hide (HE.out.go hb7)
    clear hb7
    obtain ⟨xv0, xv1, xv2, xv3, xv4⟩ := Hv.out.blk.cell
    have xvl := Hv.out.blk.lt
    obtain ⟨W8, HW8⟩ : ∃ W1, Hid (w7.alloc (.cells #[.int .i64 m0, .int .i64 m1, .string m2, .slice m3 m4 m5, .slice m6 m7 m8] 26) = W1) := ⟨_, rfl⟩
    have hA8 : Below w7.heap.size w7 W8 := by rw [← HW8.out]; exact below_alloc1 _ _
    have Hm : Hid (VarAt w W8 w7.heap.size m0 m1 m2 m3 m4 m5 m6 m7 m8 12 L) := by rw [← HW8.out]; exact VarAt.new hu7
    clear hu7
    go_wp2_with fail
    rw [HW8.out]
    clear HW8
    clear xv0 xv1 xv2 xv3 xv4 xvl
    replace Hv := hide (Hv.out.go hA8)
    replace Hea := hide (Hea.out.go hA8)
    replace Hwa := hide (Hwa.out.go hA8)
    replace Hl := hide (Hl.out.go hA8)
    replace HE := hide (HE.out.go hA8)
    clear hA8
    obtain ⟨KT, hKT⟩ : ∃ K : Tr 12, Hid (zeroT 11 = K) := ⟨_, rfl⟩
    rw [hKT.out] at hKk
    have hzK : wtT 12 KT ≤ 10000 := by have := wtT_ok (okT_partKeys 10 V); rw [hKk.out] at this; have h2 : wtT 12 KT ≤ 300 := this; omega
    have hc := keysI (d := 10) Hv.out.val HE.out.err HE.out.le
    rw [hKk.out] at hc; dsimp only at hc
    refine hc.mono ?_
    clear hc
    rintro e w9 ⟨k0, k1, k2, k3, k4, k5, k6, k7, k8, rfl, hu9, hb9⟩
    replace Hv := hide (Hv.out.go hb9)
    replace Hea := hide (Hea.out.go hb9)
    replace Hwa := hide (Hwa.out.go hb9)
    replace Hl := hide (Hl.out.go hb9)
    replace Hm := hide (Hm.out.go hb9)
    replace HE := hide (HE.out.go hb9)
    clear hb9
    obtain ⟨xv0, xv1, xv2, xv3, xv4⟩ := Hv.out.blk.cell
    have xvl := Hv.out.blk.lt
    obtain ⟨W10, HW10⟩ : ∃ W1, Hid (w9.alloc (.cells #[.int .i64 k0, .int .i64 k1, .string k2, .slice k3 k4 k5, .slice k6 k7 k8] 26) = W1) := ⟨_, rfl⟩
    have hA10 : Below w9.heap.size w9 W10 := by rw [← HW10.out]; exact below_alloc1 _ _
    have Hk : Hid (VarAt w W10 w9.heap.size k0 k1 k2 k3 k4 k5 k6 k7 k8 12 KT) := by rw [← HW10.out]; exact VarAt.new hu9
    clear hu9
    go_wp2_with fail
    rw [HW10.out]
    clear HW10
    clear xv0 xv1 xv2 xv3 xv4 xvl
    replace Hv := hide (Hv.out.go hA10)
    replace Hea := hide (Hea.out.go hA10)
    replace Hwa := hide (Hwa.out.go hA10)
    replace Hl := hide (Hl.out.go hA10)
    replace Hm := hide (Hm.out.go hA10)
    replace HE := hide (HE.out.go hA10)
    clear hA10
    have hc := keysS (d := 10) Hv.out.val hz12 HE.out.le
    rw [hKk.out] at hc; dsimp only at hc
    refine hc.mono ?_
    clear hc
    rintro e w11 ⟨q0, q1, q2, q3, q4, q5, q6, q7, q8, rfl, hu11, hb11⟩
    replace Hv := hide (Hv.out.go hb11)
    replace Hea := hide (Hea.out.go hb11)
    replace Hwa := hide (Hwa.out.go hb11)
    replace Hl := hide (Hl.out.go hb11)
    replace Hm := hide (Hm.out.go hb11)
    replace Hk := hide (Hk.out.go hb11)
    replace HE := hide (HE.out.go hb11)
    clear hb11
    obtain ⟨xl0, xl1, xl2, xl3, xl4⟩ := Hl.out.blk.cell
    have xll := Hl.out.blk.lt
    obtain ⟨xm0, xm1, xm2, xm3, xm4⟩ := Hm.out.blk.cell
    have xml := Hm.out.blk.lt
    obtain ⟨W12, HW12⟩ : ∃ W1, Hid (w11.alloc (.cells #[.int .i64 q0, .int .i64 q1, .string q2, .slice q3 q4 q5, .slice q6 q7 q8] 26) = W1) := ⟨_, rfl⟩
    have hA12 : Below w11.heap.size w11 W12 := by rw [← HW12.out]; exact below_alloc1 _ _
    have Hq : Hid (VarAt w W12 w11.heap.size q0 q1 q2 q3 q4 q5 q6 q7 q8 12 KT) := by rw [← HW12.out]; exact VarAt.new hu11
    clear hu11
    go_wp2_with fail
    rw [HW12.out]
    clear HW12
    clear xl0 xl1 xl2 xl3 xl4 xll xm0 xm1 xm2 xm3 xm4 xml
    replace Hv := hide (Hv.out.go hA12)
    replace Hea := hide (Hea.out.go hA12)
    replace Hwa := hide (Hwa.out.go hA12)
    replace Hl := hide (Hl.out.go hA12)
    replace Hm := hide (Hm.out.go hA12)
    replace Hk := hide (Hk.out.go hA12)
    replace HE := hide (HE.out.go hA12)
    clear hA12
    have hc := samE Hl.out.val Hm.out.val hzL
    refine hc.mono ?_
    clear hc
    rintro e w13 ⟨rfl, hb13⟩
    replace Hv := hide (Hv.out.go hb13)
    replace Hea := hide (Hea.out.go hb13)
    replace Hwa := hide (Hwa.out.go hb13)
    replace Hl := hide (Hl.out.go hb13)
    replace Hm := hide (Hm.out.go hb13)
    replace Hk := hide (Hk.out.go hb13)
    replace Hq := hide (Hq.out.go hb13)
    replace HE := hide (HE.out.go hb13)
    clear hb13
    obtain ⟨xk0, xk1, xk2, xk3, xk4⟩ := Hk.out.blk.cell
    have xkl := Hk.out.blk.lt
    obtain ⟨xq0, xq1, xq2, xq3, xq4⟩ := Hq.out.blk.cell
    have xql := Hq.out.blk.lt
    go_wp2_with fail
    clear xk0 xk1 xk2 xk3 xk4 xkl xq0 xq1 xq2 xq3 xq4 xql
    have hc := samE Hk.out.val Hq.out.val hzK
    refine hc.mono ?_
    clear hc
    rintro e w14 ⟨rfl, hb14⟩
    replace Hv := hide (Hv.out.go hb14)
    replace Hea := hide (Hea.out.go hb14)
    replace Hwa := hide (Hwa.out.go hb14)
    replace Hl := hide (Hl.out.go hb14)
    replace Hm := hide (Hm.out.go hb14)
    replace Hk := hide (Hk.out.go hb14)
    replace Hq := hide (Hq.out.go hb14)
    replace HE := hide (HE.out.go hb14)
    clear hb14
    clear Hm
    clear Hq
    obtain ⟨xv0, xv1, xv2, xv3, xv4⟩ := Hv.out.blk.cell
    have xvl := Hv.out.blk.lt
    go_wp2_with fail
    go_ret
    exact ⟨rfl, HE.out.bel⟩
end Go.Proofs.YtgjahnkldobphaaGreatDoor
