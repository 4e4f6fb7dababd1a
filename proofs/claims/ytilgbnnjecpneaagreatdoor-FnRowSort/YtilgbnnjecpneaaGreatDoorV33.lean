/- Texts of the proof, put together by program: LFnRowSort. -/
import Derived.Test.YtilgbnnjecpneaaGreatDoorV32
/- FnRowSort: for all bytes that lie in memory the law answers true. -/
namespace Go.Proofs.YtilgbnnjecpneaaGreatDoor
open Go.RowKit Go.Deep

set_option maxRecDepth 100000 in
set_option maxHeartbeats 16000000 in
theorem lawFnRowSort (a : Option Addr) (n cap : Nat) (w : World) (hcap : n ≤ cap) (_hm : cap ≤ 9223372036854775807) (hB : BytesAt w.heap.size w a n) (hg : ErrType w) :
    Calls Tryz.prog 6 #[.slice a n cap] w fun e w' => e = .returned (.bool true) ∧ Below w.heap.size w w' := by
  by_cases hn : 1048576 < n
  · go_enter Tryz.func6, Tryz.ntmps6
    go_wp2_with fail
    go_ret
    exact ⟨rfl, Below.refl _ _⟩
  go_enter Tryz.func6, Tryz.ntmps6
  go_wp2_with fail
  refine (drawRowSort_any a n cap w hcap hB).mono ?_
  rintro e w1 ⟨u, V, rfl, hv, hv1, hbl⟩
  obtain ⟨v0, v1, v2, v3, v4, v5, v6, v7, v8, rfl⟩ := hv.shape
  have HE : Hid (Amid w w1) := ⟨hbl, hg.below hbl⟩
  have hzV : wtT 11 V ≤ 10000 := by omega
  clear hbl hB hv1
  obtain ⟨W2, HW2⟩ : ∃ W1, Hid (w1.alloc (.cells #[.int .i64 v0, .int .i64 v1, .string v2, .slice v3 v4 v5, .slice v6 v7 v8] 29) = W1) := ⟨_, rfl⟩
  have hA2 : Below w1.heap.size w1 W2 := by rw [← HW2.out]; exact below_alloc1 _ _
  have Hv : Hid (VarAt w W2 w1.heap.size v0 v1 v2 v3 v4 v5 v6 v7 v8 11 V) := by rw [← HW2.out]; exact VarAt.new hv
  clear hv
  go_wp2_with fail
  rw [HW2.out]
  clear HW2
  replace HE := hide (HE.out.go hA2)
  clear hA2
  obtain ⟨⟨Sm, o1⟩, hS⟩ : ∃ r, Hid (rowTell (sortF 10) V = r) := ⟨_, rfl⟩
  have hzS : wtT 11 Sm ≤ 10000 := by have h := wt_ok (okT_rowTell (sortF 10) V); rw [hS.out] at h; exact h
  have hc := rsortI (d := 9) Hv.out.val HE.out.err HE.out.le
  rw [hS.out] at hc; dsimp only at hc
  refine hc.mono ?_
  clear hc
  rintro e w3 ⟨s0, s1, s2, s3, s4, s5, s6, s7, s8, rfl, hu3, hb3⟩
  replace Hv := hide (Hv.out.go hb3)
  replace HE := hide (HE.out.go hb3)
  clear hb3
  obtain ⟨xv0, xv1, xv2, xv3, xv4⟩ := Hv.out.blk.cell
  have xvl := Hv.out.blk.lt
  obtain ⟨W4, HW4⟩ : ∃ W1, Hid (w3.alloc (.cells #[.int .i64 s0, .int .i64 s1, .string s2, .slice s3 s4 s5, .slice s6 s7 s8] 29) = W1) := ⟨_, rfl⟩
  have hA4 : Below w3.heap.size w3 W4 := by rw [← HW4.out]; exact below_alloc1 _ _
  have Hs : Hid (VarAt w W4 w3.heap.size s0 s1 s2 s3 s4 s5 s6 s7 s8 11 Sm) := by rw [← HW4.out]; exact VarAt.new hu3
  clear hu3
  go_wp2_with fail
  rw [HW4.out]
  clear HW4
  clear xv0 xv1 xv2 xv3 xv4 xvl
  replace Hv := hide (Hv.out.go hA4)
  replace HE := hide (HE.out.go hA4)
  clear hA4
  have hc := rsortS (d := 9) Hv.out.val hzV HE.out.le
  rw [hS.out] at hc; dsimp only at hc
  refine hc.mono ?_
  clear hc
  rintro e w5 ⟨y0, y1, y2, y3, y4, y5, y6, y7, y8, rfl, hu5, hb5⟩
  replace Hv := hide (Hv.out.go hb5)
  replace Hs := hide (Hs.out.go hb5)
  replace HE := hide (HE.out.go hb5)
  clear hb5
  obtain ⟨xs0, xs1, xs2, xs3, xs4⟩ := Hs.out.blk.cell
  have xsl := Hs.out.blk.lt
  obtain ⟨W6, HW6⟩ : ∃ W1, Hid (w5.alloc (.cells #[.int .i64 y0, .int .i64 y1, .string y2, .slice y3 y4 y5, .slice y6 y7 y8] 29) = W1) := ⟨_, rfl⟩
  have hA6 : Below w5.heap.size w5 W6 := by rw [← HW6.out]; exact below_alloc1 _ _
  have Hy : Hid (VarAt w W6 w5.heap.size y0 y1 y2 y3 y4 y5 y6 y7 y8 11 Sm) := by rw [← HW6.out]; exact VarAt.new hu5
  clear hu5
  go_wp2_with fail
  rw [HW6.out]
  clear HW6
  clear xs0 xs1 xs2 xs3 xs4 xsl
  replace Hv := hide (Hv.out.go hA6)
  replace Hs := hide (Hs.out.go hA6)
  replace HE := hide (HE.out.go hA6)
  clear hA6
  have hc := samE Hs.out.val Hy.out.val hzS
  refine hc.mono ?_
  clear hc
  rintro e w7 ⟨rfl, hb7⟩
  replace Hv := hide (Hv.out.go hb7)
  replace Hs := hide (Hs.out.go hb7)
  replace Hy := hide (Hy.out.go hb7)
  replace HE := hide (HE.out.go hb7)
  clear hb7
  clear Hy
  cases o1 with
  | false =>
    have hSz : Sm = zeroT 10 := by have h := tell_no (f := sortF 10) (t := V) (by rw [hS.out]); rw [hS.out] at h; exact h
    have hs0 : s0 = 0 := by have h := (val_parts (d := 10) Hs.out.val).1; rw [hSz] at h; exact h
    subst hs0
    clear hSz
    obtain ⟨xs0, xs1, xs2, xs3, xs4⟩ := Hs.out.blk.cell
    have xsl := Hs.out.blk.lt
    go_wp2_with fail
    go_ret
    exact ⟨rfl, HE.out.bel⟩
  | true =>
    have hTO := tell_ok (f := sortF 10) (t := V) (by rw [hS.out])
    have okV := hTO.1
    have h5V := hTO.2.1
    have hSe : Sm = rowT 10 (sortL (ordT 10) (Nd.list (α := Tr 10) V)) := by obtain ⟨x, h1, _, h3⟩ := hTO.2.2; rw [hS.out] at h3; have e : Sm = x := congrArg Prod.fst h3; rw [e]; exact (Option.some.inj h1).symm
    clear hTO
    subst hSe
    have okR : okT 11 (rowT 10 (Nd.list (α := Tr 10) V)) = true := by have h := okV; rw [row_self (d := 10) okV h5V] at h; exact h
    have hv7 : v7 = (Nd.list (α := Tr 10) V).length := (val_parts (d := 10) Hv.out.val).2.2.2.2.1
    have hv60 : v7 ≤ 60 := by rw [hv7]; exact (okT_kinds (d := 10) okV).2.1
    have hs7 : v7 = s7 := by have h := (val_parts (d := 10) Hs.out.val).2.2.2.2.1; rw [hv7, ← sort_len (ordT 10) (Nd.list (α := Tr 10) V)]; exact h.symm
    subst hs7
    have HV7 := hide hv7
    clear hv7
    have hB1 : Hid (rowTell (backF 10) V = (rowT 10 (Nd.list (α := Tr 10) V).reverse, true)) := back_ok (d := 10) okV h5V
    have hT1 : Hid (rowTell (sortF 10) (rowT 10 (Nd.list (α := Tr 10) V).reverse) = (rowT 10 (sortL (ordT 10) (Nd.list (α := Tr 10) V)), true)) := by show _ = _; exact tell_of (okT_rowR okR (List.reverse_perm _)) (by show some _ = some _; rw [sort_perm (List.reverse_perm _)]) (okT_rowR okR (sortL_perm _ _))
    clear okR
    obtain ⟨xv0, xv1, xv2, xv3, xv4⟩ := Hv.out.blk.cell
    have xvl := Hv.out.blk.lt
    go_wp2_with fail
    clear xv0 xv1 xv2 xv3 xv4 xvl
    have hc := rbackI (d := 10) Hv.out.val HE.out.err HE.out.le
    rw [hB1.out] at hc; dsimp only at hc
    refine hc.mono ?_
    clear hc
    rintro e w8 ⟨b0, b1, b2, b3, b4, b5, b6, b7, b8, rfl, hu8, hb8⟩
    replace Hv := hide (Hv.out.go hb8)
    replace Hs := hide (Hs.out.go hb8)
    replace HE := hide (HE.out.go hb8)
    clear hb8
    obtain ⟨W9, HW9⟩ : ∃ W1, Hid (w8.alloc (.cells #[.int .i64 b0, .int .i64 b1, .string b2, .slice b3 b4 b5, .slice b6 b7 b8] 29) = W1) := ⟨_, rfl⟩
    have hA9 : Below w8.heap.size w8 W9 := by rw [← HW9.out]; exact below_alloc1 _ _
    have Hb : Hid (VarAt w W9 w8.heap.size b0 b1 b2 b3 b4 b5 b6 b7 b8 11 (rowT 10 (Nd.list (α := Tr 10) V).reverse)) := by rw [← HW9.out]; exact VarAt.new hu8
    clear hu8
    go_wp2_with fail
    rw [HW9.out]
    clear HW9
    replace Hv := hide (Hv.out.go hA9)
    replace Hs := hide (Hs.out.go hA9)
    replace HE := hide (HE.out.go hA9)
    clear hA9
    have hc := rsortI (d := 9) Hb.out.val HE.out.err HE.out.le
    rw [hT1.out] at hc; dsimp only at hc
    refine hc.mono ?_
    clear hc
    rintro e w10 ⟨t0, t1, t2, t3, t4, t5, t6, t7, t8, rfl, hu10, hb10⟩
    replace Hv := hide (Hv.out.go hb10)
    replace Hs := hide (Hs.out.go hb10)
    replace Hb := hide (Hb.out.go hb10)
    replace HE := hide (HE.out.go hb10)
    clear hb10
    clear Hb
    obtain ⟨xs0, xs1, xs2, xs3, xs4⟩ := Hs.out.blk.cell
    have xsl := Hs.out.blk.lt
    obtain ⟨W11, HW11⟩ : ∃ W1, Hid (w10.alloc (.cells #[.int .i64 t0, .int .i64 t1, .string t2, .slice t3 t4 t5, .slice t6 t7 t8] 29) = W1) := ⟨_, rfl⟩
    have hA11 : Below w10.heap.size w10 W11 := by rw [← HW11.out]; exact below_alloc1 _ _
    have Ht : Hid (VarAt w W11 w10.heap.size t0 t1 t2 t3 t4 t5 t6 t7 t8 11 (rowT 10 (sortL (ordT 10) (Nd.list (α := Tr 10) V)))) := by rw [← HW11.out]; exact VarAt.new hu10
    clear hu10
    go_wp2_with fail
    rw [HW11.out]
    clear HW11
    clear xs0 xs1 xs2 xs3 xs4 xsl
    replace Hv := hide (Hv.out.go hA11)
    replace Hs := hide (Hs.out.go hA11)
    replace HE := hide (HE.out.go hA11)
    clear hA11
    have hord : Hid (InOrd (ordT 10) (sortL (ordT 10) (Nd.list (α := Tr 10) V))) := sortL_ord (ord_T 10) _
    have hSl : Hid (v7 = (sortL (ordT 10) (Nd.list (α := Tr 10) V)).length) := by show _ = _; rw [sort_len]; exact HV7.out
    have hzE : Hid (∀ x, x ∈ (Nd.list (α := Tr 10) V) → wtT 10 x ≤ 10000) := fun x hx => wt_ok (okT_part (d := 10) okV hx)
    have HZ := hide (Since.start W11)
    go_loopw [12] (fun j wr => ∃ q : Nat, (q = 0 ∨ q + 1 ≤ v7) ∧ j = .int .i64 ((q : Int) + 1) ∧ Hid (Since W11 wr)) (fun j _ => v7 + 1 - (intOf j).toNat)
    case atStart => exact ⟨0, Or.inl rfl, rfl, HZ⟩
    case round =>
      clear HZ
      obtain ⟨q, hq, rfl, HZ⟩ := hrel
      have hbz := HZ.out.bel
      replace Hv := hide (Hv.out.go hbz)
      replace Hs := hide (Hs.out.go hbz)
      replace Ht := hide (Ht.out.go hbz)
      replace HE := hide (HE.out.go hbz)
      clear hbz
      by_cases hql : q + 1 < v7
      ·
        obtain ⟨i1, i2, i3, i4, i5, i6, i7, i8, i9, i10⟩ := idx_facts q v7 hql hv60
        obtain ⟨xb, xo, tx, x0, x1, x2, x3, x4, x5, x6, x7, x8, hxa, hxB, hxx, ex0, ex1, ex2, ex3, ex4, hxv⟩ := row_elem (val_parts (d := 10) Hs.out.val).2.2.2.2.2.2 (k := q) (by have h := hSl.out; exact Nat.lt_of_lt_of_eq i7 h)
        subst hxa
        obtain ⟨yb, yo, ty, y0, y1, y2, y3, y4, y5, y6, y7, y8, hya, hyB, hyx, ey0, ey1, ey2, ey3, ey4, hyv⟩ := row_elem (val_parts (d := 10) Hs.out.val).2.2.2.2.2.2 (k := q + 1) (by have h := hSl.out; exact Nat.lt_of_lt_of_eq hql h)
        cases hya
        have hzx : wtT 10 tx ≤ 10000 := hzE.out tx (sort_mem.1 (List.mem_of_getElem? hxx))
        obtain ⟨o, ho⟩ : ∃ o, Hid (ordT 10 tx ty = o) := ⟨_, rfl⟩
        have ho1 : o ≤ 0 := by rw [← ho.out]; exact inOrd_next hord.out hxx hyx
        have ho2 : ¬ (0 : Int) < o := by omega
        clear hxx hyx
        obtain ⟨xs0, xs1, xs2, xs3, xs4⟩ := Hs.out.blk.cell
        have xsl := Hs.out.blk.lt
        go_wp2_with fail
        clear xs0 xs1 xs2 xs3 xs4 xsl
        have e0' : Hid (∀ m : Ext wr, Calls Tryz.prog 23 #[.agg #[.int .i64 x0, .int .i64 x1, .string x2, .slice x3 x4 x5, .slice x6 x7 x8], .agg #[.int .i64 y0, .int .i64 y1, .string y2, .slice y3 y4 y5, .slice y6 y7 y8]] m.now fun e w' => e = .returned (.int .i64 o) ∧ Below m.now.heap.size m.now w') := fun m => (by have hc := ordI_at (freshP_go hxv m.from_) (freshP_go hyv m.from_) hzx; rw [ho.out] at hc; exact hc)
        obtain ⟨cs0, cs1, cs2, cs3, cs4⟩ := Hs.out.blk.cell
        have ds0 := fun m => ext_cell cs0 m
        have ds1 := fun m => ext_cell cs1 m
        have ds2 := fun m => ext_cell cs2 m
        have ds3 := fun m => ext_cell cs3 m
        have ds4 := fun m => ext_cell cs4 m
        clear cs0 cs1 cs2 cs3 cs4
        have ddex0 := fun m => ext_cell ex0 m
        have ddex1 := fun m => ext_cell ex1 m
        have ddex2 := fun m => ext_cell ex2 m
        have ddex3 := fun m => ext_cell ex3 m
        have ddex4 := fun m => ext_cell ex4 m
        have ddey0 := fun m => ext_cell ey0 m
        have ddey1 := fun m => ext_cell ey1 m
        have ddey2 := fun m => ext_cell ey2 m
        have ddey3 := fun m => ext_cell ey3 m
        have ddey4 := fun m => ext_cell ey4 m
        clear ex0 ex1 ex2 ex3 ex4 ey0 ey1 ey2 ey3 ey4
        have hne := Ext.some wr
        refine wp_region_ext (by kernel_rfl) (by kernel_rfl) ?_
        repeat (first | go_big_quiet_step ((first | (go_at_call 23; first | with_reducible exact Calls.ext_of (e0'.out _)))) | quiet_step ((first | (go_at_call 23; first | with_reducible exact Calls.ext_of (e0'.out _)))))
        refine wpQuiet_nil ?_
        intro w12 hw12
        obtain ⟨m, rfl⟩ := hw12
        obtain ⟨W12, hW12⟩ : ∃ W1, Hid (m.now = W1) := ⟨_, rfl⟩
        have hb12 := m.from_
        rw [hW12.out] at hb12 ⊢
        clear hW12 hne e0' ds0 ds1 ds2 ds3 ds4 ddex0 ddex1 ddex2 ddex3 ddex4 ddey0 ddey1 ddey2 ddey3 ddey4
        replace Hv := hide (Hv.out.go hb12)
        replace Hs := hide (Hs.out.go hb12)
        replace Ht := hide (Ht.out.go hb12)
        replace HZ := hide (HZ.out.go hb12)
        replace HE := hide (HE.out.go hb12)
        clear hb12
        clear hzV hzS hzx
        go_wp2_with fail
        go_roundw
        case rel => exact ⟨q + 1, Or.inr i10, by first | rfl | go_num, HZ⟩
        case measure => first | exact idx_meas q v7 hql | (simp only [intOf]; exact idx_meas q v7 hql) | (simp [intOf]; omega)
      ·
        clear HZ
        have i1 := idx_out q v7 hql
        have HS0 := hide (Since.start wr)
        have HVz := hide hzS
        clear hzV hzS
        obtain ⟨xs0, xs1, xs2, xs3, xs4⟩ := Hs.out.blk.cell
        have xsl := Hs.out.blk.lt
        obtain ⟨xv0, xv1, xv2, xv3, xv4⟩ := Hv.out.blk.cell
        have xvl := Hv.out.blk.lt
        go_wp2_with fail
        go_loopw [13] (fun i wz => ∃ p : Nat, p ≤ v7 ∧ i = .int .i64 (p : Int) ∧ Hid (Since wr wz)) (fun i _ => v7 - (intOf i).toNat)
        case atStart => exact ⟨0, Nat.zero_le _, rfl, HS0⟩
        case round =>
          clear xs0 xs1 xs2 xs3 xs4 xsl xv0 xv1 xv2 xv3 xv4 xvl
          clear HS0
          rename World => wA
          obtain ⟨p, hp, rfl, HY⟩ := hrel
          have hby := HY.out.bel
          replace Hv := hide (Hv.out.go hby)
          replace Hs := hide (Hs.out.go hby)
          replace Ht := hide (Ht.out.go hby)
          replace HE := hide (HE.out.go hby)
          clear hby
          by_cases hpl : p < v7
          ·
            have hpl2 : (p : Int) < (v7 : Int) := Int.ofNat_lt.2 hpl
            obtain ⟨tx, hxe⟩ : ∃ tx, Hid ((Nd.list (α := Tr 10) V)[p]? = some tx) := ⟨_, hide (List.getElem?_eq_getElem (show p < (Nd.list (α := Tr 10) V).length from by rw [← HV7.out]; exact hpl))⟩
            obtain ⟨xv0, xv1, xv2, xv3, xv4⟩ := Hv.out.blk.cell
            have xvl := Hv.out.blk.lt
            go_wp2_with fail
            have HS1 := hide (Since.start wA)
            go_loopw [14, 15] (fun n k wz => ∃ (r : Nat) (c : Int), r ≤ v7 ∧ n = .int .i64 c ∧ k = .int .i64 (r : Int) ∧ Hid (c = cntD tx (Nd.list (α := Tr 10) V) (sortL (ordT 10) (Nd.list (α := Tr 10) V)) r) ∧ Hid (Since wA wz)) (fun _ k _ => v7 - (intOf k).toNat)
            case atStart => exact ⟨0, 0, Nat.zero_le _, rfl, rfl, hide cntD_zero.symm, HS1⟩
            case round =>
              clear xv0 xv1 xv2 xv3 xv4 xvl
              clear HS1
              rename World => wB
              obtain ⟨r, c, hr, rfl, rfl, hc, HX⟩ := hrel
              have hbx := HX.out.bel
              replace Hv := hide (Hv.out.go hbx)
              replace Hs := hide (Hs.out.go hbx)
              replace Ht := hide (Ht.out.go hbx)
              replace HY := hide (HY.out.go hbx)
              replace HE := hide (HE.out.go hbx)
              clear hbx
              by_cases hrl : r < v7
              ·
                have hrl2 : (r : Int) < (v7 : Int) := Int.ofNat_lt.2 hrl
                obtain ⟨cw1, cw2, cw3, cw4⟩ := cnt_wrap (hc.out ▸ cntD_bd tx (Nd.list (α := Tr 10) V) (sortL (ordT 10) (Nd.list (α := Tr 10) V)) r) hr hv60
                obtain ⟨ty, hye⟩ : ∃ ty, Hid ((Nd.list (α := Tr 10) V)[r]? = some ty) := ⟨_, hide (List.getElem?_eq_getElem (show r < (Nd.list (α := Tr 10) V).length from by rw [← HV7.out]; exact hrl))⟩
                obtain ⟨tz, hze⟩ : ∃ tz, Hid ((sortL (ordT 10) (Nd.list (α := Tr 10) V))[r]? = some tz) := ⟨_, hide (List.getElem?_eq_getElem (show r < (sortL (ordT 10) (Nd.list (α := Tr 10) V)).length from Nat.lt_of_lt_of_eq hrl hSl.out))⟩
                obtain ⟨a1, ha1⟩ : ∃ b : Bool, Hid ((ordT 10 ty tx == 0) = b) := ⟨_, rfl⟩
                obtain ⟨a2, ha2⟩ : ∃ b : Bool, Hid ((ordT 10 tz tx == 0) = b) := ⟨_, rfl⟩
                have hst := hide (cntD_step hye.out hze.out ha1.out ha2.out)
                obtain ⟨xb, xo, tx, x0, x1, x2, x3, x4, x5, x6, x7, x8, hxa, hxB, hxx, ex0, ex1, ex2, ex3, ex4, hxv⟩ := row_elem (val_parts (d := 10) Hv.out.val).2.2.2.2.2.2 (k := p) (by rw [← HV7.out]; exact hpl)
                subst hxa
                cases (hxe.out.symm.trans hxx)
                clear hxx
                obtain ⟨yb, yo, ty, y0, y1, y2, y3, y4, y5, y6, y7, y8, hya, hyB, hyx, ey0, ey1, ey2, ey3, ey4, hyv⟩ := row_elem (val_parts (d := 10) Hv.out.val).2.2.2.2.2.2 (k := r) (by rw [← HV7.out]; exact hrl)
                cases hya
                cases (hye.out.symm.trans hyx)
                clear hyx
                obtain ⟨xv0, xv1, xv2, xv3, xv4⟩ := Hv.out.blk.cell
                have xvl := Hv.out.blk.lt
                go_wp2_with fail
                clear xv0 xv1 xv2 xv3 xv4 xvl
                have e0' : Hid (∀ m : Ext wB, Calls Tryz.prog 21 #[.agg #[.int .i64 y0, .int .i64 y1, .string y2, .slice y3 y4 y5, .slice y6 y7 y8], .agg #[.int .i64 x0, .int .i64 x1, .string x2, .slice x3 x4 x5, .slice x6 x7 x8]] m.now fun e w' => e = .returned (.bool a1) ∧ Below m.now.heap.size m.now w') := fun m => (by have hc := samI_at (freshP_go hyv m.from_) (freshP_go hxv m.from_) (hzE.out _ (List.mem_of_getElem? hye.out)); rw [ha1.out] at hc; exact hc)
                obtain ⟨cv0, cv1, cv2, cv3, cv4⟩ := Hv.out.blk.cell
                have dv0 := fun m => ext_cell cv0 m
                have dv1 := fun m => ext_cell cv1 m
                have dv2 := fun m => ext_cell cv2 m
                have dv3 := fun m => ext_cell cv3 m
                have dv4 := fun m => ext_cell cv4 m
                clear cv0 cv1 cv2 cv3 cv4
                have ddex0 := fun m => ext_cell ex0 m
                have ddex1 := fun m => ext_cell ex1 m
                have ddex2 := fun m => ext_cell ex2 m
                have ddex3 := fun m => ext_cell ex3 m
                have ddex4 := fun m => ext_cell ex4 m
                have ddey0 := fun m => ext_cell ey0 m
                have ddey1 := fun m => ext_cell ey1 m
                have ddey2 := fun m => ext_cell ey2 m
                have ddey3 := fun m => ext_cell ey3 m
                have ddey4 := fun m => ext_cell ey4 m
                clear ex0 ex1 ex2 ex3 ex4 ey0 ey1 ey2 ey3 ey4
                have hne := Ext.some wB
                refine wp_region_ext (by kernel_rfl) (by kernel_rfl) ?_
                repeat (first | go_big_quiet_step ((first | (go_at_call 21; first | with_reducible exact Calls.ext_of (e0'.out _)))) | quiet_step ((first | (go_at_call 21; first | with_reducible exact Calls.ext_of (e0'.out _)))))
                refine wpQuiet_nil ?_
                intro w12 hw12
                obtain ⟨m, rfl⟩ := hw12
                obtain ⟨W12, hW12⟩ : ∃ W1, Hid (m.now = W1) := ⟨_, rfl⟩
                have hb12 := m.from_
                rw [hW12.out] at hb12 ⊢
                clear hW12 hne e0' dv0 dv1 dv2 dv3 dv4 ddex0 ddex1 ddex2 ddex3 ddex4 ddey0 ddey1 ddey2 ddey3 ddey4
                replace Hv := hide (Hv.out.go hb12)
                replace Hs := hide (Hs.out.go hb12)
                replace Ht := hide (Ht.out.go hb12)
                replace HY := hide (HY.out.go hb12)
                replace HX := hide (HX.out.go hb12)
                replace HE := hide (HE.out.go hb12)
                clear hb12
                clear hxv hyv hxB hyB
                cases a1
                ·
                  obtain ⟨wb, wo, tw, w0, w1, w2, w3, w4, w5, w6, w7, w8, hwa, hwB, hwx, ew0, ew1, ew2, ew3, ew4, hwv⟩ := row_elem (val_parts (d := 10) Hv.out.val).2.2.2.2.2.2 (k := p) (by rw [← HV7.out]; exact hpl)
                  cases hwa
                  cases (hxe.out.symm.trans hwx)
                  clear hwx
                  obtain ⟨zb, zo, tz, z0, z1, z2, z3, z4, z5, z6, z7, z8, hza, hzB, hzx, ez0, ez1, ez2, ez3, ez4, hzv⟩ := row_elem (val_parts (d := 10) Hs.out.val).2.2.2.2.2.2 (k := r) (Nat.lt_of_lt_of_eq hrl hSl.out)
                  subst hza
                  cases (hze.out.symm.trans hzx)
                  clear hzx
                  obtain ⟨xv0, xv1, xv2, xv3, xv4⟩ := Hv.out.blk.cell
                  have xvl := Hv.out.blk.lt
                  obtain ⟨xs0, xs1, xs2, xs3, xs4⟩ := Hs.out.blk.cell
                  have xsl := Hs.out.blk.lt
                  go_wp2_with fail
                  clear xv0 xv1 xv2 xv3 xv4 xvl xs0 xs1 xs2 xs3 xs4 xsl
                  have e0' : Hid (∀ m : Ext W12, Calls Tryz.prog 21 #[.agg #[.int .i64 z0, .int .i64 z1, .string z2, .slice z3 z4 z5, .slice z6 z7 z8], .agg #[.int .i64 w0, .int .i64 w1, .string w2, .slice w3 w4 w5, .slice w6 w7 w8]] m.now fun e w' => e = .returned (.bool a2) ∧ Below m.now.heap.size m.now w') := fun m => (by have hc := samI_at (freshP_go hzv m.from_) (freshP_go hwv m.from_) (hzE.out _ (sort_mem.1 (List.mem_of_getElem? hze.out))); rw [ha2.out] at hc; exact hc)
                  obtain ⟨cv0, cv1, cv2, cv3, cv4⟩ := Hv.out.blk.cell
                  have dv0 := fun m => ext_cell cv0 m
                  have dv1 := fun m => ext_cell cv1 m
                  have dv2 := fun m => ext_cell cv2 m
                  have dv3 := fun m => ext_cell cv3 m
                  have dv4 := fun m => ext_cell cv4 m
                  clear cv0 cv1 cv2 cv3 cv4
                  obtain ⟨cs0, cs1, cs2, cs3, cs4⟩ := Hs.out.blk.cell
                  have ds0 := fun m => ext_cell cs0 m
                  have ds1 := fun m => ext_cell cs1 m
                  have ds2 := fun m => ext_cell cs2 m
                  have ds3 := fun m => ext_cell cs3 m
                  have ds4 := fun m => ext_cell cs4 m
                  clear cs0 cs1 cs2 cs3 cs4
                  have ddew0 := fun m => ext_cell ew0 m
                  have ddew1 := fun m => ext_cell ew1 m
                  have ddew2 := fun m => ext_cell ew2 m
                  have ddew3 := fun m => ext_cell ew3 m
                  have ddew4 := fun m => ext_cell ew4 m
                  have ddez0 := fun m => ext_cell ez0 m
                  have ddez1 := fun m => ext_cell ez1 m
                  have ddez2 := fun m => ext_cell ez2 m
                  have ddez3 := fun m => ext_cell ez3 m
                  have ddez4 := fun m => ext_cell ez4 m
                  clear ew0 ew1 ew2 ew3 ew4 ez0 ez1 ez2 ez3 ez4
                  have hne := Ext.some W12
                  refine wp_region_ext (by kernel_rfl) (by kernel_rfl) ?_
                  repeat (first | go_big_quiet_step ((first | (go_at_call 21; first | with_reducible exact Calls.ext_of (e0'.out _)))) | quiet_step ((first | (go_at_call 21; first | with_reducible exact Calls.ext_of (e0'.out _)))))
                  refine wpQuiet_nil ?_
                  intro w13 hw13
                  obtain ⟨m, rfl⟩ := hw13
                  obtain ⟨W13, hW13⟩ : ∃ W1, Hid (m.now = W1) := ⟨_, rfl⟩
                  have hb13 := m.from_
                  rw [hW13.out] at hb13 ⊢
                  clear hW13 hne e0' dv0 dv1 dv2 dv3 dv4 ds0 ds1 ds2 ds3 ds4 ddew0 ddew1 ddew2 ddew3 ddew4 ddez0 ddez1 ddez2 ddez3 ddez4
                  replace Hv := hide (Hv.out.go hb13)
                  replace Hs := hide (Hs.out.go hb13)
                  replace Ht := hide (Ht.out.go hb13)
                  replace HY := hide (HY.out.go hb13)
                  replace HX := hide (HX.out.go hb13)
                  replace HE := hide (HE.out.go hb13)
                  clear hb13
                  cases a2
                  ·
                    have HC : Hid (c = cntD tx (Nd.list (α := Tr 10) V) (sortL (ordT 10) (Nd.list (α := Tr 10) V)) (r + 1)) := by show _ = _; rw [hst.out, ← hc.out]; simp
                    clear hst hc
                    go_wp2_with fail
                    go_roundw
                    case rel => exact ⟨r + 1, c, hrl, by first | rfl | rw [cw2] | rw [cw4] | rw [cw1] | go_num, by first | rfl | go_num, HC, HX⟩
                    case measure => simp [intOf]; omega
                  ·
                    have HC : Hid (c - 1 = cntD tx (Nd.list (α := Tr 10) V) (sortL (ordT 10) (Nd.list (α := Tr 10) V)) (r + 1)) := by show _ = _; rw [hst.out, ← hc.out]; simp
                    clear hst hc
                    go_wp2_with fail
                    go_roundw
                    case rel => exact ⟨r + 1, c - 1, hrl, by first | rfl | rw [cw2] | rw [cw4] | rw [cw1] | go_num, by first | rfl | go_num, HC, HX⟩
                    case measure => simp [intOf]; omega
                ·
                  obtain ⟨wb, wo, tw, w0, w1, w2, w3, w4, w5, w6, w7, w8, hwa, hwB, hwx, ew0, ew1, ew2, ew3, ew4, hwv⟩ := row_elem (val_parts (d := 10) Hv.out.val).2.2.2.2.2.2 (k := p) (by rw [← HV7.out]; exact hpl)
                  cases hwa
                  cases (hxe.out.symm.trans hwx)
                  clear hwx
                  obtain ⟨zb, zo, tz, z0, z1, z2, z3, z4, z5, z6, z7, z8, hza, hzB, hzx, ez0, ez1, ez2, ez3, ez4, hzv⟩ := row_elem (val_parts (d := 10) Hs.out.val).2.2.2.2.2.2 (k := r) (Nat.lt_of_lt_of_eq hrl hSl.out)
                  subst hza
                  cases (hze.out.symm.trans hzx)
                  clear hzx
                  obtain ⟨xv0, xv1, xv2, xv3, xv4⟩ := Hv.out.blk.cell
                  have xvl := Hv.out.blk.lt
                  obtain ⟨xs0, xs1, xs2, xs3, xs4⟩ := Hs.out.blk.cell
                  have xsl := Hs.out.blk.lt
                  go_wp2_with fail
                  clear xv0 xv1 xv2 xv3 xv4 xvl xs0 xs1 xs2 xs3 xs4 xsl
                  have e0' : Hid (∀ m : Ext W12, Calls Tryz.prog 21 #[.agg #[.int .i64 z0, .int .i64 z1, .string z2, .slice z3 z4 z5, .slice z6 z7 z8], .agg #[.int .i64 w0, .int .i64 w1, .string w2, .slice w3 w4 w5, .slice w6 w7 w8]] m.now fun e w' => e = .returned (.bool a2) ∧ Below m.now.heap.size m.now w') := fun m => (by have hc := samI_at (freshP_go hzv m.from_) (freshP_go hwv m.from_) (hzE.out _ (sort_mem.1 (List.mem_of_getElem? hze.out))); rw [ha2.out] at hc; exact hc)
                  obtain ⟨cv0, cv1, cv2, cv3, cv4⟩ := Hv.out.blk.cell
                  have dv0 := fun m => ext_cell cv0 m
                  have dv1 := fun m => ext_cell cv1 m
                  have dv2 := fun m => ext_cell cv2 m
                  have dv3 := fun m => ext_cell cv3 m
                  have dv4 := fun m => ext_cell cv4 m
                  clear cv0 cv1 cv2 cv3 cv4
                  obtain ⟨cs0, cs1, cs2, cs3, cs4⟩ := Hs.out.blk.cell
                  have ds0 := fun m => ext_cell cs0 m
                  have ds1 := fun m => ext_cell cs1 m
                  have ds2 := fun m => ext_cell cs2 m
                  have ds3 := fun m => ext_cell cs3 m
                  have ds4 := fun m => ext_cell cs4 m
                  clear cs0 cs1 cs2 cs3 cs4
                  have ddew0 := fun m => ext_cell ew0 m
                  have ddew1 := fun m => ext_cell ew1 m
                  have ddew2 := fun m => ext_cell ew2 m
                  have ddew3 := fun m => ext_cell ew3 m
                  have ddew4 := fun m => ext_cell ew4 m
                  have ddez0 := fun m => ext_cell ez0 m
                  have ddez1 := fun m => ext_cell ez1 m
                  have ddez2 := fun m => ext_cell ez2 m
                  have ddez3 := fun m => ext_cell ez3 m
                  have ddez4 := fun m => ext_cell ez4 m
                  clear ew0 ew1 ew2 ew3 ew4 ez0 ez1 ez2 ez3 ez4
                  have hne := Ext.some W12
                  refine wp_region_ext (by kernel_rfl) (by kernel_rfl) ?_
                  repeat (first | go_big_quiet_step ((first | (go_at_call 21; first | with_reducible exact Calls.ext_of (e0'.out _)))) | quiet_step ((first | (go_at_call 21; first | with_reducible exact Calls.ext_of (e0'.out _)))))
                  refine wpQuiet_nil ?_
                  intro w13 hw13
                  obtain ⟨m, rfl⟩ := hw13
                  obtain ⟨W13, hW13⟩ : ∃ W1, Hid (m.now = W1) := ⟨_, rfl⟩
                  have hb13 := m.from_
                  rw [hW13.out] at hb13 ⊢
                  clear hW13 hne e0' dv0 dv1 dv2 dv3 dv4 ds0 ds1 ds2 ds3 ds4 ddew0 ddew1 ddew2 ddew3 ddew4 ddez0 ddez1 ddez2 ddez3 ddez4
                  replace Hv := hide (Hv.out.go hb13)
                  replace Hs := hide (Hs.out.go hb13)
                  replace Ht := hide (Ht.out.go hb13)
                  replace HY := hide (HY.out.go hb13)
                  replace HX := hide (HX.out.go hb13)
                  replace HE := hide (HE.out.go hb13)
                  clear hb13
                  cases a2
                  ·
                    have HC : Hid (c + 1 = cntD tx (Nd.list (α := Tr 10) V) (sortL (ordT 10) (Nd.list (α := Tr 10) V)) (r + 1)) := by show _ = _; rw [hst.out, ← hc.out]; simp
                    clear hst hc
                    go_wp2_with fail
                    go_roundw
                    case rel => exact ⟨r + 1, c + 1, hrl, by first | rfl | rw [cw2] | rw [cw4] | rw [cw1] | go_num, by first | rfl | go_num, HC, HX⟩
                    case measure => simp [intOf]; omega
                  ·
                    have HC : Hid (c = cntD tx (Nd.list (α := Tr 10) V) (sortL (ordT 10) (Nd.list (α := Tr 10) V)) (r + 1)) := by show _ = _; rw [hst.out, ← hc.out]; simp
                    clear hst hc
                    go_wp2_with fail
                    go_roundw
                    case rel => exact ⟨r + 1, c, hrl, by first | rfl | rw [cw2] | rw [cw4] | rw [cw1] | go_num, by first | rfl | go_num, HC, HX⟩
                    case measure => simp [intOf]; omega
              ·
                have hrl2 : ¬ ((r : Int) < (v7 : Int)) := fun h => hrl (Int.ofNat_lt.1 h)
                have hc0 : c = 0 := by rw [hc.out]; exact cntD_end (sortL_perm _ _) (by rw [← HV7.out]; exact Nat.le_of_not_lt hrl)
                subst hc0
                clear hc
                obtain ⟨xv0, xv1, xv2, xv3, xv4⟩ := Hv.out.blk.cell
                have xvl := Hv.out.blk.lt
                go_wp2_with fail
                go_roundw
                case rel => exact ⟨p + 1, hpl, by first | rfl | go_num, HY⟩
                case measure => simp [intOf]; omega
          ·
            clear HY
            have hpl2 : ¬ ((p : Int) < (v7 : Int)) := fun h => hpl (Int.ofNat_lt.1 h)
            obtain ⟨xv0, xv1, xv2, xv3, xv4⟩ := Hv.out.blk.cell
            have xvl := Hv.out.blk.lt
            obtain ⟨xt0, xt1, xt2, xt3, xt4⟩ := Ht.out.blk.cell
            have xtl := Ht.out.blk.lt
            obtain ⟨xs0, xs1, xs2, xs3, xs4⟩ := Hs.out.blk.cell
            have xsl := Hs.out.blk.lt
            go_wp2_with fail
            clear xv0 xv1 xv2 xv3 xv4 xvl xt0 xt1 xt2 xt3 xt4 xtl xs0 xs1 xs2 xs3 xs4 xsl
            have hc := samE Ht.out.val Hs.out.val HVz.out
            refine hc.mono ?_
            clear hc
            rintro e w12 ⟨rfl, hb12⟩
            replace Hv := hide (Hv.out.go hb12)
            replace Hs := hide (Hs.out.go hb12)
            replace Ht := hide (Ht.out.go hb12)
            replace HE := hide (HE.out.go hb12)
            clear hb12
            obtain ⟨xv0, xv1, xv2, xv3, xv4⟩ := Hv.out.blk.cell
            have xvl := Hv.out.blk.lt
            obtain ⟨xs0, xs1, xs2, xs3, xs4⟩ := Hs.out.blk.cell
            have xsl := Hs.out.blk.lt
            go_wp2_with fail
            go_ret
            exact ⟨rfl, HE.out.bel⟩
end Go.Proofs.YtilgbnnjecpneaaGreatDoor
