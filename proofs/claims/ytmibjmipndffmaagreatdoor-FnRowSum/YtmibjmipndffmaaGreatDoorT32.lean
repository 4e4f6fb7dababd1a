/- Texts of the proof, put together by program: LFnRowSum. -/
import Derived.Test.YtmibjmipndffmaaGreatDoorT31
/- FnRowSum: for all bytes that lie in memory the law answers true. -/
namespace Go.Proofs.YtmibjmipndffmaaGreatDoor
open Go.RowKit Go.Deep

set_option maxRecDepth 100000 in
set_option maxHeartbeats 16000000 in
theorem lawFnRowSum (a : Option Addr) (n cap : Nat) (w : World) (hcap : n ≤ cap) (_hm : cap ≤ 9223372036854775807) (hB : BytesAt w.heap.size w a n) (hg : ErrType w) :
    Calls Tryz.prog 7 #[.slice a n cap] w fun e w' => e = .returned (.bool true) ∧ Below w.heap.size w w' := by
  by_cases hn : 1048576 < n
  · go_enter Tryz.func7, Tryz.ntmps7
    go_wp2_with fail
    go_ret
    exact ⟨rfl, Below.refl _ _⟩
  go_enter Tryz.func7, Tryz.ntmps7
  go_wp2_with fail
  refine (drawRowSum_any a n cap w hcap hB).mono ?_
  rintro e w1 ⟨u, V, rfl, hv, hv1, hbl⟩
  obtain ⟨v0, v1, v2, v3, v4, v5, v6, v7, v8, rfl⟩ := hv.shape
  have HE : Hid (Amid w w1) := ⟨hbl, hg.below hbl⟩
  have hzV : wtT 11 V ≤ 10000 := by omega
  clear hbl hB hv1
  obtain ⟨W2, HW2⟩ : ∃ W1, Hid (w1.alloc (.cells #[.int .i64 v0, .int .i64 v1, .string v2, .slice v3 v4 v5, .slice v6 v7 v8] 26) = W1) := ⟨_, rfl⟩
  have hA2 : Below w1.heap.size w1 W2 := by rw [← HW2.out]; exact below_alloc1 _ _
  have Hv : Hid (VarAt w W2 w1.heap.size v0 v1 v2 v3 v4 v5 v6 v7 v8 11 V) := by rw [← HW2.out]; exact VarAt.new hv
  clear hv
  go_wp2_with fail
  rw [HW2.out]
  clear HW2
  replace HE := hide (HE.out.go hA2)
  clear hA2
  obtain ⟨⟨Sm, o1⟩, hS⟩ : ∃ r, Hid (rowTell (sumF 9) V = r) := ⟨_, rfl⟩
  have hzS : wtT 10 Sm ≤ 10000 := by have := wtT_ok (okT_rowTell (sumF 9) V); rw [hS.out] at this; have h2 : wtT 10 Sm ≤ 300 := this; omega
  obtain ⟨⟨F, o2⟩, hF⟩ : ∃ r, Hid (rowTell (flatF 9) V = r) := ⟨_, rfl⟩
  have hzF : wtT 11 F ≤ 10000 := by have := wtT_ok (okT_rowTell (flatF 9) V); rw [hF.out] at this; have h2 : wtT 11 F ≤ 300 := this; omega
  have hc := rsumI (d := 9) Hv.out.val HE.out.err HE.out.le
  rw [hS.out] at hc; dsimp only at hc
  refine hc.mono ?_
  clear hc
  rintro e w3 ⟨s0, s1, s2, s3, s4, s5, s6, s7, s8, rfl, hu3, hb3⟩
  replace Hv := hide (Hv.out.go hb3)
  replace HE := hide (HE.out.go hb3)
  clear hb3
  obtain ⟨xv0, xv1, xv2, xv3, xv4⟩ := Hv.out.blk.cell
  have xvl := Hv.out.blk.lt
  obtain ⟨W4, HW4⟩ : ∃ W1, Hid (w3.alloc (.cells #[.int .i64 s0, .int .i64 s1, .string s2, .slice s3 s4 s5, .slice s6 s7 s8] 26) = W1) := ⟨_, rfl⟩
  have hA4 : Below w3.heap.size w3 W4 := by rw [← HW4.out]; exact below_alloc1 _ _
  have Hs : Hid (VarAt w W4 w3.heap.size s0 s1 s2 s3 s4 s5 s6 s7 s8 10 Sm) := by rw [← HW4.out]; exact VarAt.new hu3
  clear hu3
  go_wp2_with fail
  rw [HW4.out]
  clear HW4
  clear xv0 xv1 xv2 xv3 xv4 xvl
  replace Hv := hide (Hv.out.go hA4)
  replace HE := hide (HE.out.go hA4)
  clear hA4
  have hc := rsumS (d := 8) Hv.out.val hzV HE.out.le
  rw [hS.out] at hc; dsimp only at hc
  refine hc.mono ?_
  clear hc
  rintro e w5 ⟨y0, y1, y2, y3, y4, y5, y6, y7, y8, rfl, hu5, hb5⟩
  replace Hv := hide (Hv.out.go hb5)
  replace Hs := hide (Hs.out.go hb5)
  replace HE := hide (HE.out.go hb5)
  clear hb5
  obtain ⟨xv0, xv1, xv2, xv3, xv4⟩ := Hv.out.blk.cell
  have xvl := Hv.out.blk.lt
  obtain ⟨W6, HW6⟩ : ∃ W1, Hid (w5.alloc (.cells #[.int .i64 y0, .int .i64 y1, .string y2, .slice y3 y4 y5, .slice y6 y7 y8] 26) = W1) := ⟨_, rfl⟩
  have hA6 : Below w5.heap.size w5 W6 := by rw [← HW6.out]; exact below_alloc1 _ _
  have Hy : Hid (VarAt w W6 w5.heap.size y0 y1 y2 y3 y4 y5 y6 y7 y8 10 Sm) := by rw [← HW6.out]; exact VarAt.new hu5
  clear hu5
  go_wp2_with fail
  rw [HW6.out]
  clear HW6
  clear xv0 xv1 xv2 xv3 xv4 xvl
  replace Hv := hide (Hv.out.go hA6)
  replace Hs := hide (Hs.out.go hA6)
  replace HE := hide (HE.out.go hA6)
  clear hA6
  have hc := rflatI (d := 9) Hv.out.val HE.out.err HE.out.le
  rw [hF.out] at hc; dsimp only at hc
  refine hc.mono ?_
  clear hc
  rintro e w7 ⟨f0, f1, f2, f3, f4, f5, f6, f7, f8, rfl, hu7, hb7⟩
  replace Hv := hide (Hv.out.go hb7)
  replace Hs := hide (Hs.out.go hb7)
  replace Hy := hide (Hy.out.go hb7)
  replace HE := hide (HE.out.go hb7)
  clear hb7
  obtain ⟨xv0, xv1, xv2, xv3, xv4⟩ := Hv.out.blk.cell
  have xvl := Hv.out.blk.lt
  obtain ⟨W8, HW8⟩ : ∃ W1, Hid (w7.alloc (.cells #[.int .i64 f0, .int .i64 f1, .string f2, .slice f3 f4 f5, .slice f6 f7 f8] 26) = W1) := ⟨_, rfl⟩
  have hA8 : Below w7.heap.size w7 W8 := by rw [← HW8.out]; exact below_alloc1 _ _
  have Hf : Hid (VarAt w W8 w7.heap.size f0 f1 f2 f3 f4 f5 f6 f7 f8 11 F) := by rw [← HW8.out]; exact VarAt.new hu7
  clear hu7
  go_wp2_with fail
  rw [HW8.out]
  clear HW8
  clear xv0 xv1 xv2 xv3 xv4 xvl
  replace Hv := hide (Hv.out.go hA8)
  replace Hs := hide (Hs.out.go hA8)
  replace Hy := hide (Hy.out.go hA8)
  replace HE := hide (HE.out.go hA8)
  clear hA8
  have hc := rflatS (d := 9) Hv.out.val hzV HE.out.le
  rw [hF.out] at hc; dsimp only at hc
  refine hc.mono ?_
  clear hc
  rintro e w9 ⟨g0, g1, g2, g3, g4, g5, g6, g7, g8, rfl, hu9, hb9⟩
  replace Hv := hide (Hv.out.go hb9)
  replace Hs := hide (Hs.out.go hb9)
  replace Hy := hide (Hy.out.go hb9)
  replace Hf := hide (Hf.out.go hb9)
  replace HE := hide (HE.out.go hb9)
  clear hb9
  obtain ⟨xs0, xs1, xs2, xs3, xs4⟩ := Hs.out.blk.cell
  have xsl := Hs.out.blk.lt
  obtain ⟨xy0, xy1, xy2, xy3, xy4⟩ := Hy.out.blk.cell
  have xyl := Hy.out.blk.lt
  obtain ⟨W10, HW10⟩ : ∃ W1, Hid (w9.alloc (.cells #[.int .i64 g0, .int .i64 g1, .string g2, .slice g3 g4 g5, .slice g6 g7 g8] 26) = W1) := ⟨_, rfl⟩
  have hA10 : Below w9.heap.size w9 W10 := by rw [← HW10.out]; exact below_alloc1 _ _
  have Hg : Hid (VarAt w W10 w9.heap.size g0 g1 g2 g3 g4 g5 g6 g7 g8 11 F) := by rw [← HW10.out]; exact VarAt.new hu9
  clear hu9
  go_wp2_with fail
  rw [HW10.out]
  clear HW10
  clear xs0 xs1 xs2 xs3 xs4 xsl xy0 xy1 xy2 xy3 xy4 xyl
  replace Hv := hide (Hv.out.go hA10)
  replace Hs := hide (Hs.out.go hA10)
  replace Hy := hide (Hy.out.go hA10)
  replace Hf := hide (Hf.out.go hA10)
  replace HE := hide (HE.out.go hA10)
  clear hA10
  have hc := samE Hs.out.val Hy.out.val hzS
  refine hc.mono ?_
  clear hc
  rintro e w11 ⟨rfl, hb11⟩
  replace Hv := hide (Hv.out.go hb11)
  replace Hs := hide (Hs.out.go hb11)
  replace Hy := hide (Hy.out.go hb11)
  replace Hf := hide (Hf.out.go hb11)
  replace Hg := hide (Hg.out.go hb11)
  replace HE := hide (HE.out.go hb11)
  clear hb11
  obtain ⟨xf0, xf1, xf2, xf3, xf4⟩ := Hf.out.blk.cell
  have xfl := Hf.out.blk.lt
  obtain ⟨xg0, xg1, xg2, xg3, xg4⟩ := Hg.out.blk.cell
  have xgl := Hg.out.blk.lt
  go_wp2_with fail
  clear xf0 xf1 xf2 xf3 xf4 xfl xg0 xg1 xg2 xg3 xg4 xgl
  have hc := samE Hf.out.val Hg.out.val hzF
  refine hc.mono ?_
  clear hc
  rintro e w12 ⟨rfl, hb12⟩
  replace Hv := hide (Hv.out.go hb12)
  replace Hs := hide (Hs.out.go hb12)
  replace Hy := hide (Hy.out.go hb12)
  replace Hf := hide (Hf.out.go hb12)
  replace Hg := hide (Hg.out.go hb12)
  replace HE := hide (HE.out.go hb12)
  clear hb12
  clear Hy
  clear Hg
  cases o1 with
  | false =>
    have hSz : Sm = zeroT 9 := by have h := tell_no (f := sumF 9) (t := V) (by rw [hS.out]); rw [hS.out] at h; exact h
    have hs0 : s0 = 0 := by have h := (val_parts (d := 9) Hs.out.val).1; rw [hSz] at h; exact h
    subst hs0
    obtain ⟨xs0, xs1, xs2, xs3, xs4⟩ := Hs.out.blk.cell
    have xsl := Hs.out.blk.lt
    go_wp2_with fail
    go_ret
    exact ⟨rfl, HE.out.bel⟩
  | true =>
    have hTO := tell_ok (f := sumF 9) (t := V) (by rw [hS.out])
    have okV := hTO.1
    have h5V := hTO.2.1
    have hsum : Hid (sumF 9 (Nd.list (α := Tr 10) V) = some Sm) := by obtain ⟨x, h1, _, h3⟩ := hTO.2.2; rw [hS.out] at h3; have e : Sm = x := congrArg Prod.fst h3; show _ = _; rw [h1, e]
    clear hTO
    have hv7 : v7 = (Nd.list (α := Tr 10) V).length := (val_parts (d := 10) Hv.out.val).2.2.2.2.1
    have hv60 : v7 ≤ 60 := by rw [hv7]; exact (okT_kinds (d := 10) okV).2.1
    have HV7 := hide hv7
    clear hv7
    have hcs : v7 = 0 ∨ ∃ k, v7 = k + 1 := by cases v7 with | zero => exact Or.inl rfl | succ k => exact Or.inr ⟨k, rfl⟩
    rcases hcs with h0 | ⟨k, h0⟩
    ·
      subst h0
      have hSz : Sm = zeroT 9 := by have h := hsum.out; rw [List.eq_nil_of_length_eq_zero HV7.out.symm] at h; exact (Option.some.inj h).symm
      have hs0 : s0 = 0 := by have h := (val_parts (d := 9) Hs.out.val).1; rw [hSz] at h; exact h
      subst hs0
      clear hSz
      obtain ⟨xv0, xv1, xv2, xv3, xv4⟩ := Hv.out.blk.cell
      have xvl := Hv.out.blk.lt
      obtain ⟨xs0, xs1, xs2, xs3, xs4⟩ := Hs.out.blk.cell
      have xsl := Hs.out.blk.lt
      go_wp2_with fail
      go_ret
      exact ⟨rfl, HE.out.bel⟩
    ·
      subst h0
      obtain ⟨x, hx⟩ : ∃ x, Hid ((Nd.list (α := Tr 10) V)[k]? = some x) := ⟨_, List.getElem?_eq_getElem (by rw [← HV7.out]; omega)⟩
      have hsp : Hid ((Nd.list (α := Tr 10) V) = (Nd.list (α := Tr 10) V).take k ++ [x]) := by
        have h1 : (Nd.list (α := Tr 10) V).take (k + 1) = (Nd.list (α := Tr 10) V).take k ++ [x] := by rw [List.take_add_one, hx.out]; rfl
        have h2 : (Nd.list (α := Tr 10) V).take (k + 1) = (Nd.list (α := Tr 10) V) := List.take_of_length_le (by rw [← HV7.out]; exact Nat.le_refl _)
        exact h2.symm.trans h1
      obtain ⟨T, hT1, hT2⟩ : ∃ T, Hid (sumF 9 ((Nd.list (α := Tr 10) V).take k) = some T) ∧ Hid (partAddT 9 T x = (Sm, true)) := by
        have h := hsum.out
        rw [hsp.out] at h
        exact sumS_last _ h
      have hC : Hid (cutR 10 V 0 (k : Int) = (rowT 10 ((Nd.list (α := Tr 10) V).take k), true)) := cut_first (d := 10) okV h5V (by have := HV7.out; omega)
      have okC : okT 11 (rowT 10 ((Nd.list (α := Tr 10) V).take k)) = true := by have h := okT_cut 10 V 0 (k : Int); rw [hC.out] at h; exact h
      have okTT : okT 10 T = true := sumS_ok _ (okT_zero 9) hT1.out
      have hT : Hid (rowTell (sumF 9) (rowT 10 ((Nd.list (α := Tr 10) V).take k)) = (T, true)) := tell_of okC hT1.out okTT
      clear okC
      obtain ⟨xv0, xv1, xv2, xv3, xv4⟩ := Hv.out.blk.cell
      have xvl := Hv.out.blk.lt
      go_wp2_with fail
      clear xv0 xv1 xv2 xv3 xv4 xvl
      have hc := rcutI (d := 10) (i := 0) (j := (k : Int)) ⟨by omega, by omega⟩ ⟨by omega, by omega⟩ Hv.out.val HE.out.err HE.out.le
      rw [hC.out] at hc; dsimp only at hc
      refine hc.mono ?_
      clear hc
      rintro e w13 ⟨c0, c1, c2, c3, c4, c5, c6, c7, c8, rfl, hu13, hb13⟩
      replace Hv := hide (Hv.out.go hb13)
      replace Hs := hide (Hs.out.go hb13)
      replace Hf := hide (Hf.out.go hb13)
      replace HE := hide (HE.out.go hb13)
      clear hb13
      obtain ⟨W14, HW14⟩ : ∃ W1, Hid (w13.alloc (.cells #[.int .i64 c0, .int .i64 c1, .string c2, .slice c3 c4 c5, .slice c6 c7 c8] 26) = W1) := ⟨_, rfl⟩
      have hA14 : Below w13.heap.size w13 W14 := by rw [← HW14.out]; exact below_alloc1 _ _
      have Hc : Hid (VarAt w W14 w13.heap.size c0 c1 c2 c3 c4 c5 c6 c7 c8 11 (rowT 10 ((Nd.list (α := Tr 10) V).take k))) := by rw [← HW14.out]; exact VarAt.new hu13
      clear hu13
      go_wp2_with fail
      rw [HW14.out]
      clear HW14
      replace Hv := hide (Hv.out.go hA14)
      replace Hs := hide (Hs.out.go hA14)
      replace Hf := hide (Hf.out.go hA14)
      replace HE := hide (HE.out.go hA14)
      clear hA14
      have hc := rsumI (d := 9) Hc.out.val HE.out.err HE.out.le
      rw [hT.out] at hc; dsimp only at hc
      refine hc.mono ?_
      clear hc
      rintro e w15 ⟨t0, t1, t2, t3, t4, t5, t6, t7, t8, rfl, hu15, hb15⟩
      replace Hv := hide (Hv.out.go hb15)
      replace Hs := hide (Hs.out.go hb15)
      replace Hf := hide (Hf.out.go hb15)
      replace Hc := hide (Hc.out.go hb15)
      replace HE := hide (HE.out.go hb15)
      clear hb15
      clear Hc
      obtain ⟨W16, HW16⟩ : ∃ W1, Hid (w15.alloc (.cells #[.int .i64 t0, .int .i64 t1, .string t2, .slice t3 t4 t5, .slice t6 t7 t8] 26) = W1) := ⟨_, rfl⟩
      have hA16 : Below w15.heap.size w15 W16 := by rw [← HW16.out]; exact below_alloc1 _ _
      have Ht : Hid (VarAt w W16 w15.heap.size t0 t1 t2 t3 t4 t5 t6 t7 t8 10 T) := by rw [← HW16.out]; exact VarAt.new hu15
      clear hu15
      go_wp2_with fail
      rw [HW16.out]
      clear HW16
      replace Hv := hide (Hv.out.go hA16)
      replace Hs := hide (Hs.out.go hA16)
      replace Hf := hide (Hf.out.go hA16)
      replace HE := hide (HE.out.go hA16)
      clear hA16
      have HR : Hid (Since w W16) := ⟨HE.out.bel⟩
      obtain ⟨xb, xo, y, x0, x1, x2, x3, x4, x5, x6, x7, x8, hxa, hxB, hxx, ex0, ex1, ex2, ex3, ex4, hxv⟩ := row_elem (val_parts (d := 10) Hv.out.val).2.2.2.2.2.2 (k := k) (by rw [← HV7.out]; exact Nat.lt_succ_self k)
      subst hxa
      rw [hx.out] at hxx
      cases hxx
      have hkk : (k : Int) < (k : Int) + 1 := by omega
      go_upto_region 15 with fail
      go_cut [17, 18] (fun pv bv wc => ∃ b u0 u1 u2 u3 u4 u5 u6 u7 u8, pv = .pointer (some ⟨b, 0, none⟩) ∧ bv = .bool true ∧ Hid (VarAt w wc b u0 u1 u2 u3 u4 u5 u6 u7 u8 10 Sm ∧ Below W16.heap.size W16 wc ∧ W16.heap.size ≤ b))
      case first =>
        have hcall : Hid (∀ W', Below W16.heap.size W16 W' → Calls Tryz.prog 30 #[.agg #[.int .i64 t0, .int .i64 t1, .string t2, .slice t3 t4 t5, .slice t6 t7 t8], .agg #[.int .i64 x0, .int .i64 x1, .string x2, .slice x3 x4 x5, .slice x6 x7 x8]] W' fun e w' => ∃ u0 u1 u2 u3 u4 u5 u6 u7 u8, e = .returned (.tuple #[.agg #[.int .i64 u0, .int .i64 u1, .string u2, .slice u3 u4 u5, .slice u6 u7 u8], .bool true]) ∧ ValAt (FreshP W' w') w' 10 Sm (.agg #[.int .i64 u0, .int .i64 u1, .string u2, .slice u3 u4 u5, .slice u6 u7 u8]) ∧ Below W'.heap.size W' w') := fun W' hW => (by have hc := addG (d := 9) (freshP_go Ht.out.val hW) (freshP_go hxv hW) (HE.out.err.below hW); rw [hT2.out] at hc; exact hc)
        have KK : Hid (∀ W', Below W16.heap.size W16 W' → (W'.cell? ⟨w15.heap.size, 0, none⟩ = some (.int .i64 t0) ∧ W'.cell? ⟨w15.heap.size, 1, none⟩ = some (.int .i64 t1) ∧ W'.cell? ⟨w15.heap.size, 2, none⟩ = some (.string t2) ∧ W'.cell? ⟨w15.heap.size, 3, none⟩ = some (.slice t3 t4 t5) ∧ W'.cell? ⟨w15.heap.size, 4, none⟩ = some (.slice t6 t7 t8) ∧ W'.cell? ⟨w1.heap.size, 4, none⟩ = some (.slice (some ⟨xb, xo, none⟩) (k + 1) v8) ∧ W'.cell? ⟨xb, xo + k * 5, none⟩ = some (.int .i64 x0) ∧ W'.cell? ⟨xb, xo + k * 5 + 1, none⟩ = some (.int .i64 x1) ∧ W'.cell? ⟨xb, xo + k * 5 + 2, none⟩ = some (.string x2) ∧ W'.cell? ⟨xb, xo + k * 5 + 3, none⟩ = some (.slice x3 x4 x5) ∧ W'.cell? ⟨xb, xo + k * 5 + 4, none⟩ = some (.slice x6 x7 x8))) := fun W' hW => (by obtain ⟨e0, e1, e2, e3, e4⟩ := (Ht.out.blk.below hW).cell; exact ⟨e0, e1, e2, e3, e4, (Hv.out.blk.below hW).cell.2.2.2.2, (hW.cell (p := ⟨xb, xo + k * 5, none⟩) hxB).trans ex0, (hW.cell (p := ⟨xb, xo + k * 5 + 1, none⟩) hxB).trans ex1, (hW.cell (p := ⟨xb, xo + k * 5 + 2, none⟩) hxB).trans ex2, (hW.cell (p := ⟨xb, xo + k * 5 + 3, none⟩) hxB).trans ex3, (hW.cell (p := ⟨xb, xo + k * 5 + 4, none⟩) hxB).trans ex4⟩)
        have hle := HR.out.bel.size
        have hleR : w.heap.size ≤ W16.drew.heap.size := hle
        have hDr : Below W16.heap.size W16 W16.drew := ⟨rfl, rfl, rfl, Nat.le_refl _, fun _ _ => rfl⟩
        have hDa := below_drew1 (below_alloc1 W16 (.cells #[.int .i64 0, .int .i64 0, .string { data := #[] }, .slice none 0 0, .slice none 0 0] 26))
        have hDb : Below W16.heap.size W16 (W16.drew.alloc (.cells #[.int .i64 0, .int .i64 0, .string { data := #[] }, .slice none 0 0, .slice none 0 0] 26)) := below_trans hDr (below_alloc1 _ _)
        go_region_held3 (fun w' => (w'.cell? ⟨w15.heap.size, 0, none⟩ = some (.int .i64 t0) ∧ w'.cell? ⟨w15.heap.size, 1, none⟩ = some (.int .i64 t1) ∧ w'.cell? ⟨w15.heap.size, 2, none⟩ = some (.string t2) ∧ w'.cell? ⟨w15.heap.size, 3, none⟩ = some (.slice t3 t4 t5) ∧ w'.cell? ⟨w15.heap.size, 4, none⟩ = some (.slice t6 t7 t8) ∧ w'.cell? ⟨w1.heap.size, 4, none⟩ = some (.slice (some ⟨xb, xo, none⟩) (k + 1) v8) ∧ w'.cell? ⟨xb, xo + k * 5, none⟩ = some (.int .i64 x0) ∧ w'.cell? ⟨xb, xo + k * 5 + 1, none⟩ = some (.int .i64 x1) ∧ w'.cell? ⟨xb, xo + k * 5 + 2, none⟩ = some (.string x2) ∧ w'.cell? ⟨xb, xo + k * 5 + 3, none⟩ = some (.slice x3 x4 x5) ∧ w'.cell? ⟨xb, xo + k * 5 + 4, none⟩ = some (.slice x6 x7 x8)))
          ((refine KK.out _ ?_; with_reducible assumption))
          ((go_at_call 30; refine (hcall.out _ ?_).mono ?_; (first | exact hDr | exact hDa | exact hDb); rintro eC wC ⟨u0, u1, u2, u3, u4, u5, u6, u7, u8, rfl, hv', hb'⟩; (first | with_reducible (have bC := below_trans hDr hb') | with_reducible (have bC := below_trans hDa hb') | with_reducible (have bC := below_trans hDb hb')); have bCa := below_trans bC (below_alloc1 wC (.cells #[.int .i64 0, .int .i64 0, .string { data := #[] }, .slice none 0 0, .slice none 0 0] 26)); have bCp := below_trans bC (below_alloc1 wC (.cells #[.int .i64 u0, .int .i64 u1, .string u2, .slice u3 u4 u5, .slice u6 u7 u8] 26)); (first | with_reducible (have zC := Blk5.below (newDrew W16 26 (.int .i64 0) (.int .i64 0) (.string { data := #[] }) (.slice none 0 0) (.slice none 0 0)) hb'; obtain ⟨y0, y1, y2, y3, y4⟩ := zC.cell; have yf := zC.frozen) | with_reducible (have zC := Blk5.below (Blk5.new W16.drew 26 (.int .i64 0) (.int .i64 0) (.string { data := #[] }) (.slice none 0 0) (.slice none 0 0)) hb'; obtain ⟨y0, y1, y2, y3, y4⟩ := zC.cell; have yf := zC.frozen) | skip); (first | have bX := belowChain bC zC (Nat.le_refl _) (.int .i64 u0) (.int .i64 u1) (.string u2) (.slice u3 u4 u5) (.slice u6 u7 u8) | skip)))
        all_goals go_wp2_with fail
        all_goals go_meet
        all_goals (first | (have hF := And.intro (var_set (w := w) zC (by simp) (by first | (have := hle; simp; omega) | simp) hv') (And.intro (below_set5 bC (Nat.le_refl _) 0 (.int .i64 u0) (.int .i64 u1) (.string u2) (.slice u3 u4 u5) (.slice u6 u7 u8)) (Nat.le_refl W16.heap.size)); unfold set5 at hF; simp only [Nat.zero_add] at hF; with_reducible exact ⟨_, u0, u1, u2, u3, u4, u5, u6, u7, u8, rfl, rfl, hide hF⟩) | with_reducible exact ⟨_, u0, u1, u2, u3, u4, u5, u6, u7, u8, rfl, rfl, hide (And.intro (var_new hleR hv') (And.intro bCp bC.size))⟩)
      case rest =>
      rename World => wX
      obtain ⟨bu, u0, u1, u2, u3, u4, u5, u6, u7, u8, rfl, rfl, hcx⟩ := hcut
      have hbx := hcx.out.2.1
      have hblu := hide hcx.out.2.2
      have Hu := hide hcx.out.1
      clear hcx
      replace Hv := hide (Hv.out.go hbx)
      replace Hs := hide (Hs.out.go hbx)
      replace Hf := hide (Hf.out.go hbx)
      replace Ht := hide (Ht.out.go hbx)
      replace HE := hide (HE.out.go hbx)
      clear hbx
      clear HR hxv ex0 ex1 ex2 ex3 ex4 hxB hblu
      clear Ht
      obtain ⟨xv0, xv1, xv2, xv3, xv4⟩ := Hv.out.blk.cell
      have xvl := Hv.out.blk.lt
      go_wp2_with fail
      go_loop [19, 20] (fun b i => ∃ (j : Nat) (bb : Bool), j ≤ k + 1 ∧ i = .int .i64 (j : Int) ∧ b = .bool bb ∧ Hid (bb = ((Nd.list (α := Tr 10) V).take j).all (fun y => Nd.kind y == 5))) (fun _ i => k + 1 - (intOf i).toNat)
      case atStart => exact ⟨0, true, Nat.zero_le _, rfl, rfl, rfl⟩
      case round =>
        obtain ⟨j, bb, hj, rfl, rfl, hbb⟩ := hrel
        by_cases hjl : j < k + 1
        ·
          have hjl2 : (j : Int) < (k : Int) + 1 := by omega
          obtain ⟨zb, zo, z, z0, z1, z2, z3, z4, z5, z6, z7, z8, hza, hzB, hzz, ez0, ez1, ez2, ez3, ez4, hzv⟩ := row_elem (val_parts (d := 10) Hv.out.val).2.2.2.2.2.2 (k := j) (by rw [← HV7.out]; exact hjl)
          cases hza
          have hz0 : z0 = Nd.kind z := (val_parts (d := 9) hzv).1
          have hta := hide (take_all _ j hzz)
          have HZ0 := hide hz0
          clear hz0 hzv hzz ez1 ez2 ez3 ez4
          cases bb
          ·
            have HB : Hid (false = ((Nd.list (α := Tr 10) V).take (j + 1)).all (fun y => Nd.kind y == 5)) := by show _ = _; rw [hta.out, ← hbb.out]; rfl
            clear hbb hta
            go_wp2_with fail
            go_round
            case rel => exact ⟨j + 1, false, by omega, by go_num, rfl, HB⟩
            case measure => simp [intOf]; omega
          ·
            have hcs : z0 = 5 ∨ z0 ≠ 5 := Classical.em _
            rcases hcs with h5 | h5
            ·
              subst h5
              have HB : Hid (true = ((Nd.list (α := Tr 10) V).take (j + 1)).all (fun y => Nd.kind y == 5)) := by show _ = _; rw [hta.out, ← hbb.out, ← HZ0.out]; rfl
              clear hbb hta
              go_wp2_with fail
              go_round
              case rel => exact ⟨j + 1, true, by omega, by go_num, rfl, HB⟩
              case measure => simp [intOf]; omega
            ·
              have h5b : (z0 == 5) = false := by simpa using h5
              have HB : Hid (false = ((Nd.list (α := Tr 10) V).take (j + 1)).all (fun y => Nd.kind y == 5)) := by show _ = _; rw [hta.out, ← hbb.out, ← HZ0.out, h5b]; rfl
              clear h5
              clear hbb hta
              go_wp2_with fail
              go_round
              case rel => exact ⟨j + 1, false, by omega, by go_num, rfl, HB⟩
              case measure => simp [intOf]; omega
        ·
          obtain rfl : j = k + 1 := by omega
          have HAL : Hid (bb = (Nd.list (α := Tr 10) V).all (fun y => Nd.kind y == 5)) := by show _ = _; rw [hbb.out, List.take_of_length_le (by rw [← HV7.out]; exact Nat.le_refl _)]
          clear hbb
          cases bb
          ·
            cases o2
            ·
              obtain ⟨xu0, xu1, xu2, xu3, xu4⟩ := Hu.out.blk.cell
              have xul := Hu.out.blk.lt
              obtain ⟨xs0, xs1, xs2, xs3, xs4⟩ := Hs.out.blk.cell
              have xsl := Hs.out.blk.lt
              go_wp2_with fail
              clear xv0 xv1 xv2 xv3 xv4 xvl xu0 xu1 xu2 xu3 xu4 xul xs0 xs1 xs2 xs3 xs4 xsl
              have hc := samE Hu.out.val Hs.out.val hzS
              refine hc.mono ?_
              clear hc
              rintro e w18 ⟨rfl, hb18⟩
              replace Hv := hide (Hv.out.go hb18)
              replace Hs := hide (Hs.out.go hb18)
              replace Hf := hide (Hf.out.go hb18)
              replace Hu := hide (Hu.out.go hb18)
              replace HE := hide (HE.out.go hb18)
              clear hb18
              go_wp2_with fail
              go_ret
              exact ⟨rfl, HE.out.bel⟩
            ·
              obtain ⟨xu0, xu1, xu2, xu3, xu4⟩ := Hu.out.blk.cell
              have xul := Hu.out.blk.lt
              obtain ⟨xs0, xs1, xs2, xs3, xs4⟩ := Hs.out.blk.cell
              have xsl := Hs.out.blk.lt
              go_wp2_with fail
              clear xv0 xv1 xv2 xv3 xv4 xvl xu0 xu1 xu2 xu3 xu4 xul xs0 xs1 xs2 xs3 xs4 xsl
              have hc := samE Hu.out.val Hs.out.val hzS
              refine hc.mono ?_
              clear hc
              rintro e w18 ⟨rfl, hb18⟩
              replace Hv := hide (Hv.out.go hb18)
              replace Hs := hide (Hs.out.go hb18)
              replace Hf := hide (Hf.out.go hb18)
              replace Hu := hide (Hu.out.go hb18)
              replace HE := hide (HE.out.go hb18)
              clear hb18
              go_wp2_with fail
              go_ret
              exact ⟨rfl, HE.out.bel⟩
          ·
            cases o2
            ·
              obtain ⟨xu0, xu1, xu2, xu3, xu4⟩ := Hu.out.blk.cell
              have xul := Hu.out.blk.lt
              obtain ⟨xs0, xs1, xs2, xs3, xs4⟩ := Hs.out.blk.cell
              have xsl := Hs.out.blk.lt
              go_wp2_with fail
              clear xv0 xv1 xv2 xv3 xv4 xvl xu0 xu1 xu2 xu3 xu4 xul xs0 xs1 xs2 xs3 xs4 xsl
              have hc := samE Hu.out.val Hs.out.val hzS
              refine hc.mono ?_
              clear hc
              rintro e w18 ⟨rfl, hb18⟩
              replace Hv := hide (Hv.out.go hb18)
              replace Hs := hide (Hs.out.go hb18)
              replace Hf := hide (Hf.out.go hb18)
              replace Hu := hide (Hu.out.go hb18)
              replace HE := hide (HE.out.go hb18)
              clear hb18
              go_wp2_with fail
              go_ret
              exact ⟨rfl, HE.out.bel⟩
            ·
              have hFe : F = up 10 Sm := by
                have h1 := flat_ok2 (d := 9) (t := V) (by rw [hF.out])
                have h2 := h1.2.2.2
                rw [hF.out] at h2
                have h3 : F = rowT 10 (flatL 9 (Nd.list (α := Tr 10) V)) := congrArg Prod.fst h2
                have hall := HAL.out
                rw [h3]
                refine sum_flat (d := 9) (by intro h0; have h := HV7.out; rw [h0] at h; cases h) (fun x hx => ?_) (fun x hx => okT_part (d := 10) okV hx) hsum.out
                have h := List.all_eq_true.1 hall.symm x hx
                exact beq_iff_eq.1 h
              subst hFe
              obtain ⟨xu0, xu1, xu2, xu3, xu4⟩ := Hu.out.blk.cell
              have xul := Hu.out.blk.lt
              obtain ⟨xs0, xs1, xs2, xs3, xs4⟩ := Hs.out.blk.cell
              have xsl := Hs.out.blk.lt
              go_wp2_with fail
              clear xv0 xv1 xv2 xv3 xv4 xvl xu0 xu1 xu2 xu3 xu4 xul xs0 xs1 xs2 xs3 xs4 xsl
              have hc := samE Hu.out.val Hs.out.val hzS
              refine hc.mono ?_
              clear hc
              rintro e w18 ⟨rfl, hb18⟩
              replace Hv := hide (Hv.out.go hb18)
              replace Hs := hide (Hs.out.go hb18)
              replace Hf := hide (Hf.out.go hb18)
              replace Hu := hide (Hu.out.go hb18)
              replace HE := hide (HE.out.go hb18)
              clear hb18
              obtain ⟨xf0, xf1, xf2, xf3, xf4⟩ := Hf.out.blk.cell
              have xfl := Hf.out.blk.lt
              obtain ⟨xs0, xs1, xs2, xs3, xs4⟩ := Hs.out.blk.cell
              have xsl := Hs.out.blk.lt
              go_wp2_with fail
              clear xf0 xf1 xf2 xf3 xf4 xfl xs0 xs1 xs2 xs3 xs4 xsl
              have hc := samE Hf.out.val (ValAt.up 10 Sm _ Hs.out.val) hzF
              refine hc.mono ?_
              clear hc
              rintro e w19 ⟨rfl, hb19⟩
              replace Hv := hide (Hv.out.go hb19)
              replace Hs := hide (Hs.out.go hb19)
              replace Hf := hide (Hf.out.go hb19)
              replace Hu := hide (Hu.out.go hb19)
              replace HE := hide (HE.out.go hb19)
              clear hb19
              go_wp2_with fail
              go_ret
              exact ⟨rfl, HE.out.bel⟩
end Go.Proofs.YtmibjmipndffmaaGreatDoor
