/- Texts of the proof, put together by program: LFnRowFlat. -/
import Derived.Test.YtohdpgclokgohaaGreatDoorP44
/- FnRowFlat: for all bytes that lie in memory the law answers true. -/
namespace Go.Proofs.YtohdpgclokgohaaGreatDoor
open Go.RowKit Go.Deep

set_option maxRecDepth 100000 in
set_option maxHeartbeats 16000000 in
theorem lawFnRowFlat (a : Option Addr) (n cap : Nat) (w : World) (hcap : n ≤ cap) (_hm : cap ≤ 9223372036854775807) (hB : BytesAt w.heap.size w a n) (hg : ErrType w) :
    Calls Tryz.prog 6 #[.slice a n cap] w fun e w' => e = .returned (.bool true) ∧ Below w.heap.size w w' := by
  by_cases hn : 1048576 < n
  · go_enter Tryz.func6, Tryz.ntmps6
    go_wp2_with fail
    go_ret
    exact ⟨rfl, Below.refl _ _⟩
  go_enter Tryz.func6, Tryz.ntmps6
  go_wp2_with fail
  refine (drawRowFlat_any a n cap w hcap hB).mono ?_
  rintro e w1 ⟨u, V, rfl, hv, hv1, hbl⟩
  obtain ⟨v0, v1, v2, v3, v4, v5, v6, v7, v8, rfl⟩ := hv.shape
  have HE : Hid (Amid w w1) := ⟨hbl, hg.below hbl⟩
  have hzV : wtT 11 V ≤ 10000 := by omega
  clear hbl hB hv1
  obtain ⟨W2, HW2⟩ : ∃ W1, Hid (w1.alloc (.cells #[.int .i64 v0, .int .i64 v1, .string v2, .slice v3 v4 v5, .slice v6 v7 v8] 26) = W1) := ⟨_, rfl⟩
  have hA2 : Below w1.heap.size w1 W2 := by rw [← HW2.out]; exact below_alloc1 _ _
  have Hv : Hid (VarAt w W2 w1.heap.size v0 v1 v2 v3 v4 v5 v6 v7 v8 11 V) := by rw [← HW2.out]; exact VarAt.new hv
  clear hv
  go_wp2_with fail
  rw [HW2.out]
  clear HW2
  replace HE := hide (HE.out.go hA2)
  clear hA2
  obtain ⟨⟨F, o1⟩, hF⟩ : ∃ r, Hid (rowTell (flatF 9) V = r) := ⟨_, rfl⟩
  have hzF : wtT 11 F ≤ 10000 := by have := wtT_ok (okT_rowTell (flatF 9) V); rw [hF.out] at this; have h2 : wtT 11 F ≤ 300 := this; omega
  obtain ⟨xv0, xv1, xv2, xv3, xv4⟩ := Hv.out.blk.cell
  have xvl := Hv.out.blk.lt
  clear xv0 xv1 xv2 xv3 xv4 xvl
  have hc := rflatI (d := 9) Hv.out.val HE.out.err HE.out.le
  rw [hF.out] at hc; dsimp only at hc
  refine hc.mono ?_
  clear hc
  rintro e w3 ⟨f0, f1, f2, f3, f4, f5, f6, f7, f8, rfl, hu3, hb3⟩
  replace Hv := hide (Hv.out.go hb3)
  replace HE := hide (HE.out.go hb3)
  clear hb3
  obtain ⟨xv0, xv1, xv2, xv3, xv4⟩ := Hv.out.blk.cell
  have xvl := Hv.out.blk.lt
  obtain ⟨W4, HW4⟩ : ∃ W1, Hid (w3.alloc (.cells #[.int .i64 f0, .int .i64 f1, .string f2, .slice f3 f4 f5, .slice f6 f7 f8] 26) = W1) := ⟨_, rfl⟩
  have hA4 : Below w3.heap.size w3 W4 := by rw [← HW4.out]; exact below_alloc1 _ _
  have Hf : Hid (VarAt w W4 w3.heap.size f0 f1 f2 f3 f4 f5 f6 f7 f8 11 F) := by rw [← HW4.out]; exact VarAt.new hu3
  clear hu3
  go_wp2_with fail
  rw [HW4.out]
  clear HW4
  clear xv0 xv1 xv2 xv3 xv4 xvl
  replace Hv := hide (Hv.out.go hA4)
  replace HE := hide (HE.out.go hA4)
  clear hA4
  have hc := rflatS (d := 9) Hv.out.val hzV HE.out.le
  rw [hF.out] at hc; dsimp only at hc
  refine hc.mono ?_
  clear hc
  rintro e w5 ⟨y0, y1, y2, y3, y4, y5, y6, y7, y8, rfl, hu5, hb5⟩
  replace Hv := hide (Hv.out.go hb5)
  replace Hf := hide (Hf.out.go hb5)
  replace HE := hide (HE.out.go hb5)
  clear hb5
  obtain ⟨xf0, xf1, xf2, xf3, xf4⟩ := Hf.out.blk.cell
  have xfl := Hf.out.blk.lt
  obtain ⟨W6, HW6⟩ : ∃ W1, Hid (w5.alloc (.cells #[.int .i64 y0, .int .i64 y1, .string y2, .slice y3 y4 y5, .slice y6 y7 y8] 26) = W1) := ⟨_, rfl⟩
  have hA6 : Below w5.heap.size w5 W6 := by rw [← HW6.out]; exact below_alloc1 _ _
  have Hy : Hid (VarAt w W6 w5.heap.size y0 y1 y2 y3 y4 y5 y6 y7 y8 11 F) := by rw [← HW6.out]; exact VarAt.new hu5
  clear hu5
  go_wp2_with fail
  rw [HW6.out]
  clear HW6
  clear xf0 xf1 xf2 xf3 xf4 xfl
  replace Hv := hide (Hv.out.go hA6)
  replace Hf := hide (Hf.out.go hA6)
  replace HE := hide (HE.out.go hA6)
  clear hA6
  have hc := samE Hf.out.val Hy.out.val hzF
  refine hc.mono ?_
  clear hc
  rintro e w7 ⟨rfl, hb7⟩
  replace Hv := hide (Hv.out.go hb7)
  replace Hf := hide (Hf.out.go hb7)
  replace Hy := hide (Hy.out.go hb7)
  replace HE := hide (HE.out.go hb7)
  clear hb7
  cases o1 with
  | false =>
    obtain ⟨xf0, xf1, xf2, xf3, xf4⟩ := Hf.out.blk.cell
    have xfl := Hf.out.blk.lt
    obtain ⟨xy0, xy1, xy2, xy3, xy4⟩ := Hy.out.blk.cell
    have xyl := Hy.out.blk.lt
    go_wp2_with fail
    clear xf0 xf1 xf2 xf3 xf4 xfl xy0 xy1 xy2 xy3 xy4 xyl
    have hc := samE Hf.out.val Hy.out.val hzF
    refine hc.mono ?_
    clear hc
    rintro e w8 ⟨rfl, hb8⟩
    replace Hv := hide (Hv.out.go hb8)
    replace Hf := hide (Hf.out.go hb8)
    replace Hy := hide (Hy.out.go hb8)
    replace HE := hide (HE.out.go hb8)
    clear hb8
    go_wp2_with fail
    go_ret
    exact ⟨rfl, HE.out.bel⟩
  | true =>
    clear Hy
    have hFL := flat_ok2 (d := 9) (t := V) (by rw [hF.out])
    have okV := hFL.1
    have h5V := hFL.2.1
    have hFe : F = rowT 10 (flatL 9 (Nd.list (α := Tr 10) V)) := by have h := hFL.2.2.2; rw [hF.out] at h; exact congrArg Prod.fst h
    have hless : ((manyOk 11 F : Nat) : Int) ≤ ((manyOk 11 V : Nat) : Int) := by have h := flat_less (d := 9) (t := V) (by rw [hF.out]); rw [hF.out] at h; have h2 : manyOk 11 F ≤ manyOk 11 V := h; omega
    have hf7 : f7 = (flatL 9 (Nd.list (α := Tr 10) V)).length := by have h := (val_parts (d := 10) Hf.out.val).2.2.2.2.1; rw [hFe] at h; exact h
    have hv7 : v7 = (Nd.list (α := Tr 10) V).length := (val_parts (d := 10) Hv.out.val).2.2.2.2.1
    have HF7 := hide hf7
    have HV7 := hide hv7
    have HLS := hide hless
    have HFE := hide hFe
    have hv60 : v7 ≤ 60 := by rw [hv7]; exact (okT_kinds (d := 10) okV).2.1
    have HZV := hide hzV
    have HZF := hide hzF
    clear hFL hf7 hv7 hless hFe hzV hzF
    obtain ⟨xv0, xv1, xv2, xv3, xv4⟩ := Hv.out.blk.cell
    have xvl := Hv.out.blk.lt
    go_wp2_with fail
    go_loop [8, 9] (fun nn i => ∃ k N : Nat, k ≤ v7 ∧ i = .int .i64 (k : Int) ∧ nn = .int .i64 (N : Int) ∧ Hid (N = (flatL 9 ((Nd.list (α := Tr 10) V).take k)).length)) (fun _ i => v7 - (intOf i).toNat)
    case atStart => exact ⟨0, 0, Nat.zero_le _, rfl, rfl, rfl⟩
    case round =>
      obtain ⟨k, N, hk, rfl, rfl, hN⟩ := hrel
      have hN60 : N ≤ 60 := by rw [hN.out]; exact flat_many_le (d := 9) okV k
      by_cases hkl : k < v7
      ·
        have hkl2 : (k : Int) < (v7 : Int) := by omega
        obtain ⟨xb, xo, tx, x0, x1, x2, x3, x4, x5, x6, x7, x8, hxa, hxB, hxx, ex0, ex1, ex2, ex3, ex4, hxv⟩ := row_elem (val_parts (d := 10) Hv.out.val).2.2.2.2.2.2 (k := k) (by rw [← HV7.out]; exact hkl)
        subst hxa
        have hx0 : x0 = Nd.kind tx := (val_parts (d := 9) hxv).1
        have hx7 : x7 = (Nd.list tx).length := (val_parts (d := 9) hxv).2.2.2.2.1
        have hct := hide (flat_count (d := 9) hxx)
        have HX7 := hide hx7
        have hcs : x0 = 5 ∨ x0 ≠ 5 := Classical.em _
        have HX0 := hide hx0
        clear hx0 hx7 hxv hxx
        have hNk : N + x7 ≤ 60 ∨ x0 ≠ 5 := by
          by_cases h5 : x0 = 5
          · refine Or.inl ?_
            have h1 := flat_many_le (d := 9) okV (k + 1)
            rw [hct.out, if_pos (by rw [← HX0.out]; exact h5), ← hN.out, ← HX7.out] at h1
            exact h1
          · exact Or.inr h5
        rcases hcs with h5 | h5
        ·
          subst h5
          have hNx : N + x7 ≤ 60 := by rcases hNk with h | h; exact h; exact absurd rfl h
          have hwr : wrap64 ((N : Int) + (x7 : Int)) = ((N + x7 : Nat) : Int) := by unfold wrap64; omega
          have HNN : Hid (N + x7 = (flatL 9 ((Nd.list (α := Tr 10) V).take (k + 1))).length) := by show _ = _; rw [hct.out, if_pos HX0.out.symm, ← hN.out, ← HX7.out]
          clear hNk hct
          go_wp2_with fail
          go_round
          case rel => exact ⟨k + 1, N + x7, by omega, by go_num, by first | rfl | go_num, HNN⟩
          case measure => simp [intOf]; omega
        ·
          have h5b : (x0 == 5) = false := by simpa using h5
          have hwr : wrap64 ((N : Int) + 1) = ((N + 1 : Nat) : Int) := by unfold wrap64; omega
          have HNN : Hid (N + 1 = (flatL 9 ((Nd.list (α := Tr 10) V).take (k + 1))).length) := by show _ = _; rw [hct.out, if_neg (by rw [← HX0.out]; exact h5), ← hN.out]
          clear hNk hct h5
          go_wp2_with fail
          go_round
          case rel => exact ⟨k + 1, N + 1, by omega, by go_num, by first | rfl | go_num, HNN⟩
          case measure => simp [intOf]; omega
      ·
        obtain rfl : v7 = k := by omega
        have hNf : f7 = N := by rw [HF7.out, hN.out, HV7.out, List.take_of_length_le (Nat.le_refl _)]
        subst hNf
        obtain ⟨W20, HW20⟩ : ∃ W1, Hid ((w7.alloc (.cells #[.int .i64 v0, .int .i64 v1, .string v2, .slice v3 v4 v5, .slice v6 v7 v8] 26)).alloc (.cells #[.int .i64 5, .int .i64 0, .string { data := #[] }, .slice none 0 0, .slice (some ⟨w7.heap.size, 0, none⟩) 1 1] 26) = W1) := ⟨_, rfl⟩
        have hA20 : Below w7.heap.size w7 W20 := by rw [← HW20.out]; exact below_trans (below_alloc1 _ _) (below_alloc1 _ _)
        have hrow : RowAt (FreshP w (w7.alloc (.cells #[.int .i64 v0, .int .i64 v1, .string v2, .slice v3 v4 v5, .slice v6 v7 v8] 26))) (w7.alloc (.cells #[.int .i64 v0, .int .i64 v1, .string v2, .slice v3 v4 v5, .slice v6 v7 v8] 26)) (ValAt (FreshP w (w7.alloc (.cells #[.int .i64 v0, .int .i64 v1, .string v2, .slice v3 v4 v5, .slice v6 v7 v8] 26))) (w7.alloc (.cells #[.int .i64 v0, .int .i64 v1, .string v2, .slice v3 v4 v5, .slice v6 v7 v8] 26)) 11) (.slice (some ⟨w7.heap.size, 0, none⟩) 1 1) [V] := row1_at (Blk5.new _ _ _ _ _ _ _) (freshP_new _ _ _ _ HE.out.le) (freshP_go Hv.out.val (below_alloc1 _ _))
        have Hone : Hid (VarAt w W20 (w7.heap.size + 1) 5 0 { data := #[] } none 0 0 (some ⟨w7.heap.size, 0, none⟩) 1 1 12 (rowD [V])) := by
          have h := VarAt.new (w := w) (rowD_at hrow)
          rw [World.size_alloc] at h
          rw [← HW20.out]
          exact h
        clear hrow
        go_wp2_with fail
        rw [HW20.out]
        clear HW20
        clear xv0 xv1 xv2 xv3 xv4 xvl
        replace Hv := hide (Hv.out.go hA20)
        replace Hf := hide (Hf.out.go hA20)
        replace HE := hide (HE.out.go hA20)
        clear hA20
        obtain ⟨⟨G, o3⟩, hG⟩ : ∃ r, Hid (rowTell (flatF 10) (rowD [V]) = r) := ⟨_, rfl⟩
        obtain ⟨xone0, xone1, xone2, xone3, xone4⟩ := Hone.out.blk.cell
        have xonel := Hone.out.blk.lt
        go_wp2_with fail
        clear xone0 xone1 xone2 xone3 xone4 xonel
        have hc := rflatI (d := 10) Hone.out.val HE.out.err HE.out.le
        rw [hG.out] at hc; dsimp only at hc
        refine hc.mono ?_
        clear hc
        rintro e w8 ⟨g0, g1, g2, g3, g4, g5, g6, g7, g8, rfl, hu8, hb8⟩
        replace Hv := hide (Hv.out.go hb8)
        replace Hf := hide (Hf.out.go hb8)
        replace Hone := hide (Hone.out.go hb8)
        replace HE := hide (HE.out.go hb8)
        clear hb8
        cases hok1 : okT 12 (rowD [V])
        ·
          obtain ⟨W9, HW9⟩ : ∃ W1, Hid (w8.alloc (.cells #[.int .i64 g0, .int .i64 g1, .string g2, .slice g3 g4 g5, .slice g6 g7 g8] 26) = W1) := ⟨_, rfl⟩
          have hA9 : Below w8.heap.size w8 W9 := by rw [← HW9.out]; exact below_alloc1 _ _
          have Hg : Hid (VarAt w W9 w8.heap.size g0 g1 g2 g3 g4 g5 g6 g7 g8 12 G) := by rw [← HW9.out]; exact VarAt.new hu8
          clear hu8
          go_wp2_with fail
          rw [HW9.out]
          clear HW9
          replace Hv := hide (Hv.out.go hA9)
          replace Hf := hide (Hf.out.go hA9)
          replace Hone := hide (Hone.out.go hA9)
          replace HE := hide (HE.out.go hA9)
          clear hA9
          have e0' : Hid (∀ m : Ext W9, Calls Tryz.prog 28 #[.agg #[.int .i64 5, .int .i64 0, .string { data := #[] }, .slice none 0 0, .slice (some ⟨w7.heap.size, 0, none⟩) 1 1]] m.now fun e w' => e = .returned (.bool false) ∧ Below m.now.heap.size m.now w') := fun m => by have hc := okI_at (freshP_go Hone.out.val m.from_); rw [hok1] at hc; exact hc
          have e2' : Hid (∀ m : Ext W9, Calls Tryz.prog 29 #[.agg #[.int .i64 f0, .int .i64 f1, .string f2, .slice f3 f4 f5, .slice f6 f7 f8]] m.now fun e w' => e = .returned (.int .i64 ((manyOk 11 F : Nat) : Int)) ∧ Below m.now.heap.size m.now w') := fun m => manI_at (freshP_go Hf.out.val m.from_) HZF.out
          have e3' : Hid (∀ m : Ext W9, Calls Tryz.prog 29 #[.agg #[.int .i64 v0, .int .i64 v1, .string v2, .slice v3 v4 v5, .slice v6 v7 v8]] m.now fun e w' => e = .returned (.int .i64 ((manyOk 11 V : Nat) : Int)) ∧ Below m.now.heap.size m.now w') := fun m => manI_at (freshP_go Hv.out.val m.from_) HZV.out
          obtain ⟨mf, hmf⟩ : ∃ q : Int, q = ((manyOk 11 F : Nat) : Int) := ⟨_, rfl⟩
          obtain ⟨mv, hmv⟩ : ∃ q : Int, q = ((manyOk 11 V : Nat) : Int) := ⟨_, rfl⟩
          rw [← hmf] at e2'
          rw [← hmv] at e3'
          have hlez := HLS.out
          rw [← hmf, ← hmv] at hlez
          clear hmf hmv HLS
          obtain ⟨cf0, cf1, cf2, cf3, cf4⟩ := Hf.out.blk.cell
          have df0 := fun m => ext_cell cf0 m
          have df1 := fun m => ext_cell cf1 m
          have df2 := fun m => ext_cell cf2 m
          have df3 := fun m => ext_cell cf3 m
          have df4 := fun m => ext_cell cf4 m
          clear cf0 cf1 cf2 cf3 cf4
          obtain ⟨cv0, cv1, cv2, cv3, cv4⟩ := Hv.out.blk.cell
          have dv0 := fun m => ext_cell cv0 m
          have dv1 := fun m => ext_cell cv1 m
          have dv2 := fun m => ext_cell cv2 m
          have dv3 := fun m => ext_cell cv3 m
          have dv4 := fun m => ext_cell cv4 m
          clear cv0 cv1 cv2 cv3 cv4
          obtain ⟨cone0, cone1, cone2, cone3, cone4⟩ := Hone.out.blk.cell
          have done0 := fun m => ext_cell cone0 m
          have done1 := fun m => ext_cell cone1 m
          have done2 := fun m => ext_cell cone2 m
          have done3 := fun m => ext_cell cone3 m
          have done4 := fun m => ext_cell cone4 m
          clear cone0 cone1 cone2 cone3 cone4
          have hne := Ext.some W9
          have hbel := hide HE.out.bel
          clear HE Hv Hf Hone Hg
          refine wp_region_ext (by kernel_rfl) (by kernel_rfl) ?_
          repeat (first | go_big_quiet_step ((first | (go_at_call 28; with_reducible exact Calls.ext_of (e0'.out _)) | (go_at_call 29; first | with_reducible exact Calls.ext_of (e2'.out _) | with_reducible exact Calls.ext_of (e3'.out _)))) | quiet_step ((first | (go_at_call 28; with_reducible exact Calls.ext_of (e0'.out _)) | (go_at_call 29; first | with_reducible exact Calls.ext_of (e2'.out _) | with_reducible exact Calls.ext_of (e3'.out _)))))
          refine wpQuiet_nil ?_
          intro w90 hw90
          obtain ⟨m, rfl⟩ := hw90
          go_wp2_with fail
          go_ret
          exact ⟨rfl, below_trans hbel.out m.from_⟩
        ·
          have hGe : (G, o3) = (up 11 V, true) := by rw [← hG.out]; exact flat_one (d := 10) okV h5V hok1
          cases hGe
          obtain ⟨W9, HW9⟩ : ∃ W1, Hid (w8.alloc (.cells #[.int .i64 g0, .int .i64 g1, .string g2, .slice g3 g4 g5, .slice g6 g7 g8] 26) = W1) := ⟨_, rfl⟩
          have hA9 : Below w8.heap.size w8 W9 := by rw [← HW9.out]; exact below_alloc1 _ _
          have Hg : Hid (VarAt w W9 w8.heap.size g0 g1 g2 g3 g4 g5 g6 g7 g8 12 (up 11 V)) := by rw [← HW9.out]; exact VarAt.new hu8
          clear hu8
          go_wp2_with fail
          rw [HW9.out]
          clear HW9
          replace Hv := hide (Hv.out.go hA9)
          replace Hf := hide (Hf.out.go hA9)
          replace Hone := hide (Hone.out.go hA9)
          replace HE := hide (HE.out.go hA9)
          clear hA9
          have e0' : Hid (∀ m : Ext W9, Calls Tryz.prog 28 #[.agg #[.int .i64 5, .int .i64 0, .string { data := #[] }, .slice none 0 0, .slice (some ⟨w7.heap.size, 0, none⟩) 1 1]] m.now fun e w' => e = .returned (.bool true) ∧ Below m.now.heap.size m.now w') := fun m => by have hc := okI_at (freshP_go Hone.out.val m.from_); rw [hok1] at hc; exact hc
          have e1' : Hid (∀ m : Ext W9, Calls Tryz.prog 12 #[.agg #[.int .i64 g0, .int .i64 g1, .string g2, .slice g3 g4 g5, .slice g6 g7 g8], .agg #[.int .i64 v0, .int .i64 v1, .string v2, .slice v3 v4 v5, .slice v6 v7 v8]] m.now fun e w' => e = .returned (.bool true) ∧ Below m.now.heap.size m.now w') := fun m => samE (freshP_go Hg.out.val m.from_) (freshP_go (ValAt.up 11 V _ Hv.out.val) m.from_) (Nat.le_trans (Nat.le_of_eq (wtT_lift 11 V)) HZV.out)
          have e2' : Hid (∀ m : Ext W9, Calls Tryz.prog 29 #[.agg #[.int .i64 f0, .int .i64 f1, .string f2, .slice f3 f4 f5, .slice f6 f7 f8]] m.now fun e w' => e = .returned (.int .i64 ((manyOk 11 F : Nat) : Int)) ∧ Below m.now.heap.size m.now w') := fun m => manI_at (freshP_go Hf.out.val m.from_) HZF.out
          have e3' : Hid (∀ m : Ext W9, Calls Tryz.prog 29 #[.agg #[.int .i64 v0, .int .i64 v1, .string v2, .slice v3 v4 v5, .slice v6 v7 v8]] m.now fun e w' => e = .returned (.int .i64 ((manyOk 11 V : Nat) : Int)) ∧ Below m.now.heap.size m.now w') := fun m => manI_at (freshP_go Hv.out.val m.from_) HZV.out
          obtain ⟨mf, hmf⟩ : ∃ q : Int, q = ((manyOk 11 F : Nat) : Int) := ⟨_, rfl⟩
          obtain ⟨mv, hmv⟩ : ∃ q : Int, q = ((manyOk 11 V : Nat) : Int) := ⟨_, rfl⟩
          rw [← hmf] at e2'
          rw [← hmv] at e3'
          have hlez := HLS.out
          rw [← hmf, ← hmv] at hlez
          clear hmf hmv HLS
          obtain ⟨cf0, cf1, cf2, cf3, cf4⟩ := Hf.out.blk.cell
          have df0 := fun m => ext_cell cf0 m
          have df1 := fun m => ext_cell cf1 m
          have df2 := fun m => ext_cell cf2 m
          have df3 := fun m => ext_cell cf3 m
          have df4 := fun m => ext_cell cf4 m
          clear cf0 cf1 cf2 cf3 cf4
          obtain ⟨cv0, cv1, cv2, cv3, cv4⟩ := Hv.out.blk.cell
          have dv0 := fun m => ext_cell cv0 m
          have dv1 := fun m => ext_cell cv1 m
          have dv2 := fun m => ext_cell cv2 m
          have dv3 := fun m => ext_cell cv3 m
          have dv4 := fun m => ext_cell cv4 m
          clear cv0 cv1 cv2 cv3 cv4
          obtain ⟨cone0, cone1, cone2, cone3, cone4⟩ := Hone.out.blk.cell
          have done0 := fun m => ext_cell cone0 m
          have done1 := fun m => ext_cell cone1 m
          have done2 := fun m => ext_cell cone2 m
          have done3 := fun m => ext_cell cone3 m
          have done4 := fun m => ext_cell cone4 m
          clear cone0 cone1 cone2 cone3 cone4
          obtain ⟨cg0, cg1, cg2, cg3, cg4⟩ := Hg.out.blk.cell
          have dg0 := fun m => ext_cell cg0 m
          have dg1 := fun m => ext_cell cg1 m
          have dg2 := fun m => ext_cell cg2 m
          have dg3 := fun m => ext_cell cg3 m
          have dg4 := fun m => ext_cell cg4 m
          clear cg0 cg1 cg2 cg3 cg4
          have hne := Ext.some W9
          have hbel := hide HE.out.bel
          clear HE Hv Hf Hone Hg
          refine wp_region_ext (by kernel_rfl) (by kernel_rfl) ?_
          repeat (first | go_big_quiet_step ((first | (go_at_call 28; with_reducible exact Calls.ext_of (e0'.out _)) | (go_at_call 12; with_reducible exact Calls.ext_of (e1'.out _)) | (go_at_call 29; first | with_reducible exact Calls.ext_of (e2'.out _) | with_reducible exact Calls.ext_of (e3'.out _)))) | quiet_step ((first | (go_at_call 28; with_reducible exact Calls.ext_of (e0'.out _)) | (go_at_call 12; with_reducible exact Calls.ext_of (e1'.out _)) | (go_at_call 29; first | with_reducible exact Calls.ext_of (e2'.out _) | with_reducible exact Calls.ext_of (e3'.out _)))))
          refine wpQuiet_nil ?_
          intro w90 hw90
          obtain ⟨m, rfl⟩ := hw90
          go_wp2_with fail
          go_ret
          exact ⟨rfl, below_trans hbel.out m.from_⟩
end Go.Proofs.YtohdpgclokgohaaGreatDoor
