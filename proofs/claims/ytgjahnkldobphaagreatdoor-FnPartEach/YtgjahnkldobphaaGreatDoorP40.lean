/- Texts of the proof, put together by program: LFnPartEach. -/
import Derived.Test.YtgjahnkldobphaaGreatDoorP39
/- FnPartEach: for all bytes that lie in memory the law answers true. -/
namespace Go.Proofs.YtgjahnkldobphaaGreatDoor
open Go.RowKit Go.Deep

set_option maxRecDepth 100000 in
set_option maxHeartbeats 16000000 in
theorem lawFnPartEach (a : Option Addr) (n cap : Nat) (w : World) (hcap : n ≤ cap) (_hm : cap ≤ 9223372036854775807) (hB : BytesAt w.heap.size w a n) (hg : ErrType w) :
    Calls Tryz.prog 8 #[.slice a n cap] w fun e w' => e = .returned (.bool true) ∧ Below w.heap.size w w' := by
  by_cases hn : 1048576 < n
  · go_enter Tryz.func8, Tryz.ntmps8
    go_wp2_with fail
    go_ret
    exact ⟨rfl, Below.refl _ _⟩
  go_enter Tryz.func8, Tryz.ntmps8
  go_wp2_with fail
  refine (drawPartEach_any a n cap w hcap hB).mono ?_
  rintro e w1 ⟨u, tv, rfl, hv, hv1, hb1⟩
  obtain ⟨v0, v1, v2, v3, v4, v5, v6, v7, v8, rfl⟩ := hv.shape
  have HE : Hid (Amid w w1) := ⟨hb1, hg.below hb1⟩
  clear hb1 hB
  have hv12 := hv.upN 1
  have hz12 : wtT 12 (upN 11 1 tv) ≤ 10000 := Nat.le_trans (Nat.le_of_eq (wtT_upN 11 1 tv)) (by omega)
  obtain ⟨V, hV⟩ : ∃ V : Tr 12, V = upN 11 1 tv := ⟨_, rfl⟩
  replace hv12 : ValAt (FreshP w w1) w1 12 V (.agg #[.int .i64 v0, .int .i64 v1, .string v2, .slice v3 v4 v5, .slice v6 v7 v8]) := by rw [hV]; exact hv12
  rw [← hV] at hz12
  clear hV hv1 hv
  have HK0 := hide (val_parts hv12).1
  obtain ⟨W2, HW2⟩ : ∃ W1, Hid (w1.alloc (.cells #[.int .i64 v0, .int .i64 v1, .string v2, .slice v3 v4 v5, .slice v6 v7 v8] 26) = W1) := ⟨_, rfl⟩
  have hA2 : Below w1.heap.size w1 W2 := by rw [← HW2.out]; exact below_alloc1 _ _
  have Hv : Hid (VarAt w W2 w1.heap.size v0 v1 v2 v3 v4 v5 v6 v7 v8 12 V) := by rw [← HW2.out]; exact VarAt.new hv12
  clear hv12
  go_wp2_with fail
  rw [HW2.out]
  clear HW2
  replace HE := hide (HE.out.go hA2)
  clear hA2
  have hc3 : (okT 12 V = true ∧ 5 ≤ Nd.kind V) ∨ ¬ (okT 12 V = true ∧ 5 ≤ Nd.kind V) := Classical.em _
  rcases hc3 with hok | hok
  ·
    have hE : Hid (eachT 11 V = (Nd.list V, true)) := by show eachT 11 V = _; unfold eachT; rw [if_pos hok]
    have hc := eachI (d := 11) Hv.out.val HE.out.err HE.out.le
    rw [hE.out] at hc; dsimp only at hc
    refine hc.mono ?_
    clear hc
    rintro e w3 ⟨eaa, eac, rfl, hu3, hb3⟩
    replace Hv := hide (Hv.out.go hb3)
    replace HE := hide (HE.out.go hb3)
    clear hb3
    have Hea : Hid (RowsAt w w3 eaa eac 11 (Nd.list V)) := ⟨hu3⟩
    clear hu3
    obtain ⟨xv0, xv1, xv2, xv3, xv4⟩ := Hv.out.blk.cell
    have xvl := Hv.out.blk.lt
    go_wp2_with fail
    clear xv0 xv1 xv2 xv3 xv4 xvl
    have hc := eachS (d := 11) Hv.out.val hz12 HE.out.le
    rw [hE.out] at hc; dsimp only at hc
    refine hc.mono ?_
    clear hc
    rintro e w4 ⟨waa, wac, rfl, hu4, hb4⟩
    replace Hv := hide (Hv.out.go hb4)
    replace Hea := hide (Hea.out.go hb4)
    replace HE := hide (HE.out.go hb4)
    clear hb4
    have Hwa : Hid (RowsAt w w4 waa wac 11 (Nd.list V)) := ⟨hu4⟩
    clear hu4
    obtain ⟨xv0, xv1, xv2, xv3, xv4⟩ := Hv.out.blk.cell
    have xvl := Hv.out.blk.lt
    clear xv0 xv1 xv2 xv3 xv4 xvl
    have hkind := kind_56 hok
    have hN60 : ((((Nd.list (α := Tr 11) V).length) : Nat) : Int) ≤ 60 := by have hq : (Nd.list (α := Tr 11) V).length ≤ 60 := (okT_kinds (d := 11) hok.1).2.1; omega
    obtain ⟨wk, hw0, hwe, hw5, hw6⟩ := each_steps hok
    have Hw0 := hide hw0
    have Hwe := hide hwe
    have Hw5 := hide hw5
    have Hw6 := hide hw6
    clear hw0 hwe hw5 hw6
    have HL0 : Hid (LoopW w w4 (w4.alloc (.cells #[.int .i64 0, .int .i64 0, .string { data := #[] }, .slice none 0 0, .slice none 0 0] 26)) 0 0 { data := #[] } none 0 0 none 0 0 (zeroT 11)) := LoopW.start HE.out.le
    rw [← Hw0.out] at HL0
    go_wp2_with fail
    go_loopw [9] (fun j wr => ∃ k : Nat, k ≤ (Nd.list (α := Tr 11) V).length ∧ j = .int .i64 (k : Int) ∧ ∃ (c0 c1 : Int) (c2 : ByteArray) (c3 : Option Addr) (c4 c5 : Nat) (c6 : Option Addr) (c7 c8 : Nat), Hid (LoopW w w4 wr c0 c1 c2 c3 c4 c5 c6 c7 c8 (wk k))) (fun j _ => (Nd.list (α := Tr 11) V).length - (intOf j).toNat)
    case atStart => exact ⟨0, Nat.zero_le _, rfl, 0, 0, { data := #[] }, none, 0, 0, none, 0, 0, HL0⟩
    case round =>
      clear HL0
      obtain ⟨k, hk, rfl, c0, c1, c2, c3, c4, c5, c6, c7, c8, HL⟩ := hrel
      have hbz := HL.out.since
      replace Hv := hide (Hv.out.go hbz)
      replace Hea := hide (Hea.out.go hbz)
      replace Hwa := hide (Hwa.out.go hbz)
      replace HE := hide (HE.out.go hbz)
      clear hbz
      have hwbr : Hid (w4.heap.size < wr.heap.size) := HL.out.blk.lt
      by_cases hkl : k < (Nd.list (α := Tr 11) V).length
      ·
        have hkl2 : (k : Int) < (((Nd.list (α := Tr 11) V).length : Nat) : Int) := by omega
        obtain ⟨y, hy⟩ : ∃ y, (Nd.list (α := Tr 11) V)[k]? = some y := ⟨_, List.getElem?_eq_getElem hkl⟩
        have hzy : wtT 11 y ≤ 10000 := by have := wt_mem (d := 11) hy; have e : wtT 12 V = 3 + (Nd.keys (α := Tr 11) V).length + ((Nd.list (α := Tr 11) V).map (wtT 11)).sum := rfl; omega
        have HR := hide (Since.start wr)
        have Gv := Hv
        have Gea := Hea
        have Gwa := Hwa
        have GL := HL
        have GE := HE
        rcases hkind with h5 | h6
        ·
          obtain rfl : v0 = 5 := by rw [HK0.out]; exact h5
          have hX := hide (Hw5.out h5 k y hy)
          obtain ⟨lb2, lo, y2, l0, l1, l2, l3, l4, l5, l6, l7, l8, hla, hlB, hlx, el0, el1, el2, el3, el4, hly⟩ := row_elem Hea.out.row (k := k) hkl
          subst hla
          rw [hy] at hlx
          cases hlx
          obtain ⟨xw0, xw1, xw2, xw3, xw4⟩ := HL.out.blk.cell
          have xwl := HL.out.blk.lt
          go_upto_region 12 with fail
          go_cut [10, 11] (fun pv bv wc => ∃ b x0 x1 x2 x3 x4 x5 x6 x7 x8, pv = .pointer (some ⟨b, 0, none⟩) ∧ bv = .bool true ∧ Hid (VarAt wr wc b x0 x1 x2 x3 x4 x5 x6 x7 x8 12 (wk (k + 1)) ∧ Below wr.heap.size wr wc ∧ wr.heap.size ≤ b))
          case first =>
            have hcall : Hid (∀ W', Below wr.heap.size wr W' → Calls Tryz.prog 15 #[.agg #[.int .i64 c0, .int .i64 c1, .string c2, .slice c3 c4 c5, .slice c6 c7 c8], .int .i64 (k : Int), .agg #[.int .i64 l0, .int .i64 l1, .string l2, .slice l3 l4 l5, .slice l6 l7 l8]] W' fun e w' => ∃ x0 x1 x2 x3 x4 x5 x6 x7 x8, e = .returned (.tuple #[.agg #[.int .i64 x0, .int .i64 x1, .string x2, .slice x3 x4 x5, .slice x6 x7 x8], .bool true]) ∧ ValAt (FreshP W' w') w' 12 (wk (k + 1)) (.agg #[.int .i64 x0, .int .i64 x1, .string x2, .slice x3 x4 x5, .slice x6 x7 x8]) ∧ Below W'.heap.size W' w') := fun W' hW => (by have hc := setG (d := 10) (freshP_go HL.out.var.val hW) (freshP_go hly hW) (i := (k : Int)) ⟨by omega, by omega⟩ (HE.out.err.below hW); rw [hX.out] at hc; exact hc)
            have KK : Hid (∀ W', Below wr.heap.size wr W' → (W'.cell? ⟨w4.heap.size, 0, none⟩ = some (.int .i64 c0) ∧ W'.cell? ⟨w4.heap.size, 1, none⟩ = some (.int .i64 c1) ∧ W'.cell? ⟨w4.heap.size, 2, none⟩ = some (.string c2) ∧ W'.cell? ⟨w4.heap.size, 3, none⟩ = some (.slice c3 c4 c5) ∧ W'.cell? ⟨w4.heap.size, 4, none⟩ = some (.slice c6 c7 c8) ∧ W'.cell? ⟨lb2, lo + k * 5, none⟩ = some (.int .i64 l0) ∧ W'.cell? ⟨lb2, lo + k * 5 + 1, none⟩ = some (.int .i64 l1) ∧ W'.cell? ⟨lb2, lo + k * 5 + 2, none⟩ = some (.string l2) ∧ W'.cell? ⟨lb2, lo + k * 5 + 3, none⟩ = some (.slice l3 l4 l5) ∧ W'.cell? ⟨lb2, lo + k * 5 + 4, none⟩ = some (.slice l6 l7 l8))) := fun W' hW => (by obtain ⟨e0, e1, e2, e3, e4⟩ := (HL.out.blk.below hW).cell; exact ⟨e0, e1, e2, e3, e4, (hW.cell (p := ⟨lb2, lo + k * 5, none⟩) hlB).trans el0, (hW.cell (p := ⟨lb2, lo + k * 5 + 1, none⟩) hlB).trans el1, (hW.cell (p := ⟨lb2, lo + k * 5 + 2, none⟩) hlB).trans el2, (hW.cell (p := ⟨lb2, lo + k * 5 + 3, none⟩) hlB).trans el3, (hW.cell (p := ⟨lb2, lo + k * 5 + 4, none⟩) hlB).trans el4⟩)
            have hle := HR.out.bel.size
            have hleR : wr.heap.size ≤ wr.drew.heap.size := hle
            have hDr : Below wr.heap.size wr wr.drew := ⟨rfl, rfl, rfl, Nat.le_refl _, fun _ _ => rfl⟩
            have hDa := below_drew1 (below_alloc1 wr (.cells #[.int .i64 0, .int .i64 0, .string { data := #[] }, .slice none 0 0, .slice none 0 0] 26))
            have hDb : Below wr.heap.size wr (wr.drew.alloc (.cells #[.int .i64 0, .int .i64 0, .string { data := #[] }, .slice none 0 0, .slice none 0 0] 26)) := below_trans hDr (below_alloc1 _ _)
            go_region_held3 (fun w' => (w'.cell? ⟨w4.heap.size, 0, none⟩ = some (.int .i64 c0) ∧ w'.cell? ⟨w4.heap.size, 1, none⟩ = some (.int .i64 c1) ∧ w'.cell? ⟨w4.heap.size, 2, none⟩ = some (.string c2) ∧ w'.cell? ⟨w4.heap.size, 3, none⟩ = some (.slice c3 c4 c5) ∧ w'.cell? ⟨w4.heap.size, 4, none⟩ = some (.slice c6 c7 c8) ∧ w'.cell? ⟨lb2, lo + k * 5, none⟩ = some (.int .i64 l0) ∧ w'.cell? ⟨lb2, lo + k * 5 + 1, none⟩ = some (.int .i64 l1) ∧ w'.cell? ⟨lb2, lo + k * 5 + 2, none⟩ = some (.string l2) ∧ w'.cell? ⟨lb2, lo + k * 5 + 3, none⟩ = some (.slice l3 l4 l5) ∧ w'.cell? ⟨lb2, lo + k * 5 + 4, none⟩ = some (.slice l6 l7 l8)))
              ((refine KK.out _ ?_; with_reducible assumption))
              ((go_at_call 15; refine (hcall.out _ ?_).mono ?_; (first | exact hDr | exact hDa | exact hDb); rintro eC wC ⟨x0, x1, x2, x3, x4, x5, x6, x7, x8, rfl, hv', hb'⟩; (first | with_reducible (have bC := below_trans hDr hb') | with_reducible (have bC := below_trans hDa hb') | with_reducible (have bC := below_trans hDb hb')); have bCa := below_trans bC (below_alloc1 wC (.cells #[.int .i64 0, .int .i64 0, .string { data := #[] }, .slice none 0 0, .slice none 0 0] 26)); have bCp := below_trans bC (below_alloc1 wC (.cells #[.int .i64 x0, .int .i64 x1, .string x2, .slice x3 x4 x5, .slice x6 x7 x8] 26)); (first | with_reducible (have zC := Blk5.below (newDrew wr 26 (.int .i64 0) (.int .i64 0) (.string { data := #[] }) (.slice none 0 0) (.slice none 0 0)) hb'; obtain ⟨y0, y1, y2, y3, y4⟩ := zC.cell; have yf := zC.frozen) | with_reducible (have zC := Blk5.below (Blk5.new wr.drew 26 (.int .i64 0) (.int .i64 0) (.string { data := #[] }) (.slice none 0 0) (.slice none 0 0)) hb'; obtain ⟨y0, y1, y2, y3, y4⟩ := zC.cell; have yf := zC.frozen) | skip); (first | have bX := belowChain bC zC (Nat.le_refl _) (.int .i64 x0) (.int .i64 x1) (.string x2) (.slice x3 x4 x5) (.slice x6 x7 x8) | skip)))
            all_goals go_wp2_with fail
            all_goals go_meet
            all_goals (first | (have hF := And.intro (var_set (w := wr) zC (by simp) (by first | (have := hle; simp; omega) | simp) hv') (And.intro (below_set5 bC (Nat.le_refl _) 0 (.int .i64 x0) (.int .i64 x1) (.string x2) (.slice x3 x4 x5) (.slice x6 x7 x8)) (Nat.le_refl wr.heap.size)); unfold set5 at hF; simp only [Nat.zero_add] at hF; with_reducible exact ⟨_, x0, x1, x2, x3, x4, x5, x6, x7, x8, rfl, rfl, hide hF⟩) | with_reducible exact ⟨_, x0, x1, x2, x3, x4, x5, x6, x7, x8, rfl, rfl, hide (And.intro (var_new hleR hv') (And.intro bCp bC.size))⟩)
          case rest =>
          rename World => wX
          obtain ⟨bx, x0, x1, x2, x3, x4, x5, x6, x7, x8, rfl, rfl, hcx⟩ := hcut
          have hbx := hcx.out.2.1
          have hblx := hide hcx.out.2.2
          have Hx := hide hcx.out.1
          clear hcx
          replace Hv := hide (Hv.out.go hbx)
          replace Hea := hide (Hea.out.go hbx)
          replace Hwa := hide (Hwa.out.go hbx)
          replace HL := hide (HL.out.go hbx)
          replace HR := hide (HR.out.go hbx)
          replace HE := hide (HE.out.go hbx)
          clear hbx
          clear hly el0 el1 el2 el3 el4 xw0 xw1 xw2 xw3 xw4 xwl hlB
          obtain ⟨xv0, xv1, xv2, xv3, xv4⟩ := Hv.out.blk.cell
          have xvl := Hv.out.blk.lt
          go_wp2_with fail
          clear xv0 xv1 xv2 xv3 xv4 xvl
          obtain ⟨lb2, lo, y2, l0, l1, l2, l3, l4, l5, l6, l7, l8, hla, hlB, hlx, el0, el1, el2, el3, el4, hly⟩ := row_elem Hea.out.row (k := k) hkl
          cases hla
          rw [hy] at hlx
          cases hlx
          obtain ⟨rb2, ro, y3, r0, r1, r2, r3, r4, r5, r6, r7, r8, hra, hrB, hrx, er0, er1, er2, er3, er4, hry⟩ := row_elem Hwa.out.row (k := k) hkl
          subst hra
          rw [hy] at hrx
          cases hrx
          have e0 : Hid (∀ m : Ext wX, Calls Tryz.prog 12 #[.agg #[.int .i64 l0, .int .i64 l1, .string l2, .slice l3 l4 l5, .slice l6 l7 l8], .agg #[.int .i64 r0, .int .i64 r1, .string r2, .slice r3 r4 r5, .slice r6 r7 r8]] m.now fun e w' => e = .returned (.bool true) ∧ Below m.now.heap.size m.now w') := fun m => samE (freshP_go hly m.from_) (freshP_go hry m.from_) hzy
          have ddel0 := fun m => ext_cell el0 m
          have ddel1 := fun m => ext_cell el1 m
          have ddel2 := fun m => ext_cell el2 m
          have ddel3 := fun m => ext_cell el3 m
          have ddel4 := fun m => ext_cell el4 m
          have dder0 := fun m => ext_cell er0 m
          have dder1 := fun m => ext_cell er1 m
          have dder2 := fun m => ext_cell er2 m
          have dder3 := fun m => ext_cell er3 m
          have dder4 := fun m => ext_cell er4 m
          clear el0 el1 el2 el3 el4 er0 er1 er2 er3 er4
          have hne := Ext.some wX
          refine wp_region_ext (by kernel_rfl) (by kernel_rfl) ?_
          repeat (first | go_big_quiet_step ((go_at_call 12; first | with_reducible exact Calls.ext_of (e0.out _))) | quiet_step ((go_at_call 12; first | with_reducible exact Calls.ext_of (e0.out _))))
          refine wpQuiet_nil ?_
          intro w6 hw6
          obtain ⟨m, rfl⟩ := hw6
          obtain ⟨W6, hW6⟩ : ∃ W1, Hid (m.now = W1) := ⟨_, rfl⟩
          have hb6 := m.from_
          rw [hW6.out] at hb6 ⊢
          clear hW6 hne e0 ddel0 ddel1 ddel2 ddel3 ddel4 dder0 dder1 dder2 dder3 dder4
          replace Hx := hide (Hx.out.go hb6)
          replace Hv := hide (Hv.out.go hb6)
          replace Hea := hide (Hea.out.go hb6)
          replace Hwa := hide (Hwa.out.go hb6)
          replace HL := hide (HL.out.go hb6)
          replace HE := hide (HE.out.go hb6)
          clear hb6
          obtain ⟨xx0, xx1, xx2, xx3, xx4⟩ := Hx.out.blk.cell
          have xxl := Hx.out.blk.lt
          obtain ⟨xw0, xw1, xw2, xw3, xw4⟩ := HL.out.blk.cell
          have xwl := HL.out.blk.lt
          have xwf := HL.out.blk.frozen
          have HN := hide (HL.out.set Hx.out hwbr.out)
          clear HL Hx Hv Hea Hwa HE
          go_wp2_with fail
          go_roundw
          case rel =>
            first
              | exact ⟨k + 1, by omega, by go_num, x0, x1, x2, x3, x4, x5, x6, x7, x8, hide (HN.out _ rfl)⟩
              | ((repeat apply Exists.intro); exact ⟨⟨k + 1, by omega, by go_num, x0, x1, x2, x3, x4, x5, x6, x7, x8, hide (HN.out _ rfl)⟩, rfl⟩)
          case measure => simp [intOf]; omega
        ·
          obtain rfl : v0 = 6 := by rw [HK0.out]; exact h6
          obtain ⟨⟨Xs, sb⟩, hX⟩ : ∃ r, Hid (partSetT 10 (wk k) (k : Int) y = r) := ⟨_, rfl⟩
          obtain ⟨s, hs, hsz⟩ : ∃ s, (Nd.keys (α := Tr 11) V)[k]? = some s ∧ s.size < 281474976710656 := by obtain ⟨_, _, s, _, _, hs, hsz, _⟩ := key_elem (val_parts Hv.out.val).2.2.2.2.2.1 (k := k) (by have := okT_keys (d := 11) hok.1 h6; omega); exact ⟨s, hs, hsz⟩
          obtain ⟨lb2, lo, y2, l0, l1, l2, l3, l4, l5, l6, l7, l8, hla, hlB, hlx, el0, el1, el2, el3, el4, hly⟩ := row_elem Hea.out.row (k := k) hkl
          subst hla
          rw [hy] at hlx
          cases hlx
          obtain ⟨xw0, xw1, xw2, xw3, xw4⟩ := HL.out.blk.cell
          have xwl := HL.out.blk.lt
          have FLB := hide hlB
          go_upto_region 12 with fail
          go_cut [10, 11] (fun pv bv wc => ∃ b x0 x1 x2 x3 x4 x5 x6 x7 x8, pv = .pointer (some ⟨b, 0, none⟩) ∧ bv = .bool sb ∧ Hid (VarAt wr wc b x0 x1 x2 x3 x4 x5 x6 x7 x8 12 Xs ∧ Below wr.heap.size wr wc ∧ wr.heap.size ≤ b))
          case first =>
            have hcall : Hid (∀ W', Below wr.heap.size wr W' → Calls Tryz.prog 15 #[.agg #[.int .i64 c0, .int .i64 c1, .string c2, .slice c3 c4 c5, .slice c6 c7 c8], .int .i64 (k : Int), .agg #[.int .i64 l0, .int .i64 l1, .string l2, .slice l3 l4 l5, .slice l6 l7 l8]] W' fun e w' => ∃ x0 x1 x2 x3 x4 x5 x6 x7 x8, e = .returned (.tuple #[.agg #[.int .i64 x0, .int .i64 x1, .string x2, .slice x3 x4 x5, .slice x6 x7 x8], .bool sb]) ∧ ValAt (FreshP W' w') w' 12 Xs (.agg #[.int .i64 x0, .int .i64 x1, .string x2, .slice x3 x4 x5, .slice x6 x7 x8]) ∧ Below W'.heap.size W' w') := fun W' hW => (by have hc := setG (d := 10) (freshP_go HL.out.var.val hW) (freshP_go hly hW) (i := (k : Int)) ⟨by omega, by omega⟩ (HE.out.err.below hW); rw [hX.out] at hc; exact hc)
            have KK : Hid (∀ W', Below wr.heap.size wr W' → (W'.cell? ⟨w4.heap.size, 0, none⟩ = some (.int .i64 c0) ∧ W'.cell? ⟨w4.heap.size, 1, none⟩ = some (.int .i64 c1) ∧ W'.cell? ⟨w4.heap.size, 2, none⟩ = some (.string c2) ∧ W'.cell? ⟨w4.heap.size, 3, none⟩ = some (.slice c3 c4 c5) ∧ W'.cell? ⟨w4.heap.size, 4, none⟩ = some (.slice c6 c7 c8) ∧ W'.cell? ⟨lb2, lo + k * 5, none⟩ = some (.int .i64 l0) ∧ W'.cell? ⟨lb2, lo + k * 5 + 1, none⟩ = some (.int .i64 l1) ∧ W'.cell? ⟨lb2, lo + k * 5 + 2, none⟩ = some (.string l2) ∧ W'.cell? ⟨lb2, lo + k * 5 + 3, none⟩ = some (.slice l3 l4 l5) ∧ W'.cell? ⟨lb2, lo + k * 5 + 4, none⟩ = some (.slice l6 l7 l8))) := fun W' hW => (by obtain ⟨e0, e1, e2, e3, e4⟩ := (HL.out.blk.below hW).cell; exact ⟨e0, e1, e2, e3, e4, (hW.cell (p := ⟨lb2, lo + k * 5, none⟩) hlB).trans el0, (hW.cell (p := ⟨lb2, lo + k * 5 + 1, none⟩) hlB).trans el1, (hW.cell (p := ⟨lb2, lo + k * 5 + 2, none⟩) hlB).trans el2, (hW.cell (p := ⟨lb2, lo + k * 5 + 3, none⟩) hlB).trans el3, (hW.cell (p := ⟨lb2, lo + k * 5 + 4, none⟩) hlB).trans el4⟩)
            have hle := HR.out.bel.size
            have hleR : wr.heap.size ≤ wr.drew.heap.size := hle
            have hDr : Below wr.heap.size wr wr.drew := ⟨rfl, rfl, rfl, Nat.le_refl _, fun _ _ => rfl⟩
            have hDa := below_drew1 (below_alloc1 wr (.cells #[.int .i64 0, .int .i64 0, .string { data := #[] }, .slice none 0 0, .slice none 0 0] 26))
            have hDb : Below wr.heap.size wr (wr.drew.alloc (.cells #[.int .i64 0, .int .i64 0, .string { data := #[] }, .slice none 0 0, .slice none 0 0] 26)) := below_trans hDr (below_alloc1 _ _)
            go_region_held3 (fun w' => (w'.cell? ⟨w4.heap.size, 0, none⟩ = some (.int .i64 c0) ∧ w'.cell? ⟨w4.heap.size, 1, none⟩ = some (.int .i64 c1) ∧ w'.cell? ⟨w4.heap.size, 2, none⟩ = some (.string c2) ∧ w'.cell? ⟨w4.heap.size, 3, none⟩ = some (.slice c3 c4 c5) ∧ w'.cell? ⟨w4.heap.size, 4, none⟩ = some (.slice c6 c7 c8) ∧ w'.cell? ⟨lb2, lo + k * 5, none⟩ = some (.int .i64 l0) ∧ w'.cell? ⟨lb2, lo + k * 5 + 1, none⟩ = some (.int .i64 l1) ∧ w'.cell? ⟨lb2, lo + k * 5 + 2, none⟩ = some (.string l2) ∧ w'.cell? ⟨lb2, lo + k * 5 + 3, none⟩ = some (.slice l3 l4 l5) ∧ w'.cell? ⟨lb2, lo + k * 5 + 4, none⟩ = some (.slice l6 l7 l8)))
              ((refine KK.out _ ?_; with_reducible assumption))
              ((go_at_call 15; refine (hcall.out _ ?_).mono ?_; (first | exact hDr | exact hDa | exact hDb); rintro eC wC ⟨x0, x1, x2, x3, x4, x5, x6, x7, x8, rfl, hv', hb'⟩; (first | with_reducible (have bC := below_trans hDr hb') | with_reducible (have bC := below_trans hDa hb') | with_reducible (have bC := below_trans hDb hb')); have bCa := below_trans bC (below_alloc1 wC (.cells #[.int .i64 0, .int .i64 0, .string { data := #[] }, .slice none 0 0, .slice none 0 0] 26)); have bCp := below_trans bC (below_alloc1 wC (.cells #[.int .i64 x0, .int .i64 x1, .string x2, .slice x3 x4 x5, .slice x6 x7 x8] 26)); (first | with_reducible (have zC := Blk5.below (newDrew wr 26 (.int .i64 0) (.int .i64 0) (.string { data := #[] }) (.slice none 0 0) (.slice none 0 0)) hb'; obtain ⟨y0, y1, y2, y3, y4⟩ := zC.cell; have yf := zC.frozen) | with_reducible (have zC := Blk5.below (Blk5.new wr.drew 26 (.int .i64 0) (.int .i64 0) (.string { data := #[] }) (.slice none 0 0) (.slice none 0 0)) hb'; obtain ⟨y0, y1, y2, y3, y4⟩ := zC.cell; have yf := zC.frozen) | skip); (first | have bX := belowChain bC zC (Nat.le_refl _) (.int .i64 x0) (.int .i64 x1) (.string x2) (.slice x3 x4 x5) (.slice x6 x7 x8) | skip)))
            all_goals go_wp2_with fail
            all_goals go_meet
            all_goals (first | (have hF := And.intro (var_set (w := wr) zC (by simp) (by first | (have := hle; simp; omega) | simp) hv') (And.intro (below_set5 bC (Nat.le_refl _) 0 (.int .i64 x0) (.int .i64 x1) (.string x2) (.slice x3 x4 x5) (.slice x6 x7 x8)) (Nat.le_refl wr.heap.size)); unfold set5 at hF; simp only [Nat.zero_add] at hF; with_reducible exact ⟨_, x0, x1, x2, x3, x4, x5, x6, x7, x8, rfl, rfl, hide hF⟩) | with_reducible exact ⟨_, x0, x1, x2, x3, x4, x5, x6, x7, x8, rfl, rfl, hide (And.intro (var_new hleR hv') (And.intro bCp bC.size))⟩)
          case rest =>
          rename World => wX
          obtain ⟨bx, x0, x1, x2, x3, x4, x5, x6, x7, x8, rfl, rfl, hcx⟩ := hcut
          have hbx := hcx.out.2.1
          have hblx := hide hcx.out.2.2
          have Hx := hide hcx.out.1
          clear hcx
          replace Hv := hide (Hv.out.go hbx)
          replace Hea := hide (Hea.out.go hbx)
          replace Hwa := hide (Hwa.out.go hbx)
          replace HL := hide (HL.out.go hbx)
          replace HR := hide (HR.out.go hbx)
          replace HE := hide (HE.out.go hbx)
          clear hbx
          clear hly el0 el1 el2 el3 el4 xw0 xw1 xw2 xw3 xw4 xwl hlB
          have HR0 : Hid (wr.heap.size ≤ bx) := Nat.le_trans (Nat.le_of_eq rfl) (Nat.le_trans (Nat.le_refl _) hblx.out)
          obtain ⟨xv0, xv1, xv2, xv3, xv4⟩ := Hv.out.blk.cell
          have xvl := Hv.out.blk.lt
          go_wp2_with fail
          clear xv0 xv1 xv2 xv3 xv4 xvl
          obtain ⟨lb2, lo, y2, l0, l1, l2, l3, l4, l5, l6, l7, l8, hla, hlB, hlx, el0, el1, el2, el3, el4, hly⟩ := row_elem Hea.out.row (k := k) hkl
          cases hla
          rw [hy] at hlx
          cases hlx
          obtain ⟨kb, ko, s2, hka, hkB, hs2, hsz2, hkc⟩ := key_elem (val_parts Gv.out.val).2.2.2.2.2.1 (k := k) (by have := okT_keys (d := 11) hok.1 h6; omega)
          subst hka
          rw [hs] at hs2
          cases hs2
          have hk4 : (k : Int) < (v4 : Int) := by have h1 := (val_parts Hv.out.val).2.2.2.1; have := okT_keys (d := 11) hok.1 h6; omega
          obtain ⟨xw0, xw1, xw2, xw3, xw4⟩ := HL.out.blk.cell
          have xwl := HL.out.blk.lt
          have hY := hide (Hw6.out h6 k s y hs hy)
          go_upto_region 14 with fail
          go_cut [11] (fun bv wc => ∃ x0 x1 x2 x3 x4 x5 x6 x7 x8, bv = .bool true ∧ Hid (VarAt wr wc bx x0 x1 x2 x3 x4 x5 x6 x7 x8 12 (wk (k + 1)) ∧ Below wr.heap.size wr wc))
          case first =>
            have hDr : Below wX.heap.size wX wX.drew := ⟨rfl, rfl, rfl, Nat.le_refl _, fun _ _ => rfl⟩
            have hcall : Hid (Calls Tryz.prog 10 #[.agg #[.int .i64 c0, .int .i64 c1, .string c2, .slice c3 c4 c5, .slice c6 c7 c8], .string s, .agg #[.int .i64 l0, .int .i64 l1, .string l2, .slice l3 l4 l5, .slice l6 l7 l8]] wX.drew fun e w' => ∃ x0 x1 x2 x3 x4 x5 x6 x7 x8, e = .returned (.tuple #[.agg #[.int .i64 x0, .int .i64 x1, .string x2, .slice x3 x4 x5, .slice x6 x7 x8], .bool true]) ∧ ValAt (FreshP wX.drew w') w' 12 (wk (k + 1)) (.agg #[.int .i64 x0, .int .i64 x1, .string x2, .slice x3 x4 x5, .slice x6 x7 x8]) ∧ Below wX.drew.heap.size wX.drew w') := (by have hc := putG (d := 10) (freshP_go HL.out.var.val hDr) (freshP_go hly hDr) hsz (HE.out.err.below hDr); rw [hY.out] at hc; exact hc)
            have KK : Hid (∀ W', Below wr.heap.size wr W' → (W'.cell? ⟨w4.heap.size, 0, none⟩ = some (.int .i64 c0) ∧ W'.cell? ⟨w4.heap.size, 1, none⟩ = some (.int .i64 c1) ∧ W'.cell? ⟨w4.heap.size, 2, none⟩ = some (.string c2) ∧ W'.cell? ⟨w4.heap.size, 3, none⟩ = some (.slice c3 c4 c5) ∧ W'.cell? ⟨w4.heap.size, 4, none⟩ = some (.slice c6 c7 c8) ∧ W'.cell? ⟨lb2, lo + k * 5, none⟩ = some (.int .i64 l0) ∧ W'.cell? ⟨lb2, lo + k * 5 + 1, none⟩ = some (.int .i64 l1) ∧ W'.cell? ⟨lb2, lo + k * 5 + 2, none⟩ = some (.string l2) ∧ W'.cell? ⟨lb2, lo + k * 5 + 3, none⟩ = some (.slice l3 l4 l5) ∧ W'.cell? ⟨lb2, lo + k * 5 + 4, none⟩ = some (.slice l6 l7 l8) ∧ W'.cell? ⟨w1.heap.size, 3, none⟩ = some (.slice (some ⟨kb, ko, none⟩) v4 v5) ∧ W'.cell? ⟨kb, ko + k, none⟩ = some (.string s))) := fun W' hW => (by obtain ⟨e0, e1, e2, e3, e4⟩ := (GL.out.blk.below hW).cell; exact ⟨e0, e1, e2, e3, e4, (hW.cell (p := ⟨lb2, lo + k * 5, none⟩) FLB.out).trans ((HR.out.bel.cell (p := ⟨lb2, lo + k * 5, none⟩) FLB.out).symm.trans el0), (hW.cell (p := ⟨lb2, lo + k * 5 + 1, none⟩) FLB.out).trans ((HR.out.bel.cell (p := ⟨lb2, lo + k * 5 + 1, none⟩) FLB.out).symm.trans el1), (hW.cell (p := ⟨lb2, lo + k * 5 + 2, none⟩) FLB.out).trans ((HR.out.bel.cell (p := ⟨lb2, lo + k * 5 + 2, none⟩) FLB.out).symm.trans el2), (hW.cell (p := ⟨lb2, lo + k * 5 + 3, none⟩) FLB.out).trans ((HR.out.bel.cell (p := ⟨lb2, lo + k * 5 + 3, none⟩) FLB.out).symm.trans el3), (hW.cell (p := ⟨lb2, lo + k * 5 + 4, none⟩) FLB.out).trans ((HR.out.bel.cell (p := ⟨lb2, lo + k * 5 + 4, none⟩) FLB.out).symm.trans el4), (Gv.out.blk.below hW).cell.2.2.2.1, (hW.cell (p := ⟨kb, ko + k, none⟩) hkB).trans hkc⟩)
            have zx0 := Blk5.of_block Hx.out.blk (show wX.drew.heap[bx]? = wX.heap[bx]? from rfl)
            have zxl : bx < wX.drew.heap.size := Hx.out.blk.lt
            have hleR : wr.heap.size ≤ wX.drew.heap.size := HR.out.bel.size
            have hRR := below_trans HR.out.bel hDr
            have hwb : wr.heap.size ≤ bx := HR0.out
            have hRW := HR.out.bel
            go_region_held3 (fun w' => (w'.cell? ⟨w4.heap.size, 0, none⟩ = some (.int .i64 c0) ∧ w'.cell? ⟨w4.heap.size, 1, none⟩ = some (.int .i64 c1) ∧ w'.cell? ⟨w4.heap.size, 2, none⟩ = some (.string c2) ∧ w'.cell? ⟨w4.heap.size, 3, none⟩ = some (.slice c3 c4 c5) ∧ w'.cell? ⟨w4.heap.size, 4, none⟩ = some (.slice c6 c7 c8) ∧ w'.cell? ⟨lb2, lo + k * 5, none⟩ = some (.int .i64 l0) ∧ w'.cell? ⟨lb2, lo + k * 5 + 1, none⟩ = some (.int .i64 l1) ∧ w'.cell? ⟨lb2, lo + k * 5 + 2, none⟩ = some (.string l2) ∧ w'.cell? ⟨lb2, lo + k * 5 + 3, none⟩ = some (.slice l3 l4 l5) ∧ w'.cell? ⟨lb2, lo + k * 5 + 4, none⟩ = some (.slice l6 l7 l8) ∧ w'.cell? ⟨w1.heap.size, 3, none⟩ = some (.slice (some ⟨kb, ko, none⟩) v4 v5) ∧ w'.cell? ⟨kb, ko + k, none⟩ = some (.string s)))
              ((refine KK.out _ ?_; with_reducible assumption))
              ((go_at_call 10; refine hcall.out.mono ?_; rintro eC wC ⟨x0, x1, x2, x3, x4, x5, x6, x7, x8, rfl, hv', hb'⟩; have bC := below_trans hRR hb'; have zC := zx0.below hb'; have bX := belowChain bC zC hwb (.int .i64 x0) (.int .i64 x1) (.string x2) (.slice x3 x4 x5) (.slice x6 x7 x8); obtain ⟨y0, y1, y2, y3, y4⟩ := zC.cell; have yf := zC.frozen))
            all_goals go_wp2_with fail
            all_goals go_meet
            all_goals (have hF := And.intro (var_set (w := wr) zC zxl hleR hv') (below_set5 (below_trans hRR hb') hwb 0 (.int .i64 x0) (.int .i64 x1) (.string x2) (.slice x3 x4 x5) (.slice x6 x7 x8)); unfold set5 at hF; simp only [Nat.zero_add] at hF; with_reducible exact ⟨x0, x1, x2, x3, x4, x5, x6, x7, x8, rfl, hide hF⟩)
          case rest =>
          rename World => wX
          clear Hx
          obtain ⟨x0, x1, x2, x3, x4, x5, x6, x7, x8, rfl, hcx⟩ := hcut
          have hbx := hcx.out.2
          have Hx := hide hcx.out.1
          clear hcx
          clear Hv
          have Hv := hide (Gv.out.go hbx)
          clear Hea
          have Hea := hide (Gea.out.go hbx)
          clear Hwa
          have Hwa := hide (Gwa.out.go hbx)
          clear HL
          have HL := hide (GL.out.go hbx)
          clear HE HR
          have HE := hide (GE.out.go hbx)
          clear hbx
          go_wp2_with fail
          clear hly el0 el1 el2 el3 el4 hlB hkc hkB
          obtain ⟨lb2, lo, y2, l0, l1, l2, l3, l4, l5, l6, l7, l8, hla, hlB, hlx, el0, el1, el2, el3, el4, hly⟩ := row_elem Hea.out.row (k := k) hkl
          cases hla
          rw [hy] at hlx
          cases hlx
          obtain ⟨rb2, ro, y3, r0, r1, r2, r3, r4, r5, r6, r7, r8, hra, hrB, hrx, er0, er1, er2, er3, er4, hry⟩ := row_elem Hwa.out.row (k := k) hkl
          subst hra
          rw [hy] at hrx
          cases hrx
          have e0 : Hid (∀ m : Ext wX, Calls Tryz.prog 12 #[.agg #[.int .i64 l0, .int .i64 l1, .string l2, .slice l3 l4 l5, .slice l6 l7 l8], .agg #[.int .i64 r0, .int .i64 r1, .string r2, .slice r3 r4 r5, .slice r6 r7 r8]] m.now fun e w' => e = .returned (.bool true) ∧ Below m.now.heap.size m.now w') := fun m => samE (freshP_go hly m.from_) (freshP_go hry m.from_) hzy
          have ddel0 := fun m => ext_cell el0 m
          have ddel1 := fun m => ext_cell el1 m
          have ddel2 := fun m => ext_cell el2 m
          have ddel3 := fun m => ext_cell el3 m
          have ddel4 := fun m => ext_cell el4 m
          have dder0 := fun m => ext_cell er0 m
          have dder1 := fun m => ext_cell er1 m
          have dder2 := fun m => ext_cell er2 m
          have dder3 := fun m => ext_cell er3 m
          have dder4 := fun m => ext_cell er4 m
          clear el0 el1 el2 el3 el4 er0 er1 er2 er3 er4
          have hne := Ext.some wX
          refine wp_region_ext (by kernel_rfl) (by kernel_rfl) ?_
          repeat (first | go_big_quiet_step ((go_at_call 12; first | with_reducible exact Calls.ext_of (e0.out _))) | quiet_step ((go_at_call 12; first | with_reducible exact Calls.ext_of (e0.out _))))
          refine wpQuiet_nil ?_
          intro w7 hw7
          obtain ⟨m, rfl⟩ := hw7
          obtain ⟨W7, hW7⟩ : ∃ W1, Hid (m.now = W1) := ⟨_, rfl⟩
          have hb7 := m.from_
          rw [hW7.out] at hb7 ⊢
          clear hW7 hne e0 ddel0 ddel1 ddel2 ddel3 ddel4 dder0 dder1 dder2 dder3 dder4
          replace Hx := hide (Hx.out.go hb7)
          replace Hv := hide (Hv.out.go hb7)
          replace Hea := hide (Hea.out.go hb7)
          replace Hwa := hide (Hwa.out.go hb7)
          replace HL := hide (HL.out.go hb7)
          replace HE := hide (HE.out.go hb7)
          clear hb7
          obtain ⟨xx0, xx1, xx2, xx3, xx4⟩ := Hx.out.blk.cell
          have xxl := Hx.out.blk.lt
          obtain ⟨xw0, xw1, xw2, xw3, xw4⟩ := HL.out.blk.cell
          have xwl := HL.out.blk.lt
          have xwf := HL.out.blk.frozen
          have HN := hide (HL.out.set Hx.out hwbr.out)
          clear HL Hx Hv Hea Hwa HE
          go_wp2_with fail
          go_roundw
          case rel =>
            first
              | exact ⟨k + 1, by omega, by go_num, x0, x1, x2, x3, x4, x5, x6, x7, x8, hide (HN.out _ rfl)⟩
              | ((repeat apply Exists.intro); exact ⟨⟨k + 1, by omega, by go_num, x0, x1, x2, x3, x4, x5, x6, x7, x8, hide (HN.out _ rfl)⟩, rfl⟩)
          case measure => simp [intOf]; omega
      ·
        obtain rfl : k = (Nd.list (α := Tr 11) V).length := by omega
        by_cases hN0 : 0 < (Nd.list (α := Tr 11) V).length
        ·
          have hwV := Hwe.out hN0
          rw [hwV] at HL
          have hne : ((((Nd.list (α := Tr 11) V).length : Nat) : Int) == 0) = false := beq_false_of_ne (by omega)
          have hne2 : ¬ (((Nd.list (α := Tr 11) V).length : Nat) : Int) = 0 := by omega
          have Hw := hide HL.out.var
          obtain ⟨xw0, xw1, xw2, xw3, xw4⟩ := HL.out.blk.cell
          have xwl := HL.out.blk.lt
          obtain ⟨xv0, xv1, xv2, xv3, xv4⟩ := Hv.out.blk.cell
          have xvl := Hv.out.blk.lt
          go_wp2_with fail
          clear xw0 xw1 xw2 xw3 xw4 xwl
          clear xv0 xv1 xv2 xv3 xv4 xvl
          have hc := samE Hw.out.val Hv.out.val hz12
          refine hc.mono ?_
          clear hc
          rintro e w5 ⟨rfl, hb5⟩
          replace Hv := hide (Hv.out.go hb5)
          replace Hea := hide (Hea.out.go hb5)
          replace Hwa := hide (Hwa.out.go hb5)
          replace HE := hide (HE.out.go hb5)
          clear hb5
          go_wp2_with fail
          go_ret
          exact ⟨rfl, HE.out.bel⟩
        ·
          have h0 : (Nd.list (α := Tr 11) V).length = 0 := by omega
          rw [h0, Hw0.out] at HL
          have hc0 : c0 = 0 := (val_parts HL.out.var.val).1
          subst hc0
          have heq : ((((Nd.list (α := Tr 11) V).length : Nat) : Int) == 0) = true := by rw [h0]; rfl
          obtain ⟨xw0, xw1, xw2, xw3, xw4⟩ := HL.out.blk.cell
          have xwl := HL.out.blk.lt
          obtain ⟨xv0, xv1, xv2, xv3, xv4⟩ := Hv.out.blk.cell
          have xvl := Hv.out.blk.lt
          go_wp2_with fail
          go_ret
          exact ⟨rfl, HE.out.bel⟩
  ·
    have hE : Hid (eachT 11 V = ([], false)) := by show eachT 11 V = _; unfold eachT; rw [if_neg hok]
    have hc := eachI (d := 11) Hv.out.val HE.out.err HE.out.le
    rw [hE.out] at hc; dsimp only at hc
    refine hc.mono ?_
    clear hc
    rintro e w3 ⟨eaa, eac, rfl, hu3, hb3⟩
    replace Hv := hide (Hv.out.go hb3)
    replace HE := hide (HE.out.go hb3)
    clear hb3
    have Hea : Hid (RowsAt w w3 eaa eac 11 ([])) := ⟨hu3⟩
    clear hu3
    obtain ⟨xv0, xv1, xv2, xv3, xv4⟩ := Hv.out.blk.cell
    have xvl := Hv.out.blk.lt
    go_wp2_with fail
    clear xv0 xv1 xv2 xv3 xv4 xvl
    have hc := eachS (d := 11) Hv.out.val hz12 HE.out.le
    rw [hE.out] at hc; dsimp only at hc
    refine hc.mono ?_
    clear hc
    rintro e w4 ⟨waa, wac, rfl, hu4, hb4⟩
    replace Hv := hide (Hv.out.go hb4)
    replace Hea := hide (Hea.out.go hb4)
    replace HE := hide (HE.out.go hb4)
    clear hb4
    have Hwa : Hid (RowsAt w w4 waa wac 11 ([])) := ⟨hu4⟩
    clear hu4
    obtain ⟨xv0, xv1, xv2, xv3, xv4⟩ := Hv.out.blk.cell
    have xvl := Hv.out.blk.lt
    go_wp2_with fail
    go_ret
    exact ⟨rfl, HE.out.bel⟩
end Go.Proofs.YtgjahnkldobphaaGreatDoor
