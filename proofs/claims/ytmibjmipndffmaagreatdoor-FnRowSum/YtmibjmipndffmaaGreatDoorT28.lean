/- Texts of the proof, put together by program: WSumS, WRowX, WOfsumOfRow. -/
import Derived.Test.YtmibjmipndffmaaGreatDoorT25
import Derived.Test.YtmibjmipndffmaaGreatDoorT27
import Derived.Test.YtmibjmipndffmaaGreatDoorT22
import Derived.Test.YtmibjmipndffmaaGreatDoorT21
import Derived.Test.YtmibjmipndffmaaGreatDoorT9
/- RowSum of the model. -/
namespace Go.Proofs.YtmibjmipndffmaaGreatDoor
open Go.RowKit Go.Deep

set_option maxRecDepth 100000 in
set_option maxHeartbeats 8000000 in
theorem specRowSum_own (d : Nat) (S : Nat → Prop) (t : Tr (d + 3)) (v : Value) (w : World) (hv : ValAt S w (d + 3) t v) (hS : Within S w) (hsm : (nodes (d + 3) t : Int) ≤ 4194304) :
    Calls Tryz.prog 26 #[v] w (TellQ (d + 1) (rowTell (sumF (d + 1)) t).1 (rowTell (sumF (d + 1)) t).2 w) := by
  have hv0 := hv
  obtain ⟨vk, vl, rfl, i1, i2, i3, hk, hl⟩ := hv
  obtain ⟨ak, ck, rfl, hkl⟩ := hk.open'
  obtain ⟨al, cl, rfl, hll⟩ := hl.open'
  obtain ⟨W0, hW⟩ : ∃ W0, W0 = (w.alloc (.cells #[.int .i64 t.kind, .int .i64 t.num, .string t.str, .slice ak t.keys.length ck, .slice al t.list.length cl] 26)).alloc (.cells #[.int .i64 0, .int .i64 0, .string { data := #[] }, .slice none 0 0, .slice none 0 0] 26) := ⟨_, rfl⟩
  have hW0 : Below w.heap.size w W0 := by rw [hW]; exact below_trans (below_alloc1 _ _) (below_alloc1 _ _)
  have k0 : Blk5 W0 w.heap.size 26 (.int .i64 t.kind) (.int .i64 t.num) (.string t.str) (.slice ak t.keys.length ck) (.slice al t.list.length cl) := by
    rw [hW]; exact (Blk5.new w 26 _ _ _ _ _).alloc _
  have k1 : Blk5 W0 (w.heap.size + 1) 26 (.int .i64 0) (.int .i64 0) (.string { data := #[] }) (.slice none 0 0) (.slice none 0 0) := by
    have := Blk5.new (w.alloc (.cells #[.int .i64 t.kind, .int .i64 t.num, .string t.str, .slice ak t.keys.length ck, .slice al t.list.length cl] 26)) 26 (.int .i64 0) (.int .i64 0) (.string { data := #[] }) (.slice none 0 0) (.slice none 0 0)
    rw [World.size_alloc] at this
    rw [hW]
    exact this
  have HW := hide hW
  clear hW hk
  go_enter Tryz.func26, Tryz.ntmps26
  go_wp2_with fail
  rw [← HW.out]
  clear HW
  refine (l4Row_any (d + 2) S t _ W0 (hv0.same (hS.same hW0)) (hS.later hW0.size) hsm).mono ?_
  rintro e w1 ⟨rfl, hb1⟩
  replace k0 := k0.below hb1
  replace k1 := k1.below hb1
  have hB1 := below_trans hW0 hb1
  have hlt := k1.lt
  clear hb1 hW0 hv0
  cases hf : treesL (d + 2) t with
  | none =>
    have hz := hide (rowTell_none (f := sumF (d + 1)) hf)
    have hno : Hid (∀ wF, wF = set5 w1 (w.heap.size + 1) 0 (.int .i64 0) (.int .i64 0) (.string { data := #[] }) (.slice none 0 0) (.slice none 0 0) → Below w.heap.size w wF) := by
      intro wF hF
      rw [hF]
      exact below_set5 hB1 (by omega) _ _ _ _ _ _
    obtain ⟨y0, y1, y2, y3, y4⟩ := k1.cell
    have yf := k1.frozen
    clear k0 k1 hB1
    go_wp2_with fail
    rw [hz.out]
    refine bodyPost_ret (v := .tuple #[zeroVal, .bool false]) (by simp [results, Tryz.results26, go_sem, zeroVal, y0, y1, y2, y3, y4]; rfl) rfl ⟨_, rfl, zeroVal_own (d + 1) _ _, hno.out _ rfl⟩
  | some xs =>
    obtain ⟨hok, h5, rfl⟩ := treesL_some hf
    clear h5
    have hR0 : Hid (∀ acc, sumF (d + 1) t.list = some acc → rowTell (sumF (d + 1)) t = (toldT (d + 1) acc, okT (d + 2) acc)) := fun acc ha => rowTell_some hf ha
    have hRn : Hid (sumF (d + 1) t.list = none → rowTell (sumF (d + 1)) t = (zeroT (d + 1), false)) := fun ha => rowTell_fault hf ha
    have hS1 : ∀ b, S b → b < w1.heap.size := hS.later hB1.size
    have hoks := hide (fun (x : Tr (d + 2)) (hx : x ∈ t.list) => okT_part hok hx)
    have hst : Hid (VarAt w1 (w1.alloc (.cells #[.int .i64 0, .int .i64 0, .string { data := #[] }, .slice none 0 0, .slice none 0 0] 26)) w1.heap.size 0 0 { data := #[] } none 0 0 none 0 0 (d + 2) (zeroT (d + 1))) := VarAt.new (zero_at _ _ (d + 1))
    have hbs : Hid (Below w1.heap.size w1 (w1.alloc (.cells #[.int .i64 0, .int .i64 0, .string { data := #[] }, .slice none 0 0, .slice none 0 0] 26))) := below_alloc1 _ _
    have hl60 : t.list.length ≤ 60 := (okT_kinds hok).2.1
    have hlt' : w.heap.size + 1 < w1.heap.size := hlt
    have HK0 := hide k0
    have HK1 := hide k1
    have HL := hide hl
    have HB1 := hide hB1
    clear hf hok k0 k1 hl hB1 hlt
    go_wp2_with fail
    go_loopw [5] (fun i wr => ∃ (m : Nat) (acc : Tr (d + 2)) (c0 c1 : Int) (c2 : ByteArray) (c3 : Option Addr) (c4 c5 : Nat) (c6 : Option Addr) (c7 c8 : Nat), m ≤ t.list.length ∧ i = .int .i64 (m : Int) ∧ Hid (okT (d + 2) acc = true) ∧ Hid (sumF (d + 1) t.list = sumS (t.list.drop m) acc) ∧ Hid (VarAt w1 wr w1.heap.size c0 c1 c2 c3 c4 c5 c6 c7 c8 (d + 2) acc) ∧ Hid (Below w1.heap.size w1 wr)) (fun i _ => t.list.length - (intOf i).toNat)
    case atStart => exact ⟨0, _, _, _, _, _, _, _, _, _, _, Nat.zero_le _, rfl, okT_zero (d + 1), rfl, hst, hbs⟩
    case round =>
      clear hst hbs
      obtain ⟨m, acc, c0, c1, c2, c3, c4, c5, c6, c7, c8, hm, rfl, hacc, hfin, HO, HBR⟩ := hrel
      have hbr := HBR.out
      have hsz : w1.heap.size < wr.heap.size := HO.out.blk.lt
      have hBr : Below w.heap.size w wr := HB1.out.trans (hbr.mono (by omega))
      have kbox := HK0.out.of_block (hbr.block _ (by omega))
      have kres := HK1.out.of_block (hbr.block _ (by omega))
      obtain ⟨x0, x1, x2, x3, x4⟩ := kbox.cell
      obtain ⟨z0, z1, z2, z3, z4⟩ := HO.out.blk.cell
      by_cases hmt : m < t.list.length
      · have hmi : (m : Int) < (t.list.length : Int) := by omega
        obtain ⟨eb, eo, y, e0', e1', e2', e3', e4', rfl, hbS, hy, e0, e1, e2, e3, e4, hval⟩ := (HL.out.same (hS.same hBr)).cell hmt
        obtain ⟨q0, q1, q2, q3, q4, q5, q6, q7, q8, hq⟩ := hval.shape
        cases hq
        have hstp := hide (sumS_step hy acc)
        have hyok := hide (hoks.out y (List.mem_of_getElem? hy))
        have hebl : eb < wr.heap.size := by have := hS1 eb hbS; omega
        obtain ⟨⟨X, o1⟩, hX⟩ : ∃ r, Hid (partAddT (d + 1) acc y = r) := ⟨_, rfl⟩
        have hwS : Within S wr := fun b hb => by have := hS1 b hb; omega
        have hcall : Hid (∀ W', Below wr.heap.size wr W' → Calls Tryz.prog 67 #[.agg #[.int .i64 c0, .int .i64 c1, .string c2, .slice c3 c4 c5, .slice c6 c7 c8], .agg #[.int .i64 q0, .int .i64 q1, .string q2, .slice q3 q4 q5, .slice q6 q7 q8]] W' fun e w' => ∃ (p0 p1 : Int) (p2 : ByteArray) (p3 : Option Addr) (p4 p5 : Nat) (p6 : Option Addr) (p7 p8 : Nat), e = .returned (.tuple #[.agg #[.int .i64 p0, .int .i64 p1, .string p2, .slice p3 p4 p5, .slice p6 p7 p8], .bool o1]) ∧ ValAt (FreshP W' w') w' (d + 2) X (.agg #[.int .i64 p0, .int .i64 p1, .string p2, .slice p3 p4 p5, .slice p6 p7 p8]) ∧ Below W'.heap.size W' w') := fun W' hW => by
          have hc := specPartAdd_own d (FreshP w1 W') acc _ S y _ W' (freshP_go HO.out.val hW) within_P (hval.same (hwS.same hW)) (hwS.later hW.size) (by have := nodes_ok hacc.out; omega) (by have := nodes_ok hyok.out; omega)
          rw [hX.out] at hc
          dsimp only at hc
          exact hc.mono (fun _ _ h => tq_of (Nat.le_refl _) h)
        have KK : Hid (∀ W', Below wr.heap.size wr W' → W'.cell? ⟨w1.heap.size, 0, none⟩ = some (.int .i64 c0) ∧ W'.cell? ⟨w1.heap.size, 1, none⟩ = some (.int .i64 c1) ∧ W'.cell? ⟨w1.heap.size, 2, none⟩ = some (.string c2) ∧ W'.cell? ⟨w1.heap.size, 3, none⟩ = some (.slice c3 c4 c5) ∧ W'.cell? ⟨w1.heap.size, 4, none⟩ = some (.slice c6 c7 c8) ∧ W'.cell? ⟨w.heap.size, 4, none⟩ = some (.slice (some ⟨eb, eo, none⟩) t.list.length cl) ∧ W'.cell? ⟨eb, eo + m * 5, none⟩ = some (.int .i64 q0) ∧ W'.cell? ⟨eb, eo + m * 5 + 1, none⟩ = some (.int .i64 q1) ∧ W'.cell? ⟨eb, eo + m * 5 + 2, none⟩ = some (.string q2) ∧ W'.cell? ⟨eb, eo + m * 5 + 3, none⟩ = some (.slice q3 q4 q5) ∧ W'.cell? ⟨eb, eo + m * 5 + 4, none⟩ = some (.slice q6 q7 q8)) := fun W' hW => ⟨(hW.cell (p := ⟨w1.heap.size, 0, none⟩) hsz).trans z0, (hW.cell (p := ⟨w1.heap.size, 1, none⟩) hsz).trans z1, (hW.cell (p := ⟨w1.heap.size, 2, none⟩) hsz).trans z2, (hW.cell (p := ⟨w1.heap.size, 3, none⟩) hsz).trans z3, (hW.cell (p := ⟨w1.heap.size, 4, none⟩) hsz).trans z4, (hW.cell (p := ⟨w.heap.size, 4, none⟩) (show w.heap.size < _ by omega)).trans x4, (hW.cell (p := ⟨eb, eo + m * 5, none⟩) hebl).trans e0, (hW.cell (p := ⟨eb, eo + m * 5 + 1, none⟩) hebl).trans e1, (hW.cell (p := ⟨eb, eo + m * 5 + 2, none⟩) hebl).trans e2, (hW.cell (p := ⟨eb, eo + m * 5 + 3, none⟩) hebl).trans e3, (hW.cell (p := ⟨eb, eo + m * 5 + 4, none⟩) hebl).trans e4⟩
        clear hval hwS hBr
        go_upto_region 7 with fail
        go_cut [6, 7] (fun pv bv wc => ∃ b p0 p1 p2 p3 p4 p5 p6 p7 p8, pv = .pointer (some ⟨b, 0, none⟩) ∧ bv = .bool o1 ∧ Hid (VarAt wr wc b p0 p1 p2 p3 p4 p5 p6 p7 p8 (d + 2) X ∧ Below wr.heap.size wr wc ∧ wr.heap.size ≤ b))
        case first =>
          have hle : wr.heap.size ≤ wr.heap.size := Nat.le_refl _
          have hleR : wr.heap.size ≤ wr.drew.heap.size := hle
          have hDr : Below wr.heap.size wr wr.drew := ⟨rfl, rfl, rfl, Nat.le_refl _, fun _ _ => rfl⟩
          have hDa := below_drew1 (below_alloc1 wr (.cells #[.int .i64 0, .int .i64 0, .string { data := #[] }, .slice none 0 0, .slice none 0 0] 26))
          have hDb : Below wr.heap.size wr (wr.drew.alloc (.cells #[.int .i64 0, .int .i64 0, .string { data := #[] }, .slice none 0 0, .slice none 0 0] 26)) := below_trans hDr (below_alloc1 _ _)
          clear HO HBR kbox kres hacc hfin hstp hyok hoks hR0 hRn hX HK0 HK1 HL HB1 hbr
          go_region_held3 (fun w' => w'.cell? ⟨w1.heap.size, 0, none⟩ = some (.int .i64 c0) ∧ w'.cell? ⟨w1.heap.size, 1, none⟩ = some (.int .i64 c1) ∧ w'.cell? ⟨w1.heap.size, 2, none⟩ = some (.string c2) ∧ w'.cell? ⟨w1.heap.size, 3, none⟩ = some (.slice c3 c4 c5) ∧ w'.cell? ⟨w1.heap.size, 4, none⟩ = some (.slice c6 c7 c8) ∧ w'.cell? ⟨w.heap.size, 4, none⟩ = some (.slice (some ⟨eb, eo, none⟩) t.list.length cl) ∧ w'.cell? ⟨eb, eo + m * 5, none⟩ = some (.int .i64 q0) ∧ w'.cell? ⟨eb, eo + m * 5 + 1, none⟩ = some (.int .i64 q1) ∧ w'.cell? ⟨eb, eo + m * 5 + 2, none⟩ = some (.string q2) ∧ w'.cell? ⟨eb, eo + m * 5 + 3, none⟩ = some (.slice q3 q4 q5) ∧ w'.cell? ⟨eb, eo + m * 5 + 4, none⟩ = some (.slice q6 q7 q8))
            ((refine KK.out _ ?_; with_reducible assumption))
            ((go_at_call 67; refine (hcall.out _ ?_).mono ?_; (first | exact hDr | exact hDa | exact hDb); rintro eC wC ⟨p0, p1, p2, p3, p4, p5, p6, p7, p8, rfl, hv', hb'⟩; (first | with_reducible (have bC := below_trans hDr hb') | with_reducible (have bC := below_trans hDa hb') | with_reducible (have bC := below_trans hDb hb')); have bCa := below_trans bC (below_alloc1 wC (.cells #[.int .i64 0, .int .i64 0, .string { data := #[] }, .slice none 0 0, .slice none 0 0] 26)); have bCp := below_trans bC (below_alloc1 wC (.cells #[.int .i64 p0, .int .i64 p1, .string p2, .slice p3 p4 p5, .slice p6 p7 p8] 26)); (first | with_reducible (have zC := Blk5.below (newDrew wr 26 (.int .i64 0) (.int .i64 0) (.string { data := #[] }) (.slice none 0 0) (.slice none 0 0)) hb'; obtain ⟨y0, y1, y2, y3, y4⟩ := zC.cell; have yf := zC.frozen) | with_reducible (have zC := Blk5.below (Blk5.new wr.drew 26 (.int .i64 0) (.int .i64 0) (.string { data := #[] }) (.slice none 0 0) (.slice none 0 0)) hb'; obtain ⟨y0, y1, y2, y3, y4⟩ := zC.cell; have yf := zC.frozen) | skip); (first | have bX := belowChain bC zC (Nat.le_refl _) (.int .i64 p0) (.int .i64 p1) (.string p2) (.slice p3 p4 p5) (.slice p6 p7 p8) | skip)))
          all_goals go_wp2_with fail
          all_goals go_meet
          all_goals (first | (have hF := And.intro (var_set (w := wr) zC (by simp) (by first | (have := hle; simp; omega) | simp) hv') (And.intro (below_set5 bC (Nat.le_refl _) 0 (.int .i64 p0) (.int .i64 p1) (.string p2) (.slice p3 p4 p5) (.slice p6 p7 p8)) (Nat.le_refl wr.heap.size)); unfold set5 at hF; simp only [Nat.zero_add] at hF; with_reducible exact ⟨_, p0, p1, p2, p3, p4, p5, p6, p7, p8, rfl, rfl, hide hF⟩) | with_reducible exact ⟨_, p0, p1, p2, p3, p4, p5, p6, p7, p8, rfl, rfl, hide (And.intro (var_new hleR hv') (And.intro bCp bC.size))⟩)
        case rest =>
          rename World => wX
          obtain ⟨bx, p0, p1, p2, p3, p4, p5, p6, p7, p8, rfl, rfl, hcx⟩ := hcut
          have HX := hide hcx.out.1
          have hbx := hcx.out.2.1
          have hbl := hcx.out.2.2
          clear hcx KK hcall
          have kres2 := kres.below hbx
          have HOK := HO.out.blk.below hbx
          have hzx := hbx.size
          have hB3 : Below w.heap.size w wX := below_trans (HB1.out.trans (hbr.mono (by omega))) hbx
          have HB3 := hide hB3
          have HBX := hide (hbr.trans (hbx.mono (Nat.le_of_lt hsz)))
          clear x0 x1 x2 x3 x4 z0 z1 z2 z3 z4 e0 e1 e2 e3 e4 HO hB3 hbr kbox kres hbx
          cases o1 with
          | false =>
            have hq := hide (hRn.out (by rw [hfin.out, hstp.out, hX.out]; rfl))
            have hno : Hid (∀ wF, wF = set5 wX (w.heap.size + 1) 0 (.int .i64 0) (.int .i64 0) (.string { data := #[] }) (.slice none 0 0) (.slice none 0 0) → Below w.heap.size w wF) := by
              intro wF hF
              rw [hF]
              exact below_set5 HB3.out (by omega) _ _ _ _ _ _
            obtain ⟨y0, y1, y2, y3, y4⟩ := kres2.cell
            have yf := kres2.frozen
            clear kres2 HOK
            go_wp2_with fail
            rw [hq.out]
            refine bodyPost_ret (v := .tuple #[zeroVal, .bool false]) (by simp [results, Tryz.results26, go_sem, zeroVal, y0, y1, y2, y3, y4]; rfl) rfl ⟨_, rfl, zeroVal_own (d + 1) _ _, hno.out _ rfl⟩
          | true =>
            have HACC : Hid (okT (d + 2) X = true) := by
              have h := okT_partAdd (d + 1) acc y
              rw [hX.out] at h
              exact h
            have HFIN : Hid (sumF (d + 1) t.list = sumS (t.list.drop (m + 1)) X) := by
              show _ = _
              rw [hfin.out, hstp.out, hX.out]
              rfl
            have HN : Hid (∀ wF, wF = set5 wX w1.heap.size 0 (.int .i64 p0) (.int .i64 p1) (.string p2) (.slice p3 p4 p5) (.slice p6 p7 p8) → VarAt w1 wF w1.heap.size p0 p1 p2 p3 p4 p5 p6 p7 p8 (d + 2) X ∧ Below w1.heap.size w1 wF) := by
              intro wF hF
              rw [hF]
              exact ⟨var_set (w := w1) (Wc := wr) HOK hsz (Nat.le_of_lt hsz) HX.out.val, below_set5 HBX.out (Nat.le_refl _) _ _ _ _ _ _⟩
            obtain ⟨y0, y1, y2, y3, y4⟩ := HX.out.blk.cell
            obtain ⟨g0, g1, g2, g3, g4⟩ := HOK.cell
            have gf := HOK.frozen
            have hne : ¬ bx = w1.heap.size := by omega
            have hbxl := HX.out.blk.lt
            have hwl : w1.heap.size < wX.heap.size := by omega
            clear kres2 HOK HX hacc hfin hstp
            go_wp2_with fail
            go_roundw
            case rel => exact ⟨m + 1, X, p0, p1, p2, p3, p4, p5, p6, p7, p8, by omega, by go_num, HACC, HFIN, hide (HN.out _ rfl).1, hide (HN.out _ rfl).2⟩
            case measure => simp [intOf]; omega
      · obtain rfl : m = t.list.length := by omega
        have ha : sumF (d + 1) t.list = some acc := by
          rw [hfin.out, List.drop_eq_nil_of_le (Nat.le_refl _)]
          rfl
        have hR := hide (hR0.out acc ha)
        have hcall2 := hide (l2Told_own (d + 1) _ _ _ wr HO.out.val within_P (by have h := nodes_ok hacc.out; show (nodes (d + 2) acc : Int) ≤ _; omega))
        have hlt3 : w.heap.size + 1 < wr.heap.size := kres.lt
        clear ha hfin hacc hRn hR0 HO HBR hbr
        go_wp2_with fail
        refine Calls.mono hcall2.out ?_
        rintro e w4 ⟨r, rfl, hr, hb4⟩
        obtain ⟨r0, r1, r2, r3, r4, r5, r6, r7, r8, rfl⟩ := (ValOwn.at _ _ _ _ hr).shape
        have HF := hide (tell_end hr (below_trans hBr hb4) (by omega) hlt3)
        have k4 := kres.below hb4
        obtain ⟨y0, y1, y2, y3, y4⟩ := k4.cell
        have yf := k4.frozen
        clear hr hb4 k4 hcall2 kres kbox
        go_wp2_with fail
        rw [hR.out]
        exact bodyPost_ret (v := .tuple #[.agg #[.int .i64 r0, .int .i64 r1, .string r2, .slice r3 r4 r5, .slice r6 r7 r8], .bool (okT (d + 2) acc)]) (by simp [results, Tryz.results26, go_sem, y0, y1, y2, y3, y4]) rfl ⟨_, rfl, (HF.out _ rfl).1, (HF.out _ rfl).2⟩
end Go.Proofs.YtmibjmipndffmaaGreatDoor

/- What val of a tree gives, whatever the tree's type is. -/
namespace Go.Proofs.YtmibjmipndffmaaGreatDoor
open Go.RowKit Go.Deep

theorem val_all (d : Nat) (S : Nat → Prop) (x : Tr (d + 1)) (u : Value) (w : World) (hu : TreeG S w (d + 1) x u) (hS : Within S w) :
    ∃ v, (u = .iface 91 v ∧ ∀ W', Below w.heap.size w W' → Calls Tryz.prog 188 #[v] W' (ValQ (d + 1) x W')) ∨ (u = .iface 157 v ∧ ∀ W', Below w.heap.size w W' → Calls Tryz.prog 201 #[v] W' (ValQ (d + 1) x W')) ∨
      (u = .iface 155 v ∧ ∀ W', Below w.heap.size w W' → Calls Tryz.prog 198 #[v] W' (ValQ (d + 1) x W')) ∨ (u = .iface 148 v ∧ ∀ W', Below w.heap.size w W' → Calls Tryz.prog 195 #[v] W' (ValQ (d + 1) x W')) ∨
      (u = .iface 145 v ∧ ∀ W', Below w.heap.size w W' → Calls Tryz.prog 192 #[v] W' (ValQ (d + 1) x W')) := by
  have hw : ∀ W', Below w.heap.size w W' → TreeG S W' (d + 1) x u ∧ Within S W' := fun W' hW => ⟨hu.same (hS.same hW), hS.later hW.size⟩
  obtain ⟨v, hm⟩ := val_any (d + 1) S x u w hu hS
  refine ⟨v, ?_⟩
  rcases hm with ⟨rfl, _⟩ | ⟨rfl, _⟩ | ⟨rfl, _⟩ | ⟨rfl, _⟩ | ⟨rfl, _⟩
  · refine Or.inl ⟨rfl, fun W' hW => ?_⟩
    obtain ⟨v', hm⟩ := val_any (d + 1) S x _ W' (hw W' hW).1 (hw W' hW).2
    rcases hm with ⟨e, h⟩ | ⟨e, h⟩ | ⟨e, h⟩ | ⟨e, h⟩ | ⟨e, h⟩ <;> (cases e <;> exact h)
  · refine Or.inr (Or.inl ⟨rfl, fun W' hW => ?_⟩)
    obtain ⟨v', hm⟩ := val_any (d + 1) S x _ W' (hw W' hW).1 (hw W' hW).2
    rcases hm with ⟨e, h⟩ | ⟨e, h⟩ | ⟨e, h⟩ | ⟨e, h⟩ | ⟨e, h⟩ <;> (cases e <;> exact h)
  · refine Or.inr (Or.inr (Or.inl ⟨rfl, fun W' hW => ?_⟩))
    obtain ⟨v', hm⟩ := val_any (d + 1) S x _ W' (hw W' hW).1 (hw W' hW).2
    rcases hm with ⟨e, h⟩ | ⟨e, h⟩ | ⟨e, h⟩ | ⟨e, h⟩ | ⟨e, h⟩ <;> (cases e <;> exact h)
  · refine Or.inr (Or.inr (Or.inr (Or.inl ⟨rfl, fun W' hW => ?_⟩)))
    obtain ⟨v', hm⟩ := val_any (d + 1) S x _ W' (hw W' hW).1 (hw W' hW).2
    rcases hm with ⟨e, h⟩ | ⟨e, h⟩ | ⟨e, h⟩ | ⟨e, h⟩ | ⟨e, h⟩ <;> (cases e <;> exact h)
  · refine Or.inr (Or.inr (Or.inr (Or.inr ⟨rfl, fun W' hW => ?_⟩)))
    obtain ⟨v', hm⟩ := val_any (d + 1) S x _ W' (hw W' hW).1 (hw W' hW).2
    rcases hm with ⟨e, h⟩ | ⟨e, h⟩ | ⟨e, h⟩ | ⟨e, h⟩ | ⟨e, h⟩ <;> (cases e <;> exact h)
end Go.Proofs.YtmibjmipndffmaaGreatDoor

/- ofRow of the program, at sumOfRow. -/
namespace Go.Proofs.YtmibjmipndffmaaGreatDoor
open Go.RowKit Go.Deep

set_option maxRecDepth 100000 in
set_option maxHeartbeats 2000000 in
theorem ofRow_sumOfRow (d e : Nat) (S : Nat → Prop) (t : Tr (d + 1)) (v : Value) (f : List (Tr d) → Option (Tr (e + 1))) (w : World) (hv : ValAt S w (d + 1) t v) (hS : Within S w) (hg : ErrType w)
    (H : Hid (∀ (N : Nat) (xs : List (Tr d)) (a : Option Addr) (cap : Nat) (vs : List Value) (w1 : World), treesL d t = some xs → GTo N w1 (.slice a xs.length cap) xs vs → w.heap.size ≤ N → N ≤ w1.heap.size → ErrType w1 → Calls Tryz.prog 65 #[.slice a xs.length cap] w1 (TellF e N (f xs) w1))) :
    Calls Tryz.prog 64 #[v, .func (.func 65) #[] #[]] w (TellQ e (rowTell f t).1 (rowTell f t).2 w) := by
  obtain ⟨k, n, s, ak, lk, ck, al, ll, cl, rfl⟩ := hv.shape
  obtain ⟨W0, hW⟩ : ∃ W0, W0 = (w.alloc (.cells #[.int .i64 k, .int .i64 n, .string s, .slice ak lk ck, .slice al ll cl] 26)).alloc (.cells #[.int .i64 0, .int .i64 0, .string { data := #[] }, .slice none 0 0, .slice none 0 0] 26) := ⟨_, rfl⟩
  have hW0 : Below w.heap.size w W0 := by rw [hW]; exact below_trans (below_alloc1 _ _) (below_alloc1 _ _)
  have k1 : Blk5 W0 (w.heap.size + 1) 26 (.int .i64 0) (.int .i64 0) (.string { data := #[] }) (.slice none 0 0) (.slice none 0 0) := by
    have := Blk5.new (w.alloc (.cells #[.int .i64 k, .int .i64 n, .string s, .slice ak lk ck, .slice al ll cl] 26)) 26 (.int .i64 0) (.int .i64 0) (.string { data := #[] }) (.slice none 0 0) (.slice none 0 0)
    rw [World.size_alloc] at this
    rw [hW]
    exact this
  have HW := hide hW
  clear hW
  go_enter Tryz.func64, Tryz.ntmps64
  go_wp2_with fail
  rw [← HW.out]
  clear HW
  refine (treesInRow_own d S t _ W0 (hv.same (hS.same hW0)) (hS.later hW0.size)).mono ?_
  rintro en w1 ⟨hb1, hq⟩
  have hB1 := below_trans hW0 hb1
  have k2 := k1.below hb1
  have hg1 := hg.below hB1
  have hl1 := k1.lt
  have hs0 := hW0.size
  have hs1 := hb1.size
  clear hv
  -- what is told, however it is
  have hfin : ∀ (w1' : World), Below W0.heap.size w1 w1' → ∀ (x : Tr (e + 1)) (ok : Bool), Hid (∀ en w2, TellQ e x ok w1' en w2 → ∃ v0 v1 v2 v3 v4 v5 v6 v7 v8, en = .returned (.tuple #[.agg #[.int .i64 v0, .int .i64 v1, .string v2, .slice v3 v4 v5, .slice v6 v7 v8], .bool ok]) ∧
      Blk5 w2 (w.heap.size + 1) 26 (.int .i64 0) (.int .i64 0) (.string { data := #[] }) (.slice none 0 0) (.slice none 0 0) ∧
      ∀ wF, wF = set5 w2 (w.heap.size + 1) 0 (.int .i64 v0) (.int .i64 v1) (.string v2) (.slice v3 v4 v5) (.slice v6 v7 v8) → ValOwn wF (e + 1) (Fresh w wF) x (.agg #[.int .i64 v0, .int .i64 v1, .string v2, .slice v3 v4 v5, .slice v6 v7 v8]) ∧ Below w.heap.size w wF) := fun w1' hb' x ok => by
    intro en w2 ⟨v, he, hv, hb2⟩
    obtain ⟨v0, v1, v2, v3, v4, v5, v6, v7, v8, rfl⟩ := (ValOwn.at _ _ _ _ hv).shape
    have hs' := hb'.size
    exact ⟨v0, v1, v2, v3, v4, v5, v6, v7, v8, he, (k2.of_block (hb'.block _ hl1)).below hb2, tell_end hv (below_trans (hB1.trans (hb'.mono hs0)) hb2) (by omega) (by omega)⟩
  clear hW0 k1 hb1
  rcases hq with ⟨xs, xa, xc, vs, hrow, rfl, hto⟩ | ⟨hrow, why, rfl⟩
  · have hcall := hide (H.out W0.heap.size xs xa xc vs w1 hrow hto hs0 hs1 hg1)
    have HR := hide hrow
    clear hto H hrow
    go_wp2_with fail
    refine Calls.mono hcall.out ?_
    rintro en w2 ⟨hb2, hq⟩
    clear hcall
    have hz2 := hb2.size
    have h00 : 0 < W0.heap.size := Nat.lt_of_lt_of_le hg.lt hs0
    have hg2 : ErrType w2 := (hb2.cell (p := ⟨0, 0, none⟩) h00).trans hg1
    rcases hq with ⟨x, u, hx, rfl, hu⟩ | ⟨hx, why, rfl⟩
    · obtain ⟨T, u', rfl⟩ := hu.iface
      have hT := hide (rowTell_some HR.out hx)
      have hcall := hide (told_tree e _ x _ w2 hu (fun b hb => hb.2))
      clear hx hu
      go_wp2_with fail
      refine Calls.mono hcall.out ?_
      intro en w3 hq
      obtain ⟨v0, v1, v2, v3, v4, v5, v6, v7, v8, rfl, k3, hF⟩ := (hfin w2 hb2 _ _).out en w3 hq
      have HF := hide hF
      obtain ⟨y0, y1, y2, y3, y4⟩ := k3.cell
      have yf := k3.frozen
      clear hF hq hfin hcall k3
      go_wp2_with fail
      refine bodyPost_ret (v := .tuple #[.agg #[.int .i64 v0, .int .i64 v1, .string v2, .slice v3 v4 v5, .slice v6 v7 v8], .bool (okT (e + 1) x)]) (by simp [results, Tryz.results64, go_sem, y0, y1, y2, y3, y4]) rfl ⟨_, by rw [hT.out], by rw [hT.out]; exact (HF.out _ rfl).1, (HF.out _ rfl).2⟩
    · have hT := hide (rowTell_fault HR.out hx)
      have hcall := hide (told_fault e .nilIface why w2 hg2)
      unfold faultV
      clear hx
      go_wp2_with fail
      refine Calls.mono hcall.out ?_
      intro en w3 hq
      obtain ⟨v0, v1, v2, v3, v4, v5, v6, v7, v8, rfl, k3, hF⟩ := (hfin w2 hb2 _ _).out en w3 hq
      have HF := hide hF
      obtain ⟨y0, y1, y2, y3, y4⟩ := k3.cell
      have yf := k3.frozen
      clear hF hq hfin hcall k3
      go_wp2_with fail
      refine bodyPost_ret (v := .tuple #[.agg #[.int .i64 v0, .int .i64 v1, .string v2, .slice v3 v4 v5, .slice v6 v7 v8], .bool false]) (by simp [results, Tryz.results64, go_sem, y0, y1, y2, y3, y4]) rfl ⟨_, by rw [hT.out], by rw [hT.out]; exact (HF.out _ rfl).1, (HF.out _ rfl).2⟩
  · have hT := hide (rowTell_none (f := f) hrow)
    have hcall := hide (told_fault e .nilIface why w1 hg1)
    unfold faultV
    clear hrow H
    go_wp2_with fail
    refine Calls.mono hcall.out ?_
    intro en w2 hq
    obtain ⟨v0, v1, v2, v3, v4, v5, v6, v7, v8, rfl, k3, hF⟩ := (hfin w1 (Below.refl _ _) _ _).out en w2 hq
    have HF := hide hF
    obtain ⟨y0, y1, y2, y3, y4⟩ := k3.cell
    have yf := k3.frozen
    clear hF hq hfin hcall k3
    go_wp2_with fail
    refine bodyPost_ret (v := .tuple #[.agg #[.int .i64 v0, .int .i64 v1, .string v2, .slice v3 v4 v5, .slice v6 v7 v8], .bool false]) (by simp [results, Tryz.results64, go_sem, y0, y1, y2, y3, y4]) rfl ⟨_, by rw [hT.out], by rw [hT.out]; exact (HF.out _ rfl).1, (HF.out _ rfl).2⟩
end Go.Proofs.YtmibjmipndffmaaGreatDoor
