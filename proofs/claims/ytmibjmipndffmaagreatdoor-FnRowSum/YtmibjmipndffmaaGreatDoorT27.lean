/- Texts of the proof, put together by program: WAddS. -/
import Derived.Test.YtmibjmipndffmaaGreatDoorT26
/- PartAdd of the model. -/
namespace Go.Proofs.YtmibjmipndffmaaGreatDoor
open Go.RowKit Go.Deep

set_option maxRecDepth 100000 in
set_option maxHeartbeats 8000000 in
theorem specPartAdd_own (d : Nat) (S : Nat → Prop) (a : Tr (d + 2)) (va : Value) (S2 : Nat → Prop) (b : Tr (d + 2)) (vb : Value) (w : World) (hv : ValAt S w (d + 2) a va) (hS : Within S w) (hx : ValAt S2 w (d + 2) b vb) (hS2 : Within S2 w) (hsm : (nodes (d + 2) a : Int) ≤ 4194304) (hsx : (nodes (d + 2) b : Int) ≤ 4194304) :
    Calls Tryz.prog 67 #[va, vb] w (TellQ (d + 1) (partAddT (d + 1) a b).1 (partAddT (d + 1) a b).2 w) := by
  have hv0 := hv
  have hx0 := hx
  obtain ⟨vk, vl, rfl, i1, i2, i3, hk, hl⟩ := hv
  obtain ⟨ak, ck, rfl, hkl⟩ := hk.open'
  obtain ⟨al, cl, rfl, hll⟩ := hl.open'
  obtain ⟨vk', vl', rfl, j1, j2, j3, hk', hl'⟩ := hx
  obtain ⟨bk, dk, rfl, hkl'⟩ := hk'.open'
  obtain ⟨bl, dl, rfl, hll'⟩ := hl'.open'

  obtain ⟨k0, k1, k2, hW0, hsz0⟩ := laid3 w 26 26 26 (.int .i64 a.kind) (.int .i64 a.num) (.string a.str) (.slice ak a.keys.length ck) (.slice al a.list.length cl) (.int .i64 b.kind) (.int .i64 b.num) (.string b.str) (.slice bk b.keys.length dk) (.slice bl b.list.length dl) (.int .i64 0) (.int .i64 0) (.string { data := #[] }) (.slice none 0 0) (.slice none 0 0)
  obtain ⟨W0, hW⟩ : ∃ W0, W0 = ((w.alloc (.cells #[.int .i64 a.kind, .int .i64 a.num, .string a.str, .slice ak a.keys.length ck, .slice al a.list.length cl] 26)).alloc (.cells #[.int .i64 b.kind, .int .i64 b.num, .string b.str, .slice bk b.keys.length dk, .slice bl b.list.length dl] 26)).alloc (.cells #[.int .i64 0, .int .i64 0, .string { data := #[] }, .slice none 0 0, .slice none 0 0] 26) := ⟨_, rfl⟩
  rw [← hW] at k0 k1 k2 hW0 hsz0
  have HW := hide hW
  have HSZ := hide hsz0
  clear hW hk hl hsz0
  go_enter Tryz.func67, Tryz.ntmps67
  go_wp2_with fail
  rw [← HW.out]
  clear HW
  refine (specValOk_any (d + 2) S a _ W0 (hv0.same (hS.same hW0)) (hS.later hW0.size) hsm).mono ?_
  rintro e w1 ⟨rfl, hb1⟩
  replace k0 := k0.below hb1
  replace k1 := k1.below hb1
  replace k2 := k2.below hb1
  have hB1 := below_trans hW0 hb1
  have hlt : w.heap.size + 1 + 1 < w1.heap.size := k2.lt
  clear hb1 hW0
  have hno : ∀ wn, Below w.heap.size w wn → Hid (∀ wF, wF = set5 wn (w.heap.size + 1 + 1) 0 (.int .i64 0) (.int .i64 0) (.string { data := #[] }) (.slice none 0 0) (.slice none 0 0) → Below w.heap.size w wF) := by
    intro wn hn wF hF
    rw [hF]
    exact below_set5 hn (by omega) _ _ _ _ _ _
  cases hf : okT (d + 2) a with
  | false =>
    have hz : Hid (partAddT (d + 1) a b = (zeroT (d + 1), false)) := add_bad (Or.inl hf)
    have HN := hno w1 hB1
    obtain ⟨y0, y1, y2, y3, y4⟩ := k2.cell
    have yf := k2.frozen
    clear k0 k1 k2 hB1 hv0 hx0 hno hk' hl'
    go_wp2_with fail
    rw [hz.out]
    refine bodyPost_ret (v := .tuple #[zeroVal, .bool false]) (by simp [results, Tryz.results67, go_sem, zeroVal, y0, y1, y2, y3, y4]; rfl) rfl ⟨_, rfl, zeroVal_own (d + 1) _ _, HN.out _ rfl⟩
  | true =>
    obtain ⟨x0, x1, x2, x3, x4⟩ := k1.cell
    go_wp2_with fail
    refine (specValOk_any (d + 2) S2 b _ w1 (hx0.same (hS2.same hB1)) (hS2.later hB1.size) hsx).mono ?_
    rintro e w2 ⟨rfl, hb2⟩
    replace k0 := k0.below hb2
    replace k1 := k1.below hb2
    replace k2 := k2.below hb2
    have hB2 := below_trans hB1 hb2
    have hlt2 : w.heap.size + 1 + 1 < w2.heap.size := k2.lt
    clear hb2 hB1 x0 x1 x2 x3 x4
    obtain ⟨y0, y1, y2, y3, y4⟩ := k2.cell
    have yf := k2.frozen
    cases hfx : okT (d + 2) b with
    | false =>
      have hz : Hid (partAddT (d + 1) a b = (zeroT (d + 1), false)) := add_bad (Or.inr hfx)
      have HN := hno w2 hB2
      clear k0 k1 k2 hB2 hv0 hx0 hno hk' hl'
      go_wp2_with fail
      rw [hz.out]
      refine bodyPost_ret (v := .tuple #[zeroVal, .bool false]) (by simp [results, Tryz.results67, go_sem, zeroVal, y0, y1, y2, y3, y4]; rfl) rfl ⟨_, rfl, zeroVal_own (d + 1) _ _, HN.out _ rfl⟩
    | true =>
      have hvA := hv0.same (hS.same hB2)
      have hvB := hx0.same (hS2.same hB2)
      have hWA := hS.later hB2.size
      have hWB := hS2.later hB2.size
      clear hv0 hx0
      have HSA := hS
      clear HSA
      by_cases ka : Nd.kind a = 0
      · have q0 : (a.kind == 0) = true := by simpa using ka
        have hR : Hid (partAddT (d + 1) a b = (b, true)) := add_some hf hfx (sum_left ka) |>.trans (by unfold toldT; rw [if_pos hfx, hfx])
        have hcall := hide (l1Copy_any (d + 2) S2 b _ w2 hvB hWB (by have := wtT_ok hfx; omega))
        obtain ⟨x0, x1, x2, x3, x4⟩ := k0.cell
        obtain ⟨z0, z1, z2, z3, z4⟩ := k1.cell
        have K2 := hide k2
        clear k0 k1 hk' hl' hno hvA hvB k2 y0 y1 y2 y3 y4 yf
        go_wp2_with fail
        refine Calls.mono hcall.out ?_
        rintro e w3 ⟨r, rfl, hr, hb3⟩
        obtain ⟨r0, r1, r2, r3, r4, r5, r6, r7, r8, rfl⟩ := (ValOwn.at _ _ _ _ hr).shape
        have HF := hide (tell_end hr (below_trans hB2 hb3) (by omega) hlt2)
        have k3 := K2.out.below hb3
        obtain ⟨y0, y1, y2, y3, y4⟩ := k3.cell
        have yf := k3.frozen
        clear hr hb3 k3 hcall x0 x1 x2 x3 x4 z0 z1 z2 z3 z4
        go_wp2_with fail
        rw [hR.out]
        exact bodyPost_ret (v := .tuple #[.agg #[.int .i64 r0, .int .i64 r1, .string r2, .slice r3 r4 r5, .slice r6 r7 r8], .bool true]) (by simp [results, Tryz.results67, go_sem, y0, y1, y2, y3, y4]) rfl ⟨_, rfl, (HF.out _ rfl).1, (HF.out _ rfl).2⟩
      have na : (a.kind == 0) = false := by simpa using ka
      by_cases kb : Nd.kind b = 0
      · have q0 : (b.kind == 0) = true := by simpa using kb
        have hR : Hid (partAddT (d + 1) a b = (a, true)) := add_some hf hfx (sum_right ka kb) |>.trans (by unfold toldT; rw [if_pos hf, hf])
        have hcall := hide (l1Copy_any (d + 2) S a _ w2 hvA hWA (by have := wtT_ok hf; omega))
        obtain ⟨x0, x1, x2, x3, x4⟩ := k0.cell
        obtain ⟨z0, z1, z2, z3, z4⟩ := k1.cell
        have K2 := hide k2
        clear k0 k1 hk' hl' hno hvA hvB k2 y0 y1 y2 y3 y4 yf
        go_wp2_with fail
        refine Calls.mono hcall.out ?_
        rintro e w3 ⟨r, rfl, hr, hb3⟩
        obtain ⟨r0, r1, r2, r3, r4, r5, r6, r7, r8, rfl⟩ := (ValOwn.at _ _ _ _ hr).shape
        have HF := hide (tell_end hr (below_trans hB2 hb3) (by omega) hlt2)
        have k3 := K2.out.below hb3
        obtain ⟨y0, y1, y2, y3, y4⟩ := k3.cell
        have yf := k3.frozen
        clear hr hb3 k3 hcall x0 x1 x2 x3 x4 z0 z1 z2 z3 z4
        go_wp2_with fail
        rw [hR.out]
        exact bodyPost_ret (v := .tuple #[.agg #[.int .i64 r0, .int .i64 r1, .string r2, .slice r3 r4 r5, .slice r6 r7 r8], .bool true]) (by simp [results, Tryz.results67, go_sem, y0, y1, y2, y3, y4]) rfl ⟨_, rfl, (HF.out _ rfl).1, (HF.out _ rfl).2⟩
      have nb : (b.kind == 0) = false := by simpa using kb
      by_cases hkk : Nd.kind a ≠ Nd.kind b
      · have hz : Hid (partAddT (d + 1) a b = (zeroT (d + 1), false)) := add_none (sum_kinds ka kb (Or.inl hkk))
        have HN := hno w2 hB2
        have q1 : (a.kind != b.kind) = true := by simpa using hkk
        obtain ⟨x0, x1, x2, x3, x4⟩ := k0.cell
        obtain ⟨z0, z1, z2, z3, z4⟩ := k1.cell
        clear k0 k1 k2 hB2 hno hk' hl' hvA hvB ka kb hkk
        go_wp2_with fail
        rw [hz.out]
        refine bodyPost_ret (v := .tuple #[zeroVal, .bool false]) (by simp [results, Tryz.results67, go_sem, zeroVal, y0, y1, y2, y3, y4]; rfl) rfl ⟨_, rfl, zeroVal_own (d + 1) _ _, HN.out _ rfl⟩
      replace hkk : Nd.kind a = Nd.kind b := Decidable.of_not_not hkk
      have q1 : (a.kind != b.kind) = false := by simpa using hkk
      have hak := (okT_kinds hf).1
      by_cases h3 : Nd.kind a = 3
      · have e0 : Nd.kind a = 3 := h3
        have e1 : Nd.kind b = 3 := by omega
        have hR : Hid (partAddT (d + 1) a b = (toldT (d + 1) (Nd.mk 3 (Nd.num a + Nd.num b) ByteArray.empty [] [] : Nd (Tr (d + 1))), okT (d + 2) (Nd.mk 3 (Nd.num a + Nd.num b) ByteArray.empty [] [] : Nd (Tr (d + 1))))) := add_some hf hfx (sum_num e0 e1)
        have ba := (num_self hf e0).2
        have bb := (num_self hfx e1).2
        have hwr : wrap64 (a.num + b.num) = a.num + b.num := by unfold wrap64; omega
        clear hk' hl' hno hvB ka kb
        have hcall := hide (copy_num d S a _ w2 hvA hWA hf e0)
        rw [e0] at k0
        rw [e1] at k1
        obtain ⟨x0, x1, x2, x3, x4⟩ := k0.cell
        obtain ⟨z0, z1, z2, z3, z4⟩ := k1.cell
        have K0 := hide k0
        have K1 := hide k1
        have K2 := hide k2
        clear k0 k1 k2 y0 y1 y2 y3 y4 yf
        rw [e0] at na
        rw [e1] at nb
        rw [e0, e1] at q1
        go_wp2_with fail
        rw [e0] at hcall
        refine Calls.mono hcall.out ?_
        rintro e w3 ⟨ka, kc, la, lc, rfl, hb3⟩
        have hB3 := below_trans hB2 hb3
        have k0 := K0.out.below hb3
        have k1 := K1.out.below hb3
        have k2 := K2.out.below hb3
        have hlt3 : w.heap.size + 1 + 1 < w3.heap.size := k2.lt
        clear hcall K0 K1 K2 x0 x1 x2 x3 x4 z0 z1 z2 z3 z4
        obtain ⟨W3, hW3⟩ : ∃ W3, W3 = w3.alloc (.cells #[.int .i64 3, .int .i64 a.num, .string { data := #[] }, .slice ka 0 kc, .slice la 0 lc] 26) := ⟨_, rfl⟩
        have hA3 : Below w3.heap.size w3 W3 := by rw [hW3]; exact below_alloc1 _ _
        have HW3 := hide hW3
        have o3 : Blk5 W3 w3.heap.size 26 (.int .i64 3) (.int .i64 a.num) (.string { data := #[] }) (.slice ka 0 kc) (.slice la 0 lc) := by rw [hW3]; exact Blk5.new _ _ _ _ _ _ _
        replace k0 := k0.below hA3
        replace k1 := k1.below hA3
        replace k2 := k2.below hA3
        have hB4 := below_trans hB3 hA3
        clear hW3
        clear hvA h3
        obtain ⟨x0, x1, x2, x3, x4⟩ := k0.cell
        obtain ⟨z0, z1, z2, z3, z4⟩ := k1.cell
        obtain ⟨o0, o1, o2, p3, p4⟩ := o3.cell
        have of := o3.frozen
        have O3 := hide o3
        have K2 := hide k2
        have HB4 := hide hB4
        clear o3 k0 k1 k2 hB4 hA3 hb3
        go_upto_region 10 with fail
        rw [← HW3.out]
        go_upto_region 23 with fail
        obtain ⟨W4, hW4⟩ : ∃ W4, W4 = W3.setCell ⟨w3.heap.size, 1, none⟩ (.int .i64 (a.num + b.num)) := ⟨_, rfl⟩
        have hz4 : W4.heap.size = W3.heap.size := by rw [hW4]; exact size_setCell1 _ _ _
        have o4 : Blk5 W4 w3.heap.size 26 (.int .i64 3) (.int .i64 (a.num + b.num)) (.string { data := #[] }) (.slice ka 0 kc) (.slice la 0 lc) := by rw [hW4]; exact O3.out.set1 _
        have hs4 : ∀ c, c ≠ w3.heap.size → W4.heap[c]? = W3.heap[c]? := fun c hc => by rw [hW4]; exact Below.heap_setCell _ _ _ _ hc
        have k4 := K2.out.of_block (hs4 _ (by omega))
        have hB5 : Below w.heap.size w W4 := ⟨by rw [hW4]; exact HB4.out.os, by rw [hW4]; exact HB4.out.tape, by rw [hW4]; exact HB4.out.output, by rw [hz4]; exact HB4.out.size, fun c hc => (hs4 c (by omega)).trans (HB4.out.block c hc)⟩
        rw [← hW4]
        clear hW4 x0 x1 x2 x3 x4 z0 z1 z2 z3 z4 o0 o1 o2 p3 p4 of O3 K2 hs4
        obtain ⟨o0, o1, o2, p3, p4⟩ := o4.cell
        have hcall2 := hide (l2Told_own (d + 1) _ (Nd.mk 3 (Nd.num a + Nd.num b) ByteArray.empty [] [] : Nd (Tr (d + 1))) _ W4 (numV (d + 1) (a.num + b.num) ⟨by omega, by omega⟩ (fun _ => False) W4 ka la kc lc) (fun _ h => h.elim) (by show ((1 + 0 : Nat) : Int) ≤ _; omega))
        have hlt5 : w.heap.size + 1 + 1 < W4.heap.size := k4.lt
        have K5 := hide k4
        have HB5 := hide hB5
        clear k4 hB5
        go_wp2_with fail
        refine Calls.mono hcall2.out ?_
        rintro e w6 ⟨r, rfl, hr, hb6⟩
        obtain ⟨r0, r1, r2, r3, r4, r5, r6, r7, r8, rfl⟩ := (ValOwn.at _ _ _ _ hr).shape
        have HF := hide (tell_end hr (below_trans HB5.out hb6) (by omega) hlt5)
        have k6 := K5.out.below hb6
        obtain ⟨y0, y1, y2, y3, y4⟩ := k6.cell
        have yf := k6.frozen
        clear hr hb6 k6 hcall2 K5
        go_wp2_with fail
        rw [hR.out]
        exact bodyPost_ret (v := .tuple #[.agg #[.int .i64 r0, .int .i64 r1, .string r2, .slice r3 r4 r5, .slice r6 r7 r8], .bool (okT (d + 2) (Nd.mk 3 (Nd.num a + Nd.num b) ByteArray.empty [] [] : Nd (Tr (d + 1))))]) (by simp [results, Tryz.results67, go_sem, y0, y1, y2, y3, y4]) rfl ⟨_, rfl, (HF.out _ rfl).1, (HF.out _ rfl).2⟩
      by_cases h4 : Nd.kind a = 4
      · have e0 : Nd.kind a = 4 := h4
        have e1 : Nd.kind b = 4 := by omega
        have hR : Hid (partAddT (d + 1) a b = (toldT (d + 1) (Nd.mk 4 0 (Nd.str a ++ Nd.str b) [] [] : Nd (Tr (d + 1))), okT (d + 2) (Nd.mk 4 0 (Nd.str a ++ Nd.str b) [] [] : Nd (Tr (d + 1))))) := add_some hf hfx (sum_str e0 e1)
        have ba := (str_self hf e0).2
        have bb := (str_self hfx e1).2
        clear hk' hl' hno hvB ka kb
        have hcall := hide (copy_str d S a _ w2 hvA hWA hf e0)
        rw [e0] at k0
        rw [e1] at k1
        obtain ⟨x0, x1, x2, x3, x4⟩ := k0.cell
        obtain ⟨z0, z1, z2, z3, z4⟩ := k1.cell
        have K0 := hide k0
        have K1 := hide k1
        have K2 := hide k2
        clear k0 k1 k2 y0 y1 y2 y3 y4 yf
        rw [e0] at na
        rw [e1] at nb
        rw [e0, e1] at q1
        go_wp2_with fail
        rw [e0] at hcall
        refine Calls.mono hcall.out ?_
        rintro e w3 ⟨ka, kc, la, lc, rfl, hb3⟩
        have hB3 := below_trans hB2 hb3
        have k0 := K0.out.below hb3
        have k1 := K1.out.below hb3
        have k2 := K2.out.below hb3
        have hlt3 : w.heap.size + 1 + 1 < w3.heap.size := k2.lt
        clear hcall K0 K1 K2 x0 x1 x2 x3 x4 z0 z1 z2 z3 z4
        obtain ⟨W3, hW3⟩ : ∃ W3, W3 = w3.alloc (.cells #[.int .i64 4, .int .i64 0, .string a.str, .slice ka 0 kc, .slice la 0 lc] 26) := ⟨_, rfl⟩
        have hA3 : Below w3.heap.size w3 W3 := by rw [hW3]; exact below_alloc1 _ _
        have HW3 := hide hW3
        have o3 : Blk5 W3 w3.heap.size 26 (.int .i64 4) (.int .i64 0) (.string a.str) (.slice ka 0 kc) (.slice la 0 lc) := by rw [hW3]; exact Blk5.new _ _ _ _ _ _ _
        replace k0 := k0.below hA3
        replace k1 := k1.below hA3
        replace k2 := k2.below hA3
        have hB4 := below_trans hB3 hA3
        clear hW3
        clear hvA h4
        obtain ⟨x0, x1, x2, x3, x4⟩ := k0.cell
        obtain ⟨z0, z1, z2, z3, z4⟩ := k1.cell
        obtain ⟨o0, o1, o2, p3, p4⟩ := o3.cell
        have of := o3.frozen
        have O3 := hide o3
        have K2 := hide k2
        have HB4 := hide hB4
        clear o3 k0 k1 k2 hB4 hA3 hb3
        go_upto_region 10 with fail
        rw [← HW3.out]
        go_upto_region 23 with fail
        obtain ⟨W4, hW4⟩ : ∃ W4, W4 = W3.setCell ⟨w3.heap.size, 2, none⟩ (.string (a.str ++ b.str)) := ⟨_, rfl⟩
        have hz4 : W4.heap.size = W3.heap.size := by rw [hW4]; exact size_setCell1 _ _ _
        have o4 : Blk5 W4 w3.heap.size 26 (.int .i64 4) (.int .i64 0) (.string (a.str ++ b.str)) (.slice ka 0 kc) (.slice la 0 lc) := by rw [hW4]; exact O3.out.set2 _
        have hs4 : ∀ c, c ≠ w3.heap.size → W4.heap[c]? = W3.heap[c]? := fun c hc => by rw [hW4]; exact Below.heap_setCell _ _ _ _ hc
        have k4 := K2.out.of_block (hs4 _ (by omega))
        have hB5 : Below w.heap.size w W4 := ⟨by rw [hW4]; exact HB4.out.os, by rw [hW4]; exact HB4.out.tape, by rw [hW4]; exact HB4.out.output, by rw [hz4]; exact HB4.out.size, fun c hc => (hs4 c (by omega)).trans (HB4.out.block c hc)⟩
        rw [← hW4]
        clear hW4 x0 x1 x2 x3 x4 z0 z1 z2 z3 z4 o0 o1 o2 p3 p4 of O3 K2 hs4
        obtain ⟨o0, o1, o2, p3, p4⟩ := o4.cell
        have hcall2 := hide (l2Told_own (d + 1) _ (Nd.mk 4 0 (Nd.str a ++ Nd.str b) [] [] : Nd (Tr (d + 1))) _ W4 (strV (d + 1) (a.str ++ b.str) (by rw [ByteArray.size_append]; omega) (fun _ => False) W4 ka la kc lc) (fun _ h => h.elim) (by show ((1 + 0 : Nat) : Int) ≤ _; omega))
        have hlt5 : w.heap.size + 1 + 1 < W4.heap.size := k4.lt
        have K5 := hide k4
        have HB5 := hide hB5
        clear k4 hB5
        go_wp2_with fail
        refine Calls.mono hcall2.out ?_
        rintro e w6 ⟨r, rfl, hr, hb6⟩
        obtain ⟨r0, r1, r2, r3, r4, r5, r6, r7, r8, rfl⟩ := (ValOwn.at _ _ _ _ hr).shape
        have HF := hide (tell_end hr (below_trans HB5.out hb6) (by omega) hlt5)
        have k6 := K5.out.below hb6
        obtain ⟨y0, y1, y2, y3, y4⟩ := k6.cell
        have yf := k6.frozen
        clear hr hb6 k6 hcall2 K5
        go_wp2_with fail
        rw [hR.out]
        exact bodyPost_ret (v := .tuple #[.agg #[.int .i64 r0, .int .i64 r1, .string r2, .slice r3 r4 r5, .slice r6 r7 r8], .bool (okT (d + 2) (Nd.mk 4 0 (Nd.str a ++ Nd.str b) [] [] : Nd (Tr (d + 1))))]) (by simp [results, Tryz.results67, go_sem, y0, y1, y2, y3, y4]) rfl ⟨_, rfl, (HF.out _ rfl).1, (HF.out _ rfl).2⟩
      by_cases h5 : Nd.kind a = 5
      · have e0 : Nd.kind a = 5 := h5
        have e1 : Nd.kind b = 5 := by omega
        have hR : Hid (partAddT (d + 1) a b = (toldT (d + 1) (rowT (d + 1) (a.list ++ b.list)), okT (d + 2) (rowT (d + 1) (a.list ++ b.list)))) := add_some hf hfx (sum_row e0 e1)
        have hnod := hide (nodes_row2 hf hfx)
        have ba : a.list.length ≤ 60 := (okT_kinds hf).2.1
        have bb : b.list.length ≤ 60 := (okT_kinds hfx).2.1
        have hrB := hide (hl'.same (hS2.same hB2))
        clear hk' hl' hno hvB ka kb
        have hcall := hide (copy_row d S a _ w2 hvA hWA hf e0)
        rw [e0] at k0
        rw [e1] at k1
        obtain ⟨x0, x1, x2, x3, x4⟩ := k0.cell
        obtain ⟨z0, z1, z2, z3, z4⟩ := k1.cell
        have K0 := hide k0
        have K1 := hide k1
        have K2 := hide k2
        clear k0 k1 k2 y0 y1 y2 y3 y4 yf
        rw [e0] at na
        rw [e1] at nb
        rw [e0, e1] at q1
        go_wp2_with fail
        rw [e0] at hcall
        refine Calls.mono hcall.out ?_
        rintro e w3 ⟨ka, kc, la, lc, N, vs, rfl, hto, hN1, hN2, hb3⟩
        have hB3 := below_trans hB2 hb3
        have k0 := K0.out.below hb3
        have k1 := K1.out.below hb3
        have k2 := K2.out.below hb3
        have hlt3 : w.heap.size + 1 + 1 < w3.heap.size := k2.lt
        clear hcall K0 K1 K2 x0 x1 x2 x3 x4 z0 z1 z2 z3 z4
        obtain ⟨W3, hW3⟩ : ∃ W3, W3 = w3.alloc (.cells #[.int .i64 5, .int .i64 0, .string { data := #[] }, .slice ka 0 kc, .slice la a.list.length lc] 26) := ⟨_, rfl⟩
        have hA3 : Below w3.heap.size w3 W3 := by rw [hW3]; exact below_alloc1 _ _
        have HW3 := hide hW3
        have o3 : Blk5 W3 w3.heap.size 26 (.int .i64 5) (.int .i64 0) (.string { data := #[] }) (.slice ka 0 kc) (.slice la a.list.length lc) := by rw [hW3]; exact Blk5.new _ _ _ _ _ _ _
        replace k0 := k0.below hA3
        replace k1 := k1.below hA3
        replace k2 := k2.below hA3
        have hB4 := below_trans hB3 hA3
        clear hW3
        clear hvA h5
        have hg : ∀ g, (Value.slice la a.list.length lc).ownBlock = some g → N ≤ g ∧ g < w3.heap.size := fun g hg => hto.1.lt g hg
        have hz3 : W3.heap.size = w3.heap.size + 1 := by rw [HW3.out]; simp
        have hto3 : VTo (fun c => (w2.heap.size ≤ c ∧ c < w3.heap.size ∧ some c ≠ (Value.slice la a.list.length lc).ownBlock) ∨ S2 c) N W3 (.slice la a.list.length lc) a.list vs := by
          have h1 := hto.moved (fun c hc => hA3.block c hc.2.1) (fun g hg' => hA3.block g (hg g hg').2)
          exact ⟨h1.1, fun j x hx => by obtain ⟨c0, c1, c2, c3, c4, e0, e1, e2, e3, e4, hvx⟩ := h1.2 j x hx; exact ⟨c0, c1, c2, c3, c4, e0, e1, e2, e3, e4, hvx.mono (fun c hc => Or.inl hc)⟩⟩
        have hb23 : Below w2.heap.size w2 W3 := below_trans hb3 hA3
        have hrow3 : RowAt (fun c => (w2.heap.size ≤ c ∧ c < w3.heap.size ∧ some c ≠ (Value.slice la a.list.length lc).ownBlock) ∨ S2 c) W3 (ValAt (fun c => (w2.heap.size ≤ c ∧ c < w3.heap.size ∧ some c ≠ (Value.slice la a.list.length lc).ownBlock) ∨ S2 c) W3 (d + 1)) (.slice bl b.list.length dl) b.list :=
          hrB.out.moved (fun c hc => hb23.block c (hWB c hc)) (fun c hc => Or.inr hc) (fun x u hxu => ValAt.moved (fun c hc => hb23.block c (hWB c hc)) (fun c hc => Or.inr hc) (d + 1) x u hxu)
        have hrun := hide (fun ty => run_append_onto_valsW hto3 (fun c hc => by
          rcases hc with hc | hc
          · exact ⟨by have := hc.2.1; omega, hc.2.2⟩
          · exact ⟨by have := hWB c hc; have := hb23.size; omega, fun e => by have := (hg c e.symm).1; have := hWB c hc; omega⟩) (by omega) b.list bl dl b.list.length ty rfl hrow3 (by omega))
        have hstep : Hid (∀ ty, ∃ v' w', (Builtin.append_ #[24, 24] ty #[.slice la a.list.length lc, .slice bl b.list.length dl]).run Tryz.prog W3 = .ok v' w' ∧ Hid (∃ a' c' vs', v' = .slice a' (a.list.length + b.list.length) c' ∧ VTo (fun c => (w2.heap.size ≤ c ∧ c < w3.heap.size ∧ some c ≠ (Value.slice la a.list.length lc).ownBlock) ∨ S2 c) N w' (.slice a' (a.list.length + b.list.length) c') (a.list ++ b.list) vs' ∧ W3.grownBy w' (Value.slice la a.list.length lc).ownBlock ∧ (Value.slice a' (a.list.length + b.list.length) c').ownBlock ≠ some w3.heap.size)) := by
          intro ty
          obtain ⟨lv', w', hr, ⟨vs', hv'⟩, hgr, ⟨a', c', rfl⟩, hat⟩ := hrun.out ty
          refine ⟨_, w', hr, a', c', vs', rfl, hv', hgr, ?_⟩
          rcases hat with e | e
          · rw [e]
            intro e2
            have := (hg _ e2).2
            omega
          · rw [e, hz3]
            intro e2
            have := Option.some.inj e2
            omega
        obtain ⟨x0, x1, x2, x3, x4⟩ := k0.cell
        obtain ⟨z0, z1, z2, z3, z4⟩ := k1.cell
        obtain ⟨o0, o1, o2, p3, p4⟩ := o3.cell
        have of := o3.frozen
        have O3 := hide o3
        have K2 := hide k2
        have HB4 := hide hB4
        have HG := hide hg
        have HBS := hide (hB2.size)
        have HNN := hide (And.intro hN1 hN2)
        clear o3 k0 k1 k2 hB4 hA3 hb3 hto3 hrow3 hrun hto hb23 hrB hg hN1 hN2
        go_upto_region 10 with fail
        rw [← HW3.out]
        go_wp2_with (at_builtin; refine wpList_append_run (fun v' w' => Hid (∃ a' c' vs', v' = .slice a' (a.list.length + b.list.length) c' ∧ VTo (fun c => (w2.heap.size ≤ c ∧ c < w3.heap.size ∧ some c ≠ (Value.slice la a.list.length lc).ownBlock) ∨ S2 c) N w' (.slice a' (a.list.length + b.list.length) c') (a.list ++ b.list) vs' ∧ W3.grownBy w' (Value.slice la a.list.length lc).ownBlock ∧ (Value.slice a' (a.list.length + b.list.length) c').ownBlock ≠ some w3.heap.size)) rfl _ _ 24 rfl (.slice la a.list.length lc) (.slice bl b.list.length dl) rfl rfl (hstep.out 24) ?_)
        rintro v' w4 hph
        obtain ⟨a', c', rfl, ⟨vs', hv'⟩, hgr, hne⟩ := hph.out
        clear hph hstep
        have hgo : ∀ g, some g = (Value.slice la a.list.length lc).ownBlock → N ≤ g ∧ g < w3.heap.size := fun g e => HG.out g e.symm
        have hN1 := HNN.out.1
        have hN2 := HNN.out.2
        have hBz := HBS.out
        have o4w : Blk5 w4 w3.heap.size 26 (.int .i64 5) (.int .i64 0) (.string { data := #[] }) (.slice ka 0 kc) (.slice la a.list.length lc) := O3.out.of_block (hgr.block _ (by omega) (fun e => by have := (hgo _ e).2; omega))
        have k4w := K2.out.of_block (hgr.block _ (by omega) (fun e => by have := (hgo _ e).1; omega))
        have HB4w : Below w.heap.size w w4 := ⟨hgr.os.trans HB4.out.os, hgr.tape.trans HB4.out.tape, hgr.output.trans HB4.out.output, Nat.le_trans HB4.out.size hgr.size, fun c hc => (hgr.block c (by omega) (fun e => by have := (hgo _ e).1; omega)).trans (HB4.out.block c hc)⟩
        have hgz := hgr.size
        obtain ⟨q0, q1', q2, q3, q4⟩ := o4w.cell
        have qf := o4w.frozen
        have O4 := hide o4w
        have K4 := hide k4w
        have HB4W := hide HB4w
        have HV := hide hv'
        clear o4w k4w HB4w hv' hgr hgo x0 x1 x2 x3 x4 z0 z1 z2 z3 z4 o0 o1 o2 p3 p4 of O3 K2 HB4
        go_upto_region 23 with fail
        obtain ⟨W4, hW4⟩ : ∃ W4, W4 = w4.setCell ⟨w3.heap.size, 4, none⟩ (.slice a' (a.list.length + b.list.length) c') := ⟨_, rfl⟩
        have hz4 : W4.heap.size = w4.heap.size := by rw [hW4]; exact size_setCell1 _ _ _
        have o4 : Blk5 W4 w3.heap.size 26 (.int .i64 5) (.int .i64 0) (.string { data := #[] }) (.slice ka 0 kc) (.slice a' (a.list.length + b.list.length) c') := by rw [hW4]; exact O4.out.set4 _
        have hs4 : ∀ c, c ≠ w3.heap.size → W4.heap[c]? = w4.heap[c]? := fun c hc => by rw [hW4]; exact Below.heap_setCell _ _ _ _ hc
        have k4 := K4.out.of_block (hs4 _ (by omega))
        have hB5 : Below w.heap.size w W4 := ⟨by rw [hW4]; exact HB4W.out.os, by rw [hW4]; exact HB4W.out.tape, by rw [hW4]; exact HB4W.out.output, by rw [hz4]; exact HB4W.out.size, fun c hc => (hs4 c (by omega)).trans (HB4W.out.block c hc)⟩
        have hvW := rowV (HV.out.moved (fun c hc => hs4 c (by
          rcases hc with hc | hc
          · have := hc.2.1; omega
          · have := hWB c hc; omega)) (fun g hg => hs4 g (fun e => hne (by rw [hg, e])))) (by rw [List.length_append]; omega) ka kc
        have hwi : Within (fun c => ((w2.heap.size ≤ c ∧ c < w3.heap.size ∧ some c ≠ (Value.slice la a.list.length lc).ownBlock) ∨ S2 c) ∨ (N ≤ c ∧ c < W4.heap.size)) W4 := fun c hc => by
          rcases hc with (hc | hc) | hc
          · have := hc.2.1; omega
          · have := hWB c hc; omega
          · exact hc.2
        rw [← hW4]
        clear hW4 O4 K4 HB4W HV hs4 q0 q1' q2 q3 q4 qf hne
        obtain ⟨o0, o1, o2, p3, p4⟩ := o4.cell
        have hcall2 := hide (l2Told_own (d + 1) _ (rowT (d + 1) (a.list ++ b.list)) _ W4 hvW hwi hnod.out)
        have hlt5 : w.heap.size + 1 + 1 < W4.heap.size := k4.lt
        have K5 := hide k4
        have HB5 := hide hB5
        clear k4 hB5
        go_wp2_with fail
        refine Calls.mono hcall2.out ?_
        rintro e w6 ⟨r, rfl, hr, hb6⟩
        obtain ⟨r0, r1, r2, r3, r4, r5, r6, r7, r8, rfl⟩ := (ValOwn.at _ _ _ _ hr).shape
        have HF := hide (tell_end hr (below_trans HB5.out hb6) (by omega) hlt5)
        have k6 := K5.out.below hb6
        obtain ⟨y0, y1, y2, y3, y4⟩ := k6.cell
        have yf := k6.frozen
        clear hr hb6 k6 hcall2 K5
        go_wp2_with fail
        rw [hR.out]
        exact bodyPost_ret (v := .tuple #[.agg #[.int .i64 r0, .int .i64 r1, .string r2, .slice r3 r4 r5, .slice r6 r7 r8], .bool (okT (d + 2) (rowT (d + 1) (a.list ++ b.list)))]) (by simp [results, Tryz.results67, go_sem, y0, y1, y2, y3, y4]) rfl ⟨_, rfl, (HF.out _ rfl).1, (HF.out _ rfl).2⟩
      by_cases h6 : Nd.kind a = 6
      · have e0 : Nd.kind a = 6 := h6
        have e1 : Nd.kind b = 6 := by omega
        have hR : Hid (partAddT (d + 1) a b = (toldT (d + 1) (mapT (d + 1) (putAll (pairsT a) (pairsT b))), okT (d + 2) (mapT (d + 1) (putAll (pairsT a) (pairsT b))))) := add_some hf hfx (sum_map e0 e1)
        have hacc0 := hide (accOk_pairs hf e0)
        have hkl2 := (okT_maps hfx e1).1
        have hk60 : b.list.length ≤ 60 := (okT_kinds hfx).2.1
        have hkok := hide (fun s hs => keysB_strOk _ none (okT_maps hfx e1).2 s hs)
        have hlok := hide (fun (x : Tr (d + 1)) (hx : x ∈ b.list) => okT_part hfx hx)
        have hkB := hide (hk'.same (hS2.same hB2))
        have hrB := hide (hl'.same (hS2.same hB2))
        have HKL := hide hkl2
        clear hk' hl' hno hvB ka kb hkl2
        have hcall := hide (copy_map d S a _ w2 hvA hWA hf e0)
        rw [e0] at k0
        rw [e1] at k1
        obtain ⟨x0, x1, x2, x3, x4⟩ := k0.cell
        obtain ⟨z0, z1, z2, z3, z4⟩ := k1.cell
        have K0 := hide k0
        have K1 := hide k1
        have K2 := hide k2
        clear k0 k1 k2 y0 y1 y2 y3 y4 yf
        rw [e0] at na
        rw [e1] at nb
        rw [e0, e1] at q1
        go_wp2_with fail
        rw [e0] at hcall
        refine Calls.mono hcall.out ?_
        rintro e w3 ⟨ka, kn, kc, la, ln, lc, rfl, hva, hb3⟩
        have hB3 := below_trans hB2 hb3
        have k0 := K0.out.below hb3
        have k1 := K1.out.below hb3
        have k2 := K2.out.below hb3
        have hlt3 : w.heap.size + 1 + 1 < w3.heap.size := k2.lt
        clear hcall K0 K1 K2 x0 x1 x2 x3 x4 z0 z1 z2 z3 z4
        obtain ⟨W3, hW3⟩ : ∃ W3, W3 = w3.alloc (.cells #[.int .i64 6, .int .i64 0, .string { data := #[] }, .slice ka kn kc, .slice la ln lc] 26) := ⟨_, rfl⟩
        have hA3 : Below w3.heap.size w3 W3 := by rw [hW3]; exact below_alloc1 _ _
        have HW3 := hide hW3
        have o3 : Blk5 W3 w3.heap.size 26 (.int .i64 6) (.int .i64 0) (.string { data := #[] }) (.slice ka kn kc) (.slice la ln lc) := by rw [hW3]; exact Blk5.new _ _ _ _ _ _ _
        replace k0 := k0.below hA3
        replace k1 := k1.below hA3
        replace k2 := k2.below hA3
        have hB4 := below_trans hB3 hA3
        clear hW3
        clear hvA h6
        have hz3 : W3.heap.size = w3.heap.size + 1 := by rw [HW3.out]; simp
        have hst : Hid (OutAt d (fun c => Fresh w2 w3 c ∨ S2 c) w3.heap.size w3 W3 (pairsT a) (.slice ka kn kc) (.slice la ln lc)) :=
          ⟨o3, ValAt.moved (fun c hc => hA3.block c hc.2) (fun c hc => Or.inl (Or.inl hc)) _ _ _ hva, hA3⟩
        have hSS : ∀ c, (Fresh w2 w3 c ∨ S2 c) → c < w3.heap.size := fun c hc => by
          rcases hc with hc | hc
          · exact hc.2
          · have := hWB c hc; have := hb3.size; omega
        have hK1 := hide k1
        have hK2 := hide k2
        have hb3' := hide hb3
        have hB3' := hide hB3
        have hA3' := hide hA3
        have hk1l : w.heap.size + 1 < w3.heap.size := by omega
        obtain ⟨z0, z1, z2, z3, z4⟩ := k1.cell
        obtain ⟨x0, x1, x2, x3, x4⟩ := k0.cell
        clear k0 k1 k2 o3 hA3 hb3 hB4 hB3 hva
        go_upto_region 10 with fail
        rw [← HW3.out]
        go_wp2_with fail
        go_loopw [7] (fun i wr => ∃ (m : Nat) (kv lv : Value), m ≤ b.keys.length ∧ i = .int .i64 (m : Int) ∧ Hid (AccOk (60 + m) (putAll (pairsT a) ((pairsT b).take m))) ∧ Hid (OutAt d (fun c => Fresh w2 w3 c ∨ S2 c) w3.heap.size w3 wr (putAll (pairsT a) ((pairsT b).take m)) kv lv)) (fun i _ => b.keys.length - (intOf i).toNat)
        case atStart => exact ⟨0, _, _, Nat.zero_le _, rfl, hacc0.out, hst⟩
        case round =>
          clear hst z0 z1 z2 z3 z4 x0 x1 x2 x3 x4
          obtain ⟨m, kv, lv, hm, rfl, hacc, hout⟩ := hrel
          have hbel := hout.out.below
          have hsz : w3.heap.size < wr.heap.size := hout.out.blk.lt
          have hz23 := hb3'.out.size
          have kb1 := hK1.out.of_block ((hbel.block _ hk1l).trans (hA3'.out.block _ hk1l).symm)
          have kb2 := hK2.out.of_block ((hbel.block _ hlt3).trans (hA3'.out.block _ hlt3).symm)
          obtain ⟨z0, z1, z2, z3, z4⟩ := kb1.cell
          obtain ⟨ka', kn', kc', la', ln', lc', rfl, rfl⟩ := hout.out.shape
          obtain ⟨o0, o1, o2, p3, p4⟩ := hout.out.blk.cell
          have hS2r : Same S2 w2 wr := fun c hc => (hbel.block c (by have := hWB c hc; omega)).trans (hb3'.out.block c (hWB c hc))
          by_cases hmt : m < b.keys.length
          · have hmi : (m : Int) < (b.keys.length : Int) := by omega
            have hmi2 : (m : Int) < (b.list.length : Int) := by have := HKL.out; omega
            have hmt2 : m < b.list.length := by have := HKL.out; omega
            obtain ⟨eb, eo, key, rfl, heS, hkey, hksz, e0'⟩ := (hkB.out.same hS2r).cell hmt
            obtain ⟨fb, fo, y, c0, c1, c2, c3, c4, rfl, hfS, hy, f0, f1, f2, f3, f4, hval⟩ := (hrB.out.same hS2r).cell hmt2
            obtain ⟨q0', q1', q2', q3', q4', q5', q6', q7', q8', hq⟩ := hval.shape
            cases hq
            have hpm : (pairsT b)[m]? = some (key, y) := List.getElem?_zip_eq_some.2 ⟨hkey, hy⟩
            have hstp := hide (putAll_step (pairsT a) hpm)
            have hyok : okT (d + 1) y = true := hlok.out y (List.mem_of_getElem? hy)
            have hsok : strOk key = true := hkok.out key (List.mem_of_getElem? hkey)
            have hsz12 := strOk_size hsok
            have hal := hacc.out.len
            have HACC : Hid (AccOk (60 + (m + 1)) (putAll (pairsT a) ((pairsT b).take (m + 1)))) := by
              show AccOk _ _
              rw [hstp.out]
              exact hacc.out.put hsok hyok
            obtain ⟨acc, hac⟩ : ∃ acc, acc = putAll (pairsT a) ((pairsT b).take m) := ⟨_, rfl⟩
            rw [← hac] at hout hacc hstp hal
            have hfold : endP key y (((Nd.keys (mapT (d + 1) acc)).zip (Nd.list (mapT (d + 1) acc))).foldl (stepP key y) (false, [])) = putL (acc.map Prod.fst) (acc.map Prod.snd) key y := by
              have hh := foldP_put (s := key) (x := y) (p := none) (ks := acc.map Prod.fst) (xs := acc.map Prod.snd) [] (by rw [List.length_map, List.length_map]) hacc.out.good
              rw [List.nil_append] at hh
              exact hh
            have hwA : Within (fun c => (Fresh w2 w3 c ∨ S2 c) ∨ (w3.heap.size < c ∧ c < wr.heap.size)) wr.drew := fun c hc => by
              show c < wr.heap.size
              rcases hc with hc | hc
              · have := hSS c hc; omega
              · exact hc.2
            have hSd : Same S2 wr wr.drew := fun _ _ => rfl
            have hc0 := l2Put_wide (d + 1) (fun c => (Fresh w2 w3 c ∨ S2 c) ∨ (w3.heap.size < c ∧ c < wr.heap.size)) (mapT (d + 1) acc) _ key y _ wr.drew (hout.out.val.same (fun _ _ => rfl)) (hval.moved (S' := fun c => (Fresh w2 w3 c ∨ S2 c) ∨ (w3.heap.size < c ∧ c < wr.heap.size)) hSd (fun _ h => Or.inl (Or.inr h))) hwA (by show (acc.map Prod.fst).length = (acc.map Prod.snd).length; rw [List.length_map, List.length_map]) (by show (acc.map Prod.snd).length ≤ 1000; rw [List.length_map]; omega) (by omega)
            rw [hfold] at hc0
            have hcall : Hid (Calls Tryz.prog 110 #[.agg #[.int .i64 6, .int .i64 0, .string { data := #[] }, .slice ka' kn' kc', .slice la' ln' lc'], .string key, .agg #[.int .i64 q0', .int .i64 q1', .string q2', .slice q3' q4' q5', .slice q6' q7' q8']] wr.drew fun e w' => ∃ v, e = .returned v ∧ (∃ kv' lv', v = .agg #[.int .i64 6, .int .i64 0, .string { data := #[] }, kv', lv'] ∧ (∃ a n c, kv' = .slice a n c) ∧ (∃ a n c, lv' = .slice a n c) ∧ Below wr.heap.size wr w' ∧ OutAt d (fun c => Fresh w2 w3 c ∨ S2 c) w3.heap.size w3 (set5 w' w3.heap.size 0 (.int .i64 6) (.int .i64 0) (.string { data := #[] }) kv' lv') (putL (acc.map Prod.fst) (acc.map Prod.snd) key y) kv' lv')) := by
              refine hc0.mono ?_
              rintro e w' ⟨u, rfl, hu, hb⟩
              have hb' : Below wr.heap.size wr w' := ⟨hb.os, hb.tape, hb.output, hb.size, hb.block⟩
              have hu' := hu
              obtain ⟨kv', lv', rfl, _, _, _, hk1, hl1⟩ := hu'
              obtain ⟨a1, c1', rfl, _⟩ := hk1.open'
              obtain ⟨a2, c2', rfl, _⟩ := hl1.open'
              exact ⟨_, rfl, _, _, rfl, ⟨_, _, _, rfl⟩, ⟨_, _, _, rfl⟩, hb', hout.out.step1 hSS hb' hu⟩
            have HOA := hide hout.out.blk
            have HNX : Hid (putL (acc.map Prod.fst) (acc.map Prod.snd) key y = putAll (pairsT a) ((pairsT b).take (m + 1))) := by
              show _ = _
              rw [hstp.out]
              rfl
            clear hc0 hfold hwA hval hpm hyok hsok hout hacc hstp hal hac kb1 kb2 hS2r hy hkey
            go_upto_region 22 with fail
            go_region_law (refine step_call_run _ 110 _ (by rfl) (by go_simp) hcall.out ?_; rintro u w5 ⟨kv', lv', rfl, ⟨ka2, kn2, kc2, rfl⟩, ⟨la2, ln2, lc2, rfl⟩, hb5, hnew⟩; have yb5 : Blk5 w5 w3.heap.size 26 (.int .i64 6) (.int .i64 0) (.string { data := #[] }) (.slice ka' kn' kc') (.slice la' ln' lc') := HOA.out.below hb5; obtain ⟨w50, w51, w52, w53, w54⟩ := yb5.cell; have w5f := yb5.frozen)
            all_goals
              have HNEW := hide hnew
              clear hnew hb5 yb5 hcall HOA
              go_wp2_with fail
              go_roundw
              case rel => exact ⟨m + 1, _, _, by omega, by go_num, HACC, by rw [← HNX.out]; exact HNEW⟩
              case measure => simp [intOf]; omega
          · obtain rfl : m = b.keys.length := by omega
            have hall : (pairsT b).take b.keys.length = pairsT b := List.take_of_length_le (by unfold pairsT; rw [List.length_zip]; omega)
            rw [hall] at hout hacc
            have hnod := hacc.out.nodes (by have := HKL.out; omega)
            have hWU : Within (fun c => (Fresh w2 w3 c ∨ S2 c) ∨ (w3.heap.size < c ∧ c < wr.heap.size)) wr := fun c hc => by
              rcases hc with hc | hc
              · have := hSS c hc; omega
              · exact hc.2
            have hB5 : Below w.heap.size w wr := below_trans hB3'.out hbel
            have hvW := hout.out.val
            have hcall2 := hide (l2Told_own (d + 1) _ (mapT (d + 1) (putAll (pairsT a) (pairsT b))) _ wr hvW hWU hnod)
            have hlt5 : w.heap.size + 1 + 1 < wr.heap.size := kb2.lt
            have K5 := hide kb2
            have HB5 := hide hB5
            clear kb2 hB5
            go_wp2_with fail
            refine Calls.mono hcall2.out ?_
            rintro e w6 ⟨r, rfl, hr, hb6⟩
            obtain ⟨r0, r1, r2, r3, r4, r5, r6, r7, r8, rfl⟩ := (ValOwn.at _ _ _ _ hr).shape
            have HF := hide (tell_end hr (below_trans HB5.out hb6) (by omega) hlt5)
            have k6 := K5.out.below hb6
            obtain ⟨y0, y1, y2, y3, y4⟩ := k6.cell
            have yf := k6.frozen
            clear hr hb6 k6 hcall2 K5
            go_wp2_with fail
            rw [hR.out]
            exact bodyPost_ret (v := .tuple #[.agg #[.int .i64 r0, .int .i64 r1, .string r2, .slice r3 r4 r5, .slice r6 r7 r8], .bool (okT (d + 2) (mapT (d + 1) (putAll (pairsT a) (pairsT b))))]) (by simp [results, Tryz.results67, go_sem, y0, y1, y2, y3, y4]) rfl ⟨_, rfl, (HF.out _ rfl).1, (HF.out _ rfl).2⟩
      have hz : Hid (partAddT (d + 1) a b = (zeroT (d + 1), false)) := add_none (sum_kinds ka kb (Or.inr (by omega)))
      have HN := fun wn hn => hno wn hn
      have hcall := hide (l1Copy_any (d + 2) S a _ w2 hvA hWA (by have := wtT_ok hf; omega))
      obtain ⟨x0, x1, x2, x3, x4⟩ := k0.cell
      obtain ⟨z0, z1, z2, z3, z4⟩ := k1.cell
      have r3 : (a.kind == 3) = false := by simpa using h3
      have r4 : (a.kind == 4) = false := by simpa using h4
      have r5 : (a.kind == 5) = false := by simpa using h5
      have r6 : (a.kind == 6) = false := by simpa using h6
      have K0 := hide k0
      have K2 := hide k2
      clear k0 k1 k2 y0 y1 y2 y3 y4 yf hk' hl' hvA hvB ka kb hkk h3 h4 h5 h6 hno
      go_wp2_with fail
      refine Calls.mono hcall.out ?_
      rintro e w3 ⟨r, rfl, hr, hb3⟩
      replace hr := ValOwn.at (d + 2) _ a _ hr
      obtain ⟨r0, r1, r2, r3, r4, r5, r6, r7, r8, rfl⟩ := hr.shape
      have k0 := (K0.out.below hb3).alloc (.cells #[.int .i64 r0, .int .i64 r1, .string r2, .slice r3 r4 r5, .slice r6 r7 r8] 26)
      have k2 := (K2.out.below hb3).alloc (.cells #[.int .i64 r0, .int .i64 r1, .string r2, .slice r3 r4 r5, .slice r6 r7 r8] 26)
      have HNF := HN _ (below_trans (below_trans hB2 hb3) (below_alloc1 w3 (.cells #[.int .i64 r0, .int .i64 r1, .string r2, .slice r3 r4 r5, .slice r6 r7 r8] 26)))
      obtain ⟨y0, y1, y2, y3, y4⟩ := k2.cell
      have yf := k2.frozen
      clear x0 x1 x2 x3 x4 z0 z1 z2 z3 z4
      obtain ⟨x0, x1, x2, x3, x4⟩ := k0.cell
      clear hr hb3 k0 k2 hcall K0 K2 HN
      go_wp2_with fail
      rw [hz.out]
      refine bodyPost_ret (v := .tuple #[zeroVal, .bool false]) (by simp [results, Tryz.results67, go_sem, zeroVal, y0, y1, y2, y3, y4]; rfl) rfl ⟨_, rfl, zeroVal_own (d + 1) _ _, HNF.out _ rfl⟩
end Go.Proofs.YtmibjmipndffmaaGreatDoor
