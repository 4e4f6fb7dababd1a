/- Texts of the proof, put together by program: WKeyS. -/
import Derived.Test.YtgjahnkldobphaaGreatDoorP27
import Derived.Test.YtgjahnkldobphaaGreatDoorP7
/- PartKeys of the model. -/
namespace Go.Proofs.YtgjahnkldobphaaGreatDoor
open Go.RowKit Go.Deep

theorem row_sliceK {w : World} {base : Nat} {e : TypeId} {size n : Nat} {v : Value} {xs : List Value} (h : w.ownsRow base e size v n xs) : ∃ a m c, v = .slice a m c := by
  rcases h.2 with ⟨rfl, _⟩ | ⟨g, cap, cur, rfl, _⟩
  · exact ⟨_, _, _, rfl⟩
  · exact ⟨_, _, _, rfl⟩

set_option maxRecDepth 100000 in
set_option maxHeartbeats 4000000 in
theorem specPartKeys_any (d : Nat) (S : Nat → Prop) (t : Tr (d + 2)) (v : Value) (w : World) (hv : ValAt S w (d + 2) t v) (hS : Within S w) (hsm : (nodes (d + 2) t : Int) ≤ 4194304) :
    Calls Tryz.prog 24 #[v] w (SpecQ (d + 1) (partKeysT d t).1 (partKeysT d t).2 w) := by
  have hv0 := hv
  obtain ⟨vk, vl, rfl, i1, i2, i3, hk, hl⟩ := hv
  obtain ⟨ak, ck, rfl, hkl⟩ := hk.open'
  obtain ⟨al, cl, rfl, hll⟩ := hl.open'
  obtain ⟨W0, hW⟩ : ∃ W0, W0 = (w.alloc (.cells #[.int .i64 t.kind, .int .i64 t.num, .string t.str, .slice ak t.keys.length ck, .slice al t.list.length cl] 26)).alloc (.cells #[.int .i64 0, .int .i64 0, .string { data := #[] }, .slice none 0 0, .slice none 0 0] 26) := ⟨_, rfl⟩
  have hW0 : Below w.heap.size w W0 := by rw [hW]; exact below_trans (below_alloc1 _ _) (below_alloc1 _ _)
  have k0 : Blk5 W0 w.heap.size 26 (.int .i64 t.kind) (.int .i64 t.num) (.string t.str) (.slice ak t.keys.length ck) (.slice al t.list.length cl) := by
    rw [hW]; exact (Blk5.new w 26 _ _ _ _ _).alloc _
  have k1 : Blk5 W0 (w.heap.size + 1) 26 (.int .i64 0) (.int .i64 0) (.string { data := #[] }) (.slice none 0 0) (.slice none 0 0) := by
    have := Blk5.new (w.alloc (.cells #[.int .i64 t.kind, .int .i64 t.num, .string t.str, .slice ak t.keys.length ck, .slice al t.list.length cl] 26)) 26 (.int .i64 0) (.int .i64 0) (.string { data := #[] }) (.slice none 0 0) (.slice none 0 0)
    rw [World.size_alloc] at this
    rw [hW]
    exact this
  have HW := hide hW
  clear hW hl
  go_enter Tryz.func24, Tryz.ntmps24
  go_wp2_with fail
  rw [← HW.out]
  clear HW
  refine (specValOk_any (d + 2) S t _ W0 (hv0.same (hS.same hW0)) (hS.later hW0.size) hsm).mono ?_
  rintro e w1 ⟨rfl, hb1⟩
  replace k0 := k0.below hb1
  replace k1 := k1.below hb1
  have hB1 := below_trans hW0 hb1
  obtain ⟨x0, x1, x2, x3, x4⟩ := k0.cell
  obtain ⟨y0, y1, y2, y3, y4⟩ := k1.cell
  have yf := k1.frozen
  have hlt := k1.lt
  clear hb1 hW0 hv0
  -- nothing is told
  have hno : Hid (∀ wF, wF = set5 w1 (w.heap.size + 1) 0 (.int .i64 0) (.int .i64 0) (.string { data := #[] }) (.slice none 0 0) (.slice none 0 0) → Below w.heap.size w wF) := by
    intro wF hF
    rw [hF]
    exact below_set5 hB1 (by omega) _ _ _ _ _ _
  cases hf : okT (d + 2) t with
  | false =>
    have hz : Hid (partKeysT d t = (zeroT (d + 1), false)) := by
      show partKeysT d t = _
      rw [partKeysT, if_neg (by rw [hf]; simp)]
    clear k0 k1 hB1
    go_wp2_with fail
    rw [hz.out]
    refine bodyPost_ret (v := .tuple #[zeroVal, .bool false]) (by simp [results, Tryz.results24, go_sem, zeroVal, y0, y1, y2, y3, y4]; rfl) rfl ⟨_, rfl, zeroAt (d + 1) _ _, hno.out _ rfl⟩
  | true =>
    by_cases h5 : t.kind < 5
    · have hz : Hid (partKeysT d t = (zeroT (d + 1), false)) := by
        show partKeysT d t = _
        rw [partKeysT, if_neg (by intro h; have := h.2; omega)]
      clear k0 k1 hB1
      go_wp2_with fail
      rw [hz.out]
      refine bodyPost_ret (v := .tuple #[zeroVal, .bool false]) (by simp [results, Tryz.results24, go_sem, zeroVal, y0, y1, y2, y3, y4]; rfl) rfl ⟨_, rfl, zeroAt (d + 1) _ _, hno.out _ rfl⟩
    · have h5' : 5 ≤ t.kind := by omega
      have hz : Hid (partKeysT d t = (rowK d (keyTs d t), true)) := by
        show partKeysT d t = _
        rw [partKeysT, if_pos ⟨hf, h5'⟩]
      have hln := hide (keyTs_len hf h5')
      have hl60 : t.list.length < 60 := okT_len hf
      clear hno
      obtain ⟨wc, hwc⟩ : ∃ wc, wc = w1.alloc (.cells #[.int .i64 5, .int .i64 0, .string { data := #[] }, .slice none 0 0, .slice none 0 0] 26) := ⟨_, rfl⟩
      have hbB : Below w1.heap.size w1 wc := by rw [hwc]; exact below_alloc1 _ _
      have hTO : Hid (CopyTo (d := d + 1) wc wc (Nd.mk 5 0 ByteArray.empty [] (keyTs d t) : Nd (Tr (d + 1))) w1.heap.size (.slice none 0 0) (.slice none 0 0) 0 [] (fun _ _ => False)) := ⟨by rw [hwc]; exact Blk5.new _ _ _ _ _ _ _, ValsTo.start _ _ _, But.refl _ _⟩
      have hbc : w1.heap.size < wc.heap.size := by rw [hwc]; simp
      have HWC := hide hwc
      replace k0 := k0.below hbB
      replace k1 := k1.below hbB
      have hBc := below_trans hB1 hbB
      have hBz := hBc.size
      clear hwc hbB hB1
      go_wp2_with fail
      rw [← HWC.out]
      clear HWC x0 x1 x2 x3 x4 y0 y1 y2 y3 y4 yf
      go_loopw [5] (fun i wr => ∃ (k : Nat) (lv : Value) (vs : List Value) (P : Nat → Nat → Prop), k ≤ t.list.length ∧ i = .int .i64 (k : Int) ∧ Hid (CopyTo (d := d + 1) wc wr (Nd.mk 5 0 ByteArray.empty [] (keyTs d t) : Nd (Tr (d + 1))) w1.heap.size (.slice none 0 0) lv k vs P)) (fun i _ => t.list.length - (intOf i).toNat)
      case atStart => exact ⟨0, _, [], _, Nat.zero_le _, rfl, hTO⟩
      case round =>
        clear hTO
        obtain ⟨k, lv, vs, P, hkk, rfl, hto⟩ := hrel
        have hbu := hto.out.but
        have hrb : Below w.heap.size w wr := ⟨hbu.os.trans hBc.os, hbu.tape.trans hBc.tape, hbu.output.trans hBc.output, Nat.le_trans hBc.size hbu.size, fun j hj => (hbu.block j (Nat.lt_of_lt_of_le hj hBc.size) (fun e => by cases e; omega)).trans (hBc.block j hj)⟩
        have kbox := k0.of_block (hbu.block _ k0.lt (fun e => by have := Option.some.inj e; omega))
        have kres := k1.of_block (hbu.block _ k1.lt (fun e => by have := Option.some.inj e; omega))
        obtain ⟨x0, x1, x2, x3, x4⟩ := kbox.cell
        obtain ⟨la, ln, lc, rfl⟩ := row_sliceK hto.out.vals.own
        obtain ⟨y0, y1, y2, y3, y4⟩ := hto.out.out.cell
        have yf := hto.out.out.frozen 4
        have hbl := hto.out.out.lt
        have hNs : wc.heap.size ≤ wr.heap.size := hbu.size
        have hnb : ∀ g, (Value.slice la ln lc).ownBlock = some g → wc.heap.size ≤ g := fun g hg => (hto.out.vals.own.lt g hg).1
        obtain ⟨i0, hi, hz0, hz1, hz2⟩ := info_parts Tryz.infoVal
        by_cases hkl : k < t.list.length
        · have hki : (k : Int) < (t.list.length : Int) := by omega
          by_cases e5 : t.kind = 5
          · have q5 : (t.kind == 5) = true := by simpa using e5
            have HX : Hid ((keyTs d t)[k]? = some (numT d (k : Int))) := by
              show (keyTs d t)[k]? = _
              unfold keyTs
              rw [if_pos e5]
              exact places_at _ _ _ hkl
            have hcall := hide ((l2Num_any (k : Int) wr.drew).mono (fun e w' h => (⟨_, h.1, rfl, h.2⟩ : ∃ u, e = .returned u ∧ u = .agg #[.int .i64 3, .int .i64 (k : Int), .string ByteArray.empty, .slice none 0 0, .slice none 0 0] ∧ Below wr.drew.heap.size wr.drew w')))
            clear e5
            go_wp2_with fail
            go_region_law (first
              | (refine step_call_run _ 49 _ (by rfl) (by go_simp) hcall.out ?_; rintro u W1 ⟨rfl, hb1⟩; have HB1 : Below wr.heap.size wr W1 := ⟨hb1.os, hb1.tape, hb1.output, hb1.size, hb1.block⟩; have HS1 : wr.heap.size ≤ W1.heap.size := hb1.size; have yb1 : Blk5 W1 w1.heap.size 26 (.int .i64 5) (.int .i64 0) (.string { data := #[] }) (.slice none 0 0) (.slice la ln lc) := hto.out.out.of_block (hb1.block _ hbl); have HU : ValOwn W1 (d + 1) (Fresh wr W1) (numT d (k : Int)) (.agg #[.int .i64 3, .int .i64 (k : Int), .string ByteArray.empty, .slice none 0 0, .slice none 0 0]) := valOwn_leaf d 3 k ByteArray.empty W1 _ ⟨by omega, by omega⟩ ⟨by omega, by omega⟩ (by decide); obtain ⟨_, _, _, _, z4⟩ := yb1.cell; have z4' := fun o => ((yb1.alloc o).cell).2.2.2.2; have hown1 := hide ((hto.out.vals.own.kept (row := none) ⟨hb1.os, hb1.tape, hb1.output, hb1.size, fun i hi _ => hb1.block i hi⟩ (by cases (Value.slice la ln lc).ownBlock <;> simp)).alloc (.cells #[.int .i64 3, .int .i64 (k : Int), .string ByteArray.empty, .slice none 0 0, .slice none 0 0] 26)))
              | (refine step_append_run _ (by rfl) _ _ 24 (by rfl) _ _ (by rfl) (by rfl) (run_append_own_at (P := Tryz.prog) _ wc.heap.size 24 _ 26 i0 zeroVal 5 80 Tryz.underlying24 hi hz0 hz1 hz2 rfl (by decide) _ _ _ hown1.out ⟨W1.heap.size, 0, none⟩ 1 1 [.int .i64 3, .int .i64 (k : Int), .string ByteArray.empty, .slice none 0 0, .slice none 0 0] rfl (cell_five_new _ _ _ _ _ _ _) (by intro y hy; simp at hy; rcases hy with rfl | rfl | rfl | rfl | rfl <;> rfl) (by unfold maxLen; omega) (by omega) (by rw [World.size_alloc]; have h5 : wr.heap.size ≤ W1.heap.size := HS1; omega)) ?_; rintro v' w2 ⟨o1, o2, _, o3⟩; obtain ⟨va, vn, vc, rfl⟩ := row_sliceK o1; have yb2 : Blk5 w2 w1.heap.size 26 (.int .i64 5) (.int .i64 0) (.string { data := #[] }) (.slice none 0 0) (.slice la ln lc) := (yb1.alloc _).of_block (o2.block w1.heap.size (by rw [World.size_alloc]; omega) (fun e => by have := hnb _ e.symm; omega)); obtain ⟨_, _, _, _, v4⟩ := yb2.cell; have v4f := yb2.frozen 4))
            all_goals
              have HH := hide (hto.out.step (w1 := W1) (w2 := w2) HB1 HX.out HU o1 o2 o3 hbc yb2)
              clear z4 z4' o1 o2 o3 hown1 HU HB1 yb1 yb2 hto
              go_wp2_with fail
              go_roundw
              case rel =>
                obtain ⟨P', hP'⟩ := HH.out
                exact ⟨k + 1, _, _, P', by omega, by go_num, hP'⟩
              case measure => simp [intOf]; omega
          · have q5 : (t.kind == 5) = false := by simpa using e5
            have hk6 := okT_maps hf (by have := (okT_kinds hf).1; have h8 : ¬ Nd.kind t = 5 := e5; have h9 : 5 ≤ Nd.kind t := h5'; omega)
            have hkl2 : k < t.keys.length := by have : t.keys.length = t.list.length := hk6.1; omega
            have hkk2 : (k : Int) < (t.keys.length : Int) := by omega
            obtain ⟨eb, eo, s', rfl, heS, hs', hsz', hck⟩ := (hk.same (hS.same hrb)).cell hkl2
            have HX : Hid ((keyTs d t)[k]? = some (strT d s')) := by
              show (keyTs d t)[k]? = _
              unfold keyTs
              rw [if_neg e5, List.getElem?_map]
              show Option.map _ (t.keys[k]?) = _
              rw [hs']
              rfl
            have HB1 : Below wr.heap.size wr wr.drew := ⟨rfl, rfl, rfl, Nat.le_refl _, fun _ _ => rfl⟩
            have HU : ValOwn wr.drew (d + 1) (Fresh wr wr.drew) (strT d s') (.agg #[.int .i64 4, .int .i64 0, .string s', .slice none 0 0, .slice none 0 0]) := valOwn_leaf d 4 0 s' wr.drew _ ⟨by omega, by omega⟩ ⟨by omega, by omega⟩ hsz'
            have hown0 : wr.drew.ownsRow wc.heap.size 26 5 (.slice la ln lc) k vs := hto.out.vals.own
            have hown1 := hide (hown0.alloc (.cells #[.int .i64 4, .int .i64 0, .string s', .slice none 0 0, .slice none 0 0] 26))
            have yb1 : Blk5 wr.drew w1.heap.size 26 (.int .i64 5) (.int .i64 0) (.string { data := #[] }) (.slice none 0 0) (.slice la ln lc) := hto.out.out
            have z4' := fun o => ((yb1.alloc o).cell).2.2.2.2
            have hebl := hS eb heS
            clear e5 hk6 hown0 hs' hk
            go_wp2_with fail
            go_region_law ((refine step_append_run _ (by rfl) _ _ 24 (by rfl) _ _ (by rfl) (by rfl) (run_append_own_at (P := Tryz.prog) _ wc.heap.size 24 _ 26 i0 zeroVal 5 80 Tryz.underlying24 hi hz0 hz1 hz2 rfl (by decide) _ _ _ hown1.out ⟨wr.heap.size, 0, none⟩ 1 1 [.int .i64 4, .int .i64 0, .string s', .slice none 0 0, .slice none 0 0] rfl (cell_five_new _ _ _ _ _ _ _) (by intro y hy; simp at hy; rcases hy with rfl | rfl | rfl | rfl | rfl <;> rfl) (by unfold maxLen; omega) (by omega) (by rw [World.size_alloc]; show wc.heap.size ≤ wr.heap.size + 1; omega)) ?_; rintro v' w2 ⟨o1, o2, _, o3⟩; obtain ⟨va, vn, vc, rfl⟩ := row_sliceK o1; have yb2 : Blk5 w2 w1.heap.size 26 (.int .i64 5) (.int .i64 0) (.string { data := #[] }) (.slice none 0 0) (.slice la ln lc) := (yb1.alloc _).of_block (o2.block w1.heap.size (by rw [World.size_alloc]; show w1.heap.size < wr.heap.size + 1; omega) (fun e => by have := hnb _ e.symm; omega)); obtain ⟨_, _, _, _, v4⟩ := yb2.cell; have v4f := yb2.frozen 4))
            all_goals
              have HH := hide (hto.out.step (w1 := wr.drew) (w2 := w2) HB1 HX.out HU o1 o2 o3 hbc yb2)
              clear z4' o1 o2 o3 hown1 HU HB1 yb1 yb2 hto
              go_wp2_with fail
              go_roundw
              case rel =>
                obtain ⟨P', hP'⟩ := HH.out
                exact ⟨k + 1, _, _, P', by omega, by go_num, hP'⟩
              case measure => simp [intOf]; omega
        · obtain rfl : k = t.list.length := by omega
          have hv9 : ValsTo wc.heap.size wr (.slice la ln lc) (keyTs d t) (keyTs d t).length vs P := by
            have h9 := hto.out.vals
            rw [hln.out]
            exact h9
          have hdone := hv9.done (by rw [hln.out]; show t.list.length < _; omega)
          have hend : Hid (∀ wF, wF = set5 wr (w.heap.size + 1) 0 (.int .i64 5) (.int .i64 0) (.string { data := #[] }) (.slice none 0 0) (.slice la ln lc) →
              ValOwn wF (d + 2) (Fresh w wF) (rowK d (keyTs d t)) (.agg #[.int .i64 5, .int .i64 0, .string ByteArray.empty, .slice none 0 0, .slice la ln lc]) ∧ Below w.heap.size w wF) := by
            intro wF hF
            have hlt2 := k1.lt
            have hsm : ∀ R : Nat → Prop, (∀ b, R b → wc.heap.size ≤ b) → Same R wr wF := fun R hR b hb => by
              rw [hF, set5_block _ _ _ _ _ _ _ _ _ (by have := hR b hb; omega)]
            have hzF : wF.heap.size = wr.heap.size := by rw [hF, set5_size]
            refine ⟨⟨_, _, fun _ => False, fun b => wc.heap.size ≤ b ∧ b < wr.heap.size, rfl, ⟨by show _ ≤ (5 : Int); omega, by show (5 : Int) ≤ _; omega⟩, ⟨by show _ ≤ (0 : Int); omega, by show (0 : Int) ≤ _; omega⟩, by show ByteArray.empty.size < _; decide,
              ⟨by show (0 : Nat) < _; omega, fun s h => by (cases h), none, 0, rfl, Or.inl rfl⟩, hdone.moved (hsm _ (fun b hb => hb.1)) (fun _ h => h) (fun P x u hP hx => ValOwn.moved (d + 1) P P x u hx (hsm P (fun b hb => (hP b hb).1)) (fun _ h => h)), fun _ h => h.elim, fun b hb => ⟨by have := hb.1; omega, by rw [hzF]; exact hb.2⟩, fun _ h => h.elim⟩, ?_⟩
            rw [hF]
            exact below_set5 hrb (by omega) _ _ _ _ _ _
          obtain ⟨z0, z1, z2, z3, z4⟩ := kres.cell
          have zf := kres.frozen
          clear hto hdone hv9 hk kbox kres k0 k1
          go_wp2_with fail
          rw [hz.out]
          refine bodyPost_ret (v := .tuple #[.agg #[.int .i64 5, .int .i64 0, .string ByteArray.empty, .slice none 0 0, .slice la ln lc], .bool true]) (by simp [results, Tryz.results24, go_sem, z0, z1, z2, z3, z4]) rfl ⟨_, rfl, ValOwn.at _ _ _ _ (hend.out _ rfl).1, (hend.out _ rfl).2⟩
end Go.Proofs.YtgjahnkldobphaaGreatDoor
