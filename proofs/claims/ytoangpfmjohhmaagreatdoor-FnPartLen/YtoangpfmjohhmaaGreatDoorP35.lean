/- Texts of the proof, put together by program: WSetU. -/
import Derived.Test.YtoangpfmjohhmaaGreatDoorP34
import Derived.Test.YtoangpfmjohhmaaGreatDoorP18
/- PartSet of the model. -/
namespace Go.Proofs.YtoangpfmjohhmaaGreatDoor
open Go.RowKit Go.Deep

theorem rowL_eq {d : Nat} {t : Tr (d + 1)} (h : okT (d + 1) t = true) (hk : Nd.kind t = 0 ∨ Nd.kind t = 5) : rowL d t = some (Nd.list t) := by
  rw [rowL_ok h]
  rcases hk with h0 | h5
  · rw [if_pos h0]
    obtain ⟨hf, _⟩ := okT_form h
    obtain ⟨kind, num, str, keys, list⟩ := t
    have h0 : kind = 0 := h0
    subst h0
    cases hb : headBad 0 num str keys.length list.length 6 with
    | true => rw [formT_bad hb] at hf; cases hf
    | false =>
      obtain ⟨_, _, _, _, g4⟩ := headBad_iff.1 hb
      have := List.eq_nil_of_length_eq_zero (g4 (by omega))
      subst this
      rfl
  · rw [if_neg (by rw [h5]; decide), if_pos h5]
theorem partSet_badx {d : Nat} {t : Tr (d + 2)} {i : Int} {x : Tr (d + 1)} (hx : okT (d + 1) x = false) : partSetT d t i x = (zeroT (d + 1), false) := by
  cases h : rowL (d + 1) t with
  | none => exact partSet_none h
  | some xs => exact partSet_bad h hx
theorem partSet_kind {d : Nat} {t : Tr (d + 2)} {i : Int} {x : Tr (d + 1)} (h : okT (d + 2) t = true) (h0 : Nd.kind t ≠ 0) (h5 : Nd.kind t ≠ 5) : partSetT d t i x = (zeroT (d + 1), false) := partSet_none (by rw [rowL_ok h, if_neg h0, if_neg h5])
theorem partSet_far {d : Nat} {t : Tr (d + 2)} {i : Int} {x : Tr (d + 1)} (h : okT (d + 2) t = true) (hk : Nd.kind t = 0 ∨ Nd.kind t = 5) (hi : 60 ≤ i ∨ i < -((Nd.list t).length : Int)) : partSetT d t i x = (zeroT (d + 1), false) := by
  refine partSet_out (j := if i < 0 then i + ((Nd.list t).length : Int) else i) (rowL_eq h hk) rfl ?_
  have := (okT_kinds h).2.1
  split <;> omega

theorem nodes_set {d : Nat} {xs : List (Tr (d + 1))} {k : Nat} {x : Tr (d + 1)} (hxs : ∀ y ∈ xs, okT (d + 1) y = true) (hx : okT (d + 1) x = true) (hl : xs.length ≤ 60) (hk : k < 60) : (nodes (d + 2) (rowT (d + 1) (setL xs (zeroT d) k x)) : Int) ≤ 4194304 := by
  have h1 : ∀ y ∈ setL xs (zeroT d) k x, nodes (d + 1) y ≤ 300 := fun y hy => by
    rcases mem_setL hy with h | h | h
    · exact nodes_ok (hxs y h)
    · rw [h]; exact nodes_ok (okT_zero d)
    · rw [h]; exact nodes_ok hx
  have h2 := sum_le_of h1
  have h3 := setL_length xs (zeroT d) k x
  have h4 : nodes (d + 2) (rowT (d + 1) (setL xs (zeroT d) k x)) = 1 + ((setL xs (zeroT d) k x).map (nodes (d + 1))).sum := rfl
  rw [h4]
  omega

set_option maxRecDepth 100000 in
set_option maxHeartbeats 2000000 in
theorem specPartSet_any (d : Nat) (S : Nat → Prop) (t : Tr (d + 2)) (v : Value) (i : Int) (hi : I64 i) (S2 : Nat → Prop) (x : Tr (d + 1)) (xv : Value) (w : World) (hv : ValAt S w (d + 2) t v) (hS : Within S w) (hx : ValAt S2 w (d + 1) x xv) (hS2 : Within S2 w) (hsm : (nodes (d + 2) t : Int) ≤ 4194304) (hsx : (nodes (d + 1) x : Int) ≤ 4194304) :
    Calls Tryz.prog 93 #[v, .int .i64 i, xv] w (SpecQ (d + 1) (partSetT d t i x).1 (partSetT d t i x).2 w) := by
  have hv0 := hv
  obtain ⟨vk, vl, rfl, i1, i2, i3, hk, hl⟩ := hv
  obtain ⟨ak, ck, rfl, hkl⟩ := hk.open'
  obtain ⟨al, cl, rfl, hll⟩ := hl.open'
  obtain ⟨k', n', s', ak', lk', ck', al', ll', cl', rfl⟩ := hx.shape
  obtain ⟨k0, k1, k2, hW0, hsz0⟩ := laid3 w 26 26 26 (.int .i64 t.kind) (.int .i64 t.num) (.string t.str) (.slice ak t.keys.length ck) (.slice al t.list.length cl) (.int .i64 k') (.int .i64 n') (.string s') (.slice ak' lk' ck') (.slice al' ll' cl') (.int .i64 0) (.int .i64 0) (.string { data := #[] }) (.slice none 0 0) (.slice none 0 0)
  obtain ⟨W0, hW⟩ : ∃ W0, W0 = ((w.alloc (.cells #[.int .i64 t.kind, .int .i64 t.num, .string t.str, .slice ak t.keys.length ck, .slice al t.list.length cl] 26)).alloc (.cells #[.int .i64 k', .int .i64 n', .string s', .slice ak' lk' ck', .slice al' ll' cl'] 26)).alloc (.cells #[.int .i64 0, .int .i64 0, .string { data := #[] }, .slice none 0 0, .slice none 0 0] 26) := ⟨_, rfl⟩
  rw [← hW] at k0 k1 k2 hW0 hsz0
  have HW := hide hW
  have HSZ := hide hsz0
  clear hW hk hl hsz0
  go_enter Tryz.func93, Tryz.ntmps93
  go_wp2_with fail
  rw [← HW.out]
  clear HW
  refine (specValOk_any (d + 2) S t _ W0 (hv0.same (hS.same hW0)) (hS.later hW0.size) hsm).mono ?_
  rintro e w1 ⟨rfl, hb1⟩
  replace k0 := k0.below hb1
  replace k1 := k1.below hb1
  replace k2 := k2.below hb1
  have hB1 := below_trans hW0 hb1
  have hlt : w.heap.size + 1 + 1 < w1.heap.size := k2.lt
  clear hb1 hW0
  -- the end, where it can not be done
  have hno : ∀ wn, Below w.heap.size w wn → Hid (∀ wF, wF = set5 wn (w.heap.size + 1 + 1) 0 (.int .i64 0) (.int .i64 0) (.string { data := #[] }) (.slice none 0 0) (.slice none 0 0) → Below w.heap.size w wF) := by
    intro wn hn wF hF
    rw [hF]
    exact below_set5 hn (by omega) _ _ _ _ _ _
  cases hf : okT (d + 2) t with
  | false =>
    have hz : Hid (partSetT d t i x = (zeroT (d + 1), false)) := partSet_none (by rw [rowL, if_neg (by rw [hf]; simp)])
    have HN := hno w1 hB1
    obtain ⟨y0, y1, y2, y3, y4⟩ := k2.cell
    have yf := k2.frozen
    clear k0 k1 k2 hB1 hv0 hx hno
    go_wp2_with fail
    rw [hz.out]
    refine bodyPost_ret (v := .tuple #[zeroVal, .bool false]) (by simp [results, Tryz.results93, go_sem, zeroVal, y0, y1, y2, y3, y4]; rfl) rfl ⟨_, rfl, zeroAt (d + 1) _ _, HN.out _ rfl⟩
  | true =>
    obtain ⟨x0, x1, x2, x3, x4⟩ := k1.cell
    go_wp2_with fail
    refine (specValOk_any (d + 1) S2 x _ w1 (hx.same (hS2.same hB1)) (hS2.later hB1.size) hsx).mono ?_
    rintro e w2 ⟨rfl, hb2⟩
    replace k0 := k0.below hb2
    replace k1 := k1.below hb2
    replace k2 := k2.below hb2
    have hB2 := below_trans hB1 hb2
    have hlt2 : w.heap.size + 1 + 1 < w2.heap.size := k2.lt
    clear hb2 hB1 x0 x1 x2 x3 x4
    obtain ⟨y0, y1, y2, y3, y4⟩ := k2.cell
    have yf := k2.frozen
    cases hfx : okT (d + 1) x with
    | false =>
      have hz : Hid (partSetT d t i x = (zeroT (d + 1), false)) := partSet_badx hfx
      have HN := hno w2 hB2
      clear k0 k1 k2 hB2 hv0 hx hno
      go_wp2_with fail
      rw [hz.out]
      refine bodyPost_ret (v := .tuple #[zeroVal, .bool false]) (by simp [results, Tryz.results93, go_sem, zeroVal, y0, y1, y2, y3, y4]; rfl) rfl ⟨_, rfl, zeroAt (d + 1) _ _, HN.out _ rfl⟩
    | true =>
      obtain ⟨x0, x1, x2, x3, x4⟩ := k0.cell
      obtain ⟨_, hl60, _⟩ := okT_kinds hf
      have hl60 : t.list.length ≤ 60 := hl60
      by_cases hkind : t.kind = 0 ∨ t.kind = 5
      · have hrow := hide (rowL_eq hf hkind)
        obtain ⟨hi1, hi2⟩ := hi
        by_cases hfar : 60 ≤ i ∨ i < -(t.list.length : Int)
        · have hz : Hid (partSetT d t i x = (zeroT (d + 1), false)) := partSet_far hf hkind hfar
          have HN := hno w2 hB2
          clear k0 k1 k2 hB2 hv0 hx hno hrow
          rcases hkind with hq | hq
          · have q0 : (t.kind != 0) = false := by simpa using hq
            clear hq
            by_cases h60 : 60 ≤ i
            · clear hfar
              go_wp2_with fail
              rw [hz.out]
              refine bodyPost_ret (v := .tuple #[zeroVal, .bool false]) (by simp [results, Tryz.results93, go_sem, zeroVal, y0, y1, y2, y3, y4]; rfl) rfl ⟨_, rfl, zeroAt (d + 1) _ _, HN.out _ rfl⟩
            · have hlo : i < -(t.list.length : Int) := by omega
              clear hfar
              go_wp2_with fail
              rw [hz.out]
              refine bodyPost_ret (v := .tuple #[zeroVal, .bool false]) (by simp [results, Tryz.results93, go_sem, zeroVal, y0, y1, y2, y3, y4]; rfl) rfl ⟨_, rfl, zeroAt (d + 1) _ _, HN.out _ rfl⟩
          · have q0 : (t.kind != 0) = true := by simp [hq]
            have q5 : (t.kind != 5) = false := by simpa using hq
            clear hq
            by_cases h60 : 60 ≤ i
            · clear hfar
              go_wp2_with fail
              rw [hz.out]
              refine bodyPost_ret (v := .tuple #[zeroVal, .bool false]) (by simp [results, Tryz.results93, go_sem, zeroVal, y0, y1, y2, y3, y4]; rfl) rfl ⟨_, rfl, zeroAt (d + 1) _ _, HN.out _ rfl⟩
            · have hlo : i < -(t.list.length : Int) := by omega
              clear hfar
              go_wp2_with fail
              rw [hz.out]
              refine bodyPost_ret (v := .tuple #[zeroVal, .bool false]) (by simp [results, Tryz.results93, go_sem, zeroVal, y0, y1, y2, y3, y4]; rfl) rfl ⟨_, rfl, zeroAt (d + 1) _ _, HN.out _ rfl⟩
        · obtain ⟨j, hj⟩ : ∃ j : Nat, (j : Int) = if i < 0 then i + (t.list.length : Int) else i := ⟨(if i < 0 then i + (t.list.length : Int) else i).toNat, by split <;> omega⟩
          have hj60 : j < 60 := by split at hj <;> omega
          have hR : Hid (partSetT d t i x = (toldT (d + 1) (rowT (d + 1) (setL t.list (zeroT d) j x)), okT (d + 2) (rowT (d + 1) (setL t.list (zeroT d) j x)))) := by
            have := partSet_in hrow.out hfx hj (by omega) (by omega)
            rw [Int.toNat_natCast] at this
            exact this
          have hnod := nodes_set (k := j) (fun y hy => okT_part hf hy) hfx hl60 hj60
          have hvU : ValAt (fun b => S b ∨ S2 b) w2 (d + 2) t (.agg #[.int .i64 t.kind, .int .i64 t.num, .string t.str, .slice ak t.keys.length ck, .slice al t.list.length cl]) := (hv0.same (hS.same hB2)).mono (fun b hb => Or.inl hb)
          have hxU : ValAt (fun b => S b ∨ S2 b) w2 (d + 1) x (.agg #[.int .i64 k', .int .i64 n', .string s', .slice ak' lk' ck', .slice al' ll' cl']) := (hx.same (hS2.same hB2)).mono (fun b hb => Or.inr hb)
          have hWU : Within (fun b => S b ∨ S2 b) w2 := fun b hb => by
            rcases hb with hb | hb
            · exact hS.later hB2.size b hb
            · exact hS2.later hB2.size b hb
          have hcall := hide (l2Set_any d (fun b => S b ∨ S2 b) t _ x _ j w2 hvU hxU hWU hj60 hl60)
          have hn1 : ¬ (60 ≤ i) := by omega
          have hn2 : ¬ (i < -(t.list.length : Int)) := by omega
          obtain ⟨z0, z1, z2, z3, z4⟩ := k1.cell
          have HJ := hide hj
          clear hv0 hx hno hrow hfar hvU hxU k0 k1 hj hfx
          rcases hkind with hq | hq
          all_goals
            first
              | (have q0 : (t.kind != 0) = false := (by simpa using hq))
              | (have q0 : (t.kind != 0) = true := (by simp [hq]); have q5 : (t.kind != 5) = false := (by simpa using hq))
            clear hq
            by_cases hneg : i < 0
            · have hji : i + (t.list.length : Int) = (j : Int) := by rw [HJ.out, if_pos hneg]
              have HJI := hide hji
              clear hji HJ
              go_wp2_with fail
              rw [HJI.out]
              refine Calls.mono hcall.out ?_
              rintro e w3 ⟨u, rfl, hu, hb3⟩
              obtain ⟨u0, u1, u2, u3, u4, u5, u6, u7, u8, rfl⟩ := hu.shape
              have hB3 := below_trans hB2 hb3
              have k3 := k2.below hb3
              have hWU3 : Within (fun b => (S b ∨ S2 b) ∨ Fresh w2 w3 b) w3 := fun b hb => by
                rcases hb with hb | hb
                · exact Nat.lt_of_lt_of_le (hWU b hb) hb3.size
                · exact hb.2
              have hcall2 := hide (l2Told_any (d + 1) _ _ _ w3 hu hWU3 hnod)
              have hlt3 : w.heap.size + 1 + 1 < w3.heap.size := k3.lt
              clear hu hWU3 hcall hb3 x0 x1 x2 x3 x4 y0 y1 y2 y3 y4 yf z0 z1 z2 z3 z4
              go_wp2_with fail
              refine Calls.mono hcall2.out ?_
              rintro e w4 ⟨r, rfl, hr, hb4⟩
              obtain ⟨r0, r1, r2, r3, r4, r5, r6, r7, r8, rfl⟩ := hr.shape
              have HF := hide (tell_endA hr (below_trans hB3 hb4) (by omega) hlt3)
              have k4 := k3.below hb4
              obtain ⟨y0, y1, y2, y3, y4⟩ := k4.cell
              have yf := k4.frozen
              clear hr hb4 k3 k4 hcall2 hB3
              go_wp2_with fail
              rw [hR.out]
              exact bodyPost_ret (v := .tuple #[.agg #[.int .i64 r0, .int .i64 r1, .string r2, .slice r3 r4 r5, .slice r6 r7 r8], .bool (okT (d + 2) (rowT (d + 1) (setL t.list (zeroT d) j x)))]) (by simp [results, Tryz.results93, go_sem, y0, y1, y2, y3, y4]) rfl ⟨_, rfl, (HF.out _ rfl).1, (HF.out _ rfl).2⟩
            · have hji : i = (j : Int) := by rw [HJ.out, if_neg hneg]
              have HJI := hide hji
              clear hji HJ
              go_wp2_with fail
              rw [HJI.out]
              refine Calls.mono hcall.out ?_
              rintro e w3 ⟨u, rfl, hu, hb3⟩
              obtain ⟨u0, u1, u2, u3, u4, u5, u6, u7, u8, rfl⟩ := hu.shape
              have hB3 := below_trans hB2 hb3
              have k3 := k2.below hb3
              have hWU3 : Within (fun b => (S b ∨ S2 b) ∨ Fresh w2 w3 b) w3 := fun b hb => by
                rcases hb with hb | hb
                · exact Nat.lt_of_lt_of_le (hWU b hb) hb3.size
                · exact hb.2
              have hcall2 := hide (l2Told_any (d + 1) _ _ _ w3 hu hWU3 hnod)
              have hlt3 : w.heap.size + 1 + 1 < w3.heap.size := k3.lt
              clear hu hWU3 hcall hb3 x0 x1 x2 x3 x4 y0 y1 y2 y3 y4 yf z0 z1 z2 z3 z4
              go_wp2_with fail
              refine Calls.mono hcall2.out ?_
              rintro e w4 ⟨r, rfl, hr, hb4⟩
              obtain ⟨r0, r1, r2, r3, r4, r5, r6, r7, r8, rfl⟩ := hr.shape
              have HF := hide (tell_endA hr (below_trans hB3 hb4) (by omega) hlt3)
              have k4 := k3.below hb4
              obtain ⟨y0, y1, y2, y3, y4⟩ := k4.cell
              have yf := k4.frozen
              clear hr hb4 k3 k4 hcall2 hB3
              go_wp2_with fail
              rw [hR.out]
              exact bodyPost_ret (v := .tuple #[.agg #[.int .i64 r0, .int .i64 r1, .string r2, .slice r3 r4 r5, .slice r6 r7 r8], .bool (okT (d + 2) (rowT (d + 1) (setL t.list (zeroT d) j x)))]) (by simp [results, Tryz.results93, go_sem, y0, y1, y2, y3, y4]) rfl ⟨_, rfl, (HF.out _ rfl).1, (HF.out _ rfl).2⟩
      · have n0 : t.kind ≠ 0 := fun h => hkind (Or.inl h)
        have n5 : t.kind ≠ 5 := fun h => hkind (Or.inr h)
        have hz : Hid (partSetT d t i x = (zeroT (d + 1), false)) := partSet_kind hf n0 n5
        have HN := hno w2 hB2
        have q0 : (t.kind != 0) = true := by simpa using n0
        have q5 : (t.kind != 5) = true := by simpa using n5
        clear k0 k1 k2 hB2 hv0 hx hno hkind n0 n5
        go_wp2_with fail
        rw [hz.out]
        refine bodyPost_ret (v := .tuple #[zeroVal, .bool false]) (by simp [results, Tryz.results93, go_sem, zeroVal, y0, y1, y2, y3, y4]; rfl) rfl ⟨_, rfl, zeroAt (d + 1) _ _, HN.out _ rfl⟩
end Go.Proofs.YtoangpfmjohhmaaGreatDoor
