/- Texts of the proof, put together by program: WSetT, WPutU, WSetTo, WPutUo, WSetQ, WSetS, WSetU. -/
import Derived.Test.YtmibjmipndffmaaGreatDoorQ13
import Derived.Test.YtmibjmipndffmaaGreatDoorQ15
import Derived.Test.YtmibjmipndffmaaGreatDoorQ12
import Derived.Test.YtmibjmipndffmaaGreatDoorQ14
/- l2Told of the model: a tree in new memory, if it is right. -/
namespace Go.Proofs.YtmibjmipndffmaaGreatDoor
open Go.RowKit Go.Deep

set_option maxRecDepth 100000 in
set_option maxHeartbeats 4000000 in
theorem l2Told_any (d : Nat) (S : Nat → Prop) (t : Tr (d + 1)) (v : Value) (w : World) (hv : ValAt S w (d + 1) t v) (hS : Within S w) (hsm : (nodes (d + 1) t : Int) ≤ 4194304) :
    Calls Tryz.prog 49 #[v] w (SpecQ d (toldT d t) (okT (d + 1) t) w) := by
  have hv0 := hv
  obtain ⟨k, n, s, ak, lk, ck, al, ll, cl, rfl⟩ := hv.shape
  obtain ⟨W0, hW⟩ : ∃ W0, W0 = (w.alloc (.cells #[.int .i64 k, .int .i64 n, .string s, .slice ak lk ck, .slice al ll cl] 26)).alloc (.cells #[.int .i64 0, .int .i64 0, .string { data := #[] }, .slice none 0 0, .slice none 0 0] 26) := ⟨_, rfl⟩
  have hW0 : Below w.heap.size w W0 := by rw [hW]; exact below_trans (below_alloc1 _ _) (below_alloc1 _ _)
  have k0 : Blk5 W0 w.heap.size 26 (.int .i64 k) (.int .i64 n) (.string s) (.slice ak lk ck) (.slice al ll cl) := by
    rw [hW]; exact (Blk5.new w 26 _ _ _ _ _).alloc _
  have k1 : Blk5 W0 (w.heap.size + 1) 26 (.int .i64 0) (.int .i64 0) (.string { data := #[] }) (.slice none 0 0) (.slice none 0 0) := by
    have := Blk5.new (w.alloc (.cells #[.int .i64 k, .int .i64 n, .string s, .slice ak lk ck, .slice al ll cl] 26)) 26 (.int .i64 0) (.int .i64 0) (.string { data := #[] }) (.slice none 0 0) (.slice none 0 0)
    rw [World.size_alloc] at this
    rw [hW]
    exact this
  have HW := hide hW
  clear hW hv
  go_enter Tryz.func49, Tryz.ntmps49
  go_wp2_with fail
  rw [← HW.out]
  clear HW
  refine (specValOk_any (d + 1) S t _ W0 (hv0.same (hS.same hW0)) (hS.later hW0.size) hsm).mono ?_
  rintro e w1 ⟨rfl, hb1⟩
  replace k0 := k0.below hb1
  replace k1 := k1.below hb1
  have hB1 := below_trans hW0 hb1
  obtain ⟨x0, x1, x2, x3, x4⟩ := k0.cell
  have hlt := k1.lt
  clear hb1 hW0
  cases hf : okT (d + 1) t with
  | false =>
    have hz : Hid (toldT d t = zeroT d) := by
      show toldT d t = _
      rw [toldT, hf]
      rfl
    have hno : Hid (∀ wF, wF = set5 w1 (w.heap.size + 1) 0 (.int .i64 0) (.int .i64 0) (.string { data := #[] }) (.slice none 0 0) (.slice none 0 0) → Below w.heap.size w wF) := by
      intro wF hF
      rw [hF]
      exact below_set5 hB1 (by omega) _ _ _ _ _ _
    obtain ⟨y0, y1, y2, y3, y4⟩ := k1.cell
    have yf := k1.frozen
    clear k0 k1 hB1 hv0
    go_wp2_with fail
    rw [hz.out, hf]
    refine bodyPost_ret (v := .tuple #[zeroVal, .bool false]) (by simp [results, Tryz.results49, go_sem, zeroVal, y0, y1, y2, y3, y4]; rfl) rfl ⟨_, rfl, zeroAt d _ _, hno.out _ rfl⟩
  | true =>
    have hz : Hid (toldT d t = t) := by
      show toldT d t = _
      rw [toldT, hf]
      rfl
    have hwt := wtT_ok hf
    go_wp2_with fail
    refine (l1Copy_any (d + 1) S t _ w1 (hv0.same (hS.same hB1)) (hS.later hB1.size) (by omega)).mono ?_
    rintro e w3 ⟨u, rfl, hu3, hb3⟩
    obtain ⟨u0, u1, u2, u3, u4, u5, u6, u7, u8, rfl⟩ := (ValOwn.at _ _ _ _ hu3).shape
    have HF := hide (tell_end hu3 (below_trans hB1 hb3) (by omega) hlt)
    have k3 := k1.below hb3
    clear hu3 hb3 k1 k0 hv0 x0 x1 x2 x3 x4
    obtain ⟨y0, y1, y2, y3, y4⟩ := k3.cell
    have yf := k3.frozen
    clear k3
    go_wp2_with fail
    rw [hz.out, hf]
    refine bodyPost_ret (v := .tuple #[.agg #[.int .i64 u0, .int .i64 u1, .string u2, .slice u3 u4 u5, .slice u6 u7 u8], .bool true]) (by simp [results, Tryz.results49, go_sem, y0, y1, y2, y3, y4]) rfl ⟨_, rfl, ValOwn.at _ _ _ _ (HF.out _ rfl).1, (HF.out _ rfl).2⟩
end Go.Proofs.YtmibjmipndffmaaGreatDoor

/- PartPut of the model. -/
namespace Go.Proofs.YtmibjmipndffmaaGreatDoor
open Go.RowKit Go.Deep

theorem mapL_eq {d : Nat} {t : Tr (d + 1)} {s : ByteArray} (h : okT (d + 1) t = true) (hs : strOk s = true) (hk : Nd.kind t = 0 ∨ Nd.kind t = 6) : mapL d t s = some (Nd.keys t, Nd.list t) ∧ (Nd.keys t).length = (Nd.list t).length ∧ keysB (Nd.keys t) = true := by
  rw [mapL_ok h hs]
  obtain ⟨hf, _⟩ := okT_form h
  obtain ⟨kind, num, str, keys, list⟩ := t
  cases hb : headBad kind num str keys.length list.length 6 with
  | true => rw [formT_bad hb] at hf; cases hf
  | false =>
    obtain ⟨_, _, _, g3, g4⟩ := headBad_iff.1 hb
    rcases hk with h0 | h6
    · have h0 : kind = 0 := h0
      subst h0
      have e1 := List.eq_nil_of_length_eq_zero (g3 (by omega))
      have e2 := List.eq_nil_of_length_eq_zero (g4 (by omega))
      subst e1 e2
      exact ⟨rfl, rfl, rfl⟩
    · have h6 : kind = 6 := h6
      subst h6
      rw [formT_good hb] at hf
      simp at hf
      exact ⟨rfl, hf.1.1, hf.1.2⟩
theorem partPut_not {d : Nat} {t : Tr (d + 2)} {s : ByteArray} {x : Tr (d + 1)} (h : mapL (d + 1) t s = none) : partPutT d t s x = (zeroT (d + 1), false) := by
  unfold partPutT
  rw [h]
theorem partPut_badx {d : Nat} {t : Tr (d + 2)} {s : ByteArray} {x : Tr (d + 1)} (hx : okT (d + 1) x = false) : partPutT d t s x = (zeroT (d + 1), false) := by
  unfold partPutT
  split
  · rfl
  · rw [if_neg (by rw [hx]; simp)]
theorem partPut_does {d : Nat} {t : Tr (d + 2)} {s : ByteArray} {x : Tr (d + 1)} {ks : List ByteArray} {xs : List (Tr (d + 1))} (h : mapL (d + 1) t s = some (ks, xs)) (hx : okT (d + 1) x = true) : partPutT d t s x = (toldT (d + 1) (mapT (d + 1) (putL ks xs s x)), okT (d + 2) (mapT (d + 1) (putL ks xs s x))) := by
  unfold partPutT
  rw [h]
  show (if okT (d + 1) x = true then _ else _) = _
  rw [if_pos hx]
theorem partPut_kind {d : Nat} {t : Tr (d + 2)} {s : ByteArray} {x : Tr (d + 1)} (h : okT (d + 2) t = true) (h0 : Nd.kind t ≠ 0) (h6 : Nd.kind t ≠ 6) : partPutT d t s x = (zeroT (d + 1), false) := by
  cases hs : strOk s with
  | false => exact partPut_not (mapL_no (Or.inr hs))
  | true => exact partPut_not (by rw [mapL_ok h hs, if_neg h0, if_neg h6])
theorem mem_putL {α : Type} {s : ByteArray} {x : α} : ∀ {ks : List ByteArray} {xs : List α} {p : ByteArray × α}, p ∈ putL ks xs s x → p ∈ ks.zip xs ∨ p = (s, x)
  | [], _, p, h => by rw [putL] at h; exact Or.inr (List.mem_singleton.1 h)
  | _ :: _, [], p, h => by rw [putL] at h; exact Or.inr (List.mem_singleton.1 h)
  | k :: ks, y :: ys, p, h => by
    rw [putL] at h
    rw [zip_cons]
    split at h
    · rcases List.mem_cons.1 h with h | h
      · exact Or.inl (by rw [h]; exact List.mem_cons_self ..)
      · rcases mem_putL h with h | h
        · exact Or.inl (List.mem_cons_of_mem _ h)
        · exact Or.inr h
    · split at h
      · rcases List.mem_cons.1 h with h | h
        · exact Or.inr h
        · exact Or.inl (List.mem_cons_of_mem _ h)
      · rcases List.mem_cons.1 h with h | h
        · exact Or.inr h
        · exact Or.inl h
theorem nodes_put {d : Nat} {ks : List ByteArray} {xs : List (Tr (d + 1))} {s : ByteArray} {x : Tr (d + 1)} (hxs : ∀ y ∈ xs, okT (d + 1) y = true) (hx : okT (d + 1) x = true) (hl : ks.length ≤ 1000) : (nodes (d + 2) (mapT (d + 1) (putL ks xs s x)) : Int) ≤ 4194304 := by
  have h1 : ∀ y ∈ (putL ks xs s x).map Prod.snd, nodes (d + 1) y ≤ 300 := fun y hy => by
    obtain ⟨p, hp, rfl⟩ := List.mem_map.1 hy
    rcases mem_putL hp with h | h
    · exact nodes_ok (hxs _ (List.of_mem_zip (show (p.1, p.2) ∈ ks.zip xs from h)).2)
    · rw [h]; exact nodes_ok hx
  have h2 := sum_le_of h1
  have h3 := putL_length ks xs s x
  have h4 : nodes (d + 2) (mapT (d + 1) (putL ks xs s x)) = 1 + (((putL ks xs s x).map Prod.snd).map (nodes (d + 1))).sum := rfl
  rw [List.length_map] at h2
  rw [h4]
  omega

set_option maxRecDepth 100000 in
set_option maxHeartbeats 4000000 in
theorem specPartPut_any (d : Nat) (S : Nat → Prop) (t : Tr (d + 2)) (v : Value) (s0 : ByteArray) (hs0 : s0.size < 281474976710656) (S2 : Nat → Prop) (x : Tr (d + 1)) (xv : Value) (w : World) (hv : ValAt S w (d + 2) t v) (hS : Within S w) (hx : ValAt S2 w (d + 1) x xv) (hS2 : Within S2 w) (hsm : (nodes (d + 2) t : Int) ≤ 4194304) (hsx : (nodes (d + 1) x : Int) ≤ 4194304) :
    Calls Tryz.prog 96 #[v, .string s0, xv] w (SpecQ (d + 1) (partPutT d t s0 x).1 (partPutT d t s0 x).2 w) := by
  have hv0 := hv
  obtain ⟨vk, vl, rfl, i1, i2, i3, hk, hl⟩ := hv
  obtain ⟨ak, ck, rfl, hkl⟩ := hk.open'
  obtain ⟨al, cl, rfl, hll⟩ := hl.open'
  obtain ⟨k', n', s', ak', lk', ck', al', ll', cl', rfl⟩ := hx.shape
  obtain ⟨k0, k1, k2, hW0, hsz0⟩ := laid3 w 26 26 26 (.int .i64 t.kind) (.int .i64 t.num) (.string t.str) (.slice ak t.keys.length ck) (.slice al t.list.length cl) (.int .i64 k') (.int .i64 n') (.string s') (.slice ak' lk' ck') (.slice al' ll' cl') (.int .i64 0) (.int .i64 0) (.string { data := #[] }) (.slice none 0 0) (.slice none 0 0)
  obtain ⟨W0, hW⟩ : ∃ W0, W0 = ((w.alloc (.cells #[.int .i64 t.kind, .int .i64 t.num, .string t.str, .slice ak t.keys.length ck, .slice al t.list.length cl] 26)).alloc (.cells #[.int .i64 k', .int .i64 n', .string s', .slice ak' lk' ck', .slice al' ll' cl'] 26)).alloc (.cells #[.int .i64 0, .int .i64 0, .string { data := #[] }, .slice none 0 0, .slice none 0 0] 26) := ⟨_, rfl⟩
  rw [← hW] at k0 k1 k2 hW0 hsz0
  have HW := hide hW
  have HSZ := hide hsz0
  clear hW hk hl hsz0
  go_enter Tryz.func96, Tryz.ntmps96
  go_wp2_with fail
  rw [← HW.out]
  clear HW
  refine (specValOk_any (d + 2) S t _ W0 (hv0.same (hS.same hW0)) (hS.later hW0.size) hsm).mono ?_
  rintro e w1 ⟨rfl, hb1⟩
  replace k0 := k0.below hb1
  replace k1 := k1.below hb1
  replace k2 := k2.below hb1
  have hB1 := below_trans hW0 hb1
  have hlt : w.heap.size + 1 + 1 < w1.heap.size := k2.lt
  clear hb1 hW0
  -- the end, where it can not be done
  have hno : ∀ wn, Below w.heap.size w wn → Hid (∀ wF, wF = set5 wn (w.heap.size + 1 + 1) 0 (.int .i64 0) (.int .i64 0) (.string { data := #[] }) (.slice none 0 0) (.slice none 0 0) → Below w.heap.size w wF) := by
    intro wn hn wF hF
    rw [hF]
    exact below_set5 hn (by omega) _ _ _ _ _ _
  cases hf : okT (d + 2) t with
  | false =>
    have hz : Hid (partPutT d t s0 x = (zeroT (d + 1), false)) := partPut_not (mapL_no (Or.inl hf))
    have HN := hno w1 hB1
    obtain ⟨y0, y1, y2, y3, y4⟩ := k2.cell
    have yf := k2.frozen
    clear k0 k1 k2 hB1 hv0 hx hno
    go_wp2_with fail
    rw [hz.out]
    refine bodyPost_ret (v := .tuple #[zeroVal, .bool false]) (by simp [results, Tryz.results96, go_sem, zeroVal, y0, y1, y2, y3, y4]; rfl) rfl ⟨_, rfl, zeroAt (d + 1) _ _, HN.out _ rfl⟩
  | true =>
    obtain ⟨x0, x1, x2, x3, x4⟩ := k1.cell
    go_wp2_with fail
    refine (specValOk_any (d + 1) S2 x _ w1 (hx.same (hS2.same hB1)) (hS2.later hB1.size) hsx).mono ?_
    rintro e w2 ⟨rfl, hb2⟩
    replace k0 := k0.below hb2
    replace k1 := k1.below hb2
    replace k2 := k2.below hb2
    have hB2 := below_trans hB1 hb2
    have hlt2 : w.heap.size + 1 + 1 < w2.heap.size := k2.lt
    clear hb2 hB1 x0 x1 x2 x3 x4
    obtain ⟨y0, y1, y2, y3, y4⟩ := k2.cell
    have yf := k2.frozen
    cases hfx : okT (d + 1) x with
    | false =>
      have hz : Hid (partPutT d t s0 x = (zeroT (d + 1), false)) := partPut_badx hfx
      have HN := hno w2 hB2
      clear k0 k1 k2 hB2 hv0 hx hno
      go_wp2_with fail
      rw [hz.out]
      refine bodyPost_ret (v := .tuple #[zeroVal, .bool false]) (by simp [results, Tryz.results96, go_sem, zeroVal, y0, y1, y2, y3, y4]; rfl) rfl ⟨_, rfl, zeroAt (d + 1) _ _, HN.out _ rfl⟩
    | true =>
    go_wp2_with fail
    refine (l1Str_any s0 w2 hs0).mono ?_
    rintro e w2' ⟨rfl, rfl⟩
    cases hstr : strOk s0 with
    | false =>
      have hz : Hid (partPutT d t s0 x = (zeroT (d + 1), false)) := partPut_not (mapL_no (Or.inr hstr))
      have HN := hno _ hB2
      clear k0 k1 k2 hB2 hv0 hx hno
      go_wp2_with fail
      rw [hz.out]
      refine bodyPost_ret (v := .tuple #[zeroVal, .bool false]) (by simp [results, Tryz.results96, go_sem, zeroVal, y0, y1, y2, y3, y4]; rfl) rfl ⟨_, rfl, zeroAt (d + 1) _ _, HN.out _ rfl⟩
    | true =>
      obtain ⟨x0, x1, x2, x3, x4⟩ := k0.cell
      obtain ⟨_, hl60, _⟩ := okT_kinds hf
      have hl60 : t.list.length ≤ 60 := hl60
      by_cases hkind : t.kind = 0 ∨ t.kind = 6
      · obtain ⟨hm, hkx, hkb⟩ := mapL_eq hf hstr hkind
        have hR := hide (partPut_does hm hfx)
        replace hkx : t.keys.length = t.list.length := hkx
        have hnod := nodes_put (ks := t.keys) (s := s0) (fun y hy => okT_part hf hy) hfx (by omega)
        have hfold : endP s0 x ((t.keys.zip t.list).foldl (stepP s0 x) (false, [])) = putL t.keys t.list s0 x := by
          have h := foldP_put (s := s0) (x := x) (p := none) [] hkx hkb
          rw [List.nil_append] at h
          exact h
        have hvU : ValAt (fun b => S b ∨ S2 b) _ (d + 2) t (.agg #[.int .i64 t.kind, .int .i64 t.num, .string t.str, .slice ak t.keys.length ck, .slice al t.list.length cl]) := (hv0.same (hS.same hB2)).mono (fun b hb => Or.inl hb)
        have hxU : ValAt (fun b => S b ∨ S2 b) _ (d + 1) x (.agg #[.int .i64 k', .int .i64 n', .string s', .slice ak' lk' ck', .slice al' ll' cl']) := (hx.same (hS2.same hB2)).mono (fun b hb => Or.inr hb)
        have hWU : Within (fun b => S b ∨ S2 b) w2' := fun b hb => by
          rcases hb with hb | hb
          · exact hS.later hB2.size b hb
          · exact hS2.later hB2.size b hb
        have hcall := hide (l2Put_any (d + 1) (fun b => S b ∨ S2 b) t _ s0 x _ w2' hvU hxU hWU hkx hl60 hs0)
        rw [hfold] at hcall
        obtain ⟨z0, z1, z2, z3, z4⟩ := k1.cell
        have HKX := hide hkx
        clear hv0 hx hno hvU hxU k0 k1 hfx hm hfold hkx hkb
        rcases hkind with hq | hq
        all_goals
          first
            | (have q0 : (t.kind != 0) = false := (by simpa using hq))
            | (have q0 : (t.kind != 0) = true := (by simp [hq]); have q6 : (t.kind != 6) = false := (by simpa using hq))
          clear hq
          go_wp2_with fail
          refine Calls.mono hcall.out ?_
          rintro e w3 ⟨u, rfl, hu, hb3⟩
          obtain ⟨u0, u1, u2, u3, u4, u5, u6, u7, u8, rfl⟩ := hu.shape
          have hB3 := below_trans hB2 hb3
          have k3 := k2.below hb3
          have hWU3 : Within (fun b => (S b ∨ S2 b) ∨ Fresh w2' w3 b) w3 := fun b hb => by
            rcases hb with hb | hb
            · exact Nat.lt_of_lt_of_le (hWU b hb) hb3.size
            · exact hb.2
          have hcall2 := hide (l2Told_any (d + 1) _ _ _ w3 hu hWU3 hnod)
          have hlt3 : w.heap.size + 1 + 1 < w3.heap.size := k3.lt
          clear hu hWU3 hcall hb3 x0 x1 x2 x3 x4 y0 y1 y2 y3 y4 yf z0 z1 z2 z3 z4
          go_wp2_with fail
          refine Calls.mono hcall2.out ?_
          rintro e w4 ⟨r, rfl, hr, hb4⟩
          obtain ⟨r0, r1, r2, r3, r4, r5, r6, r7, r8, rfl⟩ := hr.shape
          have HF := hide (tell_endA hr (below_trans hB3 hb4) (by omega) hlt3)
          have k4 := k3.below hb4
          obtain ⟨y0, y1, y2, y3, y4⟩ := k4.cell
          have yf := k4.frozen
          clear hr hb4 k3 k4 hcall2 hB3
          go_wp2_with fail
          rw [hR.out]
          exact bodyPost_ret (v := .tuple #[.agg #[.int .i64 r0, .int .i64 r1, .string r2, .slice r3 r4 r5, .slice r6 r7 r8], .bool (okT (d + 2) (mapT (d + 1) (putL t.keys t.list s0 x)))]) (by simp [results, Tryz.results96, go_sem, y0, y1, y2, y3, y4]) rfl ⟨_, rfl, (HF.out _ rfl).1, (HF.out _ rfl).2⟩
      · have n0 : t.kind ≠ 0 := fun h => hkind (Or.inl h)
        have n6 : t.kind ≠ 6 := fun h => hkind (Or.inr h)
        have hz : Hid (partPutT d t s0 x = (zeroT (d + 1), false)) := partPut_kind hf n0 n6
        have HN := hno _ hB2
        have q0 : (t.kind != 0) = true := by simpa using n0
        have q6 : (t.kind != 6) = true := by simpa using n6
        clear k0 k1 k2 hB2 hv0 hx hno hkind n0 n6
        go_wp2_with fail
        rw [hz.out]
        refine bodyPost_ret (v := .tuple #[zeroVal, .bool false]) (by simp [results, Tryz.results96, go_sem, zeroVal, y0, y1, y2, y3, y4]; rfl) rfl ⟨_, rfl, zeroAt (d + 1) _ _, HN.out _ rfl⟩
end Go.Proofs.YtmibjmipndffmaaGreatDoor

/- l2Told of the model: a tree in new memory, if it is right : the answer owns its memory. -/
namespace Go.Proofs.YtmibjmipndffmaaGreatDoor
open Go.RowKit Go.Deep

set_option maxRecDepth 100000 in
set_option maxHeartbeats 4000000 in
theorem l2Told_own (d : Nat) (S : Nat → Prop) (t : Tr (d + 1)) (v : Value) (w : World) (hv : ValAt S w (d + 1) t v) (hS : Within S w) (hsm : (nodes (d + 1) t : Int) ≤ 4194304) :
    Calls Tryz.prog 49 #[v] w (TellQ d (toldT d t) (okT (d + 1) t) w) := by
  have hv0 := hv
  obtain ⟨k, n, s, ak, lk, ck, al, ll, cl, rfl⟩ := hv.shape
  obtain ⟨W0, hW⟩ : ∃ W0, W0 = (w.alloc (.cells #[.int .i64 k, .int .i64 n, .string s, .slice ak lk ck, .slice al ll cl] 26)).alloc (.cells #[.int .i64 0, .int .i64 0, .string { data := #[] }, .slice none 0 0, .slice none 0 0] 26) := ⟨_, rfl⟩
  have hW0 : Below w.heap.size w W0 := by rw [hW]; exact below_trans (below_alloc1 _ _) (below_alloc1 _ _)
  have k0 : Blk5 W0 w.heap.size 26 (.int .i64 k) (.int .i64 n) (.string s) (.slice ak lk ck) (.slice al ll cl) := by
    rw [hW]; exact (Blk5.new w 26 _ _ _ _ _).alloc _
  have k1 : Blk5 W0 (w.heap.size + 1) 26 (.int .i64 0) (.int .i64 0) (.string { data := #[] }) (.slice none 0 0) (.slice none 0 0) := by
    have := Blk5.new (w.alloc (.cells #[.int .i64 k, .int .i64 n, .string s, .slice ak lk ck, .slice al ll cl] 26)) 26 (.int .i64 0) (.int .i64 0) (.string { data := #[] }) (.slice none 0 0) (.slice none 0 0)
    rw [World.size_alloc] at this
    rw [hW]
    exact this
  have HW := hide hW
  clear hW hv
  go_enter Tryz.func49, Tryz.ntmps49
  go_wp2_with fail
  rw [← HW.out]
  clear HW
  refine (specValOk_any (d + 1) S t _ W0 (hv0.same (hS.same hW0)) (hS.later hW0.size) hsm).mono ?_
  rintro e w1 ⟨rfl, hb1⟩
  replace k0 := k0.below hb1
  replace k1 := k1.below hb1
  have hB1 := below_trans hW0 hb1
  obtain ⟨x0, x1, x2, x3, x4⟩ := k0.cell
  have hlt := k1.lt
  clear hb1 hW0
  cases hf : okT (d + 1) t with
  | false =>
    have hz : Hid (toldT d t = zeroT d) := by
      show toldT d t = _
      rw [toldT, hf]
      rfl
    have hno : Hid (∀ wF, wF = set5 w1 (w.heap.size + 1) 0 (.int .i64 0) (.int .i64 0) (.string { data := #[] }) (.slice none 0 0) (.slice none 0 0) → Below w.heap.size w wF) := by
      intro wF hF
      rw [hF]
      exact below_set5 hB1 (by omega) _ _ _ _ _ _
    obtain ⟨y0, y1, y2, y3, y4⟩ := k1.cell
    have yf := k1.frozen
    clear k0 k1 hB1 hv0
    go_wp2_with fail
    rw [hz.out, hf]
    refine bodyPost_ret (v := .tuple #[zeroVal, .bool false]) (by simp [results, Tryz.results49, go_sem, zeroVal, y0, y1, y2, y3, y4]; rfl) rfl ⟨_, rfl, zeroVal_own d _ _, hno.out _ rfl⟩
  | true =>
    have hz : Hid (toldT d t = t) := by
      show toldT d t = _
      rw [toldT, hf]
      rfl
    have hwt := wtT_ok hf
    go_wp2_with fail
    refine (l1Copy_any (d + 1) S t _ w1 (hv0.same (hS.same hB1)) (hS.later hB1.size) (by omega)).mono ?_
    rintro e w3 ⟨u, rfl, hu3, hb3⟩
    obtain ⟨u0, u1, u2, u3, u4, u5, u6, u7, u8, rfl⟩ := (ValOwn.at _ _ _ _ hu3).shape
    have HF := hide (tell_end hu3 (below_trans hB1 hb3) (by omega) hlt)
    have k3 := k1.below hb3
    clear hu3 hb3 k1 k0 hv0 x0 x1 x2 x3 x4
    obtain ⟨y0, y1, y2, y3, y4⟩ := k3.cell
    have yf := k3.frozen
    clear k3
    go_wp2_with fail
    rw [hz.out, hf]
    refine bodyPost_ret (v := .tuple #[.agg #[.int .i64 u0, .int .i64 u1, .string u2, .slice u3 u4 u5, .slice u6 u7 u8], .bool true]) (by simp [results, Tryz.results49, go_sem, y0, y1, y2, y3, y4]) rfl ⟨_, rfl, (HF.out _ rfl).1, (HF.out _ rfl).2⟩
end Go.Proofs.YtmibjmipndffmaaGreatDoor

/- PartPut of the model : the answer owns its memory. -/
namespace Go.Proofs.YtmibjmipndffmaaGreatDoor
open Go.RowKit Go.Deep

set_option maxRecDepth 100000 in
set_option maxHeartbeats 4000000 in
theorem specPartPut_own (d : Nat) (S : Nat → Prop) (t : Tr (d + 2)) (v : Value) (s0 : ByteArray) (hs0 : s0.size < 281474976710656) (S2 : Nat → Prop) (x : Tr (d + 1)) (xv : Value) (w : World) (hv : ValAt S w (d + 2) t v) (hS : Within S w) (hx : ValAt S2 w (d + 1) x xv) (hS2 : Within S2 w) (hsm : (nodes (d + 2) t : Int) ≤ 4194304) (hsx : (nodes (d + 1) x : Int) ≤ 4194304) :
    Calls Tryz.prog 96 #[v, .string s0, xv] w (TellQ (d + 1) (partPutT d t s0 x).1 (partPutT d t s0 x).2 w) := by
  have hv0 := hv
  obtain ⟨vk, vl, rfl, i1, i2, i3, hk, hl⟩ := hv
  obtain ⟨ak, ck, rfl, hkl⟩ := hk.open'
  obtain ⟨al, cl, rfl, hll⟩ := hl.open'
  obtain ⟨k', n', s', ak', lk', ck', al', ll', cl', rfl⟩ := hx.shape
  obtain ⟨k0, k1, k2, hW0, hsz0⟩ := laid3 w 26 26 26 (.int .i64 t.kind) (.int .i64 t.num) (.string t.str) (.slice ak t.keys.length ck) (.slice al t.list.length cl) (.int .i64 k') (.int .i64 n') (.string s') (.slice ak' lk' ck') (.slice al' ll' cl') (.int .i64 0) (.int .i64 0) (.string { data := #[] }) (.slice none 0 0) (.slice none 0 0)
  obtain ⟨W0, hW⟩ : ∃ W0, W0 = ((w.alloc (.cells #[.int .i64 t.kind, .int .i64 t.num, .string t.str, .slice ak t.keys.length ck, .slice al t.list.length cl] 26)).alloc (.cells #[.int .i64 k', .int .i64 n', .string s', .slice ak' lk' ck', .slice al' ll' cl'] 26)).alloc (.cells #[.int .i64 0, .int .i64 0, .string { data := #[] }, .slice none 0 0, .slice none 0 0] 26) := ⟨_, rfl⟩
  rw [← hW] at k0 k1 k2 hW0 hsz0
  have HW := hide hW
  have HSZ := hide hsz0
  clear hW hk hl hsz0
  go_enter Tryz.func96, Tryz.ntmps96
  go_wp2_with fail
  rw [← HW.out]
  clear HW
  refine (specValOk_any (d + 2) S t _ W0 (hv0.same (hS.same hW0)) (hS.later hW0.size) hsm).mono ?_
  rintro e w1 ⟨rfl, hb1⟩
  replace k0 := k0.below hb1
  replace k1 := k1.below hb1
  replace k2 := k2.below hb1
  have hB1 := below_trans hW0 hb1
  have hlt : w.heap.size + 1 + 1 < w1.heap.size := k2.lt
  clear hb1 hW0
  -- the end, where it can not be done
  have hno : ∀ wn, Below w.heap.size w wn → Hid (∀ wF, wF = set5 wn (w.heap.size + 1 + 1) 0 (.int .i64 0) (.int .i64 0) (.string { data := #[] }) (.slice none 0 0) (.slice none 0 0) → Below w.heap.size w wF) := by
    intro wn hn wF hF
    rw [hF]
    exact below_set5 hn (by omega) _ _ _ _ _ _
  cases hf : okT (d + 2) t with
  | false =>
    have hz : Hid (partPutT d t s0 x = (zeroT (d + 1), false)) := partPut_not (mapL_no (Or.inl hf))
    have HN := hno w1 hB1
    obtain ⟨y0, y1, y2, y3, y4⟩ := k2.cell
    have yf := k2.frozen
    clear k0 k1 k2 hB1 hv0 hx hno
    go_wp2_with fail
    rw [hz.out]
    refine bodyPost_ret (v := .tuple #[zeroVal, .bool false]) (by simp [results, Tryz.results96, go_sem, zeroVal, y0, y1, y2, y3, y4]; rfl) rfl ⟨_, rfl, zeroVal_own (d + 1) _ _, HN.out _ rfl⟩
  | true =>
    obtain ⟨x0, x1, x2, x3, x4⟩ := k1.cell
    go_wp2_with fail
    refine (specValOk_any (d + 1) S2 x _ w1 (hx.same (hS2.same hB1)) (hS2.later hB1.size) hsx).mono ?_
    rintro e w2 ⟨rfl, hb2⟩
    replace k0 := k0.below hb2
    replace k1 := k1.below hb2
    replace k2 := k2.below hb2
    have hB2 := below_trans hB1 hb2
    have hlt2 : w.heap.size + 1 + 1 < w2.heap.size := k2.lt
    clear hb2 hB1 x0 x1 x2 x3 x4
    obtain ⟨y0, y1, y2, y3, y4⟩ := k2.cell
    have yf := k2.frozen
    cases hfx : okT (d + 1) x with
    | false =>
      have hz : Hid (partPutT d t s0 x = (zeroT (d + 1), false)) := partPut_badx hfx
      have HN := hno w2 hB2
      clear k0 k1 k2 hB2 hv0 hx hno
      go_wp2_with fail
      rw [hz.out]
      refine bodyPost_ret (v := .tuple #[zeroVal, .bool false]) (by simp [results, Tryz.results96, go_sem, zeroVal, y0, y1, y2, y3, y4]; rfl) rfl ⟨_, rfl, zeroVal_own (d + 1) _ _, HN.out _ rfl⟩
    | true =>
    go_wp2_with fail
    refine (l1Str_any s0 w2 hs0).mono ?_
    rintro e w2' ⟨rfl, rfl⟩
    cases hstr : strOk s0 with
    | false =>
      have hz : Hid (partPutT d t s0 x = (zeroT (d + 1), false)) := partPut_not (mapL_no (Or.inr hstr))
      have HN := hno _ hB2
      clear k0 k1 k2 hB2 hv0 hx hno
      go_wp2_with fail
      rw [hz.out]
      refine bodyPost_ret (v := .tuple #[zeroVal, .bool false]) (by simp [results, Tryz.results96, go_sem, zeroVal, y0, y1, y2, y3, y4]; rfl) rfl ⟨_, rfl, zeroVal_own (d + 1) _ _, HN.out _ rfl⟩
    | true =>
      obtain ⟨x0, x1, x2, x3, x4⟩ := k0.cell
      obtain ⟨_, hl60, _⟩ := okT_kinds hf
      have hl60 : t.list.length ≤ 60 := hl60
      by_cases hkind : t.kind = 0 ∨ t.kind = 6
      · obtain ⟨hm, hkx, hkb⟩ := mapL_eq hf hstr hkind
        have hR := hide (partPut_does hm hfx)
        replace hkx : t.keys.length = t.list.length := hkx
        have hnod := nodes_put (ks := t.keys) (s := s0) (fun y hy => okT_part hf hy) hfx (by omega)
        have hfold : endP s0 x ((t.keys.zip t.list).foldl (stepP s0 x) (false, [])) = putL t.keys t.list s0 x := by
          have h := foldP_put (s := s0) (x := x) (p := none) [] hkx hkb
          rw [List.nil_append] at h
          exact h
        have hvU : ValAt (fun b => S b ∨ S2 b) _ (d + 2) t (.agg #[.int .i64 t.kind, .int .i64 t.num, .string t.str, .slice ak t.keys.length ck, .slice al t.list.length cl]) := (hv0.same (hS.same hB2)).mono (fun b hb => Or.inl hb)
        have hxU : ValAt (fun b => S b ∨ S2 b) _ (d + 1) x (.agg #[.int .i64 k', .int .i64 n', .string s', .slice ak' lk' ck', .slice al' ll' cl']) := (hx.same (hS2.same hB2)).mono (fun b hb => Or.inr hb)
        have hWU : Within (fun b => S b ∨ S2 b) w2' := fun b hb => by
          rcases hb with hb | hb
          · exact hS.later hB2.size b hb
          · exact hS2.later hB2.size b hb
        have hcall := hide (l2Put_any (d + 1) (fun b => S b ∨ S2 b) t _ s0 x _ w2' hvU hxU hWU hkx hl60 hs0)
        rw [hfold] at hcall
        obtain ⟨z0, z1, z2, z3, z4⟩ := k1.cell
        have HKX := hide hkx
        clear hv0 hx hno hvU hxU k0 k1 hfx hm hfold hkx hkb
        rcases hkind with hq | hq
        all_goals
          first
            | (have q0 : (t.kind != 0) = false := (by simpa using hq))
            | (have q0 : (t.kind != 0) = true := (by simp [hq]); have q6 : (t.kind != 6) = false := (by simpa using hq))
          clear hq
          go_wp2_with fail
          refine Calls.mono hcall.out ?_
          rintro e w3 ⟨u, rfl, hu, hb3⟩
          obtain ⟨u0, u1, u2, u3, u4, u5, u6, u7, u8, rfl⟩ := hu.shape
          have hB3 := below_trans hB2 hb3
          have k3 := k2.below hb3
          have hWU3 : Within (fun b => (S b ∨ S2 b) ∨ Fresh w2' w3 b) w3 := fun b hb => by
            rcases hb with hb | hb
            · exact Nat.lt_of_lt_of_le (hWU b hb) hb3.size
            · exact hb.2
          have hcall2 := hide (l2Told_own (d + 1) _ _ _ w3 hu hWU3 hnod)
          have hlt3 : w.heap.size + 1 + 1 < w3.heap.size := k3.lt
          clear hu hWU3 hcall hb3 x0 x1 x2 x3 x4 y0 y1 y2 y3 y4 yf z0 z1 z2 z3 z4
          go_wp2_with fail
          refine Calls.mono hcall2.out ?_
          rintro e w4 ⟨r, rfl, hr, hb4⟩
          obtain ⟨r0, r1, r2, r3, r4, r5, r6, r7, r8, rfl⟩ := (ValOwn.at _ _ _ _ hr).shape
          have HF := hide (tell_end hr (below_trans hB3 hb4) (by omega) hlt3)
          have k4 := k3.below hb4
          obtain ⟨y0, y1, y2, y3, y4⟩ := k4.cell
          have yf := k4.frozen
          clear hr hb4 k3 k4 hcall2 hB3
          go_wp2_with fail
          rw [hR.out]
          exact bodyPost_ret (v := .tuple #[.agg #[.int .i64 r0, .int .i64 r1, .string r2, .slice r3 r4 r5, .slice r6 r7 r8], .bool (okT (d + 2) (mapT (d + 1) (putL t.keys t.list s0 x)))]) (by simp [results, Tryz.results96, go_sem, y0, y1, y2, y3, y4]) rfl ⟨_, rfl, (HF.out _ rfl).1, (HF.out _ rfl).2⟩
      · have n0 : t.kind ≠ 0 := fun h => hkind (Or.inl h)
        have n6 : t.kind ≠ 6 := fun h => hkind (Or.inr h)
        have hz : Hid (partPutT d t s0 x = (zeroT (d + 1), false)) := partPut_kind hf n0 n6
        have HN := hno _ hB2
        have q0 : (t.kind != 0) = true := by simpa using n0
        have q6 : (t.kind != 6) = true := by simpa using n6
        clear k0 k1 k2 hB2 hv0 hx hno hkind n0 n6
        go_wp2_with fail
        rw [hz.out]
        refine bodyPost_ret (v := .tuple #[zeroVal, .bool false]) (by simp [results, Tryz.results96, go_sem, zeroVal, y0, y1, y2, y3, y4]; rfl) rfl ⟨_, rfl, zeroVal_own (d + 1) _ _, HN.out _ rfl⟩
end Go.Proofs.YtmibjmipndffmaaGreatDoor

/- A row of the model's that is being made out of trees that lie elsewhere. -/
namespace Go.Proofs.YtmibjmipndffmaaGreatDoor
open Go.RowKit Go.Deep

theorem mem_padL {α : Type} {xs : List α} {z y : α} {n : Nat} (h : y ∈ padL xs z n) : y ∈ xs ∨ y = z := by
  unfold padL at h
  rcases List.mem_append.1 h with h | h
  · exact Or.inl h
  · exact Or.inr (List.eq_of_mem_replicate h)
theorem mem_setL {α : Type} {xs : List α} {z x y : α} {k : Nat} (h : y ∈ setL xs z k x) : y ∈ xs ∨ y = z ∨ y = x := by
  unfold setL at h
  rcases List.mem_or_eq_of_mem_set h with h | h
  · rcases mem_padL h with h | h
    · exact Or.inl h
    · exact Or.inr (Or.inl h)
  · exact Or.inr (Or.inr h)

end Go.Proofs.YtmibjmipndffmaaGreatDoor

/- l2Set of the model. -/
namespace Go.Proofs.YtmibjmipndffmaaGreatDoor
open Go.RowKit Go.Deep

/-- What stands while a row is made longer, in a variable's list. -/
structure L2At (d : Nat) (S : Nat → Prop) (N ob : Nat) (W wr : World) (xs : List (Tr (d + 1))) (lv : Value) (ws : List Value) : Prop where
  out : Blk5 wr ob 26 (.int .i64 5) (.int .i64 0) (.string { data := #[] }) (.slice none 0 0) lv
  row : VTo S N wr lv xs ws
  below : Below N W wr
  off : lv.ownBlock ≠ some ob
  ge : N ≤ ob

theorem L2At.step {d N ob : Nat} {S : Nat → Prop} {W wr w2 : World} {xs : List (Tr (d + 1))} {lv lv' : Value} {ws : List Value} {o : Obj} (h : L2At d S N ob W wr xs lv ws) (hS : ∀ b, S b → b < N) (hSw : Within S wr)
    (hown : w2.ownsRow N 26 5 lv' (xs.length + 1) (ws ++ [.int .i64 0, .int .i64 0, .string { data := #[] }, .slice none 0 0, .slice none 0 0])) (hg : (wr.alloc o).grownBy w2 lv.ownBlock) (hw : lv'.ownBlock = lv.ownBlock ∨ lv'.ownBlock = some (wr.alloc o).heap.size) :
    Blk5 w2 ob 26 (.int .i64 5) (.int .i64 0) (.string { data := #[] }) (.slice none 0 0) lv ∧ L2At d S N ob W (w2.setCell ⟨ob, 4, none⟩ lv') (xs ++ [zeroT d]) lv' (ws ++ [.int .i64 0, .int .i64 0, .string { data := #[] }, .slice none 0 0, .slice none 0 0]) := by
  have hol := h.out.lt
  have hge := h.ge
  have hs2 := hg.size
  have hz : (wr.alloc o).heap.size = wr.heap.size + 1 := by simp
  rw [hz] at hw
  have hrow : ∀ g, lv.ownBlock = some g → N ≤ g := fun g hg => (h.row.1.lt g hg).1
  have hblk : ∀ b, b < wr.heap.size → some b ≠ lv.ownBlock → w2.heap[b]? = wr.heap[b]? := fun b hb1 hb2 => (hg.block b (by omega) hb2).trans (Below.heap_alloc _ _ _ hb1)
  have yb : Blk5 w2 ob 26 (.int .i64 5) (.int .i64 0) (.string { data := #[] }) (.slice none 0 0) lv := h.out.of_block (hblk ob hol (fun e => h.off e.symm))
  have hsame : Same S wr w2 := fun b hb => hblk b (hSw b hb) (fun e => by have := hrow b e.symm; have := hS b hb; omega)
  have hoff : lv'.ownBlock ≠ some ob := by
    rcases hw with e | e
    · rw [e]; exact h.off
    · rw [e]; intro e2; cases e2; omega
  refine ⟨yb, yb.set4 _, ?_, ?_, hoff, hge⟩
  · have hz0 : ValAt S wr (d + 1) (zeroT d) (.agg #[.int .i64 0, .int .i64 0, .string { data := #[] }, .slice none 0 0, .slice none 0 0]) := zeroAt d S wr
    refine (h.row.grow hsame hz0 hown).moved (fun b hb => Below.heap_setCell _ _ _ _ (by have := hS b hb; show b ≠ ob; omega)) (fun g hg => Below.heap_setCell _ _ _ _ (fun e => hoff (by rw [hg, e])))
  · have hb := h.below
    refine ⟨hg.os.trans hb.os, hg.tape.trans hb.tape, hg.output.trans hb.output, ?_, fun b hbN => ?_⟩
    · have := hb.size
      simp [World.setCell]
      omega
    · exact (Below.heap_setCell _ _ _ _ (by show b ≠ ob; omega)).trans ((hblk b (by omega) (fun e => by have := hrow b e.symm; omega)).trans (hb.block b hbN))

set_option maxRecDepth 100000 in
set_option maxHeartbeats 1000000 in
theorem l2Set_any (d : Nat) (S : Nat → Prop) (t : Tr (d + 2)) (v : Value) (x : Tr (d + 1)) (xv : Value) (k : Nat) (w : World) (hv : ValAt S w (d + 2) t v) (hx : ValAt S w (d + 1) x xv) (hS : Within S w) (hk : k < 60) (hl : (Nd.list t).length ≤ 60) :
    Calls Tryz.prog 123 #[v, .int .i64 (k : Int), xv] w fun e w' => ∃ u, e = .returned u ∧ ValAt (fun b => S b ∨ Fresh w w' b) w' (d + 2) (rowT (d + 1) (setL (Nd.list t) (zeroT d) k x)) u ∧ Below w.heap.size w w' := by
  obtain ⟨kind, num, str, keys, list⟩ := t
  obtain ⟨vk, vl, rfl, i1, i2, i3, hk', hl'⟩ := hv
  have hl' : RowAt S w (ValAt S w (d + 1)) vl list := hl'
  have hl : list.length ≤ 60 := hl
  obtain ⟨ak, ck, rfl, hkl⟩ := hk'.open'
  obtain ⟨al, cl, rfl, hll⟩ := hl'.open'
  obtain ⟨k', n', s', ak', lk', ck', al', ll', cl', rfl⟩ := hx.shape
  show Calls Tryz.prog 123 #[.agg #[.int .i64 kind, .int .i64 num, .string str, .slice ak keys.length ck, .slice al list.length cl], .int .i64 (k : Int), .agg #[.int .i64 k', .int .i64 n', .string s', .slice ak' lk' ck', .slice al' ll' cl']] w _
  obtain ⟨k0, k1, k2, hW0, hsz0⟩ := laid3 w 26 26 26 (.int .i64 kind) (.int .i64 num) (.string str) (.slice ak keys.length ck) (.slice al list.length cl) (.int .i64 k') (.int .i64 n') (.string s') (.slice ak' lk' ck') (.slice al' ll' cl') (.int .i64 0) (.int .i64 0) (.string { data := #[] }) (.slice none 0 0) (.slice none 0 0)
  obtain ⟨W0, hW⟩ : ∃ W0, W0 = ((w.alloc (.cells #[.int .i64 kind, .int .i64 num, .string str, .slice ak keys.length ck, .slice al list.length cl] 26)).alloc (.cells #[.int .i64 k', .int .i64 n', .string s', .slice ak' lk' ck', .slice al' ll' cl'] 26)).alloc (.cells #[.int .i64 0, .int .i64 0, .string { data := #[] }, .slice none 0 0, .slice none 0 0] 26) := ⟨_, rfl⟩
  rw [← hW] at k0 k1 k2 hW0 hsz0
  have hWg := below_trans hW0 (below_alloc1 W0 (.cells #[] 26))
  have hgn : (W0.alloc (.cells #[] 26)).heap[w.heap.size + 1 + 1 + 1]? = some (.cells #[] 26 (0, 0)) := by
    have := heap_alloc_new W0 (.cells #[] 26)
    rw [hsz0] at this
    exact this
  have hAP := run_append_vals (d := d + 1) S list al cl (w.heap.size + 1 + 1 + 1) 24 (W0.alloc (.cells #[] 26)) hgn (hl'.same (hS.same hWg)) (fun h => by have := hS _ h; omega) (hS.later hWg.size) (by omega)
  rw [hW] at hAP
  have HAP := hide hAP
  have HW := hide hW
  have hxw := hide (hx.same (hS.same hW0))
  have hS0 : ∀ b, S b → b < w.heap.size + 1 + 1 + 1 := fun b hb => by have := hS b hb; omega
  clear hAP hW hk' hl' hx hgn hWg k0
  go_enter Tryz.func123, Tryz.ntmps123
  go_wp2_with (at_builtin; refine wpList_append_run _ rfl _ _ 24 rfl _ _ rfl rfl HAP.out ?_)
  intro v' w1 vs hvt hgr a' c' hv'
  subst hv'
  rw [← HW.out] at hgr
  have hz0 : (W0.alloc (.cells #[] 26)).heap.size = w.heap.size + 1 + 1 + 1 + 1 := by simp [hsz0]
  have hs1 := hgr.size
  have hb1 : Below W0.heap.size W0 w1 := ⟨hgr.os, hgr.tape, hgr.output, by omega, fun b hb => (hgr.block b (by omega) (fun e => by cases e; omega)).trans (Below.heap_alloc _ _ _ hb)⟩
  have hlt1 : ∀ g, (Value.slice a' list.length c').ownBlock = some g → g < w1.heap.size := fun g hg => (hvt.1.lt g hg).2
  have hst : Hid (L2At d S (w.heap.size + 1 + 1 + 1) w1.heap.size W0 (w1.alloc (.cells #[.int .i64 5, .int .i64 0, .string { data := #[] }, .slice none 0 0, .slice a' list.length c'] 26)) (list ++ List.replicate 0 (zeroT d)) (.slice a' list.length c') vs) := by
    refine ⟨Blk5.new _ _ _ _ _ _ _, ?_, ?_, fun e => by have := hlt1 _ e; omega, by omega⟩
    · rw [List.replicate_zero, List.append_nil]
      exact hvt.moved (fun b hb => Below.heap_alloc _ _ _ (by have := hS0 b hb; omega)) (fun g hg => Below.heap_alloc _ _ _ (hlt1 g hg))
    · exact Below.trans (by rw [← hsz0]; exact hb1) ((below_alloc1 _ _).mono (by omega))
  obtain ⟨i0, hi, hz0', hz1, hz2⟩ := info_parts Tryz.infoV2
  have hBw := hW0
  clear hvt hgr HAP HW hz0 hb1 hlt1 hW0
  go_wp2_with fail
  go_loopw [] (fun wr => ∃ (m : Nat) (ra : Option Addr) (rc : Nat) (ws : List Value), list.length + m ≤ max list.length (k + 1) ∧ Hid (L2At d S (w.heap.size + 1 + 1 + 1) w1.heap.size W0 wr (list ++ List.replicate m (zeroT d)) (.slice ra (list.length + m) rc) ws)) (fun wr => k + 1 - (match wr.cell? ⟨w1.heap.size, 4, none⟩ with | some (.slice _ n _) => n | _ => 0))
  case atStart => exact ⟨0, a', c', vs, by omega, hst⟩
  case round =>
    clear hst
    obtain ⟨m, ra, rc, ws, hm, hat⟩ := hrel
    have hlen : (list ++ List.replicate m (zeroT d)).length = list.length + m := by rw [List.length_append, List.length_replicate]
    have hown := hat.out.row.1
    rw [hlen] at hown
    obtain ⟨y0, y1, y2, y3, y4⟩ := hat.out.out.cell
    have hsw : w.heap.size + 1 + 1 + 1 ≤ wr.heap.size := by have := hat.out.out.lt; have := hat.out.ge; omega
    by_cases hgo : list.length + m ≤ k
    · have hgi : ((list.length + m : Nat) : Int) ≤ (k : Int) := by omega
      have HO := hide (hown.alloc (.cells #[.int .i64 0, .int .i64 0, .string { data := #[] }, .slice none 0 0, .slice none 0 0] 26))
      have hstep : Hid (∀ lv' w2, w2.ownsRow (w.heap.size + 1 + 1 + 1) 26 5 lv' (list.length + m + 1) (ws ++ [.int .i64 0, .int .i64 0, .string { data := #[] }, .slice none 0 0, .slice none 0 0]) → (wr.alloc (.cells #[.int .i64 0, .int .i64 0, .string { data := #[] }, .slice none 0 0, .slice none 0 0] 26)).grownBy w2 (Value.slice ra (list.length + m) rc).ownBlock →
          (lv'.ownBlock = (Value.slice ra (list.length + m) rc).ownBlock ∨ lv'.ownBlock = some (wr.alloc (.cells #[.int .i64 0, .int .i64 0, .string { data := #[] }, .slice none 0 0, .slice none 0 0] 26)).heap.size) →
          ∃ ra' rc', lv' = .slice ra' (list.length + (m + 1)) rc' ∧ Blk5 w2 w1.heap.size 26 (.int .i64 5) (.int .i64 0) (.string { data := #[] }) (.slice none 0 0) (.slice ra (list.length + m) rc) ∧ L2At d S (w.heap.size + 1 + 1 + 1) w1.heap.size W0 (w2.setCell ⟨w1.heap.size, 4, none⟩ lv') (list ++ List.replicate (m + 1) (zeroT d)) lv' (ws ++ [.int .i64 0, .int .i64 0, .string { data := #[] }, .slice none 0 0, .slice none 0 0])) := by
        intro lv' w2 o1 o2 o3
        have hshape : ∃ ra' rc', lv' = .slice ra' (list.length + (m + 1)) rc' := by
          rcases o1.2 with ⟨_, h0⟩ | ⟨g, cap, cur, hv, _⟩
          · omega
          · exact ⟨_, _, hv⟩
        obtain ⟨ra', rc', rfl⟩ := hshape
        have hs := hat.out.step hS0 (fun b hb => Nat.lt_of_lt_of_le (hS0 b hb) hsw) (by rw [hlen]; exact o1) o2 o3
        rw [← padL_step] at hs
        exact ⟨ra', rc', rfl, hs⟩
      clear hat hown
      go_wp2_with (at_builtin; refine wpList_append_own_at _ rfl _ _ 24 rfl (w.heap.size + 1 + 1 + 1) 26 i0 zeroVal 5 80 Tryz.underlying24 hi hz0' hz1 hz2 rfl (by decide) _ _ _ rfl HO.out ⟨wr.heap.size, 0, none⟩ 1 1 [.int .i64 0, .int .i64 0, .string { data := #[] }, .slice none 0 0, .slice none 0 0] rfl rfl (cell_five_new _ _ _ _ _ _ _) ?c2 ?c3 ?c4 ?c5 ?_)
      case c2 => intro y hy; simp at hy; rcases hy with rfl | rfl | rfl <;> rfl
      case c3 => unfold maxLen; omega
      case c4 => omega
      case c5 => simp; omega
      · intro lv' w2 o1 o2 _ o3
        have HH := hide (hstep.out lv' w2 o1 o2 (by rw [World.size_alloc]; exact o3))
        clear o1 o2 o3 hstep HO
        obtain ⟨ra', rc', rfl, hyb, hnew⟩ := HH.out
        clear HH
        obtain ⟨_, _, _, _, z4⟩ := hyb.cell
        have zf := hyb.frozen 4
        have hn4 := hnew.out.cell.2.2.2.2
        have HN := hide hnew
        have HN4 := hide hn4
        have HY4 := hide y4
        clear hnew hn4 hyb
        go_wp2_with fail
        go_roundw
        case rel => exact ⟨m + 1, ra', rc', _, by omega, HN.out⟩
        case measure =>
          rw [HN4.out, HY4.out]
          show k + 1 - (list.length + (m + 1)) < k + 1 - (list.length + m)
          omega
    · have hgi : ¬ ((list.length + m : Nat) : Int) ≤ (k : Int) := by omega
      have hki : (k : Int) < ((list.length + m : Nat) : Int) := by omega
      obtain ⟨g, rfl⟩ : ∃ g, ra = some ⟨g, 0, none⟩ := by
        rcases hown.2 with ⟨_, h0⟩ | ⟨g, cap, cur, hv, _⟩
        · omega
        · exact ⟨g, by cases hv; rfl⟩
      have hwl : ws.length = (list.length + m) * 5 := hown.1
      have hce : ∀ r, r < 5 → ∃ u, wr.cell? ⟨g, k * 5 + r, none⟩ = some u := fun r hr => ⟨_, (hown.cellAt (k * 5 + r) (by omega)).trans (List.getElem?_eq_getElem (by omega))⟩
      obtain ⟨c0, e0⟩ := hce 0 (by omega)
      obtain ⟨c1, e1⟩ := hce 1 (by omega)
      obtain ⟨c2, e2⟩ := hce 2 (by omega)
      obtain ⟨c3, e3⟩ := hce 3 (by omega)
      obtain ⟨c4, e4⟩ := hce 4 (by omega)
      rw [Nat.add_zero] at e0
      have f0 := hown.frozenAt (k * 5)
      have f1 := hown.frozenAt (k * 5 + 1)
      have f2 := hown.frozenAt (k * 5 + 2)
      have f3 := hown.frozenAt (k * 5 + 3)
      have f4 := hown.frozenAt (k * 5 + 4)
      have hm' := hide (show m = k + 1 - list.length by omega)
      have hbw := hat.out.below
      have hgN := (hown.lt g rfl).1
      have hng : ¬ w1.heap.size = g := fun e => hat.out.off (by rw [← e]; rfl)
      have hng' : ¬ g = w1.heap.size := fun e => hng e.symm
      have kx := k1.of_block (hbw.block _ (by omega))
      have kr := k2.of_block (hbw.block _ (by omega))
      have hxr := hxw.out.same (fun b hb => hbw.block b (hS0 b hb))
      have hput := hat.out.row.put (k := k) (x := x) hlen.symm (by rw [hlen]; omega) hxr hS0
      have kr2 : Blk5 (set5 wr g (k * 5) (.int .i64 k') (.int .i64 n') (.string s') (.slice ak' lk' ck') (.slice al' ll' cl')) (w.heap.size + 1 + 1) 26 (.int .i64 0) (.int .i64 0) (.string { data := #[] }) (.slice none 0 0) (.slice none 0 0) := kr.of_block (set5_block _ _ _ _ _ _ _ _ _ (by omega))
      have ko2 : Blk5 (set5 wr g (k * 5) (.int .i64 k') (.int .i64 n') (.string s') (.slice ak' lk' ck') (.slice al' ll' cl')) w1.heap.size 26 (.int .i64 5) (.int .i64 0) (.string { data := #[] }) (.slice none 0 0) (.slice (some ⟨g, 0, none⟩) (list.length + m) rc) := hat.out.out.of_block (set5_block _ _ _ _ _ _ _ _ _ hng)
      have hsl := setL_length list (zeroT d) k x
      have hend : Hid (∀ wF, wF = set5 (set5 wr g (k * 5) (.int .i64 k') (.int .i64 n') (.string s') (.slice ak' lk' ck') (.slice al' ll' cl')) (w.heap.size + 1 + 1) 0 (.int .i64 5) (.int .i64 0) (.string { data := #[] }) (.slice none 0 0) (.slice (some ⟨g, 0, none⟩) (list.length + m) rc) →
          ValAt (fun b => S b ∨ Fresh w wF b) wF (d + 2) (rowT (d + 1) (setL list (zeroT d) k x)) (.agg #[.int .i64 5, .int .i64 0, .string { data := #[] }, .slice none 0 0, .slice (some ⟨g, 0, none⟩) (list.length + m) rc]) ∧ Below w.heap.size w wF) := by
        intro wF hF
        obtain ⟨⟨vs', hvs⟩, hbp⟩ := hput
        have hzF : wF.heap.size = wr.heap.size := by rw [hF, set5_size, set5_size]
        have hvs2 : VTo S (w.heap.size + 1 + 1 + 1) (set5 wr g (k * 5) (.int .i64 k') (.int .i64 n') (.string s') (.slice ak' lk' ck') (.slice al' ll' cl')) (.slice (some ⟨g, 0, none⟩) (list.length + m) rc) (setL list (zeroT d) k x) vs' := by
          unfold setL padL
          rw [← hm'.out]
          exact hvs
        have hrow := hvs2.at (by omega)
        have hsm : ∀ b, b ≠ w.heap.size + 1 + 1 → wF.heap[b]? = (set5 wr g (k * 5) (.int .i64 k') (.int .i64 n') (.string s') (.slice ak' lk' ck') (.slice al' ll' cl')).heap[b]? := fun b hb => by rw [hF, set5_block _ _ _ _ _ _ _ _ _ hb]
        have hmv : Same (fun b => S b ∨ (w.heap.size + 1 + 1 + 1 ≤ b ∧ b < (set5 wr g (k * 5) (.int .i64 k') (.int .i64 n') (.string s') (.slice ak' lk' ck') (.slice al' ll' cl')).heap.size)) (set5 wr g (k * 5) (.int .i64 k') (.int .i64 n') (.string s') (.slice ak' lk' ck') (.slice al' ll' cl')) wF := fun b hb => hsm b (by
          rcases hb with hb | hb
          · have := hS b hb; omega
          · have := hb.1; omega)
        have hin : ∀ b, (S b ∨ (w.heap.size + 1 + 1 + 1 ≤ b ∧ b < (set5 wr g (k * 5) (.int .i64 k') (.int .i64 n') (.string s') (.slice ak' lk' ck') (.slice al' ll' cl')).heap.size)) → (S b ∨ Fresh w wF b) := fun b hb => by
          rcases hb with hb | hb
          · exact Or.inl hb
          · rw [set5_size] at hb
            exact Or.inr ⟨by have := hb.1; omega, by have := hb.2; omega⟩
        refine ⟨⟨_, _, rfl, ⟨by show _ ≤ (5 : Int); omega, by show (5 : Int) ≤ _; omega⟩, ⟨by show _ ≤ (0 : Int); omega, by show (0 : Int) ≤ _; omega⟩, by show (0 : Nat) < _; omega, ⟨by show (0 : Nat) < _; omega, (fun s hs => by cases hs), none, 0, rfl, Or.inl rfl⟩, hrow.moved hmv hin (fun y u hy => ValAt.moved hmv hin _ y u hy)⟩, ?_⟩
        rw [hF]
        refine below_set5 ?_ (by omega) _ _ _ _ _ _
        exact hBw.trans ((hbw.mono (by omega)).trans (hbp.mono (by omega)))
      obtain ⟨x0, x1, x2, x3, x4⟩ := kx.cell
      obtain ⟨w5, hw5⟩ : ∃ w5, w5 = ((((wr.setCell ⟨g, k * 5, none⟩ (.int .i64 k')).setCell ⟨g, k * 5 + 1, none⟩ (.int .i64 n')).setCell ⟨g, k * 5 + 2, none⟩ (.string s')).setCell ⟨g, k * 5 + 3, none⟩ (.slice ak' lk' ck')).setCell ⟨g, k * 5 + 4, none⟩ (.slice al' ll' cl') := ⟨_, rfl⟩
      have hw5' : w5 = set5 wr g (k * 5) (.int .i64 k') (.int .i64 n') (.string s') (.slice ak' lk' ck') (.slice al' ll' cl') := hw5
      rw [← hw5'] at kr2 ko2 hend
      have HO := hide ko2
      have HR := hide kr2
      have H5 := hide hw5
      clear hat hown hce hput kx kr kr2 ko2 hxr hwl hm' hlen hsl k1 k2 hsz0 hBw hxw hS0 hm hs1 hbw hi hz0' hz1 hz2 hw5 hw5'
      go_upto_region 5 with fail
      rw [← H5.out]
      clear H5 e0 e1 e2 e3 e4 f0 f1 f2 f3 f4 y0 y1 y2 y3 y4 x0 x1 x2 x3 x4
      obtain ⟨y0, y1, y2, y3, y4⟩ := HO.out.cell
      obtain ⟨z0, z1, z2, z3, z4⟩ := HR.out.cell
      have zf := HR.out.frozen
      go_wp2_with fail
      refine bodyPost_ret (v := .agg #[.int .i64 5, .int .i64 0, .string { data := #[] }, .slice none 0 0, .slice (some ⟨g, 0, none⟩) (list.length + m) rc]) (by simp [results, Tryz.results123, go_sem, z0, z1, z2, z3, z4]) rfl ⟨_, rfl, hend.out _ rfl⟩
end Go.Proofs.YtmibjmipndffmaaGreatDoor

/- PartSet of the model. -/
namespace Go.Proofs.YtmibjmipndffmaaGreatDoor
open Go.RowKit Go.Deep

theorem rowL_eq {d : Nat} {t : Tr (d + 1)} (h : okT (d + 1) t = true) (hk : Nd.kind t = 0 ∨ Nd.kind t = 5) : rowL d t = some (Nd.list t) := by
  rw [rowL_ok h]
  rcases hk with h0 | h5
  · rw [if_pos h0]
    obtain ⟨hf, _⟩ := okT_form h
    obtain ⟨kind, num, str, keys, list⟩ := t
    have h0 : kind = 0 := h0
    subst h0
    cases hb : headBad 0 num str keys.length list.length 6 with
    | true => rw [formT_bad hb] at hf; cases hf
    | false =>
      obtain ⟨_, _, _, _, g4⟩ := headBad_iff.1 hb
      have := List.eq_nil_of_length_eq_zero (g4 (by omega))
      subst this
      rfl
  · rw [if_neg (by rw [h5]; decide), if_pos h5]
theorem partSet_badx {d : Nat} {t : Tr (d + 2)} {i : Int} {x : Tr (d + 1)} (hx : okT (d + 1) x = false) : partSetT d t i x = (zeroT (d + 1), false) := by
  cases h : rowL (d + 1) t with
  | none => exact partSet_none h
  | some xs => exact partSet_bad h hx
theorem partSet_kind {d : Nat} {t : Tr (d + 2)} {i : Int} {x : Tr (d + 1)} (h : okT (d + 2) t = true) (h0 : Nd.kind t ≠ 0) (h5 : Nd.kind t ≠ 5) : partSetT d t i x = (zeroT (d + 1), false) := partSet_none (by rw [rowL_ok h, if_neg h0, if_neg h5])
theorem partSet_far {d : Nat} {t : Tr (d + 2)} {i : Int} {x : Tr (d + 1)} (h : okT (d + 2) t = true) (hk : Nd.kind t = 0 ∨ Nd.kind t = 5) (hi : 60 ≤ i ∨ i < -((Nd.list t).length : Int)) : partSetT d t i x = (zeroT (d + 1), false) := by
  refine partSet_out (j := if i < 0 then i + ((Nd.list t).length : Int) else i) (rowL_eq h hk) rfl ?_
  have := (okT_kinds h).2.1
  split <;> omega

theorem nodes_set {d : Nat} {xs : List (Tr (d + 1))} {k : Nat} {x : Tr (d + 1)} (hxs : ∀ y ∈ xs, okT (d + 1) y = true) (hx : okT (d + 1) x = true) (hl : xs.length ≤ 60) (hk : k < 60) : (nodes (d + 2) (rowT (d + 1) (setL xs (zeroT d) k x)) : Int) ≤ 4194304 := by
  have h1 : ∀ y ∈ setL xs (zeroT d) k x, nodes (d + 1) y ≤ 300 := fun y hy => by
    rcases mem_setL hy with h | h | h
    · exact nodes_ok (hxs y h)
    · rw [h]; exact nodes_ok (okT_zero d)
    · rw [h]; exact nodes_ok hx
  have h2 := sum_le_of h1
  have h3 := setL_length xs (zeroT d) k x
  have h4 : nodes (d + 2) (rowT (d + 1) (setL xs (zeroT d) k x)) = 1 + ((setL xs (zeroT d) k x).map (nodes (d + 1))).sum := rfl
  rw [h4]
  omega

set_option maxRecDepth 100000 in
set_option maxHeartbeats 2000000 in
theorem specPartSet_any (d : Nat) (S : Nat → Prop) (t : Tr (d + 2)) (v : Value) (i : Int) (hi : I64 i) (S2 : Nat → Prop) (x : Tr (d + 1)) (xv : Value) (w : World) (hv : ValAt S w (d + 2) t v) (hS : Within S w) (hx : ValAt S2 w (d + 1) x xv) (hS2 : Within S2 w) (hsm : (nodes (d + 2) t : Int) ≤ 4194304) (hsx : (nodes (d + 1) x : Int) ≤ 4194304) :
    Calls Tryz.prog 97 #[v, .int .i64 i, xv] w (SpecQ (d + 1) (partSetT d t i x).1 (partSetT d t i x).2 w) := by
  have hv0 := hv
  obtain ⟨vk, vl, rfl, i1, i2, i3, hk, hl⟩ := hv
  obtain ⟨ak, ck, rfl, hkl⟩ := hk.open'
  obtain ⟨al, cl, rfl, hll⟩ := hl.open'
  obtain ⟨k', n', s', ak', lk', ck', al', ll', cl', rfl⟩ := hx.shape
  obtain ⟨k0, k1, k2, hW0, hsz0⟩ := laid3 w 26 26 26 (.int .i64 t.kind) (.int .i64 t.num) (.string t.str) (.slice ak t.keys.length ck) (.slice al t.list.length cl) (.int .i64 k') (.int .i64 n') (.string s') (.slice ak' lk' ck') (.slice al' ll' cl') (.int .i64 0) (.int .i64 0) (.string { data := #[] }) (.slice none 0 0) (.slice none 0 0)
  obtain ⟨W0, hW⟩ : ∃ W0, W0 = ((w.alloc (.cells #[.int .i64 t.kind, .int .i64 t.num, .string t.str, .slice ak t.keys.length ck, .slice al t.list.length cl] 26)).alloc (.cells #[.int .i64 k', .int .i64 n', .string s', .slice ak' lk' ck', .slice al' ll' cl'] 26)).alloc (.cells #[.int .i64 0, .int .i64 0, .string { data := #[] }, .slice none 0 0, .slice none 0 0] 26) := ⟨_, rfl⟩
  rw [← hW] at k0 k1 k2 hW0 hsz0
  have HW := hide hW
  have HSZ := hide hsz0
  clear hW hk hl hsz0
  go_enter Tryz.func97, Tryz.ntmps97
  go_wp2_with fail
  rw [← HW.out]
  clear HW
  refine (specValOk_any (d + 2) S t _ W0 (hv0.same (hS.same hW0)) (hS.later hW0.size) hsm).mono ?_
  rintro e w1 ⟨rfl, hb1⟩
  replace k0 := k0.below hb1
  replace k1 := k1.below hb1
  replace k2 := k2.below hb1
  have hB1 := below_trans hW0 hb1
  have hlt : w.heap.size + 1 + 1 < w1.heap.size := k2.lt
  clear hb1 hW0
  -- the end, where it can not be done
  have hno : ∀ wn, Below w.heap.size w wn → Hid (∀ wF, wF = set5 wn (w.heap.size + 1 + 1) 0 (.int .i64 0) (.int .i64 0) (.string { data := #[] }) (.slice none 0 0) (.slice none 0 0) → Below w.heap.size w wF) := by
    intro wn hn wF hF
    rw [hF]
    exact below_set5 hn (by omega) _ _ _ _ _ _
  cases hf : okT (d + 2) t with
  | false =>
    have hz : Hid (partSetT d t i x = (zeroT (d + 1), false)) := partSet_none (by rw [rowL, if_neg (by rw [hf]; simp)])
    have HN := hno w1 hB1
    obtain ⟨y0, y1, y2, y3, y4⟩ := k2.cell
    have yf := k2.frozen
    clear k0 k1 k2 hB1 hv0 hx hno
    go_wp2_with fail
    rw [hz.out]
    refine bodyPost_ret (v := .tuple #[zeroVal, .bool false]) (by simp [results, Tryz.results97, go_sem, zeroVal, y0, y1, y2, y3, y4]; rfl) rfl ⟨_, rfl, zeroAt (d + 1) _ _, HN.out _ rfl⟩
  | true =>
    obtain ⟨x0, x1, x2, x3, x4⟩ := k1.cell
    go_wp2_with fail
    refine (specValOk_any (d + 1) S2 x _ w1 (hx.same (hS2.same hB1)) (hS2.later hB1.size) hsx).mono ?_
    rintro e w2 ⟨rfl, hb2⟩
    replace k0 := k0.below hb2
    replace k1 := k1.below hb2
    replace k2 := k2.below hb2
    have hB2 := below_trans hB1 hb2
    have hlt2 : w.heap.size + 1 + 1 < w2.heap.size := k2.lt
    clear hb2 hB1 x0 x1 x2 x3 x4
    obtain ⟨y0, y1, y2, y3, y4⟩ := k2.cell
    have yf := k2.frozen
    cases hfx : okT (d + 1) x with
    | false =>
      have hz : Hid (partSetT d t i x = (zeroT (d + 1), false)) := partSet_badx hfx
      have HN := hno w2 hB2
      clear k0 k1 k2 hB2 hv0 hx hno
      go_wp2_with fail
      rw [hz.out]
      refine bodyPost_ret (v := .tuple #[zeroVal, .bool false]) (by simp [results, Tryz.results97, go_sem, zeroVal, y0, y1, y2, y3, y4]; rfl) rfl ⟨_, rfl, zeroAt (d + 1) _ _, HN.out _ rfl⟩
    | true =>
      obtain ⟨x0, x1, x2, x3, x4⟩ := k0.cell
      obtain ⟨_, hl60, _⟩ := okT_kinds hf
      have hl60 : t.list.length ≤ 60 := hl60
      by_cases hkind : t.kind = 0 ∨ t.kind = 5
      · have hrow := hide (rowL_eq hf hkind)
        obtain ⟨hi1, hi2⟩ := hi
        by_cases hfar : 60 ≤ i ∨ i < -(t.list.length : Int)
        · have hz : Hid (partSetT d t i x = (zeroT (d + 1), false)) := partSet_far hf hkind hfar
          have HN := hno w2 hB2
          clear k0 k1 k2 hB2 hv0 hx hno hrow
          rcases hkind with hq | hq
          · have q0 : (t.kind != 0) = false := by simpa using hq
            clear hq
            by_cases h60 : 60 ≤ i
            · clear hfar
              go_wp2_with fail
              rw [hz.out]
              refine bodyPost_ret (v := .tuple #[zeroVal, .bool false]) (by simp [results, Tryz.results97, go_sem, zeroVal, y0, y1, y2, y3, y4]; rfl) rfl ⟨_, rfl, zeroAt (d + 1) _ _, HN.out _ rfl⟩
            · have hlo : i < -(t.list.length : Int) := by omega
              clear hfar
              go_wp2_with fail
              rw [hz.out]
              refine bodyPost_ret (v := .tuple #[zeroVal, .bool false]) (by simp [results, Tryz.results97, go_sem, zeroVal, y0, y1, y2, y3, y4]; rfl) rfl ⟨_, rfl, zeroAt (d + 1) _ _, HN.out _ rfl⟩
          · have q0 : (t.kind != 0) = true := by simp [hq]
            have q5 : (t.kind != 5) = false := by simpa using hq
            clear hq
            by_cases h60 : 60 ≤ i
            · clear hfar
              go_wp2_with fail
              rw [hz.out]
              refine bodyPost_ret (v := .tuple #[zeroVal, .bool false]) (by simp [results, Tryz.results97, go_sem, zeroVal, y0, y1, y2, y3, y4]; rfl) rfl ⟨_, rfl, zeroAt (d + 1) _ _, HN.out _ rfl⟩
            · have hlo : i < -(t.list.length : Int) := by omega
              clear hfar
              go_wp2_with fail
              rw [hz.out]
              refine bodyPost_ret (v := .tuple #[zeroVal, .bool false]) (by simp [results, Tryz.results97, go_sem, zeroVal, y0, y1, y2, y3, y4]; rfl) rfl ⟨_, rfl, zeroAt (d + 1) _ _, HN.out _ rfl⟩
        · obtain ⟨j, hj⟩ : ∃ j : Nat, (j : Int) = if i < 0 then i + (t.list.length : Int) else i := ⟨(if i < 0 then i + (t.list.length : Int) else i).toNat, by split <;> omega⟩
          have hj60 : j < 60 := by split at hj <;> omega
          have hR : Hid (partSetT d t i x = (toldT (d + 1) (rowT (d + 1) (setL t.list (zeroT d) j x)), okT (d + 2) (rowT (d + 1) (setL t.list (zeroT d) j x)))) := by
            have := partSet_in hrow.out hfx hj (by omega) (by omega)
            rw [Int.toNat_natCast] at this
            exact this
          have hnod := nodes_set (k := j) (fun y hy => okT_part hf hy) hfx hl60 hj60
          have hvU : ValAt (fun b => S b ∨ S2 b) w2 (d + 2) t (.agg #[.int .i64 t.kind, .int .i64 t.num, .string t.str, .slice ak t.keys.length ck, .slice al t.list.length cl]) := (hv0.same (hS.same hB2)).mono (fun b hb => Or.inl hb)
          have hxU : ValAt (fun b => S b ∨ S2 b) w2 (d + 1) x (.agg #[.int .i64 k', .int .i64 n', .string s', .slice ak' lk' ck', .slice al' ll' cl']) := (hx.same (hS2.same hB2)).mono (fun b hb => Or.inr hb)
          have hWU : Within (fun b => S b ∨ S2 b) w2 := fun b hb => by
            rcases hb with hb | hb
            · exact hS.later hB2.size b hb
            · exact hS2.later hB2.size b hb
          have hcall := hide (l2Set_any d (fun b => S b ∨ S2 b) t _ x _ j w2 hvU hxU hWU hj60 hl60)
          have hn1 : ¬ (60 ≤ i) := by omega
          have hn2 : ¬ (i < -(t.list.length : Int)) := by omega
          obtain ⟨z0, z1, z2, z3, z4⟩ := k1.cell
          have HJ := hide hj
          clear hv0 hx hno hrow hfar hvU hxU k0 k1 hj hfx
          rcases hkind with hq | hq
          all_goals
            first
              | (have q0 : (t.kind != 0) = false := (by simpa using hq))
              | (have q0 : (t.kind != 0) = true := (by simp [hq]); have q5 : (t.kind != 5) = false := (by simpa using hq))
            clear hq
            by_cases hneg : i < 0
            · have hji : i + (t.list.length : Int) = (j : Int) := by rw [HJ.out, if_pos hneg]
              have HJI := hide hji
              clear hji HJ
              go_wp2_with fail
              rw [HJI.out]
              refine Calls.mono hcall.out ?_
              rintro e w3 ⟨u, rfl, hu, hb3⟩
              obtain ⟨u0, u1, u2, u3, u4, u5, u6, u7, u8, rfl⟩ := hu.shape
              have hB3 := below_trans hB2 hb3
              have k3 := k2.below hb3
              have hWU3 : Within (fun b => (S b ∨ S2 b) ∨ Fresh w2 w3 b) w3 := fun b hb => by
                rcases hb with hb | hb
                · exact Nat.lt_of_lt_of_le (hWU b hb) hb3.size
                · exact hb.2
              have hcall2 := hide (l2Told_any (d + 1) _ _ _ w3 hu hWU3 hnod)
              have hlt3 : w.heap.size + 1 + 1 < w3.heap.size := k3.lt
              clear hu hWU3 hcall hb3 x0 x1 x2 x3 x4 y0 y1 y2 y3 y4 yf z0 z1 z2 z3 z4
              go_wp2_with fail
              refine Calls.mono hcall2.out ?_
              rintro e w4 ⟨r, rfl, hr, hb4⟩
              obtain ⟨r0, r1, r2, r3, r4, r5, r6, r7, r8, rfl⟩ := hr.shape
              have HF := hide (tell_endA hr (below_trans hB3 hb4) (by omega) hlt3)
              have k4 := k3.below hb4
              obtain ⟨y0, y1, y2, y3, y4⟩ := k4.cell
              have yf := k4.frozen
              clear hr hb4 k3 k4 hcall2 hB3
              go_wp2_with fail
              rw [hR.out]
              exact bodyPost_ret (v := .tuple #[.agg #[.int .i64 r0, .int .i64 r1, .string r2, .slice r3 r4 r5, .slice r6 r7 r8], .bool (okT (d + 2) (rowT (d + 1) (setL t.list (zeroT d) j x)))]) (by simp [results, Tryz.results97, go_sem, y0, y1, y2, y3, y4]) rfl ⟨_, rfl, (HF.out _ rfl).1, (HF.out _ rfl).2⟩
            · have hji : i = (j : Int) := by rw [HJ.out, if_neg hneg]
              have HJI := hide hji
              clear hji HJ
              go_wp2_with fail
              rw [HJI.out]
              refine Calls.mono hcall.out ?_
              rintro e w3 ⟨u, rfl, hu, hb3⟩
              obtain ⟨u0, u1, u2, u3, u4, u5, u6, u7, u8, rfl⟩ := hu.shape
              have hB3 := below_trans hB2 hb3
              have k3 := k2.below hb3
              have hWU3 : Within (fun b => (S b ∨ S2 b) ∨ Fresh w2 w3 b) w3 := fun b hb => by
                rcases hb with hb | hb
                · exact Nat.lt_of_lt_of_le (hWU b hb) hb3.size
                · exact hb.2
              have hcall2 := hide (l2Told_any (d + 1) _ _ _ w3 hu hWU3 hnod)
              have hlt3 : w.heap.size + 1 + 1 < w3.heap.size := k3.lt
              clear hu hWU3 hcall hb3 x0 x1 x2 x3 x4 y0 y1 y2 y3 y4 yf z0 z1 z2 z3 z4
              go_wp2_with fail
              refine Calls.mono hcall2.out ?_
              rintro e w4 ⟨r, rfl, hr, hb4⟩
              obtain ⟨r0, r1, r2, r3, r4, r5, r6, r7, r8, rfl⟩ := hr.shape
              have HF := hide (tell_endA hr (below_trans hB3 hb4) (by omega) hlt3)
              have k4 := k3.below hb4
              obtain ⟨y0, y1, y2, y3, y4⟩ := k4.cell
              have yf := k4.frozen
              clear hr hb4 k3 k4 hcall2 hB3
              go_wp2_with fail
              rw [hR.out]
              exact bodyPost_ret (v := .tuple #[.agg #[.int .i64 r0, .int .i64 r1, .string r2, .slice r3 r4 r5, .slice r6 r7 r8], .bool (okT (d + 2) (rowT (d + 1) (setL t.list (zeroT d) j x)))]) (by simp [results, Tryz.results97, go_sem, y0, y1, y2, y3, y4]) rfl ⟨_, rfl, (HF.out _ rfl).1, (HF.out _ rfl).2⟩
      · have n0 : t.kind ≠ 0 := fun h => hkind (Or.inl h)
        have n5 : t.kind ≠ 5 := fun h => hkind (Or.inr h)
        have hz : Hid (partSetT d t i x = (zeroT (d + 1), false)) := partSet_kind hf n0 n5
        have HN := hno w2 hB2
        have q0 : (t.kind != 0) = true := by simpa using n0
        have q5 : (t.kind != 5) = true := by simpa using n5
        clear k0 k1 k2 hB2 hv0 hx hno hkind n0 n5
        go_wp2_with fail
        rw [hz.out]
        refine bodyPost_ret (v := .tuple #[zeroVal, .bool false]) (by simp [results, Tryz.results97, go_sem, zeroVal, y0, y1, y2, y3, y4]; rfl) rfl ⟨_, rfl, zeroAt (d + 1) _ _, HN.out _ rfl⟩
end Go.Proofs.YtmibjmipndffmaaGreatDoor
