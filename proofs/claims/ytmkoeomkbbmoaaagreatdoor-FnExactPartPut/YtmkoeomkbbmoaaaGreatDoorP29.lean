/- Texts of the proof, put together by program: WPutU, WUp. -/
import Derived.Test.YtmkoeomkbbmoaaaGreatDoorP27
import Derived.Test.YtmkoeomkbbmoaaaGreatDoorP28
import Derived.Test.YtmkoeomkbbmoaaaGreatDoorP22
/- PartPut of the model. -/
namespace Go.Proofs.YtmkoeomkbbmoaaaGreatDoor
open Go.RowKit Go.Deep

theorem mapL_eq {d : Nat} {t : Tr (d + 1)} {s : ByteArray} (h : okT (d + 1) t = true) (hs : strOk s = true) (hk : Nd.kind t = 0 ∨ Nd.kind t = 6) : mapL d t s = some (Nd.keys t, Nd.list t) ∧ (Nd.keys t).length = (Nd.list t).length ∧ keysB (Nd.keys t) = true := by
  rw [mapL_ok h hs]
  obtain ⟨hf, _⟩ := okT_form h
  obtain ⟨kind, num, str, keys, list⟩ := t
  cases hb : headBad kind num str keys.length list.length 6 with
  | true => rw [formT_bad hb] at hf; cases hf
  | false =>
    obtain ⟨_, _, _, g3, g4⟩ := headBad_iff.1 hb
    rcases hk with h0 | h6
    · have h0 : kind = 0 := h0
      subst h0
      have e1 := List.eq_nil_of_length_eq_zero (g3 (by omega))
      have e2 := List.eq_nil_of_length_eq_zero (g4 (by omega))
      subst e1 e2
      exact ⟨rfl, rfl, rfl⟩
    · have h6 : kind = 6 := h6
      subst h6
      rw [formT_good hb] at hf
      simp at hf
      exact ⟨rfl, hf.1.1, hf.1.2⟩
theorem partPut_not {d : Nat} {t : Tr (d + 2)} {s : ByteArray} {x : Tr (d + 1)} (h : mapL (d + 1) t s = none) : partPutT d t s x = (zeroT (d + 1), false) := by
  unfold partPutT
  rw [h]
theorem partPut_badx {d : Nat} {t : Tr (d + 2)} {s : ByteArray} {x : Tr (d + 1)} (hx : okT (d + 1) x = false) : partPutT d t s x = (zeroT (d + 1), false) := by
  unfold partPutT
  split
  · rfl
  · rw [if_neg (by rw [hx]; simp)]
theorem partPut_does {d : Nat} {t : Tr (d + 2)} {s : ByteArray} {x : Tr (d + 1)} {ks : List ByteArray} {xs : List (Tr (d + 1))} (h : mapL (d + 1) t s = some (ks, xs)) (hx : okT (d + 1) x = true) : partPutT d t s x = (toldT (d + 1) (mapT (d + 1) (putL ks xs s x)), okT (d + 2) (mapT (d + 1) (putL ks xs s x))) := by
  unfold partPutT
  rw [h]
  show (if okT (d + 1) x = true then _ else _) = _
  rw [if_pos hx]
theorem partPut_kind {d : Nat} {t : Tr (d + 2)} {s : ByteArray} {x : Tr (d + 1)} (h : okT (d + 2) t = true) (h0 : Nd.kind t ≠ 0) (h6 : Nd.kind t ≠ 6) : partPutT d t s x = (zeroT (d + 1), false) := by
  cases hs : strOk s with
  | false => exact partPut_not (mapL_no (Or.inr hs))
  | true => exact partPut_not (by rw [mapL_ok h hs, if_neg h0, if_neg h6])
theorem mem_putL {α : Type} {s : ByteArray} {x : α} : ∀ {ks : List ByteArray} {xs : List α} {p : ByteArray × α}, p ∈ putL ks xs s x → p ∈ ks.zip xs ∨ p = (s, x)
  | [], _, p, h => by rw [putL] at h; exact Or.inr (List.mem_singleton.1 h)
  | _ :: _, [], p, h => by rw [putL] at h; exact Or.inr (List.mem_singleton.1 h)
  | k :: ks, y :: ys, p, h => by
    rw [putL] at h
    rw [zip_cons]
    split at h
    · rcases List.mem_cons.1 h with h | h
      · exact Or.inl (by rw [h]; exact List.mem_cons_self ..)
      · rcases mem_putL h with h | h
        · exact Or.inl (List.mem_cons_of_mem _ h)
        · exact Or.inr h
    · split at h
      · rcases List.mem_cons.1 h with h | h
        · exact Or.inr h
        · exact Or.inl (List.mem_cons_of_mem _ h)
      · rcases List.mem_cons.1 h with h | h
        · exact Or.inr h
        · exact Or.inl h
theorem nodes_put {d : Nat} {ks : List ByteArray} {xs : List (Tr (d + 1))} {s : ByteArray} {x : Tr (d + 1)} (hxs : ∀ y ∈ xs, okT (d + 1) y = true) (hx : okT (d + 1) x = true) (hl : ks.length ≤ 1000) : (nodes (d + 2) (mapT (d + 1) (putL ks xs s x)) : Int) ≤ 4194304 := by
  have h1 : ∀ y ∈ (putL ks xs s x).map Prod.snd, nodes (d + 1) y ≤ 300 := fun y hy => by
    obtain ⟨p, hp, rfl⟩ := List.mem_map.1 hy
    rcases mem_putL hp with h | h
    · exact nodes_ok (hxs _ (List.of_mem_zip (show (p.1, p.2) ∈ ks.zip xs from h)).2)
    · rw [h]; exact nodes_ok hx
  have h2 := sum_le_of h1
  have h3 := putL_length ks xs s x
  have h4 : nodes (d + 2) (mapT (d + 1) (putL ks xs s x)) = 1 + (((putL ks xs s x).map Prod.snd).map (nodes (d + 1))).sum := rfl
  rw [List.length_map] at h2
  rw [h4]
  omega

set_option maxRecDepth 100000 in
set_option maxHeartbeats 4000000 in
theorem specPartPut_any (d : Nat) (S : Nat → Prop) (t : Tr (d + 2)) (v : Value) (s0 : ByteArray) (hs0 : s0.size < 281474976710656) (S2 : Nat → Prop) (x : Tr (d + 1)) (xv : Value) (w : World) (hv : ValAt S w (d + 2) t v) (hS : Within S w) (hx : ValAt S2 w (d + 1) x xv) (hS2 : Within S2 w) (hsm : (nodes (d + 2) t : Int) ≤ 4194304) (hsx : (nodes (d + 1) x : Int) ≤ 4194304) :
    Calls Tryz.prog 8 #[v, .string s0, xv] w (SpecQ (d + 1) (partPutT d t s0 x).1 (partPutT d t s0 x).2 w) := by
  have hv0 := hv
  obtain ⟨vk, vl, rfl, i1, i2, i3, hk, hl⟩ := hv
  obtain ⟨ak, ck, rfl, hkl⟩ := hk.open'
  obtain ⟨al, cl, rfl, hll⟩ := hl.open'
  obtain ⟨k', n', s', ak', lk', ck', al', ll', cl', rfl⟩ := hx.shape
  obtain ⟨k0, k1, k2, hW0, hsz0⟩ := laid3 w 29 29 29 (.int .i64 t.kind) (.int .i64 t.num) (.string t.str) (.slice ak t.keys.length ck) (.slice al t.list.length cl) (.int .i64 k') (.int .i64 n') (.string s') (.slice ak' lk' ck') (.slice al' ll' cl') (.int .i64 0) (.int .i64 0) (.string { data := #[] }) (.slice none 0 0) (.slice none 0 0)
  obtain ⟨W0, hW⟩ : ∃ W0, W0 = ((w.alloc (.cells #[.int .i64 t.kind, .int .i64 t.num, .string t.str, .slice ak t.keys.length ck, .slice al t.list.length cl] 29)).alloc (.cells #[.int .i64 k', .int .i64 n', .string s', .slice ak' lk' ck', .slice al' ll' cl'] 29)).alloc (.cells #[.int .i64 0, .int .i64 0, .string { data := #[] }, .slice none 0 0, .slice none 0 0] 29) := ⟨_, rfl⟩
  rw [← hW] at k0 k1 k2 hW0 hsz0
  have HW := hide hW
  have HSZ := hide hsz0
  clear hW hk hl hsz0
  go_enter Tryz.func8, Tryz.ntmps8
  go_wp2_with fail
  rw [← HW.out]
  clear HW
  refine (specValOk_any (d + 2) S t _ W0 (hv0.same (hS.same hW0)) (hS.later hW0.size) hsm).mono ?_
  rintro e w1 ⟨rfl, hb1⟩
  replace k0 := k0.below hb1
  replace k1 := k1.below hb1
  replace k2 := k2.below hb1
  have hB1 := below_trans hW0 hb1
  have hlt : w.heap.size + 1 + 1 < w1.heap.size := k2.lt
  clear hb1 hW0
  -- the end, where it can not be done
  have hno : ∀ wn, Below w.heap.size w wn → Hid (∀ wF, wF = set5 wn (w.heap.size + 1 + 1) 0 (.int .i64 0) (.int .i64 0) (.string { data := #[] }) (.slice none 0 0) (.slice none 0 0) → Below w.heap.size w wF) := by
    intro wn hn wF hF
    rw [hF]
    exact below_set5 hn (by omega) _ _ _ _ _ _
  cases hf : okT (d + 2) t with
  | false =>
    have hz : Hid (partPutT d t s0 x = (zeroT (d + 1), false)) := partPut_not (mapL_no (Or.inl hf))
    have HN := hno w1 hB1
    obtain ⟨y0, y1, y2, y3, y4⟩ := k2.cell
    have yf := k2.frozen
    clear k0 k1 k2 hB1 hv0 hx hno
    go_wp2_with fail
    rw [hz.out]
    refine bodyPost_ret (v := .tuple #[zeroVal, .bool false]) (by simp [results, Tryz.results8, go_sem, zeroVal, y0, y1, y2, y3, y4]; rfl) rfl ⟨_, rfl, zeroAt (d + 1) _ _, HN.out _ rfl⟩
  | true =>
    obtain ⟨x0, x1, x2, x3, x4⟩ := k1.cell
    go_wp2_with fail
    refine (specValOk_any (d + 1) S2 x _ w1 (hx.same (hS2.same hB1)) (hS2.later hB1.size) hsx).mono ?_
    rintro e w2 ⟨rfl, hb2⟩
    replace k0 := k0.below hb2
    replace k1 := k1.below hb2
    replace k2 := k2.below hb2
    have hB2 := below_trans hB1 hb2
    have hlt2 : w.heap.size + 1 + 1 < w2.heap.size := k2.lt
    clear hb2 hB1 x0 x1 x2 x3 x4
    obtain ⟨y0, y1, y2, y3, y4⟩ := k2.cell
    have yf := k2.frozen
    cases hfx : okT (d + 1) x with
    | false =>
      have hz : Hid (partPutT d t s0 x = (zeroT (d + 1), false)) := partPut_badx hfx
      have HN := hno w2 hB2
      clear k0 k1 k2 hB2 hv0 hx hno
      go_wp2_with fail
      rw [hz.out]
      refine bodyPost_ret (v := .tuple #[zeroVal, .bool false]) (by simp [results, Tryz.results8, go_sem, zeroVal, y0, y1, y2, y3, y4]; rfl) rfl ⟨_, rfl, zeroAt (d + 1) _ _, HN.out _ rfl⟩
    | true =>
    go_wp2_with fail
    refine (l1Str_any s0 w2 hs0).mono ?_
    rintro e w2' ⟨rfl, rfl⟩
    cases hstr : strOk s0 with
    | false =>
      have hz : Hid (partPutT d t s0 x = (zeroT (d + 1), false)) := partPut_not (mapL_no (Or.inr hstr))
      have HN := hno _ hB2
      clear k0 k1 k2 hB2 hv0 hx hno
      go_wp2_with fail
      rw [hz.out]
      refine bodyPost_ret (v := .tuple #[zeroVal, .bool false]) (by simp [results, Tryz.results8, go_sem, zeroVal, y0, y1, y2, y3, y4]; rfl) rfl ⟨_, rfl, zeroAt (d + 1) _ _, HN.out _ rfl⟩
    | true =>
      obtain ⟨x0, x1, x2, x3, x4⟩ := k0.cell
      obtain ⟨_, hl60, _⟩ := okT_kinds hf
      have hl60 : t.list.length ≤ 60 := hl60
      by_cases hkind : t.kind = 0 ∨ t.kind = 6
      · obtain ⟨hm, hkx, hkb⟩ := mapL_eq hf hstr hkind
        have hR := hide (partPut_does hm hfx)
        replace hkx : t.keys.length = t.list.length := hkx
        have hnod := nodes_put (ks := t.keys) (s := s0) (fun y hy => okT_part hf hy) hfx (by omega)
        have hfold : endP s0 x ((t.keys.zip t.list).foldl (stepP s0 x) (false, [])) = putL t.keys t.list s0 x := by
          have h := foldP_put (s := s0) (x := x) (p := none) [] hkx hkb
          rw [List.nil_append] at h
          exact h
        have hvU : ValAt (fun b => S b ∨ S2 b) _ (d + 2) t (.agg #[.int .i64 t.kind, .int .i64 t.num, .string t.str, .slice ak t.keys.length ck, .slice al t.list.length cl]) := (hv0.same (hS.same hB2)).mono (fun b hb => Or.inl hb)
        have hxU : ValAt (fun b => S b ∨ S2 b) _ (d + 1) x (.agg #[.int .i64 k', .int .i64 n', .string s', .slice ak' lk' ck', .slice al' ll' cl']) := (hx.same (hS2.same hB2)).mono (fun b hb => Or.inr hb)
        have hWU : Within (fun b => S b ∨ S2 b) w2' := fun b hb => by
          rcases hb with hb | hb
          · exact hS.later hB2.size b hb
          · exact hS2.later hB2.size b hb
        have hcall := hide (l2Put_any (d + 1) (fun b => S b ∨ S2 b) t _ s0 x _ w2' hvU hxU hWU hkx hl60 hs0)
        rw [hfold] at hcall
        obtain ⟨z0, z1, z2, z3, z4⟩ := k1.cell
        have HKX := hide hkx
        clear hv0 hx hno hvU hxU k0 k1 hfx hm hfold hkx hkb
        rcases hkind with hq | hq
        all_goals
          first
            | (have q0 : (t.kind != 0) = false := (by simpa using hq))
            | (have q0 : (t.kind != 0) = true := (by simp [hq]); have q6 : (t.kind != 6) = false := (by simpa using hq))
          clear hq
          go_wp2_with fail
          refine Calls.mono hcall.out ?_
          rintro e w3 ⟨u, rfl, hu, hb3⟩
          obtain ⟨u0, u1, u2, u3, u4, u5, u6, u7, u8, rfl⟩ := hu.shape
          have hB3 := below_trans hB2 hb3
          have k3 := k2.below hb3
          have hWU3 : Within (fun b => (S b ∨ S2 b) ∨ Fresh w2' w3 b) w3 := fun b hb => by
            rcases hb with hb | hb
            · exact Nat.lt_of_lt_of_le (hWU b hb) hb3.size
            · exact hb.2
          have hcall2 := hide (l2Told_any (d + 1) _ _ _ w3 hu hWU3 hnod)
          have hlt3 : w.heap.size + 1 + 1 < w3.heap.size := k3.lt
          clear hu hWU3 hcall hb3 x0 x1 x2 x3 x4 y0 y1 y2 y3 y4 yf z0 z1 z2 z3 z4
          go_wp2_with fail
          refine Calls.mono hcall2.out ?_
          rintro e w4 ⟨r, rfl, hr, hb4⟩
          obtain ⟨r0, r1, r2, r3, r4, r5, r6, r7, r8, rfl⟩ := hr.shape
          have HF := hide (tell_endA hr (below_trans hB3 hb4) (by omega) hlt3)
          have k4 := k3.below hb4
          obtain ⟨y0, y1, y2, y3, y4⟩ := k4.cell
          have yf := k4.frozen
          clear hr hb4 k3 k4 hcall2 hB3
          go_wp2_with fail
          rw [hR.out]
          exact bodyPost_ret (v := .tuple #[.agg #[.int .i64 r0, .int .i64 r1, .string r2, .slice r3 r4 r5, .slice r6 r7 r8], .bool (okT (d + 2) (mapT (d + 1) (putL t.keys t.list s0 x)))]) (by simp [results, Tryz.results8, go_sem, y0, y1, y2, y3, y4]) rfl ⟨_, rfl, (HF.out _ rfl).1, (HF.out _ rfl).2⟩
      · have n0 : t.kind ≠ 0 := fun h => hkind (Or.inl h)
        have n6 : t.kind ≠ 6 := fun h => hkind (Or.inr h)
        have hz : Hid (partPutT d t s0 x = (zeroT (d + 1), false)) := partPut_kind hf n0 n6
        have HN := hno _ hB2
        have q0 : (t.kind != 0) = true := by simpa using n0
        have q6 : (t.kind != 6) = true := by simpa using n6
        clear k0 k1 k2 hB2 hv0 hx hno hkind n0 n6
        go_wp2_with fail
        rw [hz.out]
        refine bodyPost_ret (v := .tuple #[zeroVal, .bool false]) (by simp [results, Tryz.results8, go_sem, zeroVal, y0, y1, y2, y3, y4]; rfl) rfl ⟨_, rfl, zeroAt (d + 1) _ _, HN.out _ rfl⟩
end Go.Proofs.YtmkoeomkbbmoaaaGreatDoor

/- A tree as one that may be one deeper. -/
namespace Go.Proofs.YtmkoeomkbbmoaaaGreatDoor
open Go.RowKit Go.Deep

/-- The same tree, as one that may be one deeper. -/
def up : (d : Nat) → Tr d → Tr (d + 1)
  | 0, t => Empty.elim t
  | d + 1, t => (Nd.mk (Nd.kind t) (Nd.num t) (Nd.str t) (Nd.keys t) ((Nd.list t).map (up d)) : Nd (Tr (d + 1)))

theorem all_up {d : Nat} {list : List (Tr d)} {deep : Int} (h : ∀ x, formT (d + 1) (up d x) deep = formT d x deep) : (list.map (up d)).all (fun x => formT (d + 1) x deep) = list.all (fun x => formT d x deep) := by
  rw [List.all_map]
  congr 1
  funext x
  exact h x
theorem formT_lift : ∀ (d : Nat) (t : Tr d) (deep : Int), formT (d + 1) (up d t) deep = formT d t deep
  | 0, t, _ => Empty.elim t
  | d + 1, t, deep => by
    obtain ⟨kind, num, str, keys, list⟩ := t
    have ha := all_up (list := list) (fun x => formT_lift d x (deep - 1))
    have hl : (list.map (up d)).length = list.length := List.length_map ..
    show formT (d + 2) (Nd.mk kind num str keys (list.map (up d)) : Nd (Tr (d + 1))) deep = _
    cases hb : headBad kind num str keys.length list.length deep with
    | true => rw [formT_bad hb, formT_bad (by rw [hl]; exact hb)]
    | false => rw [formT_good hb, formT_good (by rw [hl]; exact hb), hl, ha]
theorem manyT_lift : ∀ (d : Nat) (t : Tr d) (deep : Int), manyT (d + 1) (up d t) deep = manyT d t deep
  | 0, t, _ => Empty.elim t
  | d + 1, t, deep => by
    obtain ⟨kind, num, str, keys, list⟩ := t
    show 1 + (if 0 < deep then ((list.map (up d)).map (fun x => manyT (d + 1) x (deep - 1))).sum else 0) = 1 + (if 0 < deep then (list.map (fun x => manyT d x (deep - 1))).sum else 0)
    rw [List.map_map]
    have h := sum_map_eq (f := (fun x => manyT (d + 1) x (deep - 1)) ∘ up d) (g := fun x => manyT d x (deep - 1)) list (fun x _ => manyT_lift d x (deep - 1))
    rw [h]
theorem okT_lift (d : Nat) (t : Tr d) : okT (d + 1) (up d t) = okT d t := by
  unfold okT
  rw [formT_lift, manyT_lift]
theorem up_zero (d : Nat) : up (d + 1) (zeroT d) = zeroT (d + 1) := rfl

theorem RowAt.up {α β : Type} {S : Nat → Prop} {w : World} {At : α → Value → Prop} {At' : β → Value → Prop} {v : Value} {xs : List α} (f : α → β) (h : RowAt S w At v xs) (hi : ∀ x u, At x u → At' (f x) u) : RowAt S w At' v (xs.map f) := by
  obtain ⟨h1, a, cap, hv, h3⟩ := h
  refine ⟨by rw [List.length_map]; exact h1, a, cap, by rw [List.length_map]; exact hv, ?_⟩
  rcases h3 with h3 | ⟨b, o, hB, ha, hc⟩
  · exact Or.inl (by rw [h3]; rfl)
  · refine Or.inr ⟨b, o, hB, ha, fun i x hx => ?_⟩
    rw [List.getElem?_map] at hx
    obtain ⟨y, hy, rfl⟩ := Option.map_eq_some_iff.1 hx
    obtain ⟨c0, c1, c2, c3, c4, e0, e1, e2, e3, e4, e5⟩ := hc i y hy
    exact ⟨c0, c1, c2, c3, c4, e0, e1, e2, e3, e4, hi _ _ e5⟩
theorem ValAt.up {S : Nat → Prop} {w : World} : ∀ (d : Nat) (t : Tr d) (v : Value), ValAt S w d t v → ValAt S w (d + 1) (up d t) v
  | 0, _, _, h => h.elim
  | d + 1, t, v, h => by
    obtain ⟨vk, vl, hv, i1, i2, i3, hk, hl⟩ := h
    exact ⟨vk, vl, hv, i1, i2, i3, hk, hl.up (At' := ValAt S w (d + 1)) _ (fun x u hx => ValAt.up d x u hx)⟩
theorem RowOwn.up {α β : Type} {w : World} {At : (Nat → Prop) → α → Value → Prop} {At' : (Nat → Prop) → β → Value → Prop} {S : Nat → Prop} {v : Value} {xs : List α} (f : α → β) (h : RowOwn w At S v xs) (hi : ∀ P x u, At P x u → At' P (f x) u) : RowOwn w At' S v (xs.map f) := by
  obtain ⟨h1, a, cap, hv, h3⟩ := h
  refine ⟨by rw [List.length_map]; exact h1, a, cap, by rw [List.length_map]; exact hv, ?_⟩
  rcases h3 with h3 | ⟨b, n, g, P, hB, ha, hl, hr, hP, hd, hc⟩
  · exact Or.inl (by rw [h3]; rfl)
  · refine Or.inr ⟨b, n, g, P, hB, ha, by rw [List.length_map]; exact hl, hr, hP, hd, fun i x hx => ?_⟩
    rw [List.getElem?_map] at hx
    obtain ⟨y, hy, rfl⟩ := Option.map_eq_some_iff.1 hx
    exact hi _ _ _ (hc i y hy)
theorem ValOwn.up {w : World} : ∀ (d : Nat) (S : Nat → Prop) (t : Tr d) (v : Value), ValOwn w d S t v → ValOwn w (d + 1) S (up d t) v
  | 0, _, _, _, h => h.elim
  | d + 1, S, t, v, h => by
    obtain ⟨vk, vl, Sk, Sl, hv, i1, i2, i3, hk, hl, s1, s2, s3⟩ := h
    exact ⟨vk, vl, Sk, Sl, hv, i1, i2, i3, hk, hl.up (At' := fun P x u => ValOwn w (d + 1) P x u) _ (fun P x u hx => ValOwn.up d P x u hx), s1, s2, s3⟩
end Go.Proofs.YtmkoeomkbbmoaaaGreatDoor
