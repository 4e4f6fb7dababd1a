/- Texts of the proof, put together by program: WGetM, WGetS, WGetSo, WAtM, WAtS, WAtSo, WLen. -/
import Derived.Test.YtgjahnkldobphaaGreatDoorP17
import Derived.Test.YtgjahnkldobphaaGreatDoorP7
import Derived.Test.YtgjahnkldobphaaGreatDoorP11
import Derived.Test.YtgjahnkldobphaaGreatDoorP10
/- PartGet of the model. Of what is right. -/
namespace Go.Proofs.YtgjahnkldobphaaGreatDoor
open Go.RowKit Go.Deep

set_option maxRecDepth 100000 in
set_option maxHeartbeats 2000000 in
theorem l2Key_any (d : Nat) (S : Nat → Prop) (t : Tr (d + 1)) (v : Value) (s : ByteArray) (w : World) (hv : ValAt S w (d + 1) t v) (hS : Within S w) :
    Calls Tryz.prog 69 #[v, .string s] w fun e w' => (∃ r : Int, e = .returned (.int .i64 r) ∧ ((r = -1 ∧ s ∉ Nd.keys t) ∨ ∃ k : Nat, r = k ∧ (Nd.keys t)[k]? = some s ∧ ∀ j, j < k → (Nd.keys t)[j]? ≠ some s)) ∧ Below w.heap.size w w' := by
  obtain ⟨vk, vl, rfl, i1, i2, i3, hk, hl⟩ := hv
  obtain ⟨ak, ck, rfl, hkl⟩ := hk.open'
  obtain ⟨al, cl, rfl, hll⟩ := hl.open'
  obtain ⟨W0, hW⟩ : ∃ W0, W0 = w.alloc (.cells #[.int .i64 t.kind, .int .i64 t.num, .string t.str, .slice ak t.keys.length ck, .slice al t.list.length cl] 26) := ⟨_, rfl⟩
  have hW0 : Below w.heap.size w W0 := by rw [hW]; exact below_alloc1 _ _
  have k0 : Blk5 W0 w.heap.size 26 (.int .i64 t.kind) (.int .i64 t.num) (.string t.str) (.slice ak t.keys.length ck) (.slice al t.list.length cl) := by
    rw [hW]; exact Blk5.new w 26 _ _ _ _ _
  obtain ⟨x0, x1, x2, x3, x4⟩ := k0.cell
  have hk0 := hk.same (hS.same hW0)
  have HW := hide hW
  have HB := hide hW0
  clear hW hk hl hW0 k0
  generalize hK : t.keys = keys at *
  clear hK
  go_enter Tryz.func69, Tryz.ntmps69
  go_wp2_with fail
  rw [← HW.out]
  clear HW
  go_loopw [5] (fun i wr => ∃ k : Nat, k ≤ keys.length ∧ i = .int .i64 k ∧ wr = W0 ∧ Hid (∀ j, j < k → keys[j]? ≠ some s)) (fun i _ => keys.length - (intOf i).toNat)
  case atStart => exact ⟨0, Nat.zero_le _, rfl, rfl, fun j hj => by omega⟩
  case round =>
    obtain ⟨k, hk, rfl, rfl, hfin⟩ := hrel
    by_cases hkl : k < keys.length
    · obtain ⟨b, o, s', rfl, _, hs, hsz, hck⟩ := hk0.cell hkl
      have hki : (k : Int) < (keys.length : Int) := by omega
      by_cases e : s' = s
      · subst e
        have hq : (s'.toList == s'.toList) = true := by simp
        have HS := hide hs
        clear hk0 hs
        go_wp2_with fail
        go_ret
        exact ⟨⟨_, rfl, Or.inr ⟨k, rfl, HS.out, hfin.out⟩⟩, HB.out⟩
      · have hq : (s'.toList == s.toList) = false := by
          cases hb : (s'.toList == s.toList) with
          | false => rfl
          | true =>
            refine absurd ?_ e
            have h1 : s'.toList = s.toList := by simpa using hb
            rw [ByteArray.toList_eq, ByteArray.toList_eq] at h1
            exact ByteArray.ext (Array.ext' h1)
        have hnx : Hid (∀ j, j < k + 1 → keys[j]? ≠ some s) := fun j hj => by
          by_cases hjk : j = k
          · subst hjk
            rw [hs]
            intro h
            exact e (by simpa using h)
          · exact hfin.out j (by omega)
        clear hk0 hs hfin e
        go_wp2_with fail
        go_roundw
        case rel => exact ⟨k + 1, by omega, by go_num, trivial, hnx⟩
        case measure => simp [intOf]; omega
    · obtain rfl : k = keys.length := by omega
      have hno : Hid (s ∉ keys) := fun h => by
        obtain ⟨j, hj⟩ := List.getElem?_of_mem h
        exact hfin.out j (List.getElem?_eq_some_iff.1 hj).1 hj
      clear hk0 hfin
      go_wp2_with fail
      go_ret
      exact ⟨⟨-1, rfl, Or.inl ⟨rfl, hno.out⟩⟩, HB.out⟩
set_option maxRecDepth 100000 in
set_option maxHeartbeats 4000000 in
theorem l2Get_any (d : Nat) (S : Nat → Prop) (t : Tr (d + 2)) (v : Value) (s : ByteArray) (w : World) (hv : ValAt S w (d + 2) t v) (hS : Within S w) (hstr : strOk s = true) (hok : okT (d + 2) t = true) :
    Calls Tryz.prog 52 #[v, .string s] w fun e w' => ∃ u, e = .returned (.tuple #[u, .bool (partGetT d t s).2]) ∧ ValAt S w' (d + 1) (partGetT d t s).1 u ∧ Below w.heap.size w w' := by
  have hv0 := hv
  obtain ⟨vk, vl, rfl, i1, i2, i3, hk, hl⟩ := hv
  obtain ⟨ak, ck, rfl, hkl⟩ := hk.open'
  obtain ⟨al, cl, rfl, hll⟩ := hl.open'
  obtain ⟨hkinds, hl60, _⟩ := okT_kinds hok
  have hl60 : t.list.length ≤ 60 := hl60
  clear hkinds
  have hB1 := hide (below_trans (below_alloc1 w (.cells #[.int .i64 t.kind, .int .i64 t.num, .string t.str, .slice ak t.keys.length ck, .slice al t.list.length cl] 26)) (below_alloc1 _ (.cells #[.int .i64 t.kind, .int .i64 t.num, .string t.str, .slice ak t.keys.length ck, .slice al t.list.length cl] 26)))
  have hB2 := hide (below_trans (below_alloc1 w (.cells #[.int .i64 t.kind, .int .i64 t.num, .string t.str, .slice ak t.keys.length ck, .slice al t.list.length cl] 26)) (below_alloc1 _ (.cells #[.int .i64 0, .int .i64 0, .string { data := #[] }, .slice none 0 0, .slice none 0 0] 26)))
  by_cases e0 : t.kind = 0
  · have q0 : (t.kind == 0) = true := by simpa using e0
    have hz : Hid (partGetT d t s = (zeroT d, true)) := by
      show partGetT d t s = _
      rw [partGetT, if_pos ⟨hok, hstr⟩, if_pos e0]
    have HV := hide (valAt_zero hok e0 hv0)
    clear e0 hk hl hv0 hB2
    go_enter Tryz.func52, Tryz.ntmps52
    go_wp2_with fail
    rw [hz.out]
    exact bodyPost_ret (v := .tuple #[.agg #[.int .i64 t.kind, .int .i64 t.num, .string t.str, .slice ak t.keys.length ck, .slice al t.list.length cl], .bool true]) (by simp [results, Tryz.results52, go_sem]) rfl ⟨_, rfl, HV.out.same (hS.same hB1.out), hB1.out⟩
  have q0 : (t.kind == 0) = false := by simpa using e0
  by_cases e5 : t.kind = 6
  · have q5 : (t.kind != 6) = false := by simpa using e5
    have hkeq := hide (okT_keys hok e5)
    have HZ : Hid (∀ y, getL t.keys t.list s = y → partGetT d t s = (y.getD (zeroT d), true)) := by
      intro y hy
      rw [partGetT, if_pos ⟨hok, hstr⟩, if_neg e0, if_pos e5]
      show ((getL t.keys t.list s).getD (zeroT d), true) = _
      rw [hy]
    have HVV := hide hv0
    clear e0 e5 hk hv0 hB1
    go_enter Tryz.func52, Tryz.ntmps52
    go_wp2_with fail
    refine (l2Key_any (d + 1) S t _ s _ (HVV.out.same (hS.same hB2.out)) (hS.later hB2.out.size)).mono ?_
    rintro e w1 ⟨⟨r, rfl, hr⟩, hb1⟩
    have hB3 := below_trans hB2.out hb1
    have HB3 := hide hB3
    have kk0 : Blk5 w1 w.heap.size 26 (.int .i64 t.kind) (.int .i64 t.num) (.string t.str) (.slice ak t.keys.length ck) (.slice al t.list.length cl) := ((Blk5.new w 26 _ _ _ _ _).alloc _).below hb1
    have kk1 : Blk5 w1 (w.heap.size + 1) 26 (.int .i64 0) (.int .i64 0) (.string { data := #[] }) (.slice none 0 0) (.slice none 0 0) := by
      have h1 := Blk5.new (w.alloc (.cells #[.int .i64 t.kind, .int .i64 t.num, .string t.str, .slice ak t.keys.length ck, .slice al t.list.length cl] 26)) 26 (.int .i64 0) (.int .i64 0) (.string { data := #[] }) (.slice none 0 0) (.slice none 0 0)
      rw [World.size_alloc] at h1
      exact h1.below hb1
    obtain ⟨x0, x1, x2, x3, x4⟩ := kk0.cell
    obtain ⟨y0, y1, y2, y3, y4⟩ := kk1.cell
    have yf := kk1.frozen
    have hend : Hid (∀ (x : Tr (d + 1)) (u0 u1 u2 u3 u4 : Value), partGetT d t s = (x, true) → ValAt S w1 (d + 1) x (.agg #[u0, u1, u2, u3, u4]) → ∀ wF, wF = set5 w1 (w.heap.size + 1) 0 u0 u1 u2 u3 u4 → ValAt S wF (d + 1) (partGetT d t s).1 (.agg #[u0, u1, u2, u3, u4]) ∧ Below w.heap.size w wF) := by
      intro x u0 u1 u2 u3 u4 hx hv wF hF
      rw [hx]
      refine ⟨hv.same (fun b hb => ?_), ?_⟩
      · rw [hF, set5_block _ _ _ _ _ _ _ _ _ (by have := hS b hb; omega)]
      · rw [hF]
        exact below_set5 hB3 (by omega) _ _ _ _ _ _
    have hl1 := hl.same (hS.same hB3)
    clear hl hb1 hB2 hB3 kk0 kk1
    rcases hr with ⟨rfl, hr⟩ | ⟨k, rfl, hr1, hr2⟩
    · have hz := hide (HZ.out none (getL_miss hr))
      have HE := hide (hend.out (zeroT d) _ _ _ _ _ hz.out (zeroAt d S w1))
      clear hend hr HZ hl1
      go_wp2_with fail
      refine bodyPost_ret (v := .tuple #[zeroVal, .bool true]) (by simp [results, Tryz.results52, go_sem, zeroVal, y0, y1, y2, y3, y4]; rfl) rfl ⟨_, by rw [hz.out]; rfl, (HE.out _ rfl).1, (HE.out _ rfl).2⟩
    · have hkl : k < t.list.length := by
        have := (List.getElem?_eq_some_iff.1 hr1).1
        have := hkeq.out
        omega
      obtain ⟨eb, eo, x, c0, c1, c2, c3, c4, rfl, heS, hx, f0, f1, f2, f3, f4, hval⟩ := hl1.cell hkl
      have hz := hide (HZ.out (some x) (getL_at hr1 hx hr2))
      obtain ⟨q0', q1', q2', q3', q4', q5', q6', q7', q8', hq⟩ := hval.shape
      cases hq
      have HE := hide (hend.out x _ _ _ _ _ hz.out hval)
      have hebl := hS eb heS
      have hki : (k : Int) < (t.list.length : Int) := by omega
      have hk0 : (0 : Int) ≤ (k : Int) := by omega
      clear hend hr1 hr2 HZ hl1 hval hx hkeq
      go_wp2_with fail
      refine bodyPost_ret (v := .tuple #[.agg #[.int .i64 q0', .int .i64 q1', .string q2', .slice q3' q4' q5', .slice q6' q7' q8'], .bool true]) (by simp [results, Tryz.results52, go_sem, y0, y1, y2, y3, y4]) rfl ⟨_, by rw [hz.out], (HE.out _ rfl).1, (HE.out _ rfl).2⟩
  · have q5 : (t.kind != 6) = true := by simpa using e5
    have hz : Hid (partGetT d t s = (zeroT d, false)) := by
      show partGetT d t s = _
      rw [partGetT, if_pos ⟨hok, hstr⟩, if_neg e0, if_neg e5]
    clear e0 e5 hk hl hv0 hB1
    go_enter Tryz.func52, Tryz.ntmps52
    go_wp2_with fail
    rw [hz.out]
    exact bodyPost_ret (v := .tuple #[zeroVal, .bool false]) (by simp [results, Tryz.results52, go_sem, zeroVal]; rfl) rfl ⟨_, rfl, zeroAt d _ _, hB2.out⟩
end Go.Proofs.YtgjahnkldobphaaGreatDoor

/- PartGet of the model. -/
namespace Go.Proofs.YtgjahnkldobphaaGreatDoor
open Go.RowKit Go.Deep

set_option maxRecDepth 100000 in
set_option maxHeartbeats 4000000 in
theorem specPartGet_any (d : Nat) (S : Nat → Prop) (t : Tr (d + 2)) (v : Value) (s : ByteArray) (hs : s.size < 281474976710656) (w : World) (hv : ValAt S w (d + 2) t v) (hS : Within S w) (hsm : (nodes (d + 2) t : Int) ≤ 4194304) :
    Calls Tryz.prog 27 #[v, .string s] w (SpecQ d (partGetT d t s).1 (partGetT d t s).2 w) := by
  have hv0 := hv
  obtain ⟨vk, vl, rfl, i1, i2, i3, hk, hl⟩ := hv
  obtain ⟨ak, ck, rfl, hkl⟩ := hk.open'
  obtain ⟨al, cl, rfl, hll⟩ := hl.open'
  obtain ⟨W0, hW⟩ : ∃ W0, W0 = (w.alloc (.cells #[.int .i64 t.kind, .int .i64 t.num, .string t.str, .slice ak t.keys.length ck, .slice al t.list.length cl] 26)).alloc (.cells #[.int .i64 0, .int .i64 0, .string { data := #[] }, .slice none 0 0, .slice none 0 0] 26) := ⟨_, rfl⟩
  have hW0 : Below w.heap.size w W0 := by rw [hW]; exact below_trans (below_alloc1 _ _) (below_alloc1 _ _)
  have k0 : Blk5 W0 w.heap.size 26 (.int .i64 t.kind) (.int .i64 t.num) (.string t.str) (.slice ak t.keys.length ck) (.slice al t.list.length cl) := by
    rw [hW]; exact (Blk5.new w 26 _ _ _ _ _).alloc _
  have k1 : Blk5 W0 (w.heap.size + 1) 26 (.int .i64 0) (.int .i64 0) (.string { data := #[] }) (.slice none 0 0) (.slice none 0 0) := by
    have := Blk5.new (w.alloc (.cells #[.int .i64 t.kind, .int .i64 t.num, .string t.str, .slice ak t.keys.length ck, .slice al t.list.length cl] 26)) 26 (.int .i64 0) (.int .i64 0) (.string { data := #[] }) (.slice none 0 0) (.slice none 0 0)
    rw [World.size_alloc] at this
    rw [hW]
    exact this
  have HW := hide hW
  clear hW hk hl
  go_enter Tryz.func27, Tryz.ntmps27
  go_wp2_with fail
  rw [← HW.out]
  clear HW
  refine (specValOk_any (d + 2) S t _ W0 (hv0.same (hS.same hW0)) (hS.later hW0.size) hsm).mono ?_
  rintro e w1 ⟨rfl, hb1⟩
  replace k0 := k0.below hb1
  replace k1 := k1.below hb1
  have hB1 := below_trans hW0 hb1
  obtain ⟨x0, x1, x2, x3, x4⟩ := k0.cell
  have hlt := k1.lt
  clear hb1 hW0
  cases hf : okT (d + 2) t with
  | false =>
    have hz : Hid (partGetT d t s = (zeroT d, false)) := by
      show partGetT d t s = _
      rw [partGetT, if_neg (by rw [hf]; simp)]
    have hno : Hid (∀ wF, wF = set5 w1 (w.heap.size + 1) 0 (.int .i64 0) (.int .i64 0) (.string { data := #[] }) (.slice none 0 0) (.slice none 0 0) → Below w.heap.size w wF) := by
      intro wF hF
      rw [hF]
      exact below_set5 hB1 (by omega) _ _ _ _ _ _
    obtain ⟨y0, y1, y2, y3, y4⟩ := k1.cell
    have yf := k1.frozen
    clear k0 k1 hB1 hv0
    go_wp2_with fail
    rw [hz.out]
    refine bodyPost_ret (v := .tuple #[zeroVal, .bool false]) (by simp [results, Tryz.results27, go_sem, zeroVal, y0, y1, y2, y3, y4]; rfl) rfl ⟨_, rfl, zeroAt d _ _, hno.out _ rfl⟩
  | true =>
    go_wp2_with fail
    refine (l1Str_any s w1 hs).mono ?_
    rintro e w1' ⟨rfl, rfl⟩
    cases hstr : strOk s with
    | false =>
      have hz : Hid (partGetT d t s = (zeroT d, false)) := by
        show partGetT d t s = _
        rw [partGetT, if_neg (by rw [hstr]; simp)]
      have hno : Hid (∀ wF, wF = set5 w1' (w.heap.size + 1) 0 (.int .i64 0) (.int .i64 0) (.string { data := #[] }) (.slice none 0 0) (.slice none 0 0) → Below w.heap.size w wF) := by
        intro wF hF
        rw [hF]
        exact below_set5 hB1 (by omega) _ _ _ _ _ _
      obtain ⟨y0, y1, y2, y3, y4⟩ := k1.cell
      have yf := k1.frozen
      clear k0 k1 hB1 hv0
      go_wp2_with fail
      rw [hz.out]
      refine bodyPost_ret (v := .tuple #[zeroVal, .bool false]) (by simp [results, Tryz.results27, go_sem, zeroVal, y0, y1, y2, y3, y4]; rfl) rfl ⟨_, rfl, zeroAt d _ _, hno.out _ rfl⟩
    | true =>
      have hokR := hide (okT_partGet d t s)
      go_wp2_with fail
      refine (l2Get_any d S t _ s _ (hv0.same (hS.same hB1)) (hS.later hB1.size) hstr hf).mono ?_
      rintro e w2 ⟨u, rfl, hu, hb2⟩
      obtain ⟨q0, q1, q2, q3, q4, q5, q6, q7, q8, rfl⟩ := hu.shape
      replace k1 := k1.below hb2
      have hB2 := below_trans hB1 hb2
      have hlt2 := k1.lt
      clear hb2 hB1 k0 x0 x1 x2 x3 x4 hlt
      have hA := below_alloc1 w2 (.cells #[.int .i64 q0, .int .i64 q1, .string q2, .slice q3 q4 q5, .slice q6 q7 q8] 26)
      have k2 := k1.alloc (.cells #[.int .i64 q0, .int .i64 q1, .string q2, .slice q3 q4 q5, .slice q6 q7 q8] 26)
      have hlt3 := k2.lt
      have hB3 := below_trans hB2 hA
      have hwt := wtT_ok hokR.out
      go_wp2_with fail
      refine (l1Copy_any (d + 1) S (partGetT d t s).1 _ _ (hu.same ((hS.later hB2.size).same hA)) (hS.later hB3.size) (by omega)).mono ?_
      rintro e w3 ⟨u, rfl, hu3, hb3⟩
      obtain ⟨u0, u1, u2, u3, u4, u5, u6, u7, u8, rfl⟩ := (ValOwn.at _ _ _ _ hu3).shape
      have HF := hide (tell_end hu3 (below_trans hB3 hb3) (by omega) hlt3)
      have k3 := k2.below hb3
      clear hu3 hb3 hB3 k2 k1 hB2 hA hu hv0
      obtain ⟨y0, y1, y2, y3, y4⟩ := k3.cell
      have yf := k3.frozen
      clear k3
      go_wp2_with fail
      refine bodyPost_ret (v := .tuple #[.agg #[.int .i64 u0, .int .i64 u1, .string u2, .slice u3 u4 u5, .slice u6 u7 u8], .bool (partGetT d t s).2]) (by simp [results, Tryz.results27, go_sem, y0, y1, y2, y3, y4]) rfl ⟨_, rfl, ValOwn.at _ _ _ _ (HF.out _ rfl).1, (HF.out _ rfl).2⟩
end Go.Proofs.YtgjahnkldobphaaGreatDoor

/- PartGet of the model : the answer owns its memory. -/
namespace Go.Proofs.YtgjahnkldobphaaGreatDoor
open Go.RowKit Go.Deep

set_option maxRecDepth 100000 in
set_option maxHeartbeats 4000000 in
theorem specPartGet_own (d : Nat) (S : Nat → Prop) (t : Tr (d + 2)) (v : Value) (s : ByteArray) (hs : s.size < 281474976710656) (w : World) (hv : ValAt S w (d + 2) t v) (hS : Within S w) (hsm : (nodes (d + 2) t : Int) ≤ 4194304) :
    Calls Tryz.prog 27 #[v, .string s] w (TellQ d (partGetT d t s).1 (partGetT d t s).2 w) := by
  have hv0 := hv
  obtain ⟨vk, vl, rfl, i1, i2, i3, hk, hl⟩ := hv
  obtain ⟨ak, ck, rfl, hkl⟩ := hk.open'
  obtain ⟨al, cl, rfl, hll⟩ := hl.open'
  obtain ⟨W0, hW⟩ : ∃ W0, W0 = (w.alloc (.cells #[.int .i64 t.kind, .int .i64 t.num, .string t.str, .slice ak t.keys.length ck, .slice al t.list.length cl] 26)).alloc (.cells #[.int .i64 0, .int .i64 0, .string { data := #[] }, .slice none 0 0, .slice none 0 0] 26) := ⟨_, rfl⟩
  have hW0 : Below w.heap.size w W0 := by rw [hW]; exact below_trans (below_alloc1 _ _) (below_alloc1 _ _)
  have k0 : Blk5 W0 w.heap.size 26 (.int .i64 t.kind) (.int .i64 t.num) (.string t.str) (.slice ak t.keys.length ck) (.slice al t.list.length cl) := by
    rw [hW]; exact (Blk5.new w 26 _ _ _ _ _).alloc _
  have k1 : Blk5 W0 (w.heap.size + 1) 26 (.int .i64 0) (.int .i64 0) (.string { data := #[] }) (.slice none 0 0) (.slice none 0 0) := by
    have := Blk5.new (w.alloc (.cells #[.int .i64 t.kind, .int .i64 t.num, .string t.str, .slice ak t.keys.length ck, .slice al t.list.length cl] 26)) 26 (.int .i64 0) (.int .i64 0) (.string { data := #[] }) (.slice none 0 0) (.slice none 0 0)
    rw [World.size_alloc] at this
    rw [hW]
    exact this
  have HW := hide hW
  clear hW hk hl
  go_enter Tryz.func27, Tryz.ntmps27
  go_wp2_with fail
  rw [← HW.out]
  clear HW
  refine (specValOk_any (d + 2) S t _ W0 (hv0.same (hS.same hW0)) (hS.later hW0.size) hsm).mono ?_
  rintro e w1 ⟨rfl, hb1⟩
  replace k0 := k0.below hb1
  replace k1 := k1.below hb1
  have hB1 := below_trans hW0 hb1
  obtain ⟨x0, x1, x2, x3, x4⟩ := k0.cell
  have hlt := k1.lt
  clear hb1 hW0
  cases hf : okT (d + 2) t with
  | false =>
    have hz : Hid (partGetT d t s = (zeroT d, false)) := by
      show partGetT d t s = _
      rw [partGetT, if_neg (by rw [hf]; simp)]
    have hno : Hid (∀ wF, wF = set5 w1 (w.heap.size + 1) 0 (.int .i64 0) (.int .i64 0) (.string { data := #[] }) (.slice none 0 0) (.slice none 0 0) → Below w.heap.size w wF) := by
      intro wF hF
      rw [hF]
      exact below_set5 hB1 (by omega) _ _ _ _ _ _
    obtain ⟨y0, y1, y2, y3, y4⟩ := k1.cell
    have yf := k1.frozen
    clear k0 k1 hB1 hv0
    go_wp2_with fail
    rw [hz.out]
    refine bodyPost_ret (v := .tuple #[zeroVal, .bool false]) (by simp [results, Tryz.results27, go_sem, zeroVal, y0, y1, y2, y3, y4]; rfl) rfl ⟨_, rfl, zeroVal_own d _ _, hno.out _ rfl⟩
  | true =>
    go_wp2_with fail
    refine (l1Str_any s w1 hs).mono ?_
    rintro e w1' ⟨rfl, rfl⟩
    cases hstr : strOk s with
    | false =>
      have hz : Hid (partGetT d t s = (zeroT d, false)) := by
        show partGetT d t s = _
        rw [partGetT, if_neg (by rw [hstr]; simp)]
      have hno : Hid (∀ wF, wF = set5 w1' (w.heap.size + 1) 0 (.int .i64 0) (.int .i64 0) (.string { data := #[] }) (.slice none 0 0) (.slice none 0 0) → Below w.heap.size w wF) := by
        intro wF hF
        rw [hF]
        exact below_set5 hB1 (by omega) _ _ _ _ _ _
      obtain ⟨y0, y1, y2, y3, y4⟩ := k1.cell
      have yf := k1.frozen
      clear k0 k1 hB1 hv0
      go_wp2_with fail
      rw [hz.out]
      refine bodyPost_ret (v := .tuple #[zeroVal, .bool false]) (by simp [results, Tryz.results27, go_sem, zeroVal, y0, y1, y2, y3, y4]; rfl) rfl ⟨_, rfl, zeroVal_own d _ _, hno.out _ rfl⟩
    | true =>
      have hokR := hide (okT_partGet d t s)
      go_wp2_with fail
      refine (l2Get_any d S t _ s _ (hv0.same (hS.same hB1)) (hS.later hB1.size) hstr hf).mono ?_
      rintro e w2 ⟨u, rfl, hu, hb2⟩
      obtain ⟨q0, q1, q2, q3, q4, q5, q6, q7, q8, rfl⟩ := hu.shape
      replace k1 := k1.below hb2
      have hB2 := below_trans hB1 hb2
      have hlt2 := k1.lt
      clear hb2 hB1 k0 x0 x1 x2 x3 x4 hlt
      have hA := below_alloc1 w2 (.cells #[.int .i64 q0, .int .i64 q1, .string q2, .slice q3 q4 q5, .slice q6 q7 q8] 26)
      have k2 := k1.alloc (.cells #[.int .i64 q0, .int .i64 q1, .string q2, .slice q3 q4 q5, .slice q6 q7 q8] 26)
      have hlt3 := k2.lt
      have hB3 := below_trans hB2 hA
      have hwt := wtT_ok hokR.out
      go_wp2_with fail
      refine (l1Copy_any (d + 1) S (partGetT d t s).1 _ _ (hu.same ((hS.later hB2.size).same hA)) (hS.later hB3.size) (by omega)).mono ?_
      rintro e w3 ⟨u, rfl, hu3, hb3⟩
      obtain ⟨u0, u1, u2, u3, u4, u5, u6, u7, u8, rfl⟩ := (ValOwn.at _ _ _ _ hu3).shape
      have HF := hide (tell_end hu3 (below_trans hB3 hb3) (by omega) hlt3)
      have k3 := k2.below hb3
      clear hu3 hb3 hB3 k2 k1 hB2 hA hu hv0
      obtain ⟨y0, y1, y2, y3, y4⟩ := k3.cell
      have yf := k3.frozen
      clear k3
      go_wp2_with fail
      refine bodyPost_ret (v := .tuple #[.agg #[.int .i64 u0, .int .i64 u1, .string u2, .slice u3 u4 u5, .slice u6 u7 u8], .bool (partGetT d t s).2]) (by simp [results, Tryz.results27, go_sem, y0, y1, y2, y3, y4]) rfl ⟨_, rfl, (HF.out _ rfl).1, (HF.out _ rfl).2⟩
end Go.Proofs.YtgjahnkldobphaaGreatDoor

/- PartAt of the model. Of what is right. -/
namespace Go.Proofs.YtgjahnkldobphaaGreatDoor
open Go.RowKit Go.Deep

theorem l2Place_any (i : Int) (n : Nat) (hi : I64 i) (hn : n ≤ 60) (w : World) : Calls Tryz.prog 70 #[.int .i64 i, .int .i64 n] w fun e w' => e = .returned (.int .i64 (placeI i n)) ∧ w' = w := by
  obtain ⟨hi1, hi2⟩ := hi
  by_cases h1 : i < -(n : Int)
  · have hm : Hid (placeI i n = -1) := by
      show placeI i n = -1
      unfold placeI
      rw [if_pos (Or.inl h1)]
    go_enter Tryz.func70, Tryz.ntmps70
    go_wp2_with fail
    go_ret
    rw [hm.out]
    exact ⟨rfl, rfl⟩
  by_cases h2 : (n : Int) ≤ i
  · have hm : Hid (placeI i n = -1) := by
      show placeI i n = -1
      unfold placeI
      rw [if_pos (Or.inr h2)]
    go_enter Tryz.func70, Tryz.ntmps70
    go_wp2_with fail
    go_ret
    rw [hm.out]
    exact ⟨rfl, rfl⟩
  by_cases h3 : i < 0
  · have hm : Hid (placeI i n = i + n) := by
      show placeI i n = i + n
      unfold placeI
      rw [if_neg (by omega), if_pos h3]
    go_enter Tryz.func70, Tryz.ntmps70
    go_wp2_with fail
    go_ret
    rw [hm.out]
    exact ⟨rfl, rfl⟩
  · have hm : Hid (placeI i n = i) := by
      show placeI i n = i
      unfold placeI
      rw [if_neg (by omega), if_neg h3]
    go_enter Tryz.func70, Tryz.ntmps70
    go_wp2_with fail
    go_ret
    rw [hm.out]
    exact ⟨rfl, rfl⟩

set_option maxRecDepth 100000 in
set_option maxHeartbeats 4000000 in
theorem l2At_any (d : Nat) (S : Nat → Prop) (t : Tr (d + 2)) (v : Value) (i : Int) (w : World) (hv : ValAt S w (d + 2) t v) (hS : Within S w) (hi : I64 i) (hok : okT (d + 2) t = true) :
    Calls Tryz.prog 54 #[v, .int .i64 i] w fun e w' => ∃ u, e = .returned (.tuple #[u, .bool (partAtT d t i).2]) ∧ ValAt S w' (d + 1) (partAtT d t i).1 u ∧ Below w.heap.size w w' := by
  have hv0 := hv
  obtain ⟨vk, vl, rfl, i1, i2, i3, hk, hl⟩ := hv
  obtain ⟨ak, ck, rfl, hkl⟩ := hk.open'
  obtain ⟨al, cl, rfl, hll⟩ := hl.open'
  obtain ⟨hkinds, hl60, _⟩ := okT_kinds hok
  have hl60 : t.list.length ≤ 60 := hl60
  clear hkinds
  have hB1 := hide (below_trans (below_alloc1 w (.cells #[.int .i64 t.kind, .int .i64 t.num, .string t.str, .slice ak t.keys.length ck, .slice al t.list.length cl] 26)) (below_alloc1 _ (.cells #[.int .i64 t.kind, .int .i64 t.num, .string t.str, .slice ak t.keys.length ck, .slice al t.list.length cl] 26)))
  have hB2 := hide (below_trans (below_alloc1 w (.cells #[.int .i64 t.kind, .int .i64 t.num, .string t.str, .slice ak t.keys.length ck, .slice al t.list.length cl] 26)) (below_alloc1 _ (.cells #[.int .i64 0, .int .i64 0, .string { data := #[] }, .slice none 0 0, .slice none 0 0] 26)))
  by_cases e0 : t.kind = 0
  · have q0 : (t.kind == 0) = true := by simpa using e0
    have hz : Hid (partAtT d t i = (zeroT d, true)) := by
      show partAtT d t i = _
      rw [partAtT, if_pos hok, if_pos e0]
    have HV := hide (valAt_zero hok e0 hv0)
    clear e0 hk hl hv0 hB2
    go_enter Tryz.func54, Tryz.ntmps54
    go_wp2_with fail
    rw [hz.out]
    exact bodyPost_ret (v := .tuple #[.agg #[.int .i64 t.kind, .int .i64 t.num, .string t.str, .slice ak t.keys.length ck, .slice al t.list.length cl], .bool true]) (by simp [results, Tryz.results54, go_sem]) rfl ⟨_, rfl, HV.out.same (hS.same hB1.out), hB1.out⟩
  have q0 : (t.kind == 0) = false := by simpa using e0
  by_cases e5 : t.kind = 5
  · have q5 : (t.kind != 5) = false := by simpa using e5
    rcases placeI_range i t.list.length with hp | ⟨hp1, hp2⟩
    · have hz : Hid (partAtT d t i = (zeroT d, true)) := by
        show partAtT d t i = _
        rw [partAtT, if_pos hok, if_neg e0, if_pos e5]
        unfold placeL
        rw [if_pos (by rw [hp]; omega)]
        rfl
      have HP := hide hp
      clear e0 e5 hk hl hv0 hB1 hp
      go_enter Tryz.func54, Tryz.ntmps54
      go_wp2_with fail
      refine (l2Place_any i t.list.length hi hl60 _).mono ?_
      rintro e w1 ⟨rfl, rfl⟩
      rw [HP.out]
      go_wp2_with fail
      rw [hz.out]
      exact bodyPost_ret (v := .tuple #[zeroVal, .bool true]) (by simp [results, Tryz.results54, go_sem, zeroVal]; rfl) rfl ⟨_, rfl, zeroAt d _ _, hB2.out⟩
    · obtain ⟨k, hk1⟩ : ∃ k : Nat, placeI i t.list.length = (k : Int) := ⟨(placeI i t.list.length).toNat, by omega⟩
      rw [hk1] at hp1 hp2
      have hkl : k < t.list.length := by omega
      obtain ⟨eb, eo, x, c0, c1, c2, c3, c4, rfl, heS, hx, f0, f1, f2, f3, f4, hval⟩ := hl.cell hkl
      have hz : Hid (partAtT d t i = (x, true)) := by
        show partAtT d t i = _
        rw [partAtT, if_pos hok, if_neg e0, if_pos e5]
        unfold placeL
        rw [hk1, if_neg (by omega), Int.toNat_natCast, hx]
        rfl
      obtain ⟨q0', q1', q2', q3', q4', q5', q6', q7', q8', hq⟩ := hval.shape
      cases hq
      have hebl := hS eb heS
      have HP := hide hk1
      have HV := hide hval
      have hki : (k : Int) < (t.list.length : Int) := by omega
      clear e0 e5 hk hl hv0 hB1 hk1 hval hx
      go_enter Tryz.func54, Tryz.ntmps54
      go_wp2_with fail
      refine (l2Place_any i t.list.length hi hl60 _).mono ?_
      rintro e w1 ⟨rfl, rfl⟩
      rw [HP.out]
      go_wp2_with fail
      rw [hz.out]
      have hB := below_trans (below_alloc1 w (.cells #[.int .i64 t.kind, .int .i64 t.num, .string t.str, .slice ak t.keys.length ck, .slice (some ⟨eb, eo, none⟩) t.list.length cl] 26)) (below_alloc1 _ (.cells #[.int .i64 q0', .int .i64 q1', .string q2', .slice q3' q4' q5', .slice q6' q7' q8'] 26))
      exact bodyPost_ret (v := .tuple #[.agg #[.int .i64 q0', .int .i64 q1', .string q2', .slice q3' q4' q5', .slice q6' q7' q8'], .bool true]) (by simp [results, Tryz.results54, go_sem]) rfl ⟨_, rfl, HV.out.same (hS.same hB), hB⟩
  · have q5 : (t.kind != 5) = true := by simpa using e5
    have hz : Hid (partAtT d t i = (zeroT d, false)) := by
      show partAtT d t i = _
      rw [partAtT, if_pos hok, if_neg e0, if_neg e5]
    clear e0 e5 hk hl hv0 hB1
    go_enter Tryz.func54, Tryz.ntmps54
    go_wp2_with fail
    rw [hz.out]
    exact bodyPost_ret (v := .tuple #[zeroVal, .bool false]) (by simp [results, Tryz.results54, go_sem, zeroVal]; rfl) rfl ⟨_, rfl, zeroAt d _ _, hB2.out⟩
end Go.Proofs.YtgjahnkldobphaaGreatDoor

/- PartAt of the model. -/
namespace Go.Proofs.YtgjahnkldobphaaGreatDoor
open Go.RowKit Go.Deep

set_option maxRecDepth 100000 in
set_option maxHeartbeats 4000000 in
theorem specPartAt_any (d : Nat) (S : Nat → Prop) (t : Tr (d + 2)) (v : Value) (i : Int) (hi : I64 i) (w : World) (hv : ValAt S w (d + 2) t v) (hS : Within S w) (hsm : (nodes (d + 2) t : Int) ≤ 4194304) :
    Calls Tryz.prog 28 #[v, .int .i64 i] w (SpecQ d (partAtT d t i).1 (partAtT d t i).2 w) := by
  have hv0 := hv
  obtain ⟨vk, vl, rfl, i1, i2, i3, hk, hl⟩ := hv
  obtain ⟨ak, ck, rfl, hkl⟩ := hk.open'
  obtain ⟨al, cl, rfl, hll⟩ := hl.open'
  obtain ⟨W0, hW⟩ : ∃ W0, W0 = (w.alloc (.cells #[.int .i64 t.kind, .int .i64 t.num, .string t.str, .slice ak t.keys.length ck, .slice al t.list.length cl] 26)).alloc (.cells #[.int .i64 0, .int .i64 0, .string { data := #[] }, .slice none 0 0, .slice none 0 0] 26) := ⟨_, rfl⟩
  have hW0 : Below w.heap.size w W0 := by rw [hW]; exact below_trans (below_alloc1 _ _) (below_alloc1 _ _)
  have k0 : Blk5 W0 w.heap.size 26 (.int .i64 t.kind) (.int .i64 t.num) (.string t.str) (.slice ak t.keys.length ck) (.slice al t.list.length cl) := by
    rw [hW]; exact (Blk5.new w 26 _ _ _ _ _).alloc _
  have k1 : Blk5 W0 (w.heap.size + 1) 26 (.int .i64 0) (.int .i64 0) (.string { data := #[] }) (.slice none 0 0) (.slice none 0 0) := by
    have := Blk5.new (w.alloc (.cells #[.int .i64 t.kind, .int .i64 t.num, .string t.str, .slice ak t.keys.length ck, .slice al t.list.length cl] 26)) 26 (.int .i64 0) (.int .i64 0) (.string { data := #[] }) (.slice none 0 0) (.slice none 0 0)
    rw [World.size_alloc] at this
    rw [hW]
    exact this
  have HW := hide hW
  clear hW hk hl
  go_enter Tryz.func28, Tryz.ntmps28
  go_wp2_with fail
  rw [← HW.out]
  clear HW
  refine (specValOk_any (d + 2) S t _ W0 (hv0.same (hS.same hW0)) (hS.later hW0.size) hsm).mono ?_
  rintro e w1 ⟨rfl, hb1⟩
  replace k0 := k0.below hb1
  replace k1 := k1.below hb1
  have hB1 := below_trans hW0 hb1
  obtain ⟨x0, x1, x2, x3, x4⟩ := k0.cell
  have hlt := k1.lt
  clear hb1 hW0
  cases hf : okT (d + 2) t with
  | false =>
    have hz : Hid (partAtT d t i = (zeroT d, false)) := by
      show partAtT d t i = _
      rw [partAtT, if_neg (by rw [hf]; simp)]
    have hno : Hid (∀ wF, wF = set5 w1 (w.heap.size + 1) 0 (.int .i64 0) (.int .i64 0) (.string { data := #[] }) (.slice none 0 0) (.slice none 0 0) → Below w.heap.size w wF) := by
      intro wF hF
      rw [hF]
      exact below_set5 hB1 (by omega) _ _ _ _ _ _
    obtain ⟨y0, y1, y2, y3, y4⟩ := k1.cell
    have yf := k1.frozen
    clear k0 k1 hB1 hv0
    go_wp2_with fail
    rw [hz.out]
    refine bodyPost_ret (v := .tuple #[zeroVal, .bool false]) (by simp [results, Tryz.results28, go_sem, zeroVal, y0, y1, y2, y3, y4]; rfl) rfl ⟨_, rfl, zeroAt d _ _, hno.out _ rfl⟩
  | true =>
    have hokR := hide (okT_partAt d t i)
    go_wp2_with fail
    refine (l2At_any d S t _ i _ (hv0.same (hS.same hB1)) (hS.later hB1.size) hi hf).mono ?_
    rintro e w2 ⟨u, rfl, hu, hb2⟩
    obtain ⟨q0, q1, q2, q3, q4, q5, q6, q7, q8, rfl⟩ := hu.shape
    replace k1 := k1.below hb2
    have hB2 := below_trans hB1 hb2
    have hlt2 := k1.lt
    clear hb2 hB1 k0 x0 x1 x2 x3 x4 hlt
    have hA := below_alloc1 w2 (.cells #[.int .i64 q0, .int .i64 q1, .string q2, .slice q3 q4 q5, .slice q6 q7 q8] 26)
    have k2 := k1.alloc (.cells #[.int .i64 q0, .int .i64 q1, .string q2, .slice q3 q4 q5, .slice q6 q7 q8] 26)
    have hlt3 := k2.lt
    have hB3 := below_trans hB2 hA
    have hwt := wtT_ok hokR.out
    go_wp2_with fail
    refine (l1Copy_any (d + 1) S (partAtT d t i).1 _ _ (hu.same ((hS.later hB2.size).same hA)) (hS.later hB3.size) (by omega)).mono ?_
    rintro e w3 ⟨u, rfl, hu3, hb3⟩
    obtain ⟨u0, u1, u2, u3, u4, u5, u6, u7, u8, rfl⟩ := (ValOwn.at _ _ _ _ hu3).shape
    have HF := hide (tell_end hu3 (below_trans hB3 hb3) (by omega) hlt3)
    have k3 := k2.below hb3
    clear hu3 hb3 hB3 k2 k1 hB2 hA hu hv0
    obtain ⟨y0, y1, y2, y3, y4⟩ := k3.cell
    have yf := k3.frozen
    clear k3
    go_wp2_with fail
    refine bodyPost_ret (v := .tuple #[.agg #[.int .i64 u0, .int .i64 u1, .string u2, .slice u3 u4 u5, .slice u6 u7 u8], .bool (partAtT d t i).2]) (by simp [results, Tryz.results28, go_sem, y0, y1, y2, y3, y4]) rfl ⟨_, rfl, ValOwn.at _ _ _ _ (HF.out _ rfl).1, (HF.out _ rfl).2⟩
end Go.Proofs.YtgjahnkldobphaaGreatDoor

/- PartAt of the model : the answer owns its memory. -/
namespace Go.Proofs.YtgjahnkldobphaaGreatDoor
open Go.RowKit Go.Deep

set_option maxRecDepth 100000 in
set_option maxHeartbeats 4000000 in
theorem specPartAt_own (d : Nat) (S : Nat → Prop) (t : Tr (d + 2)) (v : Value) (i : Int) (hi : I64 i) (w : World) (hv : ValAt S w (d + 2) t v) (hS : Within S w) (hsm : (nodes (d + 2) t : Int) ≤ 4194304) :
    Calls Tryz.prog 28 #[v, .int .i64 i] w (TellQ d (partAtT d t i).1 (partAtT d t i).2 w) := by
  have hv0 := hv
  obtain ⟨vk, vl, rfl, i1, i2, i3, hk, hl⟩ := hv
  obtain ⟨ak, ck, rfl, hkl⟩ := hk.open'
  obtain ⟨al, cl, rfl, hll⟩ := hl.open'
  obtain ⟨W0, hW⟩ : ∃ W0, W0 = (w.alloc (.cells #[.int .i64 t.kind, .int .i64 t.num, .string t.str, .slice ak t.keys.length ck, .slice al t.list.length cl] 26)).alloc (.cells #[.int .i64 0, .int .i64 0, .string { data := #[] }, .slice none 0 0, .slice none 0 0] 26) := ⟨_, rfl⟩
  have hW0 : Below w.heap.size w W0 := by rw [hW]; exact below_trans (below_alloc1 _ _) (below_alloc1 _ _)
  have k0 : Blk5 W0 w.heap.size 26 (.int .i64 t.kind) (.int .i64 t.num) (.string t.str) (.slice ak t.keys.length ck) (.slice al t.list.length cl) := by
    rw [hW]; exact (Blk5.new w 26 _ _ _ _ _).alloc _
  have k1 : Blk5 W0 (w.heap.size + 1) 26 (.int .i64 0) (.int .i64 0) (.string { data := #[] }) (.slice none 0 0) (.slice none 0 0) := by
    have := Blk5.new (w.alloc (.cells #[.int .i64 t.kind, .int .i64 t.num, .string t.str, .slice ak t.keys.length ck, .slice al t.list.length cl] 26)) 26 (.int .i64 0) (.int .i64 0) (.string { data := #[] }) (.slice none 0 0) (.slice none 0 0)
    rw [World.size_alloc] at this
    rw [hW]
    exact this
  have HW := hide hW
  clear hW hk hl
  go_enter Tryz.func28, Tryz.ntmps28
  go_wp2_with fail
  rw [← HW.out]
  clear HW
  refine (specValOk_any (d + 2) S t _ W0 (hv0.same (hS.same hW0)) (hS.later hW0.size) hsm).mono ?_
  rintro e w1 ⟨rfl, hb1⟩
  replace k0 := k0.below hb1
  replace k1 := k1.below hb1
  have hB1 := below_trans hW0 hb1
  obtain ⟨x0, x1, x2, x3, x4⟩ := k0.cell
  have hlt := k1.lt
  clear hb1 hW0
  cases hf : okT (d + 2) t with
  | false =>
    have hz : Hid (partAtT d t i = (zeroT d, false)) := by
      show partAtT d t i = _
      rw [partAtT, if_neg (by rw [hf]; simp)]
    have hno : Hid (∀ wF, wF = set5 w1 (w.heap.size + 1) 0 (.int .i64 0) (.int .i64 0) (.string { data := #[] }) (.slice none 0 0) (.slice none 0 0) → Below w.heap.size w wF) := by
      intro wF hF
      rw [hF]
      exact below_set5 hB1 (by omega) _ _ _ _ _ _
    obtain ⟨y0, y1, y2, y3, y4⟩ := k1.cell
    have yf := k1.frozen
    clear k0 k1 hB1 hv0
    go_wp2_with fail
    rw [hz.out]
    refine bodyPost_ret (v := .tuple #[zeroVal, .bool false]) (by simp [results, Tryz.results28, go_sem, zeroVal, y0, y1, y2, y3, y4]; rfl) rfl ⟨_, rfl, zeroVal_own d _ _, hno.out _ rfl⟩
  | true =>
    have hokR := hide (okT_partAt d t i)
    go_wp2_with fail
    refine (l2At_any d S t _ i _ (hv0.same (hS.same hB1)) (hS.later hB1.size) hi hf).mono ?_
    rintro e w2 ⟨u, rfl, hu, hb2⟩
    obtain ⟨q0, q1, q2, q3, q4, q5, q6, q7, q8, rfl⟩ := hu.shape
    replace k1 := k1.below hb2
    have hB2 := below_trans hB1 hb2
    have hlt2 := k1.lt
    clear hb2 hB1 k0 x0 x1 x2 x3 x4 hlt
    have hA := below_alloc1 w2 (.cells #[.int .i64 q0, .int .i64 q1, .string q2, .slice q3 q4 q5, .slice q6 q7 q8] 26)
    have k2 := k1.alloc (.cells #[.int .i64 q0, .int .i64 q1, .string q2, .slice q3 q4 q5, .slice q6 q7 q8] 26)
    have hlt3 := k2.lt
    have hB3 := below_trans hB2 hA
    have hwt := wtT_ok hokR.out
    go_wp2_with fail
    refine (l1Copy_any (d + 1) S (partAtT d t i).1 _ _ (hu.same ((hS.later hB2.size).same hA)) (hS.later hB3.size) (by omega)).mono ?_
    rintro e w3 ⟨u, rfl, hu3, hb3⟩
    obtain ⟨u0, u1, u2, u3, u4, u5, u6, u7, u8, rfl⟩ := (ValOwn.at _ _ _ _ hu3).shape
    have HF := hide (tell_end hu3 (below_trans hB3 hb3) (by omega) hlt3)
    have k3 := k2.below hb3
    clear hu3 hb3 hB3 k2 k1 hB2 hA hu hv0
    obtain ⟨y0, y1, y2, y3, y4⟩ := k3.cell
    have yf := k3.frozen
    clear k3
    go_wp2_with fail
    refine bodyPost_ret (v := .tuple #[.agg #[.int .i64 u0, .int .i64 u1, .string u2, .slice u3 u4 u5, .slice u6 u7 u8], .bool (partAtT d t i).2]) (by simp [results, Tryz.results28, go_sem, y0, y1, y2, y3, y4]) rfl ⟨_, rfl, (HF.out _ rfl).1, (HF.out _ rfl).2⟩
end Go.Proofs.YtgjahnkldobphaaGreatDoor

/- PartLen of the model and of the program. -/
namespace Go.Proofs.YtgjahnkldobphaaGreatDoor
open Go.RowKit Go.Deep

/-- How long a tree is. -/
def lenT (d : Nat) (t : Tr (d + 1)) : Option Int :=
  if Nd.kind t = 0 then some 0 else if Nd.kind t = 3 then some (max (Nd.num t) (-(Nd.num t))) else if Nd.kind t = 4 then some (Nd.str t).size
  else if Nd.kind t = 5 ∨ Nd.kind t = 6 then some (Nd.list t).length else none
def partLenT (d : Nat) (t : Tr (d + 1)) : Tr (d + 1) × Bool := if okT (d + 1) t = true then (match lenT d t with | some n => (numT d n, true) | none => (zeroT d, false)) else (zeroT d, false)

/-- How many entries a map has. -/
theorem run_len_map (w : World) (r clock : Nat) (es : Array MapEntry) (ty : TypeId) (hb : w.heap[r]? = some (.map es clock)) :
    (Builtin.len_ #[52] ty #[.map (some r)]).run Tryz.prog w = .ok (.int .i64 es.size) w := by
  simp [Builtin.len_, run_underlying Tryz.underlying52, getObj, Sem.run, hb, goInt]

/-- What lengthOf is asked to give. -/
def LenQ (d : Nat) (t : Tr (d + 1)) (w : World) (e : Ending) (w' : World) : Prop :=
  Below w.heap.size w w' ∧ (if okT (d + 1) t = true then (match lenT d t with
    | some n => e = .returned (.tuple #[.iface 105 (.agg #[.int .i64 n]), .nilIface])
    | none => ∃ why, e = .returned (.tuple #[.nilIface, faultV why])) else ∃ why, e = .returned (.tuple #[.nilIface, faultV why]))

set_option maxRecDepth 100000 in
set_option maxHeartbeats 4000000 in
theorem lengthOf_any (d : Nat) (S : Nat → Prop) (t : Tr (d + 1)) (v : Value) (w : World) (hv : ValAt S w (d + 1) t v) (hS : Within S w) :
    Calls Tryz.prog 48 #[v] w (LenQ d t w) := by
  obtain ⟨k, n, s, ak, lk, ck, al, ll, cl, rfl⟩ := hv.shape
  have hA := below_alloc1 w (.cells #[.int .i64 k, .int .i64 n, .string s, .slice ak lk ck, .slice al ll cl] 26)
  go_enter Tryz.func48, Tryz.ntmps48
  go_wp2_with fail
  refine (given_any (d + 1) S t _ _ (hv.same (hS.same hA)) (hS.later hA.size)).mono ?_
  rintro e w1 ⟨hb1, hq⟩
  have hB := below_trans hA hb1
  clear hb1 hA hv
  rcases hq with ⟨hok, u, rfl, hu⟩ | ⟨hok, why, rfl⟩
  · obtain ⟨hkinds, hll, _⟩ := okT_kinds hok
    have HK := hide hkinds
    clear hkinds
    rcases hu with ⟨k', h1, rfl, rfl⟩ | ⟨n', h1, rfl, rfl⟩ | ⟨s', h1, rfl, rfl⟩ | ⟨xs, sv, h1, rfl, rfl, hr⟩ | ⟨keys, xs, ps, r, es, h1, h2, h3, h4, rfl, rfl, hr, hm, he⟩
    · have a1 := Tryz.asN_B
      have a2 := Tryz.asS_B
      have a3 := Tryz.asR_B
      have a4 := Tryz.asM_B
      go_wp2_with fail
      refine (isNothing_bare k' w1).mono ?_
      rintro e w2 ⟨rfl, hb2⟩
      have HB2 := hide (below_trans hB hb2)
      clear hb2 hB
      by_cases hk0 : k' = 0
      · have hkb : (k' == 0) = true := by simpa using hk0
        have hq : Hid (lenT d (Nd.mk k' 0 ByteArray.empty [] [] : Nd (Tr d)) = some 0) := by
          show (if k' = 0 then _ else _) = _
          rw [if_pos hk0]
        clear hk0
        go_wp2_with fail
        go_ret2
        refine ⟨HB2.out, ?_⟩
        rw [if_pos hok, hq.out]
        exact rfl
      · have hkb : (k' == 0) = false := by simpa using hk0
        have hq : Hid (lenT d (Nd.mk k' 0 ByteArray.empty [] [] : Nd (Tr d)) = none) := by
          show (if k' = 0 then _ else if k' = 3 then _ else if k' = 4 then _ else if k' = 5 ∨ k' = 6 then _ else _) = _
          rw [if_neg hk0, if_neg (by omega), if_neg (by omega), if_neg (by omega)]
        clear hk0
        go_wp2_with fail
        go_ret2
        refine ⟨HB2.out, ?_⟩
        rw [if_pos hok, hq.out]
        exact ⟨_, rfl⟩
    · have a1 := Tryz.asN_N
      have hn : -1000000 ≤ n' ∧ n' ≤ 1000000 := by
        have h0 : (3 : Int) = 0 ∨ (3 : Int) = 1 ∨ (3 : Int) = 2 ∨ ((3 : Int) = 3 ∧ -1000000 ≤ n' ∧ n' ≤ 1000000) ∨ ((3 : Int) = 4 ∧ ByteArray.empty.size ≤ 12) ∨ (3 : Int) = 5 ∨ (3 : Int) = 6 := HK.out
        omega
      have hq : Hid (lenT d (Nd.mk 3 n' ByteArray.empty [] [] : Nd (Tr d)) = some (max n' (-n'))) := rfl
      have HB := hide (below_trans hB (below_alloc1 w1 (.cells #[.int .i64 n'] 105)))
      have h2 := hn.1
      have h3 := hn.2
      clear hB hn
      go_wp2_with fail
      go_ret2
      refine ⟨HB.out, ?_⟩
      rw [if_pos hok, hq.out]
      exact rfl
    · have a1 := Tryz.asN_S
      have a2 := Tryz.asS_S
      have hq : Hid (lenT d (Nd.mk 4 0 s' [] [] : Nd (Tr d)) = some (s'.size : Int)) := rfl
      have HB := hide (below_trans hB (below_alloc1 w1 (.cells #[.string s'] 107)))
      clear hB
      go_wp2_with fail
      go_ret2
      refine ⟨HB.out, ?_⟩
      rw [if_pos hok, hq.out]
      exact rfl
    · have a1 := Tryz.asN_R
      have a2 := Tryz.asS_R
      have a3 := Tryz.asR_R
      obtain ⟨sa, sc, rfl, _⟩ := hr.open'
      have hq : Hid (lenT d (Nd.mk 5 0 ByteArray.empty [] xs : Nd (Tr d)) = some (xs.length : Int)) := rfl
      have HB := hide (below_trans hB (below_alloc1 w1 (.cells #[.slice sa xs.length sc] 102)))
      clear hB hr
      go_wp2_with fail
      go_ret2
      refine ⟨HB.out, ?_⟩
      rw [if_pos hok, hq.out]
      exact rfl
    · have a1 := Tryz.asN_M
      have a2 := Tryz.asS_M
      have a3 := Tryz.asR_M
      have a4 := Tryz.asM_M
      have hq : Hid (lenT d (Nd.mk 6 0 ByteArray.empty keys xs : Nd (Tr d)) = some (xs.length : Int)) := rfl
      have HB := hide (below_trans hB (below_alloc1 w1 (.cells #[.map (some r)] 63)))
      have hes : es.size = xs.length := by rw [he.1, h4.length_eq, List.length_zip, h3, Nat.min_self]
      have hlen := run_len_map (w1.alloc (.cells #[.map (some r)] 63)) r ps.length es 3 ((Below.heap_alloc _ _ _ hr.2).trans hm)
      rw [hes] at hlen
      clear hB hes he hm h4 h3 h2
      go_wp2_with fail
      go_ret2
      refine ⟨HB.out, ?_⟩
      rw [if_pos hok, hq.out]
      exact rfl
  · unfold faultV
    go_wp2_with fail
    go_ret2
    refine ⟨hB, ?_⟩
    rw [if_neg (by rw [hok]; simp)]
    exact ⟨why, rfl⟩

theorem lenT_bd {d : Nat} {t : Tr (d + 1)} (h : okT (d + 1) t = true) {n : Int} (hn : lenT d t = some n) : -1000000 ≤ n ∧ n ≤ 1000000 := by
  obtain ⟨hk, hl, _⟩ := okT_kinds h
  unfold lenT at hn
  split at hn
  · cases hn; omega
  split at hn
  · cases hn; omega
  split at hn
  · cases hn; omega
  split at hn
  · cases hn; omega
  · cases hn

set_option maxRecDepth 100000 in
set_option maxHeartbeats 4000000 in
theorem implPartLen_any (d : Nat) (S : Nat → Prop) (t : Tr (d + 1)) (v : Value) (w : World) (hv : ValAt S w (d + 1) t v) (hS : Within S w) (hg : ErrType w) :
    Calls Tryz.prog 21 #[v] w (TellQ d (partLenT d t).1 (partLenT d t).2 w) := by
  obtain ⟨k, n, s, ak, lk, ck, al, ll, cl, rfl⟩ := hv.shape
  obtain ⟨W0, hW⟩ : ∃ W0, W0 = (w.alloc (.cells #[.int .i64 k, .int .i64 n, .string s, .slice ak lk ck, .slice al ll cl] 26)).alloc (.cells #[.int .i64 0, .int .i64 0, .string { data := #[] }, .slice none 0 0, .slice none 0 0] 26) := ⟨_, rfl⟩
  have hW0 : Below w.heap.size w W0 := by rw [hW]; exact below_trans (below_alloc1 _ _) (below_alloc1 _ _)
  have k1 : Blk5 W0 (w.heap.size + 1) 26 (.int .i64 0) (.int .i64 0) (.string { data := #[] }) (.slice none 0 0) (.slice none 0 0) := by
    have := Blk5.new (w.alloc (.cells #[.int .i64 k, .int .i64 n, .string s, .slice ak lk ck, .slice al ll cl] 26)) 26 (.int .i64 0) (.int .i64 0) (.string { data := #[] }) (.slice none 0 0) (.slice none 0 0)
    rw [World.size_alloc] at this
    rw [hW]
    exact this
  have HW := hide hW
  clear hW
  go_enter Tryz.func21, Tryz.ntmps21
  go_wp2_with fail
  rw [← HW.out]
  clear HW
  refine (lengthOf_any d S t _ W0 (hv.same (hS.same hW0)) (hS.later hW0.size)).mono ?_
  rintro e w1 ⟨hb1, hq⟩
  have hB1 := below_trans hW0 hb1
  have k2 := k1.below hb1
  have hg1 := hg.below hB1
  have hlt := k2.lt
  -- what is told, however it is
  have hfin : ∀ (x : Tr (d + 1)) (ok : Bool), Hid (∀ e w2, TellQ d x ok w1 e w2 → ∃ v0 v1 v2 v3 v4 v5 v6 v7 v8, e = .returned (.tuple #[.agg #[.int .i64 v0, .int .i64 v1, .string v2, .slice v3 v4 v5, .slice v6 v7 v8], .bool ok]) ∧
      Blk5 w2 (w.heap.size + 1) 26 (.int .i64 0) (.int .i64 0) (.string { data := #[] }) (.slice none 0 0) (.slice none 0 0) ∧
      ∀ wF, wF = set5 w2 (w.heap.size + 1) 0 (.int .i64 v0) (.int .i64 v1) (.string v2) (.slice v3 v4 v5) (.slice v6 v7 v8) → ValOwn wF (d + 1) (Fresh w wF) x (.agg #[.int .i64 v0, .int .i64 v1, .string v2, .slice v3 v4 v5, .slice v6 v7 v8]) ∧ Below w.heap.size w wF) := fun x ok => by
    intro e w2 ⟨v, he, hv, hb2⟩
    obtain ⟨v0, v1, v2, v3, v4, v5, v6, v7, v8, rfl⟩ := (ValOwn.at _ _ _ _ hv).shape
    exact ⟨v0, v1, v2, v3, v4, v5, v6, v7, v8, he, k2.below hb2, tell_end hv (below_trans hB1 hb2) (by omega) hlt⟩
  clear hv hW0 hb1 k1 k2
  have hres : Hid (okT (d + 1) t = true → ∀ n, lenT d t = some n → partLenT d t = (toldT d (numT d n), okT (d + 1) (numT d n))) := fun h n hn => by
    have hb := lenT_bd h hn
    rw [partLenT, if_pos h, hn, okT_num d n hb, toldT, if_pos (okT_num d n hb)]
  have hres2 : Hid (okT (d + 1) t = true → lenT d t = none → partLenT d t = (zeroT d, false)) := fun h hn => by rw [partLenT, if_pos h, hn]
  have hres3 : Hid (okT (d + 1) t = false → partLenT d t = (zeroT d, false)) := fun h => by rw [partLenT, if_neg (by rw [h]; simp)]
  have key : (∃ n, okT (d + 1) t = true ∧ lenT d t = some n ∧ e = .returned (.tuple #[.iface 105 (.agg #[.int .i64 n]), .nilIface])) ∨ (partLenT d t = (zeroT d, false) ∧ ∃ why, e = .returned (.tuple #[.nilIface, faultV why])) := by
    cases hok : okT (d + 1) t with
    | false =>
      rw [if_neg (by rw [hok]; simp)] at hq
      exact Or.inr ⟨hres3.out hok, hq⟩
    | true =>
      rw [if_pos hok] at hq
      cases hl : lenT d t with
      | none =>
        rw [hl] at hq
        exact Or.inr ⟨hres2.out hok hl, hq⟩
      | some n =>
        rw [hl] at hq
        exact Or.inl ⟨n, rfl, rfl, hq⟩
  clear hq
  rcases key with ⟨n', hok, hln, rfl⟩ | ⟨hz, why, rfl⟩
  · have hbd := lenT_bd hok hln
    have HR := hide (hres.out hok n' hln)
    have hcall := hide (told_tree d (fun _ => False) (numT d n') (.iface 105 (.agg #[.int .i64 n'])) w1 (numTree_at d n' ⟨by omega, by omega⟩ _ _) (fun _ h => h.elim))
    clear hres hres2 hres3 hok hln hbd
    go_wp2_with fail
    refine Calls.mono hcall.out ?_
    intro e w2 hq
    obtain ⟨v0, v1, v2, v3, v4, v5, v6, v7, v8, rfl, k3, hF⟩ := (hfin _ _).out e w2 hq
    have HF := hide hF
    obtain ⟨y0, y1, y2, y3, y4⟩ := k3.cell
    have yf := k3.frozen
    clear hF hq hfin hcall k3
    go_wp2_with fail
    refine bodyPost_ret (v := .tuple #[.agg #[.int .i64 v0, .int .i64 v1, .string v2, .slice v3 v4 v5, .slice v6 v7 v8], .bool (okT (d + 1) (numT d n'))]) (by simp [results, Tryz.results21, go_sem, y0, y1, y2, y3, y4]) rfl ⟨_, by rw [HR.out], by rw [HR.out]; exact (HF.out _ rfl).1, (HF.out _ rfl).2⟩
  · have HR := hide hz
    have hcall := hide (told_fault d .nilIface why w1 hg1)
    unfold faultV
    clear hres hres2 hres3 hz
    go_wp2_with fail
    refine Calls.mono hcall.out ?_
    intro e w2 hq
    obtain ⟨v0, v1, v2, v3, v4, v5, v6, v7, v8, rfl, k3, hF⟩ := (hfin _ _).out e w2 hq
    have HF := hide hF
    obtain ⟨y0, y1, y2, y3, y4⟩ := k3.cell
    have yf := k3.frozen
    clear hF hq hfin hcall k3
    go_wp2_with fail
    refine bodyPost_ret (v := .tuple #[.agg #[.int .i64 v0, .int .i64 v1, .string v2, .slice v3 v4 v5, .slice v6 v7 v8], .bool false]) (by simp [results, Tryz.results21, go_sem, y0, y1, y2, y3, y4]) rfl ⟨_, by rw [HR.out], by rw [HR.out]; exact (HF.out _ rfl).1, (HF.out _ rfl).2⟩
end Go.Proofs.YtgjahnkldobphaaGreatDoor
