/- Texts of the proof, put together by program: WAtM, WGetM, WPathO. -/
import Derived.Test.YtlpembhdojdomaaGreatDoorPg13
import Derived.Test.YtlpembhdojdomaaGreatDoorPg16
import Derived.Test.YtlpembhdojdomaaGreatDoorPg14
/- PartAt of the model. Of what is right. -/
namespace Go.Proofs.YtlpembhdojdomaaGreatDoor
open Go.RowKit Go.Deep

theorem l2Place_any (i : Int) (n : Nat) (hi : I64 i) (hn : n ≤ 60) (w : World) : Calls Tryz.prog 94 #[.int .i64 i, .int .i64 n] w fun e w' => e = .returned (.int .i64 (placeI i n)) ∧ w' = w := by
  obtain ⟨hi1, hi2⟩ := hi
  by_cases h1 : i < -(n : Int)
  · have hm : Hid (placeI i n = -1) := by
      show placeI i n = -1
      unfold placeI
      rw [if_pos (Or.inl h1)]
    go_enter Tryz.func94, Tryz.ntmps94
    go_wp2_with fail
    go_ret
    rw [hm.out]
    exact ⟨rfl, rfl⟩
  by_cases h2 : (n : Int) ≤ i
  · have hm : Hid (placeI i n = -1) := by
      show placeI i n = -1
      unfold placeI
      rw [if_pos (Or.inr h2)]
    go_enter Tryz.func94, Tryz.ntmps94
    go_wp2_with fail
    go_ret
    rw [hm.out]
    exact ⟨rfl, rfl⟩
  by_cases h3 : i < 0
  · have hm : Hid (placeI i n = i + n) := by
      show placeI i n = i + n
      unfold placeI
      rw [if_neg (by omega), if_pos h3]
    go_enter Tryz.func94, Tryz.ntmps94
    go_wp2_with fail
    go_ret
    rw [hm.out]
    exact ⟨rfl, rfl⟩
  · have hm : Hid (placeI i n = i) := by
      show placeI i n = i
      unfold placeI
      rw [if_neg (by omega), if_neg h3]
    go_enter Tryz.func94, Tryz.ntmps94
    go_wp2_with fail
    go_ret
    rw [hm.out]
    exact ⟨rfl, rfl⟩

set_option maxRecDepth 100000 in
set_option maxHeartbeats 4000000 in
theorem l2At_any (d : Nat) (S : Nat → Prop) (t : Tr (d + 2)) (v : Value) (i : Int) (w : World) (hv : ValAt S w (d + 2) t v) (hS : Within S w) (hi : I64 i) (hok : okT (d + 2) t = true) :
    Calls Tryz.prog 80 #[v, .int .i64 i] w fun e w' => ∃ u, e = .returned (.tuple #[u, .bool (partAtT d t i).2]) ∧ ValAt S w' (d + 1) (partAtT d t i).1 u ∧ Below w.heap.size w w' := by
  have hv0 := hv
  obtain ⟨vk, vl, rfl, i1, i2, i3, hk, hl⟩ := hv
  obtain ⟨ak, ck, rfl, hkl⟩ := hk.open'
  obtain ⟨al, cl, rfl, hll⟩ := hl.open'
  obtain ⟨hkinds, hl60, _⟩ := okT_kinds hok
  have hl60 : t.list.length ≤ 60 := hl60
  clear hkinds
  have hB1 := hide (below_trans (below_alloc1 w (.cells #[.int .i64 t.kind, .int .i64 t.num, .string t.str, .slice ak t.keys.length ck, .slice al t.list.length cl] 29)) (below_alloc1 _ (.cells #[.int .i64 t.kind, .int .i64 t.num, .string t.str, .slice ak t.keys.length ck, .slice al t.list.length cl] 29)))
  have hB2 := hide (below_trans (below_alloc1 w (.cells #[.int .i64 t.kind, .int .i64 t.num, .string t.str, .slice ak t.keys.length ck, .slice al t.list.length cl] 29)) (below_alloc1 _ (.cells #[.int .i64 0, .int .i64 0, .string { data := #[] }, .slice none 0 0, .slice none 0 0] 29)))
  by_cases e0 : t.kind = 0
  · have q0 : (t.kind == 0) = true := by simpa using e0
    have hz : Hid (partAtT d t i = (zeroT d, true)) := by
      show partAtT d t i = _
      rw [partAtT, if_pos hok, if_pos e0]
    have HV := hide (valAt_zero hok e0 hv0)
    clear e0 hk hl hv0 hB2
    go_enter Tryz.func80, Tryz.ntmps80
    go_wp2_with fail
    rw [hz.out]
    exact bodyPost_ret (v := .tuple #[.agg #[.int .i64 t.kind, .int .i64 t.num, .string t.str, .slice ak t.keys.length ck, .slice al t.list.length cl], .bool true]) (by simp [results, Tryz.results80, go_sem]) rfl ⟨_, rfl, HV.out.same (hS.same hB1.out), hB1.out⟩
  have q0 : (t.kind == 0) = false := by simpa using e0
  by_cases e5 : t.kind = 5
  · have q5 : (t.kind != 5) = false := by simpa using e5
    rcases placeI_range i t.list.length with hp | ⟨hp1, hp2⟩
    · have hz : Hid (partAtT d t i = (zeroT d, true)) := by
        show partAtT d t i = _
        rw [partAtT, if_pos hok, if_neg e0, if_pos e5]
        unfold placeL
        rw [if_pos (by rw [hp]; omega)]
        rfl
      have HP := hide hp
      clear e0 e5 hk hl hv0 hB1 hp
      go_enter Tryz.func80, Tryz.ntmps80
      go_wp2_with fail
      refine (l2Place_any i t.list.length hi hl60 _).mono ?_
      rintro e w1 ⟨rfl, rfl⟩
      rw [HP.out]
      go_wp2_with fail
      rw [hz.out]
      exact bodyPost_ret (v := .tuple #[zeroVal, .bool true]) (by simp [results, Tryz.results80, go_sem, zeroVal]; rfl) rfl ⟨_, rfl, zeroAt d _ _, hB2.out⟩
    · obtain ⟨k, hk1⟩ : ∃ k : Nat, placeI i t.list.length = (k : Int) := ⟨(placeI i t.list.length).toNat, by omega⟩
      rw [hk1] at hp1 hp2
      have hkl : k < t.list.length := by omega
      obtain ⟨eb, eo, x, c0, c1, c2, c3, c4, rfl, heS, hx, f0, f1, f2, f3, f4, hval⟩ := hl.cell hkl
      have hz : Hid (partAtT d t i = (x, true)) := by
        show partAtT d t i = _
        rw [partAtT, if_pos hok, if_neg e0, if_pos e5]
        unfold placeL
        rw [hk1, if_neg (by omega), Int.toNat_natCast, hx]
        rfl
      obtain ⟨q0', q1', q2', q3', q4', q5', q6', q7', q8', hq⟩ := hval.shape
      cases hq
      have hebl := hS eb heS
      have HP := hide hk1
      have HV := hide hval
      have hki : (k : Int) < (t.list.length : Int) := by omega
      clear e0 e5 hk hl hv0 hB1 hk1 hval hx
      go_enter Tryz.func80, Tryz.ntmps80
      go_wp2_with fail
      refine (l2Place_any i t.list.length hi hl60 _).mono ?_
      rintro e w1 ⟨rfl, rfl⟩
      rw [HP.out]
      go_wp2_with fail
      rw [hz.out]
      have hB := below_trans (below_alloc1 w (.cells #[.int .i64 t.kind, .int .i64 t.num, .string t.str, .slice ak t.keys.length ck, .slice (some ⟨eb, eo, none⟩) t.list.length cl] 29)) (below_alloc1 _ (.cells #[.int .i64 q0', .int .i64 q1', .string q2', .slice q3' q4' q5', .slice q6' q7' q8'] 29))
      exact bodyPost_ret (v := .tuple #[.agg #[.int .i64 q0', .int .i64 q1', .string q2', .slice q3' q4' q5', .slice q6' q7' q8'], .bool true]) (by simp [results, Tryz.results80, go_sem]) rfl ⟨_, rfl, HV.out.same (hS.same hB), hB⟩
  · have q5 : (t.kind != 5) = true := by simpa using e5
    have hz : Hid (partAtT d t i = (zeroT d, false)) := by
      show partAtT d t i = _
      rw [partAtT, if_pos hok, if_neg e0, if_neg e5]
    clear e0 e5 hk hl hv0 hB1
    go_enter Tryz.func80, Tryz.ntmps80
    go_wp2_with fail
    rw [hz.out]
    exact bodyPost_ret (v := .tuple #[zeroVal, .bool false]) (by simp [results, Tryz.results80, go_sem, zeroVal]; rfl) rfl ⟨_, rfl, zeroAt d _ _, hB2.out⟩
end Go.Proofs.YtlpembhdojdomaaGreatDoor

/- PartGet of the model. Of what is right. -/
namespace Go.Proofs.YtlpembhdojdomaaGreatDoor
open Go.RowKit Go.Deep

set_option maxRecDepth 100000 in
set_option maxHeartbeats 2000000 in
theorem l2Key_any (d : Nat) (S : Nat → Prop) (t : Tr (d + 1)) (v : Value) (s : ByteArray) (w : World) (hv : ValAt S w (d + 1) t v) (hS : Within S w) :
    Calls Tryz.prog 93 #[v, .string s] w fun e w' => (∃ r : Int, e = .returned (.int .i64 r) ∧ ((r = -1 ∧ s ∉ Nd.keys t) ∨ ∃ k : Nat, r = k ∧ (Nd.keys t)[k]? = some s ∧ ∀ j, j < k → (Nd.keys t)[j]? ≠ some s)) ∧ Below w.heap.size w w' := by
  obtain ⟨vk, vl, rfl, i1, i2, i3, hk, hl⟩ := hv
  obtain ⟨ak, ck, rfl, hkl⟩ := hk.open'
  obtain ⟨al, cl, rfl, hll⟩ := hl.open'
  obtain ⟨W0, hW⟩ : ∃ W0, W0 = w.alloc (.cells #[.int .i64 t.kind, .int .i64 t.num, .string t.str, .slice ak t.keys.length ck, .slice al t.list.length cl] 29) := ⟨_, rfl⟩
  have hW0 : Below w.heap.size w W0 := by rw [hW]; exact below_alloc1 _ _
  have k0 : Blk5 W0 w.heap.size 29 (.int .i64 t.kind) (.int .i64 t.num) (.string t.str) (.slice ak t.keys.length ck) (.slice al t.list.length cl) := by
    rw [hW]; exact Blk5.new w 29 _ _ _ _ _
  obtain ⟨x0, x1, x2, x3, x4⟩ := k0.cell
  have hk0 := hk.same (hS.same hW0)
  have HW := hide hW
  have HB := hide hW0
  clear hW hk hl hW0 k0
  generalize hK : t.keys = keys at *
  clear hK
  go_enter Tryz.func93, Tryz.ntmps93
  go_wp2_with fail
  rw [← HW.out]
  clear HW
  go_loopw [5] (fun i wr => ∃ k : Nat, k ≤ keys.length ∧ i = .int .i64 k ∧ wr = W0 ∧ Hid (∀ j, j < k → keys[j]? ≠ some s)) (fun i _ => keys.length - (intOf i).toNat)
  case atStart => exact ⟨0, Nat.zero_le _, rfl, rfl, fun j hj => by omega⟩
  case round =>
    obtain ⟨k, hk, rfl, rfl, hfin⟩ := hrel
    by_cases hkl : k < keys.length
    · obtain ⟨b, o, s', rfl, _, hs, hsz, hck⟩ := hk0.cell hkl
      have hki : (k : Int) < (keys.length : Int) := by omega
      by_cases e : s' = s
      · subst e
        have hq : (s'.toList == s'.toList) = true := by simp
        have HS := hide hs
        clear hk0 hs
        go_wp2_with fail
        go_ret
        exact ⟨⟨_, rfl, Or.inr ⟨k, rfl, HS.out, hfin.out⟩⟩, HB.out⟩
      · have hq : (s'.toList == s.toList) = false := by
          cases hb : (s'.toList == s.toList) with
          | false => rfl
          | true =>
            refine absurd ?_ e
            have h1 : s'.toList = s.toList := by simpa using hb
            rw [ByteArray.toList_eq, ByteArray.toList_eq] at h1
            exact ByteArray.ext (Array.ext' h1)
        have hnx : Hid (∀ j, j < k + 1 → keys[j]? ≠ some s) := fun j hj => by
          by_cases hjk : j = k
          · subst hjk
            rw [hs]
            intro h
            exact e (by simpa using h)
          · exact hfin.out j (by omega)
        clear hk0 hs hfin e
        go_wp2_with fail
        go_roundw
        case rel => exact ⟨k + 1, by omega, by go_num, trivial, hnx⟩
        case measure => simp [intOf]; omega
    · obtain rfl : k = keys.length := by omega
      have hno : Hid (s ∉ keys) := fun h => by
        obtain ⟨j, hj⟩ := List.getElem?_of_mem h
        exact hfin.out j (List.getElem?_eq_some_iff.1 hj).1 hj
      clear hk0 hfin
      go_wp2_with fail
      go_ret
      exact ⟨⟨-1, rfl, Or.inl ⟨rfl, hno.out⟩⟩, HB.out⟩
set_option maxRecDepth 100000 in
set_option maxHeartbeats 4000000 in
theorem l2Get_any (d : Nat) (S : Nat → Prop) (t : Tr (d + 2)) (v : Value) (s : ByteArray) (w : World) (hv : ValAt S w (d + 2) t v) (hS : Within S w) (hstr : strOk s = true) (hok : okT (d + 2) t = true) :
    Calls Tryz.prog 79 #[v, .string s] w fun e w' => ∃ u, e = .returned (.tuple #[u, .bool (partGetT d t s).2]) ∧ ValAt S w' (d + 1) (partGetT d t s).1 u ∧ Below w.heap.size w w' := by
  have hv0 := hv
  obtain ⟨vk, vl, rfl, i1, i2, i3, hk, hl⟩ := hv
  obtain ⟨ak, ck, rfl, hkl⟩ := hk.open'
  obtain ⟨al, cl, rfl, hll⟩ := hl.open'
  obtain ⟨hkinds, hl60, _⟩ := okT_kinds hok
  have hl60 : t.list.length ≤ 60 := hl60
  clear hkinds
  have hB1 := hide (below_trans (below_alloc1 w (.cells #[.int .i64 t.kind, .int .i64 t.num, .string t.str, .slice ak t.keys.length ck, .slice al t.list.length cl] 29)) (below_alloc1 _ (.cells #[.int .i64 t.kind, .int .i64 t.num, .string t.str, .slice ak t.keys.length ck, .slice al t.list.length cl] 29)))
  have hB2 := hide (below_trans (below_alloc1 w (.cells #[.int .i64 t.kind, .int .i64 t.num, .string t.str, .slice ak t.keys.length ck, .slice al t.list.length cl] 29)) (below_alloc1 _ (.cells #[.int .i64 0, .int .i64 0, .string { data := #[] }, .slice none 0 0, .slice none 0 0] 29)))
  by_cases e0 : t.kind = 0
  · have q0 : (t.kind == 0) = true := by simpa using e0
    have hz : Hid (partGetT d t s = (zeroT d, true)) := by
      show partGetT d t s = _
      rw [partGetT, if_pos ⟨hok, hstr⟩, if_pos e0]
    have HV := hide (valAt_zero hok e0 hv0)
    clear e0 hk hl hv0 hB2
    go_enter Tryz.func79, Tryz.ntmps79
    go_wp2_with fail
    rw [hz.out]
    exact bodyPost_ret (v := .tuple #[.agg #[.int .i64 t.kind, .int .i64 t.num, .string t.str, .slice ak t.keys.length ck, .slice al t.list.length cl], .bool true]) (by simp [results, Tryz.results79, go_sem]) rfl ⟨_, rfl, HV.out.same (hS.same hB1.out), hB1.out⟩
  have q0 : (t.kind == 0) = false := by simpa using e0
  by_cases e5 : t.kind = 6
  · have q5 : (t.kind != 6) = false := by simpa using e5
    have hkeq := hide (okT_keys hok e5)
    have HZ : Hid (∀ y, getL t.keys t.list s = y → partGetT d t s = (y.getD (zeroT d), true)) := by
      intro y hy
      rw [partGetT, if_pos ⟨hok, hstr⟩, if_neg e0, if_pos e5]
      show ((getL t.keys t.list s).getD (zeroT d), true) = _
      rw [hy]
    have HVV := hide hv0
    clear e0 e5 hk hv0 hB1
    go_enter Tryz.func79, Tryz.ntmps79
    go_wp2_with fail
    refine (l2Key_any (d + 1) S t _ s _ (HVV.out.same (hS.same hB2.out)) (hS.later hB2.out.size)).mono ?_
    rintro e w1 ⟨⟨r, rfl, hr⟩, hb1⟩
    have hB3 := below_trans hB2.out hb1
    have HB3 := hide hB3
    have kk0 : Blk5 w1 w.heap.size 29 (.int .i64 t.kind) (.int .i64 t.num) (.string t.str) (.slice ak t.keys.length ck) (.slice al t.list.length cl) := ((Blk5.new w 29 _ _ _ _ _).alloc _).below hb1
    have kk1 : Blk5 w1 (w.heap.size + 1) 29 (.int .i64 0) (.int .i64 0) (.string { data := #[] }) (.slice none 0 0) (.slice none 0 0) := by
      have h1 := Blk5.new (w.alloc (.cells #[.int .i64 t.kind, .int .i64 t.num, .string t.str, .slice ak t.keys.length ck, .slice al t.list.length cl] 29)) 29 (.int .i64 0) (.int .i64 0) (.string { data := #[] }) (.slice none 0 0) (.slice none 0 0)
      rw [World.size_alloc] at h1
      exact h1.below hb1
    obtain ⟨x0, x1, x2, x3, x4⟩ := kk0.cell
    obtain ⟨y0, y1, y2, y3, y4⟩ := kk1.cell
    have yf := kk1.frozen
    have hend : Hid (∀ (x : Tr (d + 1)) (u0 u1 u2 u3 u4 : Value), partGetT d t s = (x, true) → ValAt S w1 (d + 1) x (.agg #[u0, u1, u2, u3, u4]) → ∀ wF, wF = set5 w1 (w.heap.size + 1) 0 u0 u1 u2 u3 u4 → ValAt S wF (d + 1) (partGetT d t s).1 (.agg #[u0, u1, u2, u3, u4]) ∧ Below w.heap.size w wF) := by
      intro x u0 u1 u2 u3 u4 hx hv wF hF
      rw [hx]
      refine ⟨hv.same (fun b hb => ?_), ?_⟩
      · rw [hF, set5_block _ _ _ _ _ _ _ _ _ (by have := hS b hb; omega)]
      · rw [hF]
        exact below_set5 hB3 (by omega) _ _ _ _ _ _
    have hl1 := hl.same (hS.same hB3)
    clear hl hb1 hB2 hB3 kk0 kk1
    rcases hr with ⟨rfl, hr⟩ | ⟨k, rfl, hr1, hr2⟩
    · have hz := hide (HZ.out none (getL_miss hr))
      have HE := hide (hend.out (zeroT d) _ _ _ _ _ hz.out (zeroAt d S w1))
      clear hend hr HZ hl1
      go_wp2_with fail
      refine bodyPost_ret (v := .tuple #[zeroVal, .bool true]) (by simp [results, Tryz.results79, go_sem, zeroVal, y0, y1, y2, y3, y4]; rfl) rfl ⟨_, by rw [hz.out]; rfl, (HE.out _ rfl).1, (HE.out _ rfl).2⟩
    · have hkl : k < t.list.length := by
        have := (List.getElem?_eq_some_iff.1 hr1).1
        have := hkeq.out
        omega
      obtain ⟨eb, eo, x, c0, c1, c2, c3, c4, rfl, heS, hx, f0, f1, f2, f3, f4, hval⟩ := hl1.cell hkl
      have hz := hide (HZ.out (some x) (getL_at hr1 hx hr2))
      obtain ⟨q0', q1', q2', q3', q4', q5', q6', q7', q8', hq⟩ := hval.shape
      cases hq
      have HE := hide (hend.out x _ _ _ _ _ hz.out hval)
      have hebl := hS eb heS
      have hki : (k : Int) < (t.list.length : Int) := by omega
      have hk0 : (0 : Int) ≤ (k : Int) := by omega
      clear hend hr1 hr2 HZ hl1 hval hx hkeq
      go_wp2_with fail
      refine bodyPost_ret (v := .tuple #[.agg #[.int .i64 q0', .int .i64 q1', .string q2', .slice q3' q4' q5', .slice q6' q7' q8'], .bool true]) (by simp [results, Tryz.results79, go_sem, y0, y1, y2, y3, y4]) rfl ⟨_, by rw [hz.out], (HE.out _ rfl).1, (HE.out _ rfl).2⟩
  · have q5 : (t.kind != 6) = true := by simpa using e5
    have hz : Hid (partGetT d t s = (zeroT d, false)) := by
      show partGetT d t s = _
      rw [partGetT, if_pos ⟨hok, hstr⟩, if_neg e0, if_neg e5]
    clear e0 e5 hk hl hv0 hB1
    go_enter Tryz.func79, Tryz.ntmps79
    go_wp2_with fail
    rw [hz.out]
    exact bodyPost_ret (v := .tuple #[zeroVal, .bool false]) (by simp [results, Tryz.results79, go_sem, zeroVal]; rfl) rfl ⟨_, rfl, zeroAt d _ _, hB2.out⟩
end Go.Proofs.YtlpembhdojdomaaGreatDoor

/- l3One of the model. -/
namespace Go.Proofs.YtlpembhdojdomaaGreatDoor
open Go.RowKit Go.Deep

theorem at_end {D : Nat} {S : Nat → Prop} {t : Tr D} {w w2 : World} {v : Value} {c : Nat} (hu : ValAt S w2 D t v) (hS : Within S w) (hB : Below w.heap.size w w2) (hc : w.heap.size ≤ c) :
    ∀ (u0 u1 u2 u3 u4 : Value) (wF : World), wF = set5 w2 c 0 u0 u1 u2 u3 u4 → ValAt S wF D t v ∧ Below w.heap.size w wF := by
  intro u0 u1 u2 u3 u4 wF hF
  refine ⟨hu.same (fun b hb => ?_), by rw [hF]; exact below_set5 hB hc _ _ _ _ _ _⟩
  rw [hF, set5_block _ _ _ _ _ _ _ _ _ (by have := hS b hb; omega)]

set_option maxRecDepth 100000 in
set_option maxHeartbeats 4000000 in
theorem l3One_any (d : Nat) (S : Nat → Prop) (t : Tr (d + 2)) (v : Value) (p : Stp) (w : World) (hv : ValAt S w (d + 2) t v) (hS : Within S w) (hp : StpFit p) (hok : okT (d + 2) t = true) (hst : stpOk p = true) :
    Calls Tryz.prog 69 #[v, .agg #[.bool p.map, .string p.key, .int .i64 p.place]] w fun e w' => ∃ u, e = .returned (.tuple #[u, .bool (stepT d t p).2]) ∧ ValAt S w' (d + 2) (stepT d t p).1 u ∧ Below w.heap.size w w' := by
  obtain ⟨k, n, s, ak, lk, ck, al, ll, cl, rfl⟩ := hv.shape
  cases hm : p.map with
  | true =>
    have HS := hide (stepT_map (d := d) (t := t) hm)
    have hstr := strOk_of hst hm
    obtain ⟨W0, hW⟩ : ∃ W0, W0 = ((w.alloc (.cells #[.int .i64 k, .int .i64 n, .string s, .slice ak lk ck, .slice al ll cl] 29)).alloc (.cells #[.bool true, .string p.key, .int .i64 p.place] 85)).alloc (.cells #[.int .i64 0, .int .i64 0, .string { data := #[] }, .slice none 0 0, .slice none 0 0] 29) := ⟨_, rfl⟩
    have hW0 : Below w.heap.size w W0 := by rw [hW]; exact below_trans (below_trans (below_alloc1 _ _) (below_alloc1 _ _)) (below_alloc1 _ _)
    have k2 : Blk5 W0 (w.heap.size + 1 + 1) 29 (.int .i64 0) (.int .i64 0) (.string { data := #[] }) (.slice none 0 0) (.slice none 0 0) := by
      have := Blk5.new ((w.alloc (.cells #[.int .i64 k, .int .i64 n, .string s, .slice ak lk ck, .slice al ll cl] 29)).alloc (.cells #[.bool true, .string p.key, .int .i64 p.place] 85)) 29 (.int .i64 0) (.int .i64 0) (.string { data := #[] }) (.slice none 0 0) (.slice none 0 0)
      rw [World.size_alloc, World.size_alloc] at this
      rw [hW]
      exact this
    have HW := hide hW
    clear hW
    go_enter Tryz.func69, Tryz.ntmps69
    go_wp2_with fail
    rw [← HW.out]
    clear HW
    refine (l2Get_any d S t _ p.key W0 (hv.same (hS.same hW0)) (hS.later hW0.size) hstr hok).mono ?_
    rintro e w1 ⟨u, rfl, hu, hb1⟩
    obtain ⟨u0, u1, u2, u3, u4, u5, u6, u7, u8, rfl⟩ := hu.shape
    have HF := hide (at_end hu hS (below_trans hW0 hb1) (show w.heap.size ≤ w.heap.size + 1 + 1 by omega))
    have k3 := k2.below hb1
    obtain ⟨y0, y1, y2, y3, y4⟩ := k3.cell
    have yf := k3.frozen
    clear k2 k3 hb1 hW0 hu hv
    go_wp2_with fail
    rw [HS.out]
    refine bodyPost_ret (v := .tuple #[.agg #[.int .i64 u0, .int .i64 u1, .string u2, .slice u3 u4 u5, .slice u6 u7 u8], .bool (partGetT d t p.key).2]) (by simp [results, Tryz.results69, go_sem, y0, y1, y2, y3, y4]) rfl ⟨_, rfl, ValAt.up _ _ _ (HF.out _ _ _ _ _ _ rfl).1, (HF.out _ _ _ _ _ _ rfl).2⟩
  | false =>
    have HS := hide (stepT_place (d := d) (t := t) hm)
    obtain ⟨W0, hW⟩ : ∃ W0, W0 = ((w.alloc (.cells #[.int .i64 k, .int .i64 n, .string s, .slice ak lk ck, .slice al ll cl] 29)).alloc (.cells #[.bool false, .string p.key, .int .i64 p.place] 85)).alloc (.cells #[.int .i64 0, .int .i64 0, .string { data := #[] }, .slice none 0 0, .slice none 0 0] 29) := ⟨_, rfl⟩
    have hW0 : Below w.heap.size w W0 := by rw [hW]; exact below_trans (below_trans (below_alloc1 _ _) (below_alloc1 _ _)) (below_alloc1 _ _)
    have k2 : Blk5 W0 (w.heap.size + 1 + 1) 29 (.int .i64 0) (.int .i64 0) (.string { data := #[] }) (.slice none 0 0) (.slice none 0 0) := by
      have := Blk5.new ((w.alloc (.cells #[.int .i64 k, .int .i64 n, .string s, .slice ak lk ck, .slice al ll cl] 29)).alloc (.cells #[.bool false, .string p.key, .int .i64 p.place] 85)) 29 (.int .i64 0) (.int .i64 0) (.string { data := #[] }) (.slice none 0 0) (.slice none 0 0)
      rw [World.size_alloc, World.size_alloc] at this
      rw [hW]
      exact this
    have HW := hide hW
    clear hW
    go_enter Tryz.func69, Tryz.ntmps69
    go_wp2_with fail
    rw [← HW.out]
    clear HW
    refine (l2At_any d S t _ p.place W0 (hv.same (hS.same hW0)) (hS.later hW0.size) hp.2 hok).mono ?_
    rintro e w1 ⟨u, rfl, hu, hb1⟩
    obtain ⟨u0, u1, u2, u3, u4, u5, u6, u7, u8, rfl⟩ := hu.shape
    have HF := hide (at_end hu hS (below_trans hW0 hb1) (show w.heap.size ≤ w.heap.size + 1 + 1 by omega))
    have k3 := k2.below hb1
    obtain ⟨y0, y1, y2, y3, y4⟩ := k3.cell
    have yf := k3.frozen
    clear k2 k3 hb1 hW0 hu hv
    go_wp2_with fail
    rw [HS.out]
    refine bodyPost_ret (v := .tuple #[.agg #[.int .i64 u0, .int .i64 u1, .string u2, .slice u3 u4 u5, .slice u6 u7 u8], .bool (partAtT d t p.place).2]) (by simp [results, Tryz.results69, go_sem, y0, y1, y2, y3, y4]) rfl ⟨_, rfl, ValAt.up _ _ _ (HF.out _ _ _ _ _ _ rfl).1, (HF.out _ _ _ _ _ _ rfl).2⟩

theorem below_alloc_r {B : Nat} {a w : World} {o : Obj} (h : Below B a w) (hB : B ≤ a.heap.size := by exact Nat.le_refl _) : Below B a (w.alloc o) := h.trans ((below_alloc1 w o).mono (Nat.le_trans hB h.size))
theorem below_cell_r {B : Nat} {a w : World} {p : Addr} {v : Value} (h : Below B a w) (hB : B ≤ p.block) : Below B a (w.setCell p v) := h.setCell hB v
theorem Blk5.set5 {w : World} {b : Nat} {T : TypeId} {c0 c1 c2 c3 c4 : Value} (h : Blk5 w b T c0 c1 c2 c3 c4) (u0 u1 u2 u3 u4 : Value) : Blk5 (set5 w b 0 u0 u1 u2 u3 u4) b T u0 u1 u2 u3 u4 := by
  unfold Blk5 at h ⊢
  simp [Go.Proofs.YtlpembhdojdomaaGreatDoor.set5, World.setCell, Array.getElem?_modify, h]
end Go.Proofs.YtlpembhdojdomaaGreatDoor
