/- Texts of the proof, put together by program: WSetUo, WGetM, WGetS, WGetSo, WAtM, WAtS, WAtSo, WLen, WLenN, WLenS. -/
import Derived.Test.YtoangpfmjohhmaaGreatDoorQ22
import Derived.Test.YtoangpfmjohhmaaGreatDoorQ13
import Derived.Test.YtoangpfmjohhmaaGreatDoorQ7
import Derived.Test.YtoangpfmjohhmaaGreatDoorQ11
import Derived.Test.YtoangpfmjohhmaaGreatDoorQ6
/- PartSet of the model : the answer owns its memory. -/
namespace Go.Proofs.YtoangpfmjohhmaaGreatDoor
open Go.RowKit Go.Deep

set_option maxRecDepth 100000 in
set_option maxHeartbeats 2000000 in
theorem specPartSet_own (d : Nat) (S : Nat → Prop) (t : Tr (d + 2)) (v : Value) (i : Int) (hi : I64 i) (S2 : Nat → Prop) (x : Tr (d + 1)) (xv : Value) (w : World) (hv : ValAt S w (d + 2) t v) (hS : Within S w) (hx : ValAt S2 w (d + 1) x xv) (hS2 : Within S2 w) (hsm : (nodes (d + 2) t : Int) ≤ 4194304) (hsx : (nodes (d + 1) x : Int) ≤ 4194304) :
    Calls Tryz.prog 93 #[v, .int .i64 i, xv] w (TellQ (d + 1) (partSetT d t i x).1 (partSetT d t i x).2 w) := by
  have hv0 := hv
  obtain ⟨vk, vl, rfl, i1, i2, i3, hk, hl⟩ := hv
  obtain ⟨ak, ck, rfl, hkl⟩ := hk.open'
  obtain ⟨al, cl, rfl, hll⟩ := hl.open'
  obtain ⟨k', n', s', ak', lk', ck', al', ll', cl', rfl⟩ := hx.shape
  obtain ⟨k0, k1, k2, hW0, hsz0⟩ := laid3 w 26 26 26 (.int .i64 t.kind) (.int .i64 t.num) (.string t.str) (.slice ak t.keys.length ck) (.slice al t.list.length cl) (.int .i64 k') (.int .i64 n') (.string s') (.slice ak' lk' ck') (.slice al' ll' cl') (.int .i64 0) (.int .i64 0) (.string { data := #[] }) (.slice none 0 0) (.slice none 0 0)
  obtain ⟨W0, hW⟩ : ∃ W0, W0 = ((w.alloc (.cells #[.int .i64 t.kind, .int .i64 t.num, .string t.str, .slice ak t.keys.length ck, .slice al t.list.length cl] 26)).alloc (.cells #[.int .i64 k', .int .i64 n', .string s', .slice ak' lk' ck', .slice al' ll' cl'] 26)).alloc (.cells #[.int .i64 0, .int .i64 0, .string { data := #[] }, .slice none 0 0, .slice none 0 0] 26) := ⟨_, rfl⟩
  rw [← hW] at k0 k1 k2 hW0 hsz0
  have HW := hide hW
  have HSZ := hide hsz0
  clear hW hk hl hsz0
  go_enter Tryz.func93, Tryz.ntmps93
  go_wp2_with fail
  rw [← HW.out]
  clear HW
  refine (specValOk_any (d + 2) S t _ W0 (hv0.same (hS.same hW0)) (hS.later hW0.size) hsm).mono ?_
  rintro e w1 ⟨rfl, hb1⟩
  replace k0 := k0.below hb1
  replace k1 := k1.below hb1
  replace k2 := k2.below hb1
  have hB1 := below_trans hW0 hb1
  have hlt : w.heap.size + 1 + 1 < w1.heap.size := k2.lt
  clear hb1 hW0
  -- the end, where it can not be done
  have hno : ∀ wn, Below w.heap.size w wn → Hid (∀ wF, wF = set5 wn (w.heap.size + 1 + 1) 0 (.int .i64 0) (.int .i64 0) (.string { data := #[] }) (.slice none 0 0) (.slice none 0 0) → Below w.heap.size w wF) := by
    intro wn hn wF hF
    rw [hF]
    exact below_set5 hn (by omega) _ _ _ _ _ _
  cases hf : okT (d + 2) t with
  | false =>
    have hz : Hid (partSetT d t i x = (zeroT (d + 1), false)) := partSet_none (by rw [rowL, if_neg (by rw [hf]; simp)])
    have HN := hno w1 hB1
    obtain ⟨y0, y1, y2, y3, y4⟩ := k2.cell
    have yf := k2.frozen
    clear k0 k1 k2 hB1 hv0 hx hno
    go_wp2_with fail
    rw [hz.out]
    refine bodyPost_ret (v := .tuple #[zeroVal, .bool false]) (by simp [results, Tryz.results93, go_sem, zeroVal, y0, y1, y2, y3, y4]; rfl) rfl ⟨_, rfl, zeroVal_own (d + 1) _ _, HN.out _ rfl⟩
  | true =>
    obtain ⟨x0, x1, x2, x3, x4⟩ := k1.cell
    go_wp2_with fail
    refine (specValOk_any (d + 1) S2 x _ w1 (hx.same (hS2.same hB1)) (hS2.later hB1.size) hsx).mono ?_
    rintro e w2 ⟨rfl, hb2⟩
    replace k0 := k0.below hb2
    replace k1 := k1.below hb2
    replace k2 := k2.below hb2
    have hB2 := below_trans hB1 hb2
    have hlt2 : w.heap.size + 1 + 1 < w2.heap.size := k2.lt
    clear hb2 hB1 x0 x1 x2 x3 x4
    obtain ⟨y0, y1, y2, y3, y4⟩ := k2.cell
    have yf := k2.frozen
    cases hfx : okT (d + 1) x with
    | false =>
      have hz : Hid (partSetT d t i x = (zeroT (d + 1), false)) := partSet_badx hfx
      have HN := hno w2 hB2
      clear k0 k1 k2 hB2 hv0 hx hno
      go_wp2_with fail
      rw [hz.out]
      refine bodyPost_ret (v := .tuple #[zeroVal, .bool false]) (by simp [results, Tryz.results93, go_sem, zeroVal, y0, y1, y2, y3, y4]; rfl) rfl ⟨_, rfl, zeroVal_own (d + 1) _ _, HN.out _ rfl⟩
    | true =>
      obtain ⟨x0, x1, x2, x3, x4⟩ := k0.cell
      obtain ⟨_, hl60, _⟩ := okT_kinds hf
      have hl60 : t.list.length ≤ 60 := hl60
      by_cases hkind : t.kind = 0 ∨ t.kind = 5
      · have hrow := hide (rowL_eq hf hkind)
        obtain ⟨hi1, hi2⟩ := hi
        by_cases hfar : 60 ≤ i ∨ i < -(t.list.length : Int)
        · have hz : Hid (partSetT d t i x = (zeroT (d + 1), false)) := partSet_far hf hkind hfar
          have HN := hno w2 hB2
          clear k0 k1 k2 hB2 hv0 hx hno hrow
          rcases hkind with hq | hq
          · have q0 : (t.kind != 0) = false := by simpa using hq
            clear hq
            by_cases h60 : 60 ≤ i
            · clear hfar
              go_wp2_with fail
              rw [hz.out]
              refine bodyPost_ret (v := .tuple #[zeroVal, .bool false]) (by simp [results, Tryz.results93, go_sem, zeroVal, y0, y1, y2, y3, y4]; rfl) rfl ⟨_, rfl, zeroVal_own (d + 1) _ _, HN.out _ rfl⟩
            · have hlo : i < -(t.list.length : Int) := by omega
              clear hfar
              go_wp2_with fail
              rw [hz.out]
              refine bodyPost_ret (v := .tuple #[zeroVal, .bool false]) (by simp [results, Tryz.results93, go_sem, zeroVal, y0, y1, y2, y3, y4]; rfl) rfl ⟨_, rfl, zeroVal_own (d + 1) _ _, HN.out _ rfl⟩
          · have q0 : (t.kind != 0) = true := by simp [hq]
            have q5 : (t.kind != 5) = false := by simpa using hq
            clear hq
            by_cases h60 : 60 ≤ i
            · clear hfar
              go_wp2_with fail
              rw [hz.out]
              refine bodyPost_ret (v := .tuple #[zeroVal, .bool false]) (by simp [results, Tryz.results93, go_sem, zeroVal, y0, y1, y2, y3, y4]; rfl) rfl ⟨_, rfl, zeroVal_own (d + 1) _ _, HN.out _ rfl⟩
            · have hlo : i < -(t.list.length : Int) := by omega
              clear hfar
              go_wp2_with fail
              rw [hz.out]
              refine bodyPost_ret (v := .tuple #[zeroVal, .bool false]) (by simp [results, Tryz.results93, go_sem, zeroVal, y0, y1, y2, y3, y4]; rfl) rfl ⟨_, rfl, zeroVal_own (d + 1) _ _, HN.out _ rfl⟩
        · obtain ⟨j, hj⟩ : ∃ j : Nat, (j : Int) = if i < 0 then i + (t.list.length : Int) else i := ⟨(if i < 0 then i + (t.list.length : Int) else i).toNat, by split <;> omega⟩
          have hj60 : j < 60 := by split at hj <;> omega
          have hR : Hid (partSetT d t i x = (toldT (d + 1) (rowT (d + 1) (setL t.list (zeroT d) j x)), okT (d + 2) (rowT (d + 1) (setL t.list (zeroT d) j x)))) := by
            have := partSet_in hrow.out hfx hj (by omega) (by omega)
            rw [Int.toNat_natCast] at this
            exact this
          have hnod := nodes_set (k := j) (fun y hy => okT_part hf hy) hfx hl60 hj60
          have hvU : ValAt (fun b => S b ∨ S2 b) w2 (d + 2) t (.agg #[.int .i64 t.kind, .int .i64 t.num, .string t.str, .slice ak t.keys.length ck, .slice al t.list.length cl]) := (hv0.same (hS.same hB2)).mono (fun b hb => Or.inl hb)
          have hxU : ValAt (fun b => S b ∨ S2 b) w2 (d + 1) x (.agg #[.int .i64 k', .int .i64 n', .string s', .slice ak' lk' ck', .slice al' ll' cl']) := (hx.same (hS2.same hB2)).mono (fun b hb => Or.inr hb)
          have hWU : Within (fun b => S b ∨ S2 b) w2 := fun b hb => by
            rcases hb with hb | hb
            · exact hS.later hB2.size b hb
            · exact hS2.later hB2.size b hb
          have hcall := hide (l2Set_any d (fun b => S b ∨ S2 b) t _ x _ j w2 hvU hxU hWU hj60 hl60)
          have hn1 : ¬ (60 ≤ i) := by omega
          have hn2 : ¬ (i < -(t.list.length : Int)) := by omega
          obtain ⟨z0, z1, z2, z3, z4⟩ := k1.cell
          have HJ := hide hj
          clear hv0 hx hno hrow hfar hvU hxU k0 k1 hj hfx
          rcases hkind with hq | hq
          all_goals
            first
              | (have q0 : (t.kind != 0) = false := (by simpa using hq))
              | (have q0 : (t.kind != 0) = true := (by simp [hq]); have q5 : (t.kind != 5) = false := (by simpa using hq))
            clear hq
            by_cases hneg : i < 0
            · have hji : i + (t.list.length : Int) = (j : Int) := by rw [HJ.out, if_pos hneg]
              have HJI := hide hji
              clear hji HJ
              go_wp2_with fail
              rw [HJI.out]
              refine Calls.mono hcall.out ?_
              rintro e w3 ⟨u, rfl, hu, hb3⟩
              obtain ⟨u0, u1, u2, u3, u4, u5, u6, u7, u8, rfl⟩ := hu.shape
              have hB3 := below_trans hB2 hb3
              have k3 := k2.below hb3
              have hWU3 : Within (fun b => (S b ∨ S2 b) ∨ Fresh w2 w3 b) w3 := fun b hb => by
                rcases hb with hb | hb
                · exact Nat.lt_of_lt_of_le (hWU b hb) hb3.size
                · exact hb.2
              have hcall2 := hide (l2Told_own (d + 1) _ _ _ w3 hu hWU3 hnod)
              have hlt3 : w.heap.size + 1 + 1 < w3.heap.size := k3.lt
              clear hu hWU3 hcall hb3 x0 x1 x2 x3 x4 y0 y1 y2 y3 y4 yf z0 z1 z2 z3 z4
              go_wp2_with fail
              refine Calls.mono hcall2.out ?_
              rintro e w4 ⟨r, rfl, hr, hb4⟩
              obtain ⟨r0, r1, r2, r3, r4, r5, r6, r7, r8, rfl⟩ := (ValOwn.at _ _ _ _ hr).shape
              have HF := hide (tell_end hr (below_trans hB3 hb4) (by omega) hlt3)
              have k4 := k3.below hb4
              obtain ⟨y0, y1, y2, y3, y4⟩ := k4.cell
              have yf := k4.frozen
              clear hr hb4 k3 k4 hcall2 hB3
              go_wp2_with fail
              rw [hR.out]
              exact bodyPost_ret (v := .tuple #[.agg #[.int .i64 r0, .int .i64 r1, .string r2, .slice r3 r4 r5, .slice r6 r7 r8], .bool (okT (d + 2) (rowT (d + 1) (setL t.list (zeroT d) j x)))]) (by simp [results, Tryz.results93, go_sem, y0, y1, y2, y3, y4]) rfl ⟨_, rfl, (HF.out _ rfl).1, (HF.out _ rfl).2⟩
            · have hji : i = (j : Int) := by rw [HJ.out, if_neg hneg]
              have HJI := hide hji
              clear hji HJ
              go_wp2_with fail
              rw [HJI.out]
              refine Calls.mono hcall.out ?_
              rintro e w3 ⟨u, rfl, hu, hb3⟩
              obtain ⟨u0, u1, u2, u3, u4, u5, u6, u7, u8, rfl⟩ := hu.shape
              have hB3 := below_trans hB2 hb3
              have k3 := k2.below hb3
              have hWU3 : Within (fun b => (S b ∨ S2 b) ∨ Fresh w2 w3 b) w3 := fun b hb => by
                rcases hb with hb | hb
                · exact Nat.lt_of_lt_of_le (hWU b hb) hb3.size
                · exact hb.2
              have hcall2 := hide (l2Told_own (d + 1) _ _ _ w3 hu hWU3 hnod)
              have hlt3 : w.heap.size + 1 + 1 < w3.heap.size := k3.lt
              clear hu hWU3 hcall hb3 x0 x1 x2 x3 x4 y0 y1 y2 y3 y4 yf z0 z1 z2 z3 z4
              go_wp2_with fail
              refine Calls.mono hcall2.out ?_
              rintro e w4 ⟨r, rfl, hr, hb4⟩
              obtain ⟨r0, r1, r2, r3, r4, r5, r6, r7, r8, rfl⟩ := (ValOwn.at _ _ _ _ hr).shape
              have HF := hide (tell_end hr (below_trans hB3 hb4) (by omega) hlt3)
              have k4 := k3.below hb4
              obtain ⟨y0, y1, y2, y3, y4⟩ := k4.cell
              have yf := k4.frozen
              clear hr hb4 k3 k4 hcall2 hB3
              go_wp2_with fail
              rw [hR.out]
              exact bodyPost_ret (v := .tuple #[.agg #[.int .i64 r0, .int .i64 r1, .string r2, .slice r3 r4 r5, .slice r6 r7 r8], .bool (okT (d + 2) (rowT (d + 1) (setL t.list (zeroT d) j x)))]) (by simp [results, Tryz.results93, go_sem, y0, y1, y2, y3, y4]) rfl ⟨_, rfl, (HF.out _ rfl).1, (HF.out _ rfl).2⟩
      · have n0 : t.kind ≠ 0 := fun h => hkind (Or.inl h)
        have n5 : t.kind ≠ 5 := fun h => hkind (Or.inr h)
        have hz : Hid (partSetT d t i x = (zeroT (d + 1), false)) := partSet_kind hf n0 n5
        have HN := hno w2 hB2
        have q0 : (t.kind != 0) = true := by simpa using n0
        have q5 : (t.kind != 5) = true := by simpa using n5
        clear k0 k1 k2 hB2 hv0 hx hno hkind n0 n5
        go_wp2_with fail
        rw [hz.out]
        refine bodyPost_ret (v := .tuple #[zeroVal, .bool false]) (by simp [results, Tryz.results93, go_sem, zeroVal, y0, y1, y2, y3, y4]; rfl) rfl ⟨_, rfl, zeroVal_own (d + 1) _ _, HN.out _ rfl⟩
end Go.Proofs.YtoangpfmjohhmaaGreatDoor

/- PartGet of the model. Of what is right. -/
namespace Go.Proofs.YtoangpfmjohhmaaGreatDoor
open Go.RowKit Go.Deep

set_option maxRecDepth 100000 in
set_option maxHeartbeats 2000000 in
theorem l2Key_any (d : Nat) (S : Nat → Prop) (t : Tr (d + 1)) (v : Value) (s : ByteArray) (w : World) (hv : ValAt S w (d + 1) t v) (hS : Within S w) :
    Calls Tryz.prog 129 #[v, .string s] w fun e w' => (∃ r : Int, e = .returned (.int .i64 r) ∧ ((r = -1 ∧ s ∉ Nd.keys t) ∨ ∃ k : Nat, r = k ∧ (Nd.keys t)[k]? = some s ∧ ∀ j, j < k → (Nd.keys t)[j]? ≠ some s)) ∧ Below w.heap.size w w' := by
  obtain ⟨vk, vl, rfl, i1, i2, i3, hk, hl⟩ := hv
  obtain ⟨ak, ck, rfl, hkl⟩ := hk.open'
  obtain ⟨al, cl, rfl, hll⟩ := hl.open'
  obtain ⟨W0, hW⟩ : ∃ W0, W0 = w.alloc (.cells #[.int .i64 t.kind, .int .i64 t.num, .string t.str, .slice ak t.keys.length ck, .slice al t.list.length cl] 26) := ⟨_, rfl⟩
  have hW0 : Below w.heap.size w W0 := by rw [hW]; exact below_alloc1 _ _
  have k0 : Blk5 W0 w.heap.size 26 (.int .i64 t.kind) (.int .i64 t.num) (.string t.str) (.slice ak t.keys.length ck) (.slice al t.list.length cl) := by
    rw [hW]; exact Blk5.new w 26 _ _ _ _ _
  obtain ⟨x0, x1, x2, x3, x4⟩ := k0.cell
  have hk0 := hk.same (hS.same hW0)
  have HW := hide hW
  have HB := hide hW0
  clear hW hk hl hW0 k0
  generalize hK : t.keys = keys at *
  clear hK
  go_enter Tryz.func129, Tryz.ntmps129
  go_wp2_with fail
  rw [← HW.out]
  clear HW
  go_loopw [5] (fun i wr => ∃ k : Nat, k ≤ keys.length ∧ i = .int .i64 k ∧ wr = W0 ∧ Hid (∀ j, j < k → keys[j]? ≠ some s)) (fun i _ => keys.length - (intOf i).toNat)
  case atStart => exact ⟨0, Nat.zero_le _, rfl, rfl, fun j hj => by omega⟩
  case round =>
    obtain ⟨k, hk, rfl, rfl, hfin⟩ := hrel
    by_cases hkl : k < keys.length
    · obtain ⟨b, o, s', rfl, _, hs, hsz, hck⟩ := hk0.cell hkl
      have hki : (k : Int) < (keys.length : Int) := by omega
      by_cases e : s' = s
      · subst e
        have hq : (s'.toList == s'.toList) = true := by simp
        have HS := hide hs
        clear hk0 hs
        go_wp2_with fail
        go_ret
        exact ⟨⟨_, rfl, Or.inr ⟨k, rfl, HS.out, hfin.out⟩⟩, HB.out⟩
      · have hq : (s'.toList == s.toList) = false := by
          cases hb : (s'.toList == s.toList) with
          | false => rfl
          | true =>
            refine absurd ?_ e
            have h1 : s'.toList = s.toList := by simpa using hb
            rw [ByteArray.toList_eq, ByteArray.toList_eq] at h1
            exact ByteArray.ext (Array.ext' h1)
        have hnx : Hid (∀ j, j < k + 1 → keys[j]? ≠ some s) := fun j hj => by
          by_cases hjk : j = k
          · subst hjk
            rw [hs]
            intro h
            exact e (by simpa using h)
          · exact hfin.out j (by omega)
        clear hk0 hs hfin e
        go_wp2_with fail
        go_roundw
        case rel => exact ⟨k + 1, by omega, by go_num, trivial, hnx⟩
        case measure => simp [intOf]; omega
    · obtain rfl : k = keys.length := by omega
      have hno : Hid (s ∉ keys) := fun h => by
        obtain ⟨j, hj⟩ := List.getElem?_of_mem h
        exact hfin.out j (List.getElem?_eq_some_iff.1 hj).1 hj
      clear hk0 hfin
      go_wp2_with fail
      go_ret
      exact ⟨⟨-1, rfl, Or.inl ⟨rfl, hno.out⟩⟩, HB.out⟩
set_option maxRecDepth 100000 in
set_option maxHeartbeats 4000000 in
theorem l2Get_any (d : Nat) (S : Nat → Prop) (t : Tr (d + 2)) (v : Value) (s : ByteArray) (w : World) (hv : ValAt S w (d + 2) t v) (hS : Within S w) (hstr : strOk s = true) (hok : okT (d + 2) t = true) :
    Calls Tryz.prog 114 #[v, .string s] w fun e w' => ∃ u, e = .returned (.tuple #[u, .bool (partGetT d t s).2]) ∧ ValAt S w' (d + 1) (partGetT d t s).1 u ∧ Below w.heap.size w w' := by
  have hv0 := hv
  obtain ⟨vk, vl, rfl, i1, i2, i3, hk, hl⟩ := hv
  obtain ⟨ak, ck, rfl, hkl⟩ := hk.open'
  obtain ⟨al, cl, rfl, hll⟩ := hl.open'
  obtain ⟨hkinds, hl60, _⟩ := okT_kinds hok
  have hl60 : t.list.length ≤ 60 := hl60
  clear hkinds
  have hB1 := hide (below_trans (below_alloc1 w (.cells #[.int .i64 t.kind, .int .i64 t.num, .string t.str, .slice ak t.keys.length ck, .slice al t.list.length cl] 26)) (below_alloc1 _ (.cells #[.int .i64 t.kind, .int .i64 t.num, .string t.str, .slice ak t.keys.length ck, .slice al t.list.length cl] 26)))
  have hB2 := hide (below_trans (below_alloc1 w (.cells #[.int .i64 t.kind, .int .i64 t.num, .string t.str, .slice ak t.keys.length ck, .slice al t.list.length cl] 26)) (below_alloc1 _ (.cells #[.int .i64 0, .int .i64 0, .string { data := #[] }, .slice none 0 0, .slice none 0 0] 26)))
  by_cases e0 : t.kind = 0
  · have q0 : (t.kind == 0) = true := by simpa using e0
    have hz : Hid (partGetT d t s = (zeroT d, true)) := by
      show partGetT d t s = _
      rw [partGetT, if_pos ⟨hok, hstr⟩, if_pos e0]
    have HV := hide (valAt_zero hok e0 hv0)
    clear e0 hk hl hv0 hB2
    go_enter Tryz.func114, Tryz.ntmps114
    go_wp2_with fail
    rw [hz.out]
    exact bodyPost_ret (v := .tuple #[.agg #[.int .i64 t.kind, .int .i64 t.num, .string t.str, .slice ak t.keys.length ck, .slice al t.list.length cl], .bool true]) (by simp [results, Tryz.results114, go_sem]) rfl ⟨_, rfl, HV.out.same (hS.same hB1.out), hB1.out⟩
  have q0 : (t.kind == 0) = false := by simpa using e0
  by_cases e5 : t.kind = 6
  · have q5 : (t.kind != 6) = false := by simpa using e5
    have hkeq := hide (okT_keys hok e5)
    have HZ : Hid (∀ y, getL t.keys t.list s = y → partGetT d t s = (y.getD (zeroT d), true)) := by
      intro y hy
      rw [partGetT, if_pos ⟨hok, hstr⟩, if_neg e0, if_pos e5]
      show ((getL t.keys t.list s).getD (zeroT d), true) = _
      rw [hy]
    have HVV := hide hv0
    clear e0 e5 hk hv0 hB1
    go_enter Tryz.func114, Tryz.ntmps114
    go_wp2_with fail
    refine (l2Key_any (d + 1) S t _ s _ (HVV.out.same (hS.same hB2.out)) (hS.later hB2.out.size)).mono ?_
    rintro e w1 ⟨⟨r, rfl, hr⟩, hb1⟩
    have hB3 := below_trans hB2.out hb1
    have HB3 := hide hB3
    have kk0 : Blk5 w1 w.heap.size 26 (.int .i64 t.kind) (.int .i64 t.num) (.string t.str) (.slice ak t.keys.length ck) (.slice al t.list.length cl) := ((Blk5.new w 26 _ _ _ _ _).alloc _).below hb1
    have kk1 : Blk5 w1 (w.heap.size + 1) 26 (.int .i64 0) (.int .i64 0) (.string { data := #[] }) (.slice none 0 0) (.slice none 0 0) := by
      have h1 := Blk5.new (w.alloc (.cells #[.int .i64 t.kind, .int .i64 t.num, .string t.str, .slice ak t.keys.length ck, .slice al t.list.length cl] 26)) 26 (.int .i64 0) (.int .i64 0) (.string { data := #[] }) (.slice none 0 0) (.slice none 0 0)
      rw [World.size_alloc] at h1
      exact h1.below hb1
    obtain ⟨x0, x1, x2, x3, x4⟩ := kk0.cell
    obtain ⟨y0, y1, y2, y3, y4⟩ := kk1.cell
    have yf := kk1.frozen
    have hend : Hid (∀ (x : Tr (d + 1)) (u0 u1 u2 u3 u4 : Value), partGetT d t s = (x, true) → ValAt S w1 (d + 1) x (.agg #[u0, u1, u2, u3, u4]) → ∀ wF, wF = set5 w1 (w.heap.size + 1) 0 u0 u1 u2 u3 u4 → ValAt S wF (d + 1) (partGetT d t s).1 (.agg #[u0, u1, u2, u3, u4]) ∧ Below w.heap.size w wF) := by
      intro x u0 u1 u2 u3 u4 hx hv wF hF
      rw [hx]
      refine ⟨hv.same (fun b hb => ?_), ?_⟩
      · rw [hF, set5_block _ _ _ _ _ _ _ _ _ (by have := hS b hb; omega)]
      · rw [hF]
        exact below_set5 hB3 (by omega) _ _ _ _ _ _
    have hl1 := hl.same (hS.same hB3)
    clear hl hb1 hB2 hB3 kk0 kk1
    rcases hr with ⟨rfl, hr⟩ | ⟨k, rfl, hr1, hr2⟩
    · have hz := hide (HZ.out none (getL_miss hr))
      have HE := hide (hend.out (zeroT d) _ _ _ _ _ hz.out (zeroAt d S w1))
      clear hend hr HZ hl1
      go_wp2_with fail
      refine bodyPost_ret (v := .tuple #[zeroVal, .bool true]) (by simp [results, Tryz.results114, go_sem, zeroVal, y0, y1, y2, y3, y4]; rfl) rfl ⟨_, by rw [hz.out]; rfl, (HE.out _ rfl).1, (HE.out _ rfl).2⟩
    · have hkl : k < t.list.length := by
        have := (List.getElem?_eq_some_iff.1 hr1).1
        have := hkeq.out
        omega
      obtain ⟨eb, eo, x, c0, c1, c2, c3, c4, rfl, heS, hx, f0, f1, f2, f3, f4, hval⟩ := hl1.cell hkl
      have hz := hide (HZ.out (some x) (getL_at hr1 hx hr2))
      obtain ⟨q0', q1', q2', q3', q4', q5', q6', q7', q8', hq⟩ := hval.shape
      cases hq
      have HE := hide (hend.out x _ _ _ _ _ hz.out hval)
      have hebl := hS eb heS
      have hki : (k : Int) < (t.list.length : Int) := by omega
      have hk0 : (0 : Int) ≤ (k : Int) := by omega
      clear hend hr1 hr2 HZ hl1 hval hx hkeq
      go_wp2_with fail
      refine bodyPost_ret (v := .tuple #[.agg #[.int .i64 q0', .int .i64 q1', .string q2', .slice q3' q4' q5', .slice q6' q7' q8'], .bool true]) (by simp [results, Tryz.results114, go_sem, y0, y1, y2, y3, y4]) rfl ⟨_, by rw [hz.out], (HE.out _ rfl).1, (HE.out _ rfl).2⟩
  · have q5 : (t.kind != 6) = true := by simpa using e5
    have hz : Hid (partGetT d t s = (zeroT d, false)) := by
      show partGetT d t s = _
      rw [partGetT, if_pos ⟨hok, hstr⟩, if_neg e0, if_neg e5]
    clear e0 e5 hk hl hv0 hB1
    go_enter Tryz.func114, Tryz.ntmps114
    go_wp2_with fail
    rw [hz.out]
    exact bodyPost_ret (v := .tuple #[zeroVal, .bool false]) (by simp [results, Tryz.results114, go_sem, zeroVal]; rfl) rfl ⟨_, rfl, zeroAt d _ _, hB2.out⟩
end Go.Proofs.YtoangpfmjohhmaaGreatDoor

/- PartGet of the model. -/
namespace Go.Proofs.YtoangpfmjohhmaaGreatDoor
open Go.RowKit Go.Deep

end Go.Proofs.YtoangpfmjohhmaaGreatDoor

/- PartGet of the model : the answer owns its memory. -/
namespace Go.Proofs.YtoangpfmjohhmaaGreatDoor
open Go.RowKit Go.Deep

end Go.Proofs.YtoangpfmjohhmaaGreatDoor

/- PartAt of the model. Of what is right. -/
namespace Go.Proofs.YtoangpfmjohhmaaGreatDoor
open Go.RowKit Go.Deep

theorem l2Place_any (i : Int) (n : Nat) (hi : I64 i) (hn : n ≤ 60) (w : World) : Calls Tryz.prog 130 #[.int .i64 i, .int .i64 n] w fun e w' => e = .returned (.int .i64 (placeI i n)) ∧ w' = w := by
  obtain ⟨hi1, hi2⟩ := hi
  by_cases h1 : i < -(n : Int)
  · have hm : Hid (placeI i n = -1) := by
      show placeI i n = -1
      unfold placeI
      rw [if_pos (Or.inl h1)]
    go_enter Tryz.func130, Tryz.ntmps130
    go_wp2_with fail
    go_ret
    rw [hm.out]
    exact ⟨rfl, rfl⟩
  by_cases h2 : (n : Int) ≤ i
  · have hm : Hid (placeI i n = -1) := by
      show placeI i n = -1
      unfold placeI
      rw [if_pos (Or.inr h2)]
    go_enter Tryz.func130, Tryz.ntmps130
    go_wp2_with fail
    go_ret
    rw [hm.out]
    exact ⟨rfl, rfl⟩
  by_cases h3 : i < 0
  · have hm : Hid (placeI i n = i + n) := by
      show placeI i n = i + n
      unfold placeI
      rw [if_neg (by omega), if_pos h3]
    go_enter Tryz.func130, Tryz.ntmps130
    go_wp2_with fail
    go_ret
    rw [hm.out]
    exact ⟨rfl, rfl⟩
  · have hm : Hid (placeI i n = i) := by
      show placeI i n = i
      unfold placeI
      rw [if_neg (by omega), if_neg h3]
    go_enter Tryz.func130, Tryz.ntmps130
    go_wp2_with fail
    go_ret
    rw [hm.out]
    exact ⟨rfl, rfl⟩

set_option maxRecDepth 100000 in
set_option maxHeartbeats 4000000 in
theorem l2At_any (d : Nat) (S : Nat → Prop) (t : Tr (d + 2)) (v : Value) (i : Int) (w : World) (hv : ValAt S w (d + 2) t v) (hS : Within S w) (hi : I64 i) (hok : okT (d + 2) t = true) :
    Calls Tryz.prog 115 #[v, .int .i64 i] w fun e w' => ∃ u, e = .returned (.tuple #[u, .bool (partAtT d t i).2]) ∧ ValAt S w' (d + 1) (partAtT d t i).1 u ∧ Below w.heap.size w w' := by
  have hv0 := hv
  obtain ⟨vk, vl, rfl, i1, i2, i3, hk, hl⟩ := hv
  obtain ⟨ak, ck, rfl, hkl⟩ := hk.open'
  obtain ⟨al, cl, rfl, hll⟩ := hl.open'
  obtain ⟨hkinds, hl60, _⟩ := okT_kinds hok
  have hl60 : t.list.length ≤ 60 := hl60
  clear hkinds
  have hB1 := hide (below_trans (below_alloc1 w (.cells #[.int .i64 t.kind, .int .i64 t.num, .string t.str, .slice ak t.keys.length ck, .slice al t.list.length cl] 26)) (below_alloc1 _ (.cells #[.int .i64 t.kind, .int .i64 t.num, .string t.str, .slice ak t.keys.length ck, .slice al t.list.length cl] 26)))
  have hB2 := hide (below_trans (below_alloc1 w (.cells #[.int .i64 t.kind, .int .i64 t.num, .string t.str, .slice ak t.keys.length ck, .slice al t.list.length cl] 26)) (below_alloc1 _ (.cells #[.int .i64 0, .int .i64 0, .string { data := #[] }, .slice none 0 0, .slice none 0 0] 26)))
  by_cases e0 : t.kind = 0
  · have q0 : (t.kind == 0) = true := by simpa using e0
    have hz : Hid (partAtT d t i = (zeroT d, true)) := by
      show partAtT d t i = _
      rw [partAtT, if_pos hok, if_pos e0]
    have HV := hide (valAt_zero hok e0 hv0)
    clear e0 hk hl hv0 hB2
    go_enter Tryz.func115, Tryz.ntmps115
    go_wp2_with fail
    rw [hz.out]
    exact bodyPost_ret (v := .tuple #[.agg #[.int .i64 t.kind, .int .i64 t.num, .string t.str, .slice ak t.keys.length ck, .slice al t.list.length cl], .bool true]) (by simp [results, Tryz.results115, go_sem]) rfl ⟨_, rfl, HV.out.same (hS.same hB1.out), hB1.out⟩
  have q0 : (t.kind == 0) = false := by simpa using e0
  by_cases e5 : t.kind = 5
  · have q5 : (t.kind != 5) = false := by simpa using e5
    rcases placeI_range i t.list.length with hp | ⟨hp1, hp2⟩
    · have hz : Hid (partAtT d t i = (zeroT d, true)) := by
        show partAtT d t i = _
        rw [partAtT, if_pos hok, if_neg e0, if_pos e5]
        unfold placeL
        rw [if_pos (by rw [hp]; omega)]
        rfl
      have HP := hide hp
      clear e0 e5 hk hl hv0 hB1 hp
      go_enter Tryz.func115, Tryz.ntmps115
      go_wp2_with fail
      refine (l2Place_any i t.list.length hi hl60 _).mono ?_
      rintro e w1 ⟨rfl, rfl⟩
      rw [HP.out]
      go_wp2_with fail
      rw [hz.out]
      exact bodyPost_ret (v := .tuple #[zeroVal, .bool true]) (by simp [results, Tryz.results115, go_sem, zeroVal]; rfl) rfl ⟨_, rfl, zeroAt d _ _, hB2.out⟩
    · obtain ⟨k, hk1⟩ : ∃ k : Nat, placeI i t.list.length = (k : Int) := ⟨(placeI i t.list.length).toNat, by omega⟩
      rw [hk1] at hp1 hp2
      have hkl : k < t.list.length := by omega
      obtain ⟨eb, eo, x, c0, c1, c2, c3, c4, rfl, heS, hx, f0, f1, f2, f3, f4, hval⟩ := hl.cell hkl
      have hz : Hid (partAtT d t i = (x, true)) := by
        show partAtT d t i = _
        rw [partAtT, if_pos hok, if_neg e0, if_pos e5]
        unfold placeL
        rw [hk1, if_neg (by omega), Int.toNat_natCast, hx]
        rfl
      obtain ⟨q0', q1', q2', q3', q4', q5', q6', q7', q8', hq⟩ := hval.shape
      cases hq
      have hebl := hS eb heS
      have HP := hide hk1
      have HV := hide hval
      have hki : (k : Int) < (t.list.length : Int) := by omega
      clear e0 e5 hk hl hv0 hB1 hk1 hval hx
      go_enter Tryz.func115, Tryz.ntmps115
      go_wp2_with fail
      refine (l2Place_any i t.list.length hi hl60 _).mono ?_
      rintro e w1 ⟨rfl, rfl⟩
      rw [HP.out]
      go_wp2_with fail
      rw [hz.out]
      have hB := below_trans (below_alloc1 w (.cells #[.int .i64 t.kind, .int .i64 t.num, .string t.str, .slice ak t.keys.length ck, .slice (some ⟨eb, eo, none⟩) t.list.length cl] 26)) (below_alloc1 _ (.cells #[.int .i64 q0', .int .i64 q1', .string q2', .slice q3' q4' q5', .slice q6' q7' q8'] 26))
      exact bodyPost_ret (v := .tuple #[.agg #[.int .i64 q0', .int .i64 q1', .string q2', .slice q3' q4' q5', .slice q6' q7' q8'], .bool true]) (by simp [results, Tryz.results115, go_sem]) rfl ⟨_, rfl, HV.out.same (hS.same hB), hB⟩
  · have q5 : (t.kind != 5) = true := by simpa using e5
    have hz : Hid (partAtT d t i = (zeroT d, false)) := by
      show partAtT d t i = _
      rw [partAtT, if_pos hok, if_neg e0, if_neg e5]
    clear e0 e5 hk hl hv0 hB1
    go_enter Tryz.func115, Tryz.ntmps115
    go_wp2_with fail
    rw [hz.out]
    exact bodyPost_ret (v := .tuple #[zeroVal, .bool false]) (by simp [results, Tryz.results115, go_sem, zeroVal]; rfl) rfl ⟨_, rfl, zeroAt d _ _, hB2.out⟩
end Go.Proofs.YtoangpfmjohhmaaGreatDoor

/- PartAt of the model. -/
namespace Go.Proofs.YtoangpfmjohhmaaGreatDoor
open Go.RowKit Go.Deep

end Go.Proofs.YtoangpfmjohhmaaGreatDoor

/- PartAt of the model : the answer owns its memory. -/
namespace Go.Proofs.YtoangpfmjohhmaaGreatDoor
open Go.RowKit Go.Deep

end Go.Proofs.YtoangpfmjohhmaaGreatDoor

/- PartLen of the model and of the program. -/
namespace Go.Proofs.YtoangpfmjohhmaaGreatDoor
open Go.RowKit Go.Deep

/-- How long a tree is. -/
def lenT (d : Nat) (t : Tr (d + 1)) : Option Int :=
  if Nd.kind t = 0 then some 0 else if Nd.kind t = 3 then some (max (Nd.num t) (-(Nd.num t))) else if Nd.kind t = 4 then some (Nd.str t).size
  else if Nd.kind t = 5 ∨ Nd.kind t = 6 then some (Nd.list t).length else none
def partLenT (d : Nat) (t : Tr (d + 1)) : Tr (d + 1) × Bool := if okT (d + 1) t = true then (match lenT d t with | some n => (numT d n, true) | none => (zeroT d, false)) else (zeroT d, false)

/-- How many entries a map has. -/
theorem run_len_map (w : World) (r clock : Nat) (es : Array MapEntry) (ty : TypeId) (hb : w.heap[r]? = some (.map es clock)) :
    (Builtin.len_ #[123] ty #[.map (some r)]).run Tryz.prog w = .ok (.int .i64 es.size) w := by
  simp [Builtin.len_, run_underlying Tryz.underlying123, getObj, Sem.run, hb, goInt]

/-- What lengthOf is asked to give. -/
def LenQ (d : Nat) (t : Tr (d + 1)) (w : World) (e : Ending) (w' : World) : Prop :=
  Below w.heap.size w w' ∧ (if okT (d + 1) t = true then (match lenT d t with
    | some n => e = .returned (.tuple #[.iface 113 (.agg #[.int .i64 n]), .nilIface])
    | none => ∃ why, e = .returned (.tuple #[.nilIface, faultV why])) else ∃ why, e = .returned (.tuple #[.nilIface, faultV why]))

set_option maxRecDepth 100000 in
set_option maxHeartbeats 4000000 in
theorem lengthOf_any (d : Nat) (S : Nat → Prop) (t : Tr (d + 1)) (v : Value) (w : World) (hv : ValAt S w (d + 1) t v) (hS : Within S w) :
    Calls Tryz.prog 44 #[v] w (LenQ d t w) := by
  obtain ⟨k, n, s, ak, lk, ck, al, ll, cl, rfl⟩ := hv.shape
  have hA := below_alloc1 w (.cells #[.int .i64 k, .int .i64 n, .string s, .slice ak lk ck, .slice al ll cl] 26)
  go_enter Tryz.func44, Tryz.ntmps44
  go_wp2_with fail
  refine (given_any (d + 1) S t _ _ (hv.same (hS.same hA)) (hS.later hA.size)).mono ?_
  rintro e w1 ⟨hb1, hq⟩
  have hB := below_trans hA hb1
  clear hb1 hA hv
  rcases hq with ⟨hok, u, rfl, hu⟩ | ⟨hok, why, rfl⟩
  · obtain ⟨hkinds, hll, _⟩ := okT_kinds hok
    have HK := hide hkinds
    clear hkinds
    rcases hu with ⟨k', h1, rfl, rfl⟩ | ⟨n', h1, rfl, rfl⟩ | ⟨s', h1, rfl, rfl⟩ | ⟨xs, sv, h1, rfl, rfl, hr⟩ | ⟨keys, xs, ps, r, es, h1, h2, h3, h4, rfl, rfl, hr, hm, he⟩
    · have a1 := Tryz.asN_B
      have a2 := Tryz.asS_B
      have a3 := Tryz.asR_B
      have a4 := Tryz.asM_B
      go_wp2_with fail
      refine (isNothing_bare k' w1).mono ?_
      rintro e w2 ⟨rfl, hb2⟩
      have HB2 := hide (below_trans hB hb2)
      clear hb2 hB
      by_cases hk0 : k' = 0
      · have hkb : (k' == 0) = true := by simpa using hk0
        have hq : Hid (lenT d (Nd.mk k' 0 ByteArray.empty [] [] : Nd (Tr d)) = some 0) := by
          show (if k' = 0 then _ else _) = _
          rw [if_pos hk0]
        clear hk0
        go_wp2_with fail
        go_ret2
        refine ⟨HB2.out, ?_⟩
        rw [if_pos hok, hq.out]
        exact rfl
      · have hkb : (k' == 0) = false := by simpa using hk0
        have hq : Hid (lenT d (Nd.mk k' 0 ByteArray.empty [] [] : Nd (Tr d)) = none) := by
          show (if k' = 0 then _ else if k' = 3 then _ else if k' = 4 then _ else if k' = 5 ∨ k' = 6 then _ else _) = _
          rw [if_neg hk0, if_neg (by omega), if_neg (by omega), if_neg (by omega)]
        clear hk0
        go_wp2_with fail
        go_ret2
        refine ⟨HB2.out, ?_⟩
        rw [if_pos hok, hq.out]
        exact ⟨_, rfl⟩
    · have a1 := Tryz.asN_N
      have hn : -1000000 ≤ n' ∧ n' ≤ 1000000 := by
        have h0 : (3 : Int) = 0 ∨ (3 : Int) = 1 ∨ (3 : Int) = 2 ∨ ((3 : Int) = 3 ∧ -1000000 ≤ n' ∧ n' ≤ 1000000) ∨ ((3 : Int) = 4 ∧ ByteArray.empty.size ≤ 12) ∨ (3 : Int) = 5 ∨ (3 : Int) = 6 := HK.out
        omega
      have hq : Hid (lenT d (Nd.mk 3 n' ByteArray.empty [] [] : Nd (Tr d)) = some (max n' (-n'))) := rfl
      have HB := hide (below_trans hB (below_alloc1 w1 (.cells #[.int .i64 n'] 113)))
      have h2 := hn.1
      have h3 := hn.2
      clear hB hn
      go_wp2_with fail
      go_ret2
      refine ⟨HB.out, ?_⟩
      rw [if_pos hok, hq.out]
      exact rfl
    · have a1 := Tryz.asN_S
      have a2 := Tryz.asS_S
      have hq : Hid (lenT d (Nd.mk 4 0 s' [] [] : Nd (Tr d)) = some (s'.size : Int)) := rfl
      have HB := hide (below_trans hB (below_alloc1 w1 (.cells #[.string s'] 116)))
      clear hB
      go_wp2_with fail
      go_ret2
      refine ⟨HB.out, ?_⟩
      rw [if_pos hok, hq.out]
      exact rfl
    · have a1 := Tryz.asN_R
      have a2 := Tryz.asS_R
      have a3 := Tryz.asR_R
      obtain ⟨sa, sc, rfl, _⟩ := hr.open'
      have hq : Hid (lenT d (Nd.mk 5 0 ByteArray.empty [] xs : Nd (Tr d)) = some (xs.length : Int)) := rfl
      have HB := hide (below_trans hB (below_alloc1 w1 (.cells #[.slice sa xs.length sc] 120)))
      clear hB hr
      go_wp2_with fail
      go_ret2
      refine ⟨HB.out, ?_⟩
      rw [if_pos hok, hq.out]
      exact rfl
    · have a1 := Tryz.asN_M
      have a2 := Tryz.asS_M
      have a3 := Tryz.asR_M
      have a4 := Tryz.asM_M
      have hq : Hid (lenT d (Nd.mk 6 0 ByteArray.empty keys xs : Nd (Tr d)) = some (xs.length : Int)) := rfl
      have HB := hide (below_trans hB (below_alloc1 w1 (.cells #[.map (some r)] 125)))
      have hes : es.size = xs.length := by rw [he.1, h4.length_eq, List.length_zip, h3, Nat.min_self]
      have hlen := run_len_map (w1.alloc (.cells #[.map (some r)] 125)) r ps.length es 3 ((Below.heap_alloc _ _ _ hr.2).trans hm)
      rw [hes] at hlen
      clear hB hes he hm h4 h3 h2
      go_wp2_with fail
      go_ret2
      refine ⟨HB.out, ?_⟩
      rw [if_pos hok, hq.out]
      exact rfl
  · unfold faultV
    go_wp2_with fail
    go_ret2
    refine ⟨hB, ?_⟩
    rw [if_neg (by rw [hok]; simp)]
    exact ⟨why, rfl⟩

theorem lenT_bd {d : Nat} {t : Tr (d + 1)} (h : okT (d + 1) t = true) {n : Int} (hn : lenT d t = some n) : -1000000 ≤ n ∧ n ≤ 1000000 := by
  obtain ⟨hk, hl, _⟩ := okT_kinds h
  unfold lenT at hn
  split at hn
  · cases hn; omega
  split at hn
  · cases hn; omega
  split at hn
  · cases hn; omega
  split at hn
  · cases hn; omega
  · cases hn

set_option maxRecDepth 100000 in
set_option maxHeartbeats 4000000 in
theorem implPartLen_any (d : Nat) (S : Nat → Prop) (t : Tr (d + 1)) (v : Value) (w : World) (hv : ValAt S w (d + 1) t v) (hS : Within S w) (hg : ErrType w) :
    Calls Tryz.prog 15 #[v] w (TellQ d (partLenT d t).1 (partLenT d t).2 w) := by
  obtain ⟨k, n, s, ak, lk, ck, al, ll, cl, rfl⟩ := hv.shape
  obtain ⟨W0, hW⟩ : ∃ W0, W0 = (w.alloc (.cells #[.int .i64 k, .int .i64 n, .string s, .slice ak lk ck, .slice al ll cl] 26)).alloc (.cells #[.int .i64 0, .int .i64 0, .string { data := #[] }, .slice none 0 0, .slice none 0 0] 26) := ⟨_, rfl⟩
  have hW0 : Below w.heap.size w W0 := by rw [hW]; exact below_trans (below_alloc1 _ _) (below_alloc1 _ _)
  have k1 : Blk5 W0 (w.heap.size + 1) 26 (.int .i64 0) (.int .i64 0) (.string { data := #[] }) (.slice none 0 0) (.slice none 0 0) := by
    have := Blk5.new (w.alloc (.cells #[.int .i64 k, .int .i64 n, .string s, .slice ak lk ck, .slice al ll cl] 26)) 26 (.int .i64 0) (.int .i64 0) (.string { data := #[] }) (.slice none 0 0) (.slice none 0 0)
    rw [World.size_alloc] at this
    rw [hW]
    exact this
  have HW := hide hW
  clear hW
  go_enter Tryz.func15, Tryz.ntmps15
  go_wp2_with fail
  rw [← HW.out]
  clear HW
  refine (lengthOf_any d S t _ W0 (hv.same (hS.same hW0)) (hS.later hW0.size)).mono ?_
  rintro e w1 ⟨hb1, hq⟩
  have hB1 := below_trans hW0 hb1
  have k2 := k1.below hb1
  have hg1 := hg.below hB1
  have hlt := k2.lt
  -- what is told, however it is
  have hfin : ∀ (x : Tr (d + 1)) (ok : Bool), Hid (∀ e w2, TellQ d x ok w1 e w2 → ∃ v0 v1 v2 v3 v4 v5 v6 v7 v8, e = .returned (.tuple #[.agg #[.int .i64 v0, .int .i64 v1, .string v2, .slice v3 v4 v5, .slice v6 v7 v8], .bool ok]) ∧
      Blk5 w2 (w.heap.size + 1) 26 (.int .i64 0) (.int .i64 0) (.string { data := #[] }) (.slice none 0 0) (.slice none 0 0) ∧
      ∀ wF, wF = set5 w2 (w.heap.size + 1) 0 (.int .i64 v0) (.int .i64 v1) (.string v2) (.slice v3 v4 v5) (.slice v6 v7 v8) → ValOwn wF (d + 1) (Fresh w wF) x (.agg #[.int .i64 v0, .int .i64 v1, .string v2, .slice v3 v4 v5, .slice v6 v7 v8]) ∧ Below w.heap.size w wF) := fun x ok => by
    intro e w2 ⟨v, he, hv, hb2⟩
    obtain ⟨v0, v1, v2, v3, v4, v5, v6, v7, v8, rfl⟩ := (ValOwn.at _ _ _ _ hv).shape
    exact ⟨v0, v1, v2, v3, v4, v5, v6, v7, v8, he, k2.below hb2, tell_end hv (below_trans hB1 hb2) (by omega) hlt⟩
  clear hv hW0 hb1 k1 k2
  have hres : Hid (okT (d + 1) t = true → ∀ n, lenT d t = some n → partLenT d t = (toldT d (numT d n), okT (d + 1) (numT d n))) := fun h n hn => by
    have hb := lenT_bd h hn
    rw [partLenT, if_pos h, hn, okT_num d n hb, toldT, if_pos (okT_num d n hb)]
  have hres2 : Hid (okT (d + 1) t = true → lenT d t = none → partLenT d t = (zeroT d, false)) := fun h hn => by rw [partLenT, if_pos h, hn]
  have hres3 : Hid (okT (d + 1) t = false → partLenT d t = (zeroT d, false)) := fun h => by rw [partLenT, if_neg (by rw [h]; simp)]
  have key : (∃ n, okT (d + 1) t = true ∧ lenT d t = some n ∧ e = .returned (.tuple #[.iface 113 (.agg #[.int .i64 n]), .nilIface])) ∨ (partLenT d t = (zeroT d, false) ∧ ∃ why, e = .returned (.tuple #[.nilIface, faultV why])) := by
    cases hok : okT (d + 1) t with
    | false =>
      rw [if_neg (by rw [hok]; simp)] at hq
      exact Or.inr ⟨hres3.out hok, hq⟩
    | true =>
      rw [if_pos hok] at hq
      cases hl : lenT d t with
      | none =>
        rw [hl] at hq
        exact Or.inr ⟨hres2.out hok hl, hq⟩
      | some n =>
        rw [hl] at hq
        exact Or.inl ⟨n, rfl, rfl, hq⟩
  clear hq
  rcases key with ⟨n', hok, hln, rfl⟩ | ⟨hz, why, rfl⟩
  · have hbd := lenT_bd hok hln
    have HR := hide (hres.out hok n' hln)
    have hcall := hide (told_tree d (fun _ => False) (numT d n') (.iface 113 (.agg #[.int .i64 n'])) w1 (numTree_at d n' ⟨by omega, by omega⟩ _ _) (fun _ h => h.elim))
    clear hres hres2 hres3 hok hln hbd
    go_wp2_with fail
    refine Calls.mono hcall.out ?_
    intro e w2 hq
    obtain ⟨v0, v1, v2, v3, v4, v5, v6, v7, v8, rfl, k3, hF⟩ := (hfin _ _).out e w2 hq
    have HF := hide hF
    obtain ⟨y0, y1, y2, y3, y4⟩ := k3.cell
    have yf := k3.frozen
    clear hF hq hfin hcall k3
    go_wp2_with fail
    refine bodyPost_ret (v := .tuple #[.agg #[.int .i64 v0, .int .i64 v1, .string v2, .slice v3 v4 v5, .slice v6 v7 v8], .bool (okT (d + 1) (numT d n'))]) (by simp [results, Tryz.results15, go_sem, y0, y1, y2, y3, y4]) rfl ⟨_, by rw [HR.out], by rw [HR.out]; exact (HF.out _ rfl).1, (HF.out _ rfl).2⟩
  · have HR := hide hz
    have hcall := hide (told_fault d .nilIface why w1 hg1)
    unfold faultV
    clear hres hres2 hres3 hz
    go_wp2_with fail
    refine Calls.mono hcall.out ?_
    intro e w2 hq
    obtain ⟨v0, v1, v2, v3, v4, v5, v6, v7, v8, rfl, k3, hF⟩ := (hfin _ _).out e w2 hq
    have HF := hide hF
    obtain ⟨y0, y1, y2, y3, y4⟩ := k3.cell
    have yf := k3.frozen
    clear hF hq hfin hcall k3
    go_wp2_with fail
    refine bodyPost_ret (v := .tuple #[.agg #[.int .i64 v0, .int .i64 v1, .string v2, .slice v3 v4 v5, .slice v6 v7 v8], .bool false]) (by simp [results, Tryz.results15, go_sem, y0, y1, y2, y3, y4]) rfl ⟨_, by rw [HR.out], by rw [HR.out]; exact (HF.out _ rfl).1, (HF.out _ rfl).2⟩
end Go.Proofs.YtoangpfmjohhmaaGreatDoor

/- Numbers of the model. -/
namespace Go.Proofs.YtoangpfmjohhmaaGreatDoor
open Go.RowKit Go.Deep

set_option maxRecDepth 100000 in
theorem l2Num_any (n : Int) (w : World) : Calls Tryz.prog 45 #[.int .i64 n] w fun e w' => e = .returned (.agg #[.int .i64 3, .int .i64 n, .string ByteArray.empty, .slice none 0 0, .slice none 0 0]) ∧ Below w.heap.size w w' := by
  go_enter Tryz.func45, Tryz.ntmps45
  go_wp2_with fail
  exact bodyPost_ret (v := .agg #[.int .i64 3, .int .i64 n, .string ByteArray.empty, .slice none 0 0, .slice none 0 0]) (by simp [results, Tryz.results45, go_sem]; rfl) rfl ⟨rfl, below_alloc1 _ _⟩
end Go.Proofs.YtoangpfmjohhmaaGreatDoor

/- PartLen of the model. -/
namespace Go.Proofs.YtoangpfmjohhmaaGreatDoor
open Go.RowKit Go.Deep

theorem l1MaxP_any (a b : Int) (w : World) : Calls Tryz.prog 46 #[.int .i64 a, .int .i64 b] w fun e w' => e = .returned (.int .i64 (max a b)) ∧ w' = w := by
  by_cases h : b < a
  · have hm : Hid (max a b = a) := by
      show max a b = a
      omega
    go_enter Tryz.func46, Tryz.ntmps46
    go_wp2_with fail
    go_ret
    rw [hm.out]
    exact ⟨rfl, rfl⟩
  · have hm : Hid (max a b = b) := by
      show max a b = b
      omega
    go_enter Tryz.func46, Tryz.ntmps46
    go_wp2_with fail
    go_ret
    rw [hm.out]
    exact ⟨rfl, rfl⟩

set_option maxRecDepth 100000 in
set_option maxHeartbeats 4000000 in
theorem specPartLen_any (d : Nat) (S : Nat → Prop) (t : Tr (d + 1)) (v : Value) (w : World) (hv : ValAt S w (d + 1) t v) (hS : Within S w) (hsm : (nodes (d + 1) t : Int) ≤ 4194304) :
    Calls Tryz.prog 16 #[v] w (SpecQ d (partLenT d t).1 (partLenT d t).2 w) := by
  have hv0 := hv
  obtain ⟨vk, vl, rfl, i1, i2, i3, hk, hl⟩ := hv
  obtain ⟨ak, ck, rfl, hkl⟩ := hk.open'
  obtain ⟨al, cl, rfl, hll⟩ := hl.open'
  obtain ⟨W0, hW⟩ : ∃ W0, W0 = (w.alloc (.cells #[.int .i64 t.kind, .int .i64 t.num, .string t.str, .slice ak t.keys.length ck, .slice al t.list.length cl] 26)).alloc (.cells #[.int .i64 0, .int .i64 0, .string { data := #[] }, .slice none 0 0, .slice none 0 0] 26) := ⟨_, rfl⟩
  have hW0 : Below w.heap.size w W0 := by rw [hW]; exact below_trans (below_alloc1 _ _) (below_alloc1 _ _)
  have k0 : Blk5 W0 w.heap.size 26 (.int .i64 t.kind) (.int .i64 t.num) (.string t.str) (.slice ak t.keys.length ck) (.slice al t.list.length cl) := by
    rw [hW]; exact (Blk5.new w 26 _ _ _ _ _).alloc _
  have k1 : Blk5 W0 (w.heap.size + 1) 26 (.int .i64 0) (.int .i64 0) (.string { data := #[] }) (.slice none 0 0) (.slice none 0 0) := by
    have := Blk5.new (w.alloc (.cells #[.int .i64 t.kind, .int .i64 t.num, .string t.str, .slice ak t.keys.length ck, .slice al t.list.length cl] 26)) 26 (.int .i64 0) (.int .i64 0) (.string { data := #[] }) (.slice none 0 0) (.slice none 0 0)
    rw [World.size_alloc] at this
    rw [hW]
    exact this
  have HW := hide hW
  clear hW
  go_enter Tryz.func16, Tryz.ntmps16
  go_wp2_with fail
  rw [← HW.out]
  clear HW
  refine (specValOk_any (d + 1) S t _ W0 (hv0.same (hS.same hW0)) (hS.later hW0.size) hsm).mono ?_
  rintro e w1 ⟨rfl, hb1⟩
  replace k0 := k0.below hb1
  replace k1 := k1.below hb1
  have HB1 := hide (below_trans hW0 hb1)
  obtain ⟨x0, x1, x2, x3, x4⟩ := k0.cell
  obtain ⟨y0, y1, y2, y3, y4⟩ := k1.cell
  have yf := k1.frozen
  have hlt := k1.lt
  clear hb1 hW0 hv0 hk hl
  -- nothing is told
  have hno : Hid (∀ wF, wF = set5 w1 (w.heap.size + 1) 0 (.int .i64 0) (.int .i64 0) (.string { data := #[] }) (.slice none 0 0) (.slice none 0 0) → partLenT d t = (zeroT d, false) → ValAt (Fresh w wF) wF (d + 1) (partLenT d t).1 zeroVal ∧ Below w.heap.size w wF) := by
    intro wF hF hz
    rw [hz]
    refine ⟨zeroAt d _ _, ?_⟩
    rw [hF]
    exact below_set5 HB1.out (by omega) _ _ _ _ _ _
  -- a number is told
  have hyes : Hid (∀ n, I64 n → partLenT d t = (numT d n, true) → ∀ w2, Below w1.heap.size w1 w2 → ∀ wF, wF = set5 w2 (w.heap.size + 1) 0 (.int .i64 3) (.int .i64 n) (.string ByteArray.empty) (.slice none 0 0) (.slice none 0 0) →
      ValAt (Fresh w wF) wF (d + 1) (partLenT d t).1 (.agg #[.int .i64 3, .int .i64 n, .string ByteArray.empty, .slice none 0 0, .slice none 0 0]) ∧ Below w.heap.size w wF) := by
    intro n hn hz w2 hb2 wF hF
    rw [hz]
    refine ⟨numAt d n hn _ _, ?_⟩
    rw [hF]
    exact below_set5 (below_trans HB1.out hb2) (by omega) _ _ _ _ _ _
  cases hf : okT (d + 1) t with
  | false =>
    have hz : Hid (partLenT d t = (zeroT d, false)) := by
      show partLenT d t = _
      rw [partLenT, if_neg (by rw [hf]; simp)]
    clear k0 k1 hyes
    go_wp2_with fail
    refine bodyPost_ret (v := .tuple #[zeroVal, .bool false]) (by simp [results, Tryz.results16, go_sem, zeroVal, y0, y1, y2, y3, y4]; rfl) rfl ⟨_, by rw [hz.out], (hno.out _ rfl hz.out).1, (hno.out _ rfl hz.out).2⟩
  | true =>
    obtain ⟨hkinds, hl60, _⟩ := okT_kinds hf
    have HKI := hide hkinds
    have hp : Hid (∀ n, lenT d t = some n → partLenT d t = (numT d n, true)) := fun n hn => by rw [partLenT, if_pos hf, hn]
    clear hkinds
    by_cases e0 : t.kind = 0
    · have hz := hide (hp.out 0 (by rw [lenT, if_pos e0]))
      have q0 : (t.kind == 0) = true := by simpa using e0
      clear k0 hno e0
      go_wp2_with fail
      refine (l2Num_any 0 w1).mono ?_
      rintro e w2 ⟨rfl, hb2⟩
      have k2 := k1.below hb2
      have HF := hide (hyes.out 0 ⟨by omega, by omega⟩ hz.out w2 hb2)
      clear x0 x1 x2 x3 x4 y0 y1 y2 y3 y4 yf hb2 hyes k1
      obtain ⟨y0, y1, y2, y3, y4⟩ := k2.cell
      have yf := k2.frozen
      clear k2
      go_wp2_with fail
      refine bodyPost_ret (v := .tuple #[.agg #[.int .i64 3, .int .i64 0, .string ByteArray.empty, .slice none 0 0, .slice none 0 0], .bool true]) (by simp [results, Tryz.results16, go_sem, y0, y1, y2, y3, y4]) rfl ⟨_, by rw [hz.out], (HF.out _ rfl).1, (HF.out _ rfl).2⟩
    have q0 : (t.kind == 0) = false := by simpa using e0
    by_cases e3 : t.kind = 3
    · have hz := hide (hp.out (max t.num (-t.num)) (by rw [lenT, if_neg e0, if_pos e3]))
      have q3 : (t.kind == 3) = true := by simpa using e3
      have hnb : -1000000 ≤ t.num ∧ t.num ≤ 1000000 := by have := HKI.out; omega
      have n1 := hnb.1
      have n2 := hnb.2
      clear k0 hno e0 e3 hnb
      go_wp2_with fail
      refine (l1MaxP_any t.num (-t.num) w1).mono ?_
      rintro e w1' ⟨rfl, rfl⟩
      go_wp2_with fail
      refine (l2Num_any (max t.num (-t.num)) w1').mono ?_
      rintro e w2 ⟨rfl, hb2⟩
      have k2 := k1.below hb2
      have HF := hide (hyes.out (max t.num (-t.num)) ⟨by omega, by omega⟩ hz.out w2 hb2)
      clear x0 x1 x2 x3 x4 y0 y1 y2 y3 y4 yf hb2 hyes k1
      obtain ⟨y0, y1, y2, y3, y4⟩ := k2.cell
      have yf := k2.frozen
      clear k2
      go_wp2_with fail
      refine bodyPost_ret (v := .tuple #[.agg #[.int .i64 3, .int .i64 (max t.num (-t.num)), .string ByteArray.empty, .slice none 0 0, .slice none 0 0], .bool true]) (by simp [results, Tryz.results16, go_sem, y0, y1, y2, y3, y4]) rfl ⟨_, by rw [hz.out], (HF.out _ rfl).1, (HF.out _ rfl).2⟩
    have q3 : (t.kind == 3) = false := by simpa using e3
    by_cases e4 : t.kind = 4
    · have hz := hide (hp.out (t.str.size : Int) (by rw [lenT, if_neg e0, if_neg e3, if_pos e4]))
      have q4 : (t.kind == 4) = true := by simpa using e4
      clear k0 hno e0 e3 e4
      go_wp2_with fail
      refine (l2Num_any (t.str.size : Int) w1).mono ?_
      rintro e w2 ⟨rfl, hb2⟩
      have k2 := k1.below hb2
      have HF := hide (hyes.out (t.str.size : Int) ⟨by omega, by omega⟩ hz.out w2 hb2)
      clear x0 x1 x2 x3 x4 y0 y1 y2 y3 y4 yf hb2 hyes k1
      obtain ⟨y0, y1, y2, y3, y4⟩ := k2.cell
      have yf := k2.frozen
      clear k2
      go_wp2_with fail
      refine bodyPost_ret (v := .tuple #[.agg #[.int .i64 3, .int .i64 (t.str.size : Int), .string ByteArray.empty, .slice none 0 0, .slice none 0 0], .bool true]) (by simp [results, Tryz.results16, go_sem, y0, y1, y2, y3, y4]) rfl ⟨_, by rw [hz.out], (HF.out _ rfl).1, (HF.out _ rfl).2⟩
    have q4 : (t.kind == 4) = false := by simpa using e4
    by_cases e5 : t.kind = 5
    · have hz := hide (hp.out (t.list.length : Int) (by rw [lenT, if_neg e0, if_neg e3, if_neg e4, if_pos (Or.inl e5)]))
      have q5 : (t.kind == 5) = true := by simpa using e5
      clear k0 hno e0 e3 e4 e5
      go_wp2_with fail
      refine (l2Num_any (t.list.length : Int) w1).mono ?_
      rintro e w2 ⟨rfl, hb2⟩
      have k2 := k1.below hb2
      have HF := hide (hyes.out (t.list.length : Int) ⟨by omega, by omega⟩ hz.out w2 hb2)
      clear x0 x1 x2 x3 x4 y0 y1 y2 y3 y4 yf hb2 hyes k1
      obtain ⟨y0, y1, y2, y3, y4⟩ := k2.cell
      have yf := k2.frozen
      clear k2
      go_wp2_with fail
      refine bodyPost_ret (v := .tuple #[.agg #[.int .i64 3, .int .i64 (t.list.length : Int), .string ByteArray.empty, .slice none 0 0, .slice none 0 0], .bool true]) (by simp [results, Tryz.results16, go_sem, y0, y1, y2, y3, y4]) rfl ⟨_, by rw [hz.out], (HF.out _ rfl).1, (HF.out _ rfl).2⟩
    have q5 : (t.kind == 5) = false := by simpa using e5
    by_cases e6 : t.kind = 6
    · have hz := hide (hp.out (t.list.length : Int) (by rw [lenT, if_neg e0, if_neg e3, if_neg e4, if_pos (Or.inr e6)]))
      have q6 : (t.kind == 6) = true := by simpa using e6
      clear k0 hno e0 e3 e4 e5 e6
      go_wp2_with fail
      refine (l2Num_any (t.list.length : Int) w1).mono ?_
      rintro e w2 ⟨rfl, hb2⟩
      have k2 := k1.below hb2
      have HF := hide (hyes.out (t.list.length : Int) ⟨by omega, by omega⟩ hz.out w2 hb2)
      clear x0 x1 x2 x3 x4 y0 y1 y2 y3 y4 yf hb2 hyes k1
      obtain ⟨y0, y1, y2, y3, y4⟩ := k2.cell
      have yf := k2.frozen
      clear k2
      go_wp2_with fail
      refine bodyPost_ret (v := .tuple #[.agg #[.int .i64 3, .int .i64 (t.list.length : Int), .string ByteArray.empty, .slice none 0 0, .slice none 0 0], .bool true]) (by simp [results, Tryz.results16, go_sem, y0, y1, y2, y3, y4]) rfl ⟨_, by rw [hz.out], (HF.out _ rfl).1, (HF.out _ rfl).2⟩
    have q6 : (t.kind == 6) = false := by simpa using e6
    have hz : Hid (partLenT d t = (zeroT d, false)) := by
      show partLenT d t = _
      rw [partLenT, if_pos hf, lenT, if_neg e0, if_neg e3, if_neg e4, if_neg (by omega)]
    clear k0 k1 hyes e0 e3 e4 e5 e6
    go_wp2_with fail
    refine bodyPost_ret (v := .tuple #[zeroVal, .bool false]) (by simp [results, Tryz.results16, go_sem, zeroVal, y0, y1, y2, y3, y4]; rfl) rfl ⟨_, by rw [hz.out], (hno.out _ rfl hz.out).1, (hno.out _ rfl hz.out).2⟩
theorem okT_partLen (d : Nat) (t : Tr (d + 1)) : okT (d + 1) (partLenT d t).1 = true := by
  unfold partLenT
  split
  · rename_i h
    cases hl : lenT d t with
    | none => exact okT_zero d
    | some n => exact okT_num d n (lenT_bd h hl)
  · exact okT_zero d
end Go.Proofs.YtoangpfmjohhmaaGreatDoor
