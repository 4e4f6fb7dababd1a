/- Texts of the proof, put together by program: WSetUo, WTrees, WRowP. -/
import Derived.Test.YtmibjmipndffmaaGreatDoorQ16
import Derived.Test.YtmibjmipndffmaaGreatDoorQ12
import Derived.Test.YtmibjmipndffmaaGreatDoorQ5
import Derived.Test.YtmibjmipndffmaaGreatDoorQ13
/- PartSet of the model : the answer owns its memory. -/
namespace Go.Proofs.YtmibjmipndffmaaGreatDoor
open Go.RowKit Go.Deep

set_option maxRecDepth 100000 in
set_option maxHeartbeats 2000000 in
theorem specPartSet_own (d : Nat) (S : Nat → Prop) (t : Tr (d + 2)) (v : Value) (i : Int) (hi : I64 i) (S2 : Nat → Prop) (x : Tr (d + 1)) (xv : Value) (w : World) (hv : ValAt S w (d + 2) t v) (hS : Within S w) (hx : ValAt S2 w (d + 1) x xv) (hS2 : Within S2 w) (hsm : (nodes (d + 2) t : Int) ≤ 4194304) (hsx : (nodes (d + 1) x : Int) ≤ 4194304) :
    Calls Tryz.prog 97 #[v, .int .i64 i, xv] w (TellQ (d + 1) (partSetT d t i x).1 (partSetT d t i x).2 w) := by
  have hv0 := hv
  obtain ⟨vk, vl, rfl, i1, i2, i3, hk, hl⟩ := hv
  obtain ⟨ak, ck, rfl, hkl⟩ := hk.open'
  obtain ⟨al, cl, rfl, hll⟩ := hl.open'
  obtain ⟨k', n', s', ak', lk', ck', al', ll', cl', rfl⟩ := hx.shape
  obtain ⟨k0, k1, k2, hW0, hsz0⟩ := laid3 w 26 26 26 (.int .i64 t.kind) (.int .i64 t.num) (.string t.str) (.slice ak t.keys.length ck) (.slice al t.list.length cl) (.int .i64 k') (.int .i64 n') (.string s') (.slice ak' lk' ck') (.slice al' ll' cl') (.int .i64 0) (.int .i64 0) (.string { data := #[] }) (.slice none 0 0) (.slice none 0 0)
  obtain ⟨W0, hW⟩ : ∃ W0, W0 = ((w.alloc (.cells #[.int .i64 t.kind, .int .i64 t.num, .string t.str, .slice ak t.keys.length ck, .slice al t.list.length cl] 26)).alloc (.cells #[.int .i64 k', .int .i64 n', .string s', .slice ak' lk' ck', .slice al' ll' cl'] 26)).alloc (.cells #[.int .i64 0, .int .i64 0, .string { data := #[] }, .slice none 0 0, .slice none 0 0] 26) := ⟨_, rfl⟩
  rw [← hW] at k0 k1 k2 hW0 hsz0
  have HW := hide hW
  have HSZ := hide hsz0
  clear hW hk hl hsz0
  go_enter Tryz.func97, Tryz.ntmps97
  go_wp2_with fail
  rw [← HW.out]
  clear HW
  refine (specValOk_any (d + 2) S t _ W0 (hv0.same (hS.same hW0)) (hS.later hW0.size) hsm).mono ?_
  rintro e w1 ⟨rfl, hb1⟩
  replace k0 := k0.below hb1
  replace k1 := k1.below hb1
  replace k2 := k2.below hb1
  have hB1 := below_trans hW0 hb1
  have hlt : w.heap.size + 1 + 1 < w1.heap.size := k2.lt
  clear hb1 hW0
  -- the end, where it can not be done
  have hno : ∀ wn, Below w.heap.size w wn → Hid (∀ wF, wF = set5 wn (w.heap.size + 1 + 1) 0 (.int .i64 0) (.int .i64 0) (.string { data := #[] }) (.slice none 0 0) (.slice none 0 0) → Below w.heap.size w wF) := by
    intro wn hn wF hF
    rw [hF]
    exact below_set5 hn (by omega) _ _ _ _ _ _
  cases hf : okT (d + 2) t with
  | false =>
    have hz : Hid (partSetT d t i x = (zeroT (d + 1), false)) := partSet_none (by rw [rowL, if_neg (by rw [hf]; simp)])
    have HN := hno w1 hB1
    obtain ⟨y0, y1, y2, y3, y4⟩ := k2.cell
    have yf := k2.frozen
    clear k0 k1 k2 hB1 hv0 hx hno
    go_wp2_with fail
    rw [hz.out]
    refine bodyPost_ret (v := .tuple #[zeroVal, .bool false]) (by simp [results, Tryz.results97, go_sem, zeroVal, y0, y1, y2, y3, y4]; rfl) rfl ⟨_, rfl, zeroVal_own (d + 1) _ _, HN.out _ rfl⟩
  | true =>
    obtain ⟨x0, x1, x2, x3, x4⟩ := k1.cell
    go_wp2_with fail
    refine (specValOk_any (d + 1) S2 x _ w1 (hx.same (hS2.same hB1)) (hS2.later hB1.size) hsx).mono ?_
    rintro e w2 ⟨rfl, hb2⟩
    replace k0 := k0.below hb2
    replace k1 := k1.below hb2
    replace k2 := k2.below hb2
    have hB2 := below_trans hB1 hb2
    have hlt2 : w.heap.size + 1 + 1 < w2.heap.size := k2.lt
    clear hb2 hB1 x0 x1 x2 x3 x4
    obtain ⟨y0, y1, y2, y3, y4⟩ := k2.cell
    have yf := k2.frozen
    cases hfx : okT (d + 1) x with
    | false =>
      have hz : Hid (partSetT d t i x = (zeroT (d + 1), false)) := partSet_badx hfx
      have HN := hno w2 hB2
      clear k0 k1 k2 hB2 hv0 hx hno
      go_wp2_with fail
      rw [hz.out]
      refine bodyPost_ret (v := .tuple #[zeroVal, .bool false]) (by simp [results, Tryz.results97, go_sem, zeroVal, y0, y1, y2, y3, y4]; rfl) rfl ⟨_, rfl, zeroVal_own (d + 1) _ _, HN.out _ rfl⟩
    | true =>
      obtain ⟨x0, x1, x2, x3, x4⟩ := k0.cell
      obtain ⟨_, hl60, _⟩ := okT_kinds hf
      have hl60 : t.list.length ≤ 60 := hl60
      by_cases hkind : t.kind = 0 ∨ t.kind = 5
      · have hrow := hide (rowL_eq hf hkind)
        obtain ⟨hi1, hi2⟩ := hi
        by_cases hfar : 60 ≤ i ∨ i < -(t.list.length : Int)
        · have hz : Hid (partSetT d t i x = (zeroT (d + 1), false)) := partSet_far hf hkind hfar
          have HN := hno w2 hB2
          clear k0 k1 k2 hB2 hv0 hx hno hrow
          rcases hkind with hq | hq
          · have q0 : (t.kind != 0) = false := by simpa using hq
            clear hq
            by_cases h60 : 60 ≤ i
            · clear hfar
              go_wp2_with fail
              rw [hz.out]
              refine bodyPost_ret (v := .tuple #[zeroVal, .bool false]) (by simp [results, Tryz.results97, go_sem, zeroVal, y0, y1, y2, y3, y4]; rfl) rfl ⟨_, rfl, zeroVal_own (d + 1) _ _, HN.out _ rfl⟩
            · have hlo : i < -(t.list.length : Int) := by omega
              clear hfar
              go_wp2_with fail
              rw [hz.out]
              refine bodyPost_ret (v := .tuple #[zeroVal, .bool false]) (by simp [results, Tryz.results97, go_sem, zeroVal, y0, y1, y2, y3, y4]; rfl) rfl ⟨_, rfl, zeroVal_own (d + 1) _ _, HN.out _ rfl⟩
          · have q0 : (t.kind != 0) = true := by simp [hq]
            have q5 : (t.kind != 5) = false := by simpa using hq
            clear hq
            by_cases h60 : 60 ≤ i
            · clear hfar
              go_wp2_with fail
              rw [hz.out]
              refine bodyPost_ret (v := .tuple #[zeroVal, .bool false]) (by simp [results, Tryz.results97, go_sem, zeroVal, y0, y1, y2, y3, y4]; rfl) rfl ⟨_, rfl, zeroVal_own (d + 1) _ _, HN.out _ rfl⟩
            · have hlo : i < -(t.list.length : Int) := by omega
              clear hfar
              go_wp2_with fail
              rw [hz.out]
              refine bodyPost_ret (v := .tuple #[zeroVal, .bool false]) (by simp [results, Tryz.results97, go_sem, zeroVal, y0, y1, y2, y3, y4]; rfl) rfl ⟨_, rfl, zeroVal_own (d + 1) _ _, HN.out _ rfl⟩
        · obtain ⟨j, hj⟩ : ∃ j : Nat, (j : Int) = if i < 0 then i + (t.list.length : Int) else i := ⟨(if i < 0 then i + (t.list.length : Int) else i).toNat, by split <;> omega⟩
          have hj60 : j < 60 := by split at hj <;> omega
          have hR : Hid (partSetT d t i x = (toldT (d + 1) (rowT (d + 1) (setL t.list (zeroT d) j x)), okT (d + 2) (rowT (d + 1) (setL t.list (zeroT d) j x)))) := by
            have := partSet_in hrow.out hfx hj (by omega) (by omega)
            rw [Int.toNat_natCast] at this
            exact this
          have hnod := nodes_set (k := j) (fun y hy => okT_part hf hy) hfx hl60 hj60
          have hvU : ValAt (fun b => S b ∨ S2 b) w2 (d + 2) t (.agg #[.int .i64 t.kind, .int .i64 t.num, .string t.str, .slice ak t.keys.length ck, .slice al t.list.length cl]) := (hv0.same (hS.same hB2)).mono (fun b hb => Or.inl hb)
          have hxU : ValAt (fun b => S b ∨ S2 b) w2 (d + 1) x (.agg #[.int .i64 k', .int .i64 n', .string s', .slice ak' lk' ck', .slice al' ll' cl']) := (hx.same (hS2.same hB2)).mono (fun b hb => Or.inr hb)
          have hWU : Within (fun b => S b ∨ S2 b) w2 := fun b hb => by
            rcases hb with hb | hb
            · exact hS.later hB2.size b hb
            · exact hS2.later hB2.size b hb
          have hcall := hide (l2Set_any d (fun b => S b ∨ S2 b) t _ x _ j w2 hvU hxU hWU hj60 hl60)
          have hn1 : ¬ (60 ≤ i) := by omega
          have hn2 : ¬ (i < -(t.list.length : Int)) := by omega
          obtain ⟨z0, z1, z2, z3, z4⟩ := k1.cell
          have HJ := hide hj
          clear hv0 hx hno hrow hfar hvU hxU k0 k1 hj hfx
          rcases hkind with hq | hq
          all_goals
            first
              | (have q0 : (t.kind != 0) = false := (by simpa using hq))
              | (have q0 : (t.kind != 0) = true := (by simp [hq]); have q5 : (t.kind != 5) = false := (by simpa using hq))
            clear hq
            by_cases hneg : i < 0
            · have hji : i + (t.list.length : Int) = (j : Int) := by rw [HJ.out, if_pos hneg]
              have HJI := hide hji
              clear hji HJ
              go_wp2_with fail
              rw [HJI.out]
              refine Calls.mono hcall.out ?_
              rintro e w3 ⟨u, rfl, hu, hb3⟩
              obtain ⟨u0, u1, u2, u3, u4, u5, u6, u7, u8, rfl⟩ := hu.shape
              have hB3 := below_trans hB2 hb3
              have k3 := k2.below hb3
              have hWU3 : Within (fun b => (S b ∨ S2 b) ∨ Fresh w2 w3 b) w3 := fun b hb => by
                rcases hb with hb | hb
                · exact Nat.lt_of_lt_of_le (hWU b hb) hb3.size
                · exact hb.2
              have hcall2 := hide (l2Told_own (d + 1) _ _ _ w3 hu hWU3 hnod)
              have hlt3 : w.heap.size + 1 + 1 < w3.heap.size := k3.lt
              clear hu hWU3 hcall hb3 x0 x1 x2 x3 x4 y0 y1 y2 y3 y4 yf z0 z1 z2 z3 z4
              go_wp2_with fail
              refine Calls.mono hcall2.out ?_
              rintro e w4 ⟨r, rfl, hr, hb4⟩
              obtain ⟨r0, r1, r2, r3, r4, r5, r6, r7, r8, rfl⟩ := (ValOwn.at _ _ _ _ hr).shape
              have HF := hide (tell_end hr (below_trans hB3 hb4) (by omega) hlt3)
              have k4 := k3.below hb4
              obtain ⟨y0, y1, y2, y3, y4⟩ := k4.cell
              have yf := k4.frozen
              clear hr hb4 k3 k4 hcall2 hB3
              go_wp2_with fail
              rw [hR.out]
              exact bodyPost_ret (v := .tuple #[.agg #[.int .i64 r0, .int .i64 r1, .string r2, .slice r3 r4 r5, .slice r6 r7 r8], .bool (okT (d + 2) (rowT (d + 1) (setL t.list (zeroT d) j x)))]) (by simp [results, Tryz.results97, go_sem, y0, y1, y2, y3, y4]) rfl ⟨_, rfl, (HF.out _ rfl).1, (HF.out _ rfl).2⟩
            · have hji : i = (j : Int) := by rw [HJ.out, if_neg hneg]
              have HJI := hide hji
              clear hji HJ
              go_wp2_with fail
              rw [HJI.out]
              refine Calls.mono hcall.out ?_
              rintro e w3 ⟨u, rfl, hu, hb3⟩
              obtain ⟨u0, u1, u2, u3, u4, u5, u6, u7, u8, rfl⟩ := hu.shape
              have hB3 := below_trans hB2 hb3
              have k3 := k2.below hb3
              have hWU3 : Within (fun b => (S b ∨ S2 b) ∨ Fresh w2 w3 b) w3 := fun b hb => by
                rcases hb with hb | hb
                · exact Nat.lt_of_lt_of_le (hWU b hb) hb3.size
                · exact hb.2
              have hcall2 := hide (l2Told_own (d + 1) _ _ _ w3 hu hWU3 hnod)
              have hlt3 : w.heap.size + 1 + 1 < w3.heap.size := k3.lt
              clear hu hWU3 hcall hb3 x0 x1 x2 x3 x4 y0 y1 y2 y3 y4 yf z0 z1 z2 z3 z4
              go_wp2_with fail
              refine Calls.mono hcall2.out ?_
              rintro e w4 ⟨r, rfl, hr, hb4⟩
              obtain ⟨r0, r1, r2, r3, r4, r5, r6, r7, r8, rfl⟩ := (ValOwn.at _ _ _ _ hr).shape
              have HF := hide (tell_end hr (below_trans hB3 hb4) (by omega) hlt3)
              have k4 := k3.below hb4
              obtain ⟨y0, y1, y2, y3, y4⟩ := k4.cell
              have yf := k4.frozen
              clear hr hb4 k3 k4 hcall2 hB3
              go_wp2_with fail
              rw [hR.out]
              exact bodyPost_ret (v := .tuple #[.agg #[.int .i64 r0, .int .i64 r1, .string r2, .slice r3 r4 r5, .slice r6 r7 r8], .bool (okT (d + 2) (rowT (d + 1) (setL t.list (zeroT d) j x)))]) (by simp [results, Tryz.results97, go_sem, y0, y1, y2, y3, y4]) rfl ⟨_, rfl, (HF.out _ rfl).1, (HF.out _ rfl).2⟩
      · have n0 : t.kind ≠ 0 := fun h => hkind (Or.inl h)
        have n5 : t.kind ≠ 5 := fun h => hkind (Or.inr h)
        have hz : Hid (partSetT d t i x = (zeroT (d + 1), false)) := partSet_kind hf n0 n5
        have HN := hno w2 hB2
        have q0 : (t.kind != 0) = true := by simpa using n0
        have q5 : (t.kind != 5) = true := by simpa using n5
        clear k0 k1 k2 hB2 hv0 hx hno hkind n0 n5
        go_wp2_with fail
        rw [hz.out]
        refine bodyPost_ret (v := .tuple #[zeroVal, .bool false]) (by simp [results, Tryz.results97, go_sem, zeroVal, y0, y1, y2, y3, y4]; rfl) rfl ⟨_, rfl, zeroVal_own (d + 1) _ _, HN.out _ rfl⟩
end Go.Proofs.YtmibjmipndffmaaGreatDoor

/- treesInRow: the trees of a row, in memory of their own. -/
namespace Go.Proofs.YtmibjmipndffmaaGreatDoor
open Go.RowKit Go.Deep

/-- The trees of a row that is ok. -/
def treesL (d : Nat) (t : Tr (d + 1)) : Option (List (Tr d)) := if okT (d + 1) t = true then (if Nd.kind t = 5 then some (Nd.list t) else none) else none
theorem treesL_ok {d : Nat} {t : Tr (d + 1)} (h : okT (d + 1) t = true) : treesL d t = (if Nd.kind t = 5 then some (Nd.list t) else none) := if_pos h
theorem treesL_some {d : Nat} {t : Tr (d + 1)} {xs : List (Tr d)} (h : treesL d t = some xs) : okT (d + 1) t = true ∧ Nd.kind t = 5 ∧ Nd.list t = xs := by
  unfold treesL at h
  split at h
  · split at h
    · exact ⟨‹_›, ‹_›, by cases h; rfl⟩
    · cases h
  · cases h

/-- What treesInRow is asked to give. -/
def TreesOQ (d : Nat) (t : Tr (d + 1)) (w : World) (e : Ending) (w' : World) : Prop :=
  Below w.heap.size w w' ∧ ((∃ xs a cap vs, treesL d t = some xs ∧ e = .returned (.tuple #[.slice a xs.length cap, .nilIface]) ∧ GTo w.heap.size w' (.slice a xs.length cap) xs vs) ∨ (treesL d t = none ∧ ∃ why, e = .returned (.tuple #[.slice none 0 0, faultV why])))

set_option maxRecDepth 100000 in
set_option maxHeartbeats 4000000 in
theorem treesInRow_own (d : Nat) (S : Nat → Prop) (t : Tr (d + 1)) (v : Value) (w : World) (hv : ValAt S w (d + 1) t v) (hS : Within S w) :
    Calls Tryz.prog 109 #[v] w (TreesOQ d t w) := by
  obtain ⟨k, n, s, ak, lk, ck, al, ll, cl, rfl⟩ := hv.shape
  have hA := below_alloc1 w (.cells #[.int .i64 k, .int .i64 n, .string s, .slice ak lk ck, .slice al ll cl] 26)
  have hAs := hA.size
  go_enter Tryz.func109, Tryz.ntmps109
  go_wp2_with fail
  refine (given_own d S t _ _ (hv.same (hS.same hA)) (hS.later hA.size)).mono ?_
  rintro e w1 ⟨hb1, hq⟩
  have hB := below_trans hA hb1
  clear hb1 hA hv
  rcases hq with ⟨hok, u, rfl, hu, htop⟩ | ⟨hok, why, rfl⟩
  · rcases hu with ⟨k', h1, rfl, rfl⟩ | ⟨n', h1, rfl, rfl⟩ | ⟨s', h1, rfl, rfl⟩ | ⟨xs, sv, h1, rfl, rfl, hr⟩ | ⟨keys, xs, ps, r, es, h1, h2, h3, h4, rfl, rfl, hr, hm, he⟩
    · have a3 := Tryz.asR_B
      have hq : Hid (treesL d (Nd.mk k' 0 ByteArray.empty [] [] : Nd (Tr d)) = none) := by
        refine (treesL_ok hok).trans ?_
        show (if k' = 5 then _ else _) = _
        rw [if_neg (by omega)]
      have HB := hide hB
      clear hB htop
      go_wp2_with fail
      go_ret2
      exact ⟨below_trans HB.out (below_alloc1 _ _), Or.inr ⟨hq.out, _, rfl⟩⟩
    · have a3 := Tryz.asR_N
      have hq : Hid (treesL d (Nd.mk 3 n' ByteArray.empty [] [] : Nd (Tr d)) = none) := by
        exact (treesL_ok hok).trans rfl
      have HB := hide hB
      clear hB htop
      go_wp2_with fail
      go_ret2
      exact ⟨below_trans HB.out (below_alloc1 _ _), Or.inr ⟨hq.out, _, rfl⟩⟩
    · have a3 := Tryz.asR_S
      have hq : Hid (treesL d (Nd.mk 4 0 s' [] [] : Nd (Tr d)) = none) := by
        exact (treesL_ok hok).trans rfl
      have HB := hide hB
      clear hB htop
      go_wp2_with fail
      go_ret2
      exact ⟨below_trans HB.out (below_alloc1 _ _), Or.inr ⟨hq.out, _, rfl⟩⟩
    · have a3 := Tryz.asR_R
      obtain ⟨sa, sc, rfl, _⟩ := hr.open'
      have hq : Hid (treesL d (Nd.mk 5 0 ByteArray.empty [] xs : Nd (Tr d)) = some xs) := by
        exact (treesL_ok hok).trans rfl
      have hA2 := below_alloc1 w1 (.cells #[.slice sa xs.length sc] 148)
      have HB2 := hide (below_trans hB hA2)
      have hsz := hA2.size
      have HR : Hid (∃ vs, GTo w.heap.size (w1.alloc (.cells #[.slice sa xs.length sc] 148)) (.slice sa xs.length sc) xs vs) := by
        obtain ⟨sv', vs, he, hto⟩ := htop.1 rfl
        cases he
        exact ⟨vs, (gto_of (hto.moved hA2 (by omega)) (okT_row hok))⟩
      clear hB hA2 hr htop
      go_wp2_with fail
      go_ret2
      obtain ⟨vs, hvs⟩ := HR.out
      exact ⟨HB2.out, Or.inl ⟨xs, sa, sc, vs, hq.out, rfl, hvs⟩⟩
    · have a3 := Tryz.asR_M
      have hq : Hid (treesL d (Nd.mk 6 0 ByteArray.empty keys xs : Nd (Tr d)) = none) := by
        exact (treesL_ok hok).trans rfl
      have HB := hide hB
      clear hB htop he hm hr h4 h3 h2
      go_wp2_with fail
      go_ret2
      exact ⟨below_trans HB.out (below_alloc1 _ _), Or.inr ⟨hq.out, _, rfl⟩⟩
  · unfold faultV
    go_wp2_with fail
    go_ret2
    refine ⟨hB, Or.inr ⟨?_, why, rfl⟩⟩
    rw [treesL, if_neg (by rw [hok]; simp)]

end Go.Proofs.YtmibjmipndffmaaGreatDoor

/- Rows of trees: what is told of the trees of a row. -/
namespace Go.Proofs.YtmibjmipndffmaaGreatDoor
open Go.RowKit Go.Deep

/-- What is told of a row, f being what is told of its trees. -/
def rowTell {d e : Nat} (f : List (Tr d) → Option (Tr (e + 1))) (t : Tr (d + 1)) : Tr (e + 1) × Bool :=
  match treesL d t with
  | none => (zeroT e, false)
  | some xs =>
    match f xs with
    | none => (zeroT e, false)
    | some x => (toldT e x, okT (e + 1) x)
theorem okT_rowTell {d e : Nat} (f : List (Tr d) → Option (Tr (e + 1))) (t : Tr (d + 1)) : okT (e + 1) (rowTell f t).1 = true := by
  unfold rowTell
  split
  · exact okT_zero _
  · split
    · exact okT_zero _
    · exact okT_told _ _
theorem rowTell_none {d e : Nat} {f : List (Tr d) → Option (Tr (e + 1))} {t : Tr (d + 1)} (h : treesL d t = none) : rowTell f t = (zeroT e, false) := by
  unfold rowTell
  rw [h]
theorem rowTell_fault {d e : Nat} {f : List (Tr d) → Option (Tr (e + 1))} {t : Tr (d + 1)} {xs : List (Tr d)} (h : treesL d t = some xs) (hf : f xs = none) : rowTell f t = (zeroT e, false) := by
  unfold rowTell
  rw [h]
  show (match f xs with | none => _ | some x => _) = _
  rw [hf]
theorem rowTell_some {d e : Nat} {f : List (Tr d) → Option (Tr (e + 1))} {t : Tr (d + 1)} {xs : List (Tr d)} {x : Tr (e + 1)} (h : treesL d t = some xs) (hf : f xs = some x) : rowTell f t = (toldT e x, okT (e + 1) x) := by
  unfold rowTell
  rw [h]
  show (match f xs with | none => _ | some x => _) = _
  rw [hf]
/-- Rows of trees that are ok are small. -/
theorem nodes_row {d : Nat} {xs : List (Tr d)} (hxs : ∀ x ∈ xs, okT d x = true) (hl : xs.length ≤ 10000) : (nodes (d + 1) (rowT d xs) : Int) ≤ 4194304 := by
  have h1 : (xs.map (nodes d)).sum ≤ 300 * xs.length := sum_le_of (fun x hx => nodes_ok (hxs x hx))
  have h2 : nodes (d + 1) (rowT d xs) = 1 + (xs.map (nodes d)).sum := rfl
  rw [h2]
  omega
/-- What a function that tells of the trees of a row is asked to give. -/
def TellF (e N : Nat) (r : Option (Tr (e + 1))) (w : World) (en : Ending) (w' : World) : Prop :=
  Below N w w' ∧ ((∃ x u, r = some x ∧ en = .returned (.tuple #[u, .nilIface]) ∧ TreeG (fun b => N ≤ b ∧ b < w'.heap.size) w' (e + 1) x u) ∨ (r = none ∧ ∃ why, en = .returned (.tuple #[.nilIface, faultV why])))

end Go.Proofs.YtmibjmipndffmaaGreatDoor
