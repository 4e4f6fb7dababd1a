/- PartAt of the model. Of what is right. -/
import Derived.Test.YtlpembhdojdomaaGreatDoorWPartP
import Derived.Test.YtlpembhdojdomaaGreatDoorWCopy
namespace Go.Proofs.YtlpembhdojdomaaGreatDoor
open Go.RowKit Go.Deep

theorem l2Place_any (i : Int) (n : Nat) (hi : I64 i) (hn : n ≤ 60) (w : World) : Calls Tryz.prog 94 #[.int .i64 i, .int .i64 n] w fun e w' => e = .returned (.int .i64 (placeI i n)) ∧ w' = w := by
  obtain ⟨hi1, hi2⟩ := hi
  by_cases h1 : i < -(n : Int)
  · have hm : Hid (placeI i n = -1) := by
      show placeI i n = -1
      unfold placeI
      rw [if_pos (Or.inl h1)]
    go_enter Tryz.func94, Tryz.ntmps94
    go_wp2_with fail
    go_ret
    rw [hm.out]
    exact ⟨rfl, rfl⟩
  by_cases h2 : (n : Int) ≤ i
  · have hm : Hid (placeI i n = -1) := by
      show placeI i n = -1
      unfold placeI
      rw [if_pos (Or.inr h2)]
    go_enter Tryz.func94, Tryz.ntmps94
    go_wp2_with fail
    go_ret
    rw [hm.out]
    exact ⟨rfl, rfl⟩
  by_cases h3 : i < 0
  · have hm : Hid (placeI i n = i + n) := by
      show placeI i n = i + n
      unfold placeI
      rw [if_neg (by omega), if_pos h3]
    go_enter Tryz.func94, Tryz.ntmps94
    go_wp2_with fail
    go_ret
    rw [hm.out]
    exact ⟨rfl, rfl⟩
  · have hm : Hid (placeI i n = i) := by
      show placeI i n = i
      unfold placeI
      rw [if_neg (by omega), if_neg h3]
    go_enter Tryz.func94, Tryz.ntmps94
    go_wp2_with fail
    go_ret
    rw [hm.out]
    exact ⟨rfl, rfl⟩

set_option maxRecDepth 100000 in
set_option maxHeartbeats 4000000 in
theorem l2At_any (d : Nat) (S : Nat → Prop) (t : Tr (d + 2)) (v : Value) (i : Int) (w : World) (hv : ValAt S w (d + 2) t v) (hS : Within S w) (hi : I64 i) (hok : okT (d + 2) t = true) :
    Calls Tryz.prog 80 #[v, .int .i64 i] w fun e w' => ∃ u, e = .returned (.tuple #[u, .bool (partAtT d t i).2]) ∧ ValAt S w' (d + 1) (partAtT d t i).1 u ∧ Below w.heap.size w w' := by
  have hv0 := hv
  obtain ⟨vk, vl, rfl, i1, i2, i3, hk, hl⟩ := hv
  obtain ⟨ak, ck, rfl, hkl⟩ := hk.open'
  obtain ⟨al, cl, rfl, hll⟩ := hl.open'
  obtain ⟨hkinds, hl60, _⟩ := okT_kinds hok
  have hl60 : t.list.length ≤ 60 := hl60
  clear hkinds
  have hB1 := hide (below_trans (below_alloc1 w (.cells #[.int .i64 t.kind, .int .i64 t.num, .string t.str, .slice ak t.keys.length ck, .slice al t.list.length cl] 29)) (below_alloc1 _ (.cells #[.int .i64 t.kind, .int .i64 t.num, .string t.str, .slice ak t.keys.length ck, .slice al t.list.length cl] 29)))
  have hB2 := hide (below_trans (below_alloc1 w (.cells #[.int .i64 t.kind, .int .i64 t.num, .string t.str, .slice ak t.keys.length ck, .slice al t.list.length cl] 29)) (below_alloc1 _ (.cells #[.int .i64 0, .int .i64 0, .string { data := #[] }, .slice none 0 0, .slice none 0 0] 29)))
  by_cases e0 : t.kind = 0
  · have q0 : (t.kind == 0) = true := by simpa using e0
    have hz : Hid (partAtT d t i = (zeroT d, true)) := by
      show partAtT d t i = _
      rw [partAtT, if_pos hok, if_pos e0]
    have HV := hide (valAt_zero hok e0 hv0)
    clear e0 hk hl hv0 hB2
    go_enter Tryz.func80, Tryz.ntmps80
    go_wp2_with fail
    rw [hz.out]
    exact bodyPost_ret (v := .tuple #[.agg #[.int .i64 t.kind, .int .i64 t.num, .string t.str, .slice ak t.keys.length ck, .slice al t.list.length cl], .bool true]) (by simp [results, Tryz.results80, go_sem]) rfl ⟨_, rfl, HV.out.same (hS.same hB1.out), hB1.out⟩
  have q0 : (t.kind == 0) = false := by simpa using e0
  by_cases e5 : t.kind = 5
  · have q5 : (t.kind != 5) = false := by simpa using e5
    rcases placeI_range i t.list.length with hp | ⟨hp1, hp2⟩
    · have hz : Hid (partAtT d t i = (zeroT d, true)) := by
        show partAtT d t i = _
        rw [partAtT, if_pos hok, if_neg e0, if_pos e5]
        unfold placeL
        rw [if_pos (by rw [hp]; omega)]
        rfl
      have HP := hide hp
      clear e0 e5 hk hl hv0 hB1 hp
      go_enter Tryz.func80, Tryz.ntmps80
      go_wp2_with fail
      refine (l2Place_any i t.list.length hi hl60 _).mono ?_
      rintro e w1 ⟨rfl, rfl⟩
      rw [HP.out]
      go_wp2_with fail
      rw [hz.out]
      exact bodyPost_ret (v := .tuple #[zeroVal, .bool true]) (by simp [results, Tryz.results80, go_sem, zeroVal]; rfl) rfl ⟨_, rfl, zeroAt d _ _, hB2.out⟩
    · obtain ⟨k, hk1⟩ : ∃ k : Nat, placeI i t.list.length = (k : Int) := ⟨(placeI i t.list.length).toNat, by omega⟩
      rw [hk1] at hp1 hp2
      have hkl : k < t.list.length := by omega
      obtain ⟨eb, eo, x, c0, c1, c2, c3, c4, rfl, heS, hx, f0, f1, f2, f3, f4, hval⟩ := hl.cell hkl
      have hz : Hid (partAtT d t i = (x, true)) := by
        show partAtT d t i = _
        rw [partAtT, if_pos hok, if_neg e0, if_pos e5]
        unfold placeL
        rw [hk1, if_neg (by omega), Int.toNat_natCast, hx]
        rfl
      obtain ⟨q0', q1', q2', q3', q4', q5', q6', q7', q8', hq⟩ := hval.shape
      cases hq
      have hebl := hS eb heS
      have HP := hide hk1
      have HV := hide hval
      have hki : (k : Int) < (t.list.length : Int) := by omega
      clear e0 e5 hk hl hv0 hB1 hk1 hval hx
      go_enter Tryz.func80, Tryz.ntmps80
      go_wp2_with fail
      refine (l2Place_any i t.list.length hi hl60 _).mono ?_
      rintro e w1 ⟨rfl, rfl⟩
      rw [HP.out]
      go_wp2_with fail
      rw [hz.out]
      have hB := below_trans (below_alloc1 w (.cells #[.int .i64 t.kind, .int .i64 t.num, .string t.str, .slice ak t.keys.length ck, .slice (some ⟨eb, eo, none⟩) t.list.length cl] 29)) (below_alloc1 _ (.cells #[.int .i64 q0', .int .i64 q1', .string q2', .slice q3' q4' q5', .slice q6' q7' q8'] 29))
      exact bodyPost_ret (v := .tuple #[.agg #[.int .i64 q0', .int .i64 q1', .string q2', .slice q3' q4' q5', .slice q6' q7' q8'], .bool true]) (by simp [results, Tryz.results80, go_sem]) rfl ⟨_, rfl, HV.out.same (hS.same hB), hB⟩
  · have q5 : (t.kind != 5) = true := by simpa using e5
    have hz : Hid (partAtT d t i = (zeroT d, false)) := by
      show partAtT d t i = _
      rw [partAtT, if_pos hok, if_neg e0, if_neg e5]
    clear e0 e5 hk hl hv0 hB1
    go_enter Tryz.func80, Tryz.ntmps80
    go_wp2_with fail
    rw [hz.out]
    exact bodyPost_ret (v := .tuple #[zeroVal, .bool false]) (by simp [results, Tryz.results80, go_sem, zeroVal]; rfl) rfl ⟨_, rfl, zeroAt d _ _, hB2.out⟩
end Go.Proofs.YtlpembhdojdomaaGreatDoor
