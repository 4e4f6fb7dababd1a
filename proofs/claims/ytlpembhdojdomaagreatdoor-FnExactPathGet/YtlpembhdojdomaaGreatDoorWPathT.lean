/- PathGet of the model. -/
import Derived.Test.YtlpembhdojdomaaGreatDoorWPathS
namespace Go.Proofs.YtlpembhdojdomaaGreatDoor
open Go.RowKit Go.Deep

set_option maxRecDepth 100000 in
set_option maxHeartbeats 4000000 in
theorem specPathGet_any (d : Nat) (S : Nat → Prop) (t : Tr (d + 2)) (v : Value) (S' : Nat → Prop) (ps : List Stp) (v' : Value) (w : World) (hv : ValAt S w (d + 2) t v) (hS : Within S w) (hv' : StepsAt S' w v' ps) (hS' : Within S' w) (hsm : (nodes (d + 2) t : Int) ≤ 4194304) :
    Calls Tryz.prog 20 #[v, v'] w (SpecQ (d + 1) (pathGetT d t ps).1 (pathGetT d t ps).2 w) := by
  obtain ⟨k, n, s, ak, lk, ck, al, ll, cl, rfl⟩ := hv.shape
  obtain ⟨a, cap, rfl, hlen⟩ := hv'.open'
  obtain ⟨W0, hW⟩ : ∃ W0, W0 = (w.alloc (.cells #[.int .i64 k, .int .i64 n, .string s, .slice ak lk ck, .slice al ll cl] 29)).alloc (.cells #[.int .i64 0, .int .i64 0, .string { data := #[] }, .slice none 0 0, .slice none 0 0] 29) := ⟨_, rfl⟩
  have hW0 : Below w.heap.size w W0 := by rw [hW]; exact below_trans (below_alloc1 _ _) (below_alloc1 _ _)
  have k0 : Blk5 W0 w.heap.size 29 (.int .i64 k) (.int .i64 n) (.string s) (.slice ak lk ck) (.slice al ll cl) := by
    rw [hW]; exact (Blk5.new w 29 _ _ _ _ _).alloc _
  have k1 : Blk5 W0 (w.heap.size + 1) 29 (.int .i64 0) (.int .i64 0) (.string { data := #[] }) (.slice none 0 0) (.slice none 0 0) := by
    have := Blk5.new (w.alloc (.cells #[.int .i64 k, .int .i64 n, .string s, .slice ak lk ck, .slice al ll cl] 29)) 29 (.int .i64 0) (.int .i64 0) (.string { data := #[] }) (.slice none 0 0) (.slice none 0 0)
    rw [World.size_alloc] at this
    rw [hW]
    exact this
  have HW := hide hW
  clear hW
  go_enter Tryz.func20, Tryz.ntmps20
  go_wp2_with fail
  rw [← HW.out]
  clear HW
  refine (specValOk_any (d + 2) S t _ W0 (hv.same (hS.same hW0)) (hS.later hW0.size) hsm).mono ?_
  rintro e w1 ⟨rfl, hb1⟩
  replace k0 := k0.below hb1
  replace k1 := k1.below hb1
  have hB1 := below_trans hW0 hb1
  have hlt := k1.lt
  have hno : ∀ w1, Below w.heap.size w w1 → Hid (∀ wF, wF = set5 w1 (w.heap.size + 1) 0 (.int .i64 0) (.int .i64 0) (.string { data := #[] }) (.slice none 0 0) (.slice none 0 0) → Below w.heap.size w wF) := by
    intro w1 hB1 wF hF
    rw [hF]
    exact below_set5 hB1 (by omega) _ _ _ _ _ _
  clear hb1 hW0
  cases hf : okT (d + 2) t with
  | false =>
    have hz : Hid (pathGetT d t ps = (zeroT (d + 1), false)) := by
      show pathGetT d t ps = _
      rw [pathGetT, if_neg (by rw [hf]; simp)]
    have hN := hno w1 hB1
    obtain ⟨y0, y1, y2, y3, y4⟩ := k1.cell
    have yf := k1.frozen
    clear k0 k1 hB1 hv hno
    go_wp2_with fail
    rw [hz.out]
    refine bodyPost_ret (v := .tuple #[zeroVal, .bool false]) (by simp [results, Tryz.results20, go_sem, zeroVal, y0, y1, y2, y3, y4]; rfl) rfl ⟨_, rfl, zeroAt (d + 1) _ _, hN.out _ rfl⟩
  | true =>
    go_wp2_with fail
    refine (specPathOk_any S' ps _ w1 (hv'.same (hS'.same hB1)) (hS'.later hB1.size)).mono ?_
    rintro e w2 ⟨rfl, hb2⟩
    replace k0 := k0.below hb2
    replace k1 := k1.below hb2
    have hB2 := below_trans hB1 hb2
    clear hb2 hB1
    cases hpo : pathOk ps with
    | false =>
      have hz : Hid (pathGetT d t ps = (zeroT (d + 1), false)) := by
        show pathGetT d t ps = _
        rw [pathGetT, if_neg (by rw [hpo]; simp)]
      have hN := hno w2 hB2
      obtain ⟨y0, y1, y2, y3, y4⟩ := k1.cell
      have yf := k1.frozen
      clear k0 k1 hB2 hv hno
      go_wp2_with fail
      rw [hz.out]
      refine bodyPost_ret (v := .tuple #[zeroVal, .bool false]) (by simp [results, Tryz.results20, go_sem, zeroVal, y0, y1, y2, y3, y4]; rfl) rfl ⟨_, rfl, zeroAt (d + 1) _ _, hN.out _ rfl⟩
    | true =>
      have hz : Hid (pathGetT d t ps = alongT d t ps) := by
        show pathGetT d t ps = _
        rw [pathGetT, if_pos ⟨hf, hpo⟩]
      have hokR := hide (okT_along d ps t hf)
      obtain ⟨x0, x1, x2, x3, x4⟩ := k0.cell
      clear hno
      go_wp2_with fail
      refine (l3Get_any d S t _ S' ps _ w2 (hv.same (hS.same hB2)) (hS.later hB2.size) (hv'.same (hS'.same hB2)) (hS'.later hB2.size) hf hpo).mono ?_
      rintro e w3 ⟨u, rfl, hu, hb3⟩
      obtain ⟨q0, q1, q2, q3, q4, q5, q6, q7, q8, rfl⟩ := hu.shape
      replace k1 := k1.below hb3
      have hB3 := below_trans hB2 hb3
      have hlt2 := k1.lt
      clear hb3 hB2 k0 x0 x1 x2 x3 x4 hlt
      have hA := below_alloc1 w3 (.cells #[.int .i64 q0, .int .i64 q1, .string q2, .slice q3 q4 q5, .slice q6 q7 q8] 29)
      have k2 := k1.alloc (.cells #[.int .i64 q0, .int .i64 q1, .string q2, .slice q3 q4 q5, .slice q6 q7 q8] 29)
      have hlt3 := k2.lt
      have hB4 := below_trans hB3 hA
      have hwt := wtT_ok hokR.out
      go_wp2_with fail
      refine (l1Copy_any (d + 2) S (alongT d t ps).1 _ _ (hu.same ((hS.later hB3.size).same hA)) (hS.later hB4.size) (by omega)).mono ?_
      rintro e w5 ⟨u, rfl, hu3, hb5⟩
      obtain ⟨u0, u1, u2, u3, u4, u5, u6, u7, u8, rfl⟩ := (ValOwn.at _ _ _ _ hu3).shape
      have HF := hide (tell_end hu3 (below_trans hB4 hb5) (by omega) hlt3)
      have k3 := k2.below hb5
      clear hu3 hb5 hB4 k2 k1 hB3 hA hu hv
      obtain ⟨y0, y1, y2, y3, y4⟩ := k3.cell
      have yf := k3.frozen
      clear k3
      go_wp2_with fail
      rw [hz.out]
      refine bodyPost_ret (v := .tuple #[.agg #[.int .i64 u0, .int .i64 u1, .string u2, .slice u3 u4 u5, .slice u6 u7 u8], .bool (alongT d t ps).2]) (by simp [results, Tryz.results20, go_sem, y0, y1, y2, y3, y4]) rfl ⟨_, rfl, ValOwn.at _ _ _ _ (HF.out _ rfl).1, (HF.out _ rfl).2⟩
end Go.Proofs.YtlpembhdojdomaaGreatDoor
