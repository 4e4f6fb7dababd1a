/- turnOf of the program. -/
import Derived.Test.YtmkoeomkbbmoaaaWEdW
import Derived.Test.YtmkoeomkbbmoaaaWEdA
namespace Go.Proofs.Ytmkoeomkbbmoaaa
open Go.RowKit Go.Deep

theorem edOk_sides {d : Nat} (e : Ed d) : edOk e = (sideB e.was e.had && (sideB e.now e.has && wayB e)) := rfl
theorem pathOk_len {ps : List Stp} (h : pathOk ps = true) : ps.length ≤ 6 := by
  unfold pathOk at h
  rw [Bool.and_eq_true] at h
  exact of_decide_eq_true h.2

set_option maxRecDepth 100000 in
set_option maxHeartbeats 4000000 in
theorem turnOf_any {d : Nat} (S : Nat → Prop) (e : Ed d) (a0 : Option Addr) (a1 : Nat) (p0 p1 p2 p3 p4 p5 p6 p7 p8 q0 q1 q2 q3 q4 q5 q6 q7 q8) (w : World) (hp : EdParts S w e (.slice a0 e.path.length a1) (.agg #[.int .i64 p0, .int .i64 p1, .string p2, .slice p3 p4 p5, .slice p6 p7 p8]) (.agg #[.int .i64 q0, .int .i64 q1, .string q2, .slice q3 q4 q5, .slice q6 q7 q8])) (hS : Within S w) :
    Calls Try.prog 20 #[.agg #[.slice a0 e.path.length a1, .int .i64 p0, .int .i64 p1, .string p2, .slice p3 p4 p5, .slice p6 p7 p8, .bool e.had, .int .i64 q0, .int .i64 q1, .string q2, .slice q3 q4 q5, .slice q6 q7 q8, .bool e.has]] w fun en w' => ∃ ra rn rc u1 u2, en = .returned (.tuple #[.agg #[.slice ra rn rc, u1, u2], .bool (edOk e)]) ∧ TreeV u1 ∧ TreeV u2 ∧ Below w.heap.size w w' := by
  obtain ⟨W0, hW⟩ : ∃ W0, W0 = (w.alloc (.cells #[.slice a0 e.path.length a1, .int .i64 p0, .int .i64 p1, .string p2, .slice p3 p4 p5, .slice p6 p7 p8, .bool e.had, .int .i64 q0, .int .i64 q1, .string q2, .slice q3 q4 q5, .slice q6 q7 q8, .bool e.has] 43)).alloc (.cells #[.slice none 0 0, .nilIface, .nilIface] 60) := ⟨_, rfl⟩
  have hA : Below w.heap.size w W0 := by rw [hW]; exact below_trans (below_alloc1 _ _) (below_alloc1 _ _)
  have k0 : BlkL W0 w.heap.size 43 [.slice a0 e.path.length a1, .int .i64 p0, .int .i64 p1, .string p2, .slice p3 p4 p5, .slice p6 p7 p8, .bool e.had, .int .i64 q0, .int .i64 q1, .string q2, .slice q3 q4 q5, .slice q6 q7 q8, .bool e.has] := by rw [hW]; exact (BlkL.new w _ _).alloc _
  have k1 : BlkL W0 (w.heap.size + 1) 60 [.slice none 0 0, .nilIface, .nilIface] := by
    have h := BlkL.new (w.alloc (.cells #[.slice a0 e.path.length a1, .int .i64 p0, .int .i64 p1, .string p2, .slice p3 p4 p5, .slice p6 p7 p8, .bool e.had, .int .i64 q0, .int .i64 q1, .string q2, .slice q3 q4 q5, .slice q6 q7 q8, .bool e.has] 43)) 60 [.slice none 0 0, .nilIface, .nilIface]
    rw [World.size_alloc] at h
    rw [hW]
    exact h
  have HW := hide hW
  obtain ⟨hst, hw, hn⟩ := hp
  clear hW
  go_enter Try.func20, Try.ntmps20
  go_wp2_with fail
  rw [← HW.out]
  clear HW
  refine (sideOf_any S e.was _ e.had W0 (hw.same (hS.same hA)) (hS.later hA.size)).mono ?_
  rintro en w1 ⟨u1, rfl, hu1, hb1⟩
  replace k0 := k0.below hb1
  replace k1 := k1.below hb1
  have hB1 := below_trans hA hb1
  clear hb1 hA
  have x7 := k0.cell 7 rfl
  have x8 := k0.cell 8 rfl
  have x9 := k0.cell 9 rfl
  have x10 := k0.cell 10 rfl
  have x11 := k0.cell 11 rfl
  have x12 := k0.cell 12 rfl
  go_wp2_with fail
  refine (sideOf_any S e.now _ e.has w1 (hn.same (hS.same hB1)) (hS.later hB1.size)).mono ?_
  rintro en w2 ⟨u2, rfl, hu2, hb2⟩
  replace k0 := k0.below hb2
  replace k1 := k1.below hb2
  have hB2 := below_trans hB1 hb2
  clear hb2 hB1 x7 x8 x9 x10 x11 x12
  cases h1 : sideB e.was e.had with
  | false =>
    have HE : Hid (edOk e = false) := by show edOk e = false; rw [edOk_sides, h1]; rfl
    have y0 := k1.cell 0 rfl
    have y1 := k1.cell 1 rfl
    have y2 := k1.cell 2 rfl
    have yf := k1.frozen
    have hno : Hid (∀ wF, wF = setL w2 (w.heap.size + 1) 0 [.slice none 0 0, .nilIface, .nilIface] → Below w.heap.size w wF) := fun wF hF => by rw [hF]; exact below_setL (by omega) _ hB2 0
    clear k1 k0 hu1 hu2
    go_wp2_with fail
    refine bodyPost_ret (v := .tuple #[.agg #[.slice none 0 0, .nilIface, .nilIface], .bool false]) (by simp [results, Try.results20, go_sem, y0, y1, y2]) rfl ⟨_, _, _, _, _, by rw [HE.out], Or.inl rfl, Or.inl rfl, hno.out _ rfl⟩
  | true =>
  have hU1 := hide (hu1 h1)
  clear hu1
  cases h2 : sideB e.now e.has with
  | false =>
    have HE : Hid (edOk e = false) := by show edOk e = false; rw [edOk_sides, h1, h2]; rfl
    have y0 := k1.cell 0 rfl
    have y1 := k1.cell 1 rfl
    have y2 := k1.cell 2 rfl
    have yf := k1.frozen
    have hno : Hid (∀ wF, wF = setL w2 (w.heap.size + 1) 0 [.slice none 0 0, .nilIface, .nilIface] → Below w.heap.size w wF) := fun wF hF => by rw [hF]; exact below_setL (by omega) _ hB2 0
    clear k1 k0 hu2
    go_wp2_with fail
    refine bodyPost_ret (v := .tuple #[.agg #[.slice none 0 0, .nilIface, .nilIface], .bool false]) (by simp [results, Try.results20, go_sem, y0, y1, y2]) rfl ⟨_, _, _, _, _, by rw [HE.out], Or.inl rfl, Or.inl rfl, hno.out _ rfl⟩
  | true =>
  have hU2 := hide (hu2 h2)
  clear hu2
  have HS : Hid (edOk e = wayB e) := by show edOk e = _; rw [edOk_sides, h1, h2]; rfl
  have x0 := k0.cell 0 rfl
  have x1 := k0.cell 1 rfl
  have x2 := k0.cell 2 rfl
  have x3 := k0.cell 3 rfl
  have x4 := k0.cell 4 rfl
  have x5 := k0.cell 5 rfl
  have x6 := k0.cell 6 rfl
  have x7 := k0.cell 7 rfl
  have x8 := k0.cell 8 rfl
  have x9 := k0.cell 9 rfl
  have x10 := k0.cell 10 rfl
  have x11 := k0.cell 11 rfl
  have x12 := k0.cell 12 rfl
  go_wp2_with fail
  refine (wayOfSides_any S e a0 a1 p0 p1 p2 p3 p4 p5 p6 p7 p8 q0 q1 q2 q3 q4 q5 q6 q7 q8 w2 ⟨hst.same (hS.same hB2), hw.same (hS.same hB2), hn.same (hS.same hB2)⟩ (hS.later hB2.size)).mono ?_
  rintro en w3 ⟨rfl, hb3⟩
  replace k0 := k0.below hb3
  replace k1 := k1.below hb3
  have hB3 := below_trans hB2 hb3
  have hst3 := hst.same (hS.same hB3)
  clear hb3 hB2 hst hw hn x0 x1 x2 x3 x4 x5 x6 x7 x8 x9 x10 x11 x12 h1 h2
  cases h3 : wayB e with
  | false =>
    have HE : Hid (edOk e = false) := by show edOk e = false; rw [HS.out, h3]
    have y0 := k1.cell 0 rfl
    have y1 := k1.cell 1 rfl
    have y2 := k1.cell 2 rfl
    have yf := k1.frozen
    have hno : Hid (∀ wF, wF = setL w3 (w.heap.size + 1) 0 [.slice none 0 0, .nilIface, .nilIface] → Below w.heap.size w wF) := fun wF hF => by rw [hF]; exact below_setL (by omega) _ hB3 0
    clear k1 k0 hst3
    go_wp2_with fail
    refine bodyPost_ret (v := .tuple #[.agg #[.slice none 0 0, .nilIface, .nilIface], .bool false]) (by simp [results, Try.results20, go_sem, y0, y1, y2]) rfl ⟨_, _, _, _, _, by rw [HE.out], Or.inl rfl, Or.inl rfl, hno.out _ rfl⟩
  | true =>
  have HE : Hid (edOk e = true) := by show edOk e = true; rw [HS.out, h3]
  have h6 : e.path.length ≤ 6 := by
    unfold wayB at h3
    rw [Bool.and_eq_true] at h3
    exact pathOk_len h3.1
  have hrun := hide (fun ty => run_append_steps S e.path a0 a1 ty w3 hst3 (by omega))
  have x0 := k0.cell 0 rfl
  have HB := hide hB3
  clear k0 hst3 hB3 h3 HS h6
  rcases hU1.out with rfl | ⟨T1, v1, rfl⟩
  · rcases hU2.out with rfl | ⟨T2, v2, rfl⟩
    · go_wp2_with (at_builtin; refine wpList_append_one (fun v' w' => (∃ a c, v' = .slice a e.path.length c) ∧ Below w3.heap.size w3 w') rfl _ _ 38 rfl _ _ rfl rfl (hrun.out _) ?_)
      rintro v' w4 ra rc rfl hb4
      have hB4 := below_trans HB.out hb4
      replace k1 := k1.below hb4
      clear hb4 HB hrun x0
      have y0 := k1.cell 0 rfl
      have y1 := k1.cell 1 rfl
      have y2 := k1.cell 2 rfl
      have yf := k1.frozen
      have hno : Hid (∀ wF, wF = setL w4 (w.heap.size + 1) 0 [.slice ra e.path.length rc, .nilIface, .nilIface] → Below w.heap.size w wF) := fun wF hF => by rw [hF]; exact below_setL (by omega) _ hB4 0
      clear k1 
      go_wp2_with fail
      refine bodyPost_ret (v := .tuple #[.agg #[.slice ra e.path.length rc, .nilIface, .nilIface], .bool true]) (by simp [results, Try.results20, go_sem, y0, y1, y2]) rfl ⟨_, _, _, _, _, by rw [HE.out], hU1.out, hU2.out, hno.out _ rfl⟩
    · go_wp2_with (at_builtin; refine wpList_append_one (fun v' w' => (∃ a c, v' = .slice a e.path.length c) ∧ Below w3.heap.size w3 w') rfl _ _ 38 rfl _ _ rfl rfl (hrun.out _) ?_)
      rintro v' w4 ra rc rfl hb4
      have hB4 := below_trans HB.out hb4
      replace k1 := k1.below hb4
      clear hb4 HB hrun x0
      have y0 := k1.cell 0 rfl
      have y1 := k1.cell 1 rfl
      have y2 := k1.cell 2 rfl
      have yf := k1.frozen
      have hno : Hid (∀ wF, wF = setL w4 (w.heap.size + 1) 0 [.slice ra e.path.length rc, .nilIface, .iface T2 v2] → Below w.heap.size w wF) := fun wF hF => by rw [hF]; exact below_setL (by omega) _ hB4 0
      clear k1 
      go_wp2_with fail
      refine bodyPost_ret (v := .tuple #[.agg #[.slice ra e.path.length rc, .nilIface, .iface T2 v2], .bool true]) (by simp [results, Try.results20, go_sem, y0, y1, y2]) rfl ⟨_, _, _, _, _, by rw [HE.out], hU1.out, hU2.out, hno.out _ rfl⟩
  · rcases hU2.out with rfl | ⟨T2, v2, rfl⟩
    · go_wp2_with (at_builtin; refine wpList_append_one (fun v' w' => (∃ a c, v' = .slice a e.path.length c) ∧ Below w3.heap.size w3 w') rfl _ _ 38 rfl _ _ rfl rfl (hrun.out _) ?_)
      rintro v' w4 ra rc rfl hb4
      have hB4 := below_trans HB.out hb4
      replace k1 := k1.below hb4
      clear hb4 HB hrun x0
      have y0 := k1.cell 0 rfl
      have y1 := k1.cell 1 rfl
      have y2 := k1.cell 2 rfl
      have yf := k1.frozen
      have hno : Hid (∀ wF, wF = setL w4 (w.heap.size + 1) 0 [.slice ra e.path.length rc, .iface T1 v1, .nilIface] → Below w.heap.size w wF) := fun wF hF => by rw [hF]; exact below_setL (by omega) _ hB4 0
      clear k1 
      go_wp2_with fail
      refine bodyPost_ret (v := .tuple #[.agg #[.slice ra e.path.length rc, .iface T1 v1, .nilIface], .bool true]) (by simp [results, Try.results20, go_sem, y0, y1, y2]) rfl ⟨_, _, _, _, _, by rw [HE.out], hU1.out, hU2.out, hno.out _ rfl⟩
    · go_wp2_with (at_builtin; refine wpList_append_one (fun v' w' => (∃ a c, v' = .slice a e.path.length c) ∧ Below w3.heap.size w3 w') rfl _ _ 38 rfl _ _ rfl rfl (hrun.out _) ?_)
      rintro v' w4 ra rc rfl hb4
      have hB4 := below_trans HB.out hb4
      replace k1 := k1.below hb4
      clear hb4 HB hrun x0
      have y0 := k1.cell 0 rfl
      have y1 := k1.cell 1 rfl
      have y2 := k1.cell 2 rfl
      have yf := k1.frozen
      have hno : Hid (∀ wF, wF = setL w4 (w.heap.size + 1) 0 [.slice ra e.path.length rc, .iface T1 v1, .iface T2 v2] → Below w.heap.size w wF) := fun wF hF => by rw [hF]; exact below_setL (by omega) _ hB4 0
      clear k1 
      go_wp2_with fail
      refine bodyPost_ret (v := .tuple #[.agg #[.slice ra e.path.length rc, .iface T1 v1, .iface T2 v2], .bool true]) (by simp [results, Try.results20, go_sem, y0, y1, y2]) rfl ⟨_, _, _, _, _, by rw [HE.out], hU1.out, hU2.out, hno.out _ rfl⟩
end Go.Proofs.Ytmkoeomkbbmoaaa
