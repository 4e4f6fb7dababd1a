/- eqEdit, eqEditS, of edits that are one. -/
import Derived.Test.YtmkoeomkbbmoaaaWEd
import Derived.Test.YtmkoeomkbbmoaaaWEq
namespace Go.Proofs.Ytmkoeomkbbmoaaa
open Go.RowKit Go.Deep

set_option maxRecDepth 100000 in
set_option maxHeartbeats 4000000 in
theorem eqEdit_same {d : Nat} (S S' : Nat → Prop) (e : Ed d) (a0 : Option Addr) (a1 : Nat) (p0 p1 p2 p3 p4 p5 p6 p7 p8 q0 q1 q2 q3 q4 q5 q6 q7 q8) (b0 : Option Addr) (b1 : Nat) (r0 r1 r2 r3 r4 r5 r6 r7 r8 s0 s1 s2 s3 s4 s5 s6 s7 s8) (w : World) (hp : EdParts S w e (.slice a0 e.path.length a1) (.agg #[.int .i64 p0, .int .i64 p1, .string p2, .slice p3 p4 p5, .slice p6 p7 p8]) (.agg #[.int .i64 q0, .int .i64 q1, .string q2, .slice q3 q4 q5, .slice q6 q7 q8])) (hp' : EdParts S' w e (.slice b0 e.path.length b1) (.agg #[.int .i64 r0, .int .i64 r1, .string r2, .slice r3 r4 r5, .slice r6 r7 r8]) (.agg #[.int .i64 s0, .int .i64 s1, .string s2, .slice s3 s4 s5, .slice s6 s7 s8])) (hS : Within S w) (hS' : Within S' w) :
    Calls Try.prog 13 #[.agg #[.slice a0 e.path.length a1, .int .i64 p0, .int .i64 p1, .string p2, .slice p3 p4 p5, .slice p6 p7 p8, .bool e.had, .int .i64 q0, .int .i64 q1, .string q2, .slice q3 q4 q5, .slice q6 q7 q8, .bool e.has], .agg #[.slice b0 e.path.length b1, .int .i64 r0, .int .i64 r1, .string r2, .slice r3 r4 r5, .slice r6 r7 r8, .bool e.had, .int .i64 s0, .int .i64 s1, .string s2, .slice s3 s4 s5, .slice s6 s7 s8, .bool e.has]] w fun en w' => en = .returned (.bool true) ∧ Below w.heap.size w w' := by
  obtain ⟨W0, hW⟩ : ∃ W0, W0 = (w.alloc (.cells #[.slice a0 e.path.length a1, .int .i64 p0, .int .i64 p1, .string p2, .slice p3 p4 p5, .slice p6 p7 p8, .bool e.had, .int .i64 q0, .int .i64 q1, .string q2, .slice q3 q4 q5, .slice q6 q7 q8, .bool e.has] 43)).alloc (.cells #[.slice b0 e.path.length b1, .int .i64 r0, .int .i64 r1, .string r2, .slice r3 r4 r5, .slice r6 r7 r8, .bool e.had, .int .i64 s0, .int .i64 s1, .string s2, .slice s3 s4 s5, .slice s6 s7 s8, .bool e.has] 43) := ⟨_, rfl⟩
  have hB0 : Below w.heap.size w W0 := by rw [hW]; exact below_trans (below_alloc1 _ _) (below_alloc1 _ _)
  have k0 : BlkL W0 w.heap.size 43 [.slice a0 e.path.length a1, .int .i64 p0, .int .i64 p1, .string p2, .slice p3 p4 p5, .slice p6 p7 p8, .bool e.had, .int .i64 q0, .int .i64 q1, .string q2, .slice q3 q4 q5, .slice q6 q7 q8, .bool e.has] := by rw [hW]; exact (BlkL.new w _ _).alloc _
  have k1 : BlkL W0 (w.heap.size + 1) 43 [.slice b0 e.path.length b1, .int .i64 r0, .int .i64 r1, .string r2, .slice r3 r4 r5, .slice r6 r7 r8, .bool e.had, .int .i64 s0, .int .i64 s1, .string s2, .slice s3 s4 s5, .slice s6 s7 s8, .bool e.has] := by
    have h := BlkL.new (w.alloc (.cells #[.slice a0 e.path.length a1, .int .i64 p0, .int .i64 p1, .string p2, .slice p3 p4 p5, .slice p6 p7 p8, .bool e.had, .int .i64 q0, .int .i64 q1, .string q2, .slice q3 q4 q5, .slice q6 q7 q8, .bool e.has] 43)) 43 [.slice b0 e.path.length b1, .int .i64 r0, .int .i64 r1, .string r2, .slice r3 r4 r5, .slice r6 r7 r8, .bool e.had, .int .i64 s0, .int .i64 s1, .string s2, .slice s3 s4 s5, .slice s6 s7 s8, .bool e.has]
    rw [World.size_alloc] at h
    rw [hW]
    exact h
  have HW := hide hW
  obtain ⟨hst, hw, hn⟩ := hp
  obtain ⟨hst', hw', hn'⟩ := hp'
  have t1 : eqT (d + 1) e.was e.was = true := eqT_refl _ _
  have t2 : eqT (d + 1) e.now e.now = true := eqT_refl _ _
  have q1 : (e.had != e.had) = false := by simp
  have q2 : (e.has != e.has) = false := by simp
  clear hW
  go_enter Try.func13, Try.ntmps13
  go_wp2_with fail
  rw [← HW.out]
  clear HW
  refine (eqStepS_same S S' e.path _ _ W0 (hst.same (hS.same hB0)) (hst'.same (hS'.same hB0)) (hS.later hB0.size) (hS'.later hB0.size)).mono ?_
  rintro en w1 ⟨rfl, hb1⟩
  replace k0 := k0.below hb1
  replace k1 := k1.below hb1
  have hB1 := below_trans hB0 hb1
  clear hb1 hB0 hst hst'
  have x1 := k0.cell 1 rfl
  have y1 := k1.cell 1 rfl
  have x2 := k0.cell 2 rfl
  have y2 := k1.cell 2 rfl
  have x3 := k0.cell 3 rfl
  have y3 := k1.cell 3 rfl
  have x4 := k0.cell 4 rfl
  have y4 := k1.cell 4 rfl
  have x5 := k0.cell 5 rfl
  have y5 := k1.cell 5 rfl
  go_wp2_with fail
  refine (eqVal_any (d + 1) S S' e.was e.was _ _ w1 (hw.same (hS.same hB1)) (hw'.same (hS'.same hB1)) (hS.later hB1.size) (hS'.later hB1.size)).mono ?_
  rintro en w2 ⟨rfl, hb2⟩
  clear x1 y1 x2 y2 x3 y3 x4 y4 x5 y5
  replace k0 := k0.below hb2
  replace k1 := k1.below hb2
  have hB2 := below_trans hB1 hb2
  rw [t1]
  clear hb2 hB1 hw hw' t1
  have x6 := k0.cell 6 rfl
  have y6 := k1.cell 6 rfl
  have x7 := k0.cell 7 rfl
  have y7 := k1.cell 7 rfl
  have x8 := k0.cell 8 rfl
  have y8 := k1.cell 8 rfl
  have x9 := k0.cell 9 rfl
  have y9 := k1.cell 9 rfl
  have x10 := k0.cell 10 rfl
  have y10 := k1.cell 10 rfl
  have x11 := k0.cell 11 rfl
  have y11 := k1.cell 11 rfl
  go_wp2_with fail
  refine (eqVal_any (d + 1) S S' e.now e.now _ _ w2 (hn.same (hS.same hB2)) (hn'.same (hS'.same hB2)) (hS.later hB2.size) (hS'.later hB2.size)).mono ?_
  rintro en w3 ⟨rfl, hb3⟩
  clear x6 y6 x7 y7 x8 y8 x9 y9 x10 y10 x11 y11
  have x12 := (k0.below hb3).cell 12 rfl
  have y12 := (k1.below hb3).cell 12 rfl
  have hB3 := below_trans hB2 hb3
  rw [t2]
  clear hb3 hB2 hn hn' t2 k0 k1
  go_wp2_with fail
  go_ret
  exact ⟨rfl, hB3⟩

set_option maxRecDepth 100000 in
set_option maxHeartbeats 4000000 in
theorem eqEditS_same {d : Nat} (S S' : Nat → Prop) (es : List (Ed d)) (v v' : Value) (w : World) (hv : EdsAt S w v es) (hv' : EdsAt S' w v' es) (hS : Within S w) (hS' : Within S' w) :
    Calls Try.prog 8 #[v, v'] w fun e w' => e = .returned (.bool true) ∧ Below w.heap.size w w' := by
  obtain ⟨a, cap, rfl, hlen⟩ := hv.open'
  obtain ⟨a', cap', rfl, hlen'⟩ := hv'.open'
  have hq : ((es.length : Int) != (es.length : Int)) = false := by simp
  go_enter Try.func8, Try.ntmps8
  go_wp2_with fail
  go_loopw [5] (fun i wr => ∃ (k : Nat), k ≤ es.length ∧ i = .int .i64 k ∧ Below w.heap.size w wr) (fun i _ => es.length - (intOf i).toNat)
  case atStart => exact ⟨0, Nat.zero_le _, rfl, Below.refl _ _⟩
  case round =>
    obtain ⟨k, hk, rfl, hbel⟩ := hrel
    by_cases hkl : k < es.length
    · obtain ⟨b, o, e, rfl, hb, hx, a0, a1, p0, p1, p2, p3, p4, p5, p6, p7, p8, q0, q1, q2, q3, q4, q5, q6, q7, q8, e0, e1, e2, e3, e4, e5, e6, e7, e8, e9, e10, e11, e12, hp⟩ := (hv.same (hS.same hbel)).cell hkl
      obtain ⟨b', o', e', rfl, hb', hx', b0, b1, r0, r1, r2, r3, r4, r5, r6, r7, r8, s0, s1, s2, s3, s4, s5, s6, s7, s8, f0, f1, f2, f3, f4, f5, f6, f7, f8, f9, f10, f11, f12, hp'⟩ := (hv'.same (hS'.same hbel)).cell hkl
      rw [hx] at hx'
      cases hx'
      have hW := hS.later hbel.size
      have hW' := hS'.later hbel.size
      clear hv hv' hx hS hS'
      have hki : (k : Int) < (es.length : Int) := by omega
      go_wp2_with fail
      go_region_with (go_at_call 13; refine (eqEdit_same S S' e a0 a1 p0 p1 p2 p3 p4 p5 p6 p7 p8 q0 q1 q2 q3 q4 q5 q6 q7 q8 b0 b1 r0 r1 r2 r3 r4 r5 r6 r7 r8 s0 s1 s2 s3 s4 s5 s6 s7 s8 _ ?_ ?_ ?_ ?_).mono ?_; exact hp.same (fun _ _ => rfl); exact hp'.same (fun _ _ => rfl); exact hW; exact hW'; rintro en w1 ⟨rfl, hb1⟩)
      all_goals
        have hb2 : Below w.heap.size w w1 := below_trans hbel (show Below wr.heap.size wr w1 from ⟨hb1.os, hb1.tape, hb1.output, hb1.size, hb1.block⟩)
        clear hb1 hbel hp hp' e0 f0 e1 f1 e2 f2 e3 f3 e4 f4 e5 f5 e6 f6 e7 f7 e8 f8 e9 f9 e10 f10 e11 f11 e12 f12
        go_wp2_with fail
        go_roundw
        case rel => exact ⟨k + 1, by omega, by go_num, hb2⟩
        case measure => simp [intOf]; omega
    · go_wp2_with fail
      go_ret
      exact ⟨rfl, hbel⟩
end Go.Proofs.Ytmkoeomkbbmoaaa
