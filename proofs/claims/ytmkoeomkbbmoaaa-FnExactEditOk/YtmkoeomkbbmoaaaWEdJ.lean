/- turnsOf, EditOk of the program. -/
import Derived.Test.YtmkoeomkbbmoaaaWEdI
namespace Go.Proofs.Ytmkoeomkbbmoaaa
open Go.RowKit Go.Deep

theorem Try.infoTurn : (Try.prog.info? 60).map (fun i => (i.zero, i.size, i.bytes)) = some (some (.agg #[.slice none 0 0, .nilIface, .nilIface]), 3, 56) := by kernel_rfl
theorem cell_three_new (w : World) (T : TypeId) (c0 c1 c2 : Value) : ∀ j u, [c0, c1, c2][j]? = some u → (w.alloc (.cells #[c0, c1, c2] T)).cell? ((⟨w.heap.size, 0, none⟩ : Addr).add j) = some u := by
  intro j u hj
  have hadd : (⟨w.heap.size, 0, none⟩ : Addr).add j = ⟨w.heap.size, 0 + j, none⟩ := by unfold Addr.add; split <;> simp_all
  rw [hadd]
  rcases j with _ | _ | _ | j
  · simp at hj; subst hj; simp
  · simp at hj; subst hj; simp
  · simp at hj; subst hj; simp
  · simp at hj
theorem ownsRow_later {w w' : World} {N : Nat} {T : TypeId} {s : Nat} {v : Value} {n : Nat} {xs : List Value} (h : w.ownsRow N T s v n xs) (hb : Below w.heap.size w w') : w'.ownsRow N T s v n xs := by
  obtain ⟨h1, h2⟩ := h
  refine ⟨h1, ?_⟩
  rcases h2 with h2 | ⟨g, c, cur, e, h3, h4, h5⟩
  · exact Or.inl h2
  · exact Or.inr ⟨g, c, cur, e, h3, (hb.block g (Array.getElem?_eq_some_iff.1 h4).1).trans h4, h5⟩
theorem TreeV.one {u : Value} (h : TreeV u) : u.oneCell' = true := by
  rcases h with rfl | ⟨T, u', rfl⟩ <;> rfl

set_option maxRecDepth 100000 in
set_option maxHeartbeats 4000000 in
theorem turnsOf_any {d : Nat} (S : Nat → Prop) (es : List (Ed d)) (v : Value) (w : World) (hv : EdsAt S w v es) (hS : Within S w) :
    Calls Try.prog 12 #[v] w fun e w' => ∃ r, e = .returned (.tuple #[r, .bool (edsOk es)]) ∧ Below w.heap.size w w' := by
  obtain ⟨a, cap, rfl, hlen⟩ := hv.open'
  by_cases h60 : 60 < es.length
  · have hq : Hid (edsOk es = false) := by
      show edsOk es = false
      rw [edsOk, decide_eq_false (by omega), Bool.and_false]
    have h60' : (60 : Int) < (es.length : Int) := by omega
    go_enter Try.func12, Try.ntmps12
    go_wp2_with fail
    go_ret2
    exact ⟨_, by rw [hq.out]; rfl, Below.refl _ _⟩
  have h60' : ¬ (60 : Int) < (es.length : Int) := by omega
  have HP : Hid (edsOk es = es.all edOk) := by
    show edsOk es = _
    rw [edsOk, decide_eq_true (by omega), Bool.and_true]
  go_enter Try.func12, Try.ntmps12
  go_wp2_with fail
  go_loopw [4, 14] (fun lv i wr => ∃ (k : Nat) (vs : List Value), k ≤ es.length ∧ i = .int .i64 k ∧ Hid (wr.ownsRow w.heap.size 60 3 lv k vs) ∧ Below w.heap.size w wr ∧ Hid (es.all edOk = (es.drop k).all edOk)) (fun _ i _ => es.length - (intOf i).toNat)
  case atStart => exact ⟨0, [], Nat.zero_le _, rfl, World.ownsRow_nil _ _ _ _, Below.refl _ _, rfl⟩
  case round =>
    obtain ⟨k, vs, hk, rfl, hown, hbel, hfin⟩ := hrel
    by_cases hkl : k < es.length
    · obtain ⟨b, o, e, rfl, hb, hx, a0, a1, p0, p1, p2, p3, p4, p5, p6, p7, p8, q0, q1, q2, q3, q4, q5, q6, q7, q8, e0, e1, e2, e3, e4, e5, e6, e7, e8, e9, e10, e11, e12, hp⟩ := (hv.same (hS.same hbel)).cell hkl
      have hst : Hid (_ = _) := allEd_drop hx
      have hA := below_alloc1 wr (.cells #[.slice a0 e.path.length a1, .int .i64 p0, .int .i64 p1, .string p2, .slice p3 p4 p5, .slice p6 p7 p8, .bool e.had, .int .i64 q0, .int .i64 q1, .string q2, .slice q3 q4 q5, .slice q6 q7 q8, .bool e.has] 43)
      have hSw := hS.later hbel.size
      clear hv hx
      go_wp2_with fail
      refine (turnOf_any S e a0 a1 p0 p1 p2 p3 p4 p5 p6 p7 p8 q0 q1 q2 q3 q4 q5 q6 q7 q8 _ (hp.same (hSw.same hA)) (hSw.later hA.size)).mono ?_
      rintro en w1 ⟨ra, rn, rc, u1, u2, rfl, hU1, hU2, hb1⟩
      have hbA := below_trans hA hb1
      have hb2 := hide (below_trans hbel hbA)
      clear hb1 hA hp e0 e1 e2 e3 e4 e5 e6 e7 e8 e9 e10 e11 e12
      rcases hU1 with rfl | ⟨T1, v1, rfl⟩
      · rcases hU2 with rfl | ⟨T2, v2, rfl⟩
        · cases hf : edOk e with
          | false =>
            have hq : Hid (edsOk es = false) := by
              show edsOk es = false
              rw [HP.out, hfin.out, hst.out, hf]
              rfl
            have hb3 := hide (below_trans hb2.out (below_alloc1 w1 (.cells #[.slice ra rn rc, .nilIface, .nilIface] 60)))
            clear hfin hst hown hbel hbA
            go_wp2_with fail
            go_ret2
            exact ⟨_, by rw [hq.out]; rfl, hb3.out⟩
          | true =>
            have hq : Hid (es.all edOk = (es.drop (k + 1)).all edOk) := by
              show es.all edOk = _
              rw [hfin.out, hst.out, hf]
              rfl
            have hone : Hid (∀ y ∈ ([.slice ra rn rc, .nilIface, .nilIface] : List Value), y.oneCell' = true) := by
              intro y hy
              simp at hy
              rcases hy with rfl | rfl | rfl <;> rfl
            have hT := below_alloc1 w1 (.cells #[.slice ra rn rc, .nilIface, .nilIface] 60)
            have hT' := below_alloc1 (w1.alloc (.cells #[.slice ra rn rc, .nilIface, .nilIface] 60)) (.cells #[.slice ra rn rc, .nilIface, .nilIface] 60)
            have HO := hide (ownsRow_later (ownsRow_later (ownsRow_later hown.out hbA) hT) hT')
            have hcn : Hid (∀ j u, ([.slice ra rn rc, .nilIface, .nilIface] : List Value)[j]? = some u → ((w1.alloc (.cells #[.slice ra rn rc, .nilIface, .nilIface] 60)).alloc (.cells #[.slice ra rn rc, .nilIface, .nilIface] 60)).cell? ((⟨w1.heap.size + 1, 0, none⟩ : Addr).add j) = some u) := by
              have h := cell_three_new (w1.alloc (.cells #[.slice ra rn rc, .nilIface, .nilIface] 60)) 60 (.slice ra rn rc) .nilIface .nilIface
              rw [World.size_alloc] at h
              exact h
            have hrow : ∀ g, u4.ownBlock = some g → w.heap.size ≤ g := fun g hg => (hown.out.lt g hg).1
            have hN1 : w.heap.size ≤ w1.heap.size := hb2.out.size
            have hstep : Hid (∀ w2, ((w1.alloc (.cells #[.slice ra rn rc, .nilIface, .nilIface] 60)).alloc (.cells #[.slice ra rn rc, .nilIface, .nilIface] 60)).grownBy w2 (u4.ownBlock) → Below w.heap.size w w2) := by
              intro w2 o2
              have hb3 := below_trans (below_trans hb2.out hT) hT'
              refine ⟨o2.os.trans hb3.os, o2.tape.trans hb3.tape, o2.output.trans hb3.output, Nat.le_trans hb3.size o2.size, fun i hi => ?_⟩
              exact (o2.block i (by simp; omega) (fun c => by have := hrow i c.symm; omega)).trans (hb3.block i hi)
            obtain ⟨i0, hi, hz0, hz1, hz2⟩ := info_parts Try.infoTurn
            clear hfin hst hown hbel hbA hT hT' hrow hb2
            go_wp2_with (at_builtin; refine wpList_append_own_at _ rfl _ _ 45 rfl w.heap.size 60 i0 (.agg #[.slice none 0 0, .nilIface, .nilIface]) 3 56 Try.underlying45 hi hz0 hz1 hz2 rfl (by decide) _ _ _ rfl HO.out ⟨w1.heap.size + 1, 0, none⟩ 1 1 [.slice ra rn rc, .nilIface, .nilIface] rfl rfl hcn.out hone.out ?c3 ?c4 ?c5 ?_)
            case c3 => unfold maxLen; omega
            case c4 => omega
            case c5 => simp; omega
            · intro sv' w2 o1 o2 _ o3
              have HB2 := hide (hstep.out w2 o2)
              have HO2 := hide o1
              clear o1 o2 o3 hstep HO hcn hone hi hz0 hz1 hz2
              go_wp2_with fail
              go_roundw
              case rel => exact ⟨k + 1, _, by omega, by go_num, HO2, HB2.out, hq⟩
              case measure => simp [intOf]; omega
        · cases hf : edOk e with
          | false =>
            have hq : Hid (edsOk es = false) := by
              show edsOk es = false
              rw [HP.out, hfin.out, hst.out, hf]
              rfl
            have hb3 := hide (below_trans hb2.out (below_alloc1 w1 (.cells #[.slice ra rn rc, .nilIface, (.iface T2 v2)] 60)))
            clear hfin hst hown hbel hbA
            go_wp2_with fail
            go_ret2
            exact ⟨_, by rw [hq.out]; rfl, hb3.out⟩
          | true =>
            have hq : Hid (es.all edOk = (es.drop (k + 1)).all edOk) := by
              show es.all edOk = _
              rw [hfin.out, hst.out, hf]
              rfl
            have hone : Hid (∀ y ∈ ([.slice ra rn rc, .nilIface, (.iface T2 v2)] : List Value), y.oneCell' = true) := by
              intro y hy
              simp at hy
              rcases hy with rfl | rfl | rfl <;> rfl
            have hT := below_alloc1 w1 (.cells #[.slice ra rn rc, .nilIface, (.iface T2 v2)] 60)
            have hT' := below_alloc1 (w1.alloc (.cells #[.slice ra rn rc, .nilIface, (.iface T2 v2)] 60)) (.cells #[.slice ra rn rc, .nilIface, (.iface T2 v2)] 60)
            have HO := hide (ownsRow_later (ownsRow_later (ownsRow_later hown.out hbA) hT) hT')
            have hcn : Hid (∀ j u, ([.slice ra rn rc, .nilIface, (.iface T2 v2)] : List Value)[j]? = some u → ((w1.alloc (.cells #[.slice ra rn rc, .nilIface, (.iface T2 v2)] 60)).alloc (.cells #[.slice ra rn rc, .nilIface, (.iface T2 v2)] 60)).cell? ((⟨w1.heap.size + 1, 0, none⟩ : Addr).add j) = some u) := by
              have h := cell_three_new (w1.alloc (.cells #[.slice ra rn rc, .nilIface, (.iface T2 v2)] 60)) 60 (.slice ra rn rc) .nilIface (.iface T2 v2)
              rw [World.size_alloc] at h
              exact h
            have hrow : ∀ g, u4.ownBlock = some g → w.heap.size ≤ g := fun g hg => (hown.out.lt g hg).1
            have hN1 : w.heap.size ≤ w1.heap.size := hb2.out.size
            have hstep : Hid (∀ w2, ((w1.alloc (.cells #[.slice ra rn rc, .nilIface, (.iface T2 v2)] 60)).alloc (.cells #[.slice ra rn rc, .nilIface, (.iface T2 v2)] 60)).grownBy w2 (u4.ownBlock) → Below w.heap.size w w2) := by
              intro w2 o2
              have hb3 := below_trans (below_trans hb2.out hT) hT'
              refine ⟨o2.os.trans hb3.os, o2.tape.trans hb3.tape, o2.output.trans hb3.output, Nat.le_trans hb3.size o2.size, fun i hi => ?_⟩
              exact (o2.block i (by simp; omega) (fun c => by have := hrow i c.symm; omega)).trans (hb3.block i hi)
            obtain ⟨i0, hi, hz0, hz1, hz2⟩ := info_parts Try.infoTurn
            clear hfin hst hown hbel hbA hT hT' hrow hb2
            go_wp2_with (at_builtin; refine wpList_append_own_at _ rfl _ _ 45 rfl w.heap.size 60 i0 (.agg #[.slice none 0 0, .nilIface, .nilIface]) 3 56 Try.underlying45 hi hz0 hz1 hz2 rfl (by decide) _ _ _ rfl HO.out ⟨w1.heap.size + 1, 0, none⟩ 1 1 [.slice ra rn rc, .nilIface, (.iface T2 v2)] rfl rfl hcn.out hone.out ?c3 ?c4 ?c5 ?_)
            case c3 => unfold maxLen; omega
            case c4 => omega
            case c5 => simp; omega
            · intro sv' w2 o1 o2 _ o3
              have HB2 := hide (hstep.out w2 o2)
              have HO2 := hide o1
              clear o1 o2 o3 hstep HO hcn hone hi hz0 hz1 hz2
              go_wp2_with fail
              go_roundw
              case rel => exact ⟨k + 1, _, by omega, by go_num, HO2, HB2.out, hq⟩
              case measure => simp [intOf]; omega
      · rcases hU2 with rfl | ⟨T2, v2, rfl⟩
        · cases hf : edOk e with
          | false =>
            have hq : Hid (edsOk es = false) := by
              show edsOk es = false
              rw [HP.out, hfin.out, hst.out, hf]
              rfl
            have hb3 := hide (below_trans hb2.out (below_alloc1 w1 (.cells #[.slice ra rn rc, (.iface T1 v1), .nilIface] 60)))
            clear hfin hst hown hbel hbA
            go_wp2_with fail
            go_ret2
            exact ⟨_, by rw [hq.out]; rfl, hb3.out⟩
          | true =>
            have hq : Hid (es.all edOk = (es.drop (k + 1)).all edOk) := by
              show es.all edOk = _
              rw [hfin.out, hst.out, hf]
              rfl
            have hone : Hid (∀ y ∈ ([.slice ra rn rc, (.iface T1 v1), .nilIface] : List Value), y.oneCell' = true) := by
              intro y hy
              simp at hy
              rcases hy with rfl | rfl | rfl <;> rfl
            have hT := below_alloc1 w1 (.cells #[.slice ra rn rc, (.iface T1 v1), .nilIface] 60)
            have hT' := below_alloc1 (w1.alloc (.cells #[.slice ra rn rc, (.iface T1 v1), .nilIface] 60)) (.cells #[.slice ra rn rc, (.iface T1 v1), .nilIface] 60)
            have HO := hide (ownsRow_later (ownsRow_later (ownsRow_later hown.out hbA) hT) hT')
            have hcn : Hid (∀ j u, ([.slice ra rn rc, (.iface T1 v1), .nilIface] : List Value)[j]? = some u → ((w1.alloc (.cells #[.slice ra rn rc, (.iface T1 v1), .nilIface] 60)).alloc (.cells #[.slice ra rn rc, (.iface T1 v1), .nilIface] 60)).cell? ((⟨w1.heap.size + 1, 0, none⟩ : Addr).add j) = some u) := by
              have h := cell_three_new (w1.alloc (.cells #[.slice ra rn rc, (.iface T1 v1), .nilIface] 60)) 60 (.slice ra rn rc) (.iface T1 v1) .nilIface
              rw [World.size_alloc] at h
              exact h
            have hrow : ∀ g, u4.ownBlock = some g → w.heap.size ≤ g := fun g hg => (hown.out.lt g hg).1
            have hN1 : w.heap.size ≤ w1.heap.size := hb2.out.size
            have hstep : Hid (∀ w2, ((w1.alloc (.cells #[.slice ra rn rc, (.iface T1 v1), .nilIface] 60)).alloc (.cells #[.slice ra rn rc, (.iface T1 v1), .nilIface] 60)).grownBy w2 (u4.ownBlock) → Below w.heap.size w w2) := by
              intro w2 o2
              have hb3 := below_trans (below_trans hb2.out hT) hT'
              refine ⟨o2.os.trans hb3.os, o2.tape.trans hb3.tape, o2.output.trans hb3.output, Nat.le_trans hb3.size o2.size, fun i hi => ?_⟩
              exact (o2.block i (by simp; omega) (fun c => by have := hrow i c.symm; omega)).trans (hb3.block i hi)
            obtain ⟨i0, hi, hz0, hz1, hz2⟩ := info_parts Try.infoTurn
            clear hfin hst hown hbel hbA hT hT' hrow hb2
            go_wp2_with (at_builtin; refine wpList_append_own_at _ rfl _ _ 45 rfl w.heap.size 60 i0 (.agg #[.slice none 0 0, .nilIface, .nilIface]) 3 56 Try.underlying45 hi hz0 hz1 hz2 rfl (by decide) _ _ _ rfl HO.out ⟨w1.heap.size + 1, 0, none⟩ 1 1 [.slice ra rn rc, (.iface T1 v1), .nilIface] rfl rfl hcn.out hone.out ?c3 ?c4 ?c5 ?_)
            case c3 => unfold maxLen; omega
            case c4 => omega
            case c5 => simp; omega
            · intro sv' w2 o1 o2 _ o3
              have HB2 := hide (hstep.out w2 o2)
              have HO2 := hide o1
              clear o1 o2 o3 hstep HO hcn hone hi hz0 hz1 hz2
              go_wp2_with fail
              go_roundw
              case rel => exact ⟨k + 1, _, by omega, by go_num, HO2, HB2.out, hq⟩
              case measure => simp [intOf]; omega
        · cases hf : edOk e with
          | false =>
            have hq : Hid (edsOk es = false) := by
              show edsOk es = false
              rw [HP.out, hfin.out, hst.out, hf]
              rfl
            have hb3 := hide (below_trans hb2.out (below_alloc1 w1 (.cells #[.slice ra rn rc, (.iface T1 v1), (.iface T2 v2)] 60)))
            clear hfin hst hown hbel hbA
            go_wp2_with fail
            go_ret2
            exact ⟨_, by rw [hq.out]; rfl, hb3.out⟩
          | true =>
            have hq : Hid (es.all edOk = (es.drop (k + 1)).all edOk) := by
              show es.all edOk = _
              rw [hfin.out, hst.out, hf]
              rfl
            have hone : Hid (∀ y ∈ ([.slice ra rn rc, (.iface T1 v1), (.iface T2 v2)] : List Value), y.oneCell' = true) := by
              intro y hy
              simp at hy
              rcases hy with rfl | rfl | rfl <;> rfl
            have hT := below_alloc1 w1 (.cells #[.slice ra rn rc, (.iface T1 v1), (.iface T2 v2)] 60)
            have hT' := below_alloc1 (w1.alloc (.cells #[.slice ra rn rc, (.iface T1 v1), (.iface T2 v2)] 60)) (.cells #[.slice ra rn rc, (.iface T1 v1), (.iface T2 v2)] 60)
            have HO := hide (ownsRow_later (ownsRow_later (ownsRow_later hown.out hbA) hT) hT')
            have hcn : Hid (∀ j u, ([.slice ra rn rc, (.iface T1 v1), (.iface T2 v2)] : List Value)[j]? = some u → ((w1.alloc (.cells #[.slice ra rn rc, (.iface T1 v1), (.iface T2 v2)] 60)).alloc (.cells #[.slice ra rn rc, (.iface T1 v1), (.iface T2 v2)] 60)).cell? ((⟨w1.heap.size + 1, 0, none⟩ : Addr).add j) = some u) := by
              have h := cell_three_new (w1.alloc (.cells #[.slice ra rn rc, (.iface T1 v1), (.iface T2 v2)] 60)) 60 (.slice ra rn rc) (.iface T1 v1) (.iface T2 v2)
              rw [World.size_alloc] at h
              exact h
            have hrow : ∀ g, u4.ownBlock = some g → w.heap.size ≤ g := fun g hg => (hown.out.lt g hg).1
            have hN1 : w.heap.size ≤ w1.heap.size := hb2.out.size
            have hstep : Hid (∀ w2, ((w1.alloc (.cells #[.slice ra rn rc, (.iface T1 v1), (.iface T2 v2)] 60)).alloc (.cells #[.slice ra rn rc, (.iface T1 v1), (.iface T2 v2)] 60)).grownBy w2 (u4.ownBlock) → Below w.heap.size w w2) := by
              intro w2 o2
              have hb3 := below_trans (below_trans hb2.out hT) hT'
              refine ⟨o2.os.trans hb3.os, o2.tape.trans hb3.tape, o2.output.trans hb3.output, Nat.le_trans hb3.size o2.size, fun i hi => ?_⟩
              exact (o2.block i (by simp; omega) (fun c => by have := hrow i c.symm; omega)).trans (hb3.block i hi)
            obtain ⟨i0, hi, hz0, hz1, hz2⟩ := info_parts Try.infoTurn
            clear hfin hst hown hbel hbA hT hT' hrow hb2
            go_wp2_with (at_builtin; refine wpList_append_own_at _ rfl _ _ 45 rfl w.heap.size 60 i0 (.agg #[.slice none 0 0, .nilIface, .nilIface]) 3 56 Try.underlying45 hi hz0 hz1 hz2 rfl (by decide) _ _ _ rfl HO.out ⟨w1.heap.size + 1, 0, none⟩ 1 1 [.slice ra rn rc, (.iface T1 v1), (.iface T2 v2)] rfl rfl hcn.out hone.out ?c3 ?c4 ?c5 ?_)
            case c3 => unfold maxLen; omega
            case c4 => omega
            case c5 => simp; omega
            · intro sv' w2 o1 o2 _ o3
              have HB2 := hide (hstep.out w2 o2)
              have HO2 := hide o1
              clear o1 o2 o3 hstep HO hcn hone hi hz0 hz1 hz2
              go_wp2_with fail
              go_roundw
              case rel => exact ⟨k + 1, _, by omega, by go_num, HO2, HB2.out, hq⟩
              case measure => simp [intOf]; omega
    · obtain rfl : k = es.length := by omega
      have hq : Hid (edsOk es = true) := by
        show edsOk es = _
        rw [HP.out, hfin.out, List.drop_eq_nil_of_le (Nat.le_refl _)]
        rfl
      have HB := hide hbel
      clear hfin hown hbel
      go_wp2_with fail
      go_ret2
      exact ⟨_, by rw [hq.out]; rfl, HB.out⟩

set_option maxRecDepth 100000 in
set_option maxHeartbeats 1000000 in
theorem implEditOk_any {d : Nat} (S : Nat → Prop) (es : List (Ed d)) (v : Value) (w : World) (hv : EdsAt S w v es) (hS : Within S w) :
    Calls Try.prog 7 #[v] w fun e w' => e = .returned (.bool (edsOk es)) ∧ Below w.heap.size w w' := by
  obtain ⟨a, cap, rfl, hlen⟩ := hv.open'
  go_enter Try.func7, Try.ntmps7
  go_wp2_with fail
  refine (turnsOf_any S es _ w hv hS).mono ?_
  rintro en w1 ⟨r, rfl, hb1⟩
  clear hv
  go_wp2_with fail
  go_ret
  exact ⟨rfl, hb1⟩
end Go.Proofs.Ytmkoeomkbbmoaaa
