/- sideOf, wayOfSides of the program. -/
import Derived.Test.YtmkoeomkbbmoaaaWEdOk
import Derived.Test.YtmkoeomkbbmoaaaWNoth
import Derived.Test.YtmkoeomkbbmoaaaWImplE
import Derived.Test.YtmkoeomkbbmoaaaPureOk
namespace Go.Proofs.Ytmkoeomkbbmoaaa
open Go.RowKit Go.Deep

/-- A tree of the program's, or none. -/
def TreeV (u : Value) : Prop := u = .nilIface ∨ ∃ T u', u = .iface T u'

theorem isNothing_any {d : Nat} {S : Nat → Prop} {t : Tr (d + 1)} {u : Value} {w w0 : World} (hu : TreeAt S w0 (d + 1) t u) : Calls Try.prog 40 #[u] w fun e w' => e = .returned (.bool (Nd.kind t == 0)) ∧ Below w.heap.size w w' := by
  rcases hu with ⟨_, rfl⟩ | ⟨h, rfl⟩ | ⟨h, rfl⟩ | ⟨h, sv, rfl, _⟩ | ⟨h, r, es, rfl, _⟩
  · exact isNothing_bare _ w
  · rw [h]; exact isNothing_num _ w
  · rw [h]; exact isNothing_str _ w
  · rw [h]; exact isNothing_row _ w
  · rw [h]; exact isNothing_map _ w

set_option maxRecDepth 100000 in
set_option maxHeartbeats 2000000 in
theorem sideOf_any {d : Nat} (S : Nat → Prop) (t : Tr (d + 1)) (v : Value) (there : Bool) (w : World) (hv : ValAt S w (d + 1) t v) (hS : Within S w) :
    Calls Try.prog 32 #[v, .bool there] w fun en w' => ∃ u, en = .returned (.tuple #[u, .bool (sideB t there)]) ∧ (sideB t there = true → TreeV u) ∧ Below w.heap.size w w' := by
  obtain ⟨p0, p1, p2, p3, p4, p5, p6, p7, p8, rfl⟩ := hv.shape
  have hA := below_alloc1 w (.cells #[.int .i64 p0, .int .i64 p1, .string p2, .slice p3 p4 p5, .slice p6 p7 p8] 41)
  go_enter Try.func32, Try.ntmps32
  go_wp2_with fail
  refine (treeOf_any (d + 1) S t _ _ (hv.same (hS.same hA)) (hS.later hA.size)).mono ?_
  rintro en w1 ⟨u, rfl, hu, hb1⟩
  rw [treeP_okT] at hu ⊢
  have hB := below_trans hA hb1
  clear hb1 hA hv
  cases hf : okT (d + 1) t with
  | false =>
    have HE : Hid (sideB t there = false) := by show sideB t there = false; rw [sideB, hf]; rfl
    clear hu
    go_wp2_with fail
    go_ret2
    exact ⟨u, by rw [HE.out]; rfl, fun h => (by rw [HE.out] at h; cases h), hB⟩
  | true =>
    have hu' := hu hf
    cases there with
    | true =>
      have HE : Hid (sideB t true = true) := by show sideB t true = true; rw [sideB, hf]; rfl
      have HU := hide hu'
      clear hu hu'
      go_wp2_with fail
      go_ret2
      exact ⟨u, by rw [HE.out]; rfl, fun _ => Or.inr HU.out.iface, hB⟩
    | false =>
      have HE : Hid (sideB t false = (Nd.kind t == 0)) := by show sideB t false = _; rw [sideB, hf]; simp
      have HB := hide hB
      have hcall := hide (isNothing_any (w := w1) hu')
      clear hu hu' hB
      go_wp2_with fail
      refine Calls.mono hcall.out ?_
      rintro en w2 ⟨rfl, hb2⟩
      have HB2 := hide (below_trans HB.out hb2)
      clear hb2 HB hcall
      go_wp2_with fail
      go_ret2
      exact ⟨_, by rw [HE.out]; rfl, fun _ => Or.inl rfl, HB2.out⟩

theorem wayB_path {d : Nat} {e : Ed d} (h : pathOk e.path = false) : wayB e = false := by simp [wayB, h]
theorem wayB_all {d : Nat} {e : Ed d} (h1 : pathOk e.path = true) : wayB e = ((e.had || e.has) && ((e.had && e.has) || lastMap e.path)) := by simp [wayB, h1]

set_option maxRecDepth 100000 in
set_option maxHeartbeats 8000000 in
theorem wayOfSides_any {d : Nat} (S : Nat → Prop) (e : Ed d) (a0 : Option Addr) (a1 : Nat) (p0 p1 p2 p3 p4 p5 p6 p7 p8 q0 q1 q2 q3 q4 q5 q6 q7 q8) (w : World) (hp : EdParts S w e (.slice a0 e.path.length a1) (.agg #[.int .i64 p0, .int .i64 p1, .string p2, .slice p3 p4 p5, .slice p6 p7 p8]) (.agg #[.int .i64 q0, .int .i64 q1, .string q2, .slice q3 q4 q5, .slice q6 q7 q8])) (hS : Within S w) :
    Calls Try.prog 33 #[.agg #[.slice a0 e.path.length a1, .int .i64 p0, .int .i64 p1, .string p2, .slice p3 p4 p5, .slice p6 p7 p8, .bool e.had, .int .i64 q0, .int .i64 q1, .string q2, .slice q3 q4 q5, .slice q6 q7 q8, .bool e.has]] w fun en w' => en = .returned (.bool (wayB e)) ∧ Below w.heap.size w w' := by
  have hA := below_alloc1 w (.cells #[.slice a0 e.path.length a1, .int .i64 p0, .int .i64 p1, .string p2, .slice p3 p4 p5, .slice p6 p7 p8, .bool e.had, .int .i64 q0, .int .i64 q1, .string q2, .slice q3 q4 q5, .slice q6 q7 q8, .bool e.has] 43)
  have k0 := BlkL.new w 43 [.slice a0 e.path.length a1, .int .i64 p0, .int .i64 p1, .string p2, .slice p3 p4 p5, .slice p6 p7 p8, .bool e.had, .int .i64 q0, .int .i64 q1, .string q2, .slice q3 q4 q5, .slice q6 q7 q8, .bool e.has]
  obtain ⟨hst, hw, hn⟩ := hp
  clear hw hn
  go_enter Try.func33, Try.ntmps33
  go_wp2_with fail
  refine (implPathOk_any S e.path _ _ (hst.same (hS.same hA)) (hS.later hA.size)).mono ?_
  rintro en w1 ⟨rfl, hb1⟩
  replace k0 := k0.below hb1
  have hB1 := below_trans hA hb1
  have hst3 := hst.same (hS.same hB1)
  clear hb1 hA hst
  cases h1 : pathOk e.path with
  | false =>
    have hf := hide (wayB_path h1)
    clear k0
    go_wp2_with fail
    go_ret
    rw [hf.out]
    exact ⟨rfl, hB1⟩
  | true =>
  have hf := hide (wayB_all h1)
  have x0 := k0.cell 0 rfl
  have x6 := k0.cell 6 rfl
  have x12 := k0.cell 12 rfl
  have HB := hide hB1
  clear k0 hB1 h1
  cases hhad : e.had with
  | true =>
    rw [hhad] at x6
    cases hhas : e.has with
    | true =>
      rw [hhas] at x12
      have HE : Hid (wayB e = true) := by show wayB e = true; rw [hf.out, hhad, hhas]; simp
      clear hst3 hf
      go_wp2_with fail
      go_ret
      rw [HE.out]
      exact ⟨rfl, HB.out⟩
    | false =>
      rw [hhas] at x12
      rcases Nat.eq_zero_or_pos e.path.length with hl | hl
      · have hlm := hide (lastMap_nil hl)
        rw [hl] at x0
        have HE : Hid (wayB e = false) := by show wayB e = false; rw [hf.out, hlm.out, hhad, hhas]; simp
        clear hst3 hf hlm
        go_wp2_with fail
        go_ret
        rw [HE.out]
        exact ⟨rfl, HB.out⟩
      · obtain ⟨k, hk⟩ : ∃ k, e.path.length = k + 1 := ⟨e.path.length - 1, by omega⟩
        obtain ⟨b, o, p, rfl, hb, hx, _, f0, _, _⟩ := hst3.cell (k := k) (by omega)
        have hlm := hide (lastMap_at hk hx)
        rw [hk] at x0
        have HE : Hid (wayB e = p.map) := by show wayB e = p.map; rw [hf.out, hlm.out, hhad, hhas]; simp
        have c1 : ((k + 1 : Nat) : Int) - 1 = (k : Int) := by omega
        have c2 : (0 : Int) < ((k + 1 : Nat) : Int) := by omega
        have c3 : (k : Int) < ((k + 1 : Nat) : Int) := by omega
        have c4 : (k : Int) < (k : Int) + 1 := by omega
        have c5 : k + 1 < 8796093022208 := by have := hst3.1; omega
        clear hst3 hf hlm hx hk hl
        go_wp2_with fail
        go_ret
        rw [HE.out]
        exact ⟨rfl, HB.out⟩
  | false =>
    rw [hhad] at x6
    cases hhas : e.has with
    | true =>
      rw [hhas] at x12
      rcases Nat.eq_zero_or_pos e.path.length with hl | hl
      · have hlm := hide (lastMap_nil hl)
        rw [hl] at x0
        have HE : Hid (wayB e = false) := by show wayB e = false; rw [hf.out, hlm.out, hhad, hhas]; simp
        clear hst3 hf hlm
        go_wp2_with fail
        go_ret
        rw [HE.out]
        exact ⟨rfl, HB.out⟩
      · obtain ⟨k, hk⟩ : ∃ k, e.path.length = k + 1 := ⟨e.path.length - 1, by omega⟩
        obtain ⟨b, o, p, rfl, hb, hx, _, f0, _, _⟩ := hst3.cell (k := k) (by omega)
        have hlm := hide (lastMap_at hk hx)
        rw [hk] at x0
        have HE : Hid (wayB e = p.map) := by show wayB e = p.map; rw [hf.out, hlm.out, hhad, hhas]; simp
        have c1 : ((k + 1 : Nat) : Int) - 1 = (k : Int) := by omega
        have c2 : (0 : Int) < ((k + 1 : Nat) : Int) := by omega
        have c3 : (k : Int) < ((k + 1 : Nat) : Int) := by omega
        have c4 : (k : Int) < (k : Int) + 1 := by omega
        have c5 : k + 1 < 8796093022208 := by have := hst3.1; omega
        clear hst3 hf hlm hx hk hl
        go_wp2_with fail
        go_ret
        rw [HE.out]
        exact ⟨rfl, HB.out⟩
    | false =>
      rw [hhas] at x12
      have HE : Hid (wayB e = false) := by show wayB e = false; rw [hf.out, hhad, hhas]; simp
      clear hst3 hf
      go_wp2_with fail
      go_ret
      rw [HE.out]
      exact ⟨rfl, HB.out⟩
end Go.Proofs.Ytmkoeomkbbmoaaa
