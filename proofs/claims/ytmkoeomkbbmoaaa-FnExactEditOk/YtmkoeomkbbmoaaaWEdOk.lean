/- l5Edit, EditOk of the model. -/
import Derived.Test.YtmkoeomkbbmoaaaWEdSz
import Derived.Test.YtmkoeomkbbmoaaaWStepOk
namespace Go.Proofs.Ytmkoeomkbbmoaaa
open Go.RowKit Go.Deep

/-- The last step of a way is to a key. -/
def lastMap (ps : List Stp) : Bool := match ps.getLast? with | some p => p.map | none => false
theorem lastMap_nil {ps : List Stp} (h : ps.length = 0) : lastMap ps = false := by rw [List.eq_nil_of_length_eq_zero h]; rfl
theorem lastMap_at {ps : List Stp} {k : Nat} {p : Stp} (h : ps.length = k + 1) (hp : ps[k]? = some p) : lastMap ps = p.map := by
  unfold lastMap
  rw [List.getLast?_eq_getElem?, h, show k + 1 - 1 = k from rfl, hp]
/-- The way of an edit may lead to its sides. -/
def wayB {d : Nat} (e : Ed d) : Bool := pathOk e.path && ((e.had || e.has) && ((e.had && e.has) || lastMap e.path))
/-- A side is right. -/
def sideB {d : Nat} (t : Tr (d + 1)) (there : Bool) : Bool := okT (d + 1) t && (there || (Nd.kind t == 0))
/-- An edit is right. -/
def edOk {d : Nat} (e : Ed d) : Bool := sideB e.was e.had && (sideB e.now e.has && wayB e)
/-- Edits are right. -/
def edsOk {d : Nat} (es : List (Ed d)) : Bool := es.all edOk && decide (es.length ≤ 60)
theorem ValAt.kind {S : Nat → Prop} {w : World} {d : Nat} {t : Tr (d + 1)} {k : Int} {c1 c2 c3 c4 : Value} (h : ValAt S w (d + 1) t (.agg #[.int .i64 k, c1, c2, c3, c4])) : k = Nd.kind t := by
  obtain ⟨vk, vl, hv, _⟩ := h
  simp at hv
  exact hv.1
theorem edOk_path {d : Nat} {e : Ed d} (h : pathOk e.path = false) : edOk e = false := by simp [edOk, wayB, h]
theorem edOk_was {d : Nat} {e : Ed d} (h : okT (d + 1) e.was = false) : edOk e = false := by simp [edOk, sideB, h]
theorem edOk_now {d : Nat} {e : Ed d} (h : okT (d + 1) e.now = false) : edOk e = false := by simp [edOk, sideB, h]
theorem edOk_all {d : Nat} {e : Ed d} (h1 : pathOk e.path = true) (h2 : okT (d + 1) e.was = true) (h3 : okT (d + 1) e.now = true) :
    edOk e = ((e.had || (Nd.kind e.was == 0)) && ((e.has || (Nd.kind e.now == 0)) && ((e.had || e.has) && ((e.had && e.has) || lastMap e.path)))) := by simp [edOk, sideB, wayB, h1, h2, h3]

set_option maxRecDepth 100000 in
set_option maxHeartbeats 8000000 in
theorem l5Edit_any {d : Nat} (S : Nat → Prop) (e : Ed d) (a0 : Option Addr) (a1 : Nat) (p0 p1 p2 p3 p4 p5 p6 p7 p8 q0 q1 q2 q3 q4 q5 q6 q7 q8) (w : World) (hp : EdParts S w e (.slice a0 e.path.length a1) (.agg #[.int .i64 p0, .int .i64 p1, .string p2, .slice p3 p4 p5, .slice p6 p7 p8]) (.agg #[.int .i64 q0, .int .i64 q1, .string q2, .slice q3 q4 q5, .slice q6 q7 q8])) (hS : Within S w) (hsm : (nodes (d + 1) e.was : Int) ≤ 4194304) (hsm' : (nodes (d + 1) e.now : Int) ≤ 4194304) :
    Calls Try.prog 10 #[.agg #[.slice a0 e.path.length a1, .int .i64 p0, .int .i64 p1, .string p2, .slice p3 p4 p5, .slice p6 p7 p8, .bool e.had, .int .i64 q0, .int .i64 q1, .string q2, .slice q3 q4 q5, .slice q6 q7 q8, .bool e.has]] w fun en w' => en = .returned (.bool (edOk e)) ∧ Below w.heap.size w w' := by
  have hA := below_alloc1 w (.cells #[.slice a0 e.path.length a1, .int .i64 p0, .int .i64 p1, .string p2, .slice p3 p4 p5, .slice p6 p7 p8, .bool e.had, .int .i64 q0, .int .i64 q1, .string q2, .slice q3 q4 q5, .slice q6 q7 q8, .bool e.has] 43)
  have k0 := BlkL.new w 43 [.slice a0 e.path.length a1, .int .i64 p0, .int .i64 p1, .string p2, .slice p3 p4 p5, .slice p6 p7 p8, .bool e.had, .int .i64 q0, .int .i64 q1, .string q2, .slice q3 q4 q5, .slice q6 q7 q8, .bool e.has]
  obtain ⟨hst, hw, hn⟩ := hp
  obtain rfl := hw.kind
  obtain rfl := hn.kind
  go_enter Try.func10, Try.ntmps10
  go_wp2_with fail
  refine (specPathOk_any S e.path _ _ (hst.same (hS.same hA)) (hS.later hA.size)).mono ?_
  rintro en w1 ⟨rfl, hb1⟩
  replace k0 := k0.below hb1
  have hB1 := below_trans hA hb1
  clear hb1 hA
  cases h1 : pathOk e.path with
  | false =>
    have hf := hide (edOk_path h1)
    clear k0
    go_wp2_with fail
    go_ret
    rw [hf.out]
    exact ⟨rfl, hB1⟩
  | true =>
  have x1 := k0.cell 1 rfl
  have x2 := k0.cell 2 rfl
  have x3 := k0.cell 3 rfl
  have x4 := k0.cell 4 rfl
  have x5 := k0.cell 5 rfl
  go_wp2_with fail
  refine (specValOk_any (d + 1) S e.was _ w1 (hw.same (hS.same hB1)) (hS.later hB1.size) hsm).mono ?_
  rintro en w2 ⟨rfl, hb2⟩
  replace k0 := k0.below hb2
  have hB2 := below_trans hB1 hb2
  clear hb2 hB1 x1 x2 x3 x4 x5 hw
  cases h2 : okT (d + 1) e.was with
  | false =>
    have hf := hide (edOk_was h2)
    clear k0
    go_wp2_with fail
    go_ret
    rw [hf.out]
    exact ⟨rfl, hB2⟩
  | true =>
  have x7 := k0.cell 7 rfl
  have x8 := k0.cell 8 rfl
  have x9 := k0.cell 9 rfl
  have x10 := k0.cell 10 rfl
  have x11 := k0.cell 11 rfl
  go_wp2_with fail
  refine (specValOk_any (d + 1) S e.now _ w2 (hn.same (hS.same hB2)) (hS.later hB2.size) hsm').mono ?_
  rintro en w3 ⟨rfl, hb3⟩
  replace k0 := k0.below hb3
  have hB3 := below_trans hB2 hb3
  have hst3 := hst.same (hS.same hB3)
  clear hb3 hB2 x7 x8 x9 x10 x11 hn hst
  cases h3 : okT (d + 1) e.now with
  | false =>
    have hf := hide (edOk_now h3)
    clear k0
    go_wp2_with fail
    go_ret
    rw [hf.out]
    exact ⟨rfl, hB3⟩
  | true =>
  have hf := hide (edOk_all h1 h2 h3)
  have x0 := k0.cell 0 rfl
  have x1 := k0.cell 1 rfl
  have x6 := k0.cell 6 rfl
  have x7 := k0.cell 7 rfl
  have x12 := k0.cell 12 rfl
  have HB := hide hB3
  clear k0 hB3 h1 h2 h3
  cases hhad : e.had with
  | true =>
    rw [hhad] at x6
    cases hhas : e.has with
    | true =>
      rw [hhas] at x12
      have HE : Hid (edOk e = true) := by show edOk e = true; rw [hf.out, hhad, hhas]; simp
      clear hst3 hf
      go_wp2_with fail
      go_ret
      rw [HE.out]
      exact ⟨rfl, HB.out⟩
    | false =>
      rw [hhas] at x12
      by_cases hk0 : Nd.kind e.now = 0
      · have hkn : (Nd.kind e.now != 0) = false := by simp [hk0]
        rcases Nat.eq_zero_or_pos e.path.length with hl | hl
        · have hlm := hide (lastMap_nil hl)
          rw [hl] at x0
          have HE : Hid (edOk e = false) := by show edOk e = false; rw [hf.out, hlm.out, hhad, hhas]; simp
          clear hst3 hf hlm
          go_wp2_with fail
          go_ret
          rw [HE.out]
          exact ⟨rfl, HB.out⟩
        · obtain ⟨k, hk⟩ : ∃ k, e.path.length = k + 1 := ⟨e.path.length - 1, by omega⟩
          obtain ⟨b, o, p, rfl, hb, hx, _, f0, _, _⟩ := hst3.cell (k := k) (by omega)
          have hlm := hide (lastMap_at hk hx)
          rw [hk] at x0
          have HE : Hid (edOk e = p.map) := by show edOk e = p.map; rw [hf.out, hlm.out, hhad, hhas, hk0]; simp
          have c1 : ((k + 1 : Nat) : Int) - 1 = (k : Int) := by omega
          have c2 : (0 : Int) < ((k + 1 : Nat) : Int) := by omega
          have c3 : (k : Int) < ((k + 1 : Nat) : Int) := by omega
          have c4 : (k : Int) < (k : Int) + 1 := by omega
          have c5 : k + 1 < 8796093022208 := by have := hst3.1; omega
          clear hst3 hf hlm hx hk hl
          go_wp2_with fail
          go_ret
          rw [HE.out]
          exact ⟨rfl, HB.out⟩
      · have hkn : (Nd.kind e.now != 0) = true := by simp [hk0]
        have HE : Hid (edOk e = false) := by show edOk e = false; rw [hf.out, hhad, hhas]; simp [hk0]
        clear hst3 hf
        go_wp2_with fail
        go_ret
        rw [HE.out]
        exact ⟨rfl, HB.out⟩
  | false =>
    rw [hhad] at x6
    by_cases hk0 : Nd.kind e.was = 0
    · have hkn : (Nd.kind e.was != 0) = false := by simp [hk0]
      cases hhas : e.has with
      | true =>
        rw [hhas] at x12
        rcases Nat.eq_zero_or_pos e.path.length with hl | hl
        · have hlm := hide (lastMap_nil hl)
          rw [hl] at x0
          have HE : Hid (edOk e = false) := by show edOk e = false; rw [hf.out, hlm.out, hhad, hhas]; simp
          clear hst3 hf hlm
          go_wp2_with fail
          go_ret
          rw [HE.out]
          exact ⟨rfl, HB.out⟩
        · obtain ⟨k, hk⟩ : ∃ k, e.path.length = k + 1 := ⟨e.path.length - 1, by omega⟩
          obtain ⟨b, o, p, rfl, hb, hx, _, f0, _, _⟩ := hst3.cell (k := k) (by omega)
          have hlm := hide (lastMap_at hk hx)
          rw [hk] at x0
          have HE : Hid (edOk e = p.map) := by show edOk e = p.map; rw [hf.out, hlm.out, hhad, hhas, hk0]; simp
          have c1 : ((k + 1 : Nat) : Int) - 1 = (k : Int) := by omega
          have c2 : (0 : Int) < ((k + 1 : Nat) : Int) := by omega
          have c3 : (k : Int) < ((k + 1 : Nat) : Int) := by omega
          have c4 : (k : Int) < (k : Int) + 1 := by omega
          have c5 : k + 1 < 8796093022208 := by have := hst3.1; omega
          clear hst3 hf hlm hx hk hl
          go_wp2_with fail
          go_ret
          rw [HE.out]
          exact ⟨rfl, HB.out⟩
      | false =>
        rw [hhas] at x12
        have HE : Hid (edOk e = false) := by show edOk e = false; rw [hf.out, hhad, hhas]; simp
        by_cases hk1 : Nd.kind e.now = 0
        · have hkn' : (Nd.kind e.now != 0) = false := by simp [hk1]
          clear hst3 hf
          go_wp2_with fail
          go_ret
          rw [HE.out]
          exact ⟨rfl, HB.out⟩
        · have hkn' : (Nd.kind e.now != 0) = true := by simp [hk1]
          clear hst3 hf
          go_wp2_with fail
          go_ret
          rw [HE.out]
          exact ⟨rfl, HB.out⟩
    · have hkn : (Nd.kind e.was != 0) = true := by simp [hk0]
      have HE : Hid (edOk e = false) := by show edOk e = false; rw [hf.out, hhad]; simp [hk0]
      clear hst3 hf
      go_wp2_with fail
      go_ret
      rw [HE.out]
      exact ⟨rfl, HB.out⟩

theorem allEd_drop {d : Nat} {es : List (Ed d)} {k : Nat} {e : Ed d} (h : es[k]? = some e) : (es.drop k).all edOk = (edOk e && (es.drop (k + 1)).all edOk) := by
  obtain ⟨hk, c⟩ := List.getElem?_eq_some_iff.1 h
  rw [List.drop_eq_getElem_cons hk, c, List.all_cons]

set_option maxRecDepth 100000 in
set_option maxHeartbeats 2000000 in
theorem specEditOk_any {d : Nat} (S : Nat → Prop) (es : List (Ed d)) (v : Value) (w : World) (hv : EdsAt S w v es) (hS : Within S w) (hsm : ∀ e ∈ es, (nodes (d + 1) e.was : Int) ≤ 4194304 ∧ (nodes (d + 1) e.now : Int) ≤ 4194304) :
    Calls Try.prog 5 #[v] w fun e w' => e = .returned (.bool (edsOk es)) ∧ Below w.heap.size w w' := by
  obtain ⟨a, cap, rfl, hlen⟩ := hv.open'
  have HSM := hide hsm
  clear hsm
  go_enter Try.func5, Try.ntmps5
  go_wp2_with fail
  go_loopw [3] (fun i wr => ∃ (k : Nat), k ≤ es.length ∧ i = .int .i64 k ∧ Below w.heap.size w wr ∧ Hid (es.all edOk = (es.drop k).all edOk)) (fun i _ => es.length - (intOf i).toNat)
  case atStart => exact ⟨0, Nat.zero_le _, rfl, Below.refl _ _, rfl⟩
  case round =>
    obtain ⟨k, hk, rfl, hbel, hfin⟩ := hrel
    by_cases hkl : k < es.length
    · obtain ⟨b, o, e, rfl, hb, hx, a0, a1, p0, p1, p2, p3, p4, p5, p6, p7, p8, q0, q1, q2, q3, q4, q5, q6, q7, q8, e0, e1, e2, e3, e4, e5, e6, e7, e8, e9, e10, e11, e12, hp⟩ := (hv.same (hS.same hbel)).cell hkl
      have hst : Hid (_ = _) := allEd_drop hx
      have hs := hide (HSM.out e (List.mem_of_getElem? hx))
      clear hv hx
      go_wp2_with fail
      refine (l5Edit_any S e a0 a1 p0 p1 p2 p3 p4 p5 p6 p7 p8 q0 q1 q2 q3 q4 q5 q6 q7 q8 wr hp (hS.later hbel.size) hs.out.1 hs.out.2).mono ?_
      rintro en w1 ⟨rfl, hb1⟩
      have hb2 := hide (below_trans hbel hb1)
      clear hbel hb1 hp e0 e1 e2 e3 e4 e5 e6 e7 e8 e9 e10 e11 e12
      cases hf : edOk e with
      | false =>
        have hq : Hid (edsOk es = false) := by
          show edsOk es = false
          rw [edsOk, hfin.out, hst.out, hf]
          rfl
        clear hfin hst
        go_wp2_with fail
        go_ret
        rw [hq.out]
        exact ⟨rfl, hb2.out⟩
      | true =>
        have hq : Hid (es.all edOk = (es.drop (k + 1)).all edOk) := by
          show es.all edOk = _
          rw [hfin.out, hst.out, hf]
          rfl
        clear hfin hst
        go_wp2_with fail
        go_roundw
        case rel => exact ⟨k + 1, by omega, by go_num, hb2.out, hq⟩
        case measure => simp [intOf]; omega
    · obtain rfl : k = es.length := by omega
      have hq : Hid (edsOk es = decide ((es.length : Int) ≤ 60)) := by
        show edsOk es = _
        rw [edsOk, hfin.out, List.drop_eq_nil_of_le (Nat.le_refl _)]
        simp
        omega
      go_wp2_with fail
      go_ret
      rw [hq.out]
      exact ⟨rfl, hbel⟩
end Go.Proofs.Ytmkoeomkbbmoaaa
