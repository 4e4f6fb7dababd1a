/- l3Step, PathOk of the model; stepOk, placeOk, PathOk of the program. -/
import Derived.Test.YtmkoeomkbbmoaaaWStep
import Derived.Test.YtmkoeomkbbmoaaaWImplA
namespace Go.Proofs.Ytmkoeomkbbmoaaa
open Go.RowKit Go.Deep

/-- A step may be on a way. -/
def stpOk (p : Stp) : Bool := if p.map = true then strOk p.key && (p.place == 0) else (p.key.toList == []) && (decide (-60 ≤ p.place) && decide (p.place < 60))
/-- Steps are a way. -/
def pathOk (ps : List Stp) : Bool := ps.all stpOk && decide (ps.length ≤ 6)
theorem stpOk_map {p : Stp} (h : p.map = true) : stpOk p = (strOk p.key && (p.place == 0)) := if_pos h
theorem stpOk_place {p : Stp} (h : p.map = false) : stpOk p = ((p.key.toList == []) && (decide (-60 ≤ p.place) && decide (p.place < 60))) := if_neg (by rw [h]; simp)

set_option maxRecDepth 100000 in
set_option maxHeartbeats 400000 in
theorem l3Step_any (p : Stp) (w : World) (hp : StpFit p) :
    Calls Try.prog 26 #[.agg #[.bool p.map, .string p.key, .int .i64 p.place]] w fun e w' => e = .returned (.bool (stpOk p)) ∧ Below w.heap.size w w' := by
  obtain ⟨hsz, _⟩ := hp
  have hA := below_alloc1 w (.cells #[.bool p.map, .string p.key, .int .i64 p.place] 54)
  cases hm : p.map with
  | true =>
    have hf := hide (stpOk_map hm)
    rw [hm] at hA
    go_enter Try.func26, Try.ntmps26
    go_wp2_with fail
    refine (l1Str_any p.key _ hsz).mono ?_
    rintro e w1 ⟨rfl, rfl⟩
    cases hs : strOk p.key with
    | false =>
      go_wp2_with fail
      go_ret
      rw [hf.out, hs]
      exact ⟨rfl, hA⟩
    | true =>
      go_wp2_with fail
      go_ret
      rw [hf.out, hs]
      exact ⟨rfl, hA⟩
  | false =>
    have hf := hide (stpOk_place hm)
    rw [hm] at hA
    cases h1 : (p.key.toList == []) with
    | false =>
      go_enter Try.func26, Try.ntmps26
      go_wp2_with fail
      go_ret
      rw [hf.out, h1]
      exact ⟨rfl, hA⟩
    | true =>
      by_cases h2 : -60 ≤ p.place
      · by_cases h3 : p.place < 60
        · go_enter Try.func26, Try.ntmps26
          go_wp2_with fail
          go_ret
          rw [hf.out, h1, decide_eq_true h2, decide_eq_true h3]
          exact ⟨rfl, hA⟩
        · go_enter Try.func26, Try.ntmps26
          go_wp2_with fail
          go_ret
          rw [hf.out, h1, decide_eq_true h2, decide_eq_false (by omega)]
          exact ⟨rfl, hA⟩
      · go_enter Try.func26, Try.ntmps26
        go_wp2_with fail
        go_ret
        rw [hf.out, h1, decide_eq_false (by omega)]
        exact ⟨rfl, hA⟩

theorem allStp_drop {ps : List Stp} {k : Nat} {p : Stp} (h : ps[k]? = some p) : (ps.drop k).all stpOk = (stpOk p && (ps.drop (k + 1)).all stpOk) := by
  obtain ⟨hk, e⟩ := List.getElem?_eq_some_iff.1 h
  rw [List.drop_eq_getElem_cons hk, e, List.all_cons]

set_option maxRecDepth 100000 in
set_option maxHeartbeats 1000000 in
theorem specPathOk_any (S : Nat → Prop) (ps : List Stp) (v : Value) (w : World) (hv : StepsAt S w v ps) (hS : Within S w) :
    Calls Try.prog 16 #[v] w fun e w' => e = .returned (.bool (pathOk ps)) ∧ Below w.heap.size w w' := by
  obtain ⟨a, cap, rfl, hlen⟩ := hv.open'
  go_enter Try.func16, Try.ntmps16
  go_wp2_with fail
  go_loopw [3] (fun i wr => ∃ (k : Nat), k ≤ ps.length ∧ i = .int .i64 k ∧ Below w.heap.size w wr ∧ Hid (ps.all stpOk = (ps.drop k).all stpOk)) (fun i _ => ps.length - (intOf i).toNat)
  case atStart => exact ⟨0, Nat.zero_le _, rfl, Below.refl _ _, rfl⟩
  case round =>
    obtain ⟨k, hk, rfl, hbel, hfin⟩ := hrel
    by_cases hkl : k < ps.length
    · obtain ⟨b, o, p, rfl, hb, hx, hp, e0, e1, e2⟩ := (hv.same (hS.same hbel)).cell hkl
      have hst : Hid (_ = _) := allStp_drop hx
      clear hv hx
      go_wp2_with fail
      refine (l3Step_any p wr hp).mono ?_
      rintro e w1 ⟨rfl, hb1⟩
      have hb2 := hide (below_trans hbel hb1)
      clear hbel hb1 e0 e1 e2
      cases hf : stpOk p with
      | false =>
        have hq : Hid (pathOk ps = false) := by
          show pathOk ps = false
          rw [pathOk, hfin.out, hst.out, hf]
          rfl
        clear hfin hst
        go_wp2_with fail
        go_ret
        rw [hq.out]
        exact ⟨rfl, hb2.out⟩
      | true =>
        have hq : Hid (ps.all stpOk = (ps.drop (k + 1)).all stpOk) := by
          show ps.all stpOk = _
          rw [hfin.out, hst.out, hf]
          rfl
        clear hfin hst
        go_wp2_with fail
        go_roundw
        case rel => exact ⟨k + 1, by omega, by go_num, hb2.out, hq⟩
        case measure => simp [intOf]; omega
    · obtain rfl : k = ps.length := by omega
      have hq : Hid (pathOk ps = decide ((ps.length : Int) ≤ 6)) := by
        show pathOk ps = _
        rw [pathOk, hfin.out, List.drop_eq_nil_of_le (Nat.le_refl _)]
        simp
        omega
      go_wp2_with fail
      go_ret
      rw [hq.out]
      exact ⟨rfl, hbel⟩

set_option maxRecDepth 100000 in
set_option maxHeartbeats 400000 in
theorem placeOk_any (n : Int) (w : World) : Calls Try.prog 51 #[.int .i64 n] w fun e w' => e = .returned (.bool (decide (-60 ≤ n) && decide (n < 60))) ∧ w' = w := by
  generalize hr : (decide (-60 ≤ n) && decide (n < 60)) = r
  by_cases h2 : -60 ≤ n
  · by_cases h3 : n < 60
    · have HB : Hid (r = true) := by show r = _; rw [← hr]; simp [h2, h3]
      clear hr
      go_enter Try.func51, Try.ntmps51
      go_wp2_with fail
      go_ret
      rw [HB.out]
      exact ⟨rfl, rfl⟩
    · have HB : Hid (r = false) := by show r = _; rw [← hr]; simp [h2, h3]
      clear hr
      go_enter Try.func51, Try.ntmps51
      go_wp2_with fail
      go_ret
      rw [HB.out]
      exact ⟨rfl, rfl⟩
  · have HB : Hid (r = false) := by show r = _; rw [← hr]; simp [h2]
    clear hr
    go_enter Try.func51, Try.ntmps51
    go_wp2_with fail
    go_ret
    rw [HB.out]
    exact ⟨rfl, rfl⟩

set_option maxRecDepth 100000 in
set_option maxHeartbeats 400000 in
theorem stepOk_any (p : Stp) (w : World) (hp : StpFit p) :
    Calls Try.prog 43 #[.agg #[.bool p.map, .string p.key, .int .i64 p.place]] w fun e w' => e = .returned (.bool (stpOk p)) ∧ Below w.heap.size w w' := by
  obtain ⟨hsz, _⟩ := hp
  have hA := below_alloc1 w (.cells #[.bool p.map, .string p.key, .int .i64 p.place] 54)
  cases hm : p.map with
  | true =>
    have hf := hide (stpOk_map hm)
    rw [hm] at hA
    have hc0 : ∀ w', Below (w.alloc (.cells #[.bool true, .string p.key, .int .i64 p.place] 54)).heap.size (w.alloc (.cells #[.bool true, .string p.key, .int .i64 p.place] 54)) w' → w'.cell? ⟨w.heap.size, 2, none⟩ = some (.int .i64 p.place) := fun w' hb => by
      rw [hb.cell (p := ⟨w.heap.size, 2, none⟩) (by simp)]
      simp
    go_enter Try.func43, Try.ntmps43
    go_wp2_with fail
    refine (textOk_any p.key _ hsz).mono ?_
    rintro e w1 ⟨rfl, hb1⟩
    have hc1 := hc0 w1 hb1
    have hB := below_trans hA hb1
    clear hb1 hA hc0
    cases hs : strOk p.key with
    | false =>
      go_wp2_with fail
      go_ret
      rw [hf.out, hs]
      exact ⟨rfl, hB⟩
    | true =>
      go_wp2_with fail
      go_ret
      rw [hf.out, hs]
      exact ⟨rfl, hB⟩
  | false =>
    have hf := hide (stpOk_place hm)
    rw [hm] at hA
    cases h1 : (p.key.toList == []) with
    | false =>
      go_enter Try.func43, Try.ntmps43
      go_wp2_with fail
      go_ret
      rw [hf.out, h1]
      exact ⟨rfl, hA⟩
    | true =>
      go_enter Try.func43, Try.ntmps43
      go_wp2_with fail
      refine (placeOk_any p.place _).mono ?_
      rintro e w1 ⟨rfl, rfl⟩
      go_wp2_with fail
      go_ret
      rw [hf.out, h1]
      exact ⟨rfl, hA⟩

set_option maxRecDepth 100000 in
set_option maxHeartbeats 1000000 in
theorem implPathOk_any (S : Nat → Prop) (ps : List Stp) (v : Value) (w : World) (hv : StepsAt S w v ps) (hS : Within S w) :
    Calls Try.prog 41 #[v] w fun e w' => e = .returned (.bool (pathOk ps)) ∧ Below w.heap.size w w' := by
  obtain ⟨a, cap, rfl, hlen⟩ := hv.open'
  by_cases h6 : 6 < ps.length
  · have hq : Hid (pathOk ps = false) := by
      show pathOk ps = false
      rw [pathOk, decide_eq_false (by omega), Bool.and_false]
    go_enter Try.func41, Try.ntmps41
    go_wp2_with fail
    go_ret
    rw [hq.out]
    exact ⟨rfl, Below.refl _ _⟩
  have h6' : (ps.length : Int) ≤ 6 := by omega
  have HP : Hid (pathOk ps = ps.all stpOk) := by
    show pathOk ps = _
    rw [pathOk, decide_eq_true (by omega), Bool.and_true]
  go_enter Try.func41, Try.ntmps41
  go_wp2_with fail
  go_loopw [10] (fun i wr => ∃ (k : Nat), k ≤ ps.length ∧ i = .int .i64 k ∧ Below w.heap.size w wr ∧ Hid (ps.all stpOk = (ps.drop k).all stpOk)) (fun i _ => ps.length - (intOf i).toNat)
  case atStart => exact ⟨0, Nat.zero_le _, rfl, Below.refl _ _, rfl⟩
  case round =>
    obtain ⟨k, hk, rfl, hbel, hfin⟩ := hrel
    by_cases hkl : k < ps.length
    · obtain ⟨b, o, p, rfl, hb, hx, hp, e0, e1, e2⟩ := (hv.same (hS.same hbel)).cell hkl
      have hst : Hid (_ = _) := allStp_drop hx
      clear hv hx
      have hA := below_alloc1 wr (.cells #[.bool p.map, .string p.key, .int .i64 p.place] 54)
      go_wp2_with fail
      refine (stepOk_any p _ hp).mono ?_
      rintro e w1 ⟨rfl, hb1⟩
      have hb2 := hide (below_trans hbel (below_trans hA hb1))
      clear hbel hb1 e0 e1 e2 hA
      cases hf : stpOk p with
      | false =>
        have hq : Hid (pathOk ps = false) := by
          show pathOk ps = false
          rw [HP.out, hfin.out, hst.out, hf]
          rfl
        clear hfin hst
        go_wp2_with fail
        go_ret
        rw [hq.out]
        exact ⟨rfl, hb2.out⟩
      | true =>
        have hq : Hid (ps.all stpOk = (ps.drop (k + 1)).all stpOk) := by
          show ps.all stpOk = _
          rw [hfin.out, hst.out, hf]
          rfl
        clear hfin hst
        go_wp2_with fail
        go_roundw
        case rel => exact ⟨k + 1, by omega, by go_num, hb2.out, hq⟩
        case measure => simp [intOf]; omega
    · obtain rfl : k = ps.length := by omega
      have hq : Hid (pathOk ps = true) := by
        show pathOk ps = _
        rw [HP.out, hfin.out, List.drop_eq_nil_of_le (Nat.le_refl _)]
        rfl
      go_wp2_with fail
      go_ret
      rw [hq.out]
      exact ⟨rfl, hbel⟩
end Go.Proofs.Ytmkoeomkbbmoaaa
