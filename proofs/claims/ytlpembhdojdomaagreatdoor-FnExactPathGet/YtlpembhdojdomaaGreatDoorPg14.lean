/- Texts of the proof, put together by program: WStepOk, WPathP, WAppS, WMarkT. -/
import Derived.Test.YtlpembhdojdomaaGreatDoorPg13
import Derived.Test.YtlpembhdojdomaaGreatDoorPg4
import Derived.Test.YtlpembhdojdomaaGreatDoorPg9
import Derived.Maps.AppendAt
import Derived.Test.YtlpembhdojdomaaGreatDoorPg12
import Derived.Laws.IdiomStrings
/- l3Step, PathOk of the model; stepOk, placeOk, PathOk of the program. -/
namespace Go.Proofs.YtlpembhdojdomaaGreatDoor
open Go.RowKit Go.Deep

/-- A step may be on a way. -/
def stpOk (p : Stp) : Bool := if p.map = true then strOk p.key && (p.place == 0) else (p.key.toList == []) && (decide (-60 ≤ p.place) && decide (p.place < 60))
/-- Steps are a way. -/
def pathOk (ps : List Stp) : Bool := ps.all stpOk && decide (ps.length ≤ 6)
theorem stpOk_map {p : Stp} (h : p.map = true) : stpOk p = (strOk p.key && (p.place == 0)) := if_pos h
theorem stpOk_place {p : Stp} (h : p.map = false) : stpOk p = ((p.key.toList == []) && (decide (-60 ≤ p.place) && decide (p.place < 60))) := if_neg (by rw [h]; simp)

set_option maxRecDepth 100000 in
set_option maxHeartbeats 400000 in
theorem l3Step_any (p : Stp) (w : World) (hp : StpFit p) :
    Calls Tryz.prog 68 #[.agg #[.bool p.map, .string p.key, .int .i64 p.place]] w fun e w' => e = .returned (.bool (stpOk p)) ∧ Below w.heap.size w w' := by
  obtain ⟨hsz, _⟩ := hp
  have hA := below_alloc1 w (.cells #[.bool p.map, .string p.key, .int .i64 p.place] 85)
  cases hm : p.map with
  | true =>
    have hf := hide (stpOk_map hm)
    rw [hm] at hA
    go_enter Tryz.func68, Tryz.ntmps68
    go_wp2_with fail
    refine (l1Str_any p.key _ hsz).mono ?_
    rintro e w1 ⟨rfl, rfl⟩
    cases hs : strOk p.key with
    | false =>
      go_wp2_with fail
      go_ret
      rw [hf.out, hs]
      exact ⟨rfl, hA⟩
    | true =>
      go_wp2_with fail
      go_ret
      rw [hf.out, hs]
      exact ⟨rfl, hA⟩
  | false =>
    have hf := hide (stpOk_place hm)
    rw [hm] at hA
    cases h1 : (p.key.toList == []) with
    | false =>
      go_enter Tryz.func68, Tryz.ntmps68
      go_wp2_with fail
      go_ret
      rw [hf.out, h1]
      exact ⟨rfl, hA⟩
    | true =>
      by_cases h2 : -60 ≤ p.place
      · by_cases h3 : p.place < 60
        · go_enter Tryz.func68, Tryz.ntmps68
          go_wp2_with fail
          go_ret
          rw [hf.out, h1, decide_eq_true h2, decide_eq_true h3]
          exact ⟨rfl, hA⟩
        · go_enter Tryz.func68, Tryz.ntmps68
          go_wp2_with fail
          go_ret
          rw [hf.out, h1, decide_eq_true h2, decide_eq_false (by omega)]
          exact ⟨rfl, hA⟩
      · go_enter Tryz.func68, Tryz.ntmps68
        go_wp2_with fail
        go_ret
        rw [hf.out, h1, decide_eq_false (by omega)]
        exact ⟨rfl, hA⟩

theorem allStp_drop {ps : List Stp} {k : Nat} {p : Stp} (h : ps[k]? = some p) : (ps.drop k).all stpOk = (stpOk p && (ps.drop (k + 1)).all stpOk) := by
  obtain ⟨hk, e⟩ := List.getElem?_eq_some_iff.1 h
  rw [List.drop_eq_getElem_cons hk, e, List.all_cons]

set_option maxRecDepth 100000 in
set_option maxHeartbeats 1000000 in
theorem specPathOk_any (S : Nat → Prop) (ps : List Stp) (v : Value) (w : World) (hv : StepsAt S w v ps) (hS : Within S w) :
    Calls Tryz.prog 51 #[v] w fun e w' => e = .returned (.bool (pathOk ps)) ∧ Below w.heap.size w w' := by
  obtain ⟨a, cap, rfl, hlen⟩ := hv.open'
  go_enter Tryz.func51, Tryz.ntmps51
  go_wp2_with fail
  go_loopw [3] (fun i wr => ∃ (k : Nat), k ≤ ps.length ∧ i = .int .i64 k ∧ Below w.heap.size w wr ∧ Hid (ps.all stpOk = (ps.drop k).all stpOk)) (fun i _ => ps.length - (intOf i).toNat)
  case atStart => exact ⟨0, Nat.zero_le _, rfl, Below.refl _ _, rfl⟩
  case round =>
    obtain ⟨k, hk, rfl, hbel, hfin⟩ := hrel
    by_cases hkl : k < ps.length
    · obtain ⟨b, o, p, rfl, hb, hx, hp, e0, e1, e2⟩ := (hv.same (hS.same hbel)).cell hkl
      have hst : Hid (_ = _) := allStp_drop hx
      clear hv hx
      go_wp2_with fail
      refine (l3Step_any p wr hp).mono ?_
      rintro e w1 ⟨rfl, hb1⟩
      have hb2 := hide (below_trans hbel hb1)
      clear hbel hb1 e0 e1 e2
      cases hf : stpOk p with
      | false =>
        have hq : Hid (pathOk ps = false) := by
          show pathOk ps = false
          rw [pathOk, hfin.out, hst.out, hf]
          rfl
        clear hfin hst
        go_wp2_with fail
        go_ret
        rw [hq.out]
        exact ⟨rfl, hb2.out⟩
      | true =>
        have hq : Hid (ps.all stpOk = (ps.drop (k + 1)).all stpOk) := by
          show ps.all stpOk = _
          rw [hfin.out, hst.out, hf]
          rfl
        clear hfin hst
        go_wp2_with fail
        go_roundw
        case rel => exact ⟨k + 1, by omega, by go_num, hb2.out, hq⟩
        case measure => simp [intOf]; omega
    · obtain rfl : k = ps.length := by omega
      have hq : Hid (pathOk ps = decide ((ps.length : Int) ≤ 6)) := by
        show pathOk ps = _
        rw [pathOk, hfin.out, List.drop_eq_nil_of_le (Nat.le_refl _)]
        simp
        omega
      go_wp2_with fail
      go_ret
      rw [hq.out]
      exact ⟨rfl, hbel⟩

set_option maxRecDepth 100000 in
set_option maxHeartbeats 400000 in
theorem placeOk_any (n : Int) (w : World) : Calls Tryz.prog 95 #[.int .i64 n] w fun e w' => e = .returned (.bool (decide (-60 ≤ n) && decide (n < 60))) ∧ w' = w := by
  generalize hr : (decide (-60 ≤ n) && decide (n < 60)) = r
  by_cases h2 : -60 ≤ n
  · by_cases h3 : n < 60
    · have HB : Hid (r = true) := by show r = _; rw [← hr]; simp [h2, h3]
      clear hr
      go_enter Tryz.func95, Tryz.ntmps95
      go_wp2_with fail
      go_ret
      rw [HB.out]
      exact ⟨rfl, rfl⟩
    · have HB : Hid (r = false) := by show r = _; rw [← hr]; simp [h2, h3]
      clear hr
      go_enter Tryz.func95, Tryz.ntmps95
      go_wp2_with fail
      go_ret
      rw [HB.out]
      exact ⟨rfl, rfl⟩
  · have HB : Hid (r = false) := by show r = _; rw [← hr]; simp [h2]
    clear hr
    go_enter Tryz.func95, Tryz.ntmps95
    go_wp2_with fail
    go_ret
    rw [HB.out]
    exact ⟨rfl, rfl⟩

set_option maxRecDepth 100000 in
set_option maxHeartbeats 400000 in
theorem stepOk_any (p : Stp) (w : World) (hp : StpFit p) :
    Calls Tryz.prog 81 #[.agg #[.bool p.map, .string p.key, .int .i64 p.place]] w fun e w' => e = .returned (.bool (stpOk p)) ∧ Below w.heap.size w w' := by
  obtain ⟨hsz, _⟩ := hp
  have hA := below_alloc1 w (.cells #[.bool p.map, .string p.key, .int .i64 p.place] 85)
  cases hm : p.map with
  | true =>
    have hf := hide (stpOk_map hm)
    rw [hm] at hA
    have hc0 : ∀ w', Below (w.alloc (.cells #[.bool true, .string p.key, .int .i64 p.place] 85)).heap.size (w.alloc (.cells #[.bool true, .string p.key, .int .i64 p.place] 85)) w' → w'.cell? ⟨w.heap.size, 2, none⟩ = some (.int .i64 p.place) := fun w' hb => by
      rw [hb.cell (p := ⟨w.heap.size, 2, none⟩) (by simp)]
      simp
    go_enter Tryz.func81, Tryz.ntmps81
    go_wp2_with fail
    refine (textOk_any p.key _ hsz).mono ?_
    rintro e w1 ⟨rfl, hb1⟩
    have hc1 := hc0 w1 hb1
    have hB := below_trans hA hb1
    clear hb1 hA hc0
    cases hs : strOk p.key with
    | false =>
      go_wp2_with fail
      go_ret
      rw [hf.out, hs]
      exact ⟨rfl, hB⟩
    | true =>
      go_wp2_with fail
      go_ret
      rw [hf.out, hs]
      exact ⟨rfl, hB⟩
  | false =>
    have hf := hide (stpOk_place hm)
    rw [hm] at hA
    cases h1 : (p.key.toList == []) with
    | false =>
      go_enter Tryz.func81, Tryz.ntmps81
      go_wp2_with fail
      go_ret
      rw [hf.out, h1]
      exact ⟨rfl, hA⟩
    | true =>
      go_enter Tryz.func81, Tryz.ntmps81
      go_wp2_with fail
      refine (placeOk_any p.place _).mono ?_
      rintro e w1 ⟨rfl, rfl⟩
      go_wp2_with fail
      go_ret
      rw [hf.out, h1]
      exact ⟨rfl, hA⟩

set_option maxRecDepth 100000 in
set_option maxHeartbeats 1000000 in
theorem implPathOk_any (S : Nat → Prop) (ps : List Stp) (v : Value) (w : World) (hv : StepsAt S w v ps) (hS : Within S w) :
    Calls Tryz.prog 70 #[v] w fun e w' => e = .returned (.bool (pathOk ps)) ∧ Below w.heap.size w w' := by
  obtain ⟨a, cap, rfl, hlen⟩ := hv.open'
  by_cases h6 : 6 < ps.length
  · have hq : Hid (pathOk ps = false) := by
      show pathOk ps = false
      rw [pathOk, decide_eq_false (by omega), Bool.and_false]
    go_enter Tryz.func70, Tryz.ntmps70
    go_wp2_with fail
    go_ret
    rw [hq.out]
    exact ⟨rfl, Below.refl _ _⟩
  have h6' : (ps.length : Int) ≤ 6 := by omega
  have HP : Hid (pathOk ps = ps.all stpOk) := by
    show pathOk ps = _
    rw [pathOk, decide_eq_true (by omega), Bool.and_true]
  go_enter Tryz.func70, Tryz.ntmps70
  go_wp2_with fail
  go_loopw [10] (fun i wr => ∃ (k : Nat), k ≤ ps.length ∧ i = .int .i64 k ∧ Below w.heap.size w wr ∧ Hid (ps.all stpOk = (ps.drop k).all stpOk)) (fun i _ => ps.length - (intOf i).toNat)
  case atStart => exact ⟨0, Nat.zero_le _, rfl, Below.refl _ _, rfl⟩
  case round =>
    obtain ⟨k, hk, rfl, hbel, hfin⟩ := hrel
    by_cases hkl : k < ps.length
    · obtain ⟨b, o, p, rfl, hb, hx, hp, e0, e1, e2⟩ := (hv.same (hS.same hbel)).cell hkl
      have hst : Hid (_ = _) := allStp_drop hx
      clear hv hx
      have hA := below_alloc1 wr (.cells #[.bool p.map, .string p.key, .int .i64 p.place] 85)
      go_wp2_with fail
      refine (stepOk_any p _ hp).mono ?_
      rintro e w1 ⟨rfl, hb1⟩
      have hb2 := hide (below_trans hbel (below_trans hA hb1))
      clear hbel hb1 e0 e1 e2 hA
      cases hf : stpOk p with
      | false =>
        have hq : Hid (pathOk ps = false) := by
          show pathOk ps = false
          rw [HP.out, hfin.out, hst.out, hf]
          rfl
        clear hfin hst
        go_wp2_with fail
        go_ret
        rw [hq.out]
        exact ⟨rfl, hb2.out⟩
      | true =>
        have hq : Hid (ps.all stpOk = (ps.drop (k + 1)).all stpOk) := by
          show ps.all stpOk = _
          rw [hfin.out, hst.out, hf]
          rfl
        clear hfin hst
        go_wp2_with fail
        go_roundw
        case rel => exact ⟨k + 1, by omega, by go_num, hb2.out, hq⟩
        case measure => simp [intOf]; omega
    · obtain rfl : k = ps.length := by omega
      have hq : Hid (pathOk ps = true) := by
        show pathOk ps = _
        rw [HP.out, hfin.out, List.drop_eq_nil_of_le (Nat.le_refl _)]
        rfl
      go_wp2_with fail
      go_ret
      rw [hq.out]
      exact ⟨rfl, hbel⟩
end Go.Proofs.YtlpembhdojdomaaGreatDoor

/- What lies at the end of a way. -/
namespace Go.Proofs.YtlpembhdojdomaaGreatDoor
open Go.RowKit Go.Deep

/-- One step into a tree. -/
def stepT (d : Nat) (t : Tr (d + 2)) (p : Stp) : Tr (d + 2) × Bool :=
  if p.map = true then (up (d + 1) (partGetT d t p.key).1, (partGetT d t p.key).2) else (up (d + 1) (partAtT d t p.place).1, (partAtT d t p.place).2)
theorem stepT_map {d : Nat} {t : Tr (d + 2)} {p : Stp} (h : p.map = true) : stepT d t p = (up (d + 1) (partGetT d t p.key).1, (partGetT d t p.key).2) := if_pos h
theorem stepT_place {d : Nat} {t : Tr (d + 2)} {p : Stp} (h : p.map = false) : stepT d t p = (up (d + 1) (partAtT d t p.place).1, (partAtT d t p.place).2) := if_neg (by rw [h]; simp)
/-- All steps of a way, one behind the other. -/
def alongT (d : Nat) : Tr (d + 2) → List Stp → Tr (d + 2) × Bool
  | t, [] => (t, true)
  | t, p :: r => if (stepT d t p).2 = true then alongT d (stepT d t p).1 r else (zeroT (d + 1), false)
def pathGetT (d : Nat) (t : Tr (d + 2)) (ps : List Stp) : Tr (d + 2) × Bool := if okT (d + 2) t = true ∧ pathOk ps = true then alongT d t ps else (zeroT (d + 1), false)

theorem okT_step (d : Nat) (t : Tr (d + 2)) (p : Stp) : okT (d + 2) (stepT d t p).1 = true := by
  unfold stepT
  split
  · rw [okT_lift]
    exact okT_partGet d t p.key
  · rw [okT_lift]
    exact okT_partAt d t p.place
theorem okT_along (d : Nat) : ∀ (ps : List Stp) (t : Tr (d + 2)), okT (d + 2) t = true → okT (d + 2) (alongT d t ps).1 = true
  | [], _, h => h
  | p :: r, t, _ => by
    rw [alongT]
    split
    · exact okT_along d r _ (okT_step d t p)
    · exact okT_zero (d + 1)
theorem okT_pathGet (d : Nat) (t : Tr (d + 2)) (ps : List Stp) : okT (d + 2) (pathGetT d t ps).1 = true := by
  unfold pathGetT
  split
  · rename_i h
    exact okT_along d ps t h.1
  · exact okT_zero (d + 1)
theorem alongT_on {d : Nat} {t : Tr (d + 2)} {ps : List Stp} {k : Nat} {p : Stp} (hp : ps[k]? = some p) (h : (stepT d t p).2 = true) : alongT d t (ps.drop k) = alongT d (stepT d t p).1 (ps.drop (k + 1)) := by
  obtain ⟨hk, e⟩ := List.getElem?_eq_some_iff.1 hp
  rw [List.drop_eq_getElem_cons hk, e, alongT, if_pos h]
theorem alongT_off {d : Nat} {t : Tr (d + 2)} {ps : List Stp} {k : Nat} {p : Stp} (hp : ps[k]? = some p) (h : (stepT d t p).2 = false) : alongT d t (ps.drop k) = (zeroT (d + 1), false) := by
  obtain ⟨hk, e⟩ := List.getElem?_eq_some_iff.1 hp
  rw [List.drop_eq_getElem_cons hk, e, alongT, if_neg (by rw [h]; simp)]
theorem alongT_end {d : Nat} {t : Tr (d + 2)} {ps : List Stp} : alongT d t (ps.drop ps.length) = (t, true) := by
  rw [List.drop_eq_nil_of_le (Nat.le_refl _), alongT]
theorem stpOk_of {ps : List Stp} {p : Stp} {k : Nat} (h : pathOk ps = true) (hp : ps[k]? = some p) : stpOk p = true := by
  unfold pathOk at h
  rw [Bool.and_eq_true] at h
  exact List.all_eq_true.1 h.1 p (List.mem_of_getElem? hp)
theorem strOk_of {p : Stp} (h : stpOk p = true) (hm : p.map = true) : strOk p.key = true := by
  rw [stpOk_map hm, Bool.and_eq_true] at h
  exact h.1
/-- What is told when a step can not be done is nothing. -/
theorem step_off {d : Nat} {t : Tr (d + 2)} {p : Stp} (h : (stepT d t p).2 = false) : (stepT d t p).1 = zeroT (d + 1) := by
  unfold stepT at h ⊢
  split at h
  · rename_i hm
    rw [if_pos hm]
    have h : (partGetT d t p.key).2 = false := h
    show up (d + 1) (partGetT d t p.key).1 = _
    unfold partGetT at h ⊢
    split at h
    · rename_i h1
      rw [if_pos h1]
      split at h
      · cases h
      rename_i h2
      rw [if_neg h2]
      split at h
      · cases h
      rename_i h3
      rw [if_neg h3]
      rfl
    · rename_i h1
      rw [if_neg h1]
      rfl
  · rename_i hm
    rw [if_neg hm]
    have h : (partAtT d t p.place).2 = false := h
    show up (d + 1) (partAtT d t p.place).1 = _
    unfold partAtT at h ⊢
    split at h
    · rename_i h1
      rw [if_pos h1]
      split at h
      · cases h
      rename_i h2
      rw [if_neg h2]
      split at h
      · cases h
      rename_i h3
      rw [if_neg h3]
      rfl
    · rename_i h1
      rw [if_neg h1]
      rfl
end Go.Proofs.YtlpembhdojdomaaGreatDoor

/- append of texts onto a row of nothing; of a run of append in a region that draws. -/
namespace Go.Proofs.YtlpembhdojdomaaGreatDoor
open Go.RowKit Go.Deep

/-- What an append does, as one step of a region that draws. -/
theorem step_append_run {P : Program} {ops : Array Oper} {o : Oper} {a : Act} {w : World} {K : Act → World → Prop} {Q : Exit → Act → World → Prop} {E : Prop} (Φ : Value → World → Prop)
    (hg : o.guard = none) (s x : Operand) (t : TypeId) (hop : o.op = Op.call { callee := Callee.builtin Builtin.append, args := #[s, x], argTypes := #[t, t] }) (vs vx : Value) (hs : a.eval s = vs) (hx : a.eval x = vx)
    (hrun : ∃ v' w', (Builtin.append_ #[t, t] o.type #[vs, vx]).run P w = .ok v' w' ∧ Φ v' w') (hK : ∀ v' w', Φ v' w' → K (a.put o.dst v') w') :
    if Region.wanted o (yielded ops a.tmps) = true then Oper.wp P o a w K Q else E := by
  have hw : Region.wanted o (yielded ops a.tmps) = true := by simp [Region.wanted, hg]
  rw [if_pos hw]
  obtain ⟨v', w', hr, hφ⟩ := hrun
  unfold Oper.wp
  simp [execOp, hop, resolve, invoke, builtin, hs, hx, hr, Result.andThen]
  exact hK v' w' hφ

theorem Tryz.infoS2 : (Tryz.prog.info? 9).map (fun i => (i.zero, i.size, i.bytes)) = some (some (.string ByteArray.empty), 1, 16) := by kernel_rfl

/-- Texts, copied behind nothing. -/
theorem run_append_strs (S : Nat → Prop) (ss : List ByteArray) (ak : Option Addr) (ck g : Nat) (ty : TypeId) (w : World) (hg : w.heap[g]? = some (.cells #[] 9 (0, 0))) (hv : StrsAt S w (.slice ak ss.length ck) ss) (hsm : ss.length ≤ 4194304) :
    ∃ v' w', (Builtin.append_ #[22, 22] ty #[.slice (some ⟨g, 0, none⟩) 0 0, .slice ak ss.length ck]).run Tryz.prog w = .ok v' w' ∧
      (StrsOwn (fun b => b = g ∨ b = w.heap.size) w' v' ss ∧ w.grownBy w' (some g)) := by
  obtain ⟨i0, hi, hz0, hz1, hz2⟩ := info_parts Tryz.infoS2
  have hgl := (Array.getElem?_eq_some_iff.1 hg).1
  have hu : Tryz.prog.underlying 22 = some (.slice 9) := Tryz.underlying22
  by_cases h0 : ss = []
  · subst h0
    refine ⟨.slice (some ⟨g, 0, none⟩) 0 0, w, ?_, ⟨by simp, by simp, _, _, rfl, Or.inl rfl⟩, ⟨rfl, rfl, rfl, Nat.le_refl _, fun _ _ _ => rfl⟩⟩
    cases ak with
    | none => simp [Builtin.append_, run_underlying hu, sizeOf, typeInfo, hi, Builtin.lenOf, Builtin.firstCells, loadCells, loadCellsFrom, storeCells, Result.andThen]
    | some a => simp [Builtin.append_, run_underlying hu, sizeOf, typeInfo, hi, Builtin.lenOf, Builtin.firstCells, loadCells, loadCellsFrom, storeCells, Result.andThen]
  · have hpos : 0 < ss.length := List.length_pos_iff.2 h0
    obtain ⟨b, o, _, rfl, _⟩ := hv.cell hpos
    have hown : w.ownsRow g 9 1 (.slice (some ⟨g, 0, none⟩) 0 0) 0 [] := ⟨by simp, .inr ⟨g, 0, #[], rfl, Nat.le_refl _, hg, Nat.le_refl _, Nat.zero_le _, by simp, by simp⟩⟩
    have hnews : ∀ j u, (ss.map Value.string)[j]? = some u → w.cell? ((⟨b, o, none⟩ : Addr).add j) = some u := by
      intro j u hj
      rw [List.getElem?_map, Option.map_eq_some_iff] at hj
      obtain ⟨s, hs, rfl⟩ := hj
      have hjl := (List.getElem?_eq_some_iff.1 hs).1
      obtain ⟨b', o', s', e', _, hs', _, hc⟩ := hv.cell hjl
      cases e'
      rw [hs] at hs'
      cases hs'
      have hadd : (⟨b, o, none⟩ : Addr).add j = ⟨b, o + j, none⟩ := by unfold Addr.add; split <;> simp_all
      rw [hadd]
      exact hc
    obtain ⟨v', w', hr, ho, hgr, _, hat⟩ := run_append_own_at (P := Tryz.prog) w g 22 ty 9 i0 (.string ByteArray.empty) 1 16 hu hi hz0 hz1 hz2 rfl (by decide) _ 0 [] hown ⟨b, o, none⟩ ss.length ck (ss.map Value.string) (by simp) hnews
      (fun u hu => by obtain ⟨s, _, rfl⟩ := List.mem_map.1 hu; rfl) (by unfold maxLen; omega) (by omega) (by omega)
    rw [Nat.zero_add, List.nil_append] at ho
    refine ⟨v', w', hr, ?_, hgr⟩
    obtain ⟨_, h2, _⟩ := hv
    obtain ⟨q1, q2, a, cap, hv', hq⟩ := strsOwn_of_row ho rfl (by omega) h2
    refine ⟨q1, q2, a, cap, hv', ?_⟩
    rcases hq with hq | ⟨b', n', f', _, ha', hr'⟩
    · exact absurd hq h0
    · refine Or.inr ⟨b', n', f', ?_, ha', hr'⟩
      have hob : v'.ownBlock = some b' := by rw [hv', ha']; rfl
      rw [hob] at hat
      rcases hat with h | h
      · exact Or.inl (Option.some.inj h)
      · exact Or.inr (Option.some.inj h)
end Go.Proofs.YtlpembhdojdomaaGreatDoor

/- markText: the text of a mark. -/
namespace Go.Proofs.YtlpembhdojdomaaGreatDoor
open Go.RowKit Go.Deep

theorem digit_string (m : Nat) (w : World) : (convert 120 9 (.slice (some ⟨w.heap.size, 0, none⟩) 1 1)).run Tryz.prog (w.alloc (.cells #[.int .u8 (48 + (m : Int) % 10)] 5)) =
    .ok (.string ⟨#[dg m]⟩) (w.alloc (.cells #[.int .u8 (48 + (m : Int) % 10)] 5)) := by
  refine run_convert_bytes_back (P := Tryz.prog) (w.alloc (.cells #[.int .u8 (48 + (m : Int) % 10)] 5)) 120 9 5 ⟨w.heap.size, 0, none⟩ 1 [dg m] Tryz.underlying120 Tryz.underlying5 Tryz.underlying9 (fun j hj => ?_)
  obtain rfl : j = 0 := by simpa using hj
  have h0 : (⟨w.heap.size, 0, none⟩ : Addr).add 0 = ⟨w.heap.size, 0, none⟩ := by simp [Addr.add]
  rw [h0]
  simp [dg_nat]

set_option maxRecDepth 100000 in
set_option maxHeartbeats 400000 in
theorem markText_any (k : Nat) (w : World) (h0 : 1 ≤ k) (h1 : k ≤ 1099511627776) :
    Calls Tryz.prog 56 #[.int .i64 (k : Int)] w fun e w' => e = .returned (.string (mt k)) ∧ Below w.heap.size w w' := by
  go_enter Tryz.func56, Tryz.ntmps56
  go_wp2_with fail
  go_loopw [0, 3] (fun kk out wr => ∃ (m : Nat) (o : ByteArray), kk = .int .i64 (m : Int) ∧ out = .string o ∧ m + o.size ≤ k ∧ Hid (mtGo (k + 1) k ByteArray.empty = mtGo (k + 1) m o) ∧ Below w.heap.size w wr) (fun kk _ _ => (intOf kk).toNat)
  case atStart => exact ⟨k, ByteArray.empty, rfl, rfl, by show k + 0 ≤ k; omega, rfl, Below.refl _ _⟩
  case round =>
    obtain ⟨m, o, rfl, rfl, hm, hfin, hbel⟩ := hrel
    by_cases hpos : 0 < m
    · have hst : Hid (_ = _) := mtGo_step (f := k + 1) o (by omega) hpos
      have hcv := digit_string m wr
      go_wp2_with fail
      go_roundw
      case rel =>
        refine ⟨m / 10, { data := #[dg m] } ++ o, by go_num, rfl, ?_, by rw [hfin.out, hst.out]; exact rfl, hbel.alloc hbel.size _⟩
        rw [ByteArray.size_append]
        have h1 : (ByteArray.mk #[dg m]).size = 1 := rfl
        omega
      case measure => simp [intOf]; omega
    · obtain rfl : m = 0 := by omega
      go_wp2_with fail
      go_ret
      refine ⟨?_, hbel⟩
      rw [mt, hfin.out]
      rfl
end Go.Proofs.YtlpembhdojdomaaGreatDoor
