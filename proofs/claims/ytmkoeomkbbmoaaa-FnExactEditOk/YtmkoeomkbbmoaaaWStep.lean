/- Steps of a way, and how they lie in memory: szStepS, toStepS, eqStepS. -/
import Derived.Test.YtmkoeomkbbmoaaaWEq
import Derived.Test.YtmkoeomkbbmoaaaWOwn
namespace Go.Proofs.Ytmkoeomkbbmoaaa
open Go.RowKit Go.Deep

/-- A step: to a key, or to a place. -/
structure Stp where
  map : Bool
  key : ByteArray
  place : Int

/-- A step that a Go value can be. -/
def StpFit (p : Stp) : Prop := p.key.size < 281474976710656 ∧ I64 p.place

/-- A slice of steps, three cells each, that lies in blocks of S. -/
def StepsAt (S : Nat → Prop) (w : World) (v : Value) (ps : List Stp) : Prop :=
  ps.length < 8796093022208 ∧ (∀ p ∈ ps, StpFit p) ∧
  ∃ a cap, v = .slice a ps.length cap ∧
    (ps = [] ∨ ∃ b o, S b ∧ a = some ⟨b, o, none⟩ ∧ ∀ i p, ps[i]? = some p →
      w.cell? ⟨b, o + i * 3, none⟩ = some (.bool p.map) ∧ w.cell? ⟨b, o + i * 3 + 1, none⟩ = some (.string p.key) ∧ w.cell? ⟨b, o + i * 3 + 2, none⟩ = some (.int .i64 p.place))
/-- A slice of steps in a block of S that may be written. -/
def StepsOwn (S : Nat → Prop) (w : World) (v : Value) (ps : List Stp) : Prop :=
  ps.length < 8796093022208 ∧ (∀ p ∈ ps, StpFit p) ∧
  ∃ a cap, v = .slice a ps.length cap ∧
    (ps = [] ∨ ∃ b n f, S b ∧ a = some ⟨b, 0, none⟩ ∧ ps.length * 3 ≤ n ∧ w.rowIs b 54 n f ∧ ∀ i p, ps[i]? = some p → f (i * 3) = .bool p.map ∧ f (i * 3 + 1) = .string p.key ∧ f (i * 3 + 2) = .int .i64 p.place)

theorem StepsAt.moved {S S' : Nat → Prop} {w w' : World} {v : Value} {ps : List Stp} (h : StepsAt S w v ps) (hs : Same S w w') (hS : ∀ b, S b → S' b) : StepsAt S' w' v ps := by
  obtain ⟨h1, h2, a, cap, hv, h3⟩ := h
  refine ⟨h1, h2, a, cap, hv, ?_⟩
  rcases h3 with h3 | ⟨b, o, hB, ha, hc⟩
  · exact Or.inl h3
  · exact Or.inr ⟨b, o, hS _ hB, ha, fun i p hi => by rw [hs.cell hB, hs.cell hB, hs.cell hB]; exact hc i p hi⟩
theorem StepsAt.same {S : Nat → Prop} {w w' : World} {v : Value} {ps : List Stp} (h : StepsAt S w v ps) (hs : Same S w w') : StepsAt S w' v ps := h.moved hs (fun _ h => h)
theorem StepsAt.mono {S S' : Nat → Prop} {w : World} {v : Value} {ps : List Stp} (h : StepsAt S w v ps) (hS : ∀ b, S b → S' b) : StepsAt S' w v ps := h.moved (Same.refl _ _) hS
theorem StepsAt.open' {S : Nat → Prop} {w : World} {v : Value} {ps : List Stp} (h : StepsAt S w v ps) : ∃ a cap, v = .slice a ps.length cap ∧ ps.length < 8796093022208 := by
  obtain ⟨h1, _, a, cap, hv, _⟩ := h
  exact ⟨a, cap, hv, h1⟩
theorem StepsAt.cell {S : Nat → Prop} {w : World} {a : Option Addr} {n cap k : Nat} {ps : List Stp} (h : StepsAt S w (.slice a n cap) ps) (hk : k < ps.length) :
    ∃ b o p, a = some ⟨b, o, none⟩ ∧ S b ∧ ps[k]? = some p ∧ StpFit p ∧
      w.cell? ⟨b, o + k * 3, none⟩ = some (.bool p.map) ∧ w.cell? ⟨b, o + k * 3 + 1, none⟩ = some (.string p.key) ∧ w.cell? ⟨b, o + k * 3 + 2, none⟩ = some (.int .i64 p.place) := by
  obtain ⟨h1, h2, a', cap', hv, h3⟩ := h
  cases hv
  rcases h3 with rfl | ⟨b, o, hB, ha, hc⟩
  · simp at hk
  · obtain ⟨e0, e1, e2⟩ := hc k _ (List.getElem?_eq_getElem hk)
    exact ⟨b, o, ps[k], ha, hB, List.getElem?_eq_getElem hk, h2 _ (List.getElem_mem hk), e0, e1, e2⟩
theorem StepsOwn.at {S : Nat → Prop} {w : World} {v : Value} {ps : List Stp} (h : StepsOwn S w v ps) : StepsAt S w v ps := by
  obtain ⟨h1, h2, a, cap, hv, h3⟩ := h
  refine ⟨h1, h2, a, cap, hv, ?_⟩
  rcases h3 with h3 | ⟨b, n, f, hB, ha, hl, hr, hc⟩
  · exact Or.inl h3
  · refine Or.inr ⟨b, 0, hB, ha, fun i p hi => ?_⟩
    have := (List.getElem?_eq_some_iff.1 hi).1
    obtain ⟨e0, e1, e2⟩ := hc i p hi
    rw [Nat.zero_add, hr.cell (by omega), hr.cell (by omega), hr.cell (by omega), e0, e1, e2]
    exact ⟨rfl, rfl, rfl⟩
theorem StepsOwn.moved {S S' : Nat → Prop} {w w' : World} {v : Value} {ps : List Stp} (h : StepsOwn S w v ps) (hs : Same S w w') (hS : ∀ b, S b → S' b) : StepsOwn S' w' v ps := by
  obtain ⟨h1, h2, a, cap, hv, h3⟩ := h
  refine ⟨h1, h2, a, cap, hv, ?_⟩
  rcases h3 with h3 | ⟨b, n, f, hB, ha, hl, hr, hc⟩
  · exact Or.inl h3
  · exact Or.inr ⟨b, n, f, hS b hB, ha, hl, hr.of_block (hs b hB), hc⟩
theorem StepsOwn.same {S : Nat → Prop} {w w' : World} {v : Value} {ps : List Stp} (h : StepsOwn S w v ps) (hs : Same S w w') : StepsOwn S w' v ps := h.moved hs (fun _ h => h)

/-- How much a step takes. -/
def szStp (p : Stp) (left : Int) : Int := if left - p.key.size < 0 then -1 else left - p.key.size
theorem szStp_le (p : Stp) (left : Int) (h : 0 ≤ left) : szStp p left ≤ left := by
  unfold szStp
  split <;> omega
theorem szSteps_len {ps : List Stp} {left : Int} (h : ¬ szL szStp ps left < 0) : (ps.length : Int) ≤ left := by
  unfold szL at h
  split at h
  · omega
  · omega

set_option maxHeartbeats 400000 in
theorem szStep_any (p : Stp) (left : Int) (w : World) (hp : StpFit p) (h0 : 0 ≤ left) (h1 : left ≤ 1048576) :
    Calls Try.prog 23 #[.agg #[.bool p.map, .string p.key, .int .i64 p.place], .int .i64 left] w fun e w' => e = .returned (.int .i64 (szStp p left)) ∧ Below w.heap.size w w' := by
  have hsz := hp.1
  by_cases hlt : left - p.key.size < 0
  · have hfin : Hid (szStp p left = -1) := if_pos hlt
    go_enter Try.func23, Try.ntmps23
    go_wp2_with fail
    go_ret
    rw [hfin.out]
    exact ⟨rfl, below_alloc1 _ _⟩
  · have hfin : Hid (szStp p left = left - p.key.size) := if_neg hlt
    go_enter Try.func23, Try.ntmps23
    go_wp2_with fail
    go_ret
    rw [hfin.out]
    exact ⟨rfl, below_alloc1 _ _⟩

set_option maxHeartbeats 400000 in
theorem szStepS_any (S : Nat → Prop) (ps : List Stp) (v : Value) (left : Int) (w : World) (hv : StepsAt S w v ps) (hS : Within S w) (h0 : 0 ≤ left) (h1 : left ≤ 1048576) :
    Calls Try.prog 14 #[v, .int .i64 left] w fun e w' => e = .returned (.int .i64 (szL szStp ps left)) ∧ Below w.heap.size w w' := by
  obtain ⟨a, cap, rfl, hlen⟩ := hv.open'
  by_cases hlt : left - ps.length < 0
  · have hfin : Hid (szL szStp ps left = -1) := if_pos hlt
    go_enter Try.func14, Try.ntmps14
    go_wp2_with fail
    go_ret
    rw [hfin.out]
    exact ⟨rfl, Below.refl _ _⟩
  · have hfin : Hid (szL szStp ps left = szLGo szStp ps (left - ps.length)) := if_neg hlt
    go_enter Try.func14, Try.ntmps14
    go_wp2_with fail
    go_loopw [1, 5] (fun l i wr => ∃ (k : Nat) (m : Int), k ≤ ps.length ∧ i = .int .i64 k ∧ l = .int .i64 m ∧ 0 ≤ m ∧ m ≤ 1048576 ∧ Hid (szL szStp ps left = szLGo szStp (ps.drop k) m) ∧ Below w.heap.size w wr) (fun _ i _ => ps.length - (intOf i).toNat)
    case atStart => exact ⟨0, _, Nat.zero_le _, rfl, rfl, by omega, by omega, hfin, Below.refl _ _⟩
    case round =>
      clear hfin
      obtain ⟨k, m, hk, rfl, rfl, hm0, hm1, hfin, hbel⟩ := hrel
      by_cases hkl : k < ps.length
      · have hv' := hv.same (hS.same hbel)
        obtain ⟨b, o, p, rfl, _, hx, hp, e0, e1, e2⟩ := hv'.cell hkl
        have hst : Hid (_ = _) := szLGo_step szStp hx m
        have hle := szStp_le p m hm0
        clear hv hv' hx
        go_wp2_with fail
        refine (szStep_any p m wr hp hm0 hm1).mono ?_
        rintro e w1 ⟨rfl, hb1⟩
        have hb2 : Below w.heap.size w w1 := below_trans hbel hb1
        clear hb1 hbel e0 e1 e2
        by_cases hneg : szStp p m < 0
        · go_wp2_with fail
          go_ret
          rw [hfin.out, hst.out, if_pos hneg]
          exact ⟨rfl, hb2⟩
        · go_wp2_with fail
          go_roundw
          case rel => exact ⟨k + 1, szStp p m, by omega, by go_num, rfl, by omega, by omega, by rw [hfin.out, hst.out, if_neg (by omega)]; exact rfl, hb2⟩
          case measure => simp [intOf]; omega
      · go_wp2_with fail
        go_ret
        rw [hfin.out, List.drop_eq_nil_of_le (by omega)]
        exact ⟨rfl, hbel⟩

set_option maxHeartbeats 400000 in
theorem toStep_any (p : Stp) (w : World) : Calls Try.prog 29 #[.agg #[.bool p.map, .string p.key, .int .i64 p.place]] w fun e w' => e = .returned (.agg #[.bool p.map, .string p.key, .int .i64 p.place]) ∧ Below w.heap.size w w' := by
  go_enter Try.func29, Try.ntmps29
  go_wp2_with fail
  refine bodyPost_ret (v := .agg #[.bool p.map, .string p.key, .int .i64 p.place]) (by simp [results, Try.results29, go_sem]) rfl ⟨rfl, below_trans (below_trans (below_alloc1 _ _) (below_alloc1 _ _)) (below_alloc1 _ _)⟩

/-- Three cells in a row written. -/
def put3 (f : Nat → Value) (i : Nat) (v0 v1 v2 : Value) (j : Nat) : Value := if j = i then v0 else if j = i + 1 then v1 else if j = i + 2 then v2 else f j
def set3 (w : World) (b i : Nat) (v0 v1 v2 : Value) : World := ((w.setCell ⟨b, i, none⟩ v0).setCell ⟨b, i + 1, none⟩ v1).setCell ⟨b, i + 2, none⟩ v2
theorem rowIs_set3 {w : World} {b : Nat} {t : TypeId} {n : Nat} {f : Nat → Value} (h : w.rowIs b t n f) (i : Nat) (v0 v1 v2 : Value) : (set3 w b i v0 v1 v2).rowIs b t n (put3 f i v0 v1 v2) := by
  refine (((h.set i v0).set (i + 1) v1).set (i + 2) v2).congr (fun j _ => ?_)
  unfold put3
  by_cases e0 : j = i
  · simp [e0]
  by_cases e1 : j = i + 1
  · simp [e1]
  simp [e0, e1]
theorem below_set3 {B : Nat} {a w : World} (h : Below B a w) {b : Nat} (hb : B ≤ b) (i : Nat) (v0 v1 v2 : Value) : Below B a (set3 w b i v0 v1 v2) :=
  ((h.setCell (p := ⟨b, i, none⟩) hb v0).setCell (p := ⟨b, i + 1, none⟩) hb v1).setCell (p := ⟨b, i + 2, none⟩) hb v2
theorem put3_at (f : Nat → Value) (i : Nat) (v0 v1 v2 : Value) : put3 f i v0 v1 v2 i = v0 ∧ put3 f i v0 v1 v2 (i + 1) = v1 ∧ put3 f i v0 v1 v2 (i + 2) = v2 := by simp [put3]
theorem put3_off (f : Nat → Value) (i : Nat) (v0 v1 v2 : Value) (j : Nat) (h : j < i ∨ i + 2 < j) : put3 f i v0 v1 v2 j = f j := by
  unfold put3
  rw [if_neg (by omega), if_neg (by omega), if_neg (by omega)]

def zeroStp : Value := .agg #[.bool false, .string ByteArray.empty, .int .i64 0]
def zero3 : Array Value := #[.bool false, .string ByteArray.empty, .int .i64 0]
theorem Try.infoStep : (Try.prog.info? 54).map (fun i => (i.zero, i.size, i.bytes)) = some (some zeroStp, 3, 32) := by kernel_rfl
theorem run_make3 (n : Nat) (hn : n < 8796093022208) (w : World) :
    (Instr.makeSlice 38 (.int .i64 (n : Int)) (.int .i64 (n : Int))).run Try.prog w =
      .ok (.slice (some ⟨w.heap.size, 0, none⟩) n n) (w.alloc (.cells (madeCells zero3 (n * 3)) 54)) := by
  obtain ⟨i, hi, hzz⟩ := Option.map_eq_some_iff.1 Try.infoStep
  simp only [Prod.mk.injEq] at hzz
  obtain ⟨hz, hs, hb⟩ := hzz
  have hr := run_make (P := Try.prog) w 38 54 i zeroStp Try.underlying38 hi hz .i64 .i64 n n (by omega) (Int.le_refl _) (by rw [hb]; omega) (by omega)
  rw [show zeroStp.cells = zero3 from rfl] at hr
  simpa [hs] using hr

/-- The first k steps of a row that is being filled. -/
def StpFilled (ps : List Stp) (k : Nat) (f : Nat → Value) : Prop := ∀ j p, j < k → ps[j]? = some p → f (j * 3) = .bool p.map ∧ f (j * 3 + 1) = .string p.key ∧ f (j * 3 + 2) = .int .i64 p.place
theorem StpFilled.step {ps : List Stp} {k : Nat} {f : Nat → Value} {p : Stp} (h : StpFilled ps k f) (hp : ps[k]? = some p) : StpFilled ps (k + 1) (put3 f (k * 3) (.bool p.map) (.string p.key) (.int .i64 p.place)) := by
  intro j q hj hq
  by_cases e : j = k
  · subst e
    rw [hp] at hq
    cases hq
    exact put3_at _ _ _ _ _
  · rw [put3_off _ _ _ _ _ _ (by omega), put3_off _ _ _ _ _ _ (by omega), put3_off _ _ _ _ _ _ (by omega)]
    exact h j q (by omega) hq

set_option maxRecDepth 100000 in
set_option maxHeartbeats 1000000 in
theorem toStepS_own (S : Nat → Prop) (ps : List Stp) (v : Value) (w : World) (hv : StepsAt S w v ps) (hS : Within S w) :
    Calls Try.prog 18 #[v] w fun e w' => ∃ u, e = .returned u ∧ StepsOwn (Fresh w w') w' u ps ∧ Below w.heap.size w w' := by
  obtain ⟨a, cap, rfl, hlen⟩ := hv.open'
  have hmk := run_make3 ps.length hlen
  have hb0 : Below w.heap.size w (w.alloc (.cells (madeCells zero3 (ps.length * 3)) 54)) := below_alloc1 _ _
  have hr0 : (w.alloc (.cells (madeCells zero3 (ps.length * 3)) 54)).rowIs w.heap.size 54 (ps.length * 3) (fun j => (madeCells zero3 (ps.length * 3)).getD j undef) := by
    have := World.rowIs_alloc w (madeCells zero3 (ps.length * 3)) 54 (fun j => (madeCells zero3 (ps.length * 3)).getD j undef) (fun i hi => by simp [hi])
    rwa [size_madeCells] at this
  have HB : Hid _ := And.intro hb0 hr0
  clear hb0 hr0
  go_enter Try.func18, Try.ntmps18
  go_wp2_with fail
  go_loopw [4] (fun i wr => ∃ (k : Nat) (f : Nat → Value), k ≤ ps.length ∧ i = .int .i64 k ∧ wr.rowIs w.heap.size 54 (ps.length * 3) f ∧ Hid (StpFilled ps k f) ∧ Below w.heap.size w wr) (fun i _ => ps.length - (intOf i).toNat)
  case atStart => exact ⟨0, _, Nat.zero_le _, rfl, HB.out.2, fun j p hj => by omega, HB.out.1⟩
  case round =>
    clear HB hmk
    obtain ⟨k, f, hk, rfl, hrow, hfil, hbel⟩ := hrel
    by_cases hkl : k < ps.length
    · obtain ⟨b, o, p, rfl, hb, hx, hp, e0, e1, e2⟩ := (hv.same (hS.same hbel)).cell hkl
      go_wp2_with fail
      refine (toStep_any p wr).mono ?_
      rintro e w1 ⟨rfl, hb1⟩
      have hr1 := hrow.of_block (hb1.block w.heap.size hrow.lt)
      have hrow' := rowIs_set3 hr1 (k * 3) (.bool p.map) (.string p.key) (.int .i64 p.place)
      have hbel' := below_set3 (hbel.trans (hb1.mono hbel.size)) (Nat.le_refl w.heap.size) (k * 3) (.bool p.map) (.string p.key) (.int .i64 p.place)
      have HR : Hid _ := And.intro hrow' hbel'
      have HF := hide (hfil.out.step hx)
      have g0 := hr1.cell (i := k * 3) (by omega)
      have g1 := hr1.cell (i := k * 3 + 1) (by omega)
      have g2 := hr1.cell (i := k * 3 + 2) (by omega)
      have z0 := hr1.frozen (k * 3)
      have z1 := hr1.frozen (k * 3 + 1)
      have z2 := hr1.frozen (k * 3 + 2)
      clear hrow' hbel' hr1 hrow hbel hb1 e0 e1 e2 hv hx hfil hp
      go_wp2_with fail
      go_roundw
      case rel => exact ⟨k + 1, _, by omega, by go_num, HR.out.1, HF, HR.out.2⟩
      case measure => simp [intOf]; omega
    · go_wp2_with fail
      go_ret
      obtain rfl : k = ps.length := by omega
      refine ⟨_, rfl, ⟨hlen, hv.2.1, _, _, rfl, ?_⟩, hbel⟩
      exact Or.inr ⟨w.heap.size, _, f, ⟨Nat.le_refl _, hrow.lt⟩, rfl, Nat.le_refl _, hrow, fun i p hi => hfil.out i p (List.getElem?_eq_some_iff.1 hi).1 hi⟩

/-- Two steps are one. -/
def eqStp (p q : Stp) : Bool := (p.map == q.map) && (p.key.toList == q.key.toList) && (p.place == q.place)
theorem eqStp_refl (p : Stp) : eqStp p p = true := by simp [eqStp]
theorem eqSteps_refl : ∀ ps : List Stp, eqL eqStp ps ps = true
  | [] => rfl
  | p :: r => by rw [eqL, eqStp_refl, eqSteps_refl r]; rfl

set_option maxRecDepth 100000 in
set_option maxHeartbeats 400000 in
theorem eqStep_same (p : Stp) (w : World) : Calls Try.prog 34 #[.agg #[.bool p.map, .string p.key, .int .i64 p.place], .agg #[.bool p.map, .string p.key, .int .i64 p.place]] w fun e w' => e = .returned (.bool true) ∧ Below w.heap.size w w' := by
  have h0 : (p.map != p.map) = false := by simp
  have h1 : (p.key.toList == p.key.toList) = true := by simp
  have h1' : (p.key.toList != p.key.toList) = false := by simp
  have h2 : (p.place != p.place) = false := by simp
  go_enter Try.func34, Try.ntmps34
  go_wp2_with fail
  go_ret
  exact ⟨rfl, below_trans (below_alloc1 _ _) (below_alloc1 _ _)⟩

set_option maxRecDepth 100000 in
set_option maxHeartbeats 400000 in
theorem eqStepS_same (S S' : Nat → Prop) (ps : List Stp) (v v' : Value) (w : World) (hv : StepsAt S w v ps) (hv' : StepsAt S' w v' ps) (hS : Within S w) (hS' : Within S' w) :
    Calls Try.prog 21 #[v, v'] w fun e w' => e = .returned (.bool true) ∧ Below w.heap.size w w' := by
  obtain ⟨a, cap, rfl, hlen⟩ := hv.open'
  obtain ⟨a', cap', rfl, hlen'⟩ := hv'.open'
  have hq : ((ps.length : Int) != (ps.length : Int)) = false := by simp
  go_enter Try.func21, Try.ntmps21
  go_wp2_with fail
  go_loopw [5] (fun i wr => ∃ (k : Nat), k ≤ ps.length ∧ i = .int .i64 k ∧ Below w.heap.size w wr) (fun i _ => ps.length - (intOf i).toNat)
  case atStart => exact ⟨0, Nat.zero_le _, rfl, Below.refl _ _⟩
  case round =>
    obtain ⟨k, hk, rfl, hbel⟩ := hrel
    by_cases hkl : k < ps.length
    · obtain ⟨b, o, p, rfl, hb, hx, hp, e0, e1, e2⟩ := (hv.same (hS.same hbel)).cell hkl
      obtain ⟨b', o', p', rfl, hb', hx', hp', e0', e1', e2'⟩ := (hv'.same (hS'.same hbel)).cell hkl
      rw [hx] at hx'
      cases hx'
      clear hv hv' hx hS hS'
      have hki : (k : Int) < (ps.length : Int) := by omega
      go_wp2_with fail
      go_region_with (go_at_call 34; refine (eqStep_same p _).mono ?_; rintro e w1 ⟨rfl, hb1⟩)
      all_goals
        have hb2 : Below w.heap.size w w1 := below_trans hbel (show Below wr.heap.size wr w1 from ⟨hb1.os, hb1.tape, hb1.output, hb1.size, hb1.block⟩)
        clear hb1 hbel e0 e1 e2 e0' e1' e2'
        go_wp2_with fail
        go_roundw
        case rel => exact ⟨k + 1, by omega, by go_num, hb2⟩
        case measure => simp [intOf]; omega
    · go_wp2_with fail
      go_ret
      exact ⟨rfl, hbel⟩
end Go.Proofs.Ytmkoeomkbbmoaaa
