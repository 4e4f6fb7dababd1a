/- Texts of the proof, put together by program: WWalkE. -/
import Derived.Test.YthbpfiandjggcaaV26
/- (*orderWalk).step, over memory. -/
namespace Go.Proofs.Ythbpfiandjggcaa
open Go.RowKit Go.Deep

theorem But3.under {rb mr N : Nat} {ob : Option Nat} {w w' : World} (h : But3 rb mr ob w w') (h1 : N ≤ rb) (h2 : N ≤ mr) (h3 : ∀ g, ob = some g → N ≤ g) (hz : N ≤ w.heap.size) : Below N w w' :=
  ⟨h.os, h.tape, h.output, h.size, fun b hb => h.block b (by omega) (by omega) (by omega) (fun e => by have := h3 b e.symm; omega)⟩

theorem Walk.shrunk {w : World} {rb mr base : Nat} {g cap : Nat} {f : Fr} {r : List Fr} {met : Int} {es : Array MapEntry} (h : Walk w rb mr base (.slice (some ⟨g, 0, none⟩) (r.length + 1) cap) met es (r.length + 1) (flat (f :: r))) :
    Walk (w.setCell ⟨rb, 0, none⟩ (.slice (some ⟨g, 0, none⟩) r.length cap)) rb mr base (.slice (some ⟨g, 0, none⟩) r.length cap) met es r.length (flat r) := by
  have hc := h.cells
  refine ⟨h.rlt, h.mlt, h.ne, by rw [size_setCell1]; exact h.big, ?_, ?_, ownsRow_but (row_pop h.row) (But.set rb w 0 _) h.rlt⟩
  · simp [World.setCell, Array.getElem?_modify, hc]
  · rw [Below.heap_setCell _ _ _ _ (fun e => h.ne e.symm)]
    exact h.map

theorem Try.cellsWalk : Try.prog.cellsOf 66 = 3 := by kernel_rfl

set_option maxRecDepth 100000 in
set_option maxHeartbeats 2000000 in
theorem step_pop (rb mr base : Nat) (sv : Value) (met : Int) (es : Array MapEntry) (f : Fr) (r : List Fr) (aa ab : Option Addr) (la lb ca cb : Nat) (w : World) (hw : Walk w rb mr base sv met es (r.length + 1) (flat (f :: r)))
    (hva : f.va = .slice aa la ca) (hvb : f.vb = .slice ab lb cb) (hn : r.length ≤ 8388608) (hc : ¬ (f.pos < la ∧ f.pos < lb)) :
    Calls Try.prog 21 #[.pointer (some ⟨rb, 0, none⟩)] w fun e w' => e = .returned (.int .i64 (cmpI la lb)) ∧ (∃ sv', Walk w' rb mr base sv' met es r.length (flat r)) ∧ But3 rb mr sv.ownBlock w w' := by
  obtain ⟨g, cap, rfl⟩ := row_succ hw.row
  have c0 := (hw.row.cellAt (r.length * 3) (by omega)).trans (flat_top0 f r)
  have c1 := (hw.row.cellAt (r.length * 3 + 1) (by omega)).trans (flat_top1 f r)
  have c2 := (hw.row.cellAt (r.length * 3 + 2) (by omega)).trans (flat_top2 f r)
  rw [hva] at c0
  rw [hvb] at c1
  obtain ⟨x0, x1, x2⟩ := hw.cell
  have xf := hw.frozen 0
  have c70 := Try.cellsWalk
  have hcap : r.length + 1 ≤ cap := by
    rcases hw.row.2 with ⟨h0, _⟩ | ⟨g', cap', cur, hv, hg, hh, hn', _⟩
    · cases h0
    · cases hv
      exact hn'
  have hwr : IntKind.i64.wrap (r.length : Int) = (r.length : Int) := by rw [IntKind.wrap_i64]; omega
  have hix1 : (r.length : Int) < (r.length : Int) + 1 := by omega
  have hix2 : (r.length : Int) < ((r.length + 1 : Nat) : Int) := by omega
  have hix3 : r.length < r.length + 1 := by omega
  have hix0 : (0 : Int) ≤ (r.length : Int) := by omega
  have HEND : Hid (∀ m, (∃ sv', Walk ((w.drewN m).setCell ⟨rb, 0, none⟩ (.slice (some ⟨g, 0, none⟩) r.length cap)) rb mr base sv' met es r.length (flat r)) ∧ But3 rb mr (some g) w ((w.drewN m).setCell ⟨rb, 0, none⟩ (.slice (some ⟨g, 0, none⟩) r.length cap))) := by
    intro m
    exact ⟨⟨_, (hw.below (below_drewN _ w m)).shrunk⟩, (But3.of_below (below_drewN _ w m)).trans (But3.set _ _ _)⟩
  clear hw
  by_cases h1 : f.pos < la
  · have h2 : ¬ f.pos < lb := fun h => hc ⟨h1, h⟩
    go_enter Try.func21, Try.ntmps21
    go_wp2_with fail
    go_quiet (fail)
    go_wp2_with fail
    go_quiet (fail)
    go_wp2_with fail
    go_region
    go_wp2_with fail
    refine (compareInt_any _ _ _).mono ?_
    rintro e w1 ⟨rfl, rfl⟩
    go_wp2_with fail
    go_ret
    exact ⟨rfl, HEND.out _⟩
  · go_enter Try.func21, Try.ntmps21
    go_wp2_with fail
    go_quiet (fail)
    go_wp2_with fail
    go_quiet (fail)
    go_wp2_with fail
    go_region
    go_wp2_with fail
    refine (compareInt_any _ _ _).mono ?_
    rintro e w1 ⟨rfl, rfl⟩
    go_wp2_with fail
    go_ret
    exact ⟨rfl, HEND.out _⟩

theorem Walk.next {w : World} {rb mr base : Nat} {g cap : Nat} {f : Fr} {r : List Fr} {met : Int} {es : Array MapEntry} (h : Walk w rb mr base (.slice (some ⟨g, 0, none⟩) (r.length + 1) cap) met es (r.length + 1) (flat (f :: r))) (p : Nat) :
    Walk (w.setCell ⟨g, r.length * 3 + 2, none⟩ (.int .i64 p)) rb mr base (.slice (some ⟨g, 0, none⟩) (r.length + 1) cap) met es (r.length + 1) (flat ({ f with pos := p } :: r)) := by
  have hg := (h.row.lt g rfl).1
  have h1 := h.rlt
  have h2 := h.mlt
  refine ⟨h.rlt, h.mlt, h.ne, by rw [size_setCell1]; exact h.big, ?_, ?_, row_next h.row p⟩
  · rw [Below.heap_setCell _ _ _ _ (by show rb ≠ g; omega)]
    exact h.cells
  · rw [Below.heap_setCell _ _ _ _ (by show mr ≠ g; omega)]
    exact h.map

set_option maxRecDepth 100000 in
set_option maxHeartbeats 2000000 in
theorem step_go (d N : Nat) (S S' : Nat → Prop) (rb mr base : Nat) (sv : Value) (met : Int) (es : Array MapEntry) (la lb : List (Tr (d + 1))) (pos : Nat) (va vb : Value) (r : List Fr) (x y : Tr (d + 1)) (w : World)
    (hw : Walk w rb mr base sv met es (r.length + 1) (flat (⟨d + 1, la, lb, pos, va, vb⟩ :: r))) (ha : RowAt S w (ValAt S w (d + 1)) va la) (hb : RowAt S' w (ValAt S' w (d + 1)) vb lb) (hx : la[pos]? = some x) (hy : lb[pos]? = some y)
    (hS : Under S w N) (hS' : Under S' w N) (hp : PairIn w N es.toList) (hNr : N ≤ rb) (hNm : N ≤ mr) (hn : r.length + 1 ≤ 8388608) (hm0 : 0 ≤ met) (hm : met ≤ 8388608) :
    Calls Try.prog 21 #[.pointer (some ⟨rb, 0, none⟩)] w fun e w' => e = .returned (.int .i64 (headO (α := Tr d) x y)) ∧ Below N w w' ∧
      ∃ xa xb, RowAt S w (ValAt S w d) xa (Nd.list x) ∧ RowAt S' w (ValAt S' w d) xb (Nd.list y) ∧
       ((∃ sv' es', Walk w' rb mr base sv' (met + 1) es' (r.length + 2) (flat (⟨d, Nd.list x, Nd.list y, 0, xa, xb⟩ :: ⟨d + 1, la, lb, pos + 1, va, vb⟩ :: r)) ∧
          (es' = es ∨ ∃ a b la lb ca cb, xa = .slice (some a) la ca ∧ xb = .slice (some b) lb cb ∧ 0 < la ∧ 0 < lb ∧ es' = es.push ⟨pairKey a b la lb, .agg #[], es.size⟩)) ∨
        (∃ a b la' lb' ca cb, xa = .slice (some a) la' ca ∧ xb = .slice (some b) lb' cb ∧ 0 < la' ∧ 0 < lb' ∧ (∃ e ∈ es.toList, e.key = pairKey a b la' lb') ∧ ∃ sv', Walk w' rb mr base sv' (met + 1) es (r.length + 1) (flat (⟨d + 1, la, lb, pos + 1, va, vb⟩ :: r)))) := by
  obtain ⟨g, cap, rfl⟩ := row_succ hw.row
  obtain ⟨aa, ca, rfl, hla⟩ := ha.open'
  obtain ⟨ab, cb, rfl, hlb⟩ := hb.open'
  have hpa := (List.getElem?_eq_some_iff.1 hx).1
  have hpb := (List.getElem?_eq_some_iff.1 hy).1
  have c0 := (hw.row.cellAt (r.length * 3) (by omega)).trans (flat_top0 _ r)
  have c1 := (hw.row.cellAt (r.length * 3 + 1) (by omega)).trans (flat_top1 _ r)
  have c2 := (hw.row.cellAt (r.length * 3 + 2) (by omega)).trans (flat_top2 _ r)
  have cf := row_frozen hw.row (r.length * 3 + 2)
  obtain ⟨x0, x1, x2⟩ := hw.cell
  have c70 := Try.cellsWalk
  have hg := (hw.row.lt g rfl).1
  have hgz := (hw.row.lt g rfl).2
  have hrb := hw.rlt
  have hbig := hw.big
  have hwr : IntKind.i64.wrap (r.length : Int) = (r.length : Int) := by rw [IntKind.wrap_i64]; omega
  have hwp : IntKind.i64.wrap ((pos : Int) + 1) = (pos : Int) + 1 := by rw [IntKind.wrap_i64]; omega
  have hix1 : (r.length : Int) < (r.length : Int) + 1 := by omega
  have hix2 : (r.length : Int) < ((r.length + 1 : Nat) : Int) := by omega
  have hix3 : r.length < r.length + 1 := by omega
  have hix0 : (0 : Int) ≤ (r.length : Int) := by omega
  have HW : Hid (Walk w rb mr base (.slice (some ⟨g, 0, none⟩) (r.length + 1) cap) met es (r.length + 1) (flat (⟨d + 1, la, lb, pos, .slice aa la.length ca, .slice ab lb.length cb⟩ :: r))) := hw
  clear hw
  go_enter Try.func21, Try.ntmps21
  go_wp2_with fail
  go_quiet (fail)
  go_wp2_with fail
  go_quiet (fail)
  go_wp2_with fail
  generalize hE : World.setCell _ _ _ = W1
  obtain ⟨m, hmW⟩ : ∃ m, W1 = (w.drewN m).setCell ⟨g, r.length * 3 + 2, none⟩ (.int .i64 ((pos : Int) + 1)) := ⟨_, hE.symm⟩
  have hw1 : Walk W1 rb mr base (.slice (some ⟨g, 0, none⟩) (r.length + 1) cap) met es (r.length + 1) (flat (⟨d + 1, la, lb, pos + 1, .slice aa la.length ca, .slice ab lb.length cb⟩ :: r)) := by
    rw [hmW]
    exact (HW.out.below (below_drewN _ w m)).next (pos + 1)
  have hB1 : Below N w W1 := by
    rw [hmW]
    exact (below_drewN _ w m).setCell (by show N ≤ g; omega) _
  have hz1 : w.heap.size ≤ W1.heap.size := hB1.size
  clear hE hmW
  have hS1 := hS.moved hB1.block
  have hS1' := hS'.moved hB1.block
  have hp1 := hp.moved hB1.block
  have ha1 : RowAt S W1 (ValAt S W1 (d + 1)) (.slice aa la.length ca) la := ha.same (fun b hb => hB1.block b (hS b hb).2)
  have hb1 : RowAt S' W1 (ValAt S' W1 (d + 1)) (.slice ab lb.length cb) lb := hb.same (fun b hb => hB1.block b (hS' b hb).2)
  obtain ⟨b, o, x', q0, q1, q2, q3, q4, rfl, _, hx', e0, e1, e2, e3, e4, hvx⟩ := ha1.cell hpa
  obtain ⟨b', o', y', q0', q1', q2', q3', q4', rfl, _, hy', e0', e1', e2', e3', e4', hvy⟩ := hb1.cell hpb
  rw [hx] at hx'
  cases hx'
  rw [hy] at hy'
  cases hy'
  have HX : Hid (RowAt S w (ValAt S w d) q4 (Nd.list x) ∧ RowAt S' w (ValAt S' w d) q4' (Nd.list y)) := by
    obtain ⟨vk, vl, hv, _, _, _, _, hl⟩ := hvx
    obtain ⟨vk', vl', hv', _, _, _, _, hl'⟩ := hvy
    cases hv
    cases hv'
    exact ⟨hl.same (fun b hb => (hB1.block b (hS1 b hb).2).symm), hl'.same (fun b hb => (hB1.block b (hS1' b hb).2).symm)⟩
  have HW1 : Hid (Walk W1 rb mr base (.slice (some ⟨g, 0, none⟩) (r.length + 1) cap) met es (r.length + 1) (flat (⟨d + 1, la, lb, pos + 1, .slice (some ⟨b, o, none⟩) la.length ca, .slice (some ⟨b', o', none⟩) lb.length cb⟩ :: r))) := hw1
  have HB1 : Hid (Below N w W1) := hB1
  have HH : Hid (Under S W1 N ∧ Under S' W1 N ∧ PairIn W1 N es.toList) := ⟨hS1, hS1', hp1⟩
  clear hw1 hB1 ha1 hb1 ha hb hx hy HW c0 c1 c2 cf x0 x1 x2 hS1 hS1' hp1 hS hS' hp
  have hki : (pos : Int) < (la.length : Int) := by omega
  have hki' : (pos : Int) < (lb.length : Int) := by omega
  go_wp2_with fail
  go_region_with (go_at_call 20; refine (meet_any d N S S' x y _ _ rb mr base _ met es (r.length + 1) _ W1.drew (HW1.out.below (below_drewN _ W1 1)) ?_ ?_ ?_ ?_ ?_ hNr hNm hn hm0 hm).mono ?_; exact hvx.same (fun _ _ => rfl); exact hvy.same (fun _ _ => rfl); exact HH.out.1.moved (fun _ _ => rfl); exact HH.out.2.1.moved (fun _ _ => rfl); exact HH.out.2.2.moved (fun _ _ => rfl); rintro e w3 ⟨rfl, hent⟩)
  all_goals
    have HENT : Hid _ := hent
    clear hent
    go_wp2_with fail
    go_ret
    obtain ⟨xa, xb, p0, p1, p2, p3, p0', p1', p2', p3', hv1, hv2, h1, h2⟩ := HENT.out
    cases hv1
    cases hv2
    refine ⟨rfl, HB1.out.trans (Below.trans (below_drewN N W1 1) (h1.under hNr hNm (fun g' e => by cases e; show N ≤ g; omega) (by show N ≤ W1.heap.size; omega))), q4, q4', HX.out.1, HX.out.2, ?_⟩
    rcases h2 with ⟨sv', es', h3, h4⟩ | ⟨a, b, la', lb', ca', cb', h3, h4, h5, h6, h7, h8⟩
    · exact Or.inl ⟨sv', es', h3, h4⟩
    · exact Or.inr ⟨a, b, la', lb', ca', cb', h3, h4, h5, h6, h7, _, h8⟩
end Go.Proofs.Ythbpfiandjggcaa
