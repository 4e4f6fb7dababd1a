/- Texts of the proof, put together by program: WWalkB, WOr. -/
import Derived.Test.YthbpfiandjggcaaV23
/- (*orderWalk).enter, behind the sixtieth pair. -/
namespace Go.Proofs.Ythbpfiandjggcaa
open Go.RowKit Go.Deep

set_option maxRecDepth 100000 in
set_option maxHeartbeats 2000000 in
theorem enter_many (rb mr base : Nat) (sv : Value) (met : Int) (es : Array MapEntry) (n : Nat) (fl : List Value) (a b : Addr) (la lb ca cb : Nat) (w : World) (hw : Walk w rb mr base sv met es n fl)
    (hn : n ≤ 8388608) (c1 : 60 < met) (c2 : 0 < la) (c3 : 0 < lb) (ha : Plain w a.block) (hb : Plain w b.block) (hp : PairMap w es.toList) :
    Calls Try.prog 34 #[.pointer (some ⟨rb, 0, none⟩), .slice (some a) la ca, .slice (some b) lb cb] w fun e w' =>
      e = .returned (.tuple #[]) ∧ But3 rb mr sv.ownBlock w w' ∧
      (((∀ e ∈ es.toList, e.key ≠ pairKey a b la lb) ∧ ∃ sv', Walk w' rb mr base sv' met (es.push ⟨pairKey a b la lb, .agg #[], es.size⟩) (n + 1) (fl ++ [.slice (some a) la ca, .slice (some b) lb cb, .int .i64 0]) ∧ (sv'.ownBlock = sv.ownBlock ∨ ∀ g, sv'.ownBlock = some g → w.heap.size ≤ g)) ∨
       ((∃ e ∈ es.toList, e.key = pairKey a b la lb) ∧ Walk w' rb mr base sv met es n fl)) := by
  obtain ⟨x0, x1, x2⟩ := hw.cell
  have hbig := hw.big
  have HW : Hid (Walk w rb mr base sv met es n fl) := hw
  clear hw
  obtain ⟨i0, hi, hz0, hz1, hz2⟩ := info_parts Try.infoWalk
  go_enter Try.func34, Try.ntmps34
  go_wp2_with fail
  go_region
  go_wp2_with fail
  obtain ⟨W1, HW1⟩ : ∃ W1, Hid (W1 = (w.alloc (Obj.cells #[.pointer (some a), .pointer (some b), .int .i64 la, .int .i64 lb] 75)).drew) := ⟨_, rfl⟩
  rw [← HW1.out]
  have hB : Below w.heap.size w W1 := by rw [HW1.out]; exact (below_alloc1 _ _).trans (below_drewN _ _ 1)
  have hk1 : W1.heap[w.heap.size]? = some (.cells #[.pointer (some a), .pointer (some b), .int .i64 la, .int .i64 lb] 75 (0, 0)) := by rw [HW1.out]; exact heap_alloc_new w _
  have p0 : W1.cell? ⟨w.heap.size, 0, none⟩ = some (.pointer (some a)) := by simp [World.cell?, hk1]
  have p1 : W1.cell? ⟨w.heap.size, 1, none⟩ = some (.pointer (some b)) := by simp [World.cell?, hk1]
  have p2 : W1.cell? ⟨w.heap.size, 2, none⟩ = some (.int .i64 la) := by simp [World.cell?, hk1]
  have p3 : W1.cell? ⟨w.heap.size, 3, none⟩ = some (.int .i64 lb) := by simp [World.cell?, hk1]
  have hlt : w.heap.size < W1.heap.size := (Array.getElem?_eq_some_iff.1 hk1).1
  have HW2 : Hid (Walk W1 rb mr base sv met es n fl) := HW.out.below hB
  have hbl : ∀ i, Plain w i → Plain W1 i := fun i h => by
    obtain ⟨c, t, hc⟩ := h
    exact ⟨c, t, (hB.block i (Array.getElem?_eq_some_iff.1 hc).1).trans hc⟩
  have HA : Hid (Plain W1 a.block ∧ Plain W1 b.block ∧ PairMap W1 es.toList) := ⟨hbl _ ha, hbl _ hb, fun e he => by
    obtain ⟨a', b', m', n', k1, k2, k3, k4⟩ := hp e he
    exact ⟨a', b', m', n', k1, k2, hbl _ k3, hbl _ k4⟩⟩
  have HB : Hid (Below w.heap.size w W1) := hB
  obtain ⟨x0, x1, x2⟩ := HW2.out.cell
  have hbig1 := HW2.out.big
  clear HW1 hB hk1 hbl ha hb hp
  have hrl : rb < W1.heap.size := Nat.lt_of_lt_of_le HW2.out.rlt hbig1
  have HW3 : Hid (Walk (W1.alloc (Obj.cells #[] 76)).drew rb mr base sv met es n fl ∧ Plain (W1.alloc (Obj.cells #[] 76)).drew a.block ∧ Plain (W1.alloc (Obj.cells #[] 76)).drew b.block ∧ PairMap (W1.alloc (Obj.cells #[] 76)).drew es.toList) := by
    have hB2 : Below W1.heap.size W1 (W1.alloc (Obj.cells #[] 76)).drew := (below_alloc1 _ _).trans (below_drewN _ _ 1)
    have hbl : ∀ i, Plain W1 i → Plain (W1.alloc (Obj.cells #[] 76)).drew i := fun i h => by
      obtain ⟨c, t, hc⟩ := h
      exact ⟨c, t, (hB2.block i (Array.getElem?_eq_some_iff.1 hc).1).trans hc⟩
    exact ⟨HW2.out.below hB2, hbl _ HA.out.1, hbl _ HA.out.2.1, fun e he => by
      obtain ⟨a', b', m', n', k1, k2, k3, k4⟩ := HA.out.2.2 e he
      exact ⟨a', b', m', n', k1, k2, hbl _ k3, hbl _ k4⟩⟩
  have hcase := run_pairs W1.drew mr es.size es a b la lb HA.out.1 HA.out.2.1 HW2.out.map HA.out.2.2
  have hcase2 := run_pairs _ mr es.size es a b la lb HW3.out.2.1 HW3.out.2.2.1 HW3.out.1.map HW3.out.2.2.2
  have q2 : (W1.alloc (Obj.cells #[] 76)).drew.cell? ⟨rb, 2, none⟩ = some (.map (some mr)) := HW3.out.1.cell.2.2
  rcases hcase with ⟨hne, hlk, _⟩ | ⟨hin, hlk⟩
  · rcases hcase2 with ⟨_, hlk2, hup⟩ | ⟨⟨e, he, hk⟩, _⟩
    case inr => exact absurd hk (hne e he)
    have HN : Hid (∀ e ∈ es.toList, e.key ≠ pairKey a b la lb) := hne
    clear hne hup
    unfold pairKey at hlk hlk2
    go_region
    all_goals
      clear hlk hlk2 q2
      obtain ⟨W2, HE⟩ : ∃ W2, Hid (W2 = (W1.alloc (Obj.cells #[] 76)).drew) := ⟨_, rfl⟩
      rw [← HE.out]
      have HW4 : Hid (Walk W2 rb mr base sv met es n fl ∧ Plain W2 a.block ∧ Plain W2 b.block ∧ PairMap W2 es.toList) := by rw [HE.out]; exact HW3.out
      have hB2 : Below W1.heap.size W1 W2 := by rw [HE.out]; exact (below_alloc1 _ _).trans (below_drewN _ _ 1)
      have HB2 : Hid (Below w.heap.size w W2) := below_trans HB.out hB2
      have q0 : W2.cell? ⟨w.heap.size, 0, none⟩ = some (.pointer (some a)) := by rw [hB2.cell (p := ⟨w.heap.size, 0, none⟩) hlt]; exact p0
      have q1 : W2.cell? ⟨w.heap.size, 1, none⟩ = some (.pointer (some b)) := by rw [hB2.cell (p := ⟨w.heap.size, 1, none⟩) hlt]; exact p1
      have q2 : W2.cell? ⟨w.heap.size, 2, none⟩ = some (.int .i64 la) := by rw [hB2.cell (p := ⟨w.heap.size, 2, none⟩) hlt]; exact p2
      have q3 : W2.cell? ⟨w.heap.size, 3, none⟩ = some (.int .i64 lb) := by rw [hB2.cell (p := ⟨w.heap.size, 3, none⟩) hlt]; exact p3
      obtain ⟨z0, z1, z2⟩ := HW4.out.1.cell
      have hup : (Instr.mapUpdate 39 (.map (some mr)) (pairKey a b la lb) (.agg #[])).run Try.prog W2.drew = .ok () (withObj W2.drew mr (.map (es.push ⟨pairKey a b la lb, .agg #[], es.size⟩) (es.size + 1))) := by
        rcases run_pairs W2.drew mr es.size es a b la lb HW4.out.2.1 HW4.out.2.2.1 HW4.out.1.map HW4.out.2.2.2 with ⟨_, _, h⟩ | ⟨⟨e, he, hk⟩, _⟩
        · exact h
        · exact absurd hk (HN.out e he)
      obtain ⟨W3, HE3⟩ : ∃ W3, Hid (W3 = withObj W2.drew mr (.map (es.push ⟨pairKey a b la lb, .agg #[], es.size⟩) (es.size + 1))) := ⟨_, rfl⟩
      rw [← HE3.out] at hup
      have HW5 : Hid (Walk W3 rb mr base sv met (es.push ⟨pairKey a b la lb, .agg #[], es.size⟩) n fl) := by
        have h := HW4.out.1
        have g1 := h.rlt
        have g2 := h.mlt
        have g3 := h.big
        have hwb : ∀ i, i ≠ mr → W3.heap[i]? = W2.heap[i]? := fun i hi => by rw [HE3.out]; exact withObj_block W2.drew _ _ _ hi
        have hws : W3.heap.size = W2.heap.size := by rw [HE3.out]; exact withObj_size W2.drew _ _
        refine ⟨g1, g2, h.ne, by rw [hws]; exact g3, (hwb rb h.ne).trans h.cells, ?_, ?_⟩
        · rw [HE3.out, withObj_at W2.drew _ _ (by show mr < W2.heap.size; omega)]
          simp
        · exact ownsRow_but (rb := mr) h.row ⟨by rw [HE3.out]; rfl, by rw [HE3.out]; rfl, by rw [HE3.out]; rfl, by rw [hws]; exact Nat.le_refl _, fun i _ hi => hwb i (fun e => hi (by rw [e]))⟩ g2
      have HB5 : Hid (But3 rb mr sv.ownBlock w W3) := by
        show But3 rb mr sv.ownBlock w W3
        refine (But3.of_below HB2.out).trans ?_
        rw [HE3.out]
        exact (But3.of_below (below_drewN _ W2 1)).trans (But3.map _ _)
      obtain ⟨y0, y1, y2⟩ := HW5.out.cell
      have hbig5 := HW5.out.big
      have HZ : Hid (w.heap.size ≤ W3.heap.size) := HB5.out.size
      have HO : Hid ((W3.alloc (.cells #[.slice (some a) la ca, .slice (some b) lb cb, .int .i64 0] 66)).ownsRow base 66 3 sv n fl) := HW5.out.row.alloc _
      unfold pairKey at hup
      clear hB2 HE HE3 HW2 HW3 HW4 HA HB HB2
      go_wp2_with fail
      go_region
      clear hup z0 z1 z2 q0 q1 q2 q3 p0 p1 p2 p3 x0 x1 x2
      go_wp2_with (at_builtin; refine wpList_append_own_at _ rfl _ _ 40 rfl base 66 i0 (.agg #[.slice none 0 0, .slice none 0 0, .int .i64 0]) 3 56 Try.underlying40 hi hz0 hz1 hz2 rfl (by decide) _ _ _ rfl HO.out ⟨W3.heap.size, 0, none⟩ 1 1 [.slice (some a) la ca, .slice (some b) lb cb, .int .i64 0] rfl rfl (cell_three_new _ _ _ _ _) ?c2 ?c3 ?c4 ?c5 ?_)
      case c2 => first | (intro y hy; simp at hy; rcases hy with rfl | rfl | rfl <;> rfl) | exact ⟨rfl, rfl, rfl⟩
      case c3 => unfold maxLen; omega
      case c4 => omega
      case c5 => first | (simp; omega) | omega
      intro sv' w2 o1 o2 _ o3
      obtain ⟨sg, sc, rfl⟩ := row_succ o1
      obtain ⟨⟨y0', y1'⟩, HH, HB⟩ := HW5.out.pushed o1 o2
      have HF : Hid _ := And.intro HH HB
      have H3 : Hid _ := o3
      clear o1 o2 o3 HH HB
      go_wp2_with fail
      go_end0
      refine ⟨rfl, HB5.out.trans HF.out.2, Or.inl ⟨HN.out, _, HF.out.1, H3.out.imp id (fun e g hg => ?_)⟩⟩
      rw [e] at hg
      cases hg
      have := HZ.out
      simp
      omega
  · rcases hcase2 with ⟨hne, _⟩ | ⟨_, hlk2⟩
    case inl =>
      obtain ⟨e, he, hk⟩ := hin
      exact absurd hk (hne e he)
    have HN : Hid (∃ e ∈ es.toList, e.key = pairKey a b la lb) := hin
    have HB2 : Hid (But3 rb mr sv.ownBlock w (W1.alloc (Obj.cells #[] 76)).drew) := But3.of_below (below_trans HB.out ((below_alloc1 _ _).trans (below_drewN _ _ 1)))
    clear hin
    unfold pairKey at hlk hlk2
    go_region
    all_goals
      clear hlk hlk2 q2
      go_wp2_with fail
      (try simp only [Exit.inBlock, Exit.then])
      refine bodyPost_ret (results_none rfl _ _ _) rfl ?_
      exact ⟨rfl, HB2.out, Or.inr ⟨HN.out, HW3.out.1⟩⟩
end Go.Proofs.Ythbpfiandjggcaa

/- cmp.Or: the first number that is not 0. -/
namespace Go.Proofs.Ythbpfiandjggcaa
open Go.RowKit Go.Deep

theorem foldr_drop {xs : List Int} {k : Nat} {x : Int} (h : xs[k]? = some x) : (xs.drop k).foldr orI 0 = orI x ((xs.drop (k + 1)).foldr orI 0) := by
  obtain ⟨hk, e⟩ := List.getElem?_eq_some_iff.1 h
  rw [List.drop_eq_getElem_cons hk, e, List.foldr_cons]

set_option maxHeartbeats 1000000 in
theorem orInt_any (xs : List Int) (b o cap : Nat) (w : World) (hl : xs.length < 1000) (hc : ∀ i x, xs[i]? = some x → w.cell? ⟨b, o + i, none⟩ = some (.int .i64 x)) :
    Calls Try.prog 35 #[.slice (some ⟨b, o, none⟩) xs.length cap] w fun e w' => e = .returned (.int .i64 (xs.foldr orI 0)) ∧ w' = w := by
  go_enter Try.func35, Try.ntmps35
  go_wp2_with fail
  go_loop [8] (fun i => ∃ (k : Nat), k ≤ xs.length ∧ i = .int .i64 k ∧ Hid (xs.foldr orI 0 = (xs.drop k).foldr orI 0)) (fun i => xs.length - (intOf i).toNat)
  case atStart => exact ⟨0, Nat.zero_le _, rfl, rfl⟩
  case round =>
    obtain ⟨k, hk, rfl, hfin⟩ := hrel
    by_cases hkl : k < xs.length
    · have hx := List.getElem?_eq_getElem hkl
      generalize xs[k] = x at hx
      have hck := hc k x hx
      have hst : Hid (_ = _) := foldr_drop hx
      by_cases h0 : x = 0
      · have hst2 : Hid (xs.foldr orI 0 = (xs.drop (k + 1)).foldr orI 0) := by
          show _ = _
          rw [hfin.out, hst.out, h0]
          rfl
        subst h0
        clear hst hfin hx hc
        go_wp2_with fail
        go_round
        case rel => exact ⟨k + 1, by omega, by go_num, hst2⟩
        case measure => simp [intOf]; omega
      · have hst2 : Hid (xs.foldr orI 0 = x) := by
          show _ = _
          rw [hfin.out, hst.out, orI_ne h0]
        clear hst hfin hx hc
        go_wp2_with fail
        go_ret
        rw [hst2.out]
        exact ⟨rfl, rfl⟩
    · go_wp2_with fail
      go_ret
      rw [hfin.out, List.drop_eq_nil_of_le (by omega)]
      exact ⟨rfl, rfl⟩
end Go.Proofs.Ythbpfiandjggcaa
