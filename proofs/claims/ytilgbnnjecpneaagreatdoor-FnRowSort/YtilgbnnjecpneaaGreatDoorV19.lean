/- Texts of the proof, put together by program: WWalkB, WOr, WWalkC, WWalkD, WWalkE. -/
import Derived.Test.YtilgbnnjecpneaaGreatDoorV18
import Derived.Deep.RegionHeld
/- (*orderWalk).enter, behind the sixtieth pair. -/
namespace Go.Proofs.YtilgbnnjecpneaaGreatDoor
open Go.RowKit Go.Deep

set_option maxRecDepth 100000 in
set_option maxHeartbeats 2000000 in
theorem enter_many (rb mr base : Nat) (sv : Value) (met : Int) (es : Array MapEntry) (n : Nat) (fl : List Value) (a b : Addr) (la lb ca cb : Nat) (w : World) (hw : Walk w rb mr base sv met es n fl)
    (hn : n ≤ 8388608) (c1 : 60 < met) (c2 : 0 < la) (c3 : 0 < lb) (ha : Plain w a.block) (hb : Plain w b.block) (hp : PairMap w es.toList) :
    Calls Tryz.prog 72 #[.pointer (some ⟨rb, 0, none⟩), .slice (some a) la ca, .slice (some b) lb cb] w fun e w' =>
      e = .returned (.tuple #[]) ∧ But3 rb mr sv.ownBlock w w' ∧
      (((∀ e ∈ es.toList, e.key ≠ pairKey a b la lb) ∧ ∃ sv', Walk w' rb mr base sv' met (es.push ⟨pairKey a b la lb, .agg #[], es.size⟩) (n + 1) (fl ++ [.slice (some a) la ca, .slice (some b) lb cb, .int .i64 0]) ∧ (sv'.ownBlock = sv.ownBlock ∨ ∀ g, sv'.ownBlock = some g → w.heap.size ≤ g)) ∨
       ((∃ e ∈ es.toList, e.key = pairKey a b la lb) ∧ Walk w' rb mr base sv met es n fl)) := by
  obtain ⟨x0, x1, x2⟩ := hw.cell
  have hbig := hw.big
  have HW : Hid (Walk w rb mr base sv met es n fl) := hw
  clear hw
  obtain ⟨i0, hi, hz0, hz1, hz2⟩ := info_parts Tryz.infoWalk
  go_enter Tryz.func72, Tryz.ntmps72
  go_wp2_with fail
  go_region
  go_wp2_with fail
  obtain ⟨W1, HW1⟩ : ∃ W1, Hid (W1 = (w.alloc (Obj.cells #[.pointer (some a), .pointer (some b), .int .i64 la, .int .i64 lb] 130)).drew) := ⟨_, rfl⟩
  rw [← HW1.out]
  have hB : Below w.heap.size w W1 := by rw [HW1.out]; exact (below_alloc1 _ _).trans (below_drewN _ _ 1)
  have hk1 : W1.heap[w.heap.size]? = some (.cells #[.pointer (some a), .pointer (some b), .int .i64 la, .int .i64 lb] 130 (0, 0)) := by rw [HW1.out]; exact heap_alloc_new w _
  have p0 : W1.cell? ⟨w.heap.size, 0, none⟩ = some (.pointer (some a)) := by simp [World.cell?, hk1]
  have p1 : W1.cell? ⟨w.heap.size, 1, none⟩ = some (.pointer (some b)) := by simp [World.cell?, hk1]
  have p2 : W1.cell? ⟨w.heap.size, 2, none⟩ = some (.int .i64 la) := by simp [World.cell?, hk1]
  have p3 : W1.cell? ⟨w.heap.size, 3, none⟩ = some (.int .i64 lb) := by simp [World.cell?, hk1]
  have hlt : w.heap.size < W1.heap.size := (Array.getElem?_eq_some_iff.1 hk1).1
  have HW2 : Hid (Walk W1 rb mr base sv met es n fl) := HW.out.below hB
  have hbl : ∀ i, Plain w i → Plain W1 i := fun i h => by
    obtain ⟨c, t, hc⟩ := h
    exact ⟨c, t, (hB.block i (Array.getElem?_eq_some_iff.1 hc).1).trans hc⟩
  have HA : Hid (Plain W1 a.block ∧ Plain W1 b.block ∧ PairMap W1 es.toList) := ⟨hbl _ ha, hbl _ hb, fun e he => by
    obtain ⟨a', b', m', n', k1, k2, k3, k4⟩ := hp e he
    exact ⟨a', b', m', n', k1, k2, hbl _ k3, hbl _ k4⟩⟩
  have HB : Hid (Below w.heap.size w W1) := hB
  obtain ⟨x0, x1, x2⟩ := HW2.out.cell
  have hbig1 := HW2.out.big
  clear HW1 hB hk1 hbl ha hb hp
  have hrl : rb < W1.heap.size := Nat.lt_of_lt_of_le HW2.out.rlt hbig1
  have HW3 : Hid (Walk (W1.alloc (Obj.cells #[] 131)).drew rb mr base sv met es n fl ∧ Plain (W1.alloc (Obj.cells #[] 131)).drew a.block ∧ Plain (W1.alloc (Obj.cells #[] 131)).drew b.block ∧ PairMap (W1.alloc (Obj.cells #[] 131)).drew es.toList) := by
    have hB2 : Below W1.heap.size W1 (W1.alloc (Obj.cells #[] 131)).drew := (below_alloc1 _ _).trans (below_drewN _ _ 1)
    have hbl : ∀ i, Plain W1 i → Plain (W1.alloc (Obj.cells #[] 131)).drew i := fun i h => by
      obtain ⟨c, t, hc⟩ := h
      exact ⟨c, t, (hB2.block i (Array.getElem?_eq_some_iff.1 hc).1).trans hc⟩
    exact ⟨HW2.out.below hB2, hbl _ HA.out.1, hbl _ HA.out.2.1, fun e he => by
      obtain ⟨a', b', m', n', k1, k2, k3, k4⟩ := HA.out.2.2 e he
      exact ⟨a', b', m', n', k1, k2, hbl _ k3, hbl _ k4⟩⟩
  have hcase := run_pairs W1.drew mr es.size es a b la lb HA.out.1 HA.out.2.1 HW2.out.map HA.out.2.2
  have hcase2 := run_pairs _ mr es.size es a b la lb HW3.out.2.1 HW3.out.2.2.1 HW3.out.1.map HW3.out.2.2.2
  have q2 : (W1.alloc (Obj.cells #[] 131)).drew.cell? ⟨rb, 2, none⟩ = some (.map (some mr)) := HW3.out.1.cell.2.2
  rcases hcase with ⟨hne, hlk, _⟩ | ⟨hin, hlk⟩
  · rcases hcase2 with ⟨_, hlk2, hup⟩ | ⟨⟨e, he, hk⟩, _⟩
    case inr => exact absurd hk (hne e he)
    have HN : Hid (∀ e ∈ es.toList, e.key ≠ pairKey a b la lb) := hne
    clear hne hup
    unfold pairKey at hlk hlk2
    go_region
    all_goals
      clear hlk hlk2 q2
      obtain ⟨W2, HE⟩ : ∃ W2, Hid (W2 = (W1.alloc (Obj.cells #[] 131)).drew) := ⟨_, rfl⟩
      rw [← HE.out]
      have HW4 : Hid (Walk W2 rb mr base sv met es n fl ∧ Plain W2 a.block ∧ Plain W2 b.block ∧ PairMap W2 es.toList) := by rw [HE.out]; exact HW3.out
      have hB2 : Below W1.heap.size W1 W2 := by rw [HE.out]; exact (below_alloc1 _ _).trans (below_drewN _ _ 1)
      have HB2 : Hid (Below w.heap.size w W2) := below_trans HB.out hB2
      have q0 : W2.cell? ⟨w.heap.size, 0, none⟩ = some (.pointer (some a)) := by rw [hB2.cell (p := ⟨w.heap.size, 0, none⟩) hlt]; exact p0
      have q1 : W2.cell? ⟨w.heap.size, 1, none⟩ = some (.pointer (some b)) := by rw [hB2.cell (p := ⟨w.heap.size, 1, none⟩) hlt]; exact p1
      have q2 : W2.cell? ⟨w.heap.size, 2, none⟩ = some (.int .i64 la) := by rw [hB2.cell (p := ⟨w.heap.size, 2, none⟩) hlt]; exact p2
      have q3 : W2.cell? ⟨w.heap.size, 3, none⟩ = some (.int .i64 lb) := by rw [hB2.cell (p := ⟨w.heap.size, 3, none⟩) hlt]; exact p3
      obtain ⟨z0, z1, z2⟩ := HW4.out.1.cell
      have hup : (Instr.mapUpdate 58 (.map (some mr)) (pairKey a b la lb) (.agg #[])).run Tryz.prog W2.drew = .ok () (withObj W2.drew mr (.map (es.push ⟨pairKey a b la lb, .agg #[], es.size⟩) (es.size + 1))) := by
        rcases run_pairs W2.drew mr es.size es a b la lb HW4.out.2.1 HW4.out.2.2.1 HW4.out.1.map HW4.out.2.2.2 with ⟨_, _, h⟩ | ⟨⟨e, he, hk⟩, _⟩
        · exact h
        · exact absurd hk (HN.out e he)
      obtain ⟨W3, HE3⟩ : ∃ W3, Hid (W3 = withObj W2.drew mr (.map (es.push ⟨pairKey a b la lb, .agg #[], es.size⟩) (es.size + 1))) := ⟨_, rfl⟩
      rw [← HE3.out] at hup
      have HW5 : Hid (Walk W3 rb mr base sv met (es.push ⟨pairKey a b la lb, .agg #[], es.size⟩) n fl) := by
        have h := HW4.out.1
        have g1 := h.rlt
        have g2 := h.mlt
        have g3 := h.big
        have hwb : ∀ i, i ≠ mr → W3.heap[i]? = W2.heap[i]? := fun i hi => by rw [HE3.out]; exact withObj_block W2.drew _ _ _ hi
        have hws : W3.heap.size = W2.heap.size := by rw [HE3.out]; exact withObj_size W2.drew _ _
        refine ⟨g1, g2, h.ne, by rw [hws]; exact g3, (hwb rb h.ne).trans h.cells, ?_, ?_⟩
        · rw [HE3.out, withObj_at W2.drew _ _ (by show mr < W2.heap.size; omega)]
          simp
        · exact ownsRow_but (rb := mr) h.row ⟨by rw [HE3.out]; rfl, by rw [HE3.out]; rfl, by rw [HE3.out]; rfl, by rw [hws]; exact Nat.le_refl _, fun i _ hi => hwb i (fun e => hi (by rw [e]))⟩ g2
      have HB5 : Hid (But3 rb mr sv.ownBlock w W3) := by
        show But3 rb mr sv.ownBlock w W3
        refine (But3.of_below HB2.out).trans ?_
        rw [HE3.out]
        exact (But3.of_below (below_drewN _ W2 1)).trans (But3.map _ _)
      obtain ⟨y0, y1, y2⟩ := HW5.out.cell
      have hbig5 := HW5.out.big
      have HZ : Hid (w.heap.size ≤ W3.heap.size) := HB5.out.size
      have HO : Hid ((W3.alloc (.cells #[.slice (some a) la ca, .slice (some b) lb cb, .int .i64 0] 99)).ownsRow base 99 3 sv n fl) := HW5.out.row.alloc _
      unfold pairKey at hup
      clear hB2 HE HE3 HW2 HW3 HW4 HA HB HB2
      go_wp2_with fail
      go_region
      clear hup z0 z1 z2 q0 q1 q2 q3 p0 p1 p2 p3 x0 x1 x2
      go_wp2_with (at_builtin; refine wpList_append_own_at _ rfl _ _ 59 rfl base 99 i0 (.agg #[.slice none 0 0, .slice none 0 0, .int .i64 0]) 3 56 Tryz.underlying59 hi hz0 hz1 hz2 rfl (by decide) _ _ _ rfl HO.out ⟨W3.heap.size, 0, none⟩ 1 1 [.slice (some a) la ca, .slice (some b) lb cb, .int .i64 0] rfl rfl (cell_three_new _ _ _ _ _) ?c2 ?c3 ?c4 ?c5 ?_)
      case c2 => first | (intro y hy; simp at hy; rcases hy with rfl | rfl | rfl <;> rfl) | exact ⟨rfl, rfl, rfl⟩
      case c3 => unfold maxLen; omega
      case c4 => omega
      case c5 => first | (simp; omega) | omega
      intro sv' w2 o1 o2 _ o3
      obtain ⟨sg, sc, rfl⟩ := row_succ o1
      obtain ⟨⟨y0', y1'⟩, HH, HB⟩ := HW5.out.pushed o1 o2
      have HF : Hid _ := And.intro HH HB
      have H3 : Hid _ := o3
      clear o1 o2 o3 HH HB
      go_wp2_with fail
      go_end0
      refine ⟨rfl, HB5.out.trans HF.out.2, Or.inl ⟨HN.out, _, HF.out.1, H3.out.imp id (fun e g hg => ?_)⟩⟩
      rw [e] at hg
      cases hg
      have := HZ.out
      simp
      omega
  · rcases hcase2 with ⟨hne, _⟩ | ⟨_, hlk2⟩
    case inl =>
      obtain ⟨e, he, hk⟩ := hin
      exact absurd hk (hne e he)
    have HN : Hid (∃ e ∈ es.toList, e.key = pairKey a b la lb) := hin
    have HB2 : Hid (But3 rb mr sv.ownBlock w (W1.alloc (Obj.cells #[] 131)).drew) := But3.of_below (below_trans HB.out ((below_alloc1 _ _).trans (below_drewN _ _ 1)))
    clear hin
    unfold pairKey at hlk hlk2
    go_region
    all_goals
      clear hlk hlk2 q2
      go_wp2_with fail
      (try simp only [Exit.inBlock, Exit.then])
      refine bodyPost_ret (results_none rfl _ _ _) rfl ?_
      exact ⟨rfl, HB2.out, Or.inr ⟨HN.out, HW3.out.1⟩⟩
end Go.Proofs.YtilgbnnjecpneaaGreatDoor

/- cmp.Or: the first number that is not 0. -/
namespace Go.Proofs.YtilgbnnjecpneaaGreatDoor
open Go.RowKit Go.Deep

theorem foldr_drop {xs : List Int} {k : Nat} {x : Int} (h : xs[k]? = some x) : (xs.drop k).foldr orI 0 = orI x ((xs.drop (k + 1)).foldr orI 0) := by
  obtain ⟨hk, e⟩ := List.getElem?_eq_some_iff.1 h
  rw [List.drop_eq_getElem_cons hk, e, List.foldr_cons]

set_option maxHeartbeats 1000000 in
theorem orInt_any (xs : List Int) (b o cap : Nat) (w : World) (hl : xs.length < 1000) (hc : ∀ i x, xs[i]? = some x → w.cell? ⟨b, o + i, none⟩ = some (.int .i64 x)) :
    Calls Tryz.prog 73 #[.slice (some ⟨b, o, none⟩) xs.length cap] w fun e w' => e = .returned (.int .i64 (xs.foldr orI 0)) ∧ w' = w := by
  go_enter Tryz.func73, Tryz.ntmps73
  go_wp2_with fail
  go_loop [8] (fun i => ∃ (k : Nat), k ≤ xs.length ∧ i = .int .i64 k ∧ Hid (xs.foldr orI 0 = (xs.drop k).foldr orI 0)) (fun i => xs.length - (intOf i).toNat)
  case atStart => exact ⟨0, Nat.zero_le _, rfl, rfl⟩
  case round =>
    obtain ⟨k, hk, rfl, hfin⟩ := hrel
    by_cases hkl : k < xs.length
    · have hx := List.getElem?_eq_getElem hkl
      generalize xs[k] = x at hx
      have hck := hc k x hx
      have hst : Hid (_ = _) := foldr_drop hx
      by_cases h0 : x = 0
      · have hst2 : Hid (xs.foldr orI 0 = (xs.drop (k + 1)).foldr orI 0) := by
          show _ = _
          rw [hfin.out, hst.out, h0]
          rfl
        subst h0
        clear hst hfin hx hc
        go_wp2_with fail
        go_round
        case rel => exact ⟨k + 1, by omega, by go_num, hst2⟩
        case measure => simp [intOf]; omega
      · have hst2 : Hid (xs.foldr orI 0 = x) := by
          show _ = _
          rw [hfin.out, hst.out, orI_ne h0]
        clear hst hfin hx hc
        go_wp2_with fail
        go_ret
        rw [hst2.out]
        exact ⟨rfl, rfl⟩
    · go_wp2_with fail
      go_ret
      rw [hfin.out, List.drop_eq_nil_of_le (by omega)]
      exact ⟨rfl, rfl⟩
end Go.Proofs.YtilgbnnjecpneaaGreatDoor

/- (*orderWalk).meet: two parts are held against each other but for their lists, which are laid upon the stack. -/
namespace Go.Proofs.YtilgbnnjecpneaaGreatDoor
open Go.RowKit Go.Deep

/-- Two lists were laid upon the stack, or they were met before. -/
def Entered (w w' : World) (rb mr base : Nat) (sv : Value) (met : Int) (es : Array MapEntry) (n : Nat) (fl : List Value) (va vb : Value) : Prop :=
  But3 rb mr sv.ownBlock w w' ∧
  ((∃ sv' es', Walk w' rb mr base sv' met es' (n + 1) (fl ++ [va, vb, .int .i64 0]) ∧
      (es' = es ∨ ∃ a b la lb ca cb, va = .slice (some a) la ca ∧ vb = .slice (some b) lb cb ∧ 0 < la ∧ 0 < lb ∧ es' = es.push ⟨pairKey a b la lb, .agg #[], es.size⟩)) ∨
   (∃ a b la lb ca cb, va = .slice (some a) la ca ∧ vb = .slice (some b) lb cb ∧ 0 < la ∧ 0 < lb ∧ (∃ e ∈ es.toList, e.key = pairKey a b la lb) ∧ Walk w' rb mr base sv met es n fl))

theorem enter_any {d : Nat} (S S' : Nat → Prop) (xs ys : List (Tr d)) (rb mr base : Nat) (sv : Value) (met : Int) (es : Array MapEntry) (n : Nat) (fl : List Value) (va vb : Value) (w : World) (hw : Walk w rb mr base sv met es n fl)
    (hx : RowAt S w (ValAt S w d) va xs) (hy : RowAt S' w (ValAt S' w d) vb ys) (hS : ∀ b, S b → Plain w b) (hS' : ∀ b, S' b → Plain w b) (hp : PairMap w es.toList) (hn : n ≤ 8388608) :
    Calls Tryz.prog 72 #[.pointer (some ⟨rb, 0, none⟩), va, vb] w fun e w' => e = .returned (.tuple #[]) ∧ Entered w w' rb mr base sv met es n fl va vb := by
  obtain ⟨aa, ca, rfl, hla⟩ := hx.open'
  obtain ⟨ab, cb, rfl, hlb⟩ := hy.open'
  by_cases hc : 60 < met ∧ 0 < xs.length ∧ 0 < ys.length
  · obtain ⟨c1, c2, c3⟩ := hc
    obtain ⟨b, o, x, _, _, _, _, _, rfl, hb, _⟩ := hx.cell c2
    obtain ⟨b', o', y, _, _, _, _, _, rfl, hb', _⟩ := hy.cell c3
    refine (enter_many rb mr base sv met es n fl _ _ _ _ ca cb w hw hn c1 c2 c3 (hS b hb) (hS' b' hb') hp).mono ?_
    rintro e w' ⟨rfl, h1, h2⟩
    refine ⟨rfl, h1, ?_⟩
    rcases h2 with ⟨_, sv', h3, _⟩ | ⟨h3, h4⟩
    · exact Or.inl ⟨sv', _, h3, Or.inr ⟨_, _, _, _, _, _, rfl, rfl, c2, c3, rfl⟩⟩
    · exact Or.inr ⟨_, _, _, _, _, _, rfl, rfl, c2, c3, h3, h4⟩
  · refine (enter_few rb mr base sv met es n fl aa ab _ _ ca cb w hw hn hc).mono ?_
    rintro e w' ⟨rfl, sv', h1, h2, _⟩
    exact ⟨rfl, h2, Or.inl ⟨sv', es, h1, Or.inl rfl⟩⟩

theorem Walk.counted {w : World} {rb mr base : Nat} {sv : Value} {met : Int} {es : Array MapEntry} {n : Nat} {fl : List Value} (h : Walk w rb mr base sv met es n fl) (m : Int) : Walk (w.setCell ⟨rb, 1, none⟩ (.int .i64 m)) rb mr base sv m es n fl := by
  have hc := h.cells
  refine ⟨h.rlt, h.mlt, h.ne, by rw [size_setCell1]; exact h.big, ?_, ?_, ownsRow_but h.row (But.set rb w 1 _) h.rlt⟩
  · simp [World.setCell, Array.getElem?_modify, hc]
  · rw [Below.heap_setCell _ _ _ _ (fun e => h.ne e.symm)]
    exact h.map

theorem Blk5.but3 {w w' : World} {b rb mr : Nat} {ob : Option Nat} {T : TypeId} {c0 c1 c2 c3 c4 : Value} (h : Blk5 w b T c0 c1 c2 c3 c4) (e : But3 rb mr ob w w') (h1 : b ≠ rb) (h2 : b ≠ mr) (h3 : some b ≠ ob) : Blk5 w' b T c0 c1 c2 c3 c4 := h.of_block (e.block b h.lt h1 h2 h3)

theorem cell_of_cellsW {w : World} {b : Nat} {c : Array Value} {t : TypeId} {f : Nat × Nat} (h : w.heap[b]? = some (.cells c t f)) (o : Nat) : w.cell? ⟨b, o, none⟩ = c[o]? := by
  unfold World.cell?
  rw [h]
  rfl
theorem cell_four_new (w : World) (a b c d : Int) (t : TypeId) : ∀ i x, [a, b, c, d][i]? = some x → (w.drew.alloc (.cells #[.int .i64 a, .int .i64 b, .int .i64 c, .int .i64 d] t)).cell? ⟨w.heap.size, 0 + i, none⟩ = some (.int .i64 x) := by
  have h : (w.drew.alloc (.cells #[.int .i64 a, .int .i64 b, .int .i64 c, .int .i64 d] t)).heap[w.heap.size]? = some (.cells #[.int .i64 a, .int .i64 b, .int .i64 c, .int .i64 d] t (0, 0)) := heap_alloc_new w.drew _
  intro i x hx
  rw [Nat.zero_add, cell_of_cellsW h]
  match i, hx with
  | 0, hx => simp at hx; subst hx; rfl
  | 1, hx => simp at hx; subst hx; rfl
  | 2, hx => simp at hx; subst hx; rfl
  | 3, hx => simp at hx; subst hx; rfl
  | j + 4, hx => simp at hx

theorem headO_fold {α : Type} (a b : Nd α) : headO a b = [cmpI a.kind b.kind, cmpI a.num b.num, cmpS a.str b.str, ordL cmpS a.keys b.keys].foldr orI 0 := by
  simp only [List.foldr_cons, List.foldr_nil, orI_right]
  rfl

/-- A map of pairs of lists that lie in plain blocks below N. -/
def PairIn (w : World) (N : Nat) (es : List MapEntry) : Prop := ∀ e ∈ es, ∃ a b m n, e.key = pairKey a b m n ∧ e.val = .agg #[] ∧ (Plain w a.block ∧ a.block < N) ∧ (Plain w b.block ∧ b.block < N)
theorem PairIn.map {w : World} {N : Nat} {es : List MapEntry} (h : PairIn w N es) : PairMap w es := fun e he => by
  obtain ⟨a, b, m, n, h1, h2, h3, h4⟩ := h e he
  exact ⟨a, b, m, n, h1, h2, h3.1, h4.1⟩
theorem PairIn.moved {w w' : World} {N : Nat} {es : List MapEntry} (h : PairIn w N es) (hb : ∀ b, b < N → w'.heap[b]? = w.heap[b]?) : PairIn w' N es := fun e he => by
  obtain ⟨a, b, m, n, h1, h2, h3, h4⟩ := h e he
  exact ⟨a, b, m, n, h1, h2, ⟨h3.1.of_block (hb _ h3.2), h3.2⟩, ⟨h4.1.of_block (hb _ h4.2), h4.2⟩⟩
/-- Plain blocks below N. -/
def Under (S : Nat → Prop) (w : World) (N : Nat) : Prop := ∀ b, S b → Plain w b ∧ b < N
theorem Under.moved {S : Nat → Prop} {w w' : World} {N : Nat} (h : Under S w N) (hb : ∀ b, b < N → w'.heap[b]? = w.heap[b]?) : Under S w' N := fun b hS => ⟨(h b hS).1.of_block (hb b (h b hS).2), (h b hS).2⟩

set_option maxRecDepth 100000 in
set_option maxHeartbeats 4000000 in
theorem meet_any (d N : Nat) (S S' : Nat → Prop) (t t' : Tr (d + 1)) (v v' : Value) (rb mr base : Nat) (sv : Value) (met : Int) (es : Array MapEntry) (n : Nat) (fl : List Value) (w : World) (hw : Walk w rb mr base sv met es n fl)
    (hv : ValAt S w (d + 1) t v) (hv' : ValAt S' w (d + 1) t' v') (hS : Under S w N) (hS' : Under S' w N) (hp : PairIn w N es.toList) (hNr : N ≤ rb) (hNm : N ≤ mr) (hn : n ≤ 8388608) (hm0 : 0 ≤ met) (hm : met ≤ 8388608) :
    Calls Tryz.prog 52 #[.pointer (some ⟨rb, 0, none⟩), v, v'] w fun e w' => e = .returned (.int .i64 (headO (α := Tr d) t t')) ∧
      ∃ va vb k0 k1 k2 k3 k0' k1' k2' k3', v = .agg #[k0, k1, k2, k3, va] ∧ v' = .agg #[k0', k1', k2', k3', vb] ∧ Entered w w' rb mr base sv (met + 1) es n fl va vb := by
  obtain ⟨kind, num, str, keys, list⟩ := t
  obtain ⟨kind', num', str', keys', list'⟩ := t'
  obtain ⟨vk, vl, rfl, i1, i2, i3, hk, hl⟩ := hv
  obtain ⟨ak, ck, rfl, hkl⟩ := hk.open'
  obtain ⟨al, cl, rfl, hll⟩ := hl.open'
  obtain ⟨vk', vl', rfl, i1', i2', i3', hk', hl'⟩ := hv'
  obtain ⟨ak', ck', rfl, hkl'⟩ := hk'.open'
  obtain ⟨al', cl', rfl, hll'⟩ := hl'.open'
  change RowAt S w (ValAt S w d) (.slice al list.length cl) list at hl
  change RowAt S' w (ValAt S' w d) (.slice al' list'.length cl') list' at hl'
  change StrsAt S w (.slice ak keys.length ck) keys at hk
  change StrsAt S' w (.slice ak' keys'.length ck') keys' at hk'
  have hrl : rb < w.heap.size := Nat.lt_of_lt_of_le hw.rlt hw.big
  have hml : mr < w.heap.size := Nat.lt_of_lt_of_le hw.mlt hw.big
  have hog : ∀ g, sv.ownBlock = some g → g < w.heap.size ∧ base ≤ g := fun g e => ⟨(hw.row.lt g e).2, (hw.row.lt g e).1⟩
  have hrb := hw.rlt
  have hmb := hw.mlt
  obtain ⟨x0, x1, x2⟩ := hw.cell
  have xf := hw.frozen 1
  have hmw : IntKind.i64.wrap (met + 1) = met + 1 := IntWalk.i64_in _ (by omega)
  have hH : Hid (headO (α := Tr d) ⟨kind, num, str, keys, list⟩ ⟨kind', num', str', keys', list'⟩ = [cmpI kind kind', cmpI num num', cmpS str str', ordL cmpS keys keys'].foldr orI 0) := headO_fold _ _
  obtain ⟨W1, HE1⟩ : ∃ W1, Hid (W1 = ((w.setCell ⟨rb, 1, none⟩ (.int .i64 (met + 1))).alloc (.cells #[.int .i64 kind, .int .i64 num, .string str, .slice ak keys.length ck, .slice al list.length cl] 29)).alloc (.cells #[.int .i64 kind', .int .i64 num', .string str', .slice ak' keys'.length ck', .slice al' list'.length cl'] 29)) := ⟨_, rfl⟩
  have HF : Hid (Walk W1 rb mr base sv (met + 1) es n fl ∧ But3 rb mr sv.ownBlock w W1 ∧ Blk5 W1 w.heap.size 29 (.int .i64 kind) (.int .i64 num) (.string str) (.slice ak keys.length ck) (.slice al list.length cl) ∧
      Blk5 W1 (w.heap.size + 1) 29 (.int .i64 kind') (.int .i64 num') (.string str') (.slice ak' keys'.length ck') (.slice al' list'.length cl')) := by
    obtain ⟨k0, k1, hba⟩ := two_blocks (w.setCell ⟨rb, 1, none⟩ (.int .i64 (met + 1))) 29 (.int .i64 kind) (.int .i64 num) (.string str) (.slice ak keys.length ck) (.slice al list.length cl) (.int .i64 kind') (.int .i64 num') (.string str') (.slice ak' keys'.length ck') (.slice al' list'.length cl')
    rw [← HE1.out] at k0 k1 hba
    have h1 := (hw.counted (met + 1)).below hba
    have h2 : But3 rb mr sv.ownBlock w W1 := (But3.set w 1 _).trans (But3.of_below hba)
    rw [size_setCell1] at k0 k1
    exact ⟨h1, h2, k0, k1⟩
  have hlow : ∀ b, b < N → some b ≠ sv.ownBlock := fun b hb e => by have := hog b e.symm; omega
  have hsm1 : ∀ b, b < N → W1.heap[b]? = w.heap[b]? := fun b hb => HF.out.2.1.block b (by omega) (by omega) (by omega) (hlow b hb)
  have HS1 : Hid (Under S W1 N ∧ Under S' W1 N ∧ PairIn W1 N es.toList ∧ RowAt S W1 (ValAt S W1 d) (.slice al list.length cl) list ∧ RowAt S' W1 (ValAt S' W1 d) (.slice al' list'.length cl') list' ∧ StrsAt S W1 (.slice ak keys.length ck) keys ∧ StrsAt S' W1 (.slice ak' keys'.length ck') keys') :=
    ⟨hS.moved hsm1, hS'.moved hsm1, hp.moved hsm1, hl.same (fun b hb => hsm1 b (hS b hb).2), hl'.same (fun b hb => hsm1 b (hS' b hb).2), hk.same (fun b hb => hsm1 b (hS b hb).2), hk'.same (fun b hb => hsm1 b (hS' b hb).2)⟩
  clear hk hk' hl hl' hsm1 hw hp
  go_enter Tryz.func52, Tryz.ntmps52
  go_wp2_with fail
  rw [← HE1.out]
  refine (enter_any S S' list list' rb mr base sv (met + 1) es n fl _ _ W1 HF.out.1 HS1.out.2.2.2.1 HS1.out.2.2.2.2.1 (fun b hb => (HS1.out.1 b hb).1) (fun b hb => (HS1.out.2.1 b hb).1) HS1.out.2.2.1.map hn).mono ?_
  rintro e w2 ⟨rfl, hent⟩
  have hB2 : But3 rb mr sv.ownBlock W1 w2 := hent.1
  have HB2 : Hid (But3 rb mr sv.ownBlock w w2) := HF.out.2.1.trans hB2
  have hW1 : w.heap.size + 1 < W1.heap.size := HF.out.2.2.2.lt
  have hsm2 : ∀ b, b < N → w2.heap[b]? = W1.heap[b]? := fun b hb => hB2.block b (by omega) (by omega) (by omega) (hlow b hb)
  have k0 := HF.out.2.2.1.but3 hB2 (by omega) (by omega) (fun e => by have := hog _ e.symm; omega)
  have k1 := HF.out.2.2.2.but3 hB2 (by omega) (by omega) (fun e => by have := hog _ e.symm; omega)
  have hks : StrsAt S w2 (.slice ak keys.length ck) keys := HS1.out.2.2.2.2.2.1.same (fun b hb => hsm2 b (HS1.out.1 b hb).2)
  have hks' : StrsAt S' w2 (.slice ak' keys'.length ck') keys' := HS1.out.2.2.2.2.2.2.same (fun b hb => hsm2 b (HS1.out.2.1 b hb).2)
  have HENT : Hid _ := hent
  obtain ⟨y0, y1, y2, y3, y4⟩ := k0.cell
  obtain ⟨z0, z1, z2, z3, z4⟩ := k1.cell
  clear hent hB2 HS1 HF HE1 x0 x1 x2 xf hmw k0 k1 hsm2
  have HEND : Hid (∀ w', Below w2.heap.size w2 w' → ∃ va vb q0 q1 q2 q3 q0' q1' q2' q3', Value.agg #[.int .i64 kind, .int .i64 num, .string str, .slice ak keys.length ck, .slice al list.length cl] = .agg #[q0, q1, q2, q3, va] ∧
      Value.agg #[.int .i64 kind', .int .i64 num', .string str', .slice ak' keys'.length ck', .slice al' list'.length cl'] = .agg #[q0', q1', q2', q3', vb] ∧ Entered w w' rb mr base sv (met + 1) es n fl va vb) := by
    intro w' hb
    refine ⟨_, _, _, _, _, _, _, _, _, _, rfl, rfl, HB2.out.trans (But3.of_below hb), ?_⟩
    rcases HENT.out.2 with ⟨sv', es', h1, h2⟩ | ⟨a, b, la, lb, ca, cb, h1, h2, h3, h4, h5, h6⟩
    · exact Or.inl ⟨sv', es', h1.below hb, h2⟩
    · exact Or.inr ⟨a, b, la, lb, ca, cb, h1, h2, h3, h4, h5, h6.below hb⟩
  clear HENT HB2 hlow hog hS hS' hW1
  go_wp2_with fail
  go_region_held (fun w' => (w'.cell? ⟨w.heap.size, 0, none⟩ = some (.int .i64 kind) ∧ w'.cell? ⟨w.heap.size, 1, none⟩ = some (.int .i64 num) ∧ w'.cell? ⟨w.heap.size, 2, none⟩ = some (.string str) ∧ w'.cell? ⟨w.heap.size, 3, none⟩ = some (.slice ak keys.length ck)) ∧
      w'.cell? ⟨w.heap.size + 1, 0, none⟩ = some (.int .i64 kind') ∧ w'.cell? ⟨w.heap.size + 1, 1, none⟩ = some (.int .i64 num') ∧ w'.cell? ⟨w.heap.size + 1, 2, none⟩ = some (.string str') ∧ w'.cell? ⟨w.heap.size + 1, 3, none⟩ = some (.slice ak' keys'.length ck'))
    (go_keep)
    (first
      | (go_at_call 74; refine (compareInt_any _ _ _).mono ?_; rintro e w3 ⟨rfl, rfl⟩)
      | (go_at_call 75; refine (compareStr_any _ _ _).mono ?_; rintro e w3 ⟨rfl, rfl⟩)
      | (go_at_call 76; refine (compareStrs_any S S' keys keys' _ _ _ ?_ ?_).mono ?_; exact hks.same (fun _ _ => rfl); exact hks'.same (fun _ _ => rfl); rintro e w3 ⟨rfl, rfl⟩)
      | (go_at_call 73; refine (orInt_any [cmpI kind kind', cmpI num num', cmpS str str', ordL cmpS keys keys'] w2.heap.size 0 4 _ (by simp) (cell_four_new _ _ _ _ _ _)).mono ?_; rintro e w3 ⟨rfl, rfl⟩))
  all_goals
    go_wp2_with fail
    go_ret
    rw [hH.out]
    exact ⟨rfl, HEND.out _ ((below_alloc1 _ _).trans (below_drewN _ _ 1))⟩
end Go.Proofs.YtilgbnnjecpneaaGreatDoor

/- (*orderWalk).step: one place on in the lists that were entered last. -/
namespace Go.Proofs.YtilgbnnjecpneaaGreatDoor
open Go.RowKit Go.Deep

/-- Two lists that are open, and the place up to which they are the same. -/
structure Fr where
  d : Nat
  la : List (Tr d)
  lb : List (Tr d)
  pos : Nat
  va : Value
  vb : Value
/-- The stack's cells; its top is the first. -/
def flat : List Fr → List Value
  | [] => []
  | f :: r => flat r ++ [f.va, f.vb, .int .i64 f.pos]
theorem flat_length : ∀ (fs : List Fr), (flat fs).length = fs.length * 3
  | [] => rfl
  | f :: r => by simp [flat, flat_length r]; omega
theorem flat_top0 (f : Fr) (r : List Fr) : (flat (f :: r))[r.length * 3]? = some f.va := by
  rw [← flat_length r]
  simp [flat]
theorem flat_top1 (f : Fr) (r : List Fr) : (flat (f :: r))[r.length * 3 + 1]? = some f.vb := by
  rw [← flat_length r]
  simp [flat]
theorem flat_top2 (f : Fr) (r : List Fr) : (flat (f :: r))[r.length * 3 + 2]? = some (.int .i64 f.pos) := by
  rw [← flat_length r]
  simp [flat]
theorem take_len {α : Type} : ∀ (A B : List α), (A ++ B).take A.length = A
  | [], B => by simp
  | a :: A, B => by simp [take_len A B]
theorem row_pop {w : World} {base : Nat} {e : TypeId} {g cap : Nat} {f : Fr} {r : List Fr} (h : w.ownsRow base e 3 (.slice (some ⟨g, 0, none⟩) (r.length + 1) cap) (r.length + 1) (flat (f :: r))) :
    w.ownsRow base e 3 (.slice (some ⟨g, 0, none⟩) r.length cap) r.length (flat r) := by
  obtain ⟨h1, h2⟩ := h
  rcases h2 with ⟨h0, _⟩ | ⟨g', cap', cur, hv, hg, hh, hn, hcap, hsz, htake⟩
  · cases h0
  · cases hv
    refine ⟨by rw [flat_length], .inr ⟨g, cap, cur, rfl, hg, hh, by omega, hcap, hsz, ?_⟩⟩
    have h3 : (cur.toList.take ((r.length + 1) * 3)).take (r.length * 3) = (flat (f :: r)).take (r.length * 3) := by rw [htake]
    rw [List.take_take, Nat.min_eq_left (by omega)] at h3
    rw [h3, ← flat_length r]
    exact take_len _ _
theorem row_next {w : World} {base : Nat} {e : TypeId} {g cap : Nat} {f : Fr} {r : List Fr} (h : w.ownsRow base e 3 (.slice (some ⟨g, 0, none⟩) (r.length + 1) cap) (r.length + 1) (flat (f :: r))) (p : Nat) :
    (w.setCell ⟨g, r.length * 3 + 2, none⟩ (.int .i64 p)).ownsRow base e 3 (.slice (some ⟨g, 0, none⟩) (r.length + 1) cap) (r.length + 1) (flat ({ f with pos := p } :: r)) := by
  obtain ⟨h1, h2⟩ := h
  rcases h2 with ⟨h0, _⟩ | ⟨g', cap', cur, hv, hg, hh, hn, hcap, hsz, htake⟩
  · cases h0
  · cases hv
    refine ⟨by rw [flat_length]; rfl, .inr ⟨g, cap, cur.setIfInBounds (r.length * 3 + 2) (.int .i64 p), rfl, hg, ?_, hn, hcap, by simpa using hsz, ?_⟩⟩
    · simp [World.setCell, Array.getElem?_modify, hh]
    · rw [Array.toList_setIfInBounds, List.take_set, htake, flat, flat, ← flat_length r]
      simp
theorem row_frozen {w : World} {base : Nat} {e : TypeId} {size n g cap : Nat} {xs : List Value} (h : w.ownsRow base e size (.slice (some ⟨g, 0, none⟩) n cap) n xs) (o : Nat) : w.frozen? ⟨g, o, none⟩ = false := by
  rcases h.2 with ⟨h0, _⟩ | ⟨g', cap', cur, hv, hg, hh, _⟩
  · cases h0
  · cases hv
    simp [World.frozen?, hh]
end Go.Proofs.YtilgbnnjecpneaaGreatDoor

/- (*orderWalk).step, over memory. -/
namespace Go.Proofs.YtilgbnnjecpneaaGreatDoor
open Go.RowKit Go.Deep

theorem But3.under {rb mr N : Nat} {ob : Option Nat} {w w' : World} (h : But3 rb mr ob w w') (h1 : N ≤ rb) (h2 : N ≤ mr) (h3 : ∀ g, ob = some g → N ≤ g) (hz : N ≤ w.heap.size) : Below N w w' :=
  ⟨h.os, h.tape, h.output, h.size, fun b hb => h.block b (by omega) (by omega) (by omega) (fun e => by have := h3 b e.symm; omega)⟩

theorem Walk.shrunk {w : World} {rb mr base : Nat} {g cap : Nat} {f : Fr} {r : List Fr} {met : Int} {es : Array MapEntry} (h : Walk w rb mr base (.slice (some ⟨g, 0, none⟩) (r.length + 1) cap) met es (r.length + 1) (flat (f :: r))) :
    Walk (w.setCell ⟨rb, 0, none⟩ (.slice (some ⟨g, 0, none⟩) r.length cap)) rb mr base (.slice (some ⟨g, 0, none⟩) r.length cap) met es r.length (flat r) := by
  have hc := h.cells
  refine ⟨h.rlt, h.mlt, h.ne, by rw [size_setCell1]; exact h.big, ?_, ?_, ownsRow_but (row_pop h.row) (But.set rb w 0 _) h.rlt⟩
  · simp [World.setCell, Array.getElem?_modify, hc]
  · rw [Below.heap_setCell _ _ _ _ (fun e => h.ne e.symm)]
    exact h.map

theorem Tryz.cellsWalk : Tryz.prog.cellsOf 99 = 3 := by kernel_rfl

set_option maxRecDepth 100000 in
set_option maxHeartbeats 2000000 in
theorem step_pop (rb mr base : Nat) (sv : Value) (met : Int) (es : Array MapEntry) (f : Fr) (r : List Fr) (aa ab : Option Addr) (la lb ca cb : Nat) (w : World) (hw : Walk w rb mr base sv met es (r.length + 1) (flat (f :: r)))
    (hva : f.va = .slice aa la ca) (hvb : f.vb = .slice ab lb cb) (hn : r.length ≤ 8388608) (hc : ¬ (f.pos < la ∧ f.pos < lb)) :
    Calls Tryz.prog 53 #[.pointer (some ⟨rb, 0, none⟩)] w fun e w' => e = .returned (.int .i64 (cmpI la lb)) ∧ (∃ sv', Walk w' rb mr base sv' met es r.length (flat r)) ∧ But3 rb mr sv.ownBlock w w' := by
  obtain ⟨g, cap, rfl⟩ := row_succ hw.row
  have c0 := (hw.row.cellAt (r.length * 3) (by omega)).trans (flat_top0 f r)
  have c1 := (hw.row.cellAt (r.length * 3 + 1) (by omega)).trans (flat_top1 f r)
  have c2 := (hw.row.cellAt (r.length * 3 + 2) (by omega)).trans (flat_top2 f r)
  rw [hva] at c0
  rw [hvb] at c1
  obtain ⟨x0, x1, x2⟩ := hw.cell
  have xf := hw.frozen 0
  have c70 := Tryz.cellsWalk
  have hcap : r.length + 1 ≤ cap := by
    rcases hw.row.2 with ⟨h0, _⟩ | ⟨g', cap', cur, hv, hg, hh, hn', _⟩
    · cases h0
    · cases hv
      exact hn'
  have hwr : IntKind.i64.wrap (r.length : Int) = (r.length : Int) := by rw [IntKind.wrap_i64]; omega
  have hix1 : (r.length : Int) < (r.length : Int) + 1 := by omega
  have hix2 : (r.length : Int) < ((r.length + 1 : Nat) : Int) := by omega
  have hix3 : r.length < r.length + 1 := by omega
  have hix0 : (0 : Int) ≤ (r.length : Int) := by omega
  have HEND : Hid (∀ m, (∃ sv', Walk ((w.drewN m).setCell ⟨rb, 0, none⟩ (.slice (some ⟨g, 0, none⟩) r.length cap)) rb mr base sv' met es r.length (flat r)) ∧ But3 rb mr (some g) w ((w.drewN m).setCell ⟨rb, 0, none⟩ (.slice (some ⟨g, 0, none⟩) r.length cap))) := by
    intro m
    exact ⟨⟨_, (hw.below (below_drewN _ w m)).shrunk⟩, (But3.of_below (below_drewN _ w m)).trans (But3.set _ _ _)⟩
  clear hw
  by_cases h1 : f.pos < la
  · have h2 : ¬ f.pos < lb := fun h => hc ⟨h1, h⟩
    go_enter Tryz.func53, Tryz.ntmps53
    go_wp2_with fail
    go_quiet (fail)
    go_wp2_with fail
    go_quiet (fail)
    go_wp2_with fail
    go_region
    go_wp2_with fail
    refine (compareInt_any _ _ _).mono ?_
    rintro e w1 ⟨rfl, rfl⟩
    go_wp2_with fail
    go_ret
    exact ⟨rfl, HEND.out _⟩
  · go_enter Tryz.func53, Tryz.ntmps53
    go_wp2_with fail
    go_quiet (fail)
    go_wp2_with fail
    go_quiet (fail)
    go_wp2_with fail
    go_region
    go_wp2_with fail
    refine (compareInt_any _ _ _).mono ?_
    rintro e w1 ⟨rfl, rfl⟩
    go_wp2_with fail
    go_ret
    exact ⟨rfl, HEND.out _⟩

theorem Walk.next {w : World} {rb mr base : Nat} {g cap : Nat} {f : Fr} {r : List Fr} {met : Int} {es : Array MapEntry} (h : Walk w rb mr base (.slice (some ⟨g, 0, none⟩) (r.length + 1) cap) met es (r.length + 1) (flat (f :: r))) (p : Nat) :
    Walk (w.setCell ⟨g, r.length * 3 + 2, none⟩ (.int .i64 p)) rb mr base (.slice (some ⟨g, 0, none⟩) (r.length + 1) cap) met es (r.length + 1) (flat ({ f with pos := p } :: r)) := by
  have hg := (h.row.lt g rfl).1
  have h1 := h.rlt
  have h2 := h.mlt
  refine ⟨h.rlt, h.mlt, h.ne, by rw [size_setCell1]; exact h.big, ?_, ?_, row_next h.row p⟩
  · rw [Below.heap_setCell _ _ _ _ (by show rb ≠ g; omega)]
    exact h.cells
  · rw [Below.heap_setCell _ _ _ _ (by show mr ≠ g; omega)]
    exact h.map

set_option maxRecDepth 100000 in
set_option maxHeartbeats 2000000 in
theorem step_go (d N : Nat) (S S' : Nat → Prop) (rb mr base : Nat) (sv : Value) (met : Int) (es : Array MapEntry) (la lb : List (Tr (d + 1))) (pos : Nat) (va vb : Value) (r : List Fr) (x y : Tr (d + 1)) (w : World)
    (hw : Walk w rb mr base sv met es (r.length + 1) (flat (⟨d + 1, la, lb, pos, va, vb⟩ :: r))) (ha : RowAt S w (ValAt S w (d + 1)) va la) (hb : RowAt S' w (ValAt S' w (d + 1)) vb lb) (hx : la[pos]? = some x) (hy : lb[pos]? = some y)
    (hS : Under S w N) (hS' : Under S' w N) (hp : PairIn w N es.toList) (hNr : N ≤ rb) (hNm : N ≤ mr) (hn : r.length + 1 ≤ 8388608) (hm0 : 0 ≤ met) (hm : met ≤ 8388608) :
    Calls Tryz.prog 53 #[.pointer (some ⟨rb, 0, none⟩)] w fun e w' => e = .returned (.int .i64 (headO (α := Tr d) x y)) ∧ Below N w w' ∧
      ∃ xa xb, RowAt S w (ValAt S w d) xa (Nd.list x) ∧ RowAt S' w (ValAt S' w d) xb (Nd.list y) ∧
       ((∃ sv' es', Walk w' rb mr base sv' (met + 1) es' (r.length + 2) (flat (⟨d, Nd.list x, Nd.list y, 0, xa, xb⟩ :: ⟨d + 1, la, lb, pos + 1, va, vb⟩ :: r)) ∧
          (es' = es ∨ ∃ a b la lb ca cb, xa = .slice (some a) la ca ∧ xb = .slice (some b) lb cb ∧ 0 < la ∧ 0 < lb ∧ es' = es.push ⟨pairKey a b la lb, .agg #[], es.size⟩)) ∨
        (∃ a b la' lb' ca cb, xa = .slice (some a) la' ca ∧ xb = .slice (some b) lb' cb ∧ 0 < la' ∧ 0 < lb' ∧ (∃ e ∈ es.toList, e.key = pairKey a b la' lb') ∧ ∃ sv', Walk w' rb mr base sv' (met + 1) es (r.length + 1) (flat (⟨d + 1, la, lb, pos + 1, va, vb⟩ :: r)))) := by
  obtain ⟨g, cap, rfl⟩ := row_succ hw.row
  obtain ⟨aa, ca, rfl, hla⟩ := ha.open'
  obtain ⟨ab, cb, rfl, hlb⟩ := hb.open'
  have hpa := (List.getElem?_eq_some_iff.1 hx).1
  have hpb := (List.getElem?_eq_some_iff.1 hy).1
  have c0 := (hw.row.cellAt (r.length * 3) (by omega)).trans (flat_top0 _ r)
  have c1 := (hw.row.cellAt (r.length * 3 + 1) (by omega)).trans (flat_top1 _ r)
  have c2 := (hw.row.cellAt (r.length * 3 + 2) (by omega)).trans (flat_top2 _ r)
  have cf := row_frozen hw.row (r.length * 3 + 2)
  obtain ⟨x0, x1, x2⟩ := hw.cell
  have c70 := Tryz.cellsWalk
  have hg := (hw.row.lt g rfl).1
  have hgz := (hw.row.lt g rfl).2
  have hrb := hw.rlt
  have hbig := hw.big
  have hwr : IntKind.i64.wrap (r.length : Int) = (r.length : Int) := by rw [IntKind.wrap_i64]; omega
  have hwp : IntKind.i64.wrap ((pos : Int) + 1) = (pos : Int) + 1 := by rw [IntKind.wrap_i64]; omega
  have hix1 : (r.length : Int) < (r.length : Int) + 1 := by omega
  have hix2 : (r.length : Int) < ((r.length + 1 : Nat) : Int) := by omega
  have hix3 : r.length < r.length + 1 := by omega
  have hix0 : (0 : Int) ≤ (r.length : Int) := by omega
  have HW : Hid (Walk w rb mr base (.slice (some ⟨g, 0, none⟩) (r.length + 1) cap) met es (r.length + 1) (flat (⟨d + 1, la, lb, pos, .slice aa la.length ca, .slice ab lb.length cb⟩ :: r))) := hw
  clear hw
  go_enter Tryz.func53, Tryz.ntmps53
  go_wp2_with fail
  go_quiet (fail)
  go_wp2_with fail
  go_quiet (fail)
  go_wp2_with fail
  generalize hE : World.setCell _ _ _ = W1
  obtain ⟨m, hmW⟩ : ∃ m, W1 = (w.drewN m).setCell ⟨g, r.length * 3 + 2, none⟩ (.int .i64 ((pos : Int) + 1)) := ⟨_, hE.symm⟩
  have hw1 : Walk W1 rb mr base (.slice (some ⟨g, 0, none⟩) (r.length + 1) cap) met es (r.length + 1) (flat (⟨d + 1, la, lb, pos + 1, .slice aa la.length ca, .slice ab lb.length cb⟩ :: r)) := by
    rw [hmW]
    exact (HW.out.below (below_drewN _ w m)).next (pos + 1)
  have hB1 : Below N w W1 := by
    rw [hmW]
    exact (below_drewN _ w m).setCell (by show N ≤ g; omega) _
  have hz1 : w.heap.size ≤ W1.heap.size := hB1.size
  clear hE hmW
  have hS1 := hS.moved hB1.block
  have hS1' := hS'.moved hB1.block
  have hp1 := hp.moved hB1.block
  have ha1 : RowAt S W1 (ValAt S W1 (d + 1)) (.slice aa la.length ca) la := ha.same (fun b hb => hB1.block b (hS b hb).2)
  have hb1 : RowAt S' W1 (ValAt S' W1 (d + 1)) (.slice ab lb.length cb) lb := hb.same (fun b hb => hB1.block b (hS' b hb).2)
  obtain ⟨b, o, x', q0, q1, q2, q3, q4, rfl, _, hx', e0, e1, e2, e3, e4, hvx⟩ := ha1.cell hpa
  obtain ⟨b', o', y', q0', q1', q2', q3', q4', rfl, _, hy', e0', e1', e2', e3', e4', hvy⟩ := hb1.cell hpb
  rw [hx] at hx'
  cases hx'
  rw [hy] at hy'
  cases hy'
  have HX : Hid (RowAt S w (ValAt S w d) q4 (Nd.list x) ∧ RowAt S' w (ValAt S' w d) q4' (Nd.list y)) := by
    obtain ⟨vk, vl, hv, _, _, _, _, hl⟩ := hvx
    obtain ⟨vk', vl', hv', _, _, _, _, hl'⟩ := hvy
    cases hv
    cases hv'
    exact ⟨hl.same (fun b hb => (hB1.block b (hS1 b hb).2).symm), hl'.same (fun b hb => (hB1.block b (hS1' b hb).2).symm)⟩
  have HW1 : Hid (Walk W1 rb mr base (.slice (some ⟨g, 0, none⟩) (r.length + 1) cap) met es (r.length + 1) (flat (⟨d + 1, la, lb, pos + 1, .slice (some ⟨b, o, none⟩) la.length ca, .slice (some ⟨b', o', none⟩) lb.length cb⟩ :: r))) := hw1
  have HB1 : Hid (Below N w W1) := hB1
  have HH : Hid (Under S W1 N ∧ Under S' W1 N ∧ PairIn W1 N es.toList) := ⟨hS1, hS1', hp1⟩
  clear hw1 hB1 ha1 hb1 ha hb hx hy HW c0 c1 c2 cf x0 x1 x2 hS1 hS1' hp1 hS hS' hp
  have hki : (pos : Int) < (la.length : Int) := by omega
  have hki' : (pos : Int) < (lb.length : Int) := by omega
  go_wp2_with fail
  go_region_with (go_at_call 52; refine (meet_any d N S S' x y _ _ rb mr base _ met es (r.length + 1) _ W1.drew (HW1.out.below (below_drewN _ W1 1)) ?_ ?_ ?_ ?_ ?_ hNr hNm hn hm0 hm).mono ?_; exact hvx.same (fun _ _ => rfl); exact hvy.same (fun _ _ => rfl); exact HH.out.1.moved (fun _ _ => rfl); exact HH.out.2.1.moved (fun _ _ => rfl); exact HH.out.2.2.moved (fun _ _ => rfl); rintro e w3 ⟨rfl, hent⟩)
  all_goals
    have HENT : Hid _ := hent
    clear hent
    go_wp2_with fail
    go_ret
    obtain ⟨xa, xb, p0, p1, p2, p3, p0', p1', p2', p3', hv1, hv2, h1, h2⟩ := HENT.out
    cases hv1
    cases hv2
    refine ⟨rfl, HB1.out.trans (Below.trans (below_drewN N W1 1) (h1.under hNr hNm (fun g' e => by cases e; show N ≤ g; omega) (by show N ≤ W1.heap.size; omega))), q4, q4', HX.out.1, HX.out.2, ?_⟩
    rcases h2 with ⟨sv', es', h3, h4⟩ | ⟨a, b, la', lb', ca', cb', h3, h4, h5, h6, h7, h8⟩
    · exact Or.inl ⟨sv', es', h3, h4⟩
    · exact Or.inr ⟨a, b, la', lb', ca', cb', h3, h4, h5, h6, h7, _, h8⟩
end Go.Proofs.YtilgbnnjecpneaaGreatDoor
