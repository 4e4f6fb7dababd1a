/- Texts of the proof, put together by program: WWalkC. -/
import Derived.Test.YthbpfiandjggcaaV24
import Derived.Deep.RegionHeld
/- (*orderWalk).meet: two parts are held against each other but for their lists, which are laid upon the stack. -/
namespace Go.Proofs.Ythbpfiandjggcaa
open Go.RowKit Go.Deep

/-- Two lists were laid upon the stack, or they were met before. -/
def Entered (w w' : World) (rb mr base : Nat) (sv : Value) (met : Int) (es : Array MapEntry) (n : Nat) (fl : List Value) (va vb : Value) : Prop :=
  But3 rb mr sv.ownBlock w w' ∧
  ((∃ sv' es', Walk w' rb mr base sv' met es' (n + 1) (fl ++ [va, vb, .int .i64 0]) ∧
      (es' = es ∨ ∃ a b la lb ca cb, va = .slice (some a) la ca ∧ vb = .slice (some b) lb cb ∧ 0 < la ∧ 0 < lb ∧ es' = es.push ⟨pairKey a b la lb, .agg #[], es.size⟩)) ∨
   (∃ a b la lb ca cb, va = .slice (some a) la ca ∧ vb = .slice (some b) lb cb ∧ 0 < la ∧ 0 < lb ∧ (∃ e ∈ es.toList, e.key = pairKey a b la lb) ∧ Walk w' rb mr base sv met es n fl))

theorem enter_any {d : Nat} (S S' : Nat → Prop) (xs ys : List (Tr d)) (rb mr base : Nat) (sv : Value) (met : Int) (es : Array MapEntry) (n : Nat) (fl : List Value) (va vb : Value) (w : World) (hw : Walk w rb mr base sv met es n fl)
    (hx : RowAt S w (ValAt S w d) va xs) (hy : RowAt S' w (ValAt S' w d) vb ys) (hS : ∀ b, S b → Plain w b) (hS' : ∀ b, S' b → Plain w b) (hp : PairMap w es.toList) (hn : n ≤ 8388608) :
    Calls Try.prog 34 #[.pointer (some ⟨rb, 0, none⟩), va, vb] w fun e w' => e = .returned (.tuple #[]) ∧ Entered w w' rb mr base sv met es n fl va vb := by
  obtain ⟨aa, ca, rfl, hla⟩ := hx.open'
  obtain ⟨ab, cb, rfl, hlb⟩ := hy.open'
  by_cases hc : 60 < met ∧ 0 < xs.length ∧ 0 < ys.length
  · obtain ⟨c1, c2, c3⟩ := hc
    obtain ⟨b, o, x, _, _, _, _, _, rfl, hb, _⟩ := hx.cell c2
    obtain ⟨b', o', y, _, _, _, _, _, rfl, hb', _⟩ := hy.cell c3
    refine (enter_many rb mr base sv met es n fl _ _ _ _ ca cb w hw hn c1 c2 c3 (hS b hb) (hS' b' hb') hp).mono ?_
    rintro e w' ⟨rfl, h1, h2⟩
    refine ⟨rfl, h1, ?_⟩
    rcases h2 with ⟨_, sv', h3, _⟩ | ⟨h3, h4⟩
    · exact Or.inl ⟨sv', _, h3, Or.inr ⟨_, _, _, _, _, _, rfl, rfl, c2, c3, rfl⟩⟩
    · exact Or.inr ⟨_, _, _, _, _, _, rfl, rfl, c2, c3, h3, h4⟩
  · refine (enter_few rb mr base sv met es n fl aa ab _ _ ca cb w hw hn hc).mono ?_
    rintro e w' ⟨rfl, sv', h1, h2, _⟩
    exact ⟨rfl, h2, Or.inl ⟨sv', es, h1, Or.inl rfl⟩⟩

theorem Walk.counted {w : World} {rb mr base : Nat} {sv : Value} {met : Int} {es : Array MapEntry} {n : Nat} {fl : List Value} (h : Walk w rb mr base sv met es n fl) (m : Int) : Walk (w.setCell ⟨rb, 1, none⟩ (.int .i64 m)) rb mr base sv m es n fl := by
  have hc := h.cells
  refine ⟨h.rlt, h.mlt, h.ne, by rw [size_setCell1]; exact h.big, ?_, ?_, ownsRow_but h.row (But.set rb w 1 _) h.rlt⟩
  · simp [World.setCell, Array.getElem?_modify, hc]
  · rw [Below.heap_setCell _ _ _ _ (fun e => h.ne e.symm)]
    exact h.map

theorem Blk5.but3 {w w' : World} {b rb mr : Nat} {ob : Option Nat} {T : TypeId} {c0 c1 c2 c3 c4 : Value} (h : Blk5 w b T c0 c1 c2 c3 c4) (e : But3 rb mr ob w w') (h1 : b ≠ rb) (h2 : b ≠ mr) (h3 : some b ≠ ob) : Blk5 w' b T c0 c1 c2 c3 c4 := h.of_block (e.block b h.lt h1 h2 h3)

theorem cell_of_cellsW {w : World} {b : Nat} {c : Array Value} {t : TypeId} {f : Nat × Nat} (h : w.heap[b]? = some (.cells c t f)) (o : Nat) : w.cell? ⟨b, o, none⟩ = c[o]? := by
  unfold World.cell?
  rw [h]
  rfl
theorem cell_four_new (w : World) (a b c d : Int) (t : TypeId) : ∀ i x, [a, b, c, d][i]? = some x → (w.drew.alloc (.cells #[.int .i64 a, .int .i64 b, .int .i64 c, .int .i64 d] t)).cell? ⟨w.heap.size, 0 + i, none⟩ = some (.int .i64 x) := by
  have h : (w.drew.alloc (.cells #[.int .i64 a, .int .i64 b, .int .i64 c, .int .i64 d] t)).heap[w.heap.size]? = some (.cells #[.int .i64 a, .int .i64 b, .int .i64 c, .int .i64 d] t (0, 0)) := heap_alloc_new w.drew _
  intro i x hx
  rw [Nat.zero_add, cell_of_cellsW h]
  match i, hx with
  | 0, hx => simp at hx; subst hx; rfl
  | 1, hx => simp at hx; subst hx; rfl
  | 2, hx => simp at hx; subst hx; rfl
  | 3, hx => simp at hx; subst hx; rfl
  | j + 4, hx => simp at hx

theorem headO_fold {α : Type} (a b : Nd α) : headO a b = [cmpI a.kind b.kind, cmpI a.num b.num, cmpS a.str b.str, ordL cmpS a.keys b.keys].foldr orI 0 := by
  simp only [List.foldr_cons, List.foldr_nil, orI_right]
  rfl

/-- A map of pairs of lists that lie in plain blocks below N. -/
def PairIn (w : World) (N : Nat) (es : List MapEntry) : Prop := ∀ e ∈ es, ∃ a b m n, e.key = pairKey a b m n ∧ e.val = .agg #[] ∧ (Plain w a.block ∧ a.block < N) ∧ (Plain w b.block ∧ b.block < N)
theorem PairIn.map {w : World} {N : Nat} {es : List MapEntry} (h : PairIn w N es) : PairMap w es := fun e he => by
  obtain ⟨a, b, m, n, h1, h2, h3, h4⟩ := h e he
  exact ⟨a, b, m, n, h1, h2, h3.1, h4.1⟩
theorem PairIn.moved {w w' : World} {N : Nat} {es : List MapEntry} (h : PairIn w N es) (hb : ∀ b, b < N → w'.heap[b]? = w.heap[b]?) : PairIn w' N es := fun e he => by
  obtain ⟨a, b, m, n, h1, h2, h3, h4⟩ := h e he
  exact ⟨a, b, m, n, h1, h2, ⟨h3.1.of_block (hb _ h3.2), h3.2⟩, ⟨h4.1.of_block (hb _ h4.2), h4.2⟩⟩
/-- Plain blocks below N. -/
def Under (S : Nat → Prop) (w : World) (N : Nat) : Prop := ∀ b, S b → Plain w b ∧ b < N
theorem Under.moved {S : Nat → Prop} {w w' : World} {N : Nat} (h : Under S w N) (hb : ∀ b, b < N → w'.heap[b]? = w.heap[b]?) : Under S w' N := fun b hS => ⟨(h b hS).1.of_block (hb b (h b hS).2), (h b hS).2⟩

set_option maxRecDepth 100000 in
set_option maxHeartbeats 4000000 in
theorem meet_any (d N : Nat) (S S' : Nat → Prop) (t t' : Tr (d + 1)) (v v' : Value) (rb mr base : Nat) (sv : Value) (met : Int) (es : Array MapEntry) (n : Nat) (fl : List Value) (w : World) (hw : Walk w rb mr base sv met es n fl)
    (hv : ValAt S w (d + 1) t v) (hv' : ValAt S' w (d + 1) t' v') (hS : Under S w N) (hS' : Under S' w N) (hp : PairIn w N es.toList) (hNr : N ≤ rb) (hNm : N ≤ mr) (hn : n ≤ 8388608) (hm0 : 0 ≤ met) (hm : met ≤ 8388608) :
    Calls Try.prog 20 #[.pointer (some ⟨rb, 0, none⟩), v, v'] w fun e w' => e = .returned (.int .i64 (headO (α := Tr d) t t')) ∧
      ∃ va vb k0 k1 k2 k3 k0' k1' k2' k3', v = .agg #[k0, k1, k2, k3, va] ∧ v' = .agg #[k0', k1', k2', k3', vb] ∧ Entered w w' rb mr base sv (met + 1) es n fl va vb := by
  obtain ⟨kind, num, str, keys, list⟩ := t
  obtain ⟨kind', num', str', keys', list'⟩ := t'
  obtain ⟨vk, vl, rfl, i1, i2, i3, hk, hl⟩ := hv
  obtain ⟨ak, ck, rfl, hkl⟩ := hk.open'
  obtain ⟨al, cl, rfl, hll⟩ := hl.open'
  obtain ⟨vk', vl', rfl, i1', i2', i3', hk', hl'⟩ := hv'
  obtain ⟨ak', ck', rfl, hkl'⟩ := hk'.open'
  obtain ⟨al', cl', rfl, hll'⟩ := hl'.open'
  change RowAt S w (ValAt S w d) (.slice al list.length cl) list at hl
  change RowAt S' w (ValAt S' w d) (.slice al' list'.length cl') list' at hl'
  change StrsAt S w (.slice ak keys.length ck) keys at hk
  change StrsAt S' w (.slice ak' keys'.length ck') keys' at hk'
  have hrl : rb < w.heap.size := Nat.lt_of_lt_of_le hw.rlt hw.big
  have hml : mr < w.heap.size := Nat.lt_of_lt_of_le hw.mlt hw.big
  have hog : ∀ g, sv.ownBlock = some g → g < w.heap.size ∧ base ≤ g := fun g e => ⟨(hw.row.lt g e).2, (hw.row.lt g e).1⟩
  have hrb := hw.rlt
  have hmb := hw.mlt
  obtain ⟨x0, x1, x2⟩ := hw.cell
  have xf := hw.frozen 1
  have hmw : IntKind.i64.wrap (met + 1) = met + 1 := IntWalk.i64_in _ (by omega)
  have hH : Hid (headO (α := Tr d) ⟨kind, num, str, keys, list⟩ ⟨kind', num', str', keys', list'⟩ = [cmpI kind kind', cmpI num num', cmpS str str', ordL cmpS keys keys'].foldr orI 0) := headO_fold _ _
  obtain ⟨W1, HE1⟩ : ∃ W1, Hid (W1 = ((w.setCell ⟨rb, 1, none⟩ (.int .i64 (met + 1))).alloc (.cells #[.int .i64 kind, .int .i64 num, .string str, .slice ak keys.length ck, .slice al list.length cl] 26)).alloc (.cells #[.int .i64 kind', .int .i64 num', .string str', .slice ak' keys'.length ck', .slice al' list'.length cl'] 26)) := ⟨_, rfl⟩
  have HF : Hid (Walk W1 rb mr base sv (met + 1) es n fl ∧ But3 rb mr sv.ownBlock w W1 ∧ Blk5 W1 w.heap.size 26 (.int .i64 kind) (.int .i64 num) (.string str) (.slice ak keys.length ck) (.slice al list.length cl) ∧
      Blk5 W1 (w.heap.size + 1) 26 (.int .i64 kind') (.int .i64 num') (.string str') (.slice ak' keys'.length ck') (.slice al' list'.length cl')) := by
    obtain ⟨k0, k1, hba⟩ := two_blocks (w.setCell ⟨rb, 1, none⟩ (.int .i64 (met + 1))) 26 (.int .i64 kind) (.int .i64 num) (.string str) (.slice ak keys.length ck) (.slice al list.length cl) (.int .i64 kind') (.int .i64 num') (.string str') (.slice ak' keys'.length ck') (.slice al' list'.length cl')
    rw [← HE1.out] at k0 k1 hba
    have h1 := (hw.counted (met + 1)).below hba
    have h2 : But3 rb mr sv.ownBlock w W1 := (But3.set w 1 _).trans (But3.of_below hba)
    rw [size_setCell1] at k0 k1
    exact ⟨h1, h2, k0, k1⟩
  have hlow : ∀ b, b < N → some b ≠ sv.ownBlock := fun b hb e => by have := hog b e.symm; omega
  have hsm1 : ∀ b, b < N → W1.heap[b]? = w.heap[b]? := fun b hb => HF.out.2.1.block b (by omega) (by omega) (by omega) (hlow b hb)
  have HS1 : Hid (Under S W1 N ∧ Under S' W1 N ∧ PairIn W1 N es.toList ∧ RowAt S W1 (ValAt S W1 d) (.slice al list.length cl) list ∧ RowAt S' W1 (ValAt S' W1 d) (.slice al' list'.length cl') list' ∧ StrsAt S W1 (.slice ak keys.length ck) keys ∧ StrsAt S' W1 (.slice ak' keys'.length ck') keys') :=
    ⟨hS.moved hsm1, hS'.moved hsm1, hp.moved hsm1, hl.same (fun b hb => hsm1 b (hS b hb).2), hl'.same (fun b hb => hsm1 b (hS' b hb).2), hk.same (fun b hb => hsm1 b (hS b hb).2), hk'.same (fun b hb => hsm1 b (hS' b hb).2)⟩
  clear hk hk' hl hl' hsm1 hw hp
  go_enter Try.func20, Try.ntmps20
  go_wp2_with fail
  rw [← HE1.out]
  refine (enter_any S S' list list' rb mr base sv (met + 1) es n fl _ _ W1 HF.out.1 HS1.out.2.2.2.1 HS1.out.2.2.2.2.1 (fun b hb => (HS1.out.1 b hb).1) (fun b hb => (HS1.out.2.1 b hb).1) HS1.out.2.2.1.map hn).mono ?_
  rintro e w2 ⟨rfl, hent⟩
  have hB2 : But3 rb mr sv.ownBlock W1 w2 := hent.1
  have HB2 : Hid (But3 rb mr sv.ownBlock w w2) := HF.out.2.1.trans hB2
  have hW1 : w.heap.size + 1 < W1.heap.size := HF.out.2.2.2.lt
  have hsm2 : ∀ b, b < N → w2.heap[b]? = W1.heap[b]? := fun b hb => hB2.block b (by omega) (by omega) (by omega) (hlow b hb)
  have k0 := HF.out.2.2.1.but3 hB2 (by omega) (by omega) (fun e => by have := hog _ e.symm; omega)
  have k1 := HF.out.2.2.2.but3 hB2 (by omega) (by omega) (fun e => by have := hog _ e.symm; omega)
  have hks : StrsAt S w2 (.slice ak keys.length ck) keys := HS1.out.2.2.2.2.2.1.same (fun b hb => hsm2 b (HS1.out.1 b hb).2)
  have hks' : StrsAt S' w2 (.slice ak' keys'.length ck') keys' := HS1.out.2.2.2.2.2.2.same (fun b hb => hsm2 b (HS1.out.2.1 b hb).2)
  have HENT : Hid _ := hent
  obtain ⟨y0, y1, y2, y3, y4⟩ := k0.cell
  obtain ⟨z0, z1, z2, z3, z4⟩ := k1.cell
  clear hent hB2 HS1 HF HE1 x0 x1 x2 xf hmw k0 k1 hsm2
  have HEND : Hid (∀ w', Below w2.heap.size w2 w' → ∃ va vb q0 q1 q2 q3 q0' q1' q2' q3', Value.agg #[.int .i64 kind, .int .i64 num, .string str, .slice ak keys.length ck, .slice al list.length cl] = .agg #[q0, q1, q2, q3, va] ∧
      Value.agg #[.int .i64 kind', .int .i64 num', .string str', .slice ak' keys'.length ck', .slice al' list'.length cl'] = .agg #[q0', q1', q2', q3', vb] ∧ Entered w w' rb mr base sv (met + 1) es n fl va vb) := by
    intro w' hb
    refine ⟨_, _, _, _, _, _, _, _, _, _, rfl, rfl, HB2.out.trans (But3.of_below hb), ?_⟩
    rcases HENT.out.2 with ⟨sv', es', h1, h2⟩ | ⟨a, b, la, lb, ca, cb, h1, h2, h3, h4, h5, h6⟩
    · exact Or.inl ⟨sv', es', h1.below hb, h2⟩
    · exact Or.inr ⟨a, b, la, lb, ca, cb, h1, h2, h3, h4, h5, h6.below hb⟩
  clear HENT HB2 hlow hog hS hS' hW1
  go_wp2_with fail
  go_region_held (fun w' => (w'.cell? ⟨w.heap.size, 0, none⟩ = some (.int .i64 kind) ∧ w'.cell? ⟨w.heap.size, 1, none⟩ = some (.int .i64 num) ∧ w'.cell? ⟨w.heap.size, 2, none⟩ = some (.string str) ∧ w'.cell? ⟨w.heap.size, 3, none⟩ = some (.slice ak keys.length ck)) ∧
      w'.cell? ⟨w.heap.size + 1, 0, none⟩ = some (.int .i64 kind') ∧ w'.cell? ⟨w.heap.size + 1, 1, none⟩ = some (.int .i64 num') ∧ w'.cell? ⟨w.heap.size + 1, 2, none⟩ = some (.string str') ∧ w'.cell? ⟨w.heap.size + 1, 3, none⟩ = some (.slice ak' keys'.length ck'))
    (go_keep)
    (first
      | (go_at_call 36; refine (compareInt_any _ _ _).mono ?_; rintro e w3 ⟨rfl, rfl⟩)
      | (go_at_call 37; refine (compareStr_any _ _ _).mono ?_; rintro e w3 ⟨rfl, rfl⟩)
      | (go_at_call 38; refine (compareStrs_any S S' keys keys' _ _ _ ?_ ?_).mono ?_; exact hks.same (fun _ _ => rfl); exact hks'.same (fun _ _ => rfl); rintro e w3 ⟨rfl, rfl⟩)
      | (go_at_call 35; refine (orInt_any [cmpI kind kind', cmpI num num', cmpS str str', ordL cmpS keys keys'] w2.heap.size 0 4 _ (by simp) (cell_four_new _ _ _ _ _ _)).mono ?_; rintro e w3 ⟨rfl, rfl⟩))
  all_goals
    go_wp2_with fail
    go_ret
    rw [hH.out]
    exact ⟨rfl, HEND.out _ ((below_alloc1 _ _).trans (below_drewN _ _ 1))⟩
end Go.Proofs.Ythbpfiandjggcaa
