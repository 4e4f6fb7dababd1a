/- Texts of the proof, put together by program: WDrawH, WRowX. -/
import Derived.Test.YtilgbnnjecpneaaGreatDoorR23
import Derived.Test.YtilgbnnjecpneaaGreatDoorR2
import Derived.Test.YtilgbnnjecpneaaGreatDoorR13
/- Drawn trees: two of them. -/
namespace Go.Proofs.YtilgbnnjecpneaaGreatDoor
open Go.RowKit Go.Deep

/-- A tree that owns its memory lies in plain cells. -/
theorem strs_plain {S : Nat → Prop} {w : World} {v : Value} {ss : List ByteArray} (h : StrsOwn S w v ss) : StrsAt (fun b => S b ∧ Plain w b) w v ss := by
  obtain ⟨h1, h2, a, cap, hv, h3⟩ := h
  refine ⟨h1, h2, a, cap, hv, ?_⟩
  rcases h3 with h3 | ⟨b, n, f, hB, ha, hl, hr, hc⟩
  · exact Or.inl h3
  · refine Or.inr ⟨b, 0, ⟨hB, plain_row hr⟩, ha, fun i s hi => ?_⟩
    have := (List.getElem?_eq_some_iff.1 hi).1
    rw [Nat.zero_add, hr.cell (by omega), hc i s hi]
theorem own_plain {w : World} : ∀ (d : Nat) (S : Nat → Prop) (t : Tr d) (v : Value), ValOwn w d S t v → ValAt (fun b => S b ∧ Plain w b) w d t v
  | 0, _, _, _, h => h
  | d + 1, S, t, v, h => by
    obtain ⟨vk, vl, Sk, Sl, hv, i1, i2, i3, hk, hl, s1, s2, _⟩ := h
    refine ⟨vk, vl, hv, i1, i2, i3, (strs_plain hk).mono (fun b hb => ⟨s1 b hb.1, hb.2⟩), ?_⟩
    obtain ⟨h1, a, cap, hv, h3⟩ := hl
    refine ⟨h1, a, cap, hv, ?_⟩
    rcases h3 with h3 | ⟨b, n, f, P, hB, ha, hl, hr, hP, _, hc⟩
    · exact Or.inl h3
    · refine Or.inr ⟨b, 0, ⟨s2 b hB, plain_row hr⟩, ha, fun i x hx => ?_⟩
      have := (List.getElem?_eq_some_iff.1 hx).1
      rw [Nat.zero_add]
      exact ⟨_, _, _, _, _, hr.cell (by omega), hr.cell (by omega), hr.cell (by omega), hr.cell (by omega), hr.cell (by omega), (own_plain d _ x _ (hc i x hx)).mono (fun c hc' => ⟨s2 c (hP i c hc'.1).1, hc'.2⟩)⟩

/-- The operation at hand is a call of this function. -/
theorem step_sel {P : Program} {ops : Array Oper} {o : Oper} {a : Act} {w : World} {K : Act → World → Prop} {Q : Exit → Act → World → Prop} {E : Prop} (f : FuncId) (xs : Array Operand) (ts : Array TypeId)
    (_hop : o.op = Op.call { callee := Callee.value (Operand.func f), args := xs, argTypes := ts }) (h : if Region.wanted o (yielded ops a.tmps) = true then Oper.wp P o a w K Q else E) : if Region.wanted o (yielded ops a.tmps) = true then Oper.wp P o a w K Q else E := h

/-- Plain blocks between two bounds. -/
def FreshR (lo hi : Nat) (w : World) (b : Nat) : Prop := lo < b ∧ b < hi ∧ Plain w b
theorem FreshR.go {lo hi r d : Nat} {w w' : World} {t : Tr d} {u : Value} (h : ValAt (FreshR lo hi w) w d t u) (hb : But r w w') (hr : r ≤ lo) (hh : hi ≤ w.heap.size) : ValAt (FreshR lo hi w') w' d t u := by
  have hs : Same (FreshR lo hi w) w w' := fun b hb' => hb.block b (by have := hb'.2.1; omega) (fun e => by have := hb'.1; cases e; omega)
  exact ValAt.moved hs (fun b hb' => ⟨hb'.1, hb'.2.1, hb'.2.2.of_block (hs b hb')⟩) d t u h

/-- What draws one tree. -/
def OneD (w : World) (e : Ending) (w' : World) : Prop := ∃ u t, e = .returned u ∧ ValAt (FreshP w w') w' 11 t u ∧ wtT 11 t ≤ 1000 ∧ Below w.heap.size w w'
/-- What draws two trees. -/
def TwoD (w : World) (e : Ending) (w' : World) : Prop := ∃ u t u' t', e = .returned (.tuple #[u, u']) ∧ ValAt (FreshP w w') w' 11 t u ∧ wtT 11 t ≤ 1000 ∧ ValAt (FreshP w w') w' 11 t' u' ∧ wtT 11 t' ≤ 1000 ∧ Below w.heap.size w w'

theorem but_below {N r : Nat} {w w1 w2 : World} (h : Below N w w1) (hb : But r w1 w2) (hr : N ≤ r) (hN : N ≤ w1.heap.size) : Below N w w2 :=
  ⟨hb.os.trans h.os, hb.tape.trans h.tape, hb.output.trans h.output, Nat.le_trans h.size hb.size, fun b hlt => (hb.block b (by omega) (fun e => by cases e; omega)).trans (h.block b hlt)⟩
theorem BytesAt.wider {r r' : Nat} {w w' : World} {a : Option Addr} {n : Nat} (h : BytesAt r w a n) (hs : ∀ b, b < r → w'.heap[b]? = w.heap[b]?) (hr : r ≤ r') : BytesAt r' w' a n := by
  rcases h with h | ⟨b, o, hb, ha, hc⟩
  · exact Or.inl h
  · refine Or.inr ⟨b, o, by omega, ha, fun i hi => ?_⟩
    obtain ⟨x, h0, h1, h2⟩ := hc i hi
    exact ⟨x, h0, h1, (World.cell?_of_block (w := w) (hs b hb)).trans h2⟩

theorem oneD_end {w wX : World} {t : Tr 11} {v0 v1 v2 v3 v4 : Value} (hv : ValAt (FreshQ w wX) wX 11 t (.agg #[v0, v1, v2, v3, v4])) (hB : wtT 11 t ≤ 1000) (hb : Below w.heap.size w wX) :
    ∀ wF, wF = set5 wX w.heap.size 0 v0 v1 v2 v3 v4 → OneD w (.returned (.agg #[v0, v1, v2, v3, v4])) wF := by
  intro wF hF
  have hs : ∀ b, b ≠ w.heap.size → wF.heap[b]? = wX.heap[b]? := fun b hb' => by rw [hF]; exact set5_block _ _ _ _ _ _ _ _ _ hb'
  have hz : wF.heap.size = wX.heap.size := by rw [hF]; exact set5_size _ _ _ _ _ _ _ _
  have hl : Below w.heap.size w wF := by rw [hF]; exact below_set5 hb (Nat.le_refl _) _ _ _ _ _ _
  refine ⟨_, t, rfl, ValAt.moved (fun b hb' => hs b (by have := hb'.1; omega)) (fun b hb' => ?_) 11 t _ hv, hB, hl⟩
  exact ⟨⟨Nat.le_of_lt hb'.1, by rw [hz]; exact hb'.2.1⟩, hb'.2.2.of_block (hs b (by have := hb'.1; omega))⟩

/-- New blocks of plain cells, but for the first two. -/
def FreshT (w w' : World) (b : Nat) : Prop := w.heap.size + 1 < b ∧ b < w'.heap.size ∧ Plain w' b
theorem twoD_end {w wX : World} {t t' : Tr 11} {v0 v1 v2 v3 v4 u0 u1 u2 u3 u4 : Value} (hv : ValAt (FreshT w wX) wX 11 t (.agg #[v0, v1, v2, v3, v4])) (hB : wtT 11 t ≤ 1000) (hv' : ValAt (FreshT w wX) wX 11 t' (.agg #[u0, u1, u2, u3, u4])) (hB' : wtT 11 t' ≤ 1000) (hb : Below w.heap.size w wX) :
    ∀ wF, wF = set5 (set5 wX w.heap.size 0 v0 v1 v2 v3 v4) (w.heap.size + 1) 0 u0 u1 u2 u3 u4 → TwoD w (.returned (.tuple #[.agg #[v0, v1, v2, v3, v4], .agg #[u0, u1, u2, u3, u4]])) wF := by
  intro wF hF
  have hs : ∀ b, w.heap.size + 1 < b → wF.heap[b]? = wX.heap[b]? := fun b hb' => by rw [hF, set5_block _ _ _ _ _ _ _ _ _ (by omega)]; exact set5_block _ _ _ _ _ _ _ _ _ (by omega)
  have hz : wF.heap.size = wX.heap.size := by rw [hF, set5_size]; exact set5_size _ _ _ _ _ _ _ _
  have hl : Below w.heap.size w wF := by rw [hF]; exact below_set5 (below_set5 hb (Nat.le_refl _) _ _ _ _ _ _) (by omega) _ _ _ _ _ _
  have hin : ∀ b, FreshT w wX b → FreshP w wF b := fun b hb' => ⟨⟨by have := hb'.1; omega, by rw [hz]; exact hb'.2.1⟩, hb'.2.2.of_block (hs b hb'.1)⟩
  exact ⟨_, t, _, t', rfl, ValAt.moved (fun b hb' => hs b hb'.1) hin 11 t _ hv, hB, ValAt.moved (fun b hb' => hs b hb'.1) hin 11 t' _ hv', hB', hl⟩

theorem FreshT.go {d : Nat} {w wB wX : World} {t : Tr d} {u : Value} (h : ValAt (FreshT w wB) wB d t u) (hX : Below wB.heap.size wB wX) : ValAt (FreshT w wX) wX d t u := by
  have hs : Same (FreshT w wB) wB wX := fun b hb => hX.block b hb.2.1
  exact ValAt.moved hs (fun b hb => ⟨hb.1, Nat.lt_of_lt_of_le hb.2.1 hX.size, hb.2.2.of_block (hs b hb)⟩) d t u h
theorem row_of {S : Nat → Prop} {w : World} {d n : Nat} {list : List (Tr d)} {a : Option Addr} {c : Nat} (_hn : n = list.length) (h : RowAt S w (ValAt S w d) (.slice a n c) list) : ValAt S w (d + 1) ({ kind := 5, num := 0, str := ⟨#[]⟩, keys := [], list := list } : Nd (Tr d)) (.agg #[.int .i64 5, .int .i64 0, .string { data := #[] }, .slice none 0 0, .slice a n c]) :=
  build_of ⟨by omega, by omega⟩ ⟨by omega, by omega⟩ (by show (0 : Nat) < _; omega) ⟨by show (0 : Nat) < _; omega, (fun s hs => by cases hs), none, 0, rfl, Or.inl rfl⟩ h
/-- The two results' own cells are written. -/
def rows2 (wB : World) (b g1 g2 : Nat) : World := set5 (set5 wB b 0 (.int .i64 5) (.int .i64 0) (.string { data := #[] }) (.slice none 0 0) (.slice (some ⟨g1, 0, none⟩) 1 1)) (b + 1) 0 (.int .i64 5) (.int .i64 0) (.string { data := #[] }) (.slice none 0 0) (.slice (some ⟨g2, 0, none⟩) 2 2)
theorem rows2_block (wB : World) (b g1 g2 c : Nat) (h : b + 1 < c) : (rows2 wB b g1 g2).heap[c]? = wB.heap[c]? := by
  unfold rows2
  rw [set5_block _ _ _ _ _ _ _ _ _ (by omega), set5_block _ _ _ _ _ _ _ _ _ (by omega)]
theorem rows2_size (wB : World) (b g1 g2 : Nat) : (rows2 wB b g1 g2).heap.size = wB.heap.size := by
  unfold rows2
  rw [set5_size, set5_size]
/-- A row of one, and a row of two. -/
theorem rows_end {w wB wF : World} {t c l : Tr 10} {g1 g2 : Nat} {a0 a1 a2 a3 a4 c0 c1 c2 c3 c4 l0 l1 l2 l3 l4 : Value} (hT : ValAt (FreshT w wB) wB 10 t (.agg #[a0, a1, a2, a3, a4])) (hC : ValAt (FreshT w wB) wB 10 c (.agg #[c0, c1, c2, c3, c4])) (hL : ValAt (FreshT w wB) wB 10 l (.agg #[l0, l1, l2, l3, l4]))
    (k1 : wtT 10 t ≤ 360) (k2 : wtT 10 c ≤ 360) (k3 : wtT 10 l ≤ 3) (hb : Below w.heap.size w wB) (hX : Below wB.heap.size (rows2 wB w.heap.size g1 g2) wF) (h1 : Blk5 wF g1 29 a0 a1 a2 a3 a4) (hg1 : w.heap.size + 1 < g1)
    (h2 : wF.heap[g2]? = some (.cells #[c0, c1, c2, c3, c4, l0, l1, l2, l3, l4] 29 (0, 0))) (hg2 : w.heap.size + 1 < g2) :
    TwoD w (.returned (.tuple #[.agg #[.int .i64 5, .int .i64 0, .string { data := #[] }, .slice none 0 0, .slice (some ⟨g1, 0, none⟩) 1 1], .agg #[.int .i64 5, .int .i64 0, .string { data := #[] }, .slice none 0 0, .slice (some ⟨g2, 0, none⟩) 2 2]])) wF := by
  have hz : wB.heap.size ≤ wF.heap.size := by have := hX.size; rw [rows2_size] at this; exact this
  have hs : Same (FreshT w wB) wB wF := fun b hb' => (hX.block b hb'.2.1).trans (rows2_block _ _ _ _ _ hb'.1)
  have hin : ∀ b, FreshT w wB b → FreshP w wF b := fun b hb' => ⟨⟨by have := hb'.1; omega, Nat.lt_of_lt_of_le hb'.2.1 hz⟩, hb'.2.2.of_block (hs b hb')⟩
  have hT' := ValAt.moved hs hin 10 t _ hT
  have hC' := ValAt.moved hs hin 10 c _ hC
  have hL' := ValAt.moved hs hin 10 l _ hL
  have hB2 : Below w.heap.size w (rows2 wB w.heap.size g1 g2) := by
    unfold rows2
    exact below_set5 (below_set5 hb (Nat.le_refl _) _ _ _ _ _ _) (by omega) _ _ _ _ _ _
  have hb' : Below w.heap.size w wF := hB2.trans (hX.mono hb.size)
  have hl1 := h1.lt
  have hl2 := (Array.getElem?_eq_some_iff.1 h2).1
  obtain ⟨e0, e1, e2, e3, e4⟩ := h1.cell
  have hr1 : RowAt (FreshP w wF) wF (ValAt (FreshP w wF) wF 10) (.slice (some ⟨g1, 0, none⟩) 1 1) [t] := ⟨by simp, some ⟨g1, 0, none⟩, 1, rfl, Or.inr ⟨g1, 0, ⟨⟨by omega, hl1⟩, ⟨_, _, h1⟩⟩, rfl, fun i x hx => by
    match i, hx with
    | 0, hx => cases hx; exact ⟨a0, a1, a2, a3, a4, e0, e1, e2, e3, e4, hT'⟩
    | i + 1, hx => simp at hx⟩⟩
  have hcl : ∀ j u, (#[c0, c1, c2, c3, c4, l0, l1, l2, l3, l4] : Array Value)[j]? = some u → wF.cell? ⟨g2, j, none⟩ = some u := fun j u hj => (cell_of_cells h2).trans hj
  have hr2 : RowAt (FreshP w wF) wF (ValAt (FreshP w wF) wF 10) (.slice (some ⟨g2, 0, none⟩) 2 2) [c, l] := ⟨by simp, some ⟨g2, 0, none⟩, 2, rfl, Or.inr ⟨g2, 0, ⟨⟨by omega, hl2⟩, ⟨_, _, h2⟩⟩, rfl, fun i x hx => by
    match i, hx with
    | 0, hx => cases hx; exact ⟨c0, c1, c2, c3, c4, hcl 0 _ rfl, hcl 1 _ rfl, hcl 2 _ rfl, hcl 3 _ rfl, hcl 4 _ rfl, hC'⟩
    | 1, hx => cases hx; exact ⟨l0, l1, l2, l3, l4, hcl 5 _ rfl, hcl 6 _ rfl, hcl 7 _ rfl, hcl 8 _ rfl, hcl 9 _ rfl, hL'⟩
    | i + 2, hx => simp at hx⟩⟩
  exact ⟨_, _, _, _, rfl, row_of rfl hr1, by show 3 + 0 + (wtT 10 t + 0) ≤ 1000; omega, row_of rfl hr2, by show 3 + 0 + (wtT 10 c + (wtT 10 l + 0)) ≤ 1000; omega, hb'⟩

set_option maxRecDepth 100000 in
set_option maxHeartbeats 1000000 in
theorem drawValOk_any (a : Option Addr) (n cap : Nat) (w : World) (hcap : n ≤ cap) (h : BytesAt w.heap.size w a n) :
    Calls Tryz.prog 29 #[.slice a n cap] w (OneD w) := by
  have hb0 := below_alloc1 w (.cells #[.int .i64 0, .int .i64 0, .string { data := #[] }, .slice none 0 0, .slice none 0 0] 29)
  have kr := res_new w
  obtain ⟨W0, HW⟩ : ∃ W0, Hid (W0 = w.alloc (.cells #[.int .i64 0, .int .i64 0, .string { data := #[] }, .slice none 0 0, .slice none 0 0] 29)) := ⟨_, rfl⟩
  have hz0 : w.heap.size < W0.heap.size := by rw [HW.out]; simp
  rw [← HW.out] at hb0 kr
  have hBy := h.wider (r' := W0.heap.size) (fun b hb => hb0.block b hb) (by omega)
  clear h
  go_enter Tryz.func29, Tryz.ntmps29
  go_wp2_with fail
  rw [← HW.out]
  clear HW
  refine (l11Open_any a n cap W0 hcap hBy).mono ?_
  rintro e w1 ⟨rfl, hR1, hb1, hz1⟩
  replace kr := kr.below hb1
  have hB1 := below_trans hb0 hb1
  clear hBy hb0 hb1
  go_wp2_with fail
  refine (l1Bent_any W0.heap.size 0 w1 hR1 (by omega)).mono ?_
  rintro e w2 ⟨u, t, p2, rfl, hv, hw, hR2, hp2, hb2⟩
  obtain ⟨v0, v1, v2, v3, v4, v5, v6, v7, v8, rfl⟩ := hv.shape
  have hB2 := but_below hB1 hb2 (by omega) (by omega)
  replace kr := kr.butr hb2 (by omega)
  have hF := oneD_end ((ValAt.upN (d := 10) hv 1).mono (S' := FreshQ w w2) (fun b hb => ⟨by have := hb.1.1; omega, hb.1.2, hb.2⟩)) (Nat.le_trans (Nat.le_of_eq (wtT_upN 10 1 t)) (by omega)) hB2
  have HF := hide hF
  obtain ⟨y0, y1, y2, y3, y4⟩ := kr.cell
  have yf := kr.frozen
  clear hF kr hB2 hb2 hv hR1 hR2 hB1
  go_wp2_with fail
  exact bodyPost_ret (v := .agg #[.int .i64 v0, .int .i64 v1, .string v2, .slice v3 v4 v5, .slice v6 v7 v8]) (by simp [results, Tryz.results29, go_sem, y0, y1, y2, y3, y4]) rfl (HF.out _ rfl)

end Go.Proofs.YtilgbnnjecpneaaGreatDoor

/- What val of a tree gives, whatever the tree's type is. -/
namespace Go.Proofs.YtilgbnnjecpneaaGreatDoor
open Go.RowKit Go.Deep

theorem val_all (d : Nat) (S : Nat → Prop) (x : Tr (d + 1)) (u : Value) (w : World) (hu : TreeG S w (d + 1) x u) (hS : Within S w) :
    ∃ v, (u = .iface 85 v ∧ ∀ W', Below w.heap.size w W' → Calls Tryz.prog 142 #[v] W' (ValQ (d + 1) x W')) ∨ (u = .iface 113 v ∧ ∀ W', Below w.heap.size w W' → Calls Tryz.prog 149 #[v] W' (ValQ (d + 1) x W')) ∨
      (u = .iface 110 v ∧ ∀ W', Below w.heap.size w W' → Calls Tryz.prog 146 #[v] W' (ValQ (d + 1) x W')) ∨ (u = .iface 80 v ∧ ∀ W', Below w.heap.size w W' → Calls Tryz.prog 139 #[v] W' (ValQ (d + 1) x W')) ∨
      (u = .iface 120 v ∧ ∀ W', Below w.heap.size w W' → Calls Tryz.prog 152 #[v] W' (ValQ (d + 1) x W')) := by
  have hw : ∀ W', Below w.heap.size w W' → TreeG S W' (d + 1) x u ∧ Within S W' := fun W' hW => ⟨hu.same (hS.same hW), hS.later hW.size⟩
  obtain ⟨v, hm⟩ := val_any (d + 1) S x u w hu hS
  refine ⟨v, ?_⟩
  rcases hm with ⟨rfl, _⟩ | ⟨rfl, _⟩ | ⟨rfl, _⟩ | ⟨rfl, _⟩ | ⟨rfl, _⟩
  · refine Or.inl ⟨rfl, fun W' hW => ?_⟩
    obtain ⟨v', hm⟩ := val_any (d + 1) S x _ W' (hw W' hW).1 (hw W' hW).2
    rcases hm with ⟨e, h⟩ | ⟨e, h⟩ | ⟨e, h⟩ | ⟨e, h⟩ | ⟨e, h⟩ <;> (cases e <;> exact h)
  · refine Or.inr (Or.inl ⟨rfl, fun W' hW => ?_⟩)
    obtain ⟨v', hm⟩ := val_any (d + 1) S x _ W' (hw W' hW).1 (hw W' hW).2
    rcases hm with ⟨e, h⟩ | ⟨e, h⟩ | ⟨e, h⟩ | ⟨e, h⟩ | ⟨e, h⟩ <;> (cases e <;> exact h)
  · refine Or.inr (Or.inr (Or.inl ⟨rfl, fun W' hW => ?_⟩))
    obtain ⟨v', hm⟩ := val_any (d + 1) S x _ W' (hw W' hW).1 (hw W' hW).2
    rcases hm with ⟨e, h⟩ | ⟨e, h⟩ | ⟨e, h⟩ | ⟨e, h⟩ | ⟨e, h⟩ <;> (cases e <;> exact h)
  · refine Or.inr (Or.inr (Or.inr (Or.inl ⟨rfl, fun W' hW => ?_⟩)))
    obtain ⟨v', hm⟩ := val_any (d + 1) S x _ W' (hw W' hW).1 (hw W' hW).2
    rcases hm with ⟨e, h⟩ | ⟨e, h⟩ | ⟨e, h⟩ | ⟨e, h⟩ | ⟨e, h⟩ <;> (cases e <;> exact h)
  · refine Or.inr (Or.inr (Or.inr (Or.inr ⟨rfl, fun W' hW => ?_⟩)))
    obtain ⟨v', hm⟩ := val_any (d + 1) S x _ W' (hw W' hW).1 (hw W' hW).2
    rcases hm with ⟨e, h⟩ | ⟨e, h⟩ | ⟨e, h⟩ | ⟨e, h⟩ | ⟨e, h⟩ <;> (cases e <;> exact h)
end Go.Proofs.YtilgbnnjecpneaaGreatDoor
