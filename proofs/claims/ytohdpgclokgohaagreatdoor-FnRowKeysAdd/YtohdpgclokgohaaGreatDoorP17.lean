/- Texts of the proof, put together by program: WDrawH, WDrawJ, WDrawI, WOrd, WOrdT, WCmp, WKey. -/
import Derived.Test.YtohdpgclokgohaaGreatDoorP15
import Derived.Test.YtohdpgclokgohaaGreatDoorP16
import Derived.Test.YtohdpgclokgohaaGreatDoorP1
import Derived.Test.YtohdpgclokgohaaGreatDoorP4
import Derived.LaidEql
import Derived.Laws.StructEq
/- Drawn trees: two of them. -/
namespace Go.Proofs.YtohdpgclokgohaaGreatDoor
open Go.RowKit Go.Deep

/-- A tree that owns its memory lies in plain cells. -/
theorem strs_plain {S : Nat → Prop} {w : World} {v : Value} {ss : List ByteArray} (h : StrsOwn S w v ss) : StrsAt (fun b => S b ∧ Plain w b) w v ss := by
  obtain ⟨h1, h2, a, cap, hv, h3⟩ := h
  refine ⟨h1, h2, a, cap, hv, ?_⟩
  rcases h3 with h3 | ⟨b, n, f, hB, ha, hl, hr, hc⟩
  · exact Or.inl h3
  · refine Or.inr ⟨b, 0, ⟨hB, plain_row hr⟩, ha, fun i s hi => ?_⟩
    have := (List.getElem?_eq_some_iff.1 hi).1
    rw [Nat.zero_add, hr.cell (by omega), hc i s hi]
theorem own_plain {w : World} : ∀ (d : Nat) (S : Nat → Prop) (t : Tr d) (v : Value), ValOwn w d S t v → ValAt (fun b => S b ∧ Plain w b) w d t v
  | 0, _, _, _, h => h
  | d + 1, S, t, v, h => by
    obtain ⟨vk, vl, Sk, Sl, hv, i1, i2, i3, hk, hl, s1, s2, _⟩ := h
    refine ⟨vk, vl, hv, i1, i2, i3, (strs_plain hk).mono (fun b hb => ⟨s1 b hb.1, hb.2⟩), ?_⟩
    obtain ⟨h1, a, cap, hv, h3⟩ := hl
    refine ⟨h1, a, cap, hv, ?_⟩
    rcases h3 with h3 | ⟨b, n, f, P, hB, ha, hl, hr, hP, _, hc⟩
    · exact Or.inl h3
    · refine Or.inr ⟨b, 0, ⟨s2 b hB, plain_row hr⟩, ha, fun i x hx => ?_⟩
      have := (List.getElem?_eq_some_iff.1 hx).1
      rw [Nat.zero_add]
      exact ⟨_, _, _, _, _, hr.cell (by omega), hr.cell (by omega), hr.cell (by omega), hr.cell (by omega), hr.cell (by omega), (own_plain d _ x _ (hc i x hx)).mono (fun c hc' => ⟨s2 c (hP i c hc'.1).1, hc'.2⟩)⟩

/-- The operation at hand is a call of this function. -/
theorem step_sel {P : Program} {ops : Array Oper} {o : Oper} {a : Act} {w : World} {K : Act → World → Prop} {Q : Exit → Act → World → Prop} {E : Prop} (f : FuncId) (xs : Array Operand) (ts : Array TypeId)
    (_hop : o.op = Op.call { callee := Callee.value (Operand.func f), args := xs, argTypes := ts }) (h : if Region.wanted o (yielded ops a.tmps) = true then Oper.wp P o a w K Q else E) : if Region.wanted o (yielded ops a.tmps) = true then Oper.wp P o a w K Q else E := h

/-- Plain blocks between two bounds. -/
def FreshR (lo hi : Nat) (w : World) (b : Nat) : Prop := lo < b ∧ b < hi ∧ Plain w b
theorem FreshR.go {lo hi r d : Nat} {w w' : World} {t : Tr d} {u : Value} (h : ValAt (FreshR lo hi w) w d t u) (hb : But r w w') (hr : r ≤ lo) (hh : hi ≤ w.heap.size) : ValAt (FreshR lo hi w') w' d t u := by
  have hs : Same (FreshR lo hi w) w w' := fun b hb' => hb.block b (by have := hb'.2.1; omega) (fun e => by have := hb'.1; cases e; omega)
  exact ValAt.moved hs (fun b hb' => ⟨hb'.1, hb'.2.1, hb'.2.2.of_block (hs b hb')⟩) d t u h

/-- What draws one tree. -/
def OneD (w : World) (e : Ending) (w' : World) : Prop := ∃ u t, e = .returned u ∧ ValAt (FreshP w w') w' 11 t u ∧ wtT 11 t ≤ 1000 ∧ Below w.heap.size w w'
/-- What draws two trees. -/
def TwoD (w : World) (e : Ending) (w' : World) : Prop := ∃ u t u' t', e = .returned (.tuple #[u, u']) ∧ ValAt (FreshP w w') w' 11 t u ∧ wtT 11 t ≤ 1000 ∧ ValAt (FreshP w w') w' 11 t' u' ∧ wtT 11 t' ≤ 1000 ∧ Below w.heap.size w w'

theorem but_below {N r : Nat} {w w1 w2 : World} (h : Below N w w1) (hb : But r w1 w2) (hr : N ≤ r) (hN : N ≤ w1.heap.size) : Below N w w2 :=
  ⟨hb.os.trans h.os, hb.tape.trans h.tape, hb.output.trans h.output, Nat.le_trans h.size hb.size, fun b hlt => (hb.block b (by omega) (fun e => by cases e; omega)).trans (h.block b hlt)⟩
theorem BytesAt.wider {r r' : Nat} {w w' : World} {a : Option Addr} {n : Nat} (h : BytesAt r w a n) (hs : ∀ b, b < r → w'.heap[b]? = w.heap[b]?) (hr : r ≤ r') : BytesAt r' w' a n := by
  rcases h with h | ⟨b, o, hb, ha, hc⟩
  · exact Or.inl h
  · refine Or.inr ⟨b, o, by omega, ha, fun i hi => ?_⟩
    obtain ⟨x, h0, h1, h2⟩ := hc i hi
    exact ⟨x, h0, h1, (World.cell?_of_block (w := w) (hs b hb)).trans h2⟩

theorem oneD_end {w wX : World} {t : Tr 11} {v0 v1 v2 v3 v4 : Value} (hv : ValAt (FreshQ w wX) wX 11 t (.agg #[v0, v1, v2, v3, v4])) (hB : wtT 11 t ≤ 1000) (hb : Below w.heap.size w wX) :
    ∀ wF, wF = set5 wX w.heap.size 0 v0 v1 v2 v3 v4 → OneD w (.returned (.agg #[v0, v1, v2, v3, v4])) wF := by
  intro wF hF
  have hs : ∀ b, b ≠ w.heap.size → wF.heap[b]? = wX.heap[b]? := fun b hb' => by rw [hF]; exact set5_block _ _ _ _ _ _ _ _ _ hb'
  have hz : wF.heap.size = wX.heap.size := by rw [hF]; exact set5_size _ _ _ _ _ _ _ _
  have hl : Below w.heap.size w wF := by rw [hF]; exact below_set5 hb (Nat.le_refl _) _ _ _ _ _ _
  refine ⟨_, t, rfl, ValAt.moved (fun b hb' => hs b (by have := hb'.1; omega)) (fun b hb' => ?_) 11 t _ hv, hB, hl⟩
  exact ⟨⟨Nat.le_of_lt hb'.1, by rw [hz]; exact hb'.2.1⟩, hb'.2.2.of_block (hs b (by have := hb'.1; omega))⟩

/-- New blocks of plain cells, but for the first two. -/
def FreshT (w w' : World) (b : Nat) : Prop := w.heap.size + 1 < b ∧ b < w'.heap.size ∧ Plain w' b
theorem twoD_end {w wX : World} {t t' : Tr 11} {v0 v1 v2 v3 v4 u0 u1 u2 u3 u4 : Value} (hv : ValAt (FreshT w wX) wX 11 t (.agg #[v0, v1, v2, v3, v4])) (hB : wtT 11 t ≤ 1000) (hv' : ValAt (FreshT w wX) wX 11 t' (.agg #[u0, u1, u2, u3, u4])) (hB' : wtT 11 t' ≤ 1000) (hb : Below w.heap.size w wX) :
    ∀ wF, wF = set5 (set5 wX w.heap.size 0 v0 v1 v2 v3 v4) (w.heap.size + 1) 0 u0 u1 u2 u3 u4 → TwoD w (.returned (.tuple #[.agg #[v0, v1, v2, v3, v4], .agg #[u0, u1, u2, u3, u4]])) wF := by
  intro wF hF
  have hs : ∀ b, w.heap.size + 1 < b → wF.heap[b]? = wX.heap[b]? := fun b hb' => by rw [hF, set5_block _ _ _ _ _ _ _ _ _ (by omega)]; exact set5_block _ _ _ _ _ _ _ _ _ (by omega)
  have hz : wF.heap.size = wX.heap.size := by rw [hF, set5_size]; exact set5_size _ _ _ _ _ _ _ _
  have hl : Below w.heap.size w wF := by rw [hF]; exact below_set5 (below_set5 hb (Nat.le_refl _) _ _ _ _ _ _) (by omega) _ _ _ _ _ _
  have hin : ∀ b, FreshT w wX b → FreshP w wF b := fun b hb' => ⟨⟨by have := hb'.1; omega, by rw [hz]; exact hb'.2.1⟩, hb'.2.2.of_block (hs b hb'.1)⟩
  exact ⟨_, t, _, t', rfl, ValAt.moved (fun b hb' => hs b hb'.1) hin 11 t _ hv, hB, ValAt.moved (fun b hb' => hs b hb'.1) hin 11 t' _ hv', hB', hl⟩

theorem FreshT.go {d : Nat} {w wB wX : World} {t : Tr d} {u : Value} (h : ValAt (FreshT w wB) wB d t u) (hX : Below wB.heap.size wB wX) : ValAt (FreshT w wX) wX d t u := by
  have hs : Same (FreshT w wB) wB wX := fun b hb => hX.block b hb.2.1
  exact ValAt.moved hs (fun b hb => ⟨hb.1, Nat.lt_of_lt_of_le hb.2.1 hX.size, hb.2.2.of_block (hs b hb)⟩) d t u h
theorem row_of {S : Nat → Prop} {w : World} {d n : Nat} {list : List (Tr d)} {a : Option Addr} {c : Nat} (_hn : n = list.length) (h : RowAt S w (ValAt S w d) (.slice a n c) list) : ValAt S w (d + 1) ({ kind := 5, num := 0, str := ⟨#[]⟩, keys := [], list := list } : Nd (Tr d)) (.agg #[.int .i64 5, .int .i64 0, .string { data := #[] }, .slice none 0 0, .slice a n c]) :=
  build_of ⟨by omega, by omega⟩ ⟨by omega, by omega⟩ (by show (0 : Nat) < _; omega) ⟨by show (0 : Nat) < _; omega, (fun s hs => by cases hs), none, 0, rfl, Or.inl rfl⟩ h
/-- The two results' own cells are written. -/
def rows2 (wB : World) (b g1 g2 : Nat) : World := set5 (set5 wB b 0 (.int .i64 5) (.int .i64 0) (.string { data := #[] }) (.slice none 0 0) (.slice (some ⟨g1, 0, none⟩) 1 1)) (b + 1) 0 (.int .i64 5) (.int .i64 0) (.string { data := #[] }) (.slice none 0 0) (.slice (some ⟨g2, 0, none⟩) 2 2)
theorem rows2_block (wB : World) (b g1 g2 c : Nat) (h : b + 1 < c) : (rows2 wB b g1 g2).heap[c]? = wB.heap[c]? := by
  unfold rows2
  rw [set5_block _ _ _ _ _ _ _ _ _ (by omega), set5_block _ _ _ _ _ _ _ _ _ (by omega)]
theorem rows2_size (wB : World) (b g1 g2 : Nat) : (rows2 wB b g1 g2).heap.size = wB.heap.size := by
  unfold rows2
  rw [set5_size, set5_size]
/-- A row of one, and a row of two. -/
theorem rows_end {w wB wF : World} {t c l : Tr 10} {g1 g2 : Nat} {a0 a1 a2 a3 a4 c0 c1 c2 c3 c4 l0 l1 l2 l3 l4 : Value} (hT : ValAt (FreshT w wB) wB 10 t (.agg #[a0, a1, a2, a3, a4])) (hC : ValAt (FreshT w wB) wB 10 c (.agg #[c0, c1, c2, c3, c4])) (hL : ValAt (FreshT w wB) wB 10 l (.agg #[l0, l1, l2, l3, l4]))
    (k1 : wtT 10 t ≤ 360) (k2 : wtT 10 c ≤ 360) (k3 : wtT 10 l ≤ 3) (hb : Below w.heap.size w wB) (hX : Below wB.heap.size (rows2 wB w.heap.size g1 g2) wF) (h1 : Blk5 wF g1 26 a0 a1 a2 a3 a4) (hg1 : w.heap.size + 1 < g1)
    (h2 : wF.heap[g2]? = some (.cells #[c0, c1, c2, c3, c4, l0, l1, l2, l3, l4] 26 (0, 0))) (hg2 : w.heap.size + 1 < g2) :
    TwoD w (.returned (.tuple #[.agg #[.int .i64 5, .int .i64 0, .string { data := #[] }, .slice none 0 0, .slice (some ⟨g1, 0, none⟩) 1 1], .agg #[.int .i64 5, .int .i64 0, .string { data := #[] }, .slice none 0 0, .slice (some ⟨g2, 0, none⟩) 2 2]])) wF := by
  have hz : wB.heap.size ≤ wF.heap.size := by have := hX.size; rw [rows2_size] at this; exact this
  have hs : Same (FreshT w wB) wB wF := fun b hb' => (hX.block b hb'.2.1).trans (rows2_block _ _ _ _ _ hb'.1)
  have hin : ∀ b, FreshT w wB b → FreshP w wF b := fun b hb' => ⟨⟨by have := hb'.1; omega, Nat.lt_of_lt_of_le hb'.2.1 hz⟩, hb'.2.2.of_block (hs b hb')⟩
  have hT' := ValAt.moved hs hin 10 t _ hT
  have hC' := ValAt.moved hs hin 10 c _ hC
  have hL' := ValAt.moved hs hin 10 l _ hL
  have hB2 : Below w.heap.size w (rows2 wB w.heap.size g1 g2) := by
    unfold rows2
    exact below_set5 (below_set5 hb (Nat.le_refl _) _ _ _ _ _ _) (by omega) _ _ _ _ _ _
  have hb' : Below w.heap.size w wF := hB2.trans (hX.mono hb.size)
  have hl1 := h1.lt
  have hl2 := (Array.getElem?_eq_some_iff.1 h2).1
  obtain ⟨e0, e1, e2, e3, e4⟩ := h1.cell
  have hr1 : RowAt (FreshP w wF) wF (ValAt (FreshP w wF) wF 10) (.slice (some ⟨g1, 0, none⟩) 1 1) [t] := ⟨by simp, some ⟨g1, 0, none⟩, 1, rfl, Or.inr ⟨g1, 0, ⟨⟨by omega, hl1⟩, ⟨_, _, h1⟩⟩, rfl, fun i x hx => by
    match i, hx with
    | 0, hx => cases hx; exact ⟨a0, a1, a2, a3, a4, e0, e1, e2, e3, e4, hT'⟩
    | i + 1, hx => simp at hx⟩⟩
  have hcl : ∀ j u, (#[c0, c1, c2, c3, c4, l0, l1, l2, l3, l4] : Array Value)[j]? = some u → wF.cell? ⟨g2, j, none⟩ = some u := fun j u hj => (cell_of_cells h2).trans hj
  have hr2 : RowAt (FreshP w wF) wF (ValAt (FreshP w wF) wF 10) (.slice (some ⟨g2, 0, none⟩) 2 2) [c, l] := ⟨by simp, some ⟨g2, 0, none⟩, 2, rfl, Or.inr ⟨g2, 0, ⟨⟨by omega, hl2⟩, ⟨_, _, h2⟩⟩, rfl, fun i x hx => by
    match i, hx with
    | 0, hx => cases hx; exact ⟨c0, c1, c2, c3, c4, hcl 0 _ rfl, hcl 1 _ rfl, hcl 2 _ rfl, hcl 3 _ rfl, hcl 4 _ rfl, hC'⟩
    | 1, hx => cases hx; exact ⟨l0, l1, l2, l3, l4, hcl 5 _ rfl, hcl 6 _ rfl, hcl 7 _ rfl, hcl 8 _ rfl, hcl 9 _ rfl, hL'⟩
    | i + 2, hx => simp at hx⟩⟩
  exact ⟨_, _, _, _, rfl, row_of rfl hr1, by show 3 + 0 + (wtT 10 t + 0) ≤ 1000; omega, row_of rfl hr2, by show 3 + 0 + (wtT 10 c + (wtT 10 l + 0)) ≤ 1000; omega, hb'⟩

end Go.Proofs.YtohdpgclokgohaaGreatDoor

/- Drawn trees: a row of one and a row of two, in the results' own cells. -/
namespace Go.Proofs.YtohdpgclokgohaaGreatDoor
open Go.RowKit Go.Deep

theorem rows_meet {w wB wF : World} {t c l : Tr 10} {g1 g2 : Nat} {a0 a1 a2 a3 a4 c0 c1 c2 c3 c4 l0 l1 l2 l3 l4 : Value} (hT : ValAt (FreshT w wB) wB 10 t (.agg #[a0, a1, a2, a3, a4])) (hC : ValAt (FreshT w wB) wB 10 c (.agg #[c0, c1, c2, c3, c4])) (hL : ValAt (FreshT w wB) wB 10 l (.agg #[l0, l1, l2, l3, l4]))
    (k1 : wtT 10 t ≤ 360) (k2 : wtT 10 c ≤ 360) (k3 : wtT 10 l ≤ 3) (hb : Below w.heap.size w wB) (kr : Blk5 wB w.heap.size 26 (.int .i64 0) (.int .i64 0) (.string { data := #[] }) (.slice none 0 0) (.slice none 0 0)) (kq : Blk5 wB (w.heap.size + 1) 26 (.int .i64 0) (.int .i64 0) (.string { data := #[] }) (.slice none 0 0) (.slice none 0 0))
    (hX : Below wB.heap.size (rows2 wB w.heap.size g1 g2) wF) (h1 : Blk5 wF g1 26 a0 a1 a2 a3 a4) (hg1 : w.heap.size + 1 < g1)
    (h2 : wF.heap[g2]? = some (.cells #[c0, c1, c2, c3, c4, l0, l1, l2, l3, l4] 26 (0, 0))) (hg2 : w.heap.size + 1 < g2) :
    Hid (Blk5 wF w.heap.size 26 (.int .i64 5) (.int .i64 0) (.string { data := #[] }) (.slice none 0 0) (.slice (some ⟨g1, 0, none⟩) 1 1)) ∧ Hid (Blk5 wF (w.heap.size + 1) 26 (.int .i64 5) (.int .i64 0) (.string { data := #[] }) (.slice none 0 0) (.slice (some ⟨g2, 0, none⟩) 2 2)) ∧ Hid (TwoD w (.returned (.tuple #[.agg #[.int .i64 5, .int .i64 0, .string { data := #[] }, .slice none 0 0, .slice (some ⟨g1, 0, none⟩) 1 1], .agg #[.int .i64 5, .int .i64 0, .string { data := #[] }, .slice none 0 0, .slice (some ⟨g2, 0, none⟩) 2 2]])) wF) := by
  have hk1 := kr.lt
  have hk2 := kq.lt
  have e1 : Blk5 (rows2 wB w.heap.size g1 g2) w.heap.size 26 (.int .i64 5) (.int .i64 0) (.string { data := #[] }) (.slice none 0 0) (.slice (some ⟨g1, 0, none⟩) 1 1) := by
    unfold rows2
    exact (blk_set5 kr _ _ _ _ _).of_block (set5_block _ _ _ _ _ _ _ _ _ (by omega))
  have e2 : Blk5 (rows2 wB w.heap.size g1 g2) (w.heap.size + 1) 26 (.int .i64 5) (.int .i64 0) (.string { data := #[] }) (.slice none 0 0) (.slice (some ⟨g2, 0, none⟩) 2 2) := by
    unfold rows2
    exact blk_set5 (kq.of_block (set5_block _ _ _ _ _ _ _ _ _ (by omega))) _ _ _ _ _
  exact ⟨e1.of_block (hX.block _ hk1), e2.of_block (hX.block _ hk2), rows_end hT hC hL k1 k2 k3 hb hX h1 hg1 h2 hg2⟩
end Go.Proofs.YtohdpgclokgohaaGreatDoor

/- Drawn trees: l1Two of the model. -/
namespace Go.Proofs.YtohdpgclokgohaaGreatDoor
open Go.RowKit Go.Deep

end Go.Proofs.YtohdpgclokgohaaGreatDoor

/- How two trees stand: the plain functions, and l1Texts, l1Lists, l1Rows, ValOrder of the model. -/
namespace Go.Proofs.YtohdpgclokgohaaGreatDoor
open Go.RowKit Go.Deep

/-- The first, if it says something, else the second. -/
def orI (x y : Int) : Int := if x = 0 then y else x
def cmpI (a b : Int) : Int := if a < b then -1 else if b < a then 1 else 0
def cmpS (a b : ByteArray) : Int := if Op.bytesLess a.toList b.toList = true then -1 else if (a.toList == b.toList) = true then 0 else 1
def ordL {α : Type} (f : α → α → Int) : List α → List α → Int
  | [], [] => 0
  | [], _ :: _ => -1
  | _ :: _, [] => 1
  | a :: r, b :: s => orI (f a b) (ordL f r s)
/-- How two parts stand but for the parts in them. -/
def headO {α : Type} (a b : Nd α) : Int := orI (cmpI a.kind b.kind) (orI (cmpI a.num b.num) (orI (cmpS a.str b.str) (ordL cmpS a.keys b.keys)))
def ordT : (d : Nat) → Tr d → Tr d → Int
  | 0, _, _ => 0
  | d + 1, a, b => orI (headO (α := Tr d) a b) (ordL (ordT d) (Nd.list a) (Nd.list b))

theorem orI_zero (y : Int) : orI 0 y = y := rfl
theorem orI_ne {x : Int} (h : x ≠ 0) (y : Int) : orI x y = x := if_neg h
theorem orI_assoc (x y z : Int) : orI (orI x y) z = orI x (orI y z) := by
  unfold orI
  split <;> simp_all
theorem orI_right (x : Int) : orI x 0 = x := by
  unfold orI
  split <;> simp_all
/-- One of three. -/
def Tri (n : Int) : Prop := n = -1 ∨ n = 0 ∨ n = 1
theorem tri_or {x y : Int} (hx : Tri x) (hy : Tri y) : Tri (orI x y) := by
  unfold orI
  split
  · exact hy
  · exact hx
theorem tri_cmpI (a b : Int) : Tri (cmpI a b) := by
  unfold cmpI Tri
  split
  · simp
  · split <;> simp
theorem tri_cmpS (a b : ByteArray) : Tri (cmpS a b) := by
  unfold cmpS Tri
  split
  · simp
  · split <;> simp
theorem tri_ordL {α : Type} {f : α → α → Int} (h : ∀ a b, Tri (f a b)) : ∀ (xs ys : List α), Tri (ordL f xs ys)
  | [], [] => Or.inr (Or.inl rfl)
  | [], _ :: _ => Or.inl rfl
  | _ :: _, [] => Or.inr (Or.inr rfl)
  | a :: r, b :: s => tri_or (h a b) (tri_ordL h r s)
theorem tri_headO {α : Type} (a b : Nd α) : Tri (headO a b) := tri_or (tri_cmpI _ _) (tri_or (tri_cmpI _ _) (tri_or (tri_cmpS _ _) (tri_ordL tri_cmpS _ _)))
theorem tri_ordT : ∀ (d : Nat) (a b : Tr d), Tri (ordT d a b)
  | 0, _, _ => Or.inr (Or.inl rfl)
  | d + 1, _, _ => tri_or (tri_headO _ _) (tri_ordL (tri_ordT d) _ _)

theorem ordL_drop {α : Type} (f : α → α → Int) {xs ys : List α} {k : Nat} {x y : α} (hx : xs[k]? = some x) (hy : ys[k]? = some y) :
    ordL f (xs.drop k) (ys.drop k) = orI (f x y) (ordL f (xs.drop (k + 1)) (ys.drop (k + 1))) := by
  obtain ⟨hk, e1⟩ := List.getElem?_eq_some_iff.1 hx
  obtain ⟨hk', e2⟩ := List.getElem?_eq_some_iff.1 hy
  rw [List.drop_eq_getElem_cons hk, List.drop_eq_getElem_cons hk', e1, e2, ordL]
theorem ordL_end {α : Type} (f : α → α → Int) {xs ys : List α} {k : Nat} (hx : k ≤ xs.length) (hy : k ≤ ys.length) (h : ¬ (k < xs.length ∧ k < ys.length)) :
    ordL f (xs.drop k) (ys.drop k) = cmpI xs.length ys.length := by
  by_cases h1 : k < xs.length
  · have e : ys.drop k = [] := List.drop_eq_nil_of_le (by omega)
    rw [List.drop_eq_getElem_cons h1, e, ordL, cmpI, if_neg (by omega), if_pos (by omega)]
  · by_cases h2 : k < ys.length
    · have e : xs.drop k = [] := List.drop_eq_nil_of_le (by omega)
      rw [e, List.drop_eq_getElem_cons h2, ordL, cmpI, if_pos (by omega)]
    · have e : xs.drop k = [] := List.drop_eq_nil_of_le (by omega)
      have e' : ys.drop k = [] := List.drop_eq_nil_of_le (by omega)
      rw [e, e', ordL, cmpI, if_neg (by omega), if_neg (by omega)]

theorem cmpS_lt {a b : ByteArray} (h : Op.bytesLess a.toList b.toList = true) : cmpS a b = -1 := if_pos h
theorem cmpS_eq {a b : ByteArray} (h : (a.toList == b.toList) = true) : cmpS a b = 0 := by
  have e : a.toList = b.toList := by simpa using h
  rw [cmpS, e, bytesLess_irrefl]
  simp
theorem cmpS_gt {a b : ByteArray} (h : Op.bytesLess a.toList b.toList = false) (h' : (a.toList == b.toList) = false) : cmpS a b = 1 := by
  rw [cmpS, h, h']
  rfl

set_option maxHeartbeats 400000 in
theorem l1Max_any (a b : Int) (w : World) :
    Calls Tryz.prog 40 #[.int .i64 a, .int .i64 b] w fun e w' => e = .returned (.int .i64 (max a b)) ∧ w' = w := by
  by_cases h : b < a
  · have hf : Hid (max a b = a) := Int.max_eq_left (by omega)
    go_enter Tryz.func40, Tryz.ntmps40
    go_wp2_with fail
    go_ret
    rw [hf.out]
    exact ⟨rfl, rfl⟩
  · have hf : Hid (max a b = b) := Int.max_eq_right (by omega)
    go_enter Tryz.func40, Tryz.ntmps40
    go_wp2_with fail
    go_ret
    rw [hf.out]
    exact ⟨rfl, rfl⟩
set_option maxHeartbeats 400000 in
theorem l1Min_any (a b : Int) (w : World) :
    Calls Tryz.prog 64 #[.int .i64 a, .int .i64 b] w fun e w' => e = .returned (.int .i64 (min a b)) ∧ w' = w := by
  by_cases h : a < b
  · have hf : Hid (min a b = a) := Int.min_eq_left (by omega)
    go_enter Tryz.func64, Tryz.ntmps64
    go_wp2_with fail
    go_ret
    rw [hf.out]
    exact ⟨rfl, rfl⟩
  · have hf : Hid (min a b = b) := Int.min_eq_right (by omega)
    go_enter Tryz.func64, Tryz.ntmps64
    go_wp2_with fail
    go_ret
    rw [hf.out]
    exact ⟨rfl, rfl⟩

theorem clamp_cmpI (a b : Int) : max (-1) (min 1 (a - b)) = cmpI a b := by
  unfold cmpI
  split
  · omega
  · split <;> omega

theorem cmpI_lt {a b : Int} (h : a < b) : cmpI a b = -1 := if_pos h
theorem cmpI_gt {a b : Int} (h : b < a) : cmpI a b = 1 := by rw [cmpI, if_neg (by omega), if_pos h]
theorem cmpI_eq {a b : Int} (h : ¬ a < b) (h' : ¬ b < a) : cmpI a b = 0 := by rw [cmpI, if_neg h, if_neg h']

end Go.Proofs.YtohdpgclokgohaaGreatDoor

/- The order of trees: it is turned round, and goes on. -/
namespace Go.Proofs.YtohdpgclokgohaaGreatDoor
open Go.RowKit Go.Deep

/-- Turned round it is the other way; of three it goes on. -/
structure OrdF {α : Type} (f : α → α → Int) : Prop where
  neg : ∀ a b, f a b = -f b a
  trans : ∀ a b c, f a b ≤ 0 → f b c ≤ 0 → f a c ≤ 0

theorem OrdF.self {α : Type} {f : α → α → Int} (h : OrdF f) (a : α) : f a a = 0 := by
  have := h.neg a a
  omega
theorem OrdF.lt {α : Type} {f : α → α → Int} (h : OrdF f) {a b c : α} (h1 : f a b < 0) (h2 : f b c ≤ 0) : f a c < 0 := by
  have k1 := h.trans a b c (by omega) h2
  have n1 := h.neg a c
  have n2 := h.neg a b
  have n3 := h.neg b c
  rcases Int.lt_or_eq_of_le k1 with k | k
  · exact k
  · have := h.trans b c a h2 (by omega)
    omega
theorem OrdF.lt' {α : Type} {f : α → α → Int} (h : OrdF f) {a b c : α} (h1 : f a b ≤ 0) (h2 : f b c < 0) : f a c < 0 := by
  have k1 := h.trans a b c h1 (by omega)
  have n1 := h.neg a c
  have n2 := h.neg a b
  have n3 := h.neg b c
  rcases Int.lt_or_eq_of_le k1 with k | k
  · exact k
  · have := h.trans c a b (by omega) h1
    omega
theorem OrdF.or {α : Type} {f g : α → α → Int} (hf : OrdF f) (hg : OrdF g) : OrdF (fun a b => orI (f a b) (g a b)) := by
  refine ⟨fun a b => ?_, fun a b c h1 h2 => ?_⟩
  · have e1 := hf.neg a b
    have e2 := hg.neg a b
    show orI (f a b) (g a b) = -orI (f b a) (g b a)
    unfold orI
    by_cases h : f b a = 0
    · rw [if_pos h, if_pos (by omega)]; exact e2
    · rw [if_neg h, if_neg (by omega)]; exact e1
  · have h1' : orI (f a b) (g a b) ≤ 0 := h1
    have h2' : orI (f b c) (g b c) ≤ 0 := h2
    show orI (f a c) (g a c) ≤ 0
    unfold orI at h1' h2' ⊢
    by_cases x1 : f a b = 0
    · rw [if_pos x1] at h1'
      by_cases x2 : f b c = 0
      · rw [if_pos x2] at h2'
        have y1 := hf.trans a b c (by omega) (by omega)
        have y2 := hf.trans c b a (by have := hf.neg b c; omega) (by have := hf.neg a b; omega)
        have y3 := hf.neg a c
        rw [if_pos (by omega)]
        exact hg.trans a b c h1' h2'
      · rw [if_neg x2] at h2'
        have := hf.lt' (a := a) (b := b) (c := c) (by omega) (by omega)
        rw [if_neg (by omega)]
        omega
    · rw [if_neg x1] at h1'
      have hbc : f b c ≤ 0 := by
        by_cases x2 : f b c = 0
        · omega
        · rw [if_neg x2] at h2'; exact h2'
      have := hf.lt (a := a) (b := b) (c := c) (by omega) hbc
      rw [if_neg (by omega)]
      omega
theorem OrdF.pull {α β : Type} {f : β → β → Int} (hf : OrdF f) (g : α → β) : OrdF (fun a b => f (g a) (g b)) := ⟨fun a b => hf.neg (g a) (g b), fun a b c => hf.trans (g a) (g b) (g c)⟩

theorem ordL_neg {α : Type} {f : α → α → Int} (hf : OrdF f) : ∀ (xs ys : List α), ordL f xs ys = -ordL f ys xs
  | [], [] => rfl
  | [], _ :: _ => rfl
  | _ :: _, [] => rfl
  | a :: r, b :: s => by
    have e1 := hf.neg a b
    have e2 := ordL_neg hf r s
    show orI (f a b) (ordL f r s) = -orI (f b a) (ordL f s r)
    unfold orI
    by_cases h : f b a = 0
    · rw [if_pos h, if_pos (by omega)]; exact e2
    · rw [if_neg h, if_neg (by omega)]; exact e1
theorem ordL_trans {α : Type} {f : α → α → Int} (hf : OrdF f) : ∀ (xs ys zs : List α), ordL f xs ys ≤ 0 → ordL f ys zs ≤ 0 → ordL f xs zs ≤ 0
  | [], _, [], _, _ => Int.le_refl _
  | [], _, _ :: _, _, _ => by show (-1 : Int) ≤ 0; omega
  | a :: r, [], zs, h, _ => by exact absurd h (by show ¬ (1 : Int) ≤ 0; omega)
  | a :: r, b :: s, [], _, h => by exact absurd h (by show ¬ (1 : Int) ≤ 0; omega)
  | a :: r, b :: s, c :: t, h1, h2 => by
    have ih := ordL_trans hf r s t
    have h1' : orI (f a b) (ordL f r s) ≤ 0 := h1
    have h2' : orI (f b c) (ordL f s t) ≤ 0 := h2
    show orI (f a c) (ordL f r t) ≤ 0
    unfold orI at h1' h2' ⊢
    by_cases x1 : f a b = 0
    · rw [if_pos x1] at h1'
      by_cases x2 : f b c = 0
      · rw [if_pos x2] at h2'
        have y1 := hf.trans a b c (by omega) (by omega)
        have y2 := hf.trans c b a (by have := hf.neg b c; omega) (by have := hf.neg a b; omega)
        have y3 := hf.neg a c
        rw [if_pos (by omega)]
        exact ih h1' h2'
      · rw [if_neg x2] at h2'
        have := hf.lt' (a := a) (b := b) (c := c) (by omega) (by omega)
        rw [if_neg (by omega)]
        omega
    · rw [if_neg x1] at h1'
      have hbc : f b c ≤ 0 := by
        by_cases x2 : f b c = 0
        · omega
        · rw [if_neg x2] at h2'; exact h2'
      have := hf.lt (a := a) (b := b) (c := c) (by omega) hbc
      rw [if_neg (by omega)]
      omega
theorem OrdF.list {α : Type} {f : α → α → Int} (hf : OrdF f) : OrdF (ordL f) := ⟨ordL_neg hf, ordL_trans hf⟩

theorem ord_cmpI : OrdF cmpI := by
  refine ⟨fun a b => ?_, fun a b c h1 h2 => ?_⟩
  · unfold cmpI; split <;> split <;> (try split) <;> omega
  · unfold cmpI at *
    split at h1 <;> split at h2 <;> (try split at h1) <;> (try split at h2) <;> (try (split <;> (try split) <;> omega)) <;> omega

theorem less_total : ∀ (a b : List UInt8), Op.bytesLess a b = true ∨ a = b ∨ Op.bytesLess b a = true
  | [], [] => Or.inr (Or.inl rfl)
  | [], _ :: _ => Or.inl rfl
  | _ :: _, [] => Or.inr (Or.inr rfl)
  | a :: r, b :: s => by
    simp only [Op.bytesLess, Bool.or_eq_true, Bool.and_eq_true, decide_eq_true_eq, beq_iff_eq]
    by_cases h1 : a < b
    · exact Or.inl (Or.inl h1)
    · by_cases h2 : b < a
      · exact Or.inr (Or.inr (Or.inl h2))
      · have e : a = b := by
          rw [UInt8.lt_iff_toNat_lt] at h1 h2
          exact UInt8.toNat_inj.1 (by omega)
        subst e
        rcases less_total r s with h | h | h
        · exact Or.inl (Or.inr ⟨rfl, h⟩)
        · exact Or.inr (Or.inl (by rw [h]))
        · exact Or.inr (Or.inr (Or.inr ⟨rfl, h⟩))
theorem cmpS_cases (a b : ByteArray) : (cmpS a b = -1 ∧ Op.bytesLess a.toList b.toList = true) ∨ (cmpS a b = 0 ∧ a.toList = b.toList) ∨ (cmpS a b = 1 ∧ Op.bytesLess b.toList a.toList = true) := by
  rcases less_total a.toList b.toList with h | h | h
  · exact Or.inl ⟨cmpS_lt h, h⟩
  · exact Or.inr (Or.inl ⟨cmpS_eq (by simpa using h), h⟩)
  · refine Or.inr (Or.inr ⟨cmpS_gt ?_ ?_, h⟩)
    · cases hb : Op.bytesLess a.toList b.toList
      · rfl
      · have := bytesLess_trans _ _ _ h hb
        rw [bytesLess_irrefl] at this
        cases this
    · cases hb : (a.toList == b.toList)
      · rfl
      · have e : a.toList = b.toList := by simpa using hb
        rw [e, bytesLess_irrefl] at h
        cases h
theorem ord_cmpS : OrdF cmpS := by
  refine ⟨fun a b => ?_, fun a b c h1 h2 => ?_⟩
  · rcases cmpS_cases a b with ⟨e, h⟩ | ⟨e, h⟩ | ⟨e, h⟩ <;> rcases cmpS_cases b a with ⟨e', h'⟩ | ⟨e', h'⟩ | ⟨e', h'⟩ <;> rw [e, e'] <;> (first | rfl | skip)
    all_goals first
      | (have := bytesLess_trans _ _ _ h h'; rw [bytesLess_irrefl] at this; cases this)
      | (rw [h', bytesLess_irrefl] at h; cases h)
      | (rw [h, bytesLess_irrefl] at h'; cases h')
  · rcases cmpS_cases a b with ⟨e, h⟩ | ⟨e, h⟩ | ⟨e, h⟩
    · rcases cmpS_cases b c with ⟨e', h'⟩ | ⟨e', h'⟩ | ⟨e', h'⟩
      · rw [cmpS_lt (bytesLess_trans _ _ _ h h')]; omega
      · rw [h'] at h; rw [cmpS_lt h]; omega
      · omega
    · rcases cmpS_cases b c with ⟨e', h'⟩ | ⟨e', h'⟩ | ⟨e', h'⟩
      · rw [← h] at h'; rw [cmpS_lt h']; omega
      · rw [cmpS_eq (by simpa using h.trans h')]; omega
      · omega
    · omega

theorem ord_headO {α : Type} : OrdF (fun (a b : Nd α) => headO a b) :=
  (ord_cmpI.pull Nd.kind).or ((ord_cmpI.pull Nd.num).or ((ord_cmpS.pull Nd.str).or (ord_cmpS.list.pull Nd.keys)))
theorem ord_T : ∀ (d : Nat), OrdF (ordT d)
  | 0 => ⟨fun _ _ => rfl, fun _ _ _ _ _ => Int.le_refl _⟩
  | d + 1 => (ord_headO (α := Tr d)).or ((ord_T d).list.pull Nd.list)
end Go.Proofs.YtohdpgclokgohaaGreatDoor

/- cmp.Compare, cmp.Or, slices.Compare. -/
namespace Go.Proofs.YtohdpgclokgohaaGreatDoor
open Go.RowKit Go.Deep

set_option maxHeartbeats 400000 in
theorem isNaNInt_any (a : Int) (w : World) : Calls Tryz.prog 104 #[.int .i64 a] w fun e w' => e = .returned (.bool false) ∧ w' = w := by
  have hq : (a != a) = false := by simp
  go_enter Tryz.func104, Tryz.ntmps104
  go_wp2_with fail
  go_ret
  exact ⟨by simp, rfl⟩
set_option maxHeartbeats 400000 in
theorem isNaNStr_any (a : ByteArray) (w : World) : Calls Tryz.prog 105 #[.string a] w fun e w' => e = .returned (.bool false) ∧ w' = w := by
  have hq : (a.toList == a.toList) = true := by simp
  go_enter Tryz.func105, Tryz.ntmps105
  go_wp2_with fail
  go_ret
  exact ⟨by simp, rfl⟩

set_option maxHeartbeats 1000000 in
theorem compareInt_any (a b : Int) (w : World) : Calls Tryz.prog 88 #[.int .i64 a, .int .i64 b] w fun e w' => e = .returned (.int .i64 (cmpI a b)) ∧ w' = w := by
  go_enter Tryz.func88, Tryz.ntmps88
  go_wp2_with fail
  refine (isNaNInt_any _ _).mono ?_
  rintro e w1 ⟨rfl, rfl⟩
  go_wp2_with fail
  refine (isNaNInt_any _ _).mono ?_
  rintro e w1 ⟨rfl, rfl⟩
  by_cases h : a < b
  · have hf : Hid _ := cmpI_lt h
    go_wp2_with fail
    go_ret
    rw [hf.out]
    exact ⟨rfl, rfl⟩
  · by_cases h' : b < a
    · have hf : Hid _ := cmpI_gt h'
      go_wp2_with fail
      go_ret
      rw [hf.out]
      exact ⟨rfl, rfl⟩
    · have hf : Hid _ := cmpI_eq h h'
      go_wp2_with fail
      go_ret
      rw [hf.out]
      exact ⟨rfl, rfl⟩
set_option maxHeartbeats 1000000 in
theorem compareStr_any (a b : ByteArray) (w : World) : Calls Tryz.prog 89 #[.string a, .string b] w fun e w' => e = .returned (.int .i64 (cmpS a b)) ∧ w' = w := by
  go_enter Tryz.func89, Tryz.ntmps89
  go_wp2_with fail
  refine (isNaNStr_any _ _).mono ?_
  rintro e w1 ⟨rfl, rfl⟩
  go_wp2_with fail
  refine (isNaNStr_any _ _).mono ?_
  rintro e w1 ⟨rfl, rfl⟩
  cases h1 : Op.bytesLess a.toList b.toList with
  | true =>
    have hf : Hid _ := cmpS_lt h1
    go_wp2_with fail
    go_ret
    rw [hf.out]
    exact ⟨rfl, rfl⟩
  | false =>
    cases h2 : (a.toList == b.toList) with
    | true =>
      have hf : Hid _ := cmpS_eq h2
      go_wp2_with fail
      go_ret
      rw [hf.out]
      exact ⟨rfl, rfl⟩
    | false =>
      have hf : Hid _ := cmpS_gt h1 h2
      go_wp2_with fail
      go_ret
      rw [hf.out]
      exact ⟨rfl, rfl⟩

set_option maxHeartbeats 1000000 in
theorem compareStrs_any (S S' : Nat → Prop) (ss ss' : List ByteArray) (v v' : Value) (w : World) (hv : StrsAt S w v ss) (hv' : StrsAt S' w v' ss') :
    Calls Tryz.prog 90 #[v, v'] w fun e w' => e = .returned (.int .i64 (ordL cmpS ss ss')) ∧ w' = w := by
  obtain ⟨a, cap, rfl, hlen⟩ := hv.open'
  obtain ⟨a', cap', rfl, hlen'⟩ := hv'.open'
  go_enter Tryz.func90, Tryz.ntmps90
  go_wp2_with fail
  go_loop [11] (fun i => ∃ (k : Nat), k ≤ ss.length ∧ k ≤ ss'.length ∧ i = .int .i64 k ∧ Hid (ordL cmpS ss ss' = ordL cmpS (ss.drop k) (ss'.drop k))) (fun i => ss.length - (intOf i).toNat)
  case atStart => exact ⟨0, Nat.zero_le _, Nat.zero_le _, rfl, rfl⟩
  case round =>
    obtain ⟨k, hk, hk', rfl, hfin⟩ := hrel
    by_cases hkl : k < ss.length
    case neg =>
      have hf2 : Hid (ordL cmpS ss ss' = cmpI ss.length ss'.length) := by
        show _ = _
        rw [hfin.out, ordL_end cmpS hk hk' (by omega)]
      by_cases hl : ss.length < ss'.length
      · have hf3 : Hid (ordL cmpS ss ss' = -1) := by show _ = _; rw [hf2.out, cmpI_lt (by omega)]
        go_wp2_with fail
        go_ret
        rw [hf3.out]
        exact ⟨rfl, rfl⟩
      · have hf3 : Hid (ordL cmpS ss ss' = 0) := by show _ = _; rw [hf2.out, cmpI_eq (by omega) (by omega)]
        go_wp2_with fail
        go_ret
        rw [hf3.out]
        exact ⟨rfl, rfl⟩
    case pos =>
    obtain ⟨b, o, s, rfl, _, hs, _, hck⟩ := hv.cell hkl
    by_cases hkl' : k < ss'.length
    case neg =>
      have hf3 : Hid (ordL cmpS ss ss' = 1) := by
        show _ = _
        rw [hfin.out, ordL_end cmpS hk hk' (by omega), cmpI_gt (by omega)]
      have hge : (ss'.length : Int) ≤ (k : Int) := by omega
      go_wp2_with fail
      go_ret
      rw [hf3.out]
      exact ⟨rfl, rfl⟩
    case pos =>
    obtain ⟨b', o', s', rfl, _, hs', _, hck'⟩ := hv'.cell hkl'
    have hst : Hid (_ = _) := ordL_drop cmpS hs hs'
    clear hv hv' hs hs'
    have hge : ¬ (ss'.length : Int) ≤ (k : Int) := by omega
    go_wp2_with fail
    refine (compareStr_any _ _ _).mono ?_
    rintro e w1 ⟨rfl, rfl⟩
    by_cases heq : cmpS s s' = 0
    · have hst2 : Hid (ordL cmpS ss ss' = ordL cmpS (ss.drop (k + 1)) (ss'.drop (k + 1))) := by
        show ordL cmpS ss ss' = _
        rw [hfin.out, hst.out, heq]
        rfl
      clear hst hfin
      go_wp2_with fail
      go_round
      case rel => exact ⟨k + 1, by omega, by omega, by go_num, hst2⟩
      case measure => simp [intOf]; omega
    · have hfin2 : Hid (ordL cmpS ss ss' = cmpS s s') := by
        show ordL cmpS ss ss' = _
        rw [hfin.out, hst.out, orI_ne heq]
      clear hst hfin
      go_wp2_with fail
      go_ret
      rw [hfin2.out]
      exact ⟨rfl, rfl⟩

end Go.Proofs.YtohdpgclokgohaaGreatDoor

/- The map of pairs of lists: two keys are one, a key is sought, a key is laid. -/
namespace Go.Proofs.YtohdpgclokgohaaGreatDoor
open Go.RowKit Go.Deep

/-- Two lists, by where they lie. -/
def pairKey (a b : Addr) (m n : Nat) : Value := .agg #[.pointer (some a), .pointer (some b), .int .i64 m, .int .i64 n]

theorem Tryz.fieldsPair : (Tryz.prog.fieldsOf 163).toList.map (fun f => (f.name, f.type, f.offset)) = [("a", 161, 0), ("b", 161, 1), ("manyA", 3, 2), ("manyB", 3, 3)] := by kernel_rfl
theorem Tryz.structPair : Tryz.prog.underlying 163 = some (.struct (Tryz.prog.fieldsOf 163)) := by kernel_rfl
theorem Tryz.pairHeld : Tryz.prog.stoodInHeld 163 = false := by kernel_rfl
theorem Tryz.ptrVal : Tryz.prog.underlying 161 = some (.pointer 26) := by kernel_rfl

theorem run_sameAddr_any (w : World) (a b : Addr) (ha : Plain w a.block) (hb : Plain w b.block) : (sameAddr a b).run Tryz.prog w = .ok (decide (a = b)) w := by
  obtain ⟨ca, ta, ha⟩ := ha
  obtain ⟨cb, tb, hb⟩ := hb
  by_cases e : a = b
  · subst e
    rw [run_sameAddr_same, decide_eq_true rfl]
  · rw [run_sameAddr_other w e ha hb, decide_eq_false e]

theorem run_equalPtr (w : World) (d : Nat) (a b : Addr) (ha : Plain w a.block) (hb : Plain w b.block) :
    (Op.equalIn (d + 1) 161 (.pointer (some a)) (.pointer (some b))).run Tryz.prog w = .ok (decide (a = b)) w := by
  obtain ⟨i, hi, hzz⟩ := Option.map_eq_some_iff.1 Tryz.infoVal
  simp only [Prod.mk.injEq] at hzz
  obtain ⟨_, hs, _⟩ := hzz
  simp [Op.equalIn, run_underlying Tryz.ptrVal, typeInfo, sizeOf, hi, hs, run_sameAddr_any w a b ha hb]

theorem run_pairEq (w : World) (a b a' b' : Addr) (m n m' n' : Nat) (h1 : Plain w a.block) (h2 : Plain w b.block) (h3 : Plain w a'.block) (h4 : Plain w b'.block) :
    (Op.equal 163 (pairKey a b m n) (pairKey a' b' m' n')).run Tryz.prog w = .ok (decide (a = a' ∧ b = b' ∧ m = m' ∧ n = n')) w := by
  have hp1 : (Op.equalIn 9999 161 (.pointer (some a)) (.pointer (some a'))).run Tryz.prog w = .ok (decide (a = a')) w := run_equalPtr w 9998 a a' h1 h3
  have hp2 : (Op.equalIn 9999 161 (.pointer (some b)) (.pointer (some b'))).run Tryz.prog w = .ok (decide (b = b')) w := run_equalPtr w 9998 b b' h2 h4
  have hi1 : (Op.equalIn 9999 3 (.int .i64 m) (.int .i64 m')).run Tryz.prog w = .ok ((m : Int) == (m' : Int)) w := run_equalIn_int (P := Tryz.prog) w 9998 3 .i64 .i64 m m' Tryz.underlying3
  have hi2 : (Op.equalIn 9999 3 (.int .i64 n) (.int .i64 n')).run Tryz.prog w = .ok ((n : Int) == (n' : Int)) w := run_equalIn_int (P := Tryz.prog) w 9998 3 .i64 .i64 n n' Tryz.underlying3
  have hf := Tryz.fieldsPair
  rw [Op.equal, Op.maxDepth, pairKey, pairKey, run_equalIn_struct w 9999 163 _ _ Tryz.structPair Tryz.pairHeld]
  generalize (Tryz.prog.fieldsOf 163).toList = fs at hf ⊢
  obtain ⟨f0, r0, rfl, e0, hf⟩ := List.map_eq_cons_iff.1 hf
  obtain ⟨f1, r1, rfl, e1, hf⟩ := List.map_eq_cons_iff.1 hf
  obtain ⟨f2, r2, rfl, e2, hf⟩ := List.map_eq_cons_iff.1 hf
  obtain ⟨f3, r3, rfl, e3, hf⟩ := List.map_eq_cons_iff.1 hf
  obtain rfl := List.map_eq_nil_iff.1 hf
  simp only [Prod.mk.injEq] at e0 e1 e2 e3
  obtain ⟨n0, t0, o0⟩ := e0
  obtain ⟨n1, t1, o1⟩ := e1
  obtain ⟨n2, t2, o2⟩ := e2
  obtain ⟨n3, t3, o3⟩ := e3
  simp only [Op.eqFields, n0, n1, n2, n3, t0, t1, t2, t3, o0, o1, o2, o3]
  clear hf n0 n1 n2 n3 t0 t1 t2 t3 o0 o1 o2 o3
  by_cases c1 : a = a'
  · rw [decide_eq_true c1] at hp1
    by_cases c2 : b = b'
    · rw [decide_eq_true c2] at hp2
      by_cases c3 : m = m'
      · have q3 : ((m : Int) == (m' : Int)) = true := by simp; omega
        rw [q3] at hi1
        by_cases c4 : n = n'
        · have q4 : ((n : Int) == (n' : Int)) = true := by simp; omega
          rw [q4] at hi2
          rw [decide_eq_true (⟨c1, c2, c3, c4⟩ : a = a' ∧ b = b' ∧ m = m' ∧ n = n')]
          simp [part, isAgg, run_underlying Tryz.ptrVal, run_underlying Tryz.underlying3, hp1, hp2, hi1, hi2]
        · have q4 : ((n : Int) == (n' : Int)) = false := by simp; omega
          rw [q4] at hi2
          rw [decide_eq_false (fun h : a = a' ∧ b = b' ∧ m = m' ∧ n = n' => c4 h.2.2.2)]
          simp [part, isAgg, run_underlying Tryz.ptrVal, run_underlying Tryz.underlying3, hp1, hp2, hi1, hi2]
      · have q3 : ((m : Int) == (m' : Int)) = false := by simp; omega
        rw [q3] at hi1
        rw [decide_eq_false (fun h : a = a' ∧ b = b' ∧ m = m' ∧ n = n' => c3 h.2.2.1)]
        simp [part, isAgg, run_underlying Tryz.ptrVal, run_underlying Tryz.underlying3, hp1, hp2, hi1]
    · rw [decide_eq_false c2] at hp2
      rw [decide_eq_false (fun h : a = a' ∧ b = b' ∧ m = m' ∧ n = n' => c2 h.2.1)]
      simp [part, isAgg, run_underlying Tryz.ptrVal, run_underlying Tryz.underlying3, hp1, hp2]
  · rw [decide_eq_false c1] at hp1
    rw [decide_eq_false (fun h : a = a' ∧ b = b' ∧ m = m' ∧ n = n' => c1 h.1)]
    simp [part, isAgg, run_underlying Tryz.ptrVal, run_underlying Tryz.underlying3, hp1]

/-- A map of pairs of lists that lie in plain blocks. -/
def PairMap (w : World) (es : List MapEntry) : Prop := ∀ e ∈ es, ∃ a b m n, e.key = pairKey a b m n ∧ e.val = .agg #[] ∧ Plain w a.block ∧ Plain w b.block

theorem run_findPair (w : World) (a b : Addr) (m n : Nat) (h1 : Plain w a.block) (h2 : Plain w b.block) : ∀ (es : List MapEntry) (i : Nat), PairMap w es →
    ((Instr.findAsking 163 (pairKey a b m n) es i).run Tryz.prog w = .ok none w ∧ ∀ e ∈ es, e.key ≠ pairKey a b m n) ∨
    ((∃ j, (Instr.findAsking 163 (pairKey a b m n) es i).run Tryz.prog w = .ok (some (j, .agg #[])) w) ∧ ∃ e ∈ es, e.key = pairKey a b m n)
  | [], i, _ => Or.inl ⟨by simp [Instr.findAsking], by simp⟩
  | e :: r, i, h => by
    obtain ⟨a', b', m', n', hk, hv, h3, h4⟩ := h e (by simp)
    have heq := run_pairEq w a b a' b' m n m' n' h1 h2 h3 h4
    by_cases c : a = a' ∧ b = b' ∧ m = m' ∧ n = n'
    · rw [decide_eq_true c] at heq
      refine Or.inr ⟨⟨i, by simp [Instr.findAsking, hk, hv, heq]⟩, e, by simp, ?_⟩
      obtain ⟨rfl, rfl, rfl, rfl⟩ := c
      exact hk
    · rw [decide_eq_false c] at heq
      rcases run_findPair w a b m n h1 h2 r (i + 1) (fun y hy => h y (by simp [hy])) with ⟨k1, k2⟩ | ⟨⟨j, k1⟩, y, hy, k2⟩
      · refine Or.inl ⟨by simp [Instr.findAsking, hk, heq, k1], fun y hy => ?_⟩
        rcases List.mem_cons.1 hy with rfl | hy
        · rw [hk]
          intro e2
          simp only [pairKey, Value.agg.injEq] at e2
          simp at e2
          exact c ⟨e2.1.symm, e2.2.1.symm, by omega, by omega⟩
        · exact k2 y hy
      · exact Or.inr ⟨⟨j, by simp [Instr.findAsking, hk, heq, k1]⟩, y, by simp [hy], k2⟩

theorem run_checkPtr (w : World) (em : Bool) (n : Nat) (a : Option Addr) : (Instr.checkKey em (n + 1) 161 (.pointer a)).run Tryz.prog w = .ok () w := by
  simp [Instr.checkKey, run_underlying Tryz.ptrVal]
theorem run_checkInt (w : World) (em : Bool) (n : Nat) (k : Int) : (Instr.checkKey em (n + 1) 3 (.int .i64 k)).run Tryz.prog w = .ok () w := by
  simp [Instr.checkKey, run_underlying Tryz.underlying3]
theorem run_checkPairAt (w : World) (em : Bool) (d : Nat) (a b : Addr) (m n : Nat) : (Instr.checkKey em (d + 2) 163 (pairKey a b m n)).run Tryz.prog w = .ok () w := by
  have hf := Tryz.fieldsPair
  have hp := fun a => run_checkPtr w em d a
  have hi := fun k => run_checkInt w em d k
  rw [Instr.checkKey, pairKey]
  simp only [Sem.run_bind, run_underlying Tryz.structPair, Result.andThen_ok]
  rw [← Array.forIn_toList]
  generalize (Tryz.prog.fieldsOf 163).toList = fs at hf ⊢
  obtain ⟨f0, r0, rfl, e0, hf⟩ := List.map_eq_cons_iff.1 hf
  obtain ⟨f1, r1, rfl, e1, hf⟩ := List.map_eq_cons_iff.1 hf
  obtain ⟨f2, r2, rfl, e2, hf⟩ := List.map_eq_cons_iff.1 hf
  obtain ⟨f3, r3, rfl, e3, hf⟩ := List.map_eq_cons_iff.1 hf
  obtain rfl := List.map_eq_nil_iff.1 hf
  simp only [Prod.mk.injEq] at e0 e1 e2 e3
  obtain ⟨n0, t0, o0⟩ := e0
  obtain ⟨n1, t1, o1⟩ := e1
  obtain ⟨n2, t2, o2⟩ := e2
  obtain ⟨n3, t3, o3⟩ := e3
  clear hf
  simp [List.forIn_cons, n0, n1, n2, n3, t0, t1, t2, t3, o0, o1, o2, o3, part, isAgg, run_underlying Tryz.ptrVal, run_underlying Tryz.underlying3, hp, hi]

theorem run_checkPair (w : World) (em : Bool) (a b : Addr) (m n : Nat) : (Instr.checkKey em 10000 163 (pairKey a b m n)).run Tryz.prog w = .ok () w := run_checkPairAt w em 9998 a b m n

theorem Tryz.mapPair : Tryz.prog.underlying 88 = some (.map 163 164) := by kernel_rfl
theorem Tryz.infoUnit : (Tryz.prog.info? 164).map (fun i => (i.zero, i.size, i.bytes)) = some (some (.agg #[]), 0, 0) := by kernel_rfl

theorem run_findKeyPair (w : World) (a b : Addr) (m n : Nat) (h1 : Plain w a.block) (h2 : Plain w b.block) (es : List MapEntry) (hp : PairMap w es) :
    ((Instr.findKey 163 (pairKey a b m n) es).run Tryz.prog w = .ok none w ∧ ∀ e ∈ es, e.key ≠ pairKey a b m n) ∨
    ((∃ j, (Instr.findKey 163 (pairKey a b m n) es).run Tryz.prog w = .ok (some (j, .agg #[])) w) ∧ ∃ e ∈ es, e.key = pairKey a b m n) := by
  cases es with
  | nil => exact Or.inl ⟨by simp [Instr.findKey, run_underlying Tryz.structPair, Instr.findNow], by simp⟩
  | cons e r =>
    obtain ⟨a', b', m', n', hk, hv, h3, h4⟩ := hp e (by simp)
    have hn : Instr.findNow (.struct (Tryz.prog.fieldsOf 163)) (pairKey a b m n) (e :: r) 0 = none := by
      simp [Instr.findNow, Instr.sameNow]
    have hrun : (Instr.findKey 163 (pairKey a b m n) (e :: r)).run Tryz.prog w = (Instr.findAsking 163 (pairKey a b m n) (e :: r) 0).run Tryz.prog w := by
      simp only [Instr.findKey, Sem.run_bind, run_underlying Tryz.structPair, Result.andThen_ok, hn]
    rw [hrun]
    exact run_findPair w a b m n h1 h2 (e :: r) 0 hp

theorem run_pairs (w : World) (r clock : Nat) (es : Array MapEntry) (a b : Addr) (m n : Nat) (h1 : Plain w a.block) (h2 : Plain w b.block) (hb : w.heap[r]? = some (.map es clock)) (hp : PairMap w es.toList) :
    ((∀ e ∈ es.toList, e.key ≠ pairKey a b m n) ∧ (Instr.lookup 88 (.map (some r)) (pairKey a b m n) true).run Tryz.prog w = .ok (.tuple #[.agg #[], .bool false]) w ∧
      (Instr.mapUpdate 88 (.map (some r)) (pairKey a b m n) (.agg #[])).run Tryz.prog w = .ok () (withObj w r (.map (es.push ⟨pairKey a b m n, .agg #[], clock⟩) (clock + 1)))) ∨
    ((∃ e ∈ es.toList, e.key = pairKey a b m n) ∧ (Instr.lookup 88 (.map (some r)) (pairKey a b m n) true).run Tryz.prog w = .ok (.tuple #[.agg #[], .bool true]) w) := by
  obtain ⟨i, hi, hz0, hz1, hz2⟩ := info_parts Tryz.infoUnit
  have hz : (zeroValue 164).run Tryz.prog w = .ok (.agg #[]) w := by simp [zeroValue, typeInfo, hi, hz0]
  have hk1 := fun em => run_checkPair w em a b m n
  rcases run_findKeyPair w a b m n h1 h2 es.toList hp with ⟨k1, k2⟩ | ⟨⟨j, k1⟩, k2⟩
  · refine Or.inl ⟨k2, ?_, ?_⟩
    · simp [Instr.lookup, run_underlying Tryz.mapPair, getObj, Sem.run, hb, hk1, k1, hz]
    · simp [Instr.mapUpdate, run_underlying Tryz.mapPair, getObj, setObj, Sem.run, hb, hk1, k1, withObj]
  · refine Or.inr ⟨k2, ?_⟩
    simp [Instr.lookup, run_underlying Tryz.mapPair, getObj, Sem.run, hb, hk1, k1]
end Go.Proofs.YtohdpgclokgohaaGreatDoor
