/- Texts of the proof, put together by program: WDrawH, WDrawJ. -/
import Derived.Test.YtilgbnnjecpneaaGreatDoorV13
import Derived.Test.YtilgbnnjecpneaaGreatDoorV14
/- Drawn trees: two of them. -/
namespace Go.Proofs.YtilgbnnjecpneaaGreatDoor
open Go.RowKit Go.Deep

/-- A tree that owns its memory lies in plain cells. -/
theorem strs_plain {S : Nat → Prop} {w : World} {v : Value} {ss : List ByteArray} (h : StrsOwn S w v ss) : StrsAt (fun b => S b ∧ Plain w b) w v ss := by
  obtain ⟨h1, h2, a, cap, hv, h3⟩ := h
  refine ⟨h1, h2, a, cap, hv, ?_⟩
  rcases h3 with h3 | ⟨b, n, f, hB, ha, hl, hr, hc⟩
  · exact Or.inl h3
  · refine Or.inr ⟨b, 0, ⟨hB, plain_row hr⟩, ha, fun i s hi => ?_⟩
    have := (List.getElem?_eq_some_iff.1 hi).1
    rw [Nat.zero_add, hr.cell (by omega), hc i s hi]
theorem own_plain {w : World} : ∀ (d : Nat) (S : Nat → Prop) (t : Tr d) (v : Value), ValOwn w d S t v → ValAt (fun b => S b ∧ Plain w b) w d t v
  | 0, _, _, _, h => h
  | d + 1, S, t, v, h => by
    obtain ⟨vk, vl, Sk, Sl, hv, i1, i2, i3, hk, hl, s1, s2, _⟩ := h
    refine ⟨vk, vl, hv, i1, i2, i3, (strs_plain hk).mono (fun b hb => ⟨s1 b hb.1, hb.2⟩), ?_⟩
    obtain ⟨h1, a, cap, hv, h3⟩ := hl
    refine ⟨h1, a, cap, hv, ?_⟩
    rcases h3 with h3 | ⟨b, n, f, P, hB, ha, hl, hr, hP, _, hc⟩
    · exact Or.inl h3
    · refine Or.inr ⟨b, 0, ⟨s2 b hB, plain_row hr⟩, ha, fun i x hx => ?_⟩
      have := (List.getElem?_eq_some_iff.1 hx).1
      rw [Nat.zero_add]
      exact ⟨_, _, _, _, _, hr.cell (by omega), hr.cell (by omega), hr.cell (by omega), hr.cell (by omega), hr.cell (by omega), (own_plain d _ x _ (hc i x hx)).mono (fun c hc' => ⟨s2 c (hP i c hc'.1).1, hc'.2⟩)⟩

/-- Plain blocks between two bounds. -/
def FreshR (lo hi : Nat) (w : World) (b : Nat) : Prop := lo < b ∧ b < hi ∧ Plain w b
theorem FreshR.go {lo hi r d : Nat} {w w' : World} {t : Tr d} {u : Value} (h : ValAt (FreshR lo hi w) w d t u) (hb : But r w w') (hr : r ≤ lo) (hh : hi ≤ w.heap.size) : ValAt (FreshR lo hi w') w' d t u := by
  have hs : Same (FreshR lo hi w) w w' := fun b hb' => hb.block b (by have := hb'.2.1; omega) (fun e => by have := hb'.1; cases e; omega)
  exact ValAt.moved hs (fun b hb' => ⟨hb'.1, hb'.2.1, hb'.2.2.of_block (hs b hb')⟩) d t u h

/-- What draws one tree. -/
def OneD (w : World) (e : Ending) (w' : World) : Prop := ∃ u t, e = .returned u ∧ ValAt (FreshP w w') w' 11 t u ∧ wtT 11 t ≤ 1000 ∧ Below w.heap.size w w'
/-- What draws two trees. -/
def TwoD (w : World) (e : Ending) (w' : World) : Prop := ∃ u t u' t', e = .returned (.tuple #[u, u']) ∧ ValAt (FreshP w w') w' 11 t u ∧ wtT 11 t ≤ 1000 ∧ ValAt (FreshP w w') w' 11 t' u' ∧ wtT 11 t' ≤ 1000 ∧ Below w.heap.size w w'

theorem but_below {N r : Nat} {w w1 w2 : World} (h : Below N w w1) (hb : But r w1 w2) (hr : N ≤ r) (hN : N ≤ w1.heap.size) : Below N w w2 :=
  ⟨hb.os.trans h.os, hb.tape.trans h.tape, hb.output.trans h.output, Nat.le_trans h.size hb.size, fun b hlt => (hb.block b (by omega) (fun e => by cases e; omega)).trans (h.block b hlt)⟩
theorem BytesAt.wider {r r' : Nat} {w w' : World} {a : Option Addr} {n : Nat} (h : BytesAt r w a n) (hs : ∀ b, b < r → w'.heap[b]? = w.heap[b]?) (hr : r ≤ r') : BytesAt r' w' a n := by
  rcases h with h | ⟨b, o, hb, ha, hc⟩
  · exact Or.inl h
  · refine Or.inr ⟨b, o, by omega, ha, fun i hi => ?_⟩
    obtain ⟨x, h0, h1, h2⟩ := hc i hi
    exact ⟨x, h0, h1, (World.cell?_of_block (w := w) (hs b hb)).trans h2⟩

theorem oneD_end {w wX : World} {t : Tr 11} {v0 v1 v2 v3 v4 : Value} (hv : ValAt (FreshQ w wX) wX 11 t (.agg #[v0, v1, v2, v3, v4])) (hB : wtT 11 t ≤ 1000) (hb : Below w.heap.size w wX) :
    ∀ wF, wF = set5 wX w.heap.size 0 v0 v1 v2 v3 v4 → OneD w (.returned (.agg #[v0, v1, v2, v3, v4])) wF := by
  intro wF hF
  have hs : ∀ b, b ≠ w.heap.size → wF.heap[b]? = wX.heap[b]? := fun b hb' => by rw [hF]; exact set5_block _ _ _ _ _ _ _ _ _ hb'
  have hz : wF.heap.size = wX.heap.size := by rw [hF]; exact set5_size _ _ _ _ _ _ _ _
  have hl : Below w.heap.size w wF := by rw [hF]; exact below_set5 hb (Nat.le_refl _) _ _ _ _ _ _
  refine ⟨_, t, rfl, ValAt.moved (fun b hb' => hs b (by have := hb'.1; omega)) (fun b hb' => ?_) 11 t _ hv, hB, hl⟩
  exact ⟨⟨Nat.le_of_lt hb'.1, by rw [hz]; exact hb'.2.1⟩, hb'.2.2.of_block (hs b (by have := hb'.1; omega))⟩

/-- New blocks of plain cells, but for the first two. -/
def FreshT (w w' : World) (b : Nat) : Prop := w.heap.size + 1 < b ∧ b < w'.heap.size ∧ Plain w' b
theorem FreshT.go {d : Nat} {w wB wX : World} {t : Tr d} {u : Value} (h : ValAt (FreshT w wB) wB d t u) (hX : Below wB.heap.size wB wX) : ValAt (FreshT w wX) wX d t u := by
  have hs : Same (FreshT w wB) wB wX := fun b hb => hX.block b hb.2.1
  exact ValAt.moved hs (fun b hb => ⟨hb.1, Nat.lt_of_lt_of_le hb.2.1 hX.size, hb.2.2.of_block (hs b hb)⟩) d t u h
end Go.Proofs.YtilgbnnjecpneaaGreatDoor

/- Drawn trees: a row of one and a row of two, in the results' own cells. -/
namespace Go.Proofs.YtilgbnnjecpneaaGreatDoor
open Go.RowKit Go.Deep

end Go.Proofs.YtilgbnnjecpneaaGreatDoor
