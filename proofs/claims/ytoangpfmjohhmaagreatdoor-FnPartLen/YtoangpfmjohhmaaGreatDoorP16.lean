/- Texts of the proof, put together by program: WVTo. -/
import Derived.Test.YtoangpfmjohhmaaGreatDoorP11
import Derived.Test.YtoangpfmjohhmaaGreatDoorP15
/- A row of the model's that is being made out of trees that lie elsewhere; what is told, in the result's own cells. -/
namespace Go.Proofs.YtoangpfmjohhmaaGreatDoor
open Go.RowKit Go.Deep

theorem nodes_wt : ∀ (d : Nat) (t : Tr d), nodes d t ≤ wtT d t
  | 0, t => Empty.elim t
  | d + 1, t => by
    have h : ∀ xs : List (Tr d), (xs.map (nodes d)).sum ≤ (xs.map (wtT d)).sum := by
      intro xs
      induction xs with
      | nil => exact Nat.le_refl _
      | cons x r ih =>
        have := nodes_wt d x
        simp only [List.map_cons, List.sum_cons]
        omega
    have := h (Nd.list t)
    rw [nodes, wtT]
    omega
theorem nodes_ok {d : Nat} {t : Tr d} (h : okT d t = true) : nodes d t ≤ 300 := Nat.le_trans (nodes_wt d t) (wtT_ok h)
theorem sum_le_of {α : Type} {f : α → Nat} {c : Nat} : ∀ {xs : List α}, (∀ x ∈ xs, f x ≤ c) → (xs.map f).sum ≤ c * xs.length
  | [], _ => by simp
  | x :: r, h => by
    have h1 := h x (by simp)
    have h2 := sum_le_of (xs := r) (fun y hy => h y (by simp [hy]))
    simp only [List.map_cons, List.sum_cons, List.length_cons]
    rw [Nat.mul_succ]
    omega
/-- A row of the model's that owns its cells; its trees lie in blocks of S. -/
def VTo {d : Nat} (S : Nat → Prop) (N : Nat) (w : World) (lv : Value) (xs : List (Tr d)) (vs : List Value) : Prop :=
  w.ownsRow N 26 5 lv xs.length vs ∧ ∀ (j : Nat) (x : Tr d), xs[j]? = some x → ∃ c0 c1 c2 c3 c4, vs[j * 5]? = some c0 ∧ vs[j * 5 + 1]? = some c1 ∧ vs[j * 5 + 2]? = some c2 ∧ vs[j * 5 + 3]? = some c3 ∧ vs[j * 5 + 4]? = some c4 ∧ ValAt S w d x (.agg #[c0, c1, c2, c3, c4])

theorem VTo.grow {d N : Nat} {S : Nat → Prop} {wr w2 : World} {lv lv' : Value} {xs : List (Tr d)} {vs : List Value} {x : Tr d} {v0 v1 v2 v3 v4 : Value} (h : VTo S N wr lv xs vs) (hs : Same S wr w2) (hx : ValAt S wr d x (.agg #[v0, v1, v2, v3, v4])) (hown : w2.ownsRow N 26 5 lv' (xs.length + 1) (vs ++ [v0, v1, v2, v3, v4])) : VTo S N w2 lv' (xs ++ [x]) (vs ++ [v0, v1, v2, v3, v4]) := by
  obtain ⟨h1, h2⟩ := h
  have hlen : vs.length = xs.length * 5 := h1.1
  refine ⟨by rw [List.length_append]; exact hown, fun j y hy => ?_⟩
  by_cases e : j < xs.length
  · rw [List.getElem?_append_left e] at hy
    obtain ⟨c0, c1, c2, c3, c4, e0, e1, e2, e3, e4, hv⟩ := h2 j y hy
    refine ⟨c0, c1, c2, c3, c4, ?_, ?_, ?_, ?_, ?_, hv.same hs⟩
    · rw [List.getElem?_append_left (by omega)]; exact e0
    · rw [List.getElem?_append_left (by omega)]; exact e1
    · rw [List.getElem?_append_left (by omega)]; exact e2
    · rw [List.getElem?_append_left (by omega)]; exact e3
    · rw [List.getElem?_append_left (by omega)]; exact e4
  · have hj : j = xs.length := by
      have := (List.getElem?_eq_some_iff.1 hy).1
      rw [List.length_append, List.length_singleton] at this
      omega
    subst hj
    rw [List.getElem?_append_right (Nat.le_refl _), Nat.sub_self] at hy
    cases hy
    refine ⟨v0, v1, v2, v3, v4, ?_, ?_, ?_, ?_, ?_, hx.same hs⟩
    · rw [List.getElem?_append_right (by omega), hlen]; simp
    · rw [List.getElem?_append_right (by omega), hlen]; simp
    · rw [List.getElem?_append_right (by omega), hlen]; simp
    · rw [List.getElem?_append_right (by omega), hlen]; simp
    · rw [List.getElem?_append_right (by omega), hlen]; simp

theorem VTo.moved {d N : Nat} {S : Nat → Prop} {w w' : World} {lv : Value} {xs : List (Tr d)} {vs : List Value} (h : VTo S N w lv xs vs) (hs : Same S w w') (ho : ∀ g, lv.ownBlock = some g → w'.heap[g]? = w.heap[g]?) : VTo S N w' lv xs vs := by
  obtain ⟨h1, h2⟩ := h
  refine ⟨⟨h1.1, ?_⟩, fun j x hx => ?_⟩
  · rcases h1.2 with h | ⟨g, cap, cur, hv, hg, hh, hrest⟩
    · exact Or.inl h
    · exact Or.inr ⟨g, cap, cur, hv, hg, (ho g (by rw [hv]; rfl)).trans hh, hrest⟩
  · obtain ⟨c0, c1, c2, c3, c4, e0, e1, e2, e3, e4, hv⟩ := h2 j x hx
    exact ⟨c0, c1, c2, c3, c4, e0, e1, e2, e3, e4, hv.same hs⟩

/-- The row, where it lies. -/
theorem VTo.at {d N : Nat} {S : Nat → Prop} {w : World} {lv : Value} {xs : List (Tr d)} {vs : List Value} (h : VTo S N w lv xs vs) (hl : xs.length < 3518437208883) : RowAt (fun b => S b ∨ (N ≤ b ∧ b < w.heap.size)) w (ValAt (fun b => S b ∨ (N ≤ b ∧ b < w.heap.size)) w d) lv xs := by
  obtain ⟨h1, h2⟩ := h
  refine ⟨hl, ?_⟩
  rcases h1.2 with ⟨rfl, h0⟩ | ⟨g, cap, cur, rfl, hg, hh, hnc, _, hcs, htake⟩
  · exact ⟨none, 0, by rw [h0], Or.inl (List.eq_nil_of_length_eq_zero h0)⟩
  · refine ⟨some ⟨g, 0, none⟩, cap, rfl, Or.inr ⟨g, 0, Or.inr ⟨hg, (Array.getElem?_eq_some_iff.1 hh).1⟩, rfl, fun i x hx => ?_⟩⟩
    obtain ⟨c0, c1, c2, c3, c4, e0, e1, e2, e3, e4, hv⟩ := h2 i x hx
    have hi := (List.getElem?_eq_some_iff.1 hx).1
    have hc : ∀ j c, j < xs.length * 5 → vs[j]? = some c → w.cell? ⟨g, 0 + j, none⟩ = some c := fun j c hj hc => by
      rw [Nat.zero_add]
      exact (h1.cellAt j hj).trans hc
    refine ⟨c0, c1, c2, c3, c4, hc _ _ (by omega) e0, hc _ _ (by omega) e1, hc _ _ (by omega) e2, hc _ _ (by omega) e3, hc _ _ (by omega) e4, hv.mono (fun b hb => Or.inl hb)⟩

/-- Another tree at a place. -/
theorem VTo.put {d N g n cap k : Nat} {S : Nat → Prop} {w : World} {xs : List (Tr d)} {vs : List Value} {x : Tr d} {v0 v1 v2 v3 v4 : Value} (h : VTo S N w (.slice (some ⟨g, 0, none⟩) n cap) xs vs) (hn : n = xs.length) (hk : k < xs.length) (hx : ValAt S w d x (.agg #[v0, v1, v2, v3, v4])) (hS : ∀ b, S b → b < N) :
    (∃ vs', VTo S N (set5 w g (k * 5) v0 v1 v2 v3 v4) (.slice (some ⟨g, 0, none⟩) n cap) (xs.set k x) vs') ∧ Below N w (set5 w g (k * 5) v0 v1 v2 v3 v4) := by
  subst hn
  obtain ⟨h1, h2⟩ := h
  have hlen : vs.length = xs.length * 5 := h1.1
  have hgN := (h1.lt g rfl).1
  have hB : Below N w (set5 w g (k * 5) v0 v1 v2 v3 v4) := below_set5 (Below.refl _ _) hgN _ _ _ _ _ _
  have hsame : Same S w (set5 w g (k * 5) v0 v1 v2 v3 v4) := fun b hb => hB.block b (hS b hb)
  have ho := (((((h1.stored (k * 5) v0).1.stored (k * 5 + 1) v1).1.stored (k * 5 + 2) v2).1.stored (k * 5 + 3) v3).1.stored (k * 5 + 4) v4).1
  refine ⟨⟨_, by rw [List.length_set]; exact ho, fun j y hy => ?_⟩, hB⟩
  by_cases e : k = j
  · subst e
    rw [List.getElem?_set_self hk] at hy
    cases hy
    refine ⟨v0, v1, v2, v3, v4, ?_, ?_, ?_, ?_, ?_, hx.same hsame⟩
    all_goals simp [List.getElem?_set, hlen]
    all_goals omega
  · rw [List.getElem?_set_ne e] at hy
    obtain ⟨c0, c1, c2, c3, c4, e0, e1, e2, e3, e4, hv⟩ := h2 j y hy
    refine ⟨c0, c1, c2, c3, c4, ?_, ?_, ?_, ?_, ?_, hv.same hsame⟩
    · rw [List.getElem?_set_ne (by omega), List.getElem?_set_ne (by omega), List.getElem?_set_ne (by omega), List.getElem?_set_ne (by omega), List.getElem?_set_ne (by omega)]; exact e0
    · rw [List.getElem?_set_ne (by omega), List.getElem?_set_ne (by omega), List.getElem?_set_ne (by omega), List.getElem?_set_ne (by omega), List.getElem?_set_ne (by omega)]; exact e1
    · rw [List.getElem?_set_ne (by omega), List.getElem?_set_ne (by omega), List.getElem?_set_ne (by omega), List.getElem?_set_ne (by omega), List.getElem?_set_ne (by omega)]; exact e2
    · rw [List.getElem?_set_ne (by omega), List.getElem?_set_ne (by omega), List.getElem?_set_ne (by omega), List.getElem?_set_ne (by omega), List.getElem?_set_ne (by omega)]; exact e3
    · rw [List.getElem?_set_ne (by omega), List.getElem?_set_ne (by omega), List.getElem?_set_ne (by omega), List.getElem?_set_ne (by omega), List.getElem?_set_ne (by omega)]; exact e4
/-- What was told is put into the result's own cells. -/
theorem tell_endA {d : Nat} {t : Tr (d + 1)} {w w1 w2 : World} {v0 v1 : Int} {v2 : ByteArray} {v3 v6 : Option Addr} {v4 v5 v7 v8 rb : Nat} (hv : ValAt (Fresh w1 w2) w2 (d + 1) t (.agg #[.int .i64 v0, .int .i64 v1, .string v2, .slice v3 v4 v5, .slice v6 v7 v8])) (hb : Below w.heap.size w w2)
    (hr : w.heap.size ≤ rb) (hr1 : rb < w1.heap.size) :
    ∀ wF, wF = set5 w2 rb 0 (.int .i64 v0) (.int .i64 v1) (.string v2) (.slice v3 v4 v5) (.slice v6 v7 v8) → ValAt (Fresh w wF) wF (d + 1) t (.agg #[.int .i64 v0, .int .i64 v1, .string v2, .slice v3 v4 v5, .slice v6 v7 v8]) ∧ Below w.heap.size w wF := by
  intro wF hF
  have hzF : wF.heap.size = w2.heap.size := by rw [hF, set5_size]
  refine ⟨ValAt.moved (fun b hb => ?_) (fun b hb => ⟨by have := hb.1; omega, by have := hb.2; omega⟩) (d + 1) t _ hv, ?_⟩
  · rw [hF, set5_block _ _ _ _ _ _ _ _ _ (by have := hb.1; omega)]
  · rw [hF]
    exact below_set5 hb hr _ _ _ _ _ _

end Go.Proofs.YtoangpfmjohhmaaGreatDoor
