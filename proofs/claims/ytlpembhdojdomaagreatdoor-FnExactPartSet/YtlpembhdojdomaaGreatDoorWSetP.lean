/- A tree put at a place of a row. -/
import Derived.Test.YtlpembhdojdomaaGreatDoorWTopR
namespace Go.Proofs.YtlpembhdojdomaaGreatDoor
open Go.RowKit Go.Deep

/-- A row as a tree. -/
def rowT (d : Nat) (xs : List (Tr d)) : Tr (d + 1) := (Nd.mk 5 0 ByteArray.empty [] xs : Nd (Tr d))
/-- A row of at least n, with z at those that are not there. -/
def padL {α : Type} (xs : List α) (z : α) (n : Nat) : List α := xs ++ List.replicate (n - xs.length) z
/-- What becomes of a row when x is put at place k. -/
def setL {α : Type} (xs : List α) (z : α) (k : Nat) (x : α) : List α := (padL xs z (k + 1)).set k x

theorem padL_length {α : Type} (xs : List α) (z : α) (n : Nat) : (padL xs z n).length = max xs.length n := by
  unfold padL
  rw [List.length_append, List.length_replicate]
  omega
theorem setL_length {α : Type} (xs : List α) (z : α) (k : Nat) (x : α) : (setL xs z k x).length = max xs.length (k + 1) := by
  unfold setL
  rw [List.length_set, padL_length]
theorem padL_step {α : Type} (xs : List α) (z : α) (m : Nat) : xs ++ List.replicate (m + 1) z = (xs ++ List.replicate m z) ++ [z] := by
  rw [List.replicate_succ', List.append_assoc]

/-- What PartSet tells. -/
def partSetT (d : Nat) (t : Tr (d + 2)) (i : Int) (x : Tr (d + 1)) : Tr (d + 2) × Bool :=
  match rowL (d + 1) t with
  | none => (zeroT (d + 1), false)
  | some xs =>
    if okT (d + 1) x = true ∧ -(xs.length : Int) ≤ i ∧ i < 60 then
      (toldT (d + 1) (rowT (d + 1) (setL xs (zeroT d) (if i < 0 then i + xs.length else i).toNat x)), okT (d + 2) (rowT (d + 1) (setL xs (zeroT d) (if i < 0 then i + xs.length else i).toNat x)))
    else (zeroT (d + 1), false)

theorem okT_partSet (d : Nat) (t : Tr (d + 2)) (i : Int) (x : Tr (d + 1)) : okT (d + 2) (partSetT d t i x).1 = true := by
  unfold partSetT
  split
  · exact okT_zero _
  · split
    · exact okT_told _ _
    · exact okT_zero _

/-- The trees of a row, wherever it lies. -/
theorem GTo.row {d N : Nat} {w : World} {sv : Value} {xs : List (Tr d)} {vs : List Value} (h : GTo N w sv xs vs) (hl : xs.length < 17592186044416) : Row1At (fun b => N ≤ b ∧ b < w.heap.size) w (TreeG (fun b => N ≤ b ∧ b < w.heap.size) w d) sv xs := by
  obtain ⟨h1, h2⟩ := h
  refine ⟨hl, ?_⟩
  have hlen := h1.1
  rw [Nat.mul_one] at hlen
  rcases h1.2 with ⟨rfl, h0⟩ | ⟨g, cap, cur, rfl, hg, hh, _, _, _, _⟩
  · exact ⟨none, 0, by rw [h0], Or.inl (List.eq_nil_of_length_eq_zero h0)⟩
  · refine ⟨some ⟨g, 0, none⟩, cap, rfl, Or.inr ⟨g, 0, ⟨by omega, (Array.getElem?_eq_some_iff.1 hh).1⟩, rfl, fun i x hx => ?_⟩⟩
    have hi := (List.getElem?_eq_some_iff.1 hx).1
    have hvi : vs[i]? = some vs[i] := List.getElem?_eq_getElem (by omega)
    have hc := h1.cells (g := g) rfl i _ hvi
    have hadd : (⟨g, 0, none⟩ : Addr).add i = ⟨g, 0 + i, none⟩ := by unfold Addr.add; split <;> simp_all
    rw [hadd] at hc
    exact ⟨vs[i], hc, (h2 i x _ hx hvi).mono (fun b hb => ⟨hb.1, hb.2.1⟩)⟩

/-- One tree more at the end of a row, which lies in no block. -/
theorem GTo.step {d N : Nat} {wr w2 : World} {sv sv' u : Value} {xs : List (Tr d)} {vs : List Value} {x : Tr d} {o : Obj} (h : GTo N wr sv xs vs) (hu : TreeG (fun _ => False) wr d x u) (hown : w2.ownsRow N 59 1 sv' (xs.length + 1) (vs ++ [u]))
    (hg : (wr.alloc o).grownBy w2 sv.ownBlock) (hw : sv'.ownBlock = sv.ownBlock ∨ sv'.ownBlock = some (wr.alloc o).heap.size) : GTo N w2 sv' (xs ++ [x]) (vs ++ [u]) := by
  obtain ⟨h1, h2⟩ := h
  have hlen : vs.length = xs.length := by have := h1.1; omega
  have hs3 := hg.size
  have hz : (wr.alloc o).heap.size = wr.heap.size + 1 := by simp
  rw [hz] at hs3 hw
  have hlast : ∀ b, b < wr.heap.size → some b ≠ sv.ownBlock → w2.heap[b]? = wr.heap[b]? := fun b hb1 hb2 =>
    (hg.block b (by omega) hb2).trans (Below.heap_alloc _ _ _ hb1)
  have hne : ∀ b, b < wr.heap.size → some b ≠ sv.ownBlock → some b ≠ sv'.ownBlock := fun b hb1 hb2 => by
    rcases hw with e | e
    · rw [e]; exact hb2
    · rw [e]; intro e2; cases e2; omega
  refine ⟨by rw [List.length_append]; exact hown, fun j y v hy hv => ?_⟩
  by_cases e : j < xs.length
  · rw [List.getElem?_append_left e] at hy
    rw [List.getElem?_append_left (by omega)] at hv
    refine TreeG.moved (fun b hB => hlast b hB.2.1 hB.2.2) (fun b hB => ⟨hB.1, by have := hB.2.1; omega, hne b hB.2.1 hB.2.2⟩) d y v (h2 j y v hy hv)
  · have hj : j = xs.length := by
      have := (List.getElem?_eq_some_iff.1 hy).1
      rw [List.length_append, List.length_singleton] at this
      omega
    subst hj
    rw [List.getElem?_append_right (Nat.le_refl _), Nat.sub_self] at hy
    rw [List.getElem?_append_right (by omega), hlen, Nat.sub_self] at hv
    cases hy
    cases hv
    exact TreeG.moved (fun b hB => hB.elim) (fun b hB => hB.elim) d x u hu

/-- Another tree at a place of a row. -/
theorem GTo.put {d N g n cap k : Nat} {w : World} {u : Value} {xs : List (Tr d)} {vs : List Value} {x : Tr d} {S : Nat → Prop} (h : GTo N w (.slice (some ⟨g, 0, none⟩) n cap) xs vs) (hn : n = xs.length) (hk : k < xs.length) (hu : TreeG S w d x u) (hS : ∀ b, S b → N ≤ b ∧ b < w.heap.size ∧ b ≠ g) :
    GTo N (w.setCell ⟨g, k, none⟩ u) (.slice (some ⟨g, 0, none⟩) n cap) (xs.set k x) (vs.set k u) ∧ Below N w (w.setCell ⟨g, k, none⟩ u) := by
  subst hn
  obtain ⟨h1, h2⟩ := h
  have hlen : vs.length = xs.length := by have := h1.1; omega
  obtain ⟨ho, hgr⟩ := h1.stored k u
  have hsame : ∀ b, b ≠ g → (w.setCell ⟨g, k, none⟩ u).heap[b]? = w.heap[b]? := fun b hb => Below.heap_setCell _ _ _ _ hb
  have hz : (w.setCell ⟨g, k, none⟩ u).heap.size = w.heap.size := size_setCell1 _ _ _
  have hgN := (h1.lt g rfl).1
  refine ⟨⟨by rw [List.length_set]; exact ho, fun j y v hy hv => ?_⟩, (Below.refl _ _).setCell hgN _⟩
  by_cases e : k = j
  · subst e
    rw [List.getElem?_set_self hk] at hy
    rw [List.getElem?_set_self (by omega)] at hv
    cases hy
    cases hv
    exact TreeG.moved (fun b hb => hsame b (hS b hb).2.2) (fun b hb => ⟨(hS b hb).1, by rw [hz]; exact (hS b hb).2.1, fun e => (hS b hb).2.2 (by cases e; rfl)⟩) d x u hu
  · rw [List.getElem?_set_ne e] at hy hv
    exact TreeG.moved (fun b hb => hsame b (fun e => hb.2.2 (by rw [e]; rfl))) (fun b hb => ⟨hb.1, by rw [hz]; exact hb.2.1, hb.2.2⟩) d y v (h2 j y v hy hv)
end Go.Proofs.YtlpembhdojdomaaGreatDoor
