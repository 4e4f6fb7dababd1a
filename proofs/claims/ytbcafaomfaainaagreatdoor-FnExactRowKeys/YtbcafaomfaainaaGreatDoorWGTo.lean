/- A row of the program's own trees that owns its memory. -/
import Derived.Test.YtbcafaomfaainaaGreatDoorWTop
import Derived.Test.YtbcafaomfaainaaGreatDoorWPartP
namespace Go.Proofs.YtbcafaomfaainaaGreatDoor
open Go.RowKit Go.Deep

/-- A row as a tree. -/
def rowT (d : Nat) (xs : List (Tr d)) : Tr (d + 1) := (Nd.mk 5 0 ByteArray.empty [] xs : Nd (Tr d))
/-- A row of the program's own trees that owns its memory: its trees lie in blocks from N on, not in the row's own. -/
def GTo {d : Nat} (N : Nat) (w : World) (sv : Value) (xs : List (Tr d)) (vs : List Value) : Prop :=
  w.ownsRow N 55 1 sv xs.length vs ∧ ∀ (j : Nat) (x : Tr d) (u : Value), xs[j]? = some x → vs[j]? = some u → TreeG (Aside N w sv) w d x u

theorem gto_nil {d : Nat} (N : Nat) (w : World) : GTo (d := d) N w (.slice none 0 0) [] [] := ⟨World.ownsRow_nil _ _ _ _, fun j x u h => by simp at h⟩
theorem gto_of {d N : Nat} {w : World} {sv : Value} {xs : List (Tr d)} {vs : List Value} (h : TreesTo N w sv xs xs.length vs) (hf : ∀ x ∈ xs, formT d x 5 = true ∧ manyT d x 5 ≤ 60) : GTo N w sv xs vs :=
  ⟨h.1, fun j x u hx hu => treeG_of d x 5 u (hf x (List.mem_of_getElem? hx)).1 (hf x (List.mem_of_getElem? hx)).2 (h.2 j x u (List.getElem?_eq_some_iff.1 hx).1 hx hu)⟩
theorem okT_row {d : Nat} {xs : List (Tr d)} (h : okT (d + 1) (Nd.mk 5 0 ByteArray.empty [] xs : Nd (Tr d)) = true) : ∀ x ∈ xs, formT d x 5 = true ∧ manyT d x 5 ≤ 60 := by
  obtain ⟨hf, hm⟩ := okT_form h
  have hmm : manyT (d + 1) (Nd.mk 5 0 ByteArray.empty [] xs : Nd (Tr d)) 6 = 1 + (xs.map (fun x => manyT d x (6 - 1))).sum := rfl
  rw [hmm] at hm
  cases hb : headBad 5 0 ByteArray.empty ([] : List ByteArray).length xs.length 6 with
  | true => rw [formT_bad hb] at hf; cases hf
  | false =>
    rw [formT_good hb] at hf
    have hall : xs.all (fun x => formT d x (6 - 1)) = true := by simpa using hf
    intro x hx
    have h1 := many_mem (d := d) (deep := 6 - 1) hx
    exact ⟨List.all_eq_true.1 hall x hx, by have h2 : manyT d x 5 = manyT d x (6 - 1) := rfl; omega⟩

/-- The trees of a row, wherever it lies. -/
theorem GTo.row {d N : Nat} {w : World} {sv : Value} {xs : List (Tr d)} {vs : List Value} (h : GTo N w sv xs vs) (hl : xs.length < 17592186044416) : Row1At (fun b => N ≤ b ∧ b < w.heap.size) w (TreeG (fun b => N ≤ b ∧ b < w.heap.size) w d) sv xs := by
  obtain ⟨h1, h2⟩ := h
  refine ⟨hl, ?_⟩
  have hlen := h1.1
  rw [Nat.mul_one] at hlen
  rcases h1.2 with ⟨rfl, h0⟩ | ⟨g, cap, cur, rfl, hg, hh, _, _, _, _⟩
  · exact ⟨none, 0, by rw [h0], Or.inl (List.eq_nil_of_length_eq_zero h0)⟩
  · refine ⟨some ⟨g, 0, none⟩, cap, rfl, Or.inr ⟨g, 0, ⟨by omega, (Array.getElem?_eq_some_iff.1 hh).1⟩, rfl, fun i x hx => ?_⟩⟩
    have hi := (List.getElem?_eq_some_iff.1 hx).1
    have hvi : vs[i]? = some vs[i] := List.getElem?_eq_getElem (by omega)
    have hc := h1.cells (g := g) rfl i _ hvi
    have hadd : (⟨g, 0, none⟩ : Addr).add i = ⟨g, 0 + i, none⟩ := by unfold Addr.add; split <;> simp_all
    rw [hadd] at hc
    exact ⟨vs[i], hc, (h2 i x _ hx hvi).mono (fun b hb => ⟨hb.1, hb.2.1⟩)⟩

end Go.Proofs.YtbcafaomfaainaaGreatDoor
