/- What lies at the end of a way. -/
import Derived.Test.YtlpembhdojdomaaGreatDoorWUp
import Derived.Test.YtlpembhdojdomaaGreatDoorWGetP
import Derived.Test.YtlpembhdojdomaaGreatDoorWStepOk
namespace Go.Proofs.YtlpembhdojdomaaGreatDoor
open Go.RowKit Go.Deep

/-- One step into a tree. -/
def stepT (d : Nat) (t : Tr (d + 2)) (p : Stp) : Tr (d + 2) × Bool :=
  if p.map = true then (up (d + 1) (partGetT d t p.key).1, (partGetT d t p.key).2) else (up (d + 1) (partAtT d t p.place).1, (partAtT d t p.place).2)
theorem stepT_map {d : Nat} {t : Tr (d + 2)} {p : Stp} (h : p.map = true) : stepT d t p = (up (d + 1) (partGetT d t p.key).1, (partGetT d t p.key).2) := if_pos h
theorem stepT_place {d : Nat} {t : Tr (d + 2)} {p : Stp} (h : p.map = false) : stepT d t p = (up (d + 1) (partAtT d t p.place).1, (partAtT d t p.place).2) := if_neg (by rw [h]; simp)
/-- All steps of a way, one behind the other. -/
def alongT (d : Nat) : Tr (d + 2) → List Stp → Tr (d + 2) × Bool
  | t, [] => (t, true)
  | t, p :: r => if (stepT d t p).2 = true then alongT d (stepT d t p).1 r else (zeroT (d + 1), false)
def pathGetT (d : Nat) (t : Tr (d + 2)) (ps : List Stp) : Tr (d + 2) × Bool := if okT (d + 2) t = true ∧ pathOk ps = true then alongT d t ps else (zeroT (d + 1), false)

theorem okT_step (d : Nat) (t : Tr (d + 2)) (p : Stp) : okT (d + 2) (stepT d t p).1 = true := by
  unfold stepT
  split
  · rw [okT_lift]
    exact okT_partGet d t p.key
  · rw [okT_lift]
    exact okT_partAt d t p.place
theorem okT_along (d : Nat) : ∀ (ps : List Stp) (t : Tr (d + 2)), okT (d + 2) t = true → okT (d + 2) (alongT d t ps).1 = true
  | [], _, h => h
  | p :: r, t, _ => by
    rw [alongT]
    split
    · exact okT_along d r _ (okT_step d t p)
    · exact okT_zero (d + 1)
theorem okT_pathGet (d : Nat) (t : Tr (d + 2)) (ps : List Stp) : okT (d + 2) (pathGetT d t ps).1 = true := by
  unfold pathGetT
  split
  · rename_i h
    exact okT_along d ps t h.1
  · exact okT_zero (d + 1)
theorem alongT_on {d : Nat} {t : Tr (d + 2)} {ps : List Stp} {k : Nat} {p : Stp} (hp : ps[k]? = some p) (h : (stepT d t p).2 = true) : alongT d t (ps.drop k) = alongT d (stepT d t p).1 (ps.drop (k + 1)) := by
  obtain ⟨hk, e⟩ := List.getElem?_eq_some_iff.1 hp
  rw [List.drop_eq_getElem_cons hk, e, alongT, if_pos h]
theorem alongT_off {d : Nat} {t : Tr (d + 2)} {ps : List Stp} {k : Nat} {p : Stp} (hp : ps[k]? = some p) (h : (stepT d t p).2 = false) : alongT d t (ps.drop k) = (zeroT (d + 1), false) := by
  obtain ⟨hk, e⟩ := List.getElem?_eq_some_iff.1 hp
  rw [List.drop_eq_getElem_cons hk, e, alongT, if_neg (by rw [h]; simp)]
theorem alongT_end {d : Nat} {t : Tr (d + 2)} {ps : List Stp} : alongT d t (ps.drop ps.length) = (t, true) := by
  rw [List.drop_eq_nil_of_le (Nat.le_refl _), alongT]
theorem stpOk_of {ps : List Stp} {p : Stp} {k : Nat} (h : pathOk ps = true) (hp : ps[k]? = some p) : stpOk p = true := by
  unfold pathOk at h
  rw [Bool.and_eq_true] at h
  exact List.all_eq_true.1 h.1 p (List.mem_of_getElem? hp)
theorem strOk_of {p : Stp} (h : stpOk p = true) (hm : p.map = true) : strOk p.key = true := by
  rw [stpOk_map hm, Bool.and_eq_true] at h
  exact h.1
/-- What is told when a step can not be done is nothing. -/
theorem step_off {d : Nat} {t : Tr (d + 2)} {p : Stp} (h : (stepT d t p).2 = false) : (stepT d t p).1 = zeroT (d + 1) := by
  unfold stepT at h ⊢
  split at h
  · rename_i hm
    rw [if_pos hm]
    have h : (partGetT d t p.key).2 = false := h
    show up (d + 1) (partGetT d t p.key).1 = _
    unfold partGetT at h ⊢
    split at h
    · rename_i h1
      rw [if_pos h1]
      split at h
      · cases h
      rename_i h2
      rw [if_neg h2]
      split at h
      · cases h
      rename_i h3
      rw [if_neg h3]
      rfl
    · rename_i h1
      rw [if_neg h1]
      rfl
  · rename_i hm
    rw [if_neg hm]
    have h : (partAtT d t p.place).2 = false := h
    show up (d + 1) (partAtT d t p.place).1 = _
    unfold partAtT at h ⊢
    split at h
    · rename_i h1
      rw [if_pos h1]
      split at h
      · cases h
      rename_i h2
      rw [if_neg h2]
      split at h
      · cases h
      rename_i h3
      rw [if_neg h3]
      rfl
    · rename_i h1
      rw [if_neg h1]
      rfl
end Go.Proofs.YtlpembhdojdomaaGreatDoor
