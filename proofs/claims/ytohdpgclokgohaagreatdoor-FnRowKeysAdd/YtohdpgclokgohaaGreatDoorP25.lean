/- Texts of the proof, put together by program: WSetU. -/
import Derived.Test.YtohdpgclokgohaaGreatDoorP24
/- PartSet of the model. -/
namespace Go.Proofs.YtohdpgclokgohaaGreatDoor
open Go.RowKit Go.Deep

theorem rowL_eq {d : Nat} {t : Tr (d + 1)} (h : okT (d + 1) t = true) (hk : Nd.kind t = 0 ∨ Nd.kind t = 5) : rowL d t = some (Nd.list t) := by
  rw [rowL_ok h]
  rcases hk with h0 | h5
  · rw [if_pos h0]
    obtain ⟨hf, _⟩ := okT_form h
    obtain ⟨kind, num, str, keys, list⟩ := t
    have h0 : kind = 0 := h0
    subst h0
    cases hb : headBad 0 num str keys.length list.length 6 with
    | true => rw [formT_bad hb] at hf; cases hf
    | false =>
      obtain ⟨_, _, _, _, g4⟩ := headBad_iff.1 hb
      have := List.eq_nil_of_length_eq_zero (g4 (by omega))
      subst this
      rfl
  · rw [if_neg (by rw [h5]; decide), if_pos h5]
theorem partSet_badx {d : Nat} {t : Tr (d + 2)} {i : Int} {x : Tr (d + 1)} (hx : okT (d + 1) x = false) : partSetT d t i x = (zeroT (d + 1), false) := by
  cases h : rowL (d + 1) t with
  | none => exact partSet_none h
  | some xs => exact partSet_bad h hx
theorem partSet_kind {d : Nat} {t : Tr (d + 2)} {i : Int} {x : Tr (d + 1)} (h : okT (d + 2) t = true) (h0 : Nd.kind t ≠ 0) (h5 : Nd.kind t ≠ 5) : partSetT d t i x = (zeroT (d + 1), false) := partSet_none (by rw [rowL_ok h, if_neg h0, if_neg h5])
theorem partSet_far {d : Nat} {t : Tr (d + 2)} {i : Int} {x : Tr (d + 1)} (h : okT (d + 2) t = true) (hk : Nd.kind t = 0 ∨ Nd.kind t = 5) (hi : 60 ≤ i ∨ i < -((Nd.list t).length : Int)) : partSetT d t i x = (zeroT (d + 1), false) := by
  refine partSet_out (j := if i < 0 then i + ((Nd.list t).length : Int) else i) (rowL_eq h hk) rfl ?_
  have := (okT_kinds h).2.1
  split <;> omega

theorem nodes_set {d : Nat} {xs : List (Tr (d + 1))} {k : Nat} {x : Tr (d + 1)} (hxs : ∀ y ∈ xs, okT (d + 1) y = true) (hx : okT (d + 1) x = true) (hl : xs.length ≤ 60) (hk : k < 60) : (nodes (d + 2) (rowT (d + 1) (setL xs (zeroT d) k x)) : Int) ≤ 4194304 := by
  have h1 : ∀ y ∈ setL xs (zeroT d) k x, nodes (d + 1) y ≤ 300 := fun y hy => by
    rcases mem_setL hy with h | h | h
    · exact nodes_ok (hxs y h)
    · rw [h]; exact nodes_ok (okT_zero d)
    · rw [h]; exact nodes_ok hx
  have h2 := sum_le_of h1
  have h3 := setL_length xs (zeroT d) k x
  have h4 : nodes (d + 2) (rowT (d + 1) (setL xs (zeroT d) k x)) = 1 + ((setL xs (zeroT d) k x).map (nodes (d + 1))).sum := rfl
  rw [h4]
  omega

end Go.Proofs.YtohdpgclokgohaaGreatDoor
