/- Parts of trees that are ok; what lies at a place. -/
import Derived.Test.YtbcafaomfaainaaGreatDoorWLenB
import Derived.Test.YtbcafaomfaainaaGreatDoorWWt
namespace Go.Proofs.YtbcafaomfaainaaGreatDoor
open Go.RowKit Go.Deep

theorem sum_map_eq {α : Type} {f g : α → Nat} : ∀ (xs : List α), (∀ x ∈ xs, f x = g x) → (xs.map f).sum = (xs.map g).sum
  | [], _ => rfl
  | x :: r, h => by
    simp only [List.map_cons, List.sum_cons]
    rw [h x (by simp), sum_map_eq r (fun y hy => h y (by simp [hy]))]

theorem formT_up : ∀ (d : Nat) (t : Tr d) (deep : Int), formT d t deep = true → formT d t (deep + 1) = true ∧ manyT d t (deep + 1) = manyT d t deep
  | 0, _, _, h => by cases h
  | d + 1, t, deep, hf => by
    obtain ⟨kind, num, str, keys, list⟩ := t
    cases hb : headBad kind num str keys.length list.length deep with
    | true => rw [formT_bad hb] at hf; cases hf
    | false =>
      obtain ⟨g0, g1, g2, g3, g4⟩ := headBad_iff.1 hb
      have hb' : headBad kind num str keys.length list.length (deep + 1) = false := headBad_iff.2 ⟨by omega, g1, g2, g3, g4⟩
      rw [formT_good hb] at hf
      rw [formT_good hb']
      have hm : ∀ e : Int, 0 < e → manyT (d + 1) (Nd.mk kind num str keys list : Nd (Tr d)) e = 1 + (list.map (fun x => manyT d x (e - 1))).sum := fun e he => by
        show 1 + (if 0 < e then _ else 0) = _
        rw [if_pos he]
      rw [hm _ (by omega), hm _ (by omega)]
      have hall : ∀ x ∈ list, formT d x (deep - 1) = true := by
        intro x hx
        by_cases k5 : kind < 5
        · have := g4 k5
          rw [List.length_eq_zero_iff] at this
          rw [this] at hx
          cases hx
        rw [if_neg (by omega), if_neg (by omega), if_neg (by omega)] at hf
        by_cases k6 : kind = 6
        · rw [if_pos k6] at hf
          simp only [Bool.and_eq_true] at hf
          exact List.all_eq_true.1 hf.2 x hx
        rw [if_neg k6] at hf
        by_cases k5' : kind = 5
        · rw [if_pos k5'] at hf
          exact List.all_eq_true.1 hf x hx
        · rw [if_neg k5'] at hf
          cases hf
      have hup : ∀ x ∈ list, formT d x (deep + 1 - 1) = true ∧ manyT d x (deep + 1 - 1) = manyT d x (deep - 1) := fun x hx => by
        have h1 := formT_up d x (deep - 1) (hall x hx)
        rw [show deep - 1 + 1 = deep + 1 - 1 by omega] at h1
        exact h1
      have ha : list.all (fun x => formT d x (deep + 1 - 1)) = list.all (fun x => formT d x (deep - 1)) := by
        rw [List.all_eq_true.2 (fun x hx => (hup x hx).1), List.all_eq_true.2 hall]
      rw [ha]
      exact ⟨hf, by rw [sum_map_eq list (fun x hx => (hup x hx).2)]⟩

theorem okT_part {d : Nat} {t : Tr (d + 1)} {x : Tr d} (h : okT (d + 1) t = true) (hx : x ∈ Nd.list t) : okT d x = true := by
  obtain ⟨hf, hm⟩ := okT_form h
  obtain ⟨kind, num, str, keys, list⟩ := t
  have hx : x ∈ list := hx
  have hmm : manyT (d + 1) (Nd.mk kind num str keys list : Nd (Tr d)) 6 = 1 + (list.map (fun x => manyT d x (6 - 1))).sum := rfl
  rw [hmm] at hm
  have h1 := many_mem (d := d) (deep := 6 - 1) hx
  have hfx : formT d x (6 - 1) = true := by
    cases hb : headBad kind num str keys.length list.length 6 with
    | true => rw [formT_bad hb] at hf; cases hf
    | false =>
      obtain ⟨g0, g1, g2, g3, g4⟩ := headBad_iff.1 hb
      rw [formT_good hb] at hf
      by_cases k5 : kind < 5
      · have := g4 k5
        rw [List.length_eq_zero_iff] at this
        rw [this] at hx
        cases hx
      rw [if_neg (by omega), if_neg (by omega), if_neg (by omega)] at hf
      by_cases k6 : kind = 6
      · rw [if_pos k6] at hf
        simp only [Bool.and_eq_true] at hf
        exact List.all_eq_true.1 hf.2 x hx
      rw [if_neg k6] at hf
      by_cases k5' : kind = 5
      · rw [if_pos k5'] at hf
        exact List.all_eq_true.1 hf x hx
      · rw [if_neg k5'] at hf
        cases hf
  have h2 := formT_up d x (6 - 1) hfx
  have h3 : formT d x 6 = true := h2.1
  have h4 : manyT d x 6 = manyT d x (6 - 1) := h2.2
  have h5 : manyT d x 6 ≤ 60 := by rw [h4]; omega
  unfold okT
  rw [h3]
  simpa using h5

theorem str_empty {s : ByteArray} (h : s.toList = []) : s = ByteArray.empty := by
  rw [ByteArray.toList_eq] at h
  cases s with
  | mk a =>
    cases a with
    | mk l =>
      have h : l = [] := h
      rw [h]
      rfl
/-- What is nothing, is nothing at one depth less. -/
theorem valAt_zero {d : Nat} {S : Nat → Prop} {w : World} {t : Tr (d + 2)} {v : Value} (h : okT (d + 2) t = true) (h0 : Nd.kind t = 0) (hv : ValAt S w (d + 2) t v) : ValAt S w (d + 1) (zeroT d) v := by
  obtain ⟨hf, _⟩ := okT_form h
  obtain ⟨kind, num, str, keys, list⟩ := t
  have h0 : kind = 0 := h0
  subst h0
  cases hb : headBad 0 num str keys.length list.length 6 with
  | true => rw [formT_bad hb] at hf; cases hf
  | false =>
    obtain ⟨_, g1, g2, g3, g4⟩ := headBad_iff.1 hb
    obtain rfl := g1 (by omega)
    have hs : str = ByteArray.empty := str_empty (g2 (by omega))
    subst hs
    have hk := g3 (by omega)
    have hl := g4 (by omega)
    rw [List.length_eq_zero_iff] at hk hl
    subst hk hl
    obtain ⟨vk, vl, rfl, i1, i2, i3, hk, hl⟩ := hv
    exact ⟨vk, vl, rfl, i1, i2, i3, hk, by
      obtain ⟨a, ⟨p, c, e, q⟩⟩ := hl
      exact ⟨by show (0 : Nat) < 3518437208883; omega, p, c, e, Or.inl rfl⟩⟩

/-- What lies at a place, from the end if it is below 0. -/
def placeI (i : Int) (n : Nat) : Int := if i < -(n : Int) ∨ (n : Int) ≤ i then -1 else if i < 0 then i + n else i
def placeL {α : Type} (xs : List α) (i : Int) : Option α := if placeI i xs.length < 0 then none else xs[(placeI i xs.length).toNat]?
def partAtT (d : Nat) (t : Tr (d + 2)) (i : Int) : Tr (d + 1) × Bool :=
  if okT (d + 2) t = true then (if Nd.kind t = 0 then (zeroT d, true) else if Nd.kind t = 5 then ((placeL (Nd.list t) i).getD (zeroT d), true) else (zeroT d, false)) else (zeroT d, false)
theorem placeL_mem {α : Type} {xs : List α} {i : Int} {x : α} (h : placeL xs i = some x) : x ∈ xs := by
  unfold placeL at h
  split at h
  · cases h
  · exact List.mem_of_getElem? h
theorem okT_partAt (d : Nat) (t : Tr (d + 2)) (i : Int) : okT (d + 1) (partAtT d t i).1 = true := by
  unfold partAtT
  split
  · rename_i h
    split
    · exact okT_zero d
    split
    · cases hp : placeL (Nd.list t) i with
      | none => exact okT_zero d
      | some x => exact okT_part h (placeL_mem hp)
    · exact okT_zero d
  · exact okT_zero d
theorem placeI_range (i : Int) (n : Nat) : placeI i n = -1 ∨ (0 ≤ placeI i n ∧ placeI i n < n) := by
  unfold placeI
  split
  · exact Or.inl rfl
  · split <;> exact Or.inr (by omega)
theorem wt_part {d : Nat} {t : Tr (d + 1)} {x : Tr d} (hx : x ∈ Nd.list t) (h : okT (d + 1) t = true) : (wtT d x : Int) ≤ 4194304 := by
  have := wtT_ok (okT_part h hx)
  omega

/-- A tree that lies in memory, as one that may be one deeper. -/
theorem deepen {S : Nat → Prop} {w : World} {v : Value} : ∀ {N : Nat} {t : Tr N}, ValAt S w N t v → ∃ (d : Nat) (t' : Tr (d + 2)), ValAt S w (d + 2) t' v
  | 0, _, h => h.elim
  | 1, t, h => by
    obtain ⟨vk, vl, rfl, i1, i2, i3, hk, hl⟩ := h
    refine ⟨0, (Nd.mk (Nd.kind t) (Nd.num t) (Nd.str t) (Nd.keys t) [] : Nd (Tr 1)), vk, vl, rfl, i1, i2, i3, hk, ?_⟩
    obtain ⟨h1, a, cap, rfl, h2⟩ := hl
    have h0 : (Nd.list t).length = 0 := by
      cases hL : Nd.list t with
      | nil => rfl
      | cons x r => exact Empty.elim x
    exact ⟨by show (0 : Nat) < 3518437208883; omega, a, cap, by show _ = Value.slice a 0 cap; rw [h0], Or.inl rfl⟩
  | d + 2, t, h => ⟨d, t, h⟩
end Go.Proofs.YtbcafaomfaainaaGreatDoor
