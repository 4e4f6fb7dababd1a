/- How many marks a tree takes: bounds. -/
import Derived.Test.YtbcafaomfaainaaGreatDoorWLenA
import Derived.Test.YtbcafaomfaainaaGreatDoorWMarkP
namespace Go.Proofs.YtbcafaomfaainaaGreatDoor

theorem szStrs_cnt (ss : List ByteArray) (left : Int) (h : 0 ≤ szStrs ss left) : (ss.length : Int) ≤ left - szStrs ss left := by
  rw [szStrs] at h ⊢
  split at h
  · omega
  rename_i n1
  rw [if_neg n1]
  have := szStrsGo_le ss (left - ss.length) (by omega)
  omega
theorem szLGo_wt {d : Nat} (ih : ∀ (t : Tr d) (left : Int), 0 ≤ left → 0 ≤ szT d t left → (wtT d t : Int) ≤ 3 + 3 * (left - szT d t left)) :
    ∀ (xs : List (Tr d)) (left : Int), 0 ≤ left → 0 ≤ szLGo (szT d) xs left → (((xs.map (wtT d)).sum : Nat) : Int) ≤ 3 * xs.length + 3 * (left - szLGo (szT d) xs left)
  | [], left, h0, h => by simp [szLGo]
  | x :: r, left, h0, h => by
    rw [szLGo] at h ⊢
    split at h
    · omega
    rename_i n1
    rw [if_neg n1]
    have h1 := ih x left h0 (by omega)
    have h2 := szLGo_wt ih r (szT d x left) (by omega) h
    simp only [List.map_cons, List.sum_cons, List.length_cons]
    omega
theorem szT_wt : ∀ (d : Nat) (t : Tr d) (left : Int), 0 ≤ left → 0 ≤ szT d t left → (wtT d t : Int) ≤ 3 + 3 * (left - szT d t left)
  | 0, _, left, h0, h => by simp [szT] at h
  | d + 1, t, left, h0, h => by
    rw [szT] at h ⊢
    split at h
    · omega
    rename_i n1
    split at h
    · omega
    rename_i n2
    split at h
    · omega
    rename_i n3
    rw [if_neg n1, if_neg n2, if_neg n3]
    have e1 := szStrs_cnt (Nd.keys t) (left - (Nd.str t).size) (by omega)
    rw [wtT]
    generalize szStrs (Nd.keys t) (left - (Nd.str t).size) = l2 at *
    rw [szL] at n3 ⊢
    split at n3
    · omega
    rename_i n4
    rw [if_neg n4]
    have e2 := szLGo_wt (szT_wt d) (Nd.list t) (l2 - (Nd.list t).length) (by omega) (by omega)
    omega

theorem wt_sum {d : Nat} {deep : Int} (ih : ∀ (t : Tr d), formT d t deep = true → wtT d t + 2 ≤ 5 * manyT d t deep) : ∀ (xs : List (Tr d)), xs.all (fun x => formT d x deep) = true → (xs.map (wtT d)).sum + 2 * xs.length ≤ 5 * (xs.map (fun x => manyT d x deep)).sum
  | [], _ => by simp
  | x :: r, h => by
    simp only [List.all_cons, Bool.and_eq_true] at h
    have h1 := ih x h.1
    have h2 := wt_sum ih r h.2
    simp only [List.map_cons, List.sum_cons, List.length_cons]
    omega
theorem wtT_form : ∀ (d : Nat) (t : Tr d) (deep : Int), formT d t deep = true → wtT d t + 2 ≤ 5 * manyT d t deep
  | 0, _, _, h => by simp [formT] at h
  | d + 1, t, deep, hf => by
    obtain ⟨kind, num, str, keys, list⟩ := t
    cases hb : headBad kind num str keys.length list.length deep with
    | true => rw [formT_bad hb] at hf; cases hf
    | false =>
    rw [formT_good hb] at hf
    obtain ⟨g0, g1, g2, g3, g4⟩ := headBad_iff.1 hb
    have hmany : manyT (d + 1) (Nd.mk kind num str keys list) deep = 1 + (if 0 < deep then (list.map (fun x => manyT d x (deep - 1))).sum else 0) := rfl
    have hwt : wtT (d + 1) (Nd.mk kind num str keys list) = 3 + keys.length + (list.map (wtT d)).sum := rfl
    rw [hmany, if_pos (by omega), hwt]
    by_cases k5 : kind < 5
    · obtain rfl := List.eq_nil_of_length_eq_zero (g4 k5)
      have := g3 (by omega)
      simp
      omega
    rw [if_neg (by omega), if_neg (by omega), if_neg (by omega)] at hf
    by_cases k6 : kind = 6
    · rw [if_pos k6] at hf
      simp only [Bool.and_eq_true] at hf
      have hl := beq_iff_eq.1 hf.1.1
      have := wt_sum (deep := deep - 1) (fun t h => wtT_form d t (deep - 1) h) list hf.2
      omega
    rw [if_neg k6] at hf
    by_cases k5' : kind = 5
    · rw [if_pos k5'] at hf
      have := g3 (by omega)
      have := wt_sum (deep := deep - 1) (fun t h => wtT_form d t (deep - 1) h) list hf
      omega
    · rw [if_neg k5'] at hf
      cases hf
theorem wtT_ok {d : Nat} {t : Tr d} (h : okT d t = true) : wtT d t ≤ 300 := by
  obtain ⟨h1, h2⟩ := okT_form h
  have := wtT_form d t 6 h1
  omega
theorem okT_zero (d : Nat) : okT (d + 1) (zeroT d) = true := by
  have hb : headBad 0 0 ByteArray.empty ([] : List ByteArray).length ([] : List (Tr d)).length 6 = false := headBad_iff.2 ⟨by omega, fun _ => rfl, fun _ => empty_toList, fun _ => rfl, fun _ => rfl⟩
  have h1 : formT (d + 1) (zeroT d) 6 = true := by
    show formT (d + 1) (Nd.mk 0 0 ByteArray.empty [] [] : Nd (Tr d)) 6 = true
    rw [formT_good hb]
    simp
  have h2 : manyT (d + 1) (zeroT d) 6 = 1 := rfl
  simp only [okT, h1, h2]
  rfl
theorem okT_told (d : Nat) (t : Tr (d + 1)) : okT (d + 1) (toldT d t) = true := by
  unfold toldT
  split
  · assumption
  · exact okT_zero d
end Go.Proofs.YtbcafaomfaainaaGreatDoor
