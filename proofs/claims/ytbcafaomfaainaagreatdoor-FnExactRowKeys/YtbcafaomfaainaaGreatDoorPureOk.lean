/- The program's look at a tree is the model's: plain lists and numbers. -/
import Derived.Test.YtbcafaomfaainaaGreatDoorWImplC
namespace Go.Proofs.YtbcafaomfaainaaGreatDoor

theorem treesP_ok {α : Type} {f : α → Int → Bool × Int} {F : α → Bool} {M : α → Nat} (ha : ∀ x l, 0 ≤ l → F x = true → (M x : Int) ≤ l → f x l = (true, l - M x)) :
    ∀ (xs : List α) (l : Int), 0 ≤ l → xs.all F = true → (((xs.map M).sum : Nat) : Int) ≤ l → treesP f xs l = (true, l - ((xs.map M).sum : Nat))
  | [], l, _, _, _ => by simp [treesP]
  | x :: r, l, h0, hF, hM => by
    simp only [List.all_cons, Bool.and_eq_true] at hF
    simp only [List.map_cons, List.sum_cons] at hM ⊢
    rw [treesP, ha x l h0 hF.1 (by omega)]
    simp only [if_true]
    rw [treesP_ok ha r (l - M x) (by omega) hF.2 (by omega)]
    congr 1
    omega
theorem treesP_no {α : Type} {f : α → Int → Bool × Int} {F : α → Bool} {M : α → Nat} (ha : ∀ x l, 0 ≤ l → F x = true → (M x : Int) ≤ l → f x l = (true, l - M x))
    (hb : ∀ x l, 0 ≤ l → ¬ (F x = true ∧ (M x : Int) ≤ l) → (f x l).1 = false) :
    ∀ (xs : List α) (l : Int), 0 ≤ l → ¬ (xs.all F = true ∧ (((xs.map M).sum : Nat) : Int) ≤ l) → (treesP f xs l).1 = false
  | [], l, h0, h => absurd ⟨rfl, by simpa using h0⟩ h
  | x :: r, l, h0, h => by
    rw [treesP]
    by_cases hx : F x = true ∧ (M x : Int) ≤ l
    · rw [ha x l h0 hx.1 hx.2]
      simp only [if_true]
      refine treesP_no ha hb r (l - M x) (by omega) (fun hr => h ⟨?_, ?_⟩)
      · simp [hx.1, hr.1]
      · simp only [List.map_cons, List.sum_cons]
        omega
    · rw [hb x l h0 hx]
      rfl

theorem bareB_iff {num : Int} {str : ByteArray} {nk nl : Nat} : bareB num str nk nl = true ↔ num = 0 ∧ str.toList = [] ∧ nk = 0 ∧ nl = 0 := by
  simp [bareB, and_assoc]
theorem headBad_iff {kind num : Int} {str : ByteArray} {nk nl : Nat} {deep : Int} : headBad kind num str nk nl deep = false ↔
    ¬ deep < 1 ∧ (kind ≠ 3 → num = 0) ∧ (kind ≠ 4 → str.toList = []) ∧ (kind ≠ 6 → nk = 0) ∧ (kind < 5 → nl = 0) := by
  constructor
  · exact head_good
  · rintro ⟨a, b, c, e, f⟩
    cases h : headBad kind num str nk nl deep with
    | false => rfl
    | true =>
      simp only [headBad, Bool.or_eq_true, Bool.and_eq_true, decide_eq_true_eq, bne_iff_ne, ne_eq, Bool.not_eq_true', beq_eq_false_iff_ne] at h
      rcases h with (((h | h) | h) | h) | h
      · exact absurd h a
      · exact absurd (b h.1) h.2
      · exact absurd (c h.1) h.2
      · have := e h.1; omega
      · have := f h.1; omega
theorem empty_toList : ByteArray.empty.toList = [] := by simp [ByteArray.toList_eq]

/-- The one case of a part that a row or a map is not. -/
theorem treeP_node : ∀ (d : Nat) (t : Tr d) (l deep : Int), 0 ≤ l → 0 ≤ deep →
    (formT d t (7 - deep) = true → (manyT d t (7 - deep) : Int) ≤ l → treeP d t l deep = (true, l - (manyT d t (7 - deep) : Nat))) ∧
    (¬ (formT d t (7 - deep) = true ∧ (manyT d t (7 - deep) : Int) ≤ l) → (treeP d t l deep).1 = false)
  | 0, _, l, deep, _, _ => ⟨fun h => by simp [formT] at h, fun _ => rfl⟩
  | d + 1, t, l, deep, h0, hd => by
    obtain ⟨kind, num, str, keys, list⟩ := t
    have ih := treeP_node d
    have iha : ∀ (x : Tr d) (l : Int), 0 ≤ l → formT d x (7 - deep - 1) = true → (manyT d x (7 - deep - 1) : Int) ≤ l → treeP d x l (deep + 1) = (true, l - (manyT d x (7 - deep - 1) : Nat)) := fun x l hl => by
      have := (ih x l (deep + 1) hl (by omega)).1
      rwa [show 7 - (deep + 1) = 7 - deep - 1 by omega] at this
    have ihb : ∀ (x : Tr d) (l : Int), 0 ≤ l → ¬ (formT d x (7 - deep - 1) = true ∧ (manyT d x (7 - deep - 1) : Int) ≤ l) → (treeP d x l (deep + 1)).1 = false := fun x l hl => by
      have := (ih x l (deep + 1) hl (by omega)).2
      rwa [show 7 - (deep + 1) = 7 - deep - 1 by omega] at this
    have hform : formT (d + 1) (Nd.mk kind num str keys list) (7 - deep) = (!headBad kind num str keys.length list.length (7 - deep) &&
      (if kind = 0 ∨ kind = 1 ∨ kind = 2 then true else if kind = 3 then decide (-1000000 ≤ num ∧ num ≤ 1000000) else if kind = 4 then strOk str
       else if kind = 6 then keys.length == list.length && keysB keys && list.all (fun x => formT d x (7 - deep - 1)) else if kind = 5 then list.all (fun x => formT d x (7 - deep - 1)) else false)) := rfl
    have hmany : manyT (d + 1) (Nd.mk kind num str keys list) (7 - deep) = 1 + (if 0 < 7 - deep then (list.map (fun x => manyT d x (7 - deep - 1))).sum else 0) := rfl
    have htree : treeP (d + 1) (Nd.mk kind num str keys list) l deep = if takeB l deep = false then (false, l)
      else if kind = 0 ∨ kind = 1 ∨ kind = 2 then (bareB num str keys.length list.length, l - 1)
      else if kind = 3 then (decide (-1000000 ≤ num ∧ num ≤ 1000000) && bareB 0 str keys.length list.length, l - 1)
      else if kind = 4 then (strOk str && bareB num ByteArray.empty keys.length list.length, l - 1)
      else if kind = 5 then ((treesP (fun x l => treeP d x l (deep + 1)) list (l - 1)).1 && bareB num str keys.length 0, (treesP (fun x l => treeP d x l (deep + 1)) list (l - 1)).2)
      else if kind = 6 then ((treesP (fun x l => treeP d x l (deep + 1)) list (l - 1)).1 && (keys.length == list.length) && keysB keys && bareB num str 0 0, (treesP (fun x l => treeP d x l (deep + 1)) list (l - 1)).2)
      else (false, l - 1) := rfl
    rw [hform, hmany, htree]
    clear hform hmany htree
    cases hb : takeB l deep with
    | false =>
      rw [if_pos rfl]
      refine ⟨fun h1 h2 => ?_, fun _ => rfl⟩
      simp only [takeB, decide_eq_false_iff_not] at hb
      simp only [Bool.and_eq_true, Bool.not_eq_true'] at h1
      have h3 := (headBad_iff.1 h1.1).1
      omega
    | true =>
    rw [if_neg (show ¬ (true = false) by simp)]
    simp only [takeB, decide_eq_true_eq] at hb
    have hl1 : 0 ≤ l - 1 := by omega
    rw [if_pos (show 0 < 7 - deep by omega)]
    have hhb : headBad kind num str keys.length list.length (7 - deep) = false ↔ (kind ≠ 3 → num = 0) ∧ (kind ≠ 4 → str.toList = []) ∧ (kind ≠ 6 → keys.length = 0) ∧ (kind < 5 → list.length = 0) := by
      rw [headBad_iff]
      exact ⟨fun h => h.2, fun h => ⟨by omega, h⟩⟩
    -- a part without parts
    have leaf : ∀ (X B : Bool), kind < 5 → (X = true → B = true → list.length = 0) → (X = true ∧ B = true ↔ headBad kind num str keys.length list.length (7 - deep) = false ∧ X = true) →
        (((!headBad kind num str keys.length list.length (7 - deep)) && X) = true → ((1 + (list.map (fun x => manyT d x (7 - deep - 1))).sum : Nat) : Int) ≤ l → ((X && B, l - 1) : Bool × Int) = (true, l - ((1 + (list.map (fun x => manyT d x (7 - deep - 1))).sum : Nat) : Int))) ∧
        (¬ (((!headBad kind num str keys.length list.length (7 - deep)) && X) = true ∧ ((1 + (list.map (fun x => manyT d x (7 - deep - 1))).sum : Nat) : Int) ≤ l) → ((X && B, l - 1) : Bool × Int).1 = false) := by
      intro X B hk hz hiff
      refine ⟨fun h1 h2 => ?_, fun h => ?_⟩
      · simp only [Bool.and_eq_true, Bool.not_eq_true'] at h1
        have h3 := hiff.2 h1
        have h4 := hz h3.1 h3.2
        obtain rfl : list = [] := List.eq_nil_of_length_eq_zero h4
        rw [h3.1, h3.2]
        simp
      · cases hXB : (X && B) with
        | false => rfl
        | true =>
          simp only [Bool.and_eq_true] at hXB
          have h4 := hz hXB.1 hXB.2
          obtain rfl : list = [] := List.eq_nil_of_length_eq_zero h4
          refine absurd ⟨?_, ?_⟩ h
          · have := hiff.1 hXB
            rw [this.1, this.2]
            rfl
          · simp
            omega
    by_cases k0 : kind = 0 ∨ kind = 1 ∨ kind = 2
    · rw [if_pos k0, if_pos k0]
      have := leaf true (bareB num str keys.length list.length) (by omega) (fun _ h => (bareB_iff.1 h).2.2.2) (by
        rw [hhb, bareB_iff]
        constructor
        · rintro ⟨_, a, b, c, e⟩; exact ⟨⟨fun _ => a, fun _ => b, fun _ => c, fun _ => e⟩, rfl⟩
        · rintro ⟨⟨a, b, c, e⟩, _⟩; exact ⟨rfl, a (by omega), b (by omega), c (by omega), e (by omega)⟩)
      simpa using this
    rw [if_neg k0, if_neg k0]
    by_cases k3 : kind = 3
    · rw [if_pos k3, if_pos k3]
      exact leaf _ (bareB 0 str keys.length list.length) (by omega) (fun _ h => (bareB_iff.1 h).2.2.2) (by
        rw [hhb, bareB_iff]
        constructor
        · rintro ⟨X, _, b, c, e⟩; exact ⟨⟨fun h => absurd k3 h, fun _ => b, fun _ => c, fun _ => e⟩, X⟩
        · rintro ⟨⟨a, b, c, e⟩, X⟩; exact ⟨X, rfl, b (by omega), c (by omega), e (by omega)⟩)
    rw [if_neg k3, if_neg k3]
    by_cases k4 : kind = 4
    · rw [if_pos k4, if_pos k4]
      exact leaf _ (bareB num ByteArray.empty keys.length list.length) (by omega) (fun _ h => (bareB_iff.1 h).2.2.2) (by
        rw [hhb, bareB_iff]
        constructor
        · rintro ⟨X, a, _, c, e⟩; exact ⟨⟨fun _ => a, fun h => absurd k4 h, fun _ => c, fun _ => e⟩, X⟩
        · rintro ⟨⟨a, b, c, e⟩, X⟩; exact ⟨X, a (by omega), empty_toList, c (by omega), e (by omega)⟩)
    rw [if_neg k4, if_neg k4]
    -- a part with parts
    have deepn : ∀ (X B : Bool), (X = true ∧ B = true ↔ headBad kind num str keys.length list.length (7 - deep) = false ∧ X = true) →
        (((!headBad kind num str keys.length list.length (7 - deep)) && (X && list.all (fun x => formT d x (7 - deep - 1)))) = true → ((1 + (list.map (fun x => manyT d x (7 - deep - 1))).sum : Nat) : Int) ≤ l →
          (((treesP (fun x l => treeP d x l (deep + 1)) list (l - 1)).1 && X && B, (treesP (fun x l => treeP d x l (deep + 1)) list (l - 1)).2) : Bool × Int) = (true, l - ((1 + (list.map (fun x => manyT d x (7 - deep - 1))).sum : Nat) : Int))) ∧
        (¬ (((!headBad kind num str keys.length list.length (7 - deep)) && (X && list.all (fun x => formT d x (7 - deep - 1)))) = true ∧ ((1 + (list.map (fun x => manyT d x (7 - deep - 1))).sum : Nat) : Int) ≤ l) →
          (((treesP (fun x l => treeP d x l (deep + 1)) list (l - 1)).1 && X && B, (treesP (fun x l => treeP d x l (deep + 1)) list (l - 1)).2) : Bool × Int).1 = false) := by
      intro X B hiff
      refine ⟨fun h1 h2 => ?_, fun h => ?_⟩
      · simp only [Bool.and_eq_true, Bool.not_eq_true'] at h1
        have h3 := hiff.2 ⟨h1.1, h1.2.1⟩
        rw [treesP_ok iha list (l - 1) hl1 h1.2.2 (by omega), h3.1, h3.2]
        simp only [Bool.and_true, Prod.mk.injEq, true_and]
        omega
      · by_cases hr : list.all (fun x => formT d x (7 - deep - 1)) = true ∧ (((list.map (fun x => manyT d x (7 - deep - 1))).sum : Nat) : Int) ≤ l - 1
        · cases hXB : (X && B) with
          | false =>
            show ((treesP (fun x l => treeP d x l (deep + 1)) list (l - 1)).1 && X && B) = false
            rw [Bool.and_assoc, hXB, Bool.and_false]
          | true =>
            simp only [Bool.and_eq_true] at hXB
            refine absurd ⟨?_, by omega⟩ h
            have := hiff.1 hXB
            rw [this.1, this.2, hr.1]
            rfl
        · show ((treesP (fun x l => treeP d x l (deep + 1)) list (l - 1)).1 && X && B) = false
          rw [treesP_no iha ihb list (l - 1) hl1 hr]
          rfl
    by_cases k5 : kind = 5
    · rw [if_pos k5, if_neg (show ¬ kind = 6 by omega), if_pos k5]
      have := deepn true (bareB num str keys.length 0) (by
        rw [hhb, bareB_iff]
        constructor
        · rintro ⟨X, a, b, c, e⟩; exact ⟨⟨fun _ => a, fun _ => b, fun _ => c, fun h => by omega⟩, X⟩
        · rintro ⟨⟨a, b, c, e⟩, X⟩; exact ⟨X, a (by omega), b (by omega), c (by omega), rfl⟩)
      simpa using this
    rw [if_neg k5, if_neg k5]
    by_cases k6 : kind = 6
    · rw [if_pos k6, if_pos k6]
      have := deepn (keys.length == list.length && keysB keys) (bareB num str 0 0) (by
        rw [hhb, bareB_iff]
        constructor
        · rintro ⟨X, a, b, c, e⟩; exact ⟨⟨fun _ => a, fun _ => b, fun h => absurd k6 h, fun h => by omega⟩, X⟩
        · rintro ⟨⟨a, b, c, e⟩, X⟩; exact ⟨X, a (by omega), b (by omega), rfl, rfl⟩)
      simpa [Bool.and_assoc] using this
    · rw [if_neg k6, if_neg k6]
      exact ⟨fun h => by simp at h, fun _ => rfl⟩

theorem treeP_okT (d : Nat) (t : Tr d) : (treeP d t 60 1).1 = okT d t := by
  have h := treeP_node d t 60 1 (by omega) (by omega)
  rw [show (7 : Int) - 1 = 6 from rfl] at h
  unfold okT
  by_cases hc : formT d t 6 = true ∧ (manyT d t 6 : Int) ≤ 60
  · rw [h.1 hc.1 hc.2, hc.1, decide_eq_true (by omega)]
    rfl
  · rw [h.2 hc]
    cases hf : formT d t 6 with
    | false => rfl
    | true =>
      rw [decide_eq_false (fun hm => hc ⟨hf, by omega⟩)]
      rfl
end Go.Proofs.YtbcafaomfaainaaGreatDoor
