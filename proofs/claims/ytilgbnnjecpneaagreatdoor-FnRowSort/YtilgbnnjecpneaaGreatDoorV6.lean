/- Texts of the proof, put together by program: PureOk, WTreeG, WSortN, WKeysP, WAppS. -/
import Derived.Test.YtilgbnnjecpneaaGreatDoorV4
import Derived.Test.YtilgbnnjecpneaaGreatDoorV5
import Derived.Test.YtilgbnnjecpneaaGreatDoorV1
import Derived.Test.YtilgbnnjecpneaaGreatDoorRows
import Derived.Sort.Grow
import Derived.Sort.EncStr
import Derived.Sort.OwnSorted
import Derived.Maps.AppendAt
/- The program's look at a tree is the model's: plain lists and numbers. -/
namespace Go.Proofs.YtilgbnnjecpneaaGreatDoor

theorem treesP_ok {α : Type} {f : α → Int → Bool × Int} {F : α → Bool} {M : α → Nat} (ha : ∀ x l, 0 ≤ l → F x = true → (M x : Int) ≤ l → f x l = (true, l - M x)) :
    ∀ (xs : List α) (l : Int), 0 ≤ l → xs.all F = true → (((xs.map M).sum : Nat) : Int) ≤ l → treesP f xs l = (true, l - ((xs.map M).sum : Nat))
  | [], l, _, _, _ => by simp [treesP]
  | x :: r, l, h0, hF, hM => by
    simp only [List.all_cons, Bool.and_eq_true] at hF
    simp only [List.map_cons, List.sum_cons] at hM ⊢
    rw [treesP, ha x l h0 hF.1 (by omega)]
    simp only [if_true]
    rw [treesP_ok ha r (l - M x) (by omega) hF.2 (by omega)]
    congr 1
    omega
theorem treesP_no {α : Type} {f : α → Int → Bool × Int} {F : α → Bool} {M : α → Nat} (ha : ∀ x l, 0 ≤ l → F x = true → (M x : Int) ≤ l → f x l = (true, l - M x))
    (hb : ∀ x l, 0 ≤ l → ¬ (F x = true ∧ (M x : Int) ≤ l) → (f x l).1 = false) :
    ∀ (xs : List α) (l : Int), 0 ≤ l → ¬ (xs.all F = true ∧ (((xs.map M).sum : Nat) : Int) ≤ l) → (treesP f xs l).1 = false
  | [], l, h0, h => absurd ⟨rfl, by simpa using h0⟩ h
  | x :: r, l, h0, h => by
    rw [treesP]
    by_cases hx : F x = true ∧ (M x : Int) ≤ l
    · rw [ha x l h0 hx.1 hx.2]
      simp only [if_true]
      refine treesP_no ha hb r (l - M x) (by omega) (fun hr => h ⟨?_, ?_⟩)
      · simp [hx.1, hr.1]
      · simp only [List.map_cons, List.sum_cons]
        omega
    · rw [hb x l h0 hx]
      rfl

theorem bareB_iff {num : Int} {str : ByteArray} {nk nl : Nat} : bareB num str nk nl = true ↔ num = 0 ∧ str.toList = [] ∧ nk = 0 ∧ nl = 0 := by
  simp [bareB, and_assoc]
theorem headBad_iff {kind num : Int} {str : ByteArray} {nk nl : Nat} {deep : Int} : headBad kind num str nk nl deep = false ↔
    ¬ deep < 1 ∧ (kind ≠ 3 → num = 0) ∧ (kind ≠ 4 → str.toList = []) ∧ (kind ≠ 6 → nk = 0) ∧ (kind < 5 → nl = 0) := by
  constructor
  · exact head_good
  · rintro ⟨a, b, c, e, f⟩
    cases h : headBad kind num str nk nl deep with
    | false => rfl
    | true =>
      simp only [headBad, Bool.or_eq_true, Bool.and_eq_true, decide_eq_true_eq, bne_iff_ne, ne_eq, Bool.not_eq_true', beq_eq_false_iff_ne] at h
      rcases h with (((h | h) | h) | h) | h
      · exact absurd h a
      · exact absurd (b h.1) h.2
      · exact absurd (c h.1) h.2
      · have := e h.1; omega
      · have := f h.1; omega
theorem empty_toList : ByteArray.empty.toList = [] := by simp [ByteArray.toList_eq]

/-- The one case of a part that a row or a map is not. -/
theorem treeP_node : ∀ (d : Nat) (t : Tr d) (l deep : Int), 0 ≤ l → 0 ≤ deep →
    (formT d t (7 - deep) = true → (manyT d t (7 - deep) : Int) ≤ l → treeP d t l deep = (true, l - (manyT d t (7 - deep) : Nat))) ∧
    (¬ (formT d t (7 - deep) = true ∧ (manyT d t (7 - deep) : Int) ≤ l) → (treeP d t l deep).1 = false)
  | 0, _, l, deep, _, _ => ⟨fun h => by simp [formT] at h, fun _ => rfl⟩
  | d + 1, t, l, deep, h0, hd => by
    obtain ⟨kind, num, str, keys, list⟩ := t
    have ih := treeP_node d
    have iha : ∀ (x : Tr d) (l : Int), 0 ≤ l → formT d x (7 - deep - 1) = true → (manyT d x (7 - deep - 1) : Int) ≤ l → treeP d x l (deep + 1) = (true, l - (manyT d x (7 - deep - 1) : Nat)) := fun x l hl => by
      have := (ih x l (deep + 1) hl (by omega)).1
      rwa [show 7 - (deep + 1) = 7 - deep - 1 by omega] at this
    have ihb : ∀ (x : Tr d) (l : Int), 0 ≤ l → ¬ (formT d x (7 - deep - 1) = true ∧ (manyT d x (7 - deep - 1) : Int) ≤ l) → (treeP d x l (deep + 1)).1 = false := fun x l hl => by
      have := (ih x l (deep + 1) hl (by omega)).2
      rwa [show 7 - (deep + 1) = 7 - deep - 1 by omega] at this
    have hform : formT (d + 1) (Nd.mk kind num str keys list) (7 - deep) = (!headBad kind num str keys.length list.length (7 - deep) &&
      (if kind = 0 ∨ kind = 1 ∨ kind = 2 then true else if kind = 3 then decide (-1000000 ≤ num ∧ num ≤ 1000000) else if kind = 4 then strOk str
       else if kind = 6 then keys.length == list.length && keysB keys && list.all (fun x => formT d x (7 - deep - 1)) else if kind = 5 then list.all (fun x => formT d x (7 - deep - 1)) else false)) := rfl
    have hmany : manyT (d + 1) (Nd.mk kind num str keys list) (7 - deep) = 1 + (if 0 < 7 - deep then (list.map (fun x => manyT d x (7 - deep - 1))).sum else 0) := rfl
    have htree : treeP (d + 1) (Nd.mk kind num str keys list) l deep = if takeB l deep = false then (false, l)
      else if kind = 0 ∨ kind = 1 ∨ kind = 2 then (bareB num str keys.length list.length, l - 1)
      else if kind = 3 then (decide (-1000000 ≤ num ∧ num ≤ 1000000) && bareB 0 str keys.length list.length, l - 1)
      else if kind = 4 then (strOk str && bareB num ByteArray.empty keys.length list.length, l - 1)
      else if kind = 5 then ((treesP (fun x l => treeP d x l (deep + 1)) list (l - 1)).1 && bareB num str keys.length 0, (treesP (fun x l => treeP d x l (deep + 1)) list (l - 1)).2)
      else if kind = 6 then ((treesP (fun x l => treeP d x l (deep + 1)) list (l - 1)).1 && (keys.length == list.length) && keysB keys && bareB num str 0 0, (treesP (fun x l => treeP d x l (deep + 1)) list (l - 1)).2)
      else (false, l - 1) := rfl
    rw [hform, hmany, htree]
    clear hform hmany htree
    cases hb : takeB l deep with
    | false =>
      rw [if_pos rfl]
      refine ⟨fun h1 h2 => ?_, fun _ => rfl⟩
      simp only [takeB, decide_eq_false_iff_not] at hb
      simp only [Bool.and_eq_true, Bool.not_eq_true'] at h1
      have h3 := (headBad_iff.1 h1.1).1
      omega
    | true =>
    rw [if_neg (show ¬ (true = false) by simp)]
    simp only [takeB, decide_eq_true_eq] at hb
    have hl1 : 0 ≤ l - 1 := by omega
    rw [if_pos (show 0 < 7 - deep by omega)]
    have hhb : headBad kind num str keys.length list.length (7 - deep) = false ↔ (kind ≠ 3 → num = 0) ∧ (kind ≠ 4 → str.toList = []) ∧ (kind ≠ 6 → keys.length = 0) ∧ (kind < 5 → list.length = 0) := by
      rw [headBad_iff]
      exact ⟨fun h => h.2, fun h => ⟨by omega, h⟩⟩
    -- a part without parts
    have leaf : ∀ (X B : Bool), kind < 5 → (X = true → B = true → list.length = 0) → (X = true ∧ B = true ↔ headBad kind num str keys.length list.length (7 - deep) = false ∧ X = true) →
        (((!headBad kind num str keys.length list.length (7 - deep)) && X) = true → ((1 + (list.map (fun x => manyT d x (7 - deep - 1))).sum : Nat) : Int) ≤ l → ((X && B, l - 1) : Bool × Int) = (true, l - ((1 + (list.map (fun x => manyT d x (7 - deep - 1))).sum : Nat) : Int))) ∧
        (¬ (((!headBad kind num str keys.length list.length (7 - deep)) && X) = true ∧ ((1 + (list.map (fun x => manyT d x (7 - deep - 1))).sum : Nat) : Int) ≤ l) → ((X && B, l - 1) : Bool × Int).1 = false) := by
      intro X B hk hz hiff
      refine ⟨fun h1 h2 => ?_, fun h => ?_⟩
      · simp only [Bool.and_eq_true, Bool.not_eq_true'] at h1
        have h3 := hiff.2 h1
        have h4 := hz h3.1 h3.2
        obtain rfl : list = [] := List.eq_nil_of_length_eq_zero h4
        rw [h3.1, h3.2]
        simp
      · cases hXB : (X && B) with
        | false => rfl
        | true =>
          simp only [Bool.and_eq_true] at hXB
          have h4 := hz hXB.1 hXB.2
          obtain rfl : list = [] := List.eq_nil_of_length_eq_zero h4
          refine absurd ⟨?_, ?_⟩ h
          · have := hiff.1 hXB
            rw [this.1, this.2]
            rfl
          · simp
            omega
    by_cases k0 : kind = 0 ∨ kind = 1 ∨ kind = 2
    · rw [if_pos k0, if_pos k0]
      have := leaf true (bareB num str keys.length list.length) (by omega) (fun _ h => (bareB_iff.1 h).2.2.2) (by
        rw [hhb, bareB_iff]
        constructor
        · rintro ⟨_, a, b, c, e⟩; exact ⟨⟨fun _ => a, fun _ => b, fun _ => c, fun _ => e⟩, rfl⟩
        · rintro ⟨⟨a, b, c, e⟩, _⟩; exact ⟨rfl, a (by omega), b (by omega), c (by omega), e (by omega)⟩)
      simpa using this
    rw [if_neg k0, if_neg k0]
    by_cases k3 : kind = 3
    · rw [if_pos k3, if_pos k3]
      exact leaf _ (bareB 0 str keys.length list.length) (by omega) (fun _ h => (bareB_iff.1 h).2.2.2) (by
        rw [hhb, bareB_iff]
        constructor
        · rintro ⟨X, _, b, c, e⟩; exact ⟨⟨fun h => absurd k3 h, fun _ => b, fun _ => c, fun _ => e⟩, X⟩
        · rintro ⟨⟨a, b, c, e⟩, X⟩; exact ⟨X, rfl, b (by omega), c (by omega), e (by omega)⟩)
    rw [if_neg k3, if_neg k3]
    by_cases k4 : kind = 4
    · rw [if_pos k4, if_pos k4]
      exact leaf _ (bareB num ByteArray.empty keys.length list.length) (by omega) (fun _ h => (bareB_iff.1 h).2.2.2) (by
        rw [hhb, bareB_iff]
        constructor
        · rintro ⟨X, a, _, c, e⟩; exact ⟨⟨fun _ => a, fun h => absurd k4 h, fun _ => c, fun _ => e⟩, X⟩
        · rintro ⟨⟨a, b, c, e⟩, X⟩; exact ⟨X, a (by omega), empty_toList, c (by omega), e (by omega)⟩)
    rw [if_neg k4, if_neg k4]
    -- a part with parts
    have deepn : ∀ (X B : Bool), (X = true ∧ B = true ↔ headBad kind num str keys.length list.length (7 - deep) = false ∧ X = true) →
        (((!headBad kind num str keys.length list.length (7 - deep)) && (X && list.all (fun x => formT d x (7 - deep - 1)))) = true → ((1 + (list.map (fun x => manyT d x (7 - deep - 1))).sum : Nat) : Int) ≤ l →
          (((treesP (fun x l => treeP d x l (deep + 1)) list (l - 1)).1 && X && B, (treesP (fun x l => treeP d x l (deep + 1)) list (l - 1)).2) : Bool × Int) = (true, l - ((1 + (list.map (fun x => manyT d x (7 - deep - 1))).sum : Nat) : Int))) ∧
        (¬ (((!headBad kind num str keys.length list.length (7 - deep)) && (X && list.all (fun x => formT d x (7 - deep - 1)))) = true ∧ ((1 + (list.map (fun x => manyT d x (7 - deep - 1))).sum : Nat) : Int) ≤ l) →
          (((treesP (fun x l => treeP d x l (deep + 1)) list (l - 1)).1 && X && B, (treesP (fun x l => treeP d x l (deep + 1)) list (l - 1)).2) : Bool × Int).1 = false) := by
      intro X B hiff
      refine ⟨fun h1 h2 => ?_, fun h => ?_⟩
      · simp only [Bool.and_eq_true, Bool.not_eq_true'] at h1
        have h3 := hiff.2 ⟨h1.1, h1.2.1⟩
        rw [treesP_ok iha list (l - 1) hl1 h1.2.2 (by omega), h3.1, h3.2]
        simp only [Bool.and_true, Prod.mk.injEq, true_and]
        omega
      · by_cases hr : list.all (fun x => formT d x (7 - deep - 1)) = true ∧ (((list.map (fun x => manyT d x (7 - deep - 1))).sum : Nat) : Int) ≤ l - 1
        · cases hXB : (X && B) with
          | false =>
            show ((treesP (fun x l => treeP d x l (deep + 1)) list (l - 1)).1 && X && B) = false
            rw [Bool.and_assoc, hXB, Bool.and_false]
          | true =>
            simp only [Bool.and_eq_true] at hXB
            refine absurd ⟨?_, by omega⟩ h
            have := hiff.1 hXB
            rw [this.1, this.2, hr.1]
            rfl
        · show ((treesP (fun x l => treeP d x l (deep + 1)) list (l - 1)).1 && X && B) = false
          rw [treesP_no iha ihb list (l - 1) hl1 hr]
          rfl
    by_cases k5 : kind = 5
    · rw [if_pos k5, if_neg (show ¬ kind = 6 by omega), if_pos k5]
      have := deepn true (bareB num str keys.length 0) (by
        rw [hhb, bareB_iff]
        constructor
        · rintro ⟨X, a, b, c, e⟩; exact ⟨⟨fun _ => a, fun _ => b, fun _ => c, fun h => by omega⟩, X⟩
        · rintro ⟨⟨a, b, c, e⟩, X⟩; exact ⟨X, a (by omega), b (by omega), c (by omega), rfl⟩)
      simpa using this
    rw [if_neg k5, if_neg k5]
    by_cases k6 : kind = 6
    · rw [if_pos k6, if_pos k6]
      have := deepn (keys.length == list.length && keysB keys) (bareB num str 0 0) (by
        rw [hhb, bareB_iff]
        constructor
        · rintro ⟨X, a, b, c, e⟩; exact ⟨⟨fun _ => a, fun _ => b, fun h => absurd k6 h, fun h => by omega⟩, X⟩
        · rintro ⟨⟨a, b, c, e⟩, X⟩; exact ⟨X, a (by omega), b (by omega), rfl, rfl⟩)
      simpa [Bool.and_assoc] using this
    · rw [if_neg k6, if_neg k6]
      exact ⟨fun h => by simp at h, fun _ => rfl⟩

theorem treeP_okT (d : Nat) (t : Tr d) : (treeP d t 60 1).1 = okT d t := by
  have h := treeP_node d t 60 1 (by omega) (by omega)
  rw [show (7 : Int) - 1 = 6 from rfl] at h
  unfold okT
  by_cases hc : formT d t 6 = true ∧ (manyT d t 6 : Int) ≤ 60
  · rw [h.1 hc.1 hc.2, hc.1, decide_eq_true (by omega)]
    rfl
  · rw [h.2 hc]
    cases hf : formT d t 6 with
    | false => rfl
    | true =>
      rw [decide_eq_false (fun hm => hc ⟨hf, by omega⟩)]
      rfl
end Go.Proofs.YtilgbnnjecpneaaGreatDoor

/- The program's own trees, their maps in any order: each is just one tree. -/
namespace Go.Proofs.YtilgbnnjecpneaaGreatDoor
open Go.RowKit Go.Deep

/-- The entries of a map are these pairs, in this order. -/
def MapG {α : Type} (At : α → Value → Prop) (es : Array MapEntry) (ps : List (ByteArray × α)) : Prop :=
  es.size = ps.length ∧ ∀ (i : Nat) (k : ByteArray) (x : α), ps[i]? = some (k, x) → ∃ u, es[i]? = some ⟨.string k, u, i⟩ ∧ At x u

/-- One of the program's own trees that lies in blocks of S: the one that val tells. -/
def TreeG (S : Nat → Prop) (w : World) : (d : Nat) → Tr d → Value → Prop
  | 0, _, _ => False
  | d + 1, t, v =>
    (∃ k : Int, (k = 0 ∨ k = 1 ∨ k = 2) ∧ t = (Nd.mk k 0 ByteArray.empty [] [] : Nd (Tr d)) ∧ v = .iface 85 (.agg #[.int .i64 k])) ∨
    (∃ n : Int, I64 n ∧ t = (Nd.mk 3 n ByteArray.empty [] [] : Nd (Tr d)) ∧ v = .iface 113 (.agg #[.int .i64 n])) ∨
    (∃ s : ByteArray, s.size ≤ 1000 ∧ t = (Nd.mk 4 0 s [] [] : Nd (Tr d)) ∧ v = .iface 110 (.agg #[.string s])) ∨
    (∃ (xs : List (Tr d)) (sv : Value), xs.length ≤ 1000 ∧ t = (Nd.mk 5 0 ByteArray.empty [] xs : Nd (Tr d)) ∧ v = .iface 80 (.agg #[sv]) ∧ Row1At S w (TreeG S w d) sv xs) ∨
    (∃ (keys : List ByteArray) (xs : List (Tr d)) (ps : List (ByteArray × Tr d)) (r : Nat) (es : Array MapEntry), xs.length ≤ 1000 ∧ keysB keys = true ∧ keys.length = xs.length ∧ ps.Perm (keys.zip xs) ∧
      t = (Nd.mk 6 0 ByteArray.empty keys xs : Nd (Tr d)) ∧ v = .iface 120 (.agg #[.map (some r)]) ∧ S r ∧ w.heap[r]? = some (.map es ps.length) ∧ MapG (TreeG S w d) es ps)

theorem MapG.moved {α : Type} {At At' : α → Value → Prop} {es : Array MapEntry} {ps : List (ByteArray × α)} (h : MapG At es ps) (hi : ∀ x u, At x u → At' x u) : MapG At' es ps :=
  ⟨h.1, fun i k x hp => by obtain ⟨u, e, hu⟩ := h.2 i k x hp; exact ⟨u, e, hi _ _ hu⟩⟩
theorem TreeG.moved {S S' : Nat → Prop} {w w' : World} (hs : Same S w w') (hS : ∀ b, S b → S' b) : ∀ (d : Nat) (t : Tr d) (v : Value), TreeG S w d t v → TreeG S' w' d t v
  | 0, _, _, h => h
  | d + 1, t, v, h => by
    rcases h with h | h | h | ⟨xs, sv, h1, h2, h3, hr⟩ | ⟨keys, xs, ps, r, es, h1, h2, h3, h4, h5, h6, hr, hm, he⟩
    · exact Or.inl h
    · exact Or.inr (Or.inl h)
    · exact Or.inr (Or.inr (Or.inl h))
    · exact Or.inr (Or.inr (Or.inr (Or.inl ⟨xs, sv, h1, h2, h3, hr.moved hs hS (fun x u hx => TreeG.moved hs hS d x u hx)⟩)))
    · exact Or.inr (Or.inr (Or.inr (Or.inr ⟨keys, xs, ps, r, es, h1, h2, h3, h4, h5, h6, hS _ hr, (hs r hr).trans hm, he.moved (fun x u hx => TreeG.moved hs hS d x u hx)⟩)))
theorem TreeG.same {S : Nat → Prop} {w w' : World} {d : Nat} {t : Tr d} {v : Value} (h : TreeG S w d t v) (hs : Same S w w') : TreeG S w' d t v := TreeG.moved hs (fun _ h => h) d t v h
theorem TreeG.mono {S S' : Nat → Prop} {w : World} {d : Nat} {t : Tr d} {v : Value} (h : TreeG S w d t v) (hS : ∀ b, S b → S' b) : TreeG S' w d t v := TreeG.moved (Same.refl _ _) hS d t v h
/-- It is one cell. -/
theorem TreeG.iface {S : Nat → Prop} {w : World} {d : Nat} {t : Tr d} {v : Value} (h : TreeG S w d t v) : ∃ T u, v = .iface T u := by
  cases d with
  | zero => exact h.elim
  | succ d =>
    rcases h with ⟨k, h1, h2, h3⟩ | ⟨k, h1, h2, h3⟩ | ⟨k, h1, h2, h3⟩ | ⟨xs, sv, h1, h2, h3, hr⟩ | ⟨keys, xs, ps, r, es, h1, h2, h3, h4, h5, h6, hr, hm, he⟩
    · exact ⟨_, _, h3⟩
    · exact ⟨_, _, h3⟩
    · exact ⟨_, _, h3⟩
    · exact ⟨_, _, h3⟩
    · exact ⟨_, _, h6⟩

theorem bytes_nil {s : ByteArray} (h : s.toList = []) : s = ByteArray.empty := by
  obtain ⟨⟨l⟩⟩ := s
  simp [ByteArray.toList_eq] at h
  subst h
  rfl
theorem len_le_many {d : Nat} {deep : Int} : ∀ (xs : List (Tr d)), xs.length ≤ (xs.map (fun x => manyT d x deep)).sum
  | [] => Nat.le_refl _
  | x :: r => by
    have := len_le_many (deep := deep) r
    have h1 : 1 ≤ manyT d x deep := by
      cases d with
      | zero => exact Empty.elim x
      | succ d => rw [manyT]; omega
    simp only [List.length_cons, List.map_cons, List.sum_cons]
    omega
theorem many_mem {d : Nat} {deep : Int} {x : Tr d} : ∀ {xs : List (Tr d)}, x ∈ xs → manyT d x deep ≤ (xs.map (fun x => manyT d x deep)).sum
  | y :: r, h => by
    simp only [List.map_cons, List.sum_cons]
    cases h with
    | head => omega
    | tail _ h => have := many_mem (deep := deep) h; omega
theorem Row1At.mem {α : Type} {S : Nat → Prop} {w : World} {At At' : α → Value → Prop} {v : Value} {xs : List α} (h : Row1At S w At v xs) (hi : ∀ x u, x ∈ xs → At x u → At' x u) : Row1At S w At' v xs := by
  obtain ⟨h1, a, cap, hv, h3⟩ := h
  refine ⟨h1, a, cap, hv, ?_⟩
  rcases h3 with h3 | ⟨b, o, hB, ha, hc⟩
  · exact Or.inl h3
  · refine Or.inr ⟨b, o, hB, ha, fun i x hx => ?_⟩
    obtain ⟨u, e0, e1⟩ := hc i x hx
    exact ⟨u, e0, hi _ _ (List.mem_of_getElem? hx) e1⟩

/-- A tree of right form, as it was made. -/
theorem treeG_of {S : Nat → Prop} {w : World} : ∀ (d : Nat) (t : Tr d) (deep : Int) (u : Value), formT d t deep = true → manyT d t deep ≤ 60 → TreeAt S w d t u → TreeG S w d t u
  | 0, _, _, _, h, _, _ => by simp [formT] at h
  | d + 1, t, deep, u, hf, hm, hu => by
    obtain ⟨kind, num, str, keys, list⟩ := t
    have ih := treeG_of (S := S) (w := w) d
    cases hb : headBad kind num str keys.length list.length deep with
    | true => rw [formT_bad hb] at hf; cases hf
    | false =>
    rw [formT_good hb] at hf
    obtain ⟨g0, g1, g2, g3, g4⟩ := headBad_iff.1 hb
    have hmany : manyT (d + 1) (Nd.mk kind num str keys list) deep = 1 + (if 0 < deep then (list.map (fun x => manyT d x (deep - 1))).sum else 0) := rfl
    rw [hmany, if_pos (by omega)] at hm
    have hll := len_le_many (deep := deep - 1) list
    rcases hu with ⟨hk, rfl⟩ | ⟨hk, rfl⟩ | ⟨hk, rfl⟩ | ⟨hk, sv, rfl, hr⟩ | ⟨hk, r, es, rfl, hr, hobj, he⟩
    · have hk' : kind = 0 ∨ kind = 1 ∨ kind = 2 := hk
      refine Or.inl ⟨kind, hk', ?_, rfl⟩
      obtain rfl := g1 (by omega)
      obtain rfl := bytes_nil (g2 (by omega))
      obtain rfl := List.eq_nil_of_length_eq_zero (g3 (by omega))
      obtain rfl := List.eq_nil_of_length_eq_zero (g4 (by omega))
      rfl
    · have hk' : kind = 3 := hk
      subst hk'
      simp at hf
      refine Or.inr (Or.inl ⟨num, ⟨by omega, by omega⟩, ?_, rfl⟩)
      obtain rfl := bytes_nil (g2 (by omega))
      obtain rfl := List.eq_nil_of_length_eq_zero (g3 (by omega))
      obtain rfl := List.eq_nil_of_length_eq_zero (g4 (by omega))
      rfl
    · have hk' : kind = 4 := hk
      subst hk'
      have hs : str.size ≤ 12 := by simp [strOk] at hf; omega
      refine Or.inr (Or.inr (Or.inl ⟨str, by omega, ?_, rfl⟩))
      obtain rfl := g1 (by omega)
      obtain rfl := List.eq_nil_of_length_eq_zero (g3 (by omega))
      obtain rfl := List.eq_nil_of_length_eq_zero (g4 (by omega))
      rfl
    · have hk' : kind = 5 := hk
      subst hk'
      have hall : list.all (fun x => formT d x (deep - 1)) = true := by simpa using hf
      refine Or.inr (Or.inr (Or.inr (Or.inl ⟨list, sv, by omega, ?_, rfl, hr.mem (fun x u hx h => ih x (deep - 1) u (List.all_eq_true.1 hall x hx) (by have := many_mem (deep := deep - 1) (show x ∈ list from hx); omega) h)⟩)))
      obtain rfl := g1 (by omega)
      obtain rfl := bytes_nil (g2 (by omega))
      obtain rfl := List.eq_nil_of_length_eq_zero (g3 (by omega))
      rfl
    · have hk' : kind = 6 := hk
      subst hk'
      simp only [show ¬ ((6 : Int) = 0 ∨ (6 : Int) = 1 ∨ (6 : Int) = 2) by omega, show ¬ ((6 : Int) = 3) by omega, show ¬ ((6 : Int) = 4) by omega, if_false, if_true, Bool.and_eq_true] at hf
      obtain ⟨⟨hq, hkb⟩, hall⟩ := hf
      have hq' : keys.length = list.length := beq_iff_eq.1 hq
      refine Or.inr (Or.inr (Or.inr (Or.inr ⟨keys, list, keys.zip list, r, es, by omega, hkb, hq', List.Perm.refl _, ?_, rfl, hr, ?_, ?_, ?_⟩)))
      · obtain rfl := g1 (by omega)
        obtain rfl := bytes_nil (g2 (by omega))
        rfl
      · rw [List.length_zip, ← hq', Nat.min_self]
        exact hobj
      · rw [List.length_zip, ← hq', Nat.min_self]
        exact he.1
      · intro i k x hp
        have hp' := List.getElem?_zip_eq_some.1 hp
        obtain ⟨u, e1, e2⟩ := he.2.2 i k x hp'.1 hp'.2
        exact ⟨u, e1, ih x (deep - 1) u (List.all_eq_true.1 hall x (List.mem_of_getElem? hp'.2)) (by have := many_mem (x := x) (deep := deep - 1) (List.mem_of_getElem? hp'.2); omega) e2⟩
end Go.Proofs.YtilgbnnjecpneaaGreatDoor

/- slices.Sort of no text; what is asked of it else. -/
namespace Go.Proofs.YtilgbnnjecpneaaGreatDoor
open Go.RowKit Go.Deep Go.Sort

/-- What slices.Sort does with texts. -/
def SortStrs : Prop := ∀ (blk cap : Nat) (ss : List (List UInt8)) (w : World), Holds encStr w blk 0 ss.toArray → blk < w.heap.size → ss.length < 4611686018427387904 →
    Calls Tryz.prog 154 #[.slice (some ⟨blk, 0, none⟩) ss.length cap] w fun e w' =>
      e = .returned (.tuple #[]) ∧ ∃ n os, w' = grow (putRow encStr (Sort.ahead w n) blk 0 (ss.mergeSort fun x y => decide (x ≤ y)).toArray) os

theorem insertion_nil (p : Option Addr) (cap : Nat) (w : World) :
    Calls Tryz.prog 157 #[.slice p 0 cap, .int .i64 0, .int .i64 0] w fun e w' => e = .returned (.tuple #[]) ∧ w' = w := by
  go_enter Tryz.func157, Tryz.ntmps157
  go_wp2
  refine wp_loop_rounds 1 ?_
  rw [rounds_succ]
  go_wp2
  go_end0
  exact ⟨rfl, rfl⟩

set_option maxRecDepth 100000 in
theorem pdq_nil (p : Option Addr) (cap : Nat) (w : World) :
    Calls Tryz.prog 155 #[.slice p 0 cap, .int .i64 0, .int .i64 0, .int .i64 0] w fun e w' => e = .returned (.tuple #[]) ∧ w' = w := by
  go_enter Tryz.func155, Tryz.ntmps155
  go_wp2
  refine wp_loop_rounds 1 ?_
  rw [rounds_succ]
  go_wp2_with (first | (go_at_call 157; refine (insertion_nil p cap _).mono ?_; rintro e w' ⟨rfl, rfl⟩))
  refine bodyPost_ret (results_none rfl _ _ _) rfl ?_
  exact ⟨rfl, rfl⟩

set_option maxRecDepth 100000 in
set_option maxHeartbeats 400000 in
theorem len64_zero (w : World) : Calls Tryz.prog 167 #[.int .u64 0] w fun e w' => e = .returned (.int .i64 0) ∧ w' = w := by
  go_enter Tryz.func167, Tryz.ntmps167
  go_wp2_with fail
  go_ret
  exact ⟨by kernel_rfl, rfl⟩

set_option maxRecDepth 100000 in
set_option maxHeartbeats 400000 in
theorem len_zero (w : World) : Calls Tryz.prog 156 #[.int .u64 0] w fun e w' => e = .returned (.int .i64 0) ∧ w' = w := by
  go_enter Tryz.func156, Tryz.ntmps156
  go_wp2_with fail
  refine (len64_zero _).mono ?_
  rintro e w' ⟨rfl, rfl⟩
  go_wp2_with fail
  go_ret
  exact ⟨rfl, rfl⟩

set_option maxRecDepth 100000 in
theorem sort_nil (p : Option Addr) (cap : Nat) (w : World) :
    Calls Tryz.prog 154 #[.slice p 0 cap] w fun e w' => e = .returned (.tuple #[]) ∧ w' = w := by
  go_enter Tryz.func154, Tryz.ntmps154
  go_wp2_with (first
    | (go_at_call 156; refine (len_zero _).mono ?_; rintro e w' ⟨rfl, rfl⟩)
    | (go_at_call 155; refine (pdq_nil p cap _).mono ?_; rintro e w' ⟨rfl, rfl⟩))
  go_end0
  exact ⟨rfl, rfl⟩
end Go.Proofs.YtilgbnnjecpneaaGreatDoor

/- Texts in order: the sort of keys, in whatever order they came. -/
namespace Go.Proofs.YtilgbnnjecpneaaGreatDoor
open Go.RowKit Go.Deep Go.Sort

theorem bytesLess_iff : ∀ (a b : List UInt8), Op.bytesLess a b = true ↔ a < b
  | _, [] => by cases ‹List UInt8› <;> simp [Op.bytesLess]
  | [], _ :: _ => by simp [Op.bytesLess]
  | x :: a, y :: b => by
    have ih := bytesLess_iff a b
    rw [List.cons_lt_cons_iff, ← ih]
    simp [Op.bytesLess]
theorem ltB_iff (a b : ByteArray) : ltB a b = true ↔ a.data.toList < b.data.toList := by
  rw [ltB, bytesLess_iff, ByteArray.toList_eq, ByteArray.toList_eq]
theorem keysB_sorted {ss : List ByteArray} (h : keysB ss = true) : (ss.map (fun s => s.data.toList)).Pairwise (fun a b => decide (a ≤ b) = true) := by
  rw [List.pairwise_map]
  refine (keysGo_pair ss none h).imp_of_mem ?_
  intro a b _ _ hab
  exact decide_eq_true (List.le_of_lt ((ltB_iff a b).1 hab))
theorem le_total_bytes (a b : List UInt8) : (decide (a ≤ b) || decide (b ≤ a)) = true := by
  rcases List.le_total a b with h | h
  · simp [h]
  · simp [h]
theorem le_trans_bytes (a b c : List UInt8) (h : decide (a ≤ b) = true) (k : decide (b ≤ c) = true) : decide (a ≤ c) = true := by
  simp only [decide_eq_true_eq] at h k ⊢
  exact List.le_trans h k
/-- The keys, in whatever order they came, sorted. -/
theorem sort_keys {ss : List ByteArray} (h : keysB ss = true) {cs : List (List UInt8)} (hp : cs.Perm (ss.map (fun s => s.data.toList))) : (cs.mergeSort fun x y => decide (x ≤ y)) = ss.map (fun s => s.data.toList) := by
  have h1 := List.pairwise_mergeSort (le := fun x y : List UInt8 => decide (x ≤ y)) le_trans_bytes le_total_bytes cs
  have h2 := (List.mergeSort_perm cs (fun x y => decide (x ≤ y))).trans hp
  refine h2.eq_of_pairwise ?_ h1 (keysB_sorted h)
  intro a b _ _ hab hba
  simp only [decide_eq_true_eq] at hab hba
  exact List.le_antisymm hab hba
theorem enc_keys (ss : List ByteArray) : (ss.map (fun s => s.data.toList)).map encStr = ss.map Value.string := by
  rw [List.map_map]
  rfl
theorem keysB_strOk : ∀ (ss : List ByteArray) (p : Option ByteArray), keysGo p ss = true → ∀ s ∈ ss, strOk s = true
  | [], _, _, _, h => by cases h
  | a :: r, none, h, s, hs => by
    simp only [keysGo, Bool.and_eq_true] at h
    cases hs with
    | head => exact h.1
    | tail _ hs => exact keysB_strOk r _ h.2 s hs
  | a :: r, some p, h, s, hs => by
    simp only [keysGo, Bool.and_eq_true] at h
    cases hs with
    | head => exact h.1
    | tail _ hs => exact keysB_strOk r _ h.2.2 s hs
theorem strOk_size {s : ByteArray} (h : strOk s = true) : s.size ≤ 12 := by
  simp [strOk] at h
  omega

/-- A row of texts that a call made is its own. -/
theorem strsOwn_of_row {N n : Nat} {w : World} {v : Value} {ss : List ByteArray} (h : w.ownsRow N 9 1 v n (ss.map Value.string)) (hn : n = ss.length) (hl : ss.length < 17592186044416) (hs : ∀ s ∈ ss, s.size < 281474976710656) :
    StrsOwn (fun b => N ≤ b ∧ b < w.heap.size) w v ss := by
  subst hn
  refine ⟨hl, hs, ?_⟩
  rcases h.2 with ⟨rfl, h0⟩ | ⟨g, cap, cur, rfl, hg, hh, hnc, _, hcs, htake⟩
  · exact ⟨none, 0, by rw [h0], Or.inl (List.eq_nil_of_length_eq_zero h0)⟩
  · refine ⟨some ⟨g, 0, none⟩, cap, rfl, Or.inr ⟨g, cap, fun i => cur.getD i undef, ⟨hg, (Array.getElem?_eq_some_iff.1 hh).1⟩, rfl, hnc, ⟨cur, hh, by rw [hcs, Nat.mul_one], fun i hi => ?_⟩, fun i s hi => ?_⟩⟩
    · simp [hcs, hi]
    · have hil := (List.getElem?_eq_some_iff.1 hi).1
      have h1 : (ss.map Value.string)[i]? = some (.string s) := by rw [List.getElem?_map, hi]; rfl
      rw [← htake, List.getElem?_take_of_lt (by omega), Array.getElem?_toList] at h1
      simp [Array.getD_eq_getD_getElem?, h1]
end Go.Proofs.YtilgbnnjecpneaaGreatDoor

/- append of texts onto a row of nothing; of a run of append in a region that draws. -/
namespace Go.Proofs.YtilgbnnjecpneaaGreatDoor
open Go.RowKit Go.Deep

/-- What an append does, as one step of a region that draws. -/
theorem step_append_run {P : Program} {ops : Array Oper} {o : Oper} {a : Act} {w : World} {K : Act → World → Prop} {Q : Exit → Act → World → Prop} {E : Prop} (Φ : Value → World → Prop)
    (hg : o.guard = none) (s x : Operand) (t : TypeId) (hop : o.op = Op.call { callee := Callee.builtin Builtin.append, args := #[s, x], argTypes := #[t, t] }) (vs vx : Value) (hs : a.eval s = vs) (hx : a.eval x = vx)
    (hrun : ∃ v' w', (Builtin.append_ #[t, t] o.type #[vs, vx]).run P w = .ok v' w' ∧ Φ v' w') (hK : ∀ v' w', Φ v' w' → K (a.put o.dst v') w') :
    if Region.wanted o (yielded ops a.tmps) = true then Oper.wp P o a w K Q else E := by
  have hw : Region.wanted o (yielded ops a.tmps) = true := by simp [Region.wanted, hg]
  rw [if_pos hw]
  obtain ⟨v', w', hr, hφ⟩ := hrun
  unfold Oper.wp
  simp [execOp, hop, resolve, invoke, builtin, hs, hx, hr, Result.andThen]
  exact hK v' w' hφ

theorem Tryz.infoS2 : (Tryz.prog.info? 9).map (fun i => (i.zero, i.size, i.bytes)) = some (some (.string ByteArray.empty), 1, 16) := by kernel_rfl

/-- Texts, copied behind nothing. -/
theorem run_append_strs (S : Nat → Prop) (ss : List ByteArray) (ak : Option Addr) (ck g : Nat) (ty : TypeId) (w : World) (hg : w.heap[g]? = some (.cells #[] 9 (0, 0))) (hv : StrsAt S w (.slice ak ss.length ck) ss) (hsm : ss.length ≤ 4194304) :
    ∃ v' w', (Builtin.append_ #[22, 22] ty #[.slice (some ⟨g, 0, none⟩) 0 0, .slice ak ss.length ck]).run Tryz.prog w = .ok v' w' ∧
      (StrsOwn (fun b => b = g ∨ b = w.heap.size) w' v' ss ∧ w.grownBy w' (some g)) := by
  obtain ⟨i0, hi, hz0, hz1, hz2⟩ := info_parts Tryz.infoS2
  have hgl := (Array.getElem?_eq_some_iff.1 hg).1
  have hu : Tryz.prog.underlying 22 = some (.slice 9) := Tryz.underlying22
  by_cases h0 : ss = []
  · subst h0
    refine ⟨.slice (some ⟨g, 0, none⟩) 0 0, w, ?_, ⟨by simp, by simp, _, _, rfl, Or.inl rfl⟩, ⟨rfl, rfl, rfl, Nat.le_refl _, fun _ _ _ => rfl⟩⟩
    cases ak with
    | none => simp [Builtin.append_, run_underlying hu, sizeOf, typeInfo, hi, Builtin.lenOf, Builtin.firstCells, loadCells, loadCellsFrom, storeCells, Result.andThen]
    | some a => simp [Builtin.append_, run_underlying hu, sizeOf, typeInfo, hi, Builtin.lenOf, Builtin.firstCells, loadCells, loadCellsFrom, storeCells, Result.andThen]
  · have hpos : 0 < ss.length := List.length_pos_iff.2 h0
    obtain ⟨b, o, _, rfl, _⟩ := hv.cell hpos
    have hown : w.ownsRow g 9 1 (.slice (some ⟨g, 0, none⟩) 0 0) 0 [] := ⟨by simp, .inr ⟨g, 0, #[], rfl, Nat.le_refl _, hg, Nat.le_refl _, Nat.zero_le _, by simp, by simp⟩⟩
    have hnews : ∀ j u, (ss.map Value.string)[j]? = some u → w.cell? ((⟨b, o, none⟩ : Addr).add j) = some u := by
      intro j u hj
      rw [List.getElem?_map, Option.map_eq_some_iff] at hj
      obtain ⟨s, hs, rfl⟩ := hj
      have hjl := (List.getElem?_eq_some_iff.1 hs).1
      obtain ⟨b', o', s', e', _, hs', _, hc⟩ := hv.cell hjl
      cases e'
      rw [hs] at hs'
      cases hs'
      have hadd : (⟨b, o, none⟩ : Addr).add j = ⟨b, o + j, none⟩ := by unfold Addr.add; split <;> simp_all
      rw [hadd]
      exact hc
    obtain ⟨v', w', hr, ho, hgr, _, hat⟩ := run_append_own_at (P := Tryz.prog) w g 22 ty 9 i0 (.string ByteArray.empty) 1 16 hu hi hz0 hz1 hz2 rfl (by decide) _ 0 [] hown ⟨b, o, none⟩ ss.length ck (ss.map Value.string) (by simp) hnews
      (fun u hu => by obtain ⟨s, _, rfl⟩ := List.mem_map.1 hu; rfl) (by unfold maxLen; omega) (by omega) (by omega)
    rw [Nat.zero_add, List.nil_append] at ho
    refine ⟨v', w', hr, ?_, hgr⟩
    obtain ⟨_, h2, _⟩ := hv
    obtain ⟨q1, q2, a, cap, hv', hq⟩ := strsOwn_of_row ho rfl (by omega) h2
    refine ⟨q1, q2, a, cap, hv', ?_⟩
    rcases hq with hq | ⟨b', n', f', _, ha', hr'⟩
    · exact absurd hq h0
    · refine Or.inr ⟨b', n', f', ?_, ha', hr'⟩
      have hob : v'.ownBlock = some b' := by rw [hv', ha']; rfl
      rw [hob] at hat
      rcases hat with h | h
      · exact Or.inl (Option.some.inj h)
      · exact Or.inr (Option.some.inj h)
end Go.Proofs.YtilgbnnjecpneaaGreatDoor
