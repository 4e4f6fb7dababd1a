/- Texts of the proof, put together by program: PureOk, WSz, WTo, WOwn. -/
import Derived.Test.YtilgbnnjecpneaaGreatDoorR7
import Derived.Test.YtilgbnnjecpneaaGreatDoorR1
import Derived.Test.YtilgbnnjecpneaaGreatDoorR5
/- The program's look at a tree is the model's: plain lists and numbers. -/
namespace Go.Proofs.YtilgbnnjecpneaaGreatDoor

theorem treesP_ok {α : Type} {f : α → Int → Bool × Int} {F : α → Bool} {M : α → Nat} (ha : ∀ x l, 0 ≤ l → F x = true → (M x : Int) ≤ l → f x l = (true, l - M x)) :
    ∀ (xs : List α) (l : Int), 0 ≤ l → xs.all F = true → (((xs.map M).sum : Nat) : Int) ≤ l → treesP f xs l = (true, l - ((xs.map M).sum : Nat))
  | [], l, _, _, _ => by simp [treesP]
  | x :: r, l, h0, hF, hM => by
    simp only [List.all_cons, Bool.and_eq_true] at hF
    simp only [List.map_cons, List.sum_cons] at hM ⊢
    rw [treesP, ha x l h0 hF.1 (by omega)]
    simp only [if_true]
    rw [treesP_ok ha r (l - M x) (by omega) hF.2 (by omega)]
    congr 1
    omega
theorem treesP_no {α : Type} {f : α → Int → Bool × Int} {F : α → Bool} {M : α → Nat} (ha : ∀ x l, 0 ≤ l → F x = true → (M x : Int) ≤ l → f x l = (true, l - M x))
    (hb : ∀ x l, 0 ≤ l → ¬ (F x = true ∧ (M x : Int) ≤ l) → (f x l).1 = false) :
    ∀ (xs : List α) (l : Int), 0 ≤ l → ¬ (xs.all F = true ∧ (((xs.map M).sum : Nat) : Int) ≤ l) → (treesP f xs l).1 = false
  | [], l, h0, h => absurd ⟨rfl, by simpa using h0⟩ h
  | x :: r, l, h0, h => by
    rw [treesP]
    by_cases hx : F x = true ∧ (M x : Int) ≤ l
    · rw [ha x l h0 hx.1 hx.2]
      simp only [if_true]
      refine treesP_no ha hb r (l - M x) (by omega) (fun hr => h ⟨?_, ?_⟩)
      · simp [hx.1, hr.1]
      · simp only [List.map_cons, List.sum_cons]
        omega
    · rw [hb x l h0 hx]
      rfl

theorem bareB_iff {num : Int} {str : ByteArray} {nk nl : Nat} : bareB num str nk nl = true ↔ num = 0 ∧ str.toList = [] ∧ nk = 0 ∧ nl = 0 := by
  simp [bareB, and_assoc]
theorem headBad_iff {kind num : Int} {str : ByteArray} {nk nl : Nat} {deep : Int} : headBad kind num str nk nl deep = false ↔
    ¬ deep < 1 ∧ (kind ≠ 3 → num = 0) ∧ (kind ≠ 4 → str.toList = []) ∧ (kind ≠ 6 → nk = 0) ∧ (kind < 5 → nl = 0) := by
  constructor
  · exact head_good
  · rintro ⟨a, b, c, e, f⟩
    cases h : headBad kind num str nk nl deep with
    | false => rfl
    | true =>
      simp only [headBad, Bool.or_eq_true, Bool.and_eq_true, decide_eq_true_eq, bne_iff_ne, ne_eq, Bool.not_eq_true', beq_eq_false_iff_ne] at h
      rcases h with (((h | h) | h) | h) | h
      · exact absurd h a
      · exact absurd (b h.1) h.2
      · exact absurd (c h.1) h.2
      · have := e h.1; omega
      · have := f h.1; omega
theorem empty_toList : ByteArray.empty.toList = [] := by simp [ByteArray.toList_eq]

/-- The one case of a part that a row or a map is not. -/
theorem treeP_node : ∀ (d : Nat) (t : Tr d) (l deep : Int), 0 ≤ l → 0 ≤ deep →
    (formT d t (7 - deep) = true → (manyT d t (7 - deep) : Int) ≤ l → treeP d t l deep = (true, l - (manyT d t (7 - deep) : Nat))) ∧
    (¬ (formT d t (7 - deep) = true ∧ (manyT d t (7 - deep) : Int) ≤ l) → (treeP d t l deep).1 = false)
  | 0, _, l, deep, _, _ => ⟨fun h => by simp [formT] at h, fun _ => rfl⟩
  | d + 1, t, l, deep, h0, hd => by
    obtain ⟨kind, num, str, keys, list⟩ := t
    have ih := treeP_node d
    have iha : ∀ (x : Tr d) (l : Int), 0 ≤ l → formT d x (7 - deep - 1) = true → (manyT d x (7 - deep - 1) : Int) ≤ l → treeP d x l (deep + 1) = (true, l - (manyT d x (7 - deep - 1) : Nat)) := fun x l hl => by
      have := (ih x l (deep + 1) hl (by omega)).1
      rwa [show 7 - (deep + 1) = 7 - deep - 1 by omega] at this
    have ihb : ∀ (x : Tr d) (l : Int), 0 ≤ l → ¬ (formT d x (7 - deep - 1) = true ∧ (manyT d x (7 - deep - 1) : Int) ≤ l) → (treeP d x l (deep + 1)).1 = false := fun x l hl => by
      have := (ih x l (deep + 1) hl (by omega)).2
      rwa [show 7 - (deep + 1) = 7 - deep - 1 by omega] at this
    have hform : formT (d + 1) (Nd.mk kind num str keys list) (7 - deep) = (!headBad kind num str keys.length list.length (7 - deep) &&
      (if kind = 0 ∨ kind = 1 ∨ kind = 2 then true else if kind = 3 then decide (-1000000 ≤ num ∧ num ≤ 1000000) else if kind = 4 then strOk str
       else if kind = 6 then keys.length == list.length && keysB keys && list.all (fun x => formT d x (7 - deep - 1)) else if kind = 5 then list.all (fun x => formT d x (7 - deep - 1)) else false)) := rfl
    have hmany : manyT (d + 1) (Nd.mk kind num str keys list) (7 - deep) = 1 + (if 0 < 7 - deep then (list.map (fun x => manyT d x (7 - deep - 1))).sum else 0) := rfl
    have htree : treeP (d + 1) (Nd.mk kind num str keys list) l deep = if takeB l deep = false then (false, l)
      else if kind = 0 ∨ kind = 1 ∨ kind = 2 then (bareB num str keys.length list.length, l - 1)
      else if kind = 3 then (decide (-1000000 ≤ num ∧ num ≤ 1000000) && bareB 0 str keys.length list.length, l - 1)
      else if kind = 4 then (strOk str && bareB num ByteArray.empty keys.length list.length, l - 1)
      else if kind = 5 then ((treesP (fun x l => treeP d x l (deep + 1)) list (l - 1)).1 && bareB num str keys.length 0, (treesP (fun x l => treeP d x l (deep + 1)) list (l - 1)).2)
      else if kind = 6 then ((treesP (fun x l => treeP d x l (deep + 1)) list (l - 1)).1 && (keys.length == list.length) && keysB keys && bareB num str 0 0, (treesP (fun x l => treeP d x l (deep + 1)) list (l - 1)).2)
      else (false, l - 1) := rfl
    rw [hform, hmany, htree]
    clear hform hmany htree
    cases hb : takeB l deep with
    | false =>
      rw [if_pos rfl]
      refine ⟨fun h1 h2 => ?_, fun _ => rfl⟩
      simp only [takeB, decide_eq_false_iff_not] at hb
      simp only [Bool.and_eq_true, Bool.not_eq_true'] at h1
      have h3 := (headBad_iff.1 h1.1).1
      omega
    | true =>
    rw [if_neg (show ¬ (true = false) by simp)]
    simp only [takeB, decide_eq_true_eq] at hb
    have hl1 : 0 ≤ l - 1 := by omega
    rw [if_pos (show 0 < 7 - deep by omega)]
    have hhb : headBad kind num str keys.length list.length (7 - deep) = false ↔ (kind ≠ 3 → num = 0) ∧ (kind ≠ 4 → str.toList = []) ∧ (kind ≠ 6 → keys.length = 0) ∧ (kind < 5 → list.length = 0) := by
      rw [headBad_iff]
      exact ⟨fun h => h.2, fun h => ⟨by omega, h⟩⟩
    -- a part without parts
    have leaf : ∀ (X B : Bool), kind < 5 → (X = true → B = true → list.length = 0) → (X = true ∧ B = true ↔ headBad kind num str keys.length list.length (7 - deep) = false ∧ X = true) →
        (((!headBad kind num str keys.length list.length (7 - deep)) && X) = true → ((1 + (list.map (fun x => manyT d x (7 - deep - 1))).sum : Nat) : Int) ≤ l → ((X && B, l - 1) : Bool × Int) = (true, l - ((1 + (list.map (fun x => manyT d x (7 - deep - 1))).sum : Nat) : Int))) ∧
        (¬ (((!headBad kind num str keys.length list.length (7 - deep)) && X) = true ∧ ((1 + (list.map (fun x => manyT d x (7 - deep - 1))).sum : Nat) : Int) ≤ l) → ((X && B, l - 1) : Bool × Int).1 = false) := by
      intro X B hk hz hiff
      refine ⟨fun h1 h2 => ?_, fun h => ?_⟩
      · simp only [Bool.and_eq_true, Bool.not_eq_true'] at h1
        have h3 := hiff.2 h1
        have h4 := hz h3.1 h3.2
        obtain rfl : list = [] := List.eq_nil_of_length_eq_zero h4
        rw [h3.1, h3.2]
        simp
      · cases hXB : (X && B) with
        | false => rfl
        | true =>
          simp only [Bool.and_eq_true] at hXB
          have h4 := hz hXB.1 hXB.2
          obtain rfl : list = [] := List.eq_nil_of_length_eq_zero h4
          refine absurd ⟨?_, ?_⟩ h
          · have := hiff.1 hXB
            rw [this.1, this.2]
            rfl
          · simp
            omega
    by_cases k0 : kind = 0 ∨ kind = 1 ∨ kind = 2
    · rw [if_pos k0, if_pos k0]
      have := leaf true (bareB num str keys.length list.length) (by omega) (fun _ h => (bareB_iff.1 h).2.2.2) (by
        rw [hhb, bareB_iff]
        constructor
        · rintro ⟨_, a, b, c, e⟩; exact ⟨⟨fun _ => a, fun _ => b, fun _ => c, fun _ => e⟩, rfl⟩
        · rintro ⟨⟨a, b, c, e⟩, _⟩; exact ⟨rfl, a (by omega), b (by omega), c (by omega), e (by omega)⟩)
      simpa using this
    rw [if_neg k0, if_neg k0]
    by_cases k3 : kind = 3
    · rw [if_pos k3, if_pos k3]
      exact leaf _ (bareB 0 str keys.length list.length) (by omega) (fun _ h => (bareB_iff.1 h).2.2.2) (by
        rw [hhb, bareB_iff]
        constructor
        · rintro ⟨X, _, b, c, e⟩; exact ⟨⟨fun h => absurd k3 h, fun _ => b, fun _ => c, fun _ => e⟩, X⟩
        · rintro ⟨⟨a, b, c, e⟩, X⟩; exact ⟨X, rfl, b (by omega), c (by omega), e (by omega)⟩)
    rw [if_neg k3, if_neg k3]
    by_cases k4 : kind = 4
    · rw [if_pos k4, if_pos k4]
      exact leaf _ (bareB num ByteArray.empty keys.length list.length) (by omega) (fun _ h => (bareB_iff.1 h).2.2.2) (by
        rw [hhb, bareB_iff]
        constructor
        · rintro ⟨X, a, _, c, e⟩; exact ⟨⟨fun _ => a, fun h => absurd k4 h, fun _ => c, fun _ => e⟩, X⟩
        · rintro ⟨⟨a, b, c, e⟩, X⟩; exact ⟨X, a (by omega), empty_toList, c (by omega), e (by omega)⟩)
    rw [if_neg k4, if_neg k4]
    -- a part with parts
    have deepn : ∀ (X B : Bool), (X = true ∧ B = true ↔ headBad kind num str keys.length list.length (7 - deep) = false ∧ X = true) →
        (((!headBad kind num str keys.length list.length (7 - deep)) && (X && list.all (fun x => formT d x (7 - deep - 1)))) = true → ((1 + (list.map (fun x => manyT d x (7 - deep - 1))).sum : Nat) : Int) ≤ l →
          (((treesP (fun x l => treeP d x l (deep + 1)) list (l - 1)).1 && X && B, (treesP (fun x l => treeP d x l (deep + 1)) list (l - 1)).2) : Bool × Int) = (true, l - ((1 + (list.map (fun x => manyT d x (7 - deep - 1))).sum : Nat) : Int))) ∧
        (¬ (((!headBad kind num str keys.length list.length (7 - deep)) && (X && list.all (fun x => formT d x (7 - deep - 1)))) = true ∧ ((1 + (list.map (fun x => manyT d x (7 - deep - 1))).sum : Nat) : Int) ≤ l) →
          (((treesP (fun x l => treeP d x l (deep + 1)) list (l - 1)).1 && X && B, (treesP (fun x l => treeP d x l (deep + 1)) list (l - 1)).2) : Bool × Int).1 = false) := by
      intro X B hiff
      refine ⟨fun h1 h2 => ?_, fun h => ?_⟩
      · simp only [Bool.and_eq_true, Bool.not_eq_true'] at h1
        have h3 := hiff.2 ⟨h1.1, h1.2.1⟩
        rw [treesP_ok iha list (l - 1) hl1 h1.2.2 (by omega), h3.1, h3.2]
        simp only [Bool.and_true, Prod.mk.injEq, true_and]
        omega
      · by_cases hr : list.all (fun x => formT d x (7 - deep - 1)) = true ∧ (((list.map (fun x => manyT d x (7 - deep - 1))).sum : Nat) : Int) ≤ l - 1
        · cases hXB : (X && B) with
          | false =>
            show ((treesP (fun x l => treeP d x l (deep + 1)) list (l - 1)).1 && X && B) = false
            rw [Bool.and_assoc, hXB, Bool.and_false]
          | true =>
            simp only [Bool.and_eq_true] at hXB
            refine absurd ⟨?_, by omega⟩ h
            have := hiff.1 hXB
            rw [this.1, this.2, hr.1]
            rfl
        · show ((treesP (fun x l => treeP d x l (deep + 1)) list (l - 1)).1 && X && B) = false
          rw [treesP_no iha ihb list (l - 1) hl1 hr]
          rfl
    by_cases k5 : kind = 5
    · rw [if_pos k5, if_neg (show ¬ kind = 6 by omega), if_pos k5]
      have := deepn true (bareB num str keys.length 0) (by
        rw [hhb, bareB_iff]
        constructor
        · rintro ⟨X, a, b, c, e⟩; exact ⟨⟨fun _ => a, fun _ => b, fun _ => c, fun h => by omega⟩, X⟩
        · rintro ⟨⟨a, b, c, e⟩, X⟩; exact ⟨X, a (by omega), b (by omega), c (by omega), rfl⟩)
      simpa using this
    rw [if_neg k5, if_neg k5]
    by_cases k6 : kind = 6
    · rw [if_pos k6, if_pos k6]
      have := deepn (keys.length == list.length && keysB keys) (bareB num str 0 0) (by
        rw [hhb, bareB_iff]
        constructor
        · rintro ⟨X, a, b, c, e⟩; exact ⟨⟨fun _ => a, fun _ => b, fun h => absurd k6 h, fun h => by omega⟩, X⟩
        · rintro ⟨⟨a, b, c, e⟩, X⟩; exact ⟨X, a (by omega), b (by omega), rfl, rfl⟩)
      simpa [Bool.and_assoc] using this
    · rw [if_neg k6, if_neg k6]
      exact ⟨fun h => by simp at h, fun _ => rfl⟩

theorem treeP_okT (d : Nat) (t : Tr d) : (treeP d t 60 1).1 = okT d t := by
  have h := treeP_node d t 60 1 (by omega) (by omega)
  rw [show (7 : Int) - 1 = 6 from rfl] at h
  unfold okT
  by_cases hc : formT d t 6 = true ∧ (manyT d t 6 : Int) ≤ 60
  · rw [h.1 hc.1 hc.2, hc.1, decide_eq_true (by omega)]
    rfl
  · rw [h.2 hc]
    cases hf : formT d t 6 with
    | false => rfl
    | true =>
      rw [decide_eq_false (fun hm => hc ⟨hf, by omega⟩)]
      rfl
end Go.Proofs.YtilgbnnjecpneaaGreatDoor

/- szStringS, szVal, szValS: how much a tree takes. -/
namespace Go.Proofs.YtilgbnnjecpneaaGreatDoor
open Go.RowKit
set_option maxHeartbeats 400000 in
theorem szStringS_any (S : Nat → Prop) (ss : List ByteArray) (v : Value) (left : Int) (w : World) (hv : StrsAt S w v ss) (h0 : 0 ≤ left) (h1 : left ≤ 1048576) :
    Calls Tryz.prog 30 #[v, .int .i64 left] w fun e w' => e = .returned (.int .i64 (szStrs ss left)) ∧ w' = w := by
  obtain ⟨a, cap, rfl, hlen⟩ := hv.open'
  by_cases hlt : left - ss.length < 0
  · have hfin : Hid (szStrs ss left = -1) := if_pos hlt
    go_enter Tryz.func30, Tryz.ntmps30
    go_wp2_with fail
    go_ret
    rw [hfin.out]
    exact ⟨rfl, rfl⟩
  · have hfin : Hid (szStrs ss left = szStrsGo ss (left - ss.length)) := if_neg hlt
    go_enter Tryz.func30, Tryz.ntmps30
    go_wp2_with fail
    go_loop [1, 5] (fun l i => ∃ (k : Nat) (m : Int), k ≤ ss.length ∧ i = .int .i64 k ∧ l = .int .i64 m ∧ 0 ≤ m ∧ m ≤ 1048576 ∧ Hid (szStrs ss left = szStrsGo (ss.drop k) m)) (fun _ i => ss.length - (intOf i).toNat)
    case atStart => exact ⟨0, _, Nat.zero_le _, rfl, rfl, by omega, by omega, hfin⟩
    case round =>
      clear hfin
      obtain ⟨k, m, hk, rfl, rfl, hm0, hm1, hfin⟩ := hrel
      by_cases hkl : k < ss.length
      · obtain ⟨b, o, s, rfl, _, hs, hb, hck⟩ := hv.cell hkl
        have hst : Hid (_ = _) := szStrsGo_step hs m
        clear hs hv
        by_cases hneg : m - s.size < 0
        · go_wp2_with fail
          go_ret
          rw [hfin.out, hst.out, if_pos hneg]
          exact ⟨rfl, rfl⟩
        · go_wp2_with fail
          go_round
          case rel => exact ⟨k + 1, m - s.size, by omega, by go_num, rfl, by omega, by omega, by rw [hfin.out, hst.out, if_neg (by omega)]; exact rfl⟩
          case measure => simp [intOf]; omega
      · go_wp2_with fail
        go_ret
        rw [hfin.out, List.drop_eq_nil_of_le (by omega)]
        exact ⟨rfl, rfl⟩

/-- What szVal does with trees of this depth. -/
def SzVal (d : Nat) : Prop := ∀ (S : Nat → Prop) (t : Tr d) (v : Value) (left : Int) (w : World), ValAt S w d t v → Within S w → 0 ≤ left → left ≤ 1048576 →
    Calls Tryz.prog 9 #[v, .int .i64 left] w fun e w' => e = .returned (.int .i64 (szT d t left)) ∧ Below w.heap.size w w'

set_option maxHeartbeats 400000 in
theorem szValS_any (d : Nat) (H : SzVal d) (S : Nat → Prop) (xs : List (Tr d)) (v : Value) (left : Int) (w : World) (hv : RowAt S w (ValAt S w d) v xs) (hS : Within S w) (h0 : 0 ≤ left) (h1 : left ≤ 1048576) :
    Calls Tryz.prog 31 #[v, .int .i64 left] w fun e w' => e = .returned (.int .i64 (szL (szT d) xs left)) ∧ Below w.heap.size w w' := by
  obtain ⟨a, cap, rfl, hlen⟩ := hv.open'
  by_cases hlt : left - xs.length < 0
  · have hfin : Hid (szL (szT d) xs left = -1) := if_pos hlt
    go_enter Tryz.func31, Tryz.ntmps31
    go_wp2_with fail
    go_ret
    rw [hfin.out]
    exact ⟨rfl, Below.refl _ _⟩
  · have hfin : Hid (szL (szT d) xs left = szLGo (szT d) xs (left - xs.length)) := if_neg hlt
    go_enter Tryz.func31, Tryz.ntmps31
    go_wp2_with fail
    go_loopw [1, 5] (fun l i wr => ∃ (k : Nat) (m : Int), k ≤ xs.length ∧ i = .int .i64 k ∧ l = .int .i64 m ∧ 0 ≤ m ∧ m ≤ 1048576 ∧ Hid (szL (szT d) xs left = szLGo (szT d) (xs.drop k) m) ∧ Below w.heap.size w wr) (fun _ i _ => xs.length - (intOf i).toNat)
    case atStart => exact ⟨0, _, Nat.zero_le _, rfl, rfl, by omega, by omega, hfin, Below.refl _ _⟩
    case round =>
      clear hfin
      obtain ⟨k, m, hk, rfl, rfl, hm0, hm1, hfin, hbel⟩ := hrel
      by_cases hkl : k < xs.length
      · have hv' := hv.same (hS.same hbel)
        obtain ⟨b, o, x, c0, c1, c2, c3, c4, rfl, _, hx, e0, e1, e2, e3, e4, hval⟩ := hv'.cell hkl
        have hst : Hid (_ = _) := szLGo_step (szT d) hx m
        have hle := szT_le d x m hm0
        clear hv hv' hx
        go_wp2_with fail
        refine (H S x _ m wr hval (hS.later hbel.size) hm0 hm1).mono ?_
        rintro e w1 ⟨rfl, hb1⟩
        have hb2 : Below w.heap.size w w1 := below_trans hbel hb1
        clear hb1 hbel hval e0 e1 e2 e3 e4
        by_cases hneg : szT d x m < 0
        · go_wp2_with fail
          go_ret
          rw [hfin.out, hst.out, if_pos hneg]
          exact ⟨rfl, hb2⟩
        · go_wp2_with fail
          go_roundw
          case rel => exact ⟨k + 1, szT d x m, by omega, by go_num, rfl, by omega, by omega, by rw [hfin.out, hst.out, if_neg (by omega)]; exact rfl, hb2⟩
          case measure => simp [intOf]; omega
      · go_wp2_with fail
        go_ret
        rw [hfin.out, List.drop_eq_nil_of_le (by omega)]
        exact ⟨rfl, hbel⟩

set_option maxHeartbeats 400000 in
theorem szVal_any : ∀ (d : Nat), SzVal d
  | 0 => fun _ _ _ _ _ h => h.elim
  | d + 1 => by
    intro S t v left w hv hS h0 h1
    have ih := szVal_any d
    obtain ⟨vk, vl, rfl, i1, i2, i3, hk, hl⟩ := hv
    obtain ⟨ak, ck, rfl, hkl⟩ := hk.open'
    obtain ⟨al, cl, rfl, hll⟩ := hl.open'
    by_cases hn1 : left - (Nd.str t).size < 0
    · have hfin : Hid (szT (d + 1) t left = -1) := if_pos hn1
      go_enter Tryz.func9, Tryz.ntmps9
      go_wp2_with fail
      go_ret
      rw [hfin.out]
      exact ⟨rfl, (Below.refl _ _).alloc (Nat.le_refl _) _⟩
    · have hle := szStrs_le (Nd.keys t) (left - (Nd.str t).size) (by omega)
      go_enter Tryz.func9, Tryz.ntmps9
      go_wp2_with fail
      have hba := below_alloc1 w (Obj.cells #[Value.int IntKind.i64 t.kind, Value.int IntKind.i64 t.num, Value.string t.str, Value.slice ak t.keys.length ck, Value.slice al t.list.length cl] 25)
      refine (szStringS_any S t.keys _ _ _ (hk.same (hS.same hba)) hn1 (by omega)).mono ?_
      rintro e w1 ⟨rfl, rfl⟩
      by_cases hn2 : szStrs t.keys (left - t.str.size) < 0
      · have hfin : Hid (szT (d + 1) t left = -1) := by
          show szT (d + 1) t left = -1
          rw [szT, if_neg (by omega), if_pos hn2]
        go_wp2_with fail
        go_ret
        rw [hfin.out]
        exact ⟨rfl, hba⟩
      · have hle2 := szL_le (szT d) (szT_le d) t.list _ (Int.not_lt.1 hn2)
        go_wp2_with fail
        refine (szValS_any d ih S t.list _ _ _ (hl.same (hS.same hba)) (hS.later hba.size) (by omega) (by omega)).mono ?_
        rintro e w1 ⟨rfl, hb1⟩
        have hb2 : Below w.heap.size w w1 := below_trans hba hb1
        by_cases hn3 : szL (szT d) t.list (szStrs t.keys (left - t.str.size)) < 0
        · have hfin : Hid (szT (d + 1) t left = -1) := by
            show szT (d + 1) t left = -1
            rw [szT, if_neg (by omega), if_neg (by omega), if_pos hn3]
          go_wp2_with fail
          go_ret
          rw [hfin.out]
          exact ⟨rfl, hb2⟩
        · have hfin : Hid (szT (d + 1) t left = szL (szT d) t.list (szStrs t.keys (left - t.str.size))) := by
            show szT (d + 1) t left = _
            rw [szT, if_neg (by omega), if_neg (by omega), if_neg hn3]
          go_wp2_with fail
          go_ret
          rw [hfin.out]
          exact ⟨rfl, hb2⟩
end Go.Proofs.YtilgbnnjecpneaaGreatDoor

/- toStringS, toVal, toValS: a copy of a tree, in new memory. -/
namespace Go.Proofs.YtilgbnnjecpneaaGreatDoor
open Go.RowKit Go.Deep
set_option maxHeartbeats 400000 in
theorem toStringS_any (S : Nat → Prop) (ss : List ByteArray) (v : Value) (w : World) (hv : StrsAt S w v ss) (hS : Within S w) :
    Calls Tryz.prog 36 #[v] w fun e w' => ∃ u, e = .returned u ∧ StrsAt (Fresh w w') w' u ss ∧ Below w.heap.size w w' := by
  obtain ⟨a, cap, rfl, hlen⟩ := hv.open'
  have hmk := run_make_row' (P := Tryz.prog) 22 9 (.string ByteArray.empty) 16 Tryz.underlying22 Tryz.infoStr rfl .i64 .i64 ss.length (by omega) (by omega)
  have hb0 : Below w.heap.size w (w.alloc (.cells (madeCells #[.string ByteArray.empty] ss.length) 9)) := below_alloc1 _ _
  have hr0 := World.rowIs_made w (.string ByteArray.empty) ss.length 9
  go_enter Tryz.func36, Tryz.ntmps36
  go_wp2_with fail
  go_loopw [4] (fun i wr => ∃ (k : Nat), k ≤ ss.length ∧ i = .int .i64 k ∧ wr.rowIs w.heap.size 9 ss.length (strTo ss k) ∧ Below w.heap.size w wr) (fun i _ => ss.length - (intOf i).toNat)
  case atStart => exact ⟨0, Nat.zero_le _, rfl, hr0.congr (fun i _ => rfl), hb0⟩
  case round =>
    clear hb0 hr0 hmk
    obtain ⟨k, hk, rfl, hrow, hbel⟩ := hrel
    by_cases hkl : k < ss.length
    · obtain ⟨b, o, s, rfl, hb, hs, hsb, hck⟩ := (hv.same (hS.same hbel)).cell hkl
      have hc1 := hrow.cell hkl
      have hf1 := hrow.frozen k
      have hrow' := (hrow.set k (.string s)).congr (fun j _ => strTo_set ss k hs j)
      have hbel' := hbel.setCell (p := ⟨w.heap.size, k, none⟩) (Nat.le_refl _) (.string s)
      have HR := And.intro hrow' hbel'
      have HR' : Hid _ := HR
      clear hrow' hbel' HR hv hs hrow hbel
      go_wp2_with fail
      go_roundw
      case rel => exact ⟨k + 1, by omega, by go_num, HR'.out.1, HR'.out.2⟩
      case measure => simp [intOf]; omega
    · go_wp2_with fail
      go_ret
      refine ⟨_, rfl, ⟨hlen, ?_, _, _, rfl, ?_⟩, hbel⟩
      · obtain ⟨_, h2, _⟩ := hv
        exact h2
      · refine Or.inr ⟨w.heap.size, 0, ⟨Nat.le_refl _, hrow.lt⟩, rfl, fun i s hi => ?_⟩
        obtain ⟨hi', e⟩ := List.getElem?_eq_some_iff.1 hi
        have := hrow.cell hi'
        rw [Nat.zero_add, this, strTo, if_pos (by omega)]
        simp [hi]

/-- What toVal does with trees of this depth. -/
def ToVal (d : Nat) : Prop := ∀ (S : Nat → Prop) (t : Tr d) (v : Value) (w : World), ValAt S w d t v → Within S w →
    Calls Tryz.prog 11 #[v] w fun e w' => ∃ u, e = .returned u ∧ ValAt (Fresh w w') w' d t u ∧ Below w.heap.size w w'

set_option maxHeartbeats 1000000 in
theorem toValS_any (d : Nat) (H : ToVal d) (S : Nat → Prop) (xs : List (Tr d)) (v : Value) (w : World) (hv : RowAt S w (ValAt S w d) v xs) (hS : Within S w) :
    Calls Tryz.prog 37 #[v] w fun e w' => ∃ u, e = .returned u ∧ RowAt (Fresh w w') w' (ValAt (Fresh w w') w' d) u xs ∧ Below w.heap.size w w' := by
  obtain ⟨a, cap, rfl, hlen⟩ := hv.open'
  have hmk := run_make5 xs.length hlen
  have hb0 : Below w.heap.size w (w.alloc (.cells (madeCells zero5 (xs.length * 5)) 29)) := below_alloc1 _ _
  have hr0 : Filled (d := d) w.heap.size 29 (xs.length * 5) xs (w.alloc (.cells (madeCells zero5 (xs.length * 5)) 29)) 0 (fun j => (madeCells zero5 (xs.length * 5)).getD j undef) := by
    refine ⟨?_, fun j x hj => by omega⟩
    have := World.rowIs_alloc w (madeCells zero5 (xs.length * 5)) 29 (fun j => (madeCells zero5 (xs.length * 5)).getD j undef) (fun i hi => by simp [hi])
    rwa [size_madeCells] at this
  have HB : Hid _ := And.intro hb0 hr0
  clear hb0 hr0
  go_enter Tryz.func37, Tryz.ntmps37
  go_wp2_with fail
  go_loopw [4] (fun i wr => ∃ (k : Nat) (f : Nat → Value), k ≤ xs.length ∧ i = .int .i64 k ∧ Filled w.heap.size 29 (xs.length * 5) xs wr k f ∧ Below w.heap.size w wr) (fun i _ => xs.length - (intOf i).toNat)
  case atStart => exact ⟨0, _, Nat.zero_le _, rfl, HB.out.2, HB.out.1⟩
  case round =>
    clear HB hmk
    obtain ⟨k, f, hk, rfl, hrow, hbel⟩ := hrel
    by_cases hkl : k < xs.length
    · obtain ⟨b, o, x, c0, c1, c2, c3, c4, rfl, hb, hx, e0, e1, e2, e3, e4, hval⟩ := (hv.same (hS.same hbel)).cell hkl
      go_wp2_with fail
      refine (H S x _ wr hval (hS.later hbel.size)).mono ?_
      rintro e w1 ⟨u, rfl, hu, hb1⟩
      obtain ⟨v0, v1, v2, v3, v4, v5, v6, v7, v8, rfl⟩ := hu.shape
      have hrow' := hrow.step hb1 hx hu
      have hbel' := below_set5 (hbel.trans (hb1.mono hbel.size)) (Nat.le_refl w.heap.size) (k * 5) (.int .i64 v0) (.int .i64 v1) (.string v2) (.slice v3 v4 v5) (.slice v6 v7 v8)
      have HR : Hid _ := And.intro hrow' hbel'
      have hr1 := hrow.1.of_block (hb1.block w.heap.size hrow.1.lt)
      have g0 := hr1.cell (i := k * 5) (by omega)
      have g1 := hr1.cell (i := k * 5 + 1) (by omega)
      have g2 := hr1.cell (i := k * 5 + 2) (by omega)
      have g3 := hr1.cell (i := k * 5 + 3) (by omega)
      have g4 := hr1.cell (i := k * 5 + 4) (by omega)
      have z0 := hr1.frozen (k * 5)
      have z1 := hr1.frozen (k * 5 + 1)
      have z2 := hr1.frozen (k * 5 + 2)
      have z3 := hr1.frozen (k * 5 + 3)
      have z4 := hr1.frozen (k * 5 + 4)
      clear hrow' hbel' hr1 hrow hbel hb1 hu hval e0 e1 e2 e3 e4 hv hx
      go_wp2_with fail
      go_roundw
      case rel => exact ⟨k + 1, _, by omega, by go_num, HR.out.1, HR.out.2⟩
      case measure => simp [intOf]; omega
    · go_wp2_with fail
      go_ret
      obtain rfl : k = xs.length := by omega
      refine ⟨_, rfl, ⟨hlen, _, _, rfl, ?_⟩, hbel⟩
      refine Or.inr ⟨w.heap.size, 0, ⟨Nat.le_refl _, hrow.1.lt⟩, rfl, fun i x hi => ?_⟩
      obtain ⟨hi', e⟩ := List.getElem?_eq_some_iff.1 hi
      rw [Nat.zero_add]
      exact ⟨_, _, _, _, _, hrow.1.cell (by omega), hrow.1.cell (by omega), hrow.1.cell (by omega), hrow.1.cell (by omega), hrow.1.cell (by omega),
        (hrow.2 i x hi' hi).mono (fun b hb => ⟨Nat.le_of_lt hb.1, hb.2⟩)⟩

set_option maxHeartbeats 1000000 in
theorem toVal_any : ∀ (d : Nat), ToVal d
  | 0 => fun _ _ _ _ h => h.elim
  | d + 1 => by
    intro S t v w hv hS
    have ih := toVal_any d
    obtain ⟨vk, vl, rfl, i1, i2, i3, hk, hl⟩ := hv
    obtain ⟨ak, ck, rfl, hkl⟩ := hk.open'
    obtain ⟨al, cl, rfl, hll⟩ := hl.open'
    go_enter Tryz.func11, Tryz.ntmps11
    go_wp2_with fail
    obtain ⟨k0, k1, k2, hb0, hsz⟩ := laid3 w 25 29 29 (.int .i64 t.kind) (.int .i64 t.num) (.string t.str) (.slice ak t.keys.length ck) (.slice al t.list.length cl)
      (.int .i64 0) (.int .i64 0) (.string { data := #[] }) (.slice none 0 0) (.slice none 0 0) (.int .i64 t.kind) (.int .i64 t.num) (.string t.str) (.slice none 0 0) (.slice none 0 0)
    refine (toStringS_any S t.keys _ _ (hk.same (hS.same hb0)) (hS.later hb0.size)).mono ?_
    rintro e w1 ⟨u1, rfl, hu1, hb1⟩
    obtain ⟨a1, c1, rfl, _⟩ := hu1.open'
    replace k0 := k0.below hb1
    replace k1 := k1.below hb1
    replace k2 := k2.below hb1
    have hu1' := hu1.mono (S' := After (w.heap.size + 2) w1) (fun b hb => ⟨by have := hb.1; omega, hb.2⟩)
    replace hb1 := below_trans hb0 hb1
    clear hb0 hsz hu1
    obtain ⟨_, _, _, _, z0⟩ := k0.cell
    obtain ⟨x0, x1, x2, x3, x4⟩ := k2.cell
    have x5 := k2.frozen 3
    have k0' := k0.other (a := ⟨w.heap.size + 1 + 1, 3, none⟩) (.slice a1 t.keys.length c1) (by simp; omega)
    have k1' := k1.other (a := ⟨w.heap.size + 1 + 1, 3, none⟩) (.slice a1 t.keys.length c1) (by simp)
    have k2' := k2.set3 (.slice a1 t.keys.length c1)
    go_wp2_with fail
    clear z0 x0 x1 x2 x3 x4 x5 k0 k1 k2 k0'
    have hs1 : Same (After (w.heap.size + 2) w1) w1 (w1.setCell ⟨w.heap.size + 1 + 1, 3, none⟩ (.slice a1 t.keys.length c1)) := fun b hb => Below.heap_setCell _ _ _ _ (by have := hb.1; show b ≠ w.heap.size + 1 + 1; omega)
    have hb2 := hb1.setCell (p := ⟨w.heap.size + 1 + 1, 3, none⟩) (by show w.heap.size ≤ w.heap.size + 1 + 1; omega) (.slice a1 t.keys.length c1)
    have hu2 := hu1'.same hs1
    have hz2 := size_setCell1 w1 ⟨w.heap.size + 1 + 1, 3, none⟩ (.slice a1 t.keys.length c1)
    refine (toValS_any d ih S t.list _ _ (hl.same (hS.same hb2)) (hS.later hb2.size)).mono ?_
    clear hb1 hu1' hs1
    rintro e w3 ⟨u3, rfl, hu3, hb3⟩
    obtain ⟨a3, c3, rfl, _⟩ := hu3.open'
    have hk2 := k2'.lt
    replace k1 := k1'.below hb3
    replace k2 := k2'.below hb3
    clear k1' k2'
    rw [hz2] at hk2
    have hu2' : StrsAt (After (w.heap.size + 2) w3) w3 (.slice a1 t.keys.length c1) t.keys := hu2.moved (fun b hb => hb3.block b (by rw [hz2]; exact hb.2)) (fun b hb => ⟨hb.1, Nat.lt_of_lt_of_le (by rw [hz2]; exact hb.2) hb3.size⟩)
    have hu3' := hu3.mono (S' := After (w.heap.size + 2) w3) (fun b hb => ⟨by have h1 := hb.1; rw [hz2] at h1; omega, hb.2⟩)
    have hb4 := below_trans hb2 hb3
    have hw3 := hb4.size
    clear hu2 hu3 hb2 hb3 hz2
    obtain ⟨y0, y1, y2, y3, y4⟩ := k1.cell
    have yf := k1.frozen
    obtain ⟨x0, x1, x2, x3, x4⟩ := k2.cell
    have xf := k2.frozen 4
    have hend : ∀ wF, wF = set5 (w3.setCell ⟨w.heap.size + 1 + 1, 4, none⟩ (.slice a3 t.list.length c3)) (w.heap.size + 1) 0 (.int .i64 t.kind) (.int .i64 t.num) (.string t.str) (.slice a1 t.keys.length c1) (.slice a3 t.list.length c3) →
        ValAt (Fresh w wF) wF (d + 1) t (.agg #[.int .i64 t.kind, .int .i64 t.num, .string t.str, .slice a1 t.keys.length c1, .slice a3 t.list.length c3]) ∧ Below w.heap.size w wF := by
      intro wF hF
      have hs : Same (After (w.heap.size + 2) w3) w3 wF := fun b hb => by
        have := hb.1
        rw [hF, set5_block _ _ _ _ _ _ _ _ _ (by omega), Below.heap_setCell _ _ _ _ (by show b ≠ w.heap.size + 1 + 1; omega)]
      have hA : ∀ b, After (w.heap.size + 2) w3 b → Fresh w wF b := fun b hb => ⟨by have := hb.1; omega, by rw [hF, set5_size, size_setCell1]; exact hb.2⟩
      refine ⟨⟨_, _, rfl, i1, i2, i3, hu2'.moved hs hA, hu3'.moved hs hA (fun x u hx => ValAt.moved hs hA d x u hx)⟩, ?_⟩
      rw [hF]
      exact below_set5 (hb4.setCell (by show w.heap.size ≤ w.heap.size + 1 + 1; omega) _) (by omega) _ _ _ _ _ _
    have HE : Hid _ := hend
    clear hend k1 k2 hu2' hu3' hb4 hk hl
    go_wp2_with fail
    refine bodyPost_ret (v := .agg #[.int .i64 t.kind, .int .i64 t.num, .string t.str, .slice a1 t.keys.length c1, .slice a3 t.list.length c3]) (by simp [results, Tryz.results11, go_sem, y0, y1, y2, y3, y4]) rfl ⟨_, rfl, HE.out _ rfl⟩
end Go.Proofs.YtilgbnnjecpneaaGreatDoor

/- Trees that own their memory: no two lists lie in one block, all cells may be written. -/
namespace Go.Proofs.YtilgbnnjecpneaaGreatDoor
open Go.RowKit Go.Deep

/-- A fact put by, its type as it is written. -/
theorem hide {p : Prop} (h : p) : Hid p := h

/-- Only blocks of S have turned; there may be new ones. -/
structure Turn (S : Nat → Prop) (w w' : World) : Prop where
  os : w'.os = w.os
  tape : w'.tape = w.tape
  output : w'.output = w.output
  size : w.heap.size ≤ w'.heap.size
  block : ∀ b, b < w.heap.size → ¬ S b → w'.heap[b]? = w.heap[b]?

theorem Turn.refl (S : Nat → Prop) (w : World) : Turn S w w := ⟨rfl, rfl, rfl, Nat.le_refl _, fun _ _ _ => rfl⟩
theorem Turn.trans {S : Nat → Prop} {a b c : World} (h : Turn S a b) (k : Turn S b c) : Turn S a c :=
  ⟨k.os.trans h.os, k.tape.trans h.tape, k.output.trans h.output, Nat.le_trans h.size k.size, fun i hi hn => (k.block i (Nat.lt_of_lt_of_le hi h.size) hn).trans (h.block i hi hn)⟩
theorem Turn.of_below {S : Nat → Prop} {w w' : World} (h : Below w.heap.size w w') : Turn S w w' := ⟨h.os, h.tape, h.output, h.size, fun i hi _ => h.block i hi⟩
theorem Turn.mono {S S' : Nat → Prop} {w w' : World} (h : Turn S w w') (hS : ∀ b, S b → S' b) : Turn S' w w' :=
  ⟨h.os, h.tape, h.output, h.size, fun i hi hn => h.block i hi (fun hb => hn (hS i hb))⟩
theorem Turn.same {S R : Nat → Prop} {w w' : World} (h : Turn S w w') (hw : Within R w) (hd : ∀ b, R b → ¬ S b) : Same R w w' := fun b hb => h.block b (hw b hb) (hd b hb)
theorem Turn.set {S : Nat → Prop} {w w' : World} (h : Turn S w w') {a : Addr} (ha : S a.block) (u : Value) : Turn S w (w'.setCell a u) :=
  h.trans ⟨rfl, rfl, rfl, by simp [World.setCell], fun i _ hn => Below.heap_setCell _ _ _ _ (fun e => hn (e ▸ ha))⟩
theorem Turn.below {S : Nat → Prop} {B : Nat} {w w' : World} (h : Turn S w w') (hB : B ≤ w.heap.size) (hS : ∀ b, S b → B ≤ b) : Below B w w' :=
  ⟨h.os, h.tape, h.output, h.size, fun b hb => h.block b (Nat.lt_of_lt_of_le hb hB) (fun hs => Nat.not_lt.2 (hS b hs) hb)⟩
theorem Turn.alloc {S : Nat → Prop} {w w' : World} (h : Turn S w w') (o : Obj) : Turn S w (w'.alloc o) := h.trans (Turn.of_below (below_alloc1 _ _))

/-- A slice of texts in a block of S that may be written. -/
def StrsOwn (S : Nat → Prop) (w : World) (v : Value) (ss : List ByteArray) : Prop :=
  ss.length < 17592186044416 ∧ (∀ s ∈ ss, s.size < 281474976710656) ∧
  ∃ a cap, v = .slice a ss.length cap ∧
    (ss = [] ∨ ∃ b n f, S b ∧ a = some ⟨b, 0, none⟩ ∧ ss.length ≤ n ∧ w.rowIs b 9 n f ∧ ∀ i s, ss[i]? = some s → f i = .string s)

/-- A slice of things of five cells each, in a block of S that may be written; each thing has blocks of its own. -/
def RowOwn {α : Type} (w : World) (At : (Nat → Prop) → α → Value → Prop) (S : Nat → Prop) (v : Value) (xs : List α) : Prop :=
  xs.length < 3518437208883 ∧
  ∃ a cap, v = .slice a xs.length cap ∧
    (xs = [] ∨ ∃ (b n : Nat) (f : Nat → Value) (P : Nat → Nat → Prop), S b ∧ a = some ⟨b, 0, none⟩ ∧ xs.length * 5 ≤ n ∧ w.rowIs b 29 n f ∧
      (∀ i c, P i c → S c ∧ c ≠ b) ∧ (∀ i j c, P i c → P j c → i = j) ∧
      ∀ i x, xs[i]? = some x → At (P i) x (.agg #[f (i * 5), f (i * 5 + 1), f (i * 5 + 2), f (i * 5 + 3), f (i * 5 + 4)]))

/-- A tree that owns its memory, which lies in blocks of S. -/
def ValOwn (w : World) : (d : Nat) → (Nat → Prop) → Tr d → Value → Prop
  | 0, _, _, _ => False
  | d + 1, S, t, v => ∃ vk vl Sk Sl, v = .agg #[.int .i64 (Nd.kind t), .int .i64 (Nd.num t), .string (Nd.str t), vk, vl] ∧
      I64 (Nd.kind t) ∧ I64 (Nd.num t) ∧ (Nd.str t).size < 281474976710656 ∧ StrsOwn Sk w vk (Nd.keys t) ∧ RowOwn w (fun P x u => ValOwn w d P x u) Sl vl (Nd.list t) ∧
      (∀ b, Sk b → S b) ∧ (∀ b, Sl b → S b) ∧ (∀ b, Sk b → ¬ Sl b)

theorem StrsOwn.at {S : Nat → Prop} {w : World} {v : Value} {ss : List ByteArray} (h : StrsOwn S w v ss) : StrsAt S w v ss := by
  obtain ⟨h1, h2, a, cap, hv, h3⟩ := h
  refine ⟨h1, h2, a, cap, hv, ?_⟩
  rcases h3 with h3 | ⟨b, n, f, hB, ha, hl, hr, hc⟩
  · exact Or.inl h3
  · refine Or.inr ⟨b, 0, hB, ha, fun i s hi => ?_⟩
    have := (List.getElem?_eq_some_iff.1 hi).1
    rw [Nat.zero_add, hr.cell (by omega), hc i s hi]
theorem RowOwn.at {α : Type} {w : World} {At : (Nat → Prop) → α → Value → Prop} {At' : α → Value → Prop} {S : Nat → Prop} {v : Value} {xs : List α} (h : RowOwn w At S v xs)
    (hi : ∀ P x u, (∀ b, P b → S b) → At P x u → At' x u) : RowAt S w At' v xs := by
  obtain ⟨h1, a, cap, hv, h3⟩ := h
  refine ⟨h1, a, cap, hv, ?_⟩
  rcases h3 with h3 | ⟨b, n, f, P, hB, ha, hl, hr, hP, _, hc⟩
  · exact Or.inl h3
  · refine Or.inr ⟨b, 0, hB, ha, fun i x hx => ?_⟩
    have := (List.getElem?_eq_some_iff.1 hx).1
    rw [Nat.zero_add]
    exact ⟨_, _, _, _, _, hr.cell (by omega), hr.cell (by omega), hr.cell (by omega), hr.cell (by omega), hr.cell (by omega), hi _ _ _ (fun c hc => (hP i c hc).1) (hc i x hx)⟩
theorem ValOwn.at {w : World} : ∀ (d : Nat) (S : Nat → Prop) (t : Tr d) (v : Value), ValOwn w d S t v → ValAt S w d t v
  | 0, _, _, _, h => h
  | d + 1, S, t, v, h => by
    obtain ⟨vk, vl, Sk, Sl, hv, i1, i2, i3, hk, hl, s1, s2, _⟩ := h
    exact ⟨vk, vl, hv, i1, i2, i3, hk.at.mono s1, (hl.at (At' := ValAt S w d) (fun P x u hP hx => (ValOwn.at d P x u hx).mono (fun b hb => s2 b (hP b hb)))).moved (Same.refl _ _) s2 (fun _ _ h => h)⟩

theorem StrsOwn.moved {S S' : Nat → Prop} {w w' : World} {v : Value} {ss : List ByteArray} (h : StrsOwn S w v ss) (hs : Same S w w') (hS : ∀ b, S b → S' b) : StrsOwn S' w' v ss := by
  obtain ⟨h1, h2, a, cap, hv, h3⟩ := h
  refine ⟨h1, h2, a, cap, hv, ?_⟩
  rcases h3 with h3 | ⟨b, n, f, hB, ha, hl, hr, hc⟩
  · exact Or.inl h3
  · exact Or.inr ⟨b, n, f, hS b hB, ha, hl, hr.of_block (hs b hB), hc⟩
theorem RowOwn.moved {α : Type} {w w' : World} {At At' : (Nat → Prop) → α → Value → Prop} {S S' : Nat → Prop} {v : Value} {xs : List α} (h : RowOwn w At S v xs) (hs : Same S w w') (hS : ∀ b, S b → S' b)
    (hi : ∀ P x u, (∀ b, P b → S b) → At P x u → At' P x u) : RowOwn w' At' S' v xs := by
  obtain ⟨h1, a, cap, hv, h3⟩ := h
  refine ⟨h1, a, cap, hv, ?_⟩
  rcases h3 with h3 | ⟨b, n, f, P, hB, ha, hl, hr, hP, hd, hc⟩
  · exact Or.inl h3
  · exact Or.inr ⟨b, n, f, P, hS b hB, ha, hl, hr.of_block (hs b hB), fun i c hc => ⟨hS c (hP i c hc).1, (hP i c hc).2⟩, hd, fun i x hx => hi _ _ _ (fun c hc => (hP i c hc).1) (hc i x hx)⟩
theorem ValOwn.moved {w w' : World} : ∀ (d : Nat) (S S' : Nat → Prop) (t : Tr d) (v : Value), ValOwn w d S t v → Same S w w' → (∀ b, S b → S' b) → ValOwn w' d S' t v
  | 0, _, _, _, _, h, _, _ => h
  | d + 1, S, S', t, v, h, hs, hS => by
    obtain ⟨vk, vl, Sk, Sl, hv, i1, i2, i3, hk, hl, s1, s2, s3⟩ := h
    exact ⟨vk, vl, Sk, Sl, hv, i1, i2, i3, hk.moved (fun b hb => hs b (s1 b hb)) (fun _ h => h), hl.moved (fun b hb => hs b (s2 b hb)) (fun _ h => h) (fun P x u hP hx => ValOwn.moved d P P x u hx (fun b hb => hs b (s2 b (hP b hb))) (fun _ h => h)),
      fun b hb => hS b (s1 b hb), fun b hb => hS b (s2 b hb), s3⟩
theorem ValOwn.same {w w' : World} {d : Nat} {S : Nat → Prop} {t : Tr d} {v : Value} (h : ValOwn w d S t v) (hs : Same S w w') : ValOwn w' d S t v := ValOwn.moved d S S t v h hs (fun _ h => h)
theorem ValOwn.mono {w : World} {d : Nat} {S S' : Nat → Prop} {t : Tr d} {v : Value} (h : ValOwn w d S t v) (hS : ∀ b, S b → S' b) : ValOwn w d S' t v := ValOwn.moved d S S' t v h (Same.refl _ _) hS
theorem RowOwn.same {w w' : World} {d : Nat} {S : Nat → Prop} {v : Value} {xs : List (Tr d)} (h : RowOwn w (fun P x u => ValOwn w d P x u) S v xs) (hs : Same S w w') : RowOwn w' (fun P x u => ValOwn w' d P x u) S v xs :=
  h.moved hs (fun _ h => h) (fun P x u hP hx => ValOwn.moved d P P x u hx (fun b hb => hs b (hP b hb)) (fun _ h => h))
theorem RowOwn.at' {w : World} {d : Nat} {S : Nat → Prop} {v : Value} {xs : List (Tr d)} (h : RowOwn w (fun P x u => ValOwn w d P x u) S v xs) : RowAt S w (ValAt S w d) v xs :=
  h.at (fun P x u hP hx => (ValOwn.at d P x u hx).mono hP)
theorem StrsOwn.open' {S : Nat → Prop} {w : World} {v : Value} {ss : List ByteArray} (h : StrsOwn S w v ss) : ∃ a cap, v = .slice a ss.length cap ∧ ss.length < 17592186044416 := h.at.open'
theorem RowOwn.open' {α : Type} {w : World} {At : (Nat → Prop) → α → Value → Prop} {S : Nat → Prop} {v : Value} {xs : List α} (h : RowOwn w At S v xs) : ∃ a cap, v = .slice a xs.length cap ∧ xs.length < 3518437208883 := by
  obtain ⟨h1, a, cap, hv, _⟩ := h
  exact ⟨a, cap, hv, h1⟩
end Go.Proofs.YtilgbnnjecpneaaGreatDoor
