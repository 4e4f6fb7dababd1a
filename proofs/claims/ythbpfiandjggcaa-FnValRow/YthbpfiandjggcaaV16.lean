/- Texts of the proof, put together by program: WLenB, WWt, WPartP, WUp, WDrawE. -/
import Derived.Test.YthbpfiandjggcaaV15
import Derived.Test.YthbpfiandjggcaaV5
import Derived.Test.YthbpfiandjggcaaV14
/- What is asked of the model; numbers of the model. -/
namespace Go.Proofs.Ythbpfiandjggcaa
open Go.RowKit Go.Deep

/-- What is asked of a function of the model that tells a tree and whether it can. -/
def SpecQ (d : Nat) (t : Tr (d + 1)) (ok : Bool) (w : World) (e : Ending) (w' : World) : Prop :=
  ∃ v, e = .returned (.tuple #[v, .bool ok]) ∧ ValAt (Fresh w w') w' (d + 1) t v ∧ Below w.heap.size w w'

theorem numAt (d : Nat) (n : Int) (hn : I64 n) (S : Nat → Prop) (w : World) : ValAt S w (d + 1) (numT d n) (.agg #[.int .i64 3, .int .i64 n, .string ByteArray.empty, .slice none 0 0, .slice none 0 0]) :=
  ValOwn.at _ _ _ _ (valOwn_leaf d 3 n ByteArray.empty w S ⟨by omega, by omega⟩ hn (by decide))
theorem zeroAt (d : Nat) (S : Nat → Prop) (w : World) : ValAt S w (d + 1) (zeroT d) zeroVal := ValOwn.at _ _ _ _ (zeroVal_own d w S)

end Go.Proofs.Ythbpfiandjggcaa

/- How many marks a tree takes: bounds. -/
namespace Go.Proofs.Ythbpfiandjggcaa

theorem szStrs_cnt (ss : List ByteArray) (left : Int) (h : 0 ≤ szStrs ss left) : (ss.length : Int) ≤ left - szStrs ss left := by
  rw [szStrs] at h ⊢
  split at h
  · omega
  rename_i n1
  rw [if_neg n1]
  have := szStrsGo_le ss (left - ss.length) (by omega)
  omega
theorem szLGo_wt {d : Nat} (ih : ∀ (t : Tr d) (left : Int), 0 ≤ left → 0 ≤ szT d t left → (wtT d t : Int) ≤ 3 + 3 * (left - szT d t left)) :
    ∀ (xs : List (Tr d)) (left : Int), 0 ≤ left → 0 ≤ szLGo (szT d) xs left → (((xs.map (wtT d)).sum : Nat) : Int) ≤ 3 * xs.length + 3 * (left - szLGo (szT d) xs left)
  | [], left, h0, h => by simp [szLGo]
  | x :: r, left, h0, h => by
    rw [szLGo] at h ⊢
    split at h
    · omega
    rename_i n1
    rw [if_neg n1]
    have h1 := ih x left h0 (by omega)
    have h2 := szLGo_wt ih r (szT d x left) (by omega) h
    simp only [List.map_cons, List.sum_cons, List.length_cons]
    omega
theorem szT_wt : ∀ (d : Nat) (t : Tr d) (left : Int), 0 ≤ left → 0 ≤ szT d t left → (wtT d t : Int) ≤ 3 + 3 * (left - szT d t left)
  | 0, _, left, h0, h => by simp [szT] at h
  | d + 1, t, left, h0, h => by
    rw [szT] at h ⊢
    split at h
    · omega
    rename_i n1
    split at h
    · omega
    rename_i n2
    split at h
    · omega
    rename_i n3
    rw [if_neg n1, if_neg n2, if_neg n3]
    have e1 := szStrs_cnt (Nd.keys t) (left - (Nd.str t).size) (by omega)
    rw [wtT]
    generalize szStrs (Nd.keys t) (left - (Nd.str t).size) = l2 at *
    rw [szL] at n3 ⊢
    split at n3
    · omega
    rename_i n4
    rw [if_neg n4]
    have e2 := szLGo_wt (szT_wt d) (Nd.list t) (l2 - (Nd.list t).length) (by omega) (by omega)
    omega

theorem wt_sum {d : Nat} {deep : Int} (ih : ∀ (t : Tr d), formT d t deep = true → wtT d t + 2 ≤ 5 * manyT d t deep) : ∀ (xs : List (Tr d)), xs.all (fun x => formT d x deep) = true → (xs.map (wtT d)).sum + 2 * xs.length ≤ 5 * (xs.map (fun x => manyT d x deep)).sum
  | [], _ => by simp
  | x :: r, h => by
    simp only [List.all_cons, Bool.and_eq_true] at h
    have h1 := ih x h.1
    have h2 := wt_sum ih r h.2
    simp only [List.map_cons, List.sum_cons, List.length_cons]
    omega
theorem wtT_form : ∀ (d : Nat) (t : Tr d) (deep : Int), formT d t deep = true → wtT d t + 2 ≤ 5 * manyT d t deep
  | 0, _, _, h => by simp [formT] at h
  | d + 1, t, deep, hf => by
    obtain ⟨kind, num, str, keys, list⟩ := t
    cases hb : headBad kind num str keys.length list.length deep with
    | true => rw [formT_bad hb] at hf; cases hf
    | false =>
    rw [formT_good hb] at hf
    obtain ⟨g0, g1, g2, g3, g4⟩ := headBad_iff.1 hb
    have hmany : manyT (d + 1) (Nd.mk kind num str keys list) deep = 1 + (if 0 < deep then (list.map (fun x => manyT d x (deep - 1))).sum else 0) := rfl
    have hwt : wtT (d + 1) (Nd.mk kind num str keys list) = 3 + keys.length + (list.map (wtT d)).sum := rfl
    rw [hmany, if_pos (by omega), hwt]
    by_cases k5 : kind < 5
    · obtain rfl := List.eq_nil_of_length_eq_zero (g4 k5)
      have := g3 (by omega)
      simp
      omega
    rw [if_neg (by omega), if_neg (by omega), if_neg (by omega)] at hf
    by_cases k6 : kind = 6
    · rw [if_pos k6] at hf
      simp only [Bool.and_eq_true] at hf
      have hl := beq_iff_eq.1 hf.1.1
      have := wt_sum (deep := deep - 1) (fun t h => wtT_form d t (deep - 1) h) list hf.2
      omega
    rw [if_neg k6] at hf
    by_cases k5' : kind = 5
    · rw [if_pos k5'] at hf
      have := g3 (by omega)
      have := wt_sum (deep := deep - 1) (fun t h => wtT_form d t (deep - 1) h) list hf
      omega
    · rw [if_neg k5'] at hf
      cases hf
theorem wtT_ok {d : Nat} {t : Tr d} (h : okT d t = true) : wtT d t ≤ 300 := by
  obtain ⟨h1, h2⟩ := okT_form h
  have := wtT_form d t 6 h1
  omega
theorem okT_zero (d : Nat) : okT (d + 1) (zeroT d) = true := by
  have hb : headBad 0 0 ByteArray.empty ([] : List ByteArray).length ([] : List (Tr d)).length 6 = false := headBad_iff.2 ⟨by omega, fun _ => rfl, fun _ => empty_toList, fun _ => rfl, fun _ => rfl⟩
  have h1 : formT (d + 1) (zeroT d) 6 = true := by
    show formT (d + 1) (Nd.mk 0 0 ByteArray.empty [] [] : Nd (Tr d)) 6 = true
    rw [formT_good hb]
    simp
  have h2 : manyT (d + 1) (zeroT d) 6 = 1 := rfl
  simp only [okT, h1, h2]
  rfl
theorem okT_told (d : Nat) (t : Tr (d + 1)) : okT (d + 1) (toldT d t) = true := by
  unfold toldT
  split
  · assumption
  · exact okT_zero d
end Go.Proofs.Ythbpfiandjggcaa

/- Parts of trees that are ok; what lies at a place. -/
namespace Go.Proofs.Ythbpfiandjggcaa
open Go.RowKit Go.Deep

theorem sum_map_eq {α : Type} {f g : α → Nat} : ∀ (xs : List α), (∀ x ∈ xs, f x = g x) → (xs.map f).sum = (xs.map g).sum
  | [], _ => rfl
  | x :: r, h => by
    simp only [List.map_cons, List.sum_cons]
    rw [h x (by simp), sum_map_eq r (fun y hy => h y (by simp [hy]))]

theorem formT_up : ∀ (d : Nat) (t : Tr d) (deep : Int), formT d t deep = true → formT d t (deep + 1) = true ∧ manyT d t (deep + 1) = manyT d t deep
  | 0, _, _, h => by cases h
  | d + 1, t, deep, hf => by
    obtain ⟨kind, num, str, keys, list⟩ := t
    cases hb : headBad kind num str keys.length list.length deep with
    | true => rw [formT_bad hb] at hf; cases hf
    | false =>
      obtain ⟨g0, g1, g2, g3, g4⟩ := headBad_iff.1 hb
      have hb' : headBad kind num str keys.length list.length (deep + 1) = false := headBad_iff.2 ⟨by omega, g1, g2, g3, g4⟩
      rw [formT_good hb] at hf
      rw [formT_good hb']
      have hm : ∀ e : Int, 0 < e → manyT (d + 1) (Nd.mk kind num str keys list : Nd (Tr d)) e = 1 + (list.map (fun x => manyT d x (e - 1))).sum := fun e he => by
        show 1 + (if 0 < e then _ else 0) = _
        rw [if_pos he]
      rw [hm _ (by omega), hm _ (by omega)]
      have hall : ∀ x ∈ list, formT d x (deep - 1) = true := by
        intro x hx
        by_cases k5 : kind < 5
        · have := g4 k5
          rw [List.length_eq_zero_iff] at this
          rw [this] at hx
          cases hx
        rw [if_neg (by omega), if_neg (by omega), if_neg (by omega)] at hf
        by_cases k6 : kind = 6
        · rw [if_pos k6] at hf
          simp only [Bool.and_eq_true] at hf
          exact List.all_eq_true.1 hf.2 x hx
        rw [if_neg k6] at hf
        by_cases k5' : kind = 5
        · rw [if_pos k5'] at hf
          exact List.all_eq_true.1 hf x hx
        · rw [if_neg k5'] at hf
          cases hf
      have hup : ∀ x ∈ list, formT d x (deep + 1 - 1) = true ∧ manyT d x (deep + 1 - 1) = manyT d x (deep - 1) := fun x hx => by
        have h1 := formT_up d x (deep - 1) (hall x hx)
        rw [show deep - 1 + 1 = deep + 1 - 1 by omega] at h1
        exact h1
      have ha : list.all (fun x => formT d x (deep + 1 - 1)) = list.all (fun x => formT d x (deep - 1)) := by
        rw [List.all_eq_true.2 (fun x hx => (hup x hx).1), List.all_eq_true.2 hall]
      rw [ha]
      exact ⟨hf, by rw [sum_map_eq list (fun x hx => (hup x hx).2)]⟩

theorem okT_part {d : Nat} {t : Tr (d + 1)} {x : Tr d} (h : okT (d + 1) t = true) (hx : x ∈ Nd.list t) : okT d x = true := by
  obtain ⟨hf, hm⟩ := okT_form h
  obtain ⟨kind, num, str, keys, list⟩ := t
  have hx : x ∈ list := hx
  have hmm : manyT (d + 1) (Nd.mk kind num str keys list : Nd (Tr d)) 6 = 1 + (list.map (fun x => manyT d x (6 - 1))).sum := rfl
  rw [hmm] at hm
  have h1 := many_mem (d := d) (deep := 6 - 1) hx
  have hfx : formT d x (6 - 1) = true := by
    cases hb : headBad kind num str keys.length list.length 6 with
    | true => rw [formT_bad hb] at hf; cases hf
    | false =>
      obtain ⟨g0, g1, g2, g3, g4⟩ := headBad_iff.1 hb
      rw [formT_good hb] at hf
      by_cases k5 : kind < 5
      · have := g4 k5
        rw [List.length_eq_zero_iff] at this
        rw [this] at hx
        cases hx
      rw [if_neg (by omega), if_neg (by omega), if_neg (by omega)] at hf
      by_cases k6 : kind = 6
      · rw [if_pos k6] at hf
        simp only [Bool.and_eq_true] at hf
        exact List.all_eq_true.1 hf.2 x hx
      rw [if_neg k6] at hf
      by_cases k5' : kind = 5
      · rw [if_pos k5'] at hf
        exact List.all_eq_true.1 hf x hx
      · rw [if_neg k5'] at hf
        cases hf
  have h2 := formT_up d x (6 - 1) hfx
  have h3 : formT d x 6 = true := h2.1
  have h4 : manyT d x 6 = manyT d x (6 - 1) := h2.2
  have h5 : manyT d x 6 ≤ 60 := by rw [h4]; omega
  unfold okT
  rw [h3]
  simpa using h5

theorem str_empty {s : ByteArray} (h : s.toList = []) : s = ByteArray.empty := by
  rw [ByteArray.toList_eq] at h
  cases s with
  | mk a =>
    cases a with
    | mk l =>
      have h : l = [] := h
      rw [h]
      rfl
/-- What is nothing, is nothing at one depth less. -/
theorem valAt_zero {d : Nat} {S : Nat → Prop} {w : World} {t : Tr (d + 2)} {v : Value} (h : okT (d + 2) t = true) (h0 : Nd.kind t = 0) (hv : ValAt S w (d + 2) t v) : ValAt S w (d + 1) (zeroT d) v := by
  obtain ⟨hf, _⟩ := okT_form h
  obtain ⟨kind, num, str, keys, list⟩ := t
  have h0 : kind = 0 := h0
  subst h0
  cases hb : headBad 0 num str keys.length list.length 6 with
  | true => rw [formT_bad hb] at hf; cases hf
  | false =>
    obtain ⟨_, g1, g2, g3, g4⟩ := headBad_iff.1 hb
    obtain rfl := g1 (by omega)
    have hs : str = ByteArray.empty := str_empty (g2 (by omega))
    subst hs
    have hk := g3 (by omega)
    have hl := g4 (by omega)
    rw [List.length_eq_zero_iff] at hk hl
    subst hk hl
    obtain ⟨vk, vl, rfl, i1, i2, i3, hk, hl⟩ := hv
    exact ⟨vk, vl, rfl, i1, i2, i3, hk, by
      obtain ⟨a, ⟨p, c, e, q⟩⟩ := hl
      exact ⟨by show (0 : Nat) < 3518437208883; omega, p, c, e, Or.inl rfl⟩⟩

/-- What lies at a place, from the end if it is below 0. -/
def placeI (i : Int) (n : Nat) : Int := if i < -(n : Int) ∨ (n : Int) ≤ i then -1 else if i < 0 then i + n else i
def placeL {α : Type} (xs : List α) (i : Int) : Option α := if placeI i xs.length < 0 then none else xs[(placeI i xs.length).toNat]?
def partAtT (d : Nat) (t : Tr (d + 2)) (i : Int) : Tr (d + 1) × Bool :=
  if okT (d + 2) t = true then (if Nd.kind t = 0 then (zeroT d, true) else if Nd.kind t = 5 then ((placeL (Nd.list t) i).getD (zeroT d), true) else (zeroT d, false)) else (zeroT d, false)
theorem placeL_mem {α : Type} {xs : List α} {i : Int} {x : α} (h : placeL xs i = some x) : x ∈ xs := by
  unfold placeL at h
  split at h
  · cases h
  · exact List.mem_of_getElem? h
theorem okT_partAt (d : Nat) (t : Tr (d + 2)) (i : Int) : okT (d + 1) (partAtT d t i).1 = true := by
  unfold partAtT
  split
  · rename_i h
    split
    · exact okT_zero d
    split
    · cases hp : placeL (Nd.list t) i with
      | none => exact okT_zero d
      | some x => exact okT_part h (placeL_mem hp)
    · exact okT_zero d
  · exact okT_zero d
theorem placeI_range (i : Int) (n : Nat) : placeI i n = -1 ∨ (0 ≤ placeI i n ∧ placeI i n < n) := by
  unfold placeI
  split
  · exact Or.inl rfl
  · split <;> exact Or.inr (by omega)
theorem wt_part {d : Nat} {t : Tr (d + 1)} {x : Tr d} (hx : x ∈ Nd.list t) (h : okT (d + 1) t = true) : (wtT d x : Int) ≤ 4194304 := by
  have := wtT_ok (okT_part h hx)
  omega

/-- A tree that lies in memory, as one that may be one deeper. -/
theorem deepen {S : Nat → Prop} {w : World} {v : Value} : ∀ {N : Nat} {t : Tr N}, ValAt S w N t v → ∃ (d : Nat) (t' : Tr (d + 2)), ValAt S w (d + 2) t' v
  | 0, _, h => h.elim
  | 1, t, h => by
    obtain ⟨vk, vl, rfl, i1, i2, i3, hk, hl⟩ := h
    refine ⟨0, (Nd.mk (Nd.kind t) (Nd.num t) (Nd.str t) (Nd.keys t) [] : Nd (Tr 1)), vk, vl, rfl, i1, i2, i3, hk, ?_⟩
    obtain ⟨h1, a, cap, rfl, h2⟩ := hl
    have h0 : (Nd.list t).length = 0 := by
      cases hL : Nd.list t with
      | nil => rfl
      | cons x r => exact Empty.elim x
    exact ⟨by show (0 : Nat) < 3518437208883; omega, a, cap, by show _ = Value.slice a 0 cap; rw [h0], Or.inl rfl⟩
  | d + 2, t, h => ⟨d, t, h⟩
end Go.Proofs.Ythbpfiandjggcaa

/- A tree as one that may be one deeper. -/
namespace Go.Proofs.Ythbpfiandjggcaa
open Go.RowKit Go.Deep

/-- The same tree, as one that may be one deeper. -/
def up : (d : Nat) → Tr d → Tr (d + 1)
  | 0, t => Empty.elim t
  | d + 1, t => (Nd.mk (Nd.kind t) (Nd.num t) (Nd.str t) (Nd.keys t) ((Nd.list t).map (up d)) : Nd (Tr (d + 1)))

theorem all_up {d : Nat} {list : List (Tr d)} {deep : Int} (h : ∀ x, formT (d + 1) (up d x) deep = formT d x deep) : (list.map (up d)).all (fun x => formT (d + 1) x deep) = list.all (fun x => formT d x deep) := by
  rw [List.all_map]
  congr 1
  funext x
  exact h x
theorem formT_lift : ∀ (d : Nat) (t : Tr d) (deep : Int), formT (d + 1) (up d t) deep = formT d t deep
  | 0, t, _ => Empty.elim t
  | d + 1, t, deep => by
    obtain ⟨kind, num, str, keys, list⟩ := t
    have ha := all_up (list := list) (fun x => formT_lift d x (deep - 1))
    have hl : (list.map (up d)).length = list.length := List.length_map ..
    show formT (d + 2) (Nd.mk kind num str keys (list.map (up d)) : Nd (Tr (d + 1))) deep = _
    cases hb : headBad kind num str keys.length list.length deep with
    | true => rw [formT_bad hb, formT_bad (by rw [hl]; exact hb)]
    | false => rw [formT_good hb, formT_good (by rw [hl]; exact hb), hl, ha]
theorem manyT_lift : ∀ (d : Nat) (t : Tr d) (deep : Int), manyT (d + 1) (up d t) deep = manyT d t deep
  | 0, t, _ => Empty.elim t
  | d + 1, t, deep => by
    obtain ⟨kind, num, str, keys, list⟩ := t
    show 1 + (if 0 < deep then ((list.map (up d)).map (fun x => manyT (d + 1) x (deep - 1))).sum else 0) = 1 + (if 0 < deep then (list.map (fun x => manyT d x (deep - 1))).sum else 0)
    rw [List.map_map]
    have h := sum_map_eq (f := (fun x => manyT (d + 1) x (deep - 1)) ∘ up d) (g := fun x => manyT d x (deep - 1)) list (fun x _ => manyT_lift d x (deep - 1))
    rw [h]
theorem okT_lift (d : Nat) (t : Tr d) : okT (d + 1) (up d t) = okT d t := by
  unfold okT
  rw [formT_lift, manyT_lift]
theorem up_zero (d : Nat) : up (d + 1) (zeroT d) = zeroT (d + 1) := rfl

theorem RowAt.up {α β : Type} {S : Nat → Prop} {w : World} {At : α → Value → Prop} {At' : β → Value → Prop} {v : Value} {xs : List α} (f : α → β) (h : RowAt S w At v xs) (hi : ∀ x u, At x u → At' (f x) u) : RowAt S w At' v (xs.map f) := by
  obtain ⟨h1, a, cap, hv, h3⟩ := h
  refine ⟨by rw [List.length_map]; exact h1, a, cap, by rw [List.length_map]; exact hv, ?_⟩
  rcases h3 with h3 | ⟨b, o, hB, ha, hc⟩
  · exact Or.inl (by rw [h3]; rfl)
  · refine Or.inr ⟨b, o, hB, ha, fun i x hx => ?_⟩
    rw [List.getElem?_map] at hx
    obtain ⟨y, hy, rfl⟩ := Option.map_eq_some_iff.1 hx
    obtain ⟨c0, c1, c2, c3, c4, e0, e1, e2, e3, e4, e5⟩ := hc i y hy
    exact ⟨c0, c1, c2, c3, c4, e0, e1, e2, e3, e4, hi _ _ e5⟩
theorem ValAt.up {S : Nat → Prop} {w : World} : ∀ (d : Nat) (t : Tr d) (v : Value), ValAt S w d t v → ValAt S w (d + 1) (up d t) v
  | 0, _, _, h => h.elim
  | d + 1, t, v, h => by
    obtain ⟨vk, vl, hv, i1, i2, i3, hk, hl⟩ := h
    exact ⟨vk, vl, hv, i1, i2, i3, hk, hl.up (At' := ValAt S w (d + 1)) _ (fun x u hx => ValAt.up d x u hx)⟩
theorem RowOwn.up {α β : Type} {w : World} {At : (Nat → Prop) → α → Value → Prop} {At' : (Nat → Prop) → β → Value → Prop} {S : Nat → Prop} {v : Value} {xs : List α} (f : α → β) (h : RowOwn w At S v xs) (hi : ∀ P x u, At P x u → At' P (f x) u) : RowOwn w At' S v (xs.map f) := by
  obtain ⟨h1, a, cap, hv, h3⟩ := h
  refine ⟨by rw [List.length_map]; exact h1, a, cap, by rw [List.length_map]; exact hv, ?_⟩
  rcases h3 with h3 | ⟨b, n, g, P, hB, ha, hl, hr, hP, hd, hc⟩
  · exact Or.inl (by rw [h3]; rfl)
  · refine Or.inr ⟨b, n, g, P, hB, ha, by rw [List.length_map]; exact hl, hr, hP, hd, fun i x hx => ?_⟩
    rw [List.getElem?_map] at hx
    obtain ⟨y, hy, rfl⟩ := Option.map_eq_some_iff.1 hx
    exact hi _ _ _ (hc i y hy)
theorem ValOwn.up {w : World} : ∀ (d : Nat) (S : Nat → Prop) (t : Tr d) (v : Value), ValOwn w d S t v → ValOwn w (d + 1) S (up d t) v
  | 0, _, _, _, h => h.elim
  | d + 1, S, t, v, h => by
    obtain ⟨vk, vl, Sk, Sl, hv, i1, i2, i3, hk, hl, s1, s2, s3⟩ := h
    exact ⟨vk, vl, Sk, Sl, hv, i1, i2, i3, hk, hl.up (At' := fun P x u => ValOwn w (d + 1) P x u) _ (fun P x u hx => ValOwn.up d P x u hx), s1, s2, s3⟩
end Go.Proofs.Ythbpfiandjggcaa

/- Drawn trees: bent ones; what stands ahead of the walk. -/
namespace Go.Proofs.Ythbpfiandjggcaa
open Go.RowKit Go.Deep

theorem drC3 : drC 3 = 360 ∧ drB 3 = 339 := by decide
theorem nodes_wt' : ∀ (d : Nat) (t : Tr d), nodes d t ≤ wtT d t
  | 0, t => Empty.elim t
  | d + 1, t => by
    have h : ∀ xs : List (Tr d), (xs.map (nodes d)).sum ≤ (xs.map (wtT d)).sum := by
      intro xs
      induction xs with
      | nil => exact Nat.le_refl _
      | cons x r ih =>
        have := nodes_wt' d x
        simp only [List.map_cons, List.sum_cons]
        omega
    have := h (Nd.list t)
    rw [nodes, wtT]
    omega

theorem wtT_lift : ∀ (d : Nat) (t : Tr d), wtT (d + 1) (up d t) = wtT d t
  | 0, t => Empty.elim t
  | d + 1, t => by
    obtain ⟨kind, num, str, keys, list⟩ := t
    show 3 + keys.length + ((list.map (up d)).map (wtT (d + 1))).sum = 3 + keys.length + (list.map (wtT d)).sum
    have h : ∀ xs : List (Tr d), ((xs.map (up d)).map (wtT (d + 1))).sum = (xs.map (wtT d)).sum := by
      intro xs
      induction xs with
      | nil => rfl
      | cons x r ih =>
        have := wtT_lift d x
        simp only [List.map_cons, List.sum_cons]
        omega
    rw [h]
/-- The same tree, as one that may be n deeper. -/
def upN (d : Nat) : (n : Nat) → Tr d → Tr (d + n)
  | 0, t => t
  | n + 1, t => up (d + n) (upN d n t)
theorem wtT_upN (d : Nat) : ∀ (n : Nat) (t : Tr d), wtT (d + n) (upN d n t) = wtT d t
  | 0, _ => rfl
  | n + 1, t => (wtT_lift (d + n) (upN d n t)).trans (wtT_upN d n t)
theorem ValAt.upN {S : Nat → Prop} {w : World} {d : Nat} {t : Tr d} {v : Value} (h : ValAt S w d t v) : ∀ (n : Nat), ValAt S w (d + n) (upN d n t) v
  | 0 => h
  | n + 1 => ValAt.up (d + n) _ _ (ValAt.upN h n)

/-- What a drawing function tells, its keys being anywhere. -/
def DrawnV (r p c : Nat) (d B : Nat) (w : World) (e : Ending) (w' : World) : Prop :=
  ∃ u t p', e = .returned u ∧ ValAt (FreshP w w') w' d t u ∧ wtT d t ≤ B ∧ Rd w' r p' ∧ p' ≤ p + c ∧ But r w w'

theorem drawnV_end {r p p' c d B : Nat} {w wX : World} {t : Tr d} {v0 v1 v2 v3 v4 : Value} (hv : ValAt (FreshQ w wX) wX d t (.agg #[v0, v1, v2, v3, v4])) (hB : wtT d t ≤ B) (hR : Rd wX r p') (hp : p' ≤ p + c) (hb : But r w wX) (hr : r < w.heap.size) :
    ∀ wF, wF = set5 wX w.heap.size 0 v0 v1 v2 v3 v4 → DrawnV r p c d B w (.returned (.agg #[v0, v1, v2, v3, v4])) wF := by
  intro wF hF
  have hs : ∀ b, b ≠ w.heap.size → wF.heap[b]? = wX.heap[b]? := fun b hb' => by rw [hF]; exact set5_block _ _ _ _ _ _ _ _ _ hb'
  have hz : wF.heap.size = wX.heap.size := by rw [hF]; exact set5_size _ _ _ _ _ _ _ _
  have hl : Below w.heap.size wX wF := by rw [hF]; exact below_set5 (Below.refl _ _) (Nat.le_refl _) _ _ _ _ _ _
  refine ⟨_, t, p', rfl, ValAt.moved (fun b hb' => hs b (by have := hb'.1; omega)) (fun b hb' => ?_) d t _ hv, hB, ?_, hp, ⟨hl.os.trans hb.os, hl.tape.trans hb.tape, hl.output.trans hb.output, by rw [hz]; exact hb.size, fun b hb1 hb2 => (hs b (by omega)).trans (hb.block b hb1 hb2)⟩⟩
  · exact ⟨⟨Nat.le_of_lt hb'.1, by rw [hz]; exact hb'.2.1⟩, hb'.2.2.of_block (hs b (by have := hb'.1; omega))⟩
  · obtain ⟨a, n, cap, h1, h2, h3⟩ := hR
    exact ⟨a, n, cap, (hs r (by omega)).trans h1, h2, h3.moved (fun b hb' => hs b (by omega))⟩

/-- What stands once the tree that is to be bent lies in its variable. -/
structure Bent (w wX : World) (r p' vb : Nat) (c0 c1 c2 c3 c4 : Value) : Prop where
  var : Blk5 wX vb 26 c0 c1 c2 c3 c4
  res : Blk5 wX w.heap.size 26 (.int .i64 0) (.int .i64 0) (.string { data := #[] }) (.slice none 0 0) (.slice none 0 0)
  rd : Rd wX r p'
  but : But r w wX
  rw : r < w.heap.size
  wv : w.heap.size < vb

/-- New blocks of plain cells, but for the first one and the variable. -/
def FreshV (w w' : World) (vb b : Nat) : Prop := w.heap.size < b ∧ b < w'.heap.size ∧ Plain w' b ∧ b ≠ vb

theorem Bent.go {w wX wY : World} {r p' p'' vb : Nat} {c0 c1 c2 c3 c4 : Value} (h : Bent w wX r p' vb c0 c1 c2 c3 c4) (hb : But r wX wY) (hR : Rd wY r p'') : Bent w wY r p'' vb c0 c1 c2 c3 c4 :=
  ⟨h.var.butr hb (by have := h.rw; have := h.wv; omega), h.res.butr hb (by have := h.rw; omega), hR, h.but.trans hb, h.rw, h.wv⟩
theorem FreshV.go {w wX wY : World} {r vb d : Nat} {t : Tr d} {u : Value} (h : ValAt (FreshV w wX vb) wX d t u) (hb : But r wX wY) (hr : r < w.heap.size) : ValAt (FreshV w wY vb) wY d t u := by
  have hs : Same (FreshV w wX vb) wX wY := fun b hb' => hb.block b hb'.2.1 (fun e => by have := hb'.1; cases e; omega)
  exact ValAt.moved hs (fun b hb' => ⟨hb'.1, Nat.lt_of_lt_of_le hb'.2.1 hb.size, hb'.2.2.1.of_block (hs b hb'), hb'.2.2.2⟩) d t u h
theorem keyV_go {w wX wY : World} {r vb d N : Nat} {t : Tr d} {u : Value} (h : KeyTop N (FreshV w wX vb) wX d t u) (hb : But r wX wY) (hr : r < w.heap.size) : KeyTop N (FreshV w wY vb) wY d t u := by
  have hs : Same (FreshV w wX vb) wX wY := fun b hb' => hb.block b hb'.2.1 (fun e => by have := hb'.1; cases e; omega)
  exact h.moved hs (fun b hb' => ⟨hb'.1, Nat.lt_of_lt_of_le hb'.2.1 hb.size, hb'.2.2.1.of_block (hs b hb'), hb'.2.2.2⟩) (Nat.le_refl _)

/-- One cell of the variable is written. -/
theorem Bent.low {w wX wF : World} {r p' vb : Nat} {c0 c1 c2 c3 c4 d0 d1 d2 d3 d4 : Value} (h : Bent w wX r p' vb c0 c1 c2 c3 c4) (ht : Turn (fun b => b = vb) wX wF) (hv : Blk5 wF vb 26 d0 d1 d2 d3 d4) : Bent w wF r p' vb d0 d1 d2 d3 d4 := by
  have hrw := h.rw
  have hwv := h.wv
  have hl := low_moved (N := vb + 1) (vb := vb) h.rd h.but h.res (ht.mono (fun b hb => Or.inl hb)) hrw hwv (by omega)
  exact ⟨hv, hl.2.2, hl.1, hl.2.1, hrw, hwv⟩
theorem FreshV.low {w wX wF : World} {vb d : Nat} {t : Tr d} {u : Value} (h : ValAt (FreshV w wX vb) wX d t u) (ht : Turn (fun b => b = vb) wX wF) : ValAt (FreshV w wF vb) wF d t u := by
  have hs : Same (FreshV w wX vb) wX wF := fun b hb' => ht.block b hb'.2.1 (fun e => hb'.2.2.2 e)
  exact ValAt.moved hs (fun b hb' => ⟨hb'.1, Nat.lt_of_lt_of_le hb'.2.1 ht.size, hb'.2.2.1.of_block (hs b hb'), hb'.2.2.2⟩) d t u h
theorem turn_one (w : World) (vb o : Nat) (u : Value) : Turn (fun b => b = vb) w (w.setCell ⟨vb, o, none⟩ u) := Turn.set (a := ⟨vb, o, none⟩) (Turn.refl (fun b => b = vb) w) rfl u

/-- The end. -/
theorem Bent.final {w wX : World} {r p p' vb c d B : Nat} {c0 c1 c2 c3 c4 : Value} {t : Tr d} (h : Bent w wX r p' vb c0 c1 c2 c3 c4) (hv : ValAt (FreshV w wX vb) wX d t (.agg #[c0, c1, c2, c3, c4])) (hB : wtT d t ≤ B) (hp : p' ≤ p + c) :
    ∀ wF, wF = set5 wX w.heap.size 0 c0 c1 c2 c3 c4 → DrawnV r p c d B w (.returned (.agg #[c0, c1, c2, c3, c4])) wF :=
  drawnV_end (hv.mono (fun _ hb => ⟨hb.1, hb.2.1, hb.2.2.1⟩)) hB h.rd hp h.but h.rw

theorem parts_of {S : Nat → Prop} {w : World} {d : Nat} {t : Tr (d + 1)} {c0 c1 c2 c3 c4 : Value} (h : ValAt S w (d + 1) t (.agg #[c0, c1, c2, c3, c4])) :
    c0 = .int .i64 (Nd.kind t) ∧ c1 = .int .i64 (Nd.num t) ∧ c2 = .string (Nd.str t) ∧ I64 (Nd.kind t) ∧ I64 (Nd.num t) ∧ (Nd.str t).size < 281474976710656 ∧ StrsAt S w c3 (Nd.keys t) ∧ RowAt S w (ValAt S w d) c4 (Nd.list t) := by
  obtain ⟨vk, vl, hv, i1, i2, i3, hk, hl⟩ := h
  simp only [Value.agg.injEq, Array.mk.injEq, List.cons.injEq, and_true] at hv
  obtain ⟨rfl, rfl, rfl, rfl, rfl⟩ := hv
  exact ⟨rfl, rfl, rfl, i1, i2, i3, hk, hl⟩
theorem build_of {S : Nat → Prop} {w : World} {d : Nat} {k n : Int} {s : ByteArray} {keys : List ByteArray} {list : List (Tr d)} {c3 c4 : Value} (hk : I64 k) (hn : I64 n) (hs : s.size < 281474976710656) (h3 : StrsAt S w c3 keys) (h4 : RowAt S w (ValAt S w d) c4 list) :
    ValAt S w (d + 1) ({ kind := k, num := n, str := s, keys := keys, list := list } : Nd (Tr d)) (.agg #[.int .i64 k, .int .i64 n, .string s, c3, c4]) := ⟨c3, c4, rfl, hk, hn, hs, h3, h4⟩
theorem Bent.finalK {w wX : World} {r p p' vb c d B : Nat} {c0 c1 c2 c3 c4 : Value} {t : Tr d} (h : Bent w wX r p' vb c0 c1 c2 c3 c4) (hv : KeyTop (w.heap.size + 1) (FreshV w wX vb) wX d t (.agg #[c0, c1, c2, c3, c4])) (hB : wtT d t ≤ B) (hp : p' ≤ p + c) :
    ∀ wF, wF = set5 wX w.heap.size 0 c0 c1 c2 c3 c4 → Drawn r p c d B w (.returned (.agg #[c0, c1, c2, c3, c4])) wF :=
  drawn_end (hv.moved (Same.refl _ _) (fun _ hb => ⟨hb.1, hb.2.1, hb.2.2.1⟩) (Nat.le_refl _)) hB h.rd hp h.but h.rw h.res.lt
end Go.Proofs.Ythbpfiandjggcaa
