/- Texts of the proof, put together by program: WAssert, WGiven, WLenA, WLenB, WWt, WPartP, WUp, WDrawE, WDrawD, WDrawG. -/
import Derived.Test.YtilgbnnjecpneaaGreatDoorV1
import Derived.Test.YtilgbnnjecpneaaGreatDoorRows
import Derived.Test.YtilgbnnjecpneaaGreatDoorV11
import Derived.Test.YtilgbnnjecpneaaGreatDoorV2
import Derived.Test.YtilgbnnjecpneaaGreatDoorV4
import Derived.Test.YtilgbnnjecpneaaGreatDoorV9
/- The program's own trees, asked for their kind: closed facts of the model. -/
namespace Go.Proofs.YtilgbnnjecpneaaGreatDoor
open Go.RowKit

theorem Tryz.asR_B (v : Value) (w : World) : (Instr.typeAssert (.iface 85 v) 64 80 true).run Tryz.prog w = .ok (.tuple #[.agg #[.slice none 0 0], .bool false]) w := by kernel_rfl
theorem Tryz.asR_N (v : Value) (w : World) : (Instr.typeAssert (.iface 113 v) 64 80 true).run Tryz.prog w = .ok (.tuple #[.agg #[.slice none 0 0], .bool false]) w := by kernel_rfl
theorem Tryz.asR_S (v : Value) (w : World) : (Instr.typeAssert (.iface 110 v) 64 80 true).run Tryz.prog w = .ok (.tuple #[.agg #[.slice none 0 0], .bool false]) w := by kernel_rfl
theorem Tryz.asR_R (v : Value) (w : World) : (Instr.typeAssert (.iface 80 v) 64 80 true).run Tryz.prog w = .ok (.tuple #[v, .bool true]) w := by kernel_rfl
theorem Tryz.asR_M (v : Value) (w : World) : (Instr.typeAssert (.iface 120 v) 64 80 true).run Tryz.prog w = .ok (.tuple #[.agg #[.slice none 0 0], .bool false]) w := by kernel_rfl
end Go.Proofs.YtilgbnnjecpneaaGreatDoor

/- given: the tree of a value, or a fault. -/
namespace Go.Proofs.YtilgbnnjecpneaaGreatDoor
open Go.RowKit Go.Deep

/-- Why something can not be done. -/
def faultV (why : ByteArray) : Value := .iface 103 (.agg #[.string why])

theorem okT_form {d : Nat} {t : Tr d} (h : okT d t = true) : formT d t 6 = true ∧ manyT d t 6 ≤ 60 := by
  unfold okT at h
  simpa using h

end Go.Proofs.YtilgbnnjecpneaaGreatDoor

/- Numbers as trees; what a tree that is ok can be; what is told, in the result's own cells. -/
namespace Go.Proofs.YtilgbnnjecpneaaGreatDoor
open Go.RowKit Go.Deep

/-- What a tree that is ok can be. -/
theorem okT_kinds {d : Nat} {t : Tr (d + 1)} (h : okT (d + 1) t = true) :
    (Nd.kind t = 0 ∨ Nd.kind t = 1 ∨ Nd.kind t = 2 ∨ (Nd.kind t = 3 ∧ -1000000 ≤ Nd.num t ∧ Nd.num t ≤ 1000000) ∨ (Nd.kind t = 4 ∧ (Nd.str t).size ≤ 12) ∨ Nd.kind t = 5 ∨ Nd.kind t = 6) ∧ (Nd.list t).length ≤ 60 ∧ (Nd.kind t ≠ 3 → Nd.num t = 0) := by
  obtain ⟨hf, hm⟩ := okT_form h
  obtain ⟨kind, num, str, keys, list⟩ := t
  cases hb : headBad kind num str keys.length list.length 6 with
  | true => rw [formT_bad hb] at hf; cases hf
  | false =>
    rw [formT_good hb] at hf
    obtain ⟨_, g1, _, _, _⟩ := headBad_iff.1 hb
    have hmany : manyT (d + 1) (Nd.mk kind num str keys list) 6 = 1 + (if (0 : Int) < 6 then (list.map (fun x => manyT d x (6 - 1))).sum else 0) := rfl
    rw [hmany, if_pos (by omega)] at hm
    have hll := len_le_many (d := d) (deep := 6 - 1) list
    refine ⟨?_, by show list.length ≤ 60; omega, g1⟩
    show kind = 0 ∨ kind = 1 ∨ kind = 2 ∨ (kind = 3 ∧ -1000000 ≤ num ∧ num ≤ 1000000) ∨ (kind = 4 ∧ str.size ≤ 12) ∨ kind = 5 ∨ kind = 6
    by_cases k0 : kind = 0 ∨ kind = 1 ∨ kind = 2
    · omega
    rw [if_neg k0] at hf
    by_cases k3 : kind = 3
    · rw [if_pos k3, decide_eq_true_eq] at hf
      omega
    rw [if_neg k3] at hf
    by_cases k4 : kind = 4
    · rw [if_pos k4] at hf
      have := strOk_size hf
      omega
    rw [if_neg k4] at hf
    by_cases k6 : kind = 6
    · omega
    rw [if_neg k6] at hf
    by_cases k5 : kind = 5
    · omega
    rw [if_neg k5] at hf
    cases hf

/-- What was told is put into the result's own cells. -/
theorem tell_end {d : Nat} {t : Tr (d + 1)} {w w1 w2 : World} {v0 v1 : Int} {v2 : ByteArray} {v3 v6 : Option Addr} {v4 v5 v7 v8 rb : Nat} (hv : ValOwn w2 (d + 1) (Fresh w1 w2) t (.agg #[.int .i64 v0, .int .i64 v1, .string v2, .slice v3 v4 v5, .slice v6 v7 v8])) (hb : Below w.heap.size w w2)
    (hr : w.heap.size ≤ rb) (hr1 : rb < w1.heap.size) :
    ∀ wF, wF = set5 w2 rb 0 (.int .i64 v0) (.int .i64 v1) (.string v2) (.slice v3 v4 v5) (.slice v6 v7 v8) → ValOwn wF (d + 1) (Fresh w wF) t (.agg #[.int .i64 v0, .int .i64 v1, .string v2, .slice v3 v4 v5, .slice v6 v7 v8]) ∧ Below w.heap.size w wF := by
  intro wF hF
  have hzF : wF.heap.size = w2.heap.size := by rw [hF, set5_size]
  refine ⟨ValOwn.moved (d + 1) (Fresh w1 w2) _ t _ hv (fun b hb => ?_) (fun b hb => ⟨by have := hb.1; omega, by have := hb.2; omega⟩), ?_⟩
  · rw [hF, set5_block _ _ _ _ _ _ _ _ _ (by have := hb.1; omega)]
  · rw [hF]
    exact below_set5 hb hr _ _ _ _ _ _

end Go.Proofs.YtilgbnnjecpneaaGreatDoor

/- What is asked of the model; numbers of the model. -/
namespace Go.Proofs.YtilgbnnjecpneaaGreatDoor
open Go.RowKit Go.Deep

theorem zeroAt (d : Nat) (S : Nat → Prop) (w : World) : ValAt S w (d + 1) (zeroT d) zeroVal := ValOwn.at _ _ _ _ (zeroVal_own d w S)

end Go.Proofs.YtilgbnnjecpneaaGreatDoor

/- How many marks a tree takes: bounds. -/
namespace Go.Proofs.YtilgbnnjecpneaaGreatDoor

theorem wt_sum {d : Nat} {deep : Int} (ih : ∀ (t : Tr d), formT d t deep = true → wtT d t + 2 ≤ 5 * manyT d t deep) : ∀ (xs : List (Tr d)), xs.all (fun x => formT d x deep) = true → (xs.map (wtT d)).sum + 2 * xs.length ≤ 5 * (xs.map (fun x => manyT d x deep)).sum
  | [], _ => by simp
  | x :: r, h => by
    simp only [List.all_cons, Bool.and_eq_true] at h
    have h1 := ih x h.1
    have h2 := wt_sum ih r h.2
    simp only [List.map_cons, List.sum_cons, List.length_cons]
    omega
theorem wtT_form : ∀ (d : Nat) (t : Tr d) (deep : Int), formT d t deep = true → wtT d t + 2 ≤ 5 * manyT d t deep
  | 0, _, _, h => by simp [formT] at h
  | d + 1, t, deep, hf => by
    obtain ⟨kind, num, str, keys, list⟩ := t
    cases hb : headBad kind num str keys.length list.length deep with
    | true => rw [formT_bad hb] at hf; cases hf
    | false =>
    rw [formT_good hb] at hf
    obtain ⟨g0, g1, g2, g3, g4⟩ := headBad_iff.1 hb
    have hmany : manyT (d + 1) (Nd.mk kind num str keys list) deep = 1 + (if 0 < deep then (list.map (fun x => manyT d x (deep - 1))).sum else 0) := rfl
    have hwt : wtT (d + 1) (Nd.mk kind num str keys list) = 3 + keys.length + (list.map (wtT d)).sum := rfl
    rw [hmany, if_pos (by omega), hwt]
    by_cases k5 : kind < 5
    · obtain rfl := List.eq_nil_of_length_eq_zero (g4 k5)
      have := g3 (by omega)
      simp
      omega
    rw [if_neg (by omega), if_neg (by omega), if_neg (by omega)] at hf
    by_cases k6 : kind = 6
    · rw [if_pos k6] at hf
      simp only [Bool.and_eq_true] at hf
      have hl := beq_iff_eq.1 hf.1.1
      have := wt_sum (deep := deep - 1) (fun t h => wtT_form d t (deep - 1) h) list hf.2
      omega
    rw [if_neg k6] at hf
    by_cases k5' : kind = 5
    · rw [if_pos k5'] at hf
      have := g3 (by omega)
      have := wt_sum (deep := deep - 1) (fun t h => wtT_form d t (deep - 1) h) list hf
      omega
    · rw [if_neg k5'] at hf
      cases hf
theorem wtT_ok {d : Nat} {t : Tr d} (h : okT d t = true) : wtT d t ≤ 300 := by
  obtain ⟨h1, h2⟩ := okT_form h
  have := wtT_form d t 6 h1
  omega
theorem okT_zero (d : Nat) : okT (d + 1) (zeroT d) = true := by
  have hb : headBad 0 0 ByteArray.empty ([] : List ByteArray).length ([] : List (Tr d)).length 6 = false := headBad_iff.2 ⟨by omega, fun _ => rfl, fun _ => empty_toList, fun _ => rfl, fun _ => rfl⟩
  have h1 : formT (d + 1) (zeroT d) 6 = true := by
    show formT (d + 1) (Nd.mk 0 0 ByteArray.empty [] [] : Nd (Tr d)) 6 = true
    rw [formT_good hb]
    simp
  have h2 : manyT (d + 1) (zeroT d) 6 = 1 := rfl
  simp only [okT, h1, h2]
  rfl
theorem okT_told (d : Nat) (t : Tr (d + 1)) : okT (d + 1) (toldT d t) = true := by
  unfold toldT
  split
  · assumption
  · exact okT_zero d
end Go.Proofs.YtilgbnnjecpneaaGreatDoor

/- Parts of trees that are ok; what lies at a place. -/
namespace Go.Proofs.YtilgbnnjecpneaaGreatDoor
open Go.RowKit Go.Deep

theorem sum_map_eq {α : Type} {f g : α → Nat} : ∀ (xs : List α), (∀ x ∈ xs, f x = g x) → (xs.map f).sum = (xs.map g).sum
  | [], _ => rfl
  | x :: r, h => by
    simp only [List.map_cons, List.sum_cons]
    rw [h x (by simp), sum_map_eq r (fun y hy => h y (by simp [hy]))]

theorem formT_up : ∀ (d : Nat) (t : Tr d) (deep : Int), formT d t deep = true → formT d t (deep + 1) = true ∧ manyT d t (deep + 1) = manyT d t deep
  | 0, _, _, h => by cases h
  | d + 1, t, deep, hf => by
    obtain ⟨kind, num, str, keys, list⟩ := t
    cases hb : headBad kind num str keys.length list.length deep with
    | true => rw [formT_bad hb] at hf; cases hf
    | false =>
      obtain ⟨g0, g1, g2, g3, g4⟩ := headBad_iff.1 hb
      have hb' : headBad kind num str keys.length list.length (deep + 1) = false := headBad_iff.2 ⟨by omega, g1, g2, g3, g4⟩
      rw [formT_good hb] at hf
      rw [formT_good hb']
      have hm : ∀ e : Int, 0 < e → manyT (d + 1) (Nd.mk kind num str keys list : Nd (Tr d)) e = 1 + (list.map (fun x => manyT d x (e - 1))).sum := fun e he => by
        show 1 + (if 0 < e then _ else 0) = _
        rw [if_pos he]
      rw [hm _ (by omega), hm _ (by omega)]
      have hall : ∀ x ∈ list, formT d x (deep - 1) = true := by
        intro x hx
        by_cases k5 : kind < 5
        · have := g4 k5
          rw [List.length_eq_zero_iff] at this
          rw [this] at hx
          cases hx
        rw [if_neg (by omega), if_neg (by omega), if_neg (by omega)] at hf
        by_cases k6 : kind = 6
        · rw [if_pos k6] at hf
          simp only [Bool.and_eq_true] at hf
          exact List.all_eq_true.1 hf.2 x hx
        rw [if_neg k6] at hf
        by_cases k5' : kind = 5
        · rw [if_pos k5'] at hf
          exact List.all_eq_true.1 hf x hx
        · rw [if_neg k5'] at hf
          cases hf
      have hup : ∀ x ∈ list, formT d x (deep + 1 - 1) = true ∧ manyT d x (deep + 1 - 1) = manyT d x (deep - 1) := fun x hx => by
        have h1 := formT_up d x (deep - 1) (hall x hx)
        rw [show deep - 1 + 1 = deep + 1 - 1 by omega] at h1
        exact h1
      have ha : list.all (fun x => formT d x (deep + 1 - 1)) = list.all (fun x => formT d x (deep - 1)) := by
        rw [List.all_eq_true.2 (fun x hx => (hup x hx).1), List.all_eq_true.2 hall]
      rw [ha]
      exact ⟨hf, by rw [sum_map_eq list (fun x hx => (hup x hx).2)]⟩

theorem okT_part {d : Nat} {t : Tr (d + 1)} {x : Tr d} (h : okT (d + 1) t = true) (hx : x ∈ Nd.list t) : okT d x = true := by
  obtain ⟨hf, hm⟩ := okT_form h
  obtain ⟨kind, num, str, keys, list⟩ := t
  have hx : x ∈ list := hx
  have hmm : manyT (d + 1) (Nd.mk kind num str keys list : Nd (Tr d)) 6 = 1 + (list.map (fun x => manyT d x (6 - 1))).sum := rfl
  rw [hmm] at hm
  have h1 := many_mem (d := d) (deep := 6 - 1) hx
  have hfx : formT d x (6 - 1) = true := by
    cases hb : headBad kind num str keys.length list.length 6 with
    | true => rw [formT_bad hb] at hf; cases hf
    | false =>
      obtain ⟨g0, g1, g2, g3, g4⟩ := headBad_iff.1 hb
      rw [formT_good hb] at hf
      by_cases k5 : kind < 5
      · have := g4 k5
        rw [List.length_eq_zero_iff] at this
        rw [this] at hx
        cases hx
      rw [if_neg (by omega), if_neg (by omega), if_neg (by omega)] at hf
      by_cases k6 : kind = 6
      · rw [if_pos k6] at hf
        simp only [Bool.and_eq_true] at hf
        exact List.all_eq_true.1 hf.2 x hx
      rw [if_neg k6] at hf
      by_cases k5' : kind = 5
      · rw [if_pos k5'] at hf
        exact List.all_eq_true.1 hf x hx
      · rw [if_neg k5'] at hf
        cases hf
  have h2 := formT_up d x (6 - 1) hfx
  have h3 : formT d x 6 = true := h2.1
  have h4 : manyT d x 6 = manyT d x (6 - 1) := h2.2
  have h5 : manyT d x 6 ≤ 60 := by rw [h4]; omega
  unfold okT
  rw [h3]
  simpa using h5

theorem str_empty {s : ByteArray} (h : s.toList = []) : s = ByteArray.empty := by
  rw [ByteArray.toList_eq] at h
  cases s with
  | mk a =>
    cases a with
    | mk l =>
      have h : l = [] := h
      rw [h]
      rfl
end Go.Proofs.YtilgbnnjecpneaaGreatDoor

/- A tree as one that may be one deeper. -/
namespace Go.Proofs.YtilgbnnjecpneaaGreatDoor
open Go.RowKit Go.Deep

/-- The same tree, as one that may be one deeper. -/
def up : (d : Nat) → Tr d → Tr (d + 1)
  | 0, t => Empty.elim t
  | d + 1, t => (Nd.mk (Nd.kind t) (Nd.num t) (Nd.str t) (Nd.keys t) ((Nd.list t).map (up d)) : Nd (Tr (d + 1)))

theorem RowAt.up {α β : Type} {S : Nat → Prop} {w : World} {At : α → Value → Prop} {At' : β → Value → Prop} {v : Value} {xs : List α} (f : α → β) (h : RowAt S w At v xs) (hi : ∀ x u, At x u → At' (f x) u) : RowAt S w At' v (xs.map f) := by
  obtain ⟨h1, a, cap, hv, h3⟩ := h
  refine ⟨by rw [List.length_map]; exact h1, a, cap, by rw [List.length_map]; exact hv, ?_⟩
  rcases h3 with h3 | ⟨b, o, hB, ha, hc⟩
  · exact Or.inl (by rw [h3]; rfl)
  · refine Or.inr ⟨b, o, hB, ha, fun i x hx => ?_⟩
    rw [List.getElem?_map] at hx
    obtain ⟨y, hy, rfl⟩ := Option.map_eq_some_iff.1 hx
    obtain ⟨c0, c1, c2, c3, c4, e0, e1, e2, e3, e4, e5⟩ := hc i y hy
    exact ⟨c0, c1, c2, c3, c4, e0, e1, e2, e3, e4, hi _ _ e5⟩
theorem ValAt.up {S : Nat → Prop} {w : World} : ∀ (d : Nat) (t : Tr d) (v : Value), ValAt S w d t v → ValAt S w (d + 1) (up d t) v
  | 0, _, _, h => h.elim
  | d + 1, t, v, h => by
    obtain ⟨vk, vl, hv, i1, i2, i3, hk, hl⟩ := h
    exact ⟨vk, vl, hv, i1, i2, i3, hk, hl.up (At' := ValAt S w (d + 1)) _ (fun x u hx => ValAt.up d x u hx)⟩
theorem RowOwn.up {α β : Type} {w : World} {At : (Nat → Prop) → α → Value → Prop} {At' : (Nat → Prop) → β → Value → Prop} {S : Nat → Prop} {v : Value} {xs : List α} (f : α → β) (h : RowOwn w At S v xs) (hi : ∀ P x u, At P x u → At' P (f x) u) : RowOwn w At' S v (xs.map f) := by
  obtain ⟨h1, a, cap, hv, h3⟩ := h
  refine ⟨by rw [List.length_map]; exact h1, a, cap, by rw [List.length_map]; exact hv, ?_⟩
  rcases h3 with h3 | ⟨b, n, g, P, hB, ha, hl, hr, hP, hd, hc⟩
  · exact Or.inl (by rw [h3]; rfl)
  · refine Or.inr ⟨b, n, g, P, hB, ha, by rw [List.length_map]; exact hl, hr, hP, hd, fun i x hx => ?_⟩
    rw [List.getElem?_map] at hx
    obtain ⟨y, hy, rfl⟩ := Option.map_eq_some_iff.1 hx
    exact hi _ _ _ (hc i y hy)
theorem ValOwn.up {w : World} : ∀ (d : Nat) (S : Nat → Prop) (t : Tr d) (v : Value), ValOwn w d S t v → ValOwn w (d + 1) S (up d t) v
  | 0, _, _, _, h => h.elim
  | d + 1, S, t, v, h => by
    obtain ⟨vk, vl, Sk, Sl, hv, i1, i2, i3, hk, hl, s1, s2, s3⟩ := h
    exact ⟨vk, vl, Sk, Sl, hv, i1, i2, i3, hk, hl.up (At' := fun P x u => ValOwn w (d + 1) P x u) _ (fun P x u hx => ValOwn.up d P x u hx), s1, s2, s3⟩
end Go.Proofs.YtilgbnnjecpneaaGreatDoor

/- Drawn trees: bent ones; what stands ahead of the walk. -/
namespace Go.Proofs.YtilgbnnjecpneaaGreatDoor
open Go.RowKit Go.Deep

theorem drC3 : drC 3 = 360 ∧ drB 3 = 339 := by decide
theorem nodes_wt' : ∀ (d : Nat) (t : Tr d), nodes d t ≤ wtT d t
  | 0, t => Empty.elim t
  | d + 1, t => by
    have h : ∀ xs : List (Tr d), (xs.map (nodes d)).sum ≤ (xs.map (wtT d)).sum := by
      intro xs
      induction xs with
      | nil => exact Nat.le_refl _
      | cons x r ih =>
        have := nodes_wt' d x
        simp only [List.map_cons, List.sum_cons]
        omega
    have := h (Nd.list t)
    rw [nodes, wtT]
    omega

theorem wtT_lift : ∀ (d : Nat) (t : Tr d), wtT (d + 1) (up d t) = wtT d t
  | 0, t => Empty.elim t
  | d + 1, t => by
    obtain ⟨kind, num, str, keys, list⟩ := t
    show 3 + keys.length + ((list.map (up d)).map (wtT (d + 1))).sum = 3 + keys.length + (list.map (wtT d)).sum
    have h : ∀ xs : List (Tr d), ((xs.map (up d)).map (wtT (d + 1))).sum = (xs.map (wtT d)).sum := by
      intro xs
      induction xs with
      | nil => rfl
      | cons x r ih =>
        have := wtT_lift d x
        simp only [List.map_cons, List.sum_cons]
        omega
    rw [h]
/-- The same tree, as one that may be n deeper. -/
def upN (d : Nat) : (n : Nat) → Tr d → Tr (d + n)
  | 0, t => t
  | n + 1, t => up (d + n) (upN d n t)
theorem wtT_upN (d : Nat) : ∀ (n : Nat) (t : Tr d), wtT (d + n) (upN d n t) = wtT d t
  | 0, _ => rfl
  | n + 1, t => (wtT_lift (d + n) (upN d n t)).trans (wtT_upN d n t)
theorem ValAt.upN {S : Nat → Prop} {w : World} {d : Nat} {t : Tr d} {v : Value} (h : ValAt S w d t v) : ∀ (n : Nat), ValAt S w (d + n) (upN d n t) v
  | 0 => h
  | n + 1 => ValAt.up (d + n) _ _ (ValAt.upN h n)

/-- What a drawing function tells, its keys being anywhere. -/
def DrawnV (r p c : Nat) (d B : Nat) (w : World) (e : Ending) (w' : World) : Prop :=
  ∃ u t p', e = .returned u ∧ ValAt (FreshP w w') w' d t u ∧ wtT d t ≤ B ∧ Rd w' r p' ∧ p' ≤ p + c ∧ But r w w'

theorem drawnV_end {r p p' c d B : Nat} {w wX : World} {t : Tr d} {v0 v1 v2 v3 v4 : Value} (hv : ValAt (FreshQ w wX) wX d t (.agg #[v0, v1, v2, v3, v4])) (hB : wtT d t ≤ B) (hR : Rd wX r p') (hp : p' ≤ p + c) (hb : But r w wX) (hr : r < w.heap.size) :
    ∀ wF, wF = set5 wX w.heap.size 0 v0 v1 v2 v3 v4 → DrawnV r p c d B w (.returned (.agg #[v0, v1, v2, v3, v4])) wF := by
  intro wF hF
  have hs : ∀ b, b ≠ w.heap.size → wF.heap[b]? = wX.heap[b]? := fun b hb' => by rw [hF]; exact set5_block _ _ _ _ _ _ _ _ _ hb'
  have hz : wF.heap.size = wX.heap.size := by rw [hF]; exact set5_size _ _ _ _ _ _ _ _
  have hl : Below w.heap.size wX wF := by rw [hF]; exact below_set5 (Below.refl _ _) (Nat.le_refl _) _ _ _ _ _ _
  refine ⟨_, t, p', rfl, ValAt.moved (fun b hb' => hs b (by have := hb'.1; omega)) (fun b hb' => ?_) d t _ hv, hB, ?_, hp, ⟨hl.os.trans hb.os, hl.tape.trans hb.tape, hl.output.trans hb.output, by rw [hz]; exact hb.size, fun b hb1 hb2 => (hs b (by omega)).trans (hb.block b hb1 hb2)⟩⟩
  · exact ⟨⟨Nat.le_of_lt hb'.1, by rw [hz]; exact hb'.2.1⟩, hb'.2.2.of_block (hs b (by have := hb'.1; omega))⟩
  · obtain ⟨a, n, cap, h1, h2, h3⟩ := hR
    exact ⟨a, n, cap, (hs r (by omega)).trans h1, h2, h3.moved (fun b hb' => hs b (by omega))⟩

/-- What stands once the tree that is to be bent lies in its variable. -/
structure Bent (w wX : World) (r p' vb : Nat) (c0 c1 c2 c3 c4 : Value) : Prop where
  var : Blk5 wX vb 29 c0 c1 c2 c3 c4
  res : Blk5 wX w.heap.size 29 (.int .i64 0) (.int .i64 0) (.string { data := #[] }) (.slice none 0 0) (.slice none 0 0)
  rd : Rd wX r p'
  but : But r w wX
  rw : r < w.heap.size
  wv : w.heap.size < vb

/-- New blocks of plain cells, but for the first one and the variable. -/
def FreshV (w w' : World) (vb b : Nat) : Prop := w.heap.size < b ∧ b < w'.heap.size ∧ Plain w' b ∧ b ≠ vb

theorem Bent.go {w wX wY : World} {r p' p'' vb : Nat} {c0 c1 c2 c3 c4 : Value} (h : Bent w wX r p' vb c0 c1 c2 c3 c4) (hb : But r wX wY) (hR : Rd wY r p'') : Bent w wY r p'' vb c0 c1 c2 c3 c4 :=
  ⟨h.var.butr hb (by have := h.rw; have := h.wv; omega), h.res.butr hb (by have := h.rw; omega), hR, h.but.trans hb, h.rw, h.wv⟩
theorem FreshV.go {w wX wY : World} {r vb d : Nat} {t : Tr d} {u : Value} (h : ValAt (FreshV w wX vb) wX d t u) (hb : But r wX wY) (hr : r < w.heap.size) : ValAt (FreshV w wY vb) wY d t u := by
  have hs : Same (FreshV w wX vb) wX wY := fun b hb' => hb.block b hb'.2.1 (fun e => by have := hb'.1; cases e; omega)
  exact ValAt.moved hs (fun b hb' => ⟨hb'.1, Nat.lt_of_lt_of_le hb'.2.1 hb.size, hb'.2.2.1.of_block (hs b hb'), hb'.2.2.2⟩) d t u h
theorem keyV_go {w wX wY : World} {r vb d N : Nat} {t : Tr d} {u : Value} (h : KeyTop N (FreshV w wX vb) wX d t u) (hb : But r wX wY) (hr : r < w.heap.size) : KeyTop N (FreshV w wY vb) wY d t u := by
  have hs : Same (FreshV w wX vb) wX wY := fun b hb' => hb.block b hb'.2.1 (fun e => by have := hb'.1; cases e; omega)
  exact h.moved hs (fun b hb' => ⟨hb'.1, Nat.lt_of_lt_of_le hb'.2.1 hb.size, hb'.2.2.1.of_block (hs b hb'), hb'.2.2.2⟩) (Nat.le_refl _)

/-- One cell of the variable is written. -/
theorem Bent.low {w wX wF : World} {r p' vb : Nat} {c0 c1 c2 c3 c4 d0 d1 d2 d3 d4 : Value} (h : Bent w wX r p' vb c0 c1 c2 c3 c4) (ht : Turn (fun b => b = vb) wX wF) (hv : Blk5 wF vb 29 d0 d1 d2 d3 d4) : Bent w wF r p' vb d0 d1 d2 d3 d4 := by
  have hrw := h.rw
  have hwv := h.wv
  have hl := low_moved (N := vb + 1) (vb := vb) h.rd h.but h.res (ht.mono (fun b hb => Or.inl hb)) hrw hwv (by omega)
  exact ⟨hv, hl.2.2, hl.1, hl.2.1, hrw, hwv⟩
theorem FreshV.low {w wX wF : World} {vb d : Nat} {t : Tr d} {u : Value} (h : ValAt (FreshV w wX vb) wX d t u) (ht : Turn (fun b => b = vb) wX wF) : ValAt (FreshV w wF vb) wF d t u := by
  have hs : Same (FreshV w wX vb) wX wF := fun b hb' => ht.block b hb'.2.1 (fun e => hb'.2.2.2 e)
  exact ValAt.moved hs (fun b hb' => ⟨hb'.1, Nat.lt_of_lt_of_le hb'.2.1 ht.size, hb'.2.2.1.of_block (hs b hb'), hb'.2.2.2⟩) d t u h
theorem turn_one (w : World) (vb o : Nat) (u : Value) : Turn (fun b => b = vb) w (w.setCell ⟨vb, o, none⟩ u) := Turn.set (a := ⟨vb, o, none⟩) (Turn.refl (fun b => b = vb) w) rfl u

/-- The end. -/
theorem Bent.final {w wX : World} {r p p' vb c d B : Nat} {c0 c1 c2 c3 c4 : Value} {t : Tr d} (h : Bent w wX r p' vb c0 c1 c2 c3 c4) (hv : ValAt (FreshV w wX vb) wX d t (.agg #[c0, c1, c2, c3, c4])) (hB : wtT d t ≤ B) (hp : p' ≤ p + c) :
    ∀ wF, wF = set5 wX w.heap.size 0 c0 c1 c2 c3 c4 → DrawnV r p c d B w (.returned (.agg #[c0, c1, c2, c3, c4])) wF :=
  drawnV_end (hv.mono (fun _ hb => ⟨hb.1, hb.2.1, hb.2.2.1⟩)) hB h.rd hp h.but h.rw

theorem parts_of {S : Nat → Prop} {w : World} {d : Nat} {t : Tr (d + 1)} {c0 c1 c2 c3 c4 : Value} (h : ValAt S w (d + 1) t (.agg #[c0, c1, c2, c3, c4])) :
    c0 = .int .i64 (Nd.kind t) ∧ c1 = .int .i64 (Nd.num t) ∧ c2 = .string (Nd.str t) ∧ I64 (Nd.kind t) ∧ I64 (Nd.num t) ∧ (Nd.str t).size < 281474976710656 ∧ StrsAt S w c3 (Nd.keys t) ∧ RowAt S w (ValAt S w d) c4 (Nd.list t) := by
  obtain ⟨vk, vl, hv, i1, i2, i3, hk, hl⟩ := h
  simp only [Value.agg.injEq, Array.mk.injEq, List.cons.injEq, and_true] at hv
  obtain ⟨rfl, rfl, rfl, rfl, rfl⟩ := hv
  exact ⟨rfl, rfl, rfl, i1, i2, i3, hk, hl⟩
theorem build_of {S : Nat → Prop} {w : World} {d : Nat} {k n : Int} {s : ByteArray} {keys : List ByteArray} {list : List (Tr d)} {c3 c4 : Value} (hk : I64 k) (hn : I64 n) (hs : s.size < 281474976710656) (h3 : StrsAt S w c3 keys) (h4 : RowAt S w (ValAt S w d) c4 list) :
    ValAt S w (d + 1) ({ kind := k, num := n, str := s, keys := keys, list := list } : Nd (Tr d)) (.agg #[.int .i64 k, .int .i64 n, .string s, c3, c4]) := ⟨c3, c4, rfl, hk, hn, hs, h3, h4⟩
theorem Bent.finalK {w wX : World} {r p p' vb c d B : Nat} {c0 c1 c2 c3 c4 : Value} {t : Tr d} (h : Bent w wX r p' vb c0 c1 c2 c3 c4) (hv : KeyTop (w.heap.size + 1) (FreshV w wX vb) wX d t (.agg #[c0, c1, c2, c3, c4])) (hB : wtT d t ≤ B) (hp : p' ≤ p + c) :
    ∀ wF, wF = set5 wX w.heap.size 0 c0 c1 c2 c3 c4 → Drawn r p c d B w (.returned (.agg #[c0, c1, c2, c3, c4])) wF :=
  drawn_end (hv.moved (Same.refl _ _) (fun _ hb => ⟨hb.1, hb.2.1, hb.2.2.1⟩) (Nat.le_refl _)) hB h.rd hp h.but h.rw h.res.lt
end Go.Proofs.YtilgbnnjecpneaaGreatDoor

/- Drawn trees: l1Some of the model. -/
namespace Go.Proofs.YtilgbnnjecpneaaGreatDoor
open Go.RowKit Go.Deep

set_option maxRecDepth 100000 in
set_option maxHeartbeats 1000000 in
theorem l1Some_any (r p : Nat) (w : World) (h : Rd w r p) (hp : p + 370 ≤ 1000000) :
    Calls Tryz.prog 84 #[.pointer (some ⟨r, 0, none⟩)] w (Drawn r p 370 4 339 w) := by
  have hr := h.lt
  have hb0 := below_alloc1 w (.cells #[.int .i64 0, .int .i64 0, .string { data := #[] }, .slice none 0 0, .slice none 0 0] 29)
  have kr := res_new w
  have hR0 := h.below hb0
  obtain ⟨W0, HW⟩ : ∃ W0, Hid (W0 = w.alloc (.cells #[.int .i64 0, .int .i64 0, .string { data := #[] }, .slice none 0 0, .slice none 0 0] 29)) := ⟨_, rfl⟩
  have hz0 : w.heap.size < W0.heap.size := by rw [HW.out]; simp
  rw [← HW.out] at hb0 kr hR0
  have hC := drC3
  go_enter Tryz.func84, Tryz.ntmps84
  go_wp2_with fail
  rw [← HW.out]
  refine (pick_any r p 4 W0 hR0 (by omega) (by omega) (by omega)).mono ?_
  rintro e w1 ⟨k1, rfl, k10, k11, h1, b1, z1⟩
  replace kr := kr.butr b1 (by omega)
  have hB1 := (But.of_below hb0).trans b1
  replace hz0 : w.heap.size < w1.heap.size := by omega
  clear hR0 hb0 b1 z1 HW h
  go_wp2_with fail
  refine (l1Val_any 3 r (p + 1) (1 + k1) w1 h1 (by omega) (by omega) (by omega) (by omega)).mono ?_
  rintro e w2 ⟨u, t, p2, rfl, hv, hw, hR2, hp2, hb2⟩
  obtain ⟨v0, v1, v2, v3, v4, v5, v6, v7, v8, rfl⟩ := hv.at.shape
  have hz2 : w1.heap.size ≤ w2.heap.size := hb2.size
  have kr2 := kr.butr hb2 (by omega)
  have hB2 := hB1.trans hb2
  have ha := below_alloc1 w2 (.cells #[.int .i64 v0, .int .i64 v1, .string v2, .slice v3 v4 v5, .slice v6 v7 v8] 29)
  have hBt : Bent w (w2.alloc (.cells #[.int .i64 v0, .int .i64 v1, .string v2, .slice v3 v4 v5, .slice v6 v7 v8] 29)) r p2 w2.heap.size (.int .i64 v0) (.int .i64 v1) (.string v2) (.slice v3 v4 v5) (.slice v6 v7 v8) :=
    ⟨Blk5.new w2 _ _ _ _ _ _, kr2.below ha, hR2.below ha, hB2.trans (But.of_below ha), hr, by omega⟩
  have hVt : KeyTop (w.heap.size + 1) (FreshV w (w2.alloc (.cells #[.int .i64 v0, .int .i64 v1, .string v2, .slice v3 v4 v5, .slice v6 v7 v8] 29)) w2.heap.size) (w2.alloc (.cells #[.int .i64 v0, .int .i64 v1, .string v2, .slice v3 v4 v5, .slice v6 v7 v8] 29)) 4 t (.agg #[.int .i64 v0, .int .i64 v1, .string v2, .slice v3 v4 v5, .slice v6 v7 v8]) :=
    hv.moved (fun b hb => ha.block b hb.1.2) (fun b hb => ⟨by have := hb.1.1; omega, by have := hb.1.2; simp; omega, hb.2.of_block (ha.block b hb.1.2), by have := hb.1.2; omega⟩) (by omega)
  obtain ⟨W3, HW3⟩ : ∃ W3, Hid (W3 = w2.alloc (.cells #[.int .i64 v0, .int .i64 v1, .string v2, .slice v3 v4 v5, .slice v6 v7 v8] 29)) := ⟨_, rfl⟩
  rw [← HW3.out] at hBt hVt
  have hVB := hide hVt
  replace hw : wtT 4 t ≤ drB 3 := hw
  have hnd := nodes_wt' 4 t
  have hWi : Within (FreshV w W3 w2.heap.size) W3 := fun b hb => hb.2.1
  obtain ⟨y0, y1, y2, y3, y4⟩ := hBt.var.cell
  clear hv hR2 hb2 kr h1 hB1 hB2 kr2 ha hVt
  go_wp2_with fail
  rw [← HW3.out]
  clear HW3
  refine (specValOk_any 4 (FreshV w W3 w2.heap.size) t _ W3 hVB.out.at hWi (by omega)).mono ?_
  rintro e w3 ⟨rfl, hb3⟩
  have hB3 := hBt.go (But.of_below hb3) (hBt.rd.below hb3)
  have hV3 := keyV_go hVB.out (But.of_below hb3) hr
  clear y0 y1 y2 y3 y4 hVB hBt hb3 hWi
  cases hok : okT 4 t with
  | true =>
    have HF := hide (hB3.finalK (p := p) (c := 370) (B := 339) hV3 (by omega) (by omega))
    obtain ⟨y0, y1, y2, y3, y4⟩ := hB3.var.cell
    obtain ⟨u0, u1, u2, u3, u4⟩ := hB3.res.cell
    have uf := hB3.res.frozen
    have hvr := hB3.res.lt
    have hvl := hB3.var.lt
    clear hV3 hB3 hok
    go_wp2_with fail
    exact bodyPost_ret (v := .agg #[.int .i64 v0, .int .i64 v1, .string v2, .slice v3 v4 v5, .slice v6 v7 v8]) (by simp [results, Tryz.results84, go_sem, u0, u1, u2, u3, u4]) rfl (HF.out _ rfl)
  | false =>
    clear hok hV3
    go_wp2_with fail
    refine (l1Leaf_any 3 r p2 w3 hB3.rd (by omega)).mono ?_
    intro e w4 hdr
    obtain ⟨q0, q1, q2, q3, q4, q5, q6, q7, q8, rfl, hb4, hz4, hF⟩ := drawn_pass (p := p) (c := 370) hdr hB3.but hr hB3.res.lt (by omega)
    have HF := hide (fun wF hF' => (hF wF hF').mono (B' := 339) (by omega))
    obtain ⟨_, _, _, _, _, _, _, _, hbu⟩ := hdr
    have kr := hB3.res.butr hbu (by omega)
    obtain ⟨u0, u1, u2, u3, u4⟩ := kr.cell
    have uf := kr.frozen
    clear hF kr hbu hb4 hB3
    go_wp2_with fail
    exact bodyPost_ret (v := .agg #[.int .i64 q0, .int .i64 q1, .string q2, .slice q3 q4 q5, .slice q6 q7 q8]) (by simp [results, Tryz.results84, go_sem, u0, u1, u2, u3, u4]) rfl (HF.out _ rfl)
end Go.Proofs.YtilgbnnjecpneaaGreatDoor

/- Drawn trees: what becomes of a tree that is bent. -/
namespace Go.Proofs.YtilgbnnjecpneaaGreatDoor
open Go.RowKit Go.Deep

/-- An append, as one step of a region in its order. -/
theorem wpList_append_phi {P : Program} {ops : Array Oper} {rest : List Oper} {o : Oper} {a : Act} {w : World} {Q : Exit → Act → World → Prop} (Φ : Value → World → Prop) (hgd : o.guard = none) (s x : Operand) (t : TypeId)
    (ho : o.op = .call { callee := .builtin .append, args := #[s, x], argTypes := #[t, t] }) (vs vx : Value) (hs : a.eval s = vs) (hx : a.eval x = vx)
    (hrun : ∃ v' w', (Builtin.append_ #[t, t] o.type #[vs, vx]).run P w = .ok v' w' ∧ Φ v' w') (h : ∀ v' w', Φ v' w' → wpList P ops Q rest (a.put o.dst v') w') :
    wpList P ops Q (o :: rest) a w := by
  refine wpList_plain hgd fun K hK => ?_
  obtain ⟨v', w', hr, h2⟩ := hrun
  unfold Oper.wp execOp
  simp only [ho, resolve, invoke, builtin, Sem.run_bind, Sem.run_pure, Result.andThen_ok, List.map_toArray, List.map_cons, List.map_nil, hs, hx, hr]
  exact hK _ _ (h v' w' h2)

theorem wt_new {d B : Nat} {t : Tr (d + 1)} {k n : Int} {s : ByteArray} {keys : List ByteArray} (h : wtT (d + 1) t ≤ B) (hl : keys.length ≤ (Nd.keys t).length + 1) : wtT (d + 1) ({ kind := k, num := n, str := s, keys := keys, list := Nd.list t } : Nd (Tr d)) ≤ B + 1 := by
  have e : wtT (d + 1) t = 3 + (Nd.keys t).length + ((Nd.list t).map (wtT d)).sum := rfl
  show 3 + keys.length + ((Nd.list t).map (wtT d)).sum ≤ B + 1
  omega

theorem low_moved2 {w w5 wF : World} {N vb r p : Nat} {T : TypeId} {c0 c1 c2 c3 c4 : Value} (hR : Rd w5 r p) (hB : But r w w5) (hK : Blk5 w5 w.heap.size T c0 c1 c2 c3 c4) (ht : Turn (Low N vb) w5 wF) (hr : r < w.heap.size) (hw : w.heap.size < vb) (hv : w.heap.size < N) :
    Rd wF r p ∧ But r w wF ∧ Blk5 wF w.heap.size T c0 c1 c2 c3 c4 := by
  have hrl := hR.lt
  have hkl := hK.lt
  have hlow : ∀ b, b ≤ w.heap.size → b < w5.heap.size → wF.heap[b]? = w5.heap[b]? := fun b h1 h2 => ht.block b h2 (fun e => by rcases e with e | e <;> omega)
  obtain ⟨a, n, cap, h1, h2, h3⟩ := hR
  refine ⟨⟨a, n, cap, (hlow r (by omega) hrl).trans h1, h2, h3.moved (fun b hb => hlow b (by omega) (by omega))⟩, ⟨ht.os.trans hB.os, ht.tape.trans hB.tape, ht.output.trans hB.output, Nat.le_trans hB.size ht.size, fun i hi hn => (hlow i (by omega) (Nat.lt_of_lt_of_le hi hB.size)).trans (hB.block i hi hn)⟩, hK.of_block (hlow _ (Nat.le_refl _) hkl)⟩

/-- A key behind the others. -/
theorem bent_key {w w4 w6 : World} {r p' vb d : Nat} {c0 c1 c2 c4 kv kv' : Value} {t : Tr (d + 1)} {s : ByteArray} {o : Obj} (h : Bent w w4 r p' vb c0 c1 c2 kv c4) (hV : KeyTop (w.heap.size + 1) (FreshV w w4 vb) w4 (d + 1) t (.agg #[c0, c1, c2, kv, c4]))
    (hkn : (Nd.keys t).length < 900) (hs : s.size < 281474976710656) (hown : w6.ownsRow (w.heap.size + 1) 9 1 kv' ((Nd.keys t).length + 1) ((Nd.keys t).map Value.string ++ [.string s])) (hg : (w4.alloc o).grownBy w6 kv.ownBlock) (hw : kv'.ownBlock = kv.ownBlock ∨ kv'.ownBlock = some (w4.alloc o).heap.size) :
    Bent w (w6.setCell ⟨vb, 3, none⟩ kv') r p' vb c0 c1 c2 kv' c4 ∧ ValAt (FreshV w (w6.setCell ⟨vb, 3, none⟩ kv') vb) (w6.setCell ⟨vb, 3, none⟩ kv') (d + 1) ({ kind := Nd.kind t, num := Nd.num t, str := Nd.str t, keys := Nd.keys t ++ [s], list := Nd.list t } : Nd (Tr d)) (.agg #[c0, c1, c2, kv', c4]) := by
  obtain ⟨kv0, lv, hu, i1, i2, i3, hk, hkl, ho, hob, hl⟩ := hV
  simp only [Value.agg.injEq, Array.mk.injEq, List.cons.injEq, and_true] at hu
  obtain ⟨rfl, rfl, rfl, rfl, rfl⟩ := hu
  have hz1 : (w4.alloc o).heap.size = w4.heap.size + 1 := by simp
  have hz : w4.heap.size + 1 ≤ w6.heap.size := by have := hg.size; omega
  have hz3 : (w6.setCell ⟨vb, 3, none⟩ kv').heap.size = w6.heap.size := by simp [World.setCell]
  have hvl := h.var.lt
  have hwv := h.wv
  have hrow : ∀ g, kv.ownBlock = some g → w.heap.size + 1 ≤ g := fun g hg' => (ho.lt g hg').1
  have hlow := low_moved2 (N := w.heap.size + 1) (vb := vb) h.rd h.but h.res (low_turn (c := 3) (u := kv') hg hrow) h.rw h.wv (by omega)
  have hbl : ∀ b, b < w4.heap.size → kv.ownBlock ≠ some b → w6.heap[b]? = w4.heap[b]? := fun b h1 h2 => (hg.block b (by omega) (fun e => h2 e.symm)).trans (Below.heap_alloc _ _ _ h1)
  have hvar : Blk5 (w6.setCell ⟨vb, 3, none⟩ kv') vb 29 (.int .i64 (Nd.kind t)) (.int .i64 (Nd.num t)) (.string (Nd.str t)) kv' c4 := (h.var.of_block (hbl vb hvl (fun e => (hob vb e).2.2.2 rfl))).set3 _
  have hbl3 : ∀ b, b ≠ vb → b < w4.heap.size → kv.ownBlock ≠ some b → (w6.setCell ⟨vb, 3, none⟩ kv').heap[b]? = w4.heap[b]? := fun b h0 h1 h2 => (Below.heap_setCell _ _ _ _ (by show b ≠ vb; exact h0)).trans (hbl b h1 h2)
  have hkb : ∀ b, kv'.ownBlock = some b → FreshV w (w6.setCell ⟨vb, 3, none⟩ kv') vb b := fun b hb => by
    have hl := hown.lt b hb
    have hne : b ≠ vb := by
      rcases hw with hw | hw
      · exact (hob b (hw.symm.trans hb)).2.2.2
      · have he := hw.symm.trans hb
        rw [hz1] at he
        cases he
        omega
    exact ⟨by omega, by rw [hz3]; exact hl.2, (plain_own hown hb).of_block (Below.heap_setCell _ _ _ _ (by show b ≠ vb; exact hne)), hne⟩
  have hown' : w6.ownsRow (w.heap.size + 1) 9 1 kv' (Nd.keys t ++ [s]).length ((Nd.keys t ++ [s]).map Value.string) := by
    rw [List.length_append, List.map_append]
    exact hown
  have hst : StrsAt (FreshV w (w6.setCell ⟨vb, 3, none⟩ kv') vb) (w6.setCell ⟨vb, 3, none⟩ kv') kv' (Nd.keys t ++ [s]) :=
    strs_of_owns (N := w.heap.size + 1) (owns_moved hown' (fun g hg' => Below.heap_setCell _ _ _ _ (by show g ≠ vb; exact (hkb g hg').2.2.2)) (Nat.le_refl _)) (fun y hy => by rcases List.mem_append.1 hy with h | h; exact hk y h; rw [List.mem_singleton.1 h]; exact hs) (by rw [List.length_append, List.length_singleton]; omega) hkb
  refine ⟨⟨hvar, hlow.2.2, hlow.1, hlow.2.1, h.rw, hwv⟩, build_of i1 i2 i3 hst ?_⟩
  have hsame : Same (fun b => FreshV w w4 vb b ∧ kv.ownBlock ≠ some b) w4 (w6.setCell ⟨vb, 3, none⟩ kv') := fun b hb => hbl3 b hb.1.2.2.2 hb.1.2.1 hb.2
  have hin : ∀ b, (FreshV w w4 vb b ∧ kv.ownBlock ≠ some b) → FreshV w (w6.setCell ⟨vb, 3, none⟩ kv') vb b := fun b hb => ⟨hb.1.1, by rw [hz3]; have := hb.1.2.1; omega, hb.1.2.2.1.of_block (hsame b hb), hb.1.2.2.2⟩
  exact hl.moved hsame hin (fun x u hx => ValAt.moved hsame hin d x u hx)

theorem blk_set1 {w : World} {b : Nat} {T : TypeId} {c0 c1 c2 c3 c4 : Value} (h : Blk5 w b T c0 c1 c2 c3 c4) (u : Value) : Blk5 (w.setCell ⟨b, 1, none⟩ u) b T c0 u c2 c3 c4 := by
  unfold Blk5 at h ⊢
  simp [World.setCell, Array.getElem?_modify, h]
theorem blk_set2 {w : World} {b : Nat} {T : TypeId} {c0 c1 c2 c3 c4 : Value} (h : Blk5 w b T c0 c1 c2 c3 c4) (u : Value) : Blk5 (w.setCell ⟨b, 2, none⟩ u) b T c0 c1 u c3 c4 := by
  unfold Blk5 at h ⊢
  simp [World.setCell, Array.getElem?_modify, h]
theorem blk_set5 {w : World} {b : Nat} {T : TypeId} {c0 c1 c2 c3 c4 : Value} (h : Blk5 w b T c0 c1 c2 c3 c4) (v0 v1 v2 v3 v4 : Value) : Blk5 (set5 w b 0 v0 v1 v2 v3 v4) b T v0 v1 v2 v3 v4 := by
  unfold Blk5 at h ⊢
  simp [set5, World.setCell, Array.getElem?_modify, h]
theorem turn_set5 {S : Nat → Prop} {w : World} {b : Nat} (hb : S b) (v0 v1 v2 v3 v4 : Value) : Turn S w (set5 w b 0 v0 v1 v2 v3 v4) := by
  unfold set5
  exact (((((Turn.refl S w).set (a := ⟨b, 0, none⟩) hb v0).set (a := ⟨b, 0 + 1, none⟩) hb v1).set (a := ⟨b, 0 + 2, none⟩) hb v2).set (a := ⟨b, 0 + 3, none⟩) hb v3).set (a := ⟨b, 0 + 4, none⟩) hb v4

/-- A row of it alone. -/
theorem bent_wrap {w wr : World} {r p' vb d : Nat} {c0 c1 c2 c3 c4 : Value} {t : Tr d} (h : Bent w wr r p' vb c0 c1 c2 c3 c4) (hV : ValAt (FreshV w wr vb) wr d t (.agg #[c0, c1, c2, c3, c4])) :
    Bent w ((set5 wr vb 0 (.int .i64 5) (.int .i64 0) (.string { data := #[] }) (.slice none 0 0) (.slice (some ⟨wr.heap.size, 0, none⟩) 1 1)).alloc (.cells #[c0, c1, c2, c3, c4] 29)) r p' vb (.int .i64 5) (.int .i64 0) (.string { data := #[] }) (.slice none 0 0) (.slice (some ⟨wr.heap.size, 0, none⟩) 1 1) ∧
    ValAt (FreshV w ((set5 wr vb 0 (.int .i64 5) (.int .i64 0) (.string { data := #[] }) (.slice none 0 0) (.slice (some ⟨wr.heap.size, 0, none⟩) 1 1)).alloc (.cells #[c0, c1, c2, c3, c4] 29)) vb) ((set5 wr vb 0 (.int .i64 5) (.int .i64 0) (.string { data := #[] }) (.slice none 0 0) (.slice (some ⟨wr.heap.size, 0, none⟩) 1 1)).alloc (.cells #[c0, c1, c2, c3, c4] 29)) (d + 1) ({ kind := 5, num := 0, str := ⟨#[]⟩, keys := [], list := [t] } : Nd (Tr d)) (.agg #[.int .i64 5, .int .i64 0, .string { data := #[] }, .slice none 0 0, .slice (some ⟨wr.heap.size, 0, none⟩) 1 1]) := by
  obtain ⟨wS, hS⟩ : ∃ wS, wS = set5 wr vb 0 (.int .i64 5) (.int .i64 0) (.string { data := #[] }) (.slice none 0 0) (.slice (some ⟨wr.heap.size, 0, none⟩) 1 1) := ⟨_, rfl⟩
  have hz : wS.heap.size = wr.heap.size := by rw [hS]; exact set5_size _ _ _ _ _ _ _ _
  have hvl := h.var.lt
  have hwv := h.wv
  have ht : Turn (fun b => b = vb) wr wS := by rw [hS]; exact turn_set5 (S := fun b => b = vb) rfl _ _ _ _ _
  have hvar : Blk5 wS vb 29 (.int .i64 5) (.int .i64 0) (.string { data := #[] }) (.slice none 0 0) (.slice (some ⟨wr.heap.size, 0, none⟩) 1 1) := by rw [hS]; exact blk_set5 h.var _ _ _ _ _
  have h1 := h.low ht hvar
  have hV1 := FreshV.low hV ht
  rw [← hS]
  obtain ⟨wF, hF⟩ : ∃ wF, wF = wS.alloc (.cells #[c0, c1, c2, c3, c4] 29) := ⟨_, rfl⟩
  have ha : Below wS.heap.size wS wF := by rw [hF]; exact below_alloc1 _ _
  have hzF : wF.heap.size = wS.heap.size + 1 := by rw [hF]; simp
  have hnF : Blk5 wF wr.heap.size 29 c0 c1 c2 c3 c4 := by
    have := Blk5.new wS 29 c0 c1 c2 c3 c4
    rw [hz] at this
    rw [hF]
    exact this
  have hB := h1.go (But.of_below ha) (h1.rd.below ha)
  have hV2 := FreshV.go hV1 (But.of_below ha) h.rw
  rw [← hF]
  have hws : w.heap.size < wr.heap.size := by omega
  refine ⟨hB, build_of ⟨by omega, by omega⟩ ⟨by omega, by omega⟩ (by show (0 : Nat) < _; omega) ⟨by show (0 : Nat) < _; omega, (fun s hs => by cases hs), none, 0, rfl, Or.inl rfl⟩ ⟨by show (1 : Nat) < _; omega, some ⟨wr.heap.size, 0, none⟩, 1, rfl, Or.inr ⟨wr.heap.size, 0, ⟨by omega, by omega, ⟨_, _, hnF⟩, by omega⟩, rfl, fun i x hx => ?_⟩⟩⟩
  obtain ⟨e0, e1, e2, e3, e4⟩ := hnF.cell
  match i, hx with
  | 0, hx => cases hx; exact ⟨c0, c1, c2, c3, c4, e0, e1, e2, e3, e4, hV2⟩
  | i + 1, hx => simp at hx
end Go.Proofs.YtilgbnnjecpneaaGreatDoor
