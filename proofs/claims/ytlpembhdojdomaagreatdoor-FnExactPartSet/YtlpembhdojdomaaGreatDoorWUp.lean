/- A tree as one that may be one deeper. -/
import Derived.Test.YtlpembhdojdomaaGreatDoorWPartP
namespace Go.Proofs.YtlpembhdojdomaaGreatDoor
open Go.RowKit Go.Deep

/-- The same tree, as one that may be one deeper. -/
def up : (d : Nat) → Tr d → Tr (d + 1)
  | 0, t => Empty.elim t
  | d + 1, t => (Nd.mk (Nd.kind t) (Nd.num t) (Nd.str t) (Nd.keys t) ((Nd.list t).map (up d)) : Nd (Tr (d + 1)))

theorem all_up {d : Nat} {list : List (Tr d)} {deep : Int} (h : ∀ x, formT (d + 1) (up d x) deep = formT d x deep) : (list.map (up d)).all (fun x => formT (d + 1) x deep) = list.all (fun x => formT d x deep) := by
  rw [List.all_map]
  congr 1
  funext x
  exact h x
theorem formT_lift : ∀ (d : Nat) (t : Tr d) (deep : Int), formT (d + 1) (up d t) deep = formT d t deep
  | 0, t, _ => Empty.elim t
  | d + 1, t, deep => by
    obtain ⟨kind, num, str, keys, list⟩ := t
    have ha := all_up (list := list) (fun x => formT_lift d x (deep - 1))
    have hl : (list.map (up d)).length = list.length := List.length_map ..
    show formT (d + 2) (Nd.mk kind num str keys (list.map (up d)) : Nd (Tr (d + 1))) deep = _
    cases hb : headBad kind num str keys.length list.length deep with
    | true => rw [formT_bad hb, formT_bad (by rw [hl]; exact hb)]
    | false => rw [formT_good hb, formT_good (by rw [hl]; exact hb), hl, ha]
theorem manyT_lift : ∀ (d : Nat) (t : Tr d) (deep : Int), manyT (d + 1) (up d t) deep = manyT d t deep
  | 0, t, _ => Empty.elim t
  | d + 1, t, deep => by
    obtain ⟨kind, num, str, keys, list⟩ := t
    show 1 + (if 0 < deep then ((list.map (up d)).map (fun x => manyT (d + 1) x (deep - 1))).sum else 0) = 1 + (if 0 < deep then (list.map (fun x => manyT d x (deep - 1))).sum else 0)
    rw [List.map_map]
    have h := sum_map_eq (f := (fun x => manyT (d + 1) x (deep - 1)) ∘ up d) (g := fun x => manyT d x (deep - 1)) list (fun x _ => manyT_lift d x (deep - 1))
    rw [h]
theorem okT_lift (d : Nat) (t : Tr d) : okT (d + 1) (up d t) = okT d t := by
  unfold okT
  rw [formT_lift, manyT_lift]
theorem up_zero (d : Nat) : up (d + 1) (zeroT d) = zeroT (d + 1) := rfl

theorem RowAt.up {α β : Type} {S : Nat → Prop} {w : World} {At : α → Value → Prop} {At' : β → Value → Prop} {v : Value} {xs : List α} (f : α → β) (h : RowAt S w At v xs) (hi : ∀ x u, At x u → At' (f x) u) : RowAt S w At' v (xs.map f) := by
  obtain ⟨h1, a, cap, hv, h3⟩ := h
  refine ⟨by rw [List.length_map]; exact h1, a, cap, by rw [List.length_map]; exact hv, ?_⟩
  rcases h3 with h3 | ⟨b, o, hB, ha, hc⟩
  · exact Or.inl (by rw [h3]; rfl)
  · refine Or.inr ⟨b, o, hB, ha, fun i x hx => ?_⟩
    rw [List.getElem?_map] at hx
    obtain ⟨y, hy, rfl⟩ := Option.map_eq_some_iff.1 hx
    obtain ⟨c0, c1, c2, c3, c4, e0, e1, e2, e3, e4, e5⟩ := hc i y hy
    exact ⟨c0, c1, c2, c3, c4, e0, e1, e2, e3, e4, hi _ _ e5⟩
theorem ValAt.up {S : Nat → Prop} {w : World} : ∀ (d : Nat) (t : Tr d) (v : Value), ValAt S w d t v → ValAt S w (d + 1) (up d t) v
  | 0, _, _, h => h.elim
  | d + 1, t, v, h => by
    obtain ⟨vk, vl, hv, i1, i2, i3, hk, hl⟩ := h
    exact ⟨vk, vl, hv, i1, i2, i3, hk, hl.up (At' := ValAt S w (d + 1)) _ (fun x u hx => ValAt.up d x u hx)⟩
theorem RowOwn.up {α β : Type} {w : World} {At : (Nat → Prop) → α → Value → Prop} {At' : (Nat → Prop) → β → Value → Prop} {S : Nat → Prop} {v : Value} {xs : List α} (f : α → β) (h : RowOwn w At S v xs) (hi : ∀ P x u, At P x u → At' P (f x) u) : RowOwn w At' S v (xs.map f) := by
  obtain ⟨h1, a, cap, hv, h3⟩ := h
  refine ⟨by rw [List.length_map]; exact h1, a, cap, by rw [List.length_map]; exact hv, ?_⟩
  rcases h3 with h3 | ⟨b, n, g, P, hB, ha, hl, hr, hP, hd, hc⟩
  · exact Or.inl (by rw [h3]; rfl)
  · refine Or.inr ⟨b, n, g, P, hB, ha, by rw [List.length_map]; exact hl, hr, hP, hd, fun i x hx => ?_⟩
    rw [List.getElem?_map] at hx
    obtain ⟨y, hy, rfl⟩ := Option.map_eq_some_iff.1 hx
    exact hi _ _ _ (hc i y hy)
theorem ValOwn.up {w : World} : ∀ (d : Nat) (S : Nat → Prop) (t : Tr d) (v : Value), ValOwn w d S t v → ValOwn w (d + 1) S (up d t) v
  | 0, _, _, _, h => h.elim
  | d + 1, S, t, v, h => by
    obtain ⟨vk, vl, Sk, Sl, hv, i1, i2, i3, hk, hl, s1, s2, s3⟩ := h
    exact ⟨vk, vl, Sk, Sl, hv, i1, i2, i3, hk, hl.up (At' := fun P x u => ValOwn w (d + 1) P x u) _ (fun P x u hx => ValOwn.up d P x u hx), s1, s2, s3⟩
end Go.Proofs.YtlpembhdojdomaaGreatDoor
