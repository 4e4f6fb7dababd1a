/- Texts of the proof, put together by program: WOfflatRow, WFlatI, PSort. -/
import Derived.Test.YtilgbnnjecpneaaGreatDoorV24
import Derived.Test.YtilgbnnjecpneaaGreatDoorV18
import Derived.Test.YtilgbnnjecpneaaGreatDoorV21
/- ofRow of the program, at flatRow. -/
namespace Go.Proofs.YtilgbnnjecpneaaGreatDoor
open Go.RowKit Go.Deep

end Go.Proofs.YtilgbnnjecpneaaGreatDoor

/- flatRow, RowFlat of the program. -/
namespace Go.Proofs.YtilgbnnjecpneaaGreatDoor
open Go.RowKit Go.Deep

theorem ownsRow_on {w w' : World} {N : Nat} {T : TypeId} {s : Nat} {v : Value} {n : Nat} {xs : List Value} (h : w.ownsRow N T s v n xs) (hb : Below w.heap.size w w') : w'.ownsRow N T s v n xs := by
  obtain ⟨h1, h2⟩ := h
  refine ⟨h1, ?_⟩
  rcases h2 with h2 | ⟨g, c, cur, e, h3, h4, h5⟩
  · exact Or.inl h2
  · exact Or.inr ⟨g, c, cur, e, h3, (hb.block g (Array.getElem?_eq_some_iff.1 h4).1).trans h4, h5⟩
theorem GF.later {d N : Nat} {S : Nat → Prop} {w w' : World} {sv : Value} {xs : List (Tr d)} {vs : List Value} (h : GF S N w sv xs vs) (hb : Below w.heap.size w w') (hS : Within S w) : GF S N w' sv xs vs :=
  ⟨ownsRow_on h.1 hb, fun j x u hx hu => (h.2 j x u hx hu).same (hS.same hb)⟩
theorem Row1At.one {α : Type} {S : Nat → Prop} {w : World} {At : α → Value → Prop} {a : Option Addr} {n cap k : Nat} {xs : List α} (h : Row1At S w At (.slice a n cap) xs) (hk : k < xs.length) : ∃ b o x u, a = some ⟨b, o, none⟩ ∧ S b ∧ xs[k]? = some x ∧ w.cell? ⟨b, o + k, none⟩ = some u ∧ At x u := by
  obtain ⟨_, a', cap', hv, h3⟩ := h
  cases hv
  rcases h3 with rfl | ⟨b, o, hB, ha, hc⟩
  · simp at hk
  · obtain ⟨u, e0, e1⟩ := hc k _ (List.getElem?_eq_getElem hk)
    exact ⟨b, o, xs[k], u, ha, hB, List.getElem?_eq_getElem hk, e0, e1⟩

end Go.Proofs.YtilgbnnjecpneaaGreatDoor

/- Rows in order: plain facts. -/
namespace Go.Proofs.YtilgbnnjecpneaaGreatDoor
open Go.RowKit Go.Deep

theorem bytes_ext {a b : ByteArray} (h : (a.toList == b.toList) = true) : a = b := by
  have e := beq_iff_eq.1 h
  rw [ByteArray.toList_eq, ByteArray.toList_eq] at e
  exact ByteArray.ext (Array.ext' e)
theorem eqStrs_eq : ∀ {xs ys : List ByteArray}, eqStrs xs ys = true → xs = ys
  | [], [], _ => rfl
  | [], _ :: _, h => by simp [eqStrs] at h
  | _ :: _, [], h => by simp [eqStrs] at h
  | a :: r, b :: s, h => by
    rw [eqStrs, Bool.and_eq_true] at h
    rw [bytes_ext h.1, eqStrs_eq h.2]
theorem eqL_eq {α : Type} {f : α → α → Bool} (hf : ∀ a b, f a b = true → a = b) : ∀ {xs ys : List α}, eqL f xs ys = true → xs = ys
  | [], [], _ => rfl
  | [], _ :: _, h => by simp [eqL] at h
  | _ :: _, [], h => by simp [eqL] at h
  | a :: r, b :: s, h => by
    rw [eqL, Bool.and_eq_true] at h
    rw [hf _ _ h.1, eqL_eq hf h.2]
/-- Trees that are the same are one. -/
theorem eqT_eq : ∀ (d : Nat) (a b : Tr d), eqT d a b = true → a = b
  | 0, a, _, _ => a.elim
  | d + 1, a, b, h => by
    rw [eqT, Bool.and_eq_true, Bool.and_eq_true, Bool.and_eq_true, Bool.and_eq_true, beq_iff_eq, beq_iff_eq] at h
    obtain ⟨h1, h2, h3, h4, h5⟩ := h
    obtain ⟨k, n, s, ks, ls⟩ := a
    obtain ⟨k', n', s', ks', ls'⟩ := b
    have e1 : k = k' := h1
    have e2 : n = n' := h2
    have e3 : s = s' := bytes_ext h3
    have e4 : ks = ks' := eqStrs_eq h4
    have e5 : ls = ls' := eqL_eq (eqT_eq d) h5
    rw [e1, e2, e3, e4, e5]
theorem ordT_one {d : Nat} {a b : Tr d} (h1 : ordT d a b ≤ 0) (h2 : ordT d b a ≤ 0) : a = b := by
  have := (ord_T d).neg a b
  exact eqT_eq d a b ((ordT_eqT d a b).1 (by omega))

/-- A tree put into a row in order, behind all that are not behind it. -/
def insL {α : Type} (f : α → α → Int) (v : α) (xs : List α) : List α := xs.takeWhile (fun x => decide (f x v ≤ 0)) ++ v :: xs.dropWhile (fun x => decide (f x v ≤ 0))
/-- A row in order. -/
def sortL {α : Type} (f : α → α → Int) (xs : List α) : List α := xs.foldl (fun out x => insL f x out) []
theorem insL_perm {α : Type} (f : α → α → Int) (v : α) (xs : List α) : (insL f v xs).Perm (v :: xs) := by
  unfold insL
  refine List.perm_middle.trans ?_
  rw [List.takeWhile_append_dropWhile]
theorem fold_perm {α : Type} (f : α → α → Int) : ∀ (xs out : List α), (xs.foldl (fun out x => insL f x out) out).Perm (out ++ xs)
  | [], out => by simp
  | x :: r, out => by
    rw [List.foldl_cons]
    refine (fold_perm f r (insL f x out)).trans ?_
    refine ((insL_perm f x out).append_right r).trans ?_
    exact List.perm_middle.symm
theorem sortL_perm {α : Type} (f : α → α → Int) (xs : List α) : (sortL f xs).Perm xs := fold_perm f xs []
/-- Each is not behind any that comes. -/
def InOrd {α : Type} (f : α → α → Int) (xs : List α) : Prop := xs.Pairwise (fun a b => f a b ≤ 0)
theorem insL_ord {α : Type} {f : α → α → Int} (hf : OrdF f) (v : α) : ∀ {xs : List α}, InOrd f xs → InOrd f (insL f v xs)
  | [], _ => by simp [insL, InOrd]
  | x :: r, h => by
    have h' := List.pairwise_cons.1 h
    by_cases hx : f x v ≤ 0
    · have e : insL f v (x :: r) = x :: insL f v r := by
        unfold insL
        rw [List.takeWhile_cons_of_pos (by simpa using hx), List.dropWhile_cons_of_pos (by simpa using hx)]
        rfl
      rw [e]
      refine List.pairwise_cons.2 ⟨fun y hy => ?_, insL_ord hf v h'.2⟩
      rcases List.mem_cons.1 ((insL_perm f v r).mem_iff.1 hy) with rfl | hy
      · exact hx
      · exact h'.1 y hy
    · have e : insL f v (x :: r) = v :: x :: r := by
        unfold insL
        rw [List.takeWhile_cons_of_neg (by simpa using hx), List.dropWhile_cons_of_neg (by simpa using hx)]
        rfl
      rw [e]
      have hn := hf.neg x v
      refine List.pairwise_cons.2 ⟨fun y hy => ?_, h⟩
      rcases List.mem_cons.1 hy with rfl | hy
      · omega
      · exact hf.trans v x y (by omega) (h'.1 y hy)
theorem fold_ord {α : Type} {f : α → α → Int} (hf : OrdF f) : ∀ (xs : List α) {out : List α}, InOrd f out → InOrd f (xs.foldl (fun out x => insL f x out) out)
  | [], _, h => h
  | x :: r, _, h => fold_ord hf r (insL_ord hf x h)
theorem sortL_ord {α : Type} {f : α → α → Int} (hf : OrdF f) (xs : List α) : InOrd f (sortL f xs) := fold_ord hf xs List.Pairwise.nil
/-- Of what is in order there is one. -/
theorem ord_one {d : Nat} {xs ys : List (Tr d)} (hx : InOrd (ordT d) xs) (hy : InOrd (ordT d) ys) (hp : xs.Perm ys) : xs = ys :=
  hp.eq_of_pairwise (fun _ _ _ _ h1 h2 => ordT_one h1 h2) hx hy
theorem sort_of {d : Nat} {xs ys : List (Tr d)} (hy : InOrd (ordT d) ys) (hp : ys.Perm xs) : ys = sortL (ordT d) xs :=
  ord_one hy (sortL_ord (ord_T d) xs) (hp.trans (sortL_perm (ordT d) xs).symm)
theorem sort_perm {d : Nat} {xs ys : List (Tr d)} (hp : xs.Perm ys) : sortL (ordT d) xs = sortL (ordT d) ys :=
  sort_of (sortL_ord (ord_T d) xs) ((sortL_perm (ordT d) xs).trans hp)
theorem sort_few {d : Nat} {xs : List (Tr d)} (h : xs.length < 2) : sortL (ordT d) xs = xs := by
  refine (sort_of ?_ (List.Perm.refl _)).symm
  rcases xs with _ | ⟨x, _ | ⟨y, r⟩⟩
  · exact List.Pairwise.nil
  · exact List.pairwise_singleton _ _
  · exact absurd h (by simp)
theorem sort_len {α : Type} (f : α → α → Int) (xs : List α) : (sortL f xs).length = xs.length := (sortL_perm f xs).length_eq
theorem sort_mem {α : Type} {f : α → α → Int} {xs : List α} {x : α} : x ∈ sortL f xs ↔ x ∈ xs := (sortL_perm f xs).mem_iff

/-- Two rows in order, as one: as the program's loop goes (all: what is done; a, b: what is left). -/
structure Merging {α : Type} (f : α → α → Int) (all a b : List α) (xs : List α) : Prop where
  perm : (all ++ (a ++ b)).Perm xs
  done : InOrd f all
  front : ∀ x ∈ all, ∀ y ∈ a ++ b, f x y ≤ 0
  left : InOrd f a
  right : InOrd f b
theorem Merging.start {α : Type} {f : α → α → Int} {a b : List α} (ha : InOrd f a) (hb : InOrd f b) : Merging f [] a b (a ++ b) :=
  ⟨List.Perm.refl _, List.Pairwise.nil, (fun x hx => by cases hx), ha, hb⟩
theorem inOrd_push {α : Type} {f : α → α → Int} {all : List α} {x : α} (h : InOrd f all) (hx : ∀ y ∈ all, f y x ≤ 0) : InOrd f (all ++ [x]) := by
  unfold InOrd
  rw [List.pairwise_append]
  exact ⟨h, List.pairwise_singleton _ _, fun y hy z hz => by rw [List.mem_singleton.1 hz]; exact hx y hy⟩
theorem Merging.one {α : Type} {f : α → α → Int} (hf : OrdF f) {all a b xs : List α} {x y : α} (h : Merging f all (x :: a) (y :: b) xs) (hxy : f x y ≤ 0) : Merging f (all ++ [x]) a (y :: b) xs := by
  have ha := List.pairwise_cons.1 h.left
  have hb := List.pairwise_cons.1 h.right
  refine ⟨by rw [List.append_assoc]; exact h.perm, inOrd_push h.done (fun z hz => h.front z hz x (by simp)), fun z hz u hu => ?_, ha.2, h.right⟩
  rcases List.mem_append.1 hz with hz | hz
  · exact h.front z hz u (by
      rcases List.mem_append.1 hu with hu | hu
      · exact List.mem_append_left _ (List.mem_cons_of_mem _ hu)
      · exact List.mem_append_right _ hu)
  · obtain rfl := List.mem_singleton.1 hz
    rcases List.mem_append.1 hu with hu | hu
    · exact ha.1 u hu
    · rcases List.mem_cons.1 hu with rfl | hu
      · exact hxy
      · exact hf.trans z y u hxy (hb.1 u hu)
theorem Merging.two {α : Type} {f : α → α → Int} (hf : OrdF f) {all a b xs : List α} {x y : α} (h : Merging f all (x :: a) (y :: b) xs) (hxy : ¬ f x y ≤ 0) : Merging f (all ++ [y]) (x :: a) b xs := by
  have ha := List.pairwise_cons.1 h.left
  have hb := List.pairwise_cons.1 h.right
  have hn := hf.neg x y
  refine ⟨?_, inOrd_push h.done (fun z hz => h.front z hz y (by simp)), fun z hz u hu => ?_, h.left, hb.2⟩
  · refine List.Perm.trans ?_ h.perm
    rw [List.append_assoc]
    refine List.Perm.append_left all ?_
    exact (List.perm_middle (l₁ := x :: a) (l₂ := b) (a := y)).symm
  rcases List.mem_append.1 hz with hz | hz
  · exact h.front z hz u (by
      rcases List.mem_append.1 hu with hu | hu
      · exact List.mem_append_left _ hu
      · exact List.mem_append_right _ (List.mem_cons_of_mem _ hu))
  · obtain rfl := List.mem_singleton.1 hz
    rcases List.mem_append.1 hu with hu | hu
    · rcases List.mem_cons.1 hu with rfl | hu
      · omega
      · exact hf.trans z x u (by omega) (ha.1 u hu)
    · exact hb.1 u hu
/-- At the end one of the two is empty. -/
theorem Merging.ends {d : Nat} {all a b xs : List (Tr d)} (h : Merging (ordT d) all a b xs) (he : a = [] ∨ b = []) : all ++ (a ++ b) = sortL (ordT d) xs := by
  refine sort_of ?_ h.perm
  unfold InOrd
  rw [List.pairwise_append]
  refine ⟨h.done, ?_, h.front⟩
  rcases he with rfl | rfl
  · exact h.right
  · rw [List.append_nil]; exact h.left
theorem sort_halves {d : Nat} (a b : List (Tr d)) : sortL (ordT d) (sortL (ordT d) a ++ sortL (ordT d) b) = sortL (ordT d) (a ++ b) :=
  sort_perm ((sortL_perm _ a).append (sortL_perm _ b))
end Go.Proofs.YtilgbnnjecpneaaGreatDoor
