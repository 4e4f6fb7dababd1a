/- Texts of the proof, put together by program: WGetK, WPutP, WAt, WTopR, WSetP, PPart, PSet, WVTo, WPutQ, WPutE, WSetA, WPutS, WSetT, WMapS, WPutR, WPutI. -/
import Derived.Test.YtilgbnnjecpneaaGreatDoorV21
import Derived.Test.YtilgbnnjecpneaaGreatDoorV12
import Derived.Test.YtilgbnnjecpneaaGreatDoorV10
import Derived.Test.YtilgbnnjecpneaaGreatDoorV7
import Derived.Test.YtilgbnnjecpneaaGreatDoorV3
/- PartGet of the program. -/
namespace Go.Proofs.YtilgbnnjecpneaaGreatDoor
open Go.RowKit Go.Deep

end Go.Proofs.YtilgbnnjecpneaaGreatDoor

/- A tree put at a key of a map. -/
namespace Go.Proofs.YtilgbnnjecpneaaGreatDoor
open Go.RowKit Go.Deep

end Go.Proofs.YtilgbnnjecpneaaGreatDoor

/- PartAt of the program. -/
namespace Go.Proofs.YtilgbnnjecpneaaGreatDoor
open Go.RowKit Go.Deep

end Go.Proofs.YtilgbnnjecpneaaGreatDoor

/- partsInRow: the row owns its memory. -/
namespace Go.Proofs.YtilgbnnjecpneaaGreatDoor
open Go.RowKit Go.Deep

end Go.Proofs.YtilgbnnjecpneaaGreatDoor

/- A tree put at a place of a row. -/
namespace Go.Proofs.YtilgbnnjecpneaaGreatDoor
open Go.RowKit Go.Deep

/-- One tree more at the end of a row, which lies in no block. -/
theorem GTo.step {d N : Nat} {wr w2 : World} {sv sv' u : Value} {xs : List (Tr d)} {vs : List Value} {x : Tr d} {o : Obj} (h : GTo N wr sv xs vs) (hu : TreeG (fun _ => False) wr d x u) (hown : w2.ownsRow N 64 1 sv' (xs.length + 1) (vs ++ [u]))
    (hg : (wr.alloc o).grownBy w2 sv.ownBlock) (hw : sv'.ownBlock = sv.ownBlock ∨ sv'.ownBlock = some (wr.alloc o).heap.size) : GTo N w2 sv' (xs ++ [x]) (vs ++ [u]) := by
  obtain ⟨h1, h2⟩ := h
  have hlen : vs.length = xs.length := by have := h1.1; omega
  have hs3 := hg.size
  have hz : (wr.alloc o).heap.size = wr.heap.size + 1 := by simp
  rw [hz] at hs3 hw
  have hlast : ∀ b, b < wr.heap.size → some b ≠ sv.ownBlock → w2.heap[b]? = wr.heap[b]? := fun b hb1 hb2 =>
    (hg.block b (by omega) hb2).trans (Below.heap_alloc _ _ _ hb1)
  have hne : ∀ b, b < wr.heap.size → some b ≠ sv.ownBlock → some b ≠ sv'.ownBlock := fun b hb1 hb2 => by
    rcases hw with e | e
    · rw [e]; exact hb2
    · rw [e]; intro e2; cases e2; omega
  refine ⟨by rw [List.length_append]; exact hown, fun j y v hy hv => ?_⟩
  by_cases e : j < xs.length
  · rw [List.getElem?_append_left e] at hy
    rw [List.getElem?_append_left (by omega)] at hv
    refine TreeG.moved (fun b hB => hlast b hB.2.1 hB.2.2) (fun b hB => ⟨hB.1, by have := hB.2.1; omega, hne b hB.2.1 hB.2.2⟩) d y v (h2 j y v hy hv)
  · have hj : j = xs.length := by
      have := (List.getElem?_eq_some_iff.1 hy).1
      rw [List.length_append, List.length_singleton] at this
      omega
    subst hj
    rw [List.getElem?_append_right (Nat.le_refl _), Nat.sub_self] at hy
    rw [List.getElem?_append_right (by omega), hlen, Nat.sub_self] at hv
    cases hy
    cases hv
    exact TreeG.moved (fun b hB => hB.elim) (fun b hB => hB.elim) d x u hu

/-- Another tree at a place of a row. -/
theorem GTo.put {d N g n cap k : Nat} {w : World} {u : Value} {xs : List (Tr d)} {vs : List Value} {x : Tr d} {S : Nat → Prop} (h : GTo N w (.slice (some ⟨g, 0, none⟩) n cap) xs vs) (hn : n = xs.length) (hk : k < xs.length) (hu : TreeG S w d x u) (hS : ∀ b, S b → N ≤ b ∧ b < w.heap.size ∧ b ≠ g) :
    GTo N (w.setCell ⟨g, k, none⟩ u) (.slice (some ⟨g, 0, none⟩) n cap) (xs.set k x) (vs.set k u) ∧ Below N w (w.setCell ⟨g, k, none⟩ u) := by
  subst hn
  obtain ⟨h1, h2⟩ := h
  have hlen : vs.length = xs.length := by have := h1.1; omega
  obtain ⟨ho, hgr⟩ := h1.stored k u
  have hsame : ∀ b, b ≠ g → (w.setCell ⟨g, k, none⟩ u).heap[b]? = w.heap[b]? := fun b hb => Below.heap_setCell _ _ _ _ hb
  have hz : (w.setCell ⟨g, k, none⟩ u).heap.size = w.heap.size := size_setCell1 _ _ _
  have hgN := (h1.lt g rfl).1
  refine ⟨⟨by rw [List.length_set]; exact ho, fun j y v hy hv => ?_⟩, (Below.refl _ _).setCell hgN _⟩
  by_cases e : k = j
  · subst e
    rw [List.getElem?_set_self hk] at hy
    rw [List.getElem?_set_self (by omega)] at hv
    cases hy
    cases hv
    exact TreeG.moved (fun b hb => hsame b (hS b hb).2.2) (fun b hb => ⟨(hS b hb).1, by rw [hz]; exact (hS b hb).2.1, fun e => (hS b hb).2.2 (by cases e; rfl)⟩) d x u hu
  · rw [List.getElem?_set_ne e] at hy hv
    exact TreeG.moved (fun b hb => hsame b (fun e => hb.2.2 (by rw [e]; rfl))) (fun b hb => ⟨hb.1, by rw [hz]; exact hb.2.1, hb.2.2⟩) d y v (h2 j y v hy hv)
end Go.Proofs.YtilgbnnjecpneaaGreatDoor

/- What is put and got in plain trees: the facts that the laws of chapter 2 ask for. -/
namespace Go.Proofs.YtilgbnnjecpneaaGreatDoor
open Go.RowKit Go.Deep

theorem getL_cons {α : Type} (k : ByteArray) (ks : List ByteArray) (x : α) (xs : List α) (s : ByteArray) : getL (k :: ks) (x :: xs) s = if (k == s) = true then some x else getL ks xs s := by rw [getL]
theorem getL_nil {α : Type} (xs : List α) (s : ByteArray) : getL ([] : List ByteArray) xs s = none := getL_miss (by simp)
theorem putL_nil {α : Type} (xs : List α) (s : ByteArray) (x : α) : putL [] xs s x = [(s, x)] := by rw [putL]
theorem putL_cons {α : Type} (k : ByteArray) (ks : List ByteArray) (y : α) (ys : List α) (s : ByteArray) (x : α) : putL (k :: ks) (y :: ys) s x = if ltB k s = true then (k, y) :: putL ks ys s x else if (k == s) = true then (s, x) :: ks.zip ys else (s, x) :: (k, y) :: ks.zip ys := by rw [putL]
theorem zip_snd' {α : Type} (ks : List ByteArray) (xs : List α) (h : ks.length = xs.length) : (ks.zip xs).map Prod.snd = xs := by
  rw [List.map_snd_zip (by omega)]

/-- What was put is got. -/
theorem getL_put_same {α : Type} (s : ByteArray) (x : α) : ∀ (ks : List ByteArray) (xs : List α), ks.length = xs.length → getL ((putL ks xs s x).map Prod.fst) ((putL ks xs s x).map Prod.snd) s = some x
  | [], xs, _ => by rw [putL_nil]; show getL [s] [x] s = some x; rw [getL_cons, if_pos (bytes_self s)]
  | _ :: _, [], h => by simp at h
  | k :: ks, y :: ys, h => by
    rw [putL_cons]
    split
    · rename_i hlt
      rw [List.map_cons, List.map_cons, getL_cons, if_neg (by rw [bytes_ne (ltB_ne hlt)]; simp)]
      exact getL_put_same s x ks ys (by simpa using h)
    · split
      · show getL (s :: (ks.zip ys).map Prod.fst) (x :: (ks.zip ys).map Prod.snd) s = some x
        rw [getL_cons, if_pos (bytes_self s)]
      · show getL (s :: k :: (ks.zip ys).map Prod.fst) (x :: y :: (ks.zip ys).map Prod.snd) s = some x
        rw [getL_cons, if_pos (bytes_self s)]
/-- What was there at another key stays. -/
theorem getL_put_other {α : Type} {s s' : ByteArray} (x : α) (hne : s' ≠ s) : ∀ (ks : List ByteArray) (xs : List α), ks.length = xs.length → getL ((putL ks xs s x).map Prod.fst) ((putL ks xs s x).map Prod.snd) s' = getL ks xs s'
  | [], xs, _ => by
    rw [putL_nil]
    show getL [s] [x] s' = _
    rw [getL_cons, if_neg (by rw [bytes_ne (Ne.symm hne)]; simp), getL_nil, getL_nil]
  | _ :: _, [], h => by simp at h
  | k :: ks, y :: ys, h => by
    have hl : ks.length = ys.length := by simpa using h
    rw [putL_cons]
    split
    · show getL (k :: (putL ks ys s x).map Prod.fst) (y :: (putL ks ys s x).map Prod.snd) s' = _
      rw [getL_cons, getL_cons, getL_put_other x hne ks ys hl]
    · split
      · rename_i he
        have e := (MapKept.bytes_beq k s).1 he
        subst e
        show getL (k :: (ks.zip ys).map Prod.fst) (x :: (ks.zip ys).map Prod.snd) s' = _
        rw [getL_cons, getL_cons, if_neg (by rw [bytes_ne (Ne.symm hne)]; simp), if_neg (by rw [bytes_ne (Ne.symm hne)]; simp), zip_fst _ _ hl, zip_snd' _ _ hl]
      · show getL (s :: k :: (ks.zip ys).map Prod.fst) (x :: y :: (ks.zip ys).map Prod.snd) s' = _
        rw [getL_cons, if_neg (by rw [bytes_ne (Ne.symm hne)]; simp), getL_cons, getL_cons, zip_fst _ _ hl, zip_snd' _ _ hl]

theorem ltB_asymm {a b : ByteArray} (h : ltB a b = true) (h' : ltB b a = true) : False := by
  have := bytesLess_trans _ _ _ h h'
  rw [bytesLess_irrefl] at this
  cases this
/-- Keys in order, with what is at each: nothing else. -/
theorem assoc_ext {α : Type} : ∀ (ps qs : List (ByteArray × α)) (p q : Option ByteArray), keysGo p (ps.map Prod.fst) = true → keysGo q (qs.map Prod.fst) = true → (∀ s, getL (ps.map Prod.fst) (ps.map Prod.snd) s = getL (qs.map Prod.fst) (qs.map Prod.snd) s) → ps = qs
  | [], [], _, _, _, _, _ => rfl
  | [], (k, x) :: r, _, _, _, _, h => by
    have := h k
    simp only [List.map_cons, List.map_nil, getL_cons, getL_nil, bytes_self, if_true] at this
    cases this
  | (k, x) :: r, [], _, _, _, _, h => by
    have := h k
    simp only [List.map_cons, List.map_nil, getL_cons, getL_nil, bytes_self, if_true] at this
    cases this
  | (k, x) :: r, (k', x') :: r', p, q, h1, h2, h => by
    have a1 := keysGo_all _ k (keysGo_tail h1)
    have a2 := keysGo_all _ k' (keysGo_tail h2)
    have hg : ∀ s, (if (k == s) = true then some x else getL (r.map Prod.fst) (r.map Prod.snd) s) = (if (k' == s) = true then some x' else getL (r'.map Prod.fst) (r'.map Prod.snd) s) := fun s => by
      have := h s
      simp only [List.map_cons, getL_cons] at this
      exact this
    by_cases e : k = k'
    · subst e
      have hx := hg k
      rw [if_pos (bytes_self k), if_pos (bytes_self k)] at hx
      cases hx
      rw [assoc_ext r r' _ _ (keysGo_tail h1) (keysGo_tail h2) (fun s => ?_)]
      by_cases es : k = s
      · subst es
        rw [getL_miss (fun hm => ltB_ne (a1 _ hm) rfl), getL_miss (fun hm => ltB_ne (a2 _ hm) rfl)]
      · have hs := hg s
        rw [if_neg (by rw [bytes_ne es]; simp), if_neg (by rw [bytes_ne es]; simp)] at hs
        exact hs
    · exfalso
      cases hlt : ltB k k' with
      | true =>
        have hx := hg k
        rw [if_pos (bytes_self k), if_neg (by rw [bytes_ne (Ne.symm e)]; simp), getL_miss (fun hm => ltB_asymm hlt (a2 _ hm))] at hx
        cases hx
      | false =>
        have hlt' := ltB_total hlt (bytes_ne e)
        have hx := hg k'
        rw [if_pos (bytes_self k'), if_neg (by rw [bytes_ne e]; simp), getL_miss (fun hm => ltB_asymm hlt' (a1 _ hm))] at hx
        cases hx
theorem keysGo_ok : ∀ (ks : List ByteArray) (p : Option ByteArray), keysGo p ks = true → ∀ s ∈ ks, strOk s = true
  | [], _, _, _, h => by cases h
  | a :: r, p, h, s, hs => by
    have h0 : strOk a = true := by
      cases p with
      | none => simp only [keysGo, Bool.and_eq_true] at h; exact h.1
      | some q => simp only [keysGo, Bool.and_eq_true] at h; exact h.1
    cases hs with
    | head => exact h0
    | tail _ hs => exact keysGo_ok r _ (keysGo_tail h) s hs
theorem getL_key {α : Type} {ks : List ByteArray} {xs : List α} {i : Nat} {k : ByteArray} {y : α} (h : keysB ks = true) (hk : ks[i]? = some k) (hy : xs[i]? = some y) : getL ks xs k = some y :=
  getL_at hk hy (fun _ hj e => keysB_ne h hj e hk rfl)

theorem putL_len2 {α : Type} (ps : List (ByteArray × α)) : (ps.map Prod.fst).length = (ps.map Prod.snd).length := by rw [List.length_map, List.length_map]

theorem putL_order {α : Type} {s : ByteArray} {x : α} {ks : List ByteArray} {xs : List α} (hs : strOk s = true) (hl : ks.length = xs.length) (hk : keysGo none ks = true) : keysGo none ((putL ks xs s x).map Prod.fst) = true :=
  putL_keys hs hl hk (fun q h => by cases h)
end Go.Proofs.YtilgbnnjecpneaaGreatDoor

/- What is set at a place of a plain row: the facts that the laws of chapter 2 ask for. -/
namespace Go.Proofs.YtilgbnnjecpneaaGreatDoor
open Go.RowKit Go.Deep

theorem okT_iff {d : Nat} {t : Tr d} : okT d t = true ↔ formT d t 6 = true ∧ manyT d t 6 ≤ 60 := by
  unfold okT
  rw [Bool.and_eq_true, decide_eq_true_eq]
theorem okT_rowT_iff {d : Nat} {xs : List (Tr d)} : okT (d + 1) (rowT d xs) = true ↔ (∀ x ∈ xs, formT d x 5 = true) ∧ 1 + (xs.map (fun x => manyT d x 5)).sum ≤ 60 := by
  have hb : headBad 5 0 ByteArray.empty ([] : List ByteArray).length xs.length 6 = false := headBad_iff.2 ⟨by omega, fun _ => rfl, fun _ => empty_toList, fun _ => rfl, fun h => by omega⟩
  have h1 : formT (d + 1) (rowT d xs) 6 = xs.all (fun x => formT d x 5) := by
    show formT (d + 1) (Nd.mk 5 0 ByteArray.empty [] xs : Nd (Tr d)) 6 = _
    rw [formT_good hb]
    rfl
  have h2 : manyT (d + 1) (rowT d xs) 6 = 1 + (xs.map (fun x => manyT d x 5)).sum := rfl
  rw [okT_iff, h1, h2, List.all_eq_true]
/-- A row that is ok is its trees. -/
theorem row_self {d : Nat} {t : Tr (d + 1)} (h : okT (d + 1) t = true) (h5 : Nd.kind t = 5) : t = rowT d (Nd.list t) := by
  obtain ⟨hf, _⟩ := okT_form h
  obtain ⟨kind, num, str, keys, list⟩ := t
  have h5 : kind = 5 := h5
  subst h5
  cases hb : headBad 5 num str keys.length list.length 6 with
  | true => rw [formT_bad hb] at hf; cases hf
  | false =>
    obtain ⟨_, g1, g2, g3, _⟩ := headBad_iff.1 hb
    obtain rfl := g1 (by omega)
    have hs : str = ByteArray.empty := str_empty (g2 (by omega))
    have hk := List.eq_nil_of_length_eq_zero (g3 (by omega))
    subst hs hk
    rfl
end Go.Proofs.YtilgbnnjecpneaaGreatDoor

/- A row of the model's that is being made out of trees that lie elsewhere; what is told, in the result's own cells. -/
namespace Go.Proofs.YtilgbnnjecpneaaGreatDoor
open Go.RowKit Go.Deep

theorem nodes_wt : ∀ (d : Nat) (t : Tr d), nodes d t ≤ wtT d t
  | 0, t => Empty.elim t
  | d + 1, t => by
    have h : ∀ xs : List (Tr d), (xs.map (nodes d)).sum ≤ (xs.map (wtT d)).sum := by
      intro xs
      induction xs with
      | nil => exact Nat.le_refl _
      | cons x r ih =>
        have := nodes_wt d x
        simp only [List.map_cons, List.sum_cons]
        omega
    have := h (Nd.list t)
    rw [nodes, wtT]
    omega
theorem nodes_ok {d : Nat} {t : Tr d} (h : okT d t = true) : nodes d t ≤ 300 := Nat.le_trans (nodes_wt d t) (wtT_ok h)
theorem sum_le_of {α : Type} {f : α → Nat} {c : Nat} : ∀ {xs : List α}, (∀ x ∈ xs, f x ≤ c) → (xs.map f).sum ≤ c * xs.length
  | [], _ => by simp
  | x :: r, h => by
    have h1 := h x (by simp)
    have h2 := sum_le_of (xs := r) (fun y hy => h y (by simp [hy]))
    simp only [List.map_cons, List.sum_cons, List.length_cons]
    rw [Nat.mul_succ]
    omega
/-- A row of the model's that owns its cells; its trees lie in blocks of S. -/
def VTo {d : Nat} (S : Nat → Prop) (N : Nat) (w : World) (lv : Value) (xs : List (Tr d)) (vs : List Value) : Prop :=
  w.ownsRow N 29 5 lv xs.length vs ∧ ∀ (j : Nat) (x : Tr d), xs[j]? = some x → ∃ c0 c1 c2 c3 c4, vs[j * 5]? = some c0 ∧ vs[j * 5 + 1]? = some c1 ∧ vs[j * 5 + 2]? = some c2 ∧ vs[j * 5 + 3]? = some c3 ∧ vs[j * 5 + 4]? = some c4 ∧ ValAt S w d x (.agg #[c0, c1, c2, c3, c4])

theorem VTo.grow {d N : Nat} {S : Nat → Prop} {wr w2 : World} {lv lv' : Value} {xs : List (Tr d)} {vs : List Value} {x : Tr d} {v0 v1 v2 v3 v4 : Value} (h : VTo S N wr lv xs vs) (hs : Same S wr w2) (hx : ValAt S wr d x (.agg #[v0, v1, v2, v3, v4])) (hown : w2.ownsRow N 29 5 lv' (xs.length + 1) (vs ++ [v0, v1, v2, v3, v4])) : VTo S N w2 lv' (xs ++ [x]) (vs ++ [v0, v1, v2, v3, v4]) := by
  obtain ⟨h1, h2⟩ := h
  have hlen : vs.length = xs.length * 5 := h1.1
  refine ⟨by rw [List.length_append]; exact hown, fun j y hy => ?_⟩
  by_cases e : j < xs.length
  · rw [List.getElem?_append_left e] at hy
    obtain ⟨c0, c1, c2, c3, c4, e0, e1, e2, e3, e4, hv⟩ := h2 j y hy
    refine ⟨c0, c1, c2, c3, c4, ?_, ?_, ?_, ?_, ?_, hv.same hs⟩
    · rw [List.getElem?_append_left (by omega)]; exact e0
    · rw [List.getElem?_append_left (by omega)]; exact e1
    · rw [List.getElem?_append_left (by omega)]; exact e2
    · rw [List.getElem?_append_left (by omega)]; exact e3
    · rw [List.getElem?_append_left (by omega)]; exact e4
  · have hj : j = xs.length := by
      have := (List.getElem?_eq_some_iff.1 hy).1
      rw [List.length_append, List.length_singleton] at this
      omega
    subst hj
    rw [List.getElem?_append_right (Nat.le_refl _), Nat.sub_self] at hy
    cases hy
    refine ⟨v0, v1, v2, v3, v4, ?_, ?_, ?_, ?_, ?_, hx.same hs⟩
    · rw [List.getElem?_append_right (by omega), hlen]; simp
    · rw [List.getElem?_append_right (by omega), hlen]; simp
    · rw [List.getElem?_append_right (by omega), hlen]; simp
    · rw [List.getElem?_append_right (by omega), hlen]; simp
    · rw [List.getElem?_append_right (by omega), hlen]; simp

theorem VTo.moved {d N : Nat} {S : Nat → Prop} {w w' : World} {lv : Value} {xs : List (Tr d)} {vs : List Value} (h : VTo S N w lv xs vs) (hs : Same S w w') (ho : ∀ g, lv.ownBlock = some g → w'.heap[g]? = w.heap[g]?) : VTo S N w' lv xs vs := by
  obtain ⟨h1, h2⟩ := h
  refine ⟨⟨h1.1, ?_⟩, fun j x hx => ?_⟩
  · rcases h1.2 with h | ⟨g, cap, cur, hv, hg, hh, hrest⟩
    · exact Or.inl h
    · exact Or.inr ⟨g, cap, cur, hv, hg, (ho g (by rw [hv]; rfl)).trans hh, hrest⟩
  · obtain ⟨c0, c1, c2, c3, c4, e0, e1, e2, e3, e4, hv⟩ := h2 j x hx
    exact ⟨c0, c1, c2, c3, c4, e0, e1, e2, e3, e4, hv.same hs⟩

/-- The row, where it lies. -/
theorem VTo.at {d N : Nat} {S : Nat → Prop} {w : World} {lv : Value} {xs : List (Tr d)} {vs : List Value} (h : VTo S N w lv xs vs) (hl : xs.length < 3518437208883) : RowAt (fun b => S b ∨ (N ≤ b ∧ b < w.heap.size)) w (ValAt (fun b => S b ∨ (N ≤ b ∧ b < w.heap.size)) w d) lv xs := by
  obtain ⟨h1, h2⟩ := h
  refine ⟨hl, ?_⟩
  rcases h1.2 with ⟨rfl, h0⟩ | ⟨g, cap, cur, rfl, hg, hh, hnc, _, hcs, htake⟩
  · exact ⟨none, 0, by rw [h0], Or.inl (List.eq_nil_of_length_eq_zero h0)⟩
  · refine ⟨some ⟨g, 0, none⟩, cap, rfl, Or.inr ⟨g, 0, Or.inr ⟨hg, (Array.getElem?_eq_some_iff.1 hh).1⟩, rfl, fun i x hx => ?_⟩⟩
    obtain ⟨c0, c1, c2, c3, c4, e0, e1, e2, e3, e4, hv⟩ := h2 i x hx
    have hi := (List.getElem?_eq_some_iff.1 hx).1
    have hc : ∀ j c, j < xs.length * 5 → vs[j]? = some c → w.cell? ⟨g, 0 + j, none⟩ = some c := fun j c hj hc => by
      rw [Nat.zero_add]
      exact (h1.cellAt j hj).trans hc
    refine ⟨c0, c1, c2, c3, c4, hc _ _ (by omega) e0, hc _ _ (by omega) e1, hc _ _ (by omega) e2, hc _ _ (by omega) e3, hc _ _ (by omega) e4, hv.mono (fun b hb => Or.inl hb)⟩

/-- Another tree at a place. -/
theorem VTo.put {d N g n cap k : Nat} {S : Nat → Prop} {w : World} {xs : List (Tr d)} {vs : List Value} {x : Tr d} {v0 v1 v2 v3 v4 : Value} (h : VTo S N w (.slice (some ⟨g, 0, none⟩) n cap) xs vs) (hn : n = xs.length) (hk : k < xs.length) (hx : ValAt S w d x (.agg #[v0, v1, v2, v3, v4])) (hS : ∀ b, S b → b < N) :
    (∃ vs', VTo S N (set5 w g (k * 5) v0 v1 v2 v3 v4) (.slice (some ⟨g, 0, none⟩) n cap) (xs.set k x) vs') ∧ Below N w (set5 w g (k * 5) v0 v1 v2 v3 v4) := by
  subst hn
  obtain ⟨h1, h2⟩ := h
  have hlen : vs.length = xs.length * 5 := h1.1
  have hgN := (h1.lt g rfl).1
  have hB : Below N w (set5 w g (k * 5) v0 v1 v2 v3 v4) := below_set5 (Below.refl _ _) hgN _ _ _ _ _ _
  have hsame : Same S w (set5 w g (k * 5) v0 v1 v2 v3 v4) := fun b hb => hB.block b (hS b hb)
  have ho := (((((h1.stored (k * 5) v0).1.stored (k * 5 + 1) v1).1.stored (k * 5 + 2) v2).1.stored (k * 5 + 3) v3).1.stored (k * 5 + 4) v4).1
  refine ⟨⟨_, by rw [List.length_set]; exact ho, fun j y hy => ?_⟩, hB⟩
  by_cases e : k = j
  · subst e
    rw [List.getElem?_set_self hk] at hy
    cases hy
    refine ⟨v0, v1, v2, v3, v4, ?_, ?_, ?_, ?_, ?_, hx.same hsame⟩
    all_goals simp [List.getElem?_set, hlen]
    all_goals omega
  · rw [List.getElem?_set_ne e] at hy
    obtain ⟨c0, c1, c2, c3, c4, e0, e1, e2, e3, e4, hv⟩ := h2 j y hy
    refine ⟨c0, c1, c2, c3, c4, ?_, ?_, ?_, ?_, ?_, hv.same hsame⟩
    · rw [List.getElem?_set_ne (by omega), List.getElem?_set_ne (by omega), List.getElem?_set_ne (by omega), List.getElem?_set_ne (by omega), List.getElem?_set_ne (by omega)]; exact e0
    · rw [List.getElem?_set_ne (by omega), List.getElem?_set_ne (by omega), List.getElem?_set_ne (by omega), List.getElem?_set_ne (by omega), List.getElem?_set_ne (by omega)]; exact e1
    · rw [List.getElem?_set_ne (by omega), List.getElem?_set_ne (by omega), List.getElem?_set_ne (by omega), List.getElem?_set_ne (by omega), List.getElem?_set_ne (by omega)]; exact e2
    · rw [List.getElem?_set_ne (by omega), List.getElem?_set_ne (by omega), List.getElem?_set_ne (by omega), List.getElem?_set_ne (by omega), List.getElem?_set_ne (by omega)]; exact e3
    · rw [List.getElem?_set_ne (by omega), List.getElem?_set_ne (by omega), List.getElem?_set_ne (by omega), List.getElem?_set_ne (by omega), List.getElem?_set_ne (by omega)]; exact e4
end Go.Proofs.YtilgbnnjecpneaaGreatDoor

/- What stands while l2Put of the model makes keys and trees. -/
namespace Go.Proofs.YtilgbnnjecpneaaGreatDoor
open Go.RowKit Go.Deep

/-- What stands while keys and trees are put into a variable's lists. -/
structure P2At (d : Nat) (S : Nat → Prop) (N ob : Nat) (W wr : World) (ks : List ByteArray) (xs : List (Tr d)) (kv lv : Value) (vs : List Value) : Prop where
  out : Blk5 wr ob 29 (.int .i64 6) (.int .i64 0) (.string { data := #[] }) kv lv
  keys : wr.ownsRow N 9 1 kv ks.length (ks.map Value.string)
  row : VTo S N wr lv xs vs
  below : Below N W wr
  offk : kv.ownBlock ≠ some ob
  offl : lv.ownBlock ≠ some ob
  apart : ∀ g, kv.ownBlock = some g → lv.ownBlock ≠ some g
  ge : N ≤ ob

theorem P2At.drew {d N ob : Nat} {S : Nat → Prop} {W wr : World} {ks : List ByteArray} {xs : List (Tr d)} {kv lv : Value} {vs : List Value} (h : P2At d S N ob W wr ks xs kv lv vs) : P2At d S N ob W wr.drew ks xs kv lv vs :=
  ⟨h.out, h.keys, h.row.moved (fun _ _ => rfl) (fun _ _ => rfl), ⟨h.below.os, h.below.tape, h.below.output, h.below.size, h.below.block⟩, h.offk, h.offl, h.apart, h.ge⟩

end Go.Proofs.YtilgbnnjecpneaaGreatDoor

/- What stands when l2Put of the model is through. -/
namespace Go.Proofs.YtilgbnnjecpneaaGreatDoor
open Go.RowKit Go.Deep

/-- A row of texts of its own lies in memory. -/
theorem StrsAt.of_own {N : Nat} {S : Nat → Prop} {w : World} {kv : Value} {ks : List ByteArray} (h : w.ownsRow N 9 1 kv ks.length (ks.map Value.string)) (hl : ks.length < 17592186044416) (hs : ∀ s ∈ ks, s.size < 281474976710656) (hS : ∀ b, N ≤ b → b < w.heap.size → S b) : StrsAt S w kv ks := by
  refine ⟨hl, hs, ?_⟩
  rcases h.2 with ⟨rfl, h0⟩ | ⟨g, cap, cur, rfl, hg, hh, _⟩
  · exact ⟨none, 0, by rw [h0], Or.inl (List.eq_nil_of_length_eq_zero h0)⟩
  · refine ⟨some ⟨g, 0, none⟩, cap, rfl, Or.inr ⟨g, 0, hS g hg (Array.getElem?_eq_some_iff.1 hh).1, rfl, fun i s hi => ?_⟩⟩
    have hv : (ks.map Value.string)[i]? = some (.string s) := by rw [List.getElem?_map, hi]; rfl
    have hc := h.cells (g := g) rfl i _ hv
    have hadd : (⟨g, 0, none⟩ : Addr).add i = ⟨g, 0 + i, none⟩ := by unfold Addr.add; split <;> simp_all
    rwa [hadd] at hc

/-- The variable, told: a tree by keys. -/
theorem P2At.done {d N r : Nat} {S : Nat → Prop} {w W wz : World} {ps : List (ByteArray × Tr d)} {ks : List ByteArray} {xs : List (Tr d)} {kv lv : Value} {vs : List Value} (h : P2At d S N N W wz ks xs kv lv vs) (hks : ks = ps.map Prod.fst) (hxs : xs = ps.map Prod.snd) (hS : Within S w) (hwr : w.heap.size ≤ r) (hr : r < N) (hW : Below w.heap.size w W) (hlen : ps.length ≤ 100000) (hsz : ∀ p ∈ ps, p.1.size < 281474976710656) :
    ∀ wF, wF = set5 wz r 0 (.int .i64 6) (.int .i64 0) (.string { data := #[] }) kv lv → ValAt (fun b => S b ∨ Fresh w wF b) wF (d + 1) (mapT d ps) (.agg #[.int .i64 6, .int .i64 0, .string { data := #[] }, kv, lv]) ∧ Below w.heap.size w wF := by
  intro wF hF
  subst hks hxs
  have hzF : wF.heap.size = wz.heap.size := by rw [hF, set5_size]
  have hbz := h.below.size
  have hsm : ∀ b, b ≠ r → wF.heap[b]? = wz.heap[b]? := fun b hb => by rw [hF, set5_block _ _ _ _ _ _ _ _ _ hb]
  have hkl : (ps.map Prod.fst).length ≤ 100000 := by rw [List.length_map]; exact hlen
  have hxl : (ps.map Prod.snd).length ≤ 100000 := by rw [List.length_map]; exact hlen
  have hkeys : StrsAt (fun b => N ≤ b ∧ b < wz.heap.size) wz kv (ps.map Prod.fst) := StrsAt.of_own h.keys (by omega) (fun s hs => by obtain ⟨p, hp, rfl⟩ := List.mem_map.1 hs; exact hsz p hp) (fun b h1 h2 => ⟨h1, h2⟩)
  have hrow := h.row.at (by omega)
  have hmv : Same (fun b => S b ∨ (N ≤ b ∧ b < wz.heap.size)) wz wF := fun b hb => hsm b (by
    rcases hb with hb | hb
    · have := hS b hb; omega
    · have := hb.1; omega)
  have hin : ∀ b, (S b ∨ (N ≤ b ∧ b < wz.heap.size)) → (S b ∨ Fresh w wF b) := fun b hb => by
    rcases hb with hb | hb
    · exact Or.inl hb
    · exact Or.inr ⟨by have := hb.1; omega, by have := hb.2; omega⟩
  refine ⟨⟨_, _, rfl, ⟨by show _ ≤ (6 : Int); omega, by show (6 : Int) ≤ _; omega⟩, ⟨by show _ ≤ (0 : Int); omega, by show (0 : Int) ≤ _; omega⟩, by show (0 : Nat) < _; omega, hkeys.moved (fun b hb => hsm b (by have := hb.1; omega)) (fun b hb => Or.inr ⟨by have := hb.1; omega, by have := hb.2; omega⟩), hrow.moved hmv hin (fun y u hy => ValAt.moved hmv hin _ y u hy)⟩, ?_⟩
  rw [hF]
  refine below_set5 ?_ hwr _ _ _ _ _ _
  exact hW.trans (h.below.mono (by omega))
end Go.Proofs.YtilgbnnjecpneaaGreatDoor

/- append of trees onto a row of nothing. -/
namespace Go.Proofs.YtilgbnnjecpneaaGreatDoor
open Go.RowKit Go.Deep

/-- An append, as one step of a region in its order. -/
theorem wpList_append_run {P : Program} {ops : Array Oper} {rest : List Oper} {o : Oper} {a : Act} {w : World} {Q : Exit → Act → World → Prop} (Φ : Value → World → Prop) (hgd : o.guard = none) (s x : Operand) (t : TypeId)
    (ho : o.op = .call { callee := .builtin .append, args := #[s, x], argTypes := #[t, t] }) (vs vx : Value) (hs : a.eval s = vs) (hx : a.eval x = vx)
    (hrun : ∃ v' w', (Builtin.append_ #[t, t] o.type #[vs, vx]).run P w = .ok v' w' ∧ Φ v' w') (h : ∀ v' w', Φ v' w' → wpList P ops Q rest (a.put o.dst v') w') :
    wpList P ops Q (o :: rest) a w := by
  refine wpList_plain hgd fun K hK => ?_
  obtain ⟨v', w', hr, h2⟩ := hrun
  unfold Oper.wp execOp
  simp only [ho, resolve, invoke, builtin, Sem.run_bind, Sem.run_pure, Result.andThen_ok, List.map_toArray, List.map_cons, List.map_nil, hs, hx, hr]
  exact hK _ _ (h v' w' h2)

theorem Tryz.infoV2 : (Tryz.prog.info? 29).map (fun i => (i.zero, i.size, i.bytes)) = some (some zeroVal, 5, 80) := by kernel_rfl

end Go.Proofs.YtilgbnnjecpneaaGreatDoor

/- l2Put of the model. -/
namespace Go.Proofs.YtilgbnnjecpneaaGreatDoor
open Go.RowKit Go.Deep

end Go.Proofs.YtilgbnnjecpneaaGreatDoor

/- l2Told of the model: a tree in new memory, if it is right. -/
namespace Go.Proofs.YtilgbnnjecpneaaGreatDoor
open Go.RowKit Go.Deep

end Go.Proofs.YtilgbnnjecpneaaGreatDoor

/- A map, turned at a key that is there. -/
namespace Go.Proofs.YtilgbnnjecpneaaGreatDoor
open Go.RowKit Go.Deep

theorem run_mapSet (w : World) (r clock j : Nat) (es : Array MapEntry) (s : ByteArray) (u v : Value) (b : Nat) (hb : w.heap[r]? = some (.map es clock)) (hj : es[j]? = some ⟨.string s, v, b⟩)
    (hn : ∀ i' e', i' < j → es[i']? = some e' → ∃ k, e'.key = .string k ∧ k ≠ s) :
    (Instr.mapUpdate 118 (.map (some r)) (.string s) u).run Tryz.prog w = .ok () (withObj w r (.map (es.modify j fun e => { e with key := .string s, val := u }) clock)) := by
  have hf := findNow_at s es.toList j 0 ⟨.string s, v, b⟩ (by rw [Array.getElem?_toList]; exact hj) rfl (fun i' e' hi he => hn i' e' hi (by rw [Array.getElem?_toList] at he; exact he))
  have hk : (Instr.checkKey false 10000 9 (.string s)).run Tryz.prog w = .ok () w :=
    MapKept.run_checkKey (P := Tryz.prog) (w := w) (k := .string s) Tryz.underlying9 trivial false 9999
  have hfk := MapKept.run_findKey (P := Tryz.prog) (w := w) Tryz.underlying9 hf
  have hst : (Instr.keyThatStays (.string s) (.string s)).run Tryz.prog w = .ok (.string s) w := MapKept.run_keyThatStays (P := Tryz.prog) (w := w) (d := .string) (k := .string s) trivial
  simp [Instr.mapUpdate, run_underlying Tryz.underlying118, getObj, setObj, Sem.run, hb, hk, hfk, hj, hst, withObj]

theorem below_withObj {N r : Nat} (w : World) (o : Obj) (h : N ≤ r) : Below N w (withObj w r o) :=
  ⟨rfl, rfl, rfl, by simp [withObj], fun b hb => withObj_block w r o b (by omega)⟩
end Go.Proofs.YtilgbnnjecpneaaGreatDoor

/- partsByKeys: the map owns its memory; a map's update. -/
namespace Go.Proofs.YtilgbnnjecpneaaGreatDoor
open Go.RowKit Go.Deep

/-- A map of the program's own trees that owns its memory: its trees lie in blocks from N on, not in the map's own. -/
structure MapO {d : Nat} (N : Nat) (w : World) (r : Nat) (es : Array MapEntry) (keys : List ByteArray) (xs : List (Tr d)) : Prop where
  len : xs.length ≤ 60
  good : keysB keys = true
  same : keys.length = xs.length
  ge : N ≤ r
  obj : w.heap[r]? = some (.map es keys.length)
  ent : MapG (TreeG (fun b => N ≤ b ∧ b < w.heap.size ∧ b ≠ r) w d) es (keys.zip xs)

theorem MapO.moved {d N r : Nat} {w w' : World} {es : Array MapEntry} {keys : List ByteArray} {xs : List (Tr d)} (h : MapO N w r es keys xs) (hb : Below w.heap.size w w') : MapO N w' r es keys xs := by
  have hz := hb.size
  exact ⟨h.len, h.good, h.same, h.ge, (hb.block r (Array.getElem?_eq_some_iff.1 h.obj).1).trans h.obj, h.ent.moved (fun x u hx => TreeG.moved (fun b hb' => hb.block b hb'.2.1) (fun b hb' => ⟨hb'.1, by have := hb'.2.1; omega, hb'.2.2⟩) d x u hx)⟩

end Go.Proofs.YtilgbnnjecpneaaGreatDoor

/- A map's update; PartPut of the program. -/
namespace Go.Proofs.YtilgbnnjecpneaaGreatDoor
open Go.RowKit Go.Deep

/-- A tree is put at a key of a map that owns its memory. -/
theorem MapO.put {d N r : Nat} {w : World} {es : Array MapEntry} {keys : List ByteArray} {xs : List (Tr d)} {s : ByteArray} {x : Tr d} {u : Value} {S : Nat → Prop} (h : MapO N w r es keys xs) (hs : strOk s = true) (hu : TreeG S w d x u) (hS : ∀ b, S b → N ≤ b ∧ b < w.heap.size ∧ b ≠ r) :
    ∃ w', (Instr.mapUpdate 118 (.map (some r)) (.string s) u).run Tryz.prog w = .ok () w' ∧ Below N w w' ∧ TreeG (fun b => N ≤ b ∧ b < w'.heap.size) w' (d + 1) (mapT d (putL keys xs s x)) (.iface 120 (.agg #[.map (some r)])) := by
  have hrl := (Array.getElem?_eq_some_iff.1 h.obj).1
  have hsz : ∀ o, (withObj w r o).heap.size = w.heap.size := fun o => by simp [withObj]
  have hlen : (keys.zip xs).length = keys.length := by rw [List.length_zip, ← h.same, Nat.min_self]
  have hput := putL_length keys xs s x
  have hkl := h.same
  have hl60 := h.len
  have hmv : ∀ o y v, TreeG (fun b => N ≤ b ∧ b < w.heap.size ∧ b ≠ r) w d y v → TreeG (fun b => N ≤ b ∧ b < (withObj w r o).heap.size) (withObj w r o) d y v := fun o y v hy =>
    TreeG.moved (fun b hb => withObj_block w r o b hb.2.2) (fun b hb => ⟨hb.1, by rw [hsz]; exact hb.2.1⟩) d y v hy
  have hmu : ∀ o, TreeG (fun b => N ≤ b ∧ b < (withObj w r o).heap.size) (withObj w r o) d x u := fun o =>
    TreeG.moved (fun b hb => withObj_block w r o b (hS b hb).2.2) (fun b hb => ⟨(hS b hb).1, by rw [hsz]; exact (hS b hb).2.1⟩) d x u hu
  have hobj : ∀ o, (withObj w r o).heap[r]? = some o := fun o => by simp [withObj, hrl]
  have hge := h.ge
  by_cases hm : s ∈ keys
  · obtain ⟨j, y, hj, hy, hmin⟩ := key_at hm hkl
    have hzj : (keys.zip xs)[j]? = some (s, y) := List.getElem?_zip_eq_some.2 ⟨hj, hy⟩
    obtain ⟨v, hev, _⟩ := h.ent.2 j s y hzj
    have hjl := (List.getElem?_eq_some_iff.1 hj).1
    have hbefore : ∀ i' e', i' < j → es[i']? = some e' → ∃ k, e'.key = .string k ∧ k ≠ s := fun i' e' hi he => by
      obtain ⟨v', hv', _⟩ := h.ent.2 i' _ _ (List.getElem?_zip_eq_some.2 ⟨List.getElem?_eq_getElem (by omega : i' < keys.length), List.getElem?_eq_getElem (by omega : i' < xs.length)⟩)
      rw [he] at hv'
      cases hv'
      exact ⟨_, rfl, fun e => hmin i' hi (by rw [List.getElem?_eq_getElem (by omega : i' < keys.length), e])⟩
    have hth : putL keys xs s x = (keys.zip xs).set j (s, x) := putL_there (p := none) hkl h.good hj
    refine ⟨_, run_mapSet w r keys.length j es s u v j h.obj hev hbefore, below_withObj _ _ hge, Or.inr (Or.inr (Or.inr (Or.inr ⟨_, _, putL keys xs s x, r, es.modify j fun e => { e with key := .string s, val := u }, ?_, ?_, ?_, ?_, rfl, rfl, ⟨hge, by rw [hsz]; exact hrl⟩, ?_, ?_⟩)))⟩
    · rw [List.length_map]; omega
    · exact putL_keys hs hkl h.good (fun q e => by cases e)
    · rw [List.length_map, List.length_map]
    · rw [zip_unzip]
    · rw [hobj, hth, List.length_set, hlen]
    · rw [hth]
      refine ⟨by rw [Array.size_modify, List.length_set]; exact h.ent.1, fun i k z hi => ?_⟩
      by_cases e : j = i
      · subst e
        rw [List.getElem?_set_self (by omega)] at hi
        cases hi
        exact ⟨u, by simp [Array.getElem?_modify, hev], hmu _⟩
      · rw [List.getElem?_set_ne e] at hi
        obtain ⟨v', hv', ha⟩ := h.ent.2 i k z hi
        exact ⟨v', by rw [Array.getElem?_modify, if_neg e]; exact hv', hmv _ _ _ ha⟩
  · have hmiss := h.ent.miss (s := s) (by rw [zip_fst _ _ hkl]; exact hm)
    have hp := putL_new (x := x) hkl hm
    have hpl := hp.length_eq
    rw [List.length_append, hlen, List.length_singleton] at hpl
    refine ⟨_, run_mapPush w r keys.length es s u h.obj hmiss, below_withObj _ _ hge, Or.inr (Or.inr (Or.inr (Or.inr ⟨_, _, (keys.zip xs) ++ [(s, x)], r, es.push ⟨.string s, u, keys.length⟩, ?_, ?_, ?_, ?_, rfl, rfl, ⟨hge, by rw [hsz]; exact hrl⟩, ?_, ?_⟩)))⟩
    · rw [List.length_map]; omega
    · exact putL_keys hs hkl h.good (fun q e => by cases e)
    · rw [List.length_map, List.length_map]
    · rw [zip_unzip]; exact hp
    · rw [hobj, List.length_append, hlen, List.length_singleton]
    · refine ⟨by rw [Array.size_push, List.length_append, List.length_singleton, h.ent.1], fun i k z hi => ?_⟩
      have hes : es.size = keys.length := h.ent.1.trans hlen
      by_cases e : i < keys.length
      · rw [List.getElem?_append_left (by omega)] at hi
        obtain ⟨v', hv', ha⟩ := h.ent.2 i k z hi
        exact ⟨v', by rw [Array.getElem?_push, if_neg (by omega)]; exact hv', hmv _ _ _ ha⟩
      · have hil := (List.getElem?_eq_some_iff.1 hi).1
        rw [List.length_append, hlen, List.length_singleton] at hil
        obtain rfl : i = keys.length := by omega
        rw [List.getElem?_append_right (by omega), hlen, Nat.sub_self] at hi
        cases hi
        exact ⟨u, by rw [Array.getElem?_push, if_pos hes.symm], hmu _⟩

end Go.Proofs.YtilgbnnjecpneaaGreatDoor
