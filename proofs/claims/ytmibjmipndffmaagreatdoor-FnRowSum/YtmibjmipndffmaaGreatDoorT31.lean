/- Texts of the proof, put together by program: LSumC. -/
import Derived.Test.YtmibjmipndffmaaGreatDoorT25
import Derived.Test.YtmibjmipndffmaaGreatDoorT28
import Derived.Test.YtmibjmipndffmaaGreatDoorT29
import Derived.Test.YtmibjmipndffmaaGreatDoorT30
/- Sums of rows: contracts, and the facts that FnRowSum asks for. -/
namespace Go.Proofs.YtmibjmipndffmaaGreatDoor
open Go.RowKit Go.Deep

theorem rsumI {d : Nat} {w W : World} {t : Tr (d + 1 + 1)} {v : Value} (h : ValAt (FreshP w W) W (d + 1 + 1) t v) (hg : ErrType W) (hl : w.heap.size ≤ W.heap.size) :
    Calls Tryz.prog 25 #[v] W (TQ w (d + 1) (rowTell (sumF d) t).1 (rowTell (sumF d) t).2 W) := (implRowSum_any d _ t v W h within_P hg).mono (fun _ _ h => tq_of hl h)
theorem rsumS {d : Nat} {w W : World} {t : Tr (d + 3)} {v : Value} (h : ValAt (FreshP w W) W (d + 3) t v) (hz : wtT (d + 3) t ≤ 10000) (hl : w.heap.size ≤ W.heap.size) :
    Calls Tryz.prog 26 #[v] W (TQ w (d + 2) (rowTell (sumF (d + 1)) t).1 (rowTell (sumF (d + 1)) t).2 W) := (specRowSum_own d _ t v W h within_P (nodes_small hz)).mono (fun _ _ h => tq_of hl h)
theorem addG {d : Nat} {w W : World} {a b : Tr (d + 1)} {v u : Value} (h : ValAt (FreshP w W) W (d + 1) a v) (hx : ValAt (FreshP w W) W (d + 1) b u) (hg : ErrType W) :
    Calls Tryz.prog 30 #[v, u] W (TQ W (d + 1) (partAddT d a b).1 (partAddT d a b).2 W) := (implPartAdd_any d _ a v _ b u W h within_P hx within_P hg).mono (fun _ _ h => tq_of (Nat.le_refl _) h)
theorem rcutI {d : Nat} {w W : World} {t : Tr (d + 1)} {v : Value} {i j : Int} (hi : I64 i) (hj : I64 j) (h : ValAt (FreshP w W) W (d + 1) t v) (hg : ErrType W) (hl : w.heap.size ≤ W.heap.size) :
    Calls Tryz.prog 29 #[v, .int .i64 i, .int .i64 j] W (TQ w (d + 1) (cutR d t i j).1 (cutR d t i j).2 W) := (implRowCut_any d _ t v i j hi hj W h within_P hg).mono (fun _ _ h => tq_of hl h)

/-- The first k of a row. -/
theorem cut_first {d : Nat} {t : Tr (d + 1)} {k : Nat} (h : okT (d + 1) t = true) (h5 : Nd.kind t = 5) (hk : k ≤ (Nd.list t).length) : cutR d t 0 (k : Int) = (rowT d ((Nd.list t).take k), true) := by
  have ho : okT (d + 1) (rowT d ((Nd.list t).take k)) = true := by
    have h1 := h
    rw [row_self h h5] at h1
    exact okT_take h1 k
  have e0 : cutA 0 (Nd.list t).length = 0 := by
    unfold cutA
    rw [edge_pos (by omega)]
    show min 0 _ = 0
    omega
  have e1 : cutB 0 (k : Int) (Nd.list t).length = k := by
    unfold cutB
    rw [edge_pos (by omega), edge_pos (by omega)]
    show max (min 0 _) (min k _) = k
    omega
  rw [cutR_some h (cutF_row h5), e0, e1, List.drop_zero, Nat.sub_zero]
  unfold toldT
  rw [if_pos ho, ho]
theorem tell_of {d e : Nat} {f : List (Tr d) → Option (Tr (e + 1))} {xs : List (Tr d)} {x : Tr (e + 1)} (h : okT (d + 1) (rowT d xs) = true) (hf : f xs = some x) (hx : okT (e + 1) x = true) : rowTell f (rowT d xs) = (x, true) := by
  have hr : treesL d (rowT d xs) = some xs := by
    unfold treesL
    rw [if_pos h]
    exact if_pos rfl
  rw [rowTell_some hr hf]
  unfold toldT
  rw [if_pos hx, hx]
theorem tell_ok {d e : Nat} {f : List (Tr d) → Option (Tr (e + 1))} {t : Tr (d + 1)} (h : (rowTell f t).2 = true) : okT (d + 1) t = true ∧ Nd.kind t = 5 ∧ ∃ x, f (Nd.list t) = some x ∧ okT (e + 1) x = true ∧ rowTell f t = (x, true) := by
  cases hx : treesL d t with
  | none => rw [rowTell_none hx] at h; cases h
  | some xs =>
    obtain ⟨hok, h5, rfl⟩ := treesL_some hx
    cases hf : f (Nd.list t) with
    | none => rw [rowTell_fault hx hf] at h; cases h
    | some x =>
      have hs := rowTell_some hx hf
      rw [hs] at h
      have h : okT (e + 1) x = true := h
      refine ⟨hok, h5, x, rfl, h, ?_⟩
      rw [hs, h]
      unfold toldT
      rw [if_pos h]
theorem tell_no {d e : Nat} {f : List (Tr d) → Option (Tr (e + 1))} {t : Tr (d + 1)} (h : (rowTell f t).2 = false) : (rowTell f t).1 = zeroT e := by
  cases hx : treesL d t with
  | none => rw [rowTell_none hx]
  | some xs =>
    cases hf : f xs with
    | none => rw [rowTell_fault hx hf]
    | some x =>
      have hs := rowTell_some hx hf
      rw [hs] at h ⊢
      have h : okT (e + 1) x = false := h
      show toldT e x = _
      unfold toldT
      rw [if_neg (by rw [h]; simp)]
theorem sumS_ok {d : Nat} : ∀ (xs : List (Tr (d + 1))) {acc s : Tr (d + 1)}, okT (d + 1) acc = true → sumS xs acc = some s → okT (d + 1) s = true
  | [], _, _, h, e => by cases e; exact h
  | x :: r, acc, s, h, e => by
    unfold sumS at e
    split at e
    · exact sumS_ok r (okT_partAdd d acc x) e
    · cases e
theorem sumS_last {d : Nat} {x : Tr (d + 1)} : ∀ (xs : List (Tr (d + 1))) {acc s : Tr (d + 1)}, sumS (xs ++ [x]) acc = some s → ∃ t, sumS xs acc = some t ∧ partAddT d t x = (s, true)
  | [], acc, s, e => by
    have e : (if (partAddT d acc x).2 = true then some (partAddT d acc x).1 else none) = some s := e
    split at e
    · rename_i h
      cases e
      exact ⟨acc, rfl, Prod.ext rfl h⟩
    · cases e
  | y :: r, acc, s, e => by
    have e : (if (partAddT d acc y).2 = true then sumS (r ++ [x]) (partAddT d acc y).1 else none) = some s := e
    split at e
    · rename_i h
      obtain ⟨t, h1, h2⟩ := sumS_last r e
      refine ⟨t, ?_, h2⟩
      show (if (partAddT d acc y).2 = true then sumS r (partAddT d acc y).1 else none) = some t
      rw [if_pos h]
      exact h1
    · cases e
theorem add_rows {d : Nat} {x s : Tr (d + 1)} {L : List (Tr d)} (hx : Nd.kind x = 5) (h : partAddT d (rowT d L) x = (s, true)) : s = rowT d (L ++ Nd.list x) := by
  obtain ⟨h1, h2, t, hs, ht, e⟩ := add_ok (d := d) (a := rowT d L) (b := x) (by rw [h])
  rw [e] at h
  cases h
  obtain ⟨_, _, h3⟩ := sum_two (a := rowT d L) (b := x) (by show (5 : Int) ≠ 0; omega) (by rw [hx]; omega) hs
  rcases h3 with ⟨k, _⟩ | ⟨k, _⟩ | ⟨_, e⟩ | ⟨k, _⟩
  · cases k
  · cases k
  · exact e
  · cases k
/-- All that is in rows. -/
def listsL {d : Nat} : List (Tr (d + 1)) → List (Tr d)
  | [] => []
  | x :: r => Nd.list x ++ listsL r
theorem sum_rows {d : Nat} : ∀ (xs : List (Tr (d + 1))) {L : List (Tr d)} {s : Tr (d + 1)}, (∀ x ∈ xs, Nd.kind x = 5) → sumS xs (rowT d L) = some s → s = rowT d (L ++ listsL xs)
  | [], L, s, _, e => by
    cases e
    rw [listsL, List.append_nil]
  | x :: r, L, s, hk, e => by
    have e : (if (partAddT d (rowT d L) x).2 = true then sumS r (partAddT d (rowT d L) x).1 else none) = some s := e
    split at e
    · rename_i h
      have e1 := add_rows (d := d) (s := (partAddT d (rowT d L) x).1) (hk x (List.mem_cons_self ..)) (Prod.ext rfl h)
      rw [e1] at e
      rw [sum_rows r (fun y hy => hk y (List.mem_cons_of_mem _ hy)) e, listsL, List.append_assoc]
    · cases e
/-- Rows together are the row of them, flat. -/
theorem sum_flat {d : Nat} {xs : List (Tr (d + 1))} {s : Tr (d + 1)} (hne : xs ≠ []) (hk : ∀ x ∈ xs, Nd.kind x = 5) (hok : ∀ x ∈ xs, okT (d + 1) x = true) (h : sumF d xs = some s) : rowT (d + 1) (flatL d xs) = up (d + 1) s := by
  cases xs with
  | nil => exact absurd rfl hne
  | cons x r =>
    have h : (if (partAddT d (zeroT d) x).2 = true then sumS r (partAddT d (zeroT d) x).1 else none) = some s := h
    have hx := hok x (List.mem_cons_self ..)
    rw [add_none_left hx, if_pos rfl] at h
    have h : sumS r x = some s := h
    rw [row_self hx (hk x (List.mem_cons_self ..))] at h
    have e := sum_rows r (fun y hy => hk y (List.mem_cons_of_mem _ hy)) h
    have e2 : flatL d (x :: r) = (Nd.list x ++ listsL r).map (up d) := by
      have hh : ∀ (zs : List (Tr (d + 1))), (∀ z ∈ zs, Nd.kind z = 5) → flatL d zs = (listsL zs).map (up d) := by
        intro zs
        induction zs with
        | nil => intro _; rfl
        | cons z q ih =>
          intro hz
          have e3 : flatL d (z :: q) = flat1 d z ++ flatL d q := List.flatMap_cons
          rw [e3, flat1_row (hz z (List.mem_cons_self ..)), ih (fun y hy => hz y (List.mem_cons_of_mem _ hy)), listsL, List.map_append]
      rw [hh (x :: r) hk, listsL]
    rw [e, e2]
    rfl
theorem take_all {d : Nat} (xs : List (Tr (d + 1))) (k : Nat) {x : Tr (d + 1)} (h : xs[k]? = some x) : (xs.take (k + 1)).all (fun y => Nd.kind y == 5) = ((xs.take k).all (fun y => Nd.kind y == 5) && (Nd.kind x == 5)) := by
  obtain ⟨hk, e⟩ := List.getElem?_eq_some_iff.1 h
  rw [List.take_add_one, h]
  simp
end Go.Proofs.YtmibjmipndffmaaGreatDoor
