/- Texts of the proof, put together by program: LFlatC. -/
import Derived.Test.YtohdpgclokgohaaGreatDoorP32
import Derived.Test.YtohdpgclokgohaaGreatDoorP40
import Derived.Test.YtohdpgclokgohaaGreatDoorP42
import Derived.Test.YtohdpgclokgohaaGreatDoorP43
import Derived.Test.YtohdpgclokgohaaGreatDoorP20
/- Flat rows: contracts, and the facts that FnRowFlat asks for. -/
namespace Go.Proofs.YtohdpgclokgohaaGreatDoor
open Go.RowKit Go.Deep

theorem rflatI {d : Nat} {w W : World} {t : Tr (d + 2)} {v : Value} (h : ValAt (FreshP w W) W (d + 2) t v) (hg : ErrType W) (hl : w.heap.size ≤ W.heap.size) :
    Calls Tryz.prog 26 #[v] W (TQ w (d + 2) (rowTell (flatF d) t).1 (rowTell (flatF d) t).2 W) := (implRowFlat_any d _ t v W h within_P hg).mono (fun _ _ h => tq_of hl h)
theorem rflatS {d : Nat} {w W : World} {t : Tr (d + 2)} {v : Value} (h : ValAt (FreshP w W) W (d + 2) t v) (hz : wtT (d + 2) t ≤ 10000) (hl : w.heap.size ≤ W.heap.size) :
    Calls Tryz.prog 27 #[v] W (TQ w (d + 2) (rowTell (flatF d) t).1 (rowTell (flatF d) t).2 W) := (specRowFlat_own d _ t v W h within_P (nodes_small hz)).mono (fun _ _ h => tq_of hl h)
theorem manI_at {w W : World} {d : Nat} {t : Tr d} {v : Value} (h : ValAt (FreshP w W) W d t v) (hs : wtT d t ≤ 10000) : Calls Tryz.prog 29 #[v] W fun e w' => e = .returned (.int .i64 (manyOk d t)) ∧ Below W.heap.size W w' :=
  implValMany_any d _ t v W h within_P (nodes_small hs)

theorem manyOk_up (d : Nat) (t : Tr d) : manyOk (d + 1) (up d t) = manyOk d t := by
  unfold manyOk
  rw [okT_lift, manyT_lift]
theorem manyOk_upL {d : Nat} : ∀ (xs : List (Tr d)), ((xs.map (up d)).map (manyOk (d + 1))).sum = (xs.map (manyOk d)).sum
  | [] => rfl
  | x :: r => by rw [List.map_cons, List.map_cons, List.sum_cons, List.map_cons, List.sum_cons, manyOk_up, manyOk_upL r]
theorem flat_many {d : Nat} : ∀ (xs : List (Tr (d + 1))), (∀ x ∈ xs, okT (d + 1) x = true) → ((flatL d xs).map (manyOk (d + 1))).sum ≤ (xs.map (manyOk (d + 1))).sum
  | [], _ => Nat.le_refl _
  | x :: r, h => by
    have ih := flat_many r (fun y hy => h y (List.mem_cons_of_mem _ hy))
    have e : flatL d (x :: r) = flat1 d x ++ flatL d r := List.flatMap_cons
    rw [e, List.map_append, List.sum_append, List.map_cons, List.sum_cons]
    have h1 : ((flat1 d x).map (manyOk (d + 1))).sum ≤ manyOk (d + 1) x := by
      unfold flat1
      split
      · rw [manyOk_upL, many_parts (h x (List.mem_cons_self ..))]; omega
      · simp
    omega
theorem flat_ok2 {d : Nat} {t : Tr (d + 2)} (h : (rowTell (flatF d) t).2 = true) : okT (d + 2) t = true ∧ Nd.kind t = 5 ∧ okT (d + 2) (rowT (d + 1) (flatL d (Nd.list t))) = true ∧ rowTell (flatF d) t = (rowT (d + 1) (flatL d (Nd.list t)), true) := by
  cases hx : treesL (d + 1) t with
  | none => rw [rowTell_none hx] at h; cases h
  | some xs =>
    obtain ⟨hok, h5, rfl⟩ := treesL_some hx
    have hs := rowTell_some (f := flatF d) hx rfl
    rw [hs] at h ⊢
    have h : okT (d + 2) (rowT (d + 1) (flatL d (Nd.list t))) = true := h
    refine ⟨hok, h5, h, ?_⟩
    rw [h]
    unfold toldT
    rw [if_pos h]
theorem flat_less {d : Nat} {t : Tr (d + 2)} (h : (rowTell (flatF d) t).2 = true) : manyOk (d + 2) (rowTell (flatF d) t).1 ≤ manyOk (d + 2) t := by
  obtain ⟨hok, _, hf, e⟩ := flat_ok2 h
  rw [e, many_parts hf, many_parts hok]
  have := flat_many (Nd.list t) (fun x hx => okT_part hok hx)
  show 1 + ((flatL d (Nd.list t)).map (manyOk (d + 1))).sum ≤ _
  omega
/-- A row of one row, flat, is that row. -/
theorem flat_one {d : Nat} {t : Tr (d + 1)} (h : okT (d + 1) t = true) (h5 : Nd.kind t = 5) (ho : okT (d + 2) (rowD [t]) = true) : rowTell (flatF d) (rowD [t]) = (up (d + 1) t, true) := by
  have hx : treesL (d + 1) (rowD [t]) = some [t] := by
    unfold treesL
    rw [if_pos ho]
    exact if_pos rfl
  have e : rowT (d + 1) (flatL d [t]) = up (d + 1) t := by
    have h1 : flatL d [t] = (Nd.list t).map (up d) := by
      unfold flatL
      rw [List.flatMap_cons, List.flatMap_nil, List.append_nil, flat1_row h5]
    rw [h1]
    exact (congrArg (up (d + 1)) (row_self h h5)).symm
  rw [rowTell_some (f := flatF d) (x := up (d + 1) t) hx (by show some (rowT (d + 1) (flatL d [t])) = _; rw [e])]
  have hk : okT (d + 2) (up (d + 1) t) = true := by rw [okT_lift]; exact h
  unfold toldT
  rw [if_pos hk, hk]
/-- How many trees the flat row of the first so many has. -/
theorem flat_count {d : Nat} {xs : List (Tr (d + 1))} {k : Nat} {x : Tr (d + 1)} (h : xs[k]? = some x) : (flatL d (xs.take (k + 1))).length = (flatL d (xs.take k)).length + (if Nd.kind x = 5 then (Nd.list x).length else 1) := by
  rw [flatL_step h, List.length_append]
  unfold flat1
  split
  · rw [List.length_map]
  · rfl
theorem flat_many_le {d : Nat} {t : Tr (d + 2)} (h : okT (d + 2) t = true) (k : Nat) : (flatL d ((Nd.list t).take k)).length ≤ 60 := Nat.le_trans (flat_take _ _) (flat_len h)
end Go.Proofs.YtohdpgclokgohaaGreatDoor
