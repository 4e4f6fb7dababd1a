/- Texts of the proof, put together by program: WSetQ, WSetA, WSetS. -/
import Derived.Test.YtlpembhdojdomaaGreatDoorPs20
/- A row of the model's that is being made out of trees that lie elsewhere. -/
namespace Go.Proofs.YtlpembhdojdomaaGreatDoor
open Go.RowKit Go.Deep

theorem nodes_wt : ∀ (d : Nat) (t : Tr d), nodes d t ≤ wtT d t
  | 0, t => Empty.elim t
  | d + 1, t => by
    have h : ∀ xs : List (Tr d), (xs.map (nodes d)).sum ≤ (xs.map (wtT d)).sum := by
      intro xs
      induction xs with
      | nil => exact Nat.le_refl _
      | cons x r ih =>
        have := nodes_wt d x
        simp only [List.map_cons, List.sum_cons]
        omega
    have := h (Nd.list t)
    rw [nodes, wtT]
    omega
theorem nodes_ok {d : Nat} {t : Tr d} (h : okT d t = true) : nodes d t ≤ 300 := Nat.le_trans (nodes_wt d t) (wtT_ok h)
theorem sum_le_of {α : Type} {f : α → Nat} {c : Nat} : ∀ {xs : List α}, (∀ x ∈ xs, f x ≤ c) → (xs.map f).sum ≤ c * xs.length
  | [], _ => by simp
  | x :: r, h => by
    have h1 := h x (by simp)
    have h2 := sum_le_of (xs := r) (fun y hy => h y (by simp [hy]))
    simp only [List.map_cons, List.sum_cons, List.length_cons]
    rw [Nat.mul_succ]
    omega
theorem mem_padL {α : Type} {xs : List α} {z y : α} {n : Nat} (h : y ∈ padL xs z n) : y ∈ xs ∨ y = z := by
  unfold padL at h
  rcases List.mem_append.1 h with h | h
  · exact Or.inl h
  · exact Or.inr (List.eq_of_mem_replicate h)
theorem mem_setL {α : Type} {xs : List α} {z x y : α} {k : Nat} (h : y ∈ setL xs z k x) : y ∈ xs ∨ y = z ∨ y = x := by
  unfold setL at h
  rcases List.mem_or_eq_of_mem_set h with h | h
  · rcases mem_padL h with h | h
    · exact Or.inl h
    · exact Or.inr (Or.inl h)
  · exact Or.inr (Or.inr h)

/-- A row of the model's that owns its cells; its trees lie in blocks of S. -/
def VTo {d : Nat} (S : Nat → Prop) (N : Nat) (w : World) (lv : Value) (xs : List (Tr d)) (vs : List Value) : Prop :=
  w.ownsRow N 29 5 lv xs.length vs ∧ ∀ (j : Nat) (x : Tr d), xs[j]? = some x → ∃ c0 c1 c2 c3 c4, vs[j * 5]? = some c0 ∧ vs[j * 5 + 1]? = some c1 ∧ vs[j * 5 + 2]? = some c2 ∧ vs[j * 5 + 3]? = some c3 ∧ vs[j * 5 + 4]? = some c4 ∧ ValAt S w d x (.agg #[c0, c1, c2, c3, c4])

theorem VTo.grow {d N : Nat} {S : Nat → Prop} {wr w2 : World} {lv lv' : Value} {xs : List (Tr d)} {vs : List Value} {x : Tr d} {v0 v1 v2 v3 v4 : Value} (h : VTo S N wr lv xs vs) (hs : Same S wr w2) (hx : ValAt S wr d x (.agg #[v0, v1, v2, v3, v4])) (hown : w2.ownsRow N 29 5 lv' (xs.length + 1) (vs ++ [v0, v1, v2, v3, v4])) : VTo S N w2 lv' (xs ++ [x]) (vs ++ [v0, v1, v2, v3, v4]) := by
  obtain ⟨h1, h2⟩ := h
  have hlen : vs.length = xs.length * 5 := h1.1
  refine ⟨by rw [List.length_append]; exact hown, fun j y hy => ?_⟩
  by_cases e : j < xs.length
  · rw [List.getElem?_append_left e] at hy
    obtain ⟨c0, c1, c2, c3, c4, e0, e1, e2, e3, e4, hv⟩ := h2 j y hy
    refine ⟨c0, c1, c2, c3, c4, ?_, ?_, ?_, ?_, ?_, hv.same hs⟩
    · rw [List.getElem?_append_left (by omega)]; exact e0
    · rw [List.getElem?_append_left (by omega)]; exact e1
    · rw [List.getElem?_append_left (by omega)]; exact e2
    · rw [List.getElem?_append_left (by omega)]; exact e3
    · rw [List.getElem?_append_left (by omega)]; exact e4
  · have hj : j = xs.length := by
      have := (List.getElem?_eq_some_iff.1 hy).1
      rw [List.length_append, List.length_singleton] at this
      omega
    subst hj
    rw [List.getElem?_append_right (Nat.le_refl _), Nat.sub_self] at hy
    cases hy
    refine ⟨v0, v1, v2, v3, v4, ?_, ?_, ?_, ?_, ?_, hx.same hs⟩
    · rw [List.getElem?_append_right (by omega), hlen]; simp
    · rw [List.getElem?_append_right (by omega), hlen]; simp
    · rw [List.getElem?_append_right (by omega), hlen]; simp
    · rw [List.getElem?_append_right (by omega), hlen]; simp
    · rw [List.getElem?_append_right (by omega), hlen]; simp

theorem VTo.moved {d N : Nat} {S : Nat → Prop} {w w' : World} {lv : Value} {xs : List (Tr d)} {vs : List Value} (h : VTo S N w lv xs vs) (hs : Same S w w') (ho : ∀ g, lv.ownBlock = some g → w'.heap[g]? = w.heap[g]?) : VTo S N w' lv xs vs := by
  obtain ⟨h1, h2⟩ := h
  refine ⟨⟨h1.1, ?_⟩, fun j x hx => ?_⟩
  · rcases h1.2 with h | ⟨g, cap, cur, hv, hg, hh, hrest⟩
    · exact Or.inl h
    · exact Or.inr ⟨g, cap, cur, hv, hg, (ho g (by rw [hv]; rfl)).trans hh, hrest⟩
  · obtain ⟨c0, c1, c2, c3, c4, e0, e1, e2, e3, e4, hv⟩ := h2 j x hx
    exact ⟨c0, c1, c2, c3, c4, e0, e1, e2, e3, e4, hv.same hs⟩

/-- The row, where it lies. -/
theorem VTo.at {d N : Nat} {S : Nat → Prop} {w : World} {lv : Value} {xs : List (Tr d)} {vs : List Value} (h : VTo S N w lv xs vs) (hl : xs.length < 3518437208883) : RowAt (fun b => S b ∨ (N ≤ b ∧ b < w.heap.size)) w (ValAt (fun b => S b ∨ (N ≤ b ∧ b < w.heap.size)) w d) lv xs := by
  obtain ⟨h1, h2⟩ := h
  refine ⟨hl, ?_⟩
  rcases h1.2 with ⟨rfl, h0⟩ | ⟨g, cap, cur, rfl, hg, hh, hnc, _, hcs, htake⟩
  · exact ⟨none, 0, by rw [h0], Or.inl (List.eq_nil_of_length_eq_zero h0)⟩
  · refine ⟨some ⟨g, 0, none⟩, cap, rfl, Or.inr ⟨g, 0, Or.inr ⟨hg, (Array.getElem?_eq_some_iff.1 hh).1⟩, rfl, fun i x hx => ?_⟩⟩
    obtain ⟨c0, c1, c2, c3, c4, e0, e1, e2, e3, e4, hv⟩ := h2 i x hx
    have hi := (List.getElem?_eq_some_iff.1 hx).1
    have hc : ∀ j c, j < xs.length * 5 → vs[j]? = some c → w.cell? ⟨g, 0 + j, none⟩ = some c := fun j c hj hc => by
      rw [Nat.zero_add]
      exact (h1.cellAt j hj).trans hc
    refine ⟨c0, c1, c2, c3, c4, hc _ _ (by omega) e0, hc _ _ (by omega) e1, hc _ _ (by omega) e2, hc _ _ (by omega) e3, hc _ _ (by omega) e4, hv.mono (fun b hb => Or.inl hb)⟩

/-- Another tree at a place. -/
theorem VTo.put {d N g n cap k : Nat} {S : Nat → Prop} {w : World} {xs : List (Tr d)} {vs : List Value} {x : Tr d} {v0 v1 v2 v3 v4 : Value} (h : VTo S N w (.slice (some ⟨g, 0, none⟩) n cap) xs vs) (hn : n = xs.length) (hk : k < xs.length) (hx : ValAt S w d x (.agg #[v0, v1, v2, v3, v4])) (hS : ∀ b, S b → b < N) :
    (∃ vs', VTo S N (set5 w g (k * 5) v0 v1 v2 v3 v4) (.slice (some ⟨g, 0, none⟩) n cap) (xs.set k x) vs') ∧ Below N w (set5 w g (k * 5) v0 v1 v2 v3 v4) := by
  subst hn
  obtain ⟨h1, h2⟩ := h
  have hlen : vs.length = xs.length * 5 := h1.1
  have hgN := (h1.lt g rfl).1
  have hB : Below N w (set5 w g (k * 5) v0 v1 v2 v3 v4) := below_set5 (Below.refl _ _) hgN _ _ _ _ _ _
  have hsame : Same S w (set5 w g (k * 5) v0 v1 v2 v3 v4) := fun b hb => hB.block b (hS b hb)
  have ho := (((((h1.stored (k * 5) v0).1.stored (k * 5 + 1) v1).1.stored (k * 5 + 2) v2).1.stored (k * 5 + 3) v3).1.stored (k * 5 + 4) v4).1
  refine ⟨⟨_, by rw [List.length_set]; exact ho, fun j y hy => ?_⟩, hB⟩
  by_cases e : k = j
  · subst e
    rw [List.getElem?_set_self hk] at hy
    cases hy
    refine ⟨v0, v1, v2, v3, v4, ?_, ?_, ?_, ?_, ?_, hx.same hsame⟩
    all_goals simp [List.getElem?_set, hlen]
    all_goals omega
  · rw [List.getElem?_set_ne e] at hy
    obtain ⟨c0, c1, c2, c3, c4, e0, e1, e2, e3, e4, hv⟩ := h2 j y hy
    refine ⟨c0, c1, c2, c3, c4, ?_, ?_, ?_, ?_, ?_, hv.same hsame⟩
    · rw [List.getElem?_set_ne (by omega), List.getElem?_set_ne (by omega), List.getElem?_set_ne (by omega), List.getElem?_set_ne (by omega), List.getElem?_set_ne (by omega)]; exact e0
    · rw [List.getElem?_set_ne (by omega), List.getElem?_set_ne (by omega), List.getElem?_set_ne (by omega), List.getElem?_set_ne (by omega), List.getElem?_set_ne (by omega)]; exact e1
    · rw [List.getElem?_set_ne (by omega), List.getElem?_set_ne (by omega), List.getElem?_set_ne (by omega), List.getElem?_set_ne (by omega), List.getElem?_set_ne (by omega)]; exact e2
    · rw [List.getElem?_set_ne (by omega), List.getElem?_set_ne (by omega), List.getElem?_set_ne (by omega), List.getElem?_set_ne (by omega), List.getElem?_set_ne (by omega)]; exact e3
    · rw [List.getElem?_set_ne (by omega), List.getElem?_set_ne (by omega), List.getElem?_set_ne (by omega), List.getElem?_set_ne (by omega), List.getElem?_set_ne (by omega)]; exact e4
end Go.Proofs.YtlpembhdojdomaaGreatDoor

/- append of trees onto a row of nothing. -/
namespace Go.Proofs.YtlpembhdojdomaaGreatDoor
open Go.RowKit Go.Deep

/-- An append, as one step of a region in its order. -/
theorem wpList_append_run {P : Program} {ops : Array Oper} {rest : List Oper} {o : Oper} {a : Act} {w : World} {Q : Exit → Act → World → Prop} (Φ : Value → World → Prop) (hgd : o.guard = none) (s x : Operand) (t : TypeId)
    (ho : o.op = .call { callee := .builtin .append, args := #[s, x], argTypes := #[t, t] }) (vs vx : Value) (hs : a.eval s = vs) (hx : a.eval x = vx)
    (hrun : ∃ v' w', (Builtin.append_ #[t, t] o.type #[vs, vx]).run P w = .ok v' w' ∧ Φ v' w') (h : ∀ v' w', Φ v' w' → wpList P ops Q rest (a.put o.dst v') w') :
    wpList P ops Q (o :: rest) a w := by
  refine wpList_plain hgd fun K hK => ?_
  obtain ⟨v', w', hr, h2⟩ := hrun
  unfold Oper.wp execOp
  simp only [ho, resolve, invoke, builtin, Sem.run_bind, Sem.run_pure, Result.andThen_ok, List.map_toArray, List.map_cons, List.map_nil, hs, hx, hr]
  exact hK _ _ (h v' w' h2)

theorem Tryz.infoV2 : (Tryz.prog.info? 29).map (fun i => (i.zero, i.size, i.bytes)) = some (some zeroVal, 5, 80) := by kernel_rfl

/-- Trees, copied behind nothing: the cells alone. -/
theorem run_append_vals {d : Nat} (S : Nat → Prop) (xs : List (Tr d)) (al : Option Addr) (cl g : Nat) (ty : TypeId) (w : World) (hg : w.heap[g]? = some (.cells #[] 29 (0, 0))) (hv : RowAt S w (ValAt S w d) (.slice al xs.length cl) xs) (hSg : ¬ S g) (hS : Within S w) (hsm : xs.length ≤ 4194304) :
    ∃ v' w', (Builtin.append_ #[27, 27] ty #[.slice (some ⟨g, 0, none⟩) 0 0, .slice al xs.length cl]).run Tryz.prog w = .ok v' w' ∧
      ((∃ vs, VTo S g w' v' xs vs) ∧ w.grownBy w' (some g) ∧ ∃ a c, v' = .slice a xs.length c) := by
  obtain ⟨i0, hi, hz0, hz1, hz2⟩ := info_parts Tryz.infoV2
  have hgl := (Array.getElem?_eq_some_iff.1 hg).1
  have hu : Tryz.prog.underlying 27 = some (.slice 29) := Tryz.underlying27
  have hown : w.ownsRow g 29 5 (.slice (some ⟨g, 0, none⟩) 0 0) 0 [] := ⟨by simp, .inr ⟨g, 0, #[], rfl, Nat.le_refl _, hg, Nat.le_refl _, Nat.zero_le _, by simp, by simp⟩⟩
  by_cases h0 : xs = []
  · subst h0
    refine ⟨.slice (some ⟨g, 0, none⟩) 0 0, w, ?_, ⟨[], hown, fun j x h => by simp at h⟩, ⟨rfl, rfl, rfl, Nat.le_refl _, fun _ _ _ => rfl⟩, _, _, rfl⟩
    cases al with
    | none => simp [Builtin.append_, run_underlying hu, sizeOf, typeInfo, hi, Builtin.lenOf, Builtin.firstCells, loadCells, loadCellsFrom, storeCells, Result.andThen, hz1]
    | some a => simp [Builtin.append_, run_underlying hu, sizeOf, typeInfo, hi, Builtin.lenOf, Builtin.firstCells, loadCells, loadCellsFrom, storeCells, Result.andThen, hz1]
  · have hpos : 0 < xs.length := List.length_pos_iff.2 h0
    obtain ⟨b, o, _, _, _, _, _, _, rfl, hbS, _⟩ := hv.cell hpos
    have hcell : ∀ i x, xs[i]? = some x → ∃ c0 c1 c2 c3 c4, w.cell? ⟨b, o + i * 5, none⟩ = some c0 ∧ w.cell? ⟨b, o + i * 5 + 1, none⟩ = some c1 ∧ w.cell? ⟨b, o + i * 5 + 2, none⟩ = some c2 ∧ w.cell? ⟨b, o + i * 5 + 3, none⟩ = some c3 ∧ w.cell? ⟨b, o + i * 5 + 4, none⟩ = some c4 ∧ ValAt S w d x (.agg #[c0, c1, c2, c3, c4]) := by
      intro i x hx
      obtain ⟨b', o', x', c0, c1, c2, c3, c4, e', _, hx', e0, e1, e2, e3, e4, hval⟩ := hv.cell (List.getElem?_eq_some_iff.1 hx).1
      cases e'
      rw [hx] at hx'
      cases hx'
      exact ⟨c0, c1, c2, c3, c4, e0, e1, e2, e3, e4, hval⟩
    obtain ⟨news, hnl, hnews⟩ : ∃ news : List Value, news.length = xs.length * 5 ∧ ∀ j, j < xs.length * 5 → ∃ u, news[j]? = some u ∧ w.cell? ⟨b, o + j, none⟩ = some u := by
      refine ⟨(List.range (xs.length * 5)).map (fun j => (w.cell? ⟨b, o + j, none⟩).getD undef), by simp, fun j hj => ?_⟩
      have hq : j / 5 < xs.length := by omega
      obtain ⟨c0, c1, c2, c3, c4, e0, e1, e2, e3, e4, _⟩ := hcell (j / 5) _ (List.getElem?_eq_getElem hq)
      have hex : ∃ u, w.cell? ⟨b, o + j, none⟩ = some u := by
        rcases (by omega : j = j / 5 * 5 ∨ j = j / 5 * 5 + 1 ∨ j = j / 5 * 5 + 2 ∨ j = j / 5 * 5 + 3 ∨ j = j / 5 * 5 + 4) with e | e | e | e | e
        · exact ⟨c0, by rw [e]; exact e0⟩
        · exact ⟨c1, by rw [e, ← Nat.add_assoc]; exact e1⟩
        · exact ⟨c2, by rw [e, ← Nat.add_assoc]; exact e2⟩
        · exact ⟨c3, by rw [e, ← Nat.add_assoc]; exact e3⟩
        · exact ⟨c4, by rw [e, ← Nat.add_assoc]; exact e4⟩
      obtain ⟨u, hu⟩ := hex
      exact ⟨u, by simp [hj, hu], hu⟩
    have hone : ∀ u ∈ news, u.oneCell' = true := by
      intro u hu
      obtain ⟨j, hj⟩ := List.getElem?_of_mem hu
      have hjl := (List.getElem?_eq_some_iff.1 hj).1
      obtain ⟨u', hu', hc⟩ := hnews j (by omega)
      rw [hj] at hu'
      cases hu'
      have hq : j / 5 < xs.length := by omega
      obtain ⟨c0, c1, c2, c3, c4, e0, e1, e2, e3, e4, hval⟩ := hcell (j / 5) _ (List.getElem?_eq_getElem hq)
      obtain ⟨q0, q1, q2, q3, q4, q5, q6, q7, q8, hq⟩ := hval.shape
      cases hq
      rcases (by omega : j = j / 5 * 5 ∨ j = j / 5 * 5 + 1 ∨ j = j / 5 * 5 + 2 ∨ j = j / 5 * 5 + 3 ∨ j = j / 5 * 5 + 4) with e | e | e | e | e
      · rw [e, e0] at hc; cases hc; rfl
      · rw [e, ← Nat.add_assoc, e1] at hc; cases hc; rfl
      · rw [e, ← Nat.add_assoc, e2] at hc; cases hc; rfl
      · rw [e, ← Nat.add_assoc, e3] at hc; cases hc; rfl
      · rw [e, ← Nat.add_assoc, e4] at hc; cases hc; rfl
    have hadd : ∀ j, (⟨b, o, none⟩ : Addr).add j = ⟨b, o + j, none⟩ := fun j => by unfold Addr.add; split <;> simp_all
    obtain ⟨v', w', hr, ho, hgr, _, hat⟩ := run_append_own_at (P := Tryz.prog) w g 27 ty 29 i0 zeroVal 5 80 hu hi hz0 hz1 hz2 rfl (by decide) _ 0 [] hown ⟨b, o, none⟩ xs.length cl news hnl
      (fun j u hj => by rw [hadd]; obtain ⟨u', h1, h2⟩ := hnews j (by have := (List.getElem?_eq_some_iff.1 hj).1; omega); rw [hj] at h1; cases h1; exact h2) hone (by unfold maxLen; omega) (by omega) (by omega)
    rw [Nat.zero_add, List.nil_append] at ho
    have hsh : ∃ a c, v' = .slice a xs.length c := by
      rcases ho.2 with ⟨_, h⟩ | ⟨g', c', cur, e, _⟩
      · omega
      · exact ⟨_, _, e⟩
    have hsame : Same S w w' := fun c hc => hgr.block c (hS c hc) (fun e => by cases e; exact hSg hc)
    refine ⟨v', w', hr, ⟨news, ho, fun j x hx => ?_⟩, hgr, hsh⟩
    obtain ⟨c0, c1, c2, c3, c4, e0, e1, e2, e3, e4, hval⟩ := hcell j x hx
    have hjl := (List.getElem?_eq_some_iff.1 hx).1
    have hn : ∀ m c, m < xs.length * 5 → w.cell? ⟨b, o + m, none⟩ = some c → news[m]? = some c := fun m c hm hc => by
      obtain ⟨u, h1, h2⟩ := hnews m hm
      rw [hc] at h2
      cases h2
      exact h1
    exact ⟨c0, c1, c2, c3, c4, hn _ _ (by omega) e0, hn _ _ (by omega) (by rw [← Nat.add_assoc]; exact e1), hn _ _ (by omega) (by rw [← Nat.add_assoc]; exact e2), hn _ _ (by omega) (by rw [← Nat.add_assoc]; exact e3), hn _ _ (by omega) (by rw [← Nat.add_assoc]; exact e4), hval.same hsame⟩
end Go.Proofs.YtlpembhdojdomaaGreatDoor

/- l2Set of the model. -/
namespace Go.Proofs.YtlpembhdojdomaaGreatDoor
open Go.RowKit Go.Deep

/-- What stands while a row is made longer, in a variable's list. -/
structure L2At (d : Nat) (S : Nat → Prop) (N ob : Nat) (W wr : World) (xs : List (Tr (d + 1))) (lv : Value) (ws : List Value) : Prop where
  out : Blk5 wr ob 29 (.int .i64 5) (.int .i64 0) (.string { data := #[] }) (.slice none 0 0) lv
  row : VTo S N wr lv xs ws
  below : Below N W wr
  off : lv.ownBlock ≠ some ob
  ge : N ≤ ob

theorem L2At.step {d N ob : Nat} {S : Nat → Prop} {W wr w2 : World} {xs : List (Tr (d + 1))} {lv lv' : Value} {ws : List Value} {o : Obj} (h : L2At d S N ob W wr xs lv ws) (hS : ∀ b, S b → b < N) (hSw : Within S wr)
    (hown : w2.ownsRow N 29 5 lv' (xs.length + 1) (ws ++ [.int .i64 0, .int .i64 0, .string { data := #[] }, .slice none 0 0, .slice none 0 0])) (hg : (wr.alloc o).grownBy w2 lv.ownBlock) (hw : lv'.ownBlock = lv.ownBlock ∨ lv'.ownBlock = some (wr.alloc o).heap.size) :
    Blk5 w2 ob 29 (.int .i64 5) (.int .i64 0) (.string { data := #[] }) (.slice none 0 0) lv ∧ L2At d S N ob W (w2.setCell ⟨ob, 4, none⟩ lv') (xs ++ [zeroT d]) lv' (ws ++ [.int .i64 0, .int .i64 0, .string { data := #[] }, .slice none 0 0, .slice none 0 0]) := by
  have hol := h.out.lt
  have hge := h.ge
  have hs2 := hg.size
  have hz : (wr.alloc o).heap.size = wr.heap.size + 1 := by simp
  rw [hz] at hw
  have hrow : ∀ g, lv.ownBlock = some g → N ≤ g := fun g hg => (h.row.1.lt g hg).1
  have hblk : ∀ b, b < wr.heap.size → some b ≠ lv.ownBlock → w2.heap[b]? = wr.heap[b]? := fun b hb1 hb2 => (hg.block b (by omega) hb2).trans (Below.heap_alloc _ _ _ hb1)
  have yb : Blk5 w2 ob 29 (.int .i64 5) (.int .i64 0) (.string { data := #[] }) (.slice none 0 0) lv := h.out.of_block (hblk ob hol (fun e => h.off e.symm))
  have hsame : Same S wr w2 := fun b hb => hblk b (hSw b hb) (fun e => by have := hrow b e.symm; have := hS b hb; omega)
  have hoff : lv'.ownBlock ≠ some ob := by
    rcases hw with e | e
    · rw [e]; exact h.off
    · rw [e]; intro e2; cases e2; omega
  refine ⟨yb, yb.set4 _, ?_, ?_, hoff, hge⟩
  · have hz0 : ValAt S wr (d + 1) (zeroT d) (.agg #[.int .i64 0, .int .i64 0, .string { data := #[] }, .slice none 0 0, .slice none 0 0]) := zeroAt d S wr
    refine (h.row.grow hsame hz0 hown).moved (fun b hb => Below.heap_setCell _ _ _ _ (by have := hS b hb; show b ≠ ob; omega)) (fun g hg => Below.heap_setCell _ _ _ _ (fun e => hoff (by rw [hg, e])))
  · have hb := h.below
    refine ⟨hg.os.trans hb.os, hg.tape.trans hb.tape, hg.output.trans hb.output, ?_, fun b hbN => ?_⟩
    · have := hb.size
      simp [World.setCell]
      omega
    · exact (Below.heap_setCell _ _ _ _ (by show b ≠ ob; omega)).trans ((hblk b (by omega) (fun e => by have := hrow b e.symm; omega)).trans (hb.block b hbN))

set_option maxRecDepth 100000 in
set_option maxHeartbeats 1000000 in
theorem l2Set_any (d : Nat) (S : Nat → Prop) (t : Tr (d + 2)) (v : Value) (x : Tr (d + 1)) (xv : Value) (k : Nat) (w : World) (hv : ValAt S w (d + 2) t v) (hx : ValAt S w (d + 1) x xv) (hS : Within S w) (hk : k < 60) (hl : (Nd.list t).length ≤ 60) :
    Calls Tryz.prog 46 #[v, .int .i64 (k : Int), xv] w fun e w' => ∃ u, e = .returned u ∧ ValAt (fun b => S b ∨ Fresh w w' b) w' (d + 2) (rowT (d + 1) (setL (Nd.list t) (zeroT d) k x)) u ∧ Below w.heap.size w w' := by
  obtain ⟨kind, num, str, keys, list⟩ := t
  obtain ⟨vk, vl, rfl, i1, i2, i3, hk', hl'⟩ := hv
  have hl' : RowAt S w (ValAt S w (d + 1)) vl list := hl'
  have hl : list.length ≤ 60 := hl
  obtain ⟨ak, ck, rfl, hkl⟩ := hk'.open'
  obtain ⟨al, cl, rfl, hll⟩ := hl'.open'
  obtain ⟨k', n', s', ak', lk', ck', al', ll', cl', rfl⟩ := hx.shape
  show Calls Tryz.prog 46 #[.agg #[.int .i64 kind, .int .i64 num, .string str, .slice ak keys.length ck, .slice al list.length cl], .int .i64 (k : Int), .agg #[.int .i64 k', .int .i64 n', .string s', .slice ak' lk' ck', .slice al' ll' cl']] w _
  obtain ⟨k0, k1, k2, hW0, hsz0⟩ := laid3 w 29 29 29 (.int .i64 kind) (.int .i64 num) (.string str) (.slice ak keys.length ck) (.slice al list.length cl) (.int .i64 k') (.int .i64 n') (.string s') (.slice ak' lk' ck') (.slice al' ll' cl') (.int .i64 0) (.int .i64 0) (.string { data := #[] }) (.slice none 0 0) (.slice none 0 0)
  obtain ⟨W0, hW⟩ : ∃ W0, W0 = ((w.alloc (.cells #[.int .i64 kind, .int .i64 num, .string str, .slice ak keys.length ck, .slice al list.length cl] 29)).alloc (.cells #[.int .i64 k', .int .i64 n', .string s', .slice ak' lk' ck', .slice al' ll' cl'] 29)).alloc (.cells #[.int .i64 0, .int .i64 0, .string { data := #[] }, .slice none 0 0, .slice none 0 0] 29) := ⟨_, rfl⟩
  rw [← hW] at k0 k1 k2 hW0 hsz0
  have hWg := below_trans hW0 (below_alloc1 W0 (.cells #[] 29))
  have hgn : (W0.alloc (.cells #[] 29)).heap[w.heap.size + 1 + 1 + 1]? = some (.cells #[] 29 (0, 0)) := by
    have := heap_alloc_new W0 (.cells #[] 29)
    rw [hsz0] at this
    exact this
  have hAP := run_append_vals (d := d + 1) S list al cl (w.heap.size + 1 + 1 + 1) 27 (W0.alloc (.cells #[] 29)) hgn (hl'.same (hS.same hWg)) (fun h => by have := hS _ h; omega) (hS.later hWg.size) (by omega)
  rw [hW] at hAP
  have HAP := hide hAP
  have HW := hide hW
  have hxw := hide (hx.same (hS.same hW0))
  have hS0 : ∀ b, S b → b < w.heap.size + 1 + 1 + 1 := fun b hb => by have := hS b hb; omega
  clear hAP hW hk' hl' hx hgn hWg k0
  go_enter Tryz.func46, Tryz.ntmps46
  go_wp2_with (at_builtin; refine wpList_append_run _ rfl _ _ 27 rfl _ _ rfl rfl HAP.out ?_)
  intro v' w1 vs hvt hgr a' c' hv'
  subst hv'
  rw [← HW.out] at hgr
  have hz0 : (W0.alloc (.cells #[] 29)).heap.size = w.heap.size + 1 + 1 + 1 + 1 := by simp [hsz0]
  have hs1 := hgr.size
  have hb1 : Below W0.heap.size W0 w1 := ⟨hgr.os, hgr.tape, hgr.output, by omega, fun b hb => (hgr.block b (by omega) (fun e => by cases e; omega)).trans (Below.heap_alloc _ _ _ hb)⟩
  have hlt1 : ∀ g, (Value.slice a' list.length c').ownBlock = some g → g < w1.heap.size := fun g hg => (hvt.1.lt g hg).2
  have hst : Hid (L2At d S (w.heap.size + 1 + 1 + 1) w1.heap.size W0 (w1.alloc (.cells #[.int .i64 5, .int .i64 0, .string { data := #[] }, .slice none 0 0, .slice a' list.length c'] 29)) (list ++ List.replicate 0 (zeroT d)) (.slice a' list.length c') vs) := by
    refine ⟨Blk5.new _ _ _ _ _ _ _, ?_, ?_, fun e => by have := hlt1 _ e; omega, by omega⟩
    · rw [List.replicate_zero, List.append_nil]
      exact hvt.moved (fun b hb => Below.heap_alloc _ _ _ (by have := hS0 b hb; omega)) (fun g hg => Below.heap_alloc _ _ _ (hlt1 g hg))
    · exact Below.trans (by rw [← hsz0]; exact hb1) ((below_alloc1 _ _).mono (by omega))
  obtain ⟨i0, hi, hz0', hz1, hz2⟩ := info_parts Tryz.infoV2
  have hBw := hW0
  clear hvt hgr HAP HW hz0 hb1 hlt1 hW0
  go_wp2_with fail
  go_loopw [] (fun wr => ∃ (m : Nat) (ra : Option Addr) (rc : Nat) (ws : List Value), list.length + m ≤ max list.length (k + 1) ∧ Hid (L2At d S (w.heap.size + 1 + 1 + 1) w1.heap.size W0 wr (list ++ List.replicate m (zeroT d)) (.slice ra (list.length + m) rc) ws)) (fun wr => k + 1 - (match wr.cell? ⟨w1.heap.size, 4, none⟩ with | some (.slice _ n _) => n | _ => 0))
  case atStart => exact ⟨0, a', c', vs, by omega, hst⟩
  case round =>
    clear hst
    obtain ⟨m, ra, rc, ws, hm, hat⟩ := hrel
    have hlen : (list ++ List.replicate m (zeroT d)).length = list.length + m := by rw [List.length_append, List.length_replicate]
    have hown := hat.out.row.1
    rw [hlen] at hown
    obtain ⟨y0, y1, y2, y3, y4⟩ := hat.out.out.cell
    have hsw : w.heap.size + 1 + 1 + 1 ≤ wr.heap.size := by have := hat.out.out.lt; have := hat.out.ge; omega
    by_cases hgo : list.length + m ≤ k
    · have hgi : ((list.length + m : Nat) : Int) ≤ (k : Int) := by omega
      have HO := hide (hown.alloc (.cells #[.int .i64 0, .int .i64 0, .string { data := #[] }, .slice none 0 0, .slice none 0 0] 29))
      have hstep : Hid (∀ lv' w2, w2.ownsRow (w.heap.size + 1 + 1 + 1) 29 5 lv' (list.length + m + 1) (ws ++ [.int .i64 0, .int .i64 0, .string { data := #[] }, .slice none 0 0, .slice none 0 0]) → (wr.alloc (.cells #[.int .i64 0, .int .i64 0, .string { data := #[] }, .slice none 0 0, .slice none 0 0] 29)).grownBy w2 (Value.slice ra (list.length + m) rc).ownBlock →
          (lv'.ownBlock = (Value.slice ra (list.length + m) rc).ownBlock ∨ lv'.ownBlock = some (wr.alloc (.cells #[.int .i64 0, .int .i64 0, .string { data := #[] }, .slice none 0 0, .slice none 0 0] 29)).heap.size) →
          ∃ ra' rc', lv' = .slice ra' (list.length + (m + 1)) rc' ∧ Blk5 w2 w1.heap.size 29 (.int .i64 5) (.int .i64 0) (.string { data := #[] }) (.slice none 0 0) (.slice ra (list.length + m) rc) ∧ L2At d S (w.heap.size + 1 + 1 + 1) w1.heap.size W0 (w2.setCell ⟨w1.heap.size, 4, none⟩ lv') (list ++ List.replicate (m + 1) (zeroT d)) lv' (ws ++ [.int .i64 0, .int .i64 0, .string { data := #[] }, .slice none 0 0, .slice none 0 0])) := by
        intro lv' w2 o1 o2 o3
        have hshape : ∃ ra' rc', lv' = .slice ra' (list.length + (m + 1)) rc' := by
          rcases o1.2 with ⟨_, h0⟩ | ⟨g, cap, cur, hv, _⟩
          · omega
          · exact ⟨_, _, hv⟩
        obtain ⟨ra', rc', rfl⟩ := hshape
        have hs := hat.out.step hS0 (fun b hb => Nat.lt_of_lt_of_le (hS0 b hb) hsw) (by rw [hlen]; exact o1) o2 o3
        rw [← padL_step] at hs
        exact ⟨ra', rc', rfl, hs⟩
      clear hat hown
      go_wp2_with (at_builtin; refine wpList_append_own_at _ rfl _ _ 27 rfl (w.heap.size + 1 + 1 + 1) 29 i0 zeroVal 5 80 Tryz.underlying27 hi hz0' hz1 hz2 rfl (by decide) _ _ _ rfl HO.out ⟨wr.heap.size, 0, none⟩ 1 1 [.int .i64 0, .int .i64 0, .string { data := #[] }, .slice none 0 0, .slice none 0 0] rfl rfl (cell_five_new _ _ _ _ _ _ _) ?c2 ?c3 ?c4 ?c5 ?_)
      case c2 => intro y hy; simp at hy; rcases hy with rfl | rfl | rfl <;> rfl
      case c3 => unfold maxLen; omega
      case c4 => omega
      case c5 => simp; omega
      · intro lv' w2 o1 o2 _ o3
        have HH := hide (hstep.out lv' w2 o1 o2 (by rw [World.size_alloc]; exact o3))
        clear o1 o2 o3 hstep HO
        obtain ⟨ra', rc', rfl, hyb, hnew⟩ := HH.out
        clear HH
        obtain ⟨_, _, _, _, z4⟩ := hyb.cell
        have zf := hyb.frozen 4
        have hn4 := hnew.out.cell.2.2.2.2
        have HN := hide hnew
        have HN4 := hide hn4
        have HY4 := hide y4
        clear hnew hn4 hyb
        go_wp2_with fail
        go_roundw
        case rel => exact ⟨m + 1, ra', rc', _, by omega, HN.out⟩
        case measure =>
          rw [HN4.out, HY4.out]
          show k + 1 - (list.length + (m + 1)) < k + 1 - (list.length + m)
          omega
    · have hgi : ¬ ((list.length + m : Nat) : Int) ≤ (k : Int) := by omega
      have hki : (k : Int) < ((list.length + m : Nat) : Int) := by omega
      obtain ⟨g, rfl⟩ : ∃ g, ra = some ⟨g, 0, none⟩ := by
        rcases hown.2 with ⟨_, h0⟩ | ⟨g, cap, cur, hv, _⟩
        · omega
        · exact ⟨g, by cases hv; rfl⟩
      have hwl : ws.length = (list.length + m) * 5 := hown.1
      have hce : ∀ r, r < 5 → ∃ u, wr.cell? ⟨g, k * 5 + r, none⟩ = some u := fun r hr => ⟨_, (hown.cellAt (k * 5 + r) (by omega)).trans (List.getElem?_eq_getElem (by omega))⟩
      obtain ⟨c0, e0⟩ := hce 0 (by omega)
      obtain ⟨c1, e1⟩ := hce 1 (by omega)
      obtain ⟨c2, e2⟩ := hce 2 (by omega)
      obtain ⟨c3, e3⟩ := hce 3 (by omega)
      obtain ⟨c4, e4⟩ := hce 4 (by omega)
      rw [Nat.add_zero] at e0
      have f0 := hown.frozenAt (k * 5)
      have f1 := hown.frozenAt (k * 5 + 1)
      have f2 := hown.frozenAt (k * 5 + 2)
      have f3 := hown.frozenAt (k * 5 + 3)
      have f4 := hown.frozenAt (k * 5 + 4)
      have hm' := hide (show m = k + 1 - list.length by omega)
      have hbw := hat.out.below
      have hgN := (hown.lt g rfl).1
      have hng : ¬ w1.heap.size = g := fun e => hat.out.off (by rw [← e]; rfl)
      have hng' : ¬ g = w1.heap.size := fun e => hng e.symm
      have kx := k1.of_block (hbw.block _ (by omega))
      have kr := k2.of_block (hbw.block _ (by omega))
      have hxr := hxw.out.same (fun b hb => hbw.block b (hS0 b hb))
      have hput := hat.out.row.put (k := k) (x := x) hlen.symm (by rw [hlen]; omega) hxr hS0
      have kr2 : Blk5 (set5 wr g (k * 5) (.int .i64 k') (.int .i64 n') (.string s') (.slice ak' lk' ck') (.slice al' ll' cl')) (w.heap.size + 1 + 1) 29 (.int .i64 0) (.int .i64 0) (.string { data := #[] }) (.slice none 0 0) (.slice none 0 0) := kr.of_block (set5_block _ _ _ _ _ _ _ _ _ (by omega))
      have ko2 : Blk5 (set5 wr g (k * 5) (.int .i64 k') (.int .i64 n') (.string s') (.slice ak' lk' ck') (.slice al' ll' cl')) w1.heap.size 29 (.int .i64 5) (.int .i64 0) (.string { data := #[] }) (.slice none 0 0) (.slice (some ⟨g, 0, none⟩) (list.length + m) rc) := hat.out.out.of_block (set5_block _ _ _ _ _ _ _ _ _ hng)
      have hsl := setL_length list (zeroT d) k x
      have hend : Hid (∀ wF, wF = set5 (set5 wr g (k * 5) (.int .i64 k') (.int .i64 n') (.string s') (.slice ak' lk' ck') (.slice al' ll' cl')) (w.heap.size + 1 + 1) 0 (.int .i64 5) (.int .i64 0) (.string { data := #[] }) (.slice none 0 0) (.slice (some ⟨g, 0, none⟩) (list.length + m) rc) →
          ValAt (fun b => S b ∨ Fresh w wF b) wF (d + 2) (rowT (d + 1) (setL list (zeroT d) k x)) (.agg #[.int .i64 5, .int .i64 0, .string { data := #[] }, .slice none 0 0, .slice (some ⟨g, 0, none⟩) (list.length + m) rc]) ∧ Below w.heap.size w wF) := by
        intro wF hF
        obtain ⟨⟨vs', hvs⟩, hbp⟩ := hput
        have hzF : wF.heap.size = wr.heap.size := by rw [hF, set5_size, set5_size]
        have hvs2 : VTo S (w.heap.size + 1 + 1 + 1) (set5 wr g (k * 5) (.int .i64 k') (.int .i64 n') (.string s') (.slice ak' lk' ck') (.slice al' ll' cl')) (.slice (some ⟨g, 0, none⟩) (list.length + m) rc) (setL list (zeroT d) k x) vs' := by
          unfold setL padL
          rw [← hm'.out]
          exact hvs
        have hrow := hvs2.at (by omega)
        have hsm : ∀ b, b ≠ w.heap.size + 1 + 1 → wF.heap[b]? = (set5 wr g (k * 5) (.int .i64 k') (.int .i64 n') (.string s') (.slice ak' lk' ck') (.slice al' ll' cl')).heap[b]? := fun b hb => by rw [hF, set5_block _ _ _ _ _ _ _ _ _ hb]
        have hmv : Same (fun b => S b ∨ (w.heap.size + 1 + 1 + 1 ≤ b ∧ b < (set5 wr g (k * 5) (.int .i64 k') (.int .i64 n') (.string s') (.slice ak' lk' ck') (.slice al' ll' cl')).heap.size)) (set5 wr g (k * 5) (.int .i64 k') (.int .i64 n') (.string s') (.slice ak' lk' ck') (.slice al' ll' cl')) wF := fun b hb => hsm b (by
          rcases hb with hb | hb
          · have := hS b hb; omega
          · have := hb.1; omega)
        have hin : ∀ b, (S b ∨ (w.heap.size + 1 + 1 + 1 ≤ b ∧ b < (set5 wr g (k * 5) (.int .i64 k') (.int .i64 n') (.string s') (.slice ak' lk' ck') (.slice al' ll' cl')).heap.size)) → (S b ∨ Fresh w wF b) := fun b hb => by
          rcases hb with hb | hb
          · exact Or.inl hb
          · rw [set5_size] at hb
            exact Or.inr ⟨by have := hb.1; omega, by have := hb.2; omega⟩
        refine ⟨⟨_, _, rfl, ⟨by show _ ≤ (5 : Int); omega, by show (5 : Int) ≤ _; omega⟩, ⟨by show _ ≤ (0 : Int); omega, by show (0 : Int) ≤ _; omega⟩, by show (0 : Nat) < _; omega, ⟨by show (0 : Nat) < _; omega, (fun s hs => by cases hs), none, 0, rfl, Or.inl rfl⟩, hrow.moved hmv hin (fun y u hy => ValAt.moved hmv hin _ y u hy)⟩, ?_⟩
        rw [hF]
        refine below_set5 ?_ (by omega) _ _ _ _ _ _
        exact hBw.trans ((hbw.mono (by omega)).trans (hbp.mono (by omega)))
      obtain ⟨x0, x1, x2, x3, x4⟩ := kx.cell
      obtain ⟨w5, hw5⟩ : ∃ w5, w5 = ((((wr.setCell ⟨g, k * 5, none⟩ (.int .i64 k')).setCell ⟨g, k * 5 + 1, none⟩ (.int .i64 n')).setCell ⟨g, k * 5 + 2, none⟩ (.string s')).setCell ⟨g, k * 5 + 3, none⟩ (.slice ak' lk' ck')).setCell ⟨g, k * 5 + 4, none⟩ (.slice al' ll' cl') := ⟨_, rfl⟩
      have hw5' : w5 = set5 wr g (k * 5) (.int .i64 k') (.int .i64 n') (.string s') (.slice ak' lk' ck') (.slice al' ll' cl') := hw5
      rw [← hw5'] at kr2 ko2 hend
      have HO := hide ko2
      have HR := hide kr2
      have H5 := hide hw5
      clear hat hown hce hput kx kr kr2 ko2 hxr hwl hm' hlen hsl k1 k2 hsz0 hBw hxw hS0 hm hs1 hbw hi hz0' hz1 hz2 hw5 hw5'
      go_upto_region 5 with fail
      rw [← H5.out]
      clear H5 e0 e1 e2 e3 e4 f0 f1 f2 f3 f4 y0 y1 y2 y3 y4 x0 x1 x2 x3 x4
      obtain ⟨y0, y1, y2, y3, y4⟩ := HO.out.cell
      obtain ⟨z0, z1, z2, z3, z4⟩ := HR.out.cell
      have zf := HR.out.frozen
      go_wp2_with fail
      refine bodyPost_ret (v := .agg #[.int .i64 5, .int .i64 0, .string { data := #[] }, .slice none 0 0, .slice (some ⟨g, 0, none⟩) (list.length + m) rc]) (by simp [results, Tryz.results46, go_sem, z0, z1, z2, z3, z4]) rfl ⟨_, rfl, hend.out _ rfl⟩
end Go.Proofs.YtlpembhdojdomaaGreatDoor
