/- A row of the model's that is being made out of trees that lie elsewhere; what is told, in the result's own cells. -/
import Derived.Test.YtkfgndkemcgjnaaGreatDoorWGTo
import Derived.Test.YtkfgndkemcgjnaaGreatDoorWCopy
import Derived.Test.YtkfgndkemcgjnaaGreatDoorWTrees
import Derived.Laws.OwnMore
import Derived.OwnWalk
namespace Go.Proofs.YtkfgndkemcgjnaaGreatDoor
open Go.RowKit Go.Deep

theorem nodes_wt : ∀ (d : Nat) (t : Tr d), nodes d t ≤ wtT d t
  | 0, t => Empty.elim t
  | d + 1, t => by
    have h : ∀ xs : List (Tr d), (xs.map (nodes d)).sum ≤ (xs.map (wtT d)).sum := by
      intro xs
      induction xs with
      | nil => exact Nat.le_refl _
      | cons x r ih =>
        have := nodes_wt d x
        simp only [List.map_cons, List.sum_cons]
        omega
    have := h (Nd.list t)
    rw [nodes, wtT]
    omega
theorem nodes_ok {d : Nat} {t : Tr d} (h : okT d t = true) : nodes d t ≤ 300 := Nat.le_trans (nodes_wt d t) (wtT_ok h)
theorem sum_le_of {α : Type} {f : α → Nat} {c : Nat} : ∀ {xs : List α}, (∀ x ∈ xs, f x ≤ c) → (xs.map f).sum ≤ c * xs.length
  | [], _ => by simp
  | x :: r, h => by
    have h1 := h x (by simp)
    have h2 := sum_le_of (xs := r) (fun y hy => h y (by simp [hy]))
    simp only [List.map_cons, List.sum_cons, List.length_cons]
    rw [Nat.mul_succ]
    omega
/-- A row of the model's that owns its cells; its trees lie in blocks of S. -/
def VTo {d : Nat} (S : Nat → Prop) (N : Nat) (w : World) (lv : Value) (xs : List (Tr d)) (vs : List Value) : Prop :=
  w.ownsRow N 29 5 lv xs.length vs ∧ ∀ (j : Nat) (x : Tr d), xs[j]? = some x → ∃ c0 c1 c2 c3 c4, vs[j * 5]? = some c0 ∧ vs[j * 5 + 1]? = some c1 ∧ vs[j * 5 + 2]? = some c2 ∧ vs[j * 5 + 3]? = some c3 ∧ vs[j * 5 + 4]? = some c4 ∧ ValAt S w d x (.agg #[c0, c1, c2, c3, c4])

theorem VTo.grow {d N : Nat} {S : Nat → Prop} {wr w2 : World} {lv lv' : Value} {xs : List (Tr d)} {vs : List Value} {x : Tr d} {v0 v1 v2 v3 v4 : Value} (h : VTo S N wr lv xs vs) (hs : Same S wr w2) (hx : ValAt S wr d x (.agg #[v0, v1, v2, v3, v4])) (hown : w2.ownsRow N 29 5 lv' (xs.length + 1) (vs ++ [v0, v1, v2, v3, v4])) : VTo S N w2 lv' (xs ++ [x]) (vs ++ [v0, v1, v2, v3, v4]) := by
  obtain ⟨h1, h2⟩ := h
  have hlen : vs.length = xs.length * 5 := h1.1
  refine ⟨by rw [List.length_append]; exact hown, fun j y hy => ?_⟩
  by_cases e : j < xs.length
  · rw [List.getElem?_append_left e] at hy
    obtain ⟨c0, c1, c2, c3, c4, e0, e1, e2, e3, e4, hv⟩ := h2 j y hy
    refine ⟨c0, c1, c2, c3, c4, ?_, ?_, ?_, ?_, ?_, hv.same hs⟩
    · rw [List.getElem?_append_left (by omega)]; exact e0
    · rw [List.getElem?_append_left (by omega)]; exact e1
    · rw [List.getElem?_append_left (by omega)]; exact e2
    · rw [List.getElem?_append_left (by omega)]; exact e3
    · rw [List.getElem?_append_left (by omega)]; exact e4
  · have hj : j = xs.length := by
      have := (List.getElem?_eq_some_iff.1 hy).1
      rw [List.length_append, List.length_singleton] at this
      omega
    subst hj
    rw [List.getElem?_append_right (Nat.le_refl _), Nat.sub_self] at hy
    cases hy
    refine ⟨v0, v1, v2, v3, v4, ?_, ?_, ?_, ?_, ?_, hx.same hs⟩
    · rw [List.getElem?_append_right (by omega), hlen]; simp
    · rw [List.getElem?_append_right (by omega), hlen]; simp
    · rw [List.getElem?_append_right (by omega), hlen]; simp
    · rw [List.getElem?_append_right (by omega), hlen]; simp
    · rw [List.getElem?_append_right (by omega), hlen]; simp

theorem VTo.moved {d N : Nat} {S : Nat → Prop} {w w' : World} {lv : Value} {xs : List (Tr d)} {vs : List Value} (h : VTo S N w lv xs vs) (hs : Same S w w') (ho : ∀ g, lv.ownBlock = some g → w'.heap[g]? = w.heap[g]?) : VTo S N w' lv xs vs := by
  obtain ⟨h1, h2⟩ := h
  refine ⟨⟨h1.1, ?_⟩, fun j x hx => ?_⟩
  · rcases h1.2 with h | ⟨g, cap, cur, hv, hg, hh, hrest⟩
    · exact Or.inl h
    · exact Or.inr ⟨g, cap, cur, hv, hg, (ho g (by rw [hv]; rfl)).trans hh, hrest⟩
  · obtain ⟨c0, c1, c2, c3, c4, e0, e1, e2, e3, e4, hv⟩ := h2 j x hx
    exact ⟨c0, c1, c2, c3, c4, e0, e1, e2, e3, e4, hv.same hs⟩

/-- The row, where it lies. -/
theorem VTo.at {d N : Nat} {S : Nat → Prop} {w : World} {lv : Value} {xs : List (Tr d)} {vs : List Value} (h : VTo S N w lv xs vs) (hl : xs.length < 3518437208883) : RowAt (fun b => S b ∨ (N ≤ b ∧ b < w.heap.size)) w (ValAt (fun b => S b ∨ (N ≤ b ∧ b < w.heap.size)) w d) lv xs := by
  obtain ⟨h1, h2⟩ := h
  refine ⟨hl, ?_⟩
  rcases h1.2 with ⟨rfl, h0⟩ | ⟨g, cap, cur, rfl, hg, hh, hnc, _, hcs, htake⟩
  · exact ⟨none, 0, by rw [h0], Or.inl (List.eq_nil_of_length_eq_zero h0)⟩
  · refine ⟨some ⟨g, 0, none⟩, cap, rfl, Or.inr ⟨g, 0, Or.inr ⟨hg, (Array.getElem?_eq_some_iff.1 hh).1⟩, rfl, fun i x hx => ?_⟩⟩
    obtain ⟨c0, c1, c2, c3, c4, e0, e1, e2, e3, e4, hv⟩ := h2 i x hx
    have hi := (List.getElem?_eq_some_iff.1 hx).1
    have hc : ∀ j c, j < xs.length * 5 → vs[j]? = some c → w.cell? ⟨g, 0 + j, none⟩ = some c := fun j c hj hc => by
      rw [Nat.zero_add]
      exact (h1.cellAt j hj).trans hc
    refine ⟨c0, c1, c2, c3, c4, hc _ _ (by omega) e0, hc _ _ (by omega) e1, hc _ _ (by omega) e2, hc _ _ (by omega) e3, hc _ _ (by omega) e4, hv.mono (fun b hb => Or.inl hb)⟩

/-- Another tree at a place. -/
theorem VTo.put {d N g n cap k : Nat} {S : Nat → Prop} {w : World} {xs : List (Tr d)} {vs : List Value} {x : Tr d} {v0 v1 v2 v3 v4 : Value} (h : VTo S N w (.slice (some ⟨g, 0, none⟩) n cap) xs vs) (hn : n = xs.length) (hk : k < xs.length) (hx : ValAt S w d x (.agg #[v0, v1, v2, v3, v4])) (hS : ∀ b, S b → b < N) :
    (∃ vs', VTo S N (set5 w g (k * 5) v0 v1 v2 v3 v4) (.slice (some ⟨g, 0, none⟩) n cap) (xs.set k x) vs') ∧ Below N w (set5 w g (k * 5) v0 v1 v2 v3 v4) := by
  subst hn
  obtain ⟨h1, h2⟩ := h
  have hlen : vs.length = xs.length * 5 := h1.1
  have hgN := (h1.lt g rfl).1
  have hB : Below N w (set5 w g (k * 5) v0 v1 v2 v3 v4) := below_set5 (Below.refl _ _) hgN _ _ _ _ _ _
  have hsame : Same S w (set5 w g (k * 5) v0 v1 v2 v3 v4) := fun b hb => hB.block b (hS b hb)
  have ho := (((((h1.stored (k * 5) v0).1.stored (k * 5 + 1) v1).1.stored (k * 5 + 2) v2).1.stored (k * 5 + 3) v3).1.stored (k * 5 + 4) v4).1
  refine ⟨⟨_, by rw [List.length_set]; exact ho, fun j y hy => ?_⟩, hB⟩
  by_cases e : k = j
  · subst e
    rw [List.getElem?_set_self hk] at hy
    cases hy
    refine ⟨v0, v1, v2, v3, v4, ?_, ?_, ?_, ?_, ?_, hx.same hsame⟩
    all_goals simp [List.getElem?_set, hlen]
    all_goals omega
  · rw [List.getElem?_set_ne e] at hy
    obtain ⟨c0, c1, c2, c3, c4, e0, e1, e2, e3, e4, hv⟩ := h2 j y hy
    refine ⟨c0, c1, c2, c3, c4, ?_, ?_, ?_, ?_, ?_, hv.same hsame⟩
    · rw [List.getElem?_set_ne (by omega), List.getElem?_set_ne (by omega), List.getElem?_set_ne (by omega), List.getElem?_set_ne (by omega), List.getElem?_set_ne (by omega)]; exact e0
    · rw [List.getElem?_set_ne (by omega), List.getElem?_set_ne (by omega), List.getElem?_set_ne (by omega), List.getElem?_set_ne (by omega), List.getElem?_set_ne (by omega)]; exact e1
    · rw [List.getElem?_set_ne (by omega), List.getElem?_set_ne (by omega), List.getElem?_set_ne (by omega), List.getElem?_set_ne (by omega), List.getElem?_set_ne (by omega)]; exact e2
    · rw [List.getElem?_set_ne (by omega), List.getElem?_set_ne (by omega), List.getElem?_set_ne (by omega), List.getElem?_set_ne (by omega), List.getElem?_set_ne (by omega)]; exact e3
    · rw [List.getElem?_set_ne (by omega), List.getElem?_set_ne (by omega), List.getElem?_set_ne (by omega), List.getElem?_set_ne (by omega), List.getElem?_set_ne (by omega)]; exact e4
/-- What was told is put into the result's own cells. -/
theorem tell_endA {d : Nat} {t : Tr (d + 1)} {w w1 w2 : World} {v0 v1 : Int} {v2 : ByteArray} {v3 v6 : Option Addr} {v4 v5 v7 v8 rb : Nat} (hv : ValAt (Fresh w1 w2) w2 (d + 1) t (.agg #[.int .i64 v0, .int .i64 v1, .string v2, .slice v3 v4 v5, .slice v6 v7 v8])) (hb : Below w.heap.size w w2)
    (hr : w.heap.size ≤ rb) (hr1 : rb < w1.heap.size) :
    ∀ wF, wF = set5 w2 rb 0 (.int .i64 v0) (.int .i64 v1) (.string v2) (.slice v3 v4 v5) (.slice v6 v7 v8) → ValAt (Fresh w wF) wF (d + 1) t (.agg #[.int .i64 v0, .int .i64 v1, .string v2, .slice v3 v4 v5, .slice v6 v7 v8]) ∧ Below w.heap.size w wF := by
  intro wF hF
  have hzF : wF.heap.size = w2.heap.size := by rw [hF, set5_size]
  refine ⟨ValAt.moved (fun b hb => ?_) (fun b hb => ⟨by have := hb.1; omega, by have := hb.2; omega⟩) (d + 1) t _ hv, ?_⟩
  · rw [hF, set5_block _ _ _ _ _ _ _ _ _ (by have := hb.1; omega)]
  · rw [hF]
    exact below_set5 hb hr _ _ _ _ _ _

end Go.Proofs.YtkfgndkemcgjnaaGreatDoor

/- Rows of trees: what is told of the trees of a row. -/
namespace Go.Proofs.YtkfgndkemcgjnaaGreatDoor
open Go.RowKit Go.Deep

/-- What is told of a row, f being what is told of its trees. -/
def rowTell {d e : Nat} (f : List (Tr d) → Option (Tr (e + 1))) (t : Tr (d + 1)) : Tr (e + 1) × Bool :=
  match treesL d t with
  | none => (zeroT e, false)
  | some xs =>
    match f xs with
    | none => (zeroT e, false)
    | some x => (toldT e x, okT (e + 1) x)
theorem okT_rowTell {d e : Nat} (f : List (Tr d) → Option (Tr (e + 1))) (t : Tr (d + 1)) : okT (e + 1) (rowTell f t).1 = true := by
  unfold rowTell
  split
  · exact okT_zero _
  · split
    · exact okT_zero _
    · exact okT_told _ _
theorem rowTell_none {d e : Nat} {f : List (Tr d) → Option (Tr (e + 1))} {t : Tr (d + 1)} (h : treesL d t = none) : rowTell f t = (zeroT e, false) := by
  unfold rowTell
  rw [h]
theorem rowTell_fault {d e : Nat} {f : List (Tr d) → Option (Tr (e + 1))} {t : Tr (d + 1)} {xs : List (Tr d)} (h : treesL d t = some xs) (hf : f xs = none) : rowTell f t = (zeroT e, false) := by
  unfold rowTell
  rw [h]
  show (match f xs with | none => _ | some x => _) = _
  rw [hf]
theorem rowTell_some {d e : Nat} {f : List (Tr d) → Option (Tr (e + 1))} {t : Tr (d + 1)} {xs : List (Tr d)} {x : Tr (e + 1)} (h : treesL d t = some xs) (hf : f xs = some x) : rowTell f t = (toldT e x, okT (e + 1) x) := by
  unfold rowTell
  rw [h]
  show (match f xs with | none => _ | some x => _) = _
  rw [hf]
/-- Rows of trees that are ok are small. -/
theorem nodes_row {d : Nat} {xs : List (Tr d)} (hxs : ∀ x ∈ xs, okT d x = true) (hl : xs.length ≤ 10000) : (nodes (d + 1) (rowT d xs) : Int) ≤ 4194304 := by
  have h1 : (xs.map (nodes d)).sum ≤ 300 * xs.length := sum_le_of (fun x hx => nodes_ok (hxs x hx))
  have h2 : nodes (d + 1) (rowT d xs) = 1 + (xs.map (nodes d)).sum := rfl
  rw [h2]
  omega
/-- What a function that tells of the trees of a row is asked to give. -/
def TellF (e N : Nat) (r : Option (Tr (e + 1))) (w : World) (en : Ending) (w' : World) : Prop :=
  Below N w w' ∧ ((∃ x u, r = some x ∧ en = .returned (.tuple #[u, .nilIface]) ∧ TreeG (fun b => N ≤ b ∧ b < w'.heap.size) w' (e + 1) x u) ∨ (r = none ∧ ∃ why, en = .returned (.tuple #[.nilIface, faultV why])))

end Go.Proofs.YtkfgndkemcgjnaaGreatDoor

/- l2Told of the model: a tree in new memory, if it is right. -/
namespace Go.Proofs.YtkfgndkemcgjnaaGreatDoor
open Go.RowKit Go.Deep

set_option maxRecDepth 100000 in
set_option maxHeartbeats 4000000 in
theorem l2Told_any (d : Nat) (S : Nat → Prop) (t : Tr (d + 1)) (v : Value) (w : World) (hv : ValAt S w (d + 1) t v) (hS : Within S w) (hsm : (nodes (d + 1) t : Int) ≤ 4194304) :
    Calls Tryz.prog 27 #[v] w (SpecQ d (toldT d t) (okT (d + 1) t) w) := by
  have hv0 := hv
  obtain ⟨k, n, s, ak, lk, ck, al, ll, cl, rfl⟩ := hv.shape
  obtain ⟨W0, hW⟩ : ∃ W0, W0 = (w.alloc (.cells #[.int .i64 k, .int .i64 n, .string s, .slice ak lk ck, .slice al ll cl] 29)).alloc (.cells #[.int .i64 0, .int .i64 0, .string { data := #[] }, .slice none 0 0, .slice none 0 0] 29) := ⟨_, rfl⟩
  have hW0 : Below w.heap.size w W0 := by rw [hW]; exact below_trans (below_alloc1 _ _) (below_alloc1 _ _)
  have k0 : Blk5 W0 w.heap.size 29 (.int .i64 k) (.int .i64 n) (.string s) (.slice ak lk ck) (.slice al ll cl) := by
    rw [hW]; exact (Blk5.new w 29 _ _ _ _ _).alloc _
  have k1 : Blk5 W0 (w.heap.size + 1) 29 (.int .i64 0) (.int .i64 0) (.string { data := #[] }) (.slice none 0 0) (.slice none 0 0) := by
    have := Blk5.new (w.alloc (.cells #[.int .i64 k, .int .i64 n, .string s, .slice ak lk ck, .slice al ll cl] 29)) 29 (.int .i64 0) (.int .i64 0) (.string { data := #[] }) (.slice none 0 0) (.slice none 0 0)
    rw [World.size_alloc] at this
    rw [hW]
    exact this
  have HW := hide hW
  clear hW hv
  go_enter Tryz.func27, Tryz.ntmps27
  go_wp2_with fail
  rw [← HW.out]
  clear HW
  refine (specValOk_any (d + 1) S t _ W0 (hv0.same (hS.same hW0)) (hS.later hW0.size) hsm).mono ?_
  rintro e w1 ⟨rfl, hb1⟩
  replace k0 := k0.below hb1
  replace k1 := k1.below hb1
  have hB1 := below_trans hW0 hb1
  obtain ⟨x0, x1, x2, x3, x4⟩ := k0.cell
  have hlt := k1.lt
  clear hb1 hW0
  cases hf : okT (d + 1) t with
  | false =>
    have hz : Hid (toldT d t = zeroT d) := by
      show toldT d t = _
      rw [toldT, hf]
      rfl
    have hno : Hid (∀ wF, wF = set5 w1 (w.heap.size + 1) 0 (.int .i64 0) (.int .i64 0) (.string { data := #[] }) (.slice none 0 0) (.slice none 0 0) → Below w.heap.size w wF) := by
      intro wF hF
      rw [hF]
      exact below_set5 hB1 (by omega) _ _ _ _ _ _
    obtain ⟨y0, y1, y2, y3, y4⟩ := k1.cell
    have yf := k1.frozen
    clear k0 k1 hB1 hv0
    go_wp2_with fail
    rw [hz.out, hf]
    refine bodyPost_ret (v := .tuple #[zeroVal, .bool false]) (by simp [results, Tryz.results27, go_sem, zeroVal, y0, y1, y2, y3, y4]; rfl) rfl ⟨_, rfl, zeroAt d _ _, hno.out _ rfl⟩
  | true =>
    have hz : Hid (toldT d t = t) := by
      show toldT d t = _
      rw [toldT, hf]
      rfl
    have hwt := wtT_ok hf
    go_wp2_with fail
    refine (l1Copy_any (d + 1) S t _ w1 (hv0.same (hS.same hB1)) (hS.later hB1.size) (by omega)).mono ?_
    rintro e w3 ⟨u, rfl, hu3, hb3⟩
    obtain ⟨u0, u1, u2, u3, u4, u5, u6, u7, u8, rfl⟩ := (ValOwn.at _ _ _ _ hu3).shape
    have HF := hide (tell_end hu3 (below_trans hB1 hb3) (by omega) hlt)
    have k3 := k1.below hb3
    clear hu3 hb3 k1 k0 hv0 x0 x1 x2 x3 x4
    obtain ⟨y0, y1, y2, y3, y4⟩ := k3.cell
    have yf := k3.frozen
    clear k3
    go_wp2_with fail
    rw [hz.out, hf]
    refine bodyPost_ret (v := .tuple #[.agg #[.int .i64 u0, .int .i64 u1, .string u2, .slice u3 u4 u5, .slice u6 u7 u8], .bool true]) (by simp [results, Tryz.results27, go_sem, y0, y1, y2, y3, y4]) rfl ⟨_, rfl, ValOwn.at _ _ _ _ (HF.out _ rfl).1, (HF.out _ rfl).2⟩
end Go.Proofs.YtkfgndkemcgjnaaGreatDoor

/- append of trees onto a row of nothing. -/
namespace Go.Proofs.YtkfgndkemcgjnaaGreatDoor
open Go.RowKit Go.Deep

/-- An append, as one step of a region in its order. -/
theorem wpList_append_run {P : Program} {ops : Array Oper} {rest : List Oper} {o : Oper} {a : Act} {w : World} {Q : Exit → Act → World → Prop} (Φ : Value → World → Prop) (hgd : o.guard = none) (s x : Operand) (t : TypeId)
    (ho : o.op = .call { callee := .builtin .append, args := #[s, x], argTypes := #[t, t] }) (vs vx : Value) (hs : a.eval s = vs) (hx : a.eval x = vx)
    (hrun : ∃ v' w', (Builtin.append_ #[t, t] o.type #[vs, vx]).run P w = .ok v' w' ∧ Φ v' w') (h : ∀ v' w', Φ v' w' → wpList P ops Q rest (a.put o.dst v') w') :
    wpList P ops Q (o :: rest) a w := by
  refine wpList_plain hgd fun K hK => ?_
  obtain ⟨v', w', hr, h2⟩ := hrun
  unfold Oper.wp execOp
  simp only [ho, resolve, invoke, builtin, Sem.run_bind, Sem.run_pure, Result.andThen_ok, List.map_toArray, List.map_cons, List.map_nil, hs, hx, hr]
  exact hK _ _ (h v' w' h2)

theorem Tryz.infoV2 : (Tryz.prog.info? 29).map (fun i => (i.zero, i.size, i.bytes)) = some (some zeroVal, 5, 80) := by kernel_rfl

/-- Trees, copied behind nothing: the cells alone. -/
theorem run_append_vals {d : Nat} (S : Nat → Prop) (xs : List (Tr d)) (al : Option Addr) (cl g : Nat) (ty : TypeId) (w : World) (hg : w.heap[g]? = some (.cells #[] 29 (0, 0))) (hv : RowAt S w (ValAt S w d) (.slice al xs.length cl) xs) (hSg : ¬ S g) (hS : Within S w) (hsm : xs.length ≤ 4194304) :
    ∃ v' w', (Builtin.append_ #[27, 27] ty #[.slice (some ⟨g, 0, none⟩) 0 0, .slice al xs.length cl]).run Tryz.prog w = .ok v' w' ∧
      ((∃ vs, VTo S g w' v' xs vs) ∧ w.grownBy w' (some g) ∧ ∃ a c, v' = .slice a xs.length c) := by
  obtain ⟨i0, hi, hz0, hz1, hz2⟩ := info_parts Tryz.infoV2
  have hgl := (Array.getElem?_eq_some_iff.1 hg).1
  have hu : Tryz.prog.underlying 27 = some (.slice 29) := Tryz.underlying27
  have hown : w.ownsRow g 29 5 (.slice (some ⟨g, 0, none⟩) 0 0) 0 [] := ⟨by simp, .inr ⟨g, 0, #[], rfl, Nat.le_refl _, hg, Nat.le_refl _, Nat.zero_le _, by simp, by simp⟩⟩
  by_cases h0 : xs = []
  · subst h0
    refine ⟨.slice (some ⟨g, 0, none⟩) 0 0, w, ?_, ⟨[], hown, fun j x h => by simp at h⟩, ⟨rfl, rfl, rfl, Nat.le_refl _, fun _ _ _ => rfl⟩, _, _, rfl⟩
    cases al with
    | none => simp [Builtin.append_, run_underlying hu, sizeOf, typeInfo, hi, Builtin.lenOf, Builtin.firstCells, loadCells, loadCellsFrom, storeCells, Result.andThen, hz1]
    | some a => simp [Builtin.append_, run_underlying hu, sizeOf, typeInfo, hi, Builtin.lenOf, Builtin.firstCells, loadCells, loadCellsFrom, storeCells, Result.andThen, hz1]
  · have hpos : 0 < xs.length := List.length_pos_iff.2 h0
    obtain ⟨b, o, _, _, _, _, _, _, rfl, hbS, _⟩ := hv.cell hpos
    have hcell : ∀ i x, xs[i]? = some x → ∃ c0 c1 c2 c3 c4, w.cell? ⟨b, o + i * 5, none⟩ = some c0 ∧ w.cell? ⟨b, o + i * 5 + 1, none⟩ = some c1 ∧ w.cell? ⟨b, o + i * 5 + 2, none⟩ = some c2 ∧ w.cell? ⟨b, o + i * 5 + 3, none⟩ = some c3 ∧ w.cell? ⟨b, o + i * 5 + 4, none⟩ = some c4 ∧ ValAt S w d x (.agg #[c0, c1, c2, c3, c4]) := by
      intro i x hx
      obtain ⟨b', o', x', c0, c1, c2, c3, c4, e', _, hx', e0, e1, e2, e3, e4, hval⟩ := hv.cell (List.getElem?_eq_some_iff.1 hx).1
      cases e'
      rw [hx] at hx'
      cases hx'
      exact ⟨c0, c1, c2, c3, c4, e0, e1, e2, e3, e4, hval⟩
    obtain ⟨news, hnl, hnews⟩ : ∃ news : List Value, news.length = xs.length * 5 ∧ ∀ j, j < xs.length * 5 → ∃ u, news[j]? = some u ∧ w.cell? ⟨b, o + j, none⟩ = some u := by
      refine ⟨(List.range (xs.length * 5)).map (fun j => (w.cell? ⟨b, o + j, none⟩).getD undef), by simp, fun j hj => ?_⟩
      have hq : j / 5 < xs.length := by omega
      obtain ⟨c0, c1, c2, c3, c4, e0, e1, e2, e3, e4, _⟩ := hcell (j / 5) _ (List.getElem?_eq_getElem hq)
      have hex : ∃ u, w.cell? ⟨b, o + j, none⟩ = some u := by
        rcases (by omega : j = j / 5 * 5 ∨ j = j / 5 * 5 + 1 ∨ j = j / 5 * 5 + 2 ∨ j = j / 5 * 5 + 3 ∨ j = j / 5 * 5 + 4) with e | e | e | e | e
        · exact ⟨c0, by rw [e]; exact e0⟩
        · exact ⟨c1, by rw [e, ← Nat.add_assoc]; exact e1⟩
        · exact ⟨c2, by rw [e, ← Nat.add_assoc]; exact e2⟩
        · exact ⟨c3, by rw [e, ← Nat.add_assoc]; exact e3⟩
        · exact ⟨c4, by rw [e, ← Nat.add_assoc]; exact e4⟩
      obtain ⟨u, hu⟩ := hex
      exact ⟨u, by simp [hj, hu], hu⟩
    have hone : ∀ u ∈ news, u.oneCell' = true := by
      intro u hu
      obtain ⟨j, hj⟩ := List.getElem?_of_mem hu
      have hjl := (List.getElem?_eq_some_iff.1 hj).1
      obtain ⟨u', hu', hc⟩ := hnews j (by omega)
      rw [hj] at hu'
      cases hu'
      have hq : j / 5 < xs.length := by omega
      obtain ⟨c0, c1, c2, c3, c4, e0, e1, e2, e3, e4, hval⟩ := hcell (j / 5) _ (List.getElem?_eq_getElem hq)
      obtain ⟨q0, q1, q2, q3, q4, q5, q6, q7, q8, hq⟩ := hval.shape
      cases hq
      rcases (by omega : j = j / 5 * 5 ∨ j = j / 5 * 5 + 1 ∨ j = j / 5 * 5 + 2 ∨ j = j / 5 * 5 + 3 ∨ j = j / 5 * 5 + 4) with e | e | e | e | e
      · rw [e, e0] at hc; cases hc; rfl
      · rw [e, ← Nat.add_assoc, e1] at hc; cases hc; rfl
      · rw [e, ← Nat.add_assoc, e2] at hc; cases hc; rfl
      · rw [e, ← Nat.add_assoc, e3] at hc; cases hc; rfl
      · rw [e, ← Nat.add_assoc, e4] at hc; cases hc; rfl
    have hadd : ∀ j, (⟨b, o, none⟩ : Addr).add j = ⟨b, o + j, none⟩ := fun j => by unfold Addr.add; split <;> simp_all
    obtain ⟨v', w', hr, ho, hgr, _, hat⟩ := run_append_own_at (P := Tryz.prog) w g 27 ty 29 i0 zeroVal 5 80 hu hi hz0 hz1 hz2 rfl (by decide) _ 0 [] hown ⟨b, o, none⟩ xs.length cl news hnl
      (fun j u hj => by rw [hadd]; obtain ⟨u', h1, h2⟩ := hnews j (by have := (List.getElem?_eq_some_iff.1 hj).1; omega); rw [hj] at h1; cases h1; exact h2) hone (by unfold maxLen; omega) (by omega) (by omega)
    rw [Nat.zero_add, List.nil_append] at ho
    have hsh : ∃ a c, v' = .slice a xs.length c := by
      rcases ho.2 with ⟨_, h⟩ | ⟨g', c', cur, e, _⟩
      · omega
      · exact ⟨_, _, e⟩
    have hsame : Same S w w' := fun c hc => hgr.block c (hS c hc) (fun e => by cases e; exact hSg hc)
    refine ⟨v', w', hr, ⟨news, ho, fun j x hx => ?_⟩, hgr, hsh⟩
    obtain ⟨c0, c1, c2, c3, c4, e0, e1, e2, e3, e4, hval⟩ := hcell j x hx
    have hjl := (List.getElem?_eq_some_iff.1 hx).1
    have hn : ∀ m c, m < xs.length * 5 → w.cell? ⟨b, o + m, none⟩ = some c → news[m]? = some c := fun m c hm hc => by
      obtain ⟨u, h1, h2⟩ := hnews m hm
      rw [hc] at h2
      cases h2
      exact h1
    exact ⟨c0, c1, c2, c3, c4, hn _ _ (by omega) e0, hn _ _ (by omega) (by rw [← Nat.add_assoc]; exact e1), hn _ _ (by omega) (by rw [← Nat.add_assoc]; exact e2), hn _ _ (by omega) (by rw [← Nat.add_assoc]; exact e3), hn _ _ (by omega) (by rw [← Nat.add_assoc]; exact e4), hval.same hsame⟩
end Go.Proofs.YtkfgndkemcgjnaaGreatDoor

/- Rows of the model: l4Row, l4Of. -/
namespace Go.Proofs.YtkfgndkemcgjnaaGreatDoor
open Go.RowKit Go.Deep

theorem treesL_isSome {d : Nat} (t : Tr (d + 1)) : (treesL d t).isSome = (okT (d + 1) t && (Nd.kind t == 5)) := by
  unfold treesL
  cases okT (d + 1) t with
  | false => rfl
  | true =>
    rw [if_pos rfl]
    by_cases h : Nd.kind t = 5
    · rw [if_pos h]; simp [h]
    · rw [if_neg h]; simp [h]

set_option maxRecDepth 100000 in
set_option maxHeartbeats 1000000 in
theorem l4Row_any (d : Nat) (S : Nat → Prop) (t : Tr (d + 1)) (v : Value) (w : World) (hv : ValAt S w (d + 1) t v) (hS : Within S w) (hsm : (nodes (d + 1) t : Int) ≤ 4194304) :
    Calls Tryz.prog 40 #[v] w fun e w' => e = .returned (.bool (treesL d t).isSome) ∧ Below w.heap.size w w' := by
  rw [treesL_isSome]
  have hv0 := hv
  obtain ⟨vk, vl, rfl, i1, i2, i3, hk, hl⟩ := hv
  obtain ⟨ak, ck, rfl, hkl⟩ := hk.open'
  obtain ⟨al, cl, rfl, hll⟩ := hl.open'
  have hA := below_alloc1 w (.cells #[.int .i64 t.kind, .int .i64 t.num, .string t.str, .slice ak t.keys.length ck, .slice al t.list.length cl] 29)
  have k0 := Blk5.new w 29 (.int .i64 t.kind) (.int .i64 t.num) (.string t.str) (.slice ak t.keys.length ck) (.slice al t.list.length cl)
  go_enter Tryz.func40, Tryz.ntmps40
  go_wp2_with fail
  refine (specValOk_any (d + 1) S t _ _ (hv0.same (hS.same hA)) (hS.later hA.size) hsm).mono ?_
  rintro e w1 ⟨rfl, hb1⟩
  replace k0 := k0.below hb1
  have HB := hide (below_trans hA hb1)
  obtain ⟨x0, x1, x2, x3, x4⟩ := k0.cell
  clear hb1 hA hv0 hk hl k0
  cases hf : okT (d + 1) t with
  | false =>
    go_wp2_with fail
    go_ret
    exact ⟨by rw [hf]; rfl, HB.out⟩
  | true =>
    go_wp2_with fail
    go_ret
    exact ⟨by rw [hf]; rfl, HB.out⟩

theorem l4Of_any (a : Option Addr) (n c : Nat) (w : World) : Calls Tryz.prog 41 #[.slice a n c] w fun e w' => e = .returned (.agg #[.int .i64 5, .int .i64 0, .string ByteArray.empty, .slice none 0 0, .slice a n c]) ∧ Below w.heap.size w w' := by
  go_enter Tryz.func41, Tryz.ntmps41
  go_wp2_with fail
  exact bodyPost_ret (v := .agg #[.int .i64 5, .int .i64 0, .string ByteArray.empty, .slice none 0 0, .slice a n c]) (by simp [results, Tryz.results41, go_sem]; rfl) rfl ⟨rfl, below_alloc1 _ _⟩

/-- A row of the model's, made out of trees that lie elsewhere, as a tree. -/
theorem rowV_at {d N : Nat} {S : Nat → Prop} {w w' : World} {lv : Value} {xs : List (Tr d)} {vs : List Value} (h : VTo S N w lv xs vs) (hl : xs.length ≤ 100000) (hb : Below w.heap.size w w') (hS : Within S w) :
    ValAt (fun b => S b ∨ (N ≤ b ∧ b < w'.heap.size)) w' (d + 1) (rowT d xs) (.agg #[.int .i64 5, .int .i64 0, .string ByteArray.empty, .slice none 0 0, lv]) := by
  have hz := hb.size
  have hrow := h.at (by omega)
  have hmv : Same (fun b => S b ∨ (N ≤ b ∧ b < w.heap.size)) w w' := fun b hb' => hb.block b (by rcases hb' with h | h; exact hS b h; exact h.2)
  have hin : ∀ b, (S b ∨ (N ≤ b ∧ b < w.heap.size)) → (S b ∨ (N ≤ b ∧ b < w'.heap.size)) := fun b hb' => by
    rcases hb' with h | h
    · exact Or.inl h
    · exact Or.inr ⟨h.1, by omega⟩
  exact ⟨_, _, rfl, ⟨by show _ ≤ (5 : Int); omega, by show (5 : Int) ≤ _; omega⟩, ⟨by show _ ≤ (0 : Int); omega, by show (0 : Int) ≤ _; omega⟩, by show (0 : Nat) < _; omega, ⟨by show (0 : Nat) < _; omega, (fun s hs => by cases hs), none, 0, rfl, Or.inl rfl⟩, hrow.moved hmv hin (fun y u hy => ValAt.moved hmv hin _ y u hy)⟩
/-- A row's value is a slice of just so many. -/
theorem VTo.slice {d N : Nat} {S : Nat → Prop} {w : World} {lv : Value} {xs : List (Tr d)} {vs : List Value} (h : VTo S N w lv xs vs) : ∃ a c, lv = .slice a xs.length c := by
  rcases h.1.2 with ⟨rfl, h0⟩ | ⟨g, cap, cur, rfl, _⟩
  · exact ⟨none, 0, by rw [h0]⟩
  · exact ⟨_, _, rfl⟩
/-- A row of nothing, as it is made. -/
theorem VTo.start {d : Nat} (S : Nat → Prop) (w : World) : VTo (d := d) S w.heap.size (w.alloc (.cells #[] 29)) (.slice (some ⟨w.heap.size, 0, none⟩) 0 0) [] [] :=
  ⟨⟨rfl, Or.inr ⟨w.heap.size, 0, #[], rfl, Nat.le_refl _, heap_alloc_new w _, Nat.le_refl _, Nat.zero_le _, rfl, rfl⟩⟩, fun j x h => by simp at h⟩
/-- One tree more, from elsewhere. -/
theorem VTo.push {d N : Nat} {S : Nat → Prop} {w1 wr w2 : World} {lv lv' : Value} {xs : List (Tr d)} {vs : List Value} {x : Tr d} {v0 v1 v2 v3 v4 : Value} {o : Obj} (h : VTo S N wr lv xs vs) (hS : ∀ b, S b → b < N) (hN : N ≤ wr.heap.size) (hb : Below N w1 wr) (hx : ValAt S wr d x (.agg #[v0, v1, v2, v3, v4]))
    (hown : w2.ownsRow N 29 5 lv' (xs.length + 1) (vs ++ [v0, v1, v2, v3, v4])) (hg : (wr.alloc o).grownBy w2 lv.ownBlock) : VTo S N w2 lv' (xs ++ [x]) (vs ++ [v0, v1, v2, v3, v4]) ∧ Below N w1 w2 ∧ N ≤ w2.heap.size := by
  have hz : (wr.alloc o).heap.size = wr.heap.size + 1 := by simp
  have hs2 := hg.size
  have hrow : ∀ g, lv.ownBlock = some g → N ≤ g := fun g hg' => (h.1.lt g hg').1
  have hblk : ∀ b, b < N → w2.heap[b]? = wr.heap[b]? := fun b hb' => (hg.block b (by omega) (fun e => by have := hrow b e.symm; omega)).trans (Below.heap_alloc _ _ _ (by omega))
  refine ⟨h.grow (fun b hb' => hblk b (hS b hb')) hx hown, ⟨hg.os.trans hb.os, hg.tape.trans hb.tape, hg.output.trans hb.output, ?_, fun b hb' => (hblk b hb').trans (hb.block b hb')⟩, by omega⟩
  have := hb.size
  omega
end Go.Proofs.YtkfgndkemcgjnaaGreatDoor

/- RowBack of the model. -/
namespace Go.Proofs.YtkfgndkemcgjnaaGreatDoor
open Go.RowKit Go.Deep

/-- A row, the last one first. -/
def backF (d : Nat) (xs : List (Tr d)) : Option (Tr (d + 1)) := some (rowT d xs.reverse)
theorem back_step {α : Type} {xs : List α} {m k : Nat} {x : α} (hm : m < xs.length) (hk : k = xs.length - 1 - m) (hx : xs[k]? = some x) : xs.reverse.take (m + 1) = xs.reverse.take m ++ [x] := by
  have h1 : xs.reverse[m]? = some x := by
    rw [List.getElem?_reverse hm, ← hk]
    exact hx
  obtain ⟨h2, h3⟩ := List.getElem?_eq_some_iff.1 h1
  rw [List.take_succ_eq_append_getElem h2, h3]

set_option maxRecDepth 100000 in
set_option maxHeartbeats 2000000 in
theorem specRowBack_any (d : Nat) (S : Nat → Prop) (t : Tr (d + 1)) (v : Value) (w : World) (hv : ValAt S w (d + 1) t v) (hS : Within S w) (hsm : (nodes (d + 1) t : Int) ≤ 4194304) :
    Calls Tryz.prog 15 #[v] w (SpecQ d (rowTell (backF d) t).1 (rowTell (backF d) t).2 w) := by
  have hv0 := hv
  obtain ⟨vk, vl, rfl, i1, i2, i3, hk, hl⟩ := hv
  obtain ⟨ak, ck, rfl, hkl⟩ := hk.open'
  obtain ⟨al, cl, rfl, hll⟩ := hl.open'
  obtain ⟨W0, hW⟩ : ∃ W0, W0 = (w.alloc (.cells #[.int .i64 t.kind, .int .i64 t.num, .string t.str, .slice ak t.keys.length ck, .slice al t.list.length cl] 29)).alloc (.cells #[.int .i64 0, .int .i64 0, .string { data := #[] }, .slice none 0 0, .slice none 0 0] 29) := ⟨_, rfl⟩
  have hW0 : Below w.heap.size w W0 := by rw [hW]; exact below_trans (below_alloc1 _ _) (below_alloc1 _ _)
  have k0 : Blk5 W0 w.heap.size 29 (.int .i64 t.kind) (.int .i64 t.num) (.string t.str) (.slice ak t.keys.length ck) (.slice al t.list.length cl) := by
    rw [hW]; exact (Blk5.new w 29 _ _ _ _ _).alloc _
  have k1 : Blk5 W0 (w.heap.size + 1) 29 (.int .i64 0) (.int .i64 0) (.string { data := #[] }) (.slice none 0 0) (.slice none 0 0) := by
    have := Blk5.new (w.alloc (.cells #[.int .i64 t.kind, .int .i64 t.num, .string t.str, .slice ak t.keys.length ck, .slice al t.list.length cl] 29)) 29 (.int .i64 0) (.int .i64 0) (.string { data := #[] }) (.slice none 0 0) (.slice none 0 0)
    rw [World.size_alloc] at this
    rw [hW]
    exact this
  have HW := hide hW
  clear hW hk
  go_enter Tryz.func15, Tryz.ntmps15
  go_wp2_with fail
  rw [← HW.out]
  clear HW
  refine (l4Row_any d S t _ W0 (hv0.same (hS.same hW0)) (hS.later hW0.size) hsm).mono ?_
  rintro e w1 ⟨rfl, hb1⟩
  replace k0 := k0.below hb1
  replace k1 := k1.below hb1
  have hB1 := below_trans hW0 hb1
  have hlt := k1.lt
  clear hb1 hW0 hv0
  cases hf : treesL d t with
  | none =>
    have hz := hide (rowTell_none (f := backF d) hf)
    have hno : Hid (∀ wF, wF = set5 w1 (w.heap.size + 1) 0 (.int .i64 0) (.int .i64 0) (.string { data := #[] }) (.slice none 0 0) (.slice none 0 0) → Below w.heap.size w wF) := by
      intro wF hF
      rw [hF]
      exact below_set5 hB1 (by omega) _ _ _ _ _ _
    obtain ⟨y0, y1, y2, y3, y4⟩ := k1.cell
    have yf := k1.frozen
    clear k0 k1 hB1
    go_wp2_with fail
    rw [hz.out]
    refine bodyPost_ret (v := .tuple #[zeroVal, .bool false]) (by simp [results, Tryz.results15, go_sem, zeroVal, y0, y1, y2, y3, y4]; rfl) rfl ⟨_, rfl, zeroAt d _ _, hno.out _ rfl⟩
  | some xs =>
    obtain ⟨hok, h5, rfl⟩ := treesL_some hf
    clear h5
    have hR : Hid (rowTell (backF d) t = (toldT d (rowT d t.list.reverse), okT (d + 1) (rowT d t.list.reverse))) := rowTell_some hf rfl
    have hl60 : t.list.length ≤ 60 := (okT_kinds hok).2.1
    have hnod : (nodes (d + 1) (rowT d t.list.reverse) : Int) ≤ 4194304 := nodes_row (fun x hx => okT_part hok (List.mem_reverse.1 hx)) (by rw [List.length_reverse]; omega)
    have hS1 : ∀ b, S b → b < w1.heap.size := hS.later hB1.size
    have hst : Hid (VTo (d := d) S w1.heap.size (w1.alloc (.cells #[] 29)) (.slice (some ⟨w1.heap.size, 0, none⟩) 0 0) [] []) := VTo.start S w1
    have hbs := hide (below_alloc1 w1 (.cells #[] 29))
    obtain ⟨i0, hi, hz0, hz1, hz2⟩ := info_parts Tryz.infoV2
    obtain ⟨x0, x1, x2, x3, x4⟩ := (k0.alloc (.cells #[] 29)).cell
    clear hf hok
    go_wp2_with fail
    go_loopw [4, 5] (fun out i wr => ∃ (m : Nat) (la : Option Addr) (lc : Nat) (vs : List Value), m ≤ t.list.length ∧ out = .slice la m lc ∧ i = .int .i64 ((t.list.length : Int) - 1 - (m : Int)) ∧ Hid (VTo S w1.heap.size wr (.slice la m lc) (t.list.reverse.take m) vs) ∧ Hid (Below w1.heap.size w1 wr)) (fun _ i _ => (intOf i + 1).toNat)
    case atStart => exact ⟨0, _, _, [], Nat.zero_le _, rfl, by go_num, hst, hbs⟩
    case round =>
      clear hst hbs x0 x1 x2 x3 x4
      obtain ⟨m, la, lc, vs, hm, rfl, rfl, hto, hbr⟩ := hrel
      have hlen : (t.list.reverse.take m).length = m := by rw [List.length_take, List.length_reverse]; omega
      have hsz := hbr.out.size
      have kbox := k0.below hbr.out
      obtain ⟨x0, x1, x2, x3, x4⟩ := kbox.cell
      by_cases hmt : m < t.list.length
      · obtain ⟨k, hk⟩ : ∃ k, k = t.list.length - 1 - m := ⟨_, rfl⟩
        have hki : (t.list.length : Int) - 1 - (m : Int) = (k : Int) := by omega
        rw [hki]
        have hk0 : (0 : Int) ≤ (k : Int) := by omega
        have hkn : k < t.list.length := by omega
        have hkl' : (k : Int) < (t.list.length : Int) := by omega
        obtain ⟨b, o, x, c0, c1, c2, c3, c4, rfl, hbS, hx, e0, e1, e2, e3, e4, hval⟩ := (hl.same (hS.same (below_trans hB1 hbr.out))).cell hkn
        obtain ⟨q0, q1, q2, q3, q4, q5, q6, q7, q8, hq⟩ := hval.shape
        cases hq
        have hown := hto.out.1
        rw [hlen] at hown
        have HO := hide (hown.alloc (.cells #[.int .i64 q0, .int .i64 q1, .string q2, .slice q3 q4 q5, .slice q6 q7 q8] 29))
        have hstep : Hid (∀ lv' w2, w2.ownsRow w1.heap.size 29 5 lv' (m + 1) (vs ++ [.int .i64 q0, .int .i64 q1, .string q2, .slice q3 q4 q5, .slice q6 q7 q8]) → (wr.alloc (.cells #[.int .i64 q0, .int .i64 q1, .string q2, .slice q3 q4 q5, .slice q6 q7 q8] 29)).grownBy w2 (Value.slice la m lc).ownBlock →
            ∃ a c, lv' = .slice a (m + 1) c ∧ VTo S w1.heap.size w2 lv' (t.list.reverse.take (m + 1)) (vs ++ [.int .i64 q0, .int .i64 q1, .string q2, .slice q3 q4 q5, .slice q6 q7 q8]) ∧ Below w1.heap.size w1 w2) := by
          intro lv' w2 o1 o2
          have hp := hto.out.push hS1 hsz hbr.out hval (by rw [hlen]; exact o1) o2
          rw [← back_step hmt hk hx] at hp
          obtain ⟨a, c, e⟩ := hp.1.slice
          rw [List.length_take, List.length_reverse, Nat.min_eq_left (by omega)] at e
          exact ⟨a, c, e, hp.1, hp.2.1⟩
        have hsw : w1.heap.size ≤ wr.heap.size := hsz
        have HK := hide hk
        clear hto hbr hown hval hx kbox hk hki
        go_wp2_with (at_builtin; refine wpList_append_own_at _ rfl _ _ 27 rfl w1.heap.size 29 i0 zeroVal 5 80 Tryz.underlying27 hi hz0 hz1 hz2 rfl (by decide) _ _ _ rfl HO.out ⟨wr.heap.size, 0, none⟩ 1 1 [.int .i64 q0, .int .i64 q1, .string q2, .slice q3 q4 q5, .slice q6 q7 q8] rfl rfl (cell_five_new _ _ _ _ _ _ _) ?c2 ?c3 ?c4 ?c5 ?_)
        case c2 => intro y hy; simp at hy; rcases hy with rfl | rfl | rfl | rfl | rfl <;> rfl
        case c3 => unfold maxLen; omega
        case c4 => omega
        case c5 => simp; omega
        · intro lv' w2 o1 o2 _ o3
          have HH := hide (hstep.out lv' w2 o1 o2)
          clear o1 o2 o3 hstep HO
          obtain ⟨a, c, rfl, hv2, hb2⟩ := HH.out
          have HV := hide hv2
          have HB2 := hide hb2
          clear HH hv2 hb2 hi hz0 hz1 hz2
          go_wp2_with fail
          go_roundw
          case rel => exact ⟨m + 1, a, c, _, by omega, rfl, by rw [show (t.list.length : Int) - 1 - ((m + 1 : Nat) : Int) = (k : Int) - 1 by have := HK.out; omega], HV, HB2⟩
          case measure => simp [intOf]
      · obtain rfl : m = t.list.length := by omega
        have hneg : (t.list.length : Int) - 1 - (t.list.length : Int) = -1 := by omega
        rw [hneg]
        have hall : t.list.reverse.take t.list.length = t.list.reverse := List.take_of_length_le (by rw [List.length_reverse]; exact Nat.le_refl _)
        have hto' := hto.out
        rw [hall] at hto'
        have HTO := hide hto'
        have kres := k1.below hbr.out
        have hB2 := below_trans hB1 hbr.out
        clear hto hto' hall kbox x0 x1 x2 x3 x4 hi hz0 hz1 hz2 k0 k1 hlt
        go_wp2_with fail
        refine (l4Of_any _ _ _ wr).mono ?_
        rintro e w3 ⟨rfl, hb3⟩
        have hB3 := below_trans hB2 hb3
        have hrow := rowV_at HTO.out (by rw [List.length_reverse]; omega) hb3 (fun b hb => Nat.lt_of_lt_of_le (hS1 b hb) hsz)
        have k3 := kres.below hb3
        have hWU3 : Within (fun b => S b ∨ (w1.heap.size ≤ b ∧ b < w3.heap.size)) w3 := fun b hb => by
          rcases hb with hb | hb
          · exact hS.later hB3.size b hb
          · exact hb.2
        have hcall2 := hide (l2Told_any d _ _ _ w3 hrow hWU3 hnod)
        have hlt3 : w.heap.size + 1 < w3.heap.size := k3.lt
        clear hrow hWU3 hb3 HTO hbr kres hB2 hl
        go_wp2_with fail
        refine Calls.mono hcall2.out ?_
        rintro e w4 ⟨r, rfl, hr, hb4⟩
        obtain ⟨r0, r1, r2, r3, r4, r5, r6, r7, r8, rfl⟩ := hr.shape
        have HF := hide (tell_endA hr (below_trans hB3 hb4) (by omega) hlt3)
        have k4 := k3.below hb4
        obtain ⟨y0, y1, y2, y3, y4⟩ := k4.cell
        have yf := k4.frozen
        clear hr hb4 k3 k4 hcall2 hB3
        go_wp2_with fail
        rw [hR.out]
        exact bodyPost_ret (v := .tuple #[.agg #[.int .i64 r0, .int .i64 r1, .string r2, .slice r3 r4 r5, .slice r6 r7 r8], .bool (okT (d + 1) (rowT d t.list.reverse))]) (by simp [results, Tryz.results15, go_sem, y0, y1, y2, y3, y4]) rfl ⟨_, rfl, (HF.out _ rfl).1, (HF.out _ rfl).2⟩
end Go.Proofs.YtkfgndkemcgjnaaGreatDoor

/- slices.Reverse at a row of trees. -/
namespace Go.Proofs.YtkfgndkemcgjnaaGreatDoor
open Go.RowKit Go.Deep

/-- A row whose first k and last k have been put in each other's place. -/
def RevTo {α : Type} (vs cur : List α) (k : Nat) : Prop := cur.length = vs.length ∧ ∀ m, m < vs.length → cur[m]? = if m < k ∨ vs.length - k ≤ m then vs[vs.length - 1 - m]? else vs[m]?
theorem RevTo.start {α : Type} (vs : List α) : RevTo vs vs 0 := ⟨rfl, fun m hm => by rw [if_neg (by omega)]⟩
theorem RevTo.step {α : Type} {vs cur : List α} {k j : Nat} {x y : α} (h : RevTo vs cur k) (hj : j = vs.length - 1 - k) (hk : k < j) (hx : cur[k]? = some x) (hy : cur[j]? = some y) : RevTo vs ((cur.set k y).set j x) (k + 1) := by
  obtain ⟨h1, h2⟩ := h
  refine ⟨by rw [List.length_set, List.length_set, h1], fun m hm => ?_⟩
  have hxk := h2 k (by omega)
  have hyj := h2 j (by omega)
  rw [if_neg (by omega)] at hxk hyj
  by_cases e1 : m = j
  · subst e1
    rw [List.getElem?_set_self (by rw [List.length_set]; omega), if_pos (by omega), show vs.length - 1 - m = k by omega, ← hxk, hx]
  · rw [List.getElem?_set_ne (fun e => e1 e.symm)]
    by_cases e2 : m = k
    · subst e2
      rw [List.getElem?_set_self (by omega), if_pos (by omega), ← hj, ← hyj, hy]
    · rw [List.getElem?_set_ne (fun e => e2 e.symm), h2 m hm]
      by_cases e3 : m < k ∨ vs.length - k ≤ m
      · rw [if_pos e3, if_pos (by omega)]
      · rw [if_neg e3, if_neg (by omega)]
theorem RevTo.done {α : Type} {vs cur : List α} {k : Nat} (h : RevTo vs cur k) (hk : vs.length ≤ 2 * k + 1) : cur = vs.reverse := by
  obtain ⟨h1, h2⟩ := h
  refine List.ext_getElem? fun m => ?_
  by_cases hm : m < vs.length
  · rw [h2 m hm, List.getElem?_reverse hm]
    split
    · rfl
    · rw [show vs.length - 1 - m = m by omega]
  · rw [List.getElem?_eq_none (by omega), List.getElem?_eq_none (by rw [List.length_reverse]; omega)]

set_option maxRecDepth 100000 in
set_option maxHeartbeats 2000000 in
theorem reverse_some (N n g cap : Nat) (vs : List Value) (w : World) (h : w.ownsRow N 54 1 (.slice (some ⟨g, 0, none⟩) n cap) n vs) (hI : ∀ v ∈ vs, ∃ T u, v = .iface T u) (hn : n ≤ 1000) :
    Calls Tryz.prog 59 #[.slice (some ⟨g, 0, none⟩) n cap] w fun e w' => e = .returned (.tuple #[]) ∧ w'.ownsRow N 54 1 (.slice (some ⟨g, 0, none⟩) n cap) n vs.reverse ∧ w.grownBy w' (some g) := by
  have hlen : vs.length = n := by have := h.1; omega
  go_enter Tryz.func59, Tryz.ntmps59
  go_wp2_with fail
  go_loopw [2, 3] (fun i j wr => ∃ (k : Nat) (cur : List Value), 2 * k ≤ n + 1 ∧ i = .int .i64 (k : Int) ∧ j = .int .i64 ((n : Int) - 1 - (k : Int)) ∧ Hid (RevTo vs cur k) ∧ Hid (wr.ownsRow N 54 1 (.slice (some ⟨g, 0, none⟩) n cap) n cur) ∧ Hid (∀ v ∈ cur, ∃ T u, v = Value.iface T u) ∧ Hid (w.grownBy wr (some g))) (fun _ j _ => (intOf j + 1).toNat)
  case atStart => exact ⟨0, vs, by omega, rfl, by go_num, RevTo.start vs, h, hI, ⟨rfl, rfl, rfl, Nat.le_refl _, fun _ _ _ => rfl⟩⟩
  case round =>
    clear h hI
    obtain ⟨k, cur, hk2, rfl, rfl, hrev, hown, hI, hgr⟩ := hrel
    by_cases hlt : k + k + 1 < n
    · obtain ⟨j, hj⟩ : ∃ j, j = n - 1 - k := ⟨_, rfl⟩
      have hji : (n : Int) - 1 - (k : Int) = (j : Int) := by omega
      rw [hji]
      have hkj : k < j := by omega
      have hkj' : (k : Int) < (j : Int) := by omega
      have hkn : (k : Int) < (n : Int) := by omega
      have hjn : (j : Int) < (n : Int) := by omega
      have hcl : cur.length = n := by have := hrev.out.1; omega
      have ex : cur[k]? = some cur[k] := List.getElem?_eq_getElem (by omega)
      have ey : cur[j]? = some cur[j] := List.getElem?_eq_getElem (by omega)
      obtain ⟨T1, u1, hu1⟩ := hI.out _ (List.mem_of_getElem? ex)
      obtain ⟨T2, u2, hu2⟩ := hI.out _ (List.mem_of_getElem? ey)
      rw [hu1] at ex
      rw [hu2] at ey
      have c1 : wr.cell? ⟨g, k, none⟩ = some (.iface T1 u1) := (hown.out.cellAt k (by omega)).trans ex
      have c2 : wr.cell? ⟨g, j, none⟩ = some (.iface T2 u2) := (hown.out.cellAt j (by omega)).trans ey
      have f1 := hown.out.frozenAt k
      have f2 := hown.out.frozenAt j
      have hne : ¬ k = j := by omega
      have hne' : ¬ j = k := by omega
      have HJ := hide hj
      have HC := hide hcl
      have HX := hide ex
      have HY := hide ey
      clear hj hji hcl hu1 hu2 ex ey
      have hnew : Hid (RevTo vs ((cur.set k (.iface T2 u2)).set j (.iface T1 u1)) (k + 1) ∧ ((wr.setCell ⟨g, k, none⟩ (.iface T2 u2)).setCell ⟨g, j, none⟩ (.iface T1 u1)).drew.ownsRow N 54 1 (.slice (some ⟨g, 0, none⟩) n cap) n ((cur.set k (.iface T2 u2)).set j (.iface T1 u1)) ∧ (∀ v ∈ (cur.set k (.iface T2 u2)).set j (.iface T1 u1), ∃ T u, v = Value.iface T u) ∧ w.grownBy ((wr.setCell ⟨g, k, none⟩ (.iface T2 u2)).setCell ⟨g, j, none⟩ (.iface T1 u1)).drew (some g)) := by
        have s1 := hown.out.stored k (.iface T2 u2)
        have s2 := s1.1.stored j (.iface T1 u1)
        have g0 := hgr.out
        refine ⟨hrev.out.step (by rw [hlen]; exact HJ.out) hkj HX.out HY.out, s2.1.drew, fun v hv => ?_, ⟨g0.os, g0.tape, g0.output, ?_, fun b hb hne2 => ?_⟩⟩
        · rcases List.mem_or_eq_of_mem_set hv with hv | hv
          · rcases List.mem_or_eq_of_mem_set hv with hv | hv
            · exact hI.out v hv
            · exact ⟨_, _, hv⟩
          · exact ⟨_, _, hv⟩
        · exact Nat.le_trans g0.size (Nat.le_trans s1.2.size s2.2.size)
        · have hb1 := Nat.lt_of_lt_of_le hb g0.size
          exact (s2.2.block b (Nat.lt_of_lt_of_le hb1 s1.2.size) hne2).trans ((s1.2.block b hb1 hne2).trans (g0.block b hb hne2))
      clear hown hrev hI hgr HX HY HC
      go_wp2_with fail
      go_region
      go_wp2_with fail
      go_roundw
      case rel => exact ⟨k + 1, _, by omega, by go_num, by rw [show (n : Int) - 1 - ((k + 1 : Nat) : Int) = (j : Int) - 1 by have := HJ.out; omega], hnew.out.1, hnew.out.2.1, hnew.out.2.2.1, hnew.out.2.2.2⟩
      case measure => simp [intOf]
    · have hnl : ¬ ((k : Int) < (n : Int) - 1 - (k : Int)) := by omega
      have hE : Hid (cur = vs.reverse) := hrev.out.done (by omega)
      clear hrev hI
      go_wp2_with fail
      go_end0
      exact ⟨rfl, by rw [← hE.out]; exact hown.out, hgr.out⟩

theorem reverse_any (N n : Nat) (a : Option Addr) (cap : Nat) (vs : List Value) (w : World) (h : w.ownsRow N 54 1 (.slice a n cap) n vs) (hI : ∀ v ∈ vs, ∃ T u, v = .iface T u) (hn : n ≤ 1000) :
    Calls Tryz.prog 59 #[.slice a n cap] w fun e w' => e = .returned (.tuple #[]) ∧ w'.ownsRow N 54 1 (.slice a n cap) n vs.reverse ∧ w.grownBy w' (Value.slice a n cap).ownBlock := by
  rcases h.2 with ⟨h0, h1⟩ | ⟨g, cap', cur, h0, _⟩
  · cases h0
    have hv : vs = [] := List.eq_nil_of_length_eq_zero (by have := h.1; omega)
    subst hv
    go_enter Tryz.func59, Tryz.ntmps59
    go_wp2_with fail
    go_loop [2, 3] (fun i j => i = .int .i64 0 ∧ j = .int .i64 (-1)) (fun _ _ => 0)
    case atStart => exact ⟨rfl, rfl⟩
    case round =>
      obtain ⟨rfl, rfl⟩ := hrel
      go_wp2_with fail
      go_end0
      exact ⟨rfl, h, ⟨rfl, rfl, rfl, Nat.le_refl _, fun _ _ _ => rfl⟩⟩
  · cases h0
    exact reverse_some N n g cap vs w h hI hn
end Go.Proofs.YtkfgndkemcgjnaaGreatDoor

/- ofRow of the program, at backRow. -/
namespace Go.Proofs.YtkfgndkemcgjnaaGreatDoor
open Go.RowKit Go.Deep

set_option maxRecDepth 100000 in
set_option maxHeartbeats 2000000 in
theorem ofRow_backRow (d e : Nat) (S : Nat → Prop) (t : Tr (d + 1)) (v : Value) (f : List (Tr d) → Option (Tr (e + 1))) (w : World) (hv : ValAt S w (d + 1) t v) (hS : Within S w) (hg : ErrType w)
    (H : Hid (∀ (N : Nat) (xs : List (Tr d)) (a : Option Addr) (cap : Nat) (vs : List Value) (w1 : World), treesL d t = some xs → GTo N w1 (.slice a xs.length cap) xs vs → w.heap.size ≤ N → N ≤ w1.heap.size → ErrType w1 → Calls Tryz.prog 43 #[.slice a xs.length cap] w1 (TellF e N (f xs) w1))) :
    Calls Tryz.prog 42 #[v, .func (.func 43) #[] #[]] w (TellQ e (rowTell f t).1 (rowTell f t).2 w) := by
  obtain ⟨k, n, s, ak, lk, ck, al, ll, cl, rfl⟩ := hv.shape
  obtain ⟨W0, hW⟩ : ∃ W0, W0 = (w.alloc (.cells #[.int .i64 k, .int .i64 n, .string s, .slice ak lk ck, .slice al ll cl] 29)).alloc (.cells #[.int .i64 0, .int .i64 0, .string { data := #[] }, .slice none 0 0, .slice none 0 0] 29) := ⟨_, rfl⟩
  have hW0 : Below w.heap.size w W0 := by rw [hW]; exact below_trans (below_alloc1 _ _) (below_alloc1 _ _)
  have k1 : Blk5 W0 (w.heap.size + 1) 29 (.int .i64 0) (.int .i64 0) (.string { data := #[] }) (.slice none 0 0) (.slice none 0 0) := by
    have := Blk5.new (w.alloc (.cells #[.int .i64 k, .int .i64 n, .string s, .slice ak lk ck, .slice al ll cl] 29)) 29 (.int .i64 0) (.int .i64 0) (.string { data := #[] }) (.slice none 0 0) (.slice none 0 0)
    rw [World.size_alloc] at this
    rw [hW]
    exact this
  have HW := hide hW
  clear hW
  go_enter Tryz.func42, Tryz.ntmps42
  go_wp2_with fail
  rw [← HW.out]
  clear HW
  refine (treesInRow_own d S t _ W0 (hv.same (hS.same hW0)) (hS.later hW0.size)).mono ?_
  rintro en w1 ⟨hb1, hq⟩
  have hB1 := below_trans hW0 hb1
  have k2 := k1.below hb1
  have hg1 := hg.below hB1
  have hl1 := k1.lt
  have hs0 := hW0.size
  have hs1 := hb1.size
  clear hv
  -- what is told, however it is
  have hfin : ∀ (w1' : World), Below W0.heap.size w1 w1' → ∀ (x : Tr (e + 1)) (ok : Bool), Hid (∀ en w2, TellQ e x ok w1' en w2 → ∃ v0 v1 v2 v3 v4 v5 v6 v7 v8, en = .returned (.tuple #[.agg #[.int .i64 v0, .int .i64 v1, .string v2, .slice v3 v4 v5, .slice v6 v7 v8], .bool ok]) ∧
      Blk5 w2 (w.heap.size + 1) 29 (.int .i64 0) (.int .i64 0) (.string { data := #[] }) (.slice none 0 0) (.slice none 0 0) ∧
      ∀ wF, wF = set5 w2 (w.heap.size + 1) 0 (.int .i64 v0) (.int .i64 v1) (.string v2) (.slice v3 v4 v5) (.slice v6 v7 v8) → ValOwn wF (e + 1) (Fresh w wF) x (.agg #[.int .i64 v0, .int .i64 v1, .string v2, .slice v3 v4 v5, .slice v6 v7 v8]) ∧ Below w.heap.size w wF) := fun w1' hb' x ok => by
    intro en w2 ⟨v, he, hv, hb2⟩
    obtain ⟨v0, v1, v2, v3, v4, v5, v6, v7, v8, rfl⟩ := (ValOwn.at _ _ _ _ hv).shape
    have hs' := hb'.size
    exact ⟨v0, v1, v2, v3, v4, v5, v6, v7, v8, he, (k2.of_block (hb'.block _ hl1)).below hb2, tell_end hv (below_trans (hB1.trans (hb'.mono hs0)) hb2) (by omega) (by omega)⟩
  clear hW0 k1 hb1
  rcases hq with ⟨xs, xa, xc, vs, hrow, rfl, hto⟩ | ⟨hrow, why, rfl⟩
  · have hcall := hide (H.out W0.heap.size xs xa xc vs w1 hrow hto hs0 hs1 hg1)
    have HR := hide hrow
    clear hto H hrow
    go_wp2_with fail
    refine Calls.mono hcall.out ?_
    rintro en w2 ⟨hb2, hq⟩
    clear hcall
    have hz2 := hb2.size
    have h00 : 0 < W0.heap.size := Nat.lt_of_lt_of_le hg.lt hs0
    have hg2 : ErrType w2 := (hb2.cell (p := ⟨0, 0, none⟩) h00).trans hg1
    rcases hq with ⟨x, u, hx, rfl, hu⟩ | ⟨hx, why, rfl⟩
    · obtain ⟨T, u', rfl⟩ := hu.iface
      have hT := hide (rowTell_some HR.out hx)
      have hcall := hide (told_tree e _ x _ w2 hu (fun b hb => hb.2))
      clear hx hu
      go_wp2_with fail
      refine Calls.mono hcall.out ?_
      intro en w3 hq
      obtain ⟨v0, v1, v2, v3, v4, v5, v6, v7, v8, rfl, k3, hF⟩ := (hfin w2 hb2 _ _).out en w3 hq
      have HF := hide hF
      obtain ⟨y0, y1, y2, y3, y4⟩ := k3.cell
      have yf := k3.frozen
      clear hF hq hfin hcall k3
      go_wp2_with fail
      refine bodyPost_ret (v := .tuple #[.agg #[.int .i64 v0, .int .i64 v1, .string v2, .slice v3 v4 v5, .slice v6 v7 v8], .bool (okT (e + 1) x)]) (by simp [results, Tryz.results42, go_sem, y0, y1, y2, y3, y4]) rfl ⟨_, by rw [hT.out], by rw [hT.out]; exact (HF.out _ rfl).1, (HF.out _ rfl).2⟩
    · have hT := hide (rowTell_fault HR.out hx)
      have hcall := hide (told_fault e .nilIface why w2 hg2)
      unfold faultV
      clear hx
      go_wp2_with fail
      refine Calls.mono hcall.out ?_
      intro en w3 hq
      obtain ⟨v0, v1, v2, v3, v4, v5, v6, v7, v8, rfl, k3, hF⟩ := (hfin w2 hb2 _ _).out en w3 hq
      have HF := hide hF
      obtain ⟨y0, y1, y2, y3, y4⟩ := k3.cell
      have yf := k3.frozen
      clear hF hq hfin hcall k3
      go_wp2_with fail
      refine bodyPost_ret (v := .tuple #[.agg #[.int .i64 v0, .int .i64 v1, .string v2, .slice v3 v4 v5, .slice v6 v7 v8], .bool false]) (by simp [results, Tryz.results42, go_sem, y0, y1, y2, y3, y4]) rfl ⟨_, by rw [hT.out], by rw [hT.out]; exact (HF.out _ rfl).1, (HF.out _ rfl).2⟩
  · have hT := hide (rowTell_none (f := f) hrow)
    have hcall := hide (told_fault e .nilIface why w1 hg1)
    unfold faultV
    clear hrow H
    go_wp2_with fail
    refine Calls.mono hcall.out ?_
    intro en w2 hq
    obtain ⟨v0, v1, v2, v3, v4, v5, v6, v7, v8, rfl, k3, hF⟩ := (hfin w1 (Below.refl _ _) _ _).out en w2 hq
    have HF := hide hF
    obtain ⟨y0, y1, y2, y3, y4⟩ := k3.cell
    have yf := k3.frozen
    clear hF hq hfin hcall k3
    go_wp2_with fail
    refine bodyPost_ret (v := .tuple #[.agg #[.int .i64 v0, .int .i64 v1, .string v2, .slice v3 v4 v5, .slice v6 v7 v8], .bool false]) (by simp [results, Tryz.results42, go_sem, y0, y1, y2, y3, y4]) rfl ⟨_, by rw [hT.out], by rw [hT.out]; exact (HF.out _ rfl).1, (HF.out _ rfl).2⟩
end Go.Proofs.YtkfgndkemcgjnaaGreatDoor

/- RowBack of the program. -/
namespace Go.Proofs.YtkfgndkemcgjnaaGreatDoor
open Go.RowKit Go.Deep

/-- A row that lies in memory of its own, the last one first. -/
theorem GTo.back {d N n cap : Nat} {a : Option Addr} {w w2 : World} {xs : List (Tr d)} {vs : List Value} (h : GTo N w (.slice a n cap) xs vs) (ho : w2.ownsRow N 54 1 (.slice a n cap) xs.length vs.reverse) (hg : w.grownBy w2 (Value.slice a n cap).ownBlock) : GTo N w2 (.slice a n cap) xs.reverse vs.reverse := by
  have hlen : vs.length = xs.length := by have := h.1.1; omega
  have hz := hg.size
  refine ⟨by rw [List.length_reverse]; exact ho, fun j x u hx hu => ?_⟩
  have hj : j < xs.length := by
    have := (List.getElem?_eq_some_iff.1 hx).1
    rw [List.length_reverse] at this
    exact this
  rw [List.getElem?_reverse hj] at hx
  rw [List.getElem?_reverse (by omega), hlen] at hu
  exact TreeG.moved (fun b hb => hg.block b hb.2.1 hb.2.2) (fun b hb => ⟨hb.1, by have := hb.2.1; omega, hb.2.2⟩) d x u (h.2 _ x u hx hu)
/-- .. as a tree. -/
theorem GTo.tree {d N : Nat} {w : World} {sv : Value} {xs : List (Tr d)} {vs : List Value} (h : GTo N w sv xs vs) (hl : xs.length ≤ 1000) : TreeG (fun b => N ≤ b ∧ b < w.heap.size) w (d + 1) (rowT d xs) (.iface 84 (.agg #[sv])) :=
  Or.inr (Or.inr (Or.inr (Or.inl ⟨xs, sv, hl, rfl, rfl, h.row (by omega)⟩)))
/-- Its trees are interface values. -/
theorem GTo.ifaces {d N : Nat} {w : World} {sv : Value} {xs : List (Tr d)} {vs : List Value} (h : GTo N w sv xs vs) : ∀ v ∈ vs, ∃ T u, v = Value.iface T u := by
  intro v hv
  obtain ⟨j, hj, rfl⟩ := List.getElem_of_mem hv
  have hlen : vs.length = xs.length := by have := h.1.1; omega
  exact (h.2 j xs[j] vs[j] (List.getElem?_eq_getElem (by omega)) (List.getElem?_eq_getElem hj)).iface

set_option maxRecDepth 100000 in
set_option maxHeartbeats 1000000 in
theorem backRow_any (d N : Nat) (xs : List (Tr d)) (a : Option Addr) (cap : Nat) (vs : List Value) (w : World) (hto : GTo N w (.slice a xs.length cap) xs vs) (hN : N ≤ w.heap.size) (hl : xs.length ≤ 60) :
    Calls Tryz.prog 43 #[.slice a xs.length cap] w (TellF d N (backF d xs) w) := by
  have hcall := hide (reverse_any N xs.length a cap vs w hto.1 hto.ifaces (by omega))
  have HT := hide hto
  clear hto
  go_enter Tryz.func43, Tryz.ntmps43
  go_wp2_with fail
  refine Calls.mono hcall.out ?_
  rintro e w2 ⟨rfl, ho, hg⟩
  have HG := hide (HT.out.back ho hg)
  have hrow := HT.out.1
  have hb : Below N w w2 := ⟨hg.os, hg.tape, hg.output, hg.size, fun b hb => hg.block b (by omega) (fun e => by have := (hrow.lt b e.symm).1; omega)⟩
  have HB := hide hb
  clear ho hg hcall HT hrow hb
  go_wp2_with fail
  go_ret2
  exact ⟨HB.out, Or.inl ⟨_, _, rfl, rfl, HG.out.tree (by rw [List.length_reverse]; omega)⟩⟩

set_option maxRecDepth 100000 in
set_option maxHeartbeats 2000000 in
theorem implRowBack_any (d : Nat) (S : Nat → Prop) (t : Tr (d + 1)) (v : Value) (w : World) (hv : ValAt S w (d + 1) t v) (hS : Within S w) (hg : ErrType w) :
    Calls Tryz.prog 16 #[v] w (TellQ (d) (rowTell (backF d) t).1 (rowTell (backF d) t).2 w) := by
  obtain ⟨k, n, s, ak, lk, ck, al, ll, cl, rfl⟩ := hv.shape
  obtain ⟨W0, hW⟩ : ∃ W0, W0 = (w.alloc (.cells #[.int .i64 k, .int .i64 n, .string s, .slice ak lk ck, .slice al ll cl] 29)).alloc (.cells #[.int .i64 0, .int .i64 0, .string { data := #[] }, .slice none 0 0, .slice none 0 0] 29) := ⟨_, rfl⟩
  have hW0 : Below w.heap.size w W0 := by rw [hW]; exact below_trans (below_alloc1 _ _) (below_alloc1 _ _)
  have k1 : Blk5 W0 (w.heap.size + 1) 29 (.int .i64 0) (.int .i64 0) (.string { data := #[] }) (.slice none 0 0) (.slice none 0 0) := by
    have := Blk5.new (w.alloc (.cells #[.int .i64 k, .int .i64 n, .string s, .slice ak lk ck, .slice al ll cl] 29)) 29 (.int .i64 0) (.int .i64 0) (.string { data := #[] }) (.slice none 0 0) (.slice none 0 0)
    rw [World.size_alloc] at this
    rw [hW]
    exact this
  have hcall := hide (ofRow_backRow (d) (d) S t _ (backF d) W0 (hv.same (hS.same hW0)) (hS.later hW0.size) (hg.below hW0) (fun N xs a cap vs w1 hrow hto _ hN _ => backRow_any d N xs a cap vs w1 hto hN (by obtain ⟨hok, _, rfl⟩ := treesL_some hrow; exact (okT_kinds hok).2.1)))
  have HW := hide hW
  have hlt := k1.lt
  clear hW hv
  go_enter Tryz.func16, Tryz.ntmps16
  go_wp2_with fail
  rw [← HW.out]
  clear HW
  refine Calls.mono hcall.out ?_
  rintro e w1 ⟨r, rfl, hr, hb1⟩
  obtain ⟨v0, v1, v2, v3, v4, v5, v6, v7, v8, rfl⟩ := (ValOwn.at _ _ _ _ hr).shape
  have HF := hide (tell_end hr (below_trans hW0 hb1) (by omega) hlt)
  have k3 := k1.below hb1
  obtain ⟨y0, y1, y2, y3, y4⟩ := k3.cell
  have yf := k3.frozen
  clear hr hb1 k3 k1 hcall hW0
  go_wp2_with fail
  refine bodyPost_ret (v := .tuple #[.agg #[.int .i64 v0, .int .i64 v1, .string v2, .slice v3 v4 v5, .slice v6 v7 v8], .bool (rowTell (backF d) t).2]) (by simp [results, Tryz.results16, go_sem, y0, y1, y2, y3, y4]) rfl ⟨_, rfl, (HF.out _ rfl).1, (HF.out _ rfl).2⟩
end Go.Proofs.YtkfgndkemcgjnaaGreatDoor
