/- Texts of the proof, put together by program: WTrees, WRowP, WSetT, WSetA, WRowS, WRowO, WUp, WFlatP, WAppW. -/
import Derived.Test.YtoangpfmjohhmaaGreatDoorP11
import Derived.Test.YtoangpfmjohhmaaGreatDoorP7
import Derived.Test.YtoangpfmjohhmaaGreatDoorP16
/- treesInRow: the trees of a row, in memory of their own. -/
namespace Go.Proofs.YtoangpfmjohhmaaGreatDoor
open Go.RowKit Go.Deep

/-- The trees of a row that is ok. -/
def treesL (d : Nat) (t : Tr (d + 1)) : Option (List (Tr d)) := if okT (d + 1) t = true then (if Nd.kind t = 5 then some (Nd.list t) else none) else none
theorem treesL_ok {d : Nat} {t : Tr (d + 1)} (h : okT (d + 1) t = true) : treesL d t = (if Nd.kind t = 5 then some (Nd.list t) else none) := if_pos h
theorem treesL_some {d : Nat} {t : Tr (d + 1)} {xs : List (Tr d)} (h : treesL d t = some xs) : okT (d + 1) t = true ∧ Nd.kind t = 5 ∧ Nd.list t = xs := by
  unfold treesL at h
  split at h
  · split at h
    · exact ⟨‹_›, ‹_›, by cases h; rfl⟩
    · cases h
  · cases h

/-- What treesInRow is asked to give. -/
def TreesOQ (d : Nat) (t : Tr (d + 1)) (w : World) (e : Ending) (w' : World) : Prop :=
  Below w.heap.size w w' ∧ ((∃ xs a cap vs, treesL d t = some xs ∧ e = .returned (.tuple #[.slice a xs.length cap, .nilIface]) ∧ GTo w.heap.size w' (.slice a xs.length cap) xs vs) ∨ (treesL d t = none ∧ ∃ why, e = .returned (.tuple #[.slice none 0 0, faultV why])))

set_option maxRecDepth 100000 in
set_option maxHeartbeats 4000000 in
theorem treesInRow_own (d : Nat) (S : Nat → Prop) (t : Tr (d + 1)) (v : Value) (w : World) (hv : ValAt S w (d + 1) t v) (hS : Within S w) :
    Calls Tryz.prog 98 #[v] w (TreesOQ d t w) := by
  obtain ⟨k, n, s, ak, lk, ck, al, ll, cl, rfl⟩ := hv.shape
  have hA := below_alloc1 w (.cells #[.int .i64 k, .int .i64 n, .string s, .slice ak lk ck, .slice al ll cl] 26)
  have hAs := hA.size
  go_enter Tryz.func98, Tryz.ntmps98
  go_wp2_with fail
  refine (given_own d S t _ _ (hv.same (hS.same hA)) (hS.later hA.size)).mono ?_
  rintro e w1 ⟨hb1, hq⟩
  have hB := below_trans hA hb1
  clear hb1 hA hv
  rcases hq with ⟨hok, u, rfl, hu, htop⟩ | ⟨hok, why, rfl⟩
  · rcases hu with ⟨k', h1, rfl, rfl⟩ | ⟨n', h1, rfl, rfl⟩ | ⟨s', h1, rfl, rfl⟩ | ⟨xs, sv, h1, rfl, rfl, hr⟩ | ⟨keys, xs, ps, r, es, h1, h2, h3, h4, rfl, rfl, hr, hm, he⟩
    · have a3 := Tryz.asR_B
      have hq : Hid (treesL d (Nd.mk k' 0 ByteArray.empty [] [] : Nd (Tr d)) = none) := by
        refine (treesL_ok hok).trans ?_
        show (if k' = 5 then _ else _) = _
        rw [if_neg (by omega)]
      have HB := hide hB
      clear hB htop
      go_wp2_with fail
      go_ret2
      exact ⟨below_trans HB.out (below_alloc1 _ _), Or.inr ⟨hq.out, _, rfl⟩⟩
    · have a3 := Tryz.asR_N
      have hq : Hid (treesL d (Nd.mk 3 n' ByteArray.empty [] [] : Nd (Tr d)) = none) := by
        exact (treesL_ok hok).trans rfl
      have HB := hide hB
      clear hB htop
      go_wp2_with fail
      go_ret2
      exact ⟨below_trans HB.out (below_alloc1 _ _), Or.inr ⟨hq.out, _, rfl⟩⟩
    · have a3 := Tryz.asR_S
      have hq : Hid (treesL d (Nd.mk 4 0 s' [] [] : Nd (Tr d)) = none) := by
        exact (treesL_ok hok).trans rfl
      have HB := hide hB
      clear hB htop
      go_wp2_with fail
      go_ret2
      exact ⟨below_trans HB.out (below_alloc1 _ _), Or.inr ⟨hq.out, _, rfl⟩⟩
    · have a3 := Tryz.asR_R
      obtain ⟨sa, sc, rfl, _⟩ := hr.open'
      have hq : Hid (treesL d (Nd.mk 5 0 ByteArray.empty [] xs : Nd (Tr d)) = some xs) := by
        exact (treesL_ok hok).trans rfl
      have hA2 := below_alloc1 w1 (.cells #[.slice sa xs.length sc] 120)
      have HB2 := hide (below_trans hB hA2)
      have hsz := hA2.size
      have HR : Hid (∃ vs, GTo w.heap.size (w1.alloc (.cells #[.slice sa xs.length sc] 120)) (.slice sa xs.length sc) xs vs) := by
        obtain ⟨sv', vs, he, hto⟩ := htop.1 rfl
        cases he
        exact ⟨vs, (gto_of (hto.moved hA2 (by omega)) (okT_row hok))⟩
      clear hB hA2 hr htop
      go_wp2_with fail
      go_ret2
      obtain ⟨vs, hvs⟩ := HR.out
      exact ⟨HB2.out, Or.inl ⟨xs, sa, sc, vs, hq.out, rfl, hvs⟩⟩
    · have a3 := Tryz.asR_M
      have hq : Hid (treesL d (Nd.mk 6 0 ByteArray.empty keys xs : Nd (Tr d)) = none) := by
        exact (treesL_ok hok).trans rfl
      have HB := hide hB
      clear hB htop he hm hr h4 h3 h2
      go_wp2_with fail
      go_ret2
      exact ⟨below_trans HB.out (below_alloc1 _ _), Or.inr ⟨hq.out, _, rfl⟩⟩
  · unfold faultV
    go_wp2_with fail
    go_ret2
    refine ⟨hB, Or.inr ⟨?_, why, rfl⟩⟩
    rw [treesL, if_neg (by rw [hok]; simp)]

end Go.Proofs.YtoangpfmjohhmaaGreatDoor

/- Rows of trees: what is told of the trees of a row. -/
namespace Go.Proofs.YtoangpfmjohhmaaGreatDoor
open Go.RowKit Go.Deep

/-- What is told of a row, f being what is told of its trees. -/
def rowTell {d e : Nat} (f : List (Tr d) → Option (Tr (e + 1))) (t : Tr (d + 1)) : Tr (e + 1) × Bool :=
  match treesL d t with
  | none => (zeroT e, false)
  | some xs =>
    match f xs with
    | none => (zeroT e, false)
    | some x => (toldT e x, okT (e + 1) x)
theorem okT_rowTell {d e : Nat} (f : List (Tr d) → Option (Tr (e + 1))) (t : Tr (d + 1)) : okT (e + 1) (rowTell f t).1 = true := by
  unfold rowTell
  split
  · exact okT_zero _
  · split
    · exact okT_zero _
    · exact okT_told _ _
theorem rowTell_none {d e : Nat} {f : List (Tr d) → Option (Tr (e + 1))} {t : Tr (d + 1)} (h : treesL d t = none) : rowTell f t = (zeroT e, false) := by
  unfold rowTell
  rw [h]
theorem rowTell_fault {d e : Nat} {f : List (Tr d) → Option (Tr (e + 1))} {t : Tr (d + 1)} {xs : List (Tr d)} (h : treesL d t = some xs) (hf : f xs = none) : rowTell f t = (zeroT e, false) := by
  unfold rowTell
  rw [h]
  show (match f xs with | none => _ | some x => _) = _
  rw [hf]
theorem rowTell_some {d e : Nat} {f : List (Tr d) → Option (Tr (e + 1))} {t : Tr (d + 1)} {xs : List (Tr d)} {x : Tr (e + 1)} (h : treesL d t = some xs) (hf : f xs = some x) : rowTell f t = (toldT e x, okT (e + 1) x) := by
  unfold rowTell
  rw [h]
  show (match f xs with | none => _ | some x => _) = _
  rw [hf]
/-- Rows of trees that are ok are small. -/
theorem nodes_row {d : Nat} {xs : List (Tr d)} (hxs : ∀ x ∈ xs, okT d x = true) (hl : xs.length ≤ 10000) : (nodes (d + 1) (rowT d xs) : Int) ≤ 4194304 := by
  have h1 : (xs.map (nodes d)).sum ≤ 300 * xs.length := sum_le_of (fun x hx => nodes_ok (hxs x hx))
  have h2 : nodes (d + 1) (rowT d xs) = 1 + (xs.map (nodes d)).sum := rfl
  rw [h2]
  omega
/-- What a function that tells of the trees of a row is asked to give. -/
def TellF (e N : Nat) (r : Option (Tr (e + 1))) (w : World) (en : Ending) (w' : World) : Prop :=
  Below N w w' ∧ ((∃ x u, r = some x ∧ en = .returned (.tuple #[u, .nilIface]) ∧ TreeG (fun b => N ≤ b ∧ b < w'.heap.size) w' (e + 1) x u) ∨ (r = none ∧ ∃ why, en = .returned (.tuple #[.nilIface, faultV why])))

end Go.Proofs.YtoangpfmjohhmaaGreatDoor

/- l2Told of the model: a tree in new memory, if it is right. -/
namespace Go.Proofs.YtoangpfmjohhmaaGreatDoor
open Go.RowKit Go.Deep

set_option maxRecDepth 100000 in
set_option maxHeartbeats 4000000 in
theorem l2Told_any (d : Nat) (S : Nat → Prop) (t : Tr (d + 1)) (v : Value) (w : World) (hv : ValAt S w (d + 1) t v) (hS : Within S w) (hsm : (nodes (d + 1) t : Int) ≤ 4194304) :
    Calls Tryz.prog 40 #[v] w (SpecQ d (toldT d t) (okT (d + 1) t) w) := by
  have hv0 := hv
  obtain ⟨k, n, s, ak, lk, ck, al, ll, cl, rfl⟩ := hv.shape
  obtain ⟨W0, hW⟩ : ∃ W0, W0 = (w.alloc (.cells #[.int .i64 k, .int .i64 n, .string s, .slice ak lk ck, .slice al ll cl] 26)).alloc (.cells #[.int .i64 0, .int .i64 0, .string { data := #[] }, .slice none 0 0, .slice none 0 0] 26) := ⟨_, rfl⟩
  have hW0 : Below w.heap.size w W0 := by rw [hW]; exact below_trans (below_alloc1 _ _) (below_alloc1 _ _)
  have k0 : Blk5 W0 w.heap.size 26 (.int .i64 k) (.int .i64 n) (.string s) (.slice ak lk ck) (.slice al ll cl) := by
    rw [hW]; exact (Blk5.new w 26 _ _ _ _ _).alloc _
  have k1 : Blk5 W0 (w.heap.size + 1) 26 (.int .i64 0) (.int .i64 0) (.string { data := #[] }) (.slice none 0 0) (.slice none 0 0) := by
    have := Blk5.new (w.alloc (.cells #[.int .i64 k, .int .i64 n, .string s, .slice ak lk ck, .slice al ll cl] 26)) 26 (.int .i64 0) (.int .i64 0) (.string { data := #[] }) (.slice none 0 0) (.slice none 0 0)
    rw [World.size_alloc] at this
    rw [hW]
    exact this
  have HW := hide hW
  clear hW hv
  go_enter Tryz.func40, Tryz.ntmps40
  go_wp2_with fail
  rw [← HW.out]
  clear HW
  refine (specValOk_any (d + 1) S t _ W0 (hv0.same (hS.same hW0)) (hS.later hW0.size) hsm).mono ?_
  rintro e w1 ⟨rfl, hb1⟩
  replace k0 := k0.below hb1
  replace k1 := k1.below hb1
  have hB1 := below_trans hW0 hb1
  obtain ⟨x0, x1, x2, x3, x4⟩ := k0.cell
  have hlt := k1.lt
  clear hb1 hW0
  cases hf : okT (d + 1) t with
  | false =>
    have hz : Hid (toldT d t = zeroT d) := by
      show toldT d t = _
      rw [toldT, hf]
      rfl
    have hno : Hid (∀ wF, wF = set5 w1 (w.heap.size + 1) 0 (.int .i64 0) (.int .i64 0) (.string { data := #[] }) (.slice none 0 0) (.slice none 0 0) → Below w.heap.size w wF) := by
      intro wF hF
      rw [hF]
      exact below_set5 hB1 (by omega) _ _ _ _ _ _
    obtain ⟨y0, y1, y2, y3, y4⟩ := k1.cell
    have yf := k1.frozen
    clear k0 k1 hB1 hv0
    go_wp2_with fail
    rw [hz.out, hf]
    refine bodyPost_ret (v := .tuple #[zeroVal, .bool false]) (by simp [results, Tryz.results40, go_sem, zeroVal, y0, y1, y2, y3, y4]; rfl) rfl ⟨_, rfl, zeroAt d _ _, hno.out _ rfl⟩
  | true =>
    have hz : Hid (toldT d t = t) := by
      show toldT d t = _
      rw [toldT, hf]
      rfl
    have hwt := wtT_ok hf
    go_wp2_with fail
    refine (l1Copy_any (d + 1) S t _ w1 (hv0.same (hS.same hB1)) (hS.later hB1.size) (by omega)).mono ?_
    rintro e w3 ⟨u, rfl, hu3, hb3⟩
    obtain ⟨u0, u1, u2, u3, u4, u5, u6, u7, u8, rfl⟩ := (ValOwn.at _ _ _ _ hu3).shape
    have HF := hide (tell_end hu3 (below_trans hB1 hb3) (by omega) hlt)
    have k3 := k1.below hb3
    clear hu3 hb3 k1 k0 hv0 x0 x1 x2 x3 x4
    obtain ⟨y0, y1, y2, y3, y4⟩ := k3.cell
    have yf := k3.frozen
    clear k3
    go_wp2_with fail
    rw [hz.out, hf]
    refine bodyPost_ret (v := .tuple #[.agg #[.int .i64 u0, .int .i64 u1, .string u2, .slice u3 u4 u5, .slice u6 u7 u8], .bool true]) (by simp [results, Tryz.results40, go_sem, y0, y1, y2, y3, y4]) rfl ⟨_, rfl, ValOwn.at _ _ _ _ (HF.out _ rfl).1, (HF.out _ rfl).2⟩
end Go.Proofs.YtoangpfmjohhmaaGreatDoor

/- append of trees onto a row of nothing. -/
namespace Go.Proofs.YtoangpfmjohhmaaGreatDoor
open Go.RowKit Go.Deep

/-- An append, as one step of a region in its order. -/
theorem wpList_append_run {P : Program} {ops : Array Oper} {rest : List Oper} {o : Oper} {a : Act} {w : World} {Q : Exit → Act → World → Prop} (Φ : Value → World → Prop) (hgd : o.guard = none) (s x : Operand) (t : TypeId)
    (ho : o.op = .call { callee := .builtin .append, args := #[s, x], argTypes := #[t, t] }) (vs vx : Value) (hs : a.eval s = vs) (hx : a.eval x = vx)
    (hrun : ∃ v' w', (Builtin.append_ #[t, t] o.type #[vs, vx]).run P w = .ok v' w' ∧ Φ v' w') (h : ∀ v' w', Φ v' w' → wpList P ops Q rest (a.put o.dst v') w') :
    wpList P ops Q (o :: rest) a w := by
  refine wpList_plain hgd fun K hK => ?_
  obtain ⟨v', w', hr, h2⟩ := hrun
  unfold Oper.wp execOp
  simp only [ho, resolve, invoke, builtin, Sem.run_bind, Sem.run_pure, Result.andThen_ok, List.map_toArray, List.map_cons, List.map_nil, hs, hx, hr]
  exact hK _ _ (h v' w' h2)

theorem Tryz.infoV2 : (Tryz.prog.info? 26).map (fun i => (i.zero, i.size, i.bytes)) = some (some zeroVal, 5, 80) := by kernel_rfl

/-- Trees, copied behind nothing: the cells alone. -/
theorem run_append_vals {d : Nat} (S : Nat → Prop) (xs : List (Tr d)) (al : Option Addr) (cl g : Nat) (ty : TypeId) (w : World) (hg : w.heap[g]? = some (.cells #[] 26 (0, 0))) (hv : RowAt S w (ValAt S w d) (.slice al xs.length cl) xs) (hSg : ¬ S g) (hS : Within S w) (hsm : xs.length ≤ 4194304) :
    ∃ v' w', (Builtin.append_ #[24, 24] ty #[.slice (some ⟨g, 0, none⟩) 0 0, .slice al xs.length cl]).run Tryz.prog w = .ok v' w' ∧
      ((∃ vs, VTo S g w' v' xs vs) ∧ w.grownBy w' (some g) ∧ ∃ a c, v' = .slice a xs.length c) := by
  obtain ⟨i0, hi, hz0, hz1, hz2⟩ := info_parts Tryz.infoV2
  have hgl := (Array.getElem?_eq_some_iff.1 hg).1
  have hu : Tryz.prog.underlying 24 = some (.slice 26) := Tryz.underlying24
  have hown : w.ownsRow g 26 5 (.slice (some ⟨g, 0, none⟩) 0 0) 0 [] := ⟨by simp, .inr ⟨g, 0, #[], rfl, Nat.le_refl _, hg, Nat.le_refl _, Nat.zero_le _, by simp, by simp⟩⟩
  by_cases h0 : xs = []
  · subst h0
    refine ⟨.slice (some ⟨g, 0, none⟩) 0 0, w, ?_, ⟨[], hown, fun j x h => by simp at h⟩, ⟨rfl, rfl, rfl, Nat.le_refl _, fun _ _ _ => rfl⟩, _, _, rfl⟩
    cases al with
    | none => simp [Builtin.append_, run_underlying hu, sizeOf, typeInfo, hi, Builtin.lenOf, Builtin.firstCells, loadCells, loadCellsFrom, storeCells, Result.andThen, hz1]
    | some a => simp [Builtin.append_, run_underlying hu, sizeOf, typeInfo, hi, Builtin.lenOf, Builtin.firstCells, loadCells, loadCellsFrom, storeCells, Result.andThen, hz1]
  · have hpos : 0 < xs.length := List.length_pos_iff.2 h0
    obtain ⟨b, o, _, _, _, _, _, _, rfl, hbS, _⟩ := hv.cell hpos
    have hcell : ∀ i x, xs[i]? = some x → ∃ c0 c1 c2 c3 c4, w.cell? ⟨b, o + i * 5, none⟩ = some c0 ∧ w.cell? ⟨b, o + i * 5 + 1, none⟩ = some c1 ∧ w.cell? ⟨b, o + i * 5 + 2, none⟩ = some c2 ∧ w.cell? ⟨b, o + i * 5 + 3, none⟩ = some c3 ∧ w.cell? ⟨b, o + i * 5 + 4, none⟩ = some c4 ∧ ValAt S w d x (.agg #[c0, c1, c2, c3, c4]) := by
      intro i x hx
      obtain ⟨b', o', x', c0, c1, c2, c3, c4, e', _, hx', e0, e1, e2, e3, e4, hval⟩ := hv.cell (List.getElem?_eq_some_iff.1 hx).1
      cases e'
      rw [hx] at hx'
      cases hx'
      exact ⟨c0, c1, c2, c3, c4, e0, e1, e2, e3, e4, hval⟩
    obtain ⟨news, hnl, hnews⟩ : ∃ news : List Value, news.length = xs.length * 5 ∧ ∀ j, j < xs.length * 5 → ∃ u, news[j]? = some u ∧ w.cell? ⟨b, o + j, none⟩ = some u := by
      refine ⟨(List.range (xs.length * 5)).map (fun j => (w.cell? ⟨b, o + j, none⟩).getD undef), by simp, fun j hj => ?_⟩
      have hq : j / 5 < xs.length := by omega
      obtain ⟨c0, c1, c2, c3, c4, e0, e1, e2, e3, e4, _⟩ := hcell (j / 5) _ (List.getElem?_eq_getElem hq)
      have hex : ∃ u, w.cell? ⟨b, o + j, none⟩ = some u := by
        rcases (by omega : j = j / 5 * 5 ∨ j = j / 5 * 5 + 1 ∨ j = j / 5 * 5 + 2 ∨ j = j / 5 * 5 + 3 ∨ j = j / 5 * 5 + 4) with e | e | e | e | e
        · exact ⟨c0, by rw [e]; exact e0⟩
        · exact ⟨c1, by rw [e, ← Nat.add_assoc]; exact e1⟩
        · exact ⟨c2, by rw [e, ← Nat.add_assoc]; exact e2⟩
        · exact ⟨c3, by rw [e, ← Nat.add_assoc]; exact e3⟩
        · exact ⟨c4, by rw [e, ← Nat.add_assoc]; exact e4⟩
      obtain ⟨u, hu⟩ := hex
      exact ⟨u, by simp [hj, hu], hu⟩
    have hone : ∀ u ∈ news, u.oneCell' = true := by
      intro u hu
      obtain ⟨j, hj⟩ := List.getElem?_of_mem hu
      have hjl := (List.getElem?_eq_some_iff.1 hj).1
      obtain ⟨u', hu', hc⟩ := hnews j (by omega)
      rw [hj] at hu'
      cases hu'
      have hq : j / 5 < xs.length := by omega
      obtain ⟨c0, c1, c2, c3, c4, e0, e1, e2, e3, e4, hval⟩ := hcell (j / 5) _ (List.getElem?_eq_getElem hq)
      obtain ⟨q0, q1, q2, q3, q4, q5, q6, q7, q8, hq⟩ := hval.shape
      cases hq
      rcases (by omega : j = j / 5 * 5 ∨ j = j / 5 * 5 + 1 ∨ j = j / 5 * 5 + 2 ∨ j = j / 5 * 5 + 3 ∨ j = j / 5 * 5 + 4) with e | e | e | e | e
      · rw [e, e0] at hc; cases hc; rfl
      · rw [e, ← Nat.add_assoc, e1] at hc; cases hc; rfl
      · rw [e, ← Nat.add_assoc, e2] at hc; cases hc; rfl
      · rw [e, ← Nat.add_assoc, e3] at hc; cases hc; rfl
      · rw [e, ← Nat.add_assoc, e4] at hc; cases hc; rfl
    have hadd : ∀ j, (⟨b, o, none⟩ : Addr).add j = ⟨b, o + j, none⟩ := fun j => by unfold Addr.add; split <;> simp_all
    obtain ⟨v', w', hr, ho, hgr, _, hat⟩ := run_append_own_at (P := Tryz.prog) w g 24 ty 26 i0 zeroVal 5 80 hu hi hz0 hz1 hz2 rfl (by decide) _ 0 [] hown ⟨b, o, none⟩ xs.length cl news hnl
      (fun j u hj => by rw [hadd]; obtain ⟨u', h1, h2⟩ := hnews j (by have := (List.getElem?_eq_some_iff.1 hj).1; omega); rw [hj] at h1; cases h1; exact h2) hone (by unfold maxLen; omega) (by omega) (by omega)
    rw [Nat.zero_add, List.nil_append] at ho
    have hsh : ∃ a c, v' = .slice a xs.length c := by
      rcases ho.2 with ⟨_, h⟩ | ⟨g', c', cur, e, _⟩
      · omega
      · exact ⟨_, _, e⟩
    have hsame : Same S w w' := fun c hc => hgr.block c (hS c hc) (fun e => by cases e; exact hSg hc)
    refine ⟨v', w', hr, ⟨news, ho, fun j x hx => ?_⟩, hgr, hsh⟩
    obtain ⟨c0, c1, c2, c3, c4, e0, e1, e2, e3, e4, hval⟩ := hcell j x hx
    have hjl := (List.getElem?_eq_some_iff.1 hx).1
    have hn : ∀ m c, m < xs.length * 5 → w.cell? ⟨b, o + m, none⟩ = some c → news[m]? = some c := fun m c hm hc => by
      obtain ⟨u, h1, h2⟩ := hnews m hm
      rw [hc] at h2
      cases h2
      exact h1
    exact ⟨c0, c1, c2, c3, c4, hn _ _ (by omega) e0, hn _ _ (by omega) (by rw [← Nat.add_assoc]; exact e1), hn _ _ (by omega) (by rw [← Nat.add_assoc]; exact e2), hn _ _ (by omega) (by rw [← Nat.add_assoc]; exact e3), hn _ _ (by omega) (by rw [← Nat.add_assoc]; exact e4), hval.same hsame⟩
end Go.Proofs.YtoangpfmjohhmaaGreatDoor

/- Rows of the model: l4Row, l4Of. -/
namespace Go.Proofs.YtoangpfmjohhmaaGreatDoor
open Go.RowKit Go.Deep

theorem treesL_isSome {d : Nat} (t : Tr (d + 1)) : (treesL d t).isSome = (okT (d + 1) t && (Nd.kind t == 5)) := by
  unfold treesL
  cases okT (d + 1) t with
  | false => rfl
  | true =>
    rw [if_pos rfl]
    by_cases h : Nd.kind t = 5
    · rw [if_pos h]; simp [h]
    · rw [if_neg h]; simp [h]

set_option maxRecDepth 100000 in
set_option maxHeartbeats 1000000 in
theorem l4Row_any (d : Nat) (S : Nat → Prop) (t : Tr (d + 1)) (v : Value) (w : World) (hv : ValAt S w (d + 1) t v) (hS : Within S w) (hsm : (nodes (d + 1) t : Int) ≤ 4194304) :
    Calls Tryz.prog 68 #[v] w fun e w' => e = .returned (.bool (treesL d t).isSome) ∧ Below w.heap.size w w' := by
  rw [treesL_isSome]
  have hv0 := hv
  obtain ⟨vk, vl, rfl, i1, i2, i3, hk, hl⟩ := hv
  obtain ⟨ak, ck, rfl, hkl⟩ := hk.open'
  obtain ⟨al, cl, rfl, hll⟩ := hl.open'
  have hA := below_alloc1 w (.cells #[.int .i64 t.kind, .int .i64 t.num, .string t.str, .slice ak t.keys.length ck, .slice al t.list.length cl] 26)
  have k0 := Blk5.new w 26 (.int .i64 t.kind) (.int .i64 t.num) (.string t.str) (.slice ak t.keys.length ck) (.slice al t.list.length cl)
  go_enter Tryz.func68, Tryz.ntmps68
  go_wp2_with fail
  refine (specValOk_any (d + 1) S t _ _ (hv0.same (hS.same hA)) (hS.later hA.size) hsm).mono ?_
  rintro e w1 ⟨rfl, hb1⟩
  replace k0 := k0.below hb1
  have HB := hide (below_trans hA hb1)
  obtain ⟨x0, x1, x2, x3, x4⟩ := k0.cell
  clear hb1 hA hv0 hk hl k0
  cases hf : okT (d + 1) t with
  | false =>
    go_wp2_with fail
    go_ret
    exact ⟨by rw [hf]; rfl, HB.out⟩
  | true =>
    go_wp2_with fail
    go_ret
    exact ⟨by rw [hf]; rfl, HB.out⟩

/-- A row of the model's, made out of trees that lie elsewhere, as a tree. -/
theorem rowV_at {d N : Nat} {S : Nat → Prop} {w w' : World} {lv : Value} {xs : List (Tr d)} {vs : List Value} (h : VTo S N w lv xs vs) (hl : xs.length ≤ 100000) (hb : Below w.heap.size w w') (hS : Within S w) :
    ValAt (fun b => S b ∨ (N ≤ b ∧ b < w'.heap.size)) w' (d + 1) (rowT d xs) (.agg #[.int .i64 5, .int .i64 0, .string ByteArray.empty, .slice none 0 0, lv]) := by
  have hz := hb.size
  have hrow := h.at (by omega)
  have hmv : Same (fun b => S b ∨ (N ≤ b ∧ b < w.heap.size)) w w' := fun b hb' => hb.block b (by rcases hb' with h | h; exact hS b h; exact h.2)
  have hin : ∀ b, (S b ∨ (N ≤ b ∧ b < w.heap.size)) → (S b ∨ (N ≤ b ∧ b < w'.heap.size)) := fun b hb' => by
    rcases hb' with h | h
    · exact Or.inl h
    · exact Or.inr ⟨h.1, by omega⟩
  exact ⟨_, _, rfl, ⟨by show _ ≤ (5 : Int); omega, by show (5 : Int) ≤ _; omega⟩, ⟨by show _ ≤ (0 : Int); omega, by show (0 : Int) ≤ _; omega⟩, by show (0 : Nat) < _; omega, ⟨by show (0 : Nat) < _; omega, (fun s hs => by cases hs), none, 0, rfl, Or.inl rfl⟩, hrow.moved hmv hin (fun y u hy => ValAt.moved hmv hin _ y u hy)⟩
/-- A row's value is a slice of just so many. -/
theorem VTo.slice {d N : Nat} {S : Nat → Prop} {w : World} {lv : Value} {xs : List (Tr d)} {vs : List Value} (h : VTo S N w lv xs vs) : ∃ a c, lv = .slice a xs.length c := by
  rcases h.1.2 with ⟨rfl, h0⟩ | ⟨g, cap, cur, rfl, _⟩
  · exact ⟨none, 0, by rw [h0]⟩
  · exact ⟨_, _, rfl⟩
/-- A row of nothing, as it is made. -/
theorem VTo.start {d : Nat} (S : Nat → Prop) (w : World) : VTo (d := d) S w.heap.size (w.alloc (.cells #[] 26)) (.slice (some ⟨w.heap.size, 0, none⟩) 0 0) [] [] :=
  ⟨⟨rfl, Or.inr ⟨w.heap.size, 0, #[], rfl, Nat.le_refl _, heap_alloc_new w _, Nat.le_refl _, Nat.zero_le _, rfl, rfl⟩⟩, fun j x h => by simp at h⟩
/-- One tree more, from elsewhere. -/
theorem VTo.push {d N : Nat} {S : Nat → Prop} {w1 wr w2 : World} {lv lv' : Value} {xs : List (Tr d)} {vs : List Value} {x : Tr d} {v0 v1 v2 v3 v4 : Value} {o : Obj} (h : VTo S N wr lv xs vs) (hS : ∀ b, S b → b < N) (hN : N ≤ wr.heap.size) (hb : Below N w1 wr) (hx : ValAt S wr d x (.agg #[v0, v1, v2, v3, v4]))
    (hown : w2.ownsRow N 26 5 lv' (xs.length + 1) (vs ++ [v0, v1, v2, v3, v4])) (hg : (wr.alloc o).grownBy w2 lv.ownBlock) : VTo S N w2 lv' (xs ++ [x]) (vs ++ [v0, v1, v2, v3, v4]) ∧ Below N w1 w2 ∧ N ≤ w2.heap.size := by
  have hz : (wr.alloc o).heap.size = wr.heap.size + 1 := by simp
  have hs2 := hg.size
  have hrow : ∀ g, lv.ownBlock = some g → N ≤ g := fun g hg' => (h.1.lt g hg').1
  have hblk : ∀ b, b < N → w2.heap[b]? = wr.heap[b]? := fun b hb' => (hg.block b (by omega) (fun e => by have := hrow b e.symm; omega)).trans (Below.heap_alloc _ _ _ (by omega))
  refine ⟨h.grow (fun b hb' => hblk b (hS b hb')) hx hown, ⟨hg.os.trans hb.os, hg.tape.trans hb.tape, hg.output.trans hb.output, ?_, fun b hb' => (hblk b hb').trans (hb.block b hb')⟩, by omega⟩
  have := hb.size
  omega
end Go.Proofs.YtoangpfmjohhmaaGreatDoor

/- l4Of of the model. -/
namespace Go.Proofs.YtoangpfmjohhmaaGreatDoor
open Go.RowKit Go.Deep

end Go.Proofs.YtoangpfmjohhmaaGreatDoor

/- A tree as one that may be one deeper. -/
namespace Go.Proofs.YtoangpfmjohhmaaGreatDoor
open Go.RowKit Go.Deep

/-- The same tree, as one that may be one deeper. -/
def up : (d : Nat) → Tr d → Tr (d + 1)
  | 0, t => Empty.elim t
  | d + 1, t => (Nd.mk (Nd.kind t) (Nd.num t) (Nd.str t) (Nd.keys t) ((Nd.list t).map (up d)) : Nd (Tr (d + 1)))

theorem all_up {d : Nat} {list : List (Tr d)} {deep : Int} (h : ∀ x, formT (d + 1) (up d x) deep = formT d x deep) : (list.map (up d)).all (fun x => formT (d + 1) x deep) = list.all (fun x => formT d x deep) := by
  rw [List.all_map]
  congr 1
  funext x
  exact h x
theorem formT_lift : ∀ (d : Nat) (t : Tr d) (deep : Int), formT (d + 1) (up d t) deep = formT d t deep
  | 0, t, _ => Empty.elim t
  | d + 1, t, deep => by
    obtain ⟨kind, num, str, keys, list⟩ := t
    have ha := all_up (list := list) (fun x => formT_lift d x (deep - 1))
    have hl : (list.map (up d)).length = list.length := List.length_map ..
    show formT (d + 2) (Nd.mk kind num str keys (list.map (up d)) : Nd (Tr (d + 1))) deep = _
    cases hb : headBad kind num str keys.length list.length deep with
    | true => rw [formT_bad hb, formT_bad (by rw [hl]; exact hb)]
    | false => rw [formT_good hb, formT_good (by rw [hl]; exact hb), hl, ha]
theorem manyT_lift : ∀ (d : Nat) (t : Tr d) (deep : Int), manyT (d + 1) (up d t) deep = manyT d t deep
  | 0, t, _ => Empty.elim t
  | d + 1, t, deep => by
    obtain ⟨kind, num, str, keys, list⟩ := t
    show 1 + (if 0 < deep then ((list.map (up d)).map (fun x => manyT (d + 1) x (deep - 1))).sum else 0) = 1 + (if 0 < deep then (list.map (fun x => manyT d x (deep - 1))).sum else 0)
    rw [List.map_map]
    have h := sum_map_eq (f := (fun x => manyT (d + 1) x (deep - 1)) ∘ up d) (g := fun x => manyT d x (deep - 1)) list (fun x _ => manyT_lift d x (deep - 1))
    rw [h]
theorem okT_lift (d : Nat) (t : Tr d) : okT (d + 1) (up d t) = okT d t := by
  unfold okT
  rw [formT_lift, manyT_lift]
theorem up_zero (d : Nat) : up (d + 1) (zeroT d) = zeroT (d + 1) := rfl

theorem RowAt.up {α β : Type} {S : Nat → Prop} {w : World} {At : α → Value → Prop} {At' : β → Value → Prop} {v : Value} {xs : List α} (f : α → β) (h : RowAt S w At v xs) (hi : ∀ x u, At x u → At' (f x) u) : RowAt S w At' v (xs.map f) := by
  obtain ⟨h1, a, cap, hv, h3⟩ := h
  refine ⟨by rw [List.length_map]; exact h1, a, cap, by rw [List.length_map]; exact hv, ?_⟩
  rcases h3 with h3 | ⟨b, o, hB, ha, hc⟩
  · exact Or.inl (by rw [h3]; rfl)
  · refine Or.inr ⟨b, o, hB, ha, fun i x hx => ?_⟩
    rw [List.getElem?_map] at hx
    obtain ⟨y, hy, rfl⟩ := Option.map_eq_some_iff.1 hx
    obtain ⟨c0, c1, c2, c3, c4, e0, e1, e2, e3, e4, e5⟩ := hc i y hy
    exact ⟨c0, c1, c2, c3, c4, e0, e1, e2, e3, e4, hi _ _ e5⟩
theorem ValAt.up {S : Nat → Prop} {w : World} : ∀ (d : Nat) (t : Tr d) (v : Value), ValAt S w d t v → ValAt S w (d + 1) (up d t) v
  | 0, _, _, h => h.elim
  | d + 1, t, v, h => by
    obtain ⟨vk, vl, hv, i1, i2, i3, hk, hl⟩ := h
    exact ⟨vk, vl, hv, i1, i2, i3, hk, hl.up (At' := ValAt S w (d + 1)) _ (fun x u hx => ValAt.up d x u hx)⟩
theorem RowOwn.up {α β : Type} {w : World} {At : (Nat → Prop) → α → Value → Prop} {At' : (Nat → Prop) → β → Value → Prop} {S : Nat → Prop} {v : Value} {xs : List α} (f : α → β) (h : RowOwn w At S v xs) (hi : ∀ P x u, At P x u → At' P (f x) u) : RowOwn w At' S v (xs.map f) := by
  obtain ⟨h1, a, cap, hv, h3⟩ := h
  refine ⟨by rw [List.length_map]; exact h1, a, cap, by rw [List.length_map]; exact hv, ?_⟩
  rcases h3 with h3 | ⟨b, n, g, P, hB, ha, hl, hr, hP, hd, hc⟩
  · exact Or.inl (by rw [h3]; rfl)
  · refine Or.inr ⟨b, n, g, P, hB, ha, by rw [List.length_map]; exact hl, hr, hP, hd, fun i x hx => ?_⟩
    rw [List.getElem?_map] at hx
    obtain ⟨y, hy, rfl⟩ := Option.map_eq_some_iff.1 hx
    exact hi _ _ _ (hc i y hy)
theorem ValOwn.up {w : World} : ∀ (d : Nat) (S : Nat → Prop) (t : Tr d) (v : Value), ValOwn w d S t v → ValOwn w (d + 1) S (up d t) v
  | 0, _, _, _, h => h.elim
  | d + 1, S, t, v, h => by
    obtain ⟨vk, vl, Sk, Sl, hv, i1, i2, i3, hk, hl, s1, s2, s3⟩ := h
    exact ⟨vk, vl, Sk, Sl, hv, i1, i2, i3, hk, hl.up (At' := fun P x u => ValOwn w (d + 1) P x u) _ (fun P x u hx => ValOwn.up d P x u hx), s1, s2, s3⟩
end Go.Proofs.YtoangpfmjohhmaaGreatDoor

/- RowFlat: the flat row; whole rows appended. -/
namespace Go.Proofs.YtoangpfmjohhmaaGreatDoor
open Go.RowKit Go.Deep

/-- What a tree of a row gives to the flat row. -/
def flat1 (d : Nat) (x : Tr (d + 1)) : List (Tr (d + 1)) := if Nd.kind x = 5 then (Nd.list x).map (up d) else [x]
def flatL (d : Nat) (xs : List (Tr (d + 1))) : List (Tr (d + 1)) := xs.flatMap (flat1 d)
def flatF (d : Nat) (xs : List (Tr (d + 1))) : Option (Tr (d + 2)) := some (rowT (d + 1) (flatL d xs))
theorem flat1_row {d : Nat} {x : Tr (d + 1)} (h : Nd.kind x = 5) : flat1 d x = (Nd.list x).map (up d) := if_pos h
theorem flat1_one {d : Nat} {x : Tr (d + 1)} (h : Nd.kind x ≠ 5) : flat1 d x = [x] := if_neg h
theorem flatL_step {d : Nat} {xs : List (Tr (d + 1))} {k : Nat} {x : Tr (d + 1)} (h : xs[k]? = some x) : flatL d (xs.take (k + 1)) = flatL d (xs.take k) ++ flat1 d x := by
  obtain ⟨hk, e⟩ := List.getElem?_eq_some_iff.1 h
  unfold flatL
  rw [List.take_succ_eq_append_getElem hk, List.flatMap_append, e]
  simp
theorem flat1_len {d : Nat} (x : Tr (d + 1)) : (flat1 d x).length ≤ manyT (d + 1) x 5 := by
  have hm : manyT (d + 1) x 5 = 1 + ((Nd.list x).map (fun y => manyT d y (5 - 1))).sum := rfl
  have h1 := len_le_many (d := d) (deep := 5 - 1) (Nd.list x)
  unfold flat1
  split
  · rw [List.length_map]; omega
  · rw [List.length_singleton]; omega
theorem flatL_len {d : Nat} : ∀ (xs : List (Tr (d + 1))), (flatL d xs).length ≤ (xs.map (fun x => manyT (d + 1) x 5)).sum
  | [] => Nat.le_refl _
  | x :: r => by
    have h1 := flat1_len x
    have h2 := flatL_len r
    unfold flatL at h2 ⊢
    rw [List.flatMap_cons, List.length_append, List.map_cons, List.sum_cons]
    omega
theorem flat_len {d : Nat} {t : Tr (d + 2)} (h : okT (d + 2) t = true) : (flatL d (Nd.list t)).length ≤ 60 := by
  have hm := (okT_form h).2
  have hmm : manyT (d + 2) t 6 = 1 + ((Nd.list t).map (fun x => manyT (d + 1) x 5)).sum := rfl
  have := flatL_len (d := d) (Nd.list t)
  omega
theorem flat_take {d : Nat} (xs : List (Tr (d + 1))) (k : Nat) : (flatL d (xs.take k)).length ≤ (flatL d xs).length := by
  have h : flatL d xs = flatL d (xs.take k) ++ flatL d (xs.drop k) := by
    unfold flatL
    rw [← List.flatMap_append, List.take_append_drop]
  rw [h, List.length_append]
  omega
theorem flat_ok {d : Nat} {xs : List (Tr (d + 1))} (h : ∀ x ∈ xs, okT (d + 1) x = true) : ∀ y ∈ flatL d xs, okT (d + 1) y = true := by
  intro y hy
  obtain ⟨x, hx, hy⟩ := List.mem_flatMap.1 hy
  unfold flat1 at hy
  split at hy
  · obtain ⟨z, hz, rfl⟩ := List.mem_map.1 hy
    rw [okT_lift]
    exact okT_part (h x hx) hz
  · rw [List.mem_singleton.1 hy]
    exact h x hx

/-- A tree's kind and list, out of its five cells. -/
theorem ValAt.parts {S : Nat → Prop} {w : World} {d : Nat} {t : Tr (d + 1)} {k n : Int} {s : ByteArray} {ak al : Option Addr} {lk ck ll cl : Nat} (h : ValAt S w (d + 1) t (.agg #[.int .i64 k, .int .i64 n, .string s, .slice ak lk ck, .slice al ll cl])) :
    k = Nd.kind t ∧ ll = (Nd.list t).length ∧ RowAt S w (ValAt S w d) (.slice al ll cl) (Nd.list t) := by
  obtain ⟨vk, vl, hv, i1, i2, i3, hk, hl⟩ := h
  obtain ⟨a, c, rfl, _⟩ := hl.open'
  simp at hv
  obtain ⟨rfl, _, _, _, rfl, rfl, rfl⟩ := hv
  exact ⟨rfl, rfl, hl⟩

/-- Nothing, appended. -/
theorem run_append_none {t e ty : TypeId} {i : TypeInfo} {size : Nat} (hu : Tryz.prog.underlying t = some (.slice e)) (hi : Tryz.prog.info? e = some i) (hz : i.size = size) (w : World) {N n : Nat} {v : Value} {xs : List Value} (h : w.ownsRow N e size v n xs) :
    (Builtin.append_ #[t, t] ty #[v, .slice none 0 0]).run Tryz.prog w = .ok v w := by
  rcases h.2 with ⟨rfl, _⟩ | ⟨g, cap, cur, rfl, _, _, hle, _⟩
  · simp [Builtin.append_, run_underlying hu, sizeOf, typeInfo, hi, Builtin.lenOf, Builtin.firstCells, Result.andThen, hz]
  · simp [Builtin.append_, run_underlying hu, sizeOf, typeInfo, hi, Builtin.lenOf, Builtin.firstCells, loadCells, storeCells, Result.andThen, hz, hle]

/-- Trees of the model's, appended behind others. -/
theorem run_append_onto_vals {d N : Nat} {S : Nat → Prop} {w : World} {lv : Value} {xs : List (Tr d)} {vs : List Value} (h : VTo S N w lv xs vs) (hSN : ∀ b, S b → b < N) (hN : N ≤ w.heap.size) (ys : List (Tr d)) (al : Option Addr) (cl n : Nat) (ty : TypeId) (hn : n = ys.length) (hv : RowAt S w (ValAt S w d) (.slice al n cl) ys) (hsm : xs.length + ys.length ≤ 100000) :
    ∃ v' w', (Builtin.append_ #[24, 24] ty #[lv, .slice al n cl]).run Tryz.prog w = .ok v' w' ∧ ((∃ vs', VTo S N w' v' (xs ++ ys) vs') ∧ w.grownBy w' lv.ownBlock ∧ ∃ a c, v' = .slice a (xs.length + ys.length) c) := by
  subst hn
  obtain ⟨i0, hi, hz0, hz1, hz2⟩ := info_parts Tryz.infoV2
  have hu : Tryz.prog.underlying 24 = some (.slice 26) := Tryz.underlying24
  have hform : ∃ a c, lv = .slice a xs.length c := h.slice
  by_cases h0 : ys = []
  · subst h0
    have hsame : ∃ v' w', (Builtin.append_ #[24, 24] ty #[lv, .slice al 0 cl]).run Tryz.prog w = .ok v' w' ∧ w'.ownsRow N 26 5 v' (xs.length + 0) (vs ++ []) ∧ w.grownBy w' lv.ownBlock := by
      cases al with
      | none =>
        obtain ⟨_, a', c', hv', _⟩ := hv
        cases hv'
        rcases Nat.eq_zero_or_pos cl with rfl | hcl
        · exact ⟨lv, w, run_append_none hu hi hz1 w h.1, by rw [List.append_nil]; exact h.1, ⟨rfl, rfl, rfl, Nat.le_refl _, fun _ _ _ => rfl⟩⟩
        · refine ⟨lv, w, ?_, by rw [List.append_nil]; exact h.1, ⟨rfl, rfl, rfl, Nat.le_refl _, fun _ _ _ => rfl⟩⟩
          rcases h.1.2 with ⟨rfl, _⟩ | ⟨g, cap, cur, rfl, _, _, hle, _⟩
          · simp [Builtin.append_, run_underlying hu, sizeOf, typeInfo, hi, Builtin.lenOf, Builtin.firstCells, Result.andThen, hz1]
          · simp [Builtin.append_, run_underlying hu, sizeOf, typeInfo, hi, Builtin.lenOf, Builtin.firstCells, storeCells, Result.andThen, hz1, hle]
      | some a =>
        obtain ⟨v', w', hr, ho, hgr, _⟩ := run_append_own_at (P := Tryz.prog) w N 24 ty 26 i0 zeroVal 5 80 hu hi hz0 hz1 hz2 rfl (by decide) lv xs.length vs h.1 a 0 cl [] rfl (fun j u hj => by simp at hj) (fun u hu => by simp at hu) (by unfold maxLen; omega) (by omega) hN
        exact ⟨v', w', hr, ho, hgr⟩
    obtain ⟨v', w', hr, ho, hgr⟩ := hsame
    rw [List.append_nil, Nat.add_zero] at ho
    have hs : Same S w w' := fun b hb => hgr.block b (Nat.lt_of_lt_of_le (hSN b hb) hN) (fun e => by have := (h.1.lt b e.symm).1; have := hSN b hb; omega)
    have hto : VTo S N w' v' (xs ++ []) vs := by
      rw [List.append_nil]
      exact ⟨ho, fun j x hx => by obtain ⟨c0, c1, c2, c3, c4, e0, e1, e2, e3, e4, hvx⟩ := h.2 j x hx; exact ⟨c0, c1, c2, c3, c4, e0, e1, e2, e3, e4, hvx.same hs⟩⟩
    obtain ⟨a, c, e⟩ := hto.slice
    rw [List.append_nil] at e
    exact ⟨v', w', hr, ⟨vs, hto⟩, hgr, a, c, e⟩
  · have hpos : 0 < ys.length := List.length_pos_iff.2 h0
    obtain ⟨b, o, _, _, _, _, _, _, rfl, hbS, _⟩ := hv.cell hpos
    have hcell : ∀ i x, ys[i]? = some x → ∃ c0 c1 c2 c3 c4, w.cell? ⟨b, o + i * 5, none⟩ = some c0 ∧ w.cell? ⟨b, o + i * 5 + 1, none⟩ = some c1 ∧ w.cell? ⟨b, o + i * 5 + 2, none⟩ = some c2 ∧ w.cell? ⟨b, o + i * 5 + 3, none⟩ = some c3 ∧ w.cell? ⟨b, o + i * 5 + 4, none⟩ = some c4 ∧ ValAt S w d x (.agg #[c0, c1, c2, c3, c4]) := by
      intro i x hx
      obtain ⟨b', o', x', c0, c1, c2, c3, c4, e', _, hx', e0, e1, e2, e3, e4, hval⟩ := hv.cell (List.getElem?_eq_some_iff.1 hx).1
      cases e'
      rw [hx] at hx'
      cases hx'
      exact ⟨c0, c1, c2, c3, c4, e0, e1, e2, e3, e4, hval⟩
    have hex : ∀ j, j < ys.length * 5 → ∃ u, w.cell? ⟨b, o + j, none⟩ = some u ∧ u.oneCell' = true := by
      intro j hj
      obtain ⟨c0, c1, c2, c3, c4, e0, e1, e2, e3, e4, hval⟩ := hcell (j / 5) _ (List.getElem?_eq_getElem (show j / 5 < ys.length by omega))
      obtain ⟨q0, q1, q2, q3, q4, q5, q6, q7, q8, hq⟩ := hval.shape
      cases hq
      rcases (by omega : j = j / 5 * 5 ∨ j = j / 5 * 5 + 1 ∨ j = j / 5 * 5 + 2 ∨ j = j / 5 * 5 + 3 ∨ j = j / 5 * 5 + 4) with e | e | e | e | e
      · exact ⟨_, by rw [e]; exact e0, rfl⟩
      · exact ⟨_, by rw [e, ← Nat.add_assoc]; exact e1, rfl⟩
      · exact ⟨_, by rw [e, ← Nat.add_assoc]; exact e2, rfl⟩
      · exact ⟨_, by rw [e, ← Nat.add_assoc]; exact e3, rfl⟩
      · exact ⟨_, by rw [e, ← Nat.add_assoc]; exact e4, rfl⟩
    obtain ⟨news, hnl, hnews⟩ : ∃ news : List Value, news.length = ys.length * 5 ∧ ∀ j, j < ys.length * 5 → ∃ u, news[j]? = some u ∧ w.cell? ⟨b, o + j, none⟩ = some u ∧ u.oneCell' = true := by
      refine ⟨(List.range (ys.length * 5)).map (fun j => (w.cell? ⟨b, o + j, none⟩).getD undef), by simp, fun j hj => ?_⟩
      obtain ⟨u, hu, h1⟩ := hex j hj
      exact ⟨u, by simp [hj, hu], hu, h1⟩
    have hone : ∀ u ∈ news, u.oneCell' = true := by
      intro u hu
      obtain ⟨j, hj⟩ := List.getElem?_of_mem hu
      have hjl := (List.getElem?_eq_some_iff.1 hj).1
      obtain ⟨u', hu', _, h1⟩ := hnews j (by omega)
      rw [hj] at hu'
      cases hu'
      exact h1
    have hadd : ∀ j, (⟨b, o, none⟩ : Addr).add j = ⟨b, o + j, none⟩ := fun j => by unfold Addr.add; split <;> simp_all
    obtain ⟨v', w', hr, ho, hgr, _, hat⟩ := run_append_own_at (P := Tryz.prog) w N 24 ty 26 i0 zeroVal 5 80 hu hi hz0 hz1 hz2 rfl (by decide) lv xs.length vs h.1 ⟨b, o, none⟩ ys.length cl news hnl
      (fun j u hj => by rw [hadd]; obtain ⟨u', h1, h2, _⟩ := hnews j (by have := (List.getElem?_eq_some_iff.1 hj).1; omega); rw [hj] at h1; cases h1; exact h2) hone (by unfold maxLen; omega) (by omega) hN
    have hsame : Same S w w' := fun c hc => hgr.block c (Nat.lt_of_lt_of_le (hSN c hc) hN) (fun e => by have := (h.1.lt c e.symm).1; have := hSN c hc; omega)
    have hlen : vs.length = xs.length * 5 := h.1.1
    have hto : VTo S N w' v' (xs ++ ys) (vs ++ news) := by
      refine ⟨by rw [List.length_append]; exact ho, fun j x hx => ?_⟩
      by_cases e : j < xs.length
      · rw [List.getElem?_append_left e] at hx
        obtain ⟨c0, c1, c2, c3, c4, e0, e1, e2, e3, e4, hvx⟩ := h.2 j x hx
        refine ⟨c0, c1, c2, c3, c4, ?_, ?_, ?_, ?_, ?_, hvx.same hsame⟩
        · rw [List.getElem?_append_left (by omega)]; exact e0
        · rw [List.getElem?_append_left (by omega)]; exact e1
        · rw [List.getElem?_append_left (by omega)]; exact e2
        · rw [List.getElem?_append_left (by omega)]; exact e3
        · rw [List.getElem?_append_left (by omega)]; exact e4
      · rw [List.getElem?_append_right (by omega)] at hx
        obtain ⟨c0, c1, c2, c3, c4, e0, e1, e2, e3, e4, hval⟩ := hcell _ x hx
        have hjl := (List.getElem?_eq_some_iff.1 hx).1
        have hn : ∀ m c, m < 5 → w.cell? ⟨b, o + ((j - xs.length) * 5 + m), none⟩ = some c → (vs ++ news)[j * 5 + m]? = some c := fun m c hm hc => by
          rw [List.getElem?_append_right (by omega), show j * 5 + m - vs.length = (j - xs.length) * 5 + m by omega]
          obtain ⟨u, h1, h2, _⟩ := hnews ((j - xs.length) * 5 + m) (by omega)
          rw [hc] at h2
          cases h2
          exact h1
        exact ⟨c0, c1, c2, c3, c4, hn 0 _ (by omega) e0, hn 1 _ (by omega) (by rw [← Nat.add_assoc]; exact e1), hn 2 _ (by omega) (by rw [← Nat.add_assoc]; exact e2), hn 3 _ (by omega) (by rw [← Nat.add_assoc]; exact e3), hn 4 _ (by omega) (by rw [← Nat.add_assoc]; exact e4), hval.same hsame⟩
    obtain ⟨a, c, e⟩ := hto.slice
    rw [List.length_append] at e
    exact ⟨v', w', hr, ⟨_, hto⟩, hgr, a, c, e⟩
end Go.Proofs.YtoangpfmjohhmaaGreatDoor

/- Trees of the model's, appended behind others, wherever these lie. -/
namespace Go.Proofs.YtoangpfmjohhmaaGreatDoor
open Go.RowKit Go.Deep

/-- Trees of the model's, appended behind others. -/
theorem run_append_onto_valsW {d N : Nat} {S : Nat → Prop} {w : World} {lv : Value} {xs : List (Tr d)} {vs : List Value} (h : VTo S N w lv xs vs) (hSN : ∀ b, S b → b < w.heap.size ∧ some b ≠ lv.ownBlock) (hN : N ≤ w.heap.size) (ys : List (Tr d)) (al : Option Addr) (cl n : Nat) (ty : TypeId) (hn : n = ys.length) (hv : RowAt S w (ValAt S w d) (.slice al n cl) ys) (hsm : xs.length + ys.length ≤ 100000) :
    ∃ v' w', (Builtin.append_ #[24, 24] ty #[lv, .slice al n cl]).run Tryz.prog w = .ok v' w' ∧ ((∃ vs', VTo S N w' v' (xs ++ ys) vs') ∧ w.grownBy w' lv.ownBlock ∧ (∃ a c, v' = .slice a (xs.length + ys.length) c) ∧ (v'.ownBlock = lv.ownBlock ∨ v'.ownBlock = some w.heap.size)) := by
  subst hn
  obtain ⟨i0, hi, hz0, hz1, hz2⟩ := info_parts Tryz.infoV2
  have hu : Tryz.prog.underlying 24 = some (.slice 26) := Tryz.underlying24
  have hform : ∃ a c, lv = .slice a xs.length c := h.slice
  by_cases h0 : ys = []
  · subst h0
    have hsame : ∃ v' w', (Builtin.append_ #[24, 24] ty #[lv, .slice al 0 cl]).run Tryz.prog w = .ok v' w' ∧ w'.ownsRow N 26 5 v' (xs.length + 0) (vs ++ []) ∧ w.grownBy w' lv.ownBlock ∧ (v'.ownBlock = lv.ownBlock ∨ v'.ownBlock = some w.heap.size) := by
      cases al with
      | none =>
        obtain ⟨_, a', c', hv', _⟩ := hv
        cases hv'
        rcases Nat.eq_zero_or_pos cl with rfl | hcl
        · exact ⟨lv, w, run_append_none hu hi hz1 w h.1, by rw [List.append_nil]; exact h.1, ⟨rfl, rfl, rfl, Nat.le_refl _, fun _ _ _ => rfl⟩, Or.inl rfl⟩
        · refine ⟨lv, w, ?_, by rw [List.append_nil]; exact h.1, ⟨rfl, rfl, rfl, Nat.le_refl _, fun _ _ _ => rfl⟩, Or.inl rfl⟩
          rcases h.1.2 with ⟨rfl, _⟩ | ⟨g, cap, cur, rfl, _, _, hle, _⟩
          · simp [Builtin.append_, run_underlying hu, sizeOf, typeInfo, hi, Builtin.lenOf, Builtin.firstCells, Result.andThen, hz1]
          · simp [Builtin.append_, run_underlying hu, sizeOf, typeInfo, hi, Builtin.lenOf, Builtin.firstCells, storeCells, Result.andThen, hz1, hle]
      | some a =>
        obtain ⟨v', w', hr, ho, hgr, _, hat⟩ := run_append_own_at (P := Tryz.prog) w N 24 ty 26 i0 zeroVal 5 80 hu hi hz0 hz1 hz2 rfl (by decide) lv xs.length vs h.1 a 0 cl [] rfl (fun j u hj => by simp at hj) (fun u hu => by simp at hu) (by unfold maxLen; omega) (by omega) hN
        exact ⟨v', w', hr, ho, hgr, hat⟩
    obtain ⟨v', w', hr, ho, hgr, hat⟩ := hsame
    rw [List.append_nil, Nat.add_zero] at ho
    have hs : Same S w w' := fun b hb => hgr.block b (hSN b hb).1 (hSN b hb).2
    have hto : VTo S N w' v' (xs ++ []) vs := by
      rw [List.append_nil]
      exact ⟨ho, fun j x hx => by obtain ⟨c0, c1, c2, c3, c4, e0, e1, e2, e3, e4, hvx⟩ := h.2 j x hx; exact ⟨c0, c1, c2, c3, c4, e0, e1, e2, e3, e4, hvx.same hs⟩⟩
    obtain ⟨a, c, e⟩ := hto.slice
    rw [List.append_nil] at e
    exact ⟨v', w', hr, ⟨vs, hto⟩, hgr, ⟨a, c, e⟩, hat⟩
  · have hpos : 0 < ys.length := List.length_pos_iff.2 h0
    obtain ⟨b, o, _, _, _, _, _, _, rfl, hbS, _⟩ := hv.cell hpos
    have hcell : ∀ i x, ys[i]? = some x → ∃ c0 c1 c2 c3 c4, w.cell? ⟨b, o + i * 5, none⟩ = some c0 ∧ w.cell? ⟨b, o + i * 5 + 1, none⟩ = some c1 ∧ w.cell? ⟨b, o + i * 5 + 2, none⟩ = some c2 ∧ w.cell? ⟨b, o + i * 5 + 3, none⟩ = some c3 ∧ w.cell? ⟨b, o + i * 5 + 4, none⟩ = some c4 ∧ ValAt S w d x (.agg #[c0, c1, c2, c3, c4]) := by
      intro i x hx
      obtain ⟨b', o', x', c0, c1, c2, c3, c4, e', _, hx', e0, e1, e2, e3, e4, hval⟩ := hv.cell (List.getElem?_eq_some_iff.1 hx).1
      cases e'
      rw [hx] at hx'
      cases hx'
      exact ⟨c0, c1, c2, c3, c4, e0, e1, e2, e3, e4, hval⟩
    have hex : ∀ j, j < ys.length * 5 → ∃ u, w.cell? ⟨b, o + j, none⟩ = some u ∧ u.oneCell' = true := by
      intro j hj
      obtain ⟨c0, c1, c2, c3, c4, e0, e1, e2, e3, e4, hval⟩ := hcell (j / 5) _ (List.getElem?_eq_getElem (show j / 5 < ys.length by omega))
      obtain ⟨q0, q1, q2, q3, q4, q5, q6, q7, q8, hq⟩ := hval.shape
      cases hq
      rcases (by omega : j = j / 5 * 5 ∨ j = j / 5 * 5 + 1 ∨ j = j / 5 * 5 + 2 ∨ j = j / 5 * 5 + 3 ∨ j = j / 5 * 5 + 4) with e | e | e | e | e
      · exact ⟨_, by rw [e]; exact e0, rfl⟩
      · exact ⟨_, by rw [e, ← Nat.add_assoc]; exact e1, rfl⟩
      · exact ⟨_, by rw [e, ← Nat.add_assoc]; exact e2, rfl⟩
      · exact ⟨_, by rw [e, ← Nat.add_assoc]; exact e3, rfl⟩
      · exact ⟨_, by rw [e, ← Nat.add_assoc]; exact e4, rfl⟩
    obtain ⟨news, hnl, hnews⟩ : ∃ news : List Value, news.length = ys.length * 5 ∧ ∀ j, j < ys.length * 5 → ∃ u, news[j]? = some u ∧ w.cell? ⟨b, o + j, none⟩ = some u ∧ u.oneCell' = true := by
      refine ⟨(List.range (ys.length * 5)).map (fun j => (w.cell? ⟨b, o + j, none⟩).getD undef), by simp, fun j hj => ?_⟩
      obtain ⟨u, hu, h1⟩ := hex j hj
      exact ⟨u, by simp [hj, hu], hu, h1⟩
    have hone : ∀ u ∈ news, u.oneCell' = true := by
      intro u hu
      obtain ⟨j, hj⟩ := List.getElem?_of_mem hu
      have hjl := (List.getElem?_eq_some_iff.1 hj).1
      obtain ⟨u', hu', _, h1⟩ := hnews j (by omega)
      rw [hj] at hu'
      cases hu'
      exact h1
    have hadd : ∀ j, (⟨b, o, none⟩ : Addr).add j = ⟨b, o + j, none⟩ := fun j => by unfold Addr.add; split <;> simp_all
    obtain ⟨v', w', hr, ho, hgr, _, hat⟩ := run_append_own_at (P := Tryz.prog) w N 24 ty 26 i0 zeroVal 5 80 hu hi hz0 hz1 hz2 rfl (by decide) lv xs.length vs h.1 ⟨b, o, none⟩ ys.length cl news hnl
      (fun j u hj => by rw [hadd]; obtain ⟨u', h1, h2, _⟩ := hnews j (by have := (List.getElem?_eq_some_iff.1 hj).1; omega); rw [hj] at h1; cases h1; exact h2) hone (by unfold maxLen; omega) (by omega) hN
    have hsame : Same S w w' := fun c hc => hgr.block c (hSN c hc).1 (hSN c hc).2
    have hlen : vs.length = xs.length * 5 := h.1.1
    have hto : VTo S N w' v' (xs ++ ys) (vs ++ news) := by
      refine ⟨by rw [List.length_append]; exact ho, fun j x hx => ?_⟩
      by_cases e : j < xs.length
      · rw [List.getElem?_append_left e] at hx
        obtain ⟨c0, c1, c2, c3, c4, e0, e1, e2, e3, e4, hvx⟩ := h.2 j x hx
        refine ⟨c0, c1, c2, c3, c4, ?_, ?_, ?_, ?_, ?_, hvx.same hsame⟩
        · rw [List.getElem?_append_left (by omega)]; exact e0
        · rw [List.getElem?_append_left (by omega)]; exact e1
        · rw [List.getElem?_append_left (by omega)]; exact e2
        · rw [List.getElem?_append_left (by omega)]; exact e3
        · rw [List.getElem?_append_left (by omega)]; exact e4
      · rw [List.getElem?_append_right (by omega)] at hx
        obtain ⟨c0, c1, c2, c3, c4, e0, e1, e2, e3, e4, hval⟩ := hcell _ x hx
        have hjl := (List.getElem?_eq_some_iff.1 hx).1
        have hn : ∀ m c, m < 5 → w.cell? ⟨b, o + ((j - xs.length) * 5 + m), none⟩ = some c → (vs ++ news)[j * 5 + m]? = some c := fun m c hm hc => by
          rw [List.getElem?_append_right (by omega), show j * 5 + m - vs.length = (j - xs.length) * 5 + m by omega]
          obtain ⟨u, h1, h2, _⟩ := hnews ((j - xs.length) * 5 + m) (by omega)
          rw [hc] at h2
          cases h2
          exact h1
        exact ⟨c0, c1, c2, c3, c4, hn 0 _ (by omega) e0, hn 1 _ (by omega) (by rw [← Nat.add_assoc]; exact e1), hn 2 _ (by omega) (by rw [← Nat.add_assoc]; exact e2), hn 3 _ (by omega) (by rw [← Nat.add_assoc]; exact e3), hn 4 _ (by omega) (by rw [← Nat.add_assoc]; exact e4), hval.same hsame⟩
    obtain ⟨a, c, e⟩ := hto.slice
    rw [List.length_append] at e
    exact ⟨v', w', hr, ⟨_, hto⟩, hgr, ⟨a, c, e⟩, hat⟩
end Go.Proofs.YtoangpfmjohhmaaGreatDoor
