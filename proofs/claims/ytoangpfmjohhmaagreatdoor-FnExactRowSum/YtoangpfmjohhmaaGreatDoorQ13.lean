/- Texts of the proof, put together by program: WFlatP, WAppW, WSetTo, WMapS, WKbP, WPutQ, WPutE. -/
import Derived.Test.YtoangpfmjohhmaaGreatDoorQ12
import Derived.Test.YtoangpfmjohhmaaGreatDoorQ5
import Derived.Test.YtoangpfmjohhmaaGreatDoorQ2
import Derived.Test.YtoangpfmjohhmaaGreatDoorQ7
/- RowFlat: the flat row; whole rows appended. -/
namespace Go.Proofs.YtoangpfmjohhmaaGreatDoor
open Go.RowKit Go.Deep

/-- What a tree of a row gives to the flat row. -/
def flat1 (d : Nat) (x : Tr (d + 1)) : List (Tr (d + 1)) := if Nd.kind x = 5 then (Nd.list x).map (up d) else [x]
def flatL (d : Nat) (xs : List (Tr (d + 1))) : List (Tr (d + 1)) := xs.flatMap (flat1 d)
def flatF (d : Nat) (xs : List (Tr (d + 1))) : Option (Tr (d + 2)) := some (rowT (d + 1) (flatL d xs))
theorem flat1_row {d : Nat} {x : Tr (d + 1)} (h : Nd.kind x = 5) : flat1 d x = (Nd.list x).map (up d) := if_pos h
theorem flat1_one {d : Nat} {x : Tr (d + 1)} (h : Nd.kind x ≠ 5) : flat1 d x = [x] := if_neg h
theorem flatL_step {d : Nat} {xs : List (Tr (d + 1))} {k : Nat} {x : Tr (d + 1)} (h : xs[k]? = some x) : flatL d (xs.take (k + 1)) = flatL d (xs.take k) ++ flat1 d x := by
  obtain ⟨hk, e⟩ := List.getElem?_eq_some_iff.1 h
  unfold flatL
  rw [List.take_succ_eq_append_getElem hk, List.flatMap_append, e]
  simp
theorem flat1_len {d : Nat} (x : Tr (d + 1)) : (flat1 d x).length ≤ manyT (d + 1) x 5 := by
  have hm : manyT (d + 1) x 5 = 1 + ((Nd.list x).map (fun y => manyT d y (5 - 1))).sum := rfl
  have h1 := len_le_many (d := d) (deep := 5 - 1) (Nd.list x)
  unfold flat1
  split
  · rw [List.length_map]; omega
  · rw [List.length_singleton]; omega
theorem flatL_len {d : Nat} : ∀ (xs : List (Tr (d + 1))), (flatL d xs).length ≤ (xs.map (fun x => manyT (d + 1) x 5)).sum
  | [] => Nat.le_refl _
  | x :: r => by
    have h1 := flat1_len x
    have h2 := flatL_len r
    unfold flatL at h2 ⊢
    rw [List.flatMap_cons, List.length_append, List.map_cons, List.sum_cons]
    omega
theorem flat_len {d : Nat} {t : Tr (d + 2)} (h : okT (d + 2) t = true) : (flatL d (Nd.list t)).length ≤ 60 := by
  have hm := (okT_form h).2
  have hmm : manyT (d + 2) t 6 = 1 + ((Nd.list t).map (fun x => manyT (d + 1) x 5)).sum := rfl
  have := flatL_len (d := d) (Nd.list t)
  omega
theorem flat_take {d : Nat} (xs : List (Tr (d + 1))) (k : Nat) : (flatL d (xs.take k)).length ≤ (flatL d xs).length := by
  have h : flatL d xs = flatL d (xs.take k) ++ flatL d (xs.drop k) := by
    unfold flatL
    rw [← List.flatMap_append, List.take_append_drop]
  rw [h, List.length_append]
  omega
theorem flat_ok {d : Nat} {xs : List (Tr (d + 1))} (h : ∀ x ∈ xs, okT (d + 1) x = true) : ∀ y ∈ flatL d xs, okT (d + 1) y = true := by
  intro y hy
  obtain ⟨x, hx, hy⟩ := List.mem_flatMap.1 hy
  unfold flat1 at hy
  split at hy
  · obtain ⟨z, hz, rfl⟩ := List.mem_map.1 hy
    rw [okT_lift]
    exact okT_part (h x hx) hz
  · rw [List.mem_singleton.1 hy]
    exact h x hx

/-- A tree's kind and list, out of its five cells. -/
theorem ValAt.parts {S : Nat → Prop} {w : World} {d : Nat} {t : Tr (d + 1)} {k n : Int} {s : ByteArray} {ak al : Option Addr} {lk ck ll cl : Nat} (h : ValAt S w (d + 1) t (.agg #[.int .i64 k, .int .i64 n, .string s, .slice ak lk ck, .slice al ll cl])) :
    k = Nd.kind t ∧ ll = (Nd.list t).length ∧ RowAt S w (ValAt S w d) (.slice al ll cl) (Nd.list t) := by
  obtain ⟨vk, vl, hv, i1, i2, i3, hk, hl⟩ := h
  obtain ⟨a, c, rfl, _⟩ := hl.open'
  simp at hv
  obtain ⟨rfl, _, _, _, rfl, rfl, rfl⟩ := hv
  exact ⟨rfl, rfl, hl⟩

/-- Nothing, appended. -/
theorem run_append_none {t e ty : TypeId} {i : TypeInfo} {size : Nat} (hu : Tryz.prog.underlying t = some (.slice e)) (hi : Tryz.prog.info? e = some i) (hz : i.size = size) (w : World) {N n : Nat} {v : Value} {xs : List Value} (h : w.ownsRow N e size v n xs) :
    (Builtin.append_ #[t, t] ty #[v, .slice none 0 0]).run Tryz.prog w = .ok v w := by
  rcases h.2 with ⟨rfl, _⟩ | ⟨g, cap, cur, rfl, _, _, hle, _⟩
  · simp [Builtin.append_, run_underlying hu, sizeOf, typeInfo, hi, Builtin.lenOf, Builtin.firstCells, Result.andThen, hz]
  · simp [Builtin.append_, run_underlying hu, sizeOf, typeInfo, hi, Builtin.lenOf, Builtin.firstCells, loadCells, storeCells, Result.andThen, hz, hle]

/-- Trees of the model's, appended behind others. -/
theorem run_append_onto_vals {d N : Nat} {S : Nat → Prop} {w : World} {lv : Value} {xs : List (Tr d)} {vs : List Value} (h : VTo S N w lv xs vs) (hSN : ∀ b, S b → b < N) (hN : N ≤ w.heap.size) (ys : List (Tr d)) (al : Option Addr) (cl n : Nat) (ty : TypeId) (hn : n = ys.length) (hv : RowAt S w (ValAt S w d) (.slice al n cl) ys) (hsm : xs.length + ys.length ≤ 100000) :
    ∃ v' w', (Builtin.append_ #[24, 24] ty #[lv, .slice al n cl]).run Tryz.prog w = .ok v' w' ∧ ((∃ vs', VTo S N w' v' (xs ++ ys) vs') ∧ w.grownBy w' lv.ownBlock ∧ ∃ a c, v' = .slice a (xs.length + ys.length) c) := by
  subst hn
  obtain ⟨i0, hi, hz0, hz1, hz2⟩ := info_parts Tryz.infoV2
  have hu : Tryz.prog.underlying 24 = some (.slice 26) := Tryz.underlying24
  have hform : ∃ a c, lv = .slice a xs.length c := h.slice
  by_cases h0 : ys = []
  · subst h0
    have hsame : ∃ v' w', (Builtin.append_ #[24, 24] ty #[lv, .slice al 0 cl]).run Tryz.prog w = .ok v' w' ∧ w'.ownsRow N 26 5 v' (xs.length + 0) (vs ++ []) ∧ w.grownBy w' lv.ownBlock := by
      cases al with
      | none =>
        obtain ⟨_, a', c', hv', _⟩ := hv
        cases hv'
        rcases Nat.eq_zero_or_pos cl with rfl | hcl
        · exact ⟨lv, w, run_append_none hu hi hz1 w h.1, by rw [List.append_nil]; exact h.1, ⟨rfl, rfl, rfl, Nat.le_refl _, fun _ _ _ => rfl⟩⟩
        · refine ⟨lv, w, ?_, by rw [List.append_nil]; exact h.1, ⟨rfl, rfl, rfl, Nat.le_refl _, fun _ _ _ => rfl⟩⟩
          rcases h.1.2 with ⟨rfl, _⟩ | ⟨g, cap, cur, rfl, _, _, hle, _⟩
          · simp [Builtin.append_, run_underlying hu, sizeOf, typeInfo, hi, Builtin.lenOf, Builtin.firstCells, Result.andThen, hz1]
          · simp [Builtin.append_, run_underlying hu, sizeOf, typeInfo, hi, Builtin.lenOf, Builtin.firstCells, storeCells, Result.andThen, hz1, hle]
      | some a =>
        obtain ⟨v', w', hr, ho, hgr, _⟩ := run_append_own_at (P := Tryz.prog) w N 24 ty 26 i0 zeroVal 5 80 hu hi hz0 hz1 hz2 rfl (by decide) lv xs.length vs h.1 a 0 cl [] rfl (fun j u hj => by simp at hj) (fun u hu => by simp at hu) (by unfold maxLen; omega) (by omega) hN
        exact ⟨v', w', hr, ho, hgr⟩
    obtain ⟨v', w', hr, ho, hgr⟩ := hsame
    rw [List.append_nil, Nat.add_zero] at ho
    have hs : Same S w w' := fun b hb => hgr.block b (Nat.lt_of_lt_of_le (hSN b hb) hN) (fun e => by have := (h.1.lt b e.symm).1; have := hSN b hb; omega)
    have hto : VTo S N w' v' (xs ++ []) vs := by
      rw [List.append_nil]
      exact ⟨ho, fun j x hx => by obtain ⟨c0, c1, c2, c3, c4, e0, e1, e2, e3, e4, hvx⟩ := h.2 j x hx; exact ⟨c0, c1, c2, c3, c4, e0, e1, e2, e3, e4, hvx.same hs⟩⟩
    obtain ⟨a, c, e⟩ := hto.slice
    rw [List.append_nil] at e
    exact ⟨v', w', hr, ⟨vs, hto⟩, hgr, a, c, e⟩
  · have hpos : 0 < ys.length := List.length_pos_iff.2 h0
    obtain ⟨b, o, _, _, _, _, _, _, rfl, hbS, _⟩ := hv.cell hpos
    have hcell : ∀ i x, ys[i]? = some x → ∃ c0 c1 c2 c3 c4, w.cell? ⟨b, o + i * 5, none⟩ = some c0 ∧ w.cell? ⟨b, o + i * 5 + 1, none⟩ = some c1 ∧ w.cell? ⟨b, o + i * 5 + 2, none⟩ = some c2 ∧ w.cell? ⟨b, o + i * 5 + 3, none⟩ = some c3 ∧ w.cell? ⟨b, o + i * 5 + 4, none⟩ = some c4 ∧ ValAt S w d x (.agg #[c0, c1, c2, c3, c4]) := by
      intro i x hx
      obtain ⟨b', o', x', c0, c1, c2, c3, c4, e', _, hx', e0, e1, e2, e3, e4, hval⟩ := hv.cell (List.getElem?_eq_some_iff.1 hx).1
      cases e'
      rw [hx] at hx'
      cases hx'
      exact ⟨c0, c1, c2, c3, c4, e0, e1, e2, e3, e4, hval⟩
    have hex : ∀ j, j < ys.length * 5 → ∃ u, w.cell? ⟨b, o + j, none⟩ = some u ∧ u.oneCell' = true := by
      intro j hj
      obtain ⟨c0, c1, c2, c3, c4, e0, e1, e2, e3, e4, hval⟩ := hcell (j / 5) _ (List.getElem?_eq_getElem (show j / 5 < ys.length by omega))
      obtain ⟨q0, q1, q2, q3, q4, q5, q6, q7, q8, hq⟩ := hval.shape
      cases hq
      rcases (by omega : j = j / 5 * 5 ∨ j = j / 5 * 5 + 1 ∨ j = j / 5 * 5 + 2 ∨ j = j / 5 * 5 + 3 ∨ j = j / 5 * 5 + 4) with e | e | e | e | e
      · exact ⟨_, by rw [e]; exact e0, rfl⟩
      · exact ⟨_, by rw [e, ← Nat.add_assoc]; exact e1, rfl⟩
      · exact ⟨_, by rw [e, ← Nat.add_assoc]; exact e2, rfl⟩
      · exact ⟨_, by rw [e, ← Nat.add_assoc]; exact e3, rfl⟩
      · exact ⟨_, by rw [e, ← Nat.add_assoc]; exact e4, rfl⟩
    obtain ⟨news, hnl, hnews⟩ : ∃ news : List Value, news.length = ys.length * 5 ∧ ∀ j, j < ys.length * 5 → ∃ u, news[j]? = some u ∧ w.cell? ⟨b, o + j, none⟩ = some u ∧ u.oneCell' = true := by
      refine ⟨(List.range (ys.length * 5)).map (fun j => (w.cell? ⟨b, o + j, none⟩).getD undef), by simp, fun j hj => ?_⟩
      obtain ⟨u, hu, h1⟩ := hex j hj
      exact ⟨u, by simp [hj, hu], hu, h1⟩
    have hone : ∀ u ∈ news, u.oneCell' = true := by
      intro u hu
      obtain ⟨j, hj⟩ := List.getElem?_of_mem hu
      have hjl := (List.getElem?_eq_some_iff.1 hj).1
      obtain ⟨u', hu', _, h1⟩ := hnews j (by omega)
      rw [hj] at hu'
      cases hu'
      exact h1
    have hadd : ∀ j, (⟨b, o, none⟩ : Addr).add j = ⟨b, o + j, none⟩ := fun j => by unfold Addr.add; split <;> simp_all
    obtain ⟨v', w', hr, ho, hgr, _, hat⟩ := run_append_own_at (P := Tryz.prog) w N 24 ty 26 i0 zeroVal 5 80 hu hi hz0 hz1 hz2 rfl (by decide) lv xs.length vs h.1 ⟨b, o, none⟩ ys.length cl news hnl
      (fun j u hj => by rw [hadd]; obtain ⟨u', h1, h2, _⟩ := hnews j (by have := (List.getElem?_eq_some_iff.1 hj).1; omega); rw [hj] at h1; cases h1; exact h2) hone (by unfold maxLen; omega) (by omega) hN
    have hsame : Same S w w' := fun c hc => hgr.block c (Nat.lt_of_lt_of_le (hSN c hc) hN) (fun e => by have := (h.1.lt c e.symm).1; have := hSN c hc; omega)
    have hlen : vs.length = xs.length * 5 := h.1.1
    have hto : VTo S N w' v' (xs ++ ys) (vs ++ news) := by
      refine ⟨by rw [List.length_append]; exact ho, fun j x hx => ?_⟩
      by_cases e : j < xs.length
      · rw [List.getElem?_append_left e] at hx
        obtain ⟨c0, c1, c2, c3, c4, e0, e1, e2, e3, e4, hvx⟩ := h.2 j x hx
        refine ⟨c0, c1, c2, c3, c4, ?_, ?_, ?_, ?_, ?_, hvx.same hsame⟩
        · rw [List.getElem?_append_left (by omega)]; exact e0
        · rw [List.getElem?_append_left (by omega)]; exact e1
        · rw [List.getElem?_append_left (by omega)]; exact e2
        · rw [List.getElem?_append_left (by omega)]; exact e3
        · rw [List.getElem?_append_left (by omega)]; exact e4
      · rw [List.getElem?_append_right (by omega)] at hx
        obtain ⟨c0, c1, c2, c3, c4, e0, e1, e2, e3, e4, hval⟩ := hcell _ x hx
        have hjl := (List.getElem?_eq_some_iff.1 hx).1
        have hn : ∀ m c, m < 5 → w.cell? ⟨b, o + ((j - xs.length) * 5 + m), none⟩ = some c → (vs ++ news)[j * 5 + m]? = some c := fun m c hm hc => by
          rw [List.getElem?_append_right (by omega), show j * 5 + m - vs.length = (j - xs.length) * 5 + m by omega]
          obtain ⟨u, h1, h2, _⟩ := hnews ((j - xs.length) * 5 + m) (by omega)
          rw [hc] at h2
          cases h2
          exact h1
        exact ⟨c0, c1, c2, c3, c4, hn 0 _ (by omega) e0, hn 1 _ (by omega) (by rw [← Nat.add_assoc]; exact e1), hn 2 _ (by omega) (by rw [← Nat.add_assoc]; exact e2), hn 3 _ (by omega) (by rw [← Nat.add_assoc]; exact e3), hn 4 _ (by omega) (by rw [← Nat.add_assoc]; exact e4), hval.same hsame⟩
    obtain ⟨a, c, e⟩ := hto.slice
    rw [List.length_append] at e
    exact ⟨v', w', hr, ⟨_, hto⟩, hgr, a, c, e⟩
end Go.Proofs.YtoangpfmjohhmaaGreatDoor

/- Trees of the model's, appended behind others, wherever these lie. -/
namespace Go.Proofs.YtoangpfmjohhmaaGreatDoor
open Go.RowKit Go.Deep

/-- Trees of the model's, appended behind others. -/
theorem run_append_onto_valsW {d N : Nat} {S : Nat → Prop} {w : World} {lv : Value} {xs : List (Tr d)} {vs : List Value} (h : VTo S N w lv xs vs) (hSN : ∀ b, S b → b < w.heap.size ∧ some b ≠ lv.ownBlock) (hN : N ≤ w.heap.size) (ys : List (Tr d)) (al : Option Addr) (cl n : Nat) (ty : TypeId) (hn : n = ys.length) (hv : RowAt S w (ValAt S w d) (.slice al n cl) ys) (hsm : xs.length + ys.length ≤ 100000) :
    ∃ v' w', (Builtin.append_ #[24, 24] ty #[lv, .slice al n cl]).run Tryz.prog w = .ok v' w' ∧ ((∃ vs', VTo S N w' v' (xs ++ ys) vs') ∧ w.grownBy w' lv.ownBlock ∧ (∃ a c, v' = .slice a (xs.length + ys.length) c) ∧ (v'.ownBlock = lv.ownBlock ∨ v'.ownBlock = some w.heap.size)) := by
  subst hn
  obtain ⟨i0, hi, hz0, hz1, hz2⟩ := info_parts Tryz.infoV2
  have hu : Tryz.prog.underlying 24 = some (.slice 26) := Tryz.underlying24
  have hform : ∃ a c, lv = .slice a xs.length c := h.slice
  by_cases h0 : ys = []
  · subst h0
    have hsame : ∃ v' w', (Builtin.append_ #[24, 24] ty #[lv, .slice al 0 cl]).run Tryz.prog w = .ok v' w' ∧ w'.ownsRow N 26 5 v' (xs.length + 0) (vs ++ []) ∧ w.grownBy w' lv.ownBlock ∧ (v'.ownBlock = lv.ownBlock ∨ v'.ownBlock = some w.heap.size) := by
      cases al with
      | none =>
        obtain ⟨_, a', c', hv', _⟩ := hv
        cases hv'
        rcases Nat.eq_zero_or_pos cl with rfl | hcl
        · exact ⟨lv, w, run_append_none hu hi hz1 w h.1, by rw [List.append_nil]; exact h.1, ⟨rfl, rfl, rfl, Nat.le_refl _, fun _ _ _ => rfl⟩, Or.inl rfl⟩
        · refine ⟨lv, w, ?_, by rw [List.append_nil]; exact h.1, ⟨rfl, rfl, rfl, Nat.le_refl _, fun _ _ _ => rfl⟩, Or.inl rfl⟩
          rcases h.1.2 with ⟨rfl, _⟩ | ⟨g, cap, cur, rfl, _, _, hle, _⟩
          · simp [Builtin.append_, run_underlying hu, sizeOf, typeInfo, hi, Builtin.lenOf, Builtin.firstCells, Result.andThen, hz1]
          · simp [Builtin.append_, run_underlying hu, sizeOf, typeInfo, hi, Builtin.lenOf, Builtin.firstCells, storeCells, Result.andThen, hz1, hle]
      | some a =>
        obtain ⟨v', w', hr, ho, hgr, _, hat⟩ := run_append_own_at (P := Tryz.prog) w N 24 ty 26 i0 zeroVal 5 80 hu hi hz0 hz1 hz2 rfl (by decide) lv xs.length vs h.1 a 0 cl [] rfl (fun j u hj => by simp at hj) (fun u hu => by simp at hu) (by unfold maxLen; omega) (by omega) hN
        exact ⟨v', w', hr, ho, hgr, hat⟩
    obtain ⟨v', w', hr, ho, hgr, hat⟩ := hsame
    rw [List.append_nil, Nat.add_zero] at ho
    have hs : Same S w w' := fun b hb => hgr.block b (hSN b hb).1 (hSN b hb).2
    have hto : VTo S N w' v' (xs ++ []) vs := by
      rw [List.append_nil]
      exact ⟨ho, fun j x hx => by obtain ⟨c0, c1, c2, c3, c4, e0, e1, e2, e3, e4, hvx⟩ := h.2 j x hx; exact ⟨c0, c1, c2, c3, c4, e0, e1, e2, e3, e4, hvx.same hs⟩⟩
    obtain ⟨a, c, e⟩ := hto.slice
    rw [List.append_nil] at e
    exact ⟨v', w', hr, ⟨vs, hto⟩, hgr, ⟨a, c, e⟩, hat⟩
  · have hpos : 0 < ys.length := List.length_pos_iff.2 h0
    obtain ⟨b, o, _, _, _, _, _, _, rfl, hbS, _⟩ := hv.cell hpos
    have hcell : ∀ i x, ys[i]? = some x → ∃ c0 c1 c2 c3 c4, w.cell? ⟨b, o + i * 5, none⟩ = some c0 ∧ w.cell? ⟨b, o + i * 5 + 1, none⟩ = some c1 ∧ w.cell? ⟨b, o + i * 5 + 2, none⟩ = some c2 ∧ w.cell? ⟨b, o + i * 5 + 3, none⟩ = some c3 ∧ w.cell? ⟨b, o + i * 5 + 4, none⟩ = some c4 ∧ ValAt S w d x (.agg #[c0, c1, c2, c3, c4]) := by
      intro i x hx
      obtain ⟨b', o', x', c0, c1, c2, c3, c4, e', _, hx', e0, e1, e2, e3, e4, hval⟩ := hv.cell (List.getElem?_eq_some_iff.1 hx).1
      cases e'
      rw [hx] at hx'
      cases hx'
      exact ⟨c0, c1, c2, c3, c4, e0, e1, e2, e3, e4, hval⟩
    have hex : ∀ j, j < ys.length * 5 → ∃ u, w.cell? ⟨b, o + j, none⟩ = some u ∧ u.oneCell' = true := by
      intro j hj
      obtain ⟨c0, c1, c2, c3, c4, e0, e1, e2, e3, e4, hval⟩ := hcell (j / 5) _ (List.getElem?_eq_getElem (show j / 5 < ys.length by omega))
      obtain ⟨q0, q1, q2, q3, q4, q5, q6, q7, q8, hq⟩ := hval.shape
      cases hq
      rcases (by omega : j = j / 5 * 5 ∨ j = j / 5 * 5 + 1 ∨ j = j / 5 * 5 + 2 ∨ j = j / 5 * 5 + 3 ∨ j = j / 5 * 5 + 4) with e | e | e | e | e
      · exact ⟨_, by rw [e]; exact e0, rfl⟩
      · exact ⟨_, by rw [e, ← Nat.add_assoc]; exact e1, rfl⟩
      · exact ⟨_, by rw [e, ← Nat.add_assoc]; exact e2, rfl⟩
      · exact ⟨_, by rw [e, ← Nat.add_assoc]; exact e3, rfl⟩
      · exact ⟨_, by rw [e, ← Nat.add_assoc]; exact e4, rfl⟩
    obtain ⟨news, hnl, hnews⟩ : ∃ news : List Value, news.length = ys.length * 5 ∧ ∀ j, j < ys.length * 5 → ∃ u, news[j]? = some u ∧ w.cell? ⟨b, o + j, none⟩ = some u ∧ u.oneCell' = true := by
      refine ⟨(List.range (ys.length * 5)).map (fun j => (w.cell? ⟨b, o + j, none⟩).getD undef), by simp, fun j hj => ?_⟩
      obtain ⟨u, hu, h1⟩ := hex j hj
      exact ⟨u, by simp [hj, hu], hu, h1⟩
    have hone : ∀ u ∈ news, u.oneCell' = true := by
      intro u hu
      obtain ⟨j, hj⟩ := List.getElem?_of_mem hu
      have hjl := (List.getElem?_eq_some_iff.1 hj).1
      obtain ⟨u', hu', _, h1⟩ := hnews j (by omega)
      rw [hj] at hu'
      cases hu'
      exact h1
    have hadd : ∀ j, (⟨b, o, none⟩ : Addr).add j = ⟨b, o + j, none⟩ := fun j => by unfold Addr.add; split <;> simp_all
    obtain ⟨v', w', hr, ho, hgr, _, hat⟩ := run_append_own_at (P := Tryz.prog) w N 24 ty 26 i0 zeroVal 5 80 hu hi hz0 hz1 hz2 rfl (by decide) lv xs.length vs h.1 ⟨b, o, none⟩ ys.length cl news hnl
      (fun j u hj => by rw [hadd]; obtain ⟨u', h1, h2, _⟩ := hnews j (by have := (List.getElem?_eq_some_iff.1 hj).1; omega); rw [hj] at h1; cases h1; exact h2) hone (by unfold maxLen; omega) (by omega) hN
    have hsame : Same S w w' := fun c hc => hgr.block c (hSN c hc).1 (hSN c hc).2
    have hlen : vs.length = xs.length * 5 := h.1.1
    have hto : VTo S N w' v' (xs ++ ys) (vs ++ news) := by
      refine ⟨by rw [List.length_append]; exact ho, fun j x hx => ?_⟩
      by_cases e : j < xs.length
      · rw [List.getElem?_append_left e] at hx
        obtain ⟨c0, c1, c2, c3, c4, e0, e1, e2, e3, e4, hvx⟩ := h.2 j x hx
        refine ⟨c0, c1, c2, c3, c4, ?_, ?_, ?_, ?_, ?_, hvx.same hsame⟩
        · rw [List.getElem?_append_left (by omega)]; exact e0
        · rw [List.getElem?_append_left (by omega)]; exact e1
        · rw [List.getElem?_append_left (by omega)]; exact e2
        · rw [List.getElem?_append_left (by omega)]; exact e3
        · rw [List.getElem?_append_left (by omega)]; exact e4
      · rw [List.getElem?_append_right (by omega)] at hx
        obtain ⟨c0, c1, c2, c3, c4, e0, e1, e2, e3, e4, hval⟩ := hcell _ x hx
        have hjl := (List.getElem?_eq_some_iff.1 hx).1
        have hn : ∀ m c, m < 5 → w.cell? ⟨b, o + ((j - xs.length) * 5 + m), none⟩ = some c → (vs ++ news)[j * 5 + m]? = some c := fun m c hm hc => by
          rw [List.getElem?_append_right (by omega), show j * 5 + m - vs.length = (j - xs.length) * 5 + m by omega]
          obtain ⟨u, h1, h2, _⟩ := hnews ((j - xs.length) * 5 + m) (by omega)
          rw [hc] at h2
          cases h2
          exact h1
        exact ⟨c0, c1, c2, c3, c4, hn 0 _ (by omega) e0, hn 1 _ (by omega) (by rw [← Nat.add_assoc]; exact e1), hn 2 _ (by omega) (by rw [← Nat.add_assoc]; exact e2), hn 3 _ (by omega) (by rw [← Nat.add_assoc]; exact e3), hn 4 _ (by omega) (by rw [← Nat.add_assoc]; exact e4), hval.same hsame⟩
    obtain ⟨a, c, e⟩ := hto.slice
    rw [List.length_append] at e
    exact ⟨v', w', hr, ⟨_, hto⟩, hgr, ⟨a, c, e⟩, hat⟩
end Go.Proofs.YtoangpfmjohhmaaGreatDoor

/- l2Told of the model: a tree in new memory, if it is right : the answer owns its memory. -/
namespace Go.Proofs.YtoangpfmjohhmaaGreatDoor
open Go.RowKit Go.Deep

set_option maxRecDepth 100000 in
set_option maxHeartbeats 4000000 in
theorem l2Told_own (d : Nat) (S : Nat → Prop) (t : Tr (d + 1)) (v : Value) (w : World) (hv : ValAt S w (d + 1) t v) (hS : Within S w) (hsm : (nodes (d + 1) t : Int) ≤ 4194304) :
    Calls Tryz.prog 40 #[v] w (TellQ d (toldT d t) (okT (d + 1) t) w) := by
  have hv0 := hv
  obtain ⟨k, n, s, ak, lk, ck, al, ll, cl, rfl⟩ := hv.shape
  obtain ⟨W0, hW⟩ : ∃ W0, W0 = (w.alloc (.cells #[.int .i64 k, .int .i64 n, .string s, .slice ak lk ck, .slice al ll cl] 26)).alloc (.cells #[.int .i64 0, .int .i64 0, .string { data := #[] }, .slice none 0 0, .slice none 0 0] 26) := ⟨_, rfl⟩
  have hW0 : Below w.heap.size w W0 := by rw [hW]; exact below_trans (below_alloc1 _ _) (below_alloc1 _ _)
  have k0 : Blk5 W0 w.heap.size 26 (.int .i64 k) (.int .i64 n) (.string s) (.slice ak lk ck) (.slice al ll cl) := by
    rw [hW]; exact (Blk5.new w 26 _ _ _ _ _).alloc _
  have k1 : Blk5 W0 (w.heap.size + 1) 26 (.int .i64 0) (.int .i64 0) (.string { data := #[] }) (.slice none 0 0) (.slice none 0 0) := by
    have := Blk5.new (w.alloc (.cells #[.int .i64 k, .int .i64 n, .string s, .slice ak lk ck, .slice al ll cl] 26)) 26 (.int .i64 0) (.int .i64 0) (.string { data := #[] }) (.slice none 0 0) (.slice none 0 0)
    rw [World.size_alloc] at this
    rw [hW]
    exact this
  have HW := hide hW
  clear hW hv
  go_enter Tryz.func40, Tryz.ntmps40
  go_wp2_with fail
  rw [← HW.out]
  clear HW
  refine (specValOk_any (d + 1) S t _ W0 (hv0.same (hS.same hW0)) (hS.later hW0.size) hsm).mono ?_
  rintro e w1 ⟨rfl, hb1⟩
  replace k0 := k0.below hb1
  replace k1 := k1.below hb1
  have hB1 := below_trans hW0 hb1
  obtain ⟨x0, x1, x2, x3, x4⟩ := k0.cell
  have hlt := k1.lt
  clear hb1 hW0
  cases hf : okT (d + 1) t with
  | false =>
    have hz : Hid (toldT d t = zeroT d) := by
      show toldT d t = _
      rw [toldT, hf]
      rfl
    have hno : Hid (∀ wF, wF = set5 w1 (w.heap.size + 1) 0 (.int .i64 0) (.int .i64 0) (.string { data := #[] }) (.slice none 0 0) (.slice none 0 0) → Below w.heap.size w wF) := by
      intro wF hF
      rw [hF]
      exact below_set5 hB1 (by omega) _ _ _ _ _ _
    obtain ⟨y0, y1, y2, y3, y4⟩ := k1.cell
    have yf := k1.frozen
    clear k0 k1 hB1 hv0
    go_wp2_with fail
    rw [hz.out, hf]
    refine bodyPost_ret (v := .tuple #[zeroVal, .bool false]) (by simp [results, Tryz.results40, go_sem, zeroVal, y0, y1, y2, y3, y4]; rfl) rfl ⟨_, rfl, zeroVal_own d _ _, hno.out _ rfl⟩
  | true =>
    have hz : Hid (toldT d t = t) := by
      show toldT d t = _
      rw [toldT, hf]
      rfl
    have hwt := wtT_ok hf
    go_wp2_with fail
    refine (l1Copy_any (d + 1) S t _ w1 (hv0.same (hS.same hB1)) (hS.later hB1.size) (by omega)).mono ?_
    rintro e w3 ⟨u, rfl, hu3, hb3⟩
    obtain ⟨u0, u1, u2, u3, u4, u5, u6, u7, u8, rfl⟩ := (ValOwn.at _ _ _ _ hu3).shape
    have HF := hide (tell_end hu3 (below_trans hB1 hb3) (by omega) hlt)
    have k3 := k1.below hb3
    clear hu3 hb3 k1 k0 hv0 x0 x1 x2 x3 x4
    obtain ⟨y0, y1, y2, y3, y4⟩ := k3.cell
    have yf := k3.frozen
    clear k3
    go_wp2_with fail
    rw [hz.out, hf]
    refine bodyPost_ret (v := .tuple #[.agg #[.int .i64 u0, .int .i64 u1, .string u2, .slice u3 u4 u5, .slice u6 u7 u8], .bool true]) (by simp [results, Tryz.results40, go_sem, y0, y1, y2, y3, y4]) rfl ⟨_, rfl, (HF.out _ rfl).1, (HF.out _ rfl).2⟩
end Go.Proofs.YtoangpfmjohhmaaGreatDoor

/- A map, turned at a key that is there. -/
namespace Go.Proofs.YtoangpfmjohhmaaGreatDoor
open Go.RowKit Go.Deep

theorem run_mapSet (w : World) (r clock j : Nat) (es : Array MapEntry) (s : ByteArray) (u v : Value) (b : Nat) (hb : w.heap[r]? = some (.map es clock)) (hj : es[j]? = some ⟨.string s, v, b⟩)
    (hn : ∀ i' e', i' < j → es[i']? = some e' → ∃ k, e'.key = .string k ∧ k ≠ s) :
    (Instr.mapUpdate 123 (.map (some r)) (.string s) u).run Tryz.prog w = .ok () (withObj w r (.map (es.modify j fun e => { e with key := .string s, val := u }) clock)) := by
  have hf := findNow_at s es.toList j 0 ⟨.string s, v, b⟩ (by rw [Array.getElem?_toList]; exact hj) rfl (fun i' e' hi he => hn i' e' hi (by rw [Array.getElem?_toList] at he; exact he))
  have hk : (Instr.checkKey false 10000 9 (.string s)).run Tryz.prog w = .ok () w :=
    MapKept.run_checkKey (P := Tryz.prog) (w := w) (k := .string s) Tryz.underlying9 trivial false 9999
  have hfk := MapKept.run_findKey (P := Tryz.prog) (w := w) Tryz.underlying9 hf
  have hst : (Instr.keyThatStays (.string s) (.string s)).run Tryz.prog w = .ok (.string s) w := MapKept.run_keyThatStays (P := Tryz.prog) (w := w) (d := .string) (k := .string s) trivial
  simp [Instr.mapUpdate, run_underlying Tryz.underlying123, getObj, setObj, Sem.run, hb, hk, hfk, hj, hst, withObj]

theorem below_withObj {N r : Nat} (w : World) (o : Obj) (h : N ≤ r) : Below N w (withObj w r o) :=
  ⟨rfl, rfl, rfl, by simp [withObj], fun b hb => withObj_block w r o b (by omega)⟩
end Go.Proofs.YtoangpfmjohhmaaGreatDoor

/- RowKeys: trees by keys, out of pairs. -/
namespace Go.Proofs.YtoangpfmjohhmaaGreatDoor
open Go.RowKit Go.Deep

/-- The key and the tree of a pair. -/
def pairOk {d : Nat} (x : Tr (d + 2)) : Option (ByteArray × Tr (d + 1)) :=
  if Nd.kind x = 5 then (match Nd.list x with | [a, b] => if Nd.kind a = 4 then some (Nd.str a, b) else none | _ => none) else none
/-- All pairs, one behind the other. -/
def accF {d : Nat} : List (Tr (d + 2)) → List (ByteArray × Tr (d + 1)) → Option (List (ByteArray × Tr (d + 1)))
  | [], acc => some acc
  | x :: r, acc => match pairOk x with
    | none => none
    | some p => accF r (putL (acc.map Prod.fst) (acc.map Prod.snd) p.1 p.2)
def keysF (d : Nat) (xs : List (Tr (d + 2))) : Option (Tr (d + 2)) := (accF xs []).map (mapT (d + 1))
theorem accF_step {d : Nat} {xs : List (Tr (d + 2))} {k : Nat} {x : Tr (d + 2)} (h : xs[k]? = some x) (acc : List (ByteArray × Tr (d + 1))) :
    accF (xs.drop k) acc = match pairOk x with | none => none | some p => accF (xs.drop (k + 1)) (putL (acc.map Prod.fst) (acc.map Prod.snd) p.1 p.2) := by
  obtain ⟨hk, e⟩ := List.getElem?_eq_some_iff.1 h
  rw [List.drop_eq_getElem_cons hk, e, accF]
theorem pairOk_kind {d : Nat} {x : Tr (d + 2)} (h : Nd.kind x ≠ 5) : pairOk x = none := if_neg h
theorem pairOk_len {d : Nat} {x : Tr (d + 2)} (h : (Nd.list x).length ≠ 2) : pairOk x = none := by
  unfold pairOk
  split
  · split
    · rename_i e; rw [e] at h; exact absurd rfl h
    · rfl
  · rfl
theorem pairOk_first {d : Nat} {x : Tr (d + 2)} {a b : Tr (d + 1)} (hl : Nd.list x = [a, b]) (h : Nd.kind a ≠ 4) : pairOk x = none := by
  unfold pairOk
  split
  · rw [hl]; exact if_neg h
  · rfl
theorem pairOk_some {d : Nat} {x : Tr (d + 2)} {a b : Tr (d + 1)} (h5 : Nd.kind x = 5) (hl : Nd.list x = [a, b]) (h : Nd.kind a = 4) : pairOk x = some (Nd.str a, b) := by
  unfold pairOk
  rw [if_pos h5, hl]
  exact if_pos h

/-- What is known of the trees by keys that are there by then. -/
structure AccOk {d : Nat} (k : Nat) (acc : List (ByteArray × Tr (d + 1))) : Prop where
  len : acc.length ≤ k
  good : keysB (acc.map Prod.fst) = true
  trees : ∀ p ∈ acc, okT (d + 1) p.2 = true
theorem AccOk.nil {d : Nat} : AccOk (d := d) 0 [] := ⟨Nat.le_refl _, rfl, fun p h => by cases h⟩
theorem mem_putK {α : Type} {s : ByteArray} {x : α} : ∀ {ks : List ByteArray} {xs : List α} {p : ByteArray × α}, p ∈ putL ks xs s x → p ∈ ks.zip xs ∨ p = (s, x)
  | [], _, p, h => by rw [putL] at h; exact Or.inr (List.mem_singleton.1 h)
  | _ :: _, [], p, h => by rw [putL] at h; exact Or.inr (List.mem_singleton.1 h)
  | k :: ks, y :: ys, p, h => by
    rw [putL] at h
    rw [zip_cons]
    split at h
    · rcases List.mem_cons.1 h with h | h
      · exact Or.inl (by rw [h]; exact List.mem_cons_self ..)
      · rcases mem_putK h with h | h
        · exact Or.inl (List.mem_cons_of_mem _ h)
        · exact Or.inr h
    · split at h
      · rcases List.mem_cons.1 h with h | h
        · exact Or.inr h
        · exact Or.inl (List.mem_cons_of_mem _ h)
      · rcases List.mem_cons.1 h with h | h
        · exact Or.inr h
        · exact Or.inl h
theorem AccOk.put {d k : Nat} {acc : List (ByteArray × Tr (d + 1))} {s : ByteArray} {x : Tr (d + 1)} (h : AccOk k acc) (hs : strOk s = true) (hx : okT (d + 1) x = true) : AccOk (k + 1) (putL (acc.map Prod.fst) (acc.map Prod.snd) s x) := by
  have hl := putL_length (acc.map Prod.fst) (acc.map Prod.snd) s x
  rw [List.length_map] at hl
  refine ⟨by have := h.len; omega, putL_keys hs (by rw [List.length_map, List.length_map]) h.good (fun q e => by cases e), fun p hp => ?_⟩
  rcases mem_putK hp with hp | hp
  · rw [zip_unzip] at hp
    exact h.trees p hp
  · rw [hp]; exact hx
theorem AccOk.nodes {d k : Nat} {acc : List (ByteArray × Tr (d + 1))} (h : AccOk k acc) (hk : k ≤ 1000) : (nodes (d + 2) (mapT (d + 1) acc) : Int) ≤ 4194304 := by
  have h1 : ∀ y ∈ acc.map Prod.snd, Go.Proofs.YtoangpfmjohhmaaGreatDoor.nodes (d + 1) y ≤ 300 := fun y hy => by
    obtain ⟨p, hp, rfl⟩ := List.mem_map.1 hy
    exact nodes_ok (h.trees p hp)
  have h2 := sum_le_of h1
  rw [List.length_map] at h2
  have h3 := h.len
  have h4 : Go.Proofs.YtoangpfmjohhmaaGreatDoor.nodes (d + 2) (mapT (d + 1) acc) = 1 + ((acc.map Prod.snd).map (Go.Proofs.YtoangpfmjohhmaaGreatDoor.nodes (d + 1))).sum := rfl
  rw [h4]
  omega
/-- The parts of an ok pair. -/
theorem okT_text {d : Nat} {t : Tr (d + 1)} (h : okT (d + 1) t = true) (h4 : Nd.kind t = 4) : strOk (Nd.str t) = true := by
  obtain ⟨hf, _⟩ := okT_form h
  obtain ⟨kind, num, str, keys, list⟩ := t
  have h4 : kind = 4 := h4
  subst h4
  cases hb : headBad 4 num str keys.length list.length 6 with
  | true => rw [formT_bad hb] at hf; cases hf
  | false =>
    rw [formT_good hb] at hf
    exact hf

/-- A map of the program's that is being made: its trees lie in blocks of S. -/
structure MapB {d : Nat} (S : Nat → Prop) (w : World) (r : Nat) (es : Array MapEntry) (ps acc : List (ByteArray × Tr d)) : Prop where
  obj : w.heap[r]? = some (.map es ps.length)
  perm : ps.Perm acc
  ent : MapG (TreeG S w d) es ps
theorem MapB.moved {d r : Nat} {S : Nat → Prop} {w w' : World} {es : Array MapEntry} {ps acc : List (ByteArray × Tr d)} (h : MapB S w r es ps acc) (hr : w'.heap[r]? = w.heap[r]?) (hs : Same S w w') : MapB S w' r es ps acc :=
  ⟨hr.trans h.obj, h.perm, h.ent.moved (fun x u hx => TreeG.moved hs (fun _ h => h) d x u hx)⟩
theorem set_perm {α : Type} {s : ByteArray} {x : α} {ps acc : List (ByteArray × α)} {i j : Nat} {y z : α} (hp : ps.Perm acc) (hnd : (acc.map Prod.fst).Nodup) (hi : ps[i]? = some (s, y)) (hj : acc[j]? = some (s, z)) : (ps.set i (s, x)).Perm (acc.set j (s, x)) := by
  have hndp : (ps.map Prod.fst).Nodup := (hp.map Prod.fst).nodup_iff.2 hnd
  have split : ∀ (l : List (ByteArray × α)) (k : Nat) (v : ByteArray × α), l[k]? = some v → l.Perm (v :: l.eraseIdx k) ∧ (l.set k (s, x)).Perm ((s, x) :: l.eraseIdx k) := by
    intro l
    induction l with
    | nil => intro k v h; simp at h
    | cons a r ih =>
      intro k v h
      cases k with
      | zero =>
        simp at h
        subst h
        exact ⟨List.Perm.refl _, List.Perm.refl _⟩
      | succ k =>
        simp at h
        obtain ⟨h1, h2⟩ := ih k v h
        simp only [List.eraseIdx_cons_succ, List.set_cons_succ]
        exact ⟨(List.Perm.cons a h1).trans (List.Perm.swap _ _ _), (List.Perm.cons a h2).trans (List.Perm.swap _ _ _)⟩
  obtain ⟨a1, a2⟩ := split ps i _ hi
  obtain ⟨b1, b2⟩ := split acc j _ hj
  have hyz : y = z := by
    have hm : (s, y) ∈ acc := hp.mem_iff.1 (List.mem_of_getElem? hi)
    have hn := (b1.map Prod.fst).nodup_iff.1 hnd
    rw [List.map_cons, List.nodup_cons] at hn
    rcases List.mem_cons.1 (b1.mem_iff.1 hm) with e | e
    · cases e; rfl
    · exact absurd (List.mem_map.2 ⟨_, e, rfl⟩) hn.1
  subst hyz
  have hc : (ps.eraseIdx i).Perm (acc.eraseIdx j) := (a1.symm.trans (hp.trans b1)).cons_inv
  exact a2.trans ((List.Perm.cons _ hc).trans b2.symm)
/-- A tree is put at a key of it. -/
theorem MapB.put {d r : Nat} {S : Nat → Prop} {w : World} {es : Array MapEntry} {ps acc : List (ByteArray × Tr d)} {s : ByteArray} {x : Tr d} {u : Value} (h : MapB S w r es ps acc) (hg : keysB (acc.map Prod.fst) = true) (hr : ¬ S r) (hu : TreeG S w d x u) :
    ∃ w' es' ps', (Instr.mapUpdate 123 (.map (some r)) (.string s) u).run Tryz.prog w = .ok () w' ∧ Below r w w' ∧ w'.heap.size = w.heap.size ∧ (∀ b, b ≠ r → w'.heap[b]? = w.heap[b]?) ∧ MapB S w' r es' ps' (putL (acc.map Prod.fst) (acc.map Prod.snd) s x) := by
  have hrl := (Array.getElem?_eq_some_iff.1 h.obj).1
  have hsz : ∀ o, (withObj w r o).heap.size = w.heap.size := fun o => by simp [withObj]
  have hblk : ∀ o b, b ≠ r → (withObj w r o).heap[b]? = w.heap[b]? := fun o b hb => withObj_block w r o b hb
  have hmv : ∀ o y v, TreeG S w d y v → TreeG S (withObj w r o) d y v := fun o y v hy => TreeG.moved (fun b hb => hblk o b (fun e => hr (e ▸ hb))) (fun _ h => h) d y v hy
  have hobj : ∀ o, (withObj w r o).heap[r]? = some o := fun o => by simp [withObj, hrl]
  have hlen : (acc.map Prod.fst).length = (acc.map Prod.snd).length := by rw [List.length_map, List.length_map]
  have hnd : (acc.map Prod.fst).Nodup := keysB_nodup hg
  have hndp : (ps.map Prod.fst).Nodup := (h.perm.map Prod.fst).nodup_iff.2 hnd
  by_cases hm : s ∈ acc.map Prod.fst
  · obtain ⟨q, hq, hqs⟩ := List.mem_map.1 hm
    obtain ⟨qs, qy⟩ := q
    have hqs : qs = s := hqs
    subst hqs
    obtain ⟨j, v, hpj, hej, _, hbefore⟩ := h.ent.find hndp (h.perm.mem_iff.2 hq)
    obtain ⟨k, hk⟩ := List.getElem?_of_mem hq
    have hkk : (acc.map Prod.fst)[k]? = some qs := by rw [List.getElem?_map, hk]; rfl
    have hth : putL (acc.map Prod.fst) (acc.map Prod.snd) qs x = acc.set k (qs, x) := by
      rw [putL_there (p := none) hlen hg hkk, zip_unzip]
    have hjl := (List.getElem?_eq_some_iff.1 hpj).1
    refine ⟨_, es.modify j fun e => { e with key := .string qs, val := u }, ps.set j (qs, x), run_mapSet w r ps.length j es qs u v j h.obj hej hbefore, below_withObj _ _ (Nat.le_refl _), hsz _, hblk _, ?_, ?_, ?_⟩
    · rw [hobj, List.length_set]
    · rw [hth]; exact set_perm h.perm hnd hpj hk
    · refine ⟨by rw [Array.size_modify, List.length_set]; exact h.ent.1, fun i k' z hi => ?_⟩
      by_cases e : j = i
      · subst e
        rw [List.getElem?_set_self (by omega)] at hi
        cases hi
        exact ⟨u, by simp [Array.getElem?_modify, hej], hmv _ _ _ hu⟩
      · rw [List.getElem?_set_ne e] at hi
        obtain ⟨v', hv', ha⟩ := h.ent.2 i k' z hi
        exact ⟨v', by rw [Array.getElem?_modify, if_neg e]; exact hv', hmv _ _ _ ha⟩
  · have hmiss := h.ent.miss (s := s) (fun hp => hm ((h.perm.map Prod.fst).mem_iff.1 hp))
    have hp := putL_new (x := x) hlen hm
    rw [zip_unzip] at hp
    refine ⟨_, es.push ⟨.string s, u, ps.length⟩, ps ++ [(s, x)], run_mapPush w r ps.length es s u h.obj hmiss, below_withObj _ _ (Nat.le_refl _), hsz _, hblk _, ?_, ?_, ?_⟩
    · rw [hobj, List.length_append, List.length_singleton]
    · exact (h.perm.append_right _).trans hp
    · refine ⟨by rw [Array.size_push, List.length_append, List.length_singleton, h.ent.1], fun i k z hi => ?_⟩
      have hes : es.size = ps.length := h.ent.1
      by_cases e : i < ps.length
      · rw [List.getElem?_append_left e] at hi
        obtain ⟨v', hv', ha⟩ := h.ent.2 i k z hi
        exact ⟨v', by rw [Array.getElem?_push, if_neg (by omega)]; exact hv', hmv _ _ _ ha⟩
      · have hil := (List.getElem?_eq_some_iff.1 hi).1
        rw [List.length_append, List.length_singleton] at hil
        obtain rfl : i = ps.length := by omega
        rw [List.getElem?_append_right (Nat.le_refl _), Nat.sub_self] at hi
        cases hi
        exact ⟨u, by rw [Array.getElem?_push, if_pos hes.symm], hmv _ _ _ hu⟩
/-- .. as a tree. -/
theorem MapB.tree {d r : Nat} {S : Nat → Prop} {w : World} {es : Array MapEntry} {ps acc : List (ByteArray × Tr d)} (h : MapB S w r es ps acc) (hg : keysB (acc.map Prod.fst) = true) (hl : acc.length ≤ 1000) {N : Nat} (hr : N ≤ r) (hS : ∀ b, S b → N ≤ b ∧ b < w.heap.size) : TreeG (fun b => N ≤ b ∧ b < w.heap.size) w (d + 1) (mapT d acc) (.iface 125 (.agg #[.map (some r)])) :=
  Or.inr (Or.inr (Or.inr (Or.inr ⟨acc.map Prod.fst, acc.map Prod.snd, ps, r, es, by rw [List.length_map]; exact hl, hg, by rw [List.length_map, List.length_map], by rw [zip_unzip]; exact h.perm, rfl, rfl, ⟨hr, (Array.getElem?_eq_some_iff.1 h.obj).1⟩, h.obj, h.ent.moved (fun x u hx => TreeG.mono hx hS)⟩)))
end Go.Proofs.YtoangpfmjohhmaaGreatDoor

/- What stands while l2Put of the model makes keys and trees. -/
namespace Go.Proofs.YtoangpfmjohhmaaGreatDoor
open Go.RowKit Go.Deep

/-- What stands while keys and trees are put into a variable's lists. -/
structure P2At (d : Nat) (S : Nat → Prop) (N ob : Nat) (W wr : World) (ks : List ByteArray) (xs : List (Tr d)) (kv lv : Value) (vs : List Value) : Prop where
  out : Blk5 wr ob 26 (.int .i64 6) (.int .i64 0) (.string { data := #[] }) kv lv
  keys : wr.ownsRow N 9 1 kv ks.length (ks.map Value.string)
  row : VTo S N wr lv xs vs
  below : Below N W wr
  offk : kv.ownBlock ≠ some ob
  offl : lv.ownBlock ≠ some ob
  apart : ∀ g, kv.ownBlock = some g → lv.ownBlock ≠ some g
  ge : N ≤ ob

theorem ownsRow_block {N e size n : Nat} {w w' : World} {v : Value} {vs : List Value} (h : w.ownsRow N e size v n vs) (hb : ∀ g, v.ownBlock = some g → w'.heap[g]? = w.heap[g]?) : w'.ownsRow N e size v n vs := by
  refine ⟨h.1, ?_⟩
  rcases h.2 with h | ⟨g, cap, cur, hv, hg, hh, hrest⟩
  · exact Or.inl h
  · exact Or.inr ⟨g, cap, cur, hv, hg, (hb g (by rw [hv]; rfl)).trans hh, hrest⟩

theorem P2At.drew {d N ob : Nat} {S : Nat → Prop} {W wr : World} {ks : List ByteArray} {xs : List (Tr d)} {kv lv : Value} {vs : List Value} (h : P2At d S N ob W wr ks xs kv lv vs) : P2At d S N ob W wr.drew ks xs kv lv vs :=
  ⟨h.out, h.keys, h.row.moved (fun _ _ => rfl) (fun _ _ => rfl), ⟨h.below.os, h.below.tape, h.below.output, h.below.size, h.below.block⟩, h.offk, h.offl, h.apart, h.ge⟩

/-- One key more. -/
theorem P2At.pushK {d N ob : Nat} {S : Nat → Prop} {W wr w2 : World} {ks : List ByteArray} {xs : List (Tr d)} {kv lv kv' : Value} {vs : List Value} {s : ByteArray} {o : Obj} (h : P2At d S N ob W wr ks xs kv lv vs) (hS : ∀ b, S b → b < N)
    (hown : w2.ownsRow N 9 1 kv' (ks.length + 1) (ks.map Value.string ++ [.string s])) (hg : (wr.alloc o).grownBy w2 kv.ownBlock) (hw : kv'.ownBlock = kv.ownBlock ∨ kv'.ownBlock = some (wr.alloc o).heap.size) :
    Blk5 w2 ob 26 (.int .i64 6) (.int .i64 0) (.string { data := #[] }) kv lv ∧ P2At d S N ob W (w2.setCell ⟨ob, 3, none⟩ kv') (ks ++ [s]) xs kv' lv vs := by
  have hol := h.out.lt
  have hge := h.ge
  have hs2 := hg.size
  have hz : (wr.alloc o).heap.size = wr.heap.size + 1 := by simp
  rw [hz] at hw
  have hblk : ∀ b, b < wr.heap.size → some b ≠ kv.ownBlock → w2.heap[b]? = wr.heap[b]? := fun b hb1 hb2 => (hg.block b (by omega) hb2).trans (Below.heap_alloc _ _ _ hb1)
  have yb : Blk5 w2 ob 26 (.int .i64 6) (.int .i64 0) (.string { data := #[] }) kv lv := h.out.of_block (hblk ob hol (fun e => h.offk e.symm))
  have hoff : kv'.ownBlock ≠ some ob := by
    rcases hw with e | e
    · rw [e]; exact h.offk
    · rw [e]; intro e2; cases e2; omega
  have hlrow : ∀ g, lv.ownBlock = some g → w2.heap[g]? = wr.heap[g]? := fun g hg' => hblk g (h.row.1.lt g hg').2 (fun e => h.apart g e.symm hg')
  have hNk : ∀ g, kv.ownBlock = some g → N ≤ g := fun g hg' => (h.keys.lt g hg').1
  refine ⟨yb, yb.set3 _, ?_, ?_, ?_, hoff, h.offl, ?_, hge⟩
  · rw [List.length_append, List.map_append]
    exact ownsRow_block hown (fun g hg' => Below.heap_setCell _ _ _ _ (fun e => hoff (by rw [hg', e])))
  · have hNw : N ≤ wr.heap.size := by omega
    refine h.row.moved (fun b hb => ?_) (fun g hg' => ?_)
    · exact (Below.heap_setCell _ _ _ _ (by have := hS b hb; show b ≠ ob; omega)).trans (hblk b (by have := hS b hb; omega) (fun e => by have := hNk b e.symm; have := hS b hb; omega))
    · exact (Below.heap_setCell _ _ _ _ (fun e => h.offl (by rw [hg', e]))).trans (hlrow g hg')
  · have hb := h.below
    refine ⟨hg.os.trans hb.os, hg.tape.trans hb.tape, hg.output.trans hb.output, ?_, fun b hbN => ?_⟩
    · have := hb.size
      simp [World.setCell]
      omega
    · exact (Below.heap_setCell _ _ _ _ (by show b ≠ ob; omega)).trans ((hblk b (by omega) (fun e => by have := hNk b e.symm; omega)).trans (hb.block b hbN))
  · intro g hg' hl
    rcases hw with e | e
    · exact h.apart g (by rw [← e]; exact hg') hl
    · rw [hg'] at e
      cases e
      have := (h.row.1.lt _ hl).2
      omega

/-- One tree more. -/
theorem P2At.pushX {d N ob : Nat} {S : Nat → Prop} {W wr w2 : World} {ks : List ByteArray} {xs : List (Tr d)} {kv lv lv' : Value} {vs : List Value} {x : Tr d} {v0 v1 v2 v3 v4 : Value} {o : Obj} (h : P2At d S N ob W wr ks xs kv lv vs) (hS : ∀ b, S b → b < N) (hx : ValAt S wr d x (.agg #[v0, v1, v2, v3, v4]))
    (hown : w2.ownsRow N 26 5 lv' (xs.length + 1) (vs ++ [v0, v1, v2, v3, v4])) (hg : (wr.alloc o).grownBy w2 lv.ownBlock) (hw : lv'.ownBlock = lv.ownBlock ∨ lv'.ownBlock = some (wr.alloc o).heap.size) :
    Blk5 w2 ob 26 (.int .i64 6) (.int .i64 0) (.string { data := #[] }) kv lv ∧ P2At d S N ob W (w2.setCell ⟨ob, 4, none⟩ lv') ks (xs ++ [x]) kv lv' (vs ++ [v0, v1, v2, v3, v4]) := by
  have hol := h.out.lt
  have hge := h.ge
  have hs2 := hg.size
  have hz : (wr.alloc o).heap.size = wr.heap.size + 1 := by simp
  rw [hz] at hw
  have hblk : ∀ b, b < wr.heap.size → some b ≠ lv.ownBlock → w2.heap[b]? = wr.heap[b]? := fun b hb1 hb2 => (hg.block b (by omega) hb2).trans (Below.heap_alloc _ _ _ hb1)
  have yb : Blk5 w2 ob 26 (.int .i64 6) (.int .i64 0) (.string { data := #[] }) kv lv := h.out.of_block (hblk ob hol (fun e => h.offl e.symm))
  have hoff : lv'.ownBlock ≠ some ob := by
    rcases hw with e | e
    · rw [e]; exact h.offl
    · rw [e]; intro e2; cases e2; omega
  have hkrow : ∀ g, kv.ownBlock = some g → w2.heap[g]? = wr.heap[g]? := fun g hg' => hblk g (h.keys.lt g hg').2 (fun e => h.apart g hg' e.symm)
  have hNl : ∀ g, lv.ownBlock = some g → N ≤ g := fun g hg' => (h.row.1.lt g hg').1
  have hsame : Same S wr w2 := fun b hb => hblk b (by have := hS b hb; omega) (fun e => by have := hNl b e.symm; have := hS b hb; omega)
  refine ⟨yb, yb.set4 _, ?_, ?_, ?_, h.offk, hoff, ?_, hge⟩
  · exact ownsRow_block h.keys (fun g hg' => (Below.heap_setCell _ _ _ _ (fun e => h.offk (by rw [hg', e]))).trans (hkrow g hg'))
  · exact (h.row.grow hsame hx hown).moved (fun b hb => Below.heap_setCell _ _ _ _ (by have := hS b hb; show b ≠ ob; omega)) (fun g hg' => Below.heap_setCell _ _ _ _ (fun e => hoff (by rw [hg', e])))
  · have hb := h.below
    refine ⟨hg.os.trans hb.os, hg.tape.trans hb.tape, hg.output.trans hb.output, ?_, fun b hbN => ?_⟩
    · have := hb.size
      simp [World.setCell]
      omega
    · exact (Below.heap_setCell _ _ _ _ (by show b ≠ ob; omega)).trans ((hblk b (by omega) (fun e => by have := hNl b e.symm; omega)).trans (hb.block b hbN))
  · intro g hg' hl
    rcases hw with e | e
    · exact h.apart g hg' (by rw [← e]; exact hl)
    · rw [hl] at e
      cases e
      have := (h.keys.lt _ hg').2
      omega
end Go.Proofs.YtoangpfmjohhmaaGreatDoor

/- What stands when l2Put of the model is through. -/
namespace Go.Proofs.YtoangpfmjohhmaaGreatDoor
open Go.RowKit Go.Deep

/-- What is put together has what there was, and x at s. -/
theorem foldP_all {α : Type} {s : ByteArray} {x : α} {Q : ByteArray × α → Prop} (hx : Q (s, x)) : ∀ (ps : List (ByteArray × α)) (st : Bool × List (ByteArray × α)), (∀ p ∈ st.2, Q p) → (∀ p ∈ ps, Q p) → ∀ p ∈ (ps.foldl (stepP s x) st).2, Q p
  | [], _, h, _ => h
  | q :: r, st, h, hp => by
    rw [List.foldl_cons]
    refine foldP_all hx r _ ?_ (fun p h' => hp p (List.mem_cons_of_mem _ h'))
    intro p hm
    unfold stepP at hm
    rcases List.mem_append.1 hm with hm | hm
    · split at hm
      · rcases List.mem_append.1 hm with hm | hm
        · exact h p hm
        · rw [List.mem_singleton.1 hm]; exact hx
      · exact h p hm
    · split at hm
      · cases hm
      · rw [List.mem_singleton.1 hm]; exact hp q (List.mem_cons_self ..)
theorem endP_all {α : Type} {s : ByteArray} {x : α} {Q : ByteArray × α → Prop} (hx : Q (s, x)) {st : Bool × List (ByteArray × α)} (h : ∀ p ∈ st.2, Q p) : ∀ p ∈ endP s x st, Q p := by
  intro p hp
  unfold endP at hp
  split at hp
  · exact h p hp
  · rcases List.mem_append.1 hp with hm | hm
    · exact h p hm
    · rw [List.mem_singleton.1 hm]; exact hx
theorem endP_true {α : Type} {s : ByteArray} {x : α} (acc : List (ByteArray × α)) : endP s x (true, acc) = acc := rfl
theorem endP_false {α : Type} {s : ByteArray} {x : α} (acc : List (ByteArray × α)) : endP s x (false, acc) = acc ++ [(s, x)] := rfl

/-- A row of texts of its own lies in memory. -/
theorem StrsAt.of_own {N : Nat} {S : Nat → Prop} {w : World} {kv : Value} {ks : List ByteArray} (h : w.ownsRow N 9 1 kv ks.length (ks.map Value.string)) (hl : ks.length < 17592186044416) (hs : ∀ s ∈ ks, s.size < 281474976710656) (hS : ∀ b, N ≤ b → b < w.heap.size → S b) : StrsAt S w kv ks := by
  refine ⟨hl, hs, ?_⟩
  rcases h.2 with ⟨rfl, h0⟩ | ⟨g, cap, cur, rfl, hg, hh, _⟩
  · exact ⟨none, 0, by rw [h0], Or.inl (List.eq_nil_of_length_eq_zero h0)⟩
  · refine ⟨some ⟨g, 0, none⟩, cap, rfl, Or.inr ⟨g, 0, hS g hg (Array.getElem?_eq_some_iff.1 hh).1, rfl, fun i s hi => ?_⟩⟩
    have hv : (ks.map Value.string)[i]? = some (.string s) := by rw [List.getElem?_map, hi]; rfl
    have hc := h.cells (g := g) rfl i _ hv
    have hadd : (⟨g, 0, none⟩ : Addr).add i = ⟨g, 0 + i, none⟩ := by unfold Addr.add; split <;> simp_all
    rwa [hadd] at hc

/-- The variable, told: a tree by keys. -/
theorem P2At.done {d N r : Nat} {S : Nat → Prop} {w W wz : World} {ps : List (ByteArray × Tr d)} {ks : List ByteArray} {xs : List (Tr d)} {kv lv : Value} {vs : List Value} (h : P2At d S N N W wz ks xs kv lv vs) (hks : ks = ps.map Prod.fst) (hxs : xs = ps.map Prod.snd) (hS : Within S w) (hwr : w.heap.size ≤ r) (hr : r < N) (hW : Below w.heap.size w W) (hlen : ps.length ≤ 100000) (hsz : ∀ p ∈ ps, p.1.size < 281474976710656) :
    ∀ wF, wF = set5 wz r 0 (.int .i64 6) (.int .i64 0) (.string { data := #[] }) kv lv → ValAt (fun b => S b ∨ Fresh w wF b) wF (d + 1) (mapT d ps) (.agg #[.int .i64 6, .int .i64 0, .string { data := #[] }, kv, lv]) ∧ Below w.heap.size w wF := by
  intro wF hF
  subst hks hxs
  have hzF : wF.heap.size = wz.heap.size := by rw [hF, set5_size]
  have hbz := h.below.size
  have hsm : ∀ b, b ≠ r → wF.heap[b]? = wz.heap[b]? := fun b hb => by rw [hF, set5_block _ _ _ _ _ _ _ _ _ hb]
  have hkl : (ps.map Prod.fst).length ≤ 100000 := by rw [List.length_map]; exact hlen
  have hxl : (ps.map Prod.snd).length ≤ 100000 := by rw [List.length_map]; exact hlen
  have hkeys : StrsAt (fun b => N ≤ b ∧ b < wz.heap.size) wz kv (ps.map Prod.fst) := StrsAt.of_own h.keys (by omega) (fun s hs => by obtain ⟨p, hp, rfl⟩ := List.mem_map.1 hs; exact hsz p hp) (fun b h1 h2 => ⟨h1, h2⟩)
  have hrow := h.row.at (by omega)
  have hmv : Same (fun b => S b ∨ (N ≤ b ∧ b < wz.heap.size)) wz wF := fun b hb => hsm b (by
    rcases hb with hb | hb
    · have := hS b hb; omega
    · have := hb.1; omega)
  have hin : ∀ b, (S b ∨ (N ≤ b ∧ b < wz.heap.size)) → (S b ∨ Fresh w wF b) := fun b hb => by
    rcases hb with hb | hb
    · exact Or.inl hb
    · exact Or.inr ⟨by have := hb.1; omega, by have := hb.2; omega⟩
  refine ⟨⟨_, _, rfl, ⟨by show _ ≤ (6 : Int); omega, by show (6 : Int) ≤ _; omega⟩, ⟨by show _ ≤ (0 : Int); omega, by show (0 : Int) ≤ _; omega⟩, by show (0 : Nat) < _; omega, hkeys.moved (fun b hb => hsm b (by have := hb.1; omega)) (fun b hb => Or.inr ⟨by have := hb.1; omega, by have := hb.2; omega⟩), hrow.moved hmv hin (fun y u hy => ValAt.moved hmv hin _ y u hy)⟩, ?_⟩
  rw [hF]
  refine below_set5 ?_ hwr _ _ _ _ _ _
  exact hW.trans (h.below.mono (by omega))
end Go.Proofs.YtoangpfmjohhmaaGreatDoor
