/- Texts of the proof, put together by program: Read, ReadB, LFnRow0. -/
import Derived.Test.YthbpfiandjggcaaV1
import Derived.Test.YthbpfiandjggcaaRows
import Derived.Deep.Slices
import Derived.Deep.Strs
import Derived.SizedLaws
import Derived.OpenShut
import Derived.Lib.SmallJoins
import Derived.Carry
import Derived.Test.YthbpfiandjggcaaV5
import Derived.ChangeSlices
import Derived.Test.YthbpfiandjggcaaV30
/- A tree that came in, read as data, lies in memory as a tree. -/
namespace Go.Proofs.Ythbpfiandjggcaa
open Go.RowKit Go.Deep

section
variable {H : Type} {enc : TypeId × Value → H} {W : World}

theorem addr_add {a : Addr} {n : Nat} (h : a.spot = none) : a.add n = ⟨a.block, a.off + n, none⟩ := by
  obtain ⟨b, o, s⟩ := a
  simp only at h
  subst h
  unfold Addr.add
  split
  · rename_i h0
    subst h0
    rfl
  · rfl
theorem cell_spot {a : Addr} {v : Value} (h : W.cell? a = some v) : a.spot = none ∧ a.block < W.heap.size := by
  refine ⟨?_, World.block_lt_of_cell? W a h⟩
  unfold World.cell? at h
  split at h
  · split at h
    · cases h
    · rename_i hs
      cases hs2 : a.spot with
      | none => rfl
      | some x => rw [hs2] at hs; simp at hs
  · cases h

theorem each_weight {e : TypeId} : ∀ {ds : List (DataW H)} {d : DataW H}, d ∈ ds → ∀ n ∈ d.weights Try.prog e, n ∈ DataW.weightsAll Try.prog e ds
  | _ :: r, d, h, n, hn => by
    rw [DataW.weightsAll]
    cases h with
    | head => exact List.mem_append_left _ hn
    | tail _ h => exact List.mem_append_right _ (each_weight h n hn)

/-- What the form's own reach says of a reading. -/
def Fits (t : TypeId) (d : DataW H) : Prop := ∀ n ∈ d.weights Try.prog t, n ≤ reachBytes

theorem read_strs {fuel : Nat} {cs : List Value} {x : DataW H × List MemPlace} (h : DataW.trod enc Try.prog W 0 (fun _ => true) true fuel 23 cs = some x) (hz : Fits 23 x.1) :
    ∃ v ss, cs = [v] ∧ StrsAt (fun b => b < W.heap.size) W v ss := by
  rcases open_strs Try.underlying23 Try.underlying9 (by kernel_rfl) h with ⟨rfl, _⟩ | ⟨a, len, cap, m, Sx, rfl, _, hl, hm, hmm, rfl, hc⟩
  · exact ⟨_, [], rfl, by simp, by simp, none, 0, rfl, Or.inl rfl⟩
  · simp only [if_true] at hmm
    subst hmm
    have hb : Try.prog.bytesOf 9 = 16 := by kernel_rfl
    have hw : ∀ n ∈ (((List.range len).map (fun i => (DataW.lit (.string (Sx i).data.toList) : DataW H))).length + ((List.range (m - len)).map (fun j => (DataW.lit (.string (Sx (len + j)).data.toList) : DataW H))).length) * 16 ::
        (DataW.weightsAll Try.prog 9 ((List.range len).map (fun i => (DataW.lit (.string (Sx i).data.toList) : DataW H))) ++ DataW.weightsAll Try.prog 9 ((List.range (m - len)).map (fun j => (DataW.lit (.string (Sx (len + j)).data.toList) : DataW H)))), n ≤ reachBytes := by
      intro n hn
      refine hz n ?_
      simp only [DataW.weights, Try.underlying23, hb]
      exact hn
    have h1 := hw _ (List.mem_cons_self ..)
    simp only [List.length_map, List.length_range] at h1
    unfold reachBytes at h1 hw
    refine ⟨_, (List.range len).map Sx, rfl, ?_, ?_, some a, m, by simp, ?_⟩
    · simp
      omega
    · intro s hs
      obtain ⟨i, hi, rfl⟩ := List.mem_map.1 hs
      have h2 := hw (Sx i).size (List.mem_cons_of_mem _ (List.mem_append_left _ (each_weight (List.mem_map.2 ⟨i, hi, rfl⟩) _ (by simp [DataW.weights]))))
      omega
    · by_cases h0 : len = 0
      · subst h0
        exact Or.inl rfl
      · have hsp := cell_spot (hc 0 (by omega)).1
        have hsp2 : a.spot = none := by
          have e : (a.add 0) = a := by simp [Addr.add]
          rw [e] at hsp
          exact hsp.1
        have hblk : a.block < W.heap.size := by
          have e : (a.add 0) = a := by simp [Addr.add]
          rw [e] at hsp
          exact hsp.2
        refine Or.inr ⟨a.block, a.off, hblk, ?_, fun i s hi => ?_⟩
        · obtain ⟨b, o, sp⟩ := a
          simp only at hsp2
          subst hsp2
          rfl
        · obtain ⟨hi1, hi2⟩ := List.getElem?_eq_some_iff.1 hi
          simp only [List.length_map, List.length_range] at hi1
          simp only [List.getElem_map, List.getElem_range] at hi2
          subst hi2
          have := (hc i (by omega)).1
          rwa [addr_add hsp2] at this

theorem wf_i64 {n : Int} (h : (Lit.int .i64 n).wf = true) : I64 n := by
  simp [Lit.wf, IntKind.min, IntKind.max, IntKind.signed, IntKind.bits] at h
  exact h

/-- The weights of a struct's parts. -/
theorem agg_weight {t : TypeId} {fs : Array Field} (ht : Try.prog.underlying t = some (.struct fs)) {parts : List (DataW H)} (hz : Fits t (.agg parts)) {i : Nat} {f : Field} {d : DataW H} (hf : fs[i]? = some f) (hd : parts[i]? = some d) : Fits f.type d := by
  intro n hn
  refine hz n ?_
  simp only [DataW.weights, ht]
  exact DataW.weights_mem_each (ts := fs.toList.map (·.type)) (by rw [List.getElem?_map, Array.getElem?_toList, hf]; rfl) hd n hn

theorem choose_list {α : Type} {p : Nat → α → Prop} : ∀ (n : Nat), (∀ i, i < n → ∃ x, p i x) → ∃ xs : List α, xs.length = n ∧ ∀ i x, xs[i]? = some x → p i x
  | 0, _ => ⟨[], rfl, fun i x h => by simp at h⟩
  | n + 1, h => by
    obtain ⟨xs, hl, hx⟩ := choose_list n (fun i hi => h i (by omega))
    obtain ⟨y, hy⟩ := h n (by omega)
    refine ⟨xs ++ [y], by simp [hl], fun i x hi => ?_⟩
    by_cases e : i < n
    · rw [List.getElem?_append_left (by omega)] at hi
      exact hx i x hi
    · have hlt := (List.getElem?_eq_some_iff.1 hi).1
      simp [hl] at hlt
      obtain rfl : i = n := by omega
      rw [List.getElem?_append_right (by omega), hl, Nat.sub_self] at hi
      cases hi
      exact hy

theorem cells5 {a : Addr} {cs : List Value} (h : W.cells? 0 a 5 = some cs) : ∃ c0 c1 c2 c3 c4, cs = [c0, c1, c2, c3, c4] ∧ W.cell? (a.add 0) = some c0 ∧ W.cell? (a.add 1) = some c1 ∧ W.cell? (a.add 2) = some c2 ∧ W.cell? (a.add 3) = some c3 ∧ W.cell? (a.add 4) = some c4 := by
  unfold World.cells? at h
  rw [if_pos (Nat.zero_le _)] at h
  simp only [show List.range 5 = [0, 1, 2, 3, 4] from rfl, List.mapM_cons, List.mapM_nil, Option.pure_def, Option.bind_eq_bind, Option.bind_eq_some_iff, Option.some.injEq] at h
  obtain ⟨c0, h0, r0, ⟨c1, h1, r1, ⟨c2, h2, r2, ⟨c3, h3, r3, ⟨c4, h4, r4, e5, e4⟩, e3⟩, e2⟩, e1⟩, e0⟩ := h
  subst e5 e4 e3 e2 e1 e0
  exact ⟨c0, c1, c2, c3, c4, rfl, h0, h1, h2, h3, h4⟩

end
end Go.Proofs.Ythbpfiandjggcaa

/- Bytes that came in, read as data, lie in memory as bytes. -/
namespace Go.Proofs.Ythbpfiandjggcaa
open Go.RowKit Go.Deep Go.ChangeShapes

theorem read_bytes {H : Type} {enc : TypeId × Value → H} {W : World} {v : Value} {d : DataW H} {p : List MemPlace} (hs : ∃ a n c, v = .slice a n c) (h : DataW.Trod enc Try.prog W 0 (fun _ => true) true 22 v d p) :
    ∃ a n cap, v = .slice a n cap ∧ n ≤ cap ∧ cap ≤ 9223372036854775807 ∧ BytesAt W.heap.size W a n := by
  obtain ⟨a0, n0, c0, rfl⟩ := hs
  obtain ⟨fuel, hf⟩ := h
  rcases open_ints Try.underlying22 Try.underlying5 (by kernel_rfl) hf with ⟨e, _⟩ | ⟨a, len, cap, zs, e, _, hl, hm, hzl, _, hc, hw⟩
  · simp [Value.cells] at e
    obtain ⟨rfl, rfl, rfl⟩ := e
    exact ⟨none, 0, 0, rfl, Nat.le_refl _, by omega, Or.inl rfl⟩
  · simp [Value.cells] at e
    obtain ⟨rfl, rfl, rfl⟩ := e
    refine ⟨_, _, _, rfl, hl, by unfold maxLen at hm; omega, ?_⟩
    by_cases h0 : n0 = 0
    · exact Or.inl h0
    · simp only [if_true] at hzl
      have e0 : (a.add 0) = a := by simp [Addr.add]
      have hsp := cell_spot (hc 0 (by omega))
      rw [e0] at hsp
      have hadd : ∀ i, a.add i = ⟨a.block, a.off + i, none⟩ := fun i => addr_add hsp.1
      refine Or.inr ⟨a.block, a.off, hsp.2, ?_, fun i hi => ?_⟩
      · obtain ⟨b, o, s⟩ := a
        have : s = none := hsp.1
        rw [this]
      · have hci := hc i (by omega)
        rw [hadd] at hci
        refine ⟨zs.getD i 0, ?_, ?_, hci⟩
        · have hmem : zs.getD i 0 ∈ zs := by rw [List.getD_eq_getElem?_getD, List.getElem?_eq_getElem (by omega)]; exact List.getElem_mem _
          have := hw _ hmem
          simp only [Lit.wf, IntKind.min, IntKind.max, IntKind.signed, IntKind.bits] at this
          simp at this
          rw [List.getD_eq_getElem?_getD]
          omega
        · have hmem : zs.getD i 0 ∈ zs := by rw [List.getD_eq_getElem?_getD, List.getElem?_eq_getElem (by omega)]; exact List.getElem_mem _
          have := hw _ hmem
          simp only [Lit.wf, IntKind.min, IntKind.max, IntKind.signed, IntKind.bits] at this
          simp at this
          rw [List.getD_eq_getElem?_getD]
          omega
end Go.Proofs.Ythbpfiandjggcaa

/- FnValRow: rows of drawn trees, and how they stand. -/
namespace Go.Proofs.Ythbpfiandjggcaa
open Go.RowKit Go.Deep

theorem ordI_at {d : Nat} {w W : World} {t t' : Tr d} {v v' : Value} (h : ValAt (FreshP w W) W d t v) (h' : ValAt (FreshP w W) W d t' v') (hs : wtT d t ≤ 10000) : Calls Try.prog 8 #[v, v'] W fun e w' => e = .returned (.int .i64 (ordT d t t')) ∧ Below W.heap.size W w' :=
  implOrder_any d _ _ t t' v v' W h h' under_P under_P (by have := nodes_wt' d t; omega)
theorem samI_at {d : Nat} {w W : World} {t t' : Tr d} {v v' : Value} (h : ValAt (FreshP w W) W d t v) (h' : ValAt (FreshP w W) W d t' v') (hs : wtT d t ≤ 10000) : Calls Try.prog 10 #[v, v'] W fun e w' => e = .returned (.bool (ordT d t t' == 0)) ∧ Below W.heap.size W w' := by
  have e : eqT d t t' = (ordT d t t' == 0) := by rw [Bool.eq_iff_iff, beq_iff_eq]; exact (ordT_eqT d t t').symm
  rw [← e]
  exact implSame_any d _ _ t t' v v' W h h' under_P under_P (by have := nodes_wt' d t; omega)

/-- A row of trees, as a tree. -/
def rowD {d : Nat} (xs : List (Tr d)) : Tr (d + 1) := ({ kind := 5, num := 0, str := ⟨#[]⟩, keys := [], list := xs } : Nd (Tr d))
theorem ordT_rowD {d : Nat} (xs ys : List (Tr d)) : ordT (d + 1) (rowD xs) (rowD ys) = ordL (ordT d) xs ys := by
  show orI (orI (cmpI 5 5) (orI (cmpI 0 0) (orI (cmpS ⟨#[]⟩ ⟨#[]⟩) (ordL cmpS [] [])))) (ordL (ordT d) xs ys) = _
  have h1 : cmpI 5 5 = 0 := by decide
  have h2 : cmpI 0 0 = 0 := by decide
  have h3 : cmpS ⟨#[]⟩ ⟨#[]⟩ = 0 := cmpS_eq (by simp)
  rw [h1, h2, h3]
  rfl
theorem rowD_at {S : Nat → Prop} {w : World} {d : Nat} {xs : List (Tr d)} {a : Option Addr} {n c : Nat} (h : RowAt S w (ValAt S w d) (.slice a n c) xs) : ValAt S w (d + 1) (rowD xs) (.agg #[.int .i64 5, .int .i64 0, .string { data := #[] }, .slice none 0 0, .slice a n c]) :=
  build_of ⟨by omega, by omega⟩ ⟨by omega, by omega⟩ (by show (0 : Nat) < _; omega) ⟨by show (0 : Nat) < _; omega, (fun s hs => by cases hs), none, 0, rfl, Or.inl rfl⟩ h
theorem row1_at {S : Nat → Prop} {w : World} {d g : Nat} {t : Tr d} {a0 a1 a2 a3 a4 : Value} (h : Blk5 w g 26 a0 a1 a2 a3 a4) (hg : S g) (ht : ValAt S w d t (.agg #[a0, a1, a2, a3, a4])) : RowAt S w (ValAt S w d) (.slice (some ⟨g, 0, none⟩) 1 1) [t] := by
  obtain ⟨e0, e1, e2, e3, e4⟩ := h.cell
  exact ⟨by simp, some ⟨g, 0, none⟩, 1, rfl, Or.inr ⟨g, 0, hg, rfl, fun i x hx => by
    match i, hx with
    | 0, hx => cases hx; exact ⟨a0, a1, a2, a3, a4, e0, e1, e2, e3, e4, ht⟩
    | i + 1, hx => simp at hx⟩⟩
theorem row2_at {S : Nat → Prop} {w : World} {d g : Nat} {c l : Tr d} {c0 c1 c2 c3 c4 l0 l1 l2 l3 l4 : Value} (h : w.heap[g]? = some (.cells #[c0, c1, c2, c3, c4, l0, l1, l2, l3, l4] 26 (0, 0))) (hg : S g) (hC : ValAt S w d c (.agg #[c0, c1, c2, c3, c4])) (hL : ValAt S w d l (.agg #[l0, l1, l2, l3, l4])) : RowAt S w (ValAt S w d) (.slice (some ⟨g, 0, none⟩) 2 2) [c, l] := by
  have hcl : ∀ j u, (#[c0, c1, c2, c3, c4, l0, l1, l2, l3, l4] : Array Value)[j]? = some u → w.cell? ⟨g, j, none⟩ = some u := fun j u hj => (cell_of_cells h).trans hj
  exact ⟨by simp, some ⟨g, 0, none⟩, 2, rfl, Or.inr ⟨g, 0, hg, rfl, fun i x hx => by
    match i, hx with
    | 0, hx => cases hx; exact ⟨c0, c1, c2, c3, c4, hcl 0 _ rfl, hcl 1 _ rfl, hcl 2 _ rfl, hcl 3 _ rfl, hcl 4 _ rfl, hC⟩
    | 1, hx => cases hx; exact ⟨l0, l1, l2, l3, l4, hcl 5 _ rfl, hcl 6 _ rfl, hcl 7 _ rfl, hcl 8 _ rfl, hcl 9 _ rfl, hL⟩
    | i + 2, hx => simp at hx⟩⟩
theorem freshP_new (w W : World) (o : Array Value) (T : TypeId) (h : w.heap.size ≤ W.heap.size) : FreshP w (W.alloc (.cells o T)) W.heap.size := ⟨⟨h, by simp⟩, ⟨o, T, heap_alloc_new W _⟩⟩
end Go.Proofs.Ythbpfiandjggcaa
