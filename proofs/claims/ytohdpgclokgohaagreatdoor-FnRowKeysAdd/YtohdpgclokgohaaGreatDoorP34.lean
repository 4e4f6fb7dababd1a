/- Texts of the proof, put together by program: WPairP. -/
import Derived.Test.YtohdpgclokgohaaGreatDoorP30
/- RowPairs: pairs of keys and trees; rows whose trees have memory of their own. -/
namespace Go.Proofs.YtohdpgclokgohaaGreatDoor
open Go.RowKit Go.Deep

/-- A text as a tree. -/
def textT (d : Nat) (s : ByteArray) : Tr (d + 1) := (Nd.mk 4 0 s [] [] : Nd (Tr d))
/-- A key and its tree, as a row of two. -/
def pairT (d : Nat) (p : ByteArray × Tr (d + 1)) : Tr (d + 2) := rowT (d + 1) [textT d p.1, p.2]
/-- All pairs. -/
def pairsL (d : Nat) (t : Tr (d + 2)) : List (Tr (d + 2)) := ((Nd.keys t).zip (Nd.list t)).map (pairT d)
/-- What RowPairs tells. -/
def pairsR (d : Nat) (t : Tr (d + 2)) : Tr (d + 3) × Bool :=
  if okT (d + 2) t = true ∧ Nd.kind t = 6 then (toldT (d + 2) (rowT (d + 2) (pairsL d t)), okT (d + 3) (rowT (d + 2) (pairsL d t))) else (zeroT (d + 2), false)
theorem okT_pairs (d : Nat) (t : Tr (d + 2)) : okT (d + 3) (pairsR d t).1 = true := by
  unfold pairsR
  split
  · exact okT_told _ _
  · exact okT_zero _
theorem pairsR_no {d : Nat} {t : Tr (d + 2)} (h : ¬ (okT (d + 2) t = true ∧ Nd.kind t = 6)) : pairsR d t = (zeroT (d + 2), false) := if_neg h
theorem pairsR_does {d : Nat} {t : Tr (d + 2)} (h : okT (d + 2) t = true) (h6 : Nd.kind t = 6) : pairsR d t = (toldT (d + 2) (rowT (d + 2) (pairsL d t)), okT (d + 3) (rowT (d + 2) (pairsL d t))) := if_pos ⟨h, h6⟩
theorem okT_keysOk {d : Nat} {t : Tr (d + 1)} (h : okT (d + 1) t = true) (h6 : Nd.kind t = 6) : (Nd.keys t).length = (Nd.list t).length ∧ keysB (Nd.keys t) = true := by
  obtain ⟨hf, _⟩ := okT_form h
  obtain ⟨kind, num, str, keys, list⟩ := t
  have h6 : kind = 6 := h6
  subst h6
  cases hb : headBad 6 num str keys.length list.length 6 with
  | true => rw [formT_bad hb] at hf; cases hf
  | false =>
    rw [formT_good hb] at hf
    simp at hf
    exact ⟨hf.1.1, hf.1.2⟩
theorem pairs_len {d : Nat} {t : Tr (d + 2)} (h : okT (d + 2) t = true) : (pairsL d t).length ≤ 60 := by
  unfold pairsL
  rw [List.length_map, List.length_zip]
  have := (okT_kinds h).2.1
  omega
theorem nodes_pairs {d : Nat} {t : Tr (d + 2)} (h : okT (d + 2) t = true) : (nodes (d + 3) (rowT (d + 2) (pairsL d t)) : Int) ≤ 4194304 := by
  have hl := pairs_len h
  have h1 : ∀ y ∈ pairsL d t, nodes (d + 2) y ≤ 300 + 2 := fun y hy => by
    unfold pairsL at hy
    obtain ⟨p, hp, rfl⟩ := List.mem_map.1 hy
    have hn := nodes_ok (okT_part h (List.of_mem_zip (show (p.1, p.2) ∈ _ from hp)).2)
    have e : nodes (d + 2) (pairT d p) = 1 + (nodes (d + 1) (textT d p.1) + (nodes (d + 1) p.2 + 0)) := rfl
    have e2 : nodes (d + 1) (textT d p.1) = 1 := rfl
    omega
  have h2 : ((pairsL d t).map (nodes (d + 2))).sum ≤ 302 * (pairsL d t).length := by
    clear hl
    generalize pairsL d t = l at h1
    induction l with
    | nil => simp
    | cons a r ih =>
      have ha := h1 a (List.mem_cons_self ..)
      have hr := ih (fun y hy => h1 y (List.mem_cons_of_mem _ hy))
      simp only [List.map_cons, List.sum_cons, List.length_cons]
      omega
  have h3 : nodes (d + 3) (rowT (d + 2) (pairsL d t)) = 1 + ((pairsL d t).map (nodes (d + 2))).sum := rfl
  rw [h3]
  omega
theorem pairs_step {d : Nat} {keys : List ByteArray} {xs : List (Tr (d + 1))} {k : Nat} {s : ByteArray} {x : Tr (d + 1)} (hs : keys[k]? = some s) (hx : xs[k]? = some x) : ((keys.zip xs).map (pairT d)).take (k + 1) = ((keys.zip xs).map (pairT d)).take k ++ [pairT d (s, x)] := by
  have h1 : ((keys.zip xs).map (pairT d))[k]? = some (pairT d (s, x)) := by
    have hz : (keys.zip xs)[k]? = some (s, x) := List.getElem?_zip_eq_some.2 ⟨hs, hx⟩
    rw [List.getElem?_map, hz]
    rfl
  obtain ⟨h2, h3⟩ := List.getElem?_eq_some_iff.1 h1
  rw [List.take_succ_eq_append_getElem h2, h3]

/-- Blocks of S, and those from N on that are not the row's own. -/
def Beside (S : Nat → Prop) (N : Nat) (w : World) (lv : Value) (b : Nat) : Prop := S b ∨ (N ≤ b ∧ b < w.heap.size ∧ some b ≠ lv.ownBlock)
theorem Beside.after {S : Nat → Prop} {N : Nat} {wr w1 w2 : World} {lv lv' : Value} {o : Obj} {b : Nat} (hS : ∀ b, S b → b < N) (hN : N ≤ wr.heap.size) (hown : ∀ g, lv.ownBlock = some g → N ≤ g ∧ g < wr.heap.size) (hb : Below wr.heap.size wr w1) (hg : (w1.alloc o).grownBy w2 lv.ownBlock) (hw : lv'.ownBlock = lv.ownBlock ∨ lv'.ownBlock = some (w1.alloc o).heap.size) (h : Beside S N wr lv b) :
    w2.heap[b]? = wr.heap[b]? ∧ Beside S N w2 lv' b := by
  have hz : (w1.alloc o).heap.size = w1.heap.size + 1 := by simp
  rw [hz] at hw
  have h1 := hb.size
  have h2 := hg.size
  have hblk : ∀ b, b < wr.heap.size → some b ≠ lv.ownBlock → w2.heap[b]? = wr.heap[b]? := fun b hb1 hb2 => ((hg.block b (by omega) hb2).trans (Below.heap_alloc _ _ _ (by omega))).trans (hb.block b hb1)
  rcases h with h | ⟨h3, h4, h5⟩
  · have hlt := hS b h
    exact ⟨hblk b (by omega) (fun e => by have := (hown b e.symm).1; omega), Or.inl h⟩
  · refine ⟨hblk b h4 h5, Or.inr ⟨h3, by omega, ?_⟩⟩
    rcases hw with e | e
    · rw [e]; exact h5
    · rw [e]; intro e2; cases e2; omega
theorem Beside.fresh {S : Nat → Prop} {N : Nat} {wr w1 w2 : World} {lv lv' : Value} {o : Obj} {b : Nat} (hS : ∀ b, S b → b < N) (hN : N ≤ wr.heap.size) (hown : ∀ g, lv.ownBlock = some g → N ≤ g ∧ g < wr.heap.size) (hb : wr.heap.size ≤ w1.heap.size) (hg : (w1.alloc o).grownBy w2 lv.ownBlock) (hw : lv'.ownBlock = lv.ownBlock ∨ lv'.ownBlock = some (w1.alloc o).heap.size) (h : S b ∨ (wr.heap.size ≤ b ∧ b < w1.heap.size)) :
    w2.heap[b]? = w1.heap[b]? ∧ Beside S N w2 lv' b := by
  have hz : (w1.alloc o).heap.size = w1.heap.size + 1 := by simp
  rw [hz] at hw
  have h2 := hg.size
  rcases h with h | ⟨h3, h4⟩
  · have hlt := hS b h
    exact ⟨(hg.block b (by omega) (fun e => by have := (hown b e.symm).1; omega)).trans (Below.heap_alloc _ _ _ (by omega)), Or.inl h⟩
  · have hne : some b ≠ lv.ownBlock := fun e => by have := (hown b e.symm).2; omega
    refine ⟨(hg.block b (by omega) hne).trans (Below.heap_alloc _ _ _ h4), Or.inr ⟨by omega, by omega, ?_⟩⟩
    rcases hw with e | e
    · rw [e]; exact hne
    · rw [e]; intro e2; cases e2; omega

/-- A row of the model's that owns its cells; its trees have memory of their own beside it. -/
def PTo {d : Nat} (S : Nat → Prop) (N : Nat) (w : World) (lv : Value) (xs : List (Tr d)) (vs : List Value) : Prop :=
  w.ownsRow N 26 5 lv xs.length vs ∧ ∀ (j : Nat) (x : Tr d), xs[j]? = some x → ∃ c0 c1 c2 c3 c4, vs[j * 5]? = some c0 ∧ vs[j * 5 + 1]? = some c1 ∧ vs[j * 5 + 2]? = some c2 ∧ vs[j * 5 + 3]? = some c3 ∧ vs[j * 5 + 4]? = some c4 ∧ ValAt (Beside S N w lv) w d x (.agg #[c0, c1, c2, c3, c4])
theorem PTo.slice {d N : Nat} {S : Nat → Prop} {w : World} {lv : Value} {xs : List (Tr d)} {vs : List Value} (h : PTo S N w lv xs vs) : ∃ a c, lv = .slice a xs.length c := by
  rcases h.1.2 with ⟨rfl, h0⟩ | ⟨g, cap, cur, rfl, _⟩
  · exact ⟨none, 0, by rw [h0]⟩
  · exact ⟨_, _, rfl⟩
theorem PTo.start {d : Nat} (S : Nat → Prop) (w : World) : PTo (d := d) S w.heap.size (w.alloc (.cells #[] 26)) (.slice (some ⟨w.heap.size, 0, none⟩) 0 0) [] [] :=
  ⟨⟨rfl, Or.inr ⟨w.heap.size, 0, #[], rfl, Nat.le_refl _, heap_alloc_new w _, Nat.le_refl _, Nat.zero_le _, rfl, rfl⟩⟩, fun j x h => by simp at h⟩
theorem PTo.push {d N : Nat} {S : Nat → Prop} {W wr w1 w2 : World} {lv lv' : Value} {xs : List (Tr d)} {vs : List Value} {x : Tr d} {v0 v1 v2 v3 v4 : Value} {o : Obj} (h : PTo S N wr lv xs vs) (hS : ∀ b, S b → b < N) (hN : N ≤ wr.heap.size) (hbW : Below N W wr) (hb : Below wr.heap.size wr w1) (hx : ValAt (fun b => S b ∨ (wr.heap.size ≤ b ∧ b < w1.heap.size)) w1 d x (.agg #[v0, v1, v2, v3, v4]))
    (hown : w2.ownsRow N 26 5 lv' (xs.length + 1) (vs ++ [v0, v1, v2, v3, v4])) (hg : (w1.alloc o).grownBy w2 lv.ownBlock) (hw : lv'.ownBlock = lv.ownBlock ∨ lv'.ownBlock = some (w1.alloc o).heap.size) : PTo S N w2 lv' (xs ++ [x]) (vs ++ [v0, v1, v2, v3, v4]) ∧ Below N W w2 := by
  have hlt := h.1.lt
  have hlen : vs.length = xs.length * 5 := h.1.1
  have h1 := hb.size
  have h2 : w1.heap.size + 1 ≤ w2.heap.size := Nat.le_trans (by simp) hg.size
  refine ⟨⟨by rw [List.length_append]; exact hown, fun j y hy => ?_⟩, ?_⟩
  · by_cases e : j < xs.length
    · rw [List.getElem?_append_left e] at hy
      obtain ⟨c0, c1, c2, c3, c4, e0, e1, e2, e3, e4, hv⟩ := h.2 j y hy
      refine ⟨c0, c1, c2, c3, c4, ?_, ?_, ?_, ?_, ?_, ValAt.moved (fun b hb' => (Beside.after hS hN hlt hb hg hw hb').1) (fun b hb' => (Beside.after hS hN hlt hb hg hw hb').2) _ _ _ hv⟩
      · rw [List.getElem?_append_left (by omega)]; exact e0
      · rw [List.getElem?_append_left (by omega)]; exact e1
      · rw [List.getElem?_append_left (by omega)]; exact e2
      · rw [List.getElem?_append_left (by omega)]; exact e3
      · rw [List.getElem?_append_left (by omega)]; exact e4
    · have hj : j = xs.length := by
        have := (List.getElem?_eq_some_iff.1 hy).1
        rw [List.length_append, List.length_singleton] at this
        omega
      subst hj
      rw [List.getElem?_append_right (Nat.le_refl _), Nat.sub_self] at hy
      cases hy
      refine ⟨v0, v1, v2, v3, v4, ?_, ?_, ?_, ?_, ?_, ValAt.moved (fun b hb' => (Beside.fresh hS hN hlt h1 hg hw hb').1) (fun b hb' => (Beside.fresh hS hN hlt h1 hg hw hb').2) _ _ _ hx⟩
      · rw [List.getElem?_append_right (by omega), hlen]; simp
      · rw [List.getElem?_append_right (by omega), hlen]; simp
      · rw [List.getElem?_append_right (by omega), hlen]; simp
      · rw [List.getElem?_append_right (by omega), hlen]; simp
      · rw [List.getElem?_append_right (by omega), hlen]; simp
  · refine ⟨hg.os.trans (hb.os.trans hbW.os), hg.tape.trans (hb.tape.trans hbW.tape), hg.output.trans (hb.output.trans hbW.output), ?_, fun b hb' => ?_⟩
    · have := hbW.size
      omega
    · exact (((hg.block b (by simp; omega) (fun e => by have := (hlt b e.symm).1; omega)).trans (Below.heap_alloc _ _ _ (by omega))).trans (hb.block b (by omega))).trans (hbW.block b hb')
/-- .. as a tree. -/
theorem PTo.tree {d N : Nat} {S : Nat → Prop} {w w' : World} {lv : Value} {xs : List (Tr d)} {vs : List Value} (h : PTo S N w lv xs vs) (hl : xs.length ≤ 100000) (hb : Below w.heap.size w w') (hS : Within S w) :
    ValAt (fun b => S b ∨ (N ≤ b ∧ b < w'.heap.size)) w' (d + 1) (rowT d xs) (.agg #[.int .i64 5, .int .i64 0, .string ByteArray.empty, .slice none 0 0, lv]) := by
  have hz := hb.size
  have hmv : Same (fun b => S b ∨ (N ≤ b ∧ b < w.heap.size)) w w' := fun b hb' => hb.block b (by rcases hb' with h | h; exact hS b h; exact h.2)
  have hin : ∀ b, (S b ∨ (N ≤ b ∧ b < w.heap.size)) → (S b ∨ (N ≤ b ∧ b < w'.heap.size)) := fun b hb' => by
    rcases hb' with h | h
    · exact Or.inl h
    · exact Or.inr ⟨h.1, by omega⟩
  have hrow : RowAt (fun b => S b ∨ (N ≤ b ∧ b < w.heap.size)) w (ValAt (fun b => S b ∨ (N ≤ b ∧ b < w.heap.size)) w d) lv xs := by
    refine ⟨by omega, ?_⟩
    rcases h.1.2 with ⟨rfl, h0⟩ | ⟨g, cap, cur, rfl, hg, hh, _⟩
    · exact ⟨none, 0, by rw [h0], Or.inl (List.eq_nil_of_length_eq_zero h0)⟩
    · refine ⟨some ⟨g, 0, none⟩, cap, rfl, Or.inr ⟨g, 0, Or.inr ⟨hg, (Array.getElem?_eq_some_iff.1 hh).1⟩, rfl, fun i x hx => ?_⟩⟩
      obtain ⟨c0, c1, c2, c3, c4, e0, e1, e2, e3, e4, hv⟩ := h.2 i x hx
      have hadd : ∀ m, (⟨g, 0, none⟩ : Addr).add m = ⟨g, 0 + m, none⟩ := fun m => by unfold Addr.add; split <;> simp_all
      have hc : ∀ m c, vs[m]? = some c → w.cell? ⟨g, 0 + m, none⟩ = some c := fun m c hm => by rw [← hadd]; exact h.1.cells (g := g) rfl m c hm
      refine ⟨c0, c1, c2, c3, c4, hc _ _ e0, ?_, ?_, ?_, ?_, hv.mono (fun b hb' => ?_)⟩
      · rw [Nat.add_assoc]; exact hc _ _ e1
      · rw [Nat.add_assoc]; exact hc _ _ e2
      · rw [Nat.add_assoc]; exact hc _ _ e3
      · rw [Nat.add_assoc]; exact hc _ _ e4
      · rcases hb' with h | h
        · exact Or.inl h
        · exact Or.inr ⟨h.1, h.2.1⟩
  exact ⟨_, _, rfl, ⟨by show _ ≤ (5 : Int); omega, by show (5 : Int) ≤ _; omega⟩, ⟨by show _ ≤ (0 : Int); omega, by show (0 : Int) ≤ _; omega⟩, by show (0 : Nat) < _; omega, ⟨by show (0 : Nat) < _; omega, (fun s hs => by cases hs), none, 0, rfl, Or.inl rfl⟩, hrow.moved hmv hin (fun y u hy => ValAt.moved hmv hin _ y u hy)⟩
end Go.Proofs.YtohdpgclokgohaaGreatDoor
