/- val: a value, in new memory, of one of the program's own trees: without parts, and rows. -/
import Derived.Test.YtbcafaomfaainaaGreatDoorWTreeG
namespace Go.Proofs.YtbcafaomfaainaaGreatDoor
open Go.RowKit Go.Deep

/-- What val is asked to give. -/
def ValQ (d : Nat) (t : Tr d) (w : World) (e : Ending) (w' : World) : Prop := ∃ u, e = .returned u ∧ ValOwn w' d (Fresh w w') t u ∧ Below w.heap.size w w'

/-- Which function a call of val is, and that it gives the tree. -/
def ValOf (u : Value) (d : Nat) (t : Tr d) (w : World) : Prop :=
  ∃ v, (u = .iface 114 v ∧ Calls Tryz.prog 120 #[v] w (ValQ d t w)) ∨
    (u = .iface 116 v ∧ Calls Tryz.prog 123 #[v] w (ValQ d t w)) ∨
    (u = .iface 74 v ∧ Calls Tryz.prog 103 #[v] w (ValQ d t w)) ∨
    (u = .iface 66 v ∧ Calls Tryz.prog 99 #[v] w (ValQ d t w)) ∨
    (u = .iface 61 v ∧ Calls Tryz.prog 74 #[v] w (ValQ d t w))

def ValC (d : Nat) : Prop := ∀ (S : Nat → Prop) (t : Tr d) (u : Value) (w : World), TreeG S w d t u → Within S w → ValOf u d t w

/-- A tree without lists. -/
theorem valOwn_leaf (d : Nat) (k n : Int) (s : ByteArray) (w : World) (S : Nat → Prop) (hk : I64 k) (hn : I64 n) (hs : s.size < 281474976710656) :
    ValOwn w (d + 1) S (Nd.mk k n s [] [] : Nd (Tr d)) (.agg #[.int .i64 k, .int .i64 n, .string s, .slice none 0 0, .slice none 0 0]) :=
  ⟨_, _, fun _ => False, fun _ => False, rfl, hk, hn, hs, ⟨by simp, by simp, none, 0, rfl, Or.inl rfl⟩, ⟨by simp, none, 0, rfl, Or.inl rfl⟩, fun _ h => h.elim, fun _ h => h.elim, fun _ h => h.elim⟩

theorem bareVal_any (d : Nat) (k : Int) (w : World) (hk : k = 0 ∨ k = 1 ∨ k = 2) : Calls Tryz.prog 120 #[.agg #[.int .i64 k]] w (ValQ (d + 1) (Nd.mk k 0 ByteArray.empty [] [] : Nd (Tr d)) w) := by
  have hI : I64 k := ⟨by omega, by omega⟩
  clear hk
  go_enter Tryz.func120, Tryz.ntmps120
  go_wp2_with fail
  exact bodyPost_ret (v := .agg #[.int .i64 k, .int .i64 0, .string ByteArray.empty, .slice none 0 0, .slice none 0 0]) (by simp [results, Tryz.results120, go_sem]; rfl) rfl
    ⟨_, rfl, valOwn_leaf d k 0 _ _ _ hI ⟨by omega, by omega⟩ (by decide), below_trans (below_alloc1 _ _) (below_alloc1 _ _)⟩
theorem numVal_any (d : Nat) (n : Int) (w : World) (hI : I64 n) : Calls Tryz.prog 123 #[.agg #[.int .i64 n]] w (ValQ (d + 1) (Nd.mk 3 n ByteArray.empty [] [] : Nd (Tr d)) w) := by
  go_enter Tryz.func123, Tryz.ntmps123
  go_wp2_with fail
  exact bodyPost_ret (v := .agg #[.int .i64 3, .int .i64 n, .string ByteArray.empty, .slice none 0 0, .slice none 0 0]) (by simp [results, Tryz.results123, go_sem]; rfl) rfl
    ⟨_, rfl, valOwn_leaf d 3 n _ _ _ ⟨by omega, by omega⟩ hI (by decide), below_trans (below_alloc1 _ _) (below_alloc1 _ _)⟩
theorem strVal_any (d : Nat) (s : ByteArray) (w : World) (hs : s.size ≤ 1000) : Calls Tryz.prog 103 #[.agg #[.string s]] w (ValQ (d + 1) (Nd.mk 4 0 s [] [] : Nd (Tr d)) w) := by
  go_enter Tryz.func103, Tryz.ntmps103
  go_wp2_with fail
  exact bodyPost_ret (v := .agg #[.int .i64 4, .int .i64 0, .string s, .slice none 0 0, .slice none 0 0]) (by simp [results, Tryz.results103, go_sem]) rfl
    ⟨_, rfl, valOwn_leaf d 4 0 _ _ _ ⟨by omega, by omega⟩ ⟨by omega, by omega⟩ (by omega), below_trans (below_alloc1 _ _) (below_alloc1 _ _)⟩

/-- The first k values of a row that is being made. -/
structure ValsTo {d : Nat} (N : Nat) (w : World) (sv : Value) (xs : List (Tr d)) (k : Nat) (vs : List Value) (P : Nat → Nat → Prop) : Prop where
  own : w.ownsRow N 29 5 sv k vs
  lo : ∀ j c, j < k → P j c → N ≤ c ∧ c < w.heap.size ∧ some c ≠ sv.ownBlock
  dis : ∀ i j c, i < k → j < k → P i c → P j c → i = j
  val : ∀ j x, j < k → xs[j]? = some x → ∃ c0 c1 c2 c3 c4, vs[j * 5]? = some c0 ∧ vs[j * 5 + 1]? = some c1 ∧ vs[j * 5 + 2]? = some c2 ∧ vs[j * 5 + 3]? = some c3 ∧ vs[j * 5 + 4]? = some c4 ∧ ValOwn w d (P j) x (.agg #[c0, c1, c2, c3, c4])

theorem ValsTo.start {d : Nat} (N : Nat) (w : World) (xs : List (Tr d)) : ValsTo N w (.slice none 0 0) xs 0 [] (fun _ _ => False) :=
  ⟨World.ownsRow_nil _ _ _ _, fun j c hj => by omega, fun i j c hi => by omega, fun j x hj => by omega⟩

theorem ValsTo.step {d N k : Nat} {wr w1 w2 : World} {sv sv' : Value} {xs : List (Tr d)} {vs : List Value} {P : Nat → Nat → Prop} {x : Tr d} {v0 v1 v2 v3 v4 : Value} {o : Obj} (h : ValsTo N wr sv xs k vs P) (hb : Below wr.heap.size wr w1)
    (hx : xs[k]? = some x) (hu : ValOwn w1 d (Fresh wr w1) x (.agg #[v0, v1, v2, v3, v4])) (hown : w2.ownsRow N 29 5 sv' (k + 1) (vs ++ [v0, v1, v2, v3, v4])) (hg : (w1.alloc o).grownBy w2 sv.ownBlock)
    (hw : sv'.ownBlock = sv.ownBlock ∨ sv'.ownBlock = some (w1.alloc o).heap.size) (hN : N ≤ wr.heap.size) : ValsTo N w2 sv' xs (k + 1) (vs ++ [v0, v1, v2, v3, v4]) (fun j c => if j = k then Fresh wr w1 c else P j c) := by
  obtain ⟨h1, hlo, hdis, h2⟩ := h
  have hlen : vs.length = k * 5 := h1.1
  have hs1 := hb.size
  have hs3 := hg.size
  have hz : (w1.alloc o).heap.size = w1.heap.size + 1 := by simp
  rw [hz] at hs3 hw
  have hlast : ∀ b, b < w1.heap.size → some b ≠ sv.ownBlock → w2.heap[b]? = w1.heap[b]? := fun b hb1 hb2 =>
    (hg.block b (by omega) hb2).trans (Below.heap_alloc _ _ _ hb1)
  have hne : ∀ b, b < w1.heap.size → some b ≠ sv.ownBlock → some b ≠ sv'.ownBlock := fun b hb1 hb2 => by
    rcases hw with e | e
    · rw [e]; exact hb2
    · rw [e]; intro e2; cases e2; omega
  have hoff : ∀ b, Fresh wr w1 b → some b ≠ sv.ownBlock := fun b hb e => by
    have := (h1.lt b e.symm).2
    have := hb.1
    omega
  refine ⟨hown, fun j c hj hc => ?_, fun i j c hi hj hci hcj => ?_, fun j y hj hy => ?_⟩
  · by_cases e : j = k
    · rw [if_pos e] at hc
      have := hc.1
      have := hc.2
      exact ⟨by omega, by omega, hne c hc.2 (hoff c hc)⟩
    · rw [if_neg e] at hc
      have := hlo j c (by omega) hc
      exact ⟨this.1, by omega, hne c (by omega) this.2.2⟩
  · by_cases ei : i = k
    · by_cases ej : j = k
      · omega
      · rw [if_pos ei] at hci
        rw [if_neg ej] at hcj
        have := (hlo j c (by omega) hcj).2.1
        have := hci.1
        omega
    · rw [if_neg ei] at hci
      by_cases ej : j = k
      · rw [if_pos ej] at hcj
        have := (hlo i c (by omega) hci).2.1
        have := hcj.1
        omega
      · rw [if_neg ej] at hcj
        exact hdis i j c (by omega) (by omega) hci hcj
  · by_cases e : j = k
    · subst e
      rw [hx] at hy
      cases hy
      refine ⟨v0, v1, v2, v3, v4, ?_, ?_, ?_, ?_, ?_, ?_⟩
      · rw [List.getElem?_append_right (by omega), hlen]; simp
      · rw [List.getElem?_append_right (by omega), hlen]; simp
      · rw [List.getElem?_append_right (by omega), hlen]; simp
      · rw [List.getElem?_append_right (by omega), hlen]; simp
      · rw [List.getElem?_append_right (by omega), hlen]; simp
      · simp only [if_true]
        exact hu.same (fun b hb => hlast b hb.2 (hoff b hb))
    · obtain ⟨c0, c1, c2, c3, c4, e0, e1, e2, e3, e4, hv⟩ := h2 j y (by omega) hy
      refine ⟨c0, c1, c2, c3, c4, ?_, ?_, ?_, ?_, ?_, ?_⟩
      · rw [List.getElem?_append_left (by omega)]; exact e0
      · rw [List.getElem?_append_left (by omega)]; exact e1
      · rw [List.getElem?_append_left (by omega)]; exact e2
      · rw [List.getElem?_append_left (by omega)]; exact e3
      · rw [List.getElem?_append_left (by omega)]; exact e4
      · simp only [if_neg e]
        refine hv.same (fun b hB => ?_)
        have hb2 := hlo j b (by omega) hB
        rw [hlast b (by omega) hb2.2.2, hb.block b hb2.2.1]

theorem ValsTo.done {d N : Nat} {w : World} {sv : Value} {xs : List (Tr d)} {vs : List Value} {P : Nat → Nat → Prop} (h : ValsTo N w sv xs xs.length vs P) (hl : xs.length < 3518437208883) :
    RowOwn w (fun P x u => ValOwn w d P x u) (fun b => N ≤ b ∧ b < w.heap.size) sv xs := by
  obtain ⟨h1, hlo, hdis, h2⟩ := h
  refine ⟨hl, ?_⟩
  rcases h1.2 with ⟨rfl, h0⟩ | ⟨g, cap, cur, rfl, hg, hh, hnc, _, hcs, htake⟩
  · exact ⟨none, 0, by rw [h0], Or.inl (List.eq_nil_of_length_eq_zero h0)⟩
  · refine ⟨some ⟨g, 0, none⟩, cap, rfl, Or.inr ⟨g, cap * 5, fun i => cur.getD i undef, fun j c => j < xs.length ∧ P j c, ⟨hg, (Array.getElem?_eq_some_iff.1 hh).1⟩, rfl, Nat.mul_le_mul_right _ hnc, ⟨cur, hh, hcs, fun i hi => ?_⟩, fun i c hc => ?_, fun i j c hi hj => hdis i j c hi.1 hj.1 hi.2 hj.2, fun i x hx => ?_⟩⟩
    · simp [hcs, hi]
    · have := hlo i c hc.1 hc.2
      exact ⟨⟨this.1, this.2.1⟩, fun e => this.2.2 (by rw [e]; rfl)⟩
    · have hi := (List.getElem?_eq_some_iff.1 hx).1
      obtain ⟨c0, c1, c2, c3, c4, e0, e1, e2, e3, e4, hv⟩ := h2 i x hi hx
      have hget : ∀ j c, vs[j]? = some c → cur.getD j undef = c := fun j c hc => by
        rw [← htake] at hc
        have hj := (List.getElem?_eq_some_iff.1 hc).1
        rw [List.getElem?_take] at hc
        split at hc
        · rw [Array.getElem?_toList] at hc
          simp [Array.getD_eq_getD_getElem?, hc]
        · cases hc
      show ValOwn w d _ x (.agg #[cur.getD (i * 5) undef, cur.getD (i * 5 + 1) undef, cur.getD (i * 5 + 2) undef, cur.getD (i * 5 + 3) undef, cur.getD (i * 5 + 4) undef])
      rw [hget _ _ e0, hget _ _ e1, hget _ _ e2, hget _ _ e3, hget _ _ e4]
      exact hv.mono (fun c hc => ⟨hi, hc⟩)

theorem cell_five_new (w : World) (a b c d e : Value) (t : TypeId) : ∀ j u, [a, b, c, d, e][j]? = some u → (w.alloc (.cells #[a, b, c, d, e] t)).cell? ((⟨w.heap.size, 0, none⟩ : Addr).add j) = some u := by
  intro j u hj
  have hadd : (⟨w.heap.size, 0, none⟩ : Addr).add j = ⟨w.heap.size, 0 + j, none⟩ := by unfold Addr.add; split <;> simp_all
  rw [hadd]
  rcases j with _ | _ | _ | _ | _ | j
  · simp at hj; subst hj; simp
  · simp at hj; subst hj; simp
  · simp at hj; subst hj; simp
  · simp at hj; subst hj; simp
  · simp at hj; subst hj; simp
  · simp at hj

end Go.Proofs.YtbcafaomfaainaaGreatDoor
