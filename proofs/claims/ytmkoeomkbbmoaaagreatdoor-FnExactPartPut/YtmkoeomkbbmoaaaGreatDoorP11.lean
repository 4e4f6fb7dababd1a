/- Texts of the proof, put together by program: WTreeG, WValA. -/
import Derived.Test.YtmkoeomkbbmoaaaGreatDoorP9
import Derived.Test.YtmkoeomkbbmoaaaGreatDoorP10
/- The program's own trees, their maps in any order: each is just one tree. -/
namespace Go.Proofs.YtmkoeomkbbmoaaaGreatDoor
open Go.RowKit Go.Deep

/-- The entries of a map are these pairs, in this order. -/
def MapG {α : Type} (At : α → Value → Prop) (es : Array MapEntry) (ps : List (ByteArray × α)) : Prop :=
  es.size = ps.length ∧ ∀ (i : Nat) (k : ByteArray) (x : α), ps[i]? = some (k, x) → ∃ u, es[i]? = some ⟨.string k, u, i⟩ ∧ At x u

/-- One of the program's own trees that lies in blocks of S: the one that val tells. -/
def TreeG (S : Nat → Prop) (w : World) : (d : Nat) → Tr d → Value → Prop
  | 0, _, _ => False
  | d + 1, t, v =>
    (∃ k : Int, (k = 0 ∨ k = 1 ∨ k = 2) ∧ t = (Nd.mk k 0 ByteArray.empty [] [] : Nd (Tr d)) ∧ v = .iface 92 (.agg #[.int .i64 k])) ∨
    (∃ n : Int, I64 n ∧ t = (Nd.mk 3 n ByteArray.empty [] [] : Nd (Tr d)) ∧ v = .iface 129 (.agg #[.int .i64 n])) ∨
    (∃ s : ByteArray, s.size ≤ 1000 ∧ t = (Nd.mk 4 0 s [] [] : Nd (Tr d)) ∧ v = .iface 88 (.agg #[.string s])) ∨
    (∃ (xs : List (Tr d)) (sv : Value), xs.length ≤ 1000 ∧ t = (Nd.mk 5 0 ByteArray.empty [] xs : Nd (Tr d)) ∧ v = .iface 83 (.agg #[sv]) ∧ Row1At S w (TreeG S w d) sv xs) ∨
    (∃ (keys : List ByteArray) (xs : List (Tr d)) (ps : List (ByteArray × Tr d)) (r : Nat) (es : Array MapEntry), xs.length ≤ 1000 ∧ keysB keys = true ∧ keys.length = xs.length ∧ ps.Perm (keys.zip xs) ∧
      t = (Nd.mk 6 0 ByteArray.empty keys xs : Nd (Tr d)) ∧ v = .iface 58 (.agg #[.map (some r)]) ∧ S r ∧ w.heap[r]? = some (.map es ps.length) ∧ MapG (TreeG S w d) es ps)

theorem MapG.moved {α : Type} {At At' : α → Value → Prop} {es : Array MapEntry} {ps : List (ByteArray × α)} (h : MapG At es ps) (hi : ∀ x u, At x u → At' x u) : MapG At' es ps :=
  ⟨h.1, fun i k x hp => by obtain ⟨u, e, hu⟩ := h.2 i k x hp; exact ⟨u, e, hi _ _ hu⟩⟩
theorem TreeG.moved {S S' : Nat → Prop} {w w' : World} (hs : Same S w w') (hS : ∀ b, S b → S' b) : ∀ (d : Nat) (t : Tr d) (v : Value), TreeG S w d t v → TreeG S' w' d t v
  | 0, _, _, h => h
  | d + 1, t, v, h => by
    rcases h with h | h | h | ⟨xs, sv, h1, h2, h3, hr⟩ | ⟨keys, xs, ps, r, es, h1, h2, h3, h4, h5, h6, hr, hm, he⟩
    · exact Or.inl h
    · exact Or.inr (Or.inl h)
    · exact Or.inr (Or.inr (Or.inl h))
    · exact Or.inr (Or.inr (Or.inr (Or.inl ⟨xs, sv, h1, h2, h3, hr.moved hs hS (fun x u hx => TreeG.moved hs hS d x u hx)⟩)))
    · exact Or.inr (Or.inr (Or.inr (Or.inr ⟨keys, xs, ps, r, es, h1, h2, h3, h4, h5, h6, hS _ hr, (hs r hr).trans hm, he.moved (fun x u hx => TreeG.moved hs hS d x u hx)⟩)))
theorem TreeG.same {S : Nat → Prop} {w w' : World} {d : Nat} {t : Tr d} {v : Value} (h : TreeG S w d t v) (hs : Same S w w') : TreeG S w' d t v := TreeG.moved hs (fun _ h => h) d t v h
theorem TreeG.mono {S S' : Nat → Prop} {w : World} {d : Nat} {t : Tr d} {v : Value} (h : TreeG S w d t v) (hS : ∀ b, S b → S' b) : TreeG S' w d t v := TreeG.moved (Same.refl _ _) hS d t v h
/-- It is one cell. -/
theorem TreeG.iface {S : Nat → Prop} {w : World} {d : Nat} {t : Tr d} {v : Value} (h : TreeG S w d t v) : ∃ T u, v = .iface T u := by
  cases d with
  | zero => exact h.elim
  | succ d =>
    rcases h with ⟨k, h1, h2, h3⟩ | ⟨k, h1, h2, h3⟩ | ⟨k, h1, h2, h3⟩ | ⟨xs, sv, h1, h2, h3, hr⟩ | ⟨keys, xs, ps, r, es, h1, h2, h3, h4, h5, h6, hr, hm, he⟩
    · exact ⟨_, _, h3⟩
    · exact ⟨_, _, h3⟩
    · exact ⟨_, _, h3⟩
    · exact ⟨_, _, h3⟩
    · exact ⟨_, _, h6⟩

theorem bytes_nil {s : ByteArray} (h : s.toList = []) : s = ByteArray.empty := by
  obtain ⟨⟨l⟩⟩ := s
  simp [ByteArray.toList_eq] at h
  subst h
  rfl
theorem len_le_many {d : Nat} {deep : Int} : ∀ (xs : List (Tr d)), xs.length ≤ (xs.map (fun x => manyT d x deep)).sum
  | [] => Nat.le_refl _
  | x :: r => by
    have := len_le_many (deep := deep) r
    have h1 : 1 ≤ manyT d x deep := by
      cases d with
      | zero => exact Empty.elim x
      | succ d => rw [manyT]; omega
    simp only [List.length_cons, List.map_cons, List.sum_cons]
    omega
theorem many_mem {d : Nat} {deep : Int} {x : Tr d} : ∀ {xs : List (Tr d)}, x ∈ xs → manyT d x deep ≤ (xs.map (fun x => manyT d x deep)).sum
  | y :: r, h => by
    simp only [List.map_cons, List.sum_cons]
    cases h with
    | head => omega
    | tail _ h => have := many_mem (deep := deep) h; omega
theorem Row1At.mem {α : Type} {S : Nat → Prop} {w : World} {At At' : α → Value → Prop} {v : Value} {xs : List α} (h : Row1At S w At v xs) (hi : ∀ x u, x ∈ xs → At x u → At' x u) : Row1At S w At' v xs := by
  obtain ⟨h1, a, cap, hv, h3⟩ := h
  refine ⟨h1, a, cap, hv, ?_⟩
  rcases h3 with h3 | ⟨b, o, hB, ha, hc⟩
  · exact Or.inl h3
  · refine Or.inr ⟨b, o, hB, ha, fun i x hx => ?_⟩
    obtain ⟨u, e0, e1⟩ := hc i x hx
    exact ⟨u, e0, hi _ _ (List.mem_of_getElem? hx) e1⟩

/-- A tree of right form, as it was made. -/
theorem treeG_of {S : Nat → Prop} {w : World} : ∀ (d : Nat) (t : Tr d) (deep : Int) (u : Value), formT d t deep = true → manyT d t deep ≤ 60 → TreeAt S w d t u → TreeG S w d t u
  | 0, _, _, _, h, _, _ => by simp [formT] at h
  | d + 1, t, deep, u, hf, hm, hu => by
    obtain ⟨kind, num, str, keys, list⟩ := t
    have ih := treeG_of (S := S) (w := w) d
    cases hb : headBad kind num str keys.length list.length deep with
    | true => rw [formT_bad hb] at hf; cases hf
    | false =>
    rw [formT_good hb] at hf
    obtain ⟨g0, g1, g2, g3, g4⟩ := headBad_iff.1 hb
    have hmany : manyT (d + 1) (Nd.mk kind num str keys list) deep = 1 + (if 0 < deep then (list.map (fun x => manyT d x (deep - 1))).sum else 0) := rfl
    rw [hmany, if_pos (by omega)] at hm
    have hll := len_le_many (deep := deep - 1) list
    rcases hu with ⟨hk, rfl⟩ | ⟨hk, rfl⟩ | ⟨hk, rfl⟩ | ⟨hk, sv, rfl, hr⟩ | ⟨hk, r, es, rfl, hr, hobj, he⟩
    · have hk' : kind = 0 ∨ kind = 1 ∨ kind = 2 := hk
      refine Or.inl ⟨kind, hk', ?_, rfl⟩
      obtain rfl := g1 (by omega)
      obtain rfl := bytes_nil (g2 (by omega))
      obtain rfl := List.eq_nil_of_length_eq_zero (g3 (by omega))
      obtain rfl := List.eq_nil_of_length_eq_zero (g4 (by omega))
      rfl
    · have hk' : kind = 3 := hk
      subst hk'
      simp at hf
      refine Or.inr (Or.inl ⟨num, ⟨by omega, by omega⟩, ?_, rfl⟩)
      obtain rfl := bytes_nil (g2 (by omega))
      obtain rfl := List.eq_nil_of_length_eq_zero (g3 (by omega))
      obtain rfl := List.eq_nil_of_length_eq_zero (g4 (by omega))
      rfl
    · have hk' : kind = 4 := hk
      subst hk'
      have hs : str.size ≤ 12 := by simp [strOk] at hf; omega
      refine Or.inr (Or.inr (Or.inl ⟨str, by omega, ?_, rfl⟩))
      obtain rfl := g1 (by omega)
      obtain rfl := List.eq_nil_of_length_eq_zero (g3 (by omega))
      obtain rfl := List.eq_nil_of_length_eq_zero (g4 (by omega))
      rfl
    · have hk' : kind = 5 := hk
      subst hk'
      have hall : list.all (fun x => formT d x (deep - 1)) = true := by simpa using hf
      refine Or.inr (Or.inr (Or.inr (Or.inl ⟨list, sv, by omega, ?_, rfl, hr.mem (fun x u hx h => ih x (deep - 1) u (List.all_eq_true.1 hall x hx) (by have := many_mem (deep := deep - 1) (show x ∈ list from hx); omega) h)⟩)))
      obtain rfl := g1 (by omega)
      obtain rfl := bytes_nil (g2 (by omega))
      obtain rfl := List.eq_nil_of_length_eq_zero (g3 (by omega))
      rfl
    · have hk' : kind = 6 := hk
      subst hk'
      simp only [show ¬ ((6 : Int) = 0 ∨ (6 : Int) = 1 ∨ (6 : Int) = 2) by omega, show ¬ ((6 : Int) = 3) by omega, show ¬ ((6 : Int) = 4) by omega, if_false, if_true, Bool.and_eq_true] at hf
      obtain ⟨⟨hq, hkb⟩, hall⟩ := hf
      have hq' : keys.length = list.length := beq_iff_eq.1 hq
      refine Or.inr (Or.inr (Or.inr (Or.inr ⟨keys, list, keys.zip list, r, es, by omega, hkb, hq', List.Perm.refl _, ?_, rfl, hr, ?_, ?_, ?_⟩)))
      · obtain rfl := g1 (by omega)
        obtain rfl := bytes_nil (g2 (by omega))
        rfl
      · rw [List.length_zip, ← hq', Nat.min_self]
        exact hobj
      · rw [List.length_zip, ← hq', Nat.min_self]
        exact he.1
      · intro i k x hp
        have hp' := List.getElem?_zip_eq_some.1 hp
        obtain ⟨u, e1, e2⟩ := he.2.2 i k x hp'.1 hp'.2
        exact ⟨u, e1, ih x (deep - 1) u (List.all_eq_true.1 hall x (List.mem_of_getElem? hp'.2)) (by have := many_mem (x := x) (deep := deep - 1) (List.mem_of_getElem? hp'.2); omega) e2⟩
end Go.Proofs.YtmkoeomkbbmoaaaGreatDoor

/- val: a value, in new memory, of one of the program's own trees: without parts, and rows. -/
namespace Go.Proofs.YtmkoeomkbbmoaaaGreatDoor
open Go.RowKit Go.Deep

/-- What val is asked to give. -/
def ValQ (d : Nat) (t : Tr d) (w : World) (e : Ending) (w' : World) : Prop := ∃ u, e = .returned u ∧ ValOwn w' d (Fresh w w') t u ∧ Below w.heap.size w w'

/-- Which function a call of val is, and that it gives the tree. -/
def ValOf (u : Value) (d : Nat) (t : Tr d) (w : World) : Prop :=
  ∃ v, (u = .iface 92 v ∧ Calls Tryz.prog 125 #[v] w (ValQ d t w)) ∨
    (u = .iface 129 v ∧ Calls Tryz.prog 142 #[v] w (ValQ d t w)) ∨
    (u = .iface 88 v ∧ Calls Tryz.prog 122 #[v] w (ValQ d t w)) ∨
    (u = .iface 83 v ∧ Calls Tryz.prog 119 #[v] w (ValQ d t w)) ∨
    (u = .iface 58 v ∧ Calls Tryz.prog 115 #[v] w (ValQ d t w))

def ValC (d : Nat) : Prop := ∀ (S : Nat → Prop) (t : Tr d) (u : Value) (w : World), TreeG S w d t u → Within S w → ValOf u d t w

/-- A tree without lists. -/
theorem valOwn_leaf (d : Nat) (k n : Int) (s : ByteArray) (w : World) (S : Nat → Prop) (hk : I64 k) (hn : I64 n) (hs : s.size < 281474976710656) :
    ValOwn w (d + 1) S (Nd.mk k n s [] [] : Nd (Tr d)) (.agg #[.int .i64 k, .int .i64 n, .string s, .slice none 0 0, .slice none 0 0]) :=
  ⟨_, _, fun _ => False, fun _ => False, rfl, hk, hn, hs, ⟨by simp, by simp, none, 0, rfl, Or.inl rfl⟩, ⟨by simp, none, 0, rfl, Or.inl rfl⟩, fun _ h => h.elim, fun _ h => h.elim, fun _ h => h.elim⟩

theorem bareVal_any (d : Nat) (k : Int) (w : World) (hk : k = 0 ∨ k = 1 ∨ k = 2) : Calls Tryz.prog 125 #[.agg #[.int .i64 k]] w (ValQ (d + 1) (Nd.mk k 0 ByteArray.empty [] [] : Nd (Tr d)) w) := by
  have hI : I64 k := ⟨by omega, by omega⟩
  clear hk
  go_enter Tryz.func125, Tryz.ntmps125
  go_wp2_with fail
  exact bodyPost_ret (v := .agg #[.int .i64 k, .int .i64 0, .string ByteArray.empty, .slice none 0 0, .slice none 0 0]) (by simp [results, Tryz.results125, go_sem]; rfl) rfl
    ⟨_, rfl, valOwn_leaf d k 0 _ _ _ hI ⟨by omega, by omega⟩ (by decide), below_trans (below_alloc1 _ _) (below_alloc1 _ _)⟩
theorem numVal_any (d : Nat) (n : Int) (w : World) (hI : I64 n) : Calls Tryz.prog 142 #[.agg #[.int .i64 n]] w (ValQ (d + 1) (Nd.mk 3 n ByteArray.empty [] [] : Nd (Tr d)) w) := by
  go_enter Tryz.func142, Tryz.ntmps142
  go_wp2_with fail
  exact bodyPost_ret (v := .agg #[.int .i64 3, .int .i64 n, .string ByteArray.empty, .slice none 0 0, .slice none 0 0]) (by simp [results, Tryz.results142, go_sem]; rfl) rfl
    ⟨_, rfl, valOwn_leaf d 3 n _ _ _ ⟨by omega, by omega⟩ hI (by decide), below_trans (below_alloc1 _ _) (below_alloc1 _ _)⟩
theorem strVal_any (d : Nat) (s : ByteArray) (w : World) (hs : s.size ≤ 1000) : Calls Tryz.prog 122 #[.agg #[.string s]] w (ValQ (d + 1) (Nd.mk 4 0 s [] [] : Nd (Tr d)) w) := by
  go_enter Tryz.func122, Tryz.ntmps122
  go_wp2_with fail
  exact bodyPost_ret (v := .agg #[.int .i64 4, .int .i64 0, .string s, .slice none 0 0, .slice none 0 0]) (by simp [results, Tryz.results122, go_sem]) rfl
    ⟨_, rfl, valOwn_leaf d 4 0 _ _ _ ⟨by omega, by omega⟩ ⟨by omega, by omega⟩ (by omega), below_trans (below_alloc1 _ _) (below_alloc1 _ _)⟩

/-- The first k values of a row that is being made. -/
structure ValsTo {d : Nat} (N : Nat) (w : World) (sv : Value) (xs : List (Tr d)) (k : Nat) (vs : List Value) (P : Nat → Nat → Prop) : Prop where
  own : w.ownsRow N 29 5 sv k vs
  lo : ∀ j c, j < k → P j c → N ≤ c ∧ c < w.heap.size ∧ some c ≠ sv.ownBlock
  dis : ∀ i j c, i < k → j < k → P i c → P j c → i = j
  val : ∀ j x, j < k → xs[j]? = some x → ∃ c0 c1 c2 c3 c4, vs[j * 5]? = some c0 ∧ vs[j * 5 + 1]? = some c1 ∧ vs[j * 5 + 2]? = some c2 ∧ vs[j * 5 + 3]? = some c3 ∧ vs[j * 5 + 4]? = some c4 ∧ ValOwn w d (P j) x (.agg #[c0, c1, c2, c3, c4])

theorem ValsTo.start {d : Nat} (N : Nat) (w : World) (xs : List (Tr d)) : ValsTo N w (.slice none 0 0) xs 0 [] (fun _ _ => False) :=
  ⟨World.ownsRow_nil _ _ _ _, fun j c hj => by omega, fun i j c hi => by omega, fun j x hj => by omega⟩

theorem ValsTo.step {d N k : Nat} {wr w1 w2 : World} {sv sv' : Value} {xs : List (Tr d)} {vs : List Value} {P : Nat → Nat → Prop} {x : Tr d} {v0 v1 v2 v3 v4 : Value} {o : Obj} (h : ValsTo N wr sv xs k vs P) (hb : Below wr.heap.size wr w1)
    (hx : xs[k]? = some x) (hu : ValOwn w1 d (Fresh wr w1) x (.agg #[v0, v1, v2, v3, v4])) (hown : w2.ownsRow N 29 5 sv' (k + 1) (vs ++ [v0, v1, v2, v3, v4])) (hg : (w1.alloc o).grownBy w2 sv.ownBlock)
    (hw : sv'.ownBlock = sv.ownBlock ∨ sv'.ownBlock = some (w1.alloc o).heap.size) (hN : N ≤ wr.heap.size) : ValsTo N w2 sv' xs (k + 1) (vs ++ [v0, v1, v2, v3, v4]) (fun j c => if j = k then Fresh wr w1 c else P j c) := by
  obtain ⟨h1, hlo, hdis, h2⟩ := h
  have hlen : vs.length = k * 5 := h1.1
  have hs1 := hb.size
  have hs3 := hg.size
  have hz : (w1.alloc o).heap.size = w1.heap.size + 1 := by simp
  rw [hz] at hs3 hw
  have hlast : ∀ b, b < w1.heap.size → some b ≠ sv.ownBlock → w2.heap[b]? = w1.heap[b]? := fun b hb1 hb2 =>
    (hg.block b (by omega) hb2).trans (Below.heap_alloc _ _ _ hb1)
  have hne : ∀ b, b < w1.heap.size → some b ≠ sv.ownBlock → some b ≠ sv'.ownBlock := fun b hb1 hb2 => by
    rcases hw with e | e
    · rw [e]; exact hb2
    · rw [e]; intro e2; cases e2; omega
  have hoff : ∀ b, Fresh wr w1 b → some b ≠ sv.ownBlock := fun b hb e => by
    have := (h1.lt b e.symm).2
    have := hb.1
    omega
  refine ⟨hown, fun j c hj hc => ?_, fun i j c hi hj hci hcj => ?_, fun j y hj hy => ?_⟩
  · by_cases e : j = k
    · rw [if_pos e] at hc
      have := hc.1
      have := hc.2
      exact ⟨by omega, by omega, hne c hc.2 (hoff c hc)⟩
    · rw [if_neg e] at hc
      have := hlo j c (by omega) hc
      exact ⟨this.1, by omega, hne c (by omega) this.2.2⟩
  · by_cases ei : i = k
    · by_cases ej : j = k
      · omega
      · rw [if_pos ei] at hci
        rw [if_neg ej] at hcj
        have := (hlo j c (by omega) hcj).2.1
        have := hci.1
        omega
    · rw [if_neg ei] at hci
      by_cases ej : j = k
      · rw [if_pos ej] at hcj
        have := (hlo i c (by omega) hci).2.1
        have := hcj.1
        omega
      · rw [if_neg ej] at hcj
        exact hdis i j c (by omega) (by omega) hci hcj
  · by_cases e : j = k
    · subst e
      rw [hx] at hy
      cases hy
      refine ⟨v0, v1, v2, v3, v4, ?_, ?_, ?_, ?_, ?_, ?_⟩
      · rw [List.getElem?_append_right (by omega), hlen]; simp
      · rw [List.getElem?_append_right (by omega), hlen]; simp
      · rw [List.getElem?_append_right (by omega), hlen]; simp
      · rw [List.getElem?_append_right (by omega), hlen]; simp
      · rw [List.getElem?_append_right (by omega), hlen]; simp
      · simp only [if_true]
        exact hu.same (fun b hb => hlast b hb.2 (hoff b hb))
    · obtain ⟨c0, c1, c2, c3, c4, e0, e1, e2, e3, e4, hv⟩ := h2 j y (by omega) hy
      refine ⟨c0, c1, c2, c3, c4, ?_, ?_, ?_, ?_, ?_, ?_⟩
      · rw [List.getElem?_append_left (by omega)]; exact e0
      · rw [List.getElem?_append_left (by omega)]; exact e1
      · rw [List.getElem?_append_left (by omega)]; exact e2
      · rw [List.getElem?_append_left (by omega)]; exact e3
      · rw [List.getElem?_append_left (by omega)]; exact e4
      · simp only [if_neg e]
        refine hv.same (fun b hB => ?_)
        have hb2 := hlo j b (by omega) hB
        rw [hlast b (by omega) hb2.2.2, hb.block b hb2.2.1]

theorem ValsTo.done {d N : Nat} {w : World} {sv : Value} {xs : List (Tr d)} {vs : List Value} {P : Nat → Nat → Prop} (h : ValsTo N w sv xs xs.length vs P) (hl : xs.length < 3518437208883) :
    RowOwn w (fun P x u => ValOwn w d P x u) (fun b => N ≤ b ∧ b < w.heap.size) sv xs := by
  obtain ⟨h1, hlo, hdis, h2⟩ := h
  refine ⟨hl, ?_⟩
  rcases h1.2 with ⟨rfl, h0⟩ | ⟨g, cap, cur, rfl, hg, hh, hnc, _, hcs, htake⟩
  · exact ⟨none, 0, by rw [h0], Or.inl (List.eq_nil_of_length_eq_zero h0)⟩
  · refine ⟨some ⟨g, 0, none⟩, cap, rfl, Or.inr ⟨g, cap * 5, fun i => cur.getD i undef, fun j c => j < xs.length ∧ P j c, ⟨hg, (Array.getElem?_eq_some_iff.1 hh).1⟩, rfl, Nat.mul_le_mul_right _ hnc, ⟨cur, hh, hcs, fun i hi => ?_⟩, fun i c hc => ?_, fun i j c hi hj => hdis i j c hi.1 hj.1 hi.2 hj.2, fun i x hx => ?_⟩⟩
    · simp [hcs, hi]
    · have := hlo i c hc.1 hc.2
      exact ⟨⟨this.1, this.2.1⟩, fun e => this.2.2 (by rw [e]; rfl)⟩
    · have hi := (List.getElem?_eq_some_iff.1 hx).1
      obtain ⟨c0, c1, c2, c3, c4, e0, e1, e2, e3, e4, hv⟩ := h2 i x hi hx
      have hget : ∀ j c, vs[j]? = some c → cur.getD j undef = c := fun j c hc => by
        rw [← htake] at hc
        have hj := (List.getElem?_eq_some_iff.1 hc).1
        rw [List.getElem?_take] at hc
        split at hc
        · rw [Array.getElem?_toList] at hc
          simp [Array.getD_eq_getD_getElem?, hc]
        · cases hc
      show ValOwn w d _ x (.agg #[cur.getD (i * 5) undef, cur.getD (i * 5 + 1) undef, cur.getD (i * 5 + 2) undef, cur.getD (i * 5 + 3) undef, cur.getD (i * 5 + 4) undef])
      rw [hget _ _ e0, hget _ _ e1, hget _ _ e2, hget _ _ e3, hget _ _ e4]
      exact hv.mono (fun c hc => ⟨hi, hc⟩)

theorem cell_five_new (w : World) (a b c d e : Value) (t : TypeId) : ∀ j u, [a, b, c, d, e][j]? = some u → (w.alloc (.cells #[a, b, c, d, e] t)).cell? ((⟨w.heap.size, 0, none⟩ : Addr).add j) = some u := by
  intro j u hj
  have hadd : (⟨w.heap.size, 0, none⟩ : Addr).add j = ⟨w.heap.size, 0 + j, none⟩ := by unfold Addr.add; split <;> simp_all
  rw [hadd]
  rcases j with _ | _ | _ | _ | _ | j
  · simp at hj; subst hj; simp
  · simp at hj; subst hj; simp
  · simp at hj; subst hj; simp
  · simp at hj; subst hj; simp
  · simp at hj; subst hj; simp
  · simp at hj

end Go.Proofs.YtmkoeomkbbmoaaaGreatDoor
