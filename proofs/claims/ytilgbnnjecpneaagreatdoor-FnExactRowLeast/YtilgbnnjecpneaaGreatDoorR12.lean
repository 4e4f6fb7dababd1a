/- Texts of the proof, put together by program: WTreeG, WValA, WValB, WSortN, WKeysP, WLook. -/
import Derived.Test.YtilgbnnjecpneaaGreatDoorR10
import Derived.Test.YtilgbnnjecpneaaGreatDoorR11
import Derived.Test.YtilgbnnjecpneaaGreatDoorR1
import Derived.Test.YtilgbnnjecpneaaGreatDoorRows
import Derived.Sort.Grow
import Derived.Sort.EncStr
import Derived.Sort.OwnSorted
/- The program's own trees, their maps in any order: each is just one tree. -/
namespace Go.Proofs.YtilgbnnjecpneaaGreatDoor
open Go.RowKit Go.Deep

/-- The entries of a map are these pairs, in this order. -/
def MapG {α : Type} (At : α → Value → Prop) (es : Array MapEntry) (ps : List (ByteArray × α)) : Prop :=
  es.size = ps.length ∧ ∀ (i : Nat) (k : ByteArray) (x : α), ps[i]? = some (k, x) → ∃ u, es[i]? = some ⟨.string k, u, i⟩ ∧ At x u

/-- One of the program's own trees that lies in blocks of S: the one that val tells. -/
def TreeG (S : Nat → Prop) (w : World) : (d : Nat) → Tr d → Value → Prop
  | 0, _, _ => False
  | d + 1, t, v =>
    (∃ k : Int, (k = 0 ∨ k = 1 ∨ k = 2) ∧ t = (Nd.mk k 0 ByteArray.empty [] [] : Nd (Tr d)) ∧ v = .iface 85 (.agg #[.int .i64 k])) ∨
    (∃ n : Int, I64 n ∧ t = (Nd.mk 3 n ByteArray.empty [] [] : Nd (Tr d)) ∧ v = .iface 113 (.agg #[.int .i64 n])) ∨
    (∃ s : ByteArray, s.size ≤ 1000 ∧ t = (Nd.mk 4 0 s [] [] : Nd (Tr d)) ∧ v = .iface 110 (.agg #[.string s])) ∨
    (∃ (xs : List (Tr d)) (sv : Value), xs.length ≤ 1000 ∧ t = (Nd.mk 5 0 ByteArray.empty [] xs : Nd (Tr d)) ∧ v = .iface 80 (.agg #[sv]) ∧ Row1At S w (TreeG S w d) sv xs) ∨
    (∃ (keys : List ByteArray) (xs : List (Tr d)) (ps : List (ByteArray × Tr d)) (r : Nat) (es : Array MapEntry), xs.length ≤ 1000 ∧ keysB keys = true ∧ keys.length = xs.length ∧ ps.Perm (keys.zip xs) ∧
      t = (Nd.mk 6 0 ByteArray.empty keys xs : Nd (Tr d)) ∧ v = .iface 120 (.agg #[.map (some r)]) ∧ S r ∧ w.heap[r]? = some (.map es ps.length) ∧ MapG (TreeG S w d) es ps)

theorem MapG.moved {α : Type} {At At' : α → Value → Prop} {es : Array MapEntry} {ps : List (ByteArray × α)} (h : MapG At es ps) (hi : ∀ x u, At x u → At' x u) : MapG At' es ps :=
  ⟨h.1, fun i k x hp => by obtain ⟨u, e, hu⟩ := h.2 i k x hp; exact ⟨u, e, hi _ _ hu⟩⟩
theorem TreeG.moved {S S' : Nat → Prop} {w w' : World} (hs : Same S w w') (hS : ∀ b, S b → S' b) : ∀ (d : Nat) (t : Tr d) (v : Value), TreeG S w d t v → TreeG S' w' d t v
  | 0, _, _, h => h
  | d + 1, t, v, h => by
    rcases h with h | h | h | ⟨xs, sv, h1, h2, h3, hr⟩ | ⟨keys, xs, ps, r, es, h1, h2, h3, h4, h5, h6, hr, hm, he⟩
    · exact Or.inl h
    · exact Or.inr (Or.inl h)
    · exact Or.inr (Or.inr (Or.inl h))
    · exact Or.inr (Or.inr (Or.inr (Or.inl ⟨xs, sv, h1, h2, h3, hr.moved hs hS (fun x u hx => TreeG.moved hs hS d x u hx)⟩)))
    · exact Or.inr (Or.inr (Or.inr (Or.inr ⟨keys, xs, ps, r, es, h1, h2, h3, h4, h5, h6, hS _ hr, (hs r hr).trans hm, he.moved (fun x u hx => TreeG.moved hs hS d x u hx)⟩)))
theorem TreeG.same {S : Nat → Prop} {w w' : World} {d : Nat} {t : Tr d} {v : Value} (h : TreeG S w d t v) (hs : Same S w w') : TreeG S w' d t v := TreeG.moved hs (fun _ h => h) d t v h
theorem TreeG.mono {S S' : Nat → Prop} {w : World} {d : Nat} {t : Tr d} {v : Value} (h : TreeG S w d t v) (hS : ∀ b, S b → S' b) : TreeG S' w d t v := TreeG.moved (Same.refl _ _) hS d t v h
/-- It is one cell. -/
theorem TreeG.iface {S : Nat → Prop} {w : World} {d : Nat} {t : Tr d} {v : Value} (h : TreeG S w d t v) : ∃ T u, v = .iface T u := by
  cases d with
  | zero => exact h.elim
  | succ d =>
    rcases h with ⟨k, h1, h2, h3⟩ | ⟨k, h1, h2, h3⟩ | ⟨k, h1, h2, h3⟩ | ⟨xs, sv, h1, h2, h3, hr⟩ | ⟨keys, xs, ps, r, es, h1, h2, h3, h4, h5, h6, hr, hm, he⟩
    · exact ⟨_, _, h3⟩
    · exact ⟨_, _, h3⟩
    · exact ⟨_, _, h3⟩
    · exact ⟨_, _, h3⟩
    · exact ⟨_, _, h6⟩

theorem bytes_nil {s : ByteArray} (h : s.toList = []) : s = ByteArray.empty := by
  obtain ⟨⟨l⟩⟩ := s
  simp [ByteArray.toList_eq] at h
  subst h
  rfl
theorem len_le_many {d : Nat} {deep : Int} : ∀ (xs : List (Tr d)), xs.length ≤ (xs.map (fun x => manyT d x deep)).sum
  | [] => Nat.le_refl _
  | x :: r => by
    have := len_le_many (deep := deep) r
    have h1 : 1 ≤ manyT d x deep := by
      cases d with
      | zero => exact Empty.elim x
      | succ d => rw [manyT]; omega
    simp only [List.length_cons, List.map_cons, List.sum_cons]
    omega
theorem many_mem {d : Nat} {deep : Int} {x : Tr d} : ∀ {xs : List (Tr d)}, x ∈ xs → manyT d x deep ≤ (xs.map (fun x => manyT d x deep)).sum
  | y :: r, h => by
    simp only [List.map_cons, List.sum_cons]
    cases h with
    | head => omega
    | tail _ h => have := many_mem (deep := deep) h; omega
theorem Row1At.mem {α : Type} {S : Nat → Prop} {w : World} {At At' : α → Value → Prop} {v : Value} {xs : List α} (h : Row1At S w At v xs) (hi : ∀ x u, x ∈ xs → At x u → At' x u) : Row1At S w At' v xs := by
  obtain ⟨h1, a, cap, hv, h3⟩ := h
  refine ⟨h1, a, cap, hv, ?_⟩
  rcases h3 with h3 | ⟨b, o, hB, ha, hc⟩
  · exact Or.inl h3
  · refine Or.inr ⟨b, o, hB, ha, fun i x hx => ?_⟩
    obtain ⟨u, e0, e1⟩ := hc i x hx
    exact ⟨u, e0, hi _ _ (List.mem_of_getElem? hx) e1⟩

/-- A tree of right form, as it was made. -/
theorem treeG_of {S : Nat → Prop} {w : World} : ∀ (d : Nat) (t : Tr d) (deep : Int) (u : Value), formT d t deep = true → manyT d t deep ≤ 60 → TreeAt S w d t u → TreeG S w d t u
  | 0, _, _, _, h, _, _ => by simp [formT] at h
  | d + 1, t, deep, u, hf, hm, hu => by
    obtain ⟨kind, num, str, keys, list⟩ := t
    have ih := treeG_of (S := S) (w := w) d
    cases hb : headBad kind num str keys.length list.length deep with
    | true => rw [formT_bad hb] at hf; cases hf
    | false =>
    rw [formT_good hb] at hf
    obtain ⟨g0, g1, g2, g3, g4⟩ := headBad_iff.1 hb
    have hmany : manyT (d + 1) (Nd.mk kind num str keys list) deep = 1 + (if 0 < deep then (list.map (fun x => manyT d x (deep - 1))).sum else 0) := rfl
    rw [hmany, if_pos (by omega)] at hm
    have hll := len_le_many (deep := deep - 1) list
    rcases hu with ⟨hk, rfl⟩ | ⟨hk, rfl⟩ | ⟨hk, rfl⟩ | ⟨hk, sv, rfl, hr⟩ | ⟨hk, r, es, rfl, hr, hobj, he⟩
    · have hk' : kind = 0 ∨ kind = 1 ∨ kind = 2 := hk
      refine Or.inl ⟨kind, hk', ?_, rfl⟩
      obtain rfl := g1 (by omega)
      obtain rfl := bytes_nil (g2 (by omega))
      obtain rfl := List.eq_nil_of_length_eq_zero (g3 (by omega))
      obtain rfl := List.eq_nil_of_length_eq_zero (g4 (by omega))
      rfl
    · have hk' : kind = 3 := hk
      subst hk'
      simp at hf
      refine Or.inr (Or.inl ⟨num, ⟨by omega, by omega⟩, ?_, rfl⟩)
      obtain rfl := bytes_nil (g2 (by omega))
      obtain rfl := List.eq_nil_of_length_eq_zero (g3 (by omega))
      obtain rfl := List.eq_nil_of_length_eq_zero (g4 (by omega))
      rfl
    · have hk' : kind = 4 := hk
      subst hk'
      have hs : str.size ≤ 12 := by simp [strOk] at hf; omega
      refine Or.inr (Or.inr (Or.inl ⟨str, by omega, ?_, rfl⟩))
      obtain rfl := g1 (by omega)
      obtain rfl := List.eq_nil_of_length_eq_zero (g3 (by omega))
      obtain rfl := List.eq_nil_of_length_eq_zero (g4 (by omega))
      rfl
    · have hk' : kind = 5 := hk
      subst hk'
      have hall : list.all (fun x => formT d x (deep - 1)) = true := by simpa using hf
      refine Or.inr (Or.inr (Or.inr (Or.inl ⟨list, sv, by omega, ?_, rfl, hr.mem (fun x u hx h => ih x (deep - 1) u (List.all_eq_true.1 hall x hx) (by have := many_mem (deep := deep - 1) (show x ∈ list from hx); omega) h)⟩)))
      obtain rfl := g1 (by omega)
      obtain rfl := bytes_nil (g2 (by omega))
      obtain rfl := List.eq_nil_of_length_eq_zero (g3 (by omega))
      rfl
    · have hk' : kind = 6 := hk
      subst hk'
      simp only [show ¬ ((6 : Int) = 0 ∨ (6 : Int) = 1 ∨ (6 : Int) = 2) by omega, show ¬ ((6 : Int) = 3) by omega, show ¬ ((6 : Int) = 4) by omega, if_false, if_true, Bool.and_eq_true] at hf
      obtain ⟨⟨hq, hkb⟩, hall⟩ := hf
      have hq' : keys.length = list.length := beq_iff_eq.1 hq
      refine Or.inr (Or.inr (Or.inr (Or.inr ⟨keys, list, keys.zip list, r, es, by omega, hkb, hq', List.Perm.refl _, ?_, rfl, hr, ?_, ?_, ?_⟩)))
      · obtain rfl := g1 (by omega)
        obtain rfl := bytes_nil (g2 (by omega))
        rfl
      · rw [List.length_zip, ← hq', Nat.min_self]
        exact hobj
      · rw [List.length_zip, ← hq', Nat.min_self]
        exact he.1
      · intro i k x hp
        have hp' := List.getElem?_zip_eq_some.1 hp
        obtain ⟨u, e1, e2⟩ := he.2.2 i k x hp'.1 hp'.2
        exact ⟨u, e1, ih x (deep - 1) u (List.all_eq_true.1 hall x (List.mem_of_getElem? hp'.2)) (by have := many_mem (x := x) (deep := deep - 1) (List.mem_of_getElem? hp'.2); omega) e2⟩
end Go.Proofs.YtilgbnnjecpneaaGreatDoor

/- val: a value, in new memory, of one of the program's own trees: without parts, and rows. -/
namespace Go.Proofs.YtilgbnnjecpneaaGreatDoor
open Go.RowKit Go.Deep

/-- What val is asked to give. -/
def ValQ (d : Nat) (t : Tr d) (w : World) (e : Ending) (w' : World) : Prop := ∃ u, e = .returned u ∧ ValOwn w' d (Fresh w w') t u ∧ Below w.heap.size w w'

/-- Which function a call of val is, and that it gives the tree. -/
def ValOf (u : Value) (d : Nat) (t : Tr d) (w : World) : Prop :=
  ∃ v, (u = .iface 85 v ∧ Calls Tryz.prog 142 #[v] w (ValQ d t w)) ∨
    (u = .iface 113 v ∧ Calls Tryz.prog 149 #[v] w (ValQ d t w)) ∨
    (u = .iface 110 v ∧ Calls Tryz.prog 146 #[v] w (ValQ d t w)) ∨
    (u = .iface 80 v ∧ Calls Tryz.prog 139 #[v] w (ValQ d t w)) ∨
    (u = .iface 120 v ∧ Calls Tryz.prog 152 #[v] w (ValQ d t w))

def ValC (d : Nat) : Prop := ∀ (S : Nat → Prop) (t : Tr d) (u : Value) (w : World), TreeG S w d t u → Within S w → ValOf u d t w

/-- A tree without lists. -/
theorem valOwn_leaf (d : Nat) (k n : Int) (s : ByteArray) (w : World) (S : Nat → Prop) (hk : I64 k) (hn : I64 n) (hs : s.size < 281474976710656) :
    ValOwn w (d + 1) S (Nd.mk k n s [] [] : Nd (Tr d)) (.agg #[.int .i64 k, .int .i64 n, .string s, .slice none 0 0, .slice none 0 0]) :=
  ⟨_, _, fun _ => False, fun _ => False, rfl, hk, hn, hs, ⟨by simp, by simp, none, 0, rfl, Or.inl rfl⟩, ⟨by simp, none, 0, rfl, Or.inl rfl⟩, fun _ h => h.elim, fun _ h => h.elim, fun _ h => h.elim⟩

theorem bareVal_any (d : Nat) (k : Int) (w : World) (hk : k = 0 ∨ k = 1 ∨ k = 2) : Calls Tryz.prog 142 #[.agg #[.int .i64 k]] w (ValQ (d + 1) (Nd.mk k 0 ByteArray.empty [] [] : Nd (Tr d)) w) := by
  have hI : I64 k := ⟨by omega, by omega⟩
  clear hk
  go_enter Tryz.func142, Tryz.ntmps142
  go_wp2_with fail
  exact bodyPost_ret (v := .agg #[.int .i64 k, .int .i64 0, .string ByteArray.empty, .slice none 0 0, .slice none 0 0]) (by simp [results, Tryz.results142, go_sem]; rfl) rfl
    ⟨_, rfl, valOwn_leaf d k 0 _ _ _ hI ⟨by omega, by omega⟩ (by decide), below_trans (below_alloc1 _ _) (below_alloc1 _ _)⟩
theorem numVal_any (d : Nat) (n : Int) (w : World) (hI : I64 n) : Calls Tryz.prog 149 #[.agg #[.int .i64 n]] w (ValQ (d + 1) (Nd.mk 3 n ByteArray.empty [] [] : Nd (Tr d)) w) := by
  go_enter Tryz.func149, Tryz.ntmps149
  go_wp2_with fail
  exact bodyPost_ret (v := .agg #[.int .i64 3, .int .i64 n, .string ByteArray.empty, .slice none 0 0, .slice none 0 0]) (by simp [results, Tryz.results149, go_sem]; rfl) rfl
    ⟨_, rfl, valOwn_leaf d 3 n _ _ _ ⟨by omega, by omega⟩ hI (by decide), below_trans (below_alloc1 _ _) (below_alloc1 _ _)⟩
theorem strVal_any (d : Nat) (s : ByteArray) (w : World) (hs : s.size ≤ 1000) : Calls Tryz.prog 146 #[.agg #[.string s]] w (ValQ (d + 1) (Nd.mk 4 0 s [] [] : Nd (Tr d)) w) := by
  go_enter Tryz.func146, Tryz.ntmps146
  go_wp2_with fail
  exact bodyPost_ret (v := .agg #[.int .i64 4, .int .i64 0, .string s, .slice none 0 0, .slice none 0 0]) (by simp [results, Tryz.results146, go_sem]) rfl
    ⟨_, rfl, valOwn_leaf d 4 0 _ _ _ ⟨by omega, by omega⟩ ⟨by omega, by omega⟩ (by omega), below_trans (below_alloc1 _ _) (below_alloc1 _ _)⟩

/-- The first k values of a row that is being made. -/
structure ValsTo {d : Nat} (N : Nat) (w : World) (sv : Value) (xs : List (Tr d)) (k : Nat) (vs : List Value) (P : Nat → Nat → Prop) : Prop where
  own : w.ownsRow N 29 5 sv k vs
  lo : ∀ j c, j < k → P j c → N ≤ c ∧ c < w.heap.size ∧ some c ≠ sv.ownBlock
  dis : ∀ i j c, i < k → j < k → P i c → P j c → i = j
  val : ∀ j x, j < k → xs[j]? = some x → ∃ c0 c1 c2 c3 c4, vs[j * 5]? = some c0 ∧ vs[j * 5 + 1]? = some c1 ∧ vs[j * 5 + 2]? = some c2 ∧ vs[j * 5 + 3]? = some c3 ∧ vs[j * 5 + 4]? = some c4 ∧ ValOwn w d (P j) x (.agg #[c0, c1, c2, c3, c4])

theorem ValsTo.start {d : Nat} (N : Nat) (w : World) (xs : List (Tr d)) : ValsTo N w (.slice none 0 0) xs 0 [] (fun _ _ => False) :=
  ⟨World.ownsRow_nil _ _ _ _, fun j c hj => by omega, fun i j c hi => by omega, fun j x hj => by omega⟩

theorem ValsTo.step {d N k : Nat} {wr w1 w2 : World} {sv sv' : Value} {xs : List (Tr d)} {vs : List Value} {P : Nat → Nat → Prop} {x : Tr d} {v0 v1 v2 v3 v4 : Value} {o : Obj} (h : ValsTo N wr sv xs k vs P) (hb : Below wr.heap.size wr w1)
    (hx : xs[k]? = some x) (hu : ValOwn w1 d (Fresh wr w1) x (.agg #[v0, v1, v2, v3, v4])) (hown : w2.ownsRow N 29 5 sv' (k + 1) (vs ++ [v0, v1, v2, v3, v4])) (hg : (w1.alloc o).grownBy w2 sv.ownBlock)
    (hw : sv'.ownBlock = sv.ownBlock ∨ sv'.ownBlock = some (w1.alloc o).heap.size) (hN : N ≤ wr.heap.size) : ValsTo N w2 sv' xs (k + 1) (vs ++ [v0, v1, v2, v3, v4]) (fun j c => if j = k then Fresh wr w1 c else P j c) := by
  obtain ⟨h1, hlo, hdis, h2⟩ := h
  have hlen : vs.length = k * 5 := h1.1
  have hs1 := hb.size
  have hs3 := hg.size
  have hz : (w1.alloc o).heap.size = w1.heap.size + 1 := by simp
  rw [hz] at hs3 hw
  have hlast : ∀ b, b < w1.heap.size → some b ≠ sv.ownBlock → w2.heap[b]? = w1.heap[b]? := fun b hb1 hb2 =>
    (hg.block b (by omega) hb2).trans (Below.heap_alloc _ _ _ hb1)
  have hne : ∀ b, b < w1.heap.size → some b ≠ sv.ownBlock → some b ≠ sv'.ownBlock := fun b hb1 hb2 => by
    rcases hw with e | e
    · rw [e]; exact hb2
    · rw [e]; intro e2; cases e2; omega
  have hoff : ∀ b, Fresh wr w1 b → some b ≠ sv.ownBlock := fun b hb e => by
    have := (h1.lt b e.symm).2
    have := hb.1
    omega
  refine ⟨hown, fun j c hj hc => ?_, fun i j c hi hj hci hcj => ?_, fun j y hj hy => ?_⟩
  · by_cases e : j = k
    · rw [if_pos e] at hc
      have := hc.1
      have := hc.2
      exact ⟨by omega, by omega, hne c hc.2 (hoff c hc)⟩
    · rw [if_neg e] at hc
      have := hlo j c (by omega) hc
      exact ⟨this.1, by omega, hne c (by omega) this.2.2⟩
  · by_cases ei : i = k
    · by_cases ej : j = k
      · omega
      · rw [if_pos ei] at hci
        rw [if_neg ej] at hcj
        have := (hlo j c (by omega) hcj).2.1
        have := hci.1
        omega
    · rw [if_neg ei] at hci
      by_cases ej : j = k
      · rw [if_pos ej] at hcj
        have := (hlo i c (by omega) hci).2.1
        have := hcj.1
        omega
      · rw [if_neg ej] at hcj
        exact hdis i j c (by omega) (by omega) hci hcj
  · by_cases e : j = k
    · subst e
      rw [hx] at hy
      cases hy
      refine ⟨v0, v1, v2, v3, v4, ?_, ?_, ?_, ?_, ?_, ?_⟩
      · rw [List.getElem?_append_right (by omega), hlen]; simp
      · rw [List.getElem?_append_right (by omega), hlen]; simp
      · rw [List.getElem?_append_right (by omega), hlen]; simp
      · rw [List.getElem?_append_right (by omega), hlen]; simp
      · rw [List.getElem?_append_right (by omega), hlen]; simp
      · simp only [if_true]
        exact hu.same (fun b hb => hlast b hb.2 (hoff b hb))
    · obtain ⟨c0, c1, c2, c3, c4, e0, e1, e2, e3, e4, hv⟩ := h2 j y (by omega) hy
      refine ⟨c0, c1, c2, c3, c4, ?_, ?_, ?_, ?_, ?_, ?_⟩
      · rw [List.getElem?_append_left (by omega)]; exact e0
      · rw [List.getElem?_append_left (by omega)]; exact e1
      · rw [List.getElem?_append_left (by omega)]; exact e2
      · rw [List.getElem?_append_left (by omega)]; exact e3
      · rw [List.getElem?_append_left (by omega)]; exact e4
      · simp only [if_neg e]
        refine hv.same (fun b hB => ?_)
        have hb2 := hlo j b (by omega) hB
        rw [hlast b (by omega) hb2.2.2, hb.block b hb2.2.1]

theorem ValsTo.done {d N : Nat} {w : World} {sv : Value} {xs : List (Tr d)} {vs : List Value} {P : Nat → Nat → Prop} (h : ValsTo N w sv xs xs.length vs P) (hl : xs.length < 3518437208883) :
    RowOwn w (fun P x u => ValOwn w d P x u) (fun b => N ≤ b ∧ b < w.heap.size) sv xs := by
  obtain ⟨h1, hlo, hdis, h2⟩ := h
  refine ⟨hl, ?_⟩
  rcases h1.2 with ⟨rfl, h0⟩ | ⟨g, cap, cur, rfl, hg, hh, hnc, _, hcs, htake⟩
  · exact ⟨none, 0, by rw [h0], Or.inl (List.eq_nil_of_length_eq_zero h0)⟩
  · refine ⟨some ⟨g, 0, none⟩, cap, rfl, Or.inr ⟨g, cap * 5, fun i => cur.getD i undef, fun j c => j < xs.length ∧ P j c, ⟨hg, (Array.getElem?_eq_some_iff.1 hh).1⟩, rfl, Nat.mul_le_mul_right _ hnc, ⟨cur, hh, hcs, fun i hi => ?_⟩, fun i c hc => ?_, fun i j c hi hj => hdis i j c hi.1 hj.1 hi.2 hj.2, fun i x hx => ?_⟩⟩
    · simp [hcs, hi]
    · have := hlo i c hc.1 hc.2
      exact ⟨⟨this.1, this.2.1⟩, fun e => this.2.2 (by rw [e]; rfl)⟩
    · have hi := (List.getElem?_eq_some_iff.1 hx).1
      obtain ⟨c0, c1, c2, c3, c4, e0, e1, e2, e3, e4, hv⟩ := h2 i x hi hx
      have hget : ∀ j c, vs[j]? = some c → cur.getD j undef = c := fun j c hc => by
        rw [← htake] at hc
        have hj := (List.getElem?_eq_some_iff.1 hc).1
        rw [List.getElem?_take] at hc
        split at hc
        · rw [Array.getElem?_toList] at hc
          simp [Array.getD_eq_getD_getElem?, hc]
        · cases hc
      show ValOwn w d _ x (.agg #[cur.getD (i * 5) undef, cur.getD (i * 5 + 1) undef, cur.getD (i * 5 + 2) undef, cur.getD (i * 5 + 3) undef, cur.getD (i * 5 + 4) undef])
      rw [hget _ _ e0, hget _ _ e1, hget _ _ e2, hget _ _ e3, hget _ _ e4]
      exact hv.mono (fun c hc => ⟨hi, hc⟩)

theorem cell_five_new (w : World) (a b c d e : Value) (t : TypeId) : ∀ j u, [a, b, c, d, e][j]? = some u → (w.alloc (.cells #[a, b, c, d, e] t)).cell? ((⟨w.heap.size, 0, none⟩ : Addr).add j) = some u := by
  intro j u hj
  have hadd : (⟨w.heap.size, 0, none⟩ : Addr).add j = ⟨w.heap.size, 0 + j, none⟩ := by unfold Addr.add; split <;> simp_all
  rw [hadd]
  rcases j with _ | _ | _ | _ | _ | j
  · simp at hj; subst hj; simp
  · simp at hj; subst hj; simp
  · simp at hj; subst hj; simp
  · simp at hj; subst hj; simp
  · simp at hj; subst hj; simp
  · simp at hj

end Go.Proofs.YtilgbnnjecpneaaGreatDoor

/- val of rows. -/
namespace Go.Proofs.YtilgbnnjecpneaaGreatDoor
open Go.RowKit Go.Deep

set_option maxRecDepth 100000 in
set_option maxHeartbeats 2000000 in
theorem rowVal_any (d : Nat) (ih : ValC d) (S : Nat → Prop) (xs : List (Tr d)) (sv : Value) (w : World) (hv : Row1At S w (TreeG S w d) sv xs) (hS : Within S w) (hsm : xs.length ≤ 1000) :
    Calls Tryz.prog 139 #[.agg #[sv]] w (ValQ (d + 1) (Nd.mk 5 0 ByteArray.empty [] xs : Nd (Tr d)) w) := by
  obtain ⟨a, cap, rfl, hlen⟩ := hv.open'
  obtain ⟨W0, hW⟩ : ∃ W0, W0 = (w.alloc (.cells #[.slice a xs.length cap] 80)).alloc (.cells #[.int .i64 0, .int .i64 0, .string { data := #[] }, .slice none 0 0, .slice none 0 0] 29) := ⟨_, rfl⟩
  have hW0 : Below w.heap.size w W0 := by rw [hW]; exact below_trans (below_alloc1 _ _) (below_alloc1 _ _)
  have k1 : Blk5 W0 (w.heap.size + 1) 29 (.int .i64 0) (.int .i64 0) (.string { data := #[] }) (.slice none 0 0) (.slice none 0 0) := by
    have := Blk5.new (w.alloc (.cells #[.slice a xs.length cap] 80)) 29 (.int .i64 0) (.int .i64 0) (.string { data := #[] }) (.slice none 0 0) (.slice none 0 0)
    rw [World.size_alloc] at this
    rw [hW]
    exact this
  have HW := hide hW
  clear hW
  go_enter Tryz.func139, Tryz.ntmps139
  go_wp2_with fail
  rw [← HW.out]
  clear HW
  go_loopw [3, 9] (fun lv i wr => ∃ (k : Nat) (vs : List Value) (P : Nat → Nat → Prop), k ≤ xs.length ∧ i = .int .i64 k ∧ Hid (ValsTo W0.heap.size wr lv xs k vs P) ∧ Below W0.heap.size W0 wr) (fun _ i _ => xs.length - (intOf i).toNat)
  case atStart => exact ⟨0, [], _, Nat.zero_le _, rfl, ValsTo.start _ _ _, Below.refl _ _⟩
  case round =>
    obtain ⟨k, vs, P, hkk, rfl, hto, hbel⟩ := hrel
    have hbw := below_trans hW0 hbel
    by_cases hkl : k < xs.length
    · have hsame := hS.same hbw
      obtain ⟨b, o, x, u, rfl, _, hx, hc, hu⟩ := (hv.moved hsame (fun _ h => h) (fun x u hx => TreeG.moved hsame (fun _ h => h) d x u hx)).cell hkl
      obtain ⟨v, hm⟩ := ih S x u wr hu (hS.later hbw.size)
      have HX := hide hx
      have hNs : W0.heap.size ≤ wr.heap.size := hbel.size
      clear hx hv hu hsame hbw
      rcases hm with ⟨rfl, hcall⟩ | ⟨rfl, hcall⟩ | ⟨rfl, hcall⟩ | ⟨rfl, hcall⟩ | ⟨rfl, hcall⟩
      all_goals
        have HC := hide hcall
        clear hcall
        go_wp2_with fail
        refine Calls.mono (R := ValQ d x wr) HC.out ?_
        rintro e w1 ⟨u, rfl, hu, hb1⟩
        obtain ⟨v0, v1, v2, v3, v4, v5, v6, v7, v8, rfl⟩ := (ValOwn.at d _ _ _ hu).shape
        have hb2 := hide (below_trans hbel hb1)
        have hown1 := hide ((hto.out.own.kept (row := none) ⟨hb1.os, hb1.tape, hb1.output, hb1.size, fun i hi _ => hb1.block i hi⟩ (by cases u3.ownBlock <;> simp)).alloc (.cells #[.int .i64 v0, .int .i64 v1, .string v2, .slice v3 v4 v5, .slice v6 v7 v8] 29))
        have hN1 : W0.heap.size ≤ w1.heap.size := hb2.out.size
        have hstep : Hid (∀ sv' w2, w2.ownsRow W0.heap.size 29 5 sv' (k + 1) (vs ++ [.int .i64 v0, .int .i64 v1, .string v2, .slice v3 v4 v5, .slice v6 v7 v8]) → (w1.alloc (.cells #[.int .i64 v0, .int .i64 v1, .string v2, .slice v3 v4 v5, .slice v6 v7 v8] 29)).grownBy w2 (u3.ownBlock) →
            (sv'.ownBlock = u3.ownBlock ∨ sv'.ownBlock = some (w1.alloc (.cells #[.int .i64 v0, .int .i64 v1, .string v2, .slice v3 v4 v5, .slice v6 v7 v8] 29)).heap.size) →
            (∃ P', ValsTo W0.heap.size w2 sv' xs (k + 1) (vs ++ [.int .i64 v0, .int .i64 v1, .string v2, .slice v3 v4 v5, .slice v6 v7 v8]) P') ∧ Below W0.heap.size W0 w2) := by
          intro sv' w2 o1 o2 o3
          have hrow : ∀ g, u3.ownBlock = some g → W0.heap.size ≤ g := fun g hg => (hto.out.own.lt g hg).1
          refine ⟨⟨_, hto.out.step hb1 HX.out hu o1 o2 o3 hNs⟩, ?_⟩
          have hb3 := hb2.out
          refine ⟨o2.os.trans hb3.os, o2.tape.trans hb3.tape, o2.output.trans hb3.output, Nat.le_trans hb3.size (Nat.le_trans (by simp) o2.size), fun i hi => ?_⟩
          exact ((o2.block i (by simp; omega) (fun e => by have := hrow i e.symm; omega)).trans (Below.heap_alloc _ _ _ (by omega))).trans (hb3.block i hi)
        obtain ⟨i0, hi, hz0, hz1, hz2⟩ := info_parts Tryz.infoVal
        clear hto hu hb1 hbel HC hc hb2
        go_wp2_with (at_builtin; refine wpList_append_own_at _ rfl _ _ 27 rfl W0.heap.size 29 i0 zeroVal 5 80 Tryz.underlying27 hi hz0 hz1 hz2 rfl (by decide) _ _ _ rfl hown1.out ⟨w1.heap.size, 0, none⟩ 1 1 [.int .i64 v0, .int .i64 v1, .string v2, .slice v3 v4 v5, .slice v6 v7 v8] rfl rfl (cell_five_new _ _ _ _ _ _ _) ?c2 ?c3 ?c4 ?c5 ?_)
        case c2 => intro y hy; simp at hy; rcases hy with rfl | rfl | rfl | rfl | rfl <;> rfl
        case c3 => unfold maxLen; omega
        case c4 => omega
        case c5 => simp; omega
        · intro sv' w2 o1 o2 _ o3
          have HH := hide (hstep.out sv' w2 o1 o2 (by rw [World.size_alloc]; exact o3))
          clear o1 o2 o3 hstep hown1
          go_wp2_with fail
          go_roundw
          case rel =>
            obtain ⟨⟨P', hP'⟩, hB'⟩ := HH.out
            exact ⟨k + 1, _, P', by omega, by go_num, hP', hB'⟩
          case measure => simp [intOf]; omega
    · obtain rfl : k = xs.length := by omega
      have hdone := hto.out.done (by omega)
      obtain ⟨sa, sc, rfl, _⟩ := hdone.open'
      have k2 := k1.below hbel
      obtain ⟨y0, y1, y2, y3, y4⟩ := k2.cell
      have yf := k2.frozen
      have hend : Hid (∀ wF, wF = set5 wr (w.heap.size + 1) 0 (.int .i64 5) (.int .i64 0) (.string { data := #[] }) (.slice none 0 0) (.slice sa xs.length sc) →
          ValOwn wF (d + 1) (Fresh w wF) (Nd.mk 5 0 ByteArray.empty [] xs : Nd (Tr d)) (.agg #[.int .i64 5, .int .i64 0, .string ByteArray.empty, .slice none 0 0, .slice sa xs.length sc]) ∧ Below w.heap.size w wF) := by
        intro wF hF
        have hlt := k1.lt
        have hsm : ∀ R : Nat → Prop, (∀ b, R b → W0.heap.size ≤ b) → Same R wr wF := fun R hR b hb => by
          rw [hF, set5_block _ _ _ _ _ _ _ _ _ (by have := hR b hb; omega)]
        have hzF : wF.heap.size = wr.heap.size := by rw [hF, set5_size]
        refine ⟨⟨_, _, fun _ => False, fun b => W0.heap.size ≤ b ∧ b < wr.heap.size, rfl, ⟨by show _ ≤ (5 : Int); omega, by show (5 : Int) ≤ _; omega⟩, ⟨by show _ ≤ (0 : Int); omega, by show (0 : Int) ≤ _; omega⟩, by show ByteArray.empty.size < _; decide,
          ⟨by simp, by simp, none, 0, rfl, Or.inl rfl⟩, hdone.moved (hsm _ (fun b hb => hb.1)) (fun _ h => h) (fun P x u hP hx => ValOwn.moved d P P x u hx (hsm P (fun b hb => (hP b hb).1)) (fun _ h => h)), fun _ h => h.elim, fun b hb => ⟨by have := hb.1; have := hW0.size; omega, by rw [hzF]; exact hb.2⟩, fun _ h => h.elim⟩, ?_⟩
        rw [hF]
        exact below_set5 hbw (by omega) _ _ _ _ _ _
      clear hdone hto k2 hv
      go_wp2_with fail
      refine bodyPost_ret (v := .agg #[.int .i64 5, .int .i64 0, .string ByteArray.empty, .slice none 0 0, .slice sa xs.length sc]) (by simp [results, Tryz.results139, go_sem, y0, y1, y2, y3, y4]; rfl) rfl ⟨_, rfl, hend.out _ rfl⟩
end Go.Proofs.YtilgbnnjecpneaaGreatDoor

/- slices.Sort of no text; what is asked of it else. -/
namespace Go.Proofs.YtilgbnnjecpneaaGreatDoor
open Go.RowKit Go.Deep Go.Sort

/-- What slices.Sort does with texts. -/
def SortStrs : Prop := ∀ (blk cap : Nat) (ss : List (List UInt8)) (w : World), Holds encStr w blk 0 ss.toArray → blk < w.heap.size → ss.length < 4611686018427387904 →
    Calls Tryz.prog 154 #[.slice (some ⟨blk, 0, none⟩) ss.length cap] w fun e w' =>
      e = .returned (.tuple #[]) ∧ ∃ n os, w' = grow (putRow encStr (Sort.ahead w n) blk 0 (ss.mergeSort fun x y => decide (x ≤ y)).toArray) os

theorem insertion_nil (p : Option Addr) (cap : Nat) (w : World) :
    Calls Tryz.prog 157 #[.slice p 0 cap, .int .i64 0, .int .i64 0] w fun e w' => e = .returned (.tuple #[]) ∧ w' = w := by
  go_enter Tryz.func157, Tryz.ntmps157
  go_wp2
  refine wp_loop_rounds 1 ?_
  rw [rounds_succ]
  go_wp2
  go_end0
  exact ⟨rfl, rfl⟩

set_option maxRecDepth 100000 in
theorem pdq_nil (p : Option Addr) (cap : Nat) (w : World) :
    Calls Tryz.prog 155 #[.slice p 0 cap, .int .i64 0, .int .i64 0, .int .i64 0] w fun e w' => e = .returned (.tuple #[]) ∧ w' = w := by
  go_enter Tryz.func155, Tryz.ntmps155
  go_wp2
  refine wp_loop_rounds 1 ?_
  rw [rounds_succ]
  go_wp2_with (first | (go_at_call 157; refine (insertion_nil p cap _).mono ?_; rintro e w' ⟨rfl, rfl⟩))
  refine bodyPost_ret (results_none rfl _ _ _) rfl ?_
  exact ⟨rfl, rfl⟩

set_option maxRecDepth 100000 in
set_option maxHeartbeats 400000 in
theorem len64_zero (w : World) : Calls Tryz.prog 167 #[.int .u64 0] w fun e w' => e = .returned (.int .i64 0) ∧ w' = w := by
  go_enter Tryz.func167, Tryz.ntmps167
  go_wp2_with fail
  go_ret
  exact ⟨by kernel_rfl, rfl⟩

set_option maxRecDepth 100000 in
set_option maxHeartbeats 400000 in
theorem len_zero (w : World) : Calls Tryz.prog 156 #[.int .u64 0] w fun e w' => e = .returned (.int .i64 0) ∧ w' = w := by
  go_enter Tryz.func156, Tryz.ntmps156
  go_wp2_with fail
  refine (len64_zero _).mono ?_
  rintro e w' ⟨rfl, rfl⟩
  go_wp2_with fail
  go_ret
  exact ⟨rfl, rfl⟩

set_option maxRecDepth 100000 in
theorem sort_nil (p : Option Addr) (cap : Nat) (w : World) :
    Calls Tryz.prog 154 #[.slice p 0 cap] w fun e w' => e = .returned (.tuple #[]) ∧ w' = w := by
  go_enter Tryz.func154, Tryz.ntmps154
  go_wp2_with (first
    | (go_at_call 156; refine (len_zero _).mono ?_; rintro e w' ⟨rfl, rfl⟩)
    | (go_at_call 155; refine (pdq_nil p cap _).mono ?_; rintro e w' ⟨rfl, rfl⟩))
  go_end0
  exact ⟨rfl, rfl⟩
end Go.Proofs.YtilgbnnjecpneaaGreatDoor

/- Texts in order: the sort of keys, in whatever order they came. -/
namespace Go.Proofs.YtilgbnnjecpneaaGreatDoor
open Go.RowKit Go.Deep Go.Sort

theorem bytesLess_iff : ∀ (a b : List UInt8), Op.bytesLess a b = true ↔ a < b
  | _, [] => by cases ‹List UInt8› <;> simp [Op.bytesLess]
  | [], _ :: _ => by simp [Op.bytesLess]
  | x :: a, y :: b => by
    have ih := bytesLess_iff a b
    rw [List.cons_lt_cons_iff, ← ih]
    simp [Op.bytesLess]
theorem ltB_iff (a b : ByteArray) : ltB a b = true ↔ a.data.toList < b.data.toList := by
  rw [ltB, bytesLess_iff, ByteArray.toList_eq, ByteArray.toList_eq]
theorem keysB_sorted {ss : List ByteArray} (h : keysB ss = true) : (ss.map (fun s => s.data.toList)).Pairwise (fun a b => decide (a ≤ b) = true) := by
  rw [List.pairwise_map]
  refine (keysGo_pair ss none h).imp_of_mem ?_
  intro a b _ _ hab
  exact decide_eq_true (List.le_of_lt ((ltB_iff a b).1 hab))
theorem le_total_bytes (a b : List UInt8) : (decide (a ≤ b) || decide (b ≤ a)) = true := by
  rcases List.le_total a b with h | h
  · simp [h]
  · simp [h]
theorem le_trans_bytes (a b c : List UInt8) (h : decide (a ≤ b) = true) (k : decide (b ≤ c) = true) : decide (a ≤ c) = true := by
  simp only [decide_eq_true_eq] at h k ⊢
  exact List.le_trans h k
/-- The keys, in whatever order they came, sorted. -/
theorem sort_keys {ss : List ByteArray} (h : keysB ss = true) {cs : List (List UInt8)} (hp : cs.Perm (ss.map (fun s => s.data.toList))) : (cs.mergeSort fun x y => decide (x ≤ y)) = ss.map (fun s => s.data.toList) := by
  have h1 := List.pairwise_mergeSort (le := fun x y : List UInt8 => decide (x ≤ y)) le_trans_bytes le_total_bytes cs
  have h2 := (List.mergeSort_perm cs (fun x y => decide (x ≤ y))).trans hp
  refine h2.eq_of_pairwise ?_ h1 (keysB_sorted h)
  intro a b _ _ hab hba
  simp only [decide_eq_true_eq] at hab hba
  exact List.le_antisymm hab hba
theorem enc_keys (ss : List ByteArray) : (ss.map (fun s => s.data.toList)).map encStr = ss.map Value.string := by
  rw [List.map_map]
  rfl
theorem keysB_strOk : ∀ (ss : List ByteArray) (p : Option ByteArray), keysGo p ss = true → ∀ s ∈ ss, strOk s = true
  | [], _, _, _, h => by cases h
  | a :: r, none, h, s, hs => by
    simp only [keysGo, Bool.and_eq_true] at h
    cases hs with
    | head => exact h.1
    | tail _ hs => exact keysB_strOk r _ h.2 s hs
  | a :: r, some p, h, s, hs => by
    simp only [keysGo, Bool.and_eq_true] at h
    cases hs with
    | head => exact h.1
    | tail _ hs => exact keysB_strOk r _ h.2.2 s hs
theorem strOk_size {s : ByteArray} (h : strOk s = true) : s.size ≤ 12 := by
  simp [strOk] at h
  omega

/-- A row of texts that a call made is its own. -/
theorem strsOwn_of_row {N n : Nat} {w : World} {v : Value} {ss : List ByteArray} (h : w.ownsRow N 9 1 v n (ss.map Value.string)) (hn : n = ss.length) (hl : ss.length < 17592186044416) (hs : ∀ s ∈ ss, s.size < 281474976710656) :
    StrsOwn (fun b => N ≤ b ∧ b < w.heap.size) w v ss := by
  subst hn
  refine ⟨hl, hs, ?_⟩
  rcases h.2 with ⟨rfl, h0⟩ | ⟨g, cap, cur, rfl, hg, hh, hnc, _, hcs, htake⟩
  · exact ⟨none, 0, by rw [h0], Or.inl (List.eq_nil_of_length_eq_zero h0)⟩
  · refine ⟨some ⟨g, 0, none⟩, cap, rfl, Or.inr ⟨g, cap, fun i => cur.getD i undef, ⟨hg, (Array.getElem?_eq_some_iff.1 hh).1⟩, rfl, hnc, ⟨cur, hh, by rw [hcs, Nat.mul_one], fun i hi => ?_⟩, fun i s hi => ?_⟩⟩
    · simp [hcs, hi]
    · have hil := (List.getElem?_eq_some_iff.1 hi).1
      have h1 : (ss.map Value.string)[i]? = some (.string s) := by rw [List.getElem?_map, hi]; rfl
      rw [← htake, List.getElem?_take_of_lt (by omega), Array.getElem?_toList] at h1
      simp [Array.getD_eq_getD_getElem?, h1]
end Go.Proofs.YtilgbnnjecpneaaGreatDoor

/- A map of the program's own trees, asked for a key. -/
namespace Go.Proofs.YtilgbnnjecpneaaGreatDoor
open Go.RowKit Go.Deep

theorem findNow_at (s : ByteArray) : ∀ (l : List MapEntry) (j i : Nat) (e : MapEntry), l[j]? = some e → e.key = .string s → (∀ i' e', i' < j → l[i']? = some e' → ∃ k, e'.key = .string k ∧ k ≠ s) →
    Instr.findNow .string (.string s) l i = some (some (i + j, e.val))
  | [], j, _, _, h, _, _ => by simp at h
  | a :: r, 0, i, e, h, hk, _ => by
    simp at h
    subst h
    have hb : (s == s) = true := (MapKept.bytes_beq s s).2 rfl
    simp [Instr.findNow, hk, Instr.sameNow, hb]
  | a :: r, j + 1, i, e, h, hk, hn => by
    obtain ⟨k, ha, hne⟩ := hn 0 a (by omega) rfl
    have hb : (s == k) = false := by
      cases hb : (s == k)
      · rfl
      · exact absurd ((MapKept.bytes_beq s k).1 hb).symm hne
    have ih := findNow_at s r j (i + 1) e (by simpa using h) hk (fun i' e' hi he => hn (i' + 1) e' (by omega) (by simpa using he))
    simp only [Instr.findNow, ha, Instr.sameNow, hb]
    rw [ih]
    congr 3
    omega

theorem run_mapGet (w : World) (r clock j : Nat) (es : Array MapEntry) (s : ByteArray) (u : Value) (b : Nat) (ok : Bool) (hb : w.heap[r]? = some (.map es clock)) (hj : es[j]? = some ⟨.string s, u, b⟩)
    (hn : ∀ i' e', i' < j → es[i']? = some e' → ∃ k, e'.key = .string k ∧ k ≠ s) :
    (Instr.lookup 118 (.map (some r)) (.string s) ok).run Tryz.prog w = .ok (if ok then .tuple #[u, .bool true] else u) w := by
  have hf := findNow_at s es.toList j 0 ⟨.string s, u, b⟩ (by rw [Array.getElem?_toList]; exact hj) rfl (fun i' e' hi he => hn i' e' hi (by rw [Array.getElem?_toList] at he; exact he))
  have hk : ∀ fl, (Instr.checkKey fl 10000 9 (.string s)).run Tryz.prog w = .ok () w := fun fl =>
    MapKept.run_checkKey (P := Tryz.prog) (w := w) (k := .string s) Tryz.underlying9 trivial fl 9999
  have hfk := MapKept.run_findKey (P := Tryz.prog) (w := w) Tryz.underlying9 hf
  simp [Instr.lookup, run_underlying Tryz.underlying118, getObj, Sem.run, hb, hk, hfk]

theorem run_mapMiss (w : World) (r clock : Nat) (es : Array MapEntry) (s : ByteArray) (hb : w.heap[r]? = some (.map es clock)) (hn : ∀ e ∈ es.toList, ∃ k, e.key = .string k ∧ k ≠ s) :
    (Instr.lookup 118 (.map (some r)) (.string s) true).run Tryz.prog w = .ok (.tuple #[.nilIface, .bool false]) w := by
  have hf := findNow_none s es.toList 0 hn
  have hk : ∀ fl, (Instr.checkKey fl 10000 9 (.string s)).run Tryz.prog w = .ok () w := fun fl =>
    MapKept.run_checkKey (P := Tryz.prog) (w := w) (k := .string s) Tryz.underlying9 trivial fl 9999
  have hfk := MapKept.run_findKey (P := Tryz.prog) (w := w) Tryz.underlying9 hf
  simp [Instr.lookup, run_underlying Tryz.underlying118, getObj, Sem.run, hb, hk, hfk]

theorem keysB_nodup {ss : List ByteArray} (h : keysB ss = true) : ss.Nodup := by
  refine (keysGo_pair ss none h).imp_of_mem ?_
  intro a b _ _ hab e
  subst e
  have := (ltB_iff a a).1 hab
  exact absurd this (List.lt_irrefl _)

/-- Where a key of the map lies among its entries. -/
theorem MapG.find {α : Type} {At : α → Value → Prop} {es : Array MapEntry} {ps : List (ByteArray × α)} (h : MapG At es ps) (hnd : (ps.map Prod.fst).Nodup) {s : ByteArray} {x : α} (hx : (s, x) ∈ ps) :
    ∃ (j : Nat) (u : Value), ps[j]? = some (s, x) ∧ es[j]? = some (⟨.string s, u, j⟩ : MapEntry) ∧ At x u ∧ ∀ (i' : Nat) (e' : MapEntry), i' < j → es[i']? = some e' → ∃ k, e'.key = .string k ∧ k ≠ s := by
  obtain ⟨j, hj⟩ := List.getElem?_of_mem hx
  obtain ⟨u, hu, ha⟩ := h.2 j s x hj
  refine ⟨j, u, hj, hu, ha, fun i' e' hi he => ?_⟩
  have hjl := (List.getElem?_eq_some_iff.1 hj).1
  obtain ⟨u', hu', _⟩ := h.2 i' ps[i'].1 ps[i'].2 (List.getElem?_eq_getElem (by omega))
  rw [he] at hu'
  cases hu'
  refine ⟨_, rfl, fun e => ?_⟩
  have h1 : (ps.map Prod.fst)[i']? = some s := by rw [List.getElem?_map, List.getElem?_eq_getElem (by omega), ← e]; rfl
  have h2 : (ps.map Prod.fst)[j]? = some s := by rw [List.getElem?_map, hj]; rfl
  have := (List.getElem?_inj (by rw [List.length_map]; omega) hnd).1 (h1.trans h2.symm)
  omega
/-- A key that the map has not. -/
theorem MapG.miss {α : Type} {At : α → Value → Prop} {es : Array MapEntry} {ps : List (ByteArray × α)} (h : MapG At es ps) {s : ByteArray} (hs : s ∉ ps.map Prod.fst) : ∀ e ∈ es.toList, ∃ k, e.key = .string k ∧ k ≠ s := by
  intro e he
  obtain ⟨i, hi⟩ := List.getElem?_of_mem he
  rw [Array.getElem?_toList] at hi
  have hil := (Array.getElem?_eq_some_iff.1 hi).1
  have hil2 : i < ps.length := by rw [← h.1]; exact hil
  obtain ⟨u, hu, _⟩ := h.2 i ps[i].1 ps[i].2 (List.getElem?_eq_getElem hil2)
  rw [hi] at hu
  cases hu
  exact ⟨_, rfl, fun e => hs (by rw [← e]; exact List.mem_map.2 ⟨ps[i], List.getElem_mem hil2, rfl⟩)⟩
theorem perm_nodup {α : Type} {ps : List (ByteArray × α)} {keys : List ByteArray} {xs : List α} (hp : ps.Perm (keys.zip xs)) (hkx : keys.length = xs.length) (hkb : keysB keys = true) : (ps.map Prod.fst).Nodup := by
  have h := hp.map Prod.fst
  rw [List.map_fst_zip (by omega)] at h
  exact h.nodup_iff.2 (keysB_nodup hkb)
end Go.Proofs.YtilgbnnjecpneaaGreatDoor
