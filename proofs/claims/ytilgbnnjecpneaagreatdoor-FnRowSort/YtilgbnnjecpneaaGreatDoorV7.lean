/- Texts of the proof, put together by program: WValA, WMarkT, WMark, WHeld, WCopyP, WCopyQ, WCopy. -/
import Derived.Test.YtilgbnnjecpneaaGreatDoorV6
import Derived.Test.YtilgbnnjecpneaaGreatDoorV4
import Derived.Laws.IdiomStrings
import Derived.Test.YtilgbnnjecpneaaGreatDoorV3
import Derived.Deep.RegionHeld3
import Derived.Deep.RegionLaw
import Derived.Deep.DeepCutAuto
import Derived.Deep.AppendLies
/- val: a value, in new memory, of one of the program's own trees: without parts, and rows. -/
namespace Go.Proofs.YtilgbnnjecpneaaGreatDoor
open Go.RowKit Go.Deep

/-- What val is asked to give. -/
def ValQ (d : Nat) (t : Tr d) (w : World) (e : Ending) (w' : World) : Prop := ∃ u, e = .returned u ∧ ValOwn w' d (Fresh w w') t u ∧ Below w.heap.size w w'

/-- Which function a call of val is, and that it gives the tree. -/
def ValOf (u : Value) (d : Nat) (t : Tr d) (w : World) : Prop :=
  ∃ v, (u = .iface 85 v ∧ Calls Tryz.prog 142 #[v] w (ValQ d t w)) ∨
    (u = .iface 113 v ∧ Calls Tryz.prog 149 #[v] w (ValQ d t w)) ∨
    (u = .iface 110 v ∧ Calls Tryz.prog 146 #[v] w (ValQ d t w)) ∨
    (u = .iface 80 v ∧ Calls Tryz.prog 139 #[v] w (ValQ d t w)) ∨
    (u = .iface 120 v ∧ Calls Tryz.prog 152 #[v] w (ValQ d t w))

def ValC (d : Nat) : Prop := ∀ (S : Nat → Prop) (t : Tr d) (u : Value) (w : World), TreeG S w d t u → Within S w → ValOf u d t w

/-- A tree without lists. -/
theorem valOwn_leaf (d : Nat) (k n : Int) (s : ByteArray) (w : World) (S : Nat → Prop) (hk : I64 k) (hn : I64 n) (hs : s.size < 281474976710656) :
    ValOwn w (d + 1) S (Nd.mk k n s [] [] : Nd (Tr d)) (.agg #[.int .i64 k, .int .i64 n, .string s, .slice none 0 0, .slice none 0 0]) :=
  ⟨_, _, fun _ => False, fun _ => False, rfl, hk, hn, hs, ⟨by simp, by simp, none, 0, rfl, Or.inl rfl⟩, ⟨by simp, none, 0, rfl, Or.inl rfl⟩, fun _ h => h.elim, fun _ h => h.elim, fun _ h => h.elim⟩

theorem bareVal_any (d : Nat) (k : Int) (w : World) (hk : k = 0 ∨ k = 1 ∨ k = 2) : Calls Tryz.prog 142 #[.agg #[.int .i64 k]] w (ValQ (d + 1) (Nd.mk k 0 ByteArray.empty [] [] : Nd (Tr d)) w) := by
  have hI : I64 k := ⟨by omega, by omega⟩
  clear hk
  go_enter Tryz.func142, Tryz.ntmps142
  go_wp2_with fail
  exact bodyPost_ret (v := .agg #[.int .i64 k, .int .i64 0, .string ByteArray.empty, .slice none 0 0, .slice none 0 0]) (by simp [results, Tryz.results142, go_sem]; rfl) rfl
    ⟨_, rfl, valOwn_leaf d k 0 _ _ _ hI ⟨by omega, by omega⟩ (by decide), below_trans (below_alloc1 _ _) (below_alloc1 _ _)⟩
theorem numVal_any (d : Nat) (n : Int) (w : World) (hI : I64 n) : Calls Tryz.prog 149 #[.agg #[.int .i64 n]] w (ValQ (d + 1) (Nd.mk 3 n ByteArray.empty [] [] : Nd (Tr d)) w) := by
  go_enter Tryz.func149, Tryz.ntmps149
  go_wp2_with fail
  exact bodyPost_ret (v := .agg #[.int .i64 3, .int .i64 n, .string ByteArray.empty, .slice none 0 0, .slice none 0 0]) (by simp [results, Tryz.results149, go_sem]; rfl) rfl
    ⟨_, rfl, valOwn_leaf d 3 n _ _ _ ⟨by omega, by omega⟩ hI (by decide), below_trans (below_alloc1 _ _) (below_alloc1 _ _)⟩
theorem strVal_any (d : Nat) (s : ByteArray) (w : World) (hs : s.size ≤ 1000) : Calls Tryz.prog 146 #[.agg #[.string s]] w (ValQ (d + 1) (Nd.mk 4 0 s [] [] : Nd (Tr d)) w) := by
  go_enter Tryz.func146, Tryz.ntmps146
  go_wp2_with fail
  exact bodyPost_ret (v := .agg #[.int .i64 4, .int .i64 0, .string s, .slice none 0 0, .slice none 0 0]) (by simp [results, Tryz.results146, go_sem]) rfl
    ⟨_, rfl, valOwn_leaf d 4 0 _ _ _ ⟨by omega, by omega⟩ ⟨by omega, by omega⟩ (by omega), below_trans (below_alloc1 _ _) (below_alloc1 _ _)⟩

/-- The first k values of a row that is being made. -/
structure ValsTo {d : Nat} (N : Nat) (w : World) (sv : Value) (xs : List (Tr d)) (k : Nat) (vs : List Value) (P : Nat → Nat → Prop) : Prop where
  own : w.ownsRow N 29 5 sv k vs
  lo : ∀ j c, j < k → P j c → N ≤ c ∧ c < w.heap.size ∧ some c ≠ sv.ownBlock
  dis : ∀ i j c, i < k → j < k → P i c → P j c → i = j
  val : ∀ j x, j < k → xs[j]? = some x → ∃ c0 c1 c2 c3 c4, vs[j * 5]? = some c0 ∧ vs[j * 5 + 1]? = some c1 ∧ vs[j * 5 + 2]? = some c2 ∧ vs[j * 5 + 3]? = some c3 ∧ vs[j * 5 + 4]? = some c4 ∧ ValOwn w d (P j) x (.agg #[c0, c1, c2, c3, c4])

theorem ValsTo.start {d : Nat} (N : Nat) (w : World) (xs : List (Tr d)) : ValsTo N w (.slice none 0 0) xs 0 [] (fun _ _ => False) :=
  ⟨World.ownsRow_nil _ _ _ _, fun j c hj => by omega, fun i j c hi => by omega, fun j x hj => by omega⟩

theorem ValsTo.step {d N k : Nat} {wr w1 w2 : World} {sv sv' : Value} {xs : List (Tr d)} {vs : List Value} {P : Nat → Nat → Prop} {x : Tr d} {v0 v1 v2 v3 v4 : Value} {o : Obj} (h : ValsTo N wr sv xs k vs P) (hb : Below wr.heap.size wr w1)
    (hx : xs[k]? = some x) (hu : ValOwn w1 d (Fresh wr w1) x (.agg #[v0, v1, v2, v3, v4])) (hown : w2.ownsRow N 29 5 sv' (k + 1) (vs ++ [v0, v1, v2, v3, v4])) (hg : (w1.alloc o).grownBy w2 sv.ownBlock)
    (hw : sv'.ownBlock = sv.ownBlock ∨ sv'.ownBlock = some (w1.alloc o).heap.size) (hN : N ≤ wr.heap.size) : ValsTo N w2 sv' xs (k + 1) (vs ++ [v0, v1, v2, v3, v4]) (fun j c => if j = k then Fresh wr w1 c else P j c) := by
  obtain ⟨h1, hlo, hdis, h2⟩ := h
  have hlen : vs.length = k * 5 := h1.1
  have hs1 := hb.size
  have hs3 := hg.size
  have hz : (w1.alloc o).heap.size = w1.heap.size + 1 := by simp
  rw [hz] at hs3 hw
  have hlast : ∀ b, b < w1.heap.size → some b ≠ sv.ownBlock → w2.heap[b]? = w1.heap[b]? := fun b hb1 hb2 =>
    (hg.block b (by omega) hb2).trans (Below.heap_alloc _ _ _ hb1)
  have hne : ∀ b, b < w1.heap.size → some b ≠ sv.ownBlock → some b ≠ sv'.ownBlock := fun b hb1 hb2 => by
    rcases hw with e | e
    · rw [e]; exact hb2
    · rw [e]; intro e2; cases e2; omega
  have hoff : ∀ b, Fresh wr w1 b → some b ≠ sv.ownBlock := fun b hb e => by
    have := (h1.lt b e.symm).2
    have := hb.1
    omega
  refine ⟨hown, fun j c hj hc => ?_, fun i j c hi hj hci hcj => ?_, fun j y hj hy => ?_⟩
  · by_cases e : j = k
    · rw [if_pos e] at hc
      have := hc.1
      have := hc.2
      exact ⟨by omega, by omega, hne c hc.2 (hoff c hc)⟩
    · rw [if_neg e] at hc
      have := hlo j c (by omega) hc
      exact ⟨this.1, by omega, hne c (by omega) this.2.2⟩
  · by_cases ei : i = k
    · by_cases ej : j = k
      · omega
      · rw [if_pos ei] at hci
        rw [if_neg ej] at hcj
        have := (hlo j c (by omega) hcj).2.1
        have := hci.1
        omega
    · rw [if_neg ei] at hci
      by_cases ej : j = k
      · rw [if_pos ej] at hcj
        have := (hlo i c (by omega) hci).2.1
        have := hcj.1
        omega
      · rw [if_neg ej] at hcj
        exact hdis i j c (by omega) (by omega) hci hcj
  · by_cases e : j = k
    · subst e
      rw [hx] at hy
      cases hy
      refine ⟨v0, v1, v2, v3, v4, ?_, ?_, ?_, ?_, ?_, ?_⟩
      · rw [List.getElem?_append_right (by omega), hlen]; simp
      · rw [List.getElem?_append_right (by omega), hlen]; simp
      · rw [List.getElem?_append_right (by omega), hlen]; simp
      · rw [List.getElem?_append_right (by omega), hlen]; simp
      · rw [List.getElem?_append_right (by omega), hlen]; simp
      · simp only [if_true]
        exact hu.same (fun b hb => hlast b hb.2 (hoff b hb))
    · obtain ⟨c0, c1, c2, c3, c4, e0, e1, e2, e3, e4, hv⟩ := h2 j y (by omega) hy
      refine ⟨c0, c1, c2, c3, c4, ?_, ?_, ?_, ?_, ?_, ?_⟩
      · rw [List.getElem?_append_left (by omega)]; exact e0
      · rw [List.getElem?_append_left (by omega)]; exact e1
      · rw [List.getElem?_append_left (by omega)]; exact e2
      · rw [List.getElem?_append_left (by omega)]; exact e3
      · rw [List.getElem?_append_left (by omega)]; exact e4
      · simp only [if_neg e]
        refine hv.same (fun b hB => ?_)
        have hb2 := hlo j b (by omega) hB
        rw [hlast b (by omega) hb2.2.2, hb.block b hb2.2.1]

theorem ValsTo.done {d N : Nat} {w : World} {sv : Value} {xs : List (Tr d)} {vs : List Value} {P : Nat → Nat → Prop} (h : ValsTo N w sv xs xs.length vs P) (hl : xs.length < 3518437208883) :
    RowOwn w (fun P x u => ValOwn w d P x u) (fun b => N ≤ b ∧ b < w.heap.size) sv xs := by
  obtain ⟨h1, hlo, hdis, h2⟩ := h
  refine ⟨hl, ?_⟩
  rcases h1.2 with ⟨rfl, h0⟩ | ⟨g, cap, cur, rfl, hg, hh, hnc, _, hcs, htake⟩
  · exact ⟨none, 0, by rw [h0], Or.inl (List.eq_nil_of_length_eq_zero h0)⟩
  · refine ⟨some ⟨g, 0, none⟩, cap, rfl, Or.inr ⟨g, cap * 5, fun i => cur.getD i undef, fun j c => j < xs.length ∧ P j c, ⟨hg, (Array.getElem?_eq_some_iff.1 hh).1⟩, rfl, Nat.mul_le_mul_right _ hnc, ⟨cur, hh, hcs, fun i hi => ?_⟩, fun i c hc => ?_, fun i j c hi hj => hdis i j c hi.1 hj.1 hi.2 hj.2, fun i x hx => ?_⟩⟩
    · simp [hcs, hi]
    · have := hlo i c hc.1 hc.2
      exact ⟨⟨this.1, this.2.1⟩, fun e => this.2.2 (by rw [e]; rfl)⟩
    · have hi := (List.getElem?_eq_some_iff.1 hx).1
      obtain ⟨c0, c1, c2, c3, c4, e0, e1, e2, e3, e4, hv⟩ := h2 i x hi hx
      have hget : ∀ j c, vs[j]? = some c → cur.getD j undef = c := fun j c hc => by
        rw [← htake] at hc
        have hj := (List.getElem?_eq_some_iff.1 hc).1
        rw [List.getElem?_take] at hc
        split at hc
        · rw [Array.getElem?_toList] at hc
          simp [Array.getD_eq_getD_getElem?, hc]
        · cases hc
      show ValOwn w d _ x (.agg #[cur.getD (i * 5) undef, cur.getD (i * 5 + 1) undef, cur.getD (i * 5 + 2) undef, cur.getD (i * 5 + 3) undef, cur.getD (i * 5 + 4) undef])
      rw [hget _ _ e0, hget _ _ e1, hget _ _ e2, hget _ _ e3, hget _ _ e4]
      exact hv.mono (fun c hc => ⟨hi, hc⟩)

theorem cell_five_new (w : World) (a b c d e : Value) (t : TypeId) : ∀ j u, [a, b, c, d, e][j]? = some u → (w.alloc (.cells #[a, b, c, d, e] t)).cell? ((⟨w.heap.size, 0, none⟩ : Addr).add j) = some u := by
  intro j u hj
  have hadd : (⟨w.heap.size, 0, none⟩ : Addr).add j = ⟨w.heap.size, 0 + j, none⟩ := by unfold Addr.add; split <;> simp_all
  rw [hadd]
  rcases j with _ | _ | _ | _ | _ | j
  · simp at hj; subst hj; simp
  · simp at hj; subst hj; simp
  · simp at hj; subst hj; simp
  · simp at hj; subst hj; simp
  · simp at hj; subst hj; simp
  · simp at hj

end Go.Proofs.YtilgbnnjecpneaaGreatDoor

/- markText: the text of a mark. -/
namespace Go.Proofs.YtilgbnnjecpneaaGreatDoor
open Go.RowKit Go.Deep

end Go.Proofs.YtilgbnnjecpneaaGreatDoor

/- markStringS, markValS, markVal: marks are written into a tree that owns its memory. -/
namespace Go.Proofs.YtilgbnnjecpneaaGreatDoor
open Go.RowKit Go.Deep

end Go.Proofs.YtilgbnnjecpneaaGreatDoor

/- heldStringS, heldValS, heldVal: the marks are there. -/
namespace Go.Proofs.YtilgbnnjecpneaaGreatDoor
open Go.RowKit Go.Deep

theorem ext_cell {W : World} {b o : Nat} {u : Value} (h : W.cell? ⟨b, o, none⟩ = some u) (n : Ext W) : n.now.cell? ⟨b, o, none⟩ = some u :=
  (n.from_.cell (p := ⟨b, o, none⟩) (World.block_lt_of_cell? W _ h)).trans h

end Go.Proofs.YtilgbnnjecpneaaGreatDoor

/- What stands while l1Copy copies a tree. -/
namespace Go.Proofs.YtilgbnnjecpneaaGreatDoor
open Go.RowKit Go.Deep

/-- What l1Copy does with trees of this depth. -/
def CopyC (d : Nat) : Prop := ∀ (S : Nat → Prop) (t : Tr d) (v : Value) (w : World), ValAt S w d t v → Within S w → (wtT d t : Int) ≤ 4194304 →
    Calls Tryz.prog 60 #[v] w fun e w' => ∃ u, e = .returned u ∧ ValOwn w' d (Fresh w w') t u ∧ Below w.heap.size w w'

theorem size2 (w : World) (A B : Obj) : ((w.alloc A).alloc B).heap.size = w.heap.size + 1 + 1 := by simp
theorem size3 (w : World) (A B C : Obj) : (((w.alloc A).alloc B).alloc C).heap.size = w.heap.size + 1 + 1 + 1 := by simp
theorem nb1 (w : World) (A B o : Obj) : (((w.alloc A).alloc B).alloc o).drew.heap[w.heap.size + 1 + 1]? = some o := by
  have h := heap_alloc_new ((w.alloc A).alloc B) o
  rw [size2] at h
  exact h
theorem nb2 (w : World) (A B o C : Obj) : ((((w.alloc A).alloc B).alloc o).alloc C).drew.heap[w.heap.size + 1 + 1]? = some o :=
  (Below.heap_alloc (((w.alloc A).alloc B).alloc o) C _ (by rw [size3]; omega)).trans (nb1 w A B o)
theorem nb3 (w : World) (A B C o : Obj) : ((((w.alloc A).alloc B).alloc C).alloc o).drew.heap[w.heap.size + 1 + 1 + 1]? = some o := by
  have h := heap_alloc_new (((w.alloc A).alloc B).alloc C) o
  rw [size3] at h
  exact h
theorem kA3 (w : World) (A B C : Obj) : (((w.alloc A).alloc B).alloc C).drew.heap[w.heap.size]? = some A :=
  (Below.heap_alloc ((w.alloc A).alloc B) C _ (by rw [size2]; omega)).trans ((Below.heap_alloc (w.alloc A) B _ (by simp)).trans (heap_alloc_new w A))
theorem kA4 (w : World) (A B C D : Obj) : ((((w.alloc A).alloc B).alloc C).alloc D).drew.heap[w.heap.size]? = some A :=
  (Below.heap_alloc (((w.alloc A).alloc B).alloc C) D _ (by rw [size3]; omega)).trans (kA3 w A B C)
theorem kB3 (w : World) (A B C : Obj) : (((w.alloc A).alloc B).alloc C).drew.heap[w.heap.size + 1]? = some B := by
  have h := heap_alloc_new (w.alloc A) B
  rw [World.size_alloc] at h
  exact (Below.heap_alloc ((w.alloc A).alloc B) C _ (by rw [size2]; omega)).trans h
theorem kB4 (w : World) (A B C D : Obj) : ((((w.alloc A).alloc B).alloc C).alloc D).drew.heap[w.heap.size + 1]? = some B :=
  (Below.heap_alloc (((w.alloc A).alloc B).alloc C) D _ (by rw [size3]; omega)).trans (kB3 w A B C)
theorem below_drew1 {B : Nat} {a w : World} (h : Below B a w) : Below B a w.drew := ⟨h.os, h.tape, h.output, h.size, h.block⟩
theorem bl3 (w : World) (A B C : Obj) : Below w.heap.size w (((w.alloc A).alloc B).alloc C).drew := below_drew1 (below_trans (below_trans (below_alloc1 _ _) (below_alloc1 _ _)) (below_alloc1 _ _))
theorem bl4 (w : World) (A B C D : Obj) : Below w.heap.size w ((((w.alloc A).alloc B).alloc C).alloc D).drew := below_drew1 (below_trans (below_trans (below_trans (below_alloc1 _ _) (below_alloc1 _ _)) (below_alloc1 _ _)) (below_alloc1 _ _))

/-- What stands when the copy's own variable is made, its list still empty. -/
structure CopyAt {d : Nat} (w wc : World) (t : Nd (Tr d)) (c3 c4 : Value) (b : Nat) (vk : Value) : Prop where
  out : Blk5 wc b 29 (.int .i64 t.kind) (.int .i64 t.num) (.string t.str) vk (.slice none 0 0)
  box : Blk5 wc w.heap.size 29 (.int .i64 t.kind) (.int .i64 t.num) (.string t.str) c3 c4
  res : Blk5 wc (w.heap.size + 1) 29 (.int .i64 0) (.int .i64 0) (.string { data := #[] }) (.slice none 0 0) (.slice none 0 0)
  keys : StrsOwn (fun x => w.heap.size + 1 < x ∧ x < wc.heap.size ∧ x ≠ b) wc vk t.keys
  below : Below w.heap.size w wc
  above : w.heap.size + 1 < b

theorem StrsOwn.sub {S S' : Nat → Prop} {w : World} {v : Value} {ss : List ByteArray} (h : StrsOwn S w v ss) (hS : ∀ b, S b → b < w.heap.size → S' b) : StrsOwn S' w v ss := by
  obtain ⟨h1, h2, a, cap, hv, h3⟩ := h
  refine ⟨h1, h2, a, cap, hv, ?_⟩
  rcases h3 with h3 | ⟨b, n, f, hB, ha, hl, hr, hc⟩
  · exact Or.inl h3
  · exact Or.inr ⟨b, n, f, hS b hB hr.lt, ha, hl, hr, hc⟩

theorem copy_a {d : Nat} {w W w' : World} {t : Nd (Tr d)} {c3 c4 vk : Value} {G : Nat} (hB : Below w.heap.size w W) (hbox : Blk5 W w.heap.size 29 (.int .i64 t.kind) (.int .i64 t.num) (.string t.str) c3 c4)
    (hres : Blk5 W (w.heap.size + 1) 29 (.int .i64 0) (.int .i64 0) (.string { data := #[] }) (.slice none 0 0) (.slice none 0 0)) (hG : w.heap.size + 1 < G) (hgr : W.grownBy w' (some G))
    (hown : StrsOwn (fun b => b = G ∨ b = W.heap.size) w' vk t.keys) :
    CopyAt w (w'.alloc (.cells #[.int .i64 t.kind, .int .i64 t.num, .string t.str, vk, .slice none 0 0] 29)) t c3 c4 w'.heap.size vk := by
  have hlt := hres.lt
  have hsz := hgr.size
  refine ⟨Blk5.new _ _ _ _ _ _ _, (hbox.of_block (hgr.block _ hbox.lt (fun e => by cases e; omega))).alloc _, (hres.of_block (hgr.block _ hres.lt (fun e => by cases e; omega))).alloc _, ?_, ?_, by omega⟩
  · refine (hown.sub (S' := fun x => w.heap.size + 1 < x ∧ x < w'.heap.size) (fun b hb hbl => ⟨by rcases hb with rfl | rfl <;> omega, hbl⟩)).moved (fun b hb => Below.heap_alloc _ _ _ hb.2) (fun b hb => ⟨hb.1, by have := hb.2; simp; omega, by have := hb.2; omega⟩)
  · refine below_trans (b := w') ⟨hgr.os.trans hB.os, hgr.tape.trans hB.tape, hgr.output.trans hB.output, Nat.le_trans hB.size hgr.size, fun k hk => ?_⟩ (below_alloc1 _ _)
    exact (hgr.block k (Nat.lt_of_lt_of_le hk hB.size) (fun e => by cases e; omega)).trans (hB.block k hk)

theorem copy_b {d : Nat} {w W w' : World} {t : Nd (Tr d)} {c3 c4 vk : Value} {G V : Nat} (hB : Below w.heap.size w W) (hbox : Blk5 W w.heap.size 29 (.int .i64 t.kind) (.int .i64 t.num) (.string t.str) c3 c4)
    (hres : Blk5 W (w.heap.size + 1) 29 (.int .i64 0) (.int .i64 0) (.string { data := #[] }) (.slice none 0 0) (.slice none 0 0)) (hvar : Blk5 W V 29 (.int .i64 0) (.int .i64 0) (.string { data := #[] }) (.slice none 0 0) (.slice none 0 0))
    (hG : w.heap.size + 1 < G) (hV : w.heap.size + 1 < V) (hGV : V ≠ G) (hgr : W.grownBy w' (some G))
    (hown : StrsOwn (fun b => b = G ∨ b = W.heap.size) w' vk t.keys) :
    CopyAt w (set5 w' V 0 (.int .i64 t.kind) (.int .i64 t.num) (.string t.str) vk (.slice none 0 0)) t c3 c4 V vk := by
  have hlt := hres.lt
  have hvl := hvar.lt
  have hsz := hgr.size
  have hv' := hvar.of_block (hgr.block _ hvl (fun e => hGV (by cases e; rfl)))
  refine ⟨?_, (hbox.of_block (hgr.block _ hbox.lt (fun e => by cases e; omega))).of_block (set5_block _ _ _ _ _ _ _ _ _ (by omega)), (hres.of_block (hgr.block _ hres.lt (fun e => by cases e; omega))).of_block (set5_block _ _ _ _ _ _ _ _ _ (by omega)), ?_, ?_, hV⟩
  · unfold Blk5 at hv' ⊢
    simp [set5, World.setCell, Array.getElem?_modify, hv']
  · refine (hown.sub (S' := fun x => w.heap.size + 1 < x ∧ x < w'.heap.size ∧ x ≠ V) (fun b hb hbl => ⟨by rcases hb with rfl | rfl <;> omega, hbl, by rcases hb with rfl | rfl <;> omega⟩)).moved (fun b hb => set5_block _ _ _ _ _ _ _ _ _ hb.2.2) (fun b hb => ⟨hb.1, by rw [set5_size]; exact hb.2.1, hb.2.2⟩)
  · refine below_set5 ⟨hgr.os.trans hB.os, hgr.tape.trans hB.tape, hgr.output.trans hB.output, Nat.le_trans hB.size hgr.size, fun k hk => ?_⟩ (by omega) _ _ _ _ _ _
    exact (hgr.block k (Nat.lt_of_lt_of_le hk hB.size) (fun e => by cases e; omega)).trans (hB.block k hk)

/-- What stands when the first k trees are copied. -/
structure CopyTo {d : Nat} (wc wr : World) (t : Nd (Tr d)) (b : Nat) (vk lv : Value) (k : Nat) (vs : List Value) (P : Nat → Nat → Prop) : Prop where
  out : Blk5 wr b 29 (.int .i64 t.kind) (.int .i64 t.num) (.string t.str) vk lv
  vals : ValsTo wc.heap.size wr lv t.list k vs P
  but : But b wc wr


/-- A call, as one step of a region that draws. -/
theorem step_call_run {P : Program} {ops : Array Oper} {o : Oper} {a : Act} {w : World} {K : Act → World → Prop} {Q : Exit → Act → World → Prop} {E : Prop} (Φ : Value → World → Prop) (f : FuncId) (args : Array Value)
    (hg : o.guard = none) (hrun : (execOp a.eval o).run P w = .ok (.enter f args) w) (hc : Calls P f args w fun e w' => ∃ v, e = .returned v ∧ Φ v w') (hK : ∀ v w', Φ v w' → K (a.put o.dst v) w') :
    if Region.wanted o (yielded ops a.tmps) = true then Oper.wp P o a w K Q else E := by
  have hw : Region.wanted o (yielded ops a.tmps) = true := by simp [Region.wanted, hg]
  rw [if_pos hw]
  unfold Oper.wp
  rw [hrun, Oper.upon_enter]
  refine hc.mono ?_
  rintro e w' ⟨v, rfl, hφ⟩
  exact hK v w' hφ

theorem ValsTo.other {d N : Nat} {w w' : World} {sv : Value} {xs : List (Tr d)} {k : Nat} {vs : List Value} {P : Nat → Nat → Prop} (h : ValsTo N w sv xs k vs P) (hs : ∀ c, N ≤ c → w'.heap[c]? = w.heap[c]?) (hz : w'.heap.size = w.heap.size) : ValsTo N w' sv xs k vs P := by
  obtain ⟨h1, hlo, hdis, h2⟩ := h
  refine ⟨⟨h1.1, ?_⟩, fun j c hj hc => by rw [hz]; exact hlo j c hj hc, hdis, fun j x hj hx => ?_⟩
  · rcases h1.2 with h | ⟨g, cap, cur, hv, hg, hh, hrest⟩
    · exact Or.inl h
    · exact Or.inr ⟨g, cap, cur, hv, hg, (hs g hg).trans hh, hrest⟩
  · obtain ⟨c0, c1, c2, c3, c4, e0, e1, e2, e3, e4, hv⟩ := h2 j x hj hx
    exact ⟨c0, c1, c2, c3, c4, e0, e1, e2, e3, e4, hv.same (fun c hc => hs c (hlo j c hj hc).1)⟩
end Go.Proofs.YtilgbnnjecpneaaGreatDoor

/- One tree more is copied; the copy's end. -/
namespace Go.Proofs.YtilgbnnjecpneaaGreatDoor
open Go.RowKit Go.Deep

theorem CopyTo.step {d k b : Nat} {wc wr w1 w2 : World} {t : Nd (Tr d)} {vk lv lv' : Value} {vs : List Value} {P : Nat → Nat → Prop} {x : Tr d} {v0 v1 v2 v3 v4 : Value} {o : Obj} (h : CopyTo wc wr t b vk lv k vs P) (hb : Below wr.heap.size wr w1)
    (hx : t.list[k]? = some x) (hu : ValOwn w1 d (Fresh wr w1) x (.agg #[v0, v1, v2, v3, v4])) (hown : w2.ownsRow wc.heap.size 29 5 lv' (k + 1) (vs ++ [v0, v1, v2, v3, v4])) (hg : (w1.alloc o).grownBy w2 lv.ownBlock)
    (hw : lv'.ownBlock = lv.ownBlock ∨ lv'.ownBlock = some (w1.alloc o).heap.size) (hbc : b < wc.heap.size) (yb2 : Blk5 w2 b 29 (.int .i64 t.kind) (.int .i64 t.num) (.string t.str) vk lv) :
    ∃ P', CopyTo wc (w2.setCell ⟨b, 4, none⟩ lv') t b vk lv' (k + 1) (vs ++ [v0, v1, v2, v3, v4]) P' := by
  have hN : wc.heap.size ≤ wr.heap.size := h.but.size
  have hrow : ∀ g, lv.ownBlock = some g → wc.heap.size ≤ g := fun g hg => (h.vals.own.lt g hg).1
  have h1 := hb.size
  refine ⟨_, yb2.set4 _, (h.vals.step hb hx hu hown hg hw hN).other (fun c hc => Below.heap_setCell _ _ _ _ (by show c ≠ b; omega)) (by simp [World.setCell]), ?_⟩
  refine But.trans ?_ (But.set _ _ _ _)
  have hb3 : But b wc w1 := h.but.trans (But.of_below hb)
  refine ⟨hg.os.trans hb3.os, hg.tape.trans hb3.tape, hg.output.trans hb3.output, Nat.le_trans hb3.size (Nat.le_trans (by simp) hg.size), fun i hi hn => ?_⟩
  exact ((hg.block i (by simp; omega) (fun e => by have := hrow i e.symm; omega)).trans (Below.heap_alloc _ _ _ (by omega))).trans (hb3.block i hi hn)

theorem CopyTo.final {d b : Nat} {w wc wr : World} {t : Nd (Tr d)} {c3 c4 vk lv : Value} {vs : List Value} {P : Nat → Nat → Prop} (h : CopyTo wc wr t b vk lv t.list.length vs P) (hc : CopyAt w wc t c3 c4 b vk) (hl : t.list.length < 3518437208883) (i1 : I64 t.kind) (i2 : I64 t.num) (i3 : t.str.size < 281474976710656) :
    ∀ wF, wF = set5 wr (w.heap.size + 1) 0 (.int .i64 t.kind) (.int .i64 t.num) (.string t.str) vk lv → ValOwn wF (d + 1) (Fresh w wF) t (.agg #[.int .i64 t.kind, .int .i64 t.num, .string t.str, vk, lv]) ∧ Below w.heap.size w wF := by
  intro wF hF
  have hbu := h.but
  have hbw := hc.below
  have hab := hc.above
  have hws := hc.res.lt
  have hrb : Below w.heap.size w wr := ⟨hbu.os.trans hbw.os, hbu.tape.trans hbw.tape, hbu.output.trans hbw.output, Nat.le_trans hbw.size hbu.size, fun j hj => (hbu.block j (Nat.lt_of_lt_of_le hj hbw.size) (fun e => by cases e; omega)).trans (hbw.block j hj)⟩
  have hdone := h.vals.done hl
  have hzF : wF.heap.size = wr.heap.size := by rw [hF, set5_size]
  have hsz : wc.heap.size ≤ wr.heap.size := hbu.size
  have hsm : ∀ R : Nat → Prop, (∀ b, R b → w.heap.size + 1 < b) → Same R wr wF := fun R hR b hb => by
    rw [hF, set5_block _ _ _ _ _ _ _ _ _ (by have := hR b hb; omega)]
  have hkey : Same (fun x => w.heap.size + 1 < x ∧ x < wc.heap.size ∧ x ≠ b) wc wF := fun c hc => by
    rw [hsm (fun x => w.heap.size + 1 < x) (fun _ h => h) c hc.1]
    exact hbu.block c hc.2.1 (fun e => by cases e; exact hc.2.2 rfl)
  refine ⟨⟨vk, lv, fun x => w.heap.size + 1 < x ∧ x < wc.heap.size ∧ x ≠ b, fun b => wc.heap.size ≤ b ∧ b < wr.heap.size, rfl, i1, i2, i3, hc.keys.moved hkey (fun _ h => h),
    hdone.moved (hsm _ (fun b hb => by have := hb.1; omega)) (fun _ h => h) (fun P x u hP hx => ValOwn.moved d P P x u hx (hsm P (fun b hb => by have := (hP b hb).1; omega)) (fun _ h => h)), fun b hb => ⟨by have := hb.1; omega, by rw [hzF]; have := hb.2.1; omega⟩, fun b hb => ⟨by have := hb.1; omega, by rw [hzF]; exact hb.2⟩, fun b hb hb' => by have := hb.2.1; have := hb'.1; omega⟩, ?_⟩
  rw [hF]
  exact below_set5 hrb (by omega) _ _ _ _ _ _
end Go.Proofs.YtilgbnnjecpneaaGreatDoor

/- l1Copy of the model: a tree in new memory. -/
namespace Go.Proofs.YtilgbnnjecpneaaGreatDoor
open Go.RowKit Go.Deep

theorem wt_mem {d : Nat} {x : Tr d} : ∀ {xs : List (Tr d)} {k : Nat}, xs[k]? = some x → wtT d x ≤ (xs.map (wtT d)).sum
  | [], _, h => by simp at h
  | y :: r, 0, h => by
    simp at h
    subst h
    simp
  | y :: r, k + 1, h => by
    have := wt_mem (xs := r) (k := k) (by simpa using h)
    simp only [List.map_cons, List.sum_cons]
    omega
theorem row_slice {w : World} {base : Nat} {e : TypeId} {size n : Nat} {v : Value} {xs : List Value} (h : w.ownsRow base e size v n xs) : ∃ a m c, v = .slice a m c := by
  rcases h.2 with ⟨rfl, _⟩ | ⟨g, cap, cur, rfl, _⟩
  · exact ⟨_, _, _, rfl⟩
  · exact ⟨_, _, _, rfl⟩

theorem wt_len {d : Nat} : ∀ (xs : List (Tr (d + 1))), xs.length ≤ (xs.map (wtT (d + 1))).sum
  | [] => by simp
  | x :: r => by
    have := wt_len r
    have h : 3 ≤ wtT (d + 1) x := by rw [wtT]; omega
    simp only [List.map_cons, List.sum_cons, List.length_cons]
    omega
theorem row_wt {S : Nat → Prop} {w : World} {a : Option Addr} {n cap : Nat} : ∀ {d : Nat} {xs : List (Tr d)}, RowAt S w (ValAt S w d) (.slice a n cap) xs → xs.length ≤ (xs.map (wtT d)).sum
  | 0, xs, h => by
    rcases Nat.eq_zero_or_pos xs.length with h0 | h0
    · omega
    · obtain ⟨_, _, _, _, _, _, _, _, _, _, _, _, _, _, _, _, hval⟩ := h.cell h0
      exact hval.elim
  | d + 1, xs, _ => wt_len xs

set_option maxRecDepth 100000 in
set_option maxHeartbeats 1000000 in
theorem l1Copy_any : ∀ (d : Nat), CopyC d
  | 0 => fun _ _ _ _ h => h.elim
  | d + 1 => by
    intro S t v w hv hS hwt
    have ih := l1Copy_any d
    obtain ⟨kind, num, str, keys, list⟩ := t
    obtain ⟨vk, vl, rfl, i1, i2, i3, hk, hl⟩ := hv
    have hk : StrsAt S w vk keys := hk
    have hl : RowAt S w (ValAt S w d) vl list := hl
    obtain ⟨ak, ck, rfl, hkl⟩ := hk.open'
    obtain ⟨al, cl, rfl, hll⟩ := hl.open'
    have hwt2 : ((3 + keys.length + (list.map (wtT d)).sum : Nat) : Int) ≤ 4194304 := hwt
    have hksm : keys.length ≤ 4194304 := by omega
    have hlsm : list.length ≤ 4194304 := by have := row_wt hl; omega
    clear hwt
    show Calls Tryz.prog 60 #[.agg #[.int .i64 kind, .int .i64 num, .string str, .slice ak keys.length ck, .slice al list.length cl]] w _
    go_enter Tryz.func60, Tryz.ntmps60
    go_upto_region 1 with fail
    go_cut [3] (fun ov wc => ∃ b vk, ov = .pointer (some ⟨b, 0, none⟩) ∧ Hid (CopyAt w wc (Nd.mk kind num str keys list) (.slice ak keys.length ck) (.slice al list.length cl) b vk))
    case first =>
      have n1 : w.heap.size < w.heap.size + 1 + 1 + 1 := by omega
      have n2 : w.heap.size < w.heap.size + 1 + 1 + 1 + 1 := by omega
      have n3 : w.heap.size + 1 + 1 < w.heap.size + 1 + 1 + 1 + 1 := by omega
      have m1 : ¬ w.heap.size = w.heap.size + 1 + 1 := by omega
      have m2 : ¬ w.heap.size = w.heap.size + 1 + 1 + 1 := by omega
      have m3 : ¬ w.heap.size + 1 + 1 = w.heap.size + 1 + 1 + 1 := by omega
      have m4 : ¬ w.heap.size + 1 + 1 + 1 = w.heap.size + 1 + 1 := by omega
      have m5 : ¬ w.heap.size + 1 + 1 + 1 = w.heap.size := by omega
      have m6 : ¬ w.heap.size + 1 + 1 = w.heap.size := by omega
      go_region_held3 (fun w' => w'.cell? ⟨w.heap.size, 0, none⟩ = some (.int .i64 kind) ∧ w'.cell? ⟨w.heap.size, 1, none⟩ = some (.int .i64 num) ∧ w'.cell? ⟨w.heap.size, 2, none⟩ = some (.string str) ∧ w'.cell? ⟨w.heap.size, 3, none⟩ = some (.slice ak keys.length ck) ∧ w'.cell? ⟨w.heap.size, 4, none⟩ = some (.slice al list.length cl)) (go_keep)
        ((refine step_append_run _ (by rfl) _ _ 22 (by rfl) _ _ (by rfl) (by rfl) (run_append_strs S keys ak ck _ _ _ (by first | exact nb1 _ _ _ _ | exact nb2 _ _ _ _ _ | exact nb3 _ _ _ _ _) (by first | exact hk.same (hS.same (bl3 _ _ _ _)) | exact hk.same (hS.same (bl4 _ _ _ _ _))) hksm) ?_; rintro v' w' ⟨hown, hgr⟩; obtain ⟨ka, kc, rfl, hkn⟩ := hown.open'; have hcell := fun (b o : Nat) (h1 : b < _) (h2 : some b ≠ _) => hgr.cell_far ⟨b, o, none⟩ h1 h2; have hfro := fun (b o : Nat) (h1 : b < _) (h2 : some b ≠ _) => hgr.frozen_far ⟨b, o, none⟩ h1 h2; have hnew : ¬ w'.heap.size = w.heap.size := fun e => by have h5 := hgr.size; simp at h5; omega))
      all_goals go_wp2_with fail
      all_goals go_meet
      · have hc := copy_a (t := (Nd.mk kind num str keys list : Nd (Tr d))) (c3 := .slice ak keys.length ck) (c4 := .slice al list.length cl) (vk := .slice ka keys.length kc) (G := w.heap.size + 1 + 1) (bl3 w (.cells #[.int .i64 kind, .int .i64 num, .string str, .slice ak keys.length ck, .slice al list.length cl] 29) (.cells #[.int .i64 0, .int .i64 0, .string { data := #[] }, .slice none 0 0, .slice none 0 0] 29) (.cells #[] 9)) (kA3 w (.cells #[.int .i64 kind, .int .i64 num, .string str, .slice ak keys.length ck, .slice al list.length cl] 29) (.cells #[.int .i64 0, .int .i64 0, .string { data := #[] }, .slice none 0 0, .slice none 0 0] 29) (.cells #[] 9)) (kB3 w (.cells #[.int .i64 kind, .int .i64 num, .string str, .slice ak keys.length ck, .slice al list.length cl] 29) (.cells #[.int .i64 0, .int .i64 0, .string { data := #[] }, .slice none 0 0, .slice none 0 0] 29) (.cells #[] 9)) (by omega) hgr hown
        exact ⟨w'.heap.size, .slice ka keys.length kc, rfl, hc⟩
      · have hc := copy_b (t := (Nd.mk kind num str keys list : Nd (Tr d))) (c3 := .slice ak keys.length ck) (c4 := .slice al list.length cl) (vk := .slice ka keys.length kc) (G := w.heap.size + 1 + 1) (V := w.heap.size + 1 + 1 + 1) (bl4 w (.cells #[.int .i64 kind, .int .i64 num, .string str, .slice ak keys.length ck, .slice al list.length cl] 29) (.cells #[.int .i64 0, .int .i64 0, .string { data := #[] }, .slice none 0 0, .slice none 0 0] 29) (.cells #[] 9) (.cells #[.int .i64 0, .int .i64 0, .string { data := #[] }, .slice none 0 0, .slice none 0 0] 29)) (kA4 w (.cells #[.int .i64 kind, .int .i64 num, .string str, .slice ak keys.length ck, .slice al list.length cl] 29) (.cells #[.int .i64 0, .int .i64 0, .string { data := #[] }, .slice none 0 0, .slice none 0 0] 29) (.cells #[] 9) (.cells #[.int .i64 0, .int .i64 0, .string { data := #[] }, .slice none 0 0, .slice none 0 0] 29)) (kB4 w (.cells #[.int .i64 kind, .int .i64 num, .string str, .slice ak keys.length ck, .slice al list.length cl] 29) (.cells #[.int .i64 0, .int .i64 0, .string { data := #[] }, .slice none 0 0, .slice none 0 0] 29) (.cells #[] 9) (.cells #[.int .i64 0, .int .i64 0, .string { data := #[] }, .slice none 0 0, .slice none 0 0] 29)) (nb3 w (.cells #[.int .i64 kind, .int .i64 num, .string str, .slice ak keys.length ck, .slice al list.length cl] 29) (.cells #[.int .i64 0, .int .i64 0, .string { data := #[] }, .slice none 0 0, .slice none 0 0] 29) (.cells #[] 9) (.cells #[.int .i64 0, .int .i64 0, .string { data := #[] }, .slice none 0 0, .slice none 0 0] 29)) (by omega) (by omega) (by omega) hgr hown
        exact ⟨w.heap.size + 1 + 1 + 1, .slice ka keys.length kc, rfl, hc⟩
      · have hc := copy_b (t := (Nd.mk kind num str keys list : Nd (Tr d))) (c3 := .slice ak keys.length ck) (c4 := .slice al list.length cl) (vk := .slice ka keys.length kc) (G := w.heap.size + 1 + 1 + 1) (V := w.heap.size + 1 + 1) (bl4 w (.cells #[.int .i64 kind, .int .i64 num, .string str, .slice ak keys.length ck, .slice al list.length cl] 29) (.cells #[.int .i64 0, .int .i64 0, .string { data := #[] }, .slice none 0 0, .slice none 0 0] 29) (.cells #[.int .i64 0, .int .i64 0, .string { data := #[] }, .slice none 0 0, .slice none 0 0] 29) (.cells #[] 9)) (kA4 w (.cells #[.int .i64 kind, .int .i64 num, .string str, .slice ak keys.length ck, .slice al list.length cl] 29) (.cells #[.int .i64 0, .int .i64 0, .string { data := #[] }, .slice none 0 0, .slice none 0 0] 29) (.cells #[.int .i64 0, .int .i64 0, .string { data := #[] }, .slice none 0 0, .slice none 0 0] 29) (.cells #[] 9)) (kB4 w (.cells #[.int .i64 kind, .int .i64 num, .string str, .slice ak keys.length ck, .slice al list.length cl] 29) (.cells #[.int .i64 0, .int .i64 0, .string { data := #[] }, .slice none 0 0, .slice none 0 0] 29) (.cells #[.int .i64 0, .int .i64 0, .string { data := #[] }, .slice none 0 0, .slice none 0 0] 29) (.cells #[] 9)) (nb2 w (.cells #[.int .i64 kind, .int .i64 num, .string str, .slice ak keys.length ck, .slice al list.length cl] 29) (.cells #[.int .i64 0, .int .i64 0, .string { data := #[] }, .slice none 0 0, .slice none 0 0] 29) (.cells #[.int .i64 0, .int .i64 0, .string { data := #[] }, .slice none 0 0, .slice none 0 0] 29) (.cells #[] 9)) (by omega) (by omega) (by omega) hgr hown
        exact ⟨w.heap.size + 1 + 1, .slice ka keys.length kc, rfl, hc⟩
    case rest =>
      obtain ⟨b, vk, rfl, hca⟩ := hcut
      have hbw := hca.out.below
      have hab := hca.out.above
      have hTO : Hid (CopyTo (d := d) wc wc (Nd.mk kind num str keys list) b vk (.slice none 0 0) 0 [] (fun _ _ => False)) := ⟨hca.out.out, ValsTo.start _ _ _, But.refl _ _⟩
      obtain ⟨ka, kc, rfl, hkn⟩ := hca.out.keys.open'
      go_wp2_with fail
      go_loopw [4] (fun i wr => ∃ (k : Nat) (lv : Value) (vs : List Value) (P : Nat → Nat → Prop), k ≤ list.length ∧ i = .int .i64 (k : Int) ∧ Hid (CopyTo (d := d) wc wr (Nd.mk kind num str keys list) b (.slice ka keys.length kc) lv k vs P)) (fun i _ => list.length - (intOf i).toNat)
      case atStart => exact ⟨0, _, [], _, Nat.zero_le _, rfl, hTO⟩
      case round =>
        clear hTO
        obtain ⟨k, lv, vs, P, hkk, rfl, hto⟩ := hrel
        have hbu := hto.out.but
        have hrb : Below w.heap.size w wr := ⟨hbu.os.trans hbw.os, hbu.tape.trans hbw.tape, hbu.output.trans hbw.output, Nat.le_trans hbw.size hbu.size, fun j hj => (hbu.block j (Nat.lt_of_lt_of_le hj hbw.size) (fun e => by cases e; omega)).trans (hbw.block j hj)⟩
        have kbox := hca.out.box.of_block (hbu.block _ hca.out.box.lt (fun e => by cases e; omega))
        obtain ⟨x0, x1, x2, x3, x4⟩ := kbox.cell
        by_cases hkl : k < list.length
        · obtain ⟨eb, eo, x, c0, c1, c2, c3, c4, rfl, heS, hx, e0, e1, e2, e3, e4, hval⟩ := (hl.same (hS.same hrb)).cell hkl
          obtain ⟨q0, q1, q2, q3, q4, q5, q6, q7, q8, hq⟩ := hval.shape
          cases hq
          have hwx : (wtT d x : Int) ≤ 4194304 := by
            have := wt_mem (d := d) hx
            omega
          obtain ⟨la, ln, lc, rfl⟩ := row_slice hto.out.vals.own
          obtain ⟨y0, y1, y2, y3, y4⟩ := hto.out.out.cell
          have yf := hto.out.out.frozen 4
          have hki : (k : Int) < (list.length : Int) := by omega
          have hbl := hto.out.out.lt
          have hWr := hS.later hrb.size
          have HX := hide hx
          have hNs : wc.heap.size ≤ wr.heap.size := hbu.size
          have hebl := hS eb heS
          clear hx
          have hcall := hide (ih S x _ wr.drew (hval.same (fun _ _ => rfl)) hWr hwx)
          have hnb : ∀ g, (Value.slice la ln lc).ownBlock = some g → wc.heap.size ≤ g := fun g hg => (hto.out.vals.own.lt g hg).1
          have hbc : b < wc.heap.size := hca.out.out.lt
          obtain ⟨i0, hi, hz0, hz1, hz2⟩ := info_parts Tryz.infoVal
          have HB1 := hide hto.out.vals
          go_wp2_with fail
          go_region_law (first
            | (refine step_call_run _ 60 _ (by rfl) (by go_simp) hcall.out ?_; rintro u w1 ⟨hu, hb1⟩; obtain ⟨u0', u1', u2', u3', u4', u5', u6', u7', u8', rfl⟩ := (ValOwn.at d _ _ _ hu).shape; have hblt : b < w1.heap.size := Nat.lt_of_lt_of_le hbl hb1.size; have yb1 : Blk5 w1 b 29 (.int .i64 kind) (.int .i64 num) (.string str) (.slice ka keys.length kc) (.slice la ln lc) := hto.out.out.of_block (hb1.block b hbl); obtain ⟨_, _, _, _, z4⟩ := yb1.cell; have z4' := fun o => ((yb1.alloc o).cell).2.2.2.2; have hown1 := hide ((hto.out.vals.own.kept (row := none) ⟨hb1.os, hb1.tape, hb1.output, hb1.size, fun i hi _ => hb1.block i hi⟩ (by cases (Value.slice la ln lc).ownBlock <;> simp)).alloc (.cells #[.int .i64 u0', .int .i64 u1', .string u2', .slice u3' u4' u5', .slice u6' u7' u8'] 29)))
            | (refine step_append_run _ (by rfl) _ _ 27 (by rfl) _ _ (by rfl) (by rfl) (run_append_own_at (P := Tryz.prog) _ wc.heap.size 27 _ 29 i0 zeroVal 5 80 Tryz.underlying27 hi hz0 hz1 hz2 rfl (by decide) _ _ _ hown1.out ⟨w1.heap.size, 0, none⟩ 1 1 [.int .i64 u0', .int .i64 u1', .string u2', .slice u3' u4' u5', .slice u6' u7' u8'] rfl (cell_five_new _ _ _ _ _ _ _) (by intro y hy; simp at hy; rcases hy with rfl | rfl | rfl | rfl | rfl <;> rfl) (by unfold maxLen; omega) (by omega) (by rw [World.size_alloc]; have h5 : wr.heap.size ≤ w1.heap.size := hb1.size; omega)) ?_; rintro v' w2 ⟨o1, o2, _, o3⟩; obtain ⟨va, vn, vc, rfl⟩ := row_slice o1; have yb2 : Blk5 w2 b 29 (.int .i64 kind) (.int .i64 num) (.string str) (.slice ka keys.length kc) (.slice la ln lc) := (yb1.alloc _).of_block (o2.block b (by rw [World.size_alloc]; omega) (fun e => by have := hnb b e.symm; omega)); obtain ⟨_, _, _, _, v4⟩ := yb2.cell; have v4f := yb2.frozen 4))
          all_goals
            have hb1' : Below wr.heap.size wr w1 := ⟨hb1.os, hb1.tape, hb1.output, hb1.size, hb1.block⟩
            have HH := hide (hto.out.step (w1 := w1) (w2 := w2) hb1' HX.out hu o1 o2 o3 hbc yb2)
            clear o1 o2 o3 hown1 hu hb1' hb1 yb1 yb2 z4 z4' hcall HB1 hto
            go_wp2_with fail
            go_roundw
            case rel =>
              obtain ⟨P', hP'⟩ := HH.out
              exact ⟨k + 1, _, _, P', by omega, by go_num, hP'⟩
            case measure => simp [intOf]; omega
        · obtain rfl : k = list.length := by omega
          have kres := hca.out.res.of_block (hbu.block _ hca.out.res.lt (fun e => by cases e; omega))
          obtain ⟨la, ln, lc, rfl⟩ := row_slice hto.out.vals.own
          obtain ⟨z0, z1, z2, z3, z4⟩ := kres.cell
          have zf := kres.frozen
          obtain ⟨y0, y1, y2, y3, y4⟩ := hto.out.out.cell
          have hend := hide (hto.out.final hca.out hll i1 i2 i3)
          clear hto hca kres kbox hl hk ih
          go_wp2_with fail
          refine bodyPost_ret (v := .agg #[.int .i64 kind, .int .i64 num, .string str, .slice ka keys.length kc, .slice la ln lc]) (by simp [results, Tryz.results60, go_sem, z0, z1, z2, z3, z4]) rfl ⟨_, rfl, hend.out _ rfl⟩
end Go.Proofs.YtilgbnnjecpneaaGreatDoor
