/- Texts of the proof, put together by program: WVTo, WPutQ, WPutE, WSetA, WPutS. -/
import Derived.Test.YtohdpgclokgohaaGreatDoorP21
import Derived.Test.YtohdpgclokgohaaGreatDoorP9
/- A row of the model's that is being made out of trees that lie elsewhere; what is told, in the result's own cells. -/
namespace Go.Proofs.YtohdpgclokgohaaGreatDoor
open Go.RowKit Go.Deep

theorem nodes_wt : ∀ (d : Nat) (t : Tr d), nodes d t ≤ wtT d t
  | 0, t => Empty.elim t
  | d + 1, t => by
    have h : ∀ xs : List (Tr d), (xs.map (nodes d)).sum ≤ (xs.map (wtT d)).sum := by
      intro xs
      induction xs with
      | nil => exact Nat.le_refl _
      | cons x r ih =>
        have := nodes_wt d x
        simp only [List.map_cons, List.sum_cons]
        omega
    have := h (Nd.list t)
    rw [nodes, wtT]
    omega
theorem nodes_ok {d : Nat} {t : Tr d} (h : okT d t = true) : nodes d t ≤ 300 := Nat.le_trans (nodes_wt d t) (wtT_ok h)
theorem sum_le_of {α : Type} {f : α → Nat} {c : Nat} : ∀ {xs : List α}, (∀ x ∈ xs, f x ≤ c) → (xs.map f).sum ≤ c * xs.length
  | [], _ => by simp
  | x :: r, h => by
    have h1 := h x (by simp)
    have h2 := sum_le_of (xs := r) (fun y hy => h y (by simp [hy]))
    simp only [List.map_cons, List.sum_cons, List.length_cons]
    rw [Nat.mul_succ]
    omega
/-- A row of the model's that owns its cells; its trees lie in blocks of S. -/
def VTo {d : Nat} (S : Nat → Prop) (N : Nat) (w : World) (lv : Value) (xs : List (Tr d)) (vs : List Value) : Prop :=
  w.ownsRow N 26 5 lv xs.length vs ∧ ∀ (j : Nat) (x : Tr d), xs[j]? = some x → ∃ c0 c1 c2 c3 c4, vs[j * 5]? = some c0 ∧ vs[j * 5 + 1]? = some c1 ∧ vs[j * 5 + 2]? = some c2 ∧ vs[j * 5 + 3]? = some c3 ∧ vs[j * 5 + 4]? = some c4 ∧ ValAt S w d x (.agg #[c0, c1, c2, c3, c4])

theorem VTo.grow {d N : Nat} {S : Nat → Prop} {wr w2 : World} {lv lv' : Value} {xs : List (Tr d)} {vs : List Value} {x : Tr d} {v0 v1 v2 v3 v4 : Value} (h : VTo S N wr lv xs vs) (hs : Same S wr w2) (hx : ValAt S wr d x (.agg #[v0, v1, v2, v3, v4])) (hown : w2.ownsRow N 26 5 lv' (xs.length + 1) (vs ++ [v0, v1, v2, v3, v4])) : VTo S N w2 lv' (xs ++ [x]) (vs ++ [v0, v1, v2, v3, v4]) := by
  obtain ⟨h1, h2⟩ := h
  have hlen : vs.length = xs.length * 5 := h1.1
  refine ⟨by rw [List.length_append]; exact hown, fun j y hy => ?_⟩
  by_cases e : j < xs.length
  · rw [List.getElem?_append_left e] at hy
    obtain ⟨c0, c1, c2, c3, c4, e0, e1, e2, e3, e4, hv⟩ := h2 j y hy
    refine ⟨c0, c1, c2, c3, c4, ?_, ?_, ?_, ?_, ?_, hv.same hs⟩
    · rw [List.getElem?_append_left (by omega)]; exact e0
    · rw [List.getElem?_append_left (by omega)]; exact e1
    · rw [List.getElem?_append_left (by omega)]; exact e2
    · rw [List.getElem?_append_left (by omega)]; exact e3
    · rw [List.getElem?_append_left (by omega)]; exact e4
  · have hj : j = xs.length := by
      have := (List.getElem?_eq_some_iff.1 hy).1
      rw [List.length_append, List.length_singleton] at this
      omega
    subst hj
    rw [List.getElem?_append_right (Nat.le_refl _), Nat.sub_self] at hy
    cases hy
    refine ⟨v0, v1, v2, v3, v4, ?_, ?_, ?_, ?_, ?_, hx.same hs⟩
    · rw [List.getElem?_append_right (by omega), hlen]; simp
    · rw [List.getElem?_append_right (by omega), hlen]; simp
    · rw [List.getElem?_append_right (by omega), hlen]; simp
    · rw [List.getElem?_append_right (by omega), hlen]; simp
    · rw [List.getElem?_append_right (by omega), hlen]; simp

theorem VTo.moved {d N : Nat} {S : Nat → Prop} {w w' : World} {lv : Value} {xs : List (Tr d)} {vs : List Value} (h : VTo S N w lv xs vs) (hs : Same S w w') (ho : ∀ g, lv.ownBlock = some g → w'.heap[g]? = w.heap[g]?) : VTo S N w' lv xs vs := by
  obtain ⟨h1, h2⟩ := h
  refine ⟨⟨h1.1, ?_⟩, fun j x hx => ?_⟩
  · rcases h1.2 with h | ⟨g, cap, cur, hv, hg, hh, hrest⟩
    · exact Or.inl h
    · exact Or.inr ⟨g, cap, cur, hv, hg, (ho g (by rw [hv]; rfl)).trans hh, hrest⟩
  · obtain ⟨c0, c1, c2, c3, c4, e0, e1, e2, e3, e4, hv⟩ := h2 j x hx
    exact ⟨c0, c1, c2, c3, c4, e0, e1, e2, e3, e4, hv.same hs⟩

/-- The row, where it lies. -/
theorem VTo.at {d N : Nat} {S : Nat → Prop} {w : World} {lv : Value} {xs : List (Tr d)} {vs : List Value} (h : VTo S N w lv xs vs) (hl : xs.length < 3518437208883) : RowAt (fun b => S b ∨ (N ≤ b ∧ b < w.heap.size)) w (ValAt (fun b => S b ∨ (N ≤ b ∧ b < w.heap.size)) w d) lv xs := by
  obtain ⟨h1, h2⟩ := h
  refine ⟨hl, ?_⟩
  rcases h1.2 with ⟨rfl, h0⟩ | ⟨g, cap, cur, rfl, hg, hh, hnc, _, hcs, htake⟩
  · exact ⟨none, 0, by rw [h0], Or.inl (List.eq_nil_of_length_eq_zero h0)⟩
  · refine ⟨some ⟨g, 0, none⟩, cap, rfl, Or.inr ⟨g, 0, Or.inr ⟨hg, (Array.getElem?_eq_some_iff.1 hh).1⟩, rfl, fun i x hx => ?_⟩⟩
    obtain ⟨c0, c1, c2, c3, c4, e0, e1, e2, e3, e4, hv⟩ := h2 i x hx
    have hi := (List.getElem?_eq_some_iff.1 hx).1
    have hc : ∀ j c, j < xs.length * 5 → vs[j]? = some c → w.cell? ⟨g, 0 + j, none⟩ = some c := fun j c hj hc => by
      rw [Nat.zero_add]
      exact (h1.cellAt j hj).trans hc
    refine ⟨c0, c1, c2, c3, c4, hc _ _ (by omega) e0, hc _ _ (by omega) e1, hc _ _ (by omega) e2, hc _ _ (by omega) e3, hc _ _ (by omega) e4, hv.mono (fun b hb => Or.inl hb)⟩

/-- Another tree at a place. -/
theorem VTo.put {d N g n cap k : Nat} {S : Nat → Prop} {w : World} {xs : List (Tr d)} {vs : List Value} {x : Tr d} {v0 v1 v2 v3 v4 : Value} (h : VTo S N w (.slice (some ⟨g, 0, none⟩) n cap) xs vs) (hn : n = xs.length) (hk : k < xs.length) (hx : ValAt S w d x (.agg #[v0, v1, v2, v3, v4])) (hS : ∀ b, S b → b < N) :
    (∃ vs', VTo S N (set5 w g (k * 5) v0 v1 v2 v3 v4) (.slice (some ⟨g, 0, none⟩) n cap) (xs.set k x) vs') ∧ Below N w (set5 w g (k * 5) v0 v1 v2 v3 v4) := by
  subst hn
  obtain ⟨h1, h2⟩ := h
  have hlen : vs.length = xs.length * 5 := h1.1
  have hgN := (h1.lt g rfl).1
  have hB : Below N w (set5 w g (k * 5) v0 v1 v2 v3 v4) := below_set5 (Below.refl _ _) hgN _ _ _ _ _ _
  have hsame : Same S w (set5 w g (k * 5) v0 v1 v2 v3 v4) := fun b hb => hB.block b (hS b hb)
  have ho := (((((h1.stored (k * 5) v0).1.stored (k * 5 + 1) v1).1.stored (k * 5 + 2) v2).1.stored (k * 5 + 3) v3).1.stored (k * 5 + 4) v4).1
  refine ⟨⟨_, by rw [List.length_set]; exact ho, fun j y hy => ?_⟩, hB⟩
  by_cases e : k = j
  · subst e
    rw [List.getElem?_set_self hk] at hy
    cases hy
    refine ⟨v0, v1, v2, v3, v4, ?_, ?_, ?_, ?_, ?_, hx.same hsame⟩
    all_goals simp [List.getElem?_set, hlen]
    all_goals omega
  · rw [List.getElem?_set_ne e] at hy
    obtain ⟨c0, c1, c2, c3, c4, e0, e1, e2, e3, e4, hv⟩ := h2 j y hy
    refine ⟨c0, c1, c2, c3, c4, ?_, ?_, ?_, ?_, ?_, hv.same hsame⟩
    · rw [List.getElem?_set_ne (by omega), List.getElem?_set_ne (by omega), List.getElem?_set_ne (by omega), List.getElem?_set_ne (by omega), List.getElem?_set_ne (by omega)]; exact e0
    · rw [List.getElem?_set_ne (by omega), List.getElem?_set_ne (by omega), List.getElem?_set_ne (by omega), List.getElem?_set_ne (by omega), List.getElem?_set_ne (by omega)]; exact e1
    · rw [List.getElem?_set_ne (by omega), List.getElem?_set_ne (by omega), List.getElem?_set_ne (by omega), List.getElem?_set_ne (by omega), List.getElem?_set_ne (by omega)]; exact e2
    · rw [List.getElem?_set_ne (by omega), List.getElem?_set_ne (by omega), List.getElem?_set_ne (by omega), List.getElem?_set_ne (by omega), List.getElem?_set_ne (by omega)]; exact e3
    · rw [List.getElem?_set_ne (by omega), List.getElem?_set_ne (by omega), List.getElem?_set_ne (by omega), List.getElem?_set_ne (by omega), List.getElem?_set_ne (by omega)]; exact e4
/-- What was told is put into the result's own cells. -/
theorem tell_endA {d : Nat} {t : Tr (d + 1)} {w w1 w2 : World} {v0 v1 : Int} {v2 : ByteArray} {v3 v6 : Option Addr} {v4 v5 v7 v8 rb : Nat} (hv : ValAt (Fresh w1 w2) w2 (d + 1) t (.agg #[.int .i64 v0, .int .i64 v1, .string v2, .slice v3 v4 v5, .slice v6 v7 v8])) (hb : Below w.heap.size w w2)
    (hr : w.heap.size ≤ rb) (hr1 : rb < w1.heap.size) :
    ∀ wF, wF = set5 w2 rb 0 (.int .i64 v0) (.int .i64 v1) (.string v2) (.slice v3 v4 v5) (.slice v6 v7 v8) → ValAt (Fresh w wF) wF (d + 1) t (.agg #[.int .i64 v0, .int .i64 v1, .string v2, .slice v3 v4 v5, .slice v6 v7 v8]) ∧ Below w.heap.size w wF := by
  intro wF hF
  have hzF : wF.heap.size = w2.heap.size := by rw [hF, set5_size]
  refine ⟨ValAt.moved (fun b hb => ?_) (fun b hb => ⟨by have := hb.1; omega, by have := hb.2; omega⟩) (d + 1) t _ hv, ?_⟩
  · rw [hF, set5_block _ _ _ _ _ _ _ _ _ (by have := hb.1; omega)]
  · rw [hF]
    exact below_set5 hb hr _ _ _ _ _ _

end Go.Proofs.YtohdpgclokgohaaGreatDoor

/- What stands while l2Put of the model makes keys and trees. -/
namespace Go.Proofs.YtohdpgclokgohaaGreatDoor
open Go.RowKit Go.Deep

/-- What stands while keys and trees are put into a variable's lists. -/
structure P2At (d : Nat) (S : Nat → Prop) (N ob : Nat) (W wr : World) (ks : List ByteArray) (xs : List (Tr d)) (kv lv : Value) (vs : List Value) : Prop where
  out : Blk5 wr ob 26 (.int .i64 6) (.int .i64 0) (.string { data := #[] }) kv lv
  keys : wr.ownsRow N 9 1 kv ks.length (ks.map Value.string)
  row : VTo S N wr lv xs vs
  below : Below N W wr
  offk : kv.ownBlock ≠ some ob
  offl : lv.ownBlock ≠ some ob
  apart : ∀ g, kv.ownBlock = some g → lv.ownBlock ≠ some g
  ge : N ≤ ob

theorem ownsRow_block {N e size n : Nat} {w w' : World} {v : Value} {vs : List Value} (h : w.ownsRow N e size v n vs) (hb : ∀ g, v.ownBlock = some g → w'.heap[g]? = w.heap[g]?) : w'.ownsRow N e size v n vs := by
  refine ⟨h.1, ?_⟩
  rcases h.2 with h | ⟨g, cap, cur, hv, hg, hh, hrest⟩
  · exact Or.inl h
  · exact Or.inr ⟨g, cap, cur, hv, hg, (hb g (by rw [hv]; rfl)).trans hh, hrest⟩

theorem P2At.drew {d N ob : Nat} {S : Nat → Prop} {W wr : World} {ks : List ByteArray} {xs : List (Tr d)} {kv lv : Value} {vs : List Value} (h : P2At d S N ob W wr ks xs kv lv vs) : P2At d S N ob W wr.drew ks xs kv lv vs :=
  ⟨h.out, h.keys, h.row.moved (fun _ _ => rfl) (fun _ _ => rfl), ⟨h.below.os, h.below.tape, h.below.output, h.below.size, h.below.block⟩, h.offk, h.offl, h.apart, h.ge⟩

/-- One key more. -/
theorem P2At.pushK {d N ob : Nat} {S : Nat → Prop} {W wr w2 : World} {ks : List ByteArray} {xs : List (Tr d)} {kv lv kv' : Value} {vs : List Value} {s : ByteArray} {o : Obj} (h : P2At d S N ob W wr ks xs kv lv vs) (hS : ∀ b, S b → b < N)
    (hown : w2.ownsRow N 9 1 kv' (ks.length + 1) (ks.map Value.string ++ [.string s])) (hg : (wr.alloc o).grownBy w2 kv.ownBlock) (hw : kv'.ownBlock = kv.ownBlock ∨ kv'.ownBlock = some (wr.alloc o).heap.size) :
    Blk5 w2 ob 26 (.int .i64 6) (.int .i64 0) (.string { data := #[] }) kv lv ∧ P2At d S N ob W (w2.setCell ⟨ob, 3, none⟩ kv') (ks ++ [s]) xs kv' lv vs := by
  have hol := h.out.lt
  have hge := h.ge
  have hs2 := hg.size
  have hz : (wr.alloc o).heap.size = wr.heap.size + 1 := by simp
  rw [hz] at hw
  have hblk : ∀ b, b < wr.heap.size → some b ≠ kv.ownBlock → w2.heap[b]? = wr.heap[b]? := fun b hb1 hb2 => (hg.block b (by omega) hb2).trans (Below.heap_alloc _ _ _ hb1)
  have yb : Blk5 w2 ob 26 (.int .i64 6) (.int .i64 0) (.string { data := #[] }) kv lv := h.out.of_block (hblk ob hol (fun e => h.offk e.symm))
  have hoff : kv'.ownBlock ≠ some ob := by
    rcases hw with e | e
    · rw [e]; exact h.offk
    · rw [e]; intro e2; cases e2; omega
  have hlrow : ∀ g, lv.ownBlock = some g → w2.heap[g]? = wr.heap[g]? := fun g hg' => hblk g (h.row.1.lt g hg').2 (fun e => h.apart g e.symm hg')
  have hNk : ∀ g, kv.ownBlock = some g → N ≤ g := fun g hg' => (h.keys.lt g hg').1
  refine ⟨yb, yb.set3 _, ?_, ?_, ?_, hoff, h.offl, ?_, hge⟩
  · rw [List.length_append, List.map_append]
    exact ownsRow_block hown (fun g hg' => Below.heap_setCell _ _ _ _ (fun e => hoff (by rw [hg', e])))
  · have hNw : N ≤ wr.heap.size := by omega
    refine h.row.moved (fun b hb => ?_) (fun g hg' => ?_)
    · exact (Below.heap_setCell _ _ _ _ (by have := hS b hb; show b ≠ ob; omega)).trans (hblk b (by have := hS b hb; omega) (fun e => by have := hNk b e.symm; have := hS b hb; omega))
    · exact (Below.heap_setCell _ _ _ _ (fun e => h.offl (by rw [hg', e]))).trans (hlrow g hg')
  · have hb := h.below
    refine ⟨hg.os.trans hb.os, hg.tape.trans hb.tape, hg.output.trans hb.output, ?_, fun b hbN => ?_⟩
    · have := hb.size
      simp [World.setCell]
      omega
    · exact (Below.heap_setCell _ _ _ _ (by show b ≠ ob; omega)).trans ((hblk b (by omega) (fun e => by have := hNk b e.symm; omega)).trans (hb.block b hbN))
  · intro g hg' hl
    rcases hw with e | e
    · exact h.apart g (by rw [← e]; exact hg') hl
    · rw [hg'] at e
      cases e
      have := (h.row.1.lt _ hl).2
      omega

/-- One tree more. -/
theorem P2At.pushX {d N ob : Nat} {S : Nat → Prop} {W wr w2 : World} {ks : List ByteArray} {xs : List (Tr d)} {kv lv lv' : Value} {vs : List Value} {x : Tr d} {v0 v1 v2 v3 v4 : Value} {o : Obj} (h : P2At d S N ob W wr ks xs kv lv vs) (hS : ∀ b, S b → b < N) (hx : ValAt S wr d x (.agg #[v0, v1, v2, v3, v4]))
    (hown : w2.ownsRow N 26 5 lv' (xs.length + 1) (vs ++ [v0, v1, v2, v3, v4])) (hg : (wr.alloc o).grownBy w2 lv.ownBlock) (hw : lv'.ownBlock = lv.ownBlock ∨ lv'.ownBlock = some (wr.alloc o).heap.size) :
    Blk5 w2 ob 26 (.int .i64 6) (.int .i64 0) (.string { data := #[] }) kv lv ∧ P2At d S N ob W (w2.setCell ⟨ob, 4, none⟩ lv') ks (xs ++ [x]) kv lv' (vs ++ [v0, v1, v2, v3, v4]) := by
  have hol := h.out.lt
  have hge := h.ge
  have hs2 := hg.size
  have hz : (wr.alloc o).heap.size = wr.heap.size + 1 := by simp
  rw [hz] at hw
  have hblk : ∀ b, b < wr.heap.size → some b ≠ lv.ownBlock → w2.heap[b]? = wr.heap[b]? := fun b hb1 hb2 => (hg.block b (by omega) hb2).trans (Below.heap_alloc _ _ _ hb1)
  have yb : Blk5 w2 ob 26 (.int .i64 6) (.int .i64 0) (.string { data := #[] }) kv lv := h.out.of_block (hblk ob hol (fun e => h.offl e.symm))
  have hoff : lv'.ownBlock ≠ some ob := by
    rcases hw with e | e
    · rw [e]; exact h.offl
    · rw [e]; intro e2; cases e2; omega
  have hkrow : ∀ g, kv.ownBlock = some g → w2.heap[g]? = wr.heap[g]? := fun g hg' => hblk g (h.keys.lt g hg').2 (fun e => h.apart g hg' e.symm)
  have hNl : ∀ g, lv.ownBlock = some g → N ≤ g := fun g hg' => (h.row.1.lt g hg').1
  have hsame : Same S wr w2 := fun b hb => hblk b (by have := hS b hb; omega) (fun e => by have := hNl b e.symm; have := hS b hb; omega)
  refine ⟨yb, yb.set4 _, ?_, ?_, ?_, h.offk, hoff, ?_, hge⟩
  · exact ownsRow_block h.keys (fun g hg' => (Below.heap_setCell _ _ _ _ (fun e => h.offk (by rw [hg', e]))).trans (hkrow g hg'))
  · exact (h.row.grow hsame hx hown).moved (fun b hb => Below.heap_setCell _ _ _ _ (by have := hS b hb; show b ≠ ob; omega)) (fun g hg' => Below.heap_setCell _ _ _ _ (fun e => hoff (by rw [hg', e])))
  · have hb := h.below
    refine ⟨hg.os.trans hb.os, hg.tape.trans hb.tape, hg.output.trans hb.output, ?_, fun b hbN => ?_⟩
    · have := hb.size
      simp [World.setCell]
      omega
    · exact (Below.heap_setCell _ _ _ _ (by show b ≠ ob; omega)).trans ((hblk b (by omega) (fun e => by have := hNl b e.symm; omega)).trans (hb.block b hbN))
  · intro g hg' hl
    rcases hw with e | e
    · exact h.apart g hg' (by rw [← e]; exact hl)
    · rw [hl] at e
      cases e
      have := (h.keys.lt _ hg').2
      omega
end Go.Proofs.YtohdpgclokgohaaGreatDoor

/- What stands when l2Put of the model is through. -/
namespace Go.Proofs.YtohdpgclokgohaaGreatDoor
open Go.RowKit Go.Deep

/-- What is put together has what there was, and x at s. -/
theorem foldP_all {α : Type} {s : ByteArray} {x : α} {Q : ByteArray × α → Prop} (hx : Q (s, x)) : ∀ (ps : List (ByteArray × α)) (st : Bool × List (ByteArray × α)), (∀ p ∈ st.2, Q p) → (∀ p ∈ ps, Q p) → ∀ p ∈ (ps.foldl (stepP s x) st).2, Q p
  | [], _, h, _ => h
  | q :: r, st, h, hp => by
    rw [List.foldl_cons]
    refine foldP_all hx r _ ?_ (fun p h' => hp p (List.mem_cons_of_mem _ h'))
    intro p hm
    unfold stepP at hm
    rcases List.mem_append.1 hm with hm | hm
    · split at hm
      · rcases List.mem_append.1 hm with hm | hm
        · exact h p hm
        · rw [List.mem_singleton.1 hm]; exact hx
      · exact h p hm
    · split at hm
      · cases hm
      · rw [List.mem_singleton.1 hm]; exact hp q (List.mem_cons_self ..)
theorem endP_all {α : Type} {s : ByteArray} {x : α} {Q : ByteArray × α → Prop} (hx : Q (s, x)) {st : Bool × List (ByteArray × α)} (h : ∀ p ∈ st.2, Q p) : ∀ p ∈ endP s x st, Q p := by
  intro p hp
  unfold endP at hp
  split at hp
  · exact h p hp
  · rcases List.mem_append.1 hp with hm | hm
    · exact h p hm
    · rw [List.mem_singleton.1 hm]; exact hx
theorem endP_true {α : Type} {s : ByteArray} {x : α} (acc : List (ByteArray × α)) : endP s x (true, acc) = acc := rfl
theorem endP_false {α : Type} {s : ByteArray} {x : α} (acc : List (ByteArray × α)) : endP s x (false, acc) = acc ++ [(s, x)] := rfl

/-- A row of texts of its own lies in memory. -/
theorem StrsAt.of_own {N : Nat} {S : Nat → Prop} {w : World} {kv : Value} {ks : List ByteArray} (h : w.ownsRow N 9 1 kv ks.length (ks.map Value.string)) (hl : ks.length < 17592186044416) (hs : ∀ s ∈ ks, s.size < 281474976710656) (hS : ∀ b, N ≤ b → b < w.heap.size → S b) : StrsAt S w kv ks := by
  refine ⟨hl, hs, ?_⟩
  rcases h.2 with ⟨rfl, h0⟩ | ⟨g, cap, cur, rfl, hg, hh, _⟩
  · exact ⟨none, 0, by rw [h0], Or.inl (List.eq_nil_of_length_eq_zero h0)⟩
  · refine ⟨some ⟨g, 0, none⟩, cap, rfl, Or.inr ⟨g, 0, hS g hg (Array.getElem?_eq_some_iff.1 hh).1, rfl, fun i s hi => ?_⟩⟩
    have hv : (ks.map Value.string)[i]? = some (.string s) := by rw [List.getElem?_map, hi]; rfl
    have hc := h.cells (g := g) rfl i _ hv
    have hadd : (⟨g, 0, none⟩ : Addr).add i = ⟨g, 0 + i, none⟩ := by unfold Addr.add; split <;> simp_all
    rwa [hadd] at hc

/-- The variable, told: a tree by keys. -/
theorem P2At.done {d N r : Nat} {S : Nat → Prop} {w W wz : World} {ps : List (ByteArray × Tr d)} {ks : List ByteArray} {xs : List (Tr d)} {kv lv : Value} {vs : List Value} (h : P2At d S N N W wz ks xs kv lv vs) (hks : ks = ps.map Prod.fst) (hxs : xs = ps.map Prod.snd) (hS : Within S w) (hwr : w.heap.size ≤ r) (hr : r < N) (hW : Below w.heap.size w W) (hlen : ps.length ≤ 100000) (hsz : ∀ p ∈ ps, p.1.size < 281474976710656) :
    ∀ wF, wF = set5 wz r 0 (.int .i64 6) (.int .i64 0) (.string { data := #[] }) kv lv → ValAt (fun b => S b ∨ Fresh w wF b) wF (d + 1) (mapT d ps) (.agg #[.int .i64 6, .int .i64 0, .string { data := #[] }, kv, lv]) ∧ Below w.heap.size w wF := by
  intro wF hF
  subst hks hxs
  have hzF : wF.heap.size = wz.heap.size := by rw [hF, set5_size]
  have hbz := h.below.size
  have hsm : ∀ b, b ≠ r → wF.heap[b]? = wz.heap[b]? := fun b hb => by rw [hF, set5_block _ _ _ _ _ _ _ _ _ hb]
  have hkl : (ps.map Prod.fst).length ≤ 100000 := by rw [List.length_map]; exact hlen
  have hxl : (ps.map Prod.snd).length ≤ 100000 := by rw [List.length_map]; exact hlen
  have hkeys : StrsAt (fun b => N ≤ b ∧ b < wz.heap.size) wz kv (ps.map Prod.fst) := StrsAt.of_own h.keys (by omega) (fun s hs => by obtain ⟨p, hp, rfl⟩ := List.mem_map.1 hs; exact hsz p hp) (fun b h1 h2 => ⟨h1, h2⟩)
  have hrow := h.row.at (by omega)
  have hmv : Same (fun b => S b ∨ (N ≤ b ∧ b < wz.heap.size)) wz wF := fun b hb => hsm b (by
    rcases hb with hb | hb
    · have := hS b hb; omega
    · have := hb.1; omega)
  have hin : ∀ b, (S b ∨ (N ≤ b ∧ b < wz.heap.size)) → (S b ∨ Fresh w wF b) := fun b hb => by
    rcases hb with hb | hb
    · exact Or.inl hb
    · exact Or.inr ⟨by have := hb.1; omega, by have := hb.2; omega⟩
  refine ⟨⟨_, _, rfl, ⟨by show _ ≤ (6 : Int); omega, by show (6 : Int) ≤ _; omega⟩, ⟨by show _ ≤ (0 : Int); omega, by show (0 : Int) ≤ _; omega⟩, by show (0 : Nat) < _; omega, hkeys.moved (fun b hb => hsm b (by have := hb.1; omega)) (fun b hb => Or.inr ⟨by have := hb.1; omega, by have := hb.2; omega⟩), hrow.moved hmv hin (fun y u hy => ValAt.moved hmv hin _ y u hy)⟩, ?_⟩
  rw [hF]
  refine below_set5 ?_ hwr _ _ _ _ _ _
  exact hW.trans (h.below.mono (by omega))
end Go.Proofs.YtohdpgclokgohaaGreatDoor

/- append of trees onto a row of nothing. -/
namespace Go.Proofs.YtohdpgclokgohaaGreatDoor
open Go.RowKit Go.Deep

/-- An append, as one step of a region in its order. -/
theorem wpList_append_run {P : Program} {ops : Array Oper} {rest : List Oper} {o : Oper} {a : Act} {w : World} {Q : Exit → Act → World → Prop} (Φ : Value → World → Prop) (hgd : o.guard = none) (s x : Operand) (t : TypeId)
    (ho : o.op = .call { callee := .builtin .append, args := #[s, x], argTypes := #[t, t] }) (vs vx : Value) (hs : a.eval s = vs) (hx : a.eval x = vx)
    (hrun : ∃ v' w', (Builtin.append_ #[t, t] o.type #[vs, vx]).run P w = .ok v' w' ∧ Φ v' w') (h : ∀ v' w', Φ v' w' → wpList P ops Q rest (a.put o.dst v') w') :
    wpList P ops Q (o :: rest) a w := by
  refine wpList_plain hgd fun K hK => ?_
  obtain ⟨v', w', hr, h2⟩ := hrun
  unfold Oper.wp execOp
  simp only [ho, resolve, invoke, builtin, Sem.run_bind, Sem.run_pure, Result.andThen_ok, List.map_toArray, List.map_cons, List.map_nil, hs, hx, hr]
  exact hK _ _ (h v' w' h2)

theorem Tryz.infoV2 : (Tryz.prog.info? 26).map (fun i => (i.zero, i.size, i.bytes)) = some (some zeroVal, 5, 80) := by kernel_rfl

/-- Trees, copied behind nothing: the cells alone. -/
theorem run_append_vals {d : Nat} (S : Nat → Prop) (xs : List (Tr d)) (al : Option Addr) (cl g : Nat) (ty : TypeId) (w : World) (hg : w.heap[g]? = some (.cells #[] 26 (0, 0))) (hv : RowAt S w (ValAt S w d) (.slice al xs.length cl) xs) (hSg : ¬ S g) (hS : Within S w) (hsm : xs.length ≤ 4194304) :
    ∃ v' w', (Builtin.append_ #[24, 24] ty #[.slice (some ⟨g, 0, none⟩) 0 0, .slice al xs.length cl]).run Tryz.prog w = .ok v' w' ∧
      ((∃ vs, VTo S g w' v' xs vs) ∧ w.grownBy w' (some g) ∧ ∃ a c, v' = .slice a xs.length c) := by
  obtain ⟨i0, hi, hz0, hz1, hz2⟩ := info_parts Tryz.infoV2
  have hgl := (Array.getElem?_eq_some_iff.1 hg).1
  have hu : Tryz.prog.underlying 24 = some (.slice 26) := Tryz.underlying24
  have hown : w.ownsRow g 26 5 (.slice (some ⟨g, 0, none⟩) 0 0) 0 [] := ⟨by simp, .inr ⟨g, 0, #[], rfl, Nat.le_refl _, hg, Nat.le_refl _, Nat.zero_le _, by simp, by simp⟩⟩
  by_cases h0 : xs = []
  · subst h0
    refine ⟨.slice (some ⟨g, 0, none⟩) 0 0, w, ?_, ⟨[], hown, fun j x h => by simp at h⟩, ⟨rfl, rfl, rfl, Nat.le_refl _, fun _ _ _ => rfl⟩, _, _, rfl⟩
    cases al with
    | none => simp [Builtin.append_, run_underlying hu, sizeOf, typeInfo, hi, Builtin.lenOf, Builtin.firstCells, loadCells, loadCellsFrom, storeCells, Result.andThen, hz1]
    | some a => simp [Builtin.append_, run_underlying hu, sizeOf, typeInfo, hi, Builtin.lenOf, Builtin.firstCells, loadCells, loadCellsFrom, storeCells, Result.andThen, hz1]
  · have hpos : 0 < xs.length := List.length_pos_iff.2 h0
    obtain ⟨b, o, _, _, _, _, _, _, rfl, hbS, _⟩ := hv.cell hpos
    have hcell : ∀ i x, xs[i]? = some x → ∃ c0 c1 c2 c3 c4, w.cell? ⟨b, o + i * 5, none⟩ = some c0 ∧ w.cell? ⟨b, o + i * 5 + 1, none⟩ = some c1 ∧ w.cell? ⟨b, o + i * 5 + 2, none⟩ = some c2 ∧ w.cell? ⟨b, o + i * 5 + 3, none⟩ = some c3 ∧ w.cell? ⟨b, o + i * 5 + 4, none⟩ = some c4 ∧ ValAt S w d x (.agg #[c0, c1, c2, c3, c4]) := by
      intro i x hx
      obtain ⟨b', o', x', c0, c1, c2, c3, c4, e', _, hx', e0, e1, e2, e3, e4, hval⟩ := hv.cell (List.getElem?_eq_some_iff.1 hx).1
      cases e'
      rw [hx] at hx'
      cases hx'
      exact ⟨c0, c1, c2, c3, c4, e0, e1, e2, e3, e4, hval⟩
    obtain ⟨news, hnl, hnews⟩ : ∃ news : List Value, news.length = xs.length * 5 ∧ ∀ j, j < xs.length * 5 → ∃ u, news[j]? = some u ∧ w.cell? ⟨b, o + j, none⟩ = some u := by
      refine ⟨(List.range (xs.length * 5)).map (fun j => (w.cell? ⟨b, o + j, none⟩).getD undef), by simp, fun j hj => ?_⟩
      have hq : j / 5 < xs.length := by omega
      obtain ⟨c0, c1, c2, c3, c4, e0, e1, e2, e3, e4, _⟩ := hcell (j / 5) _ (List.getElem?_eq_getElem hq)
      have hex : ∃ u, w.cell? ⟨b, o + j, none⟩ = some u := by
        rcases (by omega : j = j / 5 * 5 ∨ j = j / 5 * 5 + 1 ∨ j = j / 5 * 5 + 2 ∨ j = j / 5 * 5 + 3 ∨ j = j / 5 * 5 + 4) with e | e | e | e | e
        · exact ⟨c0, by rw [e]; exact e0⟩
        · exact ⟨c1, by rw [e, ← Nat.add_assoc]; exact e1⟩
        · exact ⟨c2, by rw [e, ← Nat.add_assoc]; exact e2⟩
        · exact ⟨c3, by rw [e, ← Nat.add_assoc]; exact e3⟩
        · exact ⟨c4, by rw [e, ← Nat.add_assoc]; exact e4⟩
      obtain ⟨u, hu⟩ := hex
      exact ⟨u, by simp [hj, hu], hu⟩
    have hone : ∀ u ∈ news, u.oneCell' = true := by
      intro u hu
      obtain ⟨j, hj⟩ := List.getElem?_of_mem hu
      have hjl := (List.getElem?_eq_some_iff.1 hj).1
      obtain ⟨u', hu', hc⟩ := hnews j (by omega)
      rw [hj] at hu'
      cases hu'
      have hq : j / 5 < xs.length := by omega
      obtain ⟨c0, c1, c2, c3, c4, e0, e1, e2, e3, e4, hval⟩ := hcell (j / 5) _ (List.getElem?_eq_getElem hq)
      obtain ⟨q0, q1, q2, q3, q4, q5, q6, q7, q8, hq⟩ := hval.shape
      cases hq
      rcases (by omega : j = j / 5 * 5 ∨ j = j / 5 * 5 + 1 ∨ j = j / 5 * 5 + 2 ∨ j = j / 5 * 5 + 3 ∨ j = j / 5 * 5 + 4) with e | e | e | e | e
      · rw [e, e0] at hc; cases hc; rfl
      · rw [e, ← Nat.add_assoc, e1] at hc; cases hc; rfl
      · rw [e, ← Nat.add_assoc, e2] at hc; cases hc; rfl
      · rw [e, ← Nat.add_assoc, e3] at hc; cases hc; rfl
      · rw [e, ← Nat.add_assoc, e4] at hc; cases hc; rfl
    have hadd : ∀ j, (⟨b, o, none⟩ : Addr).add j = ⟨b, o + j, none⟩ := fun j => by unfold Addr.add; split <;> simp_all
    obtain ⟨v', w', hr, ho, hgr, _, hat⟩ := run_append_own_at (P := Tryz.prog) w g 24 ty 26 i0 zeroVal 5 80 hu hi hz0 hz1 hz2 rfl (by decide) _ 0 [] hown ⟨b, o, none⟩ xs.length cl news hnl
      (fun j u hj => by rw [hadd]; obtain ⟨u', h1, h2⟩ := hnews j (by have := (List.getElem?_eq_some_iff.1 hj).1; omega); rw [hj] at h1; cases h1; exact h2) hone (by unfold maxLen; omega) (by omega) (by omega)
    rw [Nat.zero_add, List.nil_append] at ho
    have hsh : ∃ a c, v' = .slice a xs.length c := by
      rcases ho.2 with ⟨_, h⟩ | ⟨g', c', cur, e, _⟩
      · omega
      · exact ⟨_, _, e⟩
    have hsame : Same S w w' := fun c hc => hgr.block c (hS c hc) (fun e => by cases e; exact hSg hc)
    refine ⟨v', w', hr, ⟨news, ho, fun j x hx => ?_⟩, hgr, hsh⟩
    obtain ⟨c0, c1, c2, c3, c4, e0, e1, e2, e3, e4, hval⟩ := hcell j x hx
    have hjl := (List.getElem?_eq_some_iff.1 hx).1
    have hn : ∀ m c, m < xs.length * 5 → w.cell? ⟨b, o + m, none⟩ = some c → news[m]? = some c := fun m c hm hc => by
      obtain ⟨u, h1, h2⟩ := hnews m hm
      rw [hc] at h2
      cases h2
      exact h1
    exact ⟨c0, c1, c2, c3, c4, hn _ _ (by omega) e0, hn _ _ (by omega) (by rw [← Nat.add_assoc]; exact e1), hn _ _ (by omega) (by rw [← Nat.add_assoc]; exact e2), hn _ _ (by omega) (by rw [← Nat.add_assoc]; exact e3), hn _ _ (by omega) (by rw [← Nat.add_assoc]; exact e4), hval.same hsame⟩
end Go.Proofs.YtohdpgclokgohaaGreatDoor

/- l2Put of the model. -/
namespace Go.Proofs.YtohdpgclokgohaaGreatDoor
open Go.RowKit Go.Deep

theorem beq_bytes {a b : ByteArray} {r : Bool} (h : (a.toList == b.toList) = r) : (a == b) = r := by
  cases r with
  | true => exact (MapKept.bytes_beq a b).2 (by have e := beq_iff_eq.1 h; rw [ByteArray.toList_eq, ByteArray.toList_eq] at e; cases a with | mk a => cases b with | mk b => have e : a.toList = b.toList := e; cases a; cases b; simp at e; rw [e])
  | false => exact bytes_ne (fun e => by rw [e] at h; simp at h)

set_option maxRecDepth 100000 in
set_option maxHeartbeats 20000000 in
theorem l2Put_wide (d : Nat) (S : Nat → Prop) (t : Tr (d + 1)) (v : Value) (s : ByteArray) (x : Tr d) (xv : Value) (w : World) (hv : ValAt S w (d + 1) t v) (hx : ValAt S w d x xv) (hS : Within S w) (hkx : (Nd.keys t).length = (Nd.list t).length) (hl60 : (Nd.list t).length ≤ 1000) (hsz : s.size < 281474976710656) :
    Calls Tryz.prog 54 #[v, .string s, xv] w fun e w' => ∃ u, e = .returned u ∧ ValAt (fun b => S b ∨ Fresh w w' b) w' (d + 1) (mapT d (endP s x (((Nd.keys t).zip (Nd.list t)).foldl (stepP s x) (false, [])))) u ∧ Below w.heap.size w w' := by
  obtain ⟨kind, num, str, keys, list⟩ := t
  obtain ⟨vk, vl, rfl, i1, i2, i3, hk', hl'⟩ := hv
  replace hk' : StrsAt S w vk keys := hk'
  replace hl' : RowAt S w (ValAt S w d) vl list := hl'
  replace hkx : keys.length = list.length := hkx
  replace hl60 : list.length ≤ 1000 := hl60
  obtain ⟨ak, ck, rfl, hkl⟩ := hk'.open'
  obtain ⟨al, cl, rfl, hll⟩ := hl'.open'
  obtain ⟨k', n', s', ak', lk', ck', al', ll', cl', rfl⟩ := hx.shape
  show Calls Tryz.prog 54 #[.agg #[.int .i64 kind, .int .i64 num, .string str, .slice ak keys.length ck, .slice al list.length cl], .string s, .agg #[.int .i64 k', .int .i64 n', .string s', .slice ak' lk' ck', .slice al' ll' cl']] w _
  obtain ⟨k0, k1, k2, hW0, hsz0⟩ := laid3 w 26 26 26 (.int .i64 kind) (.int .i64 num) (.string str) (.slice ak keys.length ck) (.slice al list.length cl) (.int .i64 k') (.int .i64 n') (.string s') (.slice ak' lk' ck') (.slice al' ll' cl') (.int .i64 0) (.int .i64 0) (.string { data := #[] }) (.slice none 0 0) (.slice none 0 0)
  obtain ⟨W0, hW⟩ : ∃ W0, W0 = ((w.alloc (.cells #[.int .i64 kind, .int .i64 num, .string str, .slice ak keys.length ck, .slice al list.length cl] 26)).alloc (.cells #[.int .i64 k', .int .i64 n', .string s', .slice ak' lk' ck', .slice al' ll' cl'] 26)).alloc (.cells #[.int .i64 0, .int .i64 0, .string { data := #[] }, .slice none 0 0, .slice none 0 0] 26) := ⟨_, rfl⟩
  rw [← hW] at k0 k1 k2 hW0 hsz0
  have hxw := hide (hx.same (hS.same hW0))
  have hkw := hide (hk'.same (hS.same hW0))
  have hlw := hide (hl'.same (hS.same hW0))
  have hS0 : ∀ b, S b → b < w.heap.size + 1 + 1 + 1 := fun b hb => by have := hS b hb; omega
  have hst : Hid (P2At d S (w.heap.size + 1 + 1 + 1) (w.heap.size + 1 + 1 + 1) W0 (W0.alloc (.cells #[.int .i64 6, .int .i64 0, .string { data := #[] }, .slice none 0 0, .slice none 0 0] 26)) [] [] (.slice none 0 0) (.slice none 0 0) []) := by
    have hn := Blk5.new W0 26 (.int .i64 6) (.int .i64 0) (.string { data := #[] }) (.slice none 0 0) (.slice none 0 0)
    rw [hsz0] at hn
    exact ⟨hn, World.ownsRow_nil _ _ _ _, ⟨World.ownsRow_nil _ _ _ _, fun j x h => by simp at h⟩, (below_alloc1 _ _).mono (by omega), by simp [Value.ownBlock], by simp [Value.ownBlock], fun g h => by simp [Value.ownBlock] at h, Nat.le_refl _⟩
  have HW := hide hW
  have HK := hide hkx
  have HST := hide (hst.out)
  obtain ⟨j0, hj', hjz0, hjz1, hjz2⟩ := info_parts Tryz.infoS2
  obtain ⟨i0, hi', hiz0, hiz1, hiz2⟩ := info_parts Tryz.infoV2
  have hj := hide hj'
  have hi := hide hi'
  clear hW hk' hl' hx hkx hj' hi' hst
  go_enter Tryz.func54, Tryz.ntmps54
  go_wp2_with fail
  go_loopw [8, 9] (fun dn i wr => ∃ (k : Nat) (kv lv : Value) (vs : List Value), k ≤ keys.length ∧ dn = .bool (putAt s x (keys.zip list) k).1 ∧ i = .int .i64 (k : Int) ∧ Hid (P2At d S (w.heap.size + 1 + 1 + 1) (w.heap.size + 1 + 1 + 1) W0 wr ((putAt s x (keys.zip list) k).2.map Prod.fst) ((putAt s x (keys.zip list) k).2.map Prod.snd) kv lv vs)) (fun _ i _ => keys.length - (intOf i).toNat)
  case atStart => exact ⟨0, _, _, [], Nat.zero_le _, rfl, rfl, by rw [← HW.out]; exact HST⟩
  case round =>
    clear HST
    obtain ⟨k, kv, lv, vs, hkk, rfl, rfl, hat⟩ := hrel
    obtain ⟨ka, kn, kc, rfl⟩ := row_slice hat.out.keys
    obtain ⟨la, ln, lc, rfl⟩ := row_slice hat.out.row.1
    obtain ⟨y0, y1, y2, y3, y4⟩ := hat.out.out.cell
    by_cases hkl : k < keys.length
    · have hki : (k : Int) < (keys.length : Int) := by omega
      obtain ⟨eb, eo, key, rfl, heS, hkey, hksz, e0⟩ := hkw.out.cell hkl
      obtain ⟨fb, fo, y, c0, c1, c2, c3, c4, rfl, hfS, hy, f0, f1, f2, f3, f4, hval⟩ := hlw.out.cell (by rw [← HK.out]; exact hkl)
      obtain ⟨q0, q1, q2, q3, q4, q5, q6, q7, q8, hq⟩ := hval.shape
      cases hq
      have hzk : (keys.zip list)[k]? = some (key, y) := List.getElem?_zip_eq_some.2 ⟨hkey, hy⟩
      have hnext := hide (putAt_step (s := s) (x := x) hzk)
      have hacc := hide (putAt_len (s := s) (x := x) (ps := keys.zip list) k)
      have hebl := hS0 eb heS
      have hfbl := hS0 fb hfS
      have HC : Hid (∀ W', Below (w.heap.size + 1 + 1 + 1) W0 W' → W'.cell? ⟨w.heap.size, 3, none⟩ = some (.slice (some ⟨eb, eo, none⟩) keys.length ck) ∧ W'.cell? ⟨w.heap.size, 4, none⟩ = some (.slice (some ⟨fb, fo, none⟩) list.length cl) ∧ W'.cell? ⟨eb, eo + k, none⟩ = some (.string key) ∧
          W'.cell? ⟨fb, fo + k * 5, none⟩ = some (.int .i64 q0) ∧ W'.cell? ⟨fb, fo + k * 5 + 1, none⟩ = some (.int .i64 q1) ∧ W'.cell? ⟨fb, fo + k * 5 + 2, none⟩ = some (.string q2) ∧ W'.cell? ⟨fb, fo + k * 5 + 3, none⟩ = some (.slice q3 q4 q5) ∧ W'.cell? ⟨fb, fo + k * 5 + 4, none⟩ = some (.slice q6 q7 q8)) := fun W' hb => by
        have kk := (k0.of_block (hb.block _ (by omega))).cell
        have he := fun o => World.cell?_of_block (w := W0) (w' := W') (a := ⟨eb, o, none⟩) (hb.block eb hebl)
        have hf := fun o => World.cell?_of_block (w := W0) (w' := W') (a := ⟨fb, o, none⟩) (hb.block fb hfbl)
        exact ⟨kk.2.2.2.1, kk.2.2.2.2, (he _).trans e0, (hf _).trans f0, (hf _).trans f1, (hf _).trans f2, (hf _).trans f3, (hf _).trans f4⟩
      have HVAL : Hid (∀ W', Below (w.heap.size + 1 + 1 + 1) W0 W' → ValAt S W' d y (.agg #[.int .i64 q0, .int .i64 q1, .string q2, .slice q3 q4 q5, .slice q6 q7 q8])) := fun W' hb => hval.same (fun b hb' => hb.block b (hS0 b hb'))
      have HLO : Hid (∀ W', Below (w.heap.size + 1 + 1 + 1) W0 W' → w.heap.size < W'.heap.size ∧ eb < W'.heap.size ∧ fb < W'.heap.size) := fun W' hb => by have := hb.size; exact ⟨by omega, by omega, by omega⟩
      have HKL := hide hkl
      have hk120 : k ≤ 1000 := by have := HK.out; omega
      have hki2 : (k : Int) < (list.length : Int) := by have := HK.out; omega
      clear hkey hy hzk hval hkk hkl e0 f0 f1 f2 f3 f4
      generalize hst' : putAt s x (keys.zip list) k = st at *
      obtain ⟨dn, acc⟩ := st
      clear hst'
      have hacc' : acc.length ≤ 2 * k := hacc.out
      obtain ⟨KS, hKS⟩ : ∃ l, l = acc.map Prod.fst := ⟨_, rfl⟩
      obtain ⟨XS, hXS⟩ : ∃ l, l = acc.map Prod.snd := ⟨_, rfl⟩
      have hKl : KS.length ≤ 2000 := by rw [hKS, List.length_map]; omega
      have hXl : XS.length ≤ 2000 := by rw [hXS, List.length_map]; omega
      replace hat : Hid (P2At d S (w.heap.size + 1 + 1 + 1) (w.heap.size + 1 + 1 + 1) W0 wr KS XS (.slice ka kn kc) (.slice la ln lc) vs) := by rw [hKS, hXS]; exact hat
      have HKS := hide hKS
      have HXS := hide hXS
      clear hKS hXS hacc hacc'
      obtain ⟨x3, x4, e0, f0, f1, f2, f3, f4⟩ := HC.out wr hat.out.below
      have hlo := HLO.out wr hat.out.below
      cases dn with
      | false =>
        cases hlt : Op.bytesLess key.toList s.toList with
        | true =>
          have heq : (key.toList == s.toList) = false := by
            cases hb : (key.toList == s.toList)
            · rfl
            · rw [beq_iff_eq.1 hb, bytesLess_irrefl] at hlt
              cases hlt
          go_upto_region 11 with fail
          go_cut [] (fun wc => ∃ a n c, Hid (P2At d S (w.heap.size + 1 + 1 + 1) (w.heap.size + 1 + 1 + 1) W0 wc (KS ++ [key]) XS (.slice a n c) (.slice la ln lc) vs))
          case first =>
            have hownC1 := hide (hat.out.drew.keys.alloc (.cells #[.string key] 9))
            have z' := fun o => ((hat.out.drew.out.alloc o).cell).2.2.2.1
            have hswC1 : w.heap.size + 1 + 1 + 1 < wr.heap.size := hat.out.out.lt
            go_wp2_with fail
            go_region_law ((refine step_append_run _ (by rfl) _ _ 23 (by rfl) _ _ (by rfl) (by rfl) (run_append_own_at (P := Tryz.prog) _ (w.heap.size + 1 + 1 + 1) 23 _ 9 j0 (.string ByteArray.empty) 1 16 Tryz.underlying23 hj.out hjz0 hjz1 hjz2 rfl (by decide) _ _ _ hownC1.out ⟨wr.heap.size, 0, none⟩ 1 1 [.string key] rfl (cell_one_new _ _ _) (by intro y hy; simp at hy; subst hy; rfl) (by unfold maxLen; omega) (by omega) (by rw [World.size_alloc]; show w.heap.size + 1 + 1 + 1 ≤ wr.heap.size + 1; omega)) ?_; rintro v' waC1 ⟨o1, o2, _, o3⟩; obtain ⟨kaC1, knC1, kcC1, rfl⟩ := row_slice o1; have HHC1 := hide (hat.out.drew.pushK hS0 o1 o2 o3); have zkC1 := HHC1.out.1.cell.2.2.2.1; have zfC1 := HHC1.out.1.frozen 3))
            all_goals
              go_wp2_with fail
              go_meet
              exact ⟨_, _, _, HHC1.out.2⟩
          case rest =>
          rename World => wC
          obtain ⟨kaC, knC, kcC, hatC⟩ := hcut
          clear hat y0 y1 y2 y3 y4 x3 x4 e0 f0 f1 f2 f3 f4 hlo
          obtain ⟨KC, hKC⟩ : ∃ l, l = KS ++ [key] := ⟨_, rfl⟩
          have hKlC : KC.length ≤ 2020 := by rw [hKC, List.length_append, List.length_singleton]; omega
          rw [← hKC] at hatC
          have HKC := hide hKC
          clear hKC
          obtain ⟨y0, y1, y2, y3, y4⟩ := hatC.out.out.cell
          obtain ⟨x3, x4, e0, f0, f1, f2, f3, f4⟩ := HC.out wC hatC.out.below
          have hlo := HLO.out wC hatC.out.below
          have hownC2 := hide (hatC.out.drew.row.1.alloc (.cells #[.int .i64 q0, .int .i64 q1, .string q2, .slice q3 q4 q5, .slice q6 q7 q8] 26))
          have z' := fun o => ((hatC.out.drew.out.alloc o).cell).2.2.2.2
          have hswC2 : w.heap.size + 1 + 1 + 1 < wC.heap.size := hatC.out.out.lt
          go_wp2_with fail
          go_region_law ((refine step_append_run _ (by rfl) _ _ 24 (by rfl) _ _ (by rfl) (by rfl) (run_append_own_at (P := Tryz.prog) _ (w.heap.size + 1 + 1 + 1) 24 _ 26 i0 zeroVal 5 80 Tryz.underlying24 hi.out hiz0 hiz1 hiz2 rfl (by decide) _ _ _ hownC2.out ⟨wC.heap.size, 0, none⟩ 1 1 [.int .i64 q0, .int .i64 q1, .string q2, .slice q3 q4 q5, .slice q6 q7 q8] rfl (cell_five_new _ _ _ _ _ _ _) (by intro y hy; simp at hy; rcases hy with rfl | rfl | rfl | rfl | rfl <;> rfl) (by unfold maxLen; omega) (by omega) (by rw [World.size_alloc]; show w.heap.size + 1 + 1 + 1 ≤ wC.heap.size + 1; omega)) ?_; rintro v' waC2 ⟨o1, o2, _, o3⟩; obtain ⟨kaC2, knC2, kcC2, rfl⟩ := row_slice o1; have HHC2 := hide (hatC.out.drew.pushX hS0 ((HVAL.out wC.drew hatC.out.drew.below)) o1 o2 o3); have zkC2 := HHC2.out.1.cell.2.2.2.2; have zfC2 := HHC2.out.1.frozen 4))
          all_goals
            have hauC := hide HHC2.out.2
            clear hatC y0 y1 y2 y3 y4 x3 x4 e0 f0 f1 f2 f3 f4 hlo o1 o2 o3 hownC2 z'
            have hnx : Hid (putAt s x (keys.zip list) (k + 1) = (false, acc ++ [(key, y)])) := by
              show putAt s x (keys.zip list) (k + 1) = _
              rw [hnext.out]
              simp [stepP, ltB, hlt, beq_bytes heq]
            go_wp2_with fail
            go_roundw
            case rel =>
              refine ⟨k + 1, .slice kaC knC kcC, .slice kaC2 knC2 kcC2, vs ++ [.int .i64 q0, .int .i64 q1, .string q2, .slice q3 q4 q5, .slice q6 q7 q8], HKL.out, by rw [hnx.out], by go_num, ?_⟩
              rw [hnx.out]
              simp only [List.map_append, List.map_cons, List.map_nil]
              rw [← HKS.out, ← HXS.out]
              have hh := hauC
              rw [HKC.out] at hh
              exact hh
            case measure => simp [intOf]; have := HKL.out; omega
        | false =>
          cases heq : (key.toList == s.toList) with
          | true =>
            have HOKA := hide (hat.out.keys.alloc (.cells #[.string s] 9))
            have hswA : w.heap.size + 1 + 1 + 1 ≤ wr.heap.size := by have := hat.out.out.lt; omega
            go_wp2_with (at_builtin; refine wpList_append_own_at _ rfl _ _ 23 rfl (w.heap.size + 1 + 1 + 1) 9 j0 (.string ByteArray.empty) 1 16 Tryz.underlying23 hj.out hjz0 hjz1 hjz2 rfl (by decide) _ _ _ rfl HOKA.out ⟨wr.heap.size, 0, none⟩ 1 1 [.string s] rfl rfl (cell_one_new _ _ _) ?c2 ?c3 ?c4 ?c5 ?_)
            case c2 => first | rfl | (intro y hy; simp at hy; subst hy; rfl)
            case c3 => first | omega | (unfold maxLen; omega)
            case c4 => omega
            case c5 => first | omega | (simp; omega)
            intro kvA waA o1 o2 _ o3
            have HHA := hide (hat.out.pushK hS0 o1 o2 (by rw [World.size_alloc]; exact o3))
            obtain ⟨kaA, knA, kcA, rfl⟩ := row_slice o1
            have zkA := HHA.out.1.cell.2.2.2.1
            have zfA := HHA.out.1.frozen 3
            clear o1 o2 o3 HOKA hat y0 y1 y2 y3 y4
            go_upto_region 8 with fail
            obtain ⟨wbA, hwA⟩ : ∃ wb, wb = waA.setCell ⟨w.heap.size + 1 + 1 + 1, 3, none⟩ (.slice kaA knA kcA) := ⟨_, rfl⟩
            obtain ⟨KSA, hKSA⟩ : ∃ l, l = KS ++ [s] := ⟨_, rfl⟩
            have hlKSA : KSA.length = KS.length + 1 := by rw [hKSA]; simp
            have hleKSA : KSA.length ≤ 2010 := by omega
            have hatA := hide HHA.out.2
            rw [← hwA, ← hKSA] at hatA
            rw [← hwA]
            have HKSA := hide hKSA
            clear hwA HHA zkA zfA hKSA hlKSA
            obtain ⟨y0, y1, y2, y3, y4⟩ := hatA.out.out.cell
            have HOXB := hide (hatA.out.row.1.alloc (.cells #[.int .i64 k', .int .i64 n', .string s', .slice ak' lk' ck', .slice al' ll' cl'] 26))
            have hswB : w.heap.size + 1 + 1 + 1 ≤ wbA.heap.size := by have := hatA.out.out.lt; omega
            have hbxB := hatA.out.below
            obtain ⟨p0, p1, p2, p3, p4⟩ := (k1.of_block (hbxB.block _ (by omega))).cell
            go_wp2_with (at_builtin; refine wpList_append_own_at _ rfl _ _ 24 rfl (w.heap.size + 1 + 1 + 1) 26 i0 zeroVal 5 80 Tryz.underlying24 hi.out hiz0 hiz1 hiz2 rfl (by decide) _ _ _ rfl HOXB.out ⟨wbA.heap.size, 0, none⟩ 1 1 [.int .i64 k', .int .i64 n', .string s', .slice ak' lk' ck', .slice al' ll' cl'] rfl rfl (cell_five_new _ _ _ _ _ _ _) ?c2 ?c3 ?c4 ?c5 ?_)
            case c2 => first | (intro y hy; simp at hy; rcases hy with rfl | rfl | rfl | rfl | rfl <;> rfl) | exact ⟨rfl, rfl, rfl, rfl, rfl⟩ | simp [Value.oneCell']
            case c3 => first | omega | (unfold maxLen; omega)
            case c4 => omega
            case c5 => first | omega | (simp; omega)
            intro lvB waB o1 o2 _ o3
            have HHB := hide (hatA.out.pushX hS0 (hxw.out.same (fun b hb' => hbxB.block b (hS0 b hb'))) o1 o2 (by rw [World.size_alloc]; exact o3))
            obtain ⟨kaB, knB, kcB, rfl⟩ := row_slice o1
            have zkB := HHB.out.1.cell.2.2.2.2
            have zfB := HHB.out.1.frozen 4
            clear o1 o2 o3 HOXB hatA hbxB p0 p1 p2 p3 p4 y0 y1 y2 y3 y4
            go_upto_region 9 with fail
            obtain ⟨wbB, hwB⟩ : ∃ wb, wb = waB.setCell ⟨w.heap.size + 1 + 1 + 1, 4, none⟩ (.slice kaB knB kcB) := ⟨_, rfl⟩
            obtain ⟨XSB, hXSB⟩ : ∃ l, l = XS ++ [x] := ⟨_, rfl⟩
            have hlXSB : XSB.length = XS.length + 1 := by rw [hXSB]; simp
            have hleXSB : XSB.length ≤ 2010 := by omega
            have hatB := hide HHB.out.2
            rw [← hwB, ← hXSB] at hatB
            rw [← hwB]
            have HXSB := hide hXSB
            clear hwB HHB zkB zfB hXSB hlXSB
            obtain ⟨y0, y1, y2, y3, y4⟩ := hatB.out.out.cell
            clear x3 x4 e0 f0 f1 f2 f3 f4 hlo
            obtain ⟨x3, x4, e0, f0, f1, f2, f3, f4⟩ := HC.out wbB hatB.out.below
            have hlo := HLO.out wbB hatB.out.below
            have hnx : Hid (putAt s x (keys.zip list) (k + 1) = (true, acc ++ [(s, x)])) := by
              show putAt s x (keys.zip list) (k + 1) = _
              rw [hnext.out]
              simp [stepP, ltB, hlt, beq_bytes heq]
            go_wp2_with fail
            go_roundw
            case rel =>
              refine ⟨k + 1, .slice kaA knA kcA, .slice kaB knB kcB, vs ++ [.int .i64 k', .int .i64 n', .string s', .slice ak' lk' ck', .slice al' ll' cl'], HKL.out, by rw [hnx.out], by go_num, ?_⟩
              rw [hnx.out, List.map_append, List.map_append, ← HKS.out, ← HXS.out]
              have hh := hatB
              rw [HKSA.out, HXSB.out] at hh
              exact hh
            case measure => simp [intOf]; have := HKL.out; omega
          | false =>
            have HOKA := hide (hat.out.keys.alloc (.cells #[.string s] 9))
            have hswA : w.heap.size + 1 + 1 + 1 ≤ wr.heap.size := by have := hat.out.out.lt; omega
            go_wp2_with (at_builtin; refine wpList_append_own_at _ rfl _ _ 23 rfl (w.heap.size + 1 + 1 + 1) 9 j0 (.string ByteArray.empty) 1 16 Tryz.underlying23 hj.out hjz0 hjz1 hjz2 rfl (by decide) _ _ _ rfl HOKA.out ⟨wr.heap.size, 0, none⟩ 1 1 [.string s] rfl rfl (cell_one_new _ _ _) ?c2 ?c3 ?c4 ?c5 ?_)
            case c2 => first | rfl | (intro y hy; simp at hy; subst hy; rfl)
            case c3 => first | omega | (unfold maxLen; omega)
            case c4 => omega
            case c5 => first | omega | (simp; omega)
            intro kvA waA o1 o2 _ o3
            have HHA := hide (hat.out.pushK hS0 o1 o2 (by rw [World.size_alloc]; exact o3))
            obtain ⟨kaA, knA, kcA, rfl⟩ := row_slice o1
            have zkA := HHA.out.1.cell.2.2.2.1
            have zfA := HHA.out.1.frozen 3
            clear o1 o2 o3 HOKA hat y0 y1 y2 y3 y4
            go_upto_region 8 with fail
            obtain ⟨wbA, hwA⟩ : ∃ wb, wb = waA.setCell ⟨w.heap.size + 1 + 1 + 1, 3, none⟩ (.slice kaA knA kcA) := ⟨_, rfl⟩
            obtain ⟨KSA, hKSA⟩ : ∃ l, l = KS ++ [s] := ⟨_, rfl⟩
            have hlKSA : KSA.length = KS.length + 1 := by rw [hKSA]; simp
            have hleKSA : KSA.length ≤ 2010 := by omega
            have hatA := hide HHA.out.2
            rw [← hwA, ← hKSA] at hatA
            rw [← hwA]
            have HKSA := hide hKSA
            clear hwA HHA zkA zfA hKSA hlKSA
            obtain ⟨y0, y1, y2, y3, y4⟩ := hatA.out.out.cell
            have HOXB := hide (hatA.out.row.1.alloc (.cells #[.int .i64 k', .int .i64 n', .string s', .slice ak' lk' ck', .slice al' ll' cl'] 26))
            have hswB : w.heap.size + 1 + 1 + 1 ≤ wbA.heap.size := by have := hatA.out.out.lt; omega
            have hbxB := hatA.out.below
            obtain ⟨p0, p1, p2, p3, p4⟩ := (k1.of_block (hbxB.block _ (by omega))).cell
            go_wp2_with (at_builtin; refine wpList_append_own_at _ rfl _ _ 24 rfl (w.heap.size + 1 + 1 + 1) 26 i0 zeroVal 5 80 Tryz.underlying24 hi.out hiz0 hiz1 hiz2 rfl (by decide) _ _ _ rfl HOXB.out ⟨wbA.heap.size, 0, none⟩ 1 1 [.int .i64 k', .int .i64 n', .string s', .slice ak' lk' ck', .slice al' ll' cl'] rfl rfl (cell_five_new _ _ _ _ _ _ _) ?c2 ?c3 ?c4 ?c5 ?_)
            case c2 => first | (intro y hy; simp at hy; rcases hy with rfl | rfl | rfl | rfl | rfl <;> rfl) | exact ⟨rfl, rfl, rfl, rfl, rfl⟩ | simp [Value.oneCell']
            case c3 => first | omega | (unfold maxLen; omega)
            case c4 => omega
            case c5 => first | omega | (simp; omega)
            intro lvB waB o1 o2 _ o3
            have HHB := hide (hatA.out.pushX hS0 (hxw.out.same (fun b hb' => hbxB.block b (hS0 b hb'))) o1 o2 (by rw [World.size_alloc]; exact o3))
            obtain ⟨kaB, knB, kcB, rfl⟩ := row_slice o1
            have zkB := HHB.out.1.cell.2.2.2.2
            have zfB := HHB.out.1.frozen 4
            clear o1 o2 o3 HOXB hatA hbxB p0 p1 p2 p3 p4 y0 y1 y2 y3 y4
            go_upto_region 9 with fail
            obtain ⟨wbB, hwB⟩ : ∃ wb, wb = waB.setCell ⟨w.heap.size + 1 + 1 + 1, 4, none⟩ (.slice kaB knB kcB) := ⟨_, rfl⟩
            obtain ⟨XSB, hXSB⟩ : ∃ l, l = XS ++ [x] := ⟨_, rfl⟩
            have hlXSB : XSB.length = XS.length + 1 := by rw [hXSB]; simp
            have hleXSB : XSB.length ≤ 2010 := by omega
            have hatB := hide HHB.out.2
            rw [← hwB, ← hXSB] at hatB
            rw [← hwB]
            have HXSB := hide hXSB
            clear hwB HHB zkB zfB hXSB hlXSB
            obtain ⟨y0, y1, y2, y3, y4⟩ := hatB.out.out.cell
            clear x3 x4 e0 f0 f1 f2 f3 f4 hlo
            obtain ⟨x3, x4, e0, f0, f1, f2, f3, f4⟩ := HC.out wbB hatB.out.below
            have hlo := HLO.out wbB hatB.out.below
            go_upto_region 11 with fail
            go_cut [] (fun wc => ∃ a n c, Hid (P2At d S (w.heap.size + 1 + 1 + 1) (w.heap.size + 1 + 1 + 1) W0 wc (KSA ++ [key]) XSB (.slice a n c) (.slice kaB knB kcB) (vs ++ [.int .i64 k', .int .i64 n', .string s', .slice ak' lk' ck', .slice al' ll' cl'])))
            case first =>
              have hownC1 := hide (hatB.out.drew.keys.alloc (.cells #[.string key] 9))
              have z' := fun o => ((hatB.out.drew.out.alloc o).cell).2.2.2.1
              have hswC1 : w.heap.size + 1 + 1 + 1 < wbB.heap.size := hatB.out.out.lt
              go_wp2_with fail
              go_region_law ((refine step_append_run _ (by rfl) _ _ 23 (by rfl) _ _ (by rfl) (by rfl) (run_append_own_at (P := Tryz.prog) _ (w.heap.size + 1 + 1 + 1) 23 _ 9 j0 (.string ByteArray.empty) 1 16 Tryz.underlying23 hj.out hjz0 hjz1 hjz2 rfl (by decide) _ _ _ hownC1.out ⟨wbB.heap.size, 0, none⟩ 1 1 [.string key] rfl (cell_one_new _ _ _) (by intro y hy; simp at hy; subst hy; rfl) (by unfold maxLen; omega) (by omega) (by rw [World.size_alloc]; show w.heap.size + 1 + 1 + 1 ≤ wbB.heap.size + 1; omega)) ?_; rintro v' waC1 ⟨o1, o2, _, o3⟩; obtain ⟨kaC1, knC1, kcC1, rfl⟩ := row_slice o1; have HHC1 := hide (hatB.out.drew.pushK hS0 o1 o2 o3); have zkC1 := HHC1.out.1.cell.2.2.2.1; have zfC1 := HHC1.out.1.frozen 3))
              all_goals
                go_wp2_with fail
                go_meet
                exact ⟨_, _, _, HHC1.out.2⟩
            case rest =>
            rename World => wC
            obtain ⟨kaC, knC, kcC, hatC⟩ := hcut
            clear hatB y0 y1 y2 y3 y4 x3 x4 e0 f0 f1 f2 f3 f4 hlo
            obtain ⟨KC, hKC⟩ : ∃ l, l = KSA ++ [key] := ⟨_, rfl⟩
            have hKlC : KC.length ≤ 2020 := by rw [hKC, List.length_append, List.length_singleton]; omega
            rw [← hKC] at hatC
            have HKC := hide hKC
            clear hKC
            obtain ⟨y0, y1, y2, y3, y4⟩ := hatC.out.out.cell
            obtain ⟨x3, x4, e0, f0, f1, f2, f3, f4⟩ := HC.out wC hatC.out.below
            have hlo := HLO.out wC hatC.out.below
            have hownC2 := hide (hatC.out.drew.row.1.alloc (.cells #[.int .i64 q0, .int .i64 q1, .string q2, .slice q3 q4 q5, .slice q6 q7 q8] 26))
            have z' := fun o => ((hatC.out.drew.out.alloc o).cell).2.2.2.2
            have hswC2 : w.heap.size + 1 + 1 + 1 < wC.heap.size := hatC.out.out.lt
            go_wp2_with fail
            go_region_law ((refine step_append_run _ (by rfl) _ _ 24 (by rfl) _ _ (by rfl) (by rfl) (run_append_own_at (P := Tryz.prog) _ (w.heap.size + 1 + 1 + 1) 24 _ 26 i0 zeroVal 5 80 Tryz.underlying24 hi.out hiz0 hiz1 hiz2 rfl (by decide) _ _ _ hownC2.out ⟨wC.heap.size, 0, none⟩ 1 1 [.int .i64 q0, .int .i64 q1, .string q2, .slice q3 q4 q5, .slice q6 q7 q8] rfl (cell_five_new _ _ _ _ _ _ _) (by intro y hy; simp at hy; rcases hy with rfl | rfl | rfl | rfl | rfl <;> rfl) (by unfold maxLen; omega) (by omega) (by rw [World.size_alloc]; show w.heap.size + 1 + 1 + 1 ≤ wC.heap.size + 1; omega)) ?_; rintro v' waC2 ⟨o1, o2, _, o3⟩; obtain ⟨kaC2, knC2, kcC2, rfl⟩ := row_slice o1; have HHC2 := hide (hatC.out.drew.pushX hS0 ((HVAL.out wC.drew hatC.out.drew.below)) o1 o2 o3); have zkC2 := HHC2.out.1.cell.2.2.2.2; have zfC2 := HHC2.out.1.frozen 4))
            all_goals
              have hauC := hide HHC2.out.2
              clear hatC y0 y1 y2 y3 y4 x3 x4 e0 f0 f1 f2 f3 f4 hlo o1 o2 o3 hownC2 z'
              have hnx : Hid (putAt s x (keys.zip list) (k + 1) = (true, acc ++ [(s, x)] ++ [(key, y)])) := by
                show putAt s x (keys.zip list) (k + 1) = _
                rw [hnext.out]
                simp [stepP, ltB, hlt, beq_bytes heq]
              go_wp2_with fail
              go_roundw
              case rel =>
                refine ⟨k + 1, .slice kaC knC kcC, .slice kaC2 knC2 kcC2, vs ++ [.int .i64 k', .int .i64 n', .string s', .slice ak' lk' ck', .slice al' ll' cl'] ++ [.int .i64 q0, .int .i64 q1, .string q2, .slice q3 q4 q5, .slice q6 q7 q8], HKL.out, by rw [hnx.out], by go_num, ?_⟩
                rw [hnx.out]
                simp only [List.map_append, List.map_cons, List.map_nil]
                rw [← HKS.out, ← HXS.out]
                have hh := hauC
                rw [HKC.out, HKSA.out, HXSB.out] at hh
                exact hh
              case measure => simp [intOf]; have := HKL.out; omega
      | true =>
        cases heq : (key.toList == s.toList) with
        | true =>
          have hnx : Hid (putAt s x (keys.zip list) (k + 1) = (true, acc)) := by
            show putAt s x (keys.zip list) (k + 1) = _
            rw [hnext.out]
            simp [stepP, beq_bytes heq]
          have HAT := hide hat.out
          clear hat
          go_wp2_with fail
          go_roundw
          case rel =>
            refine ⟨k + 1, .slice ka kn kc, .slice la ln lc, vs, HKL.out, by rw [hnx.out], by go_num, ?_⟩
            rw [hnx.out]
            show Hid (P2At d S _ _ W0 wr (acc.map Prod.fst) (acc.map Prod.snd) _ _ _)
            rw [← HKS.out, ← HXS.out]
            exact HAT
          case measure => simp [intOf]; have := HKL.out; omega
        | false =>
          go_upto_region 11 with fail
          go_cut [] (fun wc => ∃ a n c, Hid (P2At d S (w.heap.size + 1 + 1 + 1) (w.heap.size + 1 + 1 + 1) W0 wc (KS ++ [key]) XS (.slice a n c) (.slice la ln lc) vs))
          case first =>
            have hownC1 := hide (hat.out.drew.keys.alloc (.cells #[.string key] 9))
            have z' := fun o => ((hat.out.drew.out.alloc o).cell).2.2.2.1
            have hswC1 : w.heap.size + 1 + 1 + 1 < wr.heap.size := hat.out.out.lt
            go_wp2_with fail
            go_region_law ((refine step_append_run _ (by rfl) _ _ 23 (by rfl) _ _ (by rfl) (by rfl) (run_append_own_at (P := Tryz.prog) _ (w.heap.size + 1 + 1 + 1) 23 _ 9 j0 (.string ByteArray.empty) 1 16 Tryz.underlying23 hj.out hjz0 hjz1 hjz2 rfl (by decide) _ _ _ hownC1.out ⟨wr.heap.size, 0, none⟩ 1 1 [.string key] rfl (cell_one_new _ _ _) (by intro y hy; simp at hy; subst hy; rfl) (by unfold maxLen; omega) (by omega) (by rw [World.size_alloc]; show w.heap.size + 1 + 1 + 1 ≤ wr.heap.size + 1; omega)) ?_; rintro v' waC1 ⟨o1, o2, _, o3⟩; obtain ⟨kaC1, knC1, kcC1, rfl⟩ := row_slice o1; have HHC1 := hide (hat.out.drew.pushK hS0 o1 o2 o3); have zkC1 := HHC1.out.1.cell.2.2.2.1; have zfC1 := HHC1.out.1.frozen 3))
            all_goals
              go_wp2_with fail
              go_meet
              exact ⟨_, _, _, HHC1.out.2⟩
          case rest =>
          rename World => wC
          obtain ⟨kaC, knC, kcC, hatC⟩ := hcut
          clear hat y0 y1 y2 y3 y4 x3 x4 e0 f0 f1 f2 f3 f4 hlo
          obtain ⟨KC, hKC⟩ : ∃ l, l = KS ++ [key] := ⟨_, rfl⟩
          have hKlC : KC.length ≤ 2020 := by rw [hKC, List.length_append, List.length_singleton]; omega
          rw [← hKC] at hatC
          have HKC := hide hKC
          clear hKC
          obtain ⟨y0, y1, y2, y3, y4⟩ := hatC.out.out.cell
          obtain ⟨x3, x4, e0, f0, f1, f2, f3, f4⟩ := HC.out wC hatC.out.below
          have hlo := HLO.out wC hatC.out.below
          have hownC2 := hide (hatC.out.drew.row.1.alloc (.cells #[.int .i64 q0, .int .i64 q1, .string q2, .slice q3 q4 q5, .slice q6 q7 q8] 26))
          have z' := fun o => ((hatC.out.drew.out.alloc o).cell).2.2.2.2
          have hswC2 : w.heap.size + 1 + 1 + 1 < wC.heap.size := hatC.out.out.lt
          go_wp2_with fail
          go_region_law ((refine step_append_run _ (by rfl) _ _ 24 (by rfl) _ _ (by rfl) (by rfl) (run_append_own_at (P := Tryz.prog) _ (w.heap.size + 1 + 1 + 1) 24 _ 26 i0 zeroVal 5 80 Tryz.underlying24 hi.out hiz0 hiz1 hiz2 rfl (by decide) _ _ _ hownC2.out ⟨wC.heap.size, 0, none⟩ 1 1 [.int .i64 q0, .int .i64 q1, .string q2, .slice q3 q4 q5, .slice q6 q7 q8] rfl (cell_five_new _ _ _ _ _ _ _) (by intro y hy; simp at hy; rcases hy with rfl | rfl | rfl | rfl | rfl <;> rfl) (by unfold maxLen; omega) (by omega) (by rw [World.size_alloc]; show w.heap.size + 1 + 1 + 1 ≤ wC.heap.size + 1; omega)) ?_; rintro v' waC2 ⟨o1, o2, _, o3⟩; obtain ⟨kaC2, knC2, kcC2, rfl⟩ := row_slice o1; have HHC2 := hide (hatC.out.drew.pushX hS0 ((HVAL.out wC.drew hatC.out.drew.below)) o1 o2 o3); have zkC2 := HHC2.out.1.cell.2.2.2.2; have zfC2 := HHC2.out.1.frozen 4))
          all_goals
            have hauC := hide HHC2.out.2
            clear hatC y0 y1 y2 y3 y4 x3 x4 e0 f0 f1 f2 f3 f4 hlo o1 o2 o3 hownC2 z'
            have hnx : Hid (putAt s x (keys.zip list) (k + 1) = (true, acc ++ [(key, y)])) := by
              show putAt s x (keys.zip list) (k + 1) = _
              rw [hnext.out]
              simp [stepP, ltB, beq_bytes heq]
            go_wp2_with fail
            go_roundw
            case rel =>
              refine ⟨k + 1, .slice kaC knC kcC, .slice kaC2 knC2 kcC2, vs ++ [.int .i64 q0, .int .i64 q1, .string q2, .slice q3 q4 q5, .slice q6 q7 q8], HKL.out, by rw [hnx.out], by go_num, ?_⟩
              rw [hnx.out]
              simp only [List.map_append, List.map_cons, List.map_nil]
              rw [← HKS.out, ← HXS.out]
              have hh := hauC
              rw [HKC.out] at hh
              exact hh
            case measure => simp [intOf]; have := HKL.out; omega
    · obtain rfl : k = keys.length := by omega
      have hfull : putAt s x (keys.zip list) keys.length = (keys.zip list).foldl (stepP s x) (false, []) := by
        unfold putAt
        rw [List.take_of_length_le (by rw [List.length_zip]; omega)]
      have hacc := hide (putAt_len (s := s) (x := x) (ps := keys.zip list) keys.length)
      have hall : Hid (∀ p ∈ (putAt s x (keys.zip list) keys.length).2, p.1.size < 281474976710656) := by
        rw [hfull]
        exact foldP_all hsz (keys.zip list) (false, []) (fun p hp => by cases hp) (fun p hp => hkw.out.2.1 _ (zip_key hp))
      have HFULL := hide hfull.symm
      clear hfull
      have hk60 : keys.length ≤ 1000 := by have := HK.out; omega
      have kx0 := (k0.of_block (hat.out.below.block _ (by omega))).cell
      obtain ⟨x0, x1, x2, x3, x4⟩ := kx0
      generalize hst' : putAt s x (keys.zip list) keys.length = st at *
      obtain ⟨dn, acc⟩ := st
      clear hst'
      have hacc' : acc.length ≤ 2 * keys.length := hacc.out
      have hall' : ∀ p ∈ acc, p.1.size < 281474976710656 := hall.out
      obtain ⟨KS, hKS⟩ : ∃ l, l = acc.map Prod.fst := ⟨_, rfl⟩
      obtain ⟨XS, hXS⟩ : ∃ l, l = acc.map Prod.snd := ⟨_, rfl⟩
      have hKl : KS.length ≤ 2000 := by rw [hKS, List.length_map]; omega
      have hXl : XS.length ≤ 2000 := by rw [hXS, List.length_map]; omega
      replace hat : Hid (P2At d S (w.heap.size + 1 + 1 + 1) (w.heap.size + 1 + 1 + 1) W0 wr KS XS (.slice ka kn kc) (.slice la ln lc) vs) := by rw [hKS, hXS]; exact hat
      have HKS := hide hKS
      have HXS := hide hXS
      clear hKS hXS hacc hall hkw hlw
      cases dn with
      | true =>
        have HEND := hide (endP_true (s := s) (x := x) acc)
        have HSZ := hide hall'
        have hend := hide (P2At.done (w := w) (r := w.heap.size + 1 + 1) (ps := acc) hat.out HKS.out HXS.out hS (by omega) (by omega) hW0 (by omega) HSZ.out)
        have kz := k2.of_block (hat.out.below.block _ (by omega))
        obtain ⟨z0, z1, z2, z3, z4⟩ := kz.cell
        have zf := kz.frozen
        clear hat kz
        go_wp2_with fail
        rw [HFULL.out, HEND.out]
        refine bodyPost_ret (v := .agg #[.int .i64 6, .int .i64 0, .string { data := #[] }, .slice ka kn kc, .slice la ln lc]) (by simp [results, Tryz.results54, go_sem, z0, z1, z2, z3, z4]) rfl ⟨_, rfl, hend.out _ rfl⟩
      | false =>
        have HEND := hide (endP_false (s := s) (x := x) acc)
        have HSZ : Hid (∀ p ∈ acc ++ [(s, x)], p.1.size < 281474976710656) := fun p hp => by
          rcases List.mem_append.1 hp with h | h
          · exact hall' p h
          · rw [List.mem_singleton.1 h]; exact hsz
        have HOKE := hide (hat.out.keys.alloc (.cells #[.string s] 9))
        have hswE : w.heap.size + 1 + 1 + 1 ≤ wr.heap.size := by have := hat.out.out.lt; omega
        go_wp2_with (at_builtin; refine wpList_append_own_at _ rfl _ _ 23 rfl (w.heap.size + 1 + 1 + 1) 9 j0 (.string ByteArray.empty) 1 16 Tryz.underlying23 hj.out hjz0 hjz1 hjz2 rfl (by decide) _ _ _ rfl HOKE.out ⟨wr.heap.size, 0, none⟩ 1 1 [.string s] rfl rfl (cell_one_new _ _ _) ?c2 ?c3 ?c4 ?c5 ?_)
        case c2 => first | rfl | (intro y hy; simp at hy; subst hy; rfl)
        case c3 => first | omega | (unfold maxLen; omega)
        case c4 => omega
        case c5 => first | omega | (simp; omega)
        intro kvE waE o1 o2 _ o3
        have HHE := hide (hat.out.pushK hS0 o1 o2 (by rw [World.size_alloc]; exact o3))
        obtain ⟨kaE, knE, kcE, rfl⟩ := row_slice o1
        have zkE := HHE.out.1.cell.2.2.2.1
        have zfE := HHE.out.1.frozen 3
        clear o1 o2 o3 HOKE hat y0 y1 y2 y3 y4
        go_upto_region 15 with fail
        obtain ⟨wbE, hwE⟩ : ∃ wb, wb = waE.setCell ⟨w.heap.size + 1 + 1 + 1, 3, none⟩ (.slice kaE knE kcE) := ⟨_, rfl⟩
        obtain ⟨KSE, hKSE⟩ : ∃ l, l = KS ++ [s] := ⟨_, rfl⟩
        have hlKSE : KSE.length = KS.length + 1 := by rw [hKSE]; simp
        have hleKSE : KSE.length ≤ 2010 := by omega
        have hatE := hide HHE.out.2
        rw [← hwE, ← hKSE] at hatE
        rw [← hwE]
        have HKSE := hide hKSE
        clear hwE HHE zkE zfE hKSE hlKSE
        obtain ⟨y0, y1, y2, y3, y4⟩ := hatE.out.out.cell
        have HOXF := hide (hatE.out.row.1.alloc (.cells #[.int .i64 k', .int .i64 n', .string s', .slice ak' lk' ck', .slice al' ll' cl'] 26))
        have hswF : w.heap.size + 1 + 1 + 1 ≤ wbE.heap.size := by have := hatE.out.out.lt; omega
        have hbxF := hatE.out.below
        obtain ⟨p0, p1, p2, p3, p4⟩ := (k1.of_block (hbxF.block _ (by omega))).cell
        go_wp2_with (at_builtin; refine wpList_append_own_at _ rfl _ _ 24 rfl (w.heap.size + 1 + 1 + 1) 26 i0 zeroVal 5 80 Tryz.underlying24 hi.out hiz0 hiz1 hiz2 rfl (by decide) _ _ _ rfl HOXF.out ⟨wbE.heap.size, 0, none⟩ 1 1 [.int .i64 k', .int .i64 n', .string s', .slice ak' lk' ck', .slice al' ll' cl'] rfl rfl (cell_five_new _ _ _ _ _ _ _) ?c2 ?c3 ?c4 ?c5 ?_)
        case c2 => first | (intro y hy; simp at hy; rcases hy with rfl | rfl | rfl | rfl | rfl <;> rfl) | exact ⟨rfl, rfl, rfl, rfl, rfl⟩ | simp [Value.oneCell']
        case c3 => first | omega | (unfold maxLen; omega)
        case c4 => omega
        case c5 => first | omega | (simp; omega)
        intro lvF waF o1 o2 _ o3
        have HHF := hide (hatE.out.pushX hS0 (hxw.out.same (fun b hb' => hbxF.block b (hS0 b hb'))) o1 o2 (by rw [World.size_alloc]; exact o3))
        obtain ⟨kaF, knF, kcF, rfl⟩ := row_slice o1
        have zkF := HHF.out.1.cell.2.2.2.2
        have zfF := HHF.out.1.frozen 4
        clear o1 o2 o3 HOXF hatE hbxF p0 p1 p2 p3 p4 y0 y1 y2 y3 y4
        go_upto_region 16 with fail
        obtain ⟨wbF, hwF⟩ : ∃ wb, wb = waF.setCell ⟨w.heap.size + 1 + 1 + 1, 4, none⟩ (.slice kaF knF kcF) := ⟨_, rfl⟩
        obtain ⟨XSF, hXSF⟩ : ∃ l, l = XS ++ [x] := ⟨_, rfl⟩
        have hlXSF : XSF.length = XS.length + 1 := by rw [hXSF]; simp
        have hleXSF : XSF.length ≤ 2010 := by omega
        have hatF := hide HHF.out.2
        rw [← hwF, ← hXSF] at hatF
        rw [← hwF]
        have HXSF := hide hXSF
        clear hwF HHF zkF zfF hXSF hlXSF
        obtain ⟨y0, y1, y2, y3, y4⟩ := hatF.out.out.cell
        have hend := hide (P2At.done (w := w) (r := w.heap.size + 1 + 1) (ps := acc ++ [(s, x)]) hatF.out (by rw [HKSE.out, HKS.out, List.map_append]; rfl) (by rw [HXSF.out, HXS.out, List.map_append]; rfl) hS (by omega) (by omega) hW0 (by rw [List.length_append, List.length_singleton]; omega) HSZ.out)
        have kz := k2.of_block (hatF.out.below.block _ (by omega))
        obtain ⟨z0, z1, z2, z3, z4⟩ := kz.cell
        have zf := kz.frozen
        clear hatF kz
        go_wp2_with fail
        rw [HFULL.out, HEND.out]
        refine bodyPost_ret (v := .agg #[.int .i64 6, .int .i64 0, .string { data := #[] }, .slice kaE knE kcE, .slice kaF knF kcF]) (by simp [results, Tryz.results54, go_sem, z0, z1, z2, z3, z4]) rfl ⟨_, rfl, hend.out _ rfl⟩
theorem l2Put_any (d : Nat) (S : Nat → Prop) (t : Tr (d + 1)) (v : Value) (s : ByteArray) (x : Tr d) (xv : Value) (w : World) (hv : ValAt S w (d + 1) t v) (hx : ValAt S w d x xv) (hS : Within S w) (hkx : (Nd.keys t).length = (Nd.list t).length) (hl60 : (Nd.list t).length ≤ 60) (hsz : s.size < 281474976710656) :
    Calls Tryz.prog 54 #[v, .string s, xv] w fun e w' => ∃ u, e = .returned u ∧ ValAt (fun b => S b ∨ Fresh w w' b) w' (d + 1) (mapT d (endP s x (((Nd.keys t).zip (Nd.list t)).foldl (stepP s x) (false, [])))) u ∧ Below w.heap.size w w' :=
  l2Put_wide d S t v s x xv w hv hx hS hkx (Nat.le_trans hl60 (by omega)) hsz
end Go.Proofs.YtohdpgclokgohaaGreatDoor
