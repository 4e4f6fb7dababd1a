/- Texts of the proof, put together by program: WVTo, WPutQ, WPutE, WSetA. -/
import Derived.Test.YtgjahnkldobphaaGreatDoorP17
import Derived.Test.YtgjahnkldobphaaGreatDoorP7
/- A row of the model's that is being made out of trees that lie elsewhere; what is told, in the result's own cells. -/
namespace Go.Proofs.YtgjahnkldobphaaGreatDoor
open Go.RowKit Go.Deep

theorem nodes_wt : ∀ (d : Nat) (t : Tr d), nodes d t ≤ wtT d t
  | 0, t => Empty.elim t
  | d + 1, t => by
    have h : ∀ xs : List (Tr d), (xs.map (nodes d)).sum ≤ (xs.map (wtT d)).sum := by
      intro xs
      induction xs with
      | nil => exact Nat.le_refl _
      | cons x r ih =>
        have := nodes_wt d x
        simp only [List.map_cons, List.sum_cons]
        omega
    have := h (Nd.list t)
    rw [nodes, wtT]
    omega
theorem nodes_ok {d : Nat} {t : Tr d} (h : okT d t = true) : nodes d t ≤ 300 := Nat.le_trans (nodes_wt d t) (wtT_ok h)
theorem sum_le_of {α : Type} {f : α → Nat} {c : Nat} : ∀ {xs : List α}, (∀ x ∈ xs, f x ≤ c) → (xs.map f).sum ≤ c * xs.length
  | [], _ => by simp
  | x :: r, h => by
    have h1 := h x (by simp)
    have h2 := sum_le_of (xs := r) (fun y hy => h y (by simp [hy]))
    simp only [List.map_cons, List.sum_cons, List.length_cons]
    rw [Nat.mul_succ]
    omega
/-- A row of the model's that owns its cells; its trees lie in blocks of S. -/
def VTo {d : Nat} (S : Nat → Prop) (N : Nat) (w : World) (lv : Value) (xs : List (Tr d)) (vs : List Value) : Prop :=
  w.ownsRow N 26 5 lv xs.length vs ∧ ∀ (j : Nat) (x : Tr d), xs[j]? = some x → ∃ c0 c1 c2 c3 c4, vs[j * 5]? = some c0 ∧ vs[j * 5 + 1]? = some c1 ∧ vs[j * 5 + 2]? = some c2 ∧ vs[j * 5 + 3]? = some c3 ∧ vs[j * 5 + 4]? = some c4 ∧ ValAt S w d x (.agg #[c0, c1, c2, c3, c4])

theorem VTo.grow {d N : Nat} {S : Nat → Prop} {wr w2 : World} {lv lv' : Value} {xs : List (Tr d)} {vs : List Value} {x : Tr d} {v0 v1 v2 v3 v4 : Value} (h : VTo S N wr lv xs vs) (hs : Same S wr w2) (hx : ValAt S wr d x (.agg #[v0, v1, v2, v3, v4])) (hown : w2.ownsRow N 26 5 lv' (xs.length + 1) (vs ++ [v0, v1, v2, v3, v4])) : VTo S N w2 lv' (xs ++ [x]) (vs ++ [v0, v1, v2, v3, v4]) := by
  obtain ⟨h1, h2⟩ := h
  have hlen : vs.length = xs.length * 5 := h1.1
  refine ⟨by rw [List.length_append]; exact hown, fun j y hy => ?_⟩
  by_cases e : j < xs.length
  · rw [List.getElem?_append_left e] at hy
    obtain ⟨c0, c1, c2, c3, c4, e0, e1, e2, e3, e4, hv⟩ := h2 j y hy
    refine ⟨c0, c1, c2, c3, c4, ?_, ?_, ?_, ?_, ?_, hv.same hs⟩
    · rw [List.getElem?_append_left (by omega)]; exact e0
    · rw [List.getElem?_append_left (by omega)]; exact e1
    · rw [List.getElem?_append_left (by omega)]; exact e2
    · rw [List.getElem?_append_left (by omega)]; exact e3
    · rw [List.getElem?_append_left (by omega)]; exact e4
  · have hj : j = xs.length := by
      have := (List.getElem?_eq_some_iff.1 hy).1
      rw [List.length_append, List.length_singleton] at this
      omega
    subst hj
    rw [List.getElem?_append_right (Nat.le_refl _), Nat.sub_self] at hy
    cases hy
    refine ⟨v0, v1, v2, v3, v4, ?_, ?_, ?_, ?_, ?_, hx.same hs⟩
    · rw [List.getElem?_append_right (by omega), hlen]; simp
    · rw [List.getElem?_append_right (by omega), hlen]; simp
    · rw [List.getElem?_append_right (by omega), hlen]; simp
    · rw [List.getElem?_append_right (by omega), hlen]; simp
    · rw [List.getElem?_append_right (by omega), hlen]; simp

theorem VTo.moved {d N : Nat} {S : Nat → Prop} {w w' : World} {lv : Value} {xs : List (Tr d)} {vs : List Value} (h : VTo S N w lv xs vs) (hs : Same S w w') (ho : ∀ g, lv.ownBlock = some g → w'.heap[g]? = w.heap[g]?) : VTo S N w' lv xs vs := by
  obtain ⟨h1, h2⟩ := h
  refine ⟨⟨h1.1, ?_⟩, fun j x hx => ?_⟩
  · rcases h1.2 with h | ⟨g, cap, cur, hv, hg, hh, hrest⟩
    · exact Or.inl h
    · exact Or.inr ⟨g, cap, cur, hv, hg, (ho g (by rw [hv]; rfl)).trans hh, hrest⟩
  · obtain ⟨c0, c1, c2, c3, c4, e0, e1, e2, e3, e4, hv⟩ := h2 j x hx
    exact ⟨c0, c1, c2, c3, c4, e0, e1, e2, e3, e4, hv.same hs⟩

/-- The row, where it lies. -/
theorem VTo.at {d N : Nat} {S : Nat → Prop} {w : World} {lv : Value} {xs : List (Tr d)} {vs : List Value} (h : VTo S N w lv xs vs) (hl : xs.length < 3518437208883) : RowAt (fun b => S b ∨ (N ≤ b ∧ b < w.heap.size)) w (ValAt (fun b => S b ∨ (N ≤ b ∧ b < w.heap.size)) w d) lv xs := by
  obtain ⟨h1, h2⟩ := h
  refine ⟨hl, ?_⟩
  rcases h1.2 with ⟨rfl, h0⟩ | ⟨g, cap, cur, rfl, hg, hh, hnc, _, hcs, htake⟩
  · exact ⟨none, 0, by rw [h0], Or.inl (List.eq_nil_of_length_eq_zero h0)⟩
  · refine ⟨some ⟨g, 0, none⟩, cap, rfl, Or.inr ⟨g, 0, Or.inr ⟨hg, (Array.getElem?_eq_some_iff.1 hh).1⟩, rfl, fun i x hx => ?_⟩⟩
    obtain ⟨c0, c1, c2, c3, c4, e0, e1, e2, e3, e4, hv⟩ := h2 i x hx
    have hi := (List.getElem?_eq_some_iff.1 hx).1
    have hc : ∀ j c, j < xs.length * 5 → vs[j]? = some c → w.cell? ⟨g, 0 + j, none⟩ = some c := fun j c hj hc => by
      rw [Nat.zero_add]
      exact (h1.cellAt j hj).trans hc
    refine ⟨c0, c1, c2, c3, c4, hc _ _ (by omega) e0, hc _ _ (by omega) e1, hc _ _ (by omega) e2, hc _ _ (by omega) e3, hc _ _ (by omega) e4, hv.mono (fun b hb => Or.inl hb)⟩

/-- Another tree at a place. -/
theorem VTo.put {d N g n cap k : Nat} {S : Nat → Prop} {w : World} {xs : List (Tr d)} {vs : List Value} {x : Tr d} {v0 v1 v2 v3 v4 : Value} (h : VTo S N w (.slice (some ⟨g, 0, none⟩) n cap) xs vs) (hn : n = xs.length) (hk : k < xs.length) (hx : ValAt S w d x (.agg #[v0, v1, v2, v3, v4])) (hS : ∀ b, S b → b < N) :
    (∃ vs', VTo S N (set5 w g (k * 5) v0 v1 v2 v3 v4) (.slice (some ⟨g, 0, none⟩) n cap) (xs.set k x) vs') ∧ Below N w (set5 w g (k * 5) v0 v1 v2 v3 v4) := by
  subst hn
  obtain ⟨h1, h2⟩ := h
  have hlen : vs.length = xs.length * 5 := h1.1
  have hgN := (h1.lt g rfl).1
  have hB : Below N w (set5 w g (k * 5) v0 v1 v2 v3 v4) := below_set5 (Below.refl _ _) hgN _ _ _ _ _ _
  have hsame : Same S w (set5 w g (k * 5) v0 v1 v2 v3 v4) := fun b hb => hB.block b (hS b hb)
  have ho := (((((h1.stored (k * 5) v0).1.stored (k * 5 + 1) v1).1.stored (k * 5 + 2) v2).1.stored (k * 5 + 3) v3).1.stored (k * 5 + 4) v4).1
  refine ⟨⟨_, by rw [List.length_set]; exact ho, fun j y hy => ?_⟩, hB⟩
  by_cases e : k = j
  · subst e
    rw [List.getElem?_set_self hk] at hy
    cases hy
    refine ⟨v0, v1, v2, v3, v4, ?_, ?_, ?_, ?_, ?_, hx.same hsame⟩
    all_goals simp [List.getElem?_set, hlen]
    all_goals omega
  · rw [List.getElem?_set_ne e] at hy
    obtain ⟨c0, c1, c2, c3, c4, e0, e1, e2, e3, e4, hv⟩ := h2 j y hy
    refine ⟨c0, c1, c2, c3, c4, ?_, ?_, ?_, ?_, ?_, hv.same hsame⟩
    · rw [List.getElem?_set_ne (by omega), List.getElem?_set_ne (by omega), List.getElem?_set_ne (by omega), List.getElem?_set_ne (by omega), List.getElem?_set_ne (by omega)]; exact e0
    · rw [List.getElem?_set_ne (by omega), List.getElem?_set_ne (by omega), List.getElem?_set_ne (by omega), List.getElem?_set_ne (by omega), List.getElem?_set_ne (by omega)]; exact e1
    · rw [List.getElem?_set_ne (by omega), List.getElem?_set_ne (by omega), List.getElem?_set_ne (by omega), List.getElem?_set_ne (by omega), List.getElem?_set_ne (by omega)]; exact e2
    · rw [List.getElem?_set_ne (by omega), List.getElem?_set_ne (by omega), List.getElem?_set_ne (by omega), List.getElem?_set_ne (by omega), List.getElem?_set_ne (by omega)]; exact e3
    · rw [List.getElem?_set_ne (by omega), List.getElem?_set_ne (by omega), List.getElem?_set_ne (by omega), List.getElem?_set_ne (by omega), List.getElem?_set_ne (by omega)]; exact e4
/-- What was told is put into the result's own cells. -/
theorem tell_endA {d : Nat} {t : Tr (d + 1)} {w w1 w2 : World} {v0 v1 : Int} {v2 : ByteArray} {v3 v6 : Option Addr} {v4 v5 v7 v8 rb : Nat} (hv : ValAt (Fresh w1 w2) w2 (d + 1) t (.agg #[.int .i64 v0, .int .i64 v1, .string v2, .slice v3 v4 v5, .slice v6 v7 v8])) (hb : Below w.heap.size w w2)
    (hr : w.heap.size ≤ rb) (hr1 : rb < w1.heap.size) :
    ∀ wF, wF = set5 w2 rb 0 (.int .i64 v0) (.int .i64 v1) (.string v2) (.slice v3 v4 v5) (.slice v6 v7 v8) → ValAt (Fresh w wF) wF (d + 1) t (.agg #[.int .i64 v0, .int .i64 v1, .string v2, .slice v3 v4 v5, .slice v6 v7 v8]) ∧ Below w.heap.size w wF := by
  intro wF hF
  have hzF : wF.heap.size = w2.heap.size := by rw [hF, set5_size]
  refine ⟨ValAt.moved (fun b hb => ?_) (fun b hb => ⟨by have := hb.1; omega, by have := hb.2; omega⟩) (d + 1) t _ hv, ?_⟩
  · rw [hF, set5_block _ _ _ _ _ _ _ _ _ (by have := hb.1; omega)]
  · rw [hF]
    exact below_set5 hb hr _ _ _ _ _ _

end Go.Proofs.YtgjahnkldobphaaGreatDoor

/- What stands while l2Put of the model makes keys and trees. -/
namespace Go.Proofs.YtgjahnkldobphaaGreatDoor
open Go.RowKit Go.Deep

/-- What stands while keys and trees are put into a variable's lists. -/
structure P2At (d : Nat) (S : Nat → Prop) (N ob : Nat) (W wr : World) (ks : List ByteArray) (xs : List (Tr d)) (kv lv : Value) (vs : List Value) : Prop where
  out : Blk5 wr ob 26 (.int .i64 6) (.int .i64 0) (.string { data := #[] }) kv lv
  keys : wr.ownsRow N 9 1 kv ks.length (ks.map Value.string)
  row : VTo S N wr lv xs vs
  below : Below N W wr
  offk : kv.ownBlock ≠ some ob
  offl : lv.ownBlock ≠ some ob
  apart : ∀ g, kv.ownBlock = some g → lv.ownBlock ≠ some g
  ge : N ≤ ob

theorem ownsRow_block {N e size n : Nat} {w w' : World} {v : Value} {vs : List Value} (h : w.ownsRow N e size v n vs) (hb : ∀ g, v.ownBlock = some g → w'.heap[g]? = w.heap[g]?) : w'.ownsRow N e size v n vs := by
  refine ⟨h.1, ?_⟩
  rcases h.2 with h | ⟨g, cap, cur, hv, hg, hh, hrest⟩
  · exact Or.inl h
  · exact Or.inr ⟨g, cap, cur, hv, hg, (hb g (by rw [hv]; rfl)).trans hh, hrest⟩

theorem P2At.drew {d N ob : Nat} {S : Nat → Prop} {W wr : World} {ks : List ByteArray} {xs : List (Tr d)} {kv lv : Value} {vs : List Value} (h : P2At d S N ob W wr ks xs kv lv vs) : P2At d S N ob W wr.drew ks xs kv lv vs :=
  ⟨h.out, h.keys, h.row.moved (fun _ _ => rfl) (fun _ _ => rfl), ⟨h.below.os, h.below.tape, h.below.output, h.below.size, h.below.block⟩, h.offk, h.offl, h.apart, h.ge⟩

/-- One key more. -/
theorem P2At.pushK {d N ob : Nat} {S : Nat → Prop} {W wr w2 : World} {ks : List ByteArray} {xs : List (Tr d)} {kv lv kv' : Value} {vs : List Value} {s : ByteArray} {o : Obj} (h : P2At d S N ob W wr ks xs kv lv vs) (hS : ∀ b, S b → b < N)
    (hown : w2.ownsRow N 9 1 kv' (ks.length + 1) (ks.map Value.string ++ [.string s])) (hg : (wr.alloc o).grownBy w2 kv.ownBlock) (hw : kv'.ownBlock = kv.ownBlock ∨ kv'.ownBlock = some (wr.alloc o).heap.size) :
    Blk5 w2 ob 26 (.int .i64 6) (.int .i64 0) (.string { data := #[] }) kv lv ∧ P2At d S N ob W (w2.setCell ⟨ob, 3, none⟩ kv') (ks ++ [s]) xs kv' lv vs := by
  have hol := h.out.lt
  have hge := h.ge
  have hs2 := hg.size
  have hz : (wr.alloc o).heap.size = wr.heap.size + 1 := by simp
  rw [hz] at hw
  have hblk : ∀ b, b < wr.heap.size → some b ≠ kv.ownBlock → w2.heap[b]? = wr.heap[b]? := fun b hb1 hb2 => (hg.block b (by omega) hb2).trans (Below.heap_alloc _ _ _ hb1)
  have yb : Blk5 w2 ob 26 (.int .i64 6) (.int .i64 0) (.string { data := #[] }) kv lv := h.out.of_block (hblk ob hol (fun e => h.offk e.symm))
  have hoff : kv'.ownBlock ≠ some ob := by
    rcases hw with e | e
    · rw [e]; exact h.offk
    · rw [e]; intro e2; cases e2; omega
  have hlrow : ∀ g, lv.ownBlock = some g → w2.heap[g]? = wr.heap[g]? := fun g hg' => hblk g (h.row.1.lt g hg').2 (fun e => h.apart g e.symm hg')
  have hNk : ∀ g, kv.ownBlock = some g → N ≤ g := fun g hg' => (h.keys.lt g hg').1
  refine ⟨yb, yb.set3 _, ?_, ?_, ?_, hoff, h.offl, ?_, hge⟩
  · rw [List.length_append, List.map_append]
    exact ownsRow_block hown (fun g hg' => Below.heap_setCell _ _ _ _ (fun e => hoff (by rw [hg', e])))
  · have hNw : N ≤ wr.heap.size := by omega
    refine h.row.moved (fun b hb => ?_) (fun g hg' => ?_)
    · exact (Below.heap_setCell _ _ _ _ (by have := hS b hb; show b ≠ ob; omega)).trans (hblk b (by have := hS b hb; omega) (fun e => by have := hNk b e.symm; have := hS b hb; omega))
    · exact (Below.heap_setCell _ _ _ _ (fun e => h.offl (by rw [hg', e]))).trans (hlrow g hg')
  · have hb := h.below
    refine ⟨hg.os.trans hb.os, hg.tape.trans hb.tape, hg.output.trans hb.output, ?_, fun b hbN => ?_⟩
    · have := hb.size
      simp [World.setCell]
      omega
    · exact (Below.heap_setCell _ _ _ _ (by show b ≠ ob; omega)).trans ((hblk b (by omega) (fun e => by have := hNk b e.symm; omega)).trans (hb.block b hbN))
  · intro g hg' hl
    rcases hw with e | e
    · exact h.apart g (by rw [← e]; exact hg') hl
    · rw [hg'] at e
      cases e
      have := (h.row.1.lt _ hl).2
      omega

/-- One tree more. -/
theorem P2At.pushX {d N ob : Nat} {S : Nat → Prop} {W wr w2 : World} {ks : List ByteArray} {xs : List (Tr d)} {kv lv lv' : Value} {vs : List Value} {x : Tr d} {v0 v1 v2 v3 v4 : Value} {o : Obj} (h : P2At d S N ob W wr ks xs kv lv vs) (hS : ∀ b, S b → b < N) (hx : ValAt S wr d x (.agg #[v0, v1, v2, v3, v4]))
    (hown : w2.ownsRow N 26 5 lv' (xs.length + 1) (vs ++ [v0, v1, v2, v3, v4])) (hg : (wr.alloc o).grownBy w2 lv.ownBlock) (hw : lv'.ownBlock = lv.ownBlock ∨ lv'.ownBlock = some (wr.alloc o).heap.size) :
    Blk5 w2 ob 26 (.int .i64 6) (.int .i64 0) (.string { data := #[] }) kv lv ∧ P2At d S N ob W (w2.setCell ⟨ob, 4, none⟩ lv') ks (xs ++ [x]) kv lv' (vs ++ [v0, v1, v2, v3, v4]) := by
  have hol := h.out.lt
  have hge := h.ge
  have hs2 := hg.size
  have hz : (wr.alloc o).heap.size = wr.heap.size + 1 := by simp
  rw [hz] at hw
  have hblk : ∀ b, b < wr.heap.size → some b ≠ lv.ownBlock → w2.heap[b]? = wr.heap[b]? := fun b hb1 hb2 => (hg.block b (by omega) hb2).trans (Below.heap_alloc _ _ _ hb1)
  have yb : Blk5 w2 ob 26 (.int .i64 6) (.int .i64 0) (.string { data := #[] }) kv lv := h.out.of_block (hblk ob hol (fun e => h.offl e.symm))
  have hoff : lv'.ownBlock ≠ some ob := by
    rcases hw with e | e
    · rw [e]; exact h.offl
    · rw [e]; intro e2; cases e2; omega
  have hkrow : ∀ g, kv.ownBlock = some g → w2.heap[g]? = wr.heap[g]? := fun g hg' => hblk g (h.keys.lt g hg').2 (fun e => h.apart g hg' e.symm)
  have hNl : ∀ g, lv.ownBlock = some g → N ≤ g := fun g hg' => (h.row.1.lt g hg').1
  have hsame : Same S wr w2 := fun b hb => hblk b (by have := hS b hb; omega) (fun e => by have := hNl b e.symm; have := hS b hb; omega)
  refine ⟨yb, yb.set4 _, ?_, ?_, ?_, h.offk, hoff, ?_, hge⟩
  · exact ownsRow_block h.keys (fun g hg' => (Below.heap_setCell _ _ _ _ (fun e => h.offk (by rw [hg', e]))).trans (hkrow g hg'))
  · exact (h.row.grow hsame hx hown).moved (fun b hb => Below.heap_setCell _ _ _ _ (by have := hS b hb; show b ≠ ob; omega)) (fun g hg' => Below.heap_setCell _ _ _ _ (fun e => hoff (by rw [hg', e])))
  · have hb := h.below
    refine ⟨hg.os.trans hb.os, hg.tape.trans hb.tape, hg.output.trans hb.output, ?_, fun b hbN => ?_⟩
    · have := hb.size
      simp [World.setCell]
      omega
    · exact (Below.heap_setCell _ _ _ _ (by show b ≠ ob; omega)).trans ((hblk b (by omega) (fun e => by have := hNl b e.symm; omega)).trans (hb.block b hbN))
  · intro g hg' hl
    rcases hw with e | e
    · exact h.apart g hg' (by rw [← e]; exact hl)
    · rw [hl] at e
      cases e
      have := (h.keys.lt _ hg').2
      omega
end Go.Proofs.YtgjahnkldobphaaGreatDoor

/- What stands when l2Put of the model is through. -/
namespace Go.Proofs.YtgjahnkldobphaaGreatDoor
open Go.RowKit Go.Deep

/-- What is put together has what there was, and x at s. -/
theorem foldP_all {α : Type} {s : ByteArray} {x : α} {Q : ByteArray × α → Prop} (hx : Q (s, x)) : ∀ (ps : List (ByteArray × α)) (st : Bool × List (ByteArray × α)), (∀ p ∈ st.2, Q p) → (∀ p ∈ ps, Q p) → ∀ p ∈ (ps.foldl (stepP s x) st).2, Q p
  | [], _, h, _ => h
  | q :: r, st, h, hp => by
    rw [List.foldl_cons]
    refine foldP_all hx r _ ?_ (fun p h' => hp p (List.mem_cons_of_mem _ h'))
    intro p hm
    unfold stepP at hm
    rcases List.mem_append.1 hm with hm | hm
    · split at hm
      · rcases List.mem_append.1 hm with hm | hm
        · exact h p hm
        · rw [List.mem_singleton.1 hm]; exact hx
      · exact h p hm
    · split at hm
      · cases hm
      · rw [List.mem_singleton.1 hm]; exact hp q (List.mem_cons_self ..)
theorem endP_all {α : Type} {s : ByteArray} {x : α} {Q : ByteArray × α → Prop} (hx : Q (s, x)) {st : Bool × List (ByteArray × α)} (h : ∀ p ∈ st.2, Q p) : ∀ p ∈ endP s x st, Q p := by
  intro p hp
  unfold endP at hp
  split at hp
  · exact h p hp
  · rcases List.mem_append.1 hp with hm | hm
    · exact h p hm
    · rw [List.mem_singleton.1 hm]; exact hx
theorem endP_true {α : Type} {s : ByteArray} {x : α} (acc : List (ByteArray × α)) : endP s x (true, acc) = acc := rfl
theorem endP_false {α : Type} {s : ByteArray} {x : α} (acc : List (ByteArray × α)) : endP s x (false, acc) = acc ++ [(s, x)] := rfl

/-- A row of texts of its own lies in memory. -/
theorem StrsAt.of_own {N : Nat} {S : Nat → Prop} {w : World} {kv : Value} {ks : List ByteArray} (h : w.ownsRow N 9 1 kv ks.length (ks.map Value.string)) (hl : ks.length < 17592186044416) (hs : ∀ s ∈ ks, s.size < 281474976710656) (hS : ∀ b, N ≤ b → b < w.heap.size → S b) : StrsAt S w kv ks := by
  refine ⟨hl, hs, ?_⟩
  rcases h.2 with ⟨rfl, h0⟩ | ⟨g, cap, cur, rfl, hg, hh, _⟩
  · exact ⟨none, 0, by rw [h0], Or.inl (List.eq_nil_of_length_eq_zero h0)⟩
  · refine ⟨some ⟨g, 0, none⟩, cap, rfl, Or.inr ⟨g, 0, hS g hg (Array.getElem?_eq_some_iff.1 hh).1, rfl, fun i s hi => ?_⟩⟩
    have hv : (ks.map Value.string)[i]? = some (.string s) := by rw [List.getElem?_map, hi]; rfl
    have hc := h.cells (g := g) rfl i _ hv
    have hadd : (⟨g, 0, none⟩ : Addr).add i = ⟨g, 0 + i, none⟩ := by unfold Addr.add; split <;> simp_all
    rwa [hadd] at hc

/-- The variable, told: a tree by keys. -/
theorem P2At.done {d N r : Nat} {S : Nat → Prop} {w W wz : World} {ps : List (ByteArray × Tr d)} {ks : List ByteArray} {xs : List (Tr d)} {kv lv : Value} {vs : List Value} (h : P2At d S N N W wz ks xs kv lv vs) (hks : ks = ps.map Prod.fst) (hxs : xs = ps.map Prod.snd) (hS : Within S w) (hwr : w.heap.size ≤ r) (hr : r < N) (hW : Below w.heap.size w W) (hlen : ps.length ≤ 100000) (hsz : ∀ p ∈ ps, p.1.size < 281474976710656) :
    ∀ wF, wF = set5 wz r 0 (.int .i64 6) (.int .i64 0) (.string { data := #[] }) kv lv → ValAt (fun b => S b ∨ Fresh w wF b) wF (d + 1) (mapT d ps) (.agg #[.int .i64 6, .int .i64 0, .string { data := #[] }, kv, lv]) ∧ Below w.heap.size w wF := by
  intro wF hF
  subst hks hxs
  have hzF : wF.heap.size = wz.heap.size := by rw [hF, set5_size]
  have hbz := h.below.size
  have hsm : ∀ b, b ≠ r → wF.heap[b]? = wz.heap[b]? := fun b hb => by rw [hF, set5_block _ _ _ _ _ _ _ _ _ hb]
  have hkl : (ps.map Prod.fst).length ≤ 100000 := by rw [List.length_map]; exact hlen
  have hxl : (ps.map Prod.snd).length ≤ 100000 := by rw [List.length_map]; exact hlen
  have hkeys : StrsAt (fun b => N ≤ b ∧ b < wz.heap.size) wz kv (ps.map Prod.fst) := StrsAt.of_own h.keys (by omega) (fun s hs => by obtain ⟨p, hp, rfl⟩ := List.mem_map.1 hs; exact hsz p hp) (fun b h1 h2 => ⟨h1, h2⟩)
  have hrow := h.row.at (by omega)
  have hmv : Same (fun b => S b ∨ (N ≤ b ∧ b < wz.heap.size)) wz wF := fun b hb => hsm b (by
    rcases hb with hb | hb
    · have := hS b hb; omega
    · have := hb.1; omega)
  have hin : ∀ b, (S b ∨ (N ≤ b ∧ b < wz.heap.size)) → (S b ∨ Fresh w wF b) := fun b hb => by
    rcases hb with hb | hb
    · exact Or.inl hb
    · exact Or.inr ⟨by have := hb.1; omega, by have := hb.2; omega⟩
  refine ⟨⟨_, _, rfl, ⟨by show _ ≤ (6 : Int); omega, by show (6 : Int) ≤ _; omega⟩, ⟨by show _ ≤ (0 : Int); omega, by show (0 : Int) ≤ _; omega⟩, by show (0 : Nat) < _; omega, hkeys.moved (fun b hb => hsm b (by have := hb.1; omega)) (fun b hb => Or.inr ⟨by have := hb.1; omega, by have := hb.2; omega⟩), hrow.moved hmv hin (fun y u hy => ValAt.moved hmv hin _ y u hy)⟩, ?_⟩
  rw [hF]
  refine below_set5 ?_ hwr _ _ _ _ _ _
  exact hW.trans (h.below.mono (by omega))
end Go.Proofs.YtgjahnkldobphaaGreatDoor

/- append of trees onto a row of nothing. -/
namespace Go.Proofs.YtgjahnkldobphaaGreatDoor
open Go.RowKit Go.Deep

/-- An append, as one step of a region in its order. -/
theorem wpList_append_run {P : Program} {ops : Array Oper} {rest : List Oper} {o : Oper} {a : Act} {w : World} {Q : Exit → Act → World → Prop} (Φ : Value → World → Prop) (hgd : o.guard = none) (s x : Operand) (t : TypeId)
    (ho : o.op = .call { callee := .builtin .append, args := #[s, x], argTypes := #[t, t] }) (vs vx : Value) (hs : a.eval s = vs) (hx : a.eval x = vx)
    (hrun : ∃ v' w', (Builtin.append_ #[t, t] o.type #[vs, vx]).run P w = .ok v' w' ∧ Φ v' w') (h : ∀ v' w', Φ v' w' → wpList P ops Q rest (a.put o.dst v') w') :
    wpList P ops Q (o :: rest) a w := by
  refine wpList_plain hgd fun K hK => ?_
  obtain ⟨v', w', hr, h2⟩ := hrun
  unfold Oper.wp execOp
  simp only [ho, resolve, invoke, builtin, Sem.run_bind, Sem.run_pure, Result.andThen_ok, List.map_toArray, List.map_cons, List.map_nil, hs, hx, hr]
  exact hK _ _ (h v' w' h2)

theorem Tryz.infoV2 : (Tryz.prog.info? 26).map (fun i => (i.zero, i.size, i.bytes)) = some (some zeroVal, 5, 80) := by kernel_rfl

/-- Trees, copied behind nothing: the cells alone. -/
theorem run_append_vals {d : Nat} (S : Nat → Prop) (xs : List (Tr d)) (al : Option Addr) (cl g : Nat) (ty : TypeId) (w : World) (hg : w.heap[g]? = some (.cells #[] 26 (0, 0))) (hv : RowAt S w (ValAt S w d) (.slice al xs.length cl) xs) (hSg : ¬ S g) (hS : Within S w) (hsm : xs.length ≤ 4194304) :
    ∃ v' w', (Builtin.append_ #[24, 24] ty #[.slice (some ⟨g, 0, none⟩) 0 0, .slice al xs.length cl]).run Tryz.prog w = .ok v' w' ∧
      ((∃ vs, VTo S g w' v' xs vs) ∧ w.grownBy w' (some g) ∧ ∃ a c, v' = .slice a xs.length c) := by
  obtain ⟨i0, hi, hz0, hz1, hz2⟩ := info_parts Tryz.infoV2
  have hgl := (Array.getElem?_eq_some_iff.1 hg).1
  have hu : Tryz.prog.underlying 24 = some (.slice 26) := Tryz.underlying24
  have hown : w.ownsRow g 26 5 (.slice (some ⟨g, 0, none⟩) 0 0) 0 [] := ⟨by simp, .inr ⟨g, 0, #[], rfl, Nat.le_refl _, hg, Nat.le_refl _, Nat.zero_le _, by simp, by simp⟩⟩
  by_cases h0 : xs = []
  · subst h0
    refine ⟨.slice (some ⟨g, 0, none⟩) 0 0, w, ?_, ⟨[], hown, fun j x h => by simp at h⟩, ⟨rfl, rfl, rfl, Nat.le_refl _, fun _ _ _ => rfl⟩, _, _, rfl⟩
    cases al with
    | none => simp [Builtin.append_, run_underlying hu, sizeOf, typeInfo, hi, Builtin.lenOf, Builtin.firstCells, loadCells, loadCellsFrom, storeCells, Result.andThen, hz1]
    | some a => simp [Builtin.append_, run_underlying hu, sizeOf, typeInfo, hi, Builtin.lenOf, Builtin.firstCells, loadCells, loadCellsFrom, storeCells, Result.andThen, hz1]
  · have hpos : 0 < xs.length := List.length_pos_iff.2 h0
    obtain ⟨b, o, _, _, _, _, _, _, rfl, hbS, _⟩ := hv.cell hpos
    have hcell : ∀ i x, xs[i]? = some x → ∃ c0 c1 c2 c3 c4, w.cell? ⟨b, o + i * 5, none⟩ = some c0 ∧ w.cell? ⟨b, o + i * 5 + 1, none⟩ = some c1 ∧ w.cell? ⟨b, o + i * 5 + 2, none⟩ = some c2 ∧ w.cell? ⟨b, o + i * 5 + 3, none⟩ = some c3 ∧ w.cell? ⟨b, o + i * 5 + 4, none⟩ = some c4 ∧ ValAt S w d x (.agg #[c0, c1, c2, c3, c4]) := by
      intro i x hx
      obtain ⟨b', o', x', c0, c1, c2, c3, c4, e', _, hx', e0, e1, e2, e3, e4, hval⟩ := hv.cell (List.getElem?_eq_some_iff.1 hx).1
      cases e'
      rw [hx] at hx'
      cases hx'
      exact ⟨c0, c1, c2, c3, c4, e0, e1, e2, e3, e4, hval⟩
    obtain ⟨news, hnl, hnews⟩ : ∃ news : List Value, news.length = xs.length * 5 ∧ ∀ j, j < xs.length * 5 → ∃ u, news[j]? = some u ∧ w.cell? ⟨b, o + j, none⟩ = some u := by
      refine ⟨(List.range (xs.length * 5)).map (fun j => (w.cell? ⟨b, o + j, none⟩).getD undef), by simp, fun j hj => ?_⟩
      have hq : j / 5 < xs.length := by omega
      obtain ⟨c0, c1, c2, c3, c4, e0, e1, e2, e3, e4, _⟩ := hcell (j / 5) _ (List.getElem?_eq_getElem hq)
      have hex : ∃ u, w.cell? ⟨b, o + j, none⟩ = some u := by
        rcases (by omega : j = j / 5 * 5 ∨ j = j / 5 * 5 + 1 ∨ j = j / 5 * 5 + 2 ∨ j = j / 5 * 5 + 3 ∨ j = j / 5 * 5 + 4) with e | e | e | e | e
        · exact ⟨c0, by rw [e]; exact e0⟩
        · exact ⟨c1, by rw [e, ← Nat.add_assoc]; exact e1⟩
        · exact ⟨c2, by rw [e, ← Nat.add_assoc]; exact e2⟩
        · exact ⟨c3, by rw [e, ← Nat.add_assoc]; exact e3⟩
        · exact ⟨c4, by rw [e, ← Nat.add_assoc]; exact e4⟩
      obtain ⟨u, hu⟩ := hex
      exact ⟨u, by simp [hj, hu], hu⟩
    have hone : ∀ u ∈ news, u.oneCell' = true := by
      intro u hu
      obtain ⟨j, hj⟩ := List.getElem?_of_mem hu
      have hjl := (List.getElem?_eq_some_iff.1 hj).1
      obtain ⟨u', hu', hc⟩ := hnews j (by omega)
      rw [hj] at hu'
      cases hu'
      have hq : j / 5 < xs.length := by omega
      obtain ⟨c0, c1, c2, c3, c4, e0, e1, e2, e3, e4, hval⟩ := hcell (j / 5) _ (List.getElem?_eq_getElem hq)
      obtain ⟨q0, q1, q2, q3, q4, q5, q6, q7, q8, hq⟩ := hval.shape
      cases hq
      rcases (by omega : j = j / 5 * 5 ∨ j = j / 5 * 5 + 1 ∨ j = j / 5 * 5 + 2 ∨ j = j / 5 * 5 + 3 ∨ j = j / 5 * 5 + 4) with e | e | e | e | e
      · rw [e, e0] at hc; cases hc; rfl
      · rw [e, ← Nat.add_assoc, e1] at hc; cases hc; rfl
      · rw [e, ← Nat.add_assoc, e2] at hc; cases hc; rfl
      · rw [e, ← Nat.add_assoc, e3] at hc; cases hc; rfl
      · rw [e, ← Nat.add_assoc, e4] at hc; cases hc; rfl
    have hadd : ∀ j, (⟨b, o, none⟩ : Addr).add j = ⟨b, o + j, none⟩ := fun j => by unfold Addr.add; split <;> simp_all
    obtain ⟨v', w', hr, ho, hgr, _, hat⟩ := run_append_own_at (P := Tryz.prog) w g 24 ty 26 i0 zeroVal 5 80 hu hi hz0 hz1 hz2 rfl (by decide) _ 0 [] hown ⟨b, o, none⟩ xs.length cl news hnl
      (fun j u hj => by rw [hadd]; obtain ⟨u', h1, h2⟩ := hnews j (by have := (List.getElem?_eq_some_iff.1 hj).1; omega); rw [hj] at h1; cases h1; exact h2) hone (by unfold maxLen; omega) (by omega) (by omega)
    rw [Nat.zero_add, List.nil_append] at ho
    have hsh : ∃ a c, v' = .slice a xs.length c := by
      rcases ho.2 with ⟨_, h⟩ | ⟨g', c', cur, e, _⟩
      · omega
      · exact ⟨_, _, e⟩
    have hsame : Same S w w' := fun c hc => hgr.block c (hS c hc) (fun e => by cases e; exact hSg hc)
    refine ⟨v', w', hr, ⟨news, ho, fun j x hx => ?_⟩, hgr, hsh⟩
    obtain ⟨c0, c1, c2, c3, c4, e0, e1, e2, e3, e4, hval⟩ := hcell j x hx
    have hjl := (List.getElem?_eq_some_iff.1 hx).1
    have hn : ∀ m c, m < xs.length * 5 → w.cell? ⟨b, o + m, none⟩ = some c → news[m]? = some c := fun m c hm hc => by
      obtain ⟨u, h1, h2⟩ := hnews m hm
      rw [hc] at h2
      cases h2
      exact h1
    exact ⟨c0, c1, c2, c3, c4, hn _ _ (by omega) e0, hn _ _ (by omega) (by rw [← Nat.add_assoc]; exact e1), hn _ _ (by omega) (by rw [← Nat.add_assoc]; exact e2), hn _ _ (by omega) (by rw [← Nat.add_assoc]; exact e3), hn _ _ (by omega) (by rw [← Nat.add_assoc]; exact e4), hval.same hsame⟩
end Go.Proofs.YtgjahnkldobphaaGreatDoor
