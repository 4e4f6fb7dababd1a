/- Texts of the proof, put together by program: WDrawB. -/
import Derived.Test.YtilgbnnjecpneaaGreatDoorV4
import Derived.Test.YtilgbnnjecpneaaGreatDoorV7
/- Drawn trees: a tree whose keys and parts are being made. -/
namespace Go.Proofs.YtilgbnnjecpneaaGreatDoor
open Go.RowKit Go.Deep

/-- Blocks from N on that are plain and neither the keys' nor the list's own. -/
def InD (N : Nat) (w : World) (kv lv : Value) (b : Nat) : Prop := N ≤ b ∧ b < w.heap.size ∧ Plain w b ∧ kv.ownBlock ≠ some b ∧ lv.ownBlock ≠ some b

/-- What stands while a tree is drawn: its variable at block vb, keys and parts so far. -/
structure DTo {d : Nat} (N vb r : Nat) (kind : Int) (w : World) (kv lv : Value) (ks : List ByteArray) (xs : List (Tr d)) (vs : List Value) : Prop where
  out : Blk5 w vb 29 (.int .i64 kind) (.int .i64 0) (.string { data := #[] }) kv lv
  kown : w.ownsRow N 9 1 kv ks.length (ks.map Value.string)
  vown : w.ownsRow N 29 5 lv xs.length vs
  apart : ∀ g, kv.ownBlock = some g → lv.ownBlock ≠ some g
  trees : ∀ (j : Nat) (x : Tr d), xs[j]? = some x → ∃ c0 c1 c2 c3 c4, vs[j * 5]? = some c0 ∧ vs[j * 5 + 1]? = some c1 ∧ vs[j * 5 + 2]? = some c2 ∧ vs[j * 5 + 3]? = some c3 ∧ vs[j * 5 + 4]? = some c4 ∧ ValAt (InD N w kv lv) w d x (.agg #[c0, c1, c2, c3, c4])
  vbN : vb < N
  rN : r < N
  rv : vb ≠ r
  NS : N ≤ w.heap.size

theorem DTo.moved {d N vb r : Nat} {kind : Int} {w w' : World} {kv lv : Value} {ks : List ByteArray} {xs : List (Tr d)} {vs : List Value} (h : DTo N vb r kind w kv lv ks xs vs) (hb : But r w w') : DTo N vb r kind w' kv lv ks xs vs := by
  have hN := h.rN
  have hS := h.NS
  have hz : w.heap.size ≤ w'.heap.size := hb.size
  have hbl : ∀ b, N ≤ b → b < w.heap.size → w'.heap[b]? = w.heap[b]? := fun b h1 h2 => hb.block b h2 (fun e => by cases e; omega)
  refine ⟨h.out.butr hb h.rv, owns_moved h.kown (fun g hg => ?_) (Nat.le_refl _), owns_moved h.vown (fun g hg => ?_) (Nat.le_refl _), h.apart, fun j x hx => ?_, h.vbN, hN, h.rv, by omega⟩
  · have := h.kown.lt g hg; exact hbl g this.1 this.2
  · have := h.vown.lt g hg; exact hbl g this.1 this.2
  · obtain ⟨c0, c1, c2, c3, c4, e0, e1, e2, e3, e4, hv⟩ := h.trees j x hx
    exact ⟨c0, c1, c2, c3, c4, e0, e1, e2, e3, e4, ValAt.moved (fun b hb' => hbl b hb'.1 hb'.2.1) (fun b hb' => ⟨hb'.1, by have := hb'.2.1; omega, hb'.2.2.1.of_block (hbl b hb'.1 hb'.2.1), hb'.2.2.2⟩) d x _ hv⟩

theorem Blk5.set0 {w : World} {b : Nat} {T : TypeId} {c0 c1 c2 c3 c4 : Value} (h : Blk5 w b T c0 c1 c2 c3 c4) (u : Value) : Blk5 (w.setCell ⟨b, 0, none⟩ u) b T u c1 c2 c3 c4 := by
  unfold Blk5 at h ⊢
  simp [World.setCell, Array.getElem?_modify, h]
/-- A tree of nothing yet. -/
theorem DTo.start {d vb r : Nat} {kind : Int} {w : World} (h : Blk5 w vb 29 (.int .i64 kind) (.int .i64 0) (.string { data := #[] }) (.slice none 0 0) (.slice none 0 0)) (hr : r < w.heap.size) (hv : vb ≠ r) : DTo (d := d) w.heap.size vb r kind w (.slice none 0 0) (.slice none 0 0) [] [] [] :=
  ⟨h, ⟨rfl, Or.inl ⟨rfl, rfl⟩⟩, ⟨rfl, Or.inl ⟨rfl, rfl⟩⟩, fun g hg => (by cases hg), fun j x hx => (by simp at hx), h.lt, hr, hv, Nat.le_refl _⟩
/-- A key more. -/
theorem DTo.key {d N vb r : Nat} {kind : Int} {w1 w2 : World} {kv lv kv' : Value} {ks : List ByteArray} {xs : List (Tr d)} {vs : List Value} {s : ByteArray} {o : Obj} (h : DTo N vb r kind w1 kv lv ks xs vs)
    (hown : w2.ownsRow N 9 1 kv' (ks.length + 1) (ks.map Value.string ++ [.string s])) (hg : (w1.alloc o).grownBy w2 kv.ownBlock) (hw : kv'.ownBlock = kv.ownBlock ∨ kv'.ownBlock = some (w1.alloc o).heap.size) :
    DTo N vb r kind (w2.setCell ⟨vb, 3, none⟩ kv') kv' lv (ks ++ [s]) xs vs := by
  have hN := h.vbN
  have hS := h.NS
  have hz1 : (w1.alloc o).heap.size = w1.heap.size + 1 := by simp
  have hz : w1.heap.size + 1 ≤ w2.heap.size := by have := hg.size; omega
  have hz3 : (w2.setCell ⟨vb, 3, none⟩ kv').heap.size = w2.heap.size := by simp [World.setCell]
  have hbl : ∀ b, b < w1.heap.size → kv.ownBlock ≠ some b → w2.heap[b]? = w1.heap[b]? := fun b h1 h2 => (hg.block b (by omega) (fun e => h2 e.symm)).trans (Below.heap_alloc _ _ _ h1)
  have hbl3 : ∀ b, N ≤ b → b < w1.heap.size → kv.ownBlock ≠ some b → (w2.setCell ⟨vb, 3, none⟩ kv').heap[b]? = w1.heap[b]? := fun b h0 h1 h2 => (Below.heap_setCell _ _ _ _ (by show b ≠ vb; omega)).trans (hbl b h1 h2)
  have hvb : vb < w1.heap.size := h.out.lt
  have hout : Blk5 w2 vb 29 (.int .i64 kind) (.int .i64 0) (.string { data := #[] }) kv lv := h.out.of_block (hbl vb hvb (fun e => by have := (h.kown.lt vb e).1; omega))
  refine ⟨hout.set3 _, ?_, owns_moved h.vown (fun g hg' => ?_) (Nat.le_refl _), fun g hk => ?_, fun j x hx => ?_, hN, h.rN, h.rv, by rw [hz3]; omega⟩
  · rw [List.length_append, List.map_append]
    exact owns_moved hown (fun g hg' => Below.heap_setCell _ _ _ _ (by have := (hown.lt g hg').1; show g ≠ vb; omega)) (Nat.le_refl _)
  · have := h.vown.lt g hg'
    exact hbl3 g this.1 this.2 (fun e => h.apart g e hg')
  · rcases hw with hw | hw
    · exact h.apart g (hw.symm.trans hk)
    · intro hl
      have := (h.vown.lt g hl).2
      have he := hw.symm.trans hk
      rw [hz1] at he
      cases he
      omega
  · obtain ⟨c0, c1, c2, c3, c4, e0, e1, e2, e3, e4, hv⟩ := h.trees j x hx
    refine ⟨c0, c1, c2, c3, c4, e0, e1, e2, e3, e4, ValAt.moved (fun b hb' => hbl3 b hb'.1 hb'.2.1 hb'.2.2.2.1) (fun b hb' => ⟨hb'.1, by rw [hz3]; have := hb'.2.1; omega, hb'.2.2.1.of_block (hbl3 b hb'.1 hb'.2.1 hb'.2.2.2.1), ?_, hb'.2.2.2.2⟩) d x _ hv⟩
    rcases hw with hw | hw
    · rw [hw]; exact hb'.2.2.2.1
    · rw [hw, hz1]
      intro he
      cases he
      have := hb'.2.1
      omega

/-- A part more. -/
theorem DTo.tree {d N vb r : Nat} {kind : Int} {w1 w2 : World} {kv lv lv' : Value} {ks : List ByteArray} {xs : List (Tr d)} {vs : List Value} {x : Tr d} {v0 v1 v2 v3 v4 : Value} {o : Obj} (h : DTo N vb r kind w1 kv lv ks xs vs)
    (hx : ValAt (InD N w1 kv lv) w1 d x (.agg #[v0, v1, v2, v3, v4]))
    (hown : w2.ownsRow N 29 5 lv' (xs.length + 1) (vs ++ [v0, v1, v2, v3, v4])) (hg : (w1.alloc o).grownBy w2 lv.ownBlock) (hw : lv'.ownBlock = lv.ownBlock ∨ lv'.ownBlock = some (w1.alloc o).heap.size) :
    DTo N vb r kind (w2.setCell ⟨vb, 4, none⟩ lv') kv lv' ks (xs ++ [x]) (vs ++ [v0, v1, v2, v3, v4]) := by
  have hN := h.vbN
  have hS := h.NS
  have hz1 : (w1.alloc o).heap.size = w1.heap.size + 1 := by simp
  have hz : w1.heap.size + 1 ≤ w2.heap.size := by have := hg.size; omega
  have hz3 : (w2.setCell ⟨vb, 4, none⟩ lv').heap.size = w2.heap.size := by simp [World.setCell]
  have hbl : ∀ b, b < w1.heap.size → lv.ownBlock ≠ some b → w2.heap[b]? = w1.heap[b]? := fun b h1 h2 => (hg.block b (by omega) (fun e => h2 e.symm)).trans (Below.heap_alloc _ _ _ h1)
  have hbl3 : ∀ b, N ≤ b → b < w1.heap.size → lv.ownBlock ≠ some b → (w2.setCell ⟨vb, 4, none⟩ lv').heap[b]? = w1.heap[b]? := fun b h0 h1 h2 => (Below.heap_setCell _ _ _ _ (by show b ≠ vb; omega)).trans (hbl b h1 h2)
  have hvb : vb < w1.heap.size := h.out.lt
  have hout : Blk5 w2 vb 29 (.int .i64 kind) (.int .i64 0) (.string { data := #[] }) kv lv := h.out.of_block (hbl vb hvb (fun e => by have := (h.vown.lt vb e).1; omega))
  have hmv : ∀ y u, ValAt (InD N w1 kv lv) w1 d y u → ValAt (InD N (w2.setCell ⟨vb, 4, none⟩ lv') kv lv') (w2.setCell ⟨vb, 4, none⟩ lv') d y u := fun y u hy => by
    refine ValAt.moved (fun b hb' => hbl3 b hb'.1 hb'.2.1 hb'.2.2.2.2) (fun b hb' => ⟨hb'.1, by rw [hz3]; have := hb'.2.1; omega, hb'.2.2.1.of_block (hbl3 b hb'.1 hb'.2.1 hb'.2.2.2.2), hb'.2.2.2.1, ?_⟩) d y _ hy
    rcases hw with hw | hw
    · rw [hw]; exact hb'.2.2.2.2
    · rw [hw, hz1]
      intro he
      cases he
      have := hb'.2.1
      omega
  have hlen : vs.length = xs.length * 5 := h.vown.1
  refine ⟨hout.set4 _, owns_moved h.kown (fun g hg' => ?_) (Nat.le_refl _), ?_, fun g hk hl => ?_, fun j y hy => ?_, hN, h.rN, h.rv, by rw [hz3]; omega⟩
  · have := h.kown.lt g hg'
    exact hbl3 g this.1 this.2 (h.apart g hg')
  · rw [List.length_append]
    exact owns_moved hown (fun g hg' => Below.heap_setCell _ _ _ _ (by have := (hown.lt g hg').1; show g ≠ vb; omega)) (Nat.le_refl _)
  · rcases hw with hw | hw
    · exact h.apart g hk (hw.symm.trans hl)
    · have := (h.kown.lt g hk).2
      have he := hw.symm.trans hl
      rw [hz1] at he
      cases he
      omega
  · by_cases e : j < xs.length
    · rw [List.getElem?_append_left e] at hy
      obtain ⟨c0, c1, c2, c3, c4, e0, e1, e2, e3, e4, hv⟩ := h.trees j y hy
      refine ⟨c0, c1, c2, c3, c4, ?_, ?_, ?_, ?_, ?_, hmv _ _ hv⟩
      · rw [List.getElem?_append_left (by omega)]; exact e0
      · rw [List.getElem?_append_left (by omega)]; exact e1
      · rw [List.getElem?_append_left (by omega)]; exact e2
      · rw [List.getElem?_append_left (by omega)]; exact e3
      · rw [List.getElem?_append_left (by omega)]; exact e4
    · have hj : j = xs.length := by
        have := (List.getElem?_eq_some_iff.1 hy).1
        rw [List.length_append, List.length_singleton] at this
        omega
      subst hj
      rw [List.getElem?_append_right (Nat.le_refl _), Nat.sub_self] at hy
      cases hy
      refine ⟨v0, v1, v2, v3, v4, ?_, ?_, ?_, ?_, ?_, hmv _ _ hx⟩
      · rw [List.getElem?_append_right (by omega), hlen]; simp
      · rw [List.getElem?_append_right (by omega), hlen]; simp
      · rw [List.getElem?_append_right (by omega), hlen]; simp
      · rw [List.getElem?_append_right (by omega), hlen]; simp
      · rw [List.getElem?_append_right (by omega), hlen]; simp

/-- What lies below N, but for the variable, stays. -/
def Low (N vb : Nat) (b : Nat) : Prop := b = vb ∨ N ≤ b
theorem low_turn {w1 w2 : World} {N vb c : Nat} {row : Option Nat} {o : Obj} {u : Value} (hg : (w1.alloc o).grownBy w2 row) (hrow : ∀ g, row = some g → N ≤ g) : Turn (Low N vb) w1 (w2.setCell ⟨vb, c, none⟩ u) := by
  have hz1 : (w1.alloc o).heap.size = w1.heap.size + 1 := by simp
  have hb := below_alloc1 w1 o
  have h2 := hg.size
  have ht : Turn (Low N vb) w1 w2 := ⟨hg.os.trans hb.os, hg.tape.trans hb.tape, hg.output.trans hb.output, by omega, fun i hi hn => (hg.block i (by omega) (fun e => hn (Or.inr (hrow i e.symm)))).trans (hb.block i hi)⟩
  exact ht.set (Or.inl rfl) u
theorem low_moved {w w5 wF : World} {N vb r p : Nat} {T : TypeId} {c0 c1 c2 c3 c4 : Value} (hR : Rd w5 r p) (hB : But r w w5) (hK : Blk5 w5 w.heap.size T c0 c1 c2 c3 c4) (ht : Turn (Low N vb) w5 wF) (hr : r < w.heap.size) (hw : w.heap.size < vb) (hv : vb < N) :
    Rd wF r p ∧ But r w wF ∧ Blk5 wF w.heap.size T c0 c1 c2 c3 c4 := by
  have hrl := hR.lt
  have hkl := hK.lt
  have hlow : ∀ b, b ≤ w.heap.size → b < w5.heap.size → wF.heap[b]? = w5.heap[b]? := fun b h1 h2 => ht.block b h2 (fun e => by rcases e with e | e <;> omega)
  obtain ⟨a, n, cap, h1, h2, h3⟩ := hR
  refine ⟨⟨a, n, cap, (hlow r (by omega) hrl).trans h1, h2, h3.moved (fun b hb => hlow b (by omega) (by omega))⟩, ⟨ht.os.trans hB.os, ht.tape.trans hB.tape, ht.output.trans hB.output, Nat.le_trans hB.size ht.size, fun i hi hn => (hlow i (by omega) (Nat.lt_of_lt_of_le hi hB.size)).trans (hB.block i hi hn)⟩, hK.of_block (hlow _ (Nat.le_refl _) hkl)⟩
theorem plain_own {w : World} {N : Nat} {e : TypeId} {size n : Nat} {v : Value} {xs : List Value} (h : w.ownsRow N e size v n xs) {g : Nat} (hg : v.ownBlock = some g) : Plain w g := by
  rcases h.2 with ⟨rfl, _⟩ | ⟨g', cap, cur, rfl, _, hh, _⟩
  · cases hg
  · cases hg
    exact ⟨cur, e, hh⟩

/-- The tree that was drawn, where it lies. -/
theorem DTo.done {d N vb r : Nat} {kind : Int} {w wb : World} {kv lv : Value} {ks : List ByteArray} {xs : List (Tr d)} {vs : List Value} (h : DTo N vb r kind w kv lv ks xs vs) (hk : I64 kind) (hks : ∀ s ∈ ks, s.size < 281474976710656) (hkl : ks.length < 1000) (hxl : xs.length < 1000) (hN : wb.heap.size < N) :
    KeyTop (wb.heap.size + 1) (FreshQ wb w) w (d + 1) ({ kind := kind, num := 0, str := ⟨#[]⟩, keys := ks, list := xs } : Nd (Tr d)) (.agg #[.int .i64 kind, .int .i64 0, .string { data := #[] }, kv, lv]) := by
  refine ⟨kv, lv, rfl, hk, ⟨by show _ ≤ (0 : Int); omega, by show (0 : Int) ≤ _; omega⟩, by show (0 : Nat) < _; omega, hks, hkl, owns_moved h.kown (fun _ _ => rfl) (by omega), fun b hb => ⟨by have := (h.kown.lt b hb).1; omega, (h.kown.lt b hb).2, plain_own h.kown hb⟩, ⟨by show xs.length < _; omega, ?_⟩⟩
  rcases h.vown.2 with ⟨e, h0⟩ | ⟨g, cap, cur, e, hg, hh, _⟩
  · exact ⟨none, 0, by rw [e, h0], Or.inl (List.eq_nil_of_length_eq_zero h0)⟩
  · refine ⟨some ⟨g, 0, none⟩, cap, e, Or.inr ⟨g, 0, ⟨⟨by omega, (Array.getElem?_eq_some_iff.1 hh).1, ⟨_, _, hh⟩⟩, fun hk' => h.apart g hk' (by rw [e]; rfl)⟩, rfl, fun i x hx => ?_⟩⟩
    obtain ⟨c0, c1, c2, c3, c4, e0, e1, e2, e3, e4, hv⟩ := h.trees i x hx
    have hi : i < xs.length := (List.getElem?_eq_some_iff.1 hx).1
    have hvo := h.vown
    rw [e] at hvo
    have hc : ∀ j c, j < xs.length * 5 → vs[j]? = some c → w.cell? ⟨g, 0 + j, none⟩ = some c := fun j c hj hc => by
      rw [Nat.zero_add]
      exact (hvo.cellAt j hj).trans hc
    exact ⟨c0, c1, c2, c3, c4, hc _ _ (by omega) e0, hc _ _ (by omega) e1, hc _ _ (by omega) e2, hc _ _ (by omega) e3, hc _ _ (by omega) e4, hv.mono (fun b hb => ⟨⟨by have := hb.1; omega, hb.2.1, hb.2.2.1⟩, hb.2.2.2.1⟩)⟩
end Go.Proofs.YtilgbnnjecpneaaGreatDoor
