/- What stands while a way is gone along. -/
import Derived.Test.YtlpembhdojdomaaGreatDoorWPathO
import Derived.Test.YtlpembhdojdomaaGreatDoorWWay
import Derived.Test.YtlpembhdojdomaaGreatDoorWGet
namespace Go.Proofs.YtlpembhdojdomaaGreatDoor
open Go.RowKit Go.Deep

/-- What stands when j steps were looked at. -/
structure Along {d : Nat} (w : World) (t : Tr (d + 2)) (ps : List Stp) (wr : World) (j : Nat) (sv : Value) (okb : Bool) (x : Tr (d + 2)) (q0 q1 : Int) (q2 : ByteArray) (q3 : Option Addr) (q4 q5 : Nat) (q6 : Option Addr) (q7 q8 : Nat) (xs : List (Tr (d + 2) × Stp)) (vs : List Value) : Prop where
  box : Blk5 wr w.heap.size 29 (.int .i64 q0) (.int .i64 q1) (.string q2) (.slice q3 q4 q5) (.slice q6 q7 q8)
  res : Blk5 wr (w.heap.size + 1) 29 (.int .i64 0) (.int .i64 0) (.string { data := #[] }) (.slice none 0 0) (.slice none 0 0)
  val : ValOwn wr (d + 2) (Live (w.heap.size + 2) wr sv) x (.agg #[.int .i64 q0, .int .i64 q1, .string q2, .slice q3 q4 q5, .slice q6 q7 q8])
  below : Below w.heap.size w wr
  way : WayTo (w.heap.size + 2) wr sv xs vs
  lens : xs.length ≤ j
  told : (okb = true ∧ pathGetT d t ps = alongT d x (ps.drop j) ∧ xs ++ passT d x (ps.drop j) = passT d t ps) ∨ (okb = false ∧ x = zeroT (d + 1) ∧ pathGetT d t ps = (zeroT (d + 1), false))

section
variable {d : Nat} {w : World} {t : Tr (d + 2)} {ps : List Stp} {wr : World} {j : Nat} {sv : Value} {okb : Bool} {x : Tr (d + 2)} {q0 q1 : Int} {q2 : ByteArray} {q3 : Option Addr} {q4 q5 : Nat} {q6 : Option Addr} {q7 q8 : Nat} {xs : List (Tr (d + 2) × Stp)} {vs : List Value}

theorem Along.keep {w' : World} (h : Along w t ps wr j sv okb x q0 q1 q2 q3 q4 q5 q6 q7 q8 xs vs) (hb : Below wr.heap.size wr w') : Along w t ps w' j sv okb x q0 q1 q2 q3 q4 q5 q6 q7 q8 xs vs :=
  ⟨h.box.below hb, h.res.below hb, ValOwn.moved _ _ _ _ _ h.val (fun b hl => hb.block b hl.2.1) (fun _ hl => ⟨hl.1, Nat.lt_of_lt_of_le hl.2.1 hb.size, hl.2.2⟩), below_trans h.below hb, h.way.later (fun c _ hc => hb.block c hc) hb.size, h.lens, h.told⟩

theorem Along.end' (h : Along w t ps wr j sv okb x q0 q1 q2 q3 q4 q5 q6 q7 q8 xs vs) :
    ∀ wF, wF = set5 wr (w.heap.size + 1) 0 (.int .i64 q0) (.int .i64 q1) (.string q2) (.slice q3 q4 q5) (.slice q6 q7 q8) → ValOwn wF (d + 2) (Fresh w wF) x (.agg #[.int .i64 q0, .int .i64 q1, .string q2, .slice q3 q4 q5, .slice q6 q7 q8]) ∧ Below w.heap.size w wF ∧ WayTo (w.heap.size + 2) wF sv xs vs := by
  intro wF hF
  have hz : wF.heap.size = wr.heap.size := by rw [hF, set5_size]
  have hs : ∀ c, w.heap.size + 2 ≤ c → wF.heap[c]? = wr.heap[c]? := fun c hc => by rw [hF, set5_block _ _ _ _ _ _ _ _ _ (by omega)]
  refine ⟨ValOwn.moved _ _ _ _ _ h.val (fun b hl => hs b hl.1) (fun b hl => ⟨by have := hl.1; omega, by have := hl.2.1; omega⟩), ?_, h.way.later (fun c hc _ => hs c hc) (by omega)⟩
  rw [hF]
  exact below_set5 h.below (by omega) _ _ _ _ _ _

theorem Along.endD (h : Along w t ps wr j sv okb x q0 q1 q2 q3 q4 q5 q6 q7 q8 xs vs) :
    ∀ wF, wF = (set5 wr (w.heap.size + 1) 0 (.int .i64 q0) (.int .i64 q1) (.string q2) (.slice q3 q4 q5) (.slice q6 q7 q8)).drew → ValOwn wF (d + 2) (Fresh w wF) x (.agg #[.int .i64 q0, .int .i64 q1, .string q2, .slice q3 q4 q5, .slice q6 q7 q8]) ∧ Below w.heap.size w wF ∧ WayTo (w.heap.size + 2) wF sv xs vs := by
  intro wF hF
  have he := h.end'
  generalize set5 wr (w.heap.size + 1) 0 (.int .i64 q0) (.int .i64 q1) (.string q2) (.slice q3 q4 q5) (.slice q6 q7 q8) = W1 at hF he
  obtain ⟨h1, h2, h3⟩ := he W1 rfl
  subst hF
  exact ⟨ValOwn.moved _ _ _ _ _ h1 (fun _ _ => rfl) (fun _ hb => hb), ⟨h2.os, h2.tape, h2.output, h2.size, h2.block⟩, h3.later (fun _ _ _ => rfl) (Nat.le_refl _)⟩

/-- What stands behind the append. -/
theorem Along.grown {wc w2 : World} (h : Along w t ps wr j sv okb x q0 q1 q2 q3 q4 q5 q6 q7 q8 xs vs) (hb : Below wr.heap.size wr wc) (hg : wc.grownBy w2 sv.ownBlock) :
    (∀ b, b < w.heap.size + 2 → w2.heap[b]? = wr.heap[b]?) ∧ Below w.heap.size w w2 ∧ (∀ b, wr.heap.size ≤ b → b < wc.heap.size → w2.heap[b]? = wc.heap[b]?) := by
  have hlt := h.res.lt
  have hs1 := hb.size
  have hs2 := hg.size
  have hs0 := h.below.size
  have hN : ∀ g, sv.ownBlock = some g → w.heap.size + 2 ≤ g ∧ g < wr.heap.size := fun g hg => h.way.own.lt g hg
  have h1 : ∀ b, b < w.heap.size + 2 → w2.heap[b]? = wr.heap[b]? := fun b hb2 => (hg.block b (by omega) (fun e => by have := hN b e.symm; omega)).trans (hb.block b (by omega))
  refine ⟨h1, ⟨hg.os.trans (hb.os.trans h.below.os), hg.tape.trans (hb.tape.trans h.below.tape), hg.output.trans (hb.output.trans h.below.output), by omega, fun b hb2 => (h1 b (by omega)).trans (h.below.block b hb2)⟩, fun b hb1 hb2 => hg.block b hb2 (fun e => by have := hN b e.symm; omega)⟩

theorem Along.step {wc w2 w3 : World} {sv' : Value} {p : Stp} {u0 u1 : Int} {u2 : ByteArray} {u3 : Option Addr} {u4 u5 : Nat} {u6 : Option Addr} {u7 u8 : Nat} (h : Along w t ps wr j sv true x q0 q1 q2 q3 q4 q5 q6 q7 q8 xs vs) (hp : ps[j]? = some p) (hfit : StpFit p) (hb : Below wr.heap.size wr wc)
    (o1 : w2.ownsRow (w.heap.size + 2) 93 8 sv' (xs.length + 1) (vs ++ [.int .i64 q0, .int .i64 q1, .string q2, .slice q3 q4 q5, .slice q6 q7 q8, .bool p.map, .string p.key, .int .i64 p.place])) (o2 : wc.grownBy w2 sv.ownBlock) (o3 : sv'.ownBlock = sv.ownBlock ∨ sv'.ownBlock = some wc.heap.size)
    (hu : ValOwn w3 (d + 2) (Fresh w2 w3) (stepT d x p).1 (.agg #[.int .i64 u0, .int .i64 u1, .string u2, .slice u3 u4 u5, .slice u6 u7 u8])) (hb3 : Below w2.heap.size w2 w3) :
    ∀ wF, wF = set5 w3 w.heap.size 0 (.int .i64 u0) (.int .i64 u1) (.string u2) (.slice u3 u4 u5) (.slice u6 u7 u8) →
      Along w t ps wF (j + 1) sv' (stepT d x p).2 (stepT d x p).1 u0 u1 u2 u3 u4 u5 u6 u7 u8 (xs ++ [(x, p)]) (vs ++ [.int .i64 q0, .int .i64 q1, .string q2, .slice q3 q4 q5, .slice q6 q7 q8, .bool p.map, .string p.key, .int .i64 p.place]) := by
  intro wF hF
  obtain ⟨g1, g2, g3⟩ := h.grown hb o2
  have hz : wF.heap.size = w3.heap.size := by rw [hF, set5_size]
  have hs : ∀ c, w.heap.size < c → wF.heap[c]? = w3.heap[c]? := fun c hc => by rw [hF, set5_block _ _ _ _ _ _ _ _ _ (by omega)]
  have hs2 := o2.size
  have hs1 := hb.size
  have hs3 := hb3.size
  have hlt := h.res.lt
  have hw := h.way.push hb (ValOwn.at _ _ _ _ h.val) hfit o1 o2 o3
  have hown := fun g => o1.lt g
  refine ⟨?_, ?_, ?_, ?_, hw.later (fun c hc1 hc2 => by rw [hs c (by omega)]; exact hb3.block c hc2) (by omega), by rw [List.length_append]; have := h.lens; simp; omega, ?_⟩
  · rw [hF]
    exact (Blk5.of_block h.box (((hb3.block _ (by omega)).trans (g1 _ (by omega))))).set5 _ _ _ _ _
  · refine Blk5.of_block h.res ?_
    rw [hs _ (by omega), hb3.block _ (by omega), g1 _ (by omega)]
  · refine ValOwn.moved _ _ _ _ _ hu (fun b hf => hs b (by have := hf.1; omega)) (fun b hf => ⟨by have := hf.1; omega, by have := hf.2; omega, fun e => ?_⟩)
    have := (hown b e.symm).2
    have := hf.1
    omega
  · rw [hF]
    exact below_set5 (below_trans g2 hb3) (Nat.le_refl _) _ _ _ _ _ _
  · rcases h.told with ⟨_, h1, h2⟩ | ⟨h1, _⟩
    · cases hst : (stepT d x p).2 with
      | true => exact Or.inl ⟨rfl, h1.trans (alongT_on hp hst), by rw [List.append_assoc, ← h2, passT_on hp]; rfl⟩
      | false => exact Or.inr ⟨rfl, step_off hst, h1.trans (alongT_off hp hst)⟩
    · cases h1
end
/-- But block c all is as it was. -/
def ButB (c : Nat) (w w' : World) : Prop := ∀ b, b ≠ c → w'.heap[b]? = w.heap[b]?
theorem butb_refl {c : Nat} {w : World} : ButB c w w := fun _ _ => rfl
theorem butb_drew {c : Nat} {w w' : World} (h : ButB c w w') : ButB c w w'.drew := h
theorem butb_cell {c i : Nat} {w w' : World} {v : Value} (h : ButB c w w') : ButB c w (w'.setCell ⟨c, i, none⟩ v) := fun b hb => (Below.heap_setCell _ _ _ _ hb).trans (h b hb)
theorem butb_blk {c b : Nat} {w w' : World} {T : TypeId} {c0 c1 c2 c3 c4 : Value} (h : ButB c w w') (hb : b ≠ c) (k : Blk5 w b T c0 c1 c2 c3 c4) : Blk5 w' b T c0 c1 c2 c3 c4 := k.of_block (h b hb)
theorem pathOk_len {ps : List Stp} (h : pathOk ps = true) : ps.length ≤ 6 := by
  unfold pathOk at h
  rw [Bool.and_eq_true] at h
  exact of_decide_eq_true h.2
theorem size2' (w : World) (A B : Obj) : ((w.alloc A).alloc B).heap.size = w.heap.size + 1 + 1 := by simp
theorem size3' (w : World) (A B C : Obj) : (((w.alloc A).alloc B).alloc C).heap.size = w.heap.size + 1 + 1 + 1 := by simp
/-- The eight cells of a block. -/
theorem cells8 {w : World} {b : Nat} {T : TypeId} {c0 c1 c2 c3 c4 c5 c6 c7 : Value} (h : w.heap[b]? = some (.cells #[c0, c1, c2, c3, c4, c5, c6, c7] T (0, 0))) :
    w.cell? ⟨b, 0, none⟩ = some c0 ∧ w.cell? ⟨b, 1, none⟩ = some c1 ∧ w.cell? ⟨b, 2, none⟩ = some c2 ∧ w.cell? ⟨b, 3, none⟩ = some c3 ∧ w.cell? ⟨b, 4, none⟩ = some c4 ∧ w.cell? ⟨b, 5, none⟩ = some c5 ∧ w.cell? ⟨b, 6, none⟩ = some c6 ∧ w.cell? ⟨b, 7, none⟩ = some c7 := by
  simp [World.cell?, h]
end Go.Proofs.YtlpembhdojdomaaGreatDoor
