/- Texts of the proof, put together by program: WWay, WAlong, WPathI. -/
import Derived.Test.YtlpembhdojdomaaGreatDoorPg14
import Derived.Test.YtlpembhdojdomaaGreatDoorPg8
import Derived.Test.YtlpembhdojdomaaGreatDoorPg17
import Derived.Test.YtlpembhdojdomaaGreatDoorPg19
import Derived.Deep.RegionHeld
/- The trees that were passed on a way, as they lie on the stack. -/
namespace Go.Proofs.YtlpembhdojdomaaGreatDoor
open Go.RowKit Go.Deep

/-- Blocks from N on, without the stack's own. -/
def Live (N : Nat) (w : World) (sv : Value) (b : Nat) : Prop := N ≤ b ∧ b < w.heap.size ∧ some b ≠ sv.ownBlock
/-- All that is passed on a way. -/
def passT (d : Nat) : Tr (d + 2) → List Stp → List (Tr (d + 2) × Stp)
  | _, [] => []
  | t, p :: r => (t, p) :: passT d (stepT d t p).1 r
theorem passT_on {d : Nat} {t : Tr (d + 2)} {ps : List Stp} {k : Nat} {p : Stp} (hp : ps[k]? = some p) : passT d t (ps.drop k) = (t, p) :: passT d (stepT d t p).1 (ps.drop (k + 1)) := by
  obtain ⟨hk, e⟩ := List.getElem?_eq_some_iff.1 hp
  rw [List.drop_eq_getElem_cons hk, e, passT]

/-- What lies on the stack. -/
structure WayTo {d : Nat} (N : Nat) (w : World) (sv : Value) (xs : List (Tr (d + 2) × Stp)) (vs : List Value) : Prop where
  own : w.ownsRow N 93 8 sv xs.length vs
  val : ∀ j x, xs[j]? = some x → ∃ q0 q1 q2 q3 q4 q5 q6 q7 q8, vs[j * 8]? = some (.int .i64 q0) ∧ vs[j * 8 + 1]? = some (.int .i64 q1) ∧ vs[j * 8 + 2]? = some (.string q2) ∧ vs[j * 8 + 3]? = some (.slice q3 q4 q5) ∧ vs[j * 8 + 4]? = some (.slice q6 q7 q8) ∧
    vs[j * 8 + 5]? = some (.bool x.2.map) ∧ vs[j * 8 + 6]? = some (.string x.2.key) ∧ vs[j * 8 + 7]? = some (.int .i64 x.2.place) ∧ ValAt (Live N w sv) w (d + 2) x.1 (.agg #[.int .i64 q0, .int .i64 q1, .string q2, .slice q3 q4 q5, .slice q6 q7 q8]) ∧ StpFit x.2

theorem WayTo.start {d : Nat} (N : Nat) (w : World) : WayTo (d := d) N w (.slice none 0 0) [] [] :=
  ⟨World.ownsRow_nil _ _ _ _, fun j x hj => by simp at hj⟩
theorem WayTo.later {d N : Nat} {w w' : World} {sv : Value} {xs : List (Tr (d + 2) × Stp)} {vs : List Value} (h : WayTo N w sv xs vs) (hk : ∀ c, N ≤ c → c < w.heap.size → w'.heap[c]? = w.heap[c]?) (hz : w.heap.size ≤ w'.heap.size) : WayTo N w' sv xs vs := by
  obtain ⟨h1, h2⟩ := h
  refine ⟨⟨h1.1, ?_⟩, fun j x hx => ?_⟩
  · rcases h1.2 with h | ⟨g, cap, cur, hv, hg, hh, hrest⟩
    · exact Or.inl h
    · exact Or.inr ⟨g, cap, cur, hv, hg, (hk g hg (Array.getElem?_eq_some_iff.1 hh).1).trans hh, hrest⟩
  · obtain ⟨q0, q1, q2, q3, q4, q5, q6, q7, q8, e0, e1, e2, e3, e4, e5, e6, e7, hv, hf⟩ := h2 j x hx
    exact ⟨q0, q1, q2, q3, q4, q5, q6, q7, q8, e0, e1, e2, e3, e4, e5, e6, e7, ValAt.moved (fun b hb => hk b hb.1 hb.2.1) (fun b hb => ⟨hb.1, Nat.lt_of_lt_of_le hb.2.1 hz, hb.2.2⟩) _ _ _ hv, hf⟩

theorem live_grow {N : Nat} {wr wc w2 : World} {sv sv' : Value} (hb : Below wr.heap.size wr wc) (hg : wc.grownBy w2 sv.ownBlock) (hw : sv'.ownBlock = sv.ownBlock ∨ sv'.ownBlock = some wc.heap.size) :
    (∀ b, Live N wr sv b → w2.heap[b]? = wr.heap[b]?) ∧ (∀ b, Live N wr sv b → Live N w2 sv' b) := by
  have hs1 := hb.size
  have hs2 := hg.size
  refine ⟨fun b h => (hg.block b (by have := h.2.1; omega) h.2.2).trans (hb.block b h.2.1), fun b h => ⟨h.1, by have := h.2.1; omega, ?_⟩⟩
  rcases hw with e | e
  · rw [e]; exact h.2.2
  · rw [e]; intro e2; cases e2; have := h.2.1; omega

theorem WayTo.push {d N : Nat} {wr wc w2 : World} {sv sv' : Value} {xs : List (Tr (d + 2) × Stp)} {vs : List Value} {x : Tr (d + 2)} {p : Stp} {q0 q1 : Int} {q2 : ByteArray} {q3 : Option Addr} {q4 q5 : Nat} {q6 : Option Addr} {q7 q8 : Nat} (h : WayTo N wr sv xs vs) (hb : Below wr.heap.size wr wc)
    (hx : ValAt (Live N wr sv) wr (d + 2) x (.agg #[.int .i64 q0, .int .i64 q1, .string q2, .slice q3 q4 q5, .slice q6 q7 q8])) (hp : StpFit p)
    (hown : w2.ownsRow N 93 8 sv' (xs.length + 1) (vs ++ [.int .i64 q0, .int .i64 q1, .string q2, .slice q3 q4 q5, .slice q6 q7 q8, .bool p.map, .string p.key, .int .i64 p.place])) (hg : wc.grownBy w2 sv.ownBlock)
    (hw : sv'.ownBlock = sv.ownBlock ∨ sv'.ownBlock = some wc.heap.size) :
    WayTo N w2 sv' (xs ++ [(x, p)]) (vs ++ [.int .i64 q0, .int .i64 q1, .string q2, .slice q3 q4 q5, .slice q6 q7 q8, .bool p.map, .string p.key, .int .i64 p.place]) := by
  obtain ⟨h1, h2⟩ := h
  obtain ⟨hl1, hl2⟩ := live_grow (N := N) hb hg hw
  have hlen : vs.length = xs.length * 8 := h1.1
  refine ⟨by rw [List.length_append]; exact hown, fun j y hy => ?_⟩
  by_cases e : j < xs.length
  · rw [List.getElem?_append_left e] at hy
    obtain ⟨r0, r1, r2, r3, r4, r5, r6, r7, r8, e0, e1, e2, e3, e4, e5, e6, e7, hv, hf⟩ := h2 j y hy
    refine ⟨r0, r1, r2, r3, r4, r5, r6, r7, r8, ?_, ?_, ?_, ?_, ?_, ?_, ?_, ?_, ValAt.moved hl1 hl2 _ _ _ hv, hf⟩
    all_goals
      rw [List.getElem?_append_left (by omega)]
      assumption
  · have hj := (List.getElem?_eq_some_iff.1 hy).1
    simp only [List.length_append, List.length_cons, List.length_nil] at hj
    obtain rfl : j = xs.length := by omega
    rw [List.getElem?_append_right (Nat.le_refl _), Nat.sub_self] at hy
    cases hy
    refine ⟨q0, q1, q2, q3, q4, q5, q6, q7, q8, ?_, ?_, ?_, ?_, ?_, ?_, ?_, ?_, ValAt.moved hl1 hl2 _ _ _ hx, hp⟩
    all_goals
      rw [List.getElem?_append_right (by omega), hlen]
      simp

theorem cell_eight_new (w : World) (a b c d e f g h : Value) (t : TypeId) : ∀ j u, [a, b, c, d, e, f, g, h][j]? = some u → (w.alloc (.cells #[a, b, c, d, e, f, g, h] t)).cell? ((⟨w.heap.size, 0, none⟩ : Addr).add j) = some u := by
  intro j u hj
  have hadd : (⟨w.heap.size, 0, none⟩ : Addr).add j = ⟨w.heap.size, 0 + j, none⟩ := by unfold Addr.add; split <;> simp_all
  rw [hadd]
  rcases j with _ | _ | _ | _ | _ | _ | _ | _ | j
  · simp at hj; subst hj; simp
  · simp at hj; subst hj; simp
  · simp at hj; subst hj; simp
  · simp at hj; subst hj; simp
  · simp at hj; subst hj; simp
  · simp at hj; subst hj; simp
  · simp at hj; subst hj; simp
  · simp at hj; subst hj; simp
  · simp at hj
def zeroWay : Value := .agg #[.int .i64 0, .int .i64 0, .string ByteArray.empty, .slice none 0 0, .slice none 0 0, .bool false, .string ByteArray.empty, .int .i64 0]
theorem Tryz.infoWay : (Tryz.prog.info? 93).map (fun i => (i.zero, i.size, i.bytes)) = some (some zeroWay, 8, 112) := by kernel_rfl
end Go.Proofs.YtlpembhdojdomaaGreatDoor

/- What stands while a way is gone along. -/
namespace Go.Proofs.YtlpembhdojdomaaGreatDoor
open Go.RowKit Go.Deep

/-- What stands when j steps were looked at. -/
structure Along {d : Nat} (w : World) (t : Tr (d + 2)) (ps : List Stp) (wr : World) (j : Nat) (sv : Value) (okb : Bool) (x : Tr (d + 2)) (q0 q1 : Int) (q2 : ByteArray) (q3 : Option Addr) (q4 q5 : Nat) (q6 : Option Addr) (q7 q8 : Nat) (xs : List (Tr (d + 2) × Stp)) (vs : List Value) : Prop where
  box : Blk5 wr w.heap.size 29 (.int .i64 q0) (.int .i64 q1) (.string q2) (.slice q3 q4 q5) (.slice q6 q7 q8)
  res : Blk5 wr (w.heap.size + 1) 29 (.int .i64 0) (.int .i64 0) (.string { data := #[] }) (.slice none 0 0) (.slice none 0 0)
  val : ValOwn wr (d + 2) (Live (w.heap.size + 2) wr sv) x (.agg #[.int .i64 q0, .int .i64 q1, .string q2, .slice q3 q4 q5, .slice q6 q7 q8])
  below : Below w.heap.size w wr
  way : WayTo (w.heap.size + 2) wr sv xs vs
  lens : xs.length ≤ j
  told : (okb = true ∧ pathGetT d t ps = alongT d x (ps.drop j) ∧ xs ++ passT d x (ps.drop j) = passT d t ps) ∨ (okb = false ∧ x = zeroT (d + 1) ∧ pathGetT d t ps = (zeroT (d + 1), false))

section
variable {d : Nat} {w : World} {t : Tr (d + 2)} {ps : List Stp} {wr : World} {j : Nat} {sv : Value} {okb : Bool} {x : Tr (d + 2)} {q0 q1 : Int} {q2 : ByteArray} {q3 : Option Addr} {q4 q5 : Nat} {q6 : Option Addr} {q7 q8 : Nat} {xs : List (Tr (d + 2) × Stp)} {vs : List Value}

theorem Along.keep {w' : World} (h : Along w t ps wr j sv okb x q0 q1 q2 q3 q4 q5 q6 q7 q8 xs vs) (hb : Below wr.heap.size wr w') : Along w t ps w' j sv okb x q0 q1 q2 q3 q4 q5 q6 q7 q8 xs vs :=
  ⟨h.box.below hb, h.res.below hb, ValOwn.moved _ _ _ _ _ h.val (fun b hl => hb.block b hl.2.1) (fun _ hl => ⟨hl.1, Nat.lt_of_lt_of_le hl.2.1 hb.size, hl.2.2⟩), below_trans h.below hb, h.way.later (fun c _ hc => hb.block c hc) hb.size, h.lens, h.told⟩

theorem Along.end' (h : Along w t ps wr j sv okb x q0 q1 q2 q3 q4 q5 q6 q7 q8 xs vs) :
    ∀ wF, wF = set5 wr (w.heap.size + 1) 0 (.int .i64 q0) (.int .i64 q1) (.string q2) (.slice q3 q4 q5) (.slice q6 q7 q8) → ValOwn wF (d + 2) (Fresh w wF) x (.agg #[.int .i64 q0, .int .i64 q1, .string q2, .slice q3 q4 q5, .slice q6 q7 q8]) ∧ Below w.heap.size w wF ∧ WayTo (w.heap.size + 2) wF sv xs vs := by
  intro wF hF
  have hz : wF.heap.size = wr.heap.size := by rw [hF, set5_size]
  have hs : ∀ c, w.heap.size + 2 ≤ c → wF.heap[c]? = wr.heap[c]? := fun c hc => by rw [hF, set5_block _ _ _ _ _ _ _ _ _ (by omega)]
  refine ⟨ValOwn.moved _ _ _ _ _ h.val (fun b hl => hs b hl.1) (fun b hl => ⟨by have := hl.1; omega, by have := hl.2.1; omega⟩), ?_, h.way.later (fun c hc _ => hs c hc) (by omega)⟩
  rw [hF]
  exact below_set5 h.below (by omega) _ _ _ _ _ _

theorem Along.endD (h : Along w t ps wr j sv okb x q0 q1 q2 q3 q4 q5 q6 q7 q8 xs vs) :
    ∀ wF, wF = (set5 wr (w.heap.size + 1) 0 (.int .i64 q0) (.int .i64 q1) (.string q2) (.slice q3 q4 q5) (.slice q6 q7 q8)).drew → ValOwn wF (d + 2) (Fresh w wF) x (.agg #[.int .i64 q0, .int .i64 q1, .string q2, .slice q3 q4 q5, .slice q6 q7 q8]) ∧ Below w.heap.size w wF ∧ WayTo (w.heap.size + 2) wF sv xs vs := by
  intro wF hF
  have he := h.end'
  generalize set5 wr (w.heap.size + 1) 0 (.int .i64 q0) (.int .i64 q1) (.string q2) (.slice q3 q4 q5) (.slice q6 q7 q8) = W1 at hF he
  obtain ⟨h1, h2, h3⟩ := he W1 rfl
  subst hF
  exact ⟨ValOwn.moved _ _ _ _ _ h1 (fun _ _ => rfl) (fun _ hb => hb), ⟨h2.os, h2.tape, h2.output, h2.size, h2.block⟩, h3.later (fun _ _ _ => rfl) (Nat.le_refl _)⟩

/-- What stands behind the append. -/
theorem Along.grown {wc w2 : World} (h : Along w t ps wr j sv okb x q0 q1 q2 q3 q4 q5 q6 q7 q8 xs vs) (hb : Below wr.heap.size wr wc) (hg : wc.grownBy w2 sv.ownBlock) :
    (∀ b, b < w.heap.size + 2 → w2.heap[b]? = wr.heap[b]?) ∧ Below w.heap.size w w2 ∧ (∀ b, wr.heap.size ≤ b → b < wc.heap.size → w2.heap[b]? = wc.heap[b]?) := by
  have hlt := h.res.lt
  have hs1 := hb.size
  have hs2 := hg.size
  have hs0 := h.below.size
  have hN : ∀ g, sv.ownBlock = some g → w.heap.size + 2 ≤ g ∧ g < wr.heap.size := fun g hg => h.way.own.lt g hg
  have h1 : ∀ b, b < w.heap.size + 2 → w2.heap[b]? = wr.heap[b]? := fun b hb2 => (hg.block b (by omega) (fun e => by have := hN b e.symm; omega)).trans (hb.block b (by omega))
  refine ⟨h1, ⟨hg.os.trans (hb.os.trans h.below.os), hg.tape.trans (hb.tape.trans h.below.tape), hg.output.trans (hb.output.trans h.below.output), by omega, fun b hb2 => (h1 b (by omega)).trans (h.below.block b hb2)⟩, fun b hb1 hb2 => hg.block b hb2 (fun e => by have := hN b e.symm; omega)⟩

theorem Along.step {wc w2 w3 : World} {sv' : Value} {p : Stp} {u0 u1 : Int} {u2 : ByteArray} {u3 : Option Addr} {u4 u5 : Nat} {u6 : Option Addr} {u7 u8 : Nat} (h : Along w t ps wr j sv true x q0 q1 q2 q3 q4 q5 q6 q7 q8 xs vs) (hp : ps[j]? = some p) (hfit : StpFit p) (hb : Below wr.heap.size wr wc)
    (o1 : w2.ownsRow (w.heap.size + 2) 93 8 sv' (xs.length + 1) (vs ++ [.int .i64 q0, .int .i64 q1, .string q2, .slice q3 q4 q5, .slice q6 q7 q8, .bool p.map, .string p.key, .int .i64 p.place])) (o2 : wc.grownBy w2 sv.ownBlock) (o3 : sv'.ownBlock = sv.ownBlock ∨ sv'.ownBlock = some wc.heap.size)
    (hu : ValOwn w3 (d + 2) (Fresh w2 w3) (stepT d x p).1 (.agg #[.int .i64 u0, .int .i64 u1, .string u2, .slice u3 u4 u5, .slice u6 u7 u8])) (hb3 : Below w2.heap.size w2 w3) :
    ∀ wF, wF = set5 w3 w.heap.size 0 (.int .i64 u0) (.int .i64 u1) (.string u2) (.slice u3 u4 u5) (.slice u6 u7 u8) →
      Along w t ps wF (j + 1) sv' (stepT d x p).2 (stepT d x p).1 u0 u1 u2 u3 u4 u5 u6 u7 u8 (xs ++ [(x, p)]) (vs ++ [.int .i64 q0, .int .i64 q1, .string q2, .slice q3 q4 q5, .slice q6 q7 q8, .bool p.map, .string p.key, .int .i64 p.place]) := by
  intro wF hF
  obtain ⟨g1, g2, g3⟩ := h.grown hb o2
  have hz : wF.heap.size = w3.heap.size := by rw [hF, set5_size]
  have hs : ∀ c, w.heap.size < c → wF.heap[c]? = w3.heap[c]? := fun c hc => by rw [hF, set5_block _ _ _ _ _ _ _ _ _ (by omega)]
  have hs2 := o2.size
  have hs1 := hb.size
  have hs3 := hb3.size
  have hlt := h.res.lt
  have hw := h.way.push hb (ValOwn.at _ _ _ _ h.val) hfit o1 o2 o3
  have hown := fun g => o1.lt g
  refine ⟨?_, ?_, ?_, ?_, hw.later (fun c hc1 hc2 => by rw [hs c (by omega)]; exact hb3.block c hc2) (by omega), by rw [List.length_append]; have := h.lens; simp; omega, ?_⟩
  · rw [hF]
    exact (Blk5.of_block h.box (((hb3.block _ (by omega)).trans (g1 _ (by omega))))).set5 _ _ _ _ _
  · refine Blk5.of_block h.res ?_
    rw [hs _ (by omega), hb3.block _ (by omega), g1 _ (by omega)]
  · refine ValOwn.moved _ _ _ _ _ hu (fun b hf => hs b (by have := hf.1; omega)) (fun b hf => ⟨by have := hf.1; omega, by have := hf.2; omega, fun e => ?_⟩)
    have := (hown b e.symm).2
    have := hf.1
    omega
  · rw [hF]
    exact below_set5 (below_trans g2 hb3) (Nat.le_refl _) _ _ _ _ _ _
  · rcases h.told with ⟨_, h1, h2⟩ | ⟨h1, _⟩
    · cases hst : (stepT d x p).2 with
      | true => exact Or.inl ⟨rfl, h1.trans (alongT_on hp hst), by rw [List.append_assoc, ← h2, passT_on hp]; rfl⟩
      | false => exact Or.inr ⟨rfl, step_off hst, h1.trans (alongT_off hp hst)⟩
    · cases h1
end
/-- But block c all is as it was. -/
def ButB (c : Nat) (w w' : World) : Prop := ∀ b, b ≠ c → w'.heap[b]? = w.heap[b]?
theorem butb_refl {c : Nat} {w : World} : ButB c w w := fun _ _ => rfl
theorem butb_drew {c : Nat} {w w' : World} (h : ButB c w w') : ButB c w w'.drew := h
theorem butb_cell {c i : Nat} {w w' : World} {v : Value} (h : ButB c w w') : ButB c w (w'.setCell ⟨c, i, none⟩ v) := fun b hb => (Below.heap_setCell _ _ _ _ hb).trans (h b hb)
theorem butb_blk {c b : Nat} {w w' : World} {T : TypeId} {c0 c1 c2 c3 c4 : Value} (h : ButB c w w') (hb : b ≠ c) (k : Blk5 w b T c0 c1 c2 c3 c4) : Blk5 w' b T c0 c1 c2 c3 c4 := k.of_block (h b hb)
theorem pathOk_len {ps : List Stp} (h : pathOk ps = true) : ps.length ≤ 6 := by
  unfold pathOk at h
  rw [Bool.and_eq_true] at h
  exact of_decide_eq_true h.2
theorem size2' (w : World) (A B : Obj) : ((w.alloc A).alloc B).heap.size = w.heap.size + 1 + 1 := by simp
theorem size3' (w : World) (A B C : Obj) : (((w.alloc A).alloc B).alloc C).heap.size = w.heap.size + 1 + 1 + 1 := by simp
/-- The eight cells of a block. -/
theorem cells8 {w : World} {b : Nat} {T : TypeId} {c0 c1 c2 c3 c4 c5 c6 c7 : Value} (h : w.heap[b]? = some (.cells #[c0, c1, c2, c3, c4, c5, c6, c7] T (0, 0))) :
    w.cell? ⟨b, 0, none⟩ = some c0 ∧ w.cell? ⟨b, 1, none⟩ = some c1 ∧ w.cell? ⟨b, 2, none⟩ = some c2 ∧ w.cell? ⟨b, 3, none⟩ = some c3 ∧ w.cell? ⟨b, 4, none⟩ = some c4 ∧ w.cell? ⟨b, 5, none⟩ = some c5 ∧ w.cell? ⟨b, 6, none⟩ = some c6 ∧ w.cell? ⟨b, 7, none⟩ = some c7 := by
  simp [World.cell?, h]
end Go.Proofs.YtlpembhdojdomaaGreatDoor

/- next, along, PathGet of the program. -/
namespace Go.Proofs.YtlpembhdojdomaaGreatDoor
open Go.RowKit Go.Deep

set_option maxRecDepth 100000 in
set_option maxHeartbeats 4000000 in
theorem next_any (d : Nat) (S : Nat → Prop) (t : Tr (d + 2)) (p : Stp) (q0 q1 : Int) (q2 : ByteArray) (q3 : Option Addr) (q4 q5 : Nat) (q6 : Option Addr) (q7 q8 : Nat) (w : World) (hv : ValAt S w (d + 2) t (.agg #[.int .i64 q0, .int .i64 q1, .string q2, .slice q3 q4 q5, .slice q6 q7 q8])) (hS : Within S w) (hp : StpFit p) (hg : ErrType w) :
    Calls Tryz.prog 71 #[.agg #[.int .i64 q0, .int .i64 q1, .string q2, .slice q3 q4 q5, .slice q6 q7 q8, .bool p.map, .string p.key, .int .i64 p.place]] w (TellQ (d + 1) (stepT d t p).1 (stepT d t p).2 w) := by
  cases hm : p.map with
  | true =>
    have HS := hide (stepT_map (d := d) (t := t) hm)
    obtain ⟨W0, hW⟩ : ∃ W0, W0 = (w.alloc (.cells #[.int .i64 q0, .int .i64 q1, .string q2, .slice q3 q4 q5, .slice q6 q7 q8, .bool true, .string p.key, .int .i64 p.place] 93)).alloc (.cells #[.int .i64 0, .int .i64 0, .string { data := #[] }, .slice none 0 0, .slice none 0 0] 29) := ⟨_, rfl⟩
    have hW0 : Below w.heap.size w W0 := by rw [hW]; exact below_trans (below_alloc1 _ _) (below_alloc1 _ _)
    have k2 : Blk5 W0 (w.heap.size + 1) 29 (.int .i64 0) (.int .i64 0) (.string { data := #[] }) (.slice none 0 0) (.slice none 0 0) := by
      have := Blk5.new (w.alloc (.cells #[.int .i64 q0, .int .i64 q1, .string q2, .slice q3 q4 q5, .slice q6 q7 q8, .bool true, .string p.key, .int .i64 p.place] 93)) 29 (.int .i64 0) (.int .i64 0) (.string { data := #[] }) (.slice none 0 0) (.slice none 0 0)
      rw [World.size_alloc] at this
      rw [hW]
      exact this
    have hlt := k2.lt
    have HW := hide hW
    clear hW
    go_enter Tryz.func71, Tryz.ntmps71
    go_wp2_with fail
    rw [← HW.out]
    clear HW
    refine Calls.mono (implPartGet_any d S t _ p.key hp.1 W0 (hv.same (hS.same hW0)) (hS.later hW0.size) (hg.below hW0)) ?_
    rintro e w1 ⟨u, rfl, hu, hb1⟩
    obtain ⟨u0, u1, u2, u3, u4, u5, u6, u7, u8, rfl⟩ := (ValOwn.at _ _ _ _ hu).shape
    have HF := hide (tell_end hu (below_trans hW0 hb1) (show w.heap.size ≤ w.heap.size + 1 by omega) hlt)
    have k3 := k2.below hb1
    obtain ⟨y0, y1, y2, y3, y4⟩ := k3.cell
    have yf := k3.frozen
    clear k2 k3 hb1 hW0 hu hv
    go_wp2_with fail
    rw [HS.out]
    refine bodyPost_ret (v := .tuple #[.agg #[.int .i64 u0, .int .i64 u1, .string u2, .slice u3 u4 u5, .slice u6 u7 u8], .bool (partGetT d t p.key).2]) (by simp [results, Tryz.results71, go_sem, y0, y1, y2, y3, y4]) rfl ⟨_, rfl, ValOwn.up _ _ _ _ (HF.out _ rfl).1, (HF.out _ rfl).2⟩
  | false =>
    have HS := hide (stepT_place (d := d) (t := t) hm)
    obtain ⟨W0, hW⟩ : ∃ W0, W0 = (w.alloc (.cells #[.int .i64 q0, .int .i64 q1, .string q2, .slice q3 q4 q5, .slice q6 q7 q8, .bool false, .string p.key, .int .i64 p.place] 93)).alloc (.cells #[.int .i64 0, .int .i64 0, .string { data := #[] }, .slice none 0 0, .slice none 0 0] 29) := ⟨_, rfl⟩
    have hW0 : Below w.heap.size w W0 := by rw [hW]; exact below_trans (below_alloc1 _ _) (below_alloc1 _ _)
    have k2 : Blk5 W0 (w.heap.size + 1) 29 (.int .i64 0) (.int .i64 0) (.string { data := #[] }) (.slice none 0 0) (.slice none 0 0) := by
      have := Blk5.new (w.alloc (.cells #[.int .i64 q0, .int .i64 q1, .string q2, .slice q3 q4 q5, .slice q6 q7 q8, .bool false, .string p.key, .int .i64 p.place] 93)) 29 (.int .i64 0) (.int .i64 0) (.string { data := #[] }) (.slice none 0 0) (.slice none 0 0)
      rw [World.size_alloc] at this
      rw [hW]
      exact this
    have hlt := k2.lt
    have HW := hide hW
    clear hW
    go_enter Tryz.func71, Tryz.ntmps71
    go_wp2_with fail
    rw [← HW.out]
    clear HW
    refine Calls.mono (implPartAt_any d S t _ p.place hp.2 W0 (hv.same (hS.same hW0)) (hS.later hW0.size) (hg.below hW0)) ?_
    rintro e w1 ⟨u, rfl, hu, hb1⟩
    obtain ⟨u0, u1, u2, u3, u4, u5, u6, u7, u8, rfl⟩ := (ValOwn.at _ _ _ _ hu).shape
    have HF := hide (tell_end hu (below_trans hW0 hb1) (show w.heap.size ≤ w.heap.size + 1 by omega) hlt)
    have k3 := k2.below hb1
    obtain ⟨y0, y1, y2, y3, y4⟩ := k3.cell
    have yf := k3.frozen
    clear k2 k3 hb1 hW0 hu hv
    go_wp2_with fail
    rw [HS.out]
    refine bodyPost_ret (v := .tuple #[.agg #[.int .i64 u0, .int .i64 u1, .string u2, .slice u3 u4 u5, .slice u6 u7 u8], .bool (partAtT d t p.place).2]) (by simp [results, Tryz.results71, go_sem, y0, y1, y2, y3, y4]) rfl ⟨_, rfl, ValOwn.up _ _ _ _ (HF.out _ rfl).1, (HF.out _ rfl).2⟩

theorem told_given {d : Nat} {t : Tr (d + 1)} (h : okT (d + 1) t = true) : toldT d t = t := by rw [toldT, if_pos h]

set_option maxRecDepth 100000 in
set_option maxHeartbeats 4000000 in
theorem along_any (d : Nat) (S : Nat → Prop) (t : Tr (d + 2)) (v : Value) (S' : Nat → Prop) (ps : List Stp) (v' : Value) (w : World) (hv : ValAt S w (d + 2) t v) (hS : Within S w) (hv' : StepsAt S' w v' ps) (hS' : Within S' w) (hg : ErrType w) :
    Calls Tryz.prog 54 #[v, v'] w (fun e w' => ∃ sv u xs vs, e = .returned (.tuple #[sv, u, .bool (pathGetT d t ps).2]) ∧ ValOwn w' (d + 2) (Fresh w w') (pathGetT d t ps).1 u ∧ Below w.heap.size w w' ∧ WayTo (d := d) (w.heap.size + 2) w' sv xs vs ∧ ((pathGetT d t ps).2 = true → xs = passT d t ps)) := by
  obtain ⟨k, n, s, ak, lk, ck, al, ll, cl, rfl⟩ := hv.shape
  obtain ⟨a, cap, rfl, hlen⟩ := hv'.open'
  obtain ⟨W0, hW⟩ : ∃ W0, W0 = (w.alloc (.cells #[.int .i64 k, .int .i64 n, .string s, .slice ak lk ck, .slice al ll cl] 29)).alloc (.cells #[.int .i64 0, .int .i64 0, .string { data := #[] }, .slice none 0 0, .slice none 0 0] 29) := ⟨_, rfl⟩
  have hW0 : Below w.heap.size w W0 := by rw [hW]; exact below_trans (below_alloc1 _ _) (below_alloc1 _ _)
  have k0 : Blk5 W0 w.heap.size 29 (.int .i64 k) (.int .i64 n) (.string s) (.slice ak lk ck) (.slice al ll cl) := by
    rw [hW]; exact (Blk5.new w 29 _ _ _ _ _).alloc _
  have k1 : Blk5 W0 (w.heap.size + 1) 29 (.int .i64 0) (.int .i64 0) (.string { data := #[] }) (.slice none 0 0) (.slice none 0 0) := by
    have := Blk5.new (w.alloc (.cells #[.int .i64 k, .int .i64 n, .string s, .slice ak lk ck, .slice al ll cl] 29)) 29 (.int .i64 0) (.int .i64 0) (.string { data := #[] }) (.slice none 0 0) (.slice none 0 0)
    rw [World.size_alloc] at this
    rw [hW]
    exact this
  have HW := hide hW
  clear hW
  go_enter Tryz.func54, Tryz.ntmps54
  go_wp2_with fail
  rw [← HW.out]
  clear HW
  refine (implPathOk_any S' ps _ W0 (hv'.same (hS'.same hW0)) (hS'.later hW0.size)).mono ?_
  rintro e w1 ⟨rfl, hb1⟩
  replace k0 := k0.below hb1
  replace k1 := k1.below hb1
  have hB1 := below_trans hW0 hb1
  have hlt1 := k1.lt
  clear hb1 hW0
  cases hpo : pathOk ps with
  | false =>
    have hz : Hid (pathGetT d t ps = (zeroT (d + 1), false)) := by
      show pathGetT d t ps = _
      rw [pathGetT, if_neg (by rw [hpo]; simp)]
    have hN : Hid (∀ wF, wF = set5 w1 (w.heap.size + 1) 0 (.int .i64 0) (.int .i64 0) (.string { data := #[] }) (.slice none 0 0) (.slice none 0 0) → Below w.heap.size w wF) := by
      intro wF hF
      rw [hF]
      exact below_set5 hB1 (by omega) _ _ _ _ _ _
    obtain ⟨y0, y1, y2, y3, y4⟩ := k1.cell
    have yf := k1.frozen
    clear k0 k1 hB1 hv
    go_wp2_with fail
    rw [hz.out]
    refine bodyPost_ret (v := .tuple #[.slice none 0 0, zeroVal, .bool false]) (by simp [results, Tryz.results54, go_sem, zeroVal, y0, y1, y2, y3, y4]; rfl) rfl ⟨_, _, [], [], rfl, zeroVal_own (d + 1) _ _, hN.out _ rfl, WayTo.start _ _, fun h => by cases h⟩
  | true =>
    obtain ⟨x0, x1, x2, x3, x4⟩ := k0.cell
    go_wp2_with fail
    refine (given_any (d + 2) S t _ w1 (hv.same (hS.same hB1)) (hS.later hB1.size)).mono ?_
    rintro e w2 ⟨hb2, hq⟩
    replace k0 := k0.below hb2
    replace k1 := k1.below hb2
    have hlt12 : w.heap.size + 2 ≤ w2.heap.size := by have := hb2.size; omega
    have hB2 := below_trans hB1 hb2
    have hg2 := hg.below hB2
    have HQ : Hid (∃ r : Value × Value, e = .returned (.tuple #[r.1, r.2]) ∧ Calls Tryz.prog 36 #[r.1, r.2] w2 (fun e w' => ∃ (x : Tr (d + 2)) (okb : Bool) (q0 q1 : Int) (q2 : ByteArray) (q3 : Option Addr) (q4 q5 : Nat) (q6 : Option Addr) (q7 q8 : Nat), e = .returned (.tuple #[.agg #[.int .i64 q0, .int .i64 q1, .string q2, .slice q3 q4 q5, .slice q6 q7 q8], .bool okb]) ∧ ValOwn w' (d + 2) (Fresh w2 w') x (.agg #[.int .i64 q0, .int .i64 q1, .string q2, .slice q3 q4 q5, .slice q6 q7 q8]) ∧ Below w2.heap.size w2 w' ∧ ((okb = true ∧ x = t ∧ okT (d + 2) t = true) ∨ (okb = false ∧ x = zeroT (d + 1) ∧ pathGetT d t ps = (zeroT (d + 1), false))))) := by
      rcases hq with ⟨hok, u, rfl, hu⟩ | ⟨hok, why, rfl⟩
      · refine ⟨(u, .nilIface), rfl, ?_⟩
        refine Calls.mono (told_tree (d + 1) _ t u w2 hu (Fresh.within _ _)) ?_
        rintro e w3 ⟨x, rfl, hx, hb3⟩
        rw [told_given hok] at hx
        obtain ⟨u0, u1, u2, u3, u4, u5, u6, u7, u8, rfl⟩ := (ValOwn.at _ _ _ _ hx).shape
        exact ⟨t, true, u0, u1, u2, u3, u4, u5, u6, u7, u8, by rw [hok], hx, hb3, Or.inl ⟨rfl, rfl, hok⟩⟩
      · refine ⟨(.nilIface, faultV why), rfl, ?_⟩
        refine Calls.mono (told_fault (d + 1) .nilIface why w2 hg2) ?_
        rintro e w3 ⟨x, rfl, hx, hb3⟩
        obtain ⟨u0, u1, u2, u3, u4, u5, u6, u7, u8, rfl⟩ := (ValOwn.at _ _ _ _ hx).shape
        exact ⟨zeroT (d + 1), false, u0, u1, u2, u3, u4, u5, u6, u7, u8, rfl, hx, hb3, Or.inr ⟨rfl, rfl, by rw [pathGetT, if_neg (by rw [hok]; simp)]⟩⟩
    clear hq hb2 hB1 x0 x1 x2 x3 x4
    obtain ⟨⟨r1, r2⟩, rfl, hcall⟩ := HQ.out
    have HC := hide hcall
    clear hcall HQ
    go_wp2_with fail
    refine Calls.mono HC.out ?_
    rintro e w3 ⟨x, okb, q0, q1, q2, q3, q4, q5, q6, q7, q8, rfl, hx, hb3, hcase⟩
    have HX := hide hx
    have HCA := hide hcase
    replace k0 := k0.below hb3
    replace k1 := k1.below hb3
    have hB3 := below_trans hB2 hb3
    have hlt2 := k1.lt
    have hw2 : w.heap.size + 2 ≤ w2.heap.size := hlt12
    obtain ⟨x0, x1, x2, x3, x4⟩ := k0.cell
    have xf := k0.frozen
    have H0 : Hid (∀ wF, wF = set5 w3 w.heap.size 0 (.int .i64 q0) (.int .i64 q1) (.string q2) (.slice q3 q4 q5) (.slice q6 q7 q8) → Along (d := d) w t ps wF 0 (.slice none 0 0) okb x q0 q1 q2 q3 q4 q5 q6 q7 q8 [] []) := by
      intro wF hF
      have hz : wF.heap.size = w3.heap.size := by rw [hF, set5_size]
      have hs : ∀ c, w.heap.size < c → wF.heap[c]? = w3.heap[c]? := fun c hc => by rw [hF, set5_block _ _ _ _ _ _ _ _ _ (by omega)]
      refine ⟨by rw [hF]; exact k0.set5 _ _ _ _ _, k1.of_block (hs _ (by omega)), ValOwn.moved _ _ _ _ _ HX.out (fun b hb => hs b (by have := hb.1; omega)) (fun b hb => ⟨by have := hb.1; omega, by have := hb.2; omega, by intro e; cases e⟩), by rw [hF]; exact below_set5 hB3 (Nat.le_refl _) _ _ _ _ _ _, WayTo.start _ _, Nat.le_refl _, ?_⟩
      rcases HCA.out with ⟨h1, h2, h3⟩ | ⟨h1, h2, h3⟩
      · subst h2
        exact Or.inl ⟨h1, by rw [pathGetT, if_pos ⟨h3, hpo⟩]; rfl, rfl⟩
      · exact Or.inr ⟨h1, h2, h3⟩
    clear hx hcase HC k0 k1 hB2 hB3 HX HCA hg2 hb3 hw2 hlt2
    go_wp2_with fail
    go_loopw [7, 8, 26] (fun sv okv i wr => ∃ (j : Nat) (okb : Bool) (x : Tr (d + 2)) (q0 q1 : Int) (q2 : ByteArray) (q3 : Option Addr) (q4 q5 : Nat) (q6 : Option Addr) (q7 q8 : Nat) (xs : List (Tr (d + 2) × Stp)) (vs : List Value), j ≤ ps.length ∧ i = .int .i64 j ∧ okv = .bool okb ∧ Hid (Along w t ps wr j sv okb x q0 q1 q2 q3 q4 q5 q6 q7 q8 xs vs)) (fun _ _ i _ => ps.length - (intOf i).toNat)
    case atStart => exact ⟨0, okb, x, q0, q1, q2, q3, q4, q5, q6, q7, q8, [], [], Nat.zero_le _, rfl, rfl, H0.out _ rfl⟩
    case round =>
      clear H0 x0 x1 x2 x3 x4 xf
      obtain ⟨j, okb, x, q0, q1, q2, q3, q4, q5, q6, q7, q8, xs, vs, hj, rfl, rfl, hal⟩ := hrel
      by_cases hjl : j < ps.length
      · obtain ⟨b, o, p, rfl, hb, hp, hfit, e0, e1, e2⟩ := (hv'.same (hS'.same hal.out.below)).cell hjl
        have HP := hide hp
        have HS' := hide hv'
        clear hp hv'
        cases okb with
        | false =>
          have hal2 := hide (hal.out.keep (below_alloc1 wr (.cells #[.bool p.map, .string p.key, .int .i64 p.place] 85)))
          have HE := hide hal2.out.endD
          obtain ⟨y0, y1, y2, y3, y4⟩ := hal2.out.box.cell
          obtain ⟨z0, z1, z2, z3, z4⟩ := hal2.out.res.cell
          have zf := hal2.out.res.frozen
          have hT : Hid (x = zeroT (d + 1) ∧ pathGetT d t ps = (zeroT (d + 1), false)) := by
            rcases hal.out.told with ⟨h1, _⟩ | ⟨_, h2, h3⟩
            · cases h1
            · exact ⟨h2, h3⟩
          have HK : Hid (∀ W' : World, ButB (w.heap.size + 1) (wr.alloc (.cells #[.bool p.map, .string p.key, .int .i64 p.place] 85)) W' → W'.cell? ⟨w.heap.size, 0, none⟩ = some (.int .i64 q0) ∧ W'.cell? ⟨w.heap.size, 1, none⟩ = some (.int .i64 q1) ∧ W'.cell? ⟨w.heap.size, 2, none⟩ = some (.string q2) ∧ W'.cell? ⟨w.heap.size, 3, none⟩ = some (.slice q3 q4 q5) ∧ W'.cell? ⟨w.heap.size, 4, none⟩ = some (.slice q6 q7 q8)) := fun W' h => (butb_blk h (by omega) hal2.out.box).cell
          clear hal hal2 y0 y1 y2 y3 y4
          go_wp2_with fail
          go_region_held (fun w' => w'.cell? ⟨w.heap.size, 0, none⟩ = some (.int .i64 q0) ∧ w'.cell? ⟨w.heap.size, 1, none⟩ = some (.int .i64 q1) ∧ w'.cell? ⟨w.heap.size, 2, none⟩ = some (.string q2) ∧ w'.cell? ⟨w.heap.size, 3, none⟩ = some (.slice q3 q4 q5) ∧ w'.cell? ⟨w.heap.size, 4, none⟩ = some (.slice q6 q7 q8)) ((refine HK.out _ ?_; repeat (first | with_reducible exact butb_refl | with_reducible refine butb_cell ?_ | with_reducible refine butb_drew ?_))) (fail)
          all_goals
            go_wp2_with fail
            rw [hT.out.2]
            refine bodyPost_ret (v := .tuple #[u7, .agg #[.int .i64 q0, .int .i64 q1, .string q2, .slice q3 q4 q5, .slice q6 q7 q8], .bool false]) (by simp [results, Tryz.results54, go_sem, z0, z1, z2, z3, z4]) rfl ⟨_, _, xs, vs, rfl, by rw [← hT.out.1]; exact (HE.out _ rfl).1, (HE.out _ rfl).2.1, (HE.out _ rfl).2.2, fun h => by cases h⟩
        | true =>
          obtain ⟨y0, y1, y2, y3, y4⟩ := hal.out.box.cell
          have hNN := hal.out.box.lt
          have hA1 := below_alloc1 wr (.cells #[.bool p.map, .string p.key, .int .i64 p.place] 85)
          have hB2 := below_trans hA1 (below_alloc1 (wr.alloc (.cells #[.bool p.map, .string p.key, .int .i64 p.place] 85)) (.cells #[.int .i64 q0, .int .i64 q1, .string q2, .slice q3 q4 q5, .slice q6 q7 q8, .bool p.map, .string p.key, .int .i64 p.place] 93))
          have hB3 := below_trans hB2 (below_alloc1 ((wr.alloc (.cells #[.bool p.map, .string p.key, .int .i64 p.place] 85)).alloc (.cells #[.int .i64 q0, .int .i64 q1, .string q2, .slice q3 q4 q5, .slice q6 q7 q8, .bool p.map, .string p.key, .int .i64 p.place] 93)) (.cells #[.int .i64 q0, .int .i64 q1, .string q2, .slice q3 q4 q5, .slice q6 q7 q8, .bool p.map, .string p.key, .int .i64 p.place] 93))
          have hox := hide ((((hal.out.keep hB3).way).own))
          have hcell : ∀ j u, [.int .i64 q0, .int .i64 q1, .string q2, .slice q3 q4 q5, .slice q6 q7 q8, .bool p.map, .string p.key, .int .i64 p.place][j]? = some u → (((wr.alloc (.cells #[.bool p.map, .string p.key, .int .i64 p.place] 85)).alloc (.cells #[.int .i64 q0, .int .i64 q1, .string q2, .slice q3 q4 q5, .slice q6 q7 q8, .bool p.map, .string p.key, .int .i64 p.place] 93)).alloc (.cells #[.int .i64 q0, .int .i64 q1, .string q2, .slice q3 q4 q5, .slice q6 q7 q8, .bool p.map, .string p.key, .int .i64 p.place] 93)).cell? ((⟨wr.heap.size + 1 + 1, 0, none⟩ : Addr).add j) = some u := by
            have h := cell_eight_new ((wr.alloc (.cells #[.bool p.map, .string p.key, .int .i64 p.place] 85)).alloc (.cells #[.int .i64 q0, .int .i64 q1, .string q2, .slice q3 q4 q5, .slice q6 q7 q8, .bool p.map, .string p.key, .int .i64 p.place] 93)) (.int .i64 q0) (.int .i64 q1) (.string q2) (.slice q3 q4 q5) (.slice q6 q7 q8) (.bool p.map) (.string p.key) (.int .i64 p.place) 93
            rw [size2'] at h
            exact h
          have HCELL := hide hcell
          have hlens := hal.out.lens
          have h6 := pathOk_len hpo
          have hszw := hal.out.below.size
          have hres := hal.out.res.lt
          obtain ⟨i0, hi, hz0, hz1, hz2⟩ := info_parts Tryz.infoWay
          have HB3 := hide hB3
          clear hA1 hB2 hB3 hcell
          go_wp2_with (at_builtin; refine wpList_append_own_at _ rfl _ _ 87 rfl (w.heap.size + 2) 93 i0 zeroWay 8 112 Tryz.underlying87 hi hz0 hz1 hz2 rfl (by decide) _ _ _ rfl hox.out ⟨wr.heap.size + 1 + 1, 0, none⟩ 1 1 [.int .i64 q0, .int .i64 q1, .string q2, .slice q3 q4 q5, .slice q6 q7 q8, .bool p.map, .string p.key, .int .i64 p.place] rfl rfl HCELL.out ?c2 ?c3 ?c4 ?c5 ?_)
          case c2 => intro y hy; simp at hy; rcases hy with rfl | rfl | rfl | rfl | rfl | rfl | rfl | rfl <;> rfl
          case c3 => unfold maxLen; omega
          case c4 => omega
          case c5 => simp; omega
          · intro sv' w2 o1 o2 _ o3
            have o3' : sv'.ownBlock = u7.ownBlock ∨ sv'.ownBlock = some (((wr.alloc (.cells #[.bool p.map, .string p.key, .int .i64 p.place] 85)).alloc (.cells #[.int .i64 q0, .int .i64 q1, .string q2, .slice q3 q4 q5, .slice q6 q7 q8, .bool p.map, .string p.key, .int .i64 p.place] 93)).alloc (.cells #[.int .i64 q0, .int .i64 q1, .string q2, .slice q3 q4 q5, .slice q6 q7 q8, .bool p.map, .string p.key, .int .i64 p.place] 93)).heap.size := by
              rw [size3']
              exact o3
            obtain ⟨g1, g2, g3⟩ := hal.out.grown HB3.out o2
            have hfb : w2.heap[wr.heap.size + 1]? = some (.cells #[.int .i64 q0, .int .i64 q1, .string q2, .slice q3 q4 q5, .slice q6 q7 q8, .bool p.map, .string p.key, .int .i64 p.place] 93 (0, 0)) := by
              rw [g3 _ (by omega) (by rw [size3']; omega)]
              have h := heap_alloc_new (wr.alloc (.cells #[.bool p.map, .string p.key, .int .i64 p.place] 85)) (.cells #[.int .i64 q0, .int .i64 q1, .string q2, .slice q3 q4 q5, .slice q6 q7 q8, .bool p.map, .string p.key, .int .i64 p.place] 93 (0, 0))
              rw [World.size_alloc] at h
              exact (Below.heap_alloc _ _ _ (by rw [size2']; omega)).trans h
            obtain ⟨f0, f1, f2, f3, f4, f5, f6, f7⟩ := cells8 hfb
            obtain ⟨hl1, hl2⟩ := live_grow (N := w.heap.size + 2) HB3.out o2 o3'
            have hcall := hide (next_any d _ x p q0 q1 q2 q3 q4 q5 q6 q7 q8 w2 (ValAt.moved hl1 hl2 _ _ _ (ValOwn.at _ _ _ _ hal.out.val)) (fun b hb => hb.2.1) hfit (hg.below g2))
            have hbx := hide (hal.out.box.of_block (g1 _ (by omega)))
            have HST : Hid (∀ (u0 u1 : Int) (u2 : ByteArray) (u3 : Option Addr) (u4 u5 : Nat) (u6 : Option Addr) (u7' u8 : Nat) (w3 : World), ValOwn w3 (d + 2) (Fresh w2 w3) (stepT d x p).1 (.agg #[.int .i64 u0, .int .i64 u1, .string u2, .slice u3 u4 u5, .slice u6 u7' u8]) → Below w2.heap.size w2 w3 → ∀ wF, wF = set5 w3 w.heap.size 0 (.int .i64 u0) (.int .i64 u1) (.string u2) (.slice u3 u4 u5) (.slice u6 u7' u8) →
              Along w t ps wF (j + 1) sv' (stepT d x p).2 (stepT d x p).1 u0 u1 u2 u3 u4 u5 u6 u7' u8 (xs ++ [(x, p)]) (vs ++ [.int .i64 q0, .int .i64 q1, .string q2, .slice q3 q4 q5, .slice q6 q7 q8, .bool p.map, .string p.key, .int .i64 p.place])) :=
              fun u0 u1 u2 u3 u4 u5 u6 u7' u8 w3 hu hb3 => hal.out.step HP.out hfit HB3.out o1 o2 o3' hu hb3
            clear o1 o2 o3 o3' g1 g2 g3 hfb hl1 hl2 hal HB3 HCELL hox y0 y1 y2 y3 y4 e0 e1 e2 hNN
            go_wp2_with fail
            refine Calls.mono hcall.out ?_
            rintro e w3 ⟨u, rfl, hu, hb3⟩
            obtain ⟨a0, a1, a2, a3, a4, a5, a6, a7, a8, rfl⟩ := (ValOwn.at _ _ _ _ hu).shape
            have HR := hide (HST.out _ _ _ _ _ _ _ _ _ w3 hu hb3)
            have hbx3 := hbx.out.below hb3
            obtain ⟨y0, y1, y2, y3, y4⟩ := hbx3.cell
            have yf := hbx3.frozen
            clear hu hb3 HST hcall hbx hbx3 f0 f1 f2 f3 f4 f5 f6 f7
            go_wp2_with fail
            go_roundw
            case rel => exact ⟨j + 1, _, _, a0, a1, a2, a3, a4, a5, a6, a7, a8, _, _, by omega, by go_num, rfl, HR.out _ rfl⟩
            case measure => simp [intOf]; omega
      · obtain rfl : j = ps.length := by omega
        have HE := hide hal.out.endD
        obtain ⟨y0, y1, y2, y3, y4⟩ := hal.out.box.cell
        obtain ⟨z0, z1, z2, z3, z4⟩ := hal.out.res.cell
        have zf := hal.out.res.frozen
        have hT : Hid (pathGetT d t ps = (x, okb) ∧ (okb = true → xs = passT d t ps)) := by
          rcases hal.out.told with ⟨h1, h2, h3⟩ | ⟨h1, h2, h3⟩
          · refine ⟨by rw [h2, h1, alongT_end], fun _ => ?_⟩
            rw [List.drop_eq_nil_of_le (Nat.le_refl _), passT, List.append_nil] at h3
            exact h3
          · exact ⟨by rw [h3, h1, h2], fun h => by rw [h1] at h; cases h⟩
        have HK : Hid (∀ W' : World, ButB (w.heap.size + 1) wr W' → W'.cell? ⟨w.heap.size, 0, none⟩ = some (.int .i64 q0) ∧ W'.cell? ⟨w.heap.size, 1, none⟩ = some (.int .i64 q1) ∧ W'.cell? ⟨w.heap.size, 2, none⟩ = some (.string q2) ∧ W'.cell? ⟨w.heap.size, 3, none⟩ = some (.slice q3 q4 q5) ∧ W'.cell? ⟨w.heap.size, 4, none⟩ = some (.slice q6 q7 q8)) := fun W' h => (butb_blk h (by omega) hal.out.box).cell
        clear hal y0 y1 y2 y3 y4
        go_wp2_with fail
        go_region_held (fun w' => w'.cell? ⟨w.heap.size, 0, none⟩ = some (.int .i64 q0) ∧ w'.cell? ⟨w.heap.size, 1, none⟩ = some (.int .i64 q1) ∧ w'.cell? ⟨w.heap.size, 2, none⟩ = some (.string q2) ∧ w'.cell? ⟨w.heap.size, 3, none⟩ = some (.slice q3 q4 q5) ∧ w'.cell? ⟨w.heap.size, 4, none⟩ = some (.slice q6 q7 q8)) ((refine HK.out _ ?_; repeat (first | with_reducible exact butb_refl | with_reducible refine butb_cell ?_ | with_reducible refine butb_drew ?_))) (fail)
        all_goals
          go_wp2_with fail
          rw [hT.out.1]
          refine bodyPost_ret (v := .tuple #[u7, .agg #[.int .i64 q0, .int .i64 q1, .string q2, .slice q3 q4 q5, .slice q6 q7 q8], .bool okb]) (by simp [results, Tryz.results54, go_sem, z0, z1, z2, z3, z4]) rfl ⟨_, _, xs, vs, rfl, (HE.out _ rfl).1, (HE.out _ rfl).2.1, (HE.out _ rfl).2.2, hT.out.2⟩
end Go.Proofs.YtlpembhdojdomaaGreatDoor
