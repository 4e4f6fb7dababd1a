/- The trees that were passed on a way, as they lie on the stack. -/
import Derived.Test.YtlpembhdojdomaaGreatDoorWPathP
import Derived.Test.YtlpembhdojdomaaGreatDoorWValA
namespace Go.Proofs.YtlpembhdojdomaaGreatDoor
open Go.RowKit Go.Deep

/-- Blocks from N on, without the stack's own. -/
def Live (N : Nat) (w : World) (sv : Value) (b : Nat) : Prop := N ≤ b ∧ b < w.heap.size ∧ some b ≠ sv.ownBlock
/-- All that is passed on a way. -/
def passT (d : Nat) : Tr (d + 2) → List Stp → List (Tr (d + 2) × Stp)
  | _, [] => []
  | t, p :: r => (t, p) :: passT d (stepT d t p).1 r
theorem passT_on {d : Nat} {t : Tr (d + 2)} {ps : List Stp} {k : Nat} {p : Stp} (hp : ps[k]? = some p) : passT d t (ps.drop k) = (t, p) :: passT d (stepT d t p).1 (ps.drop (k + 1)) := by
  obtain ⟨hk, e⟩ := List.getElem?_eq_some_iff.1 hp
  rw [List.drop_eq_getElem_cons hk, e, passT]

/-- What lies on the stack. -/
structure WayTo {d : Nat} (N : Nat) (w : World) (sv : Value) (xs : List (Tr (d + 2) × Stp)) (vs : List Value) : Prop where
  own : w.ownsRow N 93 8 sv xs.length vs
  val : ∀ j x, xs[j]? = some x → ∃ q0 q1 q2 q3 q4 q5 q6 q7 q8, vs[j * 8]? = some (.int .i64 q0) ∧ vs[j * 8 + 1]? = some (.int .i64 q1) ∧ vs[j * 8 + 2]? = some (.string q2) ∧ vs[j * 8 + 3]? = some (.slice q3 q4 q5) ∧ vs[j * 8 + 4]? = some (.slice q6 q7 q8) ∧
    vs[j * 8 + 5]? = some (.bool x.2.map) ∧ vs[j * 8 + 6]? = some (.string x.2.key) ∧ vs[j * 8 + 7]? = some (.int .i64 x.2.place) ∧ ValAt (Live N w sv) w (d + 2) x.1 (.agg #[.int .i64 q0, .int .i64 q1, .string q2, .slice q3 q4 q5, .slice q6 q7 q8]) ∧ StpFit x.2

theorem WayTo.start {d : Nat} (N : Nat) (w : World) : WayTo (d := d) N w (.slice none 0 0) [] [] :=
  ⟨World.ownsRow_nil _ _ _ _, fun j x hj => by simp at hj⟩
theorem WayTo.later {d N : Nat} {w w' : World} {sv : Value} {xs : List (Tr (d + 2) × Stp)} {vs : List Value} (h : WayTo N w sv xs vs) (hk : ∀ c, N ≤ c → c < w.heap.size → w'.heap[c]? = w.heap[c]?) (hz : w.heap.size ≤ w'.heap.size) : WayTo N w' sv xs vs := by
  obtain ⟨h1, h2⟩ := h
  refine ⟨⟨h1.1, ?_⟩, fun j x hx => ?_⟩
  · rcases h1.2 with h | ⟨g, cap, cur, hv, hg, hh, hrest⟩
    · exact Or.inl h
    · exact Or.inr ⟨g, cap, cur, hv, hg, (hk g hg (Array.getElem?_eq_some_iff.1 hh).1).trans hh, hrest⟩
  · obtain ⟨q0, q1, q2, q3, q4, q5, q6, q7, q8, e0, e1, e2, e3, e4, e5, e6, e7, hv, hf⟩ := h2 j x hx
    exact ⟨q0, q1, q2, q3, q4, q5, q6, q7, q8, e0, e1, e2, e3, e4, e5, e6, e7, ValAt.moved (fun b hb => hk b hb.1 hb.2.1) (fun b hb => ⟨hb.1, Nat.lt_of_lt_of_le hb.2.1 hz, hb.2.2⟩) _ _ _ hv, hf⟩

theorem live_grow {N : Nat} {wr wc w2 : World} {sv sv' : Value} (hb : Below wr.heap.size wr wc) (hg : wc.grownBy w2 sv.ownBlock) (hw : sv'.ownBlock = sv.ownBlock ∨ sv'.ownBlock = some wc.heap.size) :
    (∀ b, Live N wr sv b → w2.heap[b]? = wr.heap[b]?) ∧ (∀ b, Live N wr sv b → Live N w2 sv' b) := by
  have hs1 := hb.size
  have hs2 := hg.size
  refine ⟨fun b h => (hg.block b (by have := h.2.1; omega) h.2.2).trans (hb.block b h.2.1), fun b h => ⟨h.1, by have := h.2.1; omega, ?_⟩⟩
  rcases hw with e | e
  · rw [e]; exact h.2.2
  · rw [e]; intro e2; cases e2; have := h.2.1; omega

theorem WayTo.push {d N : Nat} {wr wc w2 : World} {sv sv' : Value} {xs : List (Tr (d + 2) × Stp)} {vs : List Value} {x : Tr (d + 2)} {p : Stp} {q0 q1 : Int} {q2 : ByteArray} {q3 : Option Addr} {q4 q5 : Nat} {q6 : Option Addr} {q7 q8 : Nat} (h : WayTo N wr sv xs vs) (hb : Below wr.heap.size wr wc)
    (hx : ValAt (Live N wr sv) wr (d + 2) x (.agg #[.int .i64 q0, .int .i64 q1, .string q2, .slice q3 q4 q5, .slice q6 q7 q8])) (hp : StpFit p)
    (hown : w2.ownsRow N 93 8 sv' (xs.length + 1) (vs ++ [.int .i64 q0, .int .i64 q1, .string q2, .slice q3 q4 q5, .slice q6 q7 q8, .bool p.map, .string p.key, .int .i64 p.place])) (hg : wc.grownBy w2 sv.ownBlock)
    (hw : sv'.ownBlock = sv.ownBlock ∨ sv'.ownBlock = some wc.heap.size) :
    WayTo N w2 sv' (xs ++ [(x, p)]) (vs ++ [.int .i64 q0, .int .i64 q1, .string q2, .slice q3 q4 q5, .slice q6 q7 q8, .bool p.map, .string p.key, .int .i64 p.place]) := by
  obtain ⟨h1, h2⟩ := h
  obtain ⟨hl1, hl2⟩ := live_grow (N := N) hb hg hw
  have hlen : vs.length = xs.length * 8 := h1.1
  refine ⟨by rw [List.length_append]; exact hown, fun j y hy => ?_⟩
  by_cases e : j < xs.length
  · rw [List.getElem?_append_left e] at hy
    obtain ⟨r0, r1, r2, r3, r4, r5, r6, r7, r8, e0, e1, e2, e3, e4, e5, e6, e7, hv, hf⟩ := h2 j y hy
    refine ⟨r0, r1, r2, r3, r4, r5, r6, r7, r8, ?_, ?_, ?_, ?_, ?_, ?_, ?_, ?_, ValAt.moved hl1 hl2 _ _ _ hv, hf⟩
    all_goals
      rw [List.getElem?_append_left (by omega)]
      assumption
  · have hj := (List.getElem?_eq_some_iff.1 hy).1
    simp only [List.length_append, List.length_cons, List.length_nil] at hj
    obtain rfl : j = xs.length := by omega
    rw [List.getElem?_append_right (Nat.le_refl _), Nat.sub_self] at hy
    cases hy
    refine ⟨q0, q1, q2, q3, q4, q5, q6, q7, q8, ?_, ?_, ?_, ?_, ?_, ?_, ?_, ?_, ValAt.moved hl1 hl2 _ _ _ hx, hp⟩
    all_goals
      rw [List.getElem?_append_right (by omega), hlen]
      simp

theorem cell_eight_new (w : World) (a b c d e f g h : Value) (t : TypeId) : ∀ j u, [a, b, c, d, e, f, g, h][j]? = some u → (w.alloc (.cells #[a, b, c, d, e, f, g, h] t)).cell? ((⟨w.heap.size, 0, none⟩ : Addr).add j) = some u := by
  intro j u hj
  have hadd : (⟨w.heap.size, 0, none⟩ : Addr).add j = ⟨w.heap.size, 0 + j, none⟩ := by unfold Addr.add; split <;> simp_all
  rw [hadd]
  rcases j with _ | _ | _ | _ | _ | _ | _ | _ | j
  · simp at hj; subst hj; simp
  · simp at hj; subst hj; simp
  · simp at hj; subst hj; simp
  · simp at hj; subst hj; simp
  · simp at hj; subst hj; simp
  · simp at hj; subst hj; simp
  · simp at hj; subst hj; simp
  · simp at hj; subst hj; simp
  · simp at hj
def zeroWay : Value := .agg #[.int .i64 0, .int .i64 0, .string ByteArray.empty, .slice none 0 0, .slice none 0 0, .bool false, .string ByteArray.empty, .int .i64 0]
theorem Tryz.infoWay : (Tryz.prog.info? 93).map (fun i => (i.zero, i.size, i.bytes)) = some (some zeroWay, 8, 112) := by kernel_rfl
end Go.Proofs.YtlpembhdojdomaaGreatDoor
