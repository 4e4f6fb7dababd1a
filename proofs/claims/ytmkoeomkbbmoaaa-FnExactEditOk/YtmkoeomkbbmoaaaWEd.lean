/- Edits, and how they lie in memory. -/
import Derived.Test.YtmkoeomkbbmoaaaWStep
namespace Go.Proofs.Ytmkoeomkbbmoaaa
open Go.RowKit Go.Deep

/-- An edit: a way, what was there, and what is there then. -/
structure Ed (d : Nat) where
  path : List Stp
  was : Tr (d + 1)
  had : Bool
  now : Tr (d + 1)
  has : Bool

/-- The parts of an edit lie in blocks of S. -/
def EdParts {d : Nat} (S : Nat → Prop) (w : World) (e : Ed d) (vp wv nv : Value) : Prop := StepsAt S w vp e.path ∧ ValAt S w (d + 1) e.was wv ∧ ValAt S w (d + 1) e.now nv
theorem EdParts.moved {d : Nat} {S S' : Nat → Prop} {w w' : World} {e : Ed d} {vp wv nv : Value} (h : EdParts S w e vp wv nv) (hs : Same S w w') (hS : ∀ b, S b → S' b) : EdParts S' w' e vp wv nv :=
  ⟨h.1.moved hs hS, ValAt.moved hs hS _ _ _ h.2.1, ValAt.moved hs hS _ _ _ h.2.2⟩
theorem EdParts.same {d : Nat} {S : Nat → Prop} {w w' : World} {e : Ed d} {vp wv nv : Value} (h : EdParts S w e vp wv nv) (hs : Same S w w') : EdParts S w' e vp wv nv := h.moved hs (fun _ h => h)
theorem EdParts.mono {d : Nat} {S S' : Nat → Prop} {w : World} {e : Ed d} {vp wv nv : Value} (h : EdParts S w e vp wv nv) (hS : ∀ b, S b → S' b) : EdParts S' w e vp wv nv := h.moved (Same.refl _ _) hS

/-- The edit at a place of a list, thirteen cells. -/
def EdCell {d : Nat} (S : Nat → Prop) (w : World) (b i : Nat) (e : Ed d) : Prop := ∃ a0 a1 p0 p1 p2 p3 p4 p5 p6 p7 p8 q0 q1 q2 q3 q4 q5 q6 q7 q8,
  w.cell? ⟨b, i, none⟩ = some (.slice a0 e.path.length a1) ∧ w.cell? ⟨b, i + 1, none⟩ = some (.int .i64 p0) ∧ w.cell? ⟨b, i + 2, none⟩ = some (.int .i64 p1) ∧ w.cell? ⟨b, i + 3, none⟩ = some (.string p2) ∧ w.cell? ⟨b, i + 4, none⟩ = some (.slice p3 p4 p5) ∧ w.cell? ⟨b, i + 5, none⟩ = some (.slice p6 p7 p8) ∧ w.cell? ⟨b, i + 6, none⟩ = some (.bool e.had) ∧ w.cell? ⟨b, i + 7, none⟩ = some (.int .i64 q0) ∧ w.cell? ⟨b, i + 8, none⟩ = some (.int .i64 q1) ∧ w.cell? ⟨b, i + 9, none⟩ = some (.string q2) ∧ w.cell? ⟨b, i + 10, none⟩ = some (.slice q3 q4 q5) ∧ w.cell? ⟨b, i + 11, none⟩ = some (.slice q6 q7 q8) ∧ w.cell? ⟨b, i + 12, none⟩ = some (.bool e.has) ∧ EdParts S w e (.slice a0 e.path.length a1) (.agg #[.int .i64 p0, .int .i64 p1, .string p2, .slice p3 p4 p5, .slice p6 p7 p8]) (.agg #[.int .i64 q0, .int .i64 q1, .string q2, .slice q3 q4 q5, .slice q6 q7 q8])
/-- A slice of edits that lies in blocks of S. -/
def EdsAt {d : Nat} (S : Nat → Prop) (w : World) (v : Value) (es : List (Ed d)) : Prop :=
  es.length < 1407374883554 ∧ ∃ a cap, v = .slice a es.length cap ∧ (es = [] ∨ ∃ b o, S b ∧ a = some ⟨b, o, none⟩ ∧ ∀ i e, es[i]? = some e → EdCell S w b (o + i * 13) e)
theorem EdCell.moved {d : Nat} {S S' : Nat → Prop} {w w' : World} {b i : Nat} {e : Ed d} (h : EdCell S w b i e) (hb : S b) (hs : Same S w w') (hS : ∀ b, S b → S' b) : EdCell S' w' b i e := by
  obtain ⟨a0, a1, p0, p1, p2, p3, p4, p5, p6, p7, p8, q0, q1, q2, q3, q4, q5, q6, q7, q8, h0, h1, h2, h3, h4, h5, h6, h7, h8, h9, h10, h11, h12, hp⟩ := h
  exact ⟨a0, a1, p0, p1, p2, p3, p4, p5, p6, p7, p8, q0, q1, q2, q3, q4, q5, q6, q7, q8, (hs.cell hb).trans h0, (hs.cell hb).trans h1, (hs.cell hb).trans h2, (hs.cell hb).trans h3, (hs.cell hb).trans h4, (hs.cell hb).trans h5, (hs.cell hb).trans h6, (hs.cell hb).trans h7, (hs.cell hb).trans h8, (hs.cell hb).trans h9, (hs.cell hb).trans h10, (hs.cell hb).trans h11, (hs.cell hb).trans h12, hp.moved hs hS⟩
theorem EdsAt.moved {d : Nat} {S S' : Nat → Prop} {w w' : World} {v : Value} {es : List (Ed d)} (h : EdsAt S w v es) (hs : Same S w w') (hS : ∀ b, S b → S' b) : EdsAt S' w' v es := by
  obtain ⟨h1, a, cap, hv, h3⟩ := h
  refine ⟨h1, a, cap, hv, ?_⟩
  rcases h3 with h3 | ⟨b, o, hB, ha, hc⟩
  · exact Or.inl h3
  · exact Or.inr ⟨b, o, hS _ hB, ha, fun i e hi => (hc i e hi).moved hB hs hS⟩
theorem EdsAt.same {d : Nat} {S : Nat → Prop} {w w' : World} {v : Value} {es : List (Ed d)} (h : EdsAt S w v es) (hs : Same S w w') : EdsAt S w' v es := h.moved hs (fun _ h => h)
theorem EdsAt.open' {d : Nat} {S : Nat → Prop} {w : World} {v : Value} {es : List (Ed d)} (h : EdsAt S w v es) : ∃ a cap, v = .slice a es.length cap ∧ es.length < 1407374883554 := by
  obtain ⟨h1, a, cap, hv, _⟩ := h
  exact ⟨a, cap, hv, h1⟩
theorem EdsAt.cell {d : Nat} {S : Nat → Prop} {w : World} {a : Option Addr} {n cap k : Nat} {es : List (Ed d)} (h : EdsAt S w (.slice a n cap) es) (hk : k < es.length) :
    ∃ b o e, a = some ⟨b, o, none⟩ ∧ S b ∧ es[k]? = some e ∧ EdCell S w b (o + k * 13) e := by
  obtain ⟨h1, a', cap', hv, h3⟩ := h
  cases hv
  rcases h3 with rfl | ⟨b, o, hB, ha, hc⟩
  · simp at hk
  · exact ⟨b, o, es[k], ha, hB, List.getElem?_eq_getElem hk, hc k _ (List.getElem?_eq_getElem hk)⟩

/-- Block b is these cells. -/
def BlkL (w : World) (b : Nat) (T : TypeId) (cs : List Value) : Prop := w.heap[b]? = some (.cells cs.toArray T (0, 0))
theorem BlkL.lt {w : World} {b : Nat} {T : TypeId} {cs : List Value} (h : BlkL w b T cs) : b < w.heap.size := (Array.getElem?_eq_some_iff.1 h).1
theorem BlkL.cell {w : World} {b : Nat} {T : TypeId} {cs : List Value} (h : BlkL w b T cs) (i : Nat) {c : Value} (hc : cs[i]? = some c) : w.cell? ⟨b, i, none⟩ = some c := by
  unfold BlkL at h
  simp [World.cell?, h, hc]
theorem BlkL.frozen {w : World} {b : Nat} {T : TypeId} {cs : List Value} (h : BlkL w b T cs) (o : Nat) : w.frozen? ⟨b, o, none⟩ = false := by
  unfold BlkL at h
  simp [World.frozen?, h]
theorem BlkL.of_block {w w' : World} {b : Nat} {T : TypeId} {cs : List Value} (h : BlkL w b T cs) (e : w'.heap[b]? = w.heap[b]?) : BlkL w' b T cs := e.trans h
theorem BlkL.below {w w' : World} {b : Nat} {T : TypeId} {cs : List Value} (h : BlkL w b T cs) (e : Below w.heap.size w w') : BlkL w' b T cs := h.of_block (e.block b h.lt)
theorem BlkL.alloc {w : World} {b : Nat} {T : TypeId} {cs : List Value} (h : BlkL w b T cs) (o : Obj) : BlkL (w.alloc o) b T cs := h.of_block (Below.heap_alloc _ _ _ h.lt)
theorem BlkL.new (w : World) (T : TypeId) (cs : List Value) : BlkL (w.alloc (.cells cs.toArray T)) w.heap.size T cs := heap_alloc_new w _
theorem BlkL.set {w : World} {b : Nat} {T : TypeId} {cs : List Value} (h : BlkL w b T cs) (i : Nat) (u : Value) : BlkL (w.setCell ⟨b, i, none⟩ u) b T (cs.set i u) := by
  unfold BlkL at h ⊢
  simp [World.setCell, Array.getElem?_modify, h]
/-- Cells written, one behind the other. -/
def setL (w : World) (b : Nat) : Nat → List Value → World
  | _, [] => w
  | i, u :: r => setL (w.setCell ⟨b, i, none⟩ u) b (i + 1) r
theorem setL_block (b k : Nat) (h : k ≠ b) : ∀ (us : List Value) (w : World) (i : Nat), (setL w b i us).heap[k]? = w.heap[k]?
  | [], _, _ => rfl
  | u :: r, w, i => by rw [setL, setL_block b k h r, Below.heap_setCell _ _ _ _ h]
theorem setL_size (b : Nat) : ∀ (us : List Value) (w : World) (i : Nat), (setL w b i us).heap.size = w.heap.size
  | [], _, _ => rfl
  | u :: r, w, i => by rw [setL, setL_size b r, size_setCell1]
theorem below_setL {B : Nat} {a : World} {b : Nat} (hb : B ≤ b) : ∀ (us : List Value) {w : World} (_ : Below B a w) (i : Nat), Below B a (setL w b i us)
  | [], _, h, _ => h
  | u :: r, _, h, i => below_setL hb r (h.setCell (p := ⟨b, i, none⟩) hb u) (i + 1)
def putL (cs : List Value) : Nat → List Value → List Value
  | _, [] => cs
  | i, u :: r => putL (cs.set i u) (i + 1) r
theorem BlkL.setL {b : Nat} {T : TypeId} : ∀ (us : List Value) {w : World} {cs : List Value} (_ : BlkL w b T cs) (i : Nat), BlkL (setL w b i us) b T (putL cs i us)
  | [], _, _, h, _ => h
  | u :: r, _, _, h, i => BlkL.setL r (h.set i u) (i + 1)
end Go.Proofs.Ytmkoeomkbbmoaaa
