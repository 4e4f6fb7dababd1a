/- Texts of the proof, put together by program: Base, WSzB, WEqB. -/
import Derived.WalkKit
import Derived.ProofKit
import Derived.Deep.OwnRows
import Derived.Laws.Cover1
import Derived.Test.YtilgbnnjecpneaaGreatDoorRows
import Derived.Handy
import Derived.BigQuiet
import Derived.Deep.QuietTactic
import Derived.Deep.RegionWith
/- Plain trees, and how they lie in memory. Nothing of the program is named here. -/
namespace Go.Proofs.YtilgbnnjecpneaaGreatDoor
open Go.RowKit

/-- One part of a tree: its kind, number, text, keys, and the parts in it. -/
structure Nd (α : Type) where
  kind : Int
  num : Int
  str : ByteArray
  keys : List ByteArray
  list : List α

/-- Trees of at most so many parts around one another. -/
def Tr : Nat → Type
  | 0 => Empty
  | d + 1 => Nd (Tr d)

/-- A number that a Go int holds. -/
def I64 (n : Int) : Prop := -9223372036854775808 ≤ n ∧ n ≤ 9223372036854775807

/-- The blocks of S are in both worlds the same. -/
def Same (S : Nat → Prop) (w w' : World) : Prop := ∀ b, S b → w'.heap[b]? = w.heap[b]?

/-- The blocks that are in w' and were not in w. -/
def Fresh (w w' : World) (b : Nat) : Prop := w.heap.size ≤ b ∧ b < w'.heap.size

/-- The blocks of S are in w. -/
def Within (S : Nat → Prop) (w : World) : Prop := ∀ b, S b → b < w.heap.size

theorem Same.cell {S : Nat → Prop} {w w' : World} (h : Same S w w') {b o : Nat} (hb : S b) : w'.cell? ⟨b, o, none⟩ = w.cell? ⟨b, o, none⟩ :=
  World.cell?_of_block (w := w) (h b hb)
theorem Within.same {S : Nat → Prop} {w w' : World} (h : Within S w) (hb : Below w.heap.size w w') : Same S w w' := fun b hS => hb.block b (h b hS)
theorem Within.later {S : Nat → Prop} {w w' : World} (h : Within S w) (hb : w.heap.size ≤ w'.heap.size) : Within S w' := fun b hS => Nat.lt_of_lt_of_le (h b hS) hb
theorem Fresh.within (w w' : World) : Within (Fresh w w') w' := fun _ h => h.2
theorem Same.refl (S : Nat → Prop) (w : World) : Same S w w := fun _ _ => rfl
theorem Same.trans {S : Nat → Prop} {w w' w'' : World} (h : Same S w w') (k : Same S w' w'') : Same S w w'' := fun b hb => (k b hb).trans (h b hb)

/-- A slice of texts that lies in blocks of S. -/
def StrsAt (S : Nat → Prop) (w : World) (v : Value) (ss : List ByteArray) : Prop :=
  ss.length < 17592186044416 ∧ (∀ s ∈ ss, s.size < 281474976710656) ∧
  ∃ a cap, v = .slice a ss.length cap ∧
    (ss = [] ∨ ∃ b o, S b ∧ a = some ⟨b, o, none⟩ ∧ ∀ i s, ss[i]? = some s → w.cell? ⟨b, o + i, none⟩ = some (.string s))

/-- A slice of things of five cells each that lies in blocks of S. -/
def RowAt {α : Type} (S : Nat → Prop) (w : World) (At : α → Value → Prop) (v : Value) (xs : List α) : Prop :=
  xs.length < 3518437208883 ∧
  ∃ a cap, v = .slice a xs.length cap ∧
    (xs = [] ∨ ∃ b o, S b ∧ a = some ⟨b, o, none⟩ ∧ ∀ i x, xs[i]? = some x → ∃ c0 c1 c2 c3 c4,
      w.cell? ⟨b, o + i * 5, none⟩ = some c0 ∧ w.cell? ⟨b, o + i * 5 + 1, none⟩ = some c1 ∧ w.cell? ⟨b, o + i * 5 + 2, none⟩ = some c2 ∧
      w.cell? ⟨b, o + i * 5 + 3, none⟩ = some c3 ∧ w.cell? ⟨b, o + i * 5 + 4, none⟩ = some c4 ∧ At x (.agg #[c0, c1, c2, c3, c4]))

/-- A tree that lies in blocks of S. -/
def ValAt (S : Nat → Prop) (w : World) : (d : Nat) → Tr d → Value → Prop
  | 0, _, _ => False
  | d + 1, t, v => ∃ vk vl, v = .agg #[.int .i64 (Nd.kind t), .int .i64 (Nd.num t), .string (Nd.str t), vk, vl] ∧
      I64 (Nd.kind t) ∧ I64 (Nd.num t) ∧ (Nd.str t).size < 281474976710656 ∧ StrsAt S w vk (Nd.keys t) ∧ RowAt S w (ValAt S w d) vl (Nd.list t)

theorem StrsAt.moved {S S' : Nat → Prop} {w w' : World} {v : Value} {ss : List ByteArray} (h : StrsAt S w v ss) (hs : Same S w w') (hS : ∀ b, S b → S' b) : StrsAt S' w' v ss := by
  obtain ⟨h1, h2, a, cap, hv, h3⟩ := h
  refine ⟨h1, h2, a, cap, hv, ?_⟩
  rcases h3 with h3 | ⟨b, o, hB, ha, hc⟩
  · exact Or.inl h3
  · exact Or.inr ⟨b, o, hS _ hB, ha, fun i s hi => by rw [hs.cell hB]; exact hc i s hi⟩

theorem RowAt.moved {α : Type} {S S' : Nat → Prop} {w w' : World} {At At' : α → Value → Prop} {v : Value} {xs : List α} (h : RowAt S w At v xs) (hs : Same S w w') (hS : ∀ b, S b → S' b)
    (hi : ∀ x u, At x u → At' x u) : RowAt S' w' At' v xs := by
  obtain ⟨h1, a, cap, hv, h3⟩ := h
  refine ⟨h1, a, cap, hv, ?_⟩
  rcases h3 with h3 | ⟨b, o, hB, ha, hc⟩
  · exact Or.inl h3
  · refine Or.inr ⟨b, o, hS _ hB, ha, fun i x hx => ?_⟩
    obtain ⟨c0, c1, c2, c3, c4, e0, e1, e2, e3, e4, e5⟩ := hc i x hx
    exact ⟨c0, c1, c2, c3, c4, (hs.cell hB).trans e0, (hs.cell hB).trans e1, (hs.cell hB).trans e2, (hs.cell hB).trans e3, (hs.cell hB).trans e4, hi _ _ e5⟩

theorem ValAt.moved {S S' : Nat → Prop} {w w' : World} (hs : Same S w w') (hS : ∀ b, S b → S' b) : ∀ (d : Nat) (t : Tr d) (v : Value), ValAt S w d t v → ValAt S' w' d t v
  | 0, _, _, h => h
  | d + 1, t, v, h => by
    obtain ⟨vk, vl, hv, i1, i2, i3, hk, hl⟩ := h
    exact ⟨vk, vl, hv, i1, i2, i3, hk.moved hs hS, hl.moved hs hS (fun x u hx => ValAt.moved hs hS d x u hx)⟩

theorem StrsAt.same {S : Nat → Prop} {w w' : World} {v : Value} {ss : List ByteArray} (h : StrsAt S w v ss) (hs : Same S w w') : StrsAt S w' v ss := h.moved hs (fun _ h => h)
theorem ValAt.same {S : Nat → Prop} {w w' : World} {d : Nat} {t : Tr d} {v : Value} (h : ValAt S w d t v) (hs : Same S w w') : ValAt S w' d t v := ValAt.moved hs (fun _ h => h) d t v h
theorem RowAt.same {S : Nat → Prop} {d : Nat} {w w' : World} {v : Value} {xs : List (Tr d)} (h : RowAt S w (ValAt S w d) v xs) (hs : Same S w w') : RowAt S w' (ValAt S w' d) v xs :=
  h.moved hs (fun _ h => h) (fun x u hx => ValAt.moved hs (fun _ h => h) d x u hx)
theorem StrsAt.mono {S S' : Nat → Prop} {w : World} {v : Value} {ss : List ByteArray} (h : StrsAt S w v ss) (hS : ∀ b, S b → S' b) : StrsAt S' w v ss := h.moved (Same.refl _ _) hS
theorem ValAt.mono {S S' : Nat → Prop} {w : World} {d : Nat} {t : Tr d} {v : Value} (h : ValAt S w d t v) (hS : ∀ b, S b → S' b) : ValAt S' w d t v := ValAt.moved (Same.refl _ _) hS d t v h
theorem RowAt.mono {S S' : Nat → Prop} {d : Nat} {w : World} {v : Value} {xs : List (Tr d)} (h : RowAt S w (ValAt S w d) v xs) (hS : ∀ b, S b → S' b) : RowAt S' w (ValAt S' w d) v xs :=
  h.moved (Same.refl _ _) hS (fun x u hx => ValAt.moved (Same.refl _ _) hS d x u hx)

/-- A slice value of texts, opened: one form for nil and any other. -/
theorem StrsAt.open' {S : Nat → Prop} {w : World} {v : Value} {ss : List ByteArray} (h : StrsAt S w v ss) : ∃ a cap, v = .slice a ss.length cap ∧ ss.length < 17592186044416 := by
  obtain ⟨h1, _, a, cap, hv, _⟩ := h
  exact ⟨a, cap, hv, h1⟩
theorem RowAt.open' {α : Type} {S : Nat → Prop} {w : World} {At : α → Value → Prop} {v : Value} {xs : List α} (h : RowAt S w At v xs) : ∃ a cap, v = .slice a xs.length cap ∧ xs.length < 3518437208883 := by
  obtain ⟨h1, a, cap, hv, _⟩ := h
  exact ⟨a, cap, hv, h1⟩
/-- The text at a place. -/
theorem StrsAt.cell {S : Nat → Prop} {w : World} {a : Option Addr} {n cap k : Nat} {ss : List ByteArray} (h : StrsAt S w (.slice a n cap) ss) (hk : k < ss.length) :
    ∃ b o s, a = some ⟨b, o, none⟩ ∧ S b ∧ ss[k]? = some s ∧ s.size < 281474976710656 ∧ w.cell? ⟨b, o + k, none⟩ = some (.string s) := by
  obtain ⟨h1, h2, a', cap', hv, h3⟩ := h
  cases hv
  rcases h3 with rfl | ⟨b, o, hB, ha, hc⟩
  · simp at hk
  · exact ⟨b, o, ss[k], ha, hB, List.getElem?_eq_getElem hk, h2 _ (List.getElem_mem hk), hc k _ (List.getElem?_eq_getElem hk)⟩
/-- The five cells of the thing at a place. -/
theorem RowAt.cell {α : Type} {S : Nat → Prop} {w : World} {At : α → Value → Prop} {a : Option Addr} {n cap k : Nat} {xs : List α} (h : RowAt S w At (.slice a n cap) xs) (hk : k < xs.length) :
    ∃ b o x c0 c1 c2 c3 c4, a = some ⟨b, o, none⟩ ∧ S b ∧ xs[k]? = some x ∧
      w.cell? ⟨b, o + k * 5, none⟩ = some c0 ∧ w.cell? ⟨b, o + k * 5 + 1, none⟩ = some c1 ∧ w.cell? ⟨b, o + k * 5 + 2, none⟩ = some c2 ∧
      w.cell? ⟨b, o + k * 5 + 3, none⟩ = some c3 ∧ w.cell? ⟨b, o + k * 5 + 4, none⟩ = some c4 ∧ At x (.agg #[c0, c1, c2, c3, c4]) := by
  obtain ⟨h1, a', cap', hv, h3⟩ := h
  cases hv
  rcases h3 with rfl | ⟨b, o, hB, ha, hc⟩
  · simp at hk
  · obtain ⟨c0, c1, c2, c3, c4, e⟩ := hc k _ (List.getElem?_eq_getElem hk)
    exact ⟨b, o, xs[k], c0, c1, c2, c3, c4, ha, hB, List.getElem?_eq_getElem hk, e⟩

theorem below_alloc1 (w : World) (o : Obj) : Below w.heap.size w (w.alloc o) := (Below.refl _ _).alloc (Nat.le_refl _) _
theorem below_trans {a b c : World} (h : Below a.heap.size a b) (k : Below b.heap.size b c) : Below a.heap.size a c := h.trans (k.mono h.size)

/-- Block b is five cells. -/
def Blk5 (w : World) (b : Nat) (T : TypeId) (c0 c1 c2 c3 c4 : Value) : Prop := w.heap[b]? = some (.cells #[c0, c1, c2, c3, c4] T (0, 0))
theorem Blk5.lt {w : World} {b : Nat} {T : TypeId} {c0 c1 c2 c3 c4 : Value} (h : Blk5 w b T c0 c1 c2 c3 c4) : b < w.heap.size := (Array.getElem?_eq_some_iff.1 h).1
theorem Blk5.cell {w : World} {b : Nat} {T : TypeId} {c0 c1 c2 c3 c4 : Value} (h : Blk5 w b T c0 c1 c2 c3 c4) :
    w.cell? ⟨b, 0, none⟩ = some c0 ∧ w.cell? ⟨b, 1, none⟩ = some c1 ∧ w.cell? ⟨b, 2, none⟩ = some c2 ∧ w.cell? ⟨b, 3, none⟩ = some c3 ∧ w.cell? ⟨b, 4, none⟩ = some c4 := by
  unfold Blk5 at h
  simp [World.cell?, h]
theorem Blk5.frozen {w : World} {b : Nat} {T : TypeId} {c0 c1 c2 c3 c4 : Value} (h : Blk5 w b T c0 c1 c2 c3 c4) (o : Nat) : w.frozen? ⟨b, o, none⟩ = false := by
  unfold Blk5 at h
  simp [World.frozen?, h]
theorem Blk5.of_block {w w' : World} {b : Nat} {T : TypeId} {c0 c1 c2 c3 c4 : Value} (h : Blk5 w b T c0 c1 c2 c3 c4) (e : w'.heap[b]? = w.heap[b]?) : Blk5 w' b T c0 c1 c2 c3 c4 := e.trans h
theorem Blk5.below {w w' : World} {b : Nat} {T : TypeId} {c0 c1 c2 c3 c4 : Value} (h : Blk5 w b T c0 c1 c2 c3 c4) (e : Below w.heap.size w w') : Blk5 w' b T c0 c1 c2 c3 c4 := h.of_block (e.block b h.lt)
theorem Blk5.alloc {w : World} {b : Nat} {T : TypeId} {c0 c1 c2 c3 c4 : Value} (h : Blk5 w b T c0 c1 c2 c3 c4) (o : Obj) : Blk5 (w.alloc o) b T c0 c1 c2 c3 c4 := h.of_block (Below.heap_alloc _ _ _ h.lt)
theorem Blk5.other {w : World} {b : Nat} {T : TypeId} {c0 c1 c2 c3 c4 : Value} (h : Blk5 w b T c0 c1 c2 c3 c4) {a : Addr} (u : Value) (e : b ≠ a.block) : Blk5 (w.setCell a u) b T c0 c1 c2 c3 c4 := h.of_block (Below.heap_setCell _ _ _ _ e)
theorem Blk5.new (w : World) (T : TypeId) (c0 c1 c2 c3 c4 : Value) : Blk5 (w.alloc (.cells #[c0, c1, c2, c3, c4] T)) w.heap.size T c0 c1 c2 c3 c4 := heap_alloc_new w _
theorem Blk5.set3 {w : World} {b : Nat} {T : TypeId} {c0 c1 c2 c3 c4 : Value} (h : Blk5 w b T c0 c1 c2 c3 c4) (u : Value) : Blk5 (w.setCell ⟨b, 3, none⟩ u) b T c0 c1 c2 u c4 := by
  unfold Blk5 at h ⊢
  simp [World.setCell, Array.getElem?_modify, h]
theorem Blk5.set4 {w : World} {b : Nat} {T : TypeId} {c0 c1 c2 c3 c4 : Value} (h : Blk5 w b T c0 c1 c2 c3 c4) (u : Value) : Blk5 (w.setCell ⟨b, 4, none⟩ u) b T c0 c1 c2 c3 u := by
  unfold Blk5 at h ⊢
  simp [World.setCell, Array.getElem?_modify, h]
theorem laid3 (w : World) (T0 T1 T2 : TypeId) (a0 a1 a2 a3 a4 b0 b1 b2 b3 b4 c0 c1 c2 c3 c4 : Value) :
    Blk5 (((w.alloc (.cells #[a0, a1, a2, a3, a4] T0)).alloc (.cells #[b0, b1, b2, b3, b4] T1)).alloc (.cells #[c0, c1, c2, c3, c4] T2)) w.heap.size T0 a0 a1 a2 a3 a4 ∧
    Blk5 (((w.alloc (.cells #[a0, a1, a2, a3, a4] T0)).alloc (.cells #[b0, b1, b2, b3, b4] T1)).alloc (.cells #[c0, c1, c2, c3, c4] T2)) (w.heap.size + 1) T1 b0 b1 b2 b3 b4 ∧
    Blk5 (((w.alloc (.cells #[a0, a1, a2, a3, a4] T0)).alloc (.cells #[b0, b1, b2, b3, b4] T1)).alloc (.cells #[c0, c1, c2, c3, c4] T2)) (w.heap.size + 1 + 1) T2 c0 c1 c2 c3 c4 ∧
    Below w.heap.size w (((w.alloc (.cells #[a0, a1, a2, a3, a4] T0)).alloc (.cells #[b0, b1, b2, b3, b4] T1)).alloc (.cells #[c0, c1, c2, c3, c4] T2)) ∧
    (((w.alloc (.cells #[a0, a1, a2, a3, a4] T0)).alloc (.cells #[b0, b1, b2, b3, b4] T1)).alloc (.cells #[c0, c1, c2, c3, c4] T2)).heap.size = w.heap.size + 3 := by
  have h1 := Blk5.new (w.alloc (.cells #[a0, a1, a2, a3, a4] T0)) T1 b0 b1 b2 b3 b4
  have h2 := Blk5.new ((w.alloc (.cells #[a0, a1, a2, a3, a4] T0)).alloc (.cells #[b0, b1, b2, b3, b4] T1)) T2 c0 c1 c2 c3 c4
  simp only [World.size_alloc] at h1 h2
  exact ⟨((Blk5.new w _ _ _ _ _ _).alloc _).alloc _, h1.alloc _, h2, below_trans (below_trans (below_alloc1 _ _) (below_alloc1 _ _)) (below_alloc1 _ _), by simp⟩
theorem size_setCell1 (w : World) (a : Addr) (u : Value) : (w.setCell a u).heap.size = w.heap.size := by simp [World.setCell]
end Go.Proofs.YtilgbnnjecpneaaGreatDoor

/- How much a tree takes: the plain functions. -/
namespace Go.Proofs.YtilgbnnjecpneaaGreatDoor
open Go.RowKit
def szStrsGo : List ByteArray → Int → Int
  | [], left => left
  | s :: r, left => if left - s.size < 0 then -1 else szStrsGo r (left - s.size)

def szStrs (ss : List ByteArray) (left : Int) : Int := if left - ss.length < 0 then -1 else szStrsGo ss (left - ss.length)

theorem szStrsGo_step {ss : List ByteArray} {k : Nat} {s : ByteArray} (h : ss[k]? = some s) (left : Int) :
    szStrsGo (ss.drop k) left = if left - s.size < 0 then -1 else szStrsGo (ss.drop (k + 1)) (left - s.size) := by
  obtain ⟨hk, hs⟩ := List.getElem?_eq_some_iff.1 h
  rw [List.drop_eq_getElem_cons hk, hs, szStrsGo]

theorem szStrsGo_le : ∀ (ss : List ByteArray) (left : Int), 0 ≤ left → szStrsGo ss left ≤ left
  | [], left, h => Int.le_refl _
  | s :: r, left, h => by
    rw [szStrsGo]
    split
    · omega
    · have := szStrsGo_le r (left - s.size) (by omega)
      omega

theorem szStrs_le (ss : List ByteArray) (left : Int) (h : 0 ≤ left) : szStrs ss left ≤ left := by
  rw [szStrs]
  split
  · omega
  · have := szStrsGo_le ss (left - ss.length) (by omega)
    omega

def szLGo {α : Type} (f : α → Int → Int) : List α → Int → Int
  | [], left => left
  | x :: r, left => if f x left < 0 then -1 else szLGo f r (f x left)

def szL {α : Type} (f : α → Int → Int) (xs : List α) (left : Int) : Int := if left - xs.length < 0 then -1 else szLGo f xs (left - xs.length)

def szT : (d : Nat) → Tr d → Int → Int
  | 0, _, _ => -1
  | d + 1, t, left =>
    if left - (Nd.str t).size < 0 then -1 else
    if szStrs (Nd.keys t) (left - (Nd.str t).size) < 0 then -1 else
    if szL (szT d) (Nd.list t) (szStrs (Nd.keys t) (left - (Nd.str t).size)) < 0 then -1 else szL (szT d) (Nd.list t) (szStrs (Nd.keys t) (left - (Nd.str t).size))

theorem szLGo_step {α : Type} (f : α → Int → Int) {xs : List α} {k : Nat} {x : α} (h : xs[k]? = some x) (left : Int) :
    szLGo f (xs.drop k) left = if f x left < 0 then -1 else szLGo f (xs.drop (k + 1)) (f x left) := by
  obtain ⟨hk, hs⟩ := List.getElem?_eq_some_iff.1 h
  rw [List.drop_eq_getElem_cons hk, hs, szLGo]

theorem szLGo_le {α : Type} (f : α → Int → Int) (hf : ∀ x left, 0 ≤ left → f x left ≤ left) : ∀ (xs : List α) (left : Int), 0 ≤ left → szLGo f xs left ≤ left
  | [], left, h => Int.le_refl _
  | s :: r, left, h => by
    rw [szLGo]
    split
    · omega
    · have := szLGo_le f hf r (f s left) (by omega)
      have := hf s left h
      omega

theorem szL_le {α : Type} (f : α → Int → Int) (hf : ∀ x left, 0 ≤ left → f x left ≤ left) (xs : List α) (left : Int) (h : 0 ≤ left) : szL f xs left ≤ left := by
  rw [szL]
  split
  · omega
  · have := szLGo_le f hf xs (left - xs.length) (by omega)
    omega

theorem szT_le : ∀ (d : Nat) (t : Tr d) (left : Int), 0 ≤ left → szT d t left ≤ left
  | 0, _, left, h => by rw [szT]; omega
  | d + 1, t, left, h => by
    rw [szT]
    split
    · omega
    split
    · omega
    split
    · omega
    have h1 := szStrs_le (Nd.keys t) (left - (Nd.str t).size) (by omega)
    have h2 := szL_le (szT d) (szT_le d) (Nd.list t) (szStrs (Nd.keys t) (left - (Nd.str t).size)) (by omega)
    omega
end Go.Proofs.YtilgbnnjecpneaaGreatDoor

/- Two trees are one: the plain functions. -/
namespace Go.Proofs.YtilgbnnjecpneaaGreatDoor
open Go.RowKit Go.Deep
def eqStrs : List ByteArray → List ByteArray → Bool
  | [], [] => true
  | a :: as', b :: bs => a.toList == b.toList && eqStrs as' bs
  | _, _ => false

theorem eqStrs_drop {xs ys : List ByteArray} {k : Nat} {x y : ByteArray} (hx : xs[k]? = some x) (hy : ys[k]? = some y) :
    eqStrs (xs.drop k) (ys.drop k) = (x.toList == y.toList && eqStrs (xs.drop (k + 1)) (ys.drop (k + 1))) := by
  obtain ⟨hk, e1⟩ := List.getElem?_eq_some_iff.1 hx
  obtain ⟨hk', e2⟩ := List.getElem?_eq_some_iff.1 hy
  rw [List.drop_eq_getElem_cons hk, List.drop_eq_getElem_cons hk', e1, e2, eqStrs]

theorem eqStrs_len : ∀ (xs ys : List ByteArray), eqStrs xs ys = true → xs.length = ys.length
  | [], [], _ => rfl
  | a :: r, b :: s, h => by
    rw [eqStrs, Bool.and_eq_true] at h
    simp [eqStrs_len r s h.2]
  | [], _ :: _, h => by simp [eqStrs] at h
  | _ :: _, [], h => by simp [eqStrs] at h

def eqL {α : Type} (f : α → α → Bool) : List α → List α → Bool
  | [], [] => true
  | a :: as', b :: bs => f a b && eqL f as' bs
  | _, _ => false

theorem eqL_drop {α : Type} (f : α → α → Bool) {xs ys : List α} {k : Nat} {x y : α} (hx : xs[k]? = some x) (hy : ys[k]? = some y) :
    eqL f (xs.drop k) (ys.drop k) = (f x y && eqL f (xs.drop (k + 1)) (ys.drop (k + 1))) := by
  obtain ⟨hk, e1⟩ := List.getElem?_eq_some_iff.1 hx
  obtain ⟨hk', e2⟩ := List.getElem?_eq_some_iff.1 hy
  rw [List.drop_eq_getElem_cons hk, List.drop_eq_getElem_cons hk', e1, e2, eqL]

theorem eqL_len {α : Type} (f : α → α → Bool) : ∀ (xs ys : List α), eqL f xs ys = true → xs.length = ys.length
  | [], [], _ => rfl
  | a :: r, b :: s, h => by
    rw [eqL, Bool.and_eq_true] at h
    simp [eqL_len f r s h.2]
  | [], _ :: _, h => by simp [eqL] at h
  | _ :: _, [], h => by simp [eqL] at h

def eqT : (d : Nat) → Tr d → Tr d → Bool
  | 0, _, _ => true
  | d + 1, a, b => Nd.kind a == Nd.kind b && (Nd.num a == Nd.num b && ((Nd.str a).toList == (Nd.str b).toList && (eqStrs (Nd.keys a) (Nd.keys b) && eqL (eqT d) (Nd.list a) (Nd.list b))))

theorem below_drewN (B : Nat) (w : World) (n : Nat) : Below B w (w.drewN n) := ⟨rfl, rfl, rfl, Nat.le_refl _, fun _ _ => rfl⟩

theorem eqStrs_refl : ∀ (xs : List ByteArray), eqStrs xs xs = true
  | [] => rfl
  | a :: r => by rw [eqStrs, eqStrs_refl r, Bool.and_true, beq_iff_eq]

theorem eqL_refl {α : Type} {f : α → α → Bool} (h : ∀ x, f x x = true) : ∀ (xs : List α), eqL f xs xs = true
  | [] => rfl
  | a :: r => by rw [eqL, eqL_refl h r, h, Bool.and_true]

theorem eqT_refl : ∀ (d : Nat) (t : Tr d), eqT d t t = true
  | 0, _ => rfl
  | d + 1, t => by
    rw [eqT, eqStrs_refl, eqL_refl (eqT_refl d)]
    simp
end Go.Proofs.YtilgbnnjecpneaaGreatDoor
