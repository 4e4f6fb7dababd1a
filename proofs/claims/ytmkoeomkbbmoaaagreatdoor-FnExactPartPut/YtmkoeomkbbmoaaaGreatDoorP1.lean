/- Texts of the proof, put together by program: Base, WSz. -/
import Derived.WalkKit
import Derived.ProofKit
import Derived.Deep.OwnRows
import Derived.Laws.Cover1
import Derived.Test.YtmkoeomkbbmoaaaGreatDoorRows
import Derived.Handy
import Derived.BigQuiet
import Derived.Deep.QuietTactic
/- Plain trees, and how they lie in memory. Nothing of the program is named here. -/
namespace Go.Proofs.YtmkoeomkbbmoaaaGreatDoor
open Go.RowKit

/-- One part of a tree: its kind, number, text, keys, and the parts in it. -/
structure Nd (α : Type) where
  kind : Int
  num : Int
  str : ByteArray
  keys : List ByteArray
  list : List α

/-- Trees of at most so many parts around one another. -/
def Tr : Nat → Type
  | 0 => Empty
  | d + 1 => Nd (Tr d)

/-- A number that a Go int holds. -/
def I64 (n : Int) : Prop := -9223372036854775808 ≤ n ∧ n ≤ 9223372036854775807

/-- The blocks of S are in both worlds the same. -/
def Same (S : Nat → Prop) (w w' : World) : Prop := ∀ b, S b → w'.heap[b]? = w.heap[b]?

/-- The blocks that are in w' and were not in w. -/
def Fresh (w w' : World) (b : Nat) : Prop := w.heap.size ≤ b ∧ b < w'.heap.size

/-- The blocks of S are in w. -/
def Within (S : Nat → Prop) (w : World) : Prop := ∀ b, S b → b < w.heap.size

theorem Same.cell {S : Nat → Prop} {w w' : World} (h : Same S w w') {b o : Nat} (hb : S b) : w'.cell? ⟨b, o, none⟩ = w.cell? ⟨b, o, none⟩ :=
  World.cell?_of_block (w := w) (h b hb)
theorem Within.same {S : Nat → Prop} {w w' : World} (h : Within S w) (hb : Below w.heap.size w w') : Same S w w' := fun b hS => hb.block b (h b hS)
theorem Within.later {S : Nat → Prop} {w w' : World} (h : Within S w) (hb : w.heap.size ≤ w'.heap.size) : Within S w' := fun b hS => Nat.lt_of_lt_of_le (h b hS) hb
theorem Fresh.within (w w' : World) : Within (Fresh w w') w' := fun _ h => h.2
theorem Same.refl (S : Nat → Prop) (w : World) : Same S w w := fun _ _ => rfl
theorem Same.trans {S : Nat → Prop} {w w' w'' : World} (h : Same S w w') (k : Same S w' w'') : Same S w w'' := fun b hb => (k b hb).trans (h b hb)

/-- A slice of texts that lies in blocks of S. -/
def StrsAt (S : Nat → Prop) (w : World) (v : Value) (ss : List ByteArray) : Prop :=
  ss.length < 17592186044416 ∧ (∀ s ∈ ss, s.size < 281474976710656) ∧
  ∃ a cap, v = .slice a ss.length cap ∧
    (ss = [] ∨ ∃ b o, S b ∧ a = some ⟨b, o, none⟩ ∧ ∀ i s, ss[i]? = some s → w.cell? ⟨b, o + i, none⟩ = some (.string s))

/-- A slice of things of five cells each that lies in blocks of S. -/
def RowAt {α : Type} (S : Nat → Prop) (w : World) (At : α → Value → Prop) (v : Value) (xs : List α) : Prop :=
  xs.length < 3518437208883 ∧
  ∃ a cap, v = .slice a xs.length cap ∧
    (xs = [] ∨ ∃ b o, S b ∧ a = some ⟨b, o, none⟩ ∧ ∀ i x, xs[i]? = some x → ∃ c0 c1 c2 c3 c4,
      w.cell? ⟨b, o + i * 5, none⟩ = some c0 ∧ w.cell? ⟨b, o + i * 5 + 1, none⟩ = some c1 ∧ w.cell? ⟨b, o + i * 5 + 2, none⟩ = some c2 ∧
      w.cell? ⟨b, o + i * 5 + 3, none⟩ = some c3 ∧ w.cell? ⟨b, o + i * 5 + 4, none⟩ = some c4 ∧ At x (.agg #[c0, c1, c2, c3, c4]))

/-- A tree that lies in blocks of S. -/
def ValAt (S : Nat → Prop) (w : World) : (d : Nat) → Tr d → Value → Prop
  | 0, _, _ => False
  | d + 1, t, v => ∃ vk vl, v = .agg #[.int .i64 (Nd.kind t), .int .i64 (Nd.num t), .string (Nd.str t), vk, vl] ∧
      I64 (Nd.kind t) ∧ I64 (Nd.num t) ∧ (Nd.str t).size < 281474976710656 ∧ StrsAt S w vk (Nd.keys t) ∧ RowAt S w (ValAt S w d) vl (Nd.list t)

theorem StrsAt.moved {S S' : Nat → Prop} {w w' : World} {v : Value} {ss : List ByteArray} (h : StrsAt S w v ss) (hs : Same S w w') (hS : ∀ b, S b → S' b) : StrsAt S' w' v ss := by
  obtain ⟨h1, h2, a, cap, hv, h3⟩ := h
  refine ⟨h1, h2, a, cap, hv, ?_⟩
  rcases h3 with h3 | ⟨b, o, hB, ha, hc⟩
  · exact Or.inl h3
  · exact Or.inr ⟨b, o, hS _ hB, ha, fun i s hi => by rw [hs.cell hB]; exact hc i s hi⟩

theorem RowAt.moved {α : Type} {S S' : Nat → Prop} {w w' : World} {At At' : α → Value → Prop} {v : Value} {xs : List α} (h : RowAt S w At v xs) (hs : Same S w w') (hS : ∀ b, S b → S' b)
    (hi : ∀ x u, At x u → At' x u) : RowAt S' w' At' v xs := by
  obtain ⟨h1, a, cap, hv, h3⟩ := h
  refine ⟨h1, a, cap, hv, ?_⟩
  rcases h3 with h3 | ⟨b, o, hB, ha, hc⟩
  · exact Or.inl h3
  · refine Or.inr ⟨b, o, hS _ hB, ha, fun i x hx => ?_⟩
    obtain ⟨c0, c1, c2, c3, c4, e0, e1, e2, e3, e4, e5⟩ := hc i x hx
    exact ⟨c0, c1, c2, c3, c4, (hs.cell hB).trans e0, (hs.cell hB).trans e1, (hs.cell hB).trans e2, (hs.cell hB).trans e3, (hs.cell hB).trans e4, hi _ _ e5⟩

theorem ValAt.moved {S S' : Nat → Prop} {w w' : World} (hs : Same S w w') (hS : ∀ b, S b → S' b) : ∀ (d : Nat) (t : Tr d) (v : Value), ValAt S w d t v → ValAt S' w' d t v
  | 0, _, _, h => h
  | d + 1, t, v, h => by
    obtain ⟨vk, vl, hv, i1, i2, i3, hk, hl⟩ := h
    exact ⟨vk, vl, hv, i1, i2, i3, hk.moved hs hS, hl.moved hs hS (fun x u hx => ValAt.moved hs hS d x u hx)⟩

theorem StrsAt.same {S : Nat → Prop} {w w' : World} {v : Value} {ss : List ByteArray} (h : StrsAt S w v ss) (hs : Same S w w') : StrsAt S w' v ss := h.moved hs (fun _ h => h)
theorem ValAt.same {S : Nat → Prop} {w w' : World} {d : Nat} {t : Tr d} {v : Value} (h : ValAt S w d t v) (hs : Same S w w') : ValAt S w' d t v := ValAt.moved hs (fun _ h => h) d t v h
theorem RowAt.same {S : Nat → Prop} {d : Nat} {w w' : World} {v : Value} {xs : List (Tr d)} (h : RowAt S w (ValAt S w d) v xs) (hs : Same S w w') : RowAt S w' (ValAt S w' d) v xs :=
  h.moved hs (fun _ h => h) (fun x u hx => ValAt.moved hs (fun _ h => h) d x u hx)
theorem StrsAt.mono {S S' : Nat → Prop} {w : World} {v : Value} {ss : List ByteArray} (h : StrsAt S w v ss) (hS : ∀ b, S b → S' b) : StrsAt S' w v ss := h.moved (Same.refl _ _) hS
theorem ValAt.mono {S S' : Nat → Prop} {w : World} {d : Nat} {t : Tr d} {v : Value} (h : ValAt S w d t v) (hS : ∀ b, S b → S' b) : ValAt S' w d t v := ValAt.moved (Same.refl _ _) hS d t v h
theorem RowAt.mono {S S' : Nat → Prop} {d : Nat} {w : World} {v : Value} {xs : List (Tr d)} (h : RowAt S w (ValAt S w d) v xs) (hS : ∀ b, S b → S' b) : RowAt S' w (ValAt S' w d) v xs :=
  h.moved (Same.refl _ _) hS (fun x u hx => ValAt.moved (Same.refl _ _) hS d x u hx)

/-- A slice value of texts, opened: one form for nil and any other. -/
theorem StrsAt.open' {S : Nat → Prop} {w : World} {v : Value} {ss : List ByteArray} (h : StrsAt S w v ss) : ∃ a cap, v = .slice a ss.length cap ∧ ss.length < 17592186044416 := by
  obtain ⟨h1, _, a, cap, hv, _⟩ := h
  exact ⟨a, cap, hv, h1⟩
theorem RowAt.open' {α : Type} {S : Nat → Prop} {w : World} {At : α → Value → Prop} {v : Value} {xs : List α} (h : RowAt S w At v xs) : ∃ a cap, v = .slice a xs.length cap ∧ xs.length < 3518437208883 := by
  obtain ⟨h1, a, cap, hv, _⟩ := h
  exact ⟨a, cap, hv, h1⟩
/-- The text at a place. -/
theorem StrsAt.cell {S : Nat → Prop} {w : World} {a : Option Addr} {n cap k : Nat} {ss : List ByteArray} (h : StrsAt S w (.slice a n cap) ss) (hk : k < ss.length) :
    ∃ b o s, a = some ⟨b, o, none⟩ ∧ S b ∧ ss[k]? = some s ∧ s.size < 281474976710656 ∧ w.cell? ⟨b, o + k, none⟩ = some (.string s) := by
  obtain ⟨h1, h2, a', cap', hv, h3⟩ := h
  cases hv
  rcases h3 with rfl | ⟨b, o, hB, ha, hc⟩
  · simp at hk
  · exact ⟨b, o, ss[k], ha, hB, List.getElem?_eq_getElem hk, h2 _ (List.getElem_mem hk), hc k _ (List.getElem?_eq_getElem hk)⟩
/-- The five cells of the thing at a place. -/
theorem RowAt.cell {α : Type} {S : Nat → Prop} {w : World} {At : α → Value → Prop} {a : Option Addr} {n cap k : Nat} {xs : List α} (h : RowAt S w At (.slice a n cap) xs) (hk : k < xs.length) :
    ∃ b o x c0 c1 c2 c3 c4, a = some ⟨b, o, none⟩ ∧ S b ∧ xs[k]? = some x ∧
      w.cell? ⟨b, o + k * 5, none⟩ = some c0 ∧ w.cell? ⟨b, o + k * 5 + 1, none⟩ = some c1 ∧ w.cell? ⟨b, o + k * 5 + 2, none⟩ = some c2 ∧
      w.cell? ⟨b, o + k * 5 + 3, none⟩ = some c3 ∧ w.cell? ⟨b, o + k * 5 + 4, none⟩ = some c4 ∧ At x (.agg #[c0, c1, c2, c3, c4]) := by
  obtain ⟨h1, a', cap', hv, h3⟩ := h
  cases hv
  rcases h3 with rfl | ⟨b, o, hB, ha, hc⟩
  · simp at hk
  · obtain ⟨c0, c1, c2, c3, c4, e⟩ := hc k _ (List.getElem?_eq_getElem hk)
    exact ⟨b, o, xs[k], c0, c1, c2, c3, c4, ha, hB, List.getElem?_eq_getElem hk, e⟩

theorem below_alloc1 (w : World) (o : Obj) : Below w.heap.size w (w.alloc o) := (Below.refl _ _).alloc (Nat.le_refl _) _
theorem below_trans {a b c : World} (h : Below a.heap.size a b) (k : Below b.heap.size b c) : Below a.heap.size a c := h.trans (k.mono h.size)

/-- Block b is five cells. -/
def Blk5 (w : World) (b : Nat) (T : TypeId) (c0 c1 c2 c3 c4 : Value) : Prop := w.heap[b]? = some (.cells #[c0, c1, c2, c3, c4] T (0, 0))
theorem Blk5.lt {w : World} {b : Nat} {T : TypeId} {c0 c1 c2 c3 c4 : Value} (h : Blk5 w b T c0 c1 c2 c3 c4) : b < w.heap.size := (Array.getElem?_eq_some_iff.1 h).1
theorem Blk5.cell {w : World} {b : Nat} {T : TypeId} {c0 c1 c2 c3 c4 : Value} (h : Blk5 w b T c0 c1 c2 c3 c4) :
    w.cell? ⟨b, 0, none⟩ = some c0 ∧ w.cell? ⟨b, 1, none⟩ = some c1 ∧ w.cell? ⟨b, 2, none⟩ = some c2 ∧ w.cell? ⟨b, 3, none⟩ = some c3 ∧ w.cell? ⟨b, 4, none⟩ = some c4 := by
  unfold Blk5 at h
  simp [World.cell?, h]
theorem Blk5.frozen {w : World} {b : Nat} {T : TypeId} {c0 c1 c2 c3 c4 : Value} (h : Blk5 w b T c0 c1 c2 c3 c4) (o : Nat) : w.frozen? ⟨b, o, none⟩ = false := by
  unfold Blk5 at h
  simp [World.frozen?, h]
theorem Blk5.of_block {w w' : World} {b : Nat} {T : TypeId} {c0 c1 c2 c3 c4 : Value} (h : Blk5 w b T c0 c1 c2 c3 c4) (e : w'.heap[b]? = w.heap[b]?) : Blk5 w' b T c0 c1 c2 c3 c4 := e.trans h
theorem Blk5.below {w w' : World} {b : Nat} {T : TypeId} {c0 c1 c2 c3 c4 : Value} (h : Blk5 w b T c0 c1 c2 c3 c4) (e : Below w.heap.size w w') : Blk5 w' b T c0 c1 c2 c3 c4 := h.of_block (e.block b h.lt)
theorem Blk5.alloc {w : World} {b : Nat} {T : TypeId} {c0 c1 c2 c3 c4 : Value} (h : Blk5 w b T c0 c1 c2 c3 c4) (o : Obj) : Blk5 (w.alloc o) b T c0 c1 c2 c3 c4 := h.of_block (Below.heap_alloc _ _ _ h.lt)
theorem Blk5.other {w : World} {b : Nat} {T : TypeId} {c0 c1 c2 c3 c4 : Value} (h : Blk5 w b T c0 c1 c2 c3 c4) {a : Addr} (u : Value) (e : b ≠ a.block) : Blk5 (w.setCell a u) b T c0 c1 c2 c3 c4 := h.of_block (Below.heap_setCell _ _ _ _ e)
theorem Blk5.new (w : World) (T : TypeId) (c0 c1 c2 c3 c4 : Value) : Blk5 (w.alloc (.cells #[c0, c1, c2, c3, c4] T)) w.heap.size T c0 c1 c2 c3 c4 := heap_alloc_new w _
theorem Blk5.set3 {w : World} {b : Nat} {T : TypeId} {c0 c1 c2 c3 c4 : Value} (h : Blk5 w b T c0 c1 c2 c3 c4) (u : Value) : Blk5 (w.setCell ⟨b, 3, none⟩ u) b T c0 c1 c2 u c4 := by
  unfold Blk5 at h ⊢
  simp [World.setCell, Array.getElem?_modify, h]
theorem Blk5.set4 {w : World} {b : Nat} {T : TypeId} {c0 c1 c2 c3 c4 : Value} (h : Blk5 w b T c0 c1 c2 c3 c4) (u : Value) : Blk5 (w.setCell ⟨b, 4, none⟩ u) b T c0 c1 c2 c3 u := by
  unfold Blk5 at h ⊢
  simp [World.setCell, Array.getElem?_modify, h]
theorem laid3 (w : World) (T0 T1 T2 : TypeId) (a0 a1 a2 a3 a4 b0 b1 b2 b3 b4 c0 c1 c2 c3 c4 : Value) :
    Blk5 (((w.alloc (.cells #[a0, a1, a2, a3, a4] T0)).alloc (.cells #[b0, b1, b2, b3, b4] T1)).alloc (.cells #[c0, c1, c2, c3, c4] T2)) w.heap.size T0 a0 a1 a2 a3 a4 ∧
    Blk5 (((w.alloc (.cells #[a0, a1, a2, a3, a4] T0)).alloc (.cells #[b0, b1, b2, b3, b4] T1)).alloc (.cells #[c0, c1, c2, c3, c4] T2)) (w.heap.size + 1) T1 b0 b1 b2 b3 b4 ∧
    Blk5 (((w.alloc (.cells #[a0, a1, a2, a3, a4] T0)).alloc (.cells #[b0, b1, b2, b3, b4] T1)).alloc (.cells #[c0, c1, c2, c3, c4] T2)) (w.heap.size + 1 + 1) T2 c0 c1 c2 c3 c4 ∧
    Below w.heap.size w (((w.alloc (.cells #[a0, a1, a2, a3, a4] T0)).alloc (.cells #[b0, b1, b2, b3, b4] T1)).alloc (.cells #[c0, c1, c2, c3, c4] T2)) ∧
    (((w.alloc (.cells #[a0, a1, a2, a3, a4] T0)).alloc (.cells #[b0, b1, b2, b3, b4] T1)).alloc (.cells #[c0, c1, c2, c3, c4] T2)).heap.size = w.heap.size + 3 := by
  have h1 := Blk5.new (w.alloc (.cells #[a0, a1, a2, a3, a4] T0)) T1 b0 b1 b2 b3 b4
  have h2 := Blk5.new ((w.alloc (.cells #[a0, a1, a2, a3, a4] T0)).alloc (.cells #[b0, b1, b2, b3, b4] T1)) T2 c0 c1 c2 c3 c4
  simp only [World.size_alloc] at h1 h2
  exact ⟨((Blk5.new w _ _ _ _ _ _).alloc _).alloc _, h1.alloc _, h2, below_trans (below_trans (below_alloc1 _ _) (below_alloc1 _ _)) (below_alloc1 _ _), by simp⟩
theorem size_setCell1 (w : World) (a : Addr) (u : Value) : (w.setCell a u).heap.size = w.heap.size := by simp [World.setCell]
end Go.Proofs.YtmkoeomkbbmoaaaGreatDoor

/- szStringS, szVal, szValS: how much a tree takes. -/
namespace Go.Proofs.YtmkoeomkbbmoaaaGreatDoor
open Go.RowKit

def szStrsGo : List ByteArray → Int → Int
  | [], left => left
  | s :: r, left => if left - s.size < 0 then -1 else szStrsGo r (left - s.size)
def szStrs (ss : List ByteArray) (left : Int) : Int := if left - ss.length < 0 then -1 else szStrsGo ss (left - ss.length)

theorem szStrsGo_step {ss : List ByteArray} {k : Nat} {s : ByteArray} (h : ss[k]? = some s) (left : Int) :
    szStrsGo (ss.drop k) left = if left - s.size < 0 then -1 else szStrsGo (ss.drop (k + 1)) (left - s.size) := by
  obtain ⟨hk, hs⟩ := List.getElem?_eq_some_iff.1 h
  rw [List.drop_eq_getElem_cons hk, hs, szStrsGo]

set_option maxHeartbeats 400000 in
theorem szStringS_any (S : Nat → Prop) (ss : List ByteArray) (v : Value) (left : Int) (w : World) (hv : StrsAt S w v ss) (h0 : 0 ≤ left) (h1 : left ≤ 1048576) :
    Calls Tryz.prog 20 #[v, .int .i64 left] w fun e w' => e = .returned (.int .i64 (szStrs ss left)) ∧ w' = w := by
  obtain ⟨a, cap, rfl, hlen⟩ := hv.open'
  by_cases hlt : left - ss.length < 0
  · have hfin : Hid (szStrs ss left = -1) := if_pos hlt
    go_enter Tryz.func20, Tryz.ntmps20
    go_wp2_with fail
    go_ret
    rw [hfin.out]
    exact ⟨rfl, rfl⟩
  · have hfin : Hid (szStrs ss left = szStrsGo ss (left - ss.length)) := if_neg hlt
    go_enter Tryz.func20, Tryz.ntmps20
    go_wp2_with fail
    go_loop [1, 5] (fun l i => ∃ (k : Nat) (m : Int), k ≤ ss.length ∧ i = .int .i64 k ∧ l = .int .i64 m ∧ 0 ≤ m ∧ m ≤ 1048576 ∧ Hid (szStrs ss left = szStrsGo (ss.drop k) m)) (fun _ i => ss.length - (intOf i).toNat)
    case atStart => exact ⟨0, _, Nat.zero_le _, rfl, rfl, by omega, by omega, hfin⟩
    case round =>
      clear hfin
      obtain ⟨k, m, hk, rfl, rfl, hm0, hm1, hfin⟩ := hrel
      by_cases hkl : k < ss.length
      · obtain ⟨b, o, s, rfl, _, hs, hb, hck⟩ := hv.cell hkl
        have hst : Hid (_ = _) := szStrsGo_step hs m
        clear hs hv
        by_cases hneg : m - s.size < 0
        · go_wp2_with fail
          go_ret
          rw [hfin.out, hst.out, if_pos hneg]
          exact ⟨rfl, rfl⟩
        · go_wp2_with fail
          go_round
          case rel => exact ⟨k + 1, m - s.size, by omega, by go_num, rfl, by omega, by omega, by rw [hfin.out, hst.out, if_neg (by omega)]; exact rfl⟩
          case measure => simp [intOf]; omega
      · go_wp2_with fail
        go_ret
        rw [hfin.out, List.drop_eq_nil_of_le (by omega)]
        exact ⟨rfl, rfl⟩

theorem szStrsGo_le : ∀ (ss : List ByteArray) (left : Int), 0 ≤ left → szStrsGo ss left ≤ left
  | [], left, h => Int.le_refl _
  | s :: r, left, h => by
    rw [szStrsGo]
    split
    · omega
    · have := szStrsGo_le r (left - s.size) (by omega)
      omega
theorem szStrs_le (ss : List ByteArray) (left : Int) (h : 0 ≤ left) : szStrs ss left ≤ left := by
  rw [szStrs]
  split
  · omega
  · have := szStrsGo_le ss (left - ss.length) (by omega)
    omega

def szLGo {α : Type} (f : α → Int → Int) : List α → Int → Int
  | [], left => left
  | x :: r, left => if f x left < 0 then -1 else szLGo f r (f x left)
def szL {α : Type} (f : α → Int → Int) (xs : List α) (left : Int) : Int := if left - xs.length < 0 then -1 else szLGo f xs (left - xs.length)
def szT : (d : Nat) → Tr d → Int → Int
  | 0, _, _ => -1
  | d + 1, t, left =>
    if left - (Nd.str t).size < 0 then -1 else
    if szStrs (Nd.keys t) (left - (Nd.str t).size) < 0 then -1 else
    if szL (szT d) (Nd.list t) (szStrs (Nd.keys t) (left - (Nd.str t).size)) < 0 then -1 else szL (szT d) (Nd.list t) (szStrs (Nd.keys t) (left - (Nd.str t).size))

theorem szLGo_step {α : Type} (f : α → Int → Int) {xs : List α} {k : Nat} {x : α} (h : xs[k]? = some x) (left : Int) :
    szLGo f (xs.drop k) left = if f x left < 0 then -1 else szLGo f (xs.drop (k + 1)) (f x left) := by
  obtain ⟨hk, hs⟩ := List.getElem?_eq_some_iff.1 h
  rw [List.drop_eq_getElem_cons hk, hs, szLGo]
theorem szLGo_le {α : Type} (f : α → Int → Int) (hf : ∀ x left, 0 ≤ left → f x left ≤ left) : ∀ (xs : List α) (left : Int), 0 ≤ left → szLGo f xs left ≤ left
  | [], left, h => Int.le_refl _
  | s :: r, left, h => by
    rw [szLGo]
    split
    · omega
    · have := szLGo_le f hf r (f s left) (by omega)
      have := hf s left h
      omega
theorem szL_le {α : Type} (f : α → Int → Int) (hf : ∀ x left, 0 ≤ left → f x left ≤ left) (xs : List α) (left : Int) (h : 0 ≤ left) : szL f xs left ≤ left := by
  rw [szL]
  split
  · omega
  · have := szLGo_le f hf xs (left - xs.length) (by omega)
    omega
theorem szT_le : ∀ (d : Nat) (t : Tr d) (left : Int), 0 ≤ left → szT d t left ≤ left
  | 0, _, left, h => by rw [szT]; omega
  | d + 1, t, left, h => by
    rw [szT]
    split
    · omega
    split
    · omega
    split
    · omega
    have h1 := szStrs_le (Nd.keys t) (left - (Nd.str t).size) (by omega)
    have h2 := szL_le (szT d) (szT_le d) (Nd.list t) (szStrs (Nd.keys t) (left - (Nd.str t).size)) (by omega)
    omega

/-- What szVal does with trees of this depth. -/
def SzVal (d : Nat) : Prop := ∀ (S : Nat → Prop) (t : Tr d) (v : Value) (left : Int) (w : World), ValAt S w d t v → Within S w → 0 ≤ left → left ≤ 1048576 →
    Calls Tryz.prog 7 #[v, .int .i64 left] w fun e w' => e = .returned (.int .i64 (szT d t left)) ∧ Below w.heap.size w w'

set_option maxHeartbeats 400000 in
theorem szValS_any (d : Nat) (H : SzVal d) (S : Nat → Prop) (xs : List (Tr d)) (v : Value) (left : Int) (w : World) (hv : RowAt S w (ValAt S w d) v xs) (hS : Within S w) (h0 : 0 ≤ left) (h1 : left ≤ 1048576) :
    Calls Tryz.prog 21 #[v, .int .i64 left] w fun e w' => e = .returned (.int .i64 (szL (szT d) xs left)) ∧ Below w.heap.size w w' := by
  obtain ⟨a, cap, rfl, hlen⟩ := hv.open'
  by_cases hlt : left - xs.length < 0
  · have hfin : Hid (szL (szT d) xs left = -1) := if_pos hlt
    go_enter Tryz.func21, Tryz.ntmps21
    go_wp2_with fail
    go_ret
    rw [hfin.out]
    exact ⟨rfl, Below.refl _ _⟩
  · have hfin : Hid (szL (szT d) xs left = szLGo (szT d) xs (left - xs.length)) := if_neg hlt
    go_enter Tryz.func21, Tryz.ntmps21
    go_wp2_with fail
    go_loopw [1, 5] (fun l i wr => ∃ (k : Nat) (m : Int), k ≤ xs.length ∧ i = .int .i64 k ∧ l = .int .i64 m ∧ 0 ≤ m ∧ m ≤ 1048576 ∧ Hid (szL (szT d) xs left = szLGo (szT d) (xs.drop k) m) ∧ Below w.heap.size w wr) (fun _ i _ => xs.length - (intOf i).toNat)
    case atStart => exact ⟨0, _, Nat.zero_le _, rfl, rfl, by omega, by omega, hfin, Below.refl _ _⟩
    case round =>
      clear hfin
      obtain ⟨k, m, hk, rfl, rfl, hm0, hm1, hfin, hbel⟩ := hrel
      by_cases hkl : k < xs.length
      · have hv' := hv.same (hS.same hbel)
        obtain ⟨b, o, x, c0, c1, c2, c3, c4, rfl, _, hx, e0, e1, e2, e3, e4, hval⟩ := hv'.cell hkl
        have hst : Hid (_ = _) := szLGo_step (szT d) hx m
        have hle := szT_le d x m hm0
        clear hv hv' hx
        go_wp2_with fail
        refine (H S x _ m wr hval (hS.later hbel.size) hm0 hm1).mono ?_
        rintro e w1 ⟨rfl, hb1⟩
        have hb2 : Below w.heap.size w w1 := below_trans hbel hb1
        clear hb1 hbel hval e0 e1 e2 e3 e4
        by_cases hneg : szT d x m < 0
        · go_wp2_with fail
          go_ret
          rw [hfin.out, hst.out, if_pos hneg]
          exact ⟨rfl, hb2⟩
        · go_wp2_with fail
          go_roundw
          case rel => exact ⟨k + 1, szT d x m, by omega, by go_num, rfl, by omega, by omega, by rw [hfin.out, hst.out, if_neg (by omega)]; exact rfl, hb2⟩
          case measure => simp [intOf]; omega
      · go_wp2_with fail
        go_ret
        rw [hfin.out, List.drop_eq_nil_of_le (by omega)]
        exact ⟨rfl, hbel⟩

set_option maxHeartbeats 400000 in
theorem szVal_any : ∀ (d : Nat), SzVal d
  | 0 => fun _ _ _ _ _ h => h.elim
  | d + 1 => by
    intro S t v left w hv hS h0 h1
    have ih := szVal_any d
    obtain ⟨vk, vl, rfl, i1, i2, i3, hk, hl⟩ := hv
    obtain ⟨ak, ck, rfl, hkl⟩ := hk.open'
    obtain ⟨al, cl, rfl, hll⟩ := hl.open'
    by_cases hn1 : left - (Nd.str t).size < 0
    · have hfin : Hid (szT (d + 1) t left = -1) := if_pos hn1
      go_enter Tryz.func7, Tryz.ntmps7
      go_wp2_with fail
      go_ret
      rw [hfin.out]
      exact ⟨rfl, (Below.refl _ _).alloc (Nat.le_refl _) _⟩
    · have hle := szStrs_le (Nd.keys t) (left - (Nd.str t).size) (by omega)
      go_enter Tryz.func7, Tryz.ntmps7
      go_wp2_with fail
      have hba := below_alloc1 w (Obj.cells #[Value.int IntKind.i64 t.kind, Value.int IntKind.i64 t.num, Value.string t.str, Value.slice ak t.keys.length ck, Value.slice al t.list.length cl] 25)
      refine (szStringS_any S t.keys _ _ _ (hk.same (hS.same hba)) hn1 (by omega)).mono ?_
      rintro e w1 ⟨rfl, rfl⟩
      by_cases hn2 : szStrs t.keys (left - t.str.size) < 0
      · have hfin : Hid (szT (d + 1) t left = -1) := by
          show szT (d + 1) t left = -1
          rw [szT, if_neg (by omega), if_pos hn2]
        go_wp2_with fail
        go_ret
        rw [hfin.out]
        exact ⟨rfl, hba⟩
      · have hle2 := szL_le (szT d) (szT_le d) t.list _ (Int.not_lt.1 hn2)
        go_wp2_with fail
        refine (szValS_any d ih S t.list _ _ _ (hl.same (hS.same hba)) (hS.later hba.size) (by omega) (by omega)).mono ?_
        rintro e w1 ⟨rfl, hb1⟩
        have hb2 : Below w.heap.size w w1 := below_trans hba hb1
        by_cases hn3 : szL (szT d) t.list (szStrs t.keys (left - t.str.size)) < 0
        · have hfin : Hid (szT (d + 1) t left = -1) := by
            show szT (d + 1) t left = -1
            rw [szT, if_neg (by omega), if_neg (by omega), if_pos hn3]
          go_wp2_with fail
          go_ret
          rw [hfin.out]
          exact ⟨rfl, hb2⟩
        · have hfin : Hid (szT (d + 1) t left = szL (szT d) t.list (szStrs t.keys (left - t.str.size))) := by
            show szT (d + 1) t left = _
            rw [szT, if_neg (by omega), if_neg (by omega), if_neg hn3]
          go_wp2_with fail
          go_ret
          rw [hfin.out]
          exact ⟨rfl, hb2⟩
end Go.Proofs.YtmkoeomkbbmoaaaGreatDoor
