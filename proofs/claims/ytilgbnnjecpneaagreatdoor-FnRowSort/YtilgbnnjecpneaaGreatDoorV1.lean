/- Texts of the proof, put together by program: Base, WSzB, WEqB, WStr, WFormA. -/
import Derived.WalkKit
import Derived.ProofKit
import Derived.Deep.OwnRows
import Derived.Laws.Cover1
import Derived.Test.YtilgbnnjecpneaaGreatDoorRows
import Derived.Handy
import Derived.BigQuiet
import Derived.Deep.QuietTactic
import Derived.Deep.RegionWith
/- Plain trees, and how they lie in memory. Nothing of the program is named here. -/
namespace Go.Proofs.YtilgbnnjecpneaaGreatDoor
open Go.RowKit

/-- One part of a tree: its kind, number, text, keys, and the parts in it. -/
structure Nd (α : Type) where
  kind : Int
  num : Int
  str : ByteArray
  keys : List ByteArray
  list : List α

/-- Trees of at most so many parts around one another. -/
def Tr : Nat → Type
  | 0 => Empty
  | d + 1 => Nd (Tr d)

/-- A number that a Go int holds. -/
def I64 (n : Int) : Prop := -9223372036854775808 ≤ n ∧ n ≤ 9223372036854775807

/-- The blocks of S are in both worlds the same. -/
def Same (S : Nat → Prop) (w w' : World) : Prop := ∀ b, S b → w'.heap[b]? = w.heap[b]?

/-- The blocks that are in w' and were not in w. -/
def Fresh (w w' : World) (b : Nat) : Prop := w.heap.size ≤ b ∧ b < w'.heap.size

/-- The blocks of S are in w. -/
def Within (S : Nat → Prop) (w : World) : Prop := ∀ b, S b → b < w.heap.size

theorem Same.cell {S : Nat → Prop} {w w' : World} (h : Same S w w') {b o : Nat} (hb : S b) : w'.cell? ⟨b, o, none⟩ = w.cell? ⟨b, o, none⟩ :=
  World.cell?_of_block (w := w) (h b hb)
theorem Within.same {S : Nat → Prop} {w w' : World} (h : Within S w) (hb : Below w.heap.size w w') : Same S w w' := fun b hS => hb.block b (h b hS)
theorem Within.later {S : Nat → Prop} {w w' : World} (h : Within S w) (hb : w.heap.size ≤ w'.heap.size) : Within S w' := fun b hS => Nat.lt_of_lt_of_le (h b hS) hb
theorem Fresh.within (w w' : World) : Within (Fresh w w') w' := fun _ h => h.2
theorem Same.refl (S : Nat → Prop) (w : World) : Same S w w := fun _ _ => rfl
theorem Same.trans {S : Nat → Prop} {w w' w'' : World} (h : Same S w w') (k : Same S w' w'') : Same S w w'' := fun b hb => (k b hb).trans (h b hb)

/-- A slice of texts that lies in blocks of S. -/
def StrsAt (S : Nat → Prop) (w : World) (v : Value) (ss : List ByteArray) : Prop :=
  ss.length < 17592186044416 ∧ (∀ s ∈ ss, s.size < 281474976710656) ∧
  ∃ a cap, v = .slice a ss.length cap ∧
    (ss = [] ∨ ∃ b o, S b ∧ a = some ⟨b, o, none⟩ ∧ ∀ i s, ss[i]? = some s → w.cell? ⟨b, o + i, none⟩ = some (.string s))

/-- A slice of things of five cells each that lies in blocks of S. -/
def RowAt {α : Type} (S : Nat → Prop) (w : World) (At : α → Value → Prop) (v : Value) (xs : List α) : Prop :=
  xs.length < 3518437208883 ∧
  ∃ a cap, v = .slice a xs.length cap ∧
    (xs = [] ∨ ∃ b o, S b ∧ a = some ⟨b, o, none⟩ ∧ ∀ i x, xs[i]? = some x → ∃ c0 c1 c2 c3 c4,
      w.cell? ⟨b, o + i * 5, none⟩ = some c0 ∧ w.cell? ⟨b, o + i * 5 + 1, none⟩ = some c1 ∧ w.cell? ⟨b, o + i * 5 + 2, none⟩ = some c2 ∧
      w.cell? ⟨b, o + i * 5 + 3, none⟩ = some c3 ∧ w.cell? ⟨b, o + i * 5 + 4, none⟩ = some c4 ∧ At x (.agg #[c0, c1, c2, c3, c4]))

/-- A tree that lies in blocks of S. -/
def ValAt (S : Nat → Prop) (w : World) : (d : Nat) → Tr d → Value → Prop
  | 0, _, _ => False
  | d + 1, t, v => ∃ vk vl, v = .agg #[.int .i64 (Nd.kind t), .int .i64 (Nd.num t), .string (Nd.str t), vk, vl] ∧
      I64 (Nd.kind t) ∧ I64 (Nd.num t) ∧ (Nd.str t).size < 281474976710656 ∧ StrsAt S w vk (Nd.keys t) ∧ RowAt S w (ValAt S w d) vl (Nd.list t)

theorem StrsAt.moved {S S' : Nat → Prop} {w w' : World} {v : Value} {ss : List ByteArray} (h : StrsAt S w v ss) (hs : Same S w w') (hS : ∀ b, S b → S' b) : StrsAt S' w' v ss := by
  obtain ⟨h1, h2, a, cap, hv, h3⟩ := h
  refine ⟨h1, h2, a, cap, hv, ?_⟩
  rcases h3 with h3 | ⟨b, o, hB, ha, hc⟩
  · exact Or.inl h3
  · exact Or.inr ⟨b, o, hS _ hB, ha, fun i s hi => by rw [hs.cell hB]; exact hc i s hi⟩

theorem RowAt.moved {α : Type} {S S' : Nat → Prop} {w w' : World} {At At' : α → Value → Prop} {v : Value} {xs : List α} (h : RowAt S w At v xs) (hs : Same S w w') (hS : ∀ b, S b → S' b)
    (hi : ∀ x u, At x u → At' x u) : RowAt S' w' At' v xs := by
  obtain ⟨h1, a, cap, hv, h3⟩ := h
  refine ⟨h1, a, cap, hv, ?_⟩
  rcases h3 with h3 | ⟨b, o, hB, ha, hc⟩
  · exact Or.inl h3
  · refine Or.inr ⟨b, o, hS _ hB, ha, fun i x hx => ?_⟩
    obtain ⟨c0, c1, c2, c3, c4, e0, e1, e2, e3, e4, e5⟩ := hc i x hx
    exact ⟨c0, c1, c2, c3, c4, (hs.cell hB).trans e0, (hs.cell hB).trans e1, (hs.cell hB).trans e2, (hs.cell hB).trans e3, (hs.cell hB).trans e4, hi _ _ e5⟩

theorem ValAt.moved {S S' : Nat → Prop} {w w' : World} (hs : Same S w w') (hS : ∀ b, S b → S' b) : ∀ (d : Nat) (t : Tr d) (v : Value), ValAt S w d t v → ValAt S' w' d t v
  | 0, _, _, h => h
  | d + 1, t, v, h => by
    obtain ⟨vk, vl, hv, i1, i2, i3, hk, hl⟩ := h
    exact ⟨vk, vl, hv, i1, i2, i3, hk.moved hs hS, hl.moved hs hS (fun x u hx => ValAt.moved hs hS d x u hx)⟩

theorem StrsAt.same {S : Nat → Prop} {w w' : World} {v : Value} {ss : List ByteArray} (h : StrsAt S w v ss) (hs : Same S w w') : StrsAt S w' v ss := h.moved hs (fun _ h => h)
theorem ValAt.same {S : Nat → Prop} {w w' : World} {d : Nat} {t : Tr d} {v : Value} (h : ValAt S w d t v) (hs : Same S w w') : ValAt S w' d t v := ValAt.moved hs (fun _ h => h) d t v h
theorem RowAt.same {S : Nat → Prop} {d : Nat} {w w' : World} {v : Value} {xs : List (Tr d)} (h : RowAt S w (ValAt S w d) v xs) (hs : Same S w w') : RowAt S w' (ValAt S w' d) v xs :=
  h.moved hs (fun _ h => h) (fun x u hx => ValAt.moved hs (fun _ h => h) d x u hx)
theorem StrsAt.mono {S S' : Nat → Prop} {w : World} {v : Value} {ss : List ByteArray} (h : StrsAt S w v ss) (hS : ∀ b, S b → S' b) : StrsAt S' w v ss := h.moved (Same.refl _ _) hS
theorem ValAt.mono {S S' : Nat → Prop} {w : World} {d : Nat} {t : Tr d} {v : Value} (h : ValAt S w d t v) (hS : ∀ b, S b → S' b) : ValAt S' w d t v := ValAt.moved (Same.refl _ _) hS d t v h
theorem RowAt.mono {S S' : Nat → Prop} {d : Nat} {w : World} {v : Value} {xs : List (Tr d)} (h : RowAt S w (ValAt S w d) v xs) (hS : ∀ b, S b → S' b) : RowAt S' w (ValAt S' w d) v xs :=
  h.moved (Same.refl _ _) hS (fun x u hx => ValAt.moved (Same.refl _ _) hS d x u hx)

/-- A slice value of texts, opened: one form for nil and any other. -/
theorem StrsAt.open' {S : Nat → Prop} {w : World} {v : Value} {ss : List ByteArray} (h : StrsAt S w v ss) : ∃ a cap, v = .slice a ss.length cap ∧ ss.length < 17592186044416 := by
  obtain ⟨h1, _, a, cap, hv, _⟩ := h
  exact ⟨a, cap, hv, h1⟩
theorem RowAt.open' {α : Type} {S : Nat → Prop} {w : World} {At : α → Value → Prop} {v : Value} {xs : List α} (h : RowAt S w At v xs) : ∃ a cap, v = .slice a xs.length cap ∧ xs.length < 3518437208883 := by
  obtain ⟨h1, a, cap, hv, _⟩ := h
  exact ⟨a, cap, hv, h1⟩
/-- The text at a place. -/
theorem StrsAt.cell {S : Nat → Prop} {w : World} {a : Option Addr} {n cap k : Nat} {ss : List ByteArray} (h : StrsAt S w (.slice a n cap) ss) (hk : k < ss.length) :
    ∃ b o s, a = some ⟨b, o, none⟩ ∧ S b ∧ ss[k]? = some s ∧ s.size < 281474976710656 ∧ w.cell? ⟨b, o + k, none⟩ = some (.string s) := by
  obtain ⟨h1, h2, a', cap', hv, h3⟩ := h
  cases hv
  rcases h3 with rfl | ⟨b, o, hB, ha, hc⟩
  · simp at hk
  · exact ⟨b, o, ss[k], ha, hB, List.getElem?_eq_getElem hk, h2 _ (List.getElem_mem hk), hc k _ (List.getElem?_eq_getElem hk)⟩
/-- The five cells of the thing at a place. -/
theorem RowAt.cell {α : Type} {S : Nat → Prop} {w : World} {At : α → Value → Prop} {a : Option Addr} {n cap k : Nat} {xs : List α} (h : RowAt S w At (.slice a n cap) xs) (hk : k < xs.length) :
    ∃ b o x c0 c1 c2 c3 c4, a = some ⟨b, o, none⟩ ∧ S b ∧ xs[k]? = some x ∧
      w.cell? ⟨b, o + k * 5, none⟩ = some c0 ∧ w.cell? ⟨b, o + k * 5 + 1, none⟩ = some c1 ∧ w.cell? ⟨b, o + k * 5 + 2, none⟩ = some c2 ∧
      w.cell? ⟨b, o + k * 5 + 3, none⟩ = some c3 ∧ w.cell? ⟨b, o + k * 5 + 4, none⟩ = some c4 ∧ At x (.agg #[c0, c1, c2, c3, c4]) := by
  obtain ⟨h1, a', cap', hv, h3⟩ := h
  cases hv
  rcases h3 with rfl | ⟨b, o, hB, ha, hc⟩
  · simp at hk
  · obtain ⟨c0, c1, c2, c3, c4, e⟩ := hc k _ (List.getElem?_eq_getElem hk)
    exact ⟨b, o, xs[k], c0, c1, c2, c3, c4, ha, hB, List.getElem?_eq_getElem hk, e⟩

theorem below_alloc1 (w : World) (o : Obj) : Below w.heap.size w (w.alloc o) := (Below.refl _ _).alloc (Nat.le_refl _) _
theorem below_trans {a b c : World} (h : Below a.heap.size a b) (k : Below b.heap.size b c) : Below a.heap.size a c := h.trans (k.mono h.size)

/-- Block b is five cells. -/
def Blk5 (w : World) (b : Nat) (T : TypeId) (c0 c1 c2 c3 c4 : Value) : Prop := w.heap[b]? = some (.cells #[c0, c1, c2, c3, c4] T (0, 0))
theorem Blk5.lt {w : World} {b : Nat} {T : TypeId} {c0 c1 c2 c3 c4 : Value} (h : Blk5 w b T c0 c1 c2 c3 c4) : b < w.heap.size := (Array.getElem?_eq_some_iff.1 h).1
theorem Blk5.cell {w : World} {b : Nat} {T : TypeId} {c0 c1 c2 c3 c4 : Value} (h : Blk5 w b T c0 c1 c2 c3 c4) :
    w.cell? ⟨b, 0, none⟩ = some c0 ∧ w.cell? ⟨b, 1, none⟩ = some c1 ∧ w.cell? ⟨b, 2, none⟩ = some c2 ∧ w.cell? ⟨b, 3, none⟩ = some c3 ∧ w.cell? ⟨b, 4, none⟩ = some c4 := by
  unfold Blk5 at h
  simp [World.cell?, h]
theorem Blk5.frozen {w : World} {b : Nat} {T : TypeId} {c0 c1 c2 c3 c4 : Value} (h : Blk5 w b T c0 c1 c2 c3 c4) (o : Nat) : w.frozen? ⟨b, o, none⟩ = false := by
  unfold Blk5 at h
  simp [World.frozen?, h]
theorem Blk5.of_block {w w' : World} {b : Nat} {T : TypeId} {c0 c1 c2 c3 c4 : Value} (h : Blk5 w b T c0 c1 c2 c3 c4) (e : w'.heap[b]? = w.heap[b]?) : Blk5 w' b T c0 c1 c2 c3 c4 := e.trans h
theorem Blk5.below {w w' : World} {b : Nat} {T : TypeId} {c0 c1 c2 c3 c4 : Value} (h : Blk5 w b T c0 c1 c2 c3 c4) (e : Below w.heap.size w w') : Blk5 w' b T c0 c1 c2 c3 c4 := h.of_block (e.block b h.lt)
theorem Blk5.alloc {w : World} {b : Nat} {T : TypeId} {c0 c1 c2 c3 c4 : Value} (h : Blk5 w b T c0 c1 c2 c3 c4) (o : Obj) : Blk5 (w.alloc o) b T c0 c1 c2 c3 c4 := h.of_block (Below.heap_alloc _ _ _ h.lt)
theorem Blk5.other {w : World} {b : Nat} {T : TypeId} {c0 c1 c2 c3 c4 : Value} (h : Blk5 w b T c0 c1 c2 c3 c4) {a : Addr} (u : Value) (e : b ≠ a.block) : Blk5 (w.setCell a u) b T c0 c1 c2 c3 c4 := h.of_block (Below.heap_setCell _ _ _ _ e)
theorem Blk5.new (w : World) (T : TypeId) (c0 c1 c2 c3 c4 : Value) : Blk5 (w.alloc (.cells #[c0, c1, c2, c3, c4] T)) w.heap.size T c0 c1 c2 c3 c4 := heap_alloc_new w _
theorem Blk5.set3 {w : World} {b : Nat} {T : TypeId} {c0 c1 c2 c3 c4 : Value} (h : Blk5 w b T c0 c1 c2 c3 c4) (u : Value) : Blk5 (w.setCell ⟨b, 3, none⟩ u) b T c0 c1 c2 u c4 := by
  unfold Blk5 at h ⊢
  simp [World.setCell, Array.getElem?_modify, h]
theorem Blk5.set4 {w : World} {b : Nat} {T : TypeId} {c0 c1 c2 c3 c4 : Value} (h : Blk5 w b T c0 c1 c2 c3 c4) (u : Value) : Blk5 (w.setCell ⟨b, 4, none⟩ u) b T c0 c1 c2 c3 u := by
  unfold Blk5 at h ⊢
  simp [World.setCell, Array.getElem?_modify, h]
theorem size_setCell1 (w : World) (a : Addr) (u : Value) : (w.setCell a u).heap.size = w.heap.size := by simp [World.setCell]
end Go.Proofs.YtilgbnnjecpneaaGreatDoor

/- How much a tree takes: the plain functions. -/
namespace Go.Proofs.YtilgbnnjecpneaaGreatDoor
open Go.RowKit
end Go.Proofs.YtilgbnnjecpneaaGreatDoor

/- Two trees are one: the plain functions. -/
namespace Go.Proofs.YtilgbnnjecpneaaGreatDoor
open Go.RowKit Go.Deep
def eqStrs : List ByteArray → List ByteArray → Bool
  | [], [] => true
  | a :: as', b :: bs => a.toList == b.toList && eqStrs as' bs
  | _, _ => false

def eqL {α : Type} (f : α → α → Bool) : List α → List α → Bool
  | [], [] => true
  | a :: as', b :: bs => f a b && eqL f as' bs
  | _, _ => false

def eqT : (d : Nat) → Tr d → Tr d → Bool
  | 0, _, _ => true
  | d + 1, a, b => Nd.kind a == Nd.kind b && (Nd.num a == Nd.num b && ((Nd.str a).toList == (Nd.str b).toList && (eqStrs (Nd.keys a) (Nd.keys b) && eqL (eqT d) (Nd.list a) (Nd.list b))))

theorem below_drewN (B : Nat) (w : World) (n : Nat) : Below B w (w.drewN n) := ⟨rfl, rfl, rfl, Nat.le_refl _, fun _ _ => rfl⟩

end Go.Proofs.YtilgbnnjecpneaaGreatDoor

/- l1Str, l1Keys: texts and keys that a tree may have, as the model has them. -/
namespace Go.Proofs.YtilgbnnjecpneaaGreatDoor
open Go.RowKit Go.Deep

def letterB (c : UInt8) : Bool := decide (97 ≤ c.toNat ∧ c.toNat ≤ 122)
def strOk (s : ByteArray) : Bool := s.data.toList.all letterB && decide (s.size ≤ 12)

theorem take_snoc (s : ByteArray) (k : Nat) (h : k < s.size) : s.data.toList.take (k + 1) = s.data.toList.take k ++ [s[k]] := by
  rw [List.take_succ_eq_append_getElem (by simpa using h)]; rfl
theorem all_step {s : ByteArray} {k : Nat} (h : k < s.size) (ha : (s.data.toList.take k).all letterB = true) (hc : letterB s[k] = true) : (s.data.toList.take (k + 1)).all letterB = true := by
  rw [take_snoc s k h, List.all_append, ha]
  simp [hc]
theorem all_fail {s : ByteArray} {k : Nat} (h : k < s.size) (hc : letterB s[k] = false) : strOk s = false := by
  have hm : s[k] ∈ s.data.toList := by
    have : s[k] = s.data.toList[k]'(by simpa using h) := rfl
    rw [this]
    exact List.getElem_mem _
  have hf : s.data.toList.all letterB = false := by
    rw [List.all_eq_false]
    exact ⟨_, hm, by simp [hc]⟩
  rw [strOk, hf]
  rfl
theorem all_done {s : ByteArray} {k : Nat} (h : ¬ k < s.size) (ha : (s.data.toList.take k).all letterB = true) : strOk s = decide (s.size ≤ 12) := by
  rw [List.take_of_length_le (by simp; exact Nat.not_lt.1 h)] at ha
  rw [strOk, ha]
  rfl
theorem letter_lo {c : UInt8} (h : (c.toNat : Int) < 97) : letterB c = false := by simp [letterB]; omega
theorem letter_hi {c : UInt8} (h : (122 : Int) < c.toNat) : letterB c = false := by simp [letterB]; omega
theorem letter_in {c : UInt8} (h : ¬ (c.toNat : Int) < 97) (h' : ¬ (122 : Int) < c.toNat) : letterB c = true := by simp [letterB]; omega

set_option maxHeartbeats 400000 in
theorem l1Str_any (s : ByteArray) (w : World) (hs : s.size < 281474976710656) :
    Calls Tryz.prog 101 #[.string s] w fun e w' => e = .returned (.bool (strOk s)) ∧ w' = w := by
  go_enter Tryz.func101, Tryz.ntmps101
  go_wp2_with fail
  go_loop [3] (fun i => ∃ k : Nat, k ≤ s.size ∧ i = .int .i64 k ∧ Hid ((s.data.toList.take k).all letterB = true)) (fun i => s.size - (intOf i).toNat)
  case atStart => exact ⟨0, Nat.zero_le _, rfl, rfl⟩
  case round =>
    obtain ⟨k, hk, rfl, ha⟩ := hrel
    by_cases hlt : k < s.size
    · by_cases h1 : (s[k].toNat : Int) < 97
      · have hf : Hid _ := all_fail hlt (letter_lo h1)
        go_wp2_with fail
        go_ret
        rw [hf.out]
        exact ⟨rfl, rfl⟩
      · by_cases h2 : (122 : Int) < s[k].toNat
        · have hf : Hid _ := all_fail hlt (letter_hi h2)
          go_wp2_with fail
          go_ret
          rw [hf.out]
          exact ⟨rfl, rfl⟩
        · have hf : Hid _ := all_step hlt ha.out (letter_in h1 h2)
          go_wp2_with fail
          go_round
          case rel => exact ⟨k + 1, by omega, by go_num, hf⟩
          case measure => simp [intOf]; omega
    · have hf : Hid _ := all_done hlt ha.out
      go_wp2_with fail
      go_ret
      rw [hf.out]
      exact ⟨by simp; omega, rfl⟩

def ltB (a b : ByteArray) : Bool := Op.bytesLess a.toList b.toList
def keysGo : Option ByteArray → List ByteArray → Bool
  | _, [] => true
  | none, s :: r => strOk s && keysGo (some s) r
  | some p, s :: r => strOk s && (ltB p s && keysGo (some s) r)
def keysB (ss : List ByteArray) : Bool := keysGo none ss
def prevOf (ss : List ByteArray) : Nat → Option ByteArray
  | 0 => none
  | k + 1 => ss[k]?

theorem keysGo_zero {ss : List ByteArray} {s : ByteArray} (h : ss[0]? = some s) : keysGo (prevOf ss 0) (ss.drop 0) = (strOk s && keysGo (prevOf ss 1) (ss.drop 1)) := by
  cases ss with
  | nil => simp at h
  | cons a r =>
    simp at h
    subst h
    rfl
theorem keysGo_succ {ss : List ByteArray} {k : Nat} {p s : ByteArray} (hp : ss[k]? = some p) (h : ss[k + 1]? = some s) :
    keysGo (prevOf ss (k + 1)) (ss.drop (k + 1)) = (strOk s && (ltB p s && keysGo (prevOf ss (k + 1 + 1)) (ss.drop (k + 1 + 1)))) := by
  obtain ⟨hk, e⟩ := List.getElem?_eq_some_iff.1 h
  rw [List.drop_eq_getElem_cons hk, e]
  simp only [prevOf, hp, h, keysGo]
theorem keysGo_pos {ss : List ByteArray} {k : Nat} {p s : ByteArray} (h0 : 0 < k) (hp : ss[k - 1]? = some p) (h : ss[k]? = some s) :
    keysGo (prevOf ss k) (ss.drop k) = (strOk s && (ltB p s && keysGo (prevOf ss (k + 1)) (ss.drop (k + 1)))) := by
  obtain ⟨j, rfl⟩ : ∃ j, k = j + 1 := ⟨k - 1, by omega⟩
  exact keysGo_succ hp h
theorem keysGo_bad {ss : List ByteArray} {k : Nat} {s : ByteArray} (h : ss[k]? = some s) (hs : strOk s = false) : keysGo (prevOf ss k) (ss.drop k) = false := by
  cases k with
  | zero => rw [keysGo_zero h, hs]; rfl
  | succ k =>
    obtain ⟨hk, e⟩ := List.getElem?_eq_some_iff.1 h
    rw [keysGo_succ (List.getElem?_eq_getElem (by omega)) h, hs]
    rfl
theorem bytesLess_irrefl : ∀ a : List UInt8, Op.bytesLess a a = false
  | [] => rfl
  | a :: x => by simp [Op.bytesLess, bytesLess_irrefl x]
theorem bytesLess_total : ∀ a b : List UInt8, (Op.bytesLess a b || a == b) = !Op.bytesLess b a
  | [], [] => rfl
  | [], _ :: _ => rfl
  | _ :: _, [] => rfl
  | a :: x, b :: y => by
    have ih := bytesLess_total x y
    rcases Nat.lt_trichotomy a.toNat b.toNat with h | h | h
    · have h1 : a < b := h
      have h2 : ¬ b < a := by rw [UInt8.lt_iff_toNat_lt]; omega
      have h3 : a ≠ b := by intro e; subst e; omega
      have h4 : b ≠ a := fun e => h3 e.symm
      simp [Op.bytesLess, h1, h2, h4]
    · have h1 : a = b := UInt8.toNat_inj.1 h
      subst h1
      have h2 : ¬ a < a := by rw [UInt8.lt_iff_toNat_lt]; omega
      simp only [Op.bytesLess, h2, decide_false, Bool.false_or, beq_self_eq_true, Bool.true_and, List.cons_beq_cons]
      exact ih
    · have h1 : b < a := h
      have h2 : ¬ a < b := by rw [UInt8.lt_iff_toNat_lt]; omega
      have h3 : a ≠ b := by intro e; subst e; omega
      simp [Op.bytesLess, h1, h2, h3]

set_option maxHeartbeats 1000000 in
theorem l1Keys_any (S : Nat → Prop) (ss : List ByteArray) (v : Value) (w : World) (hv : StrsAt S w v ss) :
    Calls Tryz.prog 102 #[v] w fun e w' => e = .returned (.bool (keysB ss)) ∧ ∃ n, w' = w.drewN n := by
  obtain ⟨a, cap, rfl, hlen⟩ := hv.open'
  go_enter Tryz.func102, Tryz.ntmps102
  go_wp2_with fail
  go_loopw [3] (fun i wr => ∃ k : Nat, k ≤ ss.length ∧ i = .int .i64 k ∧ Hid (∃ n, wr = w.drewN n) ∧ Hid (keysB ss = keysGo (prevOf ss k) (ss.drop k))) (fun i _ => ss.length - (intOf i).toNat)
  case atStart => exact ⟨0, Nat.zero_le _, rfl, ⟨0, rfl⟩, rfl⟩
  case round =>
    obtain ⟨k, hk, rfl, hwr, hfin⟩ := hrel
    have hvr : StrsAt S wr (.slice a ss.length cap) ss := by
      obtain ⟨n, rfl⟩ := hwr.out
      exact hv.same (fun _ _ => rfl)
    have hend : Hid (∀ m, ∃ n, wr.drewN m = w.drewN n) := by
      obtain ⟨n, hn⟩ := hwr.out
      intro m
      exact ⟨n + m, by rw [hn, World.drewN_drewN]⟩
    clear hv
    by_cases hkl : k < ss.length
    · obtain ⟨b, o, s, rfl, _, hs, hsz, hck⟩ := hvr.cell hkl
      have hki : (k : Int) < (ss.length : Int) := by omega
      cases h1 : strOk s with
      | false =>
        have hf : Hid (keysB ss = false) := hfin.out.trans (keysGo_bad hs h1)
        clear hfin hs hvr
        go_wp2_with fail
        go_quiet ((go_at_call 101; exact Calls.quiet_of_same (l1Str_any _ _ hsz)))
        go_wp2_with fail
        go_ret
        rw [hf.out]
        exact ⟨rfl, hend.out nq⟩
      | true =>
        by_cases h0 : k = 0
        · subst h0
          have hf : Hid (keysB ss = keysGo (prevOf ss 1) (ss.drop 1)) := by
            show keysB ss = _
            rw [hfin.out, keysGo_zero hs, h1]
            rfl
          clear hfin hs hvr
          rw [Nat.add_zero] at hck
          have hd : decide ((0 : Int) < ((0 : Nat) : Int)) = false := rfl
          go_wp2_with fail
          go_quiet ((go_at_call 101; exact Calls.quiet_of_same (l1Str_any _ _ hsz)))
          go_wp2_with fail
          go_roundw
          case rel => exact ⟨1, by omega, by go_num, hend.out nq, hf⟩
          case measure => simp [intOf]; omega
        · obtain ⟨b2, o2, s2, hbo, _, hs2, _, hck2⟩ := hvr.cell (k := k - 1) (by omega)
          cases hbo
          have hst : Hid (_ = _) := keysGo_pos (by omega) hs2 hs
          have hk0 : 0 < k := by omega
          have hwrap : IntKind.i64.wrap ((k : Int) - 1) = (k : Int) - 1 := IntWalk.i64_in _ (by omega)
          have hk1 : (1 : Int) ≤ (k : Int) := by omega
          have hk2 : (k : Int) - 1 < (ss.length : Int) := by omega
          have hto : ((k : Int) - 1).toNat = k - 1 := by omega
          cases h2 : ltB s2 s with
          | true =>
            have hf : Hid (keysB ss = keysGo (prevOf ss (k + 1)) (ss.drop (k + 1))) := by
              show keysB ss = _
              rw [hfin.out, hst.out, h1, h2]
              rfl
            have hcmp : (Op.bytesLess s.toList s2.toList || s.toList == s2.toList) = false := by
              rw [bytesLess_total]
              unfold ltB at h2
              rw [h2]
              rfl
            clear hfin hs hvr hst hs2
            go_wp2_with fail
            go_quiet ((go_at_call 101; exact Calls.quiet_of_same (l1Str_any _ _ hsz)))
            go_wp2_with fail
            exact ⟨⟨k + 1, by omega, by go_num, hend.out nq, hf⟩, by simp [intOf]; omega⟩
          | false =>
            have hf : Hid (keysB ss = false) := by
              show keysB ss = _
              rw [hfin.out, hst.out, h1, h2]
              rfl
            have hcmp : (Op.bytesLess s.toList s2.toList || s.toList == s2.toList) = true := by
              rw [bytesLess_total]
              unfold ltB at h2
              rw [h2]
              rfl
            clear hfin hs hvr hst hs2
            go_wp2_with fail
            go_quiet ((go_at_call 101; exact Calls.quiet_of_same (l1Str_any _ _ hsz)))
            go_wp2_with fail
            go_ret
            rw [hf.out]
            exact ⟨rfl, hend.out nq⟩
    · go_wp2_with fail
      go_ret
      rw [hfin.out, List.drop_eq_nil_of_le (by omega)]
      refine ⟨?_, hwr.out⟩
      cases prevOf ss k <;> rfl
end Go.Proofs.YtilgbnnjecpneaaGreatDoor

/- l1Form, l1Many, ValOk of the model. -/
namespace Go.Proofs.YtilgbnnjecpneaaGreatDoor
open Go.RowKit Go.Deep

def headBad (kind num : Int) (str : ByteArray) (nk nl : Nat) (deep : Int) : Bool :=
  decide (deep < 1) || (kind != 3 && num != 0) || (kind != 4 && !(str.toList == [])) || (kind != 6 && decide (0 < nk)) || (decide (kind < 5) && decide (0 < nl))
def formT : (d : Nat) → Tr d → Int → Bool
  | 0, _, _ => false
  | d + 1, t, deep =>
    !headBad (Nd.kind t) (Nd.num t) (Nd.str t) (Nd.keys t).length (Nd.list t).length deep &&
    (if Nd.kind t = 0 ∨ Nd.kind t = 1 ∨ Nd.kind t = 2 then true
     else if Nd.kind t = 3 then decide (-1000000 ≤ Nd.num t ∧ Nd.num t ≤ 1000000)
     else if Nd.kind t = 4 then strOk (Nd.str t)
     else if Nd.kind t = 6 then (Nd.keys t).length == (Nd.list t).length && keysB (Nd.keys t) && (Nd.list t).all (fun x => formT d x (deep - 1))
     else if Nd.kind t = 5 then (Nd.list t).all (fun x => formT d x (deep - 1))
     else false)

/-- What l1Form does with trees of this depth. -/
def FormVal (d : Nat) : Prop := ∀ (S : Nat → Prop) (t : Tr d) (v : Value) (deep : Int) (w : World), ValAt S w d t v → Within S w → -1000 ≤ deep → deep ≤ 1000 →
    Calls Tryz.prog 87 #[v, .int .i64 deep] w fun e w' => e = .returned (.bool (formT d t deep)) ∧ Below w.heap.size w w'


/-- A part of no right make, or too deep: no. -/
theorem formT_bad {d : Nat} {kind num : Int} {str : ByteArray} {keys : List ByteArray} {list : List (Tr d)} {deep : Int} (h : headBad kind num str keys.length list.length deep = true) :
    formT (d + 1) (Nd.mk kind num str keys list) deep = false := by
  show (!headBad kind num str keys.length list.length deep && _) = false
  rw [h]
  rfl
theorem formT_good {d : Nat} {kind num : Int} {str : ByteArray} {keys : List ByteArray} {list : List (Tr d)} {deep : Int} (h : headBad kind num str keys.length list.length deep = false) :
    formT (d + 1) (Nd.mk kind num str keys list) deep =
    (if kind = 0 ∨ kind = 1 ∨ kind = 2 then true
     else if kind = 3 then decide (-1000000 ≤ num ∧ num ≤ 1000000)
     else if kind = 4 then strOk str
     else if kind = 6 then keys.length == list.length && keysB keys && list.all (fun x => formT d x (deep - 1))
     else if kind = 5 then list.all (fun x => formT d x (deep - 1))
     else false) := by
  show (!headBad kind num str keys.length list.length deep && _) = _
  rw [h]
  rfl

set_option maxHeartbeats 2000000 in
theorem l1Form_bad (d : Nat) (kind num : Int) (str : ByteArray) (keys : List ByteArray) (list : List (Tr d)) (deep : Int) (ak al : Option Addr) (ck cl : Nat) (w : World)
    (hkl : keys.length < 17592186044416) (hll : list.length < 3518437208883) (hbad : headBad kind num str keys.length list.length deep = true) :
    Calls Tryz.prog 87 #[.agg #[.int .i64 kind, .int .i64 num, .string str, .slice ak keys.length ck, .slice al list.length cl], .int .i64 deep] w
      fun e w' => e = .returned (.bool (formT (d + 1) (Nd.mk kind num str keys list) deep)) ∧ Below w.heap.size w w' := by
  rw [formT_bad hbad]
  have HB : Hid _ := hbad
  clear hbad
  by_cases hd : deep < 1
  · go_enter Tryz.func87, Tryz.ntmps87
    go_wp2_with fail
    go_ret
    exact ⟨rfl, below_alloc1 _ _⟩
  cases hB1 : (kind != 3)
  · obtain rfl : kind = 3 := by simpa using hB1
    clear hB1
    by_cases hs : str.toList = []
    · cases keys with
      | cons k ks =>
        go_enter Tryz.func87, Tryz.ntmps87
        go_wp2_with fail
        go_ret
        exact ⟨rfl, below_alloc1 _ _⟩
      | nil =>
        cases list with
        | cons x xs =>
          go_enter Tryz.func87, Tryz.ntmps87
          go_wp2_with fail
          go_ret
          exact ⟨rfl, below_alloc1 _ _⟩
        | nil => exact absurd HB.out (by simp [headBad, hs, hd])
    · go_enter Tryz.func87, Tryz.ntmps87
      go_wp2_with fail
      go_ret
      exact ⟨rfl, below_alloc1 _ _⟩
  · cases hn : (num != 0)
    case true =>
      go_enter Tryz.func87, Tryz.ntmps87
      go_wp2_with fail
      go_ret
      exact ⟨rfl, below_alloc1 _ _⟩
    case false =>
    obtain rfl : num = 0 := by simpa using hn
    clear hn
    cases hC1 : (kind != 4)
    · obtain rfl : kind = 4 := by simpa using hC1
      clear hB1 hC1
      cases keys with
      | cons k ks =>
        go_enter Tryz.func87, Tryz.ntmps87
        go_wp2_with fail
        go_ret
        exact ⟨rfl, below_alloc1 _ _⟩
      | nil =>
        cases list with
        | cons x xs =>
          go_enter Tryz.func87, Tryz.ntmps87
          go_wp2_with fail
          go_ret
          exact ⟨rfl, below_alloc1 _ _⟩
        | nil => exact absurd HB.out (by simp [headBad, hd])
    · by_cases hs : str.toList = []
      case neg =>
        go_enter Tryz.func87, Tryz.ntmps87
        go_wp2_with fail
        go_ret
        exact ⟨rfl, below_alloc1 _ _⟩
      case pos =>
      cases hD1 : (kind != 6)
      · obtain rfl : kind = 6 := by simpa using hD1
        exact absurd HB.out (by simp [headBad, hs, hd])
      · cases keys with
        | cons k ks =>
          go_enter Tryz.func87, Tryz.ntmps87
          go_wp2_with fail
          go_ret
          exact ⟨rfl, below_alloc1 _ _⟩
        | nil =>
          by_cases h5 : kind < 5
          · cases list with
            | cons x xs =>
              go_enter Tryz.func87, Tryz.ntmps87
              go_wp2_with fail
              go_ret
              exact ⟨rfl, below_alloc1 _ _⟩
            | nil => exact absurd HB.out (by simp [headBad, hs, hd])
          · exact absurd HB.out (by simp [headBad, hs, hd, h5])

/-- What is told of a part of right make. -/
theorem head_good {kind num : Int} {str : ByteArray} {nk nl : Nat} {deep : Int} (h : headBad kind num str nk nl deep = false) :
    ¬ deep < 1 ∧ (kind ≠ 3 → num = 0) ∧ (kind ≠ 4 → str.toList = []) ∧ (kind ≠ 6 → nk = 0) ∧ (kind < 5 → nl = 0) := by
  simp [headBad] at h
  obtain ⟨⟨⟨⟨a, b⟩, c⟩, e⟩, f⟩ := h
  refine ⟨by omega, b, c, fun h => by have := e h; omega, fun h => by have := f h; omega⟩

set_option maxHeartbeats 2000000 in
theorem l1Form_leaf (d : Nat) (kind num : Int) (str : ByteArray) (keys : List ByteArray) (list : List (Tr d)) (deep : Int) (ak al : Option Addr) (ck cl : Nat) (w : World)
    (hstr : str.size < 281474976710656) (hkl : keys.length < 17592186044416) (hll : list.length < 3518437208883) (hgood : headBad kind num str keys.length list.length deep = false) (h5 : kind ≠ 5) (h6 : kind ≠ 6) :
    Calls Tryz.prog 87 #[.agg #[.int .i64 kind, .int .i64 num, .string str, .slice ak keys.length ck, .slice al list.length cl], .int .i64 deep] w
      fun e w' => e = .returned (.bool (formT (d + 1) (Nd.mk kind num str keys list) deep)) ∧ Below w.heap.size w w' := by
  rw [formT_good hgood]
  obtain ⟨hd, hn, hs, hk, hl⟩ := head_good hgood
  clear hgood
  by_cases k3 : kind = 3
  · subst k3
    replace hs := hs (by decide)
    obtain rfl : keys = [] := List.eq_nil_of_length_eq_zero (hk (by decide))
    obtain rfl : list = [] := List.eq_nil_of_length_eq_zero (hl (by decide))
    clear hn hk hl h5 h6
    by_cases a : -1000000 ≤ num
    · by_cases b : num ≤ 1000000
      · go_enter Tryz.func87, Tryz.ntmps87
        go_wp2_with fail
        go_ret
        exact ⟨by simp, below_alloc1 _ _⟩
      · go_enter Tryz.func87, Tryz.ntmps87
        go_wp2_with fail
        go_ret
        exact ⟨by simp; omega, below_alloc1 _ _⟩
    · go_enter Tryz.func87, Tryz.ntmps87
      go_wp2_with fail
      go_ret
      exact ⟨by simp; omega, below_alloc1 _ _⟩
  obtain rfl : num = 0 := hn k3
  clear hn
  by_cases k4 : kind = 4
  · subst k4
    obtain rfl : keys = [] := List.eq_nil_of_length_eq_zero (hk (by decide))
    obtain rfl : list = [] := List.eq_nil_of_length_eq_zero (hl (by decide))
    clear hs hk hl h5 h6 k3
    go_enter Tryz.func87, Tryz.ntmps87
    go_wp2_with fail
    refine (l1Str_any str _ hstr).mono ?_
    rintro e w1 ⟨rfl, rfl⟩
    go_wp2_with fail
    go_ret
    exact ⟨rfl, below_alloc1 _ _⟩
  replace hs := hs k4
  obtain rfl : keys = [] := List.eq_nil_of_length_eq_zero (hk h6)
  have b3 : (kind == 3) = false := by simpa using k3
  have b4 : (kind == 4) = false := by simpa using k4
  have b5 : (kind == 5) = false := by simpa using h5
  have b6 : (kind == 6) = false := by simpa using h6
  clear hk
  by_cases k0 : kind = 0
  · subst k0
    obtain rfl : list = [] := List.eq_nil_of_length_eq_zero (hl (by decide))
    clear hl h5 h6 k3 k4 b3 b4 b5 b6
    go_enter Tryz.func87, Tryz.ntmps87
    go_wp2_with fail
    go_ret
    exact ⟨rfl, below_alloc1 _ _⟩
  by_cases k1 : kind = 1
  · subst k1
    obtain rfl : list = [] := List.eq_nil_of_length_eq_zero (hl (by decide))
    clear hl h5 h6 k3 k4 b3 b4 b5 b6 k0
    go_enter Tryz.func87, Tryz.ntmps87
    go_wp2_with fail
    go_ret
    exact ⟨rfl, below_alloc1 _ _⟩
  by_cases k2 : kind = 2
  · subst k2
    obtain rfl : list = [] := List.eq_nil_of_length_eq_zero (hl (by decide))
    clear hl h5 h6 k3 k4 b3 b4 b5 b6 k0 k1
    go_enter Tryz.func87, Tryz.ntmps87
    go_wp2_with fail
    go_ret
    exact ⟨rfl, below_alloc1 _ _⟩
  have b0 : (kind == 0) = false := by simpa using k0
  have b1 : (kind == 1) = false := by simpa using k1
  have b2 : (kind == 2) = false := by simpa using k2
  have q3 : (kind != 3) = true := by simpa using k3
  have q4 : (kind != 4) = true := by simpa using k4
  have q6 : (kind != 6) = true := by simpa using h6
  rw [if_neg (by omega), if_neg k3, if_neg k4, if_neg h6, if_neg h5]
  by_cases hlt : kind < 5
  · obtain rfl : list = [] := List.eq_nil_of_length_eq_zero (hl hlt)
    clear hl
    go_enter Tryz.func87, Tryz.ntmps87
    go_wp2_with fail
    go_ret
    exact ⟨rfl, below_alloc1 _ _⟩
  · clear hl
    go_enter Tryz.func87, Tryz.ntmps87
    go_wp2_with fail
    go_ret
    exact ⟨rfl, below_alloc1 _ _⟩
end Go.Proofs.YtilgbnnjecpneaaGreatDoor
