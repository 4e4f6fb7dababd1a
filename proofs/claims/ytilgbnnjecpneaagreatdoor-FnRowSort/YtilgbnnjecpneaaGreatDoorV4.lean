/- Texts of the proof, put together by program: WSz, WTo, WOwn, WMarkP, WDrawA, WImplC. -/
import Derived.Test.YtilgbnnjecpneaaGreatDoorV1
import Derived.Test.YtilgbnnjecpneaaGreatDoorV2
import Derived.Test.YtilgbnnjecpneaaGreatDoorV3
/- szStringS, szVal, szValS: how much a tree takes. -/
namespace Go.Proofs.YtilgbnnjecpneaaGreatDoor
open Go.RowKit
end Go.Proofs.YtilgbnnjecpneaaGreatDoor

/- toStringS, toVal, toValS: a copy of a tree, in new memory. -/
namespace Go.Proofs.YtilgbnnjecpneaaGreatDoor
open Go.RowKit Go.Deep
end Go.Proofs.YtilgbnnjecpneaaGreatDoor

/- Trees that own their memory: no two lists lie in one block, all cells may be written. -/
namespace Go.Proofs.YtilgbnnjecpneaaGreatDoor
open Go.RowKit Go.Deep

/-- A fact put by, its type as it is written. -/
theorem hide {p : Prop} (h : p) : Hid p := h

/-- Only blocks of S have turned; there may be new ones. -/
structure Turn (S : Nat → Prop) (w w' : World) : Prop where
  os : w'.os = w.os
  tape : w'.tape = w.tape
  output : w'.output = w.output
  size : w.heap.size ≤ w'.heap.size
  block : ∀ b, b < w.heap.size → ¬ S b → w'.heap[b]? = w.heap[b]?

theorem Turn.refl (S : Nat → Prop) (w : World) : Turn S w w := ⟨rfl, rfl, rfl, Nat.le_refl _, fun _ _ _ => rfl⟩
theorem Turn.trans {S : Nat → Prop} {a b c : World} (h : Turn S a b) (k : Turn S b c) : Turn S a c :=
  ⟨k.os.trans h.os, k.tape.trans h.tape, k.output.trans h.output, Nat.le_trans h.size k.size, fun i hi hn => (k.block i (Nat.lt_of_lt_of_le hi h.size) hn).trans (h.block i hi hn)⟩
theorem Turn.of_below {S : Nat → Prop} {w w' : World} (h : Below w.heap.size w w') : Turn S w w' := ⟨h.os, h.tape, h.output, h.size, fun i hi _ => h.block i hi⟩
theorem Turn.mono {S S' : Nat → Prop} {w w' : World} (h : Turn S w w') (hS : ∀ b, S b → S' b) : Turn S' w w' :=
  ⟨h.os, h.tape, h.output, h.size, fun i hi hn => h.block i hi (fun hb => hn (hS i hb))⟩
theorem Turn.same {S R : Nat → Prop} {w w' : World} (h : Turn S w w') (hw : Within R w) (hd : ∀ b, R b → ¬ S b) : Same R w w' := fun b hb => h.block b (hw b hb) (hd b hb)
theorem Turn.set {S : Nat → Prop} {w w' : World} (h : Turn S w w') {a : Addr} (ha : S a.block) (u : Value) : Turn S w (w'.setCell a u) :=
  h.trans ⟨rfl, rfl, rfl, by simp [World.setCell], fun i _ hn => Below.heap_setCell _ _ _ _ (fun e => hn (e ▸ ha))⟩
theorem Turn.below {S : Nat → Prop} {B : Nat} {w w' : World} (h : Turn S w w') (hB : B ≤ w.heap.size) (hS : ∀ b, S b → B ≤ b) : Below B w w' :=
  ⟨h.os, h.tape, h.output, h.size, fun b hb => h.block b (Nat.lt_of_lt_of_le hb hB) (fun hs => Nat.not_lt.2 (hS b hs) hb)⟩
theorem Turn.alloc {S : Nat → Prop} {w w' : World} (h : Turn S w w') (o : Obj) : Turn S w (w'.alloc o) := h.trans (Turn.of_below (below_alloc1 _ _))

/-- A slice of texts in a block of S that may be written. -/
def StrsOwn (S : Nat → Prop) (w : World) (v : Value) (ss : List ByteArray) : Prop :=
  ss.length < 17592186044416 ∧ (∀ s ∈ ss, s.size < 281474976710656) ∧
  ∃ a cap, v = .slice a ss.length cap ∧
    (ss = [] ∨ ∃ b n f, S b ∧ a = some ⟨b, 0, none⟩ ∧ ss.length ≤ n ∧ w.rowIs b 9 n f ∧ ∀ i s, ss[i]? = some s → f i = .string s)

/-- A slice of things of five cells each, in a block of S that may be written; each thing has blocks of its own. -/
def RowOwn {α : Type} (w : World) (At : (Nat → Prop) → α → Value → Prop) (S : Nat → Prop) (v : Value) (xs : List α) : Prop :=
  xs.length < 3518437208883 ∧
  ∃ a cap, v = .slice a xs.length cap ∧
    (xs = [] ∨ ∃ (b n : Nat) (f : Nat → Value) (P : Nat → Nat → Prop), S b ∧ a = some ⟨b, 0, none⟩ ∧ xs.length * 5 ≤ n ∧ w.rowIs b 29 n f ∧
      (∀ i c, P i c → S c ∧ c ≠ b) ∧ (∀ i j c, P i c → P j c → i = j) ∧
      ∀ i x, xs[i]? = some x → At (P i) x (.agg #[f (i * 5), f (i * 5 + 1), f (i * 5 + 2), f (i * 5 + 3), f (i * 5 + 4)]))

/-- A tree that owns its memory, which lies in blocks of S. -/
def ValOwn (w : World) : (d : Nat) → (Nat → Prop) → Tr d → Value → Prop
  | 0, _, _, _ => False
  | d + 1, S, t, v => ∃ vk vl Sk Sl, v = .agg #[.int .i64 (Nd.kind t), .int .i64 (Nd.num t), .string (Nd.str t), vk, vl] ∧
      I64 (Nd.kind t) ∧ I64 (Nd.num t) ∧ (Nd.str t).size < 281474976710656 ∧ StrsOwn Sk w vk (Nd.keys t) ∧ RowOwn w (fun P x u => ValOwn w d P x u) Sl vl (Nd.list t) ∧
      (∀ b, Sk b → S b) ∧ (∀ b, Sl b → S b) ∧ (∀ b, Sk b → ¬ Sl b)

theorem StrsOwn.at {S : Nat → Prop} {w : World} {v : Value} {ss : List ByteArray} (h : StrsOwn S w v ss) : StrsAt S w v ss := by
  obtain ⟨h1, h2, a, cap, hv, h3⟩ := h
  refine ⟨h1, h2, a, cap, hv, ?_⟩
  rcases h3 with h3 | ⟨b, n, f, hB, ha, hl, hr, hc⟩
  · exact Or.inl h3
  · refine Or.inr ⟨b, 0, hB, ha, fun i s hi => ?_⟩
    have := (List.getElem?_eq_some_iff.1 hi).1
    rw [Nat.zero_add, hr.cell (by omega), hc i s hi]
theorem RowOwn.at {α : Type} {w : World} {At : (Nat → Prop) → α → Value → Prop} {At' : α → Value → Prop} {S : Nat → Prop} {v : Value} {xs : List α} (h : RowOwn w At S v xs)
    (hi : ∀ P x u, (∀ b, P b → S b) → At P x u → At' x u) : RowAt S w At' v xs := by
  obtain ⟨h1, a, cap, hv, h3⟩ := h
  refine ⟨h1, a, cap, hv, ?_⟩
  rcases h3 with h3 | ⟨b, n, f, P, hB, ha, hl, hr, hP, _, hc⟩
  · exact Or.inl h3
  · refine Or.inr ⟨b, 0, hB, ha, fun i x hx => ?_⟩
    have := (List.getElem?_eq_some_iff.1 hx).1
    rw [Nat.zero_add]
    exact ⟨_, _, _, _, _, hr.cell (by omega), hr.cell (by omega), hr.cell (by omega), hr.cell (by omega), hr.cell (by omega), hi _ _ _ (fun c hc => (hP i c hc).1) (hc i x hx)⟩
theorem ValOwn.at {w : World} : ∀ (d : Nat) (S : Nat → Prop) (t : Tr d) (v : Value), ValOwn w d S t v → ValAt S w d t v
  | 0, _, _, _, h => h
  | d + 1, S, t, v, h => by
    obtain ⟨vk, vl, Sk, Sl, hv, i1, i2, i3, hk, hl, s1, s2, _⟩ := h
    exact ⟨vk, vl, hv, i1, i2, i3, hk.at.mono s1, (hl.at (At' := ValAt S w d) (fun P x u hP hx => (ValOwn.at d P x u hx).mono (fun b hb => s2 b (hP b hb)))).moved (Same.refl _ _) s2 (fun _ _ h => h)⟩

theorem StrsOwn.moved {S S' : Nat → Prop} {w w' : World} {v : Value} {ss : List ByteArray} (h : StrsOwn S w v ss) (hs : Same S w w') (hS : ∀ b, S b → S' b) : StrsOwn S' w' v ss := by
  obtain ⟨h1, h2, a, cap, hv, h3⟩ := h
  refine ⟨h1, h2, a, cap, hv, ?_⟩
  rcases h3 with h3 | ⟨b, n, f, hB, ha, hl, hr, hc⟩
  · exact Or.inl h3
  · exact Or.inr ⟨b, n, f, hS b hB, ha, hl, hr.of_block (hs b hB), hc⟩
theorem RowOwn.moved {α : Type} {w w' : World} {At At' : (Nat → Prop) → α → Value → Prop} {S S' : Nat → Prop} {v : Value} {xs : List α} (h : RowOwn w At S v xs) (hs : Same S w w') (hS : ∀ b, S b → S' b)
    (hi : ∀ P x u, (∀ b, P b → S b) → At P x u → At' P x u) : RowOwn w' At' S' v xs := by
  obtain ⟨h1, a, cap, hv, h3⟩ := h
  refine ⟨h1, a, cap, hv, ?_⟩
  rcases h3 with h3 | ⟨b, n, f, P, hB, ha, hl, hr, hP, hd, hc⟩
  · exact Or.inl h3
  · exact Or.inr ⟨b, n, f, P, hS b hB, ha, hl, hr.of_block (hs b hB), fun i c hc => ⟨hS c (hP i c hc).1, (hP i c hc).2⟩, hd, fun i x hx => hi _ _ _ (fun c hc => (hP i c hc).1) (hc i x hx)⟩
theorem ValOwn.moved {w w' : World} : ∀ (d : Nat) (S S' : Nat → Prop) (t : Tr d) (v : Value), ValOwn w d S t v → Same S w w' → (∀ b, S b → S' b) → ValOwn w' d S' t v
  | 0, _, _, _, _, h, _, _ => h
  | d + 1, S, S', t, v, h, hs, hS => by
    obtain ⟨vk, vl, Sk, Sl, hv, i1, i2, i3, hk, hl, s1, s2, s3⟩ := h
    exact ⟨vk, vl, Sk, Sl, hv, i1, i2, i3, hk.moved (fun b hb => hs b (s1 b hb)) (fun _ h => h), hl.moved (fun b hb => hs b (s2 b hb)) (fun _ h => h) (fun P x u hP hx => ValOwn.moved d P P x u hx (fun b hb => hs b (s2 b (hP b hb))) (fun _ h => h)),
      fun b hb => hS b (s1 b hb), fun b hb => hS b (s2 b hb), s3⟩
theorem ValOwn.same {w w' : World} {d : Nat} {S : Nat → Prop} {t : Tr d} {v : Value} (h : ValOwn w d S t v) (hs : Same S w w') : ValOwn w' d S t v := ValOwn.moved d S S t v h hs (fun _ h => h)
theorem ValOwn.mono {w : World} {d : Nat} {S S' : Nat → Prop} {t : Tr d} {v : Value} (h : ValOwn w d S t v) (hS : ∀ b, S b → S' b) : ValOwn w d S' t v := ValOwn.moved d S S' t v h (Same.refl _ _) hS
theorem RowOwn.same {w w' : World} {d : Nat} {S : Nat → Prop} {v : Value} {xs : List (Tr d)} (h : RowOwn w (fun P x u => ValOwn w d P x u) S v xs) (hs : Same S w w') : RowOwn w' (fun P x u => ValOwn w' d P x u) S v xs :=
  h.moved hs (fun _ h => h) (fun P x u hP hx => ValOwn.moved d P P x u hx (fun b hb => hs b (hP b hb)) (fun _ h => h))
theorem StrsOwn.open' {S : Nat → Prop} {w : World} {v : Value} {ss : List ByteArray} (h : StrsOwn S w v ss) : ∃ a cap, v = .slice a ss.length cap ∧ ss.length < 17592186044416 := h.at.open'
theorem RowOwn.open' {α : Type} {w : World} {At : (Nat → Prop) → α → Value → Prop} {S : Nat → Prop} {v : Value} {xs : List α} (h : RowOwn w At S v xs) : ∃ a cap, v = .slice a xs.length cap ∧ xs.length < 3518437208883 := by
  obtain ⟨h1, a, cap, hv, _⟩ := h
  exact ⟨a, cap, hv, h1⟩
end Go.Proofs.YtilgbnnjecpneaaGreatDoor

/- Marks, as plain functions of lists and trees. -/
namespace Go.Proofs.YtilgbnnjecpneaaGreatDoor

/-- How many marks a part takes. -/
def wtT : (d : Nat) → Tr d → Nat
  | 0, _ => 0
  | d + 1, t => 3 + (Nd.keys t).length + ((Nd.list t).map (wtT d)).sum
end Go.Proofs.YtilgbnnjecpneaaGreatDoor

/- Drawn trees: leaves. -/
namespace Go.Proofs.YtilgbnnjecpneaaGreatDoor
open Go.RowKit Go.Deep

/-- A tree whose keys may be written behind their end: the parts lie elsewhere. -/
def KeyTop (N : Nat) (S : Nat → Prop) (w : World) : (d : Nat) → Tr d → Value → Prop
  | 0, _, _ => False
  | d + 1, t, u => ∃ kv lv, u = .agg #[.int .i64 (Nd.kind t), .int .i64 (Nd.num t), .string (Nd.str t), kv, lv] ∧ I64 (Nd.kind t) ∧ I64 (Nd.num t) ∧ (Nd.str t).size < 281474976710656 ∧ (∀ s ∈ Nd.keys t, s.size < 281474976710656) ∧ (Nd.keys t).length < 1000 ∧
      w.ownsRow N 9 1 kv (Nd.keys t).length ((Nd.keys t).map Value.string) ∧ (∀ b, kv.ownBlock = some b → S b) ∧ RowAt (fun b => S b ∧ kv.ownBlock ≠ some b) w (ValAt (fun b => S b ∧ kv.ownBlock ≠ some b) w d) lv (Nd.list t)
theorem owns_moved {w w' : World} {N N' : Nat} {e : TypeId} {size n : Nat} {v : Value} {xs : List Value} (h : w.ownsRow N e size v n xs) (ho : ∀ g, v.ownBlock = some g → w'.heap[g]? = w.heap[g]?) (hN : N' ≤ N) : w'.ownsRow N' e size v n xs := by
  refine ⟨h.1, ?_⟩
  rcases h.2 with h | ⟨g, cap, cur, hv, hg, hh, hrest⟩
  · exact Or.inl h
  · exact Or.inr ⟨g, cap, cur, hv, Nat.le_trans hN hg, (ho g (by rw [hv]; rfl)).trans hh, hrest⟩
theorem KeyTop.moved {N N' : Nat} {S S' : Nat → Prop} {w w' : World} {d : Nat} {t : Tr d} {u : Value} (h : KeyTop N S w d t u) (hs : Same S w w') (hS : ∀ b, S b → S' b) (hN : N' ≤ N) : KeyTop N' S' w' d t u := by
  cases d with
  | zero => exact h.elim
  | succ d =>
    obtain ⟨kv, lv, hu, i1, i2, i3, hk, hkl, ho, hob, hl⟩ := h
    exact ⟨kv, lv, hu, i1, i2, i3, hk, hkl, owns_moved ho (fun g hg => hs g (hob g hg)) hN, fun b hb => hS b (hob b hb), hl.moved (fun b hb => hs b hb.1) (fun b hb => ⟨hS b hb.1, hb.2⟩) (fun x u hx => ValAt.moved (fun b hb => hs b hb.1) (fun b hb => ⟨hS b hb.1, hb.2⟩) d x u hx)⟩
theorem strs_of_owns {N : Nat} {S : Nat → Prop} {w : World} {kv : Value} {ks : List ByteArray} (h : w.ownsRow N 9 1 kv ks.length (ks.map Value.string)) (hk : ∀ s ∈ ks, s.size < 281474976710656) (hkl : ks.length < 1000) (hob : ∀ b, kv.ownBlock = some b → S b) : StrsAt S w kv ks := by
  refine ⟨by omega, hk, ?_⟩
  rcases h.2 with ⟨e, h0⟩ | ⟨g, cap, cur, e, hg, hh, _⟩
  · exact ⟨none, 0, by rw [e, h0], Or.inl (List.eq_nil_of_length_eq_zero h0)⟩
  · refine ⟨some ⟨g, 0, none⟩, cap, e, Or.inr ⟨g, 0, hob g (by rw [e]; rfl), rfl, fun i s hs => ?_⟩⟩
    have hi := (List.getElem?_eq_some_iff.1 hs).1
    rw [e] at h
    rw [Nat.zero_add]
    exact (h.cellAt i (by omega)).trans (by rw [List.getElem?_map, hs]; rfl)
theorem KeyTop.at {N : Nat} {S : Nat → Prop} {w : World} {d : Nat} {t : Tr d} {u : Value} (h : KeyTop N S w d t u) : ValAt S w d t u := by
  cases d with
  | zero => exact h.elim
  | succ d =>
    obtain ⟨kv, lv, hu, i1, i2, i3, hk, hkl, ho, hob, hl⟩ := h
    exact ⟨kv, lv, hu, i1, i2, i3, strs_of_owns ho hk hkl hob, hl.moved (Same.refl _ _) (fun b hb => hb.1) (fun x u hx => ValAt.moved (Same.refl _ _) (fun b hb => hb.1) d x u hx)⟩

/-- What a drawing function tells: a tree in new memory, not too great; the reader has gone on by at most c places. -/
def Drawn (r p c : Nat) (d B : Nat) (w : World) (e : Ending) (w' : World) : Prop :=
  ∃ u t p', e = .returned u ∧ KeyTop w.heap.size (FreshP w w') w' d t u ∧ wtT d t ≤ B ∧ Rd w' r p' ∧ p' ≤ p + c ∧ But r w w'

/-- A tree without parts. -/
def bareT (d : Nat) (k n : Int) (s : ByteArray) : Tr (d + 1) := { kind := k, num := n, str := s, keys := [], list := [] }
theorem bareT_key (N : Nat) (S : Nat → Prop) (w : World) (d : Nat) (k n : Int) (s : ByteArray) (hk : I64 k) (hn : I64 n) (hs : s.size < 281474976710656) :
    KeyTop N S w (d + 1) (bareT d k n s) (.agg #[.int .i64 k, .int .i64 n, .string s, .slice none 0 0, .slice none 0 0]) :=
  ⟨_, _, rfl, hk, hn, hs, (fun s hs => by cases hs), by show (0 : Nat) < _; omega, ⟨rfl, Or.inl ⟨rfl, rfl⟩⟩, (fun b hb => by cases hb), ⟨by show (0 : Nat) < _; omega, none, 0, rfl, Or.inl rfl⟩⟩
theorem bareT_wt (d : Nat) (k n : Int) (s : ByteArray) : wtT (d + 1) (bareT d k n s) ≤ 3 := by simp [wtT, bareT]

theorem cell_of_cells {w : World} {b j : Nat} {cs : Array Value} {T : TypeId} (h : w.heap[b]? = some (.cells cs T (0, 0))) : w.cell? ⟨b, j, none⟩ = cs[j]? := by simp [World.cell?, h]
theorem texts_new (w : World) (T : TypeId) (ss : List ByteArray) (i : Nat) (s : ByteArray) (h : ss[i]? = some s) : (w.alloc (.cells (ss.map Value.string).toArray T)).cell? ⟨w.heap.size, 0 + i, none⟩ = some (.string s) := by
  rw [cell_of_cells (heap_alloc_new w _)]
  simp [h]
theorem ints_new (w : World) (T : TypeId) (ns : List Int) (i : Nat) (n : Int) (h : ns[i]? = some n) : (w.alloc (.cells (ns.map (Value.int .i64)).toArray T)).cell? ⟨w.heap.size, 0 + i, none⟩ = some (.int .i64 n) := by
  rw [cell_of_cells (heap_alloc_new w _)]
  simp [h]

def leafNums : List Int := [0, 1, 2, 3, -1, 7, 1000000]
def leafTexts : List ByteArray := [⟨#[]⟩, ⟨#[97]⟩, ⟨#[98]⟩, ⟨#[97, 98]⟩, ⟨#[122, 122]⟩, ⟨#[97, 98, 99, 100, 101, 102, 103, 104, 105, 106, 107, 108]⟩]

/-- New blocks of plain cells, but for the first one. -/
def FreshQ (w w' : World) (b : Nat) : Prop := w.heap.size < b ∧ b < w'.heap.size ∧ Plain w' b

/-- What was drawn is put into the result's own cells. -/
theorem drawn_end {r p p' c d B : Nat} {w wX : World} {t : Tr d} {v0 v1 v2 v3 v4 : Value} (hv : KeyTop (w.heap.size + 1) (FreshQ w wX) wX d t (.agg #[v0, v1, v2, v3, v4])) (hB : wtT d t ≤ B) (hR : Rd wX r p') (hp : p' ≤ p + c) (hb : But r w wX) (hr : r < w.heap.size) (_hx : w.heap.size < wX.heap.size) :
    ∀ wF, wF = set5 wX w.heap.size 0 v0 v1 v2 v3 v4 → Drawn r p c d B w (.returned (.agg #[v0, v1, v2, v3, v4])) wF := by
  intro wF hF
  have hs : ∀ b, b ≠ w.heap.size → wF.heap[b]? = wX.heap[b]? := fun b hb' => by rw [hF]; exact set5_block _ _ _ _ _ _ _ _ _ hb'
  have hz : wF.heap.size = wX.heap.size := by rw [hF]; exact set5_size _ _ _ _ _ _ _ _
  have hl : Below w.heap.size wX wF := by rw [hF]; exact below_set5 (Below.refl _ _) (Nat.le_refl _) _ _ _ _ _ _
  refine ⟨_, t, p', rfl, hv.moved (fun b hb' => hs b (by have := hb'.1; omega)) (fun b hb' => ?_) (by omega), hB, ?_, hp, ⟨hl.os.trans hb.os, hl.tape.trans hb.tape, hl.output.trans hb.output, by rw [hz]; exact hb.size, fun b hb1 hb2 => (hs b (by omega)).trans (hb.block b hb1 hb2)⟩⟩
  · exact ⟨⟨Nat.le_of_lt hb'.1, by rw [hz]; exact hb'.2.1⟩, hb'.2.2.of_block (hs b (by have := hb'.1; omega))⟩
  · obtain ⟨a, n, cap, h1, h2, h3⟩ := hR
    exact ⟨a, n, cap, (hs r (by omega)).trans h1, h2, h3.moved (fun b hb' => hs b (by omega))⟩

/-- The result's own cells, as they are made. -/
theorem res_new (w : World) : Blk5 (w.alloc (.cells #[.int .i64 0, .int .i64 0, .string { data := #[] }, .slice none 0 0, .slice none 0 0] 29)) w.heap.size 29 (.int .i64 0) (.int .i64 0) (.string { data := #[] }) (.slice none 0 0) (.slice none 0 0) := Blk5.new w _ _ _ _ _ _
theorem Blk5.butr {w w' : World} {r b : Nat} {T : TypeId} {c0 c1 c2 c3 c4 : Value} (h : Blk5 w b T c0 c1 c2 c3 c4) (hb : But r w w') (hn : b ≠ r) : Blk5 w' b T c0 c1 c2 c3 c4 := h.of_block (hb.block b h.lt (fun e => hn (by cases e; rfl)))

set_option maxRecDepth 100000 in
set_option maxHeartbeats 1000000 in
theorem l1Leaf_any (d r p : Nat) (w : World) (h : Rd w r p) (hp : p + 2 ≤ 1000000) :
    Calls Tryz.prog 91 #[.pointer (some ⟨r, 0, none⟩)] w (Drawn r p 2 (d + 1) 3 w) := by
  have hr := h.lt
  have hb0 := below_alloc1 w (.cells #[.int .i64 0, .int .i64 0, .string { data := #[] }, .slice none 0 0, .slice none 0 0] 29)
  have kr := res_new w
  have hR0 := h.below hb0
  obtain ⟨W0, HW⟩ : ∃ W0, Hid (W0 = w.alloc (.cells #[.int .i64 0, .int .i64 0, .string { data := #[] }, .slice none 0 0, .slice none 0 0] 29)) := ⟨_, rfl⟩
  have hz0 : W0.heap.size = w.heap.size + 1 := by rw [HW.out]; simp
  rw [← HW.out] at hb0 kr hR0
  go_enter Tryz.func91, Tryz.ntmps91
  go_wp2_with fail
  rw [← HW.out]
  refine (pick_any r p 8 W0 hR0 (by omega) (by omega) (by omega)).mono ?_
  rintro e w1 ⟨k, rfl, k0, k1, h1, b1, z1⟩
  clear h hR0
  replace kr := kr.butr b1 (by omega)
  have hB1 := (But.of_below hb0).trans b1
  have hz1 : w.heap.size < w1.heap.size := by omega
  have hk : k = 0 ∨ k = 1 ∨ k = 2 ∨ k = 3 ∨ k = 4 ∨ k = 5 ∨ k = 6 ∨ k = 7 := by omega
  clear k0 k1 HW hb0 z1 hz0 b1
  rcases hk with rfl | rfl | rfl | rfl | rfl | rfl | rfl | rfl
  case inl =>
    go_wp2_with fail
    refine (pick_any r (p + 1) 3 w1 h1 (by omega) (by omega) (by omega)).mono ?_
    rintro e w2 ⟨k, rfl, k0, k1, h2, b2, z2⟩
    replace kr := kr.butr b2 (by omega)
    have hB2 := hB1.trans b2
    have HF := hide (drawn_end (c := 2) (p := p) (bareT_key (w.heap.size + 1) (FreshQ w w2) w2 d k 0 ⟨#[]⟩ ⟨by omega, by omega⟩ ⟨by omega, by omega⟩ (by show (0 : Nat) < _; omega)) (bareT_wt d k 0 _) h2 (by omega) hB2 hr (by omega))
    obtain ⟨y0, y1, y2, y3, y4⟩ := kr.cell
    have yf := kr.frozen
    clear kr h2 hB2 b2 h1
    go_wp2_with fail
    exact bodyPost_ret (v := .agg #[.int .i64 k, .int .i64 0, .string { data := #[] }, .slice none 0 0, .slice none 0 0]) (by simp [results, Tryz.results91, go_sem, y0, y1, y2, y3, y4]) rfl (HF.out _ rfl)
  case inr.inr.inr.inl =>
    go_wp2_with fail
    refine (pick_any r (p + 1) 2 w1 h1 (by omega) (by omega) (by omega)).mono ?_
    rintro e w2 ⟨k, rfl, k0, k1, h2, b2, z2⟩
    replace kr := kr.butr b2 (by omega)
    have hB2 := hB1.trans b2
    have HF := hide (drawn_end (c := 2) (p := p) (bareT_key (w.heap.size + 1) (FreshQ w w2) w2 d (5 + k) 0 ⟨#[]⟩ ⟨by omega, by omega⟩ ⟨by omega, by omega⟩ (by show (0 : Nat) < _; omega)) (bareT_wt d (5 + k) 0 _) h2 (by omega) hB2 hr (by omega))
    obtain ⟨y0, y1, y2, y3, y4⟩ := kr.cell
    have yf := kr.frozen
    clear kr h2 hB2 b2 h1
    go_wp2_with fail
    exact bodyPost_ret (v := .agg #[.int .i64 (5 + k), .int .i64 0, .string { data := #[] }, .slice none 0 0, .slice none 0 0]) (by simp [results, Tryz.results91, go_sem, y0, y1, y2, y3, y4]) rfl (HF.out _ rfl)
  case inr.inl =>
    go_wp2_with fail
    have ha := below_alloc1 w1 (.cells (leafTexts.map Value.string).toArray 9)
    have hza : (w1.alloc (.cells (leafTexts.map Value.string).toArray 9)).heap.size = w1.heap.size + 1 := by simp
    refine (of_any r (p + 1) w1.heap.size 0 6 leafTexts (w1.alloc (.cells (leafTexts.map Value.string).toArray 9)) (h1.below ha) (by omega) (by omega) (by have := h1.lt; omega) (texts_new w1 9 leafTexts) (by decide) (by decide)).mono ?_
    rintro e w2 ⟨x, rfl, hx, h2, b2, z2⟩
    replace kr := (kr.below ha).butr b2 (by omega)
    have hB2 := (hB1.trans (But.of_below ha)).trans b2
    have hxs : x.size < 281474976710656 := by
      have : ∀ y ∈ leafTexts, y.size ≤ 12 := by decide
      have := this x hx
      omega
    have HF := hide (drawn_end (c := 2) (p := p) (bareT_key (w.heap.size + 1) (FreshQ w w2) w2 d 4 0 x ⟨by omega, by omega⟩ ⟨by omega, by omega⟩ hxs) (bareT_wt d 4 0 _) h2 (by omega) hB2 hr (by omega))
    obtain ⟨y0, y1, y2, y3, y4⟩ := kr.cell
    have yf := kr.frozen
    clear kr h2 hB2 b2 h1 ha hza hx hxs
    go_wp2_with fail
    exact bodyPost_ret (v := .agg #[.int .i64 4, .int .i64 0, .string x, .slice none 0 0, .slice none 0 0]) (by simp [results, Tryz.results91, go_sem, y0, y1, y2, y3, y4]) rfl (HF.out _ rfl)
  case inr.inr.inl =>
    go_wp2_with fail
    have ha := below_alloc1 w1 (.cells (leafTexts.map Value.string).toArray 9)
    have hza : (w1.alloc (.cells (leafTexts.map Value.string).toArray 9)).heap.size = w1.heap.size + 1 := by simp
    refine (of_any r (p + 1) w1.heap.size 0 6 leafTexts (w1.alloc (.cells (leafTexts.map Value.string).toArray 9)) (h1.below ha) (by omega) (by omega) (by have := h1.lt; omega) (texts_new w1 9 leafTexts) (by decide) (by decide)).mono ?_
    rintro e w2 ⟨x, rfl, hx, h2, b2, z2⟩
    replace kr := (kr.below ha).butr b2 (by omega)
    have hB2 := (hB1.trans (But.of_below ha)).trans b2
    have hxs : x.size < 281474976710656 := by
      have : ∀ y ∈ leafTexts, y.size ≤ 12 := by decide
      have := this x hx
      omega
    have HF := hide (drawn_end (c := 2) (p := p) (bareT_key (w.heap.size + 1) (FreshQ w w2) w2 d 4 0 x ⟨by omega, by omega⟩ ⟨by omega, by omega⟩ hxs) (bareT_wt d 4 0 _) h2 (by omega) hB2 hr (by omega))
    obtain ⟨y0, y1, y2, y3, y4⟩ := kr.cell
    have yf := kr.frozen
    clear kr h2 hB2 b2 h1 ha hza hx hxs
    go_wp2_with fail
    exact bodyPost_ret (v := .agg #[.int .i64 4, .int .i64 0, .string x, .slice none 0 0, .slice none 0 0]) (by simp [results, Tryz.results91, go_sem, y0, y1, y2, y3, y4]) rfl (HF.out _ rfl)
  case inr.inr.inr.inr.inl =>
    go_wp2_with fail
    have ha := below_alloc1 w1 (.cells (leafNums.map (Value.int .i64)).toArray 3)
    have hza : (w1.alloc (.cells (leafNums.map (Value.int .i64)).toArray 3)).heap.size = w1.heap.size + 1 := by simp
    refine (num_any r (p + 1) w1.heap.size 0 7 leafNums (w1.alloc (.cells (leafNums.map (Value.int .i64)).toArray 3)) (h1.below ha) (by omega) (by omega) (by have := h1.lt; omega) (ints_new w1 3 leafNums) (by decide) (by decide)).mono ?_
    rintro e w2 ⟨x, rfl, hx, h2, b2, z2⟩
    replace kr := (kr.below ha).butr b2 (by omega)
    have hB2 := (hB1.trans (But.of_below ha)).trans b2
    have hxs : I64 x := by
      have : ∀ y ∈ leafNums, -1 ≤ y ∧ y ≤ 1000000 := by decide
      have := this x hx
      exact ⟨by omega, by omega⟩
    have HF := hide (drawn_end (c := 2) (p := p) (bareT_key (w.heap.size + 1) (FreshQ w w2) w2 d 3 x ⟨#[]⟩ ⟨by omega, by omega⟩ hxs (by show (0 : Nat) < _; omega)) (bareT_wt d 3 x _) h2 (by omega) hB2 hr (by omega))
    obtain ⟨y0, y1, y2, y3, y4⟩ := kr.cell
    have yf := kr.frozen
    clear kr h2 hB2 b2 h1 ha hza hx hxs
    go_wp2_with fail
    exact bodyPost_ret (v := .agg #[.int .i64 3, .int .i64 x, .string { data := #[] }, .slice none 0 0, .slice none 0 0]) (by simp [results, Tryz.results91, go_sem, y0, y1, y2, y3, y4]) rfl (HF.out _ rfl)
  case inr.inr.inr.inr.inr.inl =>
    go_wp2_with fail
    have ha := below_alloc1 w1 (.cells (leafNums.map (Value.int .i64)).toArray 3)
    have hza : (w1.alloc (.cells (leafNums.map (Value.int .i64)).toArray 3)).heap.size = w1.heap.size + 1 := by simp
    refine (num_any r (p + 1) w1.heap.size 0 7 leafNums (w1.alloc (.cells (leafNums.map (Value.int .i64)).toArray 3)) (h1.below ha) (by omega) (by omega) (by have := h1.lt; omega) (ints_new w1 3 leafNums) (by decide) (by decide)).mono ?_
    rintro e w2 ⟨x, rfl, hx, h2, b2, z2⟩
    replace kr := (kr.below ha).butr b2 (by omega)
    have hB2 := (hB1.trans (But.of_below ha)).trans b2
    have hxs : I64 x := by
      have : ∀ y ∈ leafNums, -1 ≤ y ∧ y ≤ 1000000 := by decide
      have := this x hx
      exact ⟨by omega, by omega⟩
    have HF := hide (drawn_end (c := 2) (p := p) (bareT_key (w.heap.size + 1) (FreshQ w w2) w2 d 3 x ⟨#[]⟩ ⟨by omega, by omega⟩ hxs (by show (0 : Nat) < _; omega)) (bareT_wt d 3 x _) h2 (by omega) hB2 hr (by omega))
    obtain ⟨y0, y1, y2, y3, y4⟩ := kr.cell
    have yf := kr.frozen
    clear kr h2 hB2 b2 h1 ha hza hx hxs
    go_wp2_with fail
    exact bodyPost_ret (v := .agg #[.int .i64 3, .int .i64 x, .string { data := #[] }, .slice none 0 0, .slice none 0 0]) (by simp [results, Tryz.results91, go_sem, y0, y1, y2, y3, y4]) rfl (HF.out _ rfl)
  case inr.inr.inr.inr.inr.inr.inl =>
    go_wp2_with fail
    have ha := below_alloc1 w1 (.cells (leafNums.map (Value.int .i64)).toArray 3)
    have hza : (w1.alloc (.cells (leafNums.map (Value.int .i64)).toArray 3)).heap.size = w1.heap.size + 1 := by simp
    refine (num_any r (p + 1) w1.heap.size 0 7 leafNums (w1.alloc (.cells (leafNums.map (Value.int .i64)).toArray 3)) (h1.below ha) (by omega) (by omega) (by have := h1.lt; omega) (ints_new w1 3 leafNums) (by decide) (by decide)).mono ?_
    rintro e w2 ⟨x, rfl, hx, h2, b2, z2⟩
    replace kr := (kr.below ha).butr b2 (by omega)
    have hB2 := (hB1.trans (But.of_below ha)).trans b2
    have hxs : I64 x := by
      have : ∀ y ∈ leafNums, -1 ≤ y ∧ y ≤ 1000000 := by decide
      have := this x hx
      exact ⟨by omega, by omega⟩
    have HF := hide (drawn_end (c := 2) (p := p) (bareT_key (w.heap.size + 1) (FreshQ w w2) w2 d 3 x ⟨#[]⟩ ⟨by omega, by omega⟩ hxs (by show (0 : Nat) < _; omega)) (bareT_wt d 3 x _) h2 (by omega) hB2 hr (by omega))
    obtain ⟨y0, y1, y2, y3, y4⟩ := kr.cell
    have yf := kr.frozen
    clear kr h2 hB2 b2 h1 ha hza hx hxs
    go_wp2_with fail
    exact bodyPost_ret (v := .agg #[.int .i64 3, .int .i64 x, .string { data := #[] }, .slice none 0 0, .slice none 0 0]) (by simp [results, Tryz.results91, go_sem, y0, y1, y2, y3, y4]) rfl (HF.out _ rfl)
  case inr.inr.inr.inr.inr.inr.inr =>
    go_wp2_with fail
    have ha := below_alloc1 w1 (.cells (leafNums.map (Value.int .i64)).toArray 3)
    have hza : (w1.alloc (.cells (leafNums.map (Value.int .i64)).toArray 3)).heap.size = w1.heap.size + 1 := by simp
    refine (num_any r (p + 1) w1.heap.size 0 7 leafNums (w1.alloc (.cells (leafNums.map (Value.int .i64)).toArray 3)) (h1.below ha) (by omega) (by omega) (by have := h1.lt; omega) (ints_new w1 3 leafNums) (by decide) (by decide)).mono ?_
    rintro e w2 ⟨x, rfl, hx, h2, b2, z2⟩
    replace kr := (kr.below ha).butr b2 (by omega)
    have hB2 := (hB1.trans (But.of_below ha)).trans b2
    have hxs : I64 x := by
      have : ∀ y ∈ leafNums, -1 ≤ y ∧ y ≤ 1000000 := by decide
      have := this x hx
      exact ⟨by omega, by omega⟩
    have HF := hide (drawn_end (c := 2) (p := p) (bareT_key (w.heap.size + 1) (FreshQ w w2) w2 d 3 x ⟨#[]⟩ ⟨by omega, by omega⟩ hxs (by show (0 : Nat) < _; omega)) (bareT_wt d 3 x _) h2 (by omega) hB2 hr (by omega))
    obtain ⟨y0, y1, y2, y3, y4⟩ := kr.cell
    have yf := kr.frozen
    clear kr h2 hB2 b2 h1 ha hza hx hxs
    go_wp2_with fail
    exact bodyPost_ret (v := .agg #[.int .i64 3, .int .i64 x, .string { data := #[] }, .slice none 0 0, .slice none 0 0]) (by simp [results, Tryz.results91, go_sem, y0, y1, y2, y3, y4]) rfl (HF.out _ rfl)
end Go.Proofs.YtilgbnnjecpneaaGreatDoor

/- (*room).trees: a row of the program's own trees. -/
namespace Go.Proofs.YtilgbnnjecpneaaGreatDoor
open Go.RowKit Go.Deep

/-- A row of parts, as long as there is room: whether all are right, and the room that is left. -/
def treesP {α : Type} (f : α → Int → Bool × Int) : List α → Int → Bool × Int
  | [], l => (true, l)
  | x :: r, l => if (f x l).1 = true then treesP f r (f x l).2 else (false, (f x l).2)
/-- One part, with all in it. -/
def treeP : (d : Nat) → Tr d → Int → Int → Bool × Int
  | 0, _, l, _ => (false, l)
  | d + 1, t, l, deep =>
    if takeB l deep = false then (false, l)
    else if Nd.kind t = 0 ∨ Nd.kind t = 1 ∨ Nd.kind t = 2 then (bareB (Nd.num t) (Nd.str t) (Nd.keys t).length (Nd.list t).length, l - 1)
    else if Nd.kind t = 3 then (decide (-1000000 ≤ Nd.num t ∧ Nd.num t ≤ 1000000) && bareB 0 (Nd.str t) (Nd.keys t).length (Nd.list t).length, l - 1)
    else if Nd.kind t = 4 then (strOk (Nd.str t) && bareB (Nd.num t) ByteArray.empty (Nd.keys t).length (Nd.list t).length, l - 1)
    else if Nd.kind t = 5 then ((treesP (fun x l => treeP d x l (deep + 1)) (Nd.list t) (l - 1)).1 && bareB (Nd.num t) (Nd.str t) (Nd.keys t).length 0, (treesP (fun x l => treeP d x l (deep + 1)) (Nd.list t) (l - 1)).2)
    else if Nd.kind t = 6 then
      ((treesP (fun x l => treeP d x l (deep + 1)) (Nd.list t) (l - 1)).1 && ((Nd.keys t).length == (Nd.list t).length) && keysB (Nd.keys t) && bareB (Nd.num t) (Nd.str t) 0 0,
        (treesP (fun x l => treeP d x l (deep + 1)) (Nd.list t) (l - 1)).2)
    else (false, l - 1)

theorem treesP_step {α : Type} (f : α → Int → Bool × Int) {xs : List α} {k : Nat} {x : α} (h : xs[k]? = some x) (l : Int) :
    treesP f (xs.drop k) l = if (f x l).1 = true then treesP f (xs.drop (k + 1)) (f x l).2 else (false, (f x l).2) := by
  obtain ⟨hk, e⟩ := List.getElem?_eq_some_iff.1 h
  rw [List.drop_eq_getElem_cons hk, e, treesP]
theorem takeB_pos {l deep : Int} (h : takeB l deep = true) (h0 : 0 ≤ l) : 1 ≤ l := by
  simp [takeB] at h
  omega
theorem treesP_bd {α : Type} {f : α → Int → Bool × Int} (hf : ∀ x l, 0 ≤ l → 0 ≤ (f x l).2 ∧ (f x l).2 ≤ l) : ∀ (xs : List α) (l : Int), 0 ≤ l → 0 ≤ (treesP f xs l).2 ∧ (treesP f xs l).2 ≤ l
  | [], l, h => ⟨h, Int.le_refl _⟩
  | x :: r, l, h => by
    have h1 := hf x l h
    rw [treesP]
    split
    · have h2 := treesP_bd hf r (f x l).2 h1.1
      omega
    · exact h1
theorem treeP_bd : ∀ (d : Nat) (t : Tr d) (l deep : Int), 0 ≤ l → 0 ≤ (treeP d t l deep).2 ∧ (treeP d t l deep).2 ≤ l
  | 0, _, l, _, h => ⟨h, Int.le_refl _⟩
  | d + 1, t, l, deep, h => by
    rw [treeP]
    cases hb : takeB l deep with
    | false => exact ⟨h, Int.le_refl _⟩
    | true =>
      have h1 := takeB_pos hb h
      have h2 := treesP_bd (f := fun x l => treeP d x l (deep + 1)) (fun x l hl => treeP_bd d x l (deep + 1) hl) (Nd.list t) (l - 1) (by omega)
      rw [if_neg (by simp)]
      split
      · exact ⟨by show 0 ≤ l - 1; omega, by show l - 1 ≤ l; omega⟩
      split
      · exact ⟨by show 0 ≤ l - 1; omega, by show l - 1 ≤ l; omega⟩
      split
      · exact ⟨by show 0 ≤ l - 1; omega, by show l - 1 ≤ l; omega⟩
      split
      · exact ⟨h2.1, by have := h2.2; show (treesP _ _ _).2 ≤ l; omega⟩
      split
      · exact ⟨h2.1, by have := h2.2; show (treesP _ _ _).2 ≤ l; omega⟩
      · exact ⟨by show 0 ≤ l - 1; omega, by show l - 1 ≤ l; omega⟩
/-- What (*room).tree does with trees of this depth. -/
def TreeC (d : Nat) : Prop := ∀ (S : Nat → Prop) (t : Tr d) (v : Value) (left deep : Int) (rb : Nat) (w : World), ValAt S w d t v → Within S w → ¬ S rb → Room w rb left → 0 ≤ left → left ≤ 1000 → 0 ≤ deep → deep ≤ 1000 →
    Calls Tryz.prog 94 #[.pointer (some ⟨rb, 0, none⟩), v, .int .i64 deep] w fun e w' =>
      ∃ u, e = .returned (.tuple #[u, .bool (treeP d t left deep).1]) ∧ ((treeP d t left deep).1 = true → TreeAt (Fresh w w') w' d t u) ∧ Room w' rb (treeP d t left deep).2 ∧ But rb w w'

/-- The blocks from N on that are in w, but the row of the slice sv. -/
def Aside (N : Nat) (w : World) (sv : Value) (b : Nat) : Prop := N ≤ b ∧ b < w.heap.size ∧ some b ≠ sv.ownBlock

/-- The first k trees of a row that is being made. -/
def TreesTo {d : Nat} (N : Nat) (w : World) (sv : Value) (xs : List (Tr d)) (k : Nat) (vs : List Value) : Prop :=
  w.ownsRow N 64 1 sv k vs ∧ ∀ j x u, j < k → xs[j]? = some x → vs[j]? = some u → TreeAt (Aside N w sv) w d x u

theorem Tryz.infoTree : (Tryz.prog.info? 64).map (fun i => (i.zero, i.size, i.bytes)) = some (some .nilIface, 1, 16) := by kernel_rfl

theorem But.alloc {rb : Nat} {w w' : World} (h : But rb w w') (o : Obj) : But rb w (w'.alloc o) := h.trans (But.of_below (below_alloc1 _ _))
theorem ownsRow_but {N e size n rb : Nat} {w w' : World} {sv : Value} {vs : List Value} (h : w.ownsRow N e size sv n vs) (hb : But rb w w') (hr : rb < N) : w'.ownsRow N e size sv n vs := by
  refine h.kept hb ?_
  cases hv : sv.ownBlock with
  | none => exact Or.inl rfl
  | some g =>
    refine Or.inr (fun e => ?_)
    cases e
    have := (h.lt rb hv).1
    omega

theorem TreesTo.step {d N rb k : Nat} {wr wA w1 w2 : World} {sv sv' u : Value} {xs : List (Tr d)} {vs : List Value} {x : Tr d} {o : Obj} (h : TreesTo N wr sv xs k vs) (hr : rb < N) (hA : Below wr.heap.size wr wA) (hb : But rb wA w1)
    (hx : xs[k]? = some x) (hu : TreeAt (Fresh wA w1) w1 d x u) (hown : w2.ownsRow N 64 1 sv' (k + 1) (vs ++ [u])) (hg : (w1.alloc o).grownBy w2 sv.ownBlock)
    (hw : sv'.ownBlock = sv.ownBlock ∨ sv'.ownBlock = some (w1.alloc o).heap.size) (hN : N ≤ wr.heap.size) : TreesTo N w2 sv' xs (k + 1) (vs ++ [u]) := by
  obtain ⟨h1, h2⟩ := h
  have hlen : vs.length = k := by have := h1.1; omega
  have hs1 := hA.size
  have hs2 := hb.size
  have hs3 := hg.size
  have hz : (w1.alloc o).heap.size = w1.heap.size + 1 := by simp
  rw [hz] at hs3 hw
  -- a block that lay in w1 and is not the row's lies in w2 as it did
  have hlast : ∀ b, b < w1.heap.size → some b ≠ sv.ownBlock → w2.heap[b]? = w1.heap[b]? := fun b hb1 hb2 =>
    (hg.block b (by omega) hb2).trans (Below.heap_alloc _ _ _ hb1)
  have hne : ∀ b, b < w1.heap.size → some b ≠ sv.ownBlock → some b ≠ sv'.ownBlock := fun b hb1 hb2 => by
    rcases hw with e | e
    · rw [e]; exact hb2
    · rw [e]; intro e2; cases e2; omega
  refine ⟨hown, fun j y v hj hy hv => ?_⟩
  by_cases e : j = k
  · subst e
    rw [hx] at hy
    cases hy
    rw [List.getElem?_append_right (by omega), hlen, Nat.sub_self] at hv
    cases hv
    have hoff : ∀ b, Fresh wA w1 b → some b ≠ sv.ownBlock := fun b hb e => by
      have := (h1.lt b e.symm).2
      have := hb.1
      omega
    exact TreeAt.moved (fun b hb => hlast b hb.2 (hoff b hb)) (fun b hb => ⟨by have := hb.1; omega, by have := hb.2; omega, hne b hb.2 (hoff b hb)⟩) d x u hu
  · rw [List.getElem?_append_left (by omega)] at hv
    have h3 := h2 j y v (by omega) hy hv
    refine TreeAt.moved (fun b hB => ?_) (fun b hB => ⟨hB.1, by have := hB.2.1; omega, hne b (by have := hB.2.1; omega) hB.2.2⟩) d y v h3
    have hb2 := hB.2.1
    rw [hlast b (by omega) hB.2.2, hb.block b (by omega) (fun e => by cases e; have := hB.1; omega), hA.block b hb2]

theorem TreesTo.done {d N : Nat} {w w' : World} {sv : Value} {xs : List (Tr d)} {vs : List Value} (h : TreesTo N w' sv xs xs.length vs) (hN : N = w.heap.size) (hl : xs.length < 17592186044416) :
    Row1At (Fresh w w') w' (TreeAt (Fresh w w') w' d) sv xs := by
  obtain ⟨h1, h2⟩ := h
  refine ⟨hl, ?_⟩
  have hlen := h1.1
  rw [Nat.mul_one] at hlen
  rcases h1.2 with ⟨rfl, h0⟩ | ⟨g, cap, cur, rfl, hg, hh, _, _, _, _⟩
  · exact ⟨none, 0, by rw [h0], Or.inl (List.eq_nil_of_length_eq_zero h0)⟩
  · refine ⟨some ⟨g, 0, none⟩, cap, rfl, Or.inr ⟨g, 0, ⟨by omega, (Array.getElem?_eq_some_iff.1 hh).1⟩, rfl, fun i x hx => ?_⟩⟩
    have hi := (List.getElem?_eq_some_iff.1 hx).1
    have hvi : vs[i]? = some vs[i] := List.getElem?_eq_getElem (by omega)
    have hc := h1.cells (g := g) rfl i _ hvi
    have hadd : (⟨g, 0, none⟩ : Addr).add i = ⟨g, 0 + i, none⟩ := by unfold Addr.add; split <;> simp_all
    rw [hadd] at hc
    exact ⟨vs[i], hc, TreeAt.moved (fun _ _ => rfl) (fun b hb => ⟨by have := hb.1; omega, hb.2.1⟩) d x _ (h2 i x _ hi hx hvi)⟩

set_option maxHeartbeats 2000000 in
theorem trees_own (d : Nat) (H : TreeC d) (S : Nat → Prop) (xs : List (Tr d)) (v : Value) (left deep : Int) (rb : Nat) (w : World) (hv : RowAt S w (ValAt S w d) v xs) (hS : Within S w) (hrb : ¬ S rb) (hr : Room w rb left)
    (h0 : 0 ≤ left) (h1 : left ≤ 1000) (g0 : 0 ≤ deep) (g1 : deep ≤ 1000) :
    Calls Tryz.prog 110 #[.pointer (some ⟨rb, 0, none⟩), v, .int .i64 deep] w fun e w' =>
      ∃ a n c, e = .returned (.tuple #[.slice a n c, .bool (treesP (fun x l => treeP d x l deep) xs left).1]) ∧
        ((treesP (fun x l => treeP d x l deep) xs left).1 = true → ∃ vs, TreesTo w.heap.size w' (.slice a n c) xs xs.length vs) ∧ Room w' rb (treesP (fun x l => treeP d x l deep) xs left).2 ∧ But rb w w' := by
  obtain ⟨a, cap, rfl, hlen⟩ := hv.open'
  have hrbN := hr.lt
  go_enter Tryz.func110, Tryz.ntmps110
  go_wp2_with fail
  go_loopw [8, 15] (fun sv i wr => ∃ (k : Nat) (l : Int) (vs : List Value), k ≤ xs.length ∧ i = .int .i64 k ∧ Hid (TreesTo w.heap.size wr sv xs k vs) ∧ 0 ≤ l ∧ l ≤ 1000 ∧ Hid (Room wr rb l) ∧ Hid (But rb w wr) ∧
      Hid (treesP (fun x l => treeP d x l deep) xs left = treesP (fun x l => treeP d x l deep) (xs.drop k) l)) (fun _ i _ => xs.length - (intOf i).toNat)
  case atStart => exact ⟨0, left, [], Nat.zero_le _, rfl, ⟨World.ownsRow_nil _ _ _ _, fun j x u hj => by omega⟩, h0, h1, hr, But.refl _ _, rfl⟩
  case round =>
    clear hr
    obtain ⟨k, l, vs, hk, rfl, htr, hl0, hl1, hroom, hbut, hfin⟩ := hrel
    by_cases hkl : k < xs.length
    · obtain ⟨b, o, x, c0, c1, c2, c3, c4, rfl, hb, hx, e0, e1, e2, e3, e4, hval⟩ := (hv.same (hbut.out.same hS hrb)).cell hkl
      obtain ⟨q0, q1, q2, q3, q4, q5, q6, q7, q8, hq⟩ := hval.shape
      cases hq
      have hst : Hid (_ = _) := treesP_step (fun x l => treeP d x l deep) hx l
      have hbd := treeP_bd d x l deep hl0
      go_wp2_with fail
      have hA := below_alloc1 wr (.cells #[.int .i64 q0, .int .i64 q1, .string q2, .slice q3 q4 q5, .slice q6 q7 q8] 29)
      have hSw := hS.later hbut.out.size
      refine (H S x _ l deep rb _ (hval.same (hSw.same hA)) (hSw.later hA.size) hrb (hroom.out.below hA) hl0 hl1 g0 g1).mono ?_
      rintro e w1 ⟨u, rfl, hu, hroom1, hbut1⟩
      have hroom1' : Hid (Room w1 rb (treeP d x l deep).2) := hroom1
      have hbut2 : Hid (But rb w w1) := (hbut.out.trans (But.of_below hA)).trans hbut1
      cases hf : (treeP d x l deep).1 with
      | false =>
        have hfin2 : Hid (treesP (fun x l => treeP d x l deep) xs left = (false, (treeP d x l deep).2)) := by
          show treesP (fun x l => treeP d x l deep) xs left = _
          rw [hfin.out, hst.out, hf]
          rfl
        clear hfin hst hroom1 hbut1 hu htr hroom hbut hval hv e0 e1 e2 e3 e4 hx hSw hA
        go_wp2_with fail
        go_ret2
        rw [hfin2.out]
        exact ⟨none, 0, 0, rfl, fun h => absurd h (by simp), hroom1'.out, hbut2.out⟩
      | true =>
        have hu1 := hu hf
        obtain ⟨T, u', rfl⟩ := hu1.iface
        have hfin2 : Hid (treesP (fun x l => treeP d x l deep) xs left = treesP (fun x l => treeP d x l deep) (xs.drop (k + 1)) (treeP d x l deep).2) := by
          show treesP (fun x l => treeP d x l deep) xs left = _
          rw [hfin.out, hst.out, hf]
          rfl
        have hown1 := ownsRow_but htr.out.1 ((But.of_below hA).trans hbut1) hrbN
        have hNs : w.heap.size ≤ wr.heap.size := hbut.out.size
        have hN1 : w.heap.size ≤ w1.heap.size := hbut2.out.size
        have hstep : Hid (∀ sv' w2, w2.ownsRow w.heap.size 64 1 sv' (k + 1) (vs ++ [.iface T u']) → (w1.alloc (.cells #[.iface T u'] 64)).grownBy w2 (u8.ownBlock) →
            (sv'.ownBlock = u8.ownBlock ∨ sv'.ownBlock = some (w1.alloc (.cells #[.iface T u'] 64)).heap.size) →
            TreesTo w.heap.size w2 sv' xs (k + 1) (vs ++ [.iface T u']) ∧ Room w2 rb (treeP d x l deep).2 ∧ But rb w w2) := by
          intro sv' w2 o1 o2 o3
          have hrow : ∀ g, u8.ownBlock = some g → w.heap.size ≤ g := fun g hg => (htr.out.1.lt g hg).1
          have hrb2 : w2.heap[rb]? = w1.heap[rb]? := (o2.block rb (by simp; omega) (fun e => by have := hrow rb e.symm; omega)).trans (Below.heap_alloc _ _ _ (by omega))
          refine ⟨htr.out.step hrbN hA hbut1 hx hu1 o1 o2 o3 hNs, hrb2.trans hroom1, ?_⟩
          have hb3 := hbut2.out
          refine ⟨o2.os.trans hb3.os, o2.tape.trans hb3.tape, o2.output.trans hb3.output, Nat.le_trans hb3.size (Nat.le_trans (by simp) o2.size), fun i hi hn => ?_⟩
          exact ((o2.block i (by simp; omega) (fun e => by have := hrow i e.symm; omega)).trans (Below.heap_alloc _ _ _ (by omega))).trans (hb3.block i hi hn)
        obtain ⟨i0, hi, hz0, hz1, hz2⟩ := info_parts Tryz.infoTree
        have hown2 := hown1.alloc (.cells #[.iface T u'] 64)
        have HO : Hid _ := hown2
        clear hown2 hown1 hfin hst hroom1 hbut1 hu hu1 htr hroom hbut hval hv e0 e1 e2 e3 e4 hx hSw hA
        go_wp2_with (at_builtin; refine wpList_append_own_at _ rfl _ _ 74 rfl w.heap.size 64 i0 .nilIface 1 16 Tryz.underlying74 hi hz0 hz1 hz2 rfl (by decide) _ _ _ rfl HO.out ⟨w1.heap.size, 0, none⟩ 1 1 [.iface T u'] rfl rfl (cell_one_new _ _ _) ?c2 ?c3 ?c4 ?c5 ?_)
        case c2 => intro y hy; simp at hy; subst hy; rfl
        case c3 => unfold maxLen; omega
        case c4 => omega
        case c5 => simp; omega
        · intro sv' w2 o1 o2 _ o3
          have HH : Hid _ := hstep.out sv' w2 o1 o2 (by rw [World.size_alloc]; exact o3)
          clear o1 o2 o3 hstep HO
          go_wp2_with fail
          go_roundw
          case rel => exact ⟨k + 1, (treeP d x l deep).2, _, by omega, by go_num, HH.out.1, hbd.1, by omega, HH.out.2.1, HH.out.2.2, hfin2⟩
          case measure => simp [intOf]; omega
    · obtain rfl : k = xs.length := by omega
      have hfin2 : Hid (treesP (fun x l => treeP d x l deep) xs left = (true, l)) := by
        show treesP (fun x l => treeP d x l deep) xs left = _
        rw [hfin.out, List.drop_eq_nil_of_le (Nat.le_refl _)]
        rfl
      have hdone := htr.out.done (w := w) rfl (by omega)
      obtain ⟨sa, sc, hsv, _⟩ := hdone.open'
      subst hsv
      have HD : Hid (∃ vs, TreesTo w.heap.size wr (.slice sa xs.length sc) xs xs.length vs) := ⟨vs, htr.out⟩
      clear hdone htr hfin
      go_wp2_with fail
      go_ret2
      rw [hfin2.out]
      exact ⟨_, _, _, rfl, fun _ => HD.out, hroom.out, hbut.out⟩

theorem trees_any (d : Nat) (H : TreeC d) (S : Nat → Prop) (xs : List (Tr d)) (v : Value) (left deep : Int) (rb : Nat) (w : World) (hv : RowAt S w (ValAt S w d) v xs) (hS : Within S w) (hrb : ¬ S rb) (hr : Room w rb left)
    (h0 : 0 ≤ left) (h1 : left ≤ 1000) (g0 : 0 ≤ deep) (g1 : deep ≤ 1000) :
    Calls Tryz.prog 110 #[.pointer (some ⟨rb, 0, none⟩), v, .int .i64 deep] w fun e w' =>
      ∃ a n c, e = .returned (.tuple #[.slice a n c, .bool (treesP (fun x l => treeP d x l deep) xs left).1]) ∧
        ((treesP (fun x l => treeP d x l deep) xs left).1 = true → Row1At (Fresh w w') w' (TreeAt (Fresh w w') w' d) (.slice a n c) xs) ∧ Room w' rb (treesP (fun x l => treeP d x l deep) xs left).2 ∧ But rb w w' := by
  obtain ⟨_, _, _, hlen⟩ := hv.open'
  refine (trees_own d H S xs v left deep rb w hv hS hrb hr h0 h1 g0 g1).mono ?_
  rintro e w' ⟨a, n, c, he, htr, h1, h2⟩
  exact ⟨a, n, c, he, fun h => by obtain ⟨vs, hvs⟩ := htr h; exact hvs.done rfl (by omega), h1, h2⟩

/-- The row's own memory and its trees, in a world with more in it. -/
theorem TreesTo.moved {d N M k : Nat} {w w' : World} {sv : Value} {xs : List (Tr d)} {vs : List Value} (h : TreesTo N w sv xs k vs) (hb : Below w.heap.size w w') (hM : M ≤ N) : TreesTo M w' sv xs k vs := by
  obtain ⟨h1, h2⟩ := h
  have hz := hb.size
  refine ⟨⟨h1.1, ?_⟩, fun j x u hj hx hu => TreeAt.moved (fun b hb' => hb.block b hb'.2.1) (fun b hb' => ⟨Nat.le_trans hM hb'.1, by have := hb'.2.1; omega, hb'.2.2⟩) d x u (h2 j x u hj hx hu)⟩
  rcases h1.2 with h | ⟨g, cap, cur, hv, hg, hh, hrest⟩
  · exact Or.inl h
  · exact Or.inr ⟨g, cap, cur, hv, Nat.le_trans hM hg, (hb.block g (Array.getElem?_eq_some_iff.1 hh).1).trans hh, hrest⟩
end Go.Proofs.YtilgbnnjecpneaaGreatDoor
