/- Trees that own their memory: no two lists lie in one block, all cells may be written. -/
import Derived.Test.YtbcafaomfaainaaGreatDoorWTo
namespace Go.Proofs.YtbcafaomfaainaaGreatDoor
open Go.RowKit Go.Deep

/-- A fact put by, its type as it is written. -/
theorem hide {p : Prop} (h : p) : Hid p := h

/-- Only blocks of S have turned; there may be new ones. -/
structure Turn (S : Nat → Prop) (w w' : World) : Prop where
  os : w'.os = w.os
  tape : w'.tape = w.tape
  output : w'.output = w.output
  size : w.heap.size ≤ w'.heap.size
  block : ∀ b, b < w.heap.size → ¬ S b → w'.heap[b]? = w.heap[b]?

theorem Turn.refl (S : Nat → Prop) (w : World) : Turn S w w := ⟨rfl, rfl, rfl, Nat.le_refl _, fun _ _ _ => rfl⟩
theorem Turn.trans {S : Nat → Prop} {a b c : World} (h : Turn S a b) (k : Turn S b c) : Turn S a c :=
  ⟨k.os.trans h.os, k.tape.trans h.tape, k.output.trans h.output, Nat.le_trans h.size k.size, fun i hi hn => (k.block i (Nat.lt_of_lt_of_le hi h.size) hn).trans (h.block i hi hn)⟩
theorem Turn.of_below {S : Nat → Prop} {w w' : World} (h : Below w.heap.size w w') : Turn S w w' := ⟨h.os, h.tape, h.output, h.size, fun i hi _ => h.block i hi⟩
theorem Turn.mono {S S' : Nat → Prop} {w w' : World} (h : Turn S w w') (hS : ∀ b, S b → S' b) : Turn S' w w' :=
  ⟨h.os, h.tape, h.output, h.size, fun i hi hn => h.block i hi (fun hb => hn (hS i hb))⟩
theorem Turn.same {S R : Nat → Prop} {w w' : World} (h : Turn S w w') (hw : Within R w) (hd : ∀ b, R b → ¬ S b) : Same R w w' := fun b hb => h.block b (hw b hb) (hd b hb)
theorem Turn.set {S : Nat → Prop} {w w' : World} (h : Turn S w w') {a : Addr} (ha : S a.block) (u : Value) : Turn S w (w'.setCell a u) :=
  h.trans ⟨rfl, rfl, rfl, by simp [World.setCell], fun i _ hn => Below.heap_setCell _ _ _ _ (fun e => hn (e ▸ ha))⟩
theorem Turn.below {S : Nat → Prop} {B : Nat} {w w' : World} (h : Turn S w w') (hB : B ≤ w.heap.size) (hS : ∀ b, S b → B ≤ b) : Below B w w' :=
  ⟨h.os, h.tape, h.output, h.size, fun b hb => h.block b (Nat.lt_of_lt_of_le hb hB) (fun hs => Nat.not_lt.2 (hS b hs) hb)⟩
theorem Turn.alloc {S : Nat → Prop} {w w' : World} (h : Turn S w w') (o : Obj) : Turn S w (w'.alloc o) := h.trans (Turn.of_below (below_alloc1 _ _))

/-- A slice of texts in a block of S that may be written. -/
def StrsOwn (S : Nat → Prop) (w : World) (v : Value) (ss : List ByteArray) : Prop :=
  ss.length < 17592186044416 ∧ (∀ s ∈ ss, s.size < 281474976710656) ∧
  ∃ a cap, v = .slice a ss.length cap ∧
    (ss = [] ∨ ∃ b n f, S b ∧ a = some ⟨b, 0, none⟩ ∧ ss.length ≤ n ∧ w.rowIs b 9 n f ∧ ∀ i s, ss[i]? = some s → f i = .string s)

/-- A slice of things of five cells each, in a block of S that may be written; each thing has blocks of its own. -/
def RowOwn {α : Type} (w : World) (At : (Nat → Prop) → α → Value → Prop) (S : Nat → Prop) (v : Value) (xs : List α) : Prop :=
  xs.length < 3518437208883 ∧
  ∃ a cap, v = .slice a xs.length cap ∧
    (xs = [] ∨ ∃ (b n : Nat) (f : Nat → Value) (P : Nat → Nat → Prop), S b ∧ a = some ⟨b, 0, none⟩ ∧ xs.length * 5 ≤ n ∧ w.rowIs b 29 n f ∧
      (∀ i c, P i c → S c ∧ c ≠ b) ∧ (∀ i j c, P i c → P j c → i = j) ∧
      ∀ i x, xs[i]? = some x → At (P i) x (.agg #[f (i * 5), f (i * 5 + 1), f (i * 5 + 2), f (i * 5 + 3), f (i * 5 + 4)]))

/-- A tree that owns its memory, which lies in blocks of S. -/
def ValOwn (w : World) : (d : Nat) → (Nat → Prop) → Tr d → Value → Prop
  | 0, _, _, _ => False
  | d + 1, S, t, v => ∃ vk vl Sk Sl, v = .agg #[.int .i64 (Nd.kind t), .int .i64 (Nd.num t), .string (Nd.str t), vk, vl] ∧
      I64 (Nd.kind t) ∧ I64 (Nd.num t) ∧ (Nd.str t).size < 281474976710656 ∧ StrsOwn Sk w vk (Nd.keys t) ∧ RowOwn w (fun P x u => ValOwn w d P x u) Sl vl (Nd.list t) ∧
      (∀ b, Sk b → S b) ∧ (∀ b, Sl b → S b) ∧ (∀ b, Sk b → ¬ Sl b)

theorem StrsOwn.at {S : Nat → Prop} {w : World} {v : Value} {ss : List ByteArray} (h : StrsOwn S w v ss) : StrsAt S w v ss := by
  obtain ⟨h1, h2, a, cap, hv, h3⟩ := h
  refine ⟨h1, h2, a, cap, hv, ?_⟩
  rcases h3 with h3 | ⟨b, n, f, hB, ha, hl, hr, hc⟩
  · exact Or.inl h3
  · refine Or.inr ⟨b, 0, hB, ha, fun i s hi => ?_⟩
    have := (List.getElem?_eq_some_iff.1 hi).1
    rw [Nat.zero_add, hr.cell (by omega), hc i s hi]
theorem RowOwn.at {α : Type} {w : World} {At : (Nat → Prop) → α → Value → Prop} {At' : α → Value → Prop} {S : Nat → Prop} {v : Value} {xs : List α} (h : RowOwn w At S v xs)
    (hi : ∀ P x u, (∀ b, P b → S b) → At P x u → At' x u) : RowAt S w At' v xs := by
  obtain ⟨h1, a, cap, hv, h3⟩ := h
  refine ⟨h1, a, cap, hv, ?_⟩
  rcases h3 with h3 | ⟨b, n, f, P, hB, ha, hl, hr, hP, _, hc⟩
  · exact Or.inl h3
  · refine Or.inr ⟨b, 0, hB, ha, fun i x hx => ?_⟩
    have := (List.getElem?_eq_some_iff.1 hx).1
    rw [Nat.zero_add]
    exact ⟨_, _, _, _, _, hr.cell (by omega), hr.cell (by omega), hr.cell (by omega), hr.cell (by omega), hr.cell (by omega), hi _ _ _ (fun c hc => (hP i c hc).1) (hc i x hx)⟩
theorem ValOwn.at {w : World} : ∀ (d : Nat) (S : Nat → Prop) (t : Tr d) (v : Value), ValOwn w d S t v → ValAt S w d t v
  | 0, _, _, _, h => h
  | d + 1, S, t, v, h => by
    obtain ⟨vk, vl, Sk, Sl, hv, i1, i2, i3, hk, hl, s1, s2, _⟩ := h
    exact ⟨vk, vl, hv, i1, i2, i3, hk.at.mono s1, (hl.at (At' := ValAt S w d) (fun P x u hP hx => (ValOwn.at d P x u hx).mono (fun b hb => s2 b (hP b hb)))).moved (Same.refl _ _) s2 (fun _ _ h => h)⟩

theorem StrsOwn.moved {S S' : Nat → Prop} {w w' : World} {v : Value} {ss : List ByteArray} (h : StrsOwn S w v ss) (hs : Same S w w') (hS : ∀ b, S b → S' b) : StrsOwn S' w' v ss := by
  obtain ⟨h1, h2, a, cap, hv, h3⟩ := h
  refine ⟨h1, h2, a, cap, hv, ?_⟩
  rcases h3 with h3 | ⟨b, n, f, hB, ha, hl, hr, hc⟩
  · exact Or.inl h3
  · exact Or.inr ⟨b, n, f, hS b hB, ha, hl, hr.of_block (hs b hB), hc⟩
theorem RowOwn.moved {α : Type} {w w' : World} {At At' : (Nat → Prop) → α → Value → Prop} {S S' : Nat → Prop} {v : Value} {xs : List α} (h : RowOwn w At S v xs) (hs : Same S w w') (hS : ∀ b, S b → S' b)
    (hi : ∀ P x u, (∀ b, P b → S b) → At P x u → At' P x u) : RowOwn w' At' S' v xs := by
  obtain ⟨h1, a, cap, hv, h3⟩ := h
  refine ⟨h1, a, cap, hv, ?_⟩
  rcases h3 with h3 | ⟨b, n, f, P, hB, ha, hl, hr, hP, hd, hc⟩
  · exact Or.inl h3
  · exact Or.inr ⟨b, n, f, P, hS b hB, ha, hl, hr.of_block (hs b hB), fun i c hc => ⟨hS c (hP i c hc).1, (hP i c hc).2⟩, hd, fun i x hx => hi _ _ _ (fun c hc => (hP i c hc).1) (hc i x hx)⟩
theorem ValOwn.moved {w w' : World} : ∀ (d : Nat) (S S' : Nat → Prop) (t : Tr d) (v : Value), ValOwn w d S t v → Same S w w' → (∀ b, S b → S' b) → ValOwn w' d S' t v
  | 0, _, _, _, _, h, _, _ => h
  | d + 1, S, S', t, v, h, hs, hS => by
    obtain ⟨vk, vl, Sk, Sl, hv, i1, i2, i3, hk, hl, s1, s2, s3⟩ := h
    exact ⟨vk, vl, Sk, Sl, hv, i1, i2, i3, hk.moved (fun b hb => hs b (s1 b hb)) (fun _ h => h), hl.moved (fun b hb => hs b (s2 b hb)) (fun _ h => h) (fun P x u hP hx => ValOwn.moved d P P x u hx (fun b hb => hs b (s2 b (hP b hb))) (fun _ h => h)),
      fun b hb => hS b (s1 b hb), fun b hb => hS b (s2 b hb), s3⟩
theorem ValOwn.same {w w' : World} {d : Nat} {S : Nat → Prop} {t : Tr d} {v : Value} (h : ValOwn w d S t v) (hs : Same S w w') : ValOwn w' d S t v := ValOwn.moved d S S t v h hs (fun _ h => h)
theorem ValOwn.mono {w : World} {d : Nat} {S S' : Nat → Prop} {t : Tr d} {v : Value} (h : ValOwn w d S t v) (hS : ∀ b, S b → S' b) : ValOwn w d S' t v := ValOwn.moved d S S' t v h (Same.refl _ _) hS
theorem RowOwn.same {w w' : World} {d : Nat} {S : Nat → Prop} {v : Value} {xs : List (Tr d)} (h : RowOwn w (fun P x u => ValOwn w d P x u) S v xs) (hs : Same S w w') : RowOwn w' (fun P x u => ValOwn w' d P x u) S v xs :=
  h.moved hs (fun _ h => h) (fun P x u hP hx => ValOwn.moved d P P x u hx (fun b hb => hs b (hP b hb)) (fun _ h => h))
theorem RowOwn.at' {w : World} {d : Nat} {S : Nat → Prop} {v : Value} {xs : List (Tr d)} (h : RowOwn w (fun P x u => ValOwn w d P x u) S v xs) : RowAt S w (ValAt S w d) v xs :=
  h.at (fun P x u hP hx => (ValOwn.at d P x u hx).mono hP)
theorem StrsOwn.open' {S : Nat → Prop} {w : World} {v : Value} {ss : List ByteArray} (h : StrsOwn S w v ss) : ∃ a cap, v = .slice a ss.length cap ∧ ss.length < 17592186044416 := h.at.open'
theorem RowOwn.open' {α : Type} {w : World} {At : (Nat → Prop) → α → Value → Prop} {S : Nat → Prop} {v : Value} {xs : List α} (h : RowOwn w At S v xs) : ∃ a cap, v = .slice a xs.length cap ∧ xs.length < 3518437208883 := by
  obtain ⟨h1, a, cap, hv, _⟩ := h
  exact ⟨a, cap, hv, h1⟩
end Go.Proofs.YtbcafaomfaainaaGreatDoor
