/- Texts of the proof, put together by program: WImplB, WRd, WToPB. -/
import Derived.Test.YtilgbnnjecpneaaGreatDoorV2
import Derived.Maps.AppendAt
import Derived.Laws.Bits64
import Derived.Laws.Closers25
import Derived.Deep.QuietTactic
/- The program's own trees: how they lie in memory; take; mapTreeOf. -/
namespace Go.Proofs.YtilgbnnjecpneaaGreatDoor
open Go.RowKit Go.Deep

/-- A world that has all that W has, and maybe more. -/
structure Ext (W : World) where
  now : World
  from_ : Below W.heap.size W now

theorem Ext.some (W : World) : Nonempty (Ext W) := ⟨⟨W, Below.refl _ _⟩⟩

/-- A region that draws its order and whose calls give one value in every such world. -/
theorem wp_region_ext {P : Program} {id : Nat} {Q : Exit → Act → World → Prop} {a : Act} {W : World} {l : List Oper} (hm : P.follows .mixedOrders = true) (hB : Region.lexB .any l.toArray = true)
    (h : wpQuiet P l.toArray (fun w' => ∃ n : Ext W, w' = n.now) (fun a' => ∀ w', (∃ n : Ext W, w' = n.now) → Q .normal a' w') l a) : (Code.region id l.toArray true).wp P Q a W :=
  wp_region_quiet (C := fun w' => ∃ n : Ext W, w' = n.now) hm hB ⟨⟨{ W with drawn := W.drawn + 1 }, ⟨rfl, rfl, rfl, Nat.le_refl _, fun _ _ => rfl⟩⟩, rfl⟩ (by simpa using h)
theorem Calls.ext_of {P : Program} {f : FuncId} {args : Array Value} {W : World} {n : Ext W} {v : Value}
    (h : Calls P f args n.now fun e w' => e = .returned v ∧ Below n.now.heap.size n.now w') : Calls P f args n.now fun e w'' => e = .returned v ∧ ∃ m : Ext W, w'' = m.now :=
  h.mono fun _ _ ⟨he, hm⟩ => ⟨he, ⟨_, below_trans n.from_ hm⟩, rfl⟩
theorem Calls.ext_same {P : Program} {f : FuncId} {args : Array Value} {W : World} {n : Ext W} {v : Value}
    (h : Calls P f args n.now fun e w' => e = .returned v ∧ w' = n.now) : Calls P f args n.now fun e w'' => e = .returned v ∧ ∃ m : Ext W, w'' = m.now :=
  h.mono fun _ _ ⟨he, hm⟩ => ⟨he, n, hm⟩

/-- Of what was there only block rb may have turned. -/
abbrev But (rb : Nat) (w w' : World) : Prop := w.grownBy w' (some rb)
theorem But.refl (rb : Nat) (w : World) : But rb w w := ⟨rfl, rfl, rfl, Nat.le_refl _, fun _ _ _ => rfl⟩
theorem But.trans {rb : Nat} {a b c : World} (h : But rb a b) (k : But rb b c) : But rb a c :=
  ⟨k.os.trans h.os, k.tape.trans h.tape, k.output.trans h.output, Nat.le_trans h.size k.size, fun i hi hn => (k.block i (Nat.lt_of_lt_of_le hi h.size) hn).trans (h.block i hi hn)⟩
theorem But.of_below {rb : Nat} {w w' : World} (h : Below w.heap.size w w') : But rb w w' := ⟨h.os, h.tape, h.output, h.size, fun i hi _ => h.block i hi⟩
theorem But.same {rb : Nat} {S : Nat → Prop} {w w' : World} (h : But rb w w') (hS : Within S w) (hn : ¬ S rb) : Same S w w' :=
  fun b hb => h.block b (hS b hb) (fun e => by cases e; exact hn hb)
theorem But.set (rb : Nat) (w : World) (o : Nat) (u : Value) : But rb w (w.setCell ⟨rb, o, none⟩ u) :=
  ⟨rfl, rfl, rfl, by simp [World.setCell], fun i _ hn => Below.heap_setCell _ _ _ _ (fun e => hn (by rw [e]))⟩
theorem But.cell {rb : Nat} {w w' : World} (h : But rb w w') {b o : Nat} (hb : b < w.heap.size) (hn : b ≠ rb) : w'.cell? ⟨b, o, none⟩ = w.cell? ⟨b, o, none⟩ :=
  World.cell?_of_block (w := w) (h.block b hb (fun e => by cases e; exact hn rfl))

/-- How much room is left: one cell of its own. -/
def Room (w : World) (rb : Nat) (left : Int) : Prop := w.heap[rb]? = some (.cells #[.int .i64 left] 136 (0, 0))
theorem Room.cell {w : World} {rb : Nat} {left : Int} (h : Room w rb left) : w.cell? ⟨rb, 0, none⟩ = some (.int .i64 left) := by
  unfold Room at h
  simp [World.cell?, h]
theorem Room.frozen {w : World} {rb : Nat} {left : Int} (h : Room w rb left) (o : Nat) : w.frozen? ⟨rb, o, none⟩ = false := by
  unfold Room at h
  simp [World.frozen?, h]
theorem Room.lt {w : World} {rb : Nat} {left : Int} (h : Room w rb left) : rb < w.heap.size := (Array.getElem?_eq_some_iff.1 h).1
theorem Room.set {w : World} {rb : Nat} {left : Int} (h : Room w rb left) (l : Int) : Room (w.setCell ⟨rb, 0, none⟩ (.int .i64 l)) rb l := by
  unfold Room at h ⊢
  simp [World.setCell, Array.getElem?_modify, h]
theorem Room.below {w w' : World} {rb : Nat} {left : Int} (h : Room w rb left) (hb : Below w.heap.size w w') : Room w' rb left := (hb.block rb h.lt).trans h

/-- Is there room for a part that has so many around it? -/
def takeB (left deep : Int) : Bool := decide (left ≠ 0 ∧ deep ≤ 6)
def leftTo (left deep : Int) : Int := if takeB left deep = true then left - 1 else left

set_option maxHeartbeats 400000 in
theorem take_any (rb : Nat) (left deep : Int) (w : World) (hr : Room w rb left) (h0 : 0 ≤ left) (h1 : left ≤ 1000) :
    Calls Tryz.prog 106 #[.pointer (some ⟨rb, 0, none⟩), .int .i64 deep] w fun e w' =>
      e = .returned (.bool (takeB left deep)) ∧ Room w' rb (leftTo left deep) ∧ But rb w w' ∧ w'.heap.size = w.heap.size := by
  have hc := hr.cell
  have hf := hr.frozen 0
  have HR : Hid (Room w rb left) := hr
  clear hr
  by_cases hz : left = 0
  · subst hz
    have h2 : Hid (takeB 0 deep = false ∧ leftTo 0 deep = 0) := ⟨by simp [takeB], by simp [leftTo, takeB]⟩
    go_enter Tryz.func106, Tryz.ntmps106
    go_wp2_with fail
    go_ret
    rw [h2.out.1, h2.out.2]
    exact ⟨rfl, HR.out, But.refl _ _, rfl⟩
  · have hz' : (left == 0) = false := by simpa using hz
    by_cases hd : deep ≤ 6
    · have HH : Hid (Room (w.setCell ⟨rb, 0, none⟩ (.int .i64 (left - 1))) rb (left - 1) ∧ But rb w (w.setCell ⟨rb, 0, none⟩ (.int .i64 (left - 1)))) :=
        ⟨Room.set HR.out (left - 1), But.set rb w 0 (.int .i64 (left - 1))⟩
      have h2 : Hid (takeB left deep = true ∧ leftTo left deep = left - 1) := ⟨by simp [takeB, hz, hd], by simp [leftTo, takeB, hz, hd]⟩
      go_enter Tryz.func106, Tryz.ntmps106
      go_wp2_with fail
      go_ret
      rw [h2.out.1, h2.out.2]
      exact ⟨rfl, HH.out.1, HH.out.2, by simp [World.setCell]⟩
    · have h2 : Hid (takeB left deep = false ∧ leftTo left deep = left) := ⟨by simp [takeB, hd], by simp [leftTo, takeB, hd]⟩
      go_enter Tryz.func106, Tryz.ntmps106
      go_wp2_with fail
      go_ret
      rw [h2.out.1, h2.out.2]
      exact ⟨rfl, HR.out, But.refl _ _, rfl⟩

/-- A slice of things of one cell each that lies in blocks of S. -/
def Row1At {α : Type} (S : Nat → Prop) (w : World) (At : α → Value → Prop) (v : Value) (xs : List α) : Prop :=
  xs.length < 17592186044416 ∧
  ∃ a cap, v = .slice a xs.length cap ∧
    (xs = [] ∨ ∃ b o, S b ∧ a = some ⟨b, o, none⟩ ∧ ∀ i x, xs[i]? = some x → ∃ u, w.cell? ⟨b, o + i, none⟩ = some u ∧ At x u)
/-- The entries of a map that was filled in order. -/
def MapIs {α : Type} (At : α → Value → Prop) (es : Array MapEntry) (keys : List ByteArray) (xs : List α) : Prop :=
  es.size = keys.length ∧ keys.length = xs.length ∧ ∀ (i : Nat) (k : ByteArray) (x : α), keys[i]? = some k → xs[i]? = some x → ∃ u, es[i]? = some ⟨.string k, u, i⟩ ∧ At x u
/-- One of the program's own trees that lies in blocks of S. -/
def TreeAt (S : Nat → Prop) (w : World) : (d : Nat) → Tr d → Value → Prop
  | 0, _, _ => False
  | d + 1, t, v =>
    ((Nd.kind t = 0 ∨ Nd.kind t = 1 ∨ Nd.kind t = 2) ∧ v = .iface 85 (.agg #[.int .i64 (Nd.kind t)])) ∨
    (Nd.kind t = 3 ∧ v = .iface 113 (.agg #[.int .i64 (Nd.num t)])) ∨
    (Nd.kind t = 4 ∧ v = .iface 110 (.agg #[.string (Nd.str t)])) ∨
    (Nd.kind t = 5 ∧ ∃ sv, v = .iface 80 (.agg #[sv]) ∧ Row1At S w (TreeAt S w d) sv (Nd.list t)) ∨
    (Nd.kind t = 6 ∧ ∃ r es, v = .iface 120 (.agg #[.map (some r)]) ∧ S r ∧ w.heap[r]? = some (.map es (Nd.keys t).length) ∧ MapIs (TreeAt S w d) es (Nd.keys t) (Nd.list t))

theorem Row1At.moved {α : Type} {S S' : Nat → Prop} {w w' : World} {At At' : α → Value → Prop} {v : Value} {xs : List α} (h : Row1At S w At v xs) (hs : Same S w w') (hS : ∀ b, S b → S' b)
    (hi : ∀ x u, At x u → At' x u) : Row1At S' w' At' v xs := by
  obtain ⟨h1, a, cap, hv, h3⟩ := h
  refine ⟨h1, a, cap, hv, ?_⟩
  rcases h3 with h3 | ⟨b, o, hB, ha, hc⟩
  · exact Or.inl h3
  · refine Or.inr ⟨b, o, hS _ hB, ha, fun i x hx => ?_⟩
    obtain ⟨u, e0, e1⟩ := hc i x hx
    exact ⟨u, (hs.cell hB).trans e0, hi _ _ e1⟩
theorem MapIs.moved {α : Type} {At At' : α → Value → Prop} {es : Array MapEntry} {keys : List ByteArray} {xs : List α} (h : MapIs At es keys xs) (hi : ∀ x u, At x u → At' x u) : MapIs At' es keys xs := by
  obtain ⟨h1, h2, h3⟩ := h
  refine ⟨h1, h2, fun i k x hk hx => ?_⟩
  obtain ⟨u, e, hu⟩ := h3 i k x hk hx
  exact ⟨u, e, hi _ _ hu⟩
theorem TreeAt.moved {S S' : Nat → Prop} {w w' : World} (hs : Same S w w') (hS : ∀ b, S b → S' b) : ∀ (d : Nat) (t : Tr d) (v : Value), TreeAt S w d t v → TreeAt S' w' d t v
  | 0, _, _, h => h
  | d + 1, t, v, h => by
    rcases h with h | h | h | ⟨hk, sv, hv, hr⟩ | ⟨hk, r, es, hv, hr, hm, he⟩
    · exact Or.inl h
    · exact Or.inr (Or.inl h)
    · exact Or.inr (Or.inr (Or.inl h))
    · exact Or.inr (Or.inr (Or.inr (Or.inl ⟨hk, sv, hv, hr.moved hs hS (fun x u hx => TreeAt.moved hs hS d x u hx)⟩)))
    · exact Or.inr (Or.inr (Or.inr (Or.inr ⟨hk, r, es, hv, hS _ hr, (hs r hr).trans hm, he.moved (fun x u hx => TreeAt.moved hs hS d x u hx)⟩)))
/-- It is one cell. -/
theorem TreeAt.iface {S : Nat → Prop} {w : World} {d : Nat} {t : Tr d} {v : Value} (h : TreeAt S w d t v) : ∃ T u, v = .iface T u := by
  cases d with
  | zero => exact h.elim
  | succ d =>
    rcases h with h | h | h | ⟨hk, sv, hv, hr⟩ | ⟨hk, r, es, hv, hr⟩
    · exact ⟨_, _, h.2⟩
    · exact ⟨_, _, h.2⟩
    · exact ⟨_, _, h.2⟩
    · exact ⟨_, _, hv⟩
    · exact ⟨_, _, hv⟩
theorem Row1At.open' {α : Type} {S : Nat → Prop} {w : World} {At : α → Value → Prop} {v : Value} {xs : List α} (h : Row1At S w At v xs) : ∃ a cap, v = .slice a xs.length cap ∧ xs.length < 17592186044416 := by
  obtain ⟨h1, a, cap, hv, _⟩ := h
  exact ⟨a, cap, hv, h1⟩
theorem Row1At.cell {α : Type} {S : Nat → Prop} {w : World} {At : α → Value → Prop} {a : Option Addr} {n cap k : Nat} {xs : List α} (h : Row1At S w At (.slice a n cap) xs) (hk : k < xs.length) :
    ∃ b o x u, a = some ⟨b, o, none⟩ ∧ S b ∧ xs[k]? = some x ∧ w.cell? ⟨b, o + k, none⟩ = some u ∧ At x u := by
  obtain ⟨h1, a', cap', hv, h3⟩ := h
  cases hv
  rcases h3 with rfl | ⟨b, o, hB, ha, hc⟩
  · simp at hk
  · obtain ⟨u, e0, e1⟩ := hc k _ (List.getElem?_eq_getElem hk)
    exact ⟨b, o, xs[k], u, ha, hB, List.getElem?_eq_getElem hk, e0, e1⟩

/-- A map that is written out, one block. -/
def withObj (w : World) (r : Nat) (o : Obj) : World := { w with heap := w.heap.setIfInBounds r o }
theorem withObj_block (w : World) (r : Nat) (o : Obj) (k : Nat) (h : k ≠ r) : (withObj w r o).heap[k]? = w.heap[k]? := by
  show (w.heap.setIfInBounds r o)[k]? = _
  rw [Array.getElem?_setIfInBounds, if_neg (fun e => h e.symm)]
theorem withObj_at (w : World) (r : Nat) (o : Obj) (h : r < w.heap.size) : (withObj w r o).heap[r]? = some o := by
  show (w.heap.setIfInBounds r o)[r]? = _
  simp [h]
theorem withObj_size (w : World) (r : Nat) (o : Obj) : (withObj w r o).heap.size = w.heap.size := by
  show (w.heap.setIfInBounds r o).size = _
  simp

theorem findNow_none (s : ByteArray) : ∀ (l : List MapEntry) (i : Nat), (∀ e ∈ l, ∃ k, e.key = .string k ∧ k ≠ s) → Instr.findNow .string (.string s) l i = some none
  | [], _, _ => rfl
  | e :: r, i, h => by
    obtain ⟨k, hk, hn⟩ := h e (by simp)
    have hb : (s == k) = false := by
      cases hb : (s == k)
      · rfl
      · exact absurd ((MapKept.bytes_beq s k).1 hb).symm hn
    simp only [Instr.findNow, hk, Instr.sameNow, hb]
    exact findNow_none s r (i + 1) (fun e he => h e (by simp [he]))

theorem run_mapPush (w : World) (r clock : Nat) (es : Array MapEntry) (s : ByteArray) (u : Value) (hb : w.heap[r]? = some (.map es clock)) (hn : ∀ e ∈ es.toList, ∃ k, e.key = .string k ∧ k ≠ s) :
    (Instr.mapUpdate 118 (.map (some r)) (.string s) u).run Tryz.prog w = .ok () (withObj w r (.map (es.push ⟨.string s, u, clock⟩) (clock + 1))) := by
  have hf := findNow_none s es.toList 0 hn
  have hk : (Instr.checkKey false 10000 9 (.string s)).run Tryz.prog w = .ok () w := by
    exact MapKept.run_checkKey (P := Tryz.prog) (w := w) (k := .string s) Tryz.underlying9 trivial false 9999
  have hfk := MapKept.run_findKey (P := Tryz.prog) (w := w) Tryz.underlying9 hf
  simp [Instr.mapUpdate, run_underlying Tryz.underlying118, getObj, setObj, Sem.run, hb, hk, hfk, withObj]

theorem bytesLess_trans : ∀ a b c : List UInt8, Op.bytesLess a b = true → Op.bytesLess b c = true → Op.bytesLess a c = true
  | _, [], _, h, _ => by cases ‹List UInt8› <;> simp [Op.bytesLess] at h
  | _, _ :: _, [], _, h => by simp [Op.bytesLess] at h
  | [], _ :: _, _ :: _, _, _ => rfl
  | a :: x, b :: y, c :: z, h, k => by
    have ih := bytesLess_trans x y z
    simp only [Op.bytesLess, Bool.or_eq_true, Bool.and_eq_true, decide_eq_true_eq, beq_iff_eq] at h k ⊢
    rcases h with h | ⟨h1, h2⟩
    · rcases k with k | ⟨k1, k2⟩
      · exact Or.inl (by rw [UInt8.lt_iff_toNat_lt] at *; omega)
      · subst k1; exact Or.inl h
    · subst h1
      rcases k with k | ⟨k1, k2⟩
      · exact Or.inl k
      · exact Or.inr ⟨k1, ih h2 k2⟩
theorem keysGo_all : ∀ (ss : List ByteArray) (p : ByteArray), keysGo (some p) ss = true → ∀ s ∈ ss, ltB p s = true
  | [], _, _, _, h => by cases h
  | a :: r, p, h, s, hs => by
    simp only [keysGo, Bool.and_eq_true] at h
    cases hs with
    | head => exact h.2.1
    | tail _ hs => exact bytesLess_trans _ _ _ h.2.1 (keysGo_all r a h.2.2 s hs)
theorem keysGo_pair : ∀ (ss : List ByteArray) (p : Option ByteArray), keysGo p ss = true → ss.Pairwise (fun a b => ltB a b = true)
  | [], _, _ => List.Pairwise.nil
  | a :: r, none, h => by
    simp only [keysGo, Bool.and_eq_true] at h
    exact List.Pairwise.cons (keysGo_all r a h.2) (keysGo_pair r _ h.2)
  | a :: r, some p, h => by
    simp only [keysGo, Bool.and_eq_true] at h
    exact List.Pairwise.cons (keysGo_all r a h.2.2) (keysGo_pair r _ h.2.2)
/-- Keys in order are each once. -/
theorem keysB_ne {ss : List ByteArray} (h : keysB ss = true) {i j : Nat} (hij : i < j) {a b : ByteArray} (ha : ss[i]? = some a) (hb : ss[j]? = some b) : a ≠ b := by
  obtain ⟨hi, ea⟩ := List.getElem?_eq_some_iff.1 ha
  obtain ⟨hj, eb⟩ := List.getElem?_eq_some_iff.1 hb
  have hp := List.pairwise_iff_getElem.1 (keysGo_pair ss none h) i j hi hj hij
  rw [ea, eb] at hp
  intro e
  subst e
  unfold ltB at hp
  rw [bytesLess_irrefl] at hp
  cases hp

/-- The first k entries of a map that is being filled. -/
def MapTo {α : Type} (At : α → Value → Prop) (es : Array MapEntry) (keys : List ByteArray) (xs : List α) (k : Nat) : Prop :=
  es.size = k ∧ ∀ (i : Nat) (s : ByteArray) (x : α), i < k → keys[i]? = some s → xs[i]? = some x → ∃ u, es[i]? = some ⟨.string s, u, i⟩ ∧ At x u
theorem MapTo.step {α : Type} {At : α → Value → Prop} {es : Array MapEntry} {keys : List ByteArray} {xs : List α} {k : Nat} (h : MapTo At es keys xs k) {s : ByteArray} {x : α} {u : Value}
    (hs : keys[k]? = some s) (hx : xs[k]? = some x) (hu : At x u) : MapTo At (es.push ⟨.string s, u, k⟩) keys xs (k + 1) := by
  obtain ⟨h1, h2⟩ := h
  refine ⟨by simp [h1], fun i s' x' hi hs' hx' => ?_⟩
  by_cases e : i = k
  · subst e
    rw [hs] at hs'
    rw [hx] at hx'
    cases hs'
    cases hx'
    exact ⟨u, by simp [← h1], hu⟩
  · obtain ⟨v, hv, ha⟩ := h2 i s' x' (by omega) hs' hx'
    exact ⟨v, by rw [Array.getElem?_push, if_neg (by omega)]; exact hv, ha⟩
theorem MapTo.new {α : Type} {At : α → Value → Prop} {es : Array MapEntry} {keys : List ByteArray} {xs : List α} {k : Nat} (h : MapTo At es keys xs k) (hq : keys.length = xs.length) (hk : keysB keys = true) {s : ByteArray} (hs : keys[k]? = some s) :
    ∀ e ∈ es.toList, ∃ k', e.key = .string k' ∧ k' ≠ s := by
  obtain ⟨h1, h2⟩ := h
  intro e he
  obtain ⟨i, hi, rfl⟩ := List.getElem_of_mem he
  have hi' : i < k := by simpa [h1] using hi
  have hkl := (List.getElem?_eq_some_iff.1 hs).1
  obtain ⟨u, hu, _⟩ := h2 i keys[i] xs[i] hi' (List.getElem?_eq_getElem (by omega)) (List.getElem?_eq_getElem (by omega))
  refine ⟨keys[i], ?_, keysB_ne hk hi' (List.getElem?_eq_getElem (by omega)) hs⟩
  have : es.toList[i]? = some ⟨.string keys[i], u, i⟩ := by rw [Array.getElem?_toList]; exact hu
  rw [List.getElem?_eq_getElem hi] at this
  rw [Option.some.inj this]

set_option maxHeartbeats 1000000 in
theorem mapTreeOf_any {α : Type} (S S' : Nat → Prop) (At : α → Value → Prop) (keys : List ByteArray) (xs : List α) (vk vl : Value) (w : World) (hk : StrsAt S w vk keys) (hl : Row1At S' w At vl xs)
    (hS : Within S w) (hS' : Within S' w) (hq : keys.length = xs.length) (hkb : keysB keys = true) :
    Calls Tryz.prog 112 #[vk, vl] w fun e w' => ∃ es, e = .returned (.iface 120 (.agg #[.map (some w.heap.size)])) ∧ w'.heap[w.heap.size]? = some (.map es keys.length) ∧ MapIs At es keys xs ∧ Below w.heap.size w w' := by
  obtain ⟨ak, ck, rfl, hkl⟩ := hk.open'
  obtain ⟨al, cl, rfl, hll⟩ := hl.open'
  have HQ : Hid (keys.length = xs.length) := hq
  clear hq
  have hmk := fun w => run_makeMap (P := Tryz.prog) 118 w
  have hb0 : Hid (Below w.heap.size w (w.alloc (.map #[] 0))) := below_alloc1 _ _
  have hn0 : Hid ((w.alloc (.map #[] 0)).heap[w.heap.size]? = some (.map #[] 0)) := heap_alloc_new w _
  go_enter Tryz.func112, Tryz.ntmps112
  go_wp2_with fail
  go_loopw [11] (fun i wr => ∃ (k : Nat) (es : Array MapEntry), k ≤ keys.length ∧ i = .int .i64 k ∧ Hid (wr.heap[w.heap.size]? = some (.map es k)) ∧ Hid (MapTo At es keys xs k) ∧ Below w.heap.size w wr) (fun i _ => keys.length - (intOf i).toNat)
  case atStart => exact ⟨0, #[], Nat.zero_le _, rfl, hn0, ⟨rfl, fun i s x hi => by omega⟩, hb0.out⟩
  case round =>
    clear hmk hb0 hn0
    obtain ⟨k, es, hkk, rfl, hobj, hmap, hbel⟩ := hrel
    by_cases hlt : k < keys.length
    · obtain ⟨b, o, s, rfl, _, hs, _, hck⟩ := (hk.same (hS.same hbel)).cell hlt
      obtain ⟨b2, o2, x, u, rfl, _, hx, hcx, hu⟩ := (hl.moved (hS'.same hbel) (fun _ h => h) (fun _ _ h => h)).cell (k := k) (by have := HQ.out; omega)
      have hrun := run_mapPush wr w.heap.size k es s u hobj.out (hmap.out.new HQ.out hkb hs)
      have hxl : k < xs.length := by have := HQ.out; omega
      obtain ⟨W1, hW1⟩ : ∃ W1, W1 = withObj wr w.heap.size (.map (es.push ⟨.string s, u, k⟩) (k + 1)) := ⟨_, rfl⟩
      rw [← hW1] at hrun
      have hobj' : Hid (W1.heap[w.heap.size]? = some (.map (es.push ⟨.string s, u, k⟩) (k + 1))) := by
        show W1.heap[w.heap.size]? = _
        rw [hW1]
        exact withObj_at _ _ _ (Array.getElem?_eq_some_iff.1 hobj.out).1
      have hmap' : Hid (MapTo At (es.push ⟨.string s, u, k⟩) keys xs (k + 1)) := hmap.out.step hs hx hu
      have hbel' : Below w.heap.size w W1 := hbel.trans ⟨by rw [hW1]; rfl, by rw [hW1]; rfl, by rw [hW1]; rfl, by rw [hW1, withObj_size]; exact Nat.le_refl _, fun j hj => by rw [hW1]; exact withObj_block _ _ _ _ (by omega)⟩
      have HB : Hid _ := hbel'
      clear hbel' hW1 hobj hmap hbel hk hl hs hx hu
      go_wp2_with fail
      go_roundw
      case rel => exact ⟨k + 1, _, by omega, by go_num, hobj', hmap', HB.out⟩
      case measure => simp [intOf]; omega
    · obtain rfl : k = keys.length := by omega
      go_wp2_with fail
      go_ret
      exact ⟨es, rfl, hobj.out, ⟨hmap.out.1, HQ.out, fun i s x hs hx => hmap.out.2 i s x (List.getElem?_eq_some_iff.1 hs).1 hs hx⟩, hbel⟩
end Go.Proofs.YtilgbnnjecpneaaGreatDoor

/- The reader of drawn bytes: pick. -/
namespace Go.Proofs.YtilgbnnjecpneaaGreatDoor
open Go.RowKit Go.Deep

theorem xor_nonneg (a b : Int) (ha : 0 ≤ a) (hb : 0 ≤ b) (ha' : a < 9223372036854775808) (hb' : b < 9223372036854775808) : 0 ≤ bits .xor .i64 a b := by
  obtain ⟨A, rfl⟩ := Int.eq_ofNat_of_zero_le ha
  obtain ⟨B, rfl⟩ := Int.eq_ofNat_of_zero_le hb
  have hx : A ^^^ B < 2 ^ 63 := Nat.xor_lt_two_pow (by omega) (by omega)
  have h1 : (BitVec.ofInt 64 (A : Int)).toNat = A := by
    rw [BitVec.ofInt_natCast, BitVec.toNat_ofNat]; exact Nat.mod_eq_of_lt (by omega)
  have h2 : (BitVec.ofInt 64 (B : Int)).toNat = B := by
    rw [BitVec.ofInt_natCast, BitVec.toNat_ofNat]; exact Nat.mod_eq_of_lt (by omega)
  show 0 ≤ IntKind.i64.wrap ((BitVec.ofInt 64 (A : Int) ^^^ BitVec.ofInt 64 (B : Int)).toNat : Int)
  rw [BitVec.toNat_xor, h1, h2, IntKind.wrap_i64]
  omega

theorem But.draws {rb : Nat} {w w' : World} (h : But rb w w') {n : Nat} : But rb w (w'.drewN n) := ⟨h.os, h.tape, h.output, h.size, h.block⟩

/-- Bytes that lie in a block below r. -/
def BytesAt (r : Nat) (w : World) (a : Option Addr) (n : Nat) : Prop :=
  n = 0 ∨ ∃ b o, b < r ∧ a = some ⟨b, o, none⟩ ∧ ∀ i, i < n → ∃ x : Int, 0 ≤ x ∧ x < 256 ∧ w.cell? ⟨b, o + i, none⟩ = some (.int .u8 x)

/-- The reader at block r, its place p. -/
def Rd (w : World) (r p : Nat) : Prop :=
  ∃ a n cap, w.heap[r]? = some (.cells #[.slice a n cap, .int .i64 p] 89 (0, 0)) ∧ n ≤ 2000 ∧ BytesAt r w a n

theorem Rd.lt {w : World} {r p : Nat} (h : Rd w r p) : r < w.heap.size := by
  obtain ⟨a, n, cap, h, _⟩ := h
  exact (Array.getElem?_eq_some_iff.1 h).1
theorem BytesAt.moved {r : Nat} {w w' : World} {a : Option Addr} {n : Nat} (h : BytesAt r w a n) (hs : ∀ b, b < r → w'.heap[b]? = w.heap[b]?) : BytesAt r w' a n := by
  rcases h with h | ⟨b, o, hb, ha, hc⟩
  · exact Or.inl h
  · refine Or.inr ⟨b, o, hb, ha, fun i hi => ?_⟩
    obtain ⟨x, h0, h1, h2⟩ := hc i hi
    exact ⟨x, h0, h1, (World.cell?_of_block (w := w) (hs b hb)).trans h2⟩
/-- The reader is as it was, where no block up to it has turned. -/
theorem Rd.below {w w' : World} {r p : Nat} (h : Rd w r p) (hb : Below w.heap.size w w') : Rd w' r p := by
  have hl := h.lt
  obtain ⟨a, n, cap, h, hn, hB⟩ := h
  exact ⟨a, n, cap, (hb.block r hl).trans h, hn, hB.moved (fun b hbr => hb.block b (by omega))⟩

set_option maxRecDepth 100000 in
set_option maxHeartbeats 400000 in
theorem pick_any (r p : Nat) (n : Int) (w : World) (h : Rd w r p) (hp : p < 1000000) (h1 : 1 ≤ n) (h2 : n ≤ 1000) :
    Calls Tryz.prog 69 #[.pointer (some ⟨r, 0, none⟩), .int .i64 n] w fun e w' =>
      ∃ k : Int, e = .returned (.int .i64 k) ∧ 0 ≤ k ∧ k < n ∧ Rd w' r (p + 1) ∧ But r w w' ∧ w'.heap.size = w.heap.size := by
  have hl := h.lt
  obtain ⟨a, m, cap, hr, hm, hB⟩ := h
  have c0 : w.cell? ⟨r, 0, none⟩ = some (.slice a m cap) := by simp [World.cell?, hr]
  have c1 : w.cell? ⟨r, 1, none⟩ = some (.int .i64 p) := by simp [World.cell?, hr]
  have f1 : w.frozen? ⟨r, 1, none⟩ = false := by simp [World.frozen?, hr]
  obtain ⟨W, HW⟩ : ∃ W, Hid (W = w.setCell ⟨r, 1, none⟩ (.int .i64 (p + 1))) := ⟨_, rfl⟩
  have g0 : W.cell? ⟨r, 0, none⟩ = some (.slice a m cap) := by
    rw [HW.out]; simp [World.cell?, World.setCell, Array.getElem?_modify, hr]
  have g1 : W.cell? ⟨r, 1, none⟩ = some (.int .i64 (p + 1)) := by
    rw [HW.out]; simp [World.cell?, World.setCell, Array.getElem?_modify, hr]
  have HB : Hid (Rd W r (p + 1) ∧ But r w W ∧ W.heap.size = w.heap.size) := by
    refine ⟨⟨a, m, cap, ?_, hm, hB.moved (fun b hb => ?_)⟩, ?_, ?_⟩
    · rw [HW.out]; simp [World.setCell, Array.getElem?_modify, hr]
    · rw [HW.out]; exact Below.heap_setCell _ _ _ _ (by simp; omega)
    · rw [HW.out]; exact But.set r w 1 _
    · rw [HW.out]; simp [World.setCell]
  have hn1 : ¬ n < 1 := by omega
  by_cases hm0 : m = 0
  · subst hm0
    go_enter Tryz.func69, Tryz.ntmps69
    go_wp2_with fail
    go_ret
    rw [← HW.out]
    exact ⟨0, rfl, by omega, by omega, HB.out⟩
  · have hm1 : ((m : Int) == 0) = false := by simpa using hm0
    rcases hB with hB | ⟨b, o, hb, rfl, hc⟩
    · exact absurd hB hm0
    by_cases hpm : p < m
    · obtain ⟨x, y0, y1, y2⟩ := hc p hpm
      go_enter Tryz.func69, Tryz.ntmps69
      go_wp2_with fail
      go_ret
      rw [← HW.out]
      exact ⟨x % n, rfl, Int.emod_nonneg _ (by omega), Int.emod_lt_of_pos _ (by omega), HB.out⟩
    · obtain ⟨x, y0, y1, y2⟩ := hc (p % m) (Nat.mod_lt _ (by omega))
      obtain ⟨z, z0, z1, z2⟩ := hc ((p * 7 + 3) % m) (Nat.mod_lt _ (by omega))
      have q0 : 0 ≤ (p : Int) % (m : Int) := Int.emod_nonneg _ (by omega)
      have q1 : (p : Int) % (m : Int) < (m : Int) := Int.emod_lt_of_pos _ (by omega)
      have q2 : 0 ≤ ((p : Int) * 7 + 3) % (m : Int) := Int.emod_nonneg _ (by omega)
      have q3 : ((p : Int) * 7 + 3) % (m : Int) < (m : Int) := Int.emod_lt_of_pos _ (by omega)
      have q4 : 0 ≤ (p : Int) / (m : Int) := Int.ediv_nonneg (by omega) (by omega)
      have q5 : (p : Int) / (m : Int) ≤ (p : Int) := Int.ediv_le_self _ (by omega)
      clear hc
      go_enter Tryz.func69, Tryz.ntmps69
      go_wp2_with fail
      go_quiet (fail)
      go_wp2_with fail
      go_ret
      rw [← HW.out]
      have hx := xor_nonneg (x * 131 + z * 1117 + (p : Int) * 29 + (p : Int) / (m : Int) * 53) ((x * 131 + z * 1117 + (p : Int) * 29 + (p : Int) / (m : Int) * 53) / 64) (by omega) (by omega) (by omega) (by omega)
      exact ⟨_, rfl, Int.tmod_nonneg n hx, Int.tmod_lt_of_pos _ (by omega), HB.out.1, HB.out.2.1.draws, HB.out.2.2⟩

theorem But.cell_of {r : Nat} {w w' : World} (h : But r w w') {b o : Nat} {v : Value} (hb : b < w.heap.size) (hn : b ≠ r) (hc : w.cell? ⟨b, o, none⟩ = some v) : w'.cell? ⟨b, o, none⟩ = some v := (h.cell hb hn).trans hc

set_option maxRecDepth 100000 in
set_option maxHeartbeats 400000 in
theorem of_any (r p : Nat) (b o cap : Nat) (ss : List ByteArray) (w : World) (h : Rd w r p) (hp : p < 1000000) (hb : b < w.heap.size) (hbr : b ≠ r) (hc : ∀ i s, ss[i]? = some s → w.cell? ⟨b, o + i, none⟩ = some (.string s))
    (h1 : 1 ≤ ss.length) (h2 : ss.length ≤ 1000) :
    Calls Tryz.prog 86 #[.pointer (some ⟨r, 0, none⟩), .slice (some ⟨b, o, none⟩) ss.length cap] w fun e w' =>
      ∃ s, e = .returned (.string s) ∧ s ∈ ss ∧ Rd w' r (p + 1) ∧ But r w w' ∧ w'.heap.size = w.heap.size := by
  go_enter Tryz.func86, Tryz.ntmps86
  go_wp2_with fail
  refine (pick_any r p ss.length w h hp (by omega) (by omega)).mono ?_
  rintro e w1 ⟨k, rfl, k0, k1, hr1, hb1, hz1⟩
  obtain ⟨k, rfl⟩ := Int.eq_ofNat_of_zero_le k0
  have hk : k < ss.length := by omega
  have hcell := hb1.cell_of hb hbr (hc k ss[k] (List.getElem?_eq_getElem hk))
  have HM := And.intro (List.getElem_mem hk) (And.intro hr1 (And.intro hb1 hz1))
  have HH : Hid _ := HM
  clear HM hr1 hb1 hz1 hc h hb
  generalize ss[k] = x at hcell HH
  go_wp2_with fail
  go_ret
  exact ⟨x, rfl, HH.out⟩

set_option maxRecDepth 100000 in
set_option maxHeartbeats 400000 in
theorem num_any (r p : Nat) (b o cap : Nat) (ns : List Int) (w : World) (h : Rd w r p) (hp : p < 1000000) (hb : b < w.heap.size) (hbr : b ≠ r) (hc : ∀ i n, ns[i]? = some n → w.cell? ⟨b, o + i, none⟩ = some (.int .i64 n))
    (h1 : 1 ≤ ns.length) (h2 : ns.length ≤ 1000) :
    Calls Tryz.prog 85 #[.pointer (some ⟨r, 0, none⟩), .slice (some ⟨b, o, none⟩) ns.length cap] w fun e w' =>
      ∃ n, e = .returned (.int .i64 n) ∧ n ∈ ns ∧ Rd w' r (p + 1) ∧ But r w w' ∧ w'.heap.size = w.heap.size := by
  go_enter Tryz.func85, Tryz.ntmps85
  go_wp2_with fail
  refine (pick_any r p ns.length w h hp (by omega) (by omega)).mono ?_
  rintro e w1 ⟨k, rfl, k0, k1, hr1, hb1, hz1⟩
  obtain ⟨k, rfl⟩ := Int.eq_ofNat_of_zero_le k0
  have hk : k < ns.length := by omega
  have hcell := hb1.cell_of hb hbr (hc k ns[k] (List.getElem?_eq_getElem hk))
  have HM := And.intro (List.getElem_mem hk) (And.intro hr1 (And.intro hb1 hz1))
  have HH : Hid _ := HM
  clear HM hr1 hb1 hz1 hc h hb
  generalize ns[k] = x at hcell HH
  go_wp2_with fail
  go_ret
  exact ⟨x, rfl, HH.out⟩

set_option maxRecDepth 100000 in
set_option maxHeartbeats 400000 in
theorem l11Open_any (a : Option Addr) (n cap : Nat) (w : World) (hcap : n ≤ cap) (h : BytesAt w.heap.size w a n) :
    Calls Tryz.prog 50 #[.slice a n cap] w fun e w' => e = .returned (.pointer (some ⟨w.heap.size, 0, none⟩)) ∧ Rd w' w.heap.size 0 ∧ Below w.heap.size w w' ∧ w'.heap.size = w.heap.size + 1 := by
  have hm : ∀ m : Nat, m ≤ n → m ≤ 2000 → ∀ c, Rd (w.alloc (.cells #[.slice a m c, .int .i64 0] 89)) w.heap.size 0 := by
    intro m hmn hm c
    refine ⟨a, m, c, heap_alloc_new w _, hm, ?_⟩
    rcases h with h | ⟨b, o, hb, ha, hc⟩
    · exact Or.inl (by omega)
    · exact BytesAt.moved (Or.inr ⟨b, o, hb, ha, fun i hi => hc i (by omega)⟩) (fun b hb => Below.heap_alloc _ _ _ hb)
  have HM : Hid _ := hm
  clear hm
  clear h
  by_cases hn : 2000 < n
  · have hc2 : (2000 : Int) ≤ cap := by omega
    go_enter Tryz.func50, Tryz.ntmps50
    go_wp2_with fail
    go_ret
    exact ⟨rfl, HM.out 2000 (by omega) (by omega) _, below_alloc1 _ _, by simp⟩
  · go_enter Tryz.func50, Tryz.ntmps50
    go_wp2_with fail
    go_ret
    exact ⟨rfl, HM.out n (Nat.le_refl _) (by omega) _, below_alloc1 _ _, by simp⟩
end Go.Proofs.YtilgbnnjecpneaaGreatDoor

/- Blocks of plain cells. -/
namespace Go.Proofs.YtilgbnnjecpneaaGreatDoor
open Go.RowKit Go.Deep
/-- A block of plain cells. -/
def Plain (w : World) (b : Nat) : Prop := ∃ c t, w.heap[b]? = some (.cells c t (0, 0))

theorem Plain.of_block {w w' : World} {b : Nat} (h : Plain w b) (e : w'.heap[b]? = w.heap[b]?) : Plain w' b := by
  obtain ⟨c, t, hc⟩ := h
  exact ⟨c, t, e.trans hc⟩

theorem plain_row {w : World} {b n : Nat} {t : TypeId} {f : Nat → Value} (h : w.rowIs b t n f) : Plain w b := by
  obtain ⟨c, hc, _⟩ := h
  exact ⟨c, t, hc⟩

def FreshP (w w' : World) (b : Nat) : Prop := Fresh w w' b ∧ Plain w' b

def AfterP (N : Nat) (w : World) (b : Nat) : Prop := After N w b ∧ Plain w b

/-- The first k things of a row that is being filled. -/
def FilledP {d : Nat} (N T n : Nat) (xs : List (Tr d)) (w : World) (k : Nat) (f : Nat → Value) : Prop :=
  w.rowIs N T n f ∧ ∀ j x, j < k → xs[j]? = some x → ValAt (AfterP N w) w d x (.agg #[f (j * 5), f (j * 5 + 1), f (j * 5 + 2), f (j * 5 + 3), f (j * 5 + 4)])

theorem FilledP.step {d N T n : Nat} {xs : List (Tr d)} {wr w1 : World} {k : Nat} {f : Nat → Value} {x : Tr d} {v0 v1 v2 v3 v4 : Value} (h : FilledP N T n xs wr k f) (hb : Below wr.heap.size wr w1)
    (hx : xs[k]? = some x) (hu : ValAt (FreshP wr w1) w1 d x (.agg #[v0, v1, v2, v3, v4])) :
    FilledP N T n xs (set5 w1 N (k * 5) v0 v1 v2 v3 v4) (k + 1) (put5 f (k * 5) v0 v1 v2 v3 v4) := by
  obtain ⟨hrow, hv⟩ := h
  have hN := hrow.lt
  have hs2 : Same (AfterP N w1) w1 (set5 w1 N (k * 5) v0 v1 v2 v3 v4) := fun b hb => set5_block _ _ _ _ _ _ _ _ _ (by have := hb.1.1; omega)
  have hA : ∀ b, AfterP N w1 b → AfterP N (set5 w1 N (k * 5) v0 v1 v2 v3 v4) b := fun b hb => ⟨⟨hb.1.1, by rw [set5_size]; exact hb.1.2⟩, hb.2.of_block (hs2 b hb)⟩
  refine ⟨rowIs_set5 (hrow.of_block (hb.block N hN)) _ _ _ _ _ _, fun j y hj hy => ?_⟩
  by_cases e : j = k
  · subst e
    rw [hx] at hy
    cases hy
    obtain ⟨p0, p1, p2, p3, p4⟩ := put5_at f (j * 5) v0 v1 v2 v3 v4
    rw [p0, p1, p2, p3, p4]
    refine ValAt.moved hs2 hA d x _ (hu.mono (fun b hb => ⟨⟨?_, hb.1.2⟩, hb.2⟩))
    have := hb.1.1
    omega
  · rw [put5_off _ _ _ _ _ _ _ _ (by omega), put5_off _ _ _ _ _ _ _ _ (by omega), put5_off _ _ _ _ _ _ _ _ (by omega), put5_off _ _ _ _ _ _ _ _ (by omega), put5_off _ _ _ _ _ _ _ _ (by omega)]
    have h1 := hv j y (by omega) hy
    have h2 : ValAt (AfterP N w1) w1 d y (.agg #[f (j * 5), f (j * 5 + 1), f (j * 5 + 2), f (j * 5 + 3), f (j * 5 + 4)]) :=
      ValAt.moved (fun b hS => hb.block b hS.1.2) (fun b hS => ⟨⟨hS.1.1, Nat.lt_of_lt_of_le hS.1.2 hb.size⟩, hS.2.of_block (hb.block b hS.1.2)⟩) d y _ h1
    exact ValAt.moved hs2 hA d y _ h2
end Go.Proofs.YtilgbnnjecpneaaGreatDoor
