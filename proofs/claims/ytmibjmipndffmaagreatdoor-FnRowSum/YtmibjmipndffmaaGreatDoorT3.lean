/- Texts of the proof, put together by program: WRd, WToPB, WSz, WTo, WOwn, WMarkP, WDrawA. -/
import Derived.Test.YtmibjmipndffmaaGreatDoorT2
import Derived.Laws.Bits64
import Derived.Laws.Closers25
import Derived.Deep.QuietTactic
import Derived.Test.YtmibjmipndffmaaGreatDoorT1
/- The reader of drawn bytes: pick. -/
namespace Go.Proofs.YtmibjmipndffmaaGreatDoor
open Go.RowKit Go.Deep

theorem xor_nonneg (a b : Int) (ha : 0 ≤ a) (hb : 0 ≤ b) (ha' : a < 9223372036854775808) (hb' : b < 9223372036854775808) : 0 ≤ bits .xor .i64 a b := by
  obtain ⟨A, rfl⟩ := Int.eq_ofNat_of_zero_le ha
  obtain ⟨B, rfl⟩ := Int.eq_ofNat_of_zero_le hb
  have hx : A ^^^ B < 2 ^ 63 := Nat.xor_lt_two_pow (by omega) (by omega)
  have h1 : (BitVec.ofInt 64 (A : Int)).toNat = A := by
    rw [BitVec.ofInt_natCast, BitVec.toNat_ofNat]; exact Nat.mod_eq_of_lt (by omega)
  have h2 : (BitVec.ofInt 64 (B : Int)).toNat = B := by
    rw [BitVec.ofInt_natCast, BitVec.toNat_ofNat]; exact Nat.mod_eq_of_lt (by omega)
  show 0 ≤ IntKind.i64.wrap ((BitVec.ofInt 64 (A : Int) ^^^ BitVec.ofInt 64 (B : Int)).toNat : Int)
  rw [BitVec.toNat_xor, h1, h2, IntKind.wrap_i64]
  omega

theorem But.draws {rb : Nat} {w w' : World} (h : But rb w w') {n : Nat} : But rb w (w'.drewN n) := ⟨h.os, h.tape, h.output, h.size, h.block⟩

/-- Bytes that lie in a block below r. -/
def BytesAt (r : Nat) (w : World) (a : Option Addr) (n : Nat) : Prop :=
  n = 0 ∨ ∃ b o, b < r ∧ a = some ⟨b, o, none⟩ ∧ ∀ i, i < n → ∃ x : Int, 0 ≤ x ∧ x < 256 ∧ w.cell? ⟨b, o + i, none⟩ = some (.int .u8 x)

/-- The reader at block r, its place p. -/
def Rd (w : World) (r p : Nat) : Prop :=
  ∃ a n cap, w.heap[r]? = some (.cells #[.slice a n cap, .int .i64 p] 115 (0, 0)) ∧ n ≤ 2000 ∧ BytesAt r w a n

theorem Rd.lt {w : World} {r p : Nat} (h : Rd w r p) : r < w.heap.size := by
  obtain ⟨a, n, cap, h, _⟩ := h
  exact (Array.getElem?_eq_some_iff.1 h).1
theorem BytesAt.moved {r : Nat} {w w' : World} {a : Option Addr} {n : Nat} (h : BytesAt r w a n) (hs : ∀ b, b < r → w'.heap[b]? = w.heap[b]?) : BytesAt r w' a n := by
  rcases h with h | ⟨b, o, hb, ha, hc⟩
  · exact Or.inl h
  · refine Or.inr ⟨b, o, hb, ha, fun i hi => ?_⟩
    obtain ⟨x, h0, h1, h2⟩ := hc i hi
    exact ⟨x, h0, h1, (World.cell?_of_block (w := w) (hs b hb)).trans h2⟩
/-- The reader is as it was, where no block up to it has turned. -/
theorem Rd.below {w w' : World} {r p : Nat} (h : Rd w r p) (hb : Below w.heap.size w w') : Rd w' r p := by
  have hl := h.lt
  obtain ⟨a, n, cap, h, hn, hB⟩ := h
  exact ⟨a, n, cap, (hb.block r hl).trans h, hn, hB.moved (fun b hbr => hb.block b (by omega))⟩

set_option maxRecDepth 100000 in
set_option maxHeartbeats 400000 in
theorem pick_any (r p : Nat) (n : Int) (w : World) (h : Rd w r p) (hp : p < 1000000) (h1 : 1 ≤ n) (h2 : n ≤ 1000) :
    Calls Tryz.prog 61 #[.pointer (some ⟨r, 0, none⟩), .int .i64 n] w fun e w' =>
      ∃ k : Int, e = .returned (.int .i64 k) ∧ 0 ≤ k ∧ k < n ∧ Rd w' r (p + 1) ∧ But r w w' ∧ w'.heap.size = w.heap.size := by
  have hl := h.lt
  obtain ⟨a, m, cap, hr, hm, hB⟩ := h
  have c0 : w.cell? ⟨r, 0, none⟩ = some (.slice a m cap) := by simp [World.cell?, hr]
  have c1 : w.cell? ⟨r, 1, none⟩ = some (.int .i64 p) := by simp [World.cell?, hr]
  have f1 : w.frozen? ⟨r, 1, none⟩ = false := by simp [World.frozen?, hr]
  obtain ⟨W, HW⟩ : ∃ W, Hid (W = w.setCell ⟨r, 1, none⟩ (.int .i64 (p + 1))) := ⟨_, rfl⟩
  have g0 : W.cell? ⟨r, 0, none⟩ = some (.slice a m cap) := by
    rw [HW.out]; simp [World.cell?, World.setCell, Array.getElem?_modify, hr]
  have g1 : W.cell? ⟨r, 1, none⟩ = some (.int .i64 (p + 1)) := by
    rw [HW.out]; simp [World.cell?, World.setCell, Array.getElem?_modify, hr]
  have HB : Hid (Rd W r (p + 1) ∧ But r w W ∧ W.heap.size = w.heap.size) := by
    refine ⟨⟨a, m, cap, ?_, hm, hB.moved (fun b hb => ?_)⟩, ?_, ?_⟩
    · rw [HW.out]; simp [World.setCell, Array.getElem?_modify, hr]
    · rw [HW.out]; exact Below.heap_setCell _ _ _ _ (by simp; omega)
    · rw [HW.out]; exact But.set r w 1 _
    · rw [HW.out]; simp [World.setCell]
  have hn1 : ¬ n < 1 := by omega
  by_cases hm0 : m = 0
  · subst hm0
    go_enter Tryz.func61, Tryz.ntmps61
    go_wp2_with fail
    go_ret
    rw [← HW.out]
    exact ⟨0, rfl, by omega, by omega, HB.out⟩
  · have hm1 : ((m : Int) == 0) = false := by simpa using hm0
    rcases hB with hB | ⟨b, o, hb, rfl, hc⟩
    · exact absurd hB hm0
    by_cases hpm : p < m
    · obtain ⟨x, y0, y1, y2⟩ := hc p hpm
      go_enter Tryz.func61, Tryz.ntmps61
      go_wp2_with fail
      go_ret
      rw [← HW.out]
      exact ⟨x % n, rfl, Int.emod_nonneg _ (by omega), Int.emod_lt_of_pos _ (by omega), HB.out⟩
    · obtain ⟨x, y0, y1, y2⟩ := hc (p % m) (Nat.mod_lt _ (by omega))
      obtain ⟨z, z0, z1, z2⟩ := hc ((p * 7 + 3) % m) (Nat.mod_lt _ (by omega))
      have q0 : 0 ≤ (p : Int) % (m : Int) := Int.emod_nonneg _ (by omega)
      have q1 : (p : Int) % (m : Int) < (m : Int) := Int.emod_lt_of_pos _ (by omega)
      have q2 : 0 ≤ ((p : Int) * 7 + 3) % (m : Int) := Int.emod_nonneg _ (by omega)
      have q3 : ((p : Int) * 7 + 3) % (m : Int) < (m : Int) := Int.emod_lt_of_pos _ (by omega)
      have q4 : 0 ≤ (p : Int) / (m : Int) := Int.ediv_nonneg (by omega) (by omega)
      have q5 : (p : Int) / (m : Int) ≤ (p : Int) := Int.ediv_le_self _ (by omega)
      clear hc
      go_enter Tryz.func61, Tryz.ntmps61
      go_wp2_with fail
      go_quiet (fail)
      go_wp2_with fail
      go_ret
      rw [← HW.out]
      have hx := xor_nonneg (x * 131 + z * 1117 + (p : Int) * 29 + (p : Int) / (m : Int) * 53) ((x * 131 + z * 1117 + (p : Int) * 29 + (p : Int) / (m : Int) * 53) / 64) (by omega) (by omega) (by omega) (by omega)
      exact ⟨_, rfl, Int.tmod_nonneg n hx, Int.tmod_lt_of_pos _ (by omega), HB.out.1, HB.out.2.1.draws, HB.out.2.2⟩

theorem But.cell_of {r : Nat} {w w' : World} (h : But r w w') {b o : Nat} {v : Value} (hb : b < w.heap.size) (hn : b ≠ r) (hc : w.cell? ⟨b, o, none⟩ = some v) : w'.cell? ⟨b, o, none⟩ = some v := (h.cell hb hn).trans hc

set_option maxRecDepth 100000 in
set_option maxHeartbeats 400000 in
theorem of_any (r p : Nat) (b o cap : Nat) (ss : List ByteArray) (w : World) (h : Rd w r p) (hp : p < 1000000) (hb : b < w.heap.size) (hbr : b ≠ r) (hc : ∀ i s, ss[i]? = some s → w.cell? ⟨b, o + i, none⟩ = some (.string s))
    (h1 : 1 ≤ ss.length) (h2 : ss.length ≤ 1000) :
    Calls Tryz.prog 87 #[.pointer (some ⟨r, 0, none⟩), .slice (some ⟨b, o, none⟩) ss.length cap] w fun e w' =>
      ∃ s, e = .returned (.string s) ∧ s ∈ ss ∧ Rd w' r (p + 1) ∧ But r w w' ∧ w'.heap.size = w.heap.size := by
  go_enter Tryz.func87, Tryz.ntmps87
  go_wp2_with fail
  refine (pick_any r p ss.length w h hp (by omega) (by omega)).mono ?_
  rintro e w1 ⟨k, rfl, k0, k1, hr1, hb1, hz1⟩
  obtain ⟨k, rfl⟩ := Int.eq_ofNat_of_zero_le k0
  have hk : k < ss.length := by omega
  have hcell := hb1.cell_of hb hbr (hc k ss[k] (List.getElem?_eq_getElem hk))
  have HM := And.intro (List.getElem_mem hk) (And.intro hr1 (And.intro hb1 hz1))
  have HH : Hid _ := HM
  clear HM hr1 hb1 hz1 hc h hb
  generalize ss[k] = x at hcell HH
  go_wp2_with fail
  go_ret
  exact ⟨x, rfl, HH.out⟩

set_option maxRecDepth 100000 in
set_option maxHeartbeats 400000 in
theorem num_any (r p : Nat) (b o cap : Nat) (ns : List Int) (w : World) (h : Rd w r p) (hp : p < 1000000) (hb : b < w.heap.size) (hbr : b ≠ r) (hc : ∀ i n, ns[i]? = some n → w.cell? ⟨b, o + i, none⟩ = some (.int .i64 n))
    (h1 : 1 ≤ ns.length) (h2 : ns.length ≤ 1000) :
    Calls Tryz.prog 86 #[.pointer (some ⟨r, 0, none⟩), .slice (some ⟨b, o, none⟩) ns.length cap] w fun e w' =>
      ∃ n, e = .returned (.int .i64 n) ∧ n ∈ ns ∧ Rd w' r (p + 1) ∧ But r w w' ∧ w'.heap.size = w.heap.size := by
  go_enter Tryz.func86, Tryz.ntmps86
  go_wp2_with fail
  refine (pick_any r p ns.length w h hp (by omega) (by omega)).mono ?_
  rintro e w1 ⟨k, rfl, k0, k1, hr1, hb1, hz1⟩
  obtain ⟨k, rfl⟩ := Int.eq_ofNat_of_zero_le k0
  have hk : k < ns.length := by omega
  have hcell := hb1.cell_of hb hbr (hc k ns[k] (List.getElem?_eq_getElem hk))
  have HM := And.intro (List.getElem_mem hk) (And.intro hr1 (And.intro hb1 hz1))
  have HH : Hid _ := HM
  clear HM hr1 hb1 hz1 hc h hb
  generalize ns[k] = x at hcell HH
  go_wp2_with fail
  go_ret
  exact ⟨x, rfl, HH.out⟩

set_option maxRecDepth 100000 in
set_option maxHeartbeats 400000 in
theorem l11Open_any (a : Option Addr) (n cap : Nat) (w : World) (hcap : n ≤ cap) (h : BytesAt w.heap.size w a n) :
    Calls Tryz.prog 40 #[.slice a n cap] w fun e w' => e = .returned (.pointer (some ⟨w.heap.size, 0, none⟩)) ∧ Rd w' w.heap.size 0 ∧ Below w.heap.size w w' ∧ w'.heap.size = w.heap.size + 1 := by
  have hm : ∀ m : Nat, m ≤ n → m ≤ 2000 → ∀ c, Rd (w.alloc (.cells #[.slice a m c, .int .i64 0] 115)) w.heap.size 0 := by
    intro m hmn hm c
    refine ⟨a, m, c, heap_alloc_new w _, hm, ?_⟩
    rcases h with h | ⟨b, o, hb, ha, hc⟩
    · exact Or.inl (by omega)
    · exact BytesAt.moved (Or.inr ⟨b, o, hb, ha, fun i hi => hc i (by omega)⟩) (fun b hb => Below.heap_alloc _ _ _ hb)
  have HM : Hid _ := hm
  clear hm
  clear h
  by_cases hn : 2000 < n
  · have hc2 : (2000 : Int) ≤ cap := by omega
    go_enter Tryz.func40, Tryz.ntmps40
    go_wp2_with fail
    go_ret
    exact ⟨rfl, HM.out 2000 (by omega) (by omega) _, below_alloc1 _ _, by simp⟩
  · go_enter Tryz.func40, Tryz.ntmps40
    go_wp2_with fail
    go_ret
    exact ⟨rfl, HM.out n (Nat.le_refl _) (by omega) _, below_alloc1 _ _, by simp⟩
end Go.Proofs.YtmibjmipndffmaaGreatDoor

/- Blocks of plain cells. -/
namespace Go.Proofs.YtmibjmipndffmaaGreatDoor
open Go.RowKit Go.Deep
/-- A block of plain cells. -/
def Plain (w : World) (b : Nat) : Prop := ∃ c t, w.heap[b]? = some (.cells c t (0, 0))

theorem Plain.of_block {w w' : World} {b : Nat} (h : Plain w b) (e : w'.heap[b]? = w.heap[b]?) : Plain w' b := by
  obtain ⟨c, t, hc⟩ := h
  exact ⟨c, t, e.trans hc⟩

theorem plain_row {w : World} {b n : Nat} {t : TypeId} {f : Nat → Value} (h : w.rowIs b t n f) : Plain w b := by
  obtain ⟨c, hc, _⟩ := h
  exact ⟨c, t, hc⟩

def FreshP (w w' : World) (b : Nat) : Prop := Fresh w w' b ∧ Plain w' b

def AfterP (N : Nat) (w : World) (b : Nat) : Prop := After N w b ∧ Plain w b

/-- The first k things of a row that is being filled. -/
def FilledP {d : Nat} (N T n : Nat) (xs : List (Tr d)) (w : World) (k : Nat) (f : Nat → Value) : Prop :=
  w.rowIs N T n f ∧ ∀ j x, j < k → xs[j]? = some x → ValAt (AfterP N w) w d x (.agg #[f (j * 5), f (j * 5 + 1), f (j * 5 + 2), f (j * 5 + 3), f (j * 5 + 4)])

theorem FilledP.step {d N T n : Nat} {xs : List (Tr d)} {wr w1 : World} {k : Nat} {f : Nat → Value} {x : Tr d} {v0 v1 v2 v3 v4 : Value} (h : FilledP N T n xs wr k f) (hb : Below wr.heap.size wr w1)
    (hx : xs[k]? = some x) (hu : ValAt (FreshP wr w1) w1 d x (.agg #[v0, v1, v2, v3, v4])) :
    FilledP N T n xs (set5 w1 N (k * 5) v0 v1 v2 v3 v4) (k + 1) (put5 f (k * 5) v0 v1 v2 v3 v4) := by
  obtain ⟨hrow, hv⟩ := h
  have hN := hrow.lt
  have hs2 : Same (AfterP N w1) w1 (set5 w1 N (k * 5) v0 v1 v2 v3 v4) := fun b hb => set5_block _ _ _ _ _ _ _ _ _ (by have := hb.1.1; omega)
  have hA : ∀ b, AfterP N w1 b → AfterP N (set5 w1 N (k * 5) v0 v1 v2 v3 v4) b := fun b hb => ⟨⟨hb.1.1, by rw [set5_size]; exact hb.1.2⟩, hb.2.of_block (hs2 b hb)⟩
  refine ⟨rowIs_set5 (hrow.of_block (hb.block N hN)) _ _ _ _ _ _, fun j y hj hy => ?_⟩
  by_cases e : j = k
  · subst e
    rw [hx] at hy
    cases hy
    obtain ⟨p0, p1, p2, p3, p4⟩ := put5_at f (j * 5) v0 v1 v2 v3 v4
    rw [p0, p1, p2, p3, p4]
    refine ValAt.moved hs2 hA d x _ (hu.mono (fun b hb => ⟨⟨?_, hb.1.2⟩, hb.2⟩))
    have := hb.1.1
    omega
  · rw [put5_off _ _ _ _ _ _ _ _ (by omega), put5_off _ _ _ _ _ _ _ _ (by omega), put5_off _ _ _ _ _ _ _ _ (by omega), put5_off _ _ _ _ _ _ _ _ (by omega), put5_off _ _ _ _ _ _ _ _ (by omega)]
    have h1 := hv j y (by omega) hy
    have h2 : ValAt (AfterP N w1) w1 d y (.agg #[f (j * 5), f (j * 5 + 1), f (j * 5 + 2), f (j * 5 + 3), f (j * 5 + 4)]) :=
      ValAt.moved (fun b hS => hb.block b hS.1.2) (fun b hS => ⟨⟨hS.1.1, Nat.lt_of_lt_of_le hS.1.2 hb.size⟩, hS.2.of_block (hb.block b hS.1.2)⟩) d y _ h1
    exact ValAt.moved hs2 hA d y _ h2
end Go.Proofs.YtmibjmipndffmaaGreatDoor

/- szStringS, szVal, szValS: how much a tree takes. -/
namespace Go.Proofs.YtmibjmipndffmaaGreatDoor
open Go.RowKit
end Go.Proofs.YtmibjmipndffmaaGreatDoor

/- toStringS, toVal, toValS: a copy of a tree, in new memory. -/
namespace Go.Proofs.YtmibjmipndffmaaGreatDoor
open Go.RowKit Go.Deep
end Go.Proofs.YtmibjmipndffmaaGreatDoor

/- Trees that own their memory: no two lists lie in one block, all cells may be written. -/
namespace Go.Proofs.YtmibjmipndffmaaGreatDoor
open Go.RowKit Go.Deep

/-- A fact put by, its type as it is written. -/
theorem hide {p : Prop} (h : p) : Hid p := h

/-- Only blocks of S have turned; there may be new ones. -/
structure Turn (S : Nat → Prop) (w w' : World) : Prop where
  os : w'.os = w.os
  tape : w'.tape = w.tape
  output : w'.output = w.output
  size : w.heap.size ≤ w'.heap.size
  block : ∀ b, b < w.heap.size → ¬ S b → w'.heap[b]? = w.heap[b]?

theorem Turn.refl (S : Nat → Prop) (w : World) : Turn S w w := ⟨rfl, rfl, rfl, Nat.le_refl _, fun _ _ _ => rfl⟩
theorem Turn.trans {S : Nat → Prop} {a b c : World} (h : Turn S a b) (k : Turn S b c) : Turn S a c :=
  ⟨k.os.trans h.os, k.tape.trans h.tape, k.output.trans h.output, Nat.le_trans h.size k.size, fun i hi hn => (k.block i (Nat.lt_of_lt_of_le hi h.size) hn).trans (h.block i hi hn)⟩
theorem Turn.of_below {S : Nat → Prop} {w w' : World} (h : Below w.heap.size w w') : Turn S w w' := ⟨h.os, h.tape, h.output, h.size, fun i hi _ => h.block i hi⟩
theorem Turn.mono {S S' : Nat → Prop} {w w' : World} (h : Turn S w w') (hS : ∀ b, S b → S' b) : Turn S' w w' :=
  ⟨h.os, h.tape, h.output, h.size, fun i hi hn => h.block i hi (fun hb => hn (hS i hb))⟩
theorem Turn.same {S R : Nat → Prop} {w w' : World} (h : Turn S w w') (hw : Within R w) (hd : ∀ b, R b → ¬ S b) : Same R w w' := fun b hb => h.block b (hw b hb) (hd b hb)
theorem Turn.set {S : Nat → Prop} {w w' : World} (h : Turn S w w') {a : Addr} (ha : S a.block) (u : Value) : Turn S w (w'.setCell a u) :=
  h.trans ⟨rfl, rfl, rfl, by simp [World.setCell], fun i _ hn => Below.heap_setCell _ _ _ _ (fun e => hn (e ▸ ha))⟩
theorem Turn.below {S : Nat → Prop} {B : Nat} {w w' : World} (h : Turn S w w') (hB : B ≤ w.heap.size) (hS : ∀ b, S b → B ≤ b) : Below B w w' :=
  ⟨h.os, h.tape, h.output, h.size, fun b hb => h.block b (Nat.lt_of_lt_of_le hb hB) (fun hs => Nat.not_lt.2 (hS b hs) hb)⟩
theorem Turn.alloc {S : Nat → Prop} {w w' : World} (h : Turn S w w') (o : Obj) : Turn S w (w'.alloc o) := h.trans (Turn.of_below (below_alloc1 _ _))

/-- A slice of texts in a block of S that may be written. -/
def StrsOwn (S : Nat → Prop) (w : World) (v : Value) (ss : List ByteArray) : Prop :=
  ss.length < 17592186044416 ∧ (∀ s ∈ ss, s.size < 281474976710656) ∧
  ∃ a cap, v = .slice a ss.length cap ∧
    (ss = [] ∨ ∃ b n f, S b ∧ a = some ⟨b, 0, none⟩ ∧ ss.length ≤ n ∧ w.rowIs b 9 n f ∧ ∀ i s, ss[i]? = some s → f i = .string s)

/-- A slice of things of five cells each, in a block of S that may be written; each thing has blocks of its own. -/
def RowOwn {α : Type} (w : World) (At : (Nat → Prop) → α → Value → Prop) (S : Nat → Prop) (v : Value) (xs : List α) : Prop :=
  xs.length < 3518437208883 ∧
  ∃ a cap, v = .slice a xs.length cap ∧
    (xs = [] ∨ ∃ (b n : Nat) (f : Nat → Value) (P : Nat → Nat → Prop), S b ∧ a = some ⟨b, 0, none⟩ ∧ xs.length * 5 ≤ n ∧ w.rowIs b 26 n f ∧
      (∀ i c, P i c → S c ∧ c ≠ b) ∧ (∀ i j c, P i c → P j c → i = j) ∧
      ∀ i x, xs[i]? = some x → At (P i) x (.agg #[f (i * 5), f (i * 5 + 1), f (i * 5 + 2), f (i * 5 + 3), f (i * 5 + 4)]))

/-- A tree that owns its memory, which lies in blocks of S. -/
def ValOwn (w : World) : (d : Nat) → (Nat → Prop) → Tr d → Value → Prop
  | 0, _, _, _ => False
  | d + 1, S, t, v => ∃ vk vl Sk Sl, v = .agg #[.int .i64 (Nd.kind t), .int .i64 (Nd.num t), .string (Nd.str t), vk, vl] ∧
      I64 (Nd.kind t) ∧ I64 (Nd.num t) ∧ (Nd.str t).size < 281474976710656 ∧ StrsOwn Sk w vk (Nd.keys t) ∧ RowOwn w (fun P x u => ValOwn w d P x u) Sl vl (Nd.list t) ∧
      (∀ b, Sk b → S b) ∧ (∀ b, Sl b → S b) ∧ (∀ b, Sk b → ¬ Sl b)

theorem StrsOwn.at {S : Nat → Prop} {w : World} {v : Value} {ss : List ByteArray} (h : StrsOwn S w v ss) : StrsAt S w v ss := by
  obtain ⟨h1, h2, a, cap, hv, h3⟩ := h
  refine ⟨h1, h2, a, cap, hv, ?_⟩
  rcases h3 with h3 | ⟨b, n, f, hB, ha, hl, hr, hc⟩
  · exact Or.inl h3
  · refine Or.inr ⟨b, 0, hB, ha, fun i s hi => ?_⟩
    have := (List.getElem?_eq_some_iff.1 hi).1
    rw [Nat.zero_add, hr.cell (by omega), hc i s hi]
theorem RowOwn.at {α : Type} {w : World} {At : (Nat → Prop) → α → Value → Prop} {At' : α → Value → Prop} {S : Nat → Prop} {v : Value} {xs : List α} (h : RowOwn w At S v xs)
    (hi : ∀ P x u, (∀ b, P b → S b) → At P x u → At' x u) : RowAt S w At' v xs := by
  obtain ⟨h1, a, cap, hv, h3⟩ := h
  refine ⟨h1, a, cap, hv, ?_⟩
  rcases h3 with h3 | ⟨b, n, f, P, hB, ha, hl, hr, hP, _, hc⟩
  · exact Or.inl h3
  · refine Or.inr ⟨b, 0, hB, ha, fun i x hx => ?_⟩
    have := (List.getElem?_eq_some_iff.1 hx).1
    rw [Nat.zero_add]
    exact ⟨_, _, _, _, _, hr.cell (by omega), hr.cell (by omega), hr.cell (by omega), hr.cell (by omega), hr.cell (by omega), hi _ _ _ (fun c hc => (hP i c hc).1) (hc i x hx)⟩
theorem ValOwn.at {w : World} : ∀ (d : Nat) (S : Nat → Prop) (t : Tr d) (v : Value), ValOwn w d S t v → ValAt S w d t v
  | 0, _, _, _, h => h
  | d + 1, S, t, v, h => by
    obtain ⟨vk, vl, Sk, Sl, hv, i1, i2, i3, hk, hl, s1, s2, _⟩ := h
    exact ⟨vk, vl, hv, i1, i2, i3, hk.at.mono s1, (hl.at (At' := ValAt S w d) (fun P x u hP hx => (ValOwn.at d P x u hx).mono (fun b hb => s2 b (hP b hb)))).moved (Same.refl _ _) s2 (fun _ _ h => h)⟩

theorem StrsOwn.moved {S S' : Nat → Prop} {w w' : World} {v : Value} {ss : List ByteArray} (h : StrsOwn S w v ss) (hs : Same S w w') (hS : ∀ b, S b → S' b) : StrsOwn S' w' v ss := by
  obtain ⟨h1, h2, a, cap, hv, h3⟩ := h
  refine ⟨h1, h2, a, cap, hv, ?_⟩
  rcases h3 with h3 | ⟨b, n, f, hB, ha, hl, hr, hc⟩
  · exact Or.inl h3
  · exact Or.inr ⟨b, n, f, hS b hB, ha, hl, hr.of_block (hs b hB), hc⟩
theorem RowOwn.moved {α : Type} {w w' : World} {At At' : (Nat → Prop) → α → Value → Prop} {S S' : Nat → Prop} {v : Value} {xs : List α} (h : RowOwn w At S v xs) (hs : Same S w w') (hS : ∀ b, S b → S' b)
    (hi : ∀ P x u, (∀ b, P b → S b) → At P x u → At' P x u) : RowOwn w' At' S' v xs := by
  obtain ⟨h1, a, cap, hv, h3⟩ := h
  refine ⟨h1, a, cap, hv, ?_⟩
  rcases h3 with h3 | ⟨b, n, f, P, hB, ha, hl, hr, hP, hd, hc⟩
  · exact Or.inl h3
  · exact Or.inr ⟨b, n, f, P, hS b hB, ha, hl, hr.of_block (hs b hB), fun i c hc => ⟨hS c (hP i c hc).1, (hP i c hc).2⟩, hd, fun i x hx => hi _ _ _ (fun c hc => (hP i c hc).1) (hc i x hx)⟩
theorem ValOwn.moved {w w' : World} : ∀ (d : Nat) (S S' : Nat → Prop) (t : Tr d) (v : Value), ValOwn w d S t v → Same S w w' → (∀ b, S b → S' b) → ValOwn w' d S' t v
  | 0, _, _, _, _, h, _, _ => h
  | d + 1, S, S', t, v, h, hs, hS => by
    obtain ⟨vk, vl, Sk, Sl, hv, i1, i2, i3, hk, hl, s1, s2, s3⟩ := h
    exact ⟨vk, vl, Sk, Sl, hv, i1, i2, i3, hk.moved (fun b hb => hs b (s1 b hb)) (fun _ h => h), hl.moved (fun b hb => hs b (s2 b hb)) (fun _ h => h) (fun P x u hP hx => ValOwn.moved d P P x u hx (fun b hb => hs b (s2 b (hP b hb))) (fun _ h => h)),
      fun b hb => hS b (s1 b hb), fun b hb => hS b (s2 b hb), s3⟩
theorem ValOwn.same {w w' : World} {d : Nat} {S : Nat → Prop} {t : Tr d} {v : Value} (h : ValOwn w d S t v) (hs : Same S w w') : ValOwn w' d S t v := ValOwn.moved d S S t v h hs (fun _ h => h)
theorem ValOwn.mono {w : World} {d : Nat} {S S' : Nat → Prop} {t : Tr d} {v : Value} (h : ValOwn w d S t v) (hS : ∀ b, S b → S' b) : ValOwn w d S' t v := ValOwn.moved d S S' t v h (Same.refl _ _) hS
theorem RowOwn.same {w w' : World} {d : Nat} {S : Nat → Prop} {v : Value} {xs : List (Tr d)} (h : RowOwn w (fun P x u => ValOwn w d P x u) S v xs) (hs : Same S w w') : RowOwn w' (fun P x u => ValOwn w' d P x u) S v xs :=
  h.moved hs (fun _ h => h) (fun P x u hP hx => ValOwn.moved d P P x u hx (fun b hb => hs b (hP b hb)) (fun _ h => h))
theorem StrsOwn.open' {S : Nat → Prop} {w : World} {v : Value} {ss : List ByteArray} (h : StrsOwn S w v ss) : ∃ a cap, v = .slice a ss.length cap ∧ ss.length < 17592186044416 := h.at.open'
theorem RowOwn.open' {α : Type} {w : World} {At : (Nat → Prop) → α → Value → Prop} {S : Nat → Prop} {v : Value} {xs : List α} (h : RowOwn w At S v xs) : ∃ a cap, v = .slice a xs.length cap ∧ xs.length < 3518437208883 := by
  obtain ⟨h1, a, cap, hv, _⟩ := h
  exact ⟨a, cap, hv, h1⟩
end Go.Proofs.YtmibjmipndffmaaGreatDoor

/- Marks, as plain functions of lists and trees. -/
namespace Go.Proofs.YtmibjmipndffmaaGreatDoor

/-- How many marks a part takes. -/
def wtT : (d : Nat) → Tr d → Nat
  | 0, _ => 0
  | d + 1, t => 3 + (Nd.keys t).length + ((Nd.list t).map (wtT d)).sum
end Go.Proofs.YtmibjmipndffmaaGreatDoor

/- Drawn trees: leaves. -/
namespace Go.Proofs.YtmibjmipndffmaaGreatDoor
open Go.RowKit Go.Deep

/-- A tree whose keys may be written behind their end: the parts lie elsewhere. -/
def KeyTop (N : Nat) (S : Nat → Prop) (w : World) : (d : Nat) → Tr d → Value → Prop
  | 0, _, _ => False
  | d + 1, t, u => ∃ kv lv, u = .agg #[.int .i64 (Nd.kind t), .int .i64 (Nd.num t), .string (Nd.str t), kv, lv] ∧ I64 (Nd.kind t) ∧ I64 (Nd.num t) ∧ (Nd.str t).size < 281474976710656 ∧ (∀ s ∈ Nd.keys t, s.size < 281474976710656) ∧ (Nd.keys t).length < 1000 ∧
      w.ownsRow N 9 1 kv (Nd.keys t).length ((Nd.keys t).map Value.string) ∧ (∀ b, kv.ownBlock = some b → S b) ∧ RowAt (fun b => S b ∧ kv.ownBlock ≠ some b) w (ValAt (fun b => S b ∧ kv.ownBlock ≠ some b) w d) lv (Nd.list t)
theorem owns_moved {w w' : World} {N N' : Nat} {e : TypeId} {size n : Nat} {v : Value} {xs : List Value} (h : w.ownsRow N e size v n xs) (ho : ∀ g, v.ownBlock = some g → w'.heap[g]? = w.heap[g]?) (hN : N' ≤ N) : w'.ownsRow N' e size v n xs := by
  refine ⟨h.1, ?_⟩
  rcases h.2 with h | ⟨g, cap, cur, hv, hg, hh, hrest⟩
  · exact Or.inl h
  · exact Or.inr ⟨g, cap, cur, hv, Nat.le_trans hN hg, (ho g (by rw [hv]; rfl)).trans hh, hrest⟩
theorem KeyTop.moved {N N' : Nat} {S S' : Nat → Prop} {w w' : World} {d : Nat} {t : Tr d} {u : Value} (h : KeyTop N S w d t u) (hs : Same S w w') (hS : ∀ b, S b → S' b) (hN : N' ≤ N) : KeyTop N' S' w' d t u := by
  cases d with
  | zero => exact h.elim
  | succ d =>
    obtain ⟨kv, lv, hu, i1, i2, i3, hk, hkl, ho, hob, hl⟩ := h
    exact ⟨kv, lv, hu, i1, i2, i3, hk, hkl, owns_moved ho (fun g hg => hs g (hob g hg)) hN, fun b hb => hS b (hob b hb), hl.moved (fun b hb => hs b hb.1) (fun b hb => ⟨hS b hb.1, hb.2⟩) (fun x u hx => ValAt.moved (fun b hb => hs b hb.1) (fun b hb => ⟨hS b hb.1, hb.2⟩) d x u hx)⟩
theorem strs_of_owns {N : Nat} {S : Nat → Prop} {w : World} {kv : Value} {ks : List ByteArray} (h : w.ownsRow N 9 1 kv ks.length (ks.map Value.string)) (hk : ∀ s ∈ ks, s.size < 281474976710656) (hkl : ks.length < 1000) (hob : ∀ b, kv.ownBlock = some b → S b) : StrsAt S w kv ks := by
  refine ⟨by omega, hk, ?_⟩
  rcases h.2 with ⟨e, h0⟩ | ⟨g, cap, cur, e, hg, hh, _⟩
  · exact ⟨none, 0, by rw [e, h0], Or.inl (List.eq_nil_of_length_eq_zero h0)⟩
  · refine ⟨some ⟨g, 0, none⟩, cap, e, Or.inr ⟨g, 0, hob g (by rw [e]; rfl), rfl, fun i s hs => ?_⟩⟩
    have hi := (List.getElem?_eq_some_iff.1 hs).1
    rw [e] at h
    rw [Nat.zero_add]
    exact (h.cellAt i (by omega)).trans (by rw [List.getElem?_map, hs]; rfl)
theorem KeyTop.at {N : Nat} {S : Nat → Prop} {w : World} {d : Nat} {t : Tr d} {u : Value} (h : KeyTop N S w d t u) : ValAt S w d t u := by
  cases d with
  | zero => exact h.elim
  | succ d =>
    obtain ⟨kv, lv, hu, i1, i2, i3, hk, hkl, ho, hob, hl⟩ := h
    exact ⟨kv, lv, hu, i1, i2, i3, strs_of_owns ho hk hkl hob, hl.moved (Same.refl _ _) (fun b hb => hb.1) (fun x u hx => ValAt.moved (Same.refl _ _) (fun b hb => hb.1) d x u hx)⟩

/-- What a drawing function tells: a tree in new memory, not too great; the reader has gone on by at most c places. -/
def Drawn (r p c : Nat) (d B : Nat) (w : World) (e : Ending) (w' : World) : Prop :=
  ∃ u t p', e = .returned u ∧ KeyTop w.heap.size (FreshP w w') w' d t u ∧ wtT d t ≤ B ∧ Rd w' r p' ∧ p' ≤ p + c ∧ But r w w'

/-- A tree without parts. -/
def bareT (d : Nat) (k n : Int) (s : ByteArray) : Tr (d + 1) := { kind := k, num := n, str := s, keys := [], list := [] }
theorem bareT_at (S : Nat → Prop) (w : World) (d : Nat) (k n : Int) (s : ByteArray) (hk : I64 k) (hn : I64 n) (hs : s.size < 281474976710656) :
    ValAt S w (d + 1) (bareT d k n s) (.agg #[.int .i64 k, .int .i64 n, .string s, .slice none 0 0, .slice none 0 0]) :=
  ⟨_, _, rfl, hk, hn, hs, ⟨by show (0 : Nat) < _; omega, (fun s hs => by cases hs), none, 0, rfl, Or.inl rfl⟩, ⟨by show (0 : Nat) < _; omega, none, 0, rfl, Or.inl rfl⟩⟩
theorem bareT_key (N : Nat) (S : Nat → Prop) (w : World) (d : Nat) (k n : Int) (s : ByteArray) (hk : I64 k) (hn : I64 n) (hs : s.size < 281474976710656) :
    KeyTop N S w (d + 1) (bareT d k n s) (.agg #[.int .i64 k, .int .i64 n, .string s, .slice none 0 0, .slice none 0 0]) :=
  ⟨_, _, rfl, hk, hn, hs, (fun s hs => by cases hs), by show (0 : Nat) < _; omega, ⟨rfl, Or.inl ⟨rfl, rfl⟩⟩, (fun b hb => by cases hb), ⟨by show (0 : Nat) < _; omega, none, 0, rfl, Or.inl rfl⟩⟩
theorem bareT_wt (d : Nat) (k n : Int) (s : ByteArray) : wtT (d + 1) (bareT d k n s) ≤ 3 := by simp [wtT, bareT]

theorem cell_of_cells {w : World} {b j : Nat} {cs : Array Value} {T : TypeId} (h : w.heap[b]? = some (.cells cs T (0, 0))) : w.cell? ⟨b, j, none⟩ = cs[j]? := by simp [World.cell?, h]
theorem texts_new (w : World) (T : TypeId) (ss : List ByteArray) (i : Nat) (s : ByteArray) (h : ss[i]? = some s) : (w.alloc (.cells (ss.map Value.string).toArray T)).cell? ⟨w.heap.size, 0 + i, none⟩ = some (.string s) := by
  rw [cell_of_cells (heap_alloc_new w _)]
  simp [h]
theorem ints_new (w : World) (T : TypeId) (ns : List Int) (i : Nat) (n : Int) (h : ns[i]? = some n) : (w.alloc (.cells (ns.map (Value.int .i64)).toArray T)).cell? ⟨w.heap.size, 0 + i, none⟩ = some (.int .i64 n) := by
  rw [cell_of_cells (heap_alloc_new w _)]
  simp [h]

def leafNums : List Int := [0, 1, 2, 3, -1, 7, 1000000]
def leafTexts : List ByteArray := [⟨#[]⟩, ⟨#[97]⟩, ⟨#[98]⟩, ⟨#[97, 98]⟩, ⟨#[122, 122]⟩, ⟨#[97, 98, 99, 100, 101, 102, 103, 104, 105, 106, 107, 108]⟩]

/-- New blocks of plain cells, but for the first one. -/
def FreshQ (w w' : World) (b : Nat) : Prop := w.heap.size < b ∧ b < w'.heap.size ∧ Plain w' b

/-- What was drawn is put into the result's own cells. -/
theorem drawn_end {r p p' c d B : Nat} {w wX : World} {t : Tr d} {v0 v1 v2 v3 v4 : Value} (hv : KeyTop (w.heap.size + 1) (FreshQ w wX) wX d t (.agg #[v0, v1, v2, v3, v4])) (hB : wtT d t ≤ B) (hR : Rd wX r p') (hp : p' ≤ p + c) (hb : But r w wX) (hr : r < w.heap.size) (_hx : w.heap.size < wX.heap.size) :
    ∀ wF, wF = set5 wX w.heap.size 0 v0 v1 v2 v3 v4 → Drawn r p c d B w (.returned (.agg #[v0, v1, v2, v3, v4])) wF := by
  intro wF hF
  have hs : ∀ b, b ≠ w.heap.size → wF.heap[b]? = wX.heap[b]? := fun b hb' => by rw [hF]; exact set5_block _ _ _ _ _ _ _ _ _ hb'
  have hz : wF.heap.size = wX.heap.size := by rw [hF]; exact set5_size _ _ _ _ _ _ _ _
  have hl : Below w.heap.size wX wF := by rw [hF]; exact below_set5 (Below.refl _ _) (Nat.le_refl _) _ _ _ _ _ _
  refine ⟨_, t, p', rfl, hv.moved (fun b hb' => hs b (by have := hb'.1; omega)) (fun b hb' => ?_) (by omega), hB, ?_, hp, ⟨hl.os.trans hb.os, hl.tape.trans hb.tape, hl.output.trans hb.output, by rw [hz]; exact hb.size, fun b hb1 hb2 => (hs b (by omega)).trans (hb.block b hb1 hb2)⟩⟩
  · exact ⟨⟨Nat.le_of_lt hb'.1, by rw [hz]; exact hb'.2.1⟩, hb'.2.2.of_block (hs b (by have := hb'.1; omega))⟩
  · obtain ⟨a, n, cap, h1, h2, h3⟩ := hR
    exact ⟨a, n, cap, (hs r (by omega)).trans h1, h2, h3.moved (fun b hb' => hs b (by omega))⟩

/-- The result's own cells, as they are made. -/
theorem res_new (w : World) : Blk5 (w.alloc (.cells #[.int .i64 0, .int .i64 0, .string { data := #[] }, .slice none 0 0, .slice none 0 0] 26)) w.heap.size 26 (.int .i64 0) (.int .i64 0) (.string { data := #[] }) (.slice none 0 0) (.slice none 0 0) := Blk5.new w _ _ _ _ _ _
theorem Blk5.butr {w w' : World} {r b : Nat} {T : TypeId} {c0 c1 c2 c3 c4 : Value} (h : Blk5 w b T c0 c1 c2 c3 c4) (hb : But r w w') (hn : b ≠ r) : Blk5 w' b T c0 c1 c2 c3 c4 := h.of_block (hb.block b h.lt (fun e => hn (by cases e; rfl)))

set_option maxRecDepth 100000 in
set_option maxHeartbeats 1000000 in
theorem l1Leaf_any (d r p : Nat) (w : World) (h : Rd w r p) (hp : p + 2 ≤ 1000000) :
    Calls Tryz.prog 114 #[.pointer (some ⟨r, 0, none⟩)] w (Drawn r p 2 (d + 1) 3 w) := by
  have hr := h.lt
  have hb0 := below_alloc1 w (.cells #[.int .i64 0, .int .i64 0, .string { data := #[] }, .slice none 0 0, .slice none 0 0] 26)
  have kr := res_new w
  have hR0 := h.below hb0
  obtain ⟨W0, HW⟩ : ∃ W0, Hid (W0 = w.alloc (.cells #[.int .i64 0, .int .i64 0, .string { data := #[] }, .slice none 0 0, .slice none 0 0] 26)) := ⟨_, rfl⟩
  have hz0 : W0.heap.size = w.heap.size + 1 := by rw [HW.out]; simp
  rw [← HW.out] at hb0 kr hR0
  go_enter Tryz.func114, Tryz.ntmps114
  go_wp2_with fail
  rw [← HW.out]
  refine (pick_any r p 8 W0 hR0 (by omega) (by omega) (by omega)).mono ?_
  rintro e w1 ⟨k, rfl, k0, k1, h1, b1, z1⟩
  clear h hR0
  replace kr := kr.butr b1 (by omega)
  have hB1 := (But.of_below hb0).trans b1
  have hz1 : w.heap.size < w1.heap.size := by omega
  have hk : k = 0 ∨ k = 1 ∨ k = 2 ∨ k = 3 ∨ k = 4 ∨ k = 5 ∨ k = 6 ∨ k = 7 := by omega
  clear k0 k1 HW hb0 z1 hz0 b1
  rcases hk with rfl | rfl | rfl | rfl | rfl | rfl | rfl | rfl
  case inl =>
    go_wp2_with fail
    refine (pick_any r (p + 1) 3 w1 h1 (by omega) (by omega) (by omega)).mono ?_
    rintro e w2 ⟨k, rfl, k0, k1, h2, b2, z2⟩
    replace kr := kr.butr b2 (by omega)
    have hB2 := hB1.trans b2
    have HF := hide (drawn_end (c := 2) (p := p) (bareT_key (w.heap.size + 1) (FreshQ w w2) w2 d k 0 ⟨#[]⟩ ⟨by omega, by omega⟩ ⟨by omega, by omega⟩ (by show (0 : Nat) < _; omega)) (bareT_wt d k 0 _) h2 (by omega) hB2 hr (by omega))
    obtain ⟨y0, y1, y2, y3, y4⟩ := kr.cell
    have yf := kr.frozen
    clear kr h2 hB2 b2 h1
    go_wp2_with fail
    exact bodyPost_ret (v := .agg #[.int .i64 k, .int .i64 0, .string { data := #[] }, .slice none 0 0, .slice none 0 0]) (by simp [results, Tryz.results114, go_sem, y0, y1, y2, y3, y4]) rfl (HF.out _ rfl)
  case inr.inr.inr.inl =>
    go_wp2_with fail
    refine (pick_any r (p + 1) 2 w1 h1 (by omega) (by omega) (by omega)).mono ?_
    rintro e w2 ⟨k, rfl, k0, k1, h2, b2, z2⟩
    replace kr := kr.butr b2 (by omega)
    have hB2 := hB1.trans b2
    have HF := hide (drawn_end (c := 2) (p := p) (bareT_key (w.heap.size + 1) (FreshQ w w2) w2 d (5 + k) 0 ⟨#[]⟩ ⟨by omega, by omega⟩ ⟨by omega, by omega⟩ (by show (0 : Nat) < _; omega)) (bareT_wt d (5 + k) 0 _) h2 (by omega) hB2 hr (by omega))
    obtain ⟨y0, y1, y2, y3, y4⟩ := kr.cell
    have yf := kr.frozen
    clear kr h2 hB2 b2 h1
    go_wp2_with fail
    exact bodyPost_ret (v := .agg #[.int .i64 (5 + k), .int .i64 0, .string { data := #[] }, .slice none 0 0, .slice none 0 0]) (by simp [results, Tryz.results114, go_sem, y0, y1, y2, y3, y4]) rfl (HF.out _ rfl)
  case inr.inl =>
    go_wp2_with fail
    have ha := below_alloc1 w1 (.cells (leafTexts.map Value.string).toArray 9)
    have hza : (w1.alloc (.cells (leafTexts.map Value.string).toArray 9)).heap.size = w1.heap.size + 1 := by simp
    refine (of_any r (p + 1) w1.heap.size 0 6 leafTexts (w1.alloc (.cells (leafTexts.map Value.string).toArray 9)) (h1.below ha) (by omega) (by omega) (by have := h1.lt; omega) (texts_new w1 9 leafTexts) (by decide) (by decide)).mono ?_
    rintro e w2 ⟨x, rfl, hx, h2, b2, z2⟩
    replace kr := (kr.below ha).butr b2 (by omega)
    have hB2 := (hB1.trans (But.of_below ha)).trans b2
    have hxs : x.size < 281474976710656 := by
      have : ∀ y ∈ leafTexts, y.size ≤ 12 := by decide
      have := this x hx
      omega
    have HF := hide (drawn_end (c := 2) (p := p) (bareT_key (w.heap.size + 1) (FreshQ w w2) w2 d 4 0 x ⟨by omega, by omega⟩ ⟨by omega, by omega⟩ hxs) (bareT_wt d 4 0 _) h2 (by omega) hB2 hr (by omega))
    obtain ⟨y0, y1, y2, y3, y4⟩ := kr.cell
    have yf := kr.frozen
    clear kr h2 hB2 b2 h1 ha hza hx hxs
    go_wp2_with fail
    exact bodyPost_ret (v := .agg #[.int .i64 4, .int .i64 0, .string x, .slice none 0 0, .slice none 0 0]) (by simp [results, Tryz.results114, go_sem, y0, y1, y2, y3, y4]) rfl (HF.out _ rfl)
  case inr.inr.inl =>
    go_wp2_with fail
    have ha := below_alloc1 w1 (.cells (leafTexts.map Value.string).toArray 9)
    have hza : (w1.alloc (.cells (leafTexts.map Value.string).toArray 9)).heap.size = w1.heap.size + 1 := by simp
    refine (of_any r (p + 1) w1.heap.size 0 6 leafTexts (w1.alloc (.cells (leafTexts.map Value.string).toArray 9)) (h1.below ha) (by omega) (by omega) (by have := h1.lt; omega) (texts_new w1 9 leafTexts) (by decide) (by decide)).mono ?_
    rintro e w2 ⟨x, rfl, hx, h2, b2, z2⟩
    replace kr := (kr.below ha).butr b2 (by omega)
    have hB2 := (hB1.trans (But.of_below ha)).trans b2
    have hxs : x.size < 281474976710656 := by
      have : ∀ y ∈ leafTexts, y.size ≤ 12 := by decide
      have := this x hx
      omega
    have HF := hide (drawn_end (c := 2) (p := p) (bareT_key (w.heap.size + 1) (FreshQ w w2) w2 d 4 0 x ⟨by omega, by omega⟩ ⟨by omega, by omega⟩ hxs) (bareT_wt d 4 0 _) h2 (by omega) hB2 hr (by omega))
    obtain ⟨y0, y1, y2, y3, y4⟩ := kr.cell
    have yf := kr.frozen
    clear kr h2 hB2 b2 h1 ha hza hx hxs
    go_wp2_with fail
    exact bodyPost_ret (v := .agg #[.int .i64 4, .int .i64 0, .string x, .slice none 0 0, .slice none 0 0]) (by simp [results, Tryz.results114, go_sem, y0, y1, y2, y3, y4]) rfl (HF.out _ rfl)
  case inr.inr.inr.inr.inl =>
    go_wp2_with fail
    have ha := below_alloc1 w1 (.cells (leafNums.map (Value.int .i64)).toArray 3)
    have hza : (w1.alloc (.cells (leafNums.map (Value.int .i64)).toArray 3)).heap.size = w1.heap.size + 1 := by simp
    refine (num_any r (p + 1) w1.heap.size 0 7 leafNums (w1.alloc (.cells (leafNums.map (Value.int .i64)).toArray 3)) (h1.below ha) (by omega) (by omega) (by have := h1.lt; omega) (ints_new w1 3 leafNums) (by decide) (by decide)).mono ?_
    rintro e w2 ⟨x, rfl, hx, h2, b2, z2⟩
    replace kr := (kr.below ha).butr b2 (by omega)
    have hB2 := (hB1.trans (But.of_below ha)).trans b2
    have hxs : I64 x := by
      have : ∀ y ∈ leafNums, -1 ≤ y ∧ y ≤ 1000000 := by decide
      have := this x hx
      exact ⟨by omega, by omega⟩
    have HF := hide (drawn_end (c := 2) (p := p) (bareT_key (w.heap.size + 1) (FreshQ w w2) w2 d 3 x ⟨#[]⟩ ⟨by omega, by omega⟩ hxs (by show (0 : Nat) < _; omega)) (bareT_wt d 3 x _) h2 (by omega) hB2 hr (by omega))
    obtain ⟨y0, y1, y2, y3, y4⟩ := kr.cell
    have yf := kr.frozen
    clear kr h2 hB2 b2 h1 ha hza hx hxs
    go_wp2_with fail
    exact bodyPost_ret (v := .agg #[.int .i64 3, .int .i64 x, .string { data := #[] }, .slice none 0 0, .slice none 0 0]) (by simp [results, Tryz.results114, go_sem, y0, y1, y2, y3, y4]) rfl (HF.out _ rfl)
  case inr.inr.inr.inr.inr.inl =>
    go_wp2_with fail
    have ha := below_alloc1 w1 (.cells (leafNums.map (Value.int .i64)).toArray 3)
    have hza : (w1.alloc (.cells (leafNums.map (Value.int .i64)).toArray 3)).heap.size = w1.heap.size + 1 := by simp
    refine (num_any r (p + 1) w1.heap.size 0 7 leafNums (w1.alloc (.cells (leafNums.map (Value.int .i64)).toArray 3)) (h1.below ha) (by omega) (by omega) (by have := h1.lt; omega) (ints_new w1 3 leafNums) (by decide) (by decide)).mono ?_
    rintro e w2 ⟨x, rfl, hx, h2, b2, z2⟩
    replace kr := (kr.below ha).butr b2 (by omega)
    have hB2 := (hB1.trans (But.of_below ha)).trans b2
    have hxs : I64 x := by
      have : ∀ y ∈ leafNums, -1 ≤ y ∧ y ≤ 1000000 := by decide
      have := this x hx
      exact ⟨by omega, by omega⟩
    have HF := hide (drawn_end (c := 2) (p := p) (bareT_key (w.heap.size + 1) (FreshQ w w2) w2 d 3 x ⟨#[]⟩ ⟨by omega, by omega⟩ hxs (by show (0 : Nat) < _; omega)) (bareT_wt d 3 x _) h2 (by omega) hB2 hr (by omega))
    obtain ⟨y0, y1, y2, y3, y4⟩ := kr.cell
    have yf := kr.frozen
    clear kr h2 hB2 b2 h1 ha hza hx hxs
    go_wp2_with fail
    exact bodyPost_ret (v := .agg #[.int .i64 3, .int .i64 x, .string { data := #[] }, .slice none 0 0, .slice none 0 0]) (by simp [results, Tryz.results114, go_sem, y0, y1, y2, y3, y4]) rfl (HF.out _ rfl)
  case inr.inr.inr.inr.inr.inr.inl =>
    go_wp2_with fail
    have ha := below_alloc1 w1 (.cells (leafNums.map (Value.int .i64)).toArray 3)
    have hza : (w1.alloc (.cells (leafNums.map (Value.int .i64)).toArray 3)).heap.size = w1.heap.size + 1 := by simp
    refine (num_any r (p + 1) w1.heap.size 0 7 leafNums (w1.alloc (.cells (leafNums.map (Value.int .i64)).toArray 3)) (h1.below ha) (by omega) (by omega) (by have := h1.lt; omega) (ints_new w1 3 leafNums) (by decide) (by decide)).mono ?_
    rintro e w2 ⟨x, rfl, hx, h2, b2, z2⟩
    replace kr := (kr.below ha).butr b2 (by omega)
    have hB2 := (hB1.trans (But.of_below ha)).trans b2
    have hxs : I64 x := by
      have : ∀ y ∈ leafNums, -1 ≤ y ∧ y ≤ 1000000 := by decide
      have := this x hx
      exact ⟨by omega, by omega⟩
    have HF := hide (drawn_end (c := 2) (p := p) (bareT_key (w.heap.size + 1) (FreshQ w w2) w2 d 3 x ⟨#[]⟩ ⟨by omega, by omega⟩ hxs (by show (0 : Nat) < _; omega)) (bareT_wt d 3 x _) h2 (by omega) hB2 hr (by omega))
    obtain ⟨y0, y1, y2, y3, y4⟩ := kr.cell
    have yf := kr.frozen
    clear kr h2 hB2 b2 h1 ha hza hx hxs
    go_wp2_with fail
    exact bodyPost_ret (v := .agg #[.int .i64 3, .int .i64 x, .string { data := #[] }, .slice none 0 0, .slice none 0 0]) (by simp [results, Tryz.results114, go_sem, y0, y1, y2, y3, y4]) rfl (HF.out _ rfl)
  case inr.inr.inr.inr.inr.inr.inr =>
    go_wp2_with fail
    have ha := below_alloc1 w1 (.cells (leafNums.map (Value.int .i64)).toArray 3)
    have hza : (w1.alloc (.cells (leafNums.map (Value.int .i64)).toArray 3)).heap.size = w1.heap.size + 1 := by simp
    refine (num_any r (p + 1) w1.heap.size 0 7 leafNums (w1.alloc (.cells (leafNums.map (Value.int .i64)).toArray 3)) (h1.below ha) (by omega) (by omega) (by have := h1.lt; omega) (ints_new w1 3 leafNums) (by decide) (by decide)).mono ?_
    rintro e w2 ⟨x, rfl, hx, h2, b2, z2⟩
    replace kr := (kr.below ha).butr b2 (by omega)
    have hB2 := (hB1.trans (But.of_below ha)).trans b2
    have hxs : I64 x := by
      have : ∀ y ∈ leafNums, -1 ≤ y ∧ y ≤ 1000000 := by decide
      have := this x hx
      exact ⟨by omega, by omega⟩
    have HF := hide (drawn_end (c := 2) (p := p) (bareT_key (w.heap.size + 1) (FreshQ w w2) w2 d 3 x ⟨#[]⟩ ⟨by omega, by omega⟩ hxs (by show (0 : Nat) < _; omega)) (bareT_wt d 3 x _) h2 (by omega) hB2 hr (by omega))
    obtain ⟨y0, y1, y2, y3, y4⟩ := kr.cell
    have yf := kr.frozen
    clear kr h2 hB2 b2 h1 ha hza hx hxs
    go_wp2_with fail
    exact bodyPost_ret (v := .agg #[.int .i64 3, .int .i64 x, .string { data := #[] }, .slice none 0 0, .slice none 0 0]) (by simp [results, Tryz.results114, go_sem, y0, y1, y2, y3, y4]) rfl (HF.out _ rfl)
end Go.Proofs.YtmibjmipndffmaaGreatDoor
