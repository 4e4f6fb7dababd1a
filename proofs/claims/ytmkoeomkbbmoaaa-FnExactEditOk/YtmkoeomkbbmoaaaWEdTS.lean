/- toEditS. -/
import Derived.Test.YtmkoeomkbbmoaaaWEdTo
namespace Go.Proofs.Ytmkoeomkbbmoaaa
open Go.RowKit Go.Deep

def zeroEd : Value := .agg #[.slice none 0 0, .int .i64 0, .int .i64 0, .string { data := #[] }, .slice none 0 0, .slice none 0 0, .bool false, .int .i64 0, .int .i64 0, .string { data := #[] }, .slice none 0 0, .slice none 0 0, .bool false]
def zero13 : Array Value := #[.slice none 0 0, .int .i64 0, .int .i64 0, .string { data := #[] }, .slice none 0 0, .slice none 0 0, .bool false, .int .i64 0, .int .i64 0, .string { data := #[] }, .slice none 0 0, .slice none 0 0, .bool false]
theorem Try.infoEd : (Try.prog.info? 43).map (fun i => (i.zero, i.size, i.bytes)) = some (some zeroEd, 13, 200) := by kernel_rfl
theorem run_make13 (n : Nat) (hn : n < 1407374883554) (w : World) :
    (Instr.makeSlice 25 (.int .i64 (n : Int)) (.int .i64 (n : Int))).run Try.prog w =
      .ok (.slice (some ⟨w.heap.size, 0, none⟩) n n) (w.alloc (.cells (madeCells zero13 (n * 13)) 43)) := by
  obtain ⟨i, hi, hzz⟩ := Option.map_eq_some_iff.1 Try.infoEd
  simp only [Prod.mk.injEq] at hzz
  obtain ⟨hz, hs, hb⟩ := hzz
  have hr := run_make (P := Try.prog) w 25 43 i zeroEd Try.underlying25 hi hz .i64 .i64 n n (by omega) (Int.le_refl _) (by rw [hb]; omega) (by omega)
  rw [show zeroEd.cells = zero13 from rfl] at hr
  simpa [hs] using hr

/-- Cells of a row written, one behind the other. -/
def putR (f : Nat → Value) (i : Nat) (us : List Value) (j : Nat) : Value := if i ≤ j then (us[j - i]?).getD (f j) else f j
theorem putR_nil (f : Nat → Value) (i : Nat) : putR f i [] = f := by funext j; simp [putR]
theorem putR_cons (f : Nat → Value) (i : Nat) (u : Value) (us : List Value) (j : Nat) : putR (fun j => if j = i then u else f j) (i + 1) us j = putR f i (u :: us) j := by
  unfold putR
  by_cases h : i ≤ j
  · by_cases e : j = i
    · subst e
      rw [if_neg (by omega), if_pos (Nat.le_refl _), Nat.sub_self]
      simp
    · obtain ⟨k, rfl⟩ : ∃ k, j = i + 1 + k := ⟨j - (i + 1), by omega⟩
      rw [if_pos (by omega), if_pos h, show i + 1 + k - (i + 1) = k by omega, show i + 1 + k - i = k + 1 by omega, List.getElem?_cons_succ]
      congr 1
      exact if_neg e
  · rw [if_neg (by omega), if_neg h]
    exact if_neg (by omega)
theorem rowIs_setL {b : Nat} {t : TypeId} {n : Nat} : ∀ (us : List Value) {w : World} {f : Nat → Value} (_ : w.rowIs b t n f) (i : Nat), (setL w b i us).rowIs b t n (putR f i us)
  | [], _, f, h, i => by rw [putR_nil]; exact h
  | u :: r, w, f, h, i => (rowIs_setL r (h.set i u) (i + 1)).congr (fun j _ => by rw [← putR_cons])
theorem putR_at {f : Nat → Value} {i : Nat} {us : List Value} (j : Nat) {u : Value} (h : us[j]? = some u) : putR f i us (i + j) = u := by
  unfold putR
  rw [if_pos (by omega), show i + j - i = j by omega, h]
  rfl
theorem putR_off {f : Nat → Value} {i : Nat} {us : List Value} (j : Nat) (h : j < i ∨ i + us.length ≤ j) : putR f i us j = f j := by
  unfold putR
  split
  · rw [List.getElem?_eq_none (by omega)]
    rfl
  · rfl

/-- The edit at a place of a row that is being filled. -/
def EdF {d : Nat} (S : Nat → Prop) (w : World) (f : Nat → Value) (i : Nat) (e : Ed d) : Prop := ∃ a0 a1 p0 p1 p2 p3 p4 p5 p6 p7 p8 q0 q1 q2 q3 q4 q5 q6 q7 q8,
  f (i + 0) = .slice a0 e.path.length a1 ∧ f (i + 1) = .int .i64 p0 ∧ f (i + 2) = .int .i64 p1 ∧ f (i + 3) = .string p2 ∧ f (i + 4) = .slice p3 p4 p5 ∧ f (i + 5) = .slice p6 p7 p8 ∧ f (i + 6) = .bool e.had ∧ f (i + 7) = .int .i64 q0 ∧ f (i + 8) = .int .i64 q1 ∧ f (i + 9) = .string q2 ∧ f (i + 10) = .slice q3 q4 q5 ∧ f (i + 11) = .slice q6 q7 q8 ∧ f (i + 12) = .bool e.has ∧ EdParts S w e (.slice a0 e.path.length a1) (.agg #[.int .i64 p0, .int .i64 p1, .string p2, .slice p3 p4 p5, .slice p6 p7 p8]) (.agg #[.int .i64 q0, .int .i64 q1, .string q2, .slice q3 q4 q5, .slice q6 q7 q8])
theorem EdF.moved {d : Nat} {S S' : Nat → Prop} {w w' : World} {f f' : Nat → Value} {i : Nat} {e : Ed d} (h : EdF S w f i e) (hf : ∀ j, j < 13 → f' (i + j) = f (i + j)) (hs : Same S w w') (hS : ∀ b, S b → S' b) : EdF S' w' f' i e := by
  obtain ⟨a0, a1, p0, p1, p2, p3, p4, p5, p6, p7, p8, q0, q1, q2, q3, q4, q5, q6, q7, q8, h0, h1, h2, h3, h4, h5, h6, h7, h8, h9, h10, h11, h12, hp⟩ := h
  exact ⟨a0, a1, p0, p1, p2, p3, p4, p5, p6, p7, p8, q0, q1, q2, q3, q4, q5, q6, q7, q8, (hf 0 (by omega)).trans h0, (hf 1 (by omega)).trans h1, (hf 2 (by omega)).trans h2, (hf 3 (by omega)).trans h3, (hf 4 (by omega)).trans h4, (hf 5 (by omega)).trans h5, (hf 6 (by omega)).trans h6, (hf 7 (by omega)).trans h7, (hf 8 (by omega)).trans h8, (hf 9 (by omega)).trans h9, (hf 10 (by omega)).trans h10, (hf 11 (by omega)).trans h11, (hf 12 (by omega)).trans h12, hp.moved hs hS⟩
/-- The first k edits of a row that is being filled. -/
def FilledE {d : Nat} (N n : Nat) (es : List (Ed d)) (w : World) (k : Nat) (f : Nat → Value) : Prop :=
  w.rowIs N 43 n f ∧ ∀ j e, j < k → es[j]? = some e → EdF (After N w) w f (j * 13) e
theorem FilledE.step {d N n : Nat} {es : List (Ed d)} {wr w1 : World} {k : Nat} {f : Nat → Value} {e : Ed d} {a0 : Option Addr} {a1 : Nat} {p0 p1 p2 p3 p4 p5 p6 p7 p8 q0 q1 q2 q3 q4 q5 q6 q7 q8} (h : FilledE N n es wr k f) (hb : Below wr.heap.size wr w1)
    (hx : es[k]? = some e) (hu : EdParts (Fresh wr w1) w1 e (.slice a0 e.path.length a1) (.agg #[.int .i64 p0, .int .i64 p1, .string p2, .slice p3 p4 p5, .slice p6 p7 p8]) (.agg #[.int .i64 q0, .int .i64 q1, .string q2, .slice q3 q4 q5, .slice q6 q7 q8])) :
    FilledE N n es (setL w1 N (k * 13) [.slice a0 e.path.length a1, .int .i64 p0, .int .i64 p1, .string p2, .slice p3 p4 p5, .slice p6 p7 p8, .bool e.had, .int .i64 q0, .int .i64 q1, .string q2, .slice q3 q4 q5, .slice q6 q7 q8, .bool e.has]) (k + 1) (putR f (k * 13) [.slice a0 e.path.length a1, .int .i64 p0, .int .i64 p1, .string p2, .slice p3 p4 p5, .slice p6 p7 p8, .bool e.had, .int .i64 q0, .int .i64 q1, .string q2, .slice q3 q4 q5, .slice q6 q7 q8, .bool e.has]) := by
  obtain ⟨hrow, hv⟩ := h
  have hN := hrow.lt
  have hs2 : Same (After N w1) w1 (setL w1 N (k * 13) [.slice a0 e.path.length a1, .int .i64 p0, .int .i64 p1, .string p2, .slice p3 p4 p5, .slice p6 p7 p8, .bool e.had, .int .i64 q0, .int .i64 q1, .string q2, .slice q3 q4 q5, .slice q6 q7 q8, .bool e.has]) := fun b hb => setL_block _ _ (by have := hb.1; omega) _ _ _
  have hA : ∀ b, After N w1 b → After N (setL w1 N (k * 13) [.slice a0 e.path.length a1, .int .i64 p0, .int .i64 p1, .string p2, .slice p3 p4 p5, .slice p6 p7 p8, .bool e.had, .int .i64 q0, .int .i64 q1, .string q2, .slice q3 q4 q5, .slice q6 q7 q8, .bool e.has]) b := fun b hb => ⟨hb.1, by rw [setL_size]; exact hb.2⟩
  refine ⟨rowIs_setL _ (hrow.of_block (hb.block N hN)) _, fun j y hj hy => ?_⟩
  by_cases c : j = k
  · subst c
    rw [hx] at hy
    cases hy
    exact ⟨a0, a1, p0, p1, p2, p3, p4, p5, p6, p7, p8, q0, q1, q2, q3, q4, q5, q6, q7, q8, putR_at 0 rfl, putR_at 1 rfl, putR_at 2 rfl, putR_at 3 rfl, putR_at 4 rfl, putR_at 5 rfl, putR_at 6 rfl, putR_at 7 rfl, putR_at 8 rfl, putR_at 9 rfl, putR_at 10 rfl, putR_at 11 rfl, putR_at 12 rfl, (hu.mono (fun b hb => ⟨by have := hb.1; omega, hb.2⟩)).moved hs2 hA⟩
  · have h1 := hv j y (by omega) hy
    refine h1.moved (fun m hm => putR_off _ (by simp; omega)) (fun b hb' => (hs2 b ⟨hb'.1, Nat.lt_of_lt_of_le hb'.2 hb.size⟩).trans (hb.block b hb'.2)) (fun b hb' => hA b ⟨hb'.1, Nat.lt_of_lt_of_le hb'.2 hb.size⟩)

set_option maxRecDepth 100000 in
set_option maxHeartbeats 4000000 in
theorem toEditS_any {d : Nat} (S : Nat → Prop) (es : List (Ed d)) (v : Value) (w : World) (hv : EdsAt S w v es) (hS : Within S w) :
    Calls Try.prog 6 #[v] w fun e w' => ∃ u, e = .returned u ∧ EdsAt (Fresh w w') w' u es ∧ Below w.heap.size w w' := by
  obtain ⟨a, cap, rfl, hlen⟩ := hv.open'
  have hmk := run_make13 es.length hlen
  have hb0 : Below w.heap.size w (w.alloc (.cells (madeCells zero13 (es.length * 13)) 43)) := below_alloc1 _ _
  have hr0 : FilledE (d := d) w.heap.size (es.length * 13) es (w.alloc (.cells (madeCells zero13 (es.length * 13)) 43)) 0 (fun j => (madeCells zero13 (es.length * 13)).getD j undef) := by
    refine ⟨?_, fun j x hj => by omega⟩
    have := World.rowIs_alloc w (madeCells zero13 (es.length * 13)) 43 (fun j => (madeCells zero13 (es.length * 13)).getD j undef) (fun i hi => by simp [hi])
    rwa [size_madeCells] at this
  have HB : Hid _ := And.intro hb0 hr0
  clear hb0 hr0
  go_enter Try.func6, Try.ntmps6
  go_wp2_with fail
  go_loopw [4] (fun i wr => ∃ (k : Nat) (f : Nat → Value), k ≤ es.length ∧ i = .int .i64 k ∧ FilledE w.heap.size (es.length * 13) es wr k f ∧ Below w.heap.size w wr) (fun i _ => es.length - (intOf i).toNat)
  case atStart => exact ⟨0, _, Nat.zero_le _, rfl, HB.out.2, HB.out.1⟩
  case round =>
    clear HB hmk
    obtain ⟨k, f, hk, rfl, hrow, hbel⟩ := hrel
    by_cases hkl : k < es.length
    · obtain ⟨b, o, e, rfl, hb, hx, a0, a1, p0, p1, p2, p3, p4, p5, p6, p7, p8, q0, q1, q2, q3, q4, q5, q6, q7, q8, e0, e1, e2, e3, e4, e5, e6, e7, e8, e9, e10, e11, e12, hp⟩ := (hv.same (hS.same hbel)).cell hkl
      go_wp2_with fail
      refine (toEdit_any S e a0 a1 p0 p1 p2 p3 p4 p5 p6 p7 p8 q0 q1 q2 q3 q4 q5 q6 q7 q8 wr hp (hS.later hbel.size)).mono ?_
      rintro en w1 ⟨b0, b1, r0, r1, r2, r3, r4, r5, r6, r7, r8, s0, s1, s2, s3, s4, s5, s6, s7, s8, rfl, hu, hb1⟩
      have hrow' := hrow.step hb1 hx hu
      have hbel' := below_setL (b := w.heap.size) (Nat.le_refl w.heap.size) [.slice b0 e.path.length b1, .int .i64 r0, .int .i64 r1, .string r2, .slice r3 r4 r5, .slice r6 r7 r8, .bool e.had, .int .i64 s0, .int .i64 s1, .string s2, .slice s3 s4 s5, .slice s6 s7 s8, .bool e.has] (hbel.trans (hb1.mono hbel.size)) (k * 13)
      have HR : Hid _ := And.intro hrow' hbel'
      have hr1 := hrow.1.of_block (hb1.block w.heap.size hrow.1.lt)
      have g0 := hr1.cell (i := k * 13) (by omega)
      have g1 := hr1.cell (i := k * 13 + 1) (by omega)
      have g2 := hr1.cell (i := k * 13 + 2) (by omega)
      have g3 := hr1.cell (i := k * 13 + 3) (by omega)
      have g4 := hr1.cell (i := k * 13 + 4) (by omega)
      have g5 := hr1.cell (i := k * 13 + 5) (by omega)
      have g6 := hr1.cell (i := k * 13 + 6) (by omega)
      have g7 := hr1.cell (i := k * 13 + 7) (by omega)
      have g8 := hr1.cell (i := k * 13 + 8) (by omega)
      have g9 := hr1.cell (i := k * 13 + 9) (by omega)
      have g10 := hr1.cell (i := k * 13 + 10) (by omega)
      have g11 := hr1.cell (i := k * 13 + 11) (by omega)
      have g12 := hr1.cell (i := k * 13 + 12) (by omega)
      have z0 := hr1.frozen (k * 13)
      have z1 := hr1.frozen (k * 13 + 1)
      have z2 := hr1.frozen (k * 13 + 2)
      have z3 := hr1.frozen (k * 13 + 3)
      have z4 := hr1.frozen (k * 13 + 4)
      have z5 := hr1.frozen (k * 13 + 5)
      have z6 := hr1.frozen (k * 13 + 6)
      have z7 := hr1.frozen (k * 13 + 7)
      have z8 := hr1.frozen (k * 13 + 8)
      have z9 := hr1.frozen (k * 13 + 9)
      have z10 := hr1.frozen (k * 13 + 10)
      have z11 := hr1.frozen (k * 13 + 11)
      have z12 := hr1.frozen (k * 13 + 12)
      clear hrow' hbel' hr1 hrow hbel hb1 hu hp e0 e1 e2 e3 e4 e5 e6 e7 e8 e9 e10 e11 e12 hv hx
      go_wp2_with fail
      go_roundw
      case rel => exact ⟨k + 1, _, by omega, by go_num, HR.out.1, HR.out.2⟩
      case measure => simp [intOf]; omega
    · go_wp2_with fail
      go_ret
      obtain rfl : k = es.length := by omega
      refine ⟨_, rfl, ⟨hlen, _, _, rfl, ?_⟩, hbel⟩
      refine Or.inr ⟨w.heap.size, 0, ⟨Nat.le_refl _, hrow.1.lt⟩, rfl, fun i e hi => ?_⟩
      obtain ⟨hi', _⟩ := List.getElem?_eq_some_iff.1 hi
      obtain ⟨a0, a1, p0, p1, p2, p3, p4, p5, p6, p7, p8, q0, q1, q2, q3, q4, q5, q6, q7, q8, h0, h1, h2, h3, h4, h5, h6, h7, h8, h9, h10, h11, h12, hp⟩ := hrow.2 i e hi' hi
      rw [Nat.zero_add]
      have hc : ∀ j c, j < 13 → f (i * 13 + j) = c → wr.cell? ⟨w.heap.size, i * 13 + j, none⟩ = some c := fun j c hj hc => by rw [hrow.1.cell (by omega), hc]
      exact ⟨a0, a1, p0, p1, p2, p3, p4, p5, p6, p7, p8, q0, q1, q2, q3, q4, q5, q6, q7, q8, hc 0 _ (by omega) h0, hc 1 _ (by omega) h1, hc 2 _ (by omega) h2, hc 3 _ (by omega) h3, hc 4 _ (by omega) h4, hc 5 _ (by omega) h5, hc 6 _ (by omega) h6, hc 7 _ (by omega) h7, hc 8 _ (by omega) h8, hc 9 _ (by omega) h9, hc 10 _ (by omega) h10, hc 11 _ (by omega) h11, hc 12 _ (by omega) h12, hp.mono (fun b hb => ⟨Nat.le_of_lt hb.1, hb.2⟩)⟩
end Go.Proofs.Ytmkoeomkbbmoaaa
