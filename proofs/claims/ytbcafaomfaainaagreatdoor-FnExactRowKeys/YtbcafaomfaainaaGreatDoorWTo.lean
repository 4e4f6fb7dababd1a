/- toStringS, toVal, toValS: a copy of a tree, in new memory. -/
import Derived.Test.YtbcafaomfaainaaGreatDoorWSz
namespace Go.Proofs.YtbcafaomfaainaaGreatDoor
open Go.RowKit Go.Deep

theorem Tryz.infoStr : (Tryz.prog.info? 9).map (fun i => (i.zero, i.size, i.bytes)) = some (some (.string ByteArray.empty), 1, 16) := by kernel_rfl

/-- The text at a place, or none. -/
def strTo (ss : List ByteArray) (k j : Nat) : Value := if j < k then .string (ss.getD j ByteArray.empty) else .string ByteArray.empty

theorem strTo_set (ss : List ByteArray) (k : Nat) {s : ByteArray} (hs : ss[k]? = some s) (j : Nat) : (if j = k then Value.string s else strTo ss k j) = strTo ss (k + 1) j := by
  unfold strTo
  by_cases e : j = k
  · subst e
    simp [hs]
  · by_cases h : j < k
    · simp [e, h, Nat.lt_succ_of_lt h]
    · simp [e, h, show ¬ j < k + 1 by omega]

set_option maxHeartbeats 400000 in
theorem toStringS_any (S : Nat → Prop) (ss : List ByteArray) (v : Value) (w : World) (hv : StrsAt S w v ss) (hS : Within S w) :
    Calls Tryz.prog 16 #[v] w fun e w' => ∃ u, e = .returned u ∧ StrsAt (Fresh w w') w' u ss ∧ Below w.heap.size w w' := by
  obtain ⟨a, cap, rfl, hlen⟩ := hv.open'
  have hmk := run_make_row' (P := Tryz.prog) 22 9 (.string ByteArray.empty) 16 Tryz.underlying22 Tryz.infoStr rfl .i64 .i64 ss.length (by omega) (by omega)
  have hb0 : Below w.heap.size w (w.alloc (.cells (madeCells #[.string ByteArray.empty] ss.length) 9)) := below_alloc1 _ _
  have hr0 := World.rowIs_made w (.string ByteArray.empty) ss.length 9
  go_enter Tryz.func16, Tryz.ntmps16
  go_wp2_with fail
  go_loopw [4] (fun i wr => ∃ (k : Nat), k ≤ ss.length ∧ i = .int .i64 k ∧ wr.rowIs w.heap.size 9 ss.length (strTo ss k) ∧ Below w.heap.size w wr) (fun i _ => ss.length - (intOf i).toNat)
  case atStart => exact ⟨0, Nat.zero_le _, rfl, hr0.congr (fun i _ => rfl), hb0⟩
  case round =>
    clear hb0 hr0 hmk
    obtain ⟨k, hk, rfl, hrow, hbel⟩ := hrel
    by_cases hkl : k < ss.length
    · obtain ⟨b, o, s, rfl, hb, hs, hsb, hck⟩ := (hv.same (hS.same hbel)).cell hkl
      have hc1 := hrow.cell hkl
      have hf1 := hrow.frozen k
      have hrow' := (hrow.set k (.string s)).congr (fun j _ => strTo_set ss k hs j)
      have hbel' := hbel.setCell (p := ⟨w.heap.size, k, none⟩) (Nat.le_refl _) (.string s)
      have HR := And.intro hrow' hbel'
      have HR' : Hid _ := HR
      clear hrow' hbel' HR hv hs hrow hbel
      go_wp2_with fail
      go_roundw
      case rel => exact ⟨k + 1, by omega, by go_num, HR'.out.1, HR'.out.2⟩
      case measure => simp [intOf]; omega
    · go_wp2_with fail
      go_ret
      refine ⟨_, rfl, ⟨hlen, ?_, _, _, rfl, ?_⟩, hbel⟩
      · obtain ⟨_, h2, _⟩ := hv
        exact h2
      · refine Or.inr ⟨w.heap.size, 0, ⟨Nat.le_refl _, hrow.lt⟩, rfl, fun i s hi => ?_⟩
        obtain ⟨hi', e⟩ := List.getElem?_eq_some_iff.1 hi
        have := hrow.cell hi'
        rw [Nat.zero_add, this, strTo, if_pos (by omega)]
        simp [hi]

/-- Five cells in a row written. -/
def put5 (f : Nat → Value) (i : Nat) (v0 v1 v2 v3 v4 : Value) (j : Nat) : Value :=
  if j = i then v0 else if j = i + 1 then v1 else if j = i + 2 then v2 else if j = i + 3 then v3 else if j = i + 4 then v4 else f j
def set5 (w : World) (b i : Nat) (v0 v1 v2 v3 v4 : Value) : World :=
  ((((w.setCell ⟨b, i, none⟩ v0).setCell ⟨b, i + 1, none⟩ v1).setCell ⟨b, i + 2, none⟩ v2).setCell ⟨b, i + 3, none⟩ v3).setCell ⟨b, i + 4, none⟩ v4
theorem rowIs_set5 {w : World} {b : Nat} {t : TypeId} {n : Nat} {f : Nat → Value} (h : w.rowIs b t n f) (i : Nat) (v0 v1 v2 v3 v4 : Value) :
    (set5 w b i v0 v1 v2 v3 v4).rowIs b t n (put5 f i v0 v1 v2 v3 v4) := by
  refine (((((h.set i v0).set (i + 1) v1).set (i + 2) v2).set (i + 3) v3).set (i + 4) v4).congr (fun j _ => ?_)
  unfold put5
  by_cases e0 : j = i
  · simp [e0]
  by_cases e1 : j = i + 1
  · simp [e1]
  by_cases e2 : j = i + 2
  · simp [e2]
  by_cases e3 : j = i + 3
  · simp [e3]
  simp [e0, e1, e2, e3]
theorem set5_block (w : World) (b i : Nat) (v0 v1 v2 v3 v4 : Value) (k : Nat) (h : k ≠ b) : (set5 w b i v0 v1 v2 v3 v4).heap[k]? = w.heap[k]? := by
  unfold set5
  rw [Below.heap_setCell _ _ _ _ h, Below.heap_setCell _ _ _ _ h, Below.heap_setCell _ _ _ _ h, Below.heap_setCell _ _ _ _ h, Below.heap_setCell _ _ _ _ h]
theorem set5_size (w : World) (b i : Nat) (v0 v1 v2 v3 v4 : Value) : (set5 w b i v0 v1 v2 v3 v4).heap.size = w.heap.size := by
  simp [set5, World.setCell]
theorem below_set5 {B : Nat} {a w : World} (h : Below B a w) {b : Nat} (hb : B ≤ b) (i : Nat) (v0 v1 v2 v3 v4 : Value) : Below B a (set5 w b i v0 v1 v2 v3 v4) :=
  ((((h.setCell (p := ⟨b, i, none⟩) hb v0).setCell (p := ⟨b, i + 1, none⟩) hb v1).setCell (p := ⟨b, i + 2, none⟩) hb v2).setCell (p := ⟨b, i + 3, none⟩) hb v3).setCell (p := ⟨b, i + 4, none⟩) hb v4
theorem put5_at (f : Nat → Value) (i : Nat) (v0 v1 v2 v3 v4 : Value) :
    put5 f i v0 v1 v2 v3 v4 i = v0 ∧ put5 f i v0 v1 v2 v3 v4 (i + 1) = v1 ∧ put5 f i v0 v1 v2 v3 v4 (i + 2) = v2 ∧ put5 f i v0 v1 v2 v3 v4 (i + 3) = v3 ∧ put5 f i v0 v1 v2 v3 v4 (i + 4) = v4 := by
  simp [put5]
theorem put5_off (f : Nat → Value) (i : Nat) (v0 v1 v2 v3 v4 : Value) (j : Nat) (h : j < i ∨ i + 4 < j) : put5 f i v0 v1 v2 v3 v4 j = f j := by
  unfold put5
  rw [if_neg (by omega), if_neg (by omega), if_neg (by omega), if_neg (by omega), if_neg (by omega)]

/-- The blocks behind block N that are in w. -/
def After (N : Nat) (w : World) (b : Nat) : Prop := N < b ∧ b < w.heap.size

/-- The first k things of a row that is being filled. -/
def Filled {d : Nat} (N T n : Nat) (xs : List (Tr d)) (w : World) (k : Nat) (f : Nat → Value) : Prop :=
  w.rowIs N T n f ∧ ∀ j x, j < k → xs[j]? = some x → ValAt (After N w) w d x (.agg #[f (j * 5), f (j * 5 + 1), f (j * 5 + 2), f (j * 5 + 3), f (j * 5 + 4)])

theorem Filled.step {d N T n : Nat} {xs : List (Tr d)} {wr w1 : World} {k : Nat} {f : Nat → Value} {x : Tr d} {v0 v1 v2 v3 v4 : Value} (h : Filled N T n xs wr k f) (hb : Below wr.heap.size wr w1)
    (hx : xs[k]? = some x) (hu : ValAt (Fresh wr w1) w1 d x (.agg #[v0, v1, v2, v3, v4])) :
    Filled N T n xs (set5 w1 N (k * 5) v0 v1 v2 v3 v4) (k + 1) (put5 f (k * 5) v0 v1 v2 v3 v4) := by
  obtain ⟨hrow, hv⟩ := h
  have hN := hrow.lt
  have hs2 : Same (After N w1) w1 (set5 w1 N (k * 5) v0 v1 v2 v3 v4) := fun b hb => set5_block _ _ _ _ _ _ _ _ _ (by have := hb.1; omega)
  have hA : ∀ b, After N w1 b → After N (set5 w1 N (k * 5) v0 v1 v2 v3 v4) b := fun b hb => ⟨hb.1, by rw [set5_size]; exact hb.2⟩
  refine ⟨rowIs_set5 (hrow.of_block (hb.block N hN)) _ _ _ _ _ _, fun j y hj hy => ?_⟩
  by_cases e : j = k
  · subst e
    rw [hx] at hy
    cases hy
    obtain ⟨p0, p1, p2, p3, p4⟩ := put5_at f (j * 5) v0 v1 v2 v3 v4
    rw [p0, p1, p2, p3, p4]
    refine ValAt.moved hs2 hA d x _ (hu.mono (fun b hb => ⟨?_, hb.2⟩))
    have := hb.1
    omega
  · rw [put5_off _ _ _ _ _ _ _ _ (by omega), put5_off _ _ _ _ _ _ _ _ (by omega), put5_off _ _ _ _ _ _ _ _ (by omega), put5_off _ _ _ _ _ _ _ _ (by omega), put5_off _ _ _ _ _ _ _ _ (by omega)]
    have h1 := hv j y (by omega) hy
    have h2 : ValAt (After N w1) w1 d y (.agg #[f (j * 5), f (j * 5 + 1), f (j * 5 + 2), f (j * 5 + 3), f (j * 5 + 4)]) :=
      ValAt.moved (fun b hS => hb.block b hS.2) (fun b hS => ⟨hS.1, Nat.lt_of_lt_of_le hS.2 hb.size⟩) d y _ h1
    exact ValAt.moved hs2 hA d y _ h2

/-- A tree's five cells. -/
theorem ValAt.shape {S : Nat → Prop} {w : World} {d : Nat} {t : Tr d} {u : Value} (h : ValAt S w d t u) :
    ∃ k n s ak lk ck al ll cl, u = .agg #[.int .i64 k, .int .i64 n, .string s, .slice ak lk ck, .slice al ll cl] := by
  cases d with
  | zero => exact h.elim
  | succ d =>
    obtain ⟨vk, vl, hv, i1, i2, i3, hk, hl⟩ := h
    obtain ⟨ak, ck, rfl, _⟩ := hk.open'
    obtain ⟨al, cl, rfl, _⟩ := hl.open'
    exact ⟨_, _, _, _, _, _, _, _, _, hv⟩

/-- What toVal does with trees of this depth. -/
def ToVal (d : Nat) : Prop := ∀ (S : Nat → Prop) (t : Tr d) (v : Value) (w : World), ValAt S w d t v → Within S w →
    Calls Tryz.prog 6 #[v] w fun e w' => ∃ u, e = .returned u ∧ ValAt (Fresh w w') w' d t u ∧ Below w.heap.size w w'

def zeroVal : Value := .agg #[.int .i64 0, .int .i64 0, .string ByteArray.empty, .slice none 0 0, .slice none 0 0]
def zero5 : Array Value := #[.int .i64 0, .int .i64 0, .string ByteArray.empty, .slice none 0 0, .slice none 0 0]
theorem Tryz.infoVal : (Tryz.prog.info? 29).map (fun i => (i.zero, i.size, i.bytes)) = some (some zeroVal, 5, 80) := by kernel_rfl

theorem run_make5 (n : Nat) (hn : n < 3518437208883) (w : World) :
    (Instr.makeSlice 27 (.int .i64 (n : Int)) (.int .i64 (n : Int))).run Tryz.prog w =
      .ok (.slice (some ⟨w.heap.size, 0, none⟩) n n) (w.alloc (.cells (madeCells zero5 (n * 5)) 29)) := by
  obtain ⟨i, hi, hzz⟩ := Option.map_eq_some_iff.1 Tryz.infoVal
  simp only [Prod.mk.injEq] at hzz
  obtain ⟨hz, hs, hb⟩ := hzz
  have hr := run_make (P := Tryz.prog) w 27 29 i zeroVal Tryz.underlying27 hi hz .i64 .i64 n n (by omega) (Int.le_refl _) (by rw [hb]; omega) (by omega)
  rw [show zeroVal.cells = zero5 from rfl] at hr
  simpa [hs] using hr

set_option maxHeartbeats 1000000 in
theorem toValS_any (d : Nat) (H : ToVal d) (S : Nat → Prop) (xs : List (Tr d)) (v : Value) (w : World) (hv : RowAt S w (ValAt S w d) v xs) (hS : Within S w) :
    Calls Tryz.prog 17 #[v] w fun e w' => ∃ u, e = .returned u ∧ RowAt (Fresh w w') w' (ValAt (Fresh w w') w' d) u xs ∧ Below w.heap.size w w' := by
  obtain ⟨a, cap, rfl, hlen⟩ := hv.open'
  have hmk := run_make5 xs.length hlen
  have hb0 : Below w.heap.size w (w.alloc (.cells (madeCells zero5 (xs.length * 5)) 29)) := below_alloc1 _ _
  have hr0 : Filled (d := d) w.heap.size 29 (xs.length * 5) xs (w.alloc (.cells (madeCells zero5 (xs.length * 5)) 29)) 0 (fun j => (madeCells zero5 (xs.length * 5)).getD j undef) := by
    refine ⟨?_, fun j x hj => by omega⟩
    have := World.rowIs_alloc w (madeCells zero5 (xs.length * 5)) 29 (fun j => (madeCells zero5 (xs.length * 5)).getD j undef) (fun i hi => by simp [hi])
    rwa [size_madeCells] at this
  have HB : Hid _ := And.intro hb0 hr0
  clear hb0 hr0
  go_enter Tryz.func17, Tryz.ntmps17
  go_wp2_with fail
  go_loopw [4] (fun i wr => ∃ (k : Nat) (f : Nat → Value), k ≤ xs.length ∧ i = .int .i64 k ∧ Filled w.heap.size 29 (xs.length * 5) xs wr k f ∧ Below w.heap.size w wr) (fun i _ => xs.length - (intOf i).toNat)
  case atStart => exact ⟨0, _, Nat.zero_le _, rfl, HB.out.2, HB.out.1⟩
  case round =>
    clear HB hmk
    obtain ⟨k, f, hk, rfl, hrow, hbel⟩ := hrel
    by_cases hkl : k < xs.length
    · obtain ⟨b, o, x, c0, c1, c2, c3, c4, rfl, hb, hx, e0, e1, e2, e3, e4, hval⟩ := (hv.same (hS.same hbel)).cell hkl
      go_wp2_with fail
      refine (H S x _ wr hval (hS.later hbel.size)).mono ?_
      rintro e w1 ⟨u, rfl, hu, hb1⟩
      obtain ⟨v0, v1, v2, v3, v4, v5, v6, v7, v8, rfl⟩ := hu.shape
      have hrow' := hrow.step hb1 hx hu
      have hbel' := below_set5 (hbel.trans (hb1.mono hbel.size)) (Nat.le_refl w.heap.size) (k * 5) (.int .i64 v0) (.int .i64 v1) (.string v2) (.slice v3 v4 v5) (.slice v6 v7 v8)
      have HR : Hid _ := And.intro hrow' hbel'
      have hr1 := hrow.1.of_block (hb1.block w.heap.size hrow.1.lt)
      have g0 := hr1.cell (i := k * 5) (by omega)
      have g1 := hr1.cell (i := k * 5 + 1) (by omega)
      have g2 := hr1.cell (i := k * 5 + 2) (by omega)
      have g3 := hr1.cell (i := k * 5 + 3) (by omega)
      have g4 := hr1.cell (i := k * 5 + 4) (by omega)
      have z0 := hr1.frozen (k * 5)
      have z1 := hr1.frozen (k * 5 + 1)
      have z2 := hr1.frozen (k * 5 + 2)
      have z3 := hr1.frozen (k * 5 + 3)
      have z4 := hr1.frozen (k * 5 + 4)
      clear hrow' hbel' hr1 hrow hbel hb1 hu hval e0 e1 e2 e3 e4 hv hx
      go_wp2_with fail
      go_roundw
      case rel => exact ⟨k + 1, _, by omega, by go_num, HR.out.1, HR.out.2⟩
      case measure => simp [intOf]; omega
    · go_wp2_with fail
      go_ret
      obtain rfl : k = xs.length := by omega
      refine ⟨_, rfl, ⟨hlen, _, _, rfl, ?_⟩, hbel⟩
      refine Or.inr ⟨w.heap.size, 0, ⟨Nat.le_refl _, hrow.1.lt⟩, rfl, fun i x hi => ?_⟩
      obtain ⟨hi', e⟩ := List.getElem?_eq_some_iff.1 hi
      rw [Nat.zero_add]
      exact ⟨_, _, _, _, _, hrow.1.cell (by omega), hrow.1.cell (by omega), hrow.1.cell (by omega), hrow.1.cell (by omega), hrow.1.cell (by omega),
        (hrow.2 i x hi' hi).mono (fun b hb => ⟨Nat.le_of_lt hb.1, hb.2⟩)⟩

set_option maxHeartbeats 1000000 in
theorem toVal_any : ∀ (d : Nat), ToVal d
  | 0 => fun _ _ _ _ h => h.elim
  | d + 1 => by
    intro S t v w hv hS
    have ih := toVal_any d
    obtain ⟨vk, vl, rfl, i1, i2, i3, hk, hl⟩ := hv
    obtain ⟨ak, ck, rfl, hkl⟩ := hk.open'
    obtain ⟨al, cl, rfl, hll⟩ := hl.open'
    go_enter Tryz.func6, Tryz.ntmps6
    go_wp2_with fail
    obtain ⟨k0, k1, k2, hb0, hsz⟩ := laid3 w 25 29 29 (.int .i64 t.kind) (.int .i64 t.num) (.string t.str) (.slice ak t.keys.length ck) (.slice al t.list.length cl)
      (.int .i64 0) (.int .i64 0) (.string { data := #[] }) (.slice none 0 0) (.slice none 0 0) (.int .i64 t.kind) (.int .i64 t.num) (.string t.str) (.slice none 0 0) (.slice none 0 0)
    refine (toStringS_any S t.keys _ _ (hk.same (hS.same hb0)) (hS.later hb0.size)).mono ?_
    rintro e w1 ⟨u1, rfl, hu1, hb1⟩
    obtain ⟨a1, c1, rfl, _⟩ := hu1.open'
    replace k0 := k0.below hb1
    replace k1 := k1.below hb1
    replace k2 := k2.below hb1
    have hu1' := hu1.mono (S' := After (w.heap.size + 2) w1) (fun b hb => ⟨by have := hb.1; omega, hb.2⟩)
    replace hb1 := below_trans hb0 hb1
    clear hb0 hsz hu1
    obtain ⟨_, _, _, _, z0⟩ := k0.cell
    obtain ⟨x0, x1, x2, x3, x4⟩ := k2.cell
    have x5 := k2.frozen 3
    have k0' := k0.other (a := ⟨w.heap.size + 1 + 1, 3, none⟩) (.slice a1 t.keys.length c1) (by simp; omega)
    have k1' := k1.other (a := ⟨w.heap.size + 1 + 1, 3, none⟩) (.slice a1 t.keys.length c1) (by simp)
    have k2' := k2.set3 (.slice a1 t.keys.length c1)
    go_wp2_with fail
    clear z0 x0 x1 x2 x3 x4 x5 k0 k1 k2 k0'
    have hs1 : Same (After (w.heap.size + 2) w1) w1 (w1.setCell ⟨w.heap.size + 1 + 1, 3, none⟩ (.slice a1 t.keys.length c1)) := fun b hb => Below.heap_setCell _ _ _ _ (by have := hb.1; show b ≠ w.heap.size + 1 + 1; omega)
    have hb2 := hb1.setCell (p := ⟨w.heap.size + 1 + 1, 3, none⟩) (by show w.heap.size ≤ w.heap.size + 1 + 1; omega) (.slice a1 t.keys.length c1)
    have hu2 := hu1'.same hs1
    have hz2 := size_setCell1 w1 ⟨w.heap.size + 1 + 1, 3, none⟩ (.slice a1 t.keys.length c1)
    refine (toValS_any d ih S t.list _ _ (hl.same (hS.same hb2)) (hS.later hb2.size)).mono ?_
    clear hb1 hu1' hs1
    rintro e w3 ⟨u3, rfl, hu3, hb3⟩
    obtain ⟨a3, c3, rfl, _⟩ := hu3.open'
    have hk2 := k2'.lt
    replace k1 := k1'.below hb3
    replace k2 := k2'.below hb3
    clear k1' k2'
    rw [hz2] at hk2
    have hu2' : StrsAt (After (w.heap.size + 2) w3) w3 (.slice a1 t.keys.length c1) t.keys := hu2.moved (fun b hb => hb3.block b (by rw [hz2]; exact hb.2)) (fun b hb => ⟨hb.1, Nat.lt_of_lt_of_le (by rw [hz2]; exact hb.2) hb3.size⟩)
    have hu3' := hu3.mono (S' := After (w.heap.size + 2) w3) (fun b hb => ⟨by have h1 := hb.1; rw [hz2] at h1; omega, hb.2⟩)
    have hb4 := below_trans hb2 hb3
    have hw3 := hb4.size
    clear hu2 hu3 hb2 hb3 hz2
    obtain ⟨y0, y1, y2, y3, y4⟩ := k1.cell
    have yf := k1.frozen
    obtain ⟨x0, x1, x2, x3, x4⟩ := k2.cell
    have xf := k2.frozen 4
    have hend : ∀ wF, wF = set5 (w3.setCell ⟨w.heap.size + 1 + 1, 4, none⟩ (.slice a3 t.list.length c3)) (w.heap.size + 1) 0 (.int .i64 t.kind) (.int .i64 t.num) (.string t.str) (.slice a1 t.keys.length c1) (.slice a3 t.list.length c3) →
        ValAt (Fresh w wF) wF (d + 1) t (.agg #[.int .i64 t.kind, .int .i64 t.num, .string t.str, .slice a1 t.keys.length c1, .slice a3 t.list.length c3]) ∧ Below w.heap.size w wF := by
      intro wF hF
      have hs : Same (After (w.heap.size + 2) w3) w3 wF := fun b hb => by
        have := hb.1
        rw [hF, set5_block _ _ _ _ _ _ _ _ _ (by omega), Below.heap_setCell _ _ _ _ (by show b ≠ w.heap.size + 1 + 1; omega)]
      have hA : ∀ b, After (w.heap.size + 2) w3 b → Fresh w wF b := fun b hb => ⟨by have := hb.1; omega, by rw [hF, set5_size, size_setCell1]; exact hb.2⟩
      refine ⟨⟨_, _, rfl, i1, i2, i3, hu2'.moved hs hA, hu3'.moved hs hA (fun x u hx => ValAt.moved hs hA d x u hx)⟩, ?_⟩
      rw [hF]
      exact below_set5 (hb4.setCell (by show w.heap.size ≤ w.heap.size + 1 + 1; omega) _) (by omega) _ _ _ _ _ _
    have HE : Hid _ := hend
    clear hend k1 k2 hu2' hu3' hb4 hk hl
    go_wp2_with fail
    refine bodyPost_ret (v := .agg #[.int .i64 t.kind, .int .i64 t.num, .string t.str, .slice a1 t.keys.length c1, .slice a3 t.list.length c3]) (by simp [results, Tryz.results6, go_sem, y0, y1, y2, y3, y4]) rfl ⟨_, rfl, HE.out _ rfl⟩
end Go.Proofs.YtbcafaomfaainaaGreatDoor
