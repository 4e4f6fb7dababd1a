/- toStringS, toVal, toValS once more: the new memory is plain cells. -/
import Derived.Test.YtdmlpbkiomgloaaWTo
namespace Go.Proofs.Ytdmlpbkiomgloaa
open Go.RowKit Go.Deep

/-- A block of plain cells. -/
def Plain (w : World) (b : Nat) : Prop := ∃ c t, w.heap[b]? = some (.cells c t (0, 0))
theorem Plain.of_block {w w' : World} {b : Nat} (h : Plain w b) (e : w'.heap[b]? = w.heap[b]?) : Plain w' b := by
  obtain ⟨c, t, hc⟩ := h
  exact ⟨c, t, e.trans hc⟩
theorem plain_row {w : World} {b n : Nat} {t : TypeId} {f : Nat → Value} (h : w.rowIs b t n f) : Plain w b := by
  obtain ⟨c, hc, _⟩ := h
  exact ⟨c, t, hc⟩
def FreshP (w w' : World) (b : Nat) : Prop := Fresh w w' b ∧ Plain w' b
def AfterP (N : Nat) (w : World) (b : Nat) : Prop := After N w b ∧ Plain w b

set_option maxHeartbeats 400000 in
theorem toStringSP_any (S : Nat → Prop) (ss : List ByteArray) (v : Value) (w : World) (hv : StrsAt S w v ss) (hS : Within S w) :
    Calls Try.prog 25 #[v] w fun e w' => ∃ u, e = .returned u ∧ StrsAt (FreshP w w') w' u ss ∧ Below w.heap.size w w' := by
  obtain ⟨a, cap, rfl, hlen⟩ := hv.open'
  have hmk := run_make_row' (P := Try.prog) 22 9 (.string ByteArray.empty) 16 Try.underlying22 Try.infoStr rfl .i64 .i64 ss.length (by omega) (by omega)
  have hb0 : Below w.heap.size w (w.alloc (.cells (madeCells #[.string ByteArray.empty] ss.length) 9)) := below_alloc1 _ _
  have hr0 := World.rowIs_made w (.string ByteArray.empty) ss.length 9
  go_enter Try.func25, Try.ntmps25
  go_wp2_with fail
  go_loopw [4] (fun i wr => ∃ (k : Nat), k ≤ ss.length ∧ i = .int .i64 k ∧ wr.rowIs w.heap.size 9 ss.length (strTo ss k) ∧ Below w.heap.size w wr) (fun i _ => ss.length - (intOf i).toNat)
  case atStart => exact ⟨0, Nat.zero_le _, rfl, hr0.congr (fun i _ => rfl), hb0⟩
  case round =>
    clear hb0 hr0 hmk
    obtain ⟨k, hk, rfl, hrow, hbel⟩ := hrel
    by_cases hkl : k < ss.length
    · obtain ⟨b, o, s, rfl, hb, hs, hsb, hck⟩ := (hv.same (hS.same hbel)).cell hkl
      have hc1 := hrow.cell hkl
      have hf1 := hrow.frozen k
      have hrow' := (hrow.set k (.string s)).congr (fun j _ => strTo_set ss k hs j)
      have hbel' := hbel.setCell (p := ⟨w.heap.size, k, none⟩) (Nat.le_refl _) (.string s)
      have HR := And.intro hrow' hbel'
      have HR' : Hid _ := HR
      clear hrow' hbel' HR hv hs hrow hbel
      go_wp2_with fail
      go_roundw
      case rel => exact ⟨k + 1, by omega, by go_num, HR'.out.1, HR'.out.2⟩
      case measure => simp [intOf]; omega
    · go_wp2_with fail
      go_ret
      refine ⟨_, rfl, ⟨hlen, ?_, _, _, rfl, ?_⟩, hbel⟩
      · obtain ⟨_, h2, _⟩ := hv
        exact h2
      · refine Or.inr ⟨w.heap.size, 0, ⟨⟨Nat.le_refl _, hrow.lt⟩, plain_row hrow⟩, rfl, fun i s hi => ?_⟩
        obtain ⟨hi', e⟩ := List.getElem?_eq_some_iff.1 hi
        have := hrow.cell hi'
        rw [Nat.zero_add, this, strTo, if_pos (by omega)]
        simp [hi]

/-- The first k things of a row that is being filled. -/
def FilledP {d : Nat} (N T n : Nat) (xs : List (Tr d)) (w : World) (k : Nat) (f : Nat → Value) : Prop :=
  w.rowIs N T n f ∧ ∀ j x, j < k → xs[j]? = some x → ValAt (AfterP N w) w d x (.agg #[f (j * 5), f (j * 5 + 1), f (j * 5 + 2), f (j * 5 + 3), f (j * 5 + 4)])

theorem FilledP.step {d N T n : Nat} {xs : List (Tr d)} {wr w1 : World} {k : Nat} {f : Nat → Value} {x : Tr d} {v0 v1 v2 v3 v4 : Value} (h : FilledP N T n xs wr k f) (hb : Below wr.heap.size wr w1)
    (hx : xs[k]? = some x) (hu : ValAt (FreshP wr w1) w1 d x (.agg #[v0, v1, v2, v3, v4])) :
    FilledP N T n xs (set5 w1 N (k * 5) v0 v1 v2 v3 v4) (k + 1) (put5 f (k * 5) v0 v1 v2 v3 v4) := by
  obtain ⟨hrow, hv⟩ := h
  have hN := hrow.lt
  have hs2 : Same (AfterP N w1) w1 (set5 w1 N (k * 5) v0 v1 v2 v3 v4) := fun b hb => set5_block _ _ _ _ _ _ _ _ _ (by have := hb.1.1; omega)
  have hA : ∀ b, AfterP N w1 b → AfterP N (set5 w1 N (k * 5) v0 v1 v2 v3 v4) b := fun b hb => ⟨⟨hb.1.1, by rw [set5_size]; exact hb.1.2⟩, hb.2.of_block (hs2 b hb)⟩
  refine ⟨rowIs_set5 (hrow.of_block (hb.block N hN)) _ _ _ _ _ _, fun j y hj hy => ?_⟩
  by_cases e : j = k
  · subst e
    rw [hx] at hy
    cases hy
    obtain ⟨p0, p1, p2, p3, p4⟩ := put5_at f (j * 5) v0 v1 v2 v3 v4
    rw [p0, p1, p2, p3, p4]
    refine ValAt.moved hs2 hA d x _ (hu.mono (fun b hb => ⟨⟨?_, hb.1.2⟩, hb.2⟩))
    have := hb.1.1
    omega
  · rw [put5_off _ _ _ _ _ _ _ _ (by omega), put5_off _ _ _ _ _ _ _ _ (by omega), put5_off _ _ _ _ _ _ _ _ (by omega), put5_off _ _ _ _ _ _ _ _ (by omega), put5_off _ _ _ _ _ _ _ _ (by omega)]
    have h1 := hv j y (by omega) hy
    have h2 : ValAt (AfterP N w1) w1 d y (.agg #[f (j * 5), f (j * 5 + 1), f (j * 5 + 2), f (j * 5 + 3), f (j * 5 + 4)]) :=
      ValAt.moved (fun b hS => hb.block b hS.1.2) (fun b hS => ⟨⟨hS.1.1, Nat.lt_of_lt_of_le hS.1.2 hb.size⟩, hS.2.of_block (hb.block b hS.1.2)⟩) d y _ h1
    exact ValAt.moved hs2 hA d y _ h2

/-- What toVal does with trees of this depth. -/
def ToValP (d : Nat) : Prop := ∀ (S : Nat → Prop) (t : Tr d) (v : Value) (w : World), ValAt S w d t v → Within S w →
    Calls Try.prog 10 #[v] w fun e w' => ∃ u, e = .returned u ∧ ValAt (FreshP w w') w' d t u ∧ Below w.heap.size w w'

set_option maxHeartbeats 1000000 in
theorem toValSP_any (d : Nat) (H : ToValP d) (S : Nat → Prop) (xs : List (Tr d)) (v : Value) (w : World) (hv : RowAt S w (ValAt S w d) v xs) (hS : Within S w) :
    Calls Try.prog 26 #[v] w fun e w' => ∃ u, e = .returned u ∧ RowAt (FreshP w w') w' (ValAt (FreshP w w') w' d) u xs ∧ Below w.heap.size w w' := by
  obtain ⟨a, cap, rfl, hlen⟩ := hv.open'
  have hmk := run_make5 xs.length hlen
  have hb0 : Below w.heap.size w (w.alloc (.cells (madeCells zero5 (xs.length * 5)) 30)) := below_alloc1 _ _
  have hr0 : FilledP (d := d) w.heap.size 30 (xs.length * 5) xs (w.alloc (.cells (madeCells zero5 (xs.length * 5)) 30)) 0 (fun j => (madeCells zero5 (xs.length * 5)).getD j undef) := by
    refine ⟨?_, fun j x hj => by omega⟩
    have := World.rowIs_alloc w (madeCells zero5 (xs.length * 5)) 30 (fun j => (madeCells zero5 (xs.length * 5)).getD j undef) (fun i hi => by simp [hi])
    rwa [size_madeCells] at this
  have HB : Hid _ := And.intro hb0 hr0
  clear hb0 hr0
  go_enter Try.func26, Try.ntmps26
  go_wp2_with fail
  go_loopw [4] (fun i wr => ∃ (k : Nat) (f : Nat → Value), k ≤ xs.length ∧ i = .int .i64 k ∧ FilledP w.heap.size 30 (xs.length * 5) xs wr k f ∧ Below w.heap.size w wr) (fun i _ => xs.length - (intOf i).toNat)
  case atStart => exact ⟨0, _, Nat.zero_le _, rfl, HB.out.2, HB.out.1⟩
  case round =>
    clear HB hmk
    obtain ⟨k, f, hk, rfl, hrow, hbel⟩ := hrel
    by_cases hkl : k < xs.length
    · obtain ⟨b, o, x, c0, c1, c2, c3, c4, rfl, hb, hx, e0, e1, e2, e3, e4, hval⟩ := (hv.same (hS.same hbel)).cell hkl
      go_wp2_with fail
      refine (H S x _ wr hval (hS.later hbel.size)).mono ?_
      rintro e w1 ⟨u, rfl, hu, hb1⟩
      obtain ⟨v0, v1, v2, v3, v4, v5, v6, v7, v8, rfl⟩ := hu.shape
      have hrow' := hrow.step hb1 hx hu
      have hbel' := below_set5 (hbel.trans (hb1.mono hbel.size)) (Nat.le_refl w.heap.size) (k * 5) (.int .i64 v0) (.int .i64 v1) (.string v2) (.slice v3 v4 v5) (.slice v6 v7 v8)
      have HR : Hid _ := And.intro hrow' hbel'
      have hr1 := hrow.1.of_block (hb1.block w.heap.size hrow.1.lt)
      have g0 := hr1.cell (i := k * 5) (by omega)
      have g1 := hr1.cell (i := k * 5 + 1) (by omega)
      have g2 := hr1.cell (i := k * 5 + 2) (by omega)
      have g3 := hr1.cell (i := k * 5 + 3) (by omega)
      have g4 := hr1.cell (i := k * 5 + 4) (by omega)
      have z0 := hr1.frozen (k * 5)
      have z1 := hr1.frozen (k * 5 + 1)
      have z2 := hr1.frozen (k * 5 + 2)
      have z3 := hr1.frozen (k * 5 + 3)
      have z4 := hr1.frozen (k * 5 + 4)
      clear hrow' hbel' hr1 hrow hbel hb1 hu hval e0 e1 e2 e3 e4 hv hx
      go_wp2_with fail
      go_roundw
      case rel => exact ⟨k + 1, _, by omega, by go_num, HR.out.1, HR.out.2⟩
      case measure => simp [intOf]; omega
    · go_wp2_with fail
      go_ret
      obtain rfl : k = xs.length := by omega
      refine ⟨_, rfl, ⟨hlen, _, _, rfl, ?_⟩, hbel⟩
      refine Or.inr ⟨w.heap.size, 0, ⟨⟨Nat.le_refl _, hrow.1.lt⟩, plain_row hrow.1⟩, rfl, fun i x hi => ?_⟩
      obtain ⟨hi', e⟩ := List.getElem?_eq_some_iff.1 hi
      rw [Nat.zero_add]
      exact ⟨_, _, _, _, _, hrow.1.cell (by omega), hrow.1.cell (by omega), hrow.1.cell (by omega), hrow.1.cell (by omega), hrow.1.cell (by omega),
        (hrow.2 i x hi' hi).mono (fun b hb => ⟨⟨Nat.le_of_lt hb.1.1, hb.1.2⟩, hb.2⟩)⟩

set_option maxHeartbeats 1000000 in
theorem toValP_any : ∀ (d : Nat), ToValP d
  | 0 => fun _ _ _ _ h => h.elim
  | d + 1 => by
    intro S t v w hv hS
    have ih := toValP_any d
    obtain ⟨vk, vl, rfl, i1, i2, i3, hk, hl⟩ := hv
    obtain ⟨ak, ck, rfl, hkl⟩ := hk.open'
    obtain ⟨al, cl, rfl, hll⟩ := hl.open'
    go_enter Try.func10, Try.ntmps10
    go_wp2_with fail
    obtain ⟨k0, k1, k2, hb0, hsz⟩ := laid3 w 25 30 30 (.int .i64 t.kind) (.int .i64 t.num) (.string t.str) (.slice ak t.keys.length ck) (.slice al t.list.length cl)
      (.int .i64 0) (.int .i64 0) (.string { data := #[] }) (.slice none 0 0) (.slice none 0 0) (.int .i64 t.kind) (.int .i64 t.num) (.string t.str) (.slice none 0 0) (.slice none 0 0)
    refine (toStringSP_any S t.keys _ _ (hk.same (hS.same hb0)) (hS.later hb0.size)).mono ?_
    rintro e w1 ⟨u1, rfl, hu1, hb1⟩
    obtain ⟨a1, c1, rfl, _⟩ := hu1.open'
    replace k0 := k0.below hb1
    replace k1 := k1.below hb1
    replace k2 := k2.below hb1
    have hu1' := hu1.mono (S' := AfterP (w.heap.size + 2) w1) (fun b hb => ⟨⟨by have := hb.1.1; omega, hb.1.2⟩, hb.2⟩)
    replace hb1 := below_trans hb0 hb1
    clear hb0 hsz hu1
    obtain ⟨_, _, _, _, z0⟩ := k0.cell
    obtain ⟨x0, x1, x2, x3, x4⟩ := k2.cell
    have x5 := k2.frozen 3
    have k0' := k0.other (a := ⟨w.heap.size + 1 + 1, 3, none⟩) (.slice a1 t.keys.length c1) (by simp; omega)
    have k1' := k1.other (a := ⟨w.heap.size + 1 + 1, 3, none⟩) (.slice a1 t.keys.length c1) (by simp)
    have k2' := k2.set3 (.slice a1 t.keys.length c1)
    go_wp2_with fail
    clear z0 x0 x1 x2 x3 x4 x5 k0 k1 k2 k0'
    have hs1 : Same (AfterP (w.heap.size + 2) w1) w1 (w1.setCell ⟨w.heap.size + 1 + 1, 3, none⟩ (.slice a1 t.keys.length c1)) := fun b hb => Below.heap_setCell _ _ _ _ (by have := hb.1.1; show b ≠ w.heap.size + 1 + 1; omega)
    have hb2 := hb1.setCell (p := ⟨w.heap.size + 1 + 1, 3, none⟩) (by show w.heap.size ≤ w.heap.size + 1 + 1; omega) (.slice a1 t.keys.length c1)
    have hu2 := hu1'.moved (S' := AfterP (w.heap.size + 2) (w1.setCell ⟨w.heap.size + 1 + 1, 3, none⟩ (.slice a1 t.keys.length c1))) hs1 (fun b hb => ⟨⟨hb.1.1, by rw [size_setCell1]; exact hb.1.2⟩, hb.2.of_block (hs1 b hb)⟩)
    have hz2 := size_setCell1 w1 ⟨w.heap.size + 1 + 1, 3, none⟩ (.slice a1 t.keys.length c1)
    refine (toValSP_any d ih S t.list _ _ (hl.same (hS.same hb2)) (hS.later hb2.size)).mono ?_
    clear hb1 hu1' hs1
    rintro e w3 ⟨u3, rfl, hu3, hb3⟩
    obtain ⟨a3, c3, rfl, _⟩ := hu3.open'
    have hk2 := k2'.lt
    replace k1 := k1'.below hb3
    replace k2 := k2'.below hb3
    clear k1' k2'
    rw [hz2] at hk2
    have hu2' : StrsAt (AfterP (w.heap.size + 2) w3) w3 (.slice a1 t.keys.length c1) t.keys := hu2.moved (fun b hb => hb3.block b hb.1.2) (fun b hb => ⟨⟨hb.1.1, Nat.lt_of_lt_of_le hb.1.2 hb3.size⟩, hb.2.of_block (hb3.block b hb.1.2)⟩)
    have hu3' := hu3.mono (S' := AfterP (w.heap.size + 2) w3) (fun b hb => ⟨⟨by have h1 := hb.1.1; rw [hz2] at h1; omega, hb.1.2⟩, hb.2⟩)
    have hb4 := below_trans hb2 hb3
    have hw3 := hb4.size
    clear hu2 hu3 hb2 hb3 hz2
    obtain ⟨y0, y1, y2, y3, y4⟩ := k1.cell
    have yf := k1.frozen
    obtain ⟨x0, x1, x2, x3, x4⟩ := k2.cell
    have xf := k2.frozen 4
    have hend : ∀ wF, wF = set5 (w3.setCell ⟨w.heap.size + 1 + 1, 4, none⟩ (.slice a3 t.list.length c3)) (w.heap.size + 1) 0 (.int .i64 t.kind) (.int .i64 t.num) (.string t.str) (.slice a1 t.keys.length c1) (.slice a3 t.list.length c3) →
        ValAt (FreshP w wF) wF (d + 1) t (.agg #[.int .i64 t.kind, .int .i64 t.num, .string t.str, .slice a1 t.keys.length c1, .slice a3 t.list.length c3]) ∧ Below w.heap.size w wF := by
      intro wF hF
      have hs : Same (AfterP (w.heap.size + 2) w3) w3 wF := fun b hb => by
        have := hb.1.1
        rw [hF, set5_block _ _ _ _ _ _ _ _ _ (by omega), Below.heap_setCell _ _ _ _ (by show b ≠ w.heap.size + 1 + 1; omega)]
      have hA : ∀ b, AfterP (w.heap.size + 2) w3 b → FreshP w wF b := fun b hb => ⟨⟨by have := hb.1.1; omega, by rw [hF, set5_size, size_setCell1]; exact hb.1.2⟩, hb.2.of_block (hs b hb)⟩
      refine ⟨⟨_, _, rfl, i1, i2, i3, hu2'.moved hs hA, hu3'.moved hs hA (fun x u hx => ValAt.moved hs hA d x u hx)⟩, ?_⟩
      rw [hF]
      exact below_set5 (hb4.setCell (by show w.heap.size ≤ w.heap.size + 1 + 1; omega) _) (by omega) _ _ _ _ _ _
    have HE : Hid _ := hend
    clear hend k1 k2 hu2' hu3' hb4 hk hl
    go_wp2_with fail
    refine bodyPost_ret (v := .agg #[.int .i64 t.kind, .int .i64 t.num, .string t.str, .slice a1 t.keys.length c1, .slice a3 t.list.length c3]) (by simp [results, Try.results10, go_sem, y0, y1, y2, y3, y4]) rfl ⟨_, rfl, HE.out _ rfl⟩
end Go.Proofs.Ytdmlpbkiomgloaa
