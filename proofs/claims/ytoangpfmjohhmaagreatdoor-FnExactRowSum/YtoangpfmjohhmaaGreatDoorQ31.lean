/- Texts of the proof, put together by program: WToO, WOne. -/
import Derived.Test.YtoangpfmjohhmaaGreatDoorQ4
import Derived.Test.YtoangpfmjohhmaaGreatDoorQ10
/- toStringS, toVal, toValS once more: the copy owns its memory. -/
namespace Go.Proofs.YtoangpfmjohhmaaGreatDoor
open Go.RowKit Go.Deep

set_option maxHeartbeats 400000 in
theorem toStringS_own (S : Nat → Prop) (ss : List ByteArray) (v : Value) (w : World) (hv : StrsAt S w v ss) (hS : Within S w) :
    Calls Tryz.prog 52 #[v] w fun e w' => ∃ u, e = .returned u ∧ StrsOwn (Fresh w w') w' u ss ∧ Below w.heap.size w w' := by
  obtain ⟨a, cap, rfl, hlen⟩ := hv.open'
  have hmk := run_make_row' (P := Tryz.prog) 23 9 (.string ByteArray.empty) 16 Tryz.underlying23 Tryz.infoStr rfl .i64 .i64 ss.length (by omega) (by omega)
  have hb0 : Below w.heap.size w (w.alloc (.cells (madeCells #[.string ByteArray.empty] ss.length) 9)) := below_alloc1 _ _
  have hr0 := World.rowIs_made w (.string ByteArray.empty) ss.length 9
  go_enter Tryz.func52, Tryz.ntmps52
  go_wp2_with fail
  go_loopw [4] (fun i wr => ∃ (k : Nat), k ≤ ss.length ∧ i = .int .i64 k ∧ wr.rowIs w.heap.size 9 ss.length (strTo ss k) ∧ Below w.heap.size w wr) (fun i _ => ss.length - (intOf i).toNat)
  case atStart => exact ⟨0, Nat.zero_le _, rfl, hr0.congr (fun i _ => rfl), hb0⟩
  case round =>
    clear hb0 hr0 hmk
    obtain ⟨k, hk, rfl, hrow, hbel⟩ := hrel
    by_cases hkl : k < ss.length
    · obtain ⟨b, o, s, rfl, hb, hs, hsb, hck⟩ := (hv.same (hS.same hbel)).cell hkl
      have hc1 := hrow.cell hkl
      have hf1 := hrow.frozen k
      have hrow' := (hrow.set k (.string s)).congr (fun j _ => strTo_set ss k hs j)
      have hbel' := hbel.setCell (p := ⟨w.heap.size, k, none⟩) (Nat.le_refl _) (.string s)
      have HR := And.intro hrow' hbel'
      have HR' : Hid _ := HR
      clear hrow' hbel' HR hv hs hrow hbel
      go_wp2_with fail
      go_roundw
      case rel => exact ⟨k + 1, by omega, by go_num, HR'.out.1, HR'.out.2⟩
      case measure => simp [intOf]; omega
    · go_wp2_with fail
      go_ret
      refine ⟨_, rfl, ⟨hlen, ?_, _, _, rfl, ?_⟩, hbel⟩
      · obtain ⟨_, h2, _⟩ := hv
        exact h2
      · refine Or.inr ⟨w.heap.size, ss.length, _, ⟨Nat.le_refl _, hrow.lt⟩, rfl, Nat.le_refl _, hrow, fun i s hi => ?_⟩
        obtain ⟨hi', e⟩ := List.getElem?_eq_some_iff.1 hi
        rw [strTo, if_pos (by omega)]
        simp [hi]

/-- The first k things of a row that is being filled, each with blocks of its own. -/
structure FilledO {d : Nat} (N n : Nat) (xs : List (Tr d)) (w : World) (k : Nat) (f : Nat → Value) (P : Nat → Nat → Prop) : Prop where
  row : w.rowIs N 26 n f
  lo : ∀ j c, j < k → P j c → N < c ∧ c < w.heap.size
  dis : ∀ i j c, i < k → j < k → P i c → P j c → i = j
  val : ∀ j x, j < k → xs[j]? = some x → ValOwn w d (P j) x (.agg #[f (j * 5), f (j * 5 + 1), f (j * 5 + 2), f (j * 5 + 3), f (j * 5 + 4)])

theorem FilledO.step {d N n : Nat} {xs : List (Tr d)} {wr w1 : World} {k : Nat} {f : Nat → Value} {P : Nat → Nat → Prop} {x : Tr d} {v0 v1 v2 v3 v4 : Value} (h : FilledO N n xs wr k f P) (hb : Below wr.heap.size wr w1)
    (hx : xs[k]? = some x) (hu : ValOwn w1 d (Fresh wr w1) x (.agg #[v0, v1, v2, v3, v4])) :
    FilledO N n xs (set5 w1 N (k * 5) v0 v1 v2 v3 v4) (k + 1) (put5 f (k * 5) v0 v1 v2 v3 v4) (fun j c => if j = k then Fresh wr w1 c else P j c) := by
  obtain ⟨hrow, hlo, hdis, hv⟩ := h
  have hN := hrow.lt
  have hs2 : ∀ R : Nat → Prop, (∀ b, R b → N < b) → Same R w1 (set5 w1 N (k * 5) v0 v1 v2 v3 v4) := fun R hR b hb => set5_block _ _ _ _ _ _ _ _ _ (by have := hR b hb; omega)
  refine ⟨rowIs_set5 (hrow.of_block (hb.block N hN)) _ _ _ _ _ _, fun j c hj hc => ?_, fun i j c hi hj hci hcj => ?_, fun j y hj hy => ?_⟩
  · rw [set5_size]
    by_cases e : j = k
    · rw [if_pos e] at hc
      have := hc.1
      exact ⟨by omega, hc.2⟩
    · rw [if_neg e] at hc
      have := hlo j c (by omega) hc
      have := hb.size
      omega
  · by_cases ei : i = k
    · by_cases ej : j = k
      · omega
      · rw [if_pos ei] at hci
        rw [if_neg ej] at hcj
        have := (hlo j c (by omega) hcj).2
        have := hci.1
        omega
    · rw [if_neg ei] at hci
      by_cases ej : j = k
      · rw [if_pos ej] at hcj
        have := (hlo i c (by omega) hci).2
        have := hcj.1
        omega
      · rw [if_neg ej] at hcj
        exact hdis i j c (by omega) (by omega) hci hcj
  · by_cases e : j = k
    · subst e
      rw [hx] at hy
      cases hy
      obtain ⟨p0, p1, p2, p3, p4⟩ := put5_at f (j * 5) v0 v1 v2 v3 v4
      rw [p0, p1, p2, p3, p4]
      simp only [if_true]
      exact hu.same (hs2 _ (fun b hb => by have := hb.1; omega))
    · rw [put5_off _ _ _ _ _ _ _ _ (by omega), put5_off _ _ _ _ _ _ _ _ (by omega), put5_off _ _ _ _ _ _ _ _ (by omega), put5_off _ _ _ _ _ _ _ _ (by omega), put5_off _ _ _ _ _ _ _ _ (by omega)]
      simp only [if_neg e]
      have h1 := hv j y (by omega) hy
      have h2 := h1.same (w' := w1) (fun b hS => hb.block b (hlo j b (by omega) hS).2)
      exact h2.same (hs2 _ (fun b hb => (hlo j b (by omega) hb).1))

/-- What toVal does with trees of this depth. -/
def ToValO (d : Nat) : Prop := ∀ (S : Nat → Prop) (t : Tr d) (v : Value) (w : World), ValAt S w d t v → Within S w →
    Calls Tryz.prog 20 #[v] w fun e w' => ∃ u, e = .returned u ∧ ValOwn w' d (Fresh w w') t u ∧ Below w.heap.size w w'

set_option maxHeartbeats 1000000 in
theorem toValS_own (d : Nat) (H : ToValO d) (S : Nat → Prop) (xs : List (Tr d)) (v : Value) (w : World) (hv : RowAt S w (ValAt S w d) v xs) (hS : Within S w) :
    Calls Tryz.prog 53 #[v] w fun e w' => ∃ u, e = .returned u ∧ RowOwn w' (fun P x u => ValOwn w' d P x u) (Fresh w w') u xs ∧ Below w.heap.size w w' := by
  obtain ⟨a, cap, rfl, hlen⟩ := hv.open'
  have hmk := run_make5 xs.length hlen
  have hb0 : Below w.heap.size w (w.alloc (.cells (madeCells zero5 (xs.length * 5)) 26)) := below_alloc1 _ _
  have hr0 : FilledO (d := d) w.heap.size (xs.length * 5) xs (w.alloc (.cells (madeCells zero5 (xs.length * 5)) 26)) 0 (fun j => (madeCells zero5 (xs.length * 5)).getD j undef) (fun _ _ => False) := by
    refine ⟨?_, fun j x hj => by omega, fun j x c hj => by omega, fun j x hj => by omega⟩
    have := World.rowIs_alloc w (madeCells zero5 (xs.length * 5)) 26 (fun j => (madeCells zero5 (xs.length * 5)).getD j undef) (fun i hi => by simp [hi])
    rwa [size_madeCells] at this
  have HB : Hid _ := And.intro hb0 hr0
  clear hb0 hr0
  go_enter Tryz.func53, Tryz.ntmps53
  go_wp2_with fail
  go_loopw [4] (fun i wr => ∃ (k : Nat) (f : Nat → Value) (P : Nat → Nat → Prop), k ≤ xs.length ∧ i = .int .i64 k ∧ FilledO w.heap.size (xs.length * 5) xs wr k f P ∧ Below w.heap.size w wr) (fun i _ => xs.length - (intOf i).toNat)
  case atStart => exact ⟨0, _, _, Nat.zero_le _, rfl, HB.out.2, HB.out.1⟩
  case round =>
    clear HB hmk
    obtain ⟨k, f, P, hk, rfl, hrow, hbel⟩ := hrel
    by_cases hkl : k < xs.length
    · obtain ⟨b, o, x, c0, c1, c2, c3, c4, rfl, hb, hx, e0, e1, e2, e3, e4, hval⟩ := (hv.same (hS.same hbel)).cell hkl
      go_wp2_with fail
      refine (H S x _ wr hval (hS.later hbel.size)).mono ?_
      rintro e w1 ⟨u, rfl, hu, hb1⟩
      obtain ⟨v0, v1, v2, v3, v4, v5, v6, v7, v8, rfl⟩ := (ValOwn.at d _ _ _ hu).shape
      have hrow' := hrow.step hb1 hx hu
      have hbel' := below_set5 (hbel.trans (hb1.mono hbel.size)) (Nat.le_refl w.heap.size) (k * 5) (.int .i64 v0) (.int .i64 v1) (.string v2) (.slice v3 v4 v5) (.slice v6 v7 v8)
      have HR : Hid _ := And.intro hrow' hbel'
      have hr1 := hrow.row.of_block (hb1.block w.heap.size hrow.row.lt)
      have g0 := hr1.cell (i := k * 5) (by omega)
      have g1 := hr1.cell (i := k * 5 + 1) (by omega)
      have g2 := hr1.cell (i := k * 5 + 2) (by omega)
      have g3 := hr1.cell (i := k * 5 + 3) (by omega)
      have g4 := hr1.cell (i := k * 5 + 4) (by omega)
      have z0 := hr1.frozen (k * 5)
      have z1 := hr1.frozen (k * 5 + 1)
      have z2 := hr1.frozen (k * 5 + 2)
      have z3 := hr1.frozen (k * 5 + 3)
      have z4 := hr1.frozen (k * 5 + 4)
      clear hrow' hbel' hr1 hrow hbel hb1 hu hval e0 e1 e2 e3 e4 hv hx
      go_wp2_with fail
      go_roundw
      case rel => exact ⟨k + 1, _, _, by omega, by go_num, HR.out.1, HR.out.2⟩
      case measure => simp [intOf]; omega
    · go_wp2_with fail
      go_ret
      obtain rfl : k = xs.length := by omega
      refine ⟨_, rfl, ⟨hlen, _, _, rfl, ?_⟩, hbel⟩
      refine Or.inr ⟨w.heap.size, xs.length * 5, f, fun j c => j < xs.length ∧ P j c, ⟨Nat.le_refl _, hrow.row.lt⟩, rfl, Nat.le_refl _, hrow.row, fun i c hc => ?_, fun i j c hi hj => hrow.dis i j c hi.1 hj.1 hi.2 hj.2, fun i x hi => ?_⟩
      · have := hrow.lo i c hc.1 hc.2
        exact ⟨⟨by omega, this.2⟩, by omega⟩
      · have hi' := (List.getElem?_eq_some_iff.1 hi).1
        exact (hrow.val i x hi' hi).mono (fun c hc => ⟨hi', hc⟩)

set_option maxHeartbeats 1000000 in
theorem toVal_own : ∀ (d : Nat), ToValO d
  | 0 => fun _ _ _ _ h => h.elim
  | d + 1 => by
    intro S t v w hv hS
    have ih := toVal_own d
    obtain ⟨vk, vl, rfl, i1, i2, i3, hk, hl⟩ := hv
    obtain ⟨ak, ck, rfl, hkl⟩ := hk.open'
    obtain ⟨al, cl, rfl, hll⟩ := hl.open'
    go_enter Tryz.func20, Tryz.ntmps20
    go_wp2_with fail
    obtain ⟨k0, k1, k2, hb0, hsz⟩ := laid3 w 40 26 26 (.int .i64 t.kind) (.int .i64 t.num) (.string t.str) (.slice ak t.keys.length ck) (.slice al t.list.length cl)
      (.int .i64 0) (.int .i64 0) (.string { data := #[] }) (.slice none 0 0) (.slice none 0 0) (.int .i64 t.kind) (.int .i64 t.num) (.string t.str) (.slice none 0 0) (.slice none 0 0)
    refine (toStringS_own S t.keys _ _ (hk.same (hS.same hb0)) (hS.later hb0.size)).mono ?_
    rintro e w1 ⟨u1, rfl, hu1, hb1⟩
    obtain ⟨a1, c1, rfl, _⟩ := hu1.open'
    replace k0 := k0.below hb1
    replace k1 := k1.below hb1
    replace k2 := k2.below hb1
    have hu1' := hu1.moved (S' := fun b => w.heap.size + 2 < b ∧ b < w1.heap.size) (Same.refl _ _) (fun b hb => ⟨by have := hb.1; omega, hb.2⟩)
    replace hb1 := below_trans hb0 hb1
    clear hb0 hsz hu1
    obtain ⟨_, _, _, _, z0⟩ := k0.cell
    obtain ⟨x0, x1, x2, x3, x4⟩ := k2.cell
    have x5 := k2.frozen 3
    have k0' := k0.other (a := ⟨w.heap.size + 1 + 1, 3, none⟩) (.slice a1 t.keys.length c1) (by simp; omega)
    have k1' := k1.other (a := ⟨w.heap.size + 1 + 1, 3, none⟩) (.slice a1 t.keys.length c1) (by simp)
    have k2' := k2.set3 (.slice a1 t.keys.length c1)
    go_wp2_with fail
    clear z0 x0 x1 x2 x3 x4 x5 k0 k1 k2 k0'
    have hs1 : Same (fun b => w.heap.size + 2 < b ∧ b < w1.heap.size) w1 (w1.setCell ⟨w.heap.size + 1 + 1, 3, none⟩ (.slice a1 t.keys.length c1)) := fun b hb => Below.heap_setCell _ _ _ _ (by have := hb.1; show b ≠ w.heap.size + 1 + 1; omega)
    have hb2 := hb1.setCell (p := ⟨w.heap.size + 1 + 1, 3, none⟩) (by show w.heap.size ≤ w.heap.size + 1 + 1; omega) (.slice a1 t.keys.length c1)
    have hu2 := hu1'.moved hs1 (fun _ h => h)
    have hz2 := size_setCell1 w1 ⟨w.heap.size + 1 + 1, 3, none⟩ (.slice a1 t.keys.length c1)
    refine (toValS_own d ih S t.list _ _ (hl.same (hS.same hb2)) (hS.later hb2.size)).mono ?_
    clear hb1 hu1' hs1
    rintro e w3 ⟨u3, rfl, hu3, hb3⟩
    obtain ⟨a3, c3, rfl, _⟩ := hu3.open'
    have hk2 := k2'.lt
    replace k1 := k1'.below hb3
    replace k2 := k2'.below hb3
    clear k1' k2'
    rw [hz2] at hk2
    have hz3 : w1.heap.size ≤ w3.heap.size := by have := hb3.size; omega
    have hu2' := hu2.moved (w' := w3) (fun b hb => hb3.block b (by rw [hz2]; exact hb.2)) (fun _ h => h)
    have hu3' := hu3.moved (S' := fun b => w1.heap.size ≤ b ∧ b < w3.heap.size) (Same.refl _ _) (fun b hb => ⟨by have h1 := hb.1; rw [hz2] at h1; exact h1, hb.2⟩) (fun _ _ _ _ h => h)
    have hb4 := below_trans hb2 hb3
    have hw3 := hb4.size
    have hw1 : w.heap.size + 2 < w1.heap.size := by omega
    clear hu2 hu3 hb2 hb3 hz2
    obtain ⟨y0, y1, y2, y3, y4⟩ := k1.cell
    have yf := k1.frozen
    obtain ⟨x0, x1, x2, x3, x4⟩ := k2.cell
    have xf := k2.frozen 4
    have hend : ∀ wF, wF = set5 (w3.setCell ⟨w.heap.size + 1 + 1, 4, none⟩ (.slice a3 t.list.length c3)) (w.heap.size + 1) 0 (.int .i64 t.kind) (.int .i64 t.num) (.string t.str) (.slice a1 t.keys.length c1) (.slice a3 t.list.length c3) →
        ValOwn wF (d + 1) (Fresh w wF) t (.agg #[.int .i64 t.kind, .int .i64 t.num, .string t.str, .slice a1 t.keys.length c1, .slice a3 t.list.length c3]) ∧ Below w.heap.size w wF := by
      intro wF hF
      have hs : ∀ R : Nat → Prop, (∀ b, R b → w.heap.size + 2 < b) → Same R w3 wF := fun R hR b hb => by
        have := hR b hb
        rw [hF, set5_block _ _ _ _ _ _ _ _ _ (by omega), Below.heap_setCell _ _ _ _ (by show b ≠ w.heap.size + 1 + 1; omega)]
      have hzF : wF.heap.size = w3.heap.size := by rw [hF, set5_size, size_setCell1]
      refine ⟨⟨_, _, _, _, rfl, i1, i2, i3, hu2'.moved (hs _ (fun b hb => hb.1)) (fun _ h => h), hu3'.moved (hs _ (fun b hb => by have := hb.1; omega)) (fun _ h => h) (fun P x u hP hx => ValOwn.moved d P P x u hx (hs P (fun b hb => by have := (hP b hb).1; omega)) (fun _ h => h)), ?_, ?_, ?_⟩, ?_⟩
      · exact fun b hb => ⟨by have := hb.1; omega, by have := hb.2; omega⟩
      · exact fun b hb => ⟨by have := hb.1; omega, by have := hb.2; omega⟩
      · exact fun b hb hb' => by have := hb.2; have := hb'.1; omega
      rw [hF]
      exact below_set5 (hb4.setCell (by show w.heap.size ≤ w.heap.size + 1 + 1; omega) _) (by omega) _ _ _ _ _ _
    have HE : Hid _ := hend
    clear hend k1 k2 hu2' hu3' hb4 hk hl
    go_wp2_with fail
    refine bodyPost_ret (v := .agg #[.int .i64 t.kind, .int .i64 t.num, .string t.str, .slice a1 t.keys.length c1, .slice a3 t.list.length c3]) (by simp [results, Tryz.results20, go_sem, y0, y1, y2, y3, y4]) rfl ⟨_, rfl, HE.out _ rfl⟩
end Go.Proofs.YtoangpfmjohhmaaGreatDoor

/- Marks from 1 on. -/
namespace Go.Proofs.YtoangpfmjohhmaaGreatDoor
open Go.RowKit Go.Deep

theorem markVal_one (d : Nat) (S : Nat → Prop) (t : Tr (d + 1)) (v : Value) (w : World) (hv : ValOwn w (d + 1) S t v) (hS : Within S w) (h1 : 1 + wtT (d + 1) t ≤ 1099511627776) :
    Calls Tryz.prog 22 #[v, .int .i64 1] w fun e w' => e = .returned (.int .i64 (((markTop d t 1).2 : Nat) : Int)) ∧ ValOwn w' (d + 1) S (markTop d t 1).1 v ∧ Turn S w w' :=
  markVal_any d S t v 1 w hv hS (Nat.le_refl _) h1
theorem heldVal_one (d : Nat) (S : Nat → Prop) (t : Tr (d + 1)) (v : Value) (w : World) (hv : ValAt S w (d + 1) (markTop d t 1).1 v) (hS : Within S w) (h1 : 1 + wtT (d + 1) t ≤ 1099511627776) :
    Calls Tryz.prog 23 #[v, .int .i64 1] w fun e w' => e = .returned (.int .i64 (((markTop d t 1).2 : Nat) : Int)) ∧ Below w.heap.size w w' :=
  heldVal_any d S t v 1 w hv hS (Nat.le_refl _) h1
end Go.Proofs.YtoangpfmjohhmaaGreatDoor
