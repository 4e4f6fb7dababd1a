/- Texts of the proof, put together by program: WToB, WMany, WImplA, WImplB. -/
import Derived.Test.YtmibjmipndffmaaGreatDoorT1
import Derived.Deep.LoopGhost
import Derived.Maps.AppendAt
/- A row that is being filled, five cells each. -/
namespace Go.Proofs.YtmibjmipndffmaaGreatDoor
open Go.RowKit Go.Deep
/-- Five cells in a row written. -/
def put5 (f : Nat → Value) (i : Nat) (v0 v1 v2 v3 v4 : Value) (j : Nat) : Value :=
  if j = i then v0 else if j = i + 1 then v1 else if j = i + 2 then v2 else if j = i + 3 then v3 else if j = i + 4 then v4 else f j

def set5 (w : World) (b i : Nat) (v0 v1 v2 v3 v4 : Value) : World :=
  ((((w.setCell ⟨b, i, none⟩ v0).setCell ⟨b, i + 1, none⟩ v1).setCell ⟨b, i + 2, none⟩ v2).setCell ⟨b, i + 3, none⟩ v3).setCell ⟨b, i + 4, none⟩ v4

theorem rowIs_set5 {w : World} {b : Nat} {t : TypeId} {n : Nat} {f : Nat → Value} (h : w.rowIs b t n f) (i : Nat) (v0 v1 v2 v3 v4 : Value) :
    (set5 w b i v0 v1 v2 v3 v4).rowIs b t n (put5 f i v0 v1 v2 v3 v4) := by
  refine (((((h.set i v0).set (i + 1) v1).set (i + 2) v2).set (i + 3) v3).set (i + 4) v4).congr (fun j _ => ?_)
  unfold put5
  by_cases e0 : j = i
  · simp [e0]
  by_cases e1 : j = i + 1
  · simp [e1]
  by_cases e2 : j = i + 2
  · simp [e2]
  by_cases e3 : j = i + 3
  · simp [e3]
  simp [e0, e1, e2, e3]

theorem set5_block (w : World) (b i : Nat) (v0 v1 v2 v3 v4 : Value) (k : Nat) (h : k ≠ b) : (set5 w b i v0 v1 v2 v3 v4).heap[k]? = w.heap[k]? := by
  unfold set5
  rw [Below.heap_setCell _ _ _ _ h, Below.heap_setCell _ _ _ _ h, Below.heap_setCell _ _ _ _ h, Below.heap_setCell _ _ _ _ h, Below.heap_setCell _ _ _ _ h]

theorem set5_size (w : World) (b i : Nat) (v0 v1 v2 v3 v4 : Value) : (set5 w b i v0 v1 v2 v3 v4).heap.size = w.heap.size := by
  simp [set5, World.setCell]

theorem below_set5 {B : Nat} {a w : World} (h : Below B a w) {b : Nat} (hb : B ≤ b) (i : Nat) (v0 v1 v2 v3 v4 : Value) : Below B a (set5 w b i v0 v1 v2 v3 v4) :=
  ((((h.setCell (p := ⟨b, i, none⟩) hb v0).setCell (p := ⟨b, i + 1, none⟩) hb v1).setCell (p := ⟨b, i + 2, none⟩) hb v2).setCell (p := ⟨b, i + 3, none⟩) hb v3).setCell (p := ⟨b, i + 4, none⟩) hb v4

theorem put5_at (f : Nat → Value) (i : Nat) (v0 v1 v2 v3 v4 : Value) :
    put5 f i v0 v1 v2 v3 v4 i = v0 ∧ put5 f i v0 v1 v2 v3 v4 (i + 1) = v1 ∧ put5 f i v0 v1 v2 v3 v4 (i + 2) = v2 ∧ put5 f i v0 v1 v2 v3 v4 (i + 3) = v3 ∧ put5 f i v0 v1 v2 v3 v4 (i + 4) = v4 := by
  simp [put5]

theorem put5_off (f : Nat → Value) (i : Nat) (v0 v1 v2 v3 v4 : Value) (j : Nat) (h : j < i ∨ i + 4 < j) : put5 f i v0 v1 v2 v3 v4 j = f j := by
  unfold put5
  rw [if_neg (by omega), if_neg (by omega), if_neg (by omega), if_neg (by omega), if_neg (by omega)]

/-- The blocks behind block N that are in w. -/
def After (N : Nat) (w : World) (b : Nat) : Prop := N < b ∧ b < w.heap.size

/-- The first k things of a row that is being filled. -/
def Filled {d : Nat} (N T n : Nat) (xs : List (Tr d)) (w : World) (k : Nat) (f : Nat → Value) : Prop :=
  w.rowIs N T n f ∧ ∀ j x, j < k → xs[j]? = some x → ValAt (After N w) w d x (.agg #[f (j * 5), f (j * 5 + 1), f (j * 5 + 2), f (j * 5 + 3), f (j * 5 + 4)])

theorem Filled.step {d N T n : Nat} {xs : List (Tr d)} {wr w1 : World} {k : Nat} {f : Nat → Value} {x : Tr d} {v0 v1 v2 v3 v4 : Value} (h : Filled N T n xs wr k f) (hb : Below wr.heap.size wr w1)
    (hx : xs[k]? = some x) (hu : ValAt (Fresh wr w1) w1 d x (.agg #[v0, v1, v2, v3, v4])) :
    Filled N T n xs (set5 w1 N (k * 5) v0 v1 v2 v3 v4) (k + 1) (put5 f (k * 5) v0 v1 v2 v3 v4) := by
  obtain ⟨hrow, hv⟩ := h
  have hN := hrow.lt
  have hs2 : Same (After N w1) w1 (set5 w1 N (k * 5) v0 v1 v2 v3 v4) := fun b hb => set5_block _ _ _ _ _ _ _ _ _ (by have := hb.1; omega)
  have hA : ∀ b, After N w1 b → After N (set5 w1 N (k * 5) v0 v1 v2 v3 v4) b := fun b hb => ⟨hb.1, by rw [set5_size]; exact hb.2⟩
  refine ⟨rowIs_set5 (hrow.of_block (hb.block N hN)) _ _ _ _ _ _, fun j y hj hy => ?_⟩
  by_cases e : j = k
  · subst e
    rw [hx] at hy
    cases hy
    obtain ⟨p0, p1, p2, p3, p4⟩ := put5_at f (j * 5) v0 v1 v2 v3 v4
    rw [p0, p1, p2, p3, p4]
    refine ValAt.moved hs2 hA d x _ (hu.mono (fun b hb => ⟨?_, hb.2⟩))
    have := hb.1
    omega
  · rw [put5_off _ _ _ _ _ _ _ _ (by omega), put5_off _ _ _ _ _ _ _ _ (by omega), put5_off _ _ _ _ _ _ _ _ (by omega), put5_off _ _ _ _ _ _ _ _ (by omega), put5_off _ _ _ _ _ _ _ _ (by omega)]
    have h1 := hv j y (by omega) hy
    have h2 : ValAt (After N w1) w1 d y (.agg #[f (j * 5), f (j * 5 + 1), f (j * 5 + 2), f (j * 5 + 3), f (j * 5 + 4)]) :=
      ValAt.moved (fun b hS => hb.block b hS.2) (fun b hS => ⟨hS.1, Nat.lt_of_lt_of_le hS.2 hb.size⟩) d y _ h1
    exact ValAt.moved hs2 hA d y _ h2

/-- A tree's five cells. -/
theorem ValAt.shape {S : Nat → Prop} {w : World} {d : Nat} {t : Tr d} {u : Value} (h : ValAt S w d t u) :
    ∃ k n s ak lk ck al ll cl, u = .agg #[.int .i64 k, .int .i64 n, .string s, .slice ak lk ck, .slice al ll cl] := by
  cases d with
  | zero => exact h.elim
  | succ d =>
    obtain ⟨vk, vl, hv, i1, i2, i3, hk, hl⟩ := h
    obtain ⟨ak, ck, rfl, _⟩ := hk.open'
    obtain ⟨al, cl, rfl, _⟩ := hl.open'
    exact ⟨_, _, _, _, _, _, _, _, _, hv⟩

def zeroVal : Value := .agg #[.int .i64 0, .int .i64 0, .string ByteArray.empty, .slice none 0 0, .slice none 0 0]

theorem Tryz.infoVal : (Tryz.prog.info? 26).map (fun i => (i.zero, i.size, i.bytes)) = some (some zeroVal, 5, 80) := by kernel_rfl

end Go.Proofs.YtmibjmipndffmaaGreatDoor

/- l1Many, ValOk of the model. -/
namespace Go.Proofs.YtmibjmipndffmaaGreatDoor
open Go.RowKit Go.Deep

/-- How many parts there are, all told. -/
def nodes : (d : Nat) → Tr d → Nat
  | 0, _ => 0
  | d + 1, t => 1 + ((Nd.list t).map (nodes d)).sum
/-- .. up to so deep. -/
def manyT : (d : Nat) → Tr d → Int → Nat
  | 0, _, _ => 0
  | d + 1, t, deep => 1 + (if 0 < deep then ((Nd.list t).map (fun x => manyT d x (deep - 1))).sum else 0)

theorem sum_map_le {α : Type} (f g : α → Nat) (h : ∀ x, f x ≤ g x) : ∀ xs : List α, (xs.map f).sum ≤ (xs.map g).sum
  | [] => Nat.le_refl _
  | x :: r => by
    have := h x
    have := sum_map_le f g h r
    simp only [List.map_cons, List.sum_cons]
    omega
theorem manyT_le : ∀ (d : Nat) (t : Tr d) (deep : Int), manyT d t deep ≤ nodes d t
  | 0, _, _ => Nat.le_refl _
  | d + 1, t, deep => by
    rw [manyT, nodes]
    split
    · have := sum_map_le (fun x => manyT d x (deep - 1)) (nodes d) (fun x => manyT_le d x (deep - 1)) (Nd.list t)
      omega
    · omega
theorem sum_take_step {α : Type} (f : α → Nat) {xs : List α} {k : Nat} {x : α} (h : xs[k]? = some x) : ((xs.take (k + 1)).map f).sum = ((xs.take k).map f).sum + f x := by
  obtain ⟨hk, e⟩ := List.getElem?_eq_some_iff.1 h
  rw [List.take_succ_eq_append_getElem hk, e]
  simp
theorem sum_take_le {α : Type} (f : α → Nat) : ∀ (xs : List α) (k : Nat), ((xs.take k).map f).sum ≤ (xs.map f).sum
  | [], k => by simp
  | x :: r, 0 => by simp
  | x :: r, k + 1 => by
    have := sum_take_le f r k
    simp only [List.take_succ_cons, List.map_cons, List.sum_cons]
    omega
theorem mem_sum_le {α : Type} (f : α → Nat) {xs : List α} {k : Nat} {x : α} (h : xs[k]? = some x) : f x ≤ (xs.map f).sum := by
  have h1 := sum_take_step f h
  have h2 := sum_take_le f xs (k + 1)
  omega

/-- What l1Many does with trees of this depth. -/
def ManyVal (d : Nat) : Prop := ∀ (S : Nat → Prop) (t : Tr d) (v : Value) (deep : Int) (w : World), ValAt S w d t v → Within S w → -1000 ≤ deep → deep ≤ 1000 → (nodes d t : Int) ≤ 4194304 →
    Calls Tryz.prog 55 #[v, .int .i64 deep] w fun e w' => e = .returned (.int .i64 (manyT d t deep)) ∧ Below w.heap.size w w'

set_option maxRecDepth 100000 in
set_option maxHeartbeats 2000000 in
theorem l1Many_any : ∀ (d : Nat), ManyVal d
  | 0 => fun _ _ _ _ _ h => h.elim
  | d + 1 => by
    intro S t v deep w hv hS h0 h1 hsm
    have ih := l1Many_any d
    obtain ⟨kind, num, str, keys, list⟩ := t
    obtain ⟨vk, vl, rfl, i1, i2, i3, hk, hl⟩ := hv
    obtain ⟨ak, ck, rfl, hkl⟩ := hk.open'
    obtain ⟨al, cl, rfl, hll⟩ := hl.open'
    have hsm2 : ((1 + (list.map (nodes d)).sum : Nat) : Int) ≤ 4194304 := hsm
    clear hsm hk
    obtain ⟨W0, hW⟩ : ∃ W0, W0 = w.alloc (.cells #[.int .i64 kind, .int .i64 num, .string str, .slice ak keys.length ck, .slice al list.length cl] 26) := ⟨_, rfl⟩
    have k0 : Blk5 W0 w.heap.size 26 (.int .i64 kind) (.int .i64 num) (.string str) (.slice ak keys.length ck) (.slice al list.length cl) := by rw [hW]; exact Blk5.new _ _ _ _ _ _ _
    have hW0 : Below w.heap.size w W0 := by rw [hW]; exact below_alloc1 _ _
    have HW : Hid _ := hW
    clear hW
    by_cases hd : 0 < deep
    case neg =>
      have hfin : Hid ((manyT (d + 1) (Nd.mk kind num str keys list) deep : Int) = 1) := by
        show ((manyT (d + 1) (Nd.mk kind num str keys list) deep : Nat) : Int) = 1
        show (((1 + if 0 < deep then _ else 0) : Nat) : Int) = 1
        rw [if_neg hd]
        rfl
      go_enter Tryz.func55, Tryz.ntmps55
      go_wp2_with fail
      rw [← HW.out]
      clear HW
      go_loopw [5, 6] (fun n i wr => n = .int .i64 1 ∧ i = .int .i64 0 ∧ Hid (wr = W0)) (fun _ _ _ => 0)
      case atStart => exact ⟨rfl, rfl, rfl⟩
      case round =>
        obtain ⟨rfl, rfl, hwr⟩ := hrel
        have hc4 : wr.cell? ⟨w.heap.size, 4, none⟩ = some (.slice al list.length cl) := by rw [hwr.out]; exact k0.cell.2.2.2.2
        cases hll0 : decide (0 < list.length) with
        | false =>
          have hz : ¬ 0 < list.length := of_decide_eq_false hll0
          go_wp2_with fail
          go_ret
          rw [hfin.out, hwr.out]
          exact ⟨rfl, hW0⟩
        | true =>
          have hz : 0 < list.length := of_decide_eq_true hll0
          go_wp2_with fail
          go_ret
          rw [hfin.out, hwr.out]
          exact ⟨rfl, hW0⟩
    case pos =>
      have hfin : Hid (∀ s : Nat, s = (list.map (fun x => manyT d x (deep - 1))).sum → ((1 + s : Nat) : Int) = (manyT (d + 1) (Nd.mk kind num str keys list) deep : Nat)) := by
        intro s hs
        show ((1 + s : Nat) : Int) = (((1 + if 0 < deep then _ else 0) : Nat) : Int)
        rw [if_pos hd, hs]
      have hsum := sum_map_le (fun x => manyT d x (deep - 1)) (nodes d) (fun x => manyT_le d x (deep - 1)) list
      go_enter Tryz.func55, Tryz.ntmps55
      go_wp2_with fail
      rw [← HW.out]
      clear HW
      go_loopw [5, 6] (fun n i wr => ∃ k s : Nat, k ≤ list.length ∧ i = .int .i64 k ∧ n = .int .i64 (1 + (s : Int)) ∧ Hid (s = ((list.take k).map (fun x => manyT d x (deep - 1))).sum) ∧ Below W0.heap.size W0 wr) (fun _ i _ => list.length - (intOf i).toNat)
      case atStart => exact ⟨0, 0, Nat.zero_le _, rfl, rfl, by simp [Hid], Below.refl _ _⟩
      case round =>
        obtain ⟨k, s, hkk, rfl, rfl, hs, hbel⟩ := hrel
        have hc4 : wr.cell? ⟨w.heap.size, 4, none⟩ = some (.slice al list.length cl) := (k0.below hbel).cell.2.2.2.2
        have hbw := below_trans hW0 hbel
        have hsb : (s : Int) ≤ 4194304 := by
          have h2 := sum_take_le (fun x => manyT d x (deep - 1)) list k
          have h3 := hs.out
          omega
        by_cases hkl2 : k < list.length
        · obtain ⟨b, o, x, c0, c1, c2, c3, c4, rfl, _, hx, e0, e1, e2, e3, e4, hval⟩ := (hl.same (hS.same hbw)).cell hkl2
          have hst : Hid (_ = _) := sum_take_step (fun x => manyT d x (deep - 1)) hx
          have hnx := mem_sum_le (nodes d) hx
          have hmx := manyT_le d x (deep - 1)
          clear hx hl
          go_wp2_with fail
          refine (ih S x _ (deep - 1) wr hval (hS.later hbw.size) (by omega) (by omega) (by omega)).mono ?_
          rintro e w1 ⟨rfl, hb1⟩
          have hb2 := below_trans hbel hb1
          clear hb1 hbel hval e0 e1 e2 e3 e4 hc4 hbw
          go_wp2_with fail
          go_roundw
          case rel => exact ⟨k + 1, s + manyT d x (deep - 1), by omega, by go_num, by go_num, by show _ = _; rw [hst.out, hs.out], hb2⟩
          case measure => simp [intOf]; omega
        · have hfin2 := hfin.out s (by rw [hs.out, List.take_of_length_le (by omega)])
          have HF : Hid _ := hfin2
          clear hfin2
          go_wp2_with fail
          go_ret
          rw [← HF.out]
          exact ⟨by simp, hbw⟩

/-- A tree is one. -/
def okT (d : Nat) (t : Tr d) : Bool := formT d t 6 && decide (manyT d t 6 ≤ 60)

set_option maxRecDepth 100000 in
set_option maxHeartbeats 2000000 in
theorem specValOk_any (d : Nat) (S : Nat → Prop) (t : Tr d) (v : Value) (w : World) (hv : ValAt S w d t v) (hS : Within S w) (hsm : (nodes d t : Int) ≤ 4194304) :
    Calls Tryz.prog 19 #[v] w fun e w' => e = .returned (.bool (okT d t)) ∧ Below w.heap.size w w' := by
  obtain ⟨k, n, s, ak, lk, ck, al, ll, cl, rfl⟩ := hv.shape
  have hle := manyT_le d t 6
  have hba := below_alloc1 w (.cells #[.int .i64 k, .int .i64 n, .string s, .slice ak lk ck, .slice al ll cl] 26)
  go_enter Tryz.func19, Tryz.ntmps19
  go_wp2_with fail
  refine (l1Form_any d S t _ 6 _ (hv.same (hS.same hba)) (hS.later hba.size) (by omega) (by omega)).mono ?_
  rintro e w1 ⟨rfl, hb1⟩
  have hb2 := below_trans hba hb1
  have k0 : Blk5 w1 w.heap.size 26 (.int .i64 k) (.int .i64 n) (.string s) (.slice ak lk ck) (.slice al ll cl) := (Blk5.new w _ _ _ _ _ _).below hb1
  obtain ⟨x0, x1, x2, x3, x4⟩ := k0.cell
  clear k0 hb1 hba
  cases hf : formT d t 6 with
  | false =>
    have hfin : Hid (okT d t = false) := by
      show okT d t = false
      rw [okT, hf]
      rfl
    go_wp2_with fail
    go_ret
    rw [hfin.out]
    exact ⟨rfl, hb2⟩
  | true =>
    have hfin : Hid (okT d t = decide (manyT d t 6 ≤ 60)) := by
      show okT d t = _
      rw [okT, hf]
      rfl
    go_wp2_with fail
    refine (l1Many_any d S t _ 6 _ (hv.same (hS.same hb2)) (hS.later hb2.size) (by omega) (by omega) hsm).mono ?_
    rintro e w3 ⟨rfl, hb3⟩
    have hb4 := below_trans hb2 hb3
    clear hb3 hb2 x0 x1 x2 x3 x4 hv
    go_wp2_with fail
    go_ret
    rw [hfin.out]
    exact ⟨by simp; omega, hb4⟩
end Go.Proofs.YtmibjmipndffmaaGreatDoor

/- textOk, keysOk, bare, numOk: the program's own looks at texts, keys and bare parts. -/
namespace Go.Proofs.YtmibjmipndffmaaGreatDoor
open Go.RowKit Go.Deep

theorem decode_high (s : ByteArray) (pos : Nat) (h : pos < s.size) (ha : ¬ (s[pos]'h).toNat < 128) : 128 ≤ (Utf8.decode s pos).1 := by
  have e : s.get! (pos + 0) = s[pos]'h := by
    show s.get! pos = _
    simp [ByteArray.get!, getElem!_pos, h]
    rfl
  simp only [Utf8.decode, e, ha, if_false]
  repeat' split
  all_goals first
    | omega
    | (simp only [Utf8.runeError]; omega)
    | (rename_i h1; simp only [Bool.and_eq_true, decide_eq_true_eq, ge_iff_le] at h1; omega)

theorem run_next_any {P : Program} (w : World) (s : ByteArray) (pos : Nat) (ty : TypeId) (h : pos < s.size) :
    (Instr.next (.pointer (some ⟨w.heap.size, 0, none⟩)) true ty).run P (w.iter s pos) =
      .ok (.tuple #[.bool true, .int .i64 pos, .int .i32 (Utf8.decode s pos).1]) (w.iter s (pos + (Utf8.decode s pos).2)) := by
  simp only [Instr.next, getObj, setObj, Sem.run_bind, Sem.run, World.iter_heap, Result.andThen, h, if_true, World.iter_set]
  simp [goInt]

theorem below_iter (w : World) (s : ByteArray) (pos : Nat) : Below w.heap.size w (w.iter s pos) := below_alloc1 _ _

set_option maxHeartbeats 1000000 in
theorem textOk_any (s : ByteArray) (w : World) (hs : s.size < 281474976710656) :
    Calls Tryz.prog 106 #[.string s] w fun e w' => e = .returned (.bool (strOk s)) ∧ Below w.heap.size w w' := by
  by_cases hl : 12 < s.size
  · have hf : Hid (strOk s = false) := by
      show strOk s = false
      rw [strOk, decide_eq_false (by omega), Bool.and_false]
    go_enter Tryz.func106, Tryz.ntmps106
    go_wp2_with fail
    go_ret
    rw [hf.out]
    exact ⟨rfl, Below.refl _ _⟩
  · have hl2 : s.size ≤ 12 := by omega
    go_enter Tryz.func106, Tryz.ntmps106
    go_wp2_with fail
    go_loopg [2] s.size (fun gk v wr => ∃ k : Nat, k + gk = s.size ∧ v = .bool false ∧ Hid (wr = w.iter s k) ∧ Hid ((s.data.toList.take k).all letterB = true))
    case atStart => exact ⟨0, by omega, rfl, rfl, rfl⟩
    case round =>
      obtain ⟨k, hk, rfl, hwr, ha⟩ := hrel
      have hwr2 := hwr.out
      subst hwr2
      have HK : Hid _ := hk
      clear hk hwr
      by_cases hlt : k < s.size
      · by_cases h8 : s[k].toNat < 128
        · have hnx := fun ty => run_next_ascii (P := Tryz.prog) w s k ty hlt h8
          by_cases h1 : (s[k].toNat : Int) < 97
          · have hf : Hid _ := all_fail hlt (letter_lo h1)
            go_wp2_with fail
            go_ret
            rw [hf.out]
            exact ⟨rfl, below_iter _ _ _⟩
          · by_cases h2 : (122 : Int) < s[k].toNat
            · have hf : Hid _ := all_fail hlt (letter_hi h2)
              go_wp2_with fail
              go_ret
              rw [hf.out]
              exact ⟨rfl, below_iter _ _ _⟩
            · have hf : Hid _ := all_step hlt ha.out (letter_in h1 h2)
              go_wp2_with fail
              go_roundg (gk - 1)
              case rel => exact ⟨k + 1, by have := HK.out; omega, rfl, rfl, hf⟩
              case measure => have := HK.out; omega
        · have hnx := fun ty => run_next_any (P := Tryz.prog) w s k ty hlt
          have hh := decode_high s k hlt h8
          have h2 : (122 : Int) < ((Utf8.decode s k).1 : Int) := by omega
          have h1 : ¬ ((Utf8.decode s k).1 : Int) < 97 := by omega
          have hf : Hid _ := all_fail hlt (letter_hi (by omega))
          clear h8 hh
          go_wp2_with fail
          go_ret
          rw [hf.out]
          exact ⟨rfl, below_iter _ _ _⟩
      · have hnx := fun ty => run_next_end (P := Tryz.prog) w s k ty hlt
        have hf : Hid _ := all_done hlt ha.out
        go_wp2_with fail
        go_ret
        rw [hf.out]
        exact ⟨by simp [hl2], below_iter _ _ _⟩

set_option maxHeartbeats 1000000 in
theorem keysOk_any (S : Nat → Prop) (ss : List ByteArray) (v : Value) (w : World) (hv : StrsAt S w v ss) (hS : Within S w) :
    Calls Tryz.prog 133 #[v] w fun e w' => e = .returned (.bool (keysB ss)) ∧ Below w.heap.size w w' := by
  obtain ⟨a, cap, rfl, hlen⟩ := hv.open'
  go_enter Tryz.func133, Tryz.ntmps133
  go_wp2_with fail
  go_loopw [7] (fun i wr => ∃ k : Nat, k ≤ ss.length ∧ i = .int .i64 k ∧ Below w.heap.size w wr ∧ Hid (keysB ss = keysGo (prevOf ss k) (ss.drop k))) (fun i _ => ss.length - (intOf i).toNat)
  case atStart => exact ⟨0, Nat.zero_le _, rfl, Below.refl _ _, rfl⟩
  case round =>
    obtain ⟨k, hk, rfl, hbel, hfin⟩ := hrel
    have hvr := hv.same (hS.same hbel)
    by_cases hkl : k < ss.length
    · obtain ⟨b, o, s, rfl, hSb, hs, hsz, hck⟩ := hvr.cell hkl
      go_wp2_with fail
      refine (textOk_any s _ hsz).mono ?_
      rintro e w1 ⟨rfl, hb1⟩
      have hb2 := below_trans hbel hb1
      cases h1 : strOk s with
      | false =>
        have hf : Hid (keysB ss = false) := hfin.out.trans (keysGo_bad hs h1)
        clear hfin hs hvr hv hbel hb1 hck
        go_wp2_with fail
        go_ret
        rw [hf.out]
        exact ⟨rfl, hb2⟩
      | true =>
        by_cases h0 : k = 0
        · subst h0
          have hf : Hid (keysB ss = keysGo (prevOf ss 1) (ss.drop 1)) := by
            show keysB ss = _
            rw [hfin.out, keysGo_zero hs, h1]
            rfl
          clear hfin hs hvr hv hbel hb1 hck
          go_wp2_with fail
          go_roundw
          case rel => exact ⟨1, by omega, by go_num, hb2, hf⟩
          case measure => simp [intOf]; omega
        · obtain ⟨b2, o2, s2, hbo, _, hs2, _, hck2⟩ := (hv.same (hS.same hb2)).cell (k := k - 1) (by omega)
          cases hbo
          have hst : Hid (_ = _) := keysGo_pos (by omega) hs2 hs
          have hk0 : 0 < k := by omega
          have hk1 : (1 : Int) ≤ (k : Int) := by omega
          have hk2 : (k : Int) - 1 < (ss.length : Int) := by omega
          have hto : ((k : Int) - 1).toNat = k - 1 := by omega
          cases h2 : ltB s2 s with
          | true =>
            have hf : Hid (keysB ss = keysGo (prevOf ss (k + 1)) (ss.drop (k + 1))) := by
              show keysB ss = _
              rw [hfin.out, hst.out, h1, h2]
              rfl
            unfold ltB at h2
            clear hfin hs hvr hst hs2 hv hbel hb1 hck
            go_wp2_with fail
            go_roundw
            case rel => exact ⟨k + 1, by omega, by go_num, hb2, hf⟩
            case measure => simp [intOf]; omega
          | false =>
            have hf : Hid (keysB ss = false) := by
              show keysB ss = _
              rw [hfin.out, hst.out, h1, h2]
              rfl
            unfold ltB at h2
            clear hfin hs hvr hst hs2 hv hbel hb1 hck
            go_wp2_with fail
            go_ret
            rw [hf.out]
            exact ⟨rfl, hb2⟩
    · go_wp2_with fail
      go_ret
      rw [hfin.out, List.drop_eq_nil_of_le (by omega)]
      refine ⟨?_, hbel⟩
      cases prevOf ss k <;> rfl

set_option maxHeartbeats 400000 in
theorem numOk_any (n : Int) (w : World) :
    Calls Tryz.prog 131 #[.int .i64 n] w fun e w' => e = .returned (.bool (decide (-1000000 ≤ n ∧ n ≤ 1000000))) ∧ w' = w := by
  by_cases h1 : -1000000 ≤ n
  · by_cases h2 : n ≤ 1000000
    · go_enter Tryz.func131, Tryz.ntmps131
      go_wp2_with fail
      go_ret
      exact ⟨by simp; omega, rfl⟩
    · go_enter Tryz.func131, Tryz.ntmps131
      go_wp2_with fail
      go_ret
      exact ⟨by simp; omega, rfl⟩
  · go_enter Tryz.func131, Tryz.ntmps131
    go_wp2_with fail
    go_ret
    exact ⟨by simp; omega, rfl⟩

/-- A part has nothing but its kind. -/
def bareB (num : Int) (str : ByteArray) (nk nl : Nat) : Bool := num == 0 && str.toList == [] && nk == 0 && nl == 0

set_option maxHeartbeats 1000000 in
theorem bare_any (kind num : Int) (str : ByteArray) (nk nl : Nat) (ak al : Option Addr) (ck cl : Nat) (w : World) (hkl : nk < 17592186044416) (hll : nl < 3518437208883) :
    Calls Tryz.prog 130 #[.agg #[.int .i64 kind, .int .i64 num, .string str, .slice ak nk ck, .slice al nl cl]] w
      fun e w' => e = .returned (.bool (bareB num str nk nl)) ∧ Below w.heap.size w w' := by
  cases h1 : (num == 0) with
  | false =>
    have hf : Hid (bareB num str nk nl = false) := by show bareB num str nk nl = false; rw [bareB, h1]; rfl
    go_enter Tryz.func130, Tryz.ntmps130
    go_wp2_with fail
    go_ret
    rw [hf.out]
    exact ⟨rfl, below_alloc1 _ _⟩
  | true =>
  cases h2 : (str.toList == []) with
  | false =>
    have hf : Hid (bareB num str nk nl = false) := by show bareB num str nk nl = false; rw [bareB, h1, h2]; rfl
    have h2' : ¬ str.toList = [] := by simpa using h2
    go_enter Tryz.func130, Tryz.ntmps130
    go_wp2_with fail
    go_ret
    rw [hf.out]
    exact ⟨rfl, below_alloc1 _ _⟩
  | true =>
  have h2' : str.toList = [] := by simpa using h2
  cases h3 : (nk == 0) with
  | false =>
    have hf : Hid (bareB num str nk nl = false) := by show bareB num str nk nl = false; rw [bareB, h1, h2, h3]; rfl
    have h3' : ((nk : Int) == 0) = false := by rw [beq_eq_false_iff_ne] at h3 ⊢; omega
    clear h3 h2
    go_enter Tryz.func130, Tryz.ntmps130
    go_wp2_with fail
    go_ret
    rw [hf.out]
    exact ⟨rfl, below_alloc1 _ _⟩
  | true =>
  obtain rfl : nk = 0 := by simpa using h3
  cases h4 : (nl == 0) with
  | false =>
    have hf : Hid (bareB num str 0 nl = false) := by show bareB num str 0 nl = false; rw [bareB, h1, h2, h4]; rfl
    have h4' : ((nl : Int) == 0) = false := by rw [beq_eq_false_iff_ne] at h4 ⊢; omega
    clear h4 h2 h3
    go_enter Tryz.func130, Tryz.ntmps130
    go_wp2_with fail
    go_ret
    rw [hf.out]
    exact ⟨rfl, below_alloc1 _ _⟩
  | true =>
    have hf : Hid (bareB num str 0 nl = true) := by show bareB num str 0 nl = true; rw [bareB, h1, h2, h4]; rfl
    obtain rfl : nl = 0 := by simpa using h4
    clear h4 h2 h3
    go_enter Tryz.func130, Tryz.ntmps130
    go_wp2_with fail
    go_ret
    rw [hf.out]
    exact ⟨rfl, below_alloc1 _ _⟩
end Go.Proofs.YtmibjmipndffmaaGreatDoor

/- The program's own trees: how they lie in memory; take; mapTreeOf. -/
namespace Go.Proofs.YtmibjmipndffmaaGreatDoor
open Go.RowKit Go.Deep

/-- A world that has all that W has, and maybe more. -/
structure Ext (W : World) where
  now : World
  from_ : Below W.heap.size W now

theorem Ext.some (W : World) : Nonempty (Ext W) := ⟨⟨W, Below.refl _ _⟩⟩

/-- A region that draws its order and whose calls give one value in every such world. -/
theorem wp_region_ext {P : Program} {id : Nat} {Q : Exit → Act → World → Prop} {a : Act} {W : World} {l : List Oper} (hm : P.follows .mixedOrders = true) (hB : Region.lexB .any l.toArray = true)
    (h : wpQuiet P l.toArray (fun w' => ∃ n : Ext W, w' = n.now) (fun a' => ∀ w', (∃ n : Ext W, w' = n.now) → Q .normal a' w') l a) : (Code.region id l.toArray true).wp P Q a W :=
  wp_region_quiet (C := fun w' => ∃ n : Ext W, w' = n.now) hm hB ⟨⟨{ W with drawn := W.drawn + 1 }, ⟨rfl, rfl, rfl, Nat.le_refl _, fun _ _ => rfl⟩⟩, rfl⟩ (by simpa using h)
theorem Calls.ext_of {P : Program} {f : FuncId} {args : Array Value} {W : World} {n : Ext W} {v : Value}
    (h : Calls P f args n.now fun e w' => e = .returned v ∧ Below n.now.heap.size n.now w') : Calls P f args n.now fun e w'' => e = .returned v ∧ ∃ m : Ext W, w'' = m.now :=
  h.mono fun _ _ ⟨he, hm⟩ => ⟨he, ⟨_, below_trans n.from_ hm⟩, rfl⟩
theorem Calls.ext_same {P : Program} {f : FuncId} {args : Array Value} {W : World} {n : Ext W} {v : Value}
    (h : Calls P f args n.now fun e w' => e = .returned v ∧ w' = n.now) : Calls P f args n.now fun e w'' => e = .returned v ∧ ∃ m : Ext W, w'' = m.now :=
  h.mono fun _ _ ⟨he, hm⟩ => ⟨he, n, hm⟩

/-- Of what was there only block rb may have turned. -/
abbrev But (rb : Nat) (w w' : World) : Prop := w.grownBy w' (some rb)
theorem But.refl (rb : Nat) (w : World) : But rb w w := ⟨rfl, rfl, rfl, Nat.le_refl _, fun _ _ _ => rfl⟩
theorem But.trans {rb : Nat} {a b c : World} (h : But rb a b) (k : But rb b c) : But rb a c :=
  ⟨k.os.trans h.os, k.tape.trans h.tape, k.output.trans h.output, Nat.le_trans h.size k.size, fun i hi hn => (k.block i (Nat.lt_of_lt_of_le hi h.size) hn).trans (h.block i hi hn)⟩
theorem But.of_below {rb : Nat} {w w' : World} (h : Below w.heap.size w w') : But rb w w' := ⟨h.os, h.tape, h.output, h.size, fun i hi _ => h.block i hi⟩
theorem But.same {rb : Nat} {S : Nat → Prop} {w w' : World} (h : But rb w w') (hS : Within S w) (hn : ¬ S rb) : Same S w w' :=
  fun b hb => h.block b (hS b hb) (fun e => by cases e; exact hn hb)
theorem But.set (rb : Nat) (w : World) (o : Nat) (u : Value) : But rb w (w.setCell ⟨rb, o, none⟩ u) :=
  ⟨rfl, rfl, rfl, by simp [World.setCell], fun i _ hn => Below.heap_setCell _ _ _ _ (fun e => hn (by rw [e]))⟩
theorem But.cell {rb : Nat} {w w' : World} (h : But rb w w') {b o : Nat} (hb : b < w.heap.size) (hn : b ≠ rb) : w'.cell? ⟨b, o, none⟩ = w.cell? ⟨b, o, none⟩ :=
  World.cell?_of_block (w := w) (h.block b hb (fun e => by cases e; exact hn rfl))

/-- How much room is left: one cell of its own. -/
def Room (w : World) (rb : Nat) (left : Int) : Prop := w.heap[rb]? = some (.cells #[.int .i64 left] 135 (0, 0))
theorem Room.cell {w : World} {rb : Nat} {left : Int} (h : Room w rb left) : w.cell? ⟨rb, 0, none⟩ = some (.int .i64 left) := by
  unfold Room at h
  simp [World.cell?, h]
theorem Room.frozen {w : World} {rb : Nat} {left : Int} (h : Room w rb left) (o : Nat) : w.frozen? ⟨rb, o, none⟩ = false := by
  unfold Room at h
  simp [World.frozen?, h]
theorem Room.lt {w : World} {rb : Nat} {left : Int} (h : Room w rb left) : rb < w.heap.size := (Array.getElem?_eq_some_iff.1 h).1
theorem Room.set {w : World} {rb : Nat} {left : Int} (h : Room w rb left) (l : Int) : Room (w.setCell ⟨rb, 0, none⟩ (.int .i64 l)) rb l := by
  unfold Room at h ⊢
  simp [World.setCell, Array.getElem?_modify, h]
theorem Room.below {w w' : World} {rb : Nat} {left : Int} (h : Room w rb left) (hb : Below w.heap.size w w') : Room w' rb left := (hb.block rb h.lt).trans h

/-- Is there room for a part that has so many around it? -/
def takeB (left deep : Int) : Bool := decide (left ≠ 0 ∧ deep ≤ 6)
def leftTo (left deep : Int) : Int := if takeB left deep = true then left - 1 else left

set_option maxHeartbeats 400000 in
theorem take_any (rb : Nat) (left deep : Int) (w : World) (hr : Room w rb left) (h0 : 0 ≤ left) (h1 : left ≤ 1000) :
    Calls Tryz.prog 129 #[.pointer (some ⟨rb, 0, none⟩), .int .i64 deep] w fun e w' =>
      e = .returned (.bool (takeB left deep)) ∧ Room w' rb (leftTo left deep) ∧ But rb w w' ∧ w'.heap.size = w.heap.size := by
  have hc := hr.cell
  have hf := hr.frozen 0
  have HR : Hid (Room w rb left) := hr
  clear hr
  by_cases hz : left = 0
  · subst hz
    have h2 : Hid (takeB 0 deep = false ∧ leftTo 0 deep = 0) := ⟨by simp [takeB], by simp [leftTo, takeB]⟩
    go_enter Tryz.func129, Tryz.ntmps129
    go_wp2_with fail
    go_ret
    rw [h2.out.1, h2.out.2]
    exact ⟨rfl, HR.out, But.refl _ _, rfl⟩
  · have hz' : (left == 0) = false := by simpa using hz
    by_cases hd : deep ≤ 6
    · have HH : Hid (Room (w.setCell ⟨rb, 0, none⟩ (.int .i64 (left - 1))) rb (left - 1) ∧ But rb w (w.setCell ⟨rb, 0, none⟩ (.int .i64 (left - 1)))) :=
        ⟨Room.set HR.out (left - 1), But.set rb w 0 (.int .i64 (left - 1))⟩
      have h2 : Hid (takeB left deep = true ∧ leftTo left deep = left - 1) := ⟨by simp [takeB, hz, hd], by simp [leftTo, takeB, hz, hd]⟩
      go_enter Tryz.func129, Tryz.ntmps129
      go_wp2_with fail
      go_ret
      rw [h2.out.1, h2.out.2]
      exact ⟨rfl, HH.out.1, HH.out.2, by simp [World.setCell]⟩
    · have h2 : Hid (takeB left deep = false ∧ leftTo left deep = left) := ⟨by simp [takeB, hd], by simp [leftTo, takeB, hd]⟩
      go_enter Tryz.func129, Tryz.ntmps129
      go_wp2_with fail
      go_ret
      rw [h2.out.1, h2.out.2]
      exact ⟨rfl, HR.out, But.refl _ _, rfl⟩

/-- A slice of things of one cell each that lies in blocks of S. -/
def Row1At {α : Type} (S : Nat → Prop) (w : World) (At : α → Value → Prop) (v : Value) (xs : List α) : Prop :=
  xs.length < 17592186044416 ∧
  ∃ a cap, v = .slice a xs.length cap ∧
    (xs = [] ∨ ∃ b o, S b ∧ a = some ⟨b, o, none⟩ ∧ ∀ i x, xs[i]? = some x → ∃ u, w.cell? ⟨b, o + i, none⟩ = some u ∧ At x u)
/-- The entries of a map that was filled in order. -/
def MapIs {α : Type} (At : α → Value → Prop) (es : Array MapEntry) (keys : List ByteArray) (xs : List α) : Prop :=
  es.size = keys.length ∧ keys.length = xs.length ∧ ∀ (i : Nat) (k : ByteArray) (x : α), keys[i]? = some k → xs[i]? = some x → ∃ u, es[i]? = some ⟨.string k, u, i⟩ ∧ At x u
/-- One of the program's own trees that lies in blocks of S. -/
def TreeAt (S : Nat → Prop) (w : World) : (d : Nat) → Tr d → Value → Prop
  | 0, _, _ => False
  | d + 1, t, v =>
    ((Nd.kind t = 0 ∨ Nd.kind t = 1 ∨ Nd.kind t = 2) ∧ v = .iface 91 (.agg #[.int .i64 (Nd.kind t)])) ∨
    (Nd.kind t = 3 ∧ v = .iface 157 (.agg #[.int .i64 (Nd.num t)])) ∨
    (Nd.kind t = 4 ∧ v = .iface 155 (.agg #[.string (Nd.str t)])) ∨
    (Nd.kind t = 5 ∧ ∃ sv, v = .iface 148 (.agg #[sv]) ∧ Row1At S w (TreeAt S w d) sv (Nd.list t)) ∨
    (Nd.kind t = 6 ∧ ∃ r es, v = .iface 145 (.agg #[.map (some r)]) ∧ S r ∧ w.heap[r]? = some (.map es (Nd.keys t).length) ∧ MapIs (TreeAt S w d) es (Nd.keys t) (Nd.list t))

theorem Row1At.moved {α : Type} {S S' : Nat → Prop} {w w' : World} {At At' : α → Value → Prop} {v : Value} {xs : List α} (h : Row1At S w At v xs) (hs : Same S w w') (hS : ∀ b, S b → S' b)
    (hi : ∀ x u, At x u → At' x u) : Row1At S' w' At' v xs := by
  obtain ⟨h1, a, cap, hv, h3⟩ := h
  refine ⟨h1, a, cap, hv, ?_⟩
  rcases h3 with h3 | ⟨b, o, hB, ha, hc⟩
  · exact Or.inl h3
  · refine Or.inr ⟨b, o, hS _ hB, ha, fun i x hx => ?_⟩
    obtain ⟨u, e0, e1⟩ := hc i x hx
    exact ⟨u, (hs.cell hB).trans e0, hi _ _ e1⟩
theorem MapIs.moved {α : Type} {At At' : α → Value → Prop} {es : Array MapEntry} {keys : List ByteArray} {xs : List α} (h : MapIs At es keys xs) (hi : ∀ x u, At x u → At' x u) : MapIs At' es keys xs := by
  obtain ⟨h1, h2, h3⟩ := h
  refine ⟨h1, h2, fun i k x hk hx => ?_⟩
  obtain ⟨u, e, hu⟩ := h3 i k x hk hx
  exact ⟨u, e, hi _ _ hu⟩
theorem TreeAt.moved {S S' : Nat → Prop} {w w' : World} (hs : Same S w w') (hS : ∀ b, S b → S' b) : ∀ (d : Nat) (t : Tr d) (v : Value), TreeAt S w d t v → TreeAt S' w' d t v
  | 0, _, _, h => h
  | d + 1, t, v, h => by
    rcases h with h | h | h | ⟨hk, sv, hv, hr⟩ | ⟨hk, r, es, hv, hr, hm, he⟩
    · exact Or.inl h
    · exact Or.inr (Or.inl h)
    · exact Or.inr (Or.inr (Or.inl h))
    · exact Or.inr (Or.inr (Or.inr (Or.inl ⟨hk, sv, hv, hr.moved hs hS (fun x u hx => TreeAt.moved hs hS d x u hx)⟩)))
    · exact Or.inr (Or.inr (Or.inr (Or.inr ⟨hk, r, es, hv, hS _ hr, (hs r hr).trans hm, he.moved (fun x u hx => TreeAt.moved hs hS d x u hx)⟩)))
/-- It is one cell. -/
theorem TreeAt.iface {S : Nat → Prop} {w : World} {d : Nat} {t : Tr d} {v : Value} (h : TreeAt S w d t v) : ∃ T u, v = .iface T u := by
  cases d with
  | zero => exact h.elim
  | succ d =>
    rcases h with h | h | h | ⟨hk, sv, hv, hr⟩ | ⟨hk, r, es, hv, hr⟩
    · exact ⟨_, _, h.2⟩
    · exact ⟨_, _, h.2⟩
    · exact ⟨_, _, h.2⟩
    · exact ⟨_, _, hv⟩
    · exact ⟨_, _, hv⟩
theorem Row1At.open' {α : Type} {S : Nat → Prop} {w : World} {At : α → Value → Prop} {v : Value} {xs : List α} (h : Row1At S w At v xs) : ∃ a cap, v = .slice a xs.length cap ∧ xs.length < 17592186044416 := by
  obtain ⟨h1, a, cap, hv, _⟩ := h
  exact ⟨a, cap, hv, h1⟩
theorem Row1At.cell {α : Type} {S : Nat → Prop} {w : World} {At : α → Value → Prop} {a : Option Addr} {n cap k : Nat} {xs : List α} (h : Row1At S w At (.slice a n cap) xs) (hk : k < xs.length) :
    ∃ b o x u, a = some ⟨b, o, none⟩ ∧ S b ∧ xs[k]? = some x ∧ w.cell? ⟨b, o + k, none⟩ = some u ∧ At x u := by
  obtain ⟨h1, a', cap', hv, h3⟩ := h
  cases hv
  rcases h3 with rfl | ⟨b, o, hB, ha, hc⟩
  · simp at hk
  · obtain ⟨u, e0, e1⟩ := hc k _ (List.getElem?_eq_getElem hk)
    exact ⟨b, o, xs[k], u, ha, hB, List.getElem?_eq_getElem hk, e0, e1⟩

/-- A map that is written out, one block. -/
def withObj (w : World) (r : Nat) (o : Obj) : World := { w with heap := w.heap.setIfInBounds r o }
theorem withObj_block (w : World) (r : Nat) (o : Obj) (k : Nat) (h : k ≠ r) : (withObj w r o).heap[k]? = w.heap[k]? := by
  show (w.heap.setIfInBounds r o)[k]? = _
  rw [Array.getElem?_setIfInBounds, if_neg (fun e => h e.symm)]
theorem withObj_at (w : World) (r : Nat) (o : Obj) (h : r < w.heap.size) : (withObj w r o).heap[r]? = some o := by
  show (w.heap.setIfInBounds r o)[r]? = _
  simp [h]
theorem withObj_size (w : World) (r : Nat) (o : Obj) : (withObj w r o).heap.size = w.heap.size := by
  show (w.heap.setIfInBounds r o).size = _
  simp

theorem findNow_none (s : ByteArray) : ∀ (l : List MapEntry) (i : Nat), (∀ e ∈ l, ∃ k, e.key = .string k ∧ k ≠ s) → Instr.findNow .string (.string s) l i = some none
  | [], _, _ => rfl
  | e :: r, i, h => by
    obtain ⟨k, hk, hn⟩ := h e (by simp)
    have hb : (s == k) = false := by
      cases hb : (s == k)
      · rfl
      · exact absurd ((MapKept.bytes_beq s k).1 hb).symm hn
    simp only [Instr.findNow, hk, Instr.sameNow, hb]
    exact findNow_none s r (i + 1) (fun e he => h e (by simp [he]))

theorem run_mapPush (w : World) (r clock : Nat) (es : Array MapEntry) (s : ByteArray) (u : Value) (hb : w.heap[r]? = some (.map es clock)) (hn : ∀ e ∈ es.toList, ∃ k, e.key = .string k ∧ k ≠ s) :
    (Instr.mapUpdate 87 (.map (some r)) (.string s) u).run Tryz.prog w = .ok () (withObj w r (.map (es.push ⟨.string s, u, clock⟩) (clock + 1))) := by
  have hf := findNow_none s es.toList 0 hn
  have hk : (Instr.checkKey false 10000 9 (.string s)).run Tryz.prog w = .ok () w := by
    exact MapKept.run_checkKey (P := Tryz.prog) (w := w) (k := .string s) Tryz.underlying9 trivial false 9999
  have hfk := MapKept.run_findKey (P := Tryz.prog) (w := w) Tryz.underlying9 hf
  simp [Instr.mapUpdate, run_underlying Tryz.underlying87, getObj, setObj, Sem.run, hb, hk, hfk, withObj]

theorem bytesLess_trans : ∀ a b c : List UInt8, Op.bytesLess a b = true → Op.bytesLess b c = true → Op.bytesLess a c = true
  | _, [], _, h, _ => by cases ‹List UInt8› <;> simp [Op.bytesLess] at h
  | _, _ :: _, [], _, h => by simp [Op.bytesLess] at h
  | [], _ :: _, _ :: _, _, _ => rfl
  | a :: x, b :: y, c :: z, h, k => by
    have ih := bytesLess_trans x y z
    simp only [Op.bytesLess, Bool.or_eq_true, Bool.and_eq_true, decide_eq_true_eq, beq_iff_eq] at h k ⊢
    rcases h with h | ⟨h1, h2⟩
    · rcases k with k | ⟨k1, k2⟩
      · exact Or.inl (by rw [UInt8.lt_iff_toNat_lt] at *; omega)
      · subst k1; exact Or.inl h
    · subst h1
      rcases k with k | ⟨k1, k2⟩
      · exact Or.inl k
      · exact Or.inr ⟨k1, ih h2 k2⟩
theorem keysGo_all : ∀ (ss : List ByteArray) (p : ByteArray), keysGo (some p) ss = true → ∀ s ∈ ss, ltB p s = true
  | [], _, _, _, h => by cases h
  | a :: r, p, h, s, hs => by
    simp only [keysGo, Bool.and_eq_true] at h
    cases hs with
    | head => exact h.2.1
    | tail _ hs => exact bytesLess_trans _ _ _ h.2.1 (keysGo_all r a h.2.2 s hs)
theorem keysGo_pair : ∀ (ss : List ByteArray) (p : Option ByteArray), keysGo p ss = true → ss.Pairwise (fun a b => ltB a b = true)
  | [], _, _ => List.Pairwise.nil
  | a :: r, none, h => by
    simp only [keysGo, Bool.and_eq_true] at h
    exact List.Pairwise.cons (keysGo_all r a h.2) (keysGo_pair r _ h.2)
  | a :: r, some p, h => by
    simp only [keysGo, Bool.and_eq_true] at h
    exact List.Pairwise.cons (keysGo_all r a h.2.2) (keysGo_pair r _ h.2.2)
/-- Keys in order are each once. -/
theorem keysB_ne {ss : List ByteArray} (h : keysB ss = true) {i j : Nat} (hij : i < j) {a b : ByteArray} (ha : ss[i]? = some a) (hb : ss[j]? = some b) : a ≠ b := by
  obtain ⟨hi, ea⟩ := List.getElem?_eq_some_iff.1 ha
  obtain ⟨hj, eb⟩ := List.getElem?_eq_some_iff.1 hb
  have hp := List.pairwise_iff_getElem.1 (keysGo_pair ss none h) i j hi hj hij
  rw [ea, eb] at hp
  intro e
  subst e
  unfold ltB at hp
  rw [bytesLess_irrefl] at hp
  cases hp

/-- The first k entries of a map that is being filled. -/
def MapTo {α : Type} (At : α → Value → Prop) (es : Array MapEntry) (keys : List ByteArray) (xs : List α) (k : Nat) : Prop :=
  es.size = k ∧ ∀ (i : Nat) (s : ByteArray) (x : α), i < k → keys[i]? = some s → xs[i]? = some x → ∃ u, es[i]? = some ⟨.string s, u, i⟩ ∧ At x u
theorem MapTo.step {α : Type} {At : α → Value → Prop} {es : Array MapEntry} {keys : List ByteArray} {xs : List α} {k : Nat} (h : MapTo At es keys xs k) {s : ByteArray} {x : α} {u : Value}
    (hs : keys[k]? = some s) (hx : xs[k]? = some x) (hu : At x u) : MapTo At (es.push ⟨.string s, u, k⟩) keys xs (k + 1) := by
  obtain ⟨h1, h2⟩ := h
  refine ⟨by simp [h1], fun i s' x' hi hs' hx' => ?_⟩
  by_cases e : i = k
  · subst e
    rw [hs] at hs'
    rw [hx] at hx'
    cases hs'
    cases hx'
    exact ⟨u, by simp [← h1], hu⟩
  · obtain ⟨v, hv, ha⟩ := h2 i s' x' (by omega) hs' hx'
    exact ⟨v, by rw [Array.getElem?_push, if_neg (by omega)]; exact hv, ha⟩
theorem MapTo.new {α : Type} {At : α → Value → Prop} {es : Array MapEntry} {keys : List ByteArray} {xs : List α} {k : Nat} (h : MapTo At es keys xs k) (hq : keys.length = xs.length) (hk : keysB keys = true) {s : ByteArray} (hs : keys[k]? = some s) :
    ∀ e ∈ es.toList, ∃ k', e.key = .string k' ∧ k' ≠ s := by
  obtain ⟨h1, h2⟩ := h
  intro e he
  obtain ⟨i, hi, rfl⟩ := List.getElem_of_mem he
  have hi' : i < k := by simpa [h1] using hi
  have hkl := (List.getElem?_eq_some_iff.1 hs).1
  obtain ⟨u, hu, _⟩ := h2 i keys[i] xs[i] hi' (List.getElem?_eq_getElem (by omega)) (List.getElem?_eq_getElem (by omega))
  refine ⟨keys[i], ?_, keysB_ne hk hi' (List.getElem?_eq_getElem (by omega)) hs⟩
  have : es.toList[i]? = some ⟨.string keys[i], u, i⟩ := by rw [Array.getElem?_toList]; exact hu
  rw [List.getElem?_eq_getElem hi] at this
  rw [Option.some.inj this]

set_option maxHeartbeats 1000000 in
theorem mapTreeOf_any {α : Type} (S S' : Nat → Prop) (At : α → Value → Prop) (keys : List ByteArray) (xs : List α) (vk vl : Value) (w : World) (hk : StrsAt S w vk keys) (hl : Row1At S' w At vl xs)
    (hS : Within S w) (hS' : Within S' w) (hq : keys.length = xs.length) (hkb : keysB keys = true) :
    Calls Tryz.prog 134 #[vk, vl] w fun e w' => ∃ es, e = .returned (.iface 145 (.agg #[.map (some w.heap.size)])) ∧ w'.heap[w.heap.size]? = some (.map es keys.length) ∧ MapIs At es keys xs ∧ Below w.heap.size w w' := by
  obtain ⟨ak, ck, rfl, hkl⟩ := hk.open'
  obtain ⟨al, cl, rfl, hll⟩ := hl.open'
  have HQ : Hid (keys.length = xs.length) := hq
  clear hq
  have hmk := fun w => run_makeMap (P := Tryz.prog) 87 w
  have hb0 : Hid (Below w.heap.size w (w.alloc (.map #[] 0))) := below_alloc1 _ _
  have hn0 : Hid ((w.alloc (.map #[] 0)).heap[w.heap.size]? = some (.map #[] 0)) := heap_alloc_new w _
  go_enter Tryz.func134, Tryz.ntmps134
  go_wp2_with fail
  go_loopw [11] (fun i wr => ∃ (k : Nat) (es : Array MapEntry), k ≤ keys.length ∧ i = .int .i64 k ∧ Hid (wr.heap[w.heap.size]? = some (.map es k)) ∧ Hid (MapTo At es keys xs k) ∧ Below w.heap.size w wr) (fun i _ => keys.length - (intOf i).toNat)
  case atStart => exact ⟨0, #[], Nat.zero_le _, rfl, hn0, ⟨rfl, fun i s x hi => by omega⟩, hb0.out⟩
  case round =>
    clear hmk hb0 hn0
    obtain ⟨k, es, hkk, rfl, hobj, hmap, hbel⟩ := hrel
    by_cases hlt : k < keys.length
    · obtain ⟨b, o, s, rfl, _, hs, _, hck⟩ := (hk.same (hS.same hbel)).cell hlt
      obtain ⟨b2, o2, x, u, rfl, _, hx, hcx, hu⟩ := (hl.moved (hS'.same hbel) (fun _ h => h) (fun _ _ h => h)).cell (k := k) (by have := HQ.out; omega)
      have hrun := run_mapPush wr w.heap.size k es s u hobj.out (hmap.out.new HQ.out hkb hs)
      have hxl : k < xs.length := by have := HQ.out; omega
      obtain ⟨W1, hW1⟩ : ∃ W1, W1 = withObj wr w.heap.size (.map (es.push ⟨.string s, u, k⟩) (k + 1)) := ⟨_, rfl⟩
      rw [← hW1] at hrun
      have hobj' : Hid (W1.heap[w.heap.size]? = some (.map (es.push ⟨.string s, u, k⟩) (k + 1))) := by
        show W1.heap[w.heap.size]? = _
        rw [hW1]
        exact withObj_at _ _ _ (Array.getElem?_eq_some_iff.1 hobj.out).1
      have hmap' : Hid (MapTo At (es.push ⟨.string s, u, k⟩) keys xs (k + 1)) := hmap.out.step hs hx hu
      have hbel' : Below w.heap.size w W1 := hbel.trans ⟨by rw [hW1]; rfl, by rw [hW1]; rfl, by rw [hW1]; rfl, by rw [hW1, withObj_size]; exact Nat.le_refl _, fun j hj => by rw [hW1]; exact withObj_block _ _ _ _ (by omega)⟩
      have HB : Hid _ := hbel'
      clear hbel' hW1 hobj hmap hbel hk hl hs hx hu
      go_wp2_with fail
      go_roundw
      case rel => exact ⟨k + 1, _, by omega, by go_num, hobj', hmap', HB.out⟩
      case measure => simp [intOf]; omega
    · obtain rfl : k = keys.length := by omega
      go_wp2_with fail
      go_ret
      exact ⟨es, rfl, hobj.out, ⟨hmap.out.1, HQ.out, fun i s x hs hx => hmap.out.2 i s x (List.getElem?_eq_some_iff.1 hs).1 hs hx⟩, hbel⟩
end Go.Proofs.YtmibjmipndffmaaGreatDoor
