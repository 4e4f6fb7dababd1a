/- Texts of the proof, put together by program: WForm, WToB, WMany, WImplA. -/
import Derived.Test.YtilgbnnjecpneaaGreatDoorV1
import Derived.Deep.LoopGhost
/- l1Form, l1Many, ValOk of the model: rows and maps. -/
namespace Go.Proofs.YtilgbnnjecpneaaGreatDoor
open Go.RowKit Go.Deep

theorem all_drop {α : Type} (f : α → Bool) {xs : List α} {k : Nat} {x : α} (h : xs[k]? = some x) : (xs.drop k).all f = (f x && (xs.drop (k + 1)).all f) := by
  obtain ⟨hk, e⟩ := List.getElem?_eq_some_iff.1 h
  rw [List.drop_eq_getElem_cons hk, e, List.all_cons]

set_option maxHeartbeats 2000000 in
theorem l1Form_row (d : Nat) (ih : FormVal d) (S : Nat → Prop) (str : ByteArray) (list : List (Tr d)) (deep : Int) (ak al : Option Addr) (ck cl : Nat) (w : World)
    (hl : RowAt S w (ValAt S w d) (.slice al list.length cl) list) (hS : Within S w) (h0 : -1000 ≤ deep) (h1 : deep ≤ 1000) (hll : list.length < 3518437208883) (hd : ¬ deep < 1) (hs : str.toList = []) (FIN : Bool) (hfin : FIN = list.all (fun x => formT d x (deep - 1))) :
    Calls Tryz.prog 87 #[.agg #[.int .i64 5, .int .i64 0, .string str, .slice ak 0 ck, .slice al list.length cl], .int .i64 deep] w
      fun e w' => e = .returned (.bool FIN) ∧ Below w.heap.size w w' := by
  have hfin' : Hid (FIN = (list.drop 0).all (fun x => formT d x (deep - 1))) := hfin
  clear hfin
  have hfin := hfin'
  clear hfin'
  go_enter Tryz.func87, Tryz.ntmps87
  go_wp2_with fail
  obtain ⟨W0, hW⟩ : ∃ W0, W0 = w.alloc (.cells #[.int .i64 5, .int .i64 0, .string str, .slice ak 0 ck, .slice al list.length cl] 29) := ⟨_, rfl⟩
  rw [← hW]
  have k0 : Blk5 W0 w.heap.size 29 (.int .i64 5) (.int .i64 0) (.string str) (.slice ak 0 ck) (.slice al list.length cl) := by rw [hW]; exact Blk5.new _ _ _ _ _ _ _
  have hW0 : Below w.heap.size w W0 := by rw [hW]; exact below_alloc1 _ _
  clear hW
  go_loopw [5] (fun i wr => ∃ k : Nat, k ≤ list.length ∧ i = .int .i64 k ∧ Below W0.heap.size W0 wr ∧ Hid (FIN = (list.drop k).all (fun x => formT d x (deep - 1)))) (fun i _ => list.length - (intOf i).toNat)
  case atStart => exact ⟨0, Nat.zero_le _, rfl, Below.refl _ _, hfin⟩
  case round =>
    clear hfin
    obtain ⟨k, hkk, rfl, hbel, hfin⟩ := hrel
    have hc4 : wr.cell? ⟨w.heap.size, 4, none⟩ = some (.slice al list.length cl) := (k0.below hbel).cell.2.2.2.2
    have hbw := below_trans hW0 hbel
    by_cases hkl2 : k < list.length
    · obtain ⟨b, o, x, c0, c1, c2, c3, c4, rfl, _, hx, e0, e1, e2, e3, e4, hval⟩ := (hl.same (hS.same hbw)).cell hkl2
      have hst : Hid (_ = _) := all_drop (fun x => formT d x (deep - 1)) hx
      clear hx hl
      go_wp2_with fail
      refine (ih S x _ (deep - 1) wr hval (hS.later hbw.size) (by omega) (by omega)).mono ?_
      rintro e w1 ⟨rfl, hb1⟩
      have hb2 := below_trans hbel hb1
      have hb3 := below_trans hbw hb1
      clear hb1 hbel hval e0 e1 e2 e3 e4 hc4 hbw
      cases hf : formT d x (deep - 1) with
      | false =>
        have hfin2 : Hid (FIN = false) := by
          show FIN = false
          rw [hfin.out, hst.out, hf]
          rfl
        clear hfin hst
        go_wp2_with fail
        go_ret
        rw [hfin2.out]
        exact ⟨rfl, hb3⟩
      | true =>
        have hfin2 : Hid (FIN = (list.drop (k + 1)).all (fun x => formT d x (deep - 1))) := by
          show FIN = _
          rw [hfin.out, hst.out, hf]
          rfl
        clear hfin hst
        go_wp2_with fail
        go_roundw
        case rel => exact ⟨k + 1, by omega, by go_num, hb2, hfin2⟩
        case measure => simp [intOf]; omega
    · go_wp2_with fail
      go_ret
      rw [hfin.out, List.drop_eq_nil_of_le (by omega)]
      exact ⟨rfl, hbw⟩


set_option maxHeartbeats 2000000 in
theorem l1Form_map (d : Nat) (ih : FormVal d) (S : Nat → Prop) (str : ByteArray) (keys : List ByteArray) (list : List (Tr d)) (deep : Int) (ak al : Option Addr) (ck cl : Nat) (w : World)
    (hk : StrsAt S w (.slice ak keys.length ck) keys) (hl : RowAt S w (ValAt S w d) (.slice al list.length cl) list) (hS : Within S w) (h0 : -1000 ≤ deep) (h1 : deep ≤ 1000) (hll : list.length < 3518437208883) (hd : ¬ deep < 1) (hs : str.toList = []) (FIN : Bool)
    (hfin : FIN = (keys.length == list.length && keysB keys && list.all (fun x => formT d x (deep - 1)))) :
    Calls Tryz.prog 87 #[.agg #[.int .i64 6, .int .i64 0, .string str, .slice ak keys.length ck, .slice al list.length cl], .int .i64 deep] w
      fun e w' => e = .returned (.bool FIN) ∧ Below w.heap.size w w' := by
  cases hq : (keys.length == list.length) with
  | false =>
    have hfin2 : Hid (FIN = false) := by
      show FIN = false
      rw [hfin, hq]
      rfl
    have hq2 : ((keys.length : Int) != (list.length : Int)) = true := by
      rw [bne_iff_ne]
      have := beq_eq_false_iff_ne.1 hq
      omega
    clear hfin hq
    go_enter Tryz.func87, Tryz.ntmps87
    go_wp2_with fail
    go_ret
    rw [hfin2.out]
    exact ⟨rfl, below_alloc1 _ _⟩
  | true =>
  have hq2 : ((keys.length : Int) != (list.length : Int)) = false := by
    rw [bne_eq_false_iff_eq]
    have := beq_iff_eq.1 hq
    omega
  have hfin2 : Hid (FIN = (keysB keys && list.all (fun x => formT d x (deep - 1)))) := by
    show FIN = _
    rw [hfin, hq]
    rfl
  clear hfin hq
  go_enter Tryz.func87, Tryz.ntmps87
  go_wp2_with fail
  have hba := below_alloc1 w (.cells #[.int .i64 6, .int .i64 0, .string str, .slice ak keys.length ck, .slice al list.length cl] 29)
  refine (l1Keys_any S keys _ _ (hk.same (hS.same hba))).mono ?_
  rintro e w1 ⟨rfl, n, rfl⟩
  cases hkb : keysB keys with
  | false =>
    go_wp2_with fail
    go_ret
    rw [hfin2.out, hkb]
    exact ⟨rfl, hba.trans (below_drewN _ _ _)⟩
  | true =>
  have hfin : Hid (FIN = (list.drop 0).all (fun x => formT d x (deep - 1))) := by
    show FIN = _
    rw [hfin2.out, hkb]
    rfl
  clear hfin2 hkb
  go_wp2_with fail
  obtain ⟨W0, hW⟩ : ∃ W0, W0 = (w.alloc (.cells #[.int .i64 6, .int .i64 0, .string str, .slice ak keys.length ck, .slice al list.length cl] 29)).drewN n := ⟨_, rfl⟩
  rw [← hW]
  have k0 : Blk5 W0 w.heap.size 29 (.int .i64 6) (.int .i64 0) (.string str) (.slice ak keys.length ck) (.slice al list.length cl) := by rw [hW]; exact Blk5.new _ _ _ _ _ _ _
  have hW0 : Below w.heap.size w W0 := by rw [hW]; exact hba.trans (below_drewN _ _ _)
  clear hW hba
  go_loopw [5] (fun i wr => ∃ k : Nat, k ≤ list.length ∧ i = .int .i64 k ∧ Below W0.heap.size W0 wr ∧ Hid (FIN = (list.drop k).all (fun x => formT d x (deep - 1)))) (fun i _ => list.length - (intOf i).toNat)
  case atStart => exact ⟨0, Nat.zero_le _, rfl, Below.refl _ _, hfin⟩
  case round =>
    clear hfin
    obtain ⟨k, hkk, rfl, hbel, hfin⟩ := hrel
    have hc4 : wr.cell? ⟨w.heap.size, 4, none⟩ = some (.slice al list.length cl) := (k0.below hbel).cell.2.2.2.2
    have hbw := below_trans hW0 hbel
    by_cases hkl2 : k < list.length
    · obtain ⟨b, o, x, c0, c1, c2, c3, c4, rfl, _, hx, e0, e1, e2, e3, e4, hval⟩ := (hl.same (hS.same hbw)).cell hkl2
      have hst : Hid (_ = _) := all_drop (fun x => formT d x (deep - 1)) hx
      clear hx hl
      go_wp2_with fail
      refine (ih S x _ (deep - 1) wr hval (hS.later hbw.size) (by omega) (by omega)).mono ?_
      rintro e w1 ⟨rfl, hb1⟩
      have hb2 := below_trans hbel hb1
      have hb3 := below_trans hbw hb1
      clear hb1 hbel hval e0 e1 e2 e3 e4 hc4 hbw
      cases hf : formT d x (deep - 1) with
      | false =>
        have hfin2 : Hid (FIN = false) := by
          show FIN = false
          rw [hfin.out, hst.out, hf]
          rfl
        clear hfin hst
        go_wp2_with fail
        go_ret
        rw [hfin2.out]
        exact ⟨rfl, hb3⟩
      | true =>
        have hfin2 : Hid (FIN = (list.drop (k + 1)).all (fun x => formT d x (deep - 1))) := by
          show FIN = _
          rw [hfin.out, hst.out, hf]
          rfl
        clear hfin hst
        go_wp2_with fail
        go_roundw
        case rel => exact ⟨k + 1, by omega, by go_num, hb2, hfin2⟩
        case measure => simp [intOf]; omega
    · go_wp2_with fail
      go_ret
      rw [hfin.out, List.drop_eq_nil_of_le (by omega)]
      exact ⟨rfl, hbw⟩


theorem l1Form_any : ∀ (d : Nat), FormVal d
  | 0 => fun _ _ _ _ _ h => h.elim
  | d + 1 => by
    intro S t v deep w hv hS h0 h1
    have ih := l1Form_any d
    obtain ⟨kind, num, str, keys, list⟩ := t
    obtain ⟨vk, vl, rfl, i1, i2, i3, hk, hl⟩ := hv
    obtain ⟨ak, ck, rfl, hkl⟩ := hk.open'
    obtain ⟨al, cl, rfl, hll⟩ := hl.open'
    cases hb : headBad kind num str keys.length list.length deep with
    | true => exact l1Form_bad d kind num str keys list deep ak al ck cl w hkl hll hb
    | false =>
      by_cases h5 : kind = 5
      · have hg := formT_good (d := d) hb
        obtain ⟨g1, g2, g3, g4, g5⟩ := head_good hb
        subst h5
        obtain rfl : num = 0 := g2 (by decide)
        obtain rfl : keys = [] := List.eq_nil_of_length_eq_zero (g4 (by decide))
        exact l1Form_row d ih S str list deep ak al ck cl w hl hS h0 h1 hll g1 (g3 (by decide)) _ (by rw [hg]; simp)
      · by_cases h6 : kind = 6
        · have hg := formT_good (d := d) hb
          obtain ⟨g1, g2, g3, g4, g5⟩ := head_good hb
          subst h6
          obtain rfl : num = 0 := g2 (by decide)
          exact l1Form_map d ih S str keys list deep ak al ck cl w hk hl hS h0 h1 hll g1 (g3 (by decide)) _ (by rw [hg]; simp)
        · exact l1Form_leaf d kind num str keys list deep ak al ck cl w i3 hkl hll hb h5 h6
end Go.Proofs.YtilgbnnjecpneaaGreatDoor

/- A row that is being filled, five cells each. -/
namespace Go.Proofs.YtilgbnnjecpneaaGreatDoor
open Go.RowKit Go.Deep
/-- Five cells in a row written. -/
def put5 (f : Nat → Value) (i : Nat) (v0 v1 v2 v3 v4 : Value) (j : Nat) : Value :=
  if j = i then v0 else if j = i + 1 then v1 else if j = i + 2 then v2 else if j = i + 3 then v3 else if j = i + 4 then v4 else f j

def set5 (w : World) (b i : Nat) (v0 v1 v2 v3 v4 : Value) : World :=
  ((((w.setCell ⟨b, i, none⟩ v0).setCell ⟨b, i + 1, none⟩ v1).setCell ⟨b, i + 2, none⟩ v2).setCell ⟨b, i + 3, none⟩ v3).setCell ⟨b, i + 4, none⟩ v4

theorem rowIs_set5 {w : World} {b : Nat} {t : TypeId} {n : Nat} {f : Nat → Value} (h : w.rowIs b t n f) (i : Nat) (v0 v1 v2 v3 v4 : Value) :
    (set5 w b i v0 v1 v2 v3 v4).rowIs b t n (put5 f i v0 v1 v2 v3 v4) := by
  refine (((((h.set i v0).set (i + 1) v1).set (i + 2) v2).set (i + 3) v3).set (i + 4) v4).congr (fun j _ => ?_)
  unfold put5
  by_cases e0 : j = i
  · simp [e0]
  by_cases e1 : j = i + 1
  · simp [e1]
  by_cases e2 : j = i + 2
  · simp [e2]
  by_cases e3 : j = i + 3
  · simp [e3]
  simp [e0, e1, e2, e3]

theorem set5_block (w : World) (b i : Nat) (v0 v1 v2 v3 v4 : Value) (k : Nat) (h : k ≠ b) : (set5 w b i v0 v1 v2 v3 v4).heap[k]? = w.heap[k]? := by
  unfold set5
  rw [Below.heap_setCell _ _ _ _ h, Below.heap_setCell _ _ _ _ h, Below.heap_setCell _ _ _ _ h, Below.heap_setCell _ _ _ _ h, Below.heap_setCell _ _ _ _ h]

theorem set5_size (w : World) (b i : Nat) (v0 v1 v2 v3 v4 : Value) : (set5 w b i v0 v1 v2 v3 v4).heap.size = w.heap.size := by
  simp [set5, World.setCell]

theorem below_set5 {B : Nat} {a w : World} (h : Below B a w) {b : Nat} (hb : B ≤ b) (i : Nat) (v0 v1 v2 v3 v4 : Value) : Below B a (set5 w b i v0 v1 v2 v3 v4) :=
  ((((h.setCell (p := ⟨b, i, none⟩) hb v0).setCell (p := ⟨b, i + 1, none⟩) hb v1).setCell (p := ⟨b, i + 2, none⟩) hb v2).setCell (p := ⟨b, i + 3, none⟩) hb v3).setCell (p := ⟨b, i + 4, none⟩) hb v4

theorem put5_at (f : Nat → Value) (i : Nat) (v0 v1 v2 v3 v4 : Value) :
    put5 f i v0 v1 v2 v3 v4 i = v0 ∧ put5 f i v0 v1 v2 v3 v4 (i + 1) = v1 ∧ put5 f i v0 v1 v2 v3 v4 (i + 2) = v2 ∧ put5 f i v0 v1 v2 v3 v4 (i + 3) = v3 ∧ put5 f i v0 v1 v2 v3 v4 (i + 4) = v4 := by
  simp [put5]

theorem put5_off (f : Nat → Value) (i : Nat) (v0 v1 v2 v3 v4 : Value) (j : Nat) (h : j < i ∨ i + 4 < j) : put5 f i v0 v1 v2 v3 v4 j = f j := by
  unfold put5
  rw [if_neg (by omega), if_neg (by omega), if_neg (by omega), if_neg (by omega), if_neg (by omega)]

/-- The blocks behind block N that are in w. -/
def After (N : Nat) (w : World) (b : Nat) : Prop := N < b ∧ b < w.heap.size

/-- The first k things of a row that is being filled. -/
def Filled {d : Nat} (N T n : Nat) (xs : List (Tr d)) (w : World) (k : Nat) (f : Nat → Value) : Prop :=
  w.rowIs N T n f ∧ ∀ j x, j < k → xs[j]? = some x → ValAt (After N w) w d x (.agg #[f (j * 5), f (j * 5 + 1), f (j * 5 + 2), f (j * 5 + 3), f (j * 5 + 4)])

theorem Filled.step {d N T n : Nat} {xs : List (Tr d)} {wr w1 : World} {k : Nat} {f : Nat → Value} {x : Tr d} {v0 v1 v2 v3 v4 : Value} (h : Filled N T n xs wr k f) (hb : Below wr.heap.size wr w1)
    (hx : xs[k]? = some x) (hu : ValAt (Fresh wr w1) w1 d x (.agg #[v0, v1, v2, v3, v4])) :
    Filled N T n xs (set5 w1 N (k * 5) v0 v1 v2 v3 v4) (k + 1) (put5 f (k * 5) v0 v1 v2 v3 v4) := by
  obtain ⟨hrow, hv⟩ := h
  have hN := hrow.lt
  have hs2 : Same (After N w1) w1 (set5 w1 N (k * 5) v0 v1 v2 v3 v4) := fun b hb => set5_block _ _ _ _ _ _ _ _ _ (by have := hb.1; omega)
  have hA : ∀ b, After N w1 b → After N (set5 w1 N (k * 5) v0 v1 v2 v3 v4) b := fun b hb => ⟨hb.1, by rw [set5_size]; exact hb.2⟩
  refine ⟨rowIs_set5 (hrow.of_block (hb.block N hN)) _ _ _ _ _ _, fun j y hj hy => ?_⟩
  by_cases e : j = k
  · subst e
    rw [hx] at hy
    cases hy
    obtain ⟨p0, p1, p2, p3, p4⟩ := put5_at f (j * 5) v0 v1 v2 v3 v4
    rw [p0, p1, p2, p3, p4]
    refine ValAt.moved hs2 hA d x _ (hu.mono (fun b hb => ⟨?_, hb.2⟩))
    have := hb.1
    omega
  · rw [put5_off _ _ _ _ _ _ _ _ (by omega), put5_off _ _ _ _ _ _ _ _ (by omega), put5_off _ _ _ _ _ _ _ _ (by omega), put5_off _ _ _ _ _ _ _ _ (by omega), put5_off _ _ _ _ _ _ _ _ (by omega)]
    have h1 := hv j y (by omega) hy
    have h2 : ValAt (After N w1) w1 d y (.agg #[f (j * 5), f (j * 5 + 1), f (j * 5 + 2), f (j * 5 + 3), f (j * 5 + 4)]) :=
      ValAt.moved (fun b hS => hb.block b hS.2) (fun b hS => ⟨hS.1, Nat.lt_of_lt_of_le hS.2 hb.size⟩) d y _ h1
    exact ValAt.moved hs2 hA d y _ h2

/-- A tree's five cells. -/
theorem ValAt.shape {S : Nat → Prop} {w : World} {d : Nat} {t : Tr d} {u : Value} (h : ValAt S w d t u) :
    ∃ k n s ak lk ck al ll cl, u = .agg #[.int .i64 k, .int .i64 n, .string s, .slice ak lk ck, .slice al ll cl] := by
  cases d with
  | zero => exact h.elim
  | succ d =>
    obtain ⟨vk, vl, hv, i1, i2, i3, hk, hl⟩ := h
    obtain ⟨ak, ck, rfl, _⟩ := hk.open'
    obtain ⟨al, cl, rfl, _⟩ := hl.open'
    exact ⟨_, _, _, _, _, _, _, _, _, hv⟩

def zeroVal : Value := .agg #[.int .i64 0, .int .i64 0, .string ByteArray.empty, .slice none 0 0, .slice none 0 0]

theorem Tryz.infoVal : (Tryz.prog.info? 29).map (fun i => (i.zero, i.size, i.bytes)) = some (some zeroVal, 5, 80) := by kernel_rfl

end Go.Proofs.YtilgbnnjecpneaaGreatDoor

/- l1Many, ValOk of the model. -/
namespace Go.Proofs.YtilgbnnjecpneaaGreatDoor
open Go.RowKit Go.Deep

/-- How many parts there are, all told. -/
def nodes : (d : Nat) → Tr d → Nat
  | 0, _ => 0
  | d + 1, t => 1 + ((Nd.list t).map (nodes d)).sum
/-- .. up to so deep. -/
def manyT : (d : Nat) → Tr d → Int → Nat
  | 0, _, _ => 0
  | d + 1, t, deep => 1 + (if 0 < deep then ((Nd.list t).map (fun x => manyT d x (deep - 1))).sum else 0)

theorem sum_map_le {α : Type} (f g : α → Nat) (h : ∀ x, f x ≤ g x) : ∀ xs : List α, (xs.map f).sum ≤ (xs.map g).sum
  | [] => Nat.le_refl _
  | x :: r => by
    have := h x
    have := sum_map_le f g h r
    simp only [List.map_cons, List.sum_cons]
    omega
theorem manyT_le : ∀ (d : Nat) (t : Tr d) (deep : Int), manyT d t deep ≤ nodes d t
  | 0, _, _ => Nat.le_refl _
  | d + 1, t, deep => by
    rw [manyT, nodes]
    split
    · have := sum_map_le (fun x => manyT d x (deep - 1)) (nodes d) (fun x => manyT_le d x (deep - 1)) (Nd.list t)
      omega
    · omega
theorem sum_take_step {α : Type} (f : α → Nat) {xs : List α} {k : Nat} {x : α} (h : xs[k]? = some x) : ((xs.take (k + 1)).map f).sum = ((xs.take k).map f).sum + f x := by
  obtain ⟨hk, e⟩ := List.getElem?_eq_some_iff.1 h
  rw [List.take_succ_eq_append_getElem hk, e]
  simp
theorem sum_take_le {α : Type} (f : α → Nat) : ∀ (xs : List α) (k : Nat), ((xs.take k).map f).sum ≤ (xs.map f).sum
  | [], k => by simp
  | x :: r, 0 => by simp
  | x :: r, k + 1 => by
    have := sum_take_le f r k
    simp only [List.take_succ_cons, List.map_cons, List.sum_cons]
    omega
theorem mem_sum_le {α : Type} (f : α → Nat) {xs : List α} {k : Nat} {x : α} (h : xs[k]? = some x) : f x ≤ (xs.map f).sum := by
  have h1 := sum_take_step f h
  have h2 := sum_take_le f xs (k + 1)
  omega

/-- What l1Many does with trees of this depth. -/
def ManyVal (d : Nat) : Prop := ∀ (S : Nat → Prop) (t : Tr d) (v : Value) (deep : Int) (w : World), ValAt S w d t v → Within S w → -1000 ≤ deep → deep ≤ 1000 → (nodes d t : Int) ≤ 4194304 →
    Calls Tryz.prog 88 #[v, .int .i64 deep] w fun e w' => e = .returned (.int .i64 (manyT d t deep)) ∧ Below w.heap.size w w'

set_option maxRecDepth 100000 in
set_option maxHeartbeats 2000000 in
theorem l1Many_any : ∀ (d : Nat), ManyVal d
  | 0 => fun _ _ _ _ _ h => h.elim
  | d + 1 => by
    intro S t v deep w hv hS h0 h1 hsm
    have ih := l1Many_any d
    obtain ⟨kind, num, str, keys, list⟩ := t
    obtain ⟨vk, vl, rfl, i1, i2, i3, hk, hl⟩ := hv
    obtain ⟨ak, ck, rfl, hkl⟩ := hk.open'
    obtain ⟨al, cl, rfl, hll⟩ := hl.open'
    have hsm2 : ((1 + (list.map (nodes d)).sum : Nat) : Int) ≤ 4194304 := hsm
    clear hsm hk
    obtain ⟨W0, hW⟩ : ∃ W0, W0 = w.alloc (.cells #[.int .i64 kind, .int .i64 num, .string str, .slice ak keys.length ck, .slice al list.length cl] 29) := ⟨_, rfl⟩
    have k0 : Blk5 W0 w.heap.size 29 (.int .i64 kind) (.int .i64 num) (.string str) (.slice ak keys.length ck) (.slice al list.length cl) := by rw [hW]; exact Blk5.new _ _ _ _ _ _ _
    have hW0 : Below w.heap.size w W0 := by rw [hW]; exact below_alloc1 _ _
    have HW : Hid _ := hW
    clear hW
    by_cases hd : 0 < deep
    case neg =>
      have hfin : Hid ((manyT (d + 1) (Nd.mk kind num str keys list) deep : Int) = 1) := by
        show ((manyT (d + 1) (Nd.mk kind num str keys list) deep : Nat) : Int) = 1
        show (((1 + if 0 < deep then _ else 0) : Nat) : Int) = 1
        rw [if_neg hd]
        rfl
      go_enter Tryz.func88, Tryz.ntmps88
      go_wp2_with fail
      rw [← HW.out]
      clear HW
      go_loopw [5, 6] (fun n i wr => n = .int .i64 1 ∧ i = .int .i64 0 ∧ Hid (wr = W0)) (fun _ _ _ => 0)
      case atStart => exact ⟨rfl, rfl, rfl⟩
      case round =>
        obtain ⟨rfl, rfl, hwr⟩ := hrel
        have hc4 : wr.cell? ⟨w.heap.size, 4, none⟩ = some (.slice al list.length cl) := by rw [hwr.out]; exact k0.cell.2.2.2.2
        cases hll0 : decide (0 < list.length) with
        | false =>
          have hz : ¬ 0 < list.length := of_decide_eq_false hll0
          go_wp2_with fail
          go_ret
          rw [hfin.out, hwr.out]
          exact ⟨rfl, hW0⟩
        | true =>
          have hz : 0 < list.length := of_decide_eq_true hll0
          go_wp2_with fail
          go_ret
          rw [hfin.out, hwr.out]
          exact ⟨rfl, hW0⟩
    case pos =>
      have hfin : Hid (∀ s : Nat, s = (list.map (fun x => manyT d x (deep - 1))).sum → ((1 + s : Nat) : Int) = (manyT (d + 1) (Nd.mk kind num str keys list) deep : Nat)) := by
        intro s hs
        show ((1 + s : Nat) : Int) = (((1 + if 0 < deep then _ else 0) : Nat) : Int)
        rw [if_pos hd, hs]
      have hsum := sum_map_le (fun x => manyT d x (deep - 1)) (nodes d) (fun x => manyT_le d x (deep - 1)) list
      go_enter Tryz.func88, Tryz.ntmps88
      go_wp2_with fail
      rw [← HW.out]
      clear HW
      go_loopw [5, 6] (fun n i wr => ∃ k s : Nat, k ≤ list.length ∧ i = .int .i64 k ∧ n = .int .i64 (1 + (s : Int)) ∧ Hid (s = ((list.take k).map (fun x => manyT d x (deep - 1))).sum) ∧ Below W0.heap.size W0 wr) (fun _ i _ => list.length - (intOf i).toNat)
      case atStart => exact ⟨0, 0, Nat.zero_le _, rfl, rfl, by simp [Hid], Below.refl _ _⟩
      case round =>
        obtain ⟨k, s, hkk, rfl, rfl, hs, hbel⟩ := hrel
        have hc4 : wr.cell? ⟨w.heap.size, 4, none⟩ = some (.slice al list.length cl) := (k0.below hbel).cell.2.2.2.2
        have hbw := below_trans hW0 hbel
        have hsb : (s : Int) ≤ 4194304 := by
          have h2 := sum_take_le (fun x => manyT d x (deep - 1)) list k
          have h3 := hs.out
          omega
        by_cases hkl2 : k < list.length
        · obtain ⟨b, o, x, c0, c1, c2, c3, c4, rfl, _, hx, e0, e1, e2, e3, e4, hval⟩ := (hl.same (hS.same hbw)).cell hkl2
          have hst : Hid (_ = _) := sum_take_step (fun x => manyT d x (deep - 1)) hx
          have hnx := mem_sum_le (nodes d) hx
          have hmx := manyT_le d x (deep - 1)
          clear hx hl
          go_wp2_with fail
          refine (ih S x _ (deep - 1) wr hval (hS.later hbw.size) (by omega) (by omega) (by omega)).mono ?_
          rintro e w1 ⟨rfl, hb1⟩
          have hb2 := below_trans hbel hb1
          clear hb1 hbel hval e0 e1 e2 e3 e4 hc4 hbw
          go_wp2_with fail
          go_roundw
          case rel => exact ⟨k + 1, s + manyT d x (deep - 1), by omega, by go_num, by go_num, by show _ = _; rw [hst.out, hs.out], hb2⟩
          case measure => simp [intOf]; omega
        · have hfin2 := hfin.out s (by rw [hs.out, List.take_of_length_le (by omega)])
          have HF : Hid _ := hfin2
          clear hfin2
          go_wp2_with fail
          go_ret
          rw [← HF.out]
          exact ⟨by simp, hbw⟩

/-- A tree is one. -/
def okT (d : Nat) (t : Tr d) : Bool := formT d t 6 && decide (manyT d t 6 ≤ 60)

set_option maxRecDepth 100000 in
set_option maxHeartbeats 2000000 in
theorem specValOk_any (d : Nat) (S : Nat → Prop) (t : Tr d) (v : Value) (w : World) (hv : ValAt S w d t v) (hS : Within S w) (hsm : (nodes d t : Int) ≤ 4194304) :
    Calls Tryz.prog 59 #[v] w fun e w' => e = .returned (.bool (okT d t)) ∧ Below w.heap.size w w' := by
  obtain ⟨k, n, s, ak, lk, ck, al, ll, cl, rfl⟩ := hv.shape
  have hle := manyT_le d t 6
  have hba := below_alloc1 w (.cells #[.int .i64 k, .int .i64 n, .string s, .slice ak lk ck, .slice al ll cl] 29)
  go_enter Tryz.func59, Tryz.ntmps59
  go_wp2_with fail
  refine (l1Form_any d S t _ 6 _ (hv.same (hS.same hba)) (hS.later hba.size) (by omega) (by omega)).mono ?_
  rintro e w1 ⟨rfl, hb1⟩
  have hb2 := below_trans hba hb1
  have k0 : Blk5 w1 w.heap.size 29 (.int .i64 k) (.int .i64 n) (.string s) (.slice ak lk ck) (.slice al ll cl) := (Blk5.new w _ _ _ _ _ _).below hb1
  obtain ⟨x0, x1, x2, x3, x4⟩ := k0.cell
  clear k0 hb1 hba
  cases hf : formT d t 6 with
  | false =>
    have hfin : Hid (okT d t = false) := by
      show okT d t = false
      rw [okT, hf]
      rfl
    go_wp2_with fail
    go_ret
    rw [hfin.out]
    exact ⟨rfl, hb2⟩
  | true =>
    have hfin : Hid (okT d t = decide (manyT d t 6 ≤ 60)) := by
      show okT d t = _
      rw [okT, hf]
      rfl
    go_wp2_with fail
    refine (l1Many_any d S t _ 6 _ (hv.same (hS.same hb2)) (hS.later hb2.size) (by omega) (by omega) hsm).mono ?_
    rintro e w3 ⟨rfl, hb3⟩
    have hb4 := below_trans hb2 hb3
    clear hb3 hb2 x0 x1 x2 x3 x4 hv
    go_wp2_with fail
    go_ret
    rw [hfin.out]
    exact ⟨by simp; omega, hb4⟩
end Go.Proofs.YtilgbnnjecpneaaGreatDoor

/- textOk, keysOk, bare, numOk: the program's own looks at texts, keys and bare parts. -/
namespace Go.Proofs.YtilgbnnjecpneaaGreatDoor
open Go.RowKit Go.Deep

theorem decode_high (s : ByteArray) (pos : Nat) (h : pos < s.size) (ha : ¬ (s[pos]'h).toNat < 128) : 128 ≤ (Utf8.decode s pos).1 := by
  have e : s.get! (pos + 0) = s[pos]'h := by
    show s.get! pos = _
    simp [ByteArray.get!, getElem!_pos, h]
    rfl
  simp only [Utf8.decode, e, ha, if_false]
  repeat' split
  all_goals first
    | omega
    | (simp only [Utf8.runeError]; omega)
    | (rename_i h1; simp only [Bool.and_eq_true, decide_eq_true_eq, ge_iff_le] at h1; omega)

theorem run_next_any {P : Program} (w : World) (s : ByteArray) (pos : Nat) (ty : TypeId) (h : pos < s.size) :
    (Instr.next (.pointer (some ⟨w.heap.size, 0, none⟩)) true ty).run P (w.iter s pos) =
      .ok (.tuple #[.bool true, .int .i64 pos, .int .i32 (Utf8.decode s pos).1]) (w.iter s (pos + (Utf8.decode s pos).2)) := by
  simp only [Instr.next, getObj, setObj, Sem.run_bind, Sem.run, World.iter_heap, Result.andThen, h, if_true, World.iter_set]
  simp [goInt]

theorem below_iter (w : World) (s : ByteArray) (pos : Nat) : Below w.heap.size w (w.iter s pos) := below_alloc1 _ _

set_option maxHeartbeats 1000000 in
theorem textOk_any (s : ByteArray) (w : World) (hs : s.size < 281474976710656) :
    Calls Tryz.prog 109 #[.string s] w fun e w' => e = .returned (.bool (strOk s)) ∧ Below w.heap.size w w' := by
  by_cases hl : 12 < s.size
  · have hf : Hid (strOk s = false) := by
      show strOk s = false
      rw [strOk, decide_eq_false (by omega), Bool.and_false]
    go_enter Tryz.func109, Tryz.ntmps109
    go_wp2_with fail
    go_ret
    rw [hf.out]
    exact ⟨rfl, Below.refl _ _⟩
  · have hl2 : s.size ≤ 12 := by omega
    go_enter Tryz.func109, Tryz.ntmps109
    go_wp2_with fail
    go_loopg [2] s.size (fun gk v wr => ∃ k : Nat, k + gk = s.size ∧ v = .bool false ∧ Hid (wr = w.iter s k) ∧ Hid ((s.data.toList.take k).all letterB = true))
    case atStart => exact ⟨0, by omega, rfl, rfl, rfl⟩
    case round =>
      obtain ⟨k, hk, rfl, hwr, ha⟩ := hrel
      have hwr2 := hwr.out
      subst hwr2
      have HK : Hid _ := hk
      clear hk hwr
      by_cases hlt : k < s.size
      · by_cases h8 : s[k].toNat < 128
        · have hnx := fun ty => run_next_ascii (P := Tryz.prog) w s k ty hlt h8
          by_cases h1 : (s[k].toNat : Int) < 97
          · have hf : Hid _ := all_fail hlt (letter_lo h1)
            go_wp2_with fail
            go_ret
            rw [hf.out]
            exact ⟨rfl, below_iter _ _ _⟩
          · by_cases h2 : (122 : Int) < s[k].toNat
            · have hf : Hid _ := all_fail hlt (letter_hi h2)
              go_wp2_with fail
              go_ret
              rw [hf.out]
              exact ⟨rfl, below_iter _ _ _⟩
            · have hf : Hid _ := all_step hlt ha.out (letter_in h1 h2)
              go_wp2_with fail
              go_roundg (gk - 1)
              case rel => exact ⟨k + 1, by have := HK.out; omega, rfl, rfl, hf⟩
              case measure => have := HK.out; omega
        · have hnx := fun ty => run_next_any (P := Tryz.prog) w s k ty hlt
          have hh := decode_high s k hlt h8
          have h2 : (122 : Int) < ((Utf8.decode s k).1 : Int) := by omega
          have h1 : ¬ ((Utf8.decode s k).1 : Int) < 97 := by omega
          have hf : Hid _ := all_fail hlt (letter_hi (by omega))
          clear h8 hh
          go_wp2_with fail
          go_ret
          rw [hf.out]
          exact ⟨rfl, below_iter _ _ _⟩
      · have hnx := fun ty => run_next_end (P := Tryz.prog) w s k ty hlt
        have hf : Hid _ := all_done hlt ha.out
        go_wp2_with fail
        go_ret
        rw [hf.out]
        exact ⟨by simp [hl2], below_iter _ _ _⟩

set_option maxHeartbeats 1000000 in
theorem keysOk_any (S : Nat → Prop) (ss : List ByteArray) (v : Value) (w : World) (hv : StrsAt S w v ss) (hS : Within S w) :
    Calls Tryz.prog 111 #[v] w fun e w' => e = .returned (.bool (keysB ss)) ∧ Below w.heap.size w w' := by
  obtain ⟨a, cap, rfl, hlen⟩ := hv.open'
  go_enter Tryz.func111, Tryz.ntmps111
  go_wp2_with fail
  go_loopw [7] (fun i wr => ∃ k : Nat, k ≤ ss.length ∧ i = .int .i64 k ∧ Below w.heap.size w wr ∧ Hid (keysB ss = keysGo (prevOf ss k) (ss.drop k))) (fun i _ => ss.length - (intOf i).toNat)
  case atStart => exact ⟨0, Nat.zero_le _, rfl, Below.refl _ _, rfl⟩
  case round =>
    obtain ⟨k, hk, rfl, hbel, hfin⟩ := hrel
    have hvr := hv.same (hS.same hbel)
    by_cases hkl : k < ss.length
    · obtain ⟨b, o, s, rfl, hSb, hs, hsz, hck⟩ := hvr.cell hkl
      go_wp2_with fail
      refine (textOk_any s _ hsz).mono ?_
      rintro e w1 ⟨rfl, hb1⟩
      have hb2 := below_trans hbel hb1
      cases h1 : strOk s with
      | false =>
        have hf : Hid (keysB ss = false) := hfin.out.trans (keysGo_bad hs h1)
        clear hfin hs hvr hv hbel hb1 hck
        go_wp2_with fail
        go_ret
        rw [hf.out]
        exact ⟨rfl, hb2⟩
      | true =>
        by_cases h0 : k = 0
        · subst h0
          have hf : Hid (keysB ss = keysGo (prevOf ss 1) (ss.drop 1)) := by
            show keysB ss = _
            rw [hfin.out, keysGo_zero hs, h1]
            rfl
          clear hfin hs hvr hv hbel hb1 hck
          go_wp2_with fail
          go_roundw
          case rel => exact ⟨1, by omega, by go_num, hb2, hf⟩
          case measure => simp [intOf]; omega
        · obtain ⟨b2, o2, s2, hbo, _, hs2, _, hck2⟩ := (hv.same (hS.same hb2)).cell (k := k - 1) (by omega)
          cases hbo
          have hst : Hid (_ = _) := keysGo_pos (by omega) hs2 hs
          have hk0 : 0 < k := by omega
          have hk1 : (1 : Int) ≤ (k : Int) := by omega
          have hk2 : (k : Int) - 1 < (ss.length : Int) := by omega
          have hto : ((k : Int) - 1).toNat = k - 1 := by omega
          cases h2 : ltB s2 s with
          | true =>
            have hf : Hid (keysB ss = keysGo (prevOf ss (k + 1)) (ss.drop (k + 1))) := by
              show keysB ss = _
              rw [hfin.out, hst.out, h1, h2]
              rfl
            unfold ltB at h2
            clear hfin hs hvr hst hs2 hv hbel hb1 hck
            go_wp2_with fail
            go_roundw
            case rel => exact ⟨k + 1, by omega, by go_num, hb2, hf⟩
            case measure => simp [intOf]; omega
          | false =>
            have hf : Hid (keysB ss = false) := by
              show keysB ss = _
              rw [hfin.out, hst.out, h1, h2]
              rfl
            unfold ltB at h2
            clear hfin hs hvr hst hs2 hv hbel hb1 hck
            go_wp2_with fail
            go_ret
            rw [hf.out]
            exact ⟨rfl, hb2⟩
    · go_wp2_with fail
      go_ret
      rw [hfin.out, List.drop_eq_nil_of_le (by omega)]
      refine ⟨?_, hbel⟩
      cases prevOf ss k <;> rfl

set_option maxHeartbeats 400000 in
theorem numOk_any (n : Int) (w : World) :
    Calls Tryz.prog 108 #[.int .i64 n] w fun e w' => e = .returned (.bool (decide (-1000000 ≤ n ∧ n ≤ 1000000))) ∧ w' = w := by
  by_cases h1 : -1000000 ≤ n
  · by_cases h2 : n ≤ 1000000
    · go_enter Tryz.func108, Tryz.ntmps108
      go_wp2_with fail
      go_ret
      exact ⟨by simp; omega, rfl⟩
    · go_enter Tryz.func108, Tryz.ntmps108
      go_wp2_with fail
      go_ret
      exact ⟨by simp; omega, rfl⟩
  · go_enter Tryz.func108, Tryz.ntmps108
    go_wp2_with fail
    go_ret
    exact ⟨by simp; omega, rfl⟩

/-- A part has nothing but its kind. -/
def bareB (num : Int) (str : ByteArray) (nk nl : Nat) : Bool := num == 0 && str.toList == [] && nk == 0 && nl == 0

set_option maxHeartbeats 1000000 in
theorem bare_any (kind num : Int) (str : ByteArray) (nk nl : Nat) (ak al : Option Addr) (ck cl : Nat) (w : World) (hkl : nk < 17592186044416) (hll : nl < 3518437208883) :
    Calls Tryz.prog 107 #[.agg #[.int .i64 kind, .int .i64 num, .string str, .slice ak nk ck, .slice al nl cl]] w
      fun e w' => e = .returned (.bool (bareB num str nk nl)) ∧ Below w.heap.size w w' := by
  cases h1 : (num == 0) with
  | false =>
    have hf : Hid (bareB num str nk nl = false) := by show bareB num str nk nl = false; rw [bareB, h1]; rfl
    go_enter Tryz.func107, Tryz.ntmps107
    go_wp2_with fail
    go_ret
    rw [hf.out]
    exact ⟨rfl, below_alloc1 _ _⟩
  | true =>
  cases h2 : (str.toList == []) with
  | false =>
    have hf : Hid (bareB num str nk nl = false) := by show bareB num str nk nl = false; rw [bareB, h1, h2]; rfl
    have h2' : ¬ str.toList = [] := by simpa using h2
    go_enter Tryz.func107, Tryz.ntmps107
    go_wp2_with fail
    go_ret
    rw [hf.out]
    exact ⟨rfl, below_alloc1 _ _⟩
  | true =>
  have h2' : str.toList = [] := by simpa using h2
  cases h3 : (nk == 0) with
  | false =>
    have hf : Hid (bareB num str nk nl = false) := by show bareB num str nk nl = false; rw [bareB, h1, h2, h3]; rfl
    have h3' : ((nk : Int) == 0) = false := by rw [beq_eq_false_iff_ne] at h3 ⊢; omega
    clear h3 h2
    go_enter Tryz.func107, Tryz.ntmps107
    go_wp2_with fail
    go_ret
    rw [hf.out]
    exact ⟨rfl, below_alloc1 _ _⟩
  | true =>
  obtain rfl : nk = 0 := by simpa using h3
  cases h4 : (nl == 0) with
  | false =>
    have hf : Hid (bareB num str 0 nl = false) := by show bareB num str 0 nl = false; rw [bareB, h1, h2, h4]; rfl
    have h4' : ((nl : Int) == 0) = false := by rw [beq_eq_false_iff_ne] at h4 ⊢; omega
    clear h4 h2 h3
    go_enter Tryz.func107, Tryz.ntmps107
    go_wp2_with fail
    go_ret
    rw [hf.out]
    exact ⟨rfl, below_alloc1 _ _⟩
  | true =>
    have hf : Hid (bareB num str 0 nl = true) := by show bareB num str 0 nl = true; rw [bareB, h1, h2, h4]; rfl
    obtain rfl : nl = 0 := by simpa using h4
    clear h4 h2 h3
    go_enter Tryz.func107, Tryz.ntmps107
    go_wp2_with fail
    go_ret
    rw [hf.out]
    exact ⟨rfl, below_alloc1 _ _⟩
end Go.Proofs.YtilgbnnjecpneaaGreatDoor
