/- l1Many, ValOk of the model. -/
import Derived.Test.YtbcafaomfaainaaGreatDoorWForm
import Derived.Test.YtbcafaomfaainaaGreatDoorWTo
namespace Go.Proofs.YtbcafaomfaainaaGreatDoor
open Go.RowKit Go.Deep

/-- How many parts there are, all told. -/
def nodes : (d : Nat) → Tr d → Nat
  | 0, _ => 0
  | d + 1, t => 1 + ((Nd.list t).map (nodes d)).sum
/-- .. up to so deep. -/
def manyT : (d : Nat) → Tr d → Int → Nat
  | 0, _, _ => 0
  | d + 1, t, deep => 1 + (if 0 < deep then ((Nd.list t).map (fun x => manyT d x (deep - 1))).sum else 0)

theorem sum_map_le {α : Type} (f g : α → Nat) (h : ∀ x, f x ≤ g x) : ∀ xs : List α, (xs.map f).sum ≤ (xs.map g).sum
  | [] => Nat.le_refl _
  | x :: r => by
    have := h x
    have := sum_map_le f g h r
    simp only [List.map_cons, List.sum_cons]
    omega
theorem manyT_le : ∀ (d : Nat) (t : Tr d) (deep : Int), manyT d t deep ≤ nodes d t
  | 0, _, _ => Nat.le_refl _
  | d + 1, t, deep => by
    rw [manyT, nodes]
    split
    · have := sum_map_le (fun x => manyT d x (deep - 1)) (nodes d) (fun x => manyT_le d x (deep - 1)) (Nd.list t)
      omega
    · omega
theorem sum_take_step {α : Type} (f : α → Nat) {xs : List α} {k : Nat} {x : α} (h : xs[k]? = some x) : ((xs.take (k + 1)).map f).sum = ((xs.take k).map f).sum + f x := by
  obtain ⟨hk, e⟩ := List.getElem?_eq_some_iff.1 h
  rw [List.take_succ_eq_append_getElem hk, e]
  simp
theorem sum_take_le {α : Type} (f : α → Nat) : ∀ (xs : List α) (k : Nat), ((xs.take k).map f).sum ≤ (xs.map f).sum
  | [], k => by simp
  | x :: r, 0 => by simp
  | x :: r, k + 1 => by
    have := sum_take_le f r k
    simp only [List.take_succ_cons, List.map_cons, List.sum_cons]
    omega
theorem mem_sum_le {α : Type} (f : α → Nat) {xs : List α} {k : Nat} {x : α} (h : xs[k]? = some x) : f x ≤ (xs.map f).sum := by
  have h1 := sum_take_step f h
  have h2 := sum_take_le f xs (k + 1)
  omega

theorem szLGo_nodes {d : Nat} (ih : ∀ (t : Tr d) (left : Int), 0 ≤ left → 0 ≤ szT d t left → (nodes d t : Int) ≤ 1 + left - szT d t left) :
    ∀ (xs : List (Tr d)) (left : Int), 0 ≤ left → 0 ≤ szLGo (szT d) xs left → ((xs.map (nodes d)).sum : Int) ≤ xs.length + left - szLGo (szT d) xs left
  | [], left, _, h => by simp [szLGo]
  | x :: r, left, h0, h => by
    rw [szLGo] at h ⊢
    split at h
    · omega
    · rename_i hn
      rw [if_neg hn]
      have h1 := ih x left h0 (by omega)
      have h2 := szLGo_nodes ih r (szT d x left) (by omega) h
      simp only [List.map_cons, List.sum_cons, List.length_cons]
      omega
theorem szT_nodes : ∀ (d : Nat) (t : Tr d) (left : Int), 0 ≤ left → 0 ≤ szT d t left → (nodes d t : Int) ≤ 1 + left - szT d t left
  | 0, _, left, h0, h => by simp [szT] at h
  | d + 1, t, left, h0, h => by
    rw [szT] at h ⊢
    split at h
    · omega
    rename_i n1
    split at h
    · omega
    rename_i n2
    split at h
    · omega
    rename_i n3
    rw [if_neg n1, if_neg n2, if_neg n3]
    have e1 := szStrs_le (Nd.keys t) (left - (Nd.str t).size) (by omega)
    rw [nodes]
    generalize szStrs (Nd.keys t) (left - (Nd.str t).size) = l2 at *
    rw [szL] at n3 ⊢
    split at n3
    · omega
    rename_i n4
    rw [if_neg n4]
    have e2 := szLGo_nodes (szT_nodes d) (Nd.list t) (l2 - (Nd.list t).length) (by omega) (by omega)
    omega

/-- What l1Many does with trees of this depth. -/
def ManyVal (d : Nat) : Prop := ∀ (S : Nat → Prop) (t : Tr d) (v : Value) (deep : Int) (w : World), ValAt S w d t v → Within S w → -1000 ≤ deep → deep ≤ 1000 → (nodes d t : Int) ≤ 4194304 →
    Calls Tryz.prog 33 #[v, .int .i64 deep] w fun e w' => e = .returned (.int .i64 (manyT d t deep)) ∧ Below w.heap.size w w'

set_option maxRecDepth 100000 in
set_option maxHeartbeats 2000000 in
theorem l1Many_any : ∀ (d : Nat), ManyVal d
  | 0 => fun _ _ _ _ _ h => h.elim
  | d + 1 => by
    intro S t v deep w hv hS h0 h1 hsm
    have ih := l1Many_any d
    obtain ⟨kind, num, str, keys, list⟩ := t
    obtain ⟨vk, vl, rfl, i1, i2, i3, hk, hl⟩ := hv
    obtain ⟨ak, ck, rfl, hkl⟩ := hk.open'
    obtain ⟨al, cl, rfl, hll⟩ := hl.open'
    have hsm2 : ((1 + (list.map (nodes d)).sum : Nat) : Int) ≤ 4194304 := hsm
    clear hsm hk
    obtain ⟨W0, hW⟩ : ∃ W0, W0 = w.alloc (.cells #[.int .i64 kind, .int .i64 num, .string str, .slice ak keys.length ck, .slice al list.length cl] 29) := ⟨_, rfl⟩
    have k0 : Blk5 W0 w.heap.size 29 (.int .i64 kind) (.int .i64 num) (.string str) (.slice ak keys.length ck) (.slice al list.length cl) := by rw [hW]; exact Blk5.new _ _ _ _ _ _ _
    have hW0 : Below w.heap.size w W0 := by rw [hW]; exact below_alloc1 _ _
    have HW : Hid _ := hW
    clear hW
    by_cases hd : 0 < deep
    case neg =>
      have hfin : Hid ((manyT (d + 1) (Nd.mk kind num str keys list) deep : Int) = 1) := by
        show ((manyT (d + 1) (Nd.mk kind num str keys list) deep : Nat) : Int) = 1
        show (((1 + if 0 < deep then _ else 0) : Nat) : Int) = 1
        rw [if_neg hd]
        rfl
      go_enter Tryz.func33, Tryz.ntmps33
      go_wp2_with fail
      rw [← HW.out]
      clear HW
      go_loopw [5, 6] (fun n i wr => n = .int .i64 1 ∧ i = .int .i64 0 ∧ Hid (wr = W0)) (fun _ _ _ => 0)
      case atStart => exact ⟨rfl, rfl, rfl⟩
      case round =>
        obtain ⟨rfl, rfl, hwr⟩ := hrel
        have hc4 : wr.cell? ⟨w.heap.size, 4, none⟩ = some (.slice al list.length cl) := by rw [hwr.out]; exact k0.cell.2.2.2.2
        cases hll0 : decide (0 < list.length) with
        | false =>
          have hz : ¬ 0 < list.length := of_decide_eq_false hll0
          go_wp2_with fail
          go_ret
          rw [hfin.out, hwr.out]
          exact ⟨rfl, hW0⟩
        | true =>
          have hz : 0 < list.length := of_decide_eq_true hll0
          go_wp2_with fail
          go_ret
          rw [hfin.out, hwr.out]
          exact ⟨rfl, hW0⟩
    case pos =>
      have hfin : Hid (∀ s : Nat, s = (list.map (fun x => manyT d x (deep - 1))).sum → ((1 + s : Nat) : Int) = (manyT (d + 1) (Nd.mk kind num str keys list) deep : Nat)) := by
        intro s hs
        show ((1 + s : Nat) : Int) = (((1 + if 0 < deep then _ else 0) : Nat) : Int)
        rw [if_pos hd, hs]
      have hsum := sum_map_le (fun x => manyT d x (deep - 1)) (nodes d) (fun x => manyT_le d x (deep - 1)) list
      go_enter Tryz.func33, Tryz.ntmps33
      go_wp2_with fail
      rw [← HW.out]
      clear HW
      go_loopw [5, 6] (fun n i wr => ∃ k s : Nat, k ≤ list.length ∧ i = .int .i64 k ∧ n = .int .i64 (1 + (s : Int)) ∧ Hid (s = ((list.take k).map (fun x => manyT d x (deep - 1))).sum) ∧ Below W0.heap.size W0 wr) (fun _ i _ => list.length - (intOf i).toNat)
      case atStart => exact ⟨0, 0, Nat.zero_le _, rfl, rfl, by simp [Hid], Below.refl _ _⟩
      case round =>
        obtain ⟨k, s, hkk, rfl, rfl, hs, hbel⟩ := hrel
        have hc4 : wr.cell? ⟨w.heap.size, 4, none⟩ = some (.slice al list.length cl) := (k0.below hbel).cell.2.2.2.2
        have hbw := below_trans hW0 hbel
        have hsb : (s : Int) ≤ 4194304 := by
          have h2 := sum_take_le (fun x => manyT d x (deep - 1)) list k
          have h3 := hs.out
          omega
        by_cases hkl2 : k < list.length
        · obtain ⟨b, o, x, c0, c1, c2, c3, c4, rfl, _, hx, e0, e1, e2, e3, e4, hval⟩ := (hl.same (hS.same hbw)).cell hkl2
          have hst : Hid (_ = _) := sum_take_step (fun x => manyT d x (deep - 1)) hx
          have hnx := mem_sum_le (nodes d) hx
          have hmx := manyT_le d x (deep - 1)
          clear hx hl
          go_wp2_with fail
          refine (ih S x _ (deep - 1) wr hval (hS.later hbw.size) (by omega) (by omega) (by omega)).mono ?_
          rintro e w1 ⟨rfl, hb1⟩
          have hb2 := below_trans hbel hb1
          clear hb1 hbel hval e0 e1 e2 e3 e4 hc4 hbw
          go_wp2_with fail
          go_roundw
          case rel => exact ⟨k + 1, s + manyT d x (deep - 1), by omega, by go_num, by go_num, by show _ = _; rw [hst.out, hs.out], hb2⟩
          case measure => simp [intOf]; omega
        · have hfin2 := hfin.out s (by rw [hs.out, List.take_of_length_le (by omega)])
          have HF : Hid _ := hfin2
          clear hfin2
          go_wp2_with fail
          go_ret
          rw [← HF.out]
          exact ⟨by simp, hbw⟩

/-- A tree is one. -/
def okT (d : Nat) (t : Tr d) : Bool := formT d t 6 && decide (manyT d t 6 ≤ 60)

set_option maxRecDepth 100000 in
set_option maxHeartbeats 2000000 in
theorem specValOk_any (d : Nat) (S : Nat → Prop) (t : Tr d) (v : Value) (w : World) (hv : ValAt S w d t v) (hS : Within S w) (hsm : (nodes d t : Int) ≤ 4194304) :
    Calls Tryz.prog 26 #[v] w fun e w' => e = .returned (.bool (okT d t)) ∧ Below w.heap.size w w' := by
  obtain ⟨k, n, s, ak, lk, ck, al, ll, cl, rfl⟩ := hv.shape
  have hle := manyT_le d t 6
  have hba := below_alloc1 w (.cells #[.int .i64 k, .int .i64 n, .string s, .slice ak lk ck, .slice al ll cl] 29)
  go_enter Tryz.func26, Tryz.ntmps26
  go_wp2_with fail
  refine (l1Form_any d S t _ 6 _ (hv.same (hS.same hba)) (hS.later hba.size) (by omega) (by omega)).mono ?_
  rintro e w1 ⟨rfl, hb1⟩
  have hb2 := below_trans hba hb1
  have k0 : Blk5 w1 w.heap.size 29 (.int .i64 k) (.int .i64 n) (.string s) (.slice ak lk ck) (.slice al ll cl) := (Blk5.new w _ _ _ _ _ _).below hb1
  obtain ⟨x0, x1, x2, x3, x4⟩ := k0.cell
  clear k0 hb1 hba
  cases hf : formT d t 6 with
  | false =>
    have hfin : Hid (okT d t = false) := by
      show okT d t = false
      rw [okT, hf]
      rfl
    go_wp2_with fail
    go_ret
    rw [hfin.out]
    exact ⟨rfl, hb2⟩
  | true =>
    have hfin : Hid (okT d t = decide (manyT d t 6 ≤ 60)) := by
      show okT d t = _
      rw [okT, hf]
      rfl
    go_wp2_with fail
    refine (l1Many_any d S t _ 6 _ (hv.same (hS.same hb2)) (hS.later hb2.size) (by omega) (by omega) hsm).mono ?_
    rintro e w3 ⟨rfl, hb3⟩
    have hb4 := below_trans hb2 hb3
    clear hb3 hb2 x0 x1 x2 x3 x4 hv
    go_wp2_with fail
    go_ret
    rw [hfin.out]
    exact ⟨by simp; omega, hb4⟩
end Go.Proofs.YtbcafaomfaainaaGreatDoor
