/- l1Form, l1Many, ValOk of the model: rows and maps. -/
import Derived.Test.YtbcafaomfaainaaGreatDoorWFormA
namespace Go.Proofs.YtbcafaomfaainaaGreatDoor
open Go.RowKit Go.Deep

theorem all_drop {α : Type} (f : α → Bool) {xs : List α} {k : Nat} {x : α} (h : xs[k]? = some x) : (xs.drop k).all f = (f x && (xs.drop (k + 1)).all f) := by
  obtain ⟨hk, e⟩ := List.getElem?_eq_some_iff.1 h
  rw [List.drop_eq_getElem_cons hk, e, List.all_cons]

set_option maxHeartbeats 2000000 in
theorem l1Form_row (d : Nat) (ih : FormVal d) (S : Nat → Prop) (str : ByteArray) (list : List (Tr d)) (deep : Int) (ak al : Option Addr) (ck cl : Nat) (w : World)
    (hl : RowAt S w (ValAt S w d) (.slice al list.length cl) list) (hS : Within S w) (h0 : -1000 ≤ deep) (h1 : deep ≤ 1000) (hll : list.length < 3518437208883) (hd : ¬ deep < 1) (hs : str.toList = []) (FIN : Bool) (hfin : FIN = list.all (fun x => formT d x (deep - 1))) :
    Calls Tryz.prog 32 #[.agg #[.int .i64 5, .int .i64 0, .string str, .slice ak 0 ck, .slice al list.length cl], .int .i64 deep] w
      fun e w' => e = .returned (.bool FIN) ∧ Below w.heap.size w w' := by
  have hfin' : Hid (FIN = (list.drop 0).all (fun x => formT d x (deep - 1))) := hfin
  clear hfin
  have hfin := hfin'
  clear hfin'
  go_enter Tryz.func32, Tryz.ntmps32
  go_wp2_with fail
  obtain ⟨W0, hW⟩ : ∃ W0, W0 = w.alloc (.cells #[.int .i64 5, .int .i64 0, .string str, .slice ak 0 ck, .slice al list.length cl] 29) := ⟨_, rfl⟩
  rw [← hW]
  have k0 : Blk5 W0 w.heap.size 29 (.int .i64 5) (.int .i64 0) (.string str) (.slice ak 0 ck) (.slice al list.length cl) := by rw [hW]; exact Blk5.new _ _ _ _ _ _ _
  have hW0 : Below w.heap.size w W0 := by rw [hW]; exact below_alloc1 _ _
  clear hW
  go_loopw [5] (fun i wr => ∃ k : Nat, k ≤ list.length ∧ i = .int .i64 k ∧ Below W0.heap.size W0 wr ∧ Hid (FIN = (list.drop k).all (fun x => formT d x (deep - 1)))) (fun i _ => list.length - (intOf i).toNat)
  case atStart => exact ⟨0, Nat.zero_le _, rfl, Below.refl _ _, hfin⟩
  case round =>
    clear hfin
    obtain ⟨k, hkk, rfl, hbel, hfin⟩ := hrel
    have hc4 : wr.cell? ⟨w.heap.size, 4, none⟩ = some (.slice al list.length cl) := (k0.below hbel).cell.2.2.2.2
    have hbw := below_trans hW0 hbel
    by_cases hkl2 : k < list.length
    · obtain ⟨b, o, x, c0, c1, c2, c3, c4, rfl, _, hx, e0, e1, e2, e3, e4, hval⟩ := (hl.same (hS.same hbw)).cell hkl2
      have hst : Hid (_ = _) := all_drop (fun x => formT d x (deep - 1)) hx
      clear hx hl
      go_wp2_with fail
      refine (ih S x _ (deep - 1) wr hval (hS.later hbw.size) (by omega) (by omega)).mono ?_
      rintro e w1 ⟨rfl, hb1⟩
      have hb2 := below_trans hbel hb1
      have hb3 := below_trans hbw hb1
      clear hb1 hbel hval e0 e1 e2 e3 e4 hc4 hbw
      cases hf : formT d x (deep - 1) with
      | false =>
        have hfin2 : Hid (FIN = false) := by
          show FIN = false
          rw [hfin.out, hst.out, hf]
          rfl
        clear hfin hst
        go_wp2_with fail
        go_ret
        rw [hfin2.out]
        exact ⟨rfl, hb3⟩
      | true =>
        have hfin2 : Hid (FIN = (list.drop (k + 1)).all (fun x => formT d x (deep - 1))) := by
          show FIN = _
          rw [hfin.out, hst.out, hf]
          rfl
        clear hfin hst
        go_wp2_with fail
        go_roundw
        case rel => exact ⟨k + 1, by omega, by go_num, hb2, hfin2⟩
        case measure => simp [intOf]; omega
    · go_wp2_with fail
      go_ret
      rw [hfin.out, List.drop_eq_nil_of_le (by omega)]
      exact ⟨rfl, hbw⟩


set_option maxHeartbeats 2000000 in
theorem l1Form_map (d : Nat) (ih : FormVal d) (S : Nat → Prop) (str : ByteArray) (keys : List ByteArray) (list : List (Tr d)) (deep : Int) (ak al : Option Addr) (ck cl : Nat) (w : World)
    (hk : StrsAt S w (.slice ak keys.length ck) keys) (hl : RowAt S w (ValAt S w d) (.slice al list.length cl) list) (hS : Within S w) (h0 : -1000 ≤ deep) (h1 : deep ≤ 1000) (hll : list.length < 3518437208883) (hd : ¬ deep < 1) (hs : str.toList = []) (FIN : Bool)
    (hfin : FIN = (keys.length == list.length && keysB keys && list.all (fun x => formT d x (deep - 1)))) :
    Calls Tryz.prog 32 #[.agg #[.int .i64 6, .int .i64 0, .string str, .slice ak keys.length ck, .slice al list.length cl], .int .i64 deep] w
      fun e w' => e = .returned (.bool FIN) ∧ Below w.heap.size w w' := by
  cases hq : (keys.length == list.length) with
  | false =>
    have hfin2 : Hid (FIN = false) := by
      show FIN = false
      rw [hfin, hq]
      rfl
    have hq2 : ((keys.length : Int) != (list.length : Int)) = true := by
      rw [bne_iff_ne]
      have := beq_eq_false_iff_ne.1 hq
      omega
    clear hfin hq
    go_enter Tryz.func32, Tryz.ntmps32
    go_wp2_with fail
    go_ret
    rw [hfin2.out]
    exact ⟨rfl, below_alloc1 _ _⟩
  | true =>
  have hq2 : ((keys.length : Int) != (list.length : Int)) = false := by
    rw [bne_eq_false_iff_eq]
    have := beq_iff_eq.1 hq
    omega
  have hfin2 : Hid (FIN = (keysB keys && list.all (fun x => formT d x (deep - 1)))) := by
    show FIN = _
    rw [hfin, hq]
    rfl
  clear hfin hq
  go_enter Tryz.func32, Tryz.ntmps32
  go_wp2_with fail
  have hba := below_alloc1 w (.cells #[.int .i64 6, .int .i64 0, .string str, .slice ak keys.length ck, .slice al list.length cl] 29)
  refine (l1Keys_any S keys _ _ (hk.same (hS.same hba))).mono ?_
  rintro e w1 ⟨rfl, n, rfl⟩
  cases hkb : keysB keys with
  | false =>
    go_wp2_with fail
    go_ret
    rw [hfin2.out, hkb]
    exact ⟨rfl, hba.trans (below_drewN _ _ _)⟩
  | true =>
  have hfin : Hid (FIN = (list.drop 0).all (fun x => formT d x (deep - 1))) := by
    show FIN = _
    rw [hfin2.out, hkb]
    rfl
  clear hfin2 hkb
  go_wp2_with fail
  obtain ⟨W0, hW⟩ : ∃ W0, W0 = (w.alloc (.cells #[.int .i64 6, .int .i64 0, .string str, .slice ak keys.length ck, .slice al list.length cl] 29)).drewN n := ⟨_, rfl⟩
  rw [← hW]
  have k0 : Blk5 W0 w.heap.size 29 (.int .i64 6) (.int .i64 0) (.string str) (.slice ak keys.length ck) (.slice al list.length cl) := by rw [hW]; exact Blk5.new _ _ _ _ _ _ _
  have hW0 : Below w.heap.size w W0 := by rw [hW]; exact hba.trans (below_drewN _ _ _)
  clear hW hba
  go_loopw [5] (fun i wr => ∃ k : Nat, k ≤ list.length ∧ i = .int .i64 k ∧ Below W0.heap.size W0 wr ∧ Hid (FIN = (list.drop k).all (fun x => formT d x (deep - 1)))) (fun i _ => list.length - (intOf i).toNat)
  case atStart => exact ⟨0, Nat.zero_le _, rfl, Below.refl _ _, hfin⟩
  case round =>
    clear hfin
    obtain ⟨k, hkk, rfl, hbel, hfin⟩ := hrel
    have hc4 : wr.cell? ⟨w.heap.size, 4, none⟩ = some (.slice al list.length cl) := (k0.below hbel).cell.2.2.2.2
    have hbw := below_trans hW0 hbel
    by_cases hkl2 : k < list.length
    · obtain ⟨b, o, x, c0, c1, c2, c3, c4, rfl, _, hx, e0, e1, e2, e3, e4, hval⟩ := (hl.same (hS.same hbw)).cell hkl2
      have hst : Hid (_ = _) := all_drop (fun x => formT d x (deep - 1)) hx
      clear hx hl
      go_wp2_with fail
      refine (ih S x _ (deep - 1) wr hval (hS.later hbw.size) (by omega) (by omega)).mono ?_
      rintro e w1 ⟨rfl, hb1⟩
      have hb2 := below_trans hbel hb1
      have hb3 := below_trans hbw hb1
      clear hb1 hbel hval e0 e1 e2 e3 e4 hc4 hbw
      cases hf : formT d x (deep - 1) with
      | false =>
        have hfin2 : Hid (FIN = false) := by
          show FIN = false
          rw [hfin.out, hst.out, hf]
          rfl
        clear hfin hst
        go_wp2_with fail
        go_ret
        rw [hfin2.out]
        exact ⟨rfl, hb3⟩
      | true =>
        have hfin2 : Hid (FIN = (list.drop (k + 1)).all (fun x => formT d x (deep - 1))) := by
          show FIN = _
          rw [hfin.out, hst.out, hf]
          rfl
        clear hfin hst
        go_wp2_with fail
        go_roundw
        case rel => exact ⟨k + 1, by omega, by go_num, hb2, hfin2⟩
        case measure => simp [intOf]; omega
    · go_wp2_with fail
      go_ret
      rw [hfin.out, List.drop_eq_nil_of_le (by omega)]
      exact ⟨rfl, hbw⟩


theorem l1Form_any : ∀ (d : Nat), FormVal d
  | 0 => fun _ _ _ _ _ h => h.elim
  | d + 1 => by
    intro S t v deep w hv hS h0 h1
    have ih := l1Form_any d
    obtain ⟨kind, num, str, keys, list⟩ := t
    obtain ⟨vk, vl, rfl, i1, i2, i3, hk, hl⟩ := hv
    obtain ⟨ak, ck, rfl, hkl⟩ := hk.open'
    obtain ⟨al, cl, rfl, hll⟩ := hl.open'
    cases hb : headBad kind num str keys.length list.length deep with
    | true => exact l1Form_bad d kind num str keys list deep ak al ck cl w hkl hll hb
    | false =>
      by_cases h5 : kind = 5
      · have hg := formT_good (d := d) hb
        obtain ⟨g1, g2, g3, g4, g5⟩ := head_good hb
        subst h5
        obtain rfl : num = 0 := g2 (by decide)
        obtain rfl : keys = [] := List.eq_nil_of_length_eq_zero (g4 (by decide))
        exact l1Form_row d ih S str list deep ak al ck cl w hl hS h0 h1 hll g1 (g3 (by decide)) _ (by rw [hg]; simp)
      · by_cases h6 : kind = 6
        · have hg := formT_good (d := d) hb
          obtain ⟨g1, g2, g3, g4, g5⟩ := head_good hb
          subst h6
          obtain rfl : num = 0 := g2 (by decide)
          exact l1Form_map d ih S str keys list deep ak al ck cl w hk hl hS h0 h1 hll g1 (g3 (by decide)) _ (by rw [hg]; simp)
        · exact l1Form_leaf d kind num str keys list deep ak al ck cl w i3 hkl hll hb h5 h6
end Go.Proofs.YtbcafaomfaainaaGreatDoor
