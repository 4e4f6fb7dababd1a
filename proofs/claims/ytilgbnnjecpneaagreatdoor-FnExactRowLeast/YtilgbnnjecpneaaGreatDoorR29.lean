/- Texts of the proof, put together by program: WOne, WEq. -/
import Derived.Test.YtilgbnnjecpneaaGreatDoorR16
import Derived.Test.YtilgbnnjecpneaaGreatDoorR1
import Derived.Test.YtilgbnnjecpneaaGreatDoorR11
/- Marks from 1 on. -/
namespace Go.Proofs.YtilgbnnjecpneaaGreatDoor
open Go.RowKit Go.Deep

theorem markVal_one (d : Nat) (S : Nat → Prop) (t : Tr (d + 1)) (v : Value) (w : World) (hv : ValOwn w (d + 1) S t v) (hS : Within S w) (h1 : 1 + wtT (d + 1) t ≤ 1099511627776) :
    Calls Tryz.prog 14 #[v, .int .i64 1] w fun e w' => e = .returned (.int .i64 (((markTop d t 1).2 : Nat) : Int)) ∧ ValOwn w' (d + 1) S (markTop d t 1).1 v ∧ Turn S w w' :=
  markVal_any d S t v 1 w hv hS (Nat.le_refl _) h1
theorem heldVal_one (d : Nat) (S : Nat → Prop) (t : Tr (d + 1)) (v : Value) (w : World) (hv : ValAt S w (d + 1) (markTop d t 1).1 v) (hS : Within S w) (h1 : 1 + wtT (d + 1) t ≤ 1099511627776) :
    Calls Tryz.prog 15 #[v, .int .i64 1] w fun e w' => e = .returned (.int .i64 (((markTop d t 1).2 : Nat) : Int)) ∧ Below w.heap.size w w' :=
  heldVal_any d S t v 1 w hv hS (Nat.le_refl _) h1
end Go.Proofs.YtilgbnnjecpneaaGreatDoor

/- eqStringS, eqVal, eqValS: two trees are one. -/
namespace Go.Proofs.YtilgbnnjecpneaaGreatDoor
open Go.RowKit Go.Deep
set_option maxHeartbeats 400000 in
theorem eqStringS_any (S S' : Nat → Prop) (ss ss' : List ByteArray) (v v' : Value) (w : World) (hv : StrsAt S w v ss) (hv' : StrsAt S' w v' ss') :
    Calls Tryz.prog 40 #[v, v'] w fun e w' => e = .returned (.bool (eqStrs ss ss')) ∧ ∃ n, w' = w.drewN n := by
  obtain ⟨a, cap, rfl, hlen⟩ := hv.open'
  obtain ⟨a', cap', rfl, hlen'⟩ := hv'.open'
  by_cases hne : ss.length = ss'.length
  · rw [← hne]
    have HN : Hid (ss.length = ss'.length) := hne
    clear hne
    have hq : ((ss.length : Int) != (ss.length : Int)) = false := by simp
    go_enter Tryz.func40, Tryz.ntmps40
    go_wp2_with fail
    go_loopw [5] (fun i wr => ∃ (k n : Nat), k ≤ ss.length ∧ i = .int .i64 k ∧ wr = w.drewN n ∧ Hid (eqStrs ss ss' = eqStrs (ss.drop k) (ss'.drop k))) (fun i _ => ss.length - (intOf i).toNat)
    case atStart => exact ⟨0, 0, Nat.zero_le _, rfl, rfl, rfl⟩
    case round =>
      obtain ⟨k, n, hk, rfl, rfl, hfin⟩ := hrel
      by_cases hkl : k < ss.length
      · obtain ⟨b, o, s, rfl, _, hs, _, hck⟩ := hv.cell hkl
        obtain ⟨b', o', s', rfl, _, hs', _, hck'⟩ := hv'.cell (by rw [← HN.out]; exact hkl)
        have hst : Hid (_ = _) := eqStrs_drop hs hs'
        clear hv hv' hs hs'
        have hki : (k : Int) < (ss.length : Int) := by omega
        by_cases heq : (s.toList == s'.toList) = true
        · have hst2 : Hid (eqStrs ss ss' = eqStrs (ss.drop (k + 1)) (ss'.drop (k + 1))) := by
            show eqStrs ss ss' = _
            rw [hfin.out, hst.out, heq]
            rfl
          clear hst hfin
          go_wp2_with fail
          go_quiet (fail)
          go_wp2_with fail
          exact ⟨⟨k + 1, n + nq, by omega, by go_num, by simp, hst2⟩, by simp [intOf]; omega⟩
        · have heq' : (s.toList == s'.toList) = false := by simpa using heq
          have hfin2 : Hid (eqStrs ss ss' = false) := by
            show eqStrs ss ss' = false
            rw [hfin.out, hst.out, heq']
            rfl
          clear hst hfin heq
          go_wp2_with fail
          go_quiet (fail)
          go_wp2_with fail
          go_ret
          rw [hfin2.out]
          exact ⟨rfl, n + nq, by simp⟩
      · go_wp2_with fail
        go_ret
        rw [hfin.out, List.drop_eq_nil_of_le (by omega), List.drop_eq_nil_of_le (by have := HN.out; omega)]
        exact ⟨rfl, n, rfl⟩
  · have hfin : Hid (eqStrs ss ss' = false) := by
      show eqStrs ss ss' = false
      cases h : eqStrs ss ss'
      · rfl
      · exact absurd (eqStrs_len _ _ h) hne
    have hq : ((ss.length : Int) != (ss'.length : Int)) = true := by rw [bne_iff_ne]; omega
    go_enter Tryz.func40, Tryz.ntmps40
    go_wp2_with fail
    go_ret
    rw [hfin.out]
    exact ⟨rfl, 0, rfl⟩

/-- What eqVal does with trees of this depth. -/
def EqVal (d : Nat) : Prop := ∀ (S S' : Nat → Prop) (t t' : Tr d) (v v' : Value) (w : World), ValAt S w d t v → ValAt S' w d t' v' → Within S w → Within S' w →
    Calls Tryz.prog 13 #[v, v'] w fun e w' => e = .returned (.bool (eqT d t t')) ∧ Below w.heap.size w w'

set_option maxHeartbeats 1000000 in
theorem eqValS_any (d : Nat) (H : EqVal d) (S S' : Nat → Prop) (xs xs' : List (Tr d)) (v v' : Value) (w : World) (hv : RowAt S w (ValAt S w d) v xs) (hv' : RowAt S' w (ValAt S' w d) v' xs') (hS : Within S w) (hS' : Within S' w) :
    Calls Tryz.prog 41 #[v, v'] w fun e w' => e = .returned (.bool (eqL (eqT d) xs xs')) ∧ Below w.heap.size w w' := by
  obtain ⟨a, cap, rfl, hlen⟩ := hv.open'
  obtain ⟨a', cap', rfl, hlen'⟩ := hv'.open'
  by_cases hne : xs.length = xs'.length
  · rw [← hne]
    have HN : Hid (xs.length = xs'.length) := hne
    clear hne
    have hq : ((xs.length : Int) != (xs.length : Int)) = false := by simp
    go_enter Tryz.func41, Tryz.ntmps41
    go_wp2_with fail
    go_loopw [5] (fun i wr => ∃ (k : Nat), k ≤ xs.length ∧ i = .int .i64 k ∧ Below w.heap.size w wr ∧ Hid (eqL (eqT d) xs xs' = eqL (eqT d) (xs.drop k) (xs'.drop k))) (fun i _ => xs.length - (intOf i).toNat)
    case atStart => exact ⟨0, Nat.zero_le _, rfl, Below.refl _ _, rfl⟩
    case round =>
      obtain ⟨k, hk, rfl, hbel, hfin⟩ := hrel
      by_cases hkl : k < xs.length
      · obtain ⟨b, o, x, c0, c1, c2, c3, c4, rfl, hb, hx, e0, e1, e2, e3, e4, hval⟩ := (hv.same (hS.same hbel)).cell hkl
        obtain ⟨b', o', x', c0', c1', c2', c3', c4', rfl, hb', hx', e0', e1', e2', e3', e4', hval'⟩ := (hv'.same (hS'.same hbel)).cell (by rw [← HN.out]; exact hkl)
        have hst : Hid (_ = _) := eqL_drop (eqT d) hx hx'
        have hW := hS.later hbel.size
        have hW' := hS'.later hbel.size
        clear hv hv' hx hx' hS hS'
        have hki : (k : Int) < (xs.length : Int) := by omega
        by_cases heq : eqT d x x' = true
        · have hst2 : Hid (eqL (eqT d) xs xs' = eqL (eqT d) (xs.drop (k + 1)) (xs'.drop (k + 1))) := by
            show eqL (eqT d) xs xs' = _
            rw [hfin.out, hst.out, heq]
            rfl
          clear hst hfin
          go_wp2_with fail
          go_region_with (go_at_call 13; refine (H S S' x x' _ _ _ ?_ ?_ ?_ ?_).mono ?_; exact hval.same (fun _ _ => rfl); exact hval'.same (fun _ _ => rfl); exact hW; exact hW'; rintro e w1 ⟨rfl, hb1⟩)
          all_goals
            have hb2 : Below w.heap.size w w1 := below_trans hbel (show Below wr.heap.size wr w1 from ⟨hb1.os, hb1.tape, hb1.output, hb1.size, hb1.block⟩)
            clear hb1 hbel hval hval' e0 e1 e2 e3 e4 e0' e1' e2' e3' e4'
            go_wp2_with fail
            go_roundw
            case rel => exact ⟨k + 1, by omega, by go_num, hb2, hst2⟩
            case measure => simp [intOf]; omega
        · have heq' : eqT d x x' = false := by simpa using heq
          have hfin2 : Hid (eqL (eqT d) xs xs' = false) := by
            show eqL (eqT d) xs xs' = false
            rw [hfin.out, hst.out, heq']
            rfl
          clear hst hfin heq
          go_wp2_with fail
          go_region_with (go_at_call 13; refine (H S S' x x' _ _ _ ?_ ?_ ?_ ?_).mono ?_; exact hval.same (fun _ _ => rfl); exact hval'.same (fun _ _ => rfl); exact hW; exact hW'; rintro e w1 ⟨rfl, hb1⟩)
          all_goals
            have hb2 : Below w.heap.size w w1 := below_trans hbel (show Below wr.heap.size wr w1 from ⟨hb1.os, hb1.tape, hb1.output, hb1.size, hb1.block⟩)
            clear hb1 hbel hval hval' e0 e1 e2 e3 e4 e0' e1' e2' e3' e4'
            go_wp2_with fail
            go_ret
            rw [hfin2.out]
            exact ⟨rfl, hb2⟩
      · go_wp2_with fail
        go_ret
        rw [hfin.out, List.drop_eq_nil_of_le (by omega), List.drop_eq_nil_of_le (by have := HN.out; omega)]
        exact ⟨rfl, hbel⟩
  · have hfin : Hid (eqL (eqT d) xs xs' = false) := by
      show eqL (eqT d) xs xs' = false
      cases h : eqL (eqT d) xs xs'
      · rfl
      · exact absurd (eqL_len _ _ _ h) hne
    have hq : ((xs.length : Int) != (xs'.length : Int)) = true := by rw [bne_iff_ne]; omega
    go_enter Tryz.func41, Tryz.ntmps41
    go_wp2_with fail
    go_ret
    rw [hfin.out]
    exact ⟨rfl, Below.refl _ _⟩

set_option maxHeartbeats 1000000 in
theorem eqVal_any : ∀ (d : Nat), EqVal d
  | 0 => fun _ _ _ _ _ _ _ h => h.elim
  | d + 1 => by
    intro S S' t t' v v' w hv hv' hS hS'
    have ih := eqVal_any d
    obtain ⟨vk, vl, rfl, i1, i2, i3, hk, hl⟩ := hv
    obtain ⟨ak, ck, rfl, hkl⟩ := hk.open'
    obtain ⟨al, cl, rfl, hll⟩ := hl.open'
    obtain ⟨vk', vl', rfl, i1', i2', i3', hk', hl'⟩ := hv'
    obtain ⟨ak', ck', rfl, hkl'⟩ := hk'.open'
    obtain ⟨al', cl', rfl, hll'⟩ := hl'.open'
    have hba : Below w.heap.size w ((w.alloc (Obj.cells #[.int .i64 t.kind, .int .i64 t.num, .string t.str, .slice ak t.keys.length ck, .slice al t.list.length cl] 29)).alloc
      (Obj.cells #[.int .i64 t'.kind, .int .i64 t'.num, .string t'.str, .slice ak' t'.keys.length ck', .slice al' t'.list.length cl'] 29)) := below_trans (below_alloc1 _ _) (below_alloc1 _ _)
    cases h1 : (t.kind == t'.kind) with
    | false =>
      have hfin : Hid (eqT (d + 1) t t' = false) := by
        show eqT (d + 1) t t' = false
        rw [eqT, h1]
        rfl
      have hq : (t.kind != t'.kind) = true := by rw [bne, h1]; rfl
      clear h1
      go_enter Tryz.func13, Tryz.ntmps13
      go_wp2_with fail
      go_ret
      rw [hfin.out]
      exact ⟨rfl, hba⟩
    | true =>
    have hq : (t.kind != t'.kind) = false := by rw [bne, h1]; rfl
    cases h2 : (t.num == t'.num) with
    | false =>
      have hfin : Hid (eqT (d + 1) t t' = false) := by
        show eqT (d + 1) t t' = false
        rw [eqT, h1, h2]
        rfl
      have hq2 : (t.num != t'.num) = true := by rw [bne, h2]; rfl
      clear h1 h2
      go_enter Tryz.func13, Tryz.ntmps13
      go_wp2_with fail
      go_ret
      rw [hfin.out]
      exact ⟨rfl, hba⟩
    | true =>
    have hq2 : (t.num != t'.num) = false := by rw [bne, h2]; rfl
    cases h3 : (t.str.toList == t'.str.toList) with
    | false =>
      have hfin : Hid (eqT (d + 1) t t' = false) := by
        show eqT (d + 1) t t' = false
        rw [eqT, h1, h2, h3]
        rfl
      clear h1 h2
      go_enter Tryz.func13, Tryz.ntmps13
      go_wp2_with fail
      go_ret
      rw [hfin.out]
      exact ⟨rfl, hba⟩
    | true =>
    have hfin : Hid (eqT (d + 1) t t' = (eqStrs t.keys t'.keys && eqL (eqT d) t.list t'.list)) := by
      show eqT (d + 1) t t' = _
      rw [eqT, h1, h2, h3]
      rfl
    clear h1 h2
    go_enter Tryz.func13, Tryz.ntmps13
    go_wp2_with fail
    refine (eqStringS_any S S' t.keys t'.keys _ _ _ (hk.same (hS.same hba)) (hk'.same (hS'.same hba))).mono ?_
    rintro e w1 ⟨rfl, n, rfl⟩
    cases h4 : eqStrs t.keys t'.keys with
    | false =>
      go_wp2_with fail
      go_ret
      rw [hfin.out, h4]
      exact ⟨rfl, hba.trans (below_drewN _ _ _)⟩
    | true =>
    go_wp2_with fail
    have hbb := hba.trans (below_drewN w.heap.size _ n)
    refine (eqValS_any d ih S S' t.list t'.list _ _ _ (hl.same (hS.same hbb)) (hl'.same (hS'.same hbb)) (hS.later hbb.size) (hS'.later hbb.size)).mono ?_
    rintro e w2 ⟨rfl, hb2⟩
    have hb3 := below_trans hbb hb2
    clear hb2 hbb hba
    cases h5 : eqL (eqT d) t.list t'.list with
    | false =>
      go_wp2_with fail
      go_ret
      rw [hfin.out, h4, h5]
      exact ⟨rfl, hb3⟩
    | true =>
      go_wp2_with fail
      go_ret
      rw [hfin.out, h4, h5]
      exact ⟨rfl, hb3⟩
end Go.Proofs.YtilgbnnjecpneaaGreatDoor
