/- Texts of the proof, put together by program: WEq, WPartP, WUp, WGetP, WStep, WStepOk, WPathP. -/
import Derived.Test.YtmibjmipndffmaaGreatDoorQ1
import Derived.Test.YtmibjmipndffmaaGreatDoorQ3
import Derived.Test.YtmibjmipndffmaaGreatDoorQ5
import Derived.Test.YtmibjmipndffmaaGreatDoorQ6
import Derived.Test.YtmibjmipndffmaaGreatDoorQ2
/- eqStringS, eqVal, eqValS: two trees are one. -/
namespace Go.Proofs.YtmibjmipndffmaaGreatDoor
open Go.RowKit Go.Deep
set_option maxHeartbeats 400000 in
theorem eqStringS_any (S S' : Nat → Prop) (ss ss' : List ByteArray) (v v' : Value) (w : World) (hv : StrsAt S w v ss) (hv' : StrsAt S' w v' ss') :
    Calls Tryz.prog 77 #[v, v'] w fun e w' => e = .returned (.bool (eqStrs ss ss')) ∧ ∃ n, w' = w.drewN n := by
  obtain ⟨a, cap, rfl, hlen⟩ := hv.open'
  obtain ⟨a', cap', rfl, hlen'⟩ := hv'.open'
  by_cases hne : ss.length = ss'.length
  · rw [← hne]
    have HN : Hid (ss.length = ss'.length) := hne
    clear hne
    have hq : ((ss.length : Int) != (ss.length : Int)) = false := by simp
    go_enter Tryz.func77, Tryz.ntmps77
    go_wp2_with fail
    go_loopw [5] (fun i wr => ∃ (k n : Nat), k ≤ ss.length ∧ i = .int .i64 k ∧ wr = w.drewN n ∧ Hid (eqStrs ss ss' = eqStrs (ss.drop k) (ss'.drop k))) (fun i _ => ss.length - (intOf i).toNat)
    case atStart => exact ⟨0, 0, Nat.zero_le _, rfl, rfl, rfl⟩
    case round =>
      obtain ⟨k, n, hk, rfl, rfl, hfin⟩ := hrel
      by_cases hkl : k < ss.length
      · obtain ⟨b, o, s, rfl, _, hs, _, hck⟩ := hv.cell hkl
        obtain ⟨b', o', s', rfl, _, hs', _, hck'⟩ := hv'.cell (by rw [← HN.out]; exact hkl)
        have hst : Hid (_ = _) := eqStrs_drop hs hs'
        clear hv hv' hs hs'
        have hki : (k : Int) < (ss.length : Int) := by omega
        by_cases heq : (s.toList == s'.toList) = true
        · have hst2 : Hid (eqStrs ss ss' = eqStrs (ss.drop (k + 1)) (ss'.drop (k + 1))) := by
            show eqStrs ss ss' = _
            rw [hfin.out, hst.out, heq]
            rfl
          clear hst hfin
          go_wp2_with fail
          go_quiet (fail)
          go_wp2_with fail
          exact ⟨⟨k + 1, n + nq, by omega, by go_num, by simp, hst2⟩, by simp [intOf]; omega⟩
        · have heq' : (s.toList == s'.toList) = false := by simpa using heq
          have hfin2 : Hid (eqStrs ss ss' = false) := by
            show eqStrs ss ss' = false
            rw [hfin.out, hst.out, heq']
            rfl
          clear hst hfin heq
          go_wp2_with fail
          go_quiet (fail)
          go_wp2_with fail
          go_ret
          rw [hfin2.out]
          exact ⟨rfl, n + nq, by simp⟩
      · go_wp2_with fail
        go_ret
        rw [hfin.out, List.drop_eq_nil_of_le (by omega), List.drop_eq_nil_of_le (by have := HN.out; omega)]
        exact ⟨rfl, n, rfl⟩
  · have hfin : Hid (eqStrs ss ss' = false) := by
      show eqStrs ss ss' = false
      cases h : eqStrs ss ss'
      · rfl
      · exact absurd (eqStrs_len _ _ h) hne
    have hq : ((ss.length : Int) != (ss'.length : Int)) = true := by rw [bne_iff_ne]; omega
    go_enter Tryz.func77, Tryz.ntmps77
    go_wp2_with fail
    go_ret
    rw [hfin.out]
    exact ⟨rfl, 0, rfl⟩

/-- What eqVal does with trees of this depth. -/
def EqVal (d : Nat) : Prop := ∀ (S S' : Nat → Prop) (t t' : Tr d) (v v' : Value) (w : World), ValAt S w d t v → ValAt S' w d t' v' → Within S w → Within S' w →
    Calls Tryz.prog 35 #[v, v'] w fun e w' => e = .returned (.bool (eqT d t t')) ∧ Below w.heap.size w w'

set_option maxHeartbeats 1000000 in
theorem eqValS_any (d : Nat) (H : EqVal d) (S S' : Nat → Prop) (xs xs' : List (Tr d)) (v v' : Value) (w : World) (hv : RowAt S w (ValAt S w d) v xs) (hv' : RowAt S' w (ValAt S' w d) v' xs') (hS : Within S w) (hS' : Within S' w) :
    Calls Tryz.prog 78 #[v, v'] w fun e w' => e = .returned (.bool (eqL (eqT d) xs xs')) ∧ Below w.heap.size w w' := by
  obtain ⟨a, cap, rfl, hlen⟩ := hv.open'
  obtain ⟨a', cap', rfl, hlen'⟩ := hv'.open'
  by_cases hne : xs.length = xs'.length
  · rw [← hne]
    have HN : Hid (xs.length = xs'.length) := hne
    clear hne
    have hq : ((xs.length : Int) != (xs.length : Int)) = false := by simp
    go_enter Tryz.func78, Tryz.ntmps78
    go_wp2_with fail
    go_loopw [5] (fun i wr => ∃ (k : Nat), k ≤ xs.length ∧ i = .int .i64 k ∧ Below w.heap.size w wr ∧ Hid (eqL (eqT d) xs xs' = eqL (eqT d) (xs.drop k) (xs'.drop k))) (fun i _ => xs.length - (intOf i).toNat)
    case atStart => exact ⟨0, Nat.zero_le _, rfl, Below.refl _ _, rfl⟩
    case round =>
      obtain ⟨k, hk, rfl, hbel, hfin⟩ := hrel
      by_cases hkl : k < xs.length
      · obtain ⟨b, o, x, c0, c1, c2, c3, c4, rfl, hb, hx, e0, e1, e2, e3, e4, hval⟩ := (hv.same (hS.same hbel)).cell hkl
        obtain ⟨b', o', x', c0', c1', c2', c3', c4', rfl, hb', hx', e0', e1', e2', e3', e4', hval'⟩ := (hv'.same (hS'.same hbel)).cell (by rw [← HN.out]; exact hkl)
        have hst : Hid (_ = _) := eqL_drop (eqT d) hx hx'
        have hW := hS.later hbel.size
        have hW' := hS'.later hbel.size
        clear hv hv' hx hx' hS hS'
        have hki : (k : Int) < (xs.length : Int) := by omega
        by_cases heq : eqT d x x' = true
        · have hst2 : Hid (eqL (eqT d) xs xs' = eqL (eqT d) (xs.drop (k + 1)) (xs'.drop (k + 1))) := by
            show eqL (eqT d) xs xs' = _
            rw [hfin.out, hst.out, heq]
            rfl
          clear hst hfin
          go_wp2_with fail
          go_region_with (go_at_call 35; refine (H S S' x x' _ _ _ ?_ ?_ ?_ ?_).mono ?_; exact hval.same (fun _ _ => rfl); exact hval'.same (fun _ _ => rfl); exact hW; exact hW'; rintro e w1 ⟨rfl, hb1⟩)
          all_goals
            have hb2 : Below w.heap.size w w1 := below_trans hbel (show Below wr.heap.size wr w1 from ⟨hb1.os, hb1.tape, hb1.output, hb1.size, hb1.block⟩)
            clear hb1 hbel hval hval' e0 e1 e2 e3 e4 e0' e1' e2' e3' e4'
            go_wp2_with fail
            go_roundw
            case rel => exact ⟨k + 1, by omega, by go_num, hb2, hst2⟩
            case measure => simp [intOf]; omega
        · have heq' : eqT d x x' = false := by simpa using heq
          have hfin2 : Hid (eqL (eqT d) xs xs' = false) := by
            show eqL (eqT d) xs xs' = false
            rw [hfin.out, hst.out, heq']
            rfl
          clear hst hfin heq
          go_wp2_with fail
          go_region_with (go_at_call 35; refine (H S S' x x' _ _ _ ?_ ?_ ?_ ?_).mono ?_; exact hval.same (fun _ _ => rfl); exact hval'.same (fun _ _ => rfl); exact hW; exact hW'; rintro e w1 ⟨rfl, hb1⟩)
          all_goals
            have hb2 : Below w.heap.size w w1 := below_trans hbel (show Below wr.heap.size wr w1 from ⟨hb1.os, hb1.tape, hb1.output, hb1.size, hb1.block⟩)
            clear hb1 hbel hval hval' e0 e1 e2 e3 e4 e0' e1' e2' e3' e4'
            go_wp2_with fail
            go_ret
            rw [hfin2.out]
            exact ⟨rfl, hb2⟩
      · go_wp2_with fail
        go_ret
        rw [hfin.out, List.drop_eq_nil_of_le (by omega), List.drop_eq_nil_of_le (by have := HN.out; omega)]
        exact ⟨rfl, hbel⟩
  · have hfin : Hid (eqL (eqT d) xs xs' = false) := by
      show eqL (eqT d) xs xs' = false
      cases h : eqL (eqT d) xs xs'
      · rfl
      · exact absurd (eqL_len _ _ _ h) hne
    have hq : ((xs.length : Int) != (xs'.length : Int)) = true := by rw [bne_iff_ne]; omega
    go_enter Tryz.func78, Tryz.ntmps78
    go_wp2_with fail
    go_ret
    rw [hfin.out]
    exact ⟨rfl, Below.refl _ _⟩

set_option maxHeartbeats 1000000 in
theorem eqVal_any : ∀ (d : Nat), EqVal d
  | 0 => fun _ _ _ _ _ _ _ h => h.elim
  | d + 1 => by
    intro S S' t t' v v' w hv hv' hS hS'
    have ih := eqVal_any d
    obtain ⟨vk, vl, rfl, i1, i2, i3, hk, hl⟩ := hv
    obtain ⟨ak, ck, rfl, hkl⟩ := hk.open'
    obtain ⟨al, cl, rfl, hll⟩ := hl.open'
    obtain ⟨vk', vl', rfl, i1', i2', i3', hk', hl'⟩ := hv'
    obtain ⟨ak', ck', rfl, hkl'⟩ := hk'.open'
    obtain ⟨al', cl', rfl, hll'⟩ := hl'.open'
    have hba : Below w.heap.size w ((w.alloc (Obj.cells #[.int .i64 t.kind, .int .i64 t.num, .string t.str, .slice ak t.keys.length ck, .slice al t.list.length cl] 26)).alloc
      (Obj.cells #[.int .i64 t'.kind, .int .i64 t'.num, .string t'.str, .slice ak' t'.keys.length ck', .slice al' t'.list.length cl'] 26)) := below_trans (below_alloc1 _ _) (below_alloc1 _ _)
    cases h1 : (t.kind == t'.kind) with
    | false =>
      have hfin : Hid (eqT (d + 1) t t' = false) := by
        show eqT (d + 1) t t' = false
        rw [eqT, h1]
        rfl
      have hq : (t.kind != t'.kind) = true := by rw [bne, h1]; rfl
      clear h1
      go_enter Tryz.func35, Tryz.ntmps35
      go_wp2_with fail
      go_ret
      rw [hfin.out]
      exact ⟨rfl, hba⟩
    | true =>
    have hq : (t.kind != t'.kind) = false := by rw [bne, h1]; rfl
    cases h2 : (t.num == t'.num) with
    | false =>
      have hfin : Hid (eqT (d + 1) t t' = false) := by
        show eqT (d + 1) t t' = false
        rw [eqT, h1, h2]
        rfl
      have hq2 : (t.num != t'.num) = true := by rw [bne, h2]; rfl
      clear h1 h2
      go_enter Tryz.func35, Tryz.ntmps35
      go_wp2_with fail
      go_ret
      rw [hfin.out]
      exact ⟨rfl, hba⟩
    | true =>
    have hq2 : (t.num != t'.num) = false := by rw [bne, h2]; rfl
    cases h3 : (t.str.toList == t'.str.toList) with
    | false =>
      have hfin : Hid (eqT (d + 1) t t' = false) := by
        show eqT (d + 1) t t' = false
        rw [eqT, h1, h2, h3]
        rfl
      clear h1 h2
      go_enter Tryz.func35, Tryz.ntmps35
      go_wp2_with fail
      go_ret
      rw [hfin.out]
      exact ⟨rfl, hba⟩
    | true =>
    have hfin : Hid (eqT (d + 1) t t' = (eqStrs t.keys t'.keys && eqL (eqT d) t.list t'.list)) := by
      show eqT (d + 1) t t' = _
      rw [eqT, h1, h2, h3]
      rfl
    clear h1 h2
    go_enter Tryz.func35, Tryz.ntmps35
    go_wp2_with fail
    refine (eqStringS_any S S' t.keys t'.keys _ _ _ (hk.same (hS.same hba)) (hk'.same (hS'.same hba))).mono ?_
    rintro e w1 ⟨rfl, n, rfl⟩
    cases h4 : eqStrs t.keys t'.keys with
    | false =>
      go_wp2_with fail
      go_ret
      rw [hfin.out, h4]
      exact ⟨rfl, hba.trans (below_drewN _ _ _)⟩
    | true =>
    go_wp2_with fail
    have hbb := hba.trans (below_drewN w.heap.size _ n)
    refine (eqValS_any d ih S S' t.list t'.list _ _ _ (hl.same (hS.same hbb)) (hl'.same (hS'.same hbb)) (hS.later hbb.size) (hS'.later hbb.size)).mono ?_
    rintro e w2 ⟨rfl, hb2⟩
    have hb3 := below_trans hbb hb2
    clear hb2 hbb hba
    cases h5 : eqL (eqT d) t.list t'.list with
    | false =>
      go_wp2_with fail
      go_ret
      rw [hfin.out, h4, h5]
      exact ⟨rfl, hb3⟩
    | true =>
      go_wp2_with fail
      go_ret
      rw [hfin.out, h4, h5]
      exact ⟨rfl, hb3⟩
end Go.Proofs.YtmibjmipndffmaaGreatDoor

/- Parts of trees that are ok; what lies at a place. -/
namespace Go.Proofs.YtmibjmipndffmaaGreatDoor
open Go.RowKit Go.Deep

theorem sum_map_eq {α : Type} {f g : α → Nat} : ∀ (xs : List α), (∀ x ∈ xs, f x = g x) → (xs.map f).sum = (xs.map g).sum
  | [], _ => rfl
  | x :: r, h => by
    simp only [List.map_cons, List.sum_cons]
    rw [h x (by simp), sum_map_eq r (fun y hy => h y (by simp [hy]))]

theorem formT_up : ∀ (d : Nat) (t : Tr d) (deep : Int), formT d t deep = true → formT d t (deep + 1) = true ∧ manyT d t (deep + 1) = manyT d t deep
  | 0, _, _, h => by cases h
  | d + 1, t, deep, hf => by
    obtain ⟨kind, num, str, keys, list⟩ := t
    cases hb : headBad kind num str keys.length list.length deep with
    | true => rw [formT_bad hb] at hf; cases hf
    | false =>
      obtain ⟨g0, g1, g2, g3, g4⟩ := headBad_iff.1 hb
      have hb' : headBad kind num str keys.length list.length (deep + 1) = false := headBad_iff.2 ⟨by omega, g1, g2, g3, g4⟩
      rw [formT_good hb] at hf
      rw [formT_good hb']
      have hm : ∀ e : Int, 0 < e → manyT (d + 1) (Nd.mk kind num str keys list : Nd (Tr d)) e = 1 + (list.map (fun x => manyT d x (e - 1))).sum := fun e he => by
        show 1 + (if 0 < e then _ else 0) = _
        rw [if_pos he]
      rw [hm _ (by omega), hm _ (by omega)]
      have hall : ∀ x ∈ list, formT d x (deep - 1) = true := by
        intro x hx
        by_cases k5 : kind < 5
        · have := g4 k5
          rw [List.length_eq_zero_iff] at this
          rw [this] at hx
          cases hx
        rw [if_neg (by omega), if_neg (by omega), if_neg (by omega)] at hf
        by_cases k6 : kind = 6
        · rw [if_pos k6] at hf
          simp only [Bool.and_eq_true] at hf
          exact List.all_eq_true.1 hf.2 x hx
        rw [if_neg k6] at hf
        by_cases k5' : kind = 5
        · rw [if_pos k5'] at hf
          exact List.all_eq_true.1 hf x hx
        · rw [if_neg k5'] at hf
          cases hf
      have hup : ∀ x ∈ list, formT d x (deep + 1 - 1) = true ∧ manyT d x (deep + 1 - 1) = manyT d x (deep - 1) := fun x hx => by
        have h1 := formT_up d x (deep - 1) (hall x hx)
        rw [show deep - 1 + 1 = deep + 1 - 1 by omega] at h1
        exact h1
      have ha : list.all (fun x => formT d x (deep + 1 - 1)) = list.all (fun x => formT d x (deep - 1)) := by
        rw [List.all_eq_true.2 (fun x hx => (hup x hx).1), List.all_eq_true.2 hall]
      rw [ha]
      exact ⟨hf, by rw [sum_map_eq list (fun x hx => (hup x hx).2)]⟩

theorem okT_part {d : Nat} {t : Tr (d + 1)} {x : Tr d} (h : okT (d + 1) t = true) (hx : x ∈ Nd.list t) : okT d x = true := by
  obtain ⟨hf, hm⟩ := okT_form h
  obtain ⟨kind, num, str, keys, list⟩ := t
  have hx : x ∈ list := hx
  have hmm : manyT (d + 1) (Nd.mk kind num str keys list : Nd (Tr d)) 6 = 1 + (list.map (fun x => manyT d x (6 - 1))).sum := rfl
  rw [hmm] at hm
  have h1 := many_mem (d := d) (deep := 6 - 1) hx
  have hfx : formT d x (6 - 1) = true := by
    cases hb : headBad kind num str keys.length list.length 6 with
    | true => rw [formT_bad hb] at hf; cases hf
    | false =>
      obtain ⟨g0, g1, g2, g3, g4⟩ := headBad_iff.1 hb
      rw [formT_good hb] at hf
      by_cases k5 : kind < 5
      · have := g4 k5
        rw [List.length_eq_zero_iff] at this
        rw [this] at hx
        cases hx
      rw [if_neg (by omega), if_neg (by omega), if_neg (by omega)] at hf
      by_cases k6 : kind = 6
      · rw [if_pos k6] at hf
        simp only [Bool.and_eq_true] at hf
        exact List.all_eq_true.1 hf.2 x hx
      rw [if_neg k6] at hf
      by_cases k5' : kind = 5
      · rw [if_pos k5'] at hf
        exact List.all_eq_true.1 hf x hx
      · rw [if_neg k5'] at hf
        cases hf
  have h2 := formT_up d x (6 - 1) hfx
  have h3 : formT d x 6 = true := h2.1
  have h4 : manyT d x 6 = manyT d x (6 - 1) := h2.2
  have h5 : manyT d x 6 ≤ 60 := by rw [h4]; omega
  unfold okT
  rw [h3]
  simpa using h5

theorem str_empty {s : ByteArray} (h : s.toList = []) : s = ByteArray.empty := by
  rw [ByteArray.toList_eq] at h
  cases s with
  | mk a =>
    cases a with
    | mk l =>
      have h : l = [] := h
      rw [h]
      rfl
/-- What is nothing, is nothing at one depth less. -/
theorem valAt_zero {d : Nat} {S : Nat → Prop} {w : World} {t : Tr (d + 2)} {v : Value} (h : okT (d + 2) t = true) (h0 : Nd.kind t = 0) (hv : ValAt S w (d + 2) t v) : ValAt S w (d + 1) (zeroT d) v := by
  obtain ⟨hf, _⟩ := okT_form h
  obtain ⟨kind, num, str, keys, list⟩ := t
  have h0 : kind = 0 := h0
  subst h0
  cases hb : headBad 0 num str keys.length list.length 6 with
  | true => rw [formT_bad hb] at hf; cases hf
  | false =>
    obtain ⟨_, g1, g2, g3, g4⟩ := headBad_iff.1 hb
    obtain rfl := g1 (by omega)
    have hs : str = ByteArray.empty := str_empty (g2 (by omega))
    subst hs
    have hk := g3 (by omega)
    have hl := g4 (by omega)
    rw [List.length_eq_zero_iff] at hk hl
    subst hk hl
    obtain ⟨vk, vl, rfl, i1, i2, i3, hk, hl⟩ := hv
    exact ⟨vk, vl, rfl, i1, i2, i3, hk, by
      obtain ⟨a, ⟨p, c, e, q⟩⟩ := hl
      exact ⟨by show (0 : Nat) < 3518437208883; omega, p, c, e, Or.inl rfl⟩⟩

/-- What lies at a place, from the end if it is below 0. -/
def placeI (i : Int) (n : Nat) : Int := if i < -(n : Int) ∨ (n : Int) ≤ i then -1 else if i < 0 then i + n else i
def placeL {α : Type} (xs : List α) (i : Int) : Option α := if placeI i xs.length < 0 then none else xs[(placeI i xs.length).toNat]?
def partAtT (d : Nat) (t : Tr (d + 2)) (i : Int) : Tr (d + 1) × Bool :=
  if okT (d + 2) t = true then (if Nd.kind t = 0 then (zeroT d, true) else if Nd.kind t = 5 then ((placeL (Nd.list t) i).getD (zeroT d), true) else (zeroT d, false)) else (zeroT d, false)
theorem placeL_mem {α : Type} {xs : List α} {i : Int} {x : α} (h : placeL xs i = some x) : x ∈ xs := by
  unfold placeL at h
  split at h
  · cases h
  · exact List.mem_of_getElem? h
theorem okT_partAt (d : Nat) (t : Tr (d + 2)) (i : Int) : okT (d + 1) (partAtT d t i).1 = true := by
  unfold partAtT
  split
  · rename_i h
    split
    · exact okT_zero d
    split
    · cases hp : placeL (Nd.list t) i with
      | none => exact okT_zero d
      | some x => exact okT_part h (placeL_mem hp)
    · exact okT_zero d
  · exact okT_zero d
theorem placeI_range (i : Int) (n : Nat) : placeI i n = -1 ∨ (0 ≤ placeI i n ∧ placeI i n < n) := by
  unfold placeI
  split
  · exact Or.inl rfl
  · split <;> exact Or.inr (by omega)
theorem wt_part {d : Nat} {t : Tr (d + 1)} {x : Tr d} (hx : x ∈ Nd.list t) (h : okT (d + 1) t = true) : (wtT d x : Int) ≤ 4194304 := by
  have := wtT_ok (okT_part h hx)
  omega

/-- A tree that lies in memory, as one that may be one deeper. -/
theorem deepen {S : Nat → Prop} {w : World} {v : Value} : ∀ {N : Nat} {t : Tr N}, ValAt S w N t v → ∃ (d : Nat) (t' : Tr (d + 2)), ValAt S w (d + 2) t' v
  | 0, _, h => h.elim
  | 1, t, h => by
    obtain ⟨vk, vl, rfl, i1, i2, i3, hk, hl⟩ := h
    refine ⟨0, (Nd.mk (Nd.kind t) (Nd.num t) (Nd.str t) (Nd.keys t) [] : Nd (Tr 1)), vk, vl, rfl, i1, i2, i3, hk, ?_⟩
    obtain ⟨h1, a, cap, rfl, h2⟩ := hl
    have h0 : (Nd.list t).length = 0 := by
      cases hL : Nd.list t with
      | nil => rfl
      | cons x r => exact Empty.elim x
    exact ⟨by show (0 : Nat) < 3518437208883; omega, a, cap, by show _ = Value.slice a 0 cap; rw [h0], Or.inl rfl⟩
  | d + 2, t, h => ⟨d, t, h⟩
end Go.Proofs.YtmibjmipndffmaaGreatDoor

/- A tree as one that may be one deeper. -/
namespace Go.Proofs.YtmibjmipndffmaaGreatDoor
open Go.RowKit Go.Deep

/-- The same tree, as one that may be one deeper. -/
def up : (d : Nat) → Tr d → Tr (d + 1)
  | 0, t => Empty.elim t
  | d + 1, t => (Nd.mk (Nd.kind t) (Nd.num t) (Nd.str t) (Nd.keys t) ((Nd.list t).map (up d)) : Nd (Tr (d + 1)))

theorem all_up {d : Nat} {list : List (Tr d)} {deep : Int} (h : ∀ x, formT (d + 1) (up d x) deep = formT d x deep) : (list.map (up d)).all (fun x => formT (d + 1) x deep) = list.all (fun x => formT d x deep) := by
  rw [List.all_map]
  congr 1
  funext x
  exact h x
theorem formT_lift : ∀ (d : Nat) (t : Tr d) (deep : Int), formT (d + 1) (up d t) deep = formT d t deep
  | 0, t, _ => Empty.elim t
  | d + 1, t, deep => by
    obtain ⟨kind, num, str, keys, list⟩ := t
    have ha := all_up (list := list) (fun x => formT_lift d x (deep - 1))
    have hl : (list.map (up d)).length = list.length := List.length_map ..
    show formT (d + 2) (Nd.mk kind num str keys (list.map (up d)) : Nd (Tr (d + 1))) deep = _
    cases hb : headBad kind num str keys.length list.length deep with
    | true => rw [formT_bad hb, formT_bad (by rw [hl]; exact hb)]
    | false => rw [formT_good hb, formT_good (by rw [hl]; exact hb), hl, ha]
theorem manyT_lift : ∀ (d : Nat) (t : Tr d) (deep : Int), manyT (d + 1) (up d t) deep = manyT d t deep
  | 0, t, _ => Empty.elim t
  | d + 1, t, deep => by
    obtain ⟨kind, num, str, keys, list⟩ := t
    show 1 + (if 0 < deep then ((list.map (up d)).map (fun x => manyT (d + 1) x (deep - 1))).sum else 0) = 1 + (if 0 < deep then (list.map (fun x => manyT d x (deep - 1))).sum else 0)
    rw [List.map_map]
    have h := sum_map_eq (f := (fun x => manyT (d + 1) x (deep - 1)) ∘ up d) (g := fun x => manyT d x (deep - 1)) list (fun x _ => manyT_lift d x (deep - 1))
    rw [h]
theorem okT_lift (d : Nat) (t : Tr d) : okT (d + 1) (up d t) = okT d t := by
  unfold okT
  rw [formT_lift, manyT_lift]
theorem up_zero (d : Nat) : up (d + 1) (zeroT d) = zeroT (d + 1) := rfl

theorem RowAt.up {α β : Type} {S : Nat → Prop} {w : World} {At : α → Value → Prop} {At' : β → Value → Prop} {v : Value} {xs : List α} (f : α → β) (h : RowAt S w At v xs) (hi : ∀ x u, At x u → At' (f x) u) : RowAt S w At' v (xs.map f) := by
  obtain ⟨h1, a, cap, hv, h3⟩ := h
  refine ⟨by rw [List.length_map]; exact h1, a, cap, by rw [List.length_map]; exact hv, ?_⟩
  rcases h3 with h3 | ⟨b, o, hB, ha, hc⟩
  · exact Or.inl (by rw [h3]; rfl)
  · refine Or.inr ⟨b, o, hB, ha, fun i x hx => ?_⟩
    rw [List.getElem?_map] at hx
    obtain ⟨y, hy, rfl⟩ := Option.map_eq_some_iff.1 hx
    obtain ⟨c0, c1, c2, c3, c4, e0, e1, e2, e3, e4, e5⟩ := hc i y hy
    exact ⟨c0, c1, c2, c3, c4, e0, e1, e2, e3, e4, hi _ _ e5⟩
theorem ValAt.up {S : Nat → Prop} {w : World} : ∀ (d : Nat) (t : Tr d) (v : Value), ValAt S w d t v → ValAt S w (d + 1) (up d t) v
  | 0, _, _, h => h.elim
  | d + 1, t, v, h => by
    obtain ⟨vk, vl, hv, i1, i2, i3, hk, hl⟩ := h
    exact ⟨vk, vl, hv, i1, i2, i3, hk, hl.up (At' := ValAt S w (d + 1)) _ (fun x u hx => ValAt.up d x u hx)⟩
theorem RowOwn.up {α β : Type} {w : World} {At : (Nat → Prop) → α → Value → Prop} {At' : (Nat → Prop) → β → Value → Prop} {S : Nat → Prop} {v : Value} {xs : List α} (f : α → β) (h : RowOwn w At S v xs) (hi : ∀ P x u, At P x u → At' P (f x) u) : RowOwn w At' S v (xs.map f) := by
  obtain ⟨h1, a, cap, hv, h3⟩ := h
  refine ⟨by rw [List.length_map]; exact h1, a, cap, by rw [List.length_map]; exact hv, ?_⟩
  rcases h3 with h3 | ⟨b, n, g, P, hB, ha, hl, hr, hP, hd, hc⟩
  · exact Or.inl (by rw [h3]; rfl)
  · refine Or.inr ⟨b, n, g, P, hB, ha, by rw [List.length_map]; exact hl, hr, hP, hd, fun i x hx => ?_⟩
    rw [List.getElem?_map] at hx
    obtain ⟨y, hy, rfl⟩ := Option.map_eq_some_iff.1 hx
    exact hi _ _ _ (hc i y hy)
theorem ValOwn.up {w : World} : ∀ (d : Nat) (S : Nat → Prop) (t : Tr d) (v : Value), ValOwn w d S t v → ValOwn w (d + 1) S (up d t) v
  | 0, _, _, _, h => h.elim
  | d + 1, S, t, v, h => by
    obtain ⟨vk, vl, Sk, Sl, hv, i1, i2, i3, hk, hl, s1, s2, s3⟩ := h
    exact ⟨vk, vl, Sk, Sl, hv, i1, i2, i3, hk, hl.up (At' := fun P x u => ValOwn w (d + 1) P x u) _ (fun P x u hx => ValOwn.up d P x u hx), s1, s2, s3⟩
end Go.Proofs.YtmibjmipndffmaaGreatDoor

/- What lies at a key. -/
namespace Go.Proofs.YtmibjmipndffmaaGreatDoor
open Go.RowKit Go.Deep

/-- What lies at a key, of keys and what lies at them. -/
def getL {α : Type} : List ByteArray → List α → ByteArray → Option α
  | k :: ks, x :: xs, s => if (k == s) = true then some x else getL ks xs s
  | _, _, _ => none
def partGetT (d : Nat) (t : Tr (d + 2)) (s : ByteArray) : Tr (d + 1) × Bool :=
  if okT (d + 2) t = true ∧ strOk s = true then (if Nd.kind t = 0 then (zeroT d, true) else if Nd.kind t = 6 then ((getL (Nd.keys t) (Nd.list t) s).getD (zeroT d), true) else (zeroT d, false)) else (zeroT d, false)

theorem getL_at {α : Type} {s : ByteArray} : ∀ {ks : List ByteArray} {xs : List α} {k : Nat} {x : α}, ks[k]? = some s → xs[k]? = some x → (∀ j, j < k → ks[j]? ≠ some s) → getL ks xs s = some x
  | [], _, _, _, h, _, _ => by simp at h
  | _ :: _, [], _, _, _, h, _ => by simp at h
  | a :: ks, y :: xs, 0, x, h, h', _ => by
    simp at h h'
    subst h h'
    rw [getL, if_pos ((MapKept.bytes_beq a a).2 rfl)]
  | a :: ks, y :: xs, k + 1, x, h, h', hn => by
    rw [getL, if_neg (fun e => hn 0 (by omega) (by rw [(MapKept.bytes_beq a s).1 e]; rfl))]
    exact getL_at (by simpa using h) (by simpa using h') (fun j hj => by have := hn (j + 1) (by omega); simpa using this)
theorem getL_miss {α : Type} {s : ByteArray} : ∀ {ks : List ByteArray} {xs : List α}, s ∉ ks → getL ks xs s = none
  | [], _, _ => by rw [getL]; intro _ _ _ _ h; cases h
  | _ :: _, [], _ => by rw [getL]; intro _ _ _ _ _ h; cases h
  | a :: ks, y :: xs, hn => by
    rw [getL, if_neg (fun e => hn (by rw [(MapKept.bytes_beq a s).1 e]; simp))]
    exact getL_miss (fun h => hn (by simp [h]))
theorem getL_mem {α : Type} {s : ByteArray} {x : α} : ∀ {ks : List ByteArray} {xs : List α}, getL ks xs s = some x → x ∈ xs
  | [], _, h => by rw [getL] at h; cases h; intro _ _ _ _ h; cases h
  | _ :: _, [], h => by rw [getL] at h; cases h; intro _ _ _ _ _ h; cases h
  | a :: ks, y :: xs, h => by
    rw [getL] at h
    split at h
    · cases h; simp
    · simp [getL_mem h]
/-- A key that is there. -/
theorem key_at {α : Type} {s : ByteArray} : ∀ {ks : List ByteArray} {xs : List α}, s ∈ ks → ks.length = xs.length → ∃ (k : Nat) (x : α), ks[k]? = some s ∧ xs[k]? = some x ∧ (∀ j, j < k → ks[j]? ≠ some s)
  | [], _, h, _ => by cases h
  | _ :: _, [], _, h => by simp at h
  | a :: ks, y :: xs, h, hl => by
    by_cases e : a = s
    · subst e
      exact ⟨0, y, rfl, rfl, fun j hj => by omega⟩
    · obtain ⟨k, x, h1, h2, h3⟩ := key_at (ks := ks) (xs := xs) (by simpa [Ne.symm e] using h) (by simpa using hl)
      refine ⟨k + 1, x, by simpa using h1, by simpa using h2, fun j hj => ?_⟩
      cases j with
      | zero => intro h; simp at h; exact e h
      | succ j => have := h3 j (by omega); simpa using this
theorem okT_keys {d : Nat} {t : Tr (d + 1)} (h : okT (d + 1) t = true) (h6 : Nd.kind t = 6) : (Nd.keys t).length = (Nd.list t).length := by
  obtain ⟨hf, hm⟩ := okT_form h
  obtain ⟨kind, num, str, keys, list⟩ := t
  have h6 : kind = 6 := h6
  cases hb : headBad kind num str keys.length list.length 6 with
  | true => rw [formT_bad hb] at hf; cases hf
  | false =>
    rw [formT_good hb, if_neg (by omega), if_neg (by omega), if_neg (by omega), if_pos h6] at hf
    simp only [Bool.and_eq_true] at hf
    exact by simpa using hf.1.1
theorem okT_partGet (d : Nat) (t : Tr (d + 2)) (s : ByteArray) : okT (d + 1) (partGetT d t s).1 = true := by
  unfold partGetT
  split
  · rename_i h
    split
    · exact okT_zero d
    split
    · cases hp : getL (Nd.keys t) (Nd.list t) s with
      | none => exact okT_zero d
      | some x => exact okT_part h.1 (getL_mem hp)
    · exact okT_zero d
  · exact okT_zero d
end Go.Proofs.YtmibjmipndffmaaGreatDoor

/- Steps of a way, and how they lie in memory: szStepS, toStepS, eqStepS. -/
namespace Go.Proofs.YtmibjmipndffmaaGreatDoor
open Go.RowKit Go.Deep

/-- A step: to a key, or to a place. -/
structure Stp where
  map : Bool
  key : ByteArray
  place : Int

/-- A step that a Go value can be. -/
def StpFit (p : Stp) : Prop := p.key.size < 281474976710656 ∧ I64 p.place

/-- A slice of steps, three cells each, that lies in blocks of S. -/
def StepsAt (S : Nat → Prop) (w : World) (v : Value) (ps : List Stp) : Prop :=
  ps.length < 8796093022208 ∧ (∀ p ∈ ps, StpFit p) ∧
  ∃ a cap, v = .slice a ps.length cap ∧
    (ps = [] ∨ ∃ b o, S b ∧ a = some ⟨b, o, none⟩ ∧ ∀ i p, ps[i]? = some p →
      w.cell? ⟨b, o + i * 3, none⟩ = some (.bool p.map) ∧ w.cell? ⟨b, o + i * 3 + 1, none⟩ = some (.string p.key) ∧ w.cell? ⟨b, o + i * 3 + 2, none⟩ = some (.int .i64 p.place))
/-- A slice of steps in a block of S that may be written. -/
def StepsOwn (S : Nat → Prop) (w : World) (v : Value) (ps : List Stp) : Prop :=
  ps.length < 8796093022208 ∧ (∀ p ∈ ps, StpFit p) ∧
  ∃ a cap, v = .slice a ps.length cap ∧
    (ps = [] ∨ ∃ b n f, S b ∧ a = some ⟨b, 0, none⟩ ∧ ps.length * 3 ≤ n ∧ w.rowIs b 40 n f ∧ ∀ i p, ps[i]? = some p → f (i * 3) = .bool p.map ∧ f (i * 3 + 1) = .string p.key ∧ f (i * 3 + 2) = .int .i64 p.place)

theorem StepsAt.moved {S S' : Nat → Prop} {w w' : World} {v : Value} {ps : List Stp} (h : StepsAt S w v ps) (hs : Same S w w') (hS : ∀ b, S b → S' b) : StepsAt S' w' v ps := by
  obtain ⟨h1, h2, a, cap, hv, h3⟩ := h
  refine ⟨h1, h2, a, cap, hv, ?_⟩
  rcases h3 with h3 | ⟨b, o, hB, ha, hc⟩
  · exact Or.inl h3
  · exact Or.inr ⟨b, o, hS _ hB, ha, fun i p hi => by rw [hs.cell hB, hs.cell hB, hs.cell hB]; exact hc i p hi⟩
theorem StepsAt.same {S : Nat → Prop} {w w' : World} {v : Value} {ps : List Stp} (h : StepsAt S w v ps) (hs : Same S w w') : StepsAt S w' v ps := h.moved hs (fun _ h => h)
theorem StepsAt.mono {S S' : Nat → Prop} {w : World} {v : Value} {ps : List Stp} (h : StepsAt S w v ps) (hS : ∀ b, S b → S' b) : StepsAt S' w v ps := h.moved (Same.refl _ _) hS
theorem StepsAt.open' {S : Nat → Prop} {w : World} {v : Value} {ps : List Stp} (h : StepsAt S w v ps) : ∃ a cap, v = .slice a ps.length cap ∧ ps.length < 8796093022208 := by
  obtain ⟨h1, _, a, cap, hv, _⟩ := h
  exact ⟨a, cap, hv, h1⟩
theorem StepsAt.cell {S : Nat → Prop} {w : World} {a : Option Addr} {n cap k : Nat} {ps : List Stp} (h : StepsAt S w (.slice a n cap) ps) (hk : k < ps.length) :
    ∃ b o p, a = some ⟨b, o, none⟩ ∧ S b ∧ ps[k]? = some p ∧ StpFit p ∧
      w.cell? ⟨b, o + k * 3, none⟩ = some (.bool p.map) ∧ w.cell? ⟨b, o + k * 3 + 1, none⟩ = some (.string p.key) ∧ w.cell? ⟨b, o + k * 3 + 2, none⟩ = some (.int .i64 p.place) := by
  obtain ⟨h1, h2, a', cap', hv, h3⟩ := h
  cases hv
  rcases h3 with rfl | ⟨b, o, hB, ha, hc⟩
  · simp at hk
  · obtain ⟨e0, e1, e2⟩ := hc k _ (List.getElem?_eq_getElem hk)
    exact ⟨b, o, ps[k], ha, hB, List.getElem?_eq_getElem hk, h2 _ (List.getElem_mem hk), e0, e1, e2⟩
theorem StepsOwn.at {S : Nat → Prop} {w : World} {v : Value} {ps : List Stp} (h : StepsOwn S w v ps) : StepsAt S w v ps := by
  obtain ⟨h1, h2, a, cap, hv, h3⟩ := h
  refine ⟨h1, h2, a, cap, hv, ?_⟩
  rcases h3 with h3 | ⟨b, n, f, hB, ha, hl, hr, hc⟩
  · exact Or.inl h3
  · refine Or.inr ⟨b, 0, hB, ha, fun i p hi => ?_⟩
    have := (List.getElem?_eq_some_iff.1 hi).1
    obtain ⟨e0, e1, e2⟩ := hc i p hi
    rw [Nat.zero_add, hr.cell (by omega), hr.cell (by omega), hr.cell (by omega), e0, e1, e2]
    exact ⟨rfl, rfl, rfl⟩
theorem StepsOwn.moved {S S' : Nat → Prop} {w w' : World} {v : Value} {ps : List Stp} (h : StepsOwn S w v ps) (hs : Same S w w') (hS : ∀ b, S b → S' b) : StepsOwn S' w' v ps := by
  obtain ⟨h1, h2, a, cap, hv, h3⟩ := h
  refine ⟨h1, h2, a, cap, hv, ?_⟩
  rcases h3 with h3 | ⟨b, n, f, hB, ha, hl, hr, hc⟩
  · exact Or.inl h3
  · exact Or.inr ⟨b, n, f, hS b hB, ha, hl, hr.of_block (hs b hB), hc⟩
theorem StepsOwn.same {S : Nat → Prop} {w w' : World} {v : Value} {ps : List Stp} (h : StepsOwn S w v ps) (hs : Same S w w') : StepsOwn S w' v ps := h.moved hs (fun _ h => h)

/-- How much a step takes. -/
def szStp (p : Stp) (left : Int) : Int := if left - p.key.size < 0 then -1 else left - p.key.size
theorem szStp_le (p : Stp) (left : Int) (h : 0 ≤ left) : szStp p left ≤ left := by
  unfold szStp
  split <;> omega
theorem szSteps_len {ps : List Stp} {left : Int} (h : ¬ szL szStp ps left < 0) : (ps.length : Int) ≤ left := by
  unfold szL at h
  split at h
  · omega
  · omega

set_option maxHeartbeats 400000 in
theorem szStep_any (p : Stp) (left : Int) (w : World) (hp : StpFit p) (h0 : 0 ≤ left) (h1 : left ≤ 1048576) :
    Calls Tryz.prog 73 #[.agg #[.bool p.map, .string p.key, .int .i64 p.place], .int .i64 left] w fun e w' => e = .returned (.int .i64 (szStp p left)) ∧ Below w.heap.size w w' := by
  have hsz := hp.1
  by_cases hlt : left - p.key.size < 0
  · have hfin : Hid (szStp p left = -1) := if_pos hlt
    go_enter Tryz.func73, Tryz.ntmps73
    go_wp2_with fail
    go_ret
    rw [hfin.out]
    exact ⟨rfl, below_alloc1 _ _⟩
  · have hfin : Hid (szStp p left = left - p.key.size) := if_neg hlt
    go_enter Tryz.func73, Tryz.ntmps73
    go_wp2_with fail
    go_ret
    rw [hfin.out]
    exact ⟨rfl, below_alloc1 _ _⟩

set_option maxHeartbeats 400000 in
theorem szStepS_any (S : Nat → Prop) (ps : List Stp) (v : Value) (left : Int) (w : World) (hv : StepsAt S w v ps) (hS : Within S w) (h0 : 0 ≤ left) (h1 : left ≤ 1048576) :
    Calls Tryz.prog 32 #[v, .int .i64 left] w fun e w' => e = .returned (.int .i64 (szL szStp ps left)) ∧ Below w.heap.size w w' := by
  obtain ⟨a, cap, rfl, hlen⟩ := hv.open'
  by_cases hlt : left - ps.length < 0
  · have hfin : Hid (szL szStp ps left = -1) := if_pos hlt
    go_enter Tryz.func32, Tryz.ntmps32
    go_wp2_with fail
    go_ret
    rw [hfin.out]
    exact ⟨rfl, Below.refl _ _⟩
  · have hfin : Hid (szL szStp ps left = szLGo szStp ps (left - ps.length)) := if_neg hlt
    go_enter Tryz.func32, Tryz.ntmps32
    go_wp2_with fail
    go_loopw [1, 5] (fun l i wr => ∃ (k : Nat) (m : Int), k ≤ ps.length ∧ i = .int .i64 k ∧ l = .int .i64 m ∧ 0 ≤ m ∧ m ≤ 1048576 ∧ Hid (szL szStp ps left = szLGo szStp (ps.drop k) m) ∧ Below w.heap.size w wr) (fun _ i _ => ps.length - (intOf i).toNat)
    case atStart => exact ⟨0, _, Nat.zero_le _, rfl, rfl, by omega, by omega, hfin, Below.refl _ _⟩
    case round =>
      clear hfin
      obtain ⟨k, m, hk, rfl, rfl, hm0, hm1, hfin, hbel⟩ := hrel
      by_cases hkl : k < ps.length
      · have hv' := hv.same (hS.same hbel)
        obtain ⟨b, o, p, rfl, _, hx, hp, e0, e1, e2⟩ := hv'.cell hkl
        have hst : Hid (_ = _) := szLGo_step szStp hx m
        have hle := szStp_le p m hm0
        clear hv hv' hx
        go_wp2_with fail
        refine (szStep_any p m wr hp hm0 hm1).mono ?_
        rintro e w1 ⟨rfl, hb1⟩
        have hb2 : Below w.heap.size w w1 := below_trans hbel hb1
        clear hb1 hbel e0 e1 e2
        by_cases hneg : szStp p m < 0
        · go_wp2_with fail
          go_ret
          rw [hfin.out, hst.out, if_pos hneg]
          exact ⟨rfl, hb2⟩
        · go_wp2_with fail
          go_roundw
          case rel => exact ⟨k + 1, szStp p m, by omega, by go_num, rfl, by omega, by omega, by rw [hfin.out, hst.out, if_neg (by omega)]; exact rfl, hb2⟩
          case measure => simp [intOf]; omega
      · go_wp2_with fail
        go_ret
        rw [hfin.out, List.drop_eq_nil_of_le (by omega)]
        exact ⟨rfl, hbel⟩

set_option maxHeartbeats 400000 in
theorem toStep_any (p : Stp) (w : World) : Calls Tryz.prog 76 #[.agg #[.bool p.map, .string p.key, .int .i64 p.place]] w fun e w' => e = .returned (.agg #[.bool p.map, .string p.key, .int .i64 p.place]) ∧ Below w.heap.size w w' := by
  go_enter Tryz.func76, Tryz.ntmps76
  go_wp2_with fail
  refine bodyPost_ret (v := .agg #[.bool p.map, .string p.key, .int .i64 p.place]) (by simp [results, Tryz.results76, go_sem]) rfl ⟨rfl, below_trans (below_trans (below_alloc1 _ _) (below_alloc1 _ _)) (below_alloc1 _ _)⟩

/-- Three cells in a row written. -/
def put3 (f : Nat → Value) (i : Nat) (v0 v1 v2 : Value) (j : Nat) : Value := if j = i then v0 else if j = i + 1 then v1 else if j = i + 2 then v2 else f j
def set3 (w : World) (b i : Nat) (v0 v1 v2 : Value) : World := ((w.setCell ⟨b, i, none⟩ v0).setCell ⟨b, i + 1, none⟩ v1).setCell ⟨b, i + 2, none⟩ v2
theorem rowIs_set3 {w : World} {b : Nat} {t : TypeId} {n : Nat} {f : Nat → Value} (h : w.rowIs b t n f) (i : Nat) (v0 v1 v2 : Value) : (set3 w b i v0 v1 v2).rowIs b t n (put3 f i v0 v1 v2) := by
  refine (((h.set i v0).set (i + 1) v1).set (i + 2) v2).congr (fun j _ => ?_)
  unfold put3
  by_cases e0 : j = i
  · simp [e0]
  by_cases e1 : j = i + 1
  · simp [e1]
  simp [e0, e1]
theorem below_set3 {B : Nat} {a w : World} (h : Below B a w) {b : Nat} (hb : B ≤ b) (i : Nat) (v0 v1 v2 : Value) : Below B a (set3 w b i v0 v1 v2) :=
  ((h.setCell (p := ⟨b, i, none⟩) hb v0).setCell (p := ⟨b, i + 1, none⟩) hb v1).setCell (p := ⟨b, i + 2, none⟩) hb v2
theorem put3_at (f : Nat → Value) (i : Nat) (v0 v1 v2 : Value) : put3 f i v0 v1 v2 i = v0 ∧ put3 f i v0 v1 v2 (i + 1) = v1 ∧ put3 f i v0 v1 v2 (i + 2) = v2 := by simp [put3]
theorem put3_off (f : Nat → Value) (i : Nat) (v0 v1 v2 : Value) (j : Nat) (h : j < i ∨ i + 2 < j) : put3 f i v0 v1 v2 j = f j := by
  unfold put3
  rw [if_neg (by omega), if_neg (by omega), if_neg (by omega)]

def zeroStp : Value := .agg #[.bool false, .string ByteArray.empty, .int .i64 0]
def zero3 : Array Value := #[.bool false, .string ByteArray.empty, .int .i64 0]
theorem Tryz.infoStep : (Tryz.prog.info? 40).map (fun i => (i.zero, i.size, i.bytes)) = some (some zeroStp, 3, 32) := by kernel_rfl
theorem run_make3 (n : Nat) (hn : n < 8796093022208) (w : World) :
    (Instr.makeSlice 27 (.int .i64 (n : Int)) (.int .i64 (n : Int))).run Tryz.prog w =
      .ok (.slice (some ⟨w.heap.size, 0, none⟩) n n) (w.alloc (.cells (madeCells zero3 (n * 3)) 40)) := by
  obtain ⟨i, hi, hzz⟩ := Option.map_eq_some_iff.1 Tryz.infoStep
  simp only [Prod.mk.injEq] at hzz
  obtain ⟨hz, hs, hb⟩ := hzz
  have hr := run_make (P := Tryz.prog) w 27 40 i zeroStp Tryz.underlying27 hi hz .i64 .i64 n n (by omega) (Int.le_refl _) (by rw [hb]; omega) (by omega)
  rw [show zeroStp.cells = zero3 from rfl] at hr
  simpa [hs] using hr

/-- The first k steps of a row that is being filled. -/
def StpFilled (ps : List Stp) (k : Nat) (f : Nat → Value) : Prop := ∀ j p, j < k → ps[j]? = some p → f (j * 3) = .bool p.map ∧ f (j * 3 + 1) = .string p.key ∧ f (j * 3 + 2) = .int .i64 p.place
theorem StpFilled.step {ps : List Stp} {k : Nat} {f : Nat → Value} {p : Stp} (h : StpFilled ps k f) (hp : ps[k]? = some p) : StpFilled ps (k + 1) (put3 f (k * 3) (.bool p.map) (.string p.key) (.int .i64 p.place)) := by
  intro j q hj hq
  by_cases e : j = k
  · subst e
    rw [hp] at hq
    cases hq
    exact put3_at _ _ _ _ _
  · rw [put3_off _ _ _ _ _ _ (by omega), put3_off _ _ _ _ _ _ (by omega), put3_off _ _ _ _ _ _ (by omega)]
    exact h j q (by omega) hq

set_option maxRecDepth 100000 in
set_option maxHeartbeats 1000000 in
theorem toStepS_own (S : Nat → Prop) (ps : List Stp) (v : Value) (w : World) (hv : StepsAt S w v ps) (hS : Within S w) :
    Calls Tryz.prog 34 #[v] w fun e w' => ∃ u, e = .returned u ∧ StepsOwn (Fresh w w') w' u ps ∧ Below w.heap.size w w' := by
  obtain ⟨a, cap, rfl, hlen⟩ := hv.open'
  have hmk := run_make3 ps.length hlen
  have hb0 : Below w.heap.size w (w.alloc (.cells (madeCells zero3 (ps.length * 3)) 40)) := below_alloc1 _ _
  have hr0 : (w.alloc (.cells (madeCells zero3 (ps.length * 3)) 40)).rowIs w.heap.size 40 (ps.length * 3) (fun j => (madeCells zero3 (ps.length * 3)).getD j undef) := by
    have := World.rowIs_alloc w (madeCells zero3 (ps.length * 3)) 40 (fun j => (madeCells zero3 (ps.length * 3)).getD j undef) (fun i hi => by simp [hi])
    rwa [size_madeCells] at this
  have HB : Hid _ := And.intro hb0 hr0
  clear hb0 hr0
  go_enter Tryz.func34, Tryz.ntmps34
  go_wp2_with fail
  go_loopw [4] (fun i wr => ∃ (k : Nat) (f : Nat → Value), k ≤ ps.length ∧ i = .int .i64 k ∧ wr.rowIs w.heap.size 40 (ps.length * 3) f ∧ Hid (StpFilled ps k f) ∧ Below w.heap.size w wr) (fun i _ => ps.length - (intOf i).toNat)
  case atStart => exact ⟨0, _, Nat.zero_le _, rfl, HB.out.2, fun j p hj => by omega, HB.out.1⟩
  case round =>
    clear HB hmk
    obtain ⟨k, f, hk, rfl, hrow, hfil, hbel⟩ := hrel
    by_cases hkl : k < ps.length
    · obtain ⟨b, o, p, rfl, hb, hx, hp, e0, e1, e2⟩ := (hv.same (hS.same hbel)).cell hkl
      go_wp2_with fail
      refine (toStep_any p wr).mono ?_
      rintro e w1 ⟨rfl, hb1⟩
      have hr1 := hrow.of_block (hb1.block w.heap.size hrow.lt)
      have hrow' := rowIs_set3 hr1 (k * 3) (.bool p.map) (.string p.key) (.int .i64 p.place)
      have hbel' := below_set3 (hbel.trans (hb1.mono hbel.size)) (Nat.le_refl w.heap.size) (k * 3) (.bool p.map) (.string p.key) (.int .i64 p.place)
      have HR : Hid _ := And.intro hrow' hbel'
      have HF := hide (hfil.out.step hx)
      have g0 := hr1.cell (i := k * 3) (by omega)
      have g1 := hr1.cell (i := k * 3 + 1) (by omega)
      have g2 := hr1.cell (i := k * 3 + 2) (by omega)
      have z0 := hr1.frozen (k * 3)
      have z1 := hr1.frozen (k * 3 + 1)
      have z2 := hr1.frozen (k * 3 + 2)
      clear hrow' hbel' hr1 hrow hbel hb1 e0 e1 e2 hv hx hfil hp
      go_wp2_with fail
      go_roundw
      case rel => exact ⟨k + 1, _, by omega, by go_num, HR.out.1, HF, HR.out.2⟩
      case measure => simp [intOf]; omega
    · go_wp2_with fail
      go_ret
      obtain rfl : k = ps.length := by omega
      refine ⟨_, rfl, ⟨hlen, hv.2.1, _, _, rfl, ?_⟩, hbel⟩
      exact Or.inr ⟨w.heap.size, _, f, ⟨Nat.le_refl _, hrow.lt⟩, rfl, Nat.le_refl _, hrow, fun i p hi => hfil.out i p (List.getElem?_eq_some_iff.1 hi).1 hi⟩

/-- Two steps are one. -/
def eqStp (p q : Stp) : Bool := (p.map == q.map) && (p.key.toList == q.key.toList) && (p.place == q.place)
theorem eqStp_refl (p : Stp) : eqStp p p = true := by simp [eqStp]
theorem eqSteps_refl : ∀ ps : List Stp, eqL eqStp ps ps = true
  | [] => rfl
  | p :: r => by rw [eqL, eqStp_refl, eqSteps_refl r]; rfl

set_option maxRecDepth 100000 in
set_option maxHeartbeats 400000 in
theorem eqStep_same (p : Stp) (w : World) : Calls Tryz.prog 79 #[.agg #[.bool p.map, .string p.key, .int .i64 p.place], .agg #[.bool p.map, .string p.key, .int .i64 p.place]] w fun e w' => e = .returned (.bool true) ∧ Below w.heap.size w w' := by
  have h0 : (p.map != p.map) = false := by simp
  have h1 : (p.key.toList == p.key.toList) = true := by simp
  have h1' : (p.key.toList != p.key.toList) = false := by simp
  have h2 : (p.place != p.place) = false := by simp
  go_enter Tryz.func79, Tryz.ntmps79
  go_wp2_with fail
  go_ret
  exact ⟨rfl, below_trans (below_alloc1 _ _) (below_alloc1 _ _)⟩

set_option maxRecDepth 100000 in
set_option maxHeartbeats 400000 in
theorem eqStepS_same (S S' : Nat → Prop) (ps : List Stp) (v v' : Value) (w : World) (hv : StepsAt S w v ps) (hv' : StepsAt S' w v' ps) (hS : Within S w) (hS' : Within S' w) :
    Calls Tryz.prog 36 #[v, v'] w fun e w' => e = .returned (.bool true) ∧ Below w.heap.size w w' := by
  obtain ⟨a, cap, rfl, hlen⟩ := hv.open'
  obtain ⟨a', cap', rfl, hlen'⟩ := hv'.open'
  have hq : ((ps.length : Int) != (ps.length : Int)) = false := by simp
  go_enter Tryz.func36, Tryz.ntmps36
  go_wp2_with fail
  go_loopw [5] (fun i wr => ∃ (k : Nat), k ≤ ps.length ∧ i = .int .i64 k ∧ Below w.heap.size w wr) (fun i _ => ps.length - (intOf i).toNat)
  case atStart => exact ⟨0, Nat.zero_le _, rfl, Below.refl _ _⟩
  case round =>
    obtain ⟨k, hk, rfl, hbel⟩ := hrel
    by_cases hkl : k < ps.length
    · obtain ⟨b, o, p, rfl, hb, hx, hp, e0, e1, e2⟩ := (hv.same (hS.same hbel)).cell hkl
      obtain ⟨b', o', p', rfl, hb', hx', hp', e0', e1', e2'⟩ := (hv'.same (hS'.same hbel)).cell hkl
      rw [hx] at hx'
      cases hx'
      clear hv hv' hx hS hS'
      have hki : (k : Int) < (ps.length : Int) := by omega
      go_wp2_with fail
      go_region_with (go_at_call 79; refine (eqStep_same p _).mono ?_; rintro e w1 ⟨rfl, hb1⟩)
      all_goals
        have hb2 : Below w.heap.size w w1 := below_trans hbel (show Below wr.heap.size wr w1 from ⟨hb1.os, hb1.tape, hb1.output, hb1.size, hb1.block⟩)
        clear hb1 hbel e0 e1 e2 e0' e1' e2'
        go_wp2_with fail
        go_roundw
        case rel => exact ⟨k + 1, by omega, by go_num, hb2⟩
        case measure => simp [intOf]; omega
    · go_wp2_with fail
      go_ret
      exact ⟨rfl, hbel⟩
end Go.Proofs.YtmibjmipndffmaaGreatDoor

/- l3Step, PathOk of the model; stepOk, placeOk, PathOk of the program. -/
namespace Go.Proofs.YtmibjmipndffmaaGreatDoor
open Go.RowKit Go.Deep

/-- A step may be on a way. -/
def stpOk (p : Stp) : Bool := if p.map = true then strOk p.key && (p.place == 0) else (p.key.toList == []) && (decide (-60 ≤ p.place) && decide (p.place < 60))
/-- Steps are a way. -/
def pathOk (ps : List Stp) : Bool := ps.all stpOk && decide (ps.length ≤ 6)
theorem stpOk_map {p : Stp} (h : p.map = true) : stpOk p = (strOk p.key && (p.place == 0)) := if_pos h
theorem stpOk_place {p : Stp} (h : p.map = false) : stpOk p = ((p.key.toList == []) && (decide (-60 ≤ p.place) && decide (p.place < 60))) := if_neg (by rw [h]; simp)

set_option maxRecDepth 100000 in
set_option maxHeartbeats 400000 in
theorem l3Step_any (p : Stp) (w : World) (hp : StpFit p) :
    Calls Tryz.prog 94 #[.agg #[.bool p.map, .string p.key, .int .i64 p.place]] w fun e w' => e = .returned (.bool (stpOk p)) ∧ Below w.heap.size w w' := by
  obtain ⟨hsz, _⟩ := hp
  have hA := below_alloc1 w (.cells #[.bool p.map, .string p.key, .int .i64 p.place] 40)
  cases hm : p.map with
  | true =>
    have hf := hide (stpOk_map hm)
    rw [hm] at hA
    go_enter Tryz.func94, Tryz.ntmps94
    go_wp2_with fail
    refine (l1Str_any p.key _ hsz).mono ?_
    rintro e w1 ⟨rfl, rfl⟩
    cases hs : strOk p.key with
    | false =>
      go_wp2_with fail
      go_ret
      rw [hf.out, hs]
      exact ⟨rfl, hA⟩
    | true =>
      go_wp2_with fail
      go_ret
      rw [hf.out, hs]
      exact ⟨rfl, hA⟩
  | false =>
    have hf := hide (stpOk_place hm)
    rw [hm] at hA
    cases h1 : (p.key.toList == []) with
    | false =>
      go_enter Tryz.func94, Tryz.ntmps94
      go_wp2_with fail
      go_ret
      rw [hf.out, h1]
      exact ⟨rfl, hA⟩
    | true =>
      by_cases h2 : -60 ≤ p.place
      · by_cases h3 : p.place < 60
        · go_enter Tryz.func94, Tryz.ntmps94
          go_wp2_with fail
          go_ret
          rw [hf.out, h1, decide_eq_true h2, decide_eq_true h3]
          exact ⟨rfl, hA⟩
        · go_enter Tryz.func94, Tryz.ntmps94
          go_wp2_with fail
          go_ret
          rw [hf.out, h1, decide_eq_true h2, decide_eq_false (by omega)]
          exact ⟨rfl, hA⟩
      · go_enter Tryz.func94, Tryz.ntmps94
        go_wp2_with fail
        go_ret
        rw [hf.out, h1, decide_eq_false (by omega)]
        exact ⟨rfl, hA⟩

theorem allStp_drop {ps : List Stp} {k : Nat} {p : Stp} (h : ps[k]? = some p) : (ps.drop k).all stpOk = (stpOk p && (ps.drop (k + 1)).all stpOk) := by
  obtain ⟨hk, e⟩ := List.getElem?_eq_some_iff.1 h
  rw [List.drop_eq_getElem_cons hk, e, List.all_cons]

set_option maxRecDepth 100000 in
set_option maxHeartbeats 1000000 in
theorem specPathOk_any (S : Nat → Prop) (ps : List Stp) (v : Value) (w : World) (hv : StepsAt S w v ps) (hS : Within S w) :
    Calls Tryz.prog 47 #[v] w fun e w' => e = .returned (.bool (pathOk ps)) ∧ Below w.heap.size w w' := by
  obtain ⟨a, cap, rfl, hlen⟩ := hv.open'
  go_enter Tryz.func47, Tryz.ntmps47
  go_wp2_with fail
  go_loopw [3] (fun i wr => ∃ (k : Nat), k ≤ ps.length ∧ i = .int .i64 k ∧ Below w.heap.size w wr ∧ Hid (ps.all stpOk = (ps.drop k).all stpOk)) (fun i _ => ps.length - (intOf i).toNat)
  case atStart => exact ⟨0, Nat.zero_le _, rfl, Below.refl _ _, rfl⟩
  case round =>
    obtain ⟨k, hk, rfl, hbel, hfin⟩ := hrel
    by_cases hkl : k < ps.length
    · obtain ⟨b, o, p, rfl, hb, hx, hp, e0, e1, e2⟩ := (hv.same (hS.same hbel)).cell hkl
      have hst : Hid (_ = _) := allStp_drop hx
      clear hv hx
      go_wp2_with fail
      refine (l3Step_any p wr hp).mono ?_
      rintro e w1 ⟨rfl, hb1⟩
      have hb2 := hide (below_trans hbel hb1)
      clear hbel hb1 e0 e1 e2
      cases hf : stpOk p with
      | false =>
        have hq : Hid (pathOk ps = false) := by
          show pathOk ps = false
          rw [pathOk, hfin.out, hst.out, hf]
          rfl
        clear hfin hst
        go_wp2_with fail
        go_ret
        rw [hq.out]
        exact ⟨rfl, hb2.out⟩
      | true =>
        have hq : Hid (ps.all stpOk = (ps.drop (k + 1)).all stpOk) := by
          show ps.all stpOk = _
          rw [hfin.out, hst.out, hf]
          rfl
        clear hfin hst
        go_wp2_with fail
        go_roundw
        case rel => exact ⟨k + 1, by omega, by go_num, hb2.out, hq⟩
        case measure => simp [intOf]; omega
    · obtain rfl : k = ps.length := by omega
      have hq : Hid (pathOk ps = decide ((ps.length : Int) ≤ 6)) := by
        show pathOk ps = _
        rw [pathOk, hfin.out, List.drop_eq_nil_of_le (Nat.le_refl _)]
        simp
        omega
      go_wp2_with fail
      go_ret
      rw [hq.out]
      exact ⟨rfl, hbel⟩

set_option maxRecDepth 100000 in
set_option maxHeartbeats 400000 in
theorem placeOk_any (n : Int) (w : World) : Calls Tryz.prog 140 #[.int .i64 n] w fun e w' => e = .returned (.bool (decide (-60 ≤ n) && decide (n < 60))) ∧ w' = w := by
  generalize hr : (decide (-60 ≤ n) && decide (n < 60)) = r
  by_cases h2 : -60 ≤ n
  · by_cases h3 : n < 60
    · have HB : Hid (r = true) := by show r = _; rw [← hr]; simp [h2, h3]
      clear hr
      go_enter Tryz.func140, Tryz.ntmps140
      go_wp2_with fail
      go_ret
      rw [HB.out]
      exact ⟨rfl, rfl⟩
    · have HB : Hid (r = false) := by show r = _; rw [← hr]; simp [h2, h3]
      clear hr
      go_enter Tryz.func140, Tryz.ntmps140
      go_wp2_with fail
      go_ret
      rw [HB.out]
      exact ⟨rfl, rfl⟩
  · have HB : Hid (r = false) := by show r = _; rw [← hr]; simp [h2]
    clear hr
    go_enter Tryz.func140, Tryz.ntmps140
    go_wp2_with fail
    go_ret
    rw [HB.out]
    exact ⟨rfl, rfl⟩

set_option maxRecDepth 100000 in
set_option maxHeartbeats 400000 in
theorem stepOk_any (p : Stp) (w : World) (hp : StpFit p) :
    Calls Tryz.prog 115 #[.agg #[.bool p.map, .string p.key, .int .i64 p.place]] w fun e w' => e = .returned (.bool (stpOk p)) ∧ Below w.heap.size w w' := by
  obtain ⟨hsz, _⟩ := hp
  have hA := below_alloc1 w (.cells #[.bool p.map, .string p.key, .int .i64 p.place] 40)
  cases hm : p.map with
  | true =>
    have hf := hide (stpOk_map hm)
    rw [hm] at hA
    have hc0 : ∀ w', Below (w.alloc (.cells #[.bool true, .string p.key, .int .i64 p.place] 40)).heap.size (w.alloc (.cells #[.bool true, .string p.key, .int .i64 p.place] 40)) w' → w'.cell? ⟨w.heap.size, 2, none⟩ = some (.int .i64 p.place) := fun w' hb => by
      rw [hb.cell (p := ⟨w.heap.size, 2, none⟩) (by simp)]
      simp
    go_enter Tryz.func115, Tryz.ntmps115
    go_wp2_with fail
    refine (textOk_any p.key _ hsz).mono ?_
    rintro e w1 ⟨rfl, hb1⟩
    have hc1 := hc0 w1 hb1
    have hB := below_trans hA hb1
    clear hb1 hA hc0
    cases hs : strOk p.key with
    | false =>
      go_wp2_with fail
      go_ret
      rw [hf.out, hs]
      exact ⟨rfl, hB⟩
    | true =>
      go_wp2_with fail
      go_ret
      rw [hf.out, hs]
      exact ⟨rfl, hB⟩
  | false =>
    have hf := hide (stpOk_place hm)
    rw [hm] at hA
    cases h1 : (p.key.toList == []) with
    | false =>
      go_enter Tryz.func115, Tryz.ntmps115
      go_wp2_with fail
      go_ret
      rw [hf.out, h1]
      exact ⟨rfl, hA⟩
    | true =>
      go_enter Tryz.func115, Tryz.ntmps115
      go_wp2_with fail
      refine (placeOk_any p.place _).mono ?_
      rintro e w1 ⟨rfl, rfl⟩
      go_wp2_with fail
      go_ret
      rw [hf.out, h1]
      exact ⟨rfl, hA⟩

set_option maxRecDepth 100000 in
set_option maxHeartbeats 1000000 in
theorem implPathOk_any (S : Nat → Prop) (ps : List Stp) (v : Value) (w : World) (hv : StepsAt S w v ps) (hS : Within S w) :
    Calls Tryz.prog 89 #[v] w fun e w' => e = .returned (.bool (pathOk ps)) ∧ Below w.heap.size w w' := by
  obtain ⟨a, cap, rfl, hlen⟩ := hv.open'
  by_cases h6 : 6 < ps.length
  · have hq : Hid (pathOk ps = false) := by
      show pathOk ps = false
      rw [pathOk, decide_eq_false (by omega), Bool.and_false]
    go_enter Tryz.func89, Tryz.ntmps89
    go_wp2_with fail
    go_ret
    rw [hq.out]
    exact ⟨rfl, Below.refl _ _⟩
  have h6' : (ps.length : Int) ≤ 6 := by omega
  have HP : Hid (pathOk ps = ps.all stpOk) := by
    show pathOk ps = _
    rw [pathOk, decide_eq_true (by omega), Bool.and_true]
  go_enter Tryz.func89, Tryz.ntmps89
  go_wp2_with fail
  go_loopw [10] (fun i wr => ∃ (k : Nat), k ≤ ps.length ∧ i = .int .i64 k ∧ Below w.heap.size w wr ∧ Hid (ps.all stpOk = (ps.drop k).all stpOk)) (fun i _ => ps.length - (intOf i).toNat)
  case atStart => exact ⟨0, Nat.zero_le _, rfl, Below.refl _ _, rfl⟩
  case round =>
    obtain ⟨k, hk, rfl, hbel, hfin⟩ := hrel
    by_cases hkl : k < ps.length
    · obtain ⟨b, o, p, rfl, hb, hx, hp, e0, e1, e2⟩ := (hv.same (hS.same hbel)).cell hkl
      have hst : Hid (_ = _) := allStp_drop hx
      clear hv hx
      have hA := below_alloc1 wr (.cells #[.bool p.map, .string p.key, .int .i64 p.place] 40)
      go_wp2_with fail
      refine (stepOk_any p _ hp).mono ?_
      rintro e w1 ⟨rfl, hb1⟩
      have hb2 := hide (below_trans hbel (below_trans hA hb1))
      clear hbel hb1 e0 e1 e2 hA
      cases hf : stpOk p with
      | false =>
        have hq : Hid (pathOk ps = false) := by
          show pathOk ps = false
          rw [HP.out, hfin.out, hst.out, hf]
          rfl
        clear hfin hst
        go_wp2_with fail
        go_ret
        rw [hq.out]
        exact ⟨rfl, hb2.out⟩
      | true =>
        have hq : Hid (ps.all stpOk = (ps.drop (k + 1)).all stpOk) := by
          show ps.all stpOk = _
          rw [hfin.out, hst.out, hf]
          rfl
        clear hfin hst
        go_wp2_with fail
        go_roundw
        case rel => exact ⟨k + 1, by omega, by go_num, hb2.out, hq⟩
        case measure => simp [intOf]; omega
    · obtain rfl : k = ps.length := by omega
      have hq : Hid (pathOk ps = true) := by
        show pathOk ps = _
        rw [HP.out, hfin.out, List.drop_eq_nil_of_le (Nat.le_refl _)]
        rfl
      go_wp2_with fail
      go_ret
      rw [hq.out]
      exact ⟨rfl, hbel⟩
end Go.Proofs.YtmibjmipndffmaaGreatDoor

/- What lies at the end of a way. -/
namespace Go.Proofs.YtmibjmipndffmaaGreatDoor
open Go.RowKit Go.Deep

/-- One step into a tree. -/
def stepT (d : Nat) (t : Tr (d + 2)) (p : Stp) : Tr (d + 2) × Bool :=
  if p.map = true then (up (d + 1) (partGetT d t p.key).1, (partGetT d t p.key).2) else (up (d + 1) (partAtT d t p.place).1, (partAtT d t p.place).2)
theorem stepT_map {d : Nat} {t : Tr (d + 2)} {p : Stp} (h : p.map = true) : stepT d t p = (up (d + 1) (partGetT d t p.key).1, (partGetT d t p.key).2) := if_pos h
theorem stepT_place {d : Nat} {t : Tr (d + 2)} {p : Stp} (h : p.map = false) : stepT d t p = (up (d + 1) (partAtT d t p.place).1, (partAtT d t p.place).2) := if_neg (by rw [h]; simp)
/-- All steps of a way, one behind the other. -/
def alongT (d : Nat) : Tr (d + 2) → List Stp → Tr (d + 2) × Bool
  | t, [] => (t, true)
  | t, p :: r => if (stepT d t p).2 = true then alongT d (stepT d t p).1 r else (zeroT (d + 1), false)
def pathGetT (d : Nat) (t : Tr (d + 2)) (ps : List Stp) : Tr (d + 2) × Bool := if okT (d + 2) t = true ∧ pathOk ps = true then alongT d t ps else (zeroT (d + 1), false)

theorem okT_step (d : Nat) (t : Tr (d + 2)) (p : Stp) : okT (d + 2) (stepT d t p).1 = true := by
  unfold stepT
  split
  · rw [okT_lift]
    exact okT_partGet d t p.key
  · rw [okT_lift]
    exact okT_partAt d t p.place
theorem okT_along (d : Nat) : ∀ (ps : List Stp) (t : Tr (d + 2)), okT (d + 2) t = true → okT (d + 2) (alongT d t ps).1 = true
  | [], _, h => h
  | p :: r, t, _ => by
    rw [alongT]
    split
    · exact okT_along d r _ (okT_step d t p)
    · exact okT_zero (d + 1)
theorem okT_pathGet (d : Nat) (t : Tr (d + 2)) (ps : List Stp) : okT (d + 2) (pathGetT d t ps).1 = true := by
  unfold pathGetT
  split
  · rename_i h
    exact okT_along d ps t h.1
  · exact okT_zero (d + 1)
theorem alongT_on {d : Nat} {t : Tr (d + 2)} {ps : List Stp} {k : Nat} {p : Stp} (hp : ps[k]? = some p) (h : (stepT d t p).2 = true) : alongT d t (ps.drop k) = alongT d (stepT d t p).1 (ps.drop (k + 1)) := by
  obtain ⟨hk, e⟩ := List.getElem?_eq_some_iff.1 hp
  rw [List.drop_eq_getElem_cons hk, e, alongT, if_pos h]
theorem alongT_off {d : Nat} {t : Tr (d + 2)} {ps : List Stp} {k : Nat} {p : Stp} (hp : ps[k]? = some p) (h : (stepT d t p).2 = false) : alongT d t (ps.drop k) = (zeroT (d + 1), false) := by
  obtain ⟨hk, e⟩ := List.getElem?_eq_some_iff.1 hp
  rw [List.drop_eq_getElem_cons hk, e, alongT, if_neg (by rw [h]; simp)]
theorem alongT_end {d : Nat} {t : Tr (d + 2)} {ps : List Stp} : alongT d t (ps.drop ps.length) = (t, true) := by
  rw [List.drop_eq_nil_of_le (Nat.le_refl _), alongT]
theorem stpOk_of {ps : List Stp} {p : Stp} {k : Nat} (h : pathOk ps = true) (hp : ps[k]? = some p) : stpOk p = true := by
  unfold pathOk at h
  rw [Bool.and_eq_true] at h
  exact List.all_eq_true.1 h.1 p (List.mem_of_getElem? hp)
theorem strOk_of {p : Stp} (h : stpOk p = true) (hm : p.map = true) : strOk p.key = true := by
  rw [stpOk_map hm, Bool.and_eq_true] at h
  exact h.1
/-- What is told when a step can not be done is nothing. -/
theorem step_off {d : Nat} {t : Tr (d + 2)} {p : Stp} (h : (stepT d t p).2 = false) : (stepT d t p).1 = zeroT (d + 1) := by
  unfold stepT at h ⊢
  split at h
  · rename_i hm
    rw [if_pos hm]
    have h : (partGetT d t p.key).2 = false := h
    show up (d + 1) (partGetT d t p.key).1 = _
    unfold partGetT at h ⊢
    split at h
    · rename_i h1
      rw [if_pos h1]
      split at h
      · cases h
      rename_i h2
      rw [if_neg h2]
      split at h
      · cases h
      rename_i h3
      rw [if_neg h3]
      rfl
    · rename_i h1
      rw [if_neg h1]
      rfl
  · rename_i hm
    rw [if_neg hm]
    have h : (partAtT d t p.place).2 = false := h
    show up (d + 1) (partAtT d t p.place).1 = _
    unfold partAtT at h ⊢
    split at h
    · rename_i h1
      rw [if_pos h1]
      split at h
      · cases h
      rename_i h2
      rw [if_neg h2]
      split at h
      · cases h
      rename_i h3
      rw [if_neg h3]
      rfl
    · rename_i h1
      rw [if_neg h1]
      rfl
end Go.Proofs.YtmibjmipndffmaaGreatDoor
