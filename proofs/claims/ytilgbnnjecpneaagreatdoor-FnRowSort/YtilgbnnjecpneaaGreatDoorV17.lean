/- Texts of the proof, put together by program: WOrd. -/
import Derived.Test.YtilgbnnjecpneaaGreatDoorV14
import Derived.Test.YtilgbnnjecpneaaGreatDoorV1
/- How two trees stand: the plain functions, and l1Texts, l1Lists, l1Rows, ValOrder of the model. -/
namespace Go.Proofs.YtilgbnnjecpneaaGreatDoor
open Go.RowKit Go.Deep

/-- The first, if it says something, else the second. -/
def orI (x y : Int) : Int := if x = 0 then y else x
def cmpI (a b : Int) : Int := if a < b then -1 else if b < a then 1 else 0
def cmpS (a b : ByteArray) : Int := if Op.bytesLess a.toList b.toList = true then -1 else if (a.toList == b.toList) = true then 0 else 1
def ordL {α : Type} (f : α → α → Int) : List α → List α → Int
  | [], [] => 0
  | [], _ :: _ => -1
  | _ :: _, [] => 1
  | a :: r, b :: s => orI (f a b) (ordL f r s)
/-- How two parts stand but for the parts in them. -/
def headO {α : Type} (a b : Nd α) : Int := orI (cmpI a.kind b.kind) (orI (cmpI a.num b.num) (orI (cmpS a.str b.str) (ordL cmpS a.keys b.keys)))
def ordT : (d : Nat) → Tr d → Tr d → Int
  | 0, _, _ => 0
  | d + 1, a, b => orI (headO (α := Tr d) a b) (ordL (ordT d) (Nd.list a) (Nd.list b))

theorem orI_zero (y : Int) : orI 0 y = y := rfl
theorem orI_ne {x : Int} (h : x ≠ 0) (y : Int) : orI x y = x := if_neg h
theorem orI_assoc (x y z : Int) : orI (orI x y) z = orI x (orI y z) := by
  unfold orI
  split <;> simp_all
theorem orI_right (x : Int) : orI x 0 = x := by
  unfold orI
  split <;> simp_all
theorem ordL_drop {α : Type} (f : α → α → Int) {xs ys : List α} {k : Nat} {x y : α} (hx : xs[k]? = some x) (hy : ys[k]? = some y) :
    ordL f (xs.drop k) (ys.drop k) = orI (f x y) (ordL f (xs.drop (k + 1)) (ys.drop (k + 1))) := by
  obtain ⟨hk, e1⟩ := List.getElem?_eq_some_iff.1 hx
  obtain ⟨hk', e2⟩ := List.getElem?_eq_some_iff.1 hy
  rw [List.drop_eq_getElem_cons hk, List.drop_eq_getElem_cons hk', e1, e2, ordL]
theorem ordL_end {α : Type} (f : α → α → Int) {xs ys : List α} {k : Nat} (hx : k ≤ xs.length) (hy : k ≤ ys.length) (h : ¬ (k < xs.length ∧ k < ys.length)) :
    ordL f (xs.drop k) (ys.drop k) = cmpI xs.length ys.length := by
  by_cases h1 : k < xs.length
  · have e : ys.drop k = [] := List.drop_eq_nil_of_le (by omega)
    rw [List.drop_eq_getElem_cons h1, e, ordL, cmpI, if_neg (by omega), if_pos (by omega)]
  · by_cases h2 : k < ys.length
    · have e : xs.drop k = [] := List.drop_eq_nil_of_le (by omega)
      rw [e, List.drop_eq_getElem_cons h2, ordL, cmpI, if_pos (by omega)]
    · have e : xs.drop k = [] := List.drop_eq_nil_of_le (by omega)
      have e' : ys.drop k = [] := List.drop_eq_nil_of_le (by omega)
      rw [e, e', ordL, cmpI, if_neg (by omega), if_neg (by omega)]

theorem cmpS_lt {a b : ByteArray} (h : Op.bytesLess a.toList b.toList = true) : cmpS a b = -1 := if_pos h
theorem cmpS_eq {a b : ByteArray} (h : (a.toList == b.toList) = true) : cmpS a b = 0 := by
  have e : a.toList = b.toList := by simpa using h
  rw [cmpS, e, bytesLess_irrefl]
  simp
theorem cmpS_gt {a b : ByteArray} (h : Op.bytesLess a.toList b.toList = false) (h' : (a.toList == b.toList) = false) : cmpS a b = 1 := by
  rw [cmpS, h, h']
  rfl

set_option maxHeartbeats 400000 in
theorem l1Texts_any (a b : ByteArray) (w : World) :
    Calls Tryz.prog 103 #[.string a, .string b] w fun e w' => e = .returned (.int .i64 (cmpS a b)) ∧ w' = w := by
  cases h1 : Op.bytesLess a.toList b.toList with
  | true =>
    have hf : Hid _ := cmpS_lt h1
    go_enter Tryz.func103, Tryz.ntmps103
    go_wp2_with fail
    go_ret
    rw [hf.out]
    exact ⟨rfl, rfl⟩
  | false =>
    cases h2 : (a.toList == b.toList) with
    | true =>
      have hf : Hid _ := cmpS_eq h2
      go_enter Tryz.func103, Tryz.ntmps103
      go_wp2_with fail
      go_ret
      rw [hf.out]
      exact ⟨rfl, rfl⟩
    | false =>
      have hf : Hid _ := cmpS_gt h1 h2
      go_enter Tryz.func103, Tryz.ntmps103
      go_wp2_with fail
      go_ret
      rw [hf.out]
      exact ⟨rfl, rfl⟩

set_option maxHeartbeats 400000 in
theorem l1Max_any (a b : Int) (w : World) :
    Calls Tryz.prog 117 #[.int .i64 a, .int .i64 b] w fun e w' => e = .returned (.int .i64 (max a b)) ∧ w' = w := by
  by_cases h : b < a
  · have hf : Hid (max a b = a) := Int.max_eq_left (by omega)
    go_enter Tryz.func117, Tryz.ntmps117
    go_wp2_with fail
    go_ret
    rw [hf.out]
    exact ⟨rfl, rfl⟩
  · have hf : Hid (max a b = b) := Int.max_eq_right (by omega)
    go_enter Tryz.func117, Tryz.ntmps117
    go_wp2_with fail
    go_ret
    rw [hf.out]
    exact ⟨rfl, rfl⟩
set_option maxHeartbeats 400000 in
theorem l1Min_any (a b : Int) (w : World) :
    Calls Tryz.prog 118 #[.int .i64 a, .int .i64 b] w fun e w' => e = .returned (.int .i64 (min a b)) ∧ w' = w := by
  by_cases h : a < b
  · have hf : Hid (min a b = a) := Int.min_eq_left (by omega)
    go_enter Tryz.func118, Tryz.ntmps118
    go_wp2_with fail
    go_ret
    rw [hf.out]
    exact ⟨rfl, rfl⟩
  · have hf : Hid (min a b = b) := Int.min_eq_right (by omega)
    go_enter Tryz.func118, Tryz.ntmps118
    go_wp2_with fail
    go_ret
    rw [hf.out]
    exact ⟨rfl, rfl⟩

theorem clamp_cmpI (a b : Int) : max (-1) (min 1 (a - b)) = cmpI a b := by
  unfold cmpI
  split
  · omega
  · split <;> omega

set_option maxHeartbeats 1000000 in
theorem l1Lists_any (S S' : Nat → Prop) (ss ss' : List ByteArray) (v v' : Value) (w : World) (hv : StrsAt S w v ss) (hv' : StrsAt S' w v' ss') :
    Calls Tryz.prog 104 #[v, v'] w fun e w' => e = .returned (.int .i64 (ordL cmpS ss ss')) ∧ ∃ n, w' = w.drewN n := by
  obtain ⟨a, cap, rfl, hlen⟩ := hv.open'
  obtain ⟨a', cap', rfl, hlen'⟩ := hv'.open'
  go_enter Tryz.func104, Tryz.ntmps104
  go_wp2_with fail
  go_loopw [5] (fun i wr => ∃ (k : Nat), k ≤ ss.length ∧ k ≤ ss'.length ∧ i = .int .i64 k ∧ Hid (∃ n, wr = w.drewN n) ∧ Hid (ordL cmpS ss ss' = ordL cmpS (ss.drop k) (ss'.drop k))) (fun i _ => ss.length - (intOf i).toNat)
  case atStart => exact ⟨0, Nat.zero_le _, Nat.zero_le _, rfl, ⟨0, rfl⟩, rfl⟩
  case round =>
    obtain ⟨k, hk, hk', rfl, hwr, hfin⟩ := hrel
    have hvr : StrsAt S wr (.slice a ss.length cap) ss := by
      obtain ⟨n, rfl⟩ := hwr.out
      exact hv.same (fun _ _ => rfl)
    have hvr' : StrsAt S' wr (.slice a' ss'.length cap') ss' := by
      obtain ⟨n, rfl⟩ := hwr.out
      exact hv'.same (fun _ _ => rfl)
    have hend : Hid (∀ m, ∃ n, wr.drewN m = w.drewN n) := by
      obtain ⟨n, hn⟩ := hwr.out
      intro m
      exact ⟨n + m, by rw [hn, World.drewN_drewN]⟩
    clear hv hv'
    by_cases hkl : k < ss.length
    case neg =>
      have hf2 : Hid (ordL cmpS ss ss' = cmpI ss.length ss'.length) := by
        show _ = _
        rw [hfin.out, ordL_end cmpS hk hk' (by omega)]
      go_wp2_with fail
      refine (l1Min_any _ _ _).mono ?_
      rintro e w1 ⟨rfl, rfl⟩
      go_wp2_with fail
      refine (l1Max_any _ _ _).mono ?_
      rintro e w1 ⟨rfl, rfl⟩
      go_wp2_with fail
      go_ret
      rw [hf2.out, ← clamp_cmpI]
      exact ⟨rfl, hwr.out⟩
    case pos =>
    by_cases hkl' : k < ss'.length
    case neg =>
      have hf2 : Hid (ordL cmpS ss ss' = cmpI ss.length ss'.length) := by
        show _ = _
        rw [hfin.out, ordL_end cmpS hk hk' (by omega)]
      go_wp2_with fail
      refine (l1Min_any _ _ _).mono ?_
      rintro e w1 ⟨rfl, rfl⟩
      go_wp2_with fail
      refine (l1Max_any _ _ _).mono ?_
      rintro e w1 ⟨rfl, rfl⟩
      go_wp2_with fail
      go_ret
      rw [hf2.out, ← clamp_cmpI]
      exact ⟨rfl, hwr.out⟩
    case pos =>
    obtain ⟨b, o, s, rfl, _, hs, _, hck⟩ := hvr.cell hkl
    obtain ⟨b', o', s', rfl, _, hs', _, hck'⟩ := hvr'.cell hkl'
    have hst : Hid (_ = _) := ordL_drop cmpS hs hs'
    clear hvr hvr' hs hs'
    have hki : (k : Int) < (ss.length : Int) := by omega
    have hki' : (k : Int) < (ss'.length : Int) := by omega
    by_cases heq : cmpS s s' = 0
    · have hst2 : Hid (ordL cmpS ss ss' = ordL cmpS (ss.drop (k + 1)) (ss'.drop (k + 1))) := by
        show ordL cmpS ss ss' = _
        rw [hfin.out, hst.out, heq]
        rfl
      clear hst hfin
      go_wp2_with fail
      go_quiet ((go_at_call 103; exact Calls.quiet_of_same (l1Texts_any _ _ _)))
      go_wp2_with fail
      exact ⟨⟨k + 1, by omega, by omega, by go_num, hend.out nq, hst2⟩, by simp [intOf]; omega⟩
    · have hfin2 : Hid (ordL cmpS ss ss' = cmpS s s') := by
        show ordL cmpS ss ss' = _
        rw [hfin.out, hst.out, orI_ne heq]
      clear hst hfin
      go_wp2_with fail
      go_quiet ((go_at_call 103; exact Calls.quiet_of_same (l1Texts_any _ _ _)))
      go_wp2_with fail
      go_ret
      rw [hfin2.out]
      exact ⟨rfl, hend.out nq⟩

/-- What ValOrder of the model does with trees of this depth. -/
def OrdVal (d : Nat) : Prop := ∀ (S S' : Nat → Prop) (t t' : Tr d) (v v' : Value) (w : World), ValAt S w d t v → ValAt S' w d t' v' → Within S w → Within S' w →
    Calls Tryz.prog 89 #[v, v'] w fun e w' => e = .returned (.int .i64 (ordT d t t')) ∧ Below w.heap.size w w'

set_option maxHeartbeats 1000000 in
theorem l1Rows_any (d : Nat) (H : OrdVal d) (S S' : Nat → Prop) (xs xs' : List (Tr d)) (v v' : Value) (w : World) (hv : RowAt S w (ValAt S w d) v xs) (hv' : RowAt S' w (ValAt S' w d) v' xs') (hS : Within S w) (hS' : Within S' w) :
    Calls Tryz.prog 105 #[v, v'] w fun e w' => e = .returned (.int .i64 (ordL (ordT d) xs xs')) ∧ Below w.heap.size w w' := by
  obtain ⟨a, cap, rfl, hlen⟩ := hv.open'
  obtain ⟨a', cap', rfl, hlen'⟩ := hv'.open'
  go_enter Tryz.func105, Tryz.ntmps105
  go_wp2_with fail
  go_loopw [5] (fun i wr => ∃ (k : Nat), k ≤ xs.length ∧ k ≤ xs'.length ∧ i = .int .i64 k ∧ Below w.heap.size w wr ∧ Hid (ordL (ordT d) xs xs' = ordL (ordT d) (xs.drop k) (xs'.drop k))) (fun i _ => xs.length - (intOf i).toNat)
  case atStart => exact ⟨0, Nat.zero_le _, Nat.zero_le _, rfl, Below.refl _ _, rfl⟩
  case round =>
    obtain ⟨k, hk, hk', rfl, hbel, hfin⟩ := hrel
    by_cases hkl : k < xs.length
    case neg =>
      have hf2 : Hid (ordL (ordT d) xs xs' = cmpI xs.length xs'.length) := by
        show _ = _
        rw [hfin.out, ordL_end (ordT d) hk hk' (by omega)]
      clear hfin
      go_wp2_with fail
      refine (l1Min_any _ _ _).mono ?_
      rintro e w1 ⟨rfl, rfl⟩
      go_wp2_with fail
      refine (l1Max_any _ _ _).mono ?_
      rintro e w1 ⟨rfl, rfl⟩
      go_wp2_with fail
      go_ret
      rw [hf2.out, ← clamp_cmpI]
      exact ⟨rfl, hbel⟩
    case pos =>
    by_cases hkl' : k < xs'.length
    case neg =>
      have hf2 : Hid (ordL (ordT d) xs xs' = cmpI xs.length xs'.length) := by
        show _ = _
        rw [hfin.out, ordL_end (ordT d) hk hk' (by omega)]
      clear hfin
      go_wp2_with fail
      refine (l1Min_any _ _ _).mono ?_
      rintro e w1 ⟨rfl, rfl⟩
      go_wp2_with fail
      refine (l1Max_any _ _ _).mono ?_
      rintro e w1 ⟨rfl, rfl⟩
      go_wp2_with fail
      go_ret
      rw [hf2.out, ← clamp_cmpI]
      exact ⟨rfl, hbel⟩
    case pos =>
    obtain ⟨b, o, x, c0, c1, c2, c3, c4, rfl, hb, hx, e0, e1, e2, e3, e4, hval⟩ := (hv.same (hS.same hbel)).cell hkl
    obtain ⟨b', o', x', c0', c1', c2', c3', c4', rfl, hb', hx', e0', e1', e2', e3', e4', hval'⟩ := (hv'.same (hS'.same hbel)).cell hkl'
    have hst : Hid (_ = _) := ordL_drop (ordT d) hx hx'
    have hW := hS.later hbel.size
    have hW' := hS'.later hbel.size
    clear hv hv' hx hx' hS hS'
    have hki : (k : Int) < (xs.length : Int) := by omega
    have hki' : (k : Int) < (xs'.length : Int) := by omega
    by_cases heq : ordT d x x' = 0
    · have hst2 : Hid (ordL (ordT d) xs xs' = ordL (ordT d) (xs.drop (k + 1)) (xs'.drop (k + 1))) := by
        show ordL (ordT d) xs xs' = _
        rw [hfin.out, hst.out, heq]
        rfl
      clear hst hfin
      go_wp2_with fail
      go_region_with (go_at_call 89; refine (H S S' x x' _ _ _ ?_ ?_ ?_ ?_).mono ?_; exact hval.same (fun _ _ => rfl); exact hval'.same (fun _ _ => rfl); exact hW; exact hW'; rintro e w1 ⟨rfl, hb1⟩)
      all_goals
        have hb2 : Below w.heap.size w w1 := below_trans hbel (show Below wr.heap.size wr w1 from ⟨hb1.os, hb1.tape, hb1.output, hb1.size, hb1.block⟩)
        clear hb1 hbel hval hval' e0 e1 e2 e3 e4 e0' e1' e2' e3' e4'
        go_wp2_with fail
        go_roundw
        case rel => exact ⟨k + 1, by omega, by omega, by go_num, hb2, hst2⟩
        case measure => simp [intOf]; omega
    · have hfin2 : Hid (ordL (ordT d) xs xs' = ordT d x x') := by
        show ordL (ordT d) xs xs' = _
        rw [hfin.out, hst.out, orI_ne heq]
      clear hst hfin
      go_wp2_with fail
      go_region_with (go_at_call 89; refine (H S S' x x' _ _ _ ?_ ?_ ?_ ?_).mono ?_; exact hval.same (fun _ _ => rfl); exact hval'.same (fun _ _ => rfl); exact hW; exact hW'; rintro e w1 ⟨rfl, hb1⟩)
      all_goals
        have hb2 : Below w.heap.size w w1 := below_trans hbel (show Below wr.heap.size wr w1 from ⟨hb1.os, hb1.tape, hb1.output, hb1.size, hb1.block⟩)
        clear hb1 hbel hval hval' e0 e1 e2 e3 e4 e0' e1' e2' e3' e4'
        go_wp2_with fail
        go_ret
        rw [hfin2.out]
        exact ⟨rfl, hb2⟩

theorem cmpI_lt {a b : Int} (h : a < b) : cmpI a b = -1 := if_pos h
theorem cmpI_gt {a b : Int} (h : b < a) : cmpI a b = 1 := by rw [cmpI, if_neg (by omega), if_pos h]
theorem cmpI_eq {a b : Int} (h : ¬ a < b) (h' : ¬ b < a) : cmpI a b = 0 := by rw [cmpI, if_neg h, if_neg h']

set_option maxRecDepth 100000 in
set_option maxHeartbeats 2000000 in
theorem specOrder_any : ∀ (d : Nat), OrdVal d
  | 0 => fun _ _ _ _ _ _ _ h => h.elim
  | d + 1 => by
    intro S S' t t' v v' w hv hv' hS hS'
    have ih := specOrder_any d
    obtain ⟨kind, num, str, keys, list⟩ := t
    obtain ⟨kind', num', str', keys', list'⟩ := t'
    obtain ⟨vk, vl, rfl, i1, i2, i3, hk, hl⟩ := hv
    obtain ⟨ak, ck, rfl, hkl⟩ := hk.open'
    obtain ⟨al, cl, rfl, hll⟩ := hl.open'
    obtain ⟨vk', vl', rfl, i1', i2', i3', hk', hl'⟩ := hv'
    obtain ⟨ak', ck', rfl, hkl'⟩ := hk'.open'
    obtain ⟨al', cl', rfl, hll'⟩ := hl'.open'
    obtain ⟨k0, k1, hba⟩ := two_blocks w 29 (.int .i64 kind) (.int .i64 num) (.string str) (.slice ak keys.length ck) (.slice al list.length cl)
      (.int .i64 kind') (.int .i64 num') (.string str') (.slice ak' keys'.length ck') (.slice al' list'.length cl')
    have hT : Hid (ordT (d + 1) (Nd.mk kind num str keys list) (Nd.mk kind' num' str' keys' list') =
        orI (orI (cmpI kind kind') (orI (cmpI num num') (orI (cmpS str str') (ordL cmpS keys keys')))) (ordL (ordT d) list list')) := rfl
    generalize ordT (d + 1) (Nd.mk kind num str keys list) (Nd.mk kind' num' str' keys' list') = R at hT ⊢
    change Hid (R = _) at hT
    by_cases h1 : kind < kind'
    · have hf : Hid (R = -1) := by show _ = _; rw [hT.out, cmpI_lt h1]; rfl
      go_enter Tryz.func89, Tryz.ntmps89
      go_wp2_with fail
      go_ret
      rw [hf.out]
      exact ⟨rfl, hba⟩
    by_cases h2 : kind' < kind
    · have hf : Hid (R = 1) := by show _ = _; rw [hT.out, cmpI_gt h2]; rfl
      go_enter Tryz.func89, Tryz.ntmps89
      go_wp2_with fail
      go_ret
      rw [hf.out]
      exact ⟨rfl, hba⟩
    rw [Hid, cmpI_eq h1 h2] at hT
    change Hid (R = _) at hT
    by_cases h3 : num < num'
    · have hf : Hid (R = -1) := by show _ = _; rw [hT.out, cmpI_lt h3]; rfl
      go_enter Tryz.func89, Tryz.ntmps89
      go_wp2_with fail
      go_ret
      rw [hf.out]
      exact ⟨rfl, hba⟩
    by_cases h4 : num' < num
    · have hf : Hid (R = 1) := by show _ = _; rw [hT.out, cmpI_gt h4]; rfl
      go_enter Tryz.func89, Tryz.ntmps89
      go_wp2_with fail
      go_ret
      rw [hf.out]
      exact ⟨rfl, hba⟩
    rw [Hid, cmpI_eq h3 h4] at hT
    change Hid (R = _) at hT
    cases h5 : (str.toList == str'.toList) with
    | false =>
      have hne : cmpS str str' ≠ 0 := by
        unfold cmpS
        rw [h5]
        split <;> simp
      have hf : Hid (R = cmpS str str') := by
        show _ = _
        rw [hT.out, orI_zero, orI_zero, orI_ne hne, orI_ne hne]
      clear hne
      go_enter Tryz.func89, Tryz.ntmps89
      go_wp2_with fail
      refine (l1Texts_any _ _ _).mono ?_
      rintro e w1 ⟨rfl, rfl⟩
      go_wp2_with fail
      go_ret
      rw [hf.out]
      exact ⟨rfl, hba⟩
    | true =>
    have hf : Hid (R = orI (ordL cmpS keys keys') (ordL (ordT d) list list')) := by
      show _ = _
      rw [hT.out, cmpS_eq h5]
      rfl
    clear hT
    go_enter Tryz.func89, Tryz.ntmps89
    go_wp2_with fail
    refine (l1Lists_any S S' keys keys' _ _ _ (hk.same (hS.same hba)) (hk'.same (hS'.same hba))).mono ?_
    rintro e w1 ⟨rfl, n, rfl⟩
    by_cases h6 : ordL cmpS keys keys' = 0
    case neg =>
      have hf2 : Hid (R = ordL cmpS keys keys') := by
        show _ = _
        rw [hf.out, orI_ne h6]
      go_wp2_with fail
      go_ret
      rw [hf2.out]
      exact ⟨rfl, hba.trans (below_drewN _ _ _)⟩
    have hf2 : Hid (R = ordL (ordT d) list list') := by
      show _ = _
      rw [hf.out, h6]
      rfl
    go_wp2_with fail
    have hbb := hba.trans (below_drewN w.heap.size _ n)
    refine (l1Rows_any d ih S S' list list' _ _ _ (hl.same (hS.same hbb)) (hl'.same (hS'.same hbb)) (hS.later hbb.size) (hS'.later hbb.size)).mono ?_
    rintro e w2 ⟨rfl, hb2⟩
    have hb3 := below_trans hbb hb2
    clear hb2 hbb hba k0 k1
    go_wp2_with fail
    go_ret
    rw [hf2.out]
    exact ⟨rfl, hb3⟩
end Go.Proofs.YtilgbnnjecpneaaGreatDoor
