/- Texts of the proof, put together by program: WEq, WStr. -/
import Derived.Test.YtmkoeomkbbmoaaaGreatDoorP1
import Derived.Deep.RegionWith
/- eqStringS, eqVal, eqValS: two trees are one. -/
namespace Go.Proofs.YtmkoeomkbbmoaaaGreatDoor
open Go.RowKit Go.Deep

def eqStrs : List ByteArray → List ByteArray → Bool
  | [], [] => true
  | a :: as', b :: bs => a.toList == b.toList && eqStrs as' bs
  | _, _ => false

theorem eqStrs_drop {xs ys : List ByteArray} {k : Nat} {x y : ByteArray} (hx : xs[k]? = some x) (hy : ys[k]? = some y) :
    eqStrs (xs.drop k) (ys.drop k) = (x.toList == y.toList && eqStrs (xs.drop (k + 1)) (ys.drop (k + 1))) := by
  obtain ⟨hk, e1⟩ := List.getElem?_eq_some_iff.1 hx
  obtain ⟨hk', e2⟩ := List.getElem?_eq_some_iff.1 hy
  rw [List.drop_eq_getElem_cons hk, List.drop_eq_getElem_cons hk', e1, e2, eqStrs]
theorem eqStrs_len : ∀ (xs ys : List ByteArray), eqStrs xs ys = true → xs.length = ys.length
  | [], [], _ => rfl
  | a :: r, b :: s, h => by
    rw [eqStrs, Bool.and_eq_true] at h
    simp [eqStrs_len r s h.2]
  | [], _ :: _, h => by simp [eqStrs] at h
  | _ :: _, [], h => by simp [eqStrs] at h

set_option maxHeartbeats 400000 in
theorem eqStringS_any (S S' : Nat → Prop) (ss ss' : List ByteArray) (v v' : Value) (w : World) (hv : StrsAt S w v ss) (hv' : StrsAt S' w v' ss') :
    Calls Tryz.prog 31 #[v, v'] w fun e w' => e = .returned (.bool (eqStrs ss ss')) ∧ ∃ n, w' = w.drewN n := by
  obtain ⟨a, cap, rfl, hlen⟩ := hv.open'
  obtain ⟨a', cap', rfl, hlen'⟩ := hv'.open'
  by_cases hne : ss.length = ss'.length
  · rw [← hne]
    have HN : Hid (ss.length = ss'.length) := hne
    clear hne
    have hq : ((ss.length : Int) != (ss.length : Int)) = false := by simp
    go_enter Tryz.func31, Tryz.ntmps31
    go_wp2_with fail
    go_loopw [5] (fun i wr => ∃ (k n : Nat), k ≤ ss.length ∧ i = .int .i64 k ∧ wr = w.drewN n ∧ Hid (eqStrs ss ss' = eqStrs (ss.drop k) (ss'.drop k))) (fun i _ => ss.length - (intOf i).toNat)
    case atStart => exact ⟨0, 0, Nat.zero_le _, rfl, rfl, rfl⟩
    case round =>
      obtain ⟨k, n, hk, rfl, rfl, hfin⟩ := hrel
      by_cases hkl : k < ss.length
      · obtain ⟨b, o, s, rfl, _, hs, _, hck⟩ := hv.cell hkl
        obtain ⟨b', o', s', rfl, _, hs', _, hck'⟩ := hv'.cell (by rw [← HN.out]; exact hkl)
        have hst : Hid (_ = _) := eqStrs_drop hs hs'
        clear hv hv' hs hs'
        have hki : (k : Int) < (ss.length : Int) := by omega
        by_cases heq : (s.toList == s'.toList) = true
        · have hst2 : Hid (eqStrs ss ss' = eqStrs (ss.drop (k + 1)) (ss'.drop (k + 1))) := by
            show eqStrs ss ss' = _
            rw [hfin.out, hst.out, heq]
            rfl
          clear hst hfin
          go_wp2_with fail
          go_quiet (fail)
          go_wp2_with fail
          exact ⟨⟨k + 1, n + nq, by omega, by go_num, by simp, hst2⟩, by simp [intOf]; omega⟩
        · have heq' : (s.toList == s'.toList) = false := by simpa using heq
          have hfin2 : Hid (eqStrs ss ss' = false) := by
            show eqStrs ss ss' = false
            rw [hfin.out, hst.out, heq']
            rfl
          clear hst hfin heq
          go_wp2_with fail
          go_quiet (fail)
          go_wp2_with fail
          go_ret
          rw [hfin2.out]
          exact ⟨rfl, n + nq, by simp⟩
      · go_wp2_with fail
        go_ret
        rw [hfin.out, List.drop_eq_nil_of_le (by omega), List.drop_eq_nil_of_le (by have := HN.out; omega)]
        exact ⟨rfl, n, rfl⟩
  · have hfin : Hid (eqStrs ss ss' = false) := by
      show eqStrs ss ss' = false
      cases h : eqStrs ss ss'
      · rfl
      · exact absurd (eqStrs_len _ _ h) hne
    have hq : ((ss.length : Int) != (ss'.length : Int)) = true := by rw [bne_iff_ne]; omega
    go_enter Tryz.func31, Tryz.ntmps31
    go_wp2_with fail
    go_ret
    rw [hfin.out]
    exact ⟨rfl, 0, rfl⟩

def eqL {α : Type} (f : α → α → Bool) : List α → List α → Bool
  | [], [] => true
  | a :: as', b :: bs => f a b && eqL f as' bs
  | _, _ => false
theorem eqL_drop {α : Type} (f : α → α → Bool) {xs ys : List α} {k : Nat} {x y : α} (hx : xs[k]? = some x) (hy : ys[k]? = some y) :
    eqL f (xs.drop k) (ys.drop k) = (f x y && eqL f (xs.drop (k + 1)) (ys.drop (k + 1))) := by
  obtain ⟨hk, e1⟩ := List.getElem?_eq_some_iff.1 hx
  obtain ⟨hk', e2⟩ := List.getElem?_eq_some_iff.1 hy
  rw [List.drop_eq_getElem_cons hk, List.drop_eq_getElem_cons hk', e1, e2, eqL]
theorem eqL_len {α : Type} (f : α → α → Bool) : ∀ (xs ys : List α), eqL f xs ys = true → xs.length = ys.length
  | [], [], _ => rfl
  | a :: r, b :: s, h => by
    rw [eqL, Bool.and_eq_true] at h
    simp [eqL_len f r s h.2]
  | [], _ :: _, h => by simp [eqL] at h
  | _ :: _, [], h => by simp [eqL] at h
def eqT : (d : Nat) → Tr d → Tr d → Bool
  | 0, _, _ => true
  | d + 1, a, b => Nd.kind a == Nd.kind b && (Nd.num a == Nd.num b && ((Nd.str a).toList == (Nd.str b).toList && (eqStrs (Nd.keys a) (Nd.keys b) && eqL (eqT d) (Nd.list a) (Nd.list b))))

/-- What eqVal does with trees of this depth. -/
def EqVal (d : Nat) : Prop := ∀ (S S' : Nat → Prop) (t t' : Tr d) (v v' : Value) (w : World), ValAt S w d t v → ValAt S' w d t' v' → Within S w → Within S' w →
    Calls Tryz.prog 11 #[v, v'] w fun e w' => e = .returned (.bool (eqT d t t')) ∧ Below w.heap.size w w'

theorem below_drewN (B : Nat) (w : World) (n : Nat) : Below B w (w.drewN n) := ⟨rfl, rfl, rfl, Nat.le_refl _, fun _ _ => rfl⟩

set_option maxHeartbeats 1000000 in
theorem eqValS_any (d : Nat) (H : EqVal d) (S S' : Nat → Prop) (xs xs' : List (Tr d)) (v v' : Value) (w : World) (hv : RowAt S w (ValAt S w d) v xs) (hv' : RowAt S' w (ValAt S' w d) v' xs') (hS : Within S w) (hS' : Within S' w) :
    Calls Tryz.prog 32 #[v, v'] w fun e w' => e = .returned (.bool (eqL (eqT d) xs xs')) ∧ Below w.heap.size w w' := by
  obtain ⟨a, cap, rfl, hlen⟩ := hv.open'
  obtain ⟨a', cap', rfl, hlen'⟩ := hv'.open'
  by_cases hne : xs.length = xs'.length
  · rw [← hne]
    have HN : Hid (xs.length = xs'.length) := hne
    clear hne
    have hq : ((xs.length : Int) != (xs.length : Int)) = false := by simp
    go_enter Tryz.func32, Tryz.ntmps32
    go_wp2_with fail
    go_loopw [5] (fun i wr => ∃ (k : Nat), k ≤ xs.length ∧ i = .int .i64 k ∧ Below w.heap.size w wr ∧ Hid (eqL (eqT d) xs xs' = eqL (eqT d) (xs.drop k) (xs'.drop k))) (fun i _ => xs.length - (intOf i).toNat)
    case atStart => exact ⟨0, Nat.zero_le _, rfl, Below.refl _ _, rfl⟩
    case round =>
      obtain ⟨k, hk, rfl, hbel, hfin⟩ := hrel
      by_cases hkl : k < xs.length
      · obtain ⟨b, o, x, c0, c1, c2, c3, c4, rfl, hb, hx, e0, e1, e2, e3, e4, hval⟩ := (hv.same (hS.same hbel)).cell hkl
        obtain ⟨b', o', x', c0', c1', c2', c3', c4', rfl, hb', hx', e0', e1', e2', e3', e4', hval'⟩ := (hv'.same (hS'.same hbel)).cell (by rw [← HN.out]; exact hkl)
        have hst : Hid (_ = _) := eqL_drop (eqT d) hx hx'
        have hW := hS.later hbel.size
        have hW' := hS'.later hbel.size
        clear hv hv' hx hx' hS hS'
        have hki : (k : Int) < (xs.length : Int) := by omega
        by_cases heq : eqT d x x' = true
        · have hst2 : Hid (eqL (eqT d) xs xs' = eqL (eqT d) (xs.drop (k + 1)) (xs'.drop (k + 1))) := by
            show eqL (eqT d) xs xs' = _
            rw [hfin.out, hst.out, heq]
            rfl
          clear hst hfin
          go_wp2_with fail
          go_region_with (go_at_call 11; refine (H S S' x x' _ _ _ ?_ ?_ ?_ ?_).mono ?_; exact hval.same (fun _ _ => rfl); exact hval'.same (fun _ _ => rfl); exact hW; exact hW'; rintro e w1 ⟨rfl, hb1⟩)
          all_goals
            have hb2 : Below w.heap.size w w1 := below_trans hbel (show Below wr.heap.size wr w1 from ⟨hb1.os, hb1.tape, hb1.output, hb1.size, hb1.block⟩)
            clear hb1 hbel hval hval' e0 e1 e2 e3 e4 e0' e1' e2' e3' e4'
            go_wp2_with fail
            go_roundw
            case rel => exact ⟨k + 1, by omega, by go_num, hb2, hst2⟩
            case measure => simp [intOf]; omega
        · have heq' : eqT d x x' = false := by simpa using heq
          have hfin2 : Hid (eqL (eqT d) xs xs' = false) := by
            show eqL (eqT d) xs xs' = false
            rw [hfin.out, hst.out, heq']
            rfl
          clear hst hfin heq
          go_wp2_with fail
          go_region_with (go_at_call 11; refine (H S S' x x' _ _ _ ?_ ?_ ?_ ?_).mono ?_; exact hval.same (fun _ _ => rfl); exact hval'.same (fun _ _ => rfl); exact hW; exact hW'; rintro e w1 ⟨rfl, hb1⟩)
          all_goals
            have hb2 : Below w.heap.size w w1 := below_trans hbel (show Below wr.heap.size wr w1 from ⟨hb1.os, hb1.tape, hb1.output, hb1.size, hb1.block⟩)
            clear hb1 hbel hval hval' e0 e1 e2 e3 e4 e0' e1' e2' e3' e4'
            go_wp2_with fail
            go_ret
            rw [hfin2.out]
            exact ⟨rfl, hb2⟩
      · go_wp2_with fail
        go_ret
        rw [hfin.out, List.drop_eq_nil_of_le (by omega), List.drop_eq_nil_of_le (by have := HN.out; omega)]
        exact ⟨rfl, hbel⟩
  · have hfin : Hid (eqL (eqT d) xs xs' = false) := by
      show eqL (eqT d) xs xs' = false
      cases h : eqL (eqT d) xs xs'
      · rfl
      · exact absurd (eqL_len _ _ _ h) hne
    have hq : ((xs.length : Int) != (xs'.length : Int)) = true := by rw [bne_iff_ne]; omega
    go_enter Tryz.func32, Tryz.ntmps32
    go_wp2_with fail
    go_ret
    rw [hfin.out]
    exact ⟨rfl, Below.refl _ _⟩

set_option maxHeartbeats 1000000 in
theorem eqVal_any : ∀ (d : Nat), EqVal d
  | 0 => fun _ _ _ _ _ _ _ h => h.elim
  | d + 1 => by
    intro S S' t t' v v' w hv hv' hS hS'
    have ih := eqVal_any d
    obtain ⟨vk, vl, rfl, i1, i2, i3, hk, hl⟩ := hv
    obtain ⟨ak, ck, rfl, hkl⟩ := hk.open'
    obtain ⟨al, cl, rfl, hll⟩ := hl.open'
    obtain ⟨vk', vl', rfl, i1', i2', i3', hk', hl'⟩ := hv'
    obtain ⟨ak', ck', rfl, hkl'⟩ := hk'.open'
    obtain ⟨al', cl', rfl, hll'⟩ := hl'.open'
    have hba : Below w.heap.size w ((w.alloc (Obj.cells #[.int .i64 t.kind, .int .i64 t.num, .string t.str, .slice ak t.keys.length ck, .slice al t.list.length cl] 29)).alloc
      (Obj.cells #[.int .i64 t'.kind, .int .i64 t'.num, .string t'.str, .slice ak' t'.keys.length ck', .slice al' t'.list.length cl'] 29)) := below_trans (below_alloc1 _ _) (below_alloc1 _ _)
    cases h1 : (t.kind == t'.kind) with
    | false =>
      have hfin : Hid (eqT (d + 1) t t' = false) := by
        show eqT (d + 1) t t' = false
        rw [eqT, h1]
        rfl
      have hq : (t.kind != t'.kind) = true := by rw [bne, h1]; rfl
      clear h1
      go_enter Tryz.func11, Tryz.ntmps11
      go_wp2_with fail
      go_ret
      rw [hfin.out]
      exact ⟨rfl, hba⟩
    | true =>
    have hq : (t.kind != t'.kind) = false := by rw [bne, h1]; rfl
    cases h2 : (t.num == t'.num) with
    | false =>
      have hfin : Hid (eqT (d + 1) t t' = false) := by
        show eqT (d + 1) t t' = false
        rw [eqT, h1, h2]
        rfl
      have hq2 : (t.num != t'.num) = true := by rw [bne, h2]; rfl
      clear h1 h2
      go_enter Tryz.func11, Tryz.ntmps11
      go_wp2_with fail
      go_ret
      rw [hfin.out]
      exact ⟨rfl, hba⟩
    | true =>
    have hq2 : (t.num != t'.num) = false := by rw [bne, h2]; rfl
    cases h3 : (t.str.toList == t'.str.toList) with
    | false =>
      have hfin : Hid (eqT (d + 1) t t' = false) := by
        show eqT (d + 1) t t' = false
        rw [eqT, h1, h2, h3]
        rfl
      clear h1 h2
      go_enter Tryz.func11, Tryz.ntmps11
      go_wp2_with fail
      go_ret
      rw [hfin.out]
      exact ⟨rfl, hba⟩
    | true =>
    have hfin : Hid (eqT (d + 1) t t' = (eqStrs t.keys t'.keys && eqL (eqT d) t.list t'.list)) := by
      show eqT (d + 1) t t' = _
      rw [eqT, h1, h2, h3]
      rfl
    clear h1 h2
    go_enter Tryz.func11, Tryz.ntmps11
    go_wp2_with fail
    refine (eqStringS_any S S' t.keys t'.keys _ _ _ (hk.same (hS.same hba)) (hk'.same (hS'.same hba))).mono ?_
    rintro e w1 ⟨rfl, n, rfl⟩
    cases h4 : eqStrs t.keys t'.keys with
    | false =>
      go_wp2_with fail
      go_ret
      rw [hfin.out, h4]
      exact ⟨rfl, hba.trans (below_drewN _ _ _)⟩
    | true =>
    go_wp2_with fail
    have hbb := hba.trans (below_drewN w.heap.size _ n)
    refine (eqValS_any d ih S S' t.list t'.list _ _ _ (hl.same (hS.same hbb)) (hl'.same (hS'.same hbb)) (hS.later hbb.size) (hS'.later hbb.size)).mono ?_
    rintro e w2 ⟨rfl, hb2⟩
    have hb3 := below_trans hbb hb2
    clear hb2 hbb hba
    cases h5 : eqL (eqT d) t.list t'.list with
    | false =>
      go_wp2_with fail
      go_ret
      rw [hfin.out, h4, h5]
      exact ⟨rfl, hb3⟩
    | true =>
      go_wp2_with fail
      go_ret
      rw [hfin.out, h4, h5]
      exact ⟨rfl, hb3⟩

theorem eqStrs_refl : ∀ (xs : List ByteArray), eqStrs xs xs = true
  | [] => rfl
  | a :: r => by rw [eqStrs, eqStrs_refl r, Bool.and_true, beq_iff_eq]
theorem eqL_refl {α : Type} {f : α → α → Bool} (h : ∀ x, f x x = true) : ∀ (xs : List α), eqL f xs xs = true
  | [] => rfl
  | a :: r => by rw [eqL, eqL_refl h r, h, Bool.and_true]
theorem eqT_refl : ∀ (d : Nat) (t : Tr d), eqT d t t = true
  | 0, _ => rfl
  | d + 1, t => by
    rw [eqT, eqStrs_refl, eqL_refl (eqT_refl d)]
    simp
end Go.Proofs.YtmkoeomkbbmoaaaGreatDoor

/- l1Str, l1Keys: texts and keys that a tree may have, as the model has them. -/
namespace Go.Proofs.YtmkoeomkbbmoaaaGreatDoor
open Go.RowKit Go.Deep

def letterB (c : UInt8) : Bool := decide (97 ≤ c.toNat ∧ c.toNat ≤ 122)
def strOk (s : ByteArray) : Bool := s.data.toList.all letterB && decide (s.size ≤ 12)

theorem take_snoc (s : ByteArray) (k : Nat) (h : k < s.size) : s.data.toList.take (k + 1) = s.data.toList.take k ++ [s[k]] := by
  rw [List.take_succ_eq_append_getElem (by simpa using h)]; rfl
theorem all_step {s : ByteArray} {k : Nat} (h : k < s.size) (ha : (s.data.toList.take k).all letterB = true) (hc : letterB s[k] = true) : (s.data.toList.take (k + 1)).all letterB = true := by
  rw [take_snoc s k h, List.all_append, ha]
  simp [hc]
theorem all_fail {s : ByteArray} {k : Nat} (h : k < s.size) (hc : letterB s[k] = false) : strOk s = false := by
  have hm : s[k] ∈ s.data.toList := by
    have : s[k] = s.data.toList[k]'(by simpa using h) := rfl
    rw [this]
    exact List.getElem_mem _
  have hf : s.data.toList.all letterB = false := by
    rw [List.all_eq_false]
    exact ⟨_, hm, by simp [hc]⟩
  rw [strOk, hf]
  rfl
theorem all_done {s : ByteArray} {k : Nat} (h : ¬ k < s.size) (ha : (s.data.toList.take k).all letterB = true) : strOk s = decide (s.size ≤ 12) := by
  rw [List.take_of_length_le (by simp; exact Nat.not_lt.1 h)] at ha
  rw [strOk, ha]
  rfl
theorem letter_lo {c : UInt8} (h : (c.toNat : Int) < 97) : letterB c = false := by simp [letterB]; omega
theorem letter_hi {c : UInt8} (h : (122 : Int) < c.toNat) : letterB c = false := by simp [letterB]; omega
theorem letter_in {c : UInt8} (h : ¬ (c.toNat : Int) < 97) (h' : ¬ (122 : Int) < c.toNat) : letterB c = true := by simp [letterB]; omega

set_option maxHeartbeats 400000 in
theorem l1Str_any (s : ByteArray) (w : World) (hs : s.size < 281474976710656) :
    Calls Tryz.prog 23 #[.string s] w fun e w' => e = .returned (.bool (strOk s)) ∧ w' = w := by
  go_enter Tryz.func23, Tryz.ntmps23
  go_wp2_with fail
  go_loop [3] (fun i => ∃ k : Nat, k ≤ s.size ∧ i = .int .i64 k ∧ Hid ((s.data.toList.take k).all letterB = true)) (fun i => s.size - (intOf i).toNat)
  case atStart => exact ⟨0, Nat.zero_le _, rfl, rfl⟩
  case round =>
    obtain ⟨k, hk, rfl, ha⟩ := hrel
    by_cases hlt : k < s.size
    · by_cases h1 : (s[k].toNat : Int) < 97
      · have hf : Hid _ := all_fail hlt (letter_lo h1)
        go_wp2_with fail
        go_ret
        rw [hf.out]
        exact ⟨rfl, rfl⟩
      · by_cases h2 : (122 : Int) < s[k].toNat
        · have hf : Hid _ := all_fail hlt (letter_hi h2)
          go_wp2_with fail
          go_ret
          rw [hf.out]
          exact ⟨rfl, rfl⟩
        · have hf : Hid _ := all_step hlt ha.out (letter_in h1 h2)
          go_wp2_with fail
          go_round
          case rel => exact ⟨k + 1, by omega, by go_num, hf⟩
          case measure => simp [intOf]; omega
    · have hf : Hid _ := all_done hlt ha.out
      go_wp2_with fail
      go_ret
      rw [hf.out]
      exact ⟨by simp; omega, rfl⟩

def ltB (a b : ByteArray) : Bool := Op.bytesLess a.toList b.toList
def keysGo : Option ByteArray → List ByteArray → Bool
  | _, [] => true
  | none, s :: r => strOk s && keysGo (some s) r
  | some p, s :: r => strOk s && (ltB p s && keysGo (some s) r)
def keysB (ss : List ByteArray) : Bool := keysGo none ss
def prevOf (ss : List ByteArray) : Nat → Option ByteArray
  | 0 => none
  | k + 1 => ss[k]?

theorem keysGo_zero {ss : List ByteArray} {s : ByteArray} (h : ss[0]? = some s) : keysGo (prevOf ss 0) (ss.drop 0) = (strOk s && keysGo (prevOf ss 1) (ss.drop 1)) := by
  cases ss with
  | nil => simp at h
  | cons a r =>
    simp at h
    subst h
    rfl
theorem keysGo_succ {ss : List ByteArray} {k : Nat} {p s : ByteArray} (hp : ss[k]? = some p) (h : ss[k + 1]? = some s) :
    keysGo (prevOf ss (k + 1)) (ss.drop (k + 1)) = (strOk s && (ltB p s && keysGo (prevOf ss (k + 1 + 1)) (ss.drop (k + 1 + 1)))) := by
  obtain ⟨hk, e⟩ := List.getElem?_eq_some_iff.1 h
  rw [List.drop_eq_getElem_cons hk, e]
  simp only [prevOf, hp, h, keysGo]
theorem keysGo_pos {ss : List ByteArray} {k : Nat} {p s : ByteArray} (h0 : 0 < k) (hp : ss[k - 1]? = some p) (h : ss[k]? = some s) :
    keysGo (prevOf ss k) (ss.drop k) = (strOk s && (ltB p s && keysGo (prevOf ss (k + 1)) (ss.drop (k + 1)))) := by
  obtain ⟨j, rfl⟩ : ∃ j, k = j + 1 := ⟨k - 1, by omega⟩
  exact keysGo_succ hp h
theorem keysGo_bad {ss : List ByteArray} {k : Nat} {s : ByteArray} (h : ss[k]? = some s) (hs : strOk s = false) : keysGo (prevOf ss k) (ss.drop k) = false := by
  cases k with
  | zero => rw [keysGo_zero h, hs]; rfl
  | succ k =>
    obtain ⟨hk, e⟩ := List.getElem?_eq_some_iff.1 h
    rw [keysGo_succ (List.getElem?_eq_getElem (by omega)) h, hs]
    rfl
theorem bytesLess_irrefl : ∀ a : List UInt8, Op.bytesLess a a = false
  | [] => rfl
  | a :: x => by simp [Op.bytesLess, bytesLess_irrefl x]
theorem bytesLess_total : ∀ a b : List UInt8, (Op.bytesLess a b || a == b) = !Op.bytesLess b a
  | [], [] => rfl
  | [], _ :: _ => rfl
  | _ :: _, [] => rfl
  | a :: x, b :: y => by
    have ih := bytesLess_total x y
    rcases Nat.lt_trichotomy a.toNat b.toNat with h | h | h
    · have h1 : a < b := h
      have h2 : ¬ b < a := by rw [UInt8.lt_iff_toNat_lt]; omega
      have h3 : a ≠ b := by intro e; subst e; omega
      have h4 : b ≠ a := fun e => h3 e.symm
      simp [Op.bytesLess, h1, h2, h4]
    · have h1 : a = b := UInt8.toNat_inj.1 h
      subst h1
      have h2 : ¬ a < a := by rw [UInt8.lt_iff_toNat_lt]; omega
      simp only [Op.bytesLess, h2, decide_false, Bool.false_or, beq_self_eq_true, Bool.true_and, List.cons_beq_cons]
      exact ih
    · have h1 : b < a := h
      have h2 : ¬ a < b := by rw [UInt8.lt_iff_toNat_lt]; omega
      have h3 : a ≠ b := by intro e; subst e; omega
      simp [Op.bytesLess, h1, h2, h3]

set_option maxHeartbeats 1000000 in
theorem l1Keys_any (S : Nat → Prop) (ss : List ByteArray) (v : Value) (w : World) (hv : StrsAt S w v ss) :
    Calls Tryz.prog 58 #[v] w fun e w' => e = .returned (.bool (keysB ss)) ∧ ∃ n, w' = w.drewN n := by
  obtain ⟨a, cap, rfl, hlen⟩ := hv.open'
  go_enter Tryz.func58, Tryz.ntmps58
  go_wp2_with fail
  go_loopw [3] (fun i wr => ∃ k : Nat, k ≤ ss.length ∧ i = .int .i64 k ∧ Hid (∃ n, wr = w.drewN n) ∧ Hid (keysB ss = keysGo (prevOf ss k) (ss.drop k))) (fun i _ => ss.length - (intOf i).toNat)
  case atStart => exact ⟨0, Nat.zero_le _, rfl, ⟨0, rfl⟩, rfl⟩
  case round =>
    obtain ⟨k, hk, rfl, hwr, hfin⟩ := hrel
    have hvr : StrsAt S wr (.slice a ss.length cap) ss := by
      obtain ⟨n, rfl⟩ := hwr.out
      exact hv.same (fun _ _ => rfl)
    have hend : Hid (∀ m, ∃ n, wr.drewN m = w.drewN n) := by
      obtain ⟨n, hn⟩ := hwr.out
      intro m
      exact ⟨n + m, by rw [hn, World.drewN_drewN]⟩
    clear hv
    by_cases hkl : k < ss.length
    · obtain ⟨b, o, s, rfl, _, hs, hsz, hck⟩ := hvr.cell hkl
      have hki : (k : Int) < (ss.length : Int) := by omega
      cases h1 : strOk s with
      | false =>
        have hf : Hid (keysB ss = false) := hfin.out.trans (keysGo_bad hs h1)
        clear hfin hs hvr
        go_wp2_with fail
        go_quiet ((go_at_call 23; exact Calls.quiet_of_same (l1Str_any _ _ hsz)))
        go_wp2_with fail
        go_ret
        rw [hf.out]
        exact ⟨rfl, hend.out nq⟩
      | true =>
        by_cases h0 : k = 0
        · subst h0
          have hf : Hid (keysB ss = keysGo (prevOf ss 1) (ss.drop 1)) := by
            show keysB ss = _
            rw [hfin.out, keysGo_zero hs, h1]
            rfl
          clear hfin hs hvr
          rw [Nat.add_zero] at hck
          have hd : decide ((0 : Int) < ((0 : Nat) : Int)) = false := rfl
          go_wp2_with fail
          go_quiet ((go_at_call 23; exact Calls.quiet_of_same (l1Str_any _ _ hsz)))
          go_wp2_with fail
          go_roundw
          case rel => exact ⟨1, by omega, by go_num, hend.out nq, hf⟩
          case measure => simp [intOf]; omega
        · obtain ⟨b2, o2, s2, hbo, _, hs2, _, hck2⟩ := hvr.cell (k := k - 1) (by omega)
          cases hbo
          have hst : Hid (_ = _) := keysGo_pos (by omega) hs2 hs
          have hk0 : 0 < k := by omega
          have hwrap : IntKind.i64.wrap ((k : Int) - 1) = (k : Int) - 1 := IntWalk.i64_in _ (by omega)
          have hk1 : (1 : Int) ≤ (k : Int) := by omega
          have hk2 : (k : Int) - 1 < (ss.length : Int) := by omega
          have hto : ((k : Int) - 1).toNat = k - 1 := by omega
          cases h2 : ltB s2 s with
          | true =>
            have hf : Hid (keysB ss = keysGo (prevOf ss (k + 1)) (ss.drop (k + 1))) := by
              show keysB ss = _
              rw [hfin.out, hst.out, h1, h2]
              rfl
            have hcmp : (Op.bytesLess s.toList s2.toList || s.toList == s2.toList) = false := by
              rw [bytesLess_total]
              unfold ltB at h2
              rw [h2]
              rfl
            clear hfin hs hvr hst hs2
            go_wp2_with fail
            go_quiet ((go_at_call 23; exact Calls.quiet_of_same (l1Str_any _ _ hsz)))
            go_wp2_with fail
            exact ⟨⟨k + 1, by omega, by go_num, hend.out nq, hf⟩, by simp [intOf]; omega⟩
          | false =>
            have hf : Hid (keysB ss = false) := by
              show keysB ss = _
              rw [hfin.out, hst.out, h1, h2]
              rfl
            have hcmp : (Op.bytesLess s.toList s2.toList || s.toList == s2.toList) = true := by
              rw [bytesLess_total]
              unfold ltB at h2
              rw [h2]
              rfl
            clear hfin hs hvr hst hs2
            go_wp2_with fail
            go_quiet ((go_at_call 23; exact Calls.quiet_of_same (l1Str_any _ _ hsz)))
            go_wp2_with fail
            go_ret
            rw [hf.out]
            exact ⟨rfl, hend.out nq⟩
    · go_wp2_with fail
      go_ret
      rw [hfin.out, List.drop_eq_nil_of_le (by omega)]
      refine ⟨?_, hwr.out⟩
      cases prevOf ss k <;> rfl
end Go.Proofs.YtmkoeomkbbmoaaaGreatDoor
