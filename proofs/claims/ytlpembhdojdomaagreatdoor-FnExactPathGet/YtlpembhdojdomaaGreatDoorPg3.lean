/- Texts of the proof, put together by program: WFormA, WForm, WTo. -/
import Derived.Test.YtlpembhdojdomaaGreatDoorPg2
import Derived.Test.YtlpembhdojdomaaGreatDoorPg1
/- l1Form, l1Many, ValOk of the model. -/
namespace Go.Proofs.YtlpembhdojdomaaGreatDoor
open Go.RowKit Go.Deep

def headBad (kind num : Int) (str : ByteArray) (nk nl : Nat) (deep : Int) : Bool :=
  decide (deep < 1) || (kind != 3 && num != 0) || (kind != 4 && !(str.toList == [])) || (kind != 6 && decide (0 < nk)) || (decide (kind < 5) && decide (0 < nl))
def formT : (d : Nat) → Tr d → Int → Bool
  | 0, _, _ => false
  | d + 1, t, deep =>
    !headBad (Nd.kind t) (Nd.num t) (Nd.str t) (Nd.keys t).length (Nd.list t).length deep &&
    (if Nd.kind t = 0 ∨ Nd.kind t = 1 ∨ Nd.kind t = 2 then true
     else if Nd.kind t = 3 then decide (-1000000 ≤ Nd.num t ∧ Nd.num t ≤ 1000000)
     else if Nd.kind t = 4 then strOk (Nd.str t)
     else if Nd.kind t = 6 then (Nd.keys t).length == (Nd.list t).length && keysB (Nd.keys t) && (Nd.list t).all (fun x => formT d x (deep - 1))
     else if Nd.kind t = 5 then (Nd.list t).all (fun x => formT d x (deep - 1))
     else false)

/-- What l1Form does with trees of this depth. -/
def FormVal (d : Nat) : Prop := ∀ (S : Nat → Prop) (t : Tr d) (v : Value) (deep : Int) (w : World), ValAt S w d t v → Within S w → -1000 ≤ deep → deep ≤ 1000 →
    Calls Tryz.prog 59 #[v, .int .i64 deep] w fun e w' => e = .returned (.bool (formT d t deep)) ∧ Below w.heap.size w w'


/-- A part of no right make, or too deep: no. -/
theorem formT_bad {d : Nat} {kind num : Int} {str : ByteArray} {keys : List ByteArray} {list : List (Tr d)} {deep : Int} (h : headBad kind num str keys.length list.length deep = true) :
    formT (d + 1) (Nd.mk kind num str keys list) deep = false := by
  show (!headBad kind num str keys.length list.length deep && _) = false
  rw [h]
  rfl
theorem formT_good {d : Nat} {kind num : Int} {str : ByteArray} {keys : List ByteArray} {list : List (Tr d)} {deep : Int} (h : headBad kind num str keys.length list.length deep = false) :
    formT (d + 1) (Nd.mk kind num str keys list) deep =
    (if kind = 0 ∨ kind = 1 ∨ kind = 2 then true
     else if kind = 3 then decide (-1000000 ≤ num ∧ num ≤ 1000000)
     else if kind = 4 then strOk str
     else if kind = 6 then keys.length == list.length && keysB keys && list.all (fun x => formT d x (deep - 1))
     else if kind = 5 then list.all (fun x => formT d x (deep - 1))
     else false) := by
  show (!headBad kind num str keys.length list.length deep && _) = _
  rw [h]
  rfl

set_option maxHeartbeats 2000000 in
theorem l1Form_bad (d : Nat) (kind num : Int) (str : ByteArray) (keys : List ByteArray) (list : List (Tr d)) (deep : Int) (ak al : Option Addr) (ck cl : Nat) (w : World)
    (hkl : keys.length < 17592186044416) (hll : list.length < 3518437208883) (hbad : headBad kind num str keys.length list.length deep = true) :
    Calls Tryz.prog 59 #[.agg #[.int .i64 kind, .int .i64 num, .string str, .slice ak keys.length ck, .slice al list.length cl], .int .i64 deep] w
      fun e w' => e = .returned (.bool (formT (d + 1) (Nd.mk kind num str keys list) deep)) ∧ Below w.heap.size w w' := by
  rw [formT_bad hbad]
  have HB : Hid _ := hbad
  clear hbad
  by_cases hd : deep < 1
  · go_enter Tryz.func59, Tryz.ntmps59
    go_wp2_with fail
    go_ret
    exact ⟨rfl, below_alloc1 _ _⟩
  cases hB1 : (kind != 3)
  · obtain rfl : kind = 3 := by simpa using hB1
    clear hB1
    by_cases hs : str.toList = []
    · cases keys with
      | cons k ks =>
        go_enter Tryz.func59, Tryz.ntmps59
        go_wp2_with fail
        go_ret
        exact ⟨rfl, below_alloc1 _ _⟩
      | nil =>
        cases list with
        | cons x xs =>
          go_enter Tryz.func59, Tryz.ntmps59
          go_wp2_with fail
          go_ret
          exact ⟨rfl, below_alloc1 _ _⟩
        | nil => exact absurd HB.out (by simp [headBad, hs, hd])
    · go_enter Tryz.func59, Tryz.ntmps59
      go_wp2_with fail
      go_ret
      exact ⟨rfl, below_alloc1 _ _⟩
  · cases hn : (num != 0)
    case true =>
      go_enter Tryz.func59, Tryz.ntmps59
      go_wp2_with fail
      go_ret
      exact ⟨rfl, below_alloc1 _ _⟩
    case false =>
    obtain rfl : num = 0 := by simpa using hn
    clear hn
    cases hC1 : (kind != 4)
    · obtain rfl : kind = 4 := by simpa using hC1
      clear hB1 hC1
      cases keys with
      | cons k ks =>
        go_enter Tryz.func59, Tryz.ntmps59
        go_wp2_with fail
        go_ret
        exact ⟨rfl, below_alloc1 _ _⟩
      | nil =>
        cases list with
        | cons x xs =>
          go_enter Tryz.func59, Tryz.ntmps59
          go_wp2_with fail
          go_ret
          exact ⟨rfl, below_alloc1 _ _⟩
        | nil => exact absurd HB.out (by simp [headBad, hd])
    · by_cases hs : str.toList = []
      case neg =>
        go_enter Tryz.func59, Tryz.ntmps59
        go_wp2_with fail
        go_ret
        exact ⟨rfl, below_alloc1 _ _⟩
      case pos =>
      cases hD1 : (kind != 6)
      · obtain rfl : kind = 6 := by simpa using hD1
        exact absurd HB.out (by simp [headBad, hs, hd])
      · cases keys with
        | cons k ks =>
          go_enter Tryz.func59, Tryz.ntmps59
          go_wp2_with fail
          go_ret
          exact ⟨rfl, below_alloc1 _ _⟩
        | nil =>
          by_cases h5 : kind < 5
          · cases list with
            | cons x xs =>
              go_enter Tryz.func59, Tryz.ntmps59
              go_wp2_with fail
              go_ret
              exact ⟨rfl, below_alloc1 _ _⟩
            | nil => exact absurd HB.out (by simp [headBad, hs, hd])
          · exact absurd HB.out (by simp [headBad, hs, hd, h5])

/-- What is told of a part of right make. -/
theorem head_good {kind num : Int} {str : ByteArray} {nk nl : Nat} {deep : Int} (h : headBad kind num str nk nl deep = false) :
    ¬ deep < 1 ∧ (kind ≠ 3 → num = 0) ∧ (kind ≠ 4 → str.toList = []) ∧ (kind ≠ 6 → nk = 0) ∧ (kind < 5 → nl = 0) := by
  simp [headBad] at h
  obtain ⟨⟨⟨⟨a, b⟩, c⟩, e⟩, f⟩ := h
  refine ⟨by omega, b, c, fun h => by have := e h; omega, fun h => by have := f h; omega⟩

set_option maxHeartbeats 2000000 in
theorem l1Form_leaf (d : Nat) (kind num : Int) (str : ByteArray) (keys : List ByteArray) (list : List (Tr d)) (deep : Int) (ak al : Option Addr) (ck cl : Nat) (w : World)
    (hstr : str.size < 281474976710656) (hkl : keys.length < 17592186044416) (hll : list.length < 3518437208883) (hgood : headBad kind num str keys.length list.length deep = false) (h5 : kind ≠ 5) (h6 : kind ≠ 6) :
    Calls Tryz.prog 59 #[.agg #[.int .i64 kind, .int .i64 num, .string str, .slice ak keys.length ck, .slice al list.length cl], .int .i64 deep] w
      fun e w' => e = .returned (.bool (formT (d + 1) (Nd.mk kind num str keys list) deep)) ∧ Below w.heap.size w w' := by
  rw [formT_good hgood]
  obtain ⟨hd, hn, hs, hk, hl⟩ := head_good hgood
  clear hgood
  by_cases k3 : kind = 3
  · subst k3
    replace hs := hs (by decide)
    obtain rfl : keys = [] := List.eq_nil_of_length_eq_zero (hk (by decide))
    obtain rfl : list = [] := List.eq_nil_of_length_eq_zero (hl (by decide))
    clear hn hk hl h5 h6
    by_cases a : -1000000 ≤ num
    · by_cases b : num ≤ 1000000
      · go_enter Tryz.func59, Tryz.ntmps59
        go_wp2_with fail
        go_ret
        exact ⟨by simp, below_alloc1 _ _⟩
      · go_enter Tryz.func59, Tryz.ntmps59
        go_wp2_with fail
        go_ret
        exact ⟨by simp; omega, below_alloc1 _ _⟩
    · go_enter Tryz.func59, Tryz.ntmps59
      go_wp2_with fail
      go_ret
      exact ⟨by simp; omega, below_alloc1 _ _⟩
  obtain rfl : num = 0 := hn k3
  clear hn
  by_cases k4 : kind = 4
  · subst k4
    obtain rfl : keys = [] := List.eq_nil_of_length_eq_zero (hk (by decide))
    obtain rfl : list = [] := List.eq_nil_of_length_eq_zero (hl (by decide))
    clear hs hk hl h5 h6 k3
    go_enter Tryz.func59, Tryz.ntmps59
    go_wp2_with fail
    refine (l1Str_any str _ hstr).mono ?_
    rintro e w1 ⟨rfl, rfl⟩
    go_wp2_with fail
    go_ret
    exact ⟨rfl, below_alloc1 _ _⟩
  replace hs := hs k4
  obtain rfl : keys = [] := List.eq_nil_of_length_eq_zero (hk h6)
  have b3 : (kind == 3) = false := by simpa using k3
  have b4 : (kind == 4) = false := by simpa using k4
  have b5 : (kind == 5) = false := by simpa using h5
  have b6 : (kind == 6) = false := by simpa using h6
  clear hk
  by_cases k0 : kind = 0
  · subst k0
    obtain rfl : list = [] := List.eq_nil_of_length_eq_zero (hl (by decide))
    clear hl h5 h6 k3 k4 b3 b4 b5 b6
    go_enter Tryz.func59, Tryz.ntmps59
    go_wp2_with fail
    go_ret
    exact ⟨rfl, below_alloc1 _ _⟩
  by_cases k1 : kind = 1
  · subst k1
    obtain rfl : list = [] := List.eq_nil_of_length_eq_zero (hl (by decide))
    clear hl h5 h6 k3 k4 b3 b4 b5 b6 k0
    go_enter Tryz.func59, Tryz.ntmps59
    go_wp2_with fail
    go_ret
    exact ⟨rfl, below_alloc1 _ _⟩
  by_cases k2 : kind = 2
  · subst k2
    obtain rfl : list = [] := List.eq_nil_of_length_eq_zero (hl (by decide))
    clear hl h5 h6 k3 k4 b3 b4 b5 b6 k0 k1
    go_enter Tryz.func59, Tryz.ntmps59
    go_wp2_with fail
    go_ret
    exact ⟨rfl, below_alloc1 _ _⟩
  have b0 : (kind == 0) = false := by simpa using k0
  have b1 : (kind == 1) = false := by simpa using k1
  have b2 : (kind == 2) = false := by simpa using k2
  have q3 : (kind != 3) = true := by simpa using k3
  have q4 : (kind != 4) = true := by simpa using k4
  have q6 : (kind != 6) = true := by simpa using h6
  rw [if_neg (by omega), if_neg k3, if_neg k4, if_neg h6, if_neg h5]
  by_cases hlt : kind < 5
  · obtain rfl : list = [] := List.eq_nil_of_length_eq_zero (hl hlt)
    clear hl
    go_enter Tryz.func59, Tryz.ntmps59
    go_wp2_with fail
    go_ret
    exact ⟨rfl, below_alloc1 _ _⟩
  · clear hl
    go_enter Tryz.func59, Tryz.ntmps59
    go_wp2_with fail
    go_ret
    exact ⟨rfl, below_alloc1 _ _⟩
end Go.Proofs.YtlpembhdojdomaaGreatDoor

/- l1Form, l1Many, ValOk of the model: rows and maps. -/
namespace Go.Proofs.YtlpembhdojdomaaGreatDoor
open Go.RowKit Go.Deep

theorem all_drop {α : Type} (f : α → Bool) {xs : List α} {k : Nat} {x : α} (h : xs[k]? = some x) : (xs.drop k).all f = (f x && (xs.drop (k + 1)).all f) := by
  obtain ⟨hk, e⟩ := List.getElem?_eq_some_iff.1 h
  rw [List.drop_eq_getElem_cons hk, e, List.all_cons]

set_option maxHeartbeats 2000000 in
theorem l1Form_row (d : Nat) (ih : FormVal d) (S : Nat → Prop) (str : ByteArray) (list : List (Tr d)) (deep : Int) (ak al : Option Addr) (ck cl : Nat) (w : World)
    (hl : RowAt S w (ValAt S w d) (.slice al list.length cl) list) (hS : Within S w) (h0 : -1000 ≤ deep) (h1 : deep ≤ 1000) (hll : list.length < 3518437208883) (hd : ¬ deep < 1) (hs : str.toList = []) (FIN : Bool) (hfin : FIN = list.all (fun x => formT d x (deep - 1))) :
    Calls Tryz.prog 59 #[.agg #[.int .i64 5, .int .i64 0, .string str, .slice ak 0 ck, .slice al list.length cl], .int .i64 deep] w
      fun e w' => e = .returned (.bool FIN) ∧ Below w.heap.size w w' := by
  have hfin' : Hid (FIN = (list.drop 0).all (fun x => formT d x (deep - 1))) := hfin
  clear hfin
  have hfin := hfin'
  clear hfin'
  go_enter Tryz.func59, Tryz.ntmps59
  go_wp2_with fail
  obtain ⟨W0, hW⟩ : ∃ W0, W0 = w.alloc (.cells #[.int .i64 5, .int .i64 0, .string str, .slice ak 0 ck, .slice al list.length cl] 29) := ⟨_, rfl⟩
  rw [← hW]
  have k0 : Blk5 W0 w.heap.size 29 (.int .i64 5) (.int .i64 0) (.string str) (.slice ak 0 ck) (.slice al list.length cl) := by rw [hW]; exact Blk5.new _ _ _ _ _ _ _
  have hW0 : Below w.heap.size w W0 := by rw [hW]; exact below_alloc1 _ _
  clear hW
  go_loopw [5] (fun i wr => ∃ k : Nat, k ≤ list.length ∧ i = .int .i64 k ∧ Below W0.heap.size W0 wr ∧ Hid (FIN = (list.drop k).all (fun x => formT d x (deep - 1)))) (fun i _ => list.length - (intOf i).toNat)
  case atStart => exact ⟨0, Nat.zero_le _, rfl, Below.refl _ _, hfin⟩
  case round =>
    clear hfin
    obtain ⟨k, hkk, rfl, hbel, hfin⟩ := hrel
    have hc4 : wr.cell? ⟨w.heap.size, 4, none⟩ = some (.slice al list.length cl) := (k0.below hbel).cell.2.2.2.2
    have hbw := below_trans hW0 hbel
    by_cases hkl2 : k < list.length
    · obtain ⟨b, o, x, c0, c1, c2, c3, c4, rfl, _, hx, e0, e1, e2, e3, e4, hval⟩ := (hl.same (hS.same hbw)).cell hkl2
      have hst : Hid (_ = _) := all_drop (fun x => formT d x (deep - 1)) hx
      clear hx hl
      go_wp2_with fail
      refine (ih S x _ (deep - 1) wr hval (hS.later hbw.size) (by omega) (by omega)).mono ?_
      rintro e w1 ⟨rfl, hb1⟩
      have hb2 := below_trans hbel hb1
      have hb3 := below_trans hbw hb1
      clear hb1 hbel hval e0 e1 e2 e3 e4 hc4 hbw
      cases hf : formT d x (deep - 1) with
      | false =>
        have hfin2 : Hid (FIN = false) := by
          show FIN = false
          rw [hfin.out, hst.out, hf]
          rfl
        clear hfin hst
        go_wp2_with fail
        go_ret
        rw [hfin2.out]
        exact ⟨rfl, hb3⟩
      | true =>
        have hfin2 : Hid (FIN = (list.drop (k + 1)).all (fun x => formT d x (deep - 1))) := by
          show FIN = _
          rw [hfin.out, hst.out, hf]
          rfl
        clear hfin hst
        go_wp2_with fail
        go_roundw
        case rel => exact ⟨k + 1, by omega, by go_num, hb2, hfin2⟩
        case measure => simp [intOf]; omega
    · go_wp2_with fail
      go_ret
      rw [hfin.out, List.drop_eq_nil_of_le (by omega)]
      exact ⟨rfl, hbw⟩


set_option maxHeartbeats 2000000 in
theorem l1Form_map (d : Nat) (ih : FormVal d) (S : Nat → Prop) (str : ByteArray) (keys : List ByteArray) (list : List (Tr d)) (deep : Int) (ak al : Option Addr) (ck cl : Nat) (w : World)
    (hk : StrsAt S w (.slice ak keys.length ck) keys) (hl : RowAt S w (ValAt S w d) (.slice al list.length cl) list) (hS : Within S w) (h0 : -1000 ≤ deep) (h1 : deep ≤ 1000) (hll : list.length < 3518437208883) (hd : ¬ deep < 1) (hs : str.toList = []) (FIN : Bool)
    (hfin : FIN = (keys.length == list.length && keysB keys && list.all (fun x => formT d x (deep - 1)))) :
    Calls Tryz.prog 59 #[.agg #[.int .i64 6, .int .i64 0, .string str, .slice ak keys.length ck, .slice al list.length cl], .int .i64 deep] w
      fun e w' => e = .returned (.bool FIN) ∧ Below w.heap.size w w' := by
  cases hq : (keys.length == list.length) with
  | false =>
    have hfin2 : Hid (FIN = false) := by
      show FIN = false
      rw [hfin, hq]
      rfl
    have hq2 : ((keys.length : Int) != (list.length : Int)) = true := by
      rw [bne_iff_ne]
      have := beq_eq_false_iff_ne.1 hq
      omega
    clear hfin hq
    go_enter Tryz.func59, Tryz.ntmps59
    go_wp2_with fail
    go_ret
    rw [hfin2.out]
    exact ⟨rfl, below_alloc1 _ _⟩
  | true =>
  have hq2 : ((keys.length : Int) != (list.length : Int)) = false := by
    rw [bne_eq_false_iff_eq]
    have := beq_iff_eq.1 hq
    omega
  have hfin2 : Hid (FIN = (keysB keys && list.all (fun x => formT d x (deep - 1)))) := by
    show FIN = _
    rw [hfin, hq]
    rfl
  clear hfin hq
  go_enter Tryz.func59, Tryz.ntmps59
  go_wp2_with fail
  have hba := below_alloc1 w (.cells #[.int .i64 6, .int .i64 0, .string str, .slice ak keys.length ck, .slice al list.length cl] 29)
  refine (l1Keys_any S keys _ _ (hk.same (hS.same hba))).mono ?_
  rintro e w1 ⟨rfl, n, rfl⟩
  cases hkb : keysB keys with
  | false =>
    go_wp2_with fail
    go_ret
    rw [hfin2.out, hkb]
    exact ⟨rfl, hba.trans (below_drewN _ _ _)⟩
  | true =>
  have hfin : Hid (FIN = (list.drop 0).all (fun x => formT d x (deep - 1))) := by
    show FIN = _
    rw [hfin2.out, hkb]
    rfl
  clear hfin2 hkb
  go_wp2_with fail
  obtain ⟨W0, hW⟩ : ∃ W0, W0 = (w.alloc (.cells #[.int .i64 6, .int .i64 0, .string str, .slice ak keys.length ck, .slice al list.length cl] 29)).drewN n := ⟨_, rfl⟩
  rw [← hW]
  have k0 : Blk5 W0 w.heap.size 29 (.int .i64 6) (.int .i64 0) (.string str) (.slice ak keys.length ck) (.slice al list.length cl) := by rw [hW]; exact Blk5.new _ _ _ _ _ _ _
  have hW0 : Below w.heap.size w W0 := by rw [hW]; exact hba.trans (below_drewN _ _ _)
  clear hW hba
  go_loopw [5] (fun i wr => ∃ k : Nat, k ≤ list.length ∧ i = .int .i64 k ∧ Below W0.heap.size W0 wr ∧ Hid (FIN = (list.drop k).all (fun x => formT d x (deep - 1)))) (fun i _ => list.length - (intOf i).toNat)
  case atStart => exact ⟨0, Nat.zero_le _, rfl, Below.refl _ _, hfin⟩
  case round =>
    clear hfin
    obtain ⟨k, hkk, rfl, hbel, hfin⟩ := hrel
    have hc4 : wr.cell? ⟨w.heap.size, 4, none⟩ = some (.slice al list.length cl) := (k0.below hbel).cell.2.2.2.2
    have hbw := below_trans hW0 hbel
    by_cases hkl2 : k < list.length
    · obtain ⟨b, o, x, c0, c1, c2, c3, c4, rfl, _, hx, e0, e1, e2, e3, e4, hval⟩ := (hl.same (hS.same hbw)).cell hkl2
      have hst : Hid (_ = _) := all_drop (fun x => formT d x (deep - 1)) hx
      clear hx hl
      go_wp2_with fail
      refine (ih S x _ (deep - 1) wr hval (hS.later hbw.size) (by omega) (by omega)).mono ?_
      rintro e w1 ⟨rfl, hb1⟩
      have hb2 := below_trans hbel hb1
      have hb3 := below_trans hbw hb1
      clear hb1 hbel hval e0 e1 e2 e3 e4 hc4 hbw
      cases hf : formT d x (deep - 1) with
      | false =>
        have hfin2 : Hid (FIN = false) := by
          show FIN = false
          rw [hfin.out, hst.out, hf]
          rfl
        clear hfin hst
        go_wp2_with fail
        go_ret
        rw [hfin2.out]
        exact ⟨rfl, hb3⟩
      | true =>
        have hfin2 : Hid (FIN = (list.drop (k + 1)).all (fun x => formT d x (deep - 1))) := by
          show FIN = _
          rw [hfin.out, hst.out, hf]
          rfl
        clear hfin hst
        go_wp2_with fail
        go_roundw
        case rel => exact ⟨k + 1, by omega, by go_num, hb2, hfin2⟩
        case measure => simp [intOf]; omega
    · go_wp2_with fail
      go_ret
      rw [hfin.out, List.drop_eq_nil_of_le (by omega)]
      exact ⟨rfl, hbw⟩


theorem l1Form_any : ∀ (d : Nat), FormVal d
  | 0 => fun _ _ _ _ _ h => h.elim
  | d + 1 => by
    intro S t v deep w hv hS h0 h1
    have ih := l1Form_any d
    obtain ⟨kind, num, str, keys, list⟩ := t
    obtain ⟨vk, vl, rfl, i1, i2, i3, hk, hl⟩ := hv
    obtain ⟨ak, ck, rfl, hkl⟩ := hk.open'
    obtain ⟨al, cl, rfl, hll⟩ := hl.open'
    cases hb : headBad kind num str keys.length list.length deep with
    | true => exact l1Form_bad d kind num str keys list deep ak al ck cl w hkl hll hb
    | false =>
      by_cases h5 : kind = 5
      · have hg := formT_good (d := d) hb
        obtain ⟨g1, g2, g3, g4, g5⟩ := head_good hb
        subst h5
        obtain rfl : num = 0 := g2 (by decide)
        obtain rfl : keys = [] := List.eq_nil_of_length_eq_zero (g4 (by decide))
        exact l1Form_row d ih S str list deep ak al ck cl w hl hS h0 h1 hll g1 (g3 (by decide)) _ (by rw [hg]; simp)
      · by_cases h6 : kind = 6
        · have hg := formT_good (d := d) hb
          obtain ⟨g1, g2, g3, g4, g5⟩ := head_good hb
          subst h6
          obtain rfl : num = 0 := g2 (by decide)
          exact l1Form_map d ih S str keys list deep ak al ck cl w hk hl hS h0 h1 hll g1 (g3 (by decide)) _ (by rw [hg]; simp)
        · exact l1Form_leaf d kind num str keys list deep ak al ck cl w i3 hkl hll hb h5 h6
end Go.Proofs.YtlpembhdojdomaaGreatDoor

/- toStringS, toVal, toValS: a copy of a tree, in new memory. -/
namespace Go.Proofs.YtlpembhdojdomaaGreatDoor
open Go.RowKit Go.Deep

theorem Tryz.infoStr : (Tryz.prog.info? 9).map (fun i => (i.zero, i.size, i.bytes)) = some (some (.string ByteArray.empty), 1, 16) := by kernel_rfl

/-- The text at a place, or none. -/
def strTo (ss : List ByteArray) (k j : Nat) : Value := if j < k then .string (ss.getD j ByteArray.empty) else .string ByteArray.empty

theorem strTo_set (ss : List ByteArray) (k : Nat) {s : ByteArray} (hs : ss[k]? = some s) (j : Nat) : (if j = k then Value.string s else strTo ss k j) = strTo ss (k + 1) j := by
  unfold strTo
  by_cases e : j = k
  · subst e
    simp [hs]
  · by_cases h : j < k
    · simp [e, h, Nat.lt_succ_of_lt h]
    · simp [e, h, show ¬ j < k + 1 by omega]

set_option maxHeartbeats 400000 in
theorem toStringS_any (S : Nat → Prop) (ss : List ByteArray) (v : Value) (w : World) (hv : StrsAt S w v ss) (hS : Within S w) :
    Calls Tryz.prog 33 #[v] w fun e w' => ∃ u, e = .returned u ∧ StrsAt (Fresh w w') w' u ss ∧ Below w.heap.size w w' := by
  obtain ⟨a, cap, rfl, hlen⟩ := hv.open'
  have hmk := run_make_row' (P := Tryz.prog) 22 9 (.string ByteArray.empty) 16 Tryz.underlying22 Tryz.infoStr rfl .i64 .i64 ss.length (by omega) (by omega)
  have hb0 : Below w.heap.size w (w.alloc (.cells (madeCells #[.string ByteArray.empty] ss.length) 9)) := below_alloc1 _ _
  have hr0 := World.rowIs_made w (.string ByteArray.empty) ss.length 9
  go_enter Tryz.func33, Tryz.ntmps33
  go_wp2_with fail
  go_loopw [4] (fun i wr => ∃ (k : Nat), k ≤ ss.length ∧ i = .int .i64 k ∧ wr.rowIs w.heap.size 9 ss.length (strTo ss k) ∧ Below w.heap.size w wr) (fun i _ => ss.length - (intOf i).toNat)
  case atStart => exact ⟨0, Nat.zero_le _, rfl, hr0.congr (fun i _ => rfl), hb0⟩
  case round =>
    clear hb0 hr0 hmk
    obtain ⟨k, hk, rfl, hrow, hbel⟩ := hrel
    by_cases hkl : k < ss.length
    · obtain ⟨b, o, s, rfl, hb, hs, hsb, hck⟩ := (hv.same (hS.same hbel)).cell hkl
      have hc1 := hrow.cell hkl
      have hf1 := hrow.frozen k
      have hrow' := (hrow.set k (.string s)).congr (fun j _ => strTo_set ss k hs j)
      have hbel' := hbel.setCell (p := ⟨w.heap.size, k, none⟩) (Nat.le_refl _) (.string s)
      have HR := And.intro hrow' hbel'
      have HR' : Hid _ := HR
      clear hrow' hbel' HR hv hs hrow hbel
      go_wp2_with fail
      go_roundw
      case rel => exact ⟨k + 1, by omega, by go_num, HR'.out.1, HR'.out.2⟩
      case measure => simp [intOf]; omega
    · go_wp2_with fail
      go_ret
      refine ⟨_, rfl, ⟨hlen, ?_, _, _, rfl, ?_⟩, hbel⟩
      · obtain ⟨_, h2, _⟩ := hv
        exact h2
      · refine Or.inr ⟨w.heap.size, 0, ⟨Nat.le_refl _, hrow.lt⟩, rfl, fun i s hi => ?_⟩
        obtain ⟨hi', e⟩ := List.getElem?_eq_some_iff.1 hi
        have := hrow.cell hi'
        rw [Nat.zero_add, this, strTo, if_pos (by omega)]
        simp [hi]

/-- Five cells in a row written. -/
def put5 (f : Nat → Value) (i : Nat) (v0 v1 v2 v3 v4 : Value) (j : Nat) : Value :=
  if j = i then v0 else if j = i + 1 then v1 else if j = i + 2 then v2 else if j = i + 3 then v3 else if j = i + 4 then v4 else f j
def set5 (w : World) (b i : Nat) (v0 v1 v2 v3 v4 : Value) : World :=
  ((((w.setCell ⟨b, i, none⟩ v0).setCell ⟨b, i + 1, none⟩ v1).setCell ⟨b, i + 2, none⟩ v2).setCell ⟨b, i + 3, none⟩ v3).setCell ⟨b, i + 4, none⟩ v4
theorem rowIs_set5 {w : World} {b : Nat} {t : TypeId} {n : Nat} {f : Nat → Value} (h : w.rowIs b t n f) (i : Nat) (v0 v1 v2 v3 v4 : Value) :
    (set5 w b i v0 v1 v2 v3 v4).rowIs b t n (put5 f i v0 v1 v2 v3 v4) := by
  refine (((((h.set i v0).set (i + 1) v1).set (i + 2) v2).set (i + 3) v3).set (i + 4) v4).congr (fun j _ => ?_)
  unfold put5
  by_cases e0 : j = i
  · simp [e0]
  by_cases e1 : j = i + 1
  · simp [e1]
  by_cases e2 : j = i + 2
  · simp [e2]
  by_cases e3 : j = i + 3
  · simp [e3]
  simp [e0, e1, e2, e3]
theorem set5_block (w : World) (b i : Nat) (v0 v1 v2 v3 v4 : Value) (k : Nat) (h : k ≠ b) : (set5 w b i v0 v1 v2 v3 v4).heap[k]? = w.heap[k]? := by
  unfold set5
  rw [Below.heap_setCell _ _ _ _ h, Below.heap_setCell _ _ _ _ h, Below.heap_setCell _ _ _ _ h, Below.heap_setCell _ _ _ _ h, Below.heap_setCell _ _ _ _ h]
theorem set5_size (w : World) (b i : Nat) (v0 v1 v2 v3 v4 : Value) : (set5 w b i v0 v1 v2 v3 v4).heap.size = w.heap.size := by
  simp [set5, World.setCell]
theorem below_set5 {B : Nat} {a w : World} (h : Below B a w) {b : Nat} (hb : B ≤ b) (i : Nat) (v0 v1 v2 v3 v4 : Value) : Below B a (set5 w b i v0 v1 v2 v3 v4) :=
  ((((h.setCell (p := ⟨b, i, none⟩) hb v0).setCell (p := ⟨b, i + 1, none⟩) hb v1).setCell (p := ⟨b, i + 2, none⟩) hb v2).setCell (p := ⟨b, i + 3, none⟩) hb v3).setCell (p := ⟨b, i + 4, none⟩) hb v4
theorem put5_at (f : Nat → Value) (i : Nat) (v0 v1 v2 v3 v4 : Value) :
    put5 f i v0 v1 v2 v3 v4 i = v0 ∧ put5 f i v0 v1 v2 v3 v4 (i + 1) = v1 ∧ put5 f i v0 v1 v2 v3 v4 (i + 2) = v2 ∧ put5 f i v0 v1 v2 v3 v4 (i + 3) = v3 ∧ put5 f i v0 v1 v2 v3 v4 (i + 4) = v4 := by
  simp [put5]
theorem put5_off (f : Nat → Value) (i : Nat) (v0 v1 v2 v3 v4 : Value) (j : Nat) (h : j < i ∨ i + 4 < j) : put5 f i v0 v1 v2 v3 v4 j = f j := by
  unfold put5
  rw [if_neg (by omega), if_neg (by omega), if_neg (by omega), if_neg (by omega), if_neg (by omega)]

/-- The blocks behind block N that are in w. -/
def After (N : Nat) (w : World) (b : Nat) : Prop := N < b ∧ b < w.heap.size

/-- The first k things of a row that is being filled. -/
def Filled {d : Nat} (N T n : Nat) (xs : List (Tr d)) (w : World) (k : Nat) (f : Nat → Value) : Prop :=
  w.rowIs N T n f ∧ ∀ j x, j < k → xs[j]? = some x → ValAt (After N w) w d x (.agg #[f (j * 5), f (j * 5 + 1), f (j * 5 + 2), f (j * 5 + 3), f (j * 5 + 4)])

theorem Filled.step {d N T n : Nat} {xs : List (Tr d)} {wr w1 : World} {k : Nat} {f : Nat → Value} {x : Tr d} {v0 v1 v2 v3 v4 : Value} (h : Filled N T n xs wr k f) (hb : Below wr.heap.size wr w1)
    (hx : xs[k]? = some x) (hu : ValAt (Fresh wr w1) w1 d x (.agg #[v0, v1, v2, v3, v4])) :
    Filled N T n xs (set5 w1 N (k * 5) v0 v1 v2 v3 v4) (k + 1) (put5 f (k * 5) v0 v1 v2 v3 v4) := by
  obtain ⟨hrow, hv⟩ := h
  have hN := hrow.lt
  have hs2 : Same (After N w1) w1 (set5 w1 N (k * 5) v0 v1 v2 v3 v4) := fun b hb => set5_block _ _ _ _ _ _ _ _ _ (by have := hb.1; omega)
  have hA : ∀ b, After N w1 b → After N (set5 w1 N (k * 5) v0 v1 v2 v3 v4) b := fun b hb => ⟨hb.1, by rw [set5_size]; exact hb.2⟩
  refine ⟨rowIs_set5 (hrow.of_block (hb.block N hN)) _ _ _ _ _ _, fun j y hj hy => ?_⟩
  by_cases e : j = k
  · subst e
    rw [hx] at hy
    cases hy
    obtain ⟨p0, p1, p2, p3, p4⟩ := put5_at f (j * 5) v0 v1 v2 v3 v4
    rw [p0, p1, p2, p3, p4]
    refine ValAt.moved hs2 hA d x _ (hu.mono (fun b hb => ⟨?_, hb.2⟩))
    have := hb.1
    omega
  · rw [put5_off _ _ _ _ _ _ _ _ (by omega), put5_off _ _ _ _ _ _ _ _ (by omega), put5_off _ _ _ _ _ _ _ _ (by omega), put5_off _ _ _ _ _ _ _ _ (by omega), put5_off _ _ _ _ _ _ _ _ (by omega)]
    have h1 := hv j y (by omega) hy
    have h2 : ValAt (After N w1) w1 d y (.agg #[f (j * 5), f (j * 5 + 1), f (j * 5 + 2), f (j * 5 + 3), f (j * 5 + 4)]) :=
      ValAt.moved (fun b hS => hb.block b hS.2) (fun b hS => ⟨hS.1, Nat.lt_of_lt_of_le hS.2 hb.size⟩) d y _ h1
    exact ValAt.moved hs2 hA d y _ h2

/-- A tree's five cells. -/
theorem ValAt.shape {S : Nat → Prop} {w : World} {d : Nat} {t : Tr d} {u : Value} (h : ValAt S w d t u) :
    ∃ k n s ak lk ck al ll cl, u = .agg #[.int .i64 k, .int .i64 n, .string s, .slice ak lk ck, .slice al ll cl] := by
  cases d with
  | zero => exact h.elim
  | succ d =>
    obtain ⟨vk, vl, hv, i1, i2, i3, hk, hl⟩ := h
    obtain ⟨ak, ck, rfl, _⟩ := hk.open'
    obtain ⟨al, cl, rfl, _⟩ := hl.open'
    exact ⟨_, _, _, _, _, _, _, _, _, hv⟩

/-- What toVal does with trees of this depth. -/
def ToVal (d : Nat) : Prop := ∀ (S : Nat → Prop) (t : Tr d) (v : Value) (w : World), ValAt S w d t v → Within S w →
    Calls Tryz.prog 10 #[v] w fun e w' => ∃ u, e = .returned u ∧ ValAt (Fresh w w') w' d t u ∧ Below w.heap.size w w'

def zeroVal : Value := .agg #[.int .i64 0, .int .i64 0, .string ByteArray.empty, .slice none 0 0, .slice none 0 0]
def zero5 : Array Value := #[.int .i64 0, .int .i64 0, .string ByteArray.empty, .slice none 0 0, .slice none 0 0]
theorem Tryz.infoVal : (Tryz.prog.info? 29).map (fun i => (i.zero, i.size, i.bytes)) = some (some zeroVal, 5, 80) := by kernel_rfl

theorem run_make5 (n : Nat) (hn : n < 3518437208883) (w : World) :
    (Instr.makeSlice 27 (.int .i64 (n : Int)) (.int .i64 (n : Int))).run Tryz.prog w =
      .ok (.slice (some ⟨w.heap.size, 0, none⟩) n n) (w.alloc (.cells (madeCells zero5 (n * 5)) 29)) := by
  obtain ⟨i, hi, hzz⟩ := Option.map_eq_some_iff.1 Tryz.infoVal
  simp only [Prod.mk.injEq] at hzz
  obtain ⟨hz, hs, hb⟩ := hzz
  have hr := run_make (P := Tryz.prog) w 27 29 i zeroVal Tryz.underlying27 hi hz .i64 .i64 n n (by omega) (Int.le_refl _) (by rw [hb]; omega) (by omega)
  rw [show zeroVal.cells = zero5 from rfl] at hr
  simpa [hs] using hr

set_option maxHeartbeats 1000000 in
theorem toValS_any (d : Nat) (H : ToVal d) (S : Nat → Prop) (xs : List (Tr d)) (v : Value) (w : World) (hv : RowAt S w (ValAt S w d) v xs) (hS : Within S w) :
    Calls Tryz.prog 34 #[v] w fun e w' => ∃ u, e = .returned u ∧ RowAt (Fresh w w') w' (ValAt (Fresh w w') w' d) u xs ∧ Below w.heap.size w w' := by
  obtain ⟨a, cap, rfl, hlen⟩ := hv.open'
  have hmk := run_make5 xs.length hlen
  have hb0 : Below w.heap.size w (w.alloc (.cells (madeCells zero5 (xs.length * 5)) 29)) := below_alloc1 _ _
  have hr0 : Filled (d := d) w.heap.size 29 (xs.length * 5) xs (w.alloc (.cells (madeCells zero5 (xs.length * 5)) 29)) 0 (fun j => (madeCells zero5 (xs.length * 5)).getD j undef) := by
    refine ⟨?_, fun j x hj => by omega⟩
    have := World.rowIs_alloc w (madeCells zero5 (xs.length * 5)) 29 (fun j => (madeCells zero5 (xs.length * 5)).getD j undef) (fun i hi => by simp [hi])
    rwa [size_madeCells] at this
  have HB : Hid _ := And.intro hb0 hr0
  clear hb0 hr0
  go_enter Tryz.func34, Tryz.ntmps34
  go_wp2_with fail
  go_loopw [4] (fun i wr => ∃ (k : Nat) (f : Nat → Value), k ≤ xs.length ∧ i = .int .i64 k ∧ Filled w.heap.size 29 (xs.length * 5) xs wr k f ∧ Below w.heap.size w wr) (fun i _ => xs.length - (intOf i).toNat)
  case atStart => exact ⟨0, _, Nat.zero_le _, rfl, HB.out.2, HB.out.1⟩
  case round =>
    clear HB hmk
    obtain ⟨k, f, hk, rfl, hrow, hbel⟩ := hrel
    by_cases hkl : k < xs.length
    · obtain ⟨b, o, x, c0, c1, c2, c3, c4, rfl, hb, hx, e0, e1, e2, e3, e4, hval⟩ := (hv.same (hS.same hbel)).cell hkl
      go_wp2_with fail
      refine (H S x _ wr hval (hS.later hbel.size)).mono ?_
      rintro e w1 ⟨u, rfl, hu, hb1⟩
      obtain ⟨v0, v1, v2, v3, v4, v5, v6, v7, v8, rfl⟩ := hu.shape
      have hrow' := hrow.step hb1 hx hu
      have hbel' := below_set5 (hbel.trans (hb1.mono hbel.size)) (Nat.le_refl w.heap.size) (k * 5) (.int .i64 v0) (.int .i64 v1) (.string v2) (.slice v3 v4 v5) (.slice v6 v7 v8)
      have HR : Hid _ := And.intro hrow' hbel'
      have hr1 := hrow.1.of_block (hb1.block w.heap.size hrow.1.lt)
      have g0 := hr1.cell (i := k * 5) (by omega)
      have g1 := hr1.cell (i := k * 5 + 1) (by omega)
      have g2 := hr1.cell (i := k * 5 + 2) (by omega)
      have g3 := hr1.cell (i := k * 5 + 3) (by omega)
      have g4 := hr1.cell (i := k * 5 + 4) (by omega)
      have z0 := hr1.frozen (k * 5)
      have z1 := hr1.frozen (k * 5 + 1)
      have z2 := hr1.frozen (k * 5 + 2)
      have z3 := hr1.frozen (k * 5 + 3)
      have z4 := hr1.frozen (k * 5 + 4)
      clear hrow' hbel' hr1 hrow hbel hb1 hu hval e0 e1 e2 e3 e4 hv hx
      go_wp2_with fail
      go_roundw
      case rel => exact ⟨k + 1, _, by omega, by go_num, HR.out.1, HR.out.2⟩
      case measure => simp [intOf]; omega
    · go_wp2_with fail
      go_ret
      obtain rfl : k = xs.length := by omega
      refine ⟨_, rfl, ⟨hlen, _, _, rfl, ?_⟩, hbel⟩
      refine Or.inr ⟨w.heap.size, 0, ⟨Nat.le_refl _, hrow.1.lt⟩, rfl, fun i x hi => ?_⟩
      obtain ⟨hi', e⟩ := List.getElem?_eq_some_iff.1 hi
      rw [Nat.zero_add]
      exact ⟨_, _, _, _, _, hrow.1.cell (by omega), hrow.1.cell (by omega), hrow.1.cell (by omega), hrow.1.cell (by omega), hrow.1.cell (by omega),
        (hrow.2 i x hi' hi).mono (fun b hb => ⟨Nat.le_of_lt hb.1, hb.2⟩)⟩

set_option maxHeartbeats 1000000 in
theorem toVal_any : ∀ (d : Nat), ToVal d
  | 0 => fun _ _ _ _ h => h.elim
  | d + 1 => by
    intro S t v w hv hS
    have ih := toVal_any d
    obtain ⟨vk, vl, rfl, i1, i2, i3, hk, hl⟩ := hv
    obtain ⟨ak, ck, rfl, hkl⟩ := hk.open'
    obtain ⟨al, cl, rfl, hll⟩ := hl.open'
    go_enter Tryz.func10, Tryz.ntmps10
    go_wp2_with fail
    obtain ⟨k0, k1, k2, hb0, hsz⟩ := laid3 w 25 29 29 (.int .i64 t.kind) (.int .i64 t.num) (.string t.str) (.slice ak t.keys.length ck) (.slice al t.list.length cl)
      (.int .i64 0) (.int .i64 0) (.string { data := #[] }) (.slice none 0 0) (.slice none 0 0) (.int .i64 t.kind) (.int .i64 t.num) (.string t.str) (.slice none 0 0) (.slice none 0 0)
    refine (toStringS_any S t.keys _ _ (hk.same (hS.same hb0)) (hS.later hb0.size)).mono ?_
    rintro e w1 ⟨u1, rfl, hu1, hb1⟩
    obtain ⟨a1, c1, rfl, _⟩ := hu1.open'
    replace k0 := k0.below hb1
    replace k1 := k1.below hb1
    replace k2 := k2.below hb1
    have hu1' := hu1.mono (S' := After (w.heap.size + 2) w1) (fun b hb => ⟨by have := hb.1; omega, hb.2⟩)
    replace hb1 := below_trans hb0 hb1
    clear hb0 hsz hu1
    obtain ⟨_, _, _, _, z0⟩ := k0.cell
    obtain ⟨x0, x1, x2, x3, x4⟩ := k2.cell
    have x5 := k2.frozen 3
    have k0' := k0.other (a := ⟨w.heap.size + 1 + 1, 3, none⟩) (.slice a1 t.keys.length c1) (by simp; omega)
    have k1' := k1.other (a := ⟨w.heap.size + 1 + 1, 3, none⟩) (.slice a1 t.keys.length c1) (by simp)
    have k2' := k2.set3 (.slice a1 t.keys.length c1)
    go_wp2_with fail
    clear z0 x0 x1 x2 x3 x4 x5 k0 k1 k2 k0'
    have hs1 : Same (After (w.heap.size + 2) w1) w1 (w1.setCell ⟨w.heap.size + 1 + 1, 3, none⟩ (.slice a1 t.keys.length c1)) := fun b hb => Below.heap_setCell _ _ _ _ (by have := hb.1; show b ≠ w.heap.size + 1 + 1; omega)
    have hb2 := hb1.setCell (p := ⟨w.heap.size + 1 + 1, 3, none⟩) (by show w.heap.size ≤ w.heap.size + 1 + 1; omega) (.slice a1 t.keys.length c1)
    have hu2 := hu1'.same hs1
    have hz2 := size_setCell1 w1 ⟨w.heap.size + 1 + 1, 3, none⟩ (.slice a1 t.keys.length c1)
    refine (toValS_any d ih S t.list _ _ (hl.same (hS.same hb2)) (hS.later hb2.size)).mono ?_
    clear hb1 hu1' hs1
    rintro e w3 ⟨u3, rfl, hu3, hb3⟩
    obtain ⟨a3, c3, rfl, _⟩ := hu3.open'
    have hk2 := k2'.lt
    replace k1 := k1'.below hb3
    replace k2 := k2'.below hb3
    clear k1' k2'
    rw [hz2] at hk2
    have hu2' : StrsAt (After (w.heap.size + 2) w3) w3 (.slice a1 t.keys.length c1) t.keys := hu2.moved (fun b hb => hb3.block b (by rw [hz2]; exact hb.2)) (fun b hb => ⟨hb.1, Nat.lt_of_lt_of_le (by rw [hz2]; exact hb.2) hb3.size⟩)
    have hu3' := hu3.mono (S' := After (w.heap.size + 2) w3) (fun b hb => ⟨by have h1 := hb.1; rw [hz2] at h1; omega, hb.2⟩)
    have hb4 := below_trans hb2 hb3
    have hw3 := hb4.size
    clear hu2 hu3 hb2 hb3 hz2
    obtain ⟨y0, y1, y2, y3, y4⟩ := k1.cell
    have yf := k1.frozen
    obtain ⟨x0, x1, x2, x3, x4⟩ := k2.cell
    have xf := k2.frozen 4
    have hend : ∀ wF, wF = set5 (w3.setCell ⟨w.heap.size + 1 + 1, 4, none⟩ (.slice a3 t.list.length c3)) (w.heap.size + 1) 0 (.int .i64 t.kind) (.int .i64 t.num) (.string t.str) (.slice a1 t.keys.length c1) (.slice a3 t.list.length c3) →
        ValAt (Fresh w wF) wF (d + 1) t (.agg #[.int .i64 t.kind, .int .i64 t.num, .string t.str, .slice a1 t.keys.length c1, .slice a3 t.list.length c3]) ∧ Below w.heap.size w wF := by
      intro wF hF
      have hs : Same (After (w.heap.size + 2) w3) w3 wF := fun b hb => by
        have := hb.1
        rw [hF, set5_block _ _ _ _ _ _ _ _ _ (by omega), Below.heap_setCell _ _ _ _ (by show b ≠ w.heap.size + 1 + 1; omega)]
      have hA : ∀ b, After (w.heap.size + 2) w3 b → Fresh w wF b := fun b hb => ⟨by have := hb.1; omega, by rw [hF, set5_size, size_setCell1]; exact hb.2⟩
      refine ⟨⟨_, _, rfl, i1, i2, i3, hu2'.moved hs hA, hu3'.moved hs hA (fun x u hx => ValAt.moved hs hA d x u hx)⟩, ?_⟩
      rw [hF]
      exact below_set5 (hb4.setCell (by show w.heap.size ≤ w.heap.size + 1 + 1; omega) _) (by omega) _ _ _ _ _ _
    have HE : Hid _ := hend
    clear hend k1 k2 hu2' hu3' hb4 hk hl
    go_wp2_with fail
    refine bodyPost_ret (v := .agg #[.int .i64 t.kind, .int .i64 t.num, .string t.str, .slice a1 t.keys.length c1, .slice a3 t.list.length c3]) (by simp [results, Tryz.results10, go_sem, y0, y1, y2, y3, y4]) rfl ⟨_, rfl, HE.out _ rfl⟩
end Go.Proofs.YtlpembhdojdomaaGreatDoor
