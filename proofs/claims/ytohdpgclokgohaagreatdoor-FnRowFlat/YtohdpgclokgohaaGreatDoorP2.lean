/- Texts of the proof, put together by program: WFormA. -/
import Derived.Test.YtohdpgclokgohaaGreatDoorP1
/- l1Form, l1Many, ValOk of the model. -/
namespace Go.Proofs.YtohdpgclokgohaaGreatDoor
open Go.RowKit Go.Deep

def headBad (kind num : Int) (str : ByteArray) (nk nl : Nat) (deep : Int) : Bool :=
  decide (deep < 1) || (kind != 3 && num != 0) || (kind != 4 && !(str.toList == [])) || (kind != 6 && decide (0 < nk)) || (decide (kind < 5) && decide (0 < nl))
def formT : (d : Nat) → Tr d → Int → Bool
  | 0, _, _ => false
  | d + 1, t, deep =>
    !headBad (Nd.kind t) (Nd.num t) (Nd.str t) (Nd.keys t).length (Nd.list t).length deep &&
    (if Nd.kind t = 0 ∨ Nd.kind t = 1 ∨ Nd.kind t = 2 then true
     else if Nd.kind t = 3 then decide (-1000000 ≤ Nd.num t ∧ Nd.num t ≤ 1000000)
     else if Nd.kind t = 4 then strOk (Nd.str t)
     else if Nd.kind t = 6 then (Nd.keys t).length == (Nd.list t).length && keysB (Nd.keys t) && (Nd.list t).all (fun x => formT d x (deep - 1))
     else if Nd.kind t = 5 then (Nd.list t).all (fun x => formT d x (deep - 1))
     else false)

/-- What l1Form does with trees of this depth. -/
def FormVal (d : Nat) : Prop := ∀ (S : Nat → Prop) (t : Tr d) (v : Value) (deep : Int) (w : World), ValAt S w d t v → Within S w → -1000 ≤ deep → deep ≤ 1000 →
    Calls Tryz.prog 62 #[v, .int .i64 deep] w fun e w' => e = .returned (.bool (formT d t deep)) ∧ Below w.heap.size w w'


/-- A part of no right make, or too deep: no. -/
theorem formT_bad {d : Nat} {kind num : Int} {str : ByteArray} {keys : List ByteArray} {list : List (Tr d)} {deep : Int} (h : headBad kind num str keys.length list.length deep = true) :
    formT (d + 1) (Nd.mk kind num str keys list) deep = false := by
  show (!headBad kind num str keys.length list.length deep && _) = false
  rw [h]
  rfl
theorem formT_good {d : Nat} {kind num : Int} {str : ByteArray} {keys : List ByteArray} {list : List (Tr d)} {deep : Int} (h : headBad kind num str keys.length list.length deep = false) :
    formT (d + 1) (Nd.mk kind num str keys list) deep =
    (if kind = 0 ∨ kind = 1 ∨ kind = 2 then true
     else if kind = 3 then decide (-1000000 ≤ num ∧ num ≤ 1000000)
     else if kind = 4 then strOk str
     else if kind = 6 then keys.length == list.length && keysB keys && list.all (fun x => formT d x (deep - 1))
     else if kind = 5 then list.all (fun x => formT d x (deep - 1))
     else false) := by
  show (!headBad kind num str keys.length list.length deep && _) = _
  rw [h]
  rfl

set_option maxHeartbeats 2000000 in
theorem l1Form_bad (d : Nat) (kind num : Int) (str : ByteArray) (keys : List ByteArray) (list : List (Tr d)) (deep : Int) (ak al : Option Addr) (ck cl : Nat) (w : World)
    (hkl : keys.length < 17592186044416) (hll : list.length < 3518437208883) (hbad : headBad kind num str keys.length list.length deep = true) :
    Calls Tryz.prog 62 #[.agg #[.int .i64 kind, .int .i64 num, .string str, .slice ak keys.length ck, .slice al list.length cl], .int .i64 deep] w
      fun e w' => e = .returned (.bool (formT (d + 1) (Nd.mk kind num str keys list) deep)) ∧ Below w.heap.size w w' := by
  rw [formT_bad hbad]
  have HB : Hid _ := hbad
  clear hbad
  by_cases hd : deep < 1
  · go_enter Tryz.func62, Tryz.ntmps62
    go_wp2_with fail
    go_ret
    exact ⟨rfl, below_alloc1 _ _⟩
  cases hB1 : (kind != 3)
  · obtain rfl : kind = 3 := by simpa using hB1
    clear hB1
    by_cases hs : str.toList = []
    · cases keys with
      | cons k ks =>
        go_enter Tryz.func62, Tryz.ntmps62
        go_wp2_with fail
        go_ret
        exact ⟨rfl, below_alloc1 _ _⟩
      | nil =>
        cases list with
        | cons x xs =>
          go_enter Tryz.func62, Tryz.ntmps62
          go_wp2_with fail
          go_ret
          exact ⟨rfl, below_alloc1 _ _⟩
        | nil => exact absurd HB.out (by simp [headBad, hs, hd])
    · go_enter Tryz.func62, Tryz.ntmps62
      go_wp2_with fail
      go_ret
      exact ⟨rfl, below_alloc1 _ _⟩
  · cases hn : (num != 0)
    case true =>
      go_enter Tryz.func62, Tryz.ntmps62
      go_wp2_with fail
      go_ret
      exact ⟨rfl, below_alloc1 _ _⟩
    case false =>
    obtain rfl : num = 0 := by simpa using hn
    clear hn
    cases hC1 : (kind != 4)
    · obtain rfl : kind = 4 := by simpa using hC1
      clear hB1 hC1
      cases keys with
      | cons k ks =>
        go_enter Tryz.func62, Tryz.ntmps62
        go_wp2_with fail
        go_ret
        exact ⟨rfl, below_alloc1 _ _⟩
      | nil =>
        cases list with
        | cons x xs =>
          go_enter Tryz.func62, Tryz.ntmps62
          go_wp2_with fail
          go_ret
          exact ⟨rfl, below_alloc1 _ _⟩
        | nil => exact absurd HB.out (by simp [headBad, hd])
    · by_cases hs : str.toList = []
      case neg =>
        go_enter Tryz.func62, Tryz.ntmps62
        go_wp2_with fail
        go_ret
        exact ⟨rfl, below_alloc1 _ _⟩
      case pos =>
      cases hD1 : (kind != 6)
      · obtain rfl : kind = 6 := by simpa using hD1
        exact absurd HB.out (by simp [headBad, hs, hd])
      · cases keys with
        | cons k ks =>
          go_enter Tryz.func62, Tryz.ntmps62
          go_wp2_with fail
          go_ret
          exact ⟨rfl, below_alloc1 _ _⟩
        | nil =>
          by_cases h5 : kind < 5
          · cases list with
            | cons x xs =>
              go_enter Tryz.func62, Tryz.ntmps62
              go_wp2_with fail
              go_ret
              exact ⟨rfl, below_alloc1 _ _⟩
            | nil => exact absurd HB.out (by simp [headBad, hs, hd])
          · exact absurd HB.out (by simp [headBad, hs, hd, h5])

/-- What is told of a part of right make. -/
theorem head_good {kind num : Int} {str : ByteArray} {nk nl : Nat} {deep : Int} (h : headBad kind num str nk nl deep = false) :
    ¬ deep < 1 ∧ (kind ≠ 3 → num = 0) ∧ (kind ≠ 4 → str.toList = []) ∧ (kind ≠ 6 → nk = 0) ∧ (kind < 5 → nl = 0) := by
  simp [headBad] at h
  obtain ⟨⟨⟨⟨a, b⟩, c⟩, e⟩, f⟩ := h
  refine ⟨by omega, b, c, fun h => by have := e h; omega, fun h => by have := f h; omega⟩

set_option maxHeartbeats 2000000 in
theorem l1Form_leaf (d : Nat) (kind num : Int) (str : ByteArray) (keys : List ByteArray) (list : List (Tr d)) (deep : Int) (ak al : Option Addr) (ck cl : Nat) (w : World)
    (hstr : str.size < 281474976710656) (hkl : keys.length < 17592186044416) (hll : list.length < 3518437208883) (hgood : headBad kind num str keys.length list.length deep = false) (h5 : kind ≠ 5) (h6 : kind ≠ 6) :
    Calls Tryz.prog 62 #[.agg #[.int .i64 kind, .int .i64 num, .string str, .slice ak keys.length ck, .slice al list.length cl], .int .i64 deep] w
      fun e w' => e = .returned (.bool (formT (d + 1) (Nd.mk kind num str keys list) deep)) ∧ Below w.heap.size w w' := by
  rw [formT_good hgood]
  obtain ⟨hd, hn, hs, hk, hl⟩ := head_good hgood
  clear hgood
  by_cases k3 : kind = 3
  · subst k3
    replace hs := hs (by decide)
    obtain rfl : keys = [] := List.eq_nil_of_length_eq_zero (hk (by decide))
    obtain rfl : list = [] := List.eq_nil_of_length_eq_zero (hl (by decide))
    clear hn hk hl h5 h6
    by_cases a : -1000000 ≤ num
    · by_cases b : num ≤ 1000000
      · go_enter Tryz.func62, Tryz.ntmps62
        go_wp2_with fail
        go_ret
        exact ⟨by simp, below_alloc1 _ _⟩
      · go_enter Tryz.func62, Tryz.ntmps62
        go_wp2_with fail
        go_ret
        exact ⟨by simp; omega, below_alloc1 _ _⟩
    · go_enter Tryz.func62, Tryz.ntmps62
      go_wp2_with fail
      go_ret
      exact ⟨by simp; omega, below_alloc1 _ _⟩
  obtain rfl : num = 0 := hn k3
  clear hn
  by_cases k4 : kind = 4
  · subst k4
    obtain rfl : keys = [] := List.eq_nil_of_length_eq_zero (hk (by decide))
    obtain rfl : list = [] := List.eq_nil_of_length_eq_zero (hl (by decide))
    clear hs hk hl h5 h6 k3
    go_enter Tryz.func62, Tryz.ntmps62
    go_wp2_with fail
    refine (l1Str_any str _ hstr).mono ?_
    rintro e w1 ⟨rfl, rfl⟩
    go_wp2_with fail
    go_ret
    exact ⟨rfl, below_alloc1 _ _⟩
  replace hs := hs k4
  obtain rfl : keys = [] := List.eq_nil_of_length_eq_zero (hk h6)
  have b3 : (kind == 3) = false := by simpa using k3
  have b4 : (kind == 4) = false := by simpa using k4
  have b5 : (kind == 5) = false := by simpa using h5
  have b6 : (kind == 6) = false := by simpa using h6
  clear hk
  by_cases k0 : kind = 0
  · subst k0
    obtain rfl : list = [] := List.eq_nil_of_length_eq_zero (hl (by decide))
    clear hl h5 h6 k3 k4 b3 b4 b5 b6
    go_enter Tryz.func62, Tryz.ntmps62
    go_wp2_with fail
    go_ret
    exact ⟨rfl, below_alloc1 _ _⟩
  by_cases k1 : kind = 1
  · subst k1
    obtain rfl : list = [] := List.eq_nil_of_length_eq_zero (hl (by decide))
    clear hl h5 h6 k3 k4 b3 b4 b5 b6 k0
    go_enter Tryz.func62, Tryz.ntmps62
    go_wp2_with fail
    go_ret
    exact ⟨rfl, below_alloc1 _ _⟩
  by_cases k2 : kind = 2
  · subst k2
    obtain rfl : list = [] := List.eq_nil_of_length_eq_zero (hl (by decide))
    clear hl h5 h6 k3 k4 b3 b4 b5 b6 k0 k1
    go_enter Tryz.func62, Tryz.ntmps62
    go_wp2_with fail
    go_ret
    exact ⟨rfl, below_alloc1 _ _⟩
  have b0 : (kind == 0) = false := by simpa using k0
  have b1 : (kind == 1) = false := by simpa using k1
  have b2 : (kind == 2) = false := by simpa using k2
  have q3 : (kind != 3) = true := by simpa using k3
  have q4 : (kind != 4) = true := by simpa using k4
  have q6 : (kind != 6) = true := by simpa using h6
  rw [if_neg (by omega), if_neg k3, if_neg k4, if_neg h6, if_neg h5]
  by_cases hlt : kind < 5
  · obtain rfl : list = [] := List.eq_nil_of_length_eq_zero (hl hlt)
    clear hl
    go_enter Tryz.func62, Tryz.ntmps62
    go_wp2_with fail
    go_ret
    exact ⟨rfl, below_alloc1 _ _⟩
  · clear hl
    go_enter Tryz.func62, Tryz.ntmps62
    go_wp2_with fail
    go_ret
    exact ⟨rfl, below_alloc1 _ _⟩
end Go.Proofs.YtohdpgclokgohaaGreatDoor
