/- Texts of the proof, put together by program: WOrd. -/
import Derived.Test.YtilgbnnjecpneaaGreatDoorU14
import Derived.Test.YtilgbnnjecpneaaGreatDoorU1
/- How two trees stand: the plain functions, and l1Texts, l1Lists, l1Rows, ValOrder of the model. -/
namespace Go.Proofs.YtilgbnnjecpneaaGreatDoor
open Go.RowKit Go.Deep

/-- The first, if it says something, else the second. -/
def orI (x y : Int) : Int := if x = 0 then y else x
def cmpI (a b : Int) : Int := if a < b then -1 else if b < a then 1 else 0
def cmpS (a b : ByteArray) : Int := if Op.bytesLess a.toList b.toList = true then -1 else if (a.toList == b.toList) = true then 0 else 1
def ordL {α : Type} (f : α → α → Int) : List α → List α → Int
  | [], [] => 0
  | [], _ :: _ => -1
  | _ :: _, [] => 1
  | a :: r, b :: s => orI (f a b) (ordL f r s)
/-- How two parts stand but for the parts in them. -/
def headO {α : Type} (a b : Nd α) : Int := orI (cmpI a.kind b.kind) (orI (cmpI a.num b.num) (orI (cmpS a.str b.str) (ordL cmpS a.keys b.keys)))
def ordT : (d : Nat) → Tr d → Tr d → Int
  | 0, _, _ => 0
  | d + 1, a, b => orI (headO (α := Tr d) a b) (ordL (ordT d) (Nd.list a) (Nd.list b))

theorem orI_zero (y : Int) : orI 0 y = y := rfl
theorem orI_ne {x : Int} (h : x ≠ 0) (y : Int) : orI x y = x := if_neg h
theorem orI_assoc (x y z : Int) : orI (orI x y) z = orI x (orI y z) := by
  unfold orI
  split <;> simp_all
theorem orI_right (x : Int) : orI x 0 = x := by
  unfold orI
  split <;> simp_all
theorem ordL_drop {α : Type} (f : α → α → Int) {xs ys : List α} {k : Nat} {x y : α} (hx : xs[k]? = some x) (hy : ys[k]? = some y) :
    ordL f (xs.drop k) (ys.drop k) = orI (f x y) (ordL f (xs.drop (k + 1)) (ys.drop (k + 1))) := by
  obtain ⟨hk, e1⟩ := List.getElem?_eq_some_iff.1 hx
  obtain ⟨hk', e2⟩ := List.getElem?_eq_some_iff.1 hy
  rw [List.drop_eq_getElem_cons hk, List.drop_eq_getElem_cons hk', e1, e2, ordL]
theorem ordL_end {α : Type} (f : α → α → Int) {xs ys : List α} {k : Nat} (hx : k ≤ xs.length) (hy : k ≤ ys.length) (h : ¬ (k < xs.length ∧ k < ys.length)) :
    ordL f (xs.drop k) (ys.drop k) = cmpI xs.length ys.length := by
  by_cases h1 : k < xs.length
  · have e : ys.drop k = [] := List.drop_eq_nil_of_le (by omega)
    rw [List.drop_eq_getElem_cons h1, e, ordL, cmpI, if_neg (by omega), if_pos (by omega)]
  · by_cases h2 : k < ys.length
    · have e : xs.drop k = [] := List.drop_eq_nil_of_le (by omega)
      rw [e, List.drop_eq_getElem_cons h2, ordL, cmpI, if_pos (by omega)]
    · have e : xs.drop k = [] := List.drop_eq_nil_of_le (by omega)
      have e' : ys.drop k = [] := List.drop_eq_nil_of_le (by omega)
      rw [e, e', ordL, cmpI, if_neg (by omega), if_neg (by omega)]

theorem cmpS_lt {a b : ByteArray} (h : Op.bytesLess a.toList b.toList = true) : cmpS a b = -1 := if_pos h
theorem cmpS_eq {a b : ByteArray} (h : (a.toList == b.toList) = true) : cmpS a b = 0 := by
  have e : a.toList = b.toList := by simpa using h
  rw [cmpS, e, bytesLess_irrefl]
  simp
theorem cmpS_gt {a b : ByteArray} (h : Op.bytesLess a.toList b.toList = false) (h' : (a.toList == b.toList) = false) : cmpS a b = 1 := by
  rw [cmpS, h, h']
  rfl

theorem cmpI_lt {a b : Int} (h : a < b) : cmpI a b = -1 := if_pos h
theorem cmpI_gt {a b : Int} (h : b < a) : cmpI a b = 1 := by rw [cmpI, if_neg (by omega), if_pos h]
theorem cmpI_eq {a b : Int} (h : ¬ a < b) (h' : ¬ b < a) : cmpI a b = 0 := by rw [cmpI, if_neg h, if_neg h']

end Go.Proofs.YtilgbnnjecpneaaGreatDoor
