/- Marks, as plain functions of lists and trees. -/
import Derived.Test.YtbcafaomfaainaaGreatDoorWOwn
namespace Go.Proofs.YtbcafaomfaainaaGreatDoor

/-- The last digit of a number. -/
def dg (k : Nat) : UInt8 := (48 + k % 10).toUInt8
theorem dg_nat (k : Nat) : (dg k).toNat = 48 + k % 10 := by
  simp only [dg, Nat.toUInt8, UInt8.toNat_ofNat']
  omega
/-- The digits of a number ahead of a text. -/
def mtGo : Nat → Nat → ByteArray → ByteArray
  | 0, _, out => out
  | f + 1, k, out => if k = 0 then out else mtGo f (k / 10) (ByteArray.mk #[dg k] ++ out)
/-- The text of a mark. -/
def mt (k : Nat) : ByteArray := ByteArray.mk #[109] ++ mtGo (k + 1) k ByteArray.empty

theorem mtGo_size : ∀ (f k : Nat) (out : ByteArray), (mtGo f k out).size ≤ f + out.size
  | 0, _, out => by simp [mtGo]
  | f + 1, k, out => by
    rw [mtGo]
    split
    · omega
    · have := mtGo_size f (k / 10) (ByteArray.mk #[dg k] ++ out)
      rw [ByteArray.size_append] at this
      have h1 : (ByteArray.mk #[dg k]).size = 1 := rfl
      omega
theorem mt_size (k : Nat) : (mt k).size ≤ k + 2 := by
  have := mtGo_size (k + 1) k ByteArray.empty
  rw [mt, ByteArray.size_append]
  have h1 : (ByteArray.mk #[109]).size = 1 := rfl
  have h2 : ByteArray.empty.size = 0 := rfl
  omega
/-- Enough fuel is enough. -/
theorem mtGo_fuel : ∀ (f g k : Nat) (out : ByteArray), k < f → k < g → mtGo f k out = mtGo g k out
  | 0, _, k, _, h, _ => by omega
  | _ + 1, 0, k, _, _, h => by omega
  | f + 1, g + 1, k, out, h1, h2 => by
    rw [mtGo, mtGo]
    by_cases e : k = 0
    · rw [if_pos e, if_pos e]
    · rw [if_neg e, if_neg e]
      have := Nat.div_lt_self (Nat.pos_of_ne_zero e) (show 1 < 10 by omega)
      exact mtGo_fuel f g (k / 10) _ (by omega) (by omega)
theorem mtGo_step {f k : Nat} (out : ByteArray) (h : k < f) (h0 : 0 < k) : mtGo f k out = mtGo f (k / 10) (ByteArray.mk #[dg k] ++ out) := by
  cases f with
  | zero => omega
  | succ f =>
    have hd := Nat.div_lt_self h0 (show 1 < 10 by omega)
    conv => lhs; rw [mtGo, if_neg (by omega)]
    exact mtGo_fuel f (f + 1) (k / 10) _ (by omega) (by omega)

/-- Texts with marks in their places. -/
def markStrs : List ByteArray → Nat → List ByteArray
  | [], _ => []
  | _ :: r, k => mt k :: markStrs r (k + 1)
theorem markStrs_length : ∀ (ss : List ByteArray) (k : Nat), (markStrs ss k).length = ss.length
  | [], _ => rfl
  | _ :: r, k => by simp [markStrs, markStrs_length r (k + 1)]
theorem markStrs_get : ∀ (ss : List ByteArray) (k i : Nat) (s : ByteArray), (markStrs ss k)[i]? = some s → s = mt (k + i)
  | [], _, i, s, h => by simp [markStrs] at h
  | _ :: r, k, 0, s, h => by simp [markStrs] at h; rw [← h]; rfl
  | _ :: r, k, i + 1, s, h => by
    rw [markStrs, List.getElem?_cons_succ] at h
    rw [markStrs_get r (k + 1) i s h]
    congr 1
    omega

/-- Things with marks in their places, one behind the other. -/
def markL {α : Type} (f : α → Nat → α × Nat) : List α → Nat → List α × Nat
  | [], k => ([], k)
  | x :: r, k => ((f x k).1 :: (markL f r (f x k).2).1, (markL f r (f x k).2).2)
/-- A part with marks in all its places. -/
def markT : (d : Nat) → Tr d → Nat → Tr d × Nat
  | 0, t, k => (t, k)
  | d + 1, t, k => ((Nd.mk (k : Int) ((k : Int) + 1) (mt (k + 2)) (markStrs (Nd.keys t) (k + 3)) (markL (markT d) (Nd.list t) (k + 3 + (Nd.keys t).length)).1 : Nd (Tr d)),
      (markL (markT d) (Nd.list t) (k + 3 + (Nd.keys t).length)).2)
/-- A tree with marks in all places of its lists. -/
def markTop (d : Nat) (t : Tr (d + 1)) (k : Nat) : Tr (d + 1) × Nat :=
  ((Nd.mk (Nd.kind t) (Nd.num t) (Nd.str t) (markStrs (Nd.keys t) k) (markL (markT d) (Nd.list t) (k + (Nd.keys t).length)).1 : Nd (Tr d)), (markL (markT d) (Nd.list t) (k + (Nd.keys t).length)).2)

theorem markL_length {α : Type} (f : α → Nat → α × Nat) : ∀ (xs : List α) (k : Nat), (markL f xs k).1.length = xs.length
  | [], _ => rfl
  | x :: r, k => by simp [markL, markL_length f r]
/-- How far the marks of the first things go. -/
def markTo {α : Type} (f : α → Nat → α × Nat) (xs : List α) (k i : Nat) : Nat := (markL f (xs.take i) k).2
theorem markTo_zero {α : Type} (f : α → Nat → α × Nat) (xs : List α) (k : Nat) : markTo f xs k 0 = k := by simp [markTo, markL]
theorem markTo_step {α : Type} (f : α → Nat → α × Nat) : ∀ (xs : List α) (k i : Nat) (x : α), xs[i]? = some x → markTo f xs k (i + 1) = (f x (markTo f xs k i)).2
  | [], _, i, x, h => by simp at h
  | y :: r, k, 0, x, h => by simp at h; subst h; simp [markTo, markL]
  | y :: r, k, i + 1, x, h => by
    rw [List.getElem?_cons_succ] at h
    have := markTo_step f r (f y k).2 i x h
    simpa [markTo, markL] using this
theorem markTo_all {α : Type} (f : α → Nat → α × Nat) (xs : List α) (k : Nat) : markTo f xs k xs.length = (markL f xs k).2 := by simp [markTo]
theorem markL_get {α : Type} (f : α → Nat → α × Nat) : ∀ (xs : List α) (k i : Nat) (x : α), xs[i]? = some x → (markL f xs k).1[i]? = some (f x (markTo f xs k i)).1
  | [], _, i, x, h => by simp at h
  | y :: r, k, 0, x, h => by simp at h; subst h; simp [markTo, markL]
  | y :: r, k, i + 1, x, h => by
    rw [List.getElem?_cons_succ] at h
    have := markL_get f r (f y k).2 i x h
    simpa [markTo, markL] using this

/-- How many marks a part takes. -/
def wtT : (d : Nat) → Tr d → Nat
  | 0, _ => 0
  | d + 1, t => 3 + (Nd.keys t).length + ((Nd.list t).map (wtT d)).sum
theorem markL_to {α : Type} {f : α → Nat → α × Nat} {g : α → Nat} (h : ∀ x k, (f x k).2 = k + g x) : ∀ (xs : List α) (k : Nat), (markL f xs k).2 = k + (xs.map g).sum
  | [], k => by simp [markL]
  | x :: r, k => by
    rw [markL, List.map_cons, List.sum_cons]
    show (markL f r (f x k).2).2 = _
    rw [markL_to h r, h]
    omega
theorem markT_to : ∀ (d : Nat) (t : Tr d) (k : Nat), (markT d t k).2 = k + wtT d t
  | 0, _, _ => rfl
  | d + 1, t, k => by
    show (markL (markT d) (Nd.list t) (k + 3 + (Nd.keys t).length)).2 = _
    rw [markL_to (markT_to d), wtT]
    omega
theorem markTo_le {d : Nat} (xs : List (Tr d)) (k i : Nat) : k ≤ markTo (markT d) xs k i ∧ markTo (markT d) xs k i ≤ k + (xs.map (wtT d)).sum := by
  unfold markTo
  rw [markL_to (markT_to d)]
  have : ((xs.take i).map (wtT d)).sum ≤ (xs.map (wtT d)).sum := by
    conv => rhs; rw [← List.take_append_drop i xs, List.map_append, List.sum_append]
    omega
  omega
end Go.Proofs.YtbcafaomfaainaaGreatDoor
