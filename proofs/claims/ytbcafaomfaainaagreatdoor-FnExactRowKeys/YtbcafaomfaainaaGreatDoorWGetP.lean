/- What lies at a key. -/
import Derived.Test.YtbcafaomfaainaaGreatDoorWPartP
namespace Go.Proofs.YtbcafaomfaainaaGreatDoor
open Go.RowKit Go.Deep

/-- What lies at a key, of keys and what lies at them. -/
def getL {α : Type} : List ByteArray → List α → ByteArray → Option α
  | k :: ks, x :: xs, s => if (k == s) = true then some x else getL ks xs s
  | _, _, _ => none
def partGetT (d : Nat) (t : Tr (d + 2)) (s : ByteArray) : Tr (d + 1) × Bool :=
  if okT (d + 2) t = true ∧ strOk s = true then (if Nd.kind t = 0 then (zeroT d, true) else if Nd.kind t = 6 then ((getL (Nd.keys t) (Nd.list t) s).getD (zeroT d), true) else (zeroT d, false)) else (zeroT d, false)

theorem getL_at {α : Type} {s : ByteArray} : ∀ {ks : List ByteArray} {xs : List α} {k : Nat} {x : α}, ks[k]? = some s → xs[k]? = some x → (∀ j, j < k → ks[j]? ≠ some s) → getL ks xs s = some x
  | [], _, _, _, h, _, _ => by simp at h
  | _ :: _, [], _, _, _, h, _ => by simp at h
  | a :: ks, y :: xs, 0, x, h, h', _ => by
    simp at h h'
    subst h h'
    rw [getL, if_pos ((MapKept.bytes_beq a a).2 rfl)]
  | a :: ks, y :: xs, k + 1, x, h, h', hn => by
    rw [getL, if_neg (fun e => hn 0 (by omega) (by rw [(MapKept.bytes_beq a s).1 e]; rfl))]
    exact getL_at (by simpa using h) (by simpa using h') (fun j hj => by have := hn (j + 1) (by omega); simpa using this)
theorem getL_miss {α : Type} {s : ByteArray} : ∀ {ks : List ByteArray} {xs : List α}, s ∉ ks → getL ks xs s = none
  | [], _, _ => by rw [getL]; intro _ _ _ _ h; cases h
  | _ :: _, [], _ => by rw [getL]; intro _ _ _ _ _ h; cases h
  | a :: ks, y :: xs, hn => by
    rw [getL, if_neg (fun e => hn (by rw [(MapKept.bytes_beq a s).1 e]; simp))]
    exact getL_miss (fun h => hn (by simp [h]))
theorem getL_mem {α : Type} {s : ByteArray} {x : α} : ∀ {ks : List ByteArray} {xs : List α}, getL ks xs s = some x → x ∈ xs
  | [], _, h => by rw [getL] at h; cases h; intro _ _ _ _ h; cases h
  | _ :: _, [], h => by rw [getL] at h; cases h; intro _ _ _ _ _ h; cases h
  | a :: ks, y :: xs, h => by
    rw [getL] at h
    split at h
    · cases h; simp
    · simp [getL_mem h]
/-- A key that is there. -/
theorem key_at {α : Type} {s : ByteArray} : ∀ {ks : List ByteArray} {xs : List α}, s ∈ ks → ks.length = xs.length → ∃ (k : Nat) (x : α), ks[k]? = some s ∧ xs[k]? = some x ∧ (∀ j, j < k → ks[j]? ≠ some s)
  | [], _, h, _ => by cases h
  | _ :: _, [], _, h => by simp at h
  | a :: ks, y :: xs, h, hl => by
    by_cases e : a = s
    · subst e
      exact ⟨0, y, rfl, rfl, fun j hj => by omega⟩
    · obtain ⟨k, x, h1, h2, h3⟩ := key_at (ks := ks) (xs := xs) (by simpa [Ne.symm e] using h) (by simpa using hl)
      refine ⟨k + 1, x, by simpa using h1, by simpa using h2, fun j hj => ?_⟩
      cases j with
      | zero => intro h; simp at h; exact e h
      | succ j => have := h3 j (by omega); simpa using this
theorem okT_keys {d : Nat} {t : Tr (d + 1)} (h : okT (d + 1) t = true) (h6 : Nd.kind t = 6) : (Nd.keys t).length = (Nd.list t).length := by
  obtain ⟨hf, hm⟩ := okT_form h
  obtain ⟨kind, num, str, keys, list⟩ := t
  have h6 : kind = 6 := h6
  cases hb : headBad kind num str keys.length list.length 6 with
  | true => rw [formT_bad hb] at hf; cases hf
  | false =>
    rw [formT_good hb, if_neg (by omega), if_neg (by omega), if_neg (by omega), if_pos h6] at hf
    simp only [Bool.and_eq_true] at hf
    exact by simpa using hf.1.1
theorem okT_partGet (d : Nat) (t : Tr (d + 2)) (s : ByteArray) : okT (d + 1) (partGetT d t s).1 = true := by
  unfold partGetT
  split
  · rename_i h
    split
    · exact okT_zero d
    split
    · cases hp : getL (Nd.keys t) (Nd.list t) s with
      | none => exact okT_zero d
      | some x => exact okT_part h.1 (getL_mem hp)
    · exact okT_zero d
  · exact okT_zero d
end Go.Proofs.YtbcafaomfaainaaGreatDoor
