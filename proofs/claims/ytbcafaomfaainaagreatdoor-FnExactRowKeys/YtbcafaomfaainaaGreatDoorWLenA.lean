/- Numbers as trees; what a tree that is ok can be; what is told, in the result's own cells. -/
import Derived.Test.YtbcafaomfaainaaGreatDoorWGiven
import Derived.Test.YtbcafaomfaainaaGreatDoorWMany
namespace Go.Proofs.YtbcafaomfaainaaGreatDoor
open Go.RowKit Go.Deep

/-- A number as a tree. -/
def numT (d : Nat) (n : Int) : Tr (d + 1) := (Nd.mk 3 n ByteArray.empty [] [] : Nd (Tr d))
theorem okT_num (d : Nat) (n : Int) (h : -1000000 ≤ n ∧ n ≤ 1000000) : okT (d + 1) (numT d n) = true := by
  have hb : headBad 3 n ByteArray.empty ([] : List ByteArray).length ([] : List (Tr d)).length 6 = false := headBad_iff.2 ⟨by omega, fun h => absurd rfl h, fun _ => empty_toList, fun _ => rfl, fun _ => rfl⟩
  have h1 : formT (d + 1) (numT d n) 6 = true := by
    show formT (d + 1) (Nd.mk 3 n ByteArray.empty [] [] : Nd (Tr d)) 6 = true
    rw [formT_good hb]
    simp [h]
  have h2 : manyT (d + 1) (numT d n) 6 = 1 := rfl
  simp only [okT, h1, h2]
  rfl

/-- What a tree that is ok can be. -/
theorem okT_kinds {d : Nat} {t : Tr (d + 1)} (h : okT (d + 1) t = true) :
    (Nd.kind t = 0 ∨ Nd.kind t = 1 ∨ Nd.kind t = 2 ∨ (Nd.kind t = 3 ∧ -1000000 ≤ Nd.num t ∧ Nd.num t ≤ 1000000) ∨ (Nd.kind t = 4 ∧ (Nd.str t).size ≤ 12) ∨ Nd.kind t = 5 ∨ Nd.kind t = 6) ∧ (Nd.list t).length ≤ 60 ∧ (Nd.kind t ≠ 3 → Nd.num t = 0) := by
  obtain ⟨hf, hm⟩ := okT_form h
  obtain ⟨kind, num, str, keys, list⟩ := t
  cases hb : headBad kind num str keys.length list.length 6 with
  | true => rw [formT_bad hb] at hf; cases hf
  | false =>
    rw [formT_good hb] at hf
    obtain ⟨_, g1, _, _, _⟩ := headBad_iff.1 hb
    have hmany : manyT (d + 1) (Nd.mk kind num str keys list) 6 = 1 + (if (0 : Int) < 6 then (list.map (fun x => manyT d x (6 - 1))).sum else 0) := rfl
    rw [hmany, if_pos (by omega)] at hm
    have hll := len_le_many (d := d) (deep := 6 - 1) list
    refine ⟨?_, by show list.length ≤ 60; omega, g1⟩
    show kind = 0 ∨ kind = 1 ∨ kind = 2 ∨ (kind = 3 ∧ -1000000 ≤ num ∧ num ≤ 1000000) ∨ (kind = 4 ∧ str.size ≤ 12) ∨ kind = 5 ∨ kind = 6
    by_cases k0 : kind = 0 ∨ kind = 1 ∨ kind = 2
    · omega
    rw [if_neg k0] at hf
    by_cases k3 : kind = 3
    · rw [if_pos k3, decide_eq_true_eq] at hf
      omega
    rw [if_neg k3] at hf
    by_cases k4 : kind = 4
    · rw [if_pos k4] at hf
      have := strOk_size hf
      omega
    rw [if_neg k4] at hf
    by_cases k6 : kind = 6
    · omega
    rw [if_neg k6] at hf
    by_cases k5 : kind = 5
    · omega
    rw [if_neg k5] at hf
    cases hf

theorem numTree_at (d : Nat) (n : Int) (hn : I64 n) (S : Nat → Prop) (w : World) : TreeG S w (d + 1) (numT d n) (.iface 116 (.agg #[.int .i64 n])) := Or.inr (Or.inl ⟨n, hn, rfl, rfl⟩)

/-- What was told is put into the result's own cells. -/
theorem tell_end {d : Nat} {t : Tr (d + 1)} {w w1 w2 : World} {v0 v1 : Int} {v2 : ByteArray} {v3 v6 : Option Addr} {v4 v5 v7 v8 rb : Nat} (hv : ValOwn w2 (d + 1) (Fresh w1 w2) t (.agg #[.int .i64 v0, .int .i64 v1, .string v2, .slice v3 v4 v5, .slice v6 v7 v8])) (hb : Below w.heap.size w w2)
    (hr : w.heap.size ≤ rb) (hr1 : rb < w1.heap.size) :
    ∀ wF, wF = set5 w2 rb 0 (.int .i64 v0) (.int .i64 v1) (.string v2) (.slice v3 v4 v5) (.slice v6 v7 v8) → ValOwn wF (d + 1) (Fresh w wF) t (.agg #[.int .i64 v0, .int .i64 v1, .string v2, .slice v3 v4 v5, .slice v6 v7 v8]) ∧ Below w.heap.size w wF := by
  intro wF hF
  have hzF : wF.heap.size = w2.heap.size := by rw [hF, set5_size]
  refine ⟨ValOwn.moved (d + 1) (Fresh w1 w2) _ t _ hv (fun b hb => ?_) (fun b hb => ⟨by have := hb.1; omega, by have := hb.2; omega⟩), ?_⟩
  · rw [hF, set5_block _ _ _ _ _ _ _ _ _ (by have := hb.1; omega)]
  · rw [hF]
    exact below_set5 hb hr _ _ _ _ _ _

end Go.Proofs.YtbcafaomfaainaaGreatDoor
