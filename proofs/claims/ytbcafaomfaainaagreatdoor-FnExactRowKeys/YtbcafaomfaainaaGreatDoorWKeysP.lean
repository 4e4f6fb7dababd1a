/- Texts in order: the sort of keys, in whatever order they came. -/
import Derived.Test.YtbcafaomfaainaaGreatDoorWTreeG
import Derived.Test.YtbcafaomfaainaaGreatDoorWSortN
namespace Go.Proofs.YtbcafaomfaainaaGreatDoor
open Go.RowKit Go.Deep Go.Sort

theorem bytesLess_iff : ∀ (a b : List UInt8), Op.bytesLess a b = true ↔ a < b
  | _, [] => by cases ‹List UInt8› <;> simp [Op.bytesLess]
  | [], _ :: _ => by simp [Op.bytesLess]
  | x :: a, y :: b => by
    have ih := bytesLess_iff a b
    rw [List.cons_lt_cons_iff, ← ih]
    simp [Op.bytesLess]
theorem ltB_iff (a b : ByteArray) : ltB a b = true ↔ a.data.toList < b.data.toList := by
  rw [ltB, bytesLess_iff, ByteArray.toList_eq, ByteArray.toList_eq]
theorem keysB_sorted {ss : List ByteArray} (h : keysB ss = true) : (ss.map (fun s => s.data.toList)).Pairwise (fun a b => decide (a ≤ b) = true) := by
  rw [List.pairwise_map]
  refine (keysGo_pair ss none h).imp_of_mem ?_
  intro a b _ _ hab
  exact decide_eq_true (List.le_of_lt ((ltB_iff a b).1 hab))
theorem le_total_bytes (a b : List UInt8) : (decide (a ≤ b) || decide (b ≤ a)) = true := by
  rcases List.le_total a b with h | h
  · simp [h]
  · simp [h]
theorem le_trans_bytes (a b c : List UInt8) (h : decide (a ≤ b) = true) (k : decide (b ≤ c) = true) : decide (a ≤ c) = true := by
  simp only [decide_eq_true_eq] at h k ⊢
  exact List.le_trans h k
/-- The keys, in whatever order they came, sorted. -/
theorem sort_keys {ss : List ByteArray} (h : keysB ss = true) {cs : List (List UInt8)} (hp : cs.Perm (ss.map (fun s => s.data.toList))) : (cs.mergeSort fun x y => decide (x ≤ y)) = ss.map (fun s => s.data.toList) := by
  have h1 := List.pairwise_mergeSort (le := fun x y : List UInt8 => decide (x ≤ y)) le_trans_bytes le_total_bytes cs
  have h2 := (List.mergeSort_perm cs (fun x y => decide (x ≤ y))).trans hp
  refine h2.eq_of_pairwise ?_ h1 (keysB_sorted h)
  intro a b _ _ hab hba
  simp only [decide_eq_true_eq] at hab hba
  exact List.le_antisymm hab hba
theorem enc_keys (ss : List ByteArray) : (ss.map (fun s => s.data.toList)).map encStr = ss.map Value.string := by
  rw [List.map_map]
  rfl
theorem keysB_strOk : ∀ (ss : List ByteArray) (p : Option ByteArray), keysGo p ss = true → ∀ s ∈ ss, strOk s = true
  | [], _, _, _, h => by cases h
  | a :: r, none, h, s, hs => by
    simp only [keysGo, Bool.and_eq_true] at h
    cases hs with
    | head => exact h.1
    | tail _ hs => exact keysB_strOk r _ h.2 s hs
  | a :: r, some p, h, s, hs => by
    simp only [keysGo, Bool.and_eq_true] at h
    cases hs with
    | head => exact h.1
    | tail _ hs => exact keysB_strOk r _ h.2.2 s hs
theorem strOk_size {s : ByteArray} (h : strOk s = true) : s.size ≤ 12 := by
  simp [strOk] at h
  omega

/-- A row of texts that a call made is its own. -/
theorem strsOwn_of_row {N n : Nat} {w : World} {v : Value} {ss : List ByteArray} (h : w.ownsRow N 9 1 v n (ss.map Value.string)) (hn : n = ss.length) (hl : ss.length < 17592186044416) (hs : ∀ s ∈ ss, s.size < 281474976710656) :
    StrsOwn (fun b => N ≤ b ∧ b < w.heap.size) w v ss := by
  subst hn
  refine ⟨hl, hs, ?_⟩
  rcases h.2 with ⟨rfl, h0⟩ | ⟨g, cap, cur, rfl, hg, hh, hnc, _, hcs, htake⟩
  · exact ⟨none, 0, by rw [h0], Or.inl (List.eq_nil_of_length_eq_zero h0)⟩
  · refine ⟨some ⟨g, 0, none⟩, cap, rfl, Or.inr ⟨g, cap, fun i => cur.getD i undef, ⟨hg, (Array.getElem?_eq_some_iff.1 hh).1⟩, rfl, hnc, ⟨cur, hh, by rw [hcs, Nat.mul_one], fun i hi => ?_⟩, fun i s hi => ?_⟩⟩
    · simp [hcs, hi]
    · have hil := (List.getElem?_eq_some_iff.1 hi).1
      have h1 : (ss.map Value.string)[i]? = some (.string s) := by rw [List.getElem?_map, hi]; rfl
      rw [← htake, List.getElem?_take_of_lt (by omega), Array.getElem?_toList] at h1
      simp [Array.getD_eq_getD_getElem?, h1]
end Go.Proofs.YtbcafaomfaainaaGreatDoor
