/- Going through a map that was filled in order: whichever entry comes next. -/
import Derived.Test.YtbcafaomfaainaaGreatDoorWImplB
namespace Go.Proofs.YtbcafaomfaainaaGreatDoor
open Go.RowKit Go.Deep

theorem find_born : ∀ (l : List MapEntry) (o i : Nat) (e : MapEntry), (∀ j x, l[j]? = some x → x.born = o + j) → l[i]? = some e → l.find? (fun x => x.born == o + i) = some e
  | [], _, i, _, _, h => by simp at h
  | a :: r, o, 0, e, hb, h => by
    simp at h
    subst h
    have := hb 0 a rfl
    simp [this]
  | a :: r, o, i + 1, e, hb, h => by
    have h0 := hb 0 a rfl
    have ih := find_born r (o + 1) i e (fun j x hx => by have := hb (j + 1) x (by simpa using hx); omega) (by simpa using h)
    have hne : (a.born == o + (i + 1)) = false := by rw [beq_eq_false_iff_ne]; omega
    rw [List.find?_cons, hne]
    simpa [Nat.add_assoc, Nat.add_comm 1 i] using ih

/-- The iterator in block r has passed the entries of these numbers. -/
def Iter (w : World) (r m n : Nat) (seen : List Nat) : Prop := w.heap[r]? = some (.mapIter (some m) n seen.toArray n)

/-- What is the same in two worlds but for one block. -/
structure OneOff (r : Nat) (w w' : World) : Prop where
  os : w'.os = w.os
  tape : w'.tape = w.tape
  output : w'.output = w.output
  size : w'.heap.size = w.heap.size
  block : ∀ k, k ≠ r → w'.heap[k]? = w.heap[k]?

theorem run_range_map {P : Program} {T K E : TypeId} (hT : P.underlying T = some (.map K E)) (w : World) (m n : Nat) (es : Array MapEntry) (hm : w.heap[m]? = some (.map es n)) :
    (Instr.range T (.map (some m))).run P w = .ok (.pointer (some ⟨w.heap.size, 0, none⟩)) (w.alloc (.mapIter (some m) n #[] n)) := by
  simp [Instr.range, run_underlying hT, getObj, Sem.run, hm]

theorem run_entry_map {P : Program} (w : World) (r m n i : Nat) (seen : List Nat) (es : Array MapEntry) (e : MapEntry) (hr : Iter w r m n (seen ++ [i])) (hm : w.heap[m]? = some (.map es n))
    (hb : ∀ (j : Nat) (x : MapEntry), es[j]? = some x → x.born = j) (he : es[i]? = some e) :
    (Instr.entry (.pointer (some ⟨r, 0, none⟩))).run P w = .ok (.tuple #[e.key, e.val]) w := by
  have hf : es.find? (fun x => x.born == i) = some e := by
    have := find_born es.toList 0 i e (fun j x hx => by rw [Array.getElem?_toList] at hx; rw [hb j x hx]; omega) (by rw [Array.getElem?_toList]; exact he)
    rw [Nat.zero_add] at this
    rw [← Array.find?_toList]
    exact this
  unfold Iter at hr
  simp [Instr.entry, getObj, Sem.run, hr, hm, hf]

/-- The entries that are still to come. -/
theorem next_left (es : Array MapEntry) (seen : List Nat) (n : Nat) (hb : ∀ (j : Nat) (x : MapEntry), es[j]? = some x → x.born = j) (hs : es.size = n) :
    ((es.filter fun e => !seen.toArray.contains e.born).filter (fun e => decide (e.born < n))) = (es.filter fun e => !seen.toArray.contains e.born) ∧
    ((es.filter fun e => !seen.toArray.contains e.born).filter (fun e => decide (e.born ≥ n))) = #[] := by
  have hlt : ∀ e ∈ es, e.born < n := fun e he => by
    obtain ⟨j, hj, rfl⟩ := Array.getElem_of_mem he
    rw [hb j _ (Array.getElem?_eq_getElem hj)]
    omega
  constructor
  · rw [Array.filter_eq_self]
    intro e he
    exact decide_eq_true (hlt e (Array.mem_filter.1 he).1)
  · rw [Array.filter_eq_empty_iff]
    intro e he
    have := hlt e (Array.mem_filter.1 he).1
    simp
    omega

theorem run_choose_map {P : Program} (w : World) (s : Nat) (h : 0 < s) : ∃ k w1, (choose (.mapNext s)).run P w = .ok k w1 ∧ k < s ∧ w1.heap = w.heap ∧ w1.os = w.os ∧ w1.tape = w.tape ∧ w1.output = w.output := by
  by_cases h1 : s ≤ 1
  · exact ⟨0, w, by simp [choose, Sem.run, Question.forced, h1], h, rfl, rfl, rfl, rfl⟩
  · refine ⟨w.tape w.drawn (.mapNext s) % s, { w with drawn := w.drawn + 1 }, by simp [choose, Sem.run, Question.forced, h1, Question.cut], Nat.mod_lt _ h, rfl, rfl, rfl, rfl⟩

theorem run_next_map {P : Program} (w : World) (r m n : Nat) (seen : List Nat) (es : Array MapEntry) (hr : Iter w r m n seen) (hm : w.heap[m]? = some (.map es n)) (hs : es.size = n) (hb : ∀ (j : Nat) (x : MapEntry), es[j]? = some x → x.born = j) :
    ((∀ i, i < n → i ∈ seen) ∧ ∀ ty, (Instr.next (.pointer (some ⟨r, 0, none⟩)) false ty).run P w = .ok (.tuple #[.bool false]) w) ∨
    ∃ i e w', i < n ∧ i ∉ seen ∧ es[i]? = some e ∧ Iter w' r m n (seen ++ [i]) ∧ OneOff r w w' ∧ ∀ ty, (Instr.next (.pointer (some ⟨r, 0, none⟩)) false ty).run P w = .ok (.tuple #[.bool true, e.key, e.val]) w' := by
  obtain ⟨hl1, hl2⟩ := next_left es seen n hb hs
  have hrl : r < w.heap.size := (Array.getElem?_eq_some_iff.1 hr).1
  unfold Iter at hr
  have hstop : (!seen.toArray.isEmpty && !es.isEmpty && es.all (fun x => decide (x.born ≥ n))) = false := by
    by_cases he : es.isEmpty = true
    · simp [he]
    · have h0 : 0 < es.size := by
        rcases Nat.eq_zero_or_pos es.size with h | h
        · exact absurd (by simpa using h) he
        · exact h
      have : es.all (fun x => decide (x.born ≥ n)) = false := by
        cases hc : es.all (fun x => decide (x.born ≥ n)) with
        | false => rfl
        | true =>
          have := Array.all_eq_true.1 hc 0 h0
          rw [hb 0 _ (Array.getElem?_eq_getElem h0)] at this
          simp at this
          omega
      simp [this]
  generalize hleft : (es.filter fun e => !seen.toArray.contains e.born) = left at hl1 hl2
  by_cases hemp : left.isEmpty = true
  · left
    obtain rfl : left = #[] := by simpa using hemp
    refine ⟨fun i hi => ?_, fun ty => ?_⟩
    · have hn : es[i]'(by omega) ∉ (es.filter fun e => !seen.toArray.contains e.born) := by rw [hleft]; simp
      have hb2 := hb i _ (Array.getElem?_eq_getElem (by omega))
      simp [Array.mem_filter, hb2] at hn
      exact hn
    · simp only [Instr.next, getObj, Sem.run_bind, Sem.run, hr, hm, Result.andThen, hstop, Bool.false_eq_true, if_false, hleft]
      simp [choose, Sem.run, Question.forced, pure]
  · right
    have hpos : 0 < left.size := by
      rcases Nat.eq_zero_or_pos left.size with h | h
      · exact absurd (by simpa using h) hemp
      · exact h
    obtain ⟨k, w1, hch, hk, e1, e2, e3, e4⟩ := run_choose_map (P := P) w left.size hpos
    have hmem : left[k] ∈ (es.filter fun e => !seen.toArray.contains e.born) := by rw [hleft]; exact Array.getElem_mem hk
    obtain ⟨hme, hns⟩ := Array.mem_filter.1 hmem
    obtain ⟨i, hi, hie⟩ := Array.getElem_of_mem hme
    have hbi := hb i _ (Array.getElem?_eq_getElem hi)
    rw [hie] at hbi
    refine ⟨i, left[k], withObj w1 r (.mapIter (some m) n (seen ++ [i]).toArray n), by omega, ?_, by rw [Array.getElem?_eq_getElem hi, hie], ?_, ⟨e2, e3, e4, by rw [withObj_size, e1], fun j hj => by rw [withObj_block _ _ _ _ hj, e1]⟩, fun ty => ?_⟩
    · simp [hbi] at hns
      exact hns
    · exact withObj_at _ _ _ (by rw [e1]; exact hrl)
    · have hcand : ((if (Array.filter (fun x => decide (x.born < n)) left).isEmpty = true then #[none] else #[]) ++ Array.map some (Array.filter (fun x => decide (x.born < n)) left ++ Array.filter (fun x => decide (x.born ≥ n)) left)) = Array.map some left := by
        rw [hl1, hl2, if_neg hemp]
        simp
      have hr1 : w1.heap[r]? = some (.mapIter (some m) n seen.toArray n) := by rw [e1]; exact hr
      simp only [Instr.next, getObj, Sem.run_bind, Sem.run, hr, hm, Result.andThen, hstop, Bool.false_eq_true, if_false, hleft, hcand, Array.size_map, hch]
      simp [hk, setObj, Sem.run, hr1, hbi, withObj]
end Go.Proofs.YtbcafaomfaainaaGreatDoor
