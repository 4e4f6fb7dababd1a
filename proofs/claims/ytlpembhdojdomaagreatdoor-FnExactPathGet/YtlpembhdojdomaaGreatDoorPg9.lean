/- Texts of the proof, put together by program: WSortN, WKeysP, WLook, MapIt, Shelf. -/
import Derived.Test.YtlpembhdojdomaaGreatDoorPg1
import Derived.Test.YtlpembhdojdomaaGreatDoorRows
import Derived.Sort.Grow
import Derived.Sort.EncStr
import Derived.Sort.OwnSorted
import Derived.Test.YtlpembhdojdomaaGreatDoorPg8
import Derived.Test.YtlpembhdojdomaaGreatDoorPg5
import Derived.Shelf.Sort.Plain
import Derived.Test.YtlpembhdojdomaaGreatDoorProg
/- slices.Sort of no text; what is asked of it else. -/
namespace Go.Proofs.YtlpembhdojdomaaGreatDoor
open Go.RowKit Go.Deep Go.Sort

/-- What slices.Sort does with texts. -/
def SortStrs : Prop := ∀ (blk cap : Nat) (ss : List (List UInt8)) (w : World), Holds encStr w blk 0 ss.toArray → blk < w.heap.size → ss.length < 4611686018427387904 →
    Calls Tryz.prog 117 #[.slice (some ⟨blk, 0, none⟩) ss.length cap] w fun e w' =>
      e = .returned (.tuple #[]) ∧ ∃ n os, w' = grow (putRow encStr (Sort.ahead w n) blk 0 (ss.mergeSort fun x y => decide (x ≤ y)).toArray) os

theorem insertion_nil (p : Option Addr) (cap : Nat) (w : World) :
    Calls Tryz.prog 120 #[.slice p 0 cap, .int .i64 0, .int .i64 0] w fun e w' => e = .returned (.tuple #[]) ∧ w' = w := by
  go_enter Tryz.func120, Tryz.ntmps120
  go_wp2
  refine wp_loop_rounds 1 ?_
  rw [rounds_succ]
  go_wp2
  go_end0
  exact ⟨rfl, rfl⟩

set_option maxRecDepth 100000 in
theorem pdq_nil (p : Option Addr) (cap : Nat) (w : World) :
    Calls Tryz.prog 118 #[.slice p 0 cap, .int .i64 0, .int .i64 0, .int .i64 0] w fun e w' => e = .returned (.tuple #[]) ∧ w' = w := by
  go_enter Tryz.func118, Tryz.ntmps118
  go_wp2
  refine wp_loop_rounds 1 ?_
  rw [rounds_succ]
  go_wp2_with (first | (go_at_call 120; refine (insertion_nil p cap _).mono ?_; rintro e w' ⟨rfl, rfl⟩))
  refine bodyPost_ret (results_none rfl _ _ _) rfl ?_
  exact ⟨rfl, rfl⟩

set_option maxRecDepth 100000 in
set_option maxHeartbeats 400000 in
theorem len64_zero (w : World) : Calls Tryz.prog 130 #[.int .u64 0] w fun e w' => e = .returned (.int .i64 0) ∧ w' = w := by
  go_enter Tryz.func130, Tryz.ntmps130
  go_wp2_with fail
  go_ret
  exact ⟨by kernel_rfl, rfl⟩

set_option maxRecDepth 100000 in
set_option maxHeartbeats 400000 in
theorem len_zero (w : World) : Calls Tryz.prog 119 #[.int .u64 0] w fun e w' => e = .returned (.int .i64 0) ∧ w' = w := by
  go_enter Tryz.func119, Tryz.ntmps119
  go_wp2_with fail
  refine (len64_zero _).mono ?_
  rintro e w' ⟨rfl, rfl⟩
  go_wp2_with fail
  go_ret
  exact ⟨rfl, rfl⟩

set_option maxRecDepth 100000 in
theorem sort_nil (p : Option Addr) (cap : Nat) (w : World) :
    Calls Tryz.prog 117 #[.slice p 0 cap] w fun e w' => e = .returned (.tuple #[]) ∧ w' = w := by
  go_enter Tryz.func117, Tryz.ntmps117
  go_wp2_with (first
    | (go_at_call 119; refine (len_zero _).mono ?_; rintro e w' ⟨rfl, rfl⟩)
    | (go_at_call 118; refine (pdq_nil p cap _).mono ?_; rintro e w' ⟨rfl, rfl⟩))
  go_end0
  exact ⟨rfl, rfl⟩
end Go.Proofs.YtlpembhdojdomaaGreatDoor

/- Texts in order: the sort of keys, in whatever order they came. -/
namespace Go.Proofs.YtlpembhdojdomaaGreatDoor
open Go.RowKit Go.Deep Go.Sort

theorem bytesLess_iff : ∀ (a b : List UInt8), Op.bytesLess a b = true ↔ a < b
  | _, [] => by cases ‹List UInt8› <;> simp [Op.bytesLess]
  | [], _ :: _ => by simp [Op.bytesLess]
  | x :: a, y :: b => by
    have ih := bytesLess_iff a b
    rw [List.cons_lt_cons_iff, ← ih]
    simp [Op.bytesLess]
theorem ltB_iff (a b : ByteArray) : ltB a b = true ↔ a.data.toList < b.data.toList := by
  rw [ltB, bytesLess_iff, ByteArray.toList_eq, ByteArray.toList_eq]
theorem keysB_sorted {ss : List ByteArray} (h : keysB ss = true) : (ss.map (fun s => s.data.toList)).Pairwise (fun a b => decide (a ≤ b) = true) := by
  rw [List.pairwise_map]
  refine (keysGo_pair ss none h).imp_of_mem ?_
  intro a b _ _ hab
  exact decide_eq_true (List.le_of_lt ((ltB_iff a b).1 hab))
theorem le_total_bytes (a b : List UInt8) : (decide (a ≤ b) || decide (b ≤ a)) = true := by
  rcases List.le_total a b with h | h
  · simp [h]
  · simp [h]
theorem le_trans_bytes (a b c : List UInt8) (h : decide (a ≤ b) = true) (k : decide (b ≤ c) = true) : decide (a ≤ c) = true := by
  simp only [decide_eq_true_eq] at h k ⊢
  exact List.le_trans h k
/-- The keys, in whatever order they came, sorted. -/
theorem sort_keys {ss : List ByteArray} (h : keysB ss = true) {cs : List (List UInt8)} (hp : cs.Perm (ss.map (fun s => s.data.toList))) : (cs.mergeSort fun x y => decide (x ≤ y)) = ss.map (fun s => s.data.toList) := by
  have h1 := List.pairwise_mergeSort (le := fun x y : List UInt8 => decide (x ≤ y)) le_trans_bytes le_total_bytes cs
  have h2 := (List.mergeSort_perm cs (fun x y => decide (x ≤ y))).trans hp
  refine h2.eq_of_pairwise ?_ h1 (keysB_sorted h)
  intro a b _ _ hab hba
  simp only [decide_eq_true_eq] at hab hba
  exact List.le_antisymm hab hba
theorem enc_keys (ss : List ByteArray) : (ss.map (fun s => s.data.toList)).map encStr = ss.map Value.string := by
  rw [List.map_map]
  rfl
theorem keysB_strOk : ∀ (ss : List ByteArray) (p : Option ByteArray), keysGo p ss = true → ∀ s ∈ ss, strOk s = true
  | [], _, _, _, h => by cases h
  | a :: r, none, h, s, hs => by
    simp only [keysGo, Bool.and_eq_true] at h
    cases hs with
    | head => exact h.1
    | tail _ hs => exact keysB_strOk r _ h.2 s hs
  | a :: r, some p, h, s, hs => by
    simp only [keysGo, Bool.and_eq_true] at h
    cases hs with
    | head => exact h.1
    | tail _ hs => exact keysB_strOk r _ h.2.2 s hs
theorem strOk_size {s : ByteArray} (h : strOk s = true) : s.size ≤ 12 := by
  simp [strOk] at h
  omega

/-- A row of texts that a call made is its own. -/
theorem strsOwn_of_row {N n : Nat} {w : World} {v : Value} {ss : List ByteArray} (h : w.ownsRow N 9 1 v n (ss.map Value.string)) (hn : n = ss.length) (hl : ss.length < 17592186044416) (hs : ∀ s ∈ ss, s.size < 281474976710656) :
    StrsOwn (fun b => N ≤ b ∧ b < w.heap.size) w v ss := by
  subst hn
  refine ⟨hl, hs, ?_⟩
  rcases h.2 with ⟨rfl, h0⟩ | ⟨g, cap, cur, rfl, hg, hh, hnc, _, hcs, htake⟩
  · exact ⟨none, 0, by rw [h0], Or.inl (List.eq_nil_of_length_eq_zero h0)⟩
  · refine ⟨some ⟨g, 0, none⟩, cap, rfl, Or.inr ⟨g, cap, fun i => cur.getD i undef, ⟨hg, (Array.getElem?_eq_some_iff.1 hh).1⟩, rfl, hnc, ⟨cur, hh, by rw [hcs, Nat.mul_one], fun i hi => ?_⟩, fun i s hi => ?_⟩⟩
    · simp [hcs, hi]
    · have hil := (List.getElem?_eq_some_iff.1 hi).1
      have h1 : (ss.map Value.string)[i]? = some (.string s) := by rw [List.getElem?_map, hi]; rfl
      rw [← htake, List.getElem?_take_of_lt (by omega), Array.getElem?_toList] at h1
      simp [Array.getD_eq_getD_getElem?, h1]
end Go.Proofs.YtlpembhdojdomaaGreatDoor

/- A map of the program's own trees, asked for a key. -/
namespace Go.Proofs.YtlpembhdojdomaaGreatDoor
open Go.RowKit Go.Deep

theorem findNow_at (s : ByteArray) : ∀ (l : List MapEntry) (j i : Nat) (e : MapEntry), l[j]? = some e → e.key = .string s → (∀ i' e', i' < j → l[i']? = some e' → ∃ k, e'.key = .string k ∧ k ≠ s) →
    Instr.findNow .string (.string s) l i = some (some (i + j, e.val))
  | [], j, _, _, h, _, _ => by simp at h
  | a :: r, 0, i, e, h, hk, _ => by
    simp at h
    subst h
    have hb : (s == s) = true := (MapKept.bytes_beq s s).2 rfl
    simp [Instr.findNow, hk, Instr.sameNow, hb]
  | a :: r, j + 1, i, e, h, hk, hn => by
    obtain ⟨k, ha, hne⟩ := hn 0 a (by omega) rfl
    have hb : (s == k) = false := by
      cases hb : (s == k)
      · rfl
      · exact absurd ((MapKept.bytes_beq s k).1 hb).symm hne
    have ih := findNow_at s r j (i + 1) e (by simpa using h) hk (fun i' e' hi he => hn (i' + 1) e' (by omega) (by simpa using he))
    simp only [Instr.findNow, ha, Instr.sameNow, hb]
    rw [ih]
    congr 3
    omega

theorem run_mapGet (w : World) (r clock j : Nat) (es : Array MapEntry) (s : ByteArray) (u : Value) (b : Nat) (ok : Bool) (hb : w.heap[r]? = some (.map es clock)) (hj : es[j]? = some ⟨.string s, u, b⟩)
    (hn : ∀ i' e', i' < j → es[i']? = some e' → ∃ k, e'.key = .string k ∧ k ≠ s) :
    (Instr.lookup 70 (.map (some r)) (.string s) ok).run Tryz.prog w = .ok (if ok then .tuple #[u, .bool true] else u) w := by
  have hf := findNow_at s es.toList j 0 ⟨.string s, u, b⟩ (by rw [Array.getElem?_toList]; exact hj) rfl (fun i' e' hi he => hn i' e' hi (by rw [Array.getElem?_toList] at he; exact he))
  have hk : ∀ fl, (Instr.checkKey fl 10000 9 (.string s)).run Tryz.prog w = .ok () w := fun fl =>
    MapKept.run_checkKey (P := Tryz.prog) (w := w) (k := .string s) Tryz.underlying9 trivial fl 9999
  have hfk := MapKept.run_findKey (P := Tryz.prog) (w := w) Tryz.underlying9 hf
  simp [Instr.lookup, run_underlying Tryz.underlying70, getObj, Sem.run, hb, hk, hfk]

theorem run_mapMiss (w : World) (r clock : Nat) (es : Array MapEntry) (s : ByteArray) (hb : w.heap[r]? = some (.map es clock)) (hn : ∀ e ∈ es.toList, ∃ k, e.key = .string k ∧ k ≠ s) :
    (Instr.lookup 70 (.map (some r)) (.string s) true).run Tryz.prog w = .ok (.tuple #[.nilIface, .bool false]) w := by
  have hf := findNow_none s es.toList 0 hn
  have hk : ∀ fl, (Instr.checkKey fl 10000 9 (.string s)).run Tryz.prog w = .ok () w := fun fl =>
    MapKept.run_checkKey (P := Tryz.prog) (w := w) (k := .string s) Tryz.underlying9 trivial fl 9999
  have hfk := MapKept.run_findKey (P := Tryz.prog) (w := w) Tryz.underlying9 hf
  simp [Instr.lookup, run_underlying Tryz.underlying70, getObj, Sem.run, hb, hk, hfk]

theorem keysB_nodup {ss : List ByteArray} (h : keysB ss = true) : ss.Nodup := by
  refine (keysGo_pair ss none h).imp_of_mem ?_
  intro a b _ _ hab e
  subst e
  have := (ltB_iff a a).1 hab
  exact absurd this (List.lt_irrefl _)

/-- Where a key of the map lies among its entries. -/
theorem MapG.find {α : Type} {At : α → Value → Prop} {es : Array MapEntry} {ps : List (ByteArray × α)} (h : MapG At es ps) (hnd : (ps.map Prod.fst).Nodup) {s : ByteArray} {x : α} (hx : (s, x) ∈ ps) :
    ∃ (j : Nat) (u : Value), ps[j]? = some (s, x) ∧ es[j]? = some (⟨.string s, u, j⟩ : MapEntry) ∧ At x u ∧ ∀ (i' : Nat) (e' : MapEntry), i' < j → es[i']? = some e' → ∃ k, e'.key = .string k ∧ k ≠ s := by
  obtain ⟨j, hj⟩ := List.getElem?_of_mem hx
  obtain ⟨u, hu, ha⟩ := h.2 j s x hj
  refine ⟨j, u, hj, hu, ha, fun i' e' hi he => ?_⟩
  have hjl := (List.getElem?_eq_some_iff.1 hj).1
  obtain ⟨u', hu', _⟩ := h.2 i' ps[i'].1 ps[i'].2 (List.getElem?_eq_getElem (by omega))
  rw [he] at hu'
  cases hu'
  refine ⟨_, rfl, fun e => ?_⟩
  have h1 : (ps.map Prod.fst)[i']? = some s := by rw [List.getElem?_map, List.getElem?_eq_getElem (by omega), ← e]; rfl
  have h2 : (ps.map Prod.fst)[j]? = some s := by rw [List.getElem?_map, hj]; rfl
  have := (List.getElem?_inj (by rw [List.length_map]; omega) hnd).1 (h1.trans h2.symm)
  omega
/-- A key that the map has not. -/
theorem MapG.miss {α : Type} {At : α → Value → Prop} {es : Array MapEntry} {ps : List (ByteArray × α)} (h : MapG At es ps) {s : ByteArray} (hs : s ∉ ps.map Prod.fst) : ∀ e ∈ es.toList, ∃ k, e.key = .string k ∧ k ≠ s := by
  intro e he
  obtain ⟨i, hi⟩ := List.getElem?_of_mem he
  rw [Array.getElem?_toList] at hi
  have hil := (Array.getElem?_eq_some_iff.1 hi).1
  have hil2 : i < ps.length := by rw [← h.1]; exact hil
  obtain ⟨u, hu, _⟩ := h.2 i ps[i].1 ps[i].2 (List.getElem?_eq_getElem hil2)
  rw [hi] at hu
  cases hu
  exact ⟨_, rfl, fun e => hs (by rw [← e]; exact List.mem_map.2 ⟨ps[i], List.getElem_mem hil2, rfl⟩)⟩
theorem perm_nodup {α : Type} {ps : List (ByteArray × α)} {keys : List ByteArray} {xs : List α} (hp : ps.Perm (keys.zip xs)) (hkx : keys.length = xs.length) (hkb : keysB keys = true) : (ps.map Prod.fst).Nodup := by
  have h := hp.map Prod.fst
  rw [List.map_fst_zip (by omega)] at h
  exact h.nodup_iff.2 (keysB_nodup hkb)
end Go.Proofs.YtlpembhdojdomaaGreatDoor

/- Going through a map that was filled in order: whichever entry comes next. -/
namespace Go.Proofs.YtlpembhdojdomaaGreatDoor
open Go.RowKit Go.Deep

theorem find_born : ∀ (l : List MapEntry) (o i : Nat) (e : MapEntry), (∀ j x, l[j]? = some x → x.born = o + j) → l[i]? = some e → l.find? (fun x => x.born == o + i) = some e
  | [], _, i, _, _, h => by simp at h
  | a :: r, o, 0, e, hb, h => by
    simp at h
    subst h
    have := hb 0 a rfl
    simp [this]
  | a :: r, o, i + 1, e, hb, h => by
    have h0 := hb 0 a rfl
    have ih := find_born r (o + 1) i e (fun j x hx => by have := hb (j + 1) x (by simpa using hx); omega) (by simpa using h)
    have hne : (a.born == o + (i + 1)) = false := by rw [beq_eq_false_iff_ne]; omega
    rw [List.find?_cons, hne]
    simpa [Nat.add_assoc, Nat.add_comm 1 i] using ih

/-- The iterator in block r has passed the entries of these numbers. -/
def Iter (w : World) (r m n : Nat) (seen : List Nat) : Prop := w.heap[r]? = some (.mapIter (some m) n seen.toArray n)

/-- What is the same in two worlds but for one block. -/
structure OneOff (r : Nat) (w w' : World) : Prop where
  os : w'.os = w.os
  tape : w'.tape = w.tape
  output : w'.output = w.output
  size : w'.heap.size = w.heap.size
  block : ∀ k, k ≠ r → w'.heap[k]? = w.heap[k]?

theorem run_range_map {P : Program} {T K E : TypeId} (hT : P.underlying T = some (.map K E)) (w : World) (m n : Nat) (es : Array MapEntry) (hm : w.heap[m]? = some (.map es n)) :
    (Instr.range T (.map (some m))).run P w = .ok (.pointer (some ⟨w.heap.size, 0, none⟩)) (w.alloc (.mapIter (some m) n #[] n)) := by
  simp [Instr.range, run_underlying hT, getObj, Sem.run, hm]

theorem run_entry_map {P : Program} (w : World) (r m n i : Nat) (seen : List Nat) (es : Array MapEntry) (e : MapEntry) (hr : Iter w r m n (seen ++ [i])) (hm : w.heap[m]? = some (.map es n))
    (hb : ∀ (j : Nat) (x : MapEntry), es[j]? = some x → x.born = j) (he : es[i]? = some e) :
    (Instr.entry (.pointer (some ⟨r, 0, none⟩))).run P w = .ok (.tuple #[e.key, e.val]) w := by
  have hf : es.find? (fun x => x.born == i) = some e := by
    have := find_born es.toList 0 i e (fun j x hx => by rw [Array.getElem?_toList] at hx; rw [hb j x hx]; omega) (by rw [Array.getElem?_toList]; exact he)
    rw [Nat.zero_add] at this
    rw [← Array.find?_toList]
    exact this
  unfold Iter at hr
  simp [Instr.entry, getObj, Sem.run, hr, hm, hf]

/-- The entries that are still to come. -/
theorem next_left (es : Array MapEntry) (seen : List Nat) (n : Nat) (hb : ∀ (j : Nat) (x : MapEntry), es[j]? = some x → x.born = j) (hs : es.size = n) :
    ((es.filter fun e => !seen.toArray.contains e.born).filter (fun e => decide (e.born < n))) = (es.filter fun e => !seen.toArray.contains e.born) ∧
    ((es.filter fun e => !seen.toArray.contains e.born).filter (fun e => decide (e.born ≥ n))) = #[] := by
  have hlt : ∀ e ∈ es, e.born < n := fun e he => by
    obtain ⟨j, hj, rfl⟩ := Array.getElem_of_mem he
    rw [hb j _ (Array.getElem?_eq_getElem hj)]
    omega
  constructor
  · rw [Array.filter_eq_self]
    intro e he
    exact decide_eq_true (hlt e (Array.mem_filter.1 he).1)
  · rw [Array.filter_eq_empty_iff]
    intro e he
    have := hlt e (Array.mem_filter.1 he).1
    simp
    omega

theorem run_choose_map {P : Program} (w : World) (s : Nat) (h : 0 < s) : ∃ k w1, (choose (.mapNext s)).run P w = .ok k w1 ∧ k < s ∧ w1.heap = w.heap ∧ w1.os = w.os ∧ w1.tape = w.tape ∧ w1.output = w.output := by
  by_cases h1 : s ≤ 1
  · exact ⟨0, w, by simp [choose, Sem.run, Question.forced, h1], h, rfl, rfl, rfl, rfl⟩
  · refine ⟨w.tape w.drawn (.mapNext s) % s, { w with drawn := w.drawn + 1 }, by simp [choose, Sem.run, Question.forced, h1, Question.cut], Nat.mod_lt _ h, rfl, rfl, rfl, rfl⟩

theorem run_next_map {P : Program} (w : World) (r m n : Nat) (seen : List Nat) (es : Array MapEntry) (hr : Iter w r m n seen) (hm : w.heap[m]? = some (.map es n)) (hs : es.size = n) (hb : ∀ (j : Nat) (x : MapEntry), es[j]? = some x → x.born = j) :
    ((∀ i, i < n → i ∈ seen) ∧ ∀ ty, (Instr.next (.pointer (some ⟨r, 0, none⟩)) false ty).run P w = .ok (.tuple #[.bool false]) w) ∨
    ∃ i e w', i < n ∧ i ∉ seen ∧ es[i]? = some e ∧ Iter w' r m n (seen ++ [i]) ∧ OneOff r w w' ∧ ∀ ty, (Instr.next (.pointer (some ⟨r, 0, none⟩)) false ty).run P w = .ok (.tuple #[.bool true, e.key, e.val]) w' := by
  obtain ⟨hl1, hl2⟩ := next_left es seen n hb hs
  have hrl : r < w.heap.size := (Array.getElem?_eq_some_iff.1 hr).1
  unfold Iter at hr
  have hstop : (!seen.toArray.isEmpty && !es.isEmpty && es.all (fun x => decide (x.born ≥ n))) = false := by
    by_cases he : es.isEmpty = true
    · simp [he]
    · have h0 : 0 < es.size := by
        rcases Nat.eq_zero_or_pos es.size with h | h
        · exact absurd (by simpa using h) he
        · exact h
      have : es.all (fun x => decide (x.born ≥ n)) = false := by
        cases hc : es.all (fun x => decide (x.born ≥ n)) with
        | false => rfl
        | true =>
          have := Array.all_eq_true.1 hc 0 h0
          rw [hb 0 _ (Array.getElem?_eq_getElem h0)] at this
          simp at this
          omega
      simp [this]
  generalize hleft : (es.filter fun e => !seen.toArray.contains e.born) = left at hl1 hl2
  by_cases hemp : left.isEmpty = true
  · left
    obtain rfl : left = #[] := by simpa using hemp
    refine ⟨fun i hi => ?_, fun ty => ?_⟩
    · have hn : es[i]'(by omega) ∉ (es.filter fun e => !seen.toArray.contains e.born) := by rw [hleft]; simp
      have hb2 := hb i _ (Array.getElem?_eq_getElem (by omega))
      simp [Array.mem_filter, hb2] at hn
      exact hn
    · simp only [Instr.next, getObj, Sem.run_bind, Sem.run, hr, hm, Result.andThen, hstop, Bool.false_eq_true, if_false, hleft]
      simp [choose, Sem.run, Question.forced, pure]
  · right
    have hpos : 0 < left.size := by
      rcases Nat.eq_zero_or_pos left.size with h | h
      · exact absurd (by simpa using h) hemp
      · exact h
    obtain ⟨k, w1, hch, hk, e1, e2, e3, e4⟩ := run_choose_map (P := P) w left.size hpos
    have hmem : left[k] ∈ (es.filter fun e => !seen.toArray.contains e.born) := by rw [hleft]; exact Array.getElem_mem hk
    obtain ⟨hme, hns⟩ := Array.mem_filter.1 hmem
    obtain ⟨i, hi, hie⟩ := Array.getElem_of_mem hme
    have hbi := hb i _ (Array.getElem?_eq_getElem hi)
    rw [hie] at hbi
    refine ⟨i, left[k], withObj w1 r (.mapIter (some m) n (seen ++ [i]).toArray n), by omega, ?_, by rw [Array.getElem?_eq_getElem hi, hie], ?_, ⟨e2, e3, e4, by rw [withObj_size, e1], fun j hj => by rw [withObj_block _ _ _ _ hj, e1]⟩, fun ty => ?_⟩
    · simp [hbi] at hns
      exact hns
    · exact withObj_at _ _ _ (by rw [e1]; exact hrl)
    · have hcand : ((if (Array.filter (fun x => decide (x.born < n)) left).isEmpty = true then #[none] else #[]) ++ Array.map some (Array.filter (fun x => decide (x.born < n)) left ++ Array.filter (fun x => decide (x.born ≥ n)) left)) = Array.map some left := by
        rw [hl1, hl2, if_neg hemp]
        simp
      have hr1 : w1.heap[r]? = some (.mapIter (some m) n seen.toArray n) := by rw [e1]; exact hr
      simp only [Instr.next, getObj, Sem.run_bind, Sem.run, hr, hm, Result.andThen, hstop, Bool.false_eq_true, if_false, hleft, hcand, Array.size_map, hch]
      simp [hk, setObj, Sem.run, hr1, hbi, withObj]
end Go.Proofs.YtlpembhdojdomaaGreatDoor

/- The library's sort at this program's numbers: laid by program. -/
namespace Go.Proofs
open Go.Shelf
def Tryz.lays190_ren : Go.Shelf.Ren := ⟨fun | 190 => 117 | 125 => 119 | 258 => 118 | 128 => 129 | 129 => 130 | 302 => 120 | 303 => 121 | 304 => 122 | 305 => 123 | 306 => 124 | 307 => 125 | 308 => 126 | 309 => 127 | 310 => 128 | 333 => 131 | 329 => 132 | 330 => 133 | 334 => 134 | 335 => 135 | 336 => 136 | 344 => 137 | n => n, fun | 31 => 22 | 9 => 9 | 3 => 3 | 46 => 183 | 0 => 0 | 51 => 171 | 53 => 195 | 4 => 4 | 183 => 186 | 182 => 185 | 131 => 191 | 5 => 5 | 218 => 196 | 222 => 200 | 228 => 202 | 229 => 203 | n => n, fun | n => n⟩
theorem Tryz.lays190 : Go.Proofs.Lays.n190 Tryz.prog Tryz.lays190_ren := {
  mixed := by kernel_rfl
  f125 := Tryz.func119.trans (congrArg some (by kernel_rfl))
  f128 := Tryz.func129.trans (congrArg some (by kernel_rfl))
  f129 := Tryz.func130.trans (congrArg some (by kernel_rfl))
  f190 := Tryz.func117.trans (congrArg some (by kernel_rfl))
  f258 := Tryz.func118.trans (congrArg some (by kernel_rfl))
  f302 := Tryz.func120.trans (congrArg some (by kernel_rfl))
  f303 := Tryz.func121.trans (congrArg some (by kernel_rfl))
  f304 := Tryz.func122.trans (congrArg some (by kernel_rfl))
  f305 := Tryz.func123.trans (congrArg some (by kernel_rfl))
  f306 := Tryz.func124.trans (congrArg some (by kernel_rfl))
  f307 := Tryz.func125.trans (congrArg some (by kernel_rfl))
  f308 := Tryz.func126.trans (congrArg some (by kernel_rfl))
  f309 := Tryz.func127.trans (congrArg some (by kernel_rfl))
  f310 := Tryz.func128.trans (congrArg some (by kernel_rfl))
  f329 := Tryz.func132.trans (congrArg some (by kernel_rfl))
  f330 := Tryz.func133.trans (congrArg some (by kernel_rfl))
  f333 := Tryz.func131.trans (congrArg some (by kernel_rfl))
  f334 := Tryz.func134.trans (congrArg some (by kernel_rfl))
  f335 := Tryz.func135.trans (congrArg some (by kernel_rfl))
  f336 := Tryz.func136.trans (congrArg some (by kernel_rfl))
  f344 := Tryz.func137.trans (congrArg some (by kernel_rfl))
  t0 := Tryz.underlying0
  a0 := Tryz.isAgg0
  z0 := Tryz.sizeOf0
  v0 := Tryz.zeroValue0
  t3 := Tryz.underlying3
  a3 := Tryz.isAgg3
  z3 := Tryz.sizeOf3
  v3 := Tryz.zeroValue3
  t4 := Tryz.underlying4
  a4 := Tryz.isAgg4
  z4 := Tryz.sizeOf4
  v4 := Tryz.zeroValue4
  t5 := Tryz.underlying5
  a5 := Tryz.isAgg5
  z5 := Tryz.sizeOf5
  v5 := Tryz.zeroValue5
  t9 := Tryz.underlying9
  a9 := Tryz.isAgg9
  z9 := Tryz.sizeOf9
  v9 := Tryz.zeroValue9
  t31 := Tryz.underlying22
  a31 := Tryz.isAgg22
  z31 := Tryz.sizeOf22
  v31 := Tryz.zeroValue22
  t46 := Tryz.underlying183
  a46 := Tryz.isAgg183
  z46 := Tryz.sizeOf183
  v46 := Tryz.zeroValue183
  t51 := Tryz.underlying171
  a51 := Tryz.isAgg171
  z51 := Tryz.sizeOf171
  v51 := Tryz.zeroValue171
  t53 := Tryz.underlying195
  a53 := Tryz.isAgg195
  z53 := Tryz.sizeOf195
  v53 := Tryz.zeroValue195
  t131 := Tryz.underlying191
  a131 := Tryz.isAgg191
  z131 := Tryz.sizeOf191
  v131 := Tryz.zeroValue191
  t182 := Tryz.underlying185
  a182 := Tryz.isAgg185
  z182 := Tryz.sizeOf185
  v182 := Tryz.zeroValue185
  t183 := Tryz.underlying186
  a183 := Tryz.isAgg186
  z183 := Tryz.sizeOf186
  v183 := Tryz.zeroValue186
  t218 := Tryz.underlying196
  a218 := Tryz.isAgg196
  z218 := Tryz.sizeOf196
  v218 := Tryz.zeroValue196
  t222 := Tryz.underlying200
  a222 := Tryz.isAgg200
  z222 := Tryz.sizeOf200
  v222 := Tryz.zeroValue200
  t228 := Tryz.underlying202
  a228 := Tryz.isAgg202
  z228 := Tryz.sizeOf202
  v228 := Tryz.zeroValue202
  t229 := Tryz.underlying203
  a229 := Tryz.isAgg203
  z229 := Tryz.sizeOf203
  v229 := Tryz.zeroValue203 }
end Go.Proofs
