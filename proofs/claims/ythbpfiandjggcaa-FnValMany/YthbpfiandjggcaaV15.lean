/- Texts of the proof, put together by program: WValB, WLook, MapIt, WSort, WKeys, WValC, WImplV, WAs, WAsHit, WTold, WAssert, WGiven, WLenA. -/
import Derived.Test.YthbpfiandjggcaaV11
import Derived.Test.YthbpfiandjggcaaV10
import Derived.Test.YthbpfiandjggcaaV4
import Derived.Deep.LoopGhost
import Derived.Test.YthbpfiandjggcaaV9
import Derived.Test.YthbpfiandjggcaaV5
import Derived.LaidEql
import Derived.Stop.Asserts
import Derived.Lib.ReflectliteSlice
import Derived.RowKitTokens
import Derived.Test.YthbpfiandjggcaaV1
import Derived.Test.YthbpfiandjggcaaRows
import Derived.Test.YthbpfiandjggcaaV3
/- val of rows. -/
namespace Go.Proofs.Ythbpfiandjggcaa
open Go.RowKit Go.Deep

end Go.Proofs.Ythbpfiandjggcaa

/- A map of the program's own trees, asked for a key. -/
namespace Go.Proofs.Ythbpfiandjggcaa
open Go.RowKit Go.Deep

theorem findNow_at (s : ByteArray) : ∀ (l : List MapEntry) (j i : Nat) (e : MapEntry), l[j]? = some e → e.key = .string s → (∀ i' e', i' < j → l[i']? = some e' → ∃ k, e'.key = .string k ∧ k ≠ s) →
    Instr.findNow .string (.string s) l i = some (some (i + j, e.val))
  | [], j, _, _, h, _, _ => by simp at h
  | a :: r, 0, i, e, h, hk, _ => by
    simp at h
    subst h
    have hb : (s == s) = true := (MapKept.bytes_beq s s).2 rfl
    simp [Instr.findNow, hk, Instr.sameNow, hb]
  | a :: r, j + 1, i, e, h, hk, hn => by
    obtain ⟨k, ha, hne⟩ := hn 0 a (by omega) rfl
    have hb : (s == k) = false := by
      cases hb : (s == k)
      · rfl
      · exact absurd ((MapKept.bytes_beq s k).1 hb).symm hne
    have ih := findNow_at s r j (i + 1) e (by simpa using h) hk (fun i' e' hi he => hn (i' + 1) e' (by omega) (by simpa using he))
    simp only [Instr.findNow, ha, Instr.sameNow, hb]
    rw [ih]
    congr 3
    omega

theorem run_mapGet (w : World) (r clock j : Nat) (es : Array MapEntry) (s : ByteArray) (u : Value) (b : Nat) (ok : Bool) (hb : w.heap[r]? = some (.map es clock)) (hj : es[j]? = some ⟨.string s, u, b⟩)
    (hn : ∀ i' e', i' < j → es[i']? = some e' → ∃ k, e'.key = .string k ∧ k ≠ s) :
    (Instr.lookup 92 (.map (some r)) (.string s) ok).run Try.prog w = .ok (if ok then .tuple #[u, .bool true] else u) w := by
  have hf := findNow_at s es.toList j 0 ⟨.string s, u, b⟩ (by rw [Array.getElem?_toList]; exact hj) rfl (fun i' e' hi he => hn i' e' hi (by rw [Array.getElem?_toList] at he; exact he))
  have hk : ∀ fl, (Instr.checkKey fl 10000 9 (.string s)).run Try.prog w = .ok () w := fun fl =>
    MapKept.run_checkKey (P := Try.prog) (w := w) (k := .string s) Try.underlying9 trivial fl 9999
  have hfk := MapKept.run_findKey (P := Try.prog) (w := w) Try.underlying9 hf
  simp [Instr.lookup, run_underlying Try.underlying92, getObj, Sem.run, hb, hk, hfk]

theorem run_mapMiss (w : World) (r clock : Nat) (es : Array MapEntry) (s : ByteArray) (hb : w.heap[r]? = some (.map es clock)) (hn : ∀ e ∈ es.toList, ∃ k, e.key = .string k ∧ k ≠ s) :
    (Instr.lookup 92 (.map (some r)) (.string s) true).run Try.prog w = .ok (.tuple #[.nilIface, .bool false]) w := by
  have hf := findNow_none s es.toList 0 hn
  have hk : ∀ fl, (Instr.checkKey fl 10000 9 (.string s)).run Try.prog w = .ok () w := fun fl =>
    MapKept.run_checkKey (P := Try.prog) (w := w) (k := .string s) Try.underlying9 trivial fl 9999
  have hfk := MapKept.run_findKey (P := Try.prog) (w := w) Try.underlying9 hf
  simp [Instr.lookup, run_underlying Try.underlying92, getObj, Sem.run, hb, hk, hfk]

theorem keysB_nodup {ss : List ByteArray} (h : keysB ss = true) : ss.Nodup := by
  refine (keysGo_pair ss none h).imp_of_mem ?_
  intro a b _ _ hab e
  subst e
  have := (ltB_iff a a).1 hab
  exact absurd this (List.lt_irrefl _)

/-- Where a key of the map lies among its entries. -/
theorem MapG.find {α : Type} {At : α → Value → Prop} {es : Array MapEntry} {ps : List (ByteArray × α)} (h : MapG At es ps) (hnd : (ps.map Prod.fst).Nodup) {s : ByteArray} {x : α} (hx : (s, x) ∈ ps) :
    ∃ (j : Nat) (u : Value), ps[j]? = some (s, x) ∧ es[j]? = some (⟨.string s, u, j⟩ : MapEntry) ∧ At x u ∧ ∀ (i' : Nat) (e' : MapEntry), i' < j → es[i']? = some e' → ∃ k, e'.key = .string k ∧ k ≠ s := by
  obtain ⟨j, hj⟩ := List.getElem?_of_mem hx
  obtain ⟨u, hu, ha⟩ := h.2 j s x hj
  refine ⟨j, u, hj, hu, ha, fun i' e' hi he => ?_⟩
  have hjl := (List.getElem?_eq_some_iff.1 hj).1
  obtain ⟨u', hu', _⟩ := h.2 i' ps[i'].1 ps[i'].2 (List.getElem?_eq_getElem (by omega))
  rw [he] at hu'
  cases hu'
  refine ⟨_, rfl, fun e => ?_⟩
  have h1 : (ps.map Prod.fst)[i']? = some s := by rw [List.getElem?_map, List.getElem?_eq_getElem (by omega), ← e]; rfl
  have h2 : (ps.map Prod.fst)[j]? = some s := by rw [List.getElem?_map, hj]; rfl
  have := (List.getElem?_inj (by rw [List.length_map]; omega) hnd).1 (h1.trans h2.symm)
  omega
/-- A key that the map has not. -/
theorem MapG.miss {α : Type} {At : α → Value → Prop} {es : Array MapEntry} {ps : List (ByteArray × α)} (h : MapG At es ps) {s : ByteArray} (hs : s ∉ ps.map Prod.fst) : ∀ e ∈ es.toList, ∃ k, e.key = .string k ∧ k ≠ s := by
  intro e he
  obtain ⟨i, hi⟩ := List.getElem?_of_mem he
  rw [Array.getElem?_toList] at hi
  have hil := (Array.getElem?_eq_some_iff.1 hi).1
  have hil2 : i < ps.length := by rw [← h.1]; exact hil
  obtain ⟨u, hu, _⟩ := h.2 i ps[i].1 ps[i].2 (List.getElem?_eq_getElem hil2)
  rw [hi] at hu
  cases hu
  exact ⟨_, rfl, fun e => hs (by rw [← e]; exact List.mem_map.2 ⟨ps[i], List.getElem_mem hil2, rfl⟩)⟩
theorem perm_nodup {α : Type} {ps : List (ByteArray × α)} {keys : List ByteArray} {xs : List α} (hp : ps.Perm (keys.zip xs)) (hkx : keys.length = xs.length) (hkb : keysB keys = true) : (ps.map Prod.fst).Nodup := by
  have h := hp.map Prod.fst
  rw [List.map_fst_zip (by omega)] at h
  exact h.nodup_iff.2 (keysB_nodup hkb)
end Go.Proofs.Ythbpfiandjggcaa

/- Going through a map that was filled in order: whichever entry comes next. -/
namespace Go.Proofs.Ythbpfiandjggcaa
open Go.RowKit Go.Deep

theorem find_born : ∀ (l : List MapEntry) (o i : Nat) (e : MapEntry), (∀ j x, l[j]? = some x → x.born = o + j) → l[i]? = some e → l.find? (fun x => x.born == o + i) = some e
  | [], _, i, _, _, h => by simp at h
  | a :: r, o, 0, e, hb, h => by
    simp at h
    subst h
    have := hb 0 a rfl
    simp [this]
  | a :: r, o, i + 1, e, hb, h => by
    have h0 := hb 0 a rfl
    have ih := find_born r (o + 1) i e (fun j x hx => by have := hb (j + 1) x (by simpa using hx); omega) (by simpa using h)
    have hne : (a.born == o + (i + 1)) = false := by rw [beq_eq_false_iff_ne]; omega
    rw [List.find?_cons, hne]
    simpa [Nat.add_assoc, Nat.add_comm 1 i] using ih

/-- The iterator in block r has passed the entries of these numbers. -/
def Iter (w : World) (r m n : Nat) (seen : List Nat) : Prop := w.heap[r]? = some (.mapIter (some m) n seen.toArray n)

/-- What is the same in two worlds but for one block. -/
structure OneOff (r : Nat) (w w' : World) : Prop where
  os : w'.os = w.os
  tape : w'.tape = w.tape
  output : w'.output = w.output
  size : w'.heap.size = w.heap.size
  block : ∀ k, k ≠ r → w'.heap[k]? = w.heap[k]?

theorem run_range_map {P : Program} {T K E : TypeId} (hT : P.underlying T = some (.map K E)) (w : World) (m n : Nat) (es : Array MapEntry) (hm : w.heap[m]? = some (.map es n)) :
    (Instr.range T (.map (some m))).run P w = .ok (.pointer (some ⟨w.heap.size, 0, none⟩)) (w.alloc (.mapIter (some m) n #[] n)) := by
  simp [Instr.range, run_underlying hT, getObj, Sem.run, hm]

theorem run_entry_map {P : Program} (w : World) (r m n i : Nat) (seen : List Nat) (es : Array MapEntry) (e : MapEntry) (hr : Iter w r m n (seen ++ [i])) (hm : w.heap[m]? = some (.map es n))
    (hb : ∀ (j : Nat) (x : MapEntry), es[j]? = some x → x.born = j) (he : es[i]? = some e) :
    (Instr.entry (.pointer (some ⟨r, 0, none⟩))).run P w = .ok (.tuple #[e.key, e.val]) w := by
  have hf : es.find? (fun x => x.born == i) = some e := by
    have := find_born es.toList 0 i e (fun j x hx => by rw [Array.getElem?_toList] at hx; rw [hb j x hx]; omega) (by rw [Array.getElem?_toList]; exact he)
    rw [Nat.zero_add] at this
    rw [← Array.find?_toList]
    exact this
  unfold Iter at hr
  simp [Instr.entry, getObj, Sem.run, hr, hm, hf]

/-- The entries that are still to come. -/
theorem next_left (es : Array MapEntry) (seen : List Nat) (n : Nat) (hb : ∀ (j : Nat) (x : MapEntry), es[j]? = some x → x.born = j) (hs : es.size = n) :
    ((es.filter fun e => !seen.toArray.contains e.born).filter (fun e => decide (e.born < n))) = (es.filter fun e => !seen.toArray.contains e.born) ∧
    ((es.filter fun e => !seen.toArray.contains e.born).filter (fun e => decide (e.born ≥ n))) = #[] := by
  have hlt : ∀ e ∈ es, e.born < n := fun e he => by
    obtain ⟨j, hj, rfl⟩ := Array.getElem_of_mem he
    rw [hb j _ (Array.getElem?_eq_getElem hj)]
    omega
  constructor
  · rw [Array.filter_eq_self]
    intro e he
    exact decide_eq_true (hlt e (Array.mem_filter.1 he).1)
  · rw [Array.filter_eq_empty_iff]
    intro e he
    have := hlt e (Array.mem_filter.1 he).1
    simp
    omega

theorem run_choose_map {P : Program} (w : World) (s : Nat) (h : 0 < s) : ∃ k w1, (choose (.mapNext s)).run P w = .ok k w1 ∧ k < s ∧ w1.heap = w.heap ∧ w1.os = w.os ∧ w1.tape = w.tape ∧ w1.output = w.output := by
  by_cases h1 : s ≤ 1
  · exact ⟨0, w, by simp [choose, Sem.run, Question.forced, h1], h, rfl, rfl, rfl, rfl⟩
  · refine ⟨w.tape w.drawn (.mapNext s) % s, { w with drawn := w.drawn + 1 }, by simp [choose, Sem.run, Question.forced, h1, Question.cut], Nat.mod_lt _ h, rfl, rfl, rfl, rfl⟩

theorem run_next_map {P : Program} (w : World) (r m n : Nat) (seen : List Nat) (es : Array MapEntry) (hr : Iter w r m n seen) (hm : w.heap[m]? = some (.map es n)) (hs : es.size = n) (hb : ∀ (j : Nat) (x : MapEntry), es[j]? = some x → x.born = j) :
    ((∀ i, i < n → i ∈ seen) ∧ ∀ ty, (Instr.next (.pointer (some ⟨r, 0, none⟩)) false ty).run P w = .ok (.tuple #[.bool false]) w) ∨
    ∃ i e w', i < n ∧ i ∉ seen ∧ es[i]? = some e ∧ Iter w' r m n (seen ++ [i]) ∧ OneOff r w w' ∧ ∀ ty, (Instr.next (.pointer (some ⟨r, 0, none⟩)) false ty).run P w = .ok (.tuple #[.bool true, e.key, e.val]) w' := by
  obtain ⟨hl1, hl2⟩ := next_left es seen n hb hs
  have hrl : r < w.heap.size := (Array.getElem?_eq_some_iff.1 hr).1
  unfold Iter at hr
  have hstop : (!seen.toArray.isEmpty && !es.isEmpty && es.all (fun x => decide (x.born ≥ n))) = false := by
    by_cases he : es.isEmpty = true
    · simp [he]
    · have h0 : 0 < es.size := by
        rcases Nat.eq_zero_or_pos es.size with h | h
        · exact absurd (by simpa using h) he
        · exact h
      have : es.all (fun x => decide (x.born ≥ n)) = false := by
        cases hc : es.all (fun x => decide (x.born ≥ n)) with
        | false => rfl
        | true =>
          have := Array.all_eq_true.1 hc 0 h0
          rw [hb 0 _ (Array.getElem?_eq_getElem h0)] at this
          simp at this
          omega
      simp [this]
  generalize hleft : (es.filter fun e => !seen.toArray.contains e.born) = left at hl1 hl2
  by_cases hemp : left.isEmpty = true
  · left
    obtain rfl : left = #[] := by simpa using hemp
    refine ⟨fun i hi => ?_, fun ty => ?_⟩
    · have hn : es[i]'(by omega) ∉ (es.filter fun e => !seen.toArray.contains e.born) := by rw [hleft]; simp
      have hb2 := hb i _ (Array.getElem?_eq_getElem (by omega))
      simp [Array.mem_filter, hb2] at hn
      exact hn
    · simp only [Instr.next, getObj, Sem.run_bind, Sem.run, hr, hm, Result.andThen, hstop, Bool.false_eq_true, if_false, hleft]
      simp [choose, Sem.run, Question.forced, pure]
  · right
    have hpos : 0 < left.size := by
      rcases Nat.eq_zero_or_pos left.size with h | h
      · exact absurd (by simpa using h) hemp
      · exact h
    obtain ⟨k, w1, hch, hk, e1, e2, e3, e4⟩ := run_choose_map (P := P) w left.size hpos
    have hmem : left[k] ∈ (es.filter fun e => !seen.toArray.contains e.born) := by rw [hleft]; exact Array.getElem_mem hk
    obtain ⟨hme, hns⟩ := Array.mem_filter.1 hmem
    obtain ⟨i, hi, hie⟩ := Array.getElem_of_mem hme
    have hbi := hb i _ (Array.getElem?_eq_getElem hi)
    rw [hie] at hbi
    refine ⟨i, left[k], withObj w1 r (.mapIter (some m) n (seen ++ [i]).toArray n), by omega, ?_, by rw [Array.getElem?_eq_getElem hi, hie], ?_, ⟨e2, e3, e4, by rw [withObj_size, e1], fun j hj => by rw [withObj_block _ _ _ _ hj, e1]⟩, fun ty => ?_⟩
    · simp [hbi] at hns
      exact hns
    · exact withObj_at _ _ _ (by rw [e1]; exact hrl)
    · have hcand : ((if (Array.filter (fun x => decide (x.born < n)) left).isEmpty = true then #[none] else #[]) ++ Array.map some (Array.filter (fun x => decide (x.born < n)) left ++ Array.filter (fun x => decide (x.born ≥ n)) left)) = Array.map some left := by
        rw [hl1, hl2, if_neg hemp]
        simp
      have hr1 : w1.heap[r]? = some (.mapIter (some m) n seen.toArray n) := by rw [e1]; exact hr
      simp only [Instr.next, getObj, Sem.run_bind, Sem.run, hr, hm, Result.andThen, hstop, Bool.false_eq_true, if_false, hleft, hcand, Array.size_map, hch]
      simp [hk, setObj, Sem.run, hr1, hbi, withObj]
end Go.Proofs.Ythbpfiandjggcaa

/- slices.Sort of texts, as the library's own contract has it. -/
namespace Go.Proofs.Ythbpfiandjggcaa
open Go.RowKit Go.Deep Go.Sort

end Go.Proofs.Ythbpfiandjggcaa

/- mapTree.keys: the keys, in order, in new memory. -/
namespace Go.Proofs.Ythbpfiandjggcaa
open Go.RowKit Go.Deep Go.Sort

/-- The key at a place. -/
def kAt {α : Type} (ps : List (ByteArray × α)) (i : Nat) : ByteArray := (ps.map Prod.fst).getD i ByteArray.empty
theorem OneOff.grown {r : Nat} {w w' : World} (h : OneOff r w w') : w.grownBy w' (some r) := ⟨h.os, h.tape, h.output, by rw [h.size]; exact Nat.le_refl _, fun k _ hk => h.block k (fun e => hk (by rw [e]))⟩
theorem kAt_range {α : Type} (ps : List (ByteArray × α)) : (List.range ps.length).map (kAt ps) = ps.map Prod.fst := by
  apply List.ext_getElem
  · simp
  · intro i h1 h2
    simp only [List.length_map, List.length_range] at h1
    simp [kAt, h1]
theorem seen_all_perm {n : Nat} {seen : List Nat} (hd : seen.Nodup) (hl : ∀ i ∈ seen, i < n) (ha : ∀ i, i < n → i ∈ seen) : seen.Perm (List.range n) := by
  rw [List.perm_ext_iff_of_nodup hd List.nodup_range]
  intro a
  simp only [List.mem_range]
  exact ⟨hl a, ha a⟩
theorem seen_len_le {n : Nat} {seen : List Nat} (hd : seen.Nodup) (hl : ∀ i ∈ seen, i < n) : seen.length ≤ n := by
  have := List.Nodup.length_le_of_subset hd (l₂ := List.range n) (fun i hi => List.mem_range.2 (hl i hi))
  simpa using this
theorem zip_fst {α : Type} (ks : List ByteArray) (xs : List α) (h : ks.length = xs.length) : (ks.zip xs).map Prod.fst = ks := by
  rw [List.map_fst_zip (by omega)]

/-- What a loop over a map's keys has gathered. -/
structure Gathered (w wr : World) (r m n N : Nat) (v : Value) (seen : List Nat) (ks : Nat → ByteArray) : Prop where
  nodup : seen.Nodup
  lt : ∀ i ∈ seen, i < n
  iter : Iter wr r m n seen
  row : wr.ownsRow N 9 1 v seen.length (seen.map (fun i => Value.string (ks i)))
  below : Below w.heap.size w wr

theorem Try.infoS : (Try.prog.info? 9).map (fun i => (i.zero, i.size, i.bytes)) = some (some (.string ByteArray.empty), 1, 16) := by kernel_rfl

end Go.Proofs.Ythbpfiandjggcaa

/- val of maps, and of all trees. -/
namespace Go.Proofs.Ythbpfiandjggcaa
open Go.RowKit Go.Deep

end Go.Proofs.Ythbpfiandjggcaa

/- ValOk of the program. -/
namespace Go.Proofs.Ythbpfiandjggcaa
open Go.RowKit Go.Deep

set_option maxHeartbeats 1000000 in
theorem implValOk_any (d : Nat) (S : Nat → Prop) (t : Tr d) (v : Value) (w : World) (hv : ValAt S w d t v) (hS : Within S w) :
    Calls Try.prog 16 #[v] w fun e w' => e = .returned (.bool (treeP d t 60 1).1) ∧ Below w.heap.size w w' := by
  obtain ⟨k, n, s, ak, lk, ck, al, ll, cl, rfl⟩ := hv.shape
  have hA := below_alloc1 w (.cells #[.int .i64 k, .int .i64 n, .string s, .slice ak lk ck, .slice al ll cl] 26)
  go_enter Try.func16, Try.ntmps16
  go_wp2_with fail
  refine (treeOf_any d S t _ _ (hv.same (hS.same hA)) (hS.later hA.size)).mono ?_
  rintro e w1 ⟨u, rfl, _, hb1⟩
  have HB : Hid (Below w.heap.size w w1) := below_trans hA hb1
  clear hb1 hA hv
  go_wp2_with fail
  go_ret
  exact ⟨rfl, HB.out⟩
end Go.Proofs.Ythbpfiandjggcaa

/- errors.As at a fault of parts: a nil error, and a fault. -/
namespace Go.Proofs.Ythbpfiandjggcaa
open Go.RowKit Go.Extern.Stop Go.Stop Go.Extern

theorem set_two {motive : Array Value → Type} (v x : Value) (h1 : (v x : Value) → motive #[v, x]) (h2 : (a : Array Value) → motive a) : ReflectliteValue.set.match_3 motive #[v, x] h1 h2 = h1 v x := rfl
end Go.Proofs.Ythbpfiandjggcaa

/- errors.As at a fault of parts. -/
namespace Go.Proofs.Ythbpfiandjggcaa
open Go.RowKit Go.Extern.Stop Go.Stop Go.Extern

end Go.Proofs.Ythbpfiandjggcaa

/- told, given, isNothing: what is told of a tree, or of a fault. -/
namespace Go.Proofs.Ythbpfiandjggcaa
open Go.RowKit Go.Deep

/-- Nothing. -/
def zeroT (d : Nat) : Tr (d + 1) := (Nd.mk 0 0 ByteArray.empty [] [] : Nd (Tr d))
/-- What is told of a tree. -/
def toldT (d : Nat) (t : Tr (d + 1)) : Tr (d + 1) := if okT (d + 1) t = true then t else zeroT d

/-- What is asked of a function that tells a tree and whether it can. -/
def TellQ (d : Nat) (t : Tr (d + 1)) (ok : Bool) (w : World) (e : Ending) (w' : World) : Prop :=
  ∃ v, e = .returned (.tuple #[v, .bool ok]) ∧ ValOwn w' (d + 1) (Fresh w w') t v ∧ Below w.heap.size w w'

theorem zeroVal_own (d : Nat) (w : World) (S : Nat → Prop) : ValOwn w (d + 1) S (zeroT d) zeroVal := valOwn_leaf d 0 0 ByteArray.empty w S ⟨by omega, by omega⟩ ⟨by omega, by omega⟩ (by decide)

end Go.Proofs.Ythbpfiandjggcaa

/- The program's own trees, asked for their kind: closed facts of the model. -/
namespace Go.Proofs.Ythbpfiandjggcaa
open Go.RowKit

theorem Try.asB_B (v : Value) (w : World) : (Instr.typeAssert (.iface 81 v) 48 81 true).run Try.prog w = .ok (.tuple #[v, .bool true]) w := by kernel_rfl
theorem Try.asB_N (v : Value) (w : World) : (Instr.typeAssert (.iface 83 v) 48 81 true).run Try.prog w = .ok (.tuple #[.agg #[.int .i64 0], .bool false]) w := by kernel_rfl
theorem Try.asB_S (v : Value) (w : World) : (Instr.typeAssert (.iface 85 v) 48 81 true).run Try.prog w = .ok (.tuple #[.agg #[.int .i64 0], .bool false]) w := by kernel_rfl
theorem Try.asB_R (v : Value) (w : World) : (Instr.typeAssert (.iface 90 v) 48 81 true).run Try.prog w = .ok (.tuple #[.agg #[.int .i64 0], .bool false]) w := by kernel_rfl
theorem Try.asB_M (v : Value) (w : World) : (Instr.typeAssert (.iface 94 v) 48 81 true).run Try.prog w = .ok (.tuple #[.agg #[.int .i64 0], .bool false]) w := by kernel_rfl
theorem Try.asN_B (v : Value) (w : World) : (Instr.typeAssert (.iface 81 v) 48 83 true).run Try.prog w = .ok (.tuple #[.agg #[.int .i64 0], .bool false]) w := by kernel_rfl
theorem Try.asN_N (v : Value) (w : World) : (Instr.typeAssert (.iface 83 v) 48 83 true).run Try.prog w = .ok (.tuple #[v, .bool true]) w := by kernel_rfl
theorem Try.asN_S (v : Value) (w : World) : (Instr.typeAssert (.iface 85 v) 48 83 true).run Try.prog w = .ok (.tuple #[.agg #[.int .i64 0], .bool false]) w := by kernel_rfl
theorem Try.asN_R (v : Value) (w : World) : (Instr.typeAssert (.iface 90 v) 48 83 true).run Try.prog w = .ok (.tuple #[.agg #[.int .i64 0], .bool false]) w := by kernel_rfl
theorem Try.asN_M (v : Value) (w : World) : (Instr.typeAssert (.iface 94 v) 48 83 true).run Try.prog w = .ok (.tuple #[.agg #[.int .i64 0], .bool false]) w := by kernel_rfl
theorem Try.asS_B (v : Value) (w : World) : (Instr.typeAssert (.iface 81 v) 48 85 true).run Try.prog w = .ok (.tuple #[.agg #[.string ByteArray.empty], .bool false]) w := by kernel_rfl
theorem Try.asS_N (v : Value) (w : World) : (Instr.typeAssert (.iface 83 v) 48 85 true).run Try.prog w = .ok (.tuple #[.agg #[.string ByteArray.empty], .bool false]) w := by kernel_rfl
theorem Try.asS_S (v : Value) (w : World) : (Instr.typeAssert (.iface 85 v) 48 85 true).run Try.prog w = .ok (.tuple #[v, .bool true]) w := by kernel_rfl
theorem Try.asS_R (v : Value) (w : World) : (Instr.typeAssert (.iface 90 v) 48 85 true).run Try.prog w = .ok (.tuple #[.agg #[.string ByteArray.empty], .bool false]) w := by kernel_rfl
theorem Try.asS_M (v : Value) (w : World) : (Instr.typeAssert (.iface 94 v) 48 85 true).run Try.prog w = .ok (.tuple #[.agg #[.string ByteArray.empty], .bool false]) w := by kernel_rfl
theorem Try.asR_B (v : Value) (w : World) : (Instr.typeAssert (.iface 81 v) 48 90 true).run Try.prog w = .ok (.tuple #[.agg #[.slice none 0 0], .bool false]) w := by kernel_rfl
theorem Try.asR_N (v : Value) (w : World) : (Instr.typeAssert (.iface 83 v) 48 90 true).run Try.prog w = .ok (.tuple #[.agg #[.slice none 0 0], .bool false]) w := by kernel_rfl
theorem Try.asR_S (v : Value) (w : World) : (Instr.typeAssert (.iface 85 v) 48 90 true).run Try.prog w = .ok (.tuple #[.agg #[.slice none 0 0], .bool false]) w := by kernel_rfl
theorem Try.asR_R (v : Value) (w : World) : (Instr.typeAssert (.iface 90 v) 48 90 true).run Try.prog w = .ok (.tuple #[v, .bool true]) w := by kernel_rfl
theorem Try.asR_M (v : Value) (w : World) : (Instr.typeAssert (.iface 94 v) 48 90 true).run Try.prog w = .ok (.tuple #[.agg #[.slice none 0 0], .bool false]) w := by kernel_rfl
theorem Try.asM_B (v : Value) (w : World) : (Instr.typeAssert (.iface 81 v) 48 94 true).run Try.prog w = .ok (.tuple #[.agg #[.map none], .bool false]) w := by kernel_rfl
theorem Try.asM_N (v : Value) (w : World) : (Instr.typeAssert (.iface 83 v) 48 94 true).run Try.prog w = .ok (.tuple #[.agg #[.map none], .bool false]) w := by kernel_rfl
theorem Try.asM_S (v : Value) (w : World) : (Instr.typeAssert (.iface 85 v) 48 94 true).run Try.prog w = .ok (.tuple #[.agg #[.map none], .bool false]) w := by kernel_rfl
theorem Try.asM_R (v : Value) (w : World) : (Instr.typeAssert (.iface 90 v) 48 94 true).run Try.prog w = .ok (.tuple #[.agg #[.map none], .bool false]) w := by kernel_rfl
theorem Try.asM_M (v : Value) (w : World) : (Instr.typeAssert (.iface 94 v) 48 94 true).run Try.prog w = .ok (.tuple #[v, .bool true]) w := by kernel_rfl
end Go.Proofs.Ythbpfiandjggcaa

/- given: the tree of a value, or a fault. -/
namespace Go.Proofs.Ythbpfiandjggcaa
open Go.RowKit Go.Deep

theorem okT_form {d : Nat} {t : Tr d} (h : okT d t = true) : formT d t 6 = true ∧ manyT d t 6 ≤ 60 := by
  unfold okT at h
  simpa using h

end Go.Proofs.Ythbpfiandjggcaa

/- Numbers as trees; what a tree that is ok can be; what is told, in the result's own cells. -/
namespace Go.Proofs.Ythbpfiandjggcaa
open Go.RowKit Go.Deep

/-- A number as a tree. -/
def numT (d : Nat) (n : Int) : Tr (d + 1) := (Nd.mk 3 n ByteArray.empty [] [] : Nd (Tr d))
theorem okT_num (d : Nat) (n : Int) (h : -1000000 ≤ n ∧ n ≤ 1000000) : okT (d + 1) (numT d n) = true := by
  have hb : headBad 3 n ByteArray.empty ([] : List ByteArray).length ([] : List (Tr d)).length 6 = false := headBad_iff.2 ⟨by omega, fun h => absurd rfl h, fun _ => empty_toList, fun _ => rfl, fun _ => rfl⟩
  have h1 : formT (d + 1) (numT d n) 6 = true := by
    show formT (d + 1) (Nd.mk 3 n ByteArray.empty [] [] : Nd (Tr d)) 6 = true
    rw [formT_good hb]
    simp [h]
  have h2 : manyT (d + 1) (numT d n) 6 = 1 := rfl
  simp only [okT, h1, h2]
  rfl

/-- What a tree that is ok can be. -/
theorem okT_kinds {d : Nat} {t : Tr (d + 1)} (h : okT (d + 1) t = true) :
    (Nd.kind t = 0 ∨ Nd.kind t = 1 ∨ Nd.kind t = 2 ∨ (Nd.kind t = 3 ∧ -1000000 ≤ Nd.num t ∧ Nd.num t ≤ 1000000) ∨ (Nd.kind t = 4 ∧ (Nd.str t).size ≤ 12) ∨ Nd.kind t = 5 ∨ Nd.kind t = 6) ∧ (Nd.list t).length ≤ 60 ∧ (Nd.kind t ≠ 3 → Nd.num t = 0) := by
  obtain ⟨hf, hm⟩ := okT_form h
  obtain ⟨kind, num, str, keys, list⟩ := t
  cases hb : headBad kind num str keys.length list.length 6 with
  | true => rw [formT_bad hb] at hf; cases hf
  | false =>
    rw [formT_good hb] at hf
    obtain ⟨_, g1, _, _, _⟩ := headBad_iff.1 hb
    have hmany : manyT (d + 1) (Nd.mk kind num str keys list) 6 = 1 + (if (0 : Int) < 6 then (list.map (fun x => manyT d x (6 - 1))).sum else 0) := rfl
    rw [hmany, if_pos (by omega)] at hm
    have hll := len_le_many (d := d) (deep := 6 - 1) list
    refine ⟨?_, by show list.length ≤ 60; omega, g1⟩
    show kind = 0 ∨ kind = 1 ∨ kind = 2 ∨ (kind = 3 ∧ -1000000 ≤ num ∧ num ≤ 1000000) ∨ (kind = 4 ∧ str.size ≤ 12) ∨ kind = 5 ∨ kind = 6
    by_cases k0 : kind = 0 ∨ kind = 1 ∨ kind = 2
    · omega
    rw [if_neg k0] at hf
    by_cases k3 : kind = 3
    · rw [if_pos k3, decide_eq_true_eq] at hf
      omega
    rw [if_neg k3] at hf
    by_cases k4 : kind = 4
    · rw [if_pos k4] at hf
      have := strOk_size hf
      omega
    rw [if_neg k4] at hf
    by_cases k6 : kind = 6
    · omega
    rw [if_neg k6] at hf
    by_cases k5 : kind = 5
    · omega
    rw [if_neg k5] at hf
    cases hf

theorem numTree_at (d : Nat) (n : Int) (hn : I64 n) (S : Nat → Prop) (w : World) : TreeG S w (d + 1) (numT d n) (.iface 83 (.agg #[.int .i64 n])) := Or.inr (Or.inl ⟨n, hn, rfl, rfl⟩)

/-- What was told is put into the result's own cells. -/
theorem tell_end {d : Nat} {t : Tr (d + 1)} {w w1 w2 : World} {v0 v1 : Int} {v2 : ByteArray} {v3 v6 : Option Addr} {v4 v5 v7 v8 rb : Nat} (hv : ValOwn w2 (d + 1) (Fresh w1 w2) t (.agg #[.int .i64 v0, .int .i64 v1, .string v2, .slice v3 v4 v5, .slice v6 v7 v8])) (hb : Below w.heap.size w w2)
    (hr : w.heap.size ≤ rb) (hr1 : rb < w1.heap.size) :
    ∀ wF, wF = set5 w2 rb 0 (.int .i64 v0) (.int .i64 v1) (.string v2) (.slice v3 v4 v5) (.slice v6 v7 v8) → ValOwn wF (d + 1) (Fresh w wF) t (.agg #[.int .i64 v0, .int .i64 v1, .string v2, .slice v3 v4 v5, .slice v6 v7 v8]) ∧ Below w.heap.size w wF := by
  intro wF hF
  have hzF : wF.heap.size = w2.heap.size := by rw [hF, set5_size]
  refine ⟨ValOwn.moved (d + 1) (Fresh w1 w2) _ t _ hv (fun b hb => ?_) (fun b hb => ⟨by have := hb.1; omega, by have := hb.2; omega⟩), ?_⟩
  · rw [hF, set5_block _ _ _ _ _ _ _ _ _ (by have := hb.1; omega)]
  · rw [hF]
    exact below_set5 hb hr _ _ _ _ _ _

end Go.Proofs.Ythbpfiandjggcaa
