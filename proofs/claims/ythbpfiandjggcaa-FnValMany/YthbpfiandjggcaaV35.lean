/- Texts of the proof, put together by program: WManyM. -/
import Derived.Test.YthbpfiandjggcaaV34
/- many: maps, and all of them together. -/
namespace Go.Proofs.Ythbpfiandjggcaa
open Go.RowKit Go.Deep

theorem seen_perm {n : Nat} {seen : List Nat} (hd : seen.Nodup) (hl : ∀ i ∈ seen, i < n) : (List.range n).Perm (seen ++ (List.range n).filter (fun i => !seen.contains i)) := by
  rw [List.perm_ext_iff_of_nodup List.nodup_range]
  · intro a
    simp only [List.mem_range, List.mem_append, List.mem_filter, Bool.not_eq_true', List.contains_eq_mem, decide_eq_false_iff_not]
    constructor
    · intro h
      by_cases hm : a ∈ seen
      · exact Or.inl hm
      · exact Or.inr ⟨h, hm⟩
    · rintro (h | h)
      · exact hl a h
      · exact h.1
  · rw [List.nodup_append]
    refine ⟨hd, List.Pairwise.filter _ List.nodup_range, fun a ha b hb e => ?_⟩
    subst e
    simp only [List.mem_filter, List.contains_eq_mem, Bool.not_eq_true', decide_eq_false_iff_not] at hb
    exact hb.2 ha
theorem seen_sum_le {n : Nat} {seen : List Nat} (f : Nat → Nat) (hd : seen.Nodup) (hl : ∀ i ∈ seen, i < n) : (seen.map f).sum ≤ ((List.range n).map f).sum := by
  have := ((seen_perm hd hl).map f).sum_nat
  rw [List.map_append, List.sum_append] at this
  omega
theorem seen_sum_all {n : Nat} {seen : List Nat} (f : Nat → Nat) (hd : seen.Nodup) (hl : ∀ i ∈ seen, i < n) (ha : ∀ i, i < n → i ∈ seen) : (seen.map f).sum = ((List.range n).map f).sum := by
  have hp : seen.Perm (List.range n) := by
    rw [List.perm_ext_iff_of_nodup hd List.nodup_range]
    intro a
    simp only [List.mem_range]
    exact ⟨hl a, ha a⟩
  exact (hp.map f).sum_nat
theorem seen_len {n : Nat} {seen : List Nat} (hd : seen.Nodup) (hl : ∀ i ∈ seen, i < n) : seen.length ≤ n := by
  have := List.Nodup.length_le_of_subset hd (l₂ := List.range n) (fun i hi => List.mem_range.2 (hl i hi))
  simpa using this
/-- A number for the thing at a place. -/
def atN {α : Type} (f : α → Nat) (xs : List α) (i : Nat) : Nat := match xs[i]? with | some x => f x | none => 0
theorem atN_sum {α : Type} (f : α → Nat) (xs : List α) : ((List.range xs.length).map (atN f xs)).sum = (xs.map f).sum := by
  congr 1
  apply List.ext_getElem
  · simp
  · intro i h1 h2
    simp only [List.length_map, List.length_range] at h1
    simp [atN, h1]
theorem OneOff.below {r B : Nat} {a w w' : World} (h : Below B a w) (k : OneOff r w w') (hr : B ≤ r) : Below B a w' :=
  h.trans ⟨k.os, k.tape, k.output, by rw [k.size]; exact Nat.le_refl _, fun i hi => k.block i (by omega)⟩

theorem cntT_pos : ∀ (d : Nat) (t : Tr d), 1 ≤ cntT d t
  | 0, t => Empty.elim t
  | d + 1, t => by rw [cntT]; omega
theorem len_le_cnt {d : Nat} : ∀ xs : List (Tr d), xs.length ≤ (xs.map (cntT d)).sum
  | [] => Nat.le_refl _
  | x :: r => by
    have := cntT_pos d x
    have := len_le_cnt r
    simp only [List.length_cons, List.map_cons, List.sum_cons]
    omega

set_option maxRecDepth 100000 in
set_option maxHeartbeats 2000000 in
theorem mapMany_any (d : Nat) (ih : ManyC d) (S : Nat → Prop) (keys : List ByteArray) (xs : List (Tr d)) (m : Nat) (es : Array MapEntry) (w : World) (hSm : S m) (hobj : w.heap[m]? = some (.map es keys.length)) (hmap : MapIs (TreeAt S w d) es keys xs) (hS : Within S w)
    (hsm : ((1 + (xs.map (cntT d)).sum : Nat) : Int) ≤ 4194304) :
    Calls Try.prog 82 #[.agg #[.map (some m)]] w (ManyQ (1 + (xs.map (cntT d)).sum) w) := by
  obtain ⟨hes, hkl, hent⟩ := hmap
  have hmw := hS m hSm
  have hborn : ∀ (j : Nat) (x : MapEntry), es[j]? = some x → x.born = j := fun j x hx => by
    have hj := (Array.getElem?_eq_some_iff.1 hx).1
    obtain ⟨u, hu, _⟩ := hent j keys[j] xs[j] (List.getElem?_eq_getElem (by omega)) (List.getElem?_eq_getElem (by omega))
    rw [hx] at hu
    cases hu
    rfl
  have hrg := fun w' h => run_range_map (P := Try.prog) (T := 92) Try.underlying92 w' m keys.length es h
  obtain ⟨W0, hW⟩ : ∃ W0, W0 = w.alloc (.cells #[.map (some m)] 94) := ⟨_, rfl⟩
  have hW0 : Below w.heap.size w W0 := by rw [hW]; exact below_alloc1 _ _
  have hrun := hrg (w.alloc (.cells #[.map (some m)] 94)) ((Below.heap_alloc _ _ _ hmw).trans hobj)
  obtain ⟨W1, hW1⟩ : ∃ W1, W1 = (w.alloc (.cells #[.map (some m)] 94)).alloc (.mapIter (some m) keys.length #[] keys.length) := ⟨_, rfl⟩
  have hB1 : Below w.heap.size w W1 := by rw [hW1]; exact below_trans (below_alloc1 _ _) (below_alloc1 _ _)
  have hI1 : Iter W1 (w.heap.size + 1) m keys.length [] := by
    rw [hW1]
    have := heap_alloc_new (w.alloc (.cells #[.map (some m)] 94)) (.mapIter (some m) keys.length #[] keys.length)
    simpa [Iter] using this
  have HW : Hid _ := hW1
  have HK : Hid (keys.length = xs.length) := hkl
  have hkb : keys.length < 4194305 := by
    have h1 : xs.length ≤ 4194304 := by
      have := len_le_cnt xs
      omega
    omega
  clear hW hW1 hrg hW0 hkl
  go_enter Try.func82, Try.ntmps82
  go_wp2_with fail
  rw [← HW.out]
  clear HW hrun
  go_loopg [3] keys.length (fun gk v wr => ∃ (seen : List Nat) (s : Nat), seen.length + gk = keys.length ∧ v = .int .i64 (1 + (s : Int)) ∧ Hid (seen.Nodup ∧ (∀ i ∈ seen, i < keys.length) ∧ s = (seen.map (atN (cntT d) xs)).sum ∧ Iter wr (w.heap.size + 1) m keys.length seen) ∧ Below w.heap.size w wr)
  case atStart => exact ⟨[], 0, by simp, rfl, ⟨List.nodup_nil, (fun i h => by cases h), rfl, hI1⟩, hB1⟩
  case round =>
    clear hI1 hB1
    obtain ⟨seen, s, hlen, rfl, hinv, hbel⟩ := hrel
    have HL : Hid _ := hlen
    clear hlen
    have hobj2 : wr.heap[m]? = some (.map es keys.length) := (hbel.block m hmw).trans hobj
    have hsb : (s : Int) ≤ 4194303 := by
      have h2 := seen_sum_le (atN (cntT d) xs) hinv.out.1 hinv.out.2.1
      rw [HK.out, atN_sum] at h2
      have h3 := hinv.out.2.2.1
      omega
    rcases run_next_map (P := Try.prog) wr (w.heap.size + 1) m keys.length seen es hinv.out.2.2.2 hobj2 hes hborn with ⟨hall, hnext⟩ | ⟨i, e, w1, hi, hns, hei, hI, hoff, hnext⟩
    · have HF : Hid ((1 + (xs.map (cntT d)).sum : Nat) = 1 + s) := by
        show _ = _
        rw [hinv.out.2.2.1, seen_sum_all _ hinv.out.1 hinv.out.2.1 hall, HK.out, atN_sum]
      clear hall hobj2
      go_wp2_with fail
      go_ret
      refine ⟨?_, hbel⟩
      rw [HF.out]
      simp
    · have hxi : i < xs.length := by rw [← HK.out]; exact hi
      obtain ⟨u, hu, htu⟩ := hent i keys[i] xs[i] (List.getElem?_eq_getElem hi) (List.getElem?_eq_getElem hxi)
      rw [hei] at hu
      cases hu
      have hb1 : Below w.heap.size w w1 := OneOff.below hbel hoff (by omega)
      have hobj3 : w1.heap[m]? = some (.map es keys.length) := (hb1.block m hmw).trans hobj
      have hentry := run_entry_map (P := Try.prog) w1 (w.heap.size + 1) m keys.length i seen es _ hI hobj3 hborn hei
      have hnx := mem_sum_le (cntT d) (List.getElem?_eq_getElem hxi)
      have hsame := hS.same hb1
      obtain ⟨v, hm⟩ := ih S xs[i] u w1 (TreeAt.moved hsame (fun _ h => h) d _ u htu) (hS.later hb1.size) (by omega)
      have HI : Hid (Iter w1 (w.heap.size + 1) m keys.length (seen ++ [i])) := hI
      have HX : Hid (atN (cntT d) xs i = cntT d xs[i]) := by
        show atN (cntT d) xs i = _
        simp [atN, hxi]
      have hrl : w.heap.size + 1 < w1.heap.size := (Array.getElem?_eq_some_iff.1 hI).1
      have HNS : Hid ((seen ++ [i]).Nodup ∧ ∀ j ∈ seen ++ [i], j < keys.length) := by
        refine ⟨?_, fun j hj => ?_⟩
        · rw [List.nodup_append]
          exact ⟨hinv.out.1, by simp, fun a ha b hb e => by simp at hb; subst hb; subst e; exact hns ha⟩
        · rcases List.mem_append.1 hj with h | h
          · exact hinv.out.2.1 j h
          · simp at h; subst h; exact hi
      have hgk : 1 ≤ gk := by
        have h1 := seen_len HNS.out.1 HNS.out.2
        have h2 := HL.out
        simp at h1
        omega
      generalize hcx : cntT d xs[i] = cx at *
      clear hobj2 hobj3 htu hei hI hoff hsame hns hcx
      rcases hm with ⟨rfl, hcall⟩ | ⟨rfl, hcall⟩ | ⟨rfl, hcall⟩ | ⟨rfl, hcall⟩ | ⟨rfl, hcall⟩
      all_goals
        have HC : Hid _ := hcall
        clear hcall
        go_wp2_with fail
        refine Calls.mono (R := ManyQ cx w1) HC.out ?_
        rintro e w2 ⟨rfl, hb2⟩
        have hb3 := below_trans hb1 hb2
        have HI2 : Hid (Iter w2 (w.heap.size + 1) m keys.length (seen ++ [i])) := (hb2.block _ hrl).trans HI.out
        clear hb1 hb2 hbel HC HI hnext hentry
        go_wp2_with fail
        go_roundg (gk - 1)
        case rel =>
          refine ⟨seen ++ [i], s + cx, by have := HL.out; simp; omega, by go_num, ⟨HNS.out.1, HNS.out.2, ?_, HI2.out⟩, hb3⟩
          · rw [List.map_append, List.sum_append, ← hinv.out.2.2.1]
            simp [HX.out]
        case measure => omega
end Go.Proofs.Ythbpfiandjggcaa
