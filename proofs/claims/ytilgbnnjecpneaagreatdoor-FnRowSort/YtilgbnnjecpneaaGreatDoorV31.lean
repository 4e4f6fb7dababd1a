/- Texts of the proof, put together by program: WMrgP. -/
import Derived.Test.YtilgbnnjecpneaaGreatDoorV28
import Derived.Test.YtilgbnnjecpneaaGreatDoorV30
import Derived.Test.YtilgbnnjecpneaaGreatDoorV17
import Derived.Test.YtilgbnnjecpneaaGreatDoorV24
import Derived.Test.YtilgbnnjecpneaaGreatDoorV6
/- l4Put of the model: a tree put into a row in order. -/
namespace Go.Proofs.YtilgbnnjecpneaaGreatDoor
open Go.RowKit Go.Deep

/-- All blocks but the row's own. -/
def Live1 (w : World) (lv : Value) (b : Nat) : Prop := b < w.heap.size ∧ some b ≠ lv.ownBlock
theorem VTo.row1 {d N : Nat} {S : Nat → Prop} {w : World} {lv : Value} {xs : List (Tr d)} {vs : List Value} (h : VTo S N w lv xs vs) (hS : Within S w) (hl : xs.length < 3518437208883) : RowAt (fun b => b < w.heap.size) w (ValAt (fun b => b < w.heap.size) w d) lv xs := by
  obtain ⟨h1, h2⟩ := h
  refine ⟨hl, ?_⟩
  rcases h1.2 with ⟨rfl, h0⟩ | ⟨g, cap, cur, rfl, hg, hh, hnc, _, hcs, htake⟩
  · exact ⟨none, 0, by rw [h0], Or.inl (List.eq_nil_of_length_eq_zero h0)⟩
  · refine ⟨some ⟨g, 0, none⟩, cap, rfl, Or.inr ⟨g, 0, (Array.getElem?_eq_some_iff.1 hh).1, rfl, fun i x hx => ?_⟩⟩
    obtain ⟨c0, c1, c2, c3, c4, e0, e1, e2, e3, e4, hv⟩ := h2 i x hx
    have hi := (List.getElem?_eq_some_iff.1 hx).1
    have hc : ∀ j c, j < xs.length * 5 → vs[j]? = some c → w.cell? ⟨g, 0 + j, none⟩ = some c := fun j c hj hc => by
      rw [Nat.zero_add]
      exact (h1.cellAt j hj).trans hc
    exact ⟨c0, c1, c2, c3, c4, hc _ _ (by omega) e0, hc _ _ (by omega) e1, hc _ _ (by omega) e2, hc _ _ (by omega) e3, hc _ _ (by omega) e4, hv.mono hS⟩

theorem VTo.mono {d N : Nat} {S S' : Nat → Prop} {w : World} {lv : Value} {xs : List (Tr d)} {vs : List Value} (h : VTo S N w lv xs vs) (hS : ∀ b, S b → S' b) : VTo S' N w lv xs vs :=
  ⟨h.1, fun j x hx => by obtain ⟨c0, c1, c2, c3, c4, e0, e1, e2, e3, e4, hv⟩ := h.2 j x hx; exact ⟨c0, c1, c2, c3, c4, e0, e1, e2, e3, e4, hv.mono hS⟩⟩
theorem VTo.rowS {d N : Nat} {S : Nat → Prop} {w : World} {lv : Value} {xs : List (Tr d)} {vs : List Value} (h : VTo S N w lv xs vs) (hl : xs.length < 3518437208883) : RowAt (fun b => b < w.heap.size) w (ValAt S w d) lv xs := by
  obtain ⟨h1, h2⟩ := h
  refine ⟨hl, ?_⟩
  rcases h1.2 with ⟨rfl, h0⟩ | ⟨g, cap, cur, rfl, hg, hh, hnc, _, hcs, htake⟩
  · exact ⟨none, 0, by rw [h0], Or.inl (List.eq_nil_of_length_eq_zero h0)⟩
  · refine ⟨some ⟨g, 0, none⟩, cap, rfl, Or.inr ⟨g, 0, (Array.getElem?_eq_some_iff.1 hh).1, rfl, fun i x hx => ?_⟩⟩
    obtain ⟨c0, c1, c2, c3, c4, e0, e1, e2, e3, e4, hv⟩ := h2 i x hx
    have hi := (List.getElem?_eq_some_iff.1 hx).1
    have hc : ∀ j c, j < xs.length * 5 → vs[j]? = some c → w.cell? ⟨g, 0 + j, none⟩ = some c := fun j c hj hc => by
      rw [Nat.zero_add]
      exact (h1.cellAt j hj).trans hc
    exact ⟨c0, c1, c2, c3, c4, hc _ _ (by omega) e0, hc _ _ (by omega) e1, hc _ _ (by omega) e2, hc _ _ (by omega) e3, hc _ _ (by omega) e4, hv⟩
/-- The first k of a row that owns its cells. -/
theorem VTo.front {d N n lc k : Nat} {S : Nat → Prop} {w : World} {la : Option Addr} {xs : List (Tr d)} {vs : List Value} (h : VTo S N w (.slice la n lc) xs vs) (hn : n = xs.length) (hk : k ≤ n) : VTo S N w (.slice la k lc) (xs.take k) (vs.take (k * 5)) := by
  obtain ⟨⟨h0, h1⟩, h2⟩ := h
  have hkl : (xs.take k).length = k := by rw [List.length_take]; omega
  refine ⟨⟨by rw [hkl, List.length_take, h0]; omega, ?_⟩, fun j x hx => ?_⟩
  · rw [hkl]
    rcases h1 with ⟨e, h00⟩ | ⟨g, cap, cur, e, hg, hh, hnc, hm, hcs, ht⟩
    · cases e
      obtain rfl : k = 0 := by omega
      exact Or.inl ⟨rfl, rfl⟩
    · cases e
      refine Or.inr ⟨g, _, cur, rfl, hg, hh, by omega, hm, hcs, ?_⟩
      rw [← ht, List.take_take, Nat.min_eq_left (by omega)]
  · have hj : j < k := by have := (List.getElem?_eq_some_iff.1 hx).1; omega
    rw [List.getElem?_take_of_lt hj] at hx
    obtain ⟨c0, c1, c2, c3, c4, e0, e1, e2, e3, e4, hv⟩ := h2 j x hx
    exact ⟨c0, c1, c2, c3, c4, by rw [List.getElem?_take_of_lt (by omega)]; exact e0, by rw [List.getElem?_take_of_lt (by omega)]; exact e1, by rw [List.getElem?_take_of_lt (by omega)]; exact e2, by rw [List.getElem?_take_of_lt (by omega)]; exact e3, by rw [List.getElem?_take_of_lt (by omega)]; exact e4, hv⟩
/-- The two appends of l4Put, one behind the other. -/
def TailQ {d : Nat} (S : Nat → Prop) (W : World) (m : Nat) (ys : List (Tr d)) (v' : Value) (w' : World) : Prop := ∃ ta tc tvs, v' = .slice ta m tc ∧ VTo S W.heap.size w' (.slice ta m tc) ys tvs ∧ Below W.heap.size W w'
theorem put_runs {d N n k m : Nat} {xs : List (Tr d)} {x : Tr d} {LA ta : Option Addr} {lc tc : Nat} {vs tvs : List Value} {w W w6 : World} {c0 c1 : Int} {c2 : ByteArray} {c3 : Option Addr} {c4 c5 : Nat} {c6 : Option Addr} {c7 c8 : Nat} (hn : n = xs.length) (hm : m = n - k) (hk : k ≤ n) (hl : n ≤ 1000) (hN : N ≤ w.heap.size)
    (hlist : VTo (Live1 w (.slice LA n lc)) N w (.slice LA n lc) xs vs) (hx : ValAt (Live1 w (.slice LA n lc)) w d x (.agg #[.int .i64 c0, .int .i64 c1, .string c2, .slice c3 c4 c5, .slice c6 c7 c8])) (hW : Below w.heap.size w W) (htail : VTo (Live1 w (.slice LA n lc)) W.heap.size w6 (.slice ta m tc) (xs.drop k) tvs) (h6 : Below W.heap.size W w6) (ty : TypeId) :
    ∃ v' w', (Builtin.append_ #[27, 27] ty #[.slice LA k lc, .slice (some ⟨w6.heap.size, 0, none⟩) 1 1]).run Tryz.prog (w6.drew.alloc (.cells #[.int .i64 c0, .int .i64 c1, .string c2, .slice c3 c4 c5, .slice c6 c7 c8] 29)) = .ok v' w' ∧ ∃ a c, v' = .slice a (k + 1) c ∧
      Hid (∀ ty, ∃ v2 w2, (Builtin.append_ #[27, 27] ty #[.slice a (k + 1) c, .slice ta m tc]).run Tryz.prog w' = .ok v2 w2 ∧ ∃ a2 c2 vs2, v2 = .slice a2 (n + 1) c2 ∧ Hid (VTo (Live1 w2 (.slice a2 (n + 1) c2)) N w2 (.slice a2 (n + 1) c2) (xs.take k ++ x :: xs.drop k) vs2 ∧ Below N w w2)) := by
  have hzW := hW.size
  have hz6 := h6.size
  have hB6 : Below w.heap.size w w6 := hW.trans (h6.mono hzW)
  have hSw : Within (Live1 w (.slice LA n lc)) w := fun b hb => hb.1
  have hgl : ∀ g, (Value.slice LA n lc).ownBlock = some g → N ≤ g ∧ g < w.heap.size := fun g hg => hlist.1.lt g hg
  have hown : ∀ k', (Value.slice LA k' lc).ownBlock = (Value.slice LA n lc).ownBlock := fun k' => by cases LA <;> rfl
  have hl6 := hlist.moved (hSw.same hB6) (fun g hg => hB6.block g (hgl g hg).2)
  have hp6 := hl6.front hn hk
  have hx6 := hx.same (hSw.same hB6)
  have hkl : (xs.take k).length = k := by rw [List.length_take]; omega
  have hpo : w6.drew.ownsRow N 29 5 (.slice LA k lc) k (vs.take (k * 5)) := by
    have h := hp6.1
    rw [hkl] at h
    exact h
  have hpd := hpo.alloc (.cells #[.int .i64 c0, .int .i64 c1, .string c2, .slice c3 c4 c5, .slice c6 c7 c8] 29)
  obtain ⟨i0, hi, hz0, hz1, hz2⟩ := info_parts Tryz.infoV2
  obtain ⟨v', w7, hr, ho, hgr, _, hat⟩ := run_append_own_at (P := Tryz.prog) _ N 27 ty 29 i0 zeroVal 5 80 Tryz.underlying27 hi hz0 hz1 hz2 rfl (by decide) (.slice LA k lc) k _ hpd ⟨w6.heap.size, 0, none⟩ 1 1 [.int .i64 c0, .int .i64 c1, .string c2, .slice c3 c4 c5, .slice c6 c7 c8] rfl (cell_five_new _ _ _ _ _ _ _) (by intro y hy; simp at hy; rcases hy with rfl | rfl | rfl | rfl | rfl <;> rfl) (by unfold maxLen; omega) (by omega) (by simp; show N ≤ w6.heap.size + 1; omega)
  have hzd : (w6.drew.alloc (.cells #[.int .i64 c0, .int .i64 c1, .string c2, .slice c3 c4 c5, .slice c6 c7 c8] 29)).heap.size = w6.heap.size + 1 := by simp
  have hz7 : w6.heap.size + 1 ≤ w7.heap.size := by have := hgr.size; omega
  have hblk : ∀ b, b < w6.heap.size → some b ≠ (Value.slice LA n lc).ownBlock → w7.heap[b]? = w6.heap[b]? := fun b hb hne => (hgr.block b (by omega) (by rw [hown]; exact hne)).trans (Below.heap_alloc w6.drew _ b hb)
  obtain ⟨a, c, rfl⟩ : ∃ a c, v' = .slice a (k + 1) c := by
    rcases ho.2 with ⟨_, h0⟩ | ⟨g, cap, cur, e, _⟩
    · omega
    · exact ⟨_, _, e⟩
  have hS7 : Same (Live1 w (.slice LA n lc)) w6 w7 := fun b hb => hblk b (by have := hb.1; omega) hb.2
  have hv7 := hp6.grow hS7 hx6 (by rw [hkl]; exact ho)
  have htl : ∀ g, (Value.slice ta m tc).ownBlock = some g → W.heap.size ≤ g ∧ g < w6.heap.size := fun g hg => htail.1.lt g hg
  have ht7 := htail.moved hS7 (fun g hg => hblk g (htl g hg).2 (fun e => by have := (hgl g e.symm).2; have := (htl g hg).1; omega))
  have hdl : (xs.drop k).length = m := by rw [List.length_drop]; omega
  have hrow := ht7.rowS (by rw [hdl]; omega)
  have h7own : ∀ b, Live1 w (.slice LA n lc) b → b < w7.heap.size ∧ some b ≠ (Value.slice a (k + 1) c).ownBlock := fun b hb => by
    refine ⟨by have := hb.1; omega, fun e => ?_⟩
    rcases hat with h | h
    · rw [h, hown] at e
      exact hb.2 e
    · rw [h] at e
      have := Option.some.inj e
      have := hb.1
      omega
  have hlx : (xs.take k ++ [x]).length = k + 1 := by rw [List.length_append, hkl]; rfl
  refine ⟨_, w7, hr, a, c, rfl, fun ty => ?_⟩
  obtain ⟨v2, w8, hr2, ⟨vs2, hv8⟩, hgr8, ⟨a2, c2, e2⟩, hat2⟩ := run_append_onto_valsW hv7 h7own (by omega) (xs.drop k) ta tc m ty hdl.symm hrow (by rw [hlx, hdl]; omega)
  subst e2
  have hz8 := hgr8.size
  have hlen : (xs.take k ++ [x]).length + (xs.drop k).length = n + 1 := by rw [hlx, hdl]; omega
  rw [hlen] at hr2 hv8 hat2
  have hap : xs.take k ++ [x] ++ xs.drop k = xs.take k ++ x :: xs.drop k := by rw [List.append_assoc]; rfl
  rw [hap] at hv8
  refine ⟨_, w8, hr2, a2, c2, vs2, rfl, hv8.mono (fun b hb => ⟨by have := hb.1; omega, fun e => ?_⟩), ?_⟩
  · rcases hat2 with h | h
    · rw [h] at e
      exact (h7own b hb).2 e
    · rw [h] at e
      have := Option.some.inj e
      have := hb.1
      omega
  · have hN6 : ∀ b, b < N → w7.heap[b]? = w.heap[b]? := fun b hb => (hblk b (by omega) (fun e => by have := (hgl b e.symm).1; omega)).trans (hB6.block b (by omega))
    have h7N : ∀ g, (Value.slice a (k + 1) c).ownBlock = some g → N ≤ g := fun g hg => (ho.lt g hg).1
    refine ⟨hgr8.os.trans (hgr.os.trans hB6.os), hgr8.tape.trans (hgr.tape.trans hB6.tape), hgr8.output.trans (hgr.output.trans hB6.output), by omega, fun b hb => (hgr8.block b (by omega) (fun e => by have := h7N b e.symm; omega)).trans (hN6 b hb)⟩
/-- Where the tree goes. -/
theorem ins_at {α : Type} {f : α → α → Int} {v : α} : ∀ {xs : List α} {k : Nat}, (∀ j y, j < k → xs[j]? = some y → f y v ≤ 0) → (xs.length ≤ k ∨ ∃ y, xs[k]? = some y ∧ ¬ f y v ≤ 0) → insL f v xs = xs.take k ++ v :: xs.drop k
  | [], k, _, _ => by simp [insL]
  | x :: r, 0, _, h => by
    rcases h with h | ⟨y, hy, hn⟩
    · simp at h
    · have e : x = y := by simpa using hy
      subst e
      unfold insL
      rw [List.takeWhile_cons_of_neg (by simpa using hn), List.dropWhile_cons_of_neg (by simpa using hn)]
      rfl
  | x :: r, k + 1, hl, h => by
    have hx : f x v ≤ 0 := hl 0 x (by omega) rfl
    have ih := ins_at (xs := r) (k := k) (fun j y hj hy => hl (j + 1) y (by omega) (by simpa using hy)) (by
      rcases h with h | ⟨y, hy, hn⟩
      · exact Or.inl (by simpa using h)
      · exact Or.inr ⟨y, by simpa using hy, hn⟩)
    have e : insL f v (x :: r) = x :: insL f v r := by
      unfold insL
      rw [List.takeWhile_cons_of_pos (by simpa using hx), List.dropWhile_cons_of_pos (by simpa using hx)]
      rfl
    rw [e, ih]
    rfl
set_option maxRecDepth 100000 in
set_option maxHeartbeats 8000000 in
theorem l4Put_any (d N n : Nat) (xs : List (Tr (d + 1))) (x : Tr (d + 1)) (la : Option Addr) (lc : Nat) (vs : List Value) (c0 c1 : Int) (c2 : ByteArray) (c3 : Option Addr) (c4 c5 : Nat) (c6 : Option Addr) (c7 c8 : Nat) (w : World) (hn : Hid (n = xs.length)) (hto : VTo (Live1 w (.slice la n lc)) N w (.slice la n lc) xs vs) (hN : N ≤ w.heap.size) (hx : ValAt (Live1 w (.slice la n lc)) w (d + 1) x (.agg #[.int .i64 c0, .int .i64 c1, .string c2, .slice c3 c4 c5, .slice c6 c7 c8])) (hl : n ≤ 1000) :
    Calls Tryz.prog 61 #[.slice la n lc, .agg #[.int .i64 c0, .int .i64 c1, .string c2, .slice c3 c4 c5, .slice c6 c7 c8]] w fun e w' => ∃ a c vs', e = .returned (.slice a (n + 1) c) ∧ VTo (Live1 w' (.slice a (n + 1) c)) N w' (.slice a (n + 1) c) (insL (ordT (d + 1)) x xs) vs' ∧ Below N w w' := by
  have hsz1 : w.heap.size + 1 = (w.alloc (.cells #[.int .i64 c0, .int .i64 c1, .string c2, .slice c3 c4 c5, .slice c6 c7 c8] 29)).heap.size := by simp
  obtain ⟨W0, HW0⟩ : ∃ W0, Hid (w.alloc (.cells #[.int .i64 c0, .int .i64 c1, .string c2, .slice c3 c4 c5, .slice c6 c7 c8] 29) = W0) := ⟨_, rfl⟩
  have hA0 : Below w.heap.size w W0 := by rw [← HW0.out]; exact below_alloc1 _ _
  have kb : Blk5 W0 w.heap.size 29 (.int .i64 c0) (.int .i64 c1) (.string c2) (.slice c3 c4 c5) (.slice c6 c7 c8) := by rw [← HW0.out]; exact Blk5.new _ _ _ _ _ _ _
  have hSw : Within (Live1 w (.slice la n lc)) w := fun b hb => hb.1
  have hgl : ∀ g, (Value.slice la n lc).ownBlock = some g → N ≤ g ∧ g < w.heap.size := fun g hg => hto.1.lt g hg
  have HGL := hide hgl
  have HMV : Hid (∀ W, Below w.heap.size w W → VTo (Live1 w (.slice la n lc)) N W (.slice la n lc) xs vs ∧ ValAt (Live1 w (.slice la n lc)) W (d + 1) x (.agg #[.int .i64 c0, .int .i64 c1, .string c2, .slice c3 c4 c5, .slice c6 c7 c8])) := fun W hW => ⟨hto.moved (hSw.same hW) (fun g hg => hW.block g (hgl g hg).2), hx.same (hSw.same hW)⟩
  have HKB : Hid (∀ W, Below W0.heap.size W0 W → Blk5 W w.heap.size 29 (.int .i64 c0) (.int .i64 c1) (.string c2) (.slice c3 c4 c5) (.slice c6 c7 c8)) := fun W hW => kb.below hW
  have HA0 := hide hA0
  have hz0 : w.heap.size < W0.heap.size := kb.lt
  have HT0 := hide hto
  have HX0 := hide hx
  clear hto hx hgl hsz1 kb hA0
  go_enter Tryz.func61, Tryz.ntmps61
  go_wp2_with fail
  rw [HW0.out]
  clear HW0
  go_loopw [5] (fun i wr => ∃ k : Nat, k ≤ n ∧ i = .int .i64 (k : Int) ∧ Hid (∀ j y, j < k → xs[j]? = some y → ordT (d + 1) y x ≤ 0) ∧ Hid (Below W0.heap.size W0 wr)) (fun i _ => n - (intOf i).toNat)
  case atStart => exact ⟨0, Nat.zero_le _, rfl, fun j y hj => by omega, Below.refl _ _⟩
  case round =>
    obtain ⟨k, hk, rfl, hle, hbr⟩ := hrel
    have hB : Below w.heap.size w wr := below_trans HA0.out hbr.out
    have HB := hide hB
    have hsw := hB.size
    have hDr : Below wr.heap.size wr wr.drew := ⟨rfl, rfl, rfl, Nat.le_refl _, fun _ _ => rfl⟩
    by_cases hkl : k < n
    · have hkl2 : (k : Int) < (n : Int) := by omega
      obtain ⟨g, rfl, hnlc⟩ : ∃ g, la = some ⟨g, 0, none⟩ ∧ n ≤ lc := by
        have h := HT0.out.1
        rw [← hn.out] at h
        rcases h.2 with ⟨_, h0⟩ | ⟨g, cap, cur, e, _, _, hc, _⟩
        · omega
        · cases e; exact ⟨g, rfl, hc⟩
      have hrow := (HMV.out wr hB).1.row1 (fun b hb => by have := hSw b hb; omega) (by rw [← hn.out]; omega)
      obtain ⟨b, o, y, q0', q1', q2', q3', q4', hab, hbS, hy, e0, e1, e2, e3, e4, hval⟩ := hrow.cell (k := k) (by rw [← hn.out]; exact hkl)
      obtain ⟨q0, q1, q2, q3, q4, q5, q6, q7, q8, hq⟩ := hval.shape
      cases hq
      cases hab
      rw [Nat.zero_add] at e0 e1 e2 e3 e4
      have HY := hide hy
      obtain ⟨od, ho⟩ : ∃ o, Hid (ordT (d + 1) y x = o) := ⟨_, rfl⟩
      have hcall : Hid (Calls Tryz.prog 89 #[.agg #[.int .i64 q0, .int .i64 q1, .string q2, .slice q3 q4 q5, .slice q6 q7 q8], .agg #[.int .i64 c0, .int .i64 c1, .string c2, .slice c3 c4 c5, .slice c6 c7 c8]] wr.drew fun e w' => e = .returned (.int .i64 od) ∧ Below wr.drew.heap.size wr.drew w') := by
        have h := specOrder_any (d + 1) (fun b => b < wr.heap.size) (Live1 w (.slice (some ⟨g, 0, none⟩) n lc)) y x _ _ wr.drew (hval.same (fun _ _ => rfl)) ((HMV.out wr hB).2.same (fun _ _ => rfl)) (fun b hb => hb) (fun b hb => by have h1 := hSw b hb; show b < wr.heap.size; omega)
        rw [ho.out] at h
        exact h
      have hbl : g < wr.heap.size := hbS
      have hwl : w.heap.size < wr.heap.size := by have := hbr.out.size; omega
      obtain ⟨k0, k1, k2, k3, k4⟩ := (HKB.out wr hbr.out).cell
      have KK : Hid (∀ W, Below wr.heap.size wr W → (W.cell? ⟨g, k * 5, none⟩ = some (.int .i64 q0) ∧ W.cell? ⟨g, k * 5 + 1, none⟩ = some (.int .i64 q1) ∧ W.cell? ⟨g, k * 5 + 2, none⟩ = some (.string q2) ∧ W.cell? ⟨g, k * 5 + 3, none⟩ = some (.slice q3 q4 q5) ∧ W.cell? ⟨g, k * 5 + 4, none⟩ = some (.slice q6 q7 q8)) ∧
        W.cell? ⟨w.heap.size, 0, none⟩ = some (.int .i64 c0) ∧ W.cell? ⟨w.heap.size, 1, none⟩ = some (.int .i64 c1) ∧ W.cell? ⟨w.heap.size, 2, none⟩ = some (.string c2) ∧ W.cell? ⟨w.heap.size, 3, none⟩ = some (.slice c3 c4 c5) ∧ W.cell? ⟨w.heap.size, 4, none⟩ = some (.slice c6 c7 c8)) := fun W hW => ⟨⟨(hW.cell (p := ⟨g, k * 5, none⟩) hbl).trans e0, (hW.cell (p := ⟨g, k * 5 + 1, none⟩) hbl).trans e1, (hW.cell (p := ⟨g, k * 5 + 2, none⟩) hbl).trans e2, (hW.cell (p := ⟨g, k * 5 + 3, none⟩) hbl).trans e3, (hW.cell (p := ⟨g, k * 5 + 4, none⟩) hbl).trans e4⟩,
          (hW.cell (p := ⟨w.heap.size, 0, none⟩) hwl).trans k0, (hW.cell (p := ⟨w.heap.size, 1, none⟩) hwl).trans k1, (hW.cell (p := ⟨w.heap.size, 2, none⟩) hwl).trans k2, (hW.cell (p := ⟨w.heap.size, 3, none⟩) hwl).trans k3, (hW.cell (p := ⟨w.heap.size, 4, none⟩) hwl).trans k4⟩
      clear hrow hval hy e0 e1 e2 e3 e4 k0 k1 k2 k3 k4 hbS hB
      have hcs : od ≤ 0 ∨ ¬ od ≤ 0 := Classical.em _
      go_upto_region 2 with fail
      go_region_held3 (fun W => (W.cell? ⟨g, k * 5, none⟩ = some (.int .i64 q0) ∧ W.cell? ⟨g, k * 5 + 1, none⟩ = some (.int .i64 q1) ∧ W.cell? ⟨g, k * 5 + 2, none⟩ = some (.string q2) ∧ W.cell? ⟨g, k * 5 + 3, none⟩ = some (.slice q3 q4 q5) ∧ W.cell? ⟨g, k * 5 + 4, none⟩ = some (.slice q6 q7 q8)) ∧
        W.cell? ⟨w.heap.size, 0, none⟩ = some (.int .i64 c0) ∧ W.cell? ⟨w.heap.size, 1, none⟩ = some (.int .i64 c1) ∧ W.cell? ⟨w.heap.size, 2, none⟩ = some (.string c2) ∧ W.cell? ⟨w.heap.size, 3, none⟩ = some (.slice c3 c4 c5) ∧ W.cell? ⟨w.heap.size, 4, none⟩ = some (.slice c6 c7 c8))
        ((refine KK.out _ ?_; with_reducible assumption))
        ((go_at_call 89; refine hcall.out.mono ?_; rintro eC wC ⟨rfl, hbC⟩; have bC := below_trans hDr hbC))
      all_goals
        have HBC := hide (below_trans hbr.out bC)
        clear hbr KK hcall hDr hbC bC
        rcases hcs with hcs | hcs
        · have HLE : Hid (∀ j z, j < k + 1 → xs[j]? = some z → ordT (d + 1) z x ≤ 0) := by
            intro j z hj hz
            by_cases e : j < k
            · exact hle.out j z e hz
            · obtain rfl : j = k := by omega
              rw [HY.out] at hz
              cases hz
              rw [ho.out]
              exact hcs
          clear hle HY ho
          go_wp2_with fail
          go_roundw
          case rel => exact ⟨k + 1, by omega, by go_num, HLE, HBC⟩
          case measure => simp [intOf]; omega
        · have hsp := hide (ins_at (f := ordT (d + 1)) (v := x) hle.out (Or.inr ⟨y, HY.out, by rw [ho.out]; omega⟩))
          have HBW := HBC
          have hlk : ¬ lc = k := by omega
          have hmi1 : (k : Int) ≤ (n : Int) := by omega
          have hmi2 : (k : Int) ≤ (lc : Int) := by omega
          have hmi3 : (0 : Int) ≤ (k : Int) := by omega
          have hrt0 : RowAt (fun b => b < wC.heap.size) wC (ValAt (Live1 w (.slice (some ⟨g, 0, none⟩) n lc)) wC (d + 1)) (.slice (some ⟨g, k * 5, none⟩) (n - k) (lc - k)) (xs.drop k) := by
            have h := ((HMV.out wC (below_trans HA0.out HBC.out)).1.rowS (by rw [← hn.out]; omega)).cut (p := k) (q := n) (lc - k) (by omega) (by rw [← hn.out]; exact Nat.le_refl _)
            rw [List.take_of_length_le (by rw [List.length_drop, ← hn.out]; exact Nat.le_refl _), Nat.zero_add] at h
            exact h
          clear HY ho hle HB HBC
          have hWB : Below w.heap.size w wC := below_trans HA0.out HBW.out
          have HVW := HMV.out wC hWB
          have hrt : RowAt (fun b => b < wC.heap.size) wC (ValAt (Live1 w (.slice (some ⟨g, 0, none⟩) n lc)) wC (d + 1)) (.slice (some ⟨g, k * 5, none⟩) (n - k) (lc - k)) (xs.drop k) := hrt0
          have hA5 := below_alloc1 wC (.cells #[] 29)
          have hst5 := VTo.start (d := d + 1) (Live1 w (.slice (some ⟨g, 0, none⟩) n lc)) wC
          obtain ⟨W5, HW5⟩ : ∃ W5, Hid (wC.alloc (.cells #[] 29) = W5) := ⟨_, rfl⟩
          have hz5 : W5.heap.size = wC.heap.size + 1 := by rw [← HW5.out]; simp
          rw [HW5.out] at hA5 hst5
          have hzW := hWB.size
          have hrt5 : RowAt (fun b => b < wC.heap.size) W5 (ValAt (Live1 w (.slice (some ⟨g, 0, none⟩) n lc)) W5 (d + 1)) (.slice (some ⟨g, k * 5, none⟩) (n - k) (lc - k)) (xs.drop k) := hrt.moved (fun b hb => hA5.block b hb) (fun _ h => h) (fun z u hz => ValAt.moved (fun b hb => hA5.block b (by have := hSw b hb; omega)) (fun _ h => h) (d + 1) z u hz)
          have hdl : ((n - k) : Nat) = (xs.drop k).length := by rw [List.length_drop]; have := hn.out; omega
          have hrunT : Hid (∀ ty, ∃ v' w', (Builtin.append_ #[27, 27] ty #[.slice (some ⟨wC.heap.size, 0, none⟩) 0 0, .slice (some ⟨g, k * 5, none⟩) (n - k) (lc - k)]).run Tryz.prog W5 = .ok v' w' ∧ TailQ (Live1 w (.slice (some ⟨g, 0, none⟩) n lc)) wC (n - k) (xs.drop k) v' w') := by
            intro ty
            obtain ⟨v', w', hr, ⟨tvs, hv'⟩, hgr, ⟨ta, tc, e⟩, _⟩ := run_append_onto_valsW hst5 (fun b hb => ⟨by have := hSw b hb; omega, fun e => by have := hSw b hb; have e2 := Option.some.inj e; have e3 : b = wC.heap.size := e2; omega⟩) (by omega) (xs.drop k) (some ⟨g, k * 5, none⟩) (lc - k) (n - k) ty hdl hrt5 (by simp; have := hn.out; omega)
            have e4 : ([] : List (Tr (d + 1))).length + (xs.drop k).length = (n - k) := by rw [List.length_drop]; have := hn.out; simp only [List.length_nil]; omega
            rw [e4] at e
            subst e
            rw [List.nil_append] at hv'
            exact ⟨_, w', hr, ta, tc, tvs, rfl, hv', ⟨hgr.os.trans hA5.os, hgr.tape.trans hA5.tape, hgr.output.trans hA5.output, by have := hgr.size; omega, fun b hb => (hgr.block b (by omega) (fun e => by have e2 : b = wC.heap.size := Option.some.inj e; omega)).trans (hA5.block b hb)⟩⟩
          clear hrt hrt5 hst5 hA5 hdl
          go_wp2_with (at_builtin; refine wpList_append_run (fun v' w' => TailQ (Live1 w (.slice (some ⟨g, 0, none⟩) n lc)) wC (n - k) (xs.drop k) v' w') rfl _ _ 27 rfl (.slice (some ⟨wC.heap.size, 0, none⟩) 0 0) (.slice (some ⟨g, k * 5, none⟩) (n - k) (lc - k)) rfl rfl (by rw [HW5.out]; exact hrunT.out 27) ?_)
          rintro v' w6 hph
          obtain ⟨ta, tc, tvs, rfl, htl6, hb6⟩ := hph
          have HR1 := hide (put_runs (k := k) (m := (n - k)) hn.out (by omega) (by omega) hl hN HT0.out HX0.out hWB htl6 hb6)
          have kb6 := (HKB.out wC HBW.out).below hb6
          obtain ⟨k0, k1, k2, k3, k4⟩ := kb6.cell
          have kbl := kb6.lt
          clear htl6 hb6 hrunT HVW HW5 hz5 kb6
          go_wp2_with fail
          trace_state
          go_region_law (first
            | (have hseen := HR2; clear hseen; refine step_append_run _ (by rfl) _ _ 27 (by rfl) _ _ (by rfl) (by rfl) (HR2.out _) ?_; rintro v9 w9 ⟨a9, c9, vs9, rfl, HE9⟩)
            | (refine step_append_run _ (by rfl) _ _ 27 (by rfl) _ _ (by rfl) (by rfl) (HR1.out _) ?_; rintro v8 w8 ⟨a8, c8', rfl, HR2⟩))
          all_goals
            clear HR1 HR2 k0 k1 k2 k3 k4
            go_wp2_with fail
            go_ret
            rw [hsp.out]
            exact ⟨a9, c9, vs9, rfl, HE9.out.1, HE9.out.2⟩
    · obtain rfl : k = n := by omega
      have hsp := hide (ins_at (f := ordT (d + 1)) (v := x) hle.out (Or.inl (by rw [hn.out]; exact Nat.le_refl _)))
      clear hle
      go_upto_region 2 with fail
      have hnl : ¬ (k : Int) < (k : Int) := by omega
      go_quiet (fail)
      obtain ⟨wX, HWX⟩ : ∃ W, Hid (wr.drewN nq = W) := ⟨_, rfl⟩
      have HBW : Hid (Below W0.heap.size W0 wX) := by rw [← HWX.out]; exact hide (below_trans hbr.out (below_drewN _ _ _))
      rw [HWX.out]
      have hmi3 : (0 : Int) ≤ (k : Int) := by omega
      have hdr : xs.drop k = [] := List.drop_eq_nil_of_le (by rw [← hn.out]; exact Nat.le_refl _)
      have hrt0 : ∀ a c, RowAt (fun b => b < wX.heap.size) wX (ValAt (Live1 w (.slice la k lc)) wX (d + 1)) (.slice a 0 c) (xs.drop k) := fun a c => by rw [hdr]; exact RowAt.noneR a c
      clear HB hbr hnl HWX
      have hform : (la = none ∧ k = 0 ∧ lc = 0) ∨ ∃ g, la = some ⟨g, 0, none⟩ ∧ k ≤ lc := by
        have h := HT0.out.1
        rw [← hn.out] at h
        rcases h.2 with ⟨e, h0⟩ | ⟨g, cap, cur, e, _, _, hc, _⟩
        · cases e; exact Or.inl ⟨rfl, h0, rfl⟩
        · cases e; exact Or.inr ⟨g, rfl, hc⟩
      have hkk : k - k = 0 := Nat.sub_self k
      rcases hform with ⟨rfl, rfl, rfl⟩ | ⟨g, rfl, hnlc⟩
      · have hrt1 := hrt0 none 0
        clear hrt0 hdr
        have hWB : Below w.heap.size w wX := below_trans HA0.out HBW.out
        have HVW := HMV.out wX hWB
        have hrt : RowAt (fun b => b < wX.heap.size) wX (ValAt (Live1 w (.slice none 0 0)) wX (d + 1)) (.slice none 0 0) (xs.drop 0) := hrt1
        have hA5 := below_alloc1 wX (.cells #[] 29)
        have hst5 := VTo.start (d := d + 1) (Live1 w (.slice none 0 0)) wX
        obtain ⟨W5, HW5⟩ : ∃ W5, Hid (wX.alloc (.cells #[] 29) = W5) := ⟨_, rfl⟩
        have hz5 : W5.heap.size = wX.heap.size + 1 := by rw [← HW5.out]; simp
        rw [HW5.out] at hA5 hst5
        have hzW := hWB.size
        have hrt5 : RowAt (fun b => b < wX.heap.size) W5 (ValAt (Live1 w (.slice none 0 0)) W5 (d + 1)) (.slice none 0 0) (xs.drop 0) := hrt.moved (fun b hb => hA5.block b hb) (fun _ h => h) (fun z u hz => ValAt.moved (fun b hb => hA5.block b (by have := hSw b hb; omega)) (fun _ h => h) (d + 1) z u hz)
        have hdl : (0 : Nat) = (xs.drop 0).length := by rw [List.length_drop]; have := hn.out; omega
        have hrunT : Hid (∀ ty, ∃ v' w', (Builtin.append_ #[27, 27] ty #[.slice (some ⟨wX.heap.size, 0, none⟩) 0 0, .slice none 0 0]).run Tryz.prog W5 = .ok v' w' ∧ TailQ (Live1 w (.slice none 0 0)) wX 0 (xs.drop 0) v' w') := by
          intro ty
          obtain ⟨v', w', hr, ⟨tvs, hv'⟩, hgr, ⟨ta, tc, e⟩, _⟩ := run_append_onto_valsW hst5 (fun b hb => ⟨by have := hSw b hb; omega, fun e => by have := hSw b hb; have e2 := Option.some.inj e; have e3 : b = wX.heap.size := e2; omega⟩) (by omega) (xs.drop 0) none 0 0 ty hdl hrt5 (by simp; have := hn.out; omega)
          have e4 : ([] : List (Tr (d + 1))).length + (xs.drop 0).length = 0 := by rw [List.length_drop]; have := hn.out; simp only [List.length_nil]; omega
          rw [e4] at e
          subst e
          rw [List.nil_append] at hv'
          exact ⟨_, w', hr, ta, tc, tvs, rfl, hv', ⟨hgr.os.trans hA5.os, hgr.tape.trans hA5.tape, hgr.output.trans hA5.output, by have := hgr.size; omega, fun b hb => (hgr.block b (by omega) (fun e => by have e2 : b = wX.heap.size := Option.some.inj e; omega)).trans (hA5.block b hb)⟩⟩
        clear hrt hrt5 hst5 hA5 hdl
        go_wp2_with (at_builtin; refine wpList_append_run (fun v' w' => TailQ (Live1 w (.slice none 0 0)) wX 0 (xs.drop 0) v' w') rfl _ _ 27 rfl (.slice (some ⟨wX.heap.size, 0, none⟩) 0 0) (.slice none 0 0) rfl rfl (by rw [HW5.out]; exact hrunT.out 27) ?_)
        rintro v' w6 hph
        obtain ⟨ta, tc, tvs, rfl, htl6, hb6⟩ := hph
        have HR1 := hide (put_runs (k := 0) (m := 0) hn.out (by omega) (by omega) hl hN HT0.out HX0.out hWB htl6 hb6)
        have kb6 := (HKB.out wX HBW.out).below hb6
        obtain ⟨k0, k1, k2, k3, k4⟩ := kb6.cell
        have kbl := kb6.lt
        clear htl6 hb6 hrunT HVW HW5 hz5 kb6
        go_wp2_with fail
        trace_state
        go_region_law (first
          | (have hseen := HR2; clear hseen; refine step_append_run _ (by rfl) _ _ 27 (by rfl) _ _ (by rfl) (by rfl) (HR2.out _) ?_; rintro v9 w9 ⟨a9, c9, vs9, rfl, HE9⟩)
          | (refine step_append_run _ (by rfl) _ _ 27 (by rfl) _ _ (by rfl) (by rfl) (HR1.out _) ?_; rintro v8 w8 ⟨a8, c8', rfl, HR2⟩))
        all_goals
          clear HR1 HR2 k0 k1 k2 k3 k4
          go_wp2_with fail
          go_ret
          rw [hsp.out]
          exact ⟨a9, c9, vs9, rfl, HE9.out.1, HE9.out.2⟩
      · have hmi2 : (k : Int) ≤ (lc : Int) := by omega
        rcases (Classical.em _ : lc = k ∨ ¬ lc = k) with rfl | hlk
        · have hrt1 := hrt0 (some ⟨g, 0, none⟩) 0
          clear hrt0 hdr
          have hWB : Below w.heap.size w wX := below_trans HA0.out HBW.out
          have HVW := HMV.out wX hWB
          have hrt : RowAt (fun b => b < wX.heap.size) wX (ValAt (Live1 w (.slice (some ⟨g, 0, none⟩) lc lc)) wX (d + 1)) (.slice (some ⟨g, 0, none⟩) 0 0) (xs.drop lc) := hrt1
          have hA5 := below_alloc1 wX (.cells #[] 29)
          have hst5 := VTo.start (d := d + 1) (Live1 w (.slice (some ⟨g, 0, none⟩) lc lc)) wX
          obtain ⟨W5, HW5⟩ : ∃ W5, Hid (wX.alloc (.cells #[] 29) = W5) := ⟨_, rfl⟩
          have hz5 : W5.heap.size = wX.heap.size + 1 := by rw [← HW5.out]; simp
          rw [HW5.out] at hA5 hst5
          have hzW := hWB.size
          have hrt5 : RowAt (fun b => b < wX.heap.size) W5 (ValAt (Live1 w (.slice (some ⟨g, 0, none⟩) lc lc)) W5 (d + 1)) (.slice (some ⟨g, 0, none⟩) 0 0) (xs.drop lc) := hrt.moved (fun b hb => hA5.block b hb) (fun _ h => h) (fun z u hz => ValAt.moved (fun b hb => hA5.block b (by have := hSw b hb; omega)) (fun _ h => h) (d + 1) z u hz)
          have hdl : (0 : Nat) = (xs.drop lc).length := by rw [List.length_drop]; have := hn.out; omega
          have hrunT : Hid (∀ ty, ∃ v' w', (Builtin.append_ #[27, 27] ty #[.slice (some ⟨wX.heap.size, 0, none⟩) 0 0, .slice (some ⟨g, 0, none⟩) 0 0]).run Tryz.prog W5 = .ok v' w' ∧ TailQ (Live1 w (.slice (some ⟨g, 0, none⟩) lc lc)) wX 0 (xs.drop lc) v' w') := by
            intro ty
            obtain ⟨v', w', hr, ⟨tvs, hv'⟩, hgr, ⟨ta, tc, e⟩, _⟩ := run_append_onto_valsW hst5 (fun b hb => ⟨by have := hSw b hb; omega, fun e => by have := hSw b hb; have e2 := Option.some.inj e; have e3 : b = wX.heap.size := e2; omega⟩) (by omega) (xs.drop lc) (some ⟨g, 0, none⟩) 0 0 ty hdl hrt5 (by simp; have := hn.out; omega)
            have e4 : ([] : List (Tr (d + 1))).length + (xs.drop lc).length = 0 := by rw [List.length_drop]; have := hn.out; simp only [List.length_nil]; omega
            rw [e4] at e
            subst e
            rw [List.nil_append] at hv'
            exact ⟨_, w', hr, ta, tc, tvs, rfl, hv', ⟨hgr.os.trans hA5.os, hgr.tape.trans hA5.tape, hgr.output.trans hA5.output, by have := hgr.size; omega, fun b hb => (hgr.block b (by omega) (fun e => by have e2 : b = wX.heap.size := Option.some.inj e; omega)).trans (hA5.block b hb)⟩⟩
          clear hrt hrt5 hst5 hA5 hdl
          go_wp2_with (at_builtin; refine wpList_append_run (fun v' w' => TailQ (Live1 w (.slice (some ⟨g, 0, none⟩) lc lc)) wX 0 (xs.drop lc) v' w') rfl _ _ 27 rfl (.slice (some ⟨wX.heap.size, 0, none⟩) 0 0) (.slice (some ⟨g, 0, none⟩) 0 0) rfl rfl (by rw [HW5.out]; exact hrunT.out 27) ?_)
          rintro v' w6 hph
          obtain ⟨ta, tc, tvs, rfl, htl6, hb6⟩ := hph
          have HR1 := hide (put_runs (k := lc) (m := 0) hn.out (by omega) (by omega) hl hN HT0.out HX0.out hWB htl6 hb6)
          have kb6 := (HKB.out wX HBW.out).below hb6
          obtain ⟨k0, k1, k2, k3, k4⟩ := kb6.cell
          have kbl := kb6.lt
          clear htl6 hb6 hrunT HVW HW5 hz5 kb6
          go_wp2_with fail
          trace_state
          go_region_law (first
            | (have hseen := HR2; clear hseen; refine step_append_run _ (by rfl) _ _ 27 (by rfl) _ _ (by rfl) (by rfl) (HR2.out _) ?_; rintro v9 w9 ⟨a9, c9, vs9, rfl, HE9⟩)
            | (refine step_append_run _ (by rfl) _ _ 27 (by rfl) _ _ (by rfl) (by rfl) (HR1.out _) ?_; rintro v8 w8 ⟨a8, c8', rfl, HR2⟩))
          all_goals
            clear HR1 HR2 k0 k1 k2 k3 k4
            go_wp2_with fail
            go_ret
            rw [hsp.out]
            exact ⟨a9, c9, vs9, rfl, HE9.out.1, HE9.out.2⟩
        · have hrt1 := hrt0 (some ⟨g, k * 5, none⟩) (lc - k)
          clear hrt0 hdr
          have hWB : Below w.heap.size w wX := below_trans HA0.out HBW.out
          have HVW := HMV.out wX hWB
          have hrt : RowAt (fun b => b < wX.heap.size) wX (ValAt (Live1 w (.slice (some ⟨g, 0, none⟩) k lc)) wX (d + 1)) (.slice (some ⟨g, k * 5, none⟩) 0 (lc - k)) (xs.drop k) := hrt1
          have hA5 := below_alloc1 wX (.cells #[] 29)
          have hst5 := VTo.start (d := d + 1) (Live1 w (.slice (some ⟨g, 0, none⟩) k lc)) wX
          obtain ⟨W5, HW5⟩ : ∃ W5, Hid (wX.alloc (.cells #[] 29) = W5) := ⟨_, rfl⟩
          have hz5 : W5.heap.size = wX.heap.size + 1 := by rw [← HW5.out]; simp
          rw [HW5.out] at hA5 hst5
          have hzW := hWB.size
          have hrt5 : RowAt (fun b => b < wX.heap.size) W5 (ValAt (Live1 w (.slice (some ⟨g, 0, none⟩) k lc)) W5 (d + 1)) (.slice (some ⟨g, k * 5, none⟩) 0 (lc - k)) (xs.drop k) := hrt.moved (fun b hb => hA5.block b hb) (fun _ h => h) (fun z u hz => ValAt.moved (fun b hb => hA5.block b (by have := hSw b hb; omega)) (fun _ h => h) (d + 1) z u hz)
          have hdl : (0 : Nat) = (xs.drop k).length := by rw [List.length_drop]; have := hn.out; omega
          have hrunT : Hid (∀ ty, ∃ v' w', (Builtin.append_ #[27, 27] ty #[.slice (some ⟨wX.heap.size, 0, none⟩) 0 0, .slice (some ⟨g, k * 5, none⟩) 0 (lc - k)]).run Tryz.prog W5 = .ok v' w' ∧ TailQ (Live1 w (.slice (some ⟨g, 0, none⟩) k lc)) wX 0 (xs.drop k) v' w') := by
            intro ty
            obtain ⟨v', w', hr, ⟨tvs, hv'⟩, hgr, ⟨ta, tc, e⟩, _⟩ := run_append_onto_valsW hst5 (fun b hb => ⟨by have := hSw b hb; omega, fun e => by have := hSw b hb; have e2 := Option.some.inj e; have e3 : b = wX.heap.size := e2; omega⟩) (by omega) (xs.drop k) (some ⟨g, k * 5, none⟩) (lc - k) 0 ty hdl hrt5 (by simp; have := hn.out; omega)
            have e4 : ([] : List (Tr (d + 1))).length + (xs.drop k).length = 0 := by rw [List.length_drop]; have := hn.out; simp only [List.length_nil]; omega
            rw [e4] at e
            subst e
            rw [List.nil_append] at hv'
            exact ⟨_, w', hr, ta, tc, tvs, rfl, hv', ⟨hgr.os.trans hA5.os, hgr.tape.trans hA5.tape, hgr.output.trans hA5.output, by have := hgr.size; omega, fun b hb => (hgr.block b (by omega) (fun e => by have e2 : b = wX.heap.size := Option.some.inj e; omega)).trans (hA5.block b hb)⟩⟩
          clear hrt hrt5 hst5 hA5 hdl
          go_wp2_with (at_builtin; refine wpList_append_run (fun v' w' => TailQ (Live1 w (.slice (some ⟨g, 0, none⟩) k lc)) wX 0 (xs.drop k) v' w') rfl _ _ 27 rfl (.slice (some ⟨wX.heap.size, 0, none⟩) 0 0) (.slice (some ⟨g, k * 5, none⟩) 0 (lc - k)) rfl rfl (by rw [HW5.out]; exact hrunT.out 27) ?_)
          rintro v' w6 hph
          obtain ⟨ta, tc, tvs, rfl, htl6, hb6⟩ := hph
          have HR1 := hide (put_runs (k := k) (m := 0) hn.out (by omega) (by omega) hl hN HT0.out HX0.out hWB htl6 hb6)
          have kb6 := (HKB.out wX HBW.out).below hb6
          obtain ⟨k0, k1, k2, k3, k4⟩ := kb6.cell
          have kbl := kb6.lt
          clear htl6 hb6 hrunT HVW HW5 hz5 kb6
          go_wp2_with fail
          trace_state
          go_region_law (first
            | (have hseen := HR2; clear hseen; refine step_append_run _ (by rfl) _ _ 27 (by rfl) _ _ (by rfl) (by rfl) (HR2.out _) ?_; rintro v9 w9 ⟨a9, c9, vs9, rfl, HE9⟩)
            | (refine step_append_run _ (by rfl) _ _ 27 (by rfl) _ _ (by rfl) (by rfl) (HR1.out _) ?_; rintro v8 w8 ⟨a8, c8', rfl, HR2⟩))
          all_goals
            clear HR1 HR2 k0 k1 k2 k3 k4
            go_wp2_with fail
            go_ret
            rw [hsp.out]
            exact ⟨a9, c9, vs9, rfl, HE9.out.1, HE9.out.2⟩
end Go.Proofs.YtilgbnnjecpneaaGreatDoor
