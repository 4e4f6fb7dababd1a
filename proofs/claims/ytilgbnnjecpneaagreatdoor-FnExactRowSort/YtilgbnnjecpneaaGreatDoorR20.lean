/- Texts of the proof, put together by program: PMrg, WMrgQ, WSetTo, WMrgS, ShelfG, WFlatQ, WAddG. -/
import Derived.Test.YtilgbnnjecpneaaGreatDoorR10
import Derived.Test.YtilgbnnjecpneaaGreatDoorR17
import Derived.Test.YtilgbnnjecpneaaGreatDoorR19
import Derived.Test.YtilgbnnjecpneaaGreatDoorR18
import Derived.Test.YtilgbnnjecpneaaGreatDoorR14
import Derived.Shelf.Spec.SlicesGrow
import Derived.Test.YtilgbnnjecpneaaGreatDoorProg
/- RowSort, RowLeast: what they tell. -/
namespace Go.Proofs.YtilgbnnjecpneaaGreatDoor
open Go.RowKit Go.Deep

/-- A row in order. -/
def sortF (d : Nat) (xs : List (Tr d)) : Option (Tr (d + 1)) := some (rowT d (sortL (ordT d) xs))
/-- The first of a row by its order; nothing, if it is empty. -/
def leastF (d : Nat) (xs : List (Tr (d + 1))) : Option (Tr (d + 1)) :=
  match sortL (ordT (d + 1)) xs with
  | [] => some (zeroT d)
  | x :: _ => some x
theorem least_nil (d : Nat) : leastF d [] = some (zeroT d) := rfl
theorem least_cons {d : Nat} {xs r : List (Tr (d + 1))} {x : Tr (d + 1)} (h : sortL (ordT (d + 1)) xs = x :: r) : leastF d xs = some x := by
  unfold leastF
  rw [h]
end Go.Proofs.YtilgbnnjecpneaaGreatDoor

/- l4Sort of the model: a row in order. -/
namespace Go.Proofs.YtilgbnnjecpneaaGreatDoor
open Go.RowKit Go.Deep

theorem sort_step {d : Nat} {xs : List (Tr d)} {k : Nat} {x : Tr d} (h : xs[k]? = some x) : sortL (ordT d) (xs.take (k + 1)) = insL (ordT d) x (sortL (ordT d) (xs.take k)) := by
  have e : xs.take (k + 1) = xs.take k ++ [x] := by rw [List.take_add_one, h]; rfl
  rw [e]
  unfold sortL
  rw [List.foldl_append]
  rfl
theorem VTo.later {d N : Nat} {w w' : World} {lv : Value} {xs : List (Tr d)} {vs : List Value} (h : VTo (Live1 w lv) N w lv xs vs) (hb : Below w.heap.size w w') : VTo (Live1 w' lv) N w' lv xs vs :=
  (h.moved (fun _ hb' => hb.block _ hb'.1) (fun g hg => hb.block g (h.1.lt g hg).2)).mono (fun _ hb' => ⟨Nat.lt_of_lt_of_le hb'.1 hb.size, hb'.2⟩)

set_option maxRecDepth 100000 in
set_option maxHeartbeats 4000000 in
theorem l4Sort_any (d n : Nat) (S : Nat → Prop) (xs : List (Tr (d + 1))) (al : Option Addr) (cl : Nat) (w : World) (hn : Hid (n = xs.length)) (hl : RowAt S w (ValAt S w (d + 1)) (.slice al n cl) xs) (hS : Within S w) (hlen : n ≤ 100) :
    Calls Tryz.prog 35 #[.slice al n cl] w fun e w' => ∃ a c vs, e = .returned (.slice a n c) ∧ VTo (Live1 w' (.slice a n c)) w.heap.size w' (.slice a n c) (sortL (ordT (d + 1)) xs) vs ∧ Below w.heap.size w w' := by
  obtain ⟨W0, HW0⟩ : ∃ W0, Hid (w.alloc (.cells #[] 29) = W0) := ⟨_, rfl⟩
  have hst0 := VTo.start (d := d + 1) (fun _ => False) w
  have hA0 := below_alloc1 w (.cells #[] 29)
  rw [HW0.out] at hst0 hA0
  have hst : Hid (VTo (Live1 W0 (.slice (some ⟨w.heap.size, 0, none⟩) 0 0)) w.heap.size W0 (.slice (some ⟨w.heap.size, 0, none⟩) 0 0) (sortL (ordT (d + 1)) (xs.take 0)) []) := hst0.mono (fun _ hb => hb.elim)
  have hbs : Hid (Below w.heap.size w W0) := hA0
  have HL := hide hl
  clear hst0 hA0 hl
  go_enter Tryz.func35, Tryz.ntmps35
  go_wp2_with fail
  rw [HW0.out]
  clear HW0
  go_loopw [3, 4] (fun out i wr => ∃ (m : Nat) (la : Option Addr) (lc : Nat) (vs : List Value), m ≤ n ∧ out = .slice la m lc ∧ i = .int .i64 (m : Int) ∧ Hid (VTo (Live1 wr (.slice la m lc)) w.heap.size wr (.slice la m lc) (sortL (ordT (d + 1)) (xs.take m)) vs) ∧ Hid (Below w.heap.size w wr)) (fun _ i _ => n - (intOf i).toNat)
  case atStart => exact ⟨0, _, _, [], Nat.zero_le _, rfl, rfl, hst, hbs⟩
  case round =>
    clear hst hbs
    obtain ⟨m, la, lc, vs, hm, rfl, rfl, hto, hbr⟩ := hrel
    by_cases hmt : m < n
    · have hmi : (m : Int) < (n : Int) := by omega
      obtain ⟨b, o, x, c0, c1, c2, c3, c4, rfl, hbS, hx, e0, e1, e2, e3, e4, hval⟩ := (HL.out.moved (hS.same hbr.out) (fun _ h => h) (fun z u hz => ValAt.moved (hS.same hbr.out) (fun _ h => h) (d + 1) z u hz)).cell (k := m) (by rw [← hn.out]; exact hmt)
      obtain ⟨q0, q1, q2, q3, q4, q5, q6, q7, q8, hq⟩ := hval.shape
      cases hq
      have hz := hbr.out.size
      have hgl : ∀ g, (Value.slice la m lc).ownBlock = some g → w.heap.size ≤ g ∧ g < wr.heap.size := fun g hg => hto.out.1.lt g hg
      have hmn : Hid (m = (sortL (ordT (d + 1)) (xs.take m)).length) := by show _ = _; rw [sort_len, List.length_take, ← hn.out]; omega
      have hval2 := hval.mono (S' := Live1 wr (.slice la m lc)) (fun b hb => ⟨by have := hS b hb; omega, fun e => by have := (hgl b e.symm).1; have := hS b hb; omega⟩)
      have hcall := hide (fun W (hW : Below wr.heap.size wr W) => l4Put_any d w.heap.size m (sortL (ordT (d + 1)) (xs.take m)) x la lc vs q0 q1 q2 q3 q4 q5 q6 q7 q8 W hmn (hto.out.later hW) (by have := hW.size; omega) ((hval2.same (fun b hb => hW.block b hb.1)).mono (fun b hb => ⟨Nat.lt_of_lt_of_le hb.1 hW.size, hb.2⟩)) (by omega))
      have hst2 := hide (sort_step hx)
      have hbl : b < wr.heap.size := by have := hS b hbS; omega
      clear hval hval2 hgl hmn hto hx hbS
      go_wp2_with fail
      refine Calls.mono (hcall.out wr (Below.refl _ _)) ?_
      rintro e w2 ⟨a2, c2', vs2, rfl, hv2, hb2⟩
      rw [← hst2.out] at hv2
      have HV := hide hv2
      have HB := hide (hbr.out.trans hb2)
      clear hv2 hb2 hcall hst2 hbr
      go_wp2_with fail
      go_roundw
      case rel => exact ⟨m + 1, a2, c2', vs2, by omega, rfl, by go_num, HV, HB⟩
      case measure => simp [intOf]; omega
    · obtain rfl : m = n := by omega
      have hto2 := hto.out
      rw [List.take_of_length_le (by rw [← hn.out]; exact Nat.le_refl _)] at hto2
      have HT := hide hto2
      clear hto2 hto
      go_wp2_with fail
      go_ret
      exact ⟨la, lc, vs, rfl, HT.out, hbr.out⟩
end Go.Proofs.YtilgbnnjecpneaaGreatDoor

/- l2Told of the model: a tree in new memory, if it is right : the answer owns its memory. -/
namespace Go.Proofs.YtilgbnnjecpneaaGreatDoor
open Go.RowKit Go.Deep

set_option maxRecDepth 100000 in
set_option maxHeartbeats 4000000 in
theorem l2Told_own (d : Nat) (S : Nat → Prop) (t : Tr (d + 1)) (v : Value) (w : World) (hv : ValAt S w (d + 1) t v) (hS : Within S w) (hsm : (nodes (d + 1) t : Int) ≤ 4194304) :
    Calls Tryz.prog 33 #[v] w (TellQ d (toldT d t) (okT (d + 1) t) w) := by
  have hv0 := hv
  obtain ⟨k, n, s, ak, lk, ck, al, ll, cl, rfl⟩ := hv.shape
  obtain ⟨W0, hW⟩ : ∃ W0, W0 = (w.alloc (.cells #[.int .i64 k, .int .i64 n, .string s, .slice ak lk ck, .slice al ll cl] 29)).alloc (.cells #[.int .i64 0, .int .i64 0, .string { data := #[] }, .slice none 0 0, .slice none 0 0] 29) := ⟨_, rfl⟩
  have hW0 : Below w.heap.size w W0 := by rw [hW]; exact below_trans (below_alloc1 _ _) (below_alloc1 _ _)
  have k0 : Blk5 W0 w.heap.size 29 (.int .i64 k) (.int .i64 n) (.string s) (.slice ak lk ck) (.slice al ll cl) := by
    rw [hW]; exact (Blk5.new w 29 _ _ _ _ _).alloc _
  have k1 : Blk5 W0 (w.heap.size + 1) 29 (.int .i64 0) (.int .i64 0) (.string { data := #[] }) (.slice none 0 0) (.slice none 0 0) := by
    have := Blk5.new (w.alloc (.cells #[.int .i64 k, .int .i64 n, .string s, .slice ak lk ck, .slice al ll cl] 29)) 29 (.int .i64 0) (.int .i64 0) (.string { data := #[] }) (.slice none 0 0) (.slice none 0 0)
    rw [World.size_alloc] at this
    rw [hW]
    exact this
  have HW := hide hW
  clear hW hv
  go_enter Tryz.func33, Tryz.ntmps33
  go_wp2_with fail
  rw [← HW.out]
  clear HW
  refine (specValOk_any (d + 1) S t _ W0 (hv0.same (hS.same hW0)) (hS.later hW0.size) hsm).mono ?_
  rintro e w1 ⟨rfl, hb1⟩
  replace k0 := k0.below hb1
  replace k1 := k1.below hb1
  have hB1 := below_trans hW0 hb1
  obtain ⟨x0, x1, x2, x3, x4⟩ := k0.cell
  have hlt := k1.lt
  clear hb1 hW0
  cases hf : okT (d + 1) t with
  | false =>
    have hz : Hid (toldT d t = zeroT d) := by
      show toldT d t = _
      rw [toldT, hf]
      rfl
    have hno : Hid (∀ wF, wF = set5 w1 (w.heap.size + 1) 0 (.int .i64 0) (.int .i64 0) (.string { data := #[] }) (.slice none 0 0) (.slice none 0 0) → Below w.heap.size w wF) := by
      intro wF hF
      rw [hF]
      exact below_set5 hB1 (by omega) _ _ _ _ _ _
    obtain ⟨y0, y1, y2, y3, y4⟩ := k1.cell
    have yf := k1.frozen
    clear k0 k1 hB1 hv0
    go_wp2_with fail
    rw [hz.out, hf]
    refine bodyPost_ret (v := .tuple #[zeroVal, .bool false]) (by simp [results, Tryz.results33, go_sem, zeroVal, y0, y1, y2, y3, y4]; rfl) rfl ⟨_, rfl, zeroVal_own d _ _, hno.out _ rfl⟩
  | true =>
    have hz : Hid (toldT d t = t) := by
      show toldT d t = _
      rw [toldT, hf]
      rfl
    have hwt := wtT_ok hf
    go_wp2_with fail
    refine (l1Copy_any (d + 1) S t _ w1 (hv0.same (hS.same hB1)) (hS.later hB1.size) (by omega)).mono ?_
    rintro e w3 ⟨u, rfl, hu3, hb3⟩
    obtain ⟨u0, u1, u2, u3, u4, u5, u6, u7, u8, rfl⟩ := (ValOwn.at _ _ _ _ hu3).shape
    have HF := hide (tell_end hu3 (below_trans hB1 hb3) (by omega) hlt)
    have k3 := k1.below hb3
    clear hu3 hb3 k1 k0 hv0 x0 x1 x2 x3 x4
    obtain ⟨y0, y1, y2, y3, y4⟩ := k3.cell
    have yf := k3.frozen
    clear k3
    go_wp2_with fail
    rw [hz.out, hf]
    refine bodyPost_ret (v := .tuple #[.agg #[.int .i64 u0, .int .i64 u1, .string u2, .slice u3 u4 u5, .slice u6 u7 u8], .bool true]) (by simp [results, Tryz.results33, go_sem, y0, y1, y2, y3, y4]) rfl ⟨_, rfl, (HF.out _ rfl).1, (HF.out _ rfl).2⟩
end Go.Proofs.YtilgbnnjecpneaaGreatDoor

/- RowSort, RowLeast of the model. -/
namespace Go.Proofs.YtilgbnnjecpneaaGreatDoor
open Go.RowKit Go.Deep

set_option maxRecDepth 100000 in
set_option maxHeartbeats 2000000 in
theorem specRowSort_own (d : Nat) (S : Nat → Prop) (t : Tr (d + 1 + 1)) (v : Value) (w : World) (hv : ValAt S w (d + 1 + 1) t v) (hS : Within S w) (hsm : (nodes (d + 1 + 1) t : Int) ≤ 4194304) :
    Calls Tryz.prog 10 #[v] w (TellQ (d + 1) (rowTell (sortF (d + 1)) t).1 (rowTell (sortF (d + 1)) t).2 w) := by
  have hv0 := hv
  obtain ⟨vk, vl, rfl, i1, i2, i3, hk, hl⟩ := hv
  obtain ⟨ak, ck, rfl, hkl⟩ := hk.open'
  obtain ⟨al, cl, rfl, hll⟩ := hl.open'
  obtain ⟨W0, hW⟩ : ∃ W0, W0 = (w.alloc (.cells #[.int .i64 t.kind, .int .i64 t.num, .string t.str, .slice ak t.keys.length ck, .slice al t.list.length cl] 29)).alloc (.cells #[.int .i64 0, .int .i64 0, .string { data := #[] }, .slice none 0 0, .slice none 0 0] 29) := ⟨_, rfl⟩
  have hW0 : Below w.heap.size w W0 := by rw [hW]; exact below_trans (below_alloc1 _ _) (below_alloc1 _ _)
  have k0 : Blk5 W0 w.heap.size 29 (.int .i64 t.kind) (.int .i64 t.num) (.string t.str) (.slice ak t.keys.length ck) (.slice al t.list.length cl) := by
    rw [hW]; exact (Blk5.new w 29 _ _ _ _ _).alloc _
  have k1 : Blk5 W0 (w.heap.size + 1) 29 (.int .i64 0) (.int .i64 0) (.string { data := #[] }) (.slice none 0 0) (.slice none 0 0) := by
    have := Blk5.new (w.alloc (.cells #[.int .i64 t.kind, .int .i64 t.num, .string t.str, .slice ak t.keys.length ck, .slice al t.list.length cl] 29)) 29 (.int .i64 0) (.int .i64 0) (.string { data := #[] }) (.slice none 0 0) (.slice none 0 0)
    rw [World.size_alloc] at this
    rw [hW]
    exact this
  have HW := hide hW
  clear hW hk
  go_enter Tryz.func10, Tryz.ntmps10
  go_wp2_with fail
  rw [← HW.out]
  clear HW
  refine (l4Row_any (d + 1) S t _ W0 (hv0.same (hS.same hW0)) (hS.later hW0.size) hsm).mono ?_
  rintro e w1 ⟨rfl, hb1⟩
  replace k0 := k0.below hb1
  replace k1 := k1.below hb1
  have hB1 := below_trans hW0 hb1
  have hlt := k1.lt
  clear hb1 hW0 hv0
  cases hf : treesL (d + 1) t with
  | none =>
    have hz := hide (rowTell_none (f := sortF (d + 1)) hf)
    have hno : Hid (∀ wF, wF = set5 w1 (w.heap.size + 1) 0 (.int .i64 0) (.int .i64 0) (.string { data := #[] }) (.slice none 0 0) (.slice none 0 0) → Below w.heap.size w wF) := by
      intro wF hF
      rw [hF]
      exact below_set5 hB1 (by omega) _ _ _ _ _ _
    obtain ⟨y0, y1, y2, y3, y4⟩ := k1.cell
    have yf := k1.frozen
    clear k0 k1 hB1
    go_wp2_with fail
    rw [hz.out]
    refine bodyPost_ret (v := .tuple #[zeroVal, .bool false]) (by simp [results, Tryz.results10, go_sem, zeroVal, y0, y1, y2, y3, y4]; rfl) rfl ⟨_, rfl, zeroVal_own (d + 1) _ _, hno.out _ rfl⟩
  | some xs =>
    obtain ⟨hok, h5, rfl⟩ := treesL_some hf
    clear h5
    have hR : Hid (rowTell (sortF (d + 1)) t = (toldT (d + 1) (rowT (d + 1) (sortL (ordT (d + 1)) t.list)), okT (d + 1 + 1) (rowT (d + 1) (sortL (ordT (d + 1)) t.list)))) := rowTell_some hf rfl
    have hl60 : t.list.length ≤ 60 := (okT_kinds hok).2.1
    have hnod : (nodes (d + 1 + 1) (rowT (d + 1) (sortL (ordT (d + 1)) t.list)) : Int) ≤ 4194304 := nodes_row (fun x hx => okT_part hok (sort_mem.1 hx)) (by rw [sort_len]; omega)
    have HLn : Hid (t.list.length = t.list.length) := rfl
    have hcall := hide (l4Sort_any d t.list.length S t.list al cl w1 HLn (hl.moved (hS.same hB1) (fun _ h => h) (fun z u hz => ValAt.moved (hS.same hB1) (fun _ h => h) (d + 1) z u hz)) (hS.later hB1.size) (by omega))
    obtain ⟨x0, x1, x2, x3, x4⟩ := k0.cell
    clear hf hok hl
    go_wp2_with fail
    refine Calls.mono hcall.out ?_
    rintro e w2 ⟨sa, sc, svs, rfl, hto, hb2⟩
    have hB2 := below_trans hB1 hb2
    have k2 := k1.below hb2
    have HTO := hide hto
    clear hto hb2 hcall k0 k1 x0 x1 x2 x3 x4 hB1
    go_wp2_with fail
    refine (l4Of_any _ _ _ w2).mono ?_
    rintro e w3 ⟨rfl, hb3⟩
    have hB3 := below_trans hB2 hb3
    have k3 := k2.below hb3
    have hrow0 := (HTO.out.later hb3).row1 (fun b hb => hb.1) (by rw [sort_len]; omega)
    have hrow := row_tree hrow0
    have hcall2 := hide (l2Told_own (d + 1) _ _ _ w3 hrow (fun b hb => hb) hnod)
    have hlt3 : w.heap.size + 1 < w3.heap.size := k3.lt
    clear hrow hrow0 hb3 HTO hB2 k2
    go_wp2_with fail
    refine Calls.mono hcall2.out ?_
    rintro e w4 ⟨r, rfl, hr, hb4⟩
    obtain ⟨r0, r1, r2, r3, r4, r5, r6, r7, r8, rfl⟩ := (ValOwn.at _ _ _ _ hr).shape
    have HF := hide (tell_end hr (below_trans hB3 hb4) (by omega) hlt3)
    have k4 := k3.below hb4
    obtain ⟨y0, y1, y2, y3, y4⟩ := k4.cell
    have yf := k4.frozen
    clear hr hb4 k3 k4 hcall2 hB3
    go_wp2_with fail
    rw [hR.out]
    exact bodyPost_ret (v := .tuple #[.agg #[.int .i64 r0, .int .i64 r1, .string r2, .slice r3 r4 r5, .slice r6 r7 r8], .bool (okT (d + 1 + 1) (rowT (d + 1) (sortL (ordT (d + 1)) t.list)))]) (by simp [results, Tryz.results10, go_sem, y0, y1, y2, y3, y4]) rfl ⟨_, rfl, (HF.out _ rfl).1, (HF.out _ rfl).2⟩
theorem specRowSort_any (d : Nat) (S : Nat → Prop) (t : Tr (d + 1 + 1)) (v : Value) (w : World) (hv : ValAt S w (d + 1 + 1) t v) (hS : Within S w) (hsm : (nodes (d + 1 + 1) t : Int) ≤ 4194304) :
    Calls Tryz.prog 10 #[v] w (SpecQ (d + 1) (rowTell (sortF (d + 1)) t).1 (rowTell (sortF (d + 1)) t).2 w) :=
  (specRowSort_own d S t v w hv hS hsm).mono (fun _ _ h => by obtain ⟨v, he, hv, hb⟩ := h; exact ⟨v, he, ValOwn.at _ _ _ _ hv, hb⟩)
set_option maxRecDepth 100000 in
set_option maxHeartbeats 2000000 in
theorem specRowLeast_own (d : Nat) (S : Nat → Prop) (t : Tr (d + 1 + 1)) (v : Value) (w : World) (hv : ValAt S w (d + 1 + 1) t v) (hS : Within S w) (hsm : (nodes (d + 1 + 1) t : Int) ≤ 4194304) :
    Calls Tryz.prog 18 #[v] w (TellQ (d) (rowTell (leastF d) t).1 (rowTell (leastF d) t).2 w) := by
  have hv0 := hv
  obtain ⟨vk, vl, rfl, i1, i2, i3, hk, hl⟩ := hv
  obtain ⟨ak, ck, rfl, hkl⟩ := hk.open'
  obtain ⟨al, cl, rfl, hll⟩ := hl.open'
  obtain ⟨W0, hW⟩ : ∃ W0, W0 = (w.alloc (.cells #[.int .i64 t.kind, .int .i64 t.num, .string t.str, .slice ak t.keys.length ck, .slice al t.list.length cl] 29)).alloc (.cells #[.int .i64 0, .int .i64 0, .string { data := #[] }, .slice none 0 0, .slice none 0 0] 29) := ⟨_, rfl⟩
  have hW0 : Below w.heap.size w W0 := by rw [hW]; exact below_trans (below_alloc1 _ _) (below_alloc1 _ _)
  have k0 : Blk5 W0 w.heap.size 29 (.int .i64 t.kind) (.int .i64 t.num) (.string t.str) (.slice ak t.keys.length ck) (.slice al t.list.length cl) := by
    rw [hW]; exact (Blk5.new w 29 _ _ _ _ _).alloc _
  have k1 : Blk5 W0 (w.heap.size + 1) 29 (.int .i64 0) (.int .i64 0) (.string { data := #[] }) (.slice none 0 0) (.slice none 0 0) := by
    have := Blk5.new (w.alloc (.cells #[.int .i64 t.kind, .int .i64 t.num, .string t.str, .slice ak t.keys.length ck, .slice al t.list.length cl] 29)) 29 (.int .i64 0) (.int .i64 0) (.string { data := #[] }) (.slice none 0 0) (.slice none 0 0)
    rw [World.size_alloc] at this
    rw [hW]
    exact this
  have HW := hide hW
  clear hW hk
  go_enter Tryz.func18, Tryz.ntmps18
  go_wp2_with fail
  rw [← HW.out]
  clear HW
  refine (l4Row_any (d + 1) S t _ W0 (hv0.same (hS.same hW0)) (hS.later hW0.size) hsm).mono ?_
  rintro e w1 ⟨rfl, hb1⟩
  replace k0 := k0.below hb1
  replace k1 := k1.below hb1
  have hB1 := below_trans hW0 hb1
  have hlt := k1.lt
  clear hb1 hW0 hv0
  cases hf : treesL (d + 1) t with
  | none =>
    have hz := hide (rowTell_none (f := leastF d) hf)
    have hno : Hid (∀ wF, wF = set5 w1 (w.heap.size + 1) 0 (.int .i64 0) (.int .i64 0) (.string { data := #[] }) (.slice none 0 0) (.slice none 0 0) → Below w.heap.size w wF) := by
      intro wF hF
      rw [hF]
      exact below_set5 hB1 (by omega) _ _ _ _ _ _
    obtain ⟨y0, y1, y2, y3, y4⟩ := k1.cell
    have yf := k1.frozen
    clear k0 k1 hB1
    go_wp2_with fail
    rw [hz.out]
    refine bodyPost_ret (v := .tuple #[zeroVal, .bool false]) (by simp [results, Tryz.results18, go_sem, zeroVal, y0, y1, y2, y3, y4]; rfl) rfl ⟨_, rfl, zeroVal_own (d) _ _, hno.out _ rfl⟩
  | some xs =>
    obtain ⟨hok, h5, rfl⟩ := treesL_some hf
    clear h5
    have hl60 : t.list.length ≤ 60 := (okT_kinds hok).2.1
    obtain ⟨x0, x1, x2, x3, x4⟩ := k0.cell
    by_cases h0 : t.list.length = 0
    · have hnil := List.eq_nil_of_length_eq_zero h0
      have hR : Hid (rowTell (leastF d) t = (zeroT d, true)) := by
        show _ = _
        rw [rowTell_some hf (x := zeroT d) (by rw [hnil]; rfl)]
        unfold toldT
        rw [if_pos (okT_zero d), okT_zero d]
      have hno : Hid (∀ wF, wF = set5 w1 (w.heap.size + 1) 0 (.int .i64 0) (.int .i64 0) (.string { data := #[] }) (.slice none 0 0) (.slice none 0 0) → Below w.heap.size w wF) := by
        intro wF hF
        rw [hF]
        exact below_set5 hB1 (by omega) _ _ _ _ _ _
      have h0b : ((t.list.length : Int) == 0) = true := by rw [h0]; rfl
      obtain ⟨y0, y1, y2, y3, y4⟩ := k1.cell
      have yf := k1.frozen
      clear k0 k1 hB1 hnil h0 hf hok hl hl60
      go_wp2_with fail
      rw [hR.out]
      exact bodyPost_ret (v := .tuple #[zeroVal, .bool true]) (by simp [results, Tryz.results18, go_sem, zeroVal, y0, y1, y2, y3, y4]; rfl) rfl ⟨_, rfl, zeroVal_own d _ _, hno.out _ rfl⟩
    · have h0b : ((t.list.length : Int) == 0) = false := beq_false_of_ne (by omega)
      obtain ⟨x, r, hs⟩ : ∃ x r, sortL (ordT (d + 1)) t.list = x :: r := by
        have e := sort_len (ordT (d + 1)) t.list
        cases hz : sortL (ordT (d + 1)) t.list with
        | nil => rw [hz] at e; simp at e; omega
        | cons x r => exact ⟨x, r, rfl⟩
      have okx : okT (d + 1) x = true := okT_part hok (sort_mem.1 (by rw [hs]; exact List.mem_cons_self ..))
      have hR : Hid (rowTell (leastF d) t = (toldT d x, okT (d + 1) x)) := rowTell_some hf (least_cons hs)
      have hnod : (nodes (d + 1) x : Int) ≤ 4194304 := by have := nodes_ok okx; omega
      have HLn : Hid (t.list.length = t.list.length) := rfl
      have hcall := hide (l4Sort_any d t.list.length S t.list al cl w1 HLn (hl.moved (hS.same hB1) (fun _ h => h) (fun z u hz => ValAt.moved (hS.same hB1) (fun _ h => h) (d + 1) z u hz)) (hS.later hB1.size) (by omega))
      have h0p : 0 < t.list.length := by omega
      have h0i : (0 : Int) < (t.list.length : Int) := by omega
      clear hf hok hl okx
      go_wp2_with fail
      refine Calls.mono hcall.out ?_
      rintro e w2 ⟨sa, sc, svs, rfl, hto, hb2⟩
      have hB2 := below_trans hB1 hb2
      have k2 := k1.below hb2
      have hrow := hto.row1 (fun b hb => hb.1) (by rw [sort_len]; omega)
      have e0 := sort_len (ordT (d + 1)) t.list
      rw [hs] at hrow
      obtain ⟨b, o, y, q0', q1', q2', q3', q4', rfl, hbS, hy, f0, f1, f2, f3, f4, hval⟩ := hrow.cell (k := 0) (by simp)
      obtain rfl : x = y := by simpa using hy
      obtain ⟨q0, q1, q2, q3, q4, q5, q6, q7, q8, hq⟩ := hval.shape
      cases hq
      rw [Nat.zero_mul, Nat.add_zero] at f0 f1 f2 f3 f4
      have hcall2 := hide (l2Told_own d _ _ _ w2 hval (fun b hb => hb) hnod)
      have hlt3 : w.heap.size + 1 < w2.heap.size := k2.lt
      clear hto hb2 hcall k0 k1 x0 x1 x2 x3 x4 hB1 hrow hval hy hs e0 hbS
      go_wp2_with fail
      refine Calls.mono hcall2.out ?_
      rintro e w4 ⟨r, rfl, hr, hb4⟩
      obtain ⟨r0, r1, r2, r3, r4, r5, r6, r7, r8, rfl⟩ := (ValOwn.at _ _ _ _ hr).shape
      have HF := hide (tell_end hr (below_trans hB2 hb4) (by omega) hlt3)
      have k4 := k2.below hb4
      obtain ⟨y0, y1, y2, y3, y4⟩ := k4.cell
      have yf := k4.frozen
      clear hr hb4 k2 k4 hcall2 hB2 f0 f1 f2 f3 f4
      go_wp2_with fail
      rw [hR.out]
      exact bodyPost_ret (v := .tuple #[.agg #[.int .i64 r0, .int .i64 r1, .string r2, .slice r3 r4 r5, .slice r6 r7 r8], .bool (okT (d + 1) x)]) (by simp [results, Tryz.results18, go_sem, y0, y1, y2, y3, y4]) rfl ⟨_, rfl, (HF.out _ rfl).1, (HF.out _ rfl).2⟩
theorem specRowLeast_any (d : Nat) (S : Nat → Prop) (t : Tr (d + 1 + 1)) (v : Value) (w : World) (hv : ValAt S w (d + 1 + 1) t v) (hS : Within S w) (hsm : (nodes (d + 1 + 1) t : Int) ≤ 4194304) :
    Calls Tryz.prog 18 #[v] w (SpecQ (d) (rowTell (leastF d) t).1 (rowTell (leastF d) t).2 w) :=
  (specRowLeast_own d S t v w hv hS hsm).mono (fun _ _ h => by obtain ⟨v, he, hv, hb⟩ := h; exact ⟨v, he, ValOwn.at _ _ _ _ hv, hb⟩)
end Go.Proofs.YtilgbnnjecpneaaGreatDoor

/- The library's Grow at this program's numbers: laid by program. -/
namespace Go.Proofs
open Go.Shelf
def Tryz.laysG_ren : Go.Shelf.Ren := ⟨fun | 4 => 100 | n => n, fun | 22 => 74 | 25 => 64 | 3 => 3 | 4 => 4 | 9 => 9 | 20 => 20 | 0 => 0 | n => n, fun | n => n⟩
theorem Tryz.laysG : Go.Proofs.Lays8.n4 Tryz.prog Tryz.laysG_ren := {
  mixed := by kernel_rfl
  f4 := ⟨Tryz.f100.name, by decide, Tryz.func100.trans (congrArg some (by kernel_rfl))⟩
  t0 := Tryz.underlying0
  a0 := Tryz.isAgg0
  z0 := Tryz.sizeOf0
  v0 := Tryz.zeroValue0
  t3 := Tryz.underlying3
  a3 := Tryz.isAgg3
  z3 := Tryz.sizeOf3
  v3 := Tryz.zeroValue3
  t4 := Tryz.underlying4
  a4 := Tryz.isAgg4
  z4 := Tryz.sizeOf4
  v4 := Tryz.zeroValue4
  t9 := Tryz.underlying9
  a9 := Tryz.isAgg9
  z9 := Tryz.sizeOf9
  v9 := Tryz.zeroValue9
  t20 := Tryz.underlying20
  a20 := Tryz.isAgg20
  z20 := Tryz.sizeOf20
  v20 := Tryz.zeroValue20
  t22 := Tryz.underlying74
  a22 := Tryz.isAgg74
  z22 := Tryz.sizeOf74
  v22 := Tryz.zeroValue74 }
end Go.Proofs

/- The program's own trees: one deeper; whole rows of them appended. -/
namespace Go.Proofs.YtilgbnnjecpneaaGreatDoor
open Go.RowKit Go.Deep

theorem Row1At.up {α β : Type} {S : Nat → Prop} {w : World} {At : α → Value → Prop} {At' : β → Value → Prop} {v : Value} {xs : List α} (f : α → β) (h : Row1At S w At v xs) (hi : ∀ x u, At x u → At' (f x) u) : Row1At S w At' v (xs.map f) := by
  obtain ⟨h1, a, cap, hv, h3⟩ := h
  refine ⟨by rw [List.length_map]; exact h1, a, cap, by rw [List.length_map]; exact hv, ?_⟩
  rcases h3 with h3 | ⟨b, o, hB, ha, hc⟩
  · exact Or.inl (by rw [h3]; rfl)
  · refine Or.inr ⟨b, o, hB, ha, fun i x hx => ?_⟩
    rw [List.getElem?_map] at hx
    obtain ⟨y, hy, rfl⟩ := Option.map_eq_some_iff.1 hx
    obtain ⟨u, e0, e1⟩ := hc i y hy
    exact ⟨u, e0, hi _ _ e1⟩
theorem MapG.up {α β : Type} {At : α → Value → Prop} {At' : β → Value → Prop} {es : Array MapEntry} {ps : List (ByteArray × α)} (f : α → β) (h : MapG At es ps) (hi : ∀ x u, At x u → At' (f x) u) : MapG At' es (ps.map (fun p => (p.1, f p.2))) := by
  refine ⟨by rw [List.length_map]; exact h.1, fun i k x hp => ?_⟩
  rw [List.getElem?_map] at hp
  obtain ⟨⟨k', y⟩, hy, e⟩ := Option.map_eq_some_iff.1 hp
  cases e
  obtain ⟨u, e0, e1⟩ := h.2 i k' y hy
  exact ⟨u, e0, hi _ _ e1⟩
theorem zip_up {α β γ : Type} (f : β → γ) : ∀ (ks : List α) (xs : List β), ks.zip (xs.map f) = (ks.zip xs).map (fun p => (p.1, f p.2))
  | [], _ => rfl
  | _ :: _, [] => rfl
  | k :: r, x :: s => by rw [List.map_cons, List.zip_cons_cons, List.zip_cons_cons, List.map_cons, zip_up f r s]
theorem TreeG.up {S : Nat → Prop} {w : World} : ∀ (d : Nat) (t : Tr d) (v : Value), TreeG S w d t v → TreeG S w (d + 1) (up d t) v
  | 0, _, _, h => h.elim
  | d + 1, t, v, h => by
    rcases h with ⟨k, h1, rfl, h3⟩ | ⟨n, h1, rfl, h3⟩ | ⟨s, h1, rfl, h3⟩ | ⟨xs, sv, h1, rfl, h3, hr⟩ | ⟨keys, xs, ps, r, es, h1, h2, h3, h4, rfl, h6, hr, hm, he⟩
    · exact Or.inl ⟨k, h1, rfl, h3⟩
    · exact Or.inr (Or.inl ⟨n, h1, rfl, h3⟩)
    · exact Or.inr (Or.inr (Or.inl ⟨s, h1, rfl, h3⟩))
    · exact Or.inr (Or.inr (Or.inr (Or.inl ⟨xs.map (Go.Proofs.YtilgbnnjecpneaaGreatDoor.up d), sv, by rw [List.length_map]; exact h1, rfl, h3, hr.up (At' := TreeG S w (d + 1)) _ (fun x u hx => TreeG.up d x u hx)⟩)))
    · refine Or.inr (Or.inr (Or.inr (Or.inr ⟨keys, xs.map (Go.Proofs.YtilgbnnjecpneaaGreatDoor.up d), ps.map (fun p => (p.1, Go.Proofs.YtilgbnnjecpneaaGreatDoor.up d p.2)), r, es, by rw [List.length_map]; exact h1, h2, by rw [List.length_map]; exact h3, ?_, rfl, h6, hr, by rw [List.length_map]; exact hm, he.up (At' := TreeG S w (d + 1)) _ (fun x u hx => TreeG.up d x u hx)⟩)))
      rw [zip_up]
      exact h4.map _

/-- A row of the program's that owns its cells; its trees lie in blocks of S. -/
def GF {d : Nat} (S : Nat → Prop) (N : Nat) (w : World) (sv : Value) (xs : List (Tr d)) (vs : List Value) : Prop :=
  w.ownsRow N 64 1 sv xs.length vs ∧ ∀ (j : Nat) (x : Tr d) (u : Value), xs[j]? = some x → vs[j]? = some u → TreeG S w d x u
theorem GF.nil {d : Nat} (S : Nat → Prop) (N : Nat) (w : World) : GF (d := d) S N w (.slice none 0 0) [] [] := ⟨World.ownsRow_nil _ _ _ _, fun j x u h => by simp at h⟩
theorem GF.slice {d N : Nat} {S : Nat → Prop} {w : World} {lv : Value} {xs : List (Tr d)} {vs : List Value} (h : GF S N w lv xs vs) : ∃ a c, lv = .slice a xs.length c := by
  rcases h.1.2 with ⟨rfl, h0⟩ | ⟨g, cap, cur, rfl, _⟩
  · exact ⟨none, 0, by rw [h0]⟩
  · exact ⟨_, _, rfl⟩
theorem GF.grow {d N : Nat} {S : Nat → Prop} {wr w2 : World} {lv lv' : Value} {xs ys : List (Tr d)} {vs us : List Value} (h : GF S N wr lv xs vs) (hs : Same S wr w2) (hy : ∀ (j : Nat) (x : Tr d) (u : Value), ys[j]? = some x → us[j]? = some u → TreeG S wr d x u) (hown : w2.ownsRow N 64 1 lv' (xs.length + ys.length) (vs ++ us)) : GF S N w2 lv' (xs ++ ys) (vs ++ us) := by
  have hlen : vs.length = xs.length := by have := h.1.1; omega
  refine ⟨by rw [List.length_append]; exact hown, fun j x u hx hu => ?_⟩
  by_cases e : j < xs.length
  · rw [List.getElem?_append_left e] at hx
    rw [List.getElem?_append_left (by omega)] at hu
    exact (h.2 j x u hx hu).same hs
  · rw [List.getElem?_append_right (by omega)] at hx
    rw [List.getElem?_append_right (by omega), hlen] at hu
    exact (hy _ x u hx hu).same hs
theorem GF.tree {d N M : Nat} {S : Nat → Prop} {w : World} {sv : Value} {xs : List (Tr d)} {vs : List Value} (h : GF S N w sv xs vs) (hl : xs.length ≤ 1000) (hM : M ≤ N) (hSM : ∀ b, S b → M ≤ b ∧ b < w.heap.size) : TreeG (fun b => M ≤ b ∧ b < w.heap.size) w (d + 1) (rowT d xs) (.iface 80 (.agg #[sv])) := by
  refine Or.inr (Or.inr (Or.inr (Or.inl ⟨xs, sv, hl, rfl, rfl, by omega, ?_⟩)))
  obtain ⟨h1, h2⟩ := h
  have hlen := h1.1
  rw [Nat.mul_one] at hlen
  rcases h1.2 with ⟨rfl, h0⟩ | ⟨g, cap, cur, rfl, hg, hh, _, _, _, _⟩
  · exact ⟨none, 0, by rw [h0], Or.inl (List.eq_nil_of_length_eq_zero h0)⟩
  · refine ⟨some ⟨g, 0, none⟩, cap, rfl, Or.inr ⟨g, 0, ⟨by omega, (Array.getElem?_eq_some_iff.1 hh).1⟩, rfl, fun i x hx => ?_⟩⟩
    have hi := (List.getElem?_eq_some_iff.1 hx).1
    have hvi : vs[i]? = some vs[i] := List.getElem?_eq_getElem (by omega)
    have hc := h1.cells (g := g) rfl i _ hvi
    have hadd : (⟨g, 0, none⟩ : Addr).add i = ⟨g, 0 + i, none⟩ := by unfold Addr.add; split <;> simp_all
    rw [hadd] at hc
    exact ⟨vs[i], hc, (h2 i x _ hx hvi).mono hSM⟩

/-- Trees of the program's, appended behind others. -/
theorem run_append_onto_trees {d N : Nat} {S : Nat → Prop} {w : World} {lv : Value} {xs : List (Tr d)} {vs : List Value} (h : GF S N w lv xs vs) (hSN : ∀ b, S b → b < N) (hN : N ≤ w.heap.size) (ys : List (Tr d)) (al : Option Addr) (cl n : Nat) (ty : TypeId) (hn : n = ys.length) (hv : Row1At S w (TreeG S w d) (.slice al n cl) ys) (hsm : xs.length + ys.length ≤ 100000) :
    ∃ v' w', (Builtin.append_ #[74, 74] ty #[lv, .slice al n cl]).run Tryz.prog w = .ok v' w' ∧ ((∃ vs', GF S N w' v' (xs ++ ys) vs') ∧ w.grownBy w' lv.ownBlock ∧ ∃ a c, v' = .slice a (xs.length + ys.length) c) := by
  subst hn
  obtain ⟨i0, hi, hz0, hz1, hz2⟩ := info_parts Tryz.infoTree
  have hu : Tryz.prog.underlying 74 = some (.slice 64) := Tryz.underlying74
  have hbk : ∀ w', w.grownBy w' lv.ownBlock → Same S w w' := fun w' hgr b hb => hgr.block b (Nat.lt_of_lt_of_le (hSN b hb) hN) (fun e => by have := (h.1.lt b e.symm).1; have := hSN b hb; omega)
  have hfin : ∀ v' w' us, (∀ (j : Nat) (x : Tr d) (u : Value), ys[j]? = some x → us[j]? = some u → TreeG S w d x u) → w'.ownsRow N 64 1 v' (xs.length + ys.length) (vs ++ us) → w.grownBy w' lv.ownBlock → ((∃ vs', GF S N w' v' (xs ++ ys) vs') ∧ w.grownBy w' lv.ownBlock ∧ ∃ a c, v' = .slice a (xs.length + ys.length) c) := fun v' w' us hus ho hgr => by
    have hto := h.grow (hbk w' hgr) hus ho
    obtain ⟨a, c, e⟩ := hto.slice
    rw [List.length_append] at e
    exact ⟨⟨_, hto⟩, hgr, a, c, e⟩
  by_cases h0 : ys = []
  · subst h0
    cases al with
    | none =>
      refine ⟨lv, w, ?_, hfin lv w [] (fun j x u h => by simp at h) (by rw [List.append_nil]; exact h.1) ⟨rfl, rfl, rfl, Nat.le_refl _, fun _ _ _ => rfl⟩⟩
      rcases h.1.2 with ⟨rfl, _⟩ | ⟨g, cap, cur, rfl, _, _, hle, _⟩
      · simp [Builtin.append_, run_underlying hu, sizeOf, typeInfo, hi, Builtin.lenOf, Builtin.firstCells, Result.andThen, hz1]
      · simp [Builtin.append_, run_underlying hu, sizeOf, typeInfo, hi, Builtin.lenOf, Builtin.firstCells, storeCells, Result.andThen, hz1, hle]
    | some a =>
      obtain ⟨v', w', hr, ho, hgr, _⟩ := run_append_own_at (P := Tryz.prog) w N 74 ty 64 i0 .nilIface 1 16 hu hi hz0 hz1 hz2 rfl (by decide) lv xs.length vs h.1 a 0 cl [] rfl (fun j u hj => by simp at hj) (fun u hu => by simp at hu) (by unfold maxLen; omega) (by omega) hN
      exact ⟨v', w', hr, hfin v' w' [] (fun j x u h => by simp at h) ho hgr⟩
  · have hpos : 0 < ys.length := List.length_pos_iff.2 h0
    obtain ⟨_, a', c', hv', h3⟩ := hv
    cases hv'
    rcases h3 with h3 | ⟨b, o, hbS, rfl, hc⟩
    · exact absurd h3 h0
    have hex : ∀ j, j < ys.length → ∃ u, w.cell? ⟨b, o + j, none⟩ = some u ∧ u.oneCell' = true ∧ ∀ x, ys[j]? = some x → TreeG S w d x u := by
      intro j hj
      obtain ⟨u, e0, e1⟩ := hc j _ (List.getElem?_eq_getElem hj)
      obtain ⟨T, u', rfl⟩ := e1.iface
      refine ⟨_, e0, rfl, fun x hx => ?_⟩
      rw [List.getElem?_eq_getElem hj] at hx
      cases hx
      exact e1
    obtain ⟨news, hnl, hnews⟩ : ∃ news : List Value, news.length = ys.length ∧ ∀ j, j < ys.length → ∃ u, news[j]? = some u ∧ w.cell? ⟨b, o + j, none⟩ = some u ∧ u.oneCell' = true ∧ ∀ x, ys[j]? = some x → TreeG S w d x u := by
      refine ⟨(List.range ys.length).map (fun j => (w.cell? ⟨b, o + j, none⟩).getD undef), by simp, fun j hj => ?_⟩
      obtain ⟨u, hu, h1⟩ := hex j hj
      exact ⟨u, by simp [hj, hu], hu, h1⟩
    have hat : ∀ j u, news[j]? = some u → w.cell? ⟨b, o + j, none⟩ = some u ∧ u.oneCell' = true ∧ ∀ x, ys[j]? = some x → TreeG S w d x u := by
      intro j u hj
      obtain ⟨u', h1, h2⟩ := hnews j (by have := (List.getElem?_eq_some_iff.1 hj).1; omega)
      rw [hj] at h1
      cases h1
      exact h2
    have hadd : ∀ j, (⟨b, o, none⟩ : Addr).add j = ⟨b, o + j, none⟩ := fun j => by unfold Addr.add; split <;> simp_all
    obtain ⟨v', w', hr, ho, hgr, _⟩ := run_append_own_at (P := Tryz.prog) w N 74 ty 64 i0 .nilIface 1 16 hu hi hz0 hz1 hz2 rfl (by decide) lv xs.length vs h.1 ⟨b, o, none⟩ ys.length cl news (by omega)
      (fun j u hj => by rw [hadd]; exact (hat j u hj).1) (fun u hu => by obtain ⟨j, hj⟩ := List.getElem?_of_mem hu; exact (hat j u hj).2.1) (by unfold maxLen; omega) (by omega) hN
    exact ⟨v', w', hr, hfin v' w' news (fun j x u hx hu => (hat j u hu).2.2 x hx) ho hgr⟩
end Go.Proofs.YtilgbnnjecpneaaGreatDoor

/- slices.Concat at rows of the program's trees: two of them, one behind the other. -/
namespace Go.Proofs.YtilgbnnjecpneaaGreatDoor
open Go.RowKit Go.Deep

theorem GF.empty {d N g cap : Nat} {S : Nat → Prop} {w : World} {cur : Array Value} (h : w.heap[g]? = some (.cells cur 64 (0, 0))) (hg : N ≤ g) (hc : cur.size = cap) (hm : cap ≤ maxLen) : GF (d := d) S N w (.slice (some ⟨g, 0, none⟩) 0 cap) [] [] :=
  ⟨⟨rfl, Or.inr ⟨g, cap, cur, rfl, hg, h, Nat.zero_le _, hm, by rw [hc, Nat.mul_one], by simp⟩⟩, fun j x u h => by simp at h⟩
theorem grow_nil (d n : Nat) (hn : n ≤ 100000) (S : Nat → Prop) (w : World) :
    Calls Tryz.prog 100 #[.slice none 0 0, .int .i64 (n : Int)] w fun e w' => ∃ a c, e = .returned (.slice a 0 c) ∧ GF (d := d) S w.heap.size w' (.slice a 0 c) [] [] ∧ Below w.heap.size w w' := by
  rcases Nat.eq_zero_or_pos n with rfl | hp
  · refine Calls.mono (Any8.slices_Grow_room Tryz.laysG none 0 0 0 w (Nat.le_refl _) (by omega) (by omega) (by omega)) ?_
    rintro e w' ⟨rfl, rfl⟩
    exact ⟨none, 0, rfl, GF.nil _ _ _, Below.refl _ _⟩
  · obtain ⟨i0, hi, hz0, hz1, hz2⟩ := info_parts Tryz.infoTree
    refine Calls.mono (Any8.slices_Grow_grow Tryz.laysG i0 .nilIface hi hz0 (by rw [hz1]; omega) none 0 0 n [] w (Nat.le_refl _) (by omega) (by rw [hz2]; omega) (by omega) (by simp) (fun _ => rfl) (fun a h => by cases h)) ?_
    rintro e w' ⟨rfl, rfl⟩
    have hge := grownCap_ge w (0 + n) 0 64
    have hle := grownCap_le_maxLen w (0 + n) 0 64 (by unfold maxLen; omega)
    refine ⟨_, _, rfl, GF.empty (heap_alloc_new w.drew _) (Nat.le_refl _) ?_ hle, ⟨rfl, rfl, rfl, by simp, fun b hb => Below.heap_alloc w.drew _ b hb⟩⟩
    have hge2 : n ≤ grownCap w n 0 64 := by rw [Nat.zero_add] at hge; exact hge
    show ((([] : List Value).toArray ++ Builtin.zeroCells (Value.nilIface).cells (0 + n - 0)) ++ Builtin.zeroCells (Value.nilIface).cells (grownCap w (0 + n) 0 64 - (0 + n))).size = grownCap w (0 + n) 0 64
    rw [Array.size_append, Array.size_append, size_zeroCells, size_zeroCells, Nat.zero_add, Nat.sub_zero]
    show 0 + n * 1 + (grownCap w n 0 64 - n) * 1 = _
    omega

/-- The first m of two rows, one behind the other. -/
def twoL {α : Type} (xs ys : List α) (m : Nat) : List α := if m = 0 then [] else if m = 1 then xs else xs ++ ys
set_option maxRecDepth 100000 in
set_option maxHeartbeats 4000000 in
theorem concat_any (d : Nat) (S : Nat → Prop) (xs ys : List (Tr d)) (aa ba : Option Addr) (ca cb g : Nat) (w : World) (hx : Row1At S w (TreeG S w d) (.slice aa xs.length ca) xs) (hy : Row1At S w (TreeG S w d) (.slice ba ys.length cb) ys) (hS : Within S w)
    (c0 : w.cell? ⟨g, 0, none⟩ = some (.slice aa xs.length ca)) (c1 : w.cell? ⟨g, 1, none⟩ = some (.slice ba ys.length cb)) (hg : g < w.heap.size) (hlx : xs.length ≤ 1000) (hly : ys.length ≤ 1000) :
    Calls Tryz.prog 82 #[.slice (some ⟨g, 0, none⟩) 2 2] w fun e w' => ∃ sv vs, e = .returned sv ∧ GF S w.heap.size w' sv (xs ++ ys) vs ∧ Below w.heap.size w w' := by
  have n1 : ¬ ((xs.length : Int) < 0) := by omega
  have n2 : ¬ ((xs.length : Int) + (ys.length : Int) < 0) := by omega
  have w1 : wrap64 (xs.length : Int) = (xs.length : Int) := by unfold wrap64; omega
  have w2 : wrap64 ((xs.length : Int) + (ys.length : Int)) = (xs.length : Int) + (ys.length : Int) := by unfold wrap64; omega
  go_enter Tryz.func82, Tryz.ntmps82
  go_wp2_with fail
  go_loop [3, 11] (fun s i => (i = .int .i64 0 ∧ s = .int .i64 0) ∨ (i = .int .i64 1 ∧ s = .int .i64 (xs.length : Int)) ∨ (i = .int .i64 2 ∧ s = .int .i64 ((xs.length : Int) + (ys.length : Int)))) (fun _ i => 2 - (intOf i).toNat)
  case atStart => exact Or.inl ⟨rfl, rfl⟩
  case round =>
    rcases hrel with ⟨rfl, rfl⟩ | ⟨rfl, rfl⟩ | ⟨rfl, rfl⟩
    · go_wp2_with fail
      go_round
      case rel => exact Or.inr (Or.inl ⟨rfl, by simp⟩)
      case measure => simp [intOf]
    · go_wp2_with fail
      go_round
      case rel => exact Or.inr (Or.inr ⟨rfl, rfl⟩)
      case measure => simp [intOf]
    · go_upto_region 9 with fail
      go_wp2_with fail
      have hgr := hide (grow_nil d (xs.length + ys.length) (by omega) S w)
      rw [show ((xs.length + ys.length : Nat) : Int) = (xs.length : Int) + (ys.length : Int) by omega] at hgr
      refine Calls.mono hgr.out ?_
      rintro e w3 ⟨a0, cap0, rfl, hgf, hb3⟩
      have HX := hide hx
      have HY := hide hy
      have HSX := hide hS
      have hst : Hid (GF S w.heap.size w3 (.slice a0 0 cap0) (twoL xs ys 0) []) := hgf
      have hB3 := hide hb3
      have hc0 := hb3.cell (p := ⟨g, 0, none⟩) hg
      have hc1 := hb3.cell (p := ⟨g, 1, none⟩) hg
      clear hgf hb3 hgr hx hy hS
      go_wp2_with fail
      go_loopw [6, 27] (fun sv i wr => ∃ (m n : Nat) (a : Option Addr) (c : Nat) (vs : List Value), m ≤ 2 ∧ i = .int .i64 (m : Int) ∧ sv = .slice a n c ∧ Hid (GF S w.heap.size wr (.slice a n c) (twoL xs ys m) vs) ∧ Hid (Below w.heap.size w wr)) (fun _ i _ => 2 - (intOf i).toNat)
      case atStart => exact ⟨0, 0, _, _, [], by omega, rfl, rfl, hst, hB3⟩
      case round =>
        clear hst hB3 hc0 hc1
        obtain ⟨m, n, a, c, vs, hm, rfl, rfl, hgf, hbr⟩ := hrel
        have e0 := (hbr.out.cell (p := ⟨g, 0, none⟩) hg).trans c0
        have e1 := (hbr.out.cell (p := ⟨g, 1, none⟩) hg).trans c1
        have hsz := hbr.out.size
        have hmv := HSX.out.same hbr.out
        have hstep : ∀ (zs : List (Tr d)) (za : Option Addr) (zc : Nat), zs.length ≤ 1000 → (twoL xs ys m).length ≤ 1000 → twoL xs ys m ++ zs = twoL xs ys (m + 1) → Row1At S w (TreeG S w d) (.slice za zs.length zc) zs → Hid (∀ ty, ∃ v' w', (Builtin.append_ #[74, 74] ty #[.slice a n c, .slice za zs.length zc]).run Tryz.prog wr = .ok v' w' ∧ Hid (∃ n' a' c' vs', v' = .slice a' n' c' ∧ GF S w.heap.size w' (.slice a' n' c') (twoL xs ys (m + 1)) vs' ∧ Below w.heap.size w w')) := by
          intro zs za zc hzl hml heq hrow ty
          have hrow2 := hrow.moved (At' := TreeG S wr d) hmv (fun _ h => h) (fun x u hx => TreeG.moved hmv (fun _ h => h) d x u hx)
          obtain ⟨v', w', hr, ⟨vs', hv'⟩, hgr, a', c', e⟩ := run_append_onto_trees hgf.out (fun b hb => HSX.out b hb) hsz zs za zc zs.length ty rfl hrow2 (by omega)
          subst e
          have hrow := fun g' hg' => (hgf.out.1.lt g' hg').1
          refine ⟨_, w', hr, _, a', c', vs', rfl, by rw [← heq]; exact hv', ?_⟩
          exact ⟨hgr.os.trans hbr.out.os, hgr.tape.trans hbr.out.tape, hgr.output.trans hbr.out.output, Nat.le_trans hbr.out.size hgr.size, fun b hb => (hgr.block b (by omega) (fun e => by have := hrow b e.symm; omega)).trans (hbr.out.block b hb)⟩
        rcases (by omega : m = 0 ∨ m = 1 ∨ m = 2) with rfl | rfl | rfl
        · have hs := hstep xs aa ca hlx (by simp [twoL]) (by simp [twoL]) HX.out
          have HB := hide hbr.out
          clear hstep hgf hbr hmv hsz
          go_wp2_with (at_builtin; refine wpList_append_run (fun v' w' => Hid (∃ n' a' c' vs', v' = .slice a' n' c' ∧ GF S w.heap.size w' (.slice a' n' c') (twoL xs ys (0 + 1)) vs' ∧ Below w.heap.size w w')) rfl _ _ 74 rfl (.slice a n c) (.slice aa xs.length ca) rfl rfl (hs.out 74) ?_)
          rintro v' w2' hph
          obtain ⟨n', a', c', rfl, ⟨vs', hv'⟩, hb'⟩ := hph.out
          have HV := hide hv'
          have HB' := hide hb'
          clear hph hs hv' hb' HB
          go_wp2_with fail
          go_roundw
          case rel => exact ⟨1, n', a', c', vs', by omega, by go_num, rfl, HV, HB'⟩
          case measure => simp [intOf]
        · have hs := hstep ys ba cb hly (by simp [twoL]; exact hlx) (by simp [twoL]) HY.out
          have HB := hide hbr.out
          clear hstep hgf hbr hmv hsz
          go_wp2_with (at_builtin; refine wpList_append_run (fun v' w' => Hid (∃ n' a' c' vs', v' = .slice a' n' c' ∧ GF S w.heap.size w' (.slice a' n' c') (twoL xs ys (1 + 1)) vs' ∧ Below w.heap.size w w')) rfl _ _ 74 rfl (.slice a n c) (.slice ba ys.length cb) rfl rfl (hs.out 74) ?_)
          rintro v' w2' hph
          obtain ⟨n', a', c', rfl, ⟨vs', hv'⟩, hb'⟩ := hph.out
          have HV := hide hv'
          have HB' := hide hb'
          clear hph hs hv' hb' HB
          go_wp2_with fail
          go_roundw
          case rel => exact ⟨2, n', a', c', vs', by omega, by go_num, rfl, HV, HB'⟩
          case measure => simp [intOf]
        · have HV : Hid (GF S w.heap.size wr (.slice a n c) (xs ++ ys) vs) := hgf.out
          have HB := hide hbr.out
          clear hstep hgf hbr hmv hsz
          go_wp2_with fail
          go_ret
          exact ⟨_, _, rfl, HV.out, HB.out⟩
end Go.Proofs.YtilgbnnjecpneaaGreatDoor
