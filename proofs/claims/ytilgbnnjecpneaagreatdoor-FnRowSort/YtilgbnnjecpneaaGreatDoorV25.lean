/- Texts of the proof, put together by program: WAddG, WAddI, LAddI, WDrawP, WBackS, WRev. -/
import Derived.Test.YtilgbnnjecpneaaGreatDoorV24
import Derived.Test.YtilgbnnjecpneaaGreatDoorV21
import Derived.Test.YtilgbnnjecpneaaGreatDoorV12
import Derived.Test.YtilgbnnjecpneaaGreatDoorV11
import Derived.Test.YtilgbnnjecpneaaGreatDoorV22
import Derived.Test.YtilgbnnjecpneaaGreatDoorV23
import Derived.Laws.OwnMore
import Derived.OwnWalk
/- slices.Concat at rows of the program's trees: two of them, one behind the other. -/
namespace Go.Proofs.YtilgbnnjecpneaaGreatDoor
open Go.RowKit Go.Deep

theorem GF.empty {d N g cap : Nat} {S : Nat → Prop} {w : World} {cur : Array Value} (h : w.heap[g]? = some (.cells cur 64 (0, 0))) (hg : N ≤ g) (hc : cur.size = cap) (hm : cap ≤ maxLen) : GF (d := d) S N w (.slice (some ⟨g, 0, none⟩) 0 cap) [] [] :=
  ⟨⟨rfl, Or.inr ⟨g, cap, cur, rfl, hg, h, Nat.zero_le _, hm, by rw [hc, Nat.mul_one], by simp⟩⟩, fun j x u h => by simp at h⟩
theorem grow_nil (d n : Nat) (hn : n ≤ 100000) (S : Nat → Prop) (w : World) :
    Calls Tryz.prog 100 #[.slice none 0 0, .int .i64 (n : Int)] w fun e w' => ∃ a c, e = .returned (.slice a 0 c) ∧ GF (d := d) S w.heap.size w' (.slice a 0 c) [] [] ∧ Below w.heap.size w w' := by
  rcases Nat.eq_zero_or_pos n with rfl | hp
  · refine Calls.mono (Any8.slices_Grow_room Tryz.laysG none 0 0 0 w (Nat.le_refl _) (by omega) (by omega) (by omega)) ?_
    rintro e w' ⟨rfl, rfl⟩
    exact ⟨none, 0, rfl, GF.nil _ _ _, Below.refl _ _⟩
  · obtain ⟨i0, hi, hz0, hz1, hz2⟩ := info_parts Tryz.infoTree
    refine Calls.mono (Any8.slices_Grow_grow Tryz.laysG i0 .nilIface hi hz0 (by rw [hz1]; omega) none 0 0 n [] w (Nat.le_refl _) (by omega) (by rw [hz2]; omega) (by omega) (by simp) (fun _ => rfl) (fun a h => by cases h)) ?_
    rintro e w' ⟨rfl, rfl⟩
    have hge := grownCap_ge w (0 + n) 0 64
    have hle := grownCap_le_maxLen w (0 + n) 0 64 (by unfold maxLen; omega)
    refine ⟨_, _, rfl, GF.empty (heap_alloc_new w.drew _) (Nat.le_refl _) ?_ hle, ⟨rfl, rfl, rfl, by simp, fun b hb => Below.heap_alloc w.drew _ b hb⟩⟩
    have hge2 : n ≤ grownCap w n 0 64 := by rw [Nat.zero_add] at hge; exact hge
    show ((([] : List Value).toArray ++ Builtin.zeroCells (Value.nilIface).cells (0 + n - 0)) ++ Builtin.zeroCells (Value.nilIface).cells (grownCap w (0 + n) 0 64 - (0 + n))).size = grownCap w (0 + n) 0 64
    rw [Array.size_append, Array.size_append, size_zeroCells, size_zeroCells, Nat.zero_add, Nat.sub_zero]
    show 0 + n * 1 + (grownCap w n 0 64 - n) * 1 = _
    omega

end Go.Proofs.YtilgbnnjecpneaaGreatDoor

/- addTrees, PartAdd of the program. -/
namespace Go.Proofs.YtilgbnnjecpneaaGreatDoor
open Go.RowKit Go.Deep

end Go.Proofs.YtilgbnnjecpneaaGreatDoor

/- The laws of PartAdd: what the program's calls give. -/
namespace Go.Proofs.YtilgbnnjecpneaaGreatDoor
open Go.RowKit Go.Deep

end Go.Proofs.YtilgbnnjecpneaaGreatDoor

/- What the laws of rows draw: a row. -/
namespace Go.Proofs.YtilgbnnjecpneaaGreatDoor
open Go.RowKit Go.Deep

/-- Plain blocks from N on, but for the row's own. -/
def InR (N : Nat) (w : World) (lv : Value) (b : Nat) : Prop := N ≤ b ∧ b < w.heap.size ∧ Plain w b ∧ lv.ownBlock ≠ some b
/-- A row in the making. -/
structure RTo {d : Nat} (N r : Nat) (w : World) (lv : Value) (xs : List (Tr d)) (vs : List Value) : Prop where
  vown : w.ownsRow N 29 5 lv xs.length vs
  trees : ∀ (j : Nat) (x : Tr d), xs[j]? = some x → ∃ c0 c1 c2 c3 c4, vs[j * 5]? = some c0 ∧ vs[j * 5 + 1]? = some c1 ∧ vs[j * 5 + 2]? = some c2 ∧ vs[j * 5 + 3]? = some c3 ∧ vs[j * 5 + 4]? = some c4 ∧ ValAt (InR N w lv) w d x (.agg #[c0, c1, c2, c3, c4])
  rN : r < N
  NS : N ≤ w.heap.size
theorem RTo.start {d r : Nat} (w : World) (h : r < w.heap.size) : RTo (d := d) w.heap.size r (w.alloc (.cells #[] 29)) (.slice (some ⟨w.heap.size, 0, none⟩) 0 0) [] [] :=
  ⟨⟨rfl, Or.inr ⟨w.heap.size, 0, #[], rfl, Nat.le_refl _, heap_alloc_new w _, Nat.le_refl _, Nat.zero_le _, rfl, rfl⟩⟩, fun j x hx => by simp at hx, h, by simp⟩
theorem RTo.moved {d N r : Nat} {w w' : World} {lv : Value} {xs : List (Tr d)} {vs : List Value} (h : RTo N r w lv xs vs) (hb : But r w w') : RTo N r w' lv xs vs := by
  have hN := h.rN
  have hS := h.NS
  have hz : w.heap.size ≤ w'.heap.size := hb.size
  have hbl : ∀ b, N ≤ b → b < w.heap.size → w'.heap[b]? = w.heap[b]? := fun b h1 h2 => hb.block b h2 (fun e => by cases e; omega)
  refine ⟨owns_moved h.vown (fun g hg => ?_) (Nat.le_refl _), fun j x hx => ?_, hN, by omega⟩
  · have := h.vown.lt g hg
    exact hbl g this.1 this.2
  · obtain ⟨c0, c1, c2, c3, c4, e0, e1, e2, e3, e4, hv⟩ := h.trees j x hx
    exact ⟨c0, c1, c2, c3, c4, e0, e1, e2, e3, e4, ValAt.moved (fun b hb' => hbl b hb'.1 hb'.2.1) (fun b hb' => ⟨hb'.1, by have := hb'.2.1; omega, hb'.2.2.1.of_block (hbl b hb'.1 hb'.2.1), hb'.2.2.2⟩) d x _ hv⟩
theorem RTo.push {d N r : Nat} {w1 w2 : World} {lv lv' : Value} {xs : List (Tr d)} {vs : List Value} {x : Tr d} {v0 v1 v2 v3 v4 : Value} {o : Obj} (h : RTo N r w1 lv xs vs) (hx : ValAt (InR N w1 lv) w1 d x (.agg #[v0, v1, v2, v3, v4]))
    (hown : w2.ownsRow N 29 5 lv' (xs.length + 1) (vs ++ [v0, v1, v2, v3, v4])) (hg : (w1.alloc o).grownBy w2 lv.ownBlock) (hw : lv'.ownBlock = lv.ownBlock ∨ lv'.ownBlock = some (w1.alloc o).heap.size) : RTo N r w2 lv' (xs ++ [x]) (vs ++ [v0, v1, v2, v3, v4]) := by
  have hS := h.NS
  have hz1 : (w1.alloc o).heap.size = w1.heap.size + 1 := by simp
  have hz : w1.heap.size + 1 ≤ w2.heap.size := by have := hg.size; omega
  have hbl : ∀ b, b < w1.heap.size → lv.ownBlock ≠ some b → w2.heap[b]? = w1.heap[b]? := fun b h1 h2 => (hg.block b (by omega) (fun e => h2 e.symm)).trans (Below.heap_alloc _ _ _ h1)
  have hmv : ∀ y u, ValAt (InR N w1 lv) w1 d y u → ValAt (InR N w2 lv') w2 d y u := fun y u hy => by
    refine ValAt.moved (fun b hb' => hbl b hb'.2.1 hb'.2.2.2) (fun b hb' => ⟨hb'.1, by have := hb'.2.1; omega, hb'.2.2.1.of_block (hbl b hb'.2.1 hb'.2.2.2), ?_⟩) d y _ hy
    rcases hw with hw | hw
    · rw [hw]; exact hb'.2.2.2
    · rw [hw, hz1]
      intro he
      have := Option.some.inj he
      have := hb'.2.1
      omega
  have hlen : vs.length = xs.length * 5 := h.vown.1
  refine ⟨by rw [List.length_append]; exact hown, fun j y hy => ?_, h.rN, by omega⟩
  by_cases e : j < xs.length
  · rw [List.getElem?_append_left e] at hy
    obtain ⟨c0, c1, c2, c3, c4, e0, e1, e2, e3, e4, hv⟩ := h.trees j y hy
    refine ⟨c0, c1, c2, c3, c4, ?_, ?_, ?_, ?_, ?_, hmv _ _ hv⟩
    · rw [List.getElem?_append_left (by omega)]; exact e0
    · rw [List.getElem?_append_left (by omega)]; exact e1
    · rw [List.getElem?_append_left (by omega)]; exact e2
    · rw [List.getElem?_append_left (by omega)]; exact e3
    · rw [List.getElem?_append_left (by omega)]; exact e4
  · have hj : j = xs.length := by
      have := (List.getElem?_eq_some_iff.1 hy).1
      rw [List.length_append, List.length_singleton] at this
      omega
    subst hj
    rw [List.getElem?_append_right (Nat.le_refl _), Nat.sub_self] at hy
    cases hy
    refine ⟨v0, v1, v2, v3, v4, ?_, ?_, ?_, ?_, ?_, hmv _ _ hx⟩
    · rw [List.getElem?_append_right (by omega), hlen]; simp
    · rw [List.getElem?_append_right (by omega), hlen]; simp
    · rw [List.getElem?_append_right (by omega), hlen]; simp
    · rw [List.getElem?_append_right (by omega), hlen]; simp
    · rw [List.getElem?_append_right (by omega), hlen]; simp
/-- The row, as a tree. -/
def rowE {d : Nat} (xs : List (Tr d)) : Tr (d + 1) := ({ kind := 5, num := 0, str := ⟨#[]⟩, keys := [], list := xs } : Nd (Tr d))
theorem RTo.done {d N r : Nat} {wb w : World} {lv : Value} {xs : List (Tr d)} {vs : List Value} (h : RTo N r w lv xs vs) (hxl : xs.length < 1000) (hN : wb.heap.size < N) : ValAt (FreshQ wb w) w (d + 1) (rowE xs) (.agg #[.int .i64 5, .int .i64 0, .string ByteArray.empty, .slice none 0 0, lv]) := by
  refine ⟨_, _, rfl, ⟨by show _ ≤ (5 : Int); omega, by show (5 : Int) ≤ _; omega⟩, ⟨by show _ ≤ (0 : Int); omega, by show (0 : Int) ≤ _; omega⟩, by show (0 : Nat) < _; omega, ⟨by show (0 : Nat) < _; omega, (fun s hs => by cases hs), none, 0, rfl, Or.inl rfl⟩, ⟨by show xs.length < _; omega, ?_⟩⟩
  rcases h.vown.2 with ⟨e, h0⟩ | ⟨g, cap, cur, e, hg, hh, _⟩
  · exact ⟨none, 0, by show lv = .slice none xs.length 0; rw [e, h0], Or.inl (List.eq_nil_of_length_eq_zero h0)⟩
  · refine ⟨some ⟨g, 0, none⟩, cap, e, Or.inr ⟨g, 0, ⟨by omega, (Array.getElem?_eq_some_iff.1 hh).1, ⟨_, _, hh⟩⟩, rfl, fun i x hx => ?_⟩⟩
    obtain ⟨c0, c1, c2, c3, c4, e0, e1, e2, e3, e4, hv⟩ := h.trees i x hx
    have hi : i < xs.length := (List.getElem?_eq_some_iff.1 hx).1
    have hvo := h.vown
    rw [e] at hvo
    have hc : ∀ j c, j < xs.length * 5 → vs[j]? = some c → w.cell? ⟨g, 0 + j, none⟩ = some c := fun j c hj hc => by
      rw [Nat.zero_add]
      exact (hvo.cellAt j hj).trans hc
    exact ⟨c0, c1, c2, c3, c4, hc _ _ (by omega) e0, hc _ _ (by omega) e1, hc _ _ (by omega) e2, hc _ _ (by omega) e3, hc _ _ (by omega) e4, hv.mono (fun b hb => ⟨by have := hb.1; omega, hb.2.1, hb.2.2.1⟩)⟩
/-- What was drawn is put into the result's own cells. -/
theorem rowD_end {r p p' c B : Nat} {w wX : World} {t : Tr 10} {v0 v1 v2 v3 v4 : Value} (hv : ValAt (FreshQ w wX) wX 10 t (.agg #[v0, v1, v2, v3, v4])) (hB : wtT 10 t ≤ B) (hR : Rd wX r p') (hp : p' ≤ p + c) (hb : But r w wX) (hr : r < w.heap.size) :
    ∀ wF, wF = set5 wX w.heap.size 0 v0 v1 v2 v3 v4 → DrawnV r p c 10 B w (.returned (.agg #[v0, v1, v2, v3, v4])) wF := by
  intro wF hF
  have hs : ∀ b, b ≠ w.heap.size → wF.heap[b]? = wX.heap[b]? := fun b hb' => by rw [hF]; exact set5_block _ _ _ _ _ _ _ _ _ hb'
  have hz : wF.heap.size = wX.heap.size := by rw [hF]; exact set5_size _ _ _ _ _ _ _ _
  have hl : Below w.heap.size wX wF := by rw [hF]; exact below_set5 (Below.refl _ _) (Nat.le_refl _) _ _ _ _ _ _
  have hw : w.heap.size ≤ wX.heap.size := hb.size
  refine ⟨_, t, p', rfl, ValAt.moved (fun b hb' => hs b (by have := hb'.1; omega)) (fun b hb' => ⟨⟨Nat.le_of_lt hb'.1, by rw [hz]; exact hb'.2.1⟩, hb'.2.2.of_block (hs b (by have := hb'.1; omega))⟩) 10 t _ hv, hB, ?_, hp, ⟨hl.os.trans hb.os, hl.tape.trans hb.tape, hl.output.trans hb.output, by rw [hz]; exact hw, fun i hi hn => (hs i (by omega)).trans (hb.block i hi hn)⟩⟩
  obtain ⟨a, n, cap, e1, e2, e3⟩ := hR
  exact ⟨a, n, cap, (hs r (by omega)).trans e1, e2, e3.moved (fun b hb' => hs b (by omega))⟩

set_option maxRecDepth 100000 in
set_option maxHeartbeats 4000000 in
theorem l4RowDraw_any (r p : Nat) (w : World) (h : Rd w r p) (hp : p + 500 ≤ 1000000) :
    Calls Tryz.prog 49 #[.pointer (some ⟨r, 0, none⟩)] w (DrawnV r p 500 10 430 w) := by
  have hr := h.lt
  have hb0 := below_alloc1 w (.cells #[.int .i64 0, .int .i64 0, .string { data := #[] }, .slice none 0 0, .slice none 0 0] 29)
  have kr := res_new w
  have hR0 := h.below hb0
  obtain ⟨W0, HW⟩ : ∃ W0, Hid (W0 = w.alloc (.cells #[.int .i64 0, .int .i64 0, .string { data := #[] }, .slice none 0 0, .slice none 0 0] 29)) := ⟨_, rfl⟩
  have hz0 : w.heap.size < W0.heap.size := by rw [HW.out]; simp
  rw [← HW.out] at hb0 kr hR0
  go_enter Tryz.func49, Tryz.ntmps49
  go_wp2_with fail
  rw [← HW.out]
  refine (pick_any r p 12 W0 hR0 (by omega) (by omega) (by omega)).mono ?_
  rintro e w1 ⟨k1, rfl, k10, k11, h1, b1, z1⟩
  replace kr := kr.butr b1 (by omega)
  have hB1 := (But.of_below hb0).trans b1
  replace hz0 : w.heap.size < w1.heap.size := by omega
  clear hR0 hb0 b1 z1 HW h
  by_cases hk1 : k1 = 0
  · subst hk1
    go_wp2_with fail
    refine (l1Bent_any r (p + 1) w1 h1 (by omega)).mono ?_
    rintro e w2 ⟨u, t, p2, rfl, hv, hw, hR2, hp2, hb2⟩
    obtain ⟨v0, v1, v2, v3, v4, v5, v6, v7, v8, rfl⟩ := hv.shape
    have HF := hide (rowD_end (p := p) (c := 500) (B := 430) (hv.mono (S' := FreshQ w w2) (fun b hb => ⟨by have := hb.1.1; omega, hb.1.2, hb.2⟩)) (by omega) hR2 (by omega) (hB1.trans hb2) hr)
    replace kr := kr.butr hb2 (by omega)
    obtain ⟨y0, y1, y2, y3, y4⟩ := kr.cell
    have yf := kr.frozen
    clear kr hv hb2 h1 hR2 hB1
    go_wp2_with fail
    exact bodyPost_ret (v := .agg #[.int .i64 v0, .int .i64 v1, .string v2, .slice v3 v4 v5, .slice v6 v7 v8]) (by simp [results, Tryz.results49, go_sem, y0, y1, y2, y3, y4]) rfl (HF.out _ rfl)
  · have hk1' : (k1 == 0) = false := by simpa using hk1
    have ha := below_alloc1 w1 (.cells #[] 29)
    have hst0 := RTo.start (d := 3) (r := r) w1 h1.lt
    obtain ⟨W2, HW⟩ : ∃ W2, Hid (W2 = w1.alloc (.cells #[] 29)) := ⟨_, rfl⟩
    rw [← HW.out] at ha hst0
    replace kr := kr.below ha
    have h2 := h1.below ha
    have hB2 := hB1.trans (But.of_below ha)
    clear h1
    go_wp2_with fail
    rw [← HW.out]
    clear HW
    refine (pick_any r (p + 1) 6 W2 h2 (by omega) (by omega) (by omega)).mono ?_
    rintro e w3 ⟨k2, rfl, k20, k21, h3, b3, z3⟩
    replace kr := kr.butr b3 (by omega)
    have hB3 := hB2.trans b3
    have hst : Hid (RTo (d := 3) w1.heap.size r w3 (.slice (some ⟨w1.heap.size, 0, none⟩) 0 0) [] []) := hst0.moved b3
    obtain ⟨n, rfl⟩ := Int.eq_ofNat_of_zero_le k20
    have HS3 := hide (And.intro h3 (And.intro hB3 kr))
    have hn6 : n ≤ 5 := by omega
    clear h2 b3 z3 hB2 ha hst0 kr h3 hB3 hB1
    go_wp2_with fail
    go_loopw [3, 4] (fun out i wr => ∃ (m ln : Nat) (la : Option Addr) (lc : Nat) (xs : List (Tr 3)) (vs : List Value) (p' : Nat), m ≤ 5 ∧ i = .int .i64 (m : Int) ∧ out = .slice la ln lc ∧ Hid (ln = xs.length) ∧ ln + m ≤ 5 ∧ p' + 94 * m ≤ p + 2 + 94 * n ∧ Hid (∀ x ∈ xs, wtT 3 x ≤ 83) ∧ Hid (RTo (d := 3) w1.heap.size r wr (.slice la ln lc) xs vs) ∧ Hid (Rd wr r p' ∧ But r w wr ∧ Blk5 wr w.heap.size 29 (.int .i64 0) (.int .i64 0) (.string { data := #[] }) (.slice none 0 0) (.slice none 0 0))) (fun _ i _ => (intOf i).toNat)
    case atStart => exact ⟨n, 0, _, _, [], [], p + 1 + 1, hn6, rfl, rfl, rfl, by omega, by omega, (fun x hx => by cases hx), hst, HS3⟩
    case round =>
      clear hst HS3
      obtain ⟨m, ln, la, lc, xs, vs, p', hm, rfl, rfl, hln, hxm, hpm, hxw, hto, hall⟩ := hrel
      have hR := hall.out.1
      have hBr := hall.out.2.1
      have krr := hall.out.2.2
      have hNw : w1.heap.size ≤ wr.heap.size := hto.out.NS
      by_cases hm0 : 0 < m
      · have hm0' : (0 : Int) < (m : Int) := by omega
        clear hall
        go_wp2_with fail
        refine (pick_any r p' 3 wr hR (by omega) (by omega) (by omega)).mono ?_
        rintro e w4 ⟨k3, rfl, k30, k31, h4, b4, z4⟩
        have hw3 : wrap64 (1 + k3) = 1 + k3 := by unfold wrap64; omega
        have hB4 := hBr.trans b4
        have kr4 := krr.butr b4 (by omega)
        have hto4 := hto.out.moved b4
        clear hR
        go_wp2_with fail
        refine (l1Val_any 2 r (p' + 1) (1 + k3) w4 h4 (by have : drC 2 ≤ 93 := by decide
                                                          omega) (by omega) (by omega) (by omega)).mono ?_
        rintro e w5 ⟨u, t, p5, rfl, hv, hw, hR5, hp5, hb5⟩
        obtain ⟨u0, u1, u2, u3, u4, u5, u6, u7, u8, rfl⟩ := hv.at.shape
        have hB5 := hB4.trans hb5
        have kr5 := kr4.butr hb5 (by omega)
        have hto5 := hto4.moved hb5
        have hz5 : w4.heap.size ≤ w5.heap.size := hb5.size
        have hx : ValAt (InR w1.heap.size w5 (.slice la ln lc)) w5 3 t (.agg #[.int .i64 u0, .int .i64 u1, .string u2, .slice u3 u4 u5, .slice u6 u7 u8]) := hv.at.mono (fun b hb => ⟨by have := hb.1.1; omega, hb.1.2, hb.2, fun e => by have := (hto4.vown.lt b e).2; have := hb.1.1; omega⟩)
        have hwt : wtT 3 t ≤ 83 := hw
        have hdc : drC 2 ≤ 93 := by decide
        have hown := hto5.vown
        rw [← hln.out] at hown
        have HO := hide (hown.alloc (.cells #[.int .i64 u0, .int .i64 u1, .string u2, .slice u3 u4 u5, .slice u6 u7 u8] 29))
        have hnb : ∀ g, (Value.slice la ln lc).ownBlock = some g → w1.heap.size ≤ g ∧ g < w5.heap.size := fun g hg => hown.lt g hg
        have hstep : Hid (∀ lv' w6, w6.ownsRow w1.heap.size 29 5 lv' (ln + 1) (vs ++ [.int .i64 u0, .int .i64 u1, .string u2, .slice u3 u4 u5, .slice u6 u7 u8]) → (w5.alloc (.cells #[.int .i64 u0, .int .i64 u1, .string u2, .slice u3 u4 u5, .slice u6 u7 u8] 29)).grownBy w6 (Value.slice la ln lc).ownBlock → (lv'.ownBlock = (Value.slice la ln lc).ownBlock ∨ lv'.ownBlock = some (w5.heap.size + 1)) →
            ∃ a c, lv' = .slice a (ln + 1) c ∧ RTo (d := 3) w1.heap.size r w6 lv' (xs ++ [t]) (vs ++ [.int .i64 u0, .int .i64 u1, .string u2, .slice u3 u4 u5, .slice u6 u7 u8]) ∧ Rd w6 r p5 ∧ But r w w6 ∧ Blk5 w6 w.heap.size 29 (.int .i64 0) (.int .i64 0) (.string { data := #[] }) (.slice none 0 0) (.slice none 0 0)) := by
          intro lv' w6 o1 o2 o3
          have hal := below_alloc1 w5 (.cells #[.int .i64 u0, .int .i64 u1, .string u2, .slice u3 u4 u5, .slice u6 u7 u8] 29)
          have hz6 : (w5.alloc (.cells #[.int .i64 u0, .int .i64 u1, .string u2, .slice u3 u4 u5, .slice u6 u7 u8] 29)).heap.size = w5.heap.size + 1 := by simp
          have hbk : ∀ b, b < w1.heap.size → w6.heap[b]? = w5.heap[b]? := fun b hb => (o2.block b (by omega) (fun e => by have := (hnb b e.symm).1; omega)).trans (Below.heap_alloc _ _ _ (by omega))
          have hform : ∃ a c, lv' = .slice a (ln + 1) c := by
            rcases o1.2 with ⟨_, h0⟩ | ⟨g, cap, cur, e, _⟩
            · omega
            · exact ⟨_, _, e⟩
          obtain ⟨a, c, e⟩ := hform
          refine ⟨a, c, e, hto5.push hx (by rw [← hln.out]; exact o1) o2 (by rw [hz6]; exact o3), ?_, ?_, kr5.of_block (hbk _ hz0)⟩
          · obtain ⟨qa, qn, qc, e1, e2, e3⟩ := hR5
            have hrw : r < w1.heap.size := by omega
            exact ⟨qa, qn, qc, (hbk r hrw).trans e1, e2, e3.moved (fun b hb => hbk b (by omega))⟩
          · have hs6 := o2.size
            exact ⟨o2.os.trans (hal.os.trans hB5.os), o2.tape.trans (hal.tape.trans hB5.tape), o2.output.trans (hal.output.trans hB5.output), by have := hB5.size; omega, fun i hi hn => (hbk i (by omega)).trans (hB5.block i hi hn)⟩
        have HLN : Hid (ln + 1 = (xs ++ [t]).length) := by show _ = _; rw [List.length_append, List.length_singleton, hln.out]
        have HXW : Hid (∀ x ∈ xs ++ [t], wtT 3 x ≤ 83) := fun x hx => by
          rcases List.mem_append.1 hx with h | h
          · exact hxw.out x h
          · rw [List.mem_singleton.1 h]; exact hwt
        obtain ⟨i0, hi, hz0', hz1', hz2'⟩ := info_parts Tryz.infoV2
        have hn5 : w1.heap.size ≤ w5.heap.size + 1 := by omega
        clear hv hR5 hb5 hB5 hB4 kr5 kr4 hto5 hto4 hx hown h4 b4 hto hxw krr hBr
        go_wp2_with (at_builtin; refine wpList_append_own_at _ rfl _ _ 27 rfl w1.heap.size 29 i0 zeroVal 5 80 Tryz.underlying27 hi hz0' hz1' hz2' rfl (by decide) _ _ _ rfl HO.out ⟨w5.heap.size, 0, none⟩ 1 1 [.int .i64 u0, .int .i64 u1, .string u2, .slice u3 u4 u5, .slice u6 u7 u8] rfl rfl (cell_five_new _ _ _ _ _ _ _) ?c2 ?c3 ?c4 ?c5 ?_)
        case c2 => intro y hy; simp at hy; rcases hy with rfl | rfl | rfl | rfl | rfl <;> rfl
        case c3 => unfold maxLen; omega
        case c4 => omega
        case c5 => simp; omega
        · intro lv' w6 o1 o2 _ o3
          obtain ⟨a6, c6, e6, g1, g2, g3, g4⟩ := hstep.out lv' w6 o1 o2 o3
          subst e6
          have HT := hide g1
          have HQ := hide (And.intro g2 (And.intro g3 g4))
          clear o1 o2 o3 hstep HO g1 g2 g3 g4 hi hz0' hz1' hz2'
          go_wp2_with fail
          go_roundw
          case rel => exact ⟨m - 1, ln + 1, a6, c6, xs ++ [t], _, p5, by omega, by rw [show (((m - 1 : Nat)) : Int) = (m : Int) - 1 by omega], rfl, HLN, by omega, by omega, HXW, HT, HQ⟩
          case measure => simp [intOf]; omega
      · obtain rfl : m = 0 := by omega
        clear hall
        go_wp2_with fail
        refine (l4Of_any _ _ _ wr).mono ?_
        rintro e w4 ⟨rfl, hb4⟩
        have hto4 := hto.out.moved (But.of_below (rb := r) hb4)
        have hR4 := hR.below hb4
        have hB4 := hBr.trans (But.of_below hb4)
        have kr4 := krr.below hb4
        have hz4 := hb4.size
        have hval := hto4.done (wb := w) (by have := hln.out; omega) (by omega)
        have hwt : wtT 4 (rowE xs) ≤ 430 := by
          show 3 + 0 + (xs.map (wtT 3)).sum ≤ 430
          have := sum_le_all (f := wtT 3) (c := 83) (xs := xs) 5 (by have := hln.out; omega) hxw.out
          omega
        have ha := below_alloc1 w4 (.cells #[.int .i64 5, .int .i64 0, .string ByteArray.empty, .slice none 0 0, .slice la ln lc] 29)
        have kv := Blk5.new w4 29 (.int .i64 5) (.int .i64 0) (.string ByteArray.empty) (.slice none 0 0) (.slice la ln lc)
        obtain ⟨W5, HW5⟩ : ∃ W5, Hid (w4.alloc (.cells #[.int .i64 5, .int .i64 0, .string ByteArray.empty, .slice none 0 0, .slice la ln lc] 29) = W5) := ⟨_, rfl⟩
        rw [HW5.out] at ha kv
        have hz5 := ha.size
        replace hval : ValAt (FreshQ w W5) W5 4 (rowE xs) (.agg #[.int .i64 5, .int .i64 0, .string ByteArray.empty, .slice none 0 0, .slice la ln lc]) := ValAt.moved (fun b hb => ha.block b hb.2.1) (fun b hb => ⟨hb.1, by have := hb.2.1; omega, hb.2.2.of_block (ha.block b hb.2.1)⟩) 4 _ _ hval
        replace kr4 := kr4.below ha
        replace hR4 := hR4.below ha
        replace hB4 := hB4.trans (But.of_below ha)
        clear hto hto4 hR hBr krr hb4 ha
        go_wp2_with fail
        rw [HW5.out]
        clear HW5
        obtain ⟨x0, x1, x2, x3, x4⟩ := kv.cell
        go_wp2_with fail
        refine (specValOk_any 4 (FreshQ w W5) (rowE xs) _ W5 hval (fun b hb => hb.2.1) (by have := nodes_wt' 4 (rowE xs); omega)).mono ?_
        rintro e w6 ⟨rfl, hb6⟩
        have hz6 := hb6.size
        replace kv := kv.below hb6
        replace kr4 := kr4.below hb6
        replace hR4 := hR4.below hb6
        replace hB4 := hB4.trans (But.of_below hb6)
        replace hval : ValAt (FreshQ w w6) w6 4 (rowE xs) (.agg #[.int .i64 5, .int .i64 0, .string ByteArray.empty, .slice none 0 0, .slice la ln lc]) := ValAt.moved (fun b hb => hb6.block b hb.2.1) (fun b hb => ⟨hb.1, by have := hb.2.1; omega, hb.2.2.of_block (hb6.block b hb.2.1)⟩) 4 _ _ hval
        clear hb6 x0 x1 x2 x3 x4
        obtain ⟨y0, y1, y2, y3, y4⟩ := kr4.cell
        have yf := kr4.frozen
        cases hok : okT 4 (rowE xs) with
        | true =>
          have HF := hide (rowD_end (p := p) (c := 500) (B := 430) (t := upN 4 6 (rowE xs)) ((ValAt.upN (d := 4) hval 6)) (Nat.le_trans (Nat.le_of_eq (wtT_upN 4 6 (rowE xs))) hwt) hR4 (by omega) hB4 hr)
          obtain ⟨x0, x1, x2, x3, x4⟩ := kv.cell
          clear kv kr4 hval hR4 hB4
          go_wp2_with fail
          exact bodyPost_ret (v := .agg #[.int .i64 5, .int .i64 0, .string ByteArray.empty, .slice none 0 0, .slice la ln lc]) (by simp [results, Tryz.results49, go_sem, y0, y1, y2, y3, y4]) rfl (HF.out _ rfl)
        | false =>
          clear kv hval
          go_wp2_with fail
          refine (l4Of_any none 0 0 w6).mono ?_
          rintro e w7 ⟨rfl, hb7⟩
          have hz7 := hb7.size
          have HF := hide (rowD_end (p := p) (c := 500) (B := 430) (wX := w7) (t := upN 1 9 (rowE (d := 0) [])) (ValAt.upN (d := 1) (show ValAt (FreshQ w w7) w7 1 (rowE (d := 0) []) (.agg #[.int .i64 5, .int .i64 0, .string ByteArray.empty, .slice none 0 0, .slice none 0 0]) from ⟨_, _, rfl, ⟨by show _ ≤ (5 : Int); omega, by show (5 : Int) ≤ _; omega⟩, ⟨by show _ ≤ (0 : Int); omega, by show (0 : Int) ≤ _; omega⟩, by show (0 : Nat) < _; omega, ⟨by show (0 : Nat) < _; omega, (fun s hs => by cases hs), none, 0, rfl, Or.inl rfl⟩, ⟨by show (0 : Nat) < _; omega, none, 0, rfl, Or.inl rfl⟩⟩) 9) (Nat.le_trans (Nat.le_of_eq (wtT_upN 1 9 (rowE (d := 0) []))) (by show 3 + 0 + 0 ≤ 430; omega)) (hR4.below hb7) (by omega) (hB4.trans (But.of_below hb7)) hr)
          clear y0 y1 y2 y3 y4 yf
          have kr7 := kr4.below hb7
          obtain ⟨y0, y1, y2, y3, y4⟩ := kr7.cell
          have yf := kr7.frozen
          clear kr4 kr7 hR4 hB4 hb7
          go_wp2_with fail
          exact bodyPost_ret (v := .agg #[.int .i64 5, .int .i64 0, .string ByteArray.empty, .slice none 0 0, .slice none 0 0]) (by simp [results, Tryz.results49, go_sem, y0, y1, y2, y3, y4]) rfl (HF.out _ rfl)

set_option maxRecDepth 100000 in
set_option maxHeartbeats 1000000 in
theorem drawRowSort_any (a : Option Addr) (n cap : Nat) (w : World) (hcap : n ≤ cap) (h : BytesAt w.heap.size w a n) :
    Calls Tryz.prog 20 #[.slice a n cap] w (OneD w) := by
  have hb0 := below_alloc1 w (.cells #[.int .i64 0, .int .i64 0, .string { data := #[] }, .slice none 0 0, .slice none 0 0] 29)
  have kr := res_new w
  obtain ⟨W0, HW⟩ : ∃ W0, Hid (W0 = w.alloc (.cells #[.int .i64 0, .int .i64 0, .string { data := #[] }, .slice none 0 0, .slice none 0 0] 29)) := ⟨_, rfl⟩
  have hz0 : w.heap.size < W0.heap.size := by rw [HW.out]; simp
  rw [← HW.out] at hb0 kr
  have hBy := h.wider (r' := W0.heap.size) (fun b hb => hb0.block b hb) (by omega)
  clear h
  go_enter Tryz.func20, Tryz.ntmps20
  go_wp2_with fail
  rw [← HW.out]
  clear HW
  refine (l11Open_any a n cap W0 hcap hBy).mono ?_
  rintro e w1 ⟨rfl, hR1, hb1, hz1⟩
  replace kr := kr.below hb1
  have hB1 := below_trans hb0 hb1
  clear hBy hb0 hb1
  go_wp2_with fail
  refine (l4RowDraw_any W0.heap.size 0 w1 hR1 (by omega)).mono ?_
  rintro e w2 ⟨u, t, p2, rfl, hv, hw, hR2, hp2, hb2⟩
  obtain ⟨v0, v1, v2, v3, v4, v5, v6, v7, v8, rfl⟩ := hv.shape
  have hB2 := but_below hB1 hb2 (by omega) (by omega)
  replace kr := kr.butr hb2 (by omega)
  have hF := oneD_end ((ValAt.upN (d := 10) hv 1).mono (S' := FreshQ w w2) (fun b hb => ⟨by have := hb.1.1; omega, hb.1.2, hb.2⟩)) (Nat.le_trans (Nat.le_of_eq (wtT_upN 10 1 t)) (by omega)) hB2
  have HF := hide hF
  obtain ⟨y0, y1, y2, y3, y4⟩ := kr.cell
  have yf := kr.frozen
  clear hF kr hB2 hb2 hv hR1 hR2 hB1
  go_wp2_with fail
  exact bodyPost_ret (v := .agg #[.int .i64 v0, .int .i64 v1, .string v2, .slice v3 v4 v5, .slice v6 v7 v8]) (by simp [results, Tryz.results20, go_sem, y0, y1, y2, y3, y4]) rfl (HF.out _ rfl)

end Go.Proofs.YtilgbnnjecpneaaGreatDoor

/- RowBack of the model. -/
namespace Go.Proofs.YtilgbnnjecpneaaGreatDoor
open Go.RowKit Go.Deep

/-- A row, the last one first. -/
def backF (d : Nat) (xs : List (Tr d)) : Option (Tr (d + 1)) := some (rowT d xs.reverse)
end Go.Proofs.YtilgbnnjecpneaaGreatDoor

/- slices.Reverse at a row of trees. -/
namespace Go.Proofs.YtilgbnnjecpneaaGreatDoor
open Go.RowKit Go.Deep

/-- A row whose first k and last k have been put in each other's place. -/
def RevTo {α : Type} (vs cur : List α) (k : Nat) : Prop := cur.length = vs.length ∧ ∀ m, m < vs.length → cur[m]? = if m < k ∨ vs.length - k ≤ m then vs[vs.length - 1 - m]? else vs[m]?
theorem RevTo.start {α : Type} (vs : List α) : RevTo vs vs 0 := ⟨rfl, fun m hm => by rw [if_neg (by omega)]⟩
theorem RevTo.step {α : Type} {vs cur : List α} {k j : Nat} {x y : α} (h : RevTo vs cur k) (hj : j = vs.length - 1 - k) (hk : k < j) (hx : cur[k]? = some x) (hy : cur[j]? = some y) : RevTo vs ((cur.set k y).set j x) (k + 1) := by
  obtain ⟨h1, h2⟩ := h
  refine ⟨by rw [List.length_set, List.length_set, h1], fun m hm => ?_⟩
  have hxk := h2 k (by omega)
  have hyj := h2 j (by omega)
  rw [if_neg (by omega)] at hxk hyj
  by_cases e1 : m = j
  · subst e1
    rw [List.getElem?_set_self (by rw [List.length_set]; omega), if_pos (by omega), show vs.length - 1 - m = k by omega, ← hxk, hx]
  · rw [List.getElem?_set_ne (fun e => e1 e.symm)]
    by_cases e2 : m = k
    · subst e2
      rw [List.getElem?_set_self (by omega), if_pos (by omega), ← hj, ← hyj, hy]
    · rw [List.getElem?_set_ne (fun e => e2 e.symm), h2 m hm]
      by_cases e3 : m < k ∨ vs.length - k ≤ m
      · rw [if_pos e3, if_pos (by omega)]
      · rw [if_neg e3, if_neg (by omega)]
theorem RevTo.done {α : Type} {vs cur : List α} {k : Nat} (h : RevTo vs cur k) (hk : vs.length ≤ 2 * k + 1) : cur = vs.reverse := by
  obtain ⟨h1, h2⟩ := h
  refine List.ext_getElem? fun m => ?_
  by_cases hm : m < vs.length
  · rw [h2 m hm, List.getElem?_reverse hm]
    split
    · rfl
    · rw [show vs.length - 1 - m = m by omega]
  · rw [List.getElem?_eq_none (by omega), List.getElem?_eq_none (by rw [List.length_reverse]; omega)]

set_option maxRecDepth 100000 in
set_option maxHeartbeats 2000000 in
theorem reverse_some (N n g cap : Nat) (vs : List Value) (w : World) (h : w.ownsRow N 64 1 (.slice (some ⟨g, 0, none⟩) n cap) n vs) (hI : ∀ v ∈ vs, ∃ T u, v = .iface T u) (hn : n ≤ 1000) :
    Calls Tryz.prog 71 #[.slice (some ⟨g, 0, none⟩) n cap] w fun e w' => e = .returned (.tuple #[]) ∧ w'.ownsRow N 64 1 (.slice (some ⟨g, 0, none⟩) n cap) n vs.reverse ∧ w.grownBy w' (some g) := by
  have hlen : vs.length = n := by have := h.1; omega
  go_enter Tryz.func71, Tryz.ntmps71
  go_wp2_with fail
  go_loopw [2, 3] (fun i j wr => ∃ (k : Nat) (cur : List Value), 2 * k ≤ n + 1 ∧ i = .int .i64 (k : Int) ∧ j = .int .i64 ((n : Int) - 1 - (k : Int)) ∧ Hid (RevTo vs cur k) ∧ Hid (wr.ownsRow N 64 1 (.slice (some ⟨g, 0, none⟩) n cap) n cur) ∧ Hid (∀ v ∈ cur, ∃ T u, v = Value.iface T u) ∧ Hid (w.grownBy wr (some g))) (fun _ j _ => (intOf j + 1).toNat)
  case atStart => exact ⟨0, vs, by omega, rfl, by go_num, RevTo.start vs, h, hI, ⟨rfl, rfl, rfl, Nat.le_refl _, fun _ _ _ => rfl⟩⟩
  case round =>
    clear h hI
    obtain ⟨k, cur, hk2, rfl, rfl, hrev, hown, hI, hgr⟩ := hrel
    by_cases hlt : k + k + 1 < n
    · obtain ⟨j, hj⟩ : ∃ j, j = n - 1 - k := ⟨_, rfl⟩
      have hji : (n : Int) - 1 - (k : Int) = (j : Int) := by omega
      rw [hji]
      have hkj : k < j := by omega
      have hkj' : (k : Int) < (j : Int) := by omega
      have hkn : (k : Int) < (n : Int) := by omega
      have hjn : (j : Int) < (n : Int) := by omega
      have hcl : cur.length = n := by have := hrev.out.1; omega
      have ex : cur[k]? = some cur[k] := List.getElem?_eq_getElem (by omega)
      have ey : cur[j]? = some cur[j] := List.getElem?_eq_getElem (by omega)
      obtain ⟨T1, u1, hu1⟩ := hI.out _ (List.mem_of_getElem? ex)
      obtain ⟨T2, u2, hu2⟩ := hI.out _ (List.mem_of_getElem? ey)
      rw [hu1] at ex
      rw [hu2] at ey
      have c1 : wr.cell? ⟨g, k, none⟩ = some (.iface T1 u1) := (hown.out.cellAt k (by omega)).trans ex
      have c2 : wr.cell? ⟨g, j, none⟩ = some (.iface T2 u2) := (hown.out.cellAt j (by omega)).trans ey
      have f1 := hown.out.frozenAt k
      have f2 := hown.out.frozenAt j
      have hne : ¬ k = j := by omega
      have hne' : ¬ j = k := by omega
      have HJ := hide hj
      have HC := hide hcl
      have HX := hide ex
      have HY := hide ey
      clear hj hji hcl hu1 hu2 ex ey
      have hnew : Hid (RevTo vs ((cur.set k (.iface T2 u2)).set j (.iface T1 u1)) (k + 1) ∧ ((wr.setCell ⟨g, k, none⟩ (.iface T2 u2)).setCell ⟨g, j, none⟩ (.iface T1 u1)).drew.ownsRow N 64 1 (.slice (some ⟨g, 0, none⟩) n cap) n ((cur.set k (.iface T2 u2)).set j (.iface T1 u1)) ∧ (∀ v ∈ (cur.set k (.iface T2 u2)).set j (.iface T1 u1), ∃ T u, v = Value.iface T u) ∧ w.grownBy ((wr.setCell ⟨g, k, none⟩ (.iface T2 u2)).setCell ⟨g, j, none⟩ (.iface T1 u1)).drew (some g)) := by
        have s1 := hown.out.stored k (.iface T2 u2)
        have s2 := s1.1.stored j (.iface T1 u1)
        have g0 := hgr.out
        refine ⟨hrev.out.step (by rw [hlen]; exact HJ.out) hkj HX.out HY.out, s2.1.drew, fun v hv => ?_, ⟨g0.os, g0.tape, g0.output, ?_, fun b hb hne2 => ?_⟩⟩
        · rcases List.mem_or_eq_of_mem_set hv with hv | hv
          · rcases List.mem_or_eq_of_mem_set hv with hv | hv
            · exact hI.out v hv
            · exact ⟨_, _, hv⟩
          · exact ⟨_, _, hv⟩
        · exact Nat.le_trans g0.size (Nat.le_trans s1.2.size s2.2.size)
        · have hb1 := Nat.lt_of_lt_of_le hb g0.size
          exact (s2.2.block b (Nat.lt_of_lt_of_le hb1 s1.2.size) hne2).trans ((s1.2.block b hb1 hne2).trans (g0.block b hb hne2))
      clear hown hrev hI hgr HX HY HC
      go_wp2_with fail
      go_region
      go_wp2_with fail
      go_roundw
      case rel => exact ⟨k + 1, _, by omega, by go_num, by rw [show (n : Int) - 1 - ((k + 1 : Nat) : Int) = (j : Int) - 1 by have := HJ.out; omega], hnew.out.1, hnew.out.2.1, hnew.out.2.2.1, hnew.out.2.2.2⟩
      case measure => simp [intOf]
    · have hnl : ¬ ((k : Int) < (n : Int) - 1 - (k : Int)) := by omega
      have hE : Hid (cur = vs.reverse) := hrev.out.done (by omega)
      clear hrev hI
      go_wp2_with fail
      go_end0
      exact ⟨rfl, by rw [← hE.out]; exact hown.out, hgr.out⟩

theorem reverse_any (N n : Nat) (a : Option Addr) (cap : Nat) (vs : List Value) (w : World) (h : w.ownsRow N 64 1 (.slice a n cap) n vs) (hI : ∀ v ∈ vs, ∃ T u, v = .iface T u) (hn : n ≤ 1000) :
    Calls Tryz.prog 71 #[.slice a n cap] w fun e w' => e = .returned (.tuple #[]) ∧ w'.ownsRow N 64 1 (.slice a n cap) n vs.reverse ∧ w.grownBy w' (Value.slice a n cap).ownBlock := by
  rcases h.2 with ⟨h0, h1⟩ | ⟨g, cap', cur, h0, _⟩
  · cases h0
    have hv : vs = [] := List.eq_nil_of_length_eq_zero (by have := h.1; omega)
    subst hv
    go_enter Tryz.func71, Tryz.ntmps71
    go_wp2_with fail
    go_loop [2, 3] (fun i j => i = .int .i64 0 ∧ j = .int .i64 (-1)) (fun _ _ => 0)
    case atStart => exact ⟨rfl, rfl⟩
    case round =>
      obtain ⟨rfl, rfl⟩ := hrel
      go_wp2_with fail
      go_end0
      exact ⟨rfl, h, ⟨rfl, rfl, rfl, Nat.le_refl _, fun _ _ _ => rfl⟩⟩
  · cases h0
    exact reverse_some N n g cap vs w h hI hn
end Go.Proofs.YtilgbnnjecpneaaGreatDoor
