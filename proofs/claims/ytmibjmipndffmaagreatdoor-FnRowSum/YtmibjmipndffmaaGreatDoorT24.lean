/- Texts of the proof, put together by program: LAddI, WDrawP, WOfflatRow, WFlatI. -/
import Derived.Test.YtmibjmipndffmaaGreatDoorT21
import Derived.Test.YtmibjmipndffmaaGreatDoorT9
import Derived.Test.YtmibjmipndffmaaGreatDoorT23
import Derived.Test.YtmibjmipndffmaaGreatDoorT18
import Derived.Test.YtmibjmipndffmaaGreatDoorT22
/- The laws of PartAdd: what the program's calls give. -/
namespace Go.Proofs.YtmibjmipndffmaaGreatDoor
open Go.RowKit Go.Deep

end Go.Proofs.YtmibjmipndffmaaGreatDoor

/- What the laws of rows draw: a row. -/
namespace Go.Proofs.YtmibjmipndffmaaGreatDoor
open Go.RowKit Go.Deep

/-- Plain blocks from N on, but for the row's own. -/
def InR (N : Nat) (w : World) (lv : Value) (b : Nat) : Prop := N ≤ b ∧ b < w.heap.size ∧ Plain w b ∧ lv.ownBlock ≠ some b
/-- A row in the making. -/
structure RTo {d : Nat} (N r : Nat) (w : World) (lv : Value) (xs : List (Tr d)) (vs : List Value) : Prop where
  vown : w.ownsRow N 26 5 lv xs.length vs
  trees : ∀ (j : Nat) (x : Tr d), xs[j]? = some x → ∃ c0 c1 c2 c3 c4, vs[j * 5]? = some c0 ∧ vs[j * 5 + 1]? = some c1 ∧ vs[j * 5 + 2]? = some c2 ∧ vs[j * 5 + 3]? = some c3 ∧ vs[j * 5 + 4]? = some c4 ∧ ValAt (InR N w lv) w d x (.agg #[c0, c1, c2, c3, c4])
  rN : r < N
  NS : N ≤ w.heap.size
theorem RTo.start {d r : Nat} (w : World) (h : r < w.heap.size) : RTo (d := d) w.heap.size r (w.alloc (.cells #[] 26)) (.slice (some ⟨w.heap.size, 0, none⟩) 0 0) [] [] :=
  ⟨⟨rfl, Or.inr ⟨w.heap.size, 0, #[], rfl, Nat.le_refl _, heap_alloc_new w _, Nat.le_refl _, Nat.zero_le _, rfl, rfl⟩⟩, fun j x hx => by simp at hx, h, by simp⟩
theorem RTo.moved {d N r : Nat} {w w' : World} {lv : Value} {xs : List (Tr d)} {vs : List Value} (h : RTo N r w lv xs vs) (hb : But r w w') : RTo N r w' lv xs vs := by
  have hN := h.rN
  have hS := h.NS
  have hz : w.heap.size ≤ w'.heap.size := hb.size
  have hbl : ∀ b, N ≤ b → b < w.heap.size → w'.heap[b]? = w.heap[b]? := fun b h1 h2 => hb.block b h2 (fun e => by cases e; omega)
  refine ⟨owns_moved h.vown (fun g hg => ?_) (Nat.le_refl _), fun j x hx => ?_, hN, by omega⟩
  · have := h.vown.lt g hg
    exact hbl g this.1 this.2
  · obtain ⟨c0, c1, c2, c3, c4, e0, e1, e2, e3, e4, hv⟩ := h.trees j x hx
    exact ⟨c0, c1, c2, c3, c4, e0, e1, e2, e3, e4, ValAt.moved (fun b hb' => hbl b hb'.1 hb'.2.1) (fun b hb' => ⟨hb'.1, by have := hb'.2.1; omega, hb'.2.2.1.of_block (hbl b hb'.1 hb'.2.1), hb'.2.2.2⟩) d x _ hv⟩
theorem RTo.push {d N r : Nat} {w1 w2 : World} {lv lv' : Value} {xs : List (Tr d)} {vs : List Value} {x : Tr d} {v0 v1 v2 v3 v4 : Value} {o : Obj} (h : RTo N r w1 lv xs vs) (hx : ValAt (InR N w1 lv) w1 d x (.agg #[v0, v1, v2, v3, v4]))
    (hown : w2.ownsRow N 26 5 lv' (xs.length + 1) (vs ++ [v0, v1, v2, v3, v4])) (hg : (w1.alloc o).grownBy w2 lv.ownBlock) (hw : lv'.ownBlock = lv.ownBlock ∨ lv'.ownBlock = some (w1.alloc o).heap.size) : RTo N r w2 lv' (xs ++ [x]) (vs ++ [v0, v1, v2, v3, v4]) := by
  have hS := h.NS
  have hz1 : (w1.alloc o).heap.size = w1.heap.size + 1 := by simp
  have hz : w1.heap.size + 1 ≤ w2.heap.size := by have := hg.size; omega
  have hbl : ∀ b, b < w1.heap.size → lv.ownBlock ≠ some b → w2.heap[b]? = w1.heap[b]? := fun b h1 h2 => (hg.block b (by omega) (fun e => h2 e.symm)).trans (Below.heap_alloc _ _ _ h1)
  have hmv : ∀ y u, ValAt (InR N w1 lv) w1 d y u → ValAt (InR N w2 lv') w2 d y u := fun y u hy => by
    refine ValAt.moved (fun b hb' => hbl b hb'.2.1 hb'.2.2.2) (fun b hb' => ⟨hb'.1, by have := hb'.2.1; omega, hb'.2.2.1.of_block (hbl b hb'.2.1 hb'.2.2.2), ?_⟩) d y _ hy
    rcases hw with hw | hw
    · rw [hw]; exact hb'.2.2.2
    · rw [hw, hz1]
      intro he
      have := Option.some.inj he
      have := hb'.2.1
      omega
  have hlen : vs.length = xs.length * 5 := h.vown.1
  refine ⟨by rw [List.length_append]; exact hown, fun j y hy => ?_, h.rN, by omega⟩
  by_cases e : j < xs.length
  · rw [List.getElem?_append_left e] at hy
    obtain ⟨c0, c1, c2, c3, c4, e0, e1, e2, e3, e4, hv⟩ := h.trees j y hy
    refine ⟨c0, c1, c2, c3, c4, ?_, ?_, ?_, ?_, ?_, hmv _ _ hv⟩
    · rw [List.getElem?_append_left (by omega)]; exact e0
    · rw [List.getElem?_append_left (by omega)]; exact e1
    · rw [List.getElem?_append_left (by omega)]; exact e2
    · rw [List.getElem?_append_left (by omega)]; exact e3
    · rw [List.getElem?_append_left (by omega)]; exact e4
  · have hj : j = xs.length := by
      have := (List.getElem?_eq_some_iff.1 hy).1
      rw [List.length_append, List.length_singleton] at this
      omega
    subst hj
    rw [List.getElem?_append_right (Nat.le_refl _), Nat.sub_self] at hy
    cases hy
    refine ⟨v0, v1, v2, v3, v4, ?_, ?_, ?_, ?_, ?_, hmv _ _ hx⟩
    · rw [List.getElem?_append_right (by omega), hlen]; simp
    · rw [List.getElem?_append_right (by omega), hlen]; simp
    · rw [List.getElem?_append_right (by omega), hlen]; simp
    · rw [List.getElem?_append_right (by omega), hlen]; simp
    · rw [List.getElem?_append_right (by omega), hlen]; simp
/-- The row, as a tree. -/
def rowE {d : Nat} (xs : List (Tr d)) : Tr (d + 1) := ({ kind := 5, num := 0, str := ⟨#[]⟩, keys := [], list := xs } : Nd (Tr d))
theorem RTo.done {d N r : Nat} {wb w : World} {lv : Value} {xs : List (Tr d)} {vs : List Value} (h : RTo N r w lv xs vs) (hxl : xs.length < 1000) (hN : wb.heap.size < N) : ValAt (FreshQ wb w) w (d + 1) (rowE xs) (.agg #[.int .i64 5, .int .i64 0, .string ByteArray.empty, .slice none 0 0, lv]) := by
  refine ⟨_, _, rfl, ⟨by show _ ≤ (5 : Int); omega, by show (5 : Int) ≤ _; omega⟩, ⟨by show _ ≤ (0 : Int); omega, by show (0 : Int) ≤ _; omega⟩, by show (0 : Nat) < _; omega, ⟨by show (0 : Nat) < _; omega, (fun s hs => by cases hs), none, 0, rfl, Or.inl rfl⟩, ⟨by show xs.length < _; omega, ?_⟩⟩
  rcases h.vown.2 with ⟨e, h0⟩ | ⟨g, cap, cur, e, hg, hh, _⟩
  · exact ⟨none, 0, by show lv = .slice none xs.length 0; rw [e, h0], Or.inl (List.eq_nil_of_length_eq_zero h0)⟩
  · refine ⟨some ⟨g, 0, none⟩, cap, e, Or.inr ⟨g, 0, ⟨by omega, (Array.getElem?_eq_some_iff.1 hh).1, ⟨_, _, hh⟩⟩, rfl, fun i x hx => ?_⟩⟩
    obtain ⟨c0, c1, c2, c3, c4, e0, e1, e2, e3, e4, hv⟩ := h.trees i x hx
    have hi : i < xs.length := (List.getElem?_eq_some_iff.1 hx).1
    have hvo := h.vown
    rw [e] at hvo
    have hc : ∀ j c, j < xs.length * 5 → vs[j]? = some c → w.cell? ⟨g, 0 + j, none⟩ = some c := fun j c hj hc => by
      rw [Nat.zero_add]
      exact (hvo.cellAt j hj).trans hc
    exact ⟨c0, c1, c2, c3, c4, hc _ _ (by omega) e0, hc _ _ (by omega) e1, hc _ _ (by omega) e2, hc _ _ (by omega) e3, hc _ _ (by omega) e4, hv.mono (fun b hb => ⟨by have := hb.1; omega, hb.2.1, hb.2.2.1⟩)⟩
/-- What was drawn is put into the result's own cells. -/
theorem rowD_end {r p p' c B : Nat} {w wX : World} {t : Tr 10} {v0 v1 v2 v3 v4 : Value} (hv : ValAt (FreshQ w wX) wX 10 t (.agg #[v0, v1, v2, v3, v4])) (hB : wtT 10 t ≤ B) (hR : Rd wX r p') (hp : p' ≤ p + c) (hb : But r w wX) (hr : r < w.heap.size) :
    ∀ wF, wF = set5 wX w.heap.size 0 v0 v1 v2 v3 v4 → DrawnV r p c 10 B w (.returned (.agg #[v0, v1, v2, v3, v4])) wF := by
  intro wF hF
  have hs : ∀ b, b ≠ w.heap.size → wF.heap[b]? = wX.heap[b]? := fun b hb' => by rw [hF]; exact set5_block _ _ _ _ _ _ _ _ _ hb'
  have hz : wF.heap.size = wX.heap.size := by rw [hF]; exact set5_size _ _ _ _ _ _ _ _
  have hl : Below w.heap.size wX wF := by rw [hF]; exact below_set5 (Below.refl _ _) (Nat.le_refl _) _ _ _ _ _ _
  have hw : w.heap.size ≤ wX.heap.size := hb.size
  refine ⟨_, t, p', rfl, ValAt.moved (fun b hb' => hs b (by have := hb'.1; omega)) (fun b hb' => ⟨⟨Nat.le_of_lt hb'.1, by rw [hz]; exact hb'.2.1⟩, hb'.2.2.of_block (hs b (by have := hb'.1; omega))⟩) 10 t _ hv, hB, ?_, hp, ⟨hl.os.trans hb.os, hl.tape.trans hb.tape, hl.output.trans hb.output, by rw [hz]; exact hw, fun i hi hn => (hs i (by omega)).trans (hb.block i hi hn)⟩⟩
  obtain ⟨a, n, cap, e1, e2, e3⟩ := hR
  exact ⟨a, n, cap, (hs r (by omega)).trans e1, e2, e3.moved (fun b hb' => hs b (by omega))⟩

set_option maxRecDepth 100000 in
set_option maxHeartbeats 4000000 in
theorem l4RowDraw_any (r p : Nat) (w : World) (h : Rd w r p) (hp : p + 500 ≤ 1000000) :
    Calls Tryz.prog 62 #[.pointer (some ⟨r, 0, none⟩)] w (DrawnV r p 500 10 430 w) := by
  have hr := h.lt
  have hb0 := below_alloc1 w (.cells #[.int .i64 0, .int .i64 0, .string { data := #[] }, .slice none 0 0, .slice none 0 0] 26)
  have kr := res_new w
  have hR0 := h.below hb0
  obtain ⟨W0, HW⟩ : ∃ W0, Hid (W0 = w.alloc (.cells #[.int .i64 0, .int .i64 0, .string { data := #[] }, .slice none 0 0, .slice none 0 0] 26)) := ⟨_, rfl⟩
  have hz0 : w.heap.size < W0.heap.size := by rw [HW.out]; simp
  rw [← HW.out] at hb0 kr hR0
  go_enter Tryz.func62, Tryz.ntmps62
  go_wp2_with fail
  rw [← HW.out]
  refine (pick_any r p 12 W0 hR0 (by omega) (by omega) (by omega)).mono ?_
  rintro e w1 ⟨k1, rfl, k10, k11, h1, b1, z1⟩
  replace kr := kr.butr b1 (by omega)
  have hB1 := (But.of_below hb0).trans b1
  replace hz0 : w.heap.size < w1.heap.size := by omega
  clear hR0 hb0 b1 z1 HW h
  by_cases hk1 : k1 = 0
  · subst hk1
    go_wp2_with fail
    refine (l1Bent_any r (p + 1) w1 h1 (by omega)).mono ?_
    rintro e w2 ⟨u, t, p2, rfl, hv, hw, hR2, hp2, hb2⟩
    obtain ⟨v0, v1, v2, v3, v4, v5, v6, v7, v8, rfl⟩ := hv.shape
    have HF := hide (rowD_end (p := p) (c := 500) (B := 430) (hv.mono (S' := FreshQ w w2) (fun b hb => ⟨by have := hb.1.1; omega, hb.1.2, hb.2⟩)) (by omega) hR2 (by omega) (hB1.trans hb2) hr)
    replace kr := kr.butr hb2 (by omega)
    obtain ⟨y0, y1, y2, y3, y4⟩ := kr.cell
    have yf := kr.frozen
    clear kr hv hb2 h1 hR2 hB1
    go_wp2_with fail
    exact bodyPost_ret (v := .agg #[.int .i64 v0, .int .i64 v1, .string v2, .slice v3 v4 v5, .slice v6 v7 v8]) (by simp [results, Tryz.results62, go_sem, y0, y1, y2, y3, y4]) rfl (HF.out _ rfl)
  · have hk1' : (k1 == 0) = false := by simpa using hk1
    have ha := below_alloc1 w1 (.cells #[] 26)
    have hst0 := RTo.start (d := 3) (r := r) w1 h1.lt
    obtain ⟨W2, HW⟩ : ∃ W2, Hid (W2 = w1.alloc (.cells #[] 26)) := ⟨_, rfl⟩
    rw [← HW.out] at ha hst0
    replace kr := kr.below ha
    have h2 := h1.below ha
    have hB2 := hB1.trans (But.of_below ha)
    clear h1
    go_wp2_with fail
    rw [← HW.out]
    clear HW
    refine (pick_any r (p + 1) 6 W2 h2 (by omega) (by omega) (by omega)).mono ?_
    rintro e w3 ⟨k2, rfl, k20, k21, h3, b3, z3⟩
    replace kr := kr.butr b3 (by omega)
    have hB3 := hB2.trans b3
    have hst : Hid (RTo (d := 3) w1.heap.size r w3 (.slice (some ⟨w1.heap.size, 0, none⟩) 0 0) [] []) := hst0.moved b3
    obtain ⟨n, rfl⟩ := Int.eq_ofNat_of_zero_le k20
    have HS3 := hide (And.intro h3 (And.intro hB3 kr))
    have hn6 : n ≤ 5 := by omega
    clear h2 b3 z3 hB2 ha hst0 kr h3 hB3 hB1
    go_wp2_with fail
    go_loopw [3, 4] (fun out i wr => ∃ (m ln : Nat) (la : Option Addr) (lc : Nat) (xs : List (Tr 3)) (vs : List Value) (p' : Nat), m ≤ 5 ∧ i = .int .i64 (m : Int) ∧ out = .slice la ln lc ∧ Hid (ln = xs.length) ∧ ln + m ≤ 5 ∧ p' + 94 * m ≤ p + 2 + 94 * n ∧ Hid (∀ x ∈ xs, wtT 3 x ≤ 83) ∧ Hid (RTo (d := 3) w1.heap.size r wr (.slice la ln lc) xs vs) ∧ Hid (Rd wr r p' ∧ But r w wr ∧ Blk5 wr w.heap.size 26 (.int .i64 0) (.int .i64 0) (.string { data := #[] }) (.slice none 0 0) (.slice none 0 0))) (fun _ i _ => (intOf i).toNat)
    case atStart => exact ⟨n, 0, _, _, [], [], p + 1 + 1, hn6, rfl, rfl, rfl, by omega, by omega, (fun x hx => by cases hx), hst, HS3⟩
    case round =>
      clear hst HS3
      obtain ⟨m, ln, la, lc, xs, vs, p', hm, rfl, rfl, hln, hxm, hpm, hxw, hto, hall⟩ := hrel
      have hR := hall.out.1
      have hBr := hall.out.2.1
      have krr := hall.out.2.2
      have hNw : w1.heap.size ≤ wr.heap.size := hto.out.NS
      by_cases hm0 : 0 < m
      · have hm0' : (0 : Int) < (m : Int) := by omega
        clear hall
        go_wp2_with fail
        refine (pick_any r p' 3 wr hR (by omega) (by omega) (by omega)).mono ?_
        rintro e w4 ⟨k3, rfl, k30, k31, h4, b4, z4⟩
        have hw3 : wrap64 (1 + k3) = 1 + k3 := by unfold wrap64; omega
        have hB4 := hBr.trans b4
        have kr4 := krr.butr b4 (by omega)
        have hto4 := hto.out.moved b4
        clear hR
        go_wp2_with fail
        refine (l1Val_any 2 r (p' + 1) (1 + k3) w4 h4 (by have : drC 2 ≤ 93 := by decide
                                                          omega) (by omega) (by omega) (by omega)).mono ?_
        rintro e w5 ⟨u, t, p5, rfl, hv, hw, hR5, hp5, hb5⟩
        obtain ⟨u0, u1, u2, u3, u4, u5, u6, u7, u8, rfl⟩ := hv.at.shape
        have hB5 := hB4.trans hb5
        have kr5 := kr4.butr hb5 (by omega)
        have hto5 := hto4.moved hb5
        have hz5 : w4.heap.size ≤ w5.heap.size := hb5.size
        have hx : ValAt (InR w1.heap.size w5 (.slice la ln lc)) w5 3 t (.agg #[.int .i64 u0, .int .i64 u1, .string u2, .slice u3 u4 u5, .slice u6 u7 u8]) := hv.at.mono (fun b hb => ⟨by have := hb.1.1; omega, hb.1.2, hb.2, fun e => by have := (hto4.vown.lt b e).2; have := hb.1.1; omega⟩)
        have hwt : wtT 3 t ≤ 83 := hw
        have hdc : drC 2 ≤ 93 := by decide
        have hown := hto5.vown
        rw [← hln.out] at hown
        have HO := hide (hown.alloc (.cells #[.int .i64 u0, .int .i64 u1, .string u2, .slice u3 u4 u5, .slice u6 u7 u8] 26))
        have hnb : ∀ g, (Value.slice la ln lc).ownBlock = some g → w1.heap.size ≤ g ∧ g < w5.heap.size := fun g hg => hown.lt g hg
        have hstep : Hid (∀ lv' w6, w6.ownsRow w1.heap.size 26 5 lv' (ln + 1) (vs ++ [.int .i64 u0, .int .i64 u1, .string u2, .slice u3 u4 u5, .slice u6 u7 u8]) → (w5.alloc (.cells #[.int .i64 u0, .int .i64 u1, .string u2, .slice u3 u4 u5, .slice u6 u7 u8] 26)).grownBy w6 (Value.slice la ln lc).ownBlock → (lv'.ownBlock = (Value.slice la ln lc).ownBlock ∨ lv'.ownBlock = some (w5.heap.size + 1)) →
            ∃ a c, lv' = .slice a (ln + 1) c ∧ RTo (d := 3) w1.heap.size r w6 lv' (xs ++ [t]) (vs ++ [.int .i64 u0, .int .i64 u1, .string u2, .slice u3 u4 u5, .slice u6 u7 u8]) ∧ Rd w6 r p5 ∧ But r w w6 ∧ Blk5 w6 w.heap.size 26 (.int .i64 0) (.int .i64 0) (.string { data := #[] }) (.slice none 0 0) (.slice none 0 0)) := by
          intro lv' w6 o1 o2 o3
          have hal := below_alloc1 w5 (.cells #[.int .i64 u0, .int .i64 u1, .string u2, .slice u3 u4 u5, .slice u6 u7 u8] 26)
          have hz6 : (w5.alloc (.cells #[.int .i64 u0, .int .i64 u1, .string u2, .slice u3 u4 u5, .slice u6 u7 u8] 26)).heap.size = w5.heap.size + 1 := by simp
          have hbk : ∀ b, b < w1.heap.size → w6.heap[b]? = w5.heap[b]? := fun b hb => (o2.block b (by omega) (fun e => by have := (hnb b e.symm).1; omega)).trans (Below.heap_alloc _ _ _ (by omega))
          have hform : ∃ a c, lv' = .slice a (ln + 1) c := by
            rcases o1.2 with ⟨_, h0⟩ | ⟨g, cap, cur, e, _⟩
            · omega
            · exact ⟨_, _, e⟩
          obtain ⟨a, c, e⟩ := hform
          refine ⟨a, c, e, hto5.push hx (by rw [← hln.out]; exact o1) o2 (by rw [hz6]; exact o3), ?_, ?_, kr5.of_block (hbk _ hz0)⟩
          · obtain ⟨qa, qn, qc, e1, e2, e3⟩ := hR5
            have hrw : r < w1.heap.size := by omega
            exact ⟨qa, qn, qc, (hbk r hrw).trans e1, e2, e3.moved (fun b hb => hbk b (by omega))⟩
          · have hs6 := o2.size
            exact ⟨o2.os.trans (hal.os.trans hB5.os), o2.tape.trans (hal.tape.trans hB5.tape), o2.output.trans (hal.output.trans hB5.output), by have := hB5.size; omega, fun i hi hn => (hbk i (by omega)).trans (hB5.block i hi hn)⟩
        have HLN : Hid (ln + 1 = (xs ++ [t]).length) := by show _ = _; rw [List.length_append, List.length_singleton, hln.out]
        have HXW : Hid (∀ x ∈ xs ++ [t], wtT 3 x ≤ 83) := fun x hx => by
          rcases List.mem_append.1 hx with h | h
          · exact hxw.out x h
          · rw [List.mem_singleton.1 h]; exact hwt
        obtain ⟨i0, hi, hz0', hz1', hz2'⟩ := info_parts Tryz.infoV2
        have hn5 : w1.heap.size ≤ w5.heap.size + 1 := by omega
        clear hv hR5 hb5 hB5 hB4 kr5 kr4 hto5 hto4 hx hown h4 b4 hto hxw krr hBr
        go_wp2_with (at_builtin; refine wpList_append_own_at _ rfl _ _ 24 rfl w1.heap.size 26 i0 zeroVal 5 80 Tryz.underlying24 hi hz0' hz1' hz2' rfl (by decide) _ _ _ rfl HO.out ⟨w5.heap.size, 0, none⟩ 1 1 [.int .i64 u0, .int .i64 u1, .string u2, .slice u3 u4 u5, .slice u6 u7 u8] rfl rfl (cell_five_new _ _ _ _ _ _ _) ?c2 ?c3 ?c4 ?c5 ?_)
        case c2 => intro y hy; simp at hy; rcases hy with rfl | rfl | rfl | rfl | rfl <;> rfl
        case c3 => unfold maxLen; omega
        case c4 => omega
        case c5 => simp; omega
        · intro lv' w6 o1 o2 _ o3
          obtain ⟨a6, c6, e6, g1, g2, g3, g4⟩ := hstep.out lv' w6 o1 o2 o3
          subst e6
          have HT := hide g1
          have HQ := hide (And.intro g2 (And.intro g3 g4))
          clear o1 o2 o3 hstep HO g1 g2 g3 g4 hi hz0' hz1' hz2'
          go_wp2_with fail
          go_roundw
          case rel => exact ⟨m - 1, ln + 1, a6, c6, xs ++ [t], _, p5, by omega, by rw [show (((m - 1 : Nat)) : Int) = (m : Int) - 1 by omega], rfl, HLN, by omega, by omega, HXW, HT, HQ⟩
          case measure => simp [intOf]; omega
      · obtain rfl : m = 0 := by omega
        clear hall
        go_wp2_with fail
        refine (l4Of_any _ _ _ wr).mono ?_
        rintro e w4 ⟨rfl, hb4⟩
        have hto4 := hto.out.moved (But.of_below (rb := r) hb4)
        have hR4 := hR.below hb4
        have hB4 := hBr.trans (But.of_below hb4)
        have kr4 := krr.below hb4
        have hz4 := hb4.size
        have hval := hto4.done (wb := w) (by have := hln.out; omega) (by omega)
        have hwt : wtT 4 (rowE xs) ≤ 430 := by
          show 3 + 0 + (xs.map (wtT 3)).sum ≤ 430
          have := sum_le_all (f := wtT 3) (c := 83) (xs := xs) 5 (by have := hln.out; omega) hxw.out
          omega
        have ha := below_alloc1 w4 (.cells #[.int .i64 5, .int .i64 0, .string ByteArray.empty, .slice none 0 0, .slice la ln lc] 26)
        have kv := Blk5.new w4 26 (.int .i64 5) (.int .i64 0) (.string ByteArray.empty) (.slice none 0 0) (.slice la ln lc)
        obtain ⟨W5, HW5⟩ : ∃ W5, Hid (w4.alloc (.cells #[.int .i64 5, .int .i64 0, .string ByteArray.empty, .slice none 0 0, .slice la ln lc] 26) = W5) := ⟨_, rfl⟩
        rw [HW5.out] at ha kv
        have hz5 := ha.size
        replace hval : ValAt (FreshQ w W5) W5 4 (rowE xs) (.agg #[.int .i64 5, .int .i64 0, .string ByteArray.empty, .slice none 0 0, .slice la ln lc]) := ValAt.moved (fun b hb => ha.block b hb.2.1) (fun b hb => ⟨hb.1, by have := hb.2.1; omega, hb.2.2.of_block (ha.block b hb.2.1)⟩) 4 _ _ hval
        replace kr4 := kr4.below ha
        replace hR4 := hR4.below ha
        replace hB4 := hB4.trans (But.of_below ha)
        clear hto hto4 hR hBr krr hb4 ha
        go_wp2_with fail
        rw [HW5.out]
        clear HW5
        obtain ⟨x0, x1, x2, x3, x4⟩ := kv.cell
        go_wp2_with fail
        refine (specValOk_any 4 (FreshQ w W5) (rowE xs) _ W5 hval (fun b hb => hb.2.1) (by have := nodes_wt' 4 (rowE xs); omega)).mono ?_
        rintro e w6 ⟨rfl, hb6⟩
        have hz6 := hb6.size
        replace kv := kv.below hb6
        replace kr4 := kr4.below hb6
        replace hR4 := hR4.below hb6
        replace hB4 := hB4.trans (But.of_below hb6)
        replace hval : ValAt (FreshQ w w6) w6 4 (rowE xs) (.agg #[.int .i64 5, .int .i64 0, .string ByteArray.empty, .slice none 0 0, .slice la ln lc]) := ValAt.moved (fun b hb => hb6.block b hb.2.1) (fun b hb => ⟨hb.1, by have := hb.2.1; omega, hb.2.2.of_block (hb6.block b hb.2.1)⟩) 4 _ _ hval
        clear hb6 x0 x1 x2 x3 x4
        obtain ⟨y0, y1, y2, y3, y4⟩ := kr4.cell
        have yf := kr4.frozen
        cases hok : okT 4 (rowE xs) with
        | true =>
          have HF := hide (rowD_end (p := p) (c := 500) (B := 430) (t := upN 4 6 (rowE xs)) ((ValAt.upN (d := 4) hval 6)) (Nat.le_trans (Nat.le_of_eq (wtT_upN 4 6 (rowE xs))) hwt) hR4 (by omega) hB4 hr)
          obtain ⟨x0, x1, x2, x3, x4⟩ := kv.cell
          clear kv kr4 hval hR4 hB4
          go_wp2_with fail
          exact bodyPost_ret (v := .agg #[.int .i64 5, .int .i64 0, .string ByteArray.empty, .slice none 0 0, .slice la ln lc]) (by simp [results, Tryz.results62, go_sem, y0, y1, y2, y3, y4]) rfl (HF.out _ rfl)
        | false =>
          clear kv hval
          go_wp2_with fail
          refine (l4Of_any none 0 0 w6).mono ?_
          rintro e w7 ⟨rfl, hb7⟩
          have hz7 := hb7.size
          have HF := hide (rowD_end (p := p) (c := 500) (B := 430) (wX := w7) (t := upN 1 9 (rowE (d := 0) [])) (ValAt.upN (d := 1) (show ValAt (FreshQ w w7) w7 1 (rowE (d := 0) []) (.agg #[.int .i64 5, .int .i64 0, .string ByteArray.empty, .slice none 0 0, .slice none 0 0]) from ⟨_, _, rfl, ⟨by show _ ≤ (5 : Int); omega, by show (5 : Int) ≤ _; omega⟩, ⟨by show _ ≤ (0 : Int); omega, by show (0 : Int) ≤ _; omega⟩, by show (0 : Nat) < _; omega, ⟨by show (0 : Nat) < _; omega, (fun s hs => by cases hs), none, 0, rfl, Or.inl rfl⟩, ⟨by show (0 : Nat) < _; omega, none, 0, rfl, Or.inl rfl⟩⟩) 9) (Nat.le_trans (Nat.le_of_eq (wtT_upN 1 9 (rowE (d := 0) []))) (by show 3 + 0 + 0 ≤ 430; omega)) (hR4.below hb7) (by omega) (hB4.trans (But.of_below hb7)) hr)
          clear y0 y1 y2 y3 y4 yf
          have kr7 := kr4.below hb7
          obtain ⟨y0, y1, y2, y3, y4⟩ := kr7.cell
          have yf := kr7.frozen
          clear kr4 kr7 hR4 hB4 hb7
          go_wp2_with fail
          exact bodyPost_ret (v := .agg #[.int .i64 5, .int .i64 0, .string ByteArray.empty, .slice none 0 0, .slice none 0 0]) (by simp [results, Tryz.results62, go_sem, y0, y1, y2, y3, y4]) rfl (HF.out _ rfl)

end Go.Proofs.YtmibjmipndffmaaGreatDoor

/- ofRow of the program, at flatRow. -/
namespace Go.Proofs.YtmibjmipndffmaaGreatDoor
open Go.RowKit Go.Deep

set_option maxRecDepth 100000 in
set_option maxHeartbeats 2000000 in
theorem ofRow_flatRow (d e : Nat) (S : Nat → Prop) (t : Tr (d + 1)) (v : Value) (f : List (Tr d) → Option (Tr (e + 1))) (w : World) (hv : ValAt S w (d + 1) t v) (hS : Within S w) (hg : ErrType w)
    (H : Hid (∀ (N : Nat) (xs : List (Tr d)) (a : Option Addr) (cap : Nat) (vs : List Value) (w1 : World), treesL d t = some xs → GTo N w1 (.slice a xs.length cap) xs vs → w.heap.size ≤ N → N ≤ w1.heap.size → ErrType w1 → Calls Tryz.prog 68 #[.slice a xs.length cap] w1 (TellF e N (f xs) w1))) :
    Calls Tryz.prog 64 #[v, .func (.func 68) #[] #[]] w (TellQ e (rowTell f t).1 (rowTell f t).2 w) := by
  obtain ⟨k, n, s, ak, lk, ck, al, ll, cl, rfl⟩ := hv.shape
  obtain ⟨W0, hW⟩ : ∃ W0, W0 = (w.alloc (.cells #[.int .i64 k, .int .i64 n, .string s, .slice ak lk ck, .slice al ll cl] 26)).alloc (.cells #[.int .i64 0, .int .i64 0, .string { data := #[] }, .slice none 0 0, .slice none 0 0] 26) := ⟨_, rfl⟩
  have hW0 : Below w.heap.size w W0 := by rw [hW]; exact below_trans (below_alloc1 _ _) (below_alloc1 _ _)
  have k1 : Blk5 W0 (w.heap.size + 1) 26 (.int .i64 0) (.int .i64 0) (.string { data := #[] }) (.slice none 0 0) (.slice none 0 0) := by
    have := Blk5.new (w.alloc (.cells #[.int .i64 k, .int .i64 n, .string s, .slice ak lk ck, .slice al ll cl] 26)) 26 (.int .i64 0) (.int .i64 0) (.string { data := #[] }) (.slice none 0 0) (.slice none 0 0)
    rw [World.size_alloc] at this
    rw [hW]
    exact this
  have HW := hide hW
  clear hW
  go_enter Tryz.func64, Tryz.ntmps64
  go_wp2_with fail
  rw [← HW.out]
  clear HW
  refine (treesInRow_own d S t _ W0 (hv.same (hS.same hW0)) (hS.later hW0.size)).mono ?_
  rintro en w1 ⟨hb1, hq⟩
  have hB1 := below_trans hW0 hb1
  have k2 := k1.below hb1
  have hg1 := hg.below hB1
  have hl1 := k1.lt
  have hs0 := hW0.size
  have hs1 := hb1.size
  clear hv
  -- what is told, however it is
  have hfin : ∀ (w1' : World), Below W0.heap.size w1 w1' → ∀ (x : Tr (e + 1)) (ok : Bool), Hid (∀ en w2, TellQ e x ok w1' en w2 → ∃ v0 v1 v2 v3 v4 v5 v6 v7 v8, en = .returned (.tuple #[.agg #[.int .i64 v0, .int .i64 v1, .string v2, .slice v3 v4 v5, .slice v6 v7 v8], .bool ok]) ∧
      Blk5 w2 (w.heap.size + 1) 26 (.int .i64 0) (.int .i64 0) (.string { data := #[] }) (.slice none 0 0) (.slice none 0 0) ∧
      ∀ wF, wF = set5 w2 (w.heap.size + 1) 0 (.int .i64 v0) (.int .i64 v1) (.string v2) (.slice v3 v4 v5) (.slice v6 v7 v8) → ValOwn wF (e + 1) (Fresh w wF) x (.agg #[.int .i64 v0, .int .i64 v1, .string v2, .slice v3 v4 v5, .slice v6 v7 v8]) ∧ Below w.heap.size w wF) := fun w1' hb' x ok => by
    intro en w2 ⟨v, he, hv, hb2⟩
    obtain ⟨v0, v1, v2, v3, v4, v5, v6, v7, v8, rfl⟩ := (ValOwn.at _ _ _ _ hv).shape
    have hs' := hb'.size
    exact ⟨v0, v1, v2, v3, v4, v5, v6, v7, v8, he, (k2.of_block (hb'.block _ hl1)).below hb2, tell_end hv (below_trans (hB1.trans (hb'.mono hs0)) hb2) (by omega) (by omega)⟩
  clear hW0 k1 hb1
  rcases hq with ⟨xs, xa, xc, vs, hrow, rfl, hto⟩ | ⟨hrow, why, rfl⟩
  · have hcall := hide (H.out W0.heap.size xs xa xc vs w1 hrow hto hs0 hs1 hg1)
    have HR := hide hrow
    clear hto H hrow
    go_wp2_with fail
    refine Calls.mono hcall.out ?_
    rintro en w2 ⟨hb2, hq⟩
    clear hcall
    have hz2 := hb2.size
    have h00 : 0 < W0.heap.size := Nat.lt_of_lt_of_le hg.lt hs0
    have hg2 : ErrType w2 := (hb2.cell (p := ⟨0, 0, none⟩) h00).trans hg1
    rcases hq with ⟨x, u, hx, rfl, hu⟩ | ⟨hx, why, rfl⟩
    · obtain ⟨T, u', rfl⟩ := hu.iface
      have hT := hide (rowTell_some HR.out hx)
      have hcall := hide (told_tree e _ x _ w2 hu (fun b hb => hb.2))
      clear hx hu
      go_wp2_with fail
      refine Calls.mono hcall.out ?_
      intro en w3 hq
      obtain ⟨v0, v1, v2, v3, v4, v5, v6, v7, v8, rfl, k3, hF⟩ := (hfin w2 hb2 _ _).out en w3 hq
      have HF := hide hF
      obtain ⟨y0, y1, y2, y3, y4⟩ := k3.cell
      have yf := k3.frozen
      clear hF hq hfin hcall k3
      go_wp2_with fail
      refine bodyPost_ret (v := .tuple #[.agg #[.int .i64 v0, .int .i64 v1, .string v2, .slice v3 v4 v5, .slice v6 v7 v8], .bool (okT (e + 1) x)]) (by simp [results, Tryz.results64, go_sem, y0, y1, y2, y3, y4]) rfl ⟨_, by rw [hT.out], by rw [hT.out]; exact (HF.out _ rfl).1, (HF.out _ rfl).2⟩
    · have hT := hide (rowTell_fault HR.out hx)
      have hcall := hide (told_fault e .nilIface why w2 hg2)
      unfold faultV
      clear hx
      go_wp2_with fail
      refine Calls.mono hcall.out ?_
      intro en w3 hq
      obtain ⟨v0, v1, v2, v3, v4, v5, v6, v7, v8, rfl, k3, hF⟩ := (hfin w2 hb2 _ _).out en w3 hq
      have HF := hide hF
      obtain ⟨y0, y1, y2, y3, y4⟩ := k3.cell
      have yf := k3.frozen
      clear hF hq hfin hcall k3
      go_wp2_with fail
      refine bodyPost_ret (v := .tuple #[.agg #[.int .i64 v0, .int .i64 v1, .string v2, .slice v3 v4 v5, .slice v6 v7 v8], .bool false]) (by simp [results, Tryz.results64, go_sem, y0, y1, y2, y3, y4]) rfl ⟨_, by rw [hT.out], by rw [hT.out]; exact (HF.out _ rfl).1, (HF.out _ rfl).2⟩
  · have hT := hide (rowTell_none (f := f) hrow)
    have hcall := hide (told_fault e .nilIface why w1 hg1)
    unfold faultV
    clear hrow H
    go_wp2_with fail
    refine Calls.mono hcall.out ?_
    intro en w2 hq
    obtain ⟨v0, v1, v2, v3, v4, v5, v6, v7, v8, rfl, k3, hF⟩ := (hfin w1 (Below.refl _ _) _ _).out en w2 hq
    have HF := hide hF
    obtain ⟨y0, y1, y2, y3, y4⟩ := k3.cell
    have yf := k3.frozen
    clear hF hq hfin hcall k3
    go_wp2_with fail
    refine bodyPost_ret (v := .tuple #[.agg #[.int .i64 v0, .int .i64 v1, .string v2, .slice v3 v4 v5, .slice v6 v7 v8], .bool false]) (by simp [results, Tryz.results64, go_sem, y0, y1, y2, y3, y4]) rfl ⟨_, by rw [hT.out], by rw [hT.out]; exact (HF.out _ rfl).1, (HF.out _ rfl).2⟩
end Go.Proofs.YtmibjmipndffmaaGreatDoor

/- flatRow, RowFlat of the program. -/
namespace Go.Proofs.YtmibjmipndffmaaGreatDoor
open Go.RowKit Go.Deep

theorem ownsRow_on {w w' : World} {N : Nat} {T : TypeId} {s : Nat} {v : Value} {n : Nat} {xs : List Value} (h : w.ownsRow N T s v n xs) (hb : Below w.heap.size w w') : w'.ownsRow N T s v n xs := by
  obtain ⟨h1, h2⟩ := h
  refine ⟨h1, ?_⟩
  rcases h2 with h2 | ⟨g, c, cur, e, h3, h4, h5⟩
  · exact Or.inl h2
  · exact Or.inr ⟨g, c, cur, e, h3, (hb.block g (Array.getElem?_eq_some_iff.1 h4).1).trans h4, h5⟩
theorem GF.later {d N : Nat} {S : Nat → Prop} {w w' : World} {sv : Value} {xs : List (Tr d)} {vs : List Value} (h : GF S N w sv xs vs) (hb : Below w.heap.size w w') (hS : Within S w) : GF S N w' sv xs vs :=
  ⟨ownsRow_on h.1 hb, fun j x u hx hu => (h.2 j x u hx hu).same (hS.same hb)⟩
theorem Row1At.one {α : Type} {S : Nat → Prop} {w : World} {At : α → Value → Prop} {a : Option Addr} {n cap k : Nat} {xs : List α} (h : Row1At S w At (.slice a n cap) xs) (hk : k < xs.length) : ∃ b o x u, a = some ⟨b, o, none⟩ ∧ S b ∧ xs[k]? = some x ∧ w.cell? ⟨b, o + k, none⟩ = some u ∧ At x u := by
  obtain ⟨_, a', cap', hv, h3⟩ := h
  cases hv
  rcases h3 with rfl | ⟨b, o, hB, ha, hc⟩
  · simp at hk
  · obtain ⟨u, e0, e1⟩ := hc k _ (List.getElem?_eq_getElem hk)
    exact ⟨b, o, xs[k], u, ha, hB, List.getElem?_eq_getElem hk, e0, e1⟩

set_option maxRecDepth 100000 in
set_option maxHeartbeats 8000000 in
theorem flatRow_any (d N : Nat) (xs : List (Tr (d + 1))) (a : Option Addr) (cap : Nat) (vs : List Value) (w : World) (hto0 : GTo N w (.slice a xs.length cap) xs vs) (hN : N ≤ w.heap.size) (hl : xs.length ≤ 60) (hf60 : (flatL d xs).length ≤ 60) :
    Calls Tryz.prog 68 #[.slice a xs.length cap] w (TellF (d + 1) N (flatF d xs) w) := by
  obtain ⟨S, hSd⟩ : ∃ S : Nat → Prop, S = fun b => N ≤ b ∧ b < w.heap.size := ⟨_, rfl⟩
  have hrow0 : Row1At S w (TreeG S w (d + 1)) (.slice a xs.length cap) xs := by rw [hSd]; exact hto0.row (by omega)
  have hSw : Within S w := by rw [hSd]; exact fun b hb => hb.2
  have hSN : ∀ b, S b → N ≤ b := by rw [hSd]; exact fun b hb => hb.1
  clear hSd hto0
  go_enter Tryz.func68, Tryz.ntmps68
  go_wp2_with fail
  go_loopw [4, 11] (fun fl i wr => ∃ (k n : Nat) (la : Option Addr) (lc : Nat) (vs' : List Value), k ≤ xs.length ∧ fl = .slice la n lc ∧ i = .int .i64 (k : Int) ∧ n ≤ 60 ∧ Hid (n = (flatL d (xs.take k)).length) ∧ Hid (GF S w.heap.size wr (.slice la n lc) (flatL d (xs.take k)) vs') ∧ Hid (Below w.heap.size w wr)) (fun _ i _ => xs.length - (intOf i).toNat)
  case atStart => exact ⟨0, 0, none, 0, [], Nat.zero_le _, rfl, rfl, Nat.zero_le _, rfl, GF.nil _ _ _, Below.refl _ _⟩
  case round =>
    obtain ⟨k, n, la, lc, vs', hk, rfl, rfl, hn60, hlen, hto, hbr⟩ := hrel
    have hsz := hbr.out.size
    by_cases hkl : k < xs.length
    · have hki : (k : Int) < (xs.length : Int) := by omega
      have hmv := hSw.same hbr.out
      have hrow := hrow0.moved (At' := TreeG S wr (d + 1)) hmv (fun _ h => h) (fun x u hx => TreeG.moved hmv (fun _ h => h) (d + 1) x u hx)
      obtain ⟨b, o, x, u, rfl, hb, hx, e0, hu⟩ := hrow.one hkl
      have hstp := hide (flatL_step (d := d) hx)
      have hle := hide (flat_take (d := d) xs (k + 1))
      have htr := hide hu
      clear hrow0 hx
      rcases hu with ⟨k', h1, hxe, rfl⟩ | ⟨n', h1, hxe, rfl⟩ | ⟨s', h1, hxe, rfl⟩ | ⟨ys, sv, h1, hxe, rfl, hr⟩ | ⟨keys, ys, ps, r, es, h1, h2, h3, h4, hxe, rfl, hr, hm, he⟩
      · clear hmv
        have a3 := Tryz.asR_B
        have hx5 : Nd.kind x ≠ 5 := by rw [hxe]; show k' ≠ 5; omega
        have hone := hide (flat1_one (d := d) hx5)
        have hsm2 : n + 1 ≤ 60 := by
          have h1 := hle.out
          rw [hstp.out, hone.out, List.length_append, List.length_singleton, ← hlen.out] at h1
          omega
        have hA1 := below_alloc1 wr (.cells #[.slice none 0 0] 148)
        have hown := hto.out.1
        rw [← hlen.out] at hown
        have HO := hide ((hown.alloc (.cells #[.slice none 0 0] 148)).alloc (.cells #[.iface 91 (.agg #[.int .i64 k'])] 70))
        have hcn : Hid (∀ j v, ([.iface 91 (.agg #[.int .i64 k'])] : List Value)[j]? = some v → ((wr.alloc (.cells #[.slice none 0 0] 148)).alloc (.cells #[.iface 91 (.agg #[.int .i64 k'])] 70)).cell? ((⟨wr.heap.size + 1, 0, none⟩ : Addr).add j) = some v) := by
          have h := cell_one_new (wr.alloc (.cells #[.slice none 0 0] 148)) (.iface 91 (.agg #[.int .i64 k'])) 70
          rw [World.size_alloc] at h
          exact h
        have hrow1 : ∀ g, (Value.slice la n lc).ownBlock = some g → w.heap.size ≤ g := fun g hg => (hown.lt g hg).1
        have hstep : Hid (∀ sv' w2, w2.ownsRow w.heap.size 70 1 sv' (n + 1) (vs' ++ [.iface 91 (.agg #[.int .i64 k'])]) → ((wr.alloc (.cells #[.slice none 0 0] 148)).alloc (.cells #[.iface 91 (.agg #[.int .i64 k'])] 70)).grownBy w2 (Value.slice la n lc).ownBlock →
            ∃ a c, sv' = .slice a (n + 1) c ∧ n + 1 = (flatL d (xs.take (k + 1))).length ∧ GF S w.heap.size w2 sv' (flatL d (xs.take (k + 1))) (vs' ++ [.iface 91 (.agg #[.int .i64 k'])]) ∧ Below w.heap.size w w2) := by
          intro sv' w2 o1 o2
          have hz2 : wr.heap.size + 2 ≤ w2.heap.size := Nat.le_trans (by simp) o2.size
          have hblk : ∀ b, b < w.heap.size → w2.heap[b]? = wr.heap[b]? := fun b hb => ((o2.block b (by simp; omega) (fun c => by have := hrow1 b c.symm; omega)).trans (Below.heap_alloc _ _ _ (by simp; omega))).trans (Below.heap_alloc _ _ _ (by omega))
          have heq : flatL d (xs.take k) ++ [x] = flatL d (xs.take (k + 1)) := by rw [hstp.out, hone.out]
          have hg := hto.out.grow (ys := [x]) (us := [.iface 91 (.agg #[.int .i64 k'])]) (fun b hb => hblk b (hSw b hb)) (fun j y v hy hv => by
            cases j with
            | zero => cases hy; cases hv; exact htr.out
            | succ j => simp at hy) (by rw [← hlen.out]; exact o1)
          rw [heq] at hg
          have hl1 : n + 1 = (flatL d (xs.take (k + 1))).length := by rw [← heq, List.length_append, List.length_singleton, ← hlen.out]
          obtain ⟨a, c, e⟩ := hg.slice
          rw [← hl1] at e
          exact ⟨a, c, e, hl1, hg, ⟨o2.os.trans hbr.out.os, o2.tape.trans hbr.out.tape, o2.output.trans hbr.out.output, by omega, fun b hb => (hblk b hb).trans (hbr.out.block b hb)⟩⟩
        obtain ⟨i0, hi, hz0, hz1, hz2⟩ := info_parts Tryz.infoTree
        clear hto hbr hown htr hx5 hxe hA1 hrow1 hle hstp hone hlen hrow
        go_wp2_with (at_builtin; refine wpList_append_own_at _ rfl _ _ 92 rfl w.heap.size 70 i0 .nilIface 1 16 Tryz.underlying92 hi hz0 hz1 hz2 rfl (by decide) _ _ _ rfl HO.out ⟨wr.heap.size + 1, 0, none⟩ 1 1 [.iface 91 (.agg #[.int .i64 k'])] rfl rfl hcn.out ?c2 ?c3 ?c4 ?c5 ?_)
        case c2 => intro y hy; simp at hy; subst hy; rfl
        case c3 => unfold maxLen; omega
        case c4 => omega
        case c5 => simp; omega
        · intro sv' w2 o1 o2 _ o3
          have HH := hide (hstep.out sv' w2 o1 o2)
          clear o1 o2 o3 hstep HO hcn hi hz0 hz1 hz2
          obtain ⟨a2, c2, rfl, hl1, hg2, hb2⟩ := HH.out
          have HL := hide hl1
          have HG := hide hg2
          have HB2 := hide hb2
          clear HH hl1 hg2 hb2
          go_wp2_with fail
          go_roundw
          case rel => exact ⟨k + 1, n + 1, a2, c2, _, by omega, rfl, by go_num, hsm2, HL, HG, HB2⟩
          case measure => simp [intOf]; omega
      · clear hmv
        have a3 := Tryz.asR_N
        have hx5 : Nd.kind x ≠ 5 := by rw [hxe]; show (3 : Int) ≠ 5; omega
        have hone := hide (flat1_one (d := d) hx5)
        have hsm2 : n + 1 ≤ 60 := by
          have h1 := hle.out
          rw [hstp.out, hone.out, List.length_append, List.length_singleton, ← hlen.out] at h1
          omega
        have hA1 := below_alloc1 wr (.cells #[.slice none 0 0] 148)
        have hown := hto.out.1
        rw [← hlen.out] at hown
        have HO := hide ((hown.alloc (.cells #[.slice none 0 0] 148)).alloc (.cells #[.iface 157 (.agg #[.int .i64 n'])] 70))
        have hcn : Hid (∀ j v, ([.iface 157 (.agg #[.int .i64 n'])] : List Value)[j]? = some v → ((wr.alloc (.cells #[.slice none 0 0] 148)).alloc (.cells #[.iface 157 (.agg #[.int .i64 n'])] 70)).cell? ((⟨wr.heap.size + 1, 0, none⟩ : Addr).add j) = some v) := by
          have h := cell_one_new (wr.alloc (.cells #[.slice none 0 0] 148)) (.iface 157 (.agg #[.int .i64 n'])) 70
          rw [World.size_alloc] at h
          exact h
        have hrow1 : ∀ g, (Value.slice la n lc).ownBlock = some g → w.heap.size ≤ g := fun g hg => (hown.lt g hg).1
        have hstep : Hid (∀ sv' w2, w2.ownsRow w.heap.size 70 1 sv' (n + 1) (vs' ++ [.iface 157 (.agg #[.int .i64 n'])]) → ((wr.alloc (.cells #[.slice none 0 0] 148)).alloc (.cells #[.iface 157 (.agg #[.int .i64 n'])] 70)).grownBy w2 (Value.slice la n lc).ownBlock →
            ∃ a c, sv' = .slice a (n + 1) c ∧ n + 1 = (flatL d (xs.take (k + 1))).length ∧ GF S w.heap.size w2 sv' (flatL d (xs.take (k + 1))) (vs' ++ [.iface 157 (.agg #[.int .i64 n'])]) ∧ Below w.heap.size w w2) := by
          intro sv' w2 o1 o2
          have hz2 : wr.heap.size + 2 ≤ w2.heap.size := Nat.le_trans (by simp) o2.size
          have hblk : ∀ b, b < w.heap.size → w2.heap[b]? = wr.heap[b]? := fun b hb => ((o2.block b (by simp; omega) (fun c => by have := hrow1 b c.symm; omega)).trans (Below.heap_alloc _ _ _ (by simp; omega))).trans (Below.heap_alloc _ _ _ (by omega))
          have heq : flatL d (xs.take k) ++ [x] = flatL d (xs.take (k + 1)) := by rw [hstp.out, hone.out]
          have hg := hto.out.grow (ys := [x]) (us := [.iface 157 (.agg #[.int .i64 n'])]) (fun b hb => hblk b (hSw b hb)) (fun j y v hy hv => by
            cases j with
            | zero => cases hy; cases hv; exact htr.out
            | succ j => simp at hy) (by rw [← hlen.out]; exact o1)
          rw [heq] at hg
          have hl1 : n + 1 = (flatL d (xs.take (k + 1))).length := by rw [← heq, List.length_append, List.length_singleton, ← hlen.out]
          obtain ⟨a, c, e⟩ := hg.slice
          rw [← hl1] at e
          exact ⟨a, c, e, hl1, hg, ⟨o2.os.trans hbr.out.os, o2.tape.trans hbr.out.tape, o2.output.trans hbr.out.output, by omega, fun b hb => (hblk b hb).trans (hbr.out.block b hb)⟩⟩
        obtain ⟨i0, hi, hz0, hz1, hz2⟩ := info_parts Tryz.infoTree
        clear hto hbr hown htr hx5 hxe hA1 hrow1 hle hstp hone hlen hrow
        go_wp2_with (at_builtin; refine wpList_append_own_at _ rfl _ _ 92 rfl w.heap.size 70 i0 .nilIface 1 16 Tryz.underlying92 hi hz0 hz1 hz2 rfl (by decide) _ _ _ rfl HO.out ⟨wr.heap.size + 1, 0, none⟩ 1 1 [.iface 157 (.agg #[.int .i64 n'])] rfl rfl hcn.out ?c2 ?c3 ?c4 ?c5 ?_)
        case c2 => intro y hy; simp at hy; subst hy; rfl
        case c3 => unfold maxLen; omega
        case c4 => omega
        case c5 => simp; omega
        · intro sv' w2 o1 o2 _ o3
          have HH := hide (hstep.out sv' w2 o1 o2)
          clear o1 o2 o3 hstep HO hcn hi hz0 hz1 hz2
          obtain ⟨a2, c2, rfl, hl1, hg2, hb2⟩ := HH.out
          have HL := hide hl1
          have HG := hide hg2
          have HB2 := hide hb2
          clear HH hl1 hg2 hb2
          go_wp2_with fail
          go_roundw
          case rel => exact ⟨k + 1, n + 1, a2, c2, _, by omega, rfl, by go_num, hsm2, HL, HG, HB2⟩
          case measure => simp [intOf]; omega
      · clear hmv
        have a3 := Tryz.asR_S
        have hx5 : Nd.kind x ≠ 5 := by rw [hxe]; show (4 : Int) ≠ 5; omega
        have hone := hide (flat1_one (d := d) hx5)
        have hsm2 : n + 1 ≤ 60 := by
          have h1 := hle.out
          rw [hstp.out, hone.out, List.length_append, List.length_singleton, ← hlen.out] at h1
          omega
        have hA1 := below_alloc1 wr (.cells #[.slice none 0 0] 148)
        have hown := hto.out.1
        rw [← hlen.out] at hown
        have HO := hide ((hown.alloc (.cells #[.slice none 0 0] 148)).alloc (.cells #[.iface 155 (.agg #[.string s'])] 70))
        have hcn : Hid (∀ j v, ([.iface 155 (.agg #[.string s'])] : List Value)[j]? = some v → ((wr.alloc (.cells #[.slice none 0 0] 148)).alloc (.cells #[.iface 155 (.agg #[.string s'])] 70)).cell? ((⟨wr.heap.size + 1, 0, none⟩ : Addr).add j) = some v) := by
          have h := cell_one_new (wr.alloc (.cells #[.slice none 0 0] 148)) (.iface 155 (.agg #[.string s'])) 70
          rw [World.size_alloc] at h
          exact h
        have hrow1 : ∀ g, (Value.slice la n lc).ownBlock = some g → w.heap.size ≤ g := fun g hg => (hown.lt g hg).1
        have hstep : Hid (∀ sv' w2, w2.ownsRow w.heap.size 70 1 sv' (n + 1) (vs' ++ [.iface 155 (.agg #[.string s'])]) → ((wr.alloc (.cells #[.slice none 0 0] 148)).alloc (.cells #[.iface 155 (.agg #[.string s'])] 70)).grownBy w2 (Value.slice la n lc).ownBlock →
            ∃ a c, sv' = .slice a (n + 1) c ∧ n + 1 = (flatL d (xs.take (k + 1))).length ∧ GF S w.heap.size w2 sv' (flatL d (xs.take (k + 1))) (vs' ++ [.iface 155 (.agg #[.string s'])]) ∧ Below w.heap.size w w2) := by
          intro sv' w2 o1 o2
          have hz2 : wr.heap.size + 2 ≤ w2.heap.size := Nat.le_trans (by simp) o2.size
          have hblk : ∀ b, b < w.heap.size → w2.heap[b]? = wr.heap[b]? := fun b hb => ((o2.block b (by simp; omega) (fun c => by have := hrow1 b c.symm; omega)).trans (Below.heap_alloc _ _ _ (by simp; omega))).trans (Below.heap_alloc _ _ _ (by omega))
          have heq : flatL d (xs.take k) ++ [x] = flatL d (xs.take (k + 1)) := by rw [hstp.out, hone.out]
          have hg := hto.out.grow (ys := [x]) (us := [.iface 155 (.agg #[.string s'])]) (fun b hb => hblk b (hSw b hb)) (fun j y v hy hv => by
            cases j with
            | zero => cases hy; cases hv; exact htr.out
            | succ j => simp at hy) (by rw [← hlen.out]; exact o1)
          rw [heq] at hg
          have hl1 : n + 1 = (flatL d (xs.take (k + 1))).length := by rw [← heq, List.length_append, List.length_singleton, ← hlen.out]
          obtain ⟨a, c, e⟩ := hg.slice
          rw [← hl1] at e
          exact ⟨a, c, e, hl1, hg, ⟨o2.os.trans hbr.out.os, o2.tape.trans hbr.out.tape, o2.output.trans hbr.out.output, by omega, fun b hb => (hblk b hb).trans (hbr.out.block b hb)⟩⟩
        obtain ⟨i0, hi, hz0, hz1, hz2⟩ := info_parts Tryz.infoTree
        clear hto hbr hown htr hx5 hxe hA1 hrow1 hle hstp hone hlen hrow
        go_wp2_with (at_builtin; refine wpList_append_own_at _ rfl _ _ 92 rfl w.heap.size 70 i0 .nilIface 1 16 Tryz.underlying92 hi hz0 hz1 hz2 rfl (by decide) _ _ _ rfl HO.out ⟨wr.heap.size + 1, 0, none⟩ 1 1 [.iface 155 (.agg #[.string s'])] rfl rfl hcn.out ?c2 ?c3 ?c4 ?c5 ?_)
        case c2 => intro y hy; simp at hy; subst hy; rfl
        case c3 => unfold maxLen; omega
        case c4 => omega
        case c5 => simp; omega
        · intro sv' w2 o1 o2 _ o3
          have HH := hide (hstep.out sv' w2 o1 o2)
          clear o1 o2 o3 hstep HO hcn hi hz0 hz1 hz2
          obtain ⟨a2, c2, rfl, hl1, hg2, hb2⟩ := HH.out
          have HL := hide hl1
          have HG := hide hg2
          have HB2 := hide hb2
          clear HH hl1 hg2 hb2
          go_wp2_with fail
          go_roundw
          case rel => exact ⟨k + 1, n + 1, a2, c2, _, by omega, rfl, by go_num, hsm2, HL, HG, HB2⟩
          case measure => simp [intOf]; omega
      · have a3 := Tryz.asR_R
        obtain ⟨sa, sc, rfl, _⟩ := hr.open'
        have hone : Hid (flat1 d x = ys.map (up d)) := by
          show flat1 d x = ys.map (up d)
          rw [flat1_row (by rw [hxe]), hxe]
        have hA1 := below_alloc1 wr (.cells #[.slice sa ys.length sc] 148)
        have hSr : Within S wr := hSw.later hsz
        have hrA := (hr.moved (At' := TreeG S (wr.alloc (.cells #[.slice sa ys.length sc] 148)) d) (hSr.same hA1) (fun _ h => h) (fun x u hx => TreeG.moved (hSr.same hA1) (fun _ h => h) d x u hx)).up (At' := TreeG S (wr.alloc (.cells #[.slice sa ys.length sc] 148)) (d + 1)) (up d) (fun y u hy => TreeG.up d y u hy)
        have htoA := hto.out.later hA1 hSr
        have hsm2 : (flatL d (xs.take k)).length + (ys.map (up d)).length ≤ 60 := by
          have h1 := hle.out
          rw [hstp.out, hone.out, List.length_append] at h1
          exact Nat.le_trans h1 hf60
        have hrun := hide (fun ty => run_append_onto_trees htoA hSw (Nat.le_trans hsz hA1.size) (ys.map (up d)) sa sc ys.length ty (by rw [List.length_map]) hrA (by omega))
        have hstep : Hid (∀ ty, ∃ v' w', (Builtin.append_ #[92, 92] ty #[.slice la n lc, .slice sa ys.length sc]).run Tryz.prog (wr.alloc (.cells #[.slice sa ys.length sc] 148)) = .ok v' w' ∧ Hid (∃ n' a c vs', v' = .slice a n' c ∧ n' ≤ 60 ∧ n' = (flatL d (xs.take (k + 1))).length ∧ GF S w.heap.size w' v' (flatL d (xs.take (k + 1))) vs' ∧ Below w.heap.size w w')) := by
          intro ty
          obtain ⟨lv', w2, hr2, ⟨vs2, hv2⟩, hgr, a2, c2, e⟩ := hrun.out ty
          have hrow1 : ∀ g, (Value.slice la n lc).ownBlock = some g → w.heap.size ≤ g := fun g hg => (hto.out.1.lt g hg).1
          have hb3 := below_trans hbr.out hA1
          refine ⟨lv', w2, hr2, _, a2, c2, vs2, e, by omega, ?_, ?_, ?_⟩
          · rw [hstp.out, hone.out, List.length_append]
          · rw [hstp.out, hone.out]; exact hv2
          · exact ⟨hgr.os.trans hb3.os, hgr.tape.trans hb3.tape, hgr.output.trans hb3.output, Nat.le_trans hb3.size hgr.size, fun b hb => (hgr.block b (Nat.lt_of_lt_of_le hb hb3.size) (fun e => by have := hrow1 b e.symm; omega)).trans (hb3.block b hb)⟩
        clear hto hbr hr hrA htoA hsm2 hrun hle hstp hone htr hmv hA1 hlen hrow hSr hxe
        go_wp2_with (at_builtin; refine wpList_append_run (fun v' w' => Hid (∃ n' a c vs', v' = .slice a n' c ∧ n' ≤ 60 ∧ n' = (flatL d (xs.take (k + 1))).length ∧ GF S w.heap.size w' v' (flatL d (xs.take (k + 1))) vs' ∧ Below w.heap.size w w')) rfl _ _ 92 rfl (.slice la n lc) (.slice sa ys.length sc) rfl rfl (hstep.out 92) ?_)
        rintro v' w2 hph
        obtain ⟨n', ⟨a2, c2, rfl⟩, hn', g2, ⟨vs2, g3⟩, g4⟩ := hph.out
        have hl' := hide g2
        have hV := hide g3
        have hB' := hide g4
        clear hph hstep g2 g3 g4
        go_wp2_with fail
        go_roundw
        case rel => exact ⟨k + 1, n', a2, c2, vs2, by omega, rfl, by go_num, hn', hl', hV, hB'⟩
        case measure => simp [intOf]; omega
      · clear hmv he hm hr h4 h3 h2
        have a3 := Tryz.asR_M
        have hx5 : Nd.kind x ≠ 5 := by rw [hxe]; show (6 : Int) ≠ 5; omega
        have hone := hide (flat1_one (d := d) hx5)
        have hsm2 : n + 1 ≤ 60 := by
          have h1 := hle.out
          rw [hstp.out, hone.out, List.length_append, List.length_singleton, ← hlen.out] at h1
          omega
        have hA1 := below_alloc1 wr (.cells #[.slice none 0 0] 148)
        have hown := hto.out.1
        rw [← hlen.out] at hown
        have HO := hide ((hown.alloc (.cells #[.slice none 0 0] 148)).alloc (.cells #[.iface 145 (.agg #[.map (some r)])] 70))
        have hcn : Hid (∀ j v, ([.iface 145 (.agg #[.map (some r)])] : List Value)[j]? = some v → ((wr.alloc (.cells #[.slice none 0 0] 148)).alloc (.cells #[.iface 145 (.agg #[.map (some r)])] 70)).cell? ((⟨wr.heap.size + 1, 0, none⟩ : Addr).add j) = some v) := by
          have h := cell_one_new (wr.alloc (.cells #[.slice none 0 0] 148)) (.iface 145 (.agg #[.map (some r)])) 70
          rw [World.size_alloc] at h
          exact h
        have hrow1 : ∀ g, (Value.slice la n lc).ownBlock = some g → w.heap.size ≤ g := fun g hg => (hown.lt g hg).1
        have hstep : Hid (∀ sv' w2, w2.ownsRow w.heap.size 70 1 sv' (n + 1) (vs' ++ [.iface 145 (.agg #[.map (some r)])]) → ((wr.alloc (.cells #[.slice none 0 0] 148)).alloc (.cells #[.iface 145 (.agg #[.map (some r)])] 70)).grownBy w2 (Value.slice la n lc).ownBlock →
            ∃ a c, sv' = .slice a (n + 1) c ∧ n + 1 = (flatL d (xs.take (k + 1))).length ∧ GF S w.heap.size w2 sv' (flatL d (xs.take (k + 1))) (vs' ++ [.iface 145 (.agg #[.map (some r)])]) ∧ Below w.heap.size w w2) := by
          intro sv' w2 o1 o2
          have hz2 : wr.heap.size + 2 ≤ w2.heap.size := Nat.le_trans (by simp) o2.size
          have hblk : ∀ b, b < w.heap.size → w2.heap[b]? = wr.heap[b]? := fun b hb => ((o2.block b (by simp; omega) (fun c => by have := hrow1 b c.symm; omega)).trans (Below.heap_alloc _ _ _ (by simp; omega))).trans (Below.heap_alloc _ _ _ (by omega))
          have heq : flatL d (xs.take k) ++ [x] = flatL d (xs.take (k + 1)) := by rw [hstp.out, hone.out]
          have hg := hto.out.grow (ys := [x]) (us := [.iface 145 (.agg #[.map (some r)])]) (fun b hb => hblk b (hSw b hb)) (fun j y v hy hv => by
            cases j with
            | zero => cases hy; cases hv; exact htr.out
            | succ j => simp at hy) (by rw [← hlen.out]; exact o1)
          rw [heq] at hg
          have hl1 : n + 1 = (flatL d (xs.take (k + 1))).length := by rw [← heq, List.length_append, List.length_singleton, ← hlen.out]
          obtain ⟨a, c, e⟩ := hg.slice
          rw [← hl1] at e
          exact ⟨a, c, e, hl1, hg, ⟨o2.os.trans hbr.out.os, o2.tape.trans hbr.out.tape, o2.output.trans hbr.out.output, by omega, fun b hb => (hblk b hb).trans (hbr.out.block b hb)⟩⟩
        obtain ⟨i0, hi, hz0, hz1, hz2⟩ := info_parts Tryz.infoTree
        clear hto hbr hown htr hx5 hxe hA1 hrow1 hle hstp hone hlen hrow
        go_wp2_with (at_builtin; refine wpList_append_own_at _ rfl _ _ 92 rfl w.heap.size 70 i0 .nilIface 1 16 Tryz.underlying92 hi hz0 hz1 hz2 rfl (by decide) _ _ _ rfl HO.out ⟨wr.heap.size + 1, 0, none⟩ 1 1 [.iface 145 (.agg #[.map (some r)])] rfl rfl hcn.out ?c2 ?c3 ?c4 ?c5 ?_)
        case c2 => intro y hy; simp at hy; subst hy; rfl
        case c3 => unfold maxLen; omega
        case c4 => omega
        case c5 => simp; omega
        · intro sv' w2 o1 o2 _ o3
          have HH := hide (hstep.out sv' w2 o1 o2)
          clear o1 o2 o3 hstep HO hcn hi hz0 hz1 hz2
          obtain ⟨a2, c2, rfl, hl1, hg2, hb2⟩ := HH.out
          have HL := hide hl1
          have HG := hide hg2
          have HB2 := hide hb2
          clear HH hl1 hg2 hb2
          go_wp2_with fail
          go_roundw
          case rel => exact ⟨k + 1, n + 1, a2, c2, _, by omega, rfl, by go_num, hsm2, HL, HG, HB2⟩
          case measure => simp [intOf]; omega
    · obtain rfl : k = xs.length := by omega
      have hall : xs.take xs.length = xs := List.take_of_length_le (Nat.le_refl _)
      have hto' := hto.out
      rw [hall] at hto'
      have HG : Hid (TreeG (fun b => N ≤ b ∧ b < wr.heap.size) wr (d + 2) (rowT (d + 1) (flatL d xs)) (.iface 148 (.agg #[.slice la n lc]))) := hto'.tree (by omega) hN (fun b hb => ⟨hSN b hb, Nat.lt_of_lt_of_le (hSw b hb) hsz⟩)
      have HB : Hid (Below N w wr) := hbr.out.mono hN
      clear hto hto' hall hlen hbr hrow0
      go_wp2_with fail
      go_ret2
      exact ⟨HB.out, Or.inl ⟨_, _, rfl, rfl, HG.out⟩⟩

set_option maxRecDepth 100000 in
set_option maxHeartbeats 2000000 in
theorem implRowFlat_any (d : Nat) (S : Nat → Prop) (t : Tr (d + 1 + 1)) (v : Value) (w : World) (hv : ValAt S w (d + 1 + 1) t v) (hS : Within S w) (hg : ErrType w) :
    Calls Tryz.prog 27 #[v] w (TellQ (d + 1) (rowTell (flatF d) t).1 (rowTell (flatF d) t).2 w) := by
  obtain ⟨k, n, s, ak, lk, ck, al, ll, cl, rfl⟩ := hv.shape
  obtain ⟨W0, hW⟩ : ∃ W0, W0 = (w.alloc (.cells #[.int .i64 k, .int .i64 n, .string s, .slice ak lk ck, .slice al ll cl] 26)).alloc (.cells #[.int .i64 0, .int .i64 0, .string { data := #[] }, .slice none 0 0, .slice none 0 0] 26) := ⟨_, rfl⟩
  have hW0 : Below w.heap.size w W0 := by rw [hW]; exact below_trans (below_alloc1 _ _) (below_alloc1 _ _)
  have k1 : Blk5 W0 (w.heap.size + 1) 26 (.int .i64 0) (.int .i64 0) (.string { data := #[] }) (.slice none 0 0) (.slice none 0 0) := by
    have := Blk5.new (w.alloc (.cells #[.int .i64 k, .int .i64 n, .string s, .slice ak lk ck, .slice al ll cl] 26)) 26 (.int .i64 0) (.int .i64 0) (.string { data := #[] }) (.slice none 0 0) (.slice none 0 0)
    rw [World.size_alloc] at this
    rw [hW]
    exact this
  have hcall := hide (ofRow_flatRow (d + 1) (d + 1) S t _ (flatF d) W0 (hv.same (hS.same hW0)) (hS.later hW0.size) (hg.below hW0) (fun N xs a cap vs w1 hrow hto _ hN _ => flatRow_any d N xs a cap vs w1 hto hN (by obtain ⟨hok, _, rfl⟩ := treesL_some hrow; exact (okT_kinds hok).2.1) (by obtain ⟨hok, _, rfl⟩ := treesL_some hrow; exact flat_len hok)))
  have HW := hide hW
  have hlt := k1.lt
  clear hW hv
  go_enter Tryz.func27, Tryz.ntmps27
  go_wp2_with fail
  rw [← HW.out]
  clear HW
  refine Calls.mono hcall.out ?_
  rintro e w1 ⟨r, rfl, hr, hb1⟩
  obtain ⟨v0, v1, v2, v3, v4, v5, v6, v7, v8, rfl⟩ := (ValOwn.at _ _ _ _ hr).shape
  have HF := hide (tell_end hr (below_trans hW0 hb1) (by omega) hlt)
  have k3 := k1.below hb1
  obtain ⟨y0, y1, y2, y3, y4⟩ := k3.cell
  have yf := k3.frozen
  clear hr hb1 k3 k1 hcall hW0
  go_wp2_with fail
  refine bodyPost_ret (v := .tuple #[.agg #[.int .i64 v0, .int .i64 v1, .string v2, .slice v3 v4 v5, .slice v6 v7 v8], .bool (rowTell (flatF d) t).2]) (by simp [results, Tryz.results27, go_sem, y0, y1, y2, y3, y4]) rfl ⟨_, rfl, (HF.out _ rfl).1, (HF.out _ rfl).2⟩
end Go.Proofs.YtmibjmipndffmaaGreatDoor
