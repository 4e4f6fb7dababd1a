/- Texts of the proof, put together by program: LAddI, WDrawP, WBackS. -/
import Derived.Test.YtilgbnnjecpneaaGreatDoorU23
import Derived.Test.YtilgbnnjecpneaaGreatDoorU11
import Derived.Test.YtilgbnnjecpneaaGreatDoorU25
import Derived.Test.YtilgbnnjecpneaaGreatDoorU21
import Derived.Test.YtilgbnnjecpneaaGreatDoorU22
/- The laws of PartAdd: what the program's calls give. -/
namespace Go.Proofs.YtilgbnnjecpneaaGreatDoor
open Go.RowKit Go.Deep

theorem addI {d : Nat} {w W : World} {a b : Tr (d + 1)} {v u : Value} (h : ValAt (FreshP w W) W (d + 1) a v) (hx : ValAt (FreshP w W) W (d + 1) b u) (hg : ErrType W) (hl : w.heap.size ≤ W.heap.size) :
    Calls Tryz.prog 27 #[v, u] W (TQ w (d + 1) (partAddT d a b).1 (partAddT d a b).2 W) := (implPartAdd_any d _ a v _ b u W h within_P hx within_P hg).mono (fun _ _ h => tq_of hl h)
end Go.Proofs.YtilgbnnjecpneaaGreatDoor

/- What the laws of rows draw: a row. -/
namespace Go.Proofs.YtilgbnnjecpneaaGreatDoor
open Go.RowKit Go.Deep

/-- Plain blocks from N on, but for the row's own. -/
def InR (N : Nat) (w : World) (lv : Value) (b : Nat) : Prop := N ≤ b ∧ b < w.heap.size ∧ Plain w b ∧ lv.ownBlock ≠ some b
/-- A row in the making. -/
structure RTo {d : Nat} (N r : Nat) (w : World) (lv : Value) (xs : List (Tr d)) (vs : List Value) : Prop where
  vown : w.ownsRow N 29 5 lv xs.length vs
  trees : ∀ (j : Nat) (x : Tr d), xs[j]? = some x → ∃ c0 c1 c2 c3 c4, vs[j * 5]? = some c0 ∧ vs[j * 5 + 1]? = some c1 ∧ vs[j * 5 + 2]? = some c2 ∧ vs[j * 5 + 3]? = some c3 ∧ vs[j * 5 + 4]? = some c4 ∧ ValAt (InR N w lv) w d x (.agg #[c0, c1, c2, c3, c4])
  rN : r < N
  NS : N ≤ w.heap.size
theorem RTo.start {d r : Nat} (w : World) (h : r < w.heap.size) : RTo (d := d) w.heap.size r (w.alloc (.cells #[] 29)) (.slice (some ⟨w.heap.size, 0, none⟩) 0 0) [] [] :=
  ⟨⟨rfl, Or.inr ⟨w.heap.size, 0, #[], rfl, Nat.le_refl _, heap_alloc_new w _, Nat.le_refl _, Nat.zero_le _, rfl, rfl⟩⟩, fun j x hx => by simp at hx, h, by simp⟩
theorem RTo.moved {d N r : Nat} {w w' : World} {lv : Value} {xs : List (Tr d)} {vs : List Value} (h : RTo N r w lv xs vs) (hb : But r w w') : RTo N r w' lv xs vs := by
  have hN := h.rN
  have hS := h.NS
  have hz : w.heap.size ≤ w'.heap.size := hb.size
  have hbl : ∀ b, N ≤ b → b < w.heap.size → w'.heap[b]? = w.heap[b]? := fun b h1 h2 => hb.block b h2 (fun e => by cases e; omega)
  refine ⟨owns_moved h.vown (fun g hg => ?_) (Nat.le_refl _), fun j x hx => ?_, hN, by omega⟩
  · have := h.vown.lt g hg
    exact hbl g this.1 this.2
  · obtain ⟨c0, c1, c2, c3, c4, e0, e1, e2, e3, e4, hv⟩ := h.trees j x hx
    exact ⟨c0, c1, c2, c3, c4, e0, e1, e2, e3, e4, ValAt.moved (fun b hb' => hbl b hb'.1 hb'.2.1) (fun b hb' => ⟨hb'.1, by have := hb'.2.1; omega, hb'.2.2.1.of_block (hbl b hb'.1 hb'.2.1), hb'.2.2.2⟩) d x _ hv⟩
theorem RTo.push {d N r : Nat} {w1 w2 : World} {lv lv' : Value} {xs : List (Tr d)} {vs : List Value} {x : Tr d} {v0 v1 v2 v3 v4 : Value} {o : Obj} (h : RTo N r w1 lv xs vs) (hx : ValAt (InR N w1 lv) w1 d x (.agg #[v0, v1, v2, v3, v4]))
    (hown : w2.ownsRow N 29 5 lv' (xs.length + 1) (vs ++ [v0, v1, v2, v3, v4])) (hg : (w1.alloc o).grownBy w2 lv.ownBlock) (hw : lv'.ownBlock = lv.ownBlock ∨ lv'.ownBlock = some (w1.alloc o).heap.size) : RTo N r w2 lv' (xs ++ [x]) (vs ++ [v0, v1, v2, v3, v4]) := by
  have hS := h.NS
  have hz1 : (w1.alloc o).heap.size = w1.heap.size + 1 := by simp
  have hz : w1.heap.size + 1 ≤ w2.heap.size := by have := hg.size; omega
  have hbl : ∀ b, b < w1.heap.size → lv.ownBlock ≠ some b → w2.heap[b]? = w1.heap[b]? := fun b h1 h2 => (hg.block b (by omega) (fun e => h2 e.symm)).trans (Below.heap_alloc _ _ _ h1)
  have hmv : ∀ y u, ValAt (InR N w1 lv) w1 d y u → ValAt (InR N w2 lv') w2 d y u := fun y u hy => by
    refine ValAt.moved (fun b hb' => hbl b hb'.2.1 hb'.2.2.2) (fun b hb' => ⟨hb'.1, by have := hb'.2.1; omega, hb'.2.2.1.of_block (hbl b hb'.2.1 hb'.2.2.2), ?_⟩) d y _ hy
    rcases hw with hw | hw
    · rw [hw]; exact hb'.2.2.2
    · rw [hw, hz1]
      intro he
      have := Option.some.inj he
      have := hb'.2.1
      omega
  have hlen : vs.length = xs.length * 5 := h.vown.1
  refine ⟨by rw [List.length_append]; exact hown, fun j y hy => ?_, h.rN, by omega⟩
  by_cases e : j < xs.length
  · rw [List.getElem?_append_left e] at hy
    obtain ⟨c0, c1, c2, c3, c4, e0, e1, e2, e3, e4, hv⟩ := h.trees j y hy
    refine ⟨c0, c1, c2, c3, c4, ?_, ?_, ?_, ?_, ?_, hmv _ _ hv⟩
    · rw [List.getElem?_append_left (by omega)]; exact e0
    · rw [List.getElem?_append_left (by omega)]; exact e1
    · rw [List.getElem?_append_left (by omega)]; exact e2
    · rw [List.getElem?_append_left (by omega)]; exact e3
    · rw [List.getElem?_append_left (by omega)]; exact e4
  · have hj : j = xs.length := by
      have := (List.getElem?_eq_some_iff.1 hy).1
      rw [List.length_append, List.length_singleton] at this
      omega
    subst hj
    rw [List.getElem?_append_right (Nat.le_refl _), Nat.sub_self] at hy
    cases hy
    refine ⟨v0, v1, v2, v3, v4, ?_, ?_, ?_, ?_, ?_, hmv _ _ hx⟩
    · rw [List.getElem?_append_right (by omega), hlen]; simp
    · rw [List.getElem?_append_right (by omega), hlen]; simp
    · rw [List.getElem?_append_right (by omega), hlen]; simp
    · rw [List.getElem?_append_right (by omega), hlen]; simp
    · rw [List.getElem?_append_right (by omega), hlen]; simp
/-- The row, as a tree. -/
def rowE {d : Nat} (xs : List (Tr d)) : Tr (d + 1) := ({ kind := 5, num := 0, str := ⟨#[]⟩, keys := [], list := xs } : Nd (Tr d))
theorem RTo.done {d N r : Nat} {wb w : World} {lv : Value} {xs : List (Tr d)} {vs : List Value} (h : RTo N r w lv xs vs) (hxl : xs.length < 1000) (hN : wb.heap.size < N) : ValAt (FreshQ wb w) w (d + 1) (rowE xs) (.agg #[.int .i64 5, .int .i64 0, .string ByteArray.empty, .slice none 0 0, lv]) := by
  refine ⟨_, _, rfl, ⟨by show _ ≤ (5 : Int); omega, by show (5 : Int) ≤ _; omega⟩, ⟨by show _ ≤ (0 : Int); omega, by show (0 : Int) ≤ _; omega⟩, by show (0 : Nat) < _; omega, ⟨by show (0 : Nat) < _; omega, (fun s hs => by cases hs), none, 0, rfl, Or.inl rfl⟩, ⟨by show xs.length < _; omega, ?_⟩⟩
  rcases h.vown.2 with ⟨e, h0⟩ | ⟨g, cap, cur, e, hg, hh, _⟩
  · exact ⟨none, 0, by show lv = .slice none xs.length 0; rw [e, h0], Or.inl (List.eq_nil_of_length_eq_zero h0)⟩
  · refine ⟨some ⟨g, 0, none⟩, cap, e, Or.inr ⟨g, 0, ⟨by omega, (Array.getElem?_eq_some_iff.1 hh).1, ⟨_, _, hh⟩⟩, rfl, fun i x hx => ?_⟩⟩
    obtain ⟨c0, c1, c2, c3, c4, e0, e1, e2, e3, e4, hv⟩ := h.trees i x hx
    have hi : i < xs.length := (List.getElem?_eq_some_iff.1 hx).1
    have hvo := h.vown
    rw [e] at hvo
    have hc : ∀ j c, j < xs.length * 5 → vs[j]? = some c → w.cell? ⟨g, 0 + j, none⟩ = some c := fun j c hj hc => by
      rw [Nat.zero_add]
      exact (hvo.cellAt j hj).trans hc
    exact ⟨c0, c1, c2, c3, c4, hc _ _ (by omega) e0, hc _ _ (by omega) e1, hc _ _ (by omega) e2, hc _ _ (by omega) e3, hc _ _ (by omega) e4, hv.mono (fun b hb => ⟨by have := hb.1; omega, hb.2.1, hb.2.2.1⟩)⟩
/-- What was drawn is put into the result's own cells. -/
theorem rowD_end {r p p' c B : Nat} {w wX : World} {t : Tr 10} {v0 v1 v2 v3 v4 : Value} (hv : ValAt (FreshQ w wX) wX 10 t (.agg #[v0, v1, v2, v3, v4])) (hB : wtT 10 t ≤ B) (hR : Rd wX r p') (hp : p' ≤ p + c) (hb : But r w wX) (hr : r < w.heap.size) :
    ∀ wF, wF = set5 wX w.heap.size 0 v0 v1 v2 v3 v4 → DrawnV r p c 10 B w (.returned (.agg #[v0, v1, v2, v3, v4])) wF := by
  intro wF hF
  have hs : ∀ b, b ≠ w.heap.size → wF.heap[b]? = wX.heap[b]? := fun b hb' => by rw [hF]; exact set5_block _ _ _ _ _ _ _ _ _ hb'
  have hz : wF.heap.size = wX.heap.size := by rw [hF]; exact set5_size _ _ _ _ _ _ _ _
  have hl : Below w.heap.size wX wF := by rw [hF]; exact below_set5 (Below.refl _ _) (Nat.le_refl _) _ _ _ _ _ _
  have hw : w.heap.size ≤ wX.heap.size := hb.size
  refine ⟨_, t, p', rfl, ValAt.moved (fun b hb' => hs b (by have := hb'.1; omega)) (fun b hb' => ⟨⟨Nat.le_of_lt hb'.1, by rw [hz]; exact hb'.2.1⟩, hb'.2.2.of_block (hs b (by have := hb'.1; omega))⟩) 10 t _ hv, hB, ?_, hp, ⟨hl.os.trans hb.os, hl.tape.trans hb.tape, hl.output.trans hb.output, by rw [hz]; exact hw, fun i hi hn => (hs i (by omega)).trans (hb.block i hi hn)⟩⟩
  obtain ⟨a, n, cap, e1, e2, e3⟩ := hR
  exact ⟨a, n, cap, (hs r (by omega)).trans e1, e2, e3.moved (fun b hb' => hs b (by omega))⟩

set_option maxRecDepth 100000 in
set_option maxHeartbeats 4000000 in
theorem l4RowDraw_any (r p : Nat) (w : World) (h : Rd w r p) (hp : p + 500 ≤ 1000000) :
    Calls Tryz.prog 49 #[.pointer (some ⟨r, 0, none⟩)] w (DrawnV r p 500 10 430 w) := by
  have hr := h.lt
  have hb0 := below_alloc1 w (.cells #[.int .i64 0, .int .i64 0, .string { data := #[] }, .slice none 0 0, .slice none 0 0] 29)
  have kr := res_new w
  have hR0 := h.below hb0
  obtain ⟨W0, HW⟩ : ∃ W0, Hid (W0 = w.alloc (.cells #[.int .i64 0, .int .i64 0, .string { data := #[] }, .slice none 0 0, .slice none 0 0] 29)) := ⟨_, rfl⟩
  have hz0 : w.heap.size < W0.heap.size := by rw [HW.out]; simp
  rw [← HW.out] at hb0 kr hR0
  go_enter Tryz.func49, Tryz.ntmps49
  go_wp2_with fail
  rw [← HW.out]
  refine (pick_any r p 12 W0 hR0 (by omega) (by omega) (by omega)).mono ?_
  rintro e w1 ⟨k1, rfl, k10, k11, h1, b1, z1⟩
  replace kr := kr.butr b1 (by omega)
  have hB1 := (But.of_below hb0).trans b1
  replace hz0 : w.heap.size < w1.heap.size := by omega
  clear hR0 hb0 b1 z1 HW h
  by_cases hk1 : k1 = 0
  · subst hk1
    go_wp2_with fail
    refine (l1Bent_any r (p + 1) w1 h1 (by omega)).mono ?_
    rintro e w2 ⟨u, t, p2, rfl, hv, hw, hR2, hp2, hb2⟩
    obtain ⟨v0, v1, v2, v3, v4, v5, v6, v7, v8, rfl⟩ := hv.shape
    have HF := hide (rowD_end (p := p) (c := 500) (B := 430) (hv.mono (S' := FreshQ w w2) (fun b hb => ⟨by have := hb.1.1; omega, hb.1.2, hb.2⟩)) (by omega) hR2 (by omega) (hB1.trans hb2) hr)
    replace kr := kr.butr hb2 (by omega)
    obtain ⟨y0, y1, y2, y3, y4⟩ := kr.cell
    have yf := kr.frozen
    clear kr hv hb2 h1 hR2 hB1
    go_wp2_with fail
    exact bodyPost_ret (v := .agg #[.int .i64 v0, .int .i64 v1, .string v2, .slice v3 v4 v5, .slice v6 v7 v8]) (by simp [results, Tryz.results49, go_sem, y0, y1, y2, y3, y4]) rfl (HF.out _ rfl)
  · have hk1' : (k1 == 0) = false := by simpa using hk1
    have ha := below_alloc1 w1 (.cells #[] 29)
    have hst0 := RTo.start (d := 3) (r := r) w1 h1.lt
    obtain ⟨W2, HW⟩ : ∃ W2, Hid (W2 = w1.alloc (.cells #[] 29)) := ⟨_, rfl⟩
    rw [← HW.out] at ha hst0
    replace kr := kr.below ha
    have h2 := h1.below ha
    have hB2 := hB1.trans (But.of_below ha)
    clear h1
    go_wp2_with fail
    rw [← HW.out]
    clear HW
    refine (pick_any r (p + 1) 6 W2 h2 (by omega) (by omega) (by omega)).mono ?_
    rintro e w3 ⟨k2, rfl, k20, k21, h3, b3, z3⟩
    replace kr := kr.butr b3 (by omega)
    have hB3 := hB2.trans b3
    have hst : Hid (RTo (d := 3) w1.heap.size r w3 (.slice (some ⟨w1.heap.size, 0, none⟩) 0 0) [] []) := hst0.moved b3
    obtain ⟨n, rfl⟩ := Int.eq_ofNat_of_zero_le k20
    have HS3 := hide (And.intro h3 (And.intro hB3 kr))
    have hn6 : n ≤ 5 := by omega
    clear h2 b3 z3 hB2 ha hst0 kr h3 hB3 hB1
    go_wp2_with fail
    go_loopw [3, 4] (fun out i wr => ∃ (m ln : Nat) (la : Option Addr) (lc : Nat) (xs : List (Tr 3)) (vs : List Value) (p' : Nat), m ≤ 5 ∧ i = .int .i64 (m : Int) ∧ out = .slice la ln lc ∧ Hid (ln = xs.length) ∧ ln + m ≤ 5 ∧ p' + 94 * m ≤ p + 2 + 94 * n ∧ Hid (∀ x ∈ xs, wtT 3 x ≤ 83) ∧ Hid (RTo (d := 3) w1.heap.size r wr (.slice la ln lc) xs vs) ∧ Hid (Rd wr r p' ∧ But r w wr ∧ Blk5 wr w.heap.size 29 (.int .i64 0) (.int .i64 0) (.string { data := #[] }) (.slice none 0 0) (.slice none 0 0))) (fun _ i _ => (intOf i).toNat)
    case atStart => exact ⟨n, 0, _, _, [], [], p + 1 + 1, hn6, rfl, rfl, rfl, by omega, by omega, (fun x hx => by cases hx), hst, HS3⟩
    case round =>
      clear hst HS3
      obtain ⟨m, ln, la, lc, xs, vs, p', hm, rfl, rfl, hln, hxm, hpm, hxw, hto, hall⟩ := hrel
      have hR := hall.out.1
      have hBr := hall.out.2.1
      have krr := hall.out.2.2
      have hNw : w1.heap.size ≤ wr.heap.size := hto.out.NS
      by_cases hm0 : 0 < m
      · have hm0' : (0 : Int) < (m : Int) := by omega
        clear hall
        go_wp2_with fail
        refine (pick_any r p' 3 wr hR (by omega) (by omega) (by omega)).mono ?_
        rintro e w4 ⟨k3, rfl, k30, k31, h4, b4, z4⟩
        have hw3 : wrap64 (1 + k3) = 1 + k3 := by unfold wrap64; omega
        have hB4 := hBr.trans b4
        have kr4 := krr.butr b4 (by omega)
        have hto4 := hto.out.moved b4
        clear hR
        go_wp2_with fail
        refine (l1Val_any 2 r (p' + 1) (1 + k3) w4 h4 (by have : drC 2 ≤ 93 := by decide
                                                          omega) (by omega) (by omega) (by omega)).mono ?_
        rintro e w5 ⟨u, t, p5, rfl, hv, hw, hR5, hp5, hb5⟩
        obtain ⟨u0, u1, u2, u3, u4, u5, u6, u7, u8, rfl⟩ := hv.at.shape
        have hB5 := hB4.trans hb5
        have kr5 := kr4.butr hb5 (by omega)
        have hto5 := hto4.moved hb5
        have hz5 : w4.heap.size ≤ w5.heap.size := hb5.size
        have hx : ValAt (InR w1.heap.size w5 (.slice la ln lc)) w5 3 t (.agg #[.int .i64 u0, .int .i64 u1, .string u2, .slice u3 u4 u5, .slice u6 u7 u8]) := hv.at.mono (fun b hb => ⟨by have := hb.1.1; omega, hb.1.2, hb.2, fun e => by have := (hto4.vown.lt b e).2; have := hb.1.1; omega⟩)
        have hwt : wtT 3 t ≤ 83 := hw
        have hdc : drC 2 ≤ 93 := by decide
        have hown := hto5.vown
        rw [← hln.out] at hown
        have HO := hide (hown.alloc (.cells #[.int .i64 u0, .int .i64 u1, .string u2, .slice u3 u4 u5, .slice u6 u7 u8] 29))
        have hnb : ∀ g, (Value.slice la ln lc).ownBlock = some g → w1.heap.size ≤ g ∧ g < w5.heap.size := fun g hg => hown.lt g hg
        have hstep : Hid (∀ lv' w6, w6.ownsRow w1.heap.size 29 5 lv' (ln + 1) (vs ++ [.int .i64 u0, .int .i64 u1, .string u2, .slice u3 u4 u5, .slice u6 u7 u8]) → (w5.alloc (.cells #[.int .i64 u0, .int .i64 u1, .string u2, .slice u3 u4 u5, .slice u6 u7 u8] 29)).grownBy w6 (Value.slice la ln lc).ownBlock → (lv'.ownBlock = (Value.slice la ln lc).ownBlock ∨ lv'.ownBlock = some (w5.heap.size + 1)) →
            ∃ a c, lv' = .slice a (ln + 1) c ∧ RTo (d := 3) w1.heap.size r w6 lv' (xs ++ [t]) (vs ++ [.int .i64 u0, .int .i64 u1, .string u2, .slice u3 u4 u5, .slice u6 u7 u8]) ∧ Rd w6 r p5 ∧ But r w w6 ∧ Blk5 w6 w.heap.size 29 (.int .i64 0) (.int .i64 0) (.string { data := #[] }) (.slice none 0 0) (.slice none 0 0)) := by
          intro lv' w6 o1 o2 o3
          have hal := below_alloc1 w5 (.cells #[.int .i64 u0, .int .i64 u1, .string u2, .slice u3 u4 u5, .slice u6 u7 u8] 29)
          have hz6 : (w5.alloc (.cells #[.int .i64 u0, .int .i64 u1, .string u2, .slice u3 u4 u5, .slice u6 u7 u8] 29)).heap.size = w5.heap.size + 1 := by simp
          have hbk : ∀ b, b < w1.heap.size → w6.heap[b]? = w5.heap[b]? := fun b hb => (o2.block b (by omega) (fun e => by have := (hnb b e.symm).1; omega)).trans (Below.heap_alloc _ _ _ (by omega))
          have hform : ∃ a c, lv' = .slice a (ln + 1) c := by
            rcases o1.2 with ⟨_, h0⟩ | ⟨g, cap, cur, e, _⟩
            · omega
            · exact ⟨_, _, e⟩
          obtain ⟨a, c, e⟩ := hform
          refine ⟨a, c, e, hto5.push hx (by rw [← hln.out]; exact o1) o2 (by rw [hz6]; exact o3), ?_, ?_, kr5.of_block (hbk _ hz0)⟩
          · obtain ⟨qa, qn, qc, e1, e2, e3⟩ := hR5
            have hrw : r < w1.heap.size := by omega
            exact ⟨qa, qn, qc, (hbk r hrw).trans e1, e2, e3.moved (fun b hb => hbk b (by omega))⟩
          · have hs6 := o2.size
            exact ⟨o2.os.trans (hal.os.trans hB5.os), o2.tape.trans (hal.tape.trans hB5.tape), o2.output.trans (hal.output.trans hB5.output), by have := hB5.size; omega, fun i hi hn => (hbk i (by omega)).trans (hB5.block i hi hn)⟩
        have HLN : Hid (ln + 1 = (xs ++ [t]).length) := by show _ = _; rw [List.length_append, List.length_singleton, hln.out]
        have HXW : Hid (∀ x ∈ xs ++ [t], wtT 3 x ≤ 83) := fun x hx => by
          rcases List.mem_append.1 hx with h | h
          · exact hxw.out x h
          · rw [List.mem_singleton.1 h]; exact hwt
        obtain ⟨i0, hi, hz0', hz1', hz2'⟩ := info_parts Tryz.infoV2
        have hn5 : w1.heap.size ≤ w5.heap.size + 1 := by omega
        clear hv hR5 hb5 hB5 hB4 kr5 kr4 hto5 hto4 hx hown h4 b4 hto hxw krr hBr
        go_wp2_with (at_builtin; refine wpList_append_own_at _ rfl _ _ 27 rfl w1.heap.size 29 i0 zeroVal 5 80 Tryz.underlying27 hi hz0' hz1' hz2' rfl (by decide) _ _ _ rfl HO.out ⟨w5.heap.size, 0, none⟩ 1 1 [.int .i64 u0, .int .i64 u1, .string u2, .slice u3 u4 u5, .slice u6 u7 u8] rfl rfl (cell_five_new _ _ _ _ _ _ _) ?c2 ?c3 ?c4 ?c5 ?_)
        case c2 => intro y hy; simp at hy; rcases hy with rfl | rfl | rfl | rfl | rfl <;> rfl
        case c3 => unfold maxLen; omega
        case c4 => omega
        case c5 => simp; omega
        · intro lv' w6 o1 o2 _ o3
          obtain ⟨a6, c6, e6, g1, g2, g3, g4⟩ := hstep.out lv' w6 o1 o2 o3
          subst e6
          have HT := hide g1
          have HQ := hide (And.intro g2 (And.intro g3 g4))
          clear o1 o2 o3 hstep HO g1 g2 g3 g4 hi hz0' hz1' hz2'
          go_wp2_with fail
          go_roundw
          case rel => exact ⟨m - 1, ln + 1, a6, c6, xs ++ [t], _, p5, by omega, by rw [show (((m - 1 : Nat)) : Int) = (m : Int) - 1 by omega], rfl, HLN, by omega, by omega, HXW, HT, HQ⟩
          case measure => simp [intOf]; omega
      · obtain rfl : m = 0 := by omega
        clear hall
        go_wp2_with fail
        refine (l4Of_any _ _ _ wr).mono ?_
        rintro e w4 ⟨rfl, hb4⟩
        have hto4 := hto.out.moved (But.of_below (rb := r) hb4)
        have hR4 := hR.below hb4
        have hB4 := hBr.trans (But.of_below hb4)
        have kr4 := krr.below hb4
        have hz4 := hb4.size
        have hval := hto4.done (wb := w) (by have := hln.out; omega) (by omega)
        have hwt : wtT 4 (rowE xs) ≤ 430 := by
          show 3 + 0 + (xs.map (wtT 3)).sum ≤ 430
          have := sum_le_all (f := wtT 3) (c := 83) (xs := xs) 5 (by have := hln.out; omega) hxw.out
          omega
        have ha := below_alloc1 w4 (.cells #[.int .i64 5, .int .i64 0, .string ByteArray.empty, .slice none 0 0, .slice la ln lc] 29)
        have kv := Blk5.new w4 29 (.int .i64 5) (.int .i64 0) (.string ByteArray.empty) (.slice none 0 0) (.slice la ln lc)
        obtain ⟨W5, HW5⟩ : ∃ W5, Hid (w4.alloc (.cells #[.int .i64 5, .int .i64 0, .string ByteArray.empty, .slice none 0 0, .slice la ln lc] 29) = W5) := ⟨_, rfl⟩
        rw [HW5.out] at ha kv
        have hz5 := ha.size
        replace hval : ValAt (FreshQ w W5) W5 4 (rowE xs) (.agg #[.int .i64 5, .int .i64 0, .string ByteArray.empty, .slice none 0 0, .slice la ln lc]) := ValAt.moved (fun b hb => ha.block b hb.2.1) (fun b hb => ⟨hb.1, by have := hb.2.1; omega, hb.2.2.of_block (ha.block b hb.2.1)⟩) 4 _ _ hval
        replace kr4 := kr4.below ha
        replace hR4 := hR4.below ha
        replace hB4 := hB4.trans (But.of_below ha)
        clear hto hto4 hR hBr krr hb4 ha
        go_wp2_with fail
        rw [HW5.out]
        clear HW5
        obtain ⟨x0, x1, x2, x3, x4⟩ := kv.cell
        go_wp2_with fail
        refine (specValOk_any 4 (FreshQ w W5) (rowE xs) _ W5 hval (fun b hb => hb.2.1) (by have := nodes_wt' 4 (rowE xs); omega)).mono ?_
        rintro e w6 ⟨rfl, hb6⟩
        have hz6 := hb6.size
        replace kv := kv.below hb6
        replace kr4 := kr4.below hb6
        replace hR4 := hR4.below hb6
        replace hB4 := hB4.trans (But.of_below hb6)
        replace hval : ValAt (FreshQ w w6) w6 4 (rowE xs) (.agg #[.int .i64 5, .int .i64 0, .string ByteArray.empty, .slice none 0 0, .slice la ln lc]) := ValAt.moved (fun b hb => hb6.block b hb.2.1) (fun b hb => ⟨hb.1, by have := hb.2.1; omega, hb.2.2.of_block (hb6.block b hb.2.1)⟩) 4 _ _ hval
        clear hb6 x0 x1 x2 x3 x4
        obtain ⟨y0, y1, y2, y3, y4⟩ := kr4.cell
        have yf := kr4.frozen
        cases hok : okT 4 (rowE xs) with
        | true =>
          have HF := hide (rowD_end (p := p) (c := 500) (B := 430) (t := upN 4 6 (rowE xs)) ((ValAt.upN (d := 4) hval 6)) (Nat.le_trans (Nat.le_of_eq (wtT_upN 4 6 (rowE xs))) hwt) hR4 (by omega) hB4 hr)
          obtain ⟨x0, x1, x2, x3, x4⟩ := kv.cell
          clear kv kr4 hval hR4 hB4
          go_wp2_with fail
          exact bodyPost_ret (v := .agg #[.int .i64 5, .int .i64 0, .string ByteArray.empty, .slice none 0 0, .slice la ln lc]) (by simp [results, Tryz.results49, go_sem, y0, y1, y2, y3, y4]) rfl (HF.out _ rfl)
        | false =>
          clear kv hval
          go_wp2_with fail
          refine (l4Of_any none 0 0 w6).mono ?_
          rintro e w7 ⟨rfl, hb7⟩
          have hz7 := hb7.size
          have HF := hide (rowD_end (p := p) (c := 500) (B := 430) (wX := w7) (t := upN 1 9 (rowE (d := 0) [])) (ValAt.upN (d := 1) (show ValAt (FreshQ w w7) w7 1 (rowE (d := 0) []) (.agg #[.int .i64 5, .int .i64 0, .string ByteArray.empty, .slice none 0 0, .slice none 0 0]) from ⟨_, _, rfl, ⟨by show _ ≤ (5 : Int); omega, by show (5 : Int) ≤ _; omega⟩, ⟨by show _ ≤ (0 : Int); omega, by show (0 : Int) ≤ _; omega⟩, by show (0 : Nat) < _; omega, ⟨by show (0 : Nat) < _; omega, (fun s hs => by cases hs), none, 0, rfl, Or.inl rfl⟩, ⟨by show (0 : Nat) < _; omega, none, 0, rfl, Or.inl rfl⟩⟩) 9) (Nat.le_trans (Nat.le_of_eq (wtT_upN 1 9 (rowE (d := 0) []))) (by show 3 + 0 + 0 ≤ 430; omega)) (hR4.below hb7) (by omega) (hB4.trans (But.of_below hb7)) hr)
          clear y0 y1 y2 y3 y4 yf
          have kr7 := kr4.below hb7
          obtain ⟨y0, y1, y2, y3, y4⟩ := kr7.cell
          have yf := kr7.frozen
          clear kr4 kr7 hR4 hB4 hb7
          go_wp2_with fail
          exact bodyPost_ret (v := .agg #[.int .i64 5, .int .i64 0, .string ByteArray.empty, .slice none 0 0, .slice none 0 0]) (by simp [results, Tryz.results49, go_sem, y0, y1, y2, y3, y4]) rfl (HF.out _ rfl)

set_option maxRecDepth 100000 in
set_option maxHeartbeats 1000000 in
theorem drawRowBack_any (a : Option Addr) (n cap : Nat) (w : World) (hcap : n ≤ cap) (h : BytesAt w.heap.size w a n) :
    Calls Tryz.prog 24 #[.slice a n cap] w (OneD w) := by
  have hb0 := below_alloc1 w (.cells #[.int .i64 0, .int .i64 0, .string { data := #[] }, .slice none 0 0, .slice none 0 0] 29)
  have kr := res_new w
  obtain ⟨W0, HW⟩ : ∃ W0, Hid (W0 = w.alloc (.cells #[.int .i64 0, .int .i64 0, .string { data := #[] }, .slice none 0 0, .slice none 0 0] 29)) := ⟨_, rfl⟩
  have hz0 : w.heap.size < W0.heap.size := by rw [HW.out]; simp
  rw [← HW.out] at hb0 kr
  have hBy := h.wider (r' := W0.heap.size) (fun b hb => hb0.block b hb) (by omega)
  clear h
  go_enter Tryz.func24, Tryz.ntmps24
  go_wp2_with fail
  rw [← HW.out]
  clear HW
  refine (l11Open_any a n cap W0 hcap hBy).mono ?_
  rintro e w1 ⟨rfl, hR1, hb1, hz1⟩
  replace kr := kr.below hb1
  have hB1 := below_trans hb0 hb1
  clear hBy hb0 hb1
  go_wp2_with fail
  refine (l4RowDraw_any W0.heap.size 0 w1 hR1 (by omega)).mono ?_
  rintro e w2 ⟨u, t, p2, rfl, hv, hw, hR2, hp2, hb2⟩
  obtain ⟨v0, v1, v2, v3, v4, v5, v6, v7, v8, rfl⟩ := hv.shape
  have hB2 := but_below hB1 hb2 (by omega) (by omega)
  replace kr := kr.butr hb2 (by omega)
  have hF := oneD_end ((ValAt.upN (d := 10) hv 1).mono (S' := FreshQ w w2) (fun b hb => ⟨by have := hb.1.1; omega, hb.1.2, hb.2⟩)) (Nat.le_trans (Nat.le_of_eq (wtT_upN 10 1 t)) (by omega)) hB2
  have HF := hide hF
  obtain ⟨y0, y1, y2, y3, y4⟩ := kr.cell
  have yf := kr.frozen
  clear hF kr hB2 hb2 hv hR1 hR2 hB1
  go_wp2_with fail
  exact bodyPost_ret (v := .agg #[.int .i64 v0, .int .i64 v1, .string v2, .slice v3 v4 v5, .slice v6 v7 v8]) (by simp [results, Tryz.results24, go_sem, y0, y1, y2, y3, y4]) rfl (HF.out _ rfl)

end Go.Proofs.YtilgbnnjecpneaaGreatDoor

/- RowBack of the model. -/
namespace Go.Proofs.YtilgbnnjecpneaaGreatDoor
open Go.RowKit Go.Deep

/-- A row, the last one first. -/
def backF (d : Nat) (xs : List (Tr d)) : Option (Tr (d + 1)) := some (rowT d xs.reverse)
theorem back_step {α : Type} {xs : List α} {m k : Nat} {x : α} (hm : m < xs.length) (hk : k = xs.length - 1 - m) (hx : xs[k]? = some x) : xs.reverse.take (m + 1) = xs.reverse.take m ++ [x] := by
  have h1 : xs.reverse[m]? = some x := by
    rw [List.getElem?_reverse hm, ← hk]
    exact hx
  obtain ⟨h2, h3⟩ := List.getElem?_eq_some_iff.1 h1
  rw [List.take_succ_eq_append_getElem h2, h3]

set_option maxRecDepth 100000 in
set_option maxHeartbeats 2000000 in
theorem specRowBack_own (d : Nat) (S : Nat → Prop) (t : Tr (d + 1)) (v : Value) (w : World) (hv : ValAt S w (d + 1) t v) (hS : Within S w) (hsm : (nodes (d + 1) t : Int) ≤ 4194304) :
    Calls Tryz.prog 25 #[v] w (TellQ d (rowTell (backF d) t).1 (rowTell (backF d) t).2 w) := by
  have hv0 := hv
  obtain ⟨vk, vl, rfl, i1, i2, i3, hk, hl⟩ := hv
  obtain ⟨ak, ck, rfl, hkl⟩ := hk.open'
  obtain ⟨al, cl, rfl, hll⟩ := hl.open'
  obtain ⟨W0, hW⟩ : ∃ W0, W0 = (w.alloc (.cells #[.int .i64 t.kind, .int .i64 t.num, .string t.str, .slice ak t.keys.length ck, .slice al t.list.length cl] 29)).alloc (.cells #[.int .i64 0, .int .i64 0, .string { data := #[] }, .slice none 0 0, .slice none 0 0] 29) := ⟨_, rfl⟩
  have hW0 : Below w.heap.size w W0 := by rw [hW]; exact below_trans (below_alloc1 _ _) (below_alloc1 _ _)
  have k0 : Blk5 W0 w.heap.size 29 (.int .i64 t.kind) (.int .i64 t.num) (.string t.str) (.slice ak t.keys.length ck) (.slice al t.list.length cl) := by
    rw [hW]; exact (Blk5.new w 29 _ _ _ _ _).alloc _
  have k1 : Blk5 W0 (w.heap.size + 1) 29 (.int .i64 0) (.int .i64 0) (.string { data := #[] }) (.slice none 0 0) (.slice none 0 0) := by
    have := Blk5.new (w.alloc (.cells #[.int .i64 t.kind, .int .i64 t.num, .string t.str, .slice ak t.keys.length ck, .slice al t.list.length cl] 29)) 29 (.int .i64 0) (.int .i64 0) (.string { data := #[] }) (.slice none 0 0) (.slice none 0 0)
    rw [World.size_alloc] at this
    rw [hW]
    exact this
  have HW := hide hW
  clear hW hk
  go_enter Tryz.func25, Tryz.ntmps25
  go_wp2_with fail
  rw [← HW.out]
  clear HW
  refine (l4Row_any d S t _ W0 (hv0.same (hS.same hW0)) (hS.later hW0.size) hsm).mono ?_
  rintro e w1 ⟨rfl, hb1⟩
  replace k0 := k0.below hb1
  replace k1 := k1.below hb1
  have hB1 := below_trans hW0 hb1
  have hlt := k1.lt
  clear hb1 hW0 hv0
  cases hf : treesL d t with
  | none =>
    have hz := hide (rowTell_none (f := backF d) hf)
    have hno : Hid (∀ wF, wF = set5 w1 (w.heap.size + 1) 0 (.int .i64 0) (.int .i64 0) (.string { data := #[] }) (.slice none 0 0) (.slice none 0 0) → Below w.heap.size w wF) := by
      intro wF hF
      rw [hF]
      exact below_set5 hB1 (by omega) _ _ _ _ _ _
    obtain ⟨y0, y1, y2, y3, y4⟩ := k1.cell
    have yf := k1.frozen
    clear k0 k1 hB1
    go_wp2_with fail
    rw [hz.out]
    refine bodyPost_ret (v := .tuple #[zeroVal, .bool false]) (by simp [results, Tryz.results25, go_sem, zeroVal, y0, y1, y2, y3, y4]; rfl) rfl ⟨_, rfl, zeroVal_own d _ _, hno.out _ rfl⟩
  | some xs =>
    obtain ⟨hok, h5, rfl⟩ := treesL_some hf
    clear h5
    have hR : Hid (rowTell (backF d) t = (toldT d (rowT d t.list.reverse), okT (d + 1) (rowT d t.list.reverse))) := rowTell_some hf rfl
    have hl60 : t.list.length ≤ 60 := (okT_kinds hok).2.1
    have hnod : (nodes (d + 1) (rowT d t.list.reverse) : Int) ≤ 4194304 := nodes_row (fun x hx => okT_part hok (List.mem_reverse.1 hx)) (by rw [List.length_reverse]; omega)
    have hS1 : ∀ b, S b → b < w1.heap.size := hS.later hB1.size
    have hst : Hid (VTo (d := d) S w1.heap.size (w1.alloc (.cells #[] 29)) (.slice (some ⟨w1.heap.size, 0, none⟩) 0 0) [] []) := VTo.start S w1
    have hbs := hide (below_alloc1 w1 (.cells #[] 29))
    obtain ⟨i0, hi, hz0, hz1, hz2⟩ := info_parts Tryz.infoV2
    obtain ⟨x0, x1, x2, x3, x4⟩ := (k0.alloc (.cells #[] 29)).cell
    clear hf hok
    go_wp2_with fail
    go_loopw [4, 5] (fun out i wr => ∃ (m : Nat) (la : Option Addr) (lc : Nat) (vs : List Value), m ≤ t.list.length ∧ out = .slice la m lc ∧ i = .int .i64 ((t.list.length : Int) - 1 - (m : Int)) ∧ Hid (VTo S w1.heap.size wr (.slice la m lc) (t.list.reverse.take m) vs) ∧ Hid (Below w1.heap.size w1 wr)) (fun _ i _ => (intOf i + 1).toNat)
    case atStart => exact ⟨0, _, _, [], Nat.zero_le _, rfl, by go_num, hst, hbs⟩
    case round =>
      clear hst hbs x0 x1 x2 x3 x4
      obtain ⟨m, la, lc, vs, hm, rfl, rfl, hto, hbr⟩ := hrel
      have hlen : (t.list.reverse.take m).length = m := by rw [List.length_take, List.length_reverse]; omega
      have hsz := hbr.out.size
      have kbox := k0.below hbr.out
      obtain ⟨x0, x1, x2, x3, x4⟩ := kbox.cell
      by_cases hmt : m < t.list.length
      · obtain ⟨k, hk⟩ : ∃ k, k = t.list.length - 1 - m := ⟨_, rfl⟩
        have hki : (t.list.length : Int) - 1 - (m : Int) = (k : Int) := by omega
        rw [hki]
        have hk0 : (0 : Int) ≤ (k : Int) := by omega
        have hkn : k < t.list.length := by omega
        have hkl' : (k : Int) < (t.list.length : Int) := by omega
        obtain ⟨b, o, x, c0, c1, c2, c3, c4, rfl, hbS, hx, e0, e1, e2, e3, e4, hval⟩ := (hl.same (hS.same (below_trans hB1 hbr.out))).cell hkn
        obtain ⟨q0, q1, q2, q3, q4, q5, q6, q7, q8, hq⟩ := hval.shape
        cases hq
        have hown := hto.out.1
        rw [hlen] at hown
        have HO := hide (hown.alloc (.cells #[.int .i64 q0, .int .i64 q1, .string q2, .slice q3 q4 q5, .slice q6 q7 q8] 29))
        have hstep : Hid (∀ lv' w2, w2.ownsRow w1.heap.size 29 5 lv' (m + 1) (vs ++ [.int .i64 q0, .int .i64 q1, .string q2, .slice q3 q4 q5, .slice q6 q7 q8]) → (wr.alloc (.cells #[.int .i64 q0, .int .i64 q1, .string q2, .slice q3 q4 q5, .slice q6 q7 q8] 29)).grownBy w2 (Value.slice la m lc).ownBlock →
            ∃ a c, lv' = .slice a (m + 1) c ∧ VTo S w1.heap.size w2 lv' (t.list.reverse.take (m + 1)) (vs ++ [.int .i64 q0, .int .i64 q1, .string q2, .slice q3 q4 q5, .slice q6 q7 q8]) ∧ Below w1.heap.size w1 w2) := by
          intro lv' w2 o1 o2
          have hp := hto.out.push hS1 hsz hbr.out hval (by rw [hlen]; exact o1) o2
          rw [← back_step hmt hk hx] at hp
          obtain ⟨a, c, e⟩ := hp.1.slice
          rw [List.length_take, List.length_reverse, Nat.min_eq_left (by omega)] at e
          exact ⟨a, c, e, hp.1, hp.2.1⟩
        have hsw : w1.heap.size ≤ wr.heap.size := hsz
        have HK := hide hk
        clear hto hbr hown hval hx kbox hk hki
        go_wp2_with (at_builtin; refine wpList_append_own_at _ rfl _ _ 27 rfl w1.heap.size 29 i0 zeroVal 5 80 Tryz.underlying27 hi hz0 hz1 hz2 rfl (by decide) _ _ _ rfl HO.out ⟨wr.heap.size, 0, none⟩ 1 1 [.int .i64 q0, .int .i64 q1, .string q2, .slice q3 q4 q5, .slice q6 q7 q8] rfl rfl (cell_five_new _ _ _ _ _ _ _) ?c2 ?c3 ?c4 ?c5 ?_)
        case c2 => intro y hy; simp at hy; rcases hy with rfl | rfl | rfl | rfl | rfl <;> rfl
        case c3 => unfold maxLen; omega
        case c4 => omega
        case c5 => simp; omega
        · intro lv' w2 o1 o2 _ o3
          have HH := hide (hstep.out lv' w2 o1 o2)
          clear o1 o2 o3 hstep HO
          obtain ⟨a, c, rfl, hv2, hb2⟩ := HH.out
          have HV := hide hv2
          have HB2 := hide hb2
          clear HH hv2 hb2 hi hz0 hz1 hz2
          go_wp2_with fail
          go_roundw
          case rel => exact ⟨m + 1, a, c, _, by omega, rfl, by rw [show (t.list.length : Int) - 1 - ((m + 1 : Nat) : Int) = (k : Int) - 1 by have := HK.out; omega], HV, HB2⟩
          case measure => simp [intOf]
      · obtain rfl : m = t.list.length := by omega
        have hneg : (t.list.length : Int) - 1 - (t.list.length : Int) = -1 := by omega
        rw [hneg]
        have hall : t.list.reverse.take t.list.length = t.list.reverse := List.take_of_length_le (by rw [List.length_reverse]; exact Nat.le_refl _)
        have hto' := hto.out
        rw [hall] at hto'
        have HTO := hide hto'
        have kres := k1.below hbr.out
        have hB2 := below_trans hB1 hbr.out
        clear hto hto' hall kbox x0 x1 x2 x3 x4 hi hz0 hz1 hz2 k0 k1 hlt
        go_wp2_with fail
        refine (l4Of_any _ _ _ wr).mono ?_
        rintro e w3 ⟨rfl, hb3⟩
        have hB3 := below_trans hB2 hb3
        have hrow := rowV_at HTO.out (by rw [List.length_reverse]; omega) hb3 (fun b hb => Nat.lt_of_lt_of_le (hS1 b hb) hsz)
        have k3 := kres.below hb3
        have hWU3 : Within (fun b => S b ∨ (w1.heap.size ≤ b ∧ b < w3.heap.size)) w3 := fun b hb => by
          rcases hb with hb | hb
          · exact hS.later hB3.size b hb
          · exact hb.2
        have hcall2 := hide (l2Told_own d _ _ _ w3 hrow hWU3 hnod)
        have hlt3 : w.heap.size + 1 < w3.heap.size := k3.lt
        clear hrow hWU3 hb3 HTO hbr kres hB2 hl
        go_wp2_with fail
        refine Calls.mono hcall2.out ?_
        rintro e w4 ⟨r, rfl, hr, hb4⟩
        obtain ⟨r0, r1, r2, r3, r4, r5, r6, r7, r8, rfl⟩ := (ValOwn.at _ _ _ _ hr).shape
        have HF := hide (tell_end hr (below_trans hB3 hb4) (by omega) hlt3)
        have k4 := k3.below hb4
        obtain ⟨y0, y1, y2, y3, y4⟩ := k4.cell
        have yf := k4.frozen
        clear hr hb4 k3 k4 hcall2 hB3
        go_wp2_with fail
        rw [hR.out]
        exact bodyPost_ret (v := .tuple #[.agg #[.int .i64 r0, .int .i64 r1, .string r2, .slice r3 r4 r5, .slice r6 r7 r8], .bool (okT (d + 1) (rowT d t.list.reverse))]) (by simp [results, Tryz.results25, go_sem, y0, y1, y2, y3, y4]) rfl ⟨_, rfl, (HF.out _ rfl).1, (HF.out _ rfl).2⟩
end Go.Proofs.YtilgbnnjecpneaaGreatDoor
