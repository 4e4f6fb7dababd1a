/- Texts of the proof, put together by program: WDrawC. -/
import Derived.Test.YtilgbnnjecpneaaGreatDoorV8
/- Drawn trees: l1Val of the model. -/
namespace Go.Proofs.YtilgbnnjecpneaaGreatDoor
open Go.RowKit Go.Deep

/-- How many places of the reader a tree of this depth takes at most, and how great it is at most. -/
def drC : Nat → Nat
  | 0 => 3
  | k + 1 => 8 + 4 * drC k
def drB : Nat → Nat
  | 0 => 3
  | k + 1 => 7 + 4 * drB k

def DrawC (k : Nat) : Prop := ∀ (r p : Nat) (deep : Int) (w : World), Rd w r p → p + drC k ≤ 1000000 → deep ≤ k + 1 → -1000 ≤ deep → deep ≤ 1000 →
    Calls Tryz.prog 70 #[.pointer (some ⟨r, 0, none⟩), .int .i64 deep] w (Drawn r p (drC k) (k + 1) (drB k) w)

/-- What another drawing function told is told. -/
theorem drawn_pass {r p p0 c c' d B : Nat} {w W0 w1 : World} {e : Ending} (h : Drawn r p0 c' d B W0 e w1) (hb : But r w W0) (hr : r < w.heap.size) (hz : w.heap.size < W0.heap.size) (hc : p0 + c' ≤ p + c) :
    ∃ v0 v1 v2 v3 v4 v5 v6 v7 v8, e = .returned (.agg #[.int .i64 v0, .int .i64 v1, .string v2, .slice v3 v4 v5, .slice v6 v7 v8]) ∧ But r w w1 ∧ W0.heap.size ≤ w1.heap.size ∧
      ∀ wF, wF = set5 w1 w.heap.size 0 (.int .i64 v0) (.int .i64 v1) (.string v2) (.slice v3 v4 v5) (.slice v6 v7 v8) → Drawn r p c d B w (.returned (.agg #[.int .i64 v0, .int .i64 v1, .string v2, .slice v3 v4 v5, .slice v6 v7 v8])) wF := by
  obtain ⟨u, t, p', rfl, hv, hB, hR, hp, hbu⟩ := h
  obtain ⟨v0, v1, v2, v3, v4, v5, v6, v7, v8, rfl⟩ := hv.at.shape
  refine ⟨v0, v1, v2, v3, v4, v5, v6, v7, v8, rfl, hb.trans hbu, hbu.size, drawn_end (hv.moved (Same.refl _ _) (fun b hb' => ⟨by have := hb'.1.1; omega, hb'.1.2, hb'.2⟩) (by omega)) hB hR (by omega) (hb.trans hbu) hr (by have := hbu.size; omega)⟩
theorem Drawn.mono {r p c d B B' : Nat} {w w1 : World} {e : Ending} (h : Drawn r p c d B w e w1) (hB : B ≤ B') : Drawn r p c d B' w e w1 := by
  obtain ⟨u, t, p', rfl, hv, hB', hR, hp, hbu⟩ := h
  exact ⟨u, t, p', rfl, hv, by omega, hR, hp, hbu⟩
theorem drB_le : ∀ (k : Nat), 3 ≤ drB k ∧ 3 ≤ drC k
  | 0 => ⟨Nat.le_refl _, Nat.le_refl _⟩
  | k + 1 => by have := drB_le k; simp only [drB, drC]; omega

set_option maxRecDepth 100000 in
set_option maxHeartbeats 1000000 in
/-- No deeper than one: a leaf. -/
theorem l1Val_leaf (k r p : Nat) (deep : Int) (w : World) (h : Rd w r p) (hp : p + 3 ≤ 1000000) (hd : deep ≤ 1) :
    Calls Tryz.prog 70 #[.pointer (some ⟨r, 0, none⟩), .int .i64 deep] w (Drawn r p 3 (k + 1) 3 w) := by
  have hr := h.lt
  have hb0 := below_alloc1 w (.cells #[.int .i64 0, .int .i64 0, .string { data := #[] }, .slice none 0 0, .slice none 0 0] 29)
  have kr := res_new w
  have hR0 := h.below hb0
  obtain ⟨W0, HW⟩ : ∃ W0, Hid (W0 = w.alloc (.cells #[.int .i64 0, .int .i64 0, .string { data := #[] }, .slice none 0 0, .slice none 0 0] 29)) := ⟨_, rfl⟩
  have hz0 : w.heap.size < W0.heap.size := by rw [HW.out]; simp
  rw [← HW.out] at hb0 kr hR0
  go_enter Tryz.func70, Tryz.ntmps70
  go_wp2_with fail
  rw [← HW.out]
  refine (l1Leaf_any k r p W0 hR0 (by omega)).mono ?_
  intro e w1 hdr
  obtain ⟨v0, v1, v2, v3, v4, v5, v6, v7, v8, rfl, hb1, hz1, hF⟩ := drawn_pass (p := p) (c := 3) hdr (But.of_below hb0) hr hz0 (by omega)
  have HF := hide hF
  have hbd := hdr
  obtain ⟨_, _, _, _, _, _, _, _, hbu⟩ := hbd
  replace kr := kr.butr hbu (by omega)
  obtain ⟨y0, y1, y2, y3, y4⟩ := kr.cell
  have yf := kr.frozen
  clear hdr hF kr hbu hb1 hR0 h hb0 HW
  go_wp2_with fail
  exact bodyPost_ret (v := .agg #[.int .i64 v0, .int .i64 v1, .string v2, .slice v3 v4 v5, .slice v6 v7 v8]) (by simp [results, Tryz.results70, go_sem, y0, y1, y2, y3, y4]) rfl (HF.out _ rfl)

def keyTexts : List ByteArray := [⟨#[97]⟩, ⟨#[98]⟩, ⟨#[99]⟩, ⟨#[100]⟩]

/-- What stands in the loop over a drawn tree's parts. -/
structure DLoop {d : Nat} (w : World) (p0 N vb r : Nat) (kind : Int) (wr : World) (kv lv : Value) (m cst B : Nat) (ks : List ByteArray) (xs : List (Tr d)) (vs : List Value) (p' : Nat) : Prop where
  dt : DTo N vb r kind wr kv lv ks xs vs
  kn : ks.length ≤ m
  xn : xs.length ≤ m
  ksz : ∀ s ∈ ks, s.size < 281474976710656
  xw : ∀ x ∈ xs, wtT d x ≤ B
  rd : Rd wr r p'
  pn : p' ≤ p0 + m * cst
  but : But r w wr
  res : Blk5 wr w.heap.size 29 (.int .i64 0) (.int .i64 0) (.string { data := #[] }) (.slice none 0 0) (.slice none 0 0)
  wN : w.heap.size < vb

theorem DLoop.moved {d : Nat} {w wr w' : World} {p0 N vb r : Nat} {kind : Int} {kv lv : Value} {m cst B : Nat} {ks : List ByteArray} {xs : List (Tr d)} {vs : List Value} {p' p'' : Nat} (h : DLoop w p0 N vb r kind wr kv lv m cst B ks xs vs p') (hr : r < w.heap.size) (hb : But r wr w') (hR : Rd w' r p'') :
    DTo N vb r kind w' kv lv ks xs vs ∧ Rd w' r p'' ∧ But r w w' ∧ Blk5 w' w.heap.size 29 (.int .i64 0) (.int .i64 0) (.string { data := #[] }) (.slice none 0 0) (.slice none 0 0) :=
  ⟨h.dt.moved hb, hR, h.but.trans hb, h.res.butr hb (by omega)⟩

theorem sum_le_all {α : Type} {f : α → Nat} {c : Nat} : ∀ {xs : List α} (n : Nat), xs.length ≤ n → (∀ x ∈ xs, f x ≤ c) → (xs.map f).sum ≤ n * c
  | [], _, _, _ => by simp
  | x :: r, n, hn, h => by
    have hn' : 0 < n := by simp at hn; omega
    obtain ⟨j, rfl⟩ : ∃ j, n = j + 1 := ⟨n - 1, by omega⟩
    have h1 := h x (by simp)
    have h2 := sum_le_all (xs := r) j (by simp at hn; omega) (fun y hy => h y (by simp [hy]))
    simp only [List.map_cons, List.sum_cons]
    rw [Nat.succ_mul]
    omega

/-- The loop's end. -/
theorem DLoop.final {k : Nat} {w wr : World} {p p0 N vb r : Nat} {kind : Int} {kv lv : Value} {m cst c : Nat} {ks : List ByteArray} {xs : List (Tr (k + 1))} {vs : List Value} {p' : Nat} (h : DLoop w p0 N vb r kind wr kv lv m cst (drB k) ks xs vs p') (hk : I64 kind) (hm : m ≤ 4) (hc : p0 + m * cst ≤ p + c) (hr : r < w.heap.size) :
    ∀ wF, wF = set5 wr w.heap.size 0 (.int .i64 kind) (.int .i64 0) (.string { data := #[] }) kv lv → Drawn r p c (k + 2) (drB (k + 1)) w (.returned (.agg #[.int .i64 kind, .int .i64 0, .string { data := #[] }, kv, lv])) wF := by
  have hkn := h.kn
  have hxn := h.xn
  have hwN := h.wN
  have hvN := h.dt.vbN
  have hz := h.res.lt
  have hp := h.pn
  refine drawn_end (h.dt.done hk h.ksz (by omega) (by omega) (by omega)) ?_ h.rd (by omega) h.but hr hz
  show 3 + ks.length + (xs.map (wtT (k + 1))).sum ≤ 7 + 4 * drB k
  have := sum_le_all (f := wtT (k + 1)) (c := drB k) (xs := xs) 4 (by omega) h.xw
  omega

set_option maxRecDepth 100000 in
set_option maxHeartbeats 1000000 in
theorem l1Val_any : ∀ (k : Nat), DrawC k
  | 0 => by
    intro r p deep w h hp hd hd2 hd3
    exact l1Val_leaf 0 r p deep w h hp (by omega)
  | k + 1 => by
    intro r p deep w h hp hd hd2 hd3
    have ih := l1Val_any k
    have hr := h.lt
    by_cases hdeep : deep ≤ 1
    · exact (l1Val_leaf (k + 1) r p deep w h (by have := (drB_le (k + 1)).2; omega) hdeep).mono (fun e w' hdr => by
        obtain ⟨u, t, p', rfl, hv, hB', hR, hp', hbu⟩ := hdr
        have := drB_le (k + 1)
        exact ⟨u, t, p', rfl, hv, by omega, hR, by omega, hbu⟩)
    have hb0 := below_alloc1 w (.cells #[.int .i64 0, .int .i64 0, .string { data := #[] }, .slice none 0 0, .slice none 0 0] 29)
    have kr := res_new w
    have hR0 := h.below hb0
    obtain ⟨W0, HW⟩ : ∃ W0, Hid (W0 = w.alloc (.cells #[.int .i64 0, .int .i64 0, .string { data := #[] }, .slice none 0 0, .slice none 0 0] 29)) := ⟨_, rfl⟩
    have hz0 : w.heap.size < W0.heap.size := by rw [HW.out]; simp
    rw [← HW.out] at hb0 kr hR0
    have hC : drC (k + 1) = 8 + 4 * drC k := rfl
    have hC3 := drB_le k
    go_enter Tryz.func70, Tryz.ntmps70
    go_wp2_with fail
    rw [← HW.out]
    refine (pick_any r p 4 W0 hR0 (by omega) (by omega) (by omega)).mono ?_
    rintro e w1 ⟨k1, rfl, k10, k11, h1, b1, z1⟩
    replace kr := kr.butr b1 (by omega)
    have hB1 := (But.of_below hb0).trans b1
    replace hz0 : w.heap.size < w1.heap.size := by omega
    clear hR0 hb0 b1 z1 HW h
    by_cases hk1 : k1 = 0
    · subst hk1
      go_wp2_with fail
      refine (l1Leaf_any (k + 1) r (p + 1) w1 h1 (by omega)).mono ?_
      intro e w2 hdr
      obtain ⟨v0, v1, v2, v3, v4, v5, v6, v7, v8, rfl, hb2, hz1, hF⟩ := drawn_pass (p := p) (c := drC (k + 1)) hdr hB1 hr hz0 (by omega)
      have HF := hide (fun wF hF' => (hF wF hF').mono (B' := drB (k + 1)) (by have := drB_le (k + 1); omega))
      obtain ⟨_, _, _, _, _, _, _, _, hbu⟩ := hdr
      replace kr := kr.butr hbu (by omega)
      obtain ⟨y0, y1, y2, y3, y4⟩ := kr.cell
      have yf := kr.frozen
      clear hF kr hbu hb2 h1
      go_wp2_with fail
      exact bodyPost_ret (v := .agg #[.int .i64 v0, .int .i64 v1, .string v2, .slice v3 v4 v5, .slice v6 v7 v8]) (by simp [results, Tryz.results70, go_sem, y0, y1, y2, y3, y4]) rfl (HF.out _ rfl)
    · have hk1' : (k1 == 0) = false := by simpa using hk1
      have ha := below_alloc1 w1 (.cells #[.int .i64 5, .int .i64 0, .string { data := #[] }, .slice none 0 0, .slice none 0 0] 29)
      have kv := Blk5.new w1 29 (.int .i64 5) (.int .i64 0) (.string { data := #[] }) (.slice none 0 0) (.slice none 0 0)
      obtain ⟨W2, HW⟩ : ∃ W2, Hid (W2 = w1.alloc (.cells #[.int .i64 5, .int .i64 0, .string { data := #[] }, .slice none 0 0, .slice none 0 0] 29)) := ⟨_, rfl⟩
      have hz2 : w1.heap.size < W2.heap.size := by rw [HW.out]; simp
      rw [← HW.out] at ha kv
      replace kr := kr.below ha
      have h2 := h1.below ha
      have hB2 := hB1.trans (But.of_below ha)
      have hrl := h1.lt
      clear h1
      go_wp2_with fail
      rw [← HW.out]
      clear HW ha
      refine (pick_any r (p + 1) 2 W2 h2 (by omega) (by omega) (by omega)).mono ?_
      rintro e w3 ⟨k2, rfl, k20, k21, h3, b3, z3⟩
      replace kr := kr.butr b3 (by omega)
      replace kv := kv.butr b3 (by omega)
      have hB3 := hB2.trans b3
      have hz3 : w1.heap.size < w3.heap.size := by omega
      clear h2 b3 z3 hB2 hz2
      by_cases hk2 : k2 = 0
      · subst hk2
        obtain ⟨y0, y1, y2, y3, y4⟩ := kv.cell
        have yf := kv.frozen
        go_wp2_with fail
        obtain ⟨W4, HW4⟩ : ∃ W4, Hid (W4 = w3.setCell ⟨w1.heap.size, 0, none⟩ (.int .i64 6)) := ⟨_, rfl⟩
        have hB34 : Below w1.heap.size w3 W4 := by rw [HW4.out]; exact (Below.refl _ _).setCell (p := ⟨w1.heap.size, 0, none⟩) (Nat.le_refl _) _
        have hz4 : W4.heap.size = w3.heap.size := by rw [HW4.out]; simp [World.setCell]
        have kv4 : Blk5 W4 w1.heap.size 29 (.int .i64 6) (.int .i64 0) (.string { data := #[] }) (.slice none 0 0) (.slice none 0 0) := by rw [HW4.out]; exact kv.set0 _
        have kr4 : Blk5 W4 w.heap.size 29 (.int .i64 0) (.int .i64 0) (.string { data := #[] }) (.slice none 0 0) (.slice none 0 0) := kr.of_block (hB34.block _ hz0)
        have hR4 : Rd W4 r (p + 1 + 1) := by
          obtain ⟨a, n, cap, q1, q2, q3⟩ := h3
          exact ⟨a, n, cap, (hB34.block r hrl).trans q1, q2, q3.moved (fun b hb => hB34.block b (by omega))⟩
        have hB4 : But r w W4 := ⟨hB34.os.trans hB3.os, hB34.tape.trans hB3.tape, hB34.output.trans hB3.output, by rw [hz4]; exact hB3.size, fun i hi hn => (hB34.block i (by omega)).trans (hB3.block i hi hn)⟩
        have hst : Hid (DLoop (d := k + 1) w (p + 1 + 1) W4.heap.size w1.heap.size r 6 W4 (.slice none 0 0) (.slice none 0 0) 0 (1 + drC k) (drB k) [] [] [] (p + 1 + 1)) :=
          ⟨DTo.start kv4 hR4.lt (by omega), Nat.le_refl _, Nat.le_refl _, (fun s hs => by cases hs), (fun s hs => by cases hs), hR4, by omega, hB4, kr4, hz0⟩
        obtain ⟨N, hN⟩ : ∃ N, Hid (N = W4.heap.size) := ⟨_, rfl⟩
        rw [← hN.out] at hst
        rw [← HW4.out]
        clear y0 y1 y2 y3 y4 yf kv kr hB34 hz4 kv4 kr4 hR4 hB4 HW4 h3 hB3 hB1 hz3
        go_loopw [6] (fun i wr => ∃ (m : Nat) (kv lv : Value) (ks : List ByteArray) (xs : List (Tr (k + 1))) (vs : List Value) (p' : Nat), m ≤ 4 ∧ i = .int .i64 (m : Int) ∧ Hid (DLoop w (p + 1 + 1) N w1.heap.size r 6 wr kv lv m (1 + drC k) (drB k) ks xs vs p')) (fun i _ => 4 - (intOf i).toNat)
        case atStart => exact ⟨0, _, _, [], [], [], _, Nat.zero_le _, rfl, hst⟩
        case round =>
          clear hst
          obtain ⟨m, kv, lv, ks, xs, vs, p', hm, rfl, hl⟩ := hrel
          by_cases hm4 : m < 4
          · have hm4' : (m : Int) < 4 := by omega
            have hpn := hl.out.pn
            have hmc : m * (1 + drC k) + (1 + drC k) ≤ 4 * (1 + drC k) := by rw [← Nat.succ_mul]; exact Nat.mul_le_mul_right _ hm4
            go_wp2_with fail
            refine (pick_any r p' 2 wr hl.out.rd (by omega) (by omega) (by omega)).mono ?_
            rintro e w5 ⟨k3, rfl, k30, k31, h5, b5, z5⟩
            have hmv := hl.out.moved hr b5 h5
            by_cases hk3 : k3 = 0
            · subst hk3
              obtain ⟨ka, kn, kc, rfl⟩ := row_slice hmv.1.kown
              obtain ⟨la, ln, lc, rfl⟩ := row_slice hmv.1.vown
              obtain ⟨s, hs, hsz⟩ : ∃ s, keyTexts[m]? = some s ∧ s.size < 281474976710656 := by
                have : ∀ j, j < 4 → ∃ s, keyTexts[j]? = some s ∧ s.size < 281474976710656 := by
                  intro j hj
                  have hj' : j = 0 ∨ j = 1 ∨ j = 2 ∨ j = 3 := by omega
                  rcases hj' with rfl | rfl | rfl | rfl
                  · exact ⟨⟨#[97]⟩, rfl, by show (1 : Nat) < _; omega⟩
                  · exact ⟨⟨#[98]⟩, rfl, by show (1 : Nat) < _; omega⟩
                  · exact ⟨⟨#[99]⟩, rfl, by show (1 : Nat) < _; omega⟩
                  · exact ⟨⟨#[100]⟩, rfl, by show (1 : Nat) < _; omega⟩
                exact this m hm4
              have hci : (w5.alloc (.cells #[.string ⟨#[97]⟩, .string ⟨#[98]⟩, .string ⟨#[99]⟩, .string ⟨#[100]⟩] 9)).cell? ⟨w5.heap.size, m, none⟩ = some (.string s) := by
                have := texts_new w5 9 keyTexts m s hs
                rw [Nat.zero_add] at this
                exact this
              have hzl : (w5.alloc (.cells #[.string ⟨#[97]⟩, .string ⟨#[98]⟩, .string ⟨#[99]⟩, .string ⟨#[100]⟩] 9)).heap.size = w5.heap.size + 1 := by simp
              have hnews : Hid (∀ j u, [Value.string s][j]? = some u → (((w5.alloc (.cells #[.string ⟨#[97]⟩, .string ⟨#[98]⟩, .string ⟨#[99]⟩, .string ⟨#[100]⟩] 9)).alloc (.cells #[.string s] 9)).drew).cell? ((⟨w5.heap.size + 1, 0, none⟩ : Addr).add j) = some u) := by
                rw [← hzl]; exact cell_one_new _ _ _
              have HZL := hide hzl
              have hNw : N ≤ w5.heap.size := hmv.1.NS
              obtain ⟨i1, hi1, hz0', hz1', hz2'⟩ := info_parts Tryz.infoS2
              have hi := hide hi1
              have hDL : Hid (DTo N w1.heap.size r 6 (w5.alloc (.cells #[.string ⟨#[97]⟩, .string ⟨#[98]⟩, .string ⟨#[99]⟩, .string ⟨#[100]⟩] 9)).drew (.slice ka kn kc) (.slice la ln lc) ks xs vs) := hmv.1.moved (But.of_below (below_drew1 (below_alloc1 _ _)))
              have hown1 := hide (hDL.out.kown.alloc (.cells #[.string s] 9))
              have hnb : ∀ g, (Value.slice ka kn kc).ownBlock = some g → N ≤ g := fun g hg => (hmv.1.kown.lt g hg).1
              have yb5 := hmv.1.out
              obtain ⟨y0, y1, y2, y3, y4⟩ := yb5.cell
              have hvl : w1.heap.size < w5.heap.size := yb5.lt
              have hvN : w1.heap.size < N := hmv.1.vbN
              have hkn4 : ks.length ≤ 4 := by have := hl.out.kn; omega
              have hMV := hide hmv
              have hL := hide hl.out
              clear hi1 hzl hs hmv hl h5 b5 z5
              go_upto_region 10 with fail
              go_cut [6] (fun i wc => i = .int .i64 (m : Int) ∧ ∃ kv', Hid (DTo N w1.heap.size r 6 wc kv' (.slice la ln lc) (ks ++ [s]) xs vs ∧ Rd wc r (p' + 1) ∧ But r w wc ∧ Blk5 wc w.heap.size 29 (.int .i64 0) (.int .i64 0) (.string { data := #[] }) (.slice none 0 0) (.slice none 0 0)))
              case first =>
               go_region_law ((refine step_append_run _ (by rfl) _ _ 22 (by rfl) _ _ (by rfl) (by rfl) (run_append_own_at (P := Tryz.prog) _ N 22 _ 9 i1 (.string ByteArray.empty) 1 16 Tryz.underlying22 hi.out hz0' hz1' hz2' rfl (by decide) _ _ _ hown1.out ⟨w5.heap.size + 1, 0, none⟩ 1 1 [.string s] rfl hnews.out (by intro y hy; simp at hy; rcases hy with rfl; rfl) (by unfold maxLen; omega) (by omega) (by rw [World.size_alloc]; show N ≤ (w5.alloc (.cells #[.string ⟨#[97]⟩, .string ⟨#[98]⟩, .string ⟨#[99]⟩, .string ⟨#[100]⟩] 9)).heap.size + 1; rw [HZL.out]; omega)) ?_; rintro v' w6 ⟨o1, o2, _, o3⟩; obtain ⟨va, vn, vc, rfl⟩ := row_slice o1; have yb6 : Blk5 w6 w1.heap.size 29 (.int .i64 6) (.int .i64 0) (.string { data := #[] }) (.slice ka kn kc) (.slice la ln lc) := (hDL.out.out.alloc _).of_block (o2.block w1.heap.size (by rw [World.size_alloc]; show w1.heap.size < (w5.alloc (.cells #[.string ⟨#[97]⟩, .string ⟨#[98]⟩, .string ⟨#[99]⟩, .string ⟨#[100]⟩] 9)).heap.size + 1; rw [HZL.out]; omega) (fun e => by have := hnb _ e.symm; omega)); obtain ⟨_, _, _, v3, _⟩ := yb6.cell; have v3f := yb6.frozen 3))
               all_goals
                have HK := hDL.out.key (s := s) o1 o2 o3
                have HL := low_moved hMV.out.2.1 hMV.out.2.2.1 hMV.out.2.2.2 ((Turn.of_below (below_drew1 (below_alloc1 _ _))).trans (low_turn (c := 3) (u := .slice va vn vc) o2 hnb)) hr hL.out.wN hvN
                have HH := hide (And.intro HK HL)
                clear HK HL o1 o2 o3 hown1 hDL hMV hnews hci
                go_wp2_with fail
                go_meet
                exact ⟨rfl, _, HH⟩
              case rest =>
                clear hci hnews hDL hown1 hnb hMV hvl y0 y1 y2 y3 y4 yb5 hz0' hz1' hz2' hi HZL hNw
                obtain ⟨rfl, kv', hcm⟩ := hcut
                obtain ⟨ka', kn', kc', rfl⟩ := row_slice hcm.out.1.kown
                obtain ⟨i1, hi1, hz0', hz1', hz2'⟩ := info_parts Tryz.infoVal
                have hi := hide hi1
                have hDC := hide hcm.out.1
                have hNw : N ≤ wc.heap.size := hcm.out.1.NS
                have hnb : ∀ g, (Value.slice la ln lc).ownBlock = some g → N ≤ g := fun g hg => (hcm.out.1.vown.lt g hg).1
                have hvl : w1.heap.size < wc.heap.size := hcm.out.1.out.lt
                have hxn4 : xs.length ≤ 4 := by have := hL.out.xn; omega
                obtain ⟨y0, y1, y2, y3, y4⟩ := hcm.out.1.out.cell
                have hcall : Hid (Calls Tryz.prog 70 #[.pointer (some ⟨r, 0, none⟩), .int .i64 (deep - 1)] wc.drew fun e w' => ∃ u, e = .returned u ∧ (∃ t p'', ValAt (FreshP wc w') w' (k + 1) t u ∧ wtT (k + 1) t ≤ drB k ∧ Rd w' r p'' ∧ p'' ≤ p' + 1 + drC k ∧ But r wc w')) :=
                  (ih r (p' + 1) (deep - 1) wc.drew hcm.out.2.1 (by omega) (by omega) (by omega) (by omega)).mono (fun e w' hdr => by
                    obtain ⟨u, t, p'', rfl, q1, q2, q3, q4, q5⟩ := hdr
                    exact ⟨u, rfl, t, p'', q1.at, q2, q3, q4, ⟨q5.os, q5.tape, q5.output, q5.size, q5.block⟩⟩)
                clear hi1
                go_wp2_with fail
                go_region_law (first
                  | (refine step_call_run _ 70 _ (by rfl) (by go_simp; rw [IntKind.wrap_i64]; omega) hcall.out ?_; rintro u w7 ⟨t, p'', hu, hwt, hR7, hp7, hb7⟩; obtain ⟨u0', u1', u2', u3', u4', u5', u6', u7', u8', rfl⟩ := hu.shape; have hD7 := hDC.out.moved hb7; have hvl7 : w1.heap.size < w7.heap.size := hD7.out.lt; have hS7 : N ≤ w7.heap.size := hD7.NS; have yb7 := hD7.out; obtain ⟨_, _, _, _, z4⟩ := yb7.cell; have z4' := fun o => ((yb7.alloc o).cell).2.2.2.2; have hown1 := hide (hD7.vown.alloc (.cells #[.int .i64 u0', .int .i64 u1', .string u2', .slice u3' u4' u5', .slice u6' u7' u8'] 29)))
                  | (refine step_append_run _ (by rfl) _ _ 27 (by rfl) _ _ (by rfl) (by rfl) (run_append_own_at (P := Tryz.prog) _ N 27 _ 29 i1 zeroVal 5 80 Tryz.underlying27 hi.out hz0' hz1' hz2' rfl (by decide) _ _ _ hown1.out ⟨w7.heap.size, 0, none⟩ 1 1 [.int .i64 u0', .int .i64 u1', .string u2', .slice u3' u4' u5', .slice u6' u7' u8'] rfl (cell_five_new _ _ _ _ _ _ _) (by intro y hy; simp at hy; rcases hy with rfl | rfl | rfl | rfl | rfl <;> rfl) (by unfold maxLen; omega) (by omega) (by rw [World.size_alloc]; omega)) ?_; rintro v' w8 ⟨o1, o2, _, o3⟩; obtain ⟨va, vn, vc, rfl⟩ := row_slice o1; have yb8 : Blk5 w8 w1.heap.size 29 (.int .i64 6) (.int .i64 0) (.string { data := #[] }) (.slice ka' kn' kc') (.slice la ln lc) := (yb7.alloc _).of_block (o2.block w1.heap.size (by rw [World.size_alloc]; omega) (fun e => by have := hnb _ e.symm; omega)); obtain ⟨_, _, _, _, v4⟩ := yb8.cell; have v4f := yb8.frozen 4))
                all_goals
                  have hx : ValAt (InD N w7 (.slice ka' kn' kc') (.slice la ln lc)) w7 (k + 1) t (.agg #[.int .i64 u0', .int .i64 u1', .string u2', .slice u3' u4' u5', .slice u6' u7' u8']) :=
                    hu.mono (fun b hb => ⟨by have := hb.1.1; omega, hb.1.2, hb.2, fun e => by have := (hDC.out.kown.lt b e).2; have := hb.1.1; omega, fun e => by have := (hDC.out.vown.lt b e).2; have := hb.1.1; omega⟩)
                  have HT := hD7.tree hx o1 o2 o3
                  have HLo := low_moved (w := w) hR7 (hcm.out.2.2.1.trans hb7) (hcm.out.2.2.2.butr hb7 (by omega)) (low_turn (c := 4) (u := .slice va vn vc) o2 hnb) hr hL.out.wN hvN
                  have HD : Hid (DLoop w (p + 1 + 1) N w1.heap.size r 6 (w8.setCell ⟨w1.heap.size, 4, none⟩ (.slice va vn vc)) (.slice ka' kn' kc') (.slice va vn vc) (m + 1) (1 + drC k) (drB k) (ks ++ [s]) (xs ++ [t]) _ p'') :=
                    ⟨HT, by have := hL.out.kn; rw [List.length_append, List.length_singleton]; omega, by have := hL.out.xn; rw [List.length_append, List.length_singleton]; omega, (fun y hy => by rcases List.mem_append.1 hy with h | h; exact hL.out.ksz y h; rw [List.mem_singleton.1 h]; exact hsz), (fun y hy => by rcases List.mem_append.1 hy with h | h; exact hL.out.xw y h; rw [List.mem_singleton.1 h]; exact hwt), HLo.1, by rw [Nat.succ_mul]; omega, HLo.2.1, HLo.2.2, hL.out.wN⟩
                  clear HT HLo hx o1 o2 o3 hown1 hu hb7 hR7 hD7 yb7 yb8 z4 z4' hcall hcm hDC hL
                  go_wp2_with fail
                  go_roundw
                  case rel => exact ⟨m + 1, _, _, _, _, _, _, by omega, rfl, HD⟩
                  case measure => simp [intOf]; omega
            · have hk3' : (k3 == 0) = false := by simpa using hk3
              have HN : Hid (DLoop w (p + 1 + 1) N w1.heap.size r 6 w5 kv lv (m + 1) (1 + drC k) (drB k) ks xs vs (p' + 1)) :=
                ⟨hmv.1, by have := hl.out.kn; omega, by have := hl.out.xn; omega, hl.out.ksz, hl.out.xw, hmv.2.1, by rw [Nat.succ_mul]; omega, hmv.2.2.1, hmv.2.2.2, hl.out.wN⟩
              clear hmv h5 b5 z5 hl
              go_wp2_with fail
              go_roundw
              case rel => exact ⟨m + 1, _, _, _, _, _, _, by omega, by go_num, HN⟩
              case measure => simp [intOf]; omega
          · obtain rfl : m = 4 := by omega
            have HF := hide (hl.out.final (p := p) (c := drC (k + 1)) ⟨by omega, by omega⟩ (Nat.le_refl _) (by omega) hr)
            obtain ⟨ka, kn, kc, rfl⟩ := row_slice hl.out.dt.kown
            obtain ⟨la, ln, lc, rfl⟩ := row_slice hl.out.dt.vown
            obtain ⟨y0, y1, y2, y3, y4⟩ := hl.out.dt.out.cell
            obtain ⟨u0, u1, u2, u3, u4⟩ := hl.out.res.cell
            have uf := hl.out.res.frozen
            have hvr : w.heap.size < wr.heap.size := hl.out.res.lt
            have hvl : w1.heap.size < wr.heap.size := hl.out.dt.out.lt
            clear hl ih
            go_wp2_with fail
            exact bodyPost_ret (v := .agg #[.int .i64 6, .int .i64 0, .string { data := #[] }, .slice ka kn kc, .slice la ln lc]) (by simp [results, Tryz.results70, go_sem, u0, u1, u2, u3, u4]) rfl (HF.out _ rfl)
      · have hk2' : (k2 == 0) = false := by simpa using hk2
        go_wp2_with fail
        refine (pick_any r (p + 1 + 1) 4 w3 h3 (by omega) (by omega) (by omega)).mono ?_
        rintro e w4 ⟨n, rfl, hn0, hn1, h4, b4, z4⟩
        replace kr := kr.butr b4 (by omega)
        replace kv := kv.butr b4 (by omega)
        have hB4 := hB3.trans b4
        obtain ⟨n, rfl⟩ := Int.eq_ofNat_of_zero_le hn0
        have hst : Hid (DLoop (d := k + 1) w (p + 1 + 1 + 1) w4.heap.size w1.heap.size r 5 w4 (.slice none 0 0) (.slice none 0 0) 0 (drC k) (drB k) [] [] [] (p + 1 + 1 + 1)) :=
          ⟨DTo.start kv h4.lt (by omega), Nat.le_refl _, Nat.le_refl _, (fun s hs => by cases hs), (fun s hs => by cases hs), h4, by omega, hB4, kr, hz0⟩
        obtain ⟨N, hN⟩ : ∃ N, Hid (N = w4.heap.size) := ⟨_, rfl⟩
        rw [← hN.out] at hst
        clear kv kr hB4 h3 hB3 hB1 hz3 h4 b4 z4
        go_wp2_with fail
        go_loopw [7] (fun i wr => ∃ (m : Nat) (lv : Value) (xs : List (Tr (k + 1))) (vs : List Value) (p' : Nat), m ≤ n ∧ i = .int .i64 ((n : Int) - (m : Int)) ∧ Hid (DLoop w (p + 1 + 1 + 1) N w1.heap.size r 5 wr (.slice none 0 0) lv m (drC k) (drB k) [] xs vs p')) (fun i _ => (intOf i).toNat)
        case atStart => exact ⟨0, _, [], [], _, Nat.zero_le _, by simp, hst⟩
        case round =>
          clear hst
          obtain ⟨m, lv, xs, vs, p', hm, rfl, hl⟩ := hrel
          by_cases hmn : m < n
          · have hmn' : (0 : Int) < (n : Int) - (m : Int) := by omega
            have hpn := hl.out.pn
            have hmc : m * drC k + drC k ≤ 4 * drC k := by rw [← Nat.succ_mul]; exact Nat.mul_le_mul_right _ (by omega)
            obtain ⟨la, ln, lc, rfl⟩ := row_slice hl.out.dt.vown
            obtain ⟨i1, hi1, hz0', hz1', hz2'⟩ := info_parts Tryz.infoVal
            have hi := hide hi1
            have hNw : N ≤ wr.heap.size := hl.out.dt.NS
            have hnb : ∀ g, (Value.slice la ln lc).ownBlock = some g → N ≤ g := fun g hg => (hl.out.dt.vown.lt g hg).1
            have hvl : w1.heap.size < wr.heap.size := hl.out.dt.out.lt
            have hxn4 : xs.length ≤ 4 := by have := hl.out.xn; omega
            have hvN : w1.heap.size < N := hl.out.dt.vbN
            obtain ⟨y0, y1, y2, y3, y4⟩ := hl.out.dt.out.cell
            have hcall : Hid (Calls Tryz.prog 70 #[.pointer (some ⟨r, 0, none⟩), .int .i64 (deep - 1)] wr.drew fun e w' => ∃ u, e = .returned u ∧ (∃ t p'', ValAt (FreshP wr w') w' (k + 1) t u ∧ wtT (k + 1) t ≤ drB k ∧ Rd w' r p'' ∧ p'' ≤ p' + drC k ∧ But r wr w')) :=
              (ih r p' (deep - 1) wr.drew hl.out.rd (by omega) (by omega) (by omega) (by omega)).mono (fun e w' hdr => by
                obtain ⟨u, t, p'', rfl, q1, q2, q3, q4, q5⟩ := hdr
                exact ⟨u, rfl, t, p'', q1.at, q2, q3, q4, ⟨q5.os, q5.tape, q5.output, q5.size, q5.block⟩⟩)
            clear hi1
            go_wp2_with fail
            go_region_law (first
              | (refine step_call_run _ 70 _ (by rfl) (by go_simp; rw [IntKind.wrap_i64]; omega) hcall.out ?_; rintro u w7 ⟨t, p'', hu, hwt, hR7, hp7, hb7⟩; obtain ⟨u0', u1', u2', u3', u4', u5', u6', u7', u8', rfl⟩ := hu.shape; have hD7 := hl.out.dt.moved hb7; have hvl7 : w1.heap.size < w7.heap.size := hD7.out.lt; have hS7 : N ≤ w7.heap.size := hD7.NS; have yb7 := hD7.out; obtain ⟨_, _, _, _, z4⟩ := yb7.cell; have z4' := fun o => ((yb7.alloc o).cell).2.2.2.2; have hown1 := hide (hD7.vown.alloc (.cells #[.int .i64 u0', .int .i64 u1', .string u2', .slice u3' u4' u5', .slice u6' u7' u8'] 29)))
              | (refine step_append_run _ (by rfl) _ _ 27 (by rfl) _ _ (by rfl) (by rfl) (run_append_own_at (P := Tryz.prog) _ N 27 _ 29 i1 zeroVal 5 80 Tryz.underlying27 hi.out hz0' hz1' hz2' rfl (by decide) _ _ _ hown1.out ⟨w7.heap.size, 0, none⟩ 1 1 [.int .i64 u0', .int .i64 u1', .string u2', .slice u3' u4' u5', .slice u6' u7' u8'] rfl (cell_five_new _ _ _ _ _ _ _) (by intro y hy; simp at hy; rcases hy with rfl | rfl | rfl | rfl | rfl <;> rfl) (by unfold maxLen; omega) (by omega) (by rw [World.size_alloc]; omega)) ?_; rintro v' w8 ⟨o1, o2, _, o3⟩; obtain ⟨va, vn, vc, rfl⟩ := row_slice o1; have yb8 : Blk5 w8 w1.heap.size 29 (.int .i64 5) (.int .i64 0) (.string { data := #[] }) (.slice none 0 0) (.slice la ln lc) := (yb7.alloc _).of_block (o2.block w1.heap.size (by rw [World.size_alloc]; omega) (fun e => by have := hnb _ e.symm; omega)); obtain ⟨_, _, _, _, v4⟩ := yb8.cell; have v4f := yb8.frozen 4))
            all_goals
              have hx : ValAt (InD N w7 (.slice none 0 0) (.slice la ln lc)) w7 (k + 1) t (.agg #[.int .i64 u0', .int .i64 u1', .string u2', .slice u3' u4' u5', .slice u6' u7' u8']) :=
                hu.mono (fun b hb => ⟨by have := hb.1.1; omega, hb.1.2, hb.2, (fun e => by cases e), fun e => by have := (hl.out.dt.vown.lt b e).2; have := hb.1.1; omega⟩)
              have HT := hD7.tree hx o1 o2 o3
              have HLo := low_moved (w := w) hR7 (hl.out.but.trans hb7) (hl.out.res.butr hb7 (by omega)) (low_turn (c := 4) (u := .slice va vn vc) o2 hnb) hr hl.out.wN hvN
              have HD : Hid (DLoop w (p + 1 + 1 + 1) N w1.heap.size r 5 (w8.setCell ⟨w1.heap.size, 4, none⟩ (.slice va vn vc)) (.slice none 0 0) (.slice va vn vc) (m + 1) (drC k) (drB k) [] (xs ++ [t]) _ p'') :=
                ⟨HT, Nat.zero_le _, by have := hl.out.xn; rw [List.length_append, List.length_singleton]; omega, hl.out.ksz, (fun y hy => by rcases List.mem_append.1 hy with h | h; exact hl.out.xw y h; rw [List.mem_singleton.1 h]; exact hwt), HLo.1, by rw [Nat.succ_mul]; omega, HLo.2.1, HLo.2.2, hl.out.wN⟩
              clear HT HLo hx o1 o2 o3 hown1 hu hb7 hR7 hD7 yb7 yb8 z4 z4' hcall hl
              go_wp2_with fail
              go_roundw
              case rel => exact ⟨m + 1, _, _, _, _, by omega, by go_num, HD⟩
              case measure => simp [intOf]; omega
          · obtain rfl : m = n := by omega
            have hmc : m * drC k ≤ 4 * drC k := Nat.mul_le_mul_right _ (by omega)
            have HF := hide (hl.out.final (p := p) (c := drC (k + 1)) ⟨by omega, by omega⟩ (by omega) (by omega) hr)
            obtain ⟨la, ln, lc, rfl⟩ := row_slice hl.out.dt.vown
            obtain ⟨y0, y1, y2, y3, y4⟩ := hl.out.dt.out.cell
            obtain ⟨u0, u1, u2, u3, u4⟩ := hl.out.res.cell
            have uf := hl.out.res.frozen
            have hvr : w.heap.size < wr.heap.size := hl.out.res.lt
            have hvl : w1.heap.size < wr.heap.size := hl.out.dt.out.lt
            clear hl ih
            go_wp2_with fail
            exact bodyPost_ret (v := .agg #[.int .i64 5, .int .i64 0, .string { data := #[] }, .slice none 0 0, .slice la ln lc]) (by simp [results, Tryz.results70, go_sem, u0, u1, u2, u3, u4]) rfl (HF.out _ rfl)
end Go.Proofs.YtilgbnnjecpneaaGreatDoor
