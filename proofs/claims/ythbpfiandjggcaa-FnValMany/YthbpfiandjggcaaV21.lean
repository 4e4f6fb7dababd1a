/- Texts of the proof, put together by program: WDrawI. -/
import Derived.Test.YthbpfiandjggcaaV20
/- Drawn trees: l1Two of the model. -/
namespace Go.Proofs.Ythbpfiandjggcaa
open Go.RowKit Go.Deep

set_option maxRecDepth 100000 in
set_option maxHeartbeats 16000000 in
theorem l1Two_any (a : Option Addr) (n cap : Nat) (w : World) (hcap : n ≤ cap) (h : BytesAt w.heap.size w a n) :
    Calls Try.prog 17 #[.slice a n cap] w (TwoD w) := by
  have hb0 := below_trans (below_alloc1 w (.cells #[.int .i64 0, .int .i64 0, .string { data := #[] }, .slice none 0 0, .slice none 0 0] 26)) (below_alloc1 (w.alloc (.cells #[.int .i64 0, .int .i64 0, .string { data := #[] }, .slice none 0 0, .slice none 0 0] 26)) (.cells #[.int .i64 0, .int .i64 0, .string { data := #[] }, .slice none 0 0, .slice none 0 0] 26))
  obtain ⟨kr, kq, _⟩ := two_blocks w 26 (.int .i64 0) (.int .i64 0) (.string { data := #[] }) (.slice none 0 0) (.slice none 0 0) (.int .i64 0) (.int .i64 0) (.string { data := #[] }) (.slice none 0 0) (.slice none 0 0)
  obtain ⟨W0, HW⟩ : ∃ W0, Hid (W0 = (w.alloc (.cells #[.int .i64 0, .int .i64 0, .string { data := #[] }, .slice none 0 0, .slice none 0 0] 26)).alloc (.cells #[.int .i64 0, .int .i64 0, .string { data := #[] }, .slice none 0 0, .slice none 0 0] 26)) := ⟨_, rfl⟩
  have hz0 : w.heap.size + 1 < W0.heap.size := by rw [HW.out]; simp
  rw [← HW.out] at hb0 kr kq
  have hBy := h.wider (r' := W0.heap.size) (fun b hb => hb0.block b hb) (by omega)
  clear h
  go_enter Try.func17, Try.ntmps17
  go_wp2_with fail
  rw [← HW.out]
  clear HW
  refine (l11Open_any a n cap W0 hcap hBy).mono ?_
  rintro e w1 ⟨rfl, hR1, hb1, hz1⟩
  replace kr := kr.below hb1
  replace kq := kq.below hb1
  have hB1 := below_trans hb0 hb1
  clear hBy hb0 hb1
  go_wp2_with fail
  refine (l1Bent_any W0.heap.size 0 w1 hR1 (by omega)).mono ?_
  rintro e w2 ⟨u, t, p2, rfl, hv, hw, hR2, hp2, hb2⟩
  obtain ⟨v0, v1, v2, v3, v4, v5, v6, v7, v8, rfl⟩ := hv.shape
  have hB2 := but_below hB1 hb2 (by omega) (by omega)
  replace kr := kr.butr hb2 (by omega)
  replace kq := kq.butr hb2 (by omega)
  have hz2 : w1.heap.size ≤ w2.heap.size := hb2.size
  have ha := below_alloc1 w2 (.cells #[.int .i64 v0, .int .i64 v1, .string v2, .slice v3 v4 v5, .slice v6 v7 v8] 26)
  have kv := Blk5.new w2 26 (.int .i64 v0) (.int .i64 v1) (.string v2) (.slice v3 v4 v5) (.slice v6 v7 v8)
  obtain ⟨W3, HW3⟩ : ∃ W3, Hid (W3 = w2.alloc (.cells #[.int .i64 v0, .int .i64 v1, .string v2, .slice v3 v4 v5, .slice v6 v7 v8] 26)) := ⟨_, rfl⟩
  have hz3 : w2.heap.size < W3.heap.size := by rw [HW3.out]; simp
  rw [← HW3.out] at ha kv
  replace kr := kr.below ha
  replace kq := kq.below ha
  have hR3 := hR2.below ha
  have hB3 := below_trans hB2 ha
  have hV3 : ValAt (FreshR W0.heap.size w2.heap.size W3) W3 10 t (.agg #[.int .i64 v0, .int .i64 v1, .string v2, .slice v3 v4 v5, .slice v6 v7 v8]) := ValAt.moved (fun b hb => ha.block b hb.1.2) (fun b hb => ⟨by have := hb.1.1; omega, hb.1.2, hb.2.of_block (ha.block b hb.1.2)⟩) 10 t _ hv
  have hrl := hR2.lt
  clear hR1 hB1 hb2 hB2 hR2 hv ha
  go_wp2_with fail
  rw [← HW3.out]
  clear HW3
  refine (pick_any W0.heap.size p2 6 W3 hR3 (by omega) (by omega) (by omega)).mono ?_
  rintro e w4 ⟨k, rfl, k0, k1, h4, b4, z4⟩
  replace kr := kr.butr b4 (by omega)
  replace kq := kq.butr b4 (by omega)
  replace kv := kv.butr b4 (by omega)
  have hB4 := but_below hB3 b4 (by omega) (by omega)
  have hV4 := FreshR.go hV3 b4 (by omega) (by omega)
  have hWi : Within (FreshR W0.heap.size w2.heap.size w4) w4 := fun b hb => by have := hb.2.1; omega
  have hcall : Hid (Calls Try.prog 29 #[.agg #[.int .i64 v0, .int .i64 v1, .string v2, .slice v3 v4 v5, .slice v6 v7 v8]] w4.drew fun e w' => ∃ u, e = .returned u ∧ (ValAt (fun b => Fresh w4 w' b ∧ Plain w' b) w' 10 t u ∧ Below w4.heap.size w4 w')) :=
    (l1Copy_any 10 _ t _ w4.drew (hV4.same (fun _ _ => rfl)) hWi (by omega)).mono (fun e w' hc => by
      obtain ⟨u, he, hu, hb⟩ := hc
      exact ⟨u, he, own_plain 10 _ t u hu, ⟨hb.os, hb.tape, hb.output, hb.size, hb.block⟩⟩)
  have hz4 : W3.heap.size ≤ w4.heap.size := b4.size
  have hne1 : ¬ w2.heap.size = w.heap.size := by omega
  have hne2 : ¬ w2.heap.size = w.heap.size + 1 := by omega
  have hvl := kv.lt
  have hrl := kr.lt
  have hql := kq.lt
  by_cases hk0 : k = 0
  · subst hk0
    obtain ⟨y0, y1, y2, y3, y4⟩ := kv.cell
    obtain ⟨r0, r1, r2, r3, r4⟩ := kr.cell
    have rf := kr.frozen
    clear h4 b4 z4 hB3 hV3 hR3
    go_wp2_with fail
    go_region_law ((refine step_call_run _ 29 _ (by rfl) (by go_simp) hcall.out ?_; rintro u w5 ⟨hu, hb5⟩; obtain ⟨u0', u1', u2', u3', u4', u5', u6', u7', u8', rfl⟩ := hu.shape; have kv5 := kv.of_block (hb5.block _ kv.lt); have kr5 := kr.of_block (hb5.block _ kr.lt); have kq5 := kq.of_block (hb5.block _ kq.lt); obtain ⟨a0, a1, a2, a3, a4⟩ := kv5.cell; obtain ⟨b0, b1, b2, b3, b4⟩ := kr5.cell; have bf := kr5.frozen; obtain ⟨c0, c1, c2, c3, c4⟩ := kq5.cell; have cf := kq5.frozen; have hl5 := kv5.lt; have hr5 := kr5.lt; have hq5 := kq5.lt))
    all_goals
      have hb5' : Below w4.heap.size w4 w5 := ⟨hb5.os, hb5.tape, hb5.output, hb5.size, hb5.block⟩
      have hs5 := hb5'.size
      have hF := twoD_end ((ValAt.upN (d := 10) (FreshR.go (r := 0) hV4 (But.of_below hb5') (by omega) (by omega)) 1).mono (S' := FreshT w w5) (fun b hb => ⟨by have := hb.1; omega, by have := hb.2.1; omega, hb.2.2⟩)) (Nat.le_trans (Nat.le_of_eq (wtT_upN 10 1 t)) (by omega)) ((ValAt.upN (d := 10) hu 1).mono (S' := FreshT w w5) (fun b hb => ⟨by have := hb.1.1; omega, hb.1.2, hb.2⟩)) (Nat.le_trans (Nat.le_of_eq (wtT_upN 10 1 t)) (by omega)) (below_trans hB4 hb5')
      have HF := hide hF
      clear hF hu hb5' hb5 kv5 kr5 kq5 kv kr kq hV4 hcall hB4
      go_wp2_with fail
      exact bodyPost_ret (v := .tuple #[.agg #[.int .i64 v0, .int .i64 v1, .string v2, .slice v3 v4 v5, .slice v6 v7 v8], .agg #[.int .i64 u0', .int .i64 u1', .string u2', .slice u3' u4' u5', .slice u6' u7' u8']]) (by simp [results, Try.results17, go_sem, b0, b1, b2, b3, b4, c0, c1, c2, c3, c4]) rfl (HF.out _ rfl)
  have hk0' : (k == 0) = false := by simpa using hk0
  by_cases hk1 : k = 1
  · subst hk1
    clear hcall
    have hcA : Hid (∀ W, Below w4.heap.size w4 W → Calls Try.prog 29 #[.agg #[.int .i64 v0, .int .i64 v1, .string v2, .slice v3 v4 v5, .slice v6 v7 v8]] W fun e w' => ∃ u, e = .returned u ∧ (∃ q0 q1 q2 q3 q4 q5 q6 q7 q8, u = .agg #[.int .i64 q0, .int .i64 q1, .string q2, .slice q3 q4 q5, .slice q6 q7 q8] ∧ ValAt (fun b => Fresh W w' b ∧ Plain w' b) w' 10 t u ∧ Below W.heap.size W w')) := fun W hW =>
      (l1Copy_any 10 _ t _ W (hV4.same (hWi.same hW)) (hWi.later hW.size) (by omega)).mono (fun e w' hc => by
        obtain ⟨u, he, hu, hb⟩ := hc
        have hsh := (own_plain 10 _ t u hu).shape
        exact ⟨u, he, hsh.elim fun q0 h => h.elim fun q1 h => h.elim fun q2 h => h.elim fun q3 h => h.elim fun q4 h => h.elim fun q5 h => h.elim fun q6 h => h.elim fun q7 h => h.elim fun q8 h => ⟨q0, q1, q2, q3, q4, q5, q6, q7, q8, h, own_plain 10 _ t u hu, hb⟩⟩)
    have hcB : Hid (∀ W, Below w4.heap.size w4 W → Calls Try.prog 30 #[.pointer (some ⟨W0.heap.size, 0, none⟩)] W fun e w' => ∃ u, e = .returned u ∧ (∃ t' : Tr 10, ∃ q0 q1 q2 q3 q4 q5 q6 q7 q8, u = .agg #[.int .i64 q0, .int .i64 q1, .string q2, .slice q3 q4 q5, .slice q6 q7 q8] ∧ ValAt (FreshP W w') w' 10 t' u ∧ wtT 10 t' ≤ 3 ∧ But W0.heap.size W w')) := fun W hW =>
      (l1Leaf_any 9 W0.heap.size (p2 + 1) W (h4.below hW) (by omega)).mono (fun e w' hc => by
        obtain ⟨u, t', p', he, hu, hw', _, _, hb⟩ := hc
        have hsh := hu.at.shape
        exact ⟨u, he, t', hsh.elim fun q0 h => h.elim fun q1 h => h.elim fun q2 h => h.elim fun q3 h => h.elim fun q4 h => h.elim fun q5 h => h.elim fun q6 h => h.elim fun q7 h => h.elim fun q8 h => ⟨q0, q1, q2, q3, q4, q5, q6, q7, q8, h, hu.at, hw', hb⟩⟩)
    have bd1 : Below w4.heap.size w4 w4.drew := ⟨rfl, rfl, rfl, Nat.le_refl _, fun _ _ => rfl⟩
    have bd2 : Below w4.heap.size w4 (w4.alloc (.cells #[.int .i64 v0, .int .i64 v1, .string v2, .slice v3 v4 v5, .slice v6 v7 v8] 26)).drew := below_drew1 (below_alloc1 _ _)
    obtain ⟨y0, y1, y2, y3, y4⟩ := kv.cell
    obtain ⟨r0, r1, r2, r3, r4⟩ := kr.cell
    have rf := kr.frozen
    clear h4 b4 z4 hB3 hV3 hR3
    go_upto_region 7 with fail
    go_cut [2, 3] (fun p q wc => p = .pointer (some ⟨w.heap.size, 0, none⟩) ∧ q = .pointer (some ⟨w.heap.size + 1, 0, none⟩) ∧ ∃ g1 g2, Hid (Blk5 wc w.heap.size 26 (.int .i64 5) (.int .i64 0) (.string { data := #[] }) (.slice none 0 0) (.slice (some ⟨g1, 0, none⟩) 1 1)) ∧ Hid (Blk5 wc (w.heap.size + 1) 26 (.int .i64 5) (.int .i64 0) (.string { data := #[] }) (.slice none 0 0) (.slice (some ⟨g2, 0, none⟩) 2 2)) ∧ Hid (TwoD w (.returned (.tuple #[.agg #[.int .i64 5, .int .i64 0, .string { data := #[] }, .slice none 0 0, .slice (some ⟨g1, 0, none⟩) 1 1], .agg #[.int .i64 5, .int .i64 0, .string { data := #[] }, .slice none 0 0, .slice (some ⟨g2, 0, none⟩) 2 2]])) wc))
    case rest =>
      obtain ⟨rfl, rfl, g1, g2, K1, K2, HF⟩ := hcut
      obtain ⟨c0, c1, c2, c3, c4⟩ := K1.out.cell
      obtain ⟨e0, e1, e2, e3, e4⟩ := K2.out.cell
      clear y0 y1 y2 y3 y4 r0 r1 r2 r3 r4 rf hV4 hcA hcB bd1 bd2 kv kr kq hB4 K1 K2
      go_wp2_with fail
      exact bodyPost_ret (v := .tuple #[.agg #[.int .i64 5, .int .i64 0, .string { data := #[] }, .slice none 0 0, .slice (some ⟨g1, 0, none⟩) 1 1], .agg #[.int .i64 5, .int .i64 0, .string { data := #[] }, .slice none 0 0, .slice (some ⟨g2, 0, none⟩) 2 2]]) (by simp [results, Try.results17, go_sem, c0, c1, c2, c3, c4, e0, e1, e2, e3, e4]) rfl HF.out
    case first =>
     rename_i J K' hJ hMeet
     go_region_law (first
       | (refine step_sel 29 _ _ (by rfl) ?_; refine step_call_run _ 29 _ (by rfl) (by go_simp) (hcA.out _ (by with_reducible assumption)) ?_; rintro u wA ⟨a0', a1', a2', a3', a4', a5', a6', a7', a8', rfl, hA, hbA⟩; have bA : Below w4.heap.size w4 wA := below_trans (a := w4) (by with_reducible assumption) hbA; have bAX : Below w4.heap.size w4 (wA.alloc (.cells #[.int .i64 v0, .int .i64 v1, .string v2, .slice v3 v4 v5, .slice v6 v7 v8] 26)) := below_trans bA (below_alloc1 _ _); have kvA := kv.of_block (bA.block _ hvl); obtain ⟨x0, x1, x2, x3, x4⟩ := kvA.cell; have xl := kvA.lt)
       | (refine step_sel 30 _ _ (by rfl) ?_; refine step_call_run _ 30 _ (by rfl) (by go_simp) (hcB.out _ (by with_reducible assumption)) ?_; rintro u wB ⟨t', b0', b1', b2', b3', b4', b5', b6', b7', b8', rfl, hBv, hwB, hbB⟩; have bB : Below w.heap.size w wB := but_below (w1 := wA) (below_trans hB4 bA) (by first | exact hbB | exact (But.of_below (below_alloc1 _ _)).trans hbB) (by omega) (by omega); have hBA : But W0.heap.size wA wB := (by first | exact hbB | exact (But.of_below (below_alloc1 _ _)).trans hbB); have kvB := kvA.butr hBA (by omega); obtain ⟨z0, z1, z2, z3, z4⟩ := kvB.cell; have zl := kvB.lt; have krB := (kr.of_block (bA.block _ hrl)).butr hBA (by omega); have kqB := (kq.of_block (bA.block _ hql)).butr hBA (by omega); obtain ⟨c0, c1, c2, c3, c4⟩ := krB.cell; have cf := krB.frozen; have cl := krB.lt; obtain ⟨e0, e1, e2, e3, e4⟩ := kqB.cell; have ef := kqB.frozen; have el := kqB.lt))
     all_goals
       have TB : ValAt (FreshT w wB) wB 10 t (.agg #[.int .i64 v0, .int .i64 v1, .string v2, .slice v3 v4 v5, .slice v6 v7 v8]) := (FreshR.go (FreshR.go (r := 0) hV4 (But.of_below bA) (by omega) (by omega)) hBA (by omega) (by have := bA.size; omega)).mono (fun b hb => ⟨by have := hb.1; omega, by have := hb.2.1; have := hBA.size; have := bA.size; omega, hb.2.2⟩)
       have hAl := bA.size
       have hBl := hBA.size
       have CB : ValAt (FreshT w wB) wB 10 t (.agg #[.int .i64 a0', .int .i64 a1', .string a2', .slice a3' a4' a5', .slice a6' a7' a8']) := (FreshR.go (lo := w2.heap.size) (hi := wA.heap.size) (hA.mono (fun b hb => ⟨by first | exact Nat.lt_of_lt_of_le hvl hb.1.1 | exact Nat.lt_of_lt_of_le hvl (Nat.le_trans bd2.size hb.1.1), hb.1.2, hb.2⟩)) hBA (by omega) (Nat.le_refl _)).mono (fun b hb => ⟨by have := hb.1; omega, by have := hb.2.1; omega, hb.2.2⟩)
       have LB : ValAt (FreshT w wB) wB 10 t' (.agg #[.int .i64 b0', .int .i64 b1', .string b2', .slice b3' b4' b5', .slice b6' b7' b8']) := hBv.mono (fun b hb => ⟨by first | exact Nat.lt_of_lt_of_le (by omega) hb.1.1 | exact Nat.lt_of_lt_of_le (by omega) (Nat.le_trans (below_alloc1 wA (.cells #[.int .i64 v0, .int .i64 v1, .string v2, .slice v3 v4 v5, .slice v6 v7 v8] 26)).size hb.1.1), hb.1.2, hb.2⟩)
       first
         | (have hbA' : Below (w4.alloc (.cells #[.int .i64 v0, .int .i64 v1, .string v2, .slice v3 v4 v5, .slice v6 v7 v8] 26)).drew.heap.size (w4.alloc (.cells #[.int .i64 v0, .int .i64 v1, .string v2, .slice v3 v4 v5, .slice v6 v7 v8] 26)).drew wA := (by with_reducible assumption); have n1 : Blk5 (w4.alloc (.cells #[.int .i64 v0, .int .i64 v1, .string v2, .slice v3 v4 v5, .slice v6 v7 v8] 26)).drew w4.heap.size 26 _ _ _ _ _ := Blk5.new w4 _ _ _ _ _ _; have n2 := ((n1.of_block (hbA'.block _ n1.lt)).butr hBA (by omega)); have hF := rows_meet (wF := (rows2 wB w.heap.size (w4.heap.size) (wB.heap.size)).alloc (.cells #[.int .i64 a0', .int .i64 a1', .string a2', .slice a3' a4' a5', .slice a6' a7' a8', .int .i64 b0', .int .i64 b1', .string b2', .slice b3' b4' b5', .slice b6' b7' b8'] 26)) (g1 := w4.heap.size) (g2 := wB.heap.size) TB CB LB hw hw hwB bB krB kqB (by have hz := rows2_size wB w.heap.size (w4.heap.size) (wB.heap.size); have h0 := Below.refl wB.heap.size (rows2 wB w.heap.size (w4.heap.size) (wB.heap.size)); exact h0.alloc (Nat.le_of_eq hz.symm) _) ((n2.of_block (rows2_block wB w.heap.size _ _ _ (by omega))).alloc _) (by omega) (by have := heap_alloc_new (rows2 wB w.heap.size (w4.heap.size) (wB.heap.size)) (.cells #[.int .i64 a0', .int .i64 a1', .string a2', .slice a3' a4' a5', .slice a6' a7' a8', .int .i64 b0', .int .i64 b1', .string b2', .slice b3' b4' b5', .slice b6' b7' b8'] 26); rw [rows2_size] at this; exact this) (by omega); unfold rows2 set5 at hF; simp only [Nat.zero_add] at hF; dsimp only [Exit.then]; refine hMeet _ _ (Met.intro (hJ _ _ ?_)); (repeat apply Exists.intro); first | with_reducible exact ⟨⟨rfl, rfl, _, _, hF.1, hF.2.1, hF.2.2⟩, rfl⟩ | exact ⟨⟨rfl, rfl, _, _, hF.1, hF.2.1, hF.2.2⟩, rfl⟩)
         | (have hbB' : But W0.heap.size (wA.alloc (.cells #[.int .i64 v0, .int .i64 v1, .string v2, .slice v3 v4 v5, .slice v6 v7 v8] 26)) wB := (by with_reducible assumption); have n1 : Blk5 (wA.alloc (.cells #[.int .i64 v0, .int .i64 v1, .string v2, .slice v3 v4 v5, .slice v6 v7 v8] 26)) wA.heap.size 26 _ _ _ _ _ := Blk5.new wA _ _ _ _ _ _; have n2 := n1.butr hbB' (by omega); have hF := rows_meet (wF := (rows2 wB w.heap.size (wA.heap.size) (wB.heap.size)).alloc (.cells #[.int .i64 a0', .int .i64 a1', .string a2', .slice a3' a4' a5', .slice a6' a7' a8', .int .i64 b0', .int .i64 b1', .string b2', .slice b3' b4' b5', .slice b6' b7' b8'] 26)) (g1 := wA.heap.size) (g2 := wB.heap.size) TB CB LB hw hw hwB bB krB kqB (by have hz := rows2_size wB w.heap.size (wA.heap.size) (wB.heap.size); have h0 := Below.refl wB.heap.size (rows2 wB w.heap.size (wA.heap.size) (wB.heap.size)); exact h0.alloc (Nat.le_of_eq hz.symm) _) ((n2.of_block (rows2_block wB w.heap.size _ _ _ (by omega))).alloc _) (by omega) (by have := heap_alloc_new (rows2 wB w.heap.size (wA.heap.size) (wB.heap.size)) (.cells #[.int .i64 a0', .int .i64 a1', .string a2', .slice a3' a4' a5', .slice a6' a7' a8', .int .i64 b0', .int .i64 b1', .string b2', .slice b3' b4' b5', .slice b6' b7' b8'] 26); rw [rows2_size] at this; exact this) (by omega); unfold rows2 set5 at hF; simp only [Nat.zero_add] at hF; dsimp only [Exit.then]; refine hMeet _ _ (Met.intro (hJ _ _ ?_)); (repeat apply Exists.intro); first | with_reducible exact ⟨⟨rfl, rfl, _, _, hF.1, hF.2.1, hF.2.2⟩, rfl⟩ | exact ⟨⟨rfl, rfl, _, _, hF.1, hF.2.1, hF.2.2⟩, rfl⟩)
         | (have n1 := Blk5.new (rows2 wB w.heap.size (wB.heap.size) (wB.heap.size + 1)) 26 (.int .i64 v0) (.int .i64 v1) (.string v2) (.slice v3 v4 v5) (.slice v6 v7 v8); have n2 := heap_alloc_new ((rows2 wB w.heap.size (wB.heap.size) (wB.heap.size + 1)).alloc (.cells #[.int .i64 v0, .int .i64 v1, .string v2, .slice v3 v4 v5, .slice v6 v7 v8] 26)) (.cells #[.int .i64 a0', .int .i64 a1', .string a2', .slice a3' a4' a5', .slice a6' a7' a8', .int .i64 b0', .int .i64 b1', .string b2', .slice b3' b4' b5', .slice b6' b7' b8'] 26); rw [World.size_alloc] at n2; rw [rows2_size] at n1 n2; have hF := rows_meet (wF := ((rows2 wB w.heap.size (wB.heap.size) (wB.heap.size + 1)).alloc (.cells #[.int .i64 v0, .int .i64 v1, .string v2, .slice v3 v4 v5, .slice v6 v7 v8] 26)).alloc (.cells #[.int .i64 a0', .int .i64 a1', .string a2', .slice a3' a4' a5', .slice a6' a7' a8', .int .i64 b0', .int .i64 b1', .string b2', .slice b3' b4' b5', .slice b6' b7' b8'] 26)) (g1 := wB.heap.size) (g2 := wB.heap.size + 1) TB CB LB hw hw hwB bB krB kqB (by have hz := rows2_size wB w.heap.size (wB.heap.size) (wB.heap.size + 1); have h0 := Below.refl wB.heap.size (rows2 wB w.heap.size (wB.heap.size) (wB.heap.size + 1)); exact (h0.alloc (Nat.le_of_eq hz.symm) _).alloc (by rw [World.size_alloc, hz]; omega) _) (n1.alloc _) (by omega) n2 (by omega); unfold rows2 set5 at hF; simp only [Nat.zero_add] at hF; dsimp only [Exit.then]; refine hMeet _ _ (Met.intro (hJ _ _ ?_)); (repeat apply Exists.intro); with_reducible exact ⟨⟨rfl, rfl, _, _, hF.1, hF.2.1, hF.2.2⟩, rfl⟩)
         | (have n1 := Blk5.new ((rows2 wB w.heap.size (wB.heap.size + 1) (wB.heap.size)).alloc (.cells #[.int .i64 a0', .int .i64 a1', .string a2', .slice a3' a4' a5', .slice a6' a7' a8', .int .i64 b0', .int .i64 b1', .string b2', .slice b3' b4' b5', .slice b6' b7' b8'] 26)) 26 (.int .i64 v0) (.int .i64 v1) (.string v2) (.slice v3 v4 v5) (.slice v6 v7 v8); have n2 := heap_alloc_new (rows2 wB w.heap.size (wB.heap.size + 1) (wB.heap.size)) (.cells #[.int .i64 a0', .int .i64 a1', .string a2', .slice a3' a4' a5', .slice a6' a7' a8', .int .i64 b0', .int .i64 b1', .string b2', .slice b3' b4' b5', .slice b6' b7' b8'] 26); rw [World.size_alloc] at n1; rw [rows2_size] at n1 n2; have hF := rows_meet (wF := ((rows2 wB w.heap.size (wB.heap.size + 1) (wB.heap.size)).alloc (.cells #[.int .i64 a0', .int .i64 a1', .string a2', .slice a3' a4' a5', .slice a6' a7' a8', .int .i64 b0', .int .i64 b1', .string b2', .slice b3' b4' b5', .slice b6' b7' b8'] 26)).alloc (.cells #[.int .i64 v0, .int .i64 v1, .string v2, .slice v3 v4 v5, .slice v6 v7 v8] 26)) (g1 := wB.heap.size + 1) (g2 := wB.heap.size) TB CB LB hw hw hwB bB krB kqB (by have hz := rows2_size wB w.heap.size (wB.heap.size + 1) (wB.heap.size); have h0 := Below.refl wB.heap.size (rows2 wB w.heap.size (wB.heap.size + 1) (wB.heap.size)); exact (h0.alloc (Nat.le_of_eq hz.symm) _).alloc (by rw [World.size_alloc, hz]; omega) _) n1 (by omega) ((Below.heap_alloc _ _ _ (by rw [World.size_alloc, rows2_size]; omega)).trans n2) (by omega); unfold rows2 set5 at hF; simp only [Nat.zero_add] at hF; dsimp only [Exit.then]; refine hMeet _ _ (Met.intro (hJ _ _ ?_)); (repeat apply Exists.intro); with_reducible exact ⟨⟨rfl, rfl, _, _, hF.1, hF.2.1, hF.2.2⟩, rfl⟩)
  have hk1' : (k == 1) = false := by simpa using hk1
  clear hcall
  have hcall : Hid (Calls Try.prog 18 #[.pointer (some ⟨W0.heap.size, 0, none⟩)] w4.drew fun e w' => ∃ u, e = .returned u ∧ (∃ t' : Tr 10, ValAt (FreshP w4 w') w' 10 t' u ∧ wtT 10 t' ≤ 360 ∧ But W0.heap.size w4 w')) :=
    (l1Bent_any W0.heap.size (p2 + 1) w4.drew h4 (by omega)).mono (fun e w' hc => by
      obtain ⟨u, t', p', he, hu, hw', _, _, hb⟩ := hc
      exact ⟨u, he, t', hu, hw', ⟨hb.os, hb.tape, hb.output, hb.size, hb.block⟩⟩)
  obtain ⟨y0, y1, y2, y3, y4⟩ := kv.cell
  obtain ⟨r0, r1, r2, r3, r4⟩ := kr.cell
  have rf := kr.frozen
  clear h4 b4 z4 hB3 hV3 hR3
  go_wp2_with fail
  go_region_law ((refine step_call_run _ 18 _ (by rfl) (by go_simp) hcall.out ?_; rintro u w5 ⟨t', hu, hwu, hb5⟩; obtain ⟨u0', u1', u2', u3', u4', u5', u6', u7', u8', rfl⟩ := hu.shape; have kv5 := kv.butr hb5 (by omega); have kr5 := kr.butr hb5 (by omega); have kq5 := kq.butr hb5 (by omega); obtain ⟨a0, a1, a2, a3, a4⟩ := kv5.cell; obtain ⟨b0, b1, b2, b3, b4⟩ := kr5.cell; have bf := kr5.frozen; obtain ⟨c0, c1, c2, c3, c4⟩ := kq5.cell; have cf := kq5.frozen; have hl5 := kv5.lt; have hr5 := kr5.lt; have hq5 := kq5.lt))
  all_goals
      have hb5' := but_below hB4 hb5 (by omega) (by omega)
      have hs5 := hb5.size
      have hF := twoD_end ((ValAt.upN (d := 10) (FreshR.go hV4 hb5 (by omega) (by omega)) 1).mono (S' := FreshT w w5) (fun b hb => ⟨by have := hb.1; omega, by have := hb.2.1; omega, hb.2.2⟩)) (Nat.le_trans (Nat.le_of_eq (wtT_upN 10 1 t)) (by omega)) ((ValAt.upN (d := 10) hu 1).mono (S' := FreshT w w5) (fun b hb => ⟨by have := hb.1.1; omega, hb.1.2, hb.2⟩)) (Nat.le_trans (Nat.le_of_eq (wtT_upN 10 1 t')) (by omega)) hb5'
      have HF := hide hF
      clear hF hu hb5' hb5 kv5 kr5 kq5 kv kr kq hV4 hcall hB4
      go_wp2_with fail
      exact bodyPost_ret (v := .tuple #[.agg #[.int .i64 v0, .int .i64 v1, .string v2, .slice v3 v4 v5, .slice v6 v7 v8], .agg #[.int .i64 u0', .int .i64 u1', .string u2', .slice u3' u4' u5', .slice u6' u7' u8']]) (by simp [results, Try.results17, go_sem, b0, b1, b2, b3, b4, c0, c1, c2, c3, c4]) rfl (HF.out _ rfl)
end Go.Proofs.Ythbpfiandjggcaa
