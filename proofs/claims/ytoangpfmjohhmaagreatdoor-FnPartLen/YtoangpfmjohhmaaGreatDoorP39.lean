/- Texts of the proof, put together by program: WDrawM. -/
import Derived.Test.YtoangpfmjohhmaaGreatDoorP33
/- What the law of PartAdd draws: two trees, likely of one kind. -/
namespace Go.Proofs.YtoangpfmjohhmaaGreatDoor
open Go.RowKit Go.Deep

set_option maxRecDepth 100000 in
set_option maxHeartbeats 1000000 in
theorem drawPartLen_any (a : Option Addr) (n cap : Nat) (w : World) (hcap : n ≤ cap) (h : BytesAt w.heap.size w a n) :
    Calls Tryz.prog 14 #[.slice a n cap] w (OneD w) := by
  have hb0 := below_alloc1 w (.cells #[.int .i64 0, .int .i64 0, .string { data := #[] }, .slice none 0 0, .slice none 0 0] 26)
  have kr := res_new w
  obtain ⟨W0, HW⟩ : ∃ W0, Hid (W0 = w.alloc (.cells #[.int .i64 0, .int .i64 0, .string { data := #[] }, .slice none 0 0, .slice none 0 0] 26)) := ⟨_, rfl⟩
  have hz0 : w.heap.size < W0.heap.size := by rw [HW.out]; simp
  rw [← HW.out] at hb0 kr
  have hBy := h.wider (r' := W0.heap.size) (fun b hb => hb0.block b hb) (by omega)
  clear h
  go_enter Tryz.func14, Tryz.ntmps14
  go_wp2_with fail
  rw [← HW.out]
  clear HW
  refine (l11Open_any a n cap W0 hcap hBy).mono ?_
  rintro e w1 ⟨rfl, hR1, hb1, hz1⟩
  replace kr := kr.below hb1
  have hB1 := below_trans hb0 hb1
  clear hBy hb0 hb1
  go_wp2_with fail
  refine (l1Bent_any W0.heap.size 0 w1 hR1 (by omega)).mono ?_
  rintro e w2 ⟨u, t, p2, rfl, hv, hw, hR2, hp2, hb2⟩
  obtain ⟨v0, v1, v2, v3, v4, v5, v6, v7, v8, rfl⟩ := hv.shape
  have hB2 := but_below hB1 hb2 (by omega) (by omega)
  replace kr := kr.butr hb2 (by omega)
  have hF := oneD_end ((ValAt.upN (d := 10) hv 1).mono (S' := FreshQ w w2) (fun b hb => ⟨by have := hb.1.1; omega, hb.1.2, hb.2⟩)) (Nat.le_trans (Nat.le_of_eq (wtT_upN 10 1 t)) (by omega)) hB2
  have HF := hide hF
  obtain ⟨y0, y1, y2, y3, y4⟩ := kr.cell
  have yf := kr.frozen
  clear hF kr hB2 hb2 hv hR1 hR2 hB1
  go_wp2_with fail
  exact bodyPost_ret (v := .agg #[.int .i64 v0, .int .i64 v1, .string v2, .slice v3 v4 v5, .slice v6 v7 v8]) (by simp [results, Tryz.results14, go_sem, y0, y1, y2, y3, y4]) rfl (HF.out _ rfl)


theorem TwoD.drew {w w' : World} {e : Ending} (h : TwoD w e w') : TwoD w e w'.drew := by
  obtain ⟨u, t, u', t', he, h1, h2, h3, h4, hb⟩ := h
  exact ⟨u, t, u', t', he, ValAt.moved (fun _ _ => rfl) (fun b hb => hb) 11 t u h1, h2, ValAt.moved (fun _ _ => rfl) (fun b hb => hb) 11 t' u' h3, h4, below_drew1 hb⟩
/-- What stands while the second tree is drawn anew. -/
structure AddL (w wr : World) (r vb va p : Nat) (a0 a1 a2 a3 a4 c0 c1 c2 c3 c4 : Value) (s t : Tr 10) : Prop where
  one : PutL w wr r (r + 1) vb p c0 c1 c2 c3 c4 t
  av : Blk5 wr va 26 a0 a1 a2 a3 a4
  val : ValAt (FreshZ (r + 1) vb wr) wr 10 s (.agg #[a0, a1, a2, a3, a4])
  wt : wtT 10 s ≤ 360
  hne : va ≠ vb
  hra : r < va
theorem AddL.next {w wr wX wF : World} {r vb va p p' : Nat} {a0 a1 a2 a3 a4 c0 c1 c2 c3 c4 u0 u1 u2 u3 u4 : Value} {s t t' : Tr 10} (h : AddL w wr r vb va p a0 a1 a2 a3 a4 c0 c1 c2 c3 c4 s t) (hb : But r wr wX) (hR : Rd wX r p') (hv : ValAt (FreshP wr wX) wX 10 t' (.agg #[u0, u1, u2, u3, u4])) (hw : wtT 10 t' ≤ 360)
    (hF : wF = set5 wX vb 0 u0 u1 u2 u3 u4) : AddL w wF r vb va p' a0 a1 a2 a3 a4 u0 u1 u2 u3 u4 s t' := by
  have hs : ∀ b, b ≠ vb → wF.heap[b]? = wX.heap[b]? := fun b hb' => by rw [hF]; exact set5_block _ _ _ _ _ _ _ _ _ hb'
  have hl2 : Below vb wX wF := by rw [hF]; exact below_set5 (Below.refl _ _) (Nat.le_refl _) _ _ _ _ _ _
  have ht : Turn (fun b => b = vb) wX wF := ⟨hl2.os, hl2.tape, hl2.output, hl2.size, fun b _ hn => hs b hn⟩
  have hra := h.hra
  exact ⟨h.one.next hb hR hv hw hF, (h.av.butr hb (by omega)).of_block (hs _ h.hne), FreshZ.turn (FreshZ.but h.val hb (by omega)) ht, h.wt, h.hne, h.hra⟩

set_option maxRecDepth 100000 in
set_option maxHeartbeats 4000000 in
theorem drawPartAdd_any (a : Option Addr) (n cap : Nat) (w : World) (hcap : n ≤ cap) (h : BytesAt w.heap.size w a n) :
    Calls Tryz.prog 8 #[.slice a n cap] w (TwoD w) := by
  have hb0 := below_trans (below_alloc1 w (.cells #[.int .i64 0, .int .i64 0, .string { data := #[] }, .slice none 0 0, .slice none 0 0] 26)) (below_alloc1 (w.alloc (.cells #[.int .i64 0, .int .i64 0, .string { data := #[] }, .slice none 0 0, .slice none 0 0] 26)) (.cells #[.int .i64 0, .int .i64 0, .string { data := #[] }, .slice none 0 0, .slice none 0 0] 26))
  obtain ⟨kr, kq, _⟩ := two_blocks w 26 (.int .i64 0) (.int .i64 0) (.string { data := #[] }) (.slice none 0 0) (.slice none 0 0) (.int .i64 0) (.int .i64 0) (.string { data := #[] }) (.slice none 0 0) (.slice none 0 0)
  obtain ⟨W0, HW⟩ : ∃ W0, Hid (W0 = (w.alloc (.cells #[.int .i64 0, .int .i64 0, .string { data := #[] }, .slice none 0 0, .slice none 0 0] 26)).alloc (.cells #[.int .i64 0, .int .i64 0, .string { data := #[] }, .slice none 0 0, .slice none 0 0] 26)) := ⟨_, rfl⟩
  have hz0 : w.heap.size + 1 < W0.heap.size := by rw [HW.out]; simp
  rw [← HW.out] at hb0 kr kq
  have hBy := h.wider (r' := W0.heap.size) (fun b hb => hb0.block b hb) (by omega)
  clear h
  go_enter Tryz.func8, Tryz.ntmps8
  go_wp2_with fail
  rw [← HW.out]
  clear HW
  refine (l11Open_any a n cap W0 hcap hBy).mono ?_
  rintro e w1 ⟨rfl, hR1, hb1, hz1⟩
  replace kr := kr.below hb1
  replace kq := kq.below hb1
  have hB1 := below_trans hb0 hb1
  clear hBy hb0 hb1
  go_wp2_with fail
  refine (l1Bent_any W0.heap.size 0 w1 hR1 (by omega)).mono ?_
  rintro e w2 ⟨u, s, p2, rfl, hv, hw, hR2, hp2, hb2⟩
  obtain ⟨v0, v1, v2, v3, v4, v5, v6, v7, v8, rfl⟩ := hv.shape
  have hB2 := but_below hB1 hb2 (by omega) (by omega)
  replace kr := kr.butr hb2 (by omega)
  replace kq := kq.butr hb2 (by omega)
  have hz2 : w1.heap.size ≤ w2.heap.size := hb2.size
  have ha := below_alloc1 w2 (.cells #[.int .i64 v0, .int .i64 v1, .string v2, .slice v3 v4 v5, .slice v6 v7 v8] 26)
  have kv := Blk5.new w2 26 (.int .i64 v0) (.int .i64 v1) (.string v2) (.slice v3 v4 v5) (.slice v6 v7 v8)
  obtain ⟨W3, HW3⟩ : ∃ W3, Hid (W3 = w2.alloc (.cells #[.int .i64 v0, .int .i64 v1, .string v2, .slice v3 v4 v5, .slice v6 v7 v8] 26)) := ⟨_, rfl⟩
  have hz3 : w2.heap.size < W3.heap.size := by rw [HW3.out]; simp
  rw [← HW3.out] at ha kv
  replace kr := kr.below ha
  replace kq := kq.below ha
  have hR3 := hR2.below ha
  have hB3 := below_trans hB2 ha
  have hV3 : ValAt (FreshR W0.heap.size w2.heap.size W3) W3 10 s (.agg #[.int .i64 v0, .int .i64 v1, .string v2, .slice v3 v4 v5, .slice v6 v7 v8]) := ValAt.moved (fun b hb => ha.block b hb.1.2) (fun b hb => ⟨by have := hb.1.1; omega, hb.1.2, hb.2.of_block (ha.block b hb.1.2)⟩) 10 s _ hv
  clear hR1 hB1 hb2 hB2 hR2 hv ha
  go_wp2_with fail
  rw [← HW3.out]
  refine (l1Bent_any W0.heap.size p2 W3 hR3 (by omega)).mono ?_
  rintro e w4 ⟨u, t, p4, rfl, hx, hwx, hR4, hp4, hb4⟩
  obtain ⟨x0, x1, x2, x3, x4, x5, x6, x7, x8, rfl⟩ := hx.shape
  have hB4 := but_below hB3 hb4 (by omega) (by omega)
  have hz4 : W3.heap.size ≤ w4.heap.size := hb4.size
  have hV4 := FreshR.go hV3 hb4 (by omega) (by omega)
  have ha := below_alloc1 w4 (.cells #[.int .i64 x0, .int .i64 x1, .string x2, .slice x3 x4 x5, .slice x6 x7 x8] 26)
  have kx := Blk5.new w4 26 (.int .i64 x0) (.int .i64 x1) (.string x2) (.slice x3 x4 x5) (.slice x6 x7 x8)
  obtain ⟨W5, HW5⟩ : ∃ W5, Hid (W5 = w4.alloc (.cells #[.int .i64 x0, .int .i64 x1, .string x2, .slice x3 x4 x5, .slice x6 x7 x8] 26)) := ⟨_, rfl⟩
  rw [← HW5.out] at ha kx
  have HP : Hid (AddL w W5 W0.heap.size w4.heap.size w2.heap.size p4 (.int .i64 v0) (.int .i64 v1) (.string v2) (.slice v3 v4 v5) (.slice v6 v7 v8) (.int .i64 x0) (.int .i64 x1) (.string x2) (.slice x3 x4 x5) (.slice x6 x7 x8) s t) :=
    ⟨⟨kx, (kr.butr hb4 (by omega)).below ha, (kq.butr hb4 (by omega)).below ha, hR4.below ha, ValAt.moved (fun b hb => ha.block b hb.1.2) (fun b hb => ⟨by have := hb.1.1; omega, by have := hb.1.2; have := ha.size; omega, hb.2.of_block (ha.block b hb.1.2), by have := hb.1.2; omega⟩) 10 t _ hx, hwx, below_trans hB4 ha, by omega, by omega, by omega⟩,
      (kv.butr hb4 (by omega)).below ha, ValAt.moved (fun b hb => ha.block b (by have := hb.2.1; omega)) (fun b hb => ⟨by have := hb.1; omega, by have := hb.2.1; have := ha.size; omega, hb.2.2.of_block (ha.block b (by have := hb.2.1; omega)), by have := hb.2.1; omega⟩) 10 s _ hV4, hw, by omega, by omega⟩
  have hvb : W0.heap.size + 1 ≤ w4.heap.size := by omega
  have hv24 : w2.heap.size < w4.heap.size := by omega
  have hv02 : W0.heap.size < w2.heap.size := by omega
  clear hR3 hB3 hb4 hB4 hR4 hx ha kr kq kv kx hV3 hV4 HW3
  go_wp2_with fail
  rw [← HW5.out]
  clear HW5
  go_loopw [7] (fun i wr => ∃ k : Nat, k ≤ 3 ∧ i = .int .i64 (k : Int) ∧ ∃ (c0 c1 : Int) (c2 : ByteArray) (c3 : Option Addr) (c4 c5 : Nat) (c6 : Option Addr) (c7 c8 : Nat) (tt : Tr 10) (p : Nat), p ≤ 760 + 370 * k ∧ Hid (AddL w wr W0.heap.size w4.heap.size w2.heap.size p (.int .i64 v0) (.int .i64 v1) (.string v2) (.slice v3 v4 v5) (.slice v6 v7 v8) (.int .i64 c0) (.int .i64 c1) (.string c2) (.slice c3 c4 c5) (.slice c6 c7 c8) s tt)) (fun i _ => 3 - (intOf i).toNat)
  case atStart => exact ⟨0, by omega, rfl, x0, x1, x2, x3, x4, x5, x6, x7, x8, t, p4, by omega, HP⟩
  case round =>
    clear HP
    obtain ⟨k, hk, rfl, c0, c1, c2, c3, c4, c5, c6, c7, c8, tt, p, hp, HQ⟩ := hrel
    obtain ⟨z0, z1, z2, z3, z4⟩ := HQ.out.one.var.cell
    obtain ⟨y0, y1, y2, y3, y4⟩ := HQ.out.av.cell
    have hwr := HQ.out.one.hr
    have hvl := HQ.out.one.var.lt
    by_cases hgo : k < 3 ∧ v0 ≠ c0
    · obtain ⟨hk3, h6⟩ := hgo
      have hk3' : (k : Int) < 3 := by omega
      have h6' : (v0 != c0) = true := by simpa using h6
      have hrd := HQ.out.one.rd
      go_wp2_with fail
      refine (l1Some_any W0.heap.size p _ hrd (by omega)).mono ?_
      rintro e w6 ⟨u, t5, p5, rfl, hv5, hw5, hR5, hp5, hb5⟩
      obtain ⟨u0, u1, u2, u3, u4, u5, u6, u7, u8, rfl⟩ := hv5.at.shape
      have kv5 := HQ.out.one.var.butr hb5 (by omega)
      obtain ⟨f0, f1, f2, f3, f4⟩ := kv5.cell
      have ff := kv5.frozen
      have HN : Hid (∀ wF, wF = set5 w6 w4.heap.size 0 (.int .i64 u0) (.int .i64 u1) (.string u2) (.slice u3 u4 u5) (.slice u6 u7 u8) → AddL w wF W0.heap.size w4.heap.size w2.heap.size p5 (.int .i64 v0) (.int .i64 v1) (.string v2) (.slice v3 v4 v5) (.slice v6 v7 v8) (.int .i64 u0) (.int .i64 u1) (.string u2) (.slice u3 u4 u5) (.slice u6 u7 u8) s (upN 4 6 t5)) :=
        fun wF hF => HQ.out.next hb5 hR5 ((ValAt.upN (d := 4) hv5.at 6)) (Nat.le_trans (Nat.le_of_eq (wtT_upN 4 6 t5)) (by omega)) hF
      clear HQ kv5 hv5 hR5 hb5 hrd z0 z1 z2 z3 z4 y0 y1 y2 y3 y4
      go_wp2_with fail
      go_roundw
      case rel => exact ⟨k + 1, by omega, by go_num, u0, u1, u2, u3, u4, u5, u6, u7, u8, upN 4 6 t5, p5, by omega, HN.out _ rfl⟩
      case measure => simp [intOf]; omega
    · have hout : (¬ k < 3 ∧ k = 3) ∨ (k < 3 ∧ v0 = c0) := by
        by_cases h3 : k < 3
        · refine Or.inr ⟨h3, ?_⟩
          by_cases h6 : v0 = c0
          · exact h6
          · exact absurd ⟨h3, h6⟩ hgo
        · exact Or.inl ⟨h3, by omega⟩
      have kr := HQ.out.one.r1
      have kq := HQ.out.one.r2
      have hF := twoD_end (wX := wr) ((ValAt.upN (d := 10) HQ.out.val 1).mono (S' := FreshT w wr) (fun b hb => ⟨by have := hb.1; omega, hb.2.1, hb.2.2.1⟩)) (Nat.le_trans (Nat.le_of_eq (wtT_upN 10 1 s)) (by have := HQ.out.wt; omega)) ((ValAt.upN (d := 10) HQ.out.one.val 1).mono (S' := FreshT w wr) (fun b hb => ⟨by have := hb.1; omega, hb.2.1, hb.2.2.1⟩)) (Nat.le_trans (Nat.le_of_eq (wtT_upN 10 1 tt)) (by have := HQ.out.one.wt; omega)) HQ.out.one.bel
      have HF := hide hF
      obtain ⟨b0, b1, b2, b3, b4⟩ := kr.cell
      have bf := kr.frozen
      obtain ⟨g0, g1, g2, g3, g4⟩ := kq.cell
      have gf := kq.frozen
      have hl1 := kr.lt
      have hl2 := kq.lt
      have hl3 := HQ.out.av.lt
      have hl4 := HQ.out.one.var.lt
      have m1 : ¬ w2.heap.size = w.heap.size := by omega
      have m2 : ¬ w2.heap.size = w.heap.size + 1 := by omega
      have m3 : ¬ w4.heap.size = w.heap.size := by omega
      have m4 : ¬ w4.heap.size = w.heap.size + 1 := by omega
      have hvq : ∀ q : v0 = c0, (v0 != c0) = false := fun q => by simp [q]
      clear hF kr kq HQ
      rcases hout with ⟨hk4, rfl⟩ | ⟨hk3, hvc⟩
      · clear hgo
        go_wp2_with fail
        go_region_law (fail)
        all_goals
          go_wp2_with fail
          exact bodyPost_ret (v := .tuple #[.agg #[.int .i64 v0, .int .i64 v1, .string v2, .slice v3 v4 v5, .slice v6 v7 v8], .agg #[.int .i64 c0, .int .i64 c1, .string c2, .slice c3 c4 c5, .slice c6 c7 c8]]) (by simp [results, Tryz.results8, go_sem, b0, b1, b2, b3, b4, g0, g1, g2, g3, g4]) rfl (HF.out _ rfl).drew
      · have hk3' : (k : Int) < 3 := by omega
        clear hgo hvq
        subst hvc
        go_wp2_with fail
        go_region_law (fail)
        all_goals
          go_wp2_with fail
          exact bodyPost_ret (v := .tuple #[.agg #[.int .i64 v0, .int .i64 v1, .string v2, .slice v3 v4 v5, .slice v6 v7 v8], .agg #[.int .i64 v0, .int .i64 c1, .string c2, .slice c3 c4 c5, .slice c6 c7 c8]]) (by simp [results, Tryz.results8, go_sem, b0, b1, b2, b3, b4, g0, g1, g2, g3, g4]) rfl (HF.out _ rfl).drew
end Go.Proofs.YtoangpfmjohhmaaGreatDoor
