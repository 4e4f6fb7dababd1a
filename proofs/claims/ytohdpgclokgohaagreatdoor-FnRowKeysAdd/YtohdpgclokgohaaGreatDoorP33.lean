/- Texts of the proof, put together by program: WDrawN. -/
import Derived.Test.YtohdpgclokgohaaGreatDoorP20
/- What the laws of RowPairs draw: a tree, likely one by keys. -/
namespace Go.Proofs.YtohdpgclokgohaaGreatDoor
open Go.RowKit Go.Deep

/-- What stands while the one tree is drawn anew. -/
structure OneL (w wr : World) (r lo vb p : Nat) (c0 c1 c2 c3 c4 : Value) (t : Tr 10) : Prop where
  var : Blk5 wr vb 26 c0 c1 c2 c3 c4
  r1 : Blk5 wr w.heap.size 26 (.int .i64 0) (.int .i64 0) (.string { data := #[] }) (.slice none 0 0) (.slice none 0 0)
  rd : Rd wr r p
  val : ValAt (FreshZ lo vb wr) wr 10 t (.agg #[c0, c1, c2, c3, c4])
  wt : wtT 10 t ≤ 360
  bel : Below w.heap.size w wr
  hr : w.heap.size < r
  hlo : r < lo
  hvb : lo ≤ vb

theorem OneL.but {w wr wX : World} {r lo vb p p' : Nat} {c0 c1 c2 c3 c4 : Value} {t : Tr 10} (h : OneL w wr r lo vb p c0 c1 c2 c3 c4 t) (hb : But r wr wX) (hR : Rd wX r p') : OneL w wX r lo vb p' c0 c1 c2 c3 c4 t :=
  ⟨h.var.butr hb (by have := h.hlo; have := h.hvb; omega), h.r1.butr hb (by have := h.hr; omega), hR, FreshZ.but h.val hb h.hlo, h.wt, but_below h.bel hb (by have := h.hr; omega) h.bel.size, h.hr, h.hlo, h.hvb⟩

/-- Another tree in the variable. -/
theorem OneL.next {w wr wX wF : World} {r lo vb p p' : Nat} {c0 c1 c2 c3 c4 u0 u1 u2 u3 u4 : Value} {t t' : Tr 10} (h : OneL w wr r lo vb p c0 c1 c2 c3 c4 t) (hb : But r wr wX) (hR : Rd wX r p') (hv : ValAt (FreshP wr wX) wX 10 t' (.agg #[u0, u1, u2, u3, u4])) (hw : wtT 10 t' ≤ 360)
    (hF : wF = set5 wX vb 0 u0 u1 u2 u3 u4) : OneL w wF r lo vb p' u0 u1 u2 u3 u4 t' := by
  have h' := h.but hb hR
  have h1 := h.hr
  have h2 := h.hlo
  have h3 := h.hvb
  have hs : ∀ b, b ≠ vb → wF.heap[b]? = wX.heap[b]? := fun b hb' => by rw [hF]; exact set5_block _ _ _ _ _ _ _ _ _ hb'
  have hz : wF.heap.size = wX.heap.size := by rw [hF]; exact set5_size _ _ _ _ _ _ _ _
  have hl : Below w.heap.size w wF := by rw [hF]; exact below_set5 h'.bel (by omega) _ _ _ _ _ _
  have hl2 : Below vb wX wF := by rw [hF]; exact below_set5 (Below.refl _ _) (Nat.le_refl _) _ _ _ _ _ _
  have ht : Turn (fun b => b = vb) wX wF := ⟨hl2.os, hl2.tape, hl2.output, hl2.size, fun b _ hn => hs b hn⟩
  refine ⟨?_, h'.r1.of_block (hs _ (by omega)), ?_, FreshZ.turn (FreshZ.new hv (Nat.le_trans h3 (Nat.le_of_lt h.var.lt)) h.var.lt) ht, hw, hl, h1, h2, h3⟩
  · rw [hF]; exact blk_set5 h'.var _ _ _ _ _
  · obtain ⟨a, n, cap, e1, e2, e3⟩ := hR
    exact ⟨a, n, cap, (hs r (by omega)).trans e1, e2, e3.moved (fun b hb' => hs b (by omega))⟩


set_option maxRecDepth 100000 in
set_option maxHeartbeats 4000000 in
theorem drawRowPairs_any (a : Option Addr) (n cap : Nat) (w : World) (hcap : n ≤ cap) (h : BytesAt w.heap.size w a n) :
    Calls Tryz.prog 15 #[.slice a n cap] w (OneD w) := by
  have hb0 := below_alloc1 w (.cells #[.int .i64 0, .int .i64 0, .string { data := #[] }, .slice none 0 0, .slice none 0 0] 26)
  have kr := res_new w
  obtain ⟨W0, HW⟩ : ∃ W0, Hid (W0 = w.alloc (.cells #[.int .i64 0, .int .i64 0, .string { data := #[] }, .slice none 0 0, .slice none 0 0] 26)) := ⟨_, rfl⟩
  have hz0 : w.heap.size < W0.heap.size := by rw [HW.out]; simp
  rw [← HW.out] at hb0 kr
  have hBy := h.wider (r' := W0.heap.size) (fun b hb => hb0.block b hb) (by omega)
  clear h
  go_enter Tryz.func15, Tryz.ntmps15
  go_wp2_with fail
  rw [← HW.out]
  clear HW
  refine (l11Open_any a n cap W0 hcap hBy).mono ?_
  rintro e w1 ⟨rfl, hR1, hb1, hz1⟩
  replace kr := kr.below hb1
  have hB1 := below_trans hb0 hb1
  clear hBy hb0 hb1
  go_wp2_with fail
  refine (l1Bent_any W0.heap.size 0 w1 hR1 (by omega)).mono ?_
  rintro e w2 ⟨u, t, p2, rfl, hv, hw, hR2, hp2, hb2⟩
  obtain ⟨v0, v1, v2, v3, v4, v5, v6, v7, v8, rfl⟩ := hv.shape
  have hB2 := but_below hB1 hb2 (by omega) (by omega)
  replace kr := kr.butr hb2 (by omega)
  have hz2 : w1.heap.size ≤ w2.heap.size := hb2.size
  have ha := below_alloc1 w2 (.cells #[.int .i64 v0, .int .i64 v1, .string v2, .slice v3 v4 v5, .slice v6 v7 v8] 26)
  have kv := Blk5.new w2 26 (.int .i64 v0) (.int .i64 v1) (.string v2) (.slice v3 v4 v5) (.slice v6 v7 v8)
  obtain ⟨W3, HW3⟩ : ∃ W3, Hid (W3 = w2.alloc (.cells #[.int .i64 v0, .int .i64 v1, .string v2, .slice v3 v4 v5, .slice v6 v7 v8] 26)) := ⟨_, rfl⟩
  have hz3 : w2.heap.size < W3.heap.size := by rw [HW3.out]; simp
  rw [← HW3.out] at ha kv
  have HP : Hid (OneL w W3 W0.heap.size (W0.heap.size + 1) w2.heap.size p2 (.int .i64 v0) (.int .i64 v1) (.string v2) (.slice v3 v4 v5) (.slice v6 v7 v8) t) :=
    ⟨kv, kr.below ha, hR2.below ha, ValAt.moved (fun b hb => ha.block b hb.1.2) (fun b hb => ⟨by have := hb.1.1; omega, by have := hb.1.2; omega, hb.2.of_block (ha.block b hb.1.2), by have := hb.1.2; omega⟩) 10 t _ hv, hw, below_trans hB2 ha, by omega, by omega, by omega⟩
  clear hR1 hB1 hb2 hB2 hR2 hv ha kr kv
  go_wp2_with fail
  rw [← HW3.out]
  clear HW3
  go_loopw [5] (fun i wr => ∃ k : Nat, k ≤ 4 ∧ i = .int .i64 (k : Int) ∧ ∃ (c0 c1 : Int) (c2 : ByteArray) (c3 : Option Addr) (c4 c5 : Nat) (c6 : Option Addr) (c7 c8 : Nat) (tt : Tr 10) (p : Nat), p ≤ 380 + 370 * k ∧ Hid (OneL w wr W0.heap.size (W0.heap.size + 1) w2.heap.size p (.int .i64 c0) (.int .i64 c1) (.string c2) (.slice c3 c4 c5) (.slice c6 c7 c8) tt)) (fun i _ => 4 - (intOf i).toNat)
  case atStart => exact ⟨0, by omega, rfl, v0, v1, v2, v3, v4, v5, v6, v7, v8, t, p2, by omega, HP⟩
  case round =>
    clear HP
    obtain ⟨k, hk, rfl, c0, c1, c2, c3, c4, c5, c6, c7, c8, tt, p, hp, HQ⟩ := hrel
    obtain ⟨x0, x1, x2, x3, x4⟩ := HQ.out.var.cell
    have hlo := HQ.out.hlo
    have hvb := HQ.out.hvb
    have hwr := HQ.out.hr
    have hvl := HQ.out.var.lt
    by_cases hgo : k < 4 ∧ c0 ≠ 6
    · obtain ⟨hk3, h6⟩ := hgo
      have hk3' : (k : Int) < 4 := by omega
      have h6' : (c0 != 6) = true := by simpa using h6
      have hrd := HQ.out.rd
      go_wp2_with fail
      refine (l1Some_any W0.heap.size p _ hrd (by omega)).mono ?_
      rintro e w5 ⟨u, t5, p5, rfl, hv5, hw5, hR5, hp5, hb5⟩
      obtain ⟨u0, u1, u2, u3, u4, u5, u6, u7, u8, rfl⟩ := hv5.at.shape
      have kv5 := HQ.out.var.butr hb5 (by omega)
      obtain ⟨y0, y1, y2, y3, y4⟩ := kv5.cell
      have yf := kv5.frozen
      have HN : Hid (∀ wF, wF = set5 w5 w2.heap.size 0 (.int .i64 u0) (.int .i64 u1) (.string u2) (.slice u3 u4 u5) (.slice u6 u7 u8) → OneL w wF W0.heap.size (W0.heap.size + 1) w2.heap.size p5 (.int .i64 u0) (.int .i64 u1) (.string u2) (.slice u3 u4 u5) (.slice u6 u7 u8) (upN 4 6 t5)) :=
        fun wF hF => HQ.out.next hb5 hR5 ((ValAt.upN (d := 4) hv5.at 6)) (Nat.le_trans (Nat.le_of_eq (wtT_upN 4 6 t5)) (by omega)) hF
      clear HQ kv5 hv5 hR5 hb5 hrd x0 x1 x2 x3 x4
      go_wp2_with fail
      go_roundw
      case rel => exact ⟨k + 1, by omega, by go_num, u0, u1, u2, u3, u4, u5, u6, u7, u8, upN 4 6 t5, p5, by omega, HN.out _ rfl⟩
      case measure => simp [intOf]; omega
    · have hout : (¬ k < 4 ∧ k = 4) ∨ (k < 4 ∧ c0 = 6) := by
        by_cases h3 : k < 4
        · refine Or.inr ⟨h3, ?_⟩
          by_cases h6 : c0 = 6
          · exact h6
          · exact absurd ⟨h3, h6⟩ hgo
        · exact Or.inl ⟨h3, by omega⟩
      have hF := oneD_end ((ValAt.upN (d := 10) HQ.out.val 1).mono (S' := FreshQ w wr) (fun b hb => ⟨by have := hb.1; omega, hb.2.1, hb.2.2.1⟩)) (Nat.le_trans (Nat.le_of_eq (wtT_upN 10 1 tt)) (by have := HQ.out.wt; omega)) HQ.out.bel
      have HF := hide hF
      have kr := HQ.out.r1
      obtain ⟨r0, r1, r2, r3, r4⟩ := kr.cell
      have rf := kr.frozen
      clear hF kr HQ hgo
      rcases hout with ⟨_, rfl⟩ | ⟨hk3, rfl⟩
      · go_wp2_with fail
        exact bodyPost_ret (v := .agg #[.int .i64 c0, .int .i64 c1, .string c2, .slice c3 c4 c5, .slice c6 c7 c8]) (by simp [results, Tryz.results15, go_sem, r0, r1, r2, r3, r4]) rfl (HF.out _ rfl)
      · have hk3' : (k : Int) < 4 := by omega
        go_wp2_with fail
        exact bodyPost_ret (v := .agg #[.int .i64 6, .int .i64 c1, .string c2, .slice c3 c4 c5, .slice c6 c7 c8]) (by simp [results, Tryz.results15, go_sem, r0, r1, r2, r3, r4]) rfl (HF.out _ rfl)
end Go.Proofs.YtohdpgclokgohaaGreatDoor
