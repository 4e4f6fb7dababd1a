/- Texts of the proof, put together by program: WDrawF. -/
import Derived.Test.YtilgbnnjecpneaaGreatDoorV12
/- Drawn trees: l1Bent of the model. (written by genbent.py) -/
namespace Go.Proofs.YtilgbnnjecpneaaGreatDoor
open Go.RowKit Go.Deep

def bentKinds : List Int := [-1, 7, 5, 6, 3]
def bentNums : List Int := [1, 1000001, -1000001]
def bentTexts : List ByteArray := [⟨#[65]⟩, ⟨#[97, 98, 99, 100, 101, 102, 103, 104, 105, 106, 107, 108, 109]⟩, ⟨#[97]⟩]

set_option maxRecDepth 100000 in
set_option maxHeartbeats 2000000 in
theorem l1Bent_any (r p : Nat) (w : World) (h : Rd w r p) (hp : p + 380 ≤ 1000000) :
    Calls Tryz.prog 58 #[.pointer (some ⟨r, 0, none⟩)] w (DrawnV r p 380 10 360 w) := by
  have hr := h.lt
  have hb0 := below_alloc1 w (.cells #[.int .i64 0, .int .i64 0, .string { data := #[] }, .slice none 0 0, .slice none 0 0] 29)
  have kr := res_new w
  have hR0 := h.below hb0
  obtain ⟨W0, HW⟩ : ∃ W0, Hid (W0 = w.alloc (.cells #[.int .i64 0, .int .i64 0, .string { data := #[] }, .slice none 0 0, .slice none 0 0] 29)) := ⟨_, rfl⟩
  have hz0 : w.heap.size < W0.heap.size := by rw [HW.out]; simp
  rw [← HW.out] at hb0 kr hR0
  go_enter Tryz.func58, Tryz.ntmps58
  go_wp2_with fail
  rw [← HW.out]
  refine (l1Some_any r p W0 hR0 (by omega)).mono ?_
  rintro e w2 ⟨u, t, p2, rfl, hv, hw, hR2, hp2, hb2⟩
  obtain ⟨v0, v1, v2, v3, v4, v5, v6, v7, v8, rfl⟩ := hv.at.shape
  have hz2 : W0.heap.size ≤ w2.heap.size := hb2.size
  have kr2 := kr.butr hb2 (by omega)
  have hB2 := (But.of_below hb0).trans hb2
  have ha := below_alloc1 w2 (.cells #[.int .i64 v0, .int .i64 v1, .string v2, .slice v3 v4 v5, .slice v6 v7 v8] 29)
  have hBt : Bent w (w2.alloc (.cells #[.int .i64 v0, .int .i64 v1, .string v2, .slice v3 v4 v5, .slice v6 v7 v8] 29)) r p2 w2.heap.size (.int .i64 v0) (.int .i64 v1) (.string v2) (.slice v3 v4 v5) (.slice v6 v7 v8) :=
    ⟨Blk5.new w2 _ _ _ _ _ _, kr2.below ha, hR2.below ha, hB2.trans (But.of_below ha), hr, by omega⟩
  have hVt : KeyTop (w.heap.size + 1) (FreshV w (w2.alloc (.cells #[.int .i64 v0, .int .i64 v1, .string v2, .slice v3 v4 v5, .slice v6 v7 v8] 29)) w2.heap.size) (w2.alloc (.cells #[.int .i64 v0, .int .i64 v1, .string v2, .slice v3 v4 v5, .slice v6 v7 v8] 29)) 4 t (.agg #[.int .i64 v0, .int .i64 v1, .string v2, .slice v3 v4 v5, .slice v6 v7 v8]) :=
    hv.moved (fun b hb => ha.block b hb.1.2) (fun b hb => ⟨by have := hb.1.1; omega, by have := hb.1.2; simp; omega, hb.2.of_block (ha.block b hb.1.2), by have := hb.1.2; omega⟩) (by omega)
  obtain ⟨W3, HW3⟩ : ∃ W3, Hid (W3 = w2.alloc (.cells #[.int .i64 v0, .int .i64 v1, .string v2, .slice v3 v4 v5, .slice v6 v7 v8] 29)) := ⟨_, rfl⟩
  rw [← HW3.out] at hBt hVt
  have hVB := hide hVt
  clear hv hR2 hb2 kr hR0 hb0 hB2 kr2 ha h HW hz0 hVt
  go_wp2_with fail
  rw [← HW3.out]
  clear HW3
  refine (pick_any r p2 60 W3 hBt.rd (by omega) (by omega) (by omega)).mono ?_
  rintro e w4 ⟨k, rfl, k0, k1, h4, b4, z4⟩
  have hB4 := hBt.go b4 h4
  have hV4 := keyV_go hVB.out b4 hr
  have HB := hide hB4
  have HV := hide hV4
  have hvl := hB4.var.lt
  have hrl := hB4.rd.lt
  clear hB4 hV4 hBt hVB h4 b4 z4
  by_cases hk0 : k = 0
  · subst hk0
    go_wp2_with fail
    have ha := below_alloc1 w4 (.cells (bentKinds.map (Value.int .i64)).toArray 3)
    have hza : (w4.alloc (.cells (bentKinds.map (Value.int .i64)).toArray 3)).heap.size = w4.heap.size + 1 := by simp
    refine (num_any r (p2 + 1) w4.heap.size 0 5 bentKinds (w4.alloc (.cells (bentKinds.map (Value.int .i64)).toArray 3)) (HB.out.rd.below ha) (by omega) (by omega) (by omega) (ints_new w4 3 bentKinds) (by decide) (by decide)).mono ?_
    rintro e w5 ⟨x, rfl, hx, h5, b5, z5⟩
    have hxs : I64 x := by
      have : ∀ y ∈ bentKinds, -1 ≤ y ∧ y ≤ 1000000 := by decide
      have := this x hx
      exact ⟨by omega, by omega⟩
    have hB5 := (HB.out.go (But.of_below ha) (HB.out.rd.below ha)).go b5 h5
    have hV5 := (keyV_go (keyV_go HV.out (But.of_below ha) hr) b5 hr).at
    obtain ⟨e0, e1, e2, i0, i1, i2, hks, hls⟩ := parts_of (d := 3) hV5
    have hsh : v0 = Nd.kind t ∧ v1 = Nd.num t ∧ v2 = Nd.str t := by cases e0; cases e1; cases e2; exact ⟨rfl, rfl, rfl⟩
    obtain ⟨rfl, rfl, rfl⟩ := hsh
    have hN := build_of (d := 3) hxs i1 i2 hks hls
    have ht := turn_one w5 w2.heap.size 0 (.int .i64 x)
    have hB6 := hB5.low ht (hB5.var.set0 (.int .i64 x))
    have hF := hB6.final (p := p) (c := 380) (B := 360) ((FreshV.low hN ht).upN 6) (Nat.le_trans (Nat.le_of_eq (wtT_upN 4 6 _)) (Nat.le_trans (wt_new (d := 3) hw (Nat.le_succ _)) (by omega))) (by omega)
    have HF := hide hF
    obtain ⟨y0, y1, y2, y3, y4⟩ := hB5.var.cell
    have yf := hB5.var.frozen 0
    obtain ⟨u0, u1, u2, u3, u4⟩ := hB5.res.cell
    have uf := hB5.res.frozen
    have hvr := hB5.res.lt
    have hvl5 := hB5.var.lt
    have hwv := hB6.wv
    clear hF hB6 ht hN hB5 hV5 e0 e1 e2 i0 i1 i2 hks hls HB HV ha hza h5 b5 z5 hx hw
    go_wp2_with fail
    exact bodyPost_ret (v := .agg #[.int .i64 x, .int .i64 (Nd.num (α := Tr 3) t), .string (Nd.str (α := Tr 3) t), .slice v3 v4 v5, .slice v6 v7 v8]) (by simp [results, Tryz.results58, go_sem, u0, u1, u2, u3, u4]) rfl (HF.out _ rfl)
  have hk0' : (k == 0) = false := by simpa using hk0
  by_cases hk1 : k = 1
  · subst hk1
    go_wp2_with fail
    have ha := below_alloc1 w4 (.cells (bentNums.map (Value.int .i64)).toArray 3)
    have hza : (w4.alloc (.cells (bentNums.map (Value.int .i64)).toArray 3)).heap.size = w4.heap.size + 1 := by simp
    refine (num_any r (p2 + 1) w4.heap.size 0 3 bentNums (w4.alloc (.cells (bentNums.map (Value.int .i64)).toArray 3)) (HB.out.rd.below ha) (by omega) (by omega) (by omega) (ints_new w4 3 bentNums) (by decide) (by decide)).mono ?_
    rintro e w5 ⟨x, rfl, hx, h5, b5, z5⟩
    have hxs : I64 x := by
      have : ∀ y ∈ bentNums, -1000001 ≤ y ∧ y ≤ 1000001 := by decide
      have := this x hx
      exact ⟨by omega, by omega⟩
    have hB5 := (HB.out.go (But.of_below ha) (HB.out.rd.below ha)).go b5 h5
    have hV5 := (keyV_go (keyV_go HV.out (But.of_below ha) hr) b5 hr).at
    obtain ⟨e0, e1, e2, i0, i1, i2, hks, hls⟩ := parts_of (d := 3) hV5
    have hsh : v0 = Nd.kind t ∧ v1 = Nd.num t ∧ v2 = Nd.str t := by cases e0; cases e1; cases e2; exact ⟨rfl, rfl, rfl⟩
    obtain ⟨rfl, rfl, rfl⟩ := hsh
    have hN := build_of (d := 3) i0 hxs i2 hks hls
    have ht := turn_one w5 w2.heap.size 1 (.int .i64 x)
    have hB6 := hB5.low ht (blk_set1 hB5.var (.int .i64 x))
    have hF := hB6.final (p := p) (c := 380) (B := 360) ((FreshV.low hN ht).upN 6) (Nat.le_trans (Nat.le_of_eq (wtT_upN 4 6 _)) (Nat.le_trans (wt_new (d := 3) hw (Nat.le_succ _)) (by omega))) (by omega)
    have HF := hide hF
    obtain ⟨y0, y1, y2, y3, y4⟩ := hB5.var.cell
    have yf := hB5.var.frozen 1
    obtain ⟨u0, u1, u2, u3, u4⟩ := hB5.res.cell
    have uf := hB5.res.frozen
    have hvr := hB5.res.lt
    have hvl5 := hB5.var.lt
    have hwv := hB6.wv
    clear hF hB6 ht hN hB5 hV5 e0 e1 e2 i0 i1 i2 hks hls HB HV ha hza h5 b5 z5 hx hw
    go_wp2_with fail
    exact bodyPost_ret (v := .agg #[.int .i64 (Nd.kind (α := Tr 3) t), .int .i64 x, .string (Nd.str (α := Tr 3) t), .slice v3 v4 v5, .slice v6 v7 v8]) (by simp [results, Tryz.results58, go_sem, u0, u1, u2, u3, u4]) rfl (HF.out _ rfl)
  have hk1' : (k == 1) = false := by simpa using hk1
  by_cases hk2 : k = 2
  · subst hk2
    go_wp2_with fail
    have ha := below_alloc1 w4 (.cells (bentTexts.map Value.string).toArray 9)
    have hza : (w4.alloc (.cells (bentTexts.map Value.string).toArray 9)).heap.size = w4.heap.size + 1 := by simp
    refine (of_any r (p2 + 1) w4.heap.size 0 3 bentTexts (w4.alloc (.cells (bentTexts.map Value.string).toArray 9)) (HB.out.rd.below ha) (by omega) (by omega) (by omega) (texts_new w4 9 bentTexts) (by decide) (by decide)).mono ?_
    rintro e w5 ⟨x, rfl, hx, h5, b5, z5⟩
    have hxs : x.size < 281474976710656 := by
      have : ∀ y ∈ bentTexts, y.size ≤ 13 := by decide
      have := this x hx
      omega
    have hB5 := (HB.out.go (But.of_below ha) (HB.out.rd.below ha)).go b5 h5
    have hV5 := (keyV_go (keyV_go HV.out (But.of_below ha) hr) b5 hr).at
    obtain ⟨e0, e1, e2, i0, i1, i2, hks, hls⟩ := parts_of (d := 3) hV5
    have hsh : v0 = Nd.kind t ∧ v1 = Nd.num t ∧ v2 = Nd.str t := by cases e0; cases e1; cases e2; exact ⟨rfl, rfl, rfl⟩
    obtain ⟨rfl, rfl, rfl⟩ := hsh
    have hN := build_of (d := 3) i0 i1 hxs hks hls
    have ht := turn_one w5 w2.heap.size 2 (.string x)
    have hB6 := hB5.low ht (blk_set2 hB5.var (.string x))
    have hF := hB6.final (p := p) (c := 380) (B := 360) ((FreshV.low hN ht).upN 6) (Nat.le_trans (Nat.le_of_eq (wtT_upN 4 6 _)) (Nat.le_trans (wt_new (d := 3) hw (Nat.le_succ _)) (by omega))) (by omega)
    have HF := hide hF
    obtain ⟨y0, y1, y2, y3, y4⟩ := hB5.var.cell
    have yf := hB5.var.frozen 2
    obtain ⟨u0, u1, u2, u3, u4⟩ := hB5.res.cell
    have uf := hB5.res.frozen
    have hvr := hB5.res.lt
    have hvl5 := hB5.var.lt
    have hwv := hB6.wv
    clear hF hB6 ht hN hB5 hV5 e0 e1 e2 i0 i1 i2 hks hls HB HV ha hza h5 b5 z5 hx hw
    go_wp2_with fail
    exact bodyPost_ret (v := .agg #[.int .i64 (Nd.kind (α := Tr 3) t), .int .i64 (Nd.num (α := Tr 3) t), .string x, .slice v3 v4 v5, .slice v6 v7 v8]) (by simp [results, Tryz.results58, go_sem, u0, u1, u2, u3, u4]) rfl (HF.out _ rfl)
  have hk2' : (k == 2) = false := by simpa using hk2
  by_cases hk3 : k = 3
  · subst hk3
    obtain ⟨kv0, lv0, hu, i1, i2, i3, hks, hkl, ho, hob, hl⟩ := HV.out
    obtain ⟨rfl, rfl, rfl, rfl, rfl⟩ : v0 = Nd.kind t ∧ v1 = Nd.num t ∧ v2 = Nd.str t ∧ kv0 = .slice v3 v4 v5 ∧ lv0 = .slice v6 v7 v8 := by cases hu; exact ⟨rfl, rfl, rfl, rfl, rfl⟩
    have hkn : (Nd.keys t).length < 900 := by
      have e : wtT 4 t = 3 + (Nd.keys t).length + ((Nd.list t).map (wtT 3)).sum := rfl
      omega
    obtain ⟨j1, hj1, hz0', hz1', hz2'⟩ := info_parts Tryz.infoS2
    have hi := hide hj1
    have hown1 := ho.alloc (.cells #[.string ⟨#[97]⟩] 9)
    have hnb : ∀ g, (Value.slice v3 v4 v5).ownBlock = some g → w.heap.size + 1 ≤ g := fun g hg => (ho.lt g hg).1
    have hnv : ∀ g, (Value.slice v3 v4 v5).ownBlock = some g → g ≠ w2.heap.size := fun g hg => (hob g hg).2.2.2
    have hwv := HB.out.wv
    have hvr := HB.out.res.lt
    have hstep : Hid (∀ ty, ∃ v' w', (Builtin.append_ #[22, 22] ty #[.slice v3 v4 v5, .slice (some ⟨w4.heap.size, 0, none⟩) 1 1]).run Tryz.prog (w4.alloc (.cells #[.string ⟨#[97]⟩] 9)) = .ok v' w' ∧ Hid (∃ va vn vc, v' = .slice va vn vc ∧ w2.heap.size < w'.heap.size ∧ Blk5 w' w2.heap.size 29 (.int .i64 (Nd.kind (α := Tr 3) t)) (.int .i64 (Nd.num (α := Tr 3) t)) (.string (Nd.str (α := Tr 3) t)) (.slice v3 v4 v5) (.slice v6 v7 v8) ∧ Blk5 w' w.heap.size 29 (.int .i64 0) (.int .i64 0) (.string { data := #[] }) (.slice none 0 0) (.slice none 0 0) ∧
        ∀ wF, wF = set5 (w'.setCell ⟨w2.heap.size, 3, none⟩ (.slice va vn vc)) w.heap.size 0 (.int .i64 (Nd.kind (α := Tr 3) t)) (.int .i64 (Nd.num (α := Tr 3) t)) (.string (Nd.str (α := Tr 3) t)) (.slice va vn vc) (.slice v6 v7 v8) → DrawnV r p 380 10 360 w (.returned (.agg #[.int .i64 (Nd.kind (α := Tr 3) t), .int .i64 (Nd.num (α := Tr 3) t), .string (Nd.str (α := Tr 3) t), .slice va vn vc, .slice v6 v7 v8])) wF)) := by
      intro ty
      obtain ⟨v', w6, hrn, o1, o2, _, o3⟩ := run_append_own_at (P := Tryz.prog) (w4.alloc (.cells #[.string ⟨#[97]⟩] 9)) (w.heap.size + 1) 22 ty 9 j1 (.string ByteArray.empty) 1 16 Tryz.underlying22 hi.out hz0' hz1' hz2' rfl (by decide) _ _ _ hown1 ⟨w4.heap.size, 0, none⟩ 1 1 [.string ⟨#[97]⟩] rfl (cell_one_new _ _ _) (by intro y hy; simp at hy; rcases hy with rfl; rfl) (by unfold maxLen; omega) (by omega) (by rw [World.size_alloc]; omega)
      obtain ⟨va, vn, vc, rfl⟩ := row_slice o1
      have hbk := bent_key (d := 3) (s := ⟨#[97]⟩) HB.out HV.out hkn (by show (1 : Nat) < _; omega) o1 o2 o3
      have hF := hbk.1.final (p := p) (c := 380) (B := 360) (hbk.2.upN 6) (Nat.le_trans (Nat.le_of_eq (wtT_upN 4 6 _)) (Nat.le_trans (wt_new (d := 3) hw (by rw [List.length_append, List.length_singleton]; exact Nat.le_refl _)) (by omega))) (by omega)
      have hz6 := o2.size
      rw [World.size_alloc] at hz6
      refine ⟨_, w6, hrn, va, vn, vc, rfl, by omega, (HB.out.var.alloc _).of_block (o2.block w2.heap.size (by rw [World.size_alloc]; omega) (fun e => hnv _ e.symm rfl)), (HB.out.res.alloc _).of_block (o2.block w.heap.size (by rw [World.size_alloc]; omega) (fun e => by have := hnb _ e.symm; omega)), hF⟩
    obtain ⟨y0, y1, y2, y3, y4⟩ := HB.out.var.cell
    clear hj1 ho hob hl hu hown1 HB HV hnb hnv hi
    go_wp2_with (at_builtin; refine wpList_append_phi (fun v' w' => Hid (∃ va vn vc, v' = .slice va vn vc ∧ w2.heap.size < w'.heap.size ∧ Blk5 w' w2.heap.size 29 (.int .i64 (Nd.kind (α := Tr 3) t)) (.int .i64 (Nd.num (α := Tr 3) t)) (.string (Nd.str (α := Tr 3) t)) (.slice v3 v4 v5) (.slice v6 v7 v8) ∧ Blk5 w' w.heap.size 29 (.int .i64 0) (.int .i64 0) (.string { data := #[] }) (.slice none 0 0) (.slice none 0 0) ∧
        ∀ wF, wF = set5 (w'.setCell ⟨w2.heap.size, 3, none⟩ (.slice va vn vc)) w.heap.size 0 (.int .i64 (Nd.kind (α := Tr 3) t)) (.int .i64 (Nd.num (α := Tr 3) t)) (.string (Nd.str (α := Tr 3) t)) (.slice va vn vc) (.slice v6 v7 v8) → DrawnV r p 380 10 360 w (.returned (.agg #[.int .i64 (Nd.kind (α := Tr 3) t), .int .i64 (Nd.num (α := Tr 3) t), .string (Nd.str (α := Tr 3) t), .slice va vn vc, .slice v6 v7 v8])) wF)) rfl _ _ 22 rfl (.slice v3 v4 v5) (.slice (some ⟨w4.heap.size, 0, none⟩) 1 1) rfl rfl (hstep.out 22) ?_)
    rintro v' w6 hph
    obtain ⟨va, vn, vc, hvv, hz6, kv6, kr6, hF⟩ := hph.out
    have hVV : Hid (v' = .slice va vn vc) := hvv
    rw [hVV.out]
    have HF := hide hF
    obtain ⟨x0, x1, x2, x3, x4⟩ := kv6.cell
    have xf := kv6.frozen 3
    obtain ⟨u0, u1, u2, u3, u4⟩ := kr6.cell
    have uf := kr6.frozen
    have hvr6 := kr6.lt
    clear hph hstep kv6 kr6 hF hvv hVV y0 y1 y2 y3 y4
    go_wp2_with fail
    exact bodyPost_ret (v := .agg #[.int .i64 (Nd.kind (α := Tr 3) t), .int .i64 (Nd.num (α := Tr 3) t), .string (Nd.str (α := Tr 3) t), .slice va vn vc, .slice v6 v7 v8]) (by simp [results, Tryz.results58, go_sem, u0, u1, u2, u3, u4]) rfl HF.out
  have hk3' : (k == 3) = false := by simpa using hk3
  by_cases hk4 : k = 4
  · subst hk4
    have hL0 : Hid (∃ t' : Tr (4 + 0), ValAt (FreshV w w4 w2.heap.size) w4 (4 + 0) t' (.agg #[.int .i64 v0, .int .i64 v1, .string v2, .slice v3 v4 v5, .slice v6 v7 v8]) ∧ wtT (4 + 0) t' ≤ 339 + 3 * 0) := ⟨t, HV.out.at, hw⟩
    obtain ⟨y0, y1, y2, y3, y4⟩ := HB.out.var.cell
    clear HV
    go_wp2_with fail
    go_loopw [4] (fun i wr => ∃ (m : Nat) (q0 q1 : Int) (q2 : ByteArray) (q3 : Option Addr) (q4 q5 : Nat) (q6 : Option Addr) (q7 q8 : Nat), m ≤ 6 ∧ i = .int .i64 (m : Int) ∧ Hid (Bent w wr r (p2 + 1) w2.heap.size (.int .i64 q0) (.int .i64 q1) (.string q2) (.slice q3 q4 q5) (.slice q6 q7 q8)) ∧ Hid (∃ t' : Tr (4 + m), ValAt (FreshV w wr w2.heap.size) wr (4 + m) t' (.agg #[.int .i64 q0, .int .i64 q1, .string q2, .slice q3 q4 q5, .slice q6 q7 q8]) ∧ wtT (4 + m) t' ≤ 339 + 3 * m)) (fun i _ => 6 - (intOf i).toNat)
    case atStart => exact ⟨0, _, _, _, _, _, _, _, _, _, Nat.zero_le _, rfl, HB, hL0⟩
    case round =>
      clear hL0 y0 y1 y2 y3 y4 HB hvl hrl
      obtain ⟨m, q0, q1, q2, q3, q4, q5, q6, q7, q8, hm, rfl, HB, HT⟩ := hrel
      obtain ⟨y0, y1, y2, y3, y4⟩ := HB.out.var.cell
      have yf := HB.out.var.frozen
      have hvl := HB.out.var.lt
      by_cases hm6 : m < 6
      · have hm6' : (m : Int) < 6 := by omega
        obtain ⟨t', hV', hw'⟩ := HT.out
        have hwr := bent_wrap HB.out hV'
        have HB' := hide hwr.1
        have HT' : Hid (∃ t'' : Tr (4 + (m + 1)), ValAt (FreshV w ((set5 wr w2.heap.size 0 (.int .i64 5) (.int .i64 0) (.string { data := #[] }) (.slice none 0 0) (.slice (some ⟨wr.heap.size, 0, none⟩) 1 1)).alloc (.cells #[.int .i64 q0, .int .i64 q1, .string q2, .slice q3 q4 q5, .slice q6 q7 q8] 29)) w2.heap.size) ((set5 wr w2.heap.size 0 (.int .i64 5) (.int .i64 0) (.string { data := #[] }) (.slice none 0 0) (.slice (some ⟨wr.heap.size, 0, none⟩) 1 1)).alloc (.cells #[.int .i64 q0, .int .i64 q1, .string q2, .slice q3 q4 q5, .slice q6 q7 q8] 29)) (4 + (m + 1)) t'' (.agg #[.int .i64 5, .int .i64 0, .string { data := #[] }, .slice none 0 0, .slice (some ⟨wr.heap.size, 0, none⟩) 1 1]) ∧ wtT (4 + (m + 1)) t'' ≤ 339 + 3 * (m + 1)) :=
          ⟨_, hwr.2, by show 3 + 0 + (wtT (4 + m) t' + 0) ≤ _; omega⟩
        clear hwr hV' HT HB
        go_wp2_with fail
        go_roundw
        case rel => exact ⟨m + 1, _, _, _, _, _, _, _, _, _, by omega, by go_num, HB', HT'⟩
        case measure => simp [intOf]; omega
      · obtain rfl : m = 6 := by omega
        obtain ⟨t', hV', hw'⟩ := HT.out
        have HF := hide (HB.out.final (p := p) (c := 380) (B := 360) hV' (by omega) (by omega))
        obtain ⟨u0, u1, u2, u3, u4⟩ := HB.out.res.cell
        have uf := HB.out.res.frozen
        have hvr := HB.out.res.lt
        clear hV' HT HB
        go_wp2_with fail
        exact bodyPost_ret (v := .agg #[.int .i64 q0, .int .i64 q1, .string q2, .slice q3 q4 q5, .slice q6 q7 q8]) (by simp [results, Tryz.results58, go_sem, u0, u1, u2, u3, u4]) rfl (HF.out _ rfl)
  have hk4' : (k == 4) = false := by simpa using hk4
  have HF := hide (HB.out.final (p := p) (c := 380) (B := 360) (HV.out.at.upN 6) (Nat.le_trans (Nat.le_of_eq (wtT_upN 4 6 _)) (by omega)) (by omega))
  obtain ⟨y0, y1, y2, y3, y4⟩ := HB.out.var.cell
  obtain ⟨u0, u1, u2, u3, u4⟩ := HB.out.res.cell
  have uf := HB.out.res.frozen
  have hvr := HB.out.res.lt
  clear HB HV
  go_wp2_with fail
  exact bodyPost_ret (v := .agg #[.int .i64 v0, .int .i64 v1, .string v2, .slice v3 v4 v5, .slice v6 v7 v8]) (by simp [results, Tryz.results58, go_sem, u0, u1, u2, u3, u4]) rfl (HF.out _ rfl)
end Go.Proofs.YtilgbnnjecpneaaGreatDoor
