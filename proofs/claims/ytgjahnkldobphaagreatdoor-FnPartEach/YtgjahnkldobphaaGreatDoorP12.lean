/- Texts of the proof, put together by program: WDrawF, WSame, WDrawH, WDrawJ, WDrawI, WOrd. -/
import Derived.Test.YtgjahnkldobphaaGreatDoorP11
import Derived.Test.YtgjahnkldobphaaGreatDoorP1
/- Drawn trees: l1Bent of the model. (written by genbent.py) -/
namespace Go.Proofs.YtgjahnkldobphaaGreatDoor
open Go.RowKit Go.Deep

def bentKinds : List Int := [-1, 7, 5, 6, 3]
def bentNums : List Int := [1, 1000001, -1000001]
def bentTexts : List ByteArray := [⟨#[65]⟩, ⟨#[97, 98, 99, 100, 101, 102, 103, 104, 105, 106, 107, 108, 109]⟩, ⟨#[97]⟩]

set_option maxRecDepth 100000 in
set_option maxHeartbeats 2000000 in
theorem l1Bent_any (r p : Nat) (w : World) (h : Rd w r p) (hp : p + 380 ≤ 1000000) :
    Calls Tryz.prog 31 #[.pointer (some ⟨r, 0, none⟩)] w (DrawnV r p 380 10 360 w) := by
  have hr := h.lt
  have hb0 := below_alloc1 w (.cells #[.int .i64 0, .int .i64 0, .string { data := #[] }, .slice none 0 0, .slice none 0 0] 26)
  have kr := res_new w
  have hR0 := h.below hb0
  obtain ⟨W0, HW⟩ : ∃ W0, Hid (W0 = w.alloc (.cells #[.int .i64 0, .int .i64 0, .string { data := #[] }, .slice none 0 0, .slice none 0 0] 26)) := ⟨_, rfl⟩
  have hz0 : w.heap.size < W0.heap.size := by rw [HW.out]; simp
  rw [← HW.out] at hb0 kr hR0
  go_enter Tryz.func31, Tryz.ntmps31
  go_wp2_with fail
  rw [← HW.out]
  refine (l1Some_any r p W0 hR0 (by omega)).mono ?_
  rintro e w2 ⟨u, t, p2, rfl, hv, hw, hR2, hp2, hb2⟩
  obtain ⟨v0, v1, v2, v3, v4, v5, v6, v7, v8, rfl⟩ := hv.at.shape
  have hz2 : W0.heap.size ≤ w2.heap.size := hb2.size
  have kr2 := kr.butr hb2 (by omega)
  have hB2 := (But.of_below hb0).trans hb2
  have ha := below_alloc1 w2 (.cells #[.int .i64 v0, .int .i64 v1, .string v2, .slice v3 v4 v5, .slice v6 v7 v8] 26)
  have hBt : Bent w (w2.alloc (.cells #[.int .i64 v0, .int .i64 v1, .string v2, .slice v3 v4 v5, .slice v6 v7 v8] 26)) r p2 w2.heap.size (.int .i64 v0) (.int .i64 v1) (.string v2) (.slice v3 v4 v5) (.slice v6 v7 v8) :=
    ⟨Blk5.new w2 _ _ _ _ _ _, kr2.below ha, hR2.below ha, hB2.trans (But.of_below ha), hr, by omega⟩
  have hVt : KeyTop (w.heap.size + 1) (FreshV w (w2.alloc (.cells #[.int .i64 v0, .int .i64 v1, .string v2, .slice v3 v4 v5, .slice v6 v7 v8] 26)) w2.heap.size) (w2.alloc (.cells #[.int .i64 v0, .int .i64 v1, .string v2, .slice v3 v4 v5, .slice v6 v7 v8] 26)) 4 t (.agg #[.int .i64 v0, .int .i64 v1, .string v2, .slice v3 v4 v5, .slice v6 v7 v8]) :=
    hv.moved (fun b hb => ha.block b hb.1.2) (fun b hb => ⟨by have := hb.1.1; omega, by have := hb.1.2; simp; omega, hb.2.of_block (ha.block b hb.1.2), by have := hb.1.2; omega⟩) (by omega)
  obtain ⟨W3, HW3⟩ : ∃ W3, Hid (W3 = w2.alloc (.cells #[.int .i64 v0, .int .i64 v1, .string v2, .slice v3 v4 v5, .slice v6 v7 v8] 26)) := ⟨_, rfl⟩
  rw [← HW3.out] at hBt hVt
  have hVB := hide hVt
  clear hv hR2 hb2 kr hR0 hb0 hB2 kr2 ha h HW hz0 hVt
  go_wp2_with fail
  rw [← HW3.out]
  clear HW3
  refine (pick_any r p2 60 W3 hBt.rd (by omega) (by omega) (by omega)).mono ?_
  rintro e w4 ⟨k, rfl, k0, k1, h4, b4, z4⟩
  have hB4 := hBt.go b4 h4
  have hV4 := keyV_go hVB.out b4 hr
  have HB := hide hB4
  have HV := hide hV4
  have hvl := hB4.var.lt
  have hrl := hB4.rd.lt
  clear hB4 hV4 hBt hVB h4 b4 z4
  by_cases hk0 : k = 0
  · subst hk0
    go_wp2_with fail
    have ha := below_alloc1 w4 (.cells (bentKinds.map (Value.int .i64)).toArray 3)
    have hza : (w4.alloc (.cells (bentKinds.map (Value.int .i64)).toArray 3)).heap.size = w4.heap.size + 1 := by simp
    refine (num_any r (p2 + 1) w4.heap.size 0 5 bentKinds (w4.alloc (.cells (bentKinds.map (Value.int .i64)).toArray 3)) (HB.out.rd.below ha) (by omega) (by omega) (by omega) (ints_new w4 3 bentKinds) (by decide) (by decide)).mono ?_
    rintro e w5 ⟨x, rfl, hx, h5, b5, z5⟩
    have hxs : I64 x := by
      have : ∀ y ∈ bentKinds, -1 ≤ y ∧ y ≤ 1000000 := by decide
      have := this x hx
      exact ⟨by omega, by omega⟩
    have hB5 := (HB.out.go (But.of_below ha) (HB.out.rd.below ha)).go b5 h5
    have hV5 := (keyV_go (keyV_go HV.out (But.of_below ha) hr) b5 hr).at
    obtain ⟨e0, e1, e2, i0, i1, i2, hks, hls⟩ := parts_of (d := 3) hV5
    have hsh : v0 = Nd.kind t ∧ v1 = Nd.num t ∧ v2 = Nd.str t := by cases e0; cases e1; cases e2; exact ⟨rfl, rfl, rfl⟩
    obtain ⟨rfl, rfl, rfl⟩ := hsh
    have hN := build_of (d := 3) hxs i1 i2 hks hls
    have ht := turn_one w5 w2.heap.size 0 (.int .i64 x)
    have hB6 := hB5.low ht (hB5.var.set0 (.int .i64 x))
    have hF := hB6.final (p := p) (c := 380) (B := 360) ((FreshV.low hN ht).upN 6) (Nat.le_trans (Nat.le_of_eq (wtT_upN 4 6 _)) (Nat.le_trans (wt_new (d := 3) hw (Nat.le_succ _)) (by omega))) (by omega)
    have HF := hide hF
    obtain ⟨y0, y1, y2, y3, y4⟩ := hB5.var.cell
    have yf := hB5.var.frozen 0
    obtain ⟨u0, u1, u2, u3, u4⟩ := hB5.res.cell
    have uf := hB5.res.frozen
    have hvr := hB5.res.lt
    have hvl5 := hB5.var.lt
    have hwv := hB6.wv
    clear hF hB6 ht hN hB5 hV5 e0 e1 e2 i0 i1 i2 hks hls HB HV ha hza h5 b5 z5 hx hw
    go_wp2_with fail
    exact bodyPost_ret (v := .agg #[.int .i64 x, .int .i64 (Nd.num (α := Tr 3) t), .string (Nd.str (α := Tr 3) t), .slice v3 v4 v5, .slice v6 v7 v8]) (by simp [results, Tryz.results31, go_sem, u0, u1, u2, u3, u4]) rfl (HF.out _ rfl)
  have hk0' : (k == 0) = false := by simpa using hk0
  by_cases hk1 : k = 1
  · subst hk1
    go_wp2_with fail
    have ha := below_alloc1 w4 (.cells (bentNums.map (Value.int .i64)).toArray 3)
    have hza : (w4.alloc (.cells (bentNums.map (Value.int .i64)).toArray 3)).heap.size = w4.heap.size + 1 := by simp
    refine (num_any r (p2 + 1) w4.heap.size 0 3 bentNums (w4.alloc (.cells (bentNums.map (Value.int .i64)).toArray 3)) (HB.out.rd.below ha) (by omega) (by omega) (by omega) (ints_new w4 3 bentNums) (by decide) (by decide)).mono ?_
    rintro e w5 ⟨x, rfl, hx, h5, b5, z5⟩
    have hxs : I64 x := by
      have : ∀ y ∈ bentNums, -1000001 ≤ y ∧ y ≤ 1000001 := by decide
      have := this x hx
      exact ⟨by omega, by omega⟩
    have hB5 := (HB.out.go (But.of_below ha) (HB.out.rd.below ha)).go b5 h5
    have hV5 := (keyV_go (keyV_go HV.out (But.of_below ha) hr) b5 hr).at
    obtain ⟨e0, e1, e2, i0, i1, i2, hks, hls⟩ := parts_of (d := 3) hV5
    have hsh : v0 = Nd.kind t ∧ v1 = Nd.num t ∧ v2 = Nd.str t := by cases e0; cases e1; cases e2; exact ⟨rfl, rfl, rfl⟩
    obtain ⟨rfl, rfl, rfl⟩ := hsh
    have hN := build_of (d := 3) i0 hxs i2 hks hls
    have ht := turn_one w5 w2.heap.size 1 (.int .i64 x)
    have hB6 := hB5.low ht (blk_set1 hB5.var (.int .i64 x))
    have hF := hB6.final (p := p) (c := 380) (B := 360) ((FreshV.low hN ht).upN 6) (Nat.le_trans (Nat.le_of_eq (wtT_upN 4 6 _)) (Nat.le_trans (wt_new (d := 3) hw (Nat.le_succ _)) (by omega))) (by omega)
    have HF := hide hF
    obtain ⟨y0, y1, y2, y3, y4⟩ := hB5.var.cell
    have yf := hB5.var.frozen 1
    obtain ⟨u0, u1, u2, u3, u4⟩ := hB5.res.cell
    have uf := hB5.res.frozen
    have hvr := hB5.res.lt
    have hvl5 := hB5.var.lt
    have hwv := hB6.wv
    clear hF hB6 ht hN hB5 hV5 e0 e1 e2 i0 i1 i2 hks hls HB HV ha hza h5 b5 z5 hx hw
    go_wp2_with fail
    exact bodyPost_ret (v := .agg #[.int .i64 (Nd.kind (α := Tr 3) t), .int .i64 x, .string (Nd.str (α := Tr 3) t), .slice v3 v4 v5, .slice v6 v7 v8]) (by simp [results, Tryz.results31, go_sem, u0, u1, u2, u3, u4]) rfl (HF.out _ rfl)
  have hk1' : (k == 1) = false := by simpa using hk1
  by_cases hk2 : k = 2
  · subst hk2
    go_wp2_with fail
    have ha := below_alloc1 w4 (.cells (bentTexts.map Value.string).toArray 9)
    have hza : (w4.alloc (.cells (bentTexts.map Value.string).toArray 9)).heap.size = w4.heap.size + 1 := by simp
    refine (of_any r (p2 + 1) w4.heap.size 0 3 bentTexts (w4.alloc (.cells (bentTexts.map Value.string).toArray 9)) (HB.out.rd.below ha) (by omega) (by omega) (by omega) (texts_new w4 9 bentTexts) (by decide) (by decide)).mono ?_
    rintro e w5 ⟨x, rfl, hx, h5, b5, z5⟩
    have hxs : x.size < 281474976710656 := by
      have : ∀ y ∈ bentTexts, y.size ≤ 13 := by decide
      have := this x hx
      omega
    have hB5 := (HB.out.go (But.of_below ha) (HB.out.rd.below ha)).go b5 h5
    have hV5 := (keyV_go (keyV_go HV.out (But.of_below ha) hr) b5 hr).at
    obtain ⟨e0, e1, e2, i0, i1, i2, hks, hls⟩ := parts_of (d := 3) hV5
    have hsh : v0 = Nd.kind t ∧ v1 = Nd.num t ∧ v2 = Nd.str t := by cases e0; cases e1; cases e2; exact ⟨rfl, rfl, rfl⟩
    obtain ⟨rfl, rfl, rfl⟩ := hsh
    have hN := build_of (d := 3) i0 i1 hxs hks hls
    have ht := turn_one w5 w2.heap.size 2 (.string x)
    have hB6 := hB5.low ht (blk_set2 hB5.var (.string x))
    have hF := hB6.final (p := p) (c := 380) (B := 360) ((FreshV.low hN ht).upN 6) (Nat.le_trans (Nat.le_of_eq (wtT_upN 4 6 _)) (Nat.le_trans (wt_new (d := 3) hw (Nat.le_succ _)) (by omega))) (by omega)
    have HF := hide hF
    obtain ⟨y0, y1, y2, y3, y4⟩ := hB5.var.cell
    have yf := hB5.var.frozen 2
    obtain ⟨u0, u1, u2, u3, u4⟩ := hB5.res.cell
    have uf := hB5.res.frozen
    have hvr := hB5.res.lt
    have hvl5 := hB5.var.lt
    have hwv := hB6.wv
    clear hF hB6 ht hN hB5 hV5 e0 e1 e2 i0 i1 i2 hks hls HB HV ha hza h5 b5 z5 hx hw
    go_wp2_with fail
    exact bodyPost_ret (v := .agg #[.int .i64 (Nd.kind (α := Tr 3) t), .int .i64 (Nd.num (α := Tr 3) t), .string x, .slice v3 v4 v5, .slice v6 v7 v8]) (by simp [results, Tryz.results31, go_sem, u0, u1, u2, u3, u4]) rfl (HF.out _ rfl)
  have hk2' : (k == 2) = false := by simpa using hk2
  by_cases hk3 : k = 3
  · subst hk3
    obtain ⟨kv0, lv0, hu, i1, i2, i3, hks, hkl, ho, hob, hl⟩ := HV.out
    obtain ⟨rfl, rfl, rfl, rfl, rfl⟩ : v0 = Nd.kind t ∧ v1 = Nd.num t ∧ v2 = Nd.str t ∧ kv0 = .slice v3 v4 v5 ∧ lv0 = .slice v6 v7 v8 := by cases hu; exact ⟨rfl, rfl, rfl, rfl, rfl⟩
    have hkn : (Nd.keys t).length < 900 := by
      have e : wtT 4 t = 3 + (Nd.keys t).length + ((Nd.list t).map (wtT 3)).sum := rfl
      omega
    obtain ⟨j1, hj1, hz0', hz1', hz2'⟩ := info_parts Tryz.infoS2
    have hi := hide hj1
    have hown1 := ho.alloc (.cells #[.string ⟨#[97]⟩] 9)
    have hnb : ∀ g, (Value.slice v3 v4 v5).ownBlock = some g → w.heap.size + 1 ≤ g := fun g hg => (ho.lt g hg).1
    have hnv : ∀ g, (Value.slice v3 v4 v5).ownBlock = some g → g ≠ w2.heap.size := fun g hg => (hob g hg).2.2.2
    have hwv := HB.out.wv
    have hvr := HB.out.res.lt
    have hstep : Hid (∀ ty, ∃ v' w', (Builtin.append_ #[23, 23] ty #[.slice v3 v4 v5, .slice (some ⟨w4.heap.size, 0, none⟩) 1 1]).run Tryz.prog (w4.alloc (.cells #[.string ⟨#[97]⟩] 9)) = .ok v' w' ∧ Hid (∃ va vn vc, v' = .slice va vn vc ∧ w2.heap.size < w'.heap.size ∧ Blk5 w' w2.heap.size 26 (.int .i64 (Nd.kind (α := Tr 3) t)) (.int .i64 (Nd.num (α := Tr 3) t)) (.string (Nd.str (α := Tr 3) t)) (.slice v3 v4 v5) (.slice v6 v7 v8) ∧ Blk5 w' w.heap.size 26 (.int .i64 0) (.int .i64 0) (.string { data := #[] }) (.slice none 0 0) (.slice none 0 0) ∧
        ∀ wF, wF = set5 (w'.setCell ⟨w2.heap.size, 3, none⟩ (.slice va vn vc)) w.heap.size 0 (.int .i64 (Nd.kind (α := Tr 3) t)) (.int .i64 (Nd.num (α := Tr 3) t)) (.string (Nd.str (α := Tr 3) t)) (.slice va vn vc) (.slice v6 v7 v8) → DrawnV r p 380 10 360 w (.returned (.agg #[.int .i64 (Nd.kind (α := Tr 3) t), .int .i64 (Nd.num (α := Tr 3) t), .string (Nd.str (α := Tr 3) t), .slice va vn vc, .slice v6 v7 v8])) wF)) := by
      intro ty
      obtain ⟨v', w6, hrn, o1, o2, _, o3⟩ := run_append_own_at (P := Tryz.prog) (w4.alloc (.cells #[.string ⟨#[97]⟩] 9)) (w.heap.size + 1) 23 ty 9 j1 (.string ByteArray.empty) 1 16 Tryz.underlying23 hi.out hz0' hz1' hz2' rfl (by decide) _ _ _ hown1 ⟨w4.heap.size, 0, none⟩ 1 1 [.string ⟨#[97]⟩] rfl (cell_one_new _ _ _) (by intro y hy; simp at hy; rcases hy with rfl; rfl) (by unfold maxLen; omega) (by omega) (by rw [World.size_alloc]; omega)
      obtain ⟨va, vn, vc, rfl⟩ := row_slice o1
      have hbk := bent_key (d := 3) (s := ⟨#[97]⟩) HB.out HV.out hkn (by show (1 : Nat) < _; omega) o1 o2 o3
      have hF := hbk.1.final (p := p) (c := 380) (B := 360) (hbk.2.upN 6) (Nat.le_trans (Nat.le_of_eq (wtT_upN 4 6 _)) (Nat.le_trans (wt_new (d := 3) hw (by rw [List.length_append, List.length_singleton]; exact Nat.le_refl _)) (by omega))) (by omega)
      have hz6 := o2.size
      rw [World.size_alloc] at hz6
      refine ⟨_, w6, hrn, va, vn, vc, rfl, by omega, (HB.out.var.alloc _).of_block (o2.block w2.heap.size (by rw [World.size_alloc]; omega) (fun e => hnv _ e.symm rfl)), (HB.out.res.alloc _).of_block (o2.block w.heap.size (by rw [World.size_alloc]; omega) (fun e => by have := hnb _ e.symm; omega)), hF⟩
    obtain ⟨y0, y1, y2, y3, y4⟩ := HB.out.var.cell
    clear hj1 ho hob hl hu hown1 HB HV hnb hnv hi
    go_wp2_with (at_builtin; refine wpList_append_phi (fun v' w' => Hid (∃ va vn vc, v' = .slice va vn vc ∧ w2.heap.size < w'.heap.size ∧ Blk5 w' w2.heap.size 26 (.int .i64 (Nd.kind (α := Tr 3) t)) (.int .i64 (Nd.num (α := Tr 3) t)) (.string (Nd.str (α := Tr 3) t)) (.slice v3 v4 v5) (.slice v6 v7 v8) ∧ Blk5 w' w.heap.size 26 (.int .i64 0) (.int .i64 0) (.string { data := #[] }) (.slice none 0 0) (.slice none 0 0) ∧
        ∀ wF, wF = set5 (w'.setCell ⟨w2.heap.size, 3, none⟩ (.slice va vn vc)) w.heap.size 0 (.int .i64 (Nd.kind (α := Tr 3) t)) (.int .i64 (Nd.num (α := Tr 3) t)) (.string (Nd.str (α := Tr 3) t)) (.slice va vn vc) (.slice v6 v7 v8) → DrawnV r p 380 10 360 w (.returned (.agg #[.int .i64 (Nd.kind (α := Tr 3) t), .int .i64 (Nd.num (α := Tr 3) t), .string (Nd.str (α := Tr 3) t), .slice va vn vc, .slice v6 v7 v8])) wF)) rfl _ _ 23 rfl (.slice v3 v4 v5) (.slice (some ⟨w4.heap.size, 0, none⟩) 1 1) rfl rfl (hstep.out 23) ?_)
    rintro v' w6 hph
    obtain ⟨va, vn, vc, hvv, hz6, kv6, kr6, hF⟩ := hph.out
    have hVV : Hid (v' = .slice va vn vc) := hvv
    rw [hVV.out]
    have HF := hide hF
    obtain ⟨x0, x1, x2, x3, x4⟩ := kv6.cell
    have xf := kv6.frozen 3
    obtain ⟨u0, u1, u2, u3, u4⟩ := kr6.cell
    have uf := kr6.frozen
    have hvr6 := kr6.lt
    clear hph hstep kv6 kr6 hF hvv hVV y0 y1 y2 y3 y4
    go_wp2_with fail
    exact bodyPost_ret (v := .agg #[.int .i64 (Nd.kind (α := Tr 3) t), .int .i64 (Nd.num (α := Tr 3) t), .string (Nd.str (α := Tr 3) t), .slice va vn vc, .slice v6 v7 v8]) (by simp [results, Tryz.results31, go_sem, u0, u1, u2, u3, u4]) rfl HF.out
  have hk3' : (k == 3) = false := by simpa using hk3
  by_cases hk4 : k = 4
  · subst hk4
    have hL0 : Hid (∃ t' : Tr (4 + 0), ValAt (FreshV w w4 w2.heap.size) w4 (4 + 0) t' (.agg #[.int .i64 v0, .int .i64 v1, .string v2, .slice v3 v4 v5, .slice v6 v7 v8]) ∧ wtT (4 + 0) t' ≤ 339 + 3 * 0) := ⟨t, HV.out.at, hw⟩
    obtain ⟨y0, y1, y2, y3, y4⟩ := HB.out.var.cell
    clear HV
    go_wp2_with fail
    go_loopw [4] (fun i wr => ∃ (m : Nat) (q0 q1 : Int) (q2 : ByteArray) (q3 : Option Addr) (q4 q5 : Nat) (q6 : Option Addr) (q7 q8 : Nat), m ≤ 6 ∧ i = .int .i64 (m : Int) ∧ Hid (Bent w wr r (p2 + 1) w2.heap.size (.int .i64 q0) (.int .i64 q1) (.string q2) (.slice q3 q4 q5) (.slice q6 q7 q8)) ∧ Hid (∃ t' : Tr (4 + m), ValAt (FreshV w wr w2.heap.size) wr (4 + m) t' (.agg #[.int .i64 q0, .int .i64 q1, .string q2, .slice q3 q4 q5, .slice q6 q7 q8]) ∧ wtT (4 + m) t' ≤ 339 + 3 * m)) (fun i _ => 6 - (intOf i).toNat)
    case atStart => exact ⟨0, _, _, _, _, _, _, _, _, _, Nat.zero_le _, rfl, HB, hL0⟩
    case round =>
      clear hL0 y0 y1 y2 y3 y4 HB hvl hrl
      obtain ⟨m, q0, q1, q2, q3, q4, q5, q6, q7, q8, hm, rfl, HB, HT⟩ := hrel
      obtain ⟨y0, y1, y2, y3, y4⟩ := HB.out.var.cell
      have yf := HB.out.var.frozen
      have hvl := HB.out.var.lt
      by_cases hm6 : m < 6
      · have hm6' : (m : Int) < 6 := by omega
        obtain ⟨t', hV', hw'⟩ := HT.out
        have hwr := bent_wrap HB.out hV'
        have HB' := hide hwr.1
        have HT' : Hid (∃ t'' : Tr (4 + (m + 1)), ValAt (FreshV w ((set5 wr w2.heap.size 0 (.int .i64 5) (.int .i64 0) (.string { data := #[] }) (.slice none 0 0) (.slice (some ⟨wr.heap.size, 0, none⟩) 1 1)).alloc (.cells #[.int .i64 q0, .int .i64 q1, .string q2, .slice q3 q4 q5, .slice q6 q7 q8] 26)) w2.heap.size) ((set5 wr w2.heap.size 0 (.int .i64 5) (.int .i64 0) (.string { data := #[] }) (.slice none 0 0) (.slice (some ⟨wr.heap.size, 0, none⟩) 1 1)).alloc (.cells #[.int .i64 q0, .int .i64 q1, .string q2, .slice q3 q4 q5, .slice q6 q7 q8] 26)) (4 + (m + 1)) t'' (.agg #[.int .i64 5, .int .i64 0, .string { data := #[] }, .slice none 0 0, .slice (some ⟨wr.heap.size, 0, none⟩) 1 1]) ∧ wtT (4 + (m + 1)) t'' ≤ 339 + 3 * (m + 1)) :=
          ⟨_, hwr.2, by show 3 + 0 + (wtT (4 + m) t' + 0) ≤ _; omega⟩
        clear hwr hV' HT HB
        go_wp2_with fail
        go_roundw
        case rel => exact ⟨m + 1, _, _, _, _, _, _, _, _, _, by omega, by go_num, HB', HT'⟩
        case measure => simp [intOf]; omega
      · obtain rfl : m = 6 := by omega
        obtain ⟨t', hV', hw'⟩ := HT.out
        have HF := hide (HB.out.final (p := p) (c := 380) (B := 360) hV' (by omega) (by omega))
        obtain ⟨u0, u1, u2, u3, u4⟩ := HB.out.res.cell
        have uf := HB.out.res.frozen
        have hvr := HB.out.res.lt
        clear hV' HT HB
        go_wp2_with fail
        exact bodyPost_ret (v := .agg #[.int .i64 q0, .int .i64 q1, .string q2, .slice q3 q4 q5, .slice q6 q7 q8]) (by simp [results, Tryz.results31, go_sem, u0, u1, u2, u3, u4]) rfl (HF.out _ rfl)
  have hk4' : (k == 4) = false := by simpa using hk4
  have HF := hide (HB.out.final (p := p) (c := 380) (B := 360) (HV.out.at.upN 6) (Nat.le_trans (Nat.le_of_eq (wtT_upN 4 6 _)) (by omega)) (by omega))
  obtain ⟨y0, y1, y2, y3, y4⟩ := HB.out.var.cell
  obtain ⟨u0, u1, u2, u3, u4⟩ := HB.out.res.cell
  have uf := HB.out.res.frozen
  have hvr := HB.out.res.lt
  clear HB HV
  go_wp2_with fail
  exact bodyPost_ret (v := .agg #[.int .i64 v0, .int .i64 v1, .string v2, .slice v3 v4 v5, .slice v6 v7 v8]) (by simp [results, Tryz.results31, go_sem, u0, u1, u2, u3, u4]) rfl (HF.out _ rfl)
end Go.Proofs.YtgjahnkldobphaaGreatDoor

/- ValSame of the model. -/
namespace Go.Proofs.YtgjahnkldobphaaGreatDoor
open Go.RowKit Go.Deep

theorem two_blocks (w : World) (T : TypeId) (a0 a1 a2 a3 a4 b0 b1 b2 b3 b4 : Value) :
    Blk5 ((w.alloc (.cells #[a0, a1, a2, a3, a4] T)).alloc (.cells #[b0, b1, b2, b3, b4] T)) w.heap.size T a0 a1 a2 a3 a4 ∧
    Blk5 ((w.alloc (.cells #[a0, a1, a2, a3, a4] T)).alloc (.cells #[b0, b1, b2, b3, b4] T)) (w.heap.size + 1) T b0 b1 b2 b3 b4 ∧
    Below w.heap.size w ((w.alloc (.cells #[a0, a1, a2, a3, a4] T)).alloc (.cells #[b0, b1, b2, b3, b4] T)) := by
  have h1 := Blk5.new (w.alloc (.cells #[a0, a1, a2, a3, a4] T)) T b0 b1 b2 b3 b4
  simp only [World.size_alloc] at h1
  exact ⟨(Blk5.new w _ _ _ _ _ _).alloc _, h1, below_trans (below_alloc1 _ _) (below_alloc1 _ _)⟩

theorem eqT_head {d : Nat} {t t' : Tr (d + 1)} (h1 : (t.kind == t'.kind) = true) (h2 : (t.num == t'.num) = true) (h3 : (t.str.toList == t'.str.toList) = true) :
    eqT (d + 1) t t' = (eqStrs t.keys t'.keys && eqL (eqT d) t.list t'.list) := by
  rw [eqT, h1, h2, h3]
  rfl

end Go.Proofs.YtgjahnkldobphaaGreatDoor

/- Drawn trees: two of them. -/
namespace Go.Proofs.YtgjahnkldobphaaGreatDoor
open Go.RowKit Go.Deep

/-- A tree that owns its memory lies in plain cells. -/
theorem strs_plain {S : Nat → Prop} {w : World} {v : Value} {ss : List ByteArray} (h : StrsOwn S w v ss) : StrsAt (fun b => S b ∧ Plain w b) w v ss := by
  obtain ⟨h1, h2, a, cap, hv, h3⟩ := h
  refine ⟨h1, h2, a, cap, hv, ?_⟩
  rcases h3 with h3 | ⟨b, n, f, hB, ha, hl, hr, hc⟩
  · exact Or.inl h3
  · refine Or.inr ⟨b, 0, ⟨hB, plain_row hr⟩, ha, fun i s hi => ?_⟩
    have := (List.getElem?_eq_some_iff.1 hi).1
    rw [Nat.zero_add, hr.cell (by omega), hc i s hi]
theorem own_plain {w : World} : ∀ (d : Nat) (S : Nat → Prop) (t : Tr d) (v : Value), ValOwn w d S t v → ValAt (fun b => S b ∧ Plain w b) w d t v
  | 0, _, _, _, h => h
  | d + 1, S, t, v, h => by
    obtain ⟨vk, vl, Sk, Sl, hv, i1, i2, i3, hk, hl, s1, s2, _⟩ := h
    refine ⟨vk, vl, hv, i1, i2, i3, (strs_plain hk).mono (fun b hb => ⟨s1 b hb.1, hb.2⟩), ?_⟩
    obtain ⟨h1, a, cap, hv, h3⟩ := hl
    refine ⟨h1, a, cap, hv, ?_⟩
    rcases h3 with h3 | ⟨b, n, f, P, hB, ha, hl, hr, hP, _, hc⟩
    · exact Or.inl h3
    · refine Or.inr ⟨b, 0, ⟨s2 b hB, plain_row hr⟩, ha, fun i x hx => ?_⟩
      have := (List.getElem?_eq_some_iff.1 hx).1
      rw [Nat.zero_add]
      exact ⟨_, _, _, _, _, hr.cell (by omega), hr.cell (by omega), hr.cell (by omega), hr.cell (by omega), hr.cell (by omega), (own_plain d _ x _ (hc i x hx)).mono (fun c hc' => ⟨s2 c (hP i c hc'.1).1, hc'.2⟩)⟩

/-- The operation at hand is a call of this function. -/
theorem step_sel {P : Program} {ops : Array Oper} {o : Oper} {a : Act} {w : World} {K : Act → World → Prop} {Q : Exit → Act → World → Prop} {E : Prop} (f : FuncId) (xs : Array Operand) (ts : Array TypeId)
    (_hop : o.op = Op.call { callee := Callee.value (Operand.func f), args := xs, argTypes := ts }) (h : if Region.wanted o (yielded ops a.tmps) = true then Oper.wp P o a w K Q else E) : if Region.wanted o (yielded ops a.tmps) = true then Oper.wp P o a w K Q else E := h

/-- Plain blocks between two bounds. -/
def FreshR (lo hi : Nat) (w : World) (b : Nat) : Prop := lo < b ∧ b < hi ∧ Plain w b
theorem FreshR.go {lo hi r d : Nat} {w w' : World} {t : Tr d} {u : Value} (h : ValAt (FreshR lo hi w) w d t u) (hb : But r w w') (hr : r ≤ lo) (hh : hi ≤ w.heap.size) : ValAt (FreshR lo hi w') w' d t u := by
  have hs : Same (FreshR lo hi w) w w' := fun b hb' => hb.block b (by have := hb'.2.1; omega) (fun e => by have := hb'.1; cases e; omega)
  exact ValAt.moved hs (fun b hb' => ⟨hb'.1, hb'.2.1, hb'.2.2.of_block (hs b hb')⟩) d t u h

/-- What draws one tree. -/
def OneD (w : World) (e : Ending) (w' : World) : Prop := ∃ u t, e = .returned u ∧ ValAt (FreshP w w') w' 11 t u ∧ wtT 11 t ≤ 1000 ∧ Below w.heap.size w w'
/-- What draws two trees. -/
def TwoD (w : World) (e : Ending) (w' : World) : Prop := ∃ u t u' t', e = .returned (.tuple #[u, u']) ∧ ValAt (FreshP w w') w' 11 t u ∧ wtT 11 t ≤ 1000 ∧ ValAt (FreshP w w') w' 11 t' u' ∧ wtT 11 t' ≤ 1000 ∧ Below w.heap.size w w'

theorem but_below {N r : Nat} {w w1 w2 : World} (h : Below N w w1) (hb : But r w1 w2) (hr : N ≤ r) (hN : N ≤ w1.heap.size) : Below N w w2 :=
  ⟨hb.os.trans h.os, hb.tape.trans h.tape, hb.output.trans h.output, Nat.le_trans h.size hb.size, fun b hlt => (hb.block b (by omega) (fun e => by cases e; omega)).trans (h.block b hlt)⟩
theorem BytesAt.wider {r r' : Nat} {w w' : World} {a : Option Addr} {n : Nat} (h : BytesAt r w a n) (hs : ∀ b, b < r → w'.heap[b]? = w.heap[b]?) (hr : r ≤ r') : BytesAt r' w' a n := by
  rcases h with h | ⟨b, o, hb, ha, hc⟩
  · exact Or.inl h
  · refine Or.inr ⟨b, o, by omega, ha, fun i hi => ?_⟩
    obtain ⟨x, h0, h1, h2⟩ := hc i hi
    exact ⟨x, h0, h1, (World.cell?_of_block (w := w) (hs b hb)).trans h2⟩

theorem oneD_end {w wX : World} {t : Tr 11} {v0 v1 v2 v3 v4 : Value} (hv : ValAt (FreshQ w wX) wX 11 t (.agg #[v0, v1, v2, v3, v4])) (hB : wtT 11 t ≤ 1000) (hb : Below w.heap.size w wX) :
    ∀ wF, wF = set5 wX w.heap.size 0 v0 v1 v2 v3 v4 → OneD w (.returned (.agg #[v0, v1, v2, v3, v4])) wF := by
  intro wF hF
  have hs : ∀ b, b ≠ w.heap.size → wF.heap[b]? = wX.heap[b]? := fun b hb' => by rw [hF]; exact set5_block _ _ _ _ _ _ _ _ _ hb'
  have hz : wF.heap.size = wX.heap.size := by rw [hF]; exact set5_size _ _ _ _ _ _ _ _
  have hl : Below w.heap.size w wF := by rw [hF]; exact below_set5 hb (Nat.le_refl _) _ _ _ _ _ _
  refine ⟨_, t, rfl, ValAt.moved (fun b hb' => hs b (by have := hb'.1; omega)) (fun b hb' => ?_) 11 t _ hv, hB, hl⟩
  exact ⟨⟨Nat.le_of_lt hb'.1, by rw [hz]; exact hb'.2.1⟩, hb'.2.2.of_block (hs b (by have := hb'.1; omega))⟩

/-- New blocks of plain cells, but for the first two. -/
def FreshT (w w' : World) (b : Nat) : Prop := w.heap.size + 1 < b ∧ b < w'.heap.size ∧ Plain w' b
theorem twoD_end {w wX : World} {t t' : Tr 11} {v0 v1 v2 v3 v4 u0 u1 u2 u3 u4 : Value} (hv : ValAt (FreshT w wX) wX 11 t (.agg #[v0, v1, v2, v3, v4])) (hB : wtT 11 t ≤ 1000) (hv' : ValAt (FreshT w wX) wX 11 t' (.agg #[u0, u1, u2, u3, u4])) (hB' : wtT 11 t' ≤ 1000) (hb : Below w.heap.size w wX) :
    ∀ wF, wF = set5 (set5 wX w.heap.size 0 v0 v1 v2 v3 v4) (w.heap.size + 1) 0 u0 u1 u2 u3 u4 → TwoD w (.returned (.tuple #[.agg #[v0, v1, v2, v3, v4], .agg #[u0, u1, u2, u3, u4]])) wF := by
  intro wF hF
  have hs : ∀ b, w.heap.size + 1 < b → wF.heap[b]? = wX.heap[b]? := fun b hb' => by rw [hF, set5_block _ _ _ _ _ _ _ _ _ (by omega)]; exact set5_block _ _ _ _ _ _ _ _ _ (by omega)
  have hz : wF.heap.size = wX.heap.size := by rw [hF, set5_size]; exact set5_size _ _ _ _ _ _ _ _
  have hl : Below w.heap.size w wF := by rw [hF]; exact below_set5 (below_set5 hb (Nat.le_refl _) _ _ _ _ _ _) (by omega) _ _ _ _ _ _
  have hin : ∀ b, FreshT w wX b → FreshP w wF b := fun b hb' => ⟨⟨by have := hb'.1; omega, by rw [hz]; exact hb'.2.1⟩, hb'.2.2.of_block (hs b hb'.1)⟩
  exact ⟨_, t, _, t', rfl, ValAt.moved (fun b hb' => hs b hb'.1) hin 11 t _ hv, hB, ValAt.moved (fun b hb' => hs b hb'.1) hin 11 t' _ hv', hB', hl⟩

theorem FreshT.go {d : Nat} {w wB wX : World} {t : Tr d} {u : Value} (h : ValAt (FreshT w wB) wB d t u) (hX : Below wB.heap.size wB wX) : ValAt (FreshT w wX) wX d t u := by
  have hs : Same (FreshT w wB) wB wX := fun b hb => hX.block b hb.2.1
  exact ValAt.moved hs (fun b hb => ⟨hb.1, Nat.lt_of_lt_of_le hb.2.1 hX.size, hb.2.2.of_block (hs b hb)⟩) d t u h
theorem row_of {S : Nat → Prop} {w : World} {d n : Nat} {list : List (Tr d)} {a : Option Addr} {c : Nat} (_hn : n = list.length) (h : RowAt S w (ValAt S w d) (.slice a n c) list) : ValAt S w (d + 1) ({ kind := 5, num := 0, str := ⟨#[]⟩, keys := [], list := list } : Nd (Tr d)) (.agg #[.int .i64 5, .int .i64 0, .string { data := #[] }, .slice none 0 0, .slice a n c]) :=
  build_of ⟨by omega, by omega⟩ ⟨by omega, by omega⟩ (by show (0 : Nat) < _; omega) ⟨by show (0 : Nat) < _; omega, (fun s hs => by cases hs), none, 0, rfl, Or.inl rfl⟩ h
/-- The two results' own cells are written. -/
def rows2 (wB : World) (b g1 g2 : Nat) : World := set5 (set5 wB b 0 (.int .i64 5) (.int .i64 0) (.string { data := #[] }) (.slice none 0 0) (.slice (some ⟨g1, 0, none⟩) 1 1)) (b + 1) 0 (.int .i64 5) (.int .i64 0) (.string { data := #[] }) (.slice none 0 0) (.slice (some ⟨g2, 0, none⟩) 2 2)
theorem rows2_block (wB : World) (b g1 g2 c : Nat) (h : b + 1 < c) : (rows2 wB b g1 g2).heap[c]? = wB.heap[c]? := by
  unfold rows2
  rw [set5_block _ _ _ _ _ _ _ _ _ (by omega), set5_block _ _ _ _ _ _ _ _ _ (by omega)]
theorem rows2_size (wB : World) (b g1 g2 : Nat) : (rows2 wB b g1 g2).heap.size = wB.heap.size := by
  unfold rows2
  rw [set5_size, set5_size]
/-- A row of one, and a row of two. -/
theorem rows_end {w wB wF : World} {t c l : Tr 10} {g1 g2 : Nat} {a0 a1 a2 a3 a4 c0 c1 c2 c3 c4 l0 l1 l2 l3 l4 : Value} (hT : ValAt (FreshT w wB) wB 10 t (.agg #[a0, a1, a2, a3, a4])) (hC : ValAt (FreshT w wB) wB 10 c (.agg #[c0, c1, c2, c3, c4])) (hL : ValAt (FreshT w wB) wB 10 l (.agg #[l0, l1, l2, l3, l4]))
    (k1 : wtT 10 t ≤ 360) (k2 : wtT 10 c ≤ 360) (k3 : wtT 10 l ≤ 3) (hb : Below w.heap.size w wB) (hX : Below wB.heap.size (rows2 wB w.heap.size g1 g2) wF) (h1 : Blk5 wF g1 26 a0 a1 a2 a3 a4) (hg1 : w.heap.size + 1 < g1)
    (h2 : wF.heap[g2]? = some (.cells #[c0, c1, c2, c3, c4, l0, l1, l2, l3, l4] 26 (0, 0))) (hg2 : w.heap.size + 1 < g2) :
    TwoD w (.returned (.tuple #[.agg #[.int .i64 5, .int .i64 0, .string { data := #[] }, .slice none 0 0, .slice (some ⟨g1, 0, none⟩) 1 1], .agg #[.int .i64 5, .int .i64 0, .string { data := #[] }, .slice none 0 0, .slice (some ⟨g2, 0, none⟩) 2 2]])) wF := by
  have hz : wB.heap.size ≤ wF.heap.size := by have := hX.size; rw [rows2_size] at this; exact this
  have hs : Same (FreshT w wB) wB wF := fun b hb' => (hX.block b hb'.2.1).trans (rows2_block _ _ _ _ _ hb'.1)
  have hin : ∀ b, FreshT w wB b → FreshP w wF b := fun b hb' => ⟨⟨by have := hb'.1; omega, Nat.lt_of_lt_of_le hb'.2.1 hz⟩, hb'.2.2.of_block (hs b hb')⟩
  have hT' := ValAt.moved hs hin 10 t _ hT
  have hC' := ValAt.moved hs hin 10 c _ hC
  have hL' := ValAt.moved hs hin 10 l _ hL
  have hB2 : Below w.heap.size w (rows2 wB w.heap.size g1 g2) := by
    unfold rows2
    exact below_set5 (below_set5 hb (Nat.le_refl _) _ _ _ _ _ _) (by omega) _ _ _ _ _ _
  have hb' : Below w.heap.size w wF := hB2.trans (hX.mono hb.size)
  have hl1 := h1.lt
  have hl2 := (Array.getElem?_eq_some_iff.1 h2).1
  obtain ⟨e0, e1, e2, e3, e4⟩ := h1.cell
  have hr1 : RowAt (FreshP w wF) wF (ValAt (FreshP w wF) wF 10) (.slice (some ⟨g1, 0, none⟩) 1 1) [t] := ⟨by simp, some ⟨g1, 0, none⟩, 1, rfl, Or.inr ⟨g1, 0, ⟨⟨by omega, hl1⟩, ⟨_, _, h1⟩⟩, rfl, fun i x hx => by
    match i, hx with
    | 0, hx => cases hx; exact ⟨a0, a1, a2, a3, a4, e0, e1, e2, e3, e4, hT'⟩
    | i + 1, hx => simp at hx⟩⟩
  have hcl : ∀ j u, (#[c0, c1, c2, c3, c4, l0, l1, l2, l3, l4] : Array Value)[j]? = some u → wF.cell? ⟨g2, j, none⟩ = some u := fun j u hj => (cell_of_cells h2).trans hj
  have hr2 : RowAt (FreshP w wF) wF (ValAt (FreshP w wF) wF 10) (.slice (some ⟨g2, 0, none⟩) 2 2) [c, l] := ⟨by simp, some ⟨g2, 0, none⟩, 2, rfl, Or.inr ⟨g2, 0, ⟨⟨by omega, hl2⟩, ⟨_, _, h2⟩⟩, rfl, fun i x hx => by
    match i, hx with
    | 0, hx => cases hx; exact ⟨c0, c1, c2, c3, c4, hcl 0 _ rfl, hcl 1 _ rfl, hcl 2 _ rfl, hcl 3 _ rfl, hcl 4 _ rfl, hC'⟩
    | 1, hx => cases hx; exact ⟨l0, l1, l2, l3, l4, hcl 5 _ rfl, hcl 6 _ rfl, hcl 7 _ rfl, hcl 8 _ rfl, hcl 9 _ rfl, hL'⟩
    | i + 2, hx => simp at hx⟩⟩
  exact ⟨_, _, _, _, rfl, row_of rfl hr1, by show 3 + 0 + (wtT 10 t + 0) ≤ 1000; omega, row_of rfl hr2, by show 3 + 0 + (wtT 10 c + (wtT 10 l + 0)) ≤ 1000; omega, hb'⟩

end Go.Proofs.YtgjahnkldobphaaGreatDoor

/- Drawn trees: a row of one and a row of two, in the results' own cells. -/
namespace Go.Proofs.YtgjahnkldobphaaGreatDoor
open Go.RowKit Go.Deep

theorem rows_meet {w wB wF : World} {t c l : Tr 10} {g1 g2 : Nat} {a0 a1 a2 a3 a4 c0 c1 c2 c3 c4 l0 l1 l2 l3 l4 : Value} (hT : ValAt (FreshT w wB) wB 10 t (.agg #[a0, a1, a2, a3, a4])) (hC : ValAt (FreshT w wB) wB 10 c (.agg #[c0, c1, c2, c3, c4])) (hL : ValAt (FreshT w wB) wB 10 l (.agg #[l0, l1, l2, l3, l4]))
    (k1 : wtT 10 t ≤ 360) (k2 : wtT 10 c ≤ 360) (k3 : wtT 10 l ≤ 3) (hb : Below w.heap.size w wB) (kr : Blk5 wB w.heap.size 26 (.int .i64 0) (.int .i64 0) (.string { data := #[] }) (.slice none 0 0) (.slice none 0 0)) (kq : Blk5 wB (w.heap.size + 1) 26 (.int .i64 0) (.int .i64 0) (.string { data := #[] }) (.slice none 0 0) (.slice none 0 0))
    (hX : Below wB.heap.size (rows2 wB w.heap.size g1 g2) wF) (h1 : Blk5 wF g1 26 a0 a1 a2 a3 a4) (hg1 : w.heap.size + 1 < g1)
    (h2 : wF.heap[g2]? = some (.cells #[c0, c1, c2, c3, c4, l0, l1, l2, l3, l4] 26 (0, 0))) (hg2 : w.heap.size + 1 < g2) :
    Hid (Blk5 wF w.heap.size 26 (.int .i64 5) (.int .i64 0) (.string { data := #[] }) (.slice none 0 0) (.slice (some ⟨g1, 0, none⟩) 1 1)) ∧ Hid (Blk5 wF (w.heap.size + 1) 26 (.int .i64 5) (.int .i64 0) (.string { data := #[] }) (.slice none 0 0) (.slice (some ⟨g2, 0, none⟩) 2 2)) ∧ Hid (TwoD w (.returned (.tuple #[.agg #[.int .i64 5, .int .i64 0, .string { data := #[] }, .slice none 0 0, .slice (some ⟨g1, 0, none⟩) 1 1], .agg #[.int .i64 5, .int .i64 0, .string { data := #[] }, .slice none 0 0, .slice (some ⟨g2, 0, none⟩) 2 2]])) wF) := by
  have hk1 := kr.lt
  have hk2 := kq.lt
  have e1 : Blk5 (rows2 wB w.heap.size g1 g2) w.heap.size 26 (.int .i64 5) (.int .i64 0) (.string { data := #[] }) (.slice none 0 0) (.slice (some ⟨g1, 0, none⟩) 1 1) := by
    unfold rows2
    exact (blk_set5 kr _ _ _ _ _).of_block (set5_block _ _ _ _ _ _ _ _ _ (by omega))
  have e2 : Blk5 (rows2 wB w.heap.size g1 g2) (w.heap.size + 1) 26 (.int .i64 5) (.int .i64 0) (.string { data := #[] }) (.slice none 0 0) (.slice (some ⟨g2, 0, none⟩) 2 2) := by
    unfold rows2
    exact blk_set5 (kq.of_block (set5_block _ _ _ _ _ _ _ _ _ (by omega))) _ _ _ _ _
  exact ⟨e1.of_block (hX.block _ hk1), e2.of_block (hX.block _ hk2), rows_end hT hC hL k1 k2 k3 hb hX h1 hg1 h2 hg2⟩
end Go.Proofs.YtgjahnkldobphaaGreatDoor

/- Drawn trees: l1Two of the model. -/
namespace Go.Proofs.YtgjahnkldobphaaGreatDoor
open Go.RowKit Go.Deep

end Go.Proofs.YtgjahnkldobphaaGreatDoor

/- How two trees stand: the plain functions, and l1Texts, l1Lists, l1Rows, ValOrder of the model. -/
namespace Go.Proofs.YtgjahnkldobphaaGreatDoor
open Go.RowKit Go.Deep

/-- The first, if it says something, else the second. -/
def orI (x y : Int) : Int := if x = 0 then y else x
def cmpI (a b : Int) : Int := if a < b then -1 else if b < a then 1 else 0
def cmpS (a b : ByteArray) : Int := if Op.bytesLess a.toList b.toList = true then -1 else if (a.toList == b.toList) = true then 0 else 1
def ordL {α : Type} (f : α → α → Int) : List α → List α → Int
  | [], [] => 0
  | [], _ :: _ => -1
  | _ :: _, [] => 1
  | a :: r, b :: s => orI (f a b) (ordL f r s)
/-- How two parts stand but for the parts in them. -/
def headO {α : Type} (a b : Nd α) : Int := orI (cmpI a.kind b.kind) (orI (cmpI a.num b.num) (orI (cmpS a.str b.str) (ordL cmpS a.keys b.keys)))
def ordT : (d : Nat) → Tr d → Tr d → Int
  | 0, _, _ => 0
  | d + 1, a, b => orI (headO (α := Tr d) a b) (ordL (ordT d) (Nd.list a) (Nd.list b))

theorem orI_zero (y : Int) : orI 0 y = y := rfl
theorem orI_ne {x : Int} (h : x ≠ 0) (y : Int) : orI x y = x := if_neg h
theorem orI_assoc (x y z : Int) : orI (orI x y) z = orI x (orI y z) := by
  unfold orI
  split <;> simp_all
theorem orI_right (x : Int) : orI x 0 = x := by
  unfold orI
  split <;> simp_all
/-- One of three. -/
def Tri (n : Int) : Prop := n = -1 ∨ n = 0 ∨ n = 1
theorem tri_or {x y : Int} (hx : Tri x) (hy : Tri y) : Tri (orI x y) := by
  unfold orI
  split
  · exact hy
  · exact hx
theorem tri_cmpI (a b : Int) : Tri (cmpI a b) := by
  unfold cmpI Tri
  split
  · simp
  · split <;> simp
theorem tri_cmpS (a b : ByteArray) : Tri (cmpS a b) := by
  unfold cmpS Tri
  split
  · simp
  · split <;> simp
theorem tri_ordL {α : Type} {f : α → α → Int} (h : ∀ a b, Tri (f a b)) : ∀ (xs ys : List α), Tri (ordL f xs ys)
  | [], [] => Or.inr (Or.inl rfl)
  | [], _ :: _ => Or.inl rfl
  | _ :: _, [] => Or.inr (Or.inr rfl)
  | a :: r, b :: s => tri_or (h a b) (tri_ordL h r s)
theorem tri_headO {α : Type} (a b : Nd α) : Tri (headO a b) := tri_or (tri_cmpI _ _) (tri_or (tri_cmpI _ _) (tri_or (tri_cmpS _ _) (tri_ordL tri_cmpS _ _)))
theorem tri_ordT : ∀ (d : Nat) (a b : Tr d), Tri (ordT d a b)
  | 0, _, _ => Or.inr (Or.inl rfl)
  | d + 1, _, _ => tri_or (tri_headO _ _) (tri_ordL (tri_ordT d) _ _)

theorem ordL_drop {α : Type} (f : α → α → Int) {xs ys : List α} {k : Nat} {x y : α} (hx : xs[k]? = some x) (hy : ys[k]? = some y) :
    ordL f (xs.drop k) (ys.drop k) = orI (f x y) (ordL f (xs.drop (k + 1)) (ys.drop (k + 1))) := by
  obtain ⟨hk, e1⟩ := List.getElem?_eq_some_iff.1 hx
  obtain ⟨hk', e2⟩ := List.getElem?_eq_some_iff.1 hy
  rw [List.drop_eq_getElem_cons hk, List.drop_eq_getElem_cons hk', e1, e2, ordL]
theorem ordL_end {α : Type} (f : α → α → Int) {xs ys : List α} {k : Nat} (hx : k ≤ xs.length) (hy : k ≤ ys.length) (h : ¬ (k < xs.length ∧ k < ys.length)) :
    ordL f (xs.drop k) (ys.drop k) = cmpI xs.length ys.length := by
  by_cases h1 : k < xs.length
  · have e : ys.drop k = [] := List.drop_eq_nil_of_le (by omega)
    rw [List.drop_eq_getElem_cons h1, e, ordL, cmpI, if_neg (by omega), if_pos (by omega)]
  · by_cases h2 : k < ys.length
    · have e : xs.drop k = [] := List.drop_eq_nil_of_le (by omega)
      rw [e, List.drop_eq_getElem_cons h2, ordL, cmpI, if_pos (by omega)]
    · have e : xs.drop k = [] := List.drop_eq_nil_of_le (by omega)
      have e' : ys.drop k = [] := List.drop_eq_nil_of_le (by omega)
      rw [e, e', ordL, cmpI, if_neg (by omega), if_neg (by omega)]

theorem cmpS_lt {a b : ByteArray} (h : Op.bytesLess a.toList b.toList = true) : cmpS a b = -1 := if_pos h
theorem cmpS_eq {a b : ByteArray} (h : (a.toList == b.toList) = true) : cmpS a b = 0 := by
  have e : a.toList = b.toList := by simpa using h
  rw [cmpS, e, bytesLess_irrefl]
  simp
theorem cmpS_gt {a b : ByteArray} (h : Op.bytesLess a.toList b.toList = false) (h' : (a.toList == b.toList) = false) : cmpS a b = 1 := by
  rw [cmpS, h, h']
  rfl

set_option maxHeartbeats 400000 in
theorem l1Max_any (a b : Int) (w : World) :
    Calls Tryz.prog 50 #[.int .i64 a, .int .i64 b] w fun e w' => e = .returned (.int .i64 (max a b)) ∧ w' = w := by
  by_cases h : b < a
  · have hf : Hid (max a b = a) := Int.max_eq_left (by omega)
    go_enter Tryz.func50, Tryz.ntmps50
    go_wp2_with fail
    go_ret
    rw [hf.out]
    exact ⟨rfl, rfl⟩
  · have hf : Hid (max a b = b) := Int.max_eq_right (by omega)
    go_enter Tryz.func50, Tryz.ntmps50
    go_wp2_with fail
    go_ret
    rw [hf.out]
    exact ⟨rfl, rfl⟩
theorem clamp_cmpI (a b : Int) : max (-1) (min 1 (a - b)) = cmpI a b := by
  unfold cmpI
  split
  · omega
  · split <;> omega

theorem cmpI_lt {a b : Int} (h : a < b) : cmpI a b = -1 := if_pos h
theorem cmpI_gt {a b : Int} (h : b < a) : cmpI a b = 1 := by rw [cmpI, if_neg (by omega), if_pos h]
theorem cmpI_eq {a b : Int} (h : ¬ a < b) (h' : ¬ b < a) : cmpI a b = 0 := by rw [cmpI, if_neg h, if_neg h']

end Go.Proofs.YtgjahnkldobphaaGreatDoor
