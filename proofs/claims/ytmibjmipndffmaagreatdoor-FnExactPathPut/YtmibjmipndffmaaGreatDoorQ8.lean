/- Texts of the proof, put together by program: WCopyQ, WCopy, WAtM, WGetM, WPathO, WPathS, WPathT. -/
import Derived.Test.YtmibjmipndffmaaGreatDoorQ6
import Derived.Test.YtmibjmipndffmaaGreatDoorQ7
import Derived.Deep.RegionHeld
/- One tree more is copied; the copy's end. -/
namespace Go.Proofs.YtmibjmipndffmaaGreatDoor
open Go.RowKit Go.Deep

theorem CopyTo.step {d k b : Nat} {wc wr w1 w2 : World} {t : Nd (Tr d)} {vk lv lv' : Value} {vs : List Value} {P : Nat → Nat → Prop} {x : Tr d} {v0 v1 v2 v3 v4 : Value} {o : Obj} (h : CopyTo wc wr t b vk lv k vs P) (hb : Below wr.heap.size wr w1)
    (hx : t.list[k]? = some x) (hu : ValOwn w1 d (Fresh wr w1) x (.agg #[v0, v1, v2, v3, v4])) (hown : w2.ownsRow wc.heap.size 26 5 lv' (k + 1) (vs ++ [v0, v1, v2, v3, v4])) (hg : (w1.alloc o).grownBy w2 lv.ownBlock)
    (hw : lv'.ownBlock = lv.ownBlock ∨ lv'.ownBlock = some (w1.alloc o).heap.size) (hbc : b < wc.heap.size) (yb2 : Blk5 w2 b 26 (.int .i64 t.kind) (.int .i64 t.num) (.string t.str) vk lv) :
    ∃ P', CopyTo wc (w2.setCell ⟨b, 4, none⟩ lv') t b vk lv' (k + 1) (vs ++ [v0, v1, v2, v3, v4]) P' := by
  have hN : wc.heap.size ≤ wr.heap.size := h.but.size
  have hrow : ∀ g, lv.ownBlock = some g → wc.heap.size ≤ g := fun g hg => (h.vals.own.lt g hg).1
  have h1 := hb.size
  refine ⟨_, yb2.set4 _, (h.vals.step hb hx hu hown hg hw hN).other (fun c hc => Below.heap_setCell _ _ _ _ (by show c ≠ b; omega)) (by simp [World.setCell]), ?_⟩
  refine But.trans ?_ (But.set _ _ _ _)
  have hb3 : But b wc w1 := h.but.trans (But.of_below hb)
  refine ⟨hg.os.trans hb3.os, hg.tape.trans hb3.tape, hg.output.trans hb3.output, Nat.le_trans hb3.size (Nat.le_trans (by simp) hg.size), fun i hi hn => ?_⟩
  exact ((hg.block i (by simp; omega) (fun e => by have := hrow i e.symm; omega)).trans (Below.heap_alloc _ _ _ (by omega))).trans (hb3.block i hi hn)

theorem CopyTo.final {d b : Nat} {w wc wr : World} {t : Nd (Tr d)} {c3 c4 vk lv : Value} {vs : List Value} {P : Nat → Nat → Prop} (h : CopyTo wc wr t b vk lv t.list.length vs P) (hc : CopyAt w wc t c3 c4 b vk) (hl : t.list.length < 3518437208883) (i1 : I64 t.kind) (i2 : I64 t.num) (i3 : t.str.size < 281474976710656) :
    ∀ wF, wF = set5 wr (w.heap.size + 1) 0 (.int .i64 t.kind) (.int .i64 t.num) (.string t.str) vk lv → ValOwn wF (d + 1) (Fresh w wF) t (.agg #[.int .i64 t.kind, .int .i64 t.num, .string t.str, vk, lv]) ∧ Below w.heap.size w wF := by
  intro wF hF
  have hbu := h.but
  have hbw := hc.below
  have hab := hc.above
  have hws := hc.res.lt
  have hrb : Below w.heap.size w wr := ⟨hbu.os.trans hbw.os, hbu.tape.trans hbw.tape, hbu.output.trans hbw.output, Nat.le_trans hbw.size hbu.size, fun j hj => (hbu.block j (Nat.lt_of_lt_of_le hj hbw.size) (fun e => by cases e; omega)).trans (hbw.block j hj)⟩
  have hdone := h.vals.done hl
  have hzF : wF.heap.size = wr.heap.size := by rw [hF, set5_size]
  have hsz : wc.heap.size ≤ wr.heap.size := hbu.size
  have hsm : ∀ R : Nat → Prop, (∀ b, R b → w.heap.size + 1 < b) → Same R wr wF := fun R hR b hb => by
    rw [hF, set5_block _ _ _ _ _ _ _ _ _ (by have := hR b hb; omega)]
  have hkey : Same (fun x => w.heap.size + 1 < x ∧ x < wc.heap.size ∧ x ≠ b) wc wF := fun c hc => by
    rw [hsm (fun x => w.heap.size + 1 < x) (fun _ h => h) c hc.1]
    exact hbu.block c hc.2.1 (fun e => by cases e; exact hc.2.2 rfl)
  refine ⟨⟨vk, lv, fun x => w.heap.size + 1 < x ∧ x < wc.heap.size ∧ x ≠ b, fun b => wc.heap.size ≤ b ∧ b < wr.heap.size, rfl, i1, i2, i3, hc.keys.moved hkey (fun _ h => h),
    hdone.moved (hsm _ (fun b hb => by have := hb.1; omega)) (fun _ h => h) (fun P x u hP hx => ValOwn.moved d P P x u hx (hsm P (fun b hb => by have := (hP b hb).1; omega)) (fun _ h => h)), fun b hb => ⟨by have := hb.1; omega, by rw [hzF]; have := hb.2.1; omega⟩, fun b hb => ⟨by have := hb.1; omega, by rw [hzF]; exact hb.2⟩, fun b hb hb' => by have := hb.2.1; have := hb'.1; omega⟩, ?_⟩
  rw [hF]
  exact below_set5 hrb (by omega) _ _ _ _ _ _
end Go.Proofs.YtmibjmipndffmaaGreatDoor

/- l1Copy of the model: a tree in new memory. -/
namespace Go.Proofs.YtmibjmipndffmaaGreatDoor
open Go.RowKit Go.Deep

theorem wt_mem {d : Nat} {x : Tr d} : ∀ {xs : List (Tr d)} {k : Nat}, xs[k]? = some x → wtT d x ≤ (xs.map (wtT d)).sum
  | [], _, h => by simp at h
  | y :: r, 0, h => by
    simp at h
    subst h
    simp
  | y :: r, k + 1, h => by
    have := wt_mem (xs := r) (k := k) (by simpa using h)
    simp only [List.map_cons, List.sum_cons]
    omega
theorem row_slice {w : World} {base : Nat} {e : TypeId} {size n : Nat} {v : Value} {xs : List Value} (h : w.ownsRow base e size v n xs) : ∃ a m c, v = .slice a m c := by
  rcases h.2 with ⟨rfl, _⟩ | ⟨g, cap, cur, rfl, _⟩
  · exact ⟨_, _, _, rfl⟩
  · exact ⟨_, _, _, rfl⟩

theorem wt_len {d : Nat} : ∀ (xs : List (Tr (d + 1))), xs.length ≤ (xs.map (wtT (d + 1))).sum
  | [] => by simp
  | x :: r => by
    have := wt_len r
    have h : 3 ≤ wtT (d + 1) x := by rw [wtT]; omega
    simp only [List.map_cons, List.sum_cons, List.length_cons]
    omega
theorem row_wt {S : Nat → Prop} {w : World} {a : Option Addr} {n cap : Nat} : ∀ {d : Nat} {xs : List (Tr d)}, RowAt S w (ValAt S w d) (.slice a n cap) xs → xs.length ≤ (xs.map (wtT d)).sum
  | 0, xs, h => by
    rcases Nat.eq_zero_or_pos xs.length with h0 | h0
    · omega
    · obtain ⟨_, _, _, _, _, _, _, _, _, _, _, _, _, _, _, _, hval⟩ := h.cell h0
      exact hval.elim
  | d + 1, xs, _ => wt_len xs

set_option maxRecDepth 100000 in
set_option maxHeartbeats 1000000 in
theorem l1Copy_any : ∀ (d : Nat), CopyC d
  | 0 => fun _ _ _ _ h => h.elim
  | d + 1 => by
    intro S t v w hv hS hwt
    have ih := l1Copy_any d
    obtain ⟨kind, num, str, keys, list⟩ := t
    obtain ⟨vk, vl, rfl, i1, i2, i3, hk, hl⟩ := hv
    have hk : StrsAt S w vk keys := hk
    have hl : RowAt S w (ValAt S w d) vl list := hl
    obtain ⟨ak, ck, rfl, hkl⟩ := hk.open'
    obtain ⟨al, cl, rfl, hll⟩ := hl.open'
    have hwt2 : ((3 + keys.length + (list.map (wtT d)).sum : Nat) : Int) ≤ 4194304 := hwt
    have hksm : keys.length ≤ 4194304 := by omega
    have hlsm : list.length ≤ 4194304 := by have := row_wt hl; omega
    clear hwt
    show Calls Tryz.prog 57 #[.agg #[.int .i64 kind, .int .i64 num, .string str, .slice ak keys.length ck, .slice al list.length cl]] w _
    go_enter Tryz.func57, Tryz.ntmps57
    go_upto_region 1 with fail
    go_cut [3] (fun ov wc => ∃ b vk, ov = .pointer (some ⟨b, 0, none⟩) ∧ Hid (CopyAt w wc (Nd.mk kind num str keys list) (.slice ak keys.length ck) (.slice al list.length cl) b vk))
    case first =>
      have n1 : w.heap.size < w.heap.size + 1 + 1 + 1 := by omega
      have n2 : w.heap.size < w.heap.size + 1 + 1 + 1 + 1 := by omega
      have n3 : w.heap.size + 1 + 1 < w.heap.size + 1 + 1 + 1 + 1 := by omega
      have m1 : ¬ w.heap.size = w.heap.size + 1 + 1 := by omega
      have m2 : ¬ w.heap.size = w.heap.size + 1 + 1 + 1 := by omega
      have m3 : ¬ w.heap.size + 1 + 1 = w.heap.size + 1 + 1 + 1 := by omega
      have m4 : ¬ w.heap.size + 1 + 1 + 1 = w.heap.size + 1 + 1 := by omega
      have m5 : ¬ w.heap.size + 1 + 1 + 1 = w.heap.size := by omega
      have m6 : ¬ w.heap.size + 1 + 1 = w.heap.size := by omega
      go_region_held3 (fun w' => w'.cell? ⟨w.heap.size, 0, none⟩ = some (.int .i64 kind) ∧ w'.cell? ⟨w.heap.size, 1, none⟩ = some (.int .i64 num) ∧ w'.cell? ⟨w.heap.size, 2, none⟩ = some (.string str) ∧ w'.cell? ⟨w.heap.size, 3, none⟩ = some (.slice ak keys.length ck) ∧ w'.cell? ⟨w.heap.size, 4, none⟩ = some (.slice al list.length cl)) (go_keep)
        ((refine step_append_run _ (by rfl) _ _ 23 (by rfl) _ _ (by rfl) (by rfl) (run_append_strs S keys ak ck _ _ _ (by first | exact nb1 _ _ _ _ | exact nb2 _ _ _ _ _ | exact nb3 _ _ _ _ _) (by first | exact hk.same (hS.same (bl3 _ _ _ _)) | exact hk.same (hS.same (bl4 _ _ _ _ _))) hksm) ?_; rintro v' w' ⟨hown, hgr⟩; obtain ⟨ka, kc, rfl, hkn⟩ := hown.open'; have hcell := fun (b o : Nat) (h1 : b < _) (h2 : some b ≠ _) => hgr.cell_far ⟨b, o, none⟩ h1 h2; have hfro := fun (b o : Nat) (h1 : b < _) (h2 : some b ≠ _) => hgr.frozen_far ⟨b, o, none⟩ h1 h2; have hnew : ¬ w'.heap.size = w.heap.size := fun e => by have h5 := hgr.size; simp at h5; omega))
      all_goals go_wp2_with fail
      all_goals go_meet
      · have hc := copy_a (t := (Nd.mk kind num str keys list : Nd (Tr d))) (c3 := .slice ak keys.length ck) (c4 := .slice al list.length cl) (vk := .slice ka keys.length kc) (G := w.heap.size + 1 + 1) (bl3 w (.cells #[.int .i64 kind, .int .i64 num, .string str, .slice ak keys.length ck, .slice al list.length cl] 26) (.cells #[.int .i64 0, .int .i64 0, .string { data := #[] }, .slice none 0 0, .slice none 0 0] 26) (.cells #[] 9)) (kA3 w (.cells #[.int .i64 kind, .int .i64 num, .string str, .slice ak keys.length ck, .slice al list.length cl] 26) (.cells #[.int .i64 0, .int .i64 0, .string { data := #[] }, .slice none 0 0, .slice none 0 0] 26) (.cells #[] 9)) (kB3 w (.cells #[.int .i64 kind, .int .i64 num, .string str, .slice ak keys.length ck, .slice al list.length cl] 26) (.cells #[.int .i64 0, .int .i64 0, .string { data := #[] }, .slice none 0 0, .slice none 0 0] 26) (.cells #[] 9)) (by omega) hgr hown
        exact ⟨w'.heap.size, .slice ka keys.length kc, rfl, hc⟩
      · have hc := copy_b (t := (Nd.mk kind num str keys list : Nd (Tr d))) (c3 := .slice ak keys.length ck) (c4 := .slice al list.length cl) (vk := .slice ka keys.length kc) (G := w.heap.size + 1 + 1) (V := w.heap.size + 1 + 1 + 1) (bl4 w (.cells #[.int .i64 kind, .int .i64 num, .string str, .slice ak keys.length ck, .slice al list.length cl] 26) (.cells #[.int .i64 0, .int .i64 0, .string { data := #[] }, .slice none 0 0, .slice none 0 0] 26) (.cells #[] 9) (.cells #[.int .i64 0, .int .i64 0, .string { data := #[] }, .slice none 0 0, .slice none 0 0] 26)) (kA4 w (.cells #[.int .i64 kind, .int .i64 num, .string str, .slice ak keys.length ck, .slice al list.length cl] 26) (.cells #[.int .i64 0, .int .i64 0, .string { data := #[] }, .slice none 0 0, .slice none 0 0] 26) (.cells #[] 9) (.cells #[.int .i64 0, .int .i64 0, .string { data := #[] }, .slice none 0 0, .slice none 0 0] 26)) (kB4 w (.cells #[.int .i64 kind, .int .i64 num, .string str, .slice ak keys.length ck, .slice al list.length cl] 26) (.cells #[.int .i64 0, .int .i64 0, .string { data := #[] }, .slice none 0 0, .slice none 0 0] 26) (.cells #[] 9) (.cells #[.int .i64 0, .int .i64 0, .string { data := #[] }, .slice none 0 0, .slice none 0 0] 26)) (nb3 w (.cells #[.int .i64 kind, .int .i64 num, .string str, .slice ak keys.length ck, .slice al list.length cl] 26) (.cells #[.int .i64 0, .int .i64 0, .string { data := #[] }, .slice none 0 0, .slice none 0 0] 26) (.cells #[] 9) (.cells #[.int .i64 0, .int .i64 0, .string { data := #[] }, .slice none 0 0, .slice none 0 0] 26)) (by omega) (by omega) (by omega) hgr hown
        exact ⟨w.heap.size + 1 + 1 + 1, .slice ka keys.length kc, rfl, hc⟩
      · have hc := copy_b (t := (Nd.mk kind num str keys list : Nd (Tr d))) (c3 := .slice ak keys.length ck) (c4 := .slice al list.length cl) (vk := .slice ka keys.length kc) (G := w.heap.size + 1 + 1 + 1) (V := w.heap.size + 1 + 1) (bl4 w (.cells #[.int .i64 kind, .int .i64 num, .string str, .slice ak keys.length ck, .slice al list.length cl] 26) (.cells #[.int .i64 0, .int .i64 0, .string { data := #[] }, .slice none 0 0, .slice none 0 0] 26) (.cells #[.int .i64 0, .int .i64 0, .string { data := #[] }, .slice none 0 0, .slice none 0 0] 26) (.cells #[] 9)) (kA4 w (.cells #[.int .i64 kind, .int .i64 num, .string str, .slice ak keys.length ck, .slice al list.length cl] 26) (.cells #[.int .i64 0, .int .i64 0, .string { data := #[] }, .slice none 0 0, .slice none 0 0] 26) (.cells #[.int .i64 0, .int .i64 0, .string { data := #[] }, .slice none 0 0, .slice none 0 0] 26) (.cells #[] 9)) (kB4 w (.cells #[.int .i64 kind, .int .i64 num, .string str, .slice ak keys.length ck, .slice al list.length cl] 26) (.cells #[.int .i64 0, .int .i64 0, .string { data := #[] }, .slice none 0 0, .slice none 0 0] 26) (.cells #[.int .i64 0, .int .i64 0, .string { data := #[] }, .slice none 0 0, .slice none 0 0] 26) (.cells #[] 9)) (nb2 w (.cells #[.int .i64 kind, .int .i64 num, .string str, .slice ak keys.length ck, .slice al list.length cl] 26) (.cells #[.int .i64 0, .int .i64 0, .string { data := #[] }, .slice none 0 0, .slice none 0 0] 26) (.cells #[.int .i64 0, .int .i64 0, .string { data := #[] }, .slice none 0 0, .slice none 0 0] 26) (.cells #[] 9)) (by omega) (by omega) (by omega) hgr hown
        exact ⟨w.heap.size + 1 + 1, .slice ka keys.length kc, rfl, hc⟩
    case rest =>
      obtain ⟨b, vk, rfl, hca⟩ := hcut
      have hbw := hca.out.below
      have hab := hca.out.above
      have hTO : Hid (CopyTo (d := d) wc wc (Nd.mk kind num str keys list) b vk (.slice none 0 0) 0 [] (fun _ _ => False)) := ⟨hca.out.out, ValsTo.start _ _ _, But.refl _ _⟩
      obtain ⟨ka, kc, rfl, hkn⟩ := hca.out.keys.open'
      go_wp2_with fail
      go_loopw [4] (fun i wr => ∃ (k : Nat) (lv : Value) (vs : List Value) (P : Nat → Nat → Prop), k ≤ list.length ∧ i = .int .i64 (k : Int) ∧ Hid (CopyTo (d := d) wc wr (Nd.mk kind num str keys list) b (.slice ka keys.length kc) lv k vs P)) (fun i _ => list.length - (intOf i).toNat)
      case atStart => exact ⟨0, _, [], _, Nat.zero_le _, rfl, hTO⟩
      case round =>
        clear hTO
        obtain ⟨k, lv, vs, P, hkk, rfl, hto⟩ := hrel
        have hbu := hto.out.but
        have hrb : Below w.heap.size w wr := ⟨hbu.os.trans hbw.os, hbu.tape.trans hbw.tape, hbu.output.trans hbw.output, Nat.le_trans hbw.size hbu.size, fun j hj => (hbu.block j (Nat.lt_of_lt_of_le hj hbw.size) (fun e => by cases e; omega)).trans (hbw.block j hj)⟩
        have kbox := hca.out.box.of_block (hbu.block _ hca.out.box.lt (fun e => by cases e; omega))
        obtain ⟨x0, x1, x2, x3, x4⟩ := kbox.cell
        by_cases hkl : k < list.length
        · obtain ⟨eb, eo, x, c0, c1, c2, c3, c4, rfl, heS, hx, e0, e1, e2, e3, e4, hval⟩ := (hl.same (hS.same hrb)).cell hkl
          obtain ⟨q0, q1, q2, q3, q4, q5, q6, q7, q8, hq⟩ := hval.shape
          cases hq
          have hwx : (wtT d x : Int) ≤ 4194304 := by
            have := wt_mem (d := d) hx
            omega
          obtain ⟨la, ln, lc, rfl⟩ := row_slice hto.out.vals.own
          obtain ⟨y0, y1, y2, y3, y4⟩ := hto.out.out.cell
          have yf := hto.out.out.frozen 4
          have hki : (k : Int) < (list.length : Int) := by omega
          have hbl := hto.out.out.lt
          have hWr := hS.later hrb.size
          have HX := hide hx
          have hNs : wc.heap.size ≤ wr.heap.size := hbu.size
          have hebl := hS eb heS
          clear hx
          have hcall := hide (ih S x _ wr.drew (hval.same (fun _ _ => rfl)) hWr hwx)
          have hnb : ∀ g, (Value.slice la ln lc).ownBlock = some g → wc.heap.size ≤ g := fun g hg => (hto.out.vals.own.lt g hg).1
          have hbc : b < wc.heap.size := hca.out.out.lt
          obtain ⟨i0, hi, hz0, hz1, hz2⟩ := info_parts Tryz.infoVal
          have HB1 := hide hto.out.vals
          go_wp2_with fail
          go_region_law (first
            | (refine step_call_run _ 57 _ (by rfl) (by go_simp) hcall.out ?_; rintro u w1 ⟨hu, hb1⟩; obtain ⟨u0', u1', u2', u3', u4', u5', u6', u7', u8', rfl⟩ := (ValOwn.at d _ _ _ hu).shape; have hblt : b < w1.heap.size := Nat.lt_of_lt_of_le hbl hb1.size; have yb1 : Blk5 w1 b 26 (.int .i64 kind) (.int .i64 num) (.string str) (.slice ka keys.length kc) (.slice la ln lc) := hto.out.out.of_block (hb1.block b hbl); obtain ⟨_, _, _, _, z4⟩ := yb1.cell; have z4' := fun o => ((yb1.alloc o).cell).2.2.2.2; have hown1 := hide ((hto.out.vals.own.kept (row := none) ⟨hb1.os, hb1.tape, hb1.output, hb1.size, fun i hi _ => hb1.block i hi⟩ (by cases (Value.slice la ln lc).ownBlock <;> simp)).alloc (.cells #[.int .i64 u0', .int .i64 u1', .string u2', .slice u3' u4' u5', .slice u6' u7' u8'] 26)))
            | (refine step_append_run _ (by rfl) _ _ 24 (by rfl) _ _ (by rfl) (by rfl) (run_append_own_at (P := Tryz.prog) _ wc.heap.size 24 _ 26 i0 zeroVal 5 80 Tryz.underlying24 hi hz0 hz1 hz2 rfl (by decide) _ _ _ hown1.out ⟨w1.heap.size, 0, none⟩ 1 1 [.int .i64 u0', .int .i64 u1', .string u2', .slice u3' u4' u5', .slice u6' u7' u8'] rfl (cell_five_new _ _ _ _ _ _ _) (by intro y hy; simp at hy; rcases hy with rfl | rfl | rfl | rfl | rfl <;> rfl) (by unfold maxLen; omega) (by omega) (by rw [World.size_alloc]; have h5 : wr.heap.size ≤ w1.heap.size := hb1.size; omega)) ?_; rintro v' w2 ⟨o1, o2, _, o3⟩; obtain ⟨va, vn, vc, rfl⟩ := row_slice o1; have yb2 : Blk5 w2 b 26 (.int .i64 kind) (.int .i64 num) (.string str) (.slice ka keys.length kc) (.slice la ln lc) := (yb1.alloc _).of_block (o2.block b (by rw [World.size_alloc]; omega) (fun e => by have := hnb b e.symm; omega)); obtain ⟨_, _, _, _, v4⟩ := yb2.cell; have v4f := yb2.frozen 4))
          all_goals
            have hb1' : Below wr.heap.size wr w1 := ⟨hb1.os, hb1.tape, hb1.output, hb1.size, hb1.block⟩
            have HH := hide (hto.out.step (w1 := w1) (w2 := w2) hb1' HX.out hu o1 o2 o3 hbc yb2)
            clear o1 o2 o3 hown1 hu hb1' hb1 yb1 yb2 z4 z4' hcall HB1 hto
            go_wp2_with fail
            go_roundw
            case rel =>
              obtain ⟨P', hP'⟩ := HH.out
              exact ⟨k + 1, _, _, P', by omega, by go_num, hP'⟩
            case measure => simp [intOf]; omega
        · obtain rfl : k = list.length := by omega
          have kres := hca.out.res.of_block (hbu.block _ hca.out.res.lt (fun e => by cases e; omega))
          obtain ⟨la, ln, lc, rfl⟩ := row_slice hto.out.vals.own
          obtain ⟨z0, z1, z2, z3, z4⟩ := kres.cell
          have zf := kres.frozen
          obtain ⟨y0, y1, y2, y3, y4⟩ := hto.out.out.cell
          have hend := hide (hto.out.final hca.out hll i1 i2 i3)
          clear hto hca kres kbox hl hk ih
          go_wp2_with fail
          refine bodyPost_ret (v := .agg #[.int .i64 kind, .int .i64 num, .string str, .slice ka keys.length kc, .slice la ln lc]) (by simp [results, Tryz.results57, go_sem, z0, z1, z2, z3, z4]) rfl ⟨_, rfl, hend.out _ rfl⟩
end Go.Proofs.YtmibjmipndffmaaGreatDoor

/- PartAt of the model. Of what is right. -/
namespace Go.Proofs.YtmibjmipndffmaaGreatDoor
open Go.RowKit Go.Deep

theorem l2Place_any (i : Int) (n : Nat) (hi : I64 i) (hn : n ≤ 60) (w : World) : Calls Tryz.prog 145 #[.int .i64 i, .int .i64 n] w fun e w' => e = .returned (.int .i64 (placeI i n)) ∧ w' = w := by
  obtain ⟨hi1, hi2⟩ := hi
  by_cases h1 : i < -(n : Int)
  · have hm : Hid (placeI i n = -1) := by
      show placeI i n = -1
      unfold placeI
      rw [if_pos (Or.inl h1)]
    go_enter Tryz.func145, Tryz.ntmps145
    go_wp2_with fail
    go_ret
    rw [hm.out]
    exact ⟨rfl, rfl⟩
  by_cases h2 : (n : Int) ≤ i
  · have hm : Hid (placeI i n = -1) := by
      show placeI i n = -1
      unfold placeI
      rw [if_pos (Or.inr h2)]
    go_enter Tryz.func145, Tryz.ntmps145
    go_wp2_with fail
    go_ret
    rw [hm.out]
    exact ⟨rfl, rfl⟩
  by_cases h3 : i < 0
  · have hm : Hid (placeI i n = i + n) := by
      show placeI i n = i + n
      unfold placeI
      rw [if_neg (by omega), if_pos h3]
    go_enter Tryz.func145, Tryz.ntmps145
    go_wp2_with fail
    go_ret
    rw [hm.out]
    exact ⟨rfl, rfl⟩
  · have hm : Hid (placeI i n = i) := by
      show placeI i n = i
      unfold placeI
      rw [if_neg (by omega), if_neg h3]
    go_enter Tryz.func145, Tryz.ntmps145
    go_wp2_with fail
    go_ret
    rw [hm.out]
    exact ⟨rfl, rfl⟩

set_option maxRecDepth 100000 in
set_option maxHeartbeats 4000000 in
theorem l2At_any (d : Nat) (S : Nat → Prop) (t : Tr (d + 2)) (v : Value) (i : Int) (w : World) (hv : ValAt S w (d + 2) t v) (hS : Within S w) (hi : I64 i) (hok : okT (d + 2) t = true) :
    Calls Tryz.prog 122 #[v, .int .i64 i] w fun e w' => ∃ u, e = .returned (.tuple #[u, .bool (partAtT d t i).2]) ∧ ValAt S w' (d + 1) (partAtT d t i).1 u ∧ Below w.heap.size w w' := by
  have hv0 := hv
  obtain ⟨vk, vl, rfl, i1, i2, i3, hk, hl⟩ := hv
  obtain ⟨ak, ck, rfl, hkl⟩ := hk.open'
  obtain ⟨al, cl, rfl, hll⟩ := hl.open'
  obtain ⟨hkinds, hl60, _⟩ := okT_kinds hok
  have hl60 : t.list.length ≤ 60 := hl60
  clear hkinds
  have hB1 := hide (below_trans (below_alloc1 w (.cells #[.int .i64 t.kind, .int .i64 t.num, .string t.str, .slice ak t.keys.length ck, .slice al t.list.length cl] 26)) (below_alloc1 _ (.cells #[.int .i64 t.kind, .int .i64 t.num, .string t.str, .slice ak t.keys.length ck, .slice al t.list.length cl] 26)))
  have hB2 := hide (below_trans (below_alloc1 w (.cells #[.int .i64 t.kind, .int .i64 t.num, .string t.str, .slice ak t.keys.length ck, .slice al t.list.length cl] 26)) (below_alloc1 _ (.cells #[.int .i64 0, .int .i64 0, .string { data := #[] }, .slice none 0 0, .slice none 0 0] 26)))
  by_cases e0 : t.kind = 0
  · have q0 : (t.kind == 0) = true := by simpa using e0
    have hz : Hid (partAtT d t i = (zeroT d, true)) := by
      show partAtT d t i = _
      rw [partAtT, if_pos hok, if_pos e0]
    have HV := hide (valAt_zero hok e0 hv0)
    clear e0 hk hl hv0 hB2
    go_enter Tryz.func122, Tryz.ntmps122
    go_wp2_with fail
    rw [hz.out]
    exact bodyPost_ret (v := .tuple #[.agg #[.int .i64 t.kind, .int .i64 t.num, .string t.str, .slice ak t.keys.length ck, .slice al t.list.length cl], .bool true]) (by simp [results, Tryz.results122, go_sem]) rfl ⟨_, rfl, HV.out.same (hS.same hB1.out), hB1.out⟩
  have q0 : (t.kind == 0) = false := by simpa using e0
  by_cases e5 : t.kind = 5
  · have q5 : (t.kind != 5) = false := by simpa using e5
    rcases placeI_range i t.list.length with hp | ⟨hp1, hp2⟩
    · have hz : Hid (partAtT d t i = (zeroT d, true)) := by
        show partAtT d t i = _
        rw [partAtT, if_pos hok, if_neg e0, if_pos e5]
        unfold placeL
        rw [if_pos (by rw [hp]; omega)]
        rfl
      have HP := hide hp
      clear e0 e5 hk hl hv0 hB1 hp
      go_enter Tryz.func122, Tryz.ntmps122
      go_wp2_with fail
      refine (l2Place_any i t.list.length hi hl60 _).mono ?_
      rintro e w1 ⟨rfl, rfl⟩
      rw [HP.out]
      go_wp2_with fail
      rw [hz.out]
      exact bodyPost_ret (v := .tuple #[zeroVal, .bool true]) (by simp [results, Tryz.results122, go_sem, zeroVal]; rfl) rfl ⟨_, rfl, zeroAt d _ _, hB2.out⟩
    · obtain ⟨k, hk1⟩ : ∃ k : Nat, placeI i t.list.length = (k : Int) := ⟨(placeI i t.list.length).toNat, by omega⟩
      rw [hk1] at hp1 hp2
      have hkl : k < t.list.length := by omega
      obtain ⟨eb, eo, x, c0, c1, c2, c3, c4, rfl, heS, hx, f0, f1, f2, f3, f4, hval⟩ := hl.cell hkl
      have hz : Hid (partAtT d t i = (x, true)) := by
        show partAtT d t i = _
        rw [partAtT, if_pos hok, if_neg e0, if_pos e5]
        unfold placeL
        rw [hk1, if_neg (by omega), Int.toNat_natCast, hx]
        rfl
      obtain ⟨q0', q1', q2', q3', q4', q5', q6', q7', q8', hq⟩ := hval.shape
      cases hq
      have hebl := hS eb heS
      have HP := hide hk1
      have HV := hide hval
      have hki : (k : Int) < (t.list.length : Int) := by omega
      clear e0 e5 hk hl hv0 hB1 hk1 hval hx
      go_enter Tryz.func122, Tryz.ntmps122
      go_wp2_with fail
      refine (l2Place_any i t.list.length hi hl60 _).mono ?_
      rintro e w1 ⟨rfl, rfl⟩
      rw [HP.out]
      go_wp2_with fail
      rw [hz.out]
      have hB := below_trans (below_alloc1 w (.cells #[.int .i64 t.kind, .int .i64 t.num, .string t.str, .slice ak t.keys.length ck, .slice (some ⟨eb, eo, none⟩) t.list.length cl] 26)) (below_alloc1 _ (.cells #[.int .i64 q0', .int .i64 q1', .string q2', .slice q3' q4' q5', .slice q6' q7' q8'] 26))
      exact bodyPost_ret (v := .tuple #[.agg #[.int .i64 q0', .int .i64 q1', .string q2', .slice q3' q4' q5', .slice q6' q7' q8'], .bool true]) (by simp [results, Tryz.results122, go_sem]) rfl ⟨_, rfl, HV.out.same (hS.same hB), hB⟩
  · have q5 : (t.kind != 5) = true := by simpa using e5
    have hz : Hid (partAtT d t i = (zeroT d, false)) := by
      show partAtT d t i = _
      rw [partAtT, if_pos hok, if_neg e0, if_neg e5]
    clear e0 e5 hk hl hv0 hB1
    go_enter Tryz.func122, Tryz.ntmps122
    go_wp2_with fail
    rw [hz.out]
    exact bodyPost_ret (v := .tuple #[zeroVal, .bool false]) (by simp [results, Tryz.results122, go_sem, zeroVal]; rfl) rfl ⟨_, rfl, zeroAt d _ _, hB2.out⟩
end Go.Proofs.YtmibjmipndffmaaGreatDoor

/- PartGet of the model. Of what is right. -/
namespace Go.Proofs.YtmibjmipndffmaaGreatDoor
open Go.RowKit Go.Deep

set_option maxRecDepth 100000 in
set_option maxHeartbeats 2000000 in
theorem l2Key_any (d : Nat) (S : Nat → Prop) (t : Tr (d + 1)) (v : Value) (s : ByteArray) (w : World) (hv : ValAt S w (d + 1) t v) (hS : Within S w) :
    Calls Tryz.prog 144 #[v, .string s] w fun e w' => (∃ r : Int, e = .returned (.int .i64 r) ∧ ((r = -1 ∧ s ∉ Nd.keys t) ∨ ∃ k : Nat, r = k ∧ (Nd.keys t)[k]? = some s ∧ ∀ j, j < k → (Nd.keys t)[j]? ≠ some s)) ∧ Below w.heap.size w w' := by
  obtain ⟨vk, vl, rfl, i1, i2, i3, hk, hl⟩ := hv
  obtain ⟨ak, ck, rfl, hkl⟩ := hk.open'
  obtain ⟨al, cl, rfl, hll⟩ := hl.open'
  obtain ⟨W0, hW⟩ : ∃ W0, W0 = w.alloc (.cells #[.int .i64 t.kind, .int .i64 t.num, .string t.str, .slice ak t.keys.length ck, .slice al t.list.length cl] 26) := ⟨_, rfl⟩
  have hW0 : Below w.heap.size w W0 := by rw [hW]; exact below_alloc1 _ _
  have k0 : Blk5 W0 w.heap.size 26 (.int .i64 t.kind) (.int .i64 t.num) (.string t.str) (.slice ak t.keys.length ck) (.slice al t.list.length cl) := by
    rw [hW]; exact Blk5.new w 26 _ _ _ _ _
  obtain ⟨x0, x1, x2, x3, x4⟩ := k0.cell
  have hk0 := hk.same (hS.same hW0)
  have HW := hide hW
  have HB := hide hW0
  clear hW hk hl hW0 k0
  generalize hK : t.keys = keys at *
  clear hK
  go_enter Tryz.func144, Tryz.ntmps144
  go_wp2_with fail
  rw [← HW.out]
  clear HW
  go_loopw [5] (fun i wr => ∃ k : Nat, k ≤ keys.length ∧ i = .int .i64 k ∧ wr = W0 ∧ Hid (∀ j, j < k → keys[j]? ≠ some s)) (fun i _ => keys.length - (intOf i).toNat)
  case atStart => exact ⟨0, Nat.zero_le _, rfl, rfl, fun j hj => by omega⟩
  case round =>
    obtain ⟨k, hk, rfl, rfl, hfin⟩ := hrel
    by_cases hkl : k < keys.length
    · obtain ⟨b, o, s', rfl, _, hs, hsz, hck⟩ := hk0.cell hkl
      have hki : (k : Int) < (keys.length : Int) := by omega
      by_cases e : s' = s
      · subst e
        have hq : (s'.toList == s'.toList) = true := by simp
        have HS := hide hs
        clear hk0 hs
        go_wp2_with fail
        go_ret
        exact ⟨⟨_, rfl, Or.inr ⟨k, rfl, HS.out, hfin.out⟩⟩, HB.out⟩
      · have hq : (s'.toList == s.toList) = false := by
          cases hb : (s'.toList == s.toList) with
          | false => rfl
          | true =>
            refine absurd ?_ e
            have h1 : s'.toList = s.toList := by simpa using hb
            rw [ByteArray.toList_eq, ByteArray.toList_eq] at h1
            exact ByteArray.ext (Array.ext' h1)
        have hnx : Hid (∀ j, j < k + 1 → keys[j]? ≠ some s) := fun j hj => by
          by_cases hjk : j = k
          · subst hjk
            rw [hs]
            intro h
            exact e (by simpa using h)
          · exact hfin.out j (by omega)
        clear hk0 hs hfin e
        go_wp2_with fail
        go_roundw
        case rel => exact ⟨k + 1, by omega, by go_num, trivial, hnx⟩
        case measure => simp [intOf]; omega
    · obtain rfl : k = keys.length := by omega
      have hno : Hid (s ∉ keys) := fun h => by
        obtain ⟨j, hj⟩ := List.getElem?_of_mem h
        exact hfin.out j (List.getElem?_eq_some_iff.1 hj).1 hj
      clear hk0 hfin
      go_wp2_with fail
      go_ret
      exact ⟨⟨-1, rfl, Or.inl ⟨rfl, hno.out⟩⟩, HB.out⟩
set_option maxRecDepth 100000 in
set_option maxHeartbeats 4000000 in
theorem l2Get_any (d : Nat) (S : Nat → Prop) (t : Tr (d + 2)) (v : Value) (s : ByteArray) (w : World) (hv : ValAt S w (d + 2) t v) (hS : Within S w) (hstr : strOk s = true) (hok : okT (d + 2) t = true) :
    Calls Tryz.prog 121 #[v, .string s] w fun e w' => ∃ u, e = .returned (.tuple #[u, .bool (partGetT d t s).2]) ∧ ValAt S w' (d + 1) (partGetT d t s).1 u ∧ Below w.heap.size w w' := by
  have hv0 := hv
  obtain ⟨vk, vl, rfl, i1, i2, i3, hk, hl⟩ := hv
  obtain ⟨ak, ck, rfl, hkl⟩ := hk.open'
  obtain ⟨al, cl, rfl, hll⟩ := hl.open'
  obtain ⟨hkinds, hl60, _⟩ := okT_kinds hok
  have hl60 : t.list.length ≤ 60 := hl60
  clear hkinds
  have hB1 := hide (below_trans (below_alloc1 w (.cells #[.int .i64 t.kind, .int .i64 t.num, .string t.str, .slice ak t.keys.length ck, .slice al t.list.length cl] 26)) (below_alloc1 _ (.cells #[.int .i64 t.kind, .int .i64 t.num, .string t.str, .slice ak t.keys.length ck, .slice al t.list.length cl] 26)))
  have hB2 := hide (below_trans (below_alloc1 w (.cells #[.int .i64 t.kind, .int .i64 t.num, .string t.str, .slice ak t.keys.length ck, .slice al t.list.length cl] 26)) (below_alloc1 _ (.cells #[.int .i64 0, .int .i64 0, .string { data := #[] }, .slice none 0 0, .slice none 0 0] 26)))
  by_cases e0 : t.kind = 0
  · have q0 : (t.kind == 0) = true := by simpa using e0
    have hz : Hid (partGetT d t s = (zeroT d, true)) := by
      show partGetT d t s = _
      rw [partGetT, if_pos ⟨hok, hstr⟩, if_pos e0]
    have HV := hide (valAt_zero hok e0 hv0)
    clear e0 hk hl hv0 hB2
    go_enter Tryz.func121, Tryz.ntmps121
    go_wp2_with fail
    rw [hz.out]
    exact bodyPost_ret (v := .tuple #[.agg #[.int .i64 t.kind, .int .i64 t.num, .string t.str, .slice ak t.keys.length ck, .slice al t.list.length cl], .bool true]) (by simp [results, Tryz.results121, go_sem]) rfl ⟨_, rfl, HV.out.same (hS.same hB1.out), hB1.out⟩
  have q0 : (t.kind == 0) = false := by simpa using e0
  by_cases e5 : t.kind = 6
  · have q5 : (t.kind != 6) = false := by simpa using e5
    have hkeq := hide (okT_keys hok e5)
    have HZ : Hid (∀ y, getL t.keys t.list s = y → partGetT d t s = (y.getD (zeroT d), true)) := by
      intro y hy
      rw [partGetT, if_pos ⟨hok, hstr⟩, if_neg e0, if_pos e5]
      show ((getL t.keys t.list s).getD (zeroT d), true) = _
      rw [hy]
    have HVV := hide hv0
    clear e0 e5 hk hv0 hB1
    go_enter Tryz.func121, Tryz.ntmps121
    go_wp2_with fail
    refine (l2Key_any (d + 1) S t _ s _ (HVV.out.same (hS.same hB2.out)) (hS.later hB2.out.size)).mono ?_
    rintro e w1 ⟨⟨r, rfl, hr⟩, hb1⟩
    have hB3 := below_trans hB2.out hb1
    have HB3 := hide hB3
    have kk0 : Blk5 w1 w.heap.size 26 (.int .i64 t.kind) (.int .i64 t.num) (.string t.str) (.slice ak t.keys.length ck) (.slice al t.list.length cl) := ((Blk5.new w 26 _ _ _ _ _).alloc _).below hb1
    have kk1 : Blk5 w1 (w.heap.size + 1) 26 (.int .i64 0) (.int .i64 0) (.string { data := #[] }) (.slice none 0 0) (.slice none 0 0) := by
      have h1 := Blk5.new (w.alloc (.cells #[.int .i64 t.kind, .int .i64 t.num, .string t.str, .slice ak t.keys.length ck, .slice al t.list.length cl] 26)) 26 (.int .i64 0) (.int .i64 0) (.string { data := #[] }) (.slice none 0 0) (.slice none 0 0)
      rw [World.size_alloc] at h1
      exact h1.below hb1
    obtain ⟨x0, x1, x2, x3, x4⟩ := kk0.cell
    obtain ⟨y0, y1, y2, y3, y4⟩ := kk1.cell
    have yf := kk1.frozen
    have hend : Hid (∀ (x : Tr (d + 1)) (u0 u1 u2 u3 u4 : Value), partGetT d t s = (x, true) → ValAt S w1 (d + 1) x (.agg #[u0, u1, u2, u3, u4]) → ∀ wF, wF = set5 w1 (w.heap.size + 1) 0 u0 u1 u2 u3 u4 → ValAt S wF (d + 1) (partGetT d t s).1 (.agg #[u0, u1, u2, u3, u4]) ∧ Below w.heap.size w wF) := by
      intro x u0 u1 u2 u3 u4 hx hv wF hF
      rw [hx]
      refine ⟨hv.same (fun b hb => ?_), ?_⟩
      · rw [hF, set5_block _ _ _ _ _ _ _ _ _ (by have := hS b hb; omega)]
      · rw [hF]
        exact below_set5 hB3 (by omega) _ _ _ _ _ _
    have hl1 := hl.same (hS.same hB3)
    clear hl hb1 hB2 hB3 kk0 kk1
    rcases hr with ⟨rfl, hr⟩ | ⟨k, rfl, hr1, hr2⟩
    · have hz := hide (HZ.out none (getL_miss hr))
      have HE := hide (hend.out (zeroT d) _ _ _ _ _ hz.out (zeroAt d S w1))
      clear hend hr HZ hl1
      go_wp2_with fail
      refine bodyPost_ret (v := .tuple #[zeroVal, .bool true]) (by simp [results, Tryz.results121, go_sem, zeroVal, y0, y1, y2, y3, y4]; rfl) rfl ⟨_, by rw [hz.out]; rfl, (HE.out _ rfl).1, (HE.out _ rfl).2⟩
    · have hkl : k < t.list.length := by
        have := (List.getElem?_eq_some_iff.1 hr1).1
        have := hkeq.out
        omega
      obtain ⟨eb, eo, x, c0, c1, c2, c3, c4, rfl, heS, hx, f0, f1, f2, f3, f4, hval⟩ := hl1.cell hkl
      have hz := hide (HZ.out (some x) (getL_at hr1 hx hr2))
      obtain ⟨q0', q1', q2', q3', q4', q5', q6', q7', q8', hq⟩ := hval.shape
      cases hq
      have HE := hide (hend.out x _ _ _ _ _ hz.out hval)
      have hebl := hS eb heS
      have hki : (k : Int) < (t.list.length : Int) := by omega
      have hk0 : (0 : Int) ≤ (k : Int) := by omega
      clear hend hr1 hr2 HZ hl1 hval hx hkeq
      go_wp2_with fail
      refine bodyPost_ret (v := .tuple #[.agg #[.int .i64 q0', .int .i64 q1', .string q2', .slice q3' q4' q5', .slice q6' q7' q8'], .bool true]) (by simp [results, Tryz.results121, go_sem, y0, y1, y2, y3, y4]) rfl ⟨_, by rw [hz.out], (HE.out _ rfl).1, (HE.out _ rfl).2⟩
  · have q5 : (t.kind != 6) = true := by simpa using e5
    have hz : Hid (partGetT d t s = (zeroT d, false)) := by
      show partGetT d t s = _
      rw [partGetT, if_pos ⟨hok, hstr⟩, if_neg e0, if_neg e5]
    clear e0 e5 hk hl hv0 hB1
    go_enter Tryz.func121, Tryz.ntmps121
    go_wp2_with fail
    rw [hz.out]
    exact bodyPost_ret (v := .tuple #[zeroVal, .bool false]) (by simp [results, Tryz.results121, go_sem, zeroVal]; rfl) rfl ⟨_, rfl, zeroAt d _ _, hB2.out⟩
end Go.Proofs.YtmibjmipndffmaaGreatDoor

/- l3One of the model. -/
namespace Go.Proofs.YtmibjmipndffmaaGreatDoor
open Go.RowKit Go.Deep

theorem at_end {D : Nat} {S : Nat → Prop} {t : Tr D} {w w2 : World} {v : Value} {c : Nat} (hu : ValAt S w2 D t v) (hS : Within S w) (hB : Below w.heap.size w w2) (hc : w.heap.size ≤ c) :
    ∀ (u0 u1 u2 u3 u4 : Value) (wF : World), wF = set5 w2 c 0 u0 u1 u2 u3 u4 → ValAt S wF D t v ∧ Below w.heap.size w wF := by
  intro u0 u1 u2 u3 u4 wF hF
  refine ⟨hu.same (fun b hb => ?_), by rw [hF]; exact below_set5 hB hc _ _ _ _ _ _⟩
  rw [hF, set5_block _ _ _ _ _ _ _ _ _ (by have := hS b hb; omega)]

set_option maxRecDepth 100000 in
set_option maxHeartbeats 4000000 in
theorem l3One_any (d : Nat) (S : Nat → Prop) (t : Tr (d + 2)) (v : Value) (p : Stp) (w : World) (hv : ValAt S w (d + 2) t v) (hS : Within S w) (hp : StpFit p) (hok : okT (d + 2) t = true) (hst : stpOk p = true) :
    Calls Tryz.prog 95 #[v, .agg #[.bool p.map, .string p.key, .int .i64 p.place]] w fun e w' => ∃ u, e = .returned (.tuple #[u, .bool (stepT d t p).2]) ∧ ValAt S w' (d + 2) (stepT d t p).1 u ∧ Below w.heap.size w w' := by
  obtain ⟨k, n, s, ak, lk, ck, al, ll, cl, rfl⟩ := hv.shape
  cases hm : p.map with
  | true =>
    have HS := hide (stepT_map (d := d) (t := t) hm)
    have hstr := strOk_of hst hm
    obtain ⟨W0, hW⟩ : ∃ W0, W0 = ((w.alloc (.cells #[.int .i64 k, .int .i64 n, .string s, .slice ak lk ck, .slice al ll cl] 26)).alloc (.cells #[.bool true, .string p.key, .int .i64 p.place] 40)).alloc (.cells #[.int .i64 0, .int .i64 0, .string { data := #[] }, .slice none 0 0, .slice none 0 0] 26) := ⟨_, rfl⟩
    have hW0 : Below w.heap.size w W0 := by rw [hW]; exact below_trans (below_trans (below_alloc1 _ _) (below_alloc1 _ _)) (below_alloc1 _ _)
    have k2 : Blk5 W0 (w.heap.size + 1 + 1) 26 (.int .i64 0) (.int .i64 0) (.string { data := #[] }) (.slice none 0 0) (.slice none 0 0) := by
      have := Blk5.new ((w.alloc (.cells #[.int .i64 k, .int .i64 n, .string s, .slice ak lk ck, .slice al ll cl] 26)).alloc (.cells #[.bool true, .string p.key, .int .i64 p.place] 40)) 26 (.int .i64 0) (.int .i64 0) (.string { data := #[] }) (.slice none 0 0) (.slice none 0 0)
      rw [World.size_alloc, World.size_alloc] at this
      rw [hW]
      exact this
    have HW := hide hW
    clear hW
    go_enter Tryz.func95, Tryz.ntmps95
    go_wp2_with fail
    rw [← HW.out]
    clear HW
    refine (l2Get_any d S t _ p.key W0 (hv.same (hS.same hW0)) (hS.later hW0.size) hstr hok).mono ?_
    rintro e w1 ⟨u, rfl, hu, hb1⟩
    obtain ⟨u0, u1, u2, u3, u4, u5, u6, u7, u8, rfl⟩ := hu.shape
    have HF := hide (at_end hu hS (below_trans hW0 hb1) (show w.heap.size ≤ w.heap.size + 1 + 1 by omega))
    have k3 := k2.below hb1
    obtain ⟨y0, y1, y2, y3, y4⟩ := k3.cell
    have yf := k3.frozen
    clear k2 k3 hb1 hW0 hu hv
    go_wp2_with fail
    rw [HS.out]
    refine bodyPost_ret (v := .tuple #[.agg #[.int .i64 u0, .int .i64 u1, .string u2, .slice u3 u4 u5, .slice u6 u7 u8], .bool (partGetT d t p.key).2]) (by simp [results, Tryz.results95, go_sem, y0, y1, y2, y3, y4]) rfl ⟨_, rfl, ValAt.up _ _ _ (HF.out _ _ _ _ _ _ rfl).1, (HF.out _ _ _ _ _ _ rfl).2⟩
  | false =>
    have HS := hide (stepT_place (d := d) (t := t) hm)
    obtain ⟨W0, hW⟩ : ∃ W0, W0 = ((w.alloc (.cells #[.int .i64 k, .int .i64 n, .string s, .slice ak lk ck, .slice al ll cl] 26)).alloc (.cells #[.bool false, .string p.key, .int .i64 p.place] 40)).alloc (.cells #[.int .i64 0, .int .i64 0, .string { data := #[] }, .slice none 0 0, .slice none 0 0] 26) := ⟨_, rfl⟩
    have hW0 : Below w.heap.size w W0 := by rw [hW]; exact below_trans (below_trans (below_alloc1 _ _) (below_alloc1 _ _)) (below_alloc1 _ _)
    have k2 : Blk5 W0 (w.heap.size + 1 + 1) 26 (.int .i64 0) (.int .i64 0) (.string { data := #[] }) (.slice none 0 0) (.slice none 0 0) := by
      have := Blk5.new ((w.alloc (.cells #[.int .i64 k, .int .i64 n, .string s, .slice ak lk ck, .slice al ll cl] 26)).alloc (.cells #[.bool false, .string p.key, .int .i64 p.place] 40)) 26 (.int .i64 0) (.int .i64 0) (.string { data := #[] }) (.slice none 0 0) (.slice none 0 0)
      rw [World.size_alloc, World.size_alloc] at this
      rw [hW]
      exact this
    have HW := hide hW
    clear hW
    go_enter Tryz.func95, Tryz.ntmps95
    go_wp2_with fail
    rw [← HW.out]
    clear HW
    refine (l2At_any d S t _ p.place W0 (hv.same (hS.same hW0)) (hS.later hW0.size) hp.2 hok).mono ?_
    rintro e w1 ⟨u, rfl, hu, hb1⟩
    obtain ⟨u0, u1, u2, u3, u4, u5, u6, u7, u8, rfl⟩ := hu.shape
    have HF := hide (at_end hu hS (below_trans hW0 hb1) (show w.heap.size ≤ w.heap.size + 1 + 1 by omega))
    have k3 := k2.below hb1
    obtain ⟨y0, y1, y2, y3, y4⟩ := k3.cell
    have yf := k3.frozen
    clear k2 k3 hb1 hW0 hu hv
    go_wp2_with fail
    rw [HS.out]
    refine bodyPost_ret (v := .tuple #[.agg #[.int .i64 u0, .int .i64 u1, .string u2, .slice u3 u4 u5, .slice u6 u7 u8], .bool (partAtT d t p.place).2]) (by simp [results, Tryz.results95, go_sem, y0, y1, y2, y3, y4]) rfl ⟨_, rfl, ValAt.up _ _ _ (HF.out _ _ _ _ _ _ rfl).1, (HF.out _ _ _ _ _ _ rfl).2⟩

theorem below_alloc_r {B : Nat} {a w : World} {o : Obj} (h : Below B a w) (hB : B ≤ a.heap.size := by exact Nat.le_refl _) : Below B a (w.alloc o) := h.trans ((below_alloc1 w o).mono (Nat.le_trans hB h.size))
theorem below_cell_r {B : Nat} {a w : World} {p : Addr} {v : Value} (h : Below B a w) (hB : B ≤ p.block) : Below B a (w.setCell p v) := h.setCell hB v
theorem Blk5.set5 {w : World} {b : Nat} {T : TypeId} {c0 c1 c2 c3 c4 : Value} (h : Blk5 w b T c0 c1 c2 c3 c4) (u0 u1 u2 u3 u4 : Value) : Blk5 (set5 w b 0 u0 u1 u2 u3 u4) b T u0 u1 u2 u3 u4 := by
  unfold Blk5 at h ⊢
  simp [Go.Proofs.YtmibjmipndffmaaGreatDoor.set5, World.setCell, Array.getElem?_modify, h]
end Go.Proofs.YtmibjmipndffmaaGreatDoor

/- l3Get, PathGet of the model. -/
namespace Go.Proofs.YtmibjmipndffmaaGreatDoor
open Go.RowKit Go.Deep

set_option maxRecDepth 100000 in
set_option maxHeartbeats 4000000 in
theorem l3Get_any (d : Nat) (S : Nat → Prop) (t : Tr (d + 2)) (v : Value) (S' : Nat → Prop) (ps : List Stp) (v' : Value) (w : World) (hv : ValAt S w (d + 2) t v) (hS : Within S w) (hv' : StepsAt S' w v' ps) (hS' : Within S' w) (hok : okT (d + 2) t = true) (hps : pathOk ps = true) :
    Calls Tryz.prog 56 #[v, v'] w fun e w' => ∃ u, e = .returned (.tuple #[u, .bool (alongT d t ps).2]) ∧ ValAt S w' (d + 2) (alongT d t ps).1 u ∧ Below w.heap.size w w' := by
  obtain ⟨k, n, s, ak, lk, ck, al, ll, cl, rfl⟩ := hv.shape
  obtain ⟨a, cap, rfl, hlen⟩ := hv'.open'
  obtain ⟨W0, hW⟩ : ∃ W0, W0 = (w.alloc (.cells #[.int .i64 k, .int .i64 n, .string s, .slice ak lk ck, .slice al ll cl] 26)).alloc (.cells #[.int .i64 0, .int .i64 0, .string { data := #[] }, .slice none 0 0, .slice none 0 0] 26) := ⟨_, rfl⟩
  have hW0 : Below w.heap.size w W0 := by rw [hW]; exact below_trans (below_alloc1 _ _) (below_alloc1 _ _)
  have k0 : Blk5 W0 w.heap.size 26 (.int .i64 k) (.int .i64 n) (.string s) (.slice ak lk ck) (.slice al ll cl) := by
    rw [hW]; exact (Blk5.new w 26 _ _ _ _ _).alloc _
  have k1 : Blk5 W0 (w.heap.size + 1) 26 (.int .i64 0) (.int .i64 0) (.string { data := #[] }) (.slice none 0 0) (.slice none 0 0) := by
    have := Blk5.new (w.alloc (.cells #[.int .i64 k, .int .i64 n, .string s, .slice ak lk ck, .slice al ll cl] 26)) 26 (.int .i64 0) (.int .i64 0) (.string { data := #[] }) (.slice none 0 0) (.slice none 0 0)
    rw [World.size_alloc] at this
    rw [hW]
    exact this
  have hv0 := hv.same (hS.same hW0)
  have HW := hide hW
  clear hW hv
  go_enter Tryz.func56, Tryz.ntmps56
  go_wp2_with fail
  rw [← HW.out]
  clear HW
  have H0 : Hid (∃ (j : Nat) (x : Tr (d + 2)) (q0 q1 : Int) (q2 : ByteArray) (q3 : Option Addr) (q4 q5 : Nat) (q6 : Option Addr) (q7 q8 : Nat), j ≤ ps.length ∧ Value.int .i64 0 = .int .i64 j ∧ okT (d + 2) x = true ∧ ValAt S W0 (d + 2) x (.agg #[.int .i64 q0, .int .i64 q1, .string q2, .slice q3 q4 q5, .slice q6 q7 q8]) ∧ Blk5 W0 w.heap.size 26 (.int .i64 q0) (.int .i64 q1) (.string q2) (.slice q3 q4 q5) (.slice q6 q7 q8) ∧ Blk5 W0 (w.heap.size + 1) 26 (.int .i64 0) (.int .i64 0) (.string { data := #[] }) (.slice none 0 0) (.slice none 0 0) ∧ Below w.heap.size w W0 ∧ Hid (alongT d t ps = alongT d x (ps.drop j))) :=
    ⟨0, t, _, _, _, _, _, _, _, _, _, Nat.zero_le _, rfl, hok, hv0, k0, k1, hW0, rfl⟩
  clear hv0 k0 k1 hW0
  go_loopw [6] (fun i wr => ∃ (j : Nat) (x : Tr (d + 2)) (q0 q1 : Int) (q2 : ByteArray) (q3 : Option Addr) (q4 q5 : Nat) (q6 : Option Addr) (q7 q8 : Nat), j ≤ ps.length ∧ i = .int .i64 j ∧ okT (d + 2) x = true ∧ ValAt S wr (d + 2) x (.agg #[.int .i64 q0, .int .i64 q1, .string q2, .slice q3 q4 q5, .slice q6 q7 q8]) ∧ Blk5 wr w.heap.size 26 (.int .i64 q0) (.int .i64 q1) (.string q2) (.slice q3 q4 q5) (.slice q6 q7 q8) ∧ Blk5 wr (w.heap.size + 1) 26 (.int .i64 0) (.int .i64 0) (.string { data := #[] }) (.slice none 0 0) (.slice none 0 0) ∧ Below w.heap.size w wr ∧ Hid (alongT d t ps = alongT d x (ps.drop j))) (fun i _ => ps.length - (intOf i).toNat)
  case atStart => exact H0.out
  case round =>
    clear H0
    obtain ⟨j, x, q0, q1, q2, q3, q4, q5, q6, q7, q8, hj, rfl, hxo, hx, k0, k1, hbel, hfin⟩ := hrel
    by_cases hjl : j < ps.length
    · obtain ⟨b, o, p, rfl, hb, hp, hfit, e0, e1, e2⟩ := (hv'.same (hS'.same hbel)).cell hjl
      have hstp := stpOk_of hps hp
      obtain ⟨x0, x1, x2, x3, x4⟩ := k0.cell
      have hji : (j : Int) < (ps.length : Int) := by omega
      have hSw := hS.later hbel.size
      have hNN := k0.lt
      have hbb : b < wr.heap.size := hS'.later hbel.size b hb
      have hcall : Hid (∀ W', Below wr.heap.size wr W' → Calls Tryz.prog 95 #[.agg #[.int .i64 q0, .int .i64 q1, .string q2, .slice q3 q4 q5, .slice q6 q7 q8], .agg #[.bool p.map, .string p.key, .int .i64 p.place]] W' fun e w' => ∃ u0 u1 u2 u3 u4 u5 u6 u7 u8, e = .returned (.tuple #[.agg #[.int .i64 u0, .int .i64 u1, .string u2, .slice u3 u4 u5, .slice u6 u7 u8], .bool (stepT d x p).2]) ∧ ValAt S w' (d + 2) (stepT d x p).1 (.agg #[.int .i64 u0, .int .i64 u1, .string u2, .slice u3 u4 u5, .slice u6 u7 u8]) ∧ Below W'.heap.size W' w') := by
        intro W' hb'
        refine (l3One_any d S x _ p W' (hx.same (hSw.same hb')) (hSw.later hb'.size) hfit hxo hstp).mono ?_
        rintro e w1 ⟨u, rfl, hu, hb1⟩
        obtain ⟨u0, u1, u2, u3, u4, u5, u6, u7, u8, rfl⟩ := hu.shape
        exact ⟨u0, u1, u2, u3, u4, u5, u6, u7, u8, rfl, hu, hb1⟩
      have hK : ∀ W' : World, Below wr.heap.size wr W' → ((W'.cell? ⟨w.heap.size, 0, none⟩ = some (.int .i64 q0) ∧ W'.cell? ⟨w.heap.size, 1, none⟩ = some (.int .i64 q1) ∧ W'.cell? ⟨w.heap.size, 2, none⟩ = some (.string q2) ∧ W'.cell? ⟨w.heap.size, 3, none⟩ = some (.slice q3 q4 q5) ∧ W'.cell? ⟨w.heap.size, 4, none⟩ = some (.slice q6 q7 q8)) ∧ (W'.cell? ⟨b, o + j * 3, none⟩ = some (.bool p.map) ∧ W'.cell? ⟨b, o + j * 3 + 1, none⟩ = some (.string p.key) ∧ W'.cell? ⟨b, o + j * 3 + 2, none⟩ = some (.int .i64 p.place))) := by
        intro W' hB
        exact ⟨(k0.below hB).cell, by rw [hB.cell (p := ⟨b, o + j * 3, none⟩) hbb]; exact e0, by rw [hB.cell (p := ⟨b, o + j * 3 + 1, none⟩) hbb]; exact e1, by rw [hB.cell (p := ⟨b, o + j * 3 + 2, none⟩) hbb]; exact e2⟩
      have HK := hide hK
      have hB0 : Below wr.heap.size wr wr.drew := below_drew1 (Below.refl _ _)
      have hB0a : Below wr.heap.size wr (wr.alloc (.cells #[.int .i64 0, .int .i64 0, .string { data := #[] }, .slice none 0 0, .slice none 0 0] 26)).drew := below_drew1 (below_alloc1 _ _)
      have hZ0 : Blk5 (wr.alloc (.cells #[.int .i64 0, .int .i64 0, .string { data := #[] }, .slice none 0 0, .slice none 0 0] 26)).drew wr.heap.size 26 (.int .i64 0) (.int .i64 0) (.string { data := #[] }) (.slice none 0 0) (.slice none 0 0) := Blk5.new wr 26 _ _ _ _ _
      have K0 := hide k0
      have K1 := hide k1
      have HX := hide hx
      have HP := hide hp
      clear hK k0 k1 hx x0 x1 x2 x3 x4 e0 e1 e2 hfit hp
      go_wp2_with fail
      go_region_held (fun w' => (w'.cell? ⟨w.heap.size, 0, none⟩ = some (.int .i64 q0) ∧ w'.cell? ⟨w.heap.size, 1, none⟩ = some (.int .i64 q1) ∧ w'.cell? ⟨w.heap.size, 2, none⟩ = some (.string q2) ∧ w'.cell? ⟨w.heap.size, 3, none⟩ = some (.slice q3 q4 q5) ∧ w'.cell? ⟨w.heap.size, 4, none⟩ = some (.slice q6 q7 q8)) ∧ (w'.cell? ⟨b, o + j * 3, none⟩ = some (.bool p.map) ∧ w'.cell? ⟨b, o + j * 3 + 1, none⟩ = some (.string p.key) ∧ w'.cell? ⟨b, o + j * 3 + 2, none⟩ = some (.int .i64 p.place)))
        ((refine HK.out _ ?_; repeat (first | with_reducible exact hB0 | with_reducible exact hB0a | with_reducible exact hB1 | with_reducible refine below_alloc_r ?_ | with_reducible refine below_cell_r ?_ (Nat.le_refl _) | with_reducible refine below_cell_r ?_ hB1.size)))
        (first
          | (go_at_call 95; with_reducible refine Calls.mono (hcall.out wr.drew hB0) ?_; rintro e w1 ⟨u0, u1, u2, u3, u4, u5, u6, u7, u8, rfl, hu, hb1⟩; have hB1 : Below wr.heap.size wr w1 := below_trans hB0 hb1)
          | (go_at_call 95; with_reducible refine Calls.mono (hcall.out (wr.alloc (.cells #[.int .i64 0, .int .i64 0, .string { data := #[] }, .slice none 0 0, .slice none 0 0] 26)).drew hB0a) ?_; rintro e w1 ⟨u0, u1, u2, u3, u4, u5, u6, u7, u8, rfl, hu, hb1⟩; have hB1 : Below wr.heap.size wr w1 := below_trans hB0a hb1; have zz : Blk5 w1 wr.heap.size 26 (.int .i64 0) (.int .i64 0) (.string { data := #[] }) (.slice none 0 0) (.slice none 0 0) := hZ0.below hb1; obtain ⟨z0, z1, z2, z3, z4⟩ := zz.cell; have zf := zz.frozen))
      all_goals
        have hSw1 : Within S w1 := hSw.later hB1.size
        first
          | (have zz' := zz
             generalize hE : ((((w1.setCell ⟨wr.heap.size, 0, none⟩ (.int .i64 u0)).setCell ⟨wr.heap.size, 1, none⟩ (.int .i64 u1)).setCell ⟨wr.heap.size, 2, none⟩ (.string u2)).setCell ⟨wr.heap.size, 3, none⟩ (.slice u3 u4 u5)).setCell ⟨wr.heap.size, 4, none⟩ (.slice u6 u7 u8) = wE
             have hE' : wE = set5 w1 wr.heap.size 0 (.int .i64 u0) (.int .i64 u1) (.string u2) (.slice u3 u4 u5) (.slice u6 u7 u8) := hE.symm
             have kE : Blk5 wE wr.heap.size 26 (.int .i64 u0) (.int .i64 u1) (.string u2) (.slice u3 u4 u5) (.slice u6 u7 u8) := by rw [hE']; exact zz.set5 _ _ _ _ _
             have hBE : Below wr.heap.size wr wE := by rw [hE']; exact below_set5 hB1 (Nat.le_refl _) _ _ _ _ _ _
             have huE : ValAt S wE (d + 2) (stepT d x p).1 (.agg #[.int .i64 u0, .int .i64 u1, .string u2, .slice u3 u4 u5, .slice u6 u7 u8]) := by rw [hE']; exact hu.same (fun b hb => set5_block _ _ _ _ _ _ _ _ _ (by have := hSw b hb; omega))
             clear zz zz' z0 z1 z2 z3 z4 zf hE')
          | (generalize hE : w1.alloc (.cells #[.int .i64 u0, .int .i64 u1, .string u2, .slice u3 u4 u5, .slice u6 u7 u8] 26) = wE
             have kE : Blk5 wE w1.heap.size 26 (.int .i64 u0) (.int .i64 u1) (.string u2) (.slice u3 u4 u5) (.slice u6 u7 u8) := by rw [← hE]; exact Blk5.new _ _ _ _ _ _ _
             have hBE : Below wr.heap.size wr wE := by rw [← hE]; exact below_trans hB1 (below_alloc1 _ _)
             have huE : ValAt S wE (d + 2) (stepT d x p).1 (.agg #[.int .i64 u0, .int .i64 u1, .string u2, .slice u3 u4 u5, .slice u6 u7 u8]) := by rw [← hE]; exact hu.same (hSw1.same (below_alloc1 _ _)))
        have k0E := K0.out.below hBE
        have k1E := K1.out.below hBE
        have hB := below_trans hbel hBE
        obtain ⟨a0, a1, a2, a3, a4⟩ := kE.cell
        clear hE hB1 hb1 hu hBE hcall HK HX K0 K1 hbel hSw1 hNN hbb hSw hB0 hB0a hZ0
        cases hst2 : (stepT d x p).2 with
        | false =>
          have hfin2 : Hid (alongT d t ps = (zeroT (d + 1), false)) := hfin.out.trans (alongT_off HP.out hst2)
          have hno : Hid (∀ wF, wF = set5 wE (w.heap.size + 1) 0 (.int .i64 0) (.int .i64 0) (.string { data := #[] }) (.slice none 0 0) (.slice none 0 0) → Below w.heap.size w wF) := by
            intro wF hF
            rw [hF]
            exact below_set5 hB (by omega) _ _ _ _ _ _
          obtain ⟨y0, y1, y2, y3, y4⟩ := k1E.cell
          have yf := k1E.frozen
          clear kE k0E k1E huE hB hfin
          go_wp2_with fail
          rw [hfin2.out]
          refine bodyPost_ret (v := .tuple #[zeroVal, .bool false]) (by simp [results, Tryz.results56, go_sem, zeroVal, y0, y1, y2, y3, y4]; rfl) rfl ⟨_, rfl, zeroAt (d + 1) _ _, hno.out _ rfl⟩
        | true =>
          have hfin2 : Hid (alongT d t ps = alongT d (stepT d x p).1 (ps.drop (j + 1))) := hfin.out.trans (alongT_on HP.out hst2)
          have hR : Hid (∀ wF, wF = set5 wE w.heap.size 0 (.int .i64 u0) (.int .i64 u1) (.string u2) (.slice u3 u4 u5) (.slice u6 u7 u8) → ValAt S wF (d + 2) (stepT d x p).1 (.agg #[.int .i64 u0, .int .i64 u1, .string u2, .slice u3 u4 u5, .slice u6 u7 u8]) ∧ Blk5 wF w.heap.size 26 (.int .i64 u0) (.int .i64 u1) (.string u2) (.slice u3 u4 u5) (.slice u6 u7 u8) ∧ Blk5 wF (w.heap.size + 1) 26 (.int .i64 0) (.int .i64 0) (.string { data := #[] }) (.slice none 0 0) (.slice none 0 0) ∧ Below w.heap.size w wF) := by
            intro wF hF
            have h1 := at_end huE hS hB (Nat.le_refl w.heap.size) _ _ _ _ _ wF hF
            refine ⟨h1.1, ?_, ?_, h1.2⟩
            · rw [hF]; exact k0E.set5 _ _ _ _ _
            · rw [hF]; exact k1E.of_block (set5_block _ _ _ _ _ _ _ _ _ (by omega))
          obtain ⟨y0, y1, y2, y3, y4⟩ := k0E.cell
          have yf := k0E.frozen
          clear kE k0E k1E huE hB hfin
          go_wp2_with fail
          go_roundw
          case rel =>
            obtain ⟨r1, r2, r3, r4⟩ := hR.out _ rfl
            exact ⟨j + 1, (stepT d x p).1, u0, u1, u2, u3, u4, u5, u6, u7, u8, by omega, by go_num, okT_step d x p, r1, r2, r3, r4, hfin2⟩
          case measure => simp [intOf]; omega
    · obtain rfl : j = ps.length := by omega
      have hfin2 : Hid (alongT d t ps = (x, true)) := hfin.out.trans alongT_end
      have HF := hide (at_end hx hS hbel (show w.heap.size ≤ w.heap.size + 1 by omega))
      obtain ⟨x0, x1, x2, x3, x4⟩ := k0.cell
      obtain ⟨y0, y1, y2, y3, y4⟩ := k1.cell
      have yf := k1.frozen
      clear k0 k1 hfin hbel hx
      go_wp2_with fail
      rw [hfin2.out]
      refine bodyPost_ret (v := .tuple #[.agg #[.int .i64 q0, .int .i64 q1, .string q2, .slice q3 q4 q5, .slice q6 q7 q8], .bool true]) (by simp [results, Tryz.results56, go_sem, y0, y1, y2, y3, y4]) rfl ⟨_, rfl, (HF.out _ _ _ _ _ _ rfl).1, (HF.out _ _ _ _ _ _ rfl).2⟩
end Go.Proofs.YtmibjmipndffmaaGreatDoor

/- PathGet of the model. -/
namespace Go.Proofs.YtmibjmipndffmaaGreatDoor
open Go.RowKit Go.Deep

set_option maxRecDepth 100000 in
set_option maxHeartbeats 4000000 in
theorem specPathGet_any (d : Nat) (S : Nat → Prop) (t : Tr (d + 2)) (v : Value) (S' : Nat → Prop) (ps : List Stp) (v' : Value) (w : World) (hv : ValAt S w (d + 2) t v) (hS : Within S w) (hv' : StepsAt S' w v' ps) (hS' : Within S' w) (hsm : (nodes (d + 2) t : Int) ≤ 4194304) :
    Calls Tryz.prog 21 #[v, v'] w (SpecQ (d + 1) (pathGetT d t ps).1 (pathGetT d t ps).2 w) := by
  obtain ⟨k, n, s, ak, lk, ck, al, ll, cl, rfl⟩ := hv.shape
  obtain ⟨a, cap, rfl, hlen⟩ := hv'.open'
  obtain ⟨W0, hW⟩ : ∃ W0, W0 = (w.alloc (.cells #[.int .i64 k, .int .i64 n, .string s, .slice ak lk ck, .slice al ll cl] 26)).alloc (.cells #[.int .i64 0, .int .i64 0, .string { data := #[] }, .slice none 0 0, .slice none 0 0] 26) := ⟨_, rfl⟩
  have hW0 : Below w.heap.size w W0 := by rw [hW]; exact below_trans (below_alloc1 _ _) (below_alloc1 _ _)
  have k0 : Blk5 W0 w.heap.size 26 (.int .i64 k) (.int .i64 n) (.string s) (.slice ak lk ck) (.slice al ll cl) := by
    rw [hW]; exact (Blk5.new w 26 _ _ _ _ _).alloc _
  have k1 : Blk5 W0 (w.heap.size + 1) 26 (.int .i64 0) (.int .i64 0) (.string { data := #[] }) (.slice none 0 0) (.slice none 0 0) := by
    have := Blk5.new (w.alloc (.cells #[.int .i64 k, .int .i64 n, .string s, .slice ak lk ck, .slice al ll cl] 26)) 26 (.int .i64 0) (.int .i64 0) (.string { data := #[] }) (.slice none 0 0) (.slice none 0 0)
    rw [World.size_alloc] at this
    rw [hW]
    exact this
  have HW := hide hW
  clear hW
  go_enter Tryz.func21, Tryz.ntmps21
  go_wp2_with fail
  rw [← HW.out]
  clear HW
  refine (specValOk_any (d + 2) S t _ W0 (hv.same (hS.same hW0)) (hS.later hW0.size) hsm).mono ?_
  rintro e w1 ⟨rfl, hb1⟩
  replace k0 := k0.below hb1
  replace k1 := k1.below hb1
  have hB1 := below_trans hW0 hb1
  have hlt := k1.lt
  have hno : ∀ w1, Below w.heap.size w w1 → Hid (∀ wF, wF = set5 w1 (w.heap.size + 1) 0 (.int .i64 0) (.int .i64 0) (.string { data := #[] }) (.slice none 0 0) (.slice none 0 0) → Below w.heap.size w wF) := by
    intro w1 hB1 wF hF
    rw [hF]
    exact below_set5 hB1 (by omega) _ _ _ _ _ _
  clear hb1 hW0
  cases hf : okT (d + 2) t with
  | false =>
    have hz : Hid (pathGetT d t ps = (zeroT (d + 1), false)) := by
      show pathGetT d t ps = _
      rw [pathGetT, if_neg (by rw [hf]; simp)]
    have hN := hno w1 hB1
    obtain ⟨y0, y1, y2, y3, y4⟩ := k1.cell
    have yf := k1.frozen
    clear k0 k1 hB1 hv hno
    go_wp2_with fail
    rw [hz.out]
    refine bodyPost_ret (v := .tuple #[zeroVal, .bool false]) (by simp [results, Tryz.results21, go_sem, zeroVal, y0, y1, y2, y3, y4]; rfl) rfl ⟨_, rfl, zeroAt (d + 1) _ _, hN.out _ rfl⟩
  | true =>
    go_wp2_with fail
    refine (specPathOk_any S' ps _ w1 (hv'.same (hS'.same hB1)) (hS'.later hB1.size)).mono ?_
    rintro e w2 ⟨rfl, hb2⟩
    replace k0 := k0.below hb2
    replace k1 := k1.below hb2
    have hB2 := below_trans hB1 hb2
    clear hb2 hB1
    cases hpo : pathOk ps with
    | false =>
      have hz : Hid (pathGetT d t ps = (zeroT (d + 1), false)) := by
        show pathGetT d t ps = _
        rw [pathGetT, if_neg (by rw [hpo]; simp)]
      have hN := hno w2 hB2
      obtain ⟨y0, y1, y2, y3, y4⟩ := k1.cell
      have yf := k1.frozen
      clear k0 k1 hB2 hv hno
      go_wp2_with fail
      rw [hz.out]
      refine bodyPost_ret (v := .tuple #[zeroVal, .bool false]) (by simp [results, Tryz.results21, go_sem, zeroVal, y0, y1, y2, y3, y4]; rfl) rfl ⟨_, rfl, zeroAt (d + 1) _ _, hN.out _ rfl⟩
    | true =>
      have hz : Hid (pathGetT d t ps = alongT d t ps) := by
        show pathGetT d t ps = _
        rw [pathGetT, if_pos ⟨hf, hpo⟩]
      have hokR := hide (okT_along d ps t hf)
      obtain ⟨x0, x1, x2, x3, x4⟩ := k0.cell
      clear hno
      go_wp2_with fail
      refine (l3Get_any d S t _ S' ps _ w2 (hv.same (hS.same hB2)) (hS.later hB2.size) (hv'.same (hS'.same hB2)) (hS'.later hB2.size) hf hpo).mono ?_
      rintro e w3 ⟨u, rfl, hu, hb3⟩
      obtain ⟨q0, q1, q2, q3, q4, q5, q6, q7, q8, rfl⟩ := hu.shape
      replace k1 := k1.below hb3
      have hB3 := below_trans hB2 hb3
      have hlt2 := k1.lt
      clear hb3 hB2 k0 x0 x1 x2 x3 x4 hlt
      have hA := below_alloc1 w3 (.cells #[.int .i64 q0, .int .i64 q1, .string q2, .slice q3 q4 q5, .slice q6 q7 q8] 26)
      have k2 := k1.alloc (.cells #[.int .i64 q0, .int .i64 q1, .string q2, .slice q3 q4 q5, .slice q6 q7 q8] 26)
      have hlt3 := k2.lt
      have hB4 := below_trans hB3 hA
      have hwt := wtT_ok hokR.out
      go_wp2_with fail
      refine (l1Copy_any (d + 2) S (alongT d t ps).1 _ _ (hu.same ((hS.later hB3.size).same hA)) (hS.later hB4.size) (by omega)).mono ?_
      rintro e w5 ⟨u, rfl, hu3, hb5⟩
      obtain ⟨u0, u1, u2, u3, u4, u5, u6, u7, u8, rfl⟩ := (ValOwn.at _ _ _ _ hu3).shape
      have HF := hide (tell_end hu3 (below_trans hB4 hb5) (by omega) hlt3)
      have k3 := k2.below hb5
      clear hu3 hb5 hB4 k2 k1 hB3 hA hu hv
      obtain ⟨y0, y1, y2, y3, y4⟩ := k3.cell
      have yf := k3.frozen
      clear k3
      go_wp2_with fail
      rw [hz.out]
      refine bodyPost_ret (v := .tuple #[.agg #[.int .i64 u0, .int .i64 u1, .string u2, .slice u3 u4 u5, .slice u6 u7 u8], .bool (alongT d t ps).2]) (by simp [results, Tryz.results21, go_sem, y0, y1, y2, y3, y4]) rfl ⟨_, rfl, ValOwn.at _ _ _ _ (HF.out _ rfl).1, (HF.out _ rfl).2⟩
end Go.Proofs.YtmibjmipndffmaaGreatDoor
