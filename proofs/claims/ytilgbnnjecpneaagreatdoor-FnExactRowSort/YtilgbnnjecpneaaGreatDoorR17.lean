/- Texts of the proof, put together by program: WCopyQ, WCopy, WVTo, WRowP, WSetT, WSetA. -/
import Derived.Test.YtilgbnnjecpneaaGreatDoorR16
import Derived.Test.YtilgbnnjecpneaaGreatDoorR15
/- One tree more is copied; the copy's end. -/
namespace Go.Proofs.YtilgbnnjecpneaaGreatDoor
open Go.RowKit Go.Deep

theorem CopyTo.step {d k b : Nat} {wc wr w1 w2 : World} {t : Nd (Tr d)} {vk lv lv' : Value} {vs : List Value} {P : Nat → Nat → Prop} {x : Tr d} {v0 v1 v2 v3 v4 : Value} {o : Obj} (h : CopyTo wc wr t b vk lv k vs P) (hb : Below wr.heap.size wr w1)
    (hx : t.list[k]? = some x) (hu : ValOwn w1 d (Fresh wr w1) x (.agg #[v0, v1, v2, v3, v4])) (hown : w2.ownsRow wc.heap.size 29 5 lv' (k + 1) (vs ++ [v0, v1, v2, v3, v4])) (hg : (w1.alloc o).grownBy w2 lv.ownBlock)
    (hw : lv'.ownBlock = lv.ownBlock ∨ lv'.ownBlock = some (w1.alloc o).heap.size) (hbc : b < wc.heap.size) (yb2 : Blk5 w2 b 29 (.int .i64 t.kind) (.int .i64 t.num) (.string t.str) vk lv) :
    ∃ P', CopyTo wc (w2.setCell ⟨b, 4, none⟩ lv') t b vk lv' (k + 1) (vs ++ [v0, v1, v2, v3, v4]) P' := by
  have hN : wc.heap.size ≤ wr.heap.size := h.but.size
  have hrow : ∀ g, lv.ownBlock = some g → wc.heap.size ≤ g := fun g hg => (h.vals.own.lt g hg).1
  have h1 := hb.size
  refine ⟨_, yb2.set4 _, (h.vals.step hb hx hu hown hg hw hN).other (fun c hc => Below.heap_setCell _ _ _ _ (by show c ≠ b; omega)) (by simp [World.setCell]), ?_⟩
  refine But.trans ?_ (But.set _ _ _ _)
  have hb3 : But b wc w1 := h.but.trans (But.of_below hb)
  refine ⟨hg.os.trans hb3.os, hg.tape.trans hb3.tape, hg.output.trans hb3.output, Nat.le_trans hb3.size (Nat.le_trans (by simp) hg.size), fun i hi hn => ?_⟩
  exact ((hg.block i (by simp; omega) (fun e => by have := hrow i e.symm; omega)).trans (Below.heap_alloc _ _ _ (by omega))).trans (hb3.block i hi hn)

theorem CopyTo.final {d b : Nat} {w wc wr : World} {t : Nd (Tr d)} {c3 c4 vk lv : Value} {vs : List Value} {P : Nat → Nat → Prop} (h : CopyTo wc wr t b vk lv t.list.length vs P) (hc : CopyAt w wc t c3 c4 b vk) (hl : t.list.length < 3518437208883) (i1 : I64 t.kind) (i2 : I64 t.num) (i3 : t.str.size < 281474976710656) :
    ∀ wF, wF = set5 wr (w.heap.size + 1) 0 (.int .i64 t.kind) (.int .i64 t.num) (.string t.str) vk lv → ValOwn wF (d + 1) (Fresh w wF) t (.agg #[.int .i64 t.kind, .int .i64 t.num, .string t.str, vk, lv]) ∧ Below w.heap.size w wF := by
  intro wF hF
  have hbu := h.but
  have hbw := hc.below
  have hab := hc.above
  have hws := hc.res.lt
  have hrb : Below w.heap.size w wr := ⟨hbu.os.trans hbw.os, hbu.tape.trans hbw.tape, hbu.output.trans hbw.output, Nat.le_trans hbw.size hbu.size, fun j hj => (hbu.block j (Nat.lt_of_lt_of_le hj hbw.size) (fun e => by cases e; omega)).trans (hbw.block j hj)⟩
  have hdone := h.vals.done hl
  have hzF : wF.heap.size = wr.heap.size := by rw [hF, set5_size]
  have hsz : wc.heap.size ≤ wr.heap.size := hbu.size
  have hsm : ∀ R : Nat → Prop, (∀ b, R b → w.heap.size + 1 < b) → Same R wr wF := fun R hR b hb => by
    rw [hF, set5_block _ _ _ _ _ _ _ _ _ (by have := hR b hb; omega)]
  have hkey : Same (fun x => w.heap.size + 1 < x ∧ x < wc.heap.size ∧ x ≠ b) wc wF := fun c hc => by
    rw [hsm (fun x => w.heap.size + 1 < x) (fun _ h => h) c hc.1]
    exact hbu.block c hc.2.1 (fun e => by cases e; exact hc.2.2 rfl)
  refine ⟨⟨vk, lv, fun x => w.heap.size + 1 < x ∧ x < wc.heap.size ∧ x ≠ b, fun b => wc.heap.size ≤ b ∧ b < wr.heap.size, rfl, i1, i2, i3, hc.keys.moved hkey (fun _ h => h),
    hdone.moved (hsm _ (fun b hb => by have := hb.1; omega)) (fun _ h => h) (fun P x u hP hx => ValOwn.moved d P P x u hx (hsm P (fun b hb => by have := (hP b hb).1; omega)) (fun _ h => h)), fun b hb => ⟨by have := hb.1; omega, by rw [hzF]; have := hb.2.1; omega⟩, fun b hb => ⟨by have := hb.1; omega, by rw [hzF]; exact hb.2⟩, fun b hb hb' => by have := hb.2.1; have := hb'.1; omega⟩, ?_⟩
  rw [hF]
  exact below_set5 hrb (by omega) _ _ _ _ _ _
end Go.Proofs.YtilgbnnjecpneaaGreatDoor

/- l1Copy of the model: a tree in new memory. -/
namespace Go.Proofs.YtilgbnnjecpneaaGreatDoor
open Go.RowKit Go.Deep

theorem wt_mem {d : Nat} {x : Tr d} : ∀ {xs : List (Tr d)} {k : Nat}, xs[k]? = some x → wtT d x ≤ (xs.map (wtT d)).sum
  | [], _, h => by simp at h
  | y :: r, 0, h => by
    simp at h
    subst h
    simp
  | y :: r, k + 1, h => by
    have := wt_mem (xs := r) (k := k) (by simpa using h)
    simp only [List.map_cons, List.sum_cons]
    omega
theorem row_slice {w : World} {base : Nat} {e : TypeId} {size n : Nat} {v : Value} {xs : List Value} (h : w.ownsRow base e size v n xs) : ∃ a m c, v = .slice a m c := by
  rcases h.2 with ⟨rfl, _⟩ | ⟨g, cap, cur, rfl, _⟩
  · exact ⟨_, _, _, rfl⟩
  · exact ⟨_, _, _, rfl⟩

theorem wt_len {d : Nat} : ∀ (xs : List (Tr (d + 1))), xs.length ≤ (xs.map (wtT (d + 1))).sum
  | [] => by simp
  | x :: r => by
    have := wt_len r
    have h : 3 ≤ wtT (d + 1) x := by rw [wtT]; omega
    simp only [List.map_cons, List.sum_cons, List.length_cons]
    omega
theorem row_wt {S : Nat → Prop} {w : World} {a : Option Addr} {n cap : Nat} : ∀ {d : Nat} {xs : List (Tr d)}, RowAt S w (ValAt S w d) (.slice a n cap) xs → xs.length ≤ (xs.map (wtT d)).sum
  | 0, xs, h => by
    rcases Nat.eq_zero_or_pos xs.length with h0 | h0
    · omega
    · obtain ⟨_, _, _, _, _, _, _, _, _, _, _, _, _, _, _, _, hval⟩ := h.cell h0
      exact hval.elim
  | d + 1, xs, _ => wt_len xs

set_option maxRecDepth 100000 in
set_option maxHeartbeats 1000000 in
theorem l1Copy_any : ∀ (d : Nat), CopyC d
  | 0 => fun _ _ _ _ h => h.elim
  | d + 1 => by
    intro S t v w hv hS hwt
    have ih := l1Copy_any d
    obtain ⟨kind, num, str, keys, list⟩ := t
    obtain ⟨vk, vl, rfl, i1, i2, i3, hk, hl⟩ := hv
    have hk : StrsAt S w vk keys := hk
    have hl : RowAt S w (ValAt S w d) vl list := hl
    obtain ⟨ak, ck, rfl, hkl⟩ := hk.open'
    obtain ⟨al, cl, rfl, hll⟩ := hl.open'
    have hwt2 : ((3 + keys.length + (list.map (wtT d)).sum : Nat) : Int) ≤ 4194304 := hwt
    have hksm : keys.length ≤ 4194304 := by omega
    have hlsm : list.length ≤ 4194304 := by have := row_wt hl; omega
    clear hwt
    show Calls Tryz.prog 60 #[.agg #[.int .i64 kind, .int .i64 num, .string str, .slice ak keys.length ck, .slice al list.length cl]] w _
    go_enter Tryz.func60, Tryz.ntmps60
    go_upto_region 1 with fail
    go_cut [3] (fun ov wc => ∃ b vk, ov = .pointer (some ⟨b, 0, none⟩) ∧ Hid (CopyAt w wc (Nd.mk kind num str keys list) (.slice ak keys.length ck) (.slice al list.length cl) b vk))
    case first =>
      have n1 : w.heap.size < w.heap.size + 1 + 1 + 1 := by omega
      have n2 : w.heap.size < w.heap.size + 1 + 1 + 1 + 1 := by omega
      have n3 : w.heap.size + 1 + 1 < w.heap.size + 1 + 1 + 1 + 1 := by omega
      have m1 : ¬ w.heap.size = w.heap.size + 1 + 1 := by omega
      have m2 : ¬ w.heap.size = w.heap.size + 1 + 1 + 1 := by omega
      have m3 : ¬ w.heap.size + 1 + 1 = w.heap.size + 1 + 1 + 1 := by omega
      have m4 : ¬ w.heap.size + 1 + 1 + 1 = w.heap.size + 1 + 1 := by omega
      have m5 : ¬ w.heap.size + 1 + 1 + 1 = w.heap.size := by omega
      have m6 : ¬ w.heap.size + 1 + 1 = w.heap.size := by omega
      go_region_held3 (fun w' => w'.cell? ⟨w.heap.size, 0, none⟩ = some (.int .i64 kind) ∧ w'.cell? ⟨w.heap.size, 1, none⟩ = some (.int .i64 num) ∧ w'.cell? ⟨w.heap.size, 2, none⟩ = some (.string str) ∧ w'.cell? ⟨w.heap.size, 3, none⟩ = some (.slice ak keys.length ck) ∧ w'.cell? ⟨w.heap.size, 4, none⟩ = some (.slice al list.length cl)) (go_keep)
        ((refine step_append_run _ (by rfl) _ _ 22 (by rfl) _ _ (by rfl) (by rfl) (run_append_strs S keys ak ck _ _ _ (by first | exact nb1 _ _ _ _ | exact nb2 _ _ _ _ _ | exact nb3 _ _ _ _ _) (by first | exact hk.same (hS.same (bl3 _ _ _ _)) | exact hk.same (hS.same (bl4 _ _ _ _ _))) hksm) ?_; rintro v' w' ⟨hown, hgr⟩; obtain ⟨ka, kc, rfl, hkn⟩ := hown.open'; have hcell := fun (b o : Nat) (h1 : b < _) (h2 : some b ≠ _) => hgr.cell_far ⟨b, o, none⟩ h1 h2; have hfro := fun (b o : Nat) (h1 : b < _) (h2 : some b ≠ _) => hgr.frozen_far ⟨b, o, none⟩ h1 h2; have hnew : ¬ w'.heap.size = w.heap.size := fun e => by have h5 := hgr.size; simp at h5; omega))
      all_goals go_wp2_with fail
      all_goals go_meet
      · have hc := copy_a (t := (Nd.mk kind num str keys list : Nd (Tr d))) (c3 := .slice ak keys.length ck) (c4 := .slice al list.length cl) (vk := .slice ka keys.length kc) (G := w.heap.size + 1 + 1) (bl3 w (.cells #[.int .i64 kind, .int .i64 num, .string str, .slice ak keys.length ck, .slice al list.length cl] 29) (.cells #[.int .i64 0, .int .i64 0, .string { data := #[] }, .slice none 0 0, .slice none 0 0] 29) (.cells #[] 9)) (kA3 w (.cells #[.int .i64 kind, .int .i64 num, .string str, .slice ak keys.length ck, .slice al list.length cl] 29) (.cells #[.int .i64 0, .int .i64 0, .string { data := #[] }, .slice none 0 0, .slice none 0 0] 29) (.cells #[] 9)) (kB3 w (.cells #[.int .i64 kind, .int .i64 num, .string str, .slice ak keys.length ck, .slice al list.length cl] 29) (.cells #[.int .i64 0, .int .i64 0, .string { data := #[] }, .slice none 0 0, .slice none 0 0] 29) (.cells #[] 9)) (by omega) hgr hown
        exact ⟨w'.heap.size, .slice ka keys.length kc, rfl, hc⟩
      · have hc := copy_b (t := (Nd.mk kind num str keys list : Nd (Tr d))) (c3 := .slice ak keys.length ck) (c4 := .slice al list.length cl) (vk := .slice ka keys.length kc) (G := w.heap.size + 1 + 1) (V := w.heap.size + 1 + 1 + 1) (bl4 w (.cells #[.int .i64 kind, .int .i64 num, .string str, .slice ak keys.length ck, .slice al list.length cl] 29) (.cells #[.int .i64 0, .int .i64 0, .string { data := #[] }, .slice none 0 0, .slice none 0 0] 29) (.cells #[] 9) (.cells #[.int .i64 0, .int .i64 0, .string { data := #[] }, .slice none 0 0, .slice none 0 0] 29)) (kA4 w (.cells #[.int .i64 kind, .int .i64 num, .string str, .slice ak keys.length ck, .slice al list.length cl] 29) (.cells #[.int .i64 0, .int .i64 0, .string { data := #[] }, .slice none 0 0, .slice none 0 0] 29) (.cells #[] 9) (.cells #[.int .i64 0, .int .i64 0, .string { data := #[] }, .slice none 0 0, .slice none 0 0] 29)) (kB4 w (.cells #[.int .i64 kind, .int .i64 num, .string str, .slice ak keys.length ck, .slice al list.length cl] 29) (.cells #[.int .i64 0, .int .i64 0, .string { data := #[] }, .slice none 0 0, .slice none 0 0] 29) (.cells #[] 9) (.cells #[.int .i64 0, .int .i64 0, .string { data := #[] }, .slice none 0 0, .slice none 0 0] 29)) (nb3 w (.cells #[.int .i64 kind, .int .i64 num, .string str, .slice ak keys.length ck, .slice al list.length cl] 29) (.cells #[.int .i64 0, .int .i64 0, .string { data := #[] }, .slice none 0 0, .slice none 0 0] 29) (.cells #[] 9) (.cells #[.int .i64 0, .int .i64 0, .string { data := #[] }, .slice none 0 0, .slice none 0 0] 29)) (by omega) (by omega) (by omega) hgr hown
        exact ⟨w.heap.size + 1 + 1 + 1, .slice ka keys.length kc, rfl, hc⟩
      · have hc := copy_b (t := (Nd.mk kind num str keys list : Nd (Tr d))) (c3 := .slice ak keys.length ck) (c4 := .slice al list.length cl) (vk := .slice ka keys.length kc) (G := w.heap.size + 1 + 1 + 1) (V := w.heap.size + 1 + 1) (bl4 w (.cells #[.int .i64 kind, .int .i64 num, .string str, .slice ak keys.length ck, .slice al list.length cl] 29) (.cells #[.int .i64 0, .int .i64 0, .string { data := #[] }, .slice none 0 0, .slice none 0 0] 29) (.cells #[.int .i64 0, .int .i64 0, .string { data := #[] }, .slice none 0 0, .slice none 0 0] 29) (.cells #[] 9)) (kA4 w (.cells #[.int .i64 kind, .int .i64 num, .string str, .slice ak keys.length ck, .slice al list.length cl] 29) (.cells #[.int .i64 0, .int .i64 0, .string { data := #[] }, .slice none 0 0, .slice none 0 0] 29) (.cells #[.int .i64 0, .int .i64 0, .string { data := #[] }, .slice none 0 0, .slice none 0 0] 29) (.cells #[] 9)) (kB4 w (.cells #[.int .i64 kind, .int .i64 num, .string str, .slice ak keys.length ck, .slice al list.length cl] 29) (.cells #[.int .i64 0, .int .i64 0, .string { data := #[] }, .slice none 0 0, .slice none 0 0] 29) (.cells #[.int .i64 0, .int .i64 0, .string { data := #[] }, .slice none 0 0, .slice none 0 0] 29) (.cells #[] 9)) (nb2 w (.cells #[.int .i64 kind, .int .i64 num, .string str, .slice ak keys.length ck, .slice al list.length cl] 29) (.cells #[.int .i64 0, .int .i64 0, .string { data := #[] }, .slice none 0 0, .slice none 0 0] 29) (.cells #[.int .i64 0, .int .i64 0, .string { data := #[] }, .slice none 0 0, .slice none 0 0] 29) (.cells #[] 9)) (by omega) (by omega) (by omega) hgr hown
        exact ⟨w.heap.size + 1 + 1, .slice ka keys.length kc, rfl, hc⟩
    case rest =>
      obtain ⟨b, vk, rfl, hca⟩ := hcut
      have hbw := hca.out.below
      have hab := hca.out.above
      have hTO : Hid (CopyTo (d := d) wc wc (Nd.mk kind num str keys list) b vk (.slice none 0 0) 0 [] (fun _ _ => False)) := ⟨hca.out.out, ValsTo.start _ _ _, But.refl _ _⟩
      obtain ⟨ka, kc, rfl, hkn⟩ := hca.out.keys.open'
      go_wp2_with fail
      go_loopw [4] (fun i wr => ∃ (k : Nat) (lv : Value) (vs : List Value) (P : Nat → Nat → Prop), k ≤ list.length ∧ i = .int .i64 (k : Int) ∧ Hid (CopyTo (d := d) wc wr (Nd.mk kind num str keys list) b (.slice ka keys.length kc) lv k vs P)) (fun i _ => list.length - (intOf i).toNat)
      case atStart => exact ⟨0, _, [], _, Nat.zero_le _, rfl, hTO⟩
      case round =>
        clear hTO
        obtain ⟨k, lv, vs, P, hkk, rfl, hto⟩ := hrel
        have hbu := hto.out.but
        have hrb : Below w.heap.size w wr := ⟨hbu.os.trans hbw.os, hbu.tape.trans hbw.tape, hbu.output.trans hbw.output, Nat.le_trans hbw.size hbu.size, fun j hj => (hbu.block j (Nat.lt_of_lt_of_le hj hbw.size) (fun e => by cases e; omega)).trans (hbw.block j hj)⟩
        have kbox := hca.out.box.of_block (hbu.block _ hca.out.box.lt (fun e => by cases e; omega))
        obtain ⟨x0, x1, x2, x3, x4⟩ := kbox.cell
        by_cases hkl : k < list.length
        · obtain ⟨eb, eo, x, c0, c1, c2, c3, c4, rfl, heS, hx, e0, e1, e2, e3, e4, hval⟩ := (hl.same (hS.same hrb)).cell hkl
          obtain ⟨q0, q1, q2, q3, q4, q5, q6, q7, q8, hq⟩ := hval.shape
          cases hq
          have hwx : (wtT d x : Int) ≤ 4194304 := by
            have := wt_mem (d := d) hx
            omega
          obtain ⟨la, ln, lc, rfl⟩ := row_slice hto.out.vals.own
          obtain ⟨y0, y1, y2, y3, y4⟩ := hto.out.out.cell
          have yf := hto.out.out.frozen 4
          have hki : (k : Int) < (list.length : Int) := by omega
          have hbl := hto.out.out.lt
          have hWr := hS.later hrb.size
          have HX := hide hx
          have hNs : wc.heap.size ≤ wr.heap.size := hbu.size
          have hebl := hS eb heS
          clear hx
          have hcall := hide (ih S x _ wr.drew (hval.same (fun _ _ => rfl)) hWr hwx)
          have hnb : ∀ g, (Value.slice la ln lc).ownBlock = some g → wc.heap.size ≤ g := fun g hg => (hto.out.vals.own.lt g hg).1
          have hbc : b < wc.heap.size := hca.out.out.lt
          obtain ⟨i0, hi, hz0, hz1, hz2⟩ := info_parts Tryz.infoVal
          have HB1 := hide hto.out.vals
          go_wp2_with fail
          go_region_law (first
            | (refine step_call_run _ 60 _ (by rfl) (by go_simp) hcall.out ?_; rintro u w1 ⟨hu, hb1⟩; obtain ⟨u0', u1', u2', u3', u4', u5', u6', u7', u8', rfl⟩ := (ValOwn.at d _ _ _ hu).shape; have hblt : b < w1.heap.size := Nat.lt_of_lt_of_le hbl hb1.size; have yb1 : Blk5 w1 b 29 (.int .i64 kind) (.int .i64 num) (.string str) (.slice ka keys.length kc) (.slice la ln lc) := hto.out.out.of_block (hb1.block b hbl); obtain ⟨_, _, _, _, z4⟩ := yb1.cell; have z4' := fun o => ((yb1.alloc o).cell).2.2.2.2; have hown1 := hide ((hto.out.vals.own.kept (row := none) ⟨hb1.os, hb1.tape, hb1.output, hb1.size, fun i hi _ => hb1.block i hi⟩ (by cases (Value.slice la ln lc).ownBlock <;> simp)).alloc (.cells #[.int .i64 u0', .int .i64 u1', .string u2', .slice u3' u4' u5', .slice u6' u7' u8'] 29)))
            | (refine step_append_run _ (by rfl) _ _ 27 (by rfl) _ _ (by rfl) (by rfl) (run_append_own_at (P := Tryz.prog) _ wc.heap.size 27 _ 29 i0 zeroVal 5 80 Tryz.underlying27 hi hz0 hz1 hz2 rfl (by decide) _ _ _ hown1.out ⟨w1.heap.size, 0, none⟩ 1 1 [.int .i64 u0', .int .i64 u1', .string u2', .slice u3' u4' u5', .slice u6' u7' u8'] rfl (cell_five_new _ _ _ _ _ _ _) (by intro y hy; simp at hy; rcases hy with rfl | rfl | rfl | rfl | rfl <;> rfl) (by unfold maxLen; omega) (by omega) (by rw [World.size_alloc]; have h5 : wr.heap.size ≤ w1.heap.size := hb1.size; omega)) ?_; rintro v' w2 ⟨o1, o2, _, o3⟩; obtain ⟨va, vn, vc, rfl⟩ := row_slice o1; have yb2 : Blk5 w2 b 29 (.int .i64 kind) (.int .i64 num) (.string str) (.slice ka keys.length kc) (.slice la ln lc) := (yb1.alloc _).of_block (o2.block b (by rw [World.size_alloc]; omega) (fun e => by have := hnb b e.symm; omega)); obtain ⟨_, _, _, _, v4⟩ := yb2.cell; have v4f := yb2.frozen 4))
          all_goals
            have hb1' : Below wr.heap.size wr w1 := ⟨hb1.os, hb1.tape, hb1.output, hb1.size, hb1.block⟩
            have HH := hide (hto.out.step (w1 := w1) (w2 := w2) hb1' HX.out hu o1 o2 o3 hbc yb2)
            clear o1 o2 o3 hown1 hu hb1' hb1 yb1 yb2 z4 z4' hcall HB1 hto
            go_wp2_with fail
            go_roundw
            case rel =>
              obtain ⟨P', hP'⟩ := HH.out
              exact ⟨k + 1, _, _, P', by omega, by go_num, hP'⟩
            case measure => simp [intOf]; omega
        · obtain rfl : k = list.length := by omega
          have kres := hca.out.res.of_block (hbu.block _ hca.out.res.lt (fun e => by cases e; omega))
          obtain ⟨la, ln, lc, rfl⟩ := row_slice hto.out.vals.own
          obtain ⟨z0, z1, z2, z3, z4⟩ := kres.cell
          have zf := kres.frozen
          obtain ⟨y0, y1, y2, y3, y4⟩ := hto.out.out.cell
          have hend := hide (hto.out.final hca.out hll i1 i2 i3)
          clear hto hca kres kbox hl hk ih
          go_wp2_with fail
          refine bodyPost_ret (v := .agg #[.int .i64 kind, .int .i64 num, .string str, .slice ka keys.length kc, .slice la ln lc]) (by simp [results, Tryz.results60, go_sem, z0, z1, z2, z3, z4]) rfl ⟨_, rfl, hend.out _ rfl⟩
end Go.Proofs.YtilgbnnjecpneaaGreatDoor

/- A row of the model's that is being made out of trees that lie elsewhere; what is told, in the result's own cells. -/
namespace Go.Proofs.YtilgbnnjecpneaaGreatDoor
open Go.RowKit Go.Deep

theorem nodes_wt : ∀ (d : Nat) (t : Tr d), nodes d t ≤ wtT d t
  | 0, t => Empty.elim t
  | d + 1, t => by
    have h : ∀ xs : List (Tr d), (xs.map (nodes d)).sum ≤ (xs.map (wtT d)).sum := by
      intro xs
      induction xs with
      | nil => exact Nat.le_refl _
      | cons x r ih =>
        have := nodes_wt d x
        simp only [List.map_cons, List.sum_cons]
        omega
    have := h (Nd.list t)
    rw [nodes, wtT]
    omega
theorem nodes_ok {d : Nat} {t : Tr d} (h : okT d t = true) : nodes d t ≤ 300 := Nat.le_trans (nodes_wt d t) (wtT_ok h)
theorem sum_le_of {α : Type} {f : α → Nat} {c : Nat} : ∀ {xs : List α}, (∀ x ∈ xs, f x ≤ c) → (xs.map f).sum ≤ c * xs.length
  | [], _ => by simp
  | x :: r, h => by
    have h1 := h x (by simp)
    have h2 := sum_le_of (xs := r) (fun y hy => h y (by simp [hy]))
    simp only [List.map_cons, List.sum_cons, List.length_cons]
    rw [Nat.mul_succ]
    omega
/-- A row of the model's that owns its cells; its trees lie in blocks of S. -/
def VTo {d : Nat} (S : Nat → Prop) (N : Nat) (w : World) (lv : Value) (xs : List (Tr d)) (vs : List Value) : Prop :=
  w.ownsRow N 29 5 lv xs.length vs ∧ ∀ (j : Nat) (x : Tr d), xs[j]? = some x → ∃ c0 c1 c2 c3 c4, vs[j * 5]? = some c0 ∧ vs[j * 5 + 1]? = some c1 ∧ vs[j * 5 + 2]? = some c2 ∧ vs[j * 5 + 3]? = some c3 ∧ vs[j * 5 + 4]? = some c4 ∧ ValAt S w d x (.agg #[c0, c1, c2, c3, c4])

theorem VTo.grow {d N : Nat} {S : Nat → Prop} {wr w2 : World} {lv lv' : Value} {xs : List (Tr d)} {vs : List Value} {x : Tr d} {v0 v1 v2 v3 v4 : Value} (h : VTo S N wr lv xs vs) (hs : Same S wr w2) (hx : ValAt S wr d x (.agg #[v0, v1, v2, v3, v4])) (hown : w2.ownsRow N 29 5 lv' (xs.length + 1) (vs ++ [v0, v1, v2, v3, v4])) : VTo S N w2 lv' (xs ++ [x]) (vs ++ [v0, v1, v2, v3, v4]) := by
  obtain ⟨h1, h2⟩ := h
  have hlen : vs.length = xs.length * 5 := h1.1
  refine ⟨by rw [List.length_append]; exact hown, fun j y hy => ?_⟩
  by_cases e : j < xs.length
  · rw [List.getElem?_append_left e] at hy
    obtain ⟨c0, c1, c2, c3, c4, e0, e1, e2, e3, e4, hv⟩ := h2 j y hy
    refine ⟨c0, c1, c2, c3, c4, ?_, ?_, ?_, ?_, ?_, hv.same hs⟩
    · rw [List.getElem?_append_left (by omega)]; exact e0
    · rw [List.getElem?_append_left (by omega)]; exact e1
    · rw [List.getElem?_append_left (by omega)]; exact e2
    · rw [List.getElem?_append_left (by omega)]; exact e3
    · rw [List.getElem?_append_left (by omega)]; exact e4
  · have hj : j = xs.length := by
      have := (List.getElem?_eq_some_iff.1 hy).1
      rw [List.length_append, List.length_singleton] at this
      omega
    subst hj
    rw [List.getElem?_append_right (Nat.le_refl _), Nat.sub_self] at hy
    cases hy
    refine ⟨v0, v1, v2, v3, v4, ?_, ?_, ?_, ?_, ?_, hx.same hs⟩
    · rw [List.getElem?_append_right (by omega), hlen]; simp
    · rw [List.getElem?_append_right (by omega), hlen]; simp
    · rw [List.getElem?_append_right (by omega), hlen]; simp
    · rw [List.getElem?_append_right (by omega), hlen]; simp
    · rw [List.getElem?_append_right (by omega), hlen]; simp

theorem VTo.moved {d N : Nat} {S : Nat → Prop} {w w' : World} {lv : Value} {xs : List (Tr d)} {vs : List Value} (h : VTo S N w lv xs vs) (hs : Same S w w') (ho : ∀ g, lv.ownBlock = some g → w'.heap[g]? = w.heap[g]?) : VTo S N w' lv xs vs := by
  obtain ⟨h1, h2⟩ := h
  refine ⟨⟨h1.1, ?_⟩, fun j x hx => ?_⟩
  · rcases h1.2 with h | ⟨g, cap, cur, hv, hg, hh, hrest⟩
    · exact Or.inl h
    · exact Or.inr ⟨g, cap, cur, hv, hg, (ho g (by rw [hv]; rfl)).trans hh, hrest⟩
  · obtain ⟨c0, c1, c2, c3, c4, e0, e1, e2, e3, e4, hv⟩ := h2 j x hx
    exact ⟨c0, c1, c2, c3, c4, e0, e1, e2, e3, e4, hv.same hs⟩

/-- The row, where it lies. -/
theorem VTo.at {d N : Nat} {S : Nat → Prop} {w : World} {lv : Value} {xs : List (Tr d)} {vs : List Value} (h : VTo S N w lv xs vs) (hl : xs.length < 3518437208883) : RowAt (fun b => S b ∨ (N ≤ b ∧ b < w.heap.size)) w (ValAt (fun b => S b ∨ (N ≤ b ∧ b < w.heap.size)) w d) lv xs := by
  obtain ⟨h1, h2⟩ := h
  refine ⟨hl, ?_⟩
  rcases h1.2 with ⟨rfl, h0⟩ | ⟨g, cap, cur, rfl, hg, hh, hnc, _, hcs, htake⟩
  · exact ⟨none, 0, by rw [h0], Or.inl (List.eq_nil_of_length_eq_zero h0)⟩
  · refine ⟨some ⟨g, 0, none⟩, cap, rfl, Or.inr ⟨g, 0, Or.inr ⟨hg, (Array.getElem?_eq_some_iff.1 hh).1⟩, rfl, fun i x hx => ?_⟩⟩
    obtain ⟨c0, c1, c2, c3, c4, e0, e1, e2, e3, e4, hv⟩ := h2 i x hx
    have hi := (List.getElem?_eq_some_iff.1 hx).1
    have hc : ∀ j c, j < xs.length * 5 → vs[j]? = some c → w.cell? ⟨g, 0 + j, none⟩ = some c := fun j c hj hc => by
      rw [Nat.zero_add]
      exact (h1.cellAt j hj).trans hc
    refine ⟨c0, c1, c2, c3, c4, hc _ _ (by omega) e0, hc _ _ (by omega) e1, hc _ _ (by omega) e2, hc _ _ (by omega) e3, hc _ _ (by omega) e4, hv.mono (fun b hb => Or.inl hb)⟩

/-- Another tree at a place. -/
theorem VTo.put {d N g n cap k : Nat} {S : Nat → Prop} {w : World} {xs : List (Tr d)} {vs : List Value} {x : Tr d} {v0 v1 v2 v3 v4 : Value} (h : VTo S N w (.slice (some ⟨g, 0, none⟩) n cap) xs vs) (hn : n = xs.length) (hk : k < xs.length) (hx : ValAt S w d x (.agg #[v0, v1, v2, v3, v4])) (hS : ∀ b, S b → b < N) :
    (∃ vs', VTo S N (set5 w g (k * 5) v0 v1 v2 v3 v4) (.slice (some ⟨g, 0, none⟩) n cap) (xs.set k x) vs') ∧ Below N w (set5 w g (k * 5) v0 v1 v2 v3 v4) := by
  subst hn
  obtain ⟨h1, h2⟩ := h
  have hlen : vs.length = xs.length * 5 := h1.1
  have hgN := (h1.lt g rfl).1
  have hB : Below N w (set5 w g (k * 5) v0 v1 v2 v3 v4) := below_set5 (Below.refl _ _) hgN _ _ _ _ _ _
  have hsame : Same S w (set5 w g (k * 5) v0 v1 v2 v3 v4) := fun b hb => hB.block b (hS b hb)
  have ho := (((((h1.stored (k * 5) v0).1.stored (k * 5 + 1) v1).1.stored (k * 5 + 2) v2).1.stored (k * 5 + 3) v3).1.stored (k * 5 + 4) v4).1
  refine ⟨⟨_, by rw [List.length_set]; exact ho, fun j y hy => ?_⟩, hB⟩
  by_cases e : k = j
  · subst e
    rw [List.getElem?_set_self hk] at hy
    cases hy
    refine ⟨v0, v1, v2, v3, v4, ?_, ?_, ?_, ?_, ?_, hx.same hsame⟩
    all_goals simp [List.getElem?_set, hlen]
    all_goals omega
  · rw [List.getElem?_set_ne e] at hy
    obtain ⟨c0, c1, c2, c3, c4, e0, e1, e2, e3, e4, hv⟩ := h2 j y hy
    refine ⟨c0, c1, c2, c3, c4, ?_, ?_, ?_, ?_, ?_, hv.same hsame⟩
    · rw [List.getElem?_set_ne (by omega), List.getElem?_set_ne (by omega), List.getElem?_set_ne (by omega), List.getElem?_set_ne (by omega), List.getElem?_set_ne (by omega)]; exact e0
    · rw [List.getElem?_set_ne (by omega), List.getElem?_set_ne (by omega), List.getElem?_set_ne (by omega), List.getElem?_set_ne (by omega), List.getElem?_set_ne (by omega)]; exact e1
    · rw [List.getElem?_set_ne (by omega), List.getElem?_set_ne (by omega), List.getElem?_set_ne (by omega), List.getElem?_set_ne (by omega), List.getElem?_set_ne (by omega)]; exact e2
    · rw [List.getElem?_set_ne (by omega), List.getElem?_set_ne (by omega), List.getElem?_set_ne (by omega), List.getElem?_set_ne (by omega), List.getElem?_set_ne (by omega)]; exact e3
    · rw [List.getElem?_set_ne (by omega), List.getElem?_set_ne (by omega), List.getElem?_set_ne (by omega), List.getElem?_set_ne (by omega), List.getElem?_set_ne (by omega)]; exact e4
/-- What was told is put into the result's own cells. -/
theorem tell_endA {d : Nat} {t : Tr (d + 1)} {w w1 w2 : World} {v0 v1 : Int} {v2 : ByteArray} {v3 v6 : Option Addr} {v4 v5 v7 v8 rb : Nat} (hv : ValAt (Fresh w1 w2) w2 (d + 1) t (.agg #[.int .i64 v0, .int .i64 v1, .string v2, .slice v3 v4 v5, .slice v6 v7 v8])) (hb : Below w.heap.size w w2)
    (hr : w.heap.size ≤ rb) (hr1 : rb < w1.heap.size) :
    ∀ wF, wF = set5 w2 rb 0 (.int .i64 v0) (.int .i64 v1) (.string v2) (.slice v3 v4 v5) (.slice v6 v7 v8) → ValAt (Fresh w wF) wF (d + 1) t (.agg #[.int .i64 v0, .int .i64 v1, .string v2, .slice v3 v4 v5, .slice v6 v7 v8]) ∧ Below w.heap.size w wF := by
  intro wF hF
  have hzF : wF.heap.size = w2.heap.size := by rw [hF, set5_size]
  refine ⟨ValAt.moved (fun b hb => ?_) (fun b hb => ⟨by have := hb.1; omega, by have := hb.2; omega⟩) (d + 1) t _ hv, ?_⟩
  · rw [hF, set5_block _ _ _ _ _ _ _ _ _ (by have := hb.1; omega)]
  · rw [hF]
    exact below_set5 hb hr _ _ _ _ _ _

end Go.Proofs.YtilgbnnjecpneaaGreatDoor

/- Rows of trees: what is told of the trees of a row. -/
namespace Go.Proofs.YtilgbnnjecpneaaGreatDoor
open Go.RowKit Go.Deep

/-- What is told of a row, f being what is told of its trees. -/
def rowTell {d e : Nat} (f : List (Tr d) → Option (Tr (e + 1))) (t : Tr (d + 1)) : Tr (e + 1) × Bool :=
  match treesL d t with
  | none => (zeroT e, false)
  | some xs =>
    match f xs with
    | none => (zeroT e, false)
    | some x => (toldT e x, okT (e + 1) x)
theorem okT_rowTell {d e : Nat} (f : List (Tr d) → Option (Tr (e + 1))) (t : Tr (d + 1)) : okT (e + 1) (rowTell f t).1 = true := by
  unfold rowTell
  split
  · exact okT_zero _
  · split
    · exact okT_zero _
    · exact okT_told _ _
theorem rowTell_none {d e : Nat} {f : List (Tr d) → Option (Tr (e + 1))} {t : Tr (d + 1)} (h : treesL d t = none) : rowTell f t = (zeroT e, false) := by
  unfold rowTell
  rw [h]
theorem rowTell_fault {d e : Nat} {f : List (Tr d) → Option (Tr (e + 1))} {t : Tr (d + 1)} {xs : List (Tr d)} (h : treesL d t = some xs) (hf : f xs = none) : rowTell f t = (zeroT e, false) := by
  unfold rowTell
  rw [h]
  show (match f xs with | none => _ | some x => _) = _
  rw [hf]
theorem rowTell_some {d e : Nat} {f : List (Tr d) → Option (Tr (e + 1))} {t : Tr (d + 1)} {xs : List (Tr d)} {x : Tr (e + 1)} (h : treesL d t = some xs) (hf : f xs = some x) : rowTell f t = (toldT e x, okT (e + 1) x) := by
  unfold rowTell
  rw [h]
  show (match f xs with | none => _ | some x => _) = _
  rw [hf]
/-- Rows of trees that are ok are small. -/
theorem nodes_row {d : Nat} {xs : List (Tr d)} (hxs : ∀ x ∈ xs, okT d x = true) (hl : xs.length ≤ 10000) : (nodes (d + 1) (rowT d xs) : Int) ≤ 4194304 := by
  have h1 : (xs.map (nodes d)).sum ≤ 300 * xs.length := sum_le_of (fun x hx => nodes_ok (hxs x hx))
  have h2 : nodes (d + 1) (rowT d xs) = 1 + (xs.map (nodes d)).sum := rfl
  rw [h2]
  omega
/-- What a function that tells of the trees of a row is asked to give. -/
def TellF (e N : Nat) (r : Option (Tr (e + 1))) (w : World) (en : Ending) (w' : World) : Prop :=
  Below N w w' ∧ ((∃ x u, r = some x ∧ en = .returned (.tuple #[u, .nilIface]) ∧ TreeG (fun b => N ≤ b ∧ b < w'.heap.size) w' (e + 1) x u) ∨ (r = none ∧ ∃ why, en = .returned (.tuple #[.nilIface, faultV why])))

end Go.Proofs.YtilgbnnjecpneaaGreatDoor

/- l2Told of the model: a tree in new memory, if it is right. -/
namespace Go.Proofs.YtilgbnnjecpneaaGreatDoor
open Go.RowKit Go.Deep

set_option maxRecDepth 100000 in
set_option maxHeartbeats 4000000 in
theorem l2Told_any (d : Nat) (S : Nat → Prop) (t : Tr (d + 1)) (v : Value) (w : World) (hv : ValAt S w (d + 1) t v) (hS : Within S w) (hsm : (nodes (d + 1) t : Int) ≤ 4194304) :
    Calls Tryz.prog 33 #[v] w (SpecQ d (toldT d t) (okT (d + 1) t) w) := by
  have hv0 := hv
  obtain ⟨k, n, s, ak, lk, ck, al, ll, cl, rfl⟩ := hv.shape
  obtain ⟨W0, hW⟩ : ∃ W0, W0 = (w.alloc (.cells #[.int .i64 k, .int .i64 n, .string s, .slice ak lk ck, .slice al ll cl] 29)).alloc (.cells #[.int .i64 0, .int .i64 0, .string { data := #[] }, .slice none 0 0, .slice none 0 0] 29) := ⟨_, rfl⟩
  have hW0 : Below w.heap.size w W0 := by rw [hW]; exact below_trans (below_alloc1 _ _) (below_alloc1 _ _)
  have k0 : Blk5 W0 w.heap.size 29 (.int .i64 k) (.int .i64 n) (.string s) (.slice ak lk ck) (.slice al ll cl) := by
    rw [hW]; exact (Blk5.new w 29 _ _ _ _ _).alloc _
  have k1 : Blk5 W0 (w.heap.size + 1) 29 (.int .i64 0) (.int .i64 0) (.string { data := #[] }) (.slice none 0 0) (.slice none 0 0) := by
    have := Blk5.new (w.alloc (.cells #[.int .i64 k, .int .i64 n, .string s, .slice ak lk ck, .slice al ll cl] 29)) 29 (.int .i64 0) (.int .i64 0) (.string { data := #[] }) (.slice none 0 0) (.slice none 0 0)
    rw [World.size_alloc] at this
    rw [hW]
    exact this
  have HW := hide hW
  clear hW hv
  go_enter Tryz.func33, Tryz.ntmps33
  go_wp2_with fail
  rw [← HW.out]
  clear HW
  refine (specValOk_any (d + 1) S t _ W0 (hv0.same (hS.same hW0)) (hS.later hW0.size) hsm).mono ?_
  rintro e w1 ⟨rfl, hb1⟩
  replace k0 := k0.below hb1
  replace k1 := k1.below hb1
  have hB1 := below_trans hW0 hb1
  obtain ⟨x0, x1, x2, x3, x4⟩ := k0.cell
  have hlt := k1.lt
  clear hb1 hW0
  cases hf : okT (d + 1) t with
  | false =>
    have hz : Hid (toldT d t = zeroT d) := by
      show toldT d t = _
      rw [toldT, hf]
      rfl
    have hno : Hid (∀ wF, wF = set5 w1 (w.heap.size + 1) 0 (.int .i64 0) (.int .i64 0) (.string { data := #[] }) (.slice none 0 0) (.slice none 0 0) → Below w.heap.size w wF) := by
      intro wF hF
      rw [hF]
      exact below_set5 hB1 (by omega) _ _ _ _ _ _
    obtain ⟨y0, y1, y2, y3, y4⟩ := k1.cell
    have yf := k1.frozen
    clear k0 k1 hB1 hv0
    go_wp2_with fail
    rw [hz.out, hf]
    refine bodyPost_ret (v := .tuple #[zeroVal, .bool false]) (by simp [results, Tryz.results33, go_sem, zeroVal, y0, y1, y2, y3, y4]; rfl) rfl ⟨_, rfl, zeroAt d _ _, hno.out _ rfl⟩
  | true =>
    have hz : Hid (toldT d t = t) := by
      show toldT d t = _
      rw [toldT, hf]
      rfl
    have hwt := wtT_ok hf
    go_wp2_with fail
    refine (l1Copy_any (d + 1) S t _ w1 (hv0.same (hS.same hB1)) (hS.later hB1.size) (by omega)).mono ?_
    rintro e w3 ⟨u, rfl, hu3, hb3⟩
    obtain ⟨u0, u1, u2, u3, u4, u5, u6, u7, u8, rfl⟩ := (ValOwn.at _ _ _ _ hu3).shape
    have HF := hide (tell_end hu3 (below_trans hB1 hb3) (by omega) hlt)
    have k3 := k1.below hb3
    clear hu3 hb3 k1 k0 hv0 x0 x1 x2 x3 x4
    obtain ⟨y0, y1, y2, y3, y4⟩ := k3.cell
    have yf := k3.frozen
    clear k3
    go_wp2_with fail
    rw [hz.out, hf]
    refine bodyPost_ret (v := .tuple #[.agg #[.int .i64 u0, .int .i64 u1, .string u2, .slice u3 u4 u5, .slice u6 u7 u8], .bool true]) (by simp [results, Tryz.results33, go_sem, y0, y1, y2, y3, y4]) rfl ⟨_, rfl, ValOwn.at _ _ _ _ (HF.out _ rfl).1, (HF.out _ rfl).2⟩
end Go.Proofs.YtilgbnnjecpneaaGreatDoor

/- append of trees onto a row of nothing. -/
namespace Go.Proofs.YtilgbnnjecpneaaGreatDoor
open Go.RowKit Go.Deep

/-- An append, as one step of a region in its order. -/
theorem wpList_append_run {P : Program} {ops : Array Oper} {rest : List Oper} {o : Oper} {a : Act} {w : World} {Q : Exit → Act → World → Prop} (Φ : Value → World → Prop) (hgd : o.guard = none) (s x : Operand) (t : TypeId)
    (ho : o.op = .call { callee := .builtin .append, args := #[s, x], argTypes := #[t, t] }) (vs vx : Value) (hs : a.eval s = vs) (hx : a.eval x = vx)
    (hrun : ∃ v' w', (Builtin.append_ #[t, t] o.type #[vs, vx]).run P w = .ok v' w' ∧ Φ v' w') (h : ∀ v' w', Φ v' w' → wpList P ops Q rest (a.put o.dst v') w') :
    wpList P ops Q (o :: rest) a w := by
  refine wpList_plain hgd fun K hK => ?_
  obtain ⟨v', w', hr, h2⟩ := hrun
  unfold Oper.wp execOp
  simp only [ho, resolve, invoke, builtin, Sem.run_bind, Sem.run_pure, Result.andThen_ok, List.map_toArray, List.map_cons, List.map_nil, hs, hx, hr]
  exact hK _ _ (h v' w' h2)

theorem Tryz.infoV2 : (Tryz.prog.info? 29).map (fun i => (i.zero, i.size, i.bytes)) = some (some zeroVal, 5, 80) := by kernel_rfl

/-- Trees, copied behind nothing: the cells alone. -/
theorem run_append_vals {d : Nat} (S : Nat → Prop) (xs : List (Tr d)) (al : Option Addr) (cl g : Nat) (ty : TypeId) (w : World) (hg : w.heap[g]? = some (.cells #[] 29 (0, 0))) (hv : RowAt S w (ValAt S w d) (.slice al xs.length cl) xs) (hSg : ¬ S g) (hS : Within S w) (hsm : xs.length ≤ 4194304) :
    ∃ v' w', (Builtin.append_ #[27, 27] ty #[.slice (some ⟨g, 0, none⟩) 0 0, .slice al xs.length cl]).run Tryz.prog w = .ok v' w' ∧
      ((∃ vs, VTo S g w' v' xs vs) ∧ w.grownBy w' (some g) ∧ ∃ a c, v' = .slice a xs.length c) := by
  obtain ⟨i0, hi, hz0, hz1, hz2⟩ := info_parts Tryz.infoV2
  have hgl := (Array.getElem?_eq_some_iff.1 hg).1
  have hu : Tryz.prog.underlying 27 = some (.slice 29) := Tryz.underlying27
  have hown : w.ownsRow g 29 5 (.slice (some ⟨g, 0, none⟩) 0 0) 0 [] := ⟨by simp, .inr ⟨g, 0, #[], rfl, Nat.le_refl _, hg, Nat.le_refl _, Nat.zero_le _, by simp, by simp⟩⟩
  by_cases h0 : xs = []
  · subst h0
    refine ⟨.slice (some ⟨g, 0, none⟩) 0 0, w, ?_, ⟨[], hown, fun j x h => by simp at h⟩, ⟨rfl, rfl, rfl, Nat.le_refl _, fun _ _ _ => rfl⟩, _, _, rfl⟩
    cases al with
    | none => simp [Builtin.append_, run_underlying hu, sizeOf, typeInfo, hi, Builtin.lenOf, Builtin.firstCells, loadCells, loadCellsFrom, storeCells, Result.andThen, hz1]
    | some a => simp [Builtin.append_, run_underlying hu, sizeOf, typeInfo, hi, Builtin.lenOf, Builtin.firstCells, loadCells, loadCellsFrom, storeCells, Result.andThen, hz1]
  · have hpos : 0 < xs.length := List.length_pos_iff.2 h0
    obtain ⟨b, o, _, _, _, _, _, _, rfl, hbS, _⟩ := hv.cell hpos
    have hcell : ∀ i x, xs[i]? = some x → ∃ c0 c1 c2 c3 c4, w.cell? ⟨b, o + i * 5, none⟩ = some c0 ∧ w.cell? ⟨b, o + i * 5 + 1, none⟩ = some c1 ∧ w.cell? ⟨b, o + i * 5 + 2, none⟩ = some c2 ∧ w.cell? ⟨b, o + i * 5 + 3, none⟩ = some c3 ∧ w.cell? ⟨b, o + i * 5 + 4, none⟩ = some c4 ∧ ValAt S w d x (.agg #[c0, c1, c2, c3, c4]) := by
      intro i x hx
      obtain ⟨b', o', x', c0, c1, c2, c3, c4, e', _, hx', e0, e1, e2, e3, e4, hval⟩ := hv.cell (List.getElem?_eq_some_iff.1 hx).1
      cases e'
      rw [hx] at hx'
      cases hx'
      exact ⟨c0, c1, c2, c3, c4, e0, e1, e2, e3, e4, hval⟩
    obtain ⟨news, hnl, hnews⟩ : ∃ news : List Value, news.length = xs.length * 5 ∧ ∀ j, j < xs.length * 5 → ∃ u, news[j]? = some u ∧ w.cell? ⟨b, o + j, none⟩ = some u := by
      refine ⟨(List.range (xs.length * 5)).map (fun j => (w.cell? ⟨b, o + j, none⟩).getD undef), by simp, fun j hj => ?_⟩
      have hq : j / 5 < xs.length := by omega
      obtain ⟨c0, c1, c2, c3, c4, e0, e1, e2, e3, e4, _⟩ := hcell (j / 5) _ (List.getElem?_eq_getElem hq)
      have hex : ∃ u, w.cell? ⟨b, o + j, none⟩ = some u := by
        rcases (by omega : j = j / 5 * 5 ∨ j = j / 5 * 5 + 1 ∨ j = j / 5 * 5 + 2 ∨ j = j / 5 * 5 + 3 ∨ j = j / 5 * 5 + 4) with e | e | e | e | e
        · exact ⟨c0, by rw [e]; exact e0⟩
        · exact ⟨c1, by rw [e, ← Nat.add_assoc]; exact e1⟩
        · exact ⟨c2, by rw [e, ← Nat.add_assoc]; exact e2⟩
        · exact ⟨c3, by rw [e, ← Nat.add_assoc]; exact e3⟩
        · exact ⟨c4, by rw [e, ← Nat.add_assoc]; exact e4⟩
      obtain ⟨u, hu⟩ := hex
      exact ⟨u, by simp [hj, hu], hu⟩
    have hone : ∀ u ∈ news, u.oneCell' = true := by
      intro u hu
      obtain ⟨j, hj⟩ := List.getElem?_of_mem hu
      have hjl := (List.getElem?_eq_some_iff.1 hj).1
      obtain ⟨u', hu', hc⟩ := hnews j (by omega)
      rw [hj] at hu'
      cases hu'
      have hq : j / 5 < xs.length := by omega
      obtain ⟨c0, c1, c2, c3, c4, e0, e1, e2, e3, e4, hval⟩ := hcell (j / 5) _ (List.getElem?_eq_getElem hq)
      obtain ⟨q0, q1, q2, q3, q4, q5, q6, q7, q8, hq⟩ := hval.shape
      cases hq
      rcases (by omega : j = j / 5 * 5 ∨ j = j / 5 * 5 + 1 ∨ j = j / 5 * 5 + 2 ∨ j = j / 5 * 5 + 3 ∨ j = j / 5 * 5 + 4) with e | e | e | e | e
      · rw [e, e0] at hc; cases hc; rfl
      · rw [e, ← Nat.add_assoc, e1] at hc; cases hc; rfl
      · rw [e, ← Nat.add_assoc, e2] at hc; cases hc; rfl
      · rw [e, ← Nat.add_assoc, e3] at hc; cases hc; rfl
      · rw [e, ← Nat.add_assoc, e4] at hc; cases hc; rfl
    have hadd : ∀ j, (⟨b, o, none⟩ : Addr).add j = ⟨b, o + j, none⟩ := fun j => by unfold Addr.add; split <;> simp_all
    obtain ⟨v', w', hr, ho, hgr, _, hat⟩ := run_append_own_at (P := Tryz.prog) w g 27 ty 29 i0 zeroVal 5 80 hu hi hz0 hz1 hz2 rfl (by decide) _ 0 [] hown ⟨b, o, none⟩ xs.length cl news hnl
      (fun j u hj => by rw [hadd]; obtain ⟨u', h1, h2⟩ := hnews j (by have := (List.getElem?_eq_some_iff.1 hj).1; omega); rw [hj] at h1; cases h1; exact h2) hone (by unfold maxLen; omega) (by omega) (by omega)
    rw [Nat.zero_add, List.nil_append] at ho
    have hsh : ∃ a c, v' = .slice a xs.length c := by
      rcases ho.2 with ⟨_, h⟩ | ⟨g', c', cur, e, _⟩
      · omega
      · exact ⟨_, _, e⟩
    have hsame : Same S w w' := fun c hc => hgr.block c (hS c hc) (fun e => by cases e; exact hSg hc)
    refine ⟨v', w', hr, ⟨news, ho, fun j x hx => ?_⟩, hgr, hsh⟩
    obtain ⟨c0, c1, c2, c3, c4, e0, e1, e2, e3, e4, hval⟩ := hcell j x hx
    have hjl := (List.getElem?_eq_some_iff.1 hx).1
    have hn : ∀ m c, m < xs.length * 5 → w.cell? ⟨b, o + m, none⟩ = some c → news[m]? = some c := fun m c hm hc => by
      obtain ⟨u, h1, h2⟩ := hnews m hm
      rw [hc] at h2
      cases h2
      exact h1
    exact ⟨c0, c1, c2, c3, c4, hn _ _ (by omega) e0, hn _ _ (by omega) (by rw [← Nat.add_assoc]; exact e1), hn _ _ (by omega) (by rw [← Nat.add_assoc]; exact e2), hn _ _ (by omega) (by rw [← Nat.add_assoc]; exact e3), hn _ _ (by omega) (by rw [← Nat.add_assoc]; exact e4), hval.same hsame⟩
end Go.Proofs.YtilgbnnjecpneaaGreatDoor
