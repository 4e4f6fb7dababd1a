/- Texts of the proof, put together by program: WOfbackRow, WBackI, WMrgC, WRowX. -/
import Derived.Test.YtilgbnnjecpneaaGreatDoorV24
import Derived.Test.YtilgbnnjecpneaaGreatDoorV25
import Derived.Test.YtilgbnnjecpneaaGreatDoorV11
/- ofRow of the program, at backRow. -/
namespace Go.Proofs.YtilgbnnjecpneaaGreatDoor
open Go.RowKit Go.Deep

set_option maxRecDepth 100000 in
set_option maxHeartbeats 2000000 in
theorem ofRow_backRow (d e : Nat) (S : Nat → Prop) (t : Tr (d + 1)) (v : Value) (f : List (Tr d) → Option (Tr (e + 1))) (w : World) (hv : ValAt S w (d + 1) t v) (hS : Within S w) (hg : ErrType w)
    (H : Hid (∀ (N : Nat) (xs : List (Tr d)) (a : Option Addr) (cap : Nat) (vs : List Value) (w1 : World), treesL d t = some xs → GTo N w1 (.slice a xs.length cap) xs vs → w.heap.size ≤ N → N ≤ w1.heap.size → ErrType w1 → Calls Tryz.prog 51 #[.slice a xs.length cap] w1 (TellF e N (f xs) w1))) :
    Calls Tryz.prog 38 #[v, .func (.func 51) #[] #[]] w (TellQ e (rowTell f t).1 (rowTell f t).2 w) := by
  obtain ⟨k, n, s, ak, lk, ck, al, ll, cl, rfl⟩ := hv.shape
  obtain ⟨W0, hW⟩ : ∃ W0, W0 = (w.alloc (.cells #[.int .i64 k, .int .i64 n, .string s, .slice ak lk ck, .slice al ll cl] 29)).alloc (.cells #[.int .i64 0, .int .i64 0, .string { data := #[] }, .slice none 0 0, .slice none 0 0] 29) := ⟨_, rfl⟩
  have hW0 : Below w.heap.size w W0 := by rw [hW]; exact below_trans (below_alloc1 _ _) (below_alloc1 _ _)
  have k1 : Blk5 W0 (w.heap.size + 1) 29 (.int .i64 0) (.int .i64 0) (.string { data := #[] }) (.slice none 0 0) (.slice none 0 0) := by
    have := Blk5.new (w.alloc (.cells #[.int .i64 k, .int .i64 n, .string s, .slice ak lk ck, .slice al ll cl] 29)) 29 (.int .i64 0) (.int .i64 0) (.string { data := #[] }) (.slice none 0 0) (.slice none 0 0)
    rw [World.size_alloc] at this
    rw [hW]
    exact this
  have HW := hide hW
  clear hW
  go_enter Tryz.func38, Tryz.ntmps38
  go_wp2_with fail
  rw [← HW.out]
  clear HW
  refine (treesInRow_own d S t _ W0 (hv.same (hS.same hW0)) (hS.later hW0.size)).mono ?_
  rintro en w1 ⟨hb1, hq⟩
  have hB1 := below_trans hW0 hb1
  have k2 := k1.below hb1
  have hg1 := hg.below hB1
  have hl1 := k1.lt
  have hs0 := hW0.size
  have hs1 := hb1.size
  clear hv
  -- what is told, however it is
  have hfin : ∀ (w1' : World), Below W0.heap.size w1 w1' → ∀ (x : Tr (e + 1)) (ok : Bool), Hid (∀ en w2, TellQ e x ok w1' en w2 → ∃ v0 v1 v2 v3 v4 v5 v6 v7 v8, en = .returned (.tuple #[.agg #[.int .i64 v0, .int .i64 v1, .string v2, .slice v3 v4 v5, .slice v6 v7 v8], .bool ok]) ∧
      Blk5 w2 (w.heap.size + 1) 29 (.int .i64 0) (.int .i64 0) (.string { data := #[] }) (.slice none 0 0) (.slice none 0 0) ∧
      ∀ wF, wF = set5 w2 (w.heap.size + 1) 0 (.int .i64 v0) (.int .i64 v1) (.string v2) (.slice v3 v4 v5) (.slice v6 v7 v8) → ValOwn wF (e + 1) (Fresh w wF) x (.agg #[.int .i64 v0, .int .i64 v1, .string v2, .slice v3 v4 v5, .slice v6 v7 v8]) ∧ Below w.heap.size w wF) := fun w1' hb' x ok => by
    intro en w2 ⟨v, he, hv, hb2⟩
    obtain ⟨v0, v1, v2, v3, v4, v5, v6, v7, v8, rfl⟩ := (ValOwn.at _ _ _ _ hv).shape
    have hs' := hb'.size
    exact ⟨v0, v1, v2, v3, v4, v5, v6, v7, v8, he, (k2.of_block (hb'.block _ hl1)).below hb2, tell_end hv (below_trans (hB1.trans (hb'.mono hs0)) hb2) (by omega) (by omega)⟩
  clear hW0 k1 hb1
  rcases hq with ⟨xs, xa, xc, vs, hrow, rfl, hto⟩ | ⟨hrow, why, rfl⟩
  · have hcall := hide (H.out W0.heap.size xs xa xc vs w1 hrow hto hs0 hs1 hg1)
    have HR := hide hrow
    clear hto H hrow
    go_wp2_with fail
    refine Calls.mono hcall.out ?_
    rintro en w2 ⟨hb2, hq⟩
    clear hcall
    have hz2 := hb2.size
    have h00 : 0 < W0.heap.size := Nat.lt_of_lt_of_le hg.lt hs0
    have hg2 : ErrType w2 := (hb2.cell (p := ⟨0, 0, none⟩) h00).trans hg1
    rcases hq with ⟨x, u, hx, rfl, hu⟩ | ⟨hx, why, rfl⟩
    · obtain ⟨T, u', rfl⟩ := hu.iface
      have hT := hide (rowTell_some HR.out hx)
      have hcall := hide (told_tree e _ x _ w2 hu (fun b hb => hb.2))
      clear hx hu
      go_wp2_with fail
      refine Calls.mono hcall.out ?_
      intro en w3 hq
      obtain ⟨v0, v1, v2, v3, v4, v5, v6, v7, v8, rfl, k3, hF⟩ := (hfin w2 hb2 _ _).out en w3 hq
      have HF := hide hF
      obtain ⟨y0, y1, y2, y3, y4⟩ := k3.cell
      have yf := k3.frozen
      clear hF hq hfin hcall k3
      go_wp2_with fail
      refine bodyPost_ret (v := .tuple #[.agg #[.int .i64 v0, .int .i64 v1, .string v2, .slice v3 v4 v5, .slice v6 v7 v8], .bool (okT (e + 1) x)]) (by simp [results, Tryz.results38, go_sem, y0, y1, y2, y3, y4]) rfl ⟨_, by rw [hT.out], by rw [hT.out]; exact (HF.out _ rfl).1, (HF.out _ rfl).2⟩
    · have hT := hide (rowTell_fault HR.out hx)
      have hcall := hide (told_fault e .nilIface why w2 hg2)
      unfold faultV
      clear hx
      go_wp2_with fail
      refine Calls.mono hcall.out ?_
      intro en w3 hq
      obtain ⟨v0, v1, v2, v3, v4, v5, v6, v7, v8, rfl, k3, hF⟩ := (hfin w2 hb2 _ _).out en w3 hq
      have HF := hide hF
      obtain ⟨y0, y1, y2, y3, y4⟩ := k3.cell
      have yf := k3.frozen
      clear hF hq hfin hcall k3
      go_wp2_with fail
      refine bodyPost_ret (v := .tuple #[.agg #[.int .i64 v0, .int .i64 v1, .string v2, .slice v3 v4 v5, .slice v6 v7 v8], .bool false]) (by simp [results, Tryz.results38, go_sem, y0, y1, y2, y3, y4]) rfl ⟨_, by rw [hT.out], by rw [hT.out]; exact (HF.out _ rfl).1, (HF.out _ rfl).2⟩
  · have hT := hide (rowTell_none (f := f) hrow)
    have hcall := hide (told_fault e .nilIface why w1 hg1)
    unfold faultV
    clear hrow H
    go_wp2_with fail
    refine Calls.mono hcall.out ?_
    intro en w2 hq
    obtain ⟨v0, v1, v2, v3, v4, v5, v6, v7, v8, rfl, k3, hF⟩ := (hfin w1 (Below.refl _ _) _ _).out en w2 hq
    have HF := hide hF
    obtain ⟨y0, y1, y2, y3, y4⟩ := k3.cell
    have yf := k3.frozen
    clear hF hq hfin hcall k3
    go_wp2_with fail
    refine bodyPost_ret (v := .tuple #[.agg #[.int .i64 v0, .int .i64 v1, .string v2, .slice v3 v4 v5, .slice v6 v7 v8], .bool false]) (by simp [results, Tryz.results38, go_sem, y0, y1, y2, y3, y4]) rfl ⟨_, by rw [hT.out], by rw [hT.out]; exact (HF.out _ rfl).1, (HF.out _ rfl).2⟩
end Go.Proofs.YtilgbnnjecpneaaGreatDoor

/- RowBack of the program. -/
namespace Go.Proofs.YtilgbnnjecpneaaGreatDoor
open Go.RowKit Go.Deep

/-- A row that lies in memory of its own, the last one first. -/
theorem GTo.back {d N n cap : Nat} {a : Option Addr} {w w2 : World} {xs : List (Tr d)} {vs : List Value} (h : GTo N w (.slice a n cap) xs vs) (ho : w2.ownsRow N 64 1 (.slice a n cap) xs.length vs.reverse) (hg : w.grownBy w2 (Value.slice a n cap).ownBlock) : GTo N w2 (.slice a n cap) xs.reverse vs.reverse := by
  have hlen : vs.length = xs.length := by have := h.1.1; omega
  have hz := hg.size
  refine ⟨by rw [List.length_reverse]; exact ho, fun j x u hx hu => ?_⟩
  have hj : j < xs.length := by
    have := (List.getElem?_eq_some_iff.1 hx).1
    rw [List.length_reverse] at this
    exact this
  rw [List.getElem?_reverse hj] at hx
  rw [List.getElem?_reverse (by omega), hlen] at hu
  exact TreeG.moved (fun b hb => hg.block b hb.2.1 hb.2.2) (fun b hb => ⟨hb.1, by have := hb.2.1; omega, hb.2.2⟩) d x u (h.2 _ x u hx hu)
/-- .. as a tree. -/
theorem GTo.tree {d N : Nat} {w : World} {sv : Value} {xs : List (Tr d)} {vs : List Value} (h : GTo N w sv xs vs) (hl : xs.length ≤ 1000) : TreeG (fun b => N ≤ b ∧ b < w.heap.size) w (d + 1) (rowT d xs) (.iface 80 (.agg #[sv])) :=
  Or.inr (Or.inr (Or.inr (Or.inl ⟨xs, sv, hl, rfl, rfl, h.row (by omega)⟩)))
/-- Its trees are interface values. -/
theorem GTo.ifaces {d N : Nat} {w : World} {sv : Value} {xs : List (Tr d)} {vs : List Value} (h : GTo N w sv xs vs) : ∀ v ∈ vs, ∃ T u, v = Value.iface T u := by
  intro v hv
  obtain ⟨j, hj, rfl⟩ := List.getElem_of_mem hv
  have hlen : vs.length = xs.length := by have := h.1.1; omega
  exact (h.2 j xs[j] vs[j] (List.getElem?_eq_getElem (by omega)) (List.getElem?_eq_getElem hj)).iface

set_option maxRecDepth 100000 in
set_option maxHeartbeats 1000000 in
theorem backRow_any (d N : Nat) (xs : List (Tr d)) (a : Option Addr) (cap : Nat) (vs : List Value) (w : World) (hto : GTo N w (.slice a xs.length cap) xs vs) (hN : N ≤ w.heap.size) (hl : xs.length ≤ 60) :
    Calls Tryz.prog 51 #[.slice a xs.length cap] w (TellF d N (backF d xs) w) := by
  have hcall := hide (reverse_any N xs.length a cap vs w hto.1 hto.ifaces (by omega))
  have HT := hide hto
  clear hto
  go_enter Tryz.func51, Tryz.ntmps51
  go_wp2_with fail
  refine Calls.mono hcall.out ?_
  rintro e w2 ⟨rfl, ho, hg⟩
  have HG := hide (HT.out.back ho hg)
  have hrow := HT.out.1
  have hb : Below N w w2 := ⟨hg.os, hg.tape, hg.output, hg.size, fun b hb => hg.block b (by omega) (fun e => by have := (hrow.lt b e.symm).1; omega)⟩
  have HB := hide hb
  clear ho hg hcall HT hrow hb
  go_wp2_with fail
  go_ret2
  exact ⟨HB.out, Or.inl ⟨_, _, rfl, rfl, HG.out.tree (by rw [List.length_reverse]; omega)⟩⟩

set_option maxRecDepth 100000 in
set_option maxHeartbeats 2000000 in
theorem implRowBack_any (d : Nat) (S : Nat → Prop) (t : Tr (d + 1)) (v : Value) (w : World) (hv : ValAt S w (d + 1) t v) (hS : Within S w) (hg : ErrType w) :
    Calls Tryz.prog 22 #[v] w (TellQ (d) (rowTell (backF d) t).1 (rowTell (backF d) t).2 w) := by
  obtain ⟨k, n, s, ak, lk, ck, al, ll, cl, rfl⟩ := hv.shape
  obtain ⟨W0, hW⟩ : ∃ W0, W0 = (w.alloc (.cells #[.int .i64 k, .int .i64 n, .string s, .slice ak lk ck, .slice al ll cl] 29)).alloc (.cells #[.int .i64 0, .int .i64 0, .string { data := #[] }, .slice none 0 0, .slice none 0 0] 29) := ⟨_, rfl⟩
  have hW0 : Below w.heap.size w W0 := by rw [hW]; exact below_trans (below_alloc1 _ _) (below_alloc1 _ _)
  have k1 : Blk5 W0 (w.heap.size + 1) 29 (.int .i64 0) (.int .i64 0) (.string { data := #[] }) (.slice none 0 0) (.slice none 0 0) := by
    have := Blk5.new (w.alloc (.cells #[.int .i64 k, .int .i64 n, .string s, .slice ak lk ck, .slice al ll cl] 29)) 29 (.int .i64 0) (.int .i64 0) (.string { data := #[] }) (.slice none 0 0) (.slice none 0 0)
    rw [World.size_alloc] at this
    rw [hW]
    exact this
  have hcall := hide (ofRow_backRow (d) (d) S t _ (backF d) W0 (hv.same (hS.same hW0)) (hS.later hW0.size) (hg.below hW0) (fun N xs a cap vs w1 hrow hto _ hN _ => backRow_any d N xs a cap vs w1 hto hN (by obtain ⟨hok, _, rfl⟩ := treesL_some hrow; exact (okT_kinds hok).2.1)))
  have HW := hide hW
  have hlt := k1.lt
  clear hW hv
  go_enter Tryz.func22, Tryz.ntmps22
  go_wp2_with fail
  rw [← HW.out]
  clear HW
  refine Calls.mono hcall.out ?_
  rintro e w1 ⟨r, rfl, hr, hb1⟩
  obtain ⟨v0, v1, v2, v3, v4, v5, v6, v7, v8, rfl⟩ := (ValOwn.at _ _ _ _ hr).shape
  have HF := hide (tell_end hr (below_trans hW0 hb1) (by omega) hlt)
  have k3 := k1.below hb1
  obtain ⟨y0, y1, y2, y3, y4⟩ := k3.cell
  have yf := k3.frozen
  clear hr hb1 k3 k1 hcall hW0
  go_wp2_with fail
  refine bodyPost_ret (v := .tuple #[.agg #[.int .i64 v0, .int .i64 v1, .string v2, .slice v3 v4 v5, .slice v6 v7 v8], .bool (rowTell (backF d) t).2]) (by simp [results, Tryz.results22, go_sem, y0, y1, y2, y3, y4]) rfl ⟨_, rfl, (HF.out _ rfl).1, (HF.out _ rfl).2⟩
end Go.Proofs.YtilgbnnjecpneaaGreatDoor

/- slices.Concat at three rows of the program's trees, one behind the other. -/
namespace Go.Proofs.YtilgbnnjecpneaaGreatDoor
open Go.RowKit Go.Deep

/-- The first m of three rows, one behind the other. -/
def threeL {α : Type} (xs ys zs : List α) (m : Nat) : List α := if m = 0 then [] else if m = 1 then xs else if m = 2 then xs ++ ys else xs ++ (ys ++ zs)
set_option maxRecDepth 100000 in
set_option maxHeartbeats 4000000 in
theorem concat3_any (d : Nat) (S : Nat → Prop) (xs ys zs : List (Tr d)) (aa ba da : Option Addr) (ca cb cd g : Nat) (w : World) (hx : Row1At S w (TreeG S w d) (.slice aa xs.length ca) xs) (hy : Row1At S w (TreeG S w d) (.slice ba ys.length cb) ys) (hz : Row1At S w (TreeG S w d) (.slice da zs.length cd) zs) (hS : Within S w)
    (c0 : w.cell? ⟨g, 0, none⟩ = some (.slice aa xs.length ca)) (c1 : w.cell? ⟨g, 1, none⟩ = some (.slice ba ys.length cb)) (c2 : w.cell? ⟨g, 2, none⟩ = some (.slice da zs.length cd)) (hg : g < w.heap.size) (hlx : xs.length ≤ 1000) (hly : ys.length ≤ 1000) (hlz : zs.length ≤ 1000) :
    Calls Tryz.prog 82 #[.slice (some ⟨g, 0, none⟩) 3 3] w fun e w' => ∃ sv vs, e = .returned sv ∧ GF S w.heap.size w' sv (xs ++ (ys ++ zs)) vs ∧ Below w.heap.size w w' := by
  have n1 : ¬ ((xs.length : Int) < 0) := by omega
  have n2 : ¬ ((xs.length : Int) + (ys.length : Int) < 0) := by omega
  have n3 : ¬ ((xs.length : Int) + (ys.length : Int) + (zs.length : Int) < 0) := by omega
  have w3 : wrap64 ((xs.length : Int) + (ys.length : Int) + (zs.length : Int)) = (xs.length : Int) + (ys.length : Int) + (zs.length : Int) := by unfold wrap64; omega
  have w1 : wrap64 (xs.length : Int) = (xs.length : Int) := by unfold wrap64; omega
  have w2 : wrap64 ((xs.length : Int) + (ys.length : Int)) = (xs.length : Int) + (ys.length : Int) := by unfold wrap64; omega
  go_enter Tryz.func82, Tryz.ntmps82
  go_wp2_with fail
  go_loop [3, 11] (fun s i => (i = .int .i64 0 ∧ s = .int .i64 0) ∨ (i = .int .i64 1 ∧ s = .int .i64 (xs.length : Int)) ∨ (i = .int .i64 2 ∧ s = .int .i64 ((xs.length : Int) + (ys.length : Int))) ∨ (i = .int .i64 3 ∧ s = .int .i64 ((xs.length : Int) + (ys.length : Int) + (zs.length : Int)))) (fun _ i => 3 - (intOf i).toNat)
  case atStart => exact Or.inl ⟨rfl, rfl⟩
  case round =>
    rcases hrel with ⟨rfl, rfl⟩ | ⟨rfl, rfl⟩ | ⟨rfl, rfl⟩ | ⟨rfl, rfl⟩
    · go_wp2_with fail
      go_round
      case rel => exact Or.inr (Or.inl ⟨rfl, by simp⟩)
      case measure => simp [intOf]
    · go_wp2_with fail
      go_round
      case rel => exact Or.inr (Or.inr (Or.inl ⟨rfl, rfl⟩))
      case measure => simp [intOf]
    · go_wp2_with fail
      go_round
      case rel => exact Or.inr (Or.inr (Or.inr ⟨rfl, rfl⟩))
      case measure => simp [intOf]
    · go_upto_region 9 with fail
      go_wp2_with fail
      have hgr := hide (grow_nil d (xs.length + ys.length + zs.length) (by omega) S w)
      rw [show ((xs.length + ys.length + zs.length : Nat) : Int) = (xs.length : Int) + (ys.length : Int) + (zs.length : Int) by omega] at hgr
      refine Calls.mono hgr.out ?_
      rintro e w3 ⟨a0, cap0, rfl, hgf, hb3⟩
      have HX := hide hx
      have HY := hide hy
      have HZ := hide hz
      have HSX := hide hS
      have hst : Hid (GF S w.heap.size w3 (.slice a0 0 cap0) (threeL xs ys zs 0) []) := hgf
      have hB3 := hide hb3
      have hc0 := hb3.cell (p := ⟨g, 0, none⟩) hg
      have hc1 := hb3.cell (p := ⟨g, 1, none⟩) hg
      have hc2 := hb3.cell (p := ⟨g, 2, none⟩) hg
      clear hgf hb3 hgr hx hy hz hS
      go_wp2_with fail
      go_loopw [6, 27] (fun sv i wr => ∃ (m n : Nat) (a : Option Addr) (c : Nat) (vs : List Value), m ≤ 3 ∧ i = .int .i64 (m : Int) ∧ sv = .slice a n c ∧ Hid (GF S w.heap.size wr (.slice a n c) (threeL xs ys zs m) vs) ∧ Hid (Below w.heap.size w wr)) (fun _ i _ => 3 - (intOf i).toNat)
      case atStart => exact ⟨0, 0, _, _, [], by omega, rfl, rfl, hst, hB3⟩
      case round =>
        clear hst hB3 hc0 hc1 hc2
        obtain ⟨m, n, a, c, vs, hm, rfl, rfl, hgf, hbr⟩ := hrel
        have e0 := (hbr.out.cell (p := ⟨g, 0, none⟩) hg).trans c0
        have e1 := (hbr.out.cell (p := ⟨g, 1, none⟩) hg).trans c1
        have e2 := (hbr.out.cell (p := ⟨g, 2, none⟩) hg).trans c2
        have hsz := hbr.out.size
        have hmv := HSX.out.same hbr.out
        have hstep : ∀ (qs : List (Tr d)) (za : Option Addr) (zc : Nat), qs.length ≤ 1000 → (threeL xs ys zs m).length ≤ 2000 → threeL xs ys zs m ++ qs = threeL xs ys zs (m + 1) → Row1At S w (TreeG S w d) (.slice za qs.length zc) qs → Hid (∀ ty, ∃ v' w', (Builtin.append_ #[74, 74] ty #[.slice a n c, .slice za qs.length zc]).run Tryz.prog wr = .ok v' w' ∧ Hid (∃ n' a' c' vs', v' = .slice a' n' c' ∧ GF S w.heap.size w' (.slice a' n' c') (threeL xs ys zs (m + 1)) vs' ∧ Below w.heap.size w w')) := by
          intro qs za zc hzl hml heq hrow ty
          have hrow2 := hrow.moved (At' := TreeG S wr d) hmv (fun _ h => h) (fun x u hx => TreeG.moved hmv (fun _ h => h) d x u hx)
          obtain ⟨v', w', hr, ⟨vs', hv'⟩, hgr, a', c', e⟩ := run_append_onto_trees hgf.out (fun b hb => HSX.out b hb) hsz qs za zc qs.length ty rfl hrow2 (by omega)
          subst e
          have hrow := fun g' hg' => (hgf.out.1.lt g' hg').1
          refine ⟨_, w', hr, _, a', c', vs', rfl, by rw [← heq]; exact hv', ?_⟩
          exact ⟨hgr.os.trans hbr.out.os, hgr.tape.trans hbr.out.tape, hgr.output.trans hbr.out.output, Nat.le_trans hbr.out.size hgr.size, fun b hb => (hgr.block b (by omega) (fun e => by have := hrow b e.symm; omega)).trans (hbr.out.block b hb)⟩
        rcases (by omega : m = 0 ∨ m = 1 ∨ m = 2 ∨ m = 3) with rfl | rfl | rfl | rfl
        · have hs := hstep xs aa ca hlx (by simp [threeL]) (by simp [threeL]) HX.out
          have HB := hide hbr.out
          clear hstep hgf hbr hmv hsz
          go_wp2_with (at_builtin; refine wpList_append_run (fun v' w' => Hid (∃ n' a' c' vs', v' = .slice a' n' c' ∧ GF S w.heap.size w' (.slice a' n' c') (threeL xs ys zs (0 + 1)) vs' ∧ Below w.heap.size w w')) rfl _ _ 74 rfl (.slice a n c) (.slice aa xs.length ca) rfl rfl (hs.out 74) ?_)
          rintro v' w2' hph
          obtain ⟨n', a', c', rfl, ⟨vs', hv'⟩, hb'⟩ := hph.out
          have HV := hide hv'
          have HB' := hide hb'
          clear hph hs hv' hb' HB
          go_wp2_with fail
          go_roundw
          case rel => exact ⟨1, n', a', c', vs', by omega, by go_num, rfl, HV, HB'⟩
          case measure => simp [intOf]
        · have hs := hstep ys ba cb hly (by simp [threeL]; omega) (by simp [threeL]) HY.out
          have HB := hide hbr.out
          clear hstep hgf hbr hmv hsz
          go_wp2_with (at_builtin; refine wpList_append_run (fun v' w' => Hid (∃ n' a' c' vs', v' = .slice a' n' c' ∧ GF S w.heap.size w' (.slice a' n' c') (threeL xs ys zs (1 + 1)) vs' ∧ Below w.heap.size w w')) rfl _ _ 74 rfl (.slice a n c) (.slice ba ys.length cb) rfl rfl (hs.out 74) ?_)
          rintro v' w2' hph
          obtain ⟨n', a', c', rfl, ⟨vs', hv'⟩, hb'⟩ := hph.out
          have HV := hide hv'
          have HB' := hide hb'
          clear hph hs hv' hb' HB
          go_wp2_with fail
          go_roundw
          case rel => exact ⟨2, n', a', c', vs', by omega, by go_num, rfl, HV, HB'⟩
          case measure => simp [intOf]
        · have hs := hstep zs da cd hlz (by simp [threeL]; omega) (by simp [threeL]) HZ.out
          have HB := hide hbr.out
          clear hstep hgf hbr hmv hsz
          go_wp2_with (at_builtin; refine wpList_append_run (fun v' w' => Hid (∃ n' a' c' vs', v' = .slice a' n' c' ∧ GF S w.heap.size w' (.slice a' n' c') (threeL xs ys zs (2 + 1)) vs' ∧ Below w.heap.size w w')) rfl _ _ 74 rfl (.slice a n c) (.slice da zs.length cd) rfl rfl (hs.out 74) ?_)
          rintro v' w2' hph
          obtain ⟨n', a', c', rfl, ⟨vs', hv'⟩, hb'⟩ := hph.out
          have HV := hide hv'
          have HB' := hide hb'
          clear hph hs hv' hb' HB
          go_wp2_with fail
          go_roundw
          case rel => exact ⟨3, n', a', c', vs', by omega, by go_num, rfl, HV, HB'⟩
          case measure => simp [intOf]
        · have HV : Hid (GF S w.heap.size wr (.slice a n c) (xs ++ (ys ++ zs)) vs) := hgf.out
          have HB := hide hbr.out
          clear hstep hgf hbr hmv hsz
          go_wp2_with fail
          go_ret
          exact ⟨_, _, rfl, HV.out, HB.out⟩
end Go.Proofs.YtilgbnnjecpneaaGreatDoor

/- What val of a tree gives, whatever the tree's type is. -/
namespace Go.Proofs.YtilgbnnjecpneaaGreatDoor
open Go.RowKit Go.Deep

theorem val_all (d : Nat) (S : Nat → Prop) (x : Tr (d + 1)) (u : Value) (w : World) (hu : TreeG S w (d + 1) x u) (hS : Within S w) :
    ∃ v, (u = .iface 85 v ∧ ∀ W', Below w.heap.size w W' → Calls Tryz.prog 142 #[v] W' (ValQ (d + 1) x W')) ∨ (u = .iface 113 v ∧ ∀ W', Below w.heap.size w W' → Calls Tryz.prog 149 #[v] W' (ValQ (d + 1) x W')) ∨
      (u = .iface 110 v ∧ ∀ W', Below w.heap.size w W' → Calls Tryz.prog 146 #[v] W' (ValQ (d + 1) x W')) ∨ (u = .iface 80 v ∧ ∀ W', Below w.heap.size w W' → Calls Tryz.prog 139 #[v] W' (ValQ (d + 1) x W')) ∨
      (u = .iface 120 v ∧ ∀ W', Below w.heap.size w W' → Calls Tryz.prog 152 #[v] W' (ValQ (d + 1) x W')) := by
  have hw : ∀ W', Below w.heap.size w W' → TreeG S W' (d + 1) x u ∧ Within S W' := fun W' hW => ⟨hu.same (hS.same hW), hS.later hW.size⟩
  obtain ⟨v, hm⟩ := val_any (d + 1) S x u w hu hS
  refine ⟨v, ?_⟩
  rcases hm with ⟨rfl, _⟩ | ⟨rfl, _⟩ | ⟨rfl, _⟩ | ⟨rfl, _⟩ | ⟨rfl, _⟩
  · refine Or.inl ⟨rfl, fun W' hW => ?_⟩
    obtain ⟨v', hm⟩ := val_any (d + 1) S x _ W' (hw W' hW).1 (hw W' hW).2
    rcases hm with ⟨e, h⟩ | ⟨e, h⟩ | ⟨e, h⟩ | ⟨e, h⟩ | ⟨e, h⟩ <;> (cases e <;> exact h)
  · refine Or.inr (Or.inl ⟨rfl, fun W' hW => ?_⟩)
    obtain ⟨v', hm⟩ := val_any (d + 1) S x _ W' (hw W' hW).1 (hw W' hW).2
    rcases hm with ⟨e, h⟩ | ⟨e, h⟩ | ⟨e, h⟩ | ⟨e, h⟩ | ⟨e, h⟩ <;> (cases e <;> exact h)
  · refine Or.inr (Or.inr (Or.inl ⟨rfl, fun W' hW => ?_⟩))
    obtain ⟨v', hm⟩ := val_any (d + 1) S x _ W' (hw W' hW).1 (hw W' hW).2
    rcases hm with ⟨e, h⟩ | ⟨e, h⟩ | ⟨e, h⟩ | ⟨e, h⟩ | ⟨e, h⟩ <;> (cases e <;> exact h)
  · refine Or.inr (Or.inr (Or.inr (Or.inl ⟨rfl, fun W' hW => ?_⟩)))
    obtain ⟨v', hm⟩ := val_any (d + 1) S x _ W' (hw W' hW).1 (hw W' hW).2
    rcases hm with ⟨e, h⟩ | ⟨e, h⟩ | ⟨e, h⟩ | ⟨e, h⟩ | ⟨e, h⟩ <;> (cases e <;> exact h)
  · refine Or.inr (Or.inr (Or.inr (Or.inr ⟨rfl, fun W' hW => ?_⟩)))
    obtain ⟨v', hm⟩ := val_any (d + 1) S x _ W' (hw W' hW).1 (hw W' hW).2
    rcases hm with ⟨e, h⟩ | ⟨e, h⟩ | ⟨e, h⟩ | ⟨e, h⟩ | ⟨e, h⟩ <;> (cases e <;> exact h)
end Go.Proofs.YtilgbnnjecpneaaGreatDoor
