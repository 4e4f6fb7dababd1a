/- Texts of the proof, put together by program: WSetJ. -/
import Derived.Test.YtgjahnkldobphaaGreatDoorP22
/- PartSet of the program. -/
namespace Go.Proofs.YtgjahnkldobphaaGreatDoor
open Go.RowKit Go.Deep

theorem rowL_some {d : Nat} {t : Tr (d + 1)} {xs : List (Tr d)} (h : rowL d t = some xs) : okT (d + 1) t = true ∧ xs.length ≤ 60 ∧ ∀ x ∈ xs, okT d x = true := by
  unfold rowL at h
  split at h
  · rename_i hok
    split at h
    · cases h
      exact ⟨hok, by show (0 : Nat) ≤ 60; omega, fun x hx => by cases hx⟩
    · split at h
      · cases h
        exact ⟨hok, (okT_kinds hok).2.1, fun x hx => okT_part hok hx⟩
      · cases h
  · cases h
theorem partSet_none {d : Nat} {t : Tr (d + 2)} {i : Int} {x : Tr (d + 1)} (h : rowL (d + 1) t = none) : partSetT d t i x = (zeroT (d + 1), false) := by
  unfold partSetT
  rw [h]
theorem partSet_bad {d : Nat} {t : Tr (d + 2)} {i : Int} {x : Tr (d + 1)} {xs : List (Tr (d + 1))} (h : rowL (d + 1) t = some xs) (hx : okT (d + 1) x = false) : partSetT d t i x = (zeroT (d + 1), false) := by
  unfold partSetT
  rw [h]
  show (if _ then _ else _) = _
  rw [if_neg (by rw [hx]; simp)]
theorem partSet_out {d : Nat} {t : Tr (d + 2)} {i j : Int} {x : Tr (d + 1)} {xs : List (Tr (d + 1))} (h : rowL (d + 1) t = some xs) (hj : j = if i < 0 then i + (xs.length : Int) else i) (ho : j < 0 ∨ 60 ≤ j) : partSetT d t i x = (zeroT (d + 1), false) := by
  have hl := (rowL_some h).2.1
  unfold partSetT
  rw [h]
  show (if _ then _ else _) = _
  rw [if_neg (by rintro ⟨_, h1, h2⟩; split at hj <;> omega)]
theorem partSet_in {d : Nat} {t : Tr (d + 2)} {i j : Int} {x : Tr (d + 1)} {xs : List (Tr (d + 1))} (h : rowL (d + 1) t = some xs) (hx : okT (d + 1) x = true) (hj : j = if i < 0 then i + (xs.length : Int) else i) (h0 : 0 ≤ j) (h1 : j < 60) :
    partSetT d t i x = (toldT (d + 1) (rowT (d + 1) (setL xs (zeroT d) j.toNat x)), okT (d + 2) (rowT (d + 1) (setL xs (zeroT d) j.toNat x))) := by
  have hl := (rowL_some h).2.1
  unfold partSetT
  rw [h]
  show (if _ then _ else _) = _
  rw [if_pos ⟨hx, by split at hj <;> omega, by split at hj <;> omega⟩, ← hj]

theorem ErrType.of_block0 {w w' : World} (h : ErrType w) (e : w'.heap[0]? = w.heap[0]?) : ErrType w' := (World.cell?_of_block (w := w) e).trans h
theorem GTo.moved {d N : Nat} {w w' : World} {sv : Value} {xs : List (Tr d)} {vs : List Value} (h : GTo N w sv xs vs) (hb : Below w.heap.size w w') : GTo N w' sv xs vs := by
  obtain ⟨h1, h2⟩ := h
  have hz := hb.size
  refine ⟨⟨h1.1, ?_⟩, fun j x u hx hu => TreeG.moved (fun b hb' => hb.block b hb'.2.1) (fun b hb' => ⟨hb'.1, by have := hb'.2.1; omega, hb'.2.2⟩) d x u (h2 j x u hx hu)⟩
  rcases h1.2 with h | ⟨g, cap, cur, hv, hg, hh, hrest⟩
  · exact Or.inl h
  · exact Or.inr ⟨g, cap, cur, hv, hg, (hb.block g (Array.getElem?_eq_some_iff.1 hh).1).trans hh, hrest⟩

set_option maxRecDepth 100000 in
set_option maxHeartbeats 4000000 in
theorem implPartSet_any (d : Nat) (S : Nat → Prop) (t : Tr (d + 2)) (v : Value) (i : Int) (hi : I64 i) (S2 : Nat → Prop) (x : Tr (d + 1)) (xv : Value) (w : World) (hv : ValAt S w (d + 2) t v) (hS : Within S w) (hx : ValAt S2 w (d + 1) x xv) (hS2 : Within S2 w) (hg : ErrType w) :
    Calls Tryz.prog 15 #[v, .int .i64 i, xv] w (TellQ (d + 1) (partSetT d t i x).1 (partSetT d t i x).2 w) := by
  obtain ⟨k, n, s, ak, lk, ck, al, ll, cl, rfl⟩ := hv.shape
  obtain ⟨k', n', s', ak', lk', ck', al', ll', cl', rfl⟩ := hx.shape
  obtain ⟨k0, k1, k2, hW0, hsz0⟩ := laid3 w 26 26 26 (.int .i64 k) (.int .i64 n) (.string s) (.slice ak lk ck) (.slice al ll cl) (.int .i64 k') (.int .i64 n') (.string s') (.slice ak' lk' ck') (.slice al' ll' cl') (.int .i64 0) (.int .i64 0) (.string { data := #[] }) (.slice none 0 0) (.slice none 0 0)
  obtain ⟨W0, hW⟩ : ∃ W0, W0 = ((w.alloc (.cells #[.int .i64 k, .int .i64 n, .string s, .slice ak lk ck, .slice al ll cl] 26)).alloc (.cells #[.int .i64 k', .int .i64 n', .string s', .slice ak' lk' ck', .slice al' ll' cl'] 26)).alloc (.cells #[.int .i64 0, .int .i64 0, .string { data := #[] }, .slice none 0 0, .slice none 0 0] 26) := ⟨_, rfl⟩
  rw [← hW] at k0 k1 k2 hW0 hsz0
  have HW := hide hW
  clear hW k0
  go_enter Tryz.func15, Tryz.ntmps15
  go_wp2_with fail
  rw [← HW.out]
  clear HW
  refine (partsInRow_own (d + 1) S t _ W0 (hv.same (hS.same hW0)) (hS.later hW0.size)).mono ?_
  rintro e w1 ⟨hb1, hq⟩
  have hB1 := below_trans hW0 hb1
  replace k1 := k1.below hb1
  replace k2 := k2.below hb1
  have hg1 := hg.below hB1
  have hs1 := hb1.size
  -- what is told, however it is
  have hfin : ∀ (w1' : World), Below W0.heap.size w1 w1' → ∀ (y : Tr (d + 2)) (ok : Bool), Hid (∀ e w2, TellQ (d + 1) y ok w1' e w2 → ∃ v0 v1 v2 v3 v4 v5 v6 v7 v8, e = .returned (.tuple #[.agg #[.int .i64 v0, .int .i64 v1, .string v2, .slice v3 v4 v5, .slice v6 v7 v8], .bool ok]) ∧
      Blk5 w2 (w.heap.size + 1 + 1) 26 (.int .i64 0) (.int .i64 0) (.string { data := #[] }) (.slice none 0 0) (.slice none 0 0) ∧
      ∀ wF, wF = set5 w2 (w.heap.size + 1 + 1) 0 (.int .i64 v0) (.int .i64 v1) (.string v2) (.slice v3 v4 v5) (.slice v6 v7 v8) → ValOwn wF (d + 2) (Fresh w wF) y (.agg #[.int .i64 v0, .int .i64 v1, .string v2, .slice v3 v4 v5, .slice v6 v7 v8]) ∧ Below w.heap.size w wF) := fun w1' hb' y ok => by
    intro e w2 ⟨v, he, hv, hb2⟩
    obtain ⟨v0, v1, v2, v3, v4, v5, v6, v7, v8, rfl⟩ := (ValOwn.at _ _ _ _ hv).shape
    have hbw : Below w.heap.size w w1' := hB1.trans (hb'.mono (by omega))
    have hk : Blk5 w1' (w.heap.size + 1 + 1) 26 (.int .i64 0) (.int .i64 0) (.string { data := #[] }) (.slice none 0 0) (.slice none 0 0) := k2.of_block (hb'.block _ (by omega))
    exact ⟨v0, v1, v2, v3, v4, v5, v6, v7, v8, he, hk.below hb2, tell_end hv (below_trans hbw hb2) (by omega) (by have := hb'.size; omega)⟩
  clear hv hW0 k2
  rcases hq with ⟨xs, xa, xc, vs, hrow, rfl, hgto⟩ | ⟨hrow, why, rfl⟩
  · obtain ⟨_, hx60, hxok⟩ := rowL_some hrow
    obtain ⟨j, hj⟩ : ∃ j : Int, j = if i < 0 then i + (xs.length : Int) else i := ⟨_, rfl⟩
    have HJ := hide hj
    obtain ⟨x0, x1, x2, x3, x4⟩ := k1.cell
    have HG := hide hgto
    have HROW := hide hrow
    clear hgto hj hrow
    go_wp2_with fail
    refine (given_any (d + 1) S2 x _ w1 (hx.same (hS2.same hB1)) (hS2.later hB1.size)).mono ?_
    rintro e w2 ⟨hb2, hq⟩
    have hgt2 := hide (HG.out.moved hb2)
    have hbN2 : Below W0.heap.size w1 w2 := hb2.mono hs1
    have hs2 := hb2.size
    have hg2 := hg1.below hb2
    clear x0 x1 x2 x3 x4
    rcases hq with ⟨hok, u, rfl, hu⟩ | ⟨hok, why, rfl⟩
    · obtain ⟨T, u', rfl⟩ := hu.iface
      have hAs : Hid (∀ b, Fresh w1 w2 b → Aside W0.heap.size w2 (.slice xa xs.length xc) b) := by
        intro b hb
        refine ⟨by have := hb.1; omega, hb.2, fun e => ?_⟩
        have := (HG.out.1.lt b e.symm).2
        have := hb.1
        omega
      have hcall := hide (setTree_any d W0.heap.size (Fresh w1 w2) xs xa xc vs x T u' j w2 hgt2.out hu hAs.out (by omega) hx60)
      clear hu hAs hgt2 HG hb2
      go_wp2_with fail
      refine (fromStart_any i xs.length hi hx60 w2).mono ?_
      rintro e w2' ⟨rfl, rfl⟩
      rw [← HJ.out]
      go_wp2_with fail
      refine Calls.mono hcall.out ?_
      rintro e w3 ⟨hb3, hq⟩
      have hbN3 := Below.trans hbN2 hb3
      clear hcall
      rcases hq with ⟨hj0, hj1, u3, rfl, hu3⟩ | ⟨hjo, why, rfl⟩
      · obtain ⟨T3, u3', rfl⟩ := hu3.iface
        have HR := hide (partSet_in HROW.out hok HJ.out hj0 hj1)
        have hcall := hide (told_tree (d + 1) _ _ _ w3 hu3 (fun b hb => hb.2))
        clear hu3 HROW HJ
        go_wp2_with fail
        refine Calls.mono hcall.out ?_
        intro e w4 hq
        obtain ⟨v0, v1, v2, v3, v4, v5, v6, v7, v8, rfl, k3, hF⟩ := (hfin w3 hbN3 _ _).out e w4 hq
        have HF := hide hF
        obtain ⟨y0, y1, y2, y3, y4⟩ := k3.cell
        have yf := k3.frozen
        clear hF hq hfin hcall k3
        go_wp2_with fail
        refine bodyPost_ret (v := .tuple #[.agg #[.int .i64 v0, .int .i64 v1, .string v2, .slice v3 v4 v5, .slice v6 v7 v8], .bool (okT (d + 2) (rowT (d + 1) (setL xs (zeroT d) j.toNat x)))]) (by simp [results, Tryz.results15, go_sem, y0, y1, y2, y3, y4]) rfl ⟨_, by rw [HR.out], by rw [HR.out]; exact (HF.out _ rfl).1, (HF.out _ rfl).2⟩
      · have HR := hide (partSet_out (x := x) HROW.out HJ.out hjo)
        have hcall := hide (told_fault (d + 1) .nilIface why w3 (hg2.of_block0 (hb3.block 0 (by have := hg.lt; omega))))
        unfold faultV
        clear HROW HJ
        go_wp2_with fail
        refine Calls.mono hcall.out ?_
        intro e w4 hq
        obtain ⟨v0, v1, v2, v3, v4, v5, v6, v7, v8, rfl, k3, hF⟩ := (hfin w3 hbN3 _ _).out e w4 hq
        have HF := hide hF
        obtain ⟨y0, y1, y2, y3, y4⟩ := k3.cell
        have yf := k3.frozen
        clear hF hq hfin hcall k3
        go_wp2_with fail
        refine bodyPost_ret (v := .tuple #[.agg #[.int .i64 v0, .int .i64 v1, .string v2, .slice v3 v4 v5, .slice v6 v7 v8], .bool false]) (by simp [results, Tryz.results15, go_sem, y0, y1, y2, y3, y4]) rfl ⟨_, by rw [HR.out], by rw [HR.out]; exact (HF.out _ rfl).1, (HF.out _ rfl).2⟩
    · have HR := hide (partSet_bad (i := i) HROW.out hok)
      have hcall := hide (told_fault (d + 1) .nilIface why w2 hg2)
      unfold faultV
      clear HROW HJ hgt2 HG
      go_wp2_with fail
      refine Calls.mono hcall.out ?_
      intro e w4 hq
      obtain ⟨v0, v1, v2, v3, v4, v5, v6, v7, v8, rfl, k3, hF⟩ := (hfin w2 hbN2 _ _).out e w4 hq
      have HF := hide hF
      obtain ⟨y0, y1, y2, y3, y4⟩ := k3.cell
      have yf := k3.frozen
      clear hF hq hfin hcall k3
      go_wp2_with fail
      refine bodyPost_ret (v := .tuple #[.agg #[.int .i64 v0, .int .i64 v1, .string v2, .slice v3 v4 v5, .slice v6 v7 v8], .bool false]) (by simp [results, Tryz.results15, go_sem, y0, y1, y2, y3, y4]) rfl ⟨_, by rw [HR.out], by rw [HR.out]; exact (HF.out _ rfl).1, (HF.out _ rfl).2⟩
  · have HR := hide (partSet_none (i := i) (x := x) hrow)
    have hcall := hide (told_fault (d + 1) .nilIface why w1 hg1)
    unfold faultV
    clear hrow k1
    go_wp2_with fail
    refine Calls.mono hcall.out ?_
    intro e w2 hq
    obtain ⟨v0, v1, v2, v3, v4, v5, v6, v7, v8, rfl, k3, hF⟩ := (hfin w1 (Below.refl _ _) _ _).out e w2 hq
    have HF := hide hF
    obtain ⟨y0, y1, y2, y3, y4⟩ := k3.cell
    have yf := k3.frozen
    clear hF hq hfin hcall k3
    go_wp2_with fail
    refine bodyPost_ret (v := .tuple #[.agg #[.int .i64 v0, .int .i64 v1, .string v2, .slice v3 v4 v5, .slice v6 v7 v8], .bool false]) (by simp [results, Tryz.results15, go_sem, y0, y1, y2, y3, y4]) rfl ⟨_, by rw [HR.out], by rw [HR.out]; exact (HF.out _ rfl).1, (HF.out _ rfl).2⟩
end Go.Proofs.YtgjahnkldobphaaGreatDoor
