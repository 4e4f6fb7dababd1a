/- Texts of the proof, put together by program: WMrgQ, WMrgS, WCutS, WCutI, PTell, LBackC, WDrawM, WCopyO, WKbS, WAddP, WAddS, LAddC, LPartK, LPartO, LSortC. -/
import Derived.Test.YtilgbnnjecpneaaGreatDoorV31
import Derived.Test.YtilgbnnjecpneaaGreatDoorV30
import Derived.Test.YtilgbnnjecpneaaGreatDoorV24
import Derived.Test.YtilgbnnjecpneaaGreatDoorV23
import Derived.Test.YtilgbnnjecpneaaGreatDoorV11
import Derived.Test.YtilgbnnjecpneaaGreatDoorV12
import Derived.Test.YtilgbnnjecpneaaGreatDoorV21
import Derived.Test.YtilgbnnjecpneaaGreatDoorV25
import Derived.Test.YtilgbnnjecpneaaGreatDoorV26
import Derived.Test.YtilgbnnjecpneaaGreatDoorV7
import Derived.Test.YtilgbnnjecpneaaGreatDoorV22
/- l4Sort of the model: a row in order. -/
namespace Go.Proofs.YtilgbnnjecpneaaGreatDoor
open Go.RowKit Go.Deep

theorem sort_step {d : Nat} {xs : List (Tr d)} {k : Nat} {x : Tr d} (h : xs[k]? = some x) : sortL (ordT d) (xs.take (k + 1)) = insL (ordT d) x (sortL (ordT d) (xs.take k)) := by
  have e : xs.take (k + 1) = xs.take k ++ [x] := by rw [List.take_add_one, h]; rfl
  rw [e]
  unfold sortL
  rw [List.foldl_append]
  rfl
theorem VTo.later {d N : Nat} {w w' : World} {lv : Value} {xs : List (Tr d)} {vs : List Value} (h : VTo (Live1 w lv) N w lv xs vs) (hb : Below w.heap.size w w') : VTo (Live1 w' lv) N w' lv xs vs :=
  (h.moved (fun _ hb' => hb.block _ hb'.1) (fun g hg => hb.block g (h.1.lt g hg).2)).mono (fun _ hb' => ⟨Nat.lt_of_lt_of_le hb'.1 hb.size, hb'.2⟩)

set_option maxRecDepth 100000 in
set_option maxHeartbeats 4000000 in
theorem l4Sort_any (d n : Nat) (S : Nat → Prop) (xs : List (Tr (d + 1))) (al : Option Addr) (cl : Nat) (w : World) (hn : Hid (n = xs.length)) (hl : RowAt S w (ValAt S w (d + 1)) (.slice al n cl) xs) (hS : Within S w) (hlen : n ≤ 100) :
    Calls Tryz.prog 35 #[.slice al n cl] w fun e w' => ∃ a c vs, e = .returned (.slice a n c) ∧ VTo (Live1 w' (.slice a n c)) w.heap.size w' (.slice a n c) (sortL (ordT (d + 1)) xs) vs ∧ Below w.heap.size w w' := by
  obtain ⟨W0, HW0⟩ : ∃ W0, Hid (w.alloc (.cells #[] 29) = W0) := ⟨_, rfl⟩
  have hst0 := VTo.start (d := d + 1) (fun _ => False) w
  have hA0 := below_alloc1 w (.cells #[] 29)
  rw [HW0.out] at hst0 hA0
  have hst : Hid (VTo (Live1 W0 (.slice (some ⟨w.heap.size, 0, none⟩) 0 0)) w.heap.size W0 (.slice (some ⟨w.heap.size, 0, none⟩) 0 0) (sortL (ordT (d + 1)) (xs.take 0)) []) := hst0.mono (fun _ hb => hb.elim)
  have hbs : Hid (Below w.heap.size w W0) := hA0
  have HL := hide hl
  clear hst0 hA0 hl
  go_enter Tryz.func35, Tryz.ntmps35
  go_wp2_with fail
  rw [HW0.out]
  clear HW0
  go_loopw [3, 4] (fun out i wr => ∃ (m : Nat) (la : Option Addr) (lc : Nat) (vs : List Value), m ≤ n ∧ out = .slice la m lc ∧ i = .int .i64 (m : Int) ∧ Hid (VTo (Live1 wr (.slice la m lc)) w.heap.size wr (.slice la m lc) (sortL (ordT (d + 1)) (xs.take m)) vs) ∧ Hid (Below w.heap.size w wr)) (fun _ i _ => n - (intOf i).toNat)
  case atStart => exact ⟨0, _, _, [], Nat.zero_le _, rfl, rfl, hst, hbs⟩
  case round =>
    clear hst hbs
    obtain ⟨m, la, lc, vs, hm, rfl, rfl, hto, hbr⟩ := hrel
    by_cases hmt : m < n
    · have hmi : (m : Int) < (n : Int) := by omega
      obtain ⟨b, o, x, c0, c1, c2, c3, c4, rfl, hbS, hx, e0, e1, e2, e3, e4, hval⟩ := (HL.out.moved (hS.same hbr.out) (fun _ h => h) (fun z u hz => ValAt.moved (hS.same hbr.out) (fun _ h => h) (d + 1) z u hz)).cell (k := m) (by rw [← hn.out]; exact hmt)
      obtain ⟨q0, q1, q2, q3, q4, q5, q6, q7, q8, hq⟩ := hval.shape
      cases hq
      have hz := hbr.out.size
      have hgl : ∀ g, (Value.slice la m lc).ownBlock = some g → w.heap.size ≤ g ∧ g < wr.heap.size := fun g hg => hto.out.1.lt g hg
      have hmn : Hid (m = (sortL (ordT (d + 1)) (xs.take m)).length) := by show _ = _; rw [sort_len, List.length_take, ← hn.out]; omega
      have hval2 := hval.mono (S' := Live1 wr (.slice la m lc)) (fun b hb => ⟨by have := hS b hb; omega, fun e => by have := (hgl b e.symm).1; have := hS b hb; omega⟩)
      have hcall := hide (fun W (hW : Below wr.heap.size wr W) => l4Put_any d w.heap.size m (sortL (ordT (d + 1)) (xs.take m)) x la lc vs q0 q1 q2 q3 q4 q5 q6 q7 q8 W hmn (hto.out.later hW) (by have := hW.size; omega) ((hval2.same (fun b hb => hW.block b hb.1)).mono (fun b hb => ⟨Nat.lt_of_lt_of_le hb.1 hW.size, hb.2⟩)) (by omega))
      have hst2 := hide (sort_step hx)
      have hbl : b < wr.heap.size := by have := hS b hbS; omega
      clear hval hval2 hgl hmn hto hx hbS
      go_wp2_with fail
      refine Calls.mono (hcall.out wr (Below.refl _ _)) ?_
      rintro e w2 ⟨a2, c2', vs2, rfl, hv2, hb2⟩
      rw [← hst2.out] at hv2
      have HV := hide hv2
      have HB := hide (hbr.out.trans hb2)
      clear hv2 hb2 hcall hst2 hbr
      go_wp2_with fail
      go_roundw
      case rel => exact ⟨m + 1, a2, c2', vs2, by omega, rfl, by go_num, HV, HB⟩
      case measure => simp [intOf]; omega
    · obtain rfl : m = n := by omega
      have hto2 := hto.out
      rw [List.take_of_length_le (by rw [← hn.out]; exact Nat.le_refl _)] at hto2
      have HT := hide hto2
      clear hto2 hto
      go_wp2_with fail
      go_ret
      exact ⟨la, lc, vs, rfl, HT.out, hbr.out⟩
end Go.Proofs.YtilgbnnjecpneaaGreatDoor

/- RowSort, RowLeast of the model. -/
namespace Go.Proofs.YtilgbnnjecpneaaGreatDoor
open Go.RowKit Go.Deep

set_option maxRecDepth 100000 in
set_option maxHeartbeats 2000000 in
theorem specRowSort_own (d : Nat) (S : Nat → Prop) (t : Tr (d + 1 + 1)) (v : Value) (w : World) (hv : ValAt S w (d + 1 + 1) t v) (hS : Within S w) (hsm : (nodes (d + 1 + 1) t : Int) ≤ 4194304) :
    Calls Tryz.prog 10 #[v] w (TellQ (d + 1) (rowTell (sortF (d + 1)) t).1 (rowTell (sortF (d + 1)) t).2 w) := by
  have hv0 := hv
  obtain ⟨vk, vl, rfl, i1, i2, i3, hk, hl⟩ := hv
  obtain ⟨ak, ck, rfl, hkl⟩ := hk.open'
  obtain ⟨al, cl, rfl, hll⟩ := hl.open'
  obtain ⟨W0, hW⟩ : ∃ W0, W0 = (w.alloc (.cells #[.int .i64 t.kind, .int .i64 t.num, .string t.str, .slice ak t.keys.length ck, .slice al t.list.length cl] 29)).alloc (.cells #[.int .i64 0, .int .i64 0, .string { data := #[] }, .slice none 0 0, .slice none 0 0] 29) := ⟨_, rfl⟩
  have hW0 : Below w.heap.size w W0 := by rw [hW]; exact below_trans (below_alloc1 _ _) (below_alloc1 _ _)
  have k0 : Blk5 W0 w.heap.size 29 (.int .i64 t.kind) (.int .i64 t.num) (.string t.str) (.slice ak t.keys.length ck) (.slice al t.list.length cl) := by
    rw [hW]; exact (Blk5.new w 29 _ _ _ _ _).alloc _
  have k1 : Blk5 W0 (w.heap.size + 1) 29 (.int .i64 0) (.int .i64 0) (.string { data := #[] }) (.slice none 0 0) (.slice none 0 0) := by
    have := Blk5.new (w.alloc (.cells #[.int .i64 t.kind, .int .i64 t.num, .string t.str, .slice ak t.keys.length ck, .slice al t.list.length cl] 29)) 29 (.int .i64 0) (.int .i64 0) (.string { data := #[] }) (.slice none 0 0) (.slice none 0 0)
    rw [World.size_alloc] at this
    rw [hW]
    exact this
  have HW := hide hW
  clear hW hk
  go_enter Tryz.func10, Tryz.ntmps10
  go_wp2_with fail
  rw [← HW.out]
  clear HW
  refine (l4Row_any (d + 1) S t _ W0 (hv0.same (hS.same hW0)) (hS.later hW0.size) hsm).mono ?_
  rintro e w1 ⟨rfl, hb1⟩
  replace k0 := k0.below hb1
  replace k1 := k1.below hb1
  have hB1 := below_trans hW0 hb1
  have hlt := k1.lt
  clear hb1 hW0 hv0
  cases hf : treesL (d + 1) t with
  | none =>
    have hz := hide (rowTell_none (f := sortF (d + 1)) hf)
    have hno : Hid (∀ wF, wF = set5 w1 (w.heap.size + 1) 0 (.int .i64 0) (.int .i64 0) (.string { data := #[] }) (.slice none 0 0) (.slice none 0 0) → Below w.heap.size w wF) := by
      intro wF hF
      rw [hF]
      exact below_set5 hB1 (by omega) _ _ _ _ _ _
    obtain ⟨y0, y1, y2, y3, y4⟩ := k1.cell
    have yf := k1.frozen
    clear k0 k1 hB1
    go_wp2_with fail
    rw [hz.out]
    refine bodyPost_ret (v := .tuple #[zeroVal, .bool false]) (by simp [results, Tryz.results10, go_sem, zeroVal, y0, y1, y2, y3, y4]; rfl) rfl ⟨_, rfl, zeroVal_own (d + 1) _ _, hno.out _ rfl⟩
  | some xs =>
    obtain ⟨hok, h5, rfl⟩ := treesL_some hf
    clear h5
    have hR : Hid (rowTell (sortF (d + 1)) t = (toldT (d + 1) (rowT (d + 1) (sortL (ordT (d + 1)) t.list)), okT (d + 1 + 1) (rowT (d + 1) (sortL (ordT (d + 1)) t.list)))) := rowTell_some hf rfl
    have hl60 : t.list.length ≤ 60 := (okT_kinds hok).2.1
    have hnod : (nodes (d + 1 + 1) (rowT (d + 1) (sortL (ordT (d + 1)) t.list)) : Int) ≤ 4194304 := nodes_row (fun x hx => okT_part hok (sort_mem.1 hx)) (by rw [sort_len]; omega)
    have HLn : Hid (t.list.length = t.list.length) := rfl
    have hcall := hide (l4Sort_any d t.list.length S t.list al cl w1 HLn (hl.moved (hS.same hB1) (fun _ h => h) (fun z u hz => ValAt.moved (hS.same hB1) (fun _ h => h) (d + 1) z u hz)) (hS.later hB1.size) (by omega))
    obtain ⟨x0, x1, x2, x3, x4⟩ := k0.cell
    clear hf hok hl
    go_wp2_with fail
    refine Calls.mono hcall.out ?_
    rintro e w2 ⟨sa, sc, svs, rfl, hto, hb2⟩
    have hB2 := below_trans hB1 hb2
    have k2 := k1.below hb2
    have HTO := hide hto
    clear hto hb2 hcall k0 k1 x0 x1 x2 x3 x4 hB1
    go_wp2_with fail
    refine (l4Of_any _ _ _ w2).mono ?_
    rintro e w3 ⟨rfl, hb3⟩
    have hB3 := below_trans hB2 hb3
    have k3 := k2.below hb3
    have hrow0 := (HTO.out.later hb3).row1 (fun b hb => hb.1) (by rw [sort_len]; omega)
    have hrow := row_tree hrow0
    have hcall2 := hide (l2Told_own (d + 1) _ _ _ w3 hrow (fun b hb => hb) hnod)
    have hlt3 : w.heap.size + 1 < w3.heap.size := k3.lt
    clear hrow hrow0 hb3 HTO hB2 k2
    go_wp2_with fail
    refine Calls.mono hcall2.out ?_
    rintro e w4 ⟨r, rfl, hr, hb4⟩
    obtain ⟨r0, r1, r2, r3, r4, r5, r6, r7, r8, rfl⟩ := (ValOwn.at _ _ _ _ hr).shape
    have HF := hide (tell_end hr (below_trans hB3 hb4) (by omega) hlt3)
    have k4 := k3.below hb4
    obtain ⟨y0, y1, y2, y3, y4⟩ := k4.cell
    have yf := k4.frozen
    clear hr hb4 k3 k4 hcall2 hB3
    go_wp2_with fail
    rw [hR.out]
    exact bodyPost_ret (v := .tuple #[.agg #[.int .i64 r0, .int .i64 r1, .string r2, .slice r3 r4 r5, .slice r6 r7 r8], .bool (okT (d + 1 + 1) (rowT (d + 1) (sortL (ordT (d + 1)) t.list)))]) (by simp [results, Tryz.results10, go_sem, y0, y1, y2, y3, y4]) rfl ⟨_, rfl, (HF.out _ rfl).1, (HF.out _ rfl).2⟩
end Go.Proofs.YtilgbnnjecpneaaGreatDoor

/- RowCut of the model. -/
namespace Go.Proofs.YtilgbnnjecpneaaGreatDoor
open Go.RowKit Go.Deep

end Go.Proofs.YtilgbnnjecpneaaGreatDoor

/- pieceOf, RowCut of the program. -/
namespace Go.Proofs.YtilgbnnjecpneaaGreatDoor
open Go.RowKit Go.Deep

end Go.Proofs.YtilgbnnjecpneaaGreatDoor

/- Pieces of rows, and what is told of rows: plain facts. -/
namespace Go.Proofs.YtilgbnnjecpneaaGreatDoor
open Go.RowKit Go.Deep

theorem tell_of {d e : Nat} {f : List (Tr d) → Option (Tr (e + 1))} {xs : List (Tr d)} {x : Tr (e + 1)} (h : okT (d + 1) (rowT d xs) = true) (hf : f xs = some x) (hx : okT (e + 1) x = true) : rowTell f (rowT d xs) = (x, true) := by
  have hr : treesL d (rowT d xs) = some xs := by
    unfold treesL
    rw [if_pos h]
    exact if_pos rfl
  rw [rowTell_some hr hf]
  unfold toldT
  rw [if_pos hx, hx]
theorem tell_ok {d e : Nat} {f : List (Tr d) → Option (Tr (e + 1))} {t : Tr (d + 1)} (h : (rowTell f t).2 = true) : okT (d + 1) t = true ∧ Nd.kind t = 5 ∧ ∃ x, f (Nd.list t) = some x ∧ okT (e + 1) x = true ∧ rowTell f t = (x, true) := by
  cases hx : treesL d t with
  | none => rw [rowTell_none hx] at h; cases h
  | some xs =>
    obtain ⟨hok, h5, rfl⟩ := treesL_some hx
    cases hf : f (Nd.list t) with
    | none => rw [rowTell_fault hx hf] at h; cases h
    | some x =>
      have hs := rowTell_some hx hf
      rw [hs] at h
      have h : okT (e + 1) x = true := h
      refine ⟨hok, h5, x, rfl, h, ?_⟩
      rw [hs, h]
      unfold toldT
      rw [if_pos h]
theorem tell_no {d e : Nat} {f : List (Tr d) → Option (Tr (e + 1))} {t : Tr (d + 1)} (h : (rowTell f t).2 = false) : (rowTell f t).1 = zeroT e := by
  cases hx : treesL d t with
  | none => rw [rowTell_none hx]
  | some xs =>
    cases hf : f xs with
    | none => rw [rowTell_fault hx hf]
    | some x =>
      have hs := rowTell_some hx hf
      rw [hs] at h ⊢
      have h : okT (e + 1) x = false := h
      show toldT e x = _
      unfold toldT
      rw [if_neg (by rw [h]; simp)]
theorem okT_rowR {d : Nat} {xs ys : List (Tr d)} (h : okT (d + 1) (rowT d xs) = true) (hp : ys.Perm xs) : okT (d + 1) (rowT d ys) = true := by
  rw [okT_rowT_iff] at h ⊢
  exact ⟨fun x hx => h.1 x (hp.mem_iff.1 hx), by rw [(hp.map _).sum_nat]; exact h.2⟩
end Go.Proofs.YtilgbnnjecpneaaGreatDoor

/- Rows turned round and in order: contracts, and the facts that FnRowBack and its like ask for. -/
namespace Go.Proofs.YtilgbnnjecpneaaGreatDoor
open Go.RowKit Go.Deep

theorem rbackI {d : Nat} {w W : World} {t : Tr (d + 1)} {v : Value} (h : ValAt (FreshP w W) W (d + 1) t v) (hg : ErrType W) (hl : w.heap.size ≤ W.heap.size) :
    Calls Tryz.prog 22 #[v] W (TQ w (d + 1) (rowTell (backF d) t).1 (rowTell (backF d) t).2 W) := (implRowBack_any d _ t v W h within_P hg).mono (fun _ _ h => tq_of hl h)
theorem rsortI {d : Nat} {w W : World} {t : Tr (d + 2)} {v : Value} (h : ValAt (FreshP w W) W (d + 2) t v) (hg : ErrType W) (hl : w.heap.size ≤ W.heap.size) :
    Calls Tryz.prog 12 #[v] W (TQ w (d + 2) (rowTell (sortF (d + 1)) t).1 (rowTell (sortF (d + 1)) t).2 W) := (implRowSort_any d _ t v W h within_P hg).mono (fun _ _ h => tq_of hl h)
theorem rsortS {d : Nat} {w W : World} {t : Tr (d + 2)} {v : Value} (h : ValAt (FreshP w W) W (d + 2) t v) (hz : wtT (d + 2) t ≤ 10000) (hl : w.heap.size ≤ W.heap.size) :
    Calls Tryz.prog 10 #[v] W (TQ w (d + 2) (rowTell (sortF (d + 1)) t).1 (rowTell (sortF (d + 1)) t).2 W) := (specRowSort_own d _ t v W h within_P (nodes_small hz)).mono (fun _ _ h => tq_of hl h)
theorem back_ok {d : Nat} {t : Tr (d + 1)} (h : okT (d + 1) t = true) (h5 : Nd.kind t = 5) : rowTell (backF d) t = (rowT d (Nd.list t).reverse, true) := by
  have h1 := h
  rw [row_self h h5] at h1 ⊢
  exact tell_of h1 rfl (okT_rowR h1 (List.reverse_perm _))
theorem wt_ok {d : Nat} {t : Tr d} (h : okT d t = true) : wtT d t ≤ 10000 := by have := wtT_ok h; omega
end Go.Proofs.YtilgbnnjecpneaaGreatDoor

/- What the law of PartAdd draws: two trees, likely of one kind. -/
namespace Go.Proofs.YtilgbnnjecpneaaGreatDoor
open Go.RowKit Go.Deep

theorem TwoD.drew {w w' : World} {e : Ending} (h : TwoD w e w') : TwoD w e w'.drew := by
  obtain ⟨u, t, u', t', he, h1, h2, h3, h4, hb⟩ := h
  exact ⟨u, t, u', t', he, ValAt.moved (fun _ _ => rfl) (fun b hb => hb) 11 t u h1, h2, ValAt.moved (fun _ _ => rfl) (fun b hb => hb) 11 t' u' h3, h4, below_drew1 hb⟩
/-- What stands while the second tree is drawn anew. -/
structure AddL (w wr : World) (r vb va p : Nat) (a0 a1 a2 a3 a4 c0 c1 c2 c3 c4 : Value) (s t : Tr 10) : Prop where
  one : PutL w wr r (r + 1) vb p c0 c1 c2 c3 c4 t
  av : Blk5 wr va 29 a0 a1 a2 a3 a4
  val : ValAt (FreshZ (r + 1) vb wr) wr 10 s (.agg #[a0, a1, a2, a3, a4])
  wt : wtT 10 s ≤ 360
  hne : va ≠ vb
  hra : r < va
theorem AddL.next {w wr wX wF : World} {r vb va p p' : Nat} {a0 a1 a2 a3 a4 c0 c1 c2 c3 c4 u0 u1 u2 u3 u4 : Value} {s t t' : Tr 10} (h : AddL w wr r vb va p a0 a1 a2 a3 a4 c0 c1 c2 c3 c4 s t) (hb : But r wr wX) (hR : Rd wX r p') (hv : ValAt (FreshP wr wX) wX 10 t' (.agg #[u0, u1, u2, u3, u4])) (hw : wtT 10 t' ≤ 360)
    (hF : wF = set5 wX vb 0 u0 u1 u2 u3 u4) : AddL w wF r vb va p' a0 a1 a2 a3 a4 u0 u1 u2 u3 u4 s t' := by
  have hs : ∀ b, b ≠ vb → wF.heap[b]? = wX.heap[b]? := fun b hb' => by rw [hF]; exact set5_block _ _ _ _ _ _ _ _ _ hb'
  have hl2 : Below vb wX wF := by rw [hF]; exact below_set5 (Below.refl _ _) (Nat.le_refl _) _ _ _ _ _ _
  have ht : Turn (fun b => b = vb) wX wF := ⟨hl2.os, hl2.tape, hl2.output, hl2.size, fun b _ hn => hs b hn⟩
  have hra := h.hra
  exact ⟨h.one.next hb hR hv hw hF, (h.av.butr hb (by omega)).of_block (hs _ h.hne), FreshZ.turn (FreshZ.but h.val hb (by omega)) ht, h.wt, h.hne, h.hra⟩

end Go.Proofs.YtilgbnnjecpneaaGreatDoor

/- l1Copy of the model: the copy's list owns its cells, and may be appended to. -/
namespace Go.Proofs.YtilgbnnjecpneaaGreatDoor
open Go.RowKit Go.Deep

end Go.Proofs.YtilgbnnjecpneaaGreatDoor

/- RowKeys of the model. -/
namespace Go.Proofs.YtilgbnnjecpneaaGreatDoor
open Go.RowKit Go.Deep

theorem Blk5.all {w : World} {b : Nat} {T : TypeId} {c0 c1 c2 c3 c4 : Value} (h : Blk5 w b T c0 c1 c2 c3 c4) (v0 v1 v2 v3 v4 : Value) : Blk5 (_root_.Go.Proofs.YtilgbnnjecpneaaGreatDoor.set5 w b 0 v0 v1 v2 v3 v4) b T v0 v1 v2 v3 v4 := by
  unfold Blk5 at h ⊢
  simp [_root_.Go.Proofs.YtilgbnnjecpneaaGreatDoor.set5, World.setCell, Array.getElem?_modify, h]
/-- The variable that is told at the end. -/
structure OutAt (d : Nat) (S : Nat → Prop) (ob : Nat) (W wr : World) (acc : List (ByteArray × Tr (d + 1))) (kv lv : Value) : Prop where
  blk : Blk5 wr ob 29 (.int .i64 6) (.int .i64 0) (.string { data := #[] }) kv lv
  val : ValAt (fun b => S b ∨ (ob < b ∧ b < wr.heap.size)) wr (d + 2) (mapT (d + 1) acc) (.agg #[.int .i64 6, .int .i64 0, .string { data := #[] }, kv, lv])
  below : Below ob W wr
theorem OutAt.shape {d ob : Nat} {S : Nat → Prop} {W wr : World} {acc : List (ByteArray × Tr (d + 1))} {kv lv : Value} (h : OutAt d S ob W wr acc kv lv) : ∃ ka kn kc la ln lc, kv = .slice ka kn kc ∧ lv = .slice la ln lc := by
  obtain ⟨vk, vl, hve, _, _, _, hkk, hll⟩ := h.val
  obtain ⟨ka, kc, hka, _⟩ := hkk.open'
  obtain ⟨la, lc, hla, _⟩ := hll.open'
  simp at hve
  exact ⟨_, _, _, _, _, _, hve.2.2.2.1.trans hka, hve.2.2.2.2.trans hla⟩
theorem OutAt.start {d : Nat} (S : Nat → Prop) (w : World) : OutAt d S w.heap.size w (w.alloc (.cells #[.int .i64 6, .int .i64 0, .string { data := #[] }, .slice none 0 0, .slice none 0 0] 29)) [] (.slice none 0 0) (.slice none 0 0) :=
  ⟨Blk5.new _ _ _ _ _ _ _, ⟨_, _, rfl, ⟨by show _ ≤ (6 : Int); omega, by show (6 : Int) ≤ _; omega⟩, ⟨by show _ ≤ (0 : Int); omega, by show (0 : Int) ≤ _; omega⟩, by show (0 : Nat) < _; omega, ⟨by show (0 : Nat) < _; omega, (fun s hs => by cases hs), none, 0, rfl, Or.inl rfl⟩, ⟨by show (0 : Nat) < _; omega, none, 0, rfl, Or.inl rfl⟩⟩, below_alloc1 _ _⟩
theorem OutAt.step {d ob : Nat} {S : Nat → Prop} {W wr w2 : World} {acc acc' : List (ByteArray × Tr (d + 1))} {kv lv kv' lv' : Value} {o : Obj} (h : OutAt d S ob W wr acc kv lv) (hS : ∀ b, S b → b < ob) (hb : Below (wr.alloc o).heap.size (wr.alloc o) w2) (hu : ValAt (fun b => (S b ∨ (ob < b ∧ b < wr.heap.size)) ∨ ((wr.alloc o).heap.size ≤ b ∧ b < w2.heap.size)) w2 (d + 2) (mapT (d + 1) acc') (.agg #[.int .i64 6, .int .i64 0, .string { data := #[] }, kv', lv'])) :
    OutAt d S ob W (set5 w2 ob 0 (.int .i64 6) (.int .i64 0) (.string { data := #[] }) kv' lv') acc' kv' lv' := by
  have hol := h.blk.lt
  have hz : (wr.alloc o).heap.size = wr.heap.size + 1 := by simp
  have hsz := hb.size
  have hblk : ∀ b, b < wr.heap.size → w2.heap[b]? = wr.heap[b]? := fun b hb' => (hb.block b (by omega)).trans (Below.heap_alloc _ _ _ hb')
  refine ⟨(h.blk.of_block (hblk ob hol)).all _ _ _ _ _, ?_, ?_⟩
  · refine ValAt.moved (fun b hb' => set5_block _ _ _ _ _ _ _ _ _ ?_) (fun b hb' => ?_) _ _ _ hu
    · rcases hb' with (hb' | hb') | hb'
      · have := hS b hb'; omega
      · have := hb'.1; omega
      · have := hb'.1; omega
    · rw [set5_size]
      rcases hb' with (hb' | hb') | hb'
      · exact Or.inl hb'
      · exact Or.inr ⟨hb'.1, by have := hb'.2; omega⟩
      · exact Or.inr ⟨by have := hb'.1; omega, hb'.2⟩
  · refine below_set5 ?_ (Nat.le_refl _) _ _ _ _ _ _
    exact ⟨hb.os.trans h.below.os, hb.tape.trans h.below.tape, hb.output.trans h.below.output, by have := h.below.size; omega, fun b hb' => (hblk b (by omega)).trans (h.below.block b hb')⟩

end Go.Proofs.YtilgbnnjecpneaaGreatDoor

/- PartAdd of the model: what stands ahead of its walk. -/
namespace Go.Proofs.YtilgbnnjecpneaaGreatDoor
open Go.RowKit Go.Deep

end Go.Proofs.YtilgbnnjecpneaaGreatDoor

/- PartAdd of the model. -/
namespace Go.Proofs.YtilgbnnjecpneaaGreatDoor
open Go.RowKit Go.Deep

end Go.Proofs.YtilgbnnjecpneaaGreatDoor

/- The laws of PartAdd: what its calls give. -/
namespace Go.Proofs.YtilgbnnjecpneaaGreatDoor
open Go.RowKit Go.Deep

end Go.Proofs.YtilgbnnjecpneaaGreatDoor

/- Keys, lengths and parts of plain trees: the facts that FnPartGet and FnPartEach ask for. -/
namespace Go.Proofs.YtilgbnnjecpneaaGreatDoor
open Go.RowKit Go.Deep

end Go.Proofs.YtilgbnnjecpneaaGreatDoor

/- Lengths and keys: the facts that FnPartLen asks for. -/
namespace Go.Proofs.YtilgbnnjecpneaaGreatDoor
open Go.RowKit Go.Deep

theorem idx_facts (q k7 : Nat) (h : q + 1 < k7) (h60 : k7 ≤ 60) : (q : Int) + 1 < (k7 : Int) ∧ (q : Int) < (k7 : Int) ∧ wrap64 ((q : Int) + 1 - 1) = (q : Int) ∧ ((q : Int) + 1).toNat = q + 1 ∧ ¬ ((q : Int) + 1 < 0) ∧ wrap64 (q : Int) = (q : Int) ∧ q < k7 ∧ (0 : Int) ≤ (q : Int) + 1 ∧ wrap64 ((q : Int) + 1 + 1) = (q : Int) + 1 + 1 ∧ (q + 1) + 1 ≤ k7 := by
  refine ⟨by omega, by omega, by unfold wrap64; omega, by omega, by omega, by unfold wrap64; omega, by omega, by omega, by unfold wrap64; omega, by omega⟩
theorem idx_meas (q k7 : Nat) (h : q + 1 < k7) : k7 + 1 - ((q : Int) + 1 + 1).toNat < k7 + 1 - ((q : Int) + 1).toNat := by omega
theorem idx_out (q k7 : Nat) (h : ¬ q + 1 < k7) : ¬ ((q : Int) + 1 < (k7 : Int)) := by omega
end Go.Proofs.YtilgbnnjecpneaaGreatDoor

/- Rows in order: facts that FnRowSort asks for. -/
namespace Go.Proofs.YtilgbnnjecpneaaGreatDoor
open Go.RowKit Go.Deep

theorem inOrd_next {α : Type} {f : α → α → Int} {xs : List α} {k : Nat} {x y : α} (h : InOrd f xs) (hx : xs[k]? = some x) (hy : xs[k + 1]? = some y) : f x y ≤ 0 := by
  obtain ⟨h1, e1⟩ := List.getElem?_eq_some_iff.1 hx
  obtain ⟨h2, e2⟩ := List.getElem?_eq_some_iff.1 hy
  have h3 := List.pairwise_iff_getElem.1 h k (k + 1) h1 h2 (by omega)
  rw [e1, e2] at h3
  exact h3
/-- How many trees of the first k are one with a tree, less those of another row. -/
def cntD {d : Nat} (x : Tr d) (xs ys : List (Tr d)) (k : Nat) : Int := (((xs.take k).countP (fun y => ordT d y x == 0) : Nat) : Int) - (((ys.take k).countP (fun y => ordT d y x == 0) : Nat) : Int)
theorem cnt_take {α : Type} {f : α → Bool} {xs : List α} {k : Nat} {x : α} (h : xs[k]? = some x) : (xs.take (k + 1)).countP f = (xs.take k).countP f + (if f x = true then 1 else 0) := by
  rw [List.take_add_one, h, List.countP_append]
  show _ + [x].countP f = _
  rw [List.countP_singleton]
theorem cntD_step {d : Nat} {x y z : Tr d} {xs ys : List (Tr d)} {k : Nat} {a b : Bool} (hy : xs[k]? = some y) (hz : ys[k]? = some z) (ha : (ordT d y x == 0) = a) (hb : (ordT d z x == 0) = b) : cntD x xs ys (k + 1) = cntD x xs ys k + (if a = true then 1 else 0) - (if b = true then 1 else 0) := by
  unfold cntD
  rw [cnt_take hy, cnt_take hz]
  show (((_ + (if (ordT d y x == 0) = true then 1 else 0) : Nat)) : Int) - (((_ + (if (ordT d z x == 0) = true then 1 else 0) : Nat)) : Int) = _
  rw [ha, hb]
  cases a <;> cases b <;> simp <;> omega
theorem cntD_end {d : Nat} {x : Tr d} {xs ys : List (Tr d)} {k : Nat} (h : ys.Perm xs) (hk : xs.length ≤ k) : cntD x xs ys k = 0 := by
  unfold cntD
  rw [List.take_of_length_le hk, List.take_of_length_le (by rw [h.length_eq]; exact hk), h.countP_eq]
  omega
theorem cntD_bd {d : Nat} (x : Tr d) (xs ys : List (Tr d)) (k : Nat) : -(k : Int) ≤ cntD x xs ys k ∧ cntD x xs ys k ≤ (k : Int) := by
  unfold cntD
  have h1 := List.countP_le_length (p := fun y => ordT d y x == 0) (l := xs.take k)
  have h2 := List.countP_le_length (p := fun y => ordT d y x == 0) (l := ys.take k)
  rw [List.length_take] at h1 h2
  omega
theorem cntD_zero {d : Nat} {x : Tr d} {xs ys : List (Tr d)} : cntD x xs ys 0 = 0 := by simp [cntD]
theorem wrap_small {n : Int} (h1 : -100 ≤ n) (h2 : n ≤ 100) : wrap64 (n + 1) = n + 1 ∧ wrap64 (n - 1) = n - 1 ∧ wrap64 (n + 1 - 1) = n ∧ wrap64 n = n := ⟨by unfold wrap64; omega, by unfold wrap64; omega, by unfold wrap64; omega, by unfold wrap64; omega⟩
theorem cnt_wrap {c : Int} {r k : Nat} (h : -(r : Int) ≤ c ∧ c ≤ (r : Int)) (h2 : r ≤ k) (h3 : k ≤ 60) : wrap64 (c + 1) = c + 1 ∧ wrap64 (c - 1) = c - 1 ∧ wrap64 (c + 1 - 1) = c ∧ wrap64 c = c := wrap_small (by omega) (by omega)
end Go.Proofs.YtilgbnnjecpneaaGreatDoor
