/- Texts of the proof, put together by program: WSameI, LDraw, LFnOrd, LFnRow0, WEq, WManyT, WManyM, LValMany, LFnMany0, WDrawK, WDrawL, WTop, WGTo, WGetP, WPutL, WPutF, WNoth. -/
import Derived.Test.YtilgbnnjecpneaaGreatDoorV20
import Derived.Test.YtilgbnnjecpneaaGreatDoorV14
import Derived.Test.YtilgbnnjecpneaaGreatDoorV16
import Derived.Test.YtilgbnnjecpneaaGreatDoorV18
import Derived.Test.YtilgbnnjecpneaaGreatDoorV1
import Derived.Test.YtilgbnnjecpneaaGreatDoorV4
import Derived.Test.YtilgbnnjecpneaaGreatDoorV5
import Derived.Test.YtilgbnnjecpneaaGreatDoorV10
import Derived.Deep.LoopGhost
import Derived.Test.YtilgbnnjecpneaaGreatDoorV6
import Derived.Deep.RegionHeld
import Derived.Test.YtilgbnnjecpneaaGreatDoorV11
import Derived.Test.YtilgbnnjecpneaaGreatDoorV12
/- ValSame of the program; the order says that two are one. -/
namespace Go.Proofs.YtilgbnnjecpneaaGreatDoor
open Go.RowKit Go.Deep

theorem Under.below {S : Nat → Prop} {w w' : World} (h : Under S w w.heap.size) (hb : Below w.heap.size w w') : Under S w' w'.heap.size := fun b hS => ⟨(h b hS).1.of_block (hb.block b (h b hS).2), Nat.lt_of_lt_of_le (h b hS).2 hb.size⟩

theorem orI_eq0 {x y : Int} : orI x y = 0 ↔ x = 0 ∧ y = 0 := by
  unfold orI
  split <;> simp_all
theorem cmpI_eq0 (a b : Int) : cmpI a b = 0 ↔ (a == b) = true := by
  unfold cmpI
  split
  · simp; omega
  · split
    · simp; omega
    · simp; omega
theorem cmpS_eq0 (a b : ByteArray) : cmpS a b = 0 ↔ (a.toList == b.toList) = true := by
  constructor
  · intro h
    unfold cmpS at h
    split at h
    · omega
    · split at h
      · assumption
      · omega
  · exact cmpS_eq
theorem ordL_strs : ∀ (xs ys : List ByteArray), ordL cmpS xs ys = 0 ↔ eqStrs xs ys = true
  | [], [] => by simp [ordL, eqStrs]
  | [], _ :: _ => by simp [ordL, eqStrs]
  | _ :: _, [] => by simp [ordL, eqStrs]
  | a :: r, b :: s => by rw [ordL, orI_eq0, cmpS_eq0, ordL_strs r s, eqStrs, Bool.and_eq_true]
theorem ordL_eqL {α : Type} {f : α → α → Int} {g : α → α → Bool} (h : ∀ a b, f a b = 0 ↔ g a b = true) : ∀ (xs ys : List α), ordL f xs ys = 0 ↔ eqL g xs ys = true
  | [], [] => by simp [ordL, eqL]
  | [], _ :: _ => by simp [ordL, eqL]
  | _ :: _, [] => by simp [ordL, eqL]
  | a :: r, b :: s => by rw [ordL, orI_eq0, h, ordL_eqL h r s, eqL, Bool.and_eq_true]
theorem ordT_eqT : ∀ (d : Nat) (a b : Tr d), ordT d a b = 0 ↔ eqT d a b = true
  | 0, _, _ => by simp [ordT, eqT]
  | d + 1, a, b => by
    have hh : headO (α := Tr d) a b = 0 ↔ ((Nd.kind a == Nd.kind b) = true ∧ (Nd.num a == Nd.num b) = true ∧ ((Nd.str a).toList == (Nd.str b).toList) = true ∧ eqStrs (Nd.keys a) (Nd.keys b) = true) := by
      show orI (cmpI (Nd.kind a) (Nd.kind b)) (orI (cmpI (Nd.num a) (Nd.num b)) (orI (cmpS (Nd.str a) (Nd.str b)) (ordL cmpS (Nd.keys a) (Nd.keys b)))) = 0 ↔ _
      rw [orI_eq0, orI_eq0, orI_eq0, cmpI_eq0, cmpI_eq0, cmpS_eq0, ordL_strs]
    rw [ordT, orI_eq0, hh, ordL_eqL (ordT_eqT d), eqT, Bool.and_eq_true, Bool.and_eq_true, Bool.and_eq_true, Bool.and_eq_true]
    constructor
    · rintro ⟨⟨h1, h2, h3, h4⟩, h5⟩
      exact ⟨h1, h2, h3, h4, h5⟩
    · rintro ⟨h1, h2, h3, h4, h5⟩
      exact ⟨⟨h1, h2, h3, h4⟩, h5⟩

set_option maxHeartbeats 1000000 in
theorem implSame_any (d : Nat) (S S' : Nat → Prop) (t t' : Tr d) (v v' : Value) (w : World) (hv : ValAt S w d t v) (hv' : ValAt S' w d t' v') (hS : Under S w w.heap.size) (hS' : Under S' w w.heap.size) (hsm : (nodes d t : Int) ≤ 4194304) :
    Calls Tryz.prog 21 #[v, v'] w fun e w' => e = .returned (.bool (eqT d t t')) ∧ Below w.heap.size w w' := by
  obtain ⟨k, n, s, ak, lk, ck, al, ll, cl, rfl⟩ := hv.shape
  obtain ⟨k', n', s', ak', lk', ck', al', ll', cl', rfl⟩ := hv'.shape
  obtain ⟨_, _, hA⟩ := two_blocks w 29 (.int .i64 k) (.int .i64 n) (.string s) (.slice ak lk ck) (.slice al ll cl) (.int .i64 k') (.int .i64 n') (.string s') (.slice ak' lk' ck') (.slice al' ll' cl')
  have hf : Hid ((ordT d t t' == 0) = eqT d t t') := by
    show (ordT d t t' == 0) = eqT d t t'
    rw [Bool.eq_iff_iff, beq_iff_eq]
    exact ordT_eqT d t t'
  go_enter Tryz.func21, Tryz.ntmps21
  go_wp2_with fail
  refine (implOrder_any d S S' t t' _ _ _ (hv.same (fun b hb => hA.block b (hS b hb).2)) (hv'.same (fun b hb => hA.block b (hS' b hb).2)) (hS.below hA) (hS'.below hA) hsm).mono ?_
  rintro e w1 ⟨rfl, hb1⟩
  have hB := below_trans hA hb1
  clear hA hb1
  go_wp2_with fail
  go_ret
  rw [← hf.out]
  exact ⟨rfl, hB⟩

end Go.Proofs.YtilgbnnjecpneaaGreatDoor

/- What the laws draw: two trees. -/
namespace Go.Proofs.YtilgbnnjecpneaaGreatDoor
open Go.RowKit Go.Deep

end Go.Proofs.YtilgbnnjecpneaaGreatDoor

/- FnValOrder: for all bytes that lie in memory the law answers true. -/
namespace Go.Proofs.YtilgbnnjecpneaaGreatDoor
open Go.RowKit Go.Deep

/-- What stands when three trees are drawn: their cells, in variables; the trees themselves, in plain new blocks. -/
structure Three (w wX : World) (A B C : Nat) (a0 a1 a2 a3 a4 b0 b1 b2 b3 b4 c0 c1 c2 c3 c4 : Value) (ta tb tc : Tr 11) : Prop where
  ka : Blk5 wX A 29 a0 a1 a2 a3 a4
  kb : Blk5 wX B 29 b0 b1 b2 b3 b4
  kc : Blk5 wX C 29 c0 c1 c2 c3 c4
  va : ValAt (FreshP w wX) wX 11 ta (.agg #[a0, a1, a2, a3, a4])
  vb : ValAt (FreshP w wX) wX 11 tb (.agg #[b0, b1, b2, b3, b4])
  vc : ValAt (FreshP w wX) wX 11 tc (.agg #[c0, c1, c2, c3, c4])
  sa : wtT 11 ta ≤ 1000
  sb : wtT 11 tb ≤ 1000
  sc : wtT 11 tc ≤ 1000
  below : Below w.heap.size w wX

theorem freshP_go {w wX wY : World} {d : Nat} {t : Tr d} {u : Value} (h : ValAt (FreshP w wX) wX d t u) (hb : Below wX.heap.size wX wY) : ValAt (FreshP w wY) wY d t u := by
  have hs : Same (FreshP w wX) wX wY := fun b hb' => hb.block b hb'.1.2
  exact ValAt.moved hs (fun b hb' => ⟨⟨hb'.1.1, Nat.lt_of_lt_of_le hb'.1.2 hb.size⟩, hb'.2.of_block (hs b hb')⟩) d t u h
theorem Three.go {w wX wY : World} {A B C : Nat} {a0 a1 a2 a3 a4 b0 b1 b2 b3 b4 c0 c1 c2 c3 c4 : Value} {ta tb tc : Tr 11} (h : Three w wX A B C a0 a1 a2 a3 a4 b0 b1 b2 b3 b4 c0 c1 c2 c3 c4 ta tb tc) (hb : Below wX.heap.size wX wY) : Three w wY A B C a0 a1 a2 a3 a4 b0 b1 b2 b3 b4 c0 c1 c2 c3 c4 ta tb tc :=
  ⟨h.ka.below hb, h.kb.below hb, h.kc.below hb, freshP_go h.va hb, freshP_go h.vb hb, freshP_go h.vc hb, h.sa, h.sb, h.sc, below_trans h.below hb⟩
theorem under_P {w wX : World} : Under (FreshP w wX) wX wX.heap.size := fun _ h => ⟨h.2, h.1.2⟩
theorem within_P {w wX : World} : Within (FreshP w wX) wX := fun _ h => h.1.2

end Go.Proofs.YtilgbnnjecpneaaGreatDoor

/- FnValRow: rows of drawn trees, and how they stand. -/
namespace Go.Proofs.YtilgbnnjecpneaaGreatDoor
open Go.RowKit Go.Deep

theorem ordI_at {d : Nat} {w W : World} {t t' : Tr d} {v v' : Value} (h : ValAt (FreshP w W) W d t v) (h' : ValAt (FreshP w W) W d t' v') (hs : wtT d t ≤ 10000) : Calls Tryz.prog 23 #[v, v'] W fun e w' => e = .returned (.int .i64 (ordT d t t')) ∧ Below W.heap.size W w' :=
  implOrder_any d _ _ t t' v v' W h h' under_P under_P (by have := nodes_wt' d t; omega)
theorem samI_at {d : Nat} {w W : World} {t t' : Tr d} {v v' : Value} (h : ValAt (FreshP w W) W d t v) (h' : ValAt (FreshP w W) W d t' v') (hs : wtT d t ≤ 10000) : Calls Tryz.prog 21 #[v, v'] W fun e w' => e = .returned (.bool (ordT d t t' == 0)) ∧ Below W.heap.size W w' := by
  have e : eqT d t t' = (ordT d t t' == 0) := by rw [Bool.eq_iff_iff, beq_iff_eq]; exact (ordT_eqT d t t').symm
  rw [← e]
  exact implSame_any d _ _ t t' v v' W h h' under_P under_P (by have := nodes_wt' d t; omega)

end Go.Proofs.YtilgbnnjecpneaaGreatDoor

/- eqStringS, eqVal, eqValS: two trees are one. -/
namespace Go.Proofs.YtilgbnnjecpneaaGreatDoor
open Go.RowKit Go.Deep
end Go.Proofs.YtilgbnnjecpneaaGreatDoor

/- many: how many parts one of the program's own trees has. -/
namespace Go.Proofs.YtilgbnnjecpneaaGreatDoor
open Go.RowKit Go.Deep

end Go.Proofs.YtilgbnnjecpneaaGreatDoor

/- many: maps, and all of them together. -/
namespace Go.Proofs.YtilgbnnjecpneaaGreatDoor
open Go.RowKit Go.Deep

theorem OneOff.below {r B : Nat} {a w w' : World} (h : Below B a w) (k : OneOff r w w') (hr : B ≤ r) : Below B a w' :=
  h.trans ⟨k.os, k.tape, k.output, by rw [k.size]; exact Nat.le_refl _, fun i hi => k.block i (by omega)⟩

end Go.Proofs.YtilgbnnjecpneaaGreatDoor

/- FnExactValMany: for every tree that lies in memory the law answers true. -/
namespace Go.Proofs.YtilgbnnjecpneaaGreatDoor
open Go.RowKit Go.Deep

end Go.Proofs.YtilgbnnjecpneaaGreatDoor

/- FnValMany: how many parts there are. -/
namespace Go.Proofs.YtilgbnnjecpneaaGreatDoor
open Go.RowKit Go.Deep

end Go.Proofs.YtilgbnnjecpneaaGreatDoor

/- What the laws of chapter 2 draw: a tree, beside a key or a place. -/
namespace Go.Proofs.YtilgbnnjecpneaaGreatDoor
open Go.RowKit Go.Deep

end Go.Proofs.YtilgbnnjecpneaaGreatDoor

/- What the laws of chapter 2 draw: two trees, with a key or a place between. -/
namespace Go.Proofs.YtilgbnnjecpneaaGreatDoor
open Go.RowKit Go.Deep

/-- Plain blocks from lo on, but for one. -/
def FreshZ (lo vb : Nat) (w : World) (b : Nat) : Prop := lo ≤ b ∧ b < w.heap.size ∧ Plain w b ∧ b ≠ vb
theorem FreshZ.but {lo vb r d : Nat} {w w' : World} {t : Tr d} {u : Value} (h : ValAt (FreshZ lo vb w) w d t u) (hb : But r w w') (hr : r < lo) : ValAt (FreshZ lo vb w') w' d t u := by
  have hs : Same (FreshZ lo vb w) w w' := fun b hb' => hb.block b hb'.2.1 (fun e => by have := hb'.1; cases e; omega)
  exact ValAt.moved hs (fun b hb' => ⟨hb'.1, Nat.lt_of_lt_of_le hb'.2.1 hb.size, hb'.2.2.1.of_block (hs b hb'), hb'.2.2.2⟩) d t u h
theorem FreshZ.turn {lo vb d : Nat} {w w' : World} {t : Tr d} {u : Value} (h : ValAt (FreshZ lo vb w) w d t u) (ht : Turn (fun b => b = vb) w w') : ValAt (FreshZ lo vb w') w' d t u := by
  have hs : Same (FreshZ lo vb w) w w' := fun b hb' => ht.block b hb'.2.1 (fun e => hb'.2.2.2 e)
  exact ValAt.moved hs (fun b hb' => ⟨hb'.1, Nat.lt_of_lt_of_le hb'.2.1 ht.size, hb'.2.2.1.of_block (hs b hb'), hb'.2.2.2⟩) d t u h
theorem FreshZ.new {lo vb d : Nat} {wA wB : World} {t : Tr d} {u : Value} (h : ValAt (FreshP wA wB) wB d t u) (hl : lo ≤ wA.heap.size) (hv : vb < wA.heap.size) : ValAt (FreshZ lo vb wB) wB d t u :=
  h.mono (fun b hb => ⟨Nat.le_trans hl hb.1.1, hb.1.2, hb.2, by have := hb.1.1; omega⟩)

/-- What stands while the first tree is drawn anew. -/
structure PutL (w wr : World) (r lo vb p : Nat) (c0 c1 c2 c3 c4 : Value) (t : Tr 10) : Prop where
  var : Blk5 wr vb 29 c0 c1 c2 c3 c4
  r1 : Blk5 wr w.heap.size 29 (.int .i64 0) (.int .i64 0) (.string { data := #[] }) (.slice none 0 0) (.slice none 0 0)
  r2 : Blk5 wr (w.heap.size + 1) 29 (.int .i64 0) (.int .i64 0) (.string { data := #[] }) (.slice none 0 0) (.slice none 0 0)
  rd : Rd wr r p
  val : ValAt (FreshZ lo vb wr) wr 10 t (.agg #[c0, c1, c2, c3, c4])
  wt : wtT 10 t ≤ 360
  bel : Below w.heap.size w wr
  hr : w.heap.size + 1 < r
  hlo : r < lo
  hvb : lo ≤ vb

theorem PutL.but {w wr wX : World} {r lo vb p p' : Nat} {c0 c1 c2 c3 c4 : Value} {t : Tr 10} (h : PutL w wr r lo vb p c0 c1 c2 c3 c4 t) (hb : But r wr wX) (hR : Rd wX r p') : PutL w wX r lo vb p' c0 c1 c2 c3 c4 t :=
  ⟨h.var.butr hb (by have := h.hlo; have := h.hvb; omega), h.r1.butr hb (by have := h.hr; omega), h.r2.butr hb (by have := h.hr; omega), hR, FreshZ.but h.val hb h.hlo, h.wt, but_below h.bel hb (by have := h.hr; omega) h.bel.size, h.hr, h.hlo, h.hvb⟩

/-- Another tree in the variable. -/
theorem PutL.next {w wr wX wF : World} {r lo vb p p' : Nat} {c0 c1 c2 c3 c4 u0 u1 u2 u3 u4 : Value} {t t' : Tr 10} (h : PutL w wr r lo vb p c0 c1 c2 c3 c4 t) (hb : But r wr wX) (hR : Rd wX r p') (hv : ValAt (FreshP wr wX) wX 10 t' (.agg #[u0, u1, u2, u3, u4])) (hw : wtT 10 t' ≤ 360)
    (hF : wF = set5 wX vb 0 u0 u1 u2 u3 u4) : PutL w wF r lo vb p' u0 u1 u2 u3 u4 t' := by
  have h' := h.but hb hR
  have h1 := h.hr
  have h2 := h.hlo
  have h3 := h.hvb
  have hs : ∀ b, b ≠ vb → wF.heap[b]? = wX.heap[b]? := fun b hb' => by rw [hF]; exact set5_block _ _ _ _ _ _ _ _ _ hb'
  have hz : wF.heap.size = wX.heap.size := by rw [hF]; exact set5_size _ _ _ _ _ _ _ _
  have hl : Below w.heap.size w wF := by rw [hF]; exact below_set5 h'.bel (by omega) _ _ _ _ _ _
  have hl2 : Below vb wX wF := by rw [hF]; exact below_set5 (Below.refl _ _) (Nat.le_refl _) _ _ _ _ _ _
  have ht : Turn (fun b => b = vb) wX wF := ⟨hl2.os, hl2.tape, hl2.output, hl2.size, fun b _ hn => hs b hn⟩
  refine ⟨?_, h'.r1.of_block (hs _ (by omega)), h'.r2.of_block (hs _ (by omega)), ?_, FreshZ.turn (FreshZ.new hv (Nat.le_trans h3 (Nat.le_of_lt h.var.lt)) h.var.lt) ht, hw, hl, h1, h2, h3⟩
  · rw [hF]; exact blk_set5 h'.var _ _ _ _ _
  · obtain ⟨a, n, cap, e1, e2, e3⟩ := hR
    exact ⟨a, n, cap, (hs r (by omega)).trans e1, e2, e3.moved (fun b hb' => hs b (by omega))⟩

end Go.Proofs.YtilgbnnjecpneaaGreatDoor

/- treeOf, given: what is topmost owns its memory. -/
namespace Go.Proofs.YtilgbnnjecpneaaGreatDoor
open Go.RowKit Go.Deep

theorem TopOwn.moved {d N M : Nat} {w w' : World} {t : Nd (Tr d)} {u : Value} (h : TopOwn N w t u) (hb : Below w.heap.size w w') (hM : M ≤ N) : TopOwn M w' t u := by
  refine ⟨fun h5 => ?_, fun h6 => ?_⟩
  · obtain ⟨sv, vs, e, ht⟩ := h.1 h5
    exact ⟨sv, vs, e, ht.moved hb hM⟩
  · obtain ⟨r, es, e, h1, h2, h3, hm⟩ := h.2 h6
    have hz := hb.size
    exact ⟨r, es, e, by omega, by omega, (hb.block r h2).trans h3, hm.moved (fun x u hx => TreeAt.moved (fun b hb' => hb.block b hb'.2.1) (fun b hb' => ⟨by have := hb'.1; omega, by have := hb'.2.1; omega, hb'.2.2⟩) d x u hx)⟩

set_option maxHeartbeats 1000000 in
theorem treeOf_own (d : Nat) (S : Nat → Prop) (t : Nd (Tr d)) (v : Value) (w : World) (hv : ValAt S w (d + 1) t v) (hS : Within S w) :
    Calls Tryz.prog 77 #[v] w fun e w' => ∃ u, e = .returned (.tuple #[u, .bool (treeP (d + 1) t 60 1).1]) ∧ ((treeP (d + 1) t 60 1).1 = true → TreeAt (Fresh w w') w' (d + 1) t u ∧ TopOwn w.heap.size w' t u) ∧ Below w.heap.size w w' := by
  obtain ⟨k, n, s, ak, lk, ck, al, ll, cl, rfl⟩ := hv.shape
  have hA : Below w.heap.size w ((w.alloc (.cells #[.int .i64 k, .int .i64 n, .string s, .slice ak lk ck, .slice al ll cl] 29)).alloc (.cells #[.int .i64 60] 136)) := below_trans (below_alloc1 _ _) (below_alloc1 _ _)
  have hr : Room ((w.alloc (.cells #[.int .i64 k, .int .i64 n, .string s, .slice ak lk ck, .slice al ll cl] 29)).alloc (.cells #[.int .i64 60] 136)) (w.heap.size + 1) 60 := by
    have := heap_alloc_new (w.alloc (.cells #[.int .i64 k, .int .i64 n, .string s, .slice ak lk ck, .slice al ll cl] 29)) (.cells #[.int .i64 60] 136)
    simpa [Room] using this
  go_enter Tryz.func77, Tryz.ntmps77
  go_wp2_with fail
  refine (tree_own d S t _ 60 1 (w.heap.size + 1) _ (hv.same (hS.same hA)) (hS.later hA.size) (fun h => by have := hS _ h; omega) hr (by omega) (by omega) (by omega) (by omega)).mono ?_
  rintro e w1 ⟨u, rfl, hu, _, hb1⟩
  have HB : Hid (Below w.heap.size w w1) := by
    refine ⟨hb1.os.trans hA.os, hb1.tape.trans hA.tape, hb1.output.trans hA.output, Nat.le_trans hA.size hb1.size, fun i hi => ?_⟩
    exact (hb1.block i (Nat.lt_of_lt_of_le hi hA.size) (fun e => by cases e; omega)).trans (hA.block i hi)
  have hin : ∀ b, Fresh ((w.alloc (.cells #[.int .i64 k, .int .i64 n, .string s, .slice ak lk ck, .slice al ll cl] 29)).alloc (.cells #[.int .i64 60] 136)) w1 b → Fresh w w1 b := fun b hb => ⟨Nat.le_trans hA.size hb.1, hb.2⟩
  have HU : Hid ((treeP (d + 1) t 60 1).1 = true → TreeAt (Fresh w w1) w1 (d + 1) t u ∧ TopOwn w.heap.size w1 t u) := fun h => ⟨TreeAt.moved (Same.refl _ _) hin (d + 1) t u (hu h).1, (hu h).2.moved (Below.refl _ _) hA.size⟩
  clear hu hb1 hr hA hv hin
  go_wp2_with fail
  go_ret2
  exact ⟨u, rfl, HU.out, HB.out⟩


/-- A tree whose topmost list or map is its own, or why there is none. -/
def GivenQ (d : Nat) (t : Nd (Tr d)) (w : World) (e : Ending) (w' : World) : Prop :=
  Below w.heap.size w w' ∧ ((okT (d + 1) t = true ∧ ∃ u, e = .returned (.tuple #[u, .nilIface]) ∧ TreeG (Fresh w w') w' (d + 1) t u ∧ TopOwn w.heap.size w' t u) ∨ (okT (d + 1) t = false ∧ ∃ why, e = .returned (.tuple #[.nilIface, faultV why])))

set_option maxRecDepth 100000 in
set_option maxHeartbeats 1000000 in
theorem given_own (d : Nat) (S : Nat → Prop) (t : Nd (Tr d)) (v : Value) (w : World) (hv : ValAt S w (d + 1) t v) (hS : Within S w) :
    Calls Tryz.prog 54 #[v] w (GivenQ d t w) := by
  obtain ⟨k, n, s, ak, lk, ck, al, ll, cl, rfl⟩ := hv.shape
  have hA := below_alloc1 w (.cells #[.int .i64 k, .int .i64 n, .string s, .slice ak lk ck, .slice al ll cl] 29)
  go_enter Tryz.func54, Tryz.ntmps54
  go_wp2_with fail
  refine (treeOf_own d S t _ _ (hv.same (hS.same hA)) (hS.later hA.size)).mono ?_
  rintro e w1 ⟨u, rfl, hu, hb1⟩
  have hpo : (treeP (d + 1) t 60 1).1 = okT (d + 1) t := treeP_okT (d := d + 1) (t := t)
  rw [hpo] at hu ⊢
  have HB := hide (below_trans hA hb1)
  have hsz := hA.size
  cases hf : okT (d + 1) t with
  | false =>
    clear hu hb1 hA hv
    go_wp2_with fail
    go_ret2
    exact ⟨HB.out, Or.inr ⟨hf, _, rfl⟩⟩
  | true =>
    have hG : TreeG (Fresh w w1) w1 (d + 1) t u := (treeG_of (d + 1) t 6 u (okT_form hf).1 (okT_form hf).2 (hu hf).1).mono (fun b hb => ⟨by have := hb.1; omega, hb.2⟩)
    obtain ⟨T, u', rfl⟩ := hG.iface
    have HG := hide hG
    have HO := hide ((hu hf).2.moved (Below.refl _ _) hA.size)
    clear hu hb1 hA hv hG
    go_wp2_with fail
    go_ret2
    exact ⟨HB.out, Or.inl ⟨hf, _, rfl, HG.out, HO.out⟩⟩

end Go.Proofs.YtilgbnnjecpneaaGreatDoor

/- A row of the program's own trees that owns its memory. -/
namespace Go.Proofs.YtilgbnnjecpneaaGreatDoor
open Go.RowKit Go.Deep

/-- A row as a tree. -/
def rowT (d : Nat) (xs : List (Tr d)) : Tr (d + 1) := (Nd.mk 5 0 ByteArray.empty [] xs : Nd (Tr d))
/-- A row of the program's own trees that owns its memory: its trees lie in blocks from N on, not in the row's own. -/
def GTo {d : Nat} (N : Nat) (w : World) (sv : Value) (xs : List (Tr d)) (vs : List Value) : Prop :=
  w.ownsRow N 64 1 sv xs.length vs ∧ ∀ (j : Nat) (x : Tr d) (u : Value), xs[j]? = some x → vs[j]? = some u → TreeG (Aside N w sv) w d x u

theorem gto_of {d N : Nat} {w : World} {sv : Value} {xs : List (Tr d)} {vs : List Value} (h : TreesTo N w sv xs xs.length vs) (hf : ∀ x ∈ xs, formT d x 5 = true ∧ manyT d x 5 ≤ 60) : GTo N w sv xs vs :=
  ⟨h.1, fun j x u hx hu => treeG_of d x 5 u (hf x (List.mem_of_getElem? hx)).1 (hf x (List.mem_of_getElem? hx)).2 (h.2 j x u (List.getElem?_eq_some_iff.1 hx).1 hx hu)⟩
theorem okT_row {d : Nat} {xs : List (Tr d)} (h : okT (d + 1) (Nd.mk 5 0 ByteArray.empty [] xs : Nd (Tr d)) = true) : ∀ x ∈ xs, formT d x 5 = true ∧ manyT d x 5 ≤ 60 := by
  obtain ⟨hf, hm⟩ := okT_form h
  have hmm : manyT (d + 1) (Nd.mk 5 0 ByteArray.empty [] xs : Nd (Tr d)) 6 = 1 + (xs.map (fun x => manyT d x (6 - 1))).sum := rfl
  rw [hmm] at hm
  cases hb : headBad 5 0 ByteArray.empty ([] : List ByteArray).length xs.length 6 with
  | true => rw [formT_bad hb] at hf; cases hf
  | false =>
    rw [formT_good hb] at hf
    have hall : xs.all (fun x => formT d x (6 - 1)) = true := by simpa using hf
    intro x hx
    have h1 := many_mem (d := d) (deep := 6 - 1) hx
    exact ⟨List.all_eq_true.1 hall x hx, by have h2 : manyT d x 5 = manyT d x (6 - 1) := rfl; omega⟩

/-- The trees of a row, wherever it lies. -/
theorem GTo.row {d N : Nat} {w : World} {sv : Value} {xs : List (Tr d)} {vs : List Value} (h : GTo N w sv xs vs) (hl : xs.length < 17592186044416) : Row1At (fun b => N ≤ b ∧ b < w.heap.size) w (TreeG (fun b => N ≤ b ∧ b < w.heap.size) w d) sv xs := by
  obtain ⟨h1, h2⟩ := h
  refine ⟨hl, ?_⟩
  have hlen := h1.1
  rw [Nat.mul_one] at hlen
  rcases h1.2 with ⟨rfl, h0⟩ | ⟨g, cap, cur, rfl, hg, hh, _, _, _, _⟩
  · exact ⟨none, 0, by rw [h0], Or.inl (List.eq_nil_of_length_eq_zero h0)⟩
  · refine ⟨some ⟨g, 0, none⟩, cap, rfl, Or.inr ⟨g, 0, ⟨by omega, (Array.getElem?_eq_some_iff.1 hh).1⟩, rfl, fun i x hx => ?_⟩⟩
    have hi := (List.getElem?_eq_some_iff.1 hx).1
    have hvi : vs[i]? = some vs[i] := List.getElem?_eq_getElem (by omega)
    have hc := h1.cells (g := g) rfl i _ hvi
    have hadd : (⟨g, 0, none⟩ : Addr).add i = ⟨g, 0 + i, none⟩ := by unfold Addr.add; split <;> simp_all
    rw [hadd] at hc
    exact ⟨vs[i], hc, (h2 i x _ hx hvi).mono (fun b hb => ⟨hb.1, hb.2.1⟩)⟩

end Go.Proofs.YtilgbnnjecpneaaGreatDoor

/- What lies at a key. -/
namespace Go.Proofs.YtilgbnnjecpneaaGreatDoor
open Go.RowKit Go.Deep

/-- What lies at a key, of keys and what lies at them. -/
def getL {α : Type} : List ByteArray → List α → ByteArray → Option α
  | k :: ks, x :: xs, s => if (k == s) = true then some x else getL ks xs s
  | _, _, _ => none
theorem getL_at {α : Type} {s : ByteArray} : ∀ {ks : List ByteArray} {xs : List α} {k : Nat} {x : α}, ks[k]? = some s → xs[k]? = some x → (∀ j, j < k → ks[j]? ≠ some s) → getL ks xs s = some x
  | [], _, _, _, h, _, _ => by simp at h
  | _ :: _, [], _, _, _, h, _ => by simp at h
  | a :: ks, y :: xs, 0, x, h, h', _ => by
    simp at h h'
    subst h h'
    rw [getL, if_pos ((MapKept.bytes_beq a a).2 rfl)]
  | a :: ks, y :: xs, k + 1, x, h, h', hn => by
    rw [getL, if_neg (fun e => hn 0 (by omega) (by rw [(MapKept.bytes_beq a s).1 e]; rfl))]
    exact getL_at (by simpa using h) (by simpa using h') (fun j hj => by have := hn (j + 1) (by omega); simpa using this)
theorem getL_miss {α : Type} {s : ByteArray} : ∀ {ks : List ByteArray} {xs : List α}, s ∉ ks → getL ks xs s = none
  | [], _, _ => by rw [getL]; intro _ _ _ _ h; cases h
  | _ :: _, [], _ => by rw [getL]; intro _ _ _ _ _ h; cases h
  | a :: ks, y :: xs, hn => by
    rw [getL, if_neg (fun e => hn (by rw [(MapKept.bytes_beq a s).1 e]; simp))]
    exact getL_miss (fun h => hn (by simp [h]))
/-- A key that is there. -/
theorem key_at {α : Type} {s : ByteArray} : ∀ {ks : List ByteArray} {xs : List α}, s ∈ ks → ks.length = xs.length → ∃ (k : Nat) (x : α), ks[k]? = some s ∧ xs[k]? = some x ∧ (∀ j, j < k → ks[j]? ≠ some s)
  | [], _, h, _ => by cases h
  | _ :: _, [], _, h => by simp at h
  | a :: ks, y :: xs, h, hl => by
    by_cases e : a = s
    · subst e
      exact ⟨0, y, rfl, rfl, fun j hj => by omega⟩
    · obtain ⟨k, x, h1, h2, h3⟩ := key_at (ks := ks) (xs := xs) (by simpa [Ne.symm e] using h) (by simpa using hl)
      refine ⟨k + 1, x, by simpa using h1, by simpa using h2, fun j hj => ?_⟩
      cases j with
      | zero => intro h; simp at h; exact e h
      | succ j => have := h3 j (by omega); simpa using this
end Go.Proofs.YtilgbnnjecpneaaGreatDoor

/- Keys and trees, one more put at its place. -/
namespace Go.Proofs.YtilgbnnjecpneaaGreatDoor
open Go.RowKit Go.Deep

/-- Keys and what lies at them, in order, when x is put at key s. -/
def putL {α : Type} : List ByteArray → List α → ByteArray → α → List (ByteArray × α)
  | k :: ks, y :: ys, s, x => if ltB k s = true then (k, y) :: putL ks ys s x else if (k == s) = true then (s, x) :: ks.zip ys else (s, x) :: (k, y) :: ks.zip ys
  | [], _, s, x => [(s, x)]
  | _ :: _, [], s, x => [(s, x)]

theorem ltB_total {a b : ByteArray} (h : ltB a b = false) (hn : (a == b) = false) : ltB b a = true := by
  have ht := bytesLess_total a.toList b.toList
  unfold ltB at h ⊢
  have hne : (a.toList == b.toList) = false := by
    cases hb : (a.toList == b.toList)
    · rfl
    · have e := beq_iff_eq.1 hb
      rw [ByteArray.toList_eq, ByteArray.toList_eq] at e
      have : a = b := by
        cases a with
        | mk a =>
          cases b with
          | mk b =>
            have e : a.toList = b.toList := e
            cases a; cases b
            simp at e
            rw [e]
      rw [(MapKept.bytes_beq a b).2 this] at hn
      cases hn
  rw [h, hne] at ht
  simpa using ht.symm
theorem ltB_ne {a b : ByteArray} (h : ltB a b = true) : a ≠ b := fun e => by
  subst e
  have := bytesLess_irrefl a.toList
  unfold ltB at h
  rw [h] at this
  cases this

theorem zip_cons {α : Type} (k : ByteArray) (ks : List ByteArray) (y : α) (ys : List α) : (k :: ks).zip (y :: ys) = (k, y) :: ks.zip ys := rfl
theorem putL_length {α : Type} : ∀ (ks : List ByteArray) (xs : List α) (s : ByteArray) (x : α), (putL ks xs s x).length ≤ ks.length + 1
  | [], _, _, _ => by rw [putL]; simp
  | _ :: _, [], _, _ => by rw [putL]; simp
  | k :: ks, y :: ys, s, x => by
    have := putL_length ks ys s x
    rw [putL]
    split
    · simp; omega
    · split
      · simp; omega
      · simp; omega

/-- A key that is new comes in at its place. -/
theorem putL_new {α : Type} : ∀ {ks : List ByteArray} {xs : List α} {s : ByteArray} {x : α}, ks.length = xs.length → s ∉ ks → ((ks.zip xs) ++ [(s, x)]).Perm (putL ks xs s x)
  | [], [], _, _, _, _ => by rw [putL]; exact List.Perm.refl _
  | [], _ :: _, _, _, h, _ => by simp at h
  | _ :: _, [], _, _, h, _ => by simp at h
  | k :: ks, y :: ys, s, x, h, hn => by
    have hks : (k == s) = false := by
      cases hb : (k == s)
      · rfl
      · exact absurd (by rw [(MapKept.bytes_beq k s).1 hb]; simp) hn
    rw [putL, zip_cons, List.cons_append]
    split
    · exact List.Perm.cons _ (putL_new (by simpa using h) (fun hm => hn (by simp [hm])))
    · rw [if_neg (by rw [hks]; simp)]
      have hp := List.perm_middle (l₁ := (k, y) :: ks.zip ys) (l₂ := []) (a := (s, x))
      rw [List.append_nil] at hp
      exact hp

/-- A key that is there keeps its place. -/
theorem putL_there {α : Type} {s : ByteArray} {x : α} : ∀ {ks : List ByteArray} {xs : List α} {p : Option ByteArray} {j : Nat}, ks.length = xs.length → keysGo p ks = true → ks[j]? = some s → putL ks xs s x = (ks.zip xs).set j (s, x)
  | [], _, _, _, _, _, h => by simp at h
  | _ :: _, [], _, _, h, _, _ => by simp at h
  | k :: ks, y :: ys, p, 0, _, _, hj => by
    simp at hj
    subst hj
    rw [putL, if_neg (by have := bytesLess_irrefl k.toList; unfold ltB; rw [this]; simp), if_pos ((MapKept.bytes_beq k k).2 rfl)]
    rfl
  | k :: ks, y :: ys, p, j + 1, h, hk, hj => by
    have hj' : ks[j]? = some s := by simpa using hj
    have hgo : keysGo (some k) ks = true := by
      cases p with
      | none => simp only [keysGo, Bool.and_eq_true] at hk; exact hk.2
      | some q => simp only [keysGo, Bool.and_eq_true] at hk; exact hk.2.2
    rw [putL, if_pos (keysGo_all ks k hgo s (List.mem_of_getElem? hj')), zip_cons, List.set_cons_succ, putL_there (by simpa using h) hgo hj']

/-- The keys stay in order. -/
theorem putL_keys {α : Type} {s : ByteArray} {x : α} (hs : strOk s = true) : ∀ {ks : List ByteArray} {xs : List α} {p : Option ByteArray}, ks.length = xs.length → keysGo p ks = true → (∀ q, p = some q → ltB q s = true) → keysGo p ((putL ks xs s x).map Prod.fst) = true
  | [], _, none, _, _, _ => by rw [putL]; simp [keysGo, hs]
  | [], _, some q, _, _, hq => by rw [putL]; simp [keysGo, hs, hq q rfl]
  | _ :: _, [], _, h, _, _ => by simp at h
  | k :: ks, y :: ys, p, h, hk, hq => by
    have hlen : ks.length = ys.length := by simpa using h
    have hgo : strOk k = true ∧ keysGo (some k) ks = true ∧ (∀ q, p = some q → ltB q k = true) := by
      cases p with
      | none =>
        simp only [keysGo, Bool.and_eq_true] at hk
        exact ⟨hk.1, hk.2, fun q e => by cases e⟩
      | some q =>
        simp only [keysGo, Bool.and_eq_true] at hk
        exact ⟨hk.1, hk.2.2, fun q' e => by cases e; exact hk.2.1⟩
    have hfirst : ∀ (a : ByteArray) (r : List ByteArray), strOk a = true → (∀ q, p = some q → ltB q a = true) → keysGo (some a) r = true → keysGo p (a :: r) = true := fun a r h1 h2 h3 => by
      cases p with
      | none => simp [keysGo, h1, h3]
      | some q => simp [keysGo, h1, h2 q rfl, h3]
    rw [putL]
    split
    · rename_i hlt
      rw [List.map_cons]
      exact hfirst _ _ hgo.1 hgo.2.2 (putL_keys hs hlen hgo.2.1 (fun q e => by cases e; exact hlt))
    · rename_i hlt
      split
      · rename_i he
        have := (MapKept.bytes_beq k s).1 he
        subst this
        rw [List.map_cons, zip_fst _ _ hlen]
        exact hfirst _ _ hgo.1 hgo.2.2 hgo.2.1
      · rename_i he
        rw [List.map_cons, List.map_cons, zip_fst _ _ hlen]
        refine hfirst _ _ hs hq ?_
        have hsk : ltB s k = true := ltB_total (by simpa using hlt) (by simpa using he)
        simp [keysGo, hgo.1, hsk, hgo.2.1]

/-- A map as a tree. -/
def mapT (d : Nat) (ps : List (ByteArray × Tr d)) : Tr (d + 1) := (Nd.mk 6 0 ByteArray.empty (ps.map Prod.fst) (ps.map Prod.snd) : Nd (Tr d))
theorem zip_unzip {α : Type} : ∀ ps : List (ByteArray × α), (ps.map Prod.fst).zip (ps.map Prod.snd) = ps
  | [] => rfl
  | (k, x) :: r => by rw [List.map_cons, List.map_cons, zip_cons, zip_unzip r]
end Go.Proofs.YtilgbnnjecpneaaGreatDoor

/- What the loop of l2Put does, as a plain function. -/
namespace Go.Proofs.YtilgbnnjecpneaaGreatDoor

theorem bytes_ne {a b : ByteArray} (h : a ≠ b) : (a == b) = false := by
  cases hb : (a == b)
  · rfl
  · exact absurd ((MapKept.bytes_beq a b).1 hb) h
theorem bytes_self (a : ByteArray) : (a == a) = true := (MapKept.bytes_beq a a).2 rfl

theorem keysGo_tail {p : Option ByteArray} {k : ByteArray} {ks : List ByteArray} (h : keysGo p (k :: ks) = true) : keysGo (some k) ks = true := by
  cases p with
  | none => simp only [keysGo, Bool.and_eq_true] at h; exact h.2
  | some q => simp only [keysGo, Bool.and_eq_true] at h; exact h.2.2
end Go.Proofs.YtilgbnnjecpneaaGreatDoor

/- isNothing. -/
namespace Go.Proofs.YtilgbnnjecpneaaGreatDoor
open Go.RowKit Go.Deep

end Go.Proofs.YtilgbnnjecpneaaGreatDoor
