/- Texts of the proof, put together by program: WMarkT, WMark, WHeld, WCopyP, WCopyQ. -/
import Derived.Test.YtohdpgclokgohaaGreatDoorP5
import Derived.Laws.IdiomStrings
import Derived.Test.YtohdpgclokgohaaGreatDoorP4
import Derived.Test.YtohdpgclokgohaaGreatDoorP7
import Derived.Deep.RegionHeld3
import Derived.Deep.RegionLaw
import Derived.Deep.DeepCutAuto
import Derived.Deep.AppendLies
/- markText: the text of a mark. -/
namespace Go.Proofs.YtohdpgclokgohaaGreatDoor
open Go.RowKit Go.Deep

theorem digit_string (m : Nat) (w : World) : (convert 22 9 (.slice (some ⟨w.heap.size, 0, none⟩) 1 1)).run Tryz.prog (w.alloc (.cells #[.int .u8 (48 + (m : Int) % 10)] 5)) =
    .ok (.string ⟨#[dg m]⟩) (w.alloc (.cells #[.int .u8 (48 + (m : Int) % 10)] 5)) := by
  refine run_convert_bytes_back (P := Tryz.prog) (w.alloc (.cells #[.int .u8 (48 + (m : Int) % 10)] 5)) 22 9 5 ⟨w.heap.size, 0, none⟩ 1 [dg m] Tryz.underlying22 Tryz.underlying5 Tryz.underlying9 (fun j hj => ?_)
  obtain rfl : j = 0 := by simpa using hj
  have h0 : (⟨w.heap.size, 0, none⟩ : Addr).add 0 = ⟨w.heap.size, 0, none⟩ := by simp [Addr.add]
  rw [h0]
  simp [dg_nat]

end Go.Proofs.YtohdpgclokgohaaGreatDoor

/- markStringS, markValS, markVal: marks are written into a tree that owns its memory. -/
namespace Go.Proofs.YtohdpgclokgohaaGreatDoor
open Go.RowKit Go.Deep

/-- The row as it is when the first m things have their marks. -/
structure MarkTo {d : Nat} (b n : Nat) (P : Nat → Nat → Prop) (xs : List (Tr d)) (k : Nat) (w : World) (m : Nat) (g : Nat → Value) : Prop where
  row : w.rowIs b 26 n g
  done : ∀ j x, j < m → xs[j]? = some x → ValOwn w d (P j) (markT d x (markTo (markT d) xs k j)).1 (.agg #[g (j * 5), g (j * 5 + 1), g (j * 5 + 2), g (j * 5 + 3), g (j * 5 + 4)])
  rest : ∀ j x, m ≤ j → xs[j]? = some x → ValOwn w d (P j) x (.agg #[g (j * 5), g (j * 5 + 1), g (j * 5 + 2), g (j * 5 + 3), g (j * 5 + 4)])

end Go.Proofs.YtohdpgclokgohaaGreatDoor

/- heldStringS, heldValS, heldVal: the marks are there. -/
namespace Go.Proofs.YtohdpgclokgohaaGreatDoor
open Go.RowKit Go.Deep

theorem ext_cell {W : World} {b o : Nat} {u : Value} (h : W.cell? ⟨b, o, none⟩ = some u) (n : Ext W) : n.now.cell? ⟨b, o, none⟩ = some u :=
  (n.from_.cell (p := ⟨b, o, none⟩) (World.block_lt_of_cell? W _ h)).trans h

end Go.Proofs.YtohdpgclokgohaaGreatDoor

/- What stands while l1Copy copies a tree. -/
namespace Go.Proofs.YtohdpgclokgohaaGreatDoor
open Go.RowKit Go.Deep

/-- What l1Copy does with trees of this depth. -/
def CopyC (d : Nat) : Prop := ∀ (S : Nat → Prop) (t : Tr d) (v : Value) (w : World), ValAt S w d t v → Within S w → (wtT d t : Int) ≤ 4194304 →
    Calls Tryz.prog 65 #[v] w fun e w' => ∃ u, e = .returned u ∧ ValOwn w' d (Fresh w w') t u ∧ Below w.heap.size w w'

theorem size2 (w : World) (A B : Obj) : ((w.alloc A).alloc B).heap.size = w.heap.size + 1 + 1 := by simp
theorem size3 (w : World) (A B C : Obj) : (((w.alloc A).alloc B).alloc C).heap.size = w.heap.size + 1 + 1 + 1 := by simp
theorem nb1 (w : World) (A B o : Obj) : (((w.alloc A).alloc B).alloc o).drew.heap[w.heap.size + 1 + 1]? = some o := by
  have h := heap_alloc_new ((w.alloc A).alloc B) o
  rw [size2] at h
  exact h
theorem nb2 (w : World) (A B o C : Obj) : ((((w.alloc A).alloc B).alloc o).alloc C).drew.heap[w.heap.size + 1 + 1]? = some o :=
  (Below.heap_alloc (((w.alloc A).alloc B).alloc o) C _ (by rw [size3]; omega)).trans (nb1 w A B o)
theorem nb3 (w : World) (A B C o : Obj) : ((((w.alloc A).alloc B).alloc C).alloc o).drew.heap[w.heap.size + 1 + 1 + 1]? = some o := by
  have h := heap_alloc_new (((w.alloc A).alloc B).alloc C) o
  rw [size3] at h
  exact h
theorem kA3 (w : World) (A B C : Obj) : (((w.alloc A).alloc B).alloc C).drew.heap[w.heap.size]? = some A :=
  (Below.heap_alloc ((w.alloc A).alloc B) C _ (by rw [size2]; omega)).trans ((Below.heap_alloc (w.alloc A) B _ (by simp)).trans (heap_alloc_new w A))
theorem kA4 (w : World) (A B C D : Obj) : ((((w.alloc A).alloc B).alloc C).alloc D).drew.heap[w.heap.size]? = some A :=
  (Below.heap_alloc (((w.alloc A).alloc B).alloc C) D _ (by rw [size3]; omega)).trans (kA3 w A B C)
theorem kB3 (w : World) (A B C : Obj) : (((w.alloc A).alloc B).alloc C).drew.heap[w.heap.size + 1]? = some B := by
  have h := heap_alloc_new (w.alloc A) B
  rw [World.size_alloc] at h
  exact (Below.heap_alloc ((w.alloc A).alloc B) C _ (by rw [size2]; omega)).trans h
theorem kB4 (w : World) (A B C D : Obj) : ((((w.alloc A).alloc B).alloc C).alloc D).drew.heap[w.heap.size + 1]? = some B :=
  (Below.heap_alloc (((w.alloc A).alloc B).alloc C) D _ (by rw [size3]; omega)).trans (kB3 w A B C)
theorem below_drew1 {B : Nat} {a w : World} (h : Below B a w) : Below B a w.drew := ⟨h.os, h.tape, h.output, h.size, h.block⟩
theorem bl3 (w : World) (A B C : Obj) : Below w.heap.size w (((w.alloc A).alloc B).alloc C).drew := below_drew1 (below_trans (below_trans (below_alloc1 _ _) (below_alloc1 _ _)) (below_alloc1 _ _))
theorem bl4 (w : World) (A B C D : Obj) : Below w.heap.size w ((((w.alloc A).alloc B).alloc C).alloc D).drew := below_drew1 (below_trans (below_trans (below_trans (below_alloc1 _ _) (below_alloc1 _ _)) (below_alloc1 _ _)) (below_alloc1 _ _))

/-- What stands when the copy's own variable is made, its list still empty. -/
structure CopyAt {d : Nat} (w wc : World) (t : Nd (Tr d)) (c3 c4 : Value) (b : Nat) (vk : Value) : Prop where
  out : Blk5 wc b 26 (.int .i64 t.kind) (.int .i64 t.num) (.string t.str) vk (.slice none 0 0)
  box : Blk5 wc w.heap.size 26 (.int .i64 t.kind) (.int .i64 t.num) (.string t.str) c3 c4
  res : Blk5 wc (w.heap.size + 1) 26 (.int .i64 0) (.int .i64 0) (.string { data := #[] }) (.slice none 0 0) (.slice none 0 0)
  keys : StrsOwn (fun x => w.heap.size + 1 < x ∧ x < wc.heap.size ∧ x ≠ b) wc vk t.keys
  below : Below w.heap.size w wc
  above : w.heap.size + 1 < b

theorem StrsOwn.sub {S S' : Nat → Prop} {w : World} {v : Value} {ss : List ByteArray} (h : StrsOwn S w v ss) (hS : ∀ b, S b → b < w.heap.size → S' b) : StrsOwn S' w v ss := by
  obtain ⟨h1, h2, a, cap, hv, h3⟩ := h
  refine ⟨h1, h2, a, cap, hv, ?_⟩
  rcases h3 with h3 | ⟨b, n, f, hB, ha, hl, hr, hc⟩
  · exact Or.inl h3
  · exact Or.inr ⟨b, n, f, hS b hB hr.lt, ha, hl, hr, hc⟩

theorem copy_a {d : Nat} {w W w' : World} {t : Nd (Tr d)} {c3 c4 vk : Value} {G : Nat} (hB : Below w.heap.size w W) (hbox : Blk5 W w.heap.size 26 (.int .i64 t.kind) (.int .i64 t.num) (.string t.str) c3 c4)
    (hres : Blk5 W (w.heap.size + 1) 26 (.int .i64 0) (.int .i64 0) (.string { data := #[] }) (.slice none 0 0) (.slice none 0 0)) (hG : w.heap.size + 1 < G) (hgr : W.grownBy w' (some G))
    (hown : StrsOwn (fun b => b = G ∨ b = W.heap.size) w' vk t.keys) :
    CopyAt w (w'.alloc (.cells #[.int .i64 t.kind, .int .i64 t.num, .string t.str, vk, .slice none 0 0] 26)) t c3 c4 w'.heap.size vk := by
  have hlt := hres.lt
  have hsz := hgr.size
  refine ⟨Blk5.new _ _ _ _ _ _ _, (hbox.of_block (hgr.block _ hbox.lt (fun e => by cases e; omega))).alloc _, (hres.of_block (hgr.block _ hres.lt (fun e => by cases e; omega))).alloc _, ?_, ?_, by omega⟩
  · refine (hown.sub (S' := fun x => w.heap.size + 1 < x ∧ x < w'.heap.size) (fun b hb hbl => ⟨by rcases hb with rfl | rfl <;> omega, hbl⟩)).moved (fun b hb => Below.heap_alloc _ _ _ hb.2) (fun b hb => ⟨hb.1, by have := hb.2; simp; omega, by have := hb.2; omega⟩)
  · refine below_trans (b := w') ⟨hgr.os.trans hB.os, hgr.tape.trans hB.tape, hgr.output.trans hB.output, Nat.le_trans hB.size hgr.size, fun k hk => ?_⟩ (below_alloc1 _ _)
    exact (hgr.block k (Nat.lt_of_lt_of_le hk hB.size) (fun e => by cases e; omega)).trans (hB.block k hk)

theorem copy_b {d : Nat} {w W w' : World} {t : Nd (Tr d)} {c3 c4 vk : Value} {G V : Nat} (hB : Below w.heap.size w W) (hbox : Blk5 W w.heap.size 26 (.int .i64 t.kind) (.int .i64 t.num) (.string t.str) c3 c4)
    (hres : Blk5 W (w.heap.size + 1) 26 (.int .i64 0) (.int .i64 0) (.string { data := #[] }) (.slice none 0 0) (.slice none 0 0)) (hvar : Blk5 W V 26 (.int .i64 0) (.int .i64 0) (.string { data := #[] }) (.slice none 0 0) (.slice none 0 0))
    (hG : w.heap.size + 1 < G) (hV : w.heap.size + 1 < V) (hGV : V ≠ G) (hgr : W.grownBy w' (some G))
    (hown : StrsOwn (fun b => b = G ∨ b = W.heap.size) w' vk t.keys) :
    CopyAt w (set5 w' V 0 (.int .i64 t.kind) (.int .i64 t.num) (.string t.str) vk (.slice none 0 0)) t c3 c4 V vk := by
  have hlt := hres.lt
  have hvl := hvar.lt
  have hsz := hgr.size
  have hv' := hvar.of_block (hgr.block _ hvl (fun e => hGV (by cases e; rfl)))
  refine ⟨?_, (hbox.of_block (hgr.block _ hbox.lt (fun e => by cases e; omega))).of_block (set5_block _ _ _ _ _ _ _ _ _ (by omega)), (hres.of_block (hgr.block _ hres.lt (fun e => by cases e; omega))).of_block (set5_block _ _ _ _ _ _ _ _ _ (by omega)), ?_, ?_, hV⟩
  · unfold Blk5 at hv' ⊢
    simp [set5, World.setCell, Array.getElem?_modify, hv']
  · refine (hown.sub (S' := fun x => w.heap.size + 1 < x ∧ x < w'.heap.size ∧ x ≠ V) (fun b hb hbl => ⟨by rcases hb with rfl | rfl <;> omega, hbl, by rcases hb with rfl | rfl <;> omega⟩)).moved (fun b hb => set5_block _ _ _ _ _ _ _ _ _ hb.2.2) (fun b hb => ⟨hb.1, by rw [set5_size]; exact hb.2.1, hb.2.2⟩)
  · refine below_set5 ⟨hgr.os.trans hB.os, hgr.tape.trans hB.tape, hgr.output.trans hB.output, Nat.le_trans hB.size hgr.size, fun k hk => ?_⟩ (by omega) _ _ _ _ _ _
    exact (hgr.block k (Nat.lt_of_lt_of_le hk hB.size) (fun e => by cases e; omega)).trans (hB.block k hk)

/-- What stands when the first k trees are copied. -/
structure CopyTo {d : Nat} (wc wr : World) (t : Nd (Tr d)) (b : Nat) (vk lv : Value) (k : Nat) (vs : List Value) (P : Nat → Nat → Prop) : Prop where
  out : Blk5 wr b 26 (.int .i64 t.kind) (.int .i64 t.num) (.string t.str) vk lv
  vals : ValsTo wc.heap.size wr lv t.list k vs P
  but : But b wc wr


/-- A call, as one step of a region that draws. -/
theorem step_call_run {P : Program} {ops : Array Oper} {o : Oper} {a : Act} {w : World} {K : Act → World → Prop} {Q : Exit → Act → World → Prop} {E : Prop} (Φ : Value → World → Prop) (f : FuncId) (args : Array Value)
    (hg : o.guard = none) (hrun : (execOp a.eval o).run P w = .ok (.enter f args) w) (hc : Calls P f args w fun e w' => ∃ v, e = .returned v ∧ Φ v w') (hK : ∀ v w', Φ v w' → K (a.put o.dst v) w') :
    if Region.wanted o (yielded ops a.tmps) = true then Oper.wp P o a w K Q else E := by
  have hw : Region.wanted o (yielded ops a.tmps) = true := by simp [Region.wanted, hg]
  rw [if_pos hw]
  unfold Oper.wp
  rw [hrun, Oper.upon_enter]
  refine hc.mono ?_
  rintro e w' ⟨v, rfl, hφ⟩
  exact hK v w' hφ

theorem ValsTo.other {d N : Nat} {w w' : World} {sv : Value} {xs : List (Tr d)} {k : Nat} {vs : List Value} {P : Nat → Nat → Prop} (h : ValsTo N w sv xs k vs P) (hs : ∀ c, N ≤ c → w'.heap[c]? = w.heap[c]?) (hz : w'.heap.size = w.heap.size) : ValsTo N w' sv xs k vs P := by
  obtain ⟨h1, hlo, hdis, h2⟩ := h
  refine ⟨⟨h1.1, ?_⟩, fun j c hj hc => by rw [hz]; exact hlo j c hj hc, hdis, fun j x hj hx => ?_⟩
  · rcases h1.2 with h | ⟨g, cap, cur, hv, hg, hh, hrest⟩
    · exact Or.inl h
    · exact Or.inr ⟨g, cap, cur, hv, hg, (hs g hg).trans hh, hrest⟩
  · obtain ⟨c0, c1, c2, c3, c4, e0, e1, e2, e3, e4, hv⟩ := h2 j x hj hx
    exact ⟨c0, c1, c2, c3, c4, e0, e1, e2, e3, e4, hv.same (fun c hc => hs c (hlo j c hj hc).1)⟩
end Go.Proofs.YtohdpgclokgohaaGreatDoor

/- One tree more is copied; the copy's end. -/
namespace Go.Proofs.YtohdpgclokgohaaGreatDoor
open Go.RowKit Go.Deep

theorem CopyTo.step {d k b : Nat} {wc wr w1 w2 : World} {t : Nd (Tr d)} {vk lv lv' : Value} {vs : List Value} {P : Nat → Nat → Prop} {x : Tr d} {v0 v1 v2 v3 v4 : Value} {o : Obj} (h : CopyTo wc wr t b vk lv k vs P) (hb : Below wr.heap.size wr w1)
    (hx : t.list[k]? = some x) (hu : ValOwn w1 d (Fresh wr w1) x (.agg #[v0, v1, v2, v3, v4])) (hown : w2.ownsRow wc.heap.size 26 5 lv' (k + 1) (vs ++ [v0, v1, v2, v3, v4])) (hg : (w1.alloc o).grownBy w2 lv.ownBlock)
    (hw : lv'.ownBlock = lv.ownBlock ∨ lv'.ownBlock = some (w1.alloc o).heap.size) (hbc : b < wc.heap.size) (yb2 : Blk5 w2 b 26 (.int .i64 t.kind) (.int .i64 t.num) (.string t.str) vk lv) :
    ∃ P', CopyTo wc (w2.setCell ⟨b, 4, none⟩ lv') t b vk lv' (k + 1) (vs ++ [v0, v1, v2, v3, v4]) P' := by
  have hN : wc.heap.size ≤ wr.heap.size := h.but.size
  have hrow : ∀ g, lv.ownBlock = some g → wc.heap.size ≤ g := fun g hg => (h.vals.own.lt g hg).1
  have h1 := hb.size
  refine ⟨_, yb2.set4 _, (h.vals.step hb hx hu hown hg hw hN).other (fun c hc => Below.heap_setCell _ _ _ _ (by show c ≠ b; omega)) (by simp [World.setCell]), ?_⟩
  refine But.trans ?_ (But.set _ _ _ _)
  have hb3 : But b wc w1 := h.but.trans (But.of_below hb)
  refine ⟨hg.os.trans hb3.os, hg.tape.trans hb3.tape, hg.output.trans hb3.output, Nat.le_trans hb3.size (Nat.le_trans (by simp) hg.size), fun i hi hn => ?_⟩
  exact ((hg.block i (by simp; omega) (fun e => by have := hrow i e.symm; omega)).trans (Below.heap_alloc _ _ _ (by omega))).trans (hb3.block i hi hn)

theorem CopyTo.final {d b : Nat} {w wc wr : World} {t : Nd (Tr d)} {c3 c4 vk lv : Value} {vs : List Value} {P : Nat → Nat → Prop} (h : CopyTo wc wr t b vk lv t.list.length vs P) (hc : CopyAt w wc t c3 c4 b vk) (hl : t.list.length < 3518437208883) (i1 : I64 t.kind) (i2 : I64 t.num) (i3 : t.str.size < 281474976710656) :
    ∀ wF, wF = set5 wr (w.heap.size + 1) 0 (.int .i64 t.kind) (.int .i64 t.num) (.string t.str) vk lv → ValOwn wF (d + 1) (Fresh w wF) t (.agg #[.int .i64 t.kind, .int .i64 t.num, .string t.str, vk, lv]) ∧ Below w.heap.size w wF := by
  intro wF hF
  have hbu := h.but
  have hbw := hc.below
  have hab := hc.above
  have hws := hc.res.lt
  have hrb : Below w.heap.size w wr := ⟨hbu.os.trans hbw.os, hbu.tape.trans hbw.tape, hbu.output.trans hbw.output, Nat.le_trans hbw.size hbu.size, fun j hj => (hbu.block j (Nat.lt_of_lt_of_le hj hbw.size) (fun e => by cases e; omega)).trans (hbw.block j hj)⟩
  have hdone := h.vals.done hl
  have hzF : wF.heap.size = wr.heap.size := by rw [hF, set5_size]
  have hsz : wc.heap.size ≤ wr.heap.size := hbu.size
  have hsm : ∀ R : Nat → Prop, (∀ b, R b → w.heap.size + 1 < b) → Same R wr wF := fun R hR b hb => by
    rw [hF, set5_block _ _ _ _ _ _ _ _ _ (by have := hR b hb; omega)]
  have hkey : Same (fun x => w.heap.size + 1 < x ∧ x < wc.heap.size ∧ x ≠ b) wc wF := fun c hc => by
    rw [hsm (fun x => w.heap.size + 1 < x) (fun _ h => h) c hc.1]
    exact hbu.block c hc.2.1 (fun e => by cases e; exact hc.2.2 rfl)
  refine ⟨⟨vk, lv, fun x => w.heap.size + 1 < x ∧ x < wc.heap.size ∧ x ≠ b, fun b => wc.heap.size ≤ b ∧ b < wr.heap.size, rfl, i1, i2, i3, hc.keys.moved hkey (fun _ h => h),
    hdone.moved (hsm _ (fun b hb => by have := hb.1; omega)) (fun _ h => h) (fun P x u hP hx => ValOwn.moved d P P x u hx (hsm P (fun b hb => by have := (hP b hb).1; omega)) (fun _ h => h)), fun b hb => ⟨by have := hb.1; omega, by rw [hzF]; have := hb.2.1; omega⟩, fun b hb => ⟨by have := hb.1; omega, by rw [hzF]; exact hb.2⟩, fun b hb hb' => by have := hb.2.1; have := hb'.1; omega⟩, ?_⟩
  rw [hF]
  exact below_set5 hrb (by omega) _ _ _ _ _ _
end Go.Proofs.YtohdpgclokgohaaGreatDoor
