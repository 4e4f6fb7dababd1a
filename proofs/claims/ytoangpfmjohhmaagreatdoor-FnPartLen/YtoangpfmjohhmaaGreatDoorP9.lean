/- Texts of the proof, put together by program: WCopyP, WTold2, WWt, WOne, WMarkB, WToO, WEq. -/
import Derived.Test.YtoangpfmjohhmaaGreatDoorP8
import Derived.Test.YtoangpfmjohhmaaGreatDoorP6
import Derived.Deep.RegionHeld3
import Derived.Deep.RegionLaw
import Derived.Deep.DeepCutAuto
import Derived.Deep.AppendLies
import Derived.Test.YtoangpfmjohhmaaGreatDoorP7
import Derived.Test.YtoangpfmjohhmaaGreatDoorP5
import Derived.Test.YtoangpfmjohhmaaGreatDoorP1
/- What stands while l1Copy copies a tree. -/
namespace Go.Proofs.YtoangpfmjohhmaaGreatDoor
open Go.RowKit Go.Deep

/-- What l1Copy does with trees of this depth. -/
def CopyC (d : Nat) : Prop := ∀ (S : Nat → Prop) (t : Tr d) (v : Value) (w : World), ValAt S w d t v → Within S w → (wtT d t : Int) ≤ 4194304 →
    Calls Tryz.prog 38 #[v] w fun e w' => ∃ u, e = .returned u ∧ ValOwn w' d (Fresh w w') t u ∧ Below w.heap.size w w'

theorem size2 (w : World) (A B : Obj) : ((w.alloc A).alloc B).heap.size = w.heap.size + 1 + 1 := by simp
theorem size3 (w : World) (A B C : Obj) : (((w.alloc A).alloc B).alloc C).heap.size = w.heap.size + 1 + 1 + 1 := by simp
theorem nb1 (w : World) (A B o : Obj) : (((w.alloc A).alloc B).alloc o).drew.heap[w.heap.size + 1 + 1]? = some o := by
  have h := heap_alloc_new ((w.alloc A).alloc B) o
  rw [size2] at h
  exact h
theorem nb2 (w : World) (A B o C : Obj) : ((((w.alloc A).alloc B).alloc o).alloc C).drew.heap[w.heap.size + 1 + 1]? = some o :=
  (Below.heap_alloc (((w.alloc A).alloc B).alloc o) C _ (by rw [size3]; omega)).trans (nb1 w A B o)
theorem nb3 (w : World) (A B C o : Obj) : ((((w.alloc A).alloc B).alloc C).alloc o).drew.heap[w.heap.size + 1 + 1 + 1]? = some o := by
  have h := heap_alloc_new (((w.alloc A).alloc B).alloc C) o
  rw [size3] at h
  exact h
theorem kA3 (w : World) (A B C : Obj) : (((w.alloc A).alloc B).alloc C).drew.heap[w.heap.size]? = some A :=
  (Below.heap_alloc ((w.alloc A).alloc B) C _ (by rw [size2]; omega)).trans ((Below.heap_alloc (w.alloc A) B _ (by simp)).trans (heap_alloc_new w A))
theorem kA4 (w : World) (A B C D : Obj) : ((((w.alloc A).alloc B).alloc C).alloc D).drew.heap[w.heap.size]? = some A :=
  (Below.heap_alloc (((w.alloc A).alloc B).alloc C) D _ (by rw [size3]; omega)).trans (kA3 w A B C)
theorem kB3 (w : World) (A B C : Obj) : (((w.alloc A).alloc B).alloc C).drew.heap[w.heap.size + 1]? = some B := by
  have h := heap_alloc_new (w.alloc A) B
  rw [World.size_alloc] at h
  exact (Below.heap_alloc ((w.alloc A).alloc B) C _ (by rw [size2]; omega)).trans h
theorem kB4 (w : World) (A B C D : Obj) : ((((w.alloc A).alloc B).alloc C).alloc D).drew.heap[w.heap.size + 1]? = some B :=
  (Below.heap_alloc (((w.alloc A).alloc B).alloc C) D _ (by rw [size3]; omega)).trans (kB3 w A B C)
theorem below_drew1 {B : Nat} {a w : World} (h : Below B a w) : Below B a w.drew := ⟨h.os, h.tape, h.output, h.size, h.block⟩
theorem bl3 (w : World) (A B C : Obj) : Below w.heap.size w (((w.alloc A).alloc B).alloc C).drew := below_drew1 (below_trans (below_trans (below_alloc1 _ _) (below_alloc1 _ _)) (below_alloc1 _ _))
theorem bl4 (w : World) (A B C D : Obj) : Below w.heap.size w ((((w.alloc A).alloc B).alloc C).alloc D).drew := below_drew1 (below_trans (below_trans (below_trans (below_alloc1 _ _) (below_alloc1 _ _)) (below_alloc1 _ _)) (below_alloc1 _ _))

/-- What stands when the copy's own variable is made, its list still empty. -/
structure CopyAt {d : Nat} (w wc : World) (t : Nd (Tr d)) (c3 c4 : Value) (b : Nat) (vk : Value) : Prop where
  out : Blk5 wc b 26 (.int .i64 t.kind) (.int .i64 t.num) (.string t.str) vk (.slice none 0 0)
  box : Blk5 wc w.heap.size 26 (.int .i64 t.kind) (.int .i64 t.num) (.string t.str) c3 c4
  res : Blk5 wc (w.heap.size + 1) 26 (.int .i64 0) (.int .i64 0) (.string { data := #[] }) (.slice none 0 0) (.slice none 0 0)
  keys : StrsOwn (fun x => w.heap.size + 1 < x ∧ x < wc.heap.size ∧ x ≠ b) wc vk t.keys
  below : Below w.heap.size w wc
  above : w.heap.size + 1 < b

theorem StrsOwn.sub {S S' : Nat → Prop} {w : World} {v : Value} {ss : List ByteArray} (h : StrsOwn S w v ss) (hS : ∀ b, S b → b < w.heap.size → S' b) : StrsOwn S' w v ss := by
  obtain ⟨h1, h2, a, cap, hv, h3⟩ := h
  refine ⟨h1, h2, a, cap, hv, ?_⟩
  rcases h3 with h3 | ⟨b, n, f, hB, ha, hl, hr, hc⟩
  · exact Or.inl h3
  · exact Or.inr ⟨b, n, f, hS b hB hr.lt, ha, hl, hr, hc⟩

theorem copy_a {d : Nat} {w W w' : World} {t : Nd (Tr d)} {c3 c4 vk : Value} {G : Nat} (hB : Below w.heap.size w W) (hbox : Blk5 W w.heap.size 26 (.int .i64 t.kind) (.int .i64 t.num) (.string t.str) c3 c4)
    (hres : Blk5 W (w.heap.size + 1) 26 (.int .i64 0) (.int .i64 0) (.string { data := #[] }) (.slice none 0 0) (.slice none 0 0)) (hG : w.heap.size + 1 < G) (hgr : W.grownBy w' (some G))
    (hown : StrsOwn (fun b => b = G ∨ b = W.heap.size) w' vk t.keys) :
    CopyAt w (w'.alloc (.cells #[.int .i64 t.kind, .int .i64 t.num, .string t.str, vk, .slice none 0 0] 26)) t c3 c4 w'.heap.size vk := by
  have hlt := hres.lt
  have hsz := hgr.size
  refine ⟨Blk5.new _ _ _ _ _ _ _, (hbox.of_block (hgr.block _ hbox.lt (fun e => by cases e; omega))).alloc _, (hres.of_block (hgr.block _ hres.lt (fun e => by cases e; omega))).alloc _, ?_, ?_, by omega⟩
  · refine (hown.sub (S' := fun x => w.heap.size + 1 < x ∧ x < w'.heap.size) (fun b hb hbl => ⟨by rcases hb with rfl | rfl <;> omega, hbl⟩)).moved (fun b hb => Below.heap_alloc _ _ _ hb.2) (fun b hb => ⟨hb.1, by have := hb.2; simp; omega, by have := hb.2; omega⟩)
  · refine below_trans (b := w') ⟨hgr.os.trans hB.os, hgr.tape.trans hB.tape, hgr.output.trans hB.output, Nat.le_trans hB.size hgr.size, fun k hk => ?_⟩ (below_alloc1 _ _)
    exact (hgr.block k (Nat.lt_of_lt_of_le hk hB.size) (fun e => by cases e; omega)).trans (hB.block k hk)

theorem copy_b {d : Nat} {w W w' : World} {t : Nd (Tr d)} {c3 c4 vk : Value} {G V : Nat} (hB : Below w.heap.size w W) (hbox : Blk5 W w.heap.size 26 (.int .i64 t.kind) (.int .i64 t.num) (.string t.str) c3 c4)
    (hres : Blk5 W (w.heap.size + 1) 26 (.int .i64 0) (.int .i64 0) (.string { data := #[] }) (.slice none 0 0) (.slice none 0 0)) (hvar : Blk5 W V 26 (.int .i64 0) (.int .i64 0) (.string { data := #[] }) (.slice none 0 0) (.slice none 0 0))
    (hG : w.heap.size + 1 < G) (hV : w.heap.size + 1 < V) (hGV : V ≠ G) (hgr : W.grownBy w' (some G))
    (hown : StrsOwn (fun b => b = G ∨ b = W.heap.size) w' vk t.keys) :
    CopyAt w (set5 w' V 0 (.int .i64 t.kind) (.int .i64 t.num) (.string t.str) vk (.slice none 0 0)) t c3 c4 V vk := by
  have hlt := hres.lt
  have hvl := hvar.lt
  have hsz := hgr.size
  have hv' := hvar.of_block (hgr.block _ hvl (fun e => hGV (by cases e; rfl)))
  refine ⟨?_, (hbox.of_block (hgr.block _ hbox.lt (fun e => by cases e; omega))).of_block (set5_block _ _ _ _ _ _ _ _ _ (by omega)), (hres.of_block (hgr.block _ hres.lt (fun e => by cases e; omega))).of_block (set5_block _ _ _ _ _ _ _ _ _ (by omega)), ?_, ?_, hV⟩
  · unfold Blk5 at hv' ⊢
    simp [set5, World.setCell, Array.getElem?_modify, hv']
  · refine (hown.sub (S' := fun x => w.heap.size + 1 < x ∧ x < w'.heap.size ∧ x ≠ V) (fun b hb hbl => ⟨by rcases hb with rfl | rfl <;> omega, hbl, by rcases hb with rfl | rfl <;> omega⟩)).moved (fun b hb => set5_block _ _ _ _ _ _ _ _ _ hb.2.2) (fun b hb => ⟨hb.1, by rw [set5_size]; exact hb.2.1, hb.2.2⟩)
  · refine below_set5 ⟨hgr.os.trans hB.os, hgr.tape.trans hB.tape, hgr.output.trans hB.output, Nat.le_trans hB.size hgr.size, fun k hk => ?_⟩ (by omega) _ _ _ _ _ _
    exact (hgr.block k (Nat.lt_of_lt_of_le hk hB.size) (fun e => by cases e; omega)).trans (hB.block k hk)

/-- What stands when the first k trees are copied. -/
structure CopyTo {d : Nat} (wc wr : World) (t : Nd (Tr d)) (b : Nat) (vk lv : Value) (k : Nat) (vs : List Value) (P : Nat → Nat → Prop) : Prop where
  out : Blk5 wr b 26 (.int .i64 t.kind) (.int .i64 t.num) (.string t.str) vk lv
  vals : ValsTo wc.heap.size wr lv t.list k vs P
  but : But b wc wr


/-- A call, as one step of a region that draws. -/
theorem step_call_run {P : Program} {ops : Array Oper} {o : Oper} {a : Act} {w : World} {K : Act → World → Prop} {Q : Exit → Act → World → Prop} {E : Prop} (Φ : Value → World → Prop) (f : FuncId) (args : Array Value)
    (hg : o.guard = none) (hrun : (execOp a.eval o).run P w = .ok (.enter f args) w) (hc : Calls P f args w fun e w' => ∃ v, e = .returned v ∧ Φ v w') (hK : ∀ v w', Φ v w' → K (a.put o.dst v) w') :
    if Region.wanted o (yielded ops a.tmps) = true then Oper.wp P o a w K Q else E := by
  have hw : Region.wanted o (yielded ops a.tmps) = true := by simp [Region.wanted, hg]
  rw [if_pos hw]
  unfold Oper.wp
  rw [hrun, Oper.upon_enter]
  refine hc.mono ?_
  rintro e w' ⟨v, rfl, hφ⟩
  exact hK v w' hφ

theorem ValsTo.other {d N : Nat} {w w' : World} {sv : Value} {xs : List (Tr d)} {k : Nat} {vs : List Value} {P : Nat → Nat → Prop} (h : ValsTo N w sv xs k vs P) (hs : ∀ c, N ≤ c → w'.heap[c]? = w.heap[c]?) (hz : w'.heap.size = w.heap.size) : ValsTo N w' sv xs k vs P := by
  obtain ⟨h1, hlo, hdis, h2⟩ := h
  refine ⟨⟨h1.1, ?_⟩, fun j c hj hc => by rw [hz]; exact hlo j c hj hc, hdis, fun j x hj hx => ?_⟩
  · rcases h1.2 with h | ⟨g, cap, cur, hv, hg, hh, hrest⟩
    · exact Or.inl h
    · exact Or.inr ⟨g, cap, cur, hv, hg, (hs g hg).trans hh, hrest⟩
  · obtain ⟨c0, c1, c2, c3, c4, e0, e1, e2, e3, e4, hv⟩ := h2 j x hj hx
    exact ⟨c0, c1, c2, c3, c4, e0, e1, e2, e3, e4, hv.same (fun c hc => hs c (hlo j c hj hc).1)⟩
end Go.Proofs.YtoangpfmjohhmaaGreatDoor

/- An answer, in a variable of its own. -/
namespace Go.Proofs.YtoangpfmjohhmaaGreatDoor
open Go.RowKit Go.Deep

/-- An answer, in a variable of its own at b. -/
structure ToldIn (e lo b : Nat) (t : Tr (e + 1)) (w wc : World) (p0 p1 : Int) (p2 : ByteArray) (p3 : Option Addr) (p4 p5 : Nat) (p6 : Option Addr) (p7 p8 : Nat) : Prop where
  var : Blk5 wc b 26 (.int .i64 p0) (.int .i64 p1) (.string p2) (.slice p3 p4 p5) (.slice p6 p7 p8)
  val : ValAt (fun x => lo ≤ x ∧ x < wc.heap.size ∧ x ≠ b) wc (e + 1) t (.agg #[.int .i64 p0, .int .i64 p1, .string p2, .slice p3 p4 p5, .slice p6 p7 p8])
  below : Below lo w wc
  lob : lo ≤ b

theorem told_set {e lo b : Nat} {t : Tr (e + 1)} {w W : World} {p0 p1 : Int} {p2 : ByteArray} {p3 : Option Addr} {p4 p5 : Nat} {p6 : Option Addr} {p7 p8 : Nat} {c0 c1 c2 c3 c4 : Value} {S : Nat → Prop} (hz : Blk5 W b 26 c0 c1 c2 c3 c4) (hlo : lo ≤ b) (hb : Below lo w W)
    (ha : ValAt S W (e + 1) t (.agg #[.int .i64 p0, .int .i64 p1, .string p2, .slice p3 p4 p5, .slice p6 p7 p8])) (hS : ∀ x, S x → lo ≤ x ∧ x < W.heap.size ∧ x ≠ b) :
    ToldIn e lo b t w (set5 W b 0 (.int .i64 p0) (.int .i64 p1) (.string p2) (.slice p3 p4 p5) (.slice p6 p7 p8)) p0 p1 p2 p3 p4 p5 p6 p7 p8 := by
  refine ⟨?_, ?_, below_set5 hb hlo _ _ _ _ _ _, hlo⟩
  · unfold Blk5 at hz ⊢
    simp [set5, World.setCell, Array.getElem?_modify, hz]
  · exact ValAt.moved (fun x hx => set5_block _ _ _ _ _ _ _ _ _ (hS x hx).2.2) (fun x hx => ⟨(hS x hx).1, by rw [set5_size]; exact (hS x hx).2.1, (hS x hx).2.2⟩) _ _ _ ha
theorem told_new {e lo : Nat} {t : Tr (e + 1)} {w W : World} {p0 p1 : Int} {p2 : ByteArray} {p3 : Option Addr} {p4 p5 : Nat} {p6 : Option Addr} {p7 p8 : Nat} {S : Nat → Prop} (hlo : lo ≤ W.heap.size) (hb : Below lo w W)
    (ha : ValAt S W (e + 1) t (.agg #[.int .i64 p0, .int .i64 p1, .string p2, .slice p3 p4 p5, .slice p6 p7 p8])) (hS : ∀ x, S x → lo ≤ x ∧ x < W.heap.size) :
    ToldIn e lo W.heap.size t w (W.alloc (.cells #[.int .i64 p0, .int .i64 p1, .string p2, .slice p3 p4 p5, .slice p6 p7 p8] 26)) p0 p1 p2 p3 p4 p5 p6 p7 p8 := by
  refine ⟨Blk5.new _ _ _ _ _ _ _, ?_, hb.alloc hlo _, hlo⟩
  exact ValAt.moved (fun x hx => Below.heap_alloc _ _ _ (hS x hx).2) (fun x hx => ⟨(hS x hx).1, by have := (hS x hx).2; simp; omega, by have := (hS x hx).2; omega⟩) _ _ _ ha
theorem Fresh.within' (w : World) {w' w2 : World} (h : w'.heap.size ≤ w2.heap.size) : Within (Fresh w w') w2 := fun _ hb => Nat.lt_of_lt_of_le hb.2 h
theorem newDrew (w : World) (T : TypeId) (c0 c1 c2 c3 c4 : Value) : Blk5 (w.alloc (.cells #[c0, c1, c2, c3, c4] T)).drew w.heap.size T c0 c1 c2 c3 c4 := Blk5.new w T c0 c1 c2 c3 c4
theorem belowChain {n b : Nat} {w W : World} {T : TypeId} {c0 c1 c2 c3 c4 : Value} (hb : Below n w W) (_hz : Blk5 W b T c0 c1 c2 c3 c4) (hle : n ≤ b) (v0 v1 v2 v3 v4 : Value) : Below n w (((((W.setCell ⟨b, 0, none⟩ v0).setCell ⟨b, 1, none⟩ v1).setCell ⟨b, 2, none⟩ v2).setCell ⟨b, 3, none⟩ v3).setCell ⟨b, 4, none⟩ v4) :=
  below_set5 hb hle 0 v0 v1 v2 v3 v4
end Go.Proofs.YtoangpfmjohhmaaGreatDoor

/- How many marks a tree takes: bounds. -/
namespace Go.Proofs.YtoangpfmjohhmaaGreatDoor

theorem szStrs_cnt (ss : List ByteArray) (left : Int) (h : 0 ≤ szStrs ss left) : (ss.length : Int) ≤ left - szStrs ss left := by
  rw [szStrs] at h ⊢
  split at h
  · omega
  rename_i n1
  rw [if_neg n1]
  have := szStrsGo_le ss (left - ss.length) (by omega)
  omega
theorem szLGo_wt {d : Nat} (ih : ∀ (t : Tr d) (left : Int), 0 ≤ left → 0 ≤ szT d t left → (wtT d t : Int) ≤ 3 + 3 * (left - szT d t left)) :
    ∀ (xs : List (Tr d)) (left : Int), 0 ≤ left → 0 ≤ szLGo (szT d) xs left → (((xs.map (wtT d)).sum : Nat) : Int) ≤ 3 * xs.length + 3 * (left - szLGo (szT d) xs left)
  | [], left, h0, h => by simp [szLGo]
  | x :: r, left, h0, h => by
    rw [szLGo] at h ⊢
    split at h
    · omega
    rename_i n1
    rw [if_neg n1]
    have h1 := ih x left h0 (by omega)
    have h2 := szLGo_wt ih r (szT d x left) (by omega) h
    simp only [List.map_cons, List.sum_cons, List.length_cons]
    omega
theorem szT_wt : ∀ (d : Nat) (t : Tr d) (left : Int), 0 ≤ left → 0 ≤ szT d t left → (wtT d t : Int) ≤ 3 + 3 * (left - szT d t left)
  | 0, _, left, h0, h => by simp [szT] at h
  | d + 1, t, left, h0, h => by
    rw [szT] at h ⊢
    split at h
    · omega
    rename_i n1
    split at h
    · omega
    rename_i n2
    split at h
    · omega
    rename_i n3
    rw [if_neg n1, if_neg n2, if_neg n3]
    have e1 := szStrs_cnt (Nd.keys t) (left - (Nd.str t).size) (by omega)
    rw [wtT]
    generalize szStrs (Nd.keys t) (left - (Nd.str t).size) = l2 at *
    rw [szL] at n3 ⊢
    split at n3
    · omega
    rename_i n4
    rw [if_neg n4]
    have e2 := szLGo_wt (szT_wt d) (Nd.list t) (l2 - (Nd.list t).length) (by omega) (by omega)
    omega

theorem wt_sum {d : Nat} {deep : Int} (ih : ∀ (t : Tr d), formT d t deep = true → wtT d t + 2 ≤ 5 * manyT d t deep) : ∀ (xs : List (Tr d)), xs.all (fun x => formT d x deep) = true → (xs.map (wtT d)).sum + 2 * xs.length ≤ 5 * (xs.map (fun x => manyT d x deep)).sum
  | [], _ => by simp
  | x :: r, h => by
    simp only [List.all_cons, Bool.and_eq_true] at h
    have h1 := ih x h.1
    have h2 := wt_sum ih r h.2
    simp only [List.map_cons, List.sum_cons, List.length_cons]
    omega
theorem wtT_form : ∀ (d : Nat) (t : Tr d) (deep : Int), formT d t deep = true → wtT d t + 2 ≤ 5 * manyT d t deep
  | 0, _, _, h => by simp [formT] at h
  | d + 1, t, deep, hf => by
    obtain ⟨kind, num, str, keys, list⟩ := t
    cases hb : headBad kind num str keys.length list.length deep with
    | true => rw [formT_bad hb] at hf; cases hf
    | false =>
    rw [formT_good hb] at hf
    obtain ⟨g0, g1, g2, g3, g4⟩ := headBad_iff.1 hb
    have hmany : manyT (d + 1) (Nd.mk kind num str keys list) deep = 1 + (if 0 < deep then (list.map (fun x => manyT d x (deep - 1))).sum else 0) := rfl
    have hwt : wtT (d + 1) (Nd.mk kind num str keys list) = 3 + keys.length + (list.map (wtT d)).sum := rfl
    rw [hmany, if_pos (by omega), hwt]
    by_cases k5 : kind < 5
    · obtain rfl := List.eq_nil_of_length_eq_zero (g4 k5)
      have := g3 (by omega)
      simp
      omega
    rw [if_neg (by omega), if_neg (by omega), if_neg (by omega)] at hf
    by_cases k6 : kind = 6
    · rw [if_pos k6] at hf
      simp only [Bool.and_eq_true] at hf
      have hl := beq_iff_eq.1 hf.1.1
      have := wt_sum (deep := deep - 1) (fun t h => wtT_form d t (deep - 1) h) list hf.2
      omega
    rw [if_neg k6] at hf
    by_cases k5' : kind = 5
    · rw [if_pos k5'] at hf
      have := g3 (by omega)
      have := wt_sum (deep := deep - 1) (fun t h => wtT_form d t (deep - 1) h) list hf
      omega
    · rw [if_neg k5'] at hf
      cases hf
theorem wtT_ok {d : Nat} {t : Tr d} (h : okT d t = true) : wtT d t ≤ 300 := by
  obtain ⟨h1, h2⟩ := okT_form h
  have := wtT_form d t 6 h1
  omega
theorem okT_zero (d : Nat) : okT (d + 1) (zeroT d) = true := by
  have hb : headBad 0 0 ByteArray.empty ([] : List ByteArray).length ([] : List (Tr d)).length 6 = false := headBad_iff.2 ⟨by omega, fun _ => rfl, fun _ => empty_toList, fun _ => rfl, fun _ => rfl⟩
  have h1 : formT (d + 1) (zeroT d) 6 = true := by
    show formT (d + 1) (Nd.mk 0 0 ByteArray.empty [] [] : Nd (Tr d)) 6 = true
    rw [formT_good hb]
    simp
  have h2 : manyT (d + 1) (zeroT d) 6 = 1 := rfl
  simp only [okT, h1, h2]
  rfl
theorem okT_told (d : Nat) (t : Tr (d + 1)) : okT (d + 1) (toldT d t) = true := by
  unfold toldT
  split
  · assumption
  · exact okT_zero d
end Go.Proofs.YtoangpfmjohhmaaGreatDoor

/- Marks from 1 on. -/
namespace Go.Proofs.YtoangpfmjohhmaaGreatDoor
open Go.RowKit Go.Deep

theorem markVal_one (d : Nat) (S : Nat → Prop) (t : Tr (d + 1)) (v : Value) (w : World) (hv : ValOwn w (d + 1) S t v) (hS : Within S w) (h1 : 1 + wtT (d + 1) t ≤ 1099511627776) :
    Calls Tryz.prog 22 #[v, .int .i64 1] w fun e w' => e = .returned (.int .i64 (((markTop d t 1).2 : Nat) : Int)) ∧ ValOwn w' (d + 1) S (markTop d t 1).1 v ∧ Turn S w w' :=
  markVal_any d S t v 1 w hv hS (Nat.le_refl _) h1
theorem heldVal_one (d : Nat) (S : Nat → Prop) (t : Tr (d + 1)) (v : Value) (w : World) (hv : ValAt S w (d + 1) (markTop d t 1).1 v) (hS : Within S w) (h1 : 1 + wtT (d + 1) t ≤ 1099511627776) :
    Calls Tryz.prog 23 #[v, .int .i64 1] w fun e w' => e = .returned (.int .i64 (((markTop d t 1).2 : Nat) : Int)) ∧ Below w.heap.size w w' :=
  heldVal_any d S t v 1 w hv hS (Nat.le_refl _) h1
end Go.Proofs.YtoangpfmjohhmaaGreatDoor

/- How far marks go. -/
namespace Go.Proofs.YtoangpfmjohhmaaGreatDoor
open Go.RowKit Go.Deep

theorem markTop_bd (d : Nat) (t : Tr (d + 1)) (k : Nat) : k ≤ (markTop d t k).2 ∧ (markTop d t k).2 ≤ k + wtT (d + 1) t := by
  show k ≤ (markL (markT d) (Nd.list t) (k + (Nd.keys t).length)).2 ∧ (markL (markT d) (Nd.list t) (k + (Nd.keys t).length)).2 ≤ _
  rw [markL_to (markT_to d), wtT]
  omega
end Go.Proofs.YtoangpfmjohhmaaGreatDoor

/- toStringS, toVal, toValS once more: the copy owns its memory. -/
namespace Go.Proofs.YtoangpfmjohhmaaGreatDoor
open Go.RowKit Go.Deep

set_option maxHeartbeats 400000 in
theorem toStringS_own (S : Nat → Prop) (ss : List ByteArray) (v : Value) (w : World) (hv : StrsAt S w v ss) (hS : Within S w) :
    Calls Tryz.prog 52 #[v] w fun e w' => ∃ u, e = .returned u ∧ StrsOwn (Fresh w w') w' u ss ∧ Below w.heap.size w w' := by
  obtain ⟨a, cap, rfl, hlen⟩ := hv.open'
  have hmk := run_make_row' (P := Tryz.prog) 23 9 (.string ByteArray.empty) 16 Tryz.underlying23 Tryz.infoStr rfl .i64 .i64 ss.length (by omega) (by omega)
  have hb0 : Below w.heap.size w (w.alloc (.cells (madeCells #[.string ByteArray.empty] ss.length) 9)) := below_alloc1 _ _
  have hr0 := World.rowIs_made w (.string ByteArray.empty) ss.length 9
  go_enter Tryz.func52, Tryz.ntmps52
  go_wp2_with fail
  go_loopw [4] (fun i wr => ∃ (k : Nat), k ≤ ss.length ∧ i = .int .i64 k ∧ wr.rowIs w.heap.size 9 ss.length (strTo ss k) ∧ Below w.heap.size w wr) (fun i _ => ss.length - (intOf i).toNat)
  case atStart => exact ⟨0, Nat.zero_le _, rfl, hr0.congr (fun i _ => rfl), hb0⟩
  case round =>
    clear hb0 hr0 hmk
    obtain ⟨k, hk, rfl, hrow, hbel⟩ := hrel
    by_cases hkl : k < ss.length
    · obtain ⟨b, o, s, rfl, hb, hs, hsb, hck⟩ := (hv.same (hS.same hbel)).cell hkl
      have hc1 := hrow.cell hkl
      have hf1 := hrow.frozen k
      have hrow' := (hrow.set k (.string s)).congr (fun j _ => strTo_set ss k hs j)
      have hbel' := hbel.setCell (p := ⟨w.heap.size, k, none⟩) (Nat.le_refl _) (.string s)
      have HR := And.intro hrow' hbel'
      have HR' : Hid _ := HR
      clear hrow' hbel' HR hv hs hrow hbel
      go_wp2_with fail
      go_roundw
      case rel => exact ⟨k + 1, by omega, by go_num, HR'.out.1, HR'.out.2⟩
      case measure => simp [intOf]; omega
    · go_wp2_with fail
      go_ret
      refine ⟨_, rfl, ⟨hlen, ?_, _, _, rfl, ?_⟩, hbel⟩
      · obtain ⟨_, h2, _⟩ := hv
        exact h2
      · refine Or.inr ⟨w.heap.size, ss.length, _, ⟨Nat.le_refl _, hrow.lt⟩, rfl, Nat.le_refl _, hrow, fun i s hi => ?_⟩
        obtain ⟨hi', e⟩ := List.getElem?_eq_some_iff.1 hi
        rw [strTo, if_pos (by omega)]
        simp [hi]

/-- The first k things of a row that is being filled, each with blocks of its own. -/
structure FilledO {d : Nat} (N n : Nat) (xs : List (Tr d)) (w : World) (k : Nat) (f : Nat → Value) (P : Nat → Nat → Prop) : Prop where
  row : w.rowIs N 26 n f
  lo : ∀ j c, j < k → P j c → N < c ∧ c < w.heap.size
  dis : ∀ i j c, i < k → j < k → P i c → P j c → i = j
  val : ∀ j x, j < k → xs[j]? = some x → ValOwn w d (P j) x (.agg #[f (j * 5), f (j * 5 + 1), f (j * 5 + 2), f (j * 5 + 3), f (j * 5 + 4)])

theorem FilledO.step {d N n : Nat} {xs : List (Tr d)} {wr w1 : World} {k : Nat} {f : Nat → Value} {P : Nat → Nat → Prop} {x : Tr d} {v0 v1 v2 v3 v4 : Value} (h : FilledO N n xs wr k f P) (hb : Below wr.heap.size wr w1)
    (hx : xs[k]? = some x) (hu : ValOwn w1 d (Fresh wr w1) x (.agg #[v0, v1, v2, v3, v4])) :
    FilledO N n xs (set5 w1 N (k * 5) v0 v1 v2 v3 v4) (k + 1) (put5 f (k * 5) v0 v1 v2 v3 v4) (fun j c => if j = k then Fresh wr w1 c else P j c) := by
  obtain ⟨hrow, hlo, hdis, hv⟩ := h
  have hN := hrow.lt
  have hs2 : ∀ R : Nat → Prop, (∀ b, R b → N < b) → Same R w1 (set5 w1 N (k * 5) v0 v1 v2 v3 v4) := fun R hR b hb => set5_block _ _ _ _ _ _ _ _ _ (by have := hR b hb; omega)
  refine ⟨rowIs_set5 (hrow.of_block (hb.block N hN)) _ _ _ _ _ _, fun j c hj hc => ?_, fun i j c hi hj hci hcj => ?_, fun j y hj hy => ?_⟩
  · rw [set5_size]
    by_cases e : j = k
    · rw [if_pos e] at hc
      have := hc.1
      exact ⟨by omega, hc.2⟩
    · rw [if_neg e] at hc
      have := hlo j c (by omega) hc
      have := hb.size
      omega
  · by_cases ei : i = k
    · by_cases ej : j = k
      · omega
      · rw [if_pos ei] at hci
        rw [if_neg ej] at hcj
        have := (hlo j c (by omega) hcj).2
        have := hci.1
        omega
    · rw [if_neg ei] at hci
      by_cases ej : j = k
      · rw [if_pos ej] at hcj
        have := (hlo i c (by omega) hci).2
        have := hcj.1
        omega
      · rw [if_neg ej] at hcj
        exact hdis i j c (by omega) (by omega) hci hcj
  · by_cases e : j = k
    · subst e
      rw [hx] at hy
      cases hy
      obtain ⟨p0, p1, p2, p3, p4⟩ := put5_at f (j * 5) v0 v1 v2 v3 v4
      rw [p0, p1, p2, p3, p4]
      simp only [if_true]
      exact hu.same (hs2 _ (fun b hb => by have := hb.1; omega))
    · rw [put5_off _ _ _ _ _ _ _ _ (by omega), put5_off _ _ _ _ _ _ _ _ (by omega), put5_off _ _ _ _ _ _ _ _ (by omega), put5_off _ _ _ _ _ _ _ _ (by omega), put5_off _ _ _ _ _ _ _ _ (by omega)]
      simp only [if_neg e]
      have h1 := hv j y (by omega) hy
      have h2 := h1.same (w' := w1) (fun b hS => hb.block b (hlo j b (by omega) hS).2)
      exact h2.same (hs2 _ (fun b hb => (hlo j b (by omega) hb).1))

/-- What toVal does with trees of this depth. -/
def ToValO (d : Nat) : Prop := ∀ (S : Nat → Prop) (t : Tr d) (v : Value) (w : World), ValAt S w d t v → Within S w →
    Calls Tryz.prog 20 #[v] w fun e w' => ∃ u, e = .returned u ∧ ValOwn w' d (Fresh w w') t u ∧ Below w.heap.size w w'

set_option maxHeartbeats 1000000 in
theorem toValS_own (d : Nat) (H : ToValO d) (S : Nat → Prop) (xs : List (Tr d)) (v : Value) (w : World) (hv : RowAt S w (ValAt S w d) v xs) (hS : Within S w) :
    Calls Tryz.prog 53 #[v] w fun e w' => ∃ u, e = .returned u ∧ RowOwn w' (fun P x u => ValOwn w' d P x u) (Fresh w w') u xs ∧ Below w.heap.size w w' := by
  obtain ⟨a, cap, rfl, hlen⟩ := hv.open'
  have hmk := run_make5 xs.length hlen
  have hb0 : Below w.heap.size w (w.alloc (.cells (madeCells zero5 (xs.length * 5)) 26)) := below_alloc1 _ _
  have hr0 : FilledO (d := d) w.heap.size (xs.length * 5) xs (w.alloc (.cells (madeCells zero5 (xs.length * 5)) 26)) 0 (fun j => (madeCells zero5 (xs.length * 5)).getD j undef) (fun _ _ => False) := by
    refine ⟨?_, fun j x hj => by omega, fun j x c hj => by omega, fun j x hj => by omega⟩
    have := World.rowIs_alloc w (madeCells zero5 (xs.length * 5)) 26 (fun j => (madeCells zero5 (xs.length * 5)).getD j undef) (fun i hi => by simp [hi])
    rwa [size_madeCells] at this
  have HB : Hid _ := And.intro hb0 hr0
  clear hb0 hr0
  go_enter Tryz.func53, Tryz.ntmps53
  go_wp2_with fail
  go_loopw [4] (fun i wr => ∃ (k : Nat) (f : Nat → Value) (P : Nat → Nat → Prop), k ≤ xs.length ∧ i = .int .i64 k ∧ FilledO w.heap.size (xs.length * 5) xs wr k f P ∧ Below w.heap.size w wr) (fun i _ => xs.length - (intOf i).toNat)
  case atStart => exact ⟨0, _, _, Nat.zero_le _, rfl, HB.out.2, HB.out.1⟩
  case round =>
    clear HB hmk
    obtain ⟨k, f, P, hk, rfl, hrow, hbel⟩ := hrel
    by_cases hkl : k < xs.length
    · obtain ⟨b, o, x, c0, c1, c2, c3, c4, rfl, hb, hx, e0, e1, e2, e3, e4, hval⟩ := (hv.same (hS.same hbel)).cell hkl
      go_wp2_with fail
      refine (H S x _ wr hval (hS.later hbel.size)).mono ?_
      rintro e w1 ⟨u, rfl, hu, hb1⟩
      obtain ⟨v0, v1, v2, v3, v4, v5, v6, v7, v8, rfl⟩ := (ValOwn.at d _ _ _ hu).shape
      have hrow' := hrow.step hb1 hx hu
      have hbel' := below_set5 (hbel.trans (hb1.mono hbel.size)) (Nat.le_refl w.heap.size) (k * 5) (.int .i64 v0) (.int .i64 v1) (.string v2) (.slice v3 v4 v5) (.slice v6 v7 v8)
      have HR : Hid _ := And.intro hrow' hbel'
      have hr1 := hrow.row.of_block (hb1.block w.heap.size hrow.row.lt)
      have g0 := hr1.cell (i := k * 5) (by omega)
      have g1 := hr1.cell (i := k * 5 + 1) (by omega)
      have g2 := hr1.cell (i := k * 5 + 2) (by omega)
      have g3 := hr1.cell (i := k * 5 + 3) (by omega)
      have g4 := hr1.cell (i := k * 5 + 4) (by omega)
      have z0 := hr1.frozen (k * 5)
      have z1 := hr1.frozen (k * 5 + 1)
      have z2 := hr1.frozen (k * 5 + 2)
      have z3 := hr1.frozen (k * 5 + 3)
      have z4 := hr1.frozen (k * 5 + 4)
      clear hrow' hbel' hr1 hrow hbel hb1 hu hval e0 e1 e2 e3 e4 hv hx
      go_wp2_with fail
      go_roundw
      case rel => exact ⟨k + 1, _, _, by omega, by go_num, HR.out.1, HR.out.2⟩
      case measure => simp [intOf]; omega
    · go_wp2_with fail
      go_ret
      obtain rfl : k = xs.length := by omega
      refine ⟨_, rfl, ⟨hlen, _, _, rfl, ?_⟩, hbel⟩
      refine Or.inr ⟨w.heap.size, xs.length * 5, f, fun j c => j < xs.length ∧ P j c, ⟨Nat.le_refl _, hrow.row.lt⟩, rfl, Nat.le_refl _, hrow.row, fun i c hc => ?_, fun i j c hi hj => hrow.dis i j c hi.1 hj.1 hi.2 hj.2, fun i x hi => ?_⟩
      · have := hrow.lo i c hc.1 hc.2
        exact ⟨⟨by omega, this.2⟩, by omega⟩
      · have hi' := (List.getElem?_eq_some_iff.1 hi).1
        exact (hrow.val i x hi' hi).mono (fun c hc => ⟨hi', hc⟩)

set_option maxHeartbeats 1000000 in
theorem toVal_own : ∀ (d : Nat), ToValO d
  | 0 => fun _ _ _ _ h => h.elim
  | d + 1 => by
    intro S t v w hv hS
    have ih := toVal_own d
    obtain ⟨vk, vl, rfl, i1, i2, i3, hk, hl⟩ := hv
    obtain ⟨ak, ck, rfl, hkl⟩ := hk.open'
    obtain ⟨al, cl, rfl, hll⟩ := hl.open'
    go_enter Tryz.func20, Tryz.ntmps20
    go_wp2_with fail
    obtain ⟨k0, k1, k2, hb0, hsz⟩ := laid3 w 40 26 26 (.int .i64 t.kind) (.int .i64 t.num) (.string t.str) (.slice ak t.keys.length ck) (.slice al t.list.length cl)
      (.int .i64 0) (.int .i64 0) (.string { data := #[] }) (.slice none 0 0) (.slice none 0 0) (.int .i64 t.kind) (.int .i64 t.num) (.string t.str) (.slice none 0 0) (.slice none 0 0)
    refine (toStringS_own S t.keys _ _ (hk.same (hS.same hb0)) (hS.later hb0.size)).mono ?_
    rintro e w1 ⟨u1, rfl, hu1, hb1⟩
    obtain ⟨a1, c1, rfl, _⟩ := hu1.open'
    replace k0 := k0.below hb1
    replace k1 := k1.below hb1
    replace k2 := k2.below hb1
    have hu1' := hu1.moved (S' := fun b => w.heap.size + 2 < b ∧ b < w1.heap.size) (Same.refl _ _) (fun b hb => ⟨by have := hb.1; omega, hb.2⟩)
    replace hb1 := below_trans hb0 hb1
    clear hb0 hsz hu1
    obtain ⟨_, _, _, _, z0⟩ := k0.cell
    obtain ⟨x0, x1, x2, x3, x4⟩ := k2.cell
    have x5 := k2.frozen 3
    have k0' := k0.other (a := ⟨w.heap.size + 1 + 1, 3, none⟩) (.slice a1 t.keys.length c1) (by simp; omega)
    have k1' := k1.other (a := ⟨w.heap.size + 1 + 1, 3, none⟩) (.slice a1 t.keys.length c1) (by simp)
    have k2' := k2.set3 (.slice a1 t.keys.length c1)
    go_wp2_with fail
    clear z0 x0 x1 x2 x3 x4 x5 k0 k1 k2 k0'
    have hs1 : Same (fun b => w.heap.size + 2 < b ∧ b < w1.heap.size) w1 (w1.setCell ⟨w.heap.size + 1 + 1, 3, none⟩ (.slice a1 t.keys.length c1)) := fun b hb => Below.heap_setCell _ _ _ _ (by have := hb.1; show b ≠ w.heap.size + 1 + 1; omega)
    have hb2 := hb1.setCell (p := ⟨w.heap.size + 1 + 1, 3, none⟩) (by show w.heap.size ≤ w.heap.size + 1 + 1; omega) (.slice a1 t.keys.length c1)
    have hu2 := hu1'.moved hs1 (fun _ h => h)
    have hz2 := size_setCell1 w1 ⟨w.heap.size + 1 + 1, 3, none⟩ (.slice a1 t.keys.length c1)
    refine (toValS_own d ih S t.list _ _ (hl.same (hS.same hb2)) (hS.later hb2.size)).mono ?_
    clear hb1 hu1' hs1
    rintro e w3 ⟨u3, rfl, hu3, hb3⟩
    obtain ⟨a3, c3, rfl, _⟩ := hu3.open'
    have hk2 := k2'.lt
    replace k1 := k1'.below hb3
    replace k2 := k2'.below hb3
    clear k1' k2'
    rw [hz2] at hk2
    have hz3 : w1.heap.size ≤ w3.heap.size := by have := hb3.size; omega
    have hu2' := hu2.moved (w' := w3) (fun b hb => hb3.block b (by rw [hz2]; exact hb.2)) (fun _ h => h)
    have hu3' := hu3.moved (S' := fun b => w1.heap.size ≤ b ∧ b < w3.heap.size) (Same.refl _ _) (fun b hb => ⟨by have h1 := hb.1; rw [hz2] at h1; exact h1, hb.2⟩) (fun _ _ _ _ h => h)
    have hb4 := below_trans hb2 hb3
    have hw3 := hb4.size
    have hw1 : w.heap.size + 2 < w1.heap.size := by omega
    clear hu2 hu3 hb2 hb3 hz2
    obtain ⟨y0, y1, y2, y3, y4⟩ := k1.cell
    have yf := k1.frozen
    obtain ⟨x0, x1, x2, x3, x4⟩ := k2.cell
    have xf := k2.frozen 4
    have hend : ∀ wF, wF = set5 (w3.setCell ⟨w.heap.size + 1 + 1, 4, none⟩ (.slice a3 t.list.length c3)) (w.heap.size + 1) 0 (.int .i64 t.kind) (.int .i64 t.num) (.string t.str) (.slice a1 t.keys.length c1) (.slice a3 t.list.length c3) →
        ValOwn wF (d + 1) (Fresh w wF) t (.agg #[.int .i64 t.kind, .int .i64 t.num, .string t.str, .slice a1 t.keys.length c1, .slice a3 t.list.length c3]) ∧ Below w.heap.size w wF := by
      intro wF hF
      have hs : ∀ R : Nat → Prop, (∀ b, R b → w.heap.size + 2 < b) → Same R w3 wF := fun R hR b hb => by
        have := hR b hb
        rw [hF, set5_block _ _ _ _ _ _ _ _ _ (by omega), Below.heap_setCell _ _ _ _ (by show b ≠ w.heap.size + 1 + 1; omega)]
      have hzF : wF.heap.size = w3.heap.size := by rw [hF, set5_size, size_setCell1]
      refine ⟨⟨_, _, _, _, rfl, i1, i2, i3, hu2'.moved (hs _ (fun b hb => hb.1)) (fun _ h => h), hu3'.moved (hs _ (fun b hb => by have := hb.1; omega)) (fun _ h => h) (fun P x u hP hx => ValOwn.moved d P P x u hx (hs P (fun b hb => by have := (hP b hb).1; omega)) (fun _ h => h)), ?_, ?_, ?_⟩, ?_⟩
      · exact fun b hb => ⟨by have := hb.1; omega, by have := hb.2; omega⟩
      · exact fun b hb => ⟨by have := hb.1; omega, by have := hb.2; omega⟩
      · exact fun b hb hb' => by have := hb.2; have := hb'.1; omega
      rw [hF]
      exact below_set5 (hb4.setCell (by show w.heap.size ≤ w.heap.size + 1 + 1; omega) _) (by omega) _ _ _ _ _ _
    have HE : Hid _ := hend
    clear hend k1 k2 hu2' hu3' hb4 hk hl
    go_wp2_with fail
    refine bodyPost_ret (v := .agg #[.int .i64 t.kind, .int .i64 t.num, .string t.str, .slice a1 t.keys.length c1, .slice a3 t.list.length c3]) (by simp [results, Tryz.results20, go_sem, y0, y1, y2, y3, y4]) rfl ⟨_, rfl, HE.out _ rfl⟩
end Go.Proofs.YtoangpfmjohhmaaGreatDoor

/- eqStringS, eqVal, eqValS: two trees are one. -/
namespace Go.Proofs.YtoangpfmjohhmaaGreatDoor
open Go.RowKit Go.Deep
set_option maxHeartbeats 400000 in
theorem eqStringS_any (S S' : Nat → Prop) (ss ss' : List ByteArray) (v v' : Value) (w : World) (hv : StrsAt S w v ss) (hv' : StrsAt S' w v' ss') :
    Calls Tryz.prog 54 #[v, v'] w fun e w' => e = .returned (.bool (eqStrs ss ss')) ∧ ∃ n, w' = w.drewN n := by
  obtain ⟨a, cap, rfl, hlen⟩ := hv.open'
  obtain ⟨a', cap', rfl, hlen'⟩ := hv'.open'
  by_cases hne : ss.length = ss'.length
  · rw [← hne]
    have HN : Hid (ss.length = ss'.length) := hne
    clear hne
    have hq : ((ss.length : Int) != (ss.length : Int)) = false := by simp
    go_enter Tryz.func54, Tryz.ntmps54
    go_wp2_with fail
    go_loopw [5] (fun i wr => ∃ (k n : Nat), k ≤ ss.length ∧ i = .int .i64 k ∧ wr = w.drewN n ∧ Hid (eqStrs ss ss' = eqStrs (ss.drop k) (ss'.drop k))) (fun i _ => ss.length - (intOf i).toNat)
    case atStart => exact ⟨0, 0, Nat.zero_le _, rfl, rfl, rfl⟩
    case round =>
      obtain ⟨k, n, hk, rfl, rfl, hfin⟩ := hrel
      by_cases hkl : k < ss.length
      · obtain ⟨b, o, s, rfl, _, hs, _, hck⟩ := hv.cell hkl
        obtain ⟨b', o', s', rfl, _, hs', _, hck'⟩ := hv'.cell (by rw [← HN.out]; exact hkl)
        have hst : Hid (_ = _) := eqStrs_drop hs hs'
        clear hv hv' hs hs'
        have hki : (k : Int) < (ss.length : Int) := by omega
        by_cases heq : (s.toList == s'.toList) = true
        · have hst2 : Hid (eqStrs ss ss' = eqStrs (ss.drop (k + 1)) (ss'.drop (k + 1))) := by
            show eqStrs ss ss' = _
            rw [hfin.out, hst.out, heq]
            rfl
          clear hst hfin
          go_wp2_with fail
          go_quiet (fail)
          go_wp2_with fail
          exact ⟨⟨k + 1, n + nq, by omega, by go_num, by simp, hst2⟩, by simp [intOf]; omega⟩
        · have heq' : (s.toList == s'.toList) = false := by simpa using heq
          have hfin2 : Hid (eqStrs ss ss' = false) := by
            show eqStrs ss ss' = false
            rw [hfin.out, hst.out, heq']
            rfl
          clear hst hfin heq
          go_wp2_with fail
          go_quiet (fail)
          go_wp2_with fail
          go_ret
          rw [hfin2.out]
          exact ⟨rfl, n + nq, by simp⟩
      · go_wp2_with fail
        go_ret
        rw [hfin.out, List.drop_eq_nil_of_le (by omega), List.drop_eq_nil_of_le (by have := HN.out; omega)]
        exact ⟨rfl, n, rfl⟩
  · have hfin : Hid (eqStrs ss ss' = false) := by
      show eqStrs ss ss' = false
      cases h : eqStrs ss ss'
      · rfl
      · exact absurd (eqStrs_len _ _ h) hne
    have hq : ((ss.length : Int) != (ss'.length : Int)) = true := by rw [bne_iff_ne]; omega
    go_enter Tryz.func54, Tryz.ntmps54
    go_wp2_with fail
    go_ret
    rw [hfin.out]
    exact ⟨rfl, 0, rfl⟩

/-- What eqVal does with trees of this depth. -/
def EqVal (d : Nat) : Prop := ∀ (S S' : Nat → Prop) (t t' : Tr d) (v v' : Value) (w : World), ValAt S w d t v → ValAt S' w d t' v' → Within S w → Within S' w →
    Calls Tryz.prog 21 #[v, v'] w fun e w' => e = .returned (.bool (eqT d t t')) ∧ Below w.heap.size w w'

set_option maxHeartbeats 1000000 in
theorem eqValS_any (d : Nat) (H : EqVal d) (S S' : Nat → Prop) (xs xs' : List (Tr d)) (v v' : Value) (w : World) (hv : RowAt S w (ValAt S w d) v xs) (hv' : RowAt S' w (ValAt S' w d) v' xs') (hS : Within S w) (hS' : Within S' w) :
    Calls Tryz.prog 55 #[v, v'] w fun e w' => e = .returned (.bool (eqL (eqT d) xs xs')) ∧ Below w.heap.size w w' := by
  obtain ⟨a, cap, rfl, hlen⟩ := hv.open'
  obtain ⟨a', cap', rfl, hlen'⟩ := hv'.open'
  by_cases hne : xs.length = xs'.length
  · rw [← hne]
    have HN : Hid (xs.length = xs'.length) := hne
    clear hne
    have hq : ((xs.length : Int) != (xs.length : Int)) = false := by simp
    go_enter Tryz.func55, Tryz.ntmps55
    go_wp2_with fail
    go_loopw [5] (fun i wr => ∃ (k : Nat), k ≤ xs.length ∧ i = .int .i64 k ∧ Below w.heap.size w wr ∧ Hid (eqL (eqT d) xs xs' = eqL (eqT d) (xs.drop k) (xs'.drop k))) (fun i _ => xs.length - (intOf i).toNat)
    case atStart => exact ⟨0, Nat.zero_le _, rfl, Below.refl _ _, rfl⟩
    case round =>
      obtain ⟨k, hk, rfl, hbel, hfin⟩ := hrel
      by_cases hkl : k < xs.length
      · obtain ⟨b, o, x, c0, c1, c2, c3, c4, rfl, hb, hx, e0, e1, e2, e3, e4, hval⟩ := (hv.same (hS.same hbel)).cell hkl
        obtain ⟨b', o', x', c0', c1', c2', c3', c4', rfl, hb', hx', e0', e1', e2', e3', e4', hval'⟩ := (hv'.same (hS'.same hbel)).cell (by rw [← HN.out]; exact hkl)
        have hst : Hid (_ = _) := eqL_drop (eqT d) hx hx'
        have hW := hS.later hbel.size
        have hW' := hS'.later hbel.size
        clear hv hv' hx hx' hS hS'
        have hki : (k : Int) < (xs.length : Int) := by omega
        by_cases heq : eqT d x x' = true
        · have hst2 : Hid (eqL (eqT d) xs xs' = eqL (eqT d) (xs.drop (k + 1)) (xs'.drop (k + 1))) := by
            show eqL (eqT d) xs xs' = _
            rw [hfin.out, hst.out, heq]
            rfl
          clear hst hfin
          go_wp2_with fail
          go_region_with (go_at_call 21; refine (H S S' x x' _ _ _ ?_ ?_ ?_ ?_).mono ?_; exact hval.same (fun _ _ => rfl); exact hval'.same (fun _ _ => rfl); exact hW; exact hW'; rintro e w1 ⟨rfl, hb1⟩)
          all_goals
            have hb2 : Below w.heap.size w w1 := below_trans hbel (show Below wr.heap.size wr w1 from ⟨hb1.os, hb1.tape, hb1.output, hb1.size, hb1.block⟩)
            clear hb1 hbel hval hval' e0 e1 e2 e3 e4 e0' e1' e2' e3' e4'
            go_wp2_with fail
            go_roundw
            case rel => exact ⟨k + 1, by omega, by go_num, hb2, hst2⟩
            case measure => simp [intOf]; omega
        · have heq' : eqT d x x' = false := by simpa using heq
          have hfin2 : Hid (eqL (eqT d) xs xs' = false) := by
            show eqL (eqT d) xs xs' = false
            rw [hfin.out, hst.out, heq']
            rfl
          clear hst hfin heq
          go_wp2_with fail
          go_region_with (go_at_call 21; refine (H S S' x x' _ _ _ ?_ ?_ ?_ ?_).mono ?_; exact hval.same (fun _ _ => rfl); exact hval'.same (fun _ _ => rfl); exact hW; exact hW'; rintro e w1 ⟨rfl, hb1⟩)
          all_goals
            have hb2 : Below w.heap.size w w1 := below_trans hbel (show Below wr.heap.size wr w1 from ⟨hb1.os, hb1.tape, hb1.output, hb1.size, hb1.block⟩)
            clear hb1 hbel hval hval' e0 e1 e2 e3 e4 e0' e1' e2' e3' e4'
            go_wp2_with fail
            go_ret
            rw [hfin2.out]
            exact ⟨rfl, hb2⟩
      · go_wp2_with fail
        go_ret
        rw [hfin.out, List.drop_eq_nil_of_le (by omega), List.drop_eq_nil_of_le (by have := HN.out; omega)]
        exact ⟨rfl, hbel⟩
  · have hfin : Hid (eqL (eqT d) xs xs' = false) := by
      show eqL (eqT d) xs xs' = false
      cases h : eqL (eqT d) xs xs'
      · rfl
      · exact absurd (eqL_len _ _ _ h) hne
    have hq : ((xs.length : Int) != (xs'.length : Int)) = true := by rw [bne_iff_ne]; omega
    go_enter Tryz.func55, Tryz.ntmps55
    go_wp2_with fail
    go_ret
    rw [hfin.out]
    exact ⟨rfl, Below.refl _ _⟩

set_option maxHeartbeats 1000000 in
theorem eqVal_any : ∀ (d : Nat), EqVal d
  | 0 => fun _ _ _ _ _ _ _ h => h.elim
  | d + 1 => by
    intro S S' t t' v v' w hv hv' hS hS'
    have ih := eqVal_any d
    obtain ⟨vk, vl, rfl, i1, i2, i3, hk, hl⟩ := hv
    obtain ⟨ak, ck, rfl, hkl⟩ := hk.open'
    obtain ⟨al, cl, rfl, hll⟩ := hl.open'
    obtain ⟨vk', vl', rfl, i1', i2', i3', hk', hl'⟩ := hv'
    obtain ⟨ak', ck', rfl, hkl'⟩ := hk'.open'
    obtain ⟨al', cl', rfl, hll'⟩ := hl'.open'
    have hba : Below w.heap.size w ((w.alloc (Obj.cells #[.int .i64 t.kind, .int .i64 t.num, .string t.str, .slice ak t.keys.length ck, .slice al t.list.length cl] 26)).alloc
      (Obj.cells #[.int .i64 t'.kind, .int .i64 t'.num, .string t'.str, .slice ak' t'.keys.length ck', .slice al' t'.list.length cl'] 26)) := below_trans (below_alloc1 _ _) (below_alloc1 _ _)
    cases h1 : (t.kind == t'.kind) with
    | false =>
      have hfin : Hid (eqT (d + 1) t t' = false) := by
        show eqT (d + 1) t t' = false
        rw [eqT, h1]
        rfl
      have hq : (t.kind != t'.kind) = true := by rw [bne, h1]; rfl
      clear h1
      go_enter Tryz.func21, Tryz.ntmps21
      go_wp2_with fail
      go_ret
      rw [hfin.out]
      exact ⟨rfl, hba⟩
    | true =>
    have hq : (t.kind != t'.kind) = false := by rw [bne, h1]; rfl
    cases h2 : (t.num == t'.num) with
    | false =>
      have hfin : Hid (eqT (d + 1) t t' = false) := by
        show eqT (d + 1) t t' = false
        rw [eqT, h1, h2]
        rfl
      have hq2 : (t.num != t'.num) = true := by rw [bne, h2]; rfl
      clear h1 h2
      go_enter Tryz.func21, Tryz.ntmps21
      go_wp2_with fail
      go_ret
      rw [hfin.out]
      exact ⟨rfl, hba⟩
    | true =>
    have hq2 : (t.num != t'.num) = false := by rw [bne, h2]; rfl
    cases h3 : (t.str.toList == t'.str.toList) with
    | false =>
      have hfin : Hid (eqT (d + 1) t t' = false) := by
        show eqT (d + 1) t t' = false
        rw [eqT, h1, h2, h3]
        rfl
      clear h1 h2
      go_enter Tryz.func21, Tryz.ntmps21
      go_wp2_with fail
      go_ret
      rw [hfin.out]
      exact ⟨rfl, hba⟩
    | true =>
    have hfin : Hid (eqT (d + 1) t t' = (eqStrs t.keys t'.keys && eqL (eqT d) t.list t'.list)) := by
      show eqT (d + 1) t t' = _
      rw [eqT, h1, h2, h3]
      rfl
    clear h1 h2
    go_enter Tryz.func21, Tryz.ntmps21
    go_wp2_with fail
    refine (eqStringS_any S S' t.keys t'.keys _ _ _ (hk.same (hS.same hba)) (hk'.same (hS'.same hba))).mono ?_
    rintro e w1 ⟨rfl, n, rfl⟩
    cases h4 : eqStrs t.keys t'.keys with
    | false =>
      go_wp2_with fail
      go_ret
      rw [hfin.out, h4]
      exact ⟨rfl, hba.trans (below_drewN _ _ _)⟩
    | true =>
    go_wp2_with fail
    have hbb := hba.trans (below_drewN w.heap.size _ n)
    refine (eqValS_any d ih S S' t.list t'.list _ _ _ (hl.same (hS.same hbb)) (hl'.same (hS'.same hbb)) (hS.later hbb.size) (hS'.later hbb.size)).mono ?_
    rintro e w2 ⟨rfl, hb2⟩
    have hb3 := below_trans hbb hb2
    clear hb2 hbb hba
    cases h5 : eqL (eqT d) t.list t'.list with
    | false =>
      go_wp2_with fail
      go_ret
      rw [hfin.out, h4, h5]
      exact ⟨rfl, hb3⟩
    | true =>
      go_wp2_with fail
      go_ret
      rw [hfin.out, h4, h5]
      exact ⟨rfl, hb3⟩
end Go.Proofs.YtoangpfmjohhmaaGreatDoor
