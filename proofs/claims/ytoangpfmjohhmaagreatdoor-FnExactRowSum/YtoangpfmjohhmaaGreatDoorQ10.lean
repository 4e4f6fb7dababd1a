/- Texts of the proof, put together by program: WHeld, WCopyP, WCopyQ. -/
import Derived.Test.YtoangpfmjohhmaaGreatDoorQ9
import Derived.Test.YtoangpfmjohhmaaGreatDoorQ2
import Derived.Test.YtoangpfmjohhmaaGreatDoorQ5
import Derived.Deep.RegionHeld3
import Derived.Deep.RegionLaw
import Derived.Deep.DeepCutAuto
import Derived.Deep.AppendLies
/- heldStringS, heldValS, heldVal: the marks are there. -/
namespace Go.Proofs.YtoangpfmjohhmaaGreatDoor
open Go.RowKit Go.Deep

theorem ext_cell {W : World} {b o : Nat} {u : Value} (h : W.cell? ⟨b, o, none⟩ = some u) (n : Ext W) : n.now.cell? ⟨b, o, none⟩ = some u :=
  (n.from_.cell (p := ⟨b, o, none⟩) (World.block_lt_of_cell? W _ h)).trans h

set_option maxRecDepth 100000 in
set_option maxHeartbeats 1000000 in
theorem heldStringS_any (S : Nat → Prop) (ss : List ByteArray) (v : Value) (k : Nat) (w : World) (hv : StrsAt S w v ss) (hS : Within S w) (hmk : ∀ i s, ss[i]? = some s → s = mt (k + i)) (h0 : 1 ≤ k) (h1 : k + ss.length ≤ 1099511627776) :
    Calls Tryz.prog 58 #[v, .int .i64 (k : Int)] w fun e w' => e = .returned (.int .i64 ((k + ss.length : Nat) : Int)) ∧ Below w.heap.size w w' := by
  obtain ⟨a, cap, rfl, hlen⟩ := hv.open'
  have HM := hide hmk
  clear hmk
  go_enter Tryz.func58, Tryz.ntmps58
  go_wp2_with fail
  go_loopw [1, 5] (fun kk i wr => ∃ (m : Nat), m ≤ ss.length ∧ i = .int .i64 (m : Int) ∧ kk = .int .i64 ((k + m : Nat) : Int) ∧ Below w.heap.size w wr) (fun _ i _ => ss.length - (intOf i).toNat)
  case atStart => exact ⟨0, Nat.zero_le _, rfl, rfl, Below.refl _ _⟩
  case round =>
    obtain ⟨m, hm, rfl, rfl, hbel⟩ := hrel
    by_cases hml : m < ss.length
    · obtain ⟨b, o, s, rfl, _, hs, _, hck⟩ := (hv.same (hS.same hbel)).cell hml
      obtain rfl := HM.out m s hs
      have hki : (m : Int) < (ss.length : Int) := by omega
      have hq : ((mt (k + m)).toList == (mt (k + m)).toList) = true := by simp
      have y := fun n => ext_cell hck n
      have hne := Ext.some wr
      clear hs hv
      go_wp2_with fail
      refine wp_region_ext (by kernel_rfl) (by kernel_rfl) ?_
      repeat (first | go_big_quiet_step ((go_at_call 67; rw [show ((k : Int) + (m : Int)) = ((k + m : Nat) : Int) by omega]; exact Calls.ext_of (markText_any (k + m) _ (by omega) (by omega)))) | quiet_step ((go_at_call 67; rw [show ((k : Int) + (m : Int)) = ((k + m : Nat) : Int) by omega]; exact Calls.ext_of (markText_any (k + m) _ (by omega) (by omega)))))
      refine wpQuiet_nil ?_
      rintro _ ⟨n, rfl⟩
      have hb2 := hide (below_trans hbel n.from_)
      clear y
      go_wp2_with fail
      go_roundw
      case rel => exact ⟨m + 1, by omega, by go_num, by go_num, hb2.out⟩
      case measure => simp [intOf]; omega
    · obtain rfl : m = ss.length := by omega
      go_wp2_with fail
      go_ret
      exact ⟨rfl, hbel⟩

/-- What heldValS does with trees of this depth that have marks. -/
def HeldVals (d : Nat) : Prop := ∀ (S : Nat → Prop) (xs : List (Tr d)) (v : Value) (k : Nat) (w : World), RowAt S w (ValAt S w d) v (markL (markT d) xs k).1 → Within S w → 1 ≤ k → k + (xs.map (wtT d)).sum ≤ 1099511627776 →
    Calls Tryz.prog 59 #[v, .int .i64 (k : Int)] w fun e w' => e = .returned (.int .i64 (((markL (markT d) xs k).2 : Nat) : Int)) ∧ Below w.heap.size w w'

set_option maxRecDepth 100000 in
set_option maxHeartbeats 1000000 in
theorem heldValS_nil (d : Nat) (a : Option Addr) (cap k : Nat) (w : World) :
    Calls Tryz.prog 59 #[.slice a 0 cap, .int .i64 (k : Int)] w fun e w' => e = .returned (.int .i64 (((markL (markT d) [] k).2 : Nat) : Int)) ∧ Below w.heap.size w w' := by
  go_enter Tryz.func59, Tryz.ntmps59
  go_wp2_with fail
  go_loopw [1, 5] (fun kk i wr => kk = .int .i64 (k : Int) ∧ i = .int .i64 0 ∧ wr = w) (fun _ _ _ => 0)
  case atStart => exact ⟨rfl, rfl, rfl⟩
  case round =>
    obtain ⟨rfl, rfl, rfl⟩ := hrel
    go_wp2_with fail
    go_ret
    exact ⟨rfl, Below.refl _ _⟩

set_option maxRecDepth 100000 in
set_option maxHeartbeats 1000000 in
theorem heldValS_any : ∀ (d : Nat), HeldVals d
  | 0 => by
    intro S xs v k w hv hS h0 h1
    cases xs with
    | nil =>
      obtain ⟨a, cap, rfl, _⟩ := hv.open'
      exact heldValS_nil 0 a cap k w
    | cons x r => exact Empty.elim x
  | d + 1 => by
    intro S xs v k w hv hS h0 h1
    have ih := heldValS_any d
    obtain ⟨a, cap, rfl, hlen⟩ := hv.open'
    rw [markL_length] at hlen ⊢
    rw [markL_length] at hv
    go_enter Tryz.func59, Tryz.ntmps59
    go_wp2_with fail
    go_loopw [1, 5] (fun kk i wr => ∃ (m : Nat), m ≤ xs.length ∧ i = .int .i64 (m : Int) ∧ kk = .int .i64 ((markTo (markT (d + 1)) xs k m : Nat) : Int) ∧ Below w.heap.size w wr) (fun _ i _ => xs.length - (intOf i).toNat)
    case atStart => exact ⟨0, Nat.zero_le _, rfl, by rw [markTo_zero], Below.refl _ _⟩
    case round =>
      obtain ⟨m, hm, rfl, rfl, hbel⟩ := hrel
      by_cases hml : m < xs.length
      · obtain ⟨x, hx⟩ : ∃ x, xs[m]? = some x := ⟨xs[m], List.getElem?_eq_getElem hml⟩
        obtain ⟨b, o, y, c0, c1, c2, c3, c4, rfl, _, hy, e0, e1, e2, e3, e4, hval⟩ := (hv.same (hS.same hbel)).cell (k := m) (by rw [markL_length]; exact hml)
        rw [markL_get (markT (d + 1)) xs k m x hx] at hy
        cases hy
        have hst := markTo_step (markT (d + 1)) xs k m x hx
        rw [markT_to] at hst
        have hks := markTo_le xs k (m + 1)
        have hkl := markTo_le xs k m
        generalize hK : markTo (markT (d + 1)) xs k m = K at *
        obtain ⟨vk, vl, hag, _, _, _, hk, hl⟩ := hval
        have hk' : StrsAt S wr vk (markStrs x.keys (K + 3)) := hk
        have hl' : RowAt S wr (ValAt S wr d) vl (markL (markT d) x.list (K + 3 + x.keys.length)).1 := hl
        obtain ⟨ak, ck, rfl, hkn⟩ := hk'.open'
        obtain ⟨al, cl, rfl, hln⟩ := hl'.open'
        rw [markStrs_length] at hkn
        rw [markL_length] at hln
        rw [wtT] at hst
        have hb3 : K + 3 + x.keys.length + (x.list.map (wtT d)).sum ≤ 1099511627776 := by omega
        have f0 : c0 = .int .i64 (K : Int) ∧ c1 = .int .i64 ((K : Int) + 1) ∧ c2 = .string (mt (K + 2)) ∧ c3 = .slice ak x.keys.length ck ∧ c4 = .slice al x.list.length cl := by
          simp only [Value.agg.injEq, Array.mk.injEq, List.cons.injEq, and_true] at hag
          rw [markStrs_length, markL_length] at hag
          exact hag
        obtain ⟨rfl, rfl, rfl, rfl, rfl⟩ := f0
        rw [markStrs_length] at hk'
        rw [markL_length] at hl'
        have HST := hide hst
        have HK := hide hK
        have HKL := hide hkl
        have q0 : ((K : Int) != (K : Int)) = false := by simp
        have q1 : ((K : Int) + 1 != (K : Int) + 1) = false := by simp
        have q2 : ((mt (K + 2)).toList == (mt (K + 2)).toList) = true := by simp
        have hki : (m : Int) < (xs.length : Int) := by omega
        clear hag hk hl hst hK hks hkl hx
        go_wp2_with fail
        have y2 := fun n => ext_cell e2 n
        have hne := Ext.some wr
        refine wp_region_ext (by kernel_rfl) (by kernel_rfl) ?_
        repeat (first | go_big_quiet_step ((go_at_call 67; rw [show ((K : Int) + 1 + 1) = ((K + 2 : Nat) : Int) by omega]; exact Calls.ext_of (markText_any (K + 2) _ (by omega) (by omega)))) | quiet_step ((go_at_call 67; rw [show ((K : Int) + 1 + 1) = ((K + 2 : Nat) : Int) by omega]; exact Calls.ext_of (markText_any (K + 2) _ (by omega) (by omega)))))
        refine wpQuiet_nil ?_
        rintro _ ⟨n, rfl⟩
        have hb2 := below_trans hbel n.from_
        have e3' := ext_cell e3 n
        have e4' := ext_cell e4 n
        have hW := hS.later hb2.size
        have hbs : Same S wr n.now := (hS.later hbel.size).same n.from_
        have hk2 := hk'.same hbs
        have hl2 := hl'.same hbs
        generalize n.now = w2 at *
        have HV := hide hv
        clear y2 hbs hk' hl' e0 e1 e2 e3 e4 q0 q1 q2 hbel hv hne n
        go_wp2_with fail
        rw [show ((K : Int) + 1 + 1 + 1) = ((K + 3 : Nat) : Int) by omega]
        refine (heldStringS_any S (markStrs x.keys (K + 3)) _ (K + 3) w2 hk2 hW (markStrs_get x.keys (K + 3)) (by omega) (by rw [markStrs_length]; omega)).mono ?_
        rintro e w3 ⟨rfl, hb3'⟩
        rw [markStrs_length]
        have e4'' := (hb3'.cell (p := ⟨b, o + m * 5 + 4, none⟩) (World.block_lt_of_cell? w2 _ e4')).trans e4'
        have hl3 := hl2.same (hW.same hb3')
        have hW3 := hW.later hb3'.size
        have HB3 := hide (below_trans hb2 hb3')
        have hnn : ¬ ((K : Int) + 3 + (x.keys.length : Int) < 0) := by omega
        clear e3' e4' hb3' hb2 hk2 hl2 hW
        go_wp2_with fail
        rw [show ((K : Int) + 3 + (x.keys.length : Int)) = ((K + 3 + x.keys.length : Nat) : Int) by omega]
        refine (ih S x.list _ (K + 3 + x.keys.length) w3 hl3 hW3 (by omega) (by omega)).mono ?_
        rintro e w4 ⟨rfl, hb4⟩
        have HB4 := hide (below_trans HB3.out hb4)
        have HM : Hid ((markL (markT d) x.list (K + 3 + x.keys.length)).2 = markTo (markT (d + 1)) xs k (m + 1)) := by
          show _ = _
          rw [markL_to (markT_to d), HST.out]
          omega
        rw [HM.out]
        have hnn2 : ¬ (((markTo (markT (d + 1)) xs k (m + 1) : Nat) : Int) < 0) := by omega
        clear hb4 hl3 hW3 e4'' HB3
        go_wp2_with fail
        go_roundw
        case rel => exact ⟨m + 1, by omega, by go_num, rfl, HB4.out⟩
        case measure => simp [intOf]; omega
      · obtain rfl : m = xs.length := by omega
        have HM : Hid (markTo (markT (d + 1)) xs k xs.length = (markL (markT (d + 1)) xs k).2) := markTo_all _ _ _
        rw [HM.out]
        go_wp2_with fail
        go_ret
        exact ⟨rfl, hbel⟩

set_option maxRecDepth 100000 in
set_option maxHeartbeats 1000000 in
theorem heldVal_any (d : Nat) (S : Nat → Prop) (t : Tr (d + 1)) (v : Value) (k : Nat) (w : World) (hv : ValAt S w (d + 1) (markTop d t k).1 v) (hS : Within S w) (h0 : 1 ≤ k) (h1 : k + (wtT (d + 1) t) ≤ 1099511627776) :
    Calls Tryz.prog 23 #[v, .int .i64 (k : Int)] w fun e w' => e = .returned (.int .i64 (((markTop d t k).2 : Nat) : Int)) ∧ Below w.heap.size w w' := by
  obtain ⟨vk, vl, rfl, i1, i2, i3, hk, hl⟩ := hv
  have hk' : StrsAt S w vk (markStrs t.keys k) := hk
  have hl' : RowAt S w (ValAt S w d) vl (markL (markT d) t.list (k + t.keys.length)).1 := hl
  obtain ⟨ak, ck, rfl, hkl⟩ := hk'.open'
  obtain ⟨al, cl, rfl, hll⟩ := hl'.open'
  rw [wtT] at h1
  rw [markStrs_length] at hkl
  rw [markL_length] at hll
  clear hk hl
  have e1 : Value.agg #[.int .i64 (markTop d t k).1.kind, .int .i64 (markTop d t k).1.num, .string (markTop d t k).1.str, .slice ak (markStrs t.keys k).length ck, .slice al (markL (markT d) t.list (k + t.keys.length)).1.length cl] =
      .agg #[.int .i64 t.kind, .int .i64 t.num, .string t.str, .slice ak t.keys.length ck, .slice al t.list.length cl] := by
    rw [markStrs_length, markL_length]
    rfl
  rw [e1]
  rw [markStrs_length] at hk'
  rw [markL_length] at hl'
  clear e1
  have hA := below_alloc1 w (.cells #[.int .i64 t.kind, .int .i64 t.num, .string t.str, .slice ak t.keys.length ck, .slice al t.list.length cl] 26)
  have k0 := Blk5.new w 26 (.int .i64 t.kind) (.int .i64 t.num) (.string t.str) (.slice ak t.keys.length ck) (.slice al t.list.length cl)
  go_enter Tryz.func23, Tryz.ntmps23
  go_wp2_with fail
  refine (heldStringS_any S (markStrs t.keys k) _ k _ (hk'.same (hS.same hA)) (hS.later hA.size) (markStrs_get t.keys k) (by omega) (by rw [markStrs_length]; omega)).mono ?_
  rintro e w1 ⟨rfl, hb1⟩
  rw [markStrs_length]
  replace k0 := k0.below hb1
  obtain ⟨x0, x1, x2, x3, x4⟩ := k0.cell
  have hB1 := below_trans hA hb1
  have hl1 := hl'.same (hS.same hB1)
  have hW1 := hS.later hB1.size
  have HB1 := hide hB1
  have hnn : ¬ ((k : Int) + (t.keys.length : Int) < 0) := by omega
  clear hb1 hB1 k0 hA hk' hl'
  go_wp2_with fail
  rw [show ((k : Int) + (t.keys.length : Int)) = ((k + t.keys.length : Nat) : Int) by omega]
  refine (heldValS_any d S t.list _ (k + t.keys.length) w1 hl1 hW1 (by omega) (by omega)).mono ?_
  rintro e w2 ⟨rfl, hb2⟩
  have HB2 := hide (below_trans HB1.out hb2)
  have HM : Hid ((markL (markT d) t.list (k + t.keys.length)).2 = (markTop d t k).2) := rfl
  rw [HM.out]
  have hnn2 : ¬ ((((markTop d t k).2 : Nat) : Int) < 0) := by omega
  clear hb2 hl1 hW1 x0 x1 x2 x3 x4
  go_wp2_with fail
  go_ret
  exact ⟨rfl, HB2.out⟩
end Go.Proofs.YtoangpfmjohhmaaGreatDoor

/- What stands while l1Copy copies a tree. -/
namespace Go.Proofs.YtoangpfmjohhmaaGreatDoor
open Go.RowKit Go.Deep

/-- What l1Copy does with trees of this depth. -/
def CopyC (d : Nat) : Prop := ∀ (S : Nat → Prop) (t : Tr d) (v : Value) (w : World), ValAt S w d t v → Within S w → (wtT d t : Int) ≤ 4194304 →
    Calls Tryz.prog 38 #[v] w fun e w' => ∃ u, e = .returned u ∧ ValOwn w' d (Fresh w w') t u ∧ Below w.heap.size w w'

theorem size2 (w : World) (A B : Obj) : ((w.alloc A).alloc B).heap.size = w.heap.size + 1 + 1 := by simp
theorem size3 (w : World) (A B C : Obj) : (((w.alloc A).alloc B).alloc C).heap.size = w.heap.size + 1 + 1 + 1 := by simp
theorem nb1 (w : World) (A B o : Obj) : (((w.alloc A).alloc B).alloc o).drew.heap[w.heap.size + 1 + 1]? = some o := by
  have h := heap_alloc_new ((w.alloc A).alloc B) o
  rw [size2] at h
  exact h
theorem nb2 (w : World) (A B o C : Obj) : ((((w.alloc A).alloc B).alloc o).alloc C).drew.heap[w.heap.size + 1 + 1]? = some o :=
  (Below.heap_alloc (((w.alloc A).alloc B).alloc o) C _ (by rw [size3]; omega)).trans (nb1 w A B o)
theorem nb3 (w : World) (A B C o : Obj) : ((((w.alloc A).alloc B).alloc C).alloc o).drew.heap[w.heap.size + 1 + 1 + 1]? = some o := by
  have h := heap_alloc_new (((w.alloc A).alloc B).alloc C) o
  rw [size3] at h
  exact h
theorem kA3 (w : World) (A B C : Obj) : (((w.alloc A).alloc B).alloc C).drew.heap[w.heap.size]? = some A :=
  (Below.heap_alloc ((w.alloc A).alloc B) C _ (by rw [size2]; omega)).trans ((Below.heap_alloc (w.alloc A) B _ (by simp)).trans (heap_alloc_new w A))
theorem kA4 (w : World) (A B C D : Obj) : ((((w.alloc A).alloc B).alloc C).alloc D).drew.heap[w.heap.size]? = some A :=
  (Below.heap_alloc (((w.alloc A).alloc B).alloc C) D _ (by rw [size3]; omega)).trans (kA3 w A B C)
theorem kB3 (w : World) (A B C : Obj) : (((w.alloc A).alloc B).alloc C).drew.heap[w.heap.size + 1]? = some B := by
  have h := heap_alloc_new (w.alloc A) B
  rw [World.size_alloc] at h
  exact (Below.heap_alloc ((w.alloc A).alloc B) C _ (by rw [size2]; omega)).trans h
theorem kB4 (w : World) (A B C D : Obj) : ((((w.alloc A).alloc B).alloc C).alloc D).drew.heap[w.heap.size + 1]? = some B :=
  (Below.heap_alloc (((w.alloc A).alloc B).alloc C) D _ (by rw [size3]; omega)).trans (kB3 w A B C)
theorem below_drew1 {B : Nat} {a w : World} (h : Below B a w) : Below B a w.drew := ⟨h.os, h.tape, h.output, h.size, h.block⟩
theorem bl3 (w : World) (A B C : Obj) : Below w.heap.size w (((w.alloc A).alloc B).alloc C).drew := below_drew1 (below_trans (below_trans (below_alloc1 _ _) (below_alloc1 _ _)) (below_alloc1 _ _))
theorem bl4 (w : World) (A B C D : Obj) : Below w.heap.size w ((((w.alloc A).alloc B).alloc C).alloc D).drew := below_drew1 (below_trans (below_trans (below_trans (below_alloc1 _ _) (below_alloc1 _ _)) (below_alloc1 _ _)) (below_alloc1 _ _))

/-- What stands when the copy's own variable is made, its list still empty. -/
structure CopyAt {d : Nat} (w wc : World) (t : Nd (Tr d)) (c3 c4 : Value) (b : Nat) (vk : Value) : Prop where
  out : Blk5 wc b 26 (.int .i64 t.kind) (.int .i64 t.num) (.string t.str) vk (.slice none 0 0)
  box : Blk5 wc w.heap.size 26 (.int .i64 t.kind) (.int .i64 t.num) (.string t.str) c3 c4
  res : Blk5 wc (w.heap.size + 1) 26 (.int .i64 0) (.int .i64 0) (.string { data := #[] }) (.slice none 0 0) (.slice none 0 0)
  keys : StrsOwn (fun x => w.heap.size + 1 < x ∧ x < wc.heap.size ∧ x ≠ b) wc vk t.keys
  below : Below w.heap.size w wc
  above : w.heap.size + 1 < b

theorem StrsOwn.sub {S S' : Nat → Prop} {w : World} {v : Value} {ss : List ByteArray} (h : StrsOwn S w v ss) (hS : ∀ b, S b → b < w.heap.size → S' b) : StrsOwn S' w v ss := by
  obtain ⟨h1, h2, a, cap, hv, h3⟩ := h
  refine ⟨h1, h2, a, cap, hv, ?_⟩
  rcases h3 with h3 | ⟨b, n, f, hB, ha, hl, hr, hc⟩
  · exact Or.inl h3
  · exact Or.inr ⟨b, n, f, hS b hB hr.lt, ha, hl, hr, hc⟩

theorem copy_a {d : Nat} {w W w' : World} {t : Nd (Tr d)} {c3 c4 vk : Value} {G : Nat} (hB : Below w.heap.size w W) (hbox : Blk5 W w.heap.size 26 (.int .i64 t.kind) (.int .i64 t.num) (.string t.str) c3 c4)
    (hres : Blk5 W (w.heap.size + 1) 26 (.int .i64 0) (.int .i64 0) (.string { data := #[] }) (.slice none 0 0) (.slice none 0 0)) (hG : w.heap.size + 1 < G) (hgr : W.grownBy w' (some G))
    (hown : StrsOwn (fun b => b = G ∨ b = W.heap.size) w' vk t.keys) :
    CopyAt w (w'.alloc (.cells #[.int .i64 t.kind, .int .i64 t.num, .string t.str, vk, .slice none 0 0] 26)) t c3 c4 w'.heap.size vk := by
  have hlt := hres.lt
  have hsz := hgr.size
  refine ⟨Blk5.new _ _ _ _ _ _ _, (hbox.of_block (hgr.block _ hbox.lt (fun e => by cases e; omega))).alloc _, (hres.of_block (hgr.block _ hres.lt (fun e => by cases e; omega))).alloc _, ?_, ?_, by omega⟩
  · refine (hown.sub (S' := fun x => w.heap.size + 1 < x ∧ x < w'.heap.size) (fun b hb hbl => ⟨by rcases hb with rfl | rfl <;> omega, hbl⟩)).moved (fun b hb => Below.heap_alloc _ _ _ hb.2) (fun b hb => ⟨hb.1, by have := hb.2; simp; omega, by have := hb.2; omega⟩)
  · refine below_trans (b := w') ⟨hgr.os.trans hB.os, hgr.tape.trans hB.tape, hgr.output.trans hB.output, Nat.le_trans hB.size hgr.size, fun k hk => ?_⟩ (below_alloc1 _ _)
    exact (hgr.block k (Nat.lt_of_lt_of_le hk hB.size) (fun e => by cases e; omega)).trans (hB.block k hk)

theorem copy_b {d : Nat} {w W w' : World} {t : Nd (Tr d)} {c3 c4 vk : Value} {G V : Nat} (hB : Below w.heap.size w W) (hbox : Blk5 W w.heap.size 26 (.int .i64 t.kind) (.int .i64 t.num) (.string t.str) c3 c4)
    (hres : Blk5 W (w.heap.size + 1) 26 (.int .i64 0) (.int .i64 0) (.string { data := #[] }) (.slice none 0 0) (.slice none 0 0)) (hvar : Blk5 W V 26 (.int .i64 0) (.int .i64 0) (.string { data := #[] }) (.slice none 0 0) (.slice none 0 0))
    (hG : w.heap.size + 1 < G) (hV : w.heap.size + 1 < V) (hGV : V ≠ G) (hgr : W.grownBy w' (some G))
    (hown : StrsOwn (fun b => b = G ∨ b = W.heap.size) w' vk t.keys) :
    CopyAt w (set5 w' V 0 (.int .i64 t.kind) (.int .i64 t.num) (.string t.str) vk (.slice none 0 0)) t c3 c4 V vk := by
  have hlt := hres.lt
  have hvl := hvar.lt
  have hsz := hgr.size
  have hv' := hvar.of_block (hgr.block _ hvl (fun e => hGV (by cases e; rfl)))
  refine ⟨?_, (hbox.of_block (hgr.block _ hbox.lt (fun e => by cases e; omega))).of_block (set5_block _ _ _ _ _ _ _ _ _ (by omega)), (hres.of_block (hgr.block _ hres.lt (fun e => by cases e; omega))).of_block (set5_block _ _ _ _ _ _ _ _ _ (by omega)), ?_, ?_, hV⟩
  · unfold Blk5 at hv' ⊢
    simp [set5, World.setCell, Array.getElem?_modify, hv']
  · refine (hown.sub (S' := fun x => w.heap.size + 1 < x ∧ x < w'.heap.size ∧ x ≠ V) (fun b hb hbl => ⟨by rcases hb with rfl | rfl <;> omega, hbl, by rcases hb with rfl | rfl <;> omega⟩)).moved (fun b hb => set5_block _ _ _ _ _ _ _ _ _ hb.2.2) (fun b hb => ⟨hb.1, by rw [set5_size]; exact hb.2.1, hb.2.2⟩)
  · refine below_set5 ⟨hgr.os.trans hB.os, hgr.tape.trans hB.tape, hgr.output.trans hB.output, Nat.le_trans hB.size hgr.size, fun k hk => ?_⟩ (by omega) _ _ _ _ _ _
    exact (hgr.block k (Nat.lt_of_lt_of_le hk hB.size) (fun e => by cases e; omega)).trans (hB.block k hk)

/-- What stands when the first k trees are copied. -/
structure CopyTo {d : Nat} (wc wr : World) (t : Nd (Tr d)) (b : Nat) (vk lv : Value) (k : Nat) (vs : List Value) (P : Nat → Nat → Prop) : Prop where
  out : Blk5 wr b 26 (.int .i64 t.kind) (.int .i64 t.num) (.string t.str) vk lv
  vals : ValsTo wc.heap.size wr lv t.list k vs P
  but : But b wc wr


/-- A call, as one step of a region that draws. -/
theorem step_call_run {P : Program} {ops : Array Oper} {o : Oper} {a : Act} {w : World} {K : Act → World → Prop} {Q : Exit → Act → World → Prop} {E : Prop} (Φ : Value → World → Prop) (f : FuncId) (args : Array Value)
    (hg : o.guard = none) (hrun : (execOp a.eval o).run P w = .ok (.enter f args) w) (hc : Calls P f args w fun e w' => ∃ v, e = .returned v ∧ Φ v w') (hK : ∀ v w', Φ v w' → K (a.put o.dst v) w') :
    if Region.wanted o (yielded ops a.tmps) = true then Oper.wp P o a w K Q else E := by
  have hw : Region.wanted o (yielded ops a.tmps) = true := by simp [Region.wanted, hg]
  rw [if_pos hw]
  unfold Oper.wp
  rw [hrun, Oper.upon_enter]
  refine hc.mono ?_
  rintro e w' ⟨v, rfl, hφ⟩
  exact hK v w' hφ

theorem ValsTo.other {d N : Nat} {w w' : World} {sv : Value} {xs : List (Tr d)} {k : Nat} {vs : List Value} {P : Nat → Nat → Prop} (h : ValsTo N w sv xs k vs P) (hs : ∀ c, N ≤ c → w'.heap[c]? = w.heap[c]?) (hz : w'.heap.size = w.heap.size) : ValsTo N w' sv xs k vs P := by
  obtain ⟨h1, hlo, hdis, h2⟩ := h
  refine ⟨⟨h1.1, ?_⟩, fun j c hj hc => by rw [hz]; exact hlo j c hj hc, hdis, fun j x hj hx => ?_⟩
  · rcases h1.2 with h | ⟨g, cap, cur, hv, hg, hh, hrest⟩
    · exact Or.inl h
    · exact Or.inr ⟨g, cap, cur, hv, hg, (hs g hg).trans hh, hrest⟩
  · obtain ⟨c0, c1, c2, c3, c4, e0, e1, e2, e3, e4, hv⟩ := h2 j x hj hx
    exact ⟨c0, c1, c2, c3, c4, e0, e1, e2, e3, e4, hv.same (fun c hc => hs c (hlo j c hj hc).1)⟩
end Go.Proofs.YtoangpfmjohhmaaGreatDoor

/- One tree more is copied; the copy's end. -/
namespace Go.Proofs.YtoangpfmjohhmaaGreatDoor
open Go.RowKit Go.Deep

theorem CopyTo.step {d k b : Nat} {wc wr w1 w2 : World} {t : Nd (Tr d)} {vk lv lv' : Value} {vs : List Value} {P : Nat → Nat → Prop} {x : Tr d} {v0 v1 v2 v3 v4 : Value} {o : Obj} (h : CopyTo wc wr t b vk lv k vs P) (hb : Below wr.heap.size wr w1)
    (hx : t.list[k]? = some x) (hu : ValOwn w1 d (Fresh wr w1) x (.agg #[v0, v1, v2, v3, v4])) (hown : w2.ownsRow wc.heap.size 26 5 lv' (k + 1) (vs ++ [v0, v1, v2, v3, v4])) (hg : (w1.alloc o).grownBy w2 lv.ownBlock)
    (hw : lv'.ownBlock = lv.ownBlock ∨ lv'.ownBlock = some (w1.alloc o).heap.size) (hbc : b < wc.heap.size) (yb2 : Blk5 w2 b 26 (.int .i64 t.kind) (.int .i64 t.num) (.string t.str) vk lv) :
    ∃ P', CopyTo wc (w2.setCell ⟨b, 4, none⟩ lv') t b vk lv' (k + 1) (vs ++ [v0, v1, v2, v3, v4]) P' := by
  have hN : wc.heap.size ≤ wr.heap.size := h.but.size
  have hrow : ∀ g, lv.ownBlock = some g → wc.heap.size ≤ g := fun g hg => (h.vals.own.lt g hg).1
  have h1 := hb.size
  refine ⟨_, yb2.set4 _, (h.vals.step hb hx hu hown hg hw hN).other (fun c hc => Below.heap_setCell _ _ _ _ (by show c ≠ b; omega)) (by simp [World.setCell]), ?_⟩
  refine But.trans ?_ (But.set _ _ _ _)
  have hb3 : But b wc w1 := h.but.trans (But.of_below hb)
  refine ⟨hg.os.trans hb3.os, hg.tape.trans hb3.tape, hg.output.trans hb3.output, Nat.le_trans hb3.size (Nat.le_trans (by simp) hg.size), fun i hi hn => ?_⟩
  exact ((hg.block i (by simp; omega) (fun e => by have := hrow i e.symm; omega)).trans (Below.heap_alloc _ _ _ (by omega))).trans (hb3.block i hi hn)

theorem CopyTo.final {d b : Nat} {w wc wr : World} {t : Nd (Tr d)} {c3 c4 vk lv : Value} {vs : List Value} {P : Nat → Nat → Prop} (h : CopyTo wc wr t b vk lv t.list.length vs P) (hc : CopyAt w wc t c3 c4 b vk) (hl : t.list.length < 3518437208883) (i1 : I64 t.kind) (i2 : I64 t.num) (i3 : t.str.size < 281474976710656) :
    ∀ wF, wF = set5 wr (w.heap.size + 1) 0 (.int .i64 t.kind) (.int .i64 t.num) (.string t.str) vk lv → ValOwn wF (d + 1) (Fresh w wF) t (.agg #[.int .i64 t.kind, .int .i64 t.num, .string t.str, vk, lv]) ∧ Below w.heap.size w wF := by
  intro wF hF
  have hbu := h.but
  have hbw := hc.below
  have hab := hc.above
  have hws := hc.res.lt
  have hrb : Below w.heap.size w wr := ⟨hbu.os.trans hbw.os, hbu.tape.trans hbw.tape, hbu.output.trans hbw.output, Nat.le_trans hbw.size hbu.size, fun j hj => (hbu.block j (Nat.lt_of_lt_of_le hj hbw.size) (fun e => by cases e; omega)).trans (hbw.block j hj)⟩
  have hdone := h.vals.done hl
  have hzF : wF.heap.size = wr.heap.size := by rw [hF, set5_size]
  have hsz : wc.heap.size ≤ wr.heap.size := hbu.size
  have hsm : ∀ R : Nat → Prop, (∀ b, R b → w.heap.size + 1 < b) → Same R wr wF := fun R hR b hb => by
    rw [hF, set5_block _ _ _ _ _ _ _ _ _ (by have := hR b hb; omega)]
  have hkey : Same (fun x => w.heap.size + 1 < x ∧ x < wc.heap.size ∧ x ≠ b) wc wF := fun c hc => by
    rw [hsm (fun x => w.heap.size + 1 < x) (fun _ h => h) c hc.1]
    exact hbu.block c hc.2.1 (fun e => by cases e; exact hc.2.2 rfl)
  refine ⟨⟨vk, lv, fun x => w.heap.size + 1 < x ∧ x < wc.heap.size ∧ x ≠ b, fun b => wc.heap.size ≤ b ∧ b < wr.heap.size, rfl, i1, i2, i3, hc.keys.moved hkey (fun _ h => h),
    hdone.moved (hsm _ (fun b hb => by have := hb.1; omega)) (fun _ h => h) (fun P x u hP hx => ValOwn.moved d P P x u hx (hsm P (fun b hb => by have := (hP b hb).1; omega)) (fun _ h => h)), fun b hb => ⟨by have := hb.1; omega, by rw [hzF]; have := hb.2.1; omega⟩, fun b hb => ⟨by have := hb.1; omega, by rw [hzF]; exact hb.2⟩, fun b hb hb' => by have := hb.2.1; have := hb'.1; omega⟩, ?_⟩
  rw [hF]
  exact below_set5 hrb (by omega) _ _ _ _ _ _
end Go.Proofs.YtoangpfmjohhmaaGreatDoor
