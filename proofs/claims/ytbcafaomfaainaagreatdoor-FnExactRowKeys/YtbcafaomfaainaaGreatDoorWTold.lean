/- told, given, isNothing: what is told of a tree, or of a fault. -/
import Derived.Test.YtbcafaomfaainaaGreatDoorWValC
import Derived.Test.YtbcafaomfaainaaGreatDoorWImplV
import Derived.Test.YtbcafaomfaainaaGreatDoorWAsHit
namespace Go.Proofs.YtbcafaomfaainaaGreatDoor
open Go.RowKit Go.Deep

/-- Nothing. -/
def zeroT (d : Nat) : Tr (d + 1) := (Nd.mk 0 0 ByteArray.empty [] [] : Nd (Tr d))
/-- What is told of a tree. -/
def toldT (d : Nat) (t : Tr (d + 1)) : Tr (d + 1) := if okT (d + 1) t = true then t else zeroT d

/-- The variable of package errors holds the type error. -/
def ErrType (w : World) : Prop := w.cell? ⟨0, 0, none⟩ = some (.iface 98 (.agg #[.pointer (some ⟨1, 50, none⟩)]))
theorem ErrType.lt {w : World} (h : ErrType w) : 0 < w.heap.size := World.block_lt_of_cell? w _ h
theorem ErrType.below {w w' : World} (h : ErrType w) (hb : Below w.heap.size w w') : ErrType w' := (hb.cell (p := ⟨0, 0, none⟩) h.lt).trans h
theorem ErrType.turn {S : Nat → Prop} {w w' : World} (h : ErrType w) (hb : Turn S w w') (h0 : ¬ S 0) : ErrType w' := (World.cell?_of_block (w := w) (hb.block 0 h.lt h0)).trans h

/-- What is asked of a function that tells a tree and whether it can. -/
def TellQ (d : Nat) (t : Tr (d + 1)) (ok : Bool) (w : World) (e : Ending) (w' : World) : Prop :=
  ∃ v, e = .returned (.tuple #[v, .bool ok]) ∧ ValOwn w' (d + 1) (Fresh w w') t v ∧ Below w.heap.size w w'

theorem zeroVal_own (d : Nat) (w : World) (S : Nat → Prop) : ValOwn w (d + 1) S (zeroT d) zeroVal := valOwn_leaf d 0 0 ByteArray.empty w S ⟨by omega, by omega⟩ ⟨by omega, by omega⟩ (by decide)

set_option maxRecDepth 100000 in
set_option maxHeartbeats 2000000 in
theorem told_fault (d : Nat) (u : Value) (why : ByteArray) (w : World) (hg : ErrType w) :
    Calls Tryz.prog 29 #[u, .iface 69 (.agg #[.string why])] w (TellQ d (zeroT d) false w) := by
  have hlt := hg.lt
  have hg2 : ((w.alloc (.cells #[.int .i64 0, .int .i64 0, .string { data := #[] }, .slice none 0 0, .slice none 0 0] 29)).alloc (.cells #[.string { data := #[] }] 69)).cell? ⟨0, 0, none⟩ = some (.iface 98 (.agg #[.pointer (some ⟨1, 50, none⟩)])) :=
    hg.below (below_trans (below_alloc1 _ _) (below_alloc1 _ _))
  have hcall := hide (as_hit why ⟨w.heap.size + 1, 0, none⟩ (.string { data := #[] }) ((w.alloc (.cells #[.int .i64 0, .int .i64 0, .string { data := #[] }, .slice none 0 0, .slice none 0 0] 29)).alloc (.cells #[.string { data := #[] }] 69)) hg2 (by simp) (by simp))
  clear hg2 hg
  go_enter Tryz.func29, Tryz.ntmps29
  go_wp2_with fail
  refine hcall.out.mono ?_
  rintro e w1 ⟨rfl, hw1⟩
  have hB : Below w.heap.size w w1 := by
    rw [hw1]
    refine Below.setCell ?_ (by show w.heap.size ≤ w.heap.size + 1; omega) _
    exact below_trans (below_trans (below_trans (below_trans (below_trans (below_alloc1 _ _) (below_alloc1 _ _)) (below_alloc1 _ _)) (below_alloc1 _ _)) (below_alloc1 _ _)) (below_alloc1 _ _)
  have k0 : Blk5 w1 w.heap.size 29 (.int .i64 0) (.int .i64 0) (.string { data := #[] }) (.slice none 0 0) (.slice none 0 0) := by
    rw [hw1]
    refine Blk5.other ?_ _ (by show w.heap.size ≠ w.heap.size + 1; omega)
    exact (((((Blk5.new w 29 _ _ _ _ _).alloc _).alloc _).alloc _).alloc _).alloc _
  have HB := hide hB
  clear hw1 hB hcall
  obtain ⟨y0, y1, y2, y3, y4⟩ := k0.cell
  have yf := k0.frozen
  have hend : Hid (∀ wF, wF = set5 w1 w.heap.size 0 (.int .i64 0) (.int .i64 0) (.string { data := #[] }) (.slice none 0 0) (.slice none 0 0) → Below w.heap.size w wF) := by
    intro wF hF
    rw [hF]
    exact below_set5 HB.out (Nat.le_refl _) _ _ _ _ _ _
  clear k0
  go_wp2_with fail
  refine bodyPost_ret (v := .tuple #[zeroVal, .bool false]) (by simp [results, Tryz.results29, go_sem, zeroVal, y0, y1, y2, y3, y4]; rfl) rfl ⟨_, rfl, zeroVal_own d _ _, hend.out _ rfl⟩

set_option maxRecDepth 100000 in
set_option maxHeartbeats 4000000 in
theorem told_tree (d : Nat) (S : Nat → Prop) (t : Tr (d + 1)) (u : Value) (w : World) (hu : TreeG S w (d + 1) t u) (hS : Within S w) :
    Calls Tryz.prog 29 #[u, .nilIface] w (TellQ d (toldT d t) (okT (d + 1) t) w) := by
  obtain ⟨W0, hW⟩ : ∃ W0, W0 = (w.alloc (.cells #[.int .i64 0, .int .i64 0, .string { data := #[] }, .slice none 0 0, .slice none 0 0] 29)).alloc (.cells #[.string { data := #[] }] 69) := ⟨_, rfl⟩
  have hW0 : Below w.heap.size w W0 := by rw [hW]; exact below_trans (below_alloc1 _ _) (below_alloc1 _ _)
  have k0 : Blk5 W0 w.heap.size 29 (.int .i64 0) (.int .i64 0) (.string { data := #[] }) (.slice none 0 0) (.slice none 0 0) := by
    rw [hW]; exact (Blk5.new w 29 _ _ _ _ _).alloc _
  obtain ⟨v, hm⟩ := val_any (d + 1) S t u W0 (hu.same (hS.same hW0)) (hS.later hW0.size)
  have HW := hide hW
  clear hW hu
  rcases hm with ⟨rfl, hcall⟩ | ⟨rfl, hcall⟩ | ⟨rfl, hcall⟩ | ⟨rfl, hcall⟩ | ⟨rfl, hcall⟩
  all_goals
    have HC := hide hcall
    clear hcall
    go_enter Tryz.func29, Tryz.ntmps29
    go_wp2_with fail
    rw [← HW.out]
    refine (as_nil _ W0).mono ?_
    rintro e w1 ⟨rfl, rfl⟩
    go_wp2_with fail
    refine Calls.mono (R := ValQ (d + 1) t w1) HC.out ?_
    rintro e w2 ⟨x, rfl, hx, hb2⟩
    obtain ⟨v0, v1, v2, v3, v4, v5, v6, v7, v8, rfl⟩ := (ValOwn.at _ _ _ _ hx).shape
    have hB2 := below_trans hW0 hb2
    have k2 := k0.below hb2
    have hA := below_alloc1 w2 (.cells #[.int .i64 v0, .int .i64 v1, .string v2, .slice v3 v4 v5, .slice v6 v7 v8] 29)
    have m2 := Blk5.new w2 29 (.int .i64 v0) (.int .i64 v1) (.string v2) (.slice v3 v4 v5) (.slice v6 v7 v8)
    have hok := hide (implValOk_any (d + 1) (Fresh w1 w2) t _ _ ((ValOwn.at _ _ _ _ hx).same ((Fresh.within w1 w2).same hA)) ((Fresh.within w1 w2).later hA.size))
    have HX := hide hx
    have hlt2 : w.heap.size < w2.heap.size := k2.lt
    clear hx HC
    go_wp2_with fail
    refine hok.out.mono ?_
    rintro e w3 ⟨rfl, hb3⟩
    rw [treeP_okT]
    have hB3 := below_trans hA hb3
    have k3 := k2.below hB3
    have m3 := m2.below hb3
    have hB := below_trans hB2 hB3
    have hz3 := hB3.size
    obtain ⟨y0, y1, y2, y3, y4⟩ := k3.cell
    have yf := k3.frozen
    obtain ⟨x0, x1, x2, x3, x4⟩ := m3.cell
    have HB := hide hB
    have HB3 := hide hB3
    have hz1 : w.heap.size ≤ w1.heap.size := hW0.size
    clear hb3 hB hB3 hA k2 m2 hok
    cases hf : okT (d + 1) t with
    | false =>
      have hT : Hid (toldT d t = zeroT d) := by
        show toldT d t = _
        rw [toldT, hf]
        rfl
      have hend : Hid (∀ wF, wF = set5 w3 w.heap.size 0 (.int .i64 0) (.int .i64 0) (.string { data := #[] }) (.slice none 0 0) (.slice none 0 0) → Below w.heap.size w wF) := by
        intro wF hF
        rw [hF]
        exact below_set5 HB.out (Nat.le_refl _) _ _ _ _ _ _
      clear k3 m3 HX
      go_wp2_with fail
      refine bodyPost_ret (v := .tuple #[zeroVal, .bool false]) (by simp [results, Tryz.results29, go_sem, zeroVal, y0, y1, y2, y3, y4]; rfl) rfl ⟨_, by rw [hf], by rw [hT.out]; exact zeroVal_own d _ _, hend.out _ rfl⟩
    | true =>
      have hT : Hid (toldT d t = t) := by
        show toldT d t = _
        rw [toldT, hf]
        rfl
      have hend : Hid (∀ wF, wF = set5 w3 w.heap.size 0 (.int .i64 v0) (.int .i64 v1) (.string v2) (.slice v3 v4 v5) (.slice v6 v7 v8) → ValOwn wF (d + 1) (Fresh w wF) t (.agg #[.int .i64 v0, .int .i64 v1, .string v2, .slice v3 v4 v5, .slice v6 v7 v8]) ∧ Below w.heap.size w wF) := by
        intro wF hF
        have hzF : wF.heap.size = w3.heap.size := by rw [hF, set5_size]
        have hlt0 := k0.lt
        refine ⟨ValOwn.moved (d + 1) (Fresh w1 w2) _ t _ HX.out (fun b hb => ?_) (fun b hb => ⟨by have := hb.1; omega, by have := hb.2; omega⟩), ?_⟩
        · rw [hF, set5_block _ _ _ _ _ _ _ _ _ (by have := hb.1; omega), HB3.out.block b hb.2]
        · rw [hF]
          exact below_set5 HB.out (Nat.le_refl _) _ _ _ _ _ _
      clear k3 m3 HX
      go_wp2_with fail
      refine bodyPost_ret (v := .tuple #[.agg #[.int .i64 v0, .int .i64 v1, .string v2, .slice v3 v4 v5, .slice v6 v7 v8], .bool true]) (by simp [results, Tryz.results29, go_sem, y0, y1, y2, y3, y4]) rfl ⟨_, by rw [hf], by rw [hT.out]; exact (hend.out _ rfl).1, (hend.out _ rfl).2⟩
end Go.Proofs.YtbcafaomfaainaaGreatDoor
