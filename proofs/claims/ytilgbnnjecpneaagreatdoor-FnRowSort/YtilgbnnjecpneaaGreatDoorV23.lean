/- Texts of the proof, put together by program: WPutU, WSetTo, WPutUo, WSetQ, WSetS, WSetI, WSetJ, WSetU, WSetUo, WGetM, WGetS, WGetSo, WAtM, WAtS, WAtSo, WLen, WLenN, WLenS, WLenSo, WKeyP, WKeyS, WKeySo, WEachS, WEachSo, WGet, WKeyI, WEachI, WTold2, LPartC, PAdd, PAddT. -/
import Derived.Test.YtilgbnnjecpneaaGreatDoorV22
import Derived.Deep.OwnRows
import Derived.Test.YtilgbnnjecpneaaGreatDoorV21
import Derived.Test.YtilgbnnjecpneaaGreatDoorV7
import Derived.Test.YtilgbnnjecpneaaGreatDoorV12
import Derived.Test.YtilgbnnjecpneaaGreatDoorV6
import Derived.Test.YtilgbnnjecpneaaGreatDoorV10
/- PartPut of the model. -/
namespace Go.Proofs.YtilgbnnjecpneaaGreatDoor
open Go.RowKit Go.Deep

end Go.Proofs.YtilgbnnjecpneaaGreatDoor

/- l2Told of the model: a tree in new memory, if it is right : the answer owns its memory. -/
namespace Go.Proofs.YtilgbnnjecpneaaGreatDoor
open Go.RowKit Go.Deep

set_option maxRecDepth 100000 in
set_option maxHeartbeats 4000000 in
theorem l2Told_own (d : Nat) (S : Nat → Prop) (t : Tr (d + 1)) (v : Value) (w : World) (hv : ValAt S w (d + 1) t v) (hS : Within S w) (hsm : (nodes (d + 1) t : Int) ≤ 4194304) :
    Calls Tryz.prog 33 #[v] w (TellQ d (toldT d t) (okT (d + 1) t) w) := by
  have hv0 := hv
  obtain ⟨k, n, s, ak, lk, ck, al, ll, cl, rfl⟩ := hv.shape
  obtain ⟨W0, hW⟩ : ∃ W0, W0 = (w.alloc (.cells #[.int .i64 k, .int .i64 n, .string s, .slice ak lk ck, .slice al ll cl] 29)).alloc (.cells #[.int .i64 0, .int .i64 0, .string { data := #[] }, .slice none 0 0, .slice none 0 0] 29) := ⟨_, rfl⟩
  have hW0 : Below w.heap.size w W0 := by rw [hW]; exact below_trans (below_alloc1 _ _) (below_alloc1 _ _)
  have k0 : Blk5 W0 w.heap.size 29 (.int .i64 k) (.int .i64 n) (.string s) (.slice ak lk ck) (.slice al ll cl) := by
    rw [hW]; exact (Blk5.new w 29 _ _ _ _ _).alloc _
  have k1 : Blk5 W0 (w.heap.size + 1) 29 (.int .i64 0) (.int .i64 0) (.string { data := #[] }) (.slice none 0 0) (.slice none 0 0) := by
    have := Blk5.new (w.alloc (.cells #[.int .i64 k, .int .i64 n, .string s, .slice ak lk ck, .slice al ll cl] 29)) 29 (.int .i64 0) (.int .i64 0) (.string { data := #[] }) (.slice none 0 0) (.slice none 0 0)
    rw [World.size_alloc] at this
    rw [hW]
    exact this
  have HW := hide hW
  clear hW hv
  go_enter Tryz.func33, Tryz.ntmps33
  go_wp2_with fail
  rw [← HW.out]
  clear HW
  refine (specValOk_any (d + 1) S t _ W0 (hv0.same (hS.same hW0)) (hS.later hW0.size) hsm).mono ?_
  rintro e w1 ⟨rfl, hb1⟩
  replace k0 := k0.below hb1
  replace k1 := k1.below hb1
  have hB1 := below_trans hW0 hb1
  obtain ⟨x0, x1, x2, x3, x4⟩ := k0.cell
  have hlt := k1.lt
  clear hb1 hW0
  cases hf : okT (d + 1) t with
  | false =>
    have hz : Hid (toldT d t = zeroT d) := by
      show toldT d t = _
      rw [toldT, hf]
      rfl
    have hno : Hid (∀ wF, wF = set5 w1 (w.heap.size + 1) 0 (.int .i64 0) (.int .i64 0) (.string { data := #[] }) (.slice none 0 0) (.slice none 0 0) → Below w.heap.size w wF) := by
      intro wF hF
      rw [hF]
      exact below_set5 hB1 (by omega) _ _ _ _ _ _
    obtain ⟨y0, y1, y2, y3, y4⟩ := k1.cell
    have yf := k1.frozen
    clear k0 k1 hB1 hv0
    go_wp2_with fail
    rw [hz.out, hf]
    refine bodyPost_ret (v := .tuple #[zeroVal, .bool false]) (by simp [results, Tryz.results33, go_sem, zeroVal, y0, y1, y2, y3, y4]; rfl) rfl ⟨_, rfl, zeroVal_own d _ _, hno.out _ rfl⟩
  | true =>
    have hz : Hid (toldT d t = t) := by
      show toldT d t = _
      rw [toldT, hf]
      rfl
    have hwt := wtT_ok hf
    go_wp2_with fail
    refine (l1Copy_any (d + 1) S t _ w1 (hv0.same (hS.same hB1)) (hS.later hB1.size) (by omega)).mono ?_
    rintro e w3 ⟨u, rfl, hu3, hb3⟩
    obtain ⟨u0, u1, u2, u3, u4, u5, u6, u7, u8, rfl⟩ := (ValOwn.at _ _ _ _ hu3).shape
    have HF := hide (tell_end hu3 (below_trans hB1 hb3) (by omega) hlt)
    have k3 := k1.below hb3
    clear hu3 hb3 k1 k0 hv0 x0 x1 x2 x3 x4
    obtain ⟨y0, y1, y2, y3, y4⟩ := k3.cell
    have yf := k3.frozen
    clear k3
    go_wp2_with fail
    rw [hz.out, hf]
    refine bodyPost_ret (v := .tuple #[.agg #[.int .i64 u0, .int .i64 u1, .string u2, .slice u3 u4 u5, .slice u6 u7 u8], .bool true]) (by simp [results, Tryz.results33, go_sem, y0, y1, y2, y3, y4]) rfl ⟨_, rfl, (HF.out _ rfl).1, (HF.out _ rfl).2⟩
end Go.Proofs.YtilgbnnjecpneaaGreatDoor

/- PartPut of the model : the answer owns its memory. -/
namespace Go.Proofs.YtilgbnnjecpneaaGreatDoor
open Go.RowKit Go.Deep

end Go.Proofs.YtilgbnnjecpneaaGreatDoor

/- A row of the model's that is being made out of trees that lie elsewhere. -/
namespace Go.Proofs.YtilgbnnjecpneaaGreatDoor
open Go.RowKit Go.Deep

end Go.Proofs.YtilgbnnjecpneaaGreatDoor

/- l2Set of the model. -/
namespace Go.Proofs.YtilgbnnjecpneaaGreatDoor
open Go.RowKit Go.Deep

/-- What stands while a row is made longer, in a variable's list. -/
structure L2At (d : Nat) (S : Nat → Prop) (N ob : Nat) (W wr : World) (xs : List (Tr (d + 1))) (lv : Value) (ws : List Value) : Prop where
  out : Blk5 wr ob 29 (.int .i64 5) (.int .i64 0) (.string { data := #[] }) (.slice none 0 0) lv
  row : VTo S N wr lv xs ws
  below : Below N W wr
  off : lv.ownBlock ≠ some ob
  ge : N ≤ ob

theorem L2At.step {d N ob : Nat} {S : Nat → Prop} {W wr w2 : World} {xs : List (Tr (d + 1))} {lv lv' : Value} {ws : List Value} {o : Obj} (h : L2At d S N ob W wr xs lv ws) (hS : ∀ b, S b → b < N) (hSw : Within S wr)
    (hown : w2.ownsRow N 29 5 lv' (xs.length + 1) (ws ++ [.int .i64 0, .int .i64 0, .string { data := #[] }, .slice none 0 0, .slice none 0 0])) (hg : (wr.alloc o).grownBy w2 lv.ownBlock) (hw : lv'.ownBlock = lv.ownBlock ∨ lv'.ownBlock = some (wr.alloc o).heap.size) :
    Blk5 w2 ob 29 (.int .i64 5) (.int .i64 0) (.string { data := #[] }) (.slice none 0 0) lv ∧ L2At d S N ob W (w2.setCell ⟨ob, 4, none⟩ lv') (xs ++ [zeroT d]) lv' (ws ++ [.int .i64 0, .int .i64 0, .string { data := #[] }, .slice none 0 0, .slice none 0 0]) := by
  have hol := h.out.lt
  have hge := h.ge
  have hs2 := hg.size
  have hz : (wr.alloc o).heap.size = wr.heap.size + 1 := by simp
  rw [hz] at hw
  have hrow : ∀ g, lv.ownBlock = some g → N ≤ g := fun g hg => (h.row.1.lt g hg).1
  have hblk : ∀ b, b < wr.heap.size → some b ≠ lv.ownBlock → w2.heap[b]? = wr.heap[b]? := fun b hb1 hb2 => (hg.block b (by omega) hb2).trans (Below.heap_alloc _ _ _ hb1)
  have yb : Blk5 w2 ob 29 (.int .i64 5) (.int .i64 0) (.string { data := #[] }) (.slice none 0 0) lv := h.out.of_block (hblk ob hol (fun e => h.off e.symm))
  have hsame : Same S wr w2 := fun b hb => hblk b (hSw b hb) (fun e => by have := hrow b e.symm; have := hS b hb; omega)
  have hoff : lv'.ownBlock ≠ some ob := by
    rcases hw with e | e
    · rw [e]; exact h.off
    · rw [e]; intro e2; cases e2; omega
  refine ⟨yb, yb.set4 _, ?_, ?_, hoff, hge⟩
  · have hz0 : ValAt S wr (d + 1) (zeroT d) (.agg #[.int .i64 0, .int .i64 0, .string { data := #[] }, .slice none 0 0, .slice none 0 0]) := zeroAt d S wr
    refine (h.row.grow hsame hz0 hown).moved (fun b hb => Below.heap_setCell _ _ _ _ (by have := hS b hb; show b ≠ ob; omega)) (fun g hg => Below.heap_setCell _ _ _ _ (fun e => hoff (by rw [hg, e])))
  · have hb := h.below
    refine ⟨hg.os.trans hb.os, hg.tape.trans hb.tape, hg.output.trans hb.output, ?_, fun b hbN => ?_⟩
    · have := hb.size
      simp [World.setCell]
      omega
    · exact (Below.heap_setCell _ _ _ _ (by show b ≠ ob; omega)).trans ((hblk b (by omega) (fun e => by have := hrow b e.symm; omega)).trans (hb.block b hbN))

end Go.Proofs.YtilgbnnjecpneaaGreatDoor

/- setTree of the program. -/
namespace Go.Proofs.YtilgbnnjecpneaaGreatDoor
open Go.RowKit Go.Deep

end Go.Proofs.YtilgbnnjecpneaaGreatDoor

/- PartSet of the program. -/
namespace Go.Proofs.YtilgbnnjecpneaaGreatDoor
open Go.RowKit Go.Deep

theorem GTo.moved {d N : Nat} {w w' : World} {sv : Value} {xs : List (Tr d)} {vs : List Value} (h : GTo N w sv xs vs) (hb : Below w.heap.size w w') : GTo N w' sv xs vs := by
  obtain ⟨h1, h2⟩ := h
  have hz := hb.size
  refine ⟨⟨h1.1, ?_⟩, fun j x u hx hu => TreeG.moved (fun b hb' => hb.block b hb'.2.1) (fun b hb' => ⟨hb'.1, by have := hb'.2.1; omega, hb'.2.2⟩) d x u (h2 j x u hx hu)⟩
  rcases h1.2 with h | ⟨g, cap, cur, hv, hg, hh, hrest⟩
  · exact Or.inl h
  · exact Or.inr ⟨g, cap, cur, hv, hg, (hb.block g (Array.getElem?_eq_some_iff.1 hh).1).trans hh, hrest⟩

end Go.Proofs.YtilgbnnjecpneaaGreatDoor

/- PartSet of the model. -/
namespace Go.Proofs.YtilgbnnjecpneaaGreatDoor
open Go.RowKit Go.Deep

end Go.Proofs.YtilgbnnjecpneaaGreatDoor

/- PartSet of the model : the answer owns its memory. -/
namespace Go.Proofs.YtilgbnnjecpneaaGreatDoor
open Go.RowKit Go.Deep

end Go.Proofs.YtilgbnnjecpneaaGreatDoor

/- PartGet of the model. Of what is right. -/
namespace Go.Proofs.YtilgbnnjecpneaaGreatDoor
open Go.RowKit Go.Deep

end Go.Proofs.YtilgbnnjecpneaaGreatDoor

/- PartGet of the model. -/
namespace Go.Proofs.YtilgbnnjecpneaaGreatDoor
open Go.RowKit Go.Deep

end Go.Proofs.YtilgbnnjecpneaaGreatDoor

/- PartGet of the model : the answer owns its memory. -/
namespace Go.Proofs.YtilgbnnjecpneaaGreatDoor
open Go.RowKit Go.Deep

end Go.Proofs.YtilgbnnjecpneaaGreatDoor

/- PartAt of the model. Of what is right. -/
namespace Go.Proofs.YtilgbnnjecpneaaGreatDoor
open Go.RowKit Go.Deep

end Go.Proofs.YtilgbnnjecpneaaGreatDoor

/- PartAt of the model. -/
namespace Go.Proofs.YtilgbnnjecpneaaGreatDoor
open Go.RowKit Go.Deep

end Go.Proofs.YtilgbnnjecpneaaGreatDoor

/- PartAt of the model : the answer owns its memory. -/
namespace Go.Proofs.YtilgbnnjecpneaaGreatDoor
open Go.RowKit Go.Deep

end Go.Proofs.YtilgbnnjecpneaaGreatDoor

/- PartLen of the model and of the program. -/
namespace Go.Proofs.YtilgbnnjecpneaaGreatDoor
open Go.RowKit Go.Deep

end Go.Proofs.YtilgbnnjecpneaaGreatDoor

/- Numbers of the model. -/
namespace Go.Proofs.YtilgbnnjecpneaaGreatDoor
open Go.RowKit Go.Deep

end Go.Proofs.YtilgbnnjecpneaaGreatDoor

/- PartLen of the model. -/
namespace Go.Proofs.YtilgbnnjecpneaaGreatDoor
open Go.RowKit Go.Deep

end Go.Proofs.YtilgbnnjecpneaaGreatDoor

/- PartLen of the model : the answer owns its memory. -/
namespace Go.Proofs.YtilgbnnjecpneaaGreatDoor
open Go.RowKit Go.Deep

end Go.Proofs.YtilgbnnjecpneaaGreatDoor

/- The keys, or places, of a tree as a row. -/
namespace Go.Proofs.YtilgbnnjecpneaaGreatDoor
open Go.RowKit Go.Deep

theorem okT_maps {d : Nat} {t : Tr (d + 1)} (h : okT (d + 1) t = true) (h6 : Nd.kind t = 6) : (Nd.keys t).length = (Nd.list t).length ∧ keysB (Nd.keys t) = true := by
  obtain ⟨hf, hm⟩ := okT_form h
  obtain ⟨kind, num, str, keys, list⟩ := t
  have h6 : kind = 6 := h6
  cases hb : headBad kind num str keys.length list.length 6 with
  | true => rw [formT_bad hb] at hf; cases hf
  | false =>
    rw [formT_good hb, if_neg (by omega), if_neg (by omega), if_neg (by omega), if_pos h6] at hf
    simp only [Bool.and_eq_true] at hf
    exact ⟨by simpa using hf.1.1, hf.1.2⟩
end Go.Proofs.YtilgbnnjecpneaaGreatDoor

/- PartKeys of the model. -/
namespace Go.Proofs.YtilgbnnjecpneaaGreatDoor
open Go.RowKit Go.Deep

end Go.Proofs.YtilgbnnjecpneaaGreatDoor

/- PartKeys of the model : the answer owns its memory. -/
namespace Go.Proofs.YtilgbnnjecpneaaGreatDoor
open Go.RowKit Go.Deep

end Go.Proofs.YtilgbnnjecpneaaGreatDoor

/- PartEach of the model. -/
namespace Go.Proofs.YtilgbnnjecpneaaGreatDoor
open Go.RowKit Go.Deep

end Go.Proofs.YtilgbnnjecpneaaGreatDoor

/- PartEach of the model : the answer owns its memory. -/
namespace Go.Proofs.YtilgbnnjecpneaaGreatDoor
open Go.RowKit Go.Deep

end Go.Proofs.YtilgbnnjecpneaaGreatDoor

/- PartGet of the program. -/
namespace Go.Proofs.YtilgbnnjecpneaaGreatDoor
open Go.RowKit Go.Deep

end Go.Proofs.YtilgbnnjecpneaaGreatDoor

/- PartKeys of the program. -/
namespace Go.Proofs.YtilgbnnjecpneaaGreatDoor
open Go.RowKit Go.Deep

end Go.Proofs.YtilgbnnjecpneaaGreatDoor

/- PartEach of the program. -/
namespace Go.Proofs.YtilgbnnjecpneaaGreatDoor
open Go.RowKit Go.Deep

end Go.Proofs.YtilgbnnjecpneaaGreatDoor

/- An answer, in a variable of its own. -/
namespace Go.Proofs.YtilgbnnjecpneaaGreatDoor
open Go.RowKit Go.Deep

end Go.Proofs.YtilgbnnjecpneaaGreatDoor

/- The laws of chapter 2: what their calls give, and how their variables lie. -/
namespace Go.Proofs.YtilgbnnjecpneaaGreatDoor
open Go.RowKit Go.Deep

/-- What is told: a tree in new plain memory, and whether it can be done. -/
def TQ (w : World) (d : Nat) (t : Tr d) (ok : Bool) (W : World) (e : Ending) (w' : World) : Prop :=
  ∃ (c0 c1 : Int) (c2 : ByteArray) (c3 : Option Addr) (c4 c5 : Nat) (c6 : Option Addr) (c7 c8 : Nat), e = .returned (.tuple #[.agg #[.int .i64 c0, .int .i64 c1, .string c2, .slice c3 c4 c5, .slice c6 c7 c8], .bool ok]) ∧
    ValAt (FreshP w w') w' d t (.agg #[.int .i64 c0, .int .i64 c1, .string c2, .slice c3 c4 c5, .slice c6 c7 c8]) ∧ Below W.heap.size W w'
theorem tq_of {w W w' : World} {d : Nat} {t : Tr (d + 1)} {ok : Bool} {e : Ending} (hl : w.heap.size ≤ W.heap.size) (h : TellQ d t ok W e w') : TQ w (d + 1) t ok W e w' := by
  obtain ⟨v, rfl, hv, hb⟩ := h
  have hp := (own_plain (d + 1) _ t v hv).mono (S' := FreshP w w') (fun b hb' => ⟨⟨Nat.le_trans hl hb'.1.1, hb'.1.2⟩, hb'.2⟩)
  obtain ⟨c0, c1, c2, c3, c4, c5, c6, c7, c8, rfl⟩ := hp.shape
  exact ⟨c0, c1, c2, c3, c4, c5, c6, c7, c8, rfl, hp, hb⟩
theorem nodes_small {d : Nat} {t : Tr d} (h : wtT d t ≤ 10000) : (nodes d t : Int) ≤ 4194304 := by
  have := nodes_wt' d t
  omega

/-- One tree, twice. -/
theorem samE {d : Nat} {w W : World} {t : Tr d} {v v' : Value} (h : ValAt (FreshP w W) W d t v) (h' : ValAt (FreshP w W) W d t v') (hs : wtT d t ≤ 10000) : Calls Tryz.prog 21 #[v, v'] W fun e w' => e = .returned (.bool true) ∧ Below W.heap.size W w' := by
  have hc := samI_at h h' hs
  rw [(ord_T d).self t] at hc
  exact hc
/-- A variable that holds a tree. -/
structure VarAt (w W : World) (b : Nat) (c0 c1 : Int) (c2 : ByteArray) (c3 : Option Addr) (c4 c5 : Nat) (c6 : Option Addr) (c7 c8 : Nat) (d : Nat) (t : Tr d) : Prop where
  blk : Blk5 W b 29 (.int .i64 c0) (.int .i64 c1) (.string c2) (.slice c3 c4 c5) (.slice c6 c7 c8)
  val : ValAt (FreshP w W) W d t (.agg #[.int .i64 c0, .int .i64 c1, .string c2, .slice c3 c4 c5, .slice c6 c7 c8])
theorem VarAt.go {w W W' : World} {b : Nat} {c0 c1 : Int} {c2 : ByteArray} {c3 : Option Addr} {c4 c5 : Nat} {c6 : Option Addr} {c7 c8 : Nat} {d : Nat} {t : Tr d} (h : VarAt w W b c0 c1 c2 c3 c4 c5 c6 c7 c8 d t) (hb : Below W.heap.size W W') : VarAt w W' b c0 c1 c2 c3 c4 c5 c6 c7 c8 d t :=
  ⟨h.blk.below hb, freshP_go h.val hb⟩
theorem VarAt.new {w W : World} {c0 c1 : Int} {c2 : ByteArray} {c3 : Option Addr} {c4 c5 : Nat} {c6 : Option Addr} {c7 c8 : Nat} {d : Nat} {t : Tr d} (h : ValAt (FreshP w W) W d t (.agg #[.int .i64 c0, .int .i64 c1, .string c2, .slice c3 c4 c5, .slice c6 c7 c8])) :
    VarAt w (W.alloc (.cells #[.int .i64 c0, .int .i64 c1, .string c2, .slice c3 c4 c5, .slice c6 c7 c8] 29)) W.heap.size c0 c1 c2 c3 c4 c5 c6 c7 c8 d t :=
  ⟨Blk5.new W _ _ _ _ _ _, freshP_go h (below_alloc1 _ _)⟩
theorem VarAt.two {w W : World} {c0 c1 : Int} {c2 : ByteArray} {c3 : Option Addr} {c4 c5 : Nat} {c6 : Option Addr} {c7 c8 : Nat} {d : Nat} {t : Tr d} {q0 q1 : Int} {q2 : ByteArray} {q3 : Option Addr} {q4 q5 : Nat} {q6 : Option Addr} {q7 q8 : Nat} {d' : Nat} {t' : Tr d'}
    (h : ValAt (FreshP w W) W d t (.agg #[.int .i64 c0, .int .i64 c1, .string c2, .slice c3 c4 c5, .slice c6 c7 c8])) (h' : ValAt (FreshP w W) W d' t' (.agg #[.int .i64 q0, .int .i64 q1, .string q2, .slice q3 q4 q5, .slice q6 q7 q8])) :
    VarAt w ((W.alloc (.cells #[.int .i64 c0, .int .i64 c1, .string c2, .slice c3 c4 c5, .slice c6 c7 c8] 29)).alloc (.cells #[.int .i64 q0, .int .i64 q1, .string q2, .slice q3 q4 q5, .slice q6 q7 q8] 29)) W.heap.size c0 c1 c2 c3 c4 c5 c6 c7 c8 d t ∧
    VarAt w ((W.alloc (.cells #[.int .i64 c0, .int .i64 c1, .string c2, .slice c3 c4 c5, .slice c6 c7 c8] 29)).alloc (.cells #[.int .i64 q0, .int .i64 q1, .string q2, .slice q3 q4 q5, .slice q6 q7 q8] 29)) (W.heap.size + 1) q0 q1 q2 q3 q4 q5 q6 q7 q8 d' t' ∧
    Below W.heap.size W ((W.alloc (.cells #[.int .i64 c0, .int .i64 c1, .string c2, .slice c3 c4 c5, .slice c6 c7 c8] 29)).alloc (.cells #[.int .i64 q0, .int .i64 q1, .string q2, .slice q3 q4 q5, .slice q6 q7 q8] 29)) := by
  have h1 := below_alloc1 W (.cells #[.int .i64 c0, .int .i64 c1, .string c2, .slice c3 c4 c5, .slice c6 c7 c8] 29)
  have h2 := VarAt.new (freshP_go h' h1)
  rw [World.size_alloc] at h2
  exact ⟨(VarAt.new h).go (below_alloc1 _ _), h2, below_trans h1 (below_alloc1 _ _)⟩
/-- What has come since a world: nothing that was there has turned. -/
structure Since (W0 W : World) : Prop where
  bel : Below W0.heap.size W0 W
theorem Since.go {W0 W W' : World} (h : Since W0 W) (hb : Below W.heap.size W W') : Since W0 W' := ⟨below_trans h.bel hb⟩
theorem Since.start (W : World) : Since W W := ⟨Below.refl _ _⟩
/-- A row of trees that came of a call. -/
structure RowsAt (w W : World) (a : Option Addr) (c d : Nat) (xs : List (Tr d)) : Prop where
  row : RowAt (FreshP w W) W (ValAt (FreshP w W) W d) (.slice a xs.length c) xs
theorem RowsAt.go {w W W' : World} {a : Option Addr} {c d : Nat} {xs : List (Tr d)} (h : RowsAt w W a c d xs) (hb : Below W.heap.size W W') : RowsAt w W' a c d xs := by
  have hs : Same (FreshP w W) W W' := fun b hb' => hb.block b hb'.1.2
  exact ⟨h.row.moved hs (fun b hb' => ⟨⟨hb'.1.1, Nat.lt_of_lt_of_le hb'.1.2 hb.size⟩, hb'.2.of_block (hs b hb')⟩) (fun x u hx => freshP_go hx hb)⟩
/-- The tree at a place of a row, with its cells. -/
theorem row_elem {w W : World} {a : Option Addr} {n c d k : Nat} {xs : List (Tr d)} (h : RowAt (FreshP w W) W (ValAt (FreshP w W) W d) (.slice a n c) xs) (hk : k < xs.length) :
    ∃ (b o : Nat) (x : Tr d) (c0 c1 : Int) (c2 : ByteArray) (c3 : Option Addr) (c4 c5 : Nat) (c6 : Option Addr) (c7 c8 : Nat), a = some ⟨b, o, none⟩ ∧ b < W.heap.size ∧ xs[k]? = some x ∧
      W.cell? ⟨b, o + k * 5, none⟩ = some (.int .i64 c0) ∧ W.cell? ⟨b, o + k * 5 + 1, none⟩ = some (.int .i64 c1) ∧ W.cell? ⟨b, o + k * 5 + 2, none⟩ = some (.string c2) ∧ W.cell? ⟨b, o + k * 5 + 3, none⟩ = some (.slice c3 c4 c5) ∧ W.cell? ⟨b, o + k * 5 + 4, none⟩ = some (.slice c6 c7 c8) ∧
      ValAt (FreshP w W) W d x (.agg #[.int .i64 c0, .int .i64 c1, .string c2, .slice c3 c4 c5, .slice c6 c7 c8]) := by
  obtain ⟨b, o, x, c0, c1, c2, c3, c4, ha, hS, hx, e0, e1, e2, e3, e4, hv⟩ := h.cell hk
  obtain ⟨p0, p1, p2, p3, p4, p5, p6, p7, p8, hp⟩ := hv.shape
  cases hp
  exact ⟨b, o, x, _, _, _, _, _, _, _, _, _, ha, hS.1.2, hx, e0, e1, e2, e3, e4, hv⟩
theorem val_parts {w W : World} {d : Nat} {t : Tr (d + 1)} {c0 c1 : Int} {c2 : ByteArray} {c3 : Option Addr} {c4 c5 : Nat} {c6 : Option Addr} {c7 c8 : Nat} (h : ValAt (FreshP w W) W (d + 1) t (.agg #[.int .i64 c0, .int .i64 c1, .string c2, .slice c3 c4 c5, .slice c6 c7 c8])) :
    c0 = Nd.kind t ∧ c1 = Nd.num t ∧ c2 = Nd.str t ∧ c4 = (Nd.keys t).length ∧ c7 = (Nd.list t).length ∧ StrsAt (FreshP w W) W (.slice c3 c4 c5) (Nd.keys t) ∧ RowAt (FreshP w W) W (ValAt (FreshP w W) W d) (.slice c6 c7 c8) (Nd.list t) := by
  obtain ⟨h0, h1, h2, _, _, _, hk, hl⟩ := parts_of h
  obtain ⟨_, _, e1, _⟩ := hk.open'
  obtain ⟨_, _, e2, _⟩ := hl.open'
  cases h0
  cases h1
  cases h2
  cases e1
  cases e2
  exact ⟨rfl, rfl, rfl, rfl, rfl, hk, hl⟩
/-- What stands all along. -/
structure Amid (w W : World) : Prop where
  bel : Below w.heap.size w W
  err : ErrType W
theorem Amid.go {w W W' : World} (h : Amid w W) (hb : Below W.heap.size W W') : Amid w W' := ⟨below_trans h.bel hb, h.err.below hb⟩
theorem Amid.le {w W : World} (h : Amid w W) : w.heap.size ≤ W.heap.size := h.bel.size
end Go.Proofs.YtilgbnnjecpneaaGreatDoor

/- Two trees together: plain facts. -/
namespace Go.Proofs.YtilgbnnjecpneaaGreatDoor
open Go.RowKit Go.Deep

/-- What lies at a key of pairs. -/
def getP {α : Type} (ps : List (ByteArray × α)) (s : ByteArray) : Option α := getL (ps.map Prod.fst) (ps.map Prod.snd) s
/-- One pair more, at its place. -/
def putP {α : Type} (ps : List (ByteArray × α)) (q : ByteArray × α) : List (ByteArray × α) := putL (ps.map Prod.fst) (ps.map Prod.snd) q.1 q.2
/-- All pairs of the second put into the first, one behind the other. -/
def putAll {α : Type} (ps qs : List (ByteArray × α)) : List (ByteArray × α) := qs.foldl putP ps

theorem getP_same {α : Type} (ps : List (ByteArray × α)) (q : ByteArray × α) : getP (putP ps q) q.1 = some q.2 := getL_put_same _ _ _ _ (putL_len2 ps)
theorem getP_other {α : Type} (ps : List (ByteArray × α)) (q : ByteArray × α) {s : ByteArray} (h : s ≠ q.1) : getP (putP ps q) s = getP ps s := getL_put_other _ h _ _ (putL_len2 ps)
theorem putP_order {α : Type} {ps : List (ByteArray × α)} {q : ByteArray × α} (hq : strOk q.1 = true) (h : keysGo none (ps.map Prod.fst) = true) : keysGo none ((putP ps q).map Prod.fst) = true := putL_order hq (putL_len2 ps) h
theorem putAll_order {α : Type} : ∀ (qs ps : List (ByteArray × α)), (∀ q ∈ qs, strOk q.1 = true) → keysGo none (ps.map Prod.fst) = true → keysGo none ((putAll ps qs).map Prod.fst) = true
  | [], _, _, h => h
  | q :: r, ps, hq, h => putAll_order r (putP ps q) (fun x hx => hq x (by simp [hx])) (putP_order (hq q (by simp)) h)
theorem putAll_miss {α : Type} {s : ByteArray} : ∀ (qs ps : List (ByteArray × α)), (∀ q ∈ qs, s ≠ q.1) → getP (putAll ps qs) s = getP ps s
  | [], _, _ => rfl
  | q :: r, ps, h => by
    show getP (putAll (putP ps q) r) s = _
    rw [putAll_miss r (putP ps q) (fun x hx => h x (by simp [hx])), getP_other ps q (h q (by simp))]
theorem putAll_hit {α : Type} {q : ByteArray × α} : ∀ (qs ps : List (ByteArray × α)), qs.Pairwise (fun a b => a.1 ≠ b.1) → q ∈ qs → getP (putAll ps qs) q.1 = some q.2
  | [], _, _, h => by cases h
  | p :: r, ps, hp, h => by
    obtain ⟨h1, h2⟩ := List.pairwise_cons.1 hp
    show getP (putAll (putP ps p) r) q.1 = _
    rcases List.mem_cons.1 h with rfl | h
    · rw [putAll_miss r _ (fun x hx => h1 x hx), getP_same]
    · exact putAll_hit r _ h2 h
/-- The order in which they come does not matter. -/
theorem putAll_perm {α : Type} {ps qs qs' : List (ByteArray × α)} (hp : qs.Perm qs') (hd : qs.Pairwise (fun a b => a.1 ≠ b.1)) (hk : ∀ q ∈ qs, strOk q.1 = true) (ho : keysGo none (ps.map Prod.fst) = true) : putAll ps qs = putAll ps qs' := by
  have hd' : qs'.Pairwise (fun a b => a.1 ≠ b.1) := hp.pairwise hd (fun h => Ne.symm h)
  refine assoc_ext _ _ none none (putAll_order qs ps hk ho) (putAll_order qs' ps (fun q hq => hk q (hp.mem_iff.2 hq)) ho) (fun s => ?_)
  show getP (putAll ps qs) s = getP (putAll ps qs') s
  by_cases hs : ∃ q ∈ qs, s = q.1
  · obtain ⟨q, hq, rfl⟩ := hs
    rw [putAll_hit qs ps hd hq, putAll_hit qs' ps hd' (hp.mem_iff.1 hq)]
  · rw [putAll_miss qs ps (fun q hq e => hs ⟨q, hq, e⟩), putAll_miss qs' ps (fun q hq e => hs ⟨q, hp.mem_iff.2 hq, e⟩)]
/-- Keys in order are each once. -/
theorem keys_pairwise {α : Type} {ps : List (ByteArray × α)} (h : keysGo none (ps.map Prod.fst) = true) : ps.Pairwise (fun a b => a.1 ≠ b.1) := by
  have hp := keysGo_pair _ none h
  rw [List.pairwise_map] at hp
  exact hp.imp (fun h => ltB_ne h)

/-- The pairs of a map. -/
def pairsT {d : Nat} (t : Tr (d + 1)) : List (ByteArray × Tr d) := (Nd.keys t).zip (Nd.list t)
/-- What two trees that are ok, and of one kind, are together, before it is asked whether that is ok. -/
def sumT (d : Nat) (a b : Tr (d + 1)) : Option (Tr (d + 1)) :=
  if Nd.kind a = 0 then some b else if Nd.kind b = 0 then some a else if Nd.kind a ≠ Nd.kind b then none
  else if Nd.kind a = 3 then some (Nd.mk 3 (Nd.num a + Nd.num b) ByteArray.empty [] [] : Nd (Tr d)) else if Nd.kind a = 4 then some (Nd.mk 4 0 (Nd.str a ++ Nd.str b) [] [] : Nd (Tr d))
  else if Nd.kind a = 5 then some (rowT d (Nd.list a ++ Nd.list b)) else if Nd.kind a = 6 then some (mapT d (putAll (pairsT a) (pairsT b))) else none
/-- What PartAdd tells. -/
def partAddT (d : Nat) (a b : Tr (d + 1)) : Tr (d + 1) × Bool :=
  if okT (d + 1) a = true ∧ okT (d + 1) b = true then (match sumT d a b with | some t => (toldT d t, okT (d + 1) t) | none => (zeroT d, false)) else (zeroT d, false)
end Go.Proofs.YtilgbnnjecpneaaGreatDoor

/- Two trees together: what the law of PartAdd asks. -/
namespace Go.Proofs.YtilgbnnjecpneaaGreatDoor
open Go.RowKit Go.Deep

theorem getP_mem {α : Type} {ps : List (ByteArray × α)} (h : keysGo none (ps.map Prod.fst) = true) {q : ByteArray × α} (hq : q ∈ ps) : getP ps q.1 = some q.2 := by
  obtain ⟨i, hi⟩ := List.getElem?_of_mem hq
  exact getL_key (i := i) (k := q.1) (y := q.2) h (by rw [List.getElem?_map, hi]; rfl) (by rw [List.getElem?_map, hi]; rfl)
theorem getP_none {α : Type} {ps : List (ByteArray × α)} {s : ByteArray} (h : ∀ q ∈ ps, s ≠ q.1) : getP ps s = none :=
  getL_miss (fun hm => by obtain ⟨q, hq, e⟩ := List.mem_map.1 hm; exact h q hq e.symm)
theorem getP_putAll {α : Type} {ps qs : List (ByteArray × α)} (hq : keysGo none (qs.map Prod.fst) = true) (s : ByteArray) : getP (putAll ps qs) s = (match getP qs s with | some x => some x | none => getP ps s) := by
  by_cases hs : ∃ q ∈ qs, s = q.1
  · obtain ⟨q, hm, rfl⟩ := hs
    rw [putAll_hit qs ps (keys_pairwise hq) hm, getP_mem hq hm]
  · have hn : ∀ q ∈ qs, s ≠ q.1 := fun q hm e => hs ⟨q, hm, e⟩
    rw [putAll_miss qs ps hn, getP_none hn]
theorem keys_ok {α : Type} {ps : List (ByteArray × α)} (h : keysGo none (ps.map Prod.fst) = true) : ∀ q ∈ ps, strOk q.1 = true := fun q hq => keysGo_ok _ none h q.1 (List.mem_map.2 ⟨q, hq, rfl⟩)
theorem putAll_assoc {α : Type} {ps qs rs : List (ByteArray × α)} (hp : keysGo none (ps.map Prod.fst) = true) (hq : keysGo none (qs.map Prod.fst) = true) (hr : keysGo none (rs.map Prod.fst) = true) : putAll (putAll ps qs) rs = putAll ps (putAll qs rs) := by
  have h1 := putAll_order qs ps (keys_ok hq) hp
  have h2 := putAll_order rs qs (keys_ok hr) hq
  refine assoc_ext _ _ none none (putAll_order rs _ (keys_ok hr) h1) (putAll_order _ ps (keys_ok h2) hp) (fun s => ?_)
  show getP (putAll (putAll ps qs) rs) s = getP (putAll ps (putAll qs rs)) s
  rw [getP_putAll hr, getP_putAll hq, getP_putAll h2, getP_putAll hr]
  cases getP rs s <;> rfl

theorem pairs_keys {d : Nat} {t : Tr (d + 1)} (h : okT (d + 1) t = true) (h6 : Nd.kind t = 6) : keysGo none ((pairsT t).map Prod.fst) = true := by
  obtain ⟨hl, hk⟩ := okT_maps h h6
  unfold pairsT
  rw [zip_fst _ _ hl]
  exact hk
theorem pairs_mapT {d : Nat} (ps : List (ByteArray × Tr d)) : pairsT (mapT d ps) = ps := zip_unzip ps

theorem add_ok {d : Nat} {a b : Tr (d + 1)} (h : (partAddT d a b).2 = true) : okT (d + 1) a = true ∧ okT (d + 1) b = true ∧ ∃ t, sumT d a b = some t ∧ okT (d + 1) t = true ∧ partAddT d a b = (t, true) := by
  unfold partAddT at h ⊢
  split at h
  · rename_i hab
    refine ⟨hab.1, hab.2, ?_⟩
    split at h
    · rename_i t ht
      have h : okT (d + 1) t = true := h
      refine ⟨t, ht, h, ?_⟩
      rw [if_pos hab]
      show (toldT d t, okT (d + 1) t) = _
      unfold toldT
      rw [if_pos h, h]
    · cases h
  · cases h
theorem sum_left {d : Nat} {a b : Tr (d + 1)} (h : Nd.kind a = 0) : sumT d a b = some b := if_pos h
theorem sum_right {d : Nat} {a b : Tr (d + 1)} (h : Nd.kind a ≠ 0) (hb : Nd.kind b = 0) : sumT d a b = some a := by unfold sumT; rw [if_neg h, if_pos hb]
/-- Neither is nothing. -/
theorem sum_two {d : Nat} {a b x : Tr (d + 1)} (ha : Nd.kind a ≠ 0) (hb : Nd.kind b ≠ 0) (h : sumT d a b = some x) : Nd.kind a = Nd.kind b ∧ Nd.kind x = Nd.kind a ∧
    ((Nd.kind a = 3 ∧ x = (Nd.mk 3 (Nd.num a + Nd.num b) ByteArray.empty [] [] : Nd (Tr d))) ∨ (Nd.kind a = 4 ∧ x = (Nd.mk 4 0 (Nd.str a ++ Nd.str b) [] [] : Nd (Tr d))) ∨
     (Nd.kind a = 5 ∧ x = rowT d (Nd.list a ++ Nd.list b)) ∨ (Nd.kind a = 6 ∧ x = mapT d (putAll (pairsT a) (pairsT b)))) := by
  unfold sumT at h
  rw [if_neg ha, if_neg hb] at h
  split at h
  · cases h
  · rename_i hk
    have hk : Nd.kind a = Nd.kind b := Decidable.of_not_not hk
    refine ⟨hk, ?_⟩
    split at h
    · rename_i e; cases h; exact ⟨e.symm, Or.inl ⟨e, rfl⟩⟩
    · split at h
      · rename_i e; cases h; exact ⟨e.symm, Or.inr (Or.inl ⟨e, rfl⟩)⟩
      · split at h
        · rename_i e; cases h; exact ⟨e.symm, Or.inr (Or.inr (Or.inl ⟨e, rfl⟩))⟩
        · split at h
          · rename_i e; cases h; exact ⟨e.symm, Or.inr (Or.inr (Or.inr ⟨e, rfl⟩))⟩
          · cases h
theorem sum_assoc {d : Nat} {a b c x p q r : Tr (d + 1)} (ha : okT (d + 1) a = true) (hb : okT (d + 1) b = true) (hc : okT (d + 1) c = true) (h1 : sumT d a b = some x) (h2 : sumT d x c = some p) (h3 : sumT d b c = some q) (h4 : sumT d a q = some r) : p = r := by
  by_cases ka : Nd.kind a = 0
  · rw [sum_left ka] at h1 h4
    cases h1
    cases h4
    rw [h3] at h2
    cases h2
    rfl
  by_cases kb : Nd.kind b = 0
  · rw [sum_right ka kb] at h1
    rw [sum_left kb] at h3
    cases h1
    cases h3
    rw [h2] at h4
    cases h4
    rfl
  obtain ⟨e1, e2, hx⟩ := sum_two ka kb h1
  by_cases kc : Nd.kind c = 0
  · rw [sum_right (by omega) kc] at h2
    rw [sum_right kb kc] at h3
    cases h2
    cases h3
    rw [h1] at h4
    cases h4
    rfl
  obtain ⟨e3, e4, hp⟩ := sum_two (by omega) kc h2
  obtain ⟨e5, e6, hq⟩ := sum_two kb kc h3
  obtain ⟨e7, e8, hr⟩ := sum_two ka (by omega) h4
  rcases hx with ⟨k, rfl⟩ | ⟨k, rfl⟩ | ⟨k, rfl⟩ | ⟨k, rfl⟩
  · rcases hp with ⟨_, rfl⟩ | ⟨k', _⟩ | ⟨k', _⟩ | ⟨k', _⟩
    · rcases hq with ⟨_, rfl⟩ | ⟨k', _⟩ | ⟨k', _⟩ | ⟨k', _⟩
      · rcases hr with ⟨_, rfl⟩ | ⟨k', _⟩ | ⟨k', _⟩ | ⟨k', _⟩
        · show (Nd.mk 3 (Nd.num a + Nd.num b + Nd.num c) ByteArray.empty [] [] : Nd (Tr d)) = Nd.mk 3 (Nd.num a + (Nd.num b + Nd.num c)) ByteArray.empty [] []
          rw [Int.add_assoc]
        all_goals omega
      all_goals omega
    all_goals (exfalso; rw [e2, k] at k'; omega)
  · rcases hp with ⟨k', _⟩ | ⟨_, rfl⟩ | ⟨k', _⟩ | ⟨k', _⟩
    · exfalso; rw [e2, k] at k'; omega
    · rcases hq with ⟨k', _⟩ | ⟨_, rfl⟩ | ⟨k', _⟩ | ⟨k', _⟩
      · omega
      · rcases hr with ⟨k', _⟩ | ⟨_, rfl⟩ | ⟨k', _⟩ | ⟨k', _⟩
        · omega
        · show (Nd.mk 4 0 ((Nd.str a ++ Nd.str b) ++ Nd.str c) [] [] : Nd (Tr d)) = Nd.mk 4 0 (Nd.str a ++ (Nd.str b ++ Nd.str c)) [] []
          rw [ByteArray.append_assoc]
        all_goals omega
      all_goals omega
    all_goals (exfalso; rw [e2, k] at k'; omega)
  · rcases hp with ⟨k', _⟩ | ⟨k', _⟩ | ⟨_, rfl⟩ | ⟨k', _⟩
    · exfalso; rw [e2, k] at k'; omega
    · exfalso; rw [e2, k] at k'; omega
    · rcases hq with ⟨k', _⟩ | ⟨k', _⟩ | ⟨_, rfl⟩ | ⟨k', _⟩
      · omega
      · omega
      · rcases hr with ⟨k', _⟩ | ⟨k', _⟩ | ⟨_, rfl⟩ | ⟨k', _⟩
        · omega
        · omega
        · show rowT d ((Nd.list a ++ Nd.list b) ++ Nd.list c) = rowT d (Nd.list a ++ (Nd.list b ++ Nd.list c))
          rw [List.append_assoc]
        · omega
      · omega
    · exfalso; rw [e2, k] at k'; omega
  · rcases hp with ⟨k', _⟩ | ⟨k', _⟩ | ⟨k', _⟩ | ⟨_, rfl⟩
    · exfalso; rw [e2, k] at k'; omega
    · exfalso; rw [e2, k] at k'; omega
    · exfalso; rw [e2, k] at k'; omega
    · rcases hq with ⟨k', _⟩ | ⟨k', _⟩ | ⟨k', _⟩ | ⟨_, rfl⟩
      · omega
      · omega
      · omega
      · rcases hr with ⟨k', _⟩ | ⟨k', _⟩ | ⟨k', _⟩ | ⟨_, rfl⟩
        · omega
        · omega
        · omega
        · rw [pairs_mapT, pairs_mapT, putAll_assoc (pairs_keys ha k) (pairs_keys hb (by omega)) (pairs_keys hc (by omega))]
theorem add_assoc {d : Nat} {a b c : Tr (d + 1)} (h1 : (partAddT d a b).2 = true) (h2 : (partAddT d (partAddT d a b).1 c).2 = true) (h3 : (partAddT d b c).2 = true) (h4 : (partAddT d a (partAddT d b c).1).2 = true) :
    (partAddT d (partAddT d a b).1 c).1 = (partAddT d a (partAddT d b c).1).1 := by
  obtain ⟨ha, hb, x, s1, _, e1⟩ := add_ok h1
  obtain ⟨_, hc, q, s3, _, e3⟩ := add_ok h3
  rw [e1] at h2 ⊢
  rw [e3] at h4 ⊢
  obtain ⟨_, _, p, s2, _, e2⟩ := add_ok h2
  obtain ⟨_, _, r, s4, _, e4⟩ := add_ok h4
  rw [e2, e4]
  exact sum_assoc ha hb hc s1 s2 s3 s4
end Go.Proofs.YtilgbnnjecpneaaGreatDoor
