/- An answer, in a variable of its own. -/
import Derived.Test.YtlpembhdojdomaaGreatDoorWLenB
import Derived.Test.YtlpembhdojdomaaGreatDoorWCopyP
namespace Go.Proofs.YtlpembhdojdomaaGreatDoor
open Go.RowKit Go.Deep

/-- An answer, in a variable of its own at b. -/
structure ToldIn (e lo b : Nat) (t : Tr (e + 1)) (w wc : World) (p0 p1 : Int) (p2 : ByteArray) (p3 : Option Addr) (p4 p5 : Nat) (p6 : Option Addr) (p7 p8 : Nat) : Prop where
  var : Blk5 wc b 29 (.int .i64 p0) (.int .i64 p1) (.string p2) (.slice p3 p4 p5) (.slice p6 p7 p8)
  val : ValAt (fun x => lo ≤ x ∧ x < wc.heap.size ∧ x ≠ b) wc (e + 1) t (.agg #[.int .i64 p0, .int .i64 p1, .string p2, .slice p3 p4 p5, .slice p6 p7 p8])
  below : Below lo w wc
  lob : lo ≤ b

theorem told_set {e lo b : Nat} {t : Tr (e + 1)} {w W : World} {p0 p1 : Int} {p2 : ByteArray} {p3 : Option Addr} {p4 p5 : Nat} {p6 : Option Addr} {p7 p8 : Nat} {c0 c1 c2 c3 c4 : Value} {S : Nat → Prop} (hz : Blk5 W b 29 c0 c1 c2 c3 c4) (hlo : lo ≤ b) (hb : Below lo w W)
    (ha : ValAt S W (e + 1) t (.agg #[.int .i64 p0, .int .i64 p1, .string p2, .slice p3 p4 p5, .slice p6 p7 p8])) (hS : ∀ x, S x → lo ≤ x ∧ x < W.heap.size ∧ x ≠ b) :
    ToldIn e lo b t w (set5 W b 0 (.int .i64 p0) (.int .i64 p1) (.string p2) (.slice p3 p4 p5) (.slice p6 p7 p8)) p0 p1 p2 p3 p4 p5 p6 p7 p8 := by
  refine ⟨?_, ?_, below_set5 hb hlo _ _ _ _ _ _, hlo⟩
  · unfold Blk5 at hz ⊢
    simp [set5, World.setCell, Array.getElem?_modify, hz]
  · exact ValAt.moved (fun x hx => set5_block _ _ _ _ _ _ _ _ _ (hS x hx).2.2) (fun x hx => ⟨(hS x hx).1, by rw [set5_size]; exact (hS x hx).2.1, (hS x hx).2.2⟩) _ _ _ ha
theorem told_new {e lo : Nat} {t : Tr (e + 1)} {w W : World} {p0 p1 : Int} {p2 : ByteArray} {p3 : Option Addr} {p4 p5 : Nat} {p6 : Option Addr} {p7 p8 : Nat} {S : Nat → Prop} (hlo : lo ≤ W.heap.size) (hb : Below lo w W)
    (ha : ValAt S W (e + 1) t (.agg #[.int .i64 p0, .int .i64 p1, .string p2, .slice p3 p4 p5, .slice p6 p7 p8])) (hS : ∀ x, S x → lo ≤ x ∧ x < W.heap.size) :
    ToldIn e lo W.heap.size t w (W.alloc (.cells #[.int .i64 p0, .int .i64 p1, .string p2, .slice p3 p4 p5, .slice p6 p7 p8] 29)) p0 p1 p2 p3 p4 p5 p6 p7 p8 := by
  refine ⟨Blk5.new _ _ _ _ _ _ _, ?_, hb.alloc hlo _, hlo⟩
  exact ValAt.moved (fun x hx => Below.heap_alloc _ _ _ (hS x hx).2) (fun x hx => ⟨(hS x hx).1, by have := (hS x hx).2; simp; omega, by have := (hS x hx).2; omega⟩) _ _ _ ha
theorem Fresh.within' (w : World) {w' w2 : World} (h : w'.heap.size ≤ w2.heap.size) : Within (Fresh w w') w2 := fun _ hb => Nat.lt_of_lt_of_le hb.2 h
theorem newDrew (w : World) (T : TypeId) (c0 c1 c2 c3 c4 : Value) : Blk5 (w.alloc (.cells #[c0, c1, c2, c3, c4] T)).drew w.heap.size T c0 c1 c2 c3 c4 := Blk5.new w T c0 c1 c2 c3 c4
theorem belowChain {n b : Nat} {w W : World} {T : TypeId} {c0 c1 c2 c3 c4 : Value} (hb : Below n w W) (_hz : Blk5 W b T c0 c1 c2 c3 c4) (hle : n ≤ b) (v0 v1 v2 v3 v4 : Value) : Below n w (((((W.setCell ⟨b, 0, none⟩ v0).setCell ⟨b, 1, none⟩ v1).setCell ⟨b, 2, none⟩ v2).setCell ⟨b, 3, none⟩ v3).setCell ⟨b, 4, none⟩ v4) :=
  below_set5 hb hle 0 v0 v1 v2 v3 v4
end Go.Proofs.YtlpembhdojdomaaGreatDoor
