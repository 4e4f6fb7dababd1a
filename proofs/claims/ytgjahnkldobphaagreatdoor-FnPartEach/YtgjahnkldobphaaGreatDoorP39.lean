/- Texts of the proof, put together by program: LPartK2. -/
import Derived.Test.YtgjahnkldobphaaGreatDoorP37
/- A variable that is written anew in a loop; how FnPartEach builds its tree. -/
namespace Go.Proofs.YtgjahnkldobphaaGreatDoor
open Go.RowKit Go.Deep

/-- The variable of the tree that is built, at the block behind the world Wb. -/
structure LoopW (w Wb W : World) (c0 c1 : Int) (c2 : ByteArray) (c3 : Option Addr) (c4 c5 : Nat) (c6 : Option Addr) (c7 c8 : Nat) (t : Tr 12) : Prop where
  blk : Blk5 W Wb.heap.size 26 (.int .i64 c0) (.int .i64 c1) (.string c2) (.slice c3 c4 c5) (.slice c6 c7 c8)
  val : ValAt (FreshQ Wb W) W 12 t (.agg #[.int .i64 c0, .int .i64 c1, .string c2, .slice c3 c4 c5, .slice c6 c7 c8])
  since : Below Wb.heap.size Wb W
  lo : w.heap.size ≤ Wb.heap.size
theorem LoopW.go {w Wb W W' : World} {c0 c1 : Int} {c2 : ByteArray} {c3 : Option Addr} {c4 c5 : Nat} {c6 : Option Addr} {c7 c8 : Nat} {t : Tr 12} (h : LoopW w Wb W c0 c1 c2 c3 c4 c5 c6 c7 c8 t) (hb : Below W.heap.size W W') : LoopW w Wb W' c0 c1 c2 c3 c4 c5 c6 c7 c8 t := by
  have hs : Same (FreshQ Wb W) W W' := fun b hb' => hb.block b hb'.2.1
  exact ⟨h.blk.below hb, ValAt.moved hs (fun b hb' => ⟨hb'.1, Nat.lt_of_lt_of_le hb'.2.1 hb.size, hb'.2.2.of_block (hs b hb')⟩) 12 t _ h.val, below_trans h.since hb, h.lo⟩
theorem LoopW.var {w Wb W : World} {c0 c1 : Int} {c2 : ByteArray} {c3 : Option Addr} {c4 c5 : Nat} {c6 : Option Addr} {c7 c8 : Nat} {t : Tr 12} (h : LoopW w Wb W c0 c1 c2 c3 c4 c5 c6 c7 c8 t) : VarAt w W Wb.heap.size c0 c1 c2 c3 c4 c5 c6 c7 c8 12 t :=
  ⟨h.blk, h.val.mono (fun _ hb => ⟨⟨Nat.le_trans h.lo (Nat.le_of_lt hb.1), hb.2.1⟩, hb.2.2⟩)⟩
theorem LoopW.start {w Wb : World} (hl : w.heap.size ≤ Wb.heap.size) : LoopW w Wb (Wb.alloc (.cells #[.int .i64 0, .int .i64 0, .string { data := #[] }, .slice none 0 0, .slice none 0 0] 26)) 0 0 { data := #[] } none 0 0 none 0 0 (zeroT 11) :=
  ⟨Blk5.new _ _ _ _ _ _ _, zero_at _ _ 11, below_alloc1 _ _, hl⟩
/-- Another tree in it. -/
theorem LoopW.set {w Wb wr W : World} {b : Nat} {c0 c1 : Int} {c2 : ByteArray} {c3 : Option Addr} {c4 c5 : Nat} {c6 : Option Addr} {c7 c8 : Nat} {t t' : Tr 12} {x0 x1 : Int} {x2 : ByteArray} {x3 : Option Addr} {x4 x5 : Nat} {x6 : Option Addr} {x7 x8 : Nat}
    (h : LoopW w Wb W c0 c1 c2 c3 c4 c5 c6 c7 c8 t) (hx : VarAt wr W b x0 x1 x2 x3 x4 x5 x6 x7 x8 12 t') (hr : Wb.heap.size < wr.heap.size) :
    ∀ wF, wF = set5 W Wb.heap.size 0 (.int .i64 x0) (.int .i64 x1) (.string x2) (.slice x3 x4 x5) (.slice x6 x7 x8) → LoopW w Wb wF x0 x1 x2 x3 x4 x5 x6 x7 x8 t' := by
  intro wF hF
  have hs : ∀ x, x ≠ Wb.heap.size → wF.heap[x]? = W.heap[x]? := fun x hx => by rw [hF]; exact set5_block _ _ _ _ _ _ _ _ _ hx
  have hz : wF.heap.size = W.heap.size := by rw [hF]; exact set5_size _ _ _ _ _ _ _ _
  refine ⟨by rw [hF]; exact blk_set5 h.blk _ _ _ _ _, ValAt.moved (fun x hx' => hs x (by have := hx'.1.1; omega)) (fun x hx' => ⟨by have := hx'.1.1; omega, by rw [hz]; exact hx'.1.2, hx'.2.of_block (hs x (by have := hx'.1.1; omega))⟩) 12 t' _ hx.val, ?_, h.lo⟩
  rw [hF]
  exact below_set5 h.since (Nat.le_refl _) _ _ _ _ _ _

/-- How the tree is built. -/
theorem each_steps {V : Tr 12} (h : okT 12 V = true ∧ 5 ≤ Nd.kind V) : ∃ wk : Nat → Tr 12, wk 0 = zeroT 11 ∧ (0 < (Nd.list (α := Tr 11) V).length → wk (Nd.list (α := Tr 11) V).length = V) ∧
    (Nd.kind V = 5 → ∀ (k : Nat) (y : Tr 11), (Nd.list (α := Tr 11) V)[k]? = some y → partSetT 10 (wk k) (k : Int) y = (wk (k + 1), true)) ∧
    (Nd.kind V = 6 → ∀ (k : Nat) (s : ByteArray) (y : Tr 11), (Nd.keys (α := Tr 11) V)[k]? = some s → (Nd.list (α := Tr 11) V)[k]? = some y → partPutT 10 (wk k) s y = (wk (k + 1), true)) := by
  rcases kind_56 h with h5 | h6
  · have hself := row_self h.1 h5
    have ho : okT 12 (rowT 11 (Nd.list (α := Tr 11) V)) = true := by rw [← hself]; exact h.1
    refine ⟨eachRow 10 (Nd.list (α := Tr 11) V), rfl, fun h0 => ?_, fun _ k y hy => each_row_step ho hy, fun h6 => by omega⟩
    unfold eachRow
    rw [if_neg (by omega), List.take_length]
    exact hself.symm
  · have hself := map_self h.1 h6
    have hl := okT_keys (d := 11) h.1 h6
    have ho : okT 12 (mapT 11 ((Nd.keys (α := Tr 11) V).zip (Nd.list (α := Tr 11) V))) = true := by rw [← hself]; exact h.1
    refine ⟨eachMap 10 ((Nd.keys (α := Tr 11) V).zip (Nd.list (α := Tr 11) V)), rfl, fun h0 => ?_, fun h5 => by omega, fun _ k s y hs hy => each_map_step ho (by rw [List.getElem?_zip_eq_some]; exact ⟨hs, hy⟩)⟩
    unfold eachMap
    have hzl : ((Nd.keys (α := Tr 11) V).zip (Nd.list (α := Tr 11) V)).length = (Nd.list (α := Tr 11) V).length := by rw [List.length_zip]; omega
    rw [if_neg (by omega), ← hzl, List.take_length]
    exact hself.symm
end Go.Proofs.YtgjahnkldobphaaGreatDoor
