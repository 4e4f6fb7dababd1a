/- Texts of the proof, put together by program: LPartK. -/
import Derived.Test.YtoangpfmjohhmaaGreatDoorP38
/- Keys, lengths and parts of plain trees: the facts that FnPartGet and FnPartEach ask for. -/
namespace Go.Proofs.YtoangpfmjohhmaaGreatDoor
open Go.RowKit Go.Deep

theorem kind_56 {d : Nat} {t : Tr (d + 1)} (h : okT (d + 1) t = true ∧ 5 ≤ Nd.kind t) : Nd.kind t = 5 ∨ Nd.kind t = 6 := by
  have := (okT_kinds h.1).1
  have h5 := h.2
  rcases this with h | h | h | h | h | h | h
  · omega
  · omega
  · omega
  · omega
  · omega
  · exact Or.inl h
  · exact Or.inr h
theorem len_56 {d : Nat} {t : Tr (d + 1)} (h : okT (d + 1) t = true ∧ 5 ≤ Nd.kind t) : partLenT d t = (numT d ((Nd.list t).length : Int), true) := by
  have hk := kind_56 h
  have h5 := h.2
  have hl : lenT d t = some ((Nd.list t).length : Int) := by
    unfold lenT
    rw [if_neg (by omega), if_neg (by omega), if_neg (by omega), if_pos hk]
  unfold partLenT
  rw [if_pos h.1, hl]
theorem keyTs_length {d : Nat} {t : Tr (d + 2)} (h : okT (d + 2) t = true ∧ 5 ≤ Nd.kind t) : (keyTs d t).length = (Nd.list t).length := keyTs_len h.1 h.2
theorem at_56 {d : Nat} {t : Tr (d + 2)} {k : Nat} {y : Tr (d + 1)} (h : okT (d + 2) t = true) (h5 : Nd.kind t = 5) (hy : (Nd.list t)[k]? = some y) : partAtT d t (k : Int) = (y, true) := by
  have hlt := (List.getElem?_eq_some_iff.1 hy).1
  unfold partAtT placeL placeI
  rw [if_pos h, if_neg (by omega), if_pos h5, if_neg (by omega), if_neg (by omega), if_neg (by omega), Int.toNat_natCast, hy]
  rfl
theorem at_6 {d : Nat} {t : Tr (d + 2)} {i : Int} (h6 : Nd.kind t = 6) : partAtT d t i = (zeroT d, false) := by
  unfold partAtT
  by_cases h : okT (d + 2) t = true
  · rw [if_pos h, if_neg (by omega), if_neg (by omega)]
  · rw [if_neg h]
theorem keys_good {d : Nat} {t : Tr (d + 1)} (h : okT (d + 1) t = true) (h6 : Nd.kind t = 6) : keysB (Nd.keys t) = true := (okT_maps h h6).2
theorem get_6 {d : Nat} {t : Tr (d + 2)} {k : Nat} {s : ByteArray} {y : Tr (d + 1)} (h : okT (d + 2) t = true) (h6 : Nd.kind t = 6) (hs : (Nd.keys t)[k]? = some s) (hy : (Nd.list t)[k]? = some y) : partGetT d t s = (y, true) := by
  have hkb := keys_good h h6
  unfold partGetT
  rw [if_pos ⟨h, keysGo_ok _ none hkb s (List.mem_of_getElem? hs)⟩, if_neg (by omega), if_pos h6, getL_key hkb hs hy]
  rfl
theorem keyTs_at {d : Nat} {t : Tr (d + 2)} {k : Nat} {s : ByteArray} (h6 : Nd.kind t = 6) (hs : (Nd.keys t)[k]? = some s) : (keyTs d t)[k]? = some (strT d s) := by
  unfold keyTs
  rw [if_neg (by omega), List.getElem?_map, hs]
  rfl
/-- An answer that is written into a variable that is there. -/
theorem var_over {w Wc W : World} {b : Nat} {z0 z1 z2 z3 z4 : Value} {c0 c1 : Int} {c2 : ByteArray} {c3 : Option Addr} {c4 c5 : Nat} {c6 : Option Addr} {c7 c8 : Nat} {d : Nat} {t : Tr d} (hz : Blk5 W b 26 z0 z1 z2 z3 z4) (hb : b < Wc.heap.size) (hl : w.heap.size ≤ Wc.heap.size)
    (h : ValAt (FreshP Wc W) W d t (.agg #[.int .i64 c0, .int .i64 c1, .string c2, .slice c3 c4 c5, .slice c6 c7 c8])) :
    ∀ wF, wF = set5 W b 0 (.int .i64 c0) (.int .i64 c1) (.string c2) (.slice c3 c4 c5) (.slice c6 c7 c8) → VarAt w wF b c0 c1 c2 c3 c4 c5 c6 c7 c8 d t := fun wF hF => by
  rw [hF]
  exact var_set hz hb hl h
end Go.Proofs.YtoangpfmjohhmaaGreatDoor
