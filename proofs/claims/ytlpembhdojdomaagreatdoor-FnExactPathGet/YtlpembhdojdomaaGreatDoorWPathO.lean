/- l3One of the model. -/
import Derived.Test.YtlpembhdojdomaaGreatDoorWPathP
import Derived.Test.YtlpembhdojdomaaGreatDoorWAtM
import Derived.Test.YtlpembhdojdomaaGreatDoorWGetM
namespace Go.Proofs.YtlpembhdojdomaaGreatDoor
open Go.RowKit Go.Deep

theorem at_end {D : Nat} {S : Nat → Prop} {t : Tr D} {w w2 : World} {v : Value} {c : Nat} (hu : ValAt S w2 D t v) (hS : Within S w) (hB : Below w.heap.size w w2) (hc : w.heap.size ≤ c) :
    ∀ (u0 u1 u2 u3 u4 : Value) (wF : World), wF = set5 w2 c 0 u0 u1 u2 u3 u4 → ValAt S wF D t v ∧ Below w.heap.size w wF := by
  intro u0 u1 u2 u3 u4 wF hF
  refine ⟨hu.same (fun b hb => ?_), by rw [hF]; exact below_set5 hB hc _ _ _ _ _ _⟩
  rw [hF, set5_block _ _ _ _ _ _ _ _ _ (by have := hS b hb; omega)]

set_option maxRecDepth 100000 in
set_option maxHeartbeats 4000000 in
theorem l3One_any (d : Nat) (S : Nat → Prop) (t : Tr (d + 2)) (v : Value) (p : Stp) (w : World) (hv : ValAt S w (d + 2) t v) (hS : Within S w) (hp : StpFit p) (hok : okT (d + 2) t = true) (hst : stpOk p = true) :
    Calls Tryz.prog 69 #[v, .agg #[.bool p.map, .string p.key, .int .i64 p.place]] w fun e w' => ∃ u, e = .returned (.tuple #[u, .bool (stepT d t p).2]) ∧ ValAt S w' (d + 2) (stepT d t p).1 u ∧ Below w.heap.size w w' := by
  obtain ⟨k, n, s, ak, lk, ck, al, ll, cl, rfl⟩ := hv.shape
  cases hm : p.map with
  | true =>
    have HS := hide (stepT_map (d := d) (t := t) hm)
    have hstr := strOk_of hst hm
    obtain ⟨W0, hW⟩ : ∃ W0, W0 = ((w.alloc (.cells #[.int .i64 k, .int .i64 n, .string s, .slice ak lk ck, .slice al ll cl] 29)).alloc (.cells #[.bool true, .string p.key, .int .i64 p.place] 85)).alloc (.cells #[.int .i64 0, .int .i64 0, .string { data := #[] }, .slice none 0 0, .slice none 0 0] 29) := ⟨_, rfl⟩
    have hW0 : Below w.heap.size w W0 := by rw [hW]; exact below_trans (below_trans (below_alloc1 _ _) (below_alloc1 _ _)) (below_alloc1 _ _)
    have k2 : Blk5 W0 (w.heap.size + 1 + 1) 29 (.int .i64 0) (.int .i64 0) (.string { data := #[] }) (.slice none 0 0) (.slice none 0 0) := by
      have := Blk5.new ((w.alloc (.cells #[.int .i64 k, .int .i64 n, .string s, .slice ak lk ck, .slice al ll cl] 29)).alloc (.cells #[.bool true, .string p.key, .int .i64 p.place] 85)) 29 (.int .i64 0) (.int .i64 0) (.string { data := #[] }) (.slice none 0 0) (.slice none 0 0)
      rw [World.size_alloc, World.size_alloc] at this
      rw [hW]
      exact this
    have HW := hide hW
    clear hW
    go_enter Tryz.func69, Tryz.ntmps69
    go_wp2_with fail
    rw [← HW.out]
    clear HW
    refine (l2Get_any d S t _ p.key W0 (hv.same (hS.same hW0)) (hS.later hW0.size) hstr hok).mono ?_
    rintro e w1 ⟨u, rfl, hu, hb1⟩
    obtain ⟨u0, u1, u2, u3, u4, u5, u6, u7, u8, rfl⟩ := hu.shape
    have HF := hide (at_end hu hS (below_trans hW0 hb1) (show w.heap.size ≤ w.heap.size + 1 + 1 by omega))
    have k3 := k2.below hb1
    obtain ⟨y0, y1, y2, y3, y4⟩ := k3.cell
    have yf := k3.frozen
    clear k2 k3 hb1 hW0 hu hv
    go_wp2_with fail
    rw [HS.out]
    refine bodyPost_ret (v := .tuple #[.agg #[.int .i64 u0, .int .i64 u1, .string u2, .slice u3 u4 u5, .slice u6 u7 u8], .bool (partGetT d t p.key).2]) (by simp [results, Tryz.results69, go_sem, y0, y1, y2, y3, y4]) rfl ⟨_, rfl, ValAt.up _ _ _ (HF.out _ _ _ _ _ _ rfl).1, (HF.out _ _ _ _ _ _ rfl).2⟩
  | false =>
    have HS := hide (stepT_place (d := d) (t := t) hm)
    obtain ⟨W0, hW⟩ : ∃ W0, W0 = ((w.alloc (.cells #[.int .i64 k, .int .i64 n, .string s, .slice ak lk ck, .slice al ll cl] 29)).alloc (.cells #[.bool false, .string p.key, .int .i64 p.place] 85)).alloc (.cells #[.int .i64 0, .int .i64 0, .string { data := #[] }, .slice none 0 0, .slice none 0 0] 29) := ⟨_, rfl⟩
    have hW0 : Below w.heap.size w W0 := by rw [hW]; exact below_trans (below_trans (below_alloc1 _ _) (below_alloc1 _ _)) (below_alloc1 _ _)
    have k2 : Blk5 W0 (w.heap.size + 1 + 1) 29 (.int .i64 0) (.int .i64 0) (.string { data := #[] }) (.slice none 0 0) (.slice none 0 0) := by
      have := Blk5.new ((w.alloc (.cells #[.int .i64 k, .int .i64 n, .string s, .slice ak lk ck, .slice al ll cl] 29)).alloc (.cells #[.bool false, .string p.key, .int .i64 p.place] 85)) 29 (.int .i64 0) (.int .i64 0) (.string { data := #[] }) (.slice none 0 0) (.slice none 0 0)
      rw [World.size_alloc, World.size_alloc] at this
      rw [hW]
      exact this
    have HW := hide hW
    clear hW
    go_enter Tryz.func69, Tryz.ntmps69
    go_wp2_with fail
    rw [← HW.out]
    clear HW
    refine (l2At_any d S t _ p.place W0 (hv.same (hS.same hW0)) (hS.later hW0.size) hp.2 hok).mono ?_
    rintro e w1 ⟨u, rfl, hu, hb1⟩
    obtain ⟨u0, u1, u2, u3, u4, u5, u6, u7, u8, rfl⟩ := hu.shape
    have HF := hide (at_end hu hS (below_trans hW0 hb1) (show w.heap.size ≤ w.heap.size + 1 + 1 by omega))
    have k3 := k2.below hb1
    obtain ⟨y0, y1, y2, y3, y4⟩ := k3.cell
    have yf := k3.frozen
    clear k2 k3 hb1 hW0 hu hv
    go_wp2_with fail
    rw [HS.out]
    refine bodyPost_ret (v := .tuple #[.agg #[.int .i64 u0, .int .i64 u1, .string u2, .slice u3 u4 u5, .slice u6 u7 u8], .bool (partAtT d t p.place).2]) (by simp [results, Tryz.results69, go_sem, y0, y1, y2, y3, y4]) rfl ⟨_, rfl, ValAt.up _ _ _ (HF.out _ _ _ _ _ _ rfl).1, (HF.out _ _ _ _ _ _ rfl).2⟩

theorem below_alloc_r {B : Nat} {a w : World} {o : Obj} (h : Below B a w) (hB : B ≤ a.heap.size := by exact Nat.le_refl _) : Below B a (w.alloc o) := h.trans ((below_alloc1 w o).mono (Nat.le_trans hB h.size))
theorem below_cell_r {B : Nat} {a w : World} {p : Addr} {v : Value} (h : Below B a w) (hB : B ≤ p.block) : Below B a (w.setCell p v) := h.setCell hB v
theorem Blk5.set5 {w : World} {b : Nat} {T : TypeId} {c0 c1 c2 c3 c4 : Value} (h : Blk5 w b T c0 c1 c2 c3 c4) (u0 u1 u2 u3 u4 : Value) : Blk5 (set5 w b 0 u0 u1 u2 u3 u4) b T u0 u1 u2 u3 u4 := by
  unfold Blk5 at h ⊢
  simp [Go.Proofs.YtlpembhdojdomaaGreatDoor.set5, World.setCell, Array.getElem?_modify, h]
end Go.Proofs.YtlpembhdojdomaaGreatDoor
