/- l2Set of the model. -/
import Derived.Test.YtlpembhdojdomaaGreatDoorWSetA
namespace Go.Proofs.YtlpembhdojdomaaGreatDoor
open Go.RowKit Go.Deep

/-- What stands while a row is made longer, in a variable's list. -/
structure L2At (d : Nat) (S : Nat → Prop) (N ob : Nat) (W wr : World) (xs : List (Tr (d + 1))) (lv : Value) (ws : List Value) : Prop where
  out : Blk5 wr ob 29 (.int .i64 5) (.int .i64 0) (.string { data := #[] }) (.slice none 0 0) lv
  row : VTo S N wr lv xs ws
  below : Below N W wr
  off : lv.ownBlock ≠ some ob
  ge : N ≤ ob

theorem L2At.step {d N ob : Nat} {S : Nat → Prop} {W wr w2 : World} {xs : List (Tr (d + 1))} {lv lv' : Value} {ws : List Value} {o : Obj} (h : L2At d S N ob W wr xs lv ws) (hS : ∀ b, S b → b < N) (hSw : Within S wr)
    (hown : w2.ownsRow N 29 5 lv' (xs.length + 1) (ws ++ [.int .i64 0, .int .i64 0, .string { data := #[] }, .slice none 0 0, .slice none 0 0])) (hg : (wr.alloc o).grownBy w2 lv.ownBlock) (hw : lv'.ownBlock = lv.ownBlock ∨ lv'.ownBlock = some (wr.alloc o).heap.size) :
    Blk5 w2 ob 29 (.int .i64 5) (.int .i64 0) (.string { data := #[] }) (.slice none 0 0) lv ∧ L2At d S N ob W (w2.setCell ⟨ob, 4, none⟩ lv') (xs ++ [zeroT d]) lv' (ws ++ [.int .i64 0, .int .i64 0, .string { data := #[] }, .slice none 0 0, .slice none 0 0]) := by
  have hol := h.out.lt
  have hge := h.ge
  have hs2 := hg.size
  have hz : (wr.alloc o).heap.size = wr.heap.size + 1 := by simp
  rw [hz] at hw
  have hrow : ∀ g, lv.ownBlock = some g → N ≤ g := fun g hg => (h.row.1.lt g hg).1
  have hblk : ∀ b, b < wr.heap.size → some b ≠ lv.ownBlock → w2.heap[b]? = wr.heap[b]? := fun b hb1 hb2 => (hg.block b (by omega) hb2).trans (Below.heap_alloc _ _ _ hb1)
  have yb : Blk5 w2 ob 29 (.int .i64 5) (.int .i64 0) (.string { data := #[] }) (.slice none 0 0) lv := h.out.of_block (hblk ob hol (fun e => h.off e.symm))
  have hsame : Same S wr w2 := fun b hb => hblk b (hSw b hb) (fun e => by have := hrow b e.symm; have := hS b hb; omega)
  have hoff : lv'.ownBlock ≠ some ob := by
    rcases hw with e | e
    · rw [e]; exact h.off
    · rw [e]; intro e2; cases e2; omega
  refine ⟨yb, yb.set4 _, ?_, ?_, hoff, hge⟩
  · have hz0 : ValAt S wr (d + 1) (zeroT d) (.agg #[.int .i64 0, .int .i64 0, .string { data := #[] }, .slice none 0 0, .slice none 0 0]) := zeroAt d S wr
    refine (h.row.grow hsame hz0 hown).moved (fun b hb => Below.heap_setCell _ _ _ _ (by have := hS b hb; show b ≠ ob; omega)) (fun g hg => Below.heap_setCell _ _ _ _ (fun e => hoff (by rw [hg, e])))
  · have hb := h.below
    refine ⟨hg.os.trans hb.os, hg.tape.trans hb.tape, hg.output.trans hb.output, ?_, fun b hbN => ?_⟩
    · have := hb.size
      simp [World.setCell]
      omega
    · exact (Below.heap_setCell _ _ _ _ (by show b ≠ ob; omega)).trans ((hblk b (by omega) (fun e => by have := hrow b e.symm; omega)).trans (hb.block b hbN))

set_option maxRecDepth 100000 in
set_option maxHeartbeats 1000000 in
theorem l2Set_any (d : Nat) (S : Nat → Prop) (t : Tr (d + 2)) (v : Value) (x : Tr (d + 1)) (xv : Value) (k : Nat) (w : World) (hv : ValAt S w (d + 2) t v) (hx : ValAt S w (d + 1) x xv) (hS : Within S w) (hk : k < 60) (hl : (Nd.list t).length ≤ 60) :
    Calls Tryz.prog 46 #[v, .int .i64 (k : Int), xv] w fun e w' => ∃ u, e = .returned u ∧ ValAt (fun b => S b ∨ Fresh w w' b) w' (d + 2) (rowT (d + 1) (setL (Nd.list t) (zeroT d) k x)) u ∧ Below w.heap.size w w' := by
  obtain ⟨kind, num, str, keys, list⟩ := t
  obtain ⟨vk, vl, rfl, i1, i2, i3, hk', hl'⟩ := hv
  have hl' : RowAt S w (ValAt S w (d + 1)) vl list := hl'
  have hl : list.length ≤ 60 := hl
  obtain ⟨ak, ck, rfl, hkl⟩ := hk'.open'
  obtain ⟨al, cl, rfl, hll⟩ := hl'.open'
  obtain ⟨k', n', s', ak', lk', ck', al', ll', cl', rfl⟩ := hx.shape
  show Calls Tryz.prog 46 #[.agg #[.int .i64 kind, .int .i64 num, .string str, .slice ak keys.length ck, .slice al list.length cl], .int .i64 (k : Int), .agg #[.int .i64 k', .int .i64 n', .string s', .slice ak' lk' ck', .slice al' ll' cl']] w _
  obtain ⟨k0, k1, k2, hW0, hsz0⟩ := laid3 w 29 29 29 (.int .i64 kind) (.int .i64 num) (.string str) (.slice ak keys.length ck) (.slice al list.length cl) (.int .i64 k') (.int .i64 n') (.string s') (.slice ak' lk' ck') (.slice al' ll' cl') (.int .i64 0) (.int .i64 0) (.string { data := #[] }) (.slice none 0 0) (.slice none 0 0)
  obtain ⟨W0, hW⟩ : ∃ W0, W0 = ((w.alloc (.cells #[.int .i64 kind, .int .i64 num, .string str, .slice ak keys.length ck, .slice al list.length cl] 29)).alloc (.cells #[.int .i64 k', .int .i64 n', .string s', .slice ak' lk' ck', .slice al' ll' cl'] 29)).alloc (.cells #[.int .i64 0, .int .i64 0, .string { data := #[] }, .slice none 0 0, .slice none 0 0] 29) := ⟨_, rfl⟩
  rw [← hW] at k0 k1 k2 hW0 hsz0
  have hWg := below_trans hW0 (below_alloc1 W0 (.cells #[] 29))
  have hgn : (W0.alloc (.cells #[] 29)).heap[w.heap.size + 1 + 1 + 1]? = some (.cells #[] 29 (0, 0)) := by
    have := heap_alloc_new W0 (.cells #[] 29)
    rw [hsz0] at this
    exact this
  have hAP := run_append_vals (d := d + 1) S list al cl (w.heap.size + 1 + 1 + 1) 27 (W0.alloc (.cells #[] 29)) hgn (hl'.same (hS.same hWg)) (fun h => by have := hS _ h; omega) (hS.later hWg.size) (by omega)
  rw [hW] at hAP
  have HAP := hide hAP
  have HW := hide hW
  have hxw := hide (hx.same (hS.same hW0))
  have hS0 : ∀ b, S b → b < w.heap.size + 1 + 1 + 1 := fun b hb => by have := hS b hb; omega
  clear hAP hW hk' hl' hx hgn hWg k0
  go_enter Tryz.func46, Tryz.ntmps46
  go_wp2_with (at_builtin; refine wpList_append_run _ rfl _ _ 27 rfl _ _ rfl rfl HAP.out ?_)
  intro v' w1 vs hvt hgr a' c' hv'
  subst hv'
  rw [← HW.out] at hgr
  have hz0 : (W0.alloc (.cells #[] 29)).heap.size = w.heap.size + 1 + 1 + 1 + 1 := by simp [hsz0]
  have hs1 := hgr.size
  have hb1 : Below W0.heap.size W0 w1 := ⟨hgr.os, hgr.tape, hgr.output, by omega, fun b hb => (hgr.block b (by omega) (fun e => by cases e; omega)).trans (Below.heap_alloc _ _ _ hb)⟩
  have hlt1 : ∀ g, (Value.slice a' list.length c').ownBlock = some g → g < w1.heap.size := fun g hg => (hvt.1.lt g hg).2
  have hst : Hid (L2At d S (w.heap.size + 1 + 1 + 1) w1.heap.size W0 (w1.alloc (.cells #[.int .i64 5, .int .i64 0, .string { data := #[] }, .slice none 0 0, .slice a' list.length c'] 29)) (list ++ List.replicate 0 (zeroT d)) (.slice a' list.length c') vs) := by
    refine ⟨Blk5.new _ _ _ _ _ _ _, ?_, ?_, fun e => by have := hlt1 _ e; omega, by omega⟩
    · rw [List.replicate_zero, List.append_nil]
      exact hvt.moved (fun b hb => Below.heap_alloc _ _ _ (by have := hS0 b hb; omega)) (fun g hg => Below.heap_alloc _ _ _ (hlt1 g hg))
    · exact Below.trans (by rw [← hsz0]; exact hb1) ((below_alloc1 _ _).mono (by omega))
  obtain ⟨i0, hi, hz0', hz1, hz2⟩ := info_parts Tryz.infoV2
  have hBw := hW0
  clear hvt hgr HAP HW hz0 hb1 hlt1 hW0
  go_wp2_with fail
  go_loopw [] (fun wr => ∃ (m : Nat) (ra : Option Addr) (rc : Nat) (ws : List Value), list.length + m ≤ max list.length (k + 1) ∧ Hid (L2At d S (w.heap.size + 1 + 1 + 1) w1.heap.size W0 wr (list ++ List.replicate m (zeroT d)) (.slice ra (list.length + m) rc) ws)) (fun wr => k + 1 - (match wr.cell? ⟨w1.heap.size, 4, none⟩ with | some (.slice _ n _) => n | _ => 0))
  case atStart => exact ⟨0, a', c', vs, by omega, hst⟩
  case round =>
    clear hst
    obtain ⟨m, ra, rc, ws, hm, hat⟩ := hrel
    have hlen : (list ++ List.replicate m (zeroT d)).length = list.length + m := by rw [List.length_append, List.length_replicate]
    have hown := hat.out.row.1
    rw [hlen] at hown
    obtain ⟨y0, y1, y2, y3, y4⟩ := hat.out.out.cell
    have hsw : w.heap.size + 1 + 1 + 1 ≤ wr.heap.size := by have := hat.out.out.lt; have := hat.out.ge; omega
    by_cases hgo : list.length + m ≤ k
    · have hgi : ((list.length + m : Nat) : Int) ≤ (k : Int) := by omega
      have HO := hide (hown.alloc (.cells #[.int .i64 0, .int .i64 0, .string { data := #[] }, .slice none 0 0, .slice none 0 0] 29))
      have hstep : Hid (∀ lv' w2, w2.ownsRow (w.heap.size + 1 + 1 + 1) 29 5 lv' (list.length + m + 1) (ws ++ [.int .i64 0, .int .i64 0, .string { data := #[] }, .slice none 0 0, .slice none 0 0]) → (wr.alloc (.cells #[.int .i64 0, .int .i64 0, .string { data := #[] }, .slice none 0 0, .slice none 0 0] 29)).grownBy w2 (Value.slice ra (list.length + m) rc).ownBlock →
          (lv'.ownBlock = (Value.slice ra (list.length + m) rc).ownBlock ∨ lv'.ownBlock = some (wr.alloc (.cells #[.int .i64 0, .int .i64 0, .string { data := #[] }, .slice none 0 0, .slice none 0 0] 29)).heap.size) →
          ∃ ra' rc', lv' = .slice ra' (list.length + (m + 1)) rc' ∧ Blk5 w2 w1.heap.size 29 (.int .i64 5) (.int .i64 0) (.string { data := #[] }) (.slice none 0 0) (.slice ra (list.length + m) rc) ∧ L2At d S (w.heap.size + 1 + 1 + 1) w1.heap.size W0 (w2.setCell ⟨w1.heap.size, 4, none⟩ lv') (list ++ List.replicate (m + 1) (zeroT d)) lv' (ws ++ [.int .i64 0, .int .i64 0, .string { data := #[] }, .slice none 0 0, .slice none 0 0])) := by
        intro lv' w2 o1 o2 o3
        have hshape : ∃ ra' rc', lv' = .slice ra' (list.length + (m + 1)) rc' := by
          rcases o1.2 with ⟨_, h0⟩ | ⟨g, cap, cur, hv, _⟩
          · omega
          · exact ⟨_, _, hv⟩
        obtain ⟨ra', rc', rfl⟩ := hshape
        have hs := hat.out.step hS0 (fun b hb => Nat.lt_of_lt_of_le (hS0 b hb) hsw) (by rw [hlen]; exact o1) o2 o3
        rw [← padL_step] at hs
        exact ⟨ra', rc', rfl, hs⟩
      clear hat hown
      go_wp2_with (at_builtin; refine wpList_append_own_at _ rfl _ _ 27 rfl (w.heap.size + 1 + 1 + 1) 29 i0 zeroVal 5 80 Tryz.underlying27 hi hz0' hz1 hz2 rfl (by decide) _ _ _ rfl HO.out ⟨wr.heap.size, 0, none⟩ 1 1 [.int .i64 0, .int .i64 0, .string { data := #[] }, .slice none 0 0, .slice none 0 0] rfl rfl (cell_five_new _ _ _ _ _ _ _) ?c2 ?c3 ?c4 ?c5 ?_)
      case c2 => intro y hy; simp at hy; rcases hy with rfl | rfl | rfl <;> rfl
      case c3 => unfold maxLen; omega
      case c4 => omega
      case c5 => simp; omega
      · intro lv' w2 o1 o2 _ o3
        have HH := hide (hstep.out lv' w2 o1 o2 (by rw [World.size_alloc]; exact o3))
        clear o1 o2 o3 hstep HO
        obtain ⟨ra', rc', rfl, hyb, hnew⟩ := HH.out
        clear HH
        obtain ⟨_, _, _, _, z4⟩ := hyb.cell
        have zf := hyb.frozen 4
        have hn4 := hnew.out.cell.2.2.2.2
        have HN := hide hnew
        have HN4 := hide hn4
        have HY4 := hide y4
        clear hnew hn4 hyb
        go_wp2_with fail
        go_roundw
        case rel => exact ⟨m + 1, ra', rc', _, by omega, HN.out⟩
        case measure =>
          rw [HN4.out, HY4.out]
          show k + 1 - (list.length + (m + 1)) < k + 1 - (list.length + m)
          omega
    · have hgi : ¬ ((list.length + m : Nat) : Int) ≤ (k : Int) := by omega
      have hki : (k : Int) < ((list.length + m : Nat) : Int) := by omega
      obtain ⟨g, rfl⟩ : ∃ g, ra = some ⟨g, 0, none⟩ := by
        rcases hown.2 with ⟨_, h0⟩ | ⟨g, cap, cur, hv, _⟩
        · omega
        · exact ⟨g, by cases hv; rfl⟩
      have hwl : ws.length = (list.length + m) * 5 := hown.1
      have hce : ∀ r, r < 5 → ∃ u, wr.cell? ⟨g, k * 5 + r, none⟩ = some u := fun r hr => ⟨_, (hown.cellAt (k * 5 + r) (by omega)).trans (List.getElem?_eq_getElem (by omega))⟩
      obtain ⟨c0, e0⟩ := hce 0 (by omega)
      obtain ⟨c1, e1⟩ := hce 1 (by omega)
      obtain ⟨c2, e2⟩ := hce 2 (by omega)
      obtain ⟨c3, e3⟩ := hce 3 (by omega)
      obtain ⟨c4, e4⟩ := hce 4 (by omega)
      rw [Nat.add_zero] at e0
      have f0 := hown.frozenAt (k * 5)
      have f1 := hown.frozenAt (k * 5 + 1)
      have f2 := hown.frozenAt (k * 5 + 2)
      have f3 := hown.frozenAt (k * 5 + 3)
      have f4 := hown.frozenAt (k * 5 + 4)
      have hm' := hide (show m = k + 1 - list.length by omega)
      have hbw := hat.out.below
      have hgN := (hown.lt g rfl).1
      have hng : ¬ w1.heap.size = g := fun e => hat.out.off (by rw [← e]; rfl)
      have hng' : ¬ g = w1.heap.size := fun e => hng e.symm
      have kx := k1.of_block (hbw.block _ (by omega))
      have kr := k2.of_block (hbw.block _ (by omega))
      have hxr := hxw.out.same (fun b hb => hbw.block b (hS0 b hb))
      have hput := hat.out.row.put (k := k) (x := x) hlen.symm (by rw [hlen]; omega) hxr hS0
      have kr2 : Blk5 (set5 wr g (k * 5) (.int .i64 k') (.int .i64 n') (.string s') (.slice ak' lk' ck') (.slice al' ll' cl')) (w.heap.size + 1 + 1) 29 (.int .i64 0) (.int .i64 0) (.string { data := #[] }) (.slice none 0 0) (.slice none 0 0) := kr.of_block (set5_block _ _ _ _ _ _ _ _ _ (by omega))
      have ko2 : Blk5 (set5 wr g (k * 5) (.int .i64 k') (.int .i64 n') (.string s') (.slice ak' lk' ck') (.slice al' ll' cl')) w1.heap.size 29 (.int .i64 5) (.int .i64 0) (.string { data := #[] }) (.slice none 0 0) (.slice (some ⟨g, 0, none⟩) (list.length + m) rc) := hat.out.out.of_block (set5_block _ _ _ _ _ _ _ _ _ hng)
      have hsl := setL_length list (zeroT d) k x
      have hend : Hid (∀ wF, wF = set5 (set5 wr g (k * 5) (.int .i64 k') (.int .i64 n') (.string s') (.slice ak' lk' ck') (.slice al' ll' cl')) (w.heap.size + 1 + 1) 0 (.int .i64 5) (.int .i64 0) (.string { data := #[] }) (.slice none 0 0) (.slice (some ⟨g, 0, none⟩) (list.length + m) rc) →
          ValAt (fun b => S b ∨ Fresh w wF b) wF (d + 2) (rowT (d + 1) (setL list (zeroT d) k x)) (.agg #[.int .i64 5, .int .i64 0, .string { data := #[] }, .slice none 0 0, .slice (some ⟨g, 0, none⟩) (list.length + m) rc]) ∧ Below w.heap.size w wF) := by
        intro wF hF
        obtain ⟨⟨vs', hvs⟩, hbp⟩ := hput
        have hzF : wF.heap.size = wr.heap.size := by rw [hF, set5_size, set5_size]
        have hvs2 : VTo S (w.heap.size + 1 + 1 + 1) (set5 wr g (k * 5) (.int .i64 k') (.int .i64 n') (.string s') (.slice ak' lk' ck') (.slice al' ll' cl')) (.slice (some ⟨g, 0, none⟩) (list.length + m) rc) (setL list (zeroT d) k x) vs' := by
          unfold setL padL
          rw [← hm'.out]
          exact hvs
        have hrow := hvs2.at (by omega)
        have hsm : ∀ b, b ≠ w.heap.size + 1 + 1 → wF.heap[b]? = (set5 wr g (k * 5) (.int .i64 k') (.int .i64 n') (.string s') (.slice ak' lk' ck') (.slice al' ll' cl')).heap[b]? := fun b hb => by rw [hF, set5_block _ _ _ _ _ _ _ _ _ hb]
        have hmv : Same (fun b => S b ∨ (w.heap.size + 1 + 1 + 1 ≤ b ∧ b < (set5 wr g (k * 5) (.int .i64 k') (.int .i64 n') (.string s') (.slice ak' lk' ck') (.slice al' ll' cl')).heap.size)) (set5 wr g (k * 5) (.int .i64 k') (.int .i64 n') (.string s') (.slice ak' lk' ck') (.slice al' ll' cl')) wF := fun b hb => hsm b (by
          rcases hb with hb | hb
          · have := hS b hb; omega
          · have := hb.1; omega)
        have hin : ∀ b, (S b ∨ (w.heap.size + 1 + 1 + 1 ≤ b ∧ b < (set5 wr g (k * 5) (.int .i64 k') (.int .i64 n') (.string s') (.slice ak' lk' ck') (.slice al' ll' cl')).heap.size)) → (S b ∨ Fresh w wF b) := fun b hb => by
          rcases hb with hb | hb
          · exact Or.inl hb
          · rw [set5_size] at hb
            exact Or.inr ⟨by have := hb.1; omega, by have := hb.2; omega⟩
        refine ⟨⟨_, _, rfl, ⟨by show _ ≤ (5 : Int); omega, by show (5 : Int) ≤ _; omega⟩, ⟨by show _ ≤ (0 : Int); omega, by show (0 : Int) ≤ _; omega⟩, by show (0 : Nat) < _; omega, ⟨by show (0 : Nat) < _; omega, (fun s hs => by cases hs), none, 0, rfl, Or.inl rfl⟩, hrow.moved hmv hin (fun y u hy => ValAt.moved hmv hin _ y u hy)⟩, ?_⟩
        rw [hF]
        refine below_set5 ?_ (by omega) _ _ _ _ _ _
        exact hBw.trans ((hbw.mono (by omega)).trans (hbp.mono (by omega)))
      obtain ⟨x0, x1, x2, x3, x4⟩ := kx.cell
      obtain ⟨w5, hw5⟩ : ∃ w5, w5 = ((((wr.setCell ⟨g, k * 5, none⟩ (.int .i64 k')).setCell ⟨g, k * 5 + 1, none⟩ (.int .i64 n')).setCell ⟨g, k * 5 + 2, none⟩ (.string s')).setCell ⟨g, k * 5 + 3, none⟩ (.slice ak' lk' ck')).setCell ⟨g, k * 5 + 4, none⟩ (.slice al' ll' cl') := ⟨_, rfl⟩
      have hw5' : w5 = set5 wr g (k * 5) (.int .i64 k') (.int .i64 n') (.string s') (.slice ak' lk' ck') (.slice al' ll' cl') := hw5
      rw [← hw5'] at kr2 ko2 hend
      have HO := hide ko2
      have HR := hide kr2
      have H5 := hide hw5
      clear hat hown hce hput kx kr kr2 ko2 hxr hwl hm' hlen hsl k1 k2 hsz0 hBw hxw hS0 hm hs1 hbw hi hz0' hz1 hz2 hw5 hw5'
      go_upto_region 5 with fail
      rw [← H5.out]
      clear H5 e0 e1 e2 e3 e4 f0 f1 f2 f3 f4 y0 y1 y2 y3 y4 x0 x1 x2 x3 x4
      obtain ⟨y0, y1, y2, y3, y4⟩ := HO.out.cell
      obtain ⟨z0, z1, z2, z3, z4⟩ := HR.out.cell
      have zf := HR.out.frozen
      go_wp2_with fail
      refine bodyPost_ret (v := .agg #[.int .i64 5, .int .i64 0, .string { data := #[] }, .slice none 0 0, .slice (some ⟨g, 0, none⟩) (list.length + m) rc]) (by simp [results, Tryz.results46, go_sem, z0, z1, z2, z3, z4]) rfl ⟨_, rfl, hend.out _ rfl⟩
end Go.Proofs.YtlpembhdojdomaaGreatDoor
