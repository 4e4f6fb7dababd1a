/- Texts of the proof, put together by program: WSetQ, WSetS, WSetI, WSetJ, WSetU. -/
import Derived.Test.YtoangpfmjohhmaaGreatDoorQ8
import Derived.Test.YtoangpfmjohhmaaGreatDoorQ12
import Derived.Deep.OwnRows
/- A row of the model's that is being made out of trees that lie elsewhere. -/
namespace Go.Proofs.YtoangpfmjohhmaaGreatDoor
open Go.RowKit Go.Deep

theorem mem_padL {α : Type} {xs : List α} {z y : α} {n : Nat} (h : y ∈ padL xs z n) : y ∈ xs ∨ y = z := by
  unfold padL at h
  rcases List.mem_append.1 h with h | h
  · exact Or.inl h
  · exact Or.inr (List.eq_of_mem_replicate h)
theorem mem_setL {α : Type} {xs : List α} {z x y : α} {k : Nat} (h : y ∈ setL xs z k x) : y ∈ xs ∨ y = z ∨ y = x := by
  unfold setL at h
  rcases List.mem_or_eq_of_mem_set h with h | h
  · rcases mem_padL h with h | h
    · exact Or.inl h
    · exact Or.inr (Or.inl h)
  · exact Or.inr (Or.inr h)

end Go.Proofs.YtoangpfmjohhmaaGreatDoor

/- l2Set of the model. -/
namespace Go.Proofs.YtoangpfmjohhmaaGreatDoor
open Go.RowKit Go.Deep

/-- What stands while a row is made longer, in a variable's list. -/
structure L2At (d : Nat) (S : Nat → Prop) (N ob : Nat) (W wr : World) (xs : List (Tr (d + 1))) (lv : Value) (ws : List Value) : Prop where
  out : Blk5 wr ob 26 (.int .i64 5) (.int .i64 0) (.string { data := #[] }) (.slice none 0 0) lv
  row : VTo S N wr lv xs ws
  below : Below N W wr
  off : lv.ownBlock ≠ some ob
  ge : N ≤ ob

theorem L2At.step {d N ob : Nat} {S : Nat → Prop} {W wr w2 : World} {xs : List (Tr (d + 1))} {lv lv' : Value} {ws : List Value} {o : Obj} (h : L2At d S N ob W wr xs lv ws) (hS : ∀ b, S b → b < N) (hSw : Within S wr)
    (hown : w2.ownsRow N 26 5 lv' (xs.length + 1) (ws ++ [.int .i64 0, .int .i64 0, .string { data := #[] }, .slice none 0 0, .slice none 0 0])) (hg : (wr.alloc o).grownBy w2 lv.ownBlock) (hw : lv'.ownBlock = lv.ownBlock ∨ lv'.ownBlock = some (wr.alloc o).heap.size) :
    Blk5 w2 ob 26 (.int .i64 5) (.int .i64 0) (.string { data := #[] }) (.slice none 0 0) lv ∧ L2At d S N ob W (w2.setCell ⟨ob, 4, none⟩ lv') (xs ++ [zeroT d]) lv' (ws ++ [.int .i64 0, .int .i64 0, .string { data := #[] }, .slice none 0 0, .slice none 0 0]) := by
  have hol := h.out.lt
  have hge := h.ge
  have hs2 := hg.size
  have hz : (wr.alloc o).heap.size = wr.heap.size + 1 := by simp
  rw [hz] at hw
  have hrow : ∀ g, lv.ownBlock = some g → N ≤ g := fun g hg => (h.row.1.lt g hg).1
  have hblk : ∀ b, b < wr.heap.size → some b ≠ lv.ownBlock → w2.heap[b]? = wr.heap[b]? := fun b hb1 hb2 => (hg.block b (by omega) hb2).trans (Below.heap_alloc _ _ _ hb1)
  have yb : Blk5 w2 ob 26 (.int .i64 5) (.int .i64 0) (.string { data := #[] }) (.slice none 0 0) lv := h.out.of_block (hblk ob hol (fun e => h.off e.symm))
  have hsame : Same S wr w2 := fun b hb => hblk b (hSw b hb) (fun e => by have := hrow b e.symm; have := hS b hb; omega)
  have hoff : lv'.ownBlock ≠ some ob := by
    rcases hw with e | e
    · rw [e]; exact h.off
    · rw [e]; intro e2; cases e2; omega
  refine ⟨yb, yb.set4 _, ?_, ?_, hoff, hge⟩
  · have hz0 : ValAt S wr (d + 1) (zeroT d) (.agg #[.int .i64 0, .int .i64 0, .string { data := #[] }, .slice none 0 0, .slice none 0 0]) := zeroAt d S wr
    refine (h.row.grow hsame hz0 hown).moved (fun b hb => Below.heap_setCell _ _ _ _ (by have := hS b hb; show b ≠ ob; omega)) (fun g hg => Below.heap_setCell _ _ _ _ (fun e => hoff (by rw [hg, e])))
  · have hb := h.below
    refine ⟨hg.os.trans hb.os, hg.tape.trans hb.tape, hg.output.trans hb.output, ?_, fun b hbN => ?_⟩
    · have := hb.size
      simp [World.setCell]
      omega
    · exact (Below.heap_setCell _ _ _ _ (by show b ≠ ob; omega)).trans ((hblk b (by omega) (fun e => by have := hrow b e.symm; omega)).trans (hb.block b hbN))

set_option maxRecDepth 100000 in
set_option maxHeartbeats 1000000 in
theorem l2Set_any (d : Nat) (S : Nat → Prop) (t : Tr (d + 2)) (v : Value) (x : Tr (d + 1)) (xv : Value) (k : Nat) (w : World) (hv : ValAt S w (d + 2) t v) (hx : ValAt S w (d + 1) x xv) (hS : Within S w) (hk : k < 60) (hl : (Nd.list t).length ≤ 60) :
    Calls Tryz.prog 116 #[v, .int .i64 (k : Int), xv] w fun e w' => ∃ u, e = .returned u ∧ ValAt (fun b => S b ∨ Fresh w w' b) w' (d + 2) (rowT (d + 1) (setL (Nd.list t) (zeroT d) k x)) u ∧ Below w.heap.size w w' := by
  obtain ⟨kind, num, str, keys, list⟩ := t
  obtain ⟨vk, vl, rfl, i1, i2, i3, hk', hl'⟩ := hv
  have hl' : RowAt S w (ValAt S w (d + 1)) vl list := hl'
  have hl : list.length ≤ 60 := hl
  obtain ⟨ak, ck, rfl, hkl⟩ := hk'.open'
  obtain ⟨al, cl, rfl, hll⟩ := hl'.open'
  obtain ⟨k', n', s', ak', lk', ck', al', ll', cl', rfl⟩ := hx.shape
  show Calls Tryz.prog 116 #[.agg #[.int .i64 kind, .int .i64 num, .string str, .slice ak keys.length ck, .slice al list.length cl], .int .i64 (k : Int), .agg #[.int .i64 k', .int .i64 n', .string s', .slice ak' lk' ck', .slice al' ll' cl']] w _
  obtain ⟨k0, k1, k2, hW0, hsz0⟩ := laid3 w 26 26 26 (.int .i64 kind) (.int .i64 num) (.string str) (.slice ak keys.length ck) (.slice al list.length cl) (.int .i64 k') (.int .i64 n') (.string s') (.slice ak' lk' ck') (.slice al' ll' cl') (.int .i64 0) (.int .i64 0) (.string { data := #[] }) (.slice none 0 0) (.slice none 0 0)
  obtain ⟨W0, hW⟩ : ∃ W0, W0 = ((w.alloc (.cells #[.int .i64 kind, .int .i64 num, .string str, .slice ak keys.length ck, .slice al list.length cl] 26)).alloc (.cells #[.int .i64 k', .int .i64 n', .string s', .slice ak' lk' ck', .slice al' ll' cl'] 26)).alloc (.cells #[.int .i64 0, .int .i64 0, .string { data := #[] }, .slice none 0 0, .slice none 0 0] 26) := ⟨_, rfl⟩
  rw [← hW] at k0 k1 k2 hW0 hsz0
  have hWg := below_trans hW0 (below_alloc1 W0 (.cells #[] 26))
  have hgn : (W0.alloc (.cells #[] 26)).heap[w.heap.size + 1 + 1 + 1]? = some (.cells #[] 26 (0, 0)) := by
    have := heap_alloc_new W0 (.cells #[] 26)
    rw [hsz0] at this
    exact this
  have hAP := run_append_vals (d := d + 1) S list al cl (w.heap.size + 1 + 1 + 1) 24 (W0.alloc (.cells #[] 26)) hgn (hl'.same (hS.same hWg)) (fun h => by have := hS _ h; omega) (hS.later hWg.size) (by omega)
  rw [hW] at hAP
  have HAP := hide hAP
  have HW := hide hW
  have hxw := hide (hx.same (hS.same hW0))
  have hS0 : ∀ b, S b → b < w.heap.size + 1 + 1 + 1 := fun b hb => by have := hS b hb; omega
  clear hAP hW hk' hl' hx hgn hWg k0
  go_enter Tryz.func116, Tryz.ntmps116
  go_wp2_with (at_builtin; refine wpList_append_run _ rfl _ _ 24 rfl _ _ rfl rfl HAP.out ?_)
  intro v' w1 vs hvt hgr a' c' hv'
  subst hv'
  rw [← HW.out] at hgr
  have hz0 : (W0.alloc (.cells #[] 26)).heap.size = w.heap.size + 1 + 1 + 1 + 1 := by simp [hsz0]
  have hs1 := hgr.size
  have hb1 : Below W0.heap.size W0 w1 := ⟨hgr.os, hgr.tape, hgr.output, by omega, fun b hb => (hgr.block b (by omega) (fun e => by cases e; omega)).trans (Below.heap_alloc _ _ _ hb)⟩
  have hlt1 : ∀ g, (Value.slice a' list.length c').ownBlock = some g → g < w1.heap.size := fun g hg => (hvt.1.lt g hg).2
  have hst : Hid (L2At d S (w.heap.size + 1 + 1 + 1) w1.heap.size W0 (w1.alloc (.cells #[.int .i64 5, .int .i64 0, .string { data := #[] }, .slice none 0 0, .slice a' list.length c'] 26)) (list ++ List.replicate 0 (zeroT d)) (.slice a' list.length c') vs) := by
    refine ⟨Blk5.new _ _ _ _ _ _ _, ?_, ?_, fun e => by have := hlt1 _ e; omega, by omega⟩
    · rw [List.replicate_zero, List.append_nil]
      exact hvt.moved (fun b hb => Below.heap_alloc _ _ _ (by have := hS0 b hb; omega)) (fun g hg => Below.heap_alloc _ _ _ (hlt1 g hg))
    · exact Below.trans (by rw [← hsz0]; exact hb1) ((below_alloc1 _ _).mono (by omega))
  obtain ⟨i0, hi, hz0', hz1, hz2⟩ := info_parts Tryz.infoV2
  have hBw := hW0
  clear hvt hgr HAP HW hz0 hb1 hlt1 hW0
  go_wp2_with fail
  go_loopw [] (fun wr => ∃ (m : Nat) (ra : Option Addr) (rc : Nat) (ws : List Value), list.length + m ≤ max list.length (k + 1) ∧ Hid (L2At d S (w.heap.size + 1 + 1 + 1) w1.heap.size W0 wr (list ++ List.replicate m (zeroT d)) (.slice ra (list.length + m) rc) ws)) (fun wr => k + 1 - (match wr.cell? ⟨w1.heap.size, 4, none⟩ with | some (.slice _ n _) => n | _ => 0))
  case atStart => exact ⟨0, a', c', vs, by omega, hst⟩
  case round =>
    clear hst
    obtain ⟨m, ra, rc, ws, hm, hat⟩ := hrel
    have hlen : (list ++ List.replicate m (zeroT d)).length = list.length + m := by rw [List.length_append, List.length_replicate]
    have hown := hat.out.row.1
    rw [hlen] at hown
    obtain ⟨y0, y1, y2, y3, y4⟩ := hat.out.out.cell
    have hsw : w.heap.size + 1 + 1 + 1 ≤ wr.heap.size := by have := hat.out.out.lt; have := hat.out.ge; omega
    by_cases hgo : list.length + m ≤ k
    · have hgi : ((list.length + m : Nat) : Int) ≤ (k : Int) := by omega
      have HO := hide (hown.alloc (.cells #[.int .i64 0, .int .i64 0, .string { data := #[] }, .slice none 0 0, .slice none 0 0] 26))
      have hstep : Hid (∀ lv' w2, w2.ownsRow (w.heap.size + 1 + 1 + 1) 26 5 lv' (list.length + m + 1) (ws ++ [.int .i64 0, .int .i64 0, .string { data := #[] }, .slice none 0 0, .slice none 0 0]) → (wr.alloc (.cells #[.int .i64 0, .int .i64 0, .string { data := #[] }, .slice none 0 0, .slice none 0 0] 26)).grownBy w2 (Value.slice ra (list.length + m) rc).ownBlock →
          (lv'.ownBlock = (Value.slice ra (list.length + m) rc).ownBlock ∨ lv'.ownBlock = some (wr.alloc (.cells #[.int .i64 0, .int .i64 0, .string { data := #[] }, .slice none 0 0, .slice none 0 0] 26)).heap.size) →
          ∃ ra' rc', lv' = .slice ra' (list.length + (m + 1)) rc' ∧ Blk5 w2 w1.heap.size 26 (.int .i64 5) (.int .i64 0) (.string { data := #[] }) (.slice none 0 0) (.slice ra (list.length + m) rc) ∧ L2At d S (w.heap.size + 1 + 1 + 1) w1.heap.size W0 (w2.setCell ⟨w1.heap.size, 4, none⟩ lv') (list ++ List.replicate (m + 1) (zeroT d)) lv' (ws ++ [.int .i64 0, .int .i64 0, .string { data := #[] }, .slice none 0 0, .slice none 0 0])) := by
        intro lv' w2 o1 o2 o3
        have hshape : ∃ ra' rc', lv' = .slice ra' (list.length + (m + 1)) rc' := by
          rcases o1.2 with ⟨_, h0⟩ | ⟨g, cap, cur, hv, _⟩
          · omega
          · exact ⟨_, _, hv⟩
        obtain ⟨ra', rc', rfl⟩ := hshape
        have hs := hat.out.step hS0 (fun b hb => Nat.lt_of_lt_of_le (hS0 b hb) hsw) (by rw [hlen]; exact o1) o2 o3
        rw [← padL_step] at hs
        exact ⟨ra', rc', rfl, hs⟩
      clear hat hown
      go_wp2_with (at_builtin; refine wpList_append_own_at _ rfl _ _ 24 rfl (w.heap.size + 1 + 1 + 1) 26 i0 zeroVal 5 80 Tryz.underlying24 hi hz0' hz1 hz2 rfl (by decide) _ _ _ rfl HO.out ⟨wr.heap.size, 0, none⟩ 1 1 [.int .i64 0, .int .i64 0, .string { data := #[] }, .slice none 0 0, .slice none 0 0] rfl rfl (cell_five_new _ _ _ _ _ _ _) ?c2 ?c3 ?c4 ?c5 ?_)
      case c2 => intro y hy; simp at hy; rcases hy with rfl | rfl | rfl <;> rfl
      case c3 => unfold maxLen; omega
      case c4 => omega
      case c5 => simp; omega
      · intro lv' w2 o1 o2 _ o3
        have HH := hide (hstep.out lv' w2 o1 o2 (by rw [World.size_alloc]; exact o3))
        clear o1 o2 o3 hstep HO
        obtain ⟨ra', rc', rfl, hyb, hnew⟩ := HH.out
        clear HH
        obtain ⟨_, _, _, _, z4⟩ := hyb.cell
        have zf := hyb.frozen 4
        have hn4 := hnew.out.cell.2.2.2.2
        have HN := hide hnew
        have HN4 := hide hn4
        have HY4 := hide y4
        clear hnew hn4 hyb
        go_wp2_with fail
        go_roundw
        case rel => exact ⟨m + 1, ra', rc', _, by omega, HN.out⟩
        case measure =>
          rw [HN4.out, HY4.out]
          show k + 1 - (list.length + (m + 1)) < k + 1 - (list.length + m)
          omega
    · have hgi : ¬ ((list.length + m : Nat) : Int) ≤ (k : Int) := by omega
      have hki : (k : Int) < ((list.length + m : Nat) : Int) := by omega
      obtain ⟨g, rfl⟩ : ∃ g, ra = some ⟨g, 0, none⟩ := by
        rcases hown.2 with ⟨_, h0⟩ | ⟨g, cap, cur, hv, _⟩
        · omega
        · exact ⟨g, by cases hv; rfl⟩
      have hwl : ws.length = (list.length + m) * 5 := hown.1
      have hce : ∀ r, r < 5 → ∃ u, wr.cell? ⟨g, k * 5 + r, none⟩ = some u := fun r hr => ⟨_, (hown.cellAt (k * 5 + r) (by omega)).trans (List.getElem?_eq_getElem (by omega))⟩
      obtain ⟨c0, e0⟩ := hce 0 (by omega)
      obtain ⟨c1, e1⟩ := hce 1 (by omega)
      obtain ⟨c2, e2⟩ := hce 2 (by omega)
      obtain ⟨c3, e3⟩ := hce 3 (by omega)
      obtain ⟨c4, e4⟩ := hce 4 (by omega)
      rw [Nat.add_zero] at e0
      have f0 := hown.frozenAt (k * 5)
      have f1 := hown.frozenAt (k * 5 + 1)
      have f2 := hown.frozenAt (k * 5 + 2)
      have f3 := hown.frozenAt (k * 5 + 3)
      have f4 := hown.frozenAt (k * 5 + 4)
      have hm' := hide (show m = k + 1 - list.length by omega)
      have hbw := hat.out.below
      have hgN := (hown.lt g rfl).1
      have hng : ¬ w1.heap.size = g := fun e => hat.out.off (by rw [← e]; rfl)
      have hng' : ¬ g = w1.heap.size := fun e => hng e.symm
      have kx := k1.of_block (hbw.block _ (by omega))
      have kr := k2.of_block (hbw.block _ (by omega))
      have hxr := hxw.out.same (fun b hb => hbw.block b (hS0 b hb))
      have hput := hat.out.row.put (k := k) (x := x) hlen.symm (by rw [hlen]; omega) hxr hS0
      have kr2 : Blk5 (set5 wr g (k * 5) (.int .i64 k') (.int .i64 n') (.string s') (.slice ak' lk' ck') (.slice al' ll' cl')) (w.heap.size + 1 + 1) 26 (.int .i64 0) (.int .i64 0) (.string { data := #[] }) (.slice none 0 0) (.slice none 0 0) := kr.of_block (set5_block _ _ _ _ _ _ _ _ _ (by omega))
      have ko2 : Blk5 (set5 wr g (k * 5) (.int .i64 k') (.int .i64 n') (.string s') (.slice ak' lk' ck') (.slice al' ll' cl')) w1.heap.size 26 (.int .i64 5) (.int .i64 0) (.string { data := #[] }) (.slice none 0 0) (.slice (some ⟨g, 0, none⟩) (list.length + m) rc) := hat.out.out.of_block (set5_block _ _ _ _ _ _ _ _ _ hng)
      have hsl := setL_length list (zeroT d) k x
      have hend : Hid (∀ wF, wF = set5 (set5 wr g (k * 5) (.int .i64 k') (.int .i64 n') (.string s') (.slice ak' lk' ck') (.slice al' ll' cl')) (w.heap.size + 1 + 1) 0 (.int .i64 5) (.int .i64 0) (.string { data := #[] }) (.slice none 0 0) (.slice (some ⟨g, 0, none⟩) (list.length + m) rc) →
          ValAt (fun b => S b ∨ Fresh w wF b) wF (d + 2) (rowT (d + 1) (setL list (zeroT d) k x)) (.agg #[.int .i64 5, .int .i64 0, .string { data := #[] }, .slice none 0 0, .slice (some ⟨g, 0, none⟩) (list.length + m) rc]) ∧ Below w.heap.size w wF) := by
        intro wF hF
        obtain ⟨⟨vs', hvs⟩, hbp⟩ := hput
        have hzF : wF.heap.size = wr.heap.size := by rw [hF, set5_size, set5_size]
        have hvs2 : VTo S (w.heap.size + 1 + 1 + 1) (set5 wr g (k * 5) (.int .i64 k') (.int .i64 n') (.string s') (.slice ak' lk' ck') (.slice al' ll' cl')) (.slice (some ⟨g, 0, none⟩) (list.length + m) rc) (setL list (zeroT d) k x) vs' := by
          unfold setL padL
          rw [← hm'.out]
          exact hvs
        have hrow := hvs2.at (by omega)
        have hsm : ∀ b, b ≠ w.heap.size + 1 + 1 → wF.heap[b]? = (set5 wr g (k * 5) (.int .i64 k') (.int .i64 n') (.string s') (.slice ak' lk' ck') (.slice al' ll' cl')).heap[b]? := fun b hb => by rw [hF, set5_block _ _ _ _ _ _ _ _ _ hb]
        have hmv : Same (fun b => S b ∨ (w.heap.size + 1 + 1 + 1 ≤ b ∧ b < (set5 wr g (k * 5) (.int .i64 k') (.int .i64 n') (.string s') (.slice ak' lk' ck') (.slice al' ll' cl')).heap.size)) (set5 wr g (k * 5) (.int .i64 k') (.int .i64 n') (.string s') (.slice ak' lk' ck') (.slice al' ll' cl')) wF := fun b hb => hsm b (by
          rcases hb with hb | hb
          · have := hS b hb; omega
          · have := hb.1; omega)
        have hin : ∀ b, (S b ∨ (w.heap.size + 1 + 1 + 1 ≤ b ∧ b < (set5 wr g (k * 5) (.int .i64 k') (.int .i64 n') (.string s') (.slice ak' lk' ck') (.slice al' ll' cl')).heap.size)) → (S b ∨ Fresh w wF b) := fun b hb => by
          rcases hb with hb | hb
          · exact Or.inl hb
          · rw [set5_size] at hb
            exact Or.inr ⟨by have := hb.1; omega, by have := hb.2; omega⟩
        refine ⟨⟨_, _, rfl, ⟨by show _ ≤ (5 : Int); omega, by show (5 : Int) ≤ _; omega⟩, ⟨by show _ ≤ (0 : Int); omega, by show (0 : Int) ≤ _; omega⟩, by show (0 : Nat) < _; omega, ⟨by show (0 : Nat) < _; omega, (fun s hs => by cases hs), none, 0, rfl, Or.inl rfl⟩, hrow.moved hmv hin (fun y u hy => ValAt.moved hmv hin _ y u hy)⟩, ?_⟩
        rw [hF]
        refine below_set5 ?_ (by omega) _ _ _ _ _ _
        exact hBw.trans ((hbw.mono (by omega)).trans (hbp.mono (by omega)))
      obtain ⟨x0, x1, x2, x3, x4⟩ := kx.cell
      obtain ⟨w5, hw5⟩ : ∃ w5, w5 = ((((wr.setCell ⟨g, k * 5, none⟩ (.int .i64 k')).setCell ⟨g, k * 5 + 1, none⟩ (.int .i64 n')).setCell ⟨g, k * 5 + 2, none⟩ (.string s')).setCell ⟨g, k * 5 + 3, none⟩ (.slice ak' lk' ck')).setCell ⟨g, k * 5 + 4, none⟩ (.slice al' ll' cl') := ⟨_, rfl⟩
      have hw5' : w5 = set5 wr g (k * 5) (.int .i64 k') (.int .i64 n') (.string s') (.slice ak' lk' ck') (.slice al' ll' cl') := hw5
      rw [← hw5'] at kr2 ko2 hend
      have HO := hide ko2
      have HR := hide kr2
      have H5 := hide hw5
      clear hat hown hce hput kx kr kr2 ko2 hxr hwl hm' hlen hsl k1 k2 hsz0 hBw hxw hS0 hm hs1 hbw hi hz0' hz1 hz2 hw5 hw5'
      go_upto_region 5 with fail
      rw [← H5.out]
      clear H5 e0 e1 e2 e3 e4 f0 f1 f2 f3 f4 y0 y1 y2 y3 y4 x0 x1 x2 x3 x4
      obtain ⟨y0, y1, y2, y3, y4⟩ := HO.out.cell
      obtain ⟨z0, z1, z2, z3, z4⟩ := HR.out.cell
      have zf := HR.out.frozen
      go_wp2_with fail
      refine bodyPost_ret (v := .agg #[.int .i64 5, .int .i64 0, .string { data := #[] }, .slice none 0 0, .slice (some ⟨g, 0, none⟩) (list.length + m) rc]) (by simp [results, Tryz.results116, go_sem, z0, z1, z2, z3, z4]) rfl ⟨_, rfl, hend.out _ rfl⟩
end Go.Proofs.YtoangpfmjohhmaaGreatDoor

/- setTree of the program. -/
namespace Go.Proofs.YtoangpfmjohhmaaGreatDoor
open Go.RowKit Go.Deep

/-- What setTree is asked to give. -/
def SetQ (d N : Nat) (xs : List (Tr (d + 1))) (j : Int) (x : Tr (d + 1)) (w : World) (e : Ending) (w' : World) : Prop :=
  Below N w w' ∧ ((0 ≤ j ∧ j < 60 ∧ ∃ u, e = .returned (.tuple #[u, .nilIface]) ∧ TreeG (fun b => N ≤ b ∧ b < w'.heap.size) w' (d + 2) (rowT (d + 1) (setL xs (zeroT d) j.toNat x)) u) ∨ ((j < 0 ∨ 60 ≤ j) ∧ ∃ why, e = .returned (.tuple #[.nilIface, faultV why])))

set_option maxRecDepth 100000 in
set_option maxHeartbeats 2000000 in
theorem setTree_any (d N : Nat) (S : Nat → Prop) (xs : List (Tr (d + 1))) (a : Option Addr) (cap : Nat) (vs : List Value) (x : Tr (d + 1)) (T : TypeId) (u' : Value) (j : Int) (w : World) (h : GTo N w (.slice a xs.length cap) xs vs) (hx : TreeG S w (d + 1) x (.iface T u'))
    (hS : ∀ b, S b → Aside N w (.slice a xs.length cap) b) (hN : N ≤ w.heap.size) (hl : xs.length ≤ 60) :
    Calls Tryz.prog 122 #[.slice a xs.length cap, .int .i64 j, .iface T u'] w (SetQ d N xs j x w) := by
  by_cases hj0 : j < 0
  · clear h hx hS
    go_enter Tryz.func122, Tryz.ntmps122
    go_wp2_with fail
    go_ret2
    exact ⟨Below.refl _ _, Or.inr ⟨Or.inl hj0, _, rfl⟩⟩
  by_cases hj1 : 60 ≤ j
  · clear h hx hS
    go_enter Tryz.func122, Tryz.ntmps122
    go_wp2_with fail
    go_ret2
    exact ⟨Below.refl _ _, Or.inr ⟨Or.inr hj1, _, rfl⟩⟩
  obtain ⟨k, rfl⟩ : ∃ k : Nat, j = (k : Int) := ⟨j.toNat, by omega⟩
  have hk60 : k < 60 := by omega
  go_enter Tryz.func122, Tryz.ntmps122
  go_wp2_with fail
  obtain ⟨i0, hi, hz0, hz1, hz2⟩ := info_parts Tryz.infoTree
  go_loopw [0] (fun sv wr => ∃ (m : Nat) (ra : Option Addr) (rc : Nat) (vs : List Value), sv = .slice ra (xs.length + m) rc ∧ xs.length + m ≤ max xs.length (k + 1) ∧ Hid (GTo N wr sv (xs ++ List.replicate m (zeroT d)) vs) ∧ Hid (Below N w wr) ∧ Hid (TreeG S wr (d + 1) x (.iface T u')) ∧ Hid (∀ b, S b → Aside N wr sv b)) (fun sv _ => k + 1 - (match sv with | .slice _ n _ => n | _ => 0))
  case atStart =>
    refine ⟨0, a, cap, vs, rfl, by omega, ?_, Below.refl _ _, hx, hS⟩
    show GTo N w _ (xs ++ List.replicate 0 (zeroT d)) vs
    rw [List.replicate_zero, List.append_nil]
    exact h
  case round =>
    clear h hx hS
    obtain ⟨m, ra, rc, ws, rfl, hm, hto, hbl, hxx, hSS⟩ := hrel
    have hlen : (xs ++ List.replicate m (zeroT d)).length = xs.length + m := by rw [List.length_append, List.length_replicate]
    have hown := hto.out.1
    rw [hlen] at hown
    have hsz := hbl.out.size
    by_cases hgo : xs.length + m ≤ k
    · have hgi : ((xs.length + m : Nat) : Int) ≤ (k : Int) := by omega
      have HO := hide (hown.alloc (.cells #[.iface 163 (.agg #[.int .i64 0])] 58))
      have hstep : Hid (∀ sv' w2, w2.ownsRow N 58 1 sv' (xs.length + m + 1) (ws ++ [.iface 163 (.agg #[.int .i64 0])]) → (wr.alloc (.cells #[.iface 163 (.agg #[.int .i64 0])] 58)).grownBy w2 (Value.slice ra (xs.length + m) rc).ownBlock →
          (sv'.ownBlock = (Value.slice ra (xs.length + m) rc).ownBlock ∨ sv'.ownBlock = some (wr.alloc (.cells #[.iface 163 (.agg #[.int .i64 0])] 58)).heap.size) →
          ∃ a' c' , sv' = .slice a' (xs.length + (m + 1)) c' ∧ GTo N w2 sv' (xs ++ List.replicate (m + 1) (zeroT d)) (ws ++ [.iface 163 (.agg #[.int .i64 0])]) ∧ Below N w w2 ∧ TreeG S w2 (d + 1) x (.iface T u') ∧ (∀ b, S b → Aside N w2 sv' b)) := by
        intro sv' w2 o1 o2 o3
        have hz : (wr.alloc (.cells #[.iface 163 (.agg #[.int .i64 0])] 58)).heap.size = wr.heap.size + 1 := by simp
        have hs2 := o2.size
        have hshape : ∃ a' c', sv' = .slice a' (xs.length + (m + 1)) c' := by
          rcases o1.2 with ⟨_, h0⟩ | ⟨g, cap, cur, hv, _⟩
          · omega
          · exact ⟨_, _, hv⟩
        obtain ⟨a', c', rfl⟩ := hshape
        have hown' : w2.ownsRow N 58 1 (.slice a' (xs.length + (m + 1)) c') ((xs ++ List.replicate m (zeroT d)).length + 1) (ws ++ [.iface 163 (.agg #[.int .i64 0])]) := by rw [hlen]; exact o1
        have hg := hto.out.step (x := zeroT d) (bareTree_at d _ _) hown' o2 o3
        rw [← padL_step] at hg
        have hblk : ∀ b, b < wr.heap.size → some b ≠ (Value.slice ra (xs.length + m) rc).ownBlock → w2.heap[b]? = wr.heap[b]? := fun b hb1 hb2 => (o2.block b (by omega) hb2).trans (Below.heap_alloc _ _ _ hb1)
        have hbl2 := hbl.out
        refine ⟨a', c', rfl, hg, ⟨o2.os.trans hbl2.os, o2.tape.trans hbl2.tape, o2.output.trans hbl2.output, by omega, fun b hb => ?_⟩, ?_, ?_⟩
        · exact (hblk b (by omega) (fun e => by have := (hown.lt b e.symm).1; omega)).trans (hbl2.block b hb)
        · exact hxx.out.same (fun b hb => hblk b (hSS.out b hb).2.1 (hSS.out b hb).2.2)
        · intro b hb
          obtain ⟨q1, q2, q3⟩ := hSS.out b hb
          refine ⟨q1, by omega, ?_⟩
          rcases o3 with e | e
          · rw [e]; exact q3
          · rw [e]; intro e2; cases e2; omega
      clear hto hown hxx hSS hbl
      go_wp2_with (at_builtin; refine wpList_append_own_at _ rfl _ _ 118 rfl N 58 i0 .nilIface 1 16 Tryz.underlying118 hi hz0 hz1 hz2 rfl (by decide) _ _ _ rfl HO.out ⟨wr.heap.size, 0, none⟩ 1 1 [.iface 163 (.agg #[.int .i64 0])] rfl rfl (cell_one_new _ _ _) ?c2 ?c3 ?c4 ?c5 ?_)
      case c2 => intro y hy; simp at hy; subst hy; rfl
      case c3 => unfold maxLen; omega
      case c4 => omega
      case c5 => simp; omega
      · intro sv' w2 o1 o2 _ o3
        have HH := hide (hstep.out sv' w2 o1 o2 (by rw [World.size_alloc]; exact o3))
        clear o1 o2 o3 hstep HO
        obtain ⟨a', c', rfl, _⟩ := HH.out
        go_wp2_with fail
        go_roundw
        case rel =>
          obtain ⟨_, _, _, r1, r2, r3, r4⟩ := HH.out
          exact ⟨m + 1, a', c', _, rfl, by omega, r1, r2, r3, r4⟩
        case measure => show k + 1 - (xs.length + (m + 1)) < k + 1 - (xs.length + m); omega
    · have hgi : ¬ ((xs.length + m : Nat) : Int) ≤ (k : Int) := by omega
      have hki : (k : Int) < ((xs.length + m : Nat) : Int) := by omega
      obtain ⟨g, rfl⟩ : ∃ g, ra = some ⟨g, 0, none⟩ := by
        rcases hown.2 with ⟨_, h0⟩ | ⟨g, cap, cur, hv, _⟩
        · omega
        · exact ⟨g, by cases hv; rfl⟩
      have hwl : ws.length = xs.length + m := by have := hown.1; omega
      have hce := hown.cellAt k (by omega)
      rw [List.getElem?_eq_getElem (by omega)] at hce
      have hfr := hown.frozenAt k
      have hm' := hide (show m = k + 1 - xs.length by omega)
      have hput := hto.out.put (k := k) (x := x) (u := .iface T u') (S := S) hlen.symm (by rw [hlen]; omega) hxx.out (fun b hb => ⟨(hSS.out b hb).1, (hSS.out b hb).2.1, fun e => (hSS.out b hb).2.2 (by rw [e]; rfl)⟩)
      have HG : Hid (GTo N (wr.setCell ⟨g, k, none⟩ (.iface T u')) (.slice (some ⟨g, 0, none⟩) (xs.length + m) rc) (setL xs (zeroT d) k x) (ws.set k (.iface T u'))) := by
        show GTo _ _ _ _ _
        unfold setL padL
        rw [← hm'.out]
        exact hput.1
      have HB := hide (Below.trans hbl.out hput.2)
      have hsl := setL_length xs (zeroT d) k x
      clear hto hown hxx hSS hbl hput
      go_wp2_with fail
      go_ret2
      refine ⟨HB.out, Or.inl ⟨by omega, by omega, _, rfl, ?_⟩⟩
      rw [Int.toNat_natCast]
      exact Or.inr (Or.inr (Or.inr (Or.inl ⟨_, _, by omega, rfl, rfl, HG.out.row (by omega)⟩)))
end Go.Proofs.YtoangpfmjohhmaaGreatDoor

/- PartSet of the program. -/
namespace Go.Proofs.YtoangpfmjohhmaaGreatDoor
open Go.RowKit Go.Deep

theorem rowL_some {d : Nat} {t : Tr (d + 1)} {xs : List (Tr d)} (h : rowL d t = some xs) : okT (d + 1) t = true ∧ xs.length ≤ 60 ∧ ∀ x ∈ xs, okT d x = true := by
  unfold rowL at h
  split at h
  · rename_i hok
    split at h
    · cases h
      exact ⟨hok, by show (0 : Nat) ≤ 60; omega, fun x hx => by cases hx⟩
    · split at h
      · cases h
        exact ⟨hok, (okT_kinds hok).2.1, fun x hx => okT_part hok hx⟩
      · cases h
  · cases h
theorem partSet_none {d : Nat} {t : Tr (d + 2)} {i : Int} {x : Tr (d + 1)} (h : rowL (d + 1) t = none) : partSetT d t i x = (zeroT (d + 1), false) := by
  unfold partSetT
  rw [h]
theorem partSet_bad {d : Nat} {t : Tr (d + 2)} {i : Int} {x : Tr (d + 1)} {xs : List (Tr (d + 1))} (h : rowL (d + 1) t = some xs) (hx : okT (d + 1) x = false) : partSetT d t i x = (zeroT (d + 1), false) := by
  unfold partSetT
  rw [h]
  show (if _ then _ else _) = _
  rw [if_neg (by rw [hx]; simp)]
theorem partSet_out {d : Nat} {t : Tr (d + 2)} {i j : Int} {x : Tr (d + 1)} {xs : List (Tr (d + 1))} (h : rowL (d + 1) t = some xs) (hj : j = if i < 0 then i + (xs.length : Int) else i) (ho : j < 0 ∨ 60 ≤ j) : partSetT d t i x = (zeroT (d + 1), false) := by
  have hl := (rowL_some h).2.1
  unfold partSetT
  rw [h]
  show (if _ then _ else _) = _
  rw [if_neg (by rintro ⟨_, h1, h2⟩; split at hj <;> omega)]
theorem partSet_in {d : Nat} {t : Tr (d + 2)} {i j : Int} {x : Tr (d + 1)} {xs : List (Tr (d + 1))} (h : rowL (d + 1) t = some xs) (hx : okT (d + 1) x = true) (hj : j = if i < 0 then i + (xs.length : Int) else i) (h0 : 0 ≤ j) (h1 : j < 60) :
    partSetT d t i x = (toldT (d + 1) (rowT (d + 1) (setL xs (zeroT d) j.toNat x)), okT (d + 2) (rowT (d + 1) (setL xs (zeroT d) j.toNat x))) := by
  have hl := (rowL_some h).2.1
  unfold partSetT
  rw [h]
  show (if _ then _ else _) = _
  rw [if_pos ⟨hx, by split at hj <;> omega, by split at hj <;> omega⟩, ← hj]

theorem ErrType.of_block0 {w w' : World} (h : ErrType w) (e : w'.heap[0]? = w.heap[0]?) : ErrType w' := (World.cell?_of_block (w := w) e).trans h
theorem GTo.moved {d N : Nat} {w w' : World} {sv : Value} {xs : List (Tr d)} {vs : List Value} (h : GTo N w sv xs vs) (hb : Below w.heap.size w w') : GTo N w' sv xs vs := by
  obtain ⟨h1, h2⟩ := h
  have hz := hb.size
  refine ⟨⟨h1.1, ?_⟩, fun j x u hx hu => TreeG.moved (fun b hb' => hb.block b hb'.2.1) (fun b hb' => ⟨hb'.1, by have := hb'.2.1; omega, hb'.2.2⟩) d x u (h2 j x u hx hu)⟩
  rcases h1.2 with h | ⟨g, cap, cur, hv, hg, hh, hrest⟩
  · exact Or.inl h
  · exact Or.inr ⟨g, cap, cur, hv, hg, (hb.block g (Array.getElem?_eq_some_iff.1 hh).1).trans hh, hrest⟩

set_option maxRecDepth 100000 in
set_option maxHeartbeats 4000000 in
theorem implPartSet_any (d : Nat) (S : Nat → Prop) (t : Tr (d + 2)) (v : Value) (i : Int) (hi : I64 i) (S2 : Nat → Prop) (x : Tr (d + 1)) (xv : Value) (w : World) (hv : ValAt S w (d + 2) t v) (hS : Within S w) (hx : ValAt S2 w (d + 1) x xv) (hS2 : Within S2 w) (hg : ErrType w) :
    Calls Tryz.prog 97 #[v, .int .i64 i, xv] w (TellQ (d + 1) (partSetT d t i x).1 (partSetT d t i x).2 w) := by
  obtain ⟨k, n, s, ak, lk, ck, al, ll, cl, rfl⟩ := hv.shape
  obtain ⟨k', n', s', ak', lk', ck', al', ll', cl', rfl⟩ := hx.shape
  obtain ⟨k0, k1, k2, hW0, hsz0⟩ := laid3 w 26 26 26 (.int .i64 k) (.int .i64 n) (.string s) (.slice ak lk ck) (.slice al ll cl) (.int .i64 k') (.int .i64 n') (.string s') (.slice ak' lk' ck') (.slice al' ll' cl') (.int .i64 0) (.int .i64 0) (.string { data := #[] }) (.slice none 0 0) (.slice none 0 0)
  obtain ⟨W0, hW⟩ : ∃ W0, W0 = ((w.alloc (.cells #[.int .i64 k, .int .i64 n, .string s, .slice ak lk ck, .slice al ll cl] 26)).alloc (.cells #[.int .i64 k', .int .i64 n', .string s', .slice ak' lk' ck', .slice al' ll' cl'] 26)).alloc (.cells #[.int .i64 0, .int .i64 0, .string { data := #[] }, .slice none 0 0, .slice none 0 0] 26) := ⟨_, rfl⟩
  rw [← hW] at k0 k1 k2 hW0 hsz0
  have HW := hide hW
  clear hW k0
  go_enter Tryz.func97, Tryz.ntmps97
  go_wp2_with fail
  rw [← HW.out]
  clear HW
  refine (partsInRow_own (d + 1) S t _ W0 (hv.same (hS.same hW0)) (hS.later hW0.size)).mono ?_
  rintro e w1 ⟨hb1, hq⟩
  have hB1 := below_trans hW0 hb1
  replace k1 := k1.below hb1
  replace k2 := k2.below hb1
  have hg1 := hg.below hB1
  have hs1 := hb1.size
  -- what is told, however it is
  have hfin : ∀ (w1' : World), Below W0.heap.size w1 w1' → ∀ (y : Tr (d + 2)) (ok : Bool), Hid (∀ e w2, TellQ (d + 1) y ok w1' e w2 → ∃ v0 v1 v2 v3 v4 v5 v6 v7 v8, e = .returned (.tuple #[.agg #[.int .i64 v0, .int .i64 v1, .string v2, .slice v3 v4 v5, .slice v6 v7 v8], .bool ok]) ∧
      Blk5 w2 (w.heap.size + 1 + 1) 26 (.int .i64 0) (.int .i64 0) (.string { data := #[] }) (.slice none 0 0) (.slice none 0 0) ∧
      ∀ wF, wF = set5 w2 (w.heap.size + 1 + 1) 0 (.int .i64 v0) (.int .i64 v1) (.string v2) (.slice v3 v4 v5) (.slice v6 v7 v8) → ValOwn wF (d + 2) (Fresh w wF) y (.agg #[.int .i64 v0, .int .i64 v1, .string v2, .slice v3 v4 v5, .slice v6 v7 v8]) ∧ Below w.heap.size w wF) := fun w1' hb' y ok => by
    intro e w2 ⟨v, he, hv, hb2⟩
    obtain ⟨v0, v1, v2, v3, v4, v5, v6, v7, v8, rfl⟩ := (ValOwn.at _ _ _ _ hv).shape
    have hbw : Below w.heap.size w w1' := hB1.trans (hb'.mono (by omega))
    have hk : Blk5 w1' (w.heap.size + 1 + 1) 26 (.int .i64 0) (.int .i64 0) (.string { data := #[] }) (.slice none 0 0) (.slice none 0 0) := k2.of_block (hb'.block _ (by omega))
    exact ⟨v0, v1, v2, v3, v4, v5, v6, v7, v8, he, hk.below hb2, tell_end hv (below_trans hbw hb2) (by omega) (by have := hb'.size; omega)⟩
  clear hv hW0 k2
  rcases hq with ⟨xs, xa, xc, vs, hrow, rfl, hgto⟩ | ⟨hrow, why, rfl⟩
  · obtain ⟨_, hx60, hxok⟩ := rowL_some hrow
    obtain ⟨j, hj⟩ : ∃ j : Int, j = if i < 0 then i + (xs.length : Int) else i := ⟨_, rfl⟩
    have HJ := hide hj
    obtain ⟨x0, x1, x2, x3, x4⟩ := k1.cell
    have HG := hide hgto
    have HROW := hide hrow
    clear hgto hj hrow
    go_wp2_with fail
    refine (given_any (d + 1) S2 x _ w1 (hx.same (hS2.same hB1)) (hS2.later hB1.size)).mono ?_
    rintro e w2 ⟨hb2, hq⟩
    have hgt2 := hide (HG.out.moved hb2)
    have hbN2 : Below W0.heap.size w1 w2 := hb2.mono hs1
    have hs2 := hb2.size
    have hg2 := hg1.below hb2
    clear x0 x1 x2 x3 x4
    rcases hq with ⟨hok, u, rfl, hu⟩ | ⟨hok, why, rfl⟩
    · obtain ⟨T, u', rfl⟩ := hu.iface
      have hAs : Hid (∀ b, Fresh w1 w2 b → Aside W0.heap.size w2 (.slice xa xs.length xc) b) := by
        intro b hb
        refine ⟨by have := hb.1; omega, hb.2, fun e => ?_⟩
        have := (HG.out.1.lt b e.symm).2
        have := hb.1
        omega
      have hcall := hide (setTree_any d W0.heap.size (Fresh w1 w2) xs xa xc vs x T u' j w2 hgt2.out hu hAs.out (by omega) hx60)
      clear hu hAs hgt2 HG hb2
      go_wp2_with fail
      refine (fromStart_any i xs.length hi hx60 w2).mono ?_
      rintro e w2' ⟨rfl, rfl⟩
      rw [← HJ.out]
      go_wp2_with fail
      refine Calls.mono hcall.out ?_
      rintro e w3 ⟨hb3, hq⟩
      have hbN3 := Below.trans hbN2 hb3
      clear hcall
      rcases hq with ⟨hj0, hj1, u3, rfl, hu3⟩ | ⟨hjo, why, rfl⟩
      · obtain ⟨T3, u3', rfl⟩ := hu3.iface
        have HR := hide (partSet_in HROW.out hok HJ.out hj0 hj1)
        have hcall := hide (told_tree (d + 1) _ _ _ w3 hu3 (fun b hb => hb.2))
        clear hu3 HROW HJ
        go_wp2_with fail
        refine Calls.mono hcall.out ?_
        intro e w4 hq
        obtain ⟨v0, v1, v2, v3, v4, v5, v6, v7, v8, rfl, k3, hF⟩ := (hfin w3 hbN3 _ _).out e w4 hq
        have HF := hide hF
        obtain ⟨y0, y1, y2, y3, y4⟩ := k3.cell
        have yf := k3.frozen
        clear hF hq hfin hcall k3
        go_wp2_with fail
        refine bodyPost_ret (v := .tuple #[.agg #[.int .i64 v0, .int .i64 v1, .string v2, .slice v3 v4 v5, .slice v6 v7 v8], .bool (okT (d + 2) (rowT (d + 1) (setL xs (zeroT d) j.toNat x)))]) (by simp [results, Tryz.results97, go_sem, y0, y1, y2, y3, y4]) rfl ⟨_, by rw [HR.out], by rw [HR.out]; exact (HF.out _ rfl).1, (HF.out _ rfl).2⟩
      · have HR := hide (partSet_out (x := x) HROW.out HJ.out hjo)
        have hcall := hide (told_fault (d + 1) .nilIface why w3 (hg2.of_block0 (hb3.block 0 (by have := hg.lt; omega))))
        unfold faultV
        clear HROW HJ
        go_wp2_with fail
        refine Calls.mono hcall.out ?_
        intro e w4 hq
        obtain ⟨v0, v1, v2, v3, v4, v5, v6, v7, v8, rfl, k3, hF⟩ := (hfin w3 hbN3 _ _).out e w4 hq
        have HF := hide hF
        obtain ⟨y0, y1, y2, y3, y4⟩ := k3.cell
        have yf := k3.frozen
        clear hF hq hfin hcall k3
        go_wp2_with fail
        refine bodyPost_ret (v := .tuple #[.agg #[.int .i64 v0, .int .i64 v1, .string v2, .slice v3 v4 v5, .slice v6 v7 v8], .bool false]) (by simp [results, Tryz.results97, go_sem, y0, y1, y2, y3, y4]) rfl ⟨_, by rw [HR.out], by rw [HR.out]; exact (HF.out _ rfl).1, (HF.out _ rfl).2⟩
    · have HR := hide (partSet_bad (i := i) HROW.out hok)
      have hcall := hide (told_fault (d + 1) .nilIface why w2 hg2)
      unfold faultV
      clear HROW HJ hgt2 HG
      go_wp2_with fail
      refine Calls.mono hcall.out ?_
      intro e w4 hq
      obtain ⟨v0, v1, v2, v3, v4, v5, v6, v7, v8, rfl, k3, hF⟩ := (hfin w2 hbN2 _ _).out e w4 hq
      have HF := hide hF
      obtain ⟨y0, y1, y2, y3, y4⟩ := k3.cell
      have yf := k3.frozen
      clear hF hq hfin hcall k3
      go_wp2_with fail
      refine bodyPost_ret (v := .tuple #[.agg #[.int .i64 v0, .int .i64 v1, .string v2, .slice v3 v4 v5, .slice v6 v7 v8], .bool false]) (by simp [results, Tryz.results97, go_sem, y0, y1, y2, y3, y4]) rfl ⟨_, by rw [HR.out], by rw [HR.out]; exact (HF.out _ rfl).1, (HF.out _ rfl).2⟩
  · have HR := hide (partSet_none (i := i) (x := x) hrow)
    have hcall := hide (told_fault (d + 1) .nilIface why w1 hg1)
    unfold faultV
    clear hrow k1
    go_wp2_with fail
    refine Calls.mono hcall.out ?_
    intro e w2 hq
    obtain ⟨v0, v1, v2, v3, v4, v5, v6, v7, v8, rfl, k3, hF⟩ := (hfin w1 (Below.refl _ _) _ _).out e w2 hq
    have HF := hide hF
    obtain ⟨y0, y1, y2, y3, y4⟩ := k3.cell
    have yf := k3.frozen
    clear hF hq hfin hcall k3
    go_wp2_with fail
    refine bodyPost_ret (v := .tuple #[.agg #[.int .i64 v0, .int .i64 v1, .string v2, .slice v3 v4 v5, .slice v6 v7 v8], .bool false]) (by simp [results, Tryz.results97, go_sem, y0, y1, y2, y3, y4]) rfl ⟨_, by rw [HR.out], by rw [HR.out]; exact (HF.out _ rfl).1, (HF.out _ rfl).2⟩
end Go.Proofs.YtoangpfmjohhmaaGreatDoor

/- PartSet of the model. -/
namespace Go.Proofs.YtoangpfmjohhmaaGreatDoor
open Go.RowKit Go.Deep

theorem rowL_eq {d : Nat} {t : Tr (d + 1)} (h : okT (d + 1) t = true) (hk : Nd.kind t = 0 ∨ Nd.kind t = 5) : rowL d t = some (Nd.list t) := by
  rw [rowL_ok h]
  rcases hk with h0 | h5
  · rw [if_pos h0]
    obtain ⟨hf, _⟩ := okT_form h
    obtain ⟨kind, num, str, keys, list⟩ := t
    have h0 : kind = 0 := h0
    subst h0
    cases hb : headBad 0 num str keys.length list.length 6 with
    | true => rw [formT_bad hb] at hf; cases hf
    | false =>
      obtain ⟨_, _, _, _, g4⟩ := headBad_iff.1 hb
      have := List.eq_nil_of_length_eq_zero (g4 (by omega))
      subst this
      rfl
  · rw [if_neg (by rw [h5]; decide), if_pos h5]
theorem partSet_badx {d : Nat} {t : Tr (d + 2)} {i : Int} {x : Tr (d + 1)} (hx : okT (d + 1) x = false) : partSetT d t i x = (zeroT (d + 1), false) := by
  cases h : rowL (d + 1) t with
  | none => exact partSet_none h
  | some xs => exact partSet_bad h hx
theorem partSet_kind {d : Nat} {t : Tr (d + 2)} {i : Int} {x : Tr (d + 1)} (h : okT (d + 2) t = true) (h0 : Nd.kind t ≠ 0) (h5 : Nd.kind t ≠ 5) : partSetT d t i x = (zeroT (d + 1), false) := partSet_none (by rw [rowL_ok h, if_neg h0, if_neg h5])
theorem partSet_far {d : Nat} {t : Tr (d + 2)} {i : Int} {x : Tr (d + 1)} (h : okT (d + 2) t = true) (hk : Nd.kind t = 0 ∨ Nd.kind t = 5) (hi : 60 ≤ i ∨ i < -((Nd.list t).length : Int)) : partSetT d t i x = (zeroT (d + 1), false) := by
  refine partSet_out (j := if i < 0 then i + ((Nd.list t).length : Int) else i) (rowL_eq h hk) rfl ?_
  have := (okT_kinds h).2.1
  split <;> omega

theorem nodes_set {d : Nat} {xs : List (Tr (d + 1))} {k : Nat} {x : Tr (d + 1)} (hxs : ∀ y ∈ xs, okT (d + 1) y = true) (hx : okT (d + 1) x = true) (hl : xs.length ≤ 60) (hk : k < 60) : (nodes (d + 2) (rowT (d + 1) (setL xs (zeroT d) k x)) : Int) ≤ 4194304 := by
  have h1 : ∀ y ∈ setL xs (zeroT d) k x, nodes (d + 1) y ≤ 300 := fun y hy => by
    rcases mem_setL hy with h | h | h
    · exact nodes_ok (hxs y h)
    · rw [h]; exact nodes_ok (okT_zero d)
    · rw [h]; exact nodes_ok hx
  have h2 := sum_le_of h1
  have h3 := setL_length xs (zeroT d) k x
  have h4 : nodes (d + 2) (rowT (d + 1) (setL xs (zeroT d) k x)) = 1 + ((setL xs (zeroT d) k x).map (nodes (d + 1))).sum := rfl
  rw [h4]
  omega

set_option maxRecDepth 100000 in
set_option maxHeartbeats 2000000 in
theorem specPartSet_any (d : Nat) (S : Nat → Prop) (t : Tr (d + 2)) (v : Value) (i : Int) (hi : I64 i) (S2 : Nat → Prop) (x : Tr (d + 1)) (xv : Value) (w : World) (hv : ValAt S w (d + 2) t v) (hS : Within S w) (hx : ValAt S2 w (d + 1) x xv) (hS2 : Within S2 w) (hsm : (nodes (d + 2) t : Int) ≤ 4194304) (hsx : (nodes (d + 1) x : Int) ≤ 4194304) :
    Calls Tryz.prog 93 #[v, .int .i64 i, xv] w (SpecQ (d + 1) (partSetT d t i x).1 (partSetT d t i x).2 w) := by
  have hv0 := hv
  obtain ⟨vk, vl, rfl, i1, i2, i3, hk, hl⟩ := hv
  obtain ⟨ak, ck, rfl, hkl⟩ := hk.open'
  obtain ⟨al, cl, rfl, hll⟩ := hl.open'
  obtain ⟨k', n', s', ak', lk', ck', al', ll', cl', rfl⟩ := hx.shape
  obtain ⟨k0, k1, k2, hW0, hsz0⟩ := laid3 w 26 26 26 (.int .i64 t.kind) (.int .i64 t.num) (.string t.str) (.slice ak t.keys.length ck) (.slice al t.list.length cl) (.int .i64 k') (.int .i64 n') (.string s') (.slice ak' lk' ck') (.slice al' ll' cl') (.int .i64 0) (.int .i64 0) (.string { data := #[] }) (.slice none 0 0) (.slice none 0 0)
  obtain ⟨W0, hW⟩ : ∃ W0, W0 = ((w.alloc (.cells #[.int .i64 t.kind, .int .i64 t.num, .string t.str, .slice ak t.keys.length ck, .slice al t.list.length cl] 26)).alloc (.cells #[.int .i64 k', .int .i64 n', .string s', .slice ak' lk' ck', .slice al' ll' cl'] 26)).alloc (.cells #[.int .i64 0, .int .i64 0, .string { data := #[] }, .slice none 0 0, .slice none 0 0] 26) := ⟨_, rfl⟩
  rw [← hW] at k0 k1 k2 hW0 hsz0
  have HW := hide hW
  have HSZ := hide hsz0
  clear hW hk hl hsz0
  go_enter Tryz.func93, Tryz.ntmps93
  go_wp2_with fail
  rw [← HW.out]
  clear HW
  refine (specValOk_any (d + 2) S t _ W0 (hv0.same (hS.same hW0)) (hS.later hW0.size) hsm).mono ?_
  rintro e w1 ⟨rfl, hb1⟩
  replace k0 := k0.below hb1
  replace k1 := k1.below hb1
  replace k2 := k2.below hb1
  have hB1 := below_trans hW0 hb1
  have hlt : w.heap.size + 1 + 1 < w1.heap.size := k2.lt
  clear hb1 hW0
  -- the end, where it can not be done
  have hno : ∀ wn, Below w.heap.size w wn → Hid (∀ wF, wF = set5 wn (w.heap.size + 1 + 1) 0 (.int .i64 0) (.int .i64 0) (.string { data := #[] }) (.slice none 0 0) (.slice none 0 0) → Below w.heap.size w wF) := by
    intro wn hn wF hF
    rw [hF]
    exact below_set5 hn (by omega) _ _ _ _ _ _
  cases hf : okT (d + 2) t with
  | false =>
    have hz : Hid (partSetT d t i x = (zeroT (d + 1), false)) := partSet_none (by rw [rowL, if_neg (by rw [hf]; simp)])
    have HN := hno w1 hB1
    obtain ⟨y0, y1, y2, y3, y4⟩ := k2.cell
    have yf := k2.frozen
    clear k0 k1 k2 hB1 hv0 hx hno
    go_wp2_with fail
    rw [hz.out]
    refine bodyPost_ret (v := .tuple #[zeroVal, .bool false]) (by simp [results, Tryz.results93, go_sem, zeroVal, y0, y1, y2, y3, y4]; rfl) rfl ⟨_, rfl, zeroAt (d + 1) _ _, HN.out _ rfl⟩
  | true =>
    obtain ⟨x0, x1, x2, x3, x4⟩ := k1.cell
    go_wp2_with fail
    refine (specValOk_any (d + 1) S2 x _ w1 (hx.same (hS2.same hB1)) (hS2.later hB1.size) hsx).mono ?_
    rintro e w2 ⟨rfl, hb2⟩
    replace k0 := k0.below hb2
    replace k1 := k1.below hb2
    replace k2 := k2.below hb2
    have hB2 := below_trans hB1 hb2
    have hlt2 : w.heap.size + 1 + 1 < w2.heap.size := k2.lt
    clear hb2 hB1 x0 x1 x2 x3 x4
    obtain ⟨y0, y1, y2, y3, y4⟩ := k2.cell
    have yf := k2.frozen
    cases hfx : okT (d + 1) x with
    | false =>
      have hz : Hid (partSetT d t i x = (zeroT (d + 1), false)) := partSet_badx hfx
      have HN := hno w2 hB2
      clear k0 k1 k2 hB2 hv0 hx hno
      go_wp2_with fail
      rw [hz.out]
      refine bodyPost_ret (v := .tuple #[zeroVal, .bool false]) (by simp [results, Tryz.results93, go_sem, zeroVal, y0, y1, y2, y3, y4]; rfl) rfl ⟨_, rfl, zeroAt (d + 1) _ _, HN.out _ rfl⟩
    | true =>
      obtain ⟨x0, x1, x2, x3, x4⟩ := k0.cell
      obtain ⟨_, hl60, _⟩ := okT_kinds hf
      have hl60 : t.list.length ≤ 60 := hl60
      by_cases hkind : t.kind = 0 ∨ t.kind = 5
      · have hrow := hide (rowL_eq hf hkind)
        obtain ⟨hi1, hi2⟩ := hi
        by_cases hfar : 60 ≤ i ∨ i < -(t.list.length : Int)
        · have hz : Hid (partSetT d t i x = (zeroT (d + 1), false)) := partSet_far hf hkind hfar
          have HN := hno w2 hB2
          clear k0 k1 k2 hB2 hv0 hx hno hrow
          rcases hkind with hq | hq
          · have q0 : (t.kind != 0) = false := by simpa using hq
            clear hq
            by_cases h60 : 60 ≤ i
            · clear hfar
              go_wp2_with fail
              rw [hz.out]
              refine bodyPost_ret (v := .tuple #[zeroVal, .bool false]) (by simp [results, Tryz.results93, go_sem, zeroVal, y0, y1, y2, y3, y4]; rfl) rfl ⟨_, rfl, zeroAt (d + 1) _ _, HN.out _ rfl⟩
            · have hlo : i < -(t.list.length : Int) := by omega
              clear hfar
              go_wp2_with fail
              rw [hz.out]
              refine bodyPost_ret (v := .tuple #[zeroVal, .bool false]) (by simp [results, Tryz.results93, go_sem, zeroVal, y0, y1, y2, y3, y4]; rfl) rfl ⟨_, rfl, zeroAt (d + 1) _ _, HN.out _ rfl⟩
          · have q0 : (t.kind != 0) = true := by simp [hq]
            have q5 : (t.kind != 5) = false := by simpa using hq
            clear hq
            by_cases h60 : 60 ≤ i
            · clear hfar
              go_wp2_with fail
              rw [hz.out]
              refine bodyPost_ret (v := .tuple #[zeroVal, .bool false]) (by simp [results, Tryz.results93, go_sem, zeroVal, y0, y1, y2, y3, y4]; rfl) rfl ⟨_, rfl, zeroAt (d + 1) _ _, HN.out _ rfl⟩
            · have hlo : i < -(t.list.length : Int) := by omega
              clear hfar
              go_wp2_with fail
              rw [hz.out]
              refine bodyPost_ret (v := .tuple #[zeroVal, .bool false]) (by simp [results, Tryz.results93, go_sem, zeroVal, y0, y1, y2, y3, y4]; rfl) rfl ⟨_, rfl, zeroAt (d + 1) _ _, HN.out _ rfl⟩
        · obtain ⟨j, hj⟩ : ∃ j : Nat, (j : Int) = if i < 0 then i + (t.list.length : Int) else i := ⟨(if i < 0 then i + (t.list.length : Int) else i).toNat, by split <;> omega⟩
          have hj60 : j < 60 := by split at hj <;> omega
          have hR : Hid (partSetT d t i x = (toldT (d + 1) (rowT (d + 1) (setL t.list (zeroT d) j x)), okT (d + 2) (rowT (d + 1) (setL t.list (zeroT d) j x)))) := by
            have := partSet_in hrow.out hfx hj (by omega) (by omega)
            rw [Int.toNat_natCast] at this
            exact this
          have hnod := nodes_set (k := j) (fun y hy => okT_part hf hy) hfx hl60 hj60
          have hvU : ValAt (fun b => S b ∨ S2 b) w2 (d + 2) t (.agg #[.int .i64 t.kind, .int .i64 t.num, .string t.str, .slice ak t.keys.length ck, .slice al t.list.length cl]) := (hv0.same (hS.same hB2)).mono (fun b hb => Or.inl hb)
          have hxU : ValAt (fun b => S b ∨ S2 b) w2 (d + 1) x (.agg #[.int .i64 k', .int .i64 n', .string s', .slice ak' lk' ck', .slice al' ll' cl']) := (hx.same (hS2.same hB2)).mono (fun b hb => Or.inr hb)
          have hWU : Within (fun b => S b ∨ S2 b) w2 := fun b hb => by
            rcases hb with hb | hb
            · exact hS.later hB2.size b hb
            · exact hS2.later hB2.size b hb
          have hcall := hide (l2Set_any d (fun b => S b ∨ S2 b) t _ x _ j w2 hvU hxU hWU hj60 hl60)
          have hn1 : ¬ (60 ≤ i) := by omega
          have hn2 : ¬ (i < -(t.list.length : Int)) := by omega
          obtain ⟨z0, z1, z2, z3, z4⟩ := k1.cell
          have HJ := hide hj
          clear hv0 hx hno hrow hfar hvU hxU k0 k1 hj hfx
          rcases hkind with hq | hq
          all_goals
            first
              | (have q0 : (t.kind != 0) = false := (by simpa using hq))
              | (have q0 : (t.kind != 0) = true := (by simp [hq]); have q5 : (t.kind != 5) = false := (by simpa using hq))
            clear hq
            by_cases hneg : i < 0
            · have hji : i + (t.list.length : Int) = (j : Int) := by rw [HJ.out, if_pos hneg]
              have HJI := hide hji
              clear hji HJ
              go_wp2_with fail
              rw [HJI.out]
              refine Calls.mono hcall.out ?_
              rintro e w3 ⟨u, rfl, hu, hb3⟩
              obtain ⟨u0, u1, u2, u3, u4, u5, u6, u7, u8, rfl⟩ := hu.shape
              have hB3 := below_trans hB2 hb3
              have k3 := k2.below hb3
              have hWU3 : Within (fun b => (S b ∨ S2 b) ∨ Fresh w2 w3 b) w3 := fun b hb => by
                rcases hb with hb | hb
                · exact Nat.lt_of_lt_of_le (hWU b hb) hb3.size
                · exact hb.2
              have hcall2 := hide (l2Told_any (d + 1) _ _ _ w3 hu hWU3 hnod)
              have hlt3 : w.heap.size + 1 + 1 < w3.heap.size := k3.lt
              clear hu hWU3 hcall hb3 x0 x1 x2 x3 x4 y0 y1 y2 y3 y4 yf z0 z1 z2 z3 z4
              go_wp2_with fail
              refine Calls.mono hcall2.out ?_
              rintro e w4 ⟨r, rfl, hr, hb4⟩
              obtain ⟨r0, r1, r2, r3, r4, r5, r6, r7, r8, rfl⟩ := hr.shape
              have HF := hide (tell_endA hr (below_trans hB3 hb4) (by omega) hlt3)
              have k4 := k3.below hb4
              obtain ⟨y0, y1, y2, y3, y4⟩ := k4.cell
              have yf := k4.frozen
              clear hr hb4 k3 k4 hcall2 hB3
              go_wp2_with fail
              rw [hR.out]
              exact bodyPost_ret (v := .tuple #[.agg #[.int .i64 r0, .int .i64 r1, .string r2, .slice r3 r4 r5, .slice r6 r7 r8], .bool (okT (d + 2) (rowT (d + 1) (setL t.list (zeroT d) j x)))]) (by simp [results, Tryz.results93, go_sem, y0, y1, y2, y3, y4]) rfl ⟨_, rfl, (HF.out _ rfl).1, (HF.out _ rfl).2⟩
            · have hji : i = (j : Int) := by rw [HJ.out, if_neg hneg]
              have HJI := hide hji
              clear hji HJ
              go_wp2_with fail
              rw [HJI.out]
              refine Calls.mono hcall.out ?_
              rintro e w3 ⟨u, rfl, hu, hb3⟩
              obtain ⟨u0, u1, u2, u3, u4, u5, u6, u7, u8, rfl⟩ := hu.shape
              have hB3 := below_trans hB2 hb3
              have k3 := k2.below hb3
              have hWU3 : Within (fun b => (S b ∨ S2 b) ∨ Fresh w2 w3 b) w3 := fun b hb => by
                rcases hb with hb | hb
                · exact Nat.lt_of_lt_of_le (hWU b hb) hb3.size
                · exact hb.2
              have hcall2 := hide (l2Told_any (d + 1) _ _ _ w3 hu hWU3 hnod)
              have hlt3 : w.heap.size + 1 + 1 < w3.heap.size := k3.lt
              clear hu hWU3 hcall hb3 x0 x1 x2 x3 x4 y0 y1 y2 y3 y4 yf z0 z1 z2 z3 z4
              go_wp2_with fail
              refine Calls.mono hcall2.out ?_
              rintro e w4 ⟨r, rfl, hr, hb4⟩
              obtain ⟨r0, r1, r2, r3, r4, r5, r6, r7, r8, rfl⟩ := hr.shape
              have HF := hide (tell_endA hr (below_trans hB3 hb4) (by omega) hlt3)
              have k4 := k3.below hb4
              obtain ⟨y0, y1, y2, y3, y4⟩ := k4.cell
              have yf := k4.frozen
              clear hr hb4 k3 k4 hcall2 hB3
              go_wp2_with fail
              rw [hR.out]
              exact bodyPost_ret (v := .tuple #[.agg #[.int .i64 r0, .int .i64 r1, .string r2, .slice r3 r4 r5, .slice r6 r7 r8], .bool (okT (d + 2) (rowT (d + 1) (setL t.list (zeroT d) j x)))]) (by simp [results, Tryz.results93, go_sem, y0, y1, y2, y3, y4]) rfl ⟨_, rfl, (HF.out _ rfl).1, (HF.out _ rfl).2⟩
      · have n0 : t.kind ≠ 0 := fun h => hkind (Or.inl h)
        have n5 : t.kind ≠ 5 := fun h => hkind (Or.inr h)
        have hz : Hid (partSetT d t i x = (zeroT (d + 1), false)) := partSet_kind hf n0 n5
        have HN := hno w2 hB2
        have q0 : (t.kind != 0) = true := by simpa using n0
        have q5 : (t.kind != 5) = true := by simpa using n5
        clear k0 k1 k2 hB2 hv0 hx hno hkind n0 n5
        go_wp2_with fail
        rw [hz.out]
        refine bodyPost_ret (v := .tuple #[zeroVal, .bool false]) (by simp [results, Tryz.results93, go_sem, zeroVal, y0, y1, y2, y3, y4]; rfl) rfl ⟨_, rfl, zeroAt (d + 1) _ _, HN.out _ rfl⟩
end Go.Proofs.YtoangpfmjohhmaaGreatDoor
