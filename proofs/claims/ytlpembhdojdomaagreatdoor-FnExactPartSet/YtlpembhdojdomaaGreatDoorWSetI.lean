/- setTree of the program. -/
import Derived.Test.YtlpembhdojdomaaGreatDoorWSetP
import Derived.Deep.OwnRows
namespace Go.Proofs.YtlpembhdojdomaaGreatDoor
open Go.RowKit Go.Deep

/-- What setTree is asked to give. -/
def SetQ (d N : Nat) (xs : List (Tr (d + 1))) (j : Int) (x : Tr (d + 1)) (w : World) (e : Ending) (w' : World) : Prop :=
  Below N w w' ∧ ((0 ≤ j ∧ j < 60 ∧ ∃ u, e = .returned (.tuple #[u, .nilIface]) ∧ TreeG (fun b => N ≤ b ∧ b < w'.heap.size) w' (d + 2) (rowT (d + 1) (setL xs (zeroT d) j.toNat x)) u) ∨ ((j < 0 ∨ 60 ≤ j) ∧ ∃ why, e = .returned (.tuple #[.nilIface, faultV why])))

set_option maxRecDepth 100000 in
set_option maxHeartbeats 2000000 in
theorem setTree_any (d N : Nat) (S : Nat → Prop) (xs : List (Tr (d + 1))) (a : Option Addr) (cap : Nat) (vs : List Value) (x : Tr (d + 1)) (T : TypeId) (u' : Value) (j : Int) (w : World) (h : GTo N w (.slice a xs.length cap) xs vs) (hx : TreeG S w (d + 1) x (.iface T u'))
    (hS : ∀ b, S b → Aside N w (.slice a xs.length cap) b) (hN : N ≤ w.heap.size) (hl : xs.length ≤ 60) :
    Calls Tryz.prog 48 #[.slice a xs.length cap, .int .i64 j, .iface T u'] w (SetQ d N xs j x w) := by
  by_cases hj0 : j < 0
  · clear h hx hS
    go_enter Tryz.func48, Tryz.ntmps48
    go_wp2_with fail
    go_ret2
    exact ⟨Below.refl _ _, Or.inr ⟨Or.inl hj0, _, rfl⟩⟩
  by_cases hj1 : 60 ≤ j
  · clear h hx hS
    go_enter Tryz.func48, Tryz.ntmps48
    go_wp2_with fail
    go_ret2
    exact ⟨Below.refl _ _, Or.inr ⟨Or.inr hj1, _, rfl⟩⟩
  obtain ⟨k, rfl⟩ : ∃ k : Nat, j = (k : Int) := ⟨j.toNat, by omega⟩
  have hk60 : k < 60 := by omega
  go_enter Tryz.func48, Tryz.ntmps48
  go_wp2_with fail
  obtain ⟨i0, hi, hz0, hz1, hz2⟩ := info_parts Tryz.infoTree
  go_loopw [0] (fun sv wr => ∃ (m : Nat) (ra : Option Addr) (rc : Nat) (vs : List Value), sv = .slice ra (xs.length + m) rc ∧ xs.length + m ≤ max xs.length (k + 1) ∧ Hid (GTo N wr sv (xs ++ List.replicate m (zeroT d)) vs) ∧ Hid (Below N w wr) ∧ Hid (TreeG S wr (d + 1) x (.iface T u')) ∧ Hid (∀ b, S b → Aside N wr sv b)) (fun sv _ => k + 1 - (match sv with | .slice _ n _ => n | _ => 0))
  case atStart =>
    refine ⟨0, a, cap, vs, rfl, by omega, ?_, Below.refl _ _, hx, hS⟩
    show GTo N w _ (xs ++ List.replicate 0 (zeroT d)) vs
    rw [List.replicate_zero, List.append_nil]
    exact h
  case round =>
    clear h hx hS
    obtain ⟨m, ra, rc, ws, rfl, hm, hto, hbl, hxx, hSS⟩ := hrel
    have hlen : (xs ++ List.replicate m (zeroT d)).length = xs.length + m := by rw [List.length_append, List.length_replicate]
    have hown := hto.out.1
    rw [hlen] at hown
    have hsz := hbl.out.size
    by_cases hgo : xs.length + m ≤ k
    · have hgi : ((xs.length + m : Nat) : Int) ≤ (k : Int) := by omega
      have HO := hide (hown.alloc (.cells #[.iface 116 (.agg #[.int .i64 0])] 59))
      have hstep : Hid (∀ sv' w2, w2.ownsRow N 59 1 sv' (xs.length + m + 1) (ws ++ [.iface 116 (.agg #[.int .i64 0])]) → (wr.alloc (.cells #[.iface 116 (.agg #[.int .i64 0])] 59)).grownBy w2 (Value.slice ra (xs.length + m) rc).ownBlock →
          (sv'.ownBlock = (Value.slice ra (xs.length + m) rc).ownBlock ∨ sv'.ownBlock = some (wr.alloc (.cells #[.iface 116 (.agg #[.int .i64 0])] 59)).heap.size) →
          ∃ a' c' , sv' = .slice a' (xs.length + (m + 1)) c' ∧ GTo N w2 sv' (xs ++ List.replicate (m + 1) (zeroT d)) (ws ++ [.iface 116 (.agg #[.int .i64 0])]) ∧ Below N w w2 ∧ TreeG S w2 (d + 1) x (.iface T u') ∧ (∀ b, S b → Aside N w2 sv' b)) := by
        intro sv' w2 o1 o2 o3
        have hz : (wr.alloc (.cells #[.iface 116 (.agg #[.int .i64 0])] 59)).heap.size = wr.heap.size + 1 := by simp
        have hs2 := o2.size
        have hshape : ∃ a' c', sv' = .slice a' (xs.length + (m + 1)) c' := by
          rcases o1.2 with ⟨_, h0⟩ | ⟨g, cap, cur, hv, _⟩
          · omega
          · exact ⟨_, _, hv⟩
        obtain ⟨a', c', rfl⟩ := hshape
        have hown' : w2.ownsRow N 59 1 (.slice a' (xs.length + (m + 1)) c') ((xs ++ List.replicate m (zeroT d)).length + 1) (ws ++ [.iface 116 (.agg #[.int .i64 0])]) := by rw [hlen]; exact o1
        have hg := hto.out.step (x := zeroT d) (bareTree_at d _ _) hown' o2 o3
        rw [← padL_step] at hg
        have hblk : ∀ b, b < wr.heap.size → some b ≠ (Value.slice ra (xs.length + m) rc).ownBlock → w2.heap[b]? = wr.heap[b]? := fun b hb1 hb2 => (o2.block b (by omega) hb2).trans (Below.heap_alloc _ _ _ hb1)
        have hbl2 := hbl.out
        refine ⟨a', c', rfl, hg, ⟨o2.os.trans hbl2.os, o2.tape.trans hbl2.tape, o2.output.trans hbl2.output, by omega, fun b hb => ?_⟩, ?_, ?_⟩
        · exact (hblk b (by omega) (fun e => by have := (hown.lt b e.symm).1; omega)).trans (hbl2.block b hb)
        · exact hxx.out.same (fun b hb => hblk b (hSS.out b hb).2.1 (hSS.out b hb).2.2)
        · intro b hb
          obtain ⟨q1, q2, q3⟩ := hSS.out b hb
          refine ⟨q1, by omega, ?_⟩
          rcases o3 with e | e
          · rw [e]; exact q3
          · rw [e]; intro e2; cases e2; omega
      clear hto hown hxx hSS hbl
      go_wp2_with (at_builtin; refine wpList_append_own_at _ rfl _ _ 76 rfl N 59 i0 .nilIface 1 16 Tryz.underlying76 hi hz0 hz1 hz2 rfl (by decide) _ _ _ rfl HO.out ⟨wr.heap.size, 0, none⟩ 1 1 [.iface 116 (.agg #[.int .i64 0])] rfl rfl (cell_one_new _ _ _) ?c2 ?c3 ?c4 ?c5 ?_)
      case c2 => intro y hy; simp at hy; subst hy; rfl
      case c3 => unfold maxLen; omega
      case c4 => omega
      case c5 => simp; omega
      · intro sv' w2 o1 o2 _ o3
        have HH := hide (hstep.out sv' w2 o1 o2 (by rw [World.size_alloc]; exact o3))
        clear o1 o2 o3 hstep HO
        obtain ⟨a', c', rfl, _⟩ := HH.out
        go_wp2_with fail
        go_roundw
        case rel =>
          obtain ⟨_, _, _, r1, r2, r3, r4⟩ := HH.out
          exact ⟨m + 1, a', c', _, rfl, by omega, r1, r2, r3, r4⟩
        case measure => show k + 1 - (xs.length + (m + 1)) < k + 1 - (xs.length + m); omega
    · have hgi : ¬ ((xs.length + m : Nat) : Int) ≤ (k : Int) := by omega
      have hki : (k : Int) < ((xs.length + m : Nat) : Int) := by omega
      obtain ⟨g, rfl⟩ : ∃ g, ra = some ⟨g, 0, none⟩ := by
        rcases hown.2 with ⟨_, h0⟩ | ⟨g, cap, cur, hv, _⟩
        · omega
        · exact ⟨g, by cases hv; rfl⟩
      have hwl : ws.length = xs.length + m := by have := hown.1; omega
      have hce := hown.cellAt k (by omega)
      rw [List.getElem?_eq_getElem (by omega)] at hce
      have hfr := hown.frozenAt k
      have hm' := hide (show m = k + 1 - xs.length by omega)
      have hput := hto.out.put (k := k) (x := x) (u := .iface T u') (S := S) hlen.symm (by rw [hlen]; omega) hxx.out (fun b hb => ⟨(hSS.out b hb).1, (hSS.out b hb).2.1, fun e => (hSS.out b hb).2.2 (by rw [e]; rfl)⟩)
      have HG : Hid (GTo N (wr.setCell ⟨g, k, none⟩ (.iface T u')) (.slice (some ⟨g, 0, none⟩) (xs.length + m) rc) (setL xs (zeroT d) k x) (ws.set k (.iface T u'))) := by
        show GTo _ _ _ _ _
        unfold setL padL
        rw [← hm'.out]
        exact hput.1
      have HB := hide (Below.trans hbl.out hput.2)
      have hsl := setL_length xs (zeroT d) k x
      clear hto hown hxx hSS hbl hput
      go_wp2_with fail
      go_ret2
      refine ⟨HB.out, Or.inl ⟨by omega, by omega, _, rfl, ?_⟩⟩
      rw [Int.toNat_natCast]
      exact Or.inr (Or.inr (Or.inr (Or.inl ⟨_, _, by omega, rfl, rfl, HG.out.row (by omega)⟩)))
end Go.Proofs.YtlpembhdojdomaaGreatDoor
