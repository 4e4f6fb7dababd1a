/- Texts of the proof, put together by program: WSetT, WSetI, WSetJ. -/
import Derived.Test.YtlpembhdojdomaaGreatDoorPs21
import Derived.Test.YtlpembhdojdomaaGreatDoorPs20
import Derived.Deep.OwnRows
/- l2Told of the model: a tree in new memory, if it is right. -/
namespace Go.Proofs.YtlpembhdojdomaaGreatDoor
open Go.RowKit Go.Deep

set_option maxRecDepth 100000 in
set_option maxHeartbeats 4000000 in
theorem l2Told_any (d : Nat) (S : Nat → Prop) (t : Tr (d + 1)) (v : Value) (w : World) (hv : ValAt S w (d + 1) t v) (hS : Within S w) (hsm : (nodes (d + 1) t : Int) ≤ 4194304) :
    Calls Tryz.prog 32 #[v] w (SpecQ d (toldT d t) (okT (d + 1) t) w) := by
  have hv0 := hv
  obtain ⟨k, n, s, ak, lk, ck, al, ll, cl, rfl⟩ := hv.shape
  obtain ⟨W0, hW⟩ : ∃ W0, W0 = (w.alloc (.cells #[.int .i64 k, .int .i64 n, .string s, .slice ak lk ck, .slice al ll cl] 29)).alloc (.cells #[.int .i64 0, .int .i64 0, .string { data := #[] }, .slice none 0 0, .slice none 0 0] 29) := ⟨_, rfl⟩
  have hW0 : Below w.heap.size w W0 := by rw [hW]; exact below_trans (below_alloc1 _ _) (below_alloc1 _ _)
  have k0 : Blk5 W0 w.heap.size 29 (.int .i64 k) (.int .i64 n) (.string s) (.slice ak lk ck) (.slice al ll cl) := by
    rw [hW]; exact (Blk5.new w 29 _ _ _ _ _).alloc _
  have k1 : Blk5 W0 (w.heap.size + 1) 29 (.int .i64 0) (.int .i64 0) (.string { data := #[] }) (.slice none 0 0) (.slice none 0 0) := by
    have := Blk5.new (w.alloc (.cells #[.int .i64 k, .int .i64 n, .string s, .slice ak lk ck, .slice al ll cl] 29)) 29 (.int .i64 0) (.int .i64 0) (.string { data := #[] }) (.slice none 0 0) (.slice none 0 0)
    rw [World.size_alloc] at this
    rw [hW]
    exact this
  have HW := hide hW
  clear hW hv
  go_enter Tryz.func32, Tryz.ntmps32
  go_wp2_with fail
  rw [← HW.out]
  clear HW
  refine (specValOk_any (d + 1) S t _ W0 (hv0.same (hS.same hW0)) (hS.later hW0.size) hsm).mono ?_
  rintro e w1 ⟨rfl, hb1⟩
  replace k0 := k0.below hb1
  replace k1 := k1.below hb1
  have hB1 := below_trans hW0 hb1
  obtain ⟨x0, x1, x2, x3, x4⟩ := k0.cell
  have hlt := k1.lt
  clear hb1 hW0
  cases hf : okT (d + 1) t with
  | false =>
    have hz : Hid (toldT d t = zeroT d) := by
      show toldT d t = _
      rw [toldT, hf]
      rfl
    have hno : Hid (∀ wF, wF = set5 w1 (w.heap.size + 1) 0 (.int .i64 0) (.int .i64 0) (.string { data := #[] }) (.slice none 0 0) (.slice none 0 0) → Below w.heap.size w wF) := by
      intro wF hF
      rw [hF]
      exact below_set5 hB1 (by omega) _ _ _ _ _ _
    obtain ⟨y0, y1, y2, y3, y4⟩ := k1.cell
    have yf := k1.frozen
    clear k0 k1 hB1 hv0
    go_wp2_with fail
    rw [hz.out, hf]
    refine bodyPost_ret (v := .tuple #[zeroVal, .bool false]) (by simp [results, Tryz.results32, go_sem, zeroVal, y0, y1, y2, y3, y4]; rfl) rfl ⟨_, rfl, zeroAt d _ _, hno.out _ rfl⟩
  | true =>
    have hz : Hid (toldT d t = t) := by
      show toldT d t = _
      rw [toldT, hf]
      rfl
    have hwt := wtT_ok hf
    go_wp2_with fail
    refine (l1Copy_any (d + 1) S t _ w1 (hv0.same (hS.same hB1)) (hS.later hB1.size) (by omega)).mono ?_
    rintro e w3 ⟨u, rfl, hu3, hb3⟩
    obtain ⟨u0, u1, u2, u3, u4, u5, u6, u7, u8, rfl⟩ := (ValOwn.at _ _ _ _ hu3).shape
    have HF := hide (tell_end hu3 (below_trans hB1 hb3) (by omega) hlt)
    have k3 := k1.below hb3
    clear hu3 hb3 k1 k0 hv0 x0 x1 x2 x3 x4
    obtain ⟨y0, y1, y2, y3, y4⟩ := k3.cell
    have yf := k3.frozen
    clear k3
    go_wp2_with fail
    rw [hz.out, hf]
    refine bodyPost_ret (v := .tuple #[.agg #[.int .i64 u0, .int .i64 u1, .string u2, .slice u3 u4 u5, .slice u6 u7 u8], .bool true]) (by simp [results, Tryz.results32, go_sem, y0, y1, y2, y3, y4]) rfl ⟨_, rfl, ValOwn.at _ _ _ _ (HF.out _ rfl).1, (HF.out _ rfl).2⟩
end Go.Proofs.YtlpembhdojdomaaGreatDoor

/- setTree of the program. -/
namespace Go.Proofs.YtlpembhdojdomaaGreatDoor
open Go.RowKit Go.Deep

/-- What setTree is asked to give. -/
def SetQ (d N : Nat) (xs : List (Tr (d + 1))) (j : Int) (x : Tr (d + 1)) (w : World) (e : Ending) (w' : World) : Prop :=
  Below N w w' ∧ ((0 ≤ j ∧ j < 60 ∧ ∃ u, e = .returned (.tuple #[u, .nilIface]) ∧ TreeG (fun b => N ≤ b ∧ b < w'.heap.size) w' (d + 2) (rowT (d + 1) (setL xs (zeroT d) j.toNat x)) u) ∨ ((j < 0 ∨ 60 ≤ j) ∧ ∃ why, e = .returned (.tuple #[.nilIface, faultV why])))

set_option maxRecDepth 100000 in
set_option maxHeartbeats 2000000 in
theorem setTree_any (d N : Nat) (S : Nat → Prop) (xs : List (Tr (d + 1))) (a : Option Addr) (cap : Nat) (vs : List Value) (x : Tr (d + 1)) (T : TypeId) (u' : Value) (j : Int) (w : World) (h : GTo N w (.slice a xs.length cap) xs vs) (hx : TreeG S w (d + 1) x (.iface T u'))
    (hS : ∀ b, S b → Aside N w (.slice a xs.length cap) b) (hN : N ≤ w.heap.size) (hl : xs.length ≤ 60) :
    Calls Tryz.prog 48 #[.slice a xs.length cap, .int .i64 j, .iface T u'] w (SetQ d N xs j x w) := by
  by_cases hj0 : j < 0
  · clear h hx hS
    go_enter Tryz.func48, Tryz.ntmps48
    go_wp2_with fail
    go_ret2
    exact ⟨Below.refl _ _, Or.inr ⟨Or.inl hj0, _, rfl⟩⟩
  by_cases hj1 : 60 ≤ j
  · clear h hx hS
    go_enter Tryz.func48, Tryz.ntmps48
    go_wp2_with fail
    go_ret2
    exact ⟨Below.refl _ _, Or.inr ⟨Or.inr hj1, _, rfl⟩⟩
  obtain ⟨k, rfl⟩ : ∃ k : Nat, j = (k : Int) := ⟨j.toNat, by omega⟩
  have hk60 : k < 60 := by omega
  go_enter Tryz.func48, Tryz.ntmps48
  go_wp2_with fail
  obtain ⟨i0, hi, hz0, hz1, hz2⟩ := info_parts Tryz.infoTree
  go_loopw [0] (fun sv wr => ∃ (m : Nat) (ra : Option Addr) (rc : Nat) (vs : List Value), sv = .slice ra (xs.length + m) rc ∧ xs.length + m ≤ max xs.length (k + 1) ∧ Hid (GTo N wr sv (xs ++ List.replicate m (zeroT d)) vs) ∧ Hid (Below N w wr) ∧ Hid (TreeG S wr (d + 1) x (.iface T u')) ∧ Hid (∀ b, S b → Aside N wr sv b)) (fun sv _ => k + 1 - (match sv with | .slice _ n _ => n | _ => 0))
  case atStart =>
    refine ⟨0, a, cap, vs, rfl, by omega, ?_, Below.refl _ _, hx, hS⟩
    show GTo N w _ (xs ++ List.replicate 0 (zeroT d)) vs
    rw [List.replicate_zero, List.append_nil]
    exact h
  case round =>
    clear h hx hS
    obtain ⟨m, ra, rc, ws, rfl, hm, hto, hbl, hxx, hSS⟩ := hrel
    have hlen : (xs ++ List.replicate m (zeroT d)).length = xs.length + m := by rw [List.length_append, List.length_replicate]
    have hown := hto.out.1
    rw [hlen] at hown
    have hsz := hbl.out.size
    by_cases hgo : xs.length + m ≤ k
    · have hgi : ((xs.length + m : Nat) : Int) ≤ (k : Int) := by omega
      have HO := hide (hown.alloc (.cells #[.iface 116 (.agg #[.int .i64 0])] 59))
      have hstep : Hid (∀ sv' w2, w2.ownsRow N 59 1 sv' (xs.length + m + 1) (ws ++ [.iface 116 (.agg #[.int .i64 0])]) → (wr.alloc (.cells #[.iface 116 (.agg #[.int .i64 0])] 59)).grownBy w2 (Value.slice ra (xs.length + m) rc).ownBlock →
          (sv'.ownBlock = (Value.slice ra (xs.length + m) rc).ownBlock ∨ sv'.ownBlock = some (wr.alloc (.cells #[.iface 116 (.agg #[.int .i64 0])] 59)).heap.size) →
          ∃ a' c' , sv' = .slice a' (xs.length + (m + 1)) c' ∧ GTo N w2 sv' (xs ++ List.replicate (m + 1) (zeroT d)) (ws ++ [.iface 116 (.agg #[.int .i64 0])]) ∧ Below N w w2 ∧ TreeG S w2 (d + 1) x (.iface T u') ∧ (∀ b, S b → Aside N w2 sv' b)) := by
        intro sv' w2 o1 o2 o3
        have hz : (wr.alloc (.cells #[.iface 116 (.agg #[.int .i64 0])] 59)).heap.size = wr.heap.size + 1 := by simp
        have hs2 := o2.size
        have hshape : ∃ a' c', sv' = .slice a' (xs.length + (m + 1)) c' := by
          rcases o1.2 with ⟨_, h0⟩ | ⟨g, cap, cur, hv, _⟩
          · omega
          · exact ⟨_, _, hv⟩
        obtain ⟨a', c', rfl⟩ := hshape
        have hown' : w2.ownsRow N 59 1 (.slice a' (xs.length + (m + 1)) c') ((xs ++ List.replicate m (zeroT d)).length + 1) (ws ++ [.iface 116 (.agg #[.int .i64 0])]) := by rw [hlen]; exact o1
        have hg := hto.out.step (x := zeroT d) (bareTree_at d _ _) hown' o2 o3
        rw [← padL_step] at hg
        have hblk : ∀ b, b < wr.heap.size → some b ≠ (Value.slice ra (xs.length + m) rc).ownBlock → w2.heap[b]? = wr.heap[b]? := fun b hb1 hb2 => (o2.block b (by omega) hb2).trans (Below.heap_alloc _ _ _ hb1)
        have hbl2 := hbl.out
        refine ⟨a', c', rfl, hg, ⟨o2.os.trans hbl2.os, o2.tape.trans hbl2.tape, o2.output.trans hbl2.output, by omega, fun b hb => ?_⟩, ?_, ?_⟩
        · exact (hblk b (by omega) (fun e => by have := (hown.lt b e.symm).1; omega)).trans (hbl2.block b hb)
        · exact hxx.out.same (fun b hb => hblk b (hSS.out b hb).2.1 (hSS.out b hb).2.2)
        · intro b hb
          obtain ⟨q1, q2, q3⟩ := hSS.out b hb
          refine ⟨q1, by omega, ?_⟩
          rcases o3 with e | e
          · rw [e]; exact q3
          · rw [e]; intro e2; cases e2; omega
      clear hto hown hxx hSS hbl
      go_wp2_with (at_builtin; refine wpList_append_own_at _ rfl _ _ 76 rfl N 59 i0 .nilIface 1 16 Tryz.underlying76 hi hz0 hz1 hz2 rfl (by decide) _ _ _ rfl HO.out ⟨wr.heap.size, 0, none⟩ 1 1 [.iface 116 (.agg #[.int .i64 0])] rfl rfl (cell_one_new _ _ _) ?c2 ?c3 ?c4 ?c5 ?_)
      case c2 => intro y hy; simp at hy; subst hy; rfl
      case c3 => unfold maxLen; omega
      case c4 => omega
      case c5 => simp; omega
      · intro sv' w2 o1 o2 _ o3
        have HH := hide (hstep.out sv' w2 o1 o2 (by rw [World.size_alloc]; exact o3))
        clear o1 o2 o3 hstep HO
        obtain ⟨a', c', rfl, _⟩ := HH.out
        go_wp2_with fail
        go_roundw
        case rel =>
          obtain ⟨_, _, _, r1, r2, r3, r4⟩ := HH.out
          exact ⟨m + 1, a', c', _, rfl, by omega, r1, r2, r3, r4⟩
        case measure => show k + 1 - (xs.length + (m + 1)) < k + 1 - (xs.length + m); omega
    · have hgi : ¬ ((xs.length + m : Nat) : Int) ≤ (k : Int) := by omega
      have hki : (k : Int) < ((xs.length + m : Nat) : Int) := by omega
      obtain ⟨g, rfl⟩ : ∃ g, ra = some ⟨g, 0, none⟩ := by
        rcases hown.2 with ⟨_, h0⟩ | ⟨g, cap, cur, hv, _⟩
        · omega
        · exact ⟨g, by cases hv; rfl⟩
      have hwl : ws.length = xs.length + m := by have := hown.1; omega
      have hce := hown.cellAt k (by omega)
      rw [List.getElem?_eq_getElem (by omega)] at hce
      have hfr := hown.frozenAt k
      have hm' := hide (show m = k + 1 - xs.length by omega)
      have hput := hto.out.put (k := k) (x := x) (u := .iface T u') (S := S) hlen.symm (by rw [hlen]; omega) hxx.out (fun b hb => ⟨(hSS.out b hb).1, (hSS.out b hb).2.1, fun e => (hSS.out b hb).2.2 (by rw [e]; rfl)⟩)
      have HG : Hid (GTo N (wr.setCell ⟨g, k, none⟩ (.iface T u')) (.slice (some ⟨g, 0, none⟩) (xs.length + m) rc) (setL xs (zeroT d) k x) (ws.set k (.iface T u'))) := by
        show GTo _ _ _ _ _
        unfold setL padL
        rw [← hm'.out]
        exact hput.1
      have HB := hide (Below.trans hbl.out hput.2)
      have hsl := setL_length xs (zeroT d) k x
      clear hto hown hxx hSS hbl hput
      go_wp2_with fail
      go_ret2
      refine ⟨HB.out, Or.inl ⟨by omega, by omega, _, rfl, ?_⟩⟩
      rw [Int.toNat_natCast]
      exact Or.inr (Or.inr (Or.inr (Or.inl ⟨_, _, by omega, rfl, rfl, HG.out.row (by omega)⟩)))
end Go.Proofs.YtlpembhdojdomaaGreatDoor

/- PartSet of the program. -/
namespace Go.Proofs.YtlpembhdojdomaaGreatDoor
open Go.RowKit Go.Deep

theorem rowL_some {d : Nat} {t : Tr (d + 1)} {xs : List (Tr d)} (h : rowL d t = some xs) : okT (d + 1) t = true ∧ xs.length ≤ 60 ∧ ∀ x ∈ xs, okT d x = true := by
  unfold rowL at h
  split at h
  · rename_i hok
    split at h
    · cases h
      exact ⟨hok, by show (0 : Nat) ≤ 60; omega, fun x hx => by cases hx⟩
    · split at h
      · cases h
        exact ⟨hok, (okT_kinds hok).2.1, fun x hx => okT_part hok hx⟩
      · cases h
  · cases h
theorem partSet_none {d : Nat} {t : Tr (d + 2)} {i : Int} {x : Tr (d + 1)} (h : rowL (d + 1) t = none) : partSetT d t i x = (zeroT (d + 1), false) := by
  unfold partSetT
  rw [h]
theorem partSet_bad {d : Nat} {t : Tr (d + 2)} {i : Int} {x : Tr (d + 1)} {xs : List (Tr (d + 1))} (h : rowL (d + 1) t = some xs) (hx : okT (d + 1) x = false) : partSetT d t i x = (zeroT (d + 1), false) := by
  unfold partSetT
  rw [h]
  show (if _ then _ else _) = _
  rw [if_neg (by rw [hx]; simp)]
theorem partSet_out {d : Nat} {t : Tr (d + 2)} {i j : Int} {x : Tr (d + 1)} {xs : List (Tr (d + 1))} (h : rowL (d + 1) t = some xs) (hj : j = if i < 0 then i + (xs.length : Int) else i) (ho : j < 0 ∨ 60 ≤ j) : partSetT d t i x = (zeroT (d + 1), false) := by
  have hl := (rowL_some h).2.1
  unfold partSetT
  rw [h]
  show (if _ then _ else _) = _
  rw [if_neg (by rintro ⟨_, h1, h2⟩; split at hj <;> omega)]
theorem partSet_in {d : Nat} {t : Tr (d + 2)} {i j : Int} {x : Tr (d + 1)} {xs : List (Tr (d + 1))} (h : rowL (d + 1) t = some xs) (hx : okT (d + 1) x = true) (hj : j = if i < 0 then i + (xs.length : Int) else i) (h0 : 0 ≤ j) (h1 : j < 60) :
    partSetT d t i x = (toldT (d + 1) (rowT (d + 1) (setL xs (zeroT d) j.toNat x)), okT (d + 2) (rowT (d + 1) (setL xs (zeroT d) j.toNat x))) := by
  have hl := (rowL_some h).2.1
  unfold partSetT
  rw [h]
  show (if _ then _ else _) = _
  rw [if_pos ⟨hx, by split at hj <;> omega, by split at hj <;> omega⟩, ← hj]

theorem ErrType.of_block0 {w w' : World} (h : ErrType w) (e : w'.heap[0]? = w.heap[0]?) : ErrType w' := (World.cell?_of_block (w := w) e).trans h
theorem GTo.moved {d N : Nat} {w w' : World} {sv : Value} {xs : List (Tr d)} {vs : List Value} (h : GTo N w sv xs vs) (hb : Below w.heap.size w w') : GTo N w' sv xs vs := by
  obtain ⟨h1, h2⟩ := h
  have hz := hb.size
  refine ⟨⟨h1.1, ?_⟩, fun j x u hx hu => TreeG.moved (fun b hb' => hb.block b hb'.2.1) (fun b hb' => ⟨hb'.1, by have := hb'.2.1; omega, hb'.2.2⟩) d x u (h2 j x u hx hu)⟩
  rcases h1.2 with h | ⟨g, cap, cur, hv, hg, hh, hrest⟩
  · exact Or.inl h
  · exact Or.inr ⟨g, cap, cur, hv, hg, (hb.block g (Array.getElem?_eq_some_iff.1 hh).1).trans hh, hrest⟩

set_option maxRecDepth 100000 in
set_option maxHeartbeats 4000000 in
theorem implPartSet_any (d : Nat) (S : Nat → Prop) (t : Tr (d + 2)) (v : Value) (i : Int) (hi : I64 i) (S2 : Nat → Prop) (x : Tr (d + 1)) (xv : Value) (w : World) (hv : ValAt S w (d + 2) t v) (hS : Within S w) (hx : ValAt S2 w (d + 1) x xv) (hS2 : Within S2 w) (hg : ErrType w) :
    Calls Tryz.prog 18 #[v, .int .i64 i, xv] w (TellQ (d + 1) (partSetT d t i x).1 (partSetT d t i x).2 w) := by
  obtain ⟨k, n, s, ak, lk, ck, al, ll, cl, rfl⟩ := hv.shape
  obtain ⟨k', n', s', ak', lk', ck', al', ll', cl', rfl⟩ := hx.shape
  obtain ⟨k0, k1, k2, hW0, hsz0⟩ := laid3 w 29 29 29 (.int .i64 k) (.int .i64 n) (.string s) (.slice ak lk ck) (.slice al ll cl) (.int .i64 k') (.int .i64 n') (.string s') (.slice ak' lk' ck') (.slice al' ll' cl') (.int .i64 0) (.int .i64 0) (.string { data := #[] }) (.slice none 0 0) (.slice none 0 0)
  obtain ⟨W0, hW⟩ : ∃ W0, W0 = ((w.alloc (.cells #[.int .i64 k, .int .i64 n, .string s, .slice ak lk ck, .slice al ll cl] 29)).alloc (.cells #[.int .i64 k', .int .i64 n', .string s', .slice ak' lk' ck', .slice al' ll' cl'] 29)).alloc (.cells #[.int .i64 0, .int .i64 0, .string { data := #[] }, .slice none 0 0, .slice none 0 0] 29) := ⟨_, rfl⟩
  rw [← hW] at k0 k1 k2 hW0 hsz0
  have HW := hide hW
  clear hW k0
  go_enter Tryz.func18, Tryz.ntmps18
  go_wp2_with fail
  rw [← HW.out]
  clear HW
  refine (partsInRow_own (d + 1) S t _ W0 (hv.same (hS.same hW0)) (hS.later hW0.size)).mono ?_
  rintro e w1 ⟨hb1, hq⟩
  have hB1 := below_trans hW0 hb1
  replace k1 := k1.below hb1
  replace k2 := k2.below hb1
  have hg1 := hg.below hB1
  have hs1 := hb1.size
  -- what is told, however it is
  have hfin : ∀ (w1' : World), Below W0.heap.size w1 w1' → ∀ (y : Tr (d + 2)) (ok : Bool), Hid (∀ e w2, TellQ (d + 1) y ok w1' e w2 → ∃ v0 v1 v2 v3 v4 v5 v6 v7 v8, e = .returned (.tuple #[.agg #[.int .i64 v0, .int .i64 v1, .string v2, .slice v3 v4 v5, .slice v6 v7 v8], .bool ok]) ∧
      Blk5 w2 (w.heap.size + 1 + 1) 29 (.int .i64 0) (.int .i64 0) (.string { data := #[] }) (.slice none 0 0) (.slice none 0 0) ∧
      ∀ wF, wF = set5 w2 (w.heap.size + 1 + 1) 0 (.int .i64 v0) (.int .i64 v1) (.string v2) (.slice v3 v4 v5) (.slice v6 v7 v8) → ValOwn wF (d + 2) (Fresh w wF) y (.agg #[.int .i64 v0, .int .i64 v1, .string v2, .slice v3 v4 v5, .slice v6 v7 v8]) ∧ Below w.heap.size w wF) := fun w1' hb' y ok => by
    intro e w2 ⟨v, he, hv, hb2⟩
    obtain ⟨v0, v1, v2, v3, v4, v5, v6, v7, v8, rfl⟩ := (ValOwn.at _ _ _ _ hv).shape
    have hbw : Below w.heap.size w w1' := hB1.trans (hb'.mono (by omega))
    have hk : Blk5 w1' (w.heap.size + 1 + 1) 29 (.int .i64 0) (.int .i64 0) (.string { data := #[] }) (.slice none 0 0) (.slice none 0 0) := k2.of_block (hb'.block _ (by omega))
    exact ⟨v0, v1, v2, v3, v4, v5, v6, v7, v8, he, hk.below hb2, tell_end hv (below_trans hbw hb2) (by omega) (by have := hb'.size; omega)⟩
  clear hv hW0 k2
  rcases hq with ⟨xs, xa, xc, vs, hrow, rfl, hgto⟩ | ⟨hrow, why, rfl⟩
  · obtain ⟨_, hx60, hxok⟩ := rowL_some hrow
    obtain ⟨j, hj⟩ : ∃ j : Int, j = if i < 0 then i + (xs.length : Int) else i := ⟨_, rfl⟩
    have HJ := hide hj
    obtain ⟨x0, x1, x2, x3, x4⟩ := k1.cell
    have HG := hide hgto
    have HROW := hide hrow
    clear hgto hj hrow
    go_wp2_with fail
    refine (given_any (d + 1) S2 x _ w1 (hx.same (hS2.same hB1)) (hS2.later hB1.size)).mono ?_
    rintro e w2 ⟨hb2, hq⟩
    have hgt2 := hide (HG.out.moved hb2)
    have hbN2 : Below W0.heap.size w1 w2 := hb2.mono hs1
    have hs2 := hb2.size
    have hg2 := hg1.below hb2
    clear x0 x1 x2 x3 x4
    rcases hq with ⟨hok, u, rfl, hu⟩ | ⟨hok, why, rfl⟩
    · obtain ⟨T, u', rfl⟩ := hu.iface
      have hAs : Hid (∀ b, Fresh w1 w2 b → Aside W0.heap.size w2 (.slice xa xs.length xc) b) := by
        intro b hb
        refine ⟨by have := hb.1; omega, hb.2, fun e => ?_⟩
        have := (HG.out.1.lt b e.symm).2
        have := hb.1
        omega
      have hcall := hide (setTree_any d W0.heap.size (Fresh w1 w2) xs xa xc vs x T u' j w2 hgt2.out hu hAs.out (by omega) hx60)
      clear hu hAs hgt2 HG hb2
      go_wp2_with fail
      refine (fromStart_any i xs.length hi hx60 w2).mono ?_
      rintro e w2' ⟨rfl, rfl⟩
      rw [← HJ.out]
      go_wp2_with fail
      refine Calls.mono hcall.out ?_
      rintro e w3 ⟨hb3, hq⟩
      have hbN3 := Below.trans hbN2 hb3
      clear hcall
      rcases hq with ⟨hj0, hj1, u3, rfl, hu3⟩ | ⟨hjo, why, rfl⟩
      · obtain ⟨T3, u3', rfl⟩ := hu3.iface
        have HR := hide (partSet_in HROW.out hok HJ.out hj0 hj1)
        have hcall := hide (told_tree (d + 1) _ _ _ w3 hu3 (fun b hb => hb.2))
        clear hu3 HROW HJ
        go_wp2_with fail
        refine Calls.mono hcall.out ?_
        intro e w4 hq
        obtain ⟨v0, v1, v2, v3, v4, v5, v6, v7, v8, rfl, k3, hF⟩ := (hfin w3 hbN3 _ _).out e w4 hq
        have HF := hide hF
        obtain ⟨y0, y1, y2, y3, y4⟩ := k3.cell
        have yf := k3.frozen
        clear hF hq hfin hcall k3
        go_wp2_with fail
        refine bodyPost_ret (v := .tuple #[.agg #[.int .i64 v0, .int .i64 v1, .string v2, .slice v3 v4 v5, .slice v6 v7 v8], .bool (okT (d + 2) (rowT (d + 1) (setL xs (zeroT d) j.toNat x)))]) (by simp [results, Tryz.results18, go_sem, y0, y1, y2, y3, y4]) rfl ⟨_, by rw [HR.out], by rw [HR.out]; exact (HF.out _ rfl).1, (HF.out _ rfl).2⟩
      · have HR := hide (partSet_out (x := x) HROW.out HJ.out hjo)
        have hcall := hide (told_fault (d + 1) .nilIface why w3 (hg2.of_block0 (hb3.block 0 (by have := hg.lt; omega))))
        unfold faultV
        clear HROW HJ
        go_wp2_with fail
        refine Calls.mono hcall.out ?_
        intro e w4 hq
        obtain ⟨v0, v1, v2, v3, v4, v5, v6, v7, v8, rfl, k3, hF⟩ := (hfin w3 hbN3 _ _).out e w4 hq
        have HF := hide hF
        obtain ⟨y0, y1, y2, y3, y4⟩ := k3.cell
        have yf := k3.frozen
        clear hF hq hfin hcall k3
        go_wp2_with fail
        refine bodyPost_ret (v := .tuple #[.agg #[.int .i64 v0, .int .i64 v1, .string v2, .slice v3 v4 v5, .slice v6 v7 v8], .bool false]) (by simp [results, Tryz.results18, go_sem, y0, y1, y2, y3, y4]) rfl ⟨_, by rw [HR.out], by rw [HR.out]; exact (HF.out _ rfl).1, (HF.out _ rfl).2⟩
    · have HR := hide (partSet_bad (i := i) HROW.out hok)
      have hcall := hide (told_fault (d + 1) .nilIface why w2 hg2)
      unfold faultV
      clear HROW HJ hgt2 HG
      go_wp2_with fail
      refine Calls.mono hcall.out ?_
      intro e w4 hq
      obtain ⟨v0, v1, v2, v3, v4, v5, v6, v7, v8, rfl, k3, hF⟩ := (hfin w2 hbN2 _ _).out e w4 hq
      have HF := hide hF
      obtain ⟨y0, y1, y2, y3, y4⟩ := k3.cell
      have yf := k3.frozen
      clear hF hq hfin hcall k3
      go_wp2_with fail
      refine bodyPost_ret (v := .tuple #[.agg #[.int .i64 v0, .int .i64 v1, .string v2, .slice v3 v4 v5, .slice v6 v7 v8], .bool false]) (by simp [results, Tryz.results18, go_sem, y0, y1, y2, y3, y4]) rfl ⟨_, by rw [HR.out], by rw [HR.out]; exact (HF.out _ rfl).1, (HF.out _ rfl).2⟩
  · have HR := hide (partSet_none (i := i) (x := x) hrow)
    have hcall := hide (told_fault (d + 1) .nilIface why w1 hg1)
    unfold faultV
    clear hrow k1
    go_wp2_with fail
    refine Calls.mono hcall.out ?_
    intro e w2 hq
    obtain ⟨v0, v1, v2, v3, v4, v5, v6, v7, v8, rfl, k3, hF⟩ := (hfin w1 (Below.refl _ _) _ _).out e w2 hq
    have HF := hide hF
    obtain ⟨y0, y1, y2, y3, y4⟩ := k3.cell
    have yf := k3.frozen
    clear hF hq hfin hcall k3
    go_wp2_with fail
    refine bodyPost_ret (v := .tuple #[.agg #[.int .i64 v0, .int .i64 v1, .string v2, .slice v3 v4 v5, .slice v6 v7 v8], .bool false]) (by simp [results, Tryz.results18, go_sem, y0, y1, y2, y3, y4]) rfl ⟨_, by rw [HR.out], by rw [HR.out]; exact (HF.out _ rfl).1, (HF.out _ rfl).2⟩
end Go.Proofs.YtlpembhdojdomaaGreatDoor
