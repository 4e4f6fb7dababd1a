/- PartEach of the model. -/
import Derived.Test.YtchekmjdmjhniaaDoorWPartP
import Derived.Test.YtchekmjdmjhniaaDoorWCopy
namespace Go.Proofs.YtchekmjdmjhniaaDoor
open Go.RowKit Go.Deep

set_option maxRecDepth 100000 in
set_option maxHeartbeats 2000000 in
theorem l1All_any (d : Nat) (S : Nat → Prop) (xs : List (Tr d)) (v : Value) (w : World) (hv : RowAt S w (ValAt S w d) v xs) (hS : Within S w) (hsm : xs.length ≤ 1000) (hwt : ∀ x ∈ xs, (wtT d x : Int) ≤ 4194304) :
    Calls Tryd.prog 20 #[v] w fun e w' => ∃ u, e = .returned u ∧ RowOwn w' (fun P x u => ValOwn w' d P x u) (Fresh w w') u xs ∧ Below w.heap.size w w' := by
  obtain ⟨a, cap, rfl, hlen⟩ := hv.open'
  have hcopy := l1Copy_any d
  go_enter Tryd.func20, Tryd.ntmps20
  obtain ⟨W0, hW⟩ : ∃ W0, W0 = w.alloc (.cells #[] 31) := ⟨_, rfl⟩
  have hW0 : Below w.heap.size w W0 := by rw [hW]; exact below_alloc1 _ _
  have hstart : Hid (ValsTo (d := d) w.heap.size W0 (.slice (some ⟨w.heap.size, 0, none⟩) 0 0) xs 0 [] (fun _ _ => False)) := ⟨⟨rfl, Or.inr ⟨w.heap.size, 0, #[], rfl, Nat.le_refl _, by rw [hW]; exact heap_alloc_new _ _, Nat.le_refl _, Nat.zero_le _, rfl, rfl⟩⟩, fun j c hj => by omega, fun i j c hi => by omega, fun j x hj => by omega⟩
  have HW := hide hW
  clear hW
  go_wp2_with fail
  rw [← HW.out]
  clear HW
  go_loopw [3, 4] (fun lv i wr => ∃ (k : Nat) (vs : List Value) (P : Nat → Nat → Prop), k ≤ xs.length ∧ i = .int .i64 k ∧ Hid (ValsTo w.heap.size wr lv xs k vs P) ∧ Below w.heap.size w wr) (fun _ i _ => xs.length - (intOf i).toNat)
  case atStart => exact ⟨0, [], _, Nat.zero_le _, rfl, hstart, hW0⟩
  case round =>
    clear hstart
    obtain ⟨k, vs, P, hkk, rfl, hto, hbel⟩ := hrel
    by_cases hkl : k < xs.length
    · have hsame := hS.same hbel
      obtain ⟨eb, eo, x, c0, c1, c2, c3, c4, rfl, heS, hx, e0, e1, e2, e3, e4, hval⟩ := (hv.same hsame).cell hkl
      obtain ⟨q0, q1, q2, q3, q4, q5, q6, q7, q8, hq⟩ := hval.shape
      cases hq
      have HC := hide (hcopy S x _ wr hval (hS.later hbel.size) (hwt x (List.mem_of_getElem? hx)))
      have HX := hide hx
      have hki : (k : Int) < (xs.length : Int) := by omega
      have hNs : w.heap.size ≤ wr.heap.size := hbel.size
      clear hx hv hval hsame
      go_wp2_with fail
      refine Calls.mono HC.out ?_
      rintro e w1 ⟨u, rfl, hu, hb1⟩
      obtain ⟨v0, v1, v2, v3, v4, v5, v6, v7, v8, rfl⟩ := (ValOwn.at d _ _ _ hu).shape
      have hb2 := hide (below_trans hbel hb1)
      have hown1 := hide ((hto.out.own.kept (row := none) ⟨hb1.os, hb1.tape, hb1.output, hb1.size, fun i hi _ => hb1.block i hi⟩ (by cases u3.ownBlock <;> simp)).alloc (.cells #[.int .i64 v0, .int .i64 v1, .string v2, .slice v3 v4 v5, .slice v6 v7 v8] 31))
      have hN1 : w.heap.size ≤ w1.heap.size := hb2.out.size
      have hstep : Hid (∀ sv' w2, w2.ownsRow w.heap.size 31 5 sv' (k + 1) (vs ++ [.int .i64 v0, .int .i64 v1, .string v2, .slice v3 v4 v5, .slice v6 v7 v8]) → (w1.alloc (.cells #[.int .i64 v0, .int .i64 v1, .string v2, .slice v3 v4 v5, .slice v6 v7 v8] 31)).grownBy w2 (u3.ownBlock) →
          (sv'.ownBlock = u3.ownBlock ∨ sv'.ownBlock = some (w1.alloc (.cells #[.int .i64 v0, .int .i64 v1, .string v2, .slice v3 v4 v5, .slice v6 v7 v8] 31)).heap.size) →
          (∃ P', ValsTo w.heap.size w2 sv' xs (k + 1) (vs ++ [.int .i64 v0, .int .i64 v1, .string v2, .slice v3 v4 v5, .slice v6 v7 v8]) P') ∧ Below w.heap.size w w2) := by
        intro sv' w2 o1 o2 o3
        have hrow : ∀ g, u3.ownBlock = some g → w.heap.size ≤ g := fun g hg => (hto.out.own.lt g hg).1
        refine ⟨⟨_, hto.out.step hb1 HX.out hu o1 o2 o3 hNs⟩, ?_⟩
        have hb3 := hb2.out
        refine ⟨o2.os.trans hb3.os, o2.tape.trans hb3.tape, o2.output.trans hb3.output, Nat.le_trans hb3.size (Nat.le_trans (by simp) o2.size), fun i hi => ?_⟩
        exact ((o2.block i (by simp; omega) (fun e => by have := hrow i e.symm; omega)).trans (Below.heap_alloc _ _ _ (by omega))).trans (hb3.block i hi)
      obtain ⟨i0, hi, hz0, hz1, hz2⟩ := info_parts Tryd.infoVal
      clear hto hu hb1 hbel HC hb2
      go_wp2_with (at_builtin; refine wpList_append_own_at _ rfl _ _ 27 rfl w.heap.size 31 i0 zeroVal 5 80 Tryd.underlying27 hi hz0 hz1 hz2 rfl (by decide) _ _ _ rfl hown1.out ⟨w1.heap.size, 0, none⟩ 1 1 [.int .i64 v0, .int .i64 v1, .string v2, .slice v3 v4 v5, .slice v6 v7 v8] rfl rfl (cell_five_new _ _ _ _ _ _ _) ?c2 ?c3 ?c4 ?c5 ?_)
      case c2 => intro y hy; simp at hy; rcases hy with rfl | rfl | rfl | rfl | rfl <;> rfl
      case c3 => unfold maxLen; omega
      case c4 => omega
      case c5 => simp; omega
      · intro sv' w2 o1 o2 _ o3
        have HH := hide (hstep.out sv' w2 o1 o2 (by rw [World.size_alloc]; exact o3))
        clear o1 o2 o3 hstep hown1
        go_wp2_with fail
        go_roundw
        case rel =>
          obtain ⟨⟨P', hP'⟩, hB'⟩ := HH.out
          exact ⟨k + 1, _, P', by omega, by go_num, hP', hB'⟩
        case measure => simp [intOf]; omega
    · obtain rfl : k = xs.length := by omega
      have hdone := hide (hto.out.done (by omega))
      clear hto hv hwt
      go_wp2_with fail
      go_ret
      exact ⟨_, rfl, hdone.out, hbel⟩

/-- The parts of a tree, and whether there can be some. -/
def eachT (d : Nat) (t : Tr (d + 1)) : List (Tr d) × Bool := if okT (d + 1) t = true ∧ 5 ≤ Nd.kind t then (Nd.list t, true) else ([], false)
/-- What is asked of PartEach of the model, .. of the program. -/
def SpecRQ (d : Nat) (xs : List (Tr d)) (ok : Bool) (w : World) (e : Ending) (w' : World) : Prop :=
  ∃ v, e = .returned (.tuple #[v, .bool ok]) ∧ RowAt (Fresh w w') w' (ValAt (Fresh w w') w' d) v xs ∧ Below w.heap.size w w'
def TellRQ (d : Nat) (xs : List (Tr d)) (ok : Bool) (w : World) (e : Ending) (w' : World) : Prop :=
  ∃ v, e = .returned (.tuple #[v, .bool ok]) ∧ RowOwn w' (fun P x u => ValOwn w' d P x u) (Fresh w w') v xs ∧ Below w.heap.size w w'
theorem row_nil {d : Nat} (S : Nat → Prop) (w : World) (a : Option Addr) : RowAt S w (ValAt S w d) (.slice a 0 0) [] := ⟨by show (0 : Nat) < _; omega, a, 0, rfl, Or.inl rfl⟩
theorem rowOwn_at {d : Nat} {S : Nat → Prop} {w : World} {v : Value} {xs : List (Tr d)} (h : RowOwn w (fun P x u => ValOwn w d P x u) S v xs) : RowAt S w (ValAt S w d) v xs := by
  have h1 : ValOwn w (d + 1) S (Nd.mk 5 0 ByteArray.empty [] xs : Nd (Tr d)) (.agg #[.int .i64 5, .int .i64 0, .string ByteArray.empty, .slice none 0 0, v]) :=
    ⟨_, _, fun _ => False, S, rfl, ⟨by show _ ≤ (5 : Int); omega, by show (5 : Int) ≤ _; omega⟩, ⟨by show _ ≤ (0 : Int); omega, by show (0 : Int) ≤ _; omega⟩, by show ByteArray.empty.size < _; decide, ⟨by show (0 : Nat) < _; omega, fun s h => by (cases h), none, 0, rfl, Or.inl rfl⟩, h, fun _ h => h.elim, fun _ h => h, fun _ h => h.elim⟩
  obtain ⟨vk, vl, hv, _, _, _, _, hl⟩ := ValOwn.at _ _ _ _ h1
  cases hv
  exact hl

set_option maxRecDepth 100000 in
set_option maxHeartbeats 4000000 in
theorem specPartEach_any (d : Nat) (S : Nat → Prop) (t : Tr (d + 1)) (v : Value) (w : World) (hv : ValAt S w (d + 1) t v) (hS : Within S w) (hsm : (nodes (d + 1) t : Int) ≤ 4194304) :
    Calls Tryd.prog 6 #[v] w (SpecRQ d (eachT d t).1 (eachT d t).2 w) := by
  have hv0 := hv
  obtain ⟨vk, vl, rfl, i1, i2, i3, hk, hl⟩ := hv
  obtain ⟨ak, ck, rfl, hkl⟩ := hk.open'
  obtain ⟨al, cl, rfl, hll⟩ := hl.open'
  have hA := below_alloc1 w (.cells #[.int .i64 t.kind, .int .i64 t.num, .string t.str, .slice ak t.keys.length ck, .slice al t.list.length cl] 31)
  have k0 := Blk5.new w 31 (.int .i64 t.kind) (.int .i64 t.num) (.string t.str) (.slice ak t.keys.length ck) (.slice al t.list.length cl)
  go_enter Tryd.func6, Tryd.ntmps6
  go_wp2_with fail
  refine (specValOk_any (d + 1) S t _ _ (hv0.same (hS.same hA)) (hS.later hA.size) hsm).mono ?_
  rintro e w1 ⟨rfl, hb1⟩
  replace k0 := k0.below hb1
  have hB1 := below_trans hA hb1
  obtain ⟨x0, x1, x2, x3, x4⟩ := k0.cell
  have HB1 := hide hB1
  cases hf : okT (d + 1) t with
  | false =>
    have hz : Hid (eachT d t = ([], false)) := by
      show eachT d t = _
      rw [eachT, if_neg (by rw [hf]; simp)]
    clear k0 hB1 hb1 hA hv0 hl hk
    go_wp2_with fail
    rw [hz.out]
    go_ret2
    exact ⟨_, rfl, row_nil _ _ _, below_trans HB1.out (below_alloc1 _ _)⟩
  | true =>
    by_cases h5 : t.kind < 5
    · have hz : Hid (eachT d t = ([], false)) := by
        show eachT d t = _
        rw [eachT, if_neg (by intro h; have := h.2; omega)]
      clear k0 hB1 hb1 hA hv0 hl hk
      go_wp2_with fail
      rw [hz.out]
      go_ret2
      exact ⟨_, rfl, row_nil _ _ _, below_trans HB1.out (below_alloc1 _ _)⟩
    · have h5' : 5 ≤ t.kind := by omega
      have hz : Hid (eachT d t = (t.list, true)) := by
        show eachT d t = _
        rw [eachT, if_pos ⟨hf, h5'⟩]
      have hl60 := (okT_kinds hf).2.1
      have hcall := hide (l1All_any d S t.list _ w1 (hl.same (hS.same hB1)) (hS.later hB1.size) (Nat.le_trans hl60 (by omega)) (fun x hx => wt_part hx hf))
      have hsz := hB1.size
      clear k0 hB1 hb1 hA hv0 hl hk hl60
      go_wp2_with fail
      refine Calls.mono hcall.out ?_
      rintro e w2 ⟨u, rfl, hu, hb2⟩
      have HR := hide (rowOwn_at (hu.moved (Same.refl _ _) (S' := Fresh w w2) (fun b hb => ⟨by have := hb.1; omega, hb.2⟩) (fun P x u hP hx => hx)))
      have HB2 := hide (below_trans HB1.out hb2)
      clear hu hb2 hcall
      go_wp2_with fail
      rw [hz.out]
      go_ret2
      exact ⟨_, rfl, HR.out, HB2.out⟩
end Go.Proofs.YtchekmjdmjhniaaDoor
