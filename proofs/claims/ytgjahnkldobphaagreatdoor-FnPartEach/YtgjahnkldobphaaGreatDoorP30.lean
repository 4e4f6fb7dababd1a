/- Texts of the proof, put together by program: WEachS, WEachSo, WGet, WKeyI. -/
import Derived.Test.YtgjahnkldobphaaGreatDoorP11
import Derived.Test.YtgjahnkldobphaaGreatDoorP7
import Derived.Test.YtgjahnkldobphaaGreatDoorP17
import Derived.Test.YtgjahnkldobphaaGreatDoorP27
import Derived.Test.YtgjahnkldobphaaGreatDoorP9
/- PartEach of the model. -/
namespace Go.Proofs.YtgjahnkldobphaaGreatDoor
open Go.RowKit Go.Deep

set_option maxRecDepth 100000 in
set_option maxHeartbeats 2000000 in
theorem l1All_any (d : Nat) (S : Nat → Prop) (xs : List (Tr d)) (v : Value) (w : World) (hv : RowAt S w (ValAt S w d) v xs) (hS : Within S w) (hsm : xs.length ≤ 1000) (hwt : ∀ x ∈ xs, (wtT d x : Int) ≤ 4194304) :
    Calls Tryz.prog 47 #[v] w fun e w' => ∃ u, e = .returned u ∧ RowOwn w' (fun P x u => ValOwn w' d P x u) (Fresh w w') u xs ∧ Below w.heap.size w w' := by
  obtain ⟨a, cap, rfl, hlen⟩ := hv.open'
  have hcopy := l1Copy_any d
  go_enter Tryz.func47, Tryz.ntmps47
  obtain ⟨W0, hW⟩ : ∃ W0, W0 = w.alloc (.cells #[] 26) := ⟨_, rfl⟩
  have hW0 : Below w.heap.size w W0 := by rw [hW]; exact below_alloc1 _ _
  have hstart : Hid (ValsTo (d := d) w.heap.size W0 (.slice (some ⟨w.heap.size, 0, none⟩) 0 0) xs 0 [] (fun _ _ => False)) := ⟨⟨rfl, Or.inr ⟨w.heap.size, 0, #[], rfl, Nat.le_refl _, by rw [hW]; exact heap_alloc_new _ _, Nat.le_refl _, Nat.zero_le _, rfl, rfl⟩⟩, fun j c hj => by omega, fun i j c hi => by omega, fun j x hj => by omega⟩
  have HW := hide hW
  clear hW
  go_wp2_with fail
  rw [← HW.out]
  clear HW
  go_loopw [3, 4] (fun lv i wr => ∃ (k : Nat) (vs : List Value) (P : Nat → Nat → Prop), k ≤ xs.length ∧ i = .int .i64 k ∧ Hid (ValsTo w.heap.size wr lv xs k vs P) ∧ Below w.heap.size w wr) (fun _ i _ => xs.length - (intOf i).toNat)
  case atStart => exact ⟨0, [], _, Nat.zero_le _, rfl, hstart, hW0⟩
  case round =>
    clear hstart
    obtain ⟨k, vs, P, hkk, rfl, hto, hbel⟩ := hrel
    by_cases hkl : k < xs.length
    · have hsame := hS.same hbel
      obtain ⟨eb, eo, x, c0, c1, c2, c3, c4, rfl, heS, hx, e0, e1, e2, e3, e4, hval⟩ := (hv.same hsame).cell hkl
      obtain ⟨q0, q1, q2, q3, q4, q5, q6, q7, q8, hq⟩ := hval.shape
      cases hq
      have HC := hide (hcopy S x _ wr hval (hS.later hbel.size) (hwt x (List.mem_of_getElem? hx)))
      have HX := hide hx
      have hki : (k : Int) < (xs.length : Int) := by omega
      have hNs : w.heap.size ≤ wr.heap.size := hbel.size
      clear hx hv hval hsame
      go_wp2_with fail
      refine Calls.mono HC.out ?_
      rintro e w1 ⟨u, rfl, hu, hb1⟩
      obtain ⟨v0, v1, v2, v3, v4, v5, v6, v7, v8, rfl⟩ := (ValOwn.at d _ _ _ hu).shape
      have hb2 := hide (below_trans hbel hb1)
      have hown1 := hide ((hto.out.own.kept (row := none) ⟨hb1.os, hb1.tape, hb1.output, hb1.size, fun i hi _ => hb1.block i hi⟩ (by cases u3.ownBlock <;> simp)).alloc (.cells #[.int .i64 v0, .int .i64 v1, .string v2, .slice v3 v4 v5, .slice v6 v7 v8] 26))
      have hN1 : w.heap.size ≤ w1.heap.size := hb2.out.size
      have hstep : Hid (∀ sv' w2, w2.ownsRow w.heap.size 26 5 sv' (k + 1) (vs ++ [.int .i64 v0, .int .i64 v1, .string v2, .slice v3 v4 v5, .slice v6 v7 v8]) → (w1.alloc (.cells #[.int .i64 v0, .int .i64 v1, .string v2, .slice v3 v4 v5, .slice v6 v7 v8] 26)).grownBy w2 (u3.ownBlock) →
          (sv'.ownBlock = u3.ownBlock ∨ sv'.ownBlock = some (w1.alloc (.cells #[.int .i64 v0, .int .i64 v1, .string v2, .slice v3 v4 v5, .slice v6 v7 v8] 26)).heap.size) →
          (∃ P', ValsTo w.heap.size w2 sv' xs (k + 1) (vs ++ [.int .i64 v0, .int .i64 v1, .string v2, .slice v3 v4 v5, .slice v6 v7 v8]) P') ∧ Below w.heap.size w w2) := by
        intro sv' w2 o1 o2 o3
        have hrow : ∀ g, u3.ownBlock = some g → w.heap.size ≤ g := fun g hg => (hto.out.own.lt g hg).1
        refine ⟨⟨_, hto.out.step hb1 HX.out hu o1 o2 o3 hNs⟩, ?_⟩
        have hb3 := hb2.out
        refine ⟨o2.os.trans hb3.os, o2.tape.trans hb3.tape, o2.output.trans hb3.output, Nat.le_trans hb3.size (Nat.le_trans (by simp) o2.size), fun i hi => ?_⟩
        exact ((o2.block i (by simp; omega) (fun e => by have := hrow i e.symm; omega)).trans (Below.heap_alloc _ _ _ (by omega))).trans (hb3.block i hi)
      obtain ⟨i0, hi, hz0, hz1, hz2⟩ := info_parts Tryz.infoVal
      clear hto hu hb1 hbel HC hb2
      go_wp2_with (at_builtin; refine wpList_append_own_at _ rfl _ _ 24 rfl w.heap.size 26 i0 zeroVal 5 80 Tryz.underlying24 hi hz0 hz1 hz2 rfl (by decide) _ _ _ rfl hown1.out ⟨w1.heap.size, 0, none⟩ 1 1 [.int .i64 v0, .int .i64 v1, .string v2, .slice v3 v4 v5, .slice v6 v7 v8] rfl rfl (cell_five_new _ _ _ _ _ _ _) ?c2 ?c3 ?c4 ?c5 ?_)
      case c2 => intro y hy; simp at hy; rcases hy with rfl | rfl | rfl | rfl | rfl <;> rfl
      case c3 => unfold maxLen; omega
      case c4 => omega
      case c5 => simp; omega
      · intro sv' w2 o1 o2 _ o3
        have HH := hide (hstep.out sv' w2 o1 o2 (by rw [World.size_alloc]; exact o3))
        clear o1 o2 o3 hstep hown1
        go_wp2_with fail
        go_roundw
        case rel =>
          obtain ⟨⟨P', hP'⟩, hB'⟩ := HH.out
          exact ⟨k + 1, _, P', by omega, by go_num, hP', hB'⟩
        case measure => simp [intOf]; omega
    · obtain rfl : k = xs.length := by omega
      have hdone := hide (hto.out.done (by omega))
      clear hto hv hwt
      go_wp2_with fail
      go_ret
      exact ⟨_, rfl, hdone.out, hbel⟩

/-- The parts of a tree, and whether there can be some. -/
def eachT (d : Nat) (t : Tr (d + 1)) : List (Tr d) × Bool := if okT (d + 1) t = true ∧ 5 ≤ Nd.kind t then (Nd.list t, true) else ([], false)
/-- What is asked of PartEach of the model, .. of the program. -/
def SpecRQ (d : Nat) (xs : List (Tr d)) (ok : Bool) (w : World) (e : Ending) (w' : World) : Prop :=
  ∃ v, e = .returned (.tuple #[v, .bool ok]) ∧ RowAt (Fresh w w') w' (ValAt (Fresh w w') w' d) v xs ∧ Below w.heap.size w w'
def TellRQ (d : Nat) (xs : List (Tr d)) (ok : Bool) (w : World) (e : Ending) (w' : World) : Prop :=
  ∃ v, e = .returned (.tuple #[v, .bool ok]) ∧ RowOwn w' (fun P x u => ValOwn w' d P x u) (Fresh w w') v xs ∧ Below w.heap.size w w'
theorem row_nil {d : Nat} (S : Nat → Prop) (w : World) (a : Option Addr) : RowAt S w (ValAt S w d) (.slice a 0 0) [] := ⟨by show (0 : Nat) < _; omega, a, 0, rfl, Or.inl rfl⟩
theorem rowOwn_at {d : Nat} {S : Nat → Prop} {w : World} {v : Value} {xs : List (Tr d)} (h : RowOwn w (fun P x u => ValOwn w d P x u) S v xs) : RowAt S w (ValAt S w d) v xs := by
  have h1 : ValOwn w (d + 1) S (Nd.mk 5 0 ByteArray.empty [] xs : Nd (Tr d)) (.agg #[.int .i64 5, .int .i64 0, .string ByteArray.empty, .slice none 0 0, v]) :=
    ⟨_, _, fun _ => False, S, rfl, ⟨by show _ ≤ (5 : Int); omega, by show (5 : Int) ≤ _; omega⟩, ⟨by show _ ≤ (0 : Int); omega, by show (0 : Int) ≤ _; omega⟩, by show ByteArray.empty.size < _; decide, ⟨by show (0 : Nat) < _; omega, fun s h => by (cases h), none, 0, rfl, Or.inl rfl⟩, h, fun _ h => h.elim, fun _ h => h, fun _ h => h.elim⟩
  obtain ⟨vk, vl, hv, _, _, _, _, hl⟩ := ValOwn.at _ _ _ _ h1
  cases hv
  exact hl

set_option maxRecDepth 100000 in
set_option maxHeartbeats 4000000 in
theorem specPartEach_any (d : Nat) (S : Nat → Prop) (t : Tr (d + 1)) (v : Value) (w : World) (hv : ValAt S w (d + 1) t v) (hS : Within S w) (hsm : (nodes (d + 1) t : Int) ≤ 4194304) :
    Calls Tryz.prog 20 #[v] w (SpecRQ d (eachT d t).1 (eachT d t).2 w) := by
  have hv0 := hv
  obtain ⟨vk, vl, rfl, i1, i2, i3, hk, hl⟩ := hv
  obtain ⟨ak, ck, rfl, hkl⟩ := hk.open'
  obtain ⟨al, cl, rfl, hll⟩ := hl.open'
  have hA := below_alloc1 w (.cells #[.int .i64 t.kind, .int .i64 t.num, .string t.str, .slice ak t.keys.length ck, .slice al t.list.length cl] 26)
  have k0 := Blk5.new w 26 (.int .i64 t.kind) (.int .i64 t.num) (.string t.str) (.slice ak t.keys.length ck) (.slice al t.list.length cl)
  go_enter Tryz.func20, Tryz.ntmps20
  go_wp2_with fail
  refine (specValOk_any (d + 1) S t _ _ (hv0.same (hS.same hA)) (hS.later hA.size) hsm).mono ?_
  rintro e w1 ⟨rfl, hb1⟩
  replace k0 := k0.below hb1
  have hB1 := below_trans hA hb1
  obtain ⟨x0, x1, x2, x3, x4⟩ := k0.cell
  have HB1 := hide hB1
  cases hf : okT (d + 1) t with
  | false =>
    have hz : Hid (eachT d t = ([], false)) := by
      show eachT d t = _
      rw [eachT, if_neg (by rw [hf]; simp)]
    clear k0 hB1 hb1 hA hv0 hl hk
    go_wp2_with fail
    rw [hz.out]
    go_ret2
    exact ⟨_, rfl, row_nil _ _ _, below_trans HB1.out (below_alloc1 _ _)⟩
  | true =>
    by_cases h5 : t.kind < 5
    · have hz : Hid (eachT d t = ([], false)) := by
        show eachT d t = _
        rw [eachT, if_neg (by intro h; have := h.2; omega)]
      clear k0 hB1 hb1 hA hv0 hl hk
      go_wp2_with fail
      rw [hz.out]
      go_ret2
      exact ⟨_, rfl, row_nil _ _ _, below_trans HB1.out (below_alloc1 _ _)⟩
    · have h5' : 5 ≤ t.kind := by omega
      have hz : Hid (eachT d t = (t.list, true)) := by
        show eachT d t = _
        rw [eachT, if_pos ⟨hf, h5'⟩]
      have hl60 := (okT_kinds hf).2.1
      have hcall := hide (l1All_any d S t.list _ w1 (hl.same (hS.same hB1)) (hS.later hB1.size) (Nat.le_trans hl60 (by omega)) (fun x hx => wt_part hx hf))
      have hsz := hB1.size
      clear k0 hB1 hb1 hA hv0 hl hk hl60
      go_wp2_with fail
      refine Calls.mono hcall.out ?_
      rintro e w2 ⟨u, rfl, hu, hb2⟩
      have HR := hide (rowOwn_at (hu.moved (Same.refl _ _) (S' := Fresh w w2) (fun b hb => ⟨by have := hb.1; omega, hb.2⟩) (fun P x u hP hx => hx)))
      have HB2 := hide (below_trans HB1.out hb2)
      clear hu hb2 hcall
      go_wp2_with fail
      rw [hz.out]
      go_ret2
      exact ⟨_, rfl, HR.out, HB2.out⟩
end Go.Proofs.YtgjahnkldobphaaGreatDoor

/- PartEach of the model : the answer owns its memory. -/
namespace Go.Proofs.YtgjahnkldobphaaGreatDoor
open Go.RowKit Go.Deep

set_option maxRecDepth 100000 in
set_option maxHeartbeats 4000000 in
theorem specPartEach_own (d : Nat) (S : Nat → Prop) (t : Tr (d + 1)) (v : Value) (w : World) (hv : ValAt S w (d + 1) t v) (hS : Within S w) (hsm : (nodes (d + 1) t : Int) ≤ 4194304) :
    Calls Tryz.prog 20 #[v] w (TellRQ d (eachT d t).1 (eachT d t).2 w) := by
  have hv0 := hv
  obtain ⟨vk, vl, rfl, i1, i2, i3, hk, hl⟩ := hv
  obtain ⟨ak, ck, rfl, hkl⟩ := hk.open'
  obtain ⟨al, cl, rfl, hll⟩ := hl.open'
  have hA := below_alloc1 w (.cells #[.int .i64 t.kind, .int .i64 t.num, .string t.str, .slice ak t.keys.length ck, .slice al t.list.length cl] 26)
  have k0 := Blk5.new w 26 (.int .i64 t.kind) (.int .i64 t.num) (.string t.str) (.slice ak t.keys.length ck) (.slice al t.list.length cl)
  go_enter Tryz.func20, Tryz.ntmps20
  go_wp2_with fail
  refine (specValOk_any (d + 1) S t _ _ (hv0.same (hS.same hA)) (hS.later hA.size) hsm).mono ?_
  rintro e w1 ⟨rfl, hb1⟩
  replace k0 := k0.below hb1
  have hB1 := below_trans hA hb1
  obtain ⟨x0, x1, x2, x3, x4⟩ := k0.cell
  have HB1 := hide hB1
  cases hf : okT (d + 1) t with
  | false =>
    have hz : Hid (eachT d t = ([], false)) := by
      show eachT d t = _
      rw [eachT, if_neg (by rw [hf]; simp)]
    clear k0 hB1 hb1 hA hv0 hl hk
    go_wp2_with fail
    rw [hz.out]
    go_ret2
    exact ⟨_, rfl, ⟨by show (0 : Nat) < _; omega, _, 0, rfl, Or.inl rfl⟩, below_trans HB1.out (below_alloc1 _ _)⟩
  | true =>
    by_cases h5 : t.kind < 5
    · have hz : Hid (eachT d t = ([], false)) := by
        show eachT d t = _
        rw [eachT, if_neg (by intro h; have := h.2; omega)]
      clear k0 hB1 hb1 hA hv0 hl hk
      go_wp2_with fail
      rw [hz.out]
      go_ret2
      exact ⟨_, rfl, ⟨by show (0 : Nat) < _; omega, _, 0, rfl, Or.inl rfl⟩, below_trans HB1.out (below_alloc1 _ _)⟩
    · have h5' : 5 ≤ t.kind := by omega
      have hz : Hid (eachT d t = (t.list, true)) := by
        show eachT d t = _
        rw [eachT, if_pos ⟨hf, h5'⟩]
      have hl60 := (okT_kinds hf).2.1
      have hcall := hide (l1All_any d S t.list _ w1 (hl.same (hS.same hB1)) (hS.later hB1.size) (Nat.le_trans hl60 (by omega)) (fun x hx => wt_part hx hf))
      have hsz := hB1.size
      clear k0 hB1 hb1 hA hv0 hl hk hl60
      go_wp2_with fail
      refine Calls.mono hcall.out ?_
      rintro e w2 ⟨u, rfl, hu, hb2⟩
      have HR := hide (hu.moved (Same.refl _ _) (S' := Fresh w w2) (fun b hb => ⟨by have := hb.1; omega, hb.2⟩) (fun P x u _ hx => hx))
      have HB2 := hide (below_trans HB1.out hb2)
      clear hu hb2 hcall
      go_wp2_with fail
      rw [hz.out]
      go_ret2
      exact ⟨_, rfl, HR.out, HB2.out⟩
end Go.Proofs.YtgjahnkldobphaaGreatDoor

/- PartGet of the program. -/
namespace Go.Proofs.YtgjahnkldobphaaGreatDoor
open Go.RowKit Go.Deep

set_option maxRecDepth 100000 in
set_option maxHeartbeats 4000000 in
theorem implPartGet_any (d : Nat) (S : Nat → Prop) (t : Tr (d + 2)) (v : Value) (s : ByteArray) (hs : s.size < 281474976710656) (w : World) (hv : ValAt S w (d + 2) t v) (hS : Within S w) (hg : ErrType w) :
    Calls Tryz.prog 13 #[v, .string s] w (TellQ d (partGetT d t s).1 (partGetT d t s).2 w) := by
  obtain ⟨k, n, z, ak, lk, ck, al, ll, cl, rfl⟩ := hv.shape
  obtain ⟨W0, hW⟩ : ∃ W0, W0 = (w.alloc (.cells #[.int .i64 k, .int .i64 n, .string z, .slice ak lk ck, .slice al ll cl] 26)).alloc (.cells #[.int .i64 0, .int .i64 0, .string { data := #[] }, .slice none 0 0, .slice none 0 0] 26) := ⟨_, rfl⟩
  have hW0 : Below w.heap.size w W0 := by rw [hW]; exact below_trans (below_alloc1 _ _) (below_alloc1 _ _)
  have k1 : Blk5 W0 (w.heap.size + 1) 26 (.int .i64 0) (.int .i64 0) (.string { data := #[] }) (.slice none 0 0) (.slice none 0 0) := by
    have := Blk5.new (w.alloc (.cells #[.int .i64 k, .int .i64 n, .string z, .slice ak lk ck, .slice al ll cl] 26)) 26 (.int .i64 0) (.int .i64 0) (.string { data := #[] }) (.slice none 0 0) (.slice none 0 0)
    rw [World.size_alloc] at this
    rw [hW]
    exact this
  have HW := hide hW
  clear hW
  go_enter Tryz.func13, Tryz.ntmps13
  go_wp2_with fail
  rw [← HW.out]
  clear HW
  refine (partsByKeys_any (d + 1) S t _ s hs W0 (hv.same (hS.same hW0)) (hS.later hW0.size)).mono ?_
  rintro e w1 ⟨hb1, hq⟩
  have hB1 := below_trans hW0 hb1
  have k2 := k1.below hb1
  have hg1 := hg.below hB1
  have hlt := k2.lt
  -- what is told, however it is
  have hfin : ∀ (w1' : World), Below w1.heap.size w1 w1' → ∀ (x : Tr (d + 1)) (ok : Bool), Hid (∀ e w2, TellQ d x ok w1' e w2 → ∃ v0 v1 v2 v3 v4 v5 v6 v7 v8, e = .returned (.tuple #[.agg #[.int .i64 v0, .int .i64 v1, .string v2, .slice v3 v4 v5, .slice v6 v7 v8], .bool ok]) ∧
      Blk5 w2 (w.heap.size + 1) 26 (.int .i64 0) (.int .i64 0) (.string { data := #[] }) (.slice none 0 0) (.slice none 0 0) ∧
      ∀ wF, wF = set5 w2 (w.heap.size + 1) 0 (.int .i64 v0) (.int .i64 v1) (.string v2) (.slice v3 v4 v5) (.slice v6 v7 v8) → ValOwn wF (d + 1) (Fresh w wF) x (.agg #[.int .i64 v0, .int .i64 v1, .string v2, .slice v3 v4 v5, .slice v6 v7 v8]) ∧ Below w.heap.size w wF) := fun w1' hb' x ok => by
    intro e w2 ⟨v, he, hv, hb2⟩
    obtain ⟨v0, v1, v2, v3, v4, v5, v6, v7, v8, rfl⟩ := (ValOwn.at _ _ _ _ hv).shape
    exact ⟨v0, v1, v2, v3, v4, v5, v6, v7, v8, he, (k2.below hb').below hb2, tell_end hv (below_trans (below_trans hB1 hb') hb2) (by omega) (Nat.lt_of_lt_of_le hlt hb'.size)⟩
  clear hv hW0 k1 k2
  rcases hq with ⟨keys, xs, r, es, ps, hrow, rfl, hma⟩ | ⟨hrow, why, rfl⟩
  · obtain ⟨hR, hxok⟩ := partGet_some hrow
    by_cases hin : s ∈ keys
    · obtain ⟨k', x, hk1, hk2, hk3⟩ := key_at hin hma.same
      have hmem : (s, x) ∈ ps := hma.perm.mem_iff.2 (List.mem_of_getElem? (by rw [List.getElem?_zip_eq_some]; exact ⟨hk1, hk2⟩ : (keys.zip xs)[k']? = some (s, x)))
      obtain ⟨j, u, hj1, hj2, hu, hj3⟩ := hma.ent.find (perm_nodup hma.perm hma.same hma.good) hmem
      obtain ⟨T, u', rfl⟩ := hu.iface
      have hlook := run_mapGet w1 r ps.length j es s _ j true hma.obj hj2 hj3
      have hxo := hxok x (List.mem_of_getElem? hk2)
      have HR : Hid (partGetT d t s = (toldT d x, okT (d + 1) x)) := by
        show partGetT d t s = _
        rw [hR, getL_at hk1 hk2 hk3, hxo, toldT, if_pos hxo]
        rfl
      have hcall := hide (told_tree d _ x _ w1 hu (Fresh.within _ _))
      clear hR hrow hma hxok hk1 hk2 hk3 hmem hj1 hj2 hj3 hu hin hxo
      rw [if_pos rfl] at hlook
      go_wp2_with fail
      refine Calls.mono hcall.out ?_
      intro e w2 hq
      obtain ⟨v0, v1, v2, v3, v4, v5, v6, v7, v8, rfl, k3, hF⟩ := (hfin w1 (Below.refl _ _) _ _).out e w2 hq
      have HF := hide hF
      obtain ⟨y0, y1, y2, y3, y4⟩ := k3.cell
      have yf := k3.frozen
      clear hF hq hfin hcall k3
      go_wp2_with fail
      refine bodyPost_ret (v := .tuple #[.agg #[.int .i64 v0, .int .i64 v1, .string v2, .slice v3 v4 v5, .slice v6 v7 v8], .bool (okT (d + 1) x)]) (by simp [results, Tryz.results13, go_sem, y0, y1, y2, y3, y4]) rfl ⟨_, by rw [HR.out], by rw [HR.out]; exact (HF.out _ rfl).1, (HF.out _ rfl).2⟩
    · have hlook := run_mapMiss w1 r ps.length es s hma.obj (hma.ent.miss (fun h => hin (by
        have h2 := (hma.perm.map Prod.fst).mem_iff.1 h
        rw [List.map_fst_zip (by have := hma.same; omega)] at h2
        exact h2)))
      have HR : Hid (partGetT d t s = (toldT d (zeroT d), okT (d + 1) (zeroT d))) := by
        show partGetT d t s = _
        rw [hR, getL_miss hin, okT_zero d, toldT, if_pos (okT_zero d)]
        rfl
      have hcall := hide (told_tree d (fun _ => False) (zeroT d) (.iface 69 (.agg #[.int .i64 0])) w1 (bareTree_at d _ _) (fun _ h => h.elim))
      clear hR hrow hma hxok hin
      go_wp2_with fail
      refine Calls.mono hcall.out ?_
      intro e w2 hq
      obtain ⟨v0, v1, v2, v3, v4, v5, v6, v7, v8, rfl, k3, hF⟩ := (hfin w1 (Below.refl _ _) _ _).out e w2 hq
      have HF := hide hF
      obtain ⟨y0, y1, y2, y3, y4⟩ := k3.cell
      have yf := k3.frozen
      clear hF hq hfin hcall k3
      go_wp2_with fail
      refine bodyPost_ret (v := .tuple #[.agg #[.int .i64 v0, .int .i64 v1, .string v2, .slice v3 v4 v5, .slice v6 v7 v8], .bool (okT (d + 1) (zeroT d))]) (by simp [results, Tryz.results13, go_sem, y0, y1, y2, y3, y4]) rfl ⟨_, by rw [HR.out], by rw [HR.out]; exact (HF.out _ rfl).1, (HF.out _ rfl).2⟩
  · have HR := hide (partGet_none hrow)
    have hcall := hide (told_fault d .nilIface why w1 hg1)
    unfold faultV
    clear hrow
    go_wp2_with fail
    refine Calls.mono hcall.out ?_
    intro e w2 hq
    obtain ⟨v0, v1, v2, v3, v4, v5, v6, v7, v8, rfl, k3, hF⟩ := (hfin w1 (Below.refl _ _) _ _).out e w2 hq
    have HF := hide hF
    obtain ⟨y0, y1, y2, y3, y4⟩ := k3.cell
    have yf := k3.frozen
    clear hF hq hfin hcall k3
    go_wp2_with fail
    refine bodyPost_ret (v := .tuple #[.agg #[.int .i64 v0, .int .i64 v1, .string v2, .slice v3 v4 v5, .slice v6 v7 v8], .bool false]) (by simp [results, Tryz.results13, go_sem, y0, y1, y2, y3, y4]) rfl ⟨_, by rw [HR.out], by rw [HR.out]; exact (HF.out _ rfl).1, (HF.out _ rfl).2⟩
end Go.Proofs.YtgjahnkldobphaaGreatDoor

/- PartKeys of the program. -/
namespace Go.Proofs.YtgjahnkldobphaaGreatDoor
open Go.RowKit Go.Deep

/-- A row of trees without parts. -/
theorem row1_of_own {d N : Nat} {S : Nat → Prop} {w' : World} {sv : Value} {xs : List (Tr d)} {vs : List Value} (h1 : w'.ownsRow N 59 1 sv xs.length vs) (hl : xs.length < 17592186044416) (hS : ∀ b, N ≤ b → b < w'.heap.size → S b)
    (h2 : ∀ (i : Nat) (x : Tr d) (u : Value), xs[i]? = some x → vs[i]? = some u → TreeG S w' d x u) : Row1At S w' (TreeG S w' d) sv xs := by
  refine ⟨hl, ?_⟩
  have hlen := h1.1
  rw [Nat.mul_one] at hlen
  rcases h1.2 with ⟨rfl, h0⟩ | ⟨g, cap, cur, rfl, hg, hh, _, _, _, _⟩
  · exact ⟨none, 0, by rw [h0], Or.inl (List.eq_nil_of_length_eq_zero h0)⟩
  · refine ⟨some ⟨g, 0, none⟩, cap, rfl, Or.inr ⟨g, 0, hS g hg (Array.getElem?_eq_some_iff.1 hh).1, rfl, fun i x hx => ?_⟩⟩
    have hi := (List.getElem?_eq_some_iff.1 hx).1
    have hvi : vs[i]? = some vs[i] := List.getElem?_eq_getElem (by omega)
    have hc := h1.cells (g := g) rfl i _ hvi
    have hadd : (⟨g, 0, none⟩ : Addr).add i = ⟨g, 0 + i, none⟩ := by unfold Addr.add; split <;> simp_all
    rw [hadd] at hc
    exact ⟨vs[i], hc, h2 i x _ hx hvi⟩
/-- Places, keys as the program's own trees. -/
def placeVs (k : Nat) : List Value := (List.range k).map (fun (i : Nat) => .iface 105 (.agg #[.int .i64 (i : Int)]))
def keyVs (ks : List ByteArray) : List Value := ks.map (fun s => .iface 107 (.agg #[.string s]))
theorem placeVs_succ (k : Nat) : placeVs (k + 1) = placeVs k ++ [.iface 105 (.agg #[.int .i64 (k : Int)])] := by
  simp [placeVs, List.range_succ]
theorem keyVs_succ (ks : List ByteArray) (k : Nat) (s : ByteArray) (h : ks[k]? = some s) : keyVs (ks.take (k + 1)) = keyVs (ks.take k) ++ [.iface 107 (.agg #[.string s])] := by
  rw [List.take_add_one, h]
  simp [keyVs]

/-- What withParts is asked to give. -/
def WithQ (d : Nat) (t : Tr (d + 1)) (w : World) (e : Ending) (w' : World) : Prop :=
  Below w.heap.size w w' ∧ ((okT (d + 1) t = true ∧ 5 ≤ Nd.kind t ∧ ∃ u, e = .returned (.tuple #[u, .nilIface]) ∧ TreeG (Fresh w w') w' (d + 1) t u) ∨ (¬ (okT (d + 1) t = true ∧ 5 ≤ Nd.kind t) ∧ ∃ why, e = .returned (.tuple #[.nilIface, faultV why])))

set_option maxRecDepth 100000 in
set_option maxHeartbeats 4000000 in
theorem withParts_any (d : Nat) (S : Nat → Prop) (t : Tr (d + 1)) (v : Value) (w : World) (hv : ValAt S w (d + 1) t v) (hS : Within S w) :
    Calls Tryz.prog 46 #[v] w (WithQ d t w) := by
  obtain ⟨k, n, s, ak, lk, ck, al, ll, cl, rfl⟩ := hv.shape
  have hA := below_alloc1 w (.cells #[.int .i64 k, .int .i64 n, .string s, .slice ak lk ck, .slice al ll cl] 26)
  have hAs := hA.size
  go_enter Tryz.func46, Tryz.ntmps46
  go_wp2_with fail
  refine (given_any (d + 1) S t _ _ (hv.same (hS.same hA)) (hS.later hA.size)).mono ?_
  rintro e w1 ⟨hb1, hq⟩
  have hB := below_trans hA hb1
  have hw1s := hb1.size
  clear hb1 hA hv
  have hfr : ∀ b, Fresh (w.alloc (.cells #[.int .i64 k, .int .i64 n, .string s, .slice ak lk ck, .slice al ll cl] 26)) w1 b → Fresh w w1 b := fun b hb => ⟨by have := hb.1; omega, hb.2⟩
  rcases hq with ⟨hok, u, rfl, hu⟩ | ⟨hok, why, rfl⟩
  · have HU := hide (hu.mono hfr)
    rcases hu with ⟨k', h1, rfl, rfl⟩ | ⟨n', h1, rfl, rfl⟩ | ⟨s', h1, rfl, rfl⟩ | ⟨xs, sv, h1, rfl, rfl, hr⟩ | ⟨keys, xs, ps, r, es, h1, h2, h3, h4, rfl, rfl, hr, hm, he⟩
    · have a3 := Tryz.asR_B
      have a4 := Tryz.asM_B
      have hq : Hid (¬ (okT (d + 1) (Nd.mk k' 0 ByteArray.empty [] [] : Nd (Tr d)) = true ∧ 5 ≤ k')) := fun h => by have := h.2; omega
      go_wp2_with fail
      go_ret2
      exact ⟨by first | exact hB | exact below_trans hB (below_alloc1 _ _) | exact below_trans hB (below_trans (below_alloc1 _ _) (below_alloc1 _ _)), Or.inr ⟨hq.out, _, rfl⟩⟩
    · have a3 := Tryz.asR_N
      have a4 := Tryz.asM_N
      have hq : Hid (¬ (okT (d + 1) (Nd.mk 3 n' ByteArray.empty [] [] : Nd (Tr d)) = true ∧ 5 ≤ (3 : Int))) := fun h => by have := h.2; omega
      go_wp2_with fail
      go_ret2
      exact ⟨by first | exact hB | exact below_trans hB (below_alloc1 _ _) | exact below_trans hB (below_trans (below_alloc1 _ _) (below_alloc1 _ _)), Or.inr ⟨hq.out, _, rfl⟩⟩
    · have a3 := Tryz.asR_S
      have a4 := Tryz.asM_S
      have hq : Hid (¬ (okT (d + 1) (Nd.mk 4 0 s' [] [] : Nd (Tr d)) = true ∧ 5 ≤ (4 : Int))) := fun h => by have := h.2; omega
      go_wp2_with fail
      go_ret2
      exact ⟨by first | exact hB | exact below_trans hB (below_alloc1 _ _) | exact below_trans hB (below_trans (below_alloc1 _ _) (below_alloc1 _ _)), Or.inr ⟨hq.out, _, rfl⟩⟩
    · have a3 := Tryz.asR_R
      have a4 := Tryz.asM_R
      clear hr
      go_wp2_with fail
      go_ret2
      exact ⟨hB, Or.inl ⟨hok, by show (5 : Int) ≤ 5; omega, _, rfl, HU.out⟩⟩
    · have a3 := Tryz.asR_M
      have a4 := Tryz.asM_M
      clear hr hm he h4 h3 h2
      go_wp2_with fail
      go_ret2
      exact ⟨hB, Or.inl ⟨hok, by show (5 : Int) ≤ 6; omega, _, rfl, HU.out⟩⟩
  · unfold faultV
    go_wp2_with fail
    go_ret2
    exact ⟨hB, Or.inr ⟨fun h => by (rw [hok] at h; cases h.1), why, rfl⟩⟩

/-- What keyRow is asked to give. -/
def KeyQ (d : Nat) (t : Tr (d + 2)) (w : World) (e : Ending) (w' : World) : Prop :=
  Below w.heap.size w w' ∧ ((okT (d + 2) t = true ∧ 5 ≤ Nd.kind t ∧ ∃ u, e = .returned (.tuple #[u, .nilIface]) ∧ TreeG (Fresh w w') w' (d + 2) (rowK d (keyTs d t)) u) ∨ (¬ (okT (d + 2) t = true ∧ 5 ≤ Nd.kind t) ∧ ∃ why, e = .returned (.tuple #[.nilIface, faultV why])))

set_option maxRecDepth 100000 in
set_option maxHeartbeats 4000000 in
theorem keyRow_any (d : Nat) (S : Nat → Prop) (t : Tr (d + 2)) (v : Value) (w : World) (hv : ValAt S w (d + 2) t v) (hS : Within S w) :
    Calls Tryz.prog 51 #[v] w (KeyQ d t w) := by
  obtain ⟨k, n, s, ak, lk, ck, al, ll, cl, rfl⟩ := hv.shape
  have hA := below_alloc1 w (.cells #[.int .i64 k, .int .i64 n, .string s, .slice ak lk ck, .slice al ll cl] 26)
  have hAs := hA.size
  go_enter Tryz.func51, Tryz.ntmps51
  go_wp2_with fail
  refine (withParts_any (d + 1) S t _ _ (hv.same (hS.same hA)) (hS.later hA.size)).mono ?_
  rintro e w1 ⟨hb1, hq⟩
  have hB := below_trans hA hb1
  have hw1s := hb1.size
  clear hb1 hA hv
  rcases hq with ⟨hok, h5, u, rfl, hu⟩ | ⟨hno, why, rfl⟩
  · have hl60 := okT_len hok
    rcases hu with ⟨k', h1, rfl, rfl⟩ | ⟨n', h1, rfl, rfl⟩ | ⟨s', h1, rfl, rfl⟩ | ⟨xs, sv, h1, rfl, rfl, hr⟩ | ⟨keys, xs, ps, r, es, h1, h2, h3, h4, rfl, rfl, hr, hm, he⟩
    · exact absurd (show (5 : Int) ≤ k' from h5) (by omega)
    · exact absurd (show (5 : Int) ≤ 3 from h5) (by omega)
    · exact absurd (show (5 : Int) ≤ 4 from h5) (by omega)
    · have a3 := Tryz.asR_R
      obtain ⟨sa, sc, rfl, _⟩ := hr.open'
      have hl60 : xs.length < 60 := hl60
      clear hr
      obtain ⟨W0, hW⟩ : ∃ W0, W0 = w1.alloc (.cells #[.slice sa xs.length sc] 102) := ⟨_, rfl⟩
      have hB0 : Below w.heap.size w W0 := by rw [hW]; exact below_trans hB (below_alloc1 _ _)
      have HW := hide hW
      have HB0 := hide hB0
      have hw0s := hB0.size
      clear hW hB hB0
      go_wp2_with fail
      rw [← HW.out]
      clear HW
      go_loopw [6, 27] (fun lv i wr => ∃ (k : Nat), k ≤ xs.length ∧ i = .int .i64 k ∧ Hid (wr.ownsRow W0.heap.size 59 1 lv k (placeVs k)) ∧ Below W0.heap.size W0 wr) (fun _ i _ => xs.length - (intOf i).toNat)
      case atStart => exact ⟨0, Nat.zero_le _, rfl, World.ownsRow_nil _ _ _ _, Below.refl _ _⟩
      case round =>
        obtain ⟨k, hkk, rfl, hto, hbel⟩ := hrel
        have hNs : W0.heap.size ≤ wr.heap.size := hbel.size
        by_cases hkl : k < xs.length
        · have hki : (k : Int) < (xs.length : Int) := by omega
          have hown1 := hide (hto.out.alloc (.cells #[.iface 105 (.agg #[.int .i64 (k : Int)])] 59))
          have hrow : ∀ g, u6.ownBlock = some g → W0.heap.size ≤ g := fun g hg => (hto.out.lt g hg).1
          have hstep : Hid (∀ sv' w2, w2.ownsRow W0.heap.size 59 1 sv' (k + 1) (placeVs k ++ [.iface 105 (.agg #[.int .i64 (k : Int)])]) → (wr.alloc (.cells #[.iface 105 (.agg #[.int .i64 (k : Int)])] 59)).grownBy w2 (u6.ownBlock) →
              w2.ownsRow W0.heap.size 59 1 sv' (k + 1) (placeVs (k + 1)) ∧ Below W0.heap.size W0 w2) := by
            intro sv' w2 o1 o2
            refine ⟨by rw [placeVs_succ]; exact o1, ?_⟩
            refine ⟨o2.os.trans hbel.os, o2.tape.trans hbel.tape, o2.output.trans hbel.output, Nat.le_trans hbel.size (Nat.le_trans (by simp) o2.size), fun i hi => ?_⟩
            exact ((o2.block i (by simp; omega) (fun e => by have := hrow i e.symm; omega)).trans (Below.heap_alloc _ _ _ (by omega))).trans (hbel.block i hi)
          obtain ⟨i0, hi, hz0, hz1, hz2⟩ := info_parts Tryz.infoTree
          clear hto hbel hrow
          go_wp2_with (at_builtin; refine wpList_append_own_at _ rfl _ _ 72 rfl W0.heap.size 59 i0 .nilIface 1 16 Tryz.underlying72 hi hz0 hz1 hz2 rfl (by decide) _ _ _ rfl hown1.out ⟨wr.heap.size, 0, none⟩ 1 1 [.iface 105 (.agg #[.int .i64 (k : Int)])] rfl rfl (cell_one_new _ _ _) ?c2 ?c3 ?c4 ?c5 ?_)
          case c2 => intro y hy; simp at hy; subst hy; rfl
          case c3 => unfold maxLen; omega
          case c4 => omega
          case c5 => simp; omega
          · intro sv' w2 o1 o2 _ o3
            have HH := hide (hstep.out sv' w2 o1 o2)
            clear o1 o2 o3 hstep hown1
            go_wp2_with fail
            go_roundw
            case rel => exact ⟨k + 1, by omega, by go_num, HH.out.1, HH.out.2⟩
            case measure => simp [intOf]; omega
        · obtain rfl : k = xs.length := by omega
          have hBF := below_trans HB0.out hbel
          have hrow1 : Hid (Row1At (Fresh w wr) wr (TreeG (Fresh w wr) wr (d + 1)) u6 (placesT d xs.length)) := by
            refine row1_of_own (by rw [places_len]; exact hto.out) (by rw [places_len]; omega) (fun b h1 h2 => ⟨by omega, h2⟩) (fun i x u hx hu => ?_)
            have hi := (List.getElem?_eq_some_iff.1 hx).1
            rw [places_len] at hi
            rw [places_at d xs.length i hi] at hx
            have h9 : (placeVs xs.length)[i]? = some (.iface 105 (.agg #[.int .i64 (i : Int)])) := by simp [placeVs, hi]
            rw [h9] at hu
            cases hx
            cases hu
            exact numTree_at d i ⟨by omega, by omega⟩ _ _
          obtain ⟨la, lc, rfl, _⟩ := hrow1.out.open'
          have HBF := hide hBF
          have hkt : Hid (keyTs d (Nd.mk 5 0 ByteArray.empty [] xs : Nd (Tr (d + 1))) = placesT d xs.length) := by
            show (if (5 : Int) = 5 then _ else _) = _
            rw [if_pos rfl]
          clear hto hbel hBF
          go_wp2_with fail
          go_ret2
          refine ⟨HBF.out, Or.inl ⟨hok, h5, _, rfl, ?_⟩⟩
          rw [hkt.out]
          exact Or.inr (Or.inr (Or.inr (Or.inl ⟨placesT d xs.length, _, by rw [places_len]; omega, rfl, rfl, hrow1.out⟩)))
    · have a3 := Tryz.asR_M
      have a4 := Tryz.asM_M
      have hl60 : xs.length < 60 := hl60
      have hA1 := below_alloc1 w1 (.cells #[.map (some r)] 63)
      have hwin := (Fresh.within (w.alloc (.cells #[.int .i64 k, .int .i64 n, .string s, .slice ak lk ck, .slice al ll cl] 26)) w1)
      have hsame := hwin.same hA1
      have hkc := hide (keys_any (Fresh (w.alloc (.cells #[.int .i64 k, .int .i64 n, .string s, .slice ak lk ck, .slice al ll cl] 26)) w1) (TreeG _ _ (d + 1)) ps keys xs r es (w1.alloc (.cells #[.map (some r)] 63)) hr ((hsame r hr).trans hm) (he.moved (fun x u hx => TreeG.moved hsame (fun _ h => h) (d + 1) x u hx)) (hwin.later hA1.size) h4 h3 h2 h1)
      have HKL := hide h3
      have HKB := hide h2
      have hB1 := below_trans hB hA1
      clear hr hm he h4 h3 h2 hsame hA1 hwin hB
      go_wp2_with fail
      refine Calls.mono hkc.out ?_
      rintro e w2 ⟨u, rfl, hu2, hb2⟩
      obtain ⟨ua, uc, rfl, hul⟩ := hu2.open'
      have hB2 := below_trans hB1 hb2
      have hsa := StrsOwn.at hu2
      have hsW := Fresh.within (w1.alloc (.cells #[.map (some r)] 63)) w2
      have HB2 := hide hB2
      have hw2s := hB2.size
      have hk60 : keys.length < 60 := by have := HKL.out; omega
      clear hb2 hB1 hkc hu2 hB2 HKL
      go_wp2_with fail
      go_loopw [6, 43] (fun lv i wr => ∃ (k : Nat), k ≤ keys.length ∧ i = .int .i64 k ∧ Hid (wr.ownsRow w2.heap.size 59 1 lv k (keyVs (keys.take k))) ∧ Below w2.heap.size w2 wr) (fun _ i _ => keys.length - (intOf i).toNat)
      case atStart => exact ⟨0, Nat.zero_le _, rfl, World.ownsRow_nil _ _ _ _, Below.refl _ _⟩
      case round =>
        obtain ⟨k, hkk, rfl, hto, hbel⟩ := hrel
        have hNs : w2.heap.size ≤ wr.heap.size := hbel.size
        by_cases hkl : k < keys.length
        · have hki : (k : Int) < (keys.length : Int) := by omega
          obtain ⟨b, o, s', rfl, _, hs', _, hck⟩ := (hsa.same (hsW.same hbel)).cell hkl
          have hown1 := hide (hto.out.alloc (.cells #[.iface 107 (.agg #[.string s'])] 59))
          have hrow : ∀ g, u6.ownBlock = some g → w2.heap.size ≤ g := fun g hg => (hto.out.lt g hg).1
          have hstep : Hid (∀ sv' w3, w3.ownsRow w2.heap.size 59 1 sv' (k + 1) (keyVs (keys.take k) ++ [.iface 107 (.agg #[.string s'])]) → (wr.alloc (.cells #[.iface 107 (.agg #[.string s'])] 59)).grownBy w3 (u6.ownBlock) →
              w3.ownsRow w2.heap.size 59 1 sv' (k + 1) (keyVs (keys.take (k + 1))) ∧ Below w2.heap.size w2 w3) := by
            intro sv' w3 o1 o2
            refine ⟨by rw [keyVs_succ keys k s' hs']; exact o1, ?_⟩
            refine ⟨o2.os.trans hbel.os, o2.tape.trans hbel.tape, o2.output.trans hbel.output, Nat.le_trans hbel.size (Nat.le_trans (by simp) o2.size), fun i hi => ?_⟩
            exact ((o2.block i (by simp; omega) (fun e => by have := hrow i e.symm; omega)).trans (Below.heap_alloc _ _ _ (by omega))).trans (hbel.block i hi)
          obtain ⟨i0, hi, hz0, hz1, hz2⟩ := info_parts Tryz.infoTree
          clear hto hbel hrow hsa hs'
          go_wp2_with (at_builtin; refine wpList_append_own_at _ rfl _ _ 72 rfl w2.heap.size 59 i0 .nilIface 1 16 Tryz.underlying72 hi hz0 hz1 hz2 rfl (by decide) _ _ _ rfl hown1.out ⟨wr.heap.size, 0, none⟩ 1 1 [.iface 107 (.agg #[.string s'])] rfl rfl (cell_one_new _ _ _) ?c2 ?c3 ?c4 ?c5 ?_)
          case c2 => intro y hy; simp at hy; subst hy; rfl
          case c3 => unfold maxLen; omega
          case c4 => omega
          case c5 => simp; omega
          · intro sv' w3 o1 o2 _ o3
            have HH := hide (hstep.out sv' w3 o1 o2)
            clear o1 o2 o3 hstep hown1
            go_wp2_with fail
            go_roundw
            case rel => exact ⟨k + 1, by omega, by go_num, HH.out.1, HH.out.2⟩
            case measure => simp [intOf]; omega
        · obtain rfl : k = keys.length := by omega
          have hBF := below_trans HB2.out hbel
          have hrow1 : Hid (Row1At (Fresh w wr) wr (TreeG (Fresh w wr) wr (d + 1)) u6 (keys.map (strT d))) := by
            have h8 := hto.out
            rw [List.take_of_length_le (Nat.le_refl _)] at h8
            refine row1_of_own (by rw [List.length_map]; exact h8) (by rw [List.length_map]; omega) (fun b h1 h2 => ⟨by omega, h2⟩) (fun i x u hx hu => ?_)
            rw [List.getElem?_map] at hx
            unfold keyVs at hu
            rw [List.getElem?_map] at hu
            cases hki : keys[i]? with
            | none => rw [hki] at hx; cases hx
            | some q =>
              rw [hki] at hx hu
              cases hx
              cases hu
              exact Or.inr (Or.inr (Or.inl ⟨q, by have := strOk_size (keysB_strOk keys none HKB.out q (List.mem_of_getElem? hki)); omega, rfl, rfl⟩))
          obtain ⟨la, lc, rfl, _⟩ := hrow1.out.open'
          have HBF := hide hBF
          have hkt : Hid (keyTs d (Nd.mk 6 0 ByteArray.empty keys xs : Nd (Tr (d + 1))) = keys.map (strT d)) := by
            show (if (6 : Int) = 5 then _ else _) = _
            rw [if_neg (by omega)]
          clear hto hbel hBF hsa
          go_wp2_with fail
          go_ret2
          refine ⟨HBF.out, Or.inl ⟨hok, h5, _, rfl, ?_⟩⟩
          rw [hkt.out]
          have h7 := hrow1.out
          rw [List.length_map] at h7
          exact Or.inr (Or.inr (Or.inr (Or.inl ⟨keys.map (strT d), _, by rw [List.length_map]; omega, rfl, rfl, h7⟩)))
  · unfold faultV
    go_wp2_with fail
    go_ret2
    exact ⟨hB, Or.inr ⟨hno, why, rfl⟩⟩

set_option maxRecDepth 100000 in
set_option maxHeartbeats 4000000 in
theorem implPartKeys_any (d : Nat) (S : Nat → Prop) (t : Tr (d + 2)) (v : Value) (w : World) (hv : ValAt S w (d + 2) t v) (hS : Within S w) (hg : ErrType w) :
    Calls Tryz.prog 23 #[v] w (TellQ (d + 1) (partKeysT d t).1 (partKeysT d t).2 w) := by
  obtain ⟨k, n, s, ak, lk, ck, al, ll, cl, rfl⟩ := hv.shape
  obtain ⟨W0, hW⟩ : ∃ W0, W0 = (w.alloc (.cells #[.int .i64 k, .int .i64 n, .string s, .slice ak lk ck, .slice al ll cl] 26)).alloc (.cells #[.int .i64 0, .int .i64 0, .string { data := #[] }, .slice none 0 0, .slice none 0 0] 26) := ⟨_, rfl⟩
  have hW0 : Below w.heap.size w W0 := by rw [hW]; exact below_trans (below_alloc1 _ _) (below_alloc1 _ _)
  have k1 : Blk5 W0 (w.heap.size + 1) 26 (.int .i64 0) (.int .i64 0) (.string { data := #[] }) (.slice none 0 0) (.slice none 0 0) := by
    have := Blk5.new (w.alloc (.cells #[.int .i64 k, .int .i64 n, .string s, .slice ak lk ck, .slice al ll cl] 26)) 26 (.int .i64 0) (.int .i64 0) (.string { data := #[] }) (.slice none 0 0) (.slice none 0 0)
    rw [World.size_alloc] at this
    rw [hW]
    exact this
  have HW := hide hW
  clear hW
  go_enter Tryz.func23, Tryz.ntmps23
  go_wp2_with fail
  rw [← HW.out]
  clear HW
  refine (keyRow_any d S t _ W0 (hv.same (hS.same hW0)) (hS.later hW0.size)).mono ?_
  rintro e w1 ⟨hb1, hq⟩
  have hB1 := below_trans hW0 hb1
  have k2 := k1.below hb1
  have hg1 := hg.below hB1
  have hlt := k2.lt
  -- what is told, however it is
  have hfin : ∀ (w1' : World), Below w1.heap.size w1 w1' → ∀ (x : Tr (d + 2)) (ok : Bool), Hid (∀ e w2, TellQ (d + 1) x ok w1' e w2 → ∃ v0 v1 v2 v3 v4 v5 v6 v7 v8, e = .returned (.tuple #[.agg #[.int .i64 v0, .int .i64 v1, .string v2, .slice v3 v4 v5, .slice v6 v7 v8], .bool ok]) ∧
      Blk5 w2 (w.heap.size + 1) 26 (.int .i64 0) (.int .i64 0) (.string { data := #[] }) (.slice none 0 0) (.slice none 0 0) ∧
      ∀ wF, wF = set5 w2 (w.heap.size + 1) 0 (.int .i64 v0) (.int .i64 v1) (.string v2) (.slice v3 v4 v5) (.slice v6 v7 v8) → ValOwn wF (d + 2) (Fresh w wF) x (.agg #[.int .i64 v0, .int .i64 v1, .string v2, .slice v3 v4 v5, .slice v6 v7 v8]) ∧ Below w.heap.size w wF) := fun w1' hb' x ok => by
    intro e w2 ⟨v, he, hv, hb2⟩
    obtain ⟨v0, v1, v2, v3, v4, v5, v6, v7, v8, rfl⟩ := (ValOwn.at _ _ _ _ hv).shape
    exact ⟨v0, v1, v2, v3, v4, v5, v6, v7, v8, he, (k2.below hb').below hb2, tell_end hv (below_trans (below_trans hB1 hb') hb2) (by omega) (Nat.lt_of_lt_of_le hlt hb'.size)⟩
  clear hv hW0 k1 k2
  rcases hq with ⟨hok, h5, u, rfl, hu⟩ | ⟨hno, why, rfl⟩
  · have hxo : okT (d + 2) (rowK d (keyTs d t)) = true := by
      have := okT_partKeys d t
      rw [partKeysT, if_pos ⟨hok, h5⟩] at this
      exact this
    obtain ⟨T, u', rfl⟩ := hu.iface
    have HR : Hid (partKeysT d t = (toldT (d + 1) (rowK d (keyTs d t)), okT (d + 2) (rowK d (keyTs d t)))) := by
      show partKeysT d t = _
      rw [partKeysT, if_pos ⟨hok, h5⟩, hxo, toldT, if_pos hxo]
    have hcall := hide (told_tree (d + 1) _ (rowK d (keyTs d t)) _ w1 hu (Fresh.within _ _))
    clear hxo hu hok h5
    go_wp2_with fail
    refine Calls.mono hcall.out ?_
    intro e w2 hq
    obtain ⟨v0, v1, v2, v3, v4, v5, v6, v7, v8, rfl, k3, hF⟩ := (hfin w1 (Below.refl _ _) _ _).out e w2 hq
    have HF := hide hF
    obtain ⟨y0, y1, y2, y3, y4⟩ := k3.cell
    have yf := k3.frozen
    clear hF hq hfin hcall k3
    go_wp2_with fail
    refine bodyPost_ret (v := .tuple #[.agg #[.int .i64 v0, .int .i64 v1, .string v2, .slice v3 v4 v5, .slice v6 v7 v8], .bool (okT (d + 2) (rowK d (keyTs d t)))]) (by simp [results, Tryz.results23, go_sem, y0, y1, y2, y3, y4]) rfl ⟨_, by rw [HR.out], by rw [HR.out]; exact (HF.out _ rfl).1, (HF.out _ rfl).2⟩
  · have HR : Hid (partKeysT d t = (zeroT (d + 1), false)) := by
      show partKeysT d t = _
      rw [partKeysT, if_neg hno]
    have hcall := hide (told_fault (d + 1) .nilIface why w1 hg1)
    unfold faultV
    clear hno
    go_wp2_with fail
    refine Calls.mono hcall.out ?_
    intro e w2 hq
    obtain ⟨v0, v1, v2, v3, v4, v5, v6, v7, v8, rfl, k3, hF⟩ := (hfin w1 (Below.refl _ _) _ _).out e w2 hq
    have HF := hide hF
    obtain ⟨y0, y1, y2, y3, y4⟩ := k3.cell
    have yf := k3.frozen
    clear hF hq hfin hcall k3
    go_wp2_with fail
    refine bodyPost_ret (v := .tuple #[.agg #[.int .i64 v0, .int .i64 v1, .string v2, .slice v3 v4 v5, .slice v6 v7 v8], .bool false]) (by simp [results, Tryz.results23, go_sem, y0, y1, y2, y3, y4]) rfl ⟨_, by rw [HR.out], by rw [HR.out]; exact (HF.out _ rfl).1, (HF.out _ rfl).2⟩
end Go.Proofs.YtgjahnkldobphaaGreatDoor
