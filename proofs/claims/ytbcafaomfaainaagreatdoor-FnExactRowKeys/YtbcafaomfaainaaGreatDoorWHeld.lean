/- heldStringS, heldValS, heldVal: the marks are there. -/
import Derived.Test.YtbcafaomfaainaaGreatDoorWMark
import Derived.Test.YtbcafaomfaainaaGreatDoorWImplB
namespace Go.Proofs.YtbcafaomfaainaaGreatDoor
open Go.RowKit Go.Deep

theorem ext_cell {W : World} {b o : Nat} {u : Value} (h : W.cell? ⟨b, o, none⟩ = some u) (n : Ext W) : n.now.cell? ⟨b, o, none⟩ = some u :=
  (n.from_.cell (p := ⟨b, o, none⟩) (World.block_lt_of_cell? W _ h)).trans h

set_option maxRecDepth 100000 in
set_option maxHeartbeats 1000000 in
theorem heldStringS_any (S : Nat → Prop) (ss : List ByteArray) (v : Value) (k : Nat) (w : World) (hv : StrsAt S w v ss) (hS : Within S w) (hmk : ∀ i s, ss[i]? = some s → s = mt (k + i)) (h0 : 1 ≤ k) (h1 : k + ss.length ≤ 1099511627776) :
    Calls Tryz.prog 24 #[v, .int .i64 (k : Int)] w fun e w' => e = .returned (.int .i64 ((k + ss.length : Nat) : Int)) ∧ Below w.heap.size w w' := by
  obtain ⟨a, cap, rfl, hlen⟩ := hv.open'
  have HM := hide hmk
  clear hmk
  go_enter Tryz.func24, Tryz.ntmps24
  go_wp2_with fail
  go_loopw [1, 5] (fun kk i wr => ∃ (m : Nat), m ≤ ss.length ∧ i = .int .i64 (m : Int) ∧ kk = .int .i64 ((k + m : Nat) : Int) ∧ Below w.heap.size w wr) (fun _ i _ => ss.length - (intOf i).toNat)
  case atStart => exact ⟨0, Nat.zero_le _, rfl, rfl, Below.refl _ _⟩
  case round =>
    obtain ⟨m, hm, rfl, rfl, hbel⟩ := hrel
    by_cases hml : m < ss.length
    · obtain ⟨b, o, s, rfl, _, hs, _, hck⟩ := (hv.same (hS.same hbel)).cell hml
      obtain rfl := HM.out m s hs
      have hki : (m : Int) < (ss.length : Int) := by omega
      have hq : ((mt (k + m)).toList == (mt (k + m)).toList) = true := by simp
      have y := fun n => ext_cell hck n
      have hne := Ext.some wr
      clear hs hv
      go_wp2_with fail
      refine wp_region_ext (by kernel_rfl) (by kernel_rfl) ?_
      repeat (first | go_big_quiet_step ((go_at_call 31; rw [show ((k : Int) + (m : Int)) = ((k + m : Nat) : Int) by omega]; exact Calls.ext_of (markText_any (k + m) _ (by omega) (by omega)))) | quiet_step ((go_at_call 31; rw [show ((k : Int) + (m : Int)) = ((k + m : Nat) : Int) by omega]; exact Calls.ext_of (markText_any (k + m) _ (by omega) (by omega)))))
      refine wpQuiet_nil ?_
      rintro _ ⟨n, rfl⟩
      have hb2 := hide (below_trans hbel n.from_)
      clear y
      go_wp2_with fail
      go_roundw
      case rel => exact ⟨m + 1, by omega, by go_num, by go_num, hb2.out⟩
      case measure => simp [intOf]; omega
    · obtain rfl : m = ss.length := by omega
      go_wp2_with fail
      go_ret
      exact ⟨rfl, hbel⟩

/-- What heldValS does with trees of this depth that have marks. -/
def HeldVals (d : Nat) : Prop := ∀ (S : Nat → Prop) (xs : List (Tr d)) (v : Value) (k : Nat) (w : World), RowAt S w (ValAt S w d) v (markL (markT d) xs k).1 → Within S w → 1 ≤ k → k + (xs.map (wtT d)).sum ≤ 1099511627776 →
    Calls Tryz.prog 25 #[v, .int .i64 (k : Int)] w fun e w' => e = .returned (.int .i64 (((markL (markT d) xs k).2 : Nat) : Int)) ∧ Below w.heap.size w w'

set_option maxRecDepth 100000 in
set_option maxHeartbeats 1000000 in
theorem heldValS_nil (d : Nat) (a : Option Addr) (cap k : Nat) (w : World) :
    Calls Tryz.prog 25 #[.slice a 0 cap, .int .i64 (k : Int)] w fun e w' => e = .returned (.int .i64 (((markL (markT d) [] k).2 : Nat) : Int)) ∧ Below w.heap.size w w' := by
  go_enter Tryz.func25, Tryz.ntmps25
  go_wp2_with fail
  go_loopw [1, 5] (fun kk i wr => kk = .int .i64 (k : Int) ∧ i = .int .i64 0 ∧ wr = w) (fun _ _ _ => 0)
  case atStart => exact ⟨rfl, rfl, rfl⟩
  case round =>
    obtain ⟨rfl, rfl, rfl⟩ := hrel
    go_wp2_with fail
    go_ret
    exact ⟨rfl, Below.refl _ _⟩

set_option maxRecDepth 100000 in
set_option maxHeartbeats 1000000 in
theorem heldValS_any : ∀ (d : Nat), HeldVals d
  | 0 => by
    intro S xs v k w hv hS h0 h1
    cases xs with
    | nil =>
      obtain ⟨a, cap, rfl, _⟩ := hv.open'
      exact heldValS_nil 0 a cap k w
    | cons x r => exact Empty.elim x
  | d + 1 => by
    intro S xs v k w hv hS h0 h1
    have ih := heldValS_any d
    obtain ⟨a, cap, rfl, hlen⟩ := hv.open'
    rw [markL_length] at hlen ⊢
    rw [markL_length] at hv
    go_enter Tryz.func25, Tryz.ntmps25
    go_wp2_with fail
    go_loopw [1, 5] (fun kk i wr => ∃ (m : Nat), m ≤ xs.length ∧ i = .int .i64 (m : Int) ∧ kk = .int .i64 ((markTo (markT (d + 1)) xs k m : Nat) : Int) ∧ Below w.heap.size w wr) (fun _ i _ => xs.length - (intOf i).toNat)
    case atStart => exact ⟨0, Nat.zero_le _, rfl, by rw [markTo_zero], Below.refl _ _⟩
    case round =>
      obtain ⟨m, hm, rfl, rfl, hbel⟩ := hrel
      by_cases hml : m < xs.length
      · obtain ⟨x, hx⟩ : ∃ x, xs[m]? = some x := ⟨xs[m], List.getElem?_eq_getElem hml⟩
        obtain ⟨b, o, y, c0, c1, c2, c3, c4, rfl, _, hy, e0, e1, e2, e3, e4, hval⟩ := (hv.same (hS.same hbel)).cell (k := m) (by rw [markL_length]; exact hml)
        rw [markL_get (markT (d + 1)) xs k m x hx] at hy
        cases hy
        have hst := markTo_step (markT (d + 1)) xs k m x hx
        rw [markT_to] at hst
        have hks := markTo_le xs k (m + 1)
        have hkl := markTo_le xs k m
        generalize hK : markTo (markT (d + 1)) xs k m = K at *
        obtain ⟨vk, vl, hag, _, _, _, hk, hl⟩ := hval
        have hk' : StrsAt S wr vk (markStrs x.keys (K + 3)) := hk
        have hl' : RowAt S wr (ValAt S wr d) vl (markL (markT d) x.list (K + 3 + x.keys.length)).1 := hl
        obtain ⟨ak, ck, rfl, hkn⟩ := hk'.open'
        obtain ⟨al, cl, rfl, hln⟩ := hl'.open'
        rw [markStrs_length] at hkn
        rw [markL_length] at hln
        rw [wtT] at hst
        have hb3 : K + 3 + x.keys.length + (x.list.map (wtT d)).sum ≤ 1099511627776 := by omega
        have f0 : c0 = .int .i64 (K : Int) ∧ c1 = .int .i64 ((K : Int) + 1) ∧ c2 = .string (mt (K + 2)) ∧ c3 = .slice ak x.keys.length ck ∧ c4 = .slice al x.list.length cl := by
          simp only [Value.agg.injEq, Array.mk.injEq, List.cons.injEq, and_true] at hag
          rw [markStrs_length, markL_length] at hag
          exact hag
        obtain ⟨rfl, rfl, rfl, rfl, rfl⟩ := f0
        rw [markStrs_length] at hk'
        rw [markL_length] at hl'
        have HST := hide hst
        have HK := hide hK
        have HKL := hide hkl
        have q0 : ((K : Int) != (K : Int)) = false := by simp
        have q1 : ((K : Int) + 1 != (K : Int) + 1) = false := by simp
        have q2 : ((mt (K + 2)).toList == (mt (K + 2)).toList) = true := by simp
        have hki : (m : Int) < (xs.length : Int) := by omega
        clear hag hk hl hst hK hks hkl hx
        go_wp2_with fail
        have y2 := fun n => ext_cell e2 n
        have hne := Ext.some wr
        refine wp_region_ext (by kernel_rfl) (by kernel_rfl) ?_
        repeat (first | go_big_quiet_step ((go_at_call 31; rw [show ((K : Int) + 1 + 1) = ((K + 2 : Nat) : Int) by omega]; exact Calls.ext_of (markText_any (K + 2) _ (by omega) (by omega)))) | quiet_step ((go_at_call 31; rw [show ((K : Int) + 1 + 1) = ((K + 2 : Nat) : Int) by omega]; exact Calls.ext_of (markText_any (K + 2) _ (by omega) (by omega)))))
        refine wpQuiet_nil ?_
        rintro _ ⟨n, rfl⟩
        have hb2 := below_trans hbel n.from_
        have e3' := ext_cell e3 n
        have e4' := ext_cell e4 n
        have hW := hS.later hb2.size
        have hbs : Same S wr n.now := (hS.later hbel.size).same n.from_
        have hk2 := hk'.same hbs
        have hl2 := hl'.same hbs
        generalize n.now = w2 at *
        have HV := hide hv
        clear y2 hbs hk' hl' e0 e1 e2 e3 e4 q0 q1 q2 hbel hv hne n
        go_wp2_with fail
        rw [show ((K : Int) + 1 + 1 + 1) = ((K + 3 : Nat) : Int) by omega]
        refine (heldStringS_any S (markStrs x.keys (K + 3)) _ (K + 3) w2 hk2 hW (markStrs_get x.keys (K + 3)) (by omega) (by rw [markStrs_length]; omega)).mono ?_
        rintro e w3 ⟨rfl, hb3'⟩
        rw [markStrs_length]
        have e4'' := (hb3'.cell (p := ⟨b, o + m * 5 + 4, none⟩) (World.block_lt_of_cell? w2 _ e4')).trans e4'
        have hl3 := hl2.same (hW.same hb3')
        have hW3 := hW.later hb3'.size
        have HB3 := hide (below_trans hb2 hb3')
        have hnn : ¬ ((K : Int) + 3 + (x.keys.length : Int) < 0) := by omega
        clear e3' e4' hb3' hb2 hk2 hl2 hW
        go_wp2_with fail
        rw [show ((K : Int) + 3 + (x.keys.length : Int)) = ((K + 3 + x.keys.length : Nat) : Int) by omega]
        refine (ih S x.list _ (K + 3 + x.keys.length) w3 hl3 hW3 (by omega) (by omega)).mono ?_
        rintro e w4 ⟨rfl, hb4⟩
        have HB4 := hide (below_trans HB3.out hb4)
        have HM : Hid ((markL (markT d) x.list (K + 3 + x.keys.length)).2 = markTo (markT (d + 1)) xs k (m + 1)) := by
          show _ = _
          rw [markL_to (markT_to d), HST.out]
          omega
        rw [HM.out]
        have hnn2 : ¬ (((markTo (markT (d + 1)) xs k (m + 1) : Nat) : Int) < 0) := by omega
        clear hb4 hl3 hW3 e4'' HB3
        go_wp2_with fail
        go_roundw
        case rel => exact ⟨m + 1, by omega, by go_num, rfl, HB4.out⟩
        case measure => simp [intOf]; omega
      · obtain rfl : m = xs.length := by omega
        have HM : Hid (markTo (markT (d + 1)) xs k xs.length = (markL (markT (d + 1)) xs k).2) := markTo_all _ _ _
        rw [HM.out]
        go_wp2_with fail
        go_ret
        exact ⟨rfl, hbel⟩

set_option maxRecDepth 100000 in
set_option maxHeartbeats 1000000 in
theorem heldVal_any (d : Nat) (S : Nat → Prop) (t : Tr (d + 1)) (v : Value) (k : Nat) (w : World) (hv : ValAt S w (d + 1) (markTop d t k).1 v) (hS : Within S w) (h0 : 1 ≤ k) (h1 : k + (wtT (d + 1) t) ≤ 1099511627776) :
    Calls Tryz.prog 10 #[v, .int .i64 (k : Int)] w fun e w' => e = .returned (.int .i64 (((markTop d t k).2 : Nat) : Int)) ∧ Below w.heap.size w w' := by
  obtain ⟨vk, vl, rfl, i1, i2, i3, hk, hl⟩ := hv
  have hk' : StrsAt S w vk (markStrs t.keys k) := hk
  have hl' : RowAt S w (ValAt S w d) vl (markL (markT d) t.list (k + t.keys.length)).1 := hl
  obtain ⟨ak, ck, rfl, hkl⟩ := hk'.open'
  obtain ⟨al, cl, rfl, hll⟩ := hl'.open'
  rw [wtT] at h1
  rw [markStrs_length] at hkl
  rw [markL_length] at hll
  clear hk hl
  have e1 : Value.agg #[.int .i64 (markTop d t k).1.kind, .int .i64 (markTop d t k).1.num, .string (markTop d t k).1.str, .slice ak (markStrs t.keys k).length ck, .slice al (markL (markT d) t.list (k + t.keys.length)).1.length cl] =
      .agg #[.int .i64 t.kind, .int .i64 t.num, .string t.str, .slice ak t.keys.length ck, .slice al t.list.length cl] := by
    rw [markStrs_length, markL_length]
    rfl
  rw [e1]
  rw [markStrs_length] at hk'
  rw [markL_length] at hl'
  clear e1
  have hA := below_alloc1 w (.cells #[.int .i64 t.kind, .int .i64 t.num, .string t.str, .slice ak t.keys.length ck, .slice al t.list.length cl] 29)
  have k0 := Blk5.new w 29 (.int .i64 t.kind) (.int .i64 t.num) (.string t.str) (.slice ak t.keys.length ck) (.slice al t.list.length cl)
  go_enter Tryz.func10, Tryz.ntmps10
  go_wp2_with fail
  refine (heldStringS_any S (markStrs t.keys k) _ k _ (hk'.same (hS.same hA)) (hS.later hA.size) (markStrs_get t.keys k) (by omega) (by rw [markStrs_length]; omega)).mono ?_
  rintro e w1 ⟨rfl, hb1⟩
  rw [markStrs_length]
  replace k0 := k0.below hb1
  obtain ⟨x0, x1, x2, x3, x4⟩ := k0.cell
  have hB1 := below_trans hA hb1
  have hl1 := hl'.same (hS.same hB1)
  have hW1 := hS.later hB1.size
  have HB1 := hide hB1
  have hnn : ¬ ((k : Int) + (t.keys.length : Int) < 0) := by omega
  clear hb1 hB1 k0 hA hk' hl'
  go_wp2_with fail
  rw [show ((k : Int) + (t.keys.length : Int)) = ((k + t.keys.length : Nat) : Int) by omega]
  refine (heldValS_any d S t.list _ (k + t.keys.length) w1 hl1 hW1 (by omega) (by omega)).mono ?_
  rintro e w2 ⟨rfl, hb2⟩
  have HB2 := hide (below_trans HB1.out hb2)
  have HM : Hid ((markL (markT d) t.list (k + t.keys.length)).2 = (markTop d t k).2) := rfl
  rw [HM.out]
  have hnn2 : ¬ ((((markTop d t k).2 : Nat) : Int) < 0) := by omega
  clear hb2 hl1 hW1 x0 x1 x2 x3 x4
  go_wp2_with fail
  go_ret
  exact ⟨rfl, HB2.out⟩
end Go.Proofs.YtbcafaomfaainaaGreatDoor
