/- PartLen of the model. -/
import Derived.Test.YtchekmjdmjhniaaGreatDoorWLen
namespace Go.Proofs.YtchekmjdmjhniaaGreatDoor
open Go.RowKit Go.Deep

/-- What is asked of a function of the model that tells a tree and whether it can. -/
def SpecQ (d : Nat) (t : Tr (d + 1)) (ok : Bool) (w : World) (e : Ending) (w' : World) : Prop :=
  ∃ v, e = .returned (.tuple #[v, .bool ok]) ∧ ValAt (Fresh w w') w' (d + 1) t v ∧ Below w.heap.size w w'

theorem l1Max_any (a b : Int) (w : World) : Calls Tryz.prog 46 #[.int .i64 a, .int .i64 b] w fun e w' => e = .returned (.int .i64 (max a b)) ∧ w' = w := by
  by_cases h : b < a
  · have hm : Hid (max a b = a) := by
      show max a b = a
      omega
    go_enter Tryz.func46, Tryz.ntmps46
    go_wp2_with fail
    go_ret
    rw [hm.out]
    exact ⟨rfl, rfl⟩
  · have hm : Hid (max a b = b) := by
      show max a b = b
      omega
    go_enter Tryz.func46, Tryz.ntmps46
    go_wp2_with fail
    go_ret
    rw [hm.out]
    exact ⟨rfl, rfl⟩

set_option maxRecDepth 100000 in
theorem l2Num_any (n : Int) (w : World) : Calls Tryz.prog 45 #[.int .i64 n] w fun e w' => e = .returned (.agg #[.int .i64 3, .int .i64 n, .string ByteArray.empty, .slice none 0 0, .slice none 0 0]) ∧ Below w.heap.size w w' := by
  go_enter Tryz.func45, Tryz.ntmps45
  go_wp2_with fail
  exact bodyPost_ret (v := .agg #[.int .i64 3, .int .i64 n, .string ByteArray.empty, .slice none 0 0, .slice none 0 0]) (by simp [results, Tryz.results45, go_sem]; rfl) rfl ⟨rfl, below_alloc1 _ _⟩

theorem numAt (d : Nat) (n : Int) (hn : I64 n) (S : Nat → Prop) (w : World) : ValAt S w (d + 1) (numT d n) (.agg #[.int .i64 3, .int .i64 n, .string ByteArray.empty, .slice none 0 0, .slice none 0 0]) :=
  ValOwn.at _ _ _ _ (valOwn_leaf d 3 n ByteArray.empty w S ⟨by omega, by omega⟩ hn (by decide))
theorem zeroAt (d : Nat) (S : Nat → Prop) (w : World) : ValAt S w (d + 1) (zeroT d) zeroVal := ValOwn.at _ _ _ _ (zeroVal_own d w S)

set_option maxRecDepth 100000 in
set_option maxHeartbeats 4000000 in
theorem specPartLen_any (d : Nat) (S : Nat → Prop) (t : Tr (d + 1)) (v : Value) (w : World) (hv : ValAt S w (d + 1) t v) (hS : Within S w) (hsm : (nodes (d + 1) t : Int) ≤ 4194304) :
    Calls Tryz.prog 18 #[v] w (SpecQ d (partLenT d t).1 (partLenT d t).2 w) := by
  have hv0 := hv
  obtain ⟨vk, vl, rfl, i1, i2, i3, hk, hl⟩ := hv
  obtain ⟨ak, ck, rfl, hkl⟩ := hk.open'
  obtain ⟨al, cl, rfl, hll⟩ := hl.open'
  obtain ⟨W0, hW⟩ : ∃ W0, W0 = (w.alloc (.cells #[.int .i64 t.kind, .int .i64 t.num, .string t.str, .slice ak t.keys.length ck, .slice al t.list.length cl] 29)).alloc (.cells #[.int .i64 0, .int .i64 0, .string { data := #[] }, .slice none 0 0, .slice none 0 0] 29) := ⟨_, rfl⟩
  have hW0 : Below w.heap.size w W0 := by rw [hW]; exact below_trans (below_alloc1 _ _) (below_alloc1 _ _)
  have k0 : Blk5 W0 w.heap.size 29 (.int .i64 t.kind) (.int .i64 t.num) (.string t.str) (.slice ak t.keys.length ck) (.slice al t.list.length cl) := by
    rw [hW]; exact (Blk5.new w 29 _ _ _ _ _).alloc _
  have k1 : Blk5 W0 (w.heap.size + 1) 29 (.int .i64 0) (.int .i64 0) (.string { data := #[] }) (.slice none 0 0) (.slice none 0 0) := by
    have := Blk5.new (w.alloc (.cells #[.int .i64 t.kind, .int .i64 t.num, .string t.str, .slice ak t.keys.length ck, .slice al t.list.length cl] 29)) 29 (.int .i64 0) (.int .i64 0) (.string { data := #[] }) (.slice none 0 0) (.slice none 0 0)
    rw [World.size_alloc] at this
    rw [hW]
    exact this
  have HW := hide hW
  clear hW
  go_enter Tryz.func18, Tryz.ntmps18
  go_wp2_with fail
  rw [← HW.out]
  clear HW
  refine (specValOk_any (d + 1) S t _ W0 (hv0.same (hS.same hW0)) (hS.later hW0.size) hsm).mono ?_
  rintro e w1 ⟨rfl, hb1⟩
  replace k0 := k0.below hb1
  replace k1 := k1.below hb1
  have HB1 := hide (below_trans hW0 hb1)
  obtain ⟨x0, x1, x2, x3, x4⟩ := k0.cell
  obtain ⟨y0, y1, y2, y3, y4⟩ := k1.cell
  have yf := k1.frozen
  have hlt := k1.lt
  clear hb1 hW0 hv0 hk hl
  -- nothing is told
  have hno : Hid (∀ wF, wF = set5 w1 (w.heap.size + 1) 0 (.int .i64 0) (.int .i64 0) (.string { data := #[] }) (.slice none 0 0) (.slice none 0 0) → partLenT d t = (zeroT d, false) → ValAt (Fresh w wF) wF (d + 1) (partLenT d t).1 zeroVal ∧ Below w.heap.size w wF) := by
    intro wF hF hz
    rw [hz]
    refine ⟨zeroAt d _ _, ?_⟩
    rw [hF]
    exact below_set5 HB1.out (by omega) _ _ _ _ _ _
  -- a number is told
  have hyes : Hid (∀ n, I64 n → partLenT d t = (numT d n, true) → ∀ w2, Below w1.heap.size w1 w2 → ∀ wF, wF = set5 w2 (w.heap.size + 1) 0 (.int .i64 3) (.int .i64 n) (.string ByteArray.empty) (.slice none 0 0) (.slice none 0 0) →
      ValAt (Fresh w wF) wF (d + 1) (partLenT d t).1 (.agg #[.int .i64 3, .int .i64 n, .string ByteArray.empty, .slice none 0 0, .slice none 0 0]) ∧ Below w.heap.size w wF) := by
    intro n hn hz w2 hb2 wF hF
    rw [hz]
    refine ⟨numAt d n hn _ _, ?_⟩
    rw [hF]
    exact below_set5 (below_trans HB1.out hb2) (by omega) _ _ _ _ _ _
  cases hf : okT (d + 1) t with
  | false =>
    have hz : Hid (partLenT d t = (zeroT d, false)) := by
      show partLenT d t = _
      rw [partLenT, if_neg (by rw [hf]; simp)]
    clear k0 k1 hyes
    go_wp2_with fail
    refine bodyPost_ret (v := .tuple #[zeroVal, .bool false]) (by simp [results, Tryz.results18, go_sem, zeroVal, y0, y1, y2, y3, y4]; rfl) rfl ⟨_, by rw [hz.out], (hno.out _ rfl hz.out).1, (hno.out _ rfl hz.out).2⟩
  | true =>
    obtain ⟨hkinds, hl60, _⟩ := okT_kinds hf
    have HKI := hide hkinds
    have hp : Hid (∀ n, lenT d t = some n → partLenT d t = (numT d n, true)) := fun n hn => by rw [partLenT, if_pos hf, hn]
    clear hkinds
    by_cases e0 : t.kind = 0
    · have hz := hide (hp.out 0 (by rw [lenT, if_pos e0]))
      have q0 : (t.kind == 0) = true := by simpa using e0
      clear k0 hno e0
      go_wp2_with fail
      refine (l2Num_any 0 w1).mono ?_
      rintro e w2 ⟨rfl, hb2⟩
      have k2 := k1.below hb2
      have HF := hide (hyes.out 0 ⟨by omega, by omega⟩ hz.out w2 hb2)
      clear x0 x1 x2 x3 x4 y0 y1 y2 y3 y4 yf hb2 hyes k1
      obtain ⟨y0, y1, y2, y3, y4⟩ := k2.cell
      have yf := k2.frozen
      clear k2
      go_wp2_with fail
      refine bodyPost_ret (v := .tuple #[.agg #[.int .i64 3, .int .i64 0, .string ByteArray.empty, .slice none 0 0, .slice none 0 0], .bool true]) (by simp [results, Tryz.results18, go_sem, y0, y1, y2, y3, y4]) rfl ⟨_, by rw [hz.out], (HF.out _ rfl).1, (HF.out _ rfl).2⟩
    have q0 : (t.kind == 0) = false := by simpa using e0
    by_cases e3 : t.kind = 3
    · have hz := hide (hp.out (max t.num (-t.num)) (by rw [lenT, if_neg e0, if_pos e3]))
      have q3 : (t.kind == 3) = true := by simpa using e3
      have hnb : -1000000 ≤ t.num ∧ t.num ≤ 1000000 := by have := HKI.out; omega
      have n1 := hnb.1
      have n2 := hnb.2
      clear k0 hno e0 e3 hnb
      go_wp2_with fail
      refine (l1Max_any t.num (-t.num) w1).mono ?_
      rintro e w1' ⟨rfl, rfl⟩
      go_wp2_with fail
      refine (l2Num_any (max t.num (-t.num)) w1').mono ?_
      rintro e w2 ⟨rfl, hb2⟩
      have k2 := k1.below hb2
      have HF := hide (hyes.out (max t.num (-t.num)) ⟨by omega, by omega⟩ hz.out w2 hb2)
      clear x0 x1 x2 x3 x4 y0 y1 y2 y3 y4 yf hb2 hyes k1
      obtain ⟨y0, y1, y2, y3, y4⟩ := k2.cell
      have yf := k2.frozen
      clear k2
      go_wp2_with fail
      refine bodyPost_ret (v := .tuple #[.agg #[.int .i64 3, .int .i64 (max t.num (-t.num)), .string ByteArray.empty, .slice none 0 0, .slice none 0 0], .bool true]) (by simp [results, Tryz.results18, go_sem, y0, y1, y2, y3, y4]) rfl ⟨_, by rw [hz.out], (HF.out _ rfl).1, (HF.out _ rfl).2⟩
    have q3 : (t.kind == 3) = false := by simpa using e3
    by_cases e4 : t.kind = 4
    · have hz := hide (hp.out (t.str.size : Int) (by rw [lenT, if_neg e0, if_neg e3, if_pos e4]))
      have q4 : (t.kind == 4) = true := by simpa using e4
      clear k0 hno e0 e3 e4
      go_wp2_with fail
      refine (l2Num_any (t.str.size : Int) w1).mono ?_
      rintro e w2 ⟨rfl, hb2⟩
      have k2 := k1.below hb2
      have HF := hide (hyes.out (t.str.size : Int) ⟨by omega, by omega⟩ hz.out w2 hb2)
      clear x0 x1 x2 x3 x4 y0 y1 y2 y3 y4 yf hb2 hyes k1
      obtain ⟨y0, y1, y2, y3, y4⟩ := k2.cell
      have yf := k2.frozen
      clear k2
      go_wp2_with fail
      refine bodyPost_ret (v := .tuple #[.agg #[.int .i64 3, .int .i64 (t.str.size : Int), .string ByteArray.empty, .slice none 0 0, .slice none 0 0], .bool true]) (by simp [results, Tryz.results18, go_sem, y0, y1, y2, y3, y4]) rfl ⟨_, by rw [hz.out], (HF.out _ rfl).1, (HF.out _ rfl).2⟩
    have q4 : (t.kind == 4) = false := by simpa using e4
    by_cases e5 : t.kind = 5
    · have hz := hide (hp.out (t.list.length : Int) (by rw [lenT, if_neg e0, if_neg e3, if_neg e4, if_pos (Or.inl e5)]))
      have q5 : (t.kind == 5) = true := by simpa using e5
      clear k0 hno e0 e3 e4 e5
      go_wp2_with fail
      refine (l2Num_any (t.list.length : Int) w1).mono ?_
      rintro e w2 ⟨rfl, hb2⟩
      have k2 := k1.below hb2
      have HF := hide (hyes.out (t.list.length : Int) ⟨by omega, by omega⟩ hz.out w2 hb2)
      clear x0 x1 x2 x3 x4 y0 y1 y2 y3 y4 yf hb2 hyes k1
      obtain ⟨y0, y1, y2, y3, y4⟩ := k2.cell
      have yf := k2.frozen
      clear k2
      go_wp2_with fail
      refine bodyPost_ret (v := .tuple #[.agg #[.int .i64 3, .int .i64 (t.list.length : Int), .string ByteArray.empty, .slice none 0 0, .slice none 0 0], .bool true]) (by simp [results, Tryz.results18, go_sem, y0, y1, y2, y3, y4]) rfl ⟨_, by rw [hz.out], (HF.out _ rfl).1, (HF.out _ rfl).2⟩
    have q5 : (t.kind == 5) = false := by simpa using e5
    by_cases e6 : t.kind = 6
    · have hz := hide (hp.out (t.list.length : Int) (by rw [lenT, if_neg e0, if_neg e3, if_neg e4, if_pos (Or.inr e6)]))
      have q6 : (t.kind == 6) = true := by simpa using e6
      clear k0 hno e0 e3 e4 e5 e6
      go_wp2_with fail
      refine (l2Num_any (t.list.length : Int) w1).mono ?_
      rintro e w2 ⟨rfl, hb2⟩
      have k2 := k1.below hb2
      have HF := hide (hyes.out (t.list.length : Int) ⟨by omega, by omega⟩ hz.out w2 hb2)
      clear x0 x1 x2 x3 x4 y0 y1 y2 y3 y4 yf hb2 hyes k1
      obtain ⟨y0, y1, y2, y3, y4⟩ := k2.cell
      have yf := k2.frozen
      clear k2
      go_wp2_with fail
      refine bodyPost_ret (v := .tuple #[.agg #[.int .i64 3, .int .i64 (t.list.length : Int), .string ByteArray.empty, .slice none 0 0, .slice none 0 0], .bool true]) (by simp [results, Tryz.results18, go_sem, y0, y1, y2, y3, y4]) rfl ⟨_, by rw [hz.out], (HF.out _ rfl).1, (HF.out _ rfl).2⟩
    have q6 : (t.kind == 6) = false := by simpa using e6
    have hz : Hid (partLenT d t = (zeroT d, false)) := by
      show partLenT d t = _
      rw [partLenT, if_pos hf, lenT, if_neg e0, if_neg e3, if_neg e4, if_neg (by omega)]
    clear k0 k1 hyes e0 e3 e4 e5 e6
    go_wp2_with fail
    refine bodyPost_ret (v := .tuple #[zeroVal, .bool false]) (by simp [results, Tryz.results18, go_sem, zeroVal, y0, y1, y2, y3, y4]; rfl) rfl ⟨_, by rw [hz.out], (hno.out _ rfl hz.out).1, (hno.out _ rfl hz.out).2⟩
end Go.Proofs.YtchekmjdmjhniaaGreatDoor
