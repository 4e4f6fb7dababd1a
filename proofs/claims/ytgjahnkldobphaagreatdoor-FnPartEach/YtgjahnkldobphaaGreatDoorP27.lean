/- Texts of the proof, put together by program: WLenN, WLenS, WLenSo, WKeyP. -/
import Derived.Test.YtgjahnkldobphaaGreatDoorP11
import Derived.Test.YtgjahnkldobphaaGreatDoorP26
import Derived.Test.YtgjahnkldobphaaGreatDoorP6
/- Numbers of the model. -/
namespace Go.Proofs.YtgjahnkldobphaaGreatDoor
open Go.RowKit Go.Deep

set_option maxRecDepth 100000 in
theorem l2Num_any (n : Int) (w : World) : Calls Tryz.prog 49 #[.int .i64 n] w fun e w' => e = .returned (.agg #[.int .i64 3, .int .i64 n, .string ByteArray.empty, .slice none 0 0, .slice none 0 0]) ∧ Below w.heap.size w w' := by
  go_enter Tryz.func49, Tryz.ntmps49
  go_wp2_with fail
  exact bodyPost_ret (v := .agg #[.int .i64 3, .int .i64 n, .string ByteArray.empty, .slice none 0 0, .slice none 0 0]) (by simp [results, Tryz.results49, go_sem]; rfl) rfl ⟨rfl, below_alloc1 _ _⟩
end Go.Proofs.YtgjahnkldobphaaGreatDoor

/- PartLen of the model. -/
namespace Go.Proofs.YtgjahnkldobphaaGreatDoor
open Go.RowKit Go.Deep

theorem l1MaxP_any (a b : Int) (w : World) : Calls Tryz.prog 50 #[.int .i64 a, .int .i64 b] w fun e w' => e = .returned (.int .i64 (max a b)) ∧ w' = w := by
  by_cases h : b < a
  · have hm : Hid (max a b = a) := by
      show max a b = a
      omega
    go_enter Tryz.func50, Tryz.ntmps50
    go_wp2_with fail
    go_ret
    rw [hm.out]
    exact ⟨rfl, rfl⟩
  · have hm : Hid (max a b = b) := by
      show max a b = b
      omega
    go_enter Tryz.func50, Tryz.ntmps50
    go_wp2_with fail
    go_ret
    rw [hm.out]
    exact ⟨rfl, rfl⟩

set_option maxRecDepth 100000 in
set_option maxHeartbeats 4000000 in
theorem specPartLen_any (d : Nat) (S : Nat → Prop) (t : Tr (d + 1)) (v : Value) (w : World) (hv : ValAt S w (d + 1) t v) (hS : Within S w) (hsm : (nodes (d + 1) t : Int) ≤ 4194304) :
    Calls Tryz.prog 22 #[v] w (SpecQ d (partLenT d t).1 (partLenT d t).2 w) := by
  have hv0 := hv
  obtain ⟨vk, vl, rfl, i1, i2, i3, hk, hl⟩ := hv
  obtain ⟨ak, ck, rfl, hkl⟩ := hk.open'
  obtain ⟨al, cl, rfl, hll⟩ := hl.open'
  obtain ⟨W0, hW⟩ : ∃ W0, W0 = (w.alloc (.cells #[.int .i64 t.kind, .int .i64 t.num, .string t.str, .slice ak t.keys.length ck, .slice al t.list.length cl] 26)).alloc (.cells #[.int .i64 0, .int .i64 0, .string { data := #[] }, .slice none 0 0, .slice none 0 0] 26) := ⟨_, rfl⟩
  have hW0 : Below w.heap.size w W0 := by rw [hW]; exact below_trans (below_alloc1 _ _) (below_alloc1 _ _)
  have k0 : Blk5 W0 w.heap.size 26 (.int .i64 t.kind) (.int .i64 t.num) (.string t.str) (.slice ak t.keys.length ck) (.slice al t.list.length cl) := by
    rw [hW]; exact (Blk5.new w 26 _ _ _ _ _).alloc _
  have k1 : Blk5 W0 (w.heap.size + 1) 26 (.int .i64 0) (.int .i64 0) (.string { data := #[] }) (.slice none 0 0) (.slice none 0 0) := by
    have := Blk5.new (w.alloc (.cells #[.int .i64 t.kind, .int .i64 t.num, .string t.str, .slice ak t.keys.length ck, .slice al t.list.length cl] 26)) 26 (.int .i64 0) (.int .i64 0) (.string { data := #[] }) (.slice none 0 0) (.slice none 0 0)
    rw [World.size_alloc] at this
    rw [hW]
    exact this
  have HW := hide hW
  clear hW
  go_enter Tryz.func22, Tryz.ntmps22
  go_wp2_with fail
  rw [← HW.out]
  clear HW
  refine (specValOk_any (d + 1) S t _ W0 (hv0.same (hS.same hW0)) (hS.later hW0.size) hsm).mono ?_
  rintro e w1 ⟨rfl, hb1⟩
  replace k0 := k0.below hb1
  replace k1 := k1.below hb1
  have HB1 := hide (below_trans hW0 hb1)
  obtain ⟨x0, x1, x2, x3, x4⟩ := k0.cell
  obtain ⟨y0, y1, y2, y3, y4⟩ := k1.cell
  have yf := k1.frozen
  have hlt := k1.lt
  clear hb1 hW0 hv0 hk hl
  -- nothing is told
  have hno : Hid (∀ wF, wF = set5 w1 (w.heap.size + 1) 0 (.int .i64 0) (.int .i64 0) (.string { data := #[] }) (.slice none 0 0) (.slice none 0 0) → partLenT d t = (zeroT d, false) → ValAt (Fresh w wF) wF (d + 1) (partLenT d t).1 zeroVal ∧ Below w.heap.size w wF) := by
    intro wF hF hz
    rw [hz]
    refine ⟨zeroAt d _ _, ?_⟩
    rw [hF]
    exact below_set5 HB1.out (by omega) _ _ _ _ _ _
  -- a number is told
  have hyes : Hid (∀ n, I64 n → partLenT d t = (numT d n, true) → ∀ w2, Below w1.heap.size w1 w2 → ∀ wF, wF = set5 w2 (w.heap.size + 1) 0 (.int .i64 3) (.int .i64 n) (.string ByteArray.empty) (.slice none 0 0) (.slice none 0 0) →
      ValAt (Fresh w wF) wF (d + 1) (partLenT d t).1 (.agg #[.int .i64 3, .int .i64 n, .string ByteArray.empty, .slice none 0 0, .slice none 0 0]) ∧ Below w.heap.size w wF) := by
    intro n hn hz w2 hb2 wF hF
    rw [hz]
    refine ⟨numAt d n hn _ _, ?_⟩
    rw [hF]
    exact below_set5 (below_trans HB1.out hb2) (by omega) _ _ _ _ _ _
  cases hf : okT (d + 1) t with
  | false =>
    have hz : Hid (partLenT d t = (zeroT d, false)) := by
      show partLenT d t = _
      rw [partLenT, if_neg (by rw [hf]; simp)]
    clear k0 k1 hyes
    go_wp2_with fail
    refine bodyPost_ret (v := .tuple #[zeroVal, .bool false]) (by simp [results, Tryz.results22, go_sem, zeroVal, y0, y1, y2, y3, y4]; rfl) rfl ⟨_, by rw [hz.out], (hno.out _ rfl hz.out).1, (hno.out _ rfl hz.out).2⟩
  | true =>
    obtain ⟨hkinds, hl60, _⟩ := okT_kinds hf
    have HKI := hide hkinds
    have hp : Hid (∀ n, lenT d t = some n → partLenT d t = (numT d n, true)) := fun n hn => by rw [partLenT, if_pos hf, hn]
    clear hkinds
    by_cases e0 : t.kind = 0
    · have hz := hide (hp.out 0 (by rw [lenT, if_pos e0]))
      have q0 : (t.kind == 0) = true := by simpa using e0
      clear k0 hno e0
      go_wp2_with fail
      refine (l2Num_any 0 w1).mono ?_
      rintro e w2 ⟨rfl, hb2⟩
      have k2 := k1.below hb2
      have HF := hide (hyes.out 0 ⟨by omega, by omega⟩ hz.out w2 hb2)
      clear x0 x1 x2 x3 x4 y0 y1 y2 y3 y4 yf hb2 hyes k1
      obtain ⟨y0, y1, y2, y3, y4⟩ := k2.cell
      have yf := k2.frozen
      clear k2
      go_wp2_with fail
      refine bodyPost_ret (v := .tuple #[.agg #[.int .i64 3, .int .i64 0, .string ByteArray.empty, .slice none 0 0, .slice none 0 0], .bool true]) (by simp [results, Tryz.results22, go_sem, y0, y1, y2, y3, y4]) rfl ⟨_, by rw [hz.out], (HF.out _ rfl).1, (HF.out _ rfl).2⟩
    have q0 : (t.kind == 0) = false := by simpa using e0
    by_cases e3 : t.kind = 3
    · have hz := hide (hp.out (max t.num (-t.num)) (by rw [lenT, if_neg e0, if_pos e3]))
      have q3 : (t.kind == 3) = true := by simpa using e3
      have hnb : -1000000 ≤ t.num ∧ t.num ≤ 1000000 := by have := HKI.out; omega
      have n1 := hnb.1
      have n2 := hnb.2
      clear k0 hno e0 e3 hnb
      go_wp2_with fail
      refine (l1MaxP_any t.num (-t.num) w1).mono ?_
      rintro e w1' ⟨rfl, rfl⟩
      go_wp2_with fail
      refine (l2Num_any (max t.num (-t.num)) w1').mono ?_
      rintro e w2 ⟨rfl, hb2⟩
      have k2 := k1.below hb2
      have HF := hide (hyes.out (max t.num (-t.num)) ⟨by omega, by omega⟩ hz.out w2 hb2)
      clear x0 x1 x2 x3 x4 y0 y1 y2 y3 y4 yf hb2 hyes k1
      obtain ⟨y0, y1, y2, y3, y4⟩ := k2.cell
      have yf := k2.frozen
      clear k2
      go_wp2_with fail
      refine bodyPost_ret (v := .tuple #[.agg #[.int .i64 3, .int .i64 (max t.num (-t.num)), .string ByteArray.empty, .slice none 0 0, .slice none 0 0], .bool true]) (by simp [results, Tryz.results22, go_sem, y0, y1, y2, y3, y4]) rfl ⟨_, by rw [hz.out], (HF.out _ rfl).1, (HF.out _ rfl).2⟩
    have q3 : (t.kind == 3) = false := by simpa using e3
    by_cases e4 : t.kind = 4
    · have hz := hide (hp.out (t.str.size : Int) (by rw [lenT, if_neg e0, if_neg e3, if_pos e4]))
      have q4 : (t.kind == 4) = true := by simpa using e4
      clear k0 hno e0 e3 e4
      go_wp2_with fail
      refine (l2Num_any (t.str.size : Int) w1).mono ?_
      rintro e w2 ⟨rfl, hb2⟩
      have k2 := k1.below hb2
      have HF := hide (hyes.out (t.str.size : Int) ⟨by omega, by omega⟩ hz.out w2 hb2)
      clear x0 x1 x2 x3 x4 y0 y1 y2 y3 y4 yf hb2 hyes k1
      obtain ⟨y0, y1, y2, y3, y4⟩ := k2.cell
      have yf := k2.frozen
      clear k2
      go_wp2_with fail
      refine bodyPost_ret (v := .tuple #[.agg #[.int .i64 3, .int .i64 (t.str.size : Int), .string ByteArray.empty, .slice none 0 0, .slice none 0 0], .bool true]) (by simp [results, Tryz.results22, go_sem, y0, y1, y2, y3, y4]) rfl ⟨_, by rw [hz.out], (HF.out _ rfl).1, (HF.out _ rfl).2⟩
    have q4 : (t.kind == 4) = false := by simpa using e4
    by_cases e5 : t.kind = 5
    · have hz := hide (hp.out (t.list.length : Int) (by rw [lenT, if_neg e0, if_neg e3, if_neg e4, if_pos (Or.inl e5)]))
      have q5 : (t.kind == 5) = true := by simpa using e5
      clear k0 hno e0 e3 e4 e5
      go_wp2_with fail
      refine (l2Num_any (t.list.length : Int) w1).mono ?_
      rintro e w2 ⟨rfl, hb2⟩
      have k2 := k1.below hb2
      have HF := hide (hyes.out (t.list.length : Int) ⟨by omega, by omega⟩ hz.out w2 hb2)
      clear x0 x1 x2 x3 x4 y0 y1 y2 y3 y4 yf hb2 hyes k1
      obtain ⟨y0, y1, y2, y3, y4⟩ := k2.cell
      have yf := k2.frozen
      clear k2
      go_wp2_with fail
      refine bodyPost_ret (v := .tuple #[.agg #[.int .i64 3, .int .i64 (t.list.length : Int), .string ByteArray.empty, .slice none 0 0, .slice none 0 0], .bool true]) (by simp [results, Tryz.results22, go_sem, y0, y1, y2, y3, y4]) rfl ⟨_, by rw [hz.out], (HF.out _ rfl).1, (HF.out _ rfl).2⟩
    have q5 : (t.kind == 5) = false := by simpa using e5
    by_cases e6 : t.kind = 6
    · have hz := hide (hp.out (t.list.length : Int) (by rw [lenT, if_neg e0, if_neg e3, if_neg e4, if_pos (Or.inr e6)]))
      have q6 : (t.kind == 6) = true := by simpa using e6
      clear k0 hno e0 e3 e4 e5 e6
      go_wp2_with fail
      refine (l2Num_any (t.list.length : Int) w1).mono ?_
      rintro e w2 ⟨rfl, hb2⟩
      have k2 := k1.below hb2
      have HF := hide (hyes.out (t.list.length : Int) ⟨by omega, by omega⟩ hz.out w2 hb2)
      clear x0 x1 x2 x3 x4 y0 y1 y2 y3 y4 yf hb2 hyes k1
      obtain ⟨y0, y1, y2, y3, y4⟩ := k2.cell
      have yf := k2.frozen
      clear k2
      go_wp2_with fail
      refine bodyPost_ret (v := .tuple #[.agg #[.int .i64 3, .int .i64 (t.list.length : Int), .string ByteArray.empty, .slice none 0 0, .slice none 0 0], .bool true]) (by simp [results, Tryz.results22, go_sem, y0, y1, y2, y3, y4]) rfl ⟨_, by rw [hz.out], (HF.out _ rfl).1, (HF.out _ rfl).2⟩
    have q6 : (t.kind == 6) = false := by simpa using e6
    have hz : Hid (partLenT d t = (zeroT d, false)) := by
      show partLenT d t = _
      rw [partLenT, if_pos hf, lenT, if_neg e0, if_neg e3, if_neg e4, if_neg (by omega)]
    clear k0 k1 hyes e0 e3 e4 e5 e6
    go_wp2_with fail
    refine bodyPost_ret (v := .tuple #[zeroVal, .bool false]) (by simp [results, Tryz.results22, go_sem, zeroVal, y0, y1, y2, y3, y4]; rfl) rfl ⟨_, by rw [hz.out], (hno.out _ rfl hz.out).1, (hno.out _ rfl hz.out).2⟩
theorem okT_partLen (d : Nat) (t : Tr (d + 1)) : okT (d + 1) (partLenT d t).1 = true := by
  unfold partLenT
  split
  · rename_i h
    cases hl : lenT d t with
    | none => exact okT_zero d
    | some n => exact okT_num d n (lenT_bd h hl)
  · exact okT_zero d
end Go.Proofs.YtgjahnkldobphaaGreatDoor

/- PartLen of the model : the answer owns its memory. -/
namespace Go.Proofs.YtgjahnkldobphaaGreatDoor
open Go.RowKit Go.Deep

set_option maxRecDepth 100000 in
set_option maxHeartbeats 4000000 in
theorem specPartLen_own (d : Nat) (S : Nat → Prop) (t : Tr (d + 1)) (v : Value) (w : World) (hv : ValAt S w (d + 1) t v) (hS : Within S w) (hsm : (nodes (d + 1) t : Int) ≤ 4194304) :
    Calls Tryz.prog 22 #[v] w (TellQ d (partLenT d t).1 (partLenT d t).2 w) := by
  have hv0 := hv
  obtain ⟨vk, vl, rfl, i1, i2, i3, hk, hl⟩ := hv
  obtain ⟨ak, ck, rfl, hkl⟩ := hk.open'
  obtain ⟨al, cl, rfl, hll⟩ := hl.open'
  obtain ⟨W0, hW⟩ : ∃ W0, W0 = (w.alloc (.cells #[.int .i64 t.kind, .int .i64 t.num, .string t.str, .slice ak t.keys.length ck, .slice al t.list.length cl] 26)).alloc (.cells #[.int .i64 0, .int .i64 0, .string { data := #[] }, .slice none 0 0, .slice none 0 0] 26) := ⟨_, rfl⟩
  have hW0 : Below w.heap.size w W0 := by rw [hW]; exact below_trans (below_alloc1 _ _) (below_alloc1 _ _)
  have k0 : Blk5 W0 w.heap.size 26 (.int .i64 t.kind) (.int .i64 t.num) (.string t.str) (.slice ak t.keys.length ck) (.slice al t.list.length cl) := by
    rw [hW]; exact (Blk5.new w 26 _ _ _ _ _).alloc _
  have k1 : Blk5 W0 (w.heap.size + 1) 26 (.int .i64 0) (.int .i64 0) (.string { data := #[] }) (.slice none 0 0) (.slice none 0 0) := by
    have := Blk5.new (w.alloc (.cells #[.int .i64 t.kind, .int .i64 t.num, .string t.str, .slice ak t.keys.length ck, .slice al t.list.length cl] 26)) 26 (.int .i64 0) (.int .i64 0) (.string { data := #[] }) (.slice none 0 0) (.slice none 0 0)
    rw [World.size_alloc] at this
    rw [hW]
    exact this
  have HW := hide hW
  clear hW
  go_enter Tryz.func22, Tryz.ntmps22
  go_wp2_with fail
  rw [← HW.out]
  clear HW
  refine (specValOk_any (d + 1) S t _ W0 (hv0.same (hS.same hW0)) (hS.later hW0.size) hsm).mono ?_
  rintro e w1 ⟨rfl, hb1⟩
  replace k0 := k0.below hb1
  replace k1 := k1.below hb1
  have HB1 := hide (below_trans hW0 hb1)
  obtain ⟨x0, x1, x2, x3, x4⟩ := k0.cell
  obtain ⟨y0, y1, y2, y3, y4⟩ := k1.cell
  have yf := k1.frozen
  have hlt := k1.lt
  clear hb1 hW0 hv0 hk hl
  -- nothing is told
  have hno : Hid (∀ wF, wF = set5 w1 (w.heap.size + 1) 0 (.int .i64 0) (.int .i64 0) (.string { data := #[] }) (.slice none 0 0) (.slice none 0 0) → partLenT d t = (zeroT d, false) → ValOwn wF (d + 1) (Fresh w wF) (partLenT d t).1 zeroVal ∧ Below w.heap.size w wF) := by
    intro wF hF hz
    rw [hz]
    refine ⟨zeroVal_own d _ _, ?_⟩
    rw [hF]
    exact below_set5 HB1.out (by omega) _ _ _ _ _ _
  -- a number is told
  have hyes : Hid (∀ n, I64 n → partLenT d t = (numT d n, true) → ∀ w2, Below w1.heap.size w1 w2 → ∀ wF, wF = set5 w2 (w.heap.size + 1) 0 (.int .i64 3) (.int .i64 n) (.string ByteArray.empty) (.slice none 0 0) (.slice none 0 0) →
      ValOwn wF (d + 1) (Fresh w wF) (partLenT d t).1 (.agg #[.int .i64 3, .int .i64 n, .string ByteArray.empty, .slice none 0 0, .slice none 0 0]) ∧ Below w.heap.size w wF) := by
    intro n hn hz w2 hb2 wF hF
    rw [hz]
    refine ⟨valOwn_leaf d 3 n ByteArray.empty _ _ ⟨by omega, by omega⟩ hn (by decide), ?_⟩
    rw [hF]
    exact below_set5 (below_trans HB1.out hb2) (by omega) _ _ _ _ _ _
  cases hf : okT (d + 1) t with
  | false =>
    have hz : Hid (partLenT d t = (zeroT d, false)) := by
      show partLenT d t = _
      rw [partLenT, if_neg (by rw [hf]; simp)]
    clear k0 k1 hyes
    go_wp2_with fail
    refine bodyPost_ret (v := .tuple #[zeroVal, .bool false]) (by simp [results, Tryz.results22, go_sem, zeroVal, y0, y1, y2, y3, y4]; rfl) rfl ⟨_, by rw [hz.out], (hno.out _ rfl hz.out).1, (hno.out _ rfl hz.out).2⟩
  | true =>
    obtain ⟨hkinds, hl60, _⟩ := okT_kinds hf
    have HKI := hide hkinds
    have hp : Hid (∀ n, lenT d t = some n → partLenT d t = (numT d n, true)) := fun n hn => by rw [partLenT, if_pos hf, hn]
    clear hkinds
    by_cases e0 : t.kind = 0
    · have hz := hide (hp.out 0 (by rw [lenT, if_pos e0]))
      have q0 : (t.kind == 0) = true := by simpa using e0
      clear k0 hno e0
      go_wp2_with fail
      refine (l2Num_any 0 w1).mono ?_
      rintro e w2 ⟨rfl, hb2⟩
      have k2 := k1.below hb2
      have HF := hide (hyes.out 0 ⟨by omega, by omega⟩ hz.out w2 hb2)
      clear x0 x1 x2 x3 x4 y0 y1 y2 y3 y4 yf hb2 hyes k1
      obtain ⟨y0, y1, y2, y3, y4⟩ := k2.cell
      have yf := k2.frozen
      clear k2
      go_wp2_with fail
      refine bodyPost_ret (v := .tuple #[.agg #[.int .i64 3, .int .i64 0, .string ByteArray.empty, .slice none 0 0, .slice none 0 0], .bool true]) (by simp [results, Tryz.results22, go_sem, y0, y1, y2, y3, y4]) rfl ⟨_, by rw [hz.out], (HF.out _ rfl).1, (HF.out _ rfl).2⟩
    have q0 : (t.kind == 0) = false := by simpa using e0
    by_cases e3 : t.kind = 3
    · have hz := hide (hp.out (max t.num (-t.num)) (by rw [lenT, if_neg e0, if_pos e3]))
      have q3 : (t.kind == 3) = true := by simpa using e3
      have hnb : -1000000 ≤ t.num ∧ t.num ≤ 1000000 := by have := HKI.out; omega
      have n1 := hnb.1
      have n2 := hnb.2
      clear k0 hno e0 e3 hnb
      go_wp2_with fail
      refine (l1MaxP_any t.num (-t.num) w1).mono ?_
      rintro e w1' ⟨rfl, rfl⟩
      go_wp2_with fail
      refine (l2Num_any (max t.num (-t.num)) w1').mono ?_
      rintro e w2 ⟨rfl, hb2⟩
      have k2 := k1.below hb2
      have HF := hide (hyes.out (max t.num (-t.num)) ⟨by omega, by omega⟩ hz.out w2 hb2)
      clear x0 x1 x2 x3 x4 y0 y1 y2 y3 y4 yf hb2 hyes k1
      obtain ⟨y0, y1, y2, y3, y4⟩ := k2.cell
      have yf := k2.frozen
      clear k2
      go_wp2_with fail
      refine bodyPost_ret (v := .tuple #[.agg #[.int .i64 3, .int .i64 (max t.num (-t.num)), .string ByteArray.empty, .slice none 0 0, .slice none 0 0], .bool true]) (by simp [results, Tryz.results22, go_sem, y0, y1, y2, y3, y4]) rfl ⟨_, by rw [hz.out], (HF.out _ rfl).1, (HF.out _ rfl).2⟩
    have q3 : (t.kind == 3) = false := by simpa using e3
    by_cases e4 : t.kind = 4
    · have hz := hide (hp.out (t.str.size : Int) (by rw [lenT, if_neg e0, if_neg e3, if_pos e4]))
      have q4 : (t.kind == 4) = true := by simpa using e4
      clear k0 hno e0 e3 e4
      go_wp2_with fail
      refine (l2Num_any (t.str.size : Int) w1).mono ?_
      rintro e w2 ⟨rfl, hb2⟩
      have k2 := k1.below hb2
      have HF := hide (hyes.out (t.str.size : Int) ⟨by omega, by omega⟩ hz.out w2 hb2)
      clear x0 x1 x2 x3 x4 y0 y1 y2 y3 y4 yf hb2 hyes k1
      obtain ⟨y0, y1, y2, y3, y4⟩ := k2.cell
      have yf := k2.frozen
      clear k2
      go_wp2_with fail
      refine bodyPost_ret (v := .tuple #[.agg #[.int .i64 3, .int .i64 (t.str.size : Int), .string ByteArray.empty, .slice none 0 0, .slice none 0 0], .bool true]) (by simp [results, Tryz.results22, go_sem, y0, y1, y2, y3, y4]) rfl ⟨_, by rw [hz.out], (HF.out _ rfl).1, (HF.out _ rfl).2⟩
    have q4 : (t.kind == 4) = false := by simpa using e4
    by_cases e5 : t.kind = 5
    · have hz := hide (hp.out (t.list.length : Int) (by rw [lenT, if_neg e0, if_neg e3, if_neg e4, if_pos (Or.inl e5)]))
      have q5 : (t.kind == 5) = true := by simpa using e5
      clear k0 hno e0 e3 e4 e5
      go_wp2_with fail
      refine (l2Num_any (t.list.length : Int) w1).mono ?_
      rintro e w2 ⟨rfl, hb2⟩
      have k2 := k1.below hb2
      have HF := hide (hyes.out (t.list.length : Int) ⟨by omega, by omega⟩ hz.out w2 hb2)
      clear x0 x1 x2 x3 x4 y0 y1 y2 y3 y4 yf hb2 hyes k1
      obtain ⟨y0, y1, y2, y3, y4⟩ := k2.cell
      have yf := k2.frozen
      clear k2
      go_wp2_with fail
      refine bodyPost_ret (v := .tuple #[.agg #[.int .i64 3, .int .i64 (t.list.length : Int), .string ByteArray.empty, .slice none 0 0, .slice none 0 0], .bool true]) (by simp [results, Tryz.results22, go_sem, y0, y1, y2, y3, y4]) rfl ⟨_, by rw [hz.out], (HF.out _ rfl).1, (HF.out _ rfl).2⟩
    have q5 : (t.kind == 5) = false := by simpa using e5
    by_cases e6 : t.kind = 6
    · have hz := hide (hp.out (t.list.length : Int) (by rw [lenT, if_neg e0, if_neg e3, if_neg e4, if_pos (Or.inr e6)]))
      have q6 : (t.kind == 6) = true := by simpa using e6
      clear k0 hno e0 e3 e4 e5 e6
      go_wp2_with fail
      refine (l2Num_any (t.list.length : Int) w1).mono ?_
      rintro e w2 ⟨rfl, hb2⟩
      have k2 := k1.below hb2
      have HF := hide (hyes.out (t.list.length : Int) ⟨by omega, by omega⟩ hz.out w2 hb2)
      clear x0 x1 x2 x3 x4 y0 y1 y2 y3 y4 yf hb2 hyes k1
      obtain ⟨y0, y1, y2, y3, y4⟩ := k2.cell
      have yf := k2.frozen
      clear k2
      go_wp2_with fail
      refine bodyPost_ret (v := .tuple #[.agg #[.int .i64 3, .int .i64 (t.list.length : Int), .string ByteArray.empty, .slice none 0 0, .slice none 0 0], .bool true]) (by simp [results, Tryz.results22, go_sem, y0, y1, y2, y3, y4]) rfl ⟨_, by rw [hz.out], (HF.out _ rfl).1, (HF.out _ rfl).2⟩
    have q6 : (t.kind == 6) = false := by simpa using e6
    have hz : Hid (partLenT d t = (zeroT d, false)) := by
      show partLenT d t = _
      rw [partLenT, if_pos hf, lenT, if_neg e0, if_neg e3, if_neg e4, if_neg (by omega)]
    clear k0 k1 hyes e0 e3 e4 e5 e6
    go_wp2_with fail
    refine bodyPost_ret (v := .tuple #[zeroVal, .bool false]) (by simp [results, Tryz.results22, go_sem, zeroVal, y0, y1, y2, y3, y4]; rfl) rfl ⟨_, by rw [hz.out], (hno.out _ rfl hz.out).1, (hno.out _ rfl hz.out).2⟩
end Go.Proofs.YtgjahnkldobphaaGreatDoor

/- The keys, or places, of a tree as a row. -/
namespace Go.Proofs.YtgjahnkldobphaaGreatDoor
open Go.RowKit Go.Deep

def strT (d : Nat) (s : ByteArray) : Tr (d + 1) := (Nd.mk 4 0 s [] [] : Nd (Tr d))
def rowK (d : Nat) (xs : List (Tr (d + 1))) : Tr (d + 2) := (Nd.mk 5 0 ByteArray.empty [] xs : Nd (Tr (d + 1)))
/-- The places of so many, as numbers. -/
def placesT (d n : Nat) : List (Tr (d + 1)) := (List.range n).map (fun (i : Nat) => numT d (i : Int))
def keyTs (d : Nat) (t : Tr (d + 2)) : List (Tr (d + 1)) := if Nd.kind t = 5 then placesT d (Nd.list t).length else (Nd.keys t).map (strT d)
def partKeysT (d : Nat) (t : Tr (d + 2)) : Tr (d + 2) × Bool := if okT (d + 2) t = true ∧ 5 ≤ Nd.kind t then (rowK d (keyTs d t), true) else (zeroT (d + 1), false)

theorem places_at (d n k : Nat) (h : k < n) : (placesT d n)[k]? = some (numT d (k : Int)) := by
  simp [placesT, h]
theorem places_len (d n : Nat) : (placesT d n).length = n := by simp [placesT]

theorem okT_maps {d : Nat} {t : Tr (d + 1)} (h : okT (d + 1) t = true) (h6 : Nd.kind t = 6) : (Nd.keys t).length = (Nd.list t).length ∧ keysB (Nd.keys t) = true := by
  obtain ⟨hf, hm⟩ := okT_form h
  obtain ⟨kind, num, str, keys, list⟩ := t
  have h6 : kind = 6 := h6
  cases hb : headBad kind num str keys.length list.length 6 with
  | true => rw [formT_bad hb] at hf; cases hf
  | false =>
    rw [formT_good hb, if_neg (by omega), if_neg (by omega), if_neg (by omega), if_pos h6] at hf
    simp only [Bool.and_eq_true] at hf
    exact ⟨by simpa using hf.1.1, hf.1.2⟩
theorem okT_len {d : Nat} {t : Tr (d + 1)} (h : okT (d + 1) t = true) : (Nd.list t).length < 60 := by
  obtain ⟨_, hm⟩ := okT_form h
  obtain ⟨kind, num, str, keys, list⟩ := t
  have hmm : manyT (d + 1) (Nd.mk kind num str keys list : Nd (Tr d)) 6 = 1 + (list.map (fun x => manyT d x (6 - 1))).sum := rfl
  rw [hmm] at hm
  have := len_le_many (d := d) (deep := 6 - 1) list
  show list.length < 60
  omega
theorem keyTs_len {d : Nat} {t : Tr (d + 2)} (h : okT (d + 2) t = true) (h5 : 5 ≤ Nd.kind t) : (keyTs d t).length = (Nd.list t).length := by
  unfold keyTs
  split
  · exact places_len _ _
  · rename_i h6
    rw [List.length_map]
    have hk := (okT_kinds h).1
    exact (okT_maps h (by omega)).1

theorem sum_ones {α : Type} {f : α → Nat} : ∀ (xs : List α), (∀ x ∈ xs, f x = 1) → (xs.map f).sum = xs.length
  | [], _ => rfl
  | x :: r, h => by
    simp only [List.map_cons, List.sum_cons, List.length_cons]
    rw [h x (by simp), sum_ones r (fun y hy => h y (by simp [hy]))]
    omega
theorem form_num (d : Nat) (n : Int) (h : -1000000 ≤ n ∧ n ≤ 1000000) : formT (d + 1) (numT d n) (6 - 1) = true := by
  have hb : headBad 3 n ByteArray.empty ([] : List ByteArray).length ([] : List (Tr d)).length (6 - 1) = false := headBad_iff.2 ⟨by omega, fun h => absurd rfl h, fun _ => empty_toList, fun _ => rfl, fun _ => rfl⟩
  show formT (d + 1) (Nd.mk 3 n ByteArray.empty [] [] : Nd (Tr d)) (6 - 1) = true
  rw [formT_good hb]
  simp [h]
theorem form_str (d : Nat) (s : ByteArray) (h : strOk s = true) : formT (d + 1) (strT d s) (6 - 1) = true := by
  have hb : headBad 4 0 s ([] : List ByteArray).length ([] : List (Tr d)).length (6 - 1) = false := headBad_iff.2 ⟨by omega, fun _ => rfl, fun h => absurd rfl h, fun _ => rfl, fun _ => rfl⟩
  show formT (d + 1) (Nd.mk 4 0 s [] [] : Nd (Tr d)) (6 - 1) = true
  rw [formT_good hb]
  simp [h]
theorem okT_rowK {d : Nat} {xs : List (Tr (d + 1))} (hl : xs.length < 60) (hx : ∀ x ∈ xs, formT (d + 1) x (6 - 1) = true ∧ manyT (d + 1) x (6 - 1) = 1) : okT (d + 2) (rowK d xs) = true := by
  have hb : headBad 5 0 ByteArray.empty ([] : List ByteArray).length xs.length 6 = false := headBad_iff.2 ⟨by omega, fun _ => rfl, fun _ => empty_toList, fun _ => rfl, fun h => absurd h (by omega)⟩
  have h1 : formT (d + 2) (rowK d xs) 6 = true := by
    show formT (d + 2) (Nd.mk 5 0 ByteArray.empty [] xs : Nd (Tr (d + 1))) 6 = true
    rw [formT_good hb, if_neg (by omega), if_neg (by omega), if_neg (by omega), if_neg (by omega), if_pos rfl]
    exact List.all_eq_true.2 (fun x h => (hx x h).1)
  have h2 : manyT (d + 2) (rowK d xs) 6 = 1 + (xs.map (fun x => manyT (d + 1) x (6 - 1))).sum := rfl
  rw [sum_ones xs (fun x h => (hx x h).2)] at h2
  have h3 : manyT (d + 2) (rowK d xs) 6 ≤ 60 := by omega
  unfold okT
  rw [h1]
  simpa using h3
theorem okT_partKeys (d : Nat) (t : Tr (d + 2)) : okT (d + 2) (partKeysT d t).1 = true := by
  unfold partKeysT
  split
  · rename_i h
    have hl := okT_len h.1
    refine okT_rowK (by rw [keyTs_len h.1 h.2]; exact hl) (fun x hx => ?_)
    unfold keyTs at hx
    split at hx
    · simp only [placesT, List.mem_map, List.mem_range] at hx
      obtain ⟨i, hi, rfl⟩ := hx
      exact ⟨form_num d i (by omega), rfl⟩
    · rename_i h5
      obtain ⟨s, hs, rfl⟩ := List.mem_map.1 hx
      have hk := (okT_kinds h.1).1
      exact ⟨form_str d s (keysB_strOk _ none (okT_maps h.1 (by have := h.2; omega)).2 s hs), rfl⟩
  · exact okT_zero (d + 1)
end Go.Proofs.YtgjahnkldobphaaGreatDoor
