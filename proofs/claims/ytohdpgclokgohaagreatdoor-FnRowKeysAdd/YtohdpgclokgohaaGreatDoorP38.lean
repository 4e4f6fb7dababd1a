/- Texts of the proof, put together by program: LFnRowKeysAdd. -/
import Derived.Test.YtohdpgclokgohaaGreatDoorP37
/- FnRowKeysAdd: for all bytes that lie in memory the law answers true. -/
namespace Go.Proofs.YtohdpgclokgohaaGreatDoor
open Go.RowKit Go.Deep

set_option maxRecDepth 100000 in
set_option maxHeartbeats 16000000 in
theorem lawFnRowKeysAdd (a : Option Addr) (n cap : Nat) (a' : Option Addr) (n' cap' : Nat) (w : World) (hcap : n ≤ cap) (hcap' : n' ≤ cap') (_hm : cap ≤ 9223372036854775807) (_hm' : cap' ≤ 9223372036854775807) (hB : BytesAt w.heap.size w a n) (hB' : BytesAt w.heap.size w a' n') (hg : ErrType w) :
    Calls Tryz.prog 7 #[.slice a n cap, .slice a' n' cap'] w fun e w' => e = .returned (.bool true) ∧ Below w.heap.size w w' := by
  by_cases hn : 1048576 < n
  · go_enter Tryz.func7, Tryz.ntmps7
    go_wp2_with fail
    go_ret
    exact ⟨rfl, Below.refl _ _⟩
  by_cases hn' : 1048576 < n'
  · go_enter Tryz.func7, Tryz.ntmps7
    go_wp2_with fail
    go_ret
    exact ⟨rfl, Below.refl _ _⟩
  go_enter Tryz.func7, Tryz.ntmps7
  go_wp2_with fail
  refine (drawRowPairs_any a n cap w hcap hB).mono ?_
  rintro e w1 ⟨u, A, rfl, ha, ha1, hbl⟩
  obtain ⟨a0, a1, a2, a3, a4, a5, a6, a7, a8, rfl⟩ := ha.shape
  have HE : Hid (Amid w w1) := ⟨hbl, hg.below hbl⟩
  have hBy := hB'.wider (r' := w1.heap.size) (fun b hb => hbl.block b hb) hbl.size
  have hzA : wtT 11 A ≤ 10000 := by omega
  clear hbl hB hB' ha1
  obtain ⟨W2, HW2⟩ : ∃ W1, Hid (w1.alloc (.cells #[.int .i64 a0, .int .i64 a1, .string a2, .slice a3 a4 a5, .slice a6 a7 a8] 26) = W1) := ⟨_, rfl⟩
  have hA2 : Below w1.heap.size w1 W2 := by rw [← HW2.out]; exact below_alloc1 _ _
  have Ha : Hid (VarAt w W2 w1.heap.size a0 a1 a2 a3 a4 a5 a6 a7 a8 11 A) := by rw [← HW2.out]; exact VarAt.new ha
  clear ha
  go_wp2_with fail
  rw [HW2.out]
  clear HW2
  replace hBy := hBy.wider (r' := W2.heap.size) (fun b hb => hA2.block b hb) hA2.size
  replace HE := hide (HE.out.go hA2)
  clear hA2
  refine (drawRowPairs_any a' n' cap' W2 hcap' hBy).mono ?_
  rintro e w3 ⟨u, B, rfl, hb, hb1, hb3⟩
  obtain ⟨b0, b1, b2, b3, b4, b5, b6, b7, b8, rfl⟩ := hb.shape
  replace hb := freshP_wide hb HE.out.le
  clear hb1 hBy
  replace Ha := hide (Ha.out.go hb3)
  replace HE := hide (HE.out.go hb3)
  clear hb3
  obtain ⟨xa0, xa1, xa2, xa3, xa4⟩ := Ha.out.blk.cell
  have xal := Ha.out.blk.lt
  obtain ⟨W4, HW4⟩ : ∃ W1, Hid (w3.alloc (.cells #[.int .i64 b0, .int .i64 b1, .string b2, .slice b3 b4 b5, .slice b6 b7 b8] 26) = W1) := ⟨_, rfl⟩
  have hA4 : Below w3.heap.size w3 W4 := by rw [← HW4.out]; exact below_alloc1 _ _
  have Hb : Hid (VarAt w W4 w3.heap.size b0 b1 b2 b3 b4 b5 b6 b7 b8 11 B) := by rw [← HW4.out]; exact VarAt.new hb
  clear hb
  go_wp2_with fail
  rw [HW4.out]
  clear HW4
  clear xa0 xa1 xa2 xa3 xa4 xal
  replace Ha := hide (Ha.out.go hA4)
  replace HE := hide (HE.out.go hA4)
  clear hA4
  obtain ⟨⟨P, o1⟩, hP⟩ : ∃ r, Hid (pairsR 9 A = r) := ⟨_, rfl⟩
  have hzP : wtT 12 P ≤ 10000 := by have := wtT_ok (okT_pairs 9 A); rw [hP.out] at this; have h2 : wtT 12 P ≤ 300 := this; omega
  have hc := pairsI (d := 9) Ha.out.val HE.out.err HE.out.le
  rw [hP.out] at hc; dsimp only at hc
  refine hc.mono ?_
  clear hc
  rintro e w5 ⟨p0, p1, p2, p3, p4, p5, p6, p7, p8, rfl, hu5, hb5⟩
  replace Ha := hide (Ha.out.go hb5)
  replace Hb := hide (Hb.out.go hb5)
  replace HE := hide (HE.out.go hb5)
  clear hb5
  obtain ⟨xa0, xa1, xa2, xa3, xa4⟩ := Ha.out.blk.cell
  have xal := Ha.out.blk.lt
  obtain ⟨W6, HW6⟩ : ∃ W1, Hid (w5.alloc (.cells #[.int .i64 p0, .int .i64 p1, .string p2, .slice p3 p4 p5, .slice p6 p7 p8] 26) = W1) := ⟨_, rfl⟩
  have hA6 : Below w5.heap.size w5 W6 := by rw [← HW6.out]; exact below_alloc1 _ _
  have Hp : Hid (VarAt w W6 w5.heap.size p0 p1 p2 p3 p4 p5 p6 p7 p8 12 P) := by rw [← HW6.out]; exact VarAt.new hu5
  clear hu5
  go_wp2_with fail
  rw [HW6.out]
  clear HW6
  clear xa0 xa1 xa2 xa3 xa4 xal
  replace Ha := hide (Ha.out.go hA6)
  replace Hb := hide (Hb.out.go hA6)
  replace HE := hide (HE.out.go hA6)
  clear hA6
  have hc := pairsS (d := 9) Ha.out.val hzA HE.out.le
  rw [hP.out] at hc; dsimp only at hc
  refine hc.mono ?_
  clear hc
  rintro e w7 ⟨y0, y1, y2, y3, y4, y5, y6, y7, y8, rfl, hu7, hb7⟩
  replace Ha := hide (Ha.out.go hb7)
  replace Hb := hide (Hb.out.go hb7)
  replace Hp := hide (Hp.out.go hb7)
  replace HE := hide (HE.out.go hb7)
  clear hb7
  obtain ⟨xp0, xp1, xp2, xp3, xp4⟩ := Hp.out.blk.cell
  have xpl := Hp.out.blk.lt
  obtain ⟨W8, HW8⟩ : ∃ W1, Hid (w7.alloc (.cells #[.int .i64 y0, .int .i64 y1, .string y2, .slice y3 y4 y5, .slice y6 y7 y8] 26) = W1) := ⟨_, rfl⟩
  have hA8 : Below w7.heap.size w7 W8 := by rw [← HW8.out]; exact below_alloc1 _ _
  have Hy : Hid (VarAt w W8 w7.heap.size y0 y1 y2 y3 y4 y5 y6 y7 y8 12 P) := by rw [← HW8.out]; exact VarAt.new hu7
  clear hu7
  go_wp2_with fail
  rw [HW8.out]
  clear HW8
  clear xp0 xp1 xp2 xp3 xp4 xpl
  replace Ha := hide (Ha.out.go hA8)
  replace Hb := hide (Hb.out.go hA8)
  replace Hp := hide (Hp.out.go hA8)
  replace HE := hide (HE.out.go hA8)
  clear hA8
  have hc := samE Hp.out.val Hy.out.val hzP
  refine hc.mono ?_
  clear hc
  rintro e w9 ⟨rfl, hb9⟩
  replace Ha := hide (Ha.out.go hb9)
  replace Hb := hide (Hb.out.go hb9)
  replace Hp := hide (Hp.out.go hb9)
  replace Hy := hide (Hy.out.go hb9)
  replace HE := hide (HE.out.go hb9)
  clear hb9
  cases o1 with
  | false =>
    obtain ⟨xp0, xp1, xp2, xp3, xp4⟩ := Hp.out.blk.cell
    have xpl := Hp.out.blk.lt
    obtain ⟨xy0, xy1, xy2, xy3, xy4⟩ := Hy.out.blk.cell
    have xyl := Hy.out.blk.lt
    go_wp2_with fail
    clear xp0 xp1 xp2 xp3 xp4 xpl xy0 xy1 xy2 xy3 xy4 xyl
    have hc := samE Hp.out.val Hy.out.val hzP
    refine hc.mono ?_
    clear hc
    rintro e w10 ⟨rfl, hb10⟩
    replace Ha := hide (Ha.out.go hb10)
    replace Hb := hide (Hb.out.go hb10)
    replace Hp := hide (Hp.out.go hb10)
    replace Hy := hide (Hy.out.go hb10)
    replace HE := hide (HE.out.go hb10)
    clear hb10
    go_wp2_with fail
    go_ret
    exact ⟨rfl, HE.out.bel⟩
  | true =>
    clear Hy
    obtain ⟨xb0, xb1, xb2, xb3, xb4⟩ := Hb.out.blk.cell
    have xbl := Hb.out.blk.lt
    go_wp2_with fail
    obtain ⟨⟨Q, o2⟩, hQ⟩ : ∃ r, Hid (pairsR 9 B = r) := ⟨_, rfl⟩
    clear xb0 xb1 xb2 xb3 xb4 xbl
    have hc := pairsI (d := 9) Hb.out.val HE.out.err HE.out.le
    rw [hQ.out] at hc; dsimp only at hc
    refine hc.mono ?_
    clear hc
    rintro e w10 ⟨q0, q1, q2, q3, q4, q5, q6, q7, q8, rfl, hu10, hb10⟩
    replace Ha := hide (Ha.out.go hb10)
    replace Hb := hide (Hb.out.go hb10)
    replace Hp := hide (Hp.out.go hb10)
    replace HE := hide (HE.out.go hb10)
    clear hb10
    obtain ⟨xp0, xp1, xp2, xp3, xp4⟩ := Hp.out.blk.cell
    have xpl := Hp.out.blk.lt
    obtain ⟨W11, HW11⟩ : ∃ W1, Hid (w10.alloc (.cells #[.int .i64 q0, .int .i64 q1, .string q2, .slice q3 q4 q5, .slice q6 q7 q8] 26) = W1) := ⟨_, rfl⟩
    have hA11 : Below w10.heap.size w10 W11 := by rw [← HW11.out]; exact below_alloc1 _ _
    have Hq : Hid (VarAt w W11 w10.heap.size q0 q1 q2 q3 q4 q5 q6 q7 q8 12 Q) := by rw [← HW11.out]; exact VarAt.new hu10
    clear hu10
    go_wp2_with fail
    rw [HW11.out]
    clear HW11
    clear xp0 xp1 xp2 xp3 xp4 xpl
    replace Ha := hide (Ha.out.go hA11)
    replace Hb := hide (Hb.out.go hA11)
    replace Hp := hide (Hp.out.go hA11)
    replace HE := hide (HE.out.go hA11)
    clear hA11
    obtain ⟨xp0, xp1, xp2, xp3, xp4⟩ := Hp.out.blk.cell
    have xpl := Hp.out.blk.lt
    obtain ⟨xq0, xq1, xq2, xq3, xq4⟩ := Hq.out.blk.cell
    have xql := Hq.out.blk.lt
    obtain ⟨⟨S3, o3⟩, hS⟩ : ∃ r, Hid (partAddT 11 P Q = r) := ⟨_, rfl⟩
    clear xp0 xp1 xp2 xp3 xp4 xpl xq0 xq1 xq2 xq3 xq4 xql
    have hc := addI (d := 11) Hp.out.val Hq.out.val HE.out.err HE.out.le
    rw [hS.out] at hc; dsimp only at hc
    refine hc.mono ?_
    clear hc
    rintro e w12 ⟨s0, s1, s2, s3, s4, s5, s6, s7, s8, rfl, hu12, hb12⟩
    replace Ha := hide (Ha.out.go hb12)
    replace Hb := hide (Hb.out.go hb12)
    replace Hp := hide (Hp.out.go hb12)
    replace Hq := hide (Hq.out.go hb12)
    replace HE := hide (HE.out.go hb12)
    clear hb12
    clear Hp
    clear Hq
    obtain ⟨W13, HW13⟩ : ∃ W1, Hid (w12.alloc (.cells #[.int .i64 s0, .int .i64 s1, .string s2, .slice s3 s4 s5, .slice s6 s7 s8] 26) = W1) := ⟨_, rfl⟩
    have hA13 : Below w12.heap.size w12 W13 := by rw [← HW13.out]; exact below_alloc1 _ _
    have Hs : Hid (VarAt w W13 w12.heap.size s0 s1 s2 s3 s4 s5 s6 s7 s8 12 S3) := by rw [← HW13.out]; exact VarAt.new hu12
    clear hu12
    go_wp2_with fail
    rw [HW13.out]
    clear HW13
    replace Ha := hide (Ha.out.go hA13)
    replace Hb := hide (Hb.out.go hA13)
    replace HE := hide (HE.out.go hA13)
    clear hA13
    obtain ⟨⟨K, o4⟩, hK⟩ : ∃ r, Hid (rowTell (keysF 9) S3 = r) := ⟨_, rfl⟩
    have hzK : wtT 11 K ≤ 10000 := by have := wtT_ok (okT_rowTell (keysF 9) S3); rw [hK.out] at this; have h2 : wtT 11 K ≤ 300 := this; omega
    have hc := rkeysI (d := 9) Hs.out.val HE.out.err HE.out.le
    rw [hK.out] at hc; dsimp only at hc
    refine hc.mono ?_
    clear hc
    rintro e w14 ⟨k0, k1, k2, k3, k4, k5, k6, k7, k8, rfl, hu14, hb14⟩
    replace Ha := hide (Ha.out.go hb14)
    replace Hb := hide (Hb.out.go hb14)
    replace Hs := hide (Hs.out.go hb14)
    replace HE := hide (HE.out.go hb14)
    clear hb14
    clear Hs
    obtain ⟨xa0, xa1, xa2, xa3, xa4⟩ := Ha.out.blk.cell
    have xal := Ha.out.blk.lt
    obtain ⟨xb0, xb1, xb2, xb3, xb4⟩ := Hb.out.blk.cell
    have xbl := Hb.out.blk.lt
    obtain ⟨W15, HW15⟩ : ∃ W1, Hid (w14.alloc (.cells #[.int .i64 k0, .int .i64 k1, .string k2, .slice k3 k4 k5, .slice k6 k7 k8] 26) = W1) := ⟨_, rfl⟩
    have hA15 : Below w14.heap.size w14 W15 := by rw [← HW15.out]; exact below_alloc1 _ _
    have Hk : Hid (VarAt w W15 w14.heap.size k0 k1 k2 k3 k4 k5 k6 k7 k8 11 K) := by rw [← HW15.out]; exact VarAt.new hu14
    clear hu14
    go_wp2_with fail
    rw [HW15.out]
    clear HW15
    clear xa0 xa1 xa2 xa3 xa4 xal xb0 xb1 xb2 xb3 xb4 xbl
    replace Ha := hide (Ha.out.go hA15)
    replace Hb := hide (Hb.out.go hA15)
    replace HE := hide (HE.out.go hA15)
    clear hA15
    obtain ⟨xa0, xa1, xa2, xa3, xa4⟩ := Ha.out.blk.cell
    have xal := Ha.out.blk.lt
    obtain ⟨xb0, xb1, xb2, xb3, xb4⟩ := Hb.out.blk.cell
    have xbl := Hb.out.blk.lt
    obtain ⟨⟨T4, o5⟩, hT⟩ : ∃ r, Hid (partAddT 10 A B = r) := ⟨_, rfl⟩
    clear xa0 xa1 xa2 xa3 xa4 xal xb0 xb1 xb2 xb3 xb4 xbl
    have hc := addI (d := 10) Ha.out.val Hb.out.val HE.out.err HE.out.le
    rw [hT.out] at hc; dsimp only at hc
    refine hc.mono ?_
    clear hc
    rintro e w16 ⟨t0, t1, t2, t3, t4, t5, t6, t7, t8, rfl, hu16, hb16⟩
    replace Ha := hide (Ha.out.go hb16)
    replace Hb := hide (Hb.out.go hb16)
    replace Hk := hide (Hk.out.go hb16)
    replace HE := hide (HE.out.go hb16)
    clear hb16
    clear Ha
    clear Hb
    by_cases hall : o2 = true ∧ o3 = true ∧ o4 = true ∧ o5 = true
    ·
      obtain ⟨rfl, rfl, rfl, rfl⟩ := hall
      have hKT : K = T4 := by
        have h1 : (pairsR 9 A).2 = true := by rw [hP.out]
        have h2 : (pairsR 9 B).2 = true := by rw [hQ.out]
        have h3 : (partAddT 11 (pairsR 9 A).1 (pairsR 9 B).1).2 = true := by rw [hP.out, hQ.out, hS.out]
        have h4 : (rowTell (keysF 9) (partAddT 11 (pairsR 9 A).1 (pairsR 9 B).1).1).2 = true := by rw [hP.out, hQ.out, hS.out, hK.out]
        have h5 : (partAddT 10 A B).2 = true := by rw [hT.out]
        have h := keys_add h1 h2 h3 h4 h5
        rw [hP.out, hQ.out, hS.out, hK.out, hT.out] at h
        exact h
      subst hKT
      obtain ⟨xk0, xk1, xk2, xk3, xk4⟩ := Hk.out.blk.cell
      have xkl := Hk.out.blk.lt
      obtain ⟨W17, HW17⟩ : ∃ W1, Hid (w16.alloc (.cells #[.int .i64 t0, .int .i64 t1, .string t2, .slice t3 t4 t5, .slice t6 t7 t8] 26) = W1) := ⟨_, rfl⟩
      have hA17 : Below w16.heap.size w16 W17 := by rw [← HW17.out]; exact below_alloc1 _ _
      have Ht : Hid (VarAt w W17 w16.heap.size t0 t1 t2 t3 t4 t5 t6 t7 t8 11 K) := by rw [← HW17.out]; exact VarAt.new hu16
      clear hu16
      go_wp2_with fail
      rw [HW17.out]
      clear HW17
      clear xk0 xk1 xk2 xk3 xk4 xkl
      replace Hk := hide (Hk.out.go hA17)
      replace HE := hide (HE.out.go hA17)
      clear hA17
      have hc := samE Hk.out.val Ht.out.val hzK
      refine hc.mono ?_
      clear hc
      rintro e w18 ⟨rfl, hb18⟩
      replace Hk := hide (Hk.out.go hb18)
      replace Ht := hide (Ht.out.go hb18)
      replace HE := hide (HE.out.go hb18)
      clear hb18
      go_wp2_with fail
      go_ret
      exact ⟨rfl, HE.out.bel⟩
    ·
      cases o2 <;> cases o3 <;> cases o4 <;> cases o5 <;> first | (exact absurd ⟨rfl, rfl, rfl, rfl⟩ hall) | skip
      all_goals
        clear hall
        obtain ⟨xk0, xk1, xk2, xk3, xk4⟩ := Hk.out.blk.cell
        have xkl := Hk.out.blk.lt
        obtain ⟨W17, HW17⟩ : ∃ W1, Hid (w16.alloc (.cells #[.int .i64 t0, .int .i64 t1, .string t2, .slice t3 t4 t5, .slice t6 t7 t8] 26) = W1) := ⟨_, rfl⟩
        have hA17 : Below w16.heap.size w16 W17 := by rw [← HW17.out]; exact below_alloc1 _ _
        have Ht : Hid (VarAt w W17 w16.heap.size t0 t1 t2 t3 t4 t5 t6 t7 t8 11 T4) := by rw [← HW17.out]; exact VarAt.new hu16
        clear hu16
        go_wp2_with fail
        go_ret
        exact ⟨rfl, (HE.out.go (below_alloc1 _ _)).bel⟩
end Go.Proofs.YtohdpgclokgohaaGreatDoor
