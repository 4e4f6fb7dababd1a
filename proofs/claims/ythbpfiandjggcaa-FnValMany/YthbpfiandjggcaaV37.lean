/- Texts of the proof, put together by program: LFnMany. -/
import Derived.Test.YthbpfiandjggcaaV36
/- FnValMany: for all bytes that lie in memory the law answers true. -/
namespace Go.Proofs.Ythbpfiandjggcaa
open Go.RowKit Go.Deep

theorem manI_any {w W : World} {d : Nat} {t : Tr d} {v : Value} (h : ValAt (FreshP w W) W d t v) (hs : wtT d t ≤ 10000) : Calls Try.prog 13 #[v] W fun e w' => e = .returned (.int .i64 (manyOk d t)) ∧ Below W.heap.size W w' :=
  implValMany_any d _ t v W h within_P (by have := nodes_wt' d t; omega)
theorem manS_any {w W : World} {d : Nat} {t : Tr d} {v : Value} (h : ValAt (FreshP w W) W d t v) (hs : wtT d t ≤ 10000) : Calls Try.prog 14 #[v] W fun e w' => e = .returned (.int .i64 (manyOk d t)) ∧ Below W.heap.size W w' :=
  specValMany_any d _ t v W h within_P (by have := nodes_wt' d t; omega)
theorem okS_any {w W : World} {d : Nat} {t : Tr d} {v : Value} (h : ValAt (FreshP w W) W d t v) (hs : wtT d t ≤ 10000) : Calls Try.prog 15 #[v] W fun e w' => e = .returned (.bool (okT d t)) ∧ Below W.heap.size W w' :=
  specValOk_any d _ t v W h within_P (by have := nodes_wt' d t; omega)
theorem okI_any {w W : World} {d : Nat} {t : Tr d} {v : Value} (h : ValAt (FreshP w W) W d t v) : Calls Try.prog 16 #[v] W fun e w' => e = .returned (.bool (okT d t)) ∧ Below W.heap.size W w' := by
  have hc := implValOk_any d _ t v W h within_P
  rw [treeP_okT] at hc
  exact hc

set_option maxRecDepth 100000 in
set_option maxHeartbeats 4000000 in
theorem lawFnValMany (a : Option Addr) (n cap : Nat) (w : World) (hcap : n ≤ cap) (_hm : cap ≤ 9223372036854775807) (hB : BytesAt w.heap.size w a n) :
    Calls Try.prog 4 #[.slice a n cap] w fun e w' => e = .returned (.bool true) ∧ Below w.heap.size w w' := by
  by_cases hn : 1048576 < n
  · go_enter Try.func4, Try.ntmps4
    go_wp2_with fail
    go_ret
    exact ⟨rfl, Below.refl _ _⟩
  go_enter Try.func4, Try.ntmps4
  go_wp2_with fail
  refine (drawValSame_any a n cap w hcap hB).mono ?_
  rintro e w1 ⟨u, ta, u', tb, rfl, hv, hw, hv', hw', hb1⟩
  obtain ⟨v0, v1, v2, v3, v4, v5, v6, v7, v8, rfl⟩ := hv.shape
  obtain ⟨q0, q1, q2, q3, q4, q5, q6, q7, q8, rfl⟩ := hv'.shape
  have e7 : v7 = (Nd.list (α := Tr 10) ta).length := by
    have hl0 := (parts_of (d := 10) hv).2.2.2.2.2.2.2
    obtain ⟨_, _, hsl, _⟩ := hl0.open'
    cases hsl
    rfl
  have hl60 : (Nd.list (α := Tr 10) ta).length ≤ 1000 := by
    have hp : ∀ xs : List (Tr 10), xs.length ≤ (xs.map (wtT 10)).sum := fun xs => wt_len xs
    have := hp (Nd.list (α := Tr 10) ta)
    have e : wtT 11 ta = 3 + (Nd.keys (α := Tr 10) ta).length + ((Nd.list (α := Tr 10) ta).map (wtT 10)).sum := rfl
    omega
  have E7 := hide e7
  replace hl60 : v7 ≤ 1000 := by omega
  clear e7
  obtain ⟨W2, HW⟩ : ∃ W2, Hid (W2 = (w1.alloc (.cells #[.int .i64 v0, .int .i64 v1, .string v2, .slice v3 v4 v5, .slice v6 v7 v8] 26)).alloc (.cells #[.int .i64 q0, .int .i64 q1, .string q2, .slice q3 q4 q5, .slice q6 q7 q8] 26)) := ⟨_, rfl⟩
  obtain ⟨ka, kb, hb2⟩ := two_blocks w1 26 (.int .i64 v0) (.int .i64 v1) (.string v2) (.slice v3 v4 v5) (.slice v6 v7 v8) (.int .i64 q0) (.int .i64 q1) (.string q2) (.slice q3 q4 q5) (.slice q6 q7 q8)
  have hz2 : w1.heap.size + 1 < W2.heap.size := by rw [HW.out]; simp
  rw [← HW.out] at ka kb hb2
  have HT : Hid (Three w W2 w1.heap.size (w1.heap.size + 1) (w1.heap.size + 1) _ _ _ _ _ _ _ _ _ _ _ _ _ _ _ ta tb tb) := ⟨ka, kb, kb, freshP_go hv hb2, freshP_go hv' hb2, freshP_go hv' hb2, hw, hw', hw', below_trans hb1 hb2⟩
  clear hv hv' hb1 hb2 hB ka kb
  obtain ⟨N, hN⟩ : ∃ N : Nat, Hid (manyOk 11 ta = N) := ⟨_, rfl⟩
  obtain ⟨M, hM⟩ : ∃ M : Nat, Hid (manyOk 11 tb = M) := ⟨_, rfl⟩
  obtain ⟨hN60, hok⟩ : N ≤ 60 ∧ Hid (okT 11 ta = decide (0 < (N : Int))) := by
    cases h : okT 11 ta with
    | true =>
      have := many_pos h
      rw [hN.out] at this
      exact ⟨this.2, by show true = _; rw [eq_comm, decide_eq_true_eq]; omega⟩
    | false =>
      have := many_no h
      rw [hN.out] at this
      exact ⟨by omega, by show false = _; rw [this]; rfl⟩
  obtain ⟨SF, hSF⟩ : ∃ SF : Nat → Nat, Hid (∀ k, 1 + (((Nd.list (α := Tr 10) ta).take k).map (manyOk 10)).sum = SF k) := ⟨_, fun _ => rfl⟩
  have hS0 : Hid (SF 0 = 1) := by show SF 0 = 1; rw [← hSF.out 0]; simp
  have hS1 : Hid (∀ k x, (Nd.list (α := Tr 10) ta)[k]? = some x → SF (k + 1) = SF k + manyOk 10 x) := by
    intro k x hx
    obtain ⟨hlt, hx'⟩ := List.getElem?_eq_some_iff.1 hx
    rw [← hSF.out, ← hSF.out, List.take_succ_eq_append_getElem hlt, List.map_append, List.sum_append, hx']
    simp
    omega
  have hS2 : Hid (0 < N → SF v7 = N ∧ (∀ k, SF k ≤ N) ∧ okT 11 ta = true) := by
    intro h0
    have hk : okT 11 ta = true := by rw [hok.out, decide_eq_true_eq]; omega
    have hp := many_parts hk
    rw [hN.out] at hp
    refine ⟨?_, fun k => ?_, hk⟩
    · rw [← hSF.out, E7.out, List.take_length, ← hp]
    · rw [← hSF.out, hp]
      have hsp : ∀ (xs : List (Tr 10)) (k : Nat), ((xs.take k).map (manyOk 10)).sum ≤ (xs.map (manyOk 10)).sum := by
        intro xs
        induction xs with
        | nil => intro k; simp
        | cons y r ih =>
          intro k
          cases k with
          | zero => simp
          | succ k => have := ih k; simp only [List.take_succ_cons, List.map_cons, List.sum_cons]; omega
      have := hsp (Nd.list (α := Tr 10) ta) k
      omega
  have hM60 : M ≤ 60 := by
    cases h : okT 11 tb with
    | true => have := many_pos h; rw [hM.out] at this; exact this.2
    | false => have := many_no h; rw [hM.out] at this; omega
  by_cases hN0 : 0 < N
  case pos =>
    have hN0' : (0 : Int) < (N : Int) := by omega
    have hNe : ((N : Int) == 0) = false := by simp; omega
    have hNg : ¬ (N : Int) ≤ 0 := by omega
    obtain ⟨x0, x1, x2, x3, x4⟩ := HT.out.ka.cell
    go_wp2_with fail
    rw [← HW.out]
    clear HW x0 x1 x2 x3 x4
    have hc := manI_any HT.out.va (by have := HT.out.sa; omega)
    rw [hN.out] at hc
    refine hc.mono ?_
    clear hc
    rintro e w3 ⟨rfl, hb3⟩
    have HX := hide (HT.out.go hb3)
    clear HT hb3
    have HT := HX
    clear HX
    obtain ⟨x0, x1, x2, x3, x4⟩ := HT.out.ka.cell
    obtain ⟨y0, y1, y2, y3, y4⟩ := HT.out.kb.cell
    have xl := HT.out.ka.lt
    have yl := HT.out.kb.lt
    go_wp2_with fail
    clear xl yl x0 x1 x2 x3 x4 y0 y1 y2 y3 y4
    have hc := manS_any HT.out.va (by have := HT.out.sa; omega)
    rw [hN.out] at hc
    refine hc.mono ?_
    clear hc
    rintro e w4 ⟨rfl, hb4⟩
    have HX := hide (HT.out.go hb4)
    clear HT hb4
    have HT := HX
    clear HX
    obtain ⟨x0, x1, x2, x3, x4⟩ := HT.out.ka.cell
    obtain ⟨y0, y1, y2, y3, y4⟩ := HT.out.kb.cell
    have xl := HT.out.ka.lt
    have yl := HT.out.kb.lt
    go_wp2_with fail
    clear xl yl x0 x1 x2 x3 x4 y0 y1 y2 y3 y4
    have gd : (decide (0 < (N : Int)) != decide (0 < (N : Int))) = false := by simp
    have hc := okS_any HT.out.va (by have := HT.out.sa; omega)
    rw [hok.out] at hc
    refine hc.mono ?_
    clear hc
    rintro e w5 ⟨rfl, hb5⟩
    have HX := hide (HT.out.go hb5)
    clear HT hb5
    have HT := HX
    clear HX
    obtain ⟨x0, x1, x2, x3, x4⟩ := HT.out.ka.cell
    obtain ⟨y0, y1, y2, y3, y4⟩ := HT.out.kb.cell
    have xl := HT.out.ka.lt
    have yl := HT.out.kb.lt
    obtain ⟨U1, hU1⟩ : ∃ U1, Hid (w5.alloc (.cells #[.int .i64 v0, .int .i64 v1, .string v2, .slice v3 v4 v5, .slice v6 v7 v8, .int .i64 q0, .int .i64 q1, .string q2, .slice q3 q4 q5, .slice q6 q7 q8] 26) = U1) := ⟨_, rfl⟩
    obtain ⟨U2, hU2⟩ : ∃ U2, Hid (U1.alloc (.cells #[.int .i64 5, .int .i64 0, .string { data := #[] }, .slice none 0 0, .slice (some ⟨w5.heap.size, 0, none⟩) 2 2] 26) = U2) := ⟨_, rfl⟩
    have u1b : Below w5.heap.size w5 U1 := by rw [← hU1.out]; exact below_alloc1 _ _
    have u2b : Below U1.heap.size U1 U2 := by rw [← hU2.out]; exact below_alloc1 _ _
    have u1z : U1.heap.size = w5.heap.size + 1 := by rw [← hU1.out]; simp
    have u2z : U2.heap.size = U1.heap.size + 1 := by rw [← hU2.out]; simp
    have m1 : U2.heap[w5.heap.size]? = some (.cells #[.int .i64 v0, .int .i64 v1, .string v2, .slice v3 v4 v5, .slice v6 v7 v8, .int .i64 q0, .int .i64 q1, .string q2, .slice q3 q4 q5, .slice q6 q7 q8] 26 (0, 0)) := (u2b.block _ (by omega)).trans (by have := heap_alloc_new w5 (.cells #[.int .i64 v0, .int .i64 v1, .string v2, .slice v3 v4 v5, .slice v6 v7 v8, .int .i64 q0, .int .i64 q1, .string q2, .slice q3 q4 q5, .slice q6 q7 q8] 26); rw [hU1.out] at this; exact this)
    have m2 : Blk5 U2 (w5.heap.size + 1) 26 (.int .i64 5) (.int .i64 0) (.string { data := #[] }) (.slice none 0 0) (.slice (some ⟨w5.heap.size, 0, none⟩) 2 2) := by have := heap_alloc_new U1 (.cells #[.int .i64 5, .int .i64 0, .string { data := #[] }, .slice none 0 0, .slice (some ⟨w5.heap.size, 0, none⟩) 2 2] 26); rw [hU2.out, u1z] at this; exact this
    have H7 := HT.out.go (below_trans u1b u2b)
    have hw5 := HT.out.below.size
    have vx := rowD_at (S := FreshP w U2) (row2_at m1 ⟨⟨by omega, by omega⟩, ⟨_, _, m1⟩⟩ H7.va H7.vb)
    have HX := hide (And.intro H7 (And.intro vx m2))
    have xl1 : w1.heap.size < w5.heap.size + 1 := by omega
    have yl1 : w1.heap.size + 1 < w5.heap.size + 1 := by omega
    clear H7 vx m1 m2 u1b u2b u1z u2z HT
    go_wp2_with fail
    rw [hU1.out, hU2.out]
    have HT := hide HX.out.1
    have Q1 : wtT 12 (rowD [ta, tb]) ≤ 10000 := by show 3 + 0 + (wtT 11 ta + (wtT 11 tb + 0)) ≤ 10000; have := HT.out.sa; have := HT.out.sb; omega
    have c2 : Hid (∀ m : Ext U2, Calls Try.prog 13 #[.agg #[.int .i64 q0, .int .i64 q1, .string q2, .slice q3 q4 q5, .slice q6 q7 q8]] m.now fun e w' => e = .returned (.int .i64 (M : Int)) ∧ Below m.now.heap.size m.now w') := fun m => by
      have hc := manI_any (HT.out.go m.from_).vb (by have := HT.out.sb; omega); rw [hM.out] at hc; exact hc
    have hne := Ext.some U2
    obtain ⟨r0, r1, r2, r3, r4⟩ := HX.out.2.2.cell
    obtain ⟨s0, s1, s2, s3, s4⟩ := HT.out.kb.cell
    have dr0 := fun m => ext_cell r0 m
    have dr1 := fun m => ext_cell r1 m
    have dr2 := fun m => ext_cell r2 m
    have dr3 := fun m => ext_cell r3 m
    have dr4 := fun m => ext_cell r4 m
    have ds0 := fun m => ext_cell s0 m
    have ds1 := fun m => ext_cell s1 m
    have ds2 := fun m => ext_cell s2 m
    have ds3 := fun m => ext_cell s3 m
    have ds4 := fun m => ext_cell s4 m
    have hjoin : Hid (∃ w6, Hid (Three w w6 w1.heap.size (w1.heap.size + 1) (w1.heap.size + 1) _ _ _ _ _ _ _ _ _ _ _ _ _ _ _ ta tb tb)) := ⟨U2, HT⟩
    clear x0 x1 x2 x3 x4 y0 y1 y2 y3 y4 r0 r1 r2 r3 r4 s0 s1 s2 s3 s4 hjoin
    cases hrow : okT 12 (rowD [ta, tb]) with
    | false =>
      have c1 : Hid (∀ m : Ext U2, Calls Try.prog 16 #[.agg #[.int .i64 5, .int .i64 0, .string { data := #[] }, .slice none 0 0, .slice (some ⟨w5.heap.size, 0, none⟩) 2 2]] m.now fun e w' => e = .returned (.bool false) ∧ Below m.now.heap.size m.now w') := fun m => by
        have hc := okI_any (freshP_go HX.out.2.1 m.from_); rw [hrow] at hc; exact hc
      clear hrow
      refine wp_region_ext (by kernel_rfl) (by kernel_rfl) ?_
      repeat (first | go_big_quiet_step ((go_at_call 16; with_reducible exact Calls.ext_of (c1.out _))) | quiet_step ((go_at_call 16; with_reducible exact Calls.ext_of (c1.out _))))
      refine wpQuiet_nil ?_
      intro w10 hw10
      obtain ⟨m, rfl⟩ := hw10
      have HTm := hide (HX.out.1.go m.from_)
      clear HX HT dr0 dr1 dr2 dr3 dr4 ds0 ds1 ds2 ds3 ds4 c1 c2 hne hU1 hU2 Q1
      obtain ⟨W10, hW10⟩ : ∃ W10, Hid (m.now = W10) := ⟨_, rfl⟩
      rw [hW10.out] at HTm ⊢
      clear hW10
      obtain ⟨x0, x1, x2, x3, x4⟩ := HTm.out.ka.cell
      go_wp2_with fail
      have hTH : Hid (∃ b0 b1 b2 b3 b4, Three w W10 w1.heap.size (w1.heap.size + 1) (w1.heap.size + 1) (.int .i64 v0) (.int .i64 v1) (.string v2) (.slice v3 v4 v5) (.slice v6 v7 v8) b0 b1 b2 b3 b4 b0 b1 b2 b3 b4 ta tb tb) := ⟨_, _, _, _, _, HTm.out⟩
      have hS01 : (1 : Int) = ((SF 0 : Nat) : Int) := by rw [hS0.out]; rfl
      go_loopw [7, 8] (fun sm i wr => ∃ k : Nat, k ≤ v7 ∧ i = .int .i64 (k : Int) ∧ sm = .int .i64 ((SF k : Nat) : Int) ∧ Hid (∃ b0 b1 b2 b3 b4, Three w wr w1.heap.size (w1.heap.size + 1) (w1.heap.size + 1) (.int .i64 v0) (.int .i64 v1) (.string v2) (.slice v3 v4 v5) (.slice v6 v7 v8) b0 b1 b2 b3 b4 b0 b1 b2 b3 b4 ta tb tb)) (fun _ i _ => v7 - (intOf i).toNat)
      case atStart => exact ⟨0, Nat.zero_le _, rfl, by rw [hS0.out]; rfl, hTH⟩
      case round =>
        clear hTH HTm x0 x1 x2 x3 x4 hS01
        obtain ⟨k, hk, rfl, rfl, hth⟩ := hrel
        obtain ⟨b0, b1, b2, b3, b4, HT⟩ := hth.out
        obtain ⟨x0, x1, x2, x3, x4⟩ := HT.ka.cell
        have hbl := hide HT.below
        obtain ⟨hs2, hs3, hs4⟩ := hS2.out hN0
        by_cases hkl : k < v7
        · have hkl' : (k : Int) < (v7 : Int) := by omega
          have hl := (parts_of (d := 10) HT.va).2.2.2.2.2.2.2
          obtain ⟨pb, po, x, c0, c1, c2, c3, c4, hpa, hpS, hx, e0, e1, e2, e3, e4, hval⟩ := hl.cell (k := k) (by rw [← E7.out]; exact hkl)
          obtain ⟨p0, p1, p2, p3, p4, p5, p6, p7, p8, hp⟩ := hval.shape
          cases hp
          subst hpa
          have hkx := okT_part hs4 (List.mem_of_getElem? hx)
          have hwx : wtT 10 x ≤ 10000 := by
            have h1 := wt_mem (d := 10) hx
            have h2 := HT.sa
            have e : wtT 11 ta = 3 + (Nd.keys (α := Tr 10) ta).length + ((Nd.list (α := Tr 10) ta).map (wtT 10)).sum := rfl
            omega
          have hsk := hS1.out k x hx
          have hle := hs3 (k + 1)
          have hpl := hpS.1.2
          have HX := hide (And.intro HT (And.intro hval hkx))
          clear HT hval hkx hl hs2 hs3 hs4 hx hpS
          go_wp2_with fail
          have hc := okI_any HX.out.2.1
          rw [HX.out.2.2] at hc
          refine hc.mono ?_
          clear hc
          rintro e w11 ⟨rfl, hb11⟩
          have HT' := HX.out.1.go hb11
          have hval' := freshP_go HX.out.2.1 hb11
          have f0 := (hb11.cell (p := ⟨pb, po + k * 5, none⟩) hpl).trans e0
          have f1 := (hb11.cell (p := ⟨pb, po + k * 5 + 1, none⟩) hpl).trans e1
          have f2 := (hb11.cell (p := ⟨pb, po + k * 5 + 2, none⟩) hpl).trans e2
          have f3 := (hb11.cell (p := ⟨pb, po + k * 5 + 3, none⟩) hpl).trans e3
          have f4 := (hb11.cell (p := ⟨pb, po + k * 5 + 4, none⟩) hpl).trans e4
          obtain ⟨y0, y1, y2, y3, y4⟩ := HT'.ka.cell
          have HX' := hide (And.intro HT' hval')
          clear HX hb11 HT' hval' e0 e1 e2 e3 e4 x0 x1 x2 x3 x4
          go_wp2_with fail
          refine (manI_any HX'.out.2 hwx).mono ?_
          rintro e w12 ⟨rfl, hb12⟩
          have HY := hide (HX'.out.1.go hb12)
          have hsum : (((SF (k + 1) : Nat) : Int)) = ((SF k : Nat) : Int) + ((manyOk 10 x : Nat) : Int) := by omega
          have HS := hide hsum
          have hm1 : ((manyOk 10 x : Nat) : Int) ≤ 60 := by omega
          have hm2 : ((SF k : Nat) : Int) ≤ 60 := by omega
          clear HX' hb12 hsum f0 f1 f2 f3 f4 y0 y1 y2 y3 y4 hsk hle
          go_wp2_with fail
          go_roundw
          case rel =>
            first
              | exact ⟨k + 1, by omega, by go_num, by rw [HS.out], _, _, _, _, _, HY.out⟩
              | ((repeat apply Exists.intro); exact ⟨⟨k + 1, by omega, by go_num, by rw [HS.out], _, _, _, _, _, HY.out⟩, rfl⟩)
          case measure => simp [intOf]; omega
        · obtain rfl : k = v7 := by omega
          rw [hs2]
          have hq : ((N : Int) == (N : Int)) = true := by simp
          have hd : decide ((N : Int) ≤ 60) = true := by rw [decide_eq_true_eq]; omega
          have hd2 : (N : Int) ≤ 60 := by omega
          clear HT hs3 hs4 hs2
          go_wp2_with fail
          go_ret
          exact ⟨rfl, hbl.out⟩
    | true =>
      have hsum : manyOk 12 (rowD [ta, tb]) = N + M + 1 := by
        rw [many_parts hrow]
        show 1 + (manyOk 11 ta + (manyOk 11 tb + 0)) = N + M + 1
        rw [hN.out, hM.out]
        omega
      have c1 : Hid (∀ m : Ext U2, Calls Try.prog 16 #[.agg #[.int .i64 5, .int .i64 0, .string { data := #[] }, .slice none 0 0, .slice (some ⟨w5.heap.size, 0, none⟩) 2 2]] m.now fun e w' => e = .returned (.bool true) ∧ Below m.now.heap.size m.now w') := fun m => by
        have hc := okI_any (freshP_go HX.out.2.1 m.from_); rw [hrow] at hc; exact hc
      have c3 : Hid (∀ m : Ext U2, Calls Try.prog 13 #[.agg #[.int .i64 5, .int .i64 0, .string { data := #[] }, .slice none 0 0, .slice (some ⟨w5.heap.size, 0, none⟩) 2 2]] m.now fun e w' => e = .returned (.int .i64 ((N : Int) + (M : Int) + 1)) ∧ Below m.now.heap.size m.now w') := fun m => by
        have hc := manI_any (freshP_go HX.out.2.1 m.from_) Q1
        rw [hsum, show ((N + M + 1 : Nat) : Int) = (N : Int) + (M : Int) + 1 by omega] at hc
        exact hc
      have gq : (((N : Int) + (M : Int) + 1) != ((N : Int) + (M : Int) + 1)) = false := by simp
      clear hrow hsum
      refine wp_region_ext (by kernel_rfl) (by kernel_rfl) ?_
      repeat (first | go_big_quiet_step ((first | (go_at_call 16; with_reducible exact Calls.ext_of (c1.out _)) | (go_at_call 13; first | with_reducible exact Calls.ext_of (c2.out _) | with_reducible exact Calls.ext_of (c3.out _)))) | quiet_step ((first | (go_at_call 16; with_reducible exact Calls.ext_of (c1.out _)) | (go_at_call 13; first | with_reducible exact Calls.ext_of (c2.out _) | with_reducible exact Calls.ext_of (c3.out _)))))
      refine wpQuiet_nil ?_
      intro w10 hw10
      obtain ⟨m, rfl⟩ := hw10
      have HTm := hide (HX.out.1.go m.from_)
      clear HX HT dr0 dr1 dr2 dr3 dr4 ds0 ds1 ds2 ds3 ds4 c1 c2 hne hU1 hU2 Q1 c3
      obtain ⟨W10, hW10⟩ : ∃ W10, Hid (m.now = W10) := ⟨_, rfl⟩
      rw [hW10.out] at HTm ⊢
      clear hW10
      obtain ⟨x0, x1, x2, x3, x4⟩ := HTm.out.ka.cell
      go_wp2_with fail
      have hTH : Hid (∃ b0 b1 b2 b3 b4, Three w W10 w1.heap.size (w1.heap.size + 1) (w1.heap.size + 1) (.int .i64 v0) (.int .i64 v1) (.string v2) (.slice v3 v4 v5) (.slice v6 v7 v8) b0 b1 b2 b3 b4 b0 b1 b2 b3 b4 ta tb tb) := ⟨_, _, _, _, _, HTm.out⟩
      have hS01 : (1 : Int) = ((SF 0 : Nat) : Int) := by rw [hS0.out]; rfl
      go_loopw [7, 8] (fun sm i wr => ∃ k : Nat, k ≤ v7 ∧ i = .int .i64 (k : Int) ∧ sm = .int .i64 ((SF k : Nat) : Int) ∧ Hid (∃ b0 b1 b2 b3 b4, Three w wr w1.heap.size (w1.heap.size + 1) (w1.heap.size + 1) (.int .i64 v0) (.int .i64 v1) (.string v2) (.slice v3 v4 v5) (.slice v6 v7 v8) b0 b1 b2 b3 b4 b0 b1 b2 b3 b4 ta tb tb)) (fun _ i _ => v7 - (intOf i).toNat)
      case atStart => exact ⟨0, Nat.zero_le _, rfl, by rw [hS0.out]; rfl, hTH⟩
      case round =>
        clear hTH HTm x0 x1 x2 x3 x4 hS01
        obtain ⟨k, hk, rfl, rfl, hth⟩ := hrel
        obtain ⟨b0, b1, b2, b3, b4, HT⟩ := hth.out
        obtain ⟨x0, x1, x2, x3, x4⟩ := HT.ka.cell
        have hbl := hide HT.below
        obtain ⟨hs2, hs3, hs4⟩ := hS2.out hN0
        by_cases hkl : k < v7
        · have hkl' : (k : Int) < (v7 : Int) := by omega
          have hl := (parts_of (d := 10) HT.va).2.2.2.2.2.2.2
          obtain ⟨pb, po, x, c0, c1, c2, c3, c4, hpa, hpS, hx, e0, e1, e2, e3, e4, hval⟩ := hl.cell (k := k) (by rw [← E7.out]; exact hkl)
          obtain ⟨p0, p1, p2, p3, p4, p5, p6, p7, p8, hp⟩ := hval.shape
          cases hp
          subst hpa
          have hkx := okT_part hs4 (List.mem_of_getElem? hx)
          have hwx : wtT 10 x ≤ 10000 := by
            have h1 := wt_mem (d := 10) hx
            have h2 := HT.sa
            have e : wtT 11 ta = 3 + (Nd.keys (α := Tr 10) ta).length + ((Nd.list (α := Tr 10) ta).map (wtT 10)).sum := rfl
            omega
          have hsk := hS1.out k x hx
          have hle := hs3 (k + 1)
          have hpl := hpS.1.2
          have HX := hide (And.intro HT (And.intro hval hkx))
          clear HT hval hkx hl hs2 hs3 hs4 hx hpS
          go_wp2_with fail
          have hc := okI_any HX.out.2.1
          rw [HX.out.2.2] at hc
          refine hc.mono ?_
          clear hc
          rintro e w11 ⟨rfl, hb11⟩
          have HT' := HX.out.1.go hb11
          have hval' := freshP_go HX.out.2.1 hb11
          have f0 := (hb11.cell (p := ⟨pb, po + k * 5, none⟩) hpl).trans e0
          have f1 := (hb11.cell (p := ⟨pb, po + k * 5 + 1, none⟩) hpl).trans e1
          have f2 := (hb11.cell (p := ⟨pb, po + k * 5 + 2, none⟩) hpl).trans e2
          have f3 := (hb11.cell (p := ⟨pb, po + k * 5 + 3, none⟩) hpl).trans e3
          have f4 := (hb11.cell (p := ⟨pb, po + k * 5 + 4, none⟩) hpl).trans e4
          obtain ⟨y0, y1, y2, y3, y4⟩ := HT'.ka.cell
          have HX' := hide (And.intro HT' hval')
          clear HX hb11 HT' hval' e0 e1 e2 e3 e4 x0 x1 x2 x3 x4
          go_wp2_with fail
          refine (manI_any HX'.out.2 hwx).mono ?_
          rintro e w12 ⟨rfl, hb12⟩
          have HY := hide (HX'.out.1.go hb12)
          have hsum : (((SF (k + 1) : Nat) : Int)) = ((SF k : Nat) : Int) + ((manyOk 10 x : Nat) : Int) := by omega
          have HS := hide hsum
          have hm1 : ((manyOk 10 x : Nat) : Int) ≤ 60 := by omega
          have hm2 : ((SF k : Nat) : Int) ≤ 60 := by omega
          clear HX' hb12 hsum f0 f1 f2 f3 f4 y0 y1 y2 y3 y4 hsk hle
          go_wp2_with fail
          go_roundw
          case rel =>
            first
              | exact ⟨k + 1, by omega, by go_num, by rw [HS.out], _, _, _, _, _, HY.out⟩
              | ((repeat apply Exists.intro); exact ⟨⟨k + 1, by omega, by go_num, by rw [HS.out], _, _, _, _, _, HY.out⟩, rfl⟩)
          case measure => simp [intOf]; omega
        · obtain rfl : k = v7 := by omega
          rw [hs2]
          have hq : ((N : Int) == (N : Int)) = true := by simp
          have hd : decide ((N : Int) ≤ 60) = true := by rw [decide_eq_true_eq]; omega
          have hd2 : (N : Int) ≤ 60 := by omega
          clear HT hs3 hs4 hs2
          go_wp2_with fail
          go_ret
          exact ⟨rfl, hbl.out⟩
  case neg =>
    obtain rfl : N = 0 := by omega
    clear hN0 hS2
    obtain ⟨x0, x1, x2, x3, x4⟩ := HT.out.ka.cell
    go_wp2_with fail
    rw [← HW.out]
    clear HW x0 x1 x2 x3 x4
    have hc := manI_any HT.out.va (by have := HT.out.sa; omega)
    rw [hN.out] at hc
    refine hc.mono ?_
    clear hc
    rintro e w3 ⟨rfl, hb3⟩
    have HX := hide (HT.out.go hb3)
    clear HT hb3
    have HT := HX
    clear HX
    obtain ⟨x0, x1, x2, x3, x4⟩ := HT.out.ka.cell
    obtain ⟨y0, y1, y2, y3, y4⟩ := HT.out.kb.cell
    have xl := HT.out.ka.lt
    have yl := HT.out.kb.lt
    go_wp2_with fail
    clear xl yl x0 x1 x2 x3 x4 y0 y1 y2 y3 y4
    have hc := manS_any HT.out.va (by have := HT.out.sa; omega)
    rw [hN.out] at hc
    refine hc.mono ?_
    clear hc
    rintro e w4 ⟨rfl, hb4⟩
    have HX := hide (HT.out.go hb4)
    clear HT hb4
    have HT := HX
    clear HX
    obtain ⟨x0, x1, x2, x3, x4⟩ := HT.out.ka.cell
    obtain ⟨y0, y1, y2, y3, y4⟩ := HT.out.kb.cell
    have xl := HT.out.ka.lt
    have yl := HT.out.kb.lt
    go_wp2_with fail
    clear xl yl x0 x1 x2 x3 x4 y0 y1 y2 y3 y4
    have hc := okS_any HT.out.va (by have := HT.out.sa; omega)
    rw [hok.out] at hc
    refine hc.mono ?_
    clear hc
    rintro e w5 ⟨rfl, hb5⟩
    have HX := hide (HT.out.go hb5)
    clear HT hb5
    have HT := HX
    clear HX
    obtain ⟨x0, x1, x2, x3, x4⟩ := HT.out.ka.cell
    obtain ⟨y0, y1, y2, y3, y4⟩ := HT.out.kb.cell
    have xl := HT.out.ka.lt
    have yl := HT.out.kb.lt
    obtain ⟨U1, hU1⟩ : ∃ U1, Hid (w5.alloc (.cells #[.int .i64 v0, .int .i64 v1, .string v2, .slice v3 v4 v5, .slice v6 v7 v8, .int .i64 q0, .int .i64 q1, .string q2, .slice q3 q4 q5, .slice q6 q7 q8] 26) = U1) := ⟨_, rfl⟩
    obtain ⟨U2, hU2⟩ : ∃ U2, Hid (U1.alloc (.cells #[.int .i64 5, .int .i64 0, .string { data := #[] }, .slice none 0 0, .slice (some ⟨w5.heap.size, 0, none⟩) 2 2] 26) = U2) := ⟨_, rfl⟩
    have u1b : Below w5.heap.size w5 U1 := by rw [← hU1.out]; exact below_alloc1 _ _
    have u2b : Below U1.heap.size U1 U2 := by rw [← hU2.out]; exact below_alloc1 _ _
    have u1z : U1.heap.size = w5.heap.size + 1 := by rw [← hU1.out]; simp
    have u2z : U2.heap.size = U1.heap.size + 1 := by rw [← hU2.out]; simp
    have m1 : U2.heap[w5.heap.size]? = some (.cells #[.int .i64 v0, .int .i64 v1, .string v2, .slice v3 v4 v5, .slice v6 v7 v8, .int .i64 q0, .int .i64 q1, .string q2, .slice q3 q4 q5, .slice q6 q7 q8] 26 (0, 0)) := (u2b.block _ (by omega)).trans (by have := heap_alloc_new w5 (.cells #[.int .i64 v0, .int .i64 v1, .string v2, .slice v3 v4 v5, .slice v6 v7 v8, .int .i64 q0, .int .i64 q1, .string q2, .slice q3 q4 q5, .slice q6 q7 q8] 26); rw [hU1.out] at this; exact this)
    have m2 : Blk5 U2 (w5.heap.size + 1) 26 (.int .i64 5) (.int .i64 0) (.string { data := #[] }) (.slice none 0 0) (.slice (some ⟨w5.heap.size, 0, none⟩) 2 2) := by have := heap_alloc_new U1 (.cells #[.int .i64 5, .int .i64 0, .string { data := #[] }, .slice none 0 0, .slice (some ⟨w5.heap.size, 0, none⟩) 2 2] 26); rw [hU2.out, u1z] at this; exact this
    have H7 := HT.out.go (below_trans u1b u2b)
    have hw5 := HT.out.below.size
    have vx := rowD_at (S := FreshP w U2) (row2_at m1 ⟨⟨by omega, by omega⟩, ⟨_, _, m1⟩⟩ H7.va H7.vb)
    have HX := hide (And.intro H7 (And.intro vx m2))
    have xl1 : w1.heap.size < w5.heap.size + 1 := by omega
    have yl1 : w1.heap.size + 1 < w5.heap.size + 1 := by omega
    clear H7 vx m1 m2 u1b u2b u1z u2z HT
    go_wp2_with fail
    rw [hU1.out, hU2.out]
    have HT := hide HX.out.1
    have Q1 : wtT 12 (rowD [ta, tb]) ≤ 10000 := by show 3 + 0 + (wtT 11 ta + (wtT 11 tb + 0)) ≤ 10000; have := HT.out.sa; have := HT.out.sb; omega
    have c2 : Hid (∀ m : Ext U2, Calls Try.prog 13 #[.agg #[.int .i64 q0, .int .i64 q1, .string q2, .slice q3 q4 q5, .slice q6 q7 q8]] m.now fun e w' => e = .returned (.int .i64 (M : Int)) ∧ Below m.now.heap.size m.now w') := fun m => by
      have hc := manI_any (HT.out.go m.from_).vb (by have := HT.out.sb; omega); rw [hM.out] at hc; exact hc
    have hne := Ext.some U2
    obtain ⟨r0, r1, r2, r3, r4⟩ := HX.out.2.2.cell
    obtain ⟨s0, s1, s2, s3, s4⟩ := HT.out.kb.cell
    have dr0 := fun m => ext_cell r0 m
    have dr1 := fun m => ext_cell r1 m
    have dr2 := fun m => ext_cell r2 m
    have dr3 := fun m => ext_cell r3 m
    have dr4 := fun m => ext_cell r4 m
    have ds0 := fun m => ext_cell s0 m
    have ds1 := fun m => ext_cell s1 m
    have ds2 := fun m => ext_cell s2 m
    have ds3 := fun m => ext_cell s3 m
    have ds4 := fun m => ext_cell s4 m
    have hjoin : Hid (∃ w6, Hid (Three w w6 w1.heap.size (w1.heap.size + 1) (w1.heap.size + 1) _ _ _ _ _ _ _ _ _ _ _ _ _ _ _ ta tb tb)) := ⟨U2, HT⟩
    clear x0 x1 x2 x3 x4 y0 y1 y2 y3 y4 r0 r1 r2 r3 r4 s0 s1 s2 s3 s4 hjoin
    cases hrow : okT 12 (rowD [ta, tb]) with
    | false =>
      have c1 : Hid (∀ m : Ext U2, Calls Try.prog 16 #[.agg #[.int .i64 5, .int .i64 0, .string { data := #[] }, .slice none 0 0, .slice (some ⟨w5.heap.size, 0, none⟩) 2 2]] m.now fun e w' => e = .returned (.bool false) ∧ Below m.now.heap.size m.now w') := fun m => by
        have hc := okI_any (freshP_go HX.out.2.1 m.from_); rw [hrow] at hc; exact hc
      clear hrow
      refine wp_region_ext (by kernel_rfl) (by kernel_rfl) ?_
      repeat (first | go_big_quiet_step ((go_at_call 16; with_reducible exact Calls.ext_of (c1.out _))) | quiet_step ((go_at_call 16; with_reducible exact Calls.ext_of (c1.out _))))
      refine wpQuiet_nil ?_
      intro w10 hw10
      obtain ⟨m, rfl⟩ := hw10
      have HTm := hide (HX.out.1.go m.from_)
      clear HX HT dr0 dr1 dr2 dr3 dr4 ds0 ds1 ds2 ds3 ds4 c1 c2 hne hU1 hU2 Q1
      obtain ⟨W10, hW10⟩ : ∃ W10, Hid (m.now = W10) := ⟨_, rfl⟩
      rw [hW10.out] at HTm ⊢
      clear hW10
      obtain ⟨x0, x1, x2, x3, x4⟩ := HTm.out.ka.cell
      go_wp2_with fail
      have hTH : Hid (∃ b0 b1 b2 b3 b4, Three w W10 w1.heap.size (w1.heap.size + 1) (w1.heap.size + 1) (.int .i64 v0) (.int .i64 v1) (.string v2) (.slice v3 v4 v5) (.slice v6 v7 v8) b0 b1 b2 b3 b4 b0 b1 b2 b3 b4 ta tb tb) := ⟨_, _, _, _, _, HTm.out⟩
      have hS01 : (1 : Int) = ((SF 0 : Nat) : Int) := by rw [hS0.out]; rfl
      go_loopw [7, 8] (fun sm i wr => ∃ k : Nat, k ≤ v7 ∧ i = .int .i64 (k : Int) ∧ sm = .int .i64 ((SF k : Nat) : Int) ∧ Hid (∃ b0 b1 b2 b3 b4, Three w wr w1.heap.size (w1.heap.size + 1) (w1.heap.size + 1) (.int .i64 v0) (.int .i64 v1) (.string v2) (.slice v3 v4 v5) (.slice v6 v7 v8) b0 b1 b2 b3 b4 b0 b1 b2 b3 b4 ta tb tb)) (fun _ i _ => v7 - (intOf i).toNat)
      case atStart => exact ⟨0, Nat.zero_le _, rfl, by rw [hS0.out]; rfl, hTH⟩
      case round =>
        clear hTH HTm x0 x1 x2 x3 x4 hS01
        obtain ⟨k, hk, rfl, rfl, hth⟩ := hrel
        obtain ⟨b0, b1, b2, b3, b4, HT⟩ := hth.out
        obtain ⟨x0, x1, x2, x3, x4⟩ := HT.ka.cell
        have hbl := hide HT.below
        clear HT
        by_cases hkl : k < v7
        · have hkl' : (k : Int) < (v7 : Int) := by omega
          go_wp2_with fail
          go_ret
          exact ⟨rfl, hbl.out⟩
        · have hkl' : ¬ (k : Int) < (v7 : Int) := by omega
          go_wp2_with fail
          go_ret
          exact ⟨rfl, hbl.out⟩
    | true =>
      have hsum : manyOk 12 (rowD [ta, tb]) = M + 1 := by
        rw [many_parts hrow]
        show 1 + (manyOk 11 ta + (manyOk 11 tb + 0)) = M + 1
        rw [hN.out, hM.out]
        omega
      have c1 : Hid (∀ m : Ext U2, Calls Try.prog 16 #[.agg #[.int .i64 5, .int .i64 0, .string { data := #[] }, .slice none 0 0, .slice (some ⟨w5.heap.size, 0, none⟩) 2 2]] m.now fun e w' => e = .returned (.bool true) ∧ Below m.now.heap.size m.now w') := fun m => by
        have hc := okI_any (freshP_go HX.out.2.1 m.from_); rw [hrow] at hc; exact hc
      have c3 : Hid (∀ m : Ext U2, Calls Try.prog 13 #[.agg #[.int .i64 5, .int .i64 0, .string { data := #[] }, .slice none 0 0, .slice (some ⟨w5.heap.size, 0, none⟩) 2 2]] m.now fun e w' => e = .returned (.int .i64 ((M : Int) + 1)) ∧ Below m.now.heap.size m.now w') := fun m => by
        have hc := manI_any (freshP_go HX.out.2.1 m.from_) Q1
        rw [hsum, show ((M + 1 : Nat) : Int) = (M : Int) + 1 by omega] at hc
        exact hc
      have gq : (((M : Int) + 1) != ((M : Int) + 1)) = false := by simp
      clear hrow hsum
      refine wp_region_ext (by kernel_rfl) (by kernel_rfl) ?_
      repeat (first | go_big_quiet_step ((first | (go_at_call 16; with_reducible exact Calls.ext_of (c1.out _)) | (go_at_call 13; first | with_reducible exact Calls.ext_of (c2.out _) | with_reducible exact Calls.ext_of (c3.out _)))) | quiet_step ((first | (go_at_call 16; with_reducible exact Calls.ext_of (c1.out _)) | (go_at_call 13; first | with_reducible exact Calls.ext_of (c2.out _) | with_reducible exact Calls.ext_of (c3.out _)))))
      refine wpQuiet_nil ?_
      intro w10 hw10
      obtain ⟨m, rfl⟩ := hw10
      have HTm := hide (HX.out.1.go m.from_)
      clear HX HT dr0 dr1 dr2 dr3 dr4 ds0 ds1 ds2 ds3 ds4 c1 c2 hne hU1 hU2 Q1 c3
      obtain ⟨W10, hW10⟩ : ∃ W10, Hid (m.now = W10) := ⟨_, rfl⟩
      rw [hW10.out] at HTm ⊢
      clear hW10
      obtain ⟨x0, x1, x2, x3, x4⟩ := HTm.out.ka.cell
      go_wp2_with fail
      have hTH : Hid (∃ b0 b1 b2 b3 b4, Three w W10 w1.heap.size (w1.heap.size + 1) (w1.heap.size + 1) (.int .i64 v0) (.int .i64 v1) (.string v2) (.slice v3 v4 v5) (.slice v6 v7 v8) b0 b1 b2 b3 b4 b0 b1 b2 b3 b4 ta tb tb) := ⟨_, _, _, _, _, HTm.out⟩
      have hS01 : (1 : Int) = ((SF 0 : Nat) : Int) := by rw [hS0.out]; rfl
      go_loopw [7, 8] (fun sm i wr => ∃ k : Nat, k ≤ v7 ∧ i = .int .i64 (k : Int) ∧ sm = .int .i64 ((SF k : Nat) : Int) ∧ Hid (∃ b0 b1 b2 b3 b4, Three w wr w1.heap.size (w1.heap.size + 1) (w1.heap.size + 1) (.int .i64 v0) (.int .i64 v1) (.string v2) (.slice v3 v4 v5) (.slice v6 v7 v8) b0 b1 b2 b3 b4 b0 b1 b2 b3 b4 ta tb tb)) (fun _ i _ => v7 - (intOf i).toNat)
      case atStart => exact ⟨0, Nat.zero_le _, rfl, by rw [hS0.out]; rfl, hTH⟩
      case round =>
        clear hTH HTm x0 x1 x2 x3 x4 hS01
        obtain ⟨k, hk, rfl, rfl, hth⟩ := hrel
        obtain ⟨b0, b1, b2, b3, b4, HT⟩ := hth.out
        obtain ⟨x0, x1, x2, x3, x4⟩ := HT.ka.cell
        have hbl := hide HT.below
        clear HT
        by_cases hkl : k < v7
        · have hkl' : (k : Int) < (v7 : Int) := by omega
          go_wp2_with fail
          go_ret
          exact ⟨rfl, hbl.out⟩
        · have hkl' : ¬ (k : Int) < (v7 : Int) := by omega
          go_wp2_with fail
          go_ret
          exact ⟨rfl, hbl.out⟩

end Go.Proofs.Ythbpfiandjggcaa
