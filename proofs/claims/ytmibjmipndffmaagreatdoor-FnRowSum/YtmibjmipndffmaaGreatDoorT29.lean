/- Texts of the proof, put together by program: WSumI. -/
import Derived.Test.YtmibjmipndffmaaGreatDoorT25
import Derived.Test.YtmibjmipndffmaaGreatDoorT28
import Derived.Test.YtmibjmipndffmaaGreatDoorT23
import Derived.Deep.DeepMust
import Derived.Test.YtmibjmipndffmaaGreatDoorT21
/- sumOfRow, RowSum of the program. -/
namespace Go.Proofs.YtmibjmipndffmaaGreatDoor
open Go.RowKit Go.Deep

theorem Row1At.nth2 {α : Type} {S : Nat → Prop} {w : World} {At : α → Value → Prop} {a : Option Addr} {n cap k : Nat} {xs : List α} (h : Row1At S w At (.slice a n cap) xs) (hk : k < xs.length) : ∃ b o x u, a = some ⟨b, o, none⟩ ∧ S b ∧ xs[k]? = some x ∧ w.cell? ⟨b, o + k, none⟩ = some u ∧ At x u := by
  obtain ⟨_, a', cap', hv, h3⟩ := h
  cases hv
  rcases h3 with rfl | ⟨b, o, hB, ha, hc⟩
  · simp at hk
  · obtain ⟨u, e0, e1⟩ := hc k _ (List.getElem?_eq_getElem hk)
    exact ⟨b, o, xs[k], u, ha, hB, List.getElem?_eq_getElem hk, e0, e1⟩
set_option maxRecDepth 100000 in
set_option maxHeartbeats 16000000 in
theorem sumOfRow_any (d N : Nat) (xs : List (Tr (d + 1))) (a : Option Addr) (cap : Nat) (vs : List Value) (w : World) (hto0 : GTo N w (.slice a xs.length cap) xs vs) (hN : N ≤ w.heap.size) (hl : xs.length ≤ 60) (hg : ErrType w) :
    Calls Tryz.prog 65 #[.slice a xs.length cap] w (TellF d N (sumF d xs) w) := by
  obtain ⟨S, hSd⟩ : ∃ S : Nat → Prop, S = fun b => N ≤ b ∧ b < w.heap.size := ⟨_, rfl⟩
  have hrow0 : Row1At S w (TreeG S w (d + 1)) (.slice a xs.length cap) xs := by rw [hSd]; exact hto0.row (by omega)
  have hSw : Within S w := by rw [hSd]; exact fun b hb => hb.2
  have hst : Hid (VarAt w (w.alloc (.cells #[.int .i64 0, .int .i64 0, .string { data := #[] }, .slice none 0 0, .slice none 0 0] 26)) w.heap.size 0 0 { data := #[] } none 0 0 none 0 0 (d + 1) (zeroT d)) := VarAt.new (zero_at _ _ d)
  have hbs : Hid (Below w.heap.size w (w.alloc (.cells #[.int .i64 0, .int .i64 0, .string { data := #[] }, .slice none 0 0, .slice none 0 0] 26))) := below_alloc1 _ _
  have HG := hide hg
  clear hSd hto0 hg
  go_enter Tryz.func65, Tryz.ntmps65
  go_wp2_with fail
  go_loopw [12] (fun i wr => ∃ (m : Nat) (acc : Tr (d + 1)) (c0 c1 : Int) (c2 : ByteArray) (c3 : Option Addr) (c4 c5 : Nat) (c6 : Option Addr) (c7 c8 : Nat), m ≤ xs.length ∧ i = .int .i64 (m : Int) ∧ Hid (okT (d + 1) acc = true) ∧ Hid (sumF d xs = sumS (xs.drop m) acc) ∧ Hid (VarAt w wr w.heap.size c0 c1 c2 c3 c4 c5 c6 c7 c8 (d + 1) acc) ∧ Hid (Below w.heap.size w wr)) (fun i _ => xs.length - (intOf i).toNat)
  case atStart => exact ⟨0, _, _, _, _, _, _, _, _, _, _, Nat.zero_le _, rfl, okT_zero d, rfl, hst, hbs⟩
  case round =>
    clear hst hbs
    obtain ⟨m, acc, c0, c1, c2, c3, c4, c5, c6, c7, c8, hm, rfl, hacc, hfin, HO, HBR⟩ := hrel
    have hsz : w.heap.size < wr.heap.size := HO.out.blk.lt
    obtain ⟨z0, z1, z2, z3, z4⟩ := HO.out.blk.cell
    by_cases hmt : m < xs.length
    · have hmi : (m : Int) < (xs.length : Int) := by omega
      have hmv := hSw.same HBR.out
      have hrow := hrow0.moved (At' := TreeG S wr (d + 1)) hmv (fun _ h => h) (fun x u hx => TreeG.moved hmv (fun _ h => h) (d + 1) x u hx)
      obtain ⟨eb, eo, y, u, rfl, hbS, hy, e0, hu⟩ := hrow.nth2 hmt
      have hstp := hide (sumS_step hy acc)
      obtain ⟨⟨X, o1⟩, hX⟩ : ∃ r, Hid (partAddT d acc y = r) := ⟨_, rfl⟩
      have KK : Hid (∀ W', Below wr.heap.size wr W' → W'.cell? ⟨w.heap.size, 0, none⟩ = some (.int .i64 c0) ∧ W'.cell? ⟨w.heap.size, 1, none⟩ = some (.int .i64 c1) ∧ W'.cell? ⟨w.heap.size, 2, none⟩ = some (.string c2) ∧ W'.cell? ⟨w.heap.size, 3, none⟩ = some (.slice c3 c4 c5) ∧ W'.cell? ⟨w.heap.size, 4, none⟩ = some (.slice c6 c7 c8)) := fun W' hW => ⟨(hW.cell (p := ⟨w.heap.size, 0, none⟩) hsz).trans z0, (hW.cell (p := ⟨w.heap.size, 1, none⟩) hsz).trans z1, (hW.cell (p := ⟨w.heap.size, 2, none⟩) hsz).trans z2, (hW.cell (p := ⟨w.heap.size, 3, none⟩) hsz).trans z3, (hW.cell (p := ⟨w.heap.size, 4, none⟩) hsz).trans z4⟩
      have hadd : Hid (∀ (wV : World) (q0 q1 : Int) (q2 : ByteArray) (q3 : Option Addr) (q4 q5 : Nat) (q6 : Option Addr) (q7 q8 : Nat) (wA : World), Below wr.heap.size wr wV → ValOwn wV (d + 1) (Fresh wA wV) y (.agg #[.int .i64 q0, .int .i64 q1, .string q2, .slice q3 q4 q5, .slice q6 q7 q8]) → ∀ W', Below wV.heap.size wV W' → Calls Tryz.prog 30 #[.agg #[.int .i64 c0, .int .i64 c1, .string c2, .slice c3 c4 c5, .slice c6 c7 c8], .agg #[.int .i64 q0, .int .i64 q1, .string q2, .slice q3 q4 q5, .slice q6 q7 q8]] W' fun e w' => ∃ (p0 p1 : Int) (p2 : ByteArray) (p3 : Option Addr) (p4 p5 : Nat) (p6 : Option Addr) (p7 p8 : Nat), e = .returned (.tuple #[.agg #[.int .i64 p0, .int .i64 p1, .string p2, .slice p3 p4 p5, .slice p6 p7 p8], .bool o1]) ∧ ValAt (FreshP W' w') w' (d + 1) X (.agg #[.int .i64 p0, .int .i64 p1, .string p2, .slice p3 p4 p5, .slice p6 p7 p8]) ∧ Below W'.heap.size W' w') := by
        intro wV q0 q1 q2 q3 q4 q5 q6 q7 q8 wA hV hq W' hW
        have hvA := ValOwn.at _ _ _ _ hq
        have hc := implPartAdd_any d (FreshP w W') acc _ (Fresh wA wV) y _ W' (freshP_go HO.out.val (below_trans hV hW)) within_P (hvA.same (fun b hb => hW.block b hb.2)) (fun b hb => Nat.lt_of_lt_of_le hb.2 hW.size) (HG.out.below (HBR.out.trans ((below_trans hV hW).mono (by omega))))
        rw [hX.out] at hc
        dsimp only at hc
        exact hc.mono (fun _ _ h => tq_of (Nat.le_refl _) h)
      obtain ⟨v, hval⟩ := val_all d S y u wr hu (hSw.later (Nat.le_of_lt hsz))
      have HBX0 := HBR.out
      clear hrow hu hmv hy
      rcases hval with ⟨rfl, HV⟩ | ⟨rfl, HV⟩ | ⟨rfl, HV⟩ | ⟨rfl, HV⟩ | ⟨rfl, HV⟩
      all_goals
        replace HV := hide HV
        go_upto_region 5 with fail
        go_cut [7, 8] (fun pv bv wc => ∃ b p0 p1 p2 p3 p4 p5 p6 p7 p8, pv = .pointer (some ⟨b, 0, none⟩) ∧ bv = .bool o1 ∧ Hid (VarAt wr wc b p0 p1 p2 p3 p4 p5 p6 p7 p8 (d + 1) X ∧ Below wr.heap.size wr wc ∧ wr.heap.size ≤ b))
        case first =>
          have hle : wr.heap.size ≤ wr.heap.size := Nat.le_refl _
          have hDr : Below wr.heap.size wr wr.drew := ⟨rfl, rfl, rfl, Nat.le_refl _, fun _ _ => rfl⟩
          have hDa := below_drew1 (below_alloc1 wr (.cells #[.int .i64 0, .int .i64 0, .string { data := #[] }, .slice none 0 0, .slice none 0 0] 26))
          have hDb : Below wr.heap.size wr (wr.drew.alloc (.cells #[.int .i64 0, .int .i64 0, .string { data := #[] }, .slice none 0 0, .slice none 0 0] 26)) := below_trans hDr (below_alloc1 _ _)
          clear HO HBR hacc hfin hstp hX HG HBX0
          go_region_held3 (fun w' => w'.cell? ⟨w.heap.size, 0, none⟩ = some (.int .i64 c0) ∧ w'.cell? ⟨w.heap.size, 1, none⟩ = some (.int .i64 c1) ∧ w'.cell? ⟨w.heap.size, 2, none⟩ = some (.string c2) ∧ w'.cell? ⟨w.heap.size, 3, none⟩ = some (.slice c3 c4 c5) ∧ w'.cell? ⟨w.heap.size, 4, none⟩ = some (.slice c6 c7 c8))
            ((refine KK.out _ ?_; with_reducible assumption))
            ((first
              | (go_at_call 30; refine (HPA.out _ ?_).mono ?_; (first | exact Below.refl _ _ | exact below_alloc1 _ _); rintro eC wC ⟨p0, p1, p2, p3, p4, p5, p6, p7, p8, rfl, hv', hb'⟩; (first | with_reducible (have bC := below_trans bV hb') | with_reducible (have bC := below_trans bVa hb')); have bCa := below_trans bC (below_alloc1 wC (.cells #[.int .i64 0, .int .i64 0, .string { data := #[] }, .slice none 0 0, .slice none 0 0] 26)); have bCp := below_trans bC (below_alloc1 wC (.cells #[.int .i64 p0, .int .i64 p1, .string p2, .slice p3 p4 p5, .slice p6 p7 p8] 26)); (first | with_reducible (have zC := Blk5.below zV hb'; have zl := zV.lt; have zg : wr.heap.size ≤ wr.heap.size := Nat.le_refl _; obtain ⟨y0, y1, y2, y3, y4⟩ := zC.cell; have yf := zC.frozen) | with_reducible (have zC := Blk5.below (Blk5.new wV 26 (.int .i64 0) (.int .i64 0) (.string { data := #[] }) (.slice none 0 0) (.slice none 0 0)) hb'; have zl : wV.heap.size < (wV.alloc (.cells #[.int .i64 0, .int .i64 0, .string { data := #[] }, .slice none 0 0, .slice none 0 0] 26)).heap.size := (by rw [World.size_alloc]; exact Nat.lt_succ_self _); have zg := bV.size; obtain ⟨y0, y1, y2, y3, y4⟩ := zC.cell; have yf := zC.frozen) | (go_must (have zC : Below wV.heap.size wV wC := (by with_reducible exact hb')))); (first | have bX := belowChain bC zC zg (.int .i64 p0) (.int .i64 p1) (.string p2) (.slice p3 p4 p5) (.slice p6 p7 p8) | skip))
              | ((first | go_at_call 188 | go_at_call 201 | go_at_call 198 | go_at_call 195 | go_at_call 192); refine (HV.out _ ?_).mono ?_; (first | exact hDr | exact hDa | exact hDb); rintro eV wV ⟨xv, rfl, hxv, hbV⟩; obtain ⟨q0, q1, q2, q3, q4, q5, q6, q7, q8, rfl⟩ := (ValOwn.at _ _ _ _ hxv).shape; (first | with_reducible (have bV := below_trans hDr hbV) | with_reducible (have bV := below_trans hDa hbV) | with_reducible (have bV := below_trans hDb hbV)); have bVa := below_trans bV (below_alloc1 wV (.cells #[.int .i64 0, .int .i64 0, .string { data := #[] }, .slice none 0 0, .slice none 0 0] 26)); have HPA := hide (hadd.out wV _ _ _ _ _ _ _ _ _ _ bV hxv); (first | with_reducible (have zV := Blk5.below (newDrew wr 26 (.int .i64 0) (.int .i64 0) (.string { data := #[] }) (.slice none 0 0) (.slice none 0 0)) hbV; obtain ⟨g0, g1, g2, g3, g4⟩ := zV.cell; have gf := zV.frozen) | with_reducible (have zV := Blk5.below (Blk5.new wr.drew 26 (.int .i64 0) (.int .i64 0) (.string { data := #[] }) (.slice none 0 0) (.slice none 0 0)) hbV; obtain ⟨g0, g1, g2, g3, g4⟩ := zV.cell; have gf := zV.frozen) | (have zV : Below wr.drew.heap.size wr.drew wV := (by with_reducible exact hbV))))))
          all_goals go_wp2_with fail
          all_goals go_meet
          all_goals (first | (have hF := And.intro (var_set (w := wr) zC zl (Nat.le_trans zg (Nat.le_of_lt zl)) hv') (And.intro (below_set5 bC zg 0 (.int .i64 p0) (.int .i64 p1) (.string p2) (.slice p3 p4 p5) (.slice p6 p7 p8)) zg); unfold set5 at hF; simp only [Nat.zero_add] at hF; with_reducible exact ⟨_, p0, p1, p2, p3, p4, p5, p6, p7, p8, rfl, rfl, hide hF⟩) | with_reducible exact ⟨_, p0, p1, p2, p3, p4, p5, p6, p7, p8, rfl, rfl, hide (And.intro (var_new (w := wr) bV.size hv') (And.intro bCp bC.size))⟩)
        case rest =>
          rename World => wX
          obtain ⟨bx, p0, p1, p2, p3, p4, p5, p6, p7, p8, rfl, rfl, hcx⟩ := hcut
          have HX := hide hcx.out.1
          have hbx := hcx.out.2.1
          have hbl := hcx.out.2.2
          clear hcx KK HV
          have HOK := HO.out.blk.below hbx
          have hzx := hbx.size
          have HBX := hide (HBX0.trans (hbx.mono (Nat.le_of_lt hsz)))
          clear z0 z1 z2 z3 z4 e0 HO hbx hadd HBX0
          cases o1 with
          | false =>
            have hq := hide (show sumF d xs = none by rw [hfin.out, hstp.out, hX.out]; rfl)
            clear HOK HX hfin hstp hX hacc HBR
            go_wp2_with fail
            go_ret2
            exact ⟨HBX.out.mono hN, Or.inr ⟨hq.out, _, rfl⟩⟩
          | true =>
            have HACC : Hid (okT (d + 1) X = true) := by
              have h := okT_partAdd d acc y
              rw [hX.out] at h
              exact h
            have HFIN : Hid (sumF d xs = sumS (xs.drop (m + 1)) X) := by
              show _ = _
              rw [hfin.out, hstp.out, hX.out]
              rfl
            have HN : Hid (∀ wF, wF = set5 wX w.heap.size 0 (.int .i64 p0) (.int .i64 p1) (.string p2) (.slice p3 p4 p5) (.slice p6 p7 p8) → VarAt w wF w.heap.size p0 p1 p2 p3 p4 p5 p6 p7 p8 (d + 1) X ∧ Below w.heap.size w wF) := by
              intro wF hF
              rw [hF]
              exact ⟨var_set (w := w) (Wc := wr) HOK hsz (Nat.le_of_lt hsz) HX.out.val, below_set5 HBX.out (Nat.le_refl _) _ _ _ _ _ _⟩
            obtain ⟨y0, y1, y2, y3, y4⟩ := HX.out.blk.cell
            obtain ⟨g0, g1, g2, g3, g4⟩ := HOK.cell
            have gf := HOK.frozen
            have hne : ¬ bx = w.heap.size := by omega
            have hbxl := HX.out.blk.lt
            have hwl : w.heap.size < wX.heap.size := by omega
            clear HOK HX hacc hfin hstp hX HBR
            go_wp2_with fail
            go_roundw
            case rel => exact ⟨m + 1, X, p0, p1, p2, p3, p4, p5, p6, p7, p8, by omega, by go_num, HACC, HFIN, hide (HN.out _ rfl).1, hide (HN.out _ rfl).2⟩
            case measure => simp [intOf]; omega
    · obtain rfl : m = xs.length := by omega
      have ha : sumF d xs = some acc := by
        rw [hfin.out, List.drop_eq_nil_of_le (Nat.le_refl _)]
        rfl
      have HA := hide (And.intro ha hacc.out)
      have hcall := hide (given_any (d + 1) (FreshP w wr) acc _ wr HO.out.val within_P)
      have HB := hide HBR.out
      clear ha hfin hacc HO HBR
      go_wp2_with fail
      refine Calls.mono hcall.out ?_
      rintro e w2 ⟨hb2, hq⟩
      have HB2 := hide (HB.out.trans (hb2.mono (Nat.le_of_lt hsz)))
      have hsz2 := hb2.size
      clear hcall
      rcases hq with ⟨_, u, rfl, hu⟩ | ⟨hno, why, rfl⟩
      · have HU := hide (hu.mono (S' := fun b => N ≤ b ∧ b < w2.heap.size) (fun b hb => ⟨by have := hb.1; omega, hb.2⟩))
        obtain ⟨T, u', rfl⟩ := hu.iface
        clear hu hb2
        go_wp2_with fail
        go_ret2
        exact ⟨HB2.out.mono hN, Or.inl ⟨acc, _, HA.out.1, rfl, HU.out⟩⟩
      · have h2 := HA.out.2
        rw [h2] at hno
        cases hno
set_option maxRecDepth 100000 in
set_option maxHeartbeats 2000000 in
theorem implRowSum_any (d : Nat) (S : Nat → Prop) (t : Tr (d + 1 + 1)) (v : Value) (w : World) (hv : ValAt S w (d + 1 + 1) t v) (hS : Within S w) (hg : ErrType w) :
    Calls Tryz.prog 25 #[v] w (TellQ (d) (rowTell (sumF d) t).1 (rowTell (sumF d) t).2 w) := by
  obtain ⟨k, n, s, ak, lk, ck, al, ll, cl, rfl⟩ := hv.shape
  obtain ⟨W0, hW⟩ : ∃ W0, W0 = (w.alloc (.cells #[.int .i64 k, .int .i64 n, .string s, .slice ak lk ck, .slice al ll cl] 26)).alloc (.cells #[.int .i64 0, .int .i64 0, .string { data := #[] }, .slice none 0 0, .slice none 0 0] 26) := ⟨_, rfl⟩
  have hW0 : Below w.heap.size w W0 := by rw [hW]; exact below_trans (below_alloc1 _ _) (below_alloc1 _ _)
  have k1 : Blk5 W0 (w.heap.size + 1) 26 (.int .i64 0) (.int .i64 0) (.string { data := #[] }) (.slice none 0 0) (.slice none 0 0) := by
    have := Blk5.new (w.alloc (.cells #[.int .i64 k, .int .i64 n, .string s, .slice ak lk ck, .slice al ll cl] 26)) 26 (.int .i64 0) (.int .i64 0) (.string { data := #[] }) (.slice none 0 0) (.slice none 0 0)
    rw [World.size_alloc] at this
    rw [hW]
    exact this
  have hcall := hide (ofRow_sumOfRow (d + 1) (d) S t _ (sumF d) W0 (hv.same (hS.same hW0)) (hS.later hW0.size) (hg.below hW0) (fun N xs a cap vs w1 hrow hto _ hN hg => sumOfRow_any d N xs a cap vs w1 hto hN (by obtain ⟨hok, _, rfl⟩ := treesL_some hrow; exact (okT_kinds hok).2.1) hg))
  have HW := hide hW
  have hlt := k1.lt
  clear hW hv
  go_enter Tryz.func25, Tryz.ntmps25
  go_wp2_with fail
  rw [← HW.out]
  clear HW
  refine Calls.mono hcall.out ?_
  rintro e w1 ⟨r, rfl, hr, hb1⟩
  obtain ⟨v0, v1, v2, v3, v4, v5, v6, v7, v8, rfl⟩ := (ValOwn.at _ _ _ _ hr).shape
  have HF := hide (tell_end hr (below_trans hW0 hb1) (by omega) hlt)
  have k3 := k1.below hb1
  obtain ⟨y0, y1, y2, y3, y4⟩ := k3.cell
  have yf := k3.frozen
  clear hr hb1 k3 k1 hcall hW0
  go_wp2_with fail
  refine bodyPost_ret (v := .tuple #[.agg #[.int .i64 v0, .int .i64 v1, .string v2, .slice v3 v4 v5, .slice v6 v7 v8], .bool (rowTell (sumF d) t).2]) (by simp [results, Tryz.results25, go_sem, y0, y1, y2, y3, y4]) rfl ⟨_, rfl, (HF.out _ rfl).1, (HF.out _ rfl).2⟩
end Go.Proofs.YtmibjmipndffmaaGreatDoor
