/- Texts of the proof, put together by program: WPathS, WPathT, WNoth. -/
import Derived.Test.YtlpembhdojdomaaGreatDoorPg17
import Derived.Deep.RegionHeld
import Derived.Test.YtlpembhdojdomaaGreatDoorPg12
/- l3Get, PathGet of the model. -/
namespace Go.Proofs.YtlpembhdojdomaaGreatDoor
open Go.RowKit Go.Deep

set_option maxRecDepth 100000 in
set_option maxHeartbeats 4000000 in
theorem l3Get_any (d : Nat) (S : Nat → Prop) (t : Tr (d + 2)) (v : Value) (S' : Nat → Prop) (ps : List Stp) (v' : Value) (w : World) (hv : ValAt S w (d + 2) t v) (hS : Within S w) (hv' : StepsAt S' w v' ps) (hS' : Within S' w) (hok : okT (d + 2) t = true) (hps : pathOk ps = true) :
    Calls Tryz.prog 52 #[v, v'] w fun e w' => ∃ u, e = .returned (.tuple #[u, .bool (alongT d t ps).2]) ∧ ValAt S w' (d + 2) (alongT d t ps).1 u ∧ Below w.heap.size w w' := by
  obtain ⟨k, n, s, ak, lk, ck, al, ll, cl, rfl⟩ := hv.shape
  obtain ⟨a, cap, rfl, hlen⟩ := hv'.open'
  obtain ⟨W0, hW⟩ : ∃ W0, W0 = (w.alloc (.cells #[.int .i64 k, .int .i64 n, .string s, .slice ak lk ck, .slice al ll cl] 29)).alloc (.cells #[.int .i64 0, .int .i64 0, .string { data := #[] }, .slice none 0 0, .slice none 0 0] 29) := ⟨_, rfl⟩
  have hW0 : Below w.heap.size w W0 := by rw [hW]; exact below_trans (below_alloc1 _ _) (below_alloc1 _ _)
  have k0 : Blk5 W0 w.heap.size 29 (.int .i64 k) (.int .i64 n) (.string s) (.slice ak lk ck) (.slice al ll cl) := by
    rw [hW]; exact (Blk5.new w 29 _ _ _ _ _).alloc _
  have k1 : Blk5 W0 (w.heap.size + 1) 29 (.int .i64 0) (.int .i64 0) (.string { data := #[] }) (.slice none 0 0) (.slice none 0 0) := by
    have := Blk5.new (w.alloc (.cells #[.int .i64 k, .int .i64 n, .string s, .slice ak lk ck, .slice al ll cl] 29)) 29 (.int .i64 0) (.int .i64 0) (.string { data := #[] }) (.slice none 0 0) (.slice none 0 0)
    rw [World.size_alloc] at this
    rw [hW]
    exact this
  have hv0 := hv.same (hS.same hW0)
  have HW := hide hW
  clear hW hv
  go_enter Tryz.func52, Tryz.ntmps52
  go_wp2_with fail
  rw [← HW.out]
  clear HW
  have H0 : Hid (∃ (j : Nat) (x : Tr (d + 2)) (q0 q1 : Int) (q2 : ByteArray) (q3 : Option Addr) (q4 q5 : Nat) (q6 : Option Addr) (q7 q8 : Nat), j ≤ ps.length ∧ Value.int .i64 0 = .int .i64 j ∧ okT (d + 2) x = true ∧ ValAt S W0 (d + 2) x (.agg #[.int .i64 q0, .int .i64 q1, .string q2, .slice q3 q4 q5, .slice q6 q7 q8]) ∧ Blk5 W0 w.heap.size 29 (.int .i64 q0) (.int .i64 q1) (.string q2) (.slice q3 q4 q5) (.slice q6 q7 q8) ∧ Blk5 W0 (w.heap.size + 1) 29 (.int .i64 0) (.int .i64 0) (.string { data := #[] }) (.slice none 0 0) (.slice none 0 0) ∧ Below w.heap.size w W0 ∧ Hid (alongT d t ps = alongT d x (ps.drop j))) :=
    ⟨0, t, _, _, _, _, _, _, _, _, _, Nat.zero_le _, rfl, hok, hv0, k0, k1, hW0, rfl⟩
  clear hv0 k0 k1 hW0
  go_loopw [6] (fun i wr => ∃ (j : Nat) (x : Tr (d + 2)) (q0 q1 : Int) (q2 : ByteArray) (q3 : Option Addr) (q4 q5 : Nat) (q6 : Option Addr) (q7 q8 : Nat), j ≤ ps.length ∧ i = .int .i64 j ∧ okT (d + 2) x = true ∧ ValAt S wr (d + 2) x (.agg #[.int .i64 q0, .int .i64 q1, .string q2, .slice q3 q4 q5, .slice q6 q7 q8]) ∧ Blk5 wr w.heap.size 29 (.int .i64 q0) (.int .i64 q1) (.string q2) (.slice q3 q4 q5) (.slice q6 q7 q8) ∧ Blk5 wr (w.heap.size + 1) 29 (.int .i64 0) (.int .i64 0) (.string { data := #[] }) (.slice none 0 0) (.slice none 0 0) ∧ Below w.heap.size w wr ∧ Hid (alongT d t ps = alongT d x (ps.drop j))) (fun i _ => ps.length - (intOf i).toNat)
  case atStart => exact H0.out
  case round =>
    clear H0
    obtain ⟨j, x, q0, q1, q2, q3, q4, q5, q6, q7, q8, hj, rfl, hxo, hx, k0, k1, hbel, hfin⟩ := hrel
    by_cases hjl : j < ps.length
    · obtain ⟨b, o, p, rfl, hb, hp, hfit, e0, e1, e2⟩ := (hv'.same (hS'.same hbel)).cell hjl
      have hstp := stpOk_of hps hp
      obtain ⟨x0, x1, x2, x3, x4⟩ := k0.cell
      have hji : (j : Int) < (ps.length : Int) := by omega
      have hSw := hS.later hbel.size
      have hNN := k0.lt
      have hbb : b < wr.heap.size := hS'.later hbel.size b hb
      have hcall : Hid (∀ W', Below wr.heap.size wr W' → Calls Tryz.prog 69 #[.agg #[.int .i64 q0, .int .i64 q1, .string q2, .slice q3 q4 q5, .slice q6 q7 q8], .agg #[.bool p.map, .string p.key, .int .i64 p.place]] W' fun e w' => ∃ u0 u1 u2 u3 u4 u5 u6 u7 u8, e = .returned (.tuple #[.agg #[.int .i64 u0, .int .i64 u1, .string u2, .slice u3 u4 u5, .slice u6 u7 u8], .bool (stepT d x p).2]) ∧ ValAt S w' (d + 2) (stepT d x p).1 (.agg #[.int .i64 u0, .int .i64 u1, .string u2, .slice u3 u4 u5, .slice u6 u7 u8]) ∧ Below W'.heap.size W' w') := by
        intro W' hb'
        refine (l3One_any d S x _ p W' (hx.same (hSw.same hb')) (hSw.later hb'.size) hfit hxo hstp).mono ?_
        rintro e w1 ⟨u, rfl, hu, hb1⟩
        obtain ⟨u0, u1, u2, u3, u4, u5, u6, u7, u8, rfl⟩ := hu.shape
        exact ⟨u0, u1, u2, u3, u4, u5, u6, u7, u8, rfl, hu, hb1⟩
      have hK : ∀ W' : World, Below wr.heap.size wr W' → ((W'.cell? ⟨w.heap.size, 0, none⟩ = some (.int .i64 q0) ∧ W'.cell? ⟨w.heap.size, 1, none⟩ = some (.int .i64 q1) ∧ W'.cell? ⟨w.heap.size, 2, none⟩ = some (.string q2) ∧ W'.cell? ⟨w.heap.size, 3, none⟩ = some (.slice q3 q4 q5) ∧ W'.cell? ⟨w.heap.size, 4, none⟩ = some (.slice q6 q7 q8)) ∧ (W'.cell? ⟨b, o + j * 3, none⟩ = some (.bool p.map) ∧ W'.cell? ⟨b, o + j * 3 + 1, none⟩ = some (.string p.key) ∧ W'.cell? ⟨b, o + j * 3 + 2, none⟩ = some (.int .i64 p.place))) := by
        intro W' hB
        exact ⟨(k0.below hB).cell, by rw [hB.cell (p := ⟨b, o + j * 3, none⟩) hbb]; exact e0, by rw [hB.cell (p := ⟨b, o + j * 3 + 1, none⟩) hbb]; exact e1, by rw [hB.cell (p := ⟨b, o + j * 3 + 2, none⟩) hbb]; exact e2⟩
      have HK := hide hK
      have hB0 : Below wr.heap.size wr wr.drew := below_drew1 (Below.refl _ _)
      have hB0a : Below wr.heap.size wr (wr.alloc (.cells #[.int .i64 0, .int .i64 0, .string { data := #[] }, .slice none 0 0, .slice none 0 0] 29)).drew := below_drew1 (below_alloc1 _ _)
      have hZ0 : Blk5 (wr.alloc (.cells #[.int .i64 0, .int .i64 0, .string { data := #[] }, .slice none 0 0, .slice none 0 0] 29)).drew wr.heap.size 29 (.int .i64 0) (.int .i64 0) (.string { data := #[] }) (.slice none 0 0) (.slice none 0 0) := Blk5.new wr 29 _ _ _ _ _
      have K0 := hide k0
      have K1 := hide k1
      have HX := hide hx
      have HP := hide hp
      clear hK k0 k1 hx x0 x1 x2 x3 x4 e0 e1 e2 hfit hp
      go_wp2_with fail
      go_region_held (fun w' => (w'.cell? ⟨w.heap.size, 0, none⟩ = some (.int .i64 q0) ∧ w'.cell? ⟨w.heap.size, 1, none⟩ = some (.int .i64 q1) ∧ w'.cell? ⟨w.heap.size, 2, none⟩ = some (.string q2) ∧ w'.cell? ⟨w.heap.size, 3, none⟩ = some (.slice q3 q4 q5) ∧ w'.cell? ⟨w.heap.size, 4, none⟩ = some (.slice q6 q7 q8)) ∧ (w'.cell? ⟨b, o + j * 3, none⟩ = some (.bool p.map) ∧ w'.cell? ⟨b, o + j * 3 + 1, none⟩ = some (.string p.key) ∧ w'.cell? ⟨b, o + j * 3 + 2, none⟩ = some (.int .i64 p.place)))
        ((refine HK.out _ ?_; repeat (first | with_reducible exact hB0 | with_reducible exact hB0a | with_reducible exact hB1 | with_reducible refine below_alloc_r ?_ | with_reducible refine below_cell_r ?_ (Nat.le_refl _) | with_reducible refine below_cell_r ?_ hB1.size)))
        (first
          | (go_at_call 69; with_reducible refine Calls.mono (hcall.out wr.drew hB0) ?_; rintro e w1 ⟨u0, u1, u2, u3, u4, u5, u6, u7, u8, rfl, hu, hb1⟩; have hB1 : Below wr.heap.size wr w1 := below_trans hB0 hb1)
          | (go_at_call 69; with_reducible refine Calls.mono (hcall.out (wr.alloc (.cells #[.int .i64 0, .int .i64 0, .string { data := #[] }, .slice none 0 0, .slice none 0 0] 29)).drew hB0a) ?_; rintro e w1 ⟨u0, u1, u2, u3, u4, u5, u6, u7, u8, rfl, hu, hb1⟩; have hB1 : Below wr.heap.size wr w1 := below_trans hB0a hb1; have zz : Blk5 w1 wr.heap.size 29 (.int .i64 0) (.int .i64 0) (.string { data := #[] }) (.slice none 0 0) (.slice none 0 0) := hZ0.below hb1; obtain ⟨z0, z1, z2, z3, z4⟩ := zz.cell; have zf := zz.frozen))
      all_goals
        have hSw1 : Within S w1 := hSw.later hB1.size
        first
          | (have zz' := zz
             generalize hE : ((((w1.setCell ⟨wr.heap.size, 0, none⟩ (.int .i64 u0)).setCell ⟨wr.heap.size, 1, none⟩ (.int .i64 u1)).setCell ⟨wr.heap.size, 2, none⟩ (.string u2)).setCell ⟨wr.heap.size, 3, none⟩ (.slice u3 u4 u5)).setCell ⟨wr.heap.size, 4, none⟩ (.slice u6 u7 u8) = wE
             have hE' : wE = set5 w1 wr.heap.size 0 (.int .i64 u0) (.int .i64 u1) (.string u2) (.slice u3 u4 u5) (.slice u6 u7 u8) := hE.symm
             have kE : Blk5 wE wr.heap.size 29 (.int .i64 u0) (.int .i64 u1) (.string u2) (.slice u3 u4 u5) (.slice u6 u7 u8) := by rw [hE']; exact zz.set5 _ _ _ _ _
             have hBE : Below wr.heap.size wr wE := by rw [hE']; exact below_set5 hB1 (Nat.le_refl _) _ _ _ _ _ _
             have huE : ValAt S wE (d + 2) (stepT d x p).1 (.agg #[.int .i64 u0, .int .i64 u1, .string u2, .slice u3 u4 u5, .slice u6 u7 u8]) := by rw [hE']; exact hu.same (fun b hb => set5_block _ _ _ _ _ _ _ _ _ (by have := hSw b hb; omega))
             clear zz zz' z0 z1 z2 z3 z4 zf hE')
          | (generalize hE : w1.alloc (.cells #[.int .i64 u0, .int .i64 u1, .string u2, .slice u3 u4 u5, .slice u6 u7 u8] 29) = wE
             have kE : Blk5 wE w1.heap.size 29 (.int .i64 u0) (.int .i64 u1) (.string u2) (.slice u3 u4 u5) (.slice u6 u7 u8) := by rw [← hE]; exact Blk5.new _ _ _ _ _ _ _
             have hBE : Below wr.heap.size wr wE := by rw [← hE]; exact below_trans hB1 (below_alloc1 _ _)
             have huE : ValAt S wE (d + 2) (stepT d x p).1 (.agg #[.int .i64 u0, .int .i64 u1, .string u2, .slice u3 u4 u5, .slice u6 u7 u8]) := by rw [← hE]; exact hu.same (hSw1.same (below_alloc1 _ _)))
        have k0E := K0.out.below hBE
        have k1E := K1.out.below hBE
        have hB := below_trans hbel hBE
        obtain ⟨a0, a1, a2, a3, a4⟩ := kE.cell
        clear hE hB1 hb1 hu hBE hcall HK HX K0 K1 hbel hSw1 hNN hbb hSw hB0 hB0a hZ0
        cases hst2 : (stepT d x p).2 with
        | false =>
          have hfin2 : Hid (alongT d t ps = (zeroT (d + 1), false)) := hfin.out.trans (alongT_off HP.out hst2)
          have hno : Hid (∀ wF, wF = set5 wE (w.heap.size + 1) 0 (.int .i64 0) (.int .i64 0) (.string { data := #[] }) (.slice none 0 0) (.slice none 0 0) → Below w.heap.size w wF) := by
            intro wF hF
            rw [hF]
            exact below_set5 hB (by omega) _ _ _ _ _ _
          obtain ⟨y0, y1, y2, y3, y4⟩ := k1E.cell
          have yf := k1E.frozen
          clear kE k0E k1E huE hB hfin
          go_wp2_with fail
          rw [hfin2.out]
          refine bodyPost_ret (v := .tuple #[zeroVal, .bool false]) (by simp [results, Tryz.results52, go_sem, zeroVal, y0, y1, y2, y3, y4]; rfl) rfl ⟨_, rfl, zeroAt (d + 1) _ _, hno.out _ rfl⟩
        | true =>
          have hfin2 : Hid (alongT d t ps = alongT d (stepT d x p).1 (ps.drop (j + 1))) := hfin.out.trans (alongT_on HP.out hst2)
          have hR : Hid (∀ wF, wF = set5 wE w.heap.size 0 (.int .i64 u0) (.int .i64 u1) (.string u2) (.slice u3 u4 u5) (.slice u6 u7 u8) → ValAt S wF (d + 2) (stepT d x p).1 (.agg #[.int .i64 u0, .int .i64 u1, .string u2, .slice u3 u4 u5, .slice u6 u7 u8]) ∧ Blk5 wF w.heap.size 29 (.int .i64 u0) (.int .i64 u1) (.string u2) (.slice u3 u4 u5) (.slice u6 u7 u8) ∧ Blk5 wF (w.heap.size + 1) 29 (.int .i64 0) (.int .i64 0) (.string { data := #[] }) (.slice none 0 0) (.slice none 0 0) ∧ Below w.heap.size w wF) := by
            intro wF hF
            have h1 := at_end huE hS hB (Nat.le_refl w.heap.size) _ _ _ _ _ wF hF
            refine ⟨h1.1, ?_, ?_, h1.2⟩
            · rw [hF]; exact k0E.set5 _ _ _ _ _
            · rw [hF]; exact k1E.of_block (set5_block _ _ _ _ _ _ _ _ _ (by omega))
          obtain ⟨y0, y1, y2, y3, y4⟩ := k0E.cell
          have yf := k0E.frozen
          clear kE k0E k1E huE hB hfin
          go_wp2_with fail
          go_roundw
          case rel =>
            obtain ⟨r1, r2, r3, r4⟩ := hR.out _ rfl
            exact ⟨j + 1, (stepT d x p).1, u0, u1, u2, u3, u4, u5, u6, u7, u8, by omega, by go_num, okT_step d x p, r1, r2, r3, r4, hfin2⟩
          case measure => simp [intOf]; omega
    · obtain rfl : j = ps.length := by omega
      have hfin2 : Hid (alongT d t ps = (x, true)) := hfin.out.trans alongT_end
      have HF := hide (at_end hx hS hbel (show w.heap.size ≤ w.heap.size + 1 by omega))
      obtain ⟨x0, x1, x2, x3, x4⟩ := k0.cell
      obtain ⟨y0, y1, y2, y3, y4⟩ := k1.cell
      have yf := k1.frozen
      clear k0 k1 hfin hbel hx
      go_wp2_with fail
      rw [hfin2.out]
      refine bodyPost_ret (v := .tuple #[.agg #[.int .i64 q0, .int .i64 q1, .string q2, .slice q3 q4 q5, .slice q6 q7 q8], .bool true]) (by simp [results, Tryz.results52, go_sem, y0, y1, y2, y3, y4]) rfl ⟨_, rfl, (HF.out _ _ _ _ _ _ rfl).1, (HF.out _ _ _ _ _ _ rfl).2⟩
end Go.Proofs.YtlpembhdojdomaaGreatDoor

/- PathGet of the model. -/
namespace Go.Proofs.YtlpembhdojdomaaGreatDoor
open Go.RowKit Go.Deep

set_option maxRecDepth 100000 in
set_option maxHeartbeats 4000000 in
theorem specPathGet_any (d : Nat) (S : Nat → Prop) (t : Tr (d + 2)) (v : Value) (S' : Nat → Prop) (ps : List Stp) (v' : Value) (w : World) (hv : ValAt S w (d + 2) t v) (hS : Within S w) (hv' : StepsAt S' w v' ps) (hS' : Within S' w) (hsm : (nodes (d + 2) t : Int) ≤ 4194304) :
    Calls Tryz.prog 20 #[v, v'] w (SpecQ (d + 1) (pathGetT d t ps).1 (pathGetT d t ps).2 w) := by
  obtain ⟨k, n, s, ak, lk, ck, al, ll, cl, rfl⟩ := hv.shape
  obtain ⟨a, cap, rfl, hlen⟩ := hv'.open'
  obtain ⟨W0, hW⟩ : ∃ W0, W0 = (w.alloc (.cells #[.int .i64 k, .int .i64 n, .string s, .slice ak lk ck, .slice al ll cl] 29)).alloc (.cells #[.int .i64 0, .int .i64 0, .string { data := #[] }, .slice none 0 0, .slice none 0 0] 29) := ⟨_, rfl⟩
  have hW0 : Below w.heap.size w W0 := by rw [hW]; exact below_trans (below_alloc1 _ _) (below_alloc1 _ _)
  have k0 : Blk5 W0 w.heap.size 29 (.int .i64 k) (.int .i64 n) (.string s) (.slice ak lk ck) (.slice al ll cl) := by
    rw [hW]; exact (Blk5.new w 29 _ _ _ _ _).alloc _
  have k1 : Blk5 W0 (w.heap.size + 1) 29 (.int .i64 0) (.int .i64 0) (.string { data := #[] }) (.slice none 0 0) (.slice none 0 0) := by
    have := Blk5.new (w.alloc (.cells #[.int .i64 k, .int .i64 n, .string s, .slice ak lk ck, .slice al ll cl] 29)) 29 (.int .i64 0) (.int .i64 0) (.string { data := #[] }) (.slice none 0 0) (.slice none 0 0)
    rw [World.size_alloc] at this
    rw [hW]
    exact this
  have HW := hide hW
  clear hW
  go_enter Tryz.func20, Tryz.ntmps20
  go_wp2_with fail
  rw [← HW.out]
  clear HW
  refine (specValOk_any (d + 2) S t _ W0 (hv.same (hS.same hW0)) (hS.later hW0.size) hsm).mono ?_
  rintro e w1 ⟨rfl, hb1⟩
  replace k0 := k0.below hb1
  replace k1 := k1.below hb1
  have hB1 := below_trans hW0 hb1
  have hlt := k1.lt
  have hno : ∀ w1, Below w.heap.size w w1 → Hid (∀ wF, wF = set5 w1 (w.heap.size + 1) 0 (.int .i64 0) (.int .i64 0) (.string { data := #[] }) (.slice none 0 0) (.slice none 0 0) → Below w.heap.size w wF) := by
    intro w1 hB1 wF hF
    rw [hF]
    exact below_set5 hB1 (by omega) _ _ _ _ _ _
  clear hb1 hW0
  cases hf : okT (d + 2) t with
  | false =>
    have hz : Hid (pathGetT d t ps = (zeroT (d + 1), false)) := by
      show pathGetT d t ps = _
      rw [pathGetT, if_neg (by rw [hf]; simp)]
    have hN := hno w1 hB1
    obtain ⟨y0, y1, y2, y3, y4⟩ := k1.cell
    have yf := k1.frozen
    clear k0 k1 hB1 hv hno
    go_wp2_with fail
    rw [hz.out]
    refine bodyPost_ret (v := .tuple #[zeroVal, .bool false]) (by simp [results, Tryz.results20, go_sem, zeroVal, y0, y1, y2, y3, y4]; rfl) rfl ⟨_, rfl, zeroAt (d + 1) _ _, hN.out _ rfl⟩
  | true =>
    go_wp2_with fail
    refine (specPathOk_any S' ps _ w1 (hv'.same (hS'.same hB1)) (hS'.later hB1.size)).mono ?_
    rintro e w2 ⟨rfl, hb2⟩
    replace k0 := k0.below hb2
    replace k1 := k1.below hb2
    have hB2 := below_trans hB1 hb2
    clear hb2 hB1
    cases hpo : pathOk ps with
    | false =>
      have hz : Hid (pathGetT d t ps = (zeroT (d + 1), false)) := by
        show pathGetT d t ps = _
        rw [pathGetT, if_neg (by rw [hpo]; simp)]
      have hN := hno w2 hB2
      obtain ⟨y0, y1, y2, y3, y4⟩ := k1.cell
      have yf := k1.frozen
      clear k0 k1 hB2 hv hno
      go_wp2_with fail
      rw [hz.out]
      refine bodyPost_ret (v := .tuple #[zeroVal, .bool false]) (by simp [results, Tryz.results20, go_sem, zeroVal, y0, y1, y2, y3, y4]; rfl) rfl ⟨_, rfl, zeroAt (d + 1) _ _, hN.out _ rfl⟩
    | true =>
      have hz : Hid (pathGetT d t ps = alongT d t ps) := by
        show pathGetT d t ps = _
        rw [pathGetT, if_pos ⟨hf, hpo⟩]
      have hokR := hide (okT_along d ps t hf)
      obtain ⟨x0, x1, x2, x3, x4⟩ := k0.cell
      clear hno
      go_wp2_with fail
      refine (l3Get_any d S t _ S' ps _ w2 (hv.same (hS.same hB2)) (hS.later hB2.size) (hv'.same (hS'.same hB2)) (hS'.later hB2.size) hf hpo).mono ?_
      rintro e w3 ⟨u, rfl, hu, hb3⟩
      obtain ⟨q0, q1, q2, q3, q4, q5, q6, q7, q8, rfl⟩ := hu.shape
      replace k1 := k1.below hb3
      have hB3 := below_trans hB2 hb3
      have hlt2 := k1.lt
      clear hb3 hB2 k0 x0 x1 x2 x3 x4 hlt
      have hA := below_alloc1 w3 (.cells #[.int .i64 q0, .int .i64 q1, .string q2, .slice q3 q4 q5, .slice q6 q7 q8] 29)
      have k2 := k1.alloc (.cells #[.int .i64 q0, .int .i64 q1, .string q2, .slice q3 q4 q5, .slice q6 q7 q8] 29)
      have hlt3 := k2.lt
      have hB4 := below_trans hB3 hA
      have hwt := wtT_ok hokR.out
      go_wp2_with fail
      refine (l1Copy_any (d + 2) S (alongT d t ps).1 _ _ (hu.same ((hS.later hB3.size).same hA)) (hS.later hB4.size) (by omega)).mono ?_
      rintro e w5 ⟨u, rfl, hu3, hb5⟩
      obtain ⟨u0, u1, u2, u3, u4, u5, u6, u7, u8, rfl⟩ := (ValOwn.at _ _ _ _ hu3).shape
      have HF := hide (tell_end hu3 (below_trans hB4 hb5) (by omega) hlt3)
      have k3 := k2.below hb5
      clear hu3 hb5 hB4 k2 k1 hB3 hA hu hv
      obtain ⟨y0, y1, y2, y3, y4⟩ := k3.cell
      have yf := k3.frozen
      clear k3
      go_wp2_with fail
      rw [hz.out]
      refine bodyPost_ret (v := .tuple #[.agg #[.int .i64 u0, .int .i64 u1, .string u2, .slice u3 u4 u5, .slice u6 u7 u8], .bool (alongT d t ps).2]) (by simp [results, Tryz.results20, go_sem, y0, y1, y2, y3, y4]) rfl ⟨_, rfl, ValOwn.at _ _ _ _ (HF.out _ rfl).1, (HF.out _ rfl).2⟩
end Go.Proofs.YtlpembhdojdomaaGreatDoor

/- isNothing. -/
namespace Go.Proofs.YtlpembhdojdomaaGreatDoor
open Go.RowKit Go.Deep

set_option maxRecDepth 100000 in
set_option maxHeartbeats 1000000 in
theorem isNothing_bare (k : Int) (w : World) : Calls Tryz.prog 64 #[.iface 116 (.agg #[.int .i64 k])] w fun e w' => e = .returned (.bool (k == 0)) ∧ Below w.heap.size w w' := by
  have hA := hide (below_alloc1 w (.cells #[.int .i64 k] 116))
  have hs := Tryz.asB_B
  go_enter Tryz.func64, Tryz.ntmps64
  go_wp2_with fail
  go_ret
  exact ⟨rfl, hA.out⟩
set_option maxRecDepth 100000 in
theorem isNothing_num (v : Value) (w : World) : Calls Tryz.prog 64 #[.iface 104 v] w fun e w' => e = .returned (.bool false) ∧ Below w.heap.size w w' := by
  have hs := Tryz.asB_N
  go_enter Tryz.func64, Tryz.ntmps64
  go_wp2_with fail
  go_ret
  exact ⟨rfl, below_alloc1 _ _⟩
set_option maxRecDepth 100000 in
theorem isNothing_str (v : Value) (w : World) : Calls Tryz.prog 64 #[.iface 107 v] w fun e w' => e = .returned (.bool false) ∧ Below w.heap.size w w' := by
  have hs := Tryz.asB_S
  go_enter Tryz.func64, Tryz.ntmps64
  go_wp2_with fail
  go_ret
  exact ⟨rfl, below_alloc1 _ _⟩
set_option maxRecDepth 100000 in
theorem isNothing_row (v : Value) (w : World) : Calls Tryz.prog 64 #[.iface 110 v] w fun e w' => e = .returned (.bool false) ∧ Below w.heap.size w w' := by
  have hs := Tryz.asB_R
  go_enter Tryz.func64, Tryz.ntmps64
  go_wp2_with fail
  go_ret
  exact ⟨rfl, below_alloc1 _ _⟩
set_option maxRecDepth 100000 in
theorem isNothing_map (v : Value) (w : World) : Calls Tryz.prog 64 #[.iface 74 v] w fun e w' => e = .returned (.bool false) ∧ Below w.heap.size w w' := by
  have hs := Tryz.asB_M
  go_enter Tryz.func64, Tryz.ntmps64
  go_wp2_with fail
  go_ret
  exact ⟨rfl, below_alloc1 _ _⟩
end Go.Proofs.YtlpembhdojdomaaGreatDoor
