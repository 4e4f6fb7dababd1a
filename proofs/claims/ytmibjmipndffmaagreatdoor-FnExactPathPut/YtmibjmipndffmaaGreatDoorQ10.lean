/- Texts of the proof, put together by program: WPathJ, WStepM, WStepC. -/
import Derived.Test.YtmibjmipndffmaaGreatDoorQ9
import Derived.Test.YtmibjmipndffmaaGreatDoorQ6
import Derived.Test.YtmibjmipndffmaaGreatDoorQ7
import Derived.Test.YtmibjmipndffmaaGreatDoorQ5
/- PathGet of the program. -/
namespace Go.Proofs.YtmibjmipndffmaaGreatDoor
open Go.RowKit Go.Deep

set_option maxRecDepth 100000 in
set_option maxHeartbeats 4000000 in
theorem implPathGet_any (d : Nat) (S : Nat → Prop) (t : Tr (d + 2)) (v : Value) (S' : Nat → Prop) (ps : List Stp) (v' : Value) (w : World) (hv : ValAt S w (d + 2) t v) (hS : Within S w) (hv' : StepsAt S' w v' ps) (hS' : Within S' w) (hg : ErrType w) :
    Calls Tryz.prog 13 #[v, v'] w (TellQ (d + 1) (pathGetT d t ps).1 (pathGetT d t ps).2 w) := by
  obtain ⟨k, n, s, ak, lk, ck, al, ll, cl, rfl⟩ := hv.shape
  obtain ⟨a, cap, rfl, hlen⟩ := hv'.open'
  obtain ⟨W0, hW⟩ : ∃ W0, W0 = (w.alloc (.cells #[.int .i64 k, .int .i64 n, .string s, .slice ak lk ck, .slice al ll cl] 26)).alloc (.cells #[.int .i64 0, .int .i64 0, .string { data := #[] }, .slice none 0 0, .slice none 0 0] 26) := ⟨_, rfl⟩
  have hW0 : Below w.heap.size w W0 := by rw [hW]; exact below_trans (below_alloc1 _ _) (below_alloc1 _ _)
  have k1 : Blk5 W0 (w.heap.size + 1) 26 (.int .i64 0) (.int .i64 0) (.string { data := #[] }) (.slice none 0 0) (.slice none 0 0) := by
    have := Blk5.new (w.alloc (.cells #[.int .i64 k, .int .i64 n, .string s, .slice ak lk ck, .slice al ll cl] 26)) 26 (.int .i64 0) (.int .i64 0) (.string { data := #[] }) (.slice none 0 0) (.slice none 0 0)
    rw [World.size_alloc] at this
    rw [hW]
    exact this
  have hlt := k1.lt
  have HW := hide hW
  clear hW
  go_enter Tryz.func13, Tryz.ntmps13
  go_wp2_with fail
  rw [← HW.out]
  clear HW
  refine Calls.mono (along_any d S t _ S' ps _ W0 (hv.same (hS.same hW0)) (hS.later hW0.size) (hv'.same (hS'.same hW0)) (hS'.later hW0.size) (hg.below hW0)) ?_
  rintro e w1 ⟨sv, u, xs, vs, rfl, hu, hb1, _, _⟩
  obtain ⟨u0, u1, u2, u3, u4, u5, u6, u7, u8, rfl⟩ := (ValOwn.at _ _ _ _ hu).shape
  have hA := below_alloc1 w1 (.cells #[.int .i64 u0, .int .i64 u1, .string u2, .slice u3 u4 u5, .slice u6 u7 u8] 26)
  have k2 := (k1.below hb1).below hA
  have hu2 := hu.same ((Fresh.within W0 w1).same hA)
  have HF := hide (tell_end (w := w) (w1 := W0) (rb := w.heap.size + 1) (ValOwn.mono hu2 (S' := Fresh W0 (w1.alloc (.cells #[.int .i64 u0, .int .i64 u1, .string u2, .slice u3 u4 u5, .slice u6 u7 u8] 26))) (fun b hb => ⟨hb.1, Nat.lt_of_lt_of_le hb.2 hA.size⟩)) (below_trans (below_trans hW0 hb1) hA) (by omega) hlt)
  obtain ⟨y0, y1, y2, y3, y4⟩ := k2.cell
  have yf := k2.frozen
  clear k1 k2 hu hu2 hA hb1 hW0 hv
  go_wp2_with fail
  refine bodyPost_ret (v := .tuple #[.agg #[.int .i64 u0, .int .i64 u1, .string u2, .slice u3 u4 u5, .slice u6 u7 u8], .bool (pathGetT d t ps).2]) (by simp [results, Tryz.results13, go_sem, y0, y1, y2, y3, y4]) rfl ⟨_, rfl, (HF.out _ rfl).1, (HF.out _ rfl).2⟩
end Go.Proofs.YtmibjmipndffmaaGreatDoor

/- markStepS: marks are written into steps that own their memory. -/
namespace Go.Proofs.YtmibjmipndffmaaGreatDoor
open Go.RowKit Go.Deep

set_option maxRecDepth 100000 in
set_option maxHeartbeats 1000000 in
theorem markStepS_any (S : Nat → Prop) (ps : List Stp) (v : Value) (k : Nat) (w : World) (hv : StepsOwn S w v ps) (h0 : 1 ≤ k) (h1 : k + 3 * ps.length ≤ 1099511627776) :
    Calls Tryz.prog 38 #[v, .int .i64 (k : Int)] w fun e w' => e = .returned (.int .i64 ((k + 3 * ps.length : Nat) : Int)) ∧ Turn S w w' := by
  obtain ⟨hlen, _, a, cap, rfl, h3⟩ := hv
  rcases h3 with rfl | ⟨b, n, f, hB, rfl, hln, hrow, hc⟩
  · go_enter Tryz.func38, Tryz.ntmps38
    go_wp2_with fail
    go_loopw [1, 5] (fun kk i wr => kk = .int .i64 (k : Int) ∧ i = .int .i64 0 ∧ wr = w) (fun _ _ _ => 0)
    case atStart => exact ⟨rfl, rfl, rfl⟩
    case round =>
      obtain ⟨rfl, rfl, rfl⟩ := hrel
      go_wp2_with fail
      go_ret
      exact ⟨rfl, Turn.refl _ _⟩
  · clear hc
    go_enter Tryz.func38, Tryz.ntmps38
    go_wp2_with fail
    go_loopw [1, 5] (fun kk i wr => ∃ (m : Nat) (g : Nat → Value), m ≤ ps.length ∧ i = .int .i64 (m : Int) ∧ kk = .int .i64 ((k + 3 * m : Nat) : Int) ∧ wr.rowIs b 40 n g ∧ Turn S w wr)
      (fun _ i _ => ps.length - (intOf i).toNat)
    case atStart => exact ⟨0, f, Nat.zero_le _, rfl, rfl, hrow, Turn.refl _ _⟩
    case round =>
      clear hrow
      obtain ⟨m, g, hm, rfl, rfl, hrow, htu⟩ := hrel
      by_cases hml : m < ps.length
      · have c0 := hrow.cell (i := m * 3) (by omega)
        have z0 := hrow.frozen (m * 3)
        obtain ⟨hr0, ht0⟩ : (wr.setCell ⟨b, m * 3, none⟩ (.bool ((k : Int) % 3 == 0))).rowIs b 40 n (fun j => if j = m * 3 then .bool ((k : Int) % 3 == 0) else g j) ∧ Turn S w (wr.setCell ⟨b, m * 3, none⟩ (.bool ((k : Int) % 3 == 0))) := ⟨hrow.set _ _, htu.set hB _⟩
        go_wp2_with fail
        generalize wr.setCell ⟨b, m * 3, none⟩ (.bool ((k : Int) % 3 == 0)) = wx at hr0 ht0 ⊢
        rw [show ((k : Int) + 3 * (m : Int) + 1) = ((k + 3 * m + 1 : Nat) : Int) by omega]
        refine (markText_any (k + 3 * m + 1) wx (by omega) (by omega)).mono ?_
        rintro e w1 ⟨rfl, hb1⟩
        have hr1 := hr0.of_block (hb1.block b hr0.lt)
        have hr2 := (hr1.set (m * 3 + 1) (.string (mt (k + 3 * m + 1)))).set (m * 3 + 2) (.int .i64 ((k : Int) + 3 * (m : Int) + 2))
        have c1 := hr1.cell (i := m * 3 + 1) (by omega)
        have c2 := hr1.cell (i := m * 3 + 2) (by omega)
        have z1 := hr1.frozen (m * 3 + 1)
        have z2 := hr1.frozen (m * 3 + 2)
        have HR := hide (And.intro hr2 (((ht0.trans (Turn.of_below hb1)).set (a := ⟨b, m * 3 + 1, none⟩) hB (.string (mt (k + 3 * m + 1)))).set (a := ⟨b, m * 3 + 2, none⟩) hB (.int .i64 ((k : Int) + 3 * (m : Int) + 2))))
        clear hr0 ht0 hr1 hr2 hb1 hrow htu c0 z0
        go_wp2_with fail
        go_roundw
        case rel => exact ⟨m + 1, _, by omega, by go_num, by go_num, HR.out.1, HR.out.2⟩
        case measure => simp [intOf]; omega
      · obtain rfl : m = ps.length := by omega
        go_wp2_with fail
        go_ret
        exact ⟨rfl, htu⟩
end Go.Proofs.YtmibjmipndffmaaGreatDoor

/- toStepS, whose answer has room for what it holds. -/
namespace Go.Proofs.YtmibjmipndffmaaGreatDoor
open Go.RowKit Go.Deep

set_option maxRecDepth 100000 in
set_option maxHeartbeats 1000000 in
theorem toStepS_cap (S : Nat → Prop) (ps : List Stp) (v : Value) (w : World) (hv : StepsAt S w v ps) (hS : Within S w) :
    Calls Tryz.prog 34 #[v] w fun e w' => ∃ u, e = .returned u ∧ StepsOwn (Fresh w w') w' u ps ∧ Below w.heap.size w w' ∧ (∀ a n c, u = .slice a n c → n ≤ c) := by
  obtain ⟨a, cap, rfl, hlen⟩ := hv.open'
  have hmk := run_make3 ps.length hlen
  have hb0 : Below w.heap.size w (w.alloc (.cells (madeCells zero3 (ps.length * 3)) 40)) := below_alloc1 _ _
  have hr0 : (w.alloc (.cells (madeCells zero3 (ps.length * 3)) 40)).rowIs w.heap.size 40 (ps.length * 3) (fun j => (madeCells zero3 (ps.length * 3)).getD j undef) := by
    have := World.rowIs_alloc w (madeCells zero3 (ps.length * 3)) 40 (fun j => (madeCells zero3 (ps.length * 3)).getD j undef) (fun i hi => by simp [hi])
    rwa [size_madeCells] at this
  have HB : Hid _ := And.intro hb0 hr0
  clear hb0 hr0
  go_enter Tryz.func34, Tryz.ntmps34
  go_wp2_with fail
  go_loopw [4] (fun i wr => ∃ (k : Nat) (f : Nat → Value), k ≤ ps.length ∧ i = .int .i64 k ∧ wr.rowIs w.heap.size 40 (ps.length * 3) f ∧ Hid (StpFilled ps k f) ∧ Below w.heap.size w wr) (fun i _ => ps.length - (intOf i).toNat)
  case atStart => exact ⟨0, _, Nat.zero_le _, rfl, HB.out.2, fun j p hj => by omega, HB.out.1⟩
  case round =>
    clear HB hmk
    obtain ⟨k, f, hk, rfl, hrow, hfil, hbel⟩ := hrel
    by_cases hkl : k < ps.length
    · obtain ⟨b, o, p, rfl, hb, hx, hp, e0, e1, e2⟩ := (hv.same (hS.same hbel)).cell hkl
      go_wp2_with fail
      refine (toStep_any p wr).mono ?_
      rintro e w1 ⟨rfl, hb1⟩
      have hr1 := hrow.of_block (hb1.block w.heap.size hrow.lt)
      have hrow' := rowIs_set3 hr1 (k * 3) (.bool p.map) (.string p.key) (.int .i64 p.place)
      have hbel' := below_set3 (hbel.trans (hb1.mono hbel.size)) (Nat.le_refl w.heap.size) (k * 3) (.bool p.map) (.string p.key) (.int .i64 p.place)
      have HR : Hid _ := And.intro hrow' hbel'
      have HF := hide (hfil.out.step hx)
      have g0 := hr1.cell (i := k * 3) (by omega)
      have g1 := hr1.cell (i := k * 3 + 1) (by omega)
      have g2 := hr1.cell (i := k * 3 + 2) (by omega)
      have z0 := hr1.frozen (k * 3)
      have z1 := hr1.frozen (k * 3 + 1)
      have z2 := hr1.frozen (k * 3 + 2)
      clear hrow' hbel' hr1 hrow hbel hb1 e0 e1 e2 hv hx hfil hp
      go_wp2_with fail
      go_roundw
      case rel => exact ⟨k + 1, _, by omega, by go_num, HR.out.1, HF, HR.out.2⟩
      case measure => simp [intOf]; omega
    · go_wp2_with fail
      go_ret
      obtain rfl : k = ps.length := by omega
      refine ⟨_, rfl, ⟨hlen, hv.2.1, _, _, rfl, ?_⟩, hbel, fun a n c e => by cases e; exact Nat.le_refl _⟩
      exact Or.inr ⟨w.heap.size, _, f, ⟨Nat.le_refl _, hrow.lt⟩, rfl, Nat.le_refl _, hrow, fun i p hi => hfil.out i p (List.getElem?_eq_some_iff.1 hi).1 hi⟩
end Go.Proofs.YtmibjmipndffmaaGreatDoor
