/- markStepS: marks are written into steps that own their memory. -/
import Derived.Test.YtlpembhdojdomaaGreatDoorWStep
import Derived.Test.YtlpembhdojdomaaGreatDoorWMarkT
namespace Go.Proofs.YtlpembhdojdomaaGreatDoor
open Go.RowKit Go.Deep

theorem markTop_bd (d : Nat) (t : Tr (d + 1)) (k : Nat) : k ≤ (markTop d t k).2 ∧ (markTop d t k).2 ≤ k + wtT (d + 1) t := by
  show k ≤ (markL (markT d) (Nd.list t) (k + (Nd.keys t).length)).2 ∧ (markL (markT d) (Nd.list t) (k + (Nd.keys t).length)).2 ≤ _
  rw [markL_to (markT_to d), wtT]
  omega

set_option maxRecDepth 100000 in
set_option maxHeartbeats 1000000 in
theorem markStepS_any (S : Nat → Prop) (ps : List Stp) (v : Value) (k : Nat) (w : World) (hv : StepsOwn S w v ps) (h0 : 1 ≤ k) (h1 : k + 3 * ps.length ≤ 1099511627776) :
    Calls Tryz.prog 24 #[v, .int .i64 (k : Int)] w fun e w' => e = .returned (.int .i64 ((k + 3 * ps.length : Nat) : Int)) ∧ Turn S w w' := by
  obtain ⟨hlen, _, a, cap, rfl, h3⟩ := hv
  rcases h3 with rfl | ⟨b, n, f, hB, rfl, hln, hrow, hc⟩
  · go_enter Tryz.func24, Tryz.ntmps24
    go_wp2_with fail
    go_loopw [1, 5] (fun kk i wr => kk = .int .i64 (k : Int) ∧ i = .int .i64 0 ∧ wr = w) (fun _ _ _ => 0)
    case atStart => exact ⟨rfl, rfl, rfl⟩
    case round =>
      obtain ⟨rfl, rfl, rfl⟩ := hrel
      go_wp2_with fail
      go_ret
      exact ⟨rfl, Turn.refl _ _⟩
  · clear hc
    go_enter Tryz.func24, Tryz.ntmps24
    go_wp2_with fail
    go_loopw [1, 5] (fun kk i wr => ∃ (m : Nat) (g : Nat → Value), m ≤ ps.length ∧ i = .int .i64 (m : Int) ∧ kk = .int .i64 ((k + 3 * m : Nat) : Int) ∧ wr.rowIs b 85 n g ∧ Turn S w wr)
      (fun _ i _ => ps.length - (intOf i).toNat)
    case atStart => exact ⟨0, f, Nat.zero_le _, rfl, rfl, hrow, Turn.refl _ _⟩
    case round =>
      clear hrow
      obtain ⟨m, g, hm, rfl, rfl, hrow, htu⟩ := hrel
      by_cases hml : m < ps.length
      · have c0 := hrow.cell (i := m * 3) (by omega)
        have z0 := hrow.frozen (m * 3)
        obtain ⟨hr0, ht0⟩ : (wr.setCell ⟨b, m * 3, none⟩ (.bool ((k : Int) % 3 == 0))).rowIs b 85 n (fun j => if j = m * 3 then .bool ((k : Int) % 3 == 0) else g j) ∧ Turn S w (wr.setCell ⟨b, m * 3, none⟩ (.bool ((k : Int) % 3 == 0))) := ⟨hrow.set _ _, htu.set hB _⟩
        go_wp2_with fail
        generalize wr.setCell ⟨b, m * 3, none⟩ (.bool ((k : Int) % 3 == 0)) = wx at hr0 ht0 ⊢
        rw [show ((k : Int) + 3 * (m : Int) + 1) = ((k + 3 * m + 1 : Nat) : Int) by omega]
        refine (markText_any (k + 3 * m + 1) wx (by omega) (by omega)).mono ?_
        rintro e w1 ⟨rfl, hb1⟩
        have hr1 := hr0.of_block (hb1.block b hr0.lt)
        have hr2 := (hr1.set (m * 3 + 1) (.string (mt (k + 3 * m + 1)))).set (m * 3 + 2) (.int .i64 ((k : Int) + 3 * (m : Int) + 2))
        have c1 := hr1.cell (i := m * 3 + 1) (by omega)
        have c2 := hr1.cell (i := m * 3 + 2) (by omega)
        have z1 := hr1.frozen (m * 3 + 1)
        have z2 := hr1.frozen (m * 3 + 2)
        have HR := hide (And.intro hr2 (((ht0.trans (Turn.of_below hb1)).set (a := ⟨b, m * 3 + 1, none⟩) hB (.string (mt (k + 3 * m + 1)))).set (a := ⟨b, m * 3 + 2, none⟩) hB (.int .i64 ((k : Int) + 3 * (m : Int) + 2))))
        clear hr0 ht0 hr1 hr2 hb1 hrow htu c0 z0
        go_wp2_with fail
        go_roundw
        case rel => exact ⟨m + 1, _, by omega, by go_num, by go_num, HR.out.1, HR.out.2⟩
        case measure => simp [intOf]; omega
      · obtain rfl : m = ps.length := by omega
        go_wp2_with fail
        go_ret
        exact ⟨rfl, htu⟩
end Go.Proofs.YtlpembhdojdomaaGreatDoor
