/- markText: the text of a mark. -/
import Derived.Test.YtbcafaomfaainaaGreatDoorWMarkP
import Derived.Laws.IdiomStrings
namespace Go.Proofs.YtbcafaomfaainaaGreatDoor
open Go.RowKit Go.Deep

theorem digit_string (m : Nat) (w : World) : (convert 76 9 (.slice (some ⟨w.heap.size, 0, none⟩) 1 1)).run Tryz.prog (w.alloc (.cells #[.int .u8 (48 + (m : Int) % 10)] 5)) =
    .ok (.string ⟨#[dg m]⟩) (w.alloc (.cells #[.int .u8 (48 + (m : Int) % 10)] 5)) := by
  refine run_convert_bytes_back (P := Tryz.prog) (w.alloc (.cells #[.int .u8 (48 + (m : Int) % 10)] 5)) 76 9 5 ⟨w.heap.size, 0, none⟩ 1 [dg m] Tryz.underlying76 Tryz.underlying5 Tryz.underlying9 (fun j hj => ?_)
  obtain rfl : j = 0 := by simpa using hj
  have h0 : (⟨w.heap.size, 0, none⟩ : Addr).add 0 = ⟨w.heap.size, 0, none⟩ := by simp [Addr.add]
  rw [h0]
  simp [dg_nat]

set_option maxRecDepth 100000 in
set_option maxHeartbeats 400000 in
theorem markText_any (k : Nat) (w : World) (h0 : 1 ≤ k) (h1 : k ≤ 1099511627776) :
    Calls Tryz.prog 31 #[.int .i64 (k : Int)] w fun e w' => e = .returned (.string (mt k)) ∧ Below w.heap.size w w' := by
  go_enter Tryz.func31, Tryz.ntmps31
  go_wp2_with fail
  go_loopw [0, 3] (fun kk out wr => ∃ (m : Nat) (o : ByteArray), kk = .int .i64 (m : Int) ∧ out = .string o ∧ m + o.size ≤ k ∧ Hid (mtGo (k + 1) k ByteArray.empty = mtGo (k + 1) m o) ∧ Below w.heap.size w wr) (fun kk _ _ => (intOf kk).toNat)
  case atStart => exact ⟨k, ByteArray.empty, rfl, rfl, by show k + 0 ≤ k; omega, rfl, Below.refl _ _⟩
  case round =>
    obtain ⟨m, o, rfl, rfl, hm, hfin, hbel⟩ := hrel
    by_cases hpos : 0 < m
    · have hst : Hid (_ = _) := mtGo_step (f := k + 1) o (by omega) hpos
      have hcv := digit_string m wr
      go_wp2_with fail
      go_roundw
      case rel =>
        refine ⟨m / 10, { data := #[dg m] } ++ o, by go_num, rfl, ?_, by rw [hfin.out, hst.out]; exact rfl, hbel.alloc hbel.size _⟩
        rw [ByteArray.size_append]
        have h1 : (ByteArray.mk #[dg m]).size = 1 := rfl
        omega
      case measure => simp [intOf]; omega
    · obtain rfl : m = 0 := by omega
      go_wp2_with fail
      go_ret
      refine ⟨?_, hbel⟩
      rw [mt, hfin.out]
      rfl
end Go.Proofs.YtbcafaomfaainaaGreatDoor
