/- cmp.Compare, cmp.Or, slices.Compare. -/
import Derived.Test.YtdmlpbkiomgloaaWOrd
namespace Go.Proofs.Ytdmlpbkiomgloaa
open Go.RowKit Go.Deep

set_option maxHeartbeats 400000 in
theorem isNaNInt_any (a : Int) (w : World) : Calls Try.prog 54 #[.int .i64 a] w fun e w' => e = .returned (.bool false) ∧ w' = w := by
  have hq : (a != a) = false := by simp
  go_enter Try.func54, Try.ntmps54
  go_wp2_with fail
  go_ret
  exact ⟨by simp, rfl⟩
set_option maxHeartbeats 400000 in
theorem isNaNStr_any (a : ByteArray) (w : World) : Calls Try.prog 55 #[.string a] w fun e w' => e = .returned (.bool false) ∧ w' = w := by
  have hq : (a.toList == a.toList) = true := by simp
  go_enter Try.func55, Try.ntmps55
  go_wp2_with fail
  go_ret
  exact ⟨by simp, rfl⟩

set_option maxHeartbeats 1000000 in
theorem compareInt_any (a b : Int) (w : World) : Calls Try.prog 43 #[.int .i64 a, .int .i64 b] w fun e w' => e = .returned (.int .i64 (cmpI a b)) ∧ w' = w := by
  go_enter Try.func43, Try.ntmps43
  go_wp2_with fail
  refine (isNaNInt_any _ _).mono ?_
  rintro e w1 ⟨rfl, rfl⟩
  go_wp2_with fail
  refine (isNaNInt_any _ _).mono ?_
  rintro e w1 ⟨rfl, rfl⟩
  by_cases h : a < b
  · have hf : Hid _ := cmpI_lt h
    go_wp2_with fail
    go_ret
    rw [hf.out]
    exact ⟨rfl, rfl⟩
  · by_cases h' : b < a
    · have hf : Hid _ := cmpI_gt h'
      go_wp2_with fail
      go_ret
      rw [hf.out]
      exact ⟨rfl, rfl⟩
    · have hf : Hid _ := cmpI_eq h h'
      go_wp2_with fail
      go_ret
      rw [hf.out]
      exact ⟨rfl, rfl⟩
set_option maxHeartbeats 1000000 in
theorem compareStr_any (a b : ByteArray) (w : World) : Calls Try.prog 44 #[.string a, .string b] w fun e w' => e = .returned (.int .i64 (cmpS a b)) ∧ w' = w := by
  go_enter Try.func44, Try.ntmps44
  go_wp2_with fail
  refine (isNaNStr_any _ _).mono ?_
  rintro e w1 ⟨rfl, rfl⟩
  go_wp2_with fail
  refine (isNaNStr_any _ _).mono ?_
  rintro e w1 ⟨rfl, rfl⟩
  cases h1 : Op.bytesLess a.toList b.toList with
  | true =>
    have hf : Hid _ := cmpS_lt h1
    go_wp2_with fail
    go_ret
    rw [hf.out]
    exact ⟨rfl, rfl⟩
  | false =>
    cases h2 : (a.toList == b.toList) with
    | true =>
      have hf : Hid _ := cmpS_eq h2
      go_wp2_with fail
      go_ret
      rw [hf.out]
      exact ⟨rfl, rfl⟩
    | false =>
      have hf : Hid _ := cmpS_gt h1 h2
      go_wp2_with fail
      go_ret
      rw [hf.out]
      exact ⟨rfl, rfl⟩

set_option maxHeartbeats 1000000 in
theorem compareStrs_any (S S' : Nat → Prop) (ss ss' : List ByteArray) (v v' : Value) (w : World) (hv : StrsAt S w v ss) (hv' : StrsAt S' w v' ss') :
    Calls Try.prog 45 #[v, v'] w fun e w' => e = .returned (.int .i64 (ordL cmpS ss ss')) ∧ w' = w := by
  obtain ⟨a, cap, rfl, hlen⟩ := hv.open'
  obtain ⟨a', cap', rfl, hlen'⟩ := hv'.open'
  go_enter Try.func45, Try.ntmps45
  go_wp2_with fail
  go_loop [11] (fun i => ∃ (k : Nat), k ≤ ss.length ∧ k ≤ ss'.length ∧ i = .int .i64 k ∧ Hid (ordL cmpS ss ss' = ordL cmpS (ss.drop k) (ss'.drop k))) (fun i => ss.length - (intOf i).toNat)
  case atStart => exact ⟨0, Nat.zero_le _, Nat.zero_le _, rfl, rfl⟩
  case round =>
    obtain ⟨k, hk, hk', rfl, hfin⟩ := hrel
    by_cases hkl : k < ss.length
    case neg =>
      have hf2 : Hid (ordL cmpS ss ss' = cmpI ss.length ss'.length) := by
        show _ = _
        rw [hfin.out, ordL_end cmpS hk hk' (by omega)]
      by_cases hl : ss.length < ss'.length
      · have hf3 : Hid (ordL cmpS ss ss' = -1) := by show _ = _; rw [hf2.out, cmpI_lt (by omega)]
        go_wp2_with fail
        go_ret
        rw [hf3.out]
        exact ⟨rfl, rfl⟩
      · have hf3 : Hid (ordL cmpS ss ss' = 0) := by show _ = _; rw [hf2.out, cmpI_eq (by omega) (by omega)]
        go_wp2_with fail
        go_ret
        rw [hf3.out]
        exact ⟨rfl, rfl⟩
    case pos =>
    obtain ⟨b, o, s, rfl, _, hs, _, hck⟩ := hv.cell hkl
    by_cases hkl' : k < ss'.length
    case neg =>
      have hf3 : Hid (ordL cmpS ss ss' = 1) := by
        show _ = _
        rw [hfin.out, ordL_end cmpS hk hk' (by omega), cmpI_gt (by omega)]
      have hge : (ss'.length : Int) ≤ (k : Int) := by omega
      go_wp2_with fail
      go_ret
      rw [hf3.out]
      exact ⟨rfl, rfl⟩
    case pos =>
    obtain ⟨b', o', s', rfl, _, hs', _, hck'⟩ := hv'.cell hkl'
    have hst : Hid (_ = _) := ordL_drop cmpS hs hs'
    clear hv hv' hs hs'
    have hge : ¬ (ss'.length : Int) ≤ (k : Int) := by omega
    go_wp2_with fail
    refine (compareStr_any _ _ _).mono ?_
    rintro e w1 ⟨rfl, rfl⟩
    by_cases heq : cmpS s s' = 0
    · have hst2 : Hid (ordL cmpS ss ss' = ordL cmpS (ss.drop (k + 1)) (ss'.drop (k + 1))) := by
        show ordL cmpS ss ss' = _
        rw [hfin.out, hst.out, heq]
        rfl
      clear hst hfin
      go_wp2_with fail
      go_round
      case rel => exact ⟨k + 1, by omega, by omega, by go_num, hst2⟩
      case measure => simp [intOf]; omega
    · have hfin2 : Hid (ordL cmpS ss ss' = cmpS s s') := by
        show ordL cmpS ss ss' = _
        rw [hfin.out, hst.out, orI_ne heq]
      clear hst hfin
      go_wp2_with fail
      go_ret
      rw [hfin2.out]
      exact ⟨rfl, rfl⟩

end Go.Proofs.Ytdmlpbkiomgloaa
