/- cmp.Or: the first number that is not 0. -/
import Derived.Test.YtdmlpbkiomgloaaWCmp
namespace Go.Proofs.Ytdmlpbkiomgloaa
open Go.RowKit Go.Deep

theorem foldr_drop {xs : List Int} {k : Nat} {x : Int} (h : xs[k]? = some x) : (xs.drop k).foldr orI 0 = orI x ((xs.drop (k + 1)).foldr orI 0) := by
  obtain ⟨hk, e⟩ := List.getElem?_eq_some_iff.1 h
  rw [List.drop_eq_getElem_cons hk, e, List.foldr_cons]

set_option maxHeartbeats 1000000 in
theorem orInt_any (xs : List Int) (b o cap : Nat) (w : World) (hl : xs.length < 1000) (hc : ∀ i x, xs[i]? = some x → w.cell? ⟨b, o + i, none⟩ = some (.int .i64 x)) :
    Calls Try.prog 42 #[.slice (some ⟨b, o, none⟩) xs.length cap] w fun e w' => e = .returned (.int .i64 (xs.foldr orI 0)) ∧ w' = w := by
  go_enter Try.func42, Try.ntmps42
  go_wp2_with fail
  go_loop [8] (fun i => ∃ (k : Nat), k ≤ xs.length ∧ i = .int .i64 k ∧ Hid (xs.foldr orI 0 = (xs.drop k).foldr orI 0)) (fun i => xs.length - (intOf i).toNat)
  case atStart => exact ⟨0, Nat.zero_le _, rfl, rfl⟩
  case round =>
    obtain ⟨k, hk, rfl, hfin⟩ := hrel
    by_cases hkl : k < xs.length
    · have hx := List.getElem?_eq_getElem hkl
      generalize xs[k] = x at hx
      have hck := hc k x hx
      have hst : Hid (_ = _) := foldr_drop hx
      by_cases h0 : x = 0
      · have hst2 : Hid (xs.foldr orI 0 = (xs.drop (k + 1)).foldr orI 0) := by
          show _ = _
          rw [hfin.out, hst.out, h0]
          rfl
        subst h0
        clear hst hfin hx hc
        go_wp2_with fail
        go_round
        case rel => exact ⟨k + 1, by omega, by go_num, hst2⟩
        case measure => simp [intOf]; omega
      · have hst2 : Hid (xs.foldr orI 0 = x) := by
          show _ = _
          rw [hfin.out, hst.out, orI_ne h0]
        clear hst hfin hx hc
        go_wp2_with fail
        go_ret
        rw [hst2.out]
        exact ⟨rfl, rfl⟩
    · go_wp2_with fail
      go_ret
      rw [hfin.out, List.drop_eq_nil_of_le (by omega)]
      exact ⟨rfl, rfl⟩
end Go.Proofs.Ytdmlpbkiomgloaa
