/- Texts of the proof, put together by program: WStr. -/
import Derived.Test.YtilgbnnjecpneaaGreatDoorR1
/- l1Str, l1Keys: texts and keys that a tree may have, as the model has them. -/
namespace Go.Proofs.YtilgbnnjecpneaaGreatDoor
open Go.RowKit Go.Deep

def letterB (c : UInt8) : Bool := decide (97 ≤ c.toNat ∧ c.toNat ≤ 122)
def strOk (s : ByteArray) : Bool := s.data.toList.all letterB && decide (s.size ≤ 12)

theorem take_snoc (s : ByteArray) (k : Nat) (h : k < s.size) : s.data.toList.take (k + 1) = s.data.toList.take k ++ [s[k]] := by
  rw [List.take_succ_eq_append_getElem (by simpa using h)]; rfl
theorem all_step {s : ByteArray} {k : Nat} (h : k < s.size) (ha : (s.data.toList.take k).all letterB = true) (hc : letterB s[k] = true) : (s.data.toList.take (k + 1)).all letterB = true := by
  rw [take_snoc s k h, List.all_append, ha]
  simp [hc]
theorem all_fail {s : ByteArray} {k : Nat} (h : k < s.size) (hc : letterB s[k] = false) : strOk s = false := by
  have hm : s[k] ∈ s.data.toList := by
    have : s[k] = s.data.toList[k]'(by simpa using h) := rfl
    rw [this]
    exact List.getElem_mem _
  have hf : s.data.toList.all letterB = false := by
    rw [List.all_eq_false]
    exact ⟨_, hm, by simp [hc]⟩
  rw [strOk, hf]
  rfl
theorem all_done {s : ByteArray} {k : Nat} (h : ¬ k < s.size) (ha : (s.data.toList.take k).all letterB = true) : strOk s = decide (s.size ≤ 12) := by
  rw [List.take_of_length_le (by simp; exact Nat.not_lt.1 h)] at ha
  rw [strOk, ha]
  rfl
theorem letter_lo {c : UInt8} (h : (c.toNat : Int) < 97) : letterB c = false := by simp [letterB]; omega
theorem letter_hi {c : UInt8} (h : (122 : Int) < c.toNat) : letterB c = false := by simp [letterB]; omega
theorem letter_in {c : UInt8} (h : ¬ (c.toNat : Int) < 97) (h' : ¬ (122 : Int) < c.toNat) : letterB c = true := by simp [letterB]; omega

set_option maxHeartbeats 400000 in
theorem l1Str_any (s : ByteArray) (w : World) (hs : s.size < 281474976710656) :
    Calls Tryz.prog 101 #[.string s] w fun e w' => e = .returned (.bool (strOk s)) ∧ w' = w := by
  go_enter Tryz.func101, Tryz.ntmps101
  go_wp2_with fail
  go_loop [3] (fun i => ∃ k : Nat, k ≤ s.size ∧ i = .int .i64 k ∧ Hid ((s.data.toList.take k).all letterB = true)) (fun i => s.size - (intOf i).toNat)
  case atStart => exact ⟨0, Nat.zero_le _, rfl, rfl⟩
  case round =>
    obtain ⟨k, hk, rfl, ha⟩ := hrel
    by_cases hlt : k < s.size
    · by_cases h1 : (s[k].toNat : Int) < 97
      · have hf : Hid _ := all_fail hlt (letter_lo h1)
        go_wp2_with fail
        go_ret
        rw [hf.out]
        exact ⟨rfl, rfl⟩
      · by_cases h2 : (122 : Int) < s[k].toNat
        · have hf : Hid _ := all_fail hlt (letter_hi h2)
          go_wp2_with fail
          go_ret
          rw [hf.out]
          exact ⟨rfl, rfl⟩
        · have hf : Hid _ := all_step hlt ha.out (letter_in h1 h2)
          go_wp2_with fail
          go_round
          case rel => exact ⟨k + 1, by omega, by go_num, hf⟩
          case measure => simp [intOf]; omega
    · have hf : Hid _ := all_done hlt ha.out
      go_wp2_with fail
      go_ret
      rw [hf.out]
      exact ⟨by simp; omega, rfl⟩

def ltB (a b : ByteArray) : Bool := Op.bytesLess a.toList b.toList
def keysGo : Option ByteArray → List ByteArray → Bool
  | _, [] => true
  | none, s :: r => strOk s && keysGo (some s) r
  | some p, s :: r => strOk s && (ltB p s && keysGo (some s) r)
def keysB (ss : List ByteArray) : Bool := keysGo none ss
def prevOf (ss : List ByteArray) : Nat → Option ByteArray
  | 0 => none
  | k + 1 => ss[k]?

theorem keysGo_zero {ss : List ByteArray} {s : ByteArray} (h : ss[0]? = some s) : keysGo (prevOf ss 0) (ss.drop 0) = (strOk s && keysGo (prevOf ss 1) (ss.drop 1)) := by
  cases ss with
  | nil => simp at h
  | cons a r =>
    simp at h
    subst h
    rfl
theorem keysGo_succ {ss : List ByteArray} {k : Nat} {p s : ByteArray} (hp : ss[k]? = some p) (h : ss[k + 1]? = some s) :
    keysGo (prevOf ss (k + 1)) (ss.drop (k + 1)) = (strOk s && (ltB p s && keysGo (prevOf ss (k + 1 + 1)) (ss.drop (k + 1 + 1)))) := by
  obtain ⟨hk, e⟩ := List.getElem?_eq_some_iff.1 h
  rw [List.drop_eq_getElem_cons hk, e]
  simp only [prevOf, hp, h, keysGo]
theorem keysGo_pos {ss : List ByteArray} {k : Nat} {p s : ByteArray} (h0 : 0 < k) (hp : ss[k - 1]? = some p) (h : ss[k]? = some s) :
    keysGo (prevOf ss k) (ss.drop k) = (strOk s && (ltB p s && keysGo (prevOf ss (k + 1)) (ss.drop (k + 1)))) := by
  obtain ⟨j, rfl⟩ : ∃ j, k = j + 1 := ⟨k - 1, by omega⟩
  exact keysGo_succ hp h
theorem keysGo_bad {ss : List ByteArray} {k : Nat} {s : ByteArray} (h : ss[k]? = some s) (hs : strOk s = false) : keysGo (prevOf ss k) (ss.drop k) = false := by
  cases k with
  | zero => rw [keysGo_zero h, hs]; rfl
  | succ k =>
    obtain ⟨hk, e⟩ := List.getElem?_eq_some_iff.1 h
    rw [keysGo_succ (List.getElem?_eq_getElem (by omega)) h, hs]
    rfl
theorem bytesLess_irrefl : ∀ a : List UInt8, Op.bytesLess a a = false
  | [] => rfl
  | a :: x => by simp [Op.bytesLess, bytesLess_irrefl x]
theorem bytesLess_total : ∀ a b : List UInt8, (Op.bytesLess a b || a == b) = !Op.bytesLess b a
  | [], [] => rfl
  | [], _ :: _ => rfl
  | _ :: _, [] => rfl
  | a :: x, b :: y => by
    have ih := bytesLess_total x y
    rcases Nat.lt_trichotomy a.toNat b.toNat with h | h | h
    · have h1 : a < b := h
      have h2 : ¬ b < a := by rw [UInt8.lt_iff_toNat_lt]; omega
      have h3 : a ≠ b := by intro e; subst e; omega
      have h4 : b ≠ a := fun e => h3 e.symm
      simp [Op.bytesLess, h1, h2, h4]
    · have h1 : a = b := UInt8.toNat_inj.1 h
      subst h1
      have h2 : ¬ a < a := by rw [UInt8.lt_iff_toNat_lt]; omega
      simp only [Op.bytesLess, h2, decide_false, Bool.false_or, beq_self_eq_true, Bool.true_and, List.cons_beq_cons]
      exact ih
    · have h1 : b < a := h
      have h2 : ¬ a < b := by rw [UInt8.lt_iff_toNat_lt]; omega
      have h3 : a ≠ b := by intro e; subst e; omega
      simp [Op.bytesLess, h1, h2, h3]

set_option maxHeartbeats 1000000 in
theorem l1Keys_any (S : Nat → Prop) (ss : List ByteArray) (v : Value) (w : World) (hv : StrsAt S w v ss) :
    Calls Tryz.prog 102 #[v] w fun e w' => e = .returned (.bool (keysB ss)) ∧ ∃ n, w' = w.drewN n := by
  obtain ⟨a, cap, rfl, hlen⟩ := hv.open'
  go_enter Tryz.func102, Tryz.ntmps102
  go_wp2_with fail
  go_loopw [3] (fun i wr => ∃ k : Nat, k ≤ ss.length ∧ i = .int .i64 k ∧ Hid (∃ n, wr = w.drewN n) ∧ Hid (keysB ss = keysGo (prevOf ss k) (ss.drop k))) (fun i _ => ss.length - (intOf i).toNat)
  case atStart => exact ⟨0, Nat.zero_le _, rfl, ⟨0, rfl⟩, rfl⟩
  case round =>
    obtain ⟨k, hk, rfl, hwr, hfin⟩ := hrel
    have hvr : StrsAt S wr (.slice a ss.length cap) ss := by
      obtain ⟨n, rfl⟩ := hwr.out
      exact hv.same (fun _ _ => rfl)
    have hend : Hid (∀ m, ∃ n, wr.drewN m = w.drewN n) := by
      obtain ⟨n, hn⟩ := hwr.out
      intro m
      exact ⟨n + m, by rw [hn, World.drewN_drewN]⟩
    clear hv
    by_cases hkl : k < ss.length
    · obtain ⟨b, o, s, rfl, _, hs, hsz, hck⟩ := hvr.cell hkl
      have hki : (k : Int) < (ss.length : Int) := by omega
      cases h1 : strOk s with
      | false =>
        have hf : Hid (keysB ss = false) := hfin.out.trans (keysGo_bad hs h1)
        clear hfin hs hvr
        go_wp2_with fail
        go_quiet ((go_at_call 101; exact Calls.quiet_of_same (l1Str_any _ _ hsz)))
        go_wp2_with fail
        go_ret
        rw [hf.out]
        exact ⟨rfl, hend.out nq⟩
      | true =>
        by_cases h0 : k = 0
        · subst h0
          have hf : Hid (keysB ss = keysGo (prevOf ss 1) (ss.drop 1)) := by
            show keysB ss = _
            rw [hfin.out, keysGo_zero hs, h1]
            rfl
          clear hfin hs hvr
          rw [Nat.add_zero] at hck
          have hd : decide ((0 : Int) < ((0 : Nat) : Int)) = false := rfl
          go_wp2_with fail
          go_quiet ((go_at_call 101; exact Calls.quiet_of_same (l1Str_any _ _ hsz)))
          go_wp2_with fail
          go_roundw
          case rel => exact ⟨1, by omega, by go_num, hend.out nq, hf⟩
          case measure => simp [intOf]; omega
        · obtain ⟨b2, o2, s2, hbo, _, hs2, _, hck2⟩ := hvr.cell (k := k - 1) (by omega)
          cases hbo
          have hst : Hid (_ = _) := keysGo_pos (by omega) hs2 hs
          have hk0 : 0 < k := by omega
          have hwrap : IntKind.i64.wrap ((k : Int) - 1) = (k : Int) - 1 := IntWalk.i64_in _ (by omega)
          have hk1 : (1 : Int) ≤ (k : Int) := by omega
          have hk2 : (k : Int) - 1 < (ss.length : Int) := by omega
          have hto : ((k : Int) - 1).toNat = k - 1 := by omega
          cases h2 : ltB s2 s with
          | true =>
            have hf : Hid (keysB ss = keysGo (prevOf ss (k + 1)) (ss.drop (k + 1))) := by
              show keysB ss = _
              rw [hfin.out, hst.out, h1, h2]
              rfl
            have hcmp : (Op.bytesLess s.toList s2.toList || s.toList == s2.toList) = false := by
              rw [bytesLess_total]
              unfold ltB at h2
              rw [h2]
              rfl
            clear hfin hs hvr hst hs2
            go_wp2_with fail
            go_quiet ((go_at_call 101; exact Calls.quiet_of_same (l1Str_any _ _ hsz)))
            go_wp2_with fail
            exact ⟨⟨k + 1, by omega, by go_num, hend.out nq, hf⟩, by simp [intOf]; omega⟩
          | false =>
            have hf : Hid (keysB ss = false) := by
              show keysB ss = _
              rw [hfin.out, hst.out, h1, h2]
              rfl
            have hcmp : (Op.bytesLess s.toList s2.toList || s.toList == s2.toList) = true := by
              rw [bytesLess_total]
              unfold ltB at h2
              rw [h2]
              rfl
            clear hfin hs hvr hst hs2
            go_wp2_with fail
            go_quiet ((go_at_call 101; exact Calls.quiet_of_same (l1Str_any _ _ hsz)))
            go_wp2_with fail
            go_ret
            rw [hf.out]
            exact ⟨rfl, hend.out nq⟩
    · go_wp2_with fail
      go_ret
      rw [hfin.out, List.drop_eq_nil_of_le (by omega)]
      refine ⟨?_, hwr.out⟩
      cases prevOf ss k <;> rfl
end Go.Proofs.YtilgbnnjecpneaaGreatDoor
