/- textOk, keysOk, bare, numOk: the program's own looks at texts, keys and bare parts. -/
import Derived.Test.YtbcafaomfaainaaGreatDoorWMany
import Derived.Deep.LoopGhost
namespace Go.Proofs.YtbcafaomfaainaaGreatDoor
open Go.RowKit Go.Deep

theorem decode_high (s : ByteArray) (pos : Nat) (h : pos < s.size) (ha : ¬ (s[pos]'h).toNat < 128) : 128 ≤ (Utf8.decode s pos).1 := by
  have e : s.get! (pos + 0) = s[pos]'h := by
    show s.get! pos = _
    simp [ByteArray.get!, getElem!_pos, h]
    rfl
  simp only [Utf8.decode, e, ha, if_false]
  repeat' split
  all_goals first
    | omega
    | (simp only [Utf8.runeError]; omega)
    | (rename_i h1; simp only [Bool.and_eq_true, decide_eq_true_eq, ge_iff_le] at h1; omega)

theorem run_next_any {P : Program} (w : World) (s : ByteArray) (pos : Nat) (ty : TypeId) (h : pos < s.size) :
    (Instr.next (.pointer (some ⟨w.heap.size, 0, none⟩)) true ty).run P (w.iter s pos) =
      .ok (.tuple #[.bool true, .int .i64 pos, .int .i32 (Utf8.decode s pos).1]) (w.iter s (pos + (Utf8.decode s pos).2)) := by
  simp only [Instr.next, getObj, setObj, Sem.run_bind, Sem.run, World.iter_heap, Result.andThen, h, if_true, World.iter_set]
  simp [goInt]

theorem below_iter (w : World) (s : ByteArray) (pos : Nat) : Below w.heap.size w (w.iter s pos) := below_alloc1 _ _

set_option maxHeartbeats 1000000 in
theorem textOk_any (s : ByteArray) (w : World) (hs : s.size < 281474976710656) :
    Calls Tryz.prog 51 #[.string s] w fun e w' => e = .returned (.bool (strOk s)) ∧ Below w.heap.size w w' := by
  by_cases hl : 12 < s.size
  · have hf : Hid (strOk s = false) := by
      show strOk s = false
      rw [strOk, decide_eq_false (by omega), Bool.and_false]
    go_enter Tryz.func51, Tryz.ntmps51
    go_wp2_with fail
    go_ret
    rw [hf.out]
    exact ⟨rfl, Below.refl _ _⟩
  · have hl2 : s.size ≤ 12 := by omega
    go_enter Tryz.func51, Tryz.ntmps51
    go_wp2_with fail
    go_loopg [2] s.size (fun gk v wr => ∃ k : Nat, k + gk = s.size ∧ v = .bool false ∧ Hid (wr = w.iter s k) ∧ Hid ((s.data.toList.take k).all letterB = true))
    case atStart => exact ⟨0, by omega, rfl, rfl, rfl⟩
    case round =>
      obtain ⟨k, hk, rfl, hwr, ha⟩ := hrel
      have hwr2 := hwr.out
      subst hwr2
      have HK : Hid _ := hk
      clear hk hwr
      by_cases hlt : k < s.size
      · by_cases h8 : s[k].toNat < 128
        · have hnx := fun ty => run_next_ascii (P := Tryz.prog) w s k ty hlt h8
          by_cases h1 : (s[k].toNat : Int) < 97
          · have hf : Hid _ := all_fail hlt (letter_lo h1)
            go_wp2_with fail
            go_ret
            rw [hf.out]
            exact ⟨rfl, below_iter _ _ _⟩
          · by_cases h2 : (122 : Int) < s[k].toNat
            · have hf : Hid _ := all_fail hlt (letter_hi h2)
              go_wp2_with fail
              go_ret
              rw [hf.out]
              exact ⟨rfl, below_iter _ _ _⟩
            · have hf : Hid _ := all_step hlt ha.out (letter_in h1 h2)
              go_wp2_with fail
              go_roundg (gk - 1)
              case rel => exact ⟨k + 1, by have := HK.out; omega, rfl, rfl, hf⟩
              case measure => have := HK.out; omega
        · have hnx := fun ty => run_next_any (P := Tryz.prog) w s k ty hlt
          have hh := decode_high s k hlt h8
          have h2 : (122 : Int) < ((Utf8.decode s k).1 : Int) := by omega
          have h1 : ¬ ((Utf8.decode s k).1 : Int) < 97 := by omega
          have hf : Hid _ := all_fail hlt (letter_hi (by omega))
          clear h8 hh
          go_wp2_with fail
          go_ret
          rw [hf.out]
          exact ⟨rfl, below_iter _ _ _⟩
      · have hnx := fun ty => run_next_end (P := Tryz.prog) w s k ty hlt
        have hf : Hid _ := all_done hlt ha.out
        go_wp2_with fail
        go_ret
        rw [hf.out]
        exact ⟨by simp [hl2], below_iter _ _ _⟩

set_option maxHeartbeats 1000000 in
theorem keysOk_any (S : Nat → Prop) (ss : List ByteArray) (v : Value) (w : World) (hv : StrsAt S w v ss) (hS : Within S w) :
    Calls Tryz.prog 53 #[v] w fun e w' => e = .returned (.bool (keysB ss)) ∧ Below w.heap.size w w' := by
  obtain ⟨a, cap, rfl, hlen⟩ := hv.open'
  go_enter Tryz.func53, Tryz.ntmps53
  go_wp2_with fail
  go_loopw [7] (fun i wr => ∃ k : Nat, k ≤ ss.length ∧ i = .int .i64 k ∧ Below w.heap.size w wr ∧ Hid (keysB ss = keysGo (prevOf ss k) (ss.drop k))) (fun i _ => ss.length - (intOf i).toNat)
  case atStart => exact ⟨0, Nat.zero_le _, rfl, Below.refl _ _, rfl⟩
  case round =>
    obtain ⟨k, hk, rfl, hbel, hfin⟩ := hrel
    have hvr := hv.same (hS.same hbel)
    by_cases hkl : k < ss.length
    · obtain ⟨b, o, s, rfl, hSb, hs, hsz, hck⟩ := hvr.cell hkl
      go_wp2_with fail
      refine (textOk_any s _ hsz).mono ?_
      rintro e w1 ⟨rfl, hb1⟩
      have hb2 := below_trans hbel hb1
      cases h1 : strOk s with
      | false =>
        have hf : Hid (keysB ss = false) := hfin.out.trans (keysGo_bad hs h1)
        clear hfin hs hvr hv hbel hb1 hck
        go_wp2_with fail
        go_ret
        rw [hf.out]
        exact ⟨rfl, hb2⟩
      | true =>
        by_cases h0 : k = 0
        · subst h0
          have hf : Hid (keysB ss = keysGo (prevOf ss 1) (ss.drop 1)) := by
            show keysB ss = _
            rw [hfin.out, keysGo_zero hs, h1]
            rfl
          clear hfin hs hvr hv hbel hb1 hck
          go_wp2_with fail
          go_roundw
          case rel => exact ⟨1, by omega, by go_num, hb2, hf⟩
          case measure => simp [intOf]; omega
        · obtain ⟨b2, o2, s2, hbo, _, hs2, _, hck2⟩ := (hv.same (hS.same hb2)).cell (k := k - 1) (by omega)
          cases hbo
          have hst : Hid (_ = _) := keysGo_pos (by omega) hs2 hs
          have hk0 : 0 < k := by omega
          have hk1 : (1 : Int) ≤ (k : Int) := by omega
          have hk2 : (k : Int) - 1 < (ss.length : Int) := by omega
          have hto : ((k : Int) - 1).toNat = k - 1 := by omega
          cases h2 : ltB s2 s with
          | true =>
            have hf : Hid (keysB ss = keysGo (prevOf ss (k + 1)) (ss.drop (k + 1))) := by
              show keysB ss = _
              rw [hfin.out, hst.out, h1, h2]
              rfl
            unfold ltB at h2
            clear hfin hs hvr hst hs2 hv hbel hb1 hck
            go_wp2_with fail
            go_roundw
            case rel => exact ⟨k + 1, by omega, by go_num, hb2, hf⟩
            case measure => simp [intOf]; omega
          | false =>
            have hf : Hid (keysB ss = false) := by
              show keysB ss = _
              rw [hfin.out, hst.out, h1, h2]
              rfl
            unfold ltB at h2
            clear hfin hs hvr hst hs2 hv hbel hb1 hck
            go_wp2_with fail
            go_ret
            rw [hf.out]
            exact ⟨rfl, hb2⟩
    · go_wp2_with fail
      go_ret
      rw [hfin.out, List.drop_eq_nil_of_le (by omega)]
      refine ⟨?_, hbel⟩
      cases prevOf ss k <;> rfl

set_option maxHeartbeats 400000 in
theorem numOk_any (n : Int) (w : World) :
    Calls Tryz.prog 50 #[.int .i64 n] w fun e w' => e = .returned (.bool (decide (-1000000 ≤ n ∧ n ≤ 1000000))) ∧ w' = w := by
  by_cases h1 : -1000000 ≤ n
  · by_cases h2 : n ≤ 1000000
    · go_enter Tryz.func50, Tryz.ntmps50
      go_wp2_with fail
      go_ret
      exact ⟨by simp; omega, rfl⟩
    · go_enter Tryz.func50, Tryz.ntmps50
      go_wp2_with fail
      go_ret
      exact ⟨by simp; omega, rfl⟩
  · go_enter Tryz.func50, Tryz.ntmps50
    go_wp2_with fail
    go_ret
    exact ⟨by simp; omega, rfl⟩

/-- A part has nothing but its kind. -/
def bareB (num : Int) (str : ByteArray) (nk nl : Nat) : Bool := num == 0 && str.toList == [] && nk == 0 && nl == 0

set_option maxHeartbeats 1000000 in
theorem bare_any (kind num : Int) (str : ByteArray) (nk nl : Nat) (ak al : Option Addr) (ck cl : Nat) (w : World) (hkl : nk < 17592186044416) (hll : nl < 3518437208883) :
    Calls Tryz.prog 49 #[.agg #[.int .i64 kind, .int .i64 num, .string str, .slice ak nk ck, .slice al nl cl]] w
      fun e w' => e = .returned (.bool (bareB num str nk nl)) ∧ Below w.heap.size w w' := by
  cases h1 : (num == 0) with
  | false =>
    have hf : Hid (bareB num str nk nl = false) := by show bareB num str nk nl = false; rw [bareB, h1]; rfl
    go_enter Tryz.func49, Tryz.ntmps49
    go_wp2_with fail
    go_ret
    rw [hf.out]
    exact ⟨rfl, below_alloc1 _ _⟩
  | true =>
  cases h2 : (str.toList == []) with
  | false =>
    have hf : Hid (bareB num str nk nl = false) := by show bareB num str nk nl = false; rw [bareB, h1, h2]; rfl
    have h2' : ¬ str.toList = [] := by simpa using h2
    go_enter Tryz.func49, Tryz.ntmps49
    go_wp2_with fail
    go_ret
    rw [hf.out]
    exact ⟨rfl, below_alloc1 _ _⟩
  | true =>
  have h2' : str.toList = [] := by simpa using h2
  cases h3 : (nk == 0) with
  | false =>
    have hf : Hid (bareB num str nk nl = false) := by show bareB num str nk nl = false; rw [bareB, h1, h2, h3]; rfl
    have h3' : ((nk : Int) == 0) = false := by rw [beq_eq_false_iff_ne] at h3 ⊢; omega
    clear h3 h2
    go_enter Tryz.func49, Tryz.ntmps49
    go_wp2_with fail
    go_ret
    rw [hf.out]
    exact ⟨rfl, below_alloc1 _ _⟩
  | true =>
  obtain rfl : nk = 0 := by simpa using h3
  cases h4 : (nl == 0) with
  | false =>
    have hf : Hid (bareB num str 0 nl = false) := by show bareB num str 0 nl = false; rw [bareB, h1, h2, h4]; rfl
    have h4' : ((nl : Int) == 0) = false := by rw [beq_eq_false_iff_ne] at h4 ⊢; omega
    clear h4 h2 h3
    go_enter Tryz.func49, Tryz.ntmps49
    go_wp2_with fail
    go_ret
    rw [hf.out]
    exact ⟨rfl, below_alloc1 _ _⟩
  | true =>
    have hf : Hid (bareB num str 0 nl = true) := by show bareB num str 0 nl = true; rw [bareB, h1, h2, h4]; rfl
    obtain rfl : nl = 0 := by simpa using h4
    clear h4 h2 h3
    go_enter Tryz.func49, Tryz.ntmps49
    go_wp2_with fail
    go_ret
    rw [hf.out]
    exact ⟨rfl, below_alloc1 _ _⟩
end Go.Proofs.YtbcafaomfaainaaGreatDoor
