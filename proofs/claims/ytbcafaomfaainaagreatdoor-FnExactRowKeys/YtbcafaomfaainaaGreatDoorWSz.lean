/- szStringS, szVal, szValS: how much a tree takes. -/
import Derived.Test.YtbcafaomfaainaaGreatDoorBase
import Derived.Test.YtbcafaomfaainaaGreatDoorRows
import Derived.Handy
import Derived.BigQuiet
import Derived.Deep.QuietTactic
namespace Go.Proofs.YtbcafaomfaainaaGreatDoor
open Go.RowKit

def szStrsGo : List ByteArray → Int → Int
  | [], left => left
  | s :: r, left => if left - s.size < 0 then -1 else szStrsGo r (left - s.size)
def szStrs (ss : List ByteArray) (left : Int) : Int := if left - ss.length < 0 then -1 else szStrsGo ss (left - ss.length)

theorem szStrsGo_step {ss : List ByteArray} {k : Nat} {s : ByteArray} (h : ss[k]? = some s) (left : Int) :
    szStrsGo (ss.drop k) left = if left - s.size < 0 then -1 else szStrsGo (ss.drop (k + 1)) (left - s.size) := by
  obtain ⟨hk, hs⟩ := List.getElem?_eq_some_iff.1 h
  rw [List.drop_eq_getElem_cons hk, hs, szStrsGo]

set_option maxHeartbeats 400000 in
theorem szStringS_any (S : Nat → Prop) (ss : List ByteArray) (v : Value) (left : Int) (w : World) (hv : StrsAt S w v ss) (h0 : 0 ≤ left) (h1 : left ≤ 1048576) :
    Calls Tryz.prog 11 #[v, .int .i64 left] w fun e w' => e = .returned (.int .i64 (szStrs ss left)) ∧ w' = w := by
  obtain ⟨a, cap, rfl, hlen⟩ := hv.open'
  by_cases hlt : left - ss.length < 0
  · have hfin : Hid (szStrs ss left = -1) := if_pos hlt
    go_enter Tryz.func11, Tryz.ntmps11
    go_wp2_with fail
    go_ret
    rw [hfin.out]
    exact ⟨rfl, rfl⟩
  · have hfin : Hid (szStrs ss left = szStrsGo ss (left - ss.length)) := if_neg hlt
    go_enter Tryz.func11, Tryz.ntmps11
    go_wp2_with fail
    go_loop [1, 5] (fun l i => ∃ (k : Nat) (m : Int), k ≤ ss.length ∧ i = .int .i64 k ∧ l = .int .i64 m ∧ 0 ≤ m ∧ m ≤ 1048576 ∧ Hid (szStrs ss left = szStrsGo (ss.drop k) m)) (fun _ i => ss.length - (intOf i).toNat)
    case atStart => exact ⟨0, _, Nat.zero_le _, rfl, rfl, by omega, by omega, hfin⟩
    case round =>
      clear hfin
      obtain ⟨k, m, hk, rfl, rfl, hm0, hm1, hfin⟩ := hrel
      by_cases hkl : k < ss.length
      · obtain ⟨b, o, s, rfl, _, hs, hb, hck⟩ := hv.cell hkl
        have hst : Hid (_ = _) := szStrsGo_step hs m
        clear hs hv
        by_cases hneg : m - s.size < 0
        · go_wp2_with fail
          go_ret
          rw [hfin.out, hst.out, if_pos hneg]
          exact ⟨rfl, rfl⟩
        · go_wp2_with fail
          go_round
          case rel => exact ⟨k + 1, m - s.size, by omega, by go_num, rfl, by omega, by omega, by rw [hfin.out, hst.out, if_neg (by omega)]; exact rfl⟩
          case measure => simp [intOf]; omega
      · go_wp2_with fail
        go_ret
        rw [hfin.out, List.drop_eq_nil_of_le (by omega)]
        exact ⟨rfl, rfl⟩

theorem szStrsGo_le : ∀ (ss : List ByteArray) (left : Int), 0 ≤ left → szStrsGo ss left ≤ left
  | [], left, h => Int.le_refl _
  | s :: r, left, h => by
    rw [szStrsGo]
    split
    · omega
    · have := szStrsGo_le r (left - s.size) (by omega)
      omega
theorem szStrs_le (ss : List ByteArray) (left : Int) (h : 0 ≤ left) : szStrs ss left ≤ left := by
  rw [szStrs]
  split
  · omega
  · have := szStrsGo_le ss (left - ss.length) (by omega)
    omega

def szLGo {α : Type} (f : α → Int → Int) : List α → Int → Int
  | [], left => left
  | x :: r, left => if f x left < 0 then -1 else szLGo f r (f x left)
def szL {α : Type} (f : α → Int → Int) (xs : List α) (left : Int) : Int := if left - xs.length < 0 then -1 else szLGo f xs (left - xs.length)
def szT : (d : Nat) → Tr d → Int → Int
  | 0, _, _ => -1
  | d + 1, t, left =>
    if left - (Nd.str t).size < 0 then -1 else
    if szStrs (Nd.keys t) (left - (Nd.str t).size) < 0 then -1 else
    if szL (szT d) (Nd.list t) (szStrs (Nd.keys t) (left - (Nd.str t).size)) < 0 then -1 else szL (szT d) (Nd.list t) (szStrs (Nd.keys t) (left - (Nd.str t).size))

theorem szLGo_step {α : Type} (f : α → Int → Int) {xs : List α} {k : Nat} {x : α} (h : xs[k]? = some x) (left : Int) :
    szLGo f (xs.drop k) left = if f x left < 0 then -1 else szLGo f (xs.drop (k + 1)) (f x left) := by
  obtain ⟨hk, hs⟩ := List.getElem?_eq_some_iff.1 h
  rw [List.drop_eq_getElem_cons hk, hs, szLGo]
theorem szLGo_le {α : Type} (f : α → Int → Int) (hf : ∀ x left, 0 ≤ left → f x left ≤ left) : ∀ (xs : List α) (left : Int), 0 ≤ left → szLGo f xs left ≤ left
  | [], left, h => Int.le_refl _
  | s :: r, left, h => by
    rw [szLGo]
    split
    · omega
    · have := szLGo_le f hf r (f s left) (by omega)
      have := hf s left h
      omega
theorem szL_le {α : Type} (f : α → Int → Int) (hf : ∀ x left, 0 ≤ left → f x left ≤ left) (xs : List α) (left : Int) (h : 0 ≤ left) : szL f xs left ≤ left := by
  rw [szL]
  split
  · omega
  · have := szLGo_le f hf xs (left - xs.length) (by omega)
    omega
theorem szT_le : ∀ (d : Nat) (t : Tr d) (left : Int), 0 ≤ left → szT d t left ≤ left
  | 0, _, left, h => by rw [szT]; omega
  | d + 1, t, left, h => by
    rw [szT]
    split
    · omega
    split
    · omega
    split
    · omega
    have h1 := szStrs_le (Nd.keys t) (left - (Nd.str t).size) (by omega)
    have h2 := szL_le (szT d) (szT_le d) (Nd.list t) (szStrs (Nd.keys t) (left - (Nd.str t).size)) (by omega)
    omega

/-- What szVal does with trees of this depth. -/
def SzVal (d : Nat) : Prop := ∀ (S : Nat → Prop) (t : Tr d) (v : Value) (left : Int) (w : World), ValAt S w d t v → Within S w → 0 ≤ left → left ≤ 1048576 →
    Calls Tryz.prog 4 #[v, .int .i64 left] w fun e w' => e = .returned (.int .i64 (szT d t left)) ∧ Below w.heap.size w w'

set_option maxHeartbeats 400000 in
theorem szValS_any (d : Nat) (H : SzVal d) (S : Nat → Prop) (xs : List (Tr d)) (v : Value) (left : Int) (w : World) (hv : RowAt S w (ValAt S w d) v xs) (hS : Within S w) (h0 : 0 ≤ left) (h1 : left ≤ 1048576) :
    Calls Tryz.prog 12 #[v, .int .i64 left] w fun e w' => e = .returned (.int .i64 (szL (szT d) xs left)) ∧ Below w.heap.size w w' := by
  obtain ⟨a, cap, rfl, hlen⟩ := hv.open'
  by_cases hlt : left - xs.length < 0
  · have hfin : Hid (szL (szT d) xs left = -1) := if_pos hlt
    go_enter Tryz.func12, Tryz.ntmps12
    go_wp2_with fail
    go_ret
    rw [hfin.out]
    exact ⟨rfl, Below.refl _ _⟩
  · have hfin : Hid (szL (szT d) xs left = szLGo (szT d) xs (left - xs.length)) := if_neg hlt
    go_enter Tryz.func12, Tryz.ntmps12
    go_wp2_with fail
    go_loopw [1, 5] (fun l i wr => ∃ (k : Nat) (m : Int), k ≤ xs.length ∧ i = .int .i64 k ∧ l = .int .i64 m ∧ 0 ≤ m ∧ m ≤ 1048576 ∧ Hid (szL (szT d) xs left = szLGo (szT d) (xs.drop k) m) ∧ Below w.heap.size w wr) (fun _ i _ => xs.length - (intOf i).toNat)
    case atStart => exact ⟨0, _, Nat.zero_le _, rfl, rfl, by omega, by omega, hfin, Below.refl _ _⟩
    case round =>
      clear hfin
      obtain ⟨k, m, hk, rfl, rfl, hm0, hm1, hfin, hbel⟩ := hrel
      by_cases hkl : k < xs.length
      · have hv' := hv.same (hS.same hbel)
        obtain ⟨b, o, x, c0, c1, c2, c3, c4, rfl, _, hx, e0, e1, e2, e3, e4, hval⟩ := hv'.cell hkl
        have hst : Hid (_ = _) := szLGo_step (szT d) hx m
        have hle := szT_le d x m hm0
        clear hv hv' hx
        go_wp2_with fail
        refine (H S x _ m wr hval (hS.later hbel.size) hm0 hm1).mono ?_
        rintro e w1 ⟨rfl, hb1⟩
        have hb2 : Below w.heap.size w w1 := below_trans hbel hb1
        clear hb1 hbel hval e0 e1 e2 e3 e4
        by_cases hneg : szT d x m < 0
        · go_wp2_with fail
          go_ret
          rw [hfin.out, hst.out, if_pos hneg]
          exact ⟨rfl, hb2⟩
        · go_wp2_with fail
          go_roundw
          case rel => exact ⟨k + 1, szT d x m, by omega, by go_num, rfl, by omega, by omega, by rw [hfin.out, hst.out, if_neg (by omega)]; exact rfl, hb2⟩
          case measure => simp [intOf]; omega
      · go_wp2_with fail
        go_ret
        rw [hfin.out, List.drop_eq_nil_of_le (by omega)]
        exact ⟨rfl, hbel⟩

set_option maxHeartbeats 400000 in
theorem szVal_any : ∀ (d : Nat), SzVal d
  | 0 => fun _ _ _ _ _ h => h.elim
  | d + 1 => by
    intro S t v left w hv hS h0 h1
    have ih := szVal_any d
    obtain ⟨vk, vl, rfl, i1, i2, i3, hk, hl⟩ := hv
    obtain ⟨ak, ck, rfl, hkl⟩ := hk.open'
    obtain ⟨al, cl, rfl, hll⟩ := hl.open'
    by_cases hn1 : left - (Nd.str t).size < 0
    · have hfin : Hid (szT (d + 1) t left = -1) := if_pos hn1
      go_enter Tryz.func4, Tryz.ntmps4
      go_wp2_with fail
      go_ret
      rw [hfin.out]
      exact ⟨rfl, (Below.refl _ _).alloc (Nat.le_refl _) _⟩
    · have hle := szStrs_le (Nd.keys t) (left - (Nd.str t).size) (by omega)
      go_enter Tryz.func4, Tryz.ntmps4
      go_wp2_with fail
      have hba := below_alloc1 w (Obj.cells #[Value.int IntKind.i64 t.kind, Value.int IntKind.i64 t.num, Value.string t.str, Value.slice ak t.keys.length ck, Value.slice al t.list.length cl] 25)
      refine (szStringS_any S t.keys _ _ _ (hk.same (hS.same hba)) hn1 (by omega)).mono ?_
      rintro e w1 ⟨rfl, rfl⟩
      by_cases hn2 : szStrs t.keys (left - t.str.size) < 0
      · have hfin : Hid (szT (d + 1) t left = -1) := by
          show szT (d + 1) t left = -1
          rw [szT, if_neg (by omega), if_pos hn2]
        go_wp2_with fail
        go_ret
        rw [hfin.out]
        exact ⟨rfl, hba⟩
      · have hle2 := szL_le (szT d) (szT_le d) t.list _ (Int.not_lt.1 hn2)
        go_wp2_with fail
        refine (szValS_any d ih S t.list _ _ _ (hl.same (hS.same hba)) (hS.later hba.size) (by omega) (by omega)).mono ?_
        rintro e w1 ⟨rfl, hb1⟩
        have hb2 : Below w.heap.size w w1 := below_trans hba hb1
        by_cases hn3 : szL (szT d) t.list (szStrs t.keys (left - t.str.size)) < 0
        · have hfin : Hid (szT (d + 1) t left = -1) := by
            show szT (d + 1) t left = -1
            rw [szT, if_neg (by omega), if_neg (by omega), if_pos hn3]
          go_wp2_with fail
          go_ret
          rw [hfin.out]
          exact ⟨rfl, hb2⟩
        · have hfin : Hid (szT (d + 1) t left = szL (szT d) t.list (szStrs t.keys (left - t.str.size))) := by
            show szT (d + 1) t left = _
            rw [szT, if_neg (by omega), if_neg (by omega), if_neg hn3]
          go_wp2_with fail
          go_ret
          rw [hfin.out]
          exact ⟨rfl, hb2⟩
end Go.Proofs.YtbcafaomfaainaaGreatDoor
