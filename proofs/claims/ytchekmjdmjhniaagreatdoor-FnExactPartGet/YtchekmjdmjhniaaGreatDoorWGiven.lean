/- given, isNothing: the tree of a value, or a fault. -/
import Derived.Test.YtchekmjdmjhniaaGreatDoorWTold
import Derived.Test.YtchekmjdmjhniaaGreatDoorWAssert
namespace Go.Proofs.YtchekmjdmjhniaaGreatDoor
open Go.RowKit Go.Deep

/-- Why something can not be done. -/
def faultV (why : ByteArray) : Value := .iface 83 (.agg #[.string why])

/-- A tree, or why there is none. -/
def TreeQ2 (d : Nat) (t : Tr d) (ok : Bool) (w : World) (e : Ending) (w' : World) : Prop :=
  Below w.heap.size w w' ∧ ((ok = true ∧ ∃ u, e = .returned (.tuple #[u, .nilIface]) ∧ TreeG (Fresh w w') w' d t u) ∨ (ok = false ∧ ∃ why, e = .returned (.tuple #[.nilIface, faultV why])))

theorem okT_form {d : Nat} {t : Tr d} (h : okT d t = true) : formT d t 6 = true ∧ manyT d t 6 ≤ 60 := by
  unfold okT at h
  simpa using h

set_option maxRecDepth 100000 in
set_option maxHeartbeats 1000000 in
theorem given_any (d : Nat) (S : Nat → Prop) (t : Tr d) (v : Value) (w : World) (hv : ValAt S w d t v) (hS : Within S w) :
    Calls Tryz.prog 50 #[v] w (TreeQ2 d t (okT d t) w) := by
  obtain ⟨k, n, s, ak, lk, ck, al, ll, cl, rfl⟩ := hv.shape
  have hA := below_alloc1 w (.cells #[.int .i64 k, .int .i64 n, .string s, .slice ak lk ck, .slice al ll cl] 29)
  go_enter Tryz.func50, Tryz.ntmps50
  go_wp2_with fail
  refine (treeOf_any d S t _ _ (hv.same (hS.same hA)) (hS.later hA.size)).mono ?_
  rintro e w1 ⟨u, rfl, hu, hb1⟩
  rw [treeP_okT] at hu ⊢
  have HB := hide (below_trans hA hb1)
  have hsz := hA.size
  cases hf : okT d t with
  | false =>
    clear hu hb1 hA hv
    go_wp2_with fail
    go_ret2
    exact ⟨HB.out, Or.inr ⟨hf, _, rfl⟩⟩
  | true =>
    have hG : TreeG (Fresh w w1) w1 d t u := (treeG_of d t 6 u (okT_form hf).1 (okT_form hf).2 (hu hf)).mono (fun b hb => ⟨by have := hb.1; omega, hb.2⟩)
    obtain ⟨T, u', rfl⟩ := hG.iface
    have HG := hide hG
    clear hu hb1 hA hv hG
    go_wp2_with fail
    go_ret2
    exact ⟨HB.out, Or.inl ⟨hf, _, rfl, HG.out⟩⟩

set_option maxRecDepth 100000 in
set_option maxHeartbeats 1000000 in
theorem isNothing_bare (k : Int) (w : World) : Calls Tryz.prog 58 #[.iface 63 (.agg #[.int .i64 k])] w fun e w' => e = .returned (.bool (k == 0)) ∧ Below w.heap.size w w' := by
  have hA := hide (below_alloc1 w (.cells #[.int .i64 k] 63))
  have hs := Tryz.asB_B
  go_enter Tryz.func58, Tryz.ntmps58
  go_wp2_with fail
  go_ret
  exact ⟨rfl, hA.out⟩
set_option maxRecDepth 100000 in
theorem isNothing_num (v : Value) (w : World) : Calls Tryz.prog 58 #[.iface 94 v] w fun e w' => e = .returned (.bool false) ∧ Below w.heap.size w w' := by
  have hs := Tryz.asB_N
  go_enter Tryz.func58, Tryz.ntmps58
  go_wp2_with fail
  go_ret
  exact ⟨rfl, below_alloc1 _ _⟩
set_option maxRecDepth 100000 in
theorem isNothing_str (v : Value) (w : World) : Calls Tryz.prog 58 #[.iface 96 v] w fun e w' => e = .returned (.bool false) ∧ Below w.heap.size w w' := by
  have hs := Tryz.asB_S
  go_enter Tryz.func58, Tryz.ntmps58
  go_wp2_with fail
  go_ret
  exact ⟨rfl, below_alloc1 _ _⟩
set_option maxRecDepth 100000 in
theorem isNothing_row (v : Value) (w : World) : Calls Tryz.prog 58 #[.iface 91 v] w fun e w' => e = .returned (.bool false) ∧ Below w.heap.size w w' := by
  have hs := Tryz.asB_R
  go_enter Tryz.func58, Tryz.ntmps58
  go_wp2_with fail
  go_ret
  exact ⟨rfl, below_alloc1 _ _⟩
set_option maxRecDepth 100000 in
theorem isNothing_map (v : Value) (w : World) : Calls Tryz.prog 58 #[.iface 77 v] w fun e w' => e = .returned (.bool false) ∧ Below w.heap.size w w' := by
  have hs := Tryz.asB_M
  go_enter Tryz.func58, Tryz.ntmps58
  go_wp2_with fail
  go_ret
  exact ⟨rfl, below_alloc1 _ _⟩
end Go.Proofs.YtchekmjdmjhniaaGreatDoor
